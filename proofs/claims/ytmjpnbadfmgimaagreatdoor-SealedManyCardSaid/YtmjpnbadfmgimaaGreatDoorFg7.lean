/- Texts put together: ZerP, ZerA, ZerB, ZerC, ZerD. -/
import Derived.Test.YtmjpnbadfmgimaaGreatDoorFg1
import Derived.Test.YtmjpnbadfmgimaaGreatDoorFg2
import Derived.Tactics
import Derived.Tactics2
import Derived.Defers
import Derived.Recover
import Derived.Laws.Pointers
set_option linter.unusedSimpArgs false
set_option linter.unusedVariables false
set_option maxRecDepth 100000
set_option maxHeartbeats 32000000
namespace Go.Proofs.YtmjpnbadfmgimaaGreatDoor.S5
namespace Pl
def dig (n:Nat):List Int:=if n=0 then [] else (1-((n%2:Nat):Int))::dig ((n-1)/2)
termination_by n
decreasing_by omega
theorem dig_zero:dig 0=[]:=by rw [dig];simp
theorem dig_pos {n:Nat} (h:0<n):dig n=(1-((n%2:Nat):Int))::dig ((n-1)/2):=by rw [dig,if_neg (by omega)]
theorem dig_length (n:Nat):(dig n).length≤n:=by
 induction n using Nat.strongRecOn with
 | ind n ih=>
   by_cases h:n=0
   ·subst h;simp [dig_zero]
   ·rw [dig_pos (by omega)]
    have:=ih ((n-1)/2) (by omega)
    simp only [List.length_cons]
    omega
def enc:List Nat→Nat→List Int
 | [],run=>dig run++[257]
 | c::B,run=>if c=0 then enc B (run+1) else dig run++((c:Int)+1)::enc B 0
theorem enc_nil (run:Nat):enc [] run=dig run++[257]:=rfl
theorem enc_zero (B:List Nat) (run:Nat):enc (0::B) run=enc B (run+1):=by simp [enc]
theorem enc_byte {c:Nat} (h:c≠0) (B:List Nat) (run:Nat):enc (c::B) run=dig run++((c:Int)+1)::enc B 0:=by simp [enc,h]
theorem enc_length (B:List Nat) (run:Nat):(enc B run).length≤B.length+run+1:=by
 induction B generalizing run with
 | nil=>have:=dig_length run;simp [enc];omega
 | cons c B ih=>
   by_cases h:c=0
   ·subst h
    have:=ih (run+1)
    rw [enc_zero];simp;omega
   ·have:=ih 0
    have:=dig_length run
    rw [enc_byte h];simp;omega
def ans:List Int→List Nat→Nat→Nat→Int×List Nat
 | [],_,_,_=>(6,[])
 | x::t,acc,p,left=>
   if x<0∨257<x∨(x=257∧t≠[]) then (6,[])
   else if x=257 then (0,acc)
   else if x≤1 then (if ((left >>> p:Nat):Int)<x+1 then (2,[]) else ans t (acc++List.replicate ((x.toNat+1)*2^p) 0) (p+1) (left-(x.toNat+1)*2^p))
   else if left=0 then (2,[]) else ans t (acc++[(x-1).toNat]) 0 (left-1)
theorem ans_nil (acc:List Nat) (p left:Nat):ans [] acc p left=(6,[]):=rfl
theorem ans_bad {x:Int} {t:List Int} (acc:List Nat) (p left:Nat) (h:x<0∨257<x∨(x=257∧t≠[])):ans (x::t) acc p left=(6,[]):=by
 rw [ans,if_pos h]
theorem ans_end (acc:List Nat) (p left:Nat):ans [257] acc p left=(0,acc):=by simp [ans]
theorem ans_digit {x:Int} {t:List Int} (acc:List Nat) (p left:Nat) (h0:0≤x) (h1:x≤1) (h:(x.toNat+1)*2^p≤left):ans (x::t) acc p left=ans t (acc++List.replicate ((x.toNat+1)*2^p) 0) (p+1) (left-(x.toNat+1)*2^p):=by
 have hs:x.toNat+1≤left >>> p:=by
  rw [Nat.shiftRight_eq_div_pow]
  exact (Nat.le_div_iff_mul_le (Nat.two_pow_pos p)).2 h
 rw [ans,if_neg (by omega),if_neg (by omega),if_pos h1,if_neg (by omega)]
theorem ans_much {x:Int} {t:List Int} (acc:List Nat) (p left:Nat) (h0:0≤x) (h1:x≤1) (h:left<(x.toNat+1)*2^p):ans (x::t) acc p left=(2,[]):=by
 have hs:left >>> p<x.toNat+1:=by
  rw [Nat.shiftRight_eq_div_pow]
  exact (Nat.div_lt_iff_lt_mul (Nat.two_pow_pos p)).2 h
 rw [ans,if_neg (by omega),if_neg (by omega),if_pos h1,if_pos (by omega)]
theorem ans_byte {x:Int} {t:List Int} (acc:List Nat) (p left:Nat) (h0:1<x) (h1:x<257) (h:0<left):ans (x::t) acc p left=ans t (acc++[(x-1).toNat]) 0 (left-1):=by
 rw [ans,if_neg (by omega),if_neg (by omega),if_neg (by omega),if_neg (by omega)]
theorem ans_full {x:Int} {t:List Int} (acc:List Nat) (p:Nat) (h0:1<x) (h1:x<257):ans (x::t) acc p 0=(2,[]):=by
 rw [ans,if_neg (by omega),if_neg (by omega),if_neg (by omega),if_pos rfl]
theorem ans_ok {l:List Int} {acc X:List Nat} {p left:Nat} (h:ans l acc p left=(0,X)):∃ R,X=acc++R∧R.length≤left:=by
 induction l generalizing acc p left with
 | nil=>simp [ans] at h
 | cons x t ih=>
   by_cases h0:x<0∨257<x∨(x=257∧t≠[])
   ·rw [ans_bad _ _ _ h0] at h;simp at h
   ·by_cases h1:x=257
    ·subst h1
     have:t=[]:=by
      cases t with
      | nil=>rfl
      | cons a b=>exact absurd (.inr (.inr ⟨rfl,by simp⟩)) h0
     subst this
     rw [ans_end] at h
     simp at h
     exact ⟨[],by simp [h],by simp⟩
    ·by_cases h2:x≤1
     ·by_cases h3:(x.toNat+1)*2^p≤left
      ·rw [ans_digit _ _ _ (by omega) h2 h3] at h
       obtain ⟨R,rfl,hR⟩:=ih h
       refine ⟨_,by rw [List.append_assoc],?_⟩
       simp;omega
      ·rw [ans_much _ _ _ (by omega) h2 (by omega)] at h;simp at h
     ·by_cases h3:left=0
      ·subst h3
       rw [ans_full _ _ (by omega) (by omega)] at h;simp at h
      ·rw [ans_byte _ _ _ (by omega) (by omega) (by omega)] at h
       obtain ⟨R,rfl,hR⟩:=ih h
       refine ⟨_,by rw [List.append_assoc],?_⟩
       simp;omega
theorem ans_err {l:List Int} {acc:List Nat} {p left:Nat} (h:(ans l acc p left).1≠0):(ans l acc p left).2=[]:=by
 induction l generalizing acc p left with
 | nil=>rfl
 | cons x t ih=>
   unfold ans at h ⊢
   by_cases c1:x<0∨257<x∨(x=257∧t≠[])
   ·rw [if_pos c1]
   ·rw [if_neg c1] at h ⊢
    by_cases c2:x=257
    ·rw [if_pos c2] at h;simp at h
    ·rw [if_neg c2] at h ⊢
     by_cases c3:x≤1
     ·rw [if_pos c3] at h ⊢
      by_cases c4:((left >>> p:Nat):Int)<x+1
      ·rw [if_pos c4]
      ·rw [if_neg c4] at h ⊢;exact ih h
     ·rw [if_neg c3] at h ⊢
      by_cases c4:left=0
      ·rw [if_pos c4]
      ·rw [if_neg c4] at h ⊢;exact ih h
theorem ans_lt {l:List Int} {acc:List Nat} {p left:Nat} (ha:∀ x∈acc,x<256):∀ x∈(ans l acc p left).2,x<256:=by
 induction l generalizing acc p left with
 | nil=>simp [ans]
 | cons x t ih=>
   unfold ans
   split
   ·simp
   ·split
    ·exact ha
    ·split
     ·split
      ·simp
      ·refine ih fun y hy=>?_
       rcases List.mem_append.1 hy with hy | hy
       ·exact ha y hy
       ·have:=List.eq_of_mem_replicate hy;omega
     ·split
      ·simp
      ·refine ih fun y hy=>?_
       rcases List.mem_append.1 hy with hy | hy
       ·exact ha y hy
       ·simp at hy;omega
theorem ans_dig (n:Nat) (R:List Int) (acc:List Nat) (p left:Nat) (h:n*2^p≤left):ans (dig n++R) acc p left=ans R (acc++List.replicate (n*2^p) 0) (p+(dig n).length) (left-n*2^p):=by
 induction n using Nat.strongRecOn generalizing acc p left with
 | ind n ih=>
   by_cases h0:n=0
   ·subst h0;simp [dig_zero]
   ·rw [dig_pos (by omega),List.cons_append]
    have e:n=((1-((n%2:Nat):Int)).toNat+1)+2*((n-1)/2):=by omega
    have hm:n*2^p=((1-((n%2:Nat):Int)).toNat+1)*2^p+(n-1)/2*2^(p+1):=by
     conv=>lhs;rw [e]
     rw [Nat.add_mul,Nat.pow_succ,Nat.mul_comm 2 ((n-1)/2),Nat.mul_assoc,Nat.mul_comm 2 (2^p)]
    rw [ans_digit _ _ _ (by omega) (by omega) (by omega),ih ((n-1)/2) (by omega) _ _ _ (by omega)]
    rw [hm,List.length_cons,List.append_assoc,List.replicate_append_replicate]
    congr 1
    ·omega
    ·omega
end Pl
end Go.Proofs.YtmjpnbadfmgimaaGreatDoor.S5
namespace Go.Proofs.YtmjpnbadfmgimaaGreatDoor.Pl
end Go.Proofs.YtmjpnbadfmgimaaGreatDoor.Pl
namespace Go.Proofs.YtmjpnbadfmgimaaGreatDoor.S5.Pl
end Go.Proofs.YtmjpnbadfmgimaaGreatDoor.S5.Pl
namespace Go.Proofs.YtmjpnbadfmgimaaGreatDoor.S5
open Go.RowKit _root_.Go.Proofs.YtmjpnbadfmgimaaGreatDoor.Pl _root_.Go.Proofs.YtmjpnbadfmgimaaGreatDoor.S5.Pl

def GrownL (base:Nat) (L:List Int) (w:World) (e:Ending) (w':World):Prop:=
 ∃ sp k cap,e=.returned (.slice sp k cap)∧L.length=k∧w'.ownsRow base 3 1 (.slice sp k cap) k (i64s L)∧Below base w w'
theorem run_any (v:Value) (A:List Int) (n base:Nat) (w:World) (ho:w.ownsRow base 3 1 v A.length (i64s A)) (hb:base≤w.heap.size) (hl:A.length+n≤8589934592):
  Calls Tryz.prog 74 #[v,.int .i64 n] w (GrownL base (A++dig n) w):=by
 obtain ⟨sp,cap,rfl,_,_⟩:=ownsRow_slice ho
 have HO:=Lib.hid ho
 clear ho
 go_enter Tryz.func74,Tryz.ntmps74
 go_wp2
 go_loopw [0,1] (fun v x wr=>∃ (B:List Int) (m:Nat),x=.int .i64 m∧B++dig m=A++dig n∧B.length+m≤A.length+n∧wr.ownsRow base 3 1 v B.length (i64s B)∧Below base w wr) (fun _ x _=>(intOf x).toNat)
 case atStart=>exact ⟨A,n,rfl,rfl,Nat.le_refl _,HO.out,Below.refl _ _⟩
 case round=>
  obtain ⟨B,m,rfl,he,hlen,ho,hbel⟩:=hrel
  obtain ⟨sp,cap,rfl,_,_⟩:=ownsRow_slice ho
  have HE:=Lib.hid he
  have HO2:=Lib.hid ho
  have HB:=Lib.hid hbel
  have hsz:base≤wr.heap.size:=Nat.le_trans hb hbel.size
  clear HO he ho hbel
  by_cases hm:0<m
  ·have hd:=dig_pos hm
   have h0:(0:Int)<(m:Int):=by omega
   have e1:((m:Nat):Int).tmod 2=((m%2:Nat):Int):=by rw [Int.tmod_eq_emod_of_nonneg (by omega)];omega
   have hb2:m%2<2:=by omega
   generalize hq:m%2=q at*
   have e2:(2:Int)-(q:Int)-1=1-(q:Int):=by omega
   have e3:((m:Int)-(2-(q:Int))).tdiv 2=(((m-1)/2:Nat):Int):=by rw [Int.tdiv_eq_ediv_of_nonneg (by omega)];omega
   clear hd
   go_wp2_with (at_builtin;refine wpList_append_int rfl (.tmp 11) (.tmp 14) rfl base (.slice sp B.length cap) B.length B (1-(q:Int)) rfl HO2.out _ rfl rfl (by omega) hsz ?_;intro v' w1 hown hgr)
   go_roundw
   case rel=>
    refine ⟨B++[1-(q:Int)],(m-1)/2,by simp,?_,by simp;omega,by simpa using hown,bel_append HB.out _ HO2.out hgr hsz⟩
    rw [← HE.out,dig_pos hm,hq,List.append_assoc,List.singleton_append]
   case measure=>simp [intOf];omega
  ·obtain rfl:m=0:=by omega
   have HF:=Lib.hid (show B=A++dig n by rw [← HE.out,dig_zero,List.append_nil])
   go_wp2
   go_ret
   rw [← HF.out]
   exact ⟨sp,_,cap,rfl,rfl,HO2.out,HB.out⟩

theorem encode_any (v:Value) (B:List Nat) (w:World) (hv:IsBytes w v B) (hB:B.length≤4294967296):
  Calls Tryz.prog 54 #[v] w (MadeL (enc B 0) w):=by
 obtain ⟨a,cap,rfl,hcap,hmax⟩:=hv.slice
 unfold maxLen at hmax
 have HV:=Lib.hid hv
 clear hv
 go_enter Tryz.func54,Tryz.ntmps54
 go_wp2
 go_loopw [3,4,9] (fun v x y wr=>∃ (L:List Int) (run i:Nat),i≤B.length∧x=.int .i64 run∧y=.int .i64 i∧L++enc (B.drop i) run=enc B 0∧L.length+run≤i∧wr.ownsRow w.heap.size 3 1 v L.length (i64s L)∧Below w.heap.size w wr) (fun _ _ y _=>B.length-(intOf y).toNat)
 case atStart=>exact ⟨[],0,0,by omega,rfl,rfl,rfl,by simp,own_nilI _ _,Below.refl _ _⟩
 case round=>
  obtain ⟨L,run,i,hi,rfl,rfl,he,hlen,ho,hbel⟩:=hrel
  obtain ⟨sp,cp,rfl,_,_⟩:=ownsRow_slice ho
  have HE:=Lib.hid he
  have HO:=Lib.hid ho
  have HB:=Lib.hid hbel
  have hsz:=hbel.size
  clear he ho hbel
  obtain ⟨wo,hwo⟩:∃ wo,wo=wr:=⟨_,rfl⟩
  subst hwo
  by_cases hlt:i<B.length
  ·obtain ⟨bb,off,cap',hs,_,_,_,hc⟩:=(HV.out.below HB.out).cells (by omega)
   simp at hs
   obtain ⟨rfl,rfl⟩:=hs
   have c0:=hc i hlt
   have hx:=getD_lt HV.out.1 i
   have hdr:B.drop i=B.getD i 0::B.drop (i+1):=by
    rw [List.drop_eq_getElem_cons hlt];simp [List.getD,hlt]
   rw [hdr] at HE
   generalize B.getD i 0=x at*
   clear hc hdr
   by_cases hz:x=0
   ·subst hz
    rw [enc_zero] at HE
    have HE2:=HE
    go_wp2_with fail
    go_roundw
    case rel=>exact ⟨L,run+1,i+1,by omega,by go_num,by go_num,HE2.out,by omega,HO.out,HB.out⟩
    case measure=>simp [intOf];omega
   ·rw [enc_byte hz] at HE
    have hz1:((x:Int)==0)=false:=beq_f (by omega)
    go_wp2_with fail
    refine (run_any _ L run w.heap.size wo HO.out hsz (by omega)).mono ?_
    rintro e w2 ⟨sp2,k2,cp2,rfl,hk2,ho2,hb2⟩
    have HO2:=Lib.hid ho2
    have hsz2:w.heap.size≤w2.heap.size:=Nat.le_trans hsz hb2.size
    have HB2:=Lib.hid (HB.out.trans hb2)
    have hdl:=dig_length run
    rw [List.length_append] at hk2
    have hk3:k2≤i:=by omega
    clear HO HB ho2 hb2 c0 hdl
    go_wp2_with (at_builtin;refine wpList_append_int rfl (.tmp 19) (.tmp 23) rfl w.heap.size _ k2 _ ((x:Int)+1) rfl HO2.out _ rfl rfl (by omega) hsz2 ?_;intro v' w3 hown hgr)
    go_roundw
    case rel=>
     refine ⟨L++dig run++[(x:Int)+1],0,i+1,by omega,by go_num,by go_num,?_,by simp;omega,?_,bel_append HB2.out _ HO2.out hgr hsz2⟩
     ·rw [← HE.out];simp
     ·rw [List.length_append,List.length_append,hk2];exact hown
    case measure=>simp [intOf];omega
  ·obtain rfl:i=B.length:=by omega
   rw [List.drop_length,enc_nil] at HE
   go_wp2_with fail
   refine (run_any _ L run w.heap.size wo HO.out hsz (by omega)).mono ?_
   rintro e w2 ⟨sp2,k2,cp2,rfl,hk2,ho2,hb2⟩
   have HO2:=Lib.hid ho2
   have hsz2:w.heap.size≤w2.heap.size:=Nat.le_trans hsz hb2.size
   have HB2:=Lib.hid (HB.out.trans hb2)
   have hdl:=dig_length run
   rw [List.length_append] at hk2
   have hk3:k2≤B.length:=by omega
   clear HO HB ho2 hb2 hdl
   go_wp2_with (at_builtin;refine wpList_append_int rfl (.tmp 28) (.tmp 29) rfl w.heap.size _ k2 _ 257 rfl HO2.out _ rfl rfl (by omega) hsz2 ?_;intro v' w3 hown hgr)
   go_ret
   obtain ⟨sp3,cp3,rfl,_,_⟩:=ownsRow_slice hown
   rw [← HE.out]
   refine ⟨sp3,_,cp3,rfl,?_,?_,bel_append HB2.out _ HO2.out hgr hsz2⟩
   ·simp;omega
   ·rw [← List.append_assoc];exact hown

theorem caught_none (p:Addr) (x:Bool) (w:World) (hc:w.cell? p=some (.bool x)) (hz:w.frozen? p=false):
  CallsD Tryz.prog 149 #[.pointer (some p)] .returning w fun e u' w'=>
   e=.returned (.tuple #[])∧u'=.returning∧w'=w.setCell p (.bool true):=by
 refine callsD_of_wpS Tryz.func149 rfl fun c₀ cs hu=>?_
 apply wpS_region
 simp [wpOpsS,go_sem,recoverD,hu,Tryz.ntmps149,Exit.thenS,hc,hz]
 cases c₀
 simp_all [bodyPostS,results,Tryz.results149]

theorem zeroBytes_any (n:Nat) (w:World) (hn:n≤4294967296):
  Calls Tryz.prog 136 #[.int .i64 n] w fun e w'=>∃ g,e=.returned (.tuple #[.slice (some ⟨g,0,none⟩) n n,.bool true])∧w.heap.size≤g∧Blk w' g 5 (u8s (List.replicate n 0))∧Below w.heap.size w w':=by
 have hmf:∀ (fn:Fn) (first cap:Array Value) (w:World),(Instr.makeFunc fn first cap).run Tryz.prog w=.ok (.func fn first cap) w:=fun _ _ _ _=>rfl
 obtain ⟨i0,hi,hz0,hz1,hz2⟩:=info_parts info5
 have Hi:=Lib.hid hi
 have Hz0:=Lib.hid hz0
 have Hz1:=Lib.hid hz1
 have Hz2:=Lib.hid hz2
 clear hi hz0 hz1 hz2
 go_enter_defers Tryz.func136,Tryz.ntmps136
 go_wp2_with (at_make;refine wpList_make_full _ rfl _ _ 27 rfl w.heap.size 5 i0 (.int .u8 0) 1 Tryz.underlying27 Hi.out Hz0.out Hz1.out .i64 .i64 _ _ n rfl rfl rfl rfl (by rw [Hz2.out];omega) (by unfold maxLen;omega) (by simp) ?_;intro w1 hown hgr;have HBk:Hid (Blk w1 w.heap.size 4 [.bool false]):=Lib.hid ((Blk.new w _ _).grown hgr (by simp));have c0:w1.cell? ⟨w.heap.size,0,none⟩=some (.bool false):=HBk.out.cell (by rfl);have f0:=HBk.out.frozen 0)
 refine leaves_cons (f:=149) (args:=#[.pointer (some ⟨w.heap.size,0,none⟩)]) (by simp) (by simp [go_sem]) ?_
 have hB2:=HBk.out.set 0 (.bool true)
 refine (caught_none ⟨w.heap.size,0,none⟩ true _ (hB2.cell (by rfl)) (hB2.frozen 0)).mono ?_
 rintro e u' w'' ⟨rfl,rfl,rfl⟩
 have hB3:=hB2.set 0 (.bool true)
 have c3:=hB3.cell (o:=0) (by rfl)
 simp [Leaves,settle,results,Tryz.results136,go_sem]
 rw [c3]
 have hsz:(w.alloc (.cells #[.bool false] 4)).heap.size=w.heap.size+1:=by simp
 rw [made_list,hsz] at hown
 have h1:=own_gr hown ((Gr.refl _ _).setCell 0 (.bool true)) HBk.out (by decide)
 have h2:=own_gr h1 ((Gr.refl _ _).setCell 0 (.bool true)) hB2 (by decide)
 refine ⟨_,rfl,_,rfl,by omega,?_,?_⟩
 ·simpa [u8s] using made_blk h2
 ·have hb1:Below w.heap.size w w1:=((Below.refl _ _).alloc (Nat.le_refl _) _).grown hgr (by simp) (by simp)
  exact (hb1.setCell (Nat.le_refl _) _).setCell (Nat.le_refl _) _
namespace Pl
def room (r:Int×List Nat) (most:Nat):Int:=if r.1=0 then ((most-r.2.length:Nat):Int) else 0
theorem drop_cons {L:List Int} {i:Nat} (h:i<L.length):L.drop i=L.getD i 0::L.drop (i+1):=by
 rw [List.drop_eq_getElem_cons h];simp [List.getD,h]
theorem drop_ne {L:List Int} {i:Nat} (h:i+1<L.length):L.drop (i+1)≠[]:=by
 intro e
 have:=congrArg List.length e
 simp at this;omega
theorem shr_nat (left p:Nat):((left:Nat):Int)/2^p=((left >>> p:Nat):Int):=by
 rw [Nat.shiftRight_eq_div_pow];simp
theorem fits_shr {left p d:Nat}:d≤left >>> p↔d*2^p≤left:=by
 rw [Nat.shiftRight_eq_div_pow]
 exact Nat.le_div_iff_mul_le (Nat.two_pow_pos p)
theorem fits_small {left p d:Nat} (h:(d+1)*2^p≤left) (hl:left≤4294967296):p≤32:=by
 have h1:2^p≤2^32:=by
  have:2^p≤(d+1)*2^p:=Nat.le_mul_of_pos_left _ (by omega)
  omega
 exact (Nat.pow_le_pow_iff_right (by omega)).1 h1
end Pl
theorem shl_one {x:Int} {p left:Nat} (h0:0≤x) (h:(x.toNat+1)*2^p≤left) (hl:left≤4294967296):wrap64 ((x+1)*2^min p 64)=(((x.toNat+1)*2^p:Nat):Int):=by
 have hp:=fits_small h hl
 rw [Nat.min_eq_left (by omega)]
 have e:((((x.toNat+1)*2^p:Nat)):Int)=(x+1)*2^p:=by
  rw [Int.natCast_mul,Int.natCast_pow]
  congr 1
  omega
 rw [← e]
 generalize (x.toNat+1)*2^p=q at*
 unfold wrap64
 omega
theorem shl_fits {x:Int} {p left:Nat} (h0:0≤x) (h:(x.toNat+1)*2^p≤left) (hl:left≤4294967296):wrap64 ((left:Int)-wrap64 ((x+1)*2^min p 64))=((left-(x.toNat+1)*2^p:Nat):Int):=by
 rw [shl_one h0 h hl]
 generalize (x.toNat+1)*2^p=q at*
 unfold wrap64
 omega
theorem room_any (v:Value) (L:List Int) (most:Nat) (w:World) (hv:IsInts w v L) (hL:L.length≤4294967296) (hm:most≤4294967296):
  Calls Tryz.prog 135 #[v,.int .i64 most] w fun e w'=>e=.returned (.tuple #[.int .i64 (room (ans L [] 0 most) most),.int .i64 (ans L [] 0 most).1])∧w=w':=by
 obtain ⟨a,cap,rfl,hcap,hmax⟩:=hv.slice
 unfold maxLen at hmax
 have HV:=Lib.hid hv
 clear hv
 go_enter Tryz.func135,Tryz.ntmps135
 go_wp2
 go_loopw [6,7,14] (fun x y z wr=>∃ (acc:List Nat) (left p i:Nat),i≤L.length∧x=.int .i64 left∧y=.int .i64 p∧z=.int .i64 i∧ans (L.drop i) acc p left=ans L [] 0 most∧acc.length+left=most∧p≤i∧wr=w) (fun _ _ z _=>L.length-(intOf z).toNat)
 case atStart=>exact ⟨[],most,0,0,by omega,rfl,rfl,rfl,rfl,by simp,by omega,rfl⟩
 case round=>
  obtain ⟨acc,left,p,i,hi,rfl,rfl,rfl,he,hlen,hp,rfl⟩:=hrel
  have HE:=Lib.hid he
  clear he
  by_cases hlt:i<L.length
  ·obtain ⟨bb,off,cap',hs,_,_,_,hc⟩:=HV.out.cells (by omega)
   simp at hs
   obtain ⟨rfl,rfl⟩:=hs
   have c0:=hc i hlt
   rw [drop_cons hlt] at HE
   have hne:i+1<L.length→L.drop (i+1)≠[]:=drop_ne
   have hnil:¬ i+1<L.length→L.drop (i+1)=[]:=fun h=>List.drop_eq_nil_of_le (by omega)
   generalize L.getD i 0=x at*
   generalize hT:L.drop (i+1)=T at*
   clear hc
   by_cases h0:x<0
   ·have hr:ans L [] 0 most=(6,[]):=by rw [← HE.out,ans_bad _ _ _ (.inl h0)]
    go_wp2
    go_ret2
    first | exact ⟨rfl,rfl⟩ | (rw [hr];exact ⟨rfl,rfl⟩)
   by_cases h1:257<x
   ·have hr:ans L [] 0 most=(6,[]):=by rw [← HE.out,ans_bad _ _ _ (.inr (.inl h1))]
    go_wp2
    go_ret2
    first | exact ⟨rfl,rfl⟩ | (rw [hr];exact ⟨rfl,rfl⟩)
   by_cases h2:x=257
   ·subst h2
    by_cases h3:i+1<L.length
    ·have hr:ans L [] 0 most=(6,[]):=by rw [← HE.out,ans_bad _ _ _ (.inr (.inr ⟨rfl,hne h3⟩))]
     have h4:(i:Int)<(L.length:Int)-1:=by omega
     go_wp2
     go_ret2
     first | exact ⟨rfl,rfl⟩ | (rw [hr];exact ⟨rfl,rfl⟩)
    ·have hr:ans L [] 0 most=(0,acc):=by rw [← HE.out,hnil h3,ans_end]
     have h4:¬ ((i:Int)<(L.length:Int)-1):=by omega
     go_wp2
     go_ret2
     have h6:room (0,acc) most=(left:Int):=by
      have h5:left=most-acc.length:=by omega
      rw [h5];rfl
     first | (rw [h6];exact ⟨rfl,rfl⟩) | (rw [hr,h6];exact ⟨rfl,rfl⟩)
   have h2t:(x==257)=false:=beq_f h2
   by_cases h3:x≤1
   ·have hd:((x.toNat+1:Nat):Int)=x+1:=by omega
    by_cases h4:(x.toNat+1)*2^p≤left
    ·have hr:=ans_digit (t:=T) acc p left (by omega) h3 h4
     have h5:¬ (left:Int)/2^min p 64<x+1:=by
      rw [Nat.min_eq_left (by have:=fits_small h4 (by omega);omega),shr_nat];have:=fits_shr.2 h4;omega
     have hs:=shl_fits (x:=x) (by omega) h4 (by omega)
     go_wp2
     go_roundw
     case rel=>
      refine ⟨acc++List.replicate ((x.toNat+1)*2^p) 0,left-(x.toNat+1)*2^p,p+1,i+1,by omega,?_,by go_num,by go_num,by rw [hT,← hr];exact HE.out,by simp;omega,by omega,trivial⟩
      rw [hs]
     case measure=>simp [intOf];omega
    ·have hr:ans L [] 0 most=(2,[]):=by rw [← HE.out,ans_much _ _ _ (by omega) h3 (by omega)]
     have h5:(left:Int)/2^min p 64<x+1:=by
      rw [shr_nat]
      by_cases hp64:p≤64
      ·rw [Nat.min_eq_left hp64];have:=mt fits_shr.1 h4;omega
      ·rw [Nat.min_eq_right (by omega),Nat.shiftRight_eq_div_pow,Nat.div_eq_of_lt (by omega)];omega
     go_wp2
     go_ret2
     first | exact ⟨rfl,rfl⟩ | (rw [hr];exact ⟨rfl,rfl⟩)
   by_cases h4:left=0
   ·subst h4
    have hr:ans L [] 0 most=(2,[]):=by rw [← HE.out,ans_full (x:=x) _ _ (by omega) (by omega)]
    go_wp2
    go_ret2
    first | exact ⟨rfl,rfl⟩ | (rw [hr];exact ⟨rfl,rfl⟩)
   ·have hr:=ans_byte (x:=x) (t:=T) acc p left (by omega) (by omega) (by omega)
    have h5:((left:Int)==0)=false:=beq_f (by omega)
    have h6:((left-1:Nat):Int)=(left:Int)-1:=by omega
    go_wp2
    go_roundw
    case rel=>exact ⟨acc++[(x-1).toNat],left-1,0,i+1,by omega,by rw [h6],by go_num,by go_num,by rw [hT,← hr];exact HE.out,by simp;omega,by omega,trivial⟩
    case measure=>simp [intOf];omega
  ·obtain rfl:i=L.length:=by omega
   have hr:ans L [] 0 most=(6,[]):=by rw [← HE.out,List.drop_length,ans_nil]
   go_wp2
   go_ret2
   first | exact ⟨rfl,rfl⟩ | (rw [hr];exact ⟨rfl,rfl⟩)
namespace Pl
theorem step_digit {x:Int} {t:List Int} {acc X:List Nat} {p left:Nat} (h:ans (x::t) acc p left=(0,X)) (ht:t≠[]) (h1:x≤1):
  0≤x∧(x.toNat+1)*2^p≤left∧ans t (acc++List.replicate ((x.toNat+1)*2^p) 0) (p+1) (left-(x.toNat+1)*2^p)=(0,X):=by
 by_cases h0:x<0
 ·rw [ans_bad _ _ _ (.inl h0)] at h;simp at h
 ·by_cases h2:(x.toNat+1)*2^p≤left
  ·rw [ans_digit _ _ _ (by omega) h1 h2] at h
   exact ⟨by omega,h2,h⟩
  ·rw [ans_much _ _ _ (by omega) h1 (by omega)] at h;simp at h
theorem step_byte {x:Int} {t:List Int} {acc X:List Nat} {p left:Nat} (h:ans (x::t) acc p left=(0,X)) (ht:t≠[]) (h1:¬ x≤1):
  x<257∧0<left∧ans t (acc++[(x-1).toNat]) 0 (left-1)=(0,X):=by
 by_cases h0:257≤x
 ·have h5:x<0∨257<x∨(x=257∧t≠[]):=by
   rcases (show x=257∨257<x by omega) with e | e
   ·exact .inr (.inr ⟨e,ht⟩)
   ·exact .inr (.inl e)
  rw [ans_bad _ _ _ h5] at h;simp at h
 ·by_cases h2:left=0
  ·subst h2
   rw [ans_full _ _ (by omega) (by omega)] at h;simp at h
  ·rw [ans_byte _ _ _ (by omega) (by omega) (by omega)] at h
   exact ⟨by omega,by omega,h⟩
theorem step_last {x:Int} {acc X:List Nat} {p left:Nat} (h:ans [x] acc p left=(0,X)):acc=X:=by
 by_cases h0:x=257
 ·subst h0;rw [ans_end] at h;simpa using h
 ·by_cases h1:x<0∨257<x
  ·rw [ans_bad _ _ _ (by omega)] at h;simp at h
  ·by_cases h2:x≤1
   ·by_cases h3:(x.toNat+1)*2^p≤left
    ·rw [ans_digit _ _ _ (by omega) h2 h3] at h;simp [ans] at h
    ·rw [ans_much _ _ _ (by omega) h2 (by omega)] at h;simp at h
   ·by_cases h3:left=0
    ·subst h3;rw [ans_full _ _ (by omega) (by omega)] at h;simp at h
    ·rw [ans_byte _ _ _ (by omega) (by omega) (by omega)] at h;simp [ans] at h
def laid (acc:List Nat) (n:Nat):List Nat:=acc++List.replicate (n-acc.length) 0
theorem laid_zeros (acc:List Nat) (n k:Nat) (h:acc.length+k≤n):laid (acc++List.replicate k 0) n=laid acc n:=by
 unfold laid
 rw [List.length_append,List.length_replicate,List.append_assoc,List.replicate_append_replicate]
 congr 2
 omega
theorem laid_set (acc:List Nat) (n c:Nat) (h:acc.length<n):(laid acc n).set acc.length c=laid (acc++[c]) n:=by
 unfold laid
 rw [List.set_append_right _ _ (Nat.le_refl _),Nat.sub_self,show n-acc.length=n-(acc.length+1)+1 by omega,List.replicate_succ,List.set_cons_zero,List.length_append,List.append_assoc]
 rfl
theorem laid_all (acc:List Nat):laid acc acc.length=acc:=by simp [laid]
theorem laid_length (acc:List Nat) (n:Nat) (h:acc.length≤n):(laid acc n).length=n:=by simp [laid];omega
end Pl
theorem add_fits {x:Int} {p left at_:Nat} (h0:0≤x) (h:(x.toNat+1)*2^p≤left) (hl:at_+left≤4294967296):wrap64 ((at_:Int)+wrap64 ((x+1)*2^min p 64))=((at_+(x.toNat+1)*2^p:Nat):Int):=by
 rw [shl_one h0 h (by omega)]
 generalize (x.toNat+1)*2^p=q at*
 unfold wrap64
 omega

attribute [local go_sem ↓] sliceI_eq
theorem fill_any (g n:Nat) (v:Value) (L:List Int) (X:List Nat) (most:Nat) (w0 w:World) (hv:IsInts w0 v L) (hL:L.length≤4294967296) (hm:most≤4294967296) (hb:Below w0.heap.size w0 w) (hg:w0.heap.size≤g)
  (hX:ans L [] 0 most=(0,X)) (hn:X.length=n) (hB:Blk w g 5 (u8s (List.replicate n 0))):
  Calls Tryz.prog 137 #[.slice (some ⟨g,0,none⟩) n n,v] w fun e w'=>e=.returned (.tuple #[])∧Blk w' g 5 (u8s X)∧Below w0.heap.size w0 w':=by
 obtain ⟨a,cap,rfl,hcap,hmax⟩:=hv.slice
 unfold maxLen at hmax
 have hpos:0<L.length:=by
  cases L with
  | nil=>simp [ans] at hX
  | cons x t=>simp
 obtain ⟨a1,c1,hsl,hI⟩:=run_uptoI (hv.below hb) rfl (L.length-1) ((L.length:Int)-1) (by omega) (by omega)
 have HI:Hid (IsInts w0 (.slice a1 (L.length-1) c1) (L.take (L.length-1))):=Lib.hid (by
  obtain ⟨a2,c2,hs2,hI2⟩:=run_uptoI hv rfl (L.length-1) ((L.length:Int)-1) (by omega) (by omega)
  have e:=(hsl w0).symm.trans (hs2 w0)
  simp at e
  rw [e.1,e.2];exact hI2)
 have HX:=Lib.hid hX
 have HN:=Lib.hid hn
 have HB0:=Lib.hid hB
 have HBe:=Lib.hid hb
 clear hX hn hB hb hI hv
 go_enter Tryz.func137,Tryz.ntmps137
 go_wp2
 go_loopw [4,5,14] (fun x y z wr=>∃ (acc:List Nat) (left p i:Nat),i≤L.length-1∧x=.int .i64 acc.length∧y=.int .i64 p∧z=.int .i64 i∧ans (L.drop i) acc p left=(0,X)∧acc.length+left=most∧p≤i∧Blk wr g 5 (u8s (laid acc n))∧Below w0.heap.size w0 wr) (fun _ _ z _=>L.length-(intOf z).toNat)
 case atStart=>exact ⟨[],most,0,0,by omega,rfl,rfl,rfl,HX.out,by simp,by omega,by simpa [laid] using HB0.out,HBe.out⟩
 case round=>
  obtain ⟨acc,left,p,i,hi,rfl,rfl,rfl,he,hlen,hp,hB,hb⟩:=hrel
  have HE:=Lib.hid he
  have HB:=Lib.hid hB
  have HBel:=Lib.hid hb
  clear HB0 HBe he hB hb hsl
  by_cases hlt:i<L.length-1
  ·have hli:(L.take (L.length-1)).length=L.length-1:=by simp
   obtain ⟨bb,off,cap',hs,_,_,_,hc⟩:=(HI.out.below HBel.out).cells (by omega)
   simp at hs
   obtain ⟨⟨rfl,_⟩,rfl⟩:=hs
   have c0:=hc i (by omega)
   have hgt:(L.take (L.length-1)).getD i 0=L.getD i 0:=by
    simp only [List.getD_eq_getElem?_getD,List.getElem?_take_of_lt hlt]
   rw [hgt] at c0
   rw [drop_cons (by omega)] at HE
   have hne:L.drop (i+1)≠[]:=drop_ne (by omega)
   have hlI:(i:Int)<((L.length-1:Nat):Int):=by omega
   generalize L.getD i 0=x at*
   generalize hT:L.drop (i+1)=T at*
   clear hc hgt hli
   by_cases h1:x≤1
   ·obtain ⟨h0,hf,he2⟩:=step_digit HE.out hne h1
    obtain ⟨R,hR,_⟩:=ans_ok he2
    have hxl:acc.length+(x.toNat+1)*2^p≤n:=by
     have:=HN.out
     rw [hR] at this
     simp at this;omega
    have HE2:=Lib.hid he2
    have hs:=add_fits (at_:=acc.length) h0 hf (by omega)
    clear hR he2
    go_wp2
    go_roundw
    case rel=>
     refine ⟨acc++List.replicate ((x.toNat+1)*2^p) 0,left-(x.toNat+1)*2^p,p+1,i+1,by omega,?_,by go_num,by go_num,by rw [hT];exact HE2.out,by simp;omega,by omega,by rw [laid_zeros _ _ _ hxl];exact HB.out,HBel.out⟩
     rw [hs,List.length_append,List.length_replicate]
    case measure=>simp [intOf];omega
   ·obtain ⟨h2,hf,he2⟩:=step_byte HE.out hne h1
    obtain ⟨R,hR,_⟩:=ans_ok he2
    have hxl:acc.length<n:=by
     have:=HN.out
     rw [hR] at this
     simp at this;omega
    have HE2:=Lib.hid he2
    have hm256:(x-1)%256=x-1:=by omega
    have c1:=HB.out.cell (u8s_get (laid acc n) acc.length (by rw [laid_length _ _ (by omega)];exact hxl))
    have f1:=HB.out.frozen acc.length
    generalize (laid acc n).getD acc.length 0=y at*
    clear hR he2
    go_wp2
    have hB2:=HB.out.set acc.length (.int .u8 ((x-1).toNat:Nat))
    have ex:(((x-1).toNat:Nat):Int)=x-1:=by omega
    rw [u8s_set,laid_set _ _ _ hxl,ex] at hB2
    go_roundw
    case rel=>
     refine ⟨acc++[(x-1).toNat],left-1,0,i+1,by omega,by simp,by go_num,by go_num,by rw [hT];exact HE2.out,by simp;omega,by omega,hB2,HBel.out.setCell hg _⟩
    case measure=>simp [intOf];omega
  ·have hlI:¬ (i:Int)<((L.length-1:Nat):Int):=by omega
   have hXe:acc=X:=by
    have h:=HE.out
    rw [drop_cons (by omega),List.drop_eq_nil_of_le (by omega)] at h
    exact step_last h
   have HF:Hid (Blk wr g 5 (u8s X)):=Lib.hid (by
    have h:=HB.out
    rw [← HN.out,← hXe,laid_all,hXe] at h;exact h)
   clear hXe
   go_wp2
   go_end0
   exact ⟨rfl,HF.out,HBel.out⟩

def DecPost (L:List Int) (most:Nat) (w:World) (e:Ending) (w':World):Prop:=
 ∃ v,e=.returned (.tuple #[v,.int .i64 (ans L [] 0 most).1])∧IsBytes w' v (ans L [] 0 most).2∧Below w.heap.size w w'
theorem decPost_mk {L:List Int} {M:Nat} {w w':World} {r:Int} {X:List Nat} {v:Value} (hA:ans L [] 0 M=(r,X)) (h1:IsBytes w' v X) (h2:Below w.heap.size w w'):DecPost L M w (.returned (.tuple #[v,.int .i64 r])) w':=by
 unfold DecPost
 rw [hA]
 exact ⟨v,rfl,h1,h2⟩
theorem blk_bytes {w:World} {g n:Nat} {X:List Nat} (h:Blk w g 5 (u8s X)) (hx:∀ x∈X,x<256) (hn:X.length=n) (hm:n≤maxLen):IsBytes w (.slice (some ⟨g,0,none⟩) n n) X:=by
 subst hn
 refine ⟨hx,.inr ⟨_,_,rfl,Nat.le_refl _,hm,fun i u hu=>?_⟩⟩
 have hadd:(⟨g,0,none⟩:Addr).add i=⟨g,i,none⟩:=by unfold Addr.add;split <;> simp_all
 rw [hadd]
 exact h.cell hu

def maxZ (ats:Array TypeId) (ty:TypeId) (v:Value):Sem Value:=Builtin.max_ ats ty #[v,.int .i64 0]
theorem maxZ_eq (ats:Array TypeId) (ty:TypeId) (v:Value):Builtin.max_ ats ty #[v,.int .i64 0]=maxZ ats ty v:=rfl
theorem run_maxZ (ats:Array TypeId) (ty:TypeId) (m:Int) (w:World):(maxZ ats ty (.int .i64 m)).run Tryz.prog w=.ok (.int .i64 (m.toNat:Nat)) w:=by
 unfold maxZ Builtin.max_
 by_cases h:m<0
 ·have e:((m.toNat:Nat):Int)=0:=by omega
  rw [e]
  simp [Builtin.max2,h]
 ·have e:((m.toNat:Nat):Int)=m:=by omega
  rw [e]
  simp [Builtin.max2,h]
attribute [local go_sem ↓] maxZ_eq
theorem decode_any (v:Value) (L:List Int) (m:Int) (w:World) (hv:IsInts w v L) (hL:L.length≤4294967296) (hm:m≤4294967296):
  Calls Tryz.prog 107 #[v,.int .i64 m] w (DecPost L m.toNat w):=by
 obtain ⟨a,cap,rfl,hcap,hmax⟩:=hv.slice
 unfold maxLen at hmax
 have HV:=Lib.hid hv
 have hmx:=fun ats ty W=>run_maxZ ats ty m W
 obtain ⟨M,hM⟩:∃ M,M=m.toNat:=⟨_,rfl⟩
 rw [← hM] at hmx ⊢
 have hM32:M≤4294967296:=by omega
 clear hv hM hm
 go_enter Tryz.func107,Tryz.ntmps107
 go_wp2_with fail
 refine (room_any _ L M w HV.out hL hM32).mono ?_
 rintro e w1 ⟨rfl,rfl⟩
 obtain ⟨r,X,hA⟩:∃ r X,ans L [] 0 M=(r,X):=⟨_,_,rfl⟩
 have hlt:=ans_lt (l:=L) (acc:=[]) (p:=0) (left:=M) (by simp)
 rw [hA]
 rw [hA] at hlt
 by_cases hr:r=0
 ·subst hr
  obtain ⟨R,hR,hRM⟩:=ans_ok hA
  rw [List.nil_append] at hR
  subst hR
  obtain ⟨q,hq⟩:∃ q:Nat,room (0,X) M=q:=⟨_,rfl⟩
  have hq2:q=M-X.length:=by
   have:room (0,X) M=((M-X.length:Nat):Int):=rfl
   omega
  have hsub:(M:Int)-(q:Int)=(X.length:Int):=by omega
  rw [hq]
  have HA:=Lib.hid hA
  clear hA hq hq2
  go_wp2_with fail
  refine (zeroBytes_any X.length w (by omega)).mono ?_
  rintro e w2 ⟨g,rfl,hg,hB2,hb2⟩
  have HB2:=Lib.hid hB2
  have Hb2:=Lib.hid hb2
  clear hB2 hb2
  go_wp2_with fail
  refine (fill_any g X.length _ L X M w w2 HV.out hL hM32 Hb2.out hg HA.out rfl HB2.out).mono ?_
  rintro e w3 ⟨rfl,hB3,hb3⟩
  have HB3:=Lib.hid hB3
  have Hb3:=Lib.hid hb3
  clear hB3 hb3
  go_wp2_with fail
  go_ret2
  exact decPost_mk HA.out (blk_bytes HB3.out hlt rfl (by unfold maxLen;omega)) Hb3.out
 ·have hX:=ans_err (l:=L) (acc:=[]) (p:=0) (left:=M) (by rw [hA];exact hr)
  rw [hA] at hX
  simp only at hX
  subst hX
  have hrm:room (r,[]) M=0:=by simp [room,hr]
  have hb:(r != 0)=true:=bne_t hr
  rw [hrm]
  have HA:=Lib.hid hA
  clear hA
  go_wp2_with fail
  go_ret2
  exact decPost_mk HA.out (isBytes_nil _) (Below.refl _ _)
end Go.Proofs.YtmjpnbadfmgimaaGreatDoor.S5

/- Texts put together: NumP, NumA, NumB, NumC, NumD, NumE. -/
import Derived.Test.YtmjpnbadfmgimaaGreatDoorFg1
set_option linter.unusedSimpArgs false
set_option linter.unusedVariables false
set_option maxRecDepth 100000
set_option maxHeartbeats 32000000
namespace Go.Proofs.YtmjpnbadfmgimaaGreatDoor.S2.Pl

def vput (n:Nat):List Nat:=if n<128 then [n] else (n%128+128)::vput (n/128)
termination_by n
theorem vput_small {n:Nat} (h:n<128):vput n=[n]:=by rw [vput,if_pos h]
theorem vput_big {n:Nat} (h:¬ n<128):vput n=(n%128+128)::vput (n/128):=by rw [vput,if_neg h]
theorem vput_lt (n:Nat):∀ x∈vput n,x<256:=by
 induction n using Nat.strongRecOn with
 | ind n ih=>
   intro x hx
   by_cases h:n<128
   ·rw [vput_small h] at hx;simp at hx;omega
   ·rw [vput_big h] at hx
    simp at hx
    rcases hx with rfl | hx
    ·omega
    ·exact ih (n/128) (by omega) x hx
theorem vput_len (k n:Nat) (h:n<128^k) (hk:0<k):(vput n).length≤k∧0<(vput n).length:=by
 induction k generalizing n with
 | zero=>omega
 | succ k ih=>
   by_cases h1:n<128
   ·rw [vput_small h1];simp
   ·rw [vput_big h1]
    have h2:n/128<128^k:=by rw [Nat.pow_succ] at h;omega
    have hk0:0<k:=by
     cases k with
     | zero=>simp at h2;omega
     | succ k=>omega
    have:=ih (n/128) h2 hk0
    simp;omega
theorem vput_len64 (n:Nat) (h:n<18446744073709551616):(vput n).length≤10∧0<(vput n).length:=
 vput_len 10 n (by have:(128:Nat)^10=1180591620717411303424:=by decide
                   omega) (by omega)

def vval:List Nat→Nat
 | []=>0
 | x::t=>x%128+128*vval t
theorem vval_lt (B:List Nat):vval B<128^B.length:=by
 induction B with
 | nil=>simp [vval]
 | cons x t ih=>simp only [vval,List.length_cons,Nat.pow_succ];omega
theorem vval_snoc (B:List Nat) (x:Nat):vval (B++[x])=vval B+128^B.length*(x%128):=by
 induction B with
 | nil=>simp [vval]
 | cons y t ih=>
   simp only [List.cons_append,vval,ih,List.length_cons,Nat.pow_succ,Nat.mul_add]
   have:128*(128^t.length*(x%128))=128^t.length*128*(x%128):=by
    rw [Nat.mul_comm (128^t.length) 128,Nat.mul_assoc]
   omega
theorem vval_take_succ (B:List Nat) (k:Nat) (h:k<B.length):vval (B.take (k+1))=vval (B.take k)+128^k*(B.getD k 0%128):=by
 rw [List.take_succ_eq_append_getElem h,vval_snoc,List.length_take,Nat.min_eq_left (by omega),List.getD_eq_getElem?_getD,List.getElem?_eq_getElem h]
 rfl
def VBad (B:List Nat) (i:Nat):Prop:=18446744073709551616≤vval (B.take (i+1))∨(0<i∧B.getD i 0=0)
instance (B:List Nat) (i:Nat):Decidable (VBad B i):=by unfold VBad;exact inferInstance
def vget (B:List Nat):Nat×Nat:=
 match (B.take 10).findIdx? (· < 128) with
 | none=>(0,0)
 | some i=>if VBad B i then (0,0) else (vval (B.take (i+1)),i+1)
def VOn (B:List Nat) (k:Nat):Prop:=∀ j,j<k→128≤B.getD j 0
theorem VOn.zero (B:List Nat):VOn B 0:=fun j h=>by omega
theorem VOn.succ {B:List Nat} {k:Nat} (h:VOn B k) (h2:128≤B.getD k 0):VOn B (k+1):=fun j hj=>by
 by_cases e:j=k
 ·subst e;exact h2
 ·exact h j (by omega)
theorem getD_get {B:List Nat} {j:Nat} (h:j<B.length):B.getD j 0=B[j]:=by
 rw [List.getD_eq_getElem?_getD,List.getElem?_eq_getElem h];rfl
theorem vget_none {B:List Nat} {k:Nat} (h:VOn B k) (hk:10≤k∨B.length≤k):vget B=(0,0):=by
 unfold vget
 have:(B.take 10).findIdx? (· < 128)=none:=by
  rw [List.findIdx?_eq_none_iff]
  intro x hx
  obtain ⟨j,hj,rfl⟩:=List.getElem_of_mem hx
  rw [List.length_take] at hj
  have:=h j (by omega)
  rw [getD_get (by omega)] at this
  simp only [List.getElem_take]
  simp;omega
 rw [this]
theorem vget_some {B:List Nat} {i:Nat} (h:VOn B i) (hi:i<10) (hl:i<B.length) (he:B.getD i 0<128):
  vget B=if VBad B i then (0,0) else (vval (B.take (i+1)),i+1):=by
 unfold vget
 have:(B.take 10).findIdx? (· < 128)=some i:=by
  rw [List.findIdx?_eq_some_iff_getElem]
  refine ⟨by rw [List.length_take];omega,?_,?_⟩
  ·rw [getD_get hl] at he
   simp only [List.getElem_take]
   simpa using he
  ·intro j hj
   have:=h j hj
   rw [getD_get (by omega)] at this
   simp only [List.getElem_take]
   simp;omega
 rw [this]
theorem vget_bad {B:List Nat} {i:Nat} (h:VOn B i) (hi:i<10) (hl:i<B.length) (he:B.getD i 0<128) (hb:VBad B i):vget B=(0,0):=by
 rw [vget_some h hi hl he,if_pos hb]
theorem vget_good {B:List Nat} {i:Nat} (h:VOn B i) (hi:i<10) (hl:i<B.length) (he:B.getD i 0<128) (hb:¬ VBad B i):vget B=(vval (B.take (i+1)),i+1):=by
 rw [vget_some h hi hl he,if_neg hb]
theorem vget_le (B:List Nat):(vget B).1<18446744073709551616∧(vget B).2≤B.length∧(vget B).2≤10:=by
 unfold vget
 split
 ·simp
 ·rename_i i hi
  rw [List.findIdx?_eq_some_iff_getElem] at hi
  obtain ⟨h1,_⟩:=hi
  rw [List.length_take] at h1
  split
  ·simp
  ·rename_i hb
   refine ⟨?_,by simp;omega,by simp;omega⟩
   show vval (B.take (i+1))<_
   apply Nat.lt_of_not_le
   intro h
   exact hb (.inl h)

theorem vput_on (n:Nat) (C:List Nat):VOn (vput n++C) ((vput n).length-1)∧(vput n++C).getD ((vput n).length-1) 0<128∧((vput n).length=1∨(vput n++C).getD ((vput n).length-1) 0≠0)∧vval (vput n)=n∧0<(vput n).length:=by
 induction n using Nat.strongRecOn with
 | ind n ih=>
   by_cases h:n<128
   ·rw [vput_small h]
    refine ⟨VOn.zero _,by simpa using h,.inl rfl,by simp [vval];omega,by simp⟩
   ·rw [vput_big h]
    obtain ⟨h1,h2,h3,h4,h5⟩:=ih (n/128) (by omega)
    obtain ⟨k,hk⟩:∃ k,(vput (n/128)).length=k+1:=⟨(vput (n/128)).length-1,by omega⟩
    have hn:n/128≠0:=by omega
    rw [hk] at h1 h2 h3
    simp only [List.length_cons,hk,List.cons_append,Nat.add_sub_cancel] at h1 h2 h3 ⊢
    refine ⟨?_,by simpa using h2,.inr ?_,by simp only [vval,h4];omega,by omega⟩
    ·intro j hj
     cases j with
     | zero=>simp
     | succ j=>simpa using h1 j (by omega)
    ·rcases h3 with h3 | h3
     ·have:k=0:=by omega
      subst this
      obtain ⟨y,hy⟩:=List.length_eq_one_iff.1 hk
      rw [hy] at h4 ⊢
      simp [vval] at h4
      simp
      omega
     ·simpa using h3
theorem vget_vput (n:Nat) (hn:n<18446744073709551616) (C:List Nat):vget (vput n++C)=(n,(vput n).length):=by
 obtain ⟨h1,h2,h3,h4,h5⟩:=vput_on n C
 have hl:=vput_len64 n hn
 have ht:(vput n++C).take ((vput n).length-1+1)=vput n:=by
  rw [Nat.sub_add_cancel h5,List.take_left]
 rw [vget_good h1 (by omega) (by rw [List.length_append];omega) h2 ?_,ht,h4,Nat.sub_add_cancel h5]
 rintro (hb | ⟨hb1,hb2⟩)
 ·rw [ht,h4] at hb;omega
 ·rcases h3 with h3 | h3
  ·omega
  ·exact h3 hb2
def vtext (S:List Nat):List Nat:=vput S.length++S
def vgetText (B:List Nat):List Nat×Nat:=
 if (vget B).2=0∨B.length-(vget B).2<(vget B).1 then ([],0) else ((B.drop (vget B).2).take (vget B).1,(vget B).2+(vget B).1)
theorem vgetText_none {B:List Nat} (h:(vget B).2=0∨B.length-(vget B).2<(vget B).1):vgetText B=([],0):=by unfold vgetText;rw [if_pos h]
theorem vgetText_some {B:List Nat} (h:¬ ((vget B).2=0∨B.length-(vget B).2<(vget B).1)):vgetText B=((B.drop (vget B).2).take (vget B).1,(vget B).2+(vget B).1):=by unfold vgetText;rw [if_neg h]
theorem vgetText_vtext (S C:List Nat) (hS:S.length<18446744073709551616):vgetText (vtext S++C)=(S,(vtext S).length):=by
 unfold vtext
 rw [List.append_assoc]
 have h:=vget_vput S.length hS (S++C)
 have hp:=(vput_on S.length []).2.2.2.2
 rw [vgetText_some,h]
 ·simp
 ·rw [h]
  show ¬ ((vput S.length).length=0∨(vput S.length++(S++C)).length-(vput S.length).length<S.length)
  rw [List.length_append,List.length_append];omega

def four (n:Nat):List Nat:=[n%256,n/256%256,n/65536%256,n/16777216%256]
end Go.Proofs.YtmjpnbadfmgimaaGreatDoor.S2.Pl
namespace Go.Proofs.YtmjpnbadfmgimaaGreatDoor.Pl
end Go.Proofs.YtmjpnbadfmgimaaGreatDoor.Pl
namespace Go.Proofs.YtmjpnbadfmgimaaGreatDoor.S2.Pl
end Go.Proofs.YtmjpnbadfmgimaaGreatDoor.S2.Pl
namespace Go.Proofs.YtmjpnbadfmgimaaGreatDoor.S2
open Go.RowKit _root_.Go.Proofs.YtmjpnbadfmgimaaGreatDoor.Pl _root_.Go.Proofs.YtmjpnbadfmgimaaGreatDoor.S2.Pl

def PRel (n:Int) (base:Nat) (w:World) (m:Int) (v:Value) (wr:World):Prop:=
 ∃ B:List Nat,B++vput m.toNat=vput n.toNat∧B.length<10∧wr.ownsRow base 5 1 v B.length (u8s B)∧Below base w wr
theorem prel_start (n:Int) (w:World):PRel n w.heap.size w n (.slice none 0 0) w:=⟨[],rfl,by simp,own_nil _ _,Below.refl _ _⟩
theorem prel_step {n:Int} {base:Nat} {w wr w1:World} {m:Int} {v v':Value} {B:List Nat} {c:Int} (hn:U64 n) (hB:B++vput m.toNat=vput n.toNat) (hm:127<m)
  (hown:wr.ownsRow base 5 1 v B.length (u8s B)) (hbel:Below base w wr) (hbase:base≤wr.heap.size)
  (hown':w1.ownsRow base 5 1 v' (B.length+1) (u8s B++[.int .u8 c])) (hgr:(wr.alloc (.cells #[.int .u8 c] 5)).grownBy w1 v.ownBlock) (hc:c=m%128+128):
  PRel n base w (m/128) v' w1:=by
 have hm':¬ m.toNat<128:=by omega
 have e1:(m/128).toNat=m.toNat/128:=by omega
 have e2:c=((m.toNat%128+128:Nat):Int):=by rw [hc];omega
 rw [vput_big hm'] at hB
 rw [e2,← u8s_snoc] at hown'
 have hl:=(vput_len64 n.toNat (by obtain ⟨h1,h2⟩:=hn;omega)).1
 have hp:=(vput_on (m.toNat/128) []).2.2.2.2
 rw [← hB] at hl
 simp only [List.length_append,List.length_cons] at hl
 refine ⟨B++[m.toNat%128+128],by rw [e1];simpa using hB,by simp;omega,by simpa using hown',bel_append hbel _ hown hgr hbase⟩
theorem prel_done {n:Int} {w wr w1:World} {m:Int} {v v':Value} {B:List Nat} {c:Int} (hB:B++vput m.toNat=vput n.toNat) (hm0:0≤m) (hm:m<128)
  (hown:wr.ownsRow w.heap.size 5 1 v B.length (u8s B)) (hbel:Below w.heap.size w wr) (hbase:w.heap.size≤wr.heap.size)
  (hown':w1.ownsRow w.heap.size 5 1 v' (B.length+1) (u8s B++[.int .u8 c])) (hgr:(wr.alloc (.cells #[.int .u8 c] 5)).grownBy w1 v.ownBlock) (hc:c=m):
  MadePost (vput n.toNat) w (.returned v') w1:=by
 have e2:c=((m.toNat:Nat):Int):=by rw [hc];omega
 rw [vput_small (by omega)] at hB
 rw [e2,← u8s_snoc,hB] at hown'
 refine ⟨v',rfl,?_,bel_append hbel _ hown hgr hbase⟩
 rw [← hB] at hown' ⊢
 simpa using hown'
theorem or128 {m:Int} (h:U64 m):bits BinOp.or IntKind.u64 (bits BinOp.and IntKind.u64 m 127) 128%256=m%128+128:=by
 have h0:=h.1
 have h1:=u64_and m 127 h.1 h.2 (by omega) (by omega)
 have h3:m.toNat &&& (127:Int).toNat=m.toNat%128:=nat_mask7 _
 rw [h3] at h1
 rw [h1]
 show bits BinOp.or IntKind.u64 _ ((128:Nat):Int)%256=_
 rw [u64_or_nat _ 128 (by omega) (by omega),Nat.or_comm,nat_join 7 128 _ (by decide) (by omega)]
 omega

theorem div_u64 {m:Int} (h:U64 m):IntKind.u64.wrap (m.tdiv 128)=m/128:=by
 obtain ⟨h0,h1⟩:=h
 rw [Int.tdiv_eq_ediv_of_nonneg h0,IntKind.wrap_u64]
 omega

theorem put_any (n:Int) (w:World) (hn:U64 n):Calls Tryz.prog 38 #[.int .u64 n] w (MadePost (vput n.toNat) w):=by
 have hn0:=hn.1
 have HN:=Lib.hid hn
 clear hn
 go_enter Tryz.func38,Tryz.ntmps38
 go_wp2
 go_loopw [0,3] (fun x v wr=>∃ m:Int,x=.int .u64 m∧U64 m∧PRel n w.heap.size w m v wr) (fun x _ _=>(intOf x).toNat)
 case atStart=>exact ⟨n,rfl,HN.out,prel_start n w⟩
 case round=>
  obtain ⟨m,rfl,hm,hr⟩:=hrel
  have hm0:=hm.1
  have HM:=Lib.hid hm
  obtain ⟨B,hB,hB10,hown,hbel⟩:=hr
  have HB:=Lib.hid hB
  have HO:=Lib.hid hown
  have HBel:=Lib.hid hbel
  have hsz:=hbel.size
  clear hm hB hown hbel
  obtain ⟨sp,cap,rfl,hc1,hc2⟩:=ownsRow_slice HO.out
  by_cases hlt:127<m
  ·go_wp2_with (at_builtin;refine wpList_append_byte rfl (.tmp 6) (.tmp 11) rfl w.heap.size (.slice sp B.length cap) B.length (u8s B) _ rfl HO.out rfl (by omega) hsz ?_;intro v' w1 hown hgr)
   go_roundw
   case rel=>exact ⟨m/128,rfl,HM.out.shr 7,prel_step HN.out HB.out hlt HO.out HBel.out hsz hown hgr (or128 HM.out)⟩
   case measure=>simp [intOf];omega
  ·go_wp2_with (at_builtin;refine wpList_append_byte rfl (.tmp 15) (.tmp 18) rfl w.heap.size (.slice sp B.length cap) B.length (u8s B) _ rfl HO.out rfl (by omega) hsz ?_;intro v' w1 hown hgr)
   go_ret
   exact prel_done HB.out hm0 (by omega) HO.out HBel.out hsz hown hgr (by omega)

theorem refPut_any (n:Int) (w:World) (hn:U64 n):Calls Tryz.prog 48 #[.int .u64 n] w (MadePost (vput n.toNat) w):=by
 have hn0:=hn.1
 have HN:=Lib.hid hn
 clear hn
 go_enter Tryz.func48,Tryz.ntmps48
 go_wp2
 go_loopw [0,3] (fun x v wr=>∃ m:Int,x=.int .u64 m∧U64 m∧PRel n w.heap.size w m v wr) (fun x _ _=>(intOf x).toNat)
 case atStart=>exact ⟨n,rfl,HN.out,prel_start n w⟩
 case round=>
  obtain ⟨m,rfl,hm,hr⟩:=hrel
  have hm0:=hm.1
  have HM:=Lib.hid hm
  obtain ⟨B,hB,hB10,hown,hbel⟩:=hr
  have HB:=Lib.hid hB
  have HO:=Lib.hid hown
  have HBel:=Lib.hid hbel
  have hsz:=hbel.size
  clear hm hB hown hbel
  obtain ⟨sp,cap,rfl,hc1,hc2⟩:=ownsRow_slice HO.out
  by_cases hlt:128≤m
  ·go_wp2_with (at_builtin;refine wpList_append_byte rfl (.tmp 6) (.tmp 11) rfl w.heap.size (.slice sp B.length cap) B.length (u8s B) _ rfl HO.out rfl (by omega) hsz ?_;intro v' w1 hown hgr)
   go_roundw
   case rel=>exact ⟨m/128,by rw [div_u64 HM.out],HM.out.shr 7,prel_step HN.out HB.out (by omega) HO.out HBel.out hsz hown hgr (by omega)⟩
   case measure=>simp [intOf];rw [div_u64 HM.out];omega
  ·go_wp2_with (at_builtin;refine wpList_append_byte rfl (.tmp 15) (.tmp 18) rfl w.heap.size (.slice sp B.length cap) B.length (u8s B) _ rfl HO.out rfl (by omega) hsz ?_;intro v' w1 hown hgr)
   go_ret
   exact prel_done HB.out hm0 (by omega) HO.out HBel.out hsz hown hgr (by omega)

theorem made_more {w w1 w2:World} {A B:List Nat} {v v':Value} (h:w1.ownsRow w.heap.size 5 1 v A.length (u8s A)) (hb:Below w.heap.size w w1) (h':w2.ownsRow w.heap.size 5 1 v' (A.length+B.length) (u8s (A++B))) (hg:w1.grownBy w2 v.ownBlock):
  MadePost (A++B) w (.returned v') w2:=
 ⟨v',rfl,by rw [List.length_append];exact h',hb.grown hg hb.size (own_lt h)⟩

theorem text_any (s:ByteArray) (w:World) (hs:s.size≤4294967296):Calls Tryz.prog 39 #[.string s] w (MadePost (vtext (strB s)) w):=by
 have hU:U64 (s.size:Int):=⟨by omega,by omega⟩
 have hl:=(vput_len64 s.size (by omega)).1
 have HU:=Lib.hid hU
 have HL:=Lib.hid hl
 clear hU hl
 go_enter Tryz.func39,Tryz.ntmps39
 go_wp2_with (first | (go_at_call 38;refine (put_any _ _ HU.out).mono ?_;rintro e w1 ⟨v1,rfl,hown,hbel⟩;obtain ⟨sp,cap,rfl,hc1,hc2⟩:=ownsRow_slice hown;rw [Int.toNat_natCast] at hown hc1;have HO:=Lib.hid hown;have HB:=Lib.hid hbel;have hsz:=hbel.size;clear hown hbel hc1 hc2) | (at_builtin;refine wpList_append_str rfl (.tmp 6) (.tmp 7) rfl w.heap.size _ _ _ s rfl HO.out rfl (by have:=HL.out;omega) hsz ?_;intro v' w2 hown hgr))
 go_ret
 have e:s.size=(strB s).length:=(strB_length s).symm
 unfold vtext
 rw [← e]
 exact made_more HO.out HB.out (by rw [strB_length];exact hown) hgr
theorem refText_any (s:ByteArray) (w:World) (hs:s.size≤4294967296):Calls Tryz.prog 49 #[.string s] w (MadePost (vtext (strB s)) w):=by
 have hU:U64 (s.size:Int):=⟨by omega,by omega⟩
 have hl:=(vput_len64 s.size (by omega)).1
 have HU:=Lib.hid hU
 have HL:=Lib.hid hl
 clear hU hl
 go_enter Tryz.func49,Tryz.ntmps49
 go_wp2_with (first | (go_at_call 48;refine (refPut_any _ _ HU.out).mono ?_;rintro e w1 ⟨v1,rfl,hown,hbel⟩;obtain ⟨sp,cap,rfl,hc1,hc2⟩:=ownsRow_slice hown;rw [Int.toNat_natCast] at hown hc1;have HO:=Lib.hid hown;have HB:=Lib.hid hbel;have hsz:=hbel.size;clear hown hbel hc1 hc2) | (at_builtin;refine wpList_append_str rfl (.tmp 6) (.tmp 7) rfl w.heap.size _ _ _ s rfl HO.out rfl (by have:=HL.out;omega) hsz ?_;intro v' w2 hown hgr))
 go_ret
 have e:s.size=(strB s).length:=(strB_length s).symm
 unfold vtext
 rw [← e]
 exact made_more HO.out HB.out (by rw [strB_length];exact hown) hgr

theorem made_four {w:World} {c0 c1 c2 c3:Int} {n:Nat} (h0:c0=((n%256:Nat):Int)) (h1:c1=((n/256%256:Nat):Int)) (h2:c2=((n/65536%256:Nat):Int)) (h3:c3=((n/16777216%256:Nat):Int)):
  MadePost (four n) w (.returned (.slice (some ⟨w.heap.size,0,none⟩) 4 4)) (w.alloc (.cells #[.int .u8 c0,.int .u8 c1,.int .u8 c2,.int .u8 c3] 5)):=by
 subst h0 h1 h2 h3
 exact ⟨_,rfl,own_new w (u8s (four n)) 5 (Nat.le_refl _) (by simp [u8s,four,maxLen]),(Below.refl _ _).alloc (Nat.le_refl _) _⟩
theorem four_any (n:Int) (w:World) (hn:0≤n):Calls Tryz.prog 40 #[.int .u32 n] w (MadePost (four n.toNat) w):=by
 go_enter Tryz.func40,Tryz.ntmps40
 go_wp2
 go_ret
 exact made_four (by omega) (by omega) (by omega) (by omega)
theorem refFour_any (n:Int) (w:World) (hn:0≤n):Calls Tryz.prog 62 #[.int .u32 n] w (MadePost (four n.toNat) w):=by
 go_enter Tryz.func62,Tryz.ntmps62
 go_wp2
 go_ret
 exact made_four (by omega) (by omega) (by omega) (by omega)

theorem _root_.Go.Proofs.YtmjpnbadfmgimaaGreatDoor.IsBytes.cells {w:World} {v:Value} {B:List Nat} (h:IsBytes w v B) (h0:0<B.length):∃ b off cap,v=.slice (some ⟨b,off,none⟩) B.length cap∧B.length≤cap∧cap≤maxLen∧b<w.heap.size∧(∀ i,i<B.length→w.cell? ⟨b,off+i,none⟩=some (.int .u8 (B.getD i 0:Nat))):=by
 obtain ⟨hx,⟨rfl,rfl⟩ | ⟨a,cap,rfl,h1,h2,hc⟩⟩:=h
 ·simp at h0
 ·obtain ⟨b,off,spot⟩:=a
  have hc0:=hc 0 _ (u8s_get B 0 h0)
  have hspot:spot=none:=by simpa [Addr.add] using World.cell?_spot hc0
  subst hspot
  refine ⟨b,off,cap,rfl,h1,h2,World.block_lt_of_cell? w _ hc0,fun i hi=>?_⟩
  have:=hc i _ (u8s_get B i hi)
  have hadd:(⟨b,off,none⟩:Addr).add i=⟨b,off+i,none⟩:=by unfold Addr.add;split <;> simp_all
  rwa [hadd] at this

def getFour (B:List Nat):Nat:=if B.length<4 then 0 else B.getD 0 0+256*B.getD 1 0+65536*B.getD 2 0+16777216*B.getD 3 0
def FourPost (B:List Nat) (w:World) (e:Ending) (w':World):Prop:=e=.returned (.int .u32 (getFour B:Nat))∧∃ k,w.drewN k=w'

theorem getFour_few (v:Value) (B:List Nat) (w:World) (hv:IsBytes w v B) (h:B.length<4):Calls Tryz.prog 29 #[v] w (FourPost B w):=by
 obtain ⟨a,cap,rfl,hcap,hmax⟩:=hv.slice
 have e:getFour B=0:=if_pos h
 have E:=Lib.hid e
 clear e hv
 go_enter Tryz.func29,Tryz.ntmps29
 go_wp2
 go_ret
 exact ⟨by rw [E.out];rfl,0,rfl⟩

theorem or_step (k P a b:Nat) (hP:P=2^k) (ha:a<P) (hab:a+b*P<4294967296):bits BinOp.or IntKind.u32 (a:Int) ((b*P:Nat):Int)=((a+b*P:Nat):Int):=by
 subst hP
 rw [u32_or_nat _ _ (by omega) (by omega),Nat.or_comm,nat_join k _ _ (Nat.mul_mod_left _ _) ha,Nat.add_comm]
theorem or_four (a b c d:Nat) (ha:a<256) (hb:b<256) (hc:c<256) (hd:d<256):
  bits BinOp.or IntKind.u32 (bits BinOp.or IntKind.u32 (bits BinOp.or IntKind.u32 (a:Int) ((b:Int)*256)) ((c:Int)*65536)) ((d:Int)*16777216)=((a+256*b+65536*c+16777216*d:Nat):Int):=by
 have h1:=or_step 8 256 a b rfl (by omega) (by omega)
 have h2:=or_step 16 65536 (a+b*256) c (by decide +kernel) (by omega) (by omega)
 have h3:=or_step 24 16777216 (a+b*256+c*65536) d (by decide +kernel) (by omega) (by omega)
 have e1:((b*256:Nat):Int)=(b:Int)*256:=by simp
 have e2:((c*65536:Nat):Int)=(c:Int)*65536:=by simp
 have e3:((d*16777216:Nat):Int)=(d:Int)*16777216:=by simp
 rw [e1] at h1
 rw [e2] at h2
 rw [e3] at h3
 rw [h1,h2,h3]
 omega

theorem getFour_any (v:Value) (B:List Nat) (w:World) (hv:IsBytes w v B):Calls Tryz.prog 29 #[v] w (FourPost B w):=by
 by_cases h:B.length<4
 ·exact getFour_few v B w hv h
 ·obtain ⟨b,off,cap,rfl,h1,h2,_,hc⟩:=hv.cells (by omega)
  have c0:w.cell? ⟨b,off,none⟩=some (.int .u8 (B.getD 0 0:Nat)):=hc 0 (by omega)
  have c1:=hc 1 (by omega)
  have c2:=hc 2 (by omega)
  have c3:=hc 3 (by omega)
  have l0:=getD_lt hv.1 0
  have l1:=getD_lt hv.1 1
  have l2:=getD_lt hv.1 2
  have l3:=getD_lt hv.1 3
  have e:getFour B=B.getD 0 0+256*B.getD 1 0+65536*B.getD 2 0+16777216*B.getD 3 0:=if_neg h
  unfold FourPost
  rw [e]
  generalize B.getD 0 0=x0 at*
  generalize B.getD 1 0=x1 at*
  generalize B.getD 2 0=x2 at*
  generalize B.getD 3 0=x3 at*
  have hl0:(0:Int)<B.length:=by omega
  have hl1:(1:Int)<B.length:=by omega
  have hl2:(2:Int)<B.length:=by omega
  have hl3:(3:Int)<B.length:=by omega
  have hn0:0<B.length:=by omega
  have hn1:1<B.length:=by omega
  have hn2:2<B.length:=by omega
  have hn3:3<B.length:=by omega
  clear hv hc e
  go_enter Tryz.func29,Tryz.ntmps29
  go_wp2
  go_quiet (fail)
  go_wp2
  go_ret
  exact ⟨ret_int (or_four _ _ _ _ l0 l1 l2 l3),_,rfl⟩

def EndsOk (x k:Nat):Prop:=¬ (k=9∧1<x)∧(k=0∨x≠0)
theorem ends_yes (x k:Nat) (w:World) (h:EndsOk x k):Calls Tryz.prog 79 #[.int .u8 x,.int .i64 k] w fun e w'=>e=.returned (.bool true)∧w=w':=by
 obtain ⟨h1,h2⟩:=h
 by_cases c1:k=9
 ·subst c1
  have h3:(x:Int)≤1:=by omega
  have h4:¬ (x:Int)=0:=by omega
  have h5:((x:Int)==0)=false:=by simpa using h4
  have h6:((x:Int) != 0)=true:=by simpa using h4
  clear h1 h2
  go_enter Tryz.func79,Tryz.ntmps79
  go_wp2
  go_ret
  exact ⟨rfl,rfl⟩
 ·have c2:((k:Int)==9)=false:=by simp;omega
  by_cases c3:k=0
  ·subst c3
   clear h1 h2
   go_enter Tryz.func79,Tryz.ntmps79
   go_wp2
   go_ret
   exact ⟨rfl,rfl⟩
  ·have c4:((k:Int)==0)=false:=by simp;omega
   have h6:((x:Int) != 0)=true:=by simp;omega
   clear h1 h2
   go_enter Tryz.func79,Tryz.ntmps79
   go_wp2
   go_ret
   exact ⟨rfl,rfl⟩
theorem ends_no (x k:Nat) (w:World) (h:¬ EndsOk x k):Calls Tryz.prog 79 #[.int .u8 x,.int .i64 k] w fun e w'=>e=.returned (.bool false)∧w=w':=by
 unfold EndsOk at h
 by_cases c1:k=9∧1<x
 ·obtain ⟨rfl,c1⟩:=c1
  have h3:1<(x:Int):=by omega
  clear h
  go_enter Tryz.func79,Tryz.ntmps79
  go_wp2
  go_ret
  exact ⟨rfl,rfl⟩
 ·have hk:k≠0:=by omega
  have hx:x=0:=by omega
  subst hx
  have c4:((k:Int)==0)=false:=by simp;omega
  clear h c1
  by_cases c5:k=9
  ·subst c5
   go_enter Tryz.func79,Tryz.ntmps79
   go_wp2
   go_ret
   exact ⟨rfl,rfl⟩
  ·have c2:((k:Int)==9)=false:=by simp;omega
   go_enter Tryz.func79,Tryz.ntmps79
   go_wp2
   go_ret
   exact ⟨rfl,rfl⟩

def VGetPost (B:List Nat) (w:World) (e:Ending) (w':World):Prop:=e=.returned (.tuple #[.int .u64 ((vget B).1:Nat),.int .i64 ((vget B).2:Nat)])∧w=w'
theorem vgetPost_none {B:List Nat} {w:World} (h:vget B=(0,0)):VGetPost B w (.returned (.tuple #[.int .u64 0,.int .i64 0])) w:=by unfold VGetPost;rw [h];exact ⟨rfl,rfl⟩
theorem vgetPost_some {B:List Nat} {w:World} {k:Nat} {n j:Int} (h:vget B=(vval (B.take (k+1)),k+1)) (hn:n=(vval (B.take (k+1)):Nat)) (hj:j=(k:Int)+1):VGetPost B w (.returned (.tuple #[.int .u64 n,.int .i64 j])) w:=by
 unfold VGetPost;rw [h,hn,hj];exact ⟨rfl,rfl⟩
theorem pow7 (k:Nat):(2:Nat)^(7*k)=128^k:=by rw [Nat.pow_mul]
theorem vval_small {B:List Nat} {k:Nat}:vval (B.take k)<128^k:=by
 have h1:=vval_lt (B.take k)
 have h2:128^(B.take k).length≤128^k:=Nat.pow_le_pow_right (by omega) (List.length_take_le _ _)
 omega
theorem vpart (k x:Nat) (hx:x<256) (h:k≤8∨(k=9∧x≤1)):128^k*(x%128)+128^k≤18446744073709551616:=by
 rcases h with h | ⟨rfl,h⟩
 ·have h1:(128:Nat)^k≤128^8:=Nat.pow_le_pow_right (by omega) h
  have h2:(128:Nat)^8=72057594037927936:=by decide
  have h3:128^k*(x%128)≤128^k*127:=Nat.mul_le_mul_left _ (by omega)
  omega
 ·have h2:(128:Nat)^9=9223372036854775808:=by decide
  have h3:128^9*(x%128)≤128^9*1:=Nat.mul_le_mul_left _ (by omega)
  omega
theorem vor {B:List Nat} {k x:Nat} {u:Int} (hk:k<B.length) (hx:x=B.getD k 0) (hx2:x<256) (hu:u=(vval (B.take k):Nat)) (h:k≤8∨(k=9∧x≤1)):
  bits BinOp.or IntKind.u64 u (IntKind.u64.wrap (IntKind.u64.wrap (bits BinOp.and IntKind.u8 (x:Int) 127)*2^(7*k)))=((vval (B.take (k+1)):Nat):Int):=by
 have h1:=u8_and x 127 (by omega) (by omega) (by omega) (by omega)
 rw [Int.toNat_natCast,show (127:Int).toNat=127 from rfl,nat_mask7] at h1
 have h2:IntKind.u64.wrap ((x%128:Nat):Int)=((x%128:Nat):Int):=by rw [IntKind.wrap_u64];omega
 have hp:=vpart k x hx2 h
 have hl:=vval_small (B:=B) (k:=k)
 have h3:IntKind.u64.wrap (((x%128:Nat):Int)*2^(7*k))=((128^k*(x%128):Nat):Int):=by
  have e:((x%128:Nat):Int)*2^(7*k)=((128^k*(x%128):Nat):Int):=by
   rw [← pow7,Nat.mul_comm (2^(7*k))];simp
  rw [e,IntKind.wrap_u64]
  omega
 rw [h1,h2,h3,hu,u64_or_nat _ _ (by omega) (by omega),Nat.or_comm,vval_take_succ B k hk,← hx]
 rw [← pow7] at hl ⊢
 rw [nat_join (7*k) _ _ (Nat.mul_mod_right _ _) hl,Nat.add_comm]
theorem and128 {x:Nat} (hx:x<256):(bits BinOp.and IntKind.u8 (x:Int) 128==0)=decide (x<128):=by
 have h1:=u8_and x 128 (by omega) (by omega) (by omega) (by omega)
 rw [Int.toNat_natCast,show (128:Int).toNat=2^7 from rfl,nat_bit] at h1
 rw [h1]
 by_cases h:x<128
 ·have:x/2^7%2*2^7=0:=by omega
  rw [this];simp [h]
 ·have:x/2^7%2*2^7=128:=by omega
  rw [this];simp [h]
theorem ends_bad {B:List Nat} {k x:Nat} (hk:k<B.length) (hk9:k≤9) (hx:x=B.getD k 0) (hx2:x<128):EndsOk x k↔¬ VBad B k:=by
 unfold EndsOk VBad
 rw [vval_take_succ B k hk,← hx]
 have hl:=vval_small (B:=B) (k:=k)
 by_cases h:k≤8∨(k=9∧x≤1)
 ·have:=vpart k x (by omega) h
  omega
 ·have e:k=9:=by omega
  subst e
  have h2:(128:Nat)^9=9223372036854775808:=by decide
  rw [h2] at hl ⊢
  omega

theorem vget_any (v:Value) (B:List Nat) (w:World) (hv:IsBytes w v B):Calls Tryz.prog 60 #[v] w (VGetPost B w):=by
 obtain ⟨a,cap,rfl,hcap,hmax⟩:=hv.slice
 unfold maxLen at hmax
 have HV:=Lib.hid hv
 clear hv
 rcases (show B.length≤10∨10<B.length by omega) with h10 | h10
 ·have hcI:(B.length:Int)≤(cap:Int):=by omega
  have hi10:(B.length:Int)≤10:=by omega
  go_enter Tryz.func60,Tryz.ntmps60
  go_wp2
  go_loop [4,13] (fun n i=>∃ k:Nat,k≤B.length∧k≤10∧i=.int .i64 k∧VOn B k∧∃ u:Int,n=.int .u64 u∧(k≤9→u=(vval (B.take k):Nat))) (fun _ i=>10-(intOf i).toNat)
  case atStart=>exact ⟨0,by omega,by omega,rfl,VOn.zero _,0,rfl,fun _=>rfl⟩
  case round=>
   obtain ⟨k,hk,hk10,rfl,hon,u,rfl,hu⟩:=hrel
   have HON:=Lib.hid hon
   have HU:=Lib.hid hu
   clear hon hu
   by_cases hlt:k<B.length
   ·have hlt2:k<B.length:=by omega
    obtain ⟨b,off,cap',hsl,_,_,_,hc⟩:=HV.out.cells (by omega)
    simp at hsl
    obtain ⟨rfl,rfl⟩:=hsl
    have c0:=hc k hlt2
    have l0:=getD_lt HV.out.1 k
    clear hc
    have hk9:k≤9:=by omega
    obtain ⟨x,hx⟩:∃ x,x=B.getD k 0:=⟨_,rfl⟩
    rw [← hx] at c0 l0
    have HX:=Lib.hid hx
    clear hx
    have ha:=and128 l0
    have HUk:=Lib.hid (HU.out hk9)
    by_cases h128:x<128
    ·rw [decide_eq_true h128] at ha
     have HE:=Lib.hid (ends_bad hlt2 hk9 HX.out h128)
     by_cases hok:EndsOk x k
     ·have HOK:=Lib.hid hok
      clear hok
      go_wp2_with (go_at_call 79;refine (ends_yes x k _ HOK.out).mono ?_;rintro e w' ⟨rfl,rfl⟩)
      go_ret2
      exact vgetPost_some (vget_good HON.out (by omega) hlt2 (by rw [← HX.out];exact h128) (HE.out.1 HOK.out)) (vor hlt2 HX.out l0 HUk.out (by have:=HOK.out.1;omega)) rfl
     ·have HOK:=Lib.hid hok
      clear hok
      go_wp2_with (go_at_call 79;refine (ends_no x k _ HOK.out).mono ?_;rintro e w' ⟨rfl,rfl⟩)
      go_ret2
      exact vgetPost_none (vget_bad HON.out (by omega) hlt2 (by rw [← HX.out];exact h128) (Decidable.of_not_not fun h=>HOK.out (HE.out.2 h)))
    ·rw [decide_eq_false h128] at ha
     go_wp2
     go_round
     case rel=>exact ⟨k+1,by omega,by omega,by go_num,HON.out.succ (by rw [← HX.out];omega),_,rfl,fun h9=>vor hlt2 HX.out l0 HUk.out (.inl (by omega))⟩
     case measure=>simp [intOf];omega
   ·have hke:k=B.length:=by omega
    clear hlt hk
    subst hke
    go_wp2
    go_ret2
    exact vgetPost_none (vget_none HON.out (by omega))
 ·have hcI:(10:Int)≤(cap:Int):=by omega
  have hi10:(10:Int)<B.length:=by omega
  go_enter Tryz.func60,Tryz.ntmps60
  go_wp2
  go_loop [4,13] (fun n i=>∃ k:Nat,k≤B.length∧k≤10∧i=.int .i64 k∧VOn B k∧∃ u:Int,n=.int .u64 u∧(k≤9→u=(vval (B.take k):Nat))) (fun _ i=>10-(intOf i).toNat)
  case atStart=>exact ⟨0,by omega,by omega,rfl,VOn.zero _,0,rfl,fun _=>rfl⟩
  case round=>
   obtain ⟨k,hk,hk10,rfl,hon,u,rfl,hu⟩:=hrel
   have HON:=Lib.hid hon
   have HU:=Lib.hid hu
   clear hon hu
   by_cases hlt:k<10
   ·have hlt2:k<B.length:=by omega
    obtain ⟨b,off,cap',hsl,_,_,_,hc⟩:=HV.out.cells (by omega)
    simp at hsl
    obtain ⟨rfl,rfl⟩:=hsl
    have c0:=hc k hlt2
    have l0:=getD_lt HV.out.1 k
    clear hc
    have hk9:k≤9:=by omega
    obtain ⟨x,hx⟩:∃ x,x=B.getD k 0:=⟨_,rfl⟩
    rw [← hx] at c0 l0
    have HX:=Lib.hid hx
    clear hx
    have ha:=and128 l0
    have HUk:=Lib.hid (HU.out hk9)
    by_cases h128:x<128
    ·rw [decide_eq_true h128] at ha
     have HE:=Lib.hid (ends_bad hlt2 hk9 HX.out h128)
     by_cases hok:EndsOk x k
     ·have HOK:=Lib.hid hok
      clear hok
      go_wp2_with (go_at_call 79;refine (ends_yes x k _ HOK.out).mono ?_;rintro e w' ⟨rfl,rfl⟩)
      go_ret2
      exact vgetPost_some (vget_good HON.out (by omega) hlt2 (by rw [← HX.out];exact h128) (HE.out.1 HOK.out)) (vor hlt2 HX.out l0 HUk.out (by have:=HOK.out.1;omega)) rfl
     ·have HOK:=Lib.hid hok
      clear hok
      go_wp2_with (go_at_call 79;refine (ends_no x k _ HOK.out).mono ?_;rintro e w' ⟨rfl,rfl⟩)
      go_ret2
      exact vgetPost_none (vget_bad HON.out (by omega) hlt2 (by rw [← HX.out];exact h128) (Decidable.of_not_not fun h=>HOK.out (HE.out.2 h)))
    ·rw [decide_eq_false h128] at ha
     go_wp2
     go_round
     case rel=>exact ⟨k+1,by omega,by omega,by go_num,HON.out.succ (by rw [← HX.out];omega),_,rfl,fun h9=>vor hlt2 HX.out l0 HUk.out (.inl (by omega))⟩
     case measure=>simp [intOf];omega
   ·have hke:k=10:=by omega
    clear hlt hk
    subst hke
    go_wp2
    go_ret2
    exact vgetPost_none (vget_none HON.out (by omega))


attribute [local go_sem ↓] conv_eq
def TextPost (B:List Nat) (w:World) (e:Ending) (w':World):Prop:=e=.returned (.tuple #[.string (str (vgetText B).1),.int .i64 ((vgetText B).2:Nat)])∧w=w'
theorem textPost_none {B:List Nat} {w:World} (h:(vget B).2=0∨B.length-(vget B).2<(vget B).1):TextPost B w (.returned (.tuple #[.string { data:=#[] },.int .i64 0])) w:=by
 unfold TextPost;rw [vgetText_none h];exact ⟨rfl,rfl⟩
theorem textPost_some {B:List Nat} {w:World} {n k:Nat} {s:ByteArray} {j:Int} (h:¬ ((vget B).2=0∨B.length-(vget B).2<(vget B).1)) (hn:n=(vget B).1) (hk:k=(vget B).2) (hs:s=str ((B.drop k).take n)) (hj:j=(k:Int)+n):
  TextPost B w (.returned (.tuple #[.string s,.int .i64 j])) w:=by
 unfold TextPost;rw [vgetText_some h,← hn,← hk,hs,hj];exact ⟨by simp,rfl⟩

theorem getText_any (v:Value) (B:List Nat) (w:World) (hv:IsBytes w v B):Calls Tryz.prog 61 #[v] w (TextPost B w):=by
 obtain ⟨a,cap,rfl,hcap,hmax⟩:=hv.slice
 have hle:=vget_le B
 have HG:=Lib.hid (vget_any _ B w hv)
 have HV:=Lib.hid hv
 obtain ⟨n,hn⟩:∃ n,n=(vget B).1:=⟨_,rfl⟩
 obtain ⟨k,hk⟩:∃ k,k=(vget B).2:=⟨_,rfl⟩
 unfold VGetPost at HG
 rw [← hn,← hk] at hle HG
 have HN:=Lib.hid hn
 have HK:=Lib.hid hk
 have hkl:=hle.2.1
 have hnU:=Lib.hid hle.1
 unfold maxLen at hmax
 clear hv hn hk hle
 by_cases h0:k=0
 ·have hb:((k:Int)==0)=true:=by simp;omega
  go_enter Tryz.func61,Tryz.ntmps61
  go_wp2_with (go_at_call 60;refine HG.out.mono ?_;rintro e w' ⟨rfl,rfl⟩)
  go_ret2
  exact textPost_none (.inl (by rw [← HK.out];exact h0))
 ·have hb:((k:Int)==0)=false:=by simp;omega
  have hs0:(0:Int)≤(B.length:Int)-(k:Int):=by omega
  by_cases hfew:B.length-k<n
  ·have hI:(B.length:Int)-(k:Int)<(n:Int):=by omega
   have hd:decide ((B.length:Int)-(k:Int)<(n:Int))=true:=by simpa using hI
   have HF:=Lib.hid hfew
   clear hfew hI
   go_enter Tryz.func61,Tryz.ntmps61
   go_wp2_with (go_at_call 60;refine HG.out.mono ?_;rintro e w' ⟨rfl,rfl⟩)
   go_ret2
   exact textPost_none (.inr (by rw [← HK.out,← HN.out];exact HF.out))
  ·have hd:decide ((B.length:Int)-(k:Int)<(n:Int))=false:=by simp;omega
   have hnl:(n:Int)≤9223372036854775807:=by omega
   have h1:(k:Int)+(n:Int)≤(cap:Int):=by omega
   have HF:=Lib.hid hfew
   by_cases hck:cap=k
   ·have hcv:(convS (.slice a 0 0)).run Tryz.prog w=.ok (.string (str ((B.drop k).take n))) w:=by
     have e1:n=0:=by omega
     have e2:B.length=cap:=by omega
     have:=HV.out
     rw [← e2] at this
     rw [e1,List.take_zero]
     exact run_conv this.none_left
    have HCK:∀ X:Nat,cap-k=X→X=0:=fun X h=>by omega
    clear hfew HCK
    subst hck
    go_enter Tryz.func61,Tryz.ntmps61
    go_wp2_with (go_at_call 60;refine HG.out.mono ?_;rintro e w' ⟨rfl,rfl⟩)
    go_ret2
    exact textPost_some (by rw [← HK.out,← HN.out];have:=HF.out;omega) HN.out HK.out rfl rfl
   ·have hcv:(convS (.slice (a.map fun x=>x.add k) n (cap-k))).run Tryz.prog w=.ok (.string (str ((B.drop k).take n))) w:=run_conv (HV.out.sub k n (by omega))
    clear hfew
    go_enter Tryz.func61,Tryz.ntmps61
    go_wp2_with (go_at_call 60;refine HG.out.mono ?_;rintro e w' ⟨rfl,rfl⟩)
    go_ret2
    exact textPost_some (by rw [← HK.out,← HN.out];have:=HF.out;omega) HN.out HK.out rfl rfl

end Go.Proofs.YtmjpnbadfmgimaaGreatDoor.S2

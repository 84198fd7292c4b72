/- Texts put together: SeaC, SeaF, SeaE, SeaG. -/
import Derived.Test.YtmjpnbadfmgimaaGreatDoorFg36
import Derived.Test.YtmjpnbadfmgimaaGreatDoorFg37
import Derived.Test.YtmjpnbadfmgimaaGreatDoorFg38
import Derived.Test.YtmjpnbadfmgimaaGreatDoorFg39
import Derived.Test.YtmjpnbadfmgimaaGreatDoorFg41
set_option linter.unusedSimpArgs false
set_option linter.unusedVariables false
set_option maxRecDepth 100000
set_option maxHeartbeats 32000000
namespace Go.Proofs.YtmjpnbadfmgimaaGreatDoor.S16
open Go.RowKit Pl S3 S3.Pl S14
def buildP (l:List RT):List Nat:=pseal (S11.packP (rowsE l))++S11.packP (valsE l)
open Classical in
noncomputable def unpP (C:List Nat):Option (List Nat):=
 if S11.opOk C∧∀ k,k<S11.cnt (getFour (S11.hd C))→(S11.txB (S11.blk (S11.hd C) (S11.rst C) k)).1=true then
  some ((List.range (getFour (S11.hd C))).map fun i=>(S11.txB (S11.blk (S11.hd C) (S11.rst C) (i/1000))).2.getD (i%1000) 0)
 else none
theorem unp_ok {C X:List Nat} (ho:S11.opOk C) (hl:X.length=getFour (S11.hd C)) (hr:S11.Reads (S11.blk (S11.hd C) (S11.rst C)) 0 X):unpP C=some X:=by
 unfold unpP
 rw [if_pos]
 ·congr 1
  apply S11.list_eq_getD
  ·simp [hl]
  ·intro i hi
   simp only [List.length_map,List.length_range] at hi
   obtain ⟨_,h2⟩:=hr i (by omega)
   rw [Nat.zero_add] at h2
   rw [h2,List.getD_eq_getElem?_getD]
   simp [hi]
 ·refine ⟨ho,fun k hk=>?_⟩
  unfold S11.cnt at hk
  obtain ⟨h1,_⟩:=hr (1000*k) (by omega)
  rw [Nat.zero_add,show 1000*k/1000=k by omega] at h1
  exact h1
theorem unp_no {C:List Nat} (h:¬ S11.opOk C):unpP C=none:=by
 unfold unpP;rw [if_neg fun h2=>h h2.1]
theorem unp_bad {C:List Nat} {k:Nat} (hk:k*1000<getFour (S11.hd C)) (h:(S11.txB (S11.blk (S11.hd C) (S11.rst C) k)).1=false):unpP C=none:=by
 unfold unpP
 rw [if_neg]
 rintro ⟨_,h2⟩
 rw [h2 k (by unfold S11.cnt;omega)] at h
 cases h
theorem holds_reads {B C:List Nat} (hh:S11.Holds B C):S11.Reads (S11.blk (S11.hd C) (S11.rst C)) 0 B:=by
 intro i hi
 have hk:i/1000<S11.cnt B.length:=by unfold S11.cnt;omega
 rw [Nat.zero_add,hh.2.2 _ hk]
 refine ⟨rfl,?_⟩
 rw [S11.chk_get B (Nat.mod_lt _ (by omega)),show 1000*(i/1000)+i%1000=i by omega]
theorem unp_holds {B C:List Nat} (hh:S11.Holds B C):unpP C=some B:=unp_ok hh.1 hh.2.1.symm (holds_reads hh)
noncomputable def dirP (D:List Nat):Option (List (RT×Nat)):=if openOk D=true then (unpP (D.drop 12)).bind dirF else none
open Classical in
noncomputable def openP (b:List Nat):Option (List (RT×Nat)×List Nat):=
 (dirP (b.take (S11.e0 b))).bind fun L=>if S11.opOk (b.drop (S11.e0 b))∧getFour (S11.hd (b.drop (S11.e0 b)))=total L then some (L,b.drop (S11.e0 b)) else none
theorem pack_len (B:List Nat):(S11.packP B).length≤B.length+8*S11.cnt B.length+16:=by
 rw [S11.packP_length];have:=S11.bodP_le B (S11.cnt B.length);omega
theorem build_parts (l:List RT) (h:(rowsE l).length≤1000000):S11.e0 (buildP l)=12+(S11.packP (rowsE l)).length∧(buildP l).take (S11.e0 (buildP l))=pseal (S11.packP (rowsE l))∧(buildP l).drop (S11.e0 (buildP l))=S11.packP (valsE l)∧openOk (pseal (S11.packP (rowsE l)))=true:=by
 have hp:=pack_len (rowsE l)
 unfold S11.cnt at hp
 obtain ⟨h0,h1,h2,_,h4⟩:=S11.open_seal (S11.packP (rowsE l)) (S11.packP (valsE l)) (S11.packP_lt (rowsE_lt l)) (by omega)
 unfold buildP
 refine ⟨h0,by rw [h0];exact h1,h4,h2⟩
theorem drop_seal (P:List Nat):(pseal P).drop 12=P:=List.drop_left' (by simp [four])
theorem openP_build {l:List RT} (h:∀ r∈l,chk r=0) (hl:l.length≤1000):openP (buildP l)=some (rowsOf l,S11.packP (valsE l)):=by
 have hr:=rowsE_len h
 have hv:=valsE_len h
 obtain ⟨h0,h1,h2,h3⟩:=build_parts l (by omega)
 have hV:=S11.pack_holds (valsE l) (valsE_lt l) (by omega)
 have hR:=S11.pack_holds (rowsE l) (rowsE_lt l) (by omega)
 unfold openP dirP
 rw [h1,h2,if_pos h3,drop_seal,unp_holds hR]
 simp only [Option.bind_some,dirF_rows h]
 rw [if_pos ⟨hV.1,by rw [total_rows];exact hV.2.1⟩]
end Go.Proofs.YtmjpnbadfmgimaaGreatDoor.S16
namespace Go.Proofs.YtmjpnbadfmgimaaGreatDoor.S16
open Go.RowKit Pl S3 S3.Pl S14
theorem wpList_append_near {w:World} {ops:Array Oper} {rest:List Oper} {o:Oper} {a:Act} {Q:Exit→Act→World→Prop} (hgd:o.guard=none) (s x:Operand)
  (ho:o.op=.call { callee:=.builtin .append,args:=#[s,x],argTypes:=#[27,27] })
  (base:Nat) (v:Value) (n:Nat) (A:List Nat) (hs:a.eval s=v) (hown:w.ownsRow base 5 1 v n (u8s A)) (src:Value) (B:List Nat) (hx:a.eval x=src) (hsrc:IsBytes w src B)
  (hb:n+B.length≤4294967296) (hbase:base≤w.heap.size)
  (h:∀ v' w',w'.ownsRow base 5 1 v' (n+B.length) (u8s (A++B))→w.grownBy w' v.ownBlock→S11.Near w v v'→wpList Tryz.prog ops Q rest (a.put o.dst v') w'):wpList Tryz.prog ops Q (o::rest) a w:=by
 refine wpList_plain hgd fun K hK'=>?_
 exact S11.wp_append_near s x ho base v n A hs hown src B hx hsrc hb hbase fun v' w' r1 r2 r3=>hK' _ _ (h v' w' r1 r2 r3)
theorem run_append_str_near {w:World} (ty:TypeId) (base:Nat) (v:Value) (n:Nat) (A:List Nat) (hown:w.ownsRow base 5 1 v n (u8s A)) (s:ByteArray) (hb:n+s.size≤4294967296) (hbase:base≤w.heap.size):
  ∃ v' w',(Builtin.append_ #[27,9] ty #[v,.string s]).run Tryz.prog w=.ok v' w'∧w'.ownsRow base 5 1 v' (n+s.size) (u8s (A++strB s))∧w.grownBy w' v.ownBlock∧S11.Near w v v':=by
 obtain ⟨i0,hi,hz0,hz1,hz2⟩:=info_parts info5
 rw [u8s_append,← strCells_u8s]
 have h63:n+s.size≤maxLen:=by unfold maxLen;omega
 obtain ⟨v',w',hr',r1,r2,_⟩:=Lib.run_append_own_string (P:=Tryz.prog) w base 27 9 ty 5 i0 Tryz.underlying27 Tryz.underlying9 hi hz0 hz1 hz2 v n (u8s A) hown s h63 (by omega) hbase
 refine ⟨v',w',hr',r1,r2,?_⟩
 rcases hown.2 with ⟨rfl,rfl⟩ | ⟨g,cp,cur,rfl,hbg,hg,hnc,hcm,hcs,htake⟩
 ·have hA:u8s A=[]:=List.eq_nil_of_length_eq_zero (by simpa using hown.1)
  obtain ⟨v2,w2,hr2,q1,_,_⟩:=Lib.run_append_own_string (P:=Tryz.prog) w w.heap.size 27 9 ty 5 i0 Tryz.underlying27 Tryz.underlying9 hi hz0 hz1 hz2 (.slice none 0 0) 0 [] (World.ownsRow_nil _ _ _ _) s h63 (by omega) (Nat.le_refl _)
  rw [hr'] at hr2
  cases hr2
  exact fun g hg=>.inr ((q1.lt g hg).1)
 ·by_cases hroom:n+s.size≤cp
  ·have hr:=Lib.run_append_room_string (P:=Tryz.prog) w 27 9 ty 5 i0 Tryz.underlying27 Tryz.underlying9 hi hz1 g n cp cur hg s hroom (by omega)
   rw [hr'] at hr
   have e1:v'=.slice (some ⟨g,0,none⟩) (n+s.size) cp:=by injection hr
   subst e1
   exact fun g' hg'=>.inl (by simpa [Value.ownBlock] using hg')
  ·have hr:=Lib.run_append_grow_string (P:=Tryz.prog) w 27 9 ty 5 i0 (.int .u8 0) Tryz.underlying27 Tryz.underlying9 hi hz0 ⟨g,0,none⟩ n cp (u8s A) (by rw [hz1];exact hown.1) (hown.cells (g:=g) rfl) s (by omega) (by omega) (by rw [hz2];exact growslice_fits (by omega) (by omega))
   rw [hr'] at hr
   have e1:v'=.slice (some ⟨w.heap.size,0,none⟩) (n+s.size) (grownCap w (n+s.size) cp 5):=by injection hr
   subst e1
   exact fun g' hg'=>.inr (by simp [Value.ownBlock] at hg';omega)
theorem wpList_append_str_near {w:World} {ops:Array Oper} {rest:List Oper} {o:Oper} {a:Act} {Q:Exit→Act→World→Prop} (hgd:o.guard=none) (s x:Operand)
  (ho:o.op=.call { callee:=.builtin .append,args:=#[s,x],argTypes:=#[27,9] })
  (base:Nat) (v:Value) (n:Nat) (A:List Nat) (hs:a.eval s=v) (hown:w.ownsRow base 5 1 v n (u8s A)) (t:ByteArray) (hx:a.eval x=.string t)
  (hb:n+t.size≤4294967296) (hbase:base≤w.heap.size)
  (h:∀ v' w',w'.ownsRow base 5 1 v' (n+t.size) (u8s (A++strB t))→w.grownBy w' v.ownBlock→S11.Near w v v'→wpList Tryz.prog ops Q rest (a.put o.dst v') w'):wpList Tryz.prog ops Q (o::rest) a w:=by
 refine wpList_plain hgd fun K hK'=>?_
 obtain ⟨v',w',hr,h2,h3,h4⟩:=run_append_str_near o.type base v n A hown t hb hbase
 unfold Oper.wp execOp
 simp only [ho,resolve,invoke,builtin,Sem.run_bind,Sem.run_pure,Result.andThen_ok,List.map_toArray,List.map_cons,List.map_nil,hs,hx,hr]
 exact hK' _ _ (h v' w' h2 h3 h4)
structure Two (w0:World) (va vm:Value) (A M:List Nat) (W:World):Prop where
 oa:W.ownsRow w0.heap.size 5 1 va A.length (u8s A)
 om:W.ownsRow w0.heap.size 5 1 vm M.length (u8s M)
 ne:∀ g,va.ownBlock=some g→vm.ownBlock≠some g
 bel:Below w0.heap.size w0 W
theorem Two.below {w0 W W':World} {va vm:Value} {A M:List Nat} (h:Two w0 va vm A M W) (hb:Below W.heap.size W W'):Two w0 va vm A M W':=
 ⟨own_below h.oa hb,own_below h.om hb,h.ne,h.bel.trans (hb.mono h.bel.size)⟩
theorem Two.a {w0 W W':World} {va vm v:Value} {A M B:List Nat} (h:Two w0 va vm A M W) (ho:W'.ownsRow w0.heap.size 5 1 v (A.length+B.length) (u8s (A++B))) (hg:W.grownBy W' va.ownBlock) (hn:S11.Near W va v):Two w0 v vm (A++B) M W':=by
 refine ⟨by rw [List.length_append];exact ho,S11.own_kept h.om hg (fun g h1 h2=>h.ne g h2 h1),fun g h1 h2=>?_,h.bel.grown hg h.bel.size (own_lt h.oa)⟩
 rcases hn g h1 with h3 | h3
 ·exact h.ne g h3 h2
 ·have:=(h.om.lt g h2).2
  omega
theorem Two.m {w0 W W':World} {va vm v:Value} {A M:List Nat} {s:ByteArray} (h:Two w0 va vm A M W) (ho:W'.ownsRow w0.heap.size 5 1 v (M.length+s.size) (u8s (M++strB s))) (hg:W.grownBy W' vm.ownBlock) (hn:S11.Near W vm v):Two w0 va v A (M++strB s) W':=by
 refine ⟨S11.own_kept h.oa hg (fun g h1 h2=>h.ne g h1 h2),by rw [List.length_append,strB_length];exact ho,fun g h1 h2=>?_,h.bel.grown hg h.bel.size (own_lt h.om)⟩
 rcases hn g h2 with h3 | h3
 ·exact h.ne g h1 h3
 ·have:=(h.oa.lt g h1).2
  omega
theorem Two.open {w0 W:World} {va vm:Value} {A M:List Nat} (h:Two w0 va vm A M W):∃ sp N cap sq K cq,va=.slice sp N cap∧vm=.slice sq K cq∧Hid (N=A.length)∧Hid (K=M.length):=by
 obtain ⟨sp,cap,he,_⟩:=ownsRow_slice h.oa
 obtain ⟨sq,cq,hf,_⟩:=ownsRow_slice h.om
 exact ⟨sp,_,cap,sq,_,cq,he,hf,Lib.hid rfl,Lib.hid rfl⟩
theorem own_is {W:World} {base N cap:Nat} {sp:Option Addr} {A:List Nat} (h:W.ownsRow base 5 1 (.slice sp N cap) A.length (u8s A)) (hx:∀ x∈A,x<256):IsBytes W (.slice sp N cap) A:=by
 obtain ⟨_,_,he,_⟩:=ownsRow_slice h
 simp at he
 obtain ⟨rfl,rfl,rfl⟩:=he
 exact isBytes_own hx h
def badF:List RT→Nat
 | []=>0
 | r::l=>if chk r=0 then badF l else chk r
theorem bad_no:∀ {L:List RT},(∀ k,k<L.length→chk (L.getD k zR)=0)→badF L=0
 | [],_=>rfl
 | r::l,h=>by
   have h0:chk r=0:=by simpa using h 0 (by simp)
   rw [badF,if_pos h0]
   exact bad_no fun k hk=>by simpa using h (k+1) (by simpa using hk)
theorem bad_at:∀ {L:List RT} {i:Nat},i<L.length→(∀ k,k<i→chk (L.getD k zR)=0)→chk (L.getD i zR)≠0→badF L=chk (L.getD i zR)
 | [],_,h,_,_=>by simp at h
 | r::l,0,_,_,h=>by
   have h0:chk r≠0:=by simpa using h
   rw [badF,if_neg h0];rfl
 | r::l,i+1,hi,h,h2=>by
   have h0:chk r=0:=by simpa using h 0 (by simp)
   rw [badF,if_pos h0]
   have e:(r::l).getD (i+1) zR=l.getD i zR:=by simp
   rw [e] at h2 ⊢
   exact bad_at (by simpa using hi) (fun k hk=>by simpa using h (k+1) (by simpa using hk)) h2
theorem mem_ok {L:List RT} (h:∀ r∈L,chk r=0):∀ k,k<L.length→chk (L.getD k zR)=0:=by
 intro k hk
 have e:L.getD k zR=L[k]:=by simp [List.getD,hk]
 rw [e]
 exact h _ (List.getElem_mem hk)
theorem bad_ok {L:List RT} (h:∀ r∈L,chk r=0):badF L=0:=bad_no (mem_ok h)
theorem take_more {L:List RT} {i:Nat} (hi:i<L.length):L.take (i+1)=L.take i++[L.getD i zR]:=by
 rw [List.take_add_one]
 simp [List.getD,hi]
theorem vals_take (L:List RT):∀ i,(valsE (L.take i)).length≤(valsE L).length:=by
 induction L with
 | nil=>intro i;simp
 | cons r l ih=>
   intro i
   cases i with
   | zero=>simp [valsE]
   | succ i=>have:=ih i;simp only [List.take_succ_cons,valsE,List.length_append];omega
def BuildPost (L:List RT) (w:World) (e:Ending) (w':World):Prop:=
 Hid (Below w.heap.size w w')∧((badF L=0∧∃ sp n cap,e=.returned (.tuple #[.slice sp n cap,.int .i64 0])∧Hid (n=(buildP L).length)∧Hid (IsBytes w' (.slice sp n cap) (buildP L)))∨(∃ c:Nat,badF L=c∧c≠0∧e=.returned (.tuple #[.slice none 0 0,.int .i64 c])))
theorem pack_le {B:List Nat} (h:B.length≤100000):(S11.packP B).length≤101000:=by
 have:=pack_len B
 unfold S11.cnt at this
 omega
attribute [local go_sem ↓] loadR_eq storeR_eq
theorem build_any (v:Value) (L:List RT) (w:World) (hT:Tab w) (hv:RecsAt w v L) (hL:L.length≤700) (hs:∀ r∈L,r.key.size≤maxLen∧r.val.size≤maxLen) (hM:(valsE L).length≤100000):Calls Tryz.prog 11 #[v] w (BuildPost L w):=by
 have HR:=Lib.hid hv
 have HS:=Lib.hid hs
 have HT:=Lib.hid hT
 obtain ⟨a,cap,rfl,hc1,hm1,_⟩:=hv
 unfold maxLen at hm1
 clear hs hT
 go_enter Tryz.func11,Tryz.ntmps11
 go_wp2_with fail
 go_loopw [4,5,11] (fun x y z wr=>∃ (i:Nat) (A M:List Nat),i≤L.length∧z=.int .i64 i∧A.length≤131*i∧M.length≤100000∧Hid (A=rowsE (L.take i))∧Hid (M=valsE (L.take i))∧Hid (∀ k,k<i→chk (L.getD k zR)=0)∧Hid (Two w x y A M wr)) (fun _ _ z _=>L.length-(intOf z).toNat)
 case atStart=>exact ⟨0,[],[],by omega,rfl,by simp,by simp,Lib.hid rfl,Lib.hid rfl,Lib.hid (fun k hk=>by omega),Lib.hid ⟨own_nil _ _,own_nil _ _,(fun g h=>by cases h),Below.refl _ _⟩⟩
 case round=>
  obtain ⟨i,A,M,hi,rfl,hA,hMl,HA,HM,HOK,H2⟩:=hrel
  obtain ⟨sp,N,cp,sq,K,cq,rfl,rfl,HN,HK⟩:=H2.out.open
  by_cases hlt:i<L.length
  ·obtain ⟨b,off,rfl,hld1⟩:=(HR.out.below H2.out.bel).load (W:=wr) hlt
   have hld:=hld1 wr (Below.refl _ _)
   have hi1:(i:Int)<(L.length:Int):=by omega
   obtain ⟨r,hr⟩:∃ r,L.getD i zR=r:=⟨_,rfl⟩
   have hmem:r∈L:=by rw [← hr];simp [List.getD,hlt]
   rw [hr] at hld
   obtain ⟨z1,z2⟩:=HS.out r hmem
   have HRR:=Lib.hid hr
   obtain ⟨w3,hst,HR3,HB3⟩:=back_rec (w:=wr) r (Blk.new wr 26 (recL zR)) ((Below.refl _ _).alloc (Nat.le_refl _) _) (Nat.le_refl _)
   simp only [recL,zR] at hst
   have hld3:=run_loadR_blk HR3.out
   obtain ⟨c,hc⟩:∃ c,chk r=c:=⟨_,rfl⟩
   have hck:=check_any r w3 z1 z2
   rw [hc] at hck
   have HC:=Lib.hid hc
   have HCK:=Lib.hid hck
   have H23:=Lib.hid (H2.out.below HB3.out)
   clear hld1 hr hmem hck hc H2
   go_wp2_with fail
   refine HCK.out.mono ?_
   rintro e w4 ⟨rfl,hb4⟩
   have H24:=Lib.hid (H23.out.below hb4)
   have HR4:=Lib.hid (HR3.out.below hb4 HR3.out.lt)
   have hgl:=HR3.out.lt
   clear HCK hb4 H23 hst hld hld3
   by_cases h0:c=0
   rotate_left
   ·have q1:((c:Int) != 0)=true:=bne_t (by omega)
    have hbad:=bad_at hlt HOK.out (by rw [HRR.out,HC.out];exact h0)
    rw [HRR.out,HC.out] at hbad
    have HBD:=Lib.hid hbad
    have HB4:=Lib.hid H24.out.bel
    have H0:=Lib.hid h0
    clear h0 hbad H24 HR4
    go_wp2_with fail
    go_ret2
    exact ⟨HB4,.inr ⟨c,HBD.out,H0.out,rfl⟩⟩
   subst h0
   have hld4:=run_loadR_blk HR4.out
   have HE:=Lib.hid (encoded_any r w4 HC.out)
   have hrl:=(rowB_len HC.out).1
   clear HR3 HB3
   go_wp2_with fail
   refine HE.out.mono ?_
   rintro e w5 ⟨v5,rfl,ho5,hb5⟩
   obtain ⟨sp5,cap5,rfl,_,_⟩:=ownsRow_slice ho5
   have HI5:=Lib.hid (isBytes_own (rowB_lt r) ho5)
   have H25:=Lib.hid (H24.out.below hb5)
   have HR5:=Lib.hid (HR4.out.below hb5 HR4.out.lt)
   have hgl5:=HR5.out.lt
   clear ho5 hb5 H24 HR4 hld4 HE
   have hvs:=(chk_ok HC.out).2.2.1
   go_wp2_with (first
    | (at_builtin;refine wpList_append_near rfl (.tmp 20) (.tmp 22) rfl w.heap.size _ _ A rfl H25.out.oa _ (rowB r) rfl HI5.out (by omega) H25.out.bel.size ?_;intro v6 w6 ho6 hg6 hn6;have H26:=Lib.hid (H25.out.a ho6 hg6 hn6);have HR6:=Lib.hid (HR5.out.grown hg6 (S11.blk_own_ne H25.out.oa HR5.out (by decide)));clear ho6 hg6 hn6 H25 HI5 HR5;have c3:w6.cell? ⟨wr.heap.size,3,none⟩=some (.string r.val):=HR6.out.cell rfl;obtain ⟨sp6,N6,cp6,sq6,K6,cq6,rfl,hq6,_,_⟩:=H26.out.open;simp at hq6;obtain ⟨rfl,rfl,rfl⟩:=hq6)
    | (at_builtin;refine wpList_append_str_near rfl (.tmp 24) (.tmp 26) rfl w.heap.size _ _ M rfl H26.out.om r.val rfl (by omega) H26.out.bel.size ?_;intro v7 w7 ho7 hg7 hn7;have H27:=Lib.hid (H26.out.m ho7 hg7 hn7);clear ho7 hg7 hn7 H26))
   go_roundw
   case rel=>
    refine ⟨i+1,A++rowB r,M++strB r.val,by omega,by go_num,by rw [List.length_append];omega,?_,Lib.hid ?_,Lib.hid ?_,Lib.hid ?_,H27⟩
    ·have:=vals_take L (i+1)
     rw [take_more hlt,valsE_snoc,HRR.out,← HM.out] at this
     omega
    ·rw [take_more hlt,rowsE_snoc,HRR.out,← HA.out]
    ·rw [take_more hlt,valsE_snoc,HRR.out,← HM.out]
    ·intro k hk
     by_cases e:k=i
     ·subst e;rw [HRR.out];exact HC.out
     ·exact HOK.out k (by omega)
   case measure=>simp [intOf];omega
  ·obtain rfl:i=L.length:=by omega
   have hA':A=rowsE L:=by have:=HA.out;rwa [List.take_length] at this
   have hM':M=valsE L:=by have:=HM.out;rwa [List.take_length] at this
   have HBD:=Lib.hid (bad_no HOK.out)
   have HP:=Lib.hid (show pseal (S11.packP A)++S11.packP M=buildP L by rw [hA',hM'];rfl)
   have hAl:∀ x∈A,x<256:=by rw [hA'];exact rowsE_lt L
   have hMl2:∀ x∈M,x<256:=by rw [hM'];exact valsE_lt L
   have HAL:=Lib.hid hAl
   have HML:=Lib.hid hMl2
   have HIA:=Lib.hid (own_is H2.out.oa hAl)
   have hAn:A.length≤100000:=by omega
   have hp1:=pack_le hAn
   have hp2:=pack_le hMl
   have HPN:=Lib.hid (And.intro hp1 hp2)
   have HAN:=Lib.hid (And.intro hAn hMl)
   clear hA' hM' hAl hMl2 HA HM HOK hA hMl hAn hp1 hp2
   go_wp2_with fail
   refine (S11.packed_any _ A wr (HT.out.below H2.out.bel) HIA.out HAN.out.1).mono ?_
   rintro e w2 ⟨g2,n2,cp2,rfl,-,-,-,hi2,hb2⟩
   have H22:=Lib.hid (H2.out.below hb2.out)
   have hw2:w.heap.size≤w2.heap.size:=H22.out.bel.size
   clear HIA H2 hb2
   go_wp2_with fail
   refine (S3.seal_any _ (S11.packP A) w2 (HT.out.below H22.out.bel) hi2.out (by have:=HPN.out.1;omega)).mono ?_
   intro e w3 h3
   obtain ⟨sp3,cp3,rfl,ho3,hb3⟩:=h3.s
   have H23:=Lib.hid (H22.out.below hb3)
   have HO3:=Lib.hid ho3
   have hsz:w2.heap.size≤w3.heap.size:=hb3.size
   have HIM:=Lib.hid (own_is H23.out.om HML.out)
   obtain ⟨S3n,hS3⟩:∃ S3n,(pseal (S11.packP A)).length=S3n:=⟨_,rfl⟩
   rw [hS3] at HO3 ⊢
   have HS3:=Lib.hid hS3
   clear h3 ho3 hb3 hi2 H22 hS3
   go_wp2_with fail
   refine (S11.packed_any _ M w3 (HT.out.below H23.out.bel) HIM.out HAN.out.2).mono ?_
   rintro e w4 ⟨g4,n4,cp4,rfl,-,-,-,hi4,hb4⟩
   have H24:=Lib.hid (H23.out.below hb4.out)
   have HO4:=Lib.hid (own_below HO3.out hb4.out)
   have hsz4:w2.heap.size≤w4.heap.size:=Nat.le_trans hsz hb4.out.size
   have hbn:S3n+(S11.packP M).length≤140737488355328:=by have h1:=HS3.out;have h2:=HPN.out;rw [pseal_length] at h1;omega
   clear HO3 hb4 H23 HIM hsz
   go_wp2_with (at_builtin;refine wpList_append_bytes rfl (.tmp 31) (.tmp 33) rfl w2.heap.size _ _ _ rfl HO4.out _ (S11.packP M) rfl hi4.out hbn hsz4 ?_;intro v5 w5 hown hgr;have HO5:=Lib.hid hown;have HB5:Hid (Below w.heap.size w w5):=Lib.hid (H24.out.bel.grown hgr H24.out.bel.size fun k hk=>Nat.le_trans hw2 (own_lt HO4.out k hk));clear hown hgr H24 HO4 hi4)
   go_ret2
   obtain ⟨sp5,cp5,rfl,_,_⟩:=ownsRow_slice HO5.out
   have hfin:=HO5.out
   rw [← u8s_append,HP.out] at hfin
   have hln:S3n+(S11.packP M).length=(buildP L).length:=by rw [← HP.out,List.length_append,HS3.out]
   refine ⟨HB5,.inl ⟨HBD.out,sp5,_,cp5,rfl,Lib.hid hln,Lib.hid ?_⟩⟩
   rw [hln] at hfin ⊢
   refine isBytes_own ?_ hfin
   rw [← HP.out]
   intro x hx
   rcases List.mem_append.1 hx with hx | hx
   ·exact pseal_lt (S11.packP_lt HAL.out) x hx
   ·exact S11.packP_lt HML.out x hx
end Go.Proofs.YtmjpnbadfmgimaaGreatDoor.S16
namespace Go.Proofs.YtmjpnbadfmgimaaGreatDoor.S16
open Go.RowKit Pl S3 S3.Pl S14
theorem dec3_true {B:List Nat} {x:RW} {n:Nat} (h:dec3 B=(x,n,true)):∃ r z,decV B=some (r,z,n)∧x=(r,0,z):=by
 unfold dec3 at h
 split at h
 ·cases h
 ·rename_i t ht
  obtain ⟨r,z,e⟩:=t
  simp only [Prod.mk.injEq] at h
  obtain ⟨rfl,rfl,_⟩:=h
  exact ⟨r,z,ht,rfl⟩
theorem dec3_false {B:List Nat} {x:RW} {n:Nat} (h:dec3 B=(x,n,false)):decV B=none:=by
 unfold dec3 at h
 split at h
 ·assumption
 ·simp only [Prod.mk.injEq] at h
  cases h.2.2
def UnRes (C:List Nat) (w:World) (e:Ending) (w':World):Prop:=
 Hid (Below w.heap.size w w')∧((unpP C=none∧e=.returned (.tuple #[.slice none 0 0,.int .i64 6]))∨∃ X sp cap,unpP C=some X∧X.length≤1000000000∧e=.returned (.tuple #[.slice sp X.length cap,.int .i64 0])∧Hid (IsBytes w' (.slice sp X.length cap) X))
theorem unpack_res (v:Value) (C:List Nat) (w:World) (hT:Tab w) (hv:IsBytes w v C) (hl:C.length≤1000000):Calls Tryz.prog 45 #[v,.int .i64 9223372036854775807] w (UnRes C w):=by
 refine (S11.unpack_any v C 9223372036854775807 w hT hv hl).mono ?_
 rintro e w' (⟨hb,⟨h1,rfl⟩ | ⟨h1,h2,_⟩⟩ | ⟨h1,_,hb,⟨sp,cap,X,rfl,h3,h4,h5⟩ | ⟨rfl,k,_,_,h3,h4⟩⟩)
 ·exact ⟨Lib.hid hb,.inl ⟨unp_no h1,rfl⟩⟩
 ·have:=S11.op_small h1 hl
  omega
 ·have:=S11.op_small h1 hl
  rw [Nat.sub_zero] at h3 h4 ⊢
  rw [← h3] at h4 ⊢
  exact ⟨Lib.hid hb,.inr ⟨X,sp,cap,unp_ok h1 h3 h5,by omega,rfl,Lib.hid h4⟩⟩
 ·exact ⟨Lib.hid hb,.inl ⟨unp_bad h3 h4,rfl⟩⟩
def PCode (C:List Nat) (n m:Nat) (c:Int):Prop:=(m=0→(c=0↔S11.opOk C∧n≤getFour (S11.hd C)))∧(m=1→(c=7↔S11.opOk C∧getFour (S11.hd C)≤n))
theorem part_code (v:Value) (C:List Nat) (n m:Nat) (w:World) (hT:Tab w) (hv:IsBytes w v C) (hl:C.length≤1000000) (hn:n≤9000000000000000000) (hm:m≤1):Calls Tryz.prog 47 #[v,.int .i64 n,.int .i64 m] w fun e w'=>∃ sp q cap c,e=.returned (.tuple #[.slice sp q cap,.int .i64 c])∧Hid (Below w.heap.size w w')∧Hid (PCode C n m c):=by
 refine (S11.part_any v C n m w hT hv hl (S11.wf_nat (by omega)) (S11.wf_nat (by omega))).mono ?_
 rintro e w' (⟨hb,⟨h1,rfl⟩ | ⟨h1,h2,rfl⟩⟩ | ⟨h1,p,q,hp,hq,h2,hb,⟨sp,cap,X,rfl,h3,h4,h5⟩ | ⟨rfl,k,h6,_,h3,h4⟩⟩)
 ·exact ⟨_,_,_,_,rfl,Lib.hid hb,Lib.hid ⟨fun _=>⟨fun h=>by omega,fun h=>absurd h.1 h1⟩,fun _=>⟨fun h=>by omega,fun h=>absurd h.1 h1⟩⟩⟩
 ·exact ⟨_,_,_,_,rfl,Lib.hid hb,Lib.hid ⟨fun _=>⟨fun h=>by omega,fun h=>by omega⟩,fun _=>⟨fun _=>⟨h1,by omega⟩,fun _=>rfl⟩⟩⟩
 ·exact ⟨_,_,_,_,rfl,Lib.hid hb,Lib.hid ⟨fun _=>⟨fun _=>⟨h1,by omega⟩,fun _=>rfl⟩,fun _=>⟨fun h=>by omega,fun h=>by omega⟩⟩⟩
 ·exact ⟨_,_,_,_,rfl,Lib.hid hb,Lib.hid ⟨fun _=>⟨fun h=>by omega,fun h=>by omega⟩,fun _=>⟨fun h=>by omega,fun h=>by omega⟩⟩⟩
open Classical in
noncomputable def holdB (C:List Nat) (n:Nat):Bool:=if S11.opOk C∧getFour (S11.hd C)=n then true else false
theorem hold_t {C:List Nat} {n:Nat} (h1:S11.opOk C) (h2:getFour (S11.hd C)=n):holdB C n=true:=by unfold holdB;rw [if_pos ⟨h1,h2⟩]
theorem hold_f {C:List Nat} {n:Nat} (h:¬ (S11.opOk C∧getFour (S11.hd C)=n)):holdB C n=false:=by unfold holdB;rw [if_neg h]
theorem holds_any (v:Value) (C:List Nat) (n:Nat) (w:World) (hT:Tab w) (hv:IsBytes w v C) (hl:C.length≤1000000) (hn:n≤9000000000000000000):Calls Tryz.prog 31 #[v,.int .i64 n] w fun e w'=>e=.returned (.bool (holdB C n))∧Hid (Below w.heap.size w w'):=by
 have HP1:=Lib.hid (part_code v C n 0 w hT hv hl hn (by omega))
 have HP2:=Lib.hid fun (w2:World) (hb:Below w.heap.size w w2)=>part_code v C n 1 w2 (hT.below hb) (hv.below hb) hl hn (by omega)
 clear hT hv
 go_enter Tryz.func31,Tryz.ntmps31
 go_wp2_with fail
 refine HP1.out.mono ?_
 rintro e w1 ⟨sp1,m1,cp1,c1,rfl,HB1,H1⟩
 clear HP1
 go_wp2_with fail
 refine (HP2.out w1 HB1.out).mono ?_
 rintro e w2 ⟨sp2,m2,cp2,c2,rfl,HB2,H2⟩
 have HB:=Lib.hid (HB1.out.trans (HB2.out.mono HB1.out.size))
 clear HP2 HB1 HB2
 by_cases g1:c1=0
 ·have b1:(c1==0)=true:=beq_t g1
  obtain ⟨k1,k2⟩:=(H1.out.1 rfl).1 g1
  by_cases g2:c2=7
  ·have b2:(c2==7)=true:=beq_t g2
   have he:=hold_t k1 (Nat.le_antisymm ((H2.out.2 rfl).1 g2).2 k2)
   have HE:=Lib.hid he
   clear g1 g2 k1 k2 he H1 H2
   go_wp2
   go_ret
   exact ⟨by rw [HE.out];rfl,HB⟩
  ·have b2:(c2==7)=false:=beq_f g2
   have he:holdB C n=false:=hold_f fun h=>g2 ((H2.out.2 rfl).2 ⟨h.1,by omega⟩)
   have HE:=Lib.hid he
   clear g1 g2 k1 k2 he H1 H2
   go_wp2
   go_ret
   exact ⟨by rw [HE.out];rfl,HB⟩
 ·have b1:(c1==0)=false:=beq_f g1
  have he:holdB C n=false:=hold_f fun h=>g1 ((H1.out.1 rfl).2 ⟨h.1,by omega⟩)
  have HE:=Lib.hid he
  clear g1 he H1 H2
  go_wp2
  go_ret
  exact ⟨by rw [HE.out];rfl,HB⟩
def DirPost (D:List Nat) (w:World) (e:Ending) (w':World):Prop:=
 Hid (Below w.heap.size w w')∧((dirP D=none∧e=.returned (.tuple #[.slice none 0 0,.int .i64 0,.bool false]))∨∃ L sp cap,dirP D=some L∧e=.returned (.tuple #[.slice sp L.length cap,.int .i64 (total L:Nat),.bool true])∧Hid (QAt w' (.slice sp L.length cap) (qOf L 0))∧Hid (∀ x∈L,RowOk x)∧L.length≤1000000000)
theorem dir_no {D:List Nat} (h:openOk D=false):dirP D=none:=by unfold dirP;rw [if_neg (by rw [h];simp)]
theorem dir_un {D:List Nat} {o:Option (List Nat)} (h:openOk D=true) (h2:unpP (D.drop 12)=o):dirP D=o.bind dirF:=by unfold dirP;rw [if_pos h,h2]
attribute [local go_sem ↓] loadQ_eq storeQ_eq buildQ_eq sliceU8_eq
theorem directory_any (v:Value) (D:List Nat) (w:World) (hT:Tab w) (hv:IsBytes w v D) (hl:D.length≤1000000):Calls Tryz.prog 30 #[v] w (DirPost D w):=by
 have HO:=Lib.hid (open_any v D w hT hv (by omega))
 have HT:=Lib.hid hT
 clear hT hv
 go_enter Tryz.func30,Tryz.ntmps30
 go_wp2_with fail
 refine HO.out.mono ?_
 rintro e w1 ⟨v1,rfl,hb1,hi1⟩
 clear HO
 cases ho:openOk D with
 | false=>
   have HN:=Lib.hid (dir_no ho)
   have HB:=Lib.hid hb1
   clear ho hi1 hb1
   go_wp2_with fail
   go_ret3
   exact ⟨HB,.inl ⟨HN.out,rfl⟩⟩
 | true=>
 rw [ho,if_pos rfl] at hi1
 have HU:=Lib.hid (unpack_res v1 (D.drop 12) w1 (HT.out.below hb1) hi1 (by rw [List.length_drop];omega))
 have HO:=Lib.hid ho
 have HB1:=Lib.hid hb1
 clear ho hi1 hb1
 go_wp2_with fail
 refine HU.out.mono ?_
 rintro e w2 ⟨HB2,⟨hu,rfl⟩ | ⟨X,sp,cap,hu,hX,rfl,HX⟩⟩
 ·have HN:=Lib.hid (dir_un HO.out hu)
  have HB:=Lib.hid (HB1.out.trans (HB2.out.mono HB1.out.size))
  clear HU hu
  go_wp2_with fail
  go_ret3
  exact ⟨HB,.inl ⟨HN.out,rfl⟩⟩
 have HN:=Lib.hid (dir_un HO.out hu)
 have HB:=Lib.hid (HB1.out.trans (HB2.out.mono HB1.out.size))
 obtain ⟨M,hM⟩:∃ M,X.length=M:=⟨_,rfl⟩
 rw [hM] at HX hX ⊢
 have HM:=Lib.hid hM
 clear HU hu HB1 HB2 HO hM
 go_wp2_with fail
 go_loopw [7,9,10] (fun v7 v9 v10 wr=>∃ (a:Option Addr) (N c p:Nat) (F:List (RT×Nat)),v7=.slice a N c∧v10=.int .i64 (total F:Nat)∧Hid (N=(X.drop p).length)∧p≤M∧4*F.length≤p∧Hid (IsBytes w2 (.slice a N c) (X.drop p))∧Hid (DTo X p F)∧Hid (OwnQ w2.heap.size wr v9 (qOf F 0))∧Hid (∀ x∈F,RowOk x)∧Hid (Below w2.heap.size w2 wr)) (fun v7 _ _ _=>match v7 with | .slice _ n _=>n | _=>0)
 case atStart=>exact ⟨sp,M,cap,0,[],rfl,rfl,Lib.hid (by rw [List.drop_zero,HM.out]),by omega,by simp,HX,Lib.hid (DTo.start X),Lib.hid (ownQ_nil _ _),Lib.hid (by simp),Lib.hid (Below.refl _ _)⟩
 case round=>
  obtain ⟨a,N,c,p,F,rfl,rfl,HNl,hp,hF,HI,HD,HQ,HR,HBr⟩:=hrel
  clear HX
  obtain ⟨sq,cq,rfl,_,_⟩:=HQ.out.slice
  by_cases h0:N=0
  ·subst h0
   have hfin:=HD.out.done HNl.out.symm
   have HF:=Lib.hid hfin
   have hql:=qOf_length F 0
   rw [hql] at HQ ⊢
   clear hfin hql
   go_wp2_with fail
   go_ret3
   refine ⟨Lib.hid (HB.out.trans (HBr.out.mono HB.out.size)),.inr ⟨F,sq,cq,by rw [HN.out];exact HF.out,rfl,Lib.hid (HQ.out.at),HR,by omega⟩⟩
  ·have hlt:0<N:=by omega
   have HNE:Hid ((X.drop p).length≠0):=Lib.hid (by rw [← HNl.out];exact h0)
   have HDE:=Lib.hid (decoded_any _ (X.drop p) wr (HI.out.below HBr.out) (by rw [List.length_drop,HM.out];omega))
   obtain ⟨T,hT⟩:∃ T,total F=T:=⟨_,rfl⟩
   have hTb:T≤4000*F.length:=by rw [← hT];exact total_le HR.out
   have HTT:=Lib.hid hT
   rw [hT]
   obtain ⟨G,hG⟩:∃ G,(qOf F 0).length=G:=⟨_,rfl⟩
   have hG4:4*G≤p:=by rw [← hG,qOf_length F 0];exact hF
   have HGG:=Lib.hid hG
   rw [hG] at HQ ⊢
   clear h0 hT hG
   go_wp2_with fail
   refine HDE.out.mono ?_
   rintro e w3 ⟨x,n,b,hd3,rfl,HB3⟩
   obtain ⟨w4,hst4,HK4,HB4⟩:=back_q (w:=w3) x (Blk.new w3 62 (qL zQ)) ((Below.refl _ _).alloc (Nat.le_refl _) _) (Nat.le_refl _)
   simp only [qL,zQ,zR,Int.natCast_zero] at hst4
   have HD3:=Lib.hid hd3
   clear HDE hd3
   cases b with
   | false=>
     have HF:=Lib.hid (HD.out.bad HNE.out (dec3_false HD3.out))
     have HBf:Hid (Below w.heap.size w w4):=Lib.hid (HB.out.trans ((HBr.out.trans ((HB3.out.trans (HB4.out.mono HB3.out.size)).mono HBr.out.size)).mono HB.out.size))
     clear HD HD3
     go_wp2_with fail
     go_ret3
     exact ⟨HBf,.inl ⟨by rw [HN.out];exact HF.out,rfl⟩⟩
   | true=>
     obtain ⟨r,z,hdv,rfl⟩:=dec3_true HD3.out
     obtain ⟨f1,f2,f3,_,f5,f6⟩:=decV_some hdv
     have HST:=Lib.hid (HD.out.step hdv)
     obtain ⟨a2,N2,c2,HN2,hs2,HI2⟩:=from_i HI.out n (n:Int) rfl f6
     rw [List.drop_drop] at HN2 HI2
     rw [List.length_drop,HM.out] at f6
     have HRO:Hid (RowOk (r,z)):=Lib.hid ⟨f1,f2,f3⟩
     simp only [Int.natCast_zero] at hst4
     have f4:w4.frozen? ⟨w3.heap.size,4,none⟩=false:=HK4.out.frozen 4
     have c4:w4.cell? ⟨w3.heap.size,4,none⟩=some (.int .i64 ((0:Nat):Int)):=HK4.out.cell rfl
     rw [Int.natCast_zero] at c4
     obtain ⟨w5,hw5⟩:∃ w5,w4.setCell ⟨w3.heap.size,4,none⟩ (.int .i64 (T:Nat))=w5:=⟨_,rfl⟩
     have HK5:Hid (Blk w5 w3.heap.size 62 (qL (r,T,z))):=Lib.hid (by rw [← hw5];exact HK4.out.set 4 _)
     have HG5:Hid (Below w3.heap.size w3 w5):=Lib.hid (by rw [← hw5];exact HB4.out.trans (((Gr.refl w4 w3.heap.size).setCell 4 _).below HB4.out.size (Nat.le_refl _)))
     have c5:w5.cell? ⟨w3.heap.size,5,none⟩=some (.int .i64 z):=HK5.out.cell rfl
     have hld5:=run_loadQ_blk HK5.out
     have HB5:Hid (Below wr.heap.size wr w5):=Lib.hid (HB3.out.trans (HG5.out.mono HB3.out.size))
     have HQ5:=Lib.hid (OwnQ.below HQ.out HB5.out)
     have HBB:=Lib.hid (HBr.out.trans (HB5.out.mono HBr.out.size))
     have hsz:=HBB.out.size
     have htn:(T:Int)+(z:Int)=((total (F++[(r,z)]):Nat):Int):=by rw [total_snoc,HTT.out];omega
     have HTN:=Lib.hid htn
     clear HD HD3 hdv HB3 HB4 HK4 HG5 HQ HI f1 f2 htn
     go_wp2_with (at_builtin;refine wpList_append_q rfl (.tmp 45) (.tmp 47) rfl w2.heap.size _ (qOf F 0) rfl HQ5.out r T z rfl (by rw [HGG.out];omega) hsz ?_;intro v' w6 hown hgr;have HQ6:=Lib.hid hown;have HG6:=Lib.hid hgr;clear hown hgr)
     go_roundw
     case rel=>exact ⟨a2,N2,c2,p+n,F++[(r,z)],rfl,by rw [← HTN.out],HN2,by omega,by simp;omega,HI2,HST,Lib.hid (by rw [qOf_snoc,Nat.zero_add,HTT.out];exact HQ6.out),Lib.hid (by intro x hx;rw [List.mem_append,List.mem_singleton] at hx;exact hx.elim (HR.out x) (fun h=>by rw [h];exact HRO.out)),Lib.hid ((HBB.out.alloc hsz _).grown HG6.out (by simp;omega) (OwnQ.lt HQ5.out))⟩
     case measure=>
      have g1:=HN2.out
      have g2:=HNl.out
      simp only [List.length_drop] at g1 g2
      simp
      omega
end Go.Proofs.YtmjpnbadfmgimaaGreatDoor.S16
namespace Go.Proofs.YtmjpnbadfmgimaaGreatDoor.S16
open Go.RowKit Pl S3 S3.Pl S14 Go.Maps
def IsSeg (w:World) (g:Nat) (L:List (RT×Nat)) (V:List Nat):Prop:=
 ∃ (a:Option Addr) (cap mb:Nat) (vv:Value),Blk w g 64 [.slice a L.length cap,.map (some mb),vv]∧QAt w (.slice a L.length cap) (qOf L 0)∧IsLast w mb L L.length∧IsBytes w vv V∧S11.opOk V∧getFour (S11.hd V)=total L∧(∀ x∈L,RowOk x)∧L.length≤1000000000∧V.length≤1000000
theorem IsSeg.below {w w':World} {g:Nat} {L:List (RT×Nat)} {V:List Nat} (h:IsSeg w g L V) (hb:Below w.heap.size w w'):IsSeg w' g L V:=by
 obtain ⟨a,cap,mb,vv,h1,h2,h3,h4,h5⟩:=h
 exact ⟨a,cap,mb,vv,h1.below hb h1.lt,h2.below hb,h3.below hb,h4.below hb,h5⟩
theorem IsSeg.lt {w:World} {g:Nat} {L:List (RT×Nat)} {V:List Nat} (h:IsSeg w g L V):g<w.heap.size:=by
 obtain ⟨a,cap,mb,vv,h1,_⟩:=h
 exact h1.lt
def OpPost (b:List Nat) (w:World) (e:Ending) (w':World):Prop:=
 Hid (Below w.heap.size w w')∧((openP b=none∧e=.returned (.tuple #[.pointer none,.int .i64 6]))∨∃ L V g,openP b=some (L,V)∧e=.returned (.tuple #[.pointer (some ⟨g,0,none⟩),.int .i64 0])∧Hid (IsSeg w' g L V))
theorem open_none {b:List Nat} (h:dirP (b.take (S11.e0 b))=none):openP b=none:=by unfold openP;rw [h];rfl
theorem open_bad {b:List Nat} {L:List (RT×Nat)} (h:dirP (b.take (S11.e0 b))=some L) (h2:holdB (b.drop (S11.e0 b)) (total L)=false):openP b=none:=by
 unfold openP
 rw [h,Option.bind_some,if_neg]
 intro h3
 rw [hold_t h3.1 h3.2] at h2
 cases h2
theorem hold_inv {C:List Nat} {n:Nat} (h:holdB C n=true):S11.opOk C∧getFour (S11.hd C)=n:=by
 unfold holdB at h
 split at h
 ·assumption
 ·cases h
theorem open_good {b:List Nat} {L:List (RT×Nat)} (h:dirP (b.take (S11.e0 b))=some L) (h2:holdB (b.drop (S11.e0 b)) (total L)=true):openP b=some (L,b.drop (S11.e0 b)):=by
 unfold openP
 rw [h,Option.bind_some,if_pos (hold_inv h2)]
theorem drop_e0 (C:List Nat):C.drop (min (S11.e0 C) C.length)=C.drop (S11.e0 C):=by
 by_cases h:S11.e0 C≤C.length
 ·rw [Nat.min_eq_left h]
 ·rw [Nat.min_eq_right (by omega),List.drop_length,List.drop_of_length_le (by omega)]
theorem key_small {x:RT×Nat} (h:RowOk x):x.1.key.size≤maxLen:=by
 have:=(chk_ok h.1).2.1
 unfold maxLen;omega
attribute [local go_sem ↓] sliceU8_eq S11.minN_eq loadQ_eq storeQ_eq
theorem open_seg (v:Value) (b:List Nat) (w:World) (hT:Tab w) (hv:IsBytes w v b) (hl:b.length≤1000000):Calls Tryz.prog 12 #[v] w (OpPost b w):=by
 have hmm:=@run_makeMap Tryz.prog
 obtain ⟨N,hN⟩:∃ N,b.length=N:=⟨_,rfl⟩
 obtain ⟨va,vcap,rfl,hcap,hmax⟩:=hv.slice
 have hgl:=getFour_lt hv.1
 obtain ⟨E,hE⟩:∃ E,S11.e0 b=E:=⟨_,rfl⟩
 obtain ⟨F,hF⟩:∃ F,getFour b=F:=⟨_,rfl⟩
 have hFE:E=12+F:=by rw [← hE,← hF];rfl
 obtain ⟨M,hM⟩:∃ M,min E N=M:=⟨_,rfl⟩
 obtain ⟨a1,c1,hs1,hi1⟩:=run_upto hv M (by omega)
 obtain ⟨a2,c2,hs2,hi2⟩:=run_from hv M (by omega)
 have hq:=getFour_quiet _ b w 0 hv
 have ht:b.take M=b.take (S11.e0 b):=by rw [← hM,← hN,← hE];exact S11.hd_take b
 have hd:b.drop M=b.drop (S11.e0 b):=by rw [← hM,← hN,← hE];exact drop_e0 b
 rw [ht] at hi1
 rw [hd] at hi2
 rw [hF] at hgl hq
 rw [hN] at hcap hl hs1 hs2 hq hi2 ⊢
 obtain ⟨R,hR⟩:∃ R,N-M=R:=⟨_,rfl⟩
 rw [hR] at hs2 hi2
 have hfe:(12:Int)+(F:Int)=(E:Int):=by omega
 have hmn:∀ ats ty (W:World),(S11.minN ats ty (.int .i64 (E:Nat)) (.int .i64 (N:Nat))).run Tryz.prog W=.ok (.int .i64 (M:Nat)) W:=fun ats ty W=>by
  rw [S11.run_minN,show min (E:Int) (N:Int)=(M:Nat) by omega]
 have hs1':∀ W,(sliceU8 (.slice va N vcap) none (some (.int .i64 M)) none).run Tryz.prog W=.ok (.slice a1 M c1) W:=hs1
 have hs2':∀ W,(sliceU8 (.slice va N vcap) (some (.int .i64 M)) none none).run Tryz.prog W=.ok (.slice a2 R c2) W:=hs2
 have HT:=Lib.hid hT
 have HI1:=Lib.hid hi1
 have HI2:=Lib.hid hi2
 have HQ:=Lib.hid hq
 have HN:=Lib.hid hN
 have HFE:=Lib.hid hFE
 obtain ⟨D,hD⟩:∃ D,b.take (S11.e0 b)=D:=⟨_,rfl⟩
 obtain ⟨V,hV⟩:∃ V,b.drop (S11.e0 b)=V:=⟨_,rfl⟩
 have hDl:D.length≤1000000:=by rw [← hD,List.length_take];omega
 have hVl:V.length≤1000000:=by rw [← hV,List.length_drop];omega
 rw [hD] at HI1
 rw [hV] at HI2
 have HD:=Lib.hid hD
 have HV:=Lib.hid hV
 clear hv hT hi1 hi2 hs1 hs2 hq hE hN hFE hM hF ht hd hR hD hV
 go_enter Tryz.func12,Tryz.ntmps12
 go_wp2_with fail
 refine HQ.out.mono ?_
 rintro e w1 ⟨rfl,m1,rfl⟩
 have hE45:E<4294967308:=by rw [HFE.out];omega
 go_wp2_with fail
 refine (directory_any _ D _ (HT.out.drew m1) (HI1.out.drew m1) hDl).mono ?_
 rintro e w2 ⟨HB2,⟨hd,rfl⟩ | ⟨L,sp,cap,hd,rfl,HQ2,HR,hLl⟩⟩
 ·have HX:=Lib.hid (open_none (by rw [HD.out];exact hd))
  have HB:=Lib.hid (Below.trans (bel_drewN (Below.refl w.heap.size w) m1) HB2.out)
  clear hd HQ
  go_wp2_with fail
  go_ret2
  exact ⟨HB,.inl ⟨HX.out,rfl⟩⟩
 have HB:=Lib.hid (Below.trans (bel_drewN (Below.refl w.heap.size w) m1) HB2.out)
 have HI3:=Lib.hid ((HI2.out.drew m1).below HB2.out)
 have hTl:=total_le HR.out
 obtain ⟨T,hTT⟩:∃ T,total L=T:=⟨_,rfl⟩
 rw [hTT] at hTl ⊢
 have HTT:=Lib.hid hTT
 have HDL:=Lib.hid hd
 obtain ⟨K,hK⟩:∃ K,L.length=K:=⟨_,rfl⟩
 rw [hK] at hTl hLl HQ2 ⊢
 have HK:=Lib.hid hK
 clear hd hTT hK HB2 HQ HI2 HI1
 go_wp2_with fail
 refine (holds_any _ V T w2 (HT.out.below HB.out) HI3.out hVl (by omega)).mono ?_
 rintro e w3 ⟨rfl,HB3⟩
 have HBB:=Lib.hid (HB.out.trans (HB3.out.mono HB.out.size))
 have HI4:=Lib.hid (HI3.out.below HB3.out)
 have HQ3:=Lib.hid (HQ2.out.below HB3.out)
 clear HI3 HQ2 HB HB3
 cases hh:holdB V T with
 | false=>
   have HX:=Lib.hid (open_bad (by rw [HD.out];exact HDL.out) (by rw [HV.out,HTT.out];exact hh))
   clear hh
   go_wp2_with fail
   go_ret2
   exact ⟨HBB,.inl ⟨HX.out,rfl⟩⟩
 | true=>
 have HX:=Lib.hid (open_good (by rw [HD.out];exact HDL.out) (by rw [HV.out,HTT.out];exact hh))
 have HH:=Lib.hid (hold_inv hh)
 rw [HV.out] at HX
 clear hh
 have HL0:=Lib.hid (last_made w3 L)
 have HB0:Hid (Below w3.heap.size w3 (w3.alloc (.map #[] 0))):=Lib.hid ((Below.refl _ _).alloc (Nat.le_refl _) _)
 go_wp2_with fail
 go_loopw [39] (fun x wr=>∃ i:Nat,i≤K∧x=.int .i64 i∧Hid (IsLast wr w3.heap.size L i)∧Hid (Below w3.heap.size w3 wr)) (fun x _=>K-(intOf x).toNat)
 case atStart=>exact ⟨0,by omega,rfl,HL0,HB0⟩
 case round=>
  obtain ⟨i,hi,rfl,HLs,HBr⟩:=hrel
  clear HL0 HB0 hmm
  by_cases hlt:i<K
  ·obtain ⟨q,hq⟩:∃ q,(qOf L 0).getD i zQ=q:=⟨_,rfl⟩
   obtain ⟨b',off,rfl,hld1⟩:=(HQ3.out.below HBr.out).load (W:=wr) (i:=i) (by rw [qOf_length,HK.out];exact hlt)
   have hld:=hld1 wr (Below.refl _ _)
   rw [hq] at hld
   have hi1:(i:Int)<(K:Int):=by omega
   have hkey:q.1.key=(L.getD i zP).1.key:=by rw [← hq,qOf_get L i 0 (by rw [HK.out];exact hlt)]
   have hsm:q.1.key.size≤maxLen:=by
    rw [hkey]
    refine key_small (HR.out _ ?_)
    rw [List.getD_eq_getElem?_getD,List.getElem?_eq_getElem (by rw [HK.out];exact hlt)]
    exact List.getElem_mem _
   have HKY:=Lib.hid hkey
   obtain ⟨w4,hst4,HK4,HB4⟩:=back_q (w:=wr) q (Blk.new wr 62 (qL zQ)) ((Below.refl _ _).alloc (Nat.le_refl _) _) (Nat.le_refl _)
   simp only [qL,zQ,zR,Int.natCast_zero] at hst4
   have c2':w4.cell? ⟨wr.heap.size,2,none⟩=some (.string q.1.key):=HK4.out.cell rfl
   have HL4:=Lib.hid (HLs.out.below HB4.out)
   have HB4':=Lib.hid (HBr.out.trans (HB4.out.mono HBr.out.size))
   obtain ⟨D1,hown,hD1⟩:=HL4.out
   have HD1:=Lib.hid hD1
   have HOW:=Lib.hid hown
   have hbl:=HLs.out.lt
   have hkk:=WideMaps.keyOf_string_mk (P:=Tryz.prog) Tryz.underlying9 hsm
   have HKK:=Lib.hid hkk
   clear hld1 hq hkey hown hD1 HL4 HLs hkk
   go_wp2_with (at_mapUpdate;refine wpList_mapUpdate_own _ rfl _ _ _ 60 rfl 9 3 law Tryz.underlying60 _ w3.heap.size i D1 rfl HOW.out (by unfold maxLen;omega) _ _ _ rfl rfl HKK.out _ [] (plainElem_int Tryz.underlying3 (WalkArith.wf_i64 (by omega))) ?_;intro w5 hown5 hg5;have HO5:=Lib.hid hown5;have HG5:=Lib.hid hg5;clear hown5 hg5)
   go_roundw
   case rel=>exact ⟨i+1,by omega,by go_num,Lib.hid (last_step HOW.out.isMap HD1.out (by rw [← HKY.out];exact HO5.out)),Lib.hid (HB4'.out.grown HG5.out HB4'.out.size (fun k hk=>by cases hk;exact Nat.le_refl _))⟩
   case measure=>simp [intOf];omega
  ·obtain rfl:i=K:=by omega
   have HI6:=Lib.hid (HI4.out.below HBr.out)
   go_wp2_with fail
   refine (S3.clone_any _ V wr HI6.out (by omega)).mono ?_
   intro e w6 h6
   obtain ⟨sp6,cap6,rfl,ho6,hb6⟩:=h6.s
   have HI7:=Lib.hid (isBytes_own HI6.out.1 ho6)
   obtain ⟨Vn,hVn⟩:∃ Vn,V.length=Vn:=⟨_,rfl⟩
   rw [hVn] at HI7 hVl ⊢
   have HVN:=Lib.hid hVn
   have HB7:=Lib.hid (HBr.out.trans (hb6.mono HBr.out.size))
   have HLS7:=Lib.hid (HLs.out.below hb6)
   clear h6 ho6 hb6 hVn HI6 HLs
   go_wp2_with fail
   go_ret2
   have hA:∀ o,Below w6.heap.size w6 (w6.alloc o):=fun o=>(Below.refl _ _).alloc (Nat.le_refl _) o
   refine ⟨Lib.hid ((HBB.out.trans (HB7.out.mono HBB.out.size)).trans ((hA _).mono (Nat.le_trans HBB.out.size HB7.out.size))),.inr ⟨L,V,w6.heap.size,HX.out,rfl,Lib.hid ⟨sp,cap,w3.heap.size,.slice sp6 Vn cap6,?_,?_,?_,?_,HH.out.1,?_,HR.out,?_,?_⟩⟩⟩
   ·rw [HK.out];exact Blk.new w6 64 _
   ·rw [HK.out];exact (HQ3.out.below HB7.out).below (hA _)
   ·rw [HK.out];exact HLS7.out.below (hA _)
   ·exact HI7.out.below (hA _)
   ·rw [HTT.out];exact HH.out.2
   ·rw [HK.out];exact hLl
   ·rw [HVN.out];exact hVl
end Go.Proofs.YtmjpnbadfmgimaaGreatDoor.S16

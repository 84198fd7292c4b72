/- Texts put together: SufH, SufGb, SufGi, SufIb, SufIi, SufJ. -/
import Derived.Test.YtmjpnbadfmgimaaGreatDoorFg16
import Derived.Test.YtmjpnbadfmgimaaGreatDoorFg17
import Derived.Lib.SliceRun
set_option linter.unusedSimpArgs false
set_option linter.unusedVariables false
set_option maxRecDepth 100000
set_option maxHeartbeats 32000000
namespace Go.Proofs.YtmjpnbadfmgimaaGreatDoor.Pl
end Go.Proofs.YtmjpnbadfmgimaaGreatDoor.Pl
namespace Go.Proofs.YtmjpnbadfmgimaaGreatDoor.S8.Pl
end Go.Proofs.YtmjpnbadfmgimaaGreatDoor.S8.Pl
namespace Go.Proofs.YtmjpnbadfmgimaaGreatDoor.S8
open Go.RowKit _root_.Go.Proofs.YtmjpnbadfmgimaaGreatDoor.Pl _root_.Go.Proofs.YtmjpnbadfmgimaaGreatDoor.S8.Pl
namespace Pl
def FirstNo (T F:List Nat) (r:Int):Prop:=(r=-1∧∀ j,j<F.length→isc T (F.getD j 0)=true)∨∃ k:Nat,k<F.length∧r=(k:Int)∧isc T (F.getD k 0)=false∧∀ j,j<k→isc T (F.getD j 0)=true
theorem first_step {T F:List Nat} {i:Nat} (h:∀ j,j<i→isc T (F.getD j 0)=true) (hx:isc T (F.getD i 0)=true):∀ j,j<i+1→isc T (F.getD j 0)=true:=by
 intro j hj
 by_cases e:j=i
 ·subst e;exact hx
 ·exact h j (by omega)
theorem first_here {T F:List Nat} {i:Nat} (hi:i<F.length) (h:∀ j,j<i→isc T (F.getD j 0)=true) (hx:isc T (F.getD i 0)=false):FirstNo T F (i:Int):=.inr ⟨i,hi,rfl,hx,h⟩
theorem first_none {T F:List Nat} {m:Nat} (hm:F.length=m) (h:∀ j,j<m→isc T (F.getD j 0)=true):FirstNo T F (-1):=.inl ⟨rfl,by rw [hm];exact h⟩
theorem first_all {T F:List Nat} (h:FirstNo T F (-1)):F.filter (isc T)=F:=by
 rcases h with ⟨_,h⟩ | ⟨k,_,e,_⟩
 ·rw [List.filter_eq_self]
  intro x hx
  obtain ⟨j,hj,rfl⟩:=List.mem_iff_getElem.1 hx
  have:=h j hj
  rwa [getD_get F 0 hj] at this
 ·omega
theorem first_some {T F:List Nat} {r:Int} (h:FirstNo T F r) (hr:r≠-1):∃ k:Nat,r=(k:Int)∧k<F.length∧(isc T (F.getD k 0)=false∧(∀ j,j<k→isc T (F.getD j 0)=true)∧k<F.length):=by
 rcases h with ⟨e,_⟩ | ⟨k,h1,h2,h3,h4⟩
 ·exact absurd e hr
 ·exact ⟨k,h2,h1,h3,h4,h1⟩
theorem take_one {α:Type} (L:List α) (d:α) {i:Nat} (h:i<L.length):L.take (i+1)=L.take i++[L.getD i d]:=by
 rw [List.take_succ_eq_append_getElem h,getD_get L d h]
def DelInv (T F:List Nat) (L:List Int) (i j:Nat):Prop:=(L.take i=((F.take j).filter (isc T)).map (fun (x:Nat)=>(x:Int))∧i=((F.take j).filter (isc T)).length)∧∀ x,j≤x→x<F.length→L.getD x 0=(F.getD x 0:Nat)
theorem mapD (F:List Nat) (x:Nat):(F.map (fun (x:Nat)=>(x:Int))).getD x 0=(F.getD x 0:Nat):=by
 by_cases h:x<F.length
 ·simp [List.getD,h]
 ·simp [List.getD,Nat.le_of_not_lt h]
theorem del_start {T F:List Nat} {k:Nat} (h:isc T (F.getD k 0)=false∧(∀ j,j<k→isc T (F.getD j 0)=true)∧k<F.length):DelInv T F (F.map fun (x:Nat)=>(x:Int)) k (k+1):=by
 obtain ⟨h1,h2,h3⟩:=h
 have e:(F.take k).filter (isc T)=F.take k:=by
  rw [List.filter_eq_self]
  intro x hx
  obtain ⟨j,hj,rfl⟩:=List.mem_iff_getElem.1 hx
  rw [List.length_take] at hj
  have:=h2 j (by omega)
  rw [getD_get F 0 (by omega)] at this
  rw [List.getElem_take];exact this
 have e2:(F.take (k+1)).filter (isc T)=F.take k:=by
  rw [take_one F 0 h3,List.filter_append,e]
  rw [List.filter_cons,h1];simp
 refine ⟨⟨?_,?_⟩,fun x _ _=>mapD F x⟩
 ·rw [e2,List.map_take]
 ·rw [e2,List.length_take];omega
theorem del_skip {T F:List Nat} {L:List Int} {i j:Nat} (hj:j<F.length) (h:DelInv T F L i j) (hx:isc T (F.getD j 0)=false):DelInv T F L i (j+1):=by
 have e:(F.take (j+1)).filter (isc T)=(F.take j).filter (isc T):=by
  rw [take_one F 0 hj,List.filter_append,List.filter_cons,hx];simp
 refine ⟨by rw [e];exact h.1,fun x h1 h2=>h.2 x (by omega) h2⟩
theorem del_keep {T F:List Nat} {L:List Int} {i j:Nat} (hL:L.length=F.length) (hij:i<j) (hj:j<F.length) (h:DelInv T F L i j) (hx:isc T (F.getD j 0)=true):DelInv T F (L.set i (F.getD j 0:Nat)) (i+1) (j+1):=by
 have e:(F.take (j+1)).filter (isc T)=(F.take j).filter (isc T)++[F.getD j 0]:=by
  rw [take_one F 0 hj,List.filter_append,List.filter_cons,hx];simp
 refine ⟨⟨?_,?_⟩,fun x h1 h2=>?_⟩
 ·rw [e,List.map_append,← h.1.1,take_one _ 0 (by rw [List.length_set];omega),List.take_set_of_le (by omega)]
  congr 1
  rw [set_getD,if_pos ⟨rfl,by omega⟩]
  rfl
 ·rw [e,List.length_append,← h.1.2];rfl
 ·rw [set_getD,if_neg (by omega)]
  exact h.2 x (by omega) h2
theorem del_end {T F:List Nat} {L:List Int} {i m:Nat} (hm:F.length=m) (h:DelInv T F L i m):(F.filter (isc T)).length=i∧(F.filter (isc T)).map (fun (x:Nat)=>(x:Int))=L.take i:=by
 have e:F.take m=F:=List.take_of_length_le (by omega)
 have h1:=h.1
 rw [e] at h1
 exact ⟨h1.2.symm,h1.1.symm⟩
end Pl
theorem OwnI.take {w:World} {g n cap:Nat} {L:List Int} (h:OwnI w g n cap L) {i:Nat} (hi:i≤n):OwnI w g i cap (L.take i):=by
 have hl:=h.length
 unfold OwnI at h ⊢
 obtain ⟨h0,⟨he,hz⟩ | ⟨g',cap',cur,hv,hb,hh,hn,hm,hs,ht⟩⟩:=h
 ·simp at he
 ·simp at hv
  obtain ⟨rfl,rfl⟩:=hv
  refine ⟨by rw [i64s_length,List.length_take];omega,.inr ⟨g,cap,cur,rfl,hb,hh,by omega,hm,hs,?_⟩⟩
  have:i64s (L.take i)=(i64s L).take i:=by simp [i64s,List.map_take]
  rw [this,← ht,List.take_take]
  congr 1
  omega
theorem setCells_own:∀ (k o:Nat) {w:World} {g n cap:Nat} {L:List Int},OwnI w g n cap L→∃ L',OwnI (w.setCells g o (List.replicate k (.int .i64 0))) g n cap L'∧L'.take o=L.take o∧Gr w (w.setCells g o (List.replicate k (.int .i64 0))) g:=by
 intro k
 induction k with
 | zero=>intro o w g n cap L h;exact ⟨L,h,rfl,Gr.refl _ _⟩
 | succ k ih=>
   intro o w g n cap L h
   obtain ⟨L',h1,h2,h3⟩:=ih (o+1) (h.set o 0)
   refine ⟨L',h1,?_,Gr.trans ((Gr.refl w g).setCell o (.int .i64 0)) h3⟩
   have:=congrArg (List.take o) h2
   rw [List.take_take,List.take_take,Nat.min_eq_left (by omega)] at this
   rw [this,List.take_set_of_le (by omega)]
theorem zeroI (w:World):(zeroValue 3).run Tryz.prog w=.ok (.int .i64 0) w:=by
 obtain ⟨i0,hi,hz0,hz1,hz2⟩:=infoI_parts infoI
 simp [zeroValue,typeInfo,hi,hz0]
theorem clear_tail {w:World} {g n cap:Nat} {L:List Int} (h:OwnI w g n cap L) {i:Nat} (hi:i<n):
  ∃ W',(∀ ty,(Builtin.clear_ #[88] ty #[.slice (some ⟨g,i,none⟩) (n-i) (cap-i)]).run Tryz.prog w=.ok (.tuple #[]) W')∧OwnI W' g i cap (L.take i)∧Gr w W' g:=by
 obtain ⟨L',h1,h2,h3⟩:=setCells_own (n-i) i h
 refine ⟨_,fun ty=>Lib.run_clear_slice w 88 3 ty (.int .i64 0) Tryz.underlying88 zeroI rfl rfl g i (n-i) (cap-i) (by omega) (fun j hj=>by rw [h.cell (by omega)];rfl) (fun j _=>h.frozen _),?_,h3⟩
 have:=h1.take (i:=i) (by omega)
 rwa [h2] at this
attribute [local go_sem ↓] loadT_eq
theorem noCut_b (T:List Nat) (lv sv:Value) (rb tb x:Nat) (w:World) (ht:Blk w tb 144 [lv,.slice (some ⟨rb,0,none⟩) T.length T.length,sv]) (hr:Blk w rb 4 (bls (risL T))) (hx:x<T.length) (hn:T.length≤1000000):
  Calls Tryz.prog 97 #[.int .i64 x,.pointer (some ⟨tb,0,none⟩)] w fun e w'=>e=.returned (.bool (!isc T x))∧Below w.heap.size w w':=by
 have hl:=run_loadT ht
 have hc:=isCut_b T lv sv rb x w hr hx hn
 clear ht hr
 generalize T.length=N at*
 go_enter Tryz.func97,Tryz.ntmps97
 go_wp2_with fail
 refine hc.mono ?_
 rintro e w' ⟨rfl,hb⟩
 go_wp2
 go_ret
 exact ⟨rfl,hb⟩
def TxAt_b (w:World) (T:List Nat) (lv sv:Value) (rb tb:Nat):Prop:=Blk w tb 144 [lv,.slice (some ⟨rb,0,none⟩) T.length T.length,sv]∧Blk w rb 4 (bls (risL T))
theorem TxAt_b.gr {w W:World} {T:List Nat} {lv sv:Value} {rb tb g:Nat} (h:TxAt_b w T lv sv rb tb) (hg:Gr w W g) (h1:tb≠g) (h2:rb≠g):TxAt_b W T lv sv rb tb:=⟨blk_gr hg h1 h.1,blk_gr hg h2 h.2⟩
theorem TxAt_b.below {w W:World} {T:List Nat} {lv sv:Value} {rb tb:Nat} (h:TxAt_b w T lv sv rb tb) (hb:Below w.heap.size w W):TxAt_b W T lv sv rb tb:=
 ⟨h.1.below hb h.1.lt,h.2.below hb h.2.lt⟩
theorem index_b (T:List Nat) (lv sv:Value) (rb tb:Nat) (F:List Nat) (v:Value) (w:World) (hv:IsInts w v (nI F)) (ht:TxAt_b w T lv sv rb tb) (hF:∀ x∈F,x<T.length) (hn:T.length≤1000000) (hm:F.length≤1000000):
  Calls Tryz.prog 105 #[v,.func (.func 97) #[] #[.pointer (some ⟨tb,0,none⟩)]] w fun e w'=>(∃ r:Int,e=.returned (.int .i64 r)∧FirstNo T F r)∧Below w.heap.size w w':=by
 obtain ⟨a,cap,rfl,hcap,hmax⟩:=hv.slice
 have HV:=Lib.hid hv
 have HT:=Lib.hid ht
 have HF:=Lib.hid hF
 obtain ⟨m,hmm⟩:∃ m,(nI F).length=m:=⟨_,rfl⟩
 have hmF:F.length=m:=by rw [← hmm,nI_length]
 rw [hmm] at HV hcap ⊢
 have HM:=Lib.hid hmF
 clear hv ht hF
 rw [hmF] at hm
 clear hmF hmm
 go_enter Tryz.func105,Tryz.ntmps105
 go_wp2
 go_loopw [8] (fun y wr=>∃ (i:Nat),i≤m∧y=.int .i64 i∧(∀ j,j<i→isc T (F.getD j 0)=true)∧Below w.heap.size w wr) (fun y _=>m-(intOf y).toNat)
 case atStart=>exact ⟨0,by omega,rfl,fun j h=>by omega,Below.refl _ _⟩
 case round=>
  obtain ⟨i,hi,rfl,he,hb⟩:=hrel
  have HE:=Lib.hid he
  have HB:=Lib.hid hb
  clear he hb
  by_cases hlt:i<m
  ·obtain ⟨bb,off,cap',hs,_,_,hbl,hc⟩:=HV.out.cells (by rw [nI_length,HM.out];omega)
   rw [nI_length,HM.out] at hs
   simp at hs
   obtain ⟨rfl,rfl⟩:=hs
   have c0:=hc i (by rw [nI_length,HM.out];exact hlt)
   rw [nI_get,← HB.out.cell (p:=⟨bb,off+i,none⟩) hbl] at c0
   have hxT:=HF.out _ (getD_mem F 0 (by rw [HM.out];exact hlt))
   have hcl:=noCut_b T lv sv rb tb (F.getD i 0) wr (HT.out.below HB.out).1 (HT.out.below HB.out).2 hxT hn
   have HS:=Lib.hid (first_step (T:=T) (F:=F) (i:=i) HE.out)
   have HH:=Lib.hid (first_here (T:=T) (F:=F) (i:=i) (by rw [HM.out];exact hlt) HE.out)
   have hsz:=HB.out.size
   generalize F.getD i 0=x at*
   clear hc
   cases hx:isc T x with
   | true=>
     rw [hx] at hcl
     simp only [Bool.not_true] at hcl
     go_wp2_with fail
     refine hcl.mono ?_
     rintro e w' ⟨rfl,hb2⟩
     have HB3:=Lib.hid (Below.trans HB.out (Below.mono hb2 hsz))
     clear hb2
     go_wp2
     refine ⟨⟨i+1,by omega,by first | rfl | go_num,HS.out hx,HB3.out⟩,?_⟩
     simp only [intOf_i];omega
   | false=>
     rw [hx] at hcl
     simp only [Bool.not_false] at hcl
     go_wp2_with fail
     refine hcl.mono ?_
     rintro e w' ⟨rfl,hb2⟩
     have HB3:=Lib.hid (Below.trans HB.out (Below.mono hb2 hsz))
     clear hb2
     go_wp2
     go_ret
     exact ⟨⟨_,rfl,HH.out hx⟩,HB3.out⟩
  ·obtain rfl:i=m:=by omega
   go_wp2
   go_ret
   exact ⟨⟨_,rfl,first_none HM.out HE.out⟩,HB.out⟩
attribute [local go_sem ↓] sliceI_eq
theorem delete_b (T:List Nat) (lv sv:Value) (rb tb g cap:Nat) (F:List Nat) (w:World) (hg:OwnI w g F.length cap (nI F)) (ht:TxAt_b w T lv sv rb tb) (h1:tb≠g) (h2:rb≠g) (hF:∀ x∈F,x<T.length) (hn:T.length≤1000000) (hm:F.length≤1000000):
  Calls Tryz.prog 95 #[.slice (some ⟨g,0,none⟩) F.length cap,.func (.func 97) #[] #[.pointer (some ⟨tb,0,none⟩)]] w fun e w'=>e=.returned (.slice (some ⟨g,0,none⟩) (F.filter (isc T)).length cap)∧OwnI w' g (F.filter (isc T)).length cap (nI (F.filter (isc T)))∧Gr w w' g:=by
 have hix:=index_b T lv sv rb tb F _ w hg.ints ht hF hn hm
 have HT:=Lib.hid ht
 have HF:=Lib.hid hF
 have HG:=Lib.hid hg
 have hcaps:=hg.caps
 have hglt:=hg.lt
 obtain ⟨m,hmF⟩:∃ m,F.length=m:=⟨_,rfl⟩
 rw [hmF] at HG hix hm hcaps ⊢
 have HM:=Lib.hid hmF
 obtain ⟨hcap,hmax⟩:=hcaps
 clear hg ht hF hmF
 go_enter Tryz.func95,Tryz.ntmps95
 go_wp2_with fail
 refine hix.mono ?_
 rintro e w1 ⟨⟨r,rfl,hr⟩,hb1⟩
 clear hix
 have HR:=Lib.hid hr
 have HB1:=Lib.hid hb1
 clear hr hb1
 by_cases hneg:r=-1
 ·subst hneg
  have E:=Lib.hid (first_all HR.out)
  go_wp2
  go_ret
  rw [E.out,HM.out]
  exact ⟨rfl,HG.out.below HB1.out,Gr.ofBelow HB1.out⟩
 ·obtain ⟨i0,rfl,hi0,hi1⟩:=first_some HR.out hneg
  rw [HM.out] at hi0
  have hne:((i0:Int)==-1)=false:=beq_f (by omega)
  have HI0:=Lib.hid (del_start (T:=T) (F:=F) hi1)
  clear hi1 hneg HR
  go_wp2_with fail
  go_loopw [5,6,7] (fun y z u wr=>∃ (i j:Nat) (L:List Int),i<j∧j≤m∧y=.int .i64 i∧z=.int .i64 j∧OwnI wr g m cap L∧DelInv T F L i j∧Gr w wr g) (fun _ z _ _=>m-(intOf z).toNat)
  case atStart=>exact ⟨i0,i0+1,nI F,by omega,by omega,rfl,by first | rfl | go_num,HG.out.below HB1.out,HI0.out,Gr.ofBelow HB1.out⟩
  case round=>
   obtain ⟨i,j,L,hij,hj,rfl,rfl,ho,hd,hgr⟩:=hrel
   have HO:=Lib.hid ho
   have HD:=Lib.hid hd
   have HGR:=Lib.hid hgr
   clear ho hd hgr HB1 HI0
   by_cases hlt:j<m
   ·have c0:=HO.out.cell hlt
    rw [HD.out.2 j (Nat.le_refl _) (by rw [HM.out];exact hlt)] at c0
    have hxT:=HF.out _ (getD_mem F 0 (by rw [HM.out];exact hlt))
    have htx:=HT.out.gr HGR.out h1 h2
    have hcl:=noCut_b T lv sv rb tb (F.getD j 0) wr htx.1 htx.2 hxT hn
    have HK:=Lib.hid (del_keep (T:=T) (F:=F) (L:=L) (i:=i) (j:=j) (by rw [HO.out.length,HM.out]) hij (by rw [HM.out];exact hlt) HD.out)
    have HS:=Lib.hid (del_skip (T:=T) (F:=F) (L:=L) (i:=i) (j:=j) (by rw [HM.out];exact hlt) HD.out)
    have hgl:=HO.out.lt
    generalize F.getD j 0=x at*
    clear htx
    cases hx:isc T x with
    | true=>
      rw [hx] at hcl
      simp only [Bool.not_true] at hcl
      go_wp2_with fail
      refine hcl.mono ?_
      rintro e w2 ⟨rfl,hb2⟩
      have HO2:=Lib.hid (HO.out.below hb2)
      have HGR2:=Lib.hid (Gr.trans HGR.out (Gr.ofBelow hb2))
      have him:i<m:=by omega
      have f0:=HO2.out.frozen i
      have c1:=HO2.out.cell him
      generalize L.getD i 0=old at*
      clear hb2 hcl
      go_wp2
      refine ⟨⟨i+1,j+1,L.set i x,by omega,by omega,by first | rfl | go_num,by first | rfl | go_num,HO2.out.set i x,HK.out hx,HGR2.out.setCell _ _⟩,?_⟩
      simp only [intOf_i];omega
    | false=>
      rw [hx] at hcl
      simp only [Bool.not_false] at hcl
      go_wp2_with fail
      refine hcl.mono ?_
      rintro e w2 ⟨rfl,hb2⟩
      have HO2:=Lib.hid (HO.out.below hb2)
      have HGR2:=Lib.hid (Gr.trans HGR.out (Gr.ofBelow hb2))
      clear hb2 hcl
      go_wp2
      refine ⟨⟨i,j+1,L,by omega,by omega,rfl,by first | rfl | go_num,HO2.out,HS.out hx,HGR2.out⟩,?_⟩
      simp only [intOf_i];omega
   ·obtain rfl:j=m:=by omega
    have s1:=fun W=>run_fromB (g:=g) (n:=j) (cap:=cap) i (by omega) (by omega) hcap W
    have s2:=fun W=>run_uptoN (g:=g) (n:=j) (cap:=cap) i (by omega) hcap W
    obtain ⟨W',hcl,ho2,hgr2⟩:=clear_tail HO.out (i:=i) (by omega)
    have HE:=Lib.hid (del_end (T:=T) (F:=F) (L:=L) HM.out HD.out)
    have HO3:=Lib.hid ho2
    have HGR3:=Lib.hid (Gr.trans HGR.out hgr2)
    clear ho2 hgr2
    go_wp2_with fail
    go_ret
    have he2:nI (F.filter (isc T))=L.take i:=HE.out.2
    rw [HE.out.1,he2]
    exact ⟨rfl,HO3.out,HGR3.out⟩
end Go.Proofs.YtmjpnbadfmgimaaGreatDoor.S8
namespace Go.Proofs.YtmjpnbadfmgimaaGreatDoor.S8
open Go.RowKit _root_.Go.Proofs.YtmjpnbadfmgimaaGreatDoor.Pl _root_.Go.Proofs.YtmjpnbadfmgimaaGreatDoor.S8.Pl
attribute [local go_sem ↓] loadU_eq
theorem noCut_i (T:List Nat) (lv sv:Value) (rb tb x:Nat) (w:World) (ht:Blk w tb 171 [lv,.slice (some ⟨rb,0,none⟩) T.length T.length,sv]) (hr:Blk w rb 4 (bls (risL T))) (hx:x<T.length) (hn:T.length≤1000000):
  Calls Tryz.prog 119 #[.int .i64 x,.pointer (some ⟨tb,0,none⟩)] w fun e w'=>e=.returned (.bool (!isc T x))∧Below w.heap.size w w':=by
 have hl:=run_loadU ht
 have hc:=isCut_i T lv sv rb x w hr hx hn
 clear ht hr
 generalize T.length=N at*
 go_enter Tryz.func119,Tryz.ntmps119
 go_wp2_with fail
 refine hc.mono ?_
 rintro e w' ⟨rfl,hb⟩
 go_wp2
 go_ret
 exact ⟨rfl,hb⟩
def TxAt_i (w:World) (T:List Nat) (lv sv:Value) (rb tb:Nat):Prop:=Blk w tb 171 [lv,.slice (some ⟨rb,0,none⟩) T.length T.length,sv]∧Blk w rb 4 (bls (risL T))
theorem TxAt_i.gr {w W:World} {T:List Nat} {lv sv:Value} {rb tb g:Nat} (h:TxAt_i w T lv sv rb tb) (hg:Gr w W g) (h1:tb≠g) (h2:rb≠g):TxAt_i W T lv sv rb tb:=⟨blk_gr hg h1 h.1,blk_gr hg h2 h.2⟩
theorem TxAt_i.below {w W:World} {T:List Nat} {lv sv:Value} {rb tb:Nat} (h:TxAt_i w T lv sv rb tb) (hb:Below w.heap.size w W):TxAt_i W T lv sv rb tb:=
 ⟨h.1.below hb h.1.lt,h.2.below hb h.2.lt⟩
theorem index_i (T:List Nat) (lv sv:Value) (rb tb:Nat) (F:List Nat) (v:Value) (w:World) (hv:IsInts w v (nI F)) (ht:TxAt_i w T lv sv rb tb) (hF:∀ x∈F,x<T.length) (hn:T.length≤1000000) (hm:F.length≤1000000):
  Calls Tryz.prog 105 #[v,.func (.func 119) #[] #[.pointer (some ⟨tb,0,none⟩)]] w fun e w'=>(∃ r:Int,e=.returned (.int .i64 r)∧FirstNo T F r)∧Below w.heap.size w w':=by
 obtain ⟨a,cap,rfl,hcap,hmax⟩:=hv.slice
 have HV:=Lib.hid hv
 have HT:=Lib.hid ht
 have HF:=Lib.hid hF
 obtain ⟨m,hmm⟩:∃ m,(nI F).length=m:=⟨_,rfl⟩
 have hmF:F.length=m:=by rw [← hmm,nI_length]
 rw [hmm] at HV hcap ⊢
 have HM:=Lib.hid hmF
 clear hv ht hF
 rw [hmF] at hm
 clear hmF hmm
 go_enter Tryz.func105,Tryz.ntmps105
 go_wp2
 go_loopw [8] (fun y wr=>∃ (i:Nat),i≤m∧y=.int .i64 i∧(∀ j,j<i→isc T (F.getD j 0)=true)∧Below w.heap.size w wr) (fun y _=>m-(intOf y).toNat)
 case atStart=>exact ⟨0,by omega,rfl,fun j h=>by omega,Below.refl _ _⟩
 case round=>
  obtain ⟨i,hi,rfl,he,hb⟩:=hrel
  have HE:=Lib.hid he
  have HB:=Lib.hid hb
  clear he hb
  by_cases hlt:i<m
  ·obtain ⟨bb,off,cap',hs,_,_,hbl,hc⟩:=HV.out.cells (by rw [nI_length,HM.out];omega)
   rw [nI_length,HM.out] at hs
   simp at hs
   obtain ⟨rfl,rfl⟩:=hs
   have c0:=hc i (by rw [nI_length,HM.out];exact hlt)
   rw [nI_get,← HB.out.cell (p:=⟨bb,off+i,none⟩) hbl] at c0
   have hxT:=HF.out _ (getD_mem F 0 (by rw [HM.out];exact hlt))
   have hcl:=noCut_i T lv sv rb tb (F.getD i 0) wr (HT.out.below HB.out).1 (HT.out.below HB.out).2 hxT hn
   have HS:=Lib.hid (first_step (T:=T) (F:=F) (i:=i) HE.out)
   have HH:=Lib.hid (first_here (T:=T) (F:=F) (i:=i) (by rw [HM.out];exact hlt) HE.out)
   have hsz:=HB.out.size
   generalize F.getD i 0=x at*
   clear hc
   cases hx:isc T x with
   | true=>
     rw [hx] at hcl
     simp only [Bool.not_true] at hcl
     go_wp2_with fail
     refine hcl.mono ?_
     rintro e w' ⟨rfl,hb2⟩
     have HB3:=Lib.hid (Below.trans HB.out (Below.mono hb2 hsz))
     clear hb2
     go_wp2
     refine ⟨⟨i+1,by omega,by first | rfl | go_num,HS.out hx,HB3.out⟩,?_⟩
     simp only [intOf_i];omega
   | false=>
     rw [hx] at hcl
     simp only [Bool.not_false] at hcl
     go_wp2_with fail
     refine hcl.mono ?_
     rintro e w' ⟨rfl,hb2⟩
     have HB3:=Lib.hid (Below.trans HB.out (Below.mono hb2 hsz))
     clear hb2
     go_wp2
     go_ret
     exact ⟨⟨_,rfl,HH.out hx⟩,HB3.out⟩
  ·obtain rfl:i=m:=by omega
   go_wp2
   go_ret
   exact ⟨⟨_,rfl,first_none HM.out HE.out⟩,HB.out⟩
attribute [local go_sem ↓] sliceI_eq
theorem delete_i (T:List Nat) (lv sv:Value) (rb tb g cap:Nat) (F:List Nat) (w:World) (hg:OwnI w g F.length cap (nI F)) (ht:TxAt_i w T lv sv rb tb) (h1:tb≠g) (h2:rb≠g) (hF:∀ x∈F,x<T.length) (hn:T.length≤1000000) (hm:F.length≤1000000):
  Calls Tryz.prog 95 #[.slice (some ⟨g,0,none⟩) F.length cap,.func (.func 119) #[] #[.pointer (some ⟨tb,0,none⟩)]] w fun e w'=>e=.returned (.slice (some ⟨g,0,none⟩) (F.filter (isc T)).length cap)∧OwnI w' g (F.filter (isc T)).length cap (nI (F.filter (isc T)))∧Gr w w' g:=by
 have hix:=index_i T lv sv rb tb F _ w hg.ints ht hF hn hm
 have HT:=Lib.hid ht
 have HF:=Lib.hid hF
 have HG:=Lib.hid hg
 have hcaps:=hg.caps
 have hglt:=hg.lt
 obtain ⟨m,hmF⟩:∃ m,F.length=m:=⟨_,rfl⟩
 rw [hmF] at HG hix hm hcaps ⊢
 have HM:=Lib.hid hmF
 obtain ⟨hcap,hmax⟩:=hcaps
 clear hg ht hF hmF
 go_enter Tryz.func95,Tryz.ntmps95
 go_wp2_with fail
 refine hix.mono ?_
 rintro e w1 ⟨⟨r,rfl,hr⟩,hb1⟩
 clear hix
 have HR:=Lib.hid hr
 have HB1:=Lib.hid hb1
 clear hr hb1
 by_cases hneg:r=-1
 ·subst hneg
  have E:=Lib.hid (first_all HR.out)
  go_wp2
  go_ret
  rw [E.out,HM.out]
  exact ⟨rfl,HG.out.below HB1.out,Gr.ofBelow HB1.out⟩
 ·obtain ⟨i0,rfl,hi0,hi1⟩:=first_some HR.out hneg
  rw [HM.out] at hi0
  have hne:((i0:Int)==-1)=false:=beq_f (by omega)
  have HI0:=Lib.hid (del_start (T:=T) (F:=F) hi1)
  clear hi1 hneg HR
  go_wp2_with fail
  go_loopw [5,6,7] (fun y z u wr=>∃ (i j:Nat) (L:List Int),i<j∧j≤m∧y=.int .i64 i∧z=.int .i64 j∧OwnI wr g m cap L∧DelInv T F L i j∧Gr w wr g) (fun _ z _ _=>m-(intOf z).toNat)
  case atStart=>exact ⟨i0,i0+1,nI F,by omega,by omega,rfl,by first | rfl | go_num,HG.out.below HB1.out,HI0.out,Gr.ofBelow HB1.out⟩
  case round=>
   obtain ⟨i,j,L,hij,hj,rfl,rfl,ho,hd,hgr⟩:=hrel
   have HO:=Lib.hid ho
   have HD:=Lib.hid hd
   have HGR:=Lib.hid hgr
   clear ho hd hgr HB1 HI0
   by_cases hlt:j<m
   ·have c0:=HO.out.cell hlt
    rw [HD.out.2 j (Nat.le_refl _) (by rw [HM.out];exact hlt)] at c0
    have hxT:=HF.out _ (getD_mem F 0 (by rw [HM.out];exact hlt))
    have htx:=HT.out.gr HGR.out h1 h2
    have hcl:=noCut_i T lv sv rb tb (F.getD j 0) wr htx.1 htx.2 hxT hn
    have HK:=Lib.hid (del_keep (T:=T) (F:=F) (L:=L) (i:=i) (j:=j) (by rw [HO.out.length,HM.out]) hij (by rw [HM.out];exact hlt) HD.out)
    have HS:=Lib.hid (del_skip (T:=T) (F:=F) (L:=L) (i:=i) (j:=j) (by rw [HM.out];exact hlt) HD.out)
    have hgl:=HO.out.lt
    generalize F.getD j 0=x at*
    clear htx
    cases hx:isc T x with
    | true=>
      rw [hx] at hcl
      simp only [Bool.not_true] at hcl
      go_wp2_with fail
      refine hcl.mono ?_
      rintro e w2 ⟨rfl,hb2⟩
      have HO2:=Lib.hid (HO.out.below hb2)
      have HGR2:=Lib.hid (Gr.trans HGR.out (Gr.ofBelow hb2))
      have him:i<m:=by omega
      have f0:=HO2.out.frozen i
      have c1:=HO2.out.cell him
      generalize L.getD i 0=old at*
      clear hb2 hcl
      go_wp2
      refine ⟨⟨i+1,j+1,L.set i x,by omega,by omega,by first | rfl | go_num,by first | rfl | go_num,HO2.out.set i x,HK.out hx,HGR2.out.setCell _ _⟩,?_⟩
      simp only [intOf_i];omega
    | false=>
      rw [hx] at hcl
      simp only [Bool.not_false] at hcl
      go_wp2_with fail
      refine hcl.mono ?_
      rintro e w2 ⟨rfl,hb2⟩
      have HO2:=Lib.hid (HO.out.below hb2)
      have HGR2:=Lib.hid (Gr.trans HGR.out (Gr.ofBelow hb2))
      clear hb2 hcl
      go_wp2
      refine ⟨⟨i,j+1,L,by omega,by omega,rfl,by first | rfl | go_num,HO2.out,HS.out hx,HGR2.out⟩,?_⟩
      simp only [intOf_i];omega
   ·obtain rfl:j=m:=by omega
    have s1:=fun W=>run_fromB (g:=g) (n:=j) (cap:=cap) i (by omega) (by omega) hcap W
    have s2:=fun W=>run_uptoN (g:=g) (n:=j) (cap:=cap) i (by omega) hcap W
    obtain ⟨W',hcl,ho2,hgr2⟩:=clear_tail HO.out (i:=i) (by omega)
    have HE:=Lib.hid (del_end (T:=T) (F:=F) (L:=L) HM.out HD.out)
    have HO3:=Lib.hid ho2
    have HGR3:=Lib.hid (Gr.trans HGR.out hgr2)
    clear ho2 hgr2
    go_wp2_with fail
    go_ret
    have he2:nI (F.filter (isc T))=L.take i:=HE.out.2
    rw [HE.out.1,he2]
    exact ⟨rfl,HO3.out,HGR3.out⟩
end Go.Proofs.YtmjpnbadfmgimaaGreatDoor.S8
namespace Go.Proofs.YtmjpnbadfmgimaaGreatDoor.S8
open Go.RowKit _root_.Go.Proofs.YtmjpnbadfmgimaaGreatDoor.Pl _root_.Go.Proofs.YtmjpnbadfmgimaaGreatDoor.S8.Pl
def FallPost_b (T C:List Nat) (g cap:Nat) (w:World) (e:Ending) (w':World):Prop:=
 e=.returned (.tuple #[])∧Gr w w' g∧∃ O:List Int,OwnI w' g T.length cap O∧O.length=T.length∧∀ i,i<T.length→ris T i=false→O.getD (pos T C i) 0=(i:Int)
theorem falling_b (T C:List Nat) (K B rb sb g cap:Nat) (lv:Value) (O0 E0:List Int) (w:World) (hC:IsCuts T C) (ht:TxB w B T K lv rb sb) (hBg:B≤g) (ho:OwnI w g T.length cap O0) (hi0:IInv T C K 0 O0 E0):
  Calls Tryz.prog 114 #[txV lv rb T.length sb (K+1),.slice (some ⟨g,0,none⟩) T.length cap] w (FallPost_b T C g cap w):=by
 have hgl:=ho.lt
 have hrb:=ht.rb
 have hsb:=ht.sb
 have hlen:=ht.len
 have hlenK:=ht.lenK
 obtain ⟨la,lcap,rfl,hlc⟩:=ht.ltr.at
 have hcl:=cloneI_any (.slice (some ⟨sb,0,none⟩) (K+1) (K+1)) (stsL T K) (w.alloc (.cells #[.slice la T.length lcap,.slice (some ⟨rb,0,none⟩) T.length T.length,.slice (some ⟨sb,0,none⟩) (K+1) (K+1)] 144)) ((blk_ownI ht.sts (stsL_length T K) (by unfold maxLen;omega)).ints.below ((Below.refl _ _).alloc (Nat.le_refl _) _)) (by rw [stsL_length];omega)
 have hBX:=Blk.new w 144 [.slice la T.length lcap,.slice (some ⟨rb,0,none⟩) T.length T.length,.slice (some ⟨sb,0,none⟩) (K+1) (K+1)]
 have HBX:=Lib.hid hBX
 have HT:=Lib.hid ht
 have HO0:=Lib.hid ho
 have HLC:=Lib.hid hlc
 have HI0:=Lib.hid hi0
 have HC:=Lib.hid hC
 obtain ⟨N,hN⟩:∃ N,T.length=N:=⟨_,rfl⟩
 rw [hN] at hlen hcl HO0 HBX ⊢
 have HN:=Lib.hid hN
 unfold txV
 clear ht ho hlc hi0 hC hN hBX
 go_enter Tryz.func114,Tryz.ntmps114
 go_wp2_with fail
 go_step3
 go_wp2_with fail
 refine hcl.mono ?_
 rintro e w1 ⟨v',rfl,hown,hb1⟩
 clear hcl
 rw [stsL_length] at hown
 obtain ⟨h,cap2,rfl,hbase,hS⟩:=ownI_of hown (by omega)
 rw [World.size_alloc] at hbase
 have HS0:=Lib.hid hS
 have HB1:=Lib.hid hb1
 have hgh:g≠h:=by omega
 have hhg:h≠g:=by omega
 have hbh:w.heap.size≠h:=by omega
 have hbg:w.heap.size≠g:=by omega
 have HGR1:Hid (Gr w w1 g):=Lib.hid (Gr.trans ((Gr.refl w g).alloc _) (Gr.ofBelow HB1.out))
 have HBX1:=Lib.hid (HBX.out.below HB1.out (by simp))
 have HO1:=Lib.hid (HO0.out.gr (W:=w1) (r:=h) (by
  have h1:=HGR1.out
  have h2:Below w.heap.size w w1:=Below.trans ((Below.refl _ _).alloc (Nat.le_refl _) _) (Below.mono HB1.out (by simp))
  exact Gr.ofBelow h2) hgh)
 clear hown hS hb1 HO0 HBX HB1
 go_wp2_with fail
 go_step3
 go_wp2_with fail
 go_loopw [5,6] (fun x y wr=>∃ (k:Nat) (lt:Int) (O S:List Int),k≤N∧y=.int .i64 k∧x=.int .i64 lt∧FInv T C K k O S∧FAt T C k lt∧OwnI wr g N cap O∧OwnI wr h (K+1) cap2 S∧Gr w wr g∧Blk wr w.heap.size 144 [.slice la N lcap,.slice (some ⟨rb,0,none⟩) N N,.slice (some ⟨sb,0,none⟩) (K+1) (K+1)]) (fun _ y _=>N-(intOf y).toNat)
 case atStart=>exact ⟨0,N,O0,stsL T K,Nat.zero_le _,rfl,rfl,fall_start HI0.out (stsL_length T K) (fun l hl=>stsL_get T K l (by omega)),by rw [← HN.out];exact fAt_first rfl,HO1.out,HS0.out,HGR1.out,HBX1.out⟩
 case round=>
  obtain ⟨k,lt,O,S,hk,rfl,rfl,hinv,hat,ho,hs,hgr,hbx⟩:=hrel
  have hrng:=fAt_range hat
  rw [HN.out] at hrng
  obtain ⟨hr1,hr2⟩:=hrng
  have HIN:=Lib.hid hinv
  have HAT:=Lib.hid hat
  have HO:=Lib.hid ho
  have HS:=Lib.hid hs
  have HGR:=Lib.hid hgr
  have HBX:=Lib.hid hbx
  have HTX:=Lib.hid (HT.out.keep hgr hBg)
  clear hinv hat ho hs hgr hbx HO1 HS0 HGR1 HBX1
  obtain ⟨q,hq⟩:∃ q,lt-1=q:=⟨_,rfl⟩
  have hq1:-2≤q:=by omega
  have hq2:q<N:=by omega
  by_cases hput:0≤q∧ris T q.toNat=false
  ·obtain ⟨hq0,hris⟩:=hput
   obtain ⟨i,rfl⟩:=Int.eq_ofNat_of_zero_le hq0
   rw [Int.toNat_natCast] at hris
   have hiN:i<N:=by omega
   have hlt:lt=((i+1:Nat):Int):=by omega
   have hiT:i<T.length:=by rw [HN.out];exact hiN
   have hat2:=HAT.out
   rw [hlt] at hat2
   have hyK:=getD_kind HT.out.kind hiT
   obtain ⟨_,p1,p2,p3⟩:=fall_put HC.out HIN.out hat2 hris hyK
   obtain ⟨lb,lo,rfl,_,hlx⟩:=HLC.out (by omega)
   obtain ⟨hlbB,cl⟩:=HTX.out.ltr.cell hiT
   have cr:=HTX.out.rise.cell (bls_get (risL T) i (by rw [risL_length];exact hiT))
   rw [risL_get T i hiT,hris] at cr
   have cs:=HS.out.cell (i:=T.getD i 0) (by omega)
   rw [p1] at cs
   rw [HN.out] at p2
   have fs:=HS.out.frozen (T.getD i 0)
   have cg:=HO.out.cell p2
   have fg:=HO.out.frozen (pos T C i)
   have b0:=HBX.out.cell (o:=0) rfl
   have b1:=HBX.out.cell (o:=1) rfl
   have HO2:=Lib.hid (HO.out.set (pos T C i) i)
   have HP3:=Lib.hid p3
   generalize O.getD (pos T C i) 0=old at*
   generalize pos T C i=P at*
   generalize T.getD i 0=y at*
   have HS2:=Lib.hid ((HS.out.setOther (p:=⟨g,P,none⟩) hhg (.int .i64 i)).set y ((P:Int)+1))
   have HO3:=Lib.hid (HO2.out.setOther (p:=⟨h,y,none⟩) hgh (.int .i64 ((P:Int)+1)))
   have HGR3:Hid (Gr w ((wr.setCell ⟨g,P,none⟩ (.int .i64 i)).setCell ⟨h,y,none⟩ (.int .i64 ((P:Int)+1))) g):=Lib.hid (by
    have h1:=HGR.out.setCell P (.int .i64 i)
    refine ⟨h1.os,h1.tape,h1.output,by simpa using h1.size,fun x hx hn=>?_⟩
    rw [Below.heap_setCell _ ⟨h,y,none⟩ _ x (by simp;omega)]
    exact h1.block x hx hn)
   have HBX3:=Lib.hid ((HBX.out.setOther (p:=⟨g,P,none⟩) hbg (.int .i64 i)).setOther (p:=⟨h,y,none⟩) hbh (.int .i64 ((P:Int)+1)))
   clear p1 p3 hat2 hlx hris HAT HIN HLC hlt
   by_cases hkN:k=N
   ·subst hkN
    go_wp2_with fail
    try simp only [Exit.noGoto_normal]
    go_end0
    have hP3:=HP3.out
    rw [← HN.out] at hP3
    exact ⟨rfl,HGR3.out,_,by rw [HN.out];exact HO3.out,hP3.lenO,fall_end hP3⟩
   ·have hkn:k<N:=by omega
    have hkI:(k:Int)≠(N:Int):=by omega
    have hkE:((k:Int)==(N:Int))=false:=beq_f hkI
    have ck:=HO3.out.cell hkn
    have hnx:=fAt_next HC.out HP3.out (by rw [HN.out];exact hkn)
    generalize (O.set P (i:Int)).getD k 0=nx at*
    have HNX:=Lib.hid hnx
    clear hnx
    go_wp2_with fail
    refine ⟨⟨k+1,nx,_,_,by omega,by first | rfl | go_num,rfl,HP3.out,HNX.out,HO3.out,HS2.out,HGR3.out,HBX3.out⟩,?_⟩
    simp only [intOf_i];omega
  ·have hinv2:=fall_skip HC.out HIN.out HAT.out (fun i hi=>by
    cases hr:ris T i with
    | true=>rfl
    | false=>
      refine absurd ⟨by omega,?_⟩ hput
      rw [show q.toNat=i by omega]
      exact hr)
   have HP3:=Lib.hid hinv2
   have hkc:k=N∨k<N:=by omega
   have hnx:k<N→FAt T C (k+1) (O.getD k 0):=fun h=>fAt_next HC.out hinv2 (by rw [HN.out];exact h)
   have HNX:=Lib.hid hnx
   have hcg:k<N→wr.cell? ⟨g,k,none⟩=some (.int .i64 (O.getD k 0)):=fun h=>HO.out.cell h
   generalize O.getD k 0=nx at*
   have HCG:=Lib.hid hcg
   have b0:=HBX.out.cell (o:=0) rfl
   have b1:=HBX.out.cell (o:=1) rfl
   have hq12:q<0∨0≤q:=by omega
   rcases hq12 with hqn | hqp
   ·clear hinv2 hnx hcg hput HAT HIN
    rcases hkc with rfl | hkn
    ·go_wp2_with fail
     try simp only [Exit.noGoto_normal]
     go_end0
     have hP3:=HP3.out
     rw [← HN.out] at hP3
     exact ⟨rfl,HGR.out,_,by rw [HN.out];exact HO.out,hP3.lenO,fall_end hP3⟩
    ·have hkE:((k:Int)==(N:Int))=false:=beq_f (by omega)
     have ck:=HCG.out hkn
     go_wp2_with fail
     refine ⟨⟨k+1,nx,_,_,by omega,by first | rfl | go_num,rfl,HP3.out,HNX.out hkn,HO.out,HS.out,HGR.out,HBX.out⟩,?_⟩
     simp only [intOf_i];omega
   ·obtain ⟨i,rfl⟩:=Int.eq_ofNat_of_zero_le hqp
    have hiN:i<N:=by omega
    have hiT:i<T.length:=by rw [HN.out];exact hiN
    have hris:ris T i=true:=by
     cases hr:ris T i with
     | true=>rfl
     | false=>exact absurd ⟨by omega,by rw [Int.toNat_natCast];exact hr⟩ hput
    have cr:=HTX.out.rise.cell (bls_get (risL T) i (by rw [risL_length];exact hiT))
    rw [risL_get T i hiT,hris] at cr
    clear hinv2 hnx hcg hput HAT HIN hris
    rcases hkc with rfl | hkn
    ·go_wp2_with fail
     try simp only [Exit.noGoto_normal]
     go_end0
     have hP3:=HP3.out
     rw [← HN.out] at hP3
     exact ⟨rfl,HGR.out,_,by rw [HN.out];exact HO.out,hP3.lenO,fall_end hP3⟩
    ·have hkE:((k:Int)==(N:Int))=false:=beq_f (by omega)
     have ck:=HCG.out hkn
     go_wp2_with fail
     refine ⟨⟨k+1,nx,_,_,by omega,by first | rfl | go_num,rfl,HP3.out,HNX.out hkn,HO.out,HS.out,HGR.out,HBX.out⟩,?_⟩
     simp only [intOf_i];omega
def FallPost_i (T C:List Nat) (g cap:Nat) (w:World) (e:Ending) (w':World):Prop:=
 e=.returned (.tuple #[])∧Gr w w' g∧∃ O:List Int,OwnI w' g T.length cap O∧O.length=T.length∧∀ i,i<T.length→ris T i=false→O.getD (pos T C i) 0=(i:Int)
theorem falling_i (T C:List Nat) (K B rb sb g cap:Nat) (lv:Value) (O0 E0:List Int) (w:World) (hC:IsCuts T C) (ht:TxI w B T K lv rb sb) (hBg:B≤g) (ho:OwnI w g T.length cap O0) (hi0:IInv T C K 0 O0 E0):
  Calls Tryz.prog 141 #[txV lv rb T.length sb (K+1),.slice (some ⟨g,0,none⟩) T.length cap] w (FallPost_i T C g cap w):=by
 have hgl:=ho.lt
 have hrb:=ht.rb
 have hsb:=ht.sb
 have hlen:=ht.len
 have hlenK:=ht.lenK
 obtain ⟨la,lcap,rfl,hlc⟩:=ht.ltr.at
 have hcl:=cloneI_any (.slice (some ⟨sb,0,none⟩) (K+1) (K+1)) (stsL T K) (w.alloc (.cells #[.slice la T.length lcap,.slice (some ⟨rb,0,none⟩) T.length T.length,.slice (some ⟨sb,0,none⟩) (K+1) (K+1)] 171)) ((blk_ownI ht.sts (stsL_length T K) (by unfold maxLen;omega)).ints.below ((Below.refl _ _).alloc (Nat.le_refl _) _)) (by rw [stsL_length];omega)
 have hBX:=Blk.new w 171 [.slice la T.length lcap,.slice (some ⟨rb,0,none⟩) T.length T.length,.slice (some ⟨sb,0,none⟩) (K+1) (K+1)]
 have HBX:=Lib.hid hBX
 have HT:=Lib.hid ht
 have HO0:=Lib.hid ho
 have HLC:=Lib.hid hlc
 have HI0:=Lib.hid hi0
 have HC:=Lib.hid hC
 obtain ⟨N,hN⟩:∃ N,T.length=N:=⟨_,rfl⟩
 rw [hN] at hlen hcl HO0 HBX ⊢
 have HN:=Lib.hid hN
 unfold txV
 clear ht ho hlc hi0 hC hN hBX
 go_enter Tryz.func141,Tryz.ntmps141
 go_wp2_with fail
 go_step3
 go_wp2_with fail
 refine hcl.mono ?_
 rintro e w1 ⟨v',rfl,hown,hb1⟩
 clear hcl
 rw [stsL_length] at hown
 obtain ⟨h,cap2,rfl,hbase,hS⟩:=ownI_of hown (by omega)
 rw [World.size_alloc] at hbase
 have HS0:=Lib.hid hS
 have HB1:=Lib.hid hb1
 have hgh:g≠h:=by omega
 have hhg:h≠g:=by omega
 have hbh:w.heap.size≠h:=by omega
 have hbg:w.heap.size≠g:=by omega
 have HGR1:Hid (Gr w w1 g):=Lib.hid (Gr.trans ((Gr.refl w g).alloc _) (Gr.ofBelow HB1.out))
 have HBX1:=Lib.hid (HBX.out.below HB1.out (by simp))
 have HO1:=Lib.hid (HO0.out.gr (W:=w1) (r:=h) (by
  have h1:=HGR1.out
  have h2:Below w.heap.size w w1:=Below.trans ((Below.refl _ _).alloc (Nat.le_refl _) _) (Below.mono HB1.out (by simp))
  exact Gr.ofBelow h2) hgh)
 clear hown hS hb1 HO0 HBX HB1
 go_wp2_with fail
 go_step3
 go_wp2_with fail
 go_loopw [5,6] (fun x y wr=>∃ (k:Nat) (lt:Int) (O S:List Int),k≤N∧y=.int .i64 k∧x=.int .i64 lt∧FInv T C K k O S∧FAt T C k lt∧OwnI wr g N cap O∧OwnI wr h (K+1) cap2 S∧Gr w wr g∧Blk wr w.heap.size 171 [.slice la N lcap,.slice (some ⟨rb,0,none⟩) N N,.slice (some ⟨sb,0,none⟩) (K+1) (K+1)]) (fun _ y _=>N-(intOf y).toNat)
 case atStart=>exact ⟨0,N,O0,stsL T K,Nat.zero_le _,rfl,rfl,fall_start HI0.out (stsL_length T K) (fun l hl=>stsL_get T K l (by omega)),by rw [← HN.out];exact fAt_first rfl,HO1.out,HS0.out,HGR1.out,HBX1.out⟩
 case round=>
  obtain ⟨k,lt,O,S,hk,rfl,rfl,hinv,hat,ho,hs,hgr,hbx⟩:=hrel
  have hrng:=fAt_range hat
  rw [HN.out] at hrng
  obtain ⟨hr1,hr2⟩:=hrng
  have HIN:=Lib.hid hinv
  have HAT:=Lib.hid hat
  have HO:=Lib.hid ho
  have HS:=Lib.hid hs
  have HGR:=Lib.hid hgr
  have HBX:=Lib.hid hbx
  have HTX:=Lib.hid (HT.out.keep hgr hBg)
  clear hinv hat ho hs hgr hbx HO1 HS0 HGR1 HBX1
  obtain ⟨q,hq⟩:∃ q,lt-1=q:=⟨_,rfl⟩
  have hq1:-2≤q:=by omega
  have hq2:q<N:=by omega
  by_cases hput:0≤q∧ris T q.toNat=false
  ·obtain ⟨hq0,hris⟩:=hput
   obtain ⟨i,rfl⟩:=Int.eq_ofNat_of_zero_le hq0
   rw [Int.toNat_natCast] at hris
   have hiN:i<N:=by omega
   have hlt:lt=((i+1:Nat):Int):=by omega
   have hiT:i<T.length:=by rw [HN.out];exact hiN
   have hat2:=HAT.out
   rw [hlt] at hat2
   have hyK:=getD_kind HT.out.kind hiT
   obtain ⟨_,p1,p2,p3⟩:=fall_put HC.out HIN.out hat2 hris hyK
   obtain ⟨lb,lo,rfl,_,hlx⟩:=HLC.out (by omega)
   obtain ⟨hlbB,cl⟩:=HTX.out.ltr.cell hiT
   have cr:=HTX.out.rise.cell (bls_get (risL T) i (by rw [risL_length];exact hiT))
   rw [risL_get T i hiT,hris] at cr
   have cs:=HS.out.cell (i:=T.getD i 0) (by omega)
   rw [p1] at cs
   rw [HN.out] at p2
   have fs:=HS.out.frozen (T.getD i 0)
   have cg:=HO.out.cell p2
   have fg:=HO.out.frozen (pos T C i)
   have b0:=HBX.out.cell (o:=0) rfl
   have b1:=HBX.out.cell (o:=1) rfl
   have HO2:=Lib.hid (HO.out.set (pos T C i) i)
   have HP3:=Lib.hid p3
   generalize O.getD (pos T C i) 0=old at*
   generalize pos T C i=P at*
   generalize T.getD i 0=y at*
   have HS2:=Lib.hid ((HS.out.setOther (p:=⟨g,P,none⟩) hhg (.int .i64 i)).set y ((P:Int)+1))
   have HO3:=Lib.hid (HO2.out.setOther (p:=⟨h,y,none⟩) hgh (.int .i64 ((P:Int)+1)))
   have HGR3:Hid (Gr w ((wr.setCell ⟨g,P,none⟩ (.int .i64 i)).setCell ⟨h,y,none⟩ (.int .i64 ((P:Int)+1))) g):=Lib.hid (by
    have h1:=HGR.out.setCell P (.int .i64 i)
    refine ⟨h1.os,h1.tape,h1.output,by simpa using h1.size,fun x hx hn=>?_⟩
    rw [Below.heap_setCell _ ⟨h,y,none⟩ _ x (by simp;omega)]
    exact h1.block x hx hn)
   have HBX3:=Lib.hid ((HBX.out.setOther (p:=⟨g,P,none⟩) hbg (.int .i64 i)).setOther (p:=⟨h,y,none⟩) hbh (.int .i64 ((P:Int)+1)))
   clear p1 p3 hat2 hlx hris HAT HIN HLC hlt
   by_cases hkN:k=N
   ·subst hkN
    go_wp2_with fail
    try simp only [Exit.noGoto_normal]
    go_end0
    have hP3:=HP3.out
    rw [← HN.out] at hP3
    exact ⟨rfl,HGR3.out,_,by rw [HN.out];exact HO3.out,hP3.lenO,fall_end hP3⟩
   ·have hkn:k<N:=by omega
    have hkI:(k:Int)≠(N:Int):=by omega
    have hkE:((k:Int)==(N:Int))=false:=beq_f hkI
    have ck:=HO3.out.cell hkn
    have hnx:=fAt_next HC.out HP3.out (by rw [HN.out];exact hkn)
    generalize (O.set P (i:Int)).getD k 0=nx at*
    have HNX:=Lib.hid hnx
    clear hnx
    go_wp2_with fail
    refine ⟨⟨k+1,nx,_,_,by omega,by first | rfl | go_num,rfl,HP3.out,HNX.out,HO3.out,HS2.out,HGR3.out,HBX3.out⟩,?_⟩
    simp only [intOf_i];omega
  ·have hinv2:=fall_skip HC.out HIN.out HAT.out (fun i hi=>by
    cases hr:ris T i with
    | true=>rfl
    | false=>
      refine absurd ⟨by omega,?_⟩ hput
      rw [show q.toNat=i by omega]
      exact hr)
   have HP3:=Lib.hid hinv2
   have hkc:k=N∨k<N:=by omega
   have hnx:k<N→FAt T C (k+1) (O.getD k 0):=fun h=>fAt_next HC.out hinv2 (by rw [HN.out];exact h)
   have HNX:=Lib.hid hnx
   have hcg:k<N→wr.cell? ⟨g,k,none⟩=some (.int .i64 (O.getD k 0)):=fun h=>HO.out.cell h
   generalize O.getD k 0=nx at*
   have HCG:=Lib.hid hcg
   have b0:=HBX.out.cell (o:=0) rfl
   have b1:=HBX.out.cell (o:=1) rfl
   have hq12:q<0∨0≤q:=by omega
   rcases hq12 with hqn | hqp
   ·clear hinv2 hnx hcg hput HAT HIN
    rcases hkc with rfl | hkn
    ·go_wp2_with fail
     try simp only [Exit.noGoto_normal]
     go_end0
     have hP3:=HP3.out
     rw [← HN.out] at hP3
     exact ⟨rfl,HGR.out,_,by rw [HN.out];exact HO.out,hP3.lenO,fall_end hP3⟩
    ·have hkE:((k:Int)==(N:Int))=false:=beq_f (by omega)
     have ck:=HCG.out hkn
     go_wp2_with fail
     refine ⟨⟨k+1,nx,_,_,by omega,by first | rfl | go_num,rfl,HP3.out,HNX.out hkn,HO.out,HS.out,HGR.out,HBX.out⟩,?_⟩
     simp only [intOf_i];omega
   ·obtain ⟨i,rfl⟩:=Int.eq_ofNat_of_zero_le hqp
    have hiN:i<N:=by omega
    have hiT:i<T.length:=by rw [HN.out];exact hiN
    have hris:ris T i=true:=by
     cases hr:ris T i with
     | true=>rfl
     | false=>exact absurd ⟨by omega,by rw [Int.toNat_natCast];exact hr⟩ hput
    have cr:=HTX.out.rise.cell (bls_get (risL T) i (by rw [risL_length];exact hiT))
    rw [risL_get T i hiT,hris] at cr
    clear hinv2 hnx hcg hput HAT HIN hris
    rcases hkc with rfl | hkn
    ·go_wp2_with fail
     try simp only [Exit.noGoto_normal]
     go_end0
     have hP3:=HP3.out
     rw [← HN.out] at hP3
     exact ⟨rfl,HGR.out,_,by rw [HN.out];exact HO.out,hP3.lenO,fall_end hP3⟩
    ·have hkE:((k:Int)==(N:Int))=false:=beq_f (by omega)
     have ck:=HCG.out hkn
     go_wp2_with fail
     refine ⟨⟨k+1,nx,_,_,by omega,by first | rfl | go_num,rfl,HP3.out,HNX.out hkn,HO.out,HS.out,HGR.out,HBX.out⟩,?_⟩
     simp only [intOf_i];omega
theorem OwnI.belowB {w W:World} {g n cap Q:Nat} {L:List Int} (h:OwnI w g n cap L) (hb:Below Q w W) (hg:g<Q):OwnI W g n cap L:=by
 unfold OwnI at h ⊢
 obtain ⟨h0,⟨he,hz⟩ | ⟨g',cap',cur,hv,hbs,hh,hrest⟩⟩:=h
 ·simp at he
 ·simp at hv
  obtain ⟨rfl,rfl⟩:=hv
  exact ⟨h0,.inr ⟨g,cap,cur,rfl,hbs,by rw [hb.block g hg];exact hh,hrest⟩⟩
theorem isBytes_belowB {w W:World} {Q:Nat} {v:Value} {B:List Nat} (h:IsBytes w v B) (hb:Below Q w W) (hq:∀ a n c,v=.slice (some a) n c→0<B.length→a.block<Q):IsBytes W v B:=by
 obtain ⟨hx,h | ⟨a,cap,rfl,h1,h2,hc⟩⟩:=h
 ·exact ⟨hx,.inl h⟩
 ·refine ⟨hx,.inr ⟨a,cap,rfl,h1,h2,fun i u hu=>?_⟩⟩
  have hl:i<B.length:=by have:=(List.getElem?_eq_some_iff.1 hu).1;rwa [u8s_length] at this
  have hblk:(a.add i).block=a.block:=by unfold Addr.add;split <;> rfl
  rw [hb.cell (p:=a.add i) (by rw [hblk];exact hq a _ _ rfl (by omega))]
  exact hc i u hu
theorem isInts_belowB {w W:World} {Q:Nat} {v:Value} {L:List Int} (h:IsInts w v L) (hb:Below Q w W) (hq:∀ a n c,v=.slice (some a) n c→0<L.length→a.block<Q):IsInts W v L:=by
 obtain h | ⟨a,cap,rfl,h1,h2,hc⟩:=h
 ·exact .inl h
 ·refine .inr ⟨a,cap,rfl,h1,h2,fun i u hu=>?_⟩
  have hl:i<L.length:=by have:=(List.getElem?_eq_some_iff.1 hu).1;rwa [i64s_length] at this
  have hblk:(a.add i).block=a.block:=by unfold Addr.add;split <;> rfl
  rw [hb.cell (p:=a.add i) (by rw [hblk];exact hq a _ _ rfl (by omega))]
  exact hc i u hu
theorem LetB.belowB {w W:World} {B Q:Nat} {lv:Value} {T:List Nat} (h:LetB w B lv T) (hb:Below Q w W) (hB:B≤Q):LetB W B lv T:=
 ⟨isBytes_belowB h.1 hb fun a n c e h0=>Nat.lt_of_lt_of_le (h.2 a n c e h0) hB,h.2⟩
theorem LetI.belowB {w W:World} {B Q:Nat} {lv:Value} {T:List Nat} (h:LetI w B lv T) (hb:Below Q w W) (hB:B≤Q):LetI W B lv T:=
 ⟨isInts_belowB h.1 hb fun a n c e h0=>Nat.lt_of_lt_of_le (h.2 a n c e (by rw [nI_length] at h0;exact h0)) hB,h.2⟩
theorem TxB.belowB {w W:World} {B Q K rb sb:Nat} {lv:Value} {T:List Nat} (h:TxB w B T K lv rb sb) (hb:Below Q w W) (hB:B≤Q):TxB W B T K lv rb sb:=by
 have h1:=h.rb
 have h2:=h.sb
 exact ⟨h.ltr.belowB hb hB,h.rise.below hb (by omega),h.sts.below hb (by omega),h1,h2,Nat.le_trans h.top hb.size,h.kind,h.len,h.lenK⟩
theorem TxI.belowB {w W:World} {B Q K rb sb:Nat} {lv:Value} {T:List Nat} (h:TxI w B T K lv rb sb) (hb:Below Q w W) (hB:B≤Q):TxI W B T K lv rb sb:=by
 have h1:=h.rb
 have h2:=h.sb
 exact ⟨h.ltr.belowB hb hB,h.rise.below hb (by omega),h.sts.below hb (by omega),h1,h2,Nat.le_trans h.top hb.size,h.kind,h.len,h.lenK⟩
theorem gr_belowB {w W W':World} {g Q:Nat} (h:Gr w W g) (hb:Below Q W W') (hQ:w.heap.size≤Q):Gr w W' g:=
 ⟨hb.os.trans h.os,hb.tape.trans h.tape,hb.output.trans h.output,Nat.le_trans h.size hb.size,fun i hi hn=>(hb.block i (by omega)).trans (h.block i hi hn)⟩
theorem below_of_grown {W W':World} {row:Option Nat} {Q:Nat} (hg:W.grownBy W' row) (hr:∀ r,row=some r→Q≤r) (hs:Q≤W.heap.size):Below Q W W':=(Below.refl _ _).grown hg hs hr
namespace Pl
def inv (T C:List Nat) (p:Nat):Nat:=((List.range T.length).find? fun j=>pos T C j==p).getD 0
theorem inv_spec {T C:List Nat} (hC:IsCuts T C) {p:Nat} (hp:p<T.length):inv T C p<T.length∧pos T C (inv T C p)=p:=by
 obtain ⟨j,hj,hjp⟩:=pos_onto hC hp
 unfold inv
 cases hf:(List.range T.length).find? fun j=>pos T C j==p with
 | none=>
   have:=List.find?_eq_none.1 hf j (List.mem_range.2 hj)
   simp [hjp] at this
 | some y=>
   have h1:=List.mem_range.1 (List.mem_of_find?_eq_some hf)
   have h2:=List.find?_some hf
   exact ⟨h1,by simpa using h2⟩
theorem inv_at {T C:List Nat} (hC:IsCuts T C) {K k:Nat} {O E:List Int} (h:RInv T C K (k+1) O E) (hk:k<T.length):O.getD k 0=(inv T C k:Int):=by
 obtain ⟨j,hj,hp,he⟩:=rise_at hC h hk
 obtain ⟨h1,h2⟩:=inv_spec hC hk
 rw [he,pos_inj hC hj h1 (by rw [hp,h2])]
end Pl
end Go.Proofs.YtmjpnbadfmgimaaGreatDoor.S8

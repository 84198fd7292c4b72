/- Texts put together: ConD, ConE. -/
import Derived.Test.YtmjpnbadfmgimaaGreatDoorFg12
import Derived.Test.YtmjpnbadfmgimaaGreatDoorFg34
import Derived.Test.YtmjpnbadfmgimaaGreatDoorFg35
import Derived.Test.YtmjpnbadfmgimaaGreatDoorFg36
set_option linter.unusedSimpArgs false
set_option linter.unusedVariables false
set_option maxRecDepth 100000
set_option maxHeartbeats 32000000
namespace Go.Proofs.YtmjpnbadfmgimaaGreatDoor.S11
open Go.RowKit Go.Shelf Pl S3 S3.Pl
theorem blk_own_ne {w:World} {base b n:Nat} {e t:TypeId} {v:Value} {xs cs:List Value} (h:w.ownsRow base e 1 v n xs) (hb:Blk w b t cs) (ht:t≠e):some b≠v.ownBlock:=by
 intro he
 rcases h.2 with ⟨rfl,_⟩ | ⟨g,cap,cur,rfl,_,hh,_⟩
 ·cases he
 ·simp [Value.ownBlock] at he
  subst he
  unfold Blk at hb
  rw [hh] at hb
  simp at hb
  exact ht hb.2.symm
theorem own_keep {W W':World} {base n:Nat} {e:TypeId} {v:Value} {xs:List Value} {row:Option Nat} (h:W.ownsRow base e 1 v n xs) (hg:W.grownBy W' row) (hr:∀ r,row=some r→∃ o:Obj,W.heap[r]? = some o∧o.isCells=false):W'.ownsRow base e 1 v n xs:=by
 refine h.kept hg ?_
 rcases h.2 with ⟨rfl,_⟩ | ⟨g,cap,cur,rfl,_,hh,_⟩
 ·exact .inl rfl
 ·refine .inr fun e'=>?_
  obtain ⟨o,ho,hc⟩:=hr g e'.symm
  rw [hh] at ho
  cases ho
  cases hc
theorem keeps_gr {D:Nat} {W W':World} {row:Option Nat} (hg:W.grownBy W' row) (hr:∀ r,row=some r→∃ o:Obj,W.heap[r]? = some o∧o.isCells=true):KeepsFrom D W W':=by
 refine ⟨hg.size,fun k o hk ho hc=>?_⟩
 have hl:=(Array.getElem?_eq_some_iff.1 ho).1
 rw [hg.block k hl (fun e=>?_)]
 ·exact ho
 ·obtain ⟨o2,h2,h3⟩:=hr k e.symm
  rw [ho] at h2
  cases h2
  rw [hc] at h3
  cases h3
theorem keeps_below {D:Nat} {W W':World} (hb:Below W.heap.size W W'):KeepsFrom D W W':=
 keeps_gr (row:=none) ⟨hb.os,hb.tape,hb.output,hb.size,fun k hk _=>hb.block k hk⟩ (by simp)
theorem own_cells {W:World} {base n:Nat} {e:TypeId} {v:Value} {xs:List Value} (h:W.ownsRow base e 1 v n xs):∀ r,v.ownBlock=some r→∃ o:Obj,W.heap[r]? = some o∧o.isCells=true:=by
 intro r hr
 rcases h.2 with ⟨rfl,_⟩ | ⟨g,cap,cur,rfl,_,hh,_⟩
 ·cases hr
 ·simp [Value.ownBlock] at hr
  subst hr
  exact ⟨_,hh,rfl⟩
structure PkS (b0 gh gb Bs:Nat) (sv:Value) (w:World) (hv bv:Value) (A M:List Nat) (W:World):Prop where
 ch:Blk W gh 27 [hv]
 oh:W.ownsRow b0 5 1 hv A.length (u8s A)
 cb:Blk W gb 27 [bv]
 ob:W.ownsRow b0 5 1 bv M.length (u8s M)
 ne:∀ g,hv.ownBlock=some g→bv.ownBlock≠some g
 sl:Blk W Bs 27 [sv]
 nn:Blk W (Bs+1) 3 [.int .i64 1000]
 bel:Below b0 w W
 d1:gh≠gb
 d2:Bs≠gh
 d3:Bs≠gb
 l1:b0≤gh
 l2:b0≤gb
section
variable {b0 gh gb Bs:Nat} {sv:Value} {w:World} {hv bv:Value} {A M:List Nat} {W W':World}
theorem PkS.below (h:PkS b0 gh gb Bs sv w hv bv A M W) (hb:Below W.heap.size W W'):PkS b0 gh gb Bs sv w hv bv A M W':=
 ⟨h.ch.below hb h.ch.lt,own_below h.oh hb,h.cb.below hb h.cb.lt,own_below h.ob hb,h.ne,h.sl.below hb h.sl.lt,h.nn.below hb h.nn.lt,h.bel.trans (hb.mono (Nat.le_trans h.l1 (Nat.le_of_lt h.ch.lt))),h.d1,h.d2,h.d3,h.l1,h.l2⟩
theorem PkS.drew (h:PkS b0 gh gb Bs sv w hv bv A M W) (q:Nat):PkS b0 gh gb Bs sv w hv bv A M (W.drewN q):=
 ⟨h.ch,h.oh,h.cb,h.ob,h.ne,h.sl,h.nn,bel_drewN h.bel q,h.d1,h.d2,h.d3,h.l1,h.l2⟩
theorem PkS.head (h:PkS b0 gh gb Bs sv w hv bv A M W) {v:Value} {F:List Nat} (ho:W'.ownsRow b0 5 1 v (A.length+F.length) (u8s (A++F))) (hg:W.grownBy W' hv.ownBlock) (hn:Near W hv v):
  PkS b0 gh gb Bs sv w v bv (A++F) M (W'.setCell ⟨gh,0,none⟩ v)∧∀ D,KeepsFrom D W (W'.setCell ⟨gh,0,none⟩ v):=by
 have hch:=h.ch.grown hg (blk_own_ne h.oh h.ch (by decide))
 have hcb:=h.cb.grown hg (blk_own_ne h.oh h.cb (by decide))
 have hsl:=h.sl.grown hg (blk_own_ne h.oh h.sl (by decide))
 have hnn:=h.nn.grown hg (blk_own_ne h.oh h.nn (by decide))
 have hob:=own_kept h.ob hg (fun g hg' e=>h.ne g e hg')
 have hG:Gr W' (W'.setCell ⟨gh,0,none⟩ v) gh:=(Gr.refl W' gh).setCell 0 v
 have hbel:=h.bel.grown hg (Nat.le_trans h.l1 (Nat.le_of_lt h.ch.lt)) (own_lt h.oh)
 refine ⟨⟨hch.set 0 v,by rw [List.length_append];exact own_gr ho hG hch (by decide),hcb.setOther (fun e=>h.d1 e.symm) v,own_gr hob hG hch (by decide),fun g hg' e=>?_,hsl.setOther h.d2 v,hnn.setOther ?_ v,hbel.setCell (p:=⟨gh,0,none⟩) h.l1 v,h.d1,h.d2,h.d3,h.l1,h.l2⟩,fun D=>(keeps_gr hg (own_cells h.oh)).trans (keeps_gr hG (fun r hr=>?_))⟩
 ·rcases hn g hg' with h1 | h1
  ·exact h.ne g h1 e
  ·have:=(h.ob.lt g e).2
   omega
 ·exact fun e=>(hch.ne hnn (by decide)) (by simpa using e.symm)
 ·simp at hr
  subst hr
  exact ⟨_,hch,rfl⟩
theorem PkS.szb (h:PkS b0 gh gb Bs sv w hv bv A M W):b0≤W.heap.size:=Nat.le_trans h.l1 (Nat.le_of_lt h.ch.lt)
theorem PkS.drew1 (h:PkS b0 gh gb Bs sv w hv bv A M W):PkS b0 gh gb Bs sv w hv bv A M W.drew:=
 ⟨h.ch,h.oh,h.cb,h.ob,h.ne,h.sl,h.nn,h.bel.drew,h.d1,h.d2,h.d3,h.l1,h.l2⟩
def FarS (hv bv s:Value) (S:List Nat):Prop:=∀ a n c,s=.slice (some a) n c→0<S.length→hv.ownBlock≠some a.block∧bv.ownBlock≠some a.block
theorem PkS.head_st (h:PkS b0 gh gb Bs sv w hv bv A M W) {s v:Value} {S:List Nat} (hs:IsBytes W s S) (hf:FarS hv bv s S) (hg:W.grownBy W' hv.ownBlock) (hn:Near W hv v):
  IsBytes (W'.setCell ⟨gh,0,none⟩ v) s S∧FarS v bv s S:=by
 have hch:=h.ch.grown hg (blk_own_ne h.oh h.ch (by decide))
 have hG:Gr W' (W'.setCell ⟨gh,0,none⟩ v) gh:=(Gr.refl W' gh).setCell 0 v
 have h1:=hs.row hg (fun a n c e h0 e2=>(hf a n c e h0).1 e2.symm)
 refine ⟨h1.row hG (fun a n c e h0 e2=>?_),fun a n c e h0=>⟨fun e2=>?_,(hf a n c e h0).2⟩⟩
 ·obtain ⟨b,off,cap,he,_,_,_,hc⟩:=h1.cells h0
  rw [e] at he
  simp at he e2
  have hbl:a.block=b:=by rw [he.1]
  have c0:=hc 0 h0
  rw [← hbl,e2] at c0
  obtain ⟨sp,cp,hsl,_,_⟩:=ownsRow_slice h.oh
  unfold Blk at hch
  simp only [World.cell?,hch] at c0
  rw [hsl] at c0
  cases off with
  | zero=>simp at c0
  | succ o=>simp at c0
 ·obtain ⟨b,off,cap,he,_,_,hbl,_⟩:=hs.cells h0
  rw [e] at he
  simp at he
  have hb:a.block=b:=by rw [he.1]
  rcases hn _ e2 with h2 | h2
  ·exact (hf a n c e h0).1 h2
  ·omega
theorem PkS.body (h:PkS b0 gh gb Bs sv w hv bv A M W) {v:Value} {F:List Nat} (ho:W'.ownsRow b0 5 1 v (M.length+F.length) (u8s (M++F))) (hg:W.grownBy W' bv.ownBlock) (hn:Near W bv v):
  PkS b0 gh gb Bs sv w hv v A (M++F) (W'.setCell ⟨gb,0,none⟩ v)∧∀ D,KeepsFrom D W (W'.setCell ⟨gb,0,none⟩ v):=by
 have hch:=h.ch.grown hg (blk_own_ne h.ob h.ch (by decide))
 have hcb:=h.cb.grown hg (blk_own_ne h.ob h.cb (by decide))
 have hsl:=h.sl.grown hg (blk_own_ne h.ob h.sl (by decide))
 have hnn:=h.nn.grown hg (blk_own_ne h.ob h.nn (by decide))
 have hoh:=own_kept h.oh hg (fun g hg' e=>h.ne g hg' e)
 have hG:Gr W' (W'.setCell ⟨gb,0,none⟩ v) gb:=(Gr.refl W' gb).setCell 0 v
 have hbel:=h.bel.grown hg (Nat.le_trans h.l1 (Nat.le_of_lt h.ch.lt)) (own_lt h.ob)
 refine ⟨⟨hch.setOther h.d1 v,own_gr hoh hG hcb (by decide),hcb.set 0 v,by rw [List.length_append];exact own_gr ho hG hcb (by decide),fun g hg' e=>?_,hsl.setOther h.d3 v,hnn.setOther ?_ v,hbel.setCell (p:=⟨gb,0,none⟩) h.l2 v,h.d1,h.d2,h.d3,h.l1,h.l2⟩,fun D=>(keeps_gr hg (own_cells h.ob)).trans (keeps_gr hG (fun r hr=>?_))⟩
 ·rcases hn g e with h1 | h1
  ·exact h.ne g hg' h1
  ·have:=(h.oh.lt g hg').2
   omega
 ·exact fun e=>(hcb.ne hnn (by decide)) (by simpa using e.symm)
 ·simp at hr
  subst hr
  exact ⟨_,hcb,rfl⟩
end
def PkInv (B:List Nat) (b0 gh gb Bs:Nat) (sv:Value) (w:World) (k:Nat) (W:World):Prop:=∃ hv bv,PkS b0 gh gb Bs sv w hv bv (hdP B k) (bodP B k) W
theorem pkInv_own {B:List Nat} {b0 gh gb Bs D:Nat} {sv:Value} {w:World} (hD:b0≤D):OwnFrom D (PkInv B b0 gh gb Bs sv w):=by
 rintro k W W' row ⟨hv,bv,h⟩ hg hr
 have hr':∀ r,row=some r→∃ o:Obj,W.heap[r]? = some o∧o.isCells=false:=fun r e=>(hr r e).2
 exact ⟨hv,bv,S6.blk_keep h.ch hg hr',own_keep h.oh hg hr',S6.blk_keep h.cb hg hr',own_keep h.ob hg hr',h.ne,S6.blk_keep h.sl hg hr',S6.blk_keep h.nn hg hr',h.bel.grown hg (Nat.le_trans h.l1 (Nat.le_of_lt h.ch.lt)) (fun k hk=>Nat.le_trans hD (hr k hk).1),h.d1,h.d2,h.d3,h.l1,h.l2⟩
end Go.Proofs.YtmjpnbadfmgimaaGreatDoor.S11
namespace Go.Proofs.YtmjpnbadfmgimaaGreatDoor.S11
open Go.RowKit Go.Shelf Pl S3 S3.Pl
theorem OnlyN.normal {Q:Exit→Act→World→Prop} {a:Act} {w:World} (h:Q .normal a w):OnlyN Q .normal a w:=h
attribute [local go_sem] Oper.semAt_some
theorem pack_any (v:Value) (B:List Nat) (w:World) (hT:Tab w) (hv:IsBytes w v B) (hB:B.length≤100000):Calls Tryz.prog 28 #[v] w (MadePost (packP B) w):=by
 obtain ⟨N,hN⟩:∃ N,B.length=N:=⟨_,rfl⟩
 obtain ⟨va,vcap,rfl,hcap,hmax⟩:=hv.slice
 rw [hN] at hcap hB ⊢
 have hv':IsBytes w (.slice va N vcap) B:=by rw [← hN];exact hv
 have HT:=Lib.hid hT
 have HV:=Lib.hid hv'
 have HN:=Lib.hid hN
 have hw32:(N:Int)%4294967296=(N:Int):=by omega
 clear hT hv hv' hN
 refine (callsIn_wide (n:=4)).1 ?_
 refine callsIn_of_wp_marks Tryz.func28 rfl trivial ?_ rfl
 simp only [Tryz.ntmps28,List.size_toArray,List.length_cons,List.length_nil,Nat.reduceAdd,Nat.reduceSub,Array.replicate_succ,Array.replicate_zero,List.push_toArray,List.append_toArray,List.nil_append,List.cons_append]
 gi_wp2_with fail
 refine ⟨trivial,?_⟩
 refine (callsIn_wide.2 (four_nat _ N _ (by omega))).mono ?_
 rintro e w1 ⟨sp1,cap1,rfl,ho1,hb1⟩
 rw [four_length] at ho1 ⊢
 have HO1:=Lib.hid ho1
 have HB1:=Lib.hid hb1
 clear ho1 hb1
 gi_wp2_with fail
 refine ⟨trivial,?_⟩
 refine (chunk_any Fence.wide 3 trivial rfl _ _ _ _).mono ?_
 rintro e w' ⟨rfl,rfl⟩
 obtain ⟨W0,hW0⟩:∃ W0,((((w1.alloc (.cells #[.slice sp1 4 cap1] 27)).alloc (.cells #[.slice none 0 0] 27)).alloc (.cells #[.slice va N vcap] 27)).alloc (.cells #[.int .i64 1000] 3))=W0:=⟨_,rfl⟩
 have hsz0:W0.heap.size=w1.heap.size+4:=by rw [← hW0];simp
 have hb01:Below w1.heap.size w1 W0:=by rw [← hW0];exact ((((Below.refl _ w1).alloc (Nat.le_refl _) _).alloc (by simp) _).alloc (by simp;omega) _).alloc (by simp;omega) _
 have hsz1:=HB1.out.size
 have hinv0:PkS w.heap.size w1.heap.size (w1.heap.size+1) (w1.heap.size+2) (.slice va N vcap) w (.slice sp1 4 cap1) (.slice none 0 0) (hdP B 0) (bodP B 0) W0:=by
  refine ⟨?_,?_,?_,World.ownsRow_nil _ _ _ _,(fun g _ e=>by cases e),?_,?_,HB1.out.trans (hb01.mono hsz1),by omega,by omega,by omega,hsz1,by omega⟩
  ·rw [← hW0];exact (((Blk.new w1 27 [.slice sp1 4 cap1]).alloc _).alloc _).alloc _
  ·rw [hdP_zero,HN.out,four_length];exact own_below HO1.out hb01
  ·rw [← hW0]
   have:=Blk.new (w1.alloc (.cells #[.slice sp1 4 cap1] 27)) 27 [.slice none 0 0]
   rw [World.size_alloc] at this
   exact (this.alloc _).alloc _
  ·rw [← hW0]
   have:=Blk.new ((w1.alloc (.cells #[.slice sp1 4 cap1] 27)).alloc (.cells #[.slice none 0 0] 27)) 27 [.slice va N vcap]
   rw [World.size_alloc,World.size_alloc] at this
   exact this.alloc _
  ·rw [← hW0]
   have:=Blk.new (((w1.alloc (.cells #[.slice sp1 4 cap1] 27)).alloc (.cells #[.slice none 0 0] 27)).alloc (.cells #[.slice va N vcap] 27)) 3 [.int .i64 1000]
   rw [World.size_alloc,World.size_alloc,World.size_alloc] at this
   exact this
 have HI0:=Lib.hid hinv0
 clear hinv0 hb01 HO1
 simp only [World.size_alloc] at*
 rw [hW0]
 clear hW0
 gi_wp2_with fail
 refine rounds_drew rfl (by omega) (gf:=51) (lb:=#[.pointer (some ⟨w1.heap.size+2,0,none⟩),.pointer (some ⟨w1.heap.size+2+1,0,none⟩)]) rfl trivial (enters_of Tryz.func51 (by kernel_rfl) rfl) (pcs N)
  (fun k=>#[pcV va N k]) (fun _=>rfl) (PkInv B w.heap.size w1.heap.size (w1.heap.size+1) (w1.heap.size+2) (.slice va N vcap) w) (pkInv_own (by omega)) ⟨_,_,HI0.out⟩
  (fun l J W hJI hJd hY h0=>chunk_rounds 3 (by omega) l (w1.heap.size+2) N vcap va (by omega) hcap J hJd (fun k W hJ=>by obtain ⟨hv,bv,h⟩:=hJI k W hJ;exact ⟨h.sl.cell rfl,h.nn.cell rfl⟩) hY W h0)
  (fun k=>{ tmps:=#[.slice va N vcap,undef,.slice none 0 0,.pointer (some ⟨w1.heap.size,0,none⟩),.pointer (some ⟨w1.heap.size+1,0,none⟩),pcV va N k,undef,undef,.slice va N vcap,.int .i64 N,.int .u32 N,.slice sp1 4 cap1,.slice va N vcap,.func (.func 51) #[] #[.pointer (some ⟨w1.heap.size+2,0,none⟩),.pointer (some ⟨w1.heap.size+2+1,0,none⟩)],pcV va N k,undef,undef,undef,undef,undef,undef,undef,undef,undef,undef,undef,undef,undef,undef,undef,undef,undef,undef,undef,undef,undef,undef,undef,undef,undef,undef,undef],defers:=[] }) ?assign ?body ?done
 case assign=>
  intro l k W K hK
  gi_wp2
  exact hK
 case done=>
  rintro D W hD ⟨hv,bv,hI⟩ hW
  have hpc:pcs N=cnt B.length:=by rw [HN.out];rfl
  rw [hpc] at hI
  obtain ⟨A,hA⟩:∃ A,hdP B (cnt B.length)=A:=⟨_,rfl⟩
  obtain ⟨M,hM⟩:∃ M,bodP B (cnt B.length)=M:=⟨_,rfl⟩
  have hAx:∀ x∈A,x<256:=by rw [← hA];exact hdP_lt B _
  have hMx:∀ x∈M,x<256:=by rw [← hM];exact bodP_lt HV.out.1 _
  have hAl:A.length=4+8*cnt B.length:=by rw [← hA];exact hdP_length B _
  have hMl:M.length≤100000:=by rw [← hM];have:=bodP_le B (cnt B.length);have:=HN.out;omega
  have hcn:cnt B.length≤100:=by rw [HN.out];unfold cnt;omega
  rw [hA,hM] at hI
  have hAi:IsBytes W hv A:=by
   obtain ⟨sp,cp,he,_,_⟩:=ownsRow_slice hI.oh
   have:=hI.oh
   rw [he] at this ⊢
   exact isBytes_own hAx this
  have hMi:IsBytes W bv M:=by
   obtain ⟨sp,cp,he,_,_⟩:=ownsRow_slice hI.ob
   have:=hI.ob
   rw [he] at this ⊢
   exact isBytes_own hMx this
  have HAL:Hid (A.length=4+8*cnt B.length):=Lib.hid hAl
  have HA:=Lib.hid hAi
  have HM:=Lib.hid hMi
  have HTW:=Lib.hid (HT.out.below hI.bel)
  have HIB:=Lib.hid hI.bel
  have HPK:Hid (packP B=pseal A++M):=Lib.hid (by unfold packP;rw [hA,hM])
  have hgl:=hI.ch.lt
  have hbl:=hI.cb.lt
  have d0:∀ X,From W X→X.cell? ⟨w1.heap.size,0,none⟩=some hv:=fun X h=>(Below.cell (p:=⟨w1.heap.size,0,none⟩) h hgl).trans (hI.ch.cell rfl)
  have d1:∀ X,From W X→X.cell? ⟨w1.heap.size+1,0,none⟩=some bv:=fun X h=>(Below.cell (p:=⟨w1.heap.size+1,0,none⟩) h hbl).trans (hI.cb.cell rfl)
  have hDl:D<W.heap.size:=(Array.getElem?_eq_some_iff.1 hW).1
  have HW:=Lib.hid hW
  clear hA hM hAx hMx hAl hAi hMi hI hW hpc
  gi_wp2_with fail
  refine wpIn_wide.2 ?_
  refine wp_region_noPanic ?_
  have hHeld:From W W.drew:=(Below.refl _ _).drew
  refine wpAnyH_start (n:=5) (l:=#[false,false,false,false,false]) (S:=From W) (by kernel_rfl) (hHeld) (by kernel_rfl) (by kernel_rfl) ?_
  refine wpAnyH_take (i:=0) (oi:=_) (v:=?_) rfl (by kernel_rfl) (by kernel_rfl) (by kernel_rfl) (fun _ _ _ h=>h) (Or.inl ⟨by rfl,?_⟩) (by assumption) ?_
  rotate_left
  ·intro wq hSw;go_simp;try with_reducible rfl
  simp only [Act.put,List.setIfInBounds_toArray,List.set_cons_zero,List.set_cons_succ,List.getElem_toArray,List.getElem_cons_zero,List.getElem_cons_succ]
  refine wpAnyH_take (i:=2) (oi:=_) (v:=?_) rfl (by kernel_rfl) (by kernel_rfl) (by kernel_rfl) (fun _ _ _ h=>h) (Or.inl ⟨by rfl,?_⟩) (by assumption) ?_
  rotate_left
  ·intro wq hSw;go_simp;try with_reducible rfl
  simp only [Act.put,List.setIfInBounds_toArray,List.set_cons_zero,List.set_cons_succ,List.getElem_toArray,List.getElem_cons_zero,List.getElem_cons_succ]
  refine wpAnyH_ready (rs:=[1]) (by kernel_rfl) (by simp) ?_
  refine AllReadyH.cons (o:=_) rfl (fun K hK=>?_) AllReadyH.nil
  simp only [List.getElem_toArray,List.getElem_cons_zero,List.getElem_cons_succ]
  go_simp
  refine (seal_any _ A _ (HTW.out.below hHeld) (HA.out.below hHeld) (by rw [HAL.out];omega)).mono ?_;rintro e X1 ⟨vs,rfl,hos,hbs⟩;have hX1:From W X1:=From.trans hHeld hbs
  refine hK.out _ _ (hX1) (fun _=>?_)
  clear hK K hHeld
  refine wpAnyH_mono (S':=From W) (fun w' h=>h) ?_
  have hHeld:=hX1
  have HOS:Hid (X1.ownsRow W.heap.size 5 1 vs (pseal A).length (u8s (pseal A))):=Lib.hid hos
  clear hos hbs
  simp only [Act.put,List.setIfInBounds_toArray,List.set_cons_zero,List.set_cons_succ,List.getElem_toArray,List.getElem_cons_zero,List.getElem_cons_succ]
  refine wpAnyH_ready (rs:=[3]) (by kernel_rfl) (by simp) ?_
  refine AllReadyH.cons (o:=_) rfl (fun K hK=>?_) AllReadyH.nil
  simp only [List.getElem_toArray,List.getElem_cons_zero,List.getElem_cons_succ]
  rw [if_pos (by rfl)]
  refine wp_append_near (.tmp 39) (.tmp 40) rfl W.heap.size vs (pseal A).length (pseal A) rfl HOS.out _ M rfl (HM.out.below hHeld) (by rw [pseal_length,HAL.out];omega) (Below.size hHeld) ?_
  intro v2 X2 ho2 hg2 hn2
  have hX2:From W X2:=Below.grown hHeld hg2 (Below.size hHeld) (own_lt HOS.out)
  have HO2:=Lib.hid ho2
  refine hK.out _ _ hX2 (fun _=>?_)
  clear hK K ho2 hg2 hn2
  have hHeld:=hX2
  simp only [Act.put,List.setIfInBounds_toArray,List.set_cons_zero,List.set_cons_succ,List.getElem_toArray,List.getElem_cons_zero,List.getElem_cons_succ]
  refine wpAnyH_take (i:=4) (oi:=_) (v:=?_) rfl (by kernel_rfl) (by kernel_rfl) (by kernel_rfl) (fun _ _ _ h=>h) (Or.inl ⟨by rfl,?_⟩) (by assumption) ?_
  rotate_left
  ·intro wq hSw;go_simp;try with_reducible rfl
  simp only [Act.put,List.setIfInBounds_toArray,List.set_cons_zero,List.set_cons_succ,List.getElem_toArray,List.getElem_cons_zero,List.getElem_cons_succ]
  refine wpAnyH_done (by kernel_rfl) ?_ _
  refine NoPanic.normal ?_
  gi_wp2
  have hW2:X2.heap[D]? = some (.deferred (some [])):=(Below.block hX2 D hDl).trans HW.out
  have hput:=grownBy_putObj' X2 D (.deferred none)
  refine ⟨by simp,.inl ⟨_,_,rfl,run_takeDeferred hW2,?_⟩⟩
  refine ⟨_,results_tmp rfl _ _ _,v2,rfl,?_,?_⟩
  ·rw [HPK.out,List.length_append]
   exact own_keep (own_base HO2.out HIB.out.size) hput (fun r hr=>by simp at hr;subst hr;exact ⟨_,hW2,rfl⟩)
  ·exact (HIB.out.trans (Below.mono hX2 HIB.out.size)).grown hput (Nat.le_trans HIB.out.size (Below.size hX2)) (fun k hk=>by simp at hk;omega)
 case body=>
  rintro l k W hk ⟨hv,bv,hI⟩
  have hkN:k*1000<N:=by unfold pcs at hk;omega
  have hTW:Tab W:=HT.out.below hI.bel
  have hpi:IsBytes W (pcV va N k) (chk B k):=isBytes_piece (HV.out.below hI.bel) HN.out hkN
  obtain ⟨m,hm⟩:∃ m,min 1000 (N-k*1000)=m:=⟨_,rfl⟩
  have hml:(chk B k).length=m:=by rw [chk_length,HN.out,Nat.mul_comm 1000 k];exact hm
  have hpv:pcV va N k=.slice (va.map (·.add (k*1000*1))) m m:=by unfold pcV;rw [hm]
  have hpw0:IsBytes w (pcV va N k) (chk B k):=isBytes_piece HV.out HN.out hkN
  rw [hpv] at hpi hpw0 ⊢
  have HI:=Lib.hid hI
  have HTW:=Lib.hid hTW
  have HP:=Lib.hid hpi
  have HM:=Lib.hid hml
  have hm1:m≤1000:=by omega
  obtain ⟨pa,hpa'⟩:∃ pa,va.map (·.add (k*1000*1))=pa:=⟨_,rfl⟩
  rw [hpa'] at HP ⊢
  have hpw:IsBytes w (.slice pa m m) (chk B k):=by rw [hpa'] at hpw0;exact hpw0
  have hfar0:FarS hv bv (.slice pa m m) (chk B k):=fun a n c e h0=>by
   obtain ⟨b,off,cap,he,_,_,hbl,_⟩:=hpw.cells h0
   rw [e] at he
   simp at he
   have hb:a.block=b:=by rw [he.1]
   exact ⟨fun h=>by have:=(HI.out.oh.lt _ h).1;omega,fun h=>by have:=(HI.out.ob.lt _ h).1;omega⟩
  have HFR:=Lib.hid hfar0
  have hbl0:Hid ((bodP B k).length≤100000):=Lib.hid (by have:=bodP_le B k;have:=HN.out;omega)
  clear hI hTW hpi hml hpv hm hpw hfar0 hpw0 hpa'
  gi_wp2_with fail
  refine ⟨trivial,?_⟩
  refine (CallsIn.inRound l (callsIn_wide.2 (encC_any _ (chk B k) W HP.out (by rw [HM.out];omega)))).mono ?_
  rintro e X1 ⟨g,q,rfl,hn,hgW,hi1,hb1⟩
  have HI1:=Lib.hid (HI.out.below hb1.out)
  have HK1:=Lib.hid (fun D=>keeps_below (D:=D) hb1.out)
  have HP1:=Lib.hid (HP.out.below hb1.out)
  by_cases hlt:q<m
  ·have hltz:(q:Int)<(m:Int):=by omega
   obtain ⟨S,hS⟩:∃ S,stB (chk B k)=S:=⟨_,rfl⟩
   have hSe:S=eC (chk B k):=by rw [← hS];unfold stB;rw [if_pos (by rw [HM.out,← hn];exact hlt)]
   have HS1:Hid (IsBytes X1 (.slice (some ⟨g,0,none⟩) q q) S):=Lib.hid (by rw [hSe];exact hi1.out)
   have HSL:Hid (S.length=q):=Lib.hid (by rw [hSe,hn])
   have HSS:=Lib.hid hS
   have HR1:Hid (FarS hv bv (.slice (some ⟨g,0,none⟩) q q) S):=Lib.hid (fun a n' c e h0=>by
    simp at e
    have e2:a.block=g:=by rw [← e.1]
    exact ⟨fun h=>by have:=(HI.out.oh.lt _ h).2;omega,fun h=>by have:=(HI.out.ob.lt _ h).2;omega⟩)
   have hq32:IntKind.u32.wrap (q:Int)=(q:Int):=by rw [IntKind.wrap_u32'];omega
   have hbl:(bodP B k).length+q≤4294967296:=by have:=hbl0.out;omega
   clear hS hSe hi1 hb1 HP1 HP hn HFR hgW HI
   gi_wp2_with fail
   refine region_round (S:=fun _=>True) (k:=7) (ls:=#[false,false,false,false,false,false,false]) (by kernel_rfl) (by kernel_rfl) (by kernel_rfl) (by kernel_rfl) ?_
   have HI2:=Lib.hid (PkS.drew1 HI1.out)
   have HS2:Hid (IsBytes X1.drew _ S):=HS1
   have HR2:=HR1
   have HK2:=Lib.hid (fun D=>(HK1.out D).trans ((KeepsOthers.drew X1).from D))
   generalize X1.drew=X2 at*
   clear HI1 HS1 HK1 HR1
   refine wpAnyH_take (i:=1) (oi:=_) (v:=?_) rfl (by kernel_rfl) (by kernel_rfl) (by kernel_rfl) (fun _ _ _ h=>h) (Or.inl ⟨by rfl,?_⟩) trivial ?_
   rotate_left
   ·intro wq hSw;go_simp;try with_reducible rfl
   simp only [Act.put,List.setIfInBounds_toArray,List.set_cons_zero,List.set_cons_succ,List.getElem_toArray,List.getElem_cons_zero,List.getElem_cons_succ]
   refine wpAnyH_take (i:=2) (oi:=_) (v:=?_) rfl (by kernel_rfl) (by kernel_rfl) (by kernel_rfl) (fun _ _ _ h=>h) (Or.inl ⟨by rfl,?_⟩) trivial ?_
   rotate_left
   ·intro wq hSw;go_simp;try with_reducible rfl
   simp only [Act.put,List.setIfInBounds_toArray,List.set_cons_zero,List.set_cons_succ,List.getElem_toArray,List.getElem_cons_zero,List.getElem_cons_succ]
   refine wpAnyH_take (i:=3) (oi:=_) (v:=?_) rfl (by kernel_rfl) (by kernel_rfl) (by kernel_rfl) (fun _ _ _ h=>h) (Or.inl ⟨by rfl,?_⟩) trivial ?_
   rotate_left
   ·intro wq hSw;go_simp;try with_reducible rfl
   simp only [Act.put,List.setIfInBounds_toArray,List.set_cons_zero,List.set_cons_succ,List.getElem_toArray,List.getElem_cons_zero,List.getElem_cons_succ]
   refine wpAnyH_ready (rs:=[0,4]) (by kernel_rfl) (by simp) ?_
   refine AllReadyH.cons (o:=_) rfl (fun K hK=>?_) (AllReadyH.cons (o:=_) rfl (fun K hK=>?_) AllReadyH.nil)
   focus
    have ch:=HI2.out.ch.cell (o:=0) rfl
    simp only [List.getElem_toArray,List.getElem_cons_zero,List.getElem_cons_succ]
    go_simp
    clear ch
    refine hK.out _ _ trivial (fun _=>?_)
    clear hK K
    simp only [Act.put,List.setIfInBounds_toArray,List.set_cons_zero,List.set_cons_succ,List.getElem_toArray,List.getElem_cons_zero,List.getElem_cons_succ]
    refine wpAnyH_ready (rs:=[4]) (by kernel_rfl) (by simp) ?_
    refine AllReadyH.cons (o:=_) rfl (fun K hK=>?_) AllReadyH.nil
    simp only [List.getElem_toArray,List.getElem_cons_zero,List.getElem_cons_succ]
    go_simp
    refine (four_nat _ (q) _ rfl).mono ?_
    rintro e X3 ⟨spf,capf,rfl,hof,hbf⟩
    rw [four_length] at hof ⊢
    have HF3:=Lib.hid (isBytes_ownS (four_lt (q)) (four_length (q)).symm hof)
    have HI3:=Lib.hid (HI2.out.below hbf)
    have HS3:=Lib.hid (HS2.out.below hbf)
    have HK3:=Lib.hid (fun D=>(HK2.out D).trans (keeps_below (D:=D) hbf))
    have HR3:=HR2
    clear hof hbf HI2 HS2 HK2 HR2
    refine hK.out _ _ trivial (fun _=>?_)
    clear hK K
    simp only [Act.put,List.setIfInBounds_toArray,List.set_cons_zero,List.set_cons_succ,List.getElem_toArray,List.getElem_cons_zero,List.getElem_cons_succ]
    refine wpAnyH_ready (rs:=[5]) (by kernel_rfl) (by simp) ?_
    refine AllReadyH.cons (o:=_) rfl (fun K hK=>?_) AllReadyH.nil
    simp only [List.getElem_toArray,List.getElem_cons_zero,List.getElem_cons_succ]
    rw [if_pos (by rfl)]
    refine wp_append_near (.tmp 24) (.tmp 28) rfl w.heap.size hv (hdP B k).length (hdP B k) rfl HI3.out.oh _ (four (q)) rfl HF3.out (by rw [hdP_length,four_length];omega) HI3.out.szb ?_
    intro h4 Y4 ho hg hnr
    obtain ⟨sp4,c4,he,_,_⟩:=ownsRow_slice ho
    obtain ⟨n4,hnn⟩:∃ n,(hdP B k).length+(four (q)).length=n:=⟨_,rfl⟩
    rw [hnn] at he
    subst he
    clear hnn
    refine hK.out _ _ trivial (fun _=>?_)
    clear hK K
    simp only [Act.put,List.setIfInBounds_toArray,List.set_cons_zero,List.set_cons_succ,List.getElem_toArray,List.getElem_cons_zero,List.getElem_cons_succ]
    have hc0:=HI3.out.ch.grown hg (blk_own_ne HI3.out.oh HI3.out.ch (by decide))
    have ch:=hc0.cell (o:=0) rfl
    have cf:=hc0.frozen 0
    refine wpAnyH_ready (rs:=[6]) (by kernel_rfl) (by simp) ?_
    refine AllReadyH.cons (o:=_) rfl (fun K hK=>?_) AllReadyH.nil
    simp only [List.getElem_toArray,List.getElem_cons_zero,List.getElem_cons_succ]
    go_simp
    clear ch cf hc0
    obtain ⟨hp,hkk⟩:=HI3.out.head ho hg hnr
    obtain ⟨hss,hff⟩:=HI3.out.head_st HS3.out HR3.out hg hnr
    have HI4:=Lib.hid hp
    have HS4:=Lib.hid hss
    have HR4:=Lib.hid hff
    have HK4:=Lib.hid (fun D=>(HK3.out D).trans (hkk D))
    generalize Y4.setCell ⟨w1.heap.size,0,none⟩ (.slice sp4 n4 c4)=X4 at*
    clear hp hkk hss hff ho hg hnr HI3 HS3 HK3 HR3 HF3
    refine hK.out _ _ trivial (fun _=>?_)
    clear hK K
    simp only [Act.put,List.setIfInBounds_toArray,List.set_cons_zero,List.set_cons_succ,List.getElem_toArray,List.getElem_cons_zero,List.getElem_cons_succ]
    refine wpAnyH_done (by kernel_rfl) ?_ _
    refine OnlyN.normal ?_
   rotate_left
   focus
    simp only [List.getElem_toArray,List.getElem_cons_zero,List.getElem_cons_succ]
    go_simp
    refine (four_nat _ (q) _ rfl).mono ?_
    rintro e X3 ⟨spf,capf,rfl,hof,hbf⟩
    rw [four_length] at hof ⊢
    have HF3:=Lib.hid (isBytes_ownS (four_lt (q)) (four_length (q)).symm hof)
    have HI3:=Lib.hid (HI2.out.below hbf)
    have HS3:=Lib.hid (HS2.out.below hbf)
    have HK3:=Lib.hid (fun D=>(HK2.out D).trans (keeps_below (D:=D) hbf))
    have HR3:=HR2
    clear hof hbf HI2 HS2 HK2 HR2
    refine hK.out _ _ trivial (fun _=>?_)
    clear hK K
    simp only [Act.put,List.setIfInBounds_toArray,List.set_cons_zero,List.set_cons_succ,List.getElem_toArray,List.getElem_cons_zero,List.getElem_cons_succ]
    refine wpAnyH_ready (rs:=[0]) (by kernel_rfl) (by simp) ?_
    refine AllReadyH.cons (o:=_) rfl (fun K hK=>?_) AllReadyH.nil
    have ch:=HI3.out.ch.cell (o:=0) rfl
    simp only [List.getElem_toArray,List.getElem_cons_zero,List.getElem_cons_succ]
    go_simp
    clear ch
    refine hK.out _ _ trivial (fun _=>?_)
    clear hK K
    simp only [Act.put,List.setIfInBounds_toArray,List.set_cons_zero,List.set_cons_succ,List.getElem_toArray,List.getElem_cons_zero,List.getElem_cons_succ]
    refine wpAnyH_ready (rs:=[5]) (by kernel_rfl) (by simp) ?_
    refine AllReadyH.cons (o:=_) rfl (fun K hK=>?_) AllReadyH.nil
    simp only [List.getElem_toArray,List.getElem_cons_zero,List.getElem_cons_succ]
    rw [if_pos (by rfl)]
    refine wp_append_near (.tmp 24) (.tmp 28) rfl w.heap.size hv (hdP B k).length (hdP B k) rfl HI3.out.oh _ (four (q)) rfl HF3.out (by rw [hdP_length,four_length];omega) HI3.out.szb ?_
    intro h4 Y4 ho hg hnr
    obtain ⟨sp4,c4,he,_,_⟩:=ownsRow_slice ho
    obtain ⟨n4,hnn⟩:∃ n,(hdP B k).length+(four (q)).length=n:=⟨_,rfl⟩
    rw [hnn] at he
    subst he
    clear hnn
    refine hK.out _ _ trivial (fun _=>?_)
    clear hK K
    simp only [Act.put,List.setIfInBounds_toArray,List.set_cons_zero,List.set_cons_succ,List.getElem_toArray,List.getElem_cons_zero,List.getElem_cons_succ]
    have hc0:=HI3.out.ch.grown hg (blk_own_ne HI3.out.oh HI3.out.ch (by decide))
    have ch:=hc0.cell (o:=0) rfl
    have cf:=hc0.frozen 0
    refine wpAnyH_ready (rs:=[6]) (by kernel_rfl) (by simp) ?_
    refine AllReadyH.cons (o:=_) rfl (fun K hK=>?_) AllReadyH.nil
    simp only [List.getElem_toArray,List.getElem_cons_zero,List.getElem_cons_succ]
    go_simp
    clear ch cf hc0
    obtain ⟨hp,hkk⟩:=HI3.out.head ho hg hnr
    obtain ⟨hss,hff⟩:=HI3.out.head_st HS3.out HR3.out hg hnr
    have HI4:=Lib.hid hp
    have HS4:=Lib.hid hss
    have HR4:=Lib.hid hff
    have HK4:=Lib.hid (fun D=>(HK3.out D).trans (hkk D))
    generalize Y4.setCell ⟨w1.heap.size,0,none⟩ (.slice sp4 n4 c4)=X4 at*
    clear hp hkk hss hff ho hg hnr HI3 HS3 HK3 HR3 HF3
    refine hK.out _ _ trivial (fun _=>?_)
    clear hK K
    simp only [Act.put,List.setIfInBounds_toArray,List.set_cons_zero,List.set_cons_succ,List.getElem_toArray,List.getElem_cons_zero,List.getElem_cons_succ]
    refine wpAnyH_done (by kernel_rfl) ?_ _
    refine OnlyN.normal ?_
   all_goals (
    gi_wp2_with fail
    refine region_round (S:=fun _=>True) (k:=6) (ls:=#[false,false,false,false,false,false]) (by kernel_rfl) (by kernel_rfl) (by kernel_rfl) (by kernel_rfl) ?_
    have HI5:=Lib.hid (PkS.drew1 HI4.out)
    have HS5:Hid (IsBytes X4.drew _ S):=HS4
    have HR5:=HR4
    have HK5:=Lib.hid (fun D=>(HK4.out D).trans ((KeepsOthers.drew X4).from D))
    generalize X4.drew=X5 at*
    clear HI4 HS4 HK4 HR4
    refine wpAnyH_take (i:=1) (oi:=_) (v:=?_) rfl (by kernel_rfl) (by kernel_rfl) (by kernel_rfl) (fun _ _ _ h=>h) (Or.inl ⟨by rfl,?_⟩) trivial ?_
    rotate_left
    ·intro wq hSw;go_simp;try with_reducible rfl
    simp only [Act.put,List.setIfInBounds_toArray,List.set_cons_zero,List.set_cons_succ,List.getElem_toArray,List.getElem_cons_zero,List.getElem_cons_succ]
    refine wpAnyH_ready (rs:=[0,2]) (by kernel_rfl) (by simp) ?_
    refine AllReadyH.cons (o:=_) rfl (fun K hK=>?_) (AllReadyH.cons (o:=_) rfl (fun K hK=>?_) AllReadyH.nil)
    focus
     have ch:=HI5.out.ch.cell (o:=0) rfl
     simp only [List.getElem_toArray,List.getElem_cons_zero,List.getElem_cons_succ]
     go_simp
     clear ch
     refine hK.out _ _ trivial (fun _=>?_)
     clear hK K
     simp only [Act.put,List.setIfInBounds_toArray,List.set_cons_zero,List.set_cons_succ,List.getElem_toArray,List.getElem_cons_zero,List.getElem_cons_succ]
     refine wpAnyH_ready (rs:=[2]) (by kernel_rfl) (by simp) ?_
     refine AllReadyH.cons (o:=_) rfl (fun K hK=>?_) AllReadyH.nil
     simp only [List.getElem_toArray,List.getElem_cons_zero,List.getElem_cons_succ]
     go_simp
     refine (sum_any _ S _ (HT.out.below HI5.out.bel) HS5.out).mono ?_
     rintro e Z5 ⟨rfl,rfl⟩
     refine hK.out _ _ trivial (fun _=>?_)
     clear hK K
     simp only [Act.put,List.setIfInBounds_toArray,List.set_cons_zero,List.set_cons_succ,List.getElem_toArray,List.getElem_cons_zero,List.getElem_cons_succ]
     refine wpAnyH_ready (rs:=[3]) (by kernel_rfl) (by simp) ?_
     refine AllReadyH.cons (o:=_) rfl (fun K hK=>?_) AllReadyH.nil
     simp only [List.getElem_toArray,List.getElem_cons_zero,List.getElem_cons_succ]
     go_simp
     refine (four_nat _ (csum S) _ rfl).mono ?_
     rintro e X6 ⟨spf,capf,rfl,hof,hbf⟩
     rw [four_length] at hof ⊢
     have HF6:=Lib.hid (isBytes_ownS (four_lt (csum S)) (four_length (csum S)).symm hof)
     have HI6:=Lib.hid (HI5.out.below hbf)
     have HS6:=Lib.hid (HS5.out.below hbf)
     have HK6:=Lib.hid (fun D=>(HK5.out D).trans (keeps_below (D:=D) hbf))
     have HR6:=HR5
     clear hof hbf HI5 HS5 HK5 HR5
     refine hK.out _ _ trivial (fun _=>?_)
     clear hK K
     simp only [Act.put,List.setIfInBounds_toArray,List.set_cons_zero,List.set_cons_succ,List.getElem_toArray,List.getElem_cons_zero,List.getElem_cons_succ]
     refine wpAnyH_ready (rs:=[4]) (by kernel_rfl) (by simp) ?_
     refine AllReadyH.cons (o:=_) rfl (fun K hK=>?_) AllReadyH.nil
     simp only [List.getElem_toArray,List.getElem_cons_zero,List.getElem_cons_succ]
     rw [if_pos (by rfl)]
     refine wp_append_near (.tmp 30) (.tmp 33) rfl w.heap.size (.slice sp4 n4 c4) (hdP B k++four q).length (hdP B k++four q) rfl HI6.out.oh _ (four (csum S)) rfl HF6.out (by rw [List.length_append,hdP_length,four_length,four_length];omega) HI6.out.szb ?_
     intro h7 Y7 ho hg hnr
     obtain ⟨sp7,c7,he,_,_⟩:=ownsRow_slice ho
     obtain ⟨n7,hnn⟩:∃ n,(hdP B k++four q).length+(four (csum S)).length=n:=⟨_,rfl⟩
     rw [hnn] at he
     subst he
     clear hnn
     refine hK.out _ _ trivial (fun _=>?_)
     clear hK K
     simp only [Act.put,List.setIfInBounds_toArray,List.set_cons_zero,List.set_cons_succ,List.getElem_toArray,List.getElem_cons_zero,List.getElem_cons_succ]
     have hc0:=HI6.out.ch.grown hg (blk_own_ne HI6.out.oh HI6.out.ch (by decide))
     have ch:=hc0.cell (o:=0) rfl
     have cf:=hc0.frozen 0
     refine wpAnyH_ready (rs:=[5]) (by kernel_rfl) (by simp) ?_
     refine AllReadyH.cons (o:=_) rfl (fun K hK=>?_) AllReadyH.nil
     simp only [List.getElem_toArray,List.getElem_cons_zero,List.getElem_cons_succ]
     go_simp
     clear ch cf hc0
     obtain ⟨hp,hkk⟩:=HI6.out.head ho hg hnr
     obtain ⟨hss,hff⟩:=HI6.out.head_st HS6.out HR6.out hg hnr
     have HI7:=Lib.hid hp
     have HS7:=Lib.hid hss
     have HR7:=Lib.hid hff
     have HK7:=Lib.hid (fun D=>(HK6.out D).trans (hkk D))
     generalize Y7.setCell ⟨w1.heap.size,0,none⟩ (.slice sp7 n7 c7)=X7 at*
     clear hp hkk hss hff ho hg hnr HI6 HS6 HK6 HR6 HF6
     refine hK.out _ _ trivial (fun _=>?_)
     clear hK K
     simp only [Act.put,List.setIfInBounds_toArray,List.set_cons_zero,List.set_cons_succ,List.getElem_toArray,List.getElem_cons_zero,List.getElem_cons_succ]
     refine wpAnyH_done (by kernel_rfl) ?_ _
     refine OnlyN.normal ?_
    rotate_left
    focus
     simp only [List.getElem_toArray,List.getElem_cons_zero,List.getElem_cons_succ]
     go_simp
     refine (sum_any _ S _ (HT.out.below HI5.out.bel) HS5.out).mono ?_
     rintro e Z5 ⟨rfl,rfl⟩
     refine hK.out _ _ trivial (fun _=>?_)
     clear hK K
     simp only [Act.put,List.setIfInBounds_toArray,List.set_cons_zero,List.set_cons_succ,List.getElem_toArray,List.getElem_cons_zero,List.getElem_cons_succ]
     refine wpAnyH_ready (rs:=[0,3]) (by kernel_rfl) (by simp) ?_
     refine AllReadyH.cons (o:=_) rfl (fun K hK=>?_) (AllReadyH.cons (o:=_) rfl (fun K hK=>?_) AllReadyH.nil)
     focus
      have ch:=HI5.out.ch.cell (o:=0) rfl
      simp only [List.getElem_toArray,List.getElem_cons_zero,List.getElem_cons_succ]
      go_simp
      clear ch
      refine hK.out _ _ trivial (fun _=>?_)
      clear hK K
      simp only [Act.put,List.setIfInBounds_toArray,List.set_cons_zero,List.set_cons_succ,List.getElem_toArray,List.getElem_cons_zero,List.getElem_cons_succ]
      refine wpAnyH_ready (rs:=[3]) (by kernel_rfl) (by simp) ?_
      refine AllReadyH.cons (o:=_) rfl (fun K hK=>?_) AllReadyH.nil
      simp only [List.getElem_toArray,List.getElem_cons_zero,List.getElem_cons_succ]
      go_simp
      refine (four_nat _ (csum S) _ rfl).mono ?_
      rintro e X6 ⟨spf,capf,rfl,hof,hbf⟩
      rw [four_length] at hof ⊢
      have HF6:=Lib.hid (isBytes_ownS (four_lt (csum S)) (four_length (csum S)).symm hof)
      have HI6:=Lib.hid (HI5.out.below hbf)
      have HS6:=Lib.hid (HS5.out.below hbf)
      have HK6:=Lib.hid (fun D=>(HK5.out D).trans (keeps_below (D:=D) hbf))
      have HR6:=HR5
      clear hof hbf HI5 HS5 HK5 HR5
      refine hK.out _ _ trivial (fun _=>?_)
      clear hK K
      simp only [Act.put,List.setIfInBounds_toArray,List.set_cons_zero,List.set_cons_succ,List.getElem_toArray,List.getElem_cons_zero,List.getElem_cons_succ]
      refine wpAnyH_ready (rs:=[4]) (by kernel_rfl) (by simp) ?_
      refine AllReadyH.cons (o:=_) rfl (fun K hK=>?_) AllReadyH.nil
      simp only [List.getElem_toArray,List.getElem_cons_zero,List.getElem_cons_succ]
      rw [if_pos (by rfl)]
      refine wp_append_near (.tmp 30) (.tmp 33) rfl w.heap.size (.slice sp4 n4 c4) (hdP B k++four q).length (hdP B k++four q) rfl HI6.out.oh _ (four (csum S)) rfl HF6.out (by rw [List.length_append,hdP_length,four_length,four_length];omega) HI6.out.szb ?_
      intro h7 Y7 ho hg hnr
      obtain ⟨sp7,c7,he,_,_⟩:=ownsRow_slice ho
      obtain ⟨n7,hnn⟩:∃ n,(hdP B k++four q).length+(four (csum S)).length=n:=⟨_,rfl⟩
      rw [hnn] at he
      subst he
      clear hnn
      refine hK.out _ _ trivial (fun _=>?_)
      clear hK K
      simp only [Act.put,List.setIfInBounds_toArray,List.set_cons_zero,List.set_cons_succ,List.getElem_toArray,List.getElem_cons_zero,List.getElem_cons_succ]
      have hc0:=HI6.out.ch.grown hg (blk_own_ne HI6.out.oh HI6.out.ch (by decide))
      have ch:=hc0.cell (o:=0) rfl
      have cf:=hc0.frozen 0
      refine wpAnyH_ready (rs:=[5]) (by kernel_rfl) (by simp) ?_
      refine AllReadyH.cons (o:=_) rfl (fun K hK=>?_) AllReadyH.nil
      simp only [List.getElem_toArray,List.getElem_cons_zero,List.getElem_cons_succ]
      go_simp
      clear ch cf hc0
      obtain ⟨hp,hkk⟩:=HI6.out.head ho hg hnr
      obtain ⟨hss,hff⟩:=HI6.out.head_st HS6.out HR6.out hg hnr
      have HI7:=Lib.hid hp
      have HS7:=Lib.hid hss
      have HR7:=Lib.hid hff
      have HK7:=Lib.hid (fun D=>(HK6.out D).trans (hkk D))
      generalize Y7.setCell ⟨w1.heap.size,0,none⟩ (.slice sp7 n7 c7)=X7 at*
      clear hp hkk hss hff ho hg hnr HI6 HS6 HK6 HR6 HF6
      refine hK.out _ _ trivial (fun _=>?_)
      clear hK K
      simp only [Act.put,List.setIfInBounds_toArray,List.set_cons_zero,List.set_cons_succ,List.getElem_toArray,List.getElem_cons_zero,List.getElem_cons_succ]
      refine wpAnyH_done (by kernel_rfl) ?_ _
      refine OnlyN.normal ?_
     rotate_left
     focus
      simp only [List.getElem_toArray,List.getElem_cons_zero,List.getElem_cons_succ]
      go_simp
      refine (four_nat _ (csum S) _ rfl).mono ?_
      rintro e X6 ⟨spf,capf,rfl,hof,hbf⟩
      rw [four_length] at hof ⊢
      have HF6:=Lib.hid (isBytes_ownS (four_lt (csum S)) (four_length (csum S)).symm hof)
      have HI6:=Lib.hid (HI5.out.below hbf)
      have HS6:=Lib.hid (HS5.out.below hbf)
      have HK6:=Lib.hid (fun D=>(HK5.out D).trans (keeps_below (D:=D) hbf))
      have HR6:=HR5
      clear hof hbf HI5 HS5 HK5 HR5
      refine hK.out _ _ trivial (fun _=>?_)
      clear hK K
      simp only [Act.put,List.setIfInBounds_toArray,List.set_cons_zero,List.set_cons_succ,List.getElem_toArray,List.getElem_cons_zero,List.getElem_cons_succ]
      refine wpAnyH_ready (rs:=[0]) (by kernel_rfl) (by simp) ?_
      refine AllReadyH.cons (o:=_) rfl (fun K hK=>?_) AllReadyH.nil
      have ch:=HI6.out.ch.cell (o:=0) rfl
      simp only [List.getElem_toArray,List.getElem_cons_zero,List.getElem_cons_succ]
      go_simp
      clear ch
      refine hK.out _ _ trivial (fun _=>?_)
      clear hK K
      simp only [Act.put,List.setIfInBounds_toArray,List.set_cons_zero,List.set_cons_succ,List.getElem_toArray,List.getElem_cons_zero,List.getElem_cons_succ]
      refine wpAnyH_ready (rs:=[4]) (by kernel_rfl) (by simp) ?_
      refine AllReadyH.cons (o:=_) rfl (fun K hK=>?_) AllReadyH.nil
      simp only [List.getElem_toArray,List.getElem_cons_zero,List.getElem_cons_succ]
      rw [if_pos (by rfl)]
      refine wp_append_near (.tmp 30) (.tmp 33) rfl w.heap.size (.slice sp4 n4 c4) (hdP B k++four q).length (hdP B k++four q) rfl HI6.out.oh _ (four (csum S)) rfl HF6.out (by rw [List.length_append,hdP_length,four_length,four_length];omega) HI6.out.szb ?_
      intro h7 Y7 ho hg hnr
      obtain ⟨sp7,c7,he,_,_⟩:=ownsRow_slice ho
      obtain ⟨n7,hnn⟩:∃ n,(hdP B k++four q).length+(four (csum S)).length=n:=⟨_,rfl⟩
      rw [hnn] at he
      subst he
      clear hnn
      refine hK.out _ _ trivial (fun _=>?_)
      clear hK K
      simp only [Act.put,List.setIfInBounds_toArray,List.set_cons_zero,List.set_cons_succ,List.getElem_toArray,List.getElem_cons_zero,List.getElem_cons_succ]
      have hc0:=HI6.out.ch.grown hg (blk_own_ne HI6.out.oh HI6.out.ch (by decide))
      have ch:=hc0.cell (o:=0) rfl
      have cf:=hc0.frozen 0
      refine wpAnyH_ready (rs:=[5]) (by kernel_rfl) (by simp) ?_
      refine AllReadyH.cons (o:=_) rfl (fun K hK=>?_) AllReadyH.nil
      simp only [List.getElem_toArray,List.getElem_cons_zero,List.getElem_cons_succ]
      go_simp
      clear ch cf hc0
      obtain ⟨hp,hkk⟩:=HI6.out.head ho hg hnr
      obtain ⟨hss,hff⟩:=HI6.out.head_st HS6.out HR6.out hg hnr
      have HI7:=Lib.hid hp
      have HS7:=Lib.hid hss
      have HR7:=Lib.hid hff
      have HK7:=Lib.hid (fun D=>(HK6.out D).trans (hkk D))
      generalize Y7.setCell ⟨w1.heap.size,0,none⟩ (.slice sp7 n7 c7)=X7 at*
      clear hp hkk hss hff ho hg hnr HI6 HS6 HK6 HR6 HF6
      refine hK.out _ _ trivial (fun _=>?_)
      clear hK K
      simp only [Act.put,List.setIfInBounds_toArray,List.set_cons_zero,List.set_cons_succ,List.getElem_toArray,List.getElem_cons_zero,List.getElem_cons_succ]
      refine wpAnyH_done (by kernel_rfl) ?_ _
      refine OnlyN.normal ?_)
   all_goals (
    have cb0:=HI7.out.cb.cell (o:=0) rfl
    clear HT HV HI0 HM HB1 hltz hlt
    gi_wp2_with (gi_at_builtin;refine wpListIn_append_near rfl (.tmp 35) (.tmp 36) rfl w.heap.size bv (bodP B k).length (bodP B k) rfl HI7.out.ob _ S rfl HS7.out (by rw [HSL.out];exact hbl) HI7.out.szb ?_;intro h8 Y8 ho hg hnr;obtain ⟨sp8,c8,he,_,_⟩:=ownsRow_slice ho;obtain ⟨n8,hnn⟩:∃ n,(bodP B k).length+S.length=n:=⟨_,rfl⟩;rw [hnn] at he;subst he;clear hnn;have hc0:=HI7.out.cb.grown hg (blk_own_ne HI7.out.ob HI7.out.cb (by decide));have cb1:=hc0.cell (o:=0) rfl;have cb2:=hc0.frozen 0;have HO8:=Lib.hid ho;have HG8:=Lib.hid hg;have HN8:=Lib.hid hnr;clear ho hg hnr hc0)
    obtain ⟨hp,hkk⟩:=HI7.out.body HO8.out HG8.out HN8.out
    exact ⟨(HK7.out _).trans (hkk _),_,_,by rw [hdP_succ,bodP,HSS.out,HSL.out];exact hp⟩)
  ·have hltz:¬ (q:Int)<(m:Int):=by omega
   obtain ⟨S,hS⟩:∃ S,stB (chk B k)=S:=⟨_,rfl⟩
   have hSe:S=chk B k:=by rw [← hS];unfold stB;rw [if_neg (by rw [HM.out,← hn];exact hlt)]
   have HS1:Hid (IsBytes X1 (.slice pa m m) S):=Lib.hid (by rw [hSe];exact HP1.out)
   have HSL:Hid (S.length=m):=Lib.hid (by rw [hSe,HM.out])
   have HSS:=Lib.hid hS
   have HR1:Hid (FarS hv bv (.slice pa m m) S):=Lib.hid (by rw [hSe];exact HFR.out)
   have hq32:IntKind.u32.wrap (m:Int)=(m:Int):=by rw [IntKind.wrap_u32'];omega
   have hbl:(bodP B k).length+m≤4294967296:=by have:=hbl0.out;omega
   clear hS hSe hi1 hb1 HP1 HP hn HFR hgW HI
   gi_wp2_with fail
   refine region_round (S:=fun _=>True) (k:=7) (ls:=#[false,false,false,false,false,false,false]) (by kernel_rfl) (by kernel_rfl) (by kernel_rfl) (by kernel_rfl) ?_
   have HI2:=Lib.hid (PkS.drew1 HI1.out)
   have HS2:Hid (IsBytes X1.drew _ S):=HS1
   have HR2:=HR1
   have HK2:=Lib.hid (fun D=>(HK1.out D).trans ((KeepsOthers.drew X1).from D))
   generalize X1.drew=X2 at*
   clear HI1 HS1 HK1 HR1
   refine wpAnyH_take (i:=1) (oi:=_) (v:=?_) rfl (by kernel_rfl) (by kernel_rfl) (by kernel_rfl) (fun _ _ _ h=>h) (Or.inl ⟨by rfl,?_⟩) trivial ?_
   rotate_left
   ·intro wq hSw;go_simp;try with_reducible rfl
   simp only [Act.put,List.setIfInBounds_toArray,List.set_cons_zero,List.set_cons_succ,List.getElem_toArray,List.getElem_cons_zero,List.getElem_cons_succ]
   refine wpAnyH_take (i:=2) (oi:=_) (v:=?_) rfl (by kernel_rfl) (by kernel_rfl) (by kernel_rfl) (fun _ _ _ h=>h) (Or.inl ⟨by rfl,?_⟩) trivial ?_
   rotate_left
   ·intro wq hSw;go_simp;try with_reducible rfl
   simp only [Act.put,List.setIfInBounds_toArray,List.set_cons_zero,List.set_cons_succ,List.getElem_toArray,List.getElem_cons_zero,List.getElem_cons_succ]
   refine wpAnyH_take (i:=3) (oi:=_) (v:=?_) rfl (by kernel_rfl) (by kernel_rfl) (by kernel_rfl) (fun _ _ _ h=>h) (Or.inl ⟨by rfl,?_⟩) trivial ?_
   rotate_left
   ·intro wq hSw;go_simp;try with_reducible rfl
   simp only [Act.put,List.setIfInBounds_toArray,List.set_cons_zero,List.set_cons_succ,List.getElem_toArray,List.getElem_cons_zero,List.getElem_cons_succ]
   refine wpAnyH_ready (rs:=[0,4]) (by kernel_rfl) (by simp) ?_
   refine AllReadyH.cons (o:=_) rfl (fun K hK=>?_) (AllReadyH.cons (o:=_) rfl (fun K hK=>?_) AllReadyH.nil)
   focus
    have ch:=HI2.out.ch.cell (o:=0) rfl
    simp only [List.getElem_toArray,List.getElem_cons_zero,List.getElem_cons_succ]
    go_simp
    clear ch
    refine hK.out _ _ trivial (fun _=>?_)
    clear hK K
    simp only [Act.put,List.setIfInBounds_toArray,List.set_cons_zero,List.set_cons_succ,List.getElem_toArray,List.getElem_cons_zero,List.getElem_cons_succ]
    refine wpAnyH_ready (rs:=[4]) (by kernel_rfl) (by simp) ?_
    refine AllReadyH.cons (o:=_) rfl (fun K hK=>?_) AllReadyH.nil
    simp only [List.getElem_toArray,List.getElem_cons_zero,List.getElem_cons_succ]
    go_simp
    refine (four_nat _ (m) _ rfl).mono ?_
    rintro e X3 ⟨spf,capf,rfl,hof,hbf⟩
    rw [four_length] at hof ⊢
    have HF3:=Lib.hid (isBytes_ownS (four_lt (m)) (four_length (m)).symm hof)
    have HI3:=Lib.hid (HI2.out.below hbf)
    have HS3:=Lib.hid (HS2.out.below hbf)
    have HK3:=Lib.hid (fun D=>(HK2.out D).trans (keeps_below (D:=D) hbf))
    have HR3:=HR2
    clear hof hbf HI2 HS2 HK2 HR2
    refine hK.out _ _ trivial (fun _=>?_)
    clear hK K
    simp only [Act.put,List.setIfInBounds_toArray,List.set_cons_zero,List.set_cons_succ,List.getElem_toArray,List.getElem_cons_zero,List.getElem_cons_succ]
    refine wpAnyH_ready (rs:=[5]) (by kernel_rfl) (by simp) ?_
    refine AllReadyH.cons (o:=_) rfl (fun K hK=>?_) AllReadyH.nil
    simp only [List.getElem_toArray,List.getElem_cons_zero,List.getElem_cons_succ]
    rw [if_pos (by rfl)]
    refine wp_append_near (.tmp 24) (.tmp 28) rfl w.heap.size hv (hdP B k).length (hdP B k) rfl HI3.out.oh _ (four (m)) rfl HF3.out (by rw [hdP_length,four_length];omega) HI3.out.szb ?_
    intro h4 Y4 ho hg hnr
    obtain ⟨sp4,c4,he,_,_⟩:=ownsRow_slice ho
    obtain ⟨n4,hnn⟩:∃ n,(hdP B k).length+(four (m)).length=n:=⟨_,rfl⟩
    rw [hnn] at he
    subst he
    clear hnn
    refine hK.out _ _ trivial (fun _=>?_)
    clear hK K
    simp only [Act.put,List.setIfInBounds_toArray,List.set_cons_zero,List.set_cons_succ,List.getElem_toArray,List.getElem_cons_zero,List.getElem_cons_succ]
    have hc0:=HI3.out.ch.grown hg (blk_own_ne HI3.out.oh HI3.out.ch (by decide))
    have ch:=hc0.cell (o:=0) rfl
    have cf:=hc0.frozen 0
    refine wpAnyH_ready (rs:=[6]) (by kernel_rfl) (by simp) ?_
    refine AllReadyH.cons (o:=_) rfl (fun K hK=>?_) AllReadyH.nil
    simp only [List.getElem_toArray,List.getElem_cons_zero,List.getElem_cons_succ]
    go_simp
    clear ch cf hc0
    obtain ⟨hp,hkk⟩:=HI3.out.head ho hg hnr
    obtain ⟨hss,hff⟩:=HI3.out.head_st HS3.out HR3.out hg hnr
    have HI4:=Lib.hid hp
    have HS4:=Lib.hid hss
    have HR4:=Lib.hid hff
    have HK4:=Lib.hid (fun D=>(HK3.out D).trans (hkk D))
    generalize Y4.setCell ⟨w1.heap.size,0,none⟩ (.slice sp4 n4 c4)=X4 at*
    clear hp hkk hss hff ho hg hnr HI3 HS3 HK3 HR3 HF3
    refine hK.out _ _ trivial (fun _=>?_)
    clear hK K
    simp only [Act.put,List.setIfInBounds_toArray,List.set_cons_zero,List.set_cons_succ,List.getElem_toArray,List.getElem_cons_zero,List.getElem_cons_succ]
    refine wpAnyH_done (by kernel_rfl) ?_ _
    refine OnlyN.normal ?_
   rotate_left
   focus
    simp only [List.getElem_toArray,List.getElem_cons_zero,List.getElem_cons_succ]
    go_simp
    refine (four_nat _ (m) _ rfl).mono ?_
    rintro e X3 ⟨spf,capf,rfl,hof,hbf⟩
    rw [four_length] at hof ⊢
    have HF3:=Lib.hid (isBytes_ownS (four_lt (m)) (four_length (m)).symm hof)
    have HI3:=Lib.hid (HI2.out.below hbf)
    have HS3:=Lib.hid (HS2.out.below hbf)
    have HK3:=Lib.hid (fun D=>(HK2.out D).trans (keeps_below (D:=D) hbf))
    have HR3:=HR2
    clear hof hbf HI2 HS2 HK2 HR2
    refine hK.out _ _ trivial (fun _=>?_)
    clear hK K
    simp only [Act.put,List.setIfInBounds_toArray,List.set_cons_zero,List.set_cons_succ,List.getElem_toArray,List.getElem_cons_zero,List.getElem_cons_succ]
    refine wpAnyH_ready (rs:=[0]) (by kernel_rfl) (by simp) ?_
    refine AllReadyH.cons (o:=_) rfl (fun K hK=>?_) AllReadyH.nil
    have ch:=HI3.out.ch.cell (o:=0) rfl
    simp only [List.getElem_toArray,List.getElem_cons_zero,List.getElem_cons_succ]
    go_simp
    clear ch
    refine hK.out _ _ trivial (fun _=>?_)
    clear hK K
    simp only [Act.put,List.setIfInBounds_toArray,List.set_cons_zero,List.set_cons_succ,List.getElem_toArray,List.getElem_cons_zero,List.getElem_cons_succ]
    refine wpAnyH_ready (rs:=[5]) (by kernel_rfl) (by simp) ?_
    refine AllReadyH.cons (o:=_) rfl (fun K hK=>?_) AllReadyH.nil
    simp only [List.getElem_toArray,List.getElem_cons_zero,List.getElem_cons_succ]
    rw [if_pos (by rfl)]
    refine wp_append_near (.tmp 24) (.tmp 28) rfl w.heap.size hv (hdP B k).length (hdP B k) rfl HI3.out.oh _ (four (m)) rfl HF3.out (by rw [hdP_length,four_length];omega) HI3.out.szb ?_
    intro h4 Y4 ho hg hnr
    obtain ⟨sp4,c4,he,_,_⟩:=ownsRow_slice ho
    obtain ⟨n4,hnn⟩:∃ n,(hdP B k).length+(four (m)).length=n:=⟨_,rfl⟩
    rw [hnn] at he
    subst he
    clear hnn
    refine hK.out _ _ trivial (fun _=>?_)
    clear hK K
    simp only [Act.put,List.setIfInBounds_toArray,List.set_cons_zero,List.set_cons_succ,List.getElem_toArray,List.getElem_cons_zero,List.getElem_cons_succ]
    have hc0:=HI3.out.ch.grown hg (blk_own_ne HI3.out.oh HI3.out.ch (by decide))
    have ch:=hc0.cell (o:=0) rfl
    have cf:=hc0.frozen 0
    refine wpAnyH_ready (rs:=[6]) (by kernel_rfl) (by simp) ?_
    refine AllReadyH.cons (o:=_) rfl (fun K hK=>?_) AllReadyH.nil
    simp only [List.getElem_toArray,List.getElem_cons_zero,List.getElem_cons_succ]
    go_simp
    clear ch cf hc0
    obtain ⟨hp,hkk⟩:=HI3.out.head ho hg hnr
    obtain ⟨hss,hff⟩:=HI3.out.head_st HS3.out HR3.out hg hnr
    have HI4:=Lib.hid hp
    have HS4:=Lib.hid hss
    have HR4:=Lib.hid hff
    have HK4:=Lib.hid (fun D=>(HK3.out D).trans (hkk D))
    generalize Y4.setCell ⟨w1.heap.size,0,none⟩ (.slice sp4 n4 c4)=X4 at*
    clear hp hkk hss hff ho hg hnr HI3 HS3 HK3 HR3 HF3
    refine hK.out _ _ trivial (fun _=>?_)
    clear hK K
    simp only [Act.put,List.setIfInBounds_toArray,List.set_cons_zero,List.set_cons_succ,List.getElem_toArray,List.getElem_cons_zero,List.getElem_cons_succ]
    refine wpAnyH_done (by kernel_rfl) ?_ _
    refine OnlyN.normal ?_
   all_goals (
    gi_wp2_with fail
    refine region_round (S:=fun _=>True) (k:=6) (ls:=#[false,false,false,false,false,false]) (by kernel_rfl) (by kernel_rfl) (by kernel_rfl) (by kernel_rfl) ?_
    have HI5:=Lib.hid (PkS.drew1 HI4.out)
    have HS5:Hid (IsBytes X4.drew _ S):=HS4
    have HR5:=HR4
    have HK5:=Lib.hid (fun D=>(HK4.out D).trans ((KeepsOthers.drew X4).from D))
    generalize X4.drew=X5 at*
    clear HI4 HS4 HK4 HR4
    refine wpAnyH_take (i:=1) (oi:=_) (v:=?_) rfl (by kernel_rfl) (by kernel_rfl) (by kernel_rfl) (fun _ _ _ h=>h) (Or.inl ⟨by rfl,?_⟩) trivial ?_
    rotate_left
    ·intro wq hSw;go_simp;try with_reducible rfl
    simp only [Act.put,List.setIfInBounds_toArray,List.set_cons_zero,List.set_cons_succ,List.getElem_toArray,List.getElem_cons_zero,List.getElem_cons_succ]
    refine wpAnyH_ready (rs:=[0,2]) (by kernel_rfl) (by simp) ?_
    refine AllReadyH.cons (o:=_) rfl (fun K hK=>?_) (AllReadyH.cons (o:=_) rfl (fun K hK=>?_) AllReadyH.nil)
    focus
     have ch:=HI5.out.ch.cell (o:=0) rfl
     simp only [List.getElem_toArray,List.getElem_cons_zero,List.getElem_cons_succ]
     go_simp
     clear ch
     refine hK.out _ _ trivial (fun _=>?_)
     clear hK K
     simp only [Act.put,List.setIfInBounds_toArray,List.set_cons_zero,List.set_cons_succ,List.getElem_toArray,List.getElem_cons_zero,List.getElem_cons_succ]
     refine wpAnyH_ready (rs:=[2]) (by kernel_rfl) (by simp) ?_
     refine AllReadyH.cons (o:=_) rfl (fun K hK=>?_) AllReadyH.nil
     simp only [List.getElem_toArray,List.getElem_cons_zero,List.getElem_cons_succ]
     go_simp
     refine (sum_any _ S _ (HT.out.below HI5.out.bel) HS5.out).mono ?_
     rintro e Z5 ⟨rfl,rfl⟩
     refine hK.out _ _ trivial (fun _=>?_)
     clear hK K
     simp only [Act.put,List.setIfInBounds_toArray,List.set_cons_zero,List.set_cons_succ,List.getElem_toArray,List.getElem_cons_zero,List.getElem_cons_succ]
     refine wpAnyH_ready (rs:=[3]) (by kernel_rfl) (by simp) ?_
     refine AllReadyH.cons (o:=_) rfl (fun K hK=>?_) AllReadyH.nil
     simp only [List.getElem_toArray,List.getElem_cons_zero,List.getElem_cons_succ]
     go_simp
     refine (four_nat _ (csum S) _ rfl).mono ?_
     rintro e X6 ⟨spf,capf,rfl,hof,hbf⟩
     rw [four_length] at hof ⊢
     have HF6:=Lib.hid (isBytes_ownS (four_lt (csum S)) (four_length (csum S)).symm hof)
     have HI6:=Lib.hid (HI5.out.below hbf)
     have HS6:=Lib.hid (HS5.out.below hbf)
     have HK6:=Lib.hid (fun D=>(HK5.out D).trans (keeps_below (D:=D) hbf))
     have HR6:=HR5
     clear hof hbf HI5 HS5 HK5 HR5
     refine hK.out _ _ trivial (fun _=>?_)
     clear hK K
     simp only [Act.put,List.setIfInBounds_toArray,List.set_cons_zero,List.set_cons_succ,List.getElem_toArray,List.getElem_cons_zero,List.getElem_cons_succ]
     refine wpAnyH_ready (rs:=[4]) (by kernel_rfl) (by simp) ?_
     refine AllReadyH.cons (o:=_) rfl (fun K hK=>?_) AllReadyH.nil
     simp only [List.getElem_toArray,List.getElem_cons_zero,List.getElem_cons_succ]
     rw [if_pos (by rfl)]
     refine wp_append_near (.tmp 30) (.tmp 33) rfl w.heap.size (.slice sp4 n4 c4) (hdP B k++four m).length (hdP B k++four m) rfl HI6.out.oh _ (four (csum S)) rfl HF6.out (by rw [List.length_append,hdP_length,four_length,four_length];omega) HI6.out.szb ?_
     intro h7 Y7 ho hg hnr
     obtain ⟨sp7,c7,he,_,_⟩:=ownsRow_slice ho
     obtain ⟨n7,hnn⟩:∃ n,(hdP B k++four m).length+(four (csum S)).length=n:=⟨_,rfl⟩
     rw [hnn] at he
     subst he
     clear hnn
     refine hK.out _ _ trivial (fun _=>?_)
     clear hK K
     simp only [Act.put,List.setIfInBounds_toArray,List.set_cons_zero,List.set_cons_succ,List.getElem_toArray,List.getElem_cons_zero,List.getElem_cons_succ]
     have hc0:=HI6.out.ch.grown hg (blk_own_ne HI6.out.oh HI6.out.ch (by decide))
     have ch:=hc0.cell (o:=0) rfl
     have cf:=hc0.frozen 0
     refine wpAnyH_ready (rs:=[5]) (by kernel_rfl) (by simp) ?_
     refine AllReadyH.cons (o:=_) rfl (fun K hK=>?_) AllReadyH.nil
     simp only [List.getElem_toArray,List.getElem_cons_zero,List.getElem_cons_succ]
     go_simp
     clear ch cf hc0
     obtain ⟨hp,hkk⟩:=HI6.out.head ho hg hnr
     obtain ⟨hss,hff⟩:=HI6.out.head_st HS6.out HR6.out hg hnr
     have HI7:=Lib.hid hp
     have HS7:=Lib.hid hss
     have HR7:=Lib.hid hff
     have HK7:=Lib.hid (fun D=>(HK6.out D).trans (hkk D))
     generalize Y7.setCell ⟨w1.heap.size,0,none⟩ (.slice sp7 n7 c7)=X7 at*
     clear hp hkk hss hff ho hg hnr HI6 HS6 HK6 HR6 HF6
     refine hK.out _ _ trivial (fun _=>?_)
     clear hK K
     simp only [Act.put,List.setIfInBounds_toArray,List.set_cons_zero,List.set_cons_succ,List.getElem_toArray,List.getElem_cons_zero,List.getElem_cons_succ]
     refine wpAnyH_done (by kernel_rfl) ?_ _
     refine OnlyN.normal ?_
    rotate_left
    focus
     simp only [List.getElem_toArray,List.getElem_cons_zero,List.getElem_cons_succ]
     go_simp
     refine (sum_any _ S _ (HT.out.below HI5.out.bel) HS5.out).mono ?_
     rintro e Z5 ⟨rfl,rfl⟩
     refine hK.out _ _ trivial (fun _=>?_)
     clear hK K
     simp only [Act.put,List.setIfInBounds_toArray,List.set_cons_zero,List.set_cons_succ,List.getElem_toArray,List.getElem_cons_zero,List.getElem_cons_succ]
     refine wpAnyH_ready (rs:=[0,3]) (by kernel_rfl) (by simp) ?_
     refine AllReadyH.cons (o:=_) rfl (fun K hK=>?_) (AllReadyH.cons (o:=_) rfl (fun K hK=>?_) AllReadyH.nil)
     focus
      have ch:=HI5.out.ch.cell (o:=0) rfl
      simp only [List.getElem_toArray,List.getElem_cons_zero,List.getElem_cons_succ]
      go_simp
      clear ch
      refine hK.out _ _ trivial (fun _=>?_)
      clear hK K
      simp only [Act.put,List.setIfInBounds_toArray,List.set_cons_zero,List.set_cons_succ,List.getElem_toArray,List.getElem_cons_zero,List.getElem_cons_succ]
      refine wpAnyH_ready (rs:=[3]) (by kernel_rfl) (by simp) ?_
      refine AllReadyH.cons (o:=_) rfl (fun K hK=>?_) AllReadyH.nil
      simp only [List.getElem_toArray,List.getElem_cons_zero,List.getElem_cons_succ]
      go_simp
      refine (four_nat _ (csum S) _ rfl).mono ?_
      rintro e X6 ⟨spf,capf,rfl,hof,hbf⟩
      rw [four_length] at hof ⊢
      have HF6:=Lib.hid (isBytes_ownS (four_lt (csum S)) (four_length (csum S)).symm hof)
      have HI6:=Lib.hid (HI5.out.below hbf)
      have HS6:=Lib.hid (HS5.out.below hbf)
      have HK6:=Lib.hid (fun D=>(HK5.out D).trans (keeps_below (D:=D) hbf))
      have HR6:=HR5
      clear hof hbf HI5 HS5 HK5 HR5
      refine hK.out _ _ trivial (fun _=>?_)
      clear hK K
      simp only [Act.put,List.setIfInBounds_toArray,List.set_cons_zero,List.set_cons_succ,List.getElem_toArray,List.getElem_cons_zero,List.getElem_cons_succ]
      refine wpAnyH_ready (rs:=[4]) (by kernel_rfl) (by simp) ?_
      refine AllReadyH.cons (o:=_) rfl (fun K hK=>?_) AllReadyH.nil
      simp only [List.getElem_toArray,List.getElem_cons_zero,List.getElem_cons_succ]
      rw [if_pos (by rfl)]
      refine wp_append_near (.tmp 30) (.tmp 33) rfl w.heap.size (.slice sp4 n4 c4) (hdP B k++four m).length (hdP B k++four m) rfl HI6.out.oh _ (four (csum S)) rfl HF6.out (by rw [List.length_append,hdP_length,four_length,four_length];omega) HI6.out.szb ?_
      intro h7 Y7 ho hg hnr
      obtain ⟨sp7,c7,he,_,_⟩:=ownsRow_slice ho
      obtain ⟨n7,hnn⟩:∃ n,(hdP B k++four m).length+(four (csum S)).length=n:=⟨_,rfl⟩
      rw [hnn] at he
      subst he
      clear hnn
      refine hK.out _ _ trivial (fun _=>?_)
      clear hK K
      simp only [Act.put,List.setIfInBounds_toArray,List.set_cons_zero,List.set_cons_succ,List.getElem_toArray,List.getElem_cons_zero,List.getElem_cons_succ]
      have hc0:=HI6.out.ch.grown hg (blk_own_ne HI6.out.oh HI6.out.ch (by decide))
      have ch:=hc0.cell (o:=0) rfl
      have cf:=hc0.frozen 0
      refine wpAnyH_ready (rs:=[5]) (by kernel_rfl) (by simp) ?_
      refine AllReadyH.cons (o:=_) rfl (fun K hK=>?_) AllReadyH.nil
      simp only [List.getElem_toArray,List.getElem_cons_zero,List.getElem_cons_succ]
      go_simp
      clear ch cf hc0
      obtain ⟨hp,hkk⟩:=HI6.out.head ho hg hnr
      obtain ⟨hss,hff⟩:=HI6.out.head_st HS6.out HR6.out hg hnr
      have HI7:=Lib.hid hp
      have HS7:=Lib.hid hss
      have HR7:=Lib.hid hff
      have HK7:=Lib.hid (fun D=>(HK6.out D).trans (hkk D))
      generalize Y7.setCell ⟨w1.heap.size,0,none⟩ (.slice sp7 n7 c7)=X7 at*
      clear hp hkk hss hff ho hg hnr HI6 HS6 HK6 HR6 HF6
      refine hK.out _ _ trivial (fun _=>?_)
      clear hK K
      simp only [Act.put,List.setIfInBounds_toArray,List.set_cons_zero,List.set_cons_succ,List.getElem_toArray,List.getElem_cons_zero,List.getElem_cons_succ]
      refine wpAnyH_done (by kernel_rfl) ?_ _
      refine OnlyN.normal ?_
     rotate_left
     focus
      simp only [List.getElem_toArray,List.getElem_cons_zero,List.getElem_cons_succ]
      go_simp
      refine (four_nat _ (csum S) _ rfl).mono ?_
      rintro e X6 ⟨spf,capf,rfl,hof,hbf⟩
      rw [four_length] at hof ⊢
      have HF6:=Lib.hid (isBytes_ownS (four_lt (csum S)) (four_length (csum S)).symm hof)
      have HI6:=Lib.hid (HI5.out.below hbf)
      have HS6:=Lib.hid (HS5.out.below hbf)
      have HK6:=Lib.hid (fun D=>(HK5.out D).trans (keeps_below (D:=D) hbf))
      have HR6:=HR5
      clear hof hbf HI5 HS5 HK5 HR5
      refine hK.out _ _ trivial (fun _=>?_)
      clear hK K
      simp only [Act.put,List.setIfInBounds_toArray,List.set_cons_zero,List.set_cons_succ,List.getElem_toArray,List.getElem_cons_zero,List.getElem_cons_succ]
      refine wpAnyH_ready (rs:=[0]) (by kernel_rfl) (by simp) ?_
      refine AllReadyH.cons (o:=_) rfl (fun K hK=>?_) AllReadyH.nil
      have ch:=HI6.out.ch.cell (o:=0) rfl
      simp only [List.getElem_toArray,List.getElem_cons_zero,List.getElem_cons_succ]
      go_simp
      clear ch
      refine hK.out _ _ trivial (fun _=>?_)
      clear hK K
      simp only [Act.put,List.setIfInBounds_toArray,List.set_cons_zero,List.set_cons_succ,List.getElem_toArray,List.getElem_cons_zero,List.getElem_cons_succ]
      refine wpAnyH_ready (rs:=[4]) (by kernel_rfl) (by simp) ?_
      refine AllReadyH.cons (o:=_) rfl (fun K hK=>?_) AllReadyH.nil
      simp only [List.getElem_toArray,List.getElem_cons_zero,List.getElem_cons_succ]
      rw [if_pos (by rfl)]
      refine wp_append_near (.tmp 30) (.tmp 33) rfl w.heap.size (.slice sp4 n4 c4) (hdP B k++four m).length (hdP B k++four m) rfl HI6.out.oh _ (four (csum S)) rfl HF6.out (by rw [List.length_append,hdP_length,four_length,four_length];omega) HI6.out.szb ?_
      intro h7 Y7 ho hg hnr
      obtain ⟨sp7,c7,he,_,_⟩:=ownsRow_slice ho
      obtain ⟨n7,hnn⟩:∃ n,(hdP B k++four m).length+(four (csum S)).length=n:=⟨_,rfl⟩
      rw [hnn] at he
      subst he
      clear hnn
      refine hK.out _ _ trivial (fun _=>?_)
      clear hK K
      simp only [Act.put,List.setIfInBounds_toArray,List.set_cons_zero,List.set_cons_succ,List.getElem_toArray,List.getElem_cons_zero,List.getElem_cons_succ]
      have hc0:=HI6.out.ch.grown hg (blk_own_ne HI6.out.oh HI6.out.ch (by decide))
      have ch:=hc0.cell (o:=0) rfl
      have cf:=hc0.frozen 0
      refine wpAnyH_ready (rs:=[5]) (by kernel_rfl) (by simp) ?_
      refine AllReadyH.cons (o:=_) rfl (fun K hK=>?_) AllReadyH.nil
      simp only [List.getElem_toArray,List.getElem_cons_zero,List.getElem_cons_succ]
      go_simp
      clear ch cf hc0
      obtain ⟨hp,hkk⟩:=HI6.out.head ho hg hnr
      obtain ⟨hss,hff⟩:=HI6.out.head_st HS6.out HR6.out hg hnr
      have HI7:=Lib.hid hp
      have HS7:=Lib.hid hss
      have HR7:=Lib.hid hff
      have HK7:=Lib.hid (fun D=>(HK6.out D).trans (hkk D))
      generalize Y7.setCell ⟨w1.heap.size,0,none⟩ (.slice sp7 n7 c7)=X7 at*
      clear hp hkk hss hff ho hg hnr HI6 HS6 HK6 HR6 HF6
      refine hK.out _ _ trivial (fun _=>?_)
      clear hK K
      simp only [Act.put,List.setIfInBounds_toArray,List.set_cons_zero,List.set_cons_succ,List.getElem_toArray,List.getElem_cons_zero,List.getElem_cons_succ]
      refine wpAnyH_done (by kernel_rfl) ?_ _
      refine OnlyN.normal ?_)
   all_goals (
    have cb0:=HI7.out.cb.cell (o:=0) rfl
    clear HT HV HI0 HM HB1 hltz hlt
    gi_wp2_with (gi_at_builtin;refine wpListIn_append_near rfl (.tmp 35) (.tmp 36) rfl w.heap.size bv (bodP B k).length (bodP B k) rfl HI7.out.ob _ S rfl HS7.out (by rw [HSL.out];exact hbl) HI7.out.szb ?_;intro h8 Y8 ho hg hnr;obtain ⟨sp8,c8,he,_,_⟩:=ownsRow_slice ho;obtain ⟨n8,hnn⟩:∃ n,(bodP B k).length+S.length=n:=⟨_,rfl⟩;rw [hnn] at he;subst he;clear hnn;have hc0:=HI7.out.cb.grown hg (blk_own_ne HI7.out.ob HI7.out.cb (by decide));have cb1:=hc0.cell (o:=0) rfl;have cb2:=hc0.frozen 0;have HO8:=Lib.hid ho;have HG8:=Lib.hid hg;have HN8:=Lib.hid hnr;clear ho hg hnr hc0)
    obtain ⟨hp,hkk⟩:=HI7.out.body HO8.out HG8.out HN8.out
    exact ⟨(HK7.out _).trans (hkk _),_,_,by rw [hdP_succ,bodP,HSS.out,HSL.out];exact hp⟩)
end Go.Proofs.YtmjpnbadfmgimaaGreatDoor.S11

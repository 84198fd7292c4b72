/- Texts put together: ConD. -/
import Derived.Test.YtfggchmcjjpkeaaGreatDoorEg10
import Derived.Test.YtfggchmcjjpkeaaGreatDoorEg32
import Derived.Test.YtfggchmcjjpkeaaGreatDoorEg33
import Derived.Test.YtfggchmcjjpkeaaGreatDoorEg34
set_option linter.unusedSimpArgs false
set_option linter.unusedVariables false
set_option maxRecDepth 100000
namespace Go.Proofs.YtfggchmcjjpkeaaGreatDoor.S11
open Go.RowKit Go.Shelf Pl S3 S3.Pl
theorem blk_own_ne {w:World} {base b n:Nat} {e t:TypeId} {v:Value} {xs cs:List Value} (h:w.ownsRow base e 1 v n xs) (hb:Blk w b t cs) (ht:t ≠ e):some b ≠ v.ownBlock:=by
  intro he
  rcases h.2 with ⟨rfl,_⟩ | ⟨g,cap,cur,rfl,_,hh,_⟩
  · cases he
  · simp [Value.ownBlock] at he
    subst he
    unfold Blk at hb
    rw [hh] at hb
    simp at hb
    exact ht hb.2.symm
theorem own_keep {W W':World} {base n:Nat} {e:TypeId} {v:Value} {xs:List Value} {row:Option Nat} (h:W.ownsRow base e 1 v n xs) (hg:W.grownBy W' row) (hr:∀ r,row = some r → ∃ o:Obj,W.heap[r]? = some o ∧ o.isCells = false):W'.ownsRow base e 1 v n xs:=by
  refine h.kept hg ?_
  rcases h.2 with ⟨rfl,_⟩ | ⟨g,cap,cur,rfl,_,hh,_⟩
  · exact .inl rfl
  · refine .inr fun e'=>?_
    obtain ⟨o,ho,hc⟩:=hr g e'.symm
    rw [hh] at ho
    cases ho
    cases hc
theorem keeps_gr {D:Nat} {W W':World} {row:Option Nat} (hg:W.grownBy W' row) (hr:∀ r,row = some r → ∃ o:Obj,W.heap[r]? = some o ∧ o.isCells = true):KeepsFrom D W W':=by
  refine ⟨hg.size,fun k o hk ho hc=>?_⟩
  have hl:=(Array.getElem?_eq_some_iff.1 ho).1
  rw [hg.block k hl (fun e=>?_)]
  · exact ho
  · obtain ⟨o2,h2,h3⟩:=hr k e.symm
    rw [ho] at h2
    cases h2
    rw [hc] at h3
    cases h3
theorem keeps_below {D:Nat} {W W':World} (hb:Below W.heap.size W W'):KeepsFrom D W W':=
  keeps_gr (row:=none) ⟨hb.os,hb.tape,hb.output,hb.size,fun k hk _=>hb.block k hk⟩ (by simp)
theorem own_cells {W:World} {base n:Nat} {e:TypeId} {v:Value} {xs:List Value} (h:W.ownsRow base e 1 v n xs):∀ r,v.ownBlock = some r → ∃ o:Obj,W.heap[r]? = some o ∧ o.isCells = true:=by
  intro r hr
  rcases h.2 with ⟨rfl,_⟩ | ⟨g,cap,cur,rfl,_,hh,_⟩
  · cases hr
  · simp [Value.ownBlock] at hr
    subst hr
    exact ⟨_,hh,rfl⟩
structure PkS (b0 gh gb Bs:Nat) (sv:Value) (w:World) (hv bv:Value) (A M:List Nat) (W:World):Prop where
  ch:Blk W gh 22 [hv]
  oh:W.ownsRow b0 5 1 hv A.length (u8s A)
  cb:Blk W gb 22 [bv]
  ob:W.ownsRow b0 5 1 bv M.length (u8s M)
  ne:∀ g,hv.ownBlock = some g → bv.ownBlock ≠ some g
  sl:Blk W Bs 22 [sv]
  nn:Blk W (Bs + 1) 3 [.int .i64 1000]
  bel:Below b0 w W
  d1:gh ≠ gb
  d2:Bs ≠ gh
  d3:Bs ≠ gb
  l1:b0 ≤ gh
  l2:b0 ≤ gb
section
variable {b0 gh gb Bs:Nat} {sv:Value} {w:World} {hv bv:Value} {A M:List Nat} {W W':World}
theorem PkS.below (h:PkS b0 gh gb Bs sv w hv bv A M W) (hb:Below W.heap.size W W'):PkS b0 gh gb Bs sv w hv bv A M W':=
  ⟨h.ch.below hb h.ch.lt,own_below h.oh hb,h.cb.below hb h.cb.lt,own_below h.ob hb,h.ne,h.sl.below hb h.sl.lt,h.nn.below hb h.nn.lt,h.bel.trans (hb.mono (Nat.le_trans h.l1 (Nat.le_of_lt h.ch.lt))),h.d1,h.d2,h.d3,h.l1,h.l2⟩
theorem PkS.drew (h:PkS b0 gh gb Bs sv w hv bv A M W) (q:Nat):PkS b0 gh gb Bs sv w hv bv A M (W.drewN q):=
  ⟨h.ch,h.oh,h.cb,h.ob,h.ne,h.sl,h.nn,bel_drewN h.bel q,h.d1,h.d2,h.d3,h.l1,h.l2⟩
theorem PkS.head (h:PkS b0 gh gb Bs sv w hv bv A M W) {v:Value} {F:List Nat} (ho:W'.ownsRow b0 5 1 v (A.length + F.length) (u8s (A ++ F))) (hg:W.grownBy W' hv.ownBlock) (hn:Near W hv v) :
    PkS b0 gh gb Bs sv w v bv (A ++ F) M (W'.setCell ⟨gh,0,none⟩ v) ∧ ∀ D,KeepsFrom D W (W'.setCell ⟨gh,0,none⟩ v):=by
  have hch:=h.ch.grown hg (blk_own_ne h.oh h.ch (by decide))
  have hcb:=h.cb.grown hg (blk_own_ne h.oh h.cb (by decide))
  have hsl:=h.sl.grown hg (blk_own_ne h.oh h.sl (by decide))
  have hnn:=h.nn.grown hg (blk_own_ne h.oh h.nn (by decide))
  have hob:=own_kept h.ob hg (fun g hg' e=>h.ne g e hg')
  have hG:Gr W' (W'.setCell ⟨gh,0,none⟩ v) gh:=(Gr.refl W' gh).setCell 0 v
  have hbel:=h.bel.grown hg (Nat.le_trans h.l1 (Nat.le_of_lt h.ch.lt)) (own_lt h.oh)
  refine ⟨⟨hch.set 0 v,by rw [List.length_append];exact own_gr ho hG hch (by decide),hcb.setOther (fun e=>h.d1 e.symm) v,own_gr hob hG hch (by decide),fun g hg' e=>?_,hsl.setOther h.d2 v,hnn.setOther ?_ v,hbel.setCell (p:=⟨gh,0,none⟩) h.l1 v,h.d1,h.d2,h.d3,h.l1,h.l2⟩,fun D=>(keeps_gr hg (own_cells h.oh)).trans (keeps_gr hG (fun r hr=>?_))⟩
  · rcases hn g hg' with h1 | h1
    · exact h.ne g h1 e
    · have:=(h.ob.lt g e).2
      omega
  · exact fun e=>(hch.ne hnn (by decide)) (by simpa using e.symm)
  · simp at hr
    subst hr
    exact ⟨_,hch,rfl⟩
theorem PkS.szb (h:PkS b0 gh gb Bs sv w hv bv A M W):b0 ≤ W.heap.size:=Nat.le_trans h.l1 (Nat.le_of_lt h.ch.lt)
theorem PkS.drew1 (h:PkS b0 gh gb Bs sv w hv bv A M W):PkS b0 gh gb Bs sv w hv bv A M W.drew:=
  ⟨h.ch,h.oh,h.cb,h.ob,h.ne,h.sl,h.nn,h.bel.drew,h.d1,h.d2,h.d3,h.l1,h.l2⟩
def FarS (hv bv s:Value) (S:List Nat):Prop:=∀ a n c,s = .slice (some a) n c → 0 < S.length → hv.ownBlock ≠ some a.block ∧ bv.ownBlock ≠ some a.block
theorem PkS.head_st (h:PkS b0 gh gb Bs sv w hv bv A M W) {s v:Value} {S:List Nat} (hs:IsBytes W s S) (hf:FarS hv bv s S) (hg:W.grownBy W' hv.ownBlock) (hn:Near W hv v) :
    IsBytes (W'.setCell ⟨gh,0,none⟩ v) s S ∧ FarS v bv s S:=by
  have hch:=h.ch.grown hg (blk_own_ne h.oh h.ch (by decide))
  have hG:Gr W' (W'.setCell ⟨gh,0,none⟩ v) gh:=(Gr.refl W' gh).setCell 0 v
  have h1:=hs.row hg (fun a n c e h0 e2=>(hf a n c e h0).1 e2.symm)
  refine ⟨h1.row hG (fun a n c e h0 e2=>?_),fun a n c e h0=>⟨fun e2=>?_,(hf a n c e h0).2⟩⟩
  · obtain ⟨b,off,cap,he,_,_,_,hc⟩:=h1.cells h0
    rw [e] at he
    simp at he e2
    have hbl:a.block = b:=by rw [he.1]
    have c0:=hc 0 h0
    rw [← hbl,e2] at c0
    obtain ⟨sp,cp,hsl,_,_⟩:=ownsRow_slice h.oh
    unfold Blk at hch
    simp only [World.cell?,hch] at c0
    rw [hsl] at c0
    cases off with
    | zero=>simp at c0
    | succ o=>simp at c0
  · obtain ⟨b,off,cap,he,_,_,hbl,_⟩:=hs.cells h0
    rw [e] at he
    simp at he
    have hb:a.block = b:=by rw [he.1]
    rcases hn _ e2 with h2 | h2
    · exact (hf a n c e h0).1 h2
    · omega
theorem PkS.body (h:PkS b0 gh gb Bs sv w hv bv A M W) {v:Value} {F:List Nat} (ho:W'.ownsRow b0 5 1 v (M.length + F.length) (u8s (M ++ F))) (hg:W.grownBy W' bv.ownBlock) (hn:Near W bv v) :
    PkS b0 gh gb Bs sv w hv v A (M ++ F) (W'.setCell ⟨gb,0,none⟩ v) ∧ ∀ D,KeepsFrom D W (W'.setCell ⟨gb,0,none⟩ v):=by
  have hch:=h.ch.grown hg (blk_own_ne h.ob h.ch (by decide))
  have hcb:=h.cb.grown hg (blk_own_ne h.ob h.cb (by decide))
  have hsl:=h.sl.grown hg (blk_own_ne h.ob h.sl (by decide))
  have hnn:=h.nn.grown hg (blk_own_ne h.ob h.nn (by decide))
  have hoh:=own_kept h.oh hg (fun g hg' e=>h.ne g hg' e)
  have hG:Gr W' (W'.setCell ⟨gb,0,none⟩ v) gb:=(Gr.refl W' gb).setCell 0 v
  have hbel:=h.bel.grown hg (Nat.le_trans h.l1 (Nat.le_of_lt h.ch.lt)) (own_lt h.ob)
  refine ⟨⟨hch.setOther h.d1 v,own_gr hoh hG hcb (by decide),hcb.set 0 v,by rw [List.length_append];exact own_gr ho hG hcb (by decide),fun g hg' e=>?_,hsl.setOther h.d3 v,hnn.setOther ?_ v,hbel.setCell (p:=⟨gb,0,none⟩) h.l2 v,h.d1,h.d2,h.d3,h.l1,h.l2⟩,fun D=>(keeps_gr hg (own_cells h.ob)).trans (keeps_gr hG (fun r hr=>?_))⟩
  · rcases hn g e with h1 | h1
    · exact h.ne g hg' h1
    · have:=(h.oh.lt g hg').2
      omega
  · exact fun e=>(hcb.ne hnn (by decide)) (by simpa using e.symm)
  · simp at hr
    subst hr
    exact ⟨_,hcb,rfl⟩
end
def PkInv (B:List Nat) (b0 gh gb Bs:Nat) (sv:Value) (w:World) (k:Nat) (W:World):Prop:=∃ hv bv,PkS b0 gh gb Bs sv w hv bv (hdP B k) (bodP B k) W
theorem pkInv_own {B:List Nat} {b0 gh gb Bs D:Nat} {sv:Value} {w:World} (hD:b0 ≤ D):OwnFrom D (PkInv B b0 gh gb Bs sv w):=by
  rintro k W W' row ⟨hv,bv,h⟩ hg hr
  have hr':∀ r,row = some r → ∃ o:Obj,W.heap[r]? = some o ∧ o.isCells = false:=fun r e=>(hr r e).2
  exact ⟨hv,bv,S6.blk_keep h.ch hg hr',own_keep h.oh hg hr',S6.blk_keep h.cb hg hr',own_keep h.ob hg hr',h.ne,S6.blk_keep h.sl hg hr',S6.blk_keep h.nn hg hr',h.bel.grown hg (Nat.le_trans h.l1 (Nat.le_of_lt h.ch.lt)) (fun k hk=>Nat.le_trans hD (hr k hk).1),h.d1,h.d2,h.d3,h.l1,h.l2⟩
end Go.Proofs.YtfggchmcjjpkeaaGreatDoor.S11

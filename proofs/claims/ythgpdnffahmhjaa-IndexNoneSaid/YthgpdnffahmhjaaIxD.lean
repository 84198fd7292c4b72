/- An index: displace, place, Put, Del, Move, Hold, Free: contracts. -/
import Derived.Test.YthgpdnffahmhjaaIxC
import Derived.Test.YthgpdnffahmhjaaIxL
set_option linter.unusedSimpArgs false
set_option linter.unusedVariables false
set_option linter.unusedSectionVars false
set_option maxRecDepth 100000
namespace Go.Proofs.Ythgpdnffahmhjaa.S20
open Go.RowKit Go.Maps Go.Shelf
theorem Gone.trans {w w' w'' : World} {l l' : IL} {S'' : IX} {N'' : Nat} (hp : l'.p = l.p) (h : Step w w' l.at l'.at) (k : Gone w' l' S'' N'' w'') : Gone w l S'' N'' w'' := by
  obtain ⟨l2, e, hi, hs⟩ := k
  exact ⟨l2, by rw [e, hp], hi, Lib.hid (h.trans hs.out)⟩
set_option maxHeartbeats 2000000 in
theorem cloneS_any (s : ByteArray) (w : World) (hs : s.size ≤ 281474976710656) : Calls Try.prog 24 #[.string s] w fun e w' => e = .returned (.string s) ∧ Below w.heap.size w w' := by
  have hc := show Calls Try.prog 29 _ _ _ from AnyPu.stringslite_Clone lyCloneS s w hs
  go_enter Try.func24, Try.ntmps24
  go_wp2_with (go_at_call 29; refine hc.mono ?_; rintro e w' ⟨rfl, hb⟩)
  go_ret
  exact ⟨rfl, hb⟩
/-- a key's location is taken away -/
def drop1 (S : IX) (k : ByteArray) : IX := match S.loc k with
  | some x => { S with loc := fdel S.loc k, n := S.n - 1, cnt := cadd S.cnt x.seg (-1) }
  | none => S
def LOk (S : IX) : Prop := ∀ k x, S.loc k = some x → (Lit.int .i64 x.seg).wf = true
attribute [local go_sem ↓] loadL_eq storeL_eq
set_option maxHeartbeats 4000000 in
theorem displace_any (l : IL) (S : IX) (N : Nat) (k : ByteArray) (w : World) (h : IsIX w l S N) (hN : N ≤ 100000000) (hk : k.size ≤ maxLen) (hw : LOk S) :
    Calls Try.prog 22 #[pI l.p, .string k] w fun e w' => e = .returned (.tuple #[]) ∧ Gone w l (drop1 S k) (N + 1) w' := by
  obtain ⟨c1, _, _, _⟩ := h.cells
  have hl1 := look_loc h hk
  unfold drop1
  cases hL : S.loc k with
  | none =>
    rw [hL] at hl1
    simp only [Option.getD_none, Option.isSome_none] at hl1 ⊢
    obtain ⟨w1, w2, hw1, hst, hk2, hb2⟩ := own_loc w ⟨0, 0, 0⟩
    unfold locV at hl1 hst
    have HI := Lib.hid ((h.below hb2).more (Nat.le_succ N))
    have HB := Lib.hid hb2
    clear h hk2 hb2 hL hw
    go_enter Try.func22, Try.ntmps22
    go_wp2_with fail
    go_end0
    exact ⟨rfl, l, rfl, HI, Lib.hid (Step.ofBelow HB.out _)⟩
  | some x =>
    have hxw := hw k x hL
    rw [hL] at hl1
    simp only [Option.getD_some, Option.isSome_some] at hl1 ⊢
    obtain ⟨w1, w2, hw1, hst, hk2, hb2⟩ := own_loc w x
    unfold locV at hl1 hst
    have h2 := h.below hb2
    obtain ⟨d1, _, _, _⟩ := h2.cells
    obtain ⟨w3, hd, hm3, hg3⟩ := MF.del klit_inj h2.loc lawS (t := 46) Try.underlying46 (key_str hk)
    rw [vloc_del, ndel_vloc] at hm3
    have hn1 : ndel S.loc k S.n = S.n - 1 := by unfold ndel; rw [hL]; rfl
    rw [hn1] at hm3
    obtain ⟨h3, hs3⟩ := IsIX.cut1 _ h2 hm3 (by have := h.nN; omega) hg3
    have hlb := h.lt
    have hk3 : Blk w3 w.heap.size 30 (locC x) := hk2.grown hg3 (fun e => by have := hlb _ (.inr (.inl e.symm)); omega)
    have e3 : w3.cell? ⟨w.heap.size, 0, none⟩ = some (.int .i64 x.seg) := hk3.cell rfl
    have had := fun (W : World) (hW : IsIX W l { S with loc := fdel S.loc k, n := S.n - 1 } N) => add3d l _ N x.seg W hW hN hxw
    have had := had w3.drew h3.drew
    have HS := Lib.hid ((Step.ofBelow hb2 l.at).trans hs3)
    clear hs3 h3 hm3 hg3 h2 h hk2 hb2 hL hw hlb hn1
    go_enter Try.func22, Try.ntmps22
    go_wp2_with fail
    go_still_tail 5, (by kernel_rfl)
    change wpList _ _ _ _ _ w3.drew
    go_wp2_with fail
    refine had.mono ?_
    rintro e w4 ⟨rfl, hG⟩
    clear had
    go_wp2_with fail
    go_end0
    exact ⟨rfl, Gone.trans (l' := l) (w' := w3.drew) rfl (show Step w w3.drew l.at l.at from ⟨HS.out.os, HS.out.tape, HS.out.output, HS.out.size, HS.out.block, HS.out.more⟩) hG⟩
theorem drop1_none (S : IX) (k : ByteArray) : (drop1 S k).loc k = none := by
  unfold drop1
  cases h : S.loc k with
  | none => exact h
  | some x => simp [fdel]
/-- a key is given a location -/
def place1 (S : IX) (k : ByteArray) (x : LT) : IX := { drop1 S k with loc := fput (drop1 S k).loc k x, n := (drop1 S k).n + 1, cnt := cadd (drop1 S k).cnt x.seg 1 }
set_option maxHeartbeats 4000000 in
theorem place_any (l : IL) (S : IX) (N : Nat) (k : ByteArray) (x : LT) (w : World) (h : IsIX w l S N) (hN : N ≤ 99999990) (hk : k.size ≤ 1000000) (hx : (Lit.int .i64 x.seg).wf = true) (hw : LOk S) :
    Calls Try.prog 25 #[pI l.p, .string k, .agg #[.int .i64 x.seg, .int .i64 x.pos, .int .i64 x.seq]] w fun e w' => e = .returned (.tuple #[]) ∧ Gone w l (place1 S k x) (N + 3) w' := by
  obtain ⟨w1, hw1⟩ : ∃ w1, w.alloc (.cells #[.int .i64 x.seg, .int .i64 x.pos, .int .i64 x.seq] 30) = w1 := ⟨_, rfl⟩
  have hk1 : Blk w1 w.heap.size 30 (locC x) := by rw [← hw1]; exact Blk.new w _ _
  have hb1 : Below w.heap.size w w1 := by rw [← hw1]; exact (Below.refl _ _).alloc (Nat.le_refl _) _
  have hdp := displace_any l S N k w1 (h.below hb1) (by omega) (by unfold maxLen; omega) hw
  have hlt := h.lt
  have HB1 := Lib.hid hb1
  have HK1 := Lib.hid hk1
  have HLT := Lib.hid hlt
  unfold place1
  obtain ⟨S1, hS1⟩ : ∃ S1, drop1 S k = S1 := ⟨_, rfl⟩
  have hS1n : S1.loc k = none := by rw [← hS1]; exact drop1_none S k
  have HS1 := Lib.hid hS1n
  rw [hS1] at hdp ⊢
  clear hk1 hb1 h hlt hw hS1 hS1n
  go_enter Try.func25, Try.ntmps25
  go_wp2_with fail
  refine hdp.mono ?_
  rintro e w2 ⟨rfl, l2, hp2, hi2, hs2⟩
  obtain ⟨g, hg⟩ : ∃ g, w.heap.size = g := ⟨_, rfl⟩
  have hgl : g < w1.heap.size := by rw [← hg]; exact HK1.out.lt
  have hK2 : Blk w2 g 30 (locC x) := by
    rw [← hg]
    exact (hs2.out.block _ HK1.out.lt (fun e => by have := HLT.out _ e; omega)).trans HK1.out
  have hn2 : ∀ b, l2.at b → b ≠ g := fun b hb e => by
    subst e
    rcases hs2.out.more _ hb with e | e
    · have := HLT.out _ e; omega
    · omega
  have HN2 := Lib.hid hn2
  have HK2 := Lib.hid hK2
  have HL : Hid (∀ W : World, W.heap[g]? = w2.heap[g]? → (loadL (.pointer (some ⟨g, 0, none⟩))).run Try.prog W = .ok (.agg #[.int .i64 x.seg, .int .i64 x.pos, .int .i64 x.seq]) W) := Lib.hid fun W hW => run_loadL_blk (show Blk W g 30 (locC x) from hW.trans HK2.out)
  have HC : Hid (∀ W : World, W.heap[g]? = w2.heap[g]? → W.cell? ⟨g, 0, none⟩ = some (.int .i64 x.seg)) := Lib.hid fun W hW => (show Blk W g 30 (locC x) from hW.trans HK2.out).cell rfl
  have hHeld : w2.drew.heap[g]? = w2.heap[g]? := rfl
  have hcl := cloneS_any k w2.drew (by omega)
  rw [← hp2]
  have HP2 := Lib.hid hp2
  clear hdp hK2 hn2 hp2
  go_wp2_with fail
  refine wp_region_noPanic ?_
  refine wpAnyH_start (n := 7) (l := #[false, false, false, false, false, false, false]) (S := fun W => W.heap[g]? = w2.heap[g]?) (by kernel_rfl) (hHeld) (by kernel_rfl) (by kernel_rfl) ?_
  refine wpAnyH_take (i := 0) (oi := _) (v := ?_) rfl (by kernel_rfl) (by kernel_rfl) (by kernel_rfl) (fun _ _ _ h => h) (Or.inl ⟨by rfl, ?_⟩) (by assumption) ?_
  rotate_left
  · intro wq hSw; go_simp; try with_reducible rfl
  simp only [Act.put, List.setIfInBounds_toArray, List.set_cons_zero, List.set_cons_succ, List.getElem_toArray, List.getElem_cons_zero, List.getElem_cons_succ]
  refine wpAnyH_take (i := 1) (oi := _) (v := ?_) rfl (by kernel_rfl) (by kernel_rfl) (by kernel_rfl) (fun _ _ _ h => h) (Or.inl ⟨by rfl, ?_⟩) (by assumption) ?_
  rotate_left
  · intro wq hSw; go_simp; try with_reducible rfl
  simp only [Act.put, List.setIfInBounds_toArray, List.set_cons_zero, List.set_cons_succ, List.getElem_toArray, List.getElem_cons_zero, List.getElem_cons_succ]
  refine wpAnyH_take (i := 2) (oi := _) (v := ?_) rfl (by kernel_rfl) (by kernel_rfl) (by kernel_rfl) (fun _ _ _ h => h) (Or.inl ⟨by rfl, ?_⟩) (by assumption) ?_
  rotate_left
  · intro wq hSw; go_simp; try with_reducible rfl
  simp only [Act.put, List.setIfInBounds_toArray, List.set_cons_zero, List.set_cons_succ, List.getElem_toArray, List.getElem_cons_zero, List.getElem_cons_succ]
  refine wpAnyH_take (i := 3) (oi := _) (v := ?_) rfl (by kernel_rfl) (by kernel_rfl) (by kernel_rfl) (fun _ _ _ h => h) (Or.inl ⟨by rfl, ?_⟩) (by assumption) ?_
  rotate_left
  · intro wq hSw; go_simp; try with_reducible rfl
  simp only [Act.put, List.setIfInBounds_toArray, List.set_cons_zero, List.set_cons_succ, List.getElem_toArray, List.getElem_cons_zero, List.getElem_cons_succ]
  refine wpAnyH_take (i := 5) (oi := _) (v := ?_) rfl (by kernel_rfl) (by kernel_rfl) (by kernel_rfl) (fun _ _ _ h => h) (Or.inl ⟨by rfl, ?_⟩) (by assumption) ?_
  rotate_left
  · intro wq hSw; have lq := HL.out wq hSw; go_simp; try with_reducible rfl
  simp only [Act.put, List.setIfInBounds_toArray, List.set_cons_zero, List.set_cons_succ, List.getElem_toArray, List.getElem_cons_zero, List.getElem_cons_succ]
  refine wpAnyH_ready (rs := [4]) (by kernel_rfl) (by simp) ?_
  refine AllReadyH.cons (o := _) rfl (fun K hK => ?_) AllReadyH.nil
  simp only [List.getElem_toArray, List.getElem_cons_zero, List.getElem_cons_succ]
  go_simp
  refine hcl.mono ?_; rintro r w3 ⟨rfl, hb3⟩
  refine hK.out _ _ (hb3.block g (Nat.lt_of_lt_of_le HK2.out.lt (Nat.le_refl _))) (fun _ => ?_)
  clear hK K
  have HB3 := Lib.hid hb3
  have hi3 := (hi2.out.drew).below hb3
  have hst := set_loc l2.p 0 l2.cs l2.m1 S1.n _ k x w3 hi3.blk rfl hi3.loc (by have := hi3.nN; omega) (by unfold maxLen; omega)
  have HI3 := Lib.hid hi3
  clear hb3 hi3 hcl
  simp only [Act.put, List.setIfInBounds_toArray, List.set_cons_zero, List.set_cons_succ, List.getElem_toArray, List.getElem_cons_zero, List.getElem_cons_succ]
  refine wpAnyH_ready (rs := [6]) (by kernel_rfl) (by simp) ?_
  refine AllReadyH.cons (o := _) rfl (fun K hK => ?_) AllReadyH.nil
  simp only [List.getElem_toArray, List.getElem_cons_zero, List.getElem_cons_succ]
  go_simp
  refine hst.mono ?_; rintro r w4 ⟨rfl, b, hb, hk4, hm4, hs4⟩
  refine hK.out _ _ ((hs4.out.block g (Nat.lt_of_lt_of_le HK2.out.lt HB3.out.size) (fun e => e.elim (fun e => HN2.out _ (.inl rfl) e.symm) (fun e => HN2.out _ (.inr (.inl e)) rfl))).trans (HB3.out.block g HK2.out.lt)) (fun _ => ?_)
  clear hK K
  have hg4 : w4.heap[g]? = w2.heap[g]? := (hs4.out.block g (Nat.lt_of_lt_of_le HK2.out.lt HB3.out.size) (fun e => e.elim (fun e => HN2.out _ (.inl rfl) e.symm) (fun e => HN2.out _ (.inr (.inl e)) rfl))).trans (HB3.out.block g HK2.out.lt)
  simp only [Act.put, List.setIfInBounds_toArray, List.set_cons_zero, List.set_cons_succ, List.getElem_toArray, List.getElem_cons_zero, List.getElem_cons_succ]
  refine wpAnyH_done (by kernel_rfl) ?_ _
  refine NoPanic.normal ?_
  have hm4 := hm4.out
  rw [show fput (vloc S1.loc) k (.agg #[.int .i64 x.seg, .int .i64 x.pos, .int .i64 x.seq]) = _ from vloc_put S1.loc k x, nput_vloc, show nput S1.loc k S1.n = S1.n + 1 by unfold nput; rw [HS1.out]; rfl] at hm4
  obtain ⟨l4, hp4, hi4, hs4'⟩ := HI3.out.slot1 (fput S1.loc k x) hb hk4.out hm4 (by have := HI3.out.nN; omega) hs4.out
  have had := add3u l4 _ (N + 1 + 1) x.seg w4.drew hi4.out.drew (by omega) hx
  rw [hp4] at had
  have c4 := HC.out w4 hg4
  have hstep : Step w w4.drew l.at l4.at := by
    have h1 : Step w w1 l.at l.at := Step.ofBelow HB1.out _
    have h3 : Step w2 w3 l2.at l2.at := Step.ofBelow (show Below w2.heap.size w2 w3 from ⟨HB3.out.os, HB3.out.tape, HB3.out.output, HB3.out.size, HB3.out.block⟩) _
    have h4 := (h1.trans hs2.out).trans (h3.trans hs4'.out)
    exact ⟨h4.os, h4.tape, h4.output, h4.size, h4.block, h4.more⟩
  have HST := Lib.hid hstep
  have HP4 := Lib.hid hp4
  clear hst hb hk4 hm4 hs4 hi4 hs4' hstep hHeld hg4 hp4
  go_wp2_with fail
  go_still_tail 5, (by kernel_rfl)
  change wpList _ _ _ _ _ w4.drew
  go_wp2_with fail
  refine had.mono ?_
  rintro e w5 ⟨rfl, hG⟩
  clear had
  go_wp2_with fail
  go_end0
  exact ⟨rfl, Gone.trans (l' := l4) (by rw [HP4.out, HP2.out]) HST.out hG⟩
end Go.Proofs.Ythgpdnffahmhjaa.S20

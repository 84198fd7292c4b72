/- Texts put together: RawE. -/
import Derived.Test.YtdjkkohckfndkaaGreatDoorEg39
set_option linter.unusedSimpArgs false
set_option linter.unusedVariables false
set_option maxRecDepth 100000
namespace Go.Proofs.YtdjkkohckfndkaaGreatDoor.S15
open Go.RowKit S13 S13.Dk S14 S3
theorem InZ.swap {w0 w w' : World} {p q : Nat} {S : St} {ev v' : Value} (h : InZ w0 p S (zS q ev) w) (hev : ∀ b, ev.ownBlock = some b → w0.heap.size ≤ b) (hg : w.grownBy w' ev.ownBlock) (hn : Nigh w ev v') (hlt : ∀ b, v'.ownBlock = some b → b < w'.heap.size) : InZ w0 p S (zS q v') w' := by
  obtain ⟨l, hp, hI, ha, hw, hz⟩ := h
  refine ⟨l, hp, hI.keep fun b hb => hg.block b (hI.lt b hb) (fun e => (hz b (.inr e.symm)).2 hb), ha, hw.grown hg hw.size hev, ?_⟩
  rintro b (rfl | hb)
  · exact ⟨Nat.lt_of_lt_of_le (hz b (.inl rfl)).1 hg.size, (hz b (.inl rfl)).2⟩
  · refine ⟨hlt b hb, ?_⟩
    rcases hn b hb with h1 | h1
    · exact (hz b (.inr h1)).2
    · intro h2
      have := hI.lt b h2
      omega
theorem InS.put {w0 w w2 w' : World} {p q : Nat} {S : St} {n : ByteArray} {E E' : List Int} {ev v' : Value} (hz : InZ w0 p S (zS q ev) w) (hs : SegB w0.heap.size w p q n ev E) (hb : Below w.heap.size w w2) (ho : w'.ownsRow w0.heap.size 3 1 v' E'.length (i64s E')) (hg : w2.grownBy w' ev.ownBlock) (hn : Nigh w2 ev v') :
    InS w0 p S q n E' (w'.setCell ⟨q, 2, none⟩ v') := by
  have hz2 := hz.below hb
  have hs2 := hs.below hb
  have hqe : ev.ownBlock ≠ some q := fun e => by
    obtain ⟨hl, hp⟩ := hs2.2.1
    rcases hp with ⟨rfl, _⟩ | ⟨g, cap, cur, rfl, hg0, hh, _⟩
    · cases e
    · simp only [Value.ownBlock, Option.some.injEq] at e
      subst e
      have hk := hs2.1
      unfold Blk at hk
      rw [hk] at hh
      simp at hh
  have hk' : Blk w' q 104 (sgL p n ev) := hs2.1.grown hg (fun e => hqe e.symm)
  have hz' := InZ.swap hz2 (fun b hb => (hs2.lt b (.inr hb)).1) hg hn (fun b hb => (World.ownsRow.lt ho b hb).2)
  have hgq : w'.grownBy (w'.setCell ⟨q, 2, none⟩ v') (some q) := (Gr.refl w' q).setCell 2 v'
  refine ⟨v', hz'.turn (k := q) (.inl rfl) hs2.2.2 hgq, ?_, own_heap ho fun b hb => ?_, hs2.2.2⟩
  · exact hk'.set 2 v'
  · refine hgq.block b (World.ownsRow.lt ho b hb).2 fun e => ?_
    simp at e
    subst e
    obtain ⟨hl, hp⟩ := ho
    rcases hp with ⟨rfl, _⟩ | ⟨g, cap, cur, rfl, hg0, hh, _⟩
    · cases hb
    · simp only [Value.ownBlock, Option.some.injEq] at hb
      subst hb
      unfold Blk at hk'
      rw [hk'] at hh
      simp at hh
theorem SegB.blk_at {base : Nat} {w w2 V : World} {p q : Nat} {n : ByteArray} {ev : Value} {E : List Int} (hs : SegB base w p q n ev E) (hb : Below w.heap.size w w2) (hg : w2.grownBy V ev.ownBlock) : Blk V q 104 (sgL p n ev) := by
  have hs2 := hs.below hb
  refine hs2.1.grown hg fun e => ?_
  obtain ⟨hl, hp⟩ := hs2.2.1
  rcases hp with ⟨rfl, _⟩ | ⟨g, cap, cur, rfl, hg0, hh, _⟩
  · cases e
  · simp only [Value.ownBlock, Option.some.injEq] at e
    subst e
    have hk := hs2.1
    unfold Blk at hk
    rw [hk] at hh
    simp at hh
theorem SegB.frozen_at {base : Nat} {w w2 V : World} {p q : Nat} {n : ByteArray} {ev : Value} {E : List Int} (hs : SegB base w p q n ev E) (hb : Below w.heap.size w w2) (hg : w2.grownBy V ev.ownBlock) : V.frozen? ⟨q, 2, none⟩ = false := (hs.blk_at hb hg).frozen 2
theorem SegB.cell_at {base : Nat} {w w2 V : World} {p q : Nat} {n : ByteArray} {ev : Value} {E : List Int} (hs : SegB base w p q n ev E) (hb : Below w.heap.size w w2) (hg : w2.grownBy V ev.ownBlock) : ∃ u, V.cell? ⟨q, 2, none⟩ = some u := ⟨ev, (hs.blk_at hb hg).cell rfl⟩
theorem InZ.swap2 {w0 w w2 w' : World} {p q : Nat} {S : St} {n : ByteArray} {E : List Int} {Z : Nat → Prop} {k : Nat} {xs : List Value} {ev v' : Value} (hz : InZ w0 p S (fun b => zS q ev b ∨ Z b) w) (hs : SegB w0.heap.size w p q n ev E) (ha : ∀ b, Z b → ¬ zS q ev b) (hb : Below w.heap.size w w2) (ho : w'.ownsRow w0.heap.size 3 1 v' k xs) (hg : w2.grownBy w' ev.ownBlock) (hn : Nigh w2 ev v') : InZ w0 p S (fun b => zS q v' b ∨ Z b) (w'.setCell ⟨q, 2, none⟩ v') := by
  have hs2 := hs.below hb
  obtain ⟨l, hp, hI, hla, hw, hzl⟩ := hz.below hb
  have h1 : InZ w0 p S (fun b => zS q v' b ∨ Z b) w' := by
    refine ⟨l, hp, hI.keep fun b hb => hg.block b (hI.lt b hb) (fun e => (hzl b (.inl (.inr e.symm))).2 hb), hla, hw.grown hg hw.size (fun b hb => (hs2.lt b (.inr hb)).1), ?_⟩
    rintro b ((rfl | hb) | hb)
    · exact ⟨Nat.lt_of_lt_of_le (hzl b (.inl (.inl rfl))).1 hg.size, (hzl b (.inl (.inl rfl))).2⟩
    · refine ⟨(World.ownsRow.lt ho b hb).2, ?_⟩
      rcases hn b hb with h1 | h1
      · exact (hzl b (.inl (.inr h1))).2
      · intro h2
        have := hI.lt b h2
        omega
    · exact ⟨Nat.lt_of_lt_of_le (hzl b (.inr hb)).1 hg.size, (hzl b (.inr hb)).2⟩
  exact h1.turn (k := q) (.inl (.inl rfl)) hs2.2.2 ((Gr.refl w' q).setCell 2 v')
def InU (w0 : World) (p : Nat) (S : St) (q : Nat) (n : ByteArray) (E : List Int) (Z : Nat → Prop) (wb w : World) : Prop := InT w0 p S q n E Z w ∧ ∀ b, Z b → w.heap[b]? = wb.heap[b]?
theorem InU.below {w0 wb w w' : World} {p q : Nat} {S : St} {n : ByteArray} {E : List Int} {Z : Nat → Prop} (h : InU w0 p S q n E Z wb w) (hb : Below w.heap.size w w') : InU w0 p S q n E Z wb w' := ⟨h.1.below hb, fun b hz => (hb.block b (h.1.lt b hz)).trans (h.2 b hz)⟩
theorem InU.put {w0 wb w w2 w' : World} {p q : Nat} {S : St} {n : ByteArray} {E E' : List Int} {Z : Nat → Prop} {ev v' : Value} (hz : InZ w0 p S (fun b => zS q ev b ∨ Z b) w) (hs : SegB w0.heap.size w p q n ev E) (ha : ∀ b, Z b → ¬ zS q ev b) (hh : ∀ b, Z b → w.heap[b]? = wb.heap[b]?) (hb : Below w.heap.size w w2) (ho : w'.ownsRow w0.heap.size 3 1 v' E'.length (i64s E')) (hg : w2.grownBy w' ev.ownBlock) (hn : Nigh w2 ev v') :
    InU w0 p S q n E' Z wb (w'.setCell ⟨q, 2, none⟩ v') := by
  have hlt : ∀ b, Z b → b < w.heap.size := by
    obtain ⟨l, _, _, _, _, hz⟩ := hz
    exact fun b hb => (hz b (.inr hb)).1
  obtain ⟨ev', hz', hs'⟩ := InS.put (hz.fewer fun b hb => .inl hb) hs hb ho hg hn
  have hgq : w'.grownBy (w'.setCell ⟨q, 2, none⟩ v') (some q) := (Gr.refl w' q).setCell 2 v'
  have hsame : ∀ b, Z b → (w'.setCell ⟨q, 2, none⟩ v').heap[b]? = w.heap[b]? := fun b hz0 => by
    have h1 := hlt b hz0
    have h2 := hb.size
    have h3 := hg.size
    rw [hgq.block b (by omega) (fun e => ha b hz0 (.inl (by simpa using e))), hg.block b (by omega) (fun e => ha b hz0 (.inr e.symm)), hb.block b h1]
  have hev : v' = ev' := by
    have hk := (hs.blk_at hb hg).set 2 v'
    have := hk.same hs'.1
    simpa [sgL] using this
  subst hev
  refine ⟨⟨v', ?_, hs', fun b hz0 hzz => ?_⟩, fun b hz0 => (hsame b hz0).trans (hh b hz0)⟩
  · obtain ⟨l, hp, hI, hla, hw, hzl⟩ := hz'
    obtain ⟨l0, hp0, hI0, hla0, hw0, hzl0⟩ := hz
    have hz2 := InZ.swap2 ⟨l0, hp0, hI0, hla0, hw0, hzl0⟩ hs ha hb ho hg hn
    exact hz2
  · rcases hzz with rfl | hzz
    · exact ha _ hz0 (.inl rfl)
    · rcases hn b hzz with h1 | h1
      · exact ha b hz0 (.inr h1)
      · have := hlt b hz0
        have := hb.size
        omega
def AppPostT (w0 : World) (p : Nat) (S : St) (q : Nat) (n : ByteArray) (E : List Int) (Z : Nat → Prop) (wb : World) (r : RT) (e : Ending) (w' : World) : Prop :=
  if chk r ≠ 0 then e = .returned (.tuple #[.int .i64 (-1), .int .i64 (chk r : Nat)]) ∧ InU w0 p S q n E Z wb w'
  else if (append S n.data.toList (enc r)).2 ≠ 0 then e = .returned (.tuple #[.int .i64 (-1), .int .i64 ((append S n.data.toList (enc r)).2 : Nat)]) ∧ InU w0 p (append S n.data.toList (enc r)).1 q n E Z wb w'
  else e = .returned (.tuple #[.int .i64 (E.length : Nat), .int .i64 0]) ∧ InU w0 p (append S n.data.toList (enc r)).1 q n (E ++ [lastI E + ((enc r).length : Nat)]) Z wb w'
attribute [local go_sem ↓] loadR_eq storeR_eq buildR_eq sliceU8_eq
attribute [local go_sem] run_buildR run_buildR4
set_option maxHeartbeats 16000000 in
theorem append_t {Z : Nat → Prop} {w0 w : World} {p q : Nat} {S : St} {n : ByteArray} {E : List Int} (r : RT) (h : InT w0 p S q n E Z w) (hT : Tab w) (hk : r.key.size ≤ maxLen) (hr : r.val.size ≤ maxLen) (hn : n.size ≤ maxLen) (hc : S.calls ≤ 1099511627776) (hE : E.length ≤ 1000000) (hl0 : 0 ≤ lastI E) (hl1 : lastI E ≤ 1099511627776) :
    Calls Tryz.prog 20 #[pP q, .agg #[.int .i64 r.kind, .int .i64 r.seq, .string r.key, .string r.val]] w (AppPostT w0 p S q n E Z w r) := by
  have hk1 := Blk.new w 32 (recL r)
  have hb1 : Below w.heap.size w (w.alloc (.cells (recL r).toArray 32)) := (Below.refl _ _).alloc (Nat.le_refl _) _
  obtain ⟨w1, hw1⟩ : ∃ w1, w.alloc (.cells (recL r).toArray 32) = w1 := ⟨_, rfl⟩
  rw [hw1] at hk1 hb1
  have HI1 : Hid (InU w0 p S q n E Z w w1) := Lib.hid (InU.below ⟨h, fun _ _ => rfl⟩ hb1)
  have HT1 := Lib.hid (hT.below hb1)
  have hld := run_loadR_blk hk1
  have henc := encode_any r w1 HT1.out hk hr
  unfold EncPost at henc
  have hel := enc_len r
  obtain ⟨X, hX⟩ : ∃ X, enc r = X := ⟨_, rfl⟩
  obtain ⟨c, hcc⟩ : ∃ c, chk r = c := ⟨_, rfl⟩
  obtain ⟨M, hM⟩ : ∃ M, X.length = M := ⟨_, rfl⟩
  have hXl : ∀ x ∈ X, x < 256 := by rw [← hX]; exact enc_lt r
  rw [hX, hcc, hM] at henc
  rw [hX, hM] at hel
  have HENC := Lib.hid henc
  have HX := Lib.hid hX
  have HCC := Lib.hid hcc
  have HM := Lib.hid hM
  have HXL := Lib.hid hXl
  simp only [recL] at hw1
  clear h hT hk1 hb1 henc hX hcc hM hXl hk hr
  by_cases h0 : c = 0
  · subst h0
    have HP : Hid (∀ e w', AppPostT w0 p S q n E Z w r e w' = if (append S n.data.toList X).2 ≠ 0 then e = .returned (.tuple #[.int .i64 (-1), .int .i64 ((append S n.data.toList X).2 : Nat)]) ∧ InU w0 p (append S n.data.toList X).1 q n E Z w w'
        else e = .returned (.tuple #[.int .i64 (E.length : Nat), .int .i64 0]) ∧ InU w0 p (append S n.data.toList X).1 q n (E ++ [lastI E + (M : Nat)]) Z w w') := Lib.hid fun e w' => by
      unfold AppPostT
      rw [HCC.out, if_neg (by simp), HX.out, HM.out]
    clear HCC
    go_enter Tryz.func20, Tryz.ntmps20
    go_wp2_with fail
    refine HENC.out.mono ?_
    rintro e w2 ⟨sp2, cp2, rfl, ho2, hb2⟩
    have HIB : Hid (IsBytes w2 (.slice sp2 M cp2) X) := Lib.hid (by have := ho2.out; rw [← HM.out] at this ⊢; exact isBytes_own HXL.out this)
    have HI2 := Lib.hid (HI1.out.below hb2.out)
    obtain ⟨⟨ev, hz, hs, ha⟩, hh⟩ := HI2.out
    have HA := Lib.hid ha
    have hd2 : Below w2.heap.size w2 w2.drew := (Below.refl _ _).drew
    have HAP : Hid (Calls Tryz.prog 11 #[pP p, .string n, .slice sp2 M cp2] w2.drew (ZPost w0 p (append S n.data.toList X) (fun b => zS q ev b ∨ Z b) w2.drew)) := Lib.hid (append_z n _ X (hz.below hd2) hn hc (HIB.out.below hd2) (by rw [HM.out]; omega))
    have HSB : Hid (SegB w0.heap.size w2.drew p q n ev E) := Lib.hid (hs.below hd2)
    have hHeld : ∃ S', InU w0 p S' q n E Z w w2.drew := ⟨S, HI2.out.below hd2⟩
    have HH : Hid (∀ b, Z b → w2.drew.heap[b]? = w.heap[b]?) := Lib.hid hh
    have HC0 : Hid (∀ W, (∃ S', InU w0 p S' q n E Z w W) → W.cell? ⟨q, 0, none⟩ = some (.pointer (some ⟨p, 0, none⟩))) := Lib.hid fun W ⟨_, h⟩ => by obtain ⟨_, _, h, _⟩ := h.1.cells; exact h
    have HC1 : Hid (∀ W, (∃ S', InU w0 p S' q n E Z w W) → W.cell? ⟨q, 1, none⟩ = some (.string n)) := Lib.hid fun W ⟨_, h⟩ => by obtain ⟨_, _, _, h, _⟩ := h.1.cells; exact h
    obtain ⟨S', hS'⟩ : ∃ S', (append S n.data.toList X).1 = S' := ⟨_, rfl⟩
    obtain ⟨c, hcc⟩ : ∃ c, (append S n.data.toList X).2 = c := ⟨_, rfl⟩
    have HR : Hid (append S n.data.toList X = (S', c)) := Lib.hid (by rw [← hS', ← hcc])
    have HP : Hid (∀ e w', AppPostT w0 p S q n E Z w r e w' = if c ≠ 0 then e = .returned (.tuple #[.int .i64 (-1), .int .i64 (c : Nat)]) ∧ InU w0 p S' q n E Z w w'
        else e = .returned (.tuple #[.int .i64 (E.length : Nat), .int .i64 0]) ∧ InU w0 p S' q n (E ++ [lastI E + (M : Nat)]) Z w w') := Lib.hid (by have := HP.out; rw [hS', hcc] at this; exact this)
    have HAP : Hid (Calls Tryz.prog 11 #[pP p, .string n, .slice sp2 M cp2] w2.drew (ZPost w0 p (S', c) (fun b => zS q ev b ∨ Z b) w2.drew)) := Lib.hid (by rw [← HR.out]; exact HAP.out)
    have ho2' := ho2
    clear ho2 ho2' hb2 hz hs ha hh hd2 hS' hcc hld hw1 HR HI2 HIB
    go_wp2_with fail
    refine wp_region_noPanic ?_
    refine wpAnyH_start (n := 11) (l := #[false, false, false, false, false, false, false, false, false, false, false]) (S := fun W => ∃ S', InU w0 p S' q n E Z w W) (by kernel_rfl) (hHeld) (by kernel_rfl) (by kernel_rfl) ?_
    refine wpAnyH_take (i := 0) (oi := _) (v := ?_) rfl (by kernel_rfl) (by kernel_rfl) (by kernel_rfl) (fun _ _ _ h => h) (Or.inl ⟨by rfl, ?_⟩) (by assumption) ?_
    rotate_left
    · intro wq hSw; go_simp; try with_reducible rfl
    simp only [Act.put, List.setIfInBounds_toArray, List.set_cons_zero, List.set_cons_succ, List.getElem_toArray, List.getElem_cons_zero, List.getElem_cons_succ]
    refine wpAnyH_take (i := 1) (oi := _) (v := ?_) rfl (by kernel_rfl) (by kernel_rfl) (by kernel_rfl) (fun _ _ _ h => h) (Or.inl ⟨by rfl, ?_⟩) (by assumption) ?_
    rotate_left
    · intro wq hSw; go_simp; try with_reducible rfl
    simp only [Act.put, List.setIfInBounds_toArray, List.set_cons_zero, List.set_cons_succ, List.getElem_toArray, List.getElem_cons_zero, List.getElem_cons_succ]
    refine wpAnyH_take (i := 2) (oi := _) (v := ?_) rfl (by kernel_rfl) (by kernel_rfl) (by kernel_rfl) (fun _ _ _ h => h) (Or.inl ⟨by rfl, ?_⟩) (by assumption) ?_
    rotate_left
    · intro wq hSw; go_simp; try with_reducible rfl
    simp only [Act.put, List.setIfInBounds_toArray, List.set_cons_zero, List.set_cons_succ, List.getElem_toArray, List.getElem_cons_zero, List.getElem_cons_succ]
    refine wpAnyH_take (i := 3) (oi := _) (v := ?_) rfl (by kernel_rfl) (by kernel_rfl) (by kernel_rfl) (fun _ _ _ h => h) (Or.inl ⟨by rfl, ?_⟩) (by assumption) ?_
    rotate_left
    · intro wq hSw; have d0 := HC0.out wq hSw; go_simp; try with_reducible rfl
    simp only [Act.put, List.setIfInBounds_toArray, List.set_cons_zero, List.set_cons_succ, List.getElem_toArray, List.getElem_cons_zero, List.getElem_cons_succ]
    refine wpAnyH_take (i := 4) (oi := _) (v := ?_) rfl (by kernel_rfl) (by kernel_rfl) (by kernel_rfl) (fun _ _ _ h => h) (Or.inl ⟨by rfl, ?_⟩) (by assumption) ?_
    rotate_left
    · intro wq hSw; go_simp; try with_reducible rfl
    simp only [Act.put, List.setIfInBounds_toArray, List.set_cons_zero, List.set_cons_succ, List.getElem_toArray, List.getElem_cons_zero, List.getElem_cons_succ]
    refine wpAnyH_take (i := 5) (oi := _) (v := ?_) rfl (by kernel_rfl) (by kernel_rfl) (by kernel_rfl) (fun _ _ _ h => h) (Or.inl ⟨by rfl, ?_⟩) (by assumption) ?_
    rotate_left
    · intro wq hSw; go_simp; try with_reducible rfl
    simp only [Act.put, List.setIfInBounds_toArray, List.set_cons_zero, List.set_cons_succ, List.getElem_toArray, List.getElem_cons_zero, List.getElem_cons_succ]
    refine wpAnyH_take (i := 6) (oi := _) (v := ?_) rfl (by kernel_rfl) (by kernel_rfl) (by kernel_rfl) (fun _ _ _ h => h) (Or.inl ⟨by rfl, ?_⟩) (by assumption) ?_
    rotate_left
    · intro wq hSw; go_simp; try with_reducible rfl
    simp only [Act.put, List.setIfInBounds_toArray, List.set_cons_zero, List.set_cons_succ, List.getElem_toArray, List.getElem_cons_zero, List.getElem_cons_succ]
    refine wpAnyH_take (i := 7) (oi := _) (v := ?_) rfl (by kernel_rfl) (by kernel_rfl) (by kernel_rfl) (fun _ _ _ h => h) (Or.inl ⟨by rfl, ?_⟩) (by assumption) ?_
    rotate_left
    · intro wq hSw; have d1 := HC1.out wq hSw; go_simp; try with_reducible rfl
    simp only [Act.put, List.setIfInBounds_toArray, List.set_cons_zero, List.set_cons_succ, List.getElem_toArray, List.getElem_cons_zero, List.getElem_cons_succ]
    refine wpAnyH_take (i := 8) (oi := _) (v := ?_) rfl (by kernel_rfl) (by kernel_rfl) (by kernel_rfl) (fun _ _ _ h => h) (Or.inl ⟨by rfl, ?_⟩) (by assumption) ?_
    rotate_left
    · intro wq hSw; go_simp; try with_reducible rfl
    simp only [Act.put, List.setIfInBounds_toArray, List.set_cons_zero, List.set_cons_succ, List.getElem_toArray, List.getElem_cons_zero, List.getElem_cons_succ]
    refine wpAnyH_ready (rs := [9]) (by kernel_rfl) (by simp) ?_
    refine AllReadyH.cons (o := _) rfl (fun K hK => ?_) AllReadyH.nil
    simp only [List.getElem_toArray, List.getElem_cons_zero, List.getElem_cons_succ]
    go_simp
    refine HAP.out.mono ?_; rintro e w3 hz3; obtain ⟨he3, hI3, hh3⟩ := InT.op hz3 HSB.out HA.out; have hU3 : InU w0 p _ q n E Z w w3 := ⟨hI3, fun b hb => (hh3 b hb).trans (HH.out b hb)⟩; have he3 : e = .returned (.int .i64 (c : Nat)) := he3; subst he3
    refine hK.out _ _ (⟨_, hU3⟩) (fun _ => ?_)
    clear hK K
    have HI3 : Hid (InU w0 p S' q n E Z w w3) := Lib.hid hU3
    clear hI3 hz3 hh3 hU3 HA HH hHeld HC0 HC1 HAP HSB
    simp only [Act.put, List.setIfInBounds_toArray, List.set_cons_zero, List.set_cons_succ, List.getElem_toArray, List.getElem_cons_zero, List.getElem_cons_succ]
    refine wpAnyH_take (i := 10) (oi := _) (v := ?_) rfl (by kernel_rfl) (by kernel_rfl) (by kernel_rfl) (fun _ _ _ h => h) (Or.inl ⟨by rfl, ?_⟩) (by assumption) ?_
    rotate_left
    · intro wq hSw; go_simp; try with_reducible rfl
    simp only [Act.put, List.setIfInBounds_toArray, List.set_cons_zero, List.set_cons_succ, List.getElem_toArray, List.getElem_cons_zero, List.getElem_cons_succ]
    refine wpAnyH_done (by kernel_rfl) ?_ _
    refine NoPanic.normal ?_
    by_cases h1 : c ≠ 0
    · have HP0 : Hid (∀ e w', (e = .returned (.tuple #[.int .i64 (-1), .int .i64 (c : Nat)]) ∧ InU w0 p S' q n E Z w w') → AppPostT w0 p S q n E Z w r e w') := Lib.hid fun e w' hh => by rw [HP.out, if_pos h1]; exact hh
      have q1 : ((c : Int) != 0) = true := bne_t (by omega)
      have q2 : (c != 0) = true := by simpa using h1
      clear HP h1
      go_wp2_with fail
      go_ret2
      exact HP0.out _ _ ⟨rfl, HI3.out⟩
    · have h2 : c = 0 := by omega
      subst h2
      have HP0 : Hid (∀ e w', (e = .returned (.tuple #[.int .i64 (E.length : Nat), .int .i64 0]) ∧ InU w0 p S' q n (E ++ [lastI E + (M : Nat)]) Z w w') → AppPostT w0 p S q n E Z w r e w') := Lib.hid fun e w' hh => by rw [HP.out, if_neg h1]; exact hh
      clear HP h1
      have HD3 : Hid (InU w0 p S' q n E Z w w3.drew) := Lib.hid (HI3.out.below (Below.refl _ _).drew)
      obtain ⟨⟨ev3, hz3, hs3, ha3⟩, hh3⟩ := HD3.out
      have HA3 := Lib.hid ha3
      have HH3 := Lib.hid hh3
      have hk3 := hs3.1
      obtain ⟨spE, cpE, hevE, hcE, hcmE⟩ := ownsRow_slice hs3.2.1
      subst hevE
      have c2 : w3.drew.cell? ⟨q, 2, none⟩ = some (.slice spE E.length cpE) := hs3.1.cell rfl
      have HSZ : Hid (Calls Tryz.prog 57 #[pP q] w3.drew fun e w' => e = .returned (.int .i64 (lastI E)) ∧ Below w3.drew.heap.size w3.drew w') := Lib.hid (size_any HD3.out.1.toS)
      obtain ⟨z, hz⟩ : ∃ z : Nat, lastI E = (z : Int) := ⟨(lastI E).toNat, by omega⟩
      have hq3 : q < w3.drew.heap.size := hk3.lt
      obtain ⟨EL, hEL⟩ : ∃ EL, E.length = EL := ⟨_, rfl⟩
      rw [hEL] at c2 hcE hE hz3 hs3
      have HZ3 := Lib.hid hz3
      have HS3 := Lib.hid hs3
      have HEL := Lib.hid hEL
      have HZZ := Lib.hid hz
      obtain ⟨zM, hzM⟩ : ∃ zM, z + M = zM := ⟨_, rfl⟩
      have hzI : (z : Int) + (M : Int) = (zM : Int) := by omega
      have hzw : IntKind.i64.wrap ((z : Int) + (M : Int)) = (zM : Int) := by rw [hzI, IntKind.wrap_i64]; omega
      have hzw' : IntKind.i64.wrap (zM : Int) = (zM : Int) := by rw [IntKind.wrap_i64]; omega
      have HZM := Lib.hid hzM
      have HSZ : Hid (Calls Tryz.prog 57 #[pP q] w3.drew fun e w' => e = .returned (.int .i64 (z : Nat)) ∧ Below w3.drew.heap.size w3.drew w') := Lib.hid (by have := HSZ.out; rw [HZZ.out] at this; exact this)
      clear hz3 hs3 ha3 hh3 hk3 hz hEL hl0 hl1 hzM HD3 HI3
      go_wp2_with fail
      refine wp_region_noPanic ?_
      refine wpAnyH_start (n := 15) (l := #[false, false, false, false, false, false, false, false, false, false, false, false, false, false, false]) (S := fun W => True) (by kernel_rfl) trivial (by kernel_rfl) (by kernel_rfl) ?_
      refine wpAnyH_take (i := 0) (oi := _) (v := ?_) rfl (by kernel_rfl) (by kernel_rfl) (by kernel_rfl) (fun _ _ _ h => h) (Or.inl ⟨by rfl, ?_⟩) trivial ?_
      rotate_left
      · intro wq hSw; go_simp; try with_reducible rfl
      simp only [Act.put, List.setIfInBounds_toArray, List.set_cons_zero, List.set_cons_succ, List.getElem_toArray, List.getElem_cons_zero, List.getElem_cons_succ]
      refine wpAnyH_take (i := 1) (oi := _) (v := ?_) rfl (by kernel_rfl) (by kernel_rfl) (by kernel_rfl) (fun _ _ _ h => h) (Or.inl ⟨by rfl, ?_⟩) trivial ?_
      rotate_left
      · intro wq hSw; go_simp; try with_reducible rfl
      simp only [Act.put, List.setIfInBounds_toArray, List.set_cons_zero, List.set_cons_succ, List.getElem_toArray, List.getElem_cons_zero, List.getElem_cons_succ]
      refine wpAnyH_take (i := 2) (oi := _) (v := ?_) rfl (by kernel_rfl) (by kernel_rfl) (by kernel_rfl) (fun _ _ _ h => h) (Or.inl ⟨by rfl, ?_⟩) trivial ?_
      rotate_left
      · intro wq hSw; go_simp; try with_reducible rfl
      simp only [Act.put, List.setIfInBounds_toArray, List.set_cons_zero, List.set_cons_succ, List.getElem_toArray, List.getElem_cons_zero, List.getElem_cons_succ]
      refine wpAnyH_take (i := 3) (oi := _) (v := ?_) rfl (by kernel_rfl) (by kernel_rfl) (by kernel_rfl) (fun _ _ _ h => h) (Or.inl ⟨by rfl, ?_⟩) trivial ?_
      rotate_left
      · intro wq hSw; go_simp; try with_reducible rfl
      simp only [Act.put, List.setIfInBounds_toArray, List.set_cons_zero, List.set_cons_succ, List.getElem_toArray, List.getElem_cons_zero, List.getElem_cons_succ]
      refine wpAnyH_take (i := 5) (oi := _) (v := ?_) rfl (by kernel_rfl) (by kernel_rfl) (by kernel_rfl) (fun _ _ _ h => h) (Or.inl ⟨by rfl, ?_⟩) trivial ?_
      rotate_left
      · intro wq hSw; go_simp; try with_reducible rfl
      simp only [Act.put, List.setIfInBounds_toArray, List.set_cons_zero, List.set_cons_succ, List.getElem_toArray, List.getElem_cons_zero, List.getElem_cons_succ]
      refine wpAnyH_take (i := 7) (oi := _) (v := ?_) rfl (by kernel_rfl) (by kernel_rfl) (by kernel_rfl) (fun _ _ _ h => h) (Or.inl ⟨by rfl, ?_⟩) trivial ?_
      rotate_left
      · intro wq hSw; go_simp; try with_reducible rfl
      simp only [Act.put, List.setIfInBounds_toArray, List.set_cons_zero, List.set_cons_succ, List.getElem_toArray, List.getElem_cons_zero, List.getElem_cons_succ]
      refine wpAnyH_take (i := 8) (oi := _) (v := ?_) rfl (by kernel_rfl) (by kernel_rfl) (by kernel_rfl) (fun _ _ _ h => h) (Or.inl ⟨by rfl, ?_⟩) trivial ?_
      rotate_left
      · intro wq hSw; go_simp; try with_reducible rfl
      simp only [Act.put, List.setIfInBounds_toArray, List.set_cons_zero, List.set_cons_succ, List.getElem_toArray, List.getElem_cons_zero, List.getElem_cons_succ]
      refine wpAnyH_ready (rs := [4, 6]) (by kernel_rfl) (by simp) ?_
      refine AllReadyH.cons (o := _) rfl (fun K hK => ?_) (AllReadyH.cons (o := _) rfl (fun K hK => ?_) AllReadyH.nil)
      · simp only [List.getElem_toArray, List.getElem_cons_zero, List.getElem_cons_succ]
        go_simp
        refine hK.out _ _ trivial (fun _ => ?_)
        clear hK K
        simp only [Act.put, List.setIfInBounds_toArray, List.set_cons_zero, List.set_cons_succ, List.getElem_toArray, List.getElem_cons_zero, List.getElem_cons_succ]
        refine wpAnyH_ready (rs := [6]) (by kernel_rfl) (by simp) ?_
        refine AllReadyH.cons (o := _) rfl (fun K hK => ?_) AllReadyH.nil
        simp only [List.getElem_toArray, List.getElem_cons_zero, List.getElem_cons_succ]
        go_simp
        refine HSZ.out.mono ?_
        rintro e w4 ⟨rfl, hb4⟩
        refine hK.out _ _ trivial (fun _ => ?_)
        clear hK K
        simp only [Act.put, List.setIfInBounds_toArray, List.set_cons_zero, List.set_cons_succ, List.getElem_toArray, List.getElem_cons_zero, List.getElem_cons_succ]
        refine wpAnyH_take (i := 9) (oi := _) (v := ?_) rfl (by kernel_rfl) (by kernel_rfl) (by kernel_rfl) (fun _ _ _ h => h) (Or.inl ⟨by rfl, ?_⟩) trivial ?_
        rotate_left
        · intro wq hSw; go_simp; try with_reducible rfl
        simp only [Act.put, List.setIfInBounds_toArray, List.set_cons_zero, List.set_cons_succ, List.getElem_toArray, List.getElem_cons_zero, List.getElem_cons_succ]
        refine wpAnyH_ready (rs := [10]) (by kernel_rfl) (by simp) ?_
        refine AllReadyH.cons (o := _) rfl (fun K hK => ?_) AllReadyH.nil
        simp only [List.getElem_toArray, List.getElem_cons_zero, List.getElem_cons_succ]
        go_simp
        refine hK.out _ _ trivial (fun _ => ?_)
        clear hK K
        simp only [Act.put, List.setIfInBounds_toArray, List.set_cons_zero, List.set_cons_succ, List.getElem_toArray, List.getElem_cons_zero, List.getElem_cons_succ]
        have hb5 : Below w3.drew.heap.size w3.drew (w4.alloc (.cells #[.int .i64 (zM : Nat)] 3)) := hb4.alloc hb4.size _
        have hn5 := Blk.new w4 3 [.int .i64 (zM : Nat)]
        have hsz : w3.drew.heap.size ≤ w4.heap.size := hb4.size
        have ho5 := HS3.out.2.1
        rw [HEL.out] at ho5
        have ho5 := (own_below ho5 hb4).alloc (.cells #[.int .i64 (zM : Nat)] 3)
        have hbs : w0.heap.size ≤ w3.drew.heap.size := HZ3.out.bel.size
        have hs45 : w0.heap.size ≤ (w4.alloc (.cells #[.int .i64 (zM : Nat)] 3)).heap.size := by
          have : (w4.alloc (.cells #[.int .i64 (zM : Nat)] 3)).heap.size = w4.heap.size + 1 := by simp
          omega
        clear c2 hb4 HSZ
        refine wpAnyH_ready (rs := [11]) (by kernel_rfl) (by simp) ?_
        refine AllReadyH.cons (o := _) rfl (fun K hK => ?_) AllReadyH.nil
        simp only [List.getElem_toArray, List.getElem_cons_zero, List.getElem_cons_succ]
        rw [if_pos (by rfl)]
        obtain ⟨i0, hi, hz0, hz1, hz2⟩ := infoI_parts infoI
        refine wp_append_nigh (.tmp 36) (.tmp 42) 101 rfl 3 i0 _ 1 8 Tryz.underlying101 hi hz0 hz1 hz2 (by rfl) (by decide) w0.heap.size (.slice spE EL cpE) EL (i64s E) rfl ho5 ⟨w4.heap.size, 0, none⟩ 1 1 [.int .i64 (zM : Nat)] rfl rfl (cell_one_new _ _ _) (by intro u hu; simp at hu; subst hu; rfl) (by unfold maxLen; omega) (by omega) hs45 ?_
        intro v' V hoV hgV hnV
        obtain ⟨sp', cp', rfl, _, _⟩ := ownsRow_slice hoV
        refine hK.out _ _ trivial (fun _ => ?_)
        clear hK K
        simp only [Act.put, List.setIfInBounds_toArray, List.set_cons_zero, List.set_cons_succ, List.getElem_toArray, List.getElem_cons_zero, List.getElem_cons_succ]
        refine wpAnyH_take (i := 12) (oi := _) (v := ?_) rfl (by kernel_rfl) (by kernel_rfl) (by kernel_rfl) (fun _ _ _ h => h) (Or.inl ⟨by rfl, ?_⟩) trivial ?_
        rotate_left
        · intro wq hSw; go_simp; try with_reducible rfl
        simp only [Act.put, List.setIfInBounds_toArray, List.set_cons_zero, List.set_cons_succ, List.getElem_toArray, List.getElem_cons_zero, List.getElem_cons_succ]
        refine wpAnyH_take (i := 13) (oi := _) (v := ?_) rfl (by kernel_rfl) (by kernel_rfl) (by kernel_rfl) (fun _ _ _ h => h) (Or.inl ⟨by rfl, ?_⟩) trivial ?_
        rotate_left
        · intro wq hSw; go_simp; try with_reducible rfl
        simp only [Act.put, List.setIfInBounds_toArray, List.set_cons_zero, List.set_cons_succ, List.getElem_toArray, List.getElem_cons_zero, List.getElem_cons_succ]
        have hfin : InU w0 p S' q n (E ++ [(zM : Int)]) Z w (V.setCell ⟨q, 2, none⟩ (.slice sp' (EL + 1) cp')) := InU.put HZ3.out HS3.out (by rw [← HEL.out]; exact HA3.out) HH3.out hb5 (by rw [List.length_append, HEL.out, i64s_snoc]; exact hoV) hgV hnV
        have hfr : V.frozen? ⟨q, 2, none⟩ = false := SegB.frozen_at HS3.out hb5 hgV
        have hcq : ∃ u, V.cell? ⟨q, 2, none⟩ = some u := SegB.cell_at HS3.out hb5 hgV
        obtain ⟨u2, hcq⟩ := hcq
        have HFIN := Lib.hid hfin
        clear hfin hoV hgV hnV ho5 hn5 hb5
        refine wpAnyH_ready (rs := [14]) (by kernel_rfl) (by simp) ?_
        refine AllReadyH.cons (o := _) rfl (fun K hK => ?_) AllReadyH.nil
        simp only [List.getElem_toArray, List.getElem_cons_zero, List.getElem_cons_succ]
        go_simp
        refine hK.out _ _ trivial (fun _ => ?_)
        clear hK K
        simp only [Act.put, List.setIfInBounds_toArray, List.set_cons_zero, List.set_cons_succ, List.getElem_toArray, List.getElem_cons_zero, List.getElem_cons_succ]
        refine wpAnyH_done (by kernel_rfl) ?_ _
        refine NoPanic.normal ?_
        have hln := len_any HFIN.out.1.toS
        have e1 : (E ++ [(zM : Int)]).length = EL + 1 := by rw [List.length_append, HEL.out]; rfl
        rw [e1] at hln
        have e2 : ((EL + 1 : Nat) : Int) - 1 = (EL : Int) := by omega
        obtain ⟨V2, hV2⟩ : ∃ V2, V.setCell ⟨q, 2, none⟩ (.slice sp' (EL + 1) cp') = V2 := ⟨_, rfl⟩
        rw [hV2] at HFIN hln ⊢
        clear e1 hV2
        go_wp2_with fail
        refine hln.mono ?_
        rintro e w8 ⟨rfl, rfl⟩
        clear hln
        go_wp2_with fail
        go_ret2
        refine HP0.out _ _ ⟨by rw [HEL.out]; rfl, ?_⟩
        rw [HZZ.out, show (z : Int) + (M : Int) = (zM : Int) by have := HZM.out; omega]
        exact HFIN.out
      · simp only [List.getElem_toArray, List.getElem_cons_zero, List.getElem_cons_succ]
        go_simp
        refine HSZ.out.mono ?_
        rintro e w4 ⟨rfl, hb4⟩
        have c24 : w4.cell? ⟨q, 2, none⟩ = some (.slice spE EL cpE) := (hb4.cell (p := ⟨q, 2, none⟩) hq3).trans c2
        have c25 : ∀ o, (w4.alloc o).cell? ⟨q, 2, none⟩ = some (.slice spE EL cpE) := fun o => ((hb4.alloc hb4.size o).cell (p := ⟨q, 2, none⟩) hq3).trans c2
        refine hK.out _ _ trivial (fun _ => ?_)
        clear hK K
        simp only [Act.put, List.setIfInBounds_toArray, List.set_cons_zero, List.set_cons_succ, List.getElem_toArray, List.getElem_cons_zero, List.getElem_cons_succ]
        refine wpAnyH_take (i := 9) (oi := _) (v := ?_) rfl (by kernel_rfl) (by kernel_rfl) (by kernel_rfl) (fun _ _ _ h => h) (Or.inl ⟨by rfl, ?_⟩) trivial ?_
        rotate_left
        · intro wq hSw; go_simp; try with_reducible rfl
        simp only [Act.put, List.setIfInBounds_toArray, List.set_cons_zero, List.set_cons_succ, List.getElem_toArray, List.getElem_cons_zero, List.getElem_cons_succ]
        refine wpAnyH_ready (rs := [4, 10]) (by kernel_rfl) (by simp) ?_
        refine AllReadyH.cons (o := _) rfl (fun K hK => ?_) (AllReadyH.cons (o := _) rfl (fun K hK => ?_) AllReadyH.nil)
        · simp only [List.getElem_toArray, List.getElem_cons_zero, List.getElem_cons_succ]
          go_simp
          refine hK.out _ _ trivial (fun _ => ?_)
          clear hK K
          simp only [Act.put, List.setIfInBounds_toArray, List.set_cons_zero, List.set_cons_succ, List.getElem_toArray, List.getElem_cons_zero, List.getElem_cons_succ]
          clear c24 c25
          refine wpAnyH_ready (rs := [10]) (by kernel_rfl) (by simp) ?_
          refine AllReadyH.cons (o := _) rfl (fun K hK => ?_) AllReadyH.nil
          simp only [List.getElem_toArray, List.getElem_cons_zero, List.getElem_cons_succ]
          go_simp
          refine hK.out _ _ trivial (fun _ => ?_)
          clear hK K
          simp only [Act.put, List.setIfInBounds_toArray, List.set_cons_zero, List.set_cons_succ, List.getElem_toArray, List.getElem_cons_zero, List.getElem_cons_succ]
          have hb5 : Below w3.drew.heap.size w3.drew (w4.alloc (.cells #[.int .i64 (zM : Nat)] 3)) := hb4.alloc hb4.size _
          have hn5 := Blk.new w4 3 [.int .i64 (zM : Nat)]
          have hsz : w3.drew.heap.size ≤ w4.heap.size := hb4.size
          have ho5 := HS3.out.2.1
          rw [HEL.out] at ho5
          have ho5 := (own_below ho5 hb4).alloc (.cells #[.int .i64 (zM : Nat)] 3)
          have hbs : w0.heap.size ≤ w3.drew.heap.size := HZ3.out.bel.size
          have hs45 : w0.heap.size ≤ (w4.alloc (.cells #[.int .i64 (zM : Nat)] 3)).heap.size := by
            have : (w4.alloc (.cells #[.int .i64 (zM : Nat)] 3)).heap.size = w4.heap.size + 1 := by simp
            omega
          clear c2 hb4 HSZ
          refine wpAnyH_ready (rs := [11]) (by kernel_rfl) (by simp) ?_
          refine AllReadyH.cons (o := _) rfl (fun K hK => ?_) AllReadyH.nil
          simp only [List.getElem_toArray, List.getElem_cons_zero, List.getElem_cons_succ]
          rw [if_pos (by rfl)]
          obtain ⟨i0, hi, hz0, hz1, hz2⟩ := infoI_parts infoI
          refine wp_append_nigh (.tmp 36) (.tmp 42) 101 rfl 3 i0 _ 1 8 Tryz.underlying101 hi hz0 hz1 hz2 (by rfl) (by decide) w0.heap.size (.slice spE EL cpE) EL (i64s E) rfl ho5 ⟨w4.heap.size, 0, none⟩ 1 1 [.int .i64 (zM : Nat)] rfl rfl (cell_one_new _ _ _) (by intro u hu; simp at hu; subst hu; rfl) (by unfold maxLen; omega) (by omega) hs45 ?_
          intro v' V hoV hgV hnV
          obtain ⟨sp', cp', rfl, _, _⟩ := ownsRow_slice hoV
          refine hK.out _ _ trivial (fun _ => ?_)
          clear hK K
          simp only [Act.put, List.setIfInBounds_toArray, List.set_cons_zero, List.set_cons_succ, List.getElem_toArray, List.getElem_cons_zero, List.getElem_cons_succ]
          refine wpAnyH_take (i := 12) (oi := _) (v := ?_) rfl (by kernel_rfl) (by kernel_rfl) (by kernel_rfl) (fun _ _ _ h => h) (Or.inl ⟨by rfl, ?_⟩) trivial ?_
          rotate_left
          · intro wq hSw; go_simp; try with_reducible rfl
          simp only [Act.put, List.setIfInBounds_toArray, List.set_cons_zero, List.set_cons_succ, List.getElem_toArray, List.getElem_cons_zero, List.getElem_cons_succ]
          refine wpAnyH_take (i := 13) (oi := _) (v := ?_) rfl (by kernel_rfl) (by kernel_rfl) (by kernel_rfl) (fun _ _ _ h => h) (Or.inl ⟨by rfl, ?_⟩) trivial ?_
          rotate_left
          · intro wq hSw; go_simp; try with_reducible rfl
          simp only [Act.put, List.setIfInBounds_toArray, List.set_cons_zero, List.set_cons_succ, List.getElem_toArray, List.getElem_cons_zero, List.getElem_cons_succ]
          have hfin : InU w0 p S' q n (E ++ [(zM : Int)]) Z w (V.setCell ⟨q, 2, none⟩ (.slice sp' (EL + 1) cp')) := InU.put HZ3.out HS3.out (by rw [← HEL.out]; exact HA3.out) HH3.out hb5 (by rw [List.length_append, HEL.out, i64s_snoc]; exact hoV) hgV hnV
          have hfr : V.frozen? ⟨q, 2, none⟩ = false := SegB.frozen_at HS3.out hb5 hgV
          have hcq : ∃ u, V.cell? ⟨q, 2, none⟩ = some u := SegB.cell_at HS3.out hb5 hgV
          obtain ⟨u2, hcq⟩ := hcq
          have HFIN := Lib.hid hfin
          clear hfin hoV hgV hnV ho5 hn5 hb5
          refine wpAnyH_ready (rs := [14]) (by kernel_rfl) (by simp) ?_
          refine AllReadyH.cons (o := _) rfl (fun K hK => ?_) AllReadyH.nil
          simp only [List.getElem_toArray, List.getElem_cons_zero, List.getElem_cons_succ]
          go_simp
          refine hK.out _ _ trivial (fun _ => ?_)
          clear hK K
          simp only [Act.put, List.setIfInBounds_toArray, List.set_cons_zero, List.set_cons_succ, List.getElem_toArray, List.getElem_cons_zero, List.getElem_cons_succ]
          refine wpAnyH_done (by kernel_rfl) ?_ _
          refine NoPanic.normal ?_
          have hln := len_any HFIN.out.1.toS
          have e1 : (E ++ [(zM : Int)]).length = EL + 1 := by rw [List.length_append, HEL.out]; rfl
          rw [e1] at hln
          have e2 : ((EL + 1 : Nat) : Int) - 1 = (EL : Int) := by omega
          obtain ⟨V2, hV2⟩ : ∃ V2, V.setCell ⟨q, 2, none⟩ (.slice sp' (EL + 1) cp') = V2 := ⟨_, rfl⟩
          rw [hV2] at HFIN hln ⊢
          clear e1 hV2
          go_wp2_with fail
          refine hln.mono ?_
          rintro e w8 ⟨rfl, rfl⟩
          clear hln
          go_wp2_with fail
          go_ret2
          refine HP0.out _ _ ⟨by rw [HEL.out]; rfl, ?_⟩
          rw [HZZ.out, show (z : Int) + (M : Int) = (zM : Int) by have := HZM.out; omega]
          exact HFIN.out
        · simp only [List.getElem_toArray, List.getElem_cons_zero, List.getElem_cons_succ]
          go_simp
          refine hK.out _ _ trivial (fun _ => ?_)
          clear hK K
          simp only [Act.put, List.setIfInBounds_toArray, List.set_cons_zero, List.set_cons_succ, List.getElem_toArray, List.getElem_cons_zero, List.getElem_cons_succ]
          refine wpAnyH_ready (rs := [4]) (by kernel_rfl) (by simp) ?_
          refine AllReadyH.cons (o := _) rfl (fun K hK => ?_) AllReadyH.nil
          simp only [List.getElem_toArray, List.getElem_cons_zero, List.getElem_cons_succ]
          go_simp
          refine hK.out _ _ trivial (fun _ => ?_)
          clear hK K
          simp only [Act.put, List.setIfInBounds_toArray, List.set_cons_zero, List.set_cons_succ, List.getElem_toArray, List.getElem_cons_zero, List.getElem_cons_succ]
          clear c24 c25
          have hb5 : Below w3.drew.heap.size w3.drew (w4.alloc (.cells #[.int .i64 (zM : Nat)] 3)) := hb4.alloc hb4.size _
          have hn5 := Blk.new w4 3 [.int .i64 (zM : Nat)]
          have hsz : w3.drew.heap.size ≤ w4.heap.size := hb4.size
          have ho5 := HS3.out.2.1
          rw [HEL.out] at ho5
          have ho5 := (own_below ho5 hb4).alloc (.cells #[.int .i64 (zM : Nat)] 3)
          have hbs : w0.heap.size ≤ w3.drew.heap.size := HZ3.out.bel.size
          have hs45 : w0.heap.size ≤ (w4.alloc (.cells #[.int .i64 (zM : Nat)] 3)).heap.size := by
            have : (w4.alloc (.cells #[.int .i64 (zM : Nat)] 3)).heap.size = w4.heap.size + 1 := by simp
            omega
          clear c2 hb4 HSZ
          refine wpAnyH_ready (rs := [11]) (by kernel_rfl) (by simp) ?_
          refine AllReadyH.cons (o := _) rfl (fun K hK => ?_) AllReadyH.nil
          simp only [List.getElem_toArray, List.getElem_cons_zero, List.getElem_cons_succ]
          rw [if_pos (by rfl)]
          obtain ⟨i0, hi, hz0, hz1, hz2⟩ := infoI_parts infoI
          refine wp_append_nigh (.tmp 36) (.tmp 42) 101 rfl 3 i0 _ 1 8 Tryz.underlying101 hi hz0 hz1 hz2 (by rfl) (by decide) w0.heap.size (.slice spE EL cpE) EL (i64s E) rfl ho5 ⟨w4.heap.size, 0, none⟩ 1 1 [.int .i64 (zM : Nat)] rfl rfl (cell_one_new _ _ _) (by intro u hu; simp at hu; subst hu; rfl) (by unfold maxLen; omega) (by omega) hs45 ?_
          intro v' V hoV hgV hnV
          obtain ⟨sp', cp', rfl, _, _⟩ := ownsRow_slice hoV
          refine hK.out _ _ trivial (fun _ => ?_)
          clear hK K
          simp only [Act.put, List.setIfInBounds_toArray, List.set_cons_zero, List.set_cons_succ, List.getElem_toArray, List.getElem_cons_zero, List.getElem_cons_succ]
          refine wpAnyH_take (i := 12) (oi := _) (v := ?_) rfl (by kernel_rfl) (by kernel_rfl) (by kernel_rfl) (fun _ _ _ h => h) (Or.inl ⟨by rfl, ?_⟩) trivial ?_
          rotate_left
          · intro wq hSw; go_simp; try with_reducible rfl
          simp only [Act.put, List.setIfInBounds_toArray, List.set_cons_zero, List.set_cons_succ, List.getElem_toArray, List.getElem_cons_zero, List.getElem_cons_succ]
          refine wpAnyH_take (i := 13) (oi := _) (v := ?_) rfl (by kernel_rfl) (by kernel_rfl) (by kernel_rfl) (fun _ _ _ h => h) (Or.inl ⟨by rfl, ?_⟩) trivial ?_
          rotate_left
          · intro wq hSw; go_simp; try with_reducible rfl
          simp only [Act.put, List.setIfInBounds_toArray, List.set_cons_zero, List.set_cons_succ, List.getElem_toArray, List.getElem_cons_zero, List.getElem_cons_succ]
          have hfin : InU w0 p S' q n (E ++ [(zM : Int)]) Z w (V.setCell ⟨q, 2, none⟩ (.slice sp' (EL + 1) cp')) := InU.put HZ3.out HS3.out (by rw [← HEL.out]; exact HA3.out) HH3.out hb5 (by rw [List.length_append, HEL.out, i64s_snoc]; exact hoV) hgV hnV
          have hfr : V.frozen? ⟨q, 2, none⟩ = false := SegB.frozen_at HS3.out hb5 hgV
          have hcq : ∃ u, V.cell? ⟨q, 2, none⟩ = some u := SegB.cell_at HS3.out hb5 hgV
          obtain ⟨u2, hcq⟩ := hcq
          have HFIN := Lib.hid hfin
          clear hfin hoV hgV hnV ho5 hn5 hb5
          refine wpAnyH_ready (rs := [14]) (by kernel_rfl) (by simp) ?_
          refine AllReadyH.cons (o := _) rfl (fun K hK => ?_) AllReadyH.nil
          simp only [List.getElem_toArray, List.getElem_cons_zero, List.getElem_cons_succ]
          go_simp
          refine hK.out _ _ trivial (fun _ => ?_)
          clear hK K
          simp only [Act.put, List.setIfInBounds_toArray, List.set_cons_zero, List.set_cons_succ, List.getElem_toArray, List.getElem_cons_zero, List.getElem_cons_succ]
          refine wpAnyH_done (by kernel_rfl) ?_ _
          refine NoPanic.normal ?_
          have hln := len_any HFIN.out.1.toS
          have e1 : (E ++ [(zM : Int)]).length = EL + 1 := by rw [List.length_append, HEL.out]; rfl
          rw [e1] at hln
          have e2 : ((EL + 1 : Nat) : Int) - 1 = (EL : Int) := by omega
          obtain ⟨V2, hV2⟩ : ∃ V2, V.setCell ⟨q, 2, none⟩ (.slice sp' (EL + 1) cp') = V2 := ⟨_, rfl⟩
          rw [hV2] at HFIN hln ⊢
          clear e1 hV2
          go_wp2_with fail
          refine hln.mono ?_
          rintro e w8 ⟨rfl, rfl⟩
          clear hln
          go_wp2_with fail
          go_ret2
          refine HP0.out _ _ ⟨by rw [HEL.out]; rfl, ?_⟩
          rw [HZZ.out, show (z : Int) + (M : Int) = (zM : Int) by have := HZM.out; omega]
          exact HFIN.out
  · have HP : Hid (∀ e w', (e = .returned (.tuple #[.int .i64 (-1), .int .i64 (c : Nat)]) ∧ InU w0 p S q n E Z w w') → AppPostT w0 p S q n E Z w r e w') := Lib.hid fun e w' hh => by
      unfold AppPostT
      rw [HCC.out, if_pos h0]
      exact hh
    have q1 : ((c : Int) != 0) = true := bne_t (by omega)
    have q2 : (c != 0) = true := by simpa using h0
    clear HCC
    go_enter Tryz.func20, Tryz.ntmps20
    go_wp2_with fail
    refine HENC.out.mono ?_
    rintro e w2 ⟨sp2, cp2, rfl, ho2, hb2⟩
    have HI2 := Lib.hid (HI1.out.below hb2.out)
    clear ho2 hb2 hld hw1 HENC
    go_wp2_with fail
    go_ret2
    exact HP.out _ _ ⟨rfl, HI2.out⟩
def AppPost (w0 : World) (p : Nat) (S : St) (q : Nat) (n : ByteArray) (E : List Int) (r : RT) (e : Ending) (w' : World) : Prop :=
  if chk r ≠ 0 then e = .returned (.tuple #[.int .i64 (-1), .int .i64 (chk r : Nat)]) ∧ InS w0 p S q n E w'
  else if (append S n.data.toList (enc r)).2 ≠ 0 then e = .returned (.tuple #[.int .i64 (-1), .int .i64 ((append S n.data.toList (enc r)).2 : Nat)]) ∧ InS w0 p (append S n.data.toList (enc r)).1 q n E w'
  else e = .returned (.tuple #[.int .i64 (E.length : Nat), .int .i64 0]) ∧ InS w0 p (append S n.data.toList (enc r)).1 q n (E ++ [lastI E + ((enc r).length : Nat)]) w'
theorem append_any {w0 w : World} {p q : Nat} {S : St} {n : ByteArray} {E : List Int} (r : RT) (h : InS w0 p S q n E w) (hT : Tab w) (hk : r.key.size ≤ maxLen) (hr : r.val.size ≤ maxLen) (hn : n.size ≤ maxLen) (hc : S.calls ≤ 1099511627776) (hE : E.length ≤ 1000000) (hl0 : 0 ≤ lastI E) (hl1 : lastI E ≤ 1099511627776) :
    Calls Tryz.prog 20 #[pP q, .agg #[.int .i64 r.kind, .int .i64 r.seq, .string r.key, .string r.val]] w (AppPost w0 p S q n E r) := by
  refine (append_t r (InT.ofS h) hT hk hr hn hc hE hl0 hl1).mono fun e w' hp => ?_
  unfold AppPostT at hp
  unfold AppPost
  by_cases h1 : chk r ≠ 0
  · rw [if_pos h1] at hp ⊢
    exact ⟨hp.1, hp.2.1.toS⟩
  · rw [if_neg h1] at hp ⊢
    by_cases h2 : (append S n.data.toList (enc r)).2 ≠ 0
    · rw [if_pos h2] at hp ⊢
      exact ⟨hp.1, hp.2.1.toS⟩
    · rw [if_neg h2] at hp ⊢
      exact ⟨hp.1, hp.2.1.toS⟩
end Go.Proofs.YtdjkkohckfndkaaGreatDoor.S15

/- An index of the call's own: contracts as states; begun; no index. -/
import Derived.Test.YthgpdnffahmhjaaIxE
set_option linter.unusedSimpArgs false
set_option linter.unusedVariables false
set_option linter.unusedSectionVars false
set_option maxRecDepth 100000
namespace Go.Proofs.Ythgpdnffahmhjaa.S20
open Go.RowKit Go.Maps Go.Shelf
/-- block p is an index that the call made -/
def InX (w0 : World) (p : Nat) (S : IX) (N : Nat) (w : World) : Prop := ∃ l, l.p = p ∧ IsIX w l S N ∧ LOk S ∧ Below w0.heap.size w0 w ∧ ∀ b, l.at b → w0.heap.size ≤ b
theorem drop1_ok {S : IX} (h : LOk S) (k : ByteArray) : LOk (drop1 S k) := by
  unfold drop1
  split
  · intro y z hz
    simp only [fdel] at hz
    split at hz
    · cases hz
    · exact h y z hz
  · exact h
theorem place1_ok {S : IX} (h : LOk S) (k : ByteArray) {x : LT} (hx : (Lit.int .i64 x.seg).wf = true) : LOk (place1 S k x) := by
  intro y z hz
  simp only [place1, fput] at hz
  split at hz
  · cases hz; exact hx
  · exact drop1_ok h k y z hz
theorem put1_ok {S : IX} (h : LOk S) (k : ByteArray) {x : LT} (hx : (Lit.int .i64 x.seg).wf = true) : LOk (put1 S k x) := place1_ok (S := { S with gone := fdel S.gone k }) h k hx
theorem del1_ok {S : IX} (h : LOk S) (k : ByteArray) (q : Int) : LOk (del1 S k q) := drop1_ok (S := S) h k
namespace InX
variable {w0 w w' : World} {p : Nat} {S S' : IX} {N N' : Nat}
theorem bel (h : InX w0 p S N w) : Below w0.heap.size w0 w := by obtain ⟨_, _, _, _, h, _⟩ := h; exact h
theorem below (h : InX w0 p S N w) (hb : Below w.heap.size w w') : InX w0 p S N w' := by
  obtain ⟨l, e, hi, hl, hw, hf⟩ := h
  exact ⟨l, e, hi.below hb, hl, hw.trans (hb.mono hw.size), hf⟩
theorem more (h : InX w0 p S N w) (hN : N ≤ N') : InX w0 p S N' w := by
  obtain ⟨l, e, hi, hl, hw, hf⟩ := h
  exact ⟨l, e, hi.more hN, hl, hw, hf⟩
theorem gone {l : IL} (hp : l.p = p) (hw : Below w0.heap.size w0 w) (hf : ∀ b, l.at b → w0.heap.size ≤ b) (hl : LOk S') (h : Gone w l S' N' w') : InX w0 p S' N' w' := by
  obtain ⟨l2, e, hi, hs⟩ := h
  exact ⟨l2, e.trans hp, hi.out, hl, hw.trans (hs.out.below hw.size hf), hs.out.base hw.size hf⟩
end InX
theorem apart_n (b : Option Nat) : apart none b := fun x h => by cases h
def S0 : IX := ⟨fun _ => none, 0, fun _ => none, fun _ => 0, fun _ => 0⟩
def buildX (v : Array (Nat × Value)) : Sem Value := Instr.build 50 v
theorem buildX_eq (v : Array (Nat × Value)) : Instr.build 50 v = buildX v := rfl
theorem run_buildX0 (w : World) : (buildX #[]).run Try.prog w = .ok (.agg #[.map none, .map none, .map none, .map none]) w := by kernel_rfl
def buildL (v : Array (Nat × Value)) : Sem Value := Instr.build 30 v
theorem buildL_eq (v : Array (Nat × Value)) : Instr.build 30 v = buildL v := rfl
theorem run_buildL0 (w : World) : (buildL #[]).run Try.prog w = .ok (.agg #[.int .i64 0, .int .i64 0, .int .i64 0]) w := by kernel_rfl
theorem run_buildL3 (w : World) (a b c : Int) : (buildL #[(0, .int .i64 a), (1, .int .i64 b), (2, .int .i64 c)]).run Try.prog w = .ok (.agg #[.int .i64 a, .int .i64 b, .int .i64 c]) w := by kernel_rfl
theorem run_buildL2 (w : World) (a c : Int) : (buildL #[(0, .int .i64 a), (2, .int .i64 c)]).run Try.prog w = .ok (.agg #[.int .i64 a, .int .i64 0, .int .i64 c]) w := by kernel_rfl
theorem run_buildL1 (w : World) (c : Int) : (buildL #[(2, .int .i64 c)]).run Try.prog w = .ok (.agg #[.int .i64 0, .int .i64 0, .int .i64 c]) w := by kernel_rfl
attribute [local go_sem ↓] loadL_eq storeL_eq buildX_eq buildL_eq
attribute [local go_sem] run_buildX0 run_buildL0 run_buildL1 run_buildL2 run_buildL3
set_option maxHeartbeats 4000000 in
theorem new_any (w : World) : Calls Try.prog 9 #[] w fun e w' => ∃ p, e = .returned (pI p) ∧ Hid (InX w p S0 0 w') := by
  have hk := Blk.new w 50 [.map none, .map none, .map none, .map none]
  obtain ⟨w1, hw1⟩ : ∃ w1, w.alloc (.cells #[.map none, .map none, .map none, .map none] 50) = w1 := ⟨_, rfl⟩
  have hb : Below w.heap.size w w1 := by rw [← hw1]; exact (Below.refl _ _).alloc (Nat.le_refl _) _
  have hk1 : Blk w1 w.heap.size 50 [.map none, .map none, .map none, .map none] := by rw [← hw1]; exact hk
  have hI : InX w w.heap.size S0 0 w1 := ⟨⟨w.heap.size, none, none, none, none⟩, rfl,
    ⟨hk1, MF.none_ _ _ _ (fun k => rfl), ⟨0, Nat.le_refl _, MF.none_ _ _ _ (fun k => rfl)⟩, ⟨0, Nat.le_refl _, MF.none_ _ _ _ (fun k => rfl)⟩, ⟨0, Nat.le_refl _, MF.none_ _ _ _ (fun k => rfl)⟩, Nat.le_refl _,
      fun a => by simp [S0], fun a => by simp [S0], apart_n _, apart_n _, apart_n _, apart_n _, apart_n _, apart_n _⟩, (fun k x h => by cases h), hb, by
      intro b hb
      rcases hb with rfl | hb | hb | hb | hb
      · exact Nat.le_refl _
      all_goals cases hb⟩
  have HI := Lib.hid hI
  clear hI hk hk1 hb
  go_enter Try.func9, Try.ntmps9
  go_wp2_with fail
  go_ret
  exact ⟨_, rfl, HI⟩
section
variable {w0 w : World} {p : Nat} {S : IX} {N : Nat}
theorem put_h (k : ByteArray) (x : LT) (h : InX w0 p S N w) (hN : N ≤ 99999980) (hk : k.size ≤ 1000000) (hx : (Lit.int .i64 x.seg).wf = true) :
    Calls Try.prog 11 #[pI p, .string k, .agg #[.int .i64 x.seg, .int .i64 x.pos, .int .i64 x.seq]] w fun e w' => e = .returned (.bool (newsB S k x.seq)) ∧ Hid (InX w0 p (if newsB S k x.seq then put1 S k x else S) (N + 3) w') := by
  obtain ⟨l, rfl, hi, hl, hw, hf⟩ := h
  refine (put_any l S N k x w hi hN hk hx hl).mono ?_
  rintro e w' ⟨rfl, hG⟩
  exact ⟨rfl, Lib.hid (InX.gone rfl hw hf (by split; exact put1_ok hl k hx; exact hl) hG)⟩
theorem del_h (k : ByteArray) (q : Int) (h : InX w0 p S N w) (hN : N ≤ 99999980) (hk : k.size ≤ 1000000) :
    Calls Try.prog 10 #[pI p, .string k, .int .i64 q] w fun e w' => e = .returned (.bool (newsB S k q)) ∧ Hid (InX w0 p (if newsB S k q then del1 S k q else S) (N + 3) w') := by
  obtain ⟨l, rfl, hi, hl, hw, hf⟩ := h
  refine (del_any l S N k q w hi hN hk hl).mono ?_
  rintro e w' ⟨rfl, hG⟩
  exact ⟨rfl, Lib.hid (InX.gone rfl hw hf (by split; exact del1_ok hl k q; exact hl) hG)⟩
theorem move_h (k : ByteArray) (x y : LT) (h : InX w0 p S N w) (hN : N ≤ 99999980) (hk : k.size ≤ 1000000) (hy : (Lit.int .i64 y.seg).wf = true) :
    Calls Try.prog 14 #[pI p, .string k, .agg #[.int .i64 x.seg, .int .i64 x.pos, .int .i64 x.seq], .agg #[.int .i64 y.seg, .int .i64 y.pos, .int .i64 y.seq]] w fun e w' => e = .returned (.bool (mayMove S k x y)) ∧ Hid (InX w0 p (if mayMove S k x y then place1 S k y else S) (N + 3) w') := by
  obtain ⟨l, rfl, hi, hl, hw, hf⟩ := h
  refine (move_any l S N k x y w hi hN hk hy hl).mono ?_
  rintro e w' ⟨rfl, hG⟩
  exact ⟨rfl, Lib.hid (InX.gone rfl hw hf (by split; exact place1_ok hl k hy; exact hl) hG)⟩
theorem hold_h (a : Int) (h : InX w0 p S N w) (hN : N ≤ 99999980) (ha : (Lit.int .i64 a).wf = true) :
    Calls Try.prog 13 #[pI p, .int .i64 a] w fun e w' => e = .returned (.tuple #[]) ∧ Hid (InX w0 p { S with rd := cadd S.rd a 1 } (N + 1) w') := by
  obtain ⟨l, rfl, hi, hl, hw, hf⟩ := h
  refine (hold_any l S N a w hi hN ha).mono ?_
  rintro e w' ⟨rfl, hG⟩
  exact ⟨rfl, Lib.hid (InX.gone rfl hw hf hl hG)⟩
theorem free_h (a : Int) (h : InX w0 p S N w) (hN : N ≤ 99999980) (ha : (Lit.int .i64 a).wf = true) :
    Calls Try.prog 18 #[pI p, .int .i64 a] w fun e w' => e = .returned (.bool (if S.rd a = 0 then false else decide (S.rd a = 1))) ∧ Hid (InX w0 p (if S.rd a = 0 then S else { S with rd := cadd S.rd a (-1) }) (N + 1) w') := by
  obtain ⟨l, rfl, hi, hl, hw, hf⟩ := h
  refine (free_any l S N a w hi hN ha).mono ?_
  rintro e w' ⟨rfl, hG⟩
  exact ⟨rfl, Lib.hid (InX.gone rfl hw hf (by split <;> exact hl) hG)⟩
theorem get_h (k : ByteArray) (h : InX w0 p S N w) (hk : k.size ≤ 1000000) :
    Calls Try.prog 12 #[pI p, .string k] w fun e w' => e = .returned (.tuple #[locV ((S.loc k).getD ⟨0, 0, 0⟩), .bool (S.loc k).isSome]) ∧ Hid (InX w0 p S N w') ∧ Hid (Below w.heap.size w w') := by
  obtain ⟨l, rfl, hi, hl, hw, hf⟩ := h
  refine (get_any l S N k w hi (by unfold maxLen; omega)).mono ?_
  rintro e w' ⟨rfl, hb⟩
  exact ⟨rfl, Lib.hid (InX.below ⟨l, rfl, hi, hl, hw, hf⟩ hb), Lib.hid hb⟩
theorem len_h (h : InX w0 p S N w) : Calls Try.prog 15 #[pI p] w fun e w' => e = .returned (.int .i64 (S.n : Nat)) ∧ w' = w := by
  obtain ⟨l, rfl, hi, hl, hw, hf⟩ := h
  exact len_any l S N w hi
theorem count_h (a : Int) (h : InX w0 p S N w) (ha : (Lit.int .i64 a).wf = true) : Calls Try.prog 17 #[pI p, .int .i64 a] w fun e w' => e = .returned (.int .i64 (S.cnt a)) ∧ w' = w := by
  obtain ⟨l, rfl, hi, hl, hw, hf⟩ := h
  exact count_any l S N a w hi ha
theorem held_h (a : Int) (h : InX w0 p S N w) (ha : (Lit.int .i64 a).wf = true) : Calls Try.prog 19 #[pI p, .int .i64 a] w fun e w' => e = .returned (.int .i64 (S.rd a)) ∧ w' = w := by
  obtain ⟨l, rfl, hi, hl, hw, hf⟩ := h
  exact held_any l S N a w hi ha
theorem keys_h (h : InX w0 p S N w) (hN : N ≤ 99999980) : Calls Try.prog 16 #[pI p] w fun e w' => ∃ v ss, e = .returned v ∧ w'.ownsRow w.heap.size 9 1 v ss.length (ss.map encStr) ∧ KeysT S ss ∧ Below w.heap.size w w' := by
  obtain ⟨l, rfl, hi, hl, hw, hf⟩ := h
  exact keys_any l S N w hi hN
end
def kK : ByteArray := ⟨#[107]⟩
def B1 : IX := put1 S0 kK ⟨2, 3, 5⟩
def B2 : IX := del1 B1 kK 6
theorem B_is : newsB S0 kK 5 = true ∧ newsB B1 kK 4 = false ∧ B1.loc kK = some ⟨2, 3, 5⟩ ∧ B1.n = 1 ∧ B1.cnt 2 = 1 ∧ newsB B1 kK 5 = false ∧ newsB B1 kK 6 = true ∧ B2.n = 0 := by decide +kernel
set_option maxHeartbeats 8000000 in
theorem begun_any (w : World) : Calls Try.prog 8 #[] w fun e w' => e = .returned (.bool true) ∧ Below w.heap.size w w' := by
  obtain ⟨b1, b2, b3, b4, b5, b6, b7, b8⟩ := B_is
  have hnw := new_any w
  have HB3 := Lib.hid b3
  clear b3
  go_enter Try.func8, Try.ntmps8
  go_wp2_with fail
  refine hnw.mono ?_
  rintro e w1 ⟨p, rfl, h1⟩
  have h := put_h kK ⟨2, 3, 5⟩ h1.out (by omega) (by decide) (by decide)
  simp only [b1, if_true] at h
  clear hnw
  go_wp2_with fail
  refine h.mono ?_
  rintro e w2 ⟨rfl, h2⟩
  have h2 : Hid (InX w p B1 3 w2) := h2
  clear h h1
  have h := put_h kK ⟨9, 0, 4⟩ h2.out (by omega) (by decide) (by decide)
  simp only [b2] at h
  go_wp2_with fail
  refine h.mono ?_
  rintro e w3 ⟨rfl, h3⟩
  have h3 : Hid (InX w p B1 6 w3) := h3
  clear h h2
  have h := get_h kK h3.out (by decide)
  rw [HB3.out] at h
  simp only [Option.getD_some, Option.isSome_some, locV] at h
  go_wp2_with fail
  refine h.mono ?_
  rintro e w4 ⟨rfl, h4, hb4⟩
  obtain ⟨w5, w6, hw5, hst, hk6, hb6⟩ := own_loc w4 ⟨2, 3, 5⟩
  simp only [locV] at hst
  have c0 : w6.cell? ⟨w4.heap.size, 0, none⟩ = some (.int .i64 2) := hk6.cell rfl
  have h6 := Lib.hid (h4.out.below hb6)
  have hln := len_h h6.out
  simp only [b4] at hln
  clear h h3 hb4 hb6 h4 hk6
  go_wp2_with fail
  refine hln.mono ?_
  rintro e w7 ⟨rfl, rfl⟩
  have hct := count_h 2 h6.out (by decide)
  simp only [b5] at hct
  clear hln
  go_wp2_with fail
  refine hct.mono ?_
  rintro e w8 ⟨rfl, rfl⟩
  have h := del_h kK 5 h6.out (by omega) (by decide)
  simp only [b6] at h
  clear hct
  go_wp2_with fail
  refine h.mono ?_
  rintro e w9 ⟨rfl, h9⟩
  have h9 : Hid (InX w p B1 9 w9) := h9
  clear h h6 c0
  have h := del_h kK 6 h9.out (by omega) (by decide)
  simp only [b7, if_true] at h
  go_wp2_with fail
  refine h.mono ?_
  rintro e wa ⟨rfl, ha⟩
  have ha : Hid (InX w p B2 12 wa) := ha
  have hln := len_h ha.out
  simp only [b8] at hln
  clear h h9
  go_wp2_with fail
  refine hln.mono ?_
  rintro e wb ⟨rfl, rfl⟩
  clear hln
  go_wp2_with fail
  go_ret
  exact ⟨rfl, ha.out.bel⟩
end Go.Proofs.Ythgpdnffahmhjaa.S20

/- Keys by numbers; IndexMany. -/
import Derived.Test.YthgpdnffahmhjaaIxI
import Derived.Test.YthgpdnffahmhjaaStrs
set_option linter.unusedSimpArgs false
set_option linter.unusedVariables false
set_option linter.unusedSectionVars false
set_option maxRecDepth 100000
namespace Go.Proofs.Ythgpdnffahmhjaa.S20
open Go.RowKit Go.Maps Go.Shelf
def nm (k : Nat) : ByteArray := ⟨#[107]⟩ ++ str [97 + k / 26 % 26, 97 + k % 26]
theorem nm_inj {a b : Nat} (ha : a < 676) (hb : b < 676) (h : nm a = nm b) : a = b := by
  have h1 : (nm a).data.toList = (nm b).data.toList := by rw [h]
  simp only [nm, ByteArray.data_append, Array.toList_append, List.append_cancel_left_eq] at h1
  have h2 := str_inj (A := [97 + a / 26 % 26, 97 + a % 26]) (B := [97 + b / 26 % 26, 97 + b % 26]) (by intro x hx; simp at hx; omega) (by intro x hx; simp at hx; omega) (ByteArray.ext (Array.toList_inj.1 h1))
  simp at h2
  omega
theorem nm_size (k : Nat) : (nm k).size ≤ 1000000 := by
  unfold nm
  rw [ByteArray.size_append]
  have h1 : (str [97 + k / 26 % 26, 97 + k % 26]).size = 2 := rfl
  have h2 : (ByteArray.mk #[107]).size = 1 := rfl
  omega
attribute [local go_sem ↓] loadL_eq storeL_eq buildL_eq conv_eq
attribute [local go_sem] run_buildL3
set_option maxHeartbeats 4000000 in
theorem name_any (i : Nat) (hi : i < 200) (w : World) : Calls Try.prog 20 #[.int .i64 (i : Nat)] w fun e w' => e = .returned (.string (nm i)) ∧ Hid (Below w.heap.size w w') := by
  have d1 : (i : Int).tdiv 26 = ((i / 26 : Nat) : Int) := (Int.ofNat_tdiv i 26).symm
  have d2 : ((i / 26 : Nat) : Int).tmod 26 = ((i / 26 % 26 : Nat) : Int) := (Int.ofNat_tmod (i / 26) 26).symm
  have d3 : (i : Int).tmod 26 = ((i % 26 : Nat) : Int) := (Int.ofNat_tmod i 26).symm
  unfold nm
  obtain ⟨z, hz⟩ : ∃ z, i / 26 = z := ⟨_, rfl⟩
  rw [hz] at d1 d2 ⊢
  obtain ⟨x, hx⟩ : ∃ x, z % 26 = x := ⟨_, rfl⟩
  obtain ⟨y, hy⟩ : ∃ y, i % 26 = y := ⟨_, rfl⟩
  have hx26 : x < 26 := by omega
  have hy26 : y < 26 := by omega
  rw [hx] at d2 ⊢
  rw [hy] at d3 ⊢
  have e0 : wrap64 (z : Int) = z := by unfold wrap64; omega
  have e1 : IntKind.u8.wrap (97 + (x : Int)) = 97 + (x : Int) := by rw [IntKind.wrap_u8]; omega
  have e2 : IntKind.u8.wrap (97 + (y : Int)) = 97 + (y : Int) := by rw [IntKind.wrap_u8]; omega
  have e3 : IntKind.i64.wrap (97 + (x : Int)) = 97 + (x : Int) := by rw [IntKind.wrap_i64]; omega
  have e4 : IntKind.i64.wrap (97 + (y : Int)) = 97 + (y : Int) := by rw [IntKind.wrap_i64]; omega
  obtain ⟨wa, hwa⟩ : ∃ wa, w.alloc (.cells #[.int .u8 (97 + (x : Int)), .int .u8 (97 + (y : Int))] 5) = wa := ⟨_, rfl⟩
  have hby : IsBytes wa (.slice (some ⟨w.heap.size, 0, none⟩) 2 2) [97 + x, 97 + y] := by rw [← hwa]; exact isBytes_mark w [97 + x, 97 + y] (0, 0) (by simp; omega) (by unfold maxLen; simp)
  have hcv := run_conv hby
  have HB : Hid (Below w.heap.size w wa) := Lib.hid (by rw [← hwa]; exact (Below.refl _ _).alloc (Nat.le_refl _) _)
  obtain ⟨d, hd⟩ : ∃ d, str [97 + x, 97 + y] = d := ⟨_, rfl⟩
  rw [hd] at hcv ⊢
  have hds : d.size = 2 := by rw [← hd]; rfl
  have hcat : (ByteArray.mk #[107]).size + d.size ≤ 9223372036854775807 := by rw [hds]; decide
  clear hby hd hx hy hz hx26 hy26 hds
  go_enter Try.func20, Try.ntmps20
  go_wp2_with fail
  go_ret
  exact ⟨rfl, HB⟩
/-! two hundred bools -/
def onC (B : Nat → Bool) : List Value := (List.range 200).map fun k => .bool (B k)
theorem onC_get (B : Nat → Bool) {k : Nat} (hk : k < 200) : (onC B)[k]? = some (.bool (B k)) := by simp [onC, hk]
theorem onC_set (B : Nat → Bool) {k : Nat} (hk : k < 200) : (onC B).set k (.bool true) = onC (fun x => if x = k then true else B x) := by
  refine List.ext_getElem (by simp [onC]) fun i h1 h2 => ?_
  rw [List.getElem_set]
  by_cases e : k = i
  · subst e; simp [onC]
  · simp [onC, e, Ne.symm e]
theorem onC_len (B : Nat → Bool) : (onC B).length = 200 := by simp [onC]
def onZ : List Value := onC fun _ => false
theorem zero_on (w : World) : (zeroValue 43).run Try.prog w = .ok (.agg onZ.toArray) w := by kernel_rfl
def allocOn (b : Bool) (v : Value) : Sem Value := Instr.alloc 43 b v
theorem allocOn_eq (b : Bool) (v : Value) : Instr.alloc 43 b v = allocOn b v := rfl
theorem run_allocOn (w : World) (v : Value) : (allocOn true v).run Try.prog w = .ok (.pointer (some ⟨w.heap.size, 0, none⟩)) (w.alloc (.cells onZ.toArray 43)) := by
  unfold allocOn Instr.alloc
  rw [Sem.run_bind, zero_on]
  cases v <;> rfl
/-- what is known of the keys that were put: those of B, m of them, the last at i -/
structure Many (S : IX) (B : Nat → Bool) (i m : Nat) : Prop where
  yes : ∀ k, k < 200 → B k = true → ∃ q : Int, S.loc (nm k) = some ⟨((k % 5 : Nat) : Int) + 1, k, q⟩ ∧ q ≤ i
  no : ∀ k, k < 200 → B k = false → S.loc (nm k) = none
  gone : ∀ k, S.gone k = none
  n : S.n = m
  pos : ∀ k, k < 200 → B k = true → 1 ≤ m
  sum : S.cnt 1 + S.cnt 2 + S.cnt 3 + S.cnt 4 + S.cnt 5 = m
theorem many_start : Many S0 (fun _ => false) 0 0 := ⟨fun k _ h => (by cases h), fun k _ _ => rfl, fun _ => rfl, rfl, fun k _ h => (by cases h), rfl⟩
theorem Many.news {S : IX} {B : Nat → Bool} {i m : Nat} (h : Many S B i m) {k : Nat} (hk : k < 200) : newsB S (nm k) ((i : Int) + 1) = true := by
  unfold newsB
  cases hB : B k with
  | true =>
    obtain ⟨q, e, hq⟩ := h.yes k hk hB
    rw [e]
    exact decide_eq_true (by show q < (i : Int) + 1; omega)
  | false => rw [h.no k hk hB, h.gone]
def on1 (B : Nat → Bool) (k : Nat) : Nat → Bool := fun x => if x = k then true else B x
theorem Many.step {S : IX} {B : Nat → Bool} {i m : Nat} (h : Many S B i m) {k : Nat} (hk : k < 200) : Many (put1 S (nm k) ⟨((k % 5 : Nat) : Int) + 1, k, (i : Int) + 1⟩) (on1 B k) (i + 1) (if B k then m else m + 1) := by
  have hs : ∀ (c : Int → Int) (d : Int), cadd c (((k % 5 : Nat) : Int) + 1) d 1 + cadd c (((k % 5 : Nat) : Int) + 1) d 2 + cadd c (((k % 5 : Nat) : Int) + 1) d 3 + cadd c (((k % 5 : Nat) : Int) + 1) d 4 + cadd c (((k % 5 : Nat) : Int) + 1) d 5 = c 1 + c 2 + c 3 + c 4 + c 5 + d := by
    intro c d
    have h5 : k % 5 = 0 ∨ k % 5 = 1 ∨ k % 5 = 2 ∨ k % 5 = 3 ∨ k % 5 = 4 := by omega
    simp only [cadd]
    rcases h5 with e | e | e | e | e <;> rw [e] <;> simp <;> omega
  have hne : ∀ j, j < 200 → j ≠ k → nm j ≠ nm k := fun j hj hn e => hn (nm_inj (by omega) (by omega) e)
  cases hB : B k with
  | false =>
    have hL := h.no k hk hB
    have hd : drop1 { S with gone := fdel S.gone (nm k) } (nm k) = { S with gone := fdel S.gone (nm k) } := by unfold drop1; simp only [hL]
    refine ⟨fun j hj hBj => ?_, fun j hj hBj => ?_, fun x => ?_, ?_, ?_, ?_⟩
    · simp only [put1, place1, hd, fput]
      by_cases e : j = k
      · subst e; exact ⟨(i : Int) + 1, by simp, by omega⟩
      · rw [if_neg (hne j hj e)]
        obtain ⟨q, h1, h2⟩ := h.yes j hj (by simpa [on1, e] using hBj)
        exact ⟨q, h1, by omega⟩
    · simp only [put1, place1, hd, fput]
      by_cases e : j = k
      · subst e; simp [on1] at hBj
      · rw [if_neg (hne j hj e)]
        exact h.no j hj (by simpa [on1, e] using hBj)
    · simp only [put1, place1, hd, fdel, h.gone]; split <;> rfl
    · simp only [put1, place1, hd]; rw [h.n]; rfl
    · intro _ _ _; simp
    · simp only [put1, place1, hd, hs, h.sum]; simp
  | true =>
    obtain ⟨q, hL, hq⟩ := h.yes k hk hB
    have hd : drop1 { S with gone := fdel S.gone (nm k) } (nm k) = { S with gone := fdel S.gone (nm k), loc := fdel S.loc (nm k), n := S.n - 1, cnt := cadd S.cnt (((k % 5 : Nat) : Int) + 1) (-1) } := by unfold drop1; simp only [hL]
    refine ⟨fun j hj hBj => ?_, fun j hj hBj => ?_, fun x => ?_, ?_, ?_, ?_⟩
    · simp only [put1, place1, hd, fput, fdel]
      by_cases e : j = k
      · subst e; exact ⟨(i : Int) + 1, by simp, by omega⟩
      · rw [if_neg (hne j hj e), if_neg (hne j hj e)]
        obtain ⟨q, h1, h2⟩ := h.yes j hj (by simpa [on1, e] using hBj)
        exact ⟨q, h1, by omega⟩
    · simp only [put1, place1, hd, fput, fdel]
      by_cases e : j = k
      · subst e; simp [on1] at hBj
      · rw [if_neg (hne j hj e), if_neg (hne j hj e)]
        exact h.no j hj (by simpa [on1, e] using hBj)
    · simp only [put1, place1, hd, fdel, h.gone]; split <;> rfl
    · simp only [put1, place1, hd]
      rw [h.n]
      have := h.pos k hk hB
      show m - 1 + 1 = m
      omega
    · intro _ _ _; exact h.pos k hk hB
    · simp only [put1, place1, hd, hs, h.sum, if_true]; omega
theorem Many.yes' {S : IX} {B : Nat → Bool} {i m : Nat} (h : Many S B i m) {k : Nat} (hk : k < 200) : (B k = true ∧ ∃ q : Int, S.loc (nm k) = some ⟨((k % 5 : Nat) : Int) + 1, k, q⟩) ∨ (B k = false ∧ S.loc (nm k) = none) := by
  cases hB : B k with
  | true => obtain ⟨q, e, _⟩ := h.yes k hk hB; exact .inl ⟨rfl, q, e⟩
  | false => exact .inr ⟨rfl, h.no k hk hB⟩
def psum (c : Int → Int) : Nat → Int
  | 0 => 0
  | j + 1 => psum c j + c ((j : Int) + 1)
theorem psum5 (c : Int → Int) : psum c 5 = c 1 + c 2 + c 3 + c 4 + c 5 := by simp [psum]
theorem psum_bd (c : Int → Int) (N : Nat) (h : ∀ a, -(N : Int) ≤ c a ∧ c a ≤ N) : ∀ j, -((j * N : Nat) : Int) ≤ psum c j ∧ psum c j ≤ ((j * N : Nat) : Int)
  | 0 => by simp [psum]
  | j + 1 => by
    have h1 := psum_bd c N h j
    have h2 := h ((j : Int) + 1)
    have e : (((j + 1) * N : Nat) : Int) = ((j * N : Nat) : Int) + N := by rw [Nat.succ_mul]; simp
    rw [e, psum]
    omega
theorem InX.cb {w0 w : World} {p N : Nat} {S : IX} (h : InX w0 p S N w) : ∀ a, -(N : Int) ≤ S.cnt a ∧ S.cnt a ≤ N := by
  obtain ⟨l, _, hi, _⟩ := h; exact hi.bc
theorem less_lt : ∀ a b : List UInt8, Op.bytesLess a b = true ↔ a < b
  | [], [] => by simp [Op.bytesLess]
  | [], _ :: _ => by simp [Op.bytesLess]
  | _ :: _, [] => by simp [Op.bytesLess]
  | a :: r, b :: s => by
    simp only [Op.bytesLess, Bool.or_eq_true, Bool.and_eq_true, decide_eq_true_eq, beq_iff_eq, List.cons_lt_cons_iff, less_lt r s]
/-- of two rising strings the later one is not at most the earlier -/
theorem up_facts {a b : List UInt8} (h : a < b) : Op.bytesLess (⟨b.toArray⟩ : ByteArray).toList (⟨a.toArray⟩ : ByteArray).toList = false ∧ ((⟨b.toArray⟩ : ByteArray).toList == (⟨a.toArray⟩ : ByteArray).toList) = false := by
  rw [ByteArray.toList_eq, ByteArray.toList_eq]
  simp only []
  constructor
  · cases hc : Op.bytesLess b a with
    | false => rfl
    | true => exact absurd (List.lt_trans h ((less_lt b a).1 hc)) (List.lt_irrefl _)
  · rw [beq_eq_false_iff_ne]
    rintro rfl
    exact absurd h (List.lt_irrefl _)
attribute [local go_sem ↓] allocOn_eq
attribute [local go_sem] run_allocOn
set_option maxHeartbeats 16000000 in
theorem indexMany_walk (n st : Int) (w : World) (hn : (Lit.int .i64 n).wf = true) (hst : (Lit.int .i64 st).wf = true) : Calls Try.prog 7 #[.int .i64 n, .int .i64 st] w fun e w' => e = .returned (.bool true) ∧ Below w.heap.size w w' := by
  have hbg := begun_any w
  clear hn hst
  go_enter Try.func7, Try.ntmps7
  go_wp2_with fail
  refine hbg.mono ?_
  rintro e w1 ⟨rfl, hb1⟩
  have HB1 := Lib.hid hb1
  clear hbg
  by_cases h1 : n < 1
  · have q1 : decide (n < 1) = true := decide_eq_true h1
    go_wp2_with fail
    go_ret
    exact ⟨rfl, HB1.out⟩
  have q1 : decide (n < 1) = false := decide_eq_false h1
  by_cases h2 : 200 < n
  · have q2 : decide (200 < n) = true := decide_eq_true h2
    go_wp2_with fail
    go_ret
    exact ⟨rfl, HB1.out⟩
  have q2 : decide (200 < n) = false := decide_eq_false h2
  by_cases h3 : st < 1
  · have q3 : decide (st < 1) = true := decide_eq_true h3
    go_wp2_with fail
    go_ret
    exact ⟨rfl, HB1.out⟩
  have q3 : decide (st < 1) = false := decide_eq_false h3
  by_cases h4 : 500 < st
  · have q4 : decide (500 < st) = true := decide_eq_true h4
    go_wp2_with fail
    go_ret
    exact ⟨rfl, HB1.out⟩
  have q4 : decide (500 < st) = false := decide_eq_false h4
  obtain ⟨N, hN⟩ : ∃ N : Nat, n = N := ⟨n.toNat, by omega⟩
  obtain ⟨T, hT⟩ : ∃ T : Nat, st = T := ⟨st.toNat, by omega⟩
  subst hN; subst hT
  have HN : Hid (1 ≤ N ∧ N ≤ 200 ∧ T ≤ 500) := Lib.hid ⟨by omega, by omega, by omega⟩
  have hN0 : ((N : Int) == 0) = false := beq_f (by omega)
  have hnew := new_any w1
  clear hb1 h1 h2 h3 h4
  go_wp2_with fail
  refine hnew.mono ?_
  rintro e w2 ⟨p, rfl, hI2⟩
  obtain ⟨w3, hw3⟩ : ∃ w3, w2.alloc (.cells onZ.toArray 43) = w3 := ⟨_, rfl⟩
  obtain ⟨g, hg⟩ : ∃ g, w2.heap.size = g := ⟨_, rfl⟩
  have hb3 : Below w2.heap.size w2 w3 := by rw [← hw3]; exact (Below.refl _ _).alloc (Nat.le_refl _) _
  have hk3 : Blk w3 g 43 (onC fun _ => false) := by rw [← hw3, ← hg]; exact Blk.new w2 _ _
  have hI3 : InY w1 p (fun x => x = g) S0 0 w3 := (InY.of hI2.out).on hb3 (fun b hb => by subst hb; exact ⟨hk3.lt, .inr (.inl (by omega))⟩)
  have HG1 := Lib.hid (show w1.heap.size ≤ g by have := hI2.out.bel.size; omega)
  have HI3 := Lib.hid hI3
  have HK3 := Lib.hid hk3
  clear hnew q1 q2 q3 q4 hb3 hk3 hI3 hI2
  go_wp2_with fail
  go_loopw [7, 9, 10] (fun kv mv v wr => ∃ (i m k : Nat) (S : IX) (B : Nat → Bool), i ≤ N ∧ m ≤ i ∧ k < 200 ∧ v = .int .i64 i ∧ mv = .int .i64 m ∧ kv = .int .i64 k ∧ Hid (InY w1 p (fun x => x = g) S (3 * i) wr) ∧ Hid (Many S B i m) ∧ Hid (Blk wr g 43 (onC B))) (fun _ _ v _ => N - (intOf v).toNat)
  case atStart => exact ⟨0, 0, 0, S0, fun _ => false, by omega, by omega, by omega, rfl, rfl, rfl, HI3, Lib.hid many_start, HK3⟩
  case round =>
    obtain ⟨i, m, k0, S, B, hi, hmi, hk0, rfl, rfl, rfl, HI, HO, HK⟩ := hrel
    obtain ⟨hN1, hN2, hT5⟩ := HN.out
    by_cases hlt : i < N
    · have q5 : decide ((i : Int) < (N : Int)) = true := decide_eq_true (by omega)
      obtain ⟨k, hk⟩ : ∃ k, (k0 + T) % N = k := ⟨_, rfl⟩
      have hkN : k < N := by rw [← hk]; exact Nat.mod_lt _ (by omega)
      have d1 : ((k0 : Int) + (T : Int)).tmod (N : Int) = (k : Int) := by rw [← hk]; exact (Int.ofNat_tmod (k0 + T) N).symm
      have d2 : (k : Int).tmod 5 = ((k % 5 : Nat) : Int) := (Int.ofNat_tmod k 5).symm
      have hnm := name_any k (by omega) wr
      have HKN := Lib.hid hkN
      obtain ⟨r, hr⟩ : ∃ r, k % 5 = r := ⟨_, rfl⟩
      have hr5 : r < 5 := by omega
      rw [hr] at d2
      clear hk
      go_wp2_with fail
      refine hnm.mono ?_
      rintro e w4 ⟨rfl, hb4⟩
      have HI4 : Hid (InY w1 p (fun x => x = g) S (3 * i) w4) := Lib.hid (HI.out.on hb4.out (fun b hb => by subst hb; exact ⟨Nat.lt_of_lt_of_le HK.out.lt hb4.out.size, .inl rfl⟩))
      have HK4 := Lib.hid (HK.out.below hb4.out HK.out.lt)
      have hpu := put_y (nm k) ⟨((k % 5 : Nat) : Int) + 1, k, (i : Int) + 1⟩ HI4.out (by omega) (nm_size k) (wf_small (by show _ ≤ ((k % 5 : Nat) : Int) + 1 ∧ ((k % 5 : Nat) : Int) + 1 ≤ _; omega))
      simp only [HO.out.news (show k < 200 by omega), if_true, hr] at hpu
      have HS := Lib.hid (HO.out.step (show k < 200 by omega))
      rw [hr] at HS
      clear hnm hb4
      go_wp2_with fail
      refine hpu.mono ?_
      rintro e w5 ⟨rfl, hI5, hh5⟩
      have hk5 : Blk w5 g 43 (onC B) := (hh5.out g rfl).trans HK4.out
      have hk2 : k < 200 := by omega
      have c5 : w5.cell? ⟨g, k, none⟩ = some (.bool (B k)) := hk5.cell (onC_get B hk2)
      have f5 := hk5.frozen k
      have HK5 := Lib.hid hk5
      clear hpu hh5 HI4 HK4
      cases hB : B k with
      | true =>
        rw [hB] at c5
        have HO5 : Hid (Many _ B (i + 1) m) := Lib.hid (by
          have := HS.out
          rw [hB] at this
          have e : on1 B k = B := by funext x; simp only [on1]; split <;> simp_all
          rw [e] at this
          exact this)
        clear hk5
        go_wp2_with fail
        go_roundw
        case rel => exact ⟨i + 1, m, k, _, B, by omega, by omega, by omega, by first | rfl | go_num, rfl, rfl, Lib.hid (hI5.out.more (by omega)), HO5, HK5⟩
        case measure => simp only [intOf_i]; omega
      | false =>
        rw [hB] at c5
        have hg6 : w5.grownBy (w5.setCell ⟨g, k, none⟩ (.bool true)) (some g) := Gr.setCell (Gr.refl _ _) _ _
        have hk6 := hk5.set k (.bool true)
        rw [onC_set B hk2] at hk6
        obtain ⟨w6, hw6⟩ : ∃ w6, w5.setCell ⟨g, k, none⟩ (.bool true) = w6 := ⟨_, rfl⟩
        rw [hw6] at hg6 hk6
        have HI6 := Lib.hid (hI5.out.turn hg6 rfl HG1.out)
        have HK6 := Lib.hid hk6
        have HO6 : Hid (Many _ (on1 B k) (i + 1) (m + 1)) := Lib.hid (by have := HS.out; rw [hB] at this; exact this)
        clear hk5 hg6 hk6
        go_wp2_with fail
        go_roundw
        case rel => exact ⟨i + 1, m + 1, k, _, on1 B k, by omega, by omega, by omega, by first | rfl | go_num, by first | rfl | go_num, rfl, Lib.hid (HI6.out.more (by omega)), HO6, HK6⟩
        case measure => simp only [intOf_i]; omega
    · obtain rfl : i = N := by omega
      have q5 : decide ((i : Int) < (i : Int)) = false := decide_eq_false (by omega)
      have hks := keys_h HI.out.toX (by omega)
      clear hlt
      go_wp2_with fail
      refine hks.mono ?_
      rintro e w4 ⟨v, ss, rfl, hrow, hKT, hb4⟩
      obtain ⟨sp, cap, rfl, _, _⟩ := ownsRow_slice hrow
      have hml : ss.length = m := hKT.len.trans HO.out.n
      rw [hml] at hrow ⊢
      have HROW := Lib.hid hrow
      have HKT := Lib.hid hKT
      have HML := Lib.hid hml
      have HI4 : Hid (InY w1 p (fun x => x = g) S (3 * i) w4) := Lib.hid (HI.out.on hb4 (fun b hb => by subst hb; exact ⟨Nat.lt_of_lt_of_le HK.out.lt hb4.size, .inl rfl⟩))
      have HK4 := Lib.hid (HK.out.below hb4 HK.out.lt)
      have hln := len_h HI4.out.toX
      rw [HO.out.n] at hln
      have q6 : ((m : Int) != (m : Int)) = false := by simp
      have q7 : ((m : Int) == (m : Int)) = true := by simp
      clear hks hrow hKT hml hb4
      go_wp2_with fail
      refine hln.mono ?_
      rintro e w5 ⟨rfl, rfl⟩
      clear hln q6 q7
      go_wp2_with fail
      have HB5 : Hid (Below w.heap.size w w5) := Lib.hid (HB1.out.trans (HI4.out.bel.mono HB1.out.size))
      have HJ : Hid (∀ W, Below w5.heap.size w5 W → InX w1 p S (3 * i) W) := Lib.hid fun W hW => HI4.out.toX.below hW
      have HKJ : Hid (∀ W, Below w5.heap.size w5 W → Blk W g 43 (onC B)) := Lib.hid fun W hW => HK4.out.below hW HK4.out.lt
      have HRJ : Hid (∀ y, y < m → ∃ gr, sp = some ⟨gr, 0, none⟩ ∧ gr < w5.heap.size ∧ ∀ z, z < m → w5.cell? ⟨gr, z, none⟩ = some (.string ⟨(ss.getD z []).toArray⟩)) := Lib.hid fun y hy => by
        have hr := HROW.out
        obtain ⟨hl, ⟨hv, hn⟩ | ⟨gr, cp, cur, hv, _, hh, _⟩⟩ := HROW.out
        · omega
        · obtain ⟨rfl, rfl⟩ : sp = some ⟨gr, 0, none⟩ ∧ cap = cp := by cases hv; exact ⟨rfl, rfl⟩
          refine ⟨gr, rfl, (Array.getElem?_eq_some_iff.1 hh).1, fun z hz => ?_⟩
          rw [hr.cellAt z (by simp [HML.out]; omega)]
          have hzl : z < ss.length := by rw [HML.out]; exact hz
          simp [List.getD, hzl, encStr]
      have HSZ := Lib.hid (show m ≤ 200 by omega)
      clear HI HK HI3 HK3 HROW
      go_loopw [12, 13] (fun sv v wq => ∃ j : Nat, j ≤ 5 ∧ sv = .int .i64 (psum S.cnt j) ∧ v = .int .i64 ((j : Int) + 1) ∧ Hid (Below w5.heap.size w5 wq)) (fun _ v _ => 6 - (intOf v).toNat)
      case atStart => exact ⟨0, by omega, rfl, rfl, Lib.hid (Below.refl _ _)⟩
      case round =>
        obtain ⟨j, hj, rfl, rfl, HQ⟩ := hrel
        by_cases hj5 : j < 5
        · have q6 : decide ((j : Int) + 1 ≤ 5) = true := decide_eq_true (by omega)
          have hct := count_h ((j : Int) + 1) (HJ.out _ HQ.out) (wf_small (by omega))
          have hcb := (HJ.out _ HQ.out).cb
          have hps := psum_bd S.cnt _ hcb j
          have h1 := hcb ((j : Int) + 1)
          have hpb : -3600 ≤ psum S.cnt j ∧ psum S.cnt j ≤ 3600 := by
            have : j * (3 * i) ≤ 5 * (3 * i) := Nat.mul_le_mul_right _ (by omega)
            omega
          obtain ⟨c, hc⟩ : ∃ c, S.cnt ((j : Int) + 1) = c := ⟨_, rfl⟩
          obtain ⟨u, hu⟩ : ∃ u, psum S.cnt j = u := ⟨_, rfl⟩
          have hcc : psum S.cnt (j + 1) = u + c := by rw [← hc, ← hu]; rfl
          rw [hc] at hct h1
          rw [hu] at hpb ⊢
          have q7 : IntKind.i64.wrap (u + c) = u + c := by rw [IntKind.wrap_i64]; omega
          have HCC := Lib.hid hcc
          clear hcb hps hc hu hcc
          go_wp2_with fail
          refine hct.mono ?_
          rintro e w6 ⟨rfl, rfl⟩
          clear hct
          go_wp2_with fail
          go_roundw
          case rel => exact ⟨j + 1, by omega, by rw [HCC.out], by first | rfl | go_num, HQ⟩
          case measure => simp only [intOf_i]; omega
        · obtain rfl : j = 5 := by omega
          rw [show ((5 : Nat) : Int) + 1 = 6 from rfl]
          have q6 : decide ((6 : Int) ≤ 5) = false := by decide
          have hsum : psum S.cnt 5 = (m : Int) := by rw [psum5]; exact HO.out.sum
          rw [hsum]
          clear hsum hj5
          go_wp2_with fail
          go_loopw [14] (fun v wq => ∃ x : Nat, x ≤ i ∧ v = .int .i64 x ∧ Hid (Below w5.heap.size w5 wq)) (fun v _ => i - (intOf v).toNat)
          case atStart => exact ⟨0, by omega, rfl, HQ⟩
          case round =>
            obtain ⟨x, hx, rfl, HX⟩ := hrel
            by_cases hlt : x < i
            · have q7 : decide ((x : Int) < (i : Int)) = true := decide_eq_true (by omega)
              have d2 : (x : Int).tmod 5 = ((x % 5 : Nat) : Int) := (Int.ofNat_tmod x 5).symm
              have hx2 : x < 200 := by omega
              have hnm := name_any x hx2 wr
              have hyes := HO.out.yes' hx2
              go_wp2_with fail
              refine hnm.mono ?_
              rintro e w6 ⟨rfl, hb6⟩
              have HX6 := Lib.hid (HX.out.trans (hb6.out.mono HX.out.size))
              have hgt := get_h (nm x) (HJ.out _ HX6.out) (nm_size x)
              clear hnm hb6
              rcases hyes with ⟨hB, q, hL⟩ | ⟨hB, hL⟩
              · rw [hL] at hgt
                obtain ⟨r, hr⟩ : ∃ r, x % 5 = r := ⟨_, rfl⟩
                have hr5 : r < 5 := by omega
                rw [hr] at d2 hgt
                simp only [Option.getD_some, Option.isSome_some, locV] at hgt
                clear hr
                go_wp2_with fail
                refine hgt.mono ?_
                rintro e w7 ⟨rfl, _, hb7⟩
                obtain ⟨w8, w9, hw8, hst9, hk9, hb9⟩ := own_loc w7 ⟨(r : Int) + 1, x, q⟩
                simp only [locV] at hst9
                have HX9 := Lib.hid (HX6.out.trans ((hb7.out.trans (hb9.mono hb7.out.size)).mono HX6.out.size))
                have c9 : w9.cell? ⟨g, x, none⟩ = some (.bool true) := by rw [← hB]; exact (HKJ.out _ HX9.out).cell (onC_get B hx2)
                have e0 : w9.cell? ⟨w7.heap.size, 0, none⟩ = some (.int .i64 ((r : Int) + 1)) := hk9.cell rfl
                have e1 : w9.cell? ⟨w7.heap.size, 1, none⟩ = some (.int .i64 (x : Int)) := hk9.cell rfl
                clear hgt hb7 hk9 hb9
                go_wp2_with fail
                go_roundw
                case rel => exact ⟨x + 1, by omega, by first | rfl | go_num, HX9⟩
                case measure => simp only [intOf_i]; omega
              · rw [hL] at hgt
                simp only [Option.getD_none, Option.isSome_none, locV] at hgt
                go_wp2_with fail
                refine hgt.mono ?_
                rintro e w7 ⟨rfl, _, hb7⟩
                obtain ⟨w8, w9, hw8, hst9, hk9, hb9⟩ := own_loc w7 ⟨0, 0, 0⟩
                simp only [locV] at hst9
                have HX9 := Lib.hid (HX6.out.trans ((hb7.out.trans (hb9.mono hb7.out.size)).mono HX6.out.size))
                have c9 : w9.cell? ⟨g, x, none⟩ = some (.bool false) := by rw [← hB]; exact (HKJ.out _ HX9.out).cell (onC_get B hx2)
                clear hgt hb7 hk9 hb9
                go_wp2_with fail
                go_roundw
                case rel => exact ⟨x + 1, by omega, by first | rfl | go_num, HX9⟩
                case measure => simp only [intOf_i]; omega
            · obtain rfl : x = i := by omega
              have q7 : decide ((x : Int) < (x : Int)) = false := decide_eq_false (by omega)
              clear hlt hx
              go_wp2_with fail
              go_loopw [17] (fun v wq => ∃ y : Nat, 1 ≤ y ∧ y ≤ m + 1 ∧ v = .int .i64 y ∧ Hid (Below w5.heap.size w5 wq)) (fun v _ => m + 1 - (intOf v).toNat)
              case atStart => exact ⟨1, by omega, by omega, rfl, HX⟩
              case round =>
                obtain ⟨y, hy1, hy, rfl, HY⟩ := hrel
                by_cases hlt : y < m
                · have q8 : decide ((y : Int) < (m : Int)) = true := decide_eq_true (by omega)
                  have q8' : decide (y < m) = true := decide_eq_true hlt
                  obtain ⟨gr, hsp, hgr, hcl⟩ := HRJ.out y hlt
                  obtain ⟨z, hz⟩ : ∃ z, y = z + 1 := ⟨y - 1, by omega⟩
                  have hz1 : (y : Int) - 1 = (z : Int) := by omega
                  have hup : ss.getD z [] < ss.getD y [] := by
                    have h1 : z < ss.length := by rw [HML.out]; omega
                    have h2 : y < ss.length := by rw [HML.out]; omega
                    have := List.pairwise_iff_getElem.1 HKT.out.up z y h1 h2 (by omega)
                    simpa [List.getD, h1, h2] using this
                  obtain ⟨f1, f2⟩ := up_facts hup
                  have hc1 := hcl y hlt
                  have hc2 := hcl z (by omega)
                  obtain ⟨s1, hs1⟩ : ∃ s1 : ByteArray, ⟨(ss.getD y []).toArray⟩ = s1 := ⟨_, rfl⟩
                  obtain ⟨s2, hs2⟩ : ∃ s2 : ByteArray, ⟨(ss.getD z []).toArray⟩ = s2 := ⟨_, rfl⟩
                  rw [hs1] at hc1 f1 f2
                  rw [hs2] at hc2 f1 f2
                  have c1 : wr.cell? ⟨gr, y, none⟩ = some (.string s1) := (HY.out.cell (p := ⟨gr, y, none⟩) hgr).trans hc1
                  have c2 : wr.cell? ⟨gr, z, none⟩ = some (.string s2) := (HY.out.cell (p := ⟨gr, z, none⟩) hgr).trans hc2
                  have q9 : decide (z < m) = true := decide_eq_true (by omega)
                  have HZ := Lib.hid hz
                  subst hsp
                  clear hcl hup hc1 hc2 hs1 hs2 hz
                  go_wp2_with fail
                  go_quiet (fail)
                  go_wp2_with fail
                  go_roundw
                  case rel => exact ⟨y + 1, by omega, by omega, by first | rfl | go_num, Lib.hid (bel_drewN HY.out _)⟩
                  case measure => simp only [intOf_i]; omega
                · have q8 : decide ((y : Int) < (m : Int)) = false := decide_eq_false (by omega)
                  have q10 : ((m : Int) == (m : Int)) = true := by simp
                  go_wp2_with fail
                  go_ret
                  exact ⟨rfl, HB5.out.trans (HY.out.mono HB5.out.size)⟩
end Go.Proofs.Ythgpdnffahmhjaa.S20

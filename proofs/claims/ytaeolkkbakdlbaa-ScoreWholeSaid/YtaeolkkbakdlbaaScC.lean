/- Rows of floats in memory; score.Best, folioref1.Best: contracts. -/
import Derived.Test.YtaeolkkbakdlbaaScB
import Derived.Deep.QuietTactic
set_option linter.unusedSimpArgs false
set_option linter.unusedVariables false
namespace Go.Proofs.Ytaeolkkbakdlbaa.S12
open Go.RowKit Pl
namespace Pl
def bestUp (L : List Nat) : Nat → Int
  | 0 => -1
  | n + 1 => if fless (L.getD n 0) 0 then bestUp L n else if bestUp L n < 0 || fless (L.getD (bestUp L n).toNat 0) (L.getD n 0) then n else bestUp L n
theorem bestUp_ok (L : List Nat) : ∀ n, -1 ≤ bestUp L n ∧ bestUp L n < n
  | 0 => by simp [bestUp]
  | n + 1 => by
    have := bestUp_ok L n
    unfold bestUp
    split
    · omega
    · split <;> omega
theorem bestUp_skip {L : List Nat} {n f : Nat} {k : Int} (hf : L.getD n 0 = f) (hk : bestUp L n = k) (h : fless f 0 = true) : bestUp L (n + 1) = k := by
  unfold bestUp; rw [hf, if_pos h, hk]
theorem bestUp_first {L : List Nat} {n f : Nat} {k : Int} (hf : L.getD n 0 = f) (hk : bestUp L n = k) (h : fless f 0 = false) (h0 : k < 0) : bestUp L (n + 1) = n := by
  unfold bestUp; rw [hf, hk, h, if_neg (by simp), if_pos (by simp [h0])]
theorem bestUp_more {L : List Nat} {n f g K : Nat} {b : Bool} (hf : L.getD n 0 = f) (hk : bestUp L n = K) (h : fless f 0 = false) (hg : L.getD K 0 = g) (hb : fless g f = b) : bestUp L (n + 1) = if b then (n : Int) else K := by
  unfold bestUp
  rw [hf, hk, h, if_neg (by simp), Int.toNat_natCast, hg, hb]
  have : decide ((K : Int) < 0) = false := by simp
  rw [this, Bool.false_or]
theorem fless_zero (x : Nat) : fless x 0 = (fN x || decide (fk x < 0)) := by
  unfold fless
  have e1 : fN 0 = false := by decide
  have e2 : fk 0 = 0 := by decide
  rw [e1, e2]
  cases fN x <;> simp
theorem getD_lt {L : List Nat} (h : ∀ x ∈ L, x < 18446744073709551616) (i : Nat) : L.getD i 0 < 18446744073709551616 := by
  rw [List.getD_eq_getElem?_getD]
  by_cases hi : i < L.length
  · rw [List.getElem?_eq_getElem hi]; exact h _ (List.getElem_mem _)
  · rw [List.getElem?_eq_none (by omega)]; decide
end Pl
theorem intOf_int (x : Int) : intOf (.int .i64 x) = x := rfl
def f64s (L : List Nat) : List Value := L.map fun x => .float .f64 x
theorem f64s_length (L : List Nat) : (f64s L).length = L.length := by simp [f64s]
theorem f64s_get (L : List Nat) (i : Nat) (h : i < L.length) : (f64s L)[i]? = some (.float .f64 (L.getD i 0)) := by simp [f64s, h, List.getD]
theorem f64s_append (A B : List Nat) : f64s (A ++ B) = f64s A ++ f64s B := by simp [f64s]
theorem f64s_snoc (A : List Nat) (c : Nat) : f64s (A ++ [c]) = f64s A ++ [.float .f64 c] := by simp [f64s]
theorem f64s_one (L : List Nat) : ∀ v ∈ f64s L, v.oneCell' = true := by
  intro v hv; simp only [f64s, List.mem_map] at hv; obtain ⟨x, _, rfl⟩ := hv; rfl
/-- the floats L, as the slice v tells them -/
def IsF (w : World) (v : Value) (L : List Nat) : Prop :=
  (v = .slice none 0 0 ∧ L = []) ∨ ∃ a cap, v = .slice (some a) L.length cap ∧ L.length ≤ cap ∧ cap ≤ maxLen ∧ ∀ i u, (f64s L)[i]? = some u → w.cell? (a.add i) = some u
theorem IsF.slice {w : World} {v : Value} {L : List Nat} (h : IsF w v L) : ∃ a cap, v = .slice a L.length cap ∧ L.length ≤ cap ∧ cap ≤ maxLen := by
  obtain ⟨rfl, rfl⟩ | ⟨a, cap, rfl, h1, h2, _⟩ := h
  · exact ⟨none, 0, rfl, Nat.le_refl _, by unfold maxLen; omega⟩
  · exact ⟨some a, cap, rfl, h1, h2⟩
theorem IsF.cells {w : World} {v : Value} {L : List Nat} (h : IsF w v L) (h0 : 0 < L.length) : ∃ b off cap, v = .slice (some ⟨b, off, none⟩) L.length cap ∧ L.length ≤ cap ∧ cap ≤ maxLen ∧ b < w.heap.size ∧ (∀ i, i < L.length → w.cell? ⟨b, off + i, none⟩ = some (.float .f64 (L.getD i 0))) := by
  obtain ⟨rfl, rfl⟩ | ⟨a, cap, rfl, h1, h2, hc⟩ := h
  · simp at h0
  · obtain ⟨b, off, spot⟩ := a
    have hc0 := hc 0 _ (f64s_get L 0 h0)
    have hspot : spot = none := by simpa [Addr.add] using World.cell?_spot hc0
    subst hspot
    refine ⟨b, off, cap, rfl, h1, h2, World.block_lt_of_cell? w _ hc0, fun i hi => ?_⟩
    have := hc i _ (f64s_get L i hi)
    have hadd : (⟨b, off, none⟩ : Addr).add i = ⟨b, off + i, none⟩ := by unfold Addr.add; split <;> simp_all
    rwa [hadd] at this
theorem IsF.below {w w' : World} {v : Value} {L : List Nat} (h : IsF w v L) (hb : Below w.heap.size w w') : IsF w' v L := by
  obtain h | ⟨a, cap, rfl, h1, h2, hc⟩ := h
  · exact .inl h
  · refine .inr ⟨a, cap, rfl, h1, h2, fun i u hu => ?_⟩
    have := hc i u hu
    rw [hb.cell (p := a.add i) (World.block_lt_of_cell? w _ this)]
    exact this
set_option maxHeartbeats 4000000 in
theorem best_any (v : Value) (L : List Nat) (w : World) (hv : IsF w v L) (hx : ∀ x ∈ L, x < 18446744073709551616) (hl : L.length ≤ 4000000000) :
    Calls Try.prog 18 #[v] w fun e w' => e = .returned (.int .i64 (bestUp L L.length)) ∧ w' = w := by
  obtain ⟨a, cap, rfl, hcap, hmax⟩ := hv.slice
  have HV := Lib.hid hv
  have HX := Lib.hid hx
  clear hv hx
  go_enter Try.func18, Try.ntmps18
  go_wp2
  go_loopw [3, 8] (fun x y wr => ∃ (i : Nat), i ≤ L.length ∧ x = .int .i64 (bestUp L i) ∧ y = .int .i64 i ∧ wr = w) (fun _ y _ => L.length - (intOf y).toNat)
  case atStart => exact ⟨0, by omega, rfl, rfl, rfl⟩
  case round =>
    obtain ⟨i, hi, rfl, rfl, rfl⟩ := hrel
    by_cases hlt : i < L.length
    · obtain ⟨bb, off, cap', hs, _, _, _, hc⟩ := HV.out.cells (by omega)
      simp at hs
      obtain ⟨rfl, rfl⟩ := hs
      have c0 := hc i hlt
      have l0 := fun W => less_any (L.getD i 0) 0 W (getD_lt HX.out i) (by decide)
      have hb := bestUp_ok L i
      by_cases h0 : fless (L.getD i 0) 0 = true
      · have HN : Hid (bestUp L (i + 1) = bestUp L i) := Lib.hid (bestUp_skip rfl rfl h0)
        rw [h0] at l0
        generalize L.getD i 0 = f at *
        generalize bestUp L i = k at *
        clear hc h0
        go_wp2_with fail
        refine (l0 _).mono ?_
        rintro e w' ⟨rfl, rfl⟩
        go_wp2_with fail
        refine ⟨⟨i + 1, by omega, by rw [HN.out], by first | rfl | go_num, by first | trivial | rfl⟩, ?_⟩
        simp only [intOf_int]; omega
      · have h0 : fless (L.getD i 0) 0 = false := by simpa using h0
        rw [h0] at l0
        by_cases hk : bestUp L i < 0
        · have HN : Hid (bestUp L (i + 1) = i) := Lib.hid (bestUp_first rfl rfl h0 hk)
          generalize L.getD i 0 = f at *
          generalize bestUp L i = k at *
          clear hc h0
          go_wp2_with fail
          refine (l0 _).mono ?_
          rintro e w' ⟨rfl, rfl⟩
          go_wp2_with fail
          refine ⟨⟨i + 1, by omega, by rw [HN.out], by first | rfl | go_num, by first | trivial | rfl⟩, ?_⟩
          simp only [intOf_int]; omega
        · obtain ⟨K, hK⟩ := Int.eq_ofNat_of_zero_le (show 0 ≤ bestUp L i by omega)
          have hKL : K < L.length := by omega
          have c1 := hc K hKL
          have l1 := fun W => less_any (L.getD K 0) (L.getD i 0) W (getD_lt HX.out K) (getD_lt HX.out i)
          have HN : Hid (bestUp L (i + 1) = if fless (L.getD K 0) (L.getD i 0) then (i : Int) else K) := Lib.hid (bestUp_more rfl hK h0 rfl rfl)
          generalize fless (L.getD K 0) (L.getD i 0) = b at *
          generalize L.getD i 0 = f at *
          generalize L.getD K 0 = g at *
          rw [hK]
          clear hc h0 hb hk hK
          cases b
          all_goals
            go_wp2_with fail
            refine (l0 _).mono ?_
            rintro e w' ⟨rfl, rfl⟩
            go_wp2_with (refine (l1 _).mono ?_; rintro e w' ⟨rfl, rfl⟩)
            refine ⟨⟨i + 1, by omega, by rw [HN.out]; rfl, by first | rfl | go_num, by first | trivial | rfl⟩, ?_⟩
            simp only [intOf_int]; omega
    · obtain rfl : i = L.length := by omega
      go_wp2_with fail
      go_ret
      exact ⟨rfl, rfl⟩
set_option maxHeartbeats 4000000 in
theorem refBest_any (v : Value) (L : List Nat) (w : World) (hv : IsF w v L) (hx : ∀ x ∈ L, x < 18446744073709551616) (hl : L.length ≤ 4000000000) :
    Calls Try.prog 19 #[v] w fun e w' => ∃ m, e = .returned (.int .i64 (bestUp L L.length)) ∧ w' = w.drewN m := by
  obtain ⟨a, cap, rfl, hcap, hmax⟩ := hv.slice
  have HV := Lib.hid hv
  have HX := Lib.hid hx
  clear hv hx
  go_enter Try.func19, Try.ntmps19
  go_wp2
  go_loopw [3, 4] (fun x y wr => ∃ (i m : Nat), i ≤ L.length ∧ x = .int .i64 (bestUp L i) ∧ y = .int .i64 i ∧ wr = w.drewN m) (fun _ y _ => L.length - (intOf y).toNat)
  case atStart => exact ⟨0, 0, by omega, rfl, rfl, rfl⟩
  case round =>
    obtain ⟨i, m, hi, rfl, rfl, hwr⟩ := hrel
    by_cases hlt : i < L.length
    · obtain ⟨bb, off, cap', hs, _, _, _, hc⟩ := HV.out.cells (by omega)
      simp at hs
      obtain ⟨rfl, rfl⟩ := hs
      have hc : ∀ i, i < L.length → wr.cell? ⟨bb, off + i, none⟩ = some (.float .f64 (L.getD i 0)) := by rw [hwr]; exact hc
      have c0 := hc i hlt
      have HWR := Lib.hid hwr
      clear hwr
      have l0 := fun W => key_any (L.getD i 0) W (getD_lt HX.out i)
      have hz := fless_zero (L.getD i 0)
      have hb := bestUp_ok L i
      by_cases h0 : fless (L.getD i 0) 0 = true
      · have HN : Hid (bestUp L (i + 1) = bestUp L i) := Lib.hid (bestUp_skip rfl rfl h0)
        rw [h0] at hz
        generalize L.getD i 0 = f at *
        generalize bestUp L i = k at *
        clear hc h0
        generalize fN f = p at *
        generalize fk f = z at *
        cases p
        · have hz2 : decide (z < 0) = true := by simpa using hz.symm
          clear hz
          go_wp2_with fail
          refine (l0 _).mono ?_
          rintro e w' ⟨rfl, rfl⟩
          go_wp2_with fail
          refine ⟨⟨i + 1, m, by omega, by rw [HN.out], by first | rfl | go_num, HWR.out⟩, ?_⟩
          simp only [intOf_int]; omega
        · clear hz
          go_wp2_with fail
          refine (l0 _).mono ?_
          rintro e w' ⟨rfl, rfl⟩
          go_wp2_with fail
          refine ⟨⟨i + 1, m, by omega, by rw [HN.out], by first | rfl | go_num, HWR.out⟩, ?_⟩
          simp only [intOf_int]; omega
      · have h0 : fless (L.getD i 0) 0 = false := by simpa using h0
        rw [h0] at hz
        have hz1 : fN (L.getD i 0) = false := by revert hz; cases fN (L.getD i 0) <;> simp
        rw [hz1] at hz l0
        have hz2 : decide (fk (L.getD i 0) < 0) = false := by simpa using hz.symm
        by_cases hk : bestUp L i < 0
        · have HN : Hid (bestUp L (i + 1) = i) := Lib.hid (bestUp_first rfl rfl h0 hk)
          generalize L.getD i 0 = f at *
          generalize bestUp L i = k at *
          generalize fk f = z at *
          clear hc h0 hz hz1
          go_wp2_with fail
          refine (l0 _).mono ?_
          rintro e w' ⟨rfl, rfl⟩
          go_wp2_with fail
          go_quiet (fail)
          go_wp2_with fail
          refine ⟨⟨i + 1, m + nq, by omega, by rw [HN.out], by first | rfl | go_num, by rw [HWR.out, World.drewN_drewN]⟩, ?_⟩
          simp only [intOf_int]; omega
        · obtain ⟨K, hK⟩ := Int.eq_ofNat_of_zero_le (show 0 ≤ bestUp L i by omega)
          have hKL : K < L.length := by omega
          have c1 := hc K hKL
          have l1 := fun W n => Calls.quiet_of_same (n := n) (refLess_any (L.getD K 0) (L.getD i 0) (World.drewN W n) (getD_lt HX.out K) (getD_lt HX.out i))
          have HN : Hid (bestUp L (i + 1) = if fless (L.getD K 0) (L.getD i 0) then (i : Int) else K) := Lib.hid (bestUp_more rfl hK h0 rfl rfl)
          generalize fless (L.getD K 0) (L.getD i 0) = b at *
          generalize L.getD i 0 = f at *
          generalize L.getD K 0 = g at *
          generalize fk f = z at *
          rw [hK]
          clear hc h0 hb hk hK hz hz1
          have hk0 : decide ((K : Int) < 0) = false := by simp
          cases b
          all_goals
            go_wp2_with fail
            refine (l0 _).mono ?_
            rintro e w' ⟨rfl, rfl⟩
            go_wp2_with fail
            go_quiet (first | exact l1 _ _)
            go_wp2_with fail
            refine ⟨⟨i + 1, m + nq, by omega, by rw [HN.out]; rfl, by first | rfl | go_num, by rw [HWR.out, World.drewN_drewN]⟩, ?_⟩
            simp only [intOf_int]; omega
    · obtain rfl : i = L.length := by omega
      go_wp2_with fail
      go_ret
      first | exact ⟨m, rfl, hwr⟩ | exact ⟨m, rfl, rfl⟩
end Go.Proofs.Ytaeolkkbakdlbaa.S12

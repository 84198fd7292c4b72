/- lengths.Kraft, lengths.Cost, folioref1.Kraft, folioref1.Cost: contracts. -/
import Derived.Test.YtnoleijdpilnpaaRow
set_option linter.unusedSimpArgs false
set_option linter.unusedVariables false
namespace Go.Proofs.Ytnoleijdpilnpaa
open Go.RowKit
namespace Pl
/-- the sum of frequency times length, as 64 bits hold it -/
def costW : Int → List Int → List Int → Int
  | s, a :: f, b :: l => costW (wrap64 (s + wrap64 (a * b))) f l
  | s, _, _ => s
/-- the sum of 2^(15 - length), as 64 bits hold it -/
def kraftW : Int → List Int → Int
  | s, n :: l => kraftW (if 1 ≤ n ∧ n ≤ 15 then wrap64 (s + 2 ^ (15 - n).toNat) else s) l
  | s, [] => s
theorem drop_cons {L : List Int} {i : Nat} (h : i < L.length) : L.drop i = L.getD i 0 :: L.drop (i + 1) := by
  rw [List.drop_eq_getElem_cons h]; simp [List.getD, h]
theorem kraft_in {s n : Int} {l : List Int} (h : 1 ≤ n ∧ n ≤ 15) : kraftW s (n :: l) = kraftW (wrap64 (s + 2 ^ (15 - n).toNat)) l := by
  simp [kraftW, h]
theorem kraft_out {s n : Int} {l : List Int} (h : ¬ (1 ≤ n ∧ n ≤ 15)) : kraftW s (n :: l) = kraftW s l := by
  simp only [kraftW, if_neg h]
theorem kraft_end {s : Int} {L : List Int} {i : Nat} (h : ¬ i < L.length) : kraftW s (L.drop i) = s := by
  rw [List.drop_eq_nil_of_le (by omega)]; rfl
theorem cost_end {s : Int} {F L : List Int} {i : Nat} (h : ¬ (i < F.length ∧ i < L.length)) : costW s (F.drop i) (L.drop i) = s := by
  by_cases h1 : i < F.length
  · rw [show L.drop i = [] from List.drop_eq_nil_of_le (by omega)]; cases F.drop i <;> rfl
  · rw [show F.drop i = [] from List.drop_eq_nil_of_le (by omega)]; rfl
end Pl
open Pl
theorem intOf_int (x : Int) : intOf (.int .i64 x) = x := rfl
theorem pow_wrap : ∀ p, p < 15 → wrap64 (2 ^ p) = 2 ^ p := by decide +kernel
set_option maxHeartbeats 4000000 in
theorem kraft_ref (v : Value) (L : List Int) (w : World) (hv : IsInts w v L) (hL : L.length ≤ 1000000) :
    Calls Try.prog 14 #[v] w fun e w' => e = .returned (.int .i64 (kraftW 0 L)) ∧ w = w' := by
  obtain ⟨a, cap, rfl, hcap, hmax⟩ := hv.slice
  have HV := Lib.hid hv
  clear hv
  go_enter Try.func14, Try.ntmps14
  go_wp2
  go_loopw [3, 4] (fun x y wr => ∃ (s : Int) (i : Nat), i ≤ L.length ∧ x = .int .i64 s ∧ y = .int .i64 i ∧ kraftW s (L.drop i) = kraftW 0 L ∧ wr = w) (fun _ y _ => L.length - (intOf y).toNat)
  case atStart => exact ⟨0, 0, by omega, rfl, rfl, rfl, rfl⟩
  case round =>
    obtain ⟨s, i, hi, rfl, rfl, he, rfl⟩ := hrel
    have HE := Lib.hid he
    clear he
    by_cases hlt : i < L.length
    · obtain ⟨bb, off, cap', hs, _, _, _, hc⟩ := HV.out.cells (by omega)
      simp at hs
      obtain ⟨rfl, rfl⟩ := hs
      have c0 := hc i hlt
      rw [drop_cons hlt] at HE
      generalize L.getD i 0 = x at *
      clear hc
      by_cases h1 : 1 ≤ x
      · by_cases h2 : x ≤ 15
        · rw [kraft_in ⟨h1, h2⟩] at HE
          obtain ⟨p, rfl⟩ : ∃ p : Nat, x = 15 - p := ⟨(15 - x).toNat, by omega⟩
          have hp : p ≤ 14 := by omega
          have e1 : (15 - (15 - (p : Int))).toNat = p := by omega
          rw [e1] at HE
          have e2 : wrap64 (15 - (15 - (p : Int))) = p := by unfold wrap64; omega
          have e4 : wrap64 (2 ^ p) = 2 ^ p := pow_wrap p (by omega)
          have e3 : wrap64 (2 ^ min p 64) = 2 ^ p := by rw [Nat.min_eq_left (by omega)]; exact e4
          have e5 : IntKind.u64.wrap (15 - (15 - (p : Int))) = (p : Int) := by rw [IntKind.wrap_u64]; omega
          have e6 : (15 - (15 - (p : Int))) = p := by omega
          go_wp2
          all_goals
            refine ⟨⟨_, i + 1, by omega, rfl, by first | rfl | go_num, HE.out, by first | trivial | rfl⟩, ?_⟩
            simp only [intOf_int]; omega
        · rw [kraft_out (by omega)] at HE
          go_wp2
          refine ⟨⟨_, i + 1, by omega, rfl, by first | rfl | go_num, HE.out, by first | trivial | rfl⟩, ?_⟩
          simp only [intOf_int]; omega
      · rw [kraft_out (by omega)] at HE
        go_wp2
        refine ⟨⟨_, i + 1, by omega, rfl, by first | rfl | go_num, HE.out, by first | trivial | rfl⟩, ?_⟩
        simp only [intOf_int]; omega
    · rw [kraft_end hlt] at HE
      go_wp2
      go_ret
      exact ⟨by rw [HE.out]; rfl, rfl⟩
set_option maxHeartbeats 4000000 in
theorem kraft_prog (v : Value) (L : List Int) (w : World) (hv : IsInts w v L) (hL : L.length ≤ 1000000) :
    Calls Try.prog 17 #[v] w fun e w' => e = .returned (.int .i64 (kraftW 0 L)) ∧ w = w' := by
  obtain ⟨a, cap, rfl, hcap, hmax⟩ := hv.slice
  have HV := Lib.hid hv
  clear hv
  go_enter Try.func17, Try.ntmps17
  go_wp2
  go_loopw [3, 8] (fun x y wr => ∃ (s : Int) (i : Nat), i ≤ L.length ∧ x = .int .i64 s ∧ y = .int .i64 i ∧ kraftW s (L.drop i) = kraftW 0 L ∧ wr = w) (fun _ y _ => L.length - (intOf y).toNat)
  case atStart => exact ⟨0, 0, by omega, rfl, rfl, rfl, rfl⟩
  case round =>
    obtain ⟨s, i, hi, rfl, rfl, he, rfl⟩ := hrel
    have HE := Lib.hid he
    clear he
    by_cases hlt : i < L.length
    · obtain ⟨bb, off, cap', hs, _, _, _, hc⟩ := HV.out.cells (by omega)
      simp at hs
      obtain ⟨rfl, rfl⟩ := hs
      have c0 := hc i hlt
      rw [drop_cons hlt] at HE
      generalize L.getD i 0 = x at *
      clear hc
      by_cases h1 : 1 ≤ x
      · by_cases h2 : x ≤ 15
        · rw [kraft_in ⟨h1, h2⟩] at HE
          obtain ⟨p, rfl⟩ : ∃ p : Nat, x = 15 - p := ⟨(15 - x).toNat, by omega⟩
          have hp : p ≤ 14 := by omega
          have e1 : (15 - (15 - (p : Int))).toNat = p := by omega
          rw [e1] at HE
          have e2 : wrap64 (15 - (15 - (p : Int))) = p := by unfold wrap64; omega
          have e4 : wrap64 (2 ^ p) = 2 ^ p := pow_wrap p (by omega)
          have e3 : wrap64 (2 ^ min p 64) = 2 ^ p := by rw [Nat.min_eq_left (by omega)]; exact e4
          have e5 : IntKind.u64.wrap (15 - (15 - (p : Int))) = (p : Int) := by rw [IntKind.wrap_u64]; omega
          have e6 : (15 - (15 - (p : Int))) = p := by omega
          go_wp2
          all_goals
            refine ⟨⟨_, i + 1, by omega, rfl, by first | rfl | go_num, HE.out, by first | trivial | rfl⟩, ?_⟩
            simp only [intOf_int]; omega
        · rw [kraft_out (by omega)] at HE
          go_wp2
          refine ⟨⟨_, i + 1, by omega, rfl, by first | rfl | go_num, HE.out, by first | trivial | rfl⟩, ?_⟩
          simp only [intOf_int]; omega
      · rw [kraft_out (by omega)] at HE
        go_wp2
        refine ⟨⟨_, i + 1, by omega, rfl, by first | rfl | go_num, HE.out, by first | trivial | rfl⟩, ?_⟩
        simp only [intOf_int]; omega
    · rw [kraft_end hlt] at HE
      go_wp2
      go_ret
      exact ⟨by rw [HE.out]; rfl, rfl⟩
theorem cost_step {s : Int} {F L : List Int} {i : Nat} (h1 : i < F.length) (h2 : i < L.length) : costW s (F.drop i) (L.drop i) = costW (wrap64 (s + wrap64 (F.getD i 0 * L.getD i 0))) (F.drop (i + 1)) (L.drop (i + 1)) := by
  rw [drop_cons h1, drop_cons h2]; rfl
set_option maxHeartbeats 4000000 in
theorem cost_ref (u v : Value) (F L : List Int) (w : World) (hu : IsInts w u F) (hv : IsInts w v L) (hF : F.length ≤ 1000000) (hL : L.length ≤ 1000000) :
    Calls Try.prog 15 #[u, v] w fun e w' => e = .returned (.int .i64 (costW 0 F L)) ∧ Below w.heap.size w w' := by
  obtain ⟨a, cap, rfl, hcap, hmax⟩ := hu.slice
  obtain ⟨a2, cap2, rfl, hcap2, hmax2⟩ := hv.slice
  have HU := Lib.hid hu
  have HV := Lib.hid hv
  clear hu hv
  go_enter Try.func15, Try.ntmps15
  go_wp2
  go_loopw [5, 6] (fun x y wr => ∃ (s : Int) (i n : Nat), i ≤ F.length ∧ x = .int .i64 s ∧ y = .int .i64 i ∧ costW s (F.drop i) (L.drop i) = costW 0 F L ∧ wr = w.drewN n) (fun _ y _ => F.length - (intOf y).toNat)
  case atStart => exact ⟨0, 0, 0, by omega, rfl, rfl, rfl, rfl⟩
  case round =>
    obtain ⟨s, i, n, hi, rfl, rfl, he, rfl⟩ := hrel
    have HE := Lib.hid he
    clear he
    by_cases hlt : i < F.length
    · by_cases hlt2 : i < L.length
      · rw [cost_step hlt hlt2] at HE
        obtain ⟨bb, off, cap', hs, _, _, hb1, hc⟩ := HU.out.cells (by omega)
        simp at hs
        obtain ⟨rfl, rfl⟩ := hs
        obtain ⟨bb2, off2, cap2', hs, _, _, hb2, hc2⟩ := HV.out.cells (by omega)
        simp at hs
        obtain ⟨rfl, rfl⟩ := hs
        have c0 : ∀ m, (w.drewN m).cell? ⟨bb, off + i, none⟩ = some (.int .i64 (F.getD i 0)) := fun m => hc i hlt
        have d0 : ∀ m, (w.drewN m).cell? ⟨bb2, off2 + i, none⟩ = some (.int .i64 (L.getD i 0)) := fun m => hc2 i hlt2
        generalize F.getD i 0 = x at *
        generalize L.getD i 0 = y at *
        clear hc hc2
        go_wp2_with fail
        go_quiet (fail)
        go_wp2
        refine ⟨⟨_, i + 1, _, by omega, rfl, by first | rfl | go_num, HE.out, by first | rfl | trivial⟩, ?_⟩
        simp only [intOf_int]; omega
      · rw [cost_end (by omega)] at HE
        go_wp2
        go_ret
        exact ⟨by rw [HE.out]; rfl, bel_drewN (Below.refl _ _) n⟩
    · rw [cost_end (by omega)] at HE
      go_wp2
      go_ret
      exact ⟨by rw [HE.out]; rfl, bel_drewN (Below.refl _ _) n⟩
def minN (ats : Array TypeId) (ty : TypeId) (u v : Value) : Sem Value := Builtin.min_ ats ty #[u, v]
theorem minN_eq (ats : Array TypeId) (ty : TypeId) (u v : Value) : Builtin.min_ ats ty #[u, v] = minN ats ty u v := rfl
theorem run_minN (ats : Array TypeId) (ty : TypeId) (m n : Nat) (w : World) : (minN ats ty (.int .i64 m) (.int .i64 n)).run Try.prog w = .ok (.int .i64 ((min m n : Nat) : Int)) w := by
  unfold minN Builtin.min_
  by_cases h : m < n
  · have e : min m n = m := by omega
    have h' : (m : Int) < n := by omega
    rw [e]
    simp [Builtin.min2, h, h']
    try omega
  · have e : min m n = n := by omega
    have h' : ¬ (m : Int) < n := by omega
    rw [e]
    simp [Builtin.min2, h, h']
    try omega
attribute [local go_sem ↓] minN_eq
set_option maxHeartbeats 4000000 in
theorem cost_prog (u v : Value) (F L : List Int) (w : World) (hu : IsInts w u F) (hv : IsInts w v L) (hF : F.length ≤ 1000000) (hL : L.length ≤ 1000000) :
    Calls Try.prog 18 #[u, v] w fun e w' => e = .returned (.int .i64 (costW 0 F L)) ∧ Below w.heap.size w w' := by
  obtain ⟨a, cap, rfl, hcap, hmax⟩ := hu.slice
  obtain ⟨a2, cap2, rfl, hcap2, hmax2⟩ := hv.slice
  have HU := Lib.hid hu
  have HV := Lib.hid hv
  clear hu hv
  have hmn := fun ats ty W => run_minN ats ty F.length L.length W
  obtain ⟨M, hM⟩ : ∃ M, M = min F.length L.length := ⟨_, rfl⟩
  rw [← hM] at hmn
  go_enter Try.func18, Try.ntmps18
  go_wp2
  go_loopw [5, 12] (fun x y wr => ∃ (s : Int) (i n : Nat), i ≤ M ∧ x = .int .i64 s ∧ y = .int .i64 i ∧ costW s (F.drop i) (L.drop i) = costW 0 F L ∧ wr = w.drewN n) (fun _ y _ => M - (intOf y).toNat)
  case atStart => exact ⟨0, 0, 0, by omega, rfl, rfl, rfl, rfl⟩
  case round =>
    obtain ⟨s, i, n, hi, rfl, rfl, he, rfl⟩ := hrel
    have HE := Lib.hid he
    clear he
    by_cases hlt0 : i < M
    · have hlt : i < F.length := by omega
      by_cases hlt2 : i < L.length
      · rw [cost_step hlt hlt2] at HE
        obtain ⟨bb, off, cap', hs, _, _, hb1, hc⟩ := HU.out.cells (by omega)
        simp at hs
        obtain ⟨rfl, rfl⟩ := hs
        obtain ⟨bb2, off2, cap2', hs, _, _, hb2, hc2⟩ := HV.out.cells (by omega)
        simp at hs
        obtain ⟨rfl, rfl⟩ := hs
        have c0 : ∀ m, (w.drewN m).cell? ⟨bb, off + i, none⟩ = some (.int .i64 (F.getD i 0)) := fun m => hc i hlt
        have d0 : ∀ m, (w.drewN m).cell? ⟨bb2, off2 + i, none⟩ = some (.int .i64 (L.getD i 0)) := fun m => hc2 i hlt2
        generalize F.getD i 0 = x at *
        generalize L.getD i 0 = y at *
        clear hc hc2
        go_wp2_with fail
        go_quiet (fail)
        go_wp2
        refine ⟨⟨_, i + 1, _, by omega, rfl, by first | rfl | go_num, HE.out, by first | rfl | trivial⟩, ?_⟩
        simp only [intOf_int]; omega
      · omega
    · rw [cost_end (by omega)] at HE
      go_wp2
      go_ret
      exact ⟨by rw [HE.out]; rfl, bel_drewN (Below.refl _ _) n⟩
end Go.Proofs.Ytnoleijdpilnpaa

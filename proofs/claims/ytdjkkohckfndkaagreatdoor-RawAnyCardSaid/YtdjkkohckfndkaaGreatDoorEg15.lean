/- Texts put together: NumD. -/
import Derived.Test.YtdjkkohckfndkaaGreatDoorEg14
set_option linter.unusedSimpArgs false
set_option linter.unusedVariables false
set_option maxRecDepth 100000
namespace Go.Proofs.YtdjkkohckfndkaaGreatDoor.Pl
end Go.Proofs.YtdjkkohckfndkaaGreatDoor.Pl
namespace Go.Proofs.YtdjkkohckfndkaaGreatDoor.S2.Pl
end Go.Proofs.YtdjkkohckfndkaaGreatDoor.S2.Pl
namespace Go.Proofs.YtdjkkohckfndkaaGreatDoor.S2
open Go.RowKit _root_.Go.Proofs.YtdjkkohckfndkaaGreatDoor.Pl _root_.Go.Proofs.YtdjkkohckfndkaaGreatDoor.S2.Pl

theorem horner_big {B : List Nat} {j p n : Nat} (hn : n = vval ((B.take (j + 1)).drop (p + 1))) (hb : 144115188075855872 ≤ n) : VBad B j := by
  left
  have h := vval_drop_le (B.take (j + 1)) (p + 1)
  rw [← hn, Nat.pow_succ] at h
  have h1 : 1 ≤ 128 ^ p := by
    have := Nat.pow_le_pow_left (show 1 ≤ 128 by omega) p
    simpa using this
  have h2 : 1 * 128 * n ≤ 128 ^ p * 128 * n := Nat.mul_le_mul_right _ (Nat.mul_le_mul_right _ h1)
  omega
theorem horner {B : List Nat} {j p n y : Nat} (hn : n = vval ((B.take (j + 1)).drop (p + 1))) (hb : ¬ 144115188075855872 ≤ n) (hy : y = B.getD p 0) (hp : p < j + 1) (hj : j + 1 ≤ B.length) :
    IntKind.u64.wrap (IntKind.u64.wrap ((n : Int) * 128) + (y : Int) % 128) = ((vval ((B.take (j + 1)).drop p) : Nat) : Int) ∧ U64 (vval ((B.take (j + 1)).drop p) : Nat) := by
  have h := vval_drop B (j + 1) p hp hj
  rw [← hn, ← hy] at h
  rw [h, IntKind.wrap_u64, IntKind.wrap_u64]
  exact ⟨by omega, by omega, by omega⟩

set_option maxHeartbeats 1000000 in
set_option maxRecDepth 10000 in
theorem refGet_any (v : Value) (B : List Nat) (w : World) (hv : IsBytes w v B) : Calls Tryz.prog 82 #[v] w (VGetPost B w) := by
  obtain ⟨a, cap, rfl, hcap, hmax⟩ := hv.slice
  unfold maxLen at hmax
  have HV := Lib.hid hv
  clear hv
  go_enter Tryz.func82, Tryz.ntmps82
  go_wp2
  go_loop [4] (fun k => ∃ j : Nat, j ≤ B.length ∧ j ≤ 10 ∧ k = .int .i64 ((j : Int) + 1) ∧ VOn B j) (fun k => 11 - (intOf k).toNat)
  case atStart => exact ⟨0, by omega, by omega, rfl, VOn.zero _⟩
  case round =>
    obtain ⟨j, hj, hj10, rfl, hon⟩ := hrel
    have HON := Lib.hid hon
    clear hon
    by_cases hlt : j < B.length ∧ j < 10
    · obtain ⟨hl, h10⟩ := hlt
      obtain ⟨b, off, cap', hsl, _, _, _, hc⟩ := HV.out.cells (by omega)
      simp at hsl
      obtain ⟨rfl, rfl⟩ := hsl
      have c0 := hc j hl
      have l0 := getD_lt HV.out.1 j
      have HC := Lib.hid hc
      clear hc
      obtain ⟨x, hx⟩ : ∃ x, x = B.getD j 0 := ⟨_, rfl⟩
      rw [← hx] at c0 l0
      have HX := Lib.hid hx
      clear hx
      have hjl : (j : Int) < B.length := by omega
      by_cases h128 : 128 ≤ x
      · have hxI : (128 : Int) ≤ x := by omega
        go_wp2
        go_round
        case rel => exact ⟨j + 1, by omega, by omega, by go_num, HON.out.succ (by rw [← HX.out]; omega)⟩
        case measure => simp [intOf]; omega
      · have hxI : (x : Int) < 128 := by omega
        go_wp2_with fail
        go_loop [5, 6] (fun n i => ∃ q : Nat, q ≤ j + 1 ∧ i = .int .i64 ((q : Int) - 1) ∧ n = .int .u64 (vval ((B.take (j + 1)).drop q) : Nat) ∧ U64 (vval ((B.take (j + 1)).drop q) : Nat)) (fun _ i => (intOf i + 1).toNat)
        case atStart => exact ⟨j + 1, by omega, by congr 1; omega, by rw [List.drop_of_length_le (by rw [List.length_take]; omega)]; rfl, by rw [List.drop_of_length_le (by rw [List.length_take]; omega)]; exact U64.small (by simp [vval]) (by simp [vval])⟩
        case round =>
          obtain ⟨q, hq, rfl, rfl, hU⟩ := hrel
          have HU := Lib.hid hU
          have hn0 := hU.1
          clear hU
          cases q with
          | zero =>
            rw [List.drop_zero] at HU hn0 ⊢
            obtain ⟨n, hn⟩ : ∃ n, n = vval (B.take (j + 1)) := ⟨_, rfl⟩
            rw [← hn] at HU hn0 ⊢
            have HN := Lib.hid hn
            clear hn
            have hlt : n < 18446744073709551616 := by have := HU.out.2; omega
            have HLT := Lib.hid hlt
            clear hlt
            by_cases hj0 : j = 0
            · subst hj0
              go_wp2
              go_ret2
              exact vgetPost_some (vget_good HON.out h10 hl (by rw [← HX.out]; omega) (by rintro (h | h); (have := HLT.out; rw [← HN.out] at h; omega); omega)) (by rw [HN.out]) rfl
            · by_cases hx0 : x = 0
              · have hxb : ((x : Int) == 0) = true := by simp; omega
                go_wp2
                go_ret2
                exact vgetPost_none (vget_bad HON.out h10 hl (by rw [← HX.out]; omega) (.inr ⟨by omega, by rw [← HX.out]; exact hx0⟩))
              · have hxb : ((x : Int) == 0) = false := by simp; omega
                go_wp2
                go_ret2
                exact vgetPost_some (vget_good HON.out h10 hl (by rw [← HX.out]; omega) (by rintro (h | h); (have := HLT.out; rw [← HN.out] at h; omega); (rw [← HX.out] at h; omega))) (by rw [HN.out]) rfl
          | succ p =>
            have hpl : (p : Int) < B.length := by omega
            have d0 := HC.out p (by omega)
            have l1 := getD_lt HV.out.1 p
            obtain ⟨n, hn⟩ : ∃ n, n = vval ((B.take (j + 1)).drop (p + 1)) := ⟨_, rfl⟩
            rw [← hn] at HU hn0 ⊢
            have HN := Lib.hid hn
            clear hn
            obtain ⟨y, hy⟩ : ∃ y, y = B.getD p 0 := ⟨_, rfl⟩
            rw [← hy] at d0 l1
            have HY := Lib.hid hy
            clear hy
            by_cases hbig : 144115188075855872 ≤ n
            · have hd : decide ((144115188075855872 : Int) ≤ (n : Int)) = true := by simp; omega
              have HB := Lib.hid hbig
              clear hbig
              go_wp2
              go_ret2
              exact vgetPost_none (vget_bad HON.out h10 hl (by rw [← HX.out]; omega) (horner_big HN.out HB.out))
            · have hd : decide ((144115188075855872 : Int) ≤ (n : Int)) = false := by simp; omega
              have HB := Lib.hid hbig
              clear hbig
              go_wp2
              go_round
              case rel => exact ⟨p, by omega, rfl, by rw [(horner HN.out HB.out HY.out (by omega) (by omega)).1], (horner HN.out HB.out HY.out (by omega) (by omega)).2⟩
              case measure => simp [intOf]
    · rcases (show 10 < j + 1 ∨ (j < 10 ∧ B.length < j + 1) by omega) with h | ⟨h, h2⟩
      · have h' : (10 : Int) < (j : Int) + 1 := by omega
        clear hlt
        go_wp2
        go_ret2
        exact vgetPost_none (vget_none HON.out (by omega))
      · have h' : (j : Int) + 1 ≤ 10 := by omega
        have h2' : (B.length : Int) < (j : Int) + 1 := by omega
        clear hlt
        go_wp2
        go_ret2
        exact vgetPost_none (vget_none HON.out (by omega))
end Go.Proofs.YtdjkkohckfndkaaGreatDoor.S2

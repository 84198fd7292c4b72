/- folioref1.before: a contract. -/
import Derived.Test.YtklpmpniempmcaaInts
import Derived.Test.YtklpmpniempmcaaSufP
set_option linter.unusedSimpArgs false
set_option linter.unusedVariables false
namespace Go.Proofs.Ytklpmpniempmcaa
open Go.RowKit Pl
theorem intOf_i (x : Int) : intOf (.int .i64 x) = x := rfl
theorem bytes_cell {w : World} {v : Value} {B : List Nat} (h : IsBytes w v B) : ∃ a cap, v = .slice a B.length cap ∧ B.length ≤ cap ∧ cap ≤ maxLen ∧ (0 < B.length → ∃ b off, a = some ⟨b, off, none⟩ ∧ b < w.heap.size ∧ ∀ i, i < B.length → w.cell? ⟨b, off + i, none⟩ = some (.int .u8 (B.getD i 0 : Nat))) := by
  obtain ⟨hx, ⟨rfl, rfl⟩ | ⟨⟨b, off, spot⟩, cap, rfl, h1, h2, hc⟩⟩ := h
  · exact ⟨none, 0, rfl, Nat.le_refl _, by unfold maxLen; omega, fun h => by simp at h⟩
  · refine ⟨_, cap, rfl, h1, h2, fun h0 => ?_⟩
    have hc0 := hc 0 _ (u8s_get B 0 h0)
    have hspot : spot = none := by simpa [Addr.add] using World.cell?_spot hc0
    subst hspot
    refine ⟨b, off, rfl, World.block_lt_of_cell? w _ hc0, fun i hi => ?_⟩
    have := hc i _ (u8s_get B i hi)
    have hadd : (⟨b, off, none⟩ : Addr).add i = ⟨b, off + i, none⟩ := by unfold Addr.add; split <;> simp_all
    rwa [hadd] at this
theorem drewN_two (w : World) (a b : Nat) : (w.drewN a).drewN b = w.drewN (a + b) := by simp [World.drewN, Nat.add_assoc]
set_option maxHeartbeats 8000000 in
theorem before_any (v : Value) (B : List Nat) (i0 j0 : Nat) (w : World) (hv : IsBytes w v B) (hB : B.length ≤ 1000000000) (hi0 : i0 ≤ B.length) (hj0 : j0 ≤ B.length) :
    Calls Try.prog 22 #[v, .int .i64 i0, .int .i64 j0] w fun e w' => e = .returned (.bool (sufB B i0 j0)) ∧ ∃ m, w.drewN m = w' := by
  obtain ⟨a, cap, rfl, hcap, hmax, hcell⟩ := bytes_cell hv
  have HC := Lib.hid hcell
  clear hv hcell
  obtain ⟨N, hN⟩ : ∃ N, N = B.length := ⟨_, rfl⟩
  rw [← hN] at HC hcap hB hi0 hj0 ⊢
  have HN := Lib.hid hN
  clear hN
  go_enter Try.func22, Try.ntmps22
  go_wp2_with fail
  go_loopw [1, 2] (fun x y wr => ∃ (i j m : Nat), i ≤ N ∧ j ≤ N ∧ x = .int .i64 i ∧ y = .int .i64 j ∧ sufB B i j = sufB B i0 j0 ∧ wr = w.drewN m) (fun x _ _ => N - (intOf x).toNat)
  case atStart => exact ⟨i0, j0, 0, hi0, hj0, rfl, rfl, rfl, rfl⟩
  case round =>
    obtain ⟨i, j, m, hi, hj, rfl, rfl, hs, rfl⟩ := hrel
    have HS := Lib.hid hs
    clear hs
    by_cases hin : i < N
    · have hinI : (i : Int) < (N : Int) := by omega
      by_cases hjn : j < N
      · have hjnI : (j : Int) < (N : Int) := by omega
        obtain ⟨b, off, rfl, _, hc⟩ := HC.out (by omega)
        have c0 := hc i hin
        have c1 := hc j hjn
        have hi' : i < B.length := by rw [← HN.out]; exact hin
        have hj' : j < B.length := by rw [← HN.out]; exact hjn
        have HE := Lib.hid (@suf_same B i j hi' hj')
        have HL := Lib.hid (@suf_lt B i j hi' hj')
        have HG := Lib.hid (@suf_gt B i j hi' hj')
        generalize B.getD i 0 = x at *
        generalize B.getD j 0 = y at *
        clear hc hi' hj'
        by_cases hxy : x = y
        · subst hxy
          have ht : ((x : Int) != (x : Int)) = false := bne_f rfl
          go_wp2_with fail
          go_quiet (fail)
          go_wp2_with fail
          go_roundw
          case rel => exact ⟨i + 1, j + 1, _, by omega, by omega, by go_num, by go_num, by rw [← HE.out trivial]; exact HS.out, rfl⟩
          case measure => simp [intOf]; omega
        · have ht : ((x : Int) != (y : Int)) = true := bne_t (by omega)
          have hd : sufB B i0 j0 = decide ((x : Int) < (y : Int)) := by
            rw [← HS.out]
            by_cases h : x < y
            · rw [HL.out h]; simp [h]
            · rw [HG.out (by omega)]; simp; omega
          have HD := Lib.hid hd
          clear hd
          go_wp2_with fail
          go_quiet (fail)
          go_wp2_with fail
          go_quiet (fail)
          go_wp2_with fail
          go_ret
          exact ⟨by rw [HD.out]; simp, _, by rw [drewN_two, drewN_two]⟩
      · have hjnI : ¬ (j : Int) < (N : Int) := by omega
        have hout : sufB B i0 j0 = false := by rw [← HS.out]; exact suf_out (by rw [← HN.out]; omega)
        have HOUT := Lib.hid hout
        clear hout
        go_wp2_with fail
        go_ret
        exact ⟨by rw [HOUT.out]; rfl, _, rfl⟩
    · by_cases hjn : j < N
      · have hjnI : (j : Int) < (N : Int) := by omega
        have hinI : (N : Int) ≤ (i : Int) := by omega
        have hin2 : sufB B i0 j0 = true := by rw [← HS.out]; exact suf_in (by rw [← HN.out]; omega) (by rw [← HN.out]; exact hjn)
        have HOUT := Lib.hid hin2
        clear hin2
        go_wp2_with fail
        go_ret
        exact ⟨by rw [HOUT.out]; rfl, _, rfl⟩
      · have hjnI : ¬ (j : Int) < (N : Int) := by omega
        have hinI : (N : Int) ≤ (i : Int) := by omega
        have hout : sufB B i0 j0 = false := by rw [← HS.out]; exact suf_out (by rw [← HN.out]; omega)
        have HOUT := Lib.hid hout
        clear hout
        go_wp2_with fail
        go_ret
        exact ⟨by rw [HOUT.out]; rfl, _, rfl⟩
end Go.Proofs.Ytklpmpniempmcaa

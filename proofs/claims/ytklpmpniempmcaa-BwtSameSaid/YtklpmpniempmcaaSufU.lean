/- suffix.placesOf, suffix.Common, of the right order: contracts. -/
import Derived.Test.YtklpmpniempmcaaSufE
import Derived.Test.YtklpmpniempmcaaSufMx
import Derived.Test.YtklpmpniempmcaaSaH
set_option linter.unusedSimpArgs false
set_option linter.unusedVariables false
namespace Go.Proofs.Ytklpmpniempmcaa
open Go.RowKit Pl
theorem run_maxI0 (ats : Array TypeId) (ty : TypeId) (a : Nat) (w : World) : (maxI ats ty (.int .i64 ((a : Int) - 1)) (.int .i64 0)).run Try.prog w = .ok (.int .i64 (a - 1 : Nat)) w := by
  unfold maxI Builtin.max_
  by_cases h : (a : Int) - 1 < 0
  · have e : ((a - 1 : Nat) : Int) = 0 := by omega
    rw [e]
    simp [Builtin.max2, h]
  · have e : ((a - 1 : Nat) : Int) = (a : Int) - 1 := by omega
    rw [e]
    simp [Builtin.max2, h]
def PlacePost (B R : List Nat) (w : World) (e : Ending) (w' : World) : Prop :=
  ∃ (g : Nat) (P : List Int), e = .returned (.tuple #[.slice (some ⟨g, 0, none⟩) (B.length + 1) (B.length + 1), .bool true]) ∧ w.heap.size ≤ g ∧ OwnI w' g (B.length + 1) (B.length + 1) P ∧ Places B R P ∧ Below w.heap.size w w'
set_option maxRecDepth 100000 in
set_option maxHeartbeats 16000000 in
theorem places_any (v sv : Value) (B R : List Nat) (w : World) (hv : IsBytes w v B) (hs : IsInts w sv (nI R)) (hR : IsSA B R) (hB : B.length ≤ 900000) :
    Calls Try.prog 23 #[v, sv] w (PlacePost B R w) := by
  have hRl := sa_length hR
  obtain ⟨a, cap, rfl, hcap, hmax, hcell⟩ := bytes_cell hv
  obtain ⟨sa, scap, rfl, hsc1, hsc2⟩ := hs.slice
  have hsc : ∀ i, i < R.length → ∃ b off, sa = some ⟨b, off, none⟩ ∧ b < w.heap.size ∧ w.cell? ⟨b, off + i, none⟩ = some (.int .i64 (R.getD i 0 : Nat)) := fun i hi => by
    obtain ⟨b, off, c, e, _, _, hb, hx⟩ := hs.cells (by rw [nI_length]; omega)
    simp at e
    exact ⟨b, off, e.1, hb, by rw [hx i (by rw [nI_length]; exact hi), nI_get]⟩
  rw [nI_length] at hsc1 ⊢
  rw [hRl] at hsc1 ⊢
  obtain ⟨wa, hwa⟩ : ∃ wa, w.alloc (.cells #[.int .i64 (-1)] 3) = wa := ⟨_, rfl⟩
  have hsza : wa.heap.size = w.heap.size + 1 := by rw [← hwa]; simp
  have hba : Below w.heap.size w wa := by rw [← hwa]; exact (Below.refl _ _).alloc (Nat.le_refl _) _
  have hrep := repeat_any (-1) w.heap.size (B.length + 1) wa (by rw [← hwa]; exact Blk.new w _ _) (by omega)
  have HC := Lib.hid hcell
  have HS := Lib.hid hsc
  have HR := Lib.hid hR
  have HRL := Lib.hid hRl
  have HBA := Lib.hid hba
  obtain ⟨N, hN⟩ : ∃ N, B.length = N := ⟨_, rfl⟩
  have HN := Lib.hid hN
  rw [hN] at hcap hB hsc1 hrep ⊢
  have e1 : ((N + 1 : Nat) : Int) = (N : Int) + 1 := by omega
  rw [e1] at hrep
  clear hv hs hcell hsc hR hRl hba hN e1
  go_enter Try.func23, Try.ntmps23
  go_wp2_with fail
  refine hrep.mono ?_
  rintro e w1 ⟨rfl, hO, hb1⟩
  clear hrep hwa
  obtain ⟨g, hg⟩ : ∃ g, wa.heap.size = g := ⟨_, rfl⟩
  rw [hg] at hO hb1 ⊢
  have HO0 := Lib.hid hO
  have HB1 := Lib.hid (Below.trans HBA.out (Below.mono hb1 (by omega)))
  clear hO hb1
  go_wp2_with fail
  go_loopw [24] (fun y wr => ∃ (k : Nat) (P : List Int), k ≤ N ∧ y = .int .i64 k ∧ PlInv B R P k ∧ OwnI wr g (N + 1) (N + 1) P ∧ Gr w1 wr g) (fun y _ => N - (intOf y).toNat)
  case atStart => exact ⟨0, _, Nat.zero_le _, rfl, by have := pl_start B R; rwa [HN.out] at this, HO0.out, Gr.refl _ _⟩
  case round =>
    obtain ⟨k, P, hk, rfl, hp, ho, hgr⟩ := hrel
    have HP := Lib.hid hp
    have HO := Lib.hid ho
    have HG := Lib.hid hgr
    have HB := Lib.hid (Below.trans HB1.out (Gr.below hgr HB1.out.size (by omega)))
    clear hp ho hgr HO0
    by_cases hlt : k < N
    · have hkR : k < R.length := by rw [HRL.out, HN.out]; exact hlt
      obtain ⟨b, off, rfl, hbw, cs⟩ := HS.out k hkR
      rw [← HB.out.cell (p := ⟨b, off + k, none⟩) hbw] at cs
      have hl := sa_lt HR.out hkR
      rw [HN.out] at hl
      have hfree := pl_free HR.out HP.out hkR
      have cp := HO.out.cell (i := R.getD k 0) (by omega)
      rw [hfree] at cp
      have fp := HO.out.frozen (R.getD k 0)
      have HPUT := Lib.hid (pl_put HR.out HP.out hkR)
      have HOS := Lib.hid (HO.out.set (R.getD k 0) k)
      have HGS := Lib.hid (HG.out.setCell (R.getD k 0) (.int .i64 k))
      generalize R.getD k 0 = x at *
      clear hfree
      go_wp2_with fail
      refine ⟨⟨k + 1, _, by omega, by first | rfl | go_num, HPUT.out, HOS.out, HGS.out⟩, ?_⟩
      simp only [intOf_i]; omega
    · obtain rfl : k = N := by omega
      have hpe := HP.out
      rw [← HN.out, ← HRL.out] at hpe
      have HPL := Lib.hid (pl_end HR.out hpe)
      clear hpe HP
      obtain ⟨wo, hwo⟩ : ∃ wo : World, wo = wr := ⟨_, rfl⟩
      subst hwo
      go_wp2_with fail
      go_loopw [9] (fun y wr => ∃ (i q : Nat), 1 ≤ i ∧ i ≤ k + 1 ∧ y = .int .i64 i ∧ wr = wo.drewN q) (fun y _ => k + 1 - (intOf y).toNat)
      case atStart => exact ⟨1, 0, by omega, by omega, rfl, rfl⟩
      case round =>
        obtain ⟨i, q, hi1, hi2, rfl, rfl⟩ := hrel
        by_cases hlt2 : i < k
        · obtain ⟨j, rfl⟩ : ∃ j, i = j + 1 := ⟨i - 1, by omega⟩
          have hjR : j + 1 < R.length := by rw [HRL.out, HN.out]; exact hlt2
          obtain ⟨b, off, rfl, hbw, cs1⟩ := HS.out (j + 1) hjR
          obtain ⟨b', off', e, _, cs0⟩ := HS.out j (by omega)
          simp at e
          obtain ⟨rfl, rfl⟩ := e
          rw [← HB.out.cell (p := ⟨b, off + (j + 1), none⟩) hbw] at cs1
          rw [← HB.out.cell (p := ⟨b, off + j, none⟩) hbw] at cs0
          have l0 := sa_lt HR.out (by omega : j < R.length)
          have l1 := sa_lt HR.out hjR
          have hck := pl_check HR.out HPL.out hjR
          obtain ⟨lb, lo, rfl, hlb, hlx⟩ := HC.out (by omega)
          have cA := hlx _ l0
          have cB := hlx _ l1
          rw [← HB.out.cell (p := ⟨lb, lo + R.getD j 0, none⟩) hlb] at cA
          rw [← HB.out.cell (p := ⟨lb, lo + R.getD (j + 1) 0, none⟩) hlb] at cB
          have pA := HO.out.cell (i := R.getD j 0 + 1) (by rw [HN.out] at l0; omega)
          have pB := HO.out.cell (i := R.getD (j + 1) 0 + 1) (by rw [HN.out] at l1; omega)
          rw [HN.out] at l0 l1
          have ej : ((j + 1 : Nat) : Int) - 1 = (j : Int) := by omega
          generalize R.getD j 0 = x at *
          generalize R.getD (j + 1) 0 = y at *
          generalize B.getD x 0 = ca at *
          generalize B.getD y 0 = cb at *
          generalize P.getD (x + 1) 0 = pa at *
          generalize P.getD (y + 1) 0 = pb at *
          clear hlx
          rcases hck with hab | ⟨hab, hpp⟩
          · have h1 : ¬ (cb : Int) < (ca : Int) := by omega
            have h1b : ¬ cb < ca := by omega
            have h1c : (ca : Int) ≤ (cb : Int) := by omega
            have h2 : ((ca : Int) == (cb : Int)) = false := beq_f (by omega)
            have h2b : (ca == cb) = false := beq_eq_false_iff_ne.2 (by omega)
            have h2c : ¬ ca = cb := by omega
            go_wp2_with fail
            go_quiet (fail)
            go_wp2_with fail
            go_quiet (fail)
            go_wp2_with fail
            refine ⟨⟨j + 1 + 1, _, by omega, by omega, by first | rfl | go_num, rfl⟩, ?_⟩
            simp only [intOf_i]; omega
          · subst hab
            have h3 : ¬ pb < pa := by omega
            go_wp2_with fail
            go_quiet (fail)
            go_wp2_with fail
            go_quiet (fail)
            go_wp2_with fail
            refine ⟨⟨j + 1 + 1, _, by omega, by omega, by first | rfl | go_num, rfl⟩, ?_⟩
            simp only [intOf_i]; omega
        · have hiI : ¬ (i : Int) < (k : Int) := by omega
          go_wp2_with fail
          go_ret2
          exact ⟨g, P, by rw [HN.out]; rfl, by omega, by rw [HN.out]; exact HO.out, HPL.out, bel_drewN HB.out _⟩
end Go.Proofs.Ytklpmpniempmcaa

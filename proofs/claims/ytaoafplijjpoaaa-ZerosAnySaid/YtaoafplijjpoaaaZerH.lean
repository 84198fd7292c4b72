/- ZerosAny, walked. -/
import Derived.Test.YtaoafplijjpoaaaZerE
import Derived.Test.YtaoafplijjpoaaaZerF
set_option linter.unusedSimpArgs false
set_option linter.unusedVariables false
namespace Go.Proofs.Ytaoafplijjpoaaa
open Go.RowKit Pl
theorem unzeros_s {v : Value} {L : List Int} {m : Int} {w : World} {r : Int} {X : List Nat} {n : Nat} (hv : IsInts w v L) (hL : L.length ≤ 4294967296) (hm : m ≤ 2147483648) (hA : ans L [] 0 m.toNat = (r, X)) (hn : X.length = n) :
    Calls Try.prog 9 #[v, .int .i64 m] w fun e w' => ∃ sp cap, e = .returned (.tuple #[.slice sp n cap, .int .i64 r]) ∧ IsBytes w' (.slice sp n cap) X ∧ Below w.heap.size w w' :=
  (unzeros_any v L m w hv hL hm).mono fun e w' h => by
    subst hn
    unfold DecPost at h
    rw [hA] at h
    obtain ⟨v', rfl, hi, hb⟩ := h
    obtain ⟨sp, cap, rfl, _, _⟩ := hi.slice
    exact ⟨sp, cap, rfl, hi, hb⟩
theorem shortI_of {w : World} {a : Option Addr} {len cap : Nat} {B : List Int} (hv : IsInts w (.slice a len cap) B) (hl : B.length = len) :
    ∃ A a1 c1, IsInts w (.slice a1 A.length c1) A ∧ A.length ≤ 40 ∧ ((40 < len ∧ ∀ W, (sliceI (.slice a len cap) none (some (.int .i64 40)) none).run Try.prog W = .ok (.slice a1 A.length c1) W) ∨ (a = a1 ∧ len = A.length ∧ cap = c1)) := by
  by_cases h : 40 < len
  · obtain ⟨a1, c1, h1, h2⟩ := run_uptoI hv hl 40 40 rfl (by omega)
    have e : (B.take 40).length = 40 := by rw [List.length_take]; omega
    exact ⟨B.take 40, a1, c1, by rw [e]; exact h2, by omega, .inl ⟨h, by rw [e]; exact h1⟩⟩
  · subst hl
    exact ⟨B, a, cap, hv, by omega, .inr ⟨rfl, rfl, rfl⟩⟩
attribute [local go_sem ↓] sliceI_eq conv_eq
set_option maxHeartbeats 8000000 in
theorem zerosAny_walk (a : Option Addr) (len cap : Nat) (z : List Int) (m : Int) (w : World) (hr : IsRow .i64 w a len cap z) (wm : (Lit.int .i64 m).wf = true) :
    Calls Try.prog 3 #[.slice a len cap, .int .i64 m] w fun e w' => e = .returned (.bool true) ∧ Below w.heap.size w w' := by
  have hm1 := hr.len_le
  unfold maxLen at hm1
  obtain ⟨hV, hlen⟩ := isInts_row hr
  clear hr
  obtain ⟨A, a1, c1, hI, hlA, hca⟩ := shortI_of hV hlen
  have HI := Lib.hid hI
  clear hI hV hlen
  have hmc : ∃ M : Int, M ≤ 5000 ∧ ((5000 < m ∧ M = 5000) ∨ (¬ 5000 < m ∧ M = m)) := by
    by_cases h : 5000 < m
    · exact ⟨5000, by omega, .inl ⟨h, rfl⟩⟩
    · exact ⟨m, by omega, .inr ⟨h, rfl⟩⟩
  obtain ⟨M, hM5, hmc⟩ := hmc
  obtain ⟨r, X, hA⟩ : ∃ r X, ans A [] 0 M.toNat = (r, X) := ⟨_, _, rfl⟩
  have HA := Lib.hid hA
  clear hA
  have er : (r == r) = true := beq_t rfl
  have es : ((str X).toList == (str X).toList) = true := by simp
  rcases hca with ⟨hla, hs1⟩ | ⟨rfl, rfl, rfl⟩ <;> rcases hmc with ⟨h5, rfl⟩ | ⟨h5, rfl⟩
  all_goals
    go_enter Try.func3, Try.ntmps3
    go_wp2_with fail
    refine (begun_any _).mono ?_
    rintro e w1 ⟨rfl, hb1⟩
    have HI1 := Lib.hid (HI.out.below hb1)
    have HB1 := Lib.hid hb1
    clear hb1 HI
    go_wp2_with fail
    refine (decode_s HI1.out (by omega) (by omega) HA.out rfl).mono ?_
    rintro e w2 ⟨sp2, cp2, rfl, hi2, hb2⟩
    have HI2 := Lib.hid (HI1.out.below hb2)
    have HD2 := Lib.hid hi2
    have HB2 := Lib.hid (HB1.out.trans (hb2.mono HB1.out.size))
    clear hi2 hb2 HI1 HB1
    go_wp2_with fail
    refine (unzeros_s HI2.out (by omega) (by omega) HA.out rfl).mono ?_
    rintro e w3 ⟨sp3, cp3, rfl, hi3, hb3⟩
    have k1 := run_conv (HD2.out.below hb3)
    have k2 := run_conv hi3
    have HB3 := Lib.hid (HB2.out.trans (hb3.mono HB2.out.size))
    clear hi3 hb3 HI2 HD2 HB2
    go_wp2_with fail
    go_ret
    exact ⟨rfl, HB3.out⟩
end Go.Proofs.Ytaoafplijjpoaaa

/- The verifier's Check, Eq: contracts. -/
import Derived.Test.YtcgleephodfelaaDoorRcA
set_option linter.unusedSimpArgs false
set_option linter.unusedVariables false
set_option maxRecDepth 100000
namespace Go.Proofs.YtcgleephodfelaaDoor.S14
open Go.RowKit
attribute [local go_sem ↓] loadR_eq
theorem form_no {r : RT} (h : ¬ (r.kind = 1 ∨ r.kind = 0 ∧ r.val.size = 0) ∨ r.seq < 1 ∨ 1125899906842624 < r.seq) : formR r = false := by
  cases hf : formR r with
  | false => rfl
  | true =>
    obtain ⟨a, b, c⟩ := form_ok hf
    rcases h with h | h | h
    · exact absurd c h
    · omega
    · omega
theorem form_yes {r : RT} (h : r.kind = 1 ∨ r.kind = 0 ∧ r.val.size = 0) (h1 : 1 ≤ r.seq) (h2 : r.seq ≤ 1125899906842624) : formR r = true := by
  unfold formR
  simp only [Bool.and_eq_true, Bool.or_eq_true, decide_eq_true_eq]
  exact ⟨⟨h1, h2⟩, h⟩
set_option maxHeartbeats 4000000 in
theorem refCheck_any (r : RT) (w : World) (hk : r.key.size ≤ maxLen) (hr : r.val.size ≤ maxLen) : Calls Tryd.prog 9 #[.agg #[.int .i64 r.kind, .int .i64 r.seq, .string r.key, .string r.val]] w fun e w' => e = .returned (.int .i64 (chk r : Nat)) ∧ Below w.heap.size w w' := by
  obtain ⟨k, s, key, val⟩ := r
  have HB := Lib.hid (agg_zero w ⟨k, s, key, val⟩)
  simp only at hk hr HB ⊢
  unfold maxLen at hk hr
  have e1 := empty_eq key
  have e2 := empty_eq val
  by_cases h1 : key.size = 0
  · have q1 : key.toList.isEmpty = true := by rw [e1]; simp [h1]
    rw [chk_1 h1]
    clear e1 e2 h1 hk hr
    go_enter Tryd.func9, Tryd.ntmps9
    go_wp2
    go_ret
    exact ⟨rfl, HB.out⟩
  have q1 : key.toList.isEmpty = false := by rw [e1]; simp [h1]
  by_cases h2 : 100 < key.size
  · have HC := Lib.hid (chk_2 (r := ⟨k, s, key, val⟩) h1 (.inl h2))
    clear e1 e2
    go_enter Tryd.func9, Tryd.ntmps9
    go_wp2
    go_ret
    exact ⟨by rw [HC.out]; rfl, HB.out⟩
  by_cases h3 : 4000 < val.size
  · have HC := Lib.hid (chk_2 (r := ⟨k, s, key, val⟩) h1 (.inr h3))
    clear e1 e2
    go_enter Tryd.func9, Tryd.ntmps9
    go_wp2
    go_ret
    exact ⟨by rw [HC.out]; rfl, HB.out⟩
  have hc := chk_3 (r := ⟨k, s, key, val⟩) h1 (by simp only; omega) (by simp only; omega)
  clear e1
  by_cases h4 : k = 1
  · subst h4
    by_cases h6 : s < 1
    · rw [form_no (.inr (.inl h6))] at hc
      have HC := Lib.hid hc
      clear hc e2
      go_enter Tryd.func9, Tryd.ntmps9
      go_wp2
      go_ret
      exact ⟨by rw [HC.out]; rfl, HB.out⟩
    by_cases h7 : 1125899906842624 < s
    · rw [form_no (.inr (.inr h7))] at hc
      have HC := Lib.hid hc
      clear hc e2
      go_enter Tryd.func9, Tryd.ntmps9
      go_wp2
      go_ret
      exact ⟨by rw [HC.out]; rfl, HB.out⟩
    rw [form_yes (.inl rfl) (by simp only; omega) (by simp only; omega)] at hc
    have HC := Lib.hid hc
    clear hc e2
    go_enter Tryd.func9, Tryd.ntmps9
    go_wp2
    go_ret
    exact ⟨by rw [HC.out]; rfl, HB.out⟩
  have q4 : (k == 1) = false := beq_f h4
  have q5 : (k != 1) = true := bne_t h4
  by_cases h5 : k = 0
  · subst h5
    by_cases h8 : val.size = 0
    · have q8 : val.toList.isEmpty = true := by rw [e2]; simp [h8]
      by_cases h6 : s < 1
      · rw [form_no (.inr (.inl h6))] at hc
        have HC := Lib.hid hc
        clear hc e2
        go_enter Tryd.func9, Tryd.ntmps9
        go_wp2
        go_ret
        exact ⟨by rw [HC.out]; rfl, HB.out⟩
      by_cases h7 : 1125899906842624 < s
      · rw [form_no (.inr (.inr h7))] at hc
        have HC := Lib.hid hc
        clear hc e2
        go_enter Tryd.func9, Tryd.ntmps9
        go_wp2
        go_ret
        exact ⟨by rw [HC.out]; rfl, HB.out⟩
      rw [form_yes (.inr ⟨rfl, h8⟩) (by simp only; omega) (by simp only; omega)] at hc
      have HC := Lib.hid hc
      clear hc e2
      go_enter Tryd.func9, Tryd.ntmps9
      go_wp2
      go_ret
      exact ⟨by rw [HC.out]; rfl, HB.out⟩
    · have q8 : val.toList.isEmpty = false := by rw [e2]; simp [h8]
      rw [form_no (.inl fun h => h.elim (fun h => h4 h) fun h => h8 h.2)] at hc
      have HC := Lib.hid hc
      clear hc e2
      go_enter Tryd.func9, Tryd.ntmps9
      go_wp2
      go_ret
      exact ⟨by rw [HC.out]; rfl, HB.out⟩
  have q6 : (k == 0) = false := beq_f h5
  have q7 : (k != 0) = true := bne_t h5
  rw [form_no (.inl fun h => h.elim (fun h => h4 h) fun h => h5 h.1)] at hc
  have HC := Lib.hid hc
  clear hc e2
  go_enter Tryd.func9, Tryd.ntmps9
  go_wp2
  go_ret
  exact ⟨by rw [HC.out]; rfl, HB.out⟩
end Go.Proofs.YtcgleephodfelaaDoor.S14

/- CrcCut, walked. -/
import Derived.Test.YtaffmfocjaihlaaDoorCrcJ
set_option maxRecDepth 100000
namespace Go.Proofs.YtaffmfocjaihlaaDoor.Pl
end Go.Proofs.YtaffmfocjaihlaaDoor.Pl
namespace Go.Proofs.YtaffmfocjaihlaaDoor.S3.Pl
end Go.Proofs.YtaffmfocjaihlaaDoor.S3.Pl
set_option linter.unusedSimpArgs false
set_option linter.unusedVariables false
namespace Go.Proofs.YtaffmfocjaihlaaDoor.S3
open Go.RowKit _root_.Go.Proofs.YtaffmfocjaihlaaDoor.Pl _root_.Go.Proofs.YtaffmfocjaihlaaDoor.S3.Pl

namespace Pl
theorem getFour_take (B : List Nat) (n : Nat) (hn : 4 ≤ n) : getFour (B.take n) = getFour B := by
  unfold getFour
  by_cases h : B.length < 4
  · rw [if_pos h, if_pos (by rw [List.length_take]; omega)]
  · rw [if_neg h, if_neg (by rw [List.length_take]; omega)]
    simp [List.getD_eq_getElem?_getD, List.getElem?_take, show 0 < n by omega, show 1 < n by omega, show 2 < n by omega, show 3 < n by omega]
/-- a scan of a seal that is cut -/
theorem pscan_part (P Q : List Nat) (hP : P.length < 4294967296) (c : Nat) (hc : c < 12 + P.length) : pscan ((pseal P ++ Q).take c) = ([], 0, true) := by
  have hX : (pseal P ++ Q).length = 12 + P.length + Q.length := by rw [List.length_append, pseal_length]
  by_cases h : c < 12
  · exact pscan_short (by rw [List.length_take]; omega)
  · have hok : endOk ((pseal P ++ Q).take c) = true := by
      have h0 := seal_endOk P Q
      unfold endOk at h0 ⊢
      have e1 : (((pseal P ++ Q).take c).drop 4) = ((pseal P ++ Q).drop 4).take (c - 4) := List.drop_take
      have e2 : ((pseal P ++ Q).take c).take 4 = (pseal P ++ Q).take 4 := by rw [List.take_take, Nat.min_eq_left (by omega)]
      rw [e1, e2, getFour_take _ _ (by omega)]
      simp only [Bool.and_eq_true, decide_eq_true_eq] at h0 ⊢
      exact ⟨by rw [List.length_take]; omega, h0.2⟩
    refine pscan_cut hok ?_
    rw [endAt_ok hok, getFour_take _ _ (by omega), seal_getFour P Q hP, List.length_take]
    omega
theorem parts_split (R : List (List Nat)) (i n : Nat) (h : i ≤ n) : parts R n = parts R i ++ ((R.drop i).take (n - i)).map (·.take 60) := by
  unfold parts
  have e : n = i + (n - i) := by omega
  rw [e, List.take_add, List.map_append, Nat.add_sub_cancel_left]
theorem parts_next (R : List (List Nat)) (i n : Nat) (h : i < n) (hi : i < R.length) : ∃ M, parts R n = parts R i ++ ((R.getD i []).take 60 :: M) := by
  refine ⟨((R.drop (i + 1)).take (n - i - 1)).map (·.take 60), ?_⟩
  rw [parts_split R i n (by omega), List.drop_eq_getElem_cons hi, show n - i = (n - i - 1) + 1 by omega, List.take_succ_cons, List.map_cons]
  simp [List.getD, hi]
theorem cut_scan {R : List (List Nat)} (hR : ∀ B ∈ R, ∀ x ∈ B, x < 256) {n i C : Nat} (hin : i ≤ n) (h1 : (pcat (parts R i)).length ≤ C) (hC : C ≤ (pcat (parts R n)).length)
    (h2 : (i = n ∨ R.length ≤ i) ∨ (i < n ∧ i < R.length ∧ C < (pcat (parts R i)).length + (12 + ((R.getD i []).take 60).length))) :
    pscan ((pcat (parts R n)).take C) = (parts R i, (pcat (parts R i)).length, true) := by
  have hcat := fun T => pscan_cat (parts R i) T (parts_lt hR i) (fun P hP => by have := parts_short P hP; omega)
  rcases h2 with h | ⟨h, h3, h4⟩
  · have e : parts R n = parts R i := by
      rcases h with h | h
      · rw [h]
      · unfold parts; rw [List.take_of_length_le (by omega), List.take_of_length_le h]
    rw [e] at hC ⊢
    have hCe : C = (pcat (parts R i)).length := by omega
    rw [List.take_of_length_le (by omega)]
    have := hcat []
    rw [List.append_nil, pscan_short (B := []) (by simp)] at this
    rw [this]; simp
  · obtain ⟨M, hM⟩ := parts_next R i n h h3
    rw [hM, pcat_append, List.take_append, List.take_of_length_le h1, hcat]
    rw [show pcat ((R.getD i []).take 60 :: M) = pseal ((R.getD i []).take 60) ++ pcat M from rfl, pscan_part _ _ (by rw [List.length_take]; omega) _ (by omega)]
    simp
end Pl

attribute [local go_sem ↓] sliceU8_eq
end Go.Proofs.YtaffmfocjaihlaaDoor.S3

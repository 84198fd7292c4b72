/- CrcRot, walked. -/
import Derived.Test.YtaffmfocjaihlaaDoorCrcN
import Derived.Test.YtaffmfocjaihlaaDoorCrcM
set_option maxRecDepth 100000
namespace Go.Proofs.YtaffmfocjaihlaaDoor.Pl
end Go.Proofs.YtaffmfocjaihlaaDoor.Pl
namespace Go.Proofs.YtaffmfocjaihlaaDoor.S3.Pl
end Go.Proofs.YtaffmfocjaihlaaDoor.S3.Pl
set_option linter.unusedSimpArgs false
set_option linter.unusedVariables false
namespace Go.Proofs.YtaffmfocjaihlaaDoor.S3
open Go.RowKit _root_.Go.Proofs.YtaffmfocjaihlaaDoor.Pl _root_.Go.Proofs.YtaffmfocjaihlaaDoor.S3.Pl

namespace Pl
theorem set_app_left {A B : List Nat} {i y : Nat} (h : i < A.length) : (A ++ B).set i y = A.set i y ++ B := List.set_append_left _ _ h
theorem set_app_right {A B : List Nat} {i y : Nat} (h : A.length ≤ i) : (A ++ B).set i y = A ++ B.set (i - A.length) y := List.set_append_right _ _ h
theorem getD_app_left {A B : List Nat} {i : Nat} (h : i < A.length) : (A ++ B).getD i 0 = A.getD i 0 := by
  rw [List.getD_eq_getElem?_getD, List.getElem?_append_left h, List.getD_eq_getElem?_getD]
theorem getD_app_right {A B : List Nat} {i : Nat} (h : A.length ≤ i) : (A ++ B).getD i 0 = B.getD (i - A.length) 0 := by
  rw [List.getD_eq_getElem?_getD, List.getElem?_append_right h, List.getD_eq_getElem?_getD]
theorem set_ne {A : List Nat} {i y : Nat} (h : i < A.length) (hne : y ≠ A.getD i 0) : A.set i y ≠ A := by
  intro e
  have := congrArg (fun l : List Nat => l.getD i 0) e
  simp only [getD_set] at this
  rw [if_pos ⟨trivial, h⟩] at this
  exact hne this
theorem set_lt {A : List Nat} (hA : ∀ x ∈ A, x < 256) {i y : Nat} (hy : y < 256) : ∀ x ∈ A.set i y, x < 256 := by
  intro x hx
  rcases List.mem_or_eq_of_mem_set hx with h | h
  · exact hA x h
  · omega
theorem four_getFour4 {A : List Nat} (h : A.length = 4) (hA : ∀ x ∈ A, x < 256) (R : List Nat) : four (getFour (A ++ R)) = A := by
  match A, h with
  | [a, b, c, d], _ => exact four_getFour a b c d (hA a (by simp)) (hA b (by simp)) (hA c (by simp)) (hA d (by simp)) R
/-- one byte of a number is another: another number -/
theorem getFour_set {n : Nat} {i y : Nat} (hi : i < 4) (hy : y < 256) (hne : y ≠ (four n).getD i 0) (R : List Nat) : getFour ((four n).set i y ++ R) ≠ getFour (four n ++ R) := by
  intro e
  have h1 := four_getFour4 (A := (four n).set i y) (by simp [four]) (set_lt (four_lt n) hy) R
  have h2 := four_getFour4 (A := four n) rfl (four_lt n) R
  rw [e, h2] at h1
  exact set_ne (by rw [four_length]; exact hi) hne h1.symm
/-- a seal of which one byte is another is none -/
theorem pscan_rot (P Q : List Nat) (hP : ∀ x ∈ P, x < 256) (hl : P.length < 4294967296) {i y : Nat} (hi : i < 12 + P.length) (hy : y < 256) (hne : y ≠ (pseal P).getD i 0) :
    pscan ((pseal P).set i y ++ Q) = ([], 0, false) := by
  have hlen : ((pseal P).set i y ++ Q).length = 12 + P.length + Q.length := by rw [List.length_append, List.length_set, pseal_length]
  have e0 : pseal P = four P.length ++ (four (csum (four P.length)) ++ (four (csum P) ++ P)) := by unfold pseal; simp
  have hcl : csum (four P.length) < 4294967296 := csum_lt (four_lt _)
  have hcp : csum P < 4294967296 := csum_lt hP
  by_cases h4 : i < 4
  · -- the length
    rw [e0, getD_app_left (by rw [four_length]; omega)] at hne
    have e1 : (pseal P).set i y ++ Q = (four P.length).set i y ++ (four (csum (four P.length)) ++ (four (csum P) ++ (P ++ Q))) := by
      rw [e0, set_app_left (by rw [four_length]; omega)]; simp
    have hl4 : ((four P.length).set i y).length = 4 := by simp [four]
    refine pscan_head (by rw [hlen]; omega) ?_
    unfold endOk
    have t1 : ((pseal P).set i y ++ Q).drop 4 = four (csum (four P.length)) ++ (four (csum P) ++ (P ++ Q)) := by
      rw [e1]; exact List.drop_left' hl4
    have t2 : ((pseal P).set i y ++ Q).take 4 = (four P.length).set i y := by
      rw [e1]; exact List.take_left' hl4
    rw [t1, t2, getFour_four _ hcl]
    have hs := csum_set (four_lt P.length) (i := i) (by rw [four_length]; omega) hy hne
    have : (csum (four P.length) == csum ((four P.length).set i y)) = false := by simp; omega
    rw [this]; simp
  · by_cases h8 : i < 8
    · -- its sum
      rw [e0, getD_app_right (by rw [four_length]; omega), getD_app_left (by rw [four_length, four_length]; omega), four_length] at hne
      have e1 : (pseal P).set i y ++ Q = four P.length ++ ((four (csum (four P.length))).set (i - 4) y ++ (four (csum P) ++ (P ++ Q))) := by
        rw [e0, set_app_right (by rw [four_length]; omega), four_length, set_app_left (by rw [four_length]; omega)]; simp
      refine pscan_head (by rw [hlen]; omega) ?_
      unfold endOk
      have t1 : ((pseal P).set i y ++ Q).drop 4 = (four (csum (four P.length))).set (i - 4) y ++ (four (csum P) ++ (P ++ Q)) := by
        rw [e1]; exact List.drop_left' (four_length _)
      have t2 : ((pseal P).set i y ++ Q).take 4 = four P.length := by
        rw [e1]; exact List.take_left' (four_length _)
      have hs := getFour_set (by omega) hy hne (four (csum P) ++ (P ++ Q))
      rw [getFour_four _ hcl] at hs
      rw [t1, t2]
      have : (getFour ((four (csum (four P.length))).set (i - 4) y ++ (four (csum P) ++ (P ++ Q))) == csum (four P.length)) = false := by simp; omega
      rw [this]; simp
    · -- behind the head's own sum
      have hh : four P.length ++ four (csum (four P.length)) = (four P.length ++ four (csum (four P.length))) := rfl
      obtain ⟨T, hT, hTl⟩ : ∃ T, (pseal P).set i y ++ Q = four P.length ++ (four (csum (four P.length)) ++ T) ∧ T = ((four (csum P) ++ P).set (i - 8) y) ++ Q := by
        refine ⟨_, ?_, rfl⟩
        rw [e0, set_app_right (by rw [four_length]; omega), four_length, set_app_right (by rw [four_length]; omega), four_length, show i - 4 - 4 = i - 8 by omega]
        simp
      have t1 : ((pseal P).set i y ++ Q).drop 4 = four (csum (four P.length)) ++ T := by rw [hT]; exact List.drop_left' (four_length _)
      have t2 : ((pseal P).set i y ++ Q).take 4 = four P.length := by rw [hT]; exact List.take_left' (four_length _)
      have hok : endOk ((pseal P).set i y ++ Q) = true := by
        unfold endOk
        rw [t1, t2, getFour_four _ hcl, hlen]
        simp
        omega
      have hat : endAt ((pseal P).set i y ++ Q) = 12 + P.length := by
        rw [endAt_ok hok, hT, getFour_four _ hl]
      have htk : ((pseal P).set i y ++ Q).take (12 + P.length) = (pseal P).set i y := by
        exact List.take_left' (by rw [List.length_set, pseal_length])
      refine pscan_body hok (by rw [hat, hlen]; omega) ?_
      rw [hat, htk]
      unfold bodyOk
      by_cases h12 : i < 12
      · rw [e0, getD_app_right (by rw [four_length]; omega), getD_app_right (by rw [four_length, four_length]; omega), getD_app_left (by rw [four_length, four_length, four_length]; omega), four_length, four_length, show i - 4 - 4 = i - 8 by omega] at hne
        have e1 : (pseal P).set i y = (four P.length ++ four (csum (four P.length))) ++ ((four (csum P)).set (i - 8) y ++ P) := by
          rw [e0, set_app_right (by rw [four_length]; omega), four_length, set_app_right (by rw [four_length]; omega), four_length, show i - 4 - 4 = i - 8 by omega, set_app_left (by rw [four_length]; omega)]; simp
        have d8 : ((pseal P).set i y).drop 8 = (four (csum P)).set (i - 8) y ++ P := by rw [e1]; exact List.drop_left' rfl
        have d12 : ((pseal P).set i y).drop 12 = P := by
          have : (((pseal P).set i y).drop 8).drop 4 = P := by rw [d8]; exact List.drop_left' (by simp [four])
          rwa [List.drop_drop] at this
        have hs := getFour_set (by omega) hy hne P
        rw [getFour_four _ hcp] at hs
        rw [d8, d12]
        simp
        omega
      · rw [e0, getD_app_right (by rw [four_length]; omega), getD_app_right (by rw [four_length, four_length]; omega), getD_app_right (by rw [four_length, four_length, four_length]; omega), four_length, four_length, four_length, show i - 4 - 4 - 4 = i - 12 by omega] at hne
        have e1 : (pseal P).set i y = (four P.length ++ four (csum (four P.length))) ++ (four (csum P) ++ P.set (i - 12) y) := by
          rw [e0, set_app_right (by rw [four_length]; omega), four_length, set_app_right (by rw [four_length]; omega), four_length, set_app_right (by rw [four_length]; omega), four_length, show i - 4 - 4 - 4 = i - 12 by omega]; simp
        have d8 : ((pseal P).set i y).drop 8 = four (csum P) ++ P.set (i - 12) y := by rw [e1]; exact List.drop_left' rfl
        have d12 : ((pseal P).set i y).drop 12 = P.set (i - 12) y := by
          have : (((pseal P).set i y).drop 8).drop 4 = P.set (i - 12) y := by rw [d8]; exact List.drop_left' (four_length _)
          rwa [List.drop_drop] at this
        have hs := csum_set hP (i := i - 12) (by omega) hy hne
        rw [d8, d12, getFour_four _ hcp]
        simp
        omega
/-- seals of which one byte is another: the scan ends at that seal -/
theorem pscan_rots (A : List (List Nat)) (hA : ∀ P ∈ A, ∀ x ∈ P, x < 256) (hl : ∀ P ∈ A, P.length < 4294967296) {i y : Nat} (hi : i < (pcat A).length) (hy : y < 256) (hne : y ≠ (pcat A).getD i 0) :
    (pscan ((pcat A).set i y)).1.length < A.length ∧ (pscan ((pcat A).set i y)).2.1 ≤ i ∧ (pscan ((pcat A).set i y)).2.2 = false := by
  induction A generalizing i with
  | nil => simp [pcat] at hi
  | cons P t ih =>
    simp only [pcat] at hi hne ⊢
    by_cases h : i < (pseal P).length
    · rw [getD_app_left h] at hne
      rw [set_app_left h, pscan_rot P (pcat t) (hA P (by simp)) (hl P (by simp)) (by rw [← pseal_length]; exact h) hy hne]
      simp
    · rw [getD_app_right (by omega)] at hne
      rw [List.length_append] at hi
      have h1 := ih (fun Q hQ => hA Q (by simp [hQ])) (fun Q hQ => hl Q (by simp [hQ])) (i := i - (pseal P).length) (by omega) hne
      rw [set_app_right (by omega), pscan_seal P _ (hA P (by simp)) (hl P (by simp))]
      rw [pseal_length] at h h1 ⊢
      simp only [List.length_cons]
      exact ⟨by omega, by omega, h1.2.2⟩
end Pl
end Go.Proofs.YtaffmfocjaihlaaDoor.S3

/- Texts put together: CrcH, CrcJ, CrcN. -/
import Derived.Test.YtdjkkohckfndkaaGreatDoorEg2
import Derived.Test.YtdjkkohckfndkaaGreatDoorEg9
set_option linter.unusedSimpArgs false
set_option linter.unusedVariables false
set_option maxRecDepth 100000
namespace Go.Proofs.YtdjkkohckfndkaaGreatDoor.Pl
end Go.Proofs.YtdjkkohckfndkaaGreatDoor.Pl
namespace Go.Proofs.YtdjkkohckfndkaaGreatDoor.S3.Pl
end Go.Proofs.YtdjkkohckfndkaaGreatDoor.S3.Pl
namespace Go.Proofs.YtdjkkohckfndkaaGreatDoor.S3
open Go.RowKit _root_.Go.Proofs.YtdjkkohckfndkaaGreatDoor.Pl _root_.Go.Proofs.YtdjkkohckfndkaaGreatDoor.S3.Pl

namespace Pl
end Pl

end Go.Proofs.YtdjkkohckfndkaaGreatDoor.S3
namespace Go.Proofs.YtdjkkohckfndkaaGreatDoor.Pl
end Go.Proofs.YtdjkkohckfndkaaGreatDoor.Pl
namespace Go.Proofs.YtdjkkohckfndkaaGreatDoor.S3.Pl
end Go.Proofs.YtdjkkohckfndkaaGreatDoor.S3.Pl
namespace Go.Proofs.YtdjkkohckfndkaaGreatDoor.S3
open Go.RowKit _root_.Go.Proofs.YtdjkkohckfndkaaGreatDoor.Pl _root_.Go.Proofs.YtdjkkohckfndkaaGreatDoor.S3.Pl

namespace Pl
def pcat : List (List Nat) → List Nat
  | [] => []
  | P :: t => pseal P ++ pcat t
theorem pcat_append (A B : List (List Nat)) : pcat (A ++ B) = pcat A ++ pcat B := by
  induction A with
  | nil => rfl
  | cons P t ih => simp [pcat, ih]
theorem pscan_cat (A : List (List Nat)) (R : List Nat) (h : ∀ P ∈ A, ∀ x ∈ P, x < 256) (hl : ∀ P ∈ A, P.length < 4294967296) :
    pscan (pcat A ++ R) = (A ++ (pscan R).1, (pcat A).length + (pscan R).2.1, (pscan R).2.2) := by
  induction A with
  | nil => simp [pcat]
  | cons P t ih =>
    have h1 := pscan_seal P (pcat t ++ R) (h P (by simp)) (hl P (by simp))
    rw [ih (fun Q hQ => h Q (by simp [hQ])) (fun Q hQ => hl Q (by simp [hQ]))] at h1
    rw [pcat, List.append_assoc, h1]
    simp [pseal_length]
    omega
end Pl

end Go.Proofs.YtdjkkohckfndkaaGreatDoor.S3
namespace Go.Proofs.YtdjkkohckfndkaaGreatDoor.Pl
end Go.Proofs.YtdjkkohckfndkaaGreatDoor.Pl
namespace Go.Proofs.YtdjkkohckfndkaaGreatDoor.S3.Pl
end Go.Proofs.YtdjkkohckfndkaaGreatDoor.S3.Pl
namespace Go.Proofs.YtdjkkohckfndkaaGreatDoor.S3
open Go.RowKit _root_.Go.Proofs.YtdjkkohckfndkaaGreatDoor.Pl _root_.Go.Proofs.YtdjkkohckfndkaaGreatDoor.S3.Pl

namespace Pl
theorem getFour_take (B : List Nat) (n : Nat) (hn : 4 ≤ n) : getFour (B.take n) = getFour B := by
  unfold getFour
  by_cases h : B.length < 4
  · rw [if_pos h, if_pos (by rw [List.length_take]; omega)]
  · rw [if_neg h, if_neg (by rw [List.length_take]; omega)]
    simp [List.getD_eq_getElem?_getD, List.getElem?_take, show 0 < n by omega, show 1 < n by omega, show 2 < n by omega, show 3 < n by omega]
theorem pscan_part (P Q : List Nat) (hP : P.length < 4294967296) (c : Nat) (hc : c < 12 + P.length) : pscan ((pseal P ++ Q).take c) = ([], 0, true) := by
  have hX : (pseal P ++ Q).length = 12 + P.length + Q.length := by rw [List.length_append, pseal_length]
  by_cases h : c < 12
  · exact pscan_short (by rw [List.length_take]; omega)
  · have hok : endOk ((pseal P ++ Q).take c) = true := by
      have h0 := seal_endOk P Q
      unfold endOk at h0 ⊢
      have e1 : (((pseal P ++ Q).take c).drop 4) = ((pseal P ++ Q).drop 4).take (c - 4) := List.drop_take
      have e2 : ((pseal P ++ Q).take c).take 4 = (pseal P ++ Q).take 4 := by rw [List.take_take, Nat.min_eq_left (by omega)]
      rw [e1, e2, getFour_take _ _ (by omega)]
      simp only [Bool.and_eq_true, decide_eq_true_eq] at h0 ⊢
      exact ⟨by rw [List.length_take]; omega, h0.2⟩
    refine pscan_cut hok ?_
    rw [endAt_ok hok, getFour_take _ _ (by omega), seal_getFour P Q hP, List.length_take]
    omega
end Pl

attribute [local go_sem ↓] sliceU8_eq
end Go.Proofs.YtdjkkohckfndkaaGreatDoor.S3

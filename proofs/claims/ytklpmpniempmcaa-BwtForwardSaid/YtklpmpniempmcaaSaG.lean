/- Small facts for the whole sort, plain: no program. -/
import Derived.Test.YtklpmpniempmcaaSaF
namespace Go.Proofs.Ytklpmpniempmcaa.Pl
section
variable {T : List Nat}
/-- the cuts among the first i places -/
def cutsTo (T : List Nat) (i : Nat) : List Nat := (List.range i).filter (isc T)
theorem cutsTo_zero : cutsTo T 0 = [] := rfl
theorem cutsTo_all : cutsTo T T.length = cutsOf T := rfl
theorem cutsTo_yes {i : Nat} (h : isc T i = true) : cutsTo T (i + 1) = cutsTo T i ++ [i] := by
  unfold cutsTo
  rw [List.range_succ, List.filter_append, List.filter_cons, h]
  simp
theorem cutsTo_no {i : Nat} (h : isc T i = false) : cutsTo T (i + 1) = cutsTo T i := by
  unfold cutsTo
  rw [List.range_succ, List.filter_append, List.filter_cons, h]
  simp
theorem cutsTo_le (i : Nat) : (cutsTo T i).length ≤ i := by
  unfold cutsTo
  have := List.length_filter_le (isc T) (List.range i)
  rwa [List.length_range] at this
theorem cutsOf_lt (h : 0 < T.length) : (cutsOf T).length < T.length := by
  have hs : ∀ n, (cutsTo T (n + 1)).length ≤ n := by
    intro n
    induction n with
    | zero => rw [cutsTo_no (by unfold isc; rfl)]; simp [cutsTo_zero]
    | succ n ih =>
      cases hc : isc T (n + 1) with
      | true => rw [cutsTo_yes hc, List.length_append]; simp; omega
      | false => rw [cutsTo_no hc]; omega
  have := hs (T.length - 1)
  rw [show T.length - 1 + 1 = T.length by omega, cutsTo_all] at this
  omega
theorem cuts_length {A B : List Nat} (hA : IsCuts T A) (hB : IsCuts T B) : A.length = B.length :=
  ((List.perm_ext_iff_of_nodup hA.1 hB.1).2 fun c => (hA.2 c).trans (hB.2 c).symm).length_eq
/-- the first k are changed to the cuts that they name -/
def MapInv (C R : List Nat) (L : List Int) (k : Nat) : Prop := L.length = R.length ∧ ∀ x, x < R.length → L.getD x 0 = if x < k then ((C.getD (R.getD x 0) 0 : Nat) : Int) else ((R.getD x 0 : Nat) : Int)
theorem map_start (C R : List Nat) : MapInv C R (R.map fun (x : Nat) => (x : Int)) 0 :=
  ⟨by simp, fun x hx => by rw [if_neg (by omega)]; simp [List.getD, hx]⟩
theorem map_put {C R : List Nat} {L : List Int} {k : Nat} (h : MapInv C R L k) (hk : k < R.length) : MapInv C R (L.set k ((C.getD (R.getD k 0) 0 : Nat) : Int)) (k + 1) :=
  ⟨by rw [List.length_set]; exact h.1, fun x hx => by
    rw [set_getD, h.1]
    by_cases e : x = k
    · subst e; rw [if_pos ⟨rfl, hk⟩, if_pos (by omega)]
    · rw [if_neg (fun q => e q.1), h.2 x hx]
      by_cases h2 : x < k
      · rw [if_pos h2, if_pos (by omega)]
      · rw [if_neg h2, if_neg (by omega)]⟩
theorem map_end {C R : List Nat} {L : List Int} (h : MapInv C R L R.length) : L = (R.map fun a => C.getD a 0).map fun (x : Nat) => (x : Int) := by
  refine List.ext_getElem (by rw [h.1]; simp) fun i h1 h2 => ?_
  rw [h.1] at h1
  have := h.2 i h1
  rw [if_pos h1, getD_get L 0 (by rw [h.1]; exact h1), getD_get R 0 h1] at this
  rw [this]
  simp
end
end Go.Proofs.Ytklpmpniempmcaa.Pl

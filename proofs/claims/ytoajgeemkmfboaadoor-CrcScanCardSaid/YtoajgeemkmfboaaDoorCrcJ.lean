/- Seals one behind the other: plain; foliolaw3.laid, told: contracts. -/
import Derived.Test.YtoajgeemkmfboaaDoorCrcH
set_option linter.unusedSimpArgs false
set_option linter.unusedVariables false
namespace Go.Proofs.YtoajgeemkmfboaaDoor
open Go.RowKit Pl

namespace Pl
/-- byte strings, sealed, one behind the other -/
def pcat : List (List Nat) → List Nat
  | [] => []
  | P :: t => pseal P ++ pcat t
theorem pcat_append (A B : List (List Nat)) : pcat (A ++ B) = pcat A ++ pcat B := by
  induction A with
  | nil => rfl
  | cons P t ih => simp [pcat, ih]
theorem pcat_snoc (A : List (List Nat)) (P : List Nat) : pcat (A ++ [P]) = pcat A ++ pseal P := by rw [pcat_append]; simp [pcat]
theorem pcat_lt {A : List (List Nat)} (h : ∀ P ∈ A, ∀ x ∈ P, x < 256) : ∀ x ∈ pcat A, x < 256 := by
  induction A with
  | nil => simp [pcat]
  | cons P t ih =>
    intro x hx
    simp only [pcat, List.mem_append] at hx
    rcases hx with hx | hx
    · exact pseal_lt (h P (by simp)) x hx
    · exact ih (fun Q hQ => h Q (by simp [hQ])) x hx
theorem pscan_cat (A : List (List Nat)) (R : List Nat) (h : ∀ P ∈ A, ∀ x ∈ P, x < 256) (hl : ∀ P ∈ A, P.length < 4294967296) :
    pscan (pcat A ++ R) = (A ++ (pscan R).1, (pcat A).length + (pscan R).2.1, (pscan R).2.2) := by
  induction A with
  | nil => simp [pcat]
  | cons P t ih =>
    have h1 := pscan_seal P (pcat t ++ R) (h P (by simp)) (hl P (by simp))
    rw [ih (fun Q hQ => h Q (by simp [hQ])) (fun Q hQ => hl Q (by simp [hQ]))] at h1
    rw [pcat, List.append_assoc, h1]
    simp [pseal_length]
    omega
/-- the parts that are laid: the first n of L, sixty bytes of each at most -/
def parts (L : List (List Nat)) (n : Nat) : List (List Nat) := (L.take n).map (·.take 60)
theorem parts_step (L : List (List Nat)) (i : Nat) (h : i < L.length) : parts L (i + 1) = parts L i ++ [(L.getD i []).take 60] := by
  unfold parts
  rw [List.take_add_one, List.getElem?_eq_getElem h, List.map_append]
  congr 1
  simp [List.getD, h]
theorem parts_min (L : List (List Nat)) (n : Nat) : parts L n = parts L (min n L.length) := by
  unfold parts
  by_cases h : n ≤ L.length
  · rw [Nat.min_eq_left h]
  · rw [Nat.min_eq_right (by omega), List.take_length, List.take_of_length_le (by omega)]
theorem parts_short {L : List (List Nat)} {n : Nat} : ∀ P ∈ parts L n, P.length ≤ 60 := by
  intro P hP
  simp only [parts, List.mem_map] at hP
  obtain ⟨Q, _, rfl⟩ := hP
  rw [List.length_take]; omega
theorem parts_lt {L : List (List Nat)} (h : ∀ B ∈ L, ∀ x ∈ B, x < 256) (n : Nat) : ∀ P ∈ parts L n, ∀ x ∈ P, x < 256 := by
  intro P hP
  simp only [parts, List.mem_map] at hP
  obtain ⟨Q, hQ, rfl⟩ := hP
  exact fun x hx => h Q (List.mem_of_mem_take hQ) x (List.mem_of_mem_take hx)
theorem parts_length (L : List (List Nat)) (n : Nat) : (parts L n).length = min n L.length := by simp [parts]
theorem pcat_len {A : List (List Nat)} (h : ∀ P ∈ A, P.length ≤ 60) : (pcat A).length ≤ 72 * A.length := by
  induction A with
  | nil => simp [pcat]
  | cons P t ih =>
    have h1 := ih fun Q hQ => h Q (by simp [hQ])
    have h2 := h P (by simp)
    simp only [pcat, List.length_append, pseal_length, List.length_cons]
    omega
theorem plaid_len (L : List (List Nat)) (n : Nat) : (pcat (parts L n)).length ≤ 72 * n := by
  have h1 := pcat_len (A := parts L n) parts_short
  rw [parts_length] at h1
  have : min n L.length ≤ n := Nat.min_le_left _ _
  omega
end Pl

set_option maxHeartbeats 1000000 in
theorem laid_any (v : Value) (L : List (List Nat)) (n : Nat) (w : World) (hr : IsRows w v L) (hn : n ≤ 60) : Calls Tryd.prog 18 #[v, .int .i64 n] w (MadePost (pcat (parts L n)) w) := by
  obtain ⟨a, cap, rfl, hcap, hmax⟩ := hr.slice
  unfold maxLen at hmax
  have HR := Lib.hid hr
  clear hr
  obtain ⟨m, hm⟩ : ∃ m, m = min n L.length := ⟨_, rfl⟩
  have hmn : m ≤ n := by omega
  have hml : m ≤ L.length := by omega
  have HP := Lib.hid (parts_min L n)
  rw [← hm] at HP
  have HM := Lib.hid hm
  clear hm
  go_enter Tryd.func18, Tryd.ntmps18
  go_wp2_with fail
  go_loopw [5, 6] (fun v x wr => ∃ i : Nat, i ≤ m ∧ x = .int .i64 i ∧ wr.ownsRow w.heap.size 5 1 v (pcat (parts L i)).length (u8s (pcat (parts L i))) ∧ Below w.heap.size w wr) (fun _ x _ => m - (intOf x).toNat)
  case atStart => exact ⟨0, by omega, rfl, own_nil _ _, Below.refl _ _⟩
  case round =>
    obtain ⟨i, hi, rfl, ho, hb⟩ := hrel
    obtain ⟨sp, cp, rfl, _, _⟩ := ownsRow_slice ho
    have hlen := plaid_len L i
    have HO := Lib.hid ho
    have HB := Lib.hid hb
    have hsz := hb.size
    clear ho hb
    by_cases hlt : i < m
    · have HRr := Lib.hid (HR.out.below HB.out)
      obtain ⟨b, off, a', c', rfl, hbl, hc, hI⟩ := HRr.out.at (i := i) (by omega)
      have HI := Lib.hid hI
      have HS := Lib.hid (parts_step L i (by omega))
      have hx1 : (i : Int) < L.length := by omega
      have hx2 : (i : Int) < n := by omega
      clear hI HRr
      go_wp2_with fail
      refine (short_any _ _ 60 _ HI.out (by omega)).mono ?_
      rintro e w2 ⟨v2, rfl, hi2, rfl⟩
      obtain ⟨P, hP⟩ : ∃ P, P = (L.getD i []).take 60 := ⟨_, rfl⟩
      have hPl : P.length ≤ 60 := by rw [hP, List.length_take]; omega
      rw [← hP] at hi2 HS
      obtain ⟨a2, c2, rfl, _, _⟩ := hi2.slice
      have HI2 := Lib.hid hi2
      clear hi2 hP HI hc
      go_wp2_with fail
      refine (refSeal_any _ P _ HI2.out (by omega)).mono ?_
      intro e w3 h3
      obtain ⟨sp3, cp3, rfl, ho3, hb3⟩ := h3.s
      have HI3 := Lib.hid (isBytes_own (pseal_lt HI2.out.1) ho3)
      have HO3 := Lib.hid (own_below HO.out hb3)
      have HB3 := Lib.hid (HB.out.trans (hb3.mono hsz))
      have hsz3 := HB3.out.size
      have hpl : (pseal P).length ≤ 72 := by rw [pseal_length]; omega
      clear h3 ho3 hb3 HO HB HI2
      go_wp2_with (at_builtin; refine wpList_append_bytes rfl (.tmp 18) (.tmp 24) rfl w.heap.size (.slice sp (pcat (parts L i)).length cp) (pcat (parts L i)).length _ rfl HO3.out _ (pseal P) rfl HI3.out (by omega) hsz3 ?_; intro v4 w4 hown hgr; obtain ⟨sp4, cp4, rfl, _, _⟩ := ownsRow_slice hown)
      go_roundw
      case rel =>
        refine ⟨i + 1, by omega, by go_num, ?_, HB3.out.grown hgr hsz3 (own_lt HO3.out)⟩
        rw [HS.out, pcat_snoc, u8s_append, List.length_append]
        exact hown
      case measure => simp [intOf]; omega
    · obtain rfl : i = m := by omega
      have hend : (L.length : Int) ≤ i ∨ ((i : Int) < L.length ∧ (n : Int) ≤ i) := by have := HM.out; omega
      clear hlt hi
      rcases hend with h | ⟨h, h2⟩
      all_goals
        go_wp2_with fail
        go_ret
        rw [HP.out]
        exact ⟨_, rfl, HO.out, HB.out⟩

/-- what a whole scan of what was laid answers -/
theorem pscan_laid {L : List (List Nat)} (h : ∀ B ∈ L, ∀ x ∈ B, x < 256) (n : Nat) : pscan (pcat (parts L n)) = (parts L n, (pcat (parts L n)).length, true) := by
  have := pscan_cat (parts L n) [] (parts_lt h n) (fun P hP => by have := parts_short P hP; omega)
  rw [List.append_nil] at this
  rw [this, pscan_short (by simp)]
  simp
end Go.Proofs.YtoajgeemkmfboaaDoor

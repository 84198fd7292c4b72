/- Edits one behind the other: sealed, scanned, cut, one byte changed: plain, no walk. -/
import Derived.Test.YtaffmfocjaihlaaDoorEdJ
set_option linter.unusedSimpArgs false
set_option linter.unusedVariables false
set_option maxRecDepth 100000
namespace Go.Proofs.YtaffmfocjaihlaaDoor.S18
open Go.RowKit S2.Pl S3.Pl
/-- one that may be -/
def Fine (e : ED) : Prop := edB e = true ∧ EdW e
theorem bodyE_len {e : ED} (h : Fine e) : (bodyE e).length ≤ 20000 := by
  have h1 := rowE_len h.1
  have h2 := putR_len' (rowE_w h.1 h.2) (rowE e).length
  rw [List.take_length] at h2
  unfold bodyE
  omega
theorem encE_fine {e : ED} (h : Fine e) : encE e = pseal (bodyE e) := (enc_good h.1).1
theorem encE_len {e : ED} (h : EdW e) : (encE e).length ≤ 20012 := by
  cases hb : edB e with
  | false => rw [(enc_bad hb).1]; simp
  | true =>
    have := bodyE_len ⟨hb, h⟩
    rw [(enc_good hb).1, pseal_length]
    omega
theorem encE_lt (e : ED) : ∀ x ∈ encE e, x < 256 := by
  cases hb : edB e with
  | false => rw [(enc_bad hb).1]; simp
  | true => rw [(enc_good hb).1]; exact pseal_lt (bodyE_lt e)
def encs : List ED → List Nat
  | [] => []
  | e :: l => pseal (bodyE e) ++ encs l
theorem encs_cat (l : List ED) : encs l = pcat (l.map bodyE) := by
  induction l with
  | nil => rfl
  | cons r l ih => simp [encs, pcat, ih]
theorem encs_append (A B : List ED) : encs (A ++ B) = encs A ++ encs B := by rw [encs_cat, encs_cat, encs_cat, List.map_append, pcat_append]
theorem encs_snoc (l : List ED) (e : ED) : encs (l ++ [e]) = encs l ++ pseal (bodyE e) := by rw [encs_append]; simp [encs]
theorem scanLE_ok {l : List ED} (h : ∀ e ∈ l, Fine e) : scanLE (l.map bodyE) = (l, (encs l).length, true) := by
  induction l with
  | nil => rfl
  | cons r l ih =>
    have hr := h r (by simp)
    have h1 := one_bodyE hr.1 hr.2
    rw [List.map_cons, scanLE, h1, ih fun x hx => h x (by simp [hx])]
    simp only [encs, List.length_append, pseal_length, if_true]
theorem fine_lt {G : List ED} (hG : ∀ e ∈ G, Fine e) : (∀ P ∈ G.map bodyE, ∀ x ∈ P, x < 256) ∧ ∀ P ∈ G.map bodyE, P.length < 4294967296 := by
  refine ⟨fun P hP => ?_, fun P hP => ?_⟩
  · simp only [List.mem_map] at hP
    obtain ⟨e, _, rfl⟩ := hP
    exact bodyE_lt e
  · simp only [List.mem_map] at hP
    obtain ⟨e, he, rfl⟩ := hP
    have := bodyE_len (hG e he)
    omega
/-- edits that may be, and what no seal begins -/
theorem scanE_cat {G : List ED} (hG : ∀ e ∈ G, Fine e) {R : List Nat} {o : Bool} (hR : pscan R = ([], 0, o)) : scanE (encs G ++ R) = (G, (encs G).length, o) := by
  obtain ⟨h1, h2⟩ := fine_lt hG
  have hp := pscan_cat (G.map bodyE) R h1 h2
  rw [← encs_cat, hR] at hp
  unfold scanE
  rw [hp, List.append_nil, scanLE_ok hG]
  simp
theorem pscan_nil : pscan [] = ([], 0, true) := pscan_short (by simp)
theorem scanE_all {G : List ED} (hG : ∀ e ∈ G, Fine e) : scanE (encs G) = (G, (encs G).length, true) := by
  have := scanE_cat hG pscan_nil
  rwa [List.append_nil] at this
theorem scan_one {e : ED} (h : Fine e) : scanE (encE e) = ([e], (encE e).length, true) := by
  have := scanE_all (G := [e]) (by simpa using h)
  simp only [encs, List.append_nil] at this
  rw [encE_fine h]
  exact this
/-! cut -/
theorem encs_take_le (G : List ED) (i : Nat) : (encs (G.take i)).length ≤ (encs G).length := by
  have : encs G = encs (G.take i) ++ encs (G.drop i) := by rw [← encs_append, List.take_append_drop]
  rw [this, List.length_append]; omega
theorem encs_lt (G : List ED) : ∀ x ∈ encs G, x < 256 := by
  rw [encs_cat]
  refine pcat_lt fun P hP => ?_
  simp only [List.mem_map] at hP
  obtain ⟨e, _, rfl⟩ := hP
  exact bodyE_lt e
theorem encs_len {G : List ED} (hG : ∀ e ∈ G, Fine e) : (encs G).length ≤ 20012 * G.length := by
  induction G with
  | nil => exact Nat.le_refl _
  | cons r G ih =>
    have h1 := bodyE_len (hG r (by simp))
    have h2 := ih fun x hx => hG x (by simp [hx])
    rw [encs, List.length_append, pseal_length, List.length_cons]
    omega
theorem encs_step {G : List ED} {i : Nat} {e : ED} (hx : G[i]? = some e) : encs (G.take (i + 1)) = encs (G.take i) ++ pseal (bodyE e) := by
  rw [List.take_add_one, hx]
  exact encs_snoc _ _
theorem encs_at {G : List ED} {k : Nat} {e : ED} (hx : G[k]? = some e) : encs G = encs (G.take k) ++ (pseal (bodyE e) ++ encs (G.drop (k + 1))) := by
  have : encs G = encs (G.take (k + 1)) ++ encs (G.drop (k + 1)) := by rw [← encs_append, List.take_append_drop]
  rw [this, encs_step hx, List.append_assoc]
/-- a scan tells nothing of more bytes, where it told nothing of a part, whose head is whole -/
theorem pscan_more_of {A S : List Nat} (h : (pscan A).1 ≠ []) : (pscan (A ++ S)).1 ≠ [] := by
  have h12 : 12 ≤ A.length := Classical.byContradiction fun hn => h (by rw [pscan_short (by omega)])
  have h2 : endOk A = true := by
    cases hh : endOk A with
    | true => rfl
    | false => exact absurd (by rw [pscan_head (by omega) hh]) h
  have h3 : endAt A ≤ A.length := Classical.byContradiction fun hn => h (by rw [pscan_cut h2 (by omega)])
  have h4 : bodyOk (A.take (endAt A)) = true := by
    cases hh : bodyOk (A.take (endAt A)) with
    | true => rfl
    | false => exact absurd (by rw [pscan_body h2 h3 hh]) h
  have hg : ∀ n, n ≤ 4 → _root_.Go.Proofs.YtaffmfocjaihlaaDoor.Pl.getFour ((A ++ S).drop n) = _root_.Go.Proofs.YtaffmfocjaihlaaDoor.Pl.getFour (A.drop n) := fun n hn => by
    have e1 := getFour_take ((A ++ S).drop n) 8 (by omega)
    have e2 := getFour_take (A.drop n) 8 (by omega)
    rw [← e1, ← e2, List.drop_append_of_le_length (by omega), List.take_append_of_le_length (by rw [List.length_drop]; omega)]
  have hok : endOk (A ++ S) = true := by
    unfold endOk at h2 ⊢
    have e1 : (A ++ S).take 4 = A.take 4 := List.take_append_of_le_length (by omega)
    rw [hg 4 (by omega), e1]
    simp only [Bool.and_eq_true, decide_eq_true_eq] at h2 ⊢
    exact ⟨by rw [List.length_append]; omega, h2.2⟩
  have hat : endAt (A ++ S) = endAt A := by
    have := hg 0 (by omega)
    rw [List.drop_zero, List.drop_zero] at this
    rw [endAt_ok hok, endAt_ok h2, this]
  rw [pscan_more hok (by rw [hat, List.length_append]; omega) (by rw [hat, List.take_append_of_le_length h3]; exact h4)]
  simp
theorem pscan_nothing {A : List Nat} (h : (pscan A).1 = []) : ∃ o, pscan A = ([], 0, o) := by
  obtain ⟨_, _, h3, _⟩ := pscan_facts A
  rw [h] at h3
  exact ⟨(pscan A).2.2, Prod.ext h (Prod.ext h3.symm rfl)⟩
/-- a part of a seal in which one byte is another begins no seal -/
theorem pscan_rotpart (P Q : List Nat) (hP : ∀ x ∈ P, x < 256) (hl : P.length < 4294967296) {c i y : Nat} (hi : i < 12 + P.length) (hic : i < c) (hy : y < 256) (hne : y ≠ (pseal P).getD i 0) :
    ∃ o, pscan (((pseal P ++ Q).take c).set i y) = ([], 0, o) := by
  refine pscan_nothing (Classical.byContradiction fun h => ?_)
  have h1 := pscan_more_of (S := ((pseal P ++ Q).drop c)) h
  have e : ((pseal P ++ Q).take c).set i y ++ (pseal P ++ Q).drop c = (pseal P).set i y ++ Q := by
    rw [← set_app_left (B := Q) (by rw [pseal_length]; exact hi)]
    have : (pseal P ++ Q) = (pseal P ++ Q).take c ++ (pseal P ++ Q).drop c := (List.take_append_drop _ _).symm
    by_cases hcl : i < ((pseal P ++ Q).take c).length
    · conv => rhs; rw [this]
      rw [set_app_left hcl]
    · rw [List.length_take, List.length_append, pseal_length] at hcl
      omega
  rw [e, pscan_rot P Q hP hl hi hy hne] at h1
  exact h1 rfl
/-- edits of which one byte is another, cut: those ahead are told -/
theorem rot_scan {G : List ED} (hG : ∀ e ∈ G, Fine e) {C k i y : Nat} (hC : C ≤ (encs G).length) (hi : i < C) (hk : (encs (G.take k)).length ≤ i) (hn : k < G.length → i < (encs (G.take (k + 1))).length) (hy : y < 256) (hne : y ≠ ((encs G).take C).getD i 0) :
    ∃ o, scanE (((encs G).take C).set i y) = (G.take k, (encs (G.take k)).length, o) := by
  have hGk : ∀ e ∈ G.take k, Fine e := fun e he => hG e (List.mem_of_mem_take he)
  have hkG : k < G.length := Classical.byContradiction fun h => by
    rw [List.take_of_length_le (by omega)] at hk
    omega
  have hx : G[k]? = some (G[k]'hkG) := List.getElem?_eq_getElem hkG
  obtain ⟨e, he⟩ : ∃ e, G[k]'hkG = e := ⟨_, rfl⟩
  rw [he] at hx
  have hf := hG e (by rw [← he]; exact List.getElem_mem hkG)
  have hi2 := hn hkG
  rw [encs_step hx, List.length_append, pseal_length] at hi2
  have hat := encs_at hx
  obtain ⟨A, hA⟩ : ∃ A, encs (G.take k) = A := ⟨_, rfl⟩
  rw [hA] at hat hk hi2 ⊢
  have e1 : (encs G).take C = A ++ (pseal (bodyE e) ++ encs (G.drop (k + 1))).take (C - A.length) := by
    rw [hat, List.take_append, List.take_of_length_le (by omega)]
  rw [e1] at hne ⊢
  rw [getD_app_right hk] at hne
  rw [set_app_right hk]
  have hne2 : y ≠ (pseal (bodyE e)).getD (i - A.length) 0 := by
    have e2 : ((pseal (bodyE e) ++ encs (G.drop (k + 1))).take (C - A.length)).getD (i - A.length) 0 = (pseal (bodyE e)).getD (i - A.length) 0 := by
      rw [List.getD_eq_getElem?_getD, List.getElem?_take_of_lt (by omega), List.getElem?_append_left (by rw [pseal_length]; omega), ← List.getD_eq_getElem?_getD]
    rw [e2] at hne
    exact hne
  obtain ⟨o, ho⟩ := pscan_rotpart (bodyE e) (encs (G.drop (k + 1))) (bodyE_lt e) (by have := bodyE_len hf; omega) (c := C - A.length) (i := i - A.length) (by omega) (by omega) hy hne2
  rw [← hA] at ho ⊢
  exact ⟨o, scanE_cat hGk ho⟩
/-- .. cut alone -/
theorem cut_scan {G : List ED} (hG : ∀ e ∈ G, Fine e) {C k : Nat} (hC : C ≤ (encs G).length) (hk : (encs (G.take k)).length ≤ C) (hn : k < G.length → C < (encs (G.take (k + 1))).length) : scanE ((encs G).take C) = (G.take k, (encs (G.take k)).length, true) := by
  have hGk : ∀ e ∈ G.take k, Fine e := fun e he => hG e (List.mem_of_mem_take he)
  by_cases hkG : k < G.length
  · have hx : G[k]? = some (G[k]'hkG) := List.getElem?_eq_getElem hkG
    obtain ⟨e, he⟩ : ∃ e, G[k]'hkG = e := ⟨_, rfl⟩
    rw [he] at hx
    have hf := hG e (by rw [← he]; exact List.getElem_mem hkG)
    have hi2 := hn hkG
    rw [encs_step hx, List.length_append, pseal_length] at hi2
    rw [encs_at hx, List.take_append, List.take_of_length_le hk]
    exact scanE_cat hGk (pscan_part _ _ (by have := bodyE_len hf; omega) _ (by omega))
  · have e1 : G.take k = G := List.take_of_length_le (by omega)
    rw [e1] at hk hGk ⊢
    rw [List.take_of_length_le hk]
    exact scanE_all hGk
end Go.Proofs.YtaffmfocjaihlaaDoor.S18

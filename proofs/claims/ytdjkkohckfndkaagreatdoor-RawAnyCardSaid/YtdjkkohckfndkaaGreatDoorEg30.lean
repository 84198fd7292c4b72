/- Texts put together: RcP. -/
import Derived.Test.YtdjkkohckfndkaaGreatDoorEg2
import Derived.Test.YtdjkkohckfndkaaGreatDoorEg10
import Derived.Test.YtdjkkohckfndkaaGreatDoorEg16
set_option linter.unusedSimpArgs false
set_option linter.unusedVariables false
set_option maxRecDepth 100000
namespace Go.Proofs.YtdjkkohckfndkaaGreatDoor.S14
open Go.RowKit S2.Pl S3.Pl
structure RT where
  kind : Int
  seq : Int
  key : ByteArray
  val : ByteArray
def zR : RT := ⟨0, 0, ⟨#[]⟩, ⟨#[]⟩⟩
def formR (r : RT) : Bool := decide (1 ≤ r.seq) && decide (r.seq ≤ 1125899906842624) && (decide (r.kind = 1) || (decide (r.kind = 0) && decide (r.val.size = 0)))
def chk (r : RT) : Nat := if r.key.size = 0 then 1 else if 100 < r.key.size ∨ 4000 < r.val.size then 2 else if formR r then 0 else 10
theorem chk_1 {r : RT} (h : r.key.size = 0) : chk r = 1 := by unfold chk; rw [if_pos h]
theorem chk_2 {r : RT} (h : r.key.size ≠ 0) (h2 : 100 < r.key.size ∨ 4000 < r.val.size) : chk r = 2 := by unfold chk; rw [if_neg h, if_pos h2]
theorem chk_3 {r : RT} (h : r.key.size ≠ 0) (h2 : r.key.size ≤ 100) (h3 : r.val.size ≤ 4000) : chk r = if formR r then 0 else 10 := by unfold chk; rw [if_neg h, if_neg (by omega)]
theorem chk_ok {r : RT} (h : chk r = 0) : 0 < r.key.size ∧ r.key.size ≤ 100 ∧ r.val.size ≤ 4000 ∧ formR r = true := by
  unfold chk at h
  split at h
  · cases h
  · split at h
    · cases h
    · split at h
      · exact ⟨by omega, by omega, by omega, by assumption⟩
      · cases h
theorem form_ok {r : RT} (h : formR r = true) : 1 ≤ r.seq ∧ r.seq ≤ 1125899906842624 ∧ (r.kind = 1 ∨ r.kind = 0 ∧ r.val.size = 0) := by
  unfold formR at h
  simp only [Bool.and_eq_true, Bool.or_eq_true, decide_eq_true_eq] at h
  exact ⟨h.1.1, h.1.2, h.2⟩
def bodyK (r : RT) : List Nat := [r.kind.toNat] ++ vput r.seq.toNat ++ vtext (strB r.key)
def body (r : RT) : List Nat := if r.kind = 1 then bodyK r ++ vtext (strB r.val) else bodyK r
def enc (r : RT) : List Nat := if chk r = 0 then pseal (body r) else []
theorem vtext_lt {S : List Nat} (h : ∀ x ∈ S, x < 256) : ∀ x ∈ vtext S, x < 256 := by
  intro x hx
  unfold vtext at hx
  rw [List.mem_append] at hx
  exact hx.elim (vput_lt _ x) (h x)
theorem bodyK_lt {r : RT} (h : r.kind.toNat < 256) : ∀ x ∈ bodyK r, x < 256 := by
  intro x hx
  unfold bodyK at hx
  simp only [List.mem_append, List.mem_singleton] at hx
  rcases hx with (rfl | hx) | hx
  · exact h
  · exact vput_lt _ x hx
  · exact vtext_lt (strB_lt _) x hx
theorem body_lt {r : RT} (h : r.kind.toNat < 256) : ∀ x ∈ body r, x < 256 := by
  unfold body
  split
  · intro x hx
    rw [List.mem_append] at hx
    exact hx.elim (bodyK_lt h x) (vtext_lt (strB_lt _) x)
  · exact bodyK_lt h
theorem kind_lt {r : RT} (h : formR r = true) : r.kind.toNat < 256 := by
  obtain ⟨_, _, h | h⟩ := form_ok h <;> omega
theorem vput_short {n : Nat} (h : n < 18446744073709551616) : (vput n).length ≤ 10 := (vput_len64 n h).1
theorem vtext_length (S : List Nat) (h : S.length < 18446744073709551616) : (vtext S).length ≤ S.length + 10 := by
  unfold vtext
  have := vput_short h
  rw [List.length_append]; omega
theorem bodyK_len {r : RT} (h : chk r = 0) : (bodyK r).length ≤ 121 ∧ 0 < (bodyK r).length := by
  obtain ⟨_, h1, _, h3⟩ := chk_ok h
  obtain ⟨h4, h5, _⟩ := form_ok h3
  have a := vput_short (n := r.seq.toNat) (by omega)
  have b := vtext_length (strB r.key) (by rw [strB_length]; omega)
  rw [strB_length] at b
  unfold bodyK
  simp only [List.length_append, List.length_singleton]
  omega
theorem body_len {r : RT} (h : chk r = 0) : (body r).length ≤ 4131 ∧ 0 < (body r).length := by
  obtain ⟨_, _, h2, _⟩ := chk_ok h
  have a := bodyK_len h
  have b := vtext_length (strB r.val) (by rw [strB_length]; omega)
  rw [strB_length] at b
  unfold body
  split
  · rw [List.length_append]; omega
  · omega

def B1 (B : List Nat) : List Nat := B.drop 1
def B2 (B : List Nat) : List Nat := (B1 B).drop (vget (B1 B)).2
def B3 (B : List Nat) : List Nat := (B2 B).drop (vgetText (B2 B)).2
def B4 (B : List Nat) : List Nat := (B3 B).drop (vgetText (B3 B)).2
def sq (n : Nat) : Int := IntKind.i64.wrap n
def rec0 (B : List Nat) : RT := ⟨B.getD 0 0, sq (vget (B1 B)).1, str (vgetText (B2 B)).1, ⟨#[]⟩⟩
def rec1 (B : List Nat) : RT := ⟨B.getD 0 0, sq (vget (B1 B)).1, str (vgetText (B2 B)).1, str (vgetText (B3 B)).1⟩
def oneV (B : List Nat) : RT × Bool :=
  if B.length = 0 then (zR, false) else if (vget (B1 B)).2 = 0 then (zR, false) else if (vgetText (B2 B)).2 = 0 then (zR, false)
  else if B.getD 0 0 = 1 then (if (vgetText (B3 B)).2 = 0 then (zR, false) else if (B4 B).length = 0 ∧ chk (rec1 B) = 0 then (rec1 B, true) else (zR, false))
  else if (B3 B).length = 0 ∧ chk (rec0 B) = 0 then (rec0 B, true) else (zR, false)
theorem one_1 {B : List Nat} (h : B.length = 0) : oneV B = (zR, false) := by unfold oneV; rw [if_pos h]
theorem one_2 {B : List Nat} (h : (vget (B1 B)).2 = 0) : oneV B = (zR, false) := by unfold oneV; simp [h]
theorem one_3 {B : List Nat} (h : (vgetText (B2 B)).2 = 0) : oneV B = (zR, false) := by unfold oneV; simp [h]
theorem one_4 {B : List Nat} (hk : B.getD 0 0 = 1) (h : (vgetText (B3 B)).2 = 0) : oneV B = (zR, false) := by unfold oneV; simp only [hk, h]; simp
theorem one_5 {B : List Nat} (hk : B.getD 0 0 = 1) (h : ¬ ((B4 B).length = 0 ∧ chk (rec1 B) = 0)) : oneV B = (zR, false) := by unfold oneV; rw [if_pos hk, if_neg h]; simp
theorem one_6 {B : List Nat} (h1 : B.length ≠ 0) (h2 : (vget (B1 B)).2 ≠ 0) (h3 : (vgetText (B2 B)).2 ≠ 0) (hk : B.getD 0 0 = 1) (h4 : (vgetText (B3 B)).2 ≠ 0) (h5 : (B4 B).length = 0) (h6 : chk (rec1 B) = 0) : oneV B = (rec1 B, true) := by
  unfold oneV; rw [if_neg h1, if_neg h2, if_neg h3, if_pos hk, if_neg h4, if_pos ⟨h5, h6⟩]
theorem one_7 {B : List Nat} (hk : B.getD 0 0 ≠ 1) (h : ¬ ((B3 B).length = 0 ∧ chk (rec0 B) = 0)) : oneV B = (zR, false) := by unfold oneV; rw [if_neg hk, if_neg h]; simp
theorem one_8 {B : List Nat} (h1 : B.length ≠ 0) (h2 : (vget (B1 B)).2 ≠ 0) (h3 : (vgetText (B2 B)).2 ≠ 0) (hk : B.getD 0 0 ≠ 1) (h5 : (B3 B).length = 0) (h6 : chk (rec0 B) = 0) : oneV B = (rec0 B, true) := by
  unfold oneV; rw [if_neg h1, if_neg h2, if_neg h3, if_neg hk, if_pos ⟨h5, h6⟩]
theorem one_kind {B : List Nat} (h : 1 < B.getD 0 0) : oneV B = (zR, false) := by
  refine one_7 (by omega) fun ⟨_, h2⟩ => ?_
  obtain ⟨_, _, _, h3⟩ := chk_ok h2
  obtain ⟨_, _, h4 | h4⟩ := form_ok h3
  · have : ((B.getD 0 0 : Nat) : Int) = 1 := h4
    omega
  · have : ((B.getD 0 0 : Nat) : Int) = 0 := h4.1
    omega
theorem sq_small {n : Nat} (h : n ≤ 1125899906842624) : sq n = n := by
  unfold sq IntKind.wrap
  simp [IntKind.signed, IntKind.bits]
  omega
theorem sq_great {n : Nat} (h : 1125899906842624 < n) (h2 : n < 18446744073709551616) : sq n < 0 ∨ 1125899906842624 < sq n := by
  unfold sq IntKind.wrap
  simp [IntKind.signed, IntKind.bits]
  omega
theorem one_seq {B : List Nat} (h : 1125899906842624 < (vget (B1 B)).1) : oneV B = (zR, false) := by
  have hg := sq_great h (vget_le (B1 B)).1
  have hno : ∀ r : RT, r.seq = sq (vget (B1 B)).1 → chk r ≠ 0 := by
    intro r hr h2
    obtain ⟨_, _, _, h3⟩ := chk_ok h2
    obtain ⟨h4, h5, _⟩ := form_ok h3
    omega
  by_cases hk : B.getD 0 0 = 1
  · exact one_5 hk fun h2 => hno _ rfl h2.2
  · exact one_7 hk fun h2 => hno _ rfl h2.2
theorem strB_inj_empty {s : ByteArray} (h : s.size = 0) : s = ⟨#[]⟩ := by
  apply ByteArray.ext
  exact Array.eq_empty_of_size_eq_zero h
theorem one_body {r : RT} (h : chk r = 0) : oneV (body r) = (r, true) := by
  obtain ⟨k1, k2, k3, k4⟩ := chk_ok h
  obtain ⟨s1, s2, hk⟩ := form_ok k4
  have hq : r.seq.toNat ≤ 1125899906842624 := by omega
  have hsq : sq r.seq.toNat = r.seq := by rw [sq_small hq]; omega
  have hk0 : ((r.kind.toNat : Nat) : Int) = r.kind := by rcases hk with hk | hk <;> omega
  obtain ⟨T, hT⟩ : ∃ T, T = (if r.kind = 1 then vtext (strB r.val) else []) := ⟨_, rfl⟩
  have hb : body r = r.kind.toNat :: (vput r.seq.toNat ++ (vtext (strB r.key) ++ T)) := by
    unfold body bodyK
    rw [hT]
    split <;> simp
  have e1 : B1 (body r) = vput r.seq.toNat ++ (vtext (strB r.key) ++ T) := by unfold B1; rw [hb]; rfl
  have g1 : vget (B1 (body r)) = (r.seq.toNat, (vput r.seq.toNat).length) := by rw [e1]; exact vget_vput _ (by omega) _
  have e2 : B2 (body r) = vtext (strB r.key) ++ T := by unfold B2; rw [g1, e1]; exact List.drop_left
  have g2 : vgetText (B2 (body r)) = (strB r.key, (vtext (strB r.key)).length) := by rw [e2]; exact vgetText_vtext _ _ (by rw [strB_length]; omega)
  have e3 : B3 (body r) = T := by unfold B3; rw [g2, e2]; exact List.drop_left
  have hd : (body r).getD 0 0 = r.kind.toNat := by rw [hb]; rfl
  have hp := (vput_on r.seq.toNat []).2.2.2.2
  have hp2 : 0 < (vtext (strB r.key)).length := by
    have := (vput_on (strB r.key).length []).2.2.2.2
    unfold vtext
    rw [List.length_append]; omega
  have hne : (body r).length ≠ 0 := by rw [hb]; simp
  by_cases hk1 : r.kind = 1
  · rw [if_pos hk1] at hT
    have g3 : vgetText (B3 (body r)) = (strB r.val, (vtext (strB r.val)).length) := by
      rw [e3, hT]
      have := vgetText_vtext (strB r.val) [] (by rw [strB_length]; omega)
      rwa [List.append_nil] at this
    have hp3 : 0 < (vtext (strB r.val)).length := by
      have := (vput_on (strB r.val).length []).2.2.2.2
      unfold vtext
      rw [List.length_append]; omega
    have er : rec1 (body r) = r := by
      unfold rec1
      rw [hd, g1, g2, g3]
      simp only [hk0, hsq, str_strB]
    have e4 : (B4 (body r)).length = 0 := by unfold B4; rw [g3, e3, hT]; simp
    rw [one_6 hne (by rw [g1]; show (vput r.seq.toNat).length ≠ 0; omega) (by rw [g2]; show (vtext _).length ≠ 0; omega) (by rw [hd]; omega) (by rw [g3]; show (vtext _).length ≠ 0; omega) e4 (by rw [er]; exact h), er]
  · rw [if_neg hk1] at hT
    have hv : r.val = ⟨#[]⟩ := by
      rcases hk with hk | hk
      · exact absurd hk hk1
      · exact strB_inj_empty hk.2
    have er : rec0 (body r) = r := by
      unfold rec0
      rw [hd, g1, g2]
      simp only [hk0, hsq, str_strB]
      rw [← hv]
    rw [one_8 hne (by rw [g1]; show (vput r.seq.toNat).length ≠ 0; omega) (by rw [g2]; show (vtext _).length ≠ 0; omega) (by rw [hd]; omega) (by rw [e3, hT]; rfl) (by rw [er]; exact h), er]
def scanL : List (List Nat) → List RT × Nat × Bool
  | [] => ([], 0, true)
  | T :: L => if (oneV T).2 = true then ((oneV T).1 :: (scanL L).1, 12 + T.length + (scanL L).2.1, (scanL L).2.2) else ([], 0, false)
def scanR (B : List Nat) : List RT × Nat × Bool := ((scanL (pscan B).1).1, (scanL (pscan B).1).2.1, (scanL (pscan B).1).2.2 && (pscan B).2.2)
def RTo (L : List (List Nat)) (i n : Nat) (F : List RT) : Prop := scanL L = (F ++ (scanL (L.drop i)).1, n + (scanL (L.drop i)).2.1, (scanL (L.drop i)).2.2)
theorem RTo.start (L : List (List Nat)) : RTo L 0 0 [] := by unfold RTo; simp
theorem RTo.step {L : List (List Nat)} {i n : Nat} {F : List RT} (h : RTo L i n F) (hi : i < L.length) (ho : (oneV (L.getD i [])).2 = true) : RTo L (i + 1) (n + (12 + (L.getD i []).length)) (F ++ [(oneV (L.getD i [])).1]) := by
  unfold RTo at h ⊢
  have e : L.drop i = L.getD i [] :: L.drop (i + 1) := by rw [List.drop_eq_getElem_cons hi]; simp [List.getD, hi]
  rw [e, scanL, if_pos ho] at h
  rw [h]
  simp [Nat.add_assoc]
theorem RTo.bad {L : List (List Nat)} {i n : Nat} {F : List RT} (h : RTo L i n F) (hi : i < L.length) (ho : (oneV (L.getD i [])).2 = false) : scanL L = (F, n, false) := by
  unfold RTo at h
  have e : L.drop i = L.getD i [] :: L.drop (i + 1) := by rw [List.drop_eq_getElem_cons hi]; simp [List.getD, hi]
  rw [e, scanL, if_neg (by rw [ho]; simp)] at h
  simpa using h
theorem RTo.done {L : List (List Nat)} {n : Nat} {F : List RT} (h : RTo L L.length n F) : scanL L = (F, n, true) := by
  unfold RTo at h
  rw [List.drop_length] at h
  simpa [scanL] using h
theorem pscan_size (B : List Nat) : (pscan B).2.1 ≤ B.length ∧ ∀ T ∈ (pscan B).1, T.length ≤ B.length := by
  induction hn : B.length using Nat.strongRecOn generalizing B with
  | ind n ih =>
    by_cases h1 : B.length < 12
    · rw [pscan_short h1]; simp
    · cases h2 : endOk B with
      | false => rw [pscan_head h1 h2]; simp
      | true =>
        by_cases h3 : B.length < endAt B
        · rw [pscan_cut h2 h3]; simp
        · cases h4 : bodyOk (B.take (endAt B)) with
          | false => rw [pscan_body h2 (by omega) h4]; simp
          | true =>
            have h12 : 12 ≤ endAt B := by rw [endAt_ok h2]; omega
            have hd : (B.drop (endAt B)).length = B.length - endAt B := List.length_drop ..
            obtain ⟨i1, i2⟩ := ih (B.drop (endAt B)).length (by omega) (B.drop (endAt B)) rfl
            rw [pscan_more h2 (by omega) h4]
            refine ⟨by show endAt B + _ ≤ n; omega, fun T hT => ?_⟩
            rw [List.mem_cons] at hT
            rcases hT with rfl | hT
            · rw [List.length_take, List.length_drop]; omega
            · have := i2 T hT
              omega
def tot : List (List Nat) → Nat
  | [] => 0
  | T :: L => 12 + T.length + tot L
theorem tot_scan (L : List (List Nat)) : (scanL L).2.1 ≤ tot L := by
  induction L with
  | nil => exact Nat.le_refl _
  | cons T L ih =>
    unfold scanL tot
    split
    · show 12 + T.length + _ ≤ _
      omega
    · exact Nat.zero_le _
theorem tot_len (L : List (List Nat)) : 12 * L.length ≤ tot L := by
  induction L with
  | nil => exact Nat.le_refl _
  | cons T L ih => rw [List.length_cons, tot]; omega
theorem tot_pscan (B : List Nat) : tot (pscan B).1 = (pscan B).2.1 := by
  induction hn : B.length using Nat.strongRecOn generalizing B with
  | ind n ih =>
    by_cases h1 : B.length < 12
    · rw [pscan_short h1]; rfl
    · cases h2 : endOk B with
      | false => rw [pscan_head h1 h2]; rfl
      | true =>
        by_cases h3 : B.length < endAt B
        · rw [pscan_cut h2 h3]; rfl
        · cases h4 : bodyOk (B.take (endAt B)) with
          | false => rw [pscan_body h2 (by omega) h4]; rfl
          | true =>
            have h12 : 12 ≤ endAt B := by rw [endAt_ok h2]; omega
            have hd : (B.drop (endAt B)).length = B.length - endAt B := List.length_drop ..
            have i1 := ih (B.drop (endAt B)).length (by omega) (B.drop (endAt B)) rfl
            rw [pscan_more h2 (by omega) h4]
            simp only [tot]
            rw [i1, List.length_take, List.length_drop]
            omega
theorem RTo.le {L : List (List Nat)} {i n : Nat} {F : List RT} (h : RTo L i n F) : n ≤ tot L := by
  have := tot_scan L
  unfold RTo at h
  rw [h] at this
  have h2 : n + (scanL (L.drop i)).2.1 ≤ tot L := this
  omega
def encs : List RT → List Nat
  | [] => []
  | r :: l => pseal (body r) ++ encs l
theorem encs_cat (l : List RT) : encs l = pcat (l.map body) := by
  induction l with
  | nil => rfl
  | cons r l ih => simp [encs, pcat, ih]
theorem encs_snoc (l : List RT) (r : RT) : encs (l ++ [r]) = encs l ++ pseal (body r) := by
  rw [encs_cat, encs_cat, List.map_append, pcat_append]
  simp [pcat]
theorem scanL_ok {l : List RT} (h : ∀ r ∈ l, chk r = 0) : scanL (l.map body) = (l, (encs l).length, true) := by
  induction l with
  | nil => rfl
  | cons r l ih =>
    have h1 := one_body (h r (by simp))
    rw [List.map_cons, scanL, h1, ih fun x hx => h x (by simp [hx])]
    simp only [encs, List.length_append, pseal_length, if_true]
end Go.Proofs.YtdjkkohckfndkaaGreatDoor.S14

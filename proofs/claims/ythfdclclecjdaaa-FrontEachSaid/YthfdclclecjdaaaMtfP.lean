/- Moving to the front: plain lists, no program. -/
namespace Go.Proofs.Ythfdclclecjdaaa.Pl

/-- the element at place k comes to the front -/
def mv (L : List Nat) (k : Nat) : List Nat := L.getD k 0 :: (L.take k ++ L.drop (k + 1))
def asc : List Nat := List.range 256
/-- the places of B, and the list behind B, from the list L on -/
def penc : List Nat → List Nat → List Nat
  | _, [] => []
  | L, x :: B => L.idxOf x :: penc (mv L (L.idxOf x)) B
def lenc : List Nat → List Nat → List Nat
  | L, [] => L
  | L, x :: B => lenc (mv L (L.idxOf x)) B
def pdec : List Nat → List Nat → List Nat
  | _, [] => []
  | L, k :: B => L.getD k 0 :: pdec (mv L k) B
def ldec : List Nat → List Nat → List Nat
  | L, [] => L
  | L, k :: B => ldec (mv L k) B

theorem penc_length (L B : List Nat) : (penc L B).length = B.length := by
  induction B generalizing L with
  | nil => rfl
  | cons x B ih => simp [penc, ih]
theorem pdec_length (L B : List Nat) : (pdec L B).length = B.length := by
  induction B generalizing L with
  | nil => rfl
  | cons x B ih => simp [pdec, ih]
theorem penc_append (L A B : List Nat) : penc L (A ++ B) = penc L A ++ penc (lenc L A) B := by
  induction A generalizing L with
  | nil => rfl
  | cons x A ih => simp [penc, lenc, ih]
theorem lenc_append (L A B : List Nat) : lenc L (A ++ B) = lenc (lenc L A) B := by
  induction A generalizing L with
  | nil => rfl
  | cons x A ih => simp [lenc, ih]
theorem pdec_append (L A B : List Nat) : pdec L (A ++ B) = pdec L A ++ pdec (ldec L A) B := by
  induction A generalizing L with
  | nil => rfl
  | cons x A ih => simp [pdec, ldec, ih]
theorem ldec_append (L A B : List Nat) : ldec L (A ++ B) = ldec (ldec L A) B := by
  induction A generalizing L with
  | nil => rfl
  | cons x A ih => simp [ldec, ih]

/-- a list of all bytes, each once -/
structure Perm (L : List Nat) : Prop where
  len : L.length = 256
  nodup : L.Nodup
  lt : ∀ x ∈ L, x < 256
  all : ∀ x, x < 256 → x ∈ L
theorem perm_asc : Perm asc := ⟨by simp [asc], List.nodup_range, by intro x hx; simpa [asc] using hx, by intro x hx; simpa [asc] using hx⟩
theorem mid_eq {L : List Nat} {k : Nat} (h : k < L.length) : L.take k ++ L.getD k 0 :: L.drop (k + 1) = L := by
  rw [List.getD_eq_getElem?_getD, List.getElem?_eq_getElem h, Option.getD_some, ← List.drop_eq_getElem_cons h, List.take_append_drop]
theorem mv_perm {L : List Nat} {k : Nat} (h : k < L.length) : (mv L k).Perm L := by
  have p : (L.getD k 0 :: (L.take k ++ L.drop (k + 1))).Perm (L.take k ++ L.getD k 0 :: L.drop (k + 1)) := List.perm_middle.symm
  rw [mid_eq h] at p
  exact p
theorem Perm.mv {L : List Nat} (h : Perm L) {k : Nat} (hk : k < 256) : Perm (mv L k) := by
  have p := mv_perm (L := L) (k := k) (by rw [h.len]; exact hk)
  exact ⟨p.length_eq.trans h.len, p.nodup_iff.2 h.nodup, fun x hx => h.lt x (p.mem_iff.1 hx), fun x hx => p.mem_iff.2 (h.all x hx)⟩
theorem Perm.mem {L : List Nat} (h : Perm L) {x : Nat} (hx : x < 256) : x ∈ L := h.all x hx
theorem Perm.idx_lt {L : List Nat} (h : Perm L) {x : Nat} (hx : x < 256) : L.idxOf x < 256 := by
  have := List.idxOf_lt_length_of_mem (h.mem hx)
  rw [h.len] at this
  exact this
theorem getD_idxOf {L : List Nat} {x : Nat} (h : x ∈ L) : L.getD (L.idxOf x) 0 = x := by
  have hl := List.idxOf_lt_length_of_mem h
  rw [List.getD_eq_getElem?_getD, List.getElem?_eq_getElem hl, Option.getD_some]
  exact List.getElem_idxOf hl
theorem idxOf_getD {L : List Nat} (hn : L.Nodup) {k : Nat} (hk : k < L.length) : L.idxOf (L.getD k 0) = k := by
  rw [List.getD_eq_getElem?_getD, List.getElem?_eq_getElem hk, Option.getD_some]
  exact List.Nodup.idxOf_getElem hn k hk
theorem Perm.lenc {L B : List Nat} (h : Perm L) (hB : ∀ x ∈ B, x < 256) : Perm (lenc L B) := by
  induction B generalizing L with
  | nil => exact h
  | cons x B ih => exact ih (h.mv (h.idx_lt (hB x (by simp)))) fun y hy => hB y (by simp [hy])
theorem Perm.ldec {L B : List Nat} (h : Perm L) (hB : ∀ x ∈ B, x < 256) : Perm (ldec L B) := by
  induction B generalizing L with
  | nil => exact h
  | cons x B ih => exact ih (h.mv (hB x (by simp))) fun y hy => hB y (by simp [hy])
theorem penc_lt {L B : List Nat} (h : Perm L) (hB : ∀ x ∈ B, x < 256) : ∀ x ∈ penc L B, x < 256 := by
  induction B generalizing L with
  | nil => intro x hx; simp [penc] at hx
  | cons x B ih =>
    intro y hy
    simp only [penc, List.mem_cons] at hy
    have hk := h.idx_lt (hB x (by simp))
    rcases hy with rfl | hy
    · exact hk
    · exact ih (h.mv hk) (fun z hz => hB z (by simp [hz])) y hy
theorem Perm.getD_lt {L : List Nat} (h : Perm L) (k : Nat) : L.getD k 0 < 256 := by
  by_cases hk : k < L.length
  · rw [List.getD_eq_getElem?_getD, List.getElem?_eq_getElem hk]; exact h.lt _ (List.getElem_mem hk)
  · rw [List.getD_eq_getElem?_getD, List.getElem?_eq_none (by omega)]; simp
theorem pdec_lt {L B : List Nat} (h : Perm L) (hB : ∀ x ∈ B, x < 256) : ∀ x ∈ pdec L B, x < 256 := by
  induction B generalizing L with
  | nil => intro x hx; simp [pdec] at hx
  | cons x B ih =>
    intro y hy
    simp only [pdec, List.mem_cons] at hy
    rcases hy with rfl | hy
    · exact h.getD_lt x
    · exact ih (h.mv (hB x (by simp))) (fun z hz => hB z (by simp [hz])) y hy
theorem pdec_penc {L B : List Nat} (h : Perm L) (hB : ∀ x ∈ B, x < 256) : pdec L (penc L B) = B := by
  induction B generalizing L with
  | nil => rfl
  | cons x B ih =>
    have hx := hB x (by simp)
    simp only [penc, pdec, getD_idxOf (h.mem hx)]
    rw [ih (h.mv (h.idx_lt hx)) fun z hz => hB z (by simp [hz])]
theorem penc_pdec {L B : List Nat} (h : Perm L) (hB : ∀ x ∈ B, x < 256) : penc L (pdec L B) = B := by
  induction B generalizing L with
  | nil => rfl
  | cons x B ih =>
    have hx := hB x (by simp)
    simp only [penc, pdec, idxOf_getD h.nodup (show x < L.length by rw [h.len]; exact hx)]
    rw [ih (h.mv hx) fun z hz => hB z (by simp [hz])]

/-- one byte more -/
theorem take_more {B : List Nat} {i : Nat} (h : i < B.length) : B.take (i + 1) = B.take i ++ [B.getD i 0] := by
  rw [List.take_add_one, List.getElem?_eq_getElem h, Option.toList_some]
  simp [List.getD, h]
theorem take_lt' {B : List Nat} (h : ∀ x ∈ B, x < 256) (n : Nat) : ∀ x ∈ B.take n, x < 256 := fun x hx => h x (List.mem_of_mem_take hx)
/-- the list ahead of byte i -/
def lat (B : List Nat) (i : Nat) : List Nat := lenc asc (B.take i)
def datl (B : List Nat) (i : Nat) : List Nat := ldec asc (B.take i)
theorem lat_zero (B : List Nat) : lat B 0 = asc := rfl
theorem datl_zero (B : List Nat) : datl B 0 = asc := rfl
theorem lat_perm {B : List Nat} (h : ∀ x ∈ B, x < 256) (i : Nat) : Perm (lat B i) := perm_asc.lenc (take_lt' h i)
theorem datl_perm {B : List Nat} (h : ∀ x ∈ B, x < 256) (i : Nat) : Perm (datl B i) := perm_asc.ldec (take_lt' h i)
theorem lat_succ {B : List Nat} {i : Nat} (h : i < B.length) : lat B (i + 1) = mv (lat B i) ((lat B i).idxOf (B.getD i 0)) := by
  unfold lat; rw [take_more h, lenc_append]; rfl
theorem datl_succ {B : List Nat} {i : Nat} (h : i < B.length) : datl B (i + 1) = mv (datl B i) (B.getD i 0) := by
  unfold datl; rw [take_more h, ldec_append]; rfl
/-- Encode, Decode -/
def enc (B : List Nat) : List Nat := penc asc B
def dec (B : List Nat) : List Nat := pdec asc B
theorem enc_length (B : List Nat) : (enc B).length = B.length := penc_length _ _
theorem dec_length (B : List Nat) : (dec B).length = B.length := pdec_length _ _
theorem enc_lt {B : List Nat} (h : ∀ x ∈ B, x < 256) : ∀ x ∈ enc B, x < 256 := penc_lt perm_asc h
theorem dec_lt {B : List Nat} (h : ∀ x ∈ B, x < 256) : ∀ x ∈ dec B, x < 256 := pdec_lt perm_asc h
theorem dec_enc {B : List Nat} (h : ∀ x ∈ B, x < 256) : dec (enc B) = B := pdec_penc perm_asc h
theorem enc_dec {B : List Nat} (h : ∀ x ∈ B, x < 256) : enc (dec B) = B := penc_pdec perm_asc h
theorem getD_mid (A B : List Nat) (x : Nat) : (A ++ x :: B).getD A.length 0 = x := by
  rw [List.getD_eq_getElem?_getD, List.getElem?_append_right (Nat.le_refl _)]; simp
theorem enc_get {B : List Nat} {i : Nat} (h : i < B.length) : (enc B).getD i 0 = (lat B i).idxOf (B.getD i 0) := by
  have e : enc B = penc asc (B.take i) ++ penc (lat B i) (B.getD i 0 :: B.drop (i + 1)) := by
    unfold enc lat
    rw [← penc_append, mid_eq h]
  have hl : (penc asc (B.take i)).length = i := by rw [penc_length, List.length_take]; omega
  rw [e]
  have := getD_mid (penc asc (B.take i)) (penc (mv (lat B i) ((lat B i).idxOf (B.getD i 0))) (B.drop (i + 1))) ((lat B i).idxOf (B.getD i 0))
  rwa [hl] at this
theorem dec_get {B : List Nat} {i : Nat} (h : i < B.length) : (dec B).getD i 0 = (datl B i).getD (B.getD i 0) 0 := by
  have e : dec B = pdec asc (B.take i) ++ pdec (datl B i) (B.getD i 0 :: B.drop (i + 1)) := by
    unfold dec datl
    rw [← pdec_append, mid_eq h]
  have hl : (pdec asc (B.take i)).length = i := by rw [pdec_length, List.length_take]; omega
  rw [e]
  have := getD_mid (pdec asc (B.take i)) (pdec (mv (datl B i) (B.getD i 0)) (B.drop (i + 1))) ((datl B i).getD (B.getD i 0) 0)
  rwa [hl] at this
theorem enc_take (A B : List Nat) : (enc (A ++ B)).take A.length = enc A := by
  unfold enc
  rw [penc_append, List.take_append_of_le_length (by rw [penc_length]; omega), List.take_of_length_le (by rw [penc_length]; omega)]
/-- a byte that comes again at once -/
theorem enc_again {B : List Nat} (hB : ∀ x ∈ B, x < 256) {i : Nat} (h : i + 1 < B.length) : (enc B).getD (i + 1) 0 = 0 ↔ B.getD (i + 1) 0 = B.getD i 0 := by
  rw [enc_get h, lat_succ (by omega)]
  have hx : B.getD i 0 < 256 := by
    rw [List.getD_eq_getElem?_getD, List.getElem?_eq_getElem (by omega)]; exact hB _ (List.getElem_mem _)
  have hm := (lat_perm hB i).mem hx
  unfold mv
  rw [getD_idxOf hm, List.idxOf_cons]
  by_cases e : B.getD i 0 = B.getD (i + 1) 0
  · rw [e]; simp
  · have e1 : (B.getD i 0 == B.getD (i + 1) 0) = false := by simpa using e
    rw [e1]
    simp
    exact fun h' => e h'.symm
end Go.Proofs.Ythfdclclecjdaaa.Pl

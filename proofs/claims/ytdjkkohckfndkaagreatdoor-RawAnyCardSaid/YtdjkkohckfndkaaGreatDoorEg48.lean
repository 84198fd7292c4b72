/- Texts put together: RawU, RawQ. -/
import Derived.Test.YtdjkkohckfndkaaGreatDoorEg8
import Derived.Test.YtdjkkohckfndkaaGreatDoorEg37
import Derived.Test.YtdjkkohckfndkaaGreatDoorEg46
import Derived.Test.YtdjkkohckfndkaaGreatDoorEg47
set_option linter.unusedSimpArgs false
set_option linter.unusedVariables false
set_option maxRecDepth 100000
namespace Go.Proofs.YtdjkkohckfndkaaGreatDoor.S15
open Go.RowKit S14 S2.Pl S3.Pl
def VF : List Nat → Prop
  | [] => False
  | [x] => x < 128
  | x :: y :: t => 128 ≤ x ∧ x < 256 ∧ VF (y :: t) ∧ y :: t ≠ [0]
theorem VF.pos : ∀ {C : List Nat}, VF C → C ≠ [0] → 0 < vval C
  | [], h, _ => h.elim
  | [x], h, h2 => by
    have hx : x < 128 := h
    have : x ≠ 0 := fun e => h2 (by rw [e])
    simp only [vval]
    omega
  | x :: y :: t, h, _ => by
    have := VF.pos h.2.2.1 h.2.2.2
    simp only [vval] at this ⊢
    omega
theorem VF.put : ∀ {C : List Nat}, VF C → vput (vval C) = C
  | [], h => h.elim
  | [x], h => by
    have hx : x < 128 := h
    have e : vval [x] = x := by simp only [vval]; omega
    rw [e, vput_small hx]
  | x :: y :: t, h => by
    have hp := VF.pos h.2.2.1 h.2.2.2
    have ih := VF.put h.2.2.1
    have h1 := h.1
    have h2 := h.2.1
    have e : vval (x :: y :: t) = x % 128 + 128 * vval (y :: t) := rfl
    generalize vval (y :: t) = v at *
    rw [e, vput_big (by omega)]
    have e1 : (x % 128 + 128 * v) % 128 + 128 = x := by omega
    have e2 : (x % 128 + 128 * v) / 128 = v := by omega
    rw [e1, e2, ih]
theorem VF.take : ∀ (i : Nat) (B : List Nat), i < B.length → (∀ j, j < i → 128 ≤ B.getD j 0) → B.getD i 0 < 128 → (∀ x ∈ B, x < 256) → (i = 0 ∨ B.getD i 0 ≠ 0) → VF (B.take (i + 1))
  | _, [], h, _, _, _, _ => by simp at h
  | 0, x :: t, _, _, h, _, _ => by simpa [VF] using h
  | i + 1, x :: t, hl, hon, he, hx, hz => by
    have hl' : i < t.length := by simpa using hl
    have ht := VF.take i t hl' (fun j hj => by simpa using hon (j + 1) (by omega)) (by simpa using he) (fun y hy => hx y (by simp [hy])) (.inr (by
      rcases hz with hz | hz
      · cases hz
      · simpa using hz))
    rw [List.take_succ_cons]
    match ht' : t.take (i + 1), ht with
    | [], h => exact h.elim
    | y :: r, h =>
      refine ⟨by simpa using hon 0 (by omega), hx x (by simp), h, fun e => ?_⟩
      rw [e] at ht'
      have h1 : (t.take (i + 1)).length = 1 := by rw [ht']; rfl
      rw [List.length_take] at h1
      have hi : i = 0 := by omega
      subst hi
      rcases hz with hz | hz
      · cases hz
      · apply hz
        have : t.getD 0 0 = (t.take 1).getD 0 0 := by cases t <;> simp
        simp only [List.getD_cons_succ]
        rw [this, ht']
        rfl
theorem vget_take {B : List Nat} (hx : ∀ x ∈ B, x < 256) (h : (vget B).2 ≠ 0) : B.take (vget B).2 = vput (vget B).1 := by
  unfold vget at h ⊢
  split
  · rename_i hn; rw [hn] at h; simp at h
  · rename_i i hi
    rw [hi] at h
    simp only at h
    by_cases hb : VBad B i
    · rw [if_pos hb] at h; simp at h
    · rw [if_neg hb]
      rw [List.findIdx?_eq_some_iff_getElem] at hi
      obtain ⟨h1, h2, h3⟩ := hi
      rw [List.length_take] at h1
      simp only
      refine (VF.put (VF.take i B (by omega) (fun j hj => ?_) ?_ hx ?_)).symm
      · have := h3 j hj
        rw [getD_get (by omega)]
        simp only [List.getElem_take] at this
        simpa using this
      · rw [getD_get (by omega)]
        simp only [List.getElem_take] at h2
        simpa using h2
      · by_cases h0 : i = 0
        · exact .inl h0
        · exact .inr fun e => hb (.inr ⟨by omega, e⟩)
theorem vgetText_take {B : List Nat} (hx : ∀ x ∈ B, x < 256) (h : (vgetText B).2 ≠ 0) : B.take (vgetText B).2 = vtext (vgetText B).1 := by
  unfold vgetText at h ⊢
  by_cases hb : (vget B).2 = 0 ∨ B.length - (vget B).2 < (vget B).1
  · rw [if_pos hb] at h; simp at h
  · rw [if_neg hb]
    simp only
    have hk : (vget B).2 ≠ 0 := fun e => hb (.inl e)
    have hl : ((B.drop (vget B).2).take (vget B).1).length = (vget B).1 := by rw [List.length_take, List.length_drop]; omega
    unfold vtext
    rw [hl, ← vget_take hx hk, List.take_add]
theorem drop_lt' {B : List Nat} (h : ∀ x ∈ B, x < 256) (n : Nat) : ∀ x ∈ B.drop n, x < 256 := fun x hx => h x (List.mem_of_mem_drop hx)
theorem take_lt' {B : List Nat} (h : ∀ x ∈ B, x < 256) (n : Nat) : ∀ x ∈ B.take n, x < 256 := fun x hx => h x (List.mem_of_mem_take hx)
theorem one_whole {B : List Nat} (hx : ∀ x ∈ B, x < 256) (h : (oneV B).2 = true) : body (oneV B).1 = B := by
  by_cases h1 : B.length = 0
  · rw [one_1 h1] at h; cases h
  by_cases h2 : (vget (B1 B)).2 = 0
  · rw [one_2 h2] at h; cases h
  by_cases h3 : (vgetText (B2 B)).2 = 0
  · rw [one_3 h3] at h; cases h
  by_cases hq : 1125899906842624 < (vget (B1 B)).1
  · rw [one_seq hq] at h; cases h
  have hx1 : ∀ x ∈ B1 B, x < 256 := drop_lt' hx 1
  have hx2 : ∀ x ∈ B2 B, x < 256 := drop_lt' hx1 _
  have hx3 : ∀ x ∈ B3 B, x < 256 := drop_lt' hx2 _
  have e1 : B = B.getD 0 0 :: B1 B := by
    unfold B1
    cases B with
    | nil => simp at h1
    | cons x t => rfl
  have e2 : B1 B = vput (vget (B1 B)).1 ++ B2 B := by
    unfold B2
    rw [← vget_take hx1 h2, List.take_append_drop]
  have e3 : B2 B = vtext (vgetText (B2 B)).1 ++ B3 B := by
    unfold B3
    rw [← vgetText_take hx2 h3, List.take_append_drop]
  have hsq : (sq (vget (B1 B)).1).toNat = (vget (B1 B)).1 := by rw [sq_small (by omega)]; omega
  have hs2 : strB (str (vgetText (B2 B)).1) = (vgetText (B2 B)).1 := strB_str fun x hx => by
    have : x ∈ vtext (vgetText (B2 B)).1 := by unfold vtext; exact List.mem_append_right _ hx
    exact hx2 x (by rw [e3]; exact List.mem_append_left _ this)
  by_cases hk : B.getD 0 0 = 1
  · by_cases h4 : (vgetText (B3 B)).2 = 0
    · rw [one_4 hk h4] at h; cases h
    by_cases h5 : (B4 B).length = 0 ∧ chk (rec1 B) = 0
    · rw [one_6 h1 h2 h3 hk h4 h5.1 h5.2]
      have e4 : B3 B = vtext (vgetText (B3 B)).1 := by
        have h6 : B4 B = [] := List.eq_nil_of_length_eq_zero h5.1
        have h7 := List.take_append_drop (vgetText (B3 B)).2 (B3 B)
        unfold B4 at h6
        rw [h6, List.append_nil, vgetText_take hx3 h4] at h7
        exact h7.symm
      have hs3 : strB (str (vgetText (B3 B)).1) = (vgetText (B3 B)).1 := strB_str fun x hx => by
        have : x ∈ vtext (vgetText (B3 B)).1 := by unfold vtext; exact List.mem_append_right _ hx
        exact hx3 x (by rw [e4]; exact this)
      have hb : body (rec1 B) = [B.getD 0 0] ++ vput (vget (B1 B)).1 ++ vtext (vgetText (B2 B)).1 ++ vtext (vgetText (B3 B)).1 := by
        unfold body bodyK
        rw [if_pos (show (rec1 B).kind = 1 by unfold rec1; simp only; omega)]
        unfold rec1
        simp only [hsq, hs2, hs3]
        rw [show ((B.getD 0 0 : Nat) : Int).toNat = B.getD 0 0 by omega]
      show body (rec1 B) = B
      rw [hb]
      conv => rhs; rw [e1, e2, e3, e4]
      simp
    · rw [one_5 hk h5] at h; cases h
  · by_cases h5 : (B3 B).length = 0 ∧ chk (rec0 B) = 0
    · rw [one_8 h1 h2 h3 hk h5.1 h5.2]
      have h6 : B3 B = [] := List.eq_nil_of_length_eq_zero h5.1
      have hb : body (rec0 B) = [B.getD 0 0] ++ vput (vget (B1 B)).1 ++ vtext (vgetText (B2 B)).1 := by
        unfold body bodyK
        rw [if_neg (show ¬ (rec0 B).kind = 1 by unfold rec0; simp only; omega)]
        unfold rec0
        simp only [hsq, hs2]
        rw [show ((B.getD 0 0 : Nat) : Int).toNat = B.getD 0 0 by omega]
      show body (rec0 B) = B
      rw [hb]
      conv => rhs; rw [e1, e2, e3, h6]
      simp
    · rw [one_7 hk h5] at h; cases h
theorem seal_whole {B : List Nat} (hx : ∀ x ∈ B, x < 256) (h2 : endOk B = true) (h3 : endAt B ≤ B.length) (h4 : bodyOk (B.take (endAt B)) = true) : B.take (endAt B) = pseal ((B.drop 12).take (endAt B - 12)) := by
  have h12 := endOk_len h2
  have hat := endAt_ok h2
  have hl : ((B.drop 12).take (endAt B - 12)).length = _root_.Go.Proofs.YtdjkkohckfndkaaGreatDoor.Pl.getFour B := by rw [List.length_take, List.length_drop]; omega
  have f1 : _root_.Go.Proofs.YtdjkkohckfndkaaGreatDoor.Pl.four (_root_.Go.Proofs.YtdjkkohckfndkaaGreatDoor.Pl.getFour B) = B.take 4 := by
    match B, h12 with
    | a :: b :: c :: d :: t, _ => exact _root_.Go.Proofs.YtdjkkohckfndkaaGreatDoor.Pl.four_getFour a b c d (hx a (by simp)) (hx b (by simp)) (hx c (by simp)) (hx d (by simp)) t
  have f2 := (head_eq hx h12).2 h2
  have f3 := (body_eq hx h2 h3).2 h4
  unfold pseal
  rw [hl, f1, f2, f3]
  have e : B.take (endAt B) = B.take 4 ++ ((B.drop 4).take 4 ++ ((B.drop 8).take 4 ++ (B.drop 12).take (endAt B - 12))) := by
    have a1 : endAt B = 4 + (4 + (4 + (endAt B - 12))) := by omega
    conv => lhs; rw [a1]
    rw [List.take_add, List.take_add, List.take_add, List.drop_drop, List.drop_drop]
  rw [e]
  simp
theorem pscan_whole (B : List Nat) (hx : ∀ x ∈ B, x < 256) : B.take (pscan B).2.1 = pcat (pscan B).1 ∧ ∀ T ∈ (pscan B).1, ∀ x ∈ T, x < 256 := by
  induction hn : B.length using Nat.strongRecOn generalizing B with
  | ind n ih =>
    by_cases h1 : B.length < 12
    · rw [pscan_short h1]; simp [pcat]
    · cases h2 : endOk B with
      | false => rw [pscan_head h1 h2]; simp [pcat]
      | true =>
        by_cases h3 : B.length < endAt B
        · rw [pscan_cut h2 h3]; simp [pcat]
        · cases h4 : bodyOk (B.take (endAt B)) with
          | false => rw [pscan_body h2 (by omega) h4]; simp [pcat]
          | true =>
            have h12 : 12 ≤ endAt B := by rw [endAt_ok h2]; omega
            have hd : (B.drop (endAt B)).length = B.length - endAt B := List.length_drop ..
            obtain ⟨i1, i2⟩ := ih (B.drop (endAt B)).length (by omega) (B.drop (endAt B)) (drop_lt' hx _) rfl
            rw [pscan_more h2 (by omega) h4]
            refine ⟨?_, fun T hT => ?_⟩
            · simp only [pcat]
              rw [List.take_add, i1, seal_whole hx h2 (by omega) h4]
            · rw [List.mem_cons] at hT
              rcases hT with rfl | hT
              · exact take_lt' (drop_lt' hx 12) _
              · exact i2 T hT
theorem scanL_whole (L : List (List Nat)) (hx : ∀ T ∈ L, ∀ x ∈ T, x < 256) : (pcat L).take (scanL L).2.1 = encs (scanL L).1 := by
  induction L with
  | nil => simp [scanL, pcat, encs]
  | cons T L ih =>
    have ih := ih fun U hU => hx U (by simp [hU])
    unfold scanL
    by_cases h : (oneV T).2 = true
    · rw [if_pos h]
      simp only [pcat, encs]
      rw [one_whole (hx T (by simp)) h, ← pseal_length T, List.take_length_add_append, ih]
    · rw [if_neg h]
      simp [encs]
theorem scanR_whole {B : List Nat} (hx : ∀ x ∈ B, x < 256) : B.take (scanR B).2.1 = encs (scanR B).1 := by
  obtain ⟨h1, h2⟩ := pscan_whole B hx
  have h3 := scanL_whole _ h2
  have h4 := tot_scan (pscan B).1
  rw [tot_pscan] at h4
  have h5 : (scanR B).2.1 = (scanL (pscan B).1).2.1 := rfl
  have h6 : (scanR B).1 = (scanL (pscan B).1).1 := rfl
  rw [h5, h6, ← h3, ← h1, List.take_take, Nat.min_eq_left h4]
end Go.Proofs.YtdjkkohckfndkaaGreatDoor.S15
namespace Go.Proofs.YtdjkkohckfndkaaGreatDoor.S15
open Go.RowKit S13 S13.Dk S14 S3 S2.Pl S3.Pl
abbrev Fl := List Nat × Nat
def stQ (room : Nat) (nm : Nm) (P : List Fl) (B : List Nat) (y c : Nat) (last : Dir) (pend : List Chg) : St := ⟨room, P ++ [(B, y)], [(nm, P.length)], last, pend, c, none⟩
section
variable (room : Nat) (nm : Nm) (P : List Fl) (B : List Nat) (y c : Nat) (last : Dir) (pend : List Chg)
theorem one_get (i : Nat) : dget [(nm, i)] nm = some i := by simp [dget]
theorem stQ_file : (stQ room nm P B y c last pend).file P.length = (B, y) := by simp [St.file, stQ]
theorem stQ_used : (stQ room nm P B y c last pend).used = B.length := by
  have h := stQ_file room nm P B y c last pend
  have e : (stQ room nm P B y c last pend).used = [((stQ room nm P B y c last pend).file P.length).1.length].sum := rfl
  rw [e, h]
  simp
theorem stQ_put (x : Fl) : (stQ room nm P B y c last pend).put P.length x = stQ room nm P x.1 x.2 c last pend := by
  simp [St.put, stQ]
theorem stQ_beg : beg (stQ room nm P B y c last pend) = (stQ room nm P B y (c + 1) last pend, false) := rfl
theorem stQ_withF (f : St → Nat → St × Nat) : withF (stQ room nm P B y c last pend) nm f = f (stQ room nm P B y (c + 1) last pend) P.length := by
  unfold withF withB
  rw [stQ_beg]
  simp only [Bool.false_eq_true, if_false]
  rw [show (stQ room nm P B y (c + 1) last pend).now = [(nm, P.length)] from rfl, one_get]
theorem stQ_app (X : List Nat) : append (stQ room nm P B y c last pend) nm X = if B.length + X.length > room then (stQ room nm P B y (c + 1) last pend, 4) else (stQ room nm P (B ++ X) y (c + 1) last pend, 0) := by
  unfold append
  rw [stQ_withF]
  simp only [stQ_used, stQ_file, stQ_put]
  rfl
theorem stQ_sync : sync (stQ room nm P B y c last pend) nm = (stQ room nm P B B.length (c + 1) last pend, 0) := by
  unfold sync
  rw [stQ_withF]
  simp only [stQ_file, stQ_put]
theorem stQ_syncDir : syncDir (stQ room nm P B y c last pend) = (stQ room nm P B y (c + 1) [(nm, P.length)] [], 0) := rfl
theorem stQ_read : readF (stQ room nm P B y c last pend) nm = some B := by
  unfold readF
  rw [show (stQ room nm P B y c last pend).now = [(nm, P.length)] from rfl, one_get, Option.map_some, stQ_file]
theorem stQ_crash (ts : List Int) (ht : ts = []) : crash (stQ room nm P B B.length c [(nm, P.length)] []) 0 ts = st1 room nm B B.length 0 [(nm, 0)] [] := by
  subst ht
  have e : crash (stQ room nm P B B.length c [(nm, P.length)] []) 0 [] = ⟨room, [tornF ((stQ room nm P B B.length c [(nm, P.length)] []).file P.length) 0], [(nm, 0)], [(nm, 0)], [], 0, none⟩ := rfl
  rw [e, stQ_file]
  unfold tornF st1
  simp
theorem stQ_create (h : isNm nm = true) : create (stQ room nm P B y c last pend) nm = (stQ room nm (P ++ [(B, y)]) [] 0 (c + 1) last (pend ++ [([], nm, some (P.length + 1))]), 0) := by
  unfold create withB
  rw [stQ_beg]
  simp only [Bool.false_eq_true, if_false, h]
  rw [show (stQ room nm P B y (c + 1) last pend).now = [(nm, P.length)] from rfl, one_get]
  simp [stQ, St.chg, app1, dput, ddel, dins]
def stR (sp : Nm) (C : List Nat) (z : Nat) : St := ⟨room, P ++ [(B, y)] ++ [(C, z)], [(sp, P.length + 1), (nm, P.length)], last, pend, c, none⟩
end
section
variable {room : Nat} {nm sp : Nm} {P : List Fl} {B C : List Nat} {y c z : Nat} {last : Dir} {pend : List Chg}
theorem stR_get (hne : sp ≠ nm) : dget [(sp, P.length + 1), (nm, P.length)] sp = some (P.length + 1) := by simp [dget]
theorem stR_file : (stR room nm P B y c last pend sp C z).file (P.length + 1) = (C, z) := by
  simp [St.file, stR]
theorem stR_file0 : (stR room nm P B y c last pend sp C z).file P.length = (B, y) := by
  simp [St.file, stR]
theorem stR_used : (stR room nm P B y c last pend sp C z).used = C.length + B.length := by
  have e : (stR room nm P B y c last pend sp C z).used = [((stR room nm P B y c last pend sp C z).file (P.length + 1)).1.length, ((stR room nm P B y c last pend sp C z).file P.length).1.length].sum := rfl
  rw [e, stR_file, stR_file0]
  simp
theorem stR_put (x : Fl) : (stR room nm P B y c last pend sp C z).put (P.length + 1) x = stR room nm P B y c last pend sp x.1 x.2 := by
  simp [St.put, stR]
theorem stR_withF (hne : sp ≠ nm) (f : St → Nat → St × Nat) : withF (stR room nm P B y c last pend sp C z) sp f = f (stR room nm P B y (c + 1) last pend sp C z) (P.length + 1) := by
  have hb : beg (stR room nm P B y c last pend sp C z) = (stR room nm P B y (c + 1) last pend sp C z, false) := rfl
  unfold withF withB
  rw [hb]
  simp only [Bool.false_eq_true, if_false]
  rw [show (stR room nm P B y (c + 1) last pend sp C z).now = [(sp, P.length + 1), (nm, P.length)] from rfl, stR_get hne]
theorem rewr_stQ (hs : isNm sp = true) (hn : isNm nm = true) (hne : sp ≠ nm) (ho : bytesBefore sp nm = true) (hr : C.length + B.length ≤ room) :
    rewr (stQ room nm P B y c last pend) sp nm C = (stQ room nm (P ++ [(B, y)]) C C.length (c + 5) [(nm, P.length + 1)] [], 0) := by
  have hb1 : (nm == sp) = false := by simpa using fun e => hne e.symm
  have hb2 : (sp == nm) = false := by simpa using hne
  have h1 : create (stQ room nm P B y c last pend) sp = (stR room nm P B y (c + 1) last (pend ++ [([], sp, some (P.length + 1))]) sp [] 0, 0) := by
    unfold create withB
    rw [stQ_beg]
    simp only [Bool.false_eq_true, if_false, hs]
    have hg : dget [(nm, P.length)] sp = none := by simp [dget, hb1]
    have hnn : isNm ([] : Nm) = false := rfl
    have hnil : (nm == ([] : Nm)) = false := by
      cases nm with
      | nil => rw [hnn] at hn; cases hn
      | cons a t => rfl
    rw [show (stQ room nm P B y (c + 1) last pend).now = [(nm, P.length)] from rfl, hg]
    have hne0 : nm.isEmpty = false := by
      cases nm with
      | nil => rw [hnn] at hn; cases hn
      | cons a t => rfl
    simp [stQ, stR, St.chg, app1, dput, ddel, dins, List.filter_cons, hb1, hne0, ho]
  have h2 : append (stR room nm P B y (c + 1) last (pend ++ [([], sp, some (P.length + 1))]) sp [] 0) sp C = (stR room nm P B y (c + 2) last (pend ++ [([], sp, some (P.length + 1))]) sp C 0, 0) := by
    unfold append
    rw [stR_withF hne]
    simp only [stR_used, stR_file, stR_put, List.length_nil, Nat.zero_add, List.nil_append]
    rw [if_neg (by show ¬ (B.length + C.length > room); omega)]
  have h3 : sync (stR room nm P B y (c + 2) last (pend ++ [([], sp, some (P.length + 1))]) sp C 0) sp = (stR room nm P B y (c + 3) last (pend ++ [([], sp, some (P.length + 1))]) sp C C.length, 0) := by
    unfold sync
    rw [stR_withF hne]
    simp only [stR_file, stR_put]
  have hw : wrt (stQ room nm P B y c last pend) sp C = (stR room nm P B y (c + 3) last (pend ++ [([], sp, some (P.length + 1))]) sp C C.length, 0) := by
    unfold wrt
    rw [h1]
    simp only [ne_eq, not_true_eq_false, if_false]
    unfold extd
    rw [h2]
    simp only [ne_eq, not_true_eq_false, if_false]
    unfold twiceS
    simp only [h3]
    simp
  have h4 : rename (stR room nm P B y (c + 3) last (pend ++ [([], sp, some (P.length + 1))]) sp C C.length) sp nm = (stQ room nm (P ++ [(B, y)]) C C.length (c + 4) last (pend ++ [([], sp, some (P.length + 1))] ++ [(sp, nm, some (P.length + 1))]), 0) := by
    unfold rename
    rw [stR_withF hne]
    simp only [hn, Bool.true_eq_false, if_false]
    simp [stQ, stR, St.chg, app1, dput, ddel, dins, hb1, hb2]
  unfold rewr rewr1
  rw [hw]
  simp only [if_true, ne_eq, not_true_eq_false, if_false]
  rw [h4]
  simp only [if_true, ne_eq, not_true_eq_false, if_false]
  unfold twiceS
  simp only [stQ_syncDir]
  simp
theorem opn_bad (hok : (scanR B).2.2 = false) : opn (stQ room nm P B y c last pend) sp nm = (stQ room nm P B y c last pend, 6, []) := by
  unfold opn
  rw [stQ_read]
  simp only
  rw [if_pos hok]
theorem opn_stQ (hx : ∀ x ∈ B, x < 256) (hs : isNm sp = true) (hn : isNm nm = true) (hne : sp ≠ nm) (ho : bytesBefore sp nm = true) (hr : B.length + B.length ≤ room) (hok : (scanR B).2.2 = true) :
    ∃ P2 y2 c2 last2 pend2, opn (stQ room nm P B y c last pend) sp nm = (stQ room nm P2 (encs (scanR B).1) y2 c2 last2 pend2, 0, (scanR B).1) ∧ c2 ≤ c + 5 ∧
      (y = B.length → last = [(nm, P.length)] → pend = [] → y2 = (encs (scanR B).1).length ∧ last2 = [(nm, P2.length)] ∧ pend2 = []) := by
  have hw := scanR_whole hx
  have hle := scanR_le B
  unfold opn
  rw [stQ_read]
  simp only
  rw [if_neg (by rw [hok]; simp)]
  by_cases h : (scanR B).2.1 < B.length
  · have hl : (B.take (scanR B).2.1).length ≤ B.length := by rw [List.length_take]; omega
    rw [if_pos h, rewr_stQ hs hn hne ho (by omega), hw]
    refine ⟨P ++ [(B, y)], _, c + 5, [(nm, P.length + 1)], [], by simp, by omega, fun _ _ _ => ⟨rfl, by simp, rfl⟩⟩
  · rw [if_neg h]
    have he : encs (scanR B).1 = B := by rw [← hw]; exact List.take_of_length_le (by omega)
    rw [he]
    exact ⟨P, y, c, last, pend, rfl, by omega, fun h1 h2 h3 => ⟨h1, h2, h3⟩⟩
end
theorem names_dig (k : Nat) (hk : k < 10) : isNm (digS k ++ rawE).data.toList = true ∧ isNm (digS k ++ newE).data.toList = true ∧ (digS k ++ newE).data.toList ≠ (digS k ++ rawE).data.toList ∧ bytesBefore (digS k ++ newE).data.toList (digS k ++ rawE).data.toList = true := by
  match k, hk with
  | 0, _ | 1, _ | 2, _ | 3, _ | 4, _ | 5, _ | 6, _ | 7, _ | 8, _ | 9, _ => decide
theorem dig_size (k : Nat) : (digS k).size ≤ 100 := show 1 ≤ 100 by decide
section
variable {w0 w : World} {p : Nat} {room : Nat} {nm : Nm} {P : List Fl} {B : List Nat} {y c : Nat} {last : Dir} {pend : List Chg} {k : Nat}
theorem open_badQ (h : InH w0 p (stQ room nm P B y c last pend) w) (hT : Tab w0) (hk : k < 10) (hnm : (digS k ++ rawE).data.toList = nm) (hc : c ≤ 1099511627000) (hl : B.length ≤ 1000000) (hok : (scanR B).2.2 = false) :
    Calls Tryz.prog 18 #[pP p, .int .i64 (k : Nat)] w fun e w' => e = .returned (.tuple #[.pointer none, .int .i64 6]) ∧ InH w0 p (stQ room nm P B y c last pend) w' := by
  refine (open_any h hT (fmt_dig k hk) (dig_size k) hc (fun C hC => by rw [hnm, stQ_read] at hC; cases hC; exact hl)).mono ?_
  intro e w' hp
  rw [hnm, opn_bad hok] at hp
  unfold OpenPost at hp
  rw [if_pos (by simp)] at hp
  exact hp
end
end Go.Proofs.YtdjkkohckfndkaaGreatDoor.S15

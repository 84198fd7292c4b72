/- Texts put together: EdP. -/
import Derived.Test.YthgpdnffahmhjaaGreatDoorMg2
import Derived.Test.YthgpdnffahmhjaaGreatDoorMg5
import Derived.Test.YthgpdnffahmhjaaGreatDoorMg11
import Derived.Test.YthgpdnffahmhjaaGreatDoorMg12
set_option linter.unusedSimpArgs false
set_option linter.unusedVariables false
set_option maxRecDepth 100000
namespace Go.Proofs.YthgpdnffahmhjaaGreatDoor.S18
open Go.RowKit S2.Pl S3.Pl
structure SG where
  num : Int
  sealed : Bool
  group : Int
  member : Int
  size : Int
  sum : Int
structure PT where
  group : Int
  nums : List Int
  sizes : List Int
  size : Int
  sum : Int
structure ED where
  next : Int
  seq : Int
  adds : List SG
  dels : List Int
  pars : List PT
  drops : List Int
def zS : SG := ⟨0, false, 0, 0, 0, 0⟩
def zP : PT := ⟨0, [], [], 0, 0⟩
def zE : ED := ⟨0, 0, [], [], [], []⟩
def inB (m n : Int) (x : Int) : Bool := decide (m ≤ x) && decide (x ≤ n)
def numB (x : Int) : Bool := inB 1 1125899906842624 x
def sizB (x : Int) : Bool := inB 0 4194304 x
def segB (s : SG) : Bool := numB s.num && inB 0 1125899906842624 s.group && inB 0 3 s.member && sizB s.size
def parK (p : PT) (k : Nat) : Bool := numB (p.nums.getD k 0) && !(p.nums.take k).contains (p.nums.getD k 0) && sizB (p.sizes.getD k 0)
def parB (p : PT) : Bool := numB p.group && sizB p.size && decide (1 ≤ p.nums.length) && decide (p.nums.length ≤ 3) && decide (p.sizes.length = p.nums.length) && (List.range p.nums.length).all (parK p)
def allB {α : Type} (f : α → Bool) (L : List α) : Bool := decide (L.length ≤ 60) && L.all f
def edB (e : ED) : Bool := inB 0 1125899906842624 e.next && inB 0 1125899906842624 e.seq && (allB segB e.adds && allB numB e.dels && allB parB e.pars && allB numB e.drops)
theorem inB_iff {m n x : Int} : inB m n x = true ↔ m ≤ x ∧ x ≤ n := by unfold inB; simp
def dig (b : Bool) : Int := if b then 1 else 0
def segN (s : SG) : List Int := [s.num, dig s.sealed, s.group, s.member, s.size, s.sum]
def parN (p : PT) : List Int := p.group :: (p.nums.length : Int) :: (p.nums ++ (p.sizes ++ [p.size, p.sum]))
def rowE (e : ED) : List Int := e.next :: e.seq :: (e.adds.length : Int) :: (e.adds.flatMap segN ++ ((e.dels.length : Int) :: (e.dels ++ ((e.pars.length : Int) :: (e.pars.flatMap parN ++ ((e.drops.length : Int) :: e.drops))))))
def putN (x : Int) : List Nat := vput x.toNat
def putR (L : List Int) : List Nat := L.flatMap putN
theorem putR_nil : putR [] = [] := rfl
theorem putR_cons (x : Int) (L : List Int) : putR (x :: L) = putN x ++ putR L := rfl
theorem putR_append (A B : List Int) : putR (A ++ B) = putR A ++ putR B := by simp [putR]
theorem putR_lt (L : List Int) : ∀ x ∈ putR L, x < 256 := by
  intro x hx
  simp only [putR, List.mem_flatMap] at hx
  obtain ⟨n, _, h⟩ := hx
  exact vput_lt _ x h
def bodyE (e : ED) : List Nat := putR (rowE e)
theorem bodyE_lt (e : ED) : ∀ x ∈ bodyE e, x < 256 := putR_lt _
def encE (e : ED) : List Nat := if edB e then pseal (bodyE e) else []
abbrev RS := List Nat × Bool
def upT (most : Nat) (s : RS) : Nat × RS := if (vget s.1).2 = 0 ∨ most < (vget s.1).1 then (0, ([], true)) else ((vget s.1).1, (s.1.drop (vget s.1).2, s.2))
def rNum (s : RS) : Int × RS := (((upT 1125899906842624 s).1 : Int), (upT 1125899906842624 s).2)
def rSize (s : RS) : Int × RS := (((upT 4194304 s).1 : Int), (upT 4194304 s).2)
def rSum (s : RS) : Int × RS := (((upT 4294967295 s).1 : Int), (upT 4294967295 s).2)
def rTimes {α : Type} (one : RS → α × RS) : Nat → RS → List α × RS
  | 0, s => ([], s)
  | n + 1, s => ((one s).1 :: (rTimes one n (one s).2).1, (rTimes one n (one s).2).2)
def rList {α : Type} (most : Nat) (one : RS → α × RS) (s : RS) : List α × RS := rTimes one (upT most s).1 (upT most s).2
def rSeg (s : RS) : SG × RS :=
  let a := rNum s
  let b := upT 1 a.2
  let c := rNum b.2
  let d := upT 3 c.2
  let e := rSize d.2
  let f := rSum e.2
  (⟨a.1, decide (b.1 = 1), c.1, (d.1 : Int), e.1, f.1⟩, f.2)
def rPar (s : RS) : PT × RS :=
  let a := rNum s
  let b := rList 3 rNum a.2
  let c := rTimes rSize b.1.length b.2
  let d := rSize c.2
  let e := rSum d.2
  (⟨a.1, b.1, c.1, d.1, e.1⟩, e.2)
def rEd (s : RS) : ED × RS :=
  let a := rNum s
  let b := rNum a.2
  let c := rList 60 rSeg b.2
  let d := rList 60 rNum c.2
  let e := rList 60 rPar d.2
  let f := rList 60 rNum e.2
  (⟨a.1, b.1, c.1, d.1, e.1, f.1⟩, f.2)
def oneE (B : List Nat) : ED × Bool := if (rEd (B, false)).2.2 = false ∧ (rEd (B, false)).2.1.length = 0 ∧ edB (rEd (B, false)).1 = true then ((rEd (B, false)).1, true) else (zE, false)
theorem upT_le (m : Nat) (s : RS) : (upT m s).1 ≤ m ∧ (upT m s).2.1.length ≤ s.1.length := by
  unfold upT
  split
  · exact ⟨Nat.zero_le _, by simp⟩
  · exact ⟨by omega, by simp⟩
theorem upT_put (m n : Nat) (R : List Nat) (b : Bool) (h : n ≤ m) (hm : m < 18446744073709551616) : upT m (vput n ++ R, b) = (n, (R, b)) := by
  unfold upT
  have h1 := vget_vput n (by omega) R
  have h2 := (vput_on n []).2.2.2.2
  simp only [h1]
  rw [if_neg (by omega), List.drop_left]
theorem rNum_put {x : Int} (h : inB 0 1125899906842624 x = true) (R : List Nat) (b : Bool) : rNum (putN x ++ R, b) = (x, (R, b)) := by
  rw [inB_iff] at h
  unfold rNum putN
  rw [upT_put _ _ _ _ (by omega) (by omega)]
  exact Prod.ext (by show ((x.toNat : Nat) : Int) = x; omega) rfl
theorem rSize_put {x : Int} (h : sizB x = true) (R : List Nat) (b : Bool) : rSize (putN x ++ R, b) = (x, (R, b)) := by
  unfold sizB at h
  rw [inB_iff] at h
  unfold rSize putN
  rw [upT_put _ _ _ _ (by omega) (by omega)]
  exact Prod.ext (by show ((x.toNat : Nat) : Int) = x; omega) rfl
theorem rSum_put {x : Int} (h : 0 ≤ x ∧ x ≤ 4294967295) (R : List Nat) (b : Bool) : rSum (putN x ++ R, b) = (x, (R, b)) := by
  unfold rSum putN
  rw [upT_put _ _ _ _ (by omega) (by omega)]
  exact Prod.ext (by show ((x.toNat : Nat) : Int) = x; omega) rfl
theorem rTimes_put {α : Type} {one : RS → α × RS} {enc : α → List Nat} : ∀ (L : List α), (∀ x ∈ L, ∀ R b, one (enc x ++ R, b) = (x, (R, b))) → ∀ (R : List Nat) (b : Bool), rTimes one L.length (L.flatMap enc ++ R, b) = (L, (R, b))
  | [], _, R, b => rfl
  | x :: L, h, R, b => by
    have h1 := h x (by simp) (L.flatMap enc ++ R) b
    have h2 := rTimes_put L (fun y hy => h y (by simp [hy])) R b
    simp only [List.length_cons, List.flatMap_cons, List.append_assoc, rTimes]
    rw [h1]
    simp only [h2]
theorem rList_put {α : Type} {one : RS → α × RS} {enc : α → List Nat} {most : Nat} (L : List α) (hL : L.length ≤ most) (hm : most < 18446744073709551616) (h : ∀ x ∈ L, ∀ R b, one (enc x ++ R, b) = (x, (R, b))) (R : List Nat) (b : Bool) : rList most one (putN L.length ++ (L.flatMap enc ++ R), b) = (L, (R, b)) := by
  unfold rList putN
  rw [Int.toNat_natCast, upT_put _ _ _ _ hL hm]
  exact rTimes_put L h R b
theorem numB_in {x : Int} (h : numB x = true) : inB 0 1125899906842624 x = true := by
  unfold numB at h
  rw [inB_iff] at h ⊢
  omega
def sumW (x : Int) : Prop := 0 ≤ x ∧ x ≤ 4294967295
def EdW (e : ED) : Prop := (∀ s ∈ e.adds, sumW s.sum) ∧ ∀ p ∈ e.pars, sumW p.sum
theorem rSeg_put {s : SG} (h : segB s = true) (hw : sumW s.sum) (R : List Nat) (b : Bool) : rSeg (putR (segN s) ++ R, b) = (s, (R, b)) := by
  obtain ⟨n, d, g, m, z, u⟩ := s
  unfold segB at h
  simp only [Bool.and_eq_true] at h
  obtain ⟨⟨⟨h1, h2⟩, h3⟩, h4⟩ := h
  have hd : putN (dig d) = vput (if d then 1 else 0) := by unfold putN dig; cases d <;> rfl
  have hd2 : decide ((if d then 1 else 0) = 1) = d := by cases d <;> rfl
  simp only [segN, putR_cons, putR_nil, List.append_nil, List.append_assoc]
  unfold rSeg
  rw [inB_iff] at h3
  have hm : putN m = vput m.toNat := rfl
  have hm2 : ((m.toNat : Nat) : Int) = m := by omega
  simp only [rNum_put (numB_in h1), hd, upT_put 1 (if d then 1 else 0) _ _ (by split <;> omega) (by omega), rNum_put h2, hm, upT_put 3 m.toNat _ _ (by omega) (by omega), rSize_put h4, rSum_put hw, hm2, hd2]
theorem flat_putN (L : List Int) : L.flatMap putN = putR L := rfl
theorem parB_iff {p : PT} : parB p = true ↔ numB p.group = true ∧ sizB p.size = true ∧ 1 ≤ p.nums.length ∧ p.nums.length ≤ 3 ∧ p.sizes.length = p.nums.length ∧ ∀ k, k < p.nums.length → parK p k = true := by
  unfold parB
  simp only [Bool.and_eq_true, decide_eq_true_eq, List.all_eq_true, List.mem_range, and_assoc]
theorem parK_nums {p : PT} (h : ∀ k, k < p.nums.length → parK p k = true) : ∀ x ∈ p.nums, numB x = true := by
  intro x hx
  obtain ⟨k, hk, rfl⟩ := List.mem_iff_getElem.1 hx
  have := h k hk
  unfold parK at this
  simp only [Bool.and_eq_true, List.getD_eq_getElem?_getD, List.getElem?_eq_getElem hk, Option.getD_some] at this
  exact this.1.1
theorem parK_sizes {p : PT} (hl : p.sizes.length = p.nums.length) (h : ∀ k, k < p.nums.length → parK p k = true) : ∀ x ∈ p.sizes, sizB x = true := by
  intro x hx
  obtain ⟨k, hk, rfl⟩ := List.mem_iff_getElem.1 hx
  have := h k (by omega)
  unfold parK at this
  simp only [Bool.and_eq_true] at this
  have h2 := this.2
  simp only [List.getD_eq_getElem?_getD, List.getElem?_eq_getElem hk, Option.getD_some] at h2
  exact h2
theorem rPar_put {p : PT} (h : parB p = true) (hw : sumW p.sum) (R : List Nat) (b : Bool) : rPar (putR (parN p) ++ R, b) = (p, (R, b)) := by
  rw [parB_iff] at h
  obtain ⟨h1, h2, h3, h4, h5, h6⟩ := h
  obtain ⟨g, ns, zs, z, u⟩ := p
  simp only [parN, putR_cons, putR_append, putR_nil, List.append_nil, List.append_assoc]
  unfold rPar
  have e1 := fun R b => rList_put (one := rNum) (enc := putN) (most := 3) ns h4 (by omega) (fun x hx R b => rNum_put (numB_in (parK_nums h6 x hx)) R b) R b
  have e2 := fun R b => rTimes_put (one := rSize) (enc := putN) zs (fun x hx R b => rSize_put (parK_sizes h5 h6 x hx) R b) R b
  rw [flat_putN] at e1 e2
  simp only at h5
  rw [h5] at e2
  simp only [rNum_put (numB_in h1), e1, e2, rSize_put h2, rSum_put hw]
theorem allB_iff {α : Type} {f : α → Bool} {L : List α} : allB f L = true ↔ L.length ≤ 60 ∧ ∀ x ∈ L, f x = true := by
  unfold allB
  simp
theorem flat_flat {α : Type} (f : α → List Int) (L : List α) : putR (L.flatMap f) = L.flatMap fun x => putR (f x) := by
  unfold putR
  rw [List.flatMap_assoc]
theorem edB_iff {e : ED} : edB e = true ↔ inB 0 1125899906842624 e.next = true ∧ inB 0 1125899906842624 e.seq = true ∧ allB segB e.adds = true ∧ allB numB e.dels = true ∧ allB parB e.pars = true ∧ allB numB e.drops = true := by
  unfold edB
  simp only [Bool.and_eq_true, and_assoc]
theorem one_bodyE {e : ED} (h : edB e = true) (hw : EdW e) : oneE (bodyE e) = (e, true) := by
  have hh := h
  rw [edB_iff] at h
  obtain ⟨h1, h2, h3, h4, h5, h6⟩ := h
  rw [allB_iff] at h3 h4 h5 h6
  have key : rEd (bodyE e, false) = (e, ([], false)) := by
    obtain ⟨nx, sq, A, D, P, X⟩ := e
    unfold bodyE rowE
    simp only [putR_cons, putR_append, List.append_assoc, flat_flat]
    unfold rEd
    have e3 := fun R b => rList_put (one := rSeg) (enc := fun s => putR (segN s)) (most := 60) A h3.1 (by omega) (fun x hx R b => rSeg_put (h3.2 x hx) (hw.1 x hx) R b) R b
    have e4 := fun R b => rList_put (one := rNum) (enc := putN) (most := 60) D h4.1 (by omega) (fun x hx R b => rNum_put (numB_in (h4.2 x hx)) R b) R b
    have e5 := fun R b => rList_put (one := rPar) (enc := fun s => putR (parN s)) (most := 60) P h5.1 (by omega) (fun x hx R b => rPar_put (h5.2 x hx) (hw.2 x hx) R b) R b
    have e6 := fun b => rList_put (one := rNum) (enc := putN) (most := 60) X h6.1 (by omega) (fun x hx R b => rNum_put (numB_in (h6.2 x hx)) R b) [] b
    rw [flat_putN] at e4 e6
    simp only [List.append_nil] at e6
    simp only [rNum_put h1, rNum_put h2, e3, e4, e5, e6]
  unfold oneE
  rw [key]
  simp [hh]
theorem one_true {B : List Nat} (h : (oneE B).2 = true) : edB (oneE B).1 = true := by
  unfold oneE at h ⊢
  split at h
  · rename_i h2
    rw [if_pos h2]; exact h2.2.2
  · cases h
theorem putN_len {x : Int} (h : x < 18446744073709551616) : (putN x).length ≤ 10 := (vput_len64 x.toNat (by omega)).1
theorem putR_len {L : List Int} (h : ∀ x ∈ L, x < 18446744073709551616) : (putR L).length ≤ 10 * L.length := by
  induction L with
  | nil => exact Nat.le_refl _
  | cons x L ih =>
    have h1 := putN_len (h x (by simp))
    have h2 := ih fun y hy => h y (by simp [hy])
    rw [putR_cons, List.length_append, List.length_cons]; omega
def scanLE : List (List Nat) → List ED × Nat × Bool
  | [] => ([], 0, true)
  | T :: L => if (oneE T).2 = true then ((oneE T).1 :: (scanLE L).1, 12 + T.length + (scanLE L).2.1, (scanLE L).2.2) else ([], 0, false)
def scanE (B : List Nat) : List ED × Nat × Bool := ((scanLE (pscan B).1).1, (scanLE (pscan B).1).2.1, (scanLE (pscan B).1).2.2 && (pscan B).2.2)
def ETo (L : List (List Nat)) (i n : Nat) (F : List ED) : Prop := scanLE L = (F ++ (scanLE (L.drop i)).1, n + (scanLE (L.drop i)).2.1, (scanLE (L.drop i)).2.2)
theorem ETo.start (L : List (List Nat)) : ETo L 0 0 [] := by unfold ETo; simp
theorem ETo.step {L : List (List Nat)} {i n : Nat} {F : List ED} (h : ETo L i n F) (hi : i < L.length) (ho : (oneE (L.getD i [])).2 = true) : ETo L (i + 1) (n + (12 + (L.getD i []).length)) (F ++ [(oneE (L.getD i [])).1]) := by
  unfold ETo at h ⊢
  have e : L.drop i = L.getD i [] :: L.drop (i + 1) := by rw [List.drop_eq_getElem_cons hi]; simp [List.getD, hi]
  rw [e, scanLE, if_pos ho] at h
  rw [h]
  simp [Nat.add_assoc]
theorem ETo.bad {L : List (List Nat)} {i n : Nat} {F : List ED} (h : ETo L i n F) (hi : i < L.length) (ho : (oneE (L.getD i [])).2 = false) : scanLE L = (F, n, false) := by
  unfold ETo at h
  have e : L.drop i = L.getD i [] :: L.drop (i + 1) := by rw [List.drop_eq_getElem_cons hi]; simp [List.getD, hi]
  rw [e, scanLE, if_neg (by rw [ho]; simp)] at h
  simpa using h
theorem ETo.done {L : List (List Nat)} {n : Nat} {F : List ED} (h : ETo L L.length n F) : scanLE L = (F, n, true) := by
  unfold ETo at h
  rw [List.drop_length] at h
  simpa [scanLE] using h
def tot : List (List Nat) → Nat
  | [] => 0
  | T :: L => 12 + T.length + tot L
theorem tot_scan (L : List (List Nat)) : (scanLE L).2.1 ≤ tot L ∧ ((scanLE L).1 = [] → (scanLE L).2.1 = 0) ∧ ((scanLE L).2.2 = false → 0 < L.length) := by
  induction L with
  | nil => exact ⟨Nat.le_refl _, fun _ => rfl, fun h => by cases h⟩
  | cons T L ih =>
    unfold scanLE tot
    split
    · refine ⟨?_, fun h => by simp at h, fun _ => by simp⟩
      show 12 + T.length + _ ≤ _
      omega
    · exact ⟨Nat.zero_le _, fun _ => rfl, fun _ => by simp⟩
theorem tot_len (L : List (List Nat)) : 12 * L.length ≤ tot L := by
  induction L with
  | nil => exact Nat.le_refl _
  | cons T L ih => rw [List.length_cons, tot]; omega
theorem ETo.le {L : List (List Nat)} {i n : Nat} {F : List ED} (h : ETo L i n F) : n ≤ tot L := by
  have := (tot_scan L).1
  unfold ETo at h
  rw [h] at this
  have h2 : n + (scanLE (L.drop i)).2.1 ≤ tot L := this
  omega
theorem pscan_facts (B : List Nat) : (pscan B).2.1 ≤ B.length ∧ (∀ T ∈ (pscan B).1, T.length ≤ B.length) ∧ tot (pscan B).1 = (pscan B).2.1 ∧ ((pscan B).2.2 = false → 12 ≤ B.length) := by
  induction hn : B.length using Nat.strongRecOn generalizing B with
  | ind n ih =>
    by_cases h1 : B.length < 12
    · rw [pscan_short h1]; exact ⟨Nat.zero_le _, by simp, rfl, fun h => by cases h⟩
    · cases h2 : endOk B with
      | false => rw [pscan_head h1 h2]; exact ⟨Nat.zero_le _, by simp, rfl, fun _ => by omega⟩
      | true =>
        by_cases h3 : B.length < endAt B
        · rw [pscan_cut h2 h3]; exact ⟨Nat.zero_le _, by simp, rfl, fun h => by cases h⟩
        · cases h4 : bodyOk (B.take (endAt B)) with
          | false => rw [pscan_body h2 (by omega) h4]; exact ⟨Nat.zero_le _, by simp, rfl, fun _ => by omega⟩
          | true =>
            have h12 : 12 ≤ endAt B := by rw [endAt_ok h2]; omega
            have hd : (B.drop (endAt B)).length = B.length - endAt B := List.length_drop ..
            obtain ⟨i1, i2, i3, i4⟩ := ih (B.drop (endAt B)).length (by omega) (B.drop (endAt B)) rfl
            rw [pscan_more h2 (by omega) h4]
            refine ⟨by show endAt B + _ ≤ n; omega, fun T hT => ?_, ?_, fun _ => by omega⟩
            · rw [List.mem_cons] at hT
              rcases hT with rfl | hT
              · rw [List.length_take, List.length_drop]; omega
              · have := i2 T hT
                omega
            · simp only [tot]
              rw [i3, List.length_take, List.length_drop]
              omega
end Go.Proofs.YthgpdnffahmhjaaGreatDoor.S18

/- Texts put together: DkP. -/
import Derived.Test.YthgpdnffahmhjaaGreatDoorMg1
import Derived.Sort.KeysCollected
import Derived.Maps.Ext
import Derived.Lib.SlMapMerge
set_option linter.unusedSimpArgs false
set_option linter.unusedVariables false
set_option maxRecDepth 100000
namespace Go.Proofs.YthgpdnffahmhjaaGreatDoor.S13
open Go Go.Maps Go.WideShapes
namespace Dk
abbrev Nm := List UInt8
abbrev Dir := List (Nm × Nat)
def dins (x : Nm × Nat) : Dir → Dir
  | [] => [x]
  | y :: r => if bytesBefore x.1 y.1 then x :: y :: r else y :: dins x r
def ddel (L : Dir) (n : Nm) : Dir := L.filter fun p => !(p.1 == n)
def dput (L : Dir) (n : Nm) (i : Nat) : Dir := dins (n, i) (ddel L n)
def dget (L : Dir) (n : Nm) : Option Nat := (L.find? fun p => p.1 == n).map (·.2)
def ent (β : Nat → Nat) (p : Nm × Nat) : Lit × DataW Unit := (.string p.1, .lit (.int .i64 (β p.2 : Nat)))
def dD (β : Nat → Nat) (L : Dir) : DataW Unit := .map (L.map (ent β))
theorem dD_size (β : Nat → Nat) (L : Dir) : Maps.size (dD β L) = L.length := by simp [Maps.size, dD]
theorem dD_keys (β : Nat → Nat) (L : Dir) : strKeys (dD β L) = L.map (·.1) := by
  simp only [strKeys, dD, List.map_map]
  exact List.map_congr_left fun p _ => rfl
theorem dD_ins (β : Nat → Nat) (x : Nm × Nat) : ∀ L : Dir, (dins x L).map (ent β) = DataW.insert (ent β x) (L.map (ent β))
  | [] => rfl
  | y :: r => by
    unfold dins
    by_cases h : bytesBefore x.1 y.1 = true
    · have h' : (ent β x).1.before (ent β y).1 = true := h
      simp [h, DataW.insert, h']
    · have h' : ¬ (ent β x).1.before (ent β y).1 = true := h
      simp [h, DataW.insert, h', dD_ins β x r]
theorem dD_filter (β : Nat → Nat) (n : Nm) (L : Dir) : (ddel L n).map (ent β) = (L.map (ent β)).filter fun p => !p.1.sameKey (.string n) := by
  rw [List.filter_map]; rfl
theorem dD_del (β : Nat → Nat) (L : Dir) (n : Nm) : dD β (ddel L n) = (dD β L).del (.string n) := by
  simp only [dD, DataW.del, dD_filter]
theorem dD_put (β : Nat → Nat) (L : Dir) (n : Nm) (i : Nat) : dD β (dput L n i) = (dD β L).put (.string n) (.lit (.int .i64 (β i : Nat))) := by
  simp only [dD, DataW.put, dput, dD_ins, dD_filter]; rfl
theorem dD_get (β : Nat → Nat) (L : Dir) (n : Nm) (z : DataW Unit) : (dD β L).atKey (.string n) z = match dget L n with | some i => .lit (.int .i64 (β i : Nat)) | none => z := by
  simp only [dD, DataW.atKey, dget, List.find?_map]
  have : ((fun p : Lit × DataW Unit => p.1.sameKey (.string n)) ∘ ent β) = fun p : Nm × Nat => p.1 == n := rfl
  rw [this]
  cases L.find? fun p => p.1 == n <;> rfl
theorem dD_has (β : Nat → Nat) (L : Dir) (n : Nm) : Maps.has (dD β L) (.string n) = (dget L n).isSome := by
  simp only [dD, Maps.has, dget, List.any_map, Option.isSome_map, List.isSome_find?]
  rfl
theorem dD_congr {β β' : Nat → Nat} {L : Dir} (h : ∀ p ∈ L, β p.2 = β' p.2) : dD β L = dD β' L := by
  unfold dD
  rw [List.map_congr_left fun p hp => show ent β p = ent β' p by unfold ent; rw [h p hp]]
theorem before_lt : ∀ a b : Nm, bytesBefore a b = true ↔ a < b
  | [], [] => by simp [bytesBefore]
  | [], _ :: _ => by simp [bytesBefore]
  | _ :: _, [] => by simp [bytesBefore]
  | a :: r, b :: s => by
    simp only [bytesBefore, Bool.or_eq_true, Bool.and_eq_true, decide_eq_true_eq, beq_iff_eq, List.cons_lt_cons_iff, before_lt r s]
def Srt (L : Dir) : Prop := L.Pairwise fun p q => bytesBefore p.1 q.1 = true
theorem srt_of_canon {β : Nat → Nat} {L : Dir} (h : Canon (dD β L)) : Srt L := by
  obtain ⟨es, he, hp, _⟩ := h
  simp only [dD, DataW.map.injEq] at he
  rw [← he, List.pairwise_map] at hp
  exact hp
theorem srt_sorted {L : Dir} (h : Srt L) {ss : List Nm} (hp : ss.Perm (L.map (·.1))) : ss.mergeSort (fun x y => decide (x ≤ y)) = L.map (·.1) := by
  have e : ss.mergeSort (fun x y => decide (x ≤ y)) = (L.map (·.1)).mergeSort (fun x y => decide (x ≤ y)) := mergeSort_of_perm hp
  rw [e]
  refine List.mergeSort_of_pairwise ?_
  rw [List.pairwise_map]
  refine h.imp fun {p q} hpq => ?_
  simp only [decide_eq_true_eq]
  exact List.le_of_lt ((before_lt _ _).1 hpq)
theorem srt_ne {L : Dir} (h : Srt L) : L.Pairwise fun p q => p.1 ≠ q.1 :=
  h.imp fun {p q} hpq e => by rw [e] at hpq; exact absurd ((before_lt _ _).1 hpq) (List.lt_irrefl _)
theorem dins_mem {x y : Nm × Nat} : ∀ {L : Dir}, y ∈ dins x L → y = x ∨ y ∈ L
  | [], h => by simp [dins] at h; exact .inl h
  | z :: r, h => by
    unfold dins at h
    split at h
    · simpa using h
    · rcases List.mem_cons.1 h with rfl | h
      · exact .inr (by simp)
      · rcases dins_mem h with rfl | h
        · exact .inl rfl
        · exact .inr (by simp [h])
theorem dins_length (x : Nm × Nat) : ∀ L : Dir, (dins x L).length = L.length + 1
  | [] => rfl
  | z :: r => by
    unfold dins
    split
    · rfl
    · simp [dins_length x r]
theorem ddel_mem {L : Dir} {n : Nm} {y : Nm × Nat} (h : y ∈ ddel L n) : y ∈ L := (List.mem_filter.1 h).1
theorem ddel_length (L : Dir) (n : Nm) : (ddel L n).length ≤ L.length := List.length_filter_le _ _
theorem dget_mem {L : Dir} {n : Nm} {i : Nat} (h : dget L n = some i) : (n, i) ∈ L := by
  unfold dget at h
  cases hf : L.find? fun p => p.1 == n with
  | none => rw [hf] at h; cases h
  | some p =>
    rw [hf] at h
    have h1 := List.find?_some hf
    have h2 := List.mem_of_find?_eq_some hf
    simp at h h1
    rw [← h, ← h1]; exact h2
theorem apart_mem : ∀ {L : Dir}, L.Pairwise (fun p q => p.1 ≠ q.1) → ∀ {p q : Nm × Nat}, p ∈ L → q ∈ L → p ≠ q → p.1 ≠ q.1
  | [], _, _, _, h, _, _ => by simp at h
  | a :: r, hp, p, q, h1, h2, hne => by
    obtain ⟨ha, hr⟩ := List.pairwise_cons.1 hp
    rcases List.mem_cons.1 h1 with e1 | k1 <;> rcases List.mem_cons.1 h2 with e2 | k2
    · exact absurd (e1.trans e2.symm) hne
    · rw [e1]; exact ha q k2
    · rw [e2]; exact (ha p k1).symm
    · exact apart_mem hr k1 k2 hne
theorem dget_of_mem {L : Dir} (h : Srt L) {n : Nm} {i : Nat} (hm : (n, i) ∈ L) : dget L n = some i := by
  unfold dget
  cases hf : L.find? fun p => p.1 == n with
  | none => have := List.find?_eq_none.1 hf _ hm; simp at this
  | some p =>
    have h1 : p.1 = n := by have := List.find?_some hf; simpa using this
    have h2 := List.mem_of_find?_eq_some hf
    have : p = (n, i) := by
      apply Classical.byContradiction
      intro hne
      have hpw := srt_ne h
      exact apart_mem hpw h2 hm hne h1
    rw [this]; rfl
theorem ddel_lt {L : Dir} {n : Nm} {i : Nat} (h : dget L n = some i) : (ddel L n).length + 1 ≤ L.length := by
  have hm := dget_mem h
  have : (ddel L n).length < L.length := by
    unfold ddel
    rw [List.length_filter_lt_length_iff_exists]
    exact ⟨_, hm, by simp⟩
  omega
abbrev Chg := Nm × Nm × Option Nat
def app1 (L : Dir) (c : Chg) : Dir := match c.2.2 with
  | some i => dput (ddel L c.1) c.2.1 i
  | none => ddel L c.1
structure St where
  room : Nat
  F : List (List Nat × Nat)
  now : Dir
  last : Dir
  pend : List Chg
  calls : Nat
  fail : Option Nat
namespace St
def file (S : St) (i : Nat) : List Nat × Nat := S.F.getD i ([], 0)
def after (S : St) (k : Nat) : Dir := (S.pend.take k).foldl app1 S.last
def used (S : St) : Nat := (S.now.map fun p => (S.file p.2).1.length).sum
def chg (S : St) (c : Chg) : St := { S with now := app1 S.now c, pend := S.pend ++ [c] }
def put (S : St) (i : Nat) (x : List Nat × Nat) : St := { S with F := S.F.set i x }
structure Ok (S : St) : Prop where
  room : S.room ≤ 4194304
  byte : ∀ x ∈ S.F, (∀ y ∈ x.1, y < 256) ∧ x.2 ≤ x.1.length ∧ x.1.length ≤ 4194304
  now : ∀ p ∈ S.now, p.2 < S.F.length
  last : ∀ p ∈ S.last, p.2 < S.F.length
  pend : ∀ c ∈ S.pend, ∀ i, c.2.2 = some i → i < S.F.length
  eq : S.now = S.after S.pend.length
  len : ∀ k, k ≤ S.pend.length → (S.after k).length ≤ 150
  names : S.pend.length ≤ S.calls
  short : ∀ c ∈ S.pend, c.1.length ≤ 100000 ∧ c.2.1.length ≤ 100000
  nl : (∀ p ∈ S.now, p.1.length ≤ 100000) ∧ ∀ p ∈ S.last, p.1.length ≤ 100000
end St
def beg (S : St) : St × Bool := match S.fail with
  | none => ({ S with calls := S.calls + 1 }, false)
  | some 0 => ({ S with calls := S.calls + 1, fail := none }, true)
  | some (k + 1) => ({ S with calls := S.calls + 1, fail := some k }, false)
def okc (c : UInt8) : Bool := (decide (97 ≤ c.toNat) && decide (c.toNat ≤ 122)) || (decide (65 ≤ c.toNat) && decide (c.toNat ≤ 90)) || (decide (48 ≤ c.toNat) && decide (c.toNat ≤ 57)) || decide (c.toNat = 46)
def isNm (n : Nm) : Bool := decide (1 ≤ n.length) && decide (n.length ≤ 20) && n.all okc
def clampN (n : Int) : Nat := (max 0 (min n 4194304)).toNat
def new (n : Int) : St := ⟨clampN n, [], [], [], [], 0, none⟩
def withB (S : St) (f : St → St × Nat) : St × Nat := if (beg S).2 then ((beg S).1, 5) else f (beg S).1
def withF (S : St) (n : Nm) (f : St → Nat → St × Nat) : St × Nat := withB S fun T => match dget T.now n with
  | none => (T, 3)
  | some i => f T i
def create (S : St) (n : Nm) : St × Nat := withB S fun T =>
  if isNm n = false then (T, 10) else if (dget T.now n).isNone && decide (150 ≤ T.now.length) then (T, 4)
  else (St.chg { T with F := T.F ++ [([], 0)] } ([], n, some T.F.length), 0)
def append (S : St) (n : Nm) (B : List Nat) : St × Nat := withF S n fun T i =>
  if T.used + B.length > T.room then (T, 4) else (T.put i ((T.file i).1 ++ B, (T.file i).2), 0)
def sync (S : St) (n : Nm) : St × Nat := withF S n fun T i => (T.put i ((T.file i).1, (T.file i).1.length), 0)
def syncDir (S : St) : St × Nat := withB S fun T => ({ T with last := T.now, pend := [] }, 0)
def rename (S : St) (a b : Nm) : St × Nat := withF S a fun T i => if isNm b = false then (T, 10) else (T.chg (a, b, some i), 0)
def remove (S : St) (a : Nm) : St × Nat := withF S a fun T i => (T.chg (a, [], none), 0)
def readF (S : St) (n : Nm) : Option (List Nat) := (dget S.now n).map fun i => (S.file i).1
def tornF (f : List Nat × Nat) (tail : Int) : List Nat × Nat := (f.1.take (f.2 + (max 0 (min tail (f.1.length - f.2 : Nat))).toNat), f.2 + (max 0 (min tail (f.1.length - f.2 : Nat))).toNat)
def crashN (S : St) (n : Int) : Nat := (max 0 (min n S.pend.length)).toNat
def crash (S : St) (n : Int) (tails : List Int) : St :=
  { room := S.room, F := (S.after (crashN S n)).mapIdx fun k p => tornF (S.file p.2) (tails.getD k 0),
    now := (S.after (crashN S n)).mapIdx fun k p => (p.1, k), last := (S.after (crashN S n)).mapIdx fun k p => (p.1, k), pend := [], calls := 0, fail := none }
theorem ok_new (n : Int) : (new n).Ok where
  room := by simp only [new, clampN]; omega
  byte := by simp [new]
  now := by simp [new]
  last := by simp [new]
  pend := by simp [new]
  eq := rfl
  len := by intro k hk; simp [new] at hk; subst hk; simp [new, St.after]
  names := by simp [new]
  short := by simp [new]
  nl := by simp [new]
theorem ok_calls {S : St} (h : S.Ok) (c : Nat) (f : Option Nat) (hc : S.calls ≤ c) : St.Ok { S with calls := c, fail := f } :=
  ⟨h.room, h.byte, h.now, h.last, h.pend, h.eq, h.len, Nat.le_trans h.names hc, h.short, h.nl⟩
theorem beg_ok {S : St} (h : S.Ok) : (beg S).1.Ok := by
  unfold beg
  split <;> exact ok_calls h _ _ (by omega)
theorem app1_mem {L : Dir} {c : Chg} {n : Nat} (hL : ∀ p ∈ L, p.2 < n) (hc : ∀ i, c.2.2 = some i → i < n) : ∀ p ∈ app1 L c, p.2 < n := by
  intro p hp
  unfold app1 at hp
  split at hp
  · rename_i i hi
    rcases dins_mem hp with rfl | hp
    · exact hc i hi
    · exact hL p (ddel_mem (ddel_mem hp))
  · exact hL p (ddel_mem hp)
theorem app1_names {L : Dir} {c : Chg} {m : Nat} (hL : ∀ p ∈ L, p.1.length ≤ m) (hc : c.2.1.length ≤ m) : ∀ p ∈ app1 L c, p.1.length ≤ m := by
  intro p hp
  unfold app1 at hp
  split at hp
  · rcases dins_mem hp with rfl | hp
    · exact hc
    · exact hL p (ddel_mem (ddel_mem hp))
  · exact hL p (ddel_mem hp)
theorem after_snoc (S : St) (c : Chg) (k : Nat) (hk : k ≤ S.pend.length) : (S.chg c).after k = S.after k := by
  unfold St.after St.chg
  rw [List.take_append_of_le_length hk]
theorem after_last (S : St) (c : Chg) (h : S.Ok) : (S.chg c).after (S.chg c).pend.length = app1 S.now c := by
  unfold St.after
  rw [List.take_length]
  simp only [St.chg, List.foldl_append, List.foldl_cons, List.foldl_nil]
  rw [h.eq, St.after, List.take_length]
theorem chg_ok {S : St} (h : S.Ok) {c : Chg} (hc : ∀ i, c.2.2 = some i → i < S.F.length) (hl : (app1 S.now c).length ≤ 150) (hn : S.pend.length + 1 ≤ S.calls) (hs : c.1.length ≤ 100000 ∧ c.2.1.length ≤ 100000) : (S.chg c).Ok where
  room := h.room
  byte := h.byte
  now := app1_mem h.now hc
  last := h.last
  pend := by
    intro d hd
    rcases List.mem_append.1 hd with hd | hd
    · exact h.pend d hd
    · simp at hd; subst hd; exact hc
  eq := (after_last S c h).symm
  len := by
    intro k hk
    have hk' : k ≤ S.pend.length + 1 := by simpa [St.chg] using hk
    by_cases e : k ≤ S.pend.length
    · rw [after_snoc S c k e]; exact h.len k e
    · have : k = (S.chg c).pend.length := by simp [St.chg]; omega
      rw [this, after_last S c h]; exact hl
  names := by simpa [St.chg] using hn
  short := by
    intro d hd
    rcases List.mem_append.1 hd with hd | hd
    · exact h.short d hd
    · simp at hd; subst hd; exact hs
  nl := ⟨app1_names h.nl.1 hs.2, h.nl.2⟩
theorem now_le {S : St} (h : S.Ok) : S.now.length ≤ 150 := by rw [h.eq]; exact h.len _ (Nat.le_refl _)
theorem put_ok {S : St} (h : S.Ok) {i : Nat} {x : List Nat × Nat} (hx : (∀ y ∈ x.1, y < 256) ∧ x.2 ≤ x.1.length ∧ x.1.length ≤ 4194304) : (S.put i x).Ok where
  room := h.room
  byte := by
    intro y hy
    rcases List.mem_or_eq_of_mem_set hy with hy | rfl
    · exact h.byte y hy
    · exact hx
  now := by intro p hp; simpa [St.put] using h.now p hp
  last := by intro p hp; simpa [St.put] using h.last p hp
  pend := by intro c hc i hi; simpa [St.put] using h.pend c hc i hi
  eq := h.eq
  len := h.len
  names := h.names
  short := h.short
  nl := h.nl
theorem more_ok {S : St} (h : S.Ok) : St.Ok { S with F := S.F ++ [([], 0)] } where
  room := h.room
  byte := by
    intro y hy
    rcases List.mem_append.1 hy with hy | hy
    · exact h.byte y hy
    · simp at hy; subst hy; simp
  now := by intro p hp; have := h.now p hp; simp; omega
  last := by intro p hp; have := h.last p hp; simp; omega
  pend := by intro c hc i hi; have := h.pend c hc i hi; simp; omega
  eq := h.eq
  len := h.len
  names := h.names
  short := h.short
  nl := h.nl
theorem file_ok {S : St} (h : S.Ok) (i : Nat) : (∀ y ∈ (S.file i).1, y < 256) ∧ (S.file i).2 ≤ (S.file i).1.length ∧ (S.file i).1.length ≤ 4194304 := by
  unfold St.file
  by_cases hi : i < S.F.length
  · rw [List.getD_eq_getElem?_getD, List.getElem?_eq_getElem hi]
    exact h.byte _ (List.getElem_mem hi)
  · rw [List.getD_eq_getElem?_getD, List.getElem?_eq_none (by omega)]; simp
theorem sum_le : ∀ (l : List Nat) (m : Nat), (∀ x ∈ l, x ≤ m) → l.sum ≤ l.length * m
  | [], _, _ => by simp
  | a :: r, m, h => by
    have h1 := h a (by simp)
    have h2 := sum_le r m fun x hx => h x (by simp [hx])
    simp only [List.sum_cons, List.length_cons, Nat.succ_mul]
    omega
theorem mem_le_sum : ∀ (l : List Nat) (x : Nat), x ∈ l → x ≤ l.sum
  | [], _, h => by simp at h
  | a :: r, x, h => by
    simp only [List.sum_cons]
    rcases List.mem_cons.1 h with rfl | h
    · omega
    · have := mem_le_sum r x h
      omega
theorem used_le {S : St} (h : S.Ok) : S.used ≤ 629145600 := by
  have h1 := sum_le (S.now.map fun p => (S.file p.2).1.length) 4194304 (by
    intro x hx
    obtain ⟨p, _, rfl⟩ := List.mem_map.1 hx
    exact (file_ok h p.2).2.2)
  have h2 := now_le h
  rw [List.length_map] at h1
  have h3 : S.now.length * 4194304 ≤ 150 * 4194304 := Nat.mul_le_mul_right _ h2
  exact Nat.le_trans h1 h3
end Dk
end Go.Proofs.YthgpdnffahmhjaaGreatDoor.S13

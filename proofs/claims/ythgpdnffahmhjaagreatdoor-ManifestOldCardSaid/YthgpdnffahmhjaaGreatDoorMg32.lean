/- Texts put together: MaP, MaM, MaC, MaR. -/
import Derived.Test.YthgpdnffahmhjaaGreatDoorMg2
import Derived.Test.YthgpdnffahmhjaaGreatDoorMg17
import Derived.Test.YthgpdnffahmhjaaGreatDoorMg18
import Derived.Sort.KeysCollected
import Derived.Maps.Ext
import Derived.Lib.SlMapMerge
import Derived.Lib.SlKeysI
import Derived.Test.YthgpdnffahmhjaaGreatDoorMaL
import Derived.Maps.OwnSet
import Derived.Maps.RangeWalk
set_option linter.unusedSimpArgs false
set_option linter.unusedVariables false
set_option maxRecDepth 100000
namespace Go.Proofs.YthgpdnffahmhjaaGreatDoor.S19
open Go Go.Maps Go.WideShapes S18
section
variable {α β : Type} (key : α → Int) (f : β → α) (val : α → Value)
def kins (x : α) : List α → List α
  | [] => [x]
  | y :: r => if key x < key y then x :: y :: r else y :: kins x r
def kdel (L : List α) (k : Int) : List α := L.filter fun y => !decide (key y = k)
def kput (L : List α) (x : α) : List α := kins key x (kdel key L (key x))
def kget (L : List α) (k : Int) : Option α := L.find? fun y => decide (key y = k)
def KS (L : List α) : Prop := L.Pairwise fun p q => key p < key q
theorem kins_map (x : β) : ∀ L : List β, (kins (fun y => key (f y)) x L).map f = kins key (f x) (L.map f)
  | [] => rfl
  | y :: r => by
    simp only [kins, List.map_cons]
    split
    · rfl
    · simp [kins_map x r]
theorem kdel_map (L : List β) (k : Int) : (kdel (fun y => key (f y)) L k).map f = kdel key (L.map f) k := by
  simp only [kdel, List.filter_map]; rfl
theorem kput_map (L : List β) (x : β) : (kput (fun y => key (f y)) L x).map f = kput key (L.map f) (f x) := by
  simp only [kput, kins_map, kdel_map]
theorem kget_map (L : List β) (k : Int) : (kget (fun y => key (f y)) L k).map f = kget key (L.map f) k := by
  simp only [kget, List.find?_map]; rfl
theorem kins_mem {x y : α} : ∀ {L : List α}, y ∈ kins key x L → y = x ∨ y ∈ L
  | [], h => by simp [kins] at h; exact .inl h
  | z :: r, h => by
    unfold kins at h
    split at h
    · simpa using h
    · rcases List.mem_cons.1 h with rfl | h
      · exact .inr (by simp)
      · rcases kins_mem h with rfl | h
        · exact .inl rfl
        · exact .inr (by simp [h])
theorem kins_length (x : α) : ∀ L : List α, (kins key x L).length = L.length + 1
  | [] => rfl
  | z :: r => by
    unfold kins
    split
    · rfl
    · simp [kins_length x r]
theorem kdel_mem {L : List α} {k : Int} {y : α} (h : y ∈ kdel key L k) : y ∈ L := (List.mem_filter.1 h).1
theorem kdel_length (L : List α) (k : Int) : (kdel key L k).length ≤ L.length := List.length_filter_le _ _
theorem kput_length (L : List α) (x : α) : (kput key L x).length ≤ L.length + 1 := by
  unfold kput
  rw [kins_length]
  have := kdel_length key L (key x)
  omega
theorem kput_mem {L : List α} {x y : α} (h : y ∈ kput key L x) : y = x ∨ y ∈ L := (kins_mem key h).imp id (kdel_mem key)
theorem kget_mem {L : List α} {k : Int} {x : α} (h : kget key L k = some x) : x ∈ L ∧ key x = k := ⟨List.mem_of_find?_eq_some h, by simpa using List.find?_some h⟩
theorem kdel_none {L : List α} {k : Int} (h : kget key L k = none) : kdel key L k = L := by
  refine List.filter_eq_self.2 fun p hp => ?_
  have := List.find?_eq_none.1 h p hp
  simpa using this
def ent (p : α) : Lit × DataW Value := (.int .i64 (key p), .held (val p))
def mD (L : List α) : DataW Value := .map (L.map (ent key val))
theorem mD_nil : mD key val [] = .map [] := rfl
theorem mD_size (L : List α) : Maps.size (mD key val L) = L.length := by simp [Maps.size, mD]
theorem mD_keys (L : List α) : intKeys (mD key val L) = L.map key := by
  simp only [intKeys, mD, List.map_map]
  exact List.map_congr_left fun p _ => rfl
theorem mD_ins (x : α) : ∀ L : List α, (kins key x L).map (ent key val) = DataW.insert (ent key val x) (L.map (ent key val))
  | [] => rfl
  | y :: r => by
    unfold kins
    by_cases h : key x < key y
    · have h' : (ent key val x).1.before (ent key val y).1 = true := by simp [ent, Lit.before, h]
      simp [h, DataW.insert, h']
    · have h' : ¬ (ent key val x).1.before (ent key val y).1 = true := by simp [ent, Lit.before, h]
      simp [h, DataW.insert, h', mD_ins x r]
theorem same_int (x : α) (k : Int) : (ent key val x).1.sameKey (.int .i64 k) = decide (key x = k) := by simp [ent, Lit.sameKey]
theorem mD_filter (k : Int) (L : List α) : (kdel key L k).map (ent key val) = (L.map (ent key val)).filter fun p => !p.1.sameKey (.int .i64 k) := by
  rw [List.filter_map]
  have : ((fun p : Lit × DataW Value => !p.1.sameKey (.int .i64 k)) ∘ ent key val) = fun y => !decide (key y = k) := by
    funext y
    simp only [Function.comp, same_int]
  rw [this]; rfl
theorem mD_del (L : List α) (k : Int) : mD key val (kdel key L k) = (mD key val L).del (.int .i64 k) := by
  simp only [mD, DataW.del, mD_filter]
theorem mD_put (L : List α) (x : α) : mD key val (kput key L x) = (mD key val L).put (.int .i64 (key x)) (.held (val x)) := by
  simp only [mD, DataW.put, kput, mD_ins, mD_filter]; rfl
theorem mD_get (L : List α) (k : Int) (z : DataW Value) : (mD key val L).atKey (.int .i64 k) z = match kget key L k with | some x => .held (val x) | none => z := by
  simp only [mD, DataW.atKey, kget, List.find?_map]
  have : ((fun p : Lit × DataW Value => p.1.sameKey (.int .i64 k)) ∘ ent key val) = fun y => decide (key y = k) := by
    funext y
    simp only [Function.comp, same_int]
  rw [this]
  cases L.find? fun y => decide (key y = k) <;> rfl
theorem mD_has (L : List α) (k : Int) : Maps.has (mD key val L) (.int .i64 k) = (kget key L k).isSome := by
  simp only [mD, Maps.has, kget, List.any_map, List.isSome_find?]
  have : ((fun p : Lit × DataW Value => p.1.sameKey (.int .i64 k)) ∘ ent key val) = fun y => decide (key y = k) := by
    funext y
    simp only [Function.comp, same_int]
  rw [this]
theorem ks_of_canon {L : List α} (h : Canon (mD key val L)) : KS key L := by
  obtain ⟨es, he, hp, _⟩ := h
  simp only [mD, DataW.map.injEq] at he
  rw [← he, List.pairwise_map] at hp
  exact hp.imp fun {a b} h => by simpa [ent, Lit.before] using h
theorem ks_sorted {L : List α} (h : KS key L) {ss : List Int} (hp : ss.Perm (L.map key)) : ss.mergeSort (fun x y => decide (x ≤ y)) = L.map key := by
  have e : ss.mergeSort (fun x y => decide (x ≤ y)) = (L.map key).mergeSort (fun x y => decide (x ≤ y)) := mergeSort_of_perm_i hp
  rw [e]
  refine List.mergeSort_of_pairwise ?_
  rw [List.pairwise_map]
  exact h.imp fun {p q} hpq => by simp only [decide_eq_true_eq]; omega
theorem ks_get {L : List α} (h : KS key L) {x : α} (hx : x ∈ L) : kget key L (key x) = some x := by
  induction L with
  | nil => simp at hx
  | cons a r ih =>
    obtain ⟨ha, hr⟩ := List.pairwise_cons.1 h
    unfold kget
    rcases List.mem_cons.1 hx with rfl | hx
    · simp
    · have h1 := ha x hx
      rw [List.find?_cons_of_neg (by simp; omega)]
      exact ih hr hx
theorem kdel_ks {L : List α} (h : KS key L) (k : Int) : KS key (kdel key L k) := List.Pairwise.filter _ h
theorem kins_ks {x : α} : ∀ {L : List α}, KS key L → (∀ y ∈ L, key y ≠ key x) → KS key (kins key x L)
  | [], _, _ => by simp [kins, KS]
  | y :: r, h, hne => by
    obtain ⟨ha, hr⟩ := List.pairwise_cons.1 h
    unfold kins
    split
    · rename_i hlt
      refine List.pairwise_cons.2 ⟨fun z hz => ?_, h⟩
      rcases List.mem_cons.1 hz with rfl | hz
      · exact hlt
      · have := ha z hz
        omega
    · rename_i hlt
      have hy := hne y (by simp)
      refine List.pairwise_cons.2 ⟨fun z hz => ?_, kins_ks hr fun z hz => hne z (by simp [hz])⟩
      rcases kins_mem key hz with rfl | hz
      · omega
      · exact ha z hz
theorem kput_ks {L : List α} (h : KS key L) (x : α) : KS key (kput key L x) :=
  kins_ks key (kdel_ks key h _) fun y hy => by
    have := (List.mem_filter.1 hy).2
    simpa using this
def remK (L : List α) : List Int → Option (List α)
  | [] => some L
  | n :: r => if (kget key L n).isSome then remK (kdel key L n) r else none
def addK (lim : Int) (L : List α) : List α → Option (List α)
  | [] => if L.length ≤ 60 then some L else none
  | x :: r => if lim ≤ key x ∨ (kget key L (key x)).isSome then none else addK lim (kput key L x) r
theorem remK_map (L : List β) : ∀ ns, (remK (fun y => key (f y)) L ns).map (fun L => L.map f) = remK key (L.map f) ns
  | [] => rfl
  | n :: r => by
    simp only [remK, ← kget_map, Option.isSome_map]
    split
    · rw [remK_map, kdel_map]
    · rfl
theorem remK_mem {L L' : List α} : ∀ {ns}, remK key L ns = some L' → ∀ x ∈ L', x ∈ L
  | [], h, x, hx => by simp [remK] at h; rw [h]; exact hx
  | n :: r, h, x, hx => by
    simp only [remK] at h
    split at h
    · exact kdel_mem key (remK_mem h x hx)
    · cases h
theorem remK_ks {L L' : List α} (hL : KS key L) : ∀ {ns}, remK key L ns = some L' → KS key L'
  | [], h => by simp [remK] at h; rw [← h]; exact hL
  | n :: r, h => by
    simp only [remK] at h
    split at h
    · exact remK_ks (kdel_ks key hL n) h
    · cases h
theorem remK_len {L L' : List α} : ∀ {ns}, remK key L ns = some L' → L'.length ≤ L.length
  | [], h => by simp [remK] at h; rw [← h]; exact Nat.le_refl _
  | n :: r, h => by
    simp only [remK] at h
    split at h
    · exact Nat.le_trans (remK_len h) (kdel_length key L n)
    · cases h
theorem addK_mem {lim : Int} {L L' : List α} : ∀ {xs}, addK key lim L xs = some L' → ∀ x ∈ L', x ∈ L ∨ x ∈ xs
  | [], h, x, hx => by
    simp only [addK] at h
    split at h
    · cases h; exact .inl hx
    · cases h
  | y :: r, h, x, hx => by
    simp only [addK] at h
    split at h
    · cases h
    · rcases addK_mem h x hx with h1 | h1
      · rcases kput_mem key h1 with rfl | h1
        · exact .inr (by simp)
        · exact .inl h1
      · exact .inr (by simp [h1])
theorem addK_ks {lim : Int} {L L' : List α} (hL : KS key L) : ∀ {xs}, addK key lim L xs = some L' → KS key L'
  | [], h => by
    simp only [addK] at h
    split at h
    · cases h; exact hL
    · cases h
  | y :: r, h => by
    simp only [addK] at h
    split at h
    · cases h
    · exact addK_ks (kput_ks key hL y) h
theorem addK_len {lim : Int} {L L' : List α} : ∀ {xs}, addK key lim L xs = some L' → L'.length ≤ 60
  | [], h => by
    simp only [addK] at h
    split at h
    · cases h; assumption
    · cases h
  | y :: r, h => by
    simp only [addK] at h
    split at h
    · cases h
    · exact addK_len h
end
structure MS where
  next : Int
  seq : Int
  segs : List SG
  pars : List PT
def z0 : MS := ⟨0, 0, [], []⟩
def upC (c to : Int) : Int := if to = 0 then c else to
def upOk (c to : Int) : Bool := decide (to = 0) || decide (c ≤ to)
def protB (segs : List SG) (P : List PT) : Bool := P.all fun p => p.nums.all fun n => match kget SG.num segs n with
  | some s => s.sealed
  | none => false
def applyM (s : MS) (e : ED) (first : Bool) : Option MS :=
  if upOk s.next e.next = false ∨ upOk s.seq e.seq = false then none else
  match remK SG.num s.segs e.dels, remK PT.group s.pars e.drops with
  | some A, some B => match addK SG.num (upC s.next e.next) A e.adds, addK PT.group (upC s.next e.next) B e.pars with
    | some A', some B' => if first || protB A' e.pars then some ⟨upC s.next e.next, upC s.seq e.seq, A', B'⟩ else none
    | _, _ => none
  | _, _ => none
def applyA (s : MS) (first : Bool) : List ED → Option MS
  | [] => some s
  | e :: r => match applyM s e first with
    | some s' => applyA s' false r
    | none => none
def wholeM (s : MS) : ED := ⟨s.next, s.seq, s.segs, [], s.pars, []⟩
structure MOk (s : MS) : Prop where
  next : inB 0 1125899906842624 s.next = true
  seq : inB 0 1125899906842624 s.seq = true
  segs : ∀ x ∈ s.segs, segB x = true ∧ sumW x.sum
  pars : ∀ x ∈ s.pars, parB x = true ∧ sumW x.sum
  sl : s.segs.length ≤ 60
  pl : s.pars.length ≤ 60
  ss : KS SG.num s.segs
  ps : KS PT.group s.pars
theorem mok_z0 : MOk z0 := ⟨rfl, rfl, by simp [z0], by simp [z0], by simp [z0], by simp [z0], by simp [z0, KS], by simp [z0, KS]⟩
theorem upC_in {c to : Int} (hc : inB 0 1125899906842624 c = true) (ht : inB 0 1125899906842624 to = true) : inB 0 1125899906842624 (upC c to) = true := by
  unfold upC
  split <;> assumption
theorem applyM_ok {s s' : MS} {e : ED} {first : Bool} (hs : MOk s) (he : edB e = true) (hw : EdW e) (h : applyM s e first = some s') : MOk s' := by
  rw [edB_iff] at he
  obtain ⟨h1, h2, h3, h4, h5, h6⟩ := he
  rw [allB_iff] at h3 h5
  unfold applyM at h
  split at h
  · cases h
  split at h
  · rename_i A B hA hB
    split at h
    · rename_i A' B' hA' hB'
      split at h
      · cases h
        refine ⟨upC_in hs.next h1, upC_in hs.seq h2, fun x hx => ?_, fun x hx => ?_, addK_len _ hA', addK_len _ hB', addK_ks _ (remK_ks _ hs.ss hA) hA', addK_ks _ (remK_ks _ hs.ps hB) hB'⟩
        · rcases addK_mem _ hA' x hx with hx | hx
          · exact hs.segs x (remK_mem _ hA x hx)
          · exact ⟨h3.2 x hx, hw.1 x hx⟩
        · rcases addK_mem _ hB' x hx with hx | hx
          · exact hs.pars x (remK_mem _ hB x hx)
          · exact ⟨h5.2 x hx, hw.2 x hx⟩
      · cases h
    · cases h
  · cases h
theorem whole_ok {s : MS} (hs : MOk s) : edB (wholeM s) = true ∧ EdW (wholeM s) := by
  refine ⟨?_, fun x hx => (hs.segs x hx).2, fun x hx => (hs.pars x hx).2⟩
  rw [edB_iff]
  refine ⟨hs.next, hs.seq, ?_, rfl, ?_, rfl⟩
  · rw [allB_iff]; exact ⟨hs.sl, fun x hx => (hs.segs x hx).1⟩
  · rw [allB_iff]; exact ⟨hs.pl, fun x hx => (hs.pars x hx).1⟩
theorem num_wf {k : Int} (h : 0 ≤ k ∧ k ≤ 1125899906842624) : (Lit.int .i64 k).wf = true := by
  simp only [Lit.wf, Bool.and_eq_true, decide_eq_true_eq]
  have h1 : IntKind.i64.min = -9223372036854775808 := by decide
  have h2 : IntKind.i64.max = 9223372036854775807 := by decide
  rw [h1, h2]
  omega
end Go.Proofs.YthgpdnffahmhjaaGreatDoor.S19
namespace Go.Proofs.YthgpdnffahmhjaaGreatDoor.S19
open Go.RowKit Go.Maps Go.Shelf Go.Sort S18
def heldR (v : Value) : Option (DataW Value × List MemPlace) := some (.held v, [])
theorem lawI : Keyed Tryz.prog 2 := int_keyed Tryz.underlying2
theorem key_int {k : Int} (h : 0 ≤ k ∧ k ≤ 1125899906842624) : keyOf Tryz.prog 2 (.int .i64 k) = some (.int .i64 k) := by
  have := num_wf h
  simp [keyOf, mapKey, Tryz.underlying2, this]
section
variable {α : Type}
abbrev keyM (key : α → Int) (x : α × List Value) : Int := key x.1
def valM (x : α × List Value) : Value := .agg x.2.toArray
def MapC (key : α → Int) (w : World) (b : Nat) (M : List (α × List Value)) : Prop := w.ownsMap Tryz.prog 2 heldR b M.length (mD (keyM key) valM M)
variable {key : α → Int} {w w' : World} {b n : Nat} {M : List (α × List Value)}
theorem MapC.lt (h : MapC key w b M) : b < w.heap.size := World.ownsMap.lt h
theorem MapC.heap (h : MapC key w b M) (hk : w'.heap[b]? = w.heap[b]?) : MapC key w' b M := by
  obtain ⟨es, clock, hb, r⟩ := h
  exact ⟨es, clock, hk.trans hb, r⟩
theorem own_tightI {D : DataW Value} (h : w.ownsMap Tryz.prog 2 heldR b n D) : w.ownsMap Tryz.prog 2 heldR b (Maps.size D) D := by
  obtain ⟨es, clock, hb, F, hs, rfl⟩ := h
  exact ⟨es, clock, hb, F, by simp [Maps.size, length_sorted], rfl⟩
theorem MapC.of (h : w.ownsMap Tryz.prog 2 heldR b n (mD (keyM key) valM M)) : MapC key w b M := by
  have := own_tightI h
  rwa [mD_size] at this
theorem MapC.ks (h : MapC key w b M) : KS (keyM key) M := ks_of_canon _ _ (World.ownsMap.canon h lawI)
theorem MapC.made (key : α → Int) (w : World) : MapC key (w.alloc (.map #[] 0)) w.heap.size ([] : List (α × List Value)) := World.ownsMap_made w _ _ _
theorem MapC.below (h : MapC key w b M) (hb : Below w.heap.size w w') : MapC key w' b M := h.heap (hb.block b h.lt)
theorem MapC.not_blk (h : MapC key w b M) {g : Nat} {t : TypeId} {cs : List Value} (hk : Blk w g t cs) : g ≠ b := by
  rintro rfl
  obtain ⟨es, clock, hb, _⟩ := h
  unfold Blk at hk; rw [hk] at hb; cases hb
end
theorem sortsI (m : Nat) : AnyZI.SortsIn Tryz.prog lySortedI_ren Fence.wide m :=
  ⟨fun blk off cap ss W hH hblk hsz => callsIn_wide.2 (AnyM.slices_Sort_int lySortI blk off cap ss W hH hblk hsz),
   fun p cap W => callsIn_wide.2 (AnyM.slices_Sort_int_none lySortI p cap W)⟩
theorem zeroS (w : World) : (zeroValue 40).run Tryz.prog w = .ok (.agg #[.int .i64 0, .bool false, .int .i64 0, .int .i64 0, .int .i64 0, .int .u32 0]) w := by kernel_rfl
def valS : Option (SG × List Value) → Value
  | some x => valM x
  | none => .agg #[.int .i64 0, .bool false, .int .i64 0, .int .i64 0, .int .i64 0, .int .u32 0]
section
variable {key : SG → Int} {w w' : World} {b : Nat} {M : List (SG × List Value)}
theorem look_okS (h : MapC key w b M) {k : Int} (hk : 0 ≤ k ∧ k ≤ 1125899906842624) :
    (Instr.lookup 55 (.map (some b)) (.int .i64 k) true).run Tryz.prog w = .ok (.tuple #[valS (kget (keyM key) M k), .bool (kget (keyM key) M k).isSome]) w := by
  obtain ⟨v, ps, hr, hv⟩ := World.ownsMap.look_ok h lawI Tryz.underlying55 (zeroS w) (zd := .held (.agg #[.int .i64 0, .bool false, .int .i64 0, .int .i64 0, .int .i64 0, .int .u32 0])) (zp := []) rfl (key_int hk)
  rw [hr, mD_has]
  rw [mD_get] at hv
  unfold heldR at hv
  cases hg : kget (keyM key) M k with
  | none => rw [hg] at hv; simp at hv; rw [hv.1]; rfl
  | some x => rw [hg] at hv; simp at hv; rw [hv.1]; rfl
theorem lookS (h : MapC key w b M) {k : Int} (hk : 0 ≤ k ∧ k ≤ 1125899906842624) :
    (Instr.lookup 55 (.map (some b)) (.int .i64 k) false).run Tryz.prog w = .ok (valS (kget (keyM key) M k)) w := by
  obtain ⟨v, ps, hr, hv⟩ := World.ownsMap.lookup h lawI Tryz.underlying55 (zeroS w) (zd := .held (.agg #[.int .i64 0, .bool false, .int .i64 0, .int .i64 0, .int .i64 0, .int .u32 0])) (zp := []) rfl (key_int hk)
  rw [hr]
  rw [mD_get] at hv
  unfold heldR at hv
  cases hg : kget (keyM key) M k with
  | none => rw [hg] at hv; simp at hv; rw [hv.1]; rfl
  | some x => rw [hg] at hv; simp at hv; rw [hv.1]; rfl
theorem lenS (h : MapC key w b M) (ty : TypeId) : (Builtin.len_ #[55] ty #[.map (some b)]).run Tryz.prog w = .ok (.int .i64 (M.length : Nat)) w := by
  rw [World.ownsMap.len h Tryz.underlying55 ty, mD_size]
theorem len_nilS (w : World) (ty : TypeId) : (Builtin.len_ #[55] ty #[.map none]).run Tryz.prog w = .ok (.int .i64 0) w := Maps.len_nil Tryz.underlying55 ty
theorem storeSM (h : MapC key w b M) (x : SG) (c : List Value) (hk : 0 ≤ key x ∧ key x ≤ 1125899906842624) (hM : M.length ≤ 1000000) :
    ∃ w', (Instr.mapUpdate 55 (.map (some b)) (.int .i64 (key x)) (.agg c.toArray)).run Tryz.prog w = .ok () w' ∧ MapC key w' b (kput (keyM key) M (x, c)) ∧ w.grownBy w' (some b) := by
  obtain ⟨w', hr, h1, h2⟩ := World.ownsMap.update h lawI Tryz.underlying55 (by unfold maxLen; omega) (key_int hk) (show heldR (.agg c.toArray) = some (.held (.agg c.toArray), []) from rfl)
  refine ⟨w', hr, MapC.of (n := M.length + 1) ?_, h2⟩
  rw [mD_put]
  exact h1
theorem delSM (h : MapC key w b M) {k : Int} (hk : 0 ≤ k ∧ k ≤ 1125899906842624) :
    ∃ w', (∀ ty, (Builtin.delete_ #[55, 2] ty #[.map (some b), .int .i64 k]).run Tryz.prog w = .ok (.tuple #[]) w') ∧ MapC key w' b (kdel (keyM key) M k) ∧ w.grownBy w' (some b) := by
  obtain ⟨w', hr, h1, h2⟩ := World.ownsMap.drop h lawI Tryz.underlying55 (key_int hk) 0
  refine ⟨w', fun ty => ?_, MapC.of (n := M.length) ?_, h2.grown⟩
  · have : Builtin.delete_ #[55, 2] ty #[.map (some b), .int .i64 k] = Builtin.delete_ #[55, 2] 0 #[.map (some b), .int .i64 k] := rfl
    rw [this]; exact hr
  · rw [mD_del]
    exact h1
theorem keysS (mb : Option Nat) (W : World) : Calls Tryz.prog 66 #[.map mb] W fun e w' => e = .returned (.func (.func 99) #[] #[.pointer (some ⟨W.heap.size, 0, none⟩)]) ∧ w' = W.alloc (.cells #[.map mb] 55) :=
  (callsIn_wide (n := 5)).1 (AnyZI.keys_in lyKeysS Fence.wide 5 trivial rfl mb W)
set_option maxHeartbeats 1000000 in
theorem sortedS (w : World) (h : MapC key w b M) (hL : M.length ≤ 1000000) :
    Calls Tryz.prog 65 #[.func (.func 99) #[] #[.pointer (some ⟨w.heap.size, 0, none⟩)]] (w.alloc (.cells #[.map (some b)] 55)) fun e w' => ∃ v, e = .returned v ∧
      w'.ownsRow w.heap.size 2 1 v M.length (i64s (M.map (keyM key))) ∧ Below w.heap.size w w' := by
  have hks := h.ks
  have hown := h
  unfold MapC at hown
  have hbl := hown.lt
  have hseq : SeqGives Fence.wide 2 Tryz.prog 99 #[.pointer (some ⟨w.heap.size, 0, none⟩)] encZ (fun ss => ss.Perm (intKeys (mD (keyM key) valM M))) (Maps.size (mD (keyM key) valM M)) (w.alloc (.cells #[.map (some b)] 55)) :=
    AnyZI.keys_gives (ρ := lyKeysS_ren) { lyKeysS with } Fence.wide _ trivial rfl (by omega) w.heap.size b M.length _ _ (by simp) (by simp) (by
      obtain ⟨es, clock, hb, Ft, hs, hD⟩ := hown
      exact ⟨es, clock, (Below.heap_alloc _ _ b hbl).trans hb, Ft, hs, hD⟩)
  refine ((callsIn_wide (n := 5)).1 (AnyZI.sorted_in lySortedI Fence.wide 5 trivial trivial trivial trivial rfl (by omega) (sortsI _) (enters_of Tryz.func98 (by kernel_rfl) rfl) 99 #[.pointer (some ⟨w.heap.size, 0, none⟩)] trivial (enters_of Tryz.func99 (by kernel_rfl) rfl) _ _ (by rw [mD_size]; unfold maxLen; omega) (by rw [mD_size]; omega) _ hseq)).mono ?_
  rintro e w' ⟨v, ss, rfl, hS, hrow, hnil, hb⟩
  rw [mD_keys] at hS
  have hl : ss.length = M.length := by rw [hS.length_eq, List.length_map]
  rw [ks_sorted _ hks hS, hl] at hrow
  exact ⟨v, rfl, ownsRow_base_a hrow (by simp), ((Below.refl _ w).alloc (Nat.le_refl _) _).trans (hb.mono (by simp))⟩
set_option maxHeartbeats 1000000 in
theorem sorted_nilS (w : World) :
    Calls Tryz.prog 65 #[.func (.func 99) #[] #[.pointer (some ⟨w.heap.size, 0, none⟩)]] (w.alloc (.cells #[.map none] 55)) fun e w' => ∃ v, e = .returned v ∧
      w'.ownsRow w.heap.size 2 1 v 0 [] ∧ Below w.heap.size w w' := by
  have hseq : SeqGives Fence.wide 2 Tryz.prog 99 #[.pointer (some ⟨w.heap.size, 0, none⟩)] encZ (fun ss : List Int => ss = []) 0 (w.alloc (.cells #[.map none] 55)) :=
    AnyZI.keys_gives_nil (ρ := lyKeysS_ren) { lyKeysS with } Fence.wide _ trivial rfl w.heap.size _ (by simp) (by simp)
  refine ((callsIn_wide (n := 5)).1 (AnyZI.sorted_in lySortedI Fence.wide 5 trivial trivial trivial trivial rfl (by omega) (sortsI _) (enters_of Tryz.func98 (by kernel_rfl) rfl) 99 #[.pointer (some ⟨w.heap.size, 0, none⟩)] trivial (enters_of Tryz.func99 (by kernel_rfl) rfl) _ 0 (Nat.zero_le _) (by omega) _ hseq)).mono ?_
  rintro e w' ⟨v, ss, rfl, hS, hrow, hnil, hb⟩
  subst hS
  rw [List.mergeSort_nil] at hrow
  exact ⟨v, rfl, ownsRow_base_a hrow (by simp), ((Below.refl _ w).alloc (Nat.le_refl _) _).trans (hb.mono (by simp))⟩
end
theorem zeroP (w : World) : (zeroValue 95).run Tryz.prog w = .ok (.agg #[.int .i64 0, .slice none 0 0, .slice none 0 0, .int .i64 0, .int .u32 0]) w := by kernel_rfl
def valP : Option (PT × List Value) → Value
  | some x => valM x
  | none => .agg #[.int .i64 0, .slice none 0 0, .slice none 0 0, .int .i64 0, .int .u32 0]
section
variable {key : PT → Int} {w w' : World} {b : Nat} {M : List (PT × List Value)}
theorem look_okP (h : MapC key w b M) {k : Int} (hk : 0 ≤ k ∧ k ≤ 1125899906842624) :
    (Instr.lookup 56 (.map (some b)) (.int .i64 k) true).run Tryz.prog w = .ok (.tuple #[valP (kget (keyM key) M k), .bool (kget (keyM key) M k).isSome]) w := by
  obtain ⟨v, ps, hr, hv⟩ := World.ownsMap.look_ok h lawI Tryz.underlying56 (zeroP w) (zd := .held (.agg #[.int .i64 0, .slice none 0 0, .slice none 0 0, .int .i64 0, .int .u32 0])) (zp := []) rfl (key_int hk)
  rw [hr, mD_has]
  rw [mD_get] at hv
  unfold heldR at hv
  cases hg : kget (keyM key) M k with
  | none => rw [hg] at hv; simp at hv; rw [hv.1]; rfl
  | some x => rw [hg] at hv; simp at hv; rw [hv.1]; rfl
theorem lookP (h : MapC key w b M) {k : Int} (hk : 0 ≤ k ∧ k ≤ 1125899906842624) :
    (Instr.lookup 56 (.map (some b)) (.int .i64 k) false).run Tryz.prog w = .ok (valP (kget (keyM key) M k)) w := by
  obtain ⟨v, ps, hr, hv⟩ := World.ownsMap.lookup h lawI Tryz.underlying56 (zeroP w) (zd := .held (.agg #[.int .i64 0, .slice none 0 0, .slice none 0 0, .int .i64 0, .int .u32 0])) (zp := []) rfl (key_int hk)
  rw [hr]
  rw [mD_get] at hv
  unfold heldR at hv
  cases hg : kget (keyM key) M k with
  | none => rw [hg] at hv; simp at hv; rw [hv.1]; rfl
  | some x => rw [hg] at hv; simp at hv; rw [hv.1]; rfl
theorem lenP (h : MapC key w b M) (ty : TypeId) : (Builtin.len_ #[56] ty #[.map (some b)]).run Tryz.prog w = .ok (.int .i64 (M.length : Nat)) w := by
  rw [World.ownsMap.len h Tryz.underlying56 ty, mD_size]
theorem len_nilP (w : World) (ty : TypeId) : (Builtin.len_ #[56] ty #[.map none]).run Tryz.prog w = .ok (.int .i64 0) w := Maps.len_nil Tryz.underlying56 ty
theorem storePM (h : MapC key w b M) (x : PT) (c : List Value) (hk : 0 ≤ key x ∧ key x ≤ 1125899906842624) (hM : M.length ≤ 1000000) :
    ∃ w', (Instr.mapUpdate 56 (.map (some b)) (.int .i64 (key x)) (.agg c.toArray)).run Tryz.prog w = .ok () w' ∧ MapC key w' b (kput (keyM key) M (x, c)) ∧ w.grownBy w' (some b) := by
  obtain ⟨w', hr, h1, h2⟩ := World.ownsMap.update h lawI Tryz.underlying56 (by unfold maxLen; omega) (key_int hk) (show heldR (.agg c.toArray) = some (.held (.agg c.toArray), []) from rfl)
  refine ⟨w', hr, MapC.of (n := M.length + 1) ?_, h2⟩
  rw [mD_put]
  exact h1
theorem delPM (h : MapC key w b M) {k : Int} (hk : 0 ≤ k ∧ k ≤ 1125899906842624) :
    ∃ w', (∀ ty, (Builtin.delete_ #[56, 2] ty #[.map (some b), .int .i64 k]).run Tryz.prog w = .ok (.tuple #[]) w') ∧ MapC key w' b (kdel (keyM key) M k) ∧ w.grownBy w' (some b) := by
  obtain ⟨w', hr, h1, h2⟩ := World.ownsMap.drop h lawI Tryz.underlying56 (key_int hk) 0
  refine ⟨w', fun ty => ?_, MapC.of (n := M.length) ?_, h2.grown⟩
  · have : Builtin.delete_ #[56, 2] ty #[.map (some b), .int .i64 k] = Builtin.delete_ #[56, 2] 0 #[.map (some b), .int .i64 k] := rfl
    rw [this]; exact hr
  · rw [mD_del]
    exact h1
theorem keysP (mb : Option Nat) (W : World) : Calls Tryz.prog 123 #[.map mb] W fun e w' => e = .returned (.func (.func 150) #[] #[.pointer (some ⟨W.heap.size, 0, none⟩)]) ∧ w' = W.alloc (.cells #[.map mb] 56) :=
  (callsIn_wide (n := 5)).1 (AnyZI.keys_in lyKeysP Fence.wide 5 trivial rfl mb W)
set_option maxHeartbeats 1000000 in
theorem sortedP (w : World) (h : MapC key w b M) (hL : M.length ≤ 1000000) :
    Calls Tryz.prog 65 #[.func (.func 150) #[] #[.pointer (some ⟨w.heap.size, 0, none⟩)]] (w.alloc (.cells #[.map (some b)] 56)) fun e w' => ∃ v, e = .returned v ∧
      w'.ownsRow w.heap.size 2 1 v M.length (i64s (M.map (keyM key))) ∧ Below w.heap.size w w' := by
  have hks := h.ks
  have hown := h
  unfold MapC at hown
  have hbl := hown.lt
  have hseq : SeqGives Fence.wide 2 Tryz.prog 150 #[.pointer (some ⟨w.heap.size, 0, none⟩)] encZ (fun ss => ss.Perm (intKeys (mD (keyM key) valM M))) (Maps.size (mD (keyM key) valM M)) (w.alloc (.cells #[.map (some b)] 56)) :=
    AnyZI.keys_gives (ρ := lyKeysP_ren) { lyKeysP with } Fence.wide _ trivial rfl (by omega) w.heap.size b M.length _ _ (by simp) (by simp) (by
      obtain ⟨es, clock, hb, Ft, hs, hD⟩ := hown
      exact ⟨es, clock, (Below.heap_alloc _ _ b hbl).trans hb, Ft, hs, hD⟩)
  refine ((callsIn_wide (n := 5)).1 (AnyZI.sorted_in lySortedI Fence.wide 5 trivial trivial trivial trivial rfl (by omega) (sortsI _) (enters_of Tryz.func98 (by kernel_rfl) rfl) 150 #[.pointer (some ⟨w.heap.size, 0, none⟩)] trivial (enters_of Tryz.func150 (by kernel_rfl) rfl) _ _ (by rw [mD_size]; unfold maxLen; omega) (by rw [mD_size]; omega) _ hseq)).mono ?_
  rintro e w' ⟨v, ss, rfl, hS, hrow, hnil, hb⟩
  rw [mD_keys] at hS
  have hl : ss.length = M.length := by rw [hS.length_eq, List.length_map]
  rw [ks_sorted _ hks hS, hl] at hrow
  exact ⟨v, rfl, ownsRow_base_a hrow (by simp), ((Below.refl _ w).alloc (Nat.le_refl _) _).trans (hb.mono (by simp))⟩
set_option maxHeartbeats 1000000 in
theorem sorted_nilP (w : World) :
    Calls Tryz.prog 65 #[.func (.func 150) #[] #[.pointer (some ⟨w.heap.size, 0, none⟩)]] (w.alloc (.cells #[.map none] 56)) fun e w' => ∃ v, e = .returned v ∧
      w'.ownsRow w.heap.size 2 1 v 0 [] ∧ Below w.heap.size w w' := by
  have hseq : SeqGives Fence.wide 2 Tryz.prog 150 #[.pointer (some ⟨w.heap.size, 0, none⟩)] encZ (fun ss : List Int => ss = []) 0 (w.alloc (.cells #[.map none] 56)) :=
    AnyZI.keys_gives_nil (ρ := lyKeysP_ren) { lyKeysP with } Fence.wide _ trivial rfl w.heap.size _ (by simp) (by simp)
  refine ((callsIn_wide (n := 5)).1 (AnyZI.sorted_in lySortedI Fence.wide 5 trivial trivial trivial trivial rfl (by omega) (sortsI _) (enters_of Tryz.func98 (by kernel_rfl) rfl) 150 #[.pointer (some ⟨w.heap.size, 0, none⟩)] trivial (enters_of Tryz.func150 (by kernel_rfl) rfl) _ 0 (Nat.zero_le _) (by omega) _ hseq)).mono ?_
  rintro e w' ⟨v, ss, rfl, hS, hrow, hnil, hb⟩
  subst hS
  rw [List.mergeSort_nil] at hrow
  exact ⟨v, rfl, ownsRow_base_a hrow (by simp), ((Below.refl _ w).alloc (Nat.le_refl _) _).trans (hb.mono (by simp))⟩
end
end Go.Proofs.YthgpdnffahmhjaaGreatDoor.S19
namespace Go.Proofs.YthgpdnffahmhjaaGreatDoor.S19
open Go.RowKit Go.Maps Go.Shelf Go.Sort S18
def Cels (k : Nat) (c : List Value) : Prop := c.length = k ∧ ∀ u ∈ c, u.oneCell' = true
def MCel {α : Type} (k : Nat) (M : List (α × List Value)) : Prop := ∀ x ∈ M, Cels k x.2
theorem at_key {α : Type} {key : α → Int} {M : List (α × List Value)} {kl : Lit} {k : Int} {c : Value} (hkl : kl = .int .i64 k) (h : ∀ zd, (mD (keyM key) valM M).atKey kl zd = .held c) : ∃ x ∈ M, keyM key x = k ∧ c = valM x := by
  subst hkl
  have h1 := h (.held (.bool false))
  have h2 := h (.held (.bool true))
  rw [mD_get] at h1 h2
  cases hg : kget (keyM key) M k with
  | none => rw [hg] at h1 h2; simp at h1 h2; rw [← h1] at h2; cases h2
  | some x =>
    rw [hg] at h1
    obtain ⟨hx, hk⟩ := kget_mem _ hg
    exact ⟨x, hx, hk, by simpa using h1.symm⟩
theorem putSC {W : World} {g : Nat} {t : TypeId} {cs ds : List Value} (hk : Blk W g t cs) (hc : cs.length = 6) (hd : Cels 6 ds) :
    ∃ W2, (storeS (.pointer (some ⟨g, 0, none⟩)) (.agg ds.toArray)).run Tryz.prog W = .ok () W2 ∧ Hid (Blk W2 g t ds) ∧ Hid (W.grownBy W2 (some g)) :=
  ⟨_, run_storeS hk hc hd.1 hd.2, Lib.hid (hk.setRow ds), Lib.hid ⟨rfl, rfl, rfl, by simp, fun k hk hne => setRow_other _ _ _ _ (by intro e; exact hne (by rw [e]))⟩⟩
theorem getSC {W : World} {g : Nat} {t : TypeId} {cs : List Value} (hk : Blk W g t cs) (hc : cs.length = 6) : (loadS (.pointer (some ⟨g, 0, none⟩))).run Tryz.prog W = .ok (.agg cs.toArray) W :=
  run_loadS hc fun j u hj => by rw [Nat.zero_add]; exact hk.cell hj
attribute [local go_sem ↓] loadS_eq storeS_eq
set_option maxHeartbeats 4000000 in
theorem copyS {key : SG → Int} (bd bs : Nat) (M : List (SG × List Value)) (w : World) (hd : MapC key w bd ([] : List (SG × List Value))) (hs : MapC key w bs M) (hne : bd ≠ bs) (hM : MCel 6 M) (hL : M.length ≤ 1000000) :
    Calls Tryz.prog 43 #[.map (some bd), .map (some bs)] w fun e w' => e = .returned (.tuple #[]) ∧ MapC key w' bd M ∧ w.grownBy w' (some bd) := by
  have hs' := hs
  have hd' := hd
  unfold MapC at hs hd
  rw [mD_nil] at hd
  have hbd := hd.lt
  have hbs := hs.lt
  have HM := Lib.hid hM
  have HS := Lib.hid hs'
  clear hM hs' hd'
  go_enter Tryz.func43, Tryz.ntmps43
  go_wp2_with (at_range; refine wpList_range_own _ rfl _ 55 rfl 2 40 lawI Tryz.underlying55 heldR bs M.length _ rfl hs ?_; intro w0 hrg0 hg0 hs0)
  go_frame
  go_loopw [8] (fun _ wr => ∃ (left : Lit → Bool) (cnt : Nat) (Dout : DataW Value), wr.ranges Tryz.prog 2 heldR bs w.heap.size M.length (mD (keyM key) valM M) left cnt ∧ cnt ≤ M.length ∧
      wr.ownsMap Tryz.prog 2 heldR bd (M.length - cnt) Dout ∧ Agree Dout (mD (keyM key) valM M) left ∧ w.grownBy wr (some bd))
    (fun _ wr => wr.rangeLeft bs w.heap.size)
  case atStart =>
    exact ⟨_, _, .map [], hrg0, by rw [mD_size]; exact Nat.le_refl _, (hd.kept hg0 (by simp)).mono (by simp), agree_start _, hg0.but _⟩
  case round =>
    obtain ⟨left, cnt, Dout, hrg, hcs, hout, hA, hgw⟩ := hrel
    go_wp2_with (at_next; refine wpList_next_ranges _ rfl _ rfl 2 lawI heldR (Value.int .i64) id (fun key kl hkey => by obtain ⟨x, rfl, _⟩ := Maps.keyOf_int_inv Tryz.underlying2 hkey; exact ⟨x, rfl⟩) (fun v _ _ => ⟨v, rfl⟩) bs w.heap.size M.length _ _ _ rfl hrg ?_ ?_)
    · intro hc0 hl0
      go_wp2
      go_end0
      subst hc0
      have e := agree_end hA hl0 (hout.canon lawI) (hs.canon lawI)
      subst e
      exact ⟨rfl, MapC.of hout, hgw⟩
    · intro x c kl yd yp w1 cnt1 hkey hlx hv hat hrg1 hlt hg1 hs1 hen
      have hout1 := hout.kept hg1 (fun e => by have := Option.some.inj e; omega)
      unfold heldR at hv
      simp at hv
      obtain ⟨rfl, rfl⟩ := hv
      obtain ⟨x', ex, hkl, hwx⟩ := Maps.keyOf_int_inv Tryz.underlying2 hkey
      cases ex
      obtain ⟨y, hy, hyk, hcv⟩ := at_key hkl hat
      subst hcv
      have hcel := HM.out y hy
      have hsz1 : w.heap.size < w1.heap.size := by have := hrg1.lt; omega
      obtain ⟨cs, hcs2⟩ : ∃ cs, y.2 = cs := ⟨_, rfl⟩
      unfold valM at hen hat ⊢
      rw [hcs2] at hen hcel hat ⊢
      have hk2 := Blk.new w1 40 [.int .i64 0, .bool false, .int .i64 0, .int .i64 0, .int .i64 0, .int .u32 0]
      have hga : w1.grownBy (w1.alloc (.cells #[.int .i64 0, .bool false, .int .i64 0, .int .i64 0, .int .i64 0, .int .u32 0] 40)) none := World.grownBy_alloc _ _ _
      obtain ⟨w2, hw2⟩ : ∃ w2, w1.alloc (.cells #[.int .i64 0, .bool false, .int .i64 0, .int .i64 0, .int .i64 0, .int .u32 0] 40) = w2 := ⟨_, rfl⟩
      have hk2 : Blk w2 w1.heap.size 40 [.int .i64 0, .bool false, .int .i64 0, .int .i64 0, .int .i64 0, .int .u32 0] := by rw [← hw2]; exact hk2
      rw [hw2] at hga
      obtain ⟨w3, hst, hk3, hg3⟩ := putSC hk2 rfl hcel
      have hld := getSC hk3.out hcel.1
      rw [hs1] at hst hld
      have hg13 : w1.grownBy w3 none := (hga.andThen hg3.out (fun j hj => .inl (by cases hj; exact Nat.le_refl _)))
      have hout3 := hout1.kept hg13 (by simp)
      have hrg3 := hrg1.kept hg13 (by simp) (by simp)
      obtain ⟨w4, hup, hout4, hg4⟩ := World.ownsMap.update hout3 lawI Tryz.underlying55 (by unfold maxLen; omega) hkey (show heldR (.agg cs.toArray) = some (.held (.agg cs.toArray), []) from rfl)
      have hrg4 := hrg3.kept hg4 (fun e => hne (Option.some.inj e).symm) (fun e => by have := Option.some.inj e; omega)
      have HH := Lib.hid hout4
      have HR := Lib.hid hrg4
      have HA := Lib.hid (agree_step hA hout.isMap (lawI.key hkey) hat)
      have HG : Hid (w.grownBy w4 (some bd)) := Lib.hid (((hgw.andThen hg1 (fun j hj => .inl (by cases hj; exact Nat.le_refl _))).andThen hg13 (fun j hj => by cases hj)).andThen hg4 (fun j hj => .inr hj))
      have HLT := Lib.hid hlt
      have HRG := Lib.hid hrg
      clear hout4 hrg4 hg4 hrg3 hout3 hg13 hga hg3 hk3 hk2 hout1 hrg1 hg1 hA hat hout hgw hkey hlx hcel hy hyk hwx hkl hlt hrg hcs2
      go_wp2_with fail
      go_roundw
      case rel =>
        exact ⟨_, cnt1, _, HR.out, by have := HLT.out; omega, HH.out.mono (by have := HLT.out; omega), HA.out, HG.out⟩
      case measure => rw [HR.out.left_eq, HRG.out.left_eq]; exact HLT.out
set_option maxHeartbeats 2000000 in
theorem copy_nilS (pd : Option Nat) (w : World) :
    Calls Tryz.prog 43 #[.map pd, .map none] w fun e w' => e = .returned (.tuple #[]) ∧ w' = w.alloc (.mapIter none 0 #[] 0) := by
  have hrg := run_range_nilMap (P := Tryz.prog) w 55 _ _ Tryz.underlying55
  have hnx : ∀ ty, (Instr.next (.pointer (some ⟨w.heap.size, 0, none⟩)) false ty).run Tryz.prog (w.alloc (.mapIter none 0 #[] 0)) = _ := fun ty => run_next_nilMap _ ty 0 0 #[]
  go_enter Tryz.func43, Tryz.ntmps43
  go_wp2
  refine wp_loop_rounds 1 ?_
  rw [rounds_succ]
  go_wp2
  go_end0
  exact ⟨rfl, rfl⟩
theorem putPC {W : World} {g : Nat} {t : TypeId} {cs ds : List Value} (hk : Blk W g t cs) (hc : cs.length = 5) (hd : Cels 5 ds) :
    ∃ W2, (storeP (.pointer (some ⟨g, 0, none⟩)) (.agg ds.toArray)).run Tryz.prog W = .ok () W2 ∧ Hid (Blk W2 g t ds) ∧ Hid (W.grownBy W2 (some g)) :=
  ⟨_, run_storeP hk hc hd.1 hd.2, Lib.hid (hk.setRow ds), Lib.hid ⟨rfl, rfl, rfl, by simp, fun k hk hne => setRow_other _ _ _ _ (by intro e; exact hne (by rw [e]))⟩⟩
theorem getPC {W : World} {g : Nat} {t : TypeId} {cs : List Value} (hk : Blk W g t cs) (hc : cs.length = 5) : (loadP (.pointer (some ⟨g, 0, none⟩))).run Tryz.prog W = .ok (.agg cs.toArray) W :=
  run_loadP hc fun j u hj => by rw [Nat.zero_add]; exact hk.cell hj
attribute [local go_sem ↓] loadP_eq storeP_eq
set_option maxHeartbeats 4000000 in
theorem copyP {key : PT → Int} (bd bs : Nat) (M : List (PT × List Value)) (w : World) (hd : MapC key w bd ([] : List (PT × List Value))) (hs : MapC key w bs M) (hne : bd ≠ bs) (hM : MCel 5 M) (hL : M.length ≤ 1000000) :
    Calls Tryz.prog 44 #[.map (some bd), .map (some bs)] w fun e w' => e = .returned (.tuple #[]) ∧ MapC key w' bd M ∧ w.grownBy w' (some bd) := by
  have hs' := hs
  have hd' := hd
  unfold MapC at hs hd
  rw [mD_nil] at hd
  have hbd := hd.lt
  have hbs := hs.lt
  have HM := Lib.hid hM
  have HS := Lib.hid hs'
  clear hM hs' hd'
  go_enter Tryz.func44, Tryz.ntmps44
  go_wp2_with (at_range; refine wpList_range_own _ rfl _ 56 rfl 2 95 lawI Tryz.underlying56 heldR bs M.length _ rfl hs ?_; intro w0 hrg0 hg0 hs0)
  go_frame
  go_loopw [8] (fun _ wr => ∃ (left : Lit → Bool) (cnt : Nat) (Dout : DataW Value), wr.ranges Tryz.prog 2 heldR bs w.heap.size M.length (mD (keyM key) valM M) left cnt ∧ cnt ≤ M.length ∧
      wr.ownsMap Tryz.prog 2 heldR bd (M.length - cnt) Dout ∧ Agree Dout (mD (keyM key) valM M) left ∧ w.grownBy wr (some bd))
    (fun _ wr => wr.rangeLeft bs w.heap.size)
  case atStart =>
    exact ⟨_, _, .map [], hrg0, by rw [mD_size]; exact Nat.le_refl _, (hd.kept hg0 (by simp)).mono (by simp), agree_start _, hg0.but _⟩
  case round =>
    obtain ⟨left, cnt, Dout, hrg, hcs, hout, hA, hgw⟩ := hrel
    go_wp2_with (at_next; refine wpList_next_ranges _ rfl _ rfl 2 lawI heldR (Value.int .i64) id (fun key kl hkey => by obtain ⟨x, rfl, _⟩ := Maps.keyOf_int_inv Tryz.underlying2 hkey; exact ⟨x, rfl⟩) (fun v _ _ => ⟨v, rfl⟩) bs w.heap.size M.length _ _ _ rfl hrg ?_ ?_)
    · intro hc0 hl0
      go_wp2
      go_end0
      subst hc0
      have e := agree_end hA hl0 (hout.canon lawI) (hs.canon lawI)
      subst e
      exact ⟨rfl, MapC.of hout, hgw⟩
    · intro x c kl yd yp w1 cnt1 hkey hlx hv hat hrg1 hlt hg1 hs1 hen
      have hout1 := hout.kept hg1 (fun e => by have := Option.some.inj e; omega)
      unfold heldR at hv
      simp at hv
      obtain ⟨rfl, rfl⟩ := hv
      obtain ⟨x', ex, hkl, hwx⟩ := Maps.keyOf_int_inv Tryz.underlying2 hkey
      cases ex
      obtain ⟨y, hy, hyk, hcv⟩ := at_key hkl hat
      subst hcv
      have hcel := HM.out y hy
      have hsz1 : w.heap.size < w1.heap.size := by have := hrg1.lt; omega
      obtain ⟨cs, hcs2⟩ : ∃ cs, y.2 = cs := ⟨_, rfl⟩
      unfold valM at hen hat ⊢
      rw [hcs2] at hen hcel hat ⊢
      have hk2 := Blk.new w1 95 [.int .i64 0, .slice none 0 0, .slice none 0 0, .int .i64 0, .int .u32 0]
      have hga : w1.grownBy (w1.alloc (.cells #[.int .i64 0, .slice none 0 0, .slice none 0 0, .int .i64 0, .int .u32 0] 95)) none := World.grownBy_alloc _ _ _
      obtain ⟨w2, hw2⟩ : ∃ w2, w1.alloc (.cells #[.int .i64 0, .slice none 0 0, .slice none 0 0, .int .i64 0, .int .u32 0] 95) = w2 := ⟨_, rfl⟩
      have hk2 : Blk w2 w1.heap.size 95 [.int .i64 0, .slice none 0 0, .slice none 0 0, .int .i64 0, .int .u32 0] := by rw [← hw2]; exact hk2
      rw [hw2] at hga
      obtain ⟨w3, hst, hk3, hg3⟩ := putPC hk2 rfl hcel
      have hld := getPC hk3.out hcel.1
      rw [hs1] at hst hld
      have hg13 : w1.grownBy w3 none := (hga.andThen hg3.out (fun j hj => .inl (by cases hj; exact Nat.le_refl _)))
      have hout3 := hout1.kept hg13 (by simp)
      have hrg3 := hrg1.kept hg13 (by simp) (by simp)
      obtain ⟨w4, hup, hout4, hg4⟩ := World.ownsMap.update hout3 lawI Tryz.underlying56 (by unfold maxLen; omega) hkey (show heldR (.agg cs.toArray) = some (.held (.agg cs.toArray), []) from rfl)
      have hrg4 := hrg3.kept hg4 (fun e => hne (Option.some.inj e).symm) (fun e => by have := Option.some.inj e; omega)
      have HH := Lib.hid hout4
      have HR := Lib.hid hrg4
      have HA := Lib.hid (agree_step hA hout.isMap (lawI.key hkey) hat)
      have HG : Hid (w.grownBy w4 (some bd)) := Lib.hid (((hgw.andThen hg1 (fun j hj => .inl (by cases hj; exact Nat.le_refl _))).andThen hg13 (fun j hj => by cases hj)).andThen hg4 (fun j hj => .inr hj))
      have HLT := Lib.hid hlt
      have HRG := Lib.hid hrg
      clear hout4 hrg4 hg4 hrg3 hout3 hg13 hga hg3 hk3 hk2 hout1 hrg1 hg1 hA hat hout hgw hkey hlx hcel hy hyk hwx hkl hlt hrg hcs2
      go_wp2_with fail
      go_roundw
      case rel =>
        exact ⟨_, cnt1, _, HR.out, by have := HLT.out; omega, HH.out.mono (by have := HLT.out; omega), HA.out, HG.out⟩
      case measure => rw [HR.out.left_eq, HRG.out.left_eq]; exact HLT.out
set_option maxHeartbeats 2000000 in
theorem copy_nilP (pd : Option Nat) (w : World) :
    Calls Tryz.prog 44 #[.map pd, .map none] w fun e w' => e = .returned (.tuple #[]) ∧ w' = w.alloc (.mapIter none 0 #[] 0) := by
  have hrg := run_range_nilMap (P := Tryz.prog) w 56 _ _ Tryz.underlying56
  have hnx : ∀ ty, (Instr.next (.pointer (some ⟨w.heap.size, 0, none⟩)) false ty).run Tryz.prog (w.alloc (.mapIter none 0 #[] 0)) = _ := fun ty => run_next_nilMap _ ty 0 0 #[]
  go_enter Tryz.func44, Tryz.ntmps44
  go_wp2
  refine wp_loop_rounds 1 ?_
  rw [rounds_succ]
  go_wp2
  go_end0
  exact ⟨rfl, rfl⟩
end Go.Proofs.YthgpdnffahmhjaaGreatDoor.S19
namespace Go.Proofs.YthgpdnffahmhjaaGreatDoor.S19
open Go.RowKit Go.Maps Go.Shelf Go.Sort S18
def stL (M : MS) (sv pv : Option Nat) : List Value := [.int .i64 M.next, .int .i64 M.seq, .map sv, .map pv]
set_option maxHeartbeats 2000000 in
theorem raise0 (g : Nat) (M : MS) (sv pv : Option Nat) (to : Int) (w : World) (hk : Blk w g 58 (stL M sv pv)) :
    Calls Tryz.prog 45 #[.pointer (some ⟨g, 0, none⟩), .int .i64 to] w fun e w' => e = .returned (.bool (upOk M.next to)) ∧ Blk w' g 58 (stL ⟨upC M.next to, M.seq, M.segs, M.pars⟩ sv pv) ∧ w.grownBy w' (some g) := by
  have c0 : w.cell? ⟨g, 0, none⟩ = some (.int .i64 M.next) := hk.cell rfl
  have f0 := hk.frozen 0
  have HK := Lib.hid hk
  unfold upOk upC
  obtain ⟨c, hc⟩ : ∃ c, M.next = c := ⟨_, rfl⟩
  rw [hc] at c0 ⊢
  have HC := Lib.hid hc
  clear hk hc
  by_cases h0 : to = 0
  · subst h0
    go_enter Tryz.func45, Tryz.ntmps45
    go_wp2_with fail
    go_ret
    refine ⟨by simp, ?_, grownBy_refl _ _⟩
    have := HK.out
    simpa [stL, HC.out] using this
  · have q1 : (to == 0) = false := beq_f h0
    go_enter Tryz.func45, Tryz.ntmps45
    go_wp2_with fail
    go_ret
    refine ⟨by simp [h0], ?_, (Gr.refl w g).setCell 0 _⟩
    have := HK.out.set 0 (.int .i64 to)
    simpa [stL, h0] using this
set_option maxHeartbeats 2000000 in
theorem raise1 (g : Nat) (M : MS) (sv pv : Option Nat) (to : Int) (w : World) (hk : Blk w g 58 (stL M sv pv)) :
    Calls Tryz.prog 45 #[.pointer (some ⟨g, 1, none⟩), .int .i64 to] w fun e w' => e = .returned (.bool (upOk M.seq to)) ∧ Blk w' g 58 (stL ⟨M.next, upC M.seq to, M.segs, M.pars⟩ sv pv) ∧ w.grownBy w' (some g) := by
  have c0 : w.cell? ⟨g, 1, none⟩ = some (.int .i64 M.seq) := hk.cell rfl
  have f0 := hk.frozen 1
  have HK := Lib.hid hk
  unfold upOk upC
  obtain ⟨c, hc⟩ : ∃ c, M.seq = c := ⟨_, rfl⟩
  rw [hc] at c0 ⊢
  have HC := Lib.hid hc
  clear hk hc
  by_cases h0 : to = 0
  · subst h0
    go_enter Tryz.func45, Tryz.ntmps45
    go_wp2_with fail
    go_ret
    refine ⟨by simp, ?_, grownBy_refl _ _⟩
    have := HK.out
    simpa [stL, HC.out] using this
  · have q1 : (to == 0) = false := beq_f h0
    go_enter Tryz.func45, Tryz.ntmps45
    go_wp2_with fail
    go_ret
    refine ⟨by simp [h0], ?_, (Gr.refl w g).setCell 1 _⟩
    have := HK.out.set 1 (.int .i64 to)
    simpa [stL, h0] using this
theorem getD_memI (L : List Int) (d : Int) {i : Nat} (h : i < L.length) : L.getD i d ∈ L := by
  simp [List.getD, h]
theorem intOf_i (n : Int) : intOf (Value.int .i64 n) = n := rfl
theorem drop_cons {α : Type} {L : List α} {i : Nat} (h : i < L.length) (d : α) : L.drop i = L.getD i d :: L.drop (i + 1) := by
  rw [List.drop_eq_getElem_cons h]
  simp [List.getD, h]
def RemPost {α : Type} (key : α → Int) (M : List (α × List Value)) (L : List Int) (b : Nat) (w : World) (e : Ending) (w' : World) : Prop :=
  w.grownBy w' (some b) ∧ ((∃ M', remK (keyM key) M L = some M' ∧ e = .returned (.bool true) ∧ MapC key w' b M') ∨ (remK (keyM key) M L = none ∧ e = .returned (.bool false)))
attribute [local go_sem ↓] loadS_eq storeS_eq
set_option maxHeartbeats 4000000 in
theorem remS {key : SG → Int} {D : Nat → Prop} (b : Nat) (a : Option Addr) (cap : Nat) (M : List (SG × List Value)) (L : List Int) (w : World) (h : MapC key w b M) (hv : IsNums D w (.slice a L.length cap) L) (hL : ∀ x ∈ L, 0 ≤ x ∧ x ≤ 1125899906842624) (hl : L.length ≤ 1000000) (hD : ∀ b', D b' → b' ≠ b) (hM : MCel 6 M) :
    Calls Tryz.prog 46 #[.map (some b), .slice a L.length cap] w (RemPost key M L b w) := by
  obtain ⟨n, hn⟩ : ∃ n, L.length = n := ⟨_, rfl⟩
  have HN := Lib.hid hn
  have HV := Lib.hid hv
  have HL := Lib.hid hL
  have HD := Lib.hid hD
  have HM := Lib.hid hM
  have H := Lib.hid h
  rw [hn] at hl ⊢
  obtain ⟨_, hcap, hmax⟩ := RowD.cap hv
  rw [hn] at hcap
  have hbw := h.lt
  clear hv hL hD hM h hn
  go_enter Tryz.func46, Tryz.ntmps46
  go_wp2_with fail
  go_loopw [11] (fun y wr => ∃ (i : Nat) (M1 : List (SG × List Value)), i ≤ n ∧ y = .int .i64 i ∧ Hid (MapC key wr b M1) ∧ Hid (MCel 6 M1) ∧ Hid (remK (keyM key) M L = remK (keyM key) M1 (L.drop i)) ∧ Hid (w.grownBy wr (some b))) (fun y _ => n - (intOf y).toNat)
  case atStart => exact ⟨0, M, by omega, rfl, H, HM, Lib.hid rfl, Lib.hid (grownBy_refl _ _)⟩
  case round =>
    obtain ⟨i, M1, hi, rfl, hm, hmc, hr, hg⟩ := hrel
    by_cases hlt : i < n
    · have hvw : IsNums D wr (.slice a L.length cap) L := HV.out.keep' (keep_gr hg.out fun b' hb' _ => ⟨hb', by simpa using HD.out b' hb'⟩)
      obtain ⟨bb, off, rfl, _, hbb, c0⟩ := IsNums.cell hvw (i := i) (by rw [HN.out]; exact hlt)
      have hxL := HL.out _ (getD_memI L 0 (by rw [HN.out]; exact hlt))
      have hr2 := hr.out
      rw [drop_cons (L := L) (i := i) (by rw [HN.out]; exact hlt) 0] at hr2
      obtain ⟨x, hx⟩ : ∃ x, L.getD i 0 = x := ⟨_, rfl⟩
      rw [hx] at hxL hr2 c0
      have HR2 := Lib.hid hr2
      have hlk := look_okS hm.out hxL
      obtain ⟨cs, hvv, hcs⟩ : ∃ cs : List Value, valS (kget (keyM key) M1 x) = .agg cs.toArray ∧ Cels 6 cs := by
        cases hg2 : kget (keyM key) M1 x with
        | none => exact ⟨[.int .i64 0, .bool false, .int .i64 0, .int .i64 0, .int .i64 0, .int .u32 0], rfl, rfl, by intro u hu; simp at hu; rcases hu with rfl | rfl | rfl | rfl | rfl | rfl <;> rfl⟩
        | some y => exact ⟨y.2, rfl, hmc.out y (kget_mem _ hg2).1⟩
      rw [hvv] at hlk
      have hk2 := Blk.new wr 40 [.int .i64 0, .bool false, .int .i64 0, .int .i64 0, .int .i64 0, .int .u32 0]
      have hga : wr.grownBy (wr.alloc (.cells #[.int .i64 0, .bool false, .int .i64 0, .int .i64 0, .int .i64 0, .int .u32 0] 40)) none := World.grownBy_alloc _ _ _
      obtain ⟨w2, hw2⟩ : ∃ w2, wr.alloc (.cells #[.int .i64 0, .bool false, .int .i64 0, .int .i64 0, .int .i64 0, .int .u32 0] 40) = w2 := ⟨_, rfl⟩
      have hk2 : Blk w2 wr.heap.size 40 [.int .i64 0, .bool false, .int .i64 0, .int .i64 0, .int .i64 0, .int .u32 0] := by rw [← hw2]; exact hk2
      rw [hw2] at hga
      obtain ⟨w3, hst, hk3, hg3⟩ := putSC hk2 rfl hcs
      have hg13 : wr.grownBy w3 none := (hga.andThen hg3.out (fun j hj => .inl (by cases hj; exact Nat.le_refl _)))
      have HG3 : Hid (w.grownBy w3 (some b)) := Lib.hid (hg.out.andThen hg13 (fun j hj => by cases hj))
      have hm3 := hm.out.heap (hg13.block b hm.out.lt (by simp))
      cases hok : (kget (keyM key) M1 x).isSome with
      | false =>
        rw [hok] at hlk
        have HE : Hid (remK (keyM key) M L = none) := Lib.hid (by rw [HR2.out]; simp [remK, hok])
        clear hk2 hga hk3 hg3 hg13 hvw hx hr2 hm3 hxL hvv hcs hok
        go_wp2_with fail
        go_ret
        exact ⟨HG3.out, .inr ⟨HE.out, rfl⟩⟩
      | true =>
        rw [hok] at hlk
        have HE : Hid (remK (keyM key) M L = remK (keyM key) (kdel (keyM key) M1 x) (L.drop (i + 1))) := Lib.hid (by rw [HR2.out]; simp [remK, hok])
        obtain ⟨w4, hdl, hm4, hg4⟩ := delSM hm3 hxL
        have HM4 := Lib.hid hm4
        have HG4 : Hid (w.grownBy w4 (some b)) := Lib.hid (HG3.out.andThen hg4 (fun j hj => .inr hj))
        have HC4 : Hid (MCel 6 (kdel (keyM key) M1 x)) := Lib.hid fun y hy => hmc.out y (kdel_mem _ hy)
        clear hk2 hga hk3 hg3 hg13 hvw hx hr2 hm3 hxL hvv hcs hok hm4 hg4
        go_wp2_with fail
        go_roundw
        case rel => exact ⟨i + 1, _, by omega, by first | rfl | go_num, HM4, HC4, HE, HG4⟩
        case measure => simp only [intOf_i]; omega
    · have : n = i := by omega
      subst this
      have HE : Hid (remK (keyM key) M L = some M1) := Lib.hid (by rw [hr.out, List.drop_of_length_le (by rw [HN.out]; exact Nat.le_refl _)]; rfl)
      go_wp2_with fail
      go_ret
      exact ⟨hg.out, .inl ⟨M1, HE.out, rfl, hm.out⟩⟩
set_option maxHeartbeats 4000000 in
theorem addS {key : SG → Int} (b : Nat) (M : List (SG × List Value)) (x : SG) (c : List Value) (w : World) (h : MapC key w b M) (hk : 0 ≤ key x ∧ key x ≤ 1125899906842624) (hc : Cels 6 c) (hM : MCel 6 M) (hl : M.length ≤ 1000000) :
    Calls Tryz.prog 80 #[.map (some b), .int .i64 (key x), .agg c.toArray] w fun e w' => e = .returned (.bool (!(kget (keyM key) M (key x)).isSome)) ∧ MapC key w' b (kput (keyM key) M (x, c)) ∧ w.grownBy w' (some b) := by
  have hb := h.lt
  have hk1 := Blk.new w 40 c
  have hg1 : w.grownBy (w.alloc (.cells c.toArray 40)) none := World.grownBy_alloc _ _ _
  obtain ⟨w1, hw1⟩ : ∃ w1, w.alloc (.cells c.toArray 40) = w1 := ⟨_, rfl⟩
  have hk1 : Blk w1 w.heap.size 40 c := by rw [← hw1]; exact hk1
  have hs1 : w1.heap.size = w.heap.size + 1 := by rw [← hw1]; simp
  rw [hw1] at hg1
  have hm1 := h.heap (hg1.block b hb (by simp))
  have hlk := look_okS hm1 hk
  obtain ⟨cs, hvv, hcs⟩ : ∃ cs : List Value, valS (kget (keyM key) M (key x)) = .agg cs.toArray ∧ Cels 6 cs := by
    cases hg2 : kget (keyM key) M (key x) with
    | none => exact ⟨[.int .i64 0, .bool false, .int .i64 0, .int .i64 0, .int .i64 0, .int .u32 0], rfl, rfl, by intro u hu; simp at hu; rcases hu with rfl | rfl | rfl | rfl | rfl | rfl <;> rfl⟩
    | some y => exact ⟨y.2, rfl, hM y (kget_mem _ hg2).1⟩
  rw [hvv] at hlk
  obtain ⟨ok, hok⟩ : ∃ ok, (kget (keyM key) M (key x)).isSome = ok := ⟨_, rfl⟩
  rw [hok] at hlk ⊢
  have hk2 := Blk.new w1 40 [.int .i64 0, .bool false, .int .i64 0, .int .i64 0, .int .i64 0, .int .u32 0]
  have hga : w1.grownBy (w1.alloc (.cells #[.int .i64 0, .bool false, .int .i64 0, .int .i64 0, .int .i64 0, .int .u32 0] 40)) none := World.grownBy_alloc _ _ _
  obtain ⟨w2, hw2⟩ : ∃ w2, w1.alloc (.cells #[.int .i64 0, .bool false, .int .i64 0, .int .i64 0, .int .i64 0, .int .u32 0] 40) = w2 := ⟨_, rfl⟩
  have hk2 : Blk w2 w1.heap.size 40 [.int .i64 0, .bool false, .int .i64 0, .int .i64 0, .int .i64 0, .int .u32 0] := by rw [← hw2]; exact hk2
  rw [hw2] at hga
  obtain ⟨w3, hst, hk3, hg3⟩ := putSC hk2 rfl hcs
  have hg13 : w1.grownBy w3 none := (hga.andThen hg3.out (fun j hj => .inl (by cases hj; exact Nat.le_refl _)))
  have hm3 := hm1.heap (hg13.block b hm1.lt (by simp))
  have hk13 := hk1.grown hg13 (by simp)
  have hld := getSC hk13 hc.1
  rw [hs1] at hst
  obtain ⟨w4, hup, hm4, hg4⟩ := storeSM hm3 x c hk hl
  have HM4 := Lib.hid hm4
  have HG4 : Hid (w.grownBy w4 (some b)) := Lib.hid (((hg1.but _).andThen hg13 (fun j hj => by cases hj)).andThen hg4 (fun j hj => .inr hj))
  obtain ⟨k, hkk⟩ : ∃ k, key x = k := ⟨_, rfl⟩
  rw [hkk] at hlk hup ⊢
  clear hk1 hg1 hm1 hvv hcs hok hk2 hga hk3 hg3 hg13 hm3 hk13 hm4 hg4 h hk hM hc
  go_enter Tryz.func80, Tryz.ntmps80
  go_wp2_with fail
  go_ret
  exact ⟨rfl, HM4.out, HG4.out⟩
attribute [local go_sem ↓] loadP_eq storeP_eq
set_option maxHeartbeats 4000000 in
theorem remP {key : PT → Int} {D : Nat → Prop} (b : Nat) (a : Option Addr) (cap : Nat) (M : List (PT × List Value)) (L : List Int) (w : World) (h : MapC key w b M) (hv : IsNums D w (.slice a L.length cap) L) (hL : ∀ x ∈ L, 0 ≤ x ∧ x ≤ 1125899906842624) (hl : L.length ≤ 1000000) (hD : ∀ b', D b' → b' ≠ b) (hM : MCel 5 M) :
    Calls Tryz.prog 47 #[.map (some b), .slice a L.length cap] w (RemPost key M L b w) := by
  obtain ⟨n, hn⟩ : ∃ n, L.length = n := ⟨_, rfl⟩
  have HN := Lib.hid hn
  have HV := Lib.hid hv
  have HL := Lib.hid hL
  have HD := Lib.hid hD
  have HM := Lib.hid hM
  have H := Lib.hid h
  rw [hn] at hl ⊢
  obtain ⟨_, hcap, hmax⟩ := RowD.cap hv
  rw [hn] at hcap
  have hbw := h.lt
  clear hv hL hD hM h hn
  go_enter Tryz.func47, Tryz.ntmps47
  go_wp2_with fail
  go_loopw [11] (fun y wr => ∃ (i : Nat) (M1 : List (PT × List Value)), i ≤ n ∧ y = .int .i64 i ∧ Hid (MapC key wr b M1) ∧ Hid (MCel 5 M1) ∧ Hid (remK (keyM key) M L = remK (keyM key) M1 (L.drop i)) ∧ Hid (w.grownBy wr (some b))) (fun y _ => n - (intOf y).toNat)
  case atStart => exact ⟨0, M, by omega, rfl, H, HM, Lib.hid rfl, Lib.hid (grownBy_refl _ _)⟩
  case round =>
    obtain ⟨i, M1, hi, rfl, hm, hmc, hr, hg⟩ := hrel
    by_cases hlt : i < n
    · have hvw : IsNums D wr (.slice a L.length cap) L := HV.out.keep' (keep_gr hg.out fun b' hb' _ => ⟨hb', by simpa using HD.out b' hb'⟩)
      obtain ⟨bb, off, rfl, _, hbb, c0⟩ := IsNums.cell hvw (i := i) (by rw [HN.out]; exact hlt)
      have hxL := HL.out _ (getD_memI L 0 (by rw [HN.out]; exact hlt))
      have hr2 := hr.out
      rw [drop_cons (L := L) (i := i) (by rw [HN.out]; exact hlt) 0] at hr2
      obtain ⟨x, hx⟩ : ∃ x, L.getD i 0 = x := ⟨_, rfl⟩
      rw [hx] at hxL hr2 c0
      have HR2 := Lib.hid hr2
      have hlk := look_okP hm.out hxL
      obtain ⟨cs, hvv, hcs⟩ : ∃ cs : List Value, valP (kget (keyM key) M1 x) = .agg cs.toArray ∧ Cels 5 cs := by
        cases hg2 : kget (keyM key) M1 x with
        | none => exact ⟨[.int .i64 0, .slice none 0 0, .slice none 0 0, .int .i64 0, .int .u32 0], rfl, rfl, by intro u hu; simp at hu; rcases hu with rfl | rfl | rfl | rfl | rfl | rfl <;> rfl⟩
        | some y => exact ⟨y.2, rfl, hmc.out y (kget_mem _ hg2).1⟩
      rw [hvv] at hlk
      have hk2 := Blk.new wr 95 [.int .i64 0, .slice none 0 0, .slice none 0 0, .int .i64 0, .int .u32 0]
      have hga : wr.grownBy (wr.alloc (.cells #[.int .i64 0, .slice none 0 0, .slice none 0 0, .int .i64 0, .int .u32 0] 95)) none := World.grownBy_alloc _ _ _
      obtain ⟨w2, hw2⟩ : ∃ w2, wr.alloc (.cells #[.int .i64 0, .slice none 0 0, .slice none 0 0, .int .i64 0, .int .u32 0] 95) = w2 := ⟨_, rfl⟩
      have hk2 : Blk w2 wr.heap.size 95 [.int .i64 0, .slice none 0 0, .slice none 0 0, .int .i64 0, .int .u32 0] := by rw [← hw2]; exact hk2
      rw [hw2] at hga
      obtain ⟨w3, hst, hk3, hg3⟩ := putPC hk2 rfl hcs
      have hg13 : wr.grownBy w3 none := (hga.andThen hg3.out (fun j hj => .inl (by cases hj; exact Nat.le_refl _)))
      have HG3 : Hid (w.grownBy w3 (some b)) := Lib.hid (hg.out.andThen hg13 (fun j hj => by cases hj))
      have hm3 := hm.out.heap (hg13.block b hm.out.lt (by simp))
      cases hok : (kget (keyM key) M1 x).isSome with
      | false =>
        rw [hok] at hlk
        have HE : Hid (remK (keyM key) M L = none) := Lib.hid (by rw [HR2.out]; simp [remK, hok])
        clear hk2 hga hk3 hg3 hg13 hvw hx hr2 hm3 hxL hvv hcs hok
        go_wp2_with fail
        go_ret
        exact ⟨HG3.out, .inr ⟨HE.out, rfl⟩⟩
      | true =>
        rw [hok] at hlk
        have HE : Hid (remK (keyM key) M L = remK (keyM key) (kdel (keyM key) M1 x) (L.drop (i + 1))) := Lib.hid (by rw [HR2.out]; simp [remK, hok])
        obtain ⟨w4, hdl, hm4, hg4⟩ := delPM hm3 hxL
        have HM4 := Lib.hid hm4
        have HG4 : Hid (w.grownBy w4 (some b)) := Lib.hid (HG3.out.andThen hg4 (fun j hj => .inr hj))
        have HC4 : Hid (MCel 5 (kdel (keyM key) M1 x)) := Lib.hid fun y hy => hmc.out y (kdel_mem _ hy)
        clear hk2 hga hk3 hg3 hg13 hvw hx hr2 hm3 hxL hvv hcs hok hm4 hg4
        go_wp2_with fail
        go_roundw
        case rel => exact ⟨i + 1, _, by omega, by first | rfl | go_num, HM4, HC4, HE, HG4⟩
        case measure => simp only [intOf_i]; omega
    · have : n = i := by omega
      subst this
      have HE : Hid (remK (keyM key) M L = some M1) := Lib.hid (by rw [hr.out, List.drop_of_length_le (by rw [HN.out]; exact Nat.le_refl _)]; rfl)
      go_wp2_with fail
      go_ret
      exact ⟨hg.out, .inl ⟨M1, HE.out, rfl, hm.out⟩⟩
set_option maxHeartbeats 4000000 in
theorem addP {key : PT → Int} (b : Nat) (M : List (PT × List Value)) (x : PT) (c : List Value) (w : World) (h : MapC key w b M) (hk : 0 ≤ key x ∧ key x ≤ 1125899906842624) (hc : Cels 5 c) (hM : MCel 5 M) (hl : M.length ≤ 1000000) :
    Calls Tryz.prog 81 #[.map (some b), .int .i64 (key x), .agg c.toArray] w fun e w' => e = .returned (.bool (!(kget (keyM key) M (key x)).isSome)) ∧ MapC key w' b (kput (keyM key) M (x, c)) ∧ w.grownBy w' (some b) := by
  have hb := h.lt
  have hk1 := Blk.new w 95 c
  have hg1 : w.grownBy (w.alloc (.cells c.toArray 95)) none := World.grownBy_alloc _ _ _
  obtain ⟨w1, hw1⟩ : ∃ w1, w.alloc (.cells c.toArray 95) = w1 := ⟨_, rfl⟩
  have hk1 : Blk w1 w.heap.size 95 c := by rw [← hw1]; exact hk1
  have hs1 : w1.heap.size = w.heap.size + 1 := by rw [← hw1]; simp
  rw [hw1] at hg1
  have hm1 := h.heap (hg1.block b hb (by simp))
  have hlk := look_okP hm1 hk
  obtain ⟨cs, hvv, hcs⟩ : ∃ cs : List Value, valP (kget (keyM key) M (key x)) = .agg cs.toArray ∧ Cels 5 cs := by
    cases hg2 : kget (keyM key) M (key x) with
    | none => exact ⟨[.int .i64 0, .slice none 0 0, .slice none 0 0, .int .i64 0, .int .u32 0], rfl, rfl, by intro u hu; simp at hu; rcases hu with rfl | rfl | rfl | rfl | rfl | rfl <;> rfl⟩
    | some y => exact ⟨y.2, rfl, hM y (kget_mem _ hg2).1⟩
  rw [hvv] at hlk
  obtain ⟨ok, hok⟩ : ∃ ok, (kget (keyM key) M (key x)).isSome = ok := ⟨_, rfl⟩
  rw [hok] at hlk ⊢
  have hk2 := Blk.new w1 95 [.int .i64 0, .slice none 0 0, .slice none 0 0, .int .i64 0, .int .u32 0]
  have hga : w1.grownBy (w1.alloc (.cells #[.int .i64 0, .slice none 0 0, .slice none 0 0, .int .i64 0, .int .u32 0] 95)) none := World.grownBy_alloc _ _ _
  obtain ⟨w2, hw2⟩ : ∃ w2, w1.alloc (.cells #[.int .i64 0, .slice none 0 0, .slice none 0 0, .int .i64 0, .int .u32 0] 95) = w2 := ⟨_, rfl⟩
  have hk2 : Blk w2 w1.heap.size 95 [.int .i64 0, .slice none 0 0, .slice none 0 0, .int .i64 0, .int .u32 0] := by rw [← hw2]; exact hk2
  rw [hw2] at hga
  obtain ⟨w3, hst, hk3, hg3⟩ := putPC hk2 rfl hcs
  have hg13 : w1.grownBy w3 none := (hga.andThen hg3.out (fun j hj => .inl (by cases hj; exact Nat.le_refl _)))
  have hm3 := hm1.heap (hg13.block b hm1.lt (by simp))
  have hk13 := hk1.grown hg13 (by simp)
  have hld := getPC hk13 hc.1
  rw [hs1] at hst
  obtain ⟨w4, hup, hm4, hg4⟩ := storePM hm3 x c hk hl
  have HM4 := Lib.hid hm4
  have HG4 : Hid (w.grownBy w4 (some b)) := Lib.hid (((hg1.but _).andThen hg13 (fun j hj => by cases hj)).andThen hg4 (fun j hj => .inr hj))
  obtain ⟨k, hkk⟩ : ∃ k, key x = k := ⟨_, rfl⟩
  rw [hkk] at hlk hup ⊢
  clear hk1 hg1 hm1 hvv hcs hok hk2 hga hk3 hg3 hg13 hm3 hk13 hm4 hg4 h hk hM hc
  go_enter Tryz.func81, Tryz.ntmps81
  go_wp2_with fail
  go_ret
  exact ⟨rfl, HM4.out, HG4.out⟩
end Go.Proofs.YthgpdnffahmhjaaGreatDoor.S19

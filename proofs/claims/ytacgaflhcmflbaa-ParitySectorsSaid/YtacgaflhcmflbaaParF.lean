/- Sectors wiped, and filled again: plain; a row of byte strings of the call's own, each in a block of its own; clear and copy of a sector: lemmas without a walk. -/
import Derived.Test.YtacgaflhcmflbaaParE
set_option linter.unusedSimpArgs false
set_option linter.unusedVariables false
namespace Go.Proofs.Ytacgaflhcmflbaa
open Go.RowKit Go.Shelf Pl
namespace Pl
/-- S, noughts from o on, k of them -/
def zap (S : List Nat) (o k : Nat) : List Nat := rng S.length fun q => if o ≤ q ∧ q < o + k then 0 else S.getD q 0
theorem zap_zero (S : List Nat) (o : Nat) : zap S o 0 = S := by
  unfold zap
  refine (rng_congr fun q _ => ?_).trans (rng_eq S)
  rw [if_neg (by omega)]
theorem zap_step (S : List Nat) (o k : Nat) : zap (S.set o 0) (o + 1) k = zap S o (k + 1) := by
  unfold zap
  rw [List.length_set]
  refine rng_congr fun q hq => ?_
  by_cases h : q = o
  · subst h
    rw [if_neg (by omega), if_pos (by omega)]
    simp [List.getD, hq]
  · have e : (S.set o 0).getD q 0 = S.getD q 0 := by simp [List.getD, List.getElem?_set_ne (Ne.symm h)]
    rw [e]
    by_cases h2 : o + 1 ≤ q ∧ q < o + 1 + k
    · rw [if_pos h2, if_pos (by omega)]
    · rw [if_neg h2, if_neg (by omega)]
/-- the i-th without its bad sectors, of those below k -/
def wipU (L : List (List Nat)) (E : List (List Bool)) (i k : Nat) : List Nat := rng (L.getD i []).length fun q => if q / 64 < k ∧ bd E i (q / 64) = true then 0 else (L.getD i []).getD q 0
def wip (L : List (List Nat)) (E : List (List Bool)) (i : Nat) : List Nat := rng (L.getD i []).length fun q => if bd E i (q / 64) = true then 0 else (L.getD i []).getD q 0
theorem wipU_length (L : List (List Nat)) (E : List (List Bool)) (i k : Nat) : (wipU L E i k).length = (L.getD i []).length := rng_length _ _
theorem wip_length (L : List (List Nat)) (E : List (List Bool)) (i : Nat) : (wip L E i).length = (L.getD i []).length := rng_length _ _
theorem wipU_zero (L : List (List Nat)) (E : List (List Bool)) (i : Nat) : wipU L E i 0 = L.getD i [] := by
  unfold wipU
  refine (rng_congr fun q _ => ?_).trans (rng_eq _)
  rw [if_neg (by omega)]
theorem wipU_skip (L : List (List Nat)) (E : List (List Bool)) (i k : Nat) (h : bd E i k = false) : wipU L E i k = wipU L E i (k + 1) := by
  unfold wipU
  refine rng_congr fun q _ => ?_
  by_cases h2 : q / 64 = k
  · rw [h2, h]; simp
  · have : (q / 64 < k) = (q / 64 < k + 1) := by
      apply propext; constructor <;> intro _ <;> omega
    simp only [this]
theorem wipU_step (L : List (List Nat)) (E : List (List Bool)) {i k N : Nat} (hN : (L.getD i []).length = N) (h : bd E i k = true) : zap (wipU L E i k) (k * 64) (min 64 (N - k * 64)) = wipU L E i (k + 1) := by
  unfold zap
  rw [wipU_length]
  unfold wipU
  refine rng_congr fun q hq => ?_
  rw [rng_get _ _ hq]
  by_cases h2 : q / 64 = k
  · have e1 : k * 64 ≤ q ∧ q < k * 64 + min 64 (N - k * 64) := by omega
    rw [if_pos e1, if_pos ⟨by omega, by rw [h2]; exact h⟩]
  · have e1 : ¬ (k * 64 ≤ q ∧ q < k * 64 + min 64 (N - k * 64)) := by omega
    rw [if_neg e1]
    have : (q / 64 < k) = (q / 64 < k + 1) := by
      apply propext; constructor <;> intro _ <;> omega
    simp only [this]
theorem bd_out {E : List (List Bool)} {i s nd N q : Nat} (hd : (E.getD i []).length = nd) (hq : q < N) (h : mks nd N ≤ q / 64) : bd E i (q / 64) = false := by
  unfold bd mks at *
  rw [List.getD_eq_getElem?_getD (l := E.getD i []), List.getElem?_eq_none (by omega)]
  rfl
theorem wipU_all (L : List (List Nat)) (E : List (List Bool)) {i nd N : Nat} (hd : (E.getD i []).length = nd) (hN : (L.getD i []).length = N) : wipU L E i (mks nd N) = wip L E i := by
  unfold wipU wip
  refine rng_congr fun q hq => ?_
  by_cases h : q / 64 < mks nd N
  · simp [h]
  · rw [bd_out (s := 0) hd (by omega : q < N) (by omega)]; simp
/-- the i-th, its bad sectors below k told by F -/
def fil (L : List (List Nat)) (E : List (List Bool)) (F : Nat → Nat) (i k : Nat) : List Nat := rng (L.getD i []).length fun q => if bd E i (q / 64) = true then (if q / 64 < k then F q else 0) else (L.getD i []).getD q 0
def secI (L : List (List Nat)) (E : List (List Bool)) (F : Nat → Nat) (i : Nat) : List Nat := rng (L.getD i []).length fun q => if bd E i (q / 64) = true then F q else (L.getD i []).getD q 0
theorem fil_length (L : List (List Nat)) (E : List (List Bool)) (F : Nat → Nat) (i k : Nat) : (fil L E F i k).length = (L.getD i []).length := rng_length _ _
theorem secI_length (L : List (List Nat)) (E : List (List Bool)) (F : Nat → Nat) (i : Nat) : (secI L E F i).length = (L.getD i []).length := rng_length _ _
theorem fil_zero (L : List (List Nat)) (E : List (List Bool)) (F : Nat → Nat) (i : Nat) : fil L E F i 0 = wip L E i := by
  unfold fil wip
  refine rng_congr fun q _ => ?_
  simp
theorem fil_skip (L : List (List Nat)) (E : List (List Bool)) (F : Nat → Nat) (i k : Nat) (h : bd E i k = false) : fil L E F i k = fil L E F i (k + 1) := by
  unfold fil
  refine rng_congr fun q _ => ?_
  by_cases h2 : q / 64 = k
  · rw [h2, h]; simp
  · have : (q / 64 < k) = (q / 64 < k + 1) := by
      apply propext; constructor <;> intro _ <;> omega
    simp only [this]
theorem fil_all (L : List (List Nat)) (E : List (List Bool)) (F : Nat → Nat) {i nd N : Nat} (hd : (E.getD i []).length = nd) (hN : (L.getD i []).length = N) : fil L E F i (mks nd N) = secI L E F i := by
  unfold fil secI
  refine rng_congr fun q hq => ?_
  by_cases h : q / 64 < mks nd N
  · simp [h]
  · rw [bd_out (s := 0) hd (by omega : q < N) (by omega)]; simp
/-- the bytes of F from o on, m of them -/
def seg (F : Nat → Nat) (o m : Nat) : List Nat := rng m fun j => F (o + j)
theorem fil_step (L : List (List Nat)) (E : List (List Bool)) (F : Nat → Nat) {i k N : Nat} (hN : (L.getD i []).length = N) (hk : k * 64 < N) (h : bd E i k = true) : splice (u8s (fil L E F i k)) (k * 64) (u8s (seg F (k * 64) (min 64 (N - k * 64)))) = u8s (fil L E F i (k + 1)) := by
  apply List.ext_getElem?
  intro q
  have hl : ∀ k, (u8s (fil L E F i k)).length = N := fun k => by rw [u8s_length, fil_length, hN]
  have hs : (u8s (seg F (k * 64) (min 64 (N - k * 64)))).length = min 64 (N - k * 64) := by rw [u8s_length]; exact rng_length _ _
  rw [splice_get _ _ _ (by rw [hl, hs]; omega), hs]
  by_cases hq : q < N
  · have e1 : (u8s (fil L E F i (k + 1)))[q]? = some (.int .u8 ((fil L E F i (k + 1)).getD q 0 : Nat)) := u8s_get _ _ (by rw [fil_length, hN]; exact hq)
    have e2 : (u8s (fil L E F i k))[q]? = some (.int .u8 ((fil L E F i k).getD q 0 : Nat)) := u8s_get _ _ (by rw [fil_length, hN]; exact hq)
    have g1 : ∀ k, (fil L E F i k).getD q 0 = if bd E i (q / 64) = true then (if q / 64 < k then F q else 0) else (L.getD i []).getD q 0 := fun k => rng_get _ _ (by rw [hN]; exact hq)
    rw [e1, e2]
    by_cases h2 : q / 64 = k
    · rw [if_neg (by omega), if_pos (by omega), u8s_get _ _ (by rw [show (seg F (k * 64) (min 64 (N - k * 64))).length = min 64 (N - k * 64) from rng_length _ _]; omega)]
      have e3 : (seg F (k * 64) (min 64 (N - k * 64))).getD (q - k * 64) 0 = F q := by
        unfold seg
        rw [rng_get _ _ (by omega)]
        congr 1; omega
      rw [e3, g1, h2, h, if_pos rfl, if_pos (by omega)]
    · have e4 : (fil L E F i k).getD q 0 = (fil L E F i (k + 1)).getD q 0 := by
        rw [g1, g1]
        have : (q / 64 < k) = (q / 64 < k + 1) := by
          apply propext; constructor <;> intro _ <;> omega
        simp only [this]
      rw [e4]
      by_cases h3 : q < k * 64
      · rw [if_pos h3]
      · rw [if_neg h3, if_neg (by omega)]
  · rw [if_neg (by omega), if_neg (by omega), List.getElem?_eq_none (by rw [hl]; omega), List.getElem?_eq_none (by rw [hl]; omega)]
/-- the first i without their bad sectors -/
def wips (L : List (List Nat)) (E : List (List Bool)) (i : Nat) : List (List Nat) := (List.range i).map (wip L E)
/-- what is left of P then -/
def lef (L : List (List Nat)) (E : List (List Bool)) (P : List Nat) (i q : Nat) : Nat := P.getD q 0 ^^^ xorA (wips L E i) q
theorem lef_zero (L : List (List Nat)) (E : List (List Bool)) (P : List Nat) {np : Nat} (h : P.length = np) : rng np (lef L E P 0) = P := by
  subst h
  refine (rng_congr fun q _ => ?_).trans (rng_eq P)
  simp [lef, wips, xorA]
theorem lef_step (L : List (List Nat)) (E : List (List Bool)) (P : List Nat) (np i : Nat) : addP (rng np (lef L E P i)) (wip L E i) = rng np (lef L E P (i + 1)) := by
  unfold addP
  rw [rng_length]
  refine rng_congr fun q hq => ?_
  rw [rng_get _ _ hq]
  unfold lef wips
  rw [List.range_succ, List.map_append, xorA_append, Nat.xor_assoc]
  simp [xorA]
theorem wip_lt {L : List (List Nat)} {E : List (List Bool)} {i : Nat} (h : ∀ x ∈ L.getD i [], x < 256) : ∀ x ∈ wip L E i, x < 256 :=
  rng_lt fun q _ => by
    split
    · omega
    · exact byte_at h q
theorem lt_getD {L : List (List Nat)} (h : ∀ B ∈ L, ∀ x ∈ B, x < 256) (i : Nat) : ∀ x ∈ L.getD i [], x < 256 := by
  by_cases hi : i < L.length
  · exact h _ (getD_memL hi)
  · rw [List.getD_eq_getElem?_getD, List.getElem?_eq_none (by omega)]; simp
theorem lef_lt {L : List (List Nat)} {E : List (List Bool)} {P : List Nat} (h : ∀ B ∈ L, ∀ x ∈ B, x < 256) (hP : ∀ x ∈ P, x < 256) (i q : Nat) : lef L E P i q < 256 := by
  refine Nat.xor_lt_two_pow (n := 8) (byte_at hP q) (xorA_lt (fun B hB => ?_) q)
  simp only [wips, List.mem_map] at hB
  obtain ⟨j, _, rfl⟩ := hB
  exact wip_lt (lt_getD h j)
theorem secI_lt {L : List (List Nat)} {E : List (List Bool)} {F : Nat → Nat} {i : Nat} (h : ∀ x ∈ L.getD i [], x < 256) (hF : ∀ q, F q < 256) : ∀ x ∈ secI L E F i, x < 256 :=
  rng_lt fun q _ => by
    split
    · exact hF q
    · exact byte_at h q
/-- the members as Sectors tells them -/
def secL (L : List (List Nat)) (E : List (List Bool)) (P : List Nat) : List (List Nat) := (List.range L.length).map (secI L E (lef L E P L.length))
theorem secL_length (L : List (List Nat)) (E : List (List Bool)) (P : List Nat) : (secL L E P).length = L.length := by simp [secL]
theorem secL_get {L : List (List Nat)} {E : List (List Bool)} {P : List Nat} {i : Nat} (h : i < L.length) : (secL L E P)[i]? = some (secI L E (lef L E P L.length) i) := by simp [secL, h]
end Pl
theorem own_keep {A B : World} {row : Option Nat} {base e n : Nat} {v : Value} {xs : List Value} (h : A.ownsRow base e 1 v n xs) (hg : A.grownBy B row) (hr : ∀ r, row = some r → v.ownBlock ≠ some r) : B.ownsRow base e 1 v n xs := by
  refine h.kept hg ?_
  cases hv : v.ownBlock with
  | none => exact .inl rfl
  | some g => exact .inr fun e => hr g e.symm hv
/-- n byte strings of the call's own in the row G, the first m told by c, each in a block of its own from lo on -/
structure WhI (n G lo : Nat) (Vs : List Value) (c : Nat → List Nat) (m : Nat) (W : World) : Prop where
  row : Blk W G 23 Vs
  len : Vs.length = n
  el : ∀ j, j < m → W.ownsRow lo 5 1 (Vs.getD j undef) (c j).length (u8s (c j))
  ap : ∀ j k, j < m → k < m → j ≠ k → ∀ g, (Vs.getD j undef).ownBlock = some g → (Vs.getD k undef).ownBlock ≠ some g
theorem WhI.congr {n G lo m : Nat} {Vs : List Value} {c c' : Nat → List Nat} {W : World} (h : WhI n G lo Vs c m W) (hc : ∀ j, j < m → c j = c' j) : WhI n G lo Vs c' m W :=
  ⟨h.row, h.len, fun j hj => by rw [← hc j hj]; exact h.el j hj, h.ap⟩
theorem WhI.blk {n G lo m : Nat} {Vs : List Value} {c : Nat → List Nat} {W : World} (h : WhI n G lo Vs c m W) {j g : Nat} (hj : j < m) (hg : (Vs.getD j undef).ownBlock = some g) : lo ≤ g ∧ ∃ cs, Blk W g 5 cs := by
  have he := h.el j hj
  obtain ⟨sp, cap, hv, _, _⟩ := ownsRow_slice he
  rw [hv] at he hg
  cases sp with
  | none => simp [Value.ownBlock] at hg
  | some a =>
    obtain ⟨hl, ⟨h1, _⟩ | ⟨g', cap', cur, h1, h2, hh, _⟩⟩ := he
    · simp at h1
    · simp at h1
      rw [h1.1] at hg
      simp [Value.ownBlock] at hg
      subst hg
      exact ⟨h2, cur.toList, by unfold Blk; simpa using hh⟩
theorem WhI.keep {n G lo m : Nat} {Vs : List Value} {c : Nat → List Nat} {W W' : World} {row : Option Nat} (h : WhI n G lo Vs c m W) (hg : W.grownBy W' row) (hr : ∀ r, row = some r → r ≠ G ∧ ∀ j, j < m → (Vs.getD j undef).ownBlock ≠ some r) : WhI n G lo Vs c m W' :=
  ⟨h.row.grown hg (fun e => (hr G e.symm).1 rfl), h.len, fun j hj => own_keep (h.el j hj) hg (fun r e => (hr r e).2 j hj), h.ap⟩
theorem WhI.below {n G lo m : Nat} {Vs : List Value} {c : Nat → List Nat} {W W' : World} (h : WhI n G lo Vs c m W) (hb : Below W.heap.size W W') : WhI n G lo Vs c m W' :=
  h.keep (row := none) ⟨hb.os, hb.tape, hb.output, hb.size, fun k hk _ => hb.block k hk⟩ (by simp)
/-- what is no cells has turned -/
theorem WhI.other {n G lo m : Nat} {Vs : List Value} {c : Nat → List Nat} {W W' : World} {row : Option Nat} (h : WhI n G lo Vs c m W) (hg : W.grownBy W' row) (hr : ∀ r, row = some r → ∃ o : Obj, W.heap[r]? = some o ∧ o.isCells = false) : WhI n G lo Vs c m W' :=
  h.keep hg fun r e => by
    obtain ⟨o, ho, hc⟩ := hr r e
    refine ⟨fun e2 => ?_, fun j hj e2 => ?_⟩
    · subst e2
      have := h.row
      unfold Blk at this
      rw [this] at ho
      simp at ho
      subst ho; cases hc
    · obtain ⟨_, cs, hb⟩ := h.blk hj e2
      unfold Blk at hb
      rw [hb] at ho
      simp at ho
      subst ho; cases hc
/-- the i-th has been written to -/
theorem WhI.upd {n G lo m : Nat} {Vs : List Value} {c : Nat → List Nat} {W W' : World} (h : WhI n G lo Vs c m W) {i : Nat} (hi : i < m) {X : List Nat} (hX : X.length = (c i).length) (ho : W'.ownsRow lo 5 1 (Vs.getD i undef) (c i).length (u8s X)) (hg : W.grownBy W' (Vs.getD i undef).ownBlock) : WhI n G lo Vs (fun j => if j = i then X else c j) m W' := by
  refine ⟨h.row.grown hg fun e => ?_, h.len, fun j hj => ?_, h.ap⟩
  · obtain ⟨_, cs, hb⟩ := h.blk hi e.symm
    exact absurd (blk_ty h.row hb) (by decide)
  · by_cases hji : j = i
    · subst hji; rw [if_pos rfl, hX]; exact ho
    · rw [if_neg hji]
      exact own_keep (h.el j hj) hg fun r e e2 => h.ap j i hj hi hji r e2 e
theorem WhI.isRows {n G lo : Nat} {Vs : List Value} {c : Nat → List Nat} {W : World} (h : WhI n G lo Vs c n W) (hn : n ≤ maxLen) {R : List (List Nat)} (hR : R.length = n) (hc : ∀ i, i < n → R[i]? = some (c i)) (hx : ∀ i, i < n → ∀ x ∈ c i, x < 256) : IsRows W (.slice (some ⟨G, 0, none⟩) n n) R := by
  refine ⟨some ⟨G, 0, none⟩, n, Vs, by rw [hR], by omega, hn, by rw [h.len, hR], fun i u hu => ⟨_, rfl, ?_⟩, fun i u B hu hB => ?_⟩
  · rw [addr_add, Nat.zero_add]; exact h.row.cell hu
  · have hi : i < n := by have := (List.getElem?_eq_some_iff.1 hu).1; rw [h.len] at this; exact this
    rw [hc i hi] at hB
    simp at hB
    subst hB
    have he := h.el i hi
    have e : Vs.getD i undef = u := by rw [List.getD_eq_getElem?_getD, hu]; rfl
    rw [e] at he
    obtain ⟨sp, cap, rfl, _, _⟩ := ownsRow_slice he
    exact isBytes_own (hx i hi) he
/-- noughts from o on -/
theorem setCells_bytes : ∀ (k o : Nat) {w : World} {g n cap base : Nat} {S : List Nat}, w.ownsRow base 5 1 (.slice (some ⟨g, 0, none⟩) n cap) n (u8s S) → (w.setCells g o (List.replicate k (.int .u8 0))).ownsRow base 5 1 (.slice (some ⟨g, 0, none⟩) n cap) n (u8s (zap S o k)) ∧ w.grownBy (w.setCells g o (List.replicate k (.int .u8 0))) (some g) := by
  intro k
  induction k with
  | zero => intro o w g n cap base S h; rw [zap_zero]; exact ⟨h, grownBy_refl _ _⟩
  | succ k ih =>
    intro o w g n cap base S h
    have h1 := World.ownsRow.stored h o (.int .u8 ((0 : Nat) : Int))
    rw [u8s_set] at h1
    obtain ⟨h2, h3⟩ := ih (o + 1) h1.1
    rw [zap_step] at h2
    exact ⟨h2, grownBy_trans h1.2 h3⟩
theorem zero8 (w : World) : (zeroValue 5).run Try.prog w = .ok (.int .u8 0) w := by
  obtain ⟨i0, hi, hz0, hz1, hz2⟩ := info_parts info5
  simp [zeroValue, typeInfo, hi, hz0]
theorem scV_at (g N cap k : Nat) : scV (some ⟨g, 0, none⟩) N cap k = .slice (some ⟨g, k * 64, none⟩) (min 64 (N - k * 64)) (cap - k * 64) := by
  unfold scV
  rw [Nat.mul_one, Option.map_some, addr_add, Nat.zero_add]
theorem clear_sector {w : World} {g N cap base k : Nat} {S : List Nat} (h : w.ownsRow base 5 1 (.slice (some ⟨g, 0, none⟩) N cap) N (u8s S)) (hk : k * 64 < N) :
    ∃ W', (∀ ty, (Builtin.clear_ #[23] ty #[scV (some ⟨g, 0, none⟩) N cap k]).run Try.prog w = .ok (.tuple #[]) W') ∧ W'.ownsRow base 5 1 (.slice (some ⟨g, 0, none⟩) N cap) N (u8s (zap S (k * 64) (min 64 (N - k * 64)))) ∧ w.grownBy W' (some g) := by
  obtain ⟨h1, h2⟩ := setCells_bytes (min 64 (N - k * 64)) (k * 64) h
  refine ⟨_, fun ty => ?_, h1, h2⟩
  rw [scV_at]
  exact Lib.run_clear_slice w 23 5 ty (.int .u8 0) Try.underlying23 zero8 rfl rfl g (k * 64) (min 64 (N - k * 64)) (cap - k * 64) (by omega) (fun j hj => by rw [own_cell h (by omega)]; rfl) (fun j _ => World.ownsRow.frozenAt h _)
theorem splice_take {α : Type} (l cs : List α) (off n : Nat) (h : off + cs.length ≤ n) (hn : n ≤ l.length) : (splice l off cs).take n = splice (l.take n) off cs := by
  apply List.ext_getElem?
  intro i
  by_cases hi : i < n
  · rw [List.getElem?_take_of_lt hi, splice_get _ _ _ (by omega), splice_get _ _ _ (by rw [List.length_take]; omega)]
    simp only [List.getElem?_take_of_lt hi]
  · have hl : ∀ (m : List α), off + cs.length ≤ m.length → (splice m off cs).length = m.length := fun m hm => by
      unfold splice
      rw [List.length_append, List.length_append, List.length_take, List.length_drop]; omega
    rw [List.getElem?_eq_none (by rw [List.length_take]; omega), List.getElem?_eq_none (by rw [hl _ (by rw [List.length_take]; omega), List.length_take]; omega)]
/-- copy(sector, src) -/
theorem copy_sector {w : World} {g N cap base k sl sc : Nat} {sa : Option Addr} {S T : List Nat} (h : w.ownsRow base 5 1 (.slice (some ⟨g, 0, none⟩) N cap) N (u8s S)) (hk : k * 64 < N) (hs : IsBytes w (.slice sa sl sc) T) (hl : T.length = sl) (hsl : min 64 (N - k * 64) ≤ sl) :
    ∃ W', (∀ ty, (Builtin.copy_ #[23, 23] ty #[scV (some ⟨g, 0, none⟩) N cap k, .slice sa sl sc]).run Try.prog w = .ok (.int .i64 (min 64 (N - k * 64) : Nat)) W') ∧ W'.ownsRow base 5 1 (.slice (some ⟨g, 0, none⟩) N cap) N (splice (u8s S) (k * 64) (u8s (T.take (min 64 (N - k * 64))))) ∧ w.grownBy W' (some g) := by
  obtain ⟨hl0, ⟨h1, _⟩ | ⟨g', cap', cur, h1, h2, hh, hn, hm, hz, ht⟩⟩ := h
  · simp at h1
  · simp at h1
    obtain ⟨rfl, rfl⟩ := h1
    rw [Nat.mul_one] at hl0 ht hz
    have hcl : (u8s (T.take (min 64 (N - k * 64)))).length = min 64 (N - k * 64) := by rw [u8s_length, List.length_take]; omega
    obtain ⟨bb, off, cap2, he, _, _, _, hc⟩ := hs.cells (by omega)
    simp at he
    obtain ⟨rfl, _, rfl⟩ := he
    have hrun := fun ty => run_copy_row (P := Try.prog) w 23 23 ty 5 g (k * 64) (min 64 (N - k * 64)) (cap - k * 64) ⟨bb, off, none⟩ sl sc cur 5 (u8s (T.take (min 64 (N - k * 64)))) Try.underlying23 size5 hh (by rw [hcl]; show min 64 (N - k * 64) = min sl (min 64 (N - k * 64)); omega) (fun j v hj => by
      have hj2 := (List.getElem?_eq_some_iff.1 hj).1
      rw [hcl] at hj2
      rw [addr_add, hc j (by omega), ← hj, u8s_get _ _ (by rw [List.length_take]; omega)]
      simp only [List.getD_eq_getElem?_getD, List.getElem?_take_of_lt hj2]) (by rw [hcl]; omega) (u8s_one _)
    have e0 : goInt (u8s (T.take (min 64 (N - k * 64)))).length = .int .i64 (min 64 (N - k * 64) : Nat) := by rw [hcl]; rfl
    refine ⟨w.setRow g (splice cur.toList (k * 64) (u8s (T.take (min 64 (N - k * 64))))).toArray, fun ty => by rw [scV_at, hrun ty, e0]; simp only [splice, List.append_assoc], ?_, grown_setRow w g _⟩
    have hsp := splice_take cur.toList (u8s (T.take (min 64 (N - k * 64)))) (k * 64) N (by rw [hcl]; omega) (by simp; omega)
    rw [ht] at hsp
    refine ⟨?_, .inr ⟨g, cap, _, rfl, h2, setRow_heap w g _ _ 5 _ hh, hn, hm, ?_, ?_⟩⟩
    · unfold splice
      rw [List.length_append, List.length_append, List.length_take, List.length_drop, hcl]; omega
    · simp only [List.size_toArray, splice, List.length_append, List.length_take, List.length_drop, Array.length_toList]
      rw [hcl]; omega
    · rw [Nat.mul_one]
      exact hsp
end Go.Proofs.Ytacgaflhcmflbaa

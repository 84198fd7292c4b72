/- Sectors byte by byte: what is counted, what is kept; rows that grow, each byte string of them in a block of its own. -/
import Derived.Test.YtacgaflhcmflbaaParN
set_option linter.unusedSimpArgs false
set_option linter.unusedVariables false
set_option maxRecDepth 100000
namespace Go.Proofs.Ytacgaflhcmflbaa
open Go.RowKit Pl
namespace Pl
/-- how many of the first i have a bad sector s, and the last of them -/
def cnt (L : List (List Nat)) (E : List (List Bool)) (s : Nat) : Nat → Nat
  | 0 => 0
  | i + 1 => cnt L E s i + if rc L E i s = true then 1 else 0
def lst (L : List (List Nat)) (E : List (List Bool)) (s : Nat) : Nat → Int
  | 0 => -1
  | i + 1 => if rc L E i s = true then (i : Int) else lst L E s i
theorem cnt_le (L : List (List Nat)) (E : List (List Bool)) (s : Nat) : ∀ i, cnt L E s i ≤ i
  | 0 => Nat.le_refl _
  | i + 1 => by
    have := cnt_le L E s i
    simp only [cnt]
    split <;> omega
theorem cnt_cases (L : List (List Nat)) (E : List (List Bool)) (s : Nat) : ∀ i, (cnt L E s i = 0 ∧ ∀ j, j < i → rc L E j s = false) ∨ (cnt L E s i = 1 ∧ ∃ j, j < i ∧ rc L E j s = true ∧ lst L E s i = j ∧ ∀ j', j' < i → j' ≠ j → rc L E j' s = false) ∨ (2 ≤ cnt L E s i ∧ ∃ j1 j2, j1 < j2 ∧ j2 < i ∧ rc L E j1 s = true ∧ rc L E j2 s = true)
  | 0 => .inl ⟨rfl, fun j hj => by omega⟩
  | i + 1 => by
    by_cases hi : rc L E i s = true
    · have e1 : cnt L E s (i + 1) = cnt L E s i + 1 := by simp only [cnt]; rw [if_pos hi]
      have e2 : lst L E s (i + 1) = i := by simp only [lst]; rw [if_pos hi]
      rw [e1, e2]
      rcases cnt_cases L E s i with ⟨h0, h⟩ | ⟨h0, j, hj, hr, _, _⟩ | ⟨h0, j1, j2, h1, h2, h3, h4⟩
      · exact .inr (.inl ⟨by omega, i, by omega, hi, rfl, fun j' hj' hne => h j' (by omega)⟩)
      · exact .inr (.inr ⟨by omega, j, i, hj, by omega, hr, hi⟩)
      · exact .inr (.inr ⟨by omega, j1, j2, h1, by omega, h3, h4⟩)
    · have e1 : cnt L E s (i + 1) = cnt L E s i := by simp only [cnt]; rw [if_neg hi]; rfl
      have e2 : lst L E s (i + 1) = lst L E s i := by simp only [lst]; rw [if_neg hi]
      have hf : rc L E i s = false := by cases h : rc L E i s <;> simp_all
      rw [e1, e2]
      rcases cnt_cases L E s i with ⟨h0, h⟩ | ⟨h0, j, hj, hr, hl, h⟩ | ⟨h0, j1, j2, h1, h2, h3, h4⟩
      · exact .inl ⟨h0, fun j hj => by
          by_cases e : j = i
          · rw [e]; exact hf
          · exact h j (by omega)⟩
      · exact .inr (.inl ⟨h0, j, by omega, hr, hl, fun j' hj' hne => by
          by_cases e : j' = i
          · rw [e]; exact hf
          · exact h j' (by omega) hne⟩)
      · exact .inr (.inr ⟨h0, j1, j2, h1, by omega, h3, h4⟩)
/-- stripe s has at most one bad sector -/
def OkS (L : List (List Nat)) (E : List (List Bool)) (s : Nat) : Prop := cnt L E s L.length ≤ 1 ∧ (cnt L E s L.length = 1 → bd E L.length s = false)
theorem okS_of {L : List (List Nat)} {E : List (List Bool)} (h : Apart L E) (s : Nat) : OkS L E s := by
  rcases cnt_cases L E s L.length with ⟨h0, _⟩ | ⟨h0, j, hj, hr, _, _⟩ | ⟨h0, j1, j2, h1, h2, h3, h4⟩
  · exact ⟨by omega, fun h => by omega⟩
  · exact ⟨by omega, fun _ => (h j s hj hr).1⟩
  · have := (h j2 s h2 h4).2 j1 h1
    rw [h3] at this
    cases this
theorem apart_of {L : List (List Nat)} {E : List (List Bool)} (h : ∀ q, q < mxL L → OkS L E (q / 64)) : Apart L E := fun i s hi hr => by
  have hsl : s * 64 < (L.getD i []).length := by
    unfold rc at hr
    simp at hr
    simpa using hr.2
  have hm := mxL_at hi
  have := h (s * 64) (by omega)
  rw [Nat.mul_div_cancel _ (by omega)] at this
  obtain ⟨h1, h2⟩ := this
  rcases cnt_cases L E s L.length with ⟨h0, h⟩ | ⟨h0, j, hj, hr2, _, h⟩ | ⟨h0, j1, j2, h1, h2, h3, h4⟩
  · rw [h i hi] at hr; cases hr
  · refine ⟨h2 h0, fun j' hj' => ?_⟩
    have hij : i = j := Classical.byContradiction fun e => by rw [h i hi e] at hr; cases hr
    exact h j' (by omega) (by omega)
  · omega
theorem lef_nx (L : List (List Nat)) (E : List (List Bool)) (P : List Nat) (i q : Nat) : lef L E P (i + 1) q = lef L E P i q ^^^ (wip L E i).getD q 0 := by
  unfold lef wips
  rw [List.range_succ, List.map_append, xorA_append, Nat.xor_assoc]
  simp [xorA]
theorem lef_rc {L : List (List Nat)} {E : List (List Bool)} {P : List Nat} {i q : Nat} (h : rc L E i (q / 64) = true) : lef L E P (i + 1) q = lef L E P i q := by
  have hb : bd E i (q / 64) = true := by unfold rc at h; simp at h; exact h.1
  rw [lef_nx, wip_get, if_pos hb, Nat.xor_zero]
theorem lef_in {L : List (List Nat)} {E : List (List Bool)} {P : List Nat} {i q : Nat} (h : rc L E i (q / 64) = false) (hq : q < (L.getD i []).length) : lef L E P (i + 1) q = lef L E P i q ^^^ (L.getD i []).getD q 0 := by
  rw [rc_of hq] at h
  rw [lef_nx, wip_get, h]
  rfl
theorem lef_out {L : List (List Nat)} {E : List (List Bool)} {P : List Nat} {i q : Nat} (hq : (L.getD i []).length ≤ q) : lef L E P (i + 1) q = lef L E P i q := by
  rw [lef_nx, wip_get]
  have : (L.getD i []).getD q 0 = 0 := by rw [List.getD_eq_getElem?_getD, List.getElem?_eq_none hq]; rfl
  rw [this]
  simp
theorem lef_0 (L : List (List Nat)) (E : List (List Bool)) (P : List Nat) (q : Nat) : lef L E P 0 q = P.getD q 0 := by simp [lef, wips, xorA]
/-- the i-th, its bad sectors' bytes below k told by F -/
def rowK (L : List (List Nat)) (E : List (List Bool)) (F : Nat → Nat) (i k : Nat) : List Nat := rng (L.getD i []).length fun q => if bd E i (q / 64) = true ∧ q < k then F q else (L.getD i []).getD q 0
theorem rowK_length (L : List (List Nat)) (E : List (List Bool)) (F : Nat → Nat) (i k : Nat) : (rowK L E F i k).length = (L.getD i []).length := rng_length _ _
theorem rowK_zero (L : List (List Nat)) (E : List (List Bool)) (F : Nat → Nat) (i : Nat) : rowK L E F i 0 = L.getD i [] := by
  unfold rowK
  refine (rng_congr fun q _ => ?_).trans (rng_eq _)
  rw [if_neg (by omega)]
theorem rowK_all (L : List (List Nat)) (E : List (List Bool)) (F : Nat → Nat) {i k : Nat} (h : (L.getD i []).length ≤ k) : rowK L E F i k = secI L E F i := by
  unfold rowK secI
  refine rng_congr fun q hq => ?_
  have : q < k := by omega
  simp [this]
theorem rowK_set (L : List (List Nat)) (E : List (List Bool)) (F : Nat → Nat) {i k : Nat} (h : bd E i (k / 64) = true) : (rowK L E F i k).set k (F k) = rowK L E F i (k + 1) := by
  refine rng_set ?_ fun j _ hj => ?_
  · rw [if_pos ⟨h, by omega⟩]
  · have : (j < k) = (j < k + 1) := by
      apply propext; constructor <;> intro _ <;> omega
    simp only [this]
theorem rowK_skip (L : List (List Nat)) (E : List (List Bool)) (F : Nat → Nat) {i k : Nat} (h : rc L E i (k / 64) = true → (L.getD i []).length ≤ k) : rowK L E F i k = rowK L E F i (k + 1) := by
  unfold rowK
  refine rng_congr fun q hq => ?_
  by_cases hj : q = k
  · subst hj
    have hb : ¬ bd E i (q / 64) = true := fun hb => by
      rw [rc_of hq] at h
      have := h hb
      omega
    rw [if_neg (fun x => hb x.1), if_neg (fun x => hb x.1)]
  · have : (q < k) = (q < k + 1) := by
      apply propext; constructor <;> intro _ <;> omega
    simp only [this]
theorem rowK_lt {L : List (List Nat)} {E : List (List Bool)} {F : Nat → Nat} {i k : Nat} (h : ∀ x ∈ L.getD i [], x < 256) (hF : ∀ q, F q < 256) : ∀ x ∈ rowK L E F i k, x < 256 :=
  rng_lt fun q _ => by
    split
    · exact hF q
    · exact byte_at h q
end Pl
/-- n byte strings in a row of the call's own, told by c, each in a block of its own -/
structure RowI (n lo : Nat) (v : Value) (Vs : List Value) (c : Nat → List Nat) (W : World) : Prop where
  row : W.ownsRow lo 23 1 v n Vs
  len : Vs.length = n
  el : ∀ j, j < n → W.ownsRow lo 5 1 (Vs.getD j undef) (c j).length (u8s (c j))
  ap : ∀ j k, j < n → k < n → j ≠ k → ∀ g, (Vs.getD j undef).ownBlock = some g → (Vs.getD k undef).ownBlock ≠ some g
theorem rowI_nil (lo : Nat) (c : Nat → List Nat) (W : World) : RowI 0 lo (.slice none 0 0) [] c W := ⟨World.ownsRow_nil _ _ _ _, rfl, fun j hj => by omega, fun j k hj => by omega⟩
theorem own_ty {W : World} {base e n g : Nat} {v : Value} {xs : List Value} (h : W.ownsRow base e 1 v n xs) (hg : v.ownBlock = some g) : ∃ cs, Blk W g e cs := by
  obtain ⟨hl, ⟨rfl, _⟩ | ⟨g', cap', cur, rfl, h2, hh, _⟩⟩ := h
  · cases hg
  · simp [Value.ownBlock] at hg
    subst hg
    exact ⟨cur.toList, by unfold Blk; simpa using hh⟩
theorem own_apart {W : World} {base base' e e' n n' g : Nat} {v v' : Value} {xs xs' : List Value} (h : W.ownsRow base e 1 v n xs) (h' : W.ownsRow base' e' 1 v' n' xs') (hne : e ≠ e') (hg : v.ownBlock = some g) : v'.ownBlock ≠ some g := fun hg' => by
  obtain ⟨_, h1⟩ := own_ty h hg
  obtain ⟨_, h2⟩ := own_ty h' hg'
  exact hne (blk_ty h1 h2)
theorem RowI.congr {n lo : Nat} {v : Value} {Vs : List Value} {c c' : Nat → List Nat} {W : World} (h : RowI n lo v Vs c W) (hc : ∀ j, j < n → c j = c' j) : RowI n lo v Vs c' W :=
  ⟨h.row, h.len, fun j hj => by rw [← hc j hj]; exact h.el j hj, h.ap⟩
theorem RowI.below {n lo : Nat} {v : Value} {Vs : List Value} {c : Nat → List Nat} {W W' : World} (h : RowI n lo v Vs c W) (hb : Below W.heap.size W W') : RowI n lo v Vs c W' :=
  ⟨own_below h.row hb, h.len, fun j hj => own_below (h.el j hj) hb, h.ap⟩
theorem RowI.lt {n lo : Nat} {v : Value} {Vs : List Value} {c : Nat → List Nat} {W : World} (h : RowI n lo v Vs c W) : ∀ k, v.ownBlock = some k → lo ≤ k := own_lt h.row
/-- the i-th has been written to -/
theorem RowI.upd {n lo : Nat} {v : Value} {Vs : List Value} {c : Nat → List Nat} {W W' : World} (h : RowI n lo v Vs c W) {i : Nat} (hi : i < n) {X : List Nat} (hX : X.length = (c i).length) (ho : W'.ownsRow lo 5 1 (Vs.getD i undef) (c i).length (u8s X)) (hg : W.grownBy W' (Vs.getD i undef).ownBlock) : RowI n lo v Vs (fun j => if j = i then X else c j) W' := by
  refine ⟨own_keep h.row hg fun r e => own_apart (h.el i hi) h.row (by decide) e, h.len, fun j hj => ?_, h.ap⟩
  by_cases hji : j = i
  · subst hji; rw [if_pos rfl, hX]; exact ho
  · rw [if_neg hji]
    exact own_keep (h.el j hj) hg fun r e e2 => h.ap j i hj hi hji r e2 e
theorem RowI.ownRows {n lo : Nat} {v : Value} {Vs : List Value} {c : Nat → List Nat} {W : World} (h : RowI n lo v Vs c W) {R : List (List Nat)} (hR : R.length = n) (hc : ∀ i, i < n → R[i]? = some (c i)) (hx : ∀ i, i < n → ∀ x ∈ c i, x < 256) : OwnRows lo W v R := by
  refine ⟨Vs, by rw [hR]; exact h.row, fun i u B hu hB => ?_⟩
  have hi : i < n := by have := (List.getElem?_eq_some_iff.1 hu).1; rw [h.len] at this; exact this
  rw [hc i hi] at hB
  simp at hB
  subst hB
  have he := h.el i hi
  have e : Vs.getD i undef = u := by rw [List.getD_eq_getElem?_getD, hu]; rfl
  rw [e] at he
  obtain ⟨sp, cap, rfl, _, _⟩ := ownsRow_slice he
  exact elem_own (hx i hi) he
/-- append(row, b), b made just ahead -/
theorem wpList_append_rowI {W0 w : World} {ops : Array Oper} {rest : List Oper} {o : Oper} {a : Act} {Q : Exit → Act → World → Prop} (hgd : o.guard = none) (s x : Operand)
    (ho : o.op = .call { callee := .builtin .append, args := #[s, x], argTypes := #[22, 22] })
    (lo : Nat) (v : Value) (n : Nat) (Vs : List Value) (c : Nat → List Nat) (hs : a.eval s = v) (h0 : RowI n lo v Vs c W0) (hb : Below W0.heap.size W0 w)
    (B : List Nat) (a' : Option Addr) (n' c' : Nat) (hn' : B.length = n') (hB : w.ownsRow W0.heap.size 5 1 (.slice a' n' c') n' (u8s B))
    (hx : a.eval x = .slice (some ⟨w.heap.size, 0, none⟩) 1 1)
    (hbytes : n + 1 ≤ 4294967296) (hlo : lo ≤ W0.heap.size)
    (h : ∀ v' w', RowI (n + 1) lo v' (Vs ++ [.slice a' n' c']) (fun j => if j < n then c j else B) w' → (w.alloc (.cells #[.slice a' n' c'] 23 (0, 0))).grownBy w' v.ownBlock → wpList Try.prog ops Q rest (a.put o.dst v') w') :
    wpList Try.prog ops Q (o :: rest) a (w.alloc (.cells #[.slice a' n' c'] 23 (0, 0))) := by
  subst hn'
  obtain ⟨i0, hi, hz0, hz1, hz2⟩ := info_parts infoR
  have hA : Below w.heap.size w (w.alloc (.cells #[.slice a' B.length c'] 23 (0, 0))) := (Below.refl _ _).alloc (Nat.le_refl _) _
  have h1 := h0.below hb
  have h2 := h1.below hA
  have hB2 := own_below hB hA
  refine wpList_append_own _ hgd s x _ ho lo 23 i0 (.slice none 0 0) 1 24 Try.underlying22 hi hz0 hz1 hz2 rfl (by decide) v n Vs hs h2.row ⟨w.heap.size, 0, none⟩ 1 1 [.slice a' B.length c'] hx rfl (cell_one_new _ _ _) (by intro u hu; simp at hu; subst hu; rfl) (by unfold maxLen; omega) (by omega) (by have := hb.size; simp; omega) fun v' w' h3 h4 _ => h v' w' ?_ h4
  have hg1 : ∀ j, j < n → (Vs ++ [Value.slice a' B.length c']).getD j undef = Vs.getD j undef := fun j hj => by
    rw [List.getD_eq_getElem?_getD, List.getElem?_append_left (by rw [h0.len]; exact hj), ← List.getD_eq_getElem?_getD]
  have hg2 : (Vs ++ [Value.slice a' B.length c']).getD n undef = .slice a' B.length c' := by
    rw [List.getD_eq_getElem?_getD, List.getElem?_append_right (by rw [h0.len]; exact Nat.le_refl _), h0.len]
    simp
  have hap : ∀ j, j < n → ∀ g, (Vs.getD j undef).ownBlock = some g → (Value.slice a' B.length c').ownBlock ≠ some g := fun j hj g hg hg2 => by
    have e1 := ((h0.el j hj).lt g hg).2
    have e2 := (hB.lt g hg2).1
    omega
  refine ⟨h3, by simp [h0.len], fun j hj => ?_, fun j k hj hk hjk g hg => ?_⟩
  · by_cases hjn : j < n
    · simp only [if_pos hjn]
      rw [hg1 j hjn]
      exact own_keep (h2.el j hjn) h4 fun r e => own_apart h2.row (h2.el j hjn) (by decide) e
    · obtain rfl : j = n := by omega
      simp only [if_neg hjn]
      rw [hg2]
      exact own_keep (own_base hB2 hlo) h4 fun r e => own_apart h2.row hB2 (by decide) e
  · by_cases hjn : j < n
    · rw [hg1 j hjn] at hg
      by_cases hkn : k < n
      · rw [hg1 k hkn]; exact h0.ap j k hjn hkn hjk g hg
      · obtain rfl : k = n := by omega
        rw [hg2]; exact hap j hjn g hg
    · obtain rfl : j = n := by omega
      rw [hg2] at hg
      by_cases hkn : k < j
      · rw [hg1 k hkn]
        exact fun e => hap k hkn g e hg
      · omega
end Go.Proofs.Ytacgaflhcmflbaa

/- parity.apart: a contract. -/
import Derived.Test.YtacgaflhcmflbaaParD
import Derived.Laws.CopyOwn
import Derived.Shelf.Abstract
set_option linter.unusedSimpArgs false
set_option linter.unusedVariables false
set_option maxRecDepth 100000
namespace Go.Proofs.Ytacgaflhcmflbaa
open Go.RowKit Go.Shelf Pl
namespace Pl
/-- n bools told by their places -/
def rngB (n : Nat) (f : Nat → Bool) : List Bool := (List.range n).map f
theorem rngB_length (n : Nat) (f : Nat → Bool) : (rngB n f).length = n := by simp [rngB]
theorem rngB_get (n : Nat) (f : Nat → Bool) {i : Nat} (h : i < n) : (rngB n f).getD i false = f i := by simp [rngB, List.getD, h]
theorem rngB_congr {n : Nat} {f g : Nat → Bool} (h : ∀ i, i < n → f i = g i) : rngB n f = rngB n g := by
  unfold rngB
  exact List.map_congr_left fun i hi => h i (List.mem_range.1 hi)
theorem rngB_set {n : Nat} {f g : Nat → Bool} {i : Nat} {c : Bool} (h1 : c = g i) (h2 : ∀ j, j < n → j ≠ i → f j = g j) : (rngB n f).set i c = rngB n g := by
  apply List.ext_getElem?
  intro j
  by_cases hj : j < n
  · by_cases he : i = j
    · subst he
      rw [List.getElem?_set_self (by rw [rngB_length]; exact hj)]
      simp [rngB, hj, h1]
    · rw [List.getElem?_set_ne he]
      simp [rngB, hj, h2 j hj (Ne.symm he)]
  · rw [List.getElem?_eq_none (by rw [List.length_set, rngB_length]; omega), List.getElem?_eq_none (by rw [rngB_length]; omega)]
/-- is sector s of the i-th marked? -/
def bd (E : List (List Bool)) (i s : Nat) : Bool := (E.getD i []).getD s false
/-- .. and reached? -/
def rc (L : List (List Nat)) (E : List (List Bool)) (i s : Nat) : Bool := bd E i s && decide (s * 64 < (L.getD i []).length)
/-- no stripe has a bad sector of a member beside another bad one -/
def Apart (L : List (List Nat)) (E : List (List Bool)) : Prop := ∀ i s, i < L.length → rc L E i s = true → bd E L.length s = false ∧ ∀ j, j < i → rc L E j s = false
/-- .. as far as the k-th sector of the i-th -/
def ApU (L : List (List Nat)) (E : List (List Bool)) (i k : Nat) : Prop := ∀ i' s, i' < i ∨ (i' = i ∧ s < k) → rc L E i' s = true → bd E L.length s = false ∧ ∀ j, j < i' → rc L E j s = false
/-- the stripes that are taken by then -/
def tk (L : List (List Nat)) (E : List (List Bool)) (i k s : Nat) : Bool := bd E L.length s || ((List.range i).any (fun j => rc L E j s) || (decide (s < k) && rc L E i s))
theorem tk_set (L : List (List Nat)) (E : List (List Bool)) (n i k : Nat) (h : rc L E i k = true) : (rngB n (tk L E i k)).set k true = rngB n (tk L E i (k + 1)) := by
  refine rngB_set ?_ fun j _ hj => ?_
  · unfold tk; rw [h]; simp
  · unfold tk
    have : decide (j < k) = decide (j < k + 1) := by
      rw [decide_eq_decide]; omega
    rw [this]
theorem tk_skip (L : List (List Nat)) (E : List (List Bool)) (n i k : Nat) (h : rc L E i k = false) : rngB n (tk L E i k) = rngB n (tk L E i (k + 1)) := by
  refine rngB_congr fun j _ => ?_
  unfold tk
  by_cases hj : j = k
  · subst hj; rw [h]; simp
  · have : decide (j < k) = decide (j < k + 1) := by
      rw [decide_eq_decide]; omega
    rw [this]
theorem rc_out {L : List (List Nat)} {E : List (List Bool)} {i s nd N : Nat} (hd : (E.getD i []).length = nd) (hN : (L.getD i []).length = N) (h : mks nd N ≤ s) : rc L E i s = false := by
  subst hd hN
  unfold rc bd mks at *
  by_cases h1 : (E.getD i []).length ≤ s
  · rw [List.getD_eq_getElem?_getD (l := E.getD i []), List.getElem?_eq_none h1]; simp
  · have : ¬ s * 64 < (L.getD i []).length := by omega
    rw [decide_eq_false this, Bool.and_false]
theorem tk_next {L : List (List Nat)} {E : List (List Bool)} {n i nd N : Nat} (hd : (E.getD i []).length = nd) (hN : (L.getD i []).length = N) : rngB n (tk L E i (mks nd N)) = rngB n (tk L E (i + 1) 0) := by
  refine rngB_congr fun s _ => ?_
  unfold tk
  rw [List.range_succ, List.any_append]
  by_cases h : s < mks nd N
  · simp [h]
  · rw [rc_out hd hN (by omega)]
    simp [rc_out hd hN (show mks nd N ≤ s by omega)]
theorem apU_step {L : List (List Nat)} {E : List (List Bool)} {i k : Nat} (h : ApU L E i k) (ht : rc L E i k = true → tk L E i k k = false) : ApU L E i (k + 1) := by
  intro i' s hs hr
  by_cases he : i' = i ∧ s = k
  · obtain ⟨rfl, rfl⟩ := he
    have := ht hr
    unfold tk at this
    simp only [Bool.or_eq_false_iff] at this
    refine ⟨this.1, fun j hj => ?_⟩
    have h2 := this.2.1
    rw [List.any_eq_false] at h2
    simpa using h2 j (List.mem_range.2 hj)
  · exact h i' s (by omega) hr
theorem apU_next {L : List (List Nat)} {E : List (List Bool)} {i nd N : Nat} (hd : (E.getD i []).length = nd) (hN : (L.getD i []).length = N) (h : ApU L E i (mks nd N)) : ApU L E (i + 1) 0 := by
  intro i' s hs hr
  by_cases he : i' = i
  · subst he
    refine h i' s (.inr ⟨rfl, ?_⟩) hr
    apply Classical.byContradiction
    intro hn
    rw [rc_out hd hN (by omega)] at hr
    cases hr
  · exact h i' s (by omega) hr
theorem apU_all {L : List (List Nat)} {E : List (List Bool)} (h : ApU L E L.length 0) : Apart L E := fun i s hi hr => h i s (.inl hi) hr
theorem apU_zero (L : List (List Nat)) (E : List (List Bool)) : ApU L E 0 0 := fun i s h => by omega
theorem not_apart {L : List (List Nat)} {E : List (List Bool)} {i k : Nat} (hi : i < L.length) (hr : rc L E i k = true) (ht : tk L E i k k = true) : ¬ Apart L E := by
  intro h
  obtain ⟨h1, h2⟩ := h i k hi hr
  unfold tk at ht
  rw [h1] at ht
  simp only [Nat.lt_irrefl, decide_false, Bool.false_and, Bool.or_false, Bool.false_or, List.any_eq_true, List.mem_range] at ht
  obtain ⟨j, hj, hr2⟩ := ht
  rw [h2 j hj] at hr2
  cases hr2
theorem tk_start (L : List (List Nat)) (E : List (List Bool)) (S : Nat) (nd : Nat) (hd : (E.getD L.length []).length = nd) : splice (bls (List.replicate S false)) 0 (bls ((E.getD L.length []).take (min nd S))) = bls (rngB S (tk L E 0 0)) := by
  apply List.ext_getElem?
  intro s
  rw [splice_get _ _ _ (by rw [bls_length, bls_length, List.length_take, List.length_replicate]; omega)]
  simp only [Nat.not_lt_zero, if_false, Nat.zero_add, Nat.sub_zero, bls_length, List.length_take]
  have htk : ∀ s, tk L E 0 0 s = (E.getD L.length []).getD s false := fun s => by unfold tk bd; simp
  by_cases hs : s < S
  · have e2 : (bls (rngB S (tk L E 0 0)))[s]? = some (.bool ((E.getD L.length []).getD s false)) := by
      rw [bls_get _ _ (by rw [rngB_length]; exact hs), rngB_get _ _ hs, htk]
    rw [e2, hd]
    by_cases h1 : s < min (min nd S) nd
    · rw [if_pos h1, bls_get _ _ (by rw [List.length_take, hd]; omega)]
      simp only [List.getD_eq_getElem?_getD (l := List.take _ _), List.getElem?_take_of_lt (show s < min nd S by omega)]
      rfl
    · rw [if_neg h1, bls_get _ _ (by rw [List.length_replicate]; exact hs)]
      have : nd ≤ s := by omega
      rw [List.getD_eq_getElem?_getD (l := E.getD L.length []), List.getElem?_eq_none (by omega)]
      simp [List.getD, hs]
  · rw [if_neg (by omega), List.getElem?_eq_none (by rw [bls_length, List.length_replicate]; omega), List.getElem?_eq_none (by rw [bls_length, rngB_length]; omega)]
end Pl
theorem made_bls (n : Nat) : (madeCells (Value.bool false).cells (n * 1)).toList = bls (List.replicate n false) := by
  apply List.ext_getElem?
  intro i
  by_cases h : i < n
  · simp [madeCells, Value.cells, bls, h, Nat.mod_one]
  · simp [madeCells, Value.cells, bls, h]
theorem sizeB : (Try.prog.info? 4).map (·.size) = some 1 := by
  obtain ⟨i0, hi, hz0, hz1, hz2⟩ := infoB_parts infoB
  rw [hi]; simp [hz1]
theorem grown_setRow (w : World) (g : Nat) (cs : Array Value) : w.grownBy (w.setRow g cs) (some g) :=
  ⟨rfl, rfl, rfl, by simp [World.setRow], fun k _ hk => setRow_other w g k cs (fun e => hk (by rw [e]))⟩
/-- copy into a row that is known whole, as a step of a drawn region: all but the row is as it was -/
theorem step_copy_gr {P : Program} {ops : Array Oper} {o : Oper} {a : Act} {w : World} {K : Act → World → Prop} {Q : Exit → Act → World → Prop} {F : Prop} (hgd : o.guard = none) (d s : Operand) (dT sT : TypeId)
    (ho : o.op = .call { callee := .builtin .copy, args := #[d, s], argTypes := #[dT, sT] }) (elem : TypeId) (hu : P.underlying dT = some (.slice elem)) (hsz : (P.info? elem).map (·.size) = some 1)
    (dp sp : Option Addr) (dLen dCap sLen sCap : Nat) (hd : a.eval d = .slice dp dLen dCap) (hs : a.eval s = .slice sp sLen sCap)
    (g off : Nat) (cur : List Value) (t : TypeId) (hg : w.heap[g]? = some (.cells cur.toArray t (0, 0))) (cs : List Value) (hn : cs.length = Nat.min sLen dLen)
    (hpos : 0 < cs.length → dp = some ⟨g, off, none⟩ ∧ ∃ ad, sp = some ad ∧ ∀ j v, cs[j]? = some v → w.cell? (ad.add j) = some v)
    (hfit : off + cs.length ≤ cur.length) (h1 : ∀ v ∈ cs, v.oneCell' = true)
    (h : ∀ w', Hid (w'.heap[g]? = some (.cells (splice cur off cs).toArray t (0, 0))) → Hid (w.grownBy w' (some g)) → K (a.put o.dst (goInt cs.length)) w') :
    if Region.wanted o (yielded ops a.tmps) = true then Oper.wp P o a w K Q else F := by
  have hw : Region.wanted o (yielded ops a.tmps) = true := by simp [Region.wanted, hgd]
  rw [if_pos hw]
  by_cases h0 : cs.length = 0
  · obtain rfl : cs = [] := List.eq_nil_of_length_eq_zero h0
    have hrun := run_copy_none (P := P) w dT sT o.type elem dp sp dLen dCap sLen sCap hu hsz (by simpa using hn.symm)
    unfold Oper.wp
    simp [execOp, ho, resolve, invoke, builtin, hd, hs, hrun, Result.andThen]
    exact h w (show _ = _ by simpa [splice] using hg) (grownBy_refl _ _)
  · obtain ⟨rfl, ad, rfl, hsrc⟩ := hpos (by omega)
    have hrun := run_copy_row (P := P) w dT sT o.type elem g off dLen dCap ad sLen sCap cur.toArray t cs hu hsz hg hn hsrc (by simpa using hfit) h1
    unfold Oper.wp
    simp [execOp, ho, resolve, invoke, builtin, hd, hs, hrun, Result.andThen]
    exact h _ (show _ = _ by simpa [splice] using setRow_heap w g _ _ t _ hg) (grown_setRow w g _)
theorem blk_kept {A B : World} {row : Option Nat} {b : Nat} {t : TypeId} {c : List Value} (h : Blk A b t c) (hg : A.grownBy B row) (hr : ∀ r, row = some r → ∃ o : Obj, A.heap[r]? = some o ∧ o.isCells = false) : Blk B b t c := by
  refine h.grown hg fun e => ?_
  obtain ⟨o, ho, hc⟩ := hr b e.symm
  unfold Blk at h
  rw [h] at ho
  simp at ho
  subst ho
  cases hc
theorem res_bool {fn : Func} {p : Tmp} (h : fn.results = #[.cell p 4]) (tmps : Array Value) {w : World} {g : Nat} {b : Bool} (hp : tmps.getD p undef = .pointer (some ⟨g, 0, none⟩)) (hk : Blk w g 4 [.bool b]) : (results fn tmps).run Try.prog w = .ok (.bool b) w := by
  have hp' : tmps[p]?.getD undef = .pointer (some ⟨g, 0, none⟩) := by simpa using hp
  have hc := hk.cell (o := 0) rfl
  simp [results, h, hp', asAddr, loadVar, go_sem, Try.underlying4, hc]
theorem enters_bad (args : Array Value) (w : World) : (callFunc 30 args).run Try.prog w = .ok (.enter 30 args) w := enters_of Try.func30 (by kernel_rfl) rfl args w
/-- what stands between two members: R the result, T the row of taken stripes, X its box -/
structure ApI (L : List (List Nat)) (E : List (List Bool)) (S R T X : Nat) (w : World) (i k : Nat) (W : World) : Prop where
  res : ∃ b, Blk W R 4 [.bool b]
  row : Blk W T 4 (bls (rngB S (tk L E i k)))
  box : Blk W X 28 [.slice (some ⟨T, 0, none⟩) S S]
  ap : ApU L E i k
  bel : Below w.heap.size w W
/-- .. within the rounds of one member -/
def ApJ (L : List (List Nat)) (E : List (List Bool)) (S R T X : Nat) (w : World) (i B : Nat) (ds : List Deferred) (vb vd : Value) (k : Nat) (W : World) : Prop :=
  ApI L E S R T X w i k W ∧ Blk W B 23 [vb] ∧ Blk W (B + 1) 28 [vd] ∧ Ds w.heap.size B ds W
def ApX (L : List (List Nat)) (E : List (List Bool)) (R : Nat) (w : World) (B : Nat) (ds : List Deferred) (W : World) : Prop :=
  Blk W R 4 [.bool false] ∧ Below w.heap.size w W ∧ Ds w.heap.size B ds W ∧ ¬ Apart L E
theorem ds_own {w : World} {B C : Nat} {ds : List Deferred} (hC : B ≤ C) {A A' : World} {row : Option Nat} (h : Ds w.heap.size B ds A) (hg : A.grownBy A' row) (hr : ∀ r, row = some r → C ≤ r ∧ ∃ o : Obj, A.heap[r]? = some o ∧ o.isCells = false) : Ds w.heap.size B ds A' :=
  h.keep fun k hk _ hd => (hg.block k (Array.getElem?_eq_some_iff.1 hd).1 (fun e => by have := (hr k e.symm).1; omega)).trans hd
theorem apJ_own {L : List (List Nat)} {E : List (List Bool)} {S R T X : Nat} {w : World} {i B C : Nat} {ds : List Deferred} {vb vd : Value} (hB : w.heap.size ≤ B) (hC : B ≤ C) : OwnFrom C (ApJ L E S R T X w i B ds vb vd) := by
  rintro k A A' row ⟨⟨⟨b, h1⟩, h2, h3, h4, h5⟩, h6, h7, h8⟩ hg hr
  have hr2 := fun r e => (hr r e).2
  exact ⟨⟨⟨b, blk_kept h1 hg hr2⟩, blk_kept h2 hg hr2, blk_kept h3 hg hr2, h4, h5.grown hg h5.size (fun k e => by have := (hr k e).1; omega)⟩, blk_kept h6 hg hr2, blk_kept h7 hg hr2, ds_own hC h8 hg hr⟩
theorem apX_own {L : List (List Nat)} {E : List (List Bool)} {R : Nat} {w : World} {B C : Nat} {ds : List Deferred} (hB : w.heap.size ≤ B) (hC : B ≤ C) : OwnFrom C (fun (_ : Unit) => ApX L E R w B ds) := by
  rintro _ A A' row ⟨h1, h2, h3, h4⟩ hg hr
  exact ⟨blk_kept h1 hg (fun r e => (hr r e).2), h2.grown hg h2.size (fun k e => by have := (hr k e).1; omega), ds_own hC h3 hg hr, h4⟩
def ApartPost (L : List (List Nat)) (E : List (List Bool)) (w : World) (e : Ending) (w' : World) : Prop := ∃ o : Bool, e = .returned (.bool o) ∧ (o = true ↔ Apart L E) ∧ Below w.heap.size w w'
attribute [local go_sem] Oper.semAt_some
set_option maxHeartbeats 8000000 in
theorem apart_any (v vb : Value) (pa : Option Addr) (np pc : Nat) (L : List (List Nat)) (E : List (List Bool)) (w : World) (hr : IsRows w v L) (he : IsBRows w vb E) (hE : E.length = L.length + 1) (hL : L.length ≤ 1000000) (hnp : np = mxL L) (hm : mxL L ≤ 1000000) :
    Calls Try.prog 25 #[v, .slice pa np pc, vb] w (ApartPost L E w) := by
  obtain ⟨a, cap, rfl, hcap, hmax⟩ := hr.slice
  obtain ⟨ea, ecap, rfl, hecap, hemax⟩ := he.slice
  unfold maxLen at hmax hemax
  rw [hE] at hecap ⊢
  obtain ⟨n, hn⟩ : ∃ n, L.length = n := ⟨_, rfl⟩
  have hr' : IsRows w (.slice a n cap) L := by rw [← hn]; exact hr
  have he' : IsBRows w (.slice ea (n + 1) ecap) E := by rw [← hn, ← hE]; exact he
  rw [hn] at hL hcap hecap ⊢
  have hnp1 : np ≤ 1000000 := by omega
  obtain ⟨S, hS⟩ : ∃ S, (np + 63) / 64 = S := ⟨_, rfl⟩
  have hS1 : S ≤ 1000000 := by omega
  have HR := Lib.hid hr'
  have HE := Lib.hid he'
  have HN := Lib.hid hn
  have HEL : Hid (E.length = n + 1) := Lib.hid (by rw [hE, hn])
  have HNP := Lib.hid hnp
  have HS := Lib.hid hS
  obtain ⟨bb, bo, da, nd, dc, rfl, hbbl, hbc, hdc, hdm, hD⟩ := he'.at (i := n) (by omega)
  unfold maxLen at hdm
  have HD := Lib.hid hD
  obtain ⟨i0, hi, hz0, hz1, hz2⟩ := infoB_parts infoB
  have Hi := Lib.hid hi
  have Hz0 := Lib.hid hz0
  have Hz1 := Lib.hid hz1
  have Hz2 := Lib.hid hz2
  have hst := stripes_any np (w.alloc (.cells #[.bool false] 4)) (by omega)
  rw [hS] at hst
  clear hi hz0 hz1 hz2 hr he hr' he' hn hE hnp hm hS hD
  refine (callsIn_wide (n := 4)).1 ?_
  refine callsIn_of_wp_marks Try.func25 rfl trivial ?_ rfl
  simp only [Try.ntmps25, List.size_toArray, List.length_cons, List.length_nil, Nat.reduceAdd, Nat.reduceSub, Array.replicate_succ, Array.replicate_zero, List.push_toArray, List.append_toArray, List.nil_append, List.cons_append]
  refine wpIn_wide.2 ?_
  go_wp2_with fail
  refine hst.mono ?_
  rintro e w' ⟨rfl, rfl⟩
  go_wp2_with (at_make; refine wpList_make_full _ rfl _ _ 28 rfl (w.heap.size + 1) 4 i0 (.bool false) 1 Try.underlying28 Hi.out Hz0.out Hz1.out .i64 .i64 _ _ S rfl rfl rfl rfl (by rw [Hz2.out]; omega) (by unfold maxLen; omega) (by simp) ?_; intro w1 hown hgr)
  have hT : Blk w1 (w.heap.size + 1) 4 (bls (List.replicate S false)) := by
    have h1 := made_blk (g := w.heap.size + 1) (n := S) (by simpa using hown)
    have h2 := made_bls S
    rw [Nat.mul_one] at h2
    rw [← h2]; exact h1
  have hR1 : Blk w1 w.heap.size 4 [.bool false] := (Blk.new w 4 [.bool false]).grown hgr (by simp)
  have hb1 : Below w.heap.size w w1 := ((Below.refl w.heap.size w).alloc (Nat.le_refl _) _).grown hgr (by simp) (by simp)
  obtain ⟨W2, hW2⟩ : ∃ W2, w1.alloc (.cells #[.slice (some ⟨w.heap.size + 1, 0, none⟩) S S] 28) = W2 := ⟨_, rfl⟩
  obtain ⟨X, hX⟩ : ∃ X, w1.heap.size = X := ⟨_, rfl⟩
  have hXl : w.heap.size + 2 ≤ X := by have := hT.lt; omega
  have hB2 : Blk W2 X 28 [.slice (some ⟨w.heap.size + 1, 0, none⟩) S S] := by rw [← hW2, ← hX]; exact Blk.new w1 _ _
  have hT2 : Blk W2 (w.heap.size + 1) 4 (bls (List.replicate S false)) := by rw [← hW2]; exact hT.alloc _
  have hR2 : Blk W2 w.heap.size 4 [.bool false] := by rw [← hW2]; exact hR1.alloc _
  have hb2 : Below w.heap.size w W2 := by rw [← hW2]; exact hb1.alloc (by omega) _
  have cX := hB2.cell (o := 0) rfl
  have cE := (hb2.cell (p := ⟨bb, bo + n, none⟩) hbbl).trans hbc
  have HT2 := Lib.hid hT2
  have HR2 := Lib.hid hR2
  have HB2 := Lib.hid hB2
  have HBW := Lib.hid hb2
  have HCS : Hid ((bls ((E.getD n []).take (min nd S))).length = Nat.min nd S) := Lib.hid (by rw [bls_length, List.length_take, HD.out.len]; show min (min nd S) nd = min nd S; omega)
  have HSR : Hid (0 < (bls ((E.getD n []).take (min nd S))).length → (some ⟨w.heap.size + 1, 0, none⟩ : Option Addr) = some ⟨w.heap.size + 1, 0, none⟩ ∧ ∃ ad, da = some ad ∧ ∀ j v, (bls ((E.getD n []).take (min nd S)))[j]? = some v → W2.cell? (ad.add j) = some v) := Lib.hid fun h0 => by
    rw [HCS.out] at h0
    have h0' : 0 < min nd S := h0
    obtain ⟨b2, o2, rfl, hb3, _⟩ := HD.out.at (s := 0) (by omega)
    refine ⟨rfl, _, rfl, fun j v hj => ?_⟩
    have hjl := (List.getElem?_eq_some_iff.1 hj).1
    rw [HCS.out] at hjl
    have hjl' : j < min nd S := hjl
    obtain ⟨b4, o4, he4, hb4, hc4⟩ := HD.out.at (s := j) (by omega)
    simp at he4
    obtain ⟨rfl, rfl⟩ := he4
    rw [addr_add, (HBW.out.cell (p := ⟨b2, o2 + j, none⟩) hb4), hc4]
    have : (bls ((E.getD n []).take (min nd S)))[j]? = some (.bool ((E.getD n []).getD j false)) := by
      rw [bls_get _ _ (by rw [List.length_take, HD.out.len]; omega)]
      simp only [List.getD_eq_getElem?_getD (l := List.take _ _), List.getElem?_take_of_lt (show j < min nd S by omega)]
      rfl
    rw [← hj, this]
  have HFT : Hid (0 + (bls ((E.getD n []).take (min nd S))).length ≤ (bls (List.replicate S false)).length) := Lib.hid (by rw [HCS.out, bls_length, List.length_replicate]; show 0 + min nd S ≤ S; omega)
  have HON : Hid (∀ v ∈ bls ((E.getD n []).take (min nd S)), v.oneCell' = true) := Lib.hid (bls_one _)
  rw [hW2, hX]
  clear hT hR1 hb1 hown hgr hst hbc hT2 hR2 hB2 hb2 hW2 hX
  have hnn : (n : Int) < (n : Int) + 1 := by omega
  refine wp_mono (Q := fun e a' W3 => e = .normal ∧ ∃ z : Value, a' = { tmps := (.slice a n cap :: .slice pa np pc :: .slice (some ⟨bb, bo, none⟩) (n + 1) ecap :: undef :: undef :: undef :: .pointer (some ⟨w.heap.size, 0, none⟩) :: .pointer (some ⟨X, 0, none⟩) :: undef :: undef :: undef :: .slice pa np pc :: .int .i64 np :: .int .i64 S :: .slice (some ⟨w.heap.size + 1, 0, none⟩) S S :: .slice (some ⟨w.heap.size + 1, 0, none⟩) S S :: .slice (some ⟨bb, bo, none⟩) (n + 1) ecap :: .slice a n cap :: .int .i64 n :: .pointer (some ⟨bb, bo + n, none⟩) :: .slice da nd dc :: z :: undef :: undef :: undef :: undef :: undef :: undef :: undef :: undef :: undef :: undef :: undef :: undef :: undef :: undef :: undef :: undef :: undef :: undef :: undef :: undef :: undef :: undef :: undef :: []).toArray, defers := [] } ∧ Hid (Blk W3 (w.heap.size + 1) 4 (splice (bls (List.replicate S false)) 0 (bls ((E.getD n []).take (min nd S))))) ∧ Hid (W2.grownBy W3 (some (w.heap.size + 1)))) ?reg ?rest
  case reg =>
    refine wp_region_noPanic ?_
    go_region_law (refine step_copy_gr rfl (.tmp 15) (.tmp 20) 28 28 rfl 4 Try.underlying28 sizeB (some ⟨w.heap.size + 1, 0, none⟩) da S S nd dc (by simp [Act.eval, Act.put]) (by simp [Act.eval, Act.put]) (w.heap.size + 1) 0 _ 4 HT2.out (bls ((E.getD n []).take (min nd S))) HCS.out HSR.out HFT.out HON.out ?_; intro W3 hG3 hg3)
    all_goals exact NoPanic.normal ⟨rfl, _, rfl, hG3, by first | exact hg3 | exact Lib.hid (grownBy_trans (⟨rfl, rfl, rfl, Nat.le_refl _, fun _ _ _ => rfl⟩ : W2.grownBy W2.drew (some (w.heap.size + 1))) hg3.out)⟩
  case rest =>
  rintro e a' W3 ⟨rfl, z, rfl, hG3, hg3⟩
  have hT3 : Blk W3 (w.heap.size + 1) 4 (bls (rngB S (tk L E 0 0))) := by
    have h1 := hG3.out
    have h2 := tk_start L E S nd (by rw [HN.out]; exact HD.out.len)
    rw [HN.out] at h2
    rw [h2] at h1
    exact h1
  have HA : Hid (ApI L E S w.heap.size (w.heap.size + 1) X w 0 0 W3) := Lib.hid ⟨⟨false, HR2.out.grown hg3.out (by simp)⟩, hT3, HB2.out.grown hg3.out (by simp; omega), apU_zero L E, HBW.out.grown hg3.out HBW.out.size (by simp)⟩
  clear hG3 hg3 hT3 hnn HCS HSR HFT HON HT2 HR2 HB2 HBW cX cE hbbl
  go_wp2_with fail
  refine (wpIn_wide (n := 4)).1 ?_
  refine wpIn_loop (fun a' wr => ∃ (i : Nat) (u8 u9 u25 u26 u27 u28 u29 u30 u31 u32 u33 u34 u44 : Value) (ds : List Deferred), (i ≤ n ∧ ApI L E S w.heap.size (w.heap.size + 1) X w i 0 wr ∧ Ds w.heap.size wr.heap.size ds wr) ∧ a' = { tmps := (.slice a n cap :: .slice pa np pc :: .slice (some ⟨bb, bo, none⟩) (n + 1) ecap :: undef :: undef :: undef :: .pointer (some ⟨w.heap.size, 0, none⟩) :: .pointer (some ⟨X, 0, none⟩) :: u8 :: u9 :: undef :: .slice pa np pc :: .int .i64 np :: .int .i64 S :: .slice (some ⟨w.heap.size + 1, 0, none⟩) S S :: .slice (some ⟨w.heap.size + 1, 0, none⟩) S S :: .slice (some ⟨bb, bo, none⟩) (n + 1) ecap :: .slice a n cap :: .int .i64 n :: .pointer (some ⟨bb, bo + n, none⟩) :: .slice da nd dc :: z :: .slice a n cap :: .int .i64 n :: .int .i64 i :: u25 :: u26 :: u27 :: u28 :: u29 :: u30 :: u31 :: u32 :: u33 :: u34 :: undef :: undef :: undef :: undef :: undef :: undef :: undef :: undef :: undef :: u44 :: []).toArray, defers := ds }) (fun a' _ => n - (intOf (a'.tmps.getD 24 undef)).toNat) ⟨0, _, _, _, _, _, _, _, _, _, _, _, _, _, [], ⟨Nat.zero_le _, HA.out, trivial⟩, rfl⟩ ?_
  rintro _ wr ⟨i, u8, u9, u25, u26, u27, u28, u29, u30, u31, u32, u33, u34, u44, ds, ⟨hi, hA, hds⟩, rfl⟩
  have HI := Lib.hid hA
  have HDS := Lib.hid hds
  clear HA hA hds
  by_cases hlt : i < n
  · obtain ⟨lb, lo, a', c', rfl, hlbl, hlc, hlI⟩ := HR.out.at (i := i) (by rw [HN.out]; exact hlt)
    obtain ⟨eb, eo, da', nd', dc', hee, hebl, hec, hdc', hdm', hD'⟩ := HE.out.at (i := i) (by rw [HEL.out]; omega)
    simp at hee
    obtain ⟨rfl, rfl⟩ := hee
    have cl := (HI.out.bel.cell (p := ⟨lb, lo + i, none⟩) hlbl).trans hlc
    have ce := (HI.out.bel.cell (p := ⟨bb, bo + i, none⟩) hebl).trans hec
    obtain ⟨_, _, hsl, hNc, hcm⟩ := hlI.slice
    simp at hsl
    obtain ⟨rfl, rfl⟩ := hsl
    have hNm := mxL_at (L := L) (i := i) (by rw [HN.out]; exact hlt)
    have HNL := Lib.hid (rfl : (L.getD i []).length = (L.getD i []).length)
    obtain ⟨N, hNN⟩ : ∃ N, (L.getD i []).length = N := ⟨_, rfl⟩
    rw [hNN] at cl hNc hNm
    have HNN := Lib.hid hNN
    have HDD := Lib.hid hD'
    have hin : (i : Int) < (n : Int) + 1 := by omega
    clear hlI hlc hec hNN HNL hD'
    gi_wp2_with fail
    refine ⟨trivial, ?_⟩
    refine (badSectors_any Fence.wide _ trivial rfl _ _ _ _ _ _ _).mono ?_
    rintro e w' ⟨rfl, rfl⟩
    obtain ⟨W0, hW0⟩ : ∃ W0, (wr.alloc (.cells #[.slice a' N c'] 23)).alloc (.cells #[.slice da' nd' dc'] 28) = W0 := ⟨_, rfl⟩
    obtain ⟨B, hB⟩ : ∃ B, wr.heap.size = B := ⟨_, rfl⟩
    have hBw : w.heap.size ≤ B := by rw [← hB]; exact HI.out.bel.size
    have hsz0 : W0.heap.size = B + 2 := by rw [← hW0, ← hB]; simp
    have hinv0 : ApJ L E S w.heap.size (w.heap.size + 1) X w i B ds (.slice a' N c') (.slice da' nd' dc') 0 W0 := by
      obtain ⟨⟨b, h1⟩, h2, h3, h4, h5⟩ := HI.out
      refine ⟨⟨⟨b, ?_⟩, ?_, ?_, h4, ?_⟩, ?_, ?_, ?_⟩
      · rw [← hW0]; exact (h1.alloc _).alloc _
      · rw [← hW0]; exact (h2.alloc _).alloc _
      · rw [← hW0]; exact (h3.alloc _).alloc _
      · rw [← hW0]; exact (h5.alloc h5.size _).alloc (by have := h5.size; simp; omega) _
      · rw [← hW0, ← hB]; exact (Blk.new wr _ _).alloc _
      · rw [← hW0, ← hB]
        have := Blk.new (wr.alloc (.cells #[.slice a' N c'] 23)) 28 [.slice da' nd' dc']
        rw [World.size_alloc] at this
        exact this
      · rw [← hB]
        refine HDS.out.below ?_
        rw [← hW0]
        exact ((Below.refl wr.heap.size wr).alloc (Nat.le_refl _) _).alloc (by simp) _
    have HJ0 := Lib.hid hinv0
    have HEi := HDD.out.len
    have hN9 : N ≤ 1000000 := by have := HNP.out; omega
    have hrcT : ∀ k, k < mks nd' N → bd E i k = true → rc L E i k = true := fun k hk hs => by
      unfold rc
      rw [hs, HNN.out, decide_eq_true (mks_lt hk).2]
      rfl
    have hrcF : ∀ k, bd E i k = false → rc L E i k = false := fun k hs => by unfold rc; rw [hs]; rfl
    have HRT := Lib.hid hrcT
    have HRF := Lib.hid hrcF
    clear hinv0 hrcT hrcF HI HDS
    simp only [World.size_alloc] at *
    rw [hW0, hB]
    clear hW0 hB
    gi_wp2_with fail
    refine range_sel rfl (by omega) (gf := 30) (lb := #[.pointer (some ⟨B + 1, 0, none⟩), .pointer (some ⟨B, 0, none⟩)]) rfl trivial enters_bad (mks nd' N) (fun k => bd E i k)
      (fun k => #[.int .i64 k, scV a' N c' k]) (fun _ => rfl) (ApJ L E S w.heap.size (w.heap.size + 1) X w i B ds (.slice a' N c') (.slice da' nd' dc')) (apJ_own hBw (by omega)) (ApX L E w.heap.size w B ds) (apX_own hBw (by omega)) HJ0.out
      (fun k W hk hs h => ⟨⟨h.1.res, by rw [← tk_skip L E S i k (HRF.out k hs)]; exact h.1.row, h.1.box, apU_step h.1.ap (fun hr => by rw [HRF.out k hs] at hr; cases hr), h.1.bel⟩, h.2⟩)
      (fun l J Jx W hJI hJd hsk hY h0 => bad_rounds 3 (by omega) l (B + 1) B N c' nd' dc' a' da' (fun k => bd E i k) (by omega) hNc hdc' hdm' J Jx hJd hsk (fun k W hJ => ⟨(hJI k W hJ).2.2.1.cell rfl, (hJI k W hJ).2.1.cell rfl, fun s hs => by
        obtain ⟨b5, o5, h51, h52, h53⟩ := HDD.out.at hs
        exact ⟨b5, o5, h51, ((hJI k W hJ).1.bel.cell (p := ⟨b5, o5 + s, none⟩) h52).trans h53⟩⟩) hY W h0)
      ?a1 ?assign ?body ?done ?stop
    case assign =>
      intro l k W K hK
      gi_wp2
      exact hK
    case body =>
      rintro l k W hk hsel ⟨hA, hb1, hb2, hds⟩
      have hkk := mks_lt hk
      have hkS : k < S := by have := HS.out; have := HNP.out; omega
      have hrc := HRT.out k hk hsel
      obtain ⟨b0, hRb⟩ := hA.res
      have cX := hA.box.cell (o := 0) rfl
      have cT := hA.row.cell (bls_get _ k (by rw [rngB_length]; exact hkS))
      rw [rngB_get _ _ hkS] at cT
      have fT := hA.row.frozen k
      have cR := hRb.cell (o := 0) rfl
      have fR := hRb.frozen 0
      have HA := Lib.hid hA
      have HRb := Lib.hid hRb
      have HB1 := Lib.hid hb1
      have HB2 := Lib.hid hb2
      have HDS := Lib.hid hds
      have hkS2 : (k : Int) < (S : Int) := by omega
      clear hA hRb hb1 hb2 hds hsel hk hkk
      cases htk : tk L E i k k with
      | true =>
        rw [htk] at cT
        have HNA := Lib.hid (not_apart (by rw [HN.out]; exact hlt) hrc htk)
        clear htk hrc
        gi_wp2
        refine ⟨(KeepsOthers.setCell _ _ _).from _, ?_, ?_, ?_, HNA.out⟩
        · have := HRb.out.set 0 (.bool false)
          exact this
        · exact HA.out.bel.setCell (Nat.le_refl _) _
        · refine HDS.out.keep fun q hq _ hd => ?_
          rw [Below.heap_setCell W ⟨w.heap.size, 0, none⟩ _ q (by
            intro e
            have h1 := HRb.out
            unfold Blk at h1
            simp at e
            rw [e, h1] at hd
            cases hd)]
          exact hd
      | false =>
        rw [htk] at cT
        have HAP := Lib.hid (apU_step HA.out.ap (fun _ => htk))
        have HST := Lib.hid (tk_set L E S i k hrc)
        clear htk hrc
        gi_wp2
        refine ⟨(KeepsOthers.setCell _ _ _).from _, ⟨⟨b0, ?_⟩, ?_, ?_, HAP.out, ?_⟩, ?_, ?_, ?_⟩
        · exact HRb.out.setOther (by simp) _
        · have := HA.out.row.set k (.bool true)
          rw [bls_set, HST.out] at this
          exact this
        · exact HA.out.box.setOther (by simp; omega) _
        · exact HA.out.bel.setCell (by simp) _
        · exact HB1.out.setOther (fun e => by
            have h1 := HB1.out
            have h2 := HA.out.row
            simp at e
            rw [e] at h1
            exact absurd (blk_ty h1 h2) (by decide)) _
        · exact HB2.out.setOther (fun e => by
            have h1 := HB2.out
            have h2 := HA.out.row
            simp at e
            rw [e] at h1
            exact absurd (blk_ty h1 h2) (by decide)) _
        · refine HDS.out.keep fun q hq _ hd => ?_
          rw [Below.heap_setCell W ⟨w.heap.size + 1, k, none⟩ _ q (by
            intro e
            have h1 := HA.out.row
            unfold Blk at h1
            simp at e
            rw [e, h1] at hd
            cases hd)]
          exact hd
    case done =>
      rintro D W hD ⟨hA, hb1, hb2, hds⟩ hW
      have HA : Hid (ApI L E S w.heap.size (w.heap.size + 1) X w (i + 1) 0 W) := Lib.hid ⟨hA.res, by rw [← tk_next HEi HNN.out]; exact hA.row, hA.box, apU_next HEi HNN.out hA.ap, hA.bel⟩
      have HDS : Hid (Ds w.heap.size W.heap.size ({ target := .collected D, args := #[] } :: ds) W) := Lib.hid ⟨D, rfl, by omega, (Array.getElem?_eq_some_iff.1 hW).1, hW, hds.mono (by omega)⟩
      clear hA hb1 hb2 hds hW
      gi_wp2
      refine ⟨⟨i + 1, _, _, _, _, _, _, _, _, _, _, _, _, _, _, ⟨by omega, HA.out, HDS.out⟩, rfl⟩, ?_⟩
      simp [intOf]; omega
    case stop =>
      rintro D W hD ⟨hR, hbel, hds, hna⟩ hW
      have HR2 := Lib.hid hR
      have HBL := Lib.hid hbel
      have HNA := Lib.hid hna
      have HDS : Hid (Ds w.heap.size W.heap.size ({ target := .collected D, args := #[] } :: ds) W) := Lib.hid ⟨D, rfl, by omega, (Array.getElem?_eq_some_iff.1 hW).1, hW, hds.mono (by omega)⟩
      clear hR hbel hds hna hW
      gi_wp2
      exact leaves_ds HDS.out (Lv.refl _ _) fun W' hl => ⟨_, res_bool rfl _ rfl (hl.blk HR2.out), false, rfl, ⟨fun h => (by cases h), fun h => absurd h HNA.out⟩, HBL.out.trans hl.1⟩
  · obtain rfl : i = n := by omega
    obtain ⟨b0, hRb⟩ := HI.out.res
    have cR := hRb.cell (o := 0) rfl
    have fR := hRb.frozen 0
    have HRb := Lib.hid hRb
    have HAP : Hid (Apart L E) := Lib.hid (apU_all (by rw [HN.out]; exact HI.out.ap))
    clear hRb
    gi_wp2_with fail
    go_wp2_with fail
    refine leaves_ds (U := wr.heap.size) (B := w.heap.size) (HDS.out.keep fun q hq _ hd => ?_) (Lv.refl _ _) ?_
    rotate_left
    · intro W' hl
      exact ⟨_, res_bool rfl _ rfl (hl.blk (HRb.out.set 0 (.bool true))), true, rfl, ⟨fun _ => HAP.out, fun _ => rfl⟩, (HI.out.bel.setCell (Nat.le_refl _) _).trans hl.1⟩
    rw [Below.heap_setCell wr ⟨w.heap.size, 0, none⟩ _ q (by
      intro e
      have h1 := HRb.out
      unfold Blk at h1
      simp at e
      rw [e, h1] at hd
      cases hd)]
    exact hd
end Go.Proofs.Ytacgaflhcmflbaa

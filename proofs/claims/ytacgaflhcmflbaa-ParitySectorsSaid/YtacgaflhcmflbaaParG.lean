/- parity.Sectors: a contract. -/
import Derived.Test.YtacgaflhcmflbaaParF
import Derived.StillTailTactics
set_option linter.unusedSimpArgs false
set_option linter.unusedVariables false
set_option maxRecDepth 100000
namespace Go.Proofs.Ytacgaflhcmflbaa
open Go.RowKit Go.Shelf Pl
theorem seg_eq {np o m : Nat} (F : Nat → Nat) (h : o + m ≤ np) : ((rng np F).drop o).take m = seg F o m := by
  refine rng_eq' (by rw [List.length_take, List.length_drop, rng_length]; omega) fun i hi => ?_
  rw [List.getD_eq_getElem?_getD, List.getElem?_take_of_lt hi, List.getElem?_drop, ← List.getD_eq_getElem?_getD, rng_get _ _ (by omega)]
/-- what Sectors asks -/
def SecOk (L : List (List Nat)) (np : Nat) (S : List Int) (E : List (List Bool)) : Prop := E.length = L.length + 1 ∧ FitOk L np S ∧ Apart L E
def SecPost (L : List (List Nat)) (P : List Nat) (S : List Int) (E : List (List Bool)) (w : World) (e : Ending) (w' : World) : Prop :=
  Below w.heap.size w w' ∧ ((SecOk L P.length S E ∧ ∃ G, e = .returned (.tuple #[.slice (some ⟨G, 0, none⟩) L.length L.length, .bool true]) ∧ IsRows w' (.slice (some ⟨G, 0, none⟩) L.length L.length) (secL L E P)) ∨
    (¬ SecOk L P.length S E ∧ e = .returned (.tuple #[.slice none 0 0, .bool false])))
/-- what the two loops keep: the members' copies, the box of what is left, what is left -/
structure SI (n G lo X np : Nat) (lv : Value) (Vs : List Value) (c : Nat → List Nat) (m : Nat) (F : Nat → Nat) (w W : World) : Prop where
  wh : WhI n G lo Vs c m W
  nil : ∀ j, m ≤ j → j < n → Vs[j]? = some (.slice none 0 0)
  box : Blk W X 23 [lv]
  lef : W.ownsRow 0 5 1 lv np (u8s (rng np F))
  bel : Below w.heap.size w W
  siz : lo ≤ W.heap.size
/-- where they lie -/
structure SP (G lo X : Nat) (lv : Value) (w : World) : Prop where
  lv : ∀ g, lv.ownBlock = some g → w.heap.size ≤ g ∧ g < lo
  lw : w.heap.size ≤ lo
  x : X < lo
  g : w.heap.size ≤ G ∧ G < X
namespace SI
variable {n G lo X np m : Nat} {lv : Value} {Vs : List Value} {c : Nat → List Nat} {F : Nat → Nat} {w A B : World}
theorem congr (h : SI n G lo X np lv Vs c m F w A) {c' : Nat → List Nat} (hc : ∀ j, j < m → c j = c' j) : SI n G lo X np lv Vs c' m F w A := ⟨h.wh.congr hc, h.nil, h.box, h.lef, h.bel, h.siz⟩
theorem other (h : SI n G lo X np lv Vs c m F w A) {row : Option Nat} (hg : A.grownBy B row) (hr : ∀ r, row = some r → w.heap.size ≤ r ∧ ∃ o : Obj, A.heap[r]? = some o ∧ o.isCells = false) : SI n G lo X np lv Vs c m F w B := by
  have hr2 := fun r e => (hr r e).2
  refine ⟨h.wh.other hg hr2, h.nil, blk_kept h.box hg hr2, own_keep h.lef hg (fun r e e2 => ?_), h.bel.grown hg h.bel.size (fun k e => (hr k e).1), Nat.le_trans h.siz hg.size⟩
  obtain ⟨o, ho, hc⟩ := hr2 r e
  have hl := h.lef
  obtain ⟨sp, cap, hv, _, _⟩ := ownsRow_slice hl
  rw [hv] at hl e2
  obtain ⟨_, ⟨h1, _⟩ | ⟨g', cap', cur, h1, h2, hh, _⟩⟩ := hl
  · simp at h1; rw [h1.1] at e2; simp [Value.ownBlock] at e2
  · simp at h1
    rw [h1.1] at e2
    simp [Value.ownBlock] at e2
    subst e2
    rw [hh] at ho
    simp at ho
    subst ho; cases hc
theorem below (h : SI n G lo X np lv Vs c m F w A) (hb : Below A.heap.size A B) : SI n G lo X np lv Vs c m F w B :=
  ⟨h.wh.below hb, h.nil, h.box.below hb h.box.lt, own_below h.lef hb, h.bel.trans (hb.mono h.bel.size), Nat.le_trans h.siz hb.size⟩
theorem alloc (h : SI n G lo X np lv Vs c m F w A) (o : Obj) : SI n G lo X np lv Vs c m F w (A.alloc o) := h.below ((Below.refl _ _).alloc (Nat.le_refl _) _)
/-- the i-th has been written to -/
theorem upd (h : SI n G lo X np lv Vs c m F w A) (hp : SP G lo X lv w) {i : Nat} (hi : i < m) {Y : List Nat} (hY : Y.length = (c i).length) (ho : B.ownsRow lo 5 1 (Vs.getD i undef) (c i).length (u8s Y)) (hg : A.grownBy B (Vs.getD i undef).ownBlock) : SI n G lo X np lv Vs (fun j => if j = i then Y else c j) m F w B := by
  refine ⟨h.wh.upd hi hY ho hg, h.nil, h.box.grown hg fun e => ?_, own_keep h.lef hg fun r e e2 => ?_, h.bel.grown hg h.bel.size fun k e => ?_, Nat.le_trans h.siz hg.size⟩
  · obtain ⟨_, cs, hb⟩ := h.wh.blk hi e.symm
    exact absurd (blk_ty h.box hb) (by decide)
  · have h1 := (h.wh.blk hi e).1
    have h2 := (hp.lv r e2).2
    omega
  · have h1 := (h.wh.blk hi e).1
    have := hp.lw
    omega
/-- what is left has been written to -/
theorem left (h : SI n G lo X np lv Vs c m F w A) (hp : SP G lo X lv w) {F' : Nat → Nat} (ho : B.ownsRow 0 5 1 lv np (u8s (rng np F'))) (hg : A.grownBy B lv.ownBlock) : SI n G lo X np lv Vs c m F' w B := by
  have hty : ∀ r, lv.ownBlock = some r → ∃ cs, Blk A r 5 cs := fun r e => by
    have hl := h.lef
    obtain ⟨sp, cap, hv, _, _⟩ := ownsRow_slice hl
    rw [hv] at hl e
    obtain ⟨_, ⟨h1, _⟩ | ⟨g', cap', cur, h1, h2, hh, _⟩⟩ := hl
    · simp at h1; rw [h1.1] at e; simp [Value.ownBlock] at e
    · simp at h1
      rw [h1.1] at e
      simp [Value.ownBlock] at e
      subst e
      exact ⟨cur.toList, by unfold Blk; simpa using hh⟩
  refine ⟨h.wh.keep hg fun r e => ⟨fun e2 => ?_, fun j hj e2 => ?_⟩, h.nil, h.box.grown hg fun e => ?_, ho, h.bel.grown hg h.bel.size fun k e => (hp.lv k e).1, Nat.le_trans h.siz hg.size⟩
  · subst e2
    obtain ⟨cs, hb⟩ := hty r e
    exact absurd (blk_ty h.wh.row hb) (by decide)
  · have h1 := (h.wh.blk hj e2).1
    have h2 := (hp.lv r e).2
    omega
  · obtain ⟨cs, hb⟩ := hty X e.symm
    exact absurd (blk_ty h.box hb) (by decide)
theorem own_ne_row {base m : Nat} {v : Value} {xs cs : List Value} (h : A.ownsRow base 5 1 v m xs) (hG : Blk A G 23 cs) : v.ownBlock ≠ some G := fun e => by
  obtain ⟨sp, cap, hv, _, _⟩ := ownsRow_slice h
  rw [hv] at h e
  obtain ⟨_, ⟨h1, _⟩ | ⟨g', cap', cur, h1, h2, hh, _⟩⟩ := h
  · simp at h1; rw [h1.1] at e; simp [Value.ownBlock] at e
  · simp at h1
    rw [h1.1] at e
    simp [Value.ownBlock] at e
    subst e
    have hb : Blk A g' 5 cur.toList := by unfold Blk; simpa using hh
    exact absurd (blk_ty hG hb) (by decide)
/-- one more -/
theorem put {i : Nat} (h : SI n G lo X np lv Vs c i F w A) (hp : SP G lo X lv w) (hi : i < n) {v : Value} {Y : List Nat} (ho : A.ownsRow lo 5 1 v Y.length (u8s Y)) (hf : ∀ j, j < i → ∀ g, (Vs.getD j undef).ownBlock = some g → v.ownBlock ≠ some g) :
    SI n G lo X np lv (Vs.set i v) (fun j => if j = i then Y else c j) (i + 1) F w (A.setCell ⟨G, i, none⟩ v) := by
  have hl := h.wh.len
  have hget : ∀ j, (Vs.set i v).getD j undef = if j = i then v else Vs.getD j undef := fun j => by
    by_cases hj : j = i
    · subst hj; rw [if_pos rfl]; simp [List.getD, hl, hi]
    · rw [if_neg hj]; simp [List.getD, List.getElem?_set_ne (Ne.symm hj)]
  refine ⟨⟨h.wh.row.set i v, by rw [List.length_set]; exact hl, fun j hj => ?_, fun j k hj hk hjk g hg => ?_⟩, fun j h1 h2 => ?_, h.box.setOther (by simp; have := hp.g; omega) _, ownsRow_setCell_other h.lef (own_ne_row h.lef h.wh.row) _, h.bel.setCell hp.g.1 _, by simpa using h.siz⟩
  · rw [hget]
    by_cases hji : j = i
    · subst hji; rw [if_pos rfl, if_pos rfl]
      exact ownsRow_setCell_other ho (own_ne_row ho h.wh.row) _
    · rw [if_neg hji, if_neg hji]
      exact ownsRow_setCell_other (h.wh.el j (by omega)) (own_ne_row (h.wh.el j (by omega)) h.wh.row) _
  · rw [hget] at hg ⊢
    by_cases hji : j = i
    · rw [if_pos hji] at hg
      rw [if_neg (by omega)]
      intro e
      exact hf k (by omega) g e hg
    · rw [if_neg hji] at hg
      by_cases hki : k = i
      · rw [if_pos hki]; exact hf j (by omega) g hg
      · rw [if_neg hki]; exact h.wh.ap j k (by omega) (by omega) hjk g hg
  · rw [List.getElem?_set_ne (by omega)]; exact h.nil j (by omega) h2
end SI
/-- .. within the rounds of one member -/
def SJ (n G lo X np : Nat) (lv : Value) (Vs : List Value) (c : Nat → Nat → List Nat) (m : Nat) (F : Nat → Nat) (w : World) (B : Nat) (ds : List Deferred) (vb vd : Value) (k : Nat) (W : World) : Prop :=
  SI n G lo X np lv Vs (c k) m F w W ∧ Blk W B 23 [vb] ∧ Blk W (B + 1) 28 [vd] ∧ Ds w.heap.size B ds W
theorem sJ_own {n G lo X np m : Nat} {lv : Value} {Vs : List Value} {c : Nat → Nat → List Nat} {F : Nat → Nat} {w : World} {B C : Nat} {ds : List Deferred} {vb vd : Value} (hB : w.heap.size ≤ B) (hC : B ≤ C) : OwnFrom C (SJ n G lo X np lv Vs c m F w B ds vb vd) := by
  rintro k A A' row ⟨h1, h2, h3, h4⟩ hg hr
  have hr2 := fun r e => (hr r e).2
  exact ⟨h1.other hg (fun r e => ⟨by have := (hr r e).1; omega, (hr r e).2⟩), blk_kept h2 hg hr2, blk_kept h3 hg hr2, ds_own hC h4 hg hr⟩
/-- a write to the block of one of them -/
theorem sJ_upd {n G lo X np m : Nat} {lv : Value} {Vs : List Value} {c : Nat → Nat → List Nat} {F : Nat → Nat} {w A A' : World} {B k i : Nat} {ds : List Deferred} {vb vd : Value} (h : SJ n G lo X np lv Vs c m F w B ds vb vd k A) (hp : SP G lo X lv w) (hi : i < m) {Y : List Nat} (hY : Y.length = (c k i).length) (ho : A'.ownsRow lo 5 1 (Vs.getD i undef) (c k i).length (u8s Y)) (hg : A.grownBy A' (Vs.getD i undef).ownBlock)
    (h1 : c (k + 1) i = Y) (h2 : ∀ j, j ≠ i → c (k + 1) j = c k j) : SJ n G lo X np lv Vs c m F w B ds vb vd (k + 1) A' := by
  obtain ⟨a1, a2, a3, a4⟩ := h
  refine ⟨(a1.upd hp hi hY ho hg).congr fun j _ => ?_, a2.grown hg fun e => ?_, a3.grown hg fun e => ?_, a4.keep fun q hq _ hd => ?_⟩
  · by_cases hj : j = i
    · subst hj; rw [if_pos rfl, h1]
    · rw [if_neg hj, h2 j hj]
  · obtain ⟨_, cs, hb⟩ := a1.wh.blk hi e.symm
    exact absurd (blk_ty a2 hb) (by decide)
  · obtain ⟨_, cs, hb⟩ := a1.wh.blk hi e.symm
    exact absurd (blk_ty a3 hb) (by decide)
  · refine (hg.block q (Array.getElem?_eq_some_iff.1 hd).1 fun e => ?_).trans hd
    obtain ⟨_, cs, hb⟩ := a1.wh.blk hi e.symm
    unfold Blk at hb
    rw [hb] at hd
    cases hd
theorem kf_grown {B : Nat} {W W' : World} {row : Option Nat} (hg : W.grownBy W' row) (hr : ∀ r, row = some r → ∃ t cs, Blk W r t cs) : KeepsFrom B W W' :=
  (KeepsOthers.of_grownBy hg (fun j o e ho => by
    obtain ⟨t, cs, hb⟩ := hr j e
    unfold Blk at hb
    rw [hb] at ho
    simp at ho
    subst ho; rfl)).from B
theorem made_rows (n : Nat) : (madeCells (Value.slice none 0 0).cells (n * 1)).toList = List.replicate n (.slice none 0 0) := by
  apply List.ext_getElem?
  intro i
  by_cases h : i < n
  · simp [madeCells, Value.cells, h, Nat.mod_one]
  · simp [madeCells, Value.cells, h]
theorem infoR_parts {o : Option TypeInfo} (h : o.map (fun i => (i.zero, i.size, i.bytes)) = some (some (Value.slice none 0 0), 1, 24)) : ∃ i, o = some i ∧ i.zero = some (.slice none 0 0) ∧ i.size = 1 ∧ i.bytes = 24 := by
  cases o with
  | none => cases h
  | some i => simp at h; exact ⟨i, rfl, h.1, h.2.1, h.2.2⟩
attribute [local go_sem] Oper.semAt_some
attribute [local go_sem ↓] sliceU8_eq
set_option maxHeartbeats 16000000 in
theorem sectors_any (v pv vs ve : Value) (L : List (List Nat)) (P : List Nat) (S : List Int) (E : List (List Bool)) (w : World) (hr : IsRows w v L) (hp : IsBytes w pv P) (hs : IsInts w vs S) (he : IsBRows w ve E) (hL : L.length ≤ 1000000) (hm : mxL L ≤ 1000000) (hS : S.length ≤ 1000000) (hE : E.length ≤ 10000000) :
    Calls Try.prog 16 #[v, pv, vs, ve] w (SecPost L P S E w) := by
  obtain ⟨a, cap, rfl, hcap, hmax⟩ := hr.slice
  obtain ⟨pa, pc, rfl, hpc, hpm⟩ := hp.slice
  obtain ⟨sa, sc, rfl, hsc, hsm⟩ := hs.slice
  obtain ⟨ea, ec, rfl, hec, hem⟩ := he.slice
  have hfit := fit_any (.slice a L.length cap) (.slice sa S.length sc) pa P.length pc L S w hr hs hL hS (by omega)
  unfold maxLen at hmax hpm hsm hem
  obtain ⟨n, hn⟩ : ∃ n, L.length = n := ⟨_, rfl⟩
  obtain ⟨np, hnp⟩ : ∃ np, P.length = np := ⟨_, rfl⟩
  obtain ⟨ns, hns⟩ : ∃ ns, S.length = ns := ⟨_, rfl⟩
  obtain ⟨ne, hne⟩ : ∃ ne, E.length = ne := ⟨_, rfl⟩
  have hapt := fun (h : E.length = L.length + 1) (h2 : P.length = mxL L) => apart_any (.slice a L.length cap) (.slice ea E.length ec) pa P.length pc L E w hr he h hL h2 hm
  have hr' : IsRows w (.slice a n cap) L := by rw [← hn]; exact hr
  have hp' : IsBytes w (.slice pa np pc) P := by rw [← hnp]; exact hp
  have he' : IsBRows w (.slice ea ne ec) E := by rw [← hne]; exact he
  have HLT := Lib.hid hr.lt
  have HPL := Lib.hid hp.1
  rw [hn] at hL hcap hfit hapt
  rw [hnp] at hpc hfit hapt
  rw [hns] at hS hsc hfit
  rw [hne] at hE hec hapt
  have HR := Lib.hid hr'
  have HP := Lib.hid hp'
  have HE := Lib.hid he'
  have HN := Lib.hid hn
  have HNP := Lib.hid hnp
  have HNE := Lib.hid hne
  have HFIT := Lib.hid hfit
  have HAPT := Lib.hid hapt
  have HMX := Lib.hid hm
  obtain ⟨i0, hi, hz0, hz1, hz2⟩ := infoR_parts infoR
  have Hi := Lib.hid hi
  have Hz0 := Lib.hid hz0
  have Hz1 := Lib.hid hz1
  have Hz2 := Lib.hid hz2
  rw [hn, hnp, hns, hne]
  clear hi hz0 hz1 hz2 hr hp hs he hr' hp' he' hn hnp hns hne hfit hapt hm
  refine (callsIn_wide (n := 4)).1 ?_
  refine callsIn_of_wp_marks Try.func16 rfl trivial ?_ rfl
  simp only [Try.ntmps16, List.size_toArray, List.length_cons, List.length_nil, Nat.reduceAdd, Nat.reduceSub, Array.replicate_succ, Array.replicate_zero, List.push_toArray, List.append_toArray, List.nil_append, List.cons_append]
  refine wpIn_wide.2 ?_
  by_cases hen : ne = n + 1
  rotate_left
  · have hb : ((ne : Int) != (n : Int) + 1) = true := bne_t (by omega)
    have HNO : Hid (¬ SecOk L P.length S E) := Lib.hid fun h => hen (by have := h.1; rw [HNE.out, HN.out] at this; exact this)
    clear hen
    go_wp2_with fail
    exact ⟨_, results_tmp2 rfl _ _ _, Below.refl _ _, .inr ⟨HNO.out, rfl⟩⟩
  subst hen
  have hb : (((n + 1 : Nat) : Int) != (n : Int) + 1) = false := bne_f (by omega)
  go_wp2_with fail
  refine HFIT.out.mono ?_
  rintro e w' ⟨o, rfl, ho, rfl⟩
  have HO := Lib.hid ho
  clear ho
  cases o with
  | false =>
    have HNO : Hid (¬ SecOk L P.length S E) := Lib.hid fun h => by have := HO.out.2 (by have := h.2.1; rw [HNP.out] at this; exact this); cases this
    go_wp2_with fail
    exact ⟨_, results_tmp2 rfl _ _ _, Below.refl _ _, .inr ⟨HNO.out, rfl⟩⟩
  | true =>
  have HFO := Lib.hid (HO.out.1 rfl)
  have HNM : Hid (np = mxL L) := Lib.hid HFO.out.2.2
  clear HO HFIT
  go_wp2_with fail
  refine (HAPT.out trivial HNM.out).mono ?_
  rintro e w1 ⟨o, rfl, ho, hb1⟩
  have HO := Lib.hid ho
  have HB1 := Lib.hid hb1
  clear ho hb1 HAPT
  cases o with
  | false =>
    have HNO : Hid (¬ SecOk L P.length S E) := Lib.hid fun h => by have := HO.out.2 h.2.2; cases this
    go_wp2_with fail
    exact ⟨_, results_tmp2 rfl _ _ _, HB1.out, .inr ⟨HNO.out, rfl⟩⟩
  | true =>
  have HOK : Hid (SecOk L P.length S E) := Lib.hid ⟨by rw [HNE.out, HN.out], by rw [HNP.out]; exact HFO.out, HO.out.1 rfl⟩
  have hnp9 : np ≤ 1000000 := by have := HNM.out; have := HMX.out; omega
  clear HO HFO
  go_wp2_with (at_make; refine wpList_make_full _ rfl _ _ 22 rfl w1.heap.size 23 i0 (.slice none 0 0) 1 Try.underlying22 Hi.out Hz0.out Hz1.out .i64 .i64 _ _ n rfl rfl rfl rfl (by rw [Hz2.out]; omega) (by unfold maxLen; omega) (Nat.le_refl _) ?_; intro w2 hown hgr)
  have hG2 : Blk w2 w1.heap.size 23 (List.replicate n (.slice none 0 0)) := by
    rw [made_rows] at hown
    exact made_blk hown
  have hb2 : Below w.heap.size w w2 := HB1.out.grown hgr HB1.out.size (by simp)
  obtain ⟨G, hGG⟩ : ∃ G, w1.heap.size = G := ⟨_, rfl⟩
  have hwG : w.heap.size ≤ G := by rw [← hGG]; exact HB1.out.size
  rw [hGG] at hG2 ⊢
  have HG2 := Lib.hid hG2
  have HB2 := Lib.hid hb2
  clear hown hgr hG2 hb2 hGG HB1
  have hcl := clone_any (.slice pa np pc) P w2 (HP.out.below HB2.out) (by rw [HNP.out]; omega)
  refine hcl.mono ?_
  intro e w3 h3
  obtain ⟨lp, lc, rfl, ho3, hb3⟩ := h3.s
  rw [HNP.out] at ho3 ⊢
  have HO3 := Lib.hid ho3
  have HB3 := Lib.hid hb3
  clear hcl h3 ho3 hb3
  go_wp2_with fail
  obtain ⟨X, hX⟩ : ∃ X, w3.heap.size = X := ⟨_, rfl⟩
  obtain ⟨W4, hW4⟩ : ∃ W4, w3.alloc (.cells #[.slice lp np lc] 23) = W4 := ⟨_, rfl⟩
  have hSP : SP G (X + 1) X (.slice lp np lc) w := by
    refine ⟨fun g hg => ?_, ?_, by omega, hwG, by have := HG2.out.lt; have := HB3.out.size; omega⟩
    · have h1 := HO3.out.lt g hg
      have := HB2.out.size
      omega
    · have := HB2.out.size
      have := HB3.out.size
      omega
  have hSI : SI n G (X + 1) X np (.slice lp np lc) (List.replicate n (.slice none 0 0)) (wip L E) 0 (lef L E P 0) w W4 := by
    have hb3 : Below w2.heap.size w2 W4 := by rw [← hW4]; exact HB3.out.alloc HB3.out.size _
    refine ⟨⟨HG2.out.below hb3 HG2.out.lt, by simp, fun j hj => by omega, fun j k hj => by omega⟩, fun j _ hj => by simp [hj], ?_, ?_, HB2.out.trans (hb3.mono HB2.out.size), ?_⟩
    · rw [← hW4, ← hX]; exact Blk.new w3 _ _
    · rw [lef_zero L E P HNP.out, ← hW4]
      exact own_below (own_base HO3.out (Nat.zero_le _)) ((Below.refl _ _).alloc (Nat.le_refl _) _)
    · rw [← hW4, ← hX]; simp
  have HSI := Lib.hid hSI
  have HSP := Lib.hid hSP
  rw [hX, hW4]
  clear hSI hSP hX hW4 HO3 HB3 HG2 HB2
  refine (wpIn_wide (n := 4)).1 ?_
  refine wpIn_loop (fun a' wr => ∃ (i : Nat) (u12 u13 u48 u49 u50 u51 u52 u53 u54 u55 u56 u57 u58 u59 u60 u61 u62 u63 u64 u65 u69 u70 u71 u72 u73 u74 u75 : Value) (ds : List Deferred) (Vs : List Value), (i ≤ n ∧ SI n G (X + 1) X np (.slice lp np lc) Vs (wip L E) i (lef L E P i) w wr ∧ Ds w.heap.size wr.heap.size ds wr) ∧ a' = { tmps := (.slice a n cap :: .slice pa np pc :: .slice sa ns sc :: .slice ea (n + 1) ec :: undef :: undef :: undef :: undef :: .slice none 0 0 :: .bool false :: .slice (some ⟨G, 0, none⟩) n n :: .pointer (some ⟨X, 0, none⟩) :: u12 :: u13 :: undef :: undef :: undef :: undef :: undef :: undef :: .slice ea (n + 1) ec :: .int .i64 (n + 1) :: .slice a n cap :: .int .i64 n :: .int .i64 (n + 1) :: .bool false :: .bool false :: .slice a n cap :: .slice pa np pc :: .slice sa ns sc :: .bool true :: .bool false :: .bool false :: .bool false :: .slice a n cap :: .slice pa np pc :: .slice ea (n + 1) ec :: .bool true :: .bool false :: .bool false :: .slice a n cap :: .int .i64 n :: .slice (some ⟨G, 0, none⟩) n n :: .slice pa np pc :: .slice lp np lc :: .slice a n cap :: .int .i64 n :: .int .i64 i :: u48 :: u49 :: u50 :: u51 :: u52 :: u53 :: u54 :: u55 :: u56 :: u57 :: u58 :: u59 :: u60 :: u61 :: u62 :: u63 :: u64 :: u65 :: undef :: undef :: undef :: u69 :: u70 :: u71 :: u72 :: u73 :: u74 :: u75 :: undef :: undef :: undef :: undef :: undef :: undef :: undef :: undef :: undef :: undef :: undef :: undef :: undef :: undef :: undef :: undef :: undef :: undef :: undef :: undef :: undef :: undef :: undef :: []).toArray, defers := ds }) (fun a' _ => n - (intOf (a'.tmps.getD 47 undef)).toNat) ⟨0, _, _, _, _, _, _, _, _, _, _, _, _, _, _, _, _, _, _, _, _, _, _, _, _, _, _, _, [], _, ⟨Nat.zero_le _, HSI.out, trivial⟩, rfl⟩ ?_
  rintro _ wr ⟨i, u12, u13, u48, u49, u50, u51, u52, u53, u54, u55, u56, u57, u58, u59, u60, u61, u62, u63, u64, u65, u69, u70, u71, u72, u73, u74, u75, ds, Vs, ⟨hi, hsi, hds⟩, rfl⟩
  have HI := Lib.hid hsi
  have HDS := Lib.hid hds
  clear HSI hsi hds
  by_cases hlt : i < n
  · obtain ⟨lb, lo, a', c', rfl, hlbl, hlc, hlI⟩ := HR.out.at (i := i) (by rw [HN.out]; exact hlt)
    have cl := (HI.out.bel.cell (p := ⟨lb, lo + i, none⟩) hlbl).trans hlc
    have hcl := clone_any _ _ wr (hlI.below HI.out.bel) (by have := mxL_at (L := L) (i := i) (by rw [HN.out]; exact hlt); have := HMX.out; omega)
    have hNm := mxL_at (L := L) (i := i) (by rw [HN.out]; exact hlt)
    rw [← HNM.out] at hNm
    obtain ⟨N, hNN⟩ : ∃ N, (L.getD i []).length = N := ⟨_, rfl⟩
    rw [hNN] at cl hNm hcl
    have HNN := Lib.hid hNN
    have HCL := Lib.hid hcl
    have hGw : Blk wr G 23 Vs := HI.out.wh.row
    have hVl := HI.out.wh.len
    have HSZ := Lib.hid HI.out.siz
    have HLI := Lib.hid (hlI.1)
    clear hlI hlc hNN hcl
    gi_wp2_with fail
    refine ⟨trivial, ?_⟩
    refine (callsIn_wide.2 HCL.out).mono ?_
    intro e W1 h1
    obtain ⟨vp, vc, rfl, ho1, hb1⟩ := h1.s
    rw [HNN.out] at ho1 ⊢
    obtain ⟨_, _, hsl1, hvc, hvm⟩ := ownsRow_slice ho1
    simp at hsl1
    obtain ⟨rfl, rfl⟩ := hsl1
    have HO1 := Lib.hid ho1
    have HB1 := Lib.hid hb1
    have HI1 := Lib.hid (HI.out.below hb1)
    have HDS1 := Lib.hid (HDS.out.below hb1)
    have c0 := HI1.out.wh.row.cell (HI1.out.nil i (Nat.le_refl _) hlt)
    have f0 := HI1.out.wh.row.frozen i
    have hvb : ∀ g, (Value.slice vp N vc).ownBlock = some g → wr.heap.size ≤ g ∧ g < W1.heap.size := fun g hg => ho1.lt g hg
    have HVB := Lib.hid hvb
    have HI2 : Hid (SI n G (X + 1) X np (.slice lp np lc) (Vs.set i (.slice vp N vc)) (fun j => if j = i then wipU L E i 0 else wip L E j) (i + 1) (lef L E P i) w (W1.setCell ⟨G, i, none⟩ (.slice vp N vc))) := by
      refine Lib.hid (HI1.out.put HSP.out hlt ?_ fun j hj g hg hg2 => ?_)
      · rw [wipU_zero, HNN.out]; exact own_base HO1.out HSZ.out
      · obtain ⟨_, cs, hb⟩ := HI.out.wh.blk hj hg
        have h1 := hb.lt
        have h2 := (HVB.out g hg2).1
        omega
    have HDS2 : Hid (Ds w.heap.size wr.heap.size ds (W1.setCell ⟨G, i, none⟩ (.slice vp N vc))) := Lib.hid (HDS1.out.keep fun q hq _ hd => by
      rw [Below.heap_setCell W1 ⟨G, i, none⟩ _ q (by
        intro e
        have h1 := HI1.out.wh.row
        unfold Blk at h1
        simp at e
        rw [e, h1] at hd
        cases hd)]
      exact hd)
    have hsz2 : wr.heap.size ≤ (W1.setCell ⟨G, i, none⟩ (.slice vp N vc)).heap.size := by simpa using HB1.out.size
    have hVi : (Vs.set i (.slice vp N vc))[i]? = some (.slice vp N vc) := List.getElem?_set_self (by rw [hVl]; exact hlt)
    clear hvb ho1 hb1 h1 hGw
    gi_wp2_with fail
    obtain ⟨W2, hW2⟩ : ∃ W2, W1.setCell ⟨G, i, none⟩ (.slice vp N vc) = W2 := ⟨_, rfl⟩
    obtain ⟨Vt, hVt⟩ : ∃ Vt, Vs.set i (.slice vp N vc) = Vt := ⟨_, rfl⟩
    rw [hW2] at HI2 HDS2 hsz2 ⊢
    rw [hVt] at HI2 hVi
    have HVI := Lib.hid hVi
    clear hVi hVt hW2 c0 f0 HI1 HI HDS1 HDS HCL HO1 HB1 hVl cl
    obtain ⟨eb, eo, da', nd', dc', hee, hebl, hec, hdc', hdm', hD'⟩ := HE.out.at (i := i) (by rw [HNE.out]; omega)
    obtain rfl := hee
    have ce := (HI2.out.bel.cell (p := ⟨eb, eo + i, none⟩) hebl).trans hec
    have cg := HI2.out.wh.row.cell HVI.out
    have HDD := Lib.hid hD'
    have hin : (i : Int) < (n : Int) + 1 := by omega
    clear hec hebl hD'
    refine wpIn_wide.2 ?_
    go_still_tail 8, (by kernel_rfl)
    change wpList _ _ _ _ _ W2.drew
    have HI3 : Hid (SI n G (X + 1) X np (.slice lp np lc) Vt (fun j => if j = i then wipU L E i 0 else wip L E j) (i + 1) (lef L E P i) w W2.drew) := Lib.hid (HI2.out.below (Below.refl _ _).drew)
    have HDS3 : Hid (Ds w.heap.size wr.heap.size ds W2.drew) := Lib.hid (HDS2.out.keep fun _ _ _ h => h)
    have hsz3 : wr.heap.size ≤ W2.drew.heap.size := hsz2
    clear HI2 HDS2 hsz2 ce cg
    generalize W2.drew = W3 at *
    go_wp2_with fail
    refine ((callsIn_wide (n := 4)).1 (badSectors_any Fence.wide _ trivial rfl _ _ _ _ _ _ _)).mono ?_
    rintro e w' ⟨rfl, rfl⟩
    obtain ⟨W0, hW0⟩ : ∃ W0, (W3.alloc (.cells #[.slice vp N vc] 23)).alloc (.cells #[.slice da' nd' dc'] 28) = W0 := ⟨_, rfl⟩
    obtain ⟨B, hB⟩ : ∃ B, W3.heap.size = B := ⟨_, rfl⟩
    have hBw : w.heap.size ≤ B := by rw [← hB]; exact HI3.out.bel.size
    have hsz0 : W0.heap.size = B + 2 := by rw [← hW0, ← hB]; simp
    have hinv0 : SJ n G (X + 1) X np (.slice lp np lc) Vt (fun k j => if j = i then wipU L E i k else wip L E j) (i + 1) (lef L E P i) w B ds (.slice vp N vc) (.slice da' nd' dc') 0 W0 := by
      refine ⟨?_, ?_, ?_, ?_⟩
      · rw [← hW0]; exact (HI3.out.alloc _).alloc _
      · rw [← hW0, ← hB]; exact (Blk.new W3 _ _).alloc _
      · rw [← hW0, ← hB]
        have := Blk.new (W3.alloc (.cells #[.slice vp N vc] 23)) 28 [.slice da' nd' dc']
        rw [World.size_alloc] at this
        exact this
      · rw [← hB]
        refine (HDS3.out.mono hsz3).below ?_
        rw [← hW0]
        exact ((Below.refl W3.heap.size W3).alloc (Nat.le_refl _) _).alloc (by simp) _
    have HJ0 := Lib.hid hinv0
    have HEi := HDD.out.len
    have hN9 : N ≤ 1000000 := by omega
    have hVg : Vt.getD i undef = .slice vp N vc := by rw [List.getD_eq_getElem?_getD, HVI.out]; rfl
    have HVG := Lib.hid hVg
    clear hinv0 HI3 HDS3 hsz3 HVI hVg
    simp only [World.size_alloc] at *
    rw [hW0, hB]
    clear hW0 hB
    go_wp2_with fail
    gi_wp2_with fail
    refine range_sel rfl (by omega) (gf := 30) (lb := #[.pointer (some ⟨B + 1, 0, none⟩), .pointer (some ⟨B, 0, none⟩)]) rfl trivial enters_bad (mks nd' N) (fun k => bd E i k)
      (fun k => #[.int .i64 k, scV vp N vc k]) (fun _ => rfl) (SJ n G (X + 1) X np (.slice lp np lc) Vt (fun k j => if j = i then wipU L E i k else wip L E j) (i + 1) (lef L E P i) w B ds (.slice vp N vc) (.slice da' nd' dc')) (sJ_own hBw (by omega)) (fun _ => False) (fun _ _ _ _ h _ _ => h) HJ0.out
      (fun k W hk hs h => ⟨h.1.congr (fun j _ => by simp only [wipU_skip L E i k hs]), h.2⟩)
      (fun l J Jx W hJI hJd hsk hY h0 => bad_rounds 3 (by omega) l (B + 1) B N vc nd' dc' vp da' (fun k => bd E i k) (by omega) hvc hdc' hdm' J Jx hJd hsk (fun k W hJ => ⟨(hJI k W hJ).2.2.1.cell rfl, (hJI k W hJ).2.1.cell rfl, fun s hs => by
        obtain ⟨b5, o5, h51, h52, h53⟩ := HDD.out.at hs
        exact ⟨b5, o5, h51, ((hJI k W hJ).1.bel.cell (p := ⟨b5, o5 + s, none⟩) h52).trans h53⟩⟩) hY W h0)
      ?a1 ?assign ?body ?done ?stop
    case assign =>
      intro l k W K hK
      gi_wp2
      exact hK
    case body =>
      rintro l k W hk hsel hJ
      have hkk := mks_lt hk
      have hel := hJ.1.wh.el i (by omega)
      simp only [if_true] at hel
      rw [HVG.out, wipU_length, HNN.out] at hel
      obtain ⟨g, cap2, hsp, _, _, _, _⟩ := own_open hel (by omega)
      simp at hsp
      obtain ⟨rfl, rfl⟩ := hsp
      obtain ⟨W', hcl, ho', hg'⟩ := clear_sector hel hkk.2
      rw [wipU_step L E HNN.out hsel] at ho'
      have HE2 := Lib.hid hel
      have HJ := Lib.hid hJ
      have HO' := Lib.hid ho'
      have HG' := Lib.hid hg'
      clear hel hJ ho' hg' hk hsel hkk
      gi_wp2
      refine ⟨kf_grown HG'.out fun r e => ?_, sJ_upd HJ.out HSP.out (i := i) (Y := wipU L E i (k + 1)) (by omega) ?_ ?_ ?_ ?_ ?_⟩
      · cases e
        obtain ⟨cs, hb⟩ := own_blk HE2.out
        exact ⟨_, cs, hb⟩
      · simp only [if_true, wipU_length]
      · simp only [if_true, wipU_length]; rw [HVG.out, HNN.out]; exact HO'.out
      · rw [HVG.out]; exact HG'.out
      · simp only [if_true]
      · intro j hj; simp only [if_neg hj]
    case done =>
      rintro D W hD hJ hW
      have HI : Hid (SI n G (X + 1) X np (.slice lp np lc) Vt (wip L E) (i + 1) (lef L E P i) w W) := Lib.hid (hJ.1.congr fun j hj => by
        by_cases hji : j = i
        · subst hji; simp only [if_true]; exact wipU_all L E HEi HNN.out
        · simp only [if_neg hji])
      have HDS : Hid (Ds w.heap.size W.heap.size ({ target := .collected D, args := #[] } :: ds) W) := Lib.hid ⟨D, rfl, by omega, (Array.getElem?_eq_some_iff.1 hW).1, hW, hJ.2.2.2.mono (by omega)⟩
      clear hJ hW HJ0
      have cX := HI.out.box.cell (o := 0) rfl
      have cG := HI.out.wh.row.cell (o := i) (v := .slice vp N vc) (by
        have := HVG.out
        rw [List.getD_eq_getElem?_getD] at this
        have hl : i < Vt.length := by rw [HI.out.wh.len]; exact hlt
        rw [List.getElem?_eq_getElem hl] at this ⊢
        exact congrArg some this)
      gi_wp2_with fail
      refine wpIn_wide.2 ?_
      go_still_tail 5, (by kernel_rfl)
      change wpList _ _ _ _ _ W.drew
      have HI2 : Hid (SI n G (X + 1) X np (.slice lp np lc) Vt (wip L E) (i + 1) (lef L E P i) w W.drew) := Lib.hid (HI.out.below (Below.refl _ _).drew)
      have HDS2 : Hid (Ds w.heap.size W.drew.heap.size ({ target := .collected D, args := #[] } :: ds) W.drew) := Lib.hid (HDS.out.keep fun _ _ _ h => h)
      clear HI HDS cX cG
      generalize W.drew = W5 at *
      have hel := HI2.out.wh.el i (by omega)
      rw [HVG.out, wip_length, HNN.out] at hel
      have hadd := add_any (.slice lp np lc) (.slice vp N vc) (rng np (lef L E P i)) (wip L E i) W5 (by rw [rng_length]; exact HI2.out.lef) (by
        have := isBytes_own (B := wip L E i) (sp := vp) (cap := vc) (w := W5) (base := X + 1) (wip_lt HLI.out) (by rw [wip_length, HNN.out]; exact hel)
        rw [wip_length, HNN.out] at this
        exact this) (by rw [rng_length, wip_length, HNN.out]; exact hNm) (rng_lt fun q _ => lef_lt HLT.out HPL.out i q) (by rw [rng_length]; exact hnp9)
        (fun ad m c he h0 e => by
          simp at he
          have h1 : (Value.slice vp N vc).ownBlock = some ad.block := by
            obtain ⟨g, cap2, hsp, _, _, _, _⟩ := own_open hel (by rw [wip_length, HNN.out] at h0; exact h0)
            simp at hsp
            rw [hsp.1] at he ⊢
            simp at he
            rw [← he.1]
            rfl
          have h2 := (HI2.out.wh.blk (j := i) (by omega) (by rw [HVG.out]; exact h1)).1
          have h3 := (HSP.out.lv ad.block e.symm).2
          omega)
      rw [rng_length, lef_step] at hadd
      have HA := Lib.hid hadd
      clear hadd hel
      go_wp2_with fail
      refine HA.out.mono ?_
      rintro e W6 ⟨rfl, ho6, hg6⟩
      have HI6 := Lib.hid (HI2.out.left HSP.out ho6 hg6)
      have HDS6 : Hid (Ds w.heap.size W6.heap.size ({ target := .collected D, args := #[] } :: ds) W6) := Lib.hid ((HDS2.out.keep fun q hq _ hd => (hg6.block q hq fun e => by
        obtain ⟨cs, hb⟩ : ∃ cs, Blk W5 q 5 cs := by
          have hl := HI2.out.lef
          obtain ⟨_, ⟨h1, _⟩ | ⟨g', cap', cur, h1, h2, hh, _⟩⟩ := hl
          · simp at h1; rw [h1.1] at e; simp [Value.ownBlock] at e
          · simp at h1
            rw [h1.1] at e
            simp [Value.ownBlock] at e
            subst e
            exact ⟨cur.toList, by unfold Blk; simpa using hh⟩
        unfold Blk at hb
        rw [hb] at hd
        cases hd).trans hd).mono hg6.size)
      clear ho6 hg6 HI2 HDS2 HA
      go_wp2_with fail
      gi_wp2_with fail
      refine ⟨⟨i + 1, _, _, _, _, _, _, _, _, _, _, _, _, _, _, _, _, _, _, _, _, _, _, _, _, _, _, _, _, _, ⟨by omega, HI6.out, HDS6.out⟩, rfl⟩, ?_⟩
      simp [intOf]; omega
    case stop =>
      rintro D W _ h _
      exact h.elim
  have hin : n = i := by omega
  subst hin
  obtain ⟨F, hF⟩ : ∃ F, lef L E P n = F := ⟨_, rfl⟩
  have HI' := HI.out
  rw [hF] at HI'
  have HSI : Hid (SI n G (X + 1) X np (.slice lp np lc) Vs (fun j => if j < 0 then secI L E F j else wip L E j) n F w wr) := Lib.hid (HI'.congr fun j _ => by rw [if_neg (by omega)])
  have HF := Lib.hid hF
  have HFL : Hid (∀ q, F q < 256) := Lib.hid fun q => by rw [← hF]; exact lef_lt HLT.out HPL.out n q
  have hVl := HSI.out.wh.len
  have HVL := Lib.hid hVl
  clear HI HI' hF hVl
  gi_wp2_with fail
  go_wp2_with fail
  refine (wpIn_wide (n := 4)).1 ?_
  clear hlt hi
  refine wpIn_loop (fun a' wr => ∃ (i : Nat) (u12 u13 u48 u49 u50 u51 u52 u53 u54 u55 u56 u57 u58 u59 u60 u61 u62 u63 u64 u65 u69 u70 u71 u72 u73 u74 u75 u47 u16 u17 u79 u80 u81 u82 u83 u84 u85 u86 u87 u88 u97 : Value) (ds : List Deferred), (i ≤ n ∧ SI n G (X + 1) X np (.slice lp np lc) Vs (fun j => if j < i then secI L E F j else wip L E j) n F w wr ∧ Ds w.heap.size wr.heap.size ds wr) ∧ a' = { tmps := (.slice a n cap :: .slice pa np pc :: .slice sa ns sc :: .slice ea (n + 1) ec :: undef :: undef :: undef :: undef :: .slice none 0 0 :: .bool false :: .slice (some ⟨G, 0, none⟩) n n :: .pointer (some ⟨X, 0, none⟩) :: u12 :: u13 :: undef :: undef :: u16 :: u17 :: undef :: undef :: .slice ea (n + 1) ec :: .int .i64 (n + 1) :: .slice a n cap :: .int .i64 n :: .int .i64 (n + 1) :: .bool false :: .bool false :: .slice a n cap :: .slice pa np pc :: .slice sa ns sc :: .bool true :: .bool false :: .bool false :: .bool false :: .slice a n cap :: .slice pa np pc :: .slice ea (n + 1) ec :: .bool true :: .bool false :: .bool false :: .slice a n cap :: .int .i64 n :: .slice (some ⟨G, 0, none⟩) n n :: .slice pa np pc :: .slice lp np lc :: .slice a n cap :: .int .i64 n :: u47 :: u48 :: u49 :: u50 :: u51 :: u52 :: u53 :: u54 :: u55 :: u56 :: u57 :: u58 :: u59 :: u60 :: u61 :: u62 :: u63 :: u64 :: u65 :: undef :: undef :: undef :: u69 :: u70 :: u71 :: u72 :: u73 :: u74 :: u75 :: .slice (some ⟨G, 0, none⟩) n n :: .int .i64 n :: .int .i64 i :: u79 :: u80 :: u81 :: u82 :: u83 :: u84 :: u85 :: u86 :: u87 :: u88 :: undef :: undef :: undef :: undef :: undef :: undef :: undef :: undef :: u97 :: undef :: []).toArray, defers := ds }) (fun a' _ => n - (intOf (a'.tmps.getD 78 undef)).toNat) ⟨0, _, _, _, _, _, _, _, _, _, _, _, _, _, _, _, _, _, _, _, _, _, _, _, _, _, _, _, _, _, _, _, _, _, _, _, _, _, _, _, _, _, _, ⟨Nat.zero_le _, HSI.out, HDS.out⟩, rfl⟩ ?_
  rintro _ wr ⟨i, u12, u13, u48, u49, u50, u51, u52, u53, u54, u55, u56, u57, u58, u59, u60, u61, u62, u63, u64, u65, u69, u70, u71, u72, u73, u74, u75, u47, u16, u17, u79, u80, u81, u82, u83, u84, u85, u86, u87, u88, u97, ds, ⟨hi, hsi, hds⟩, rfl⟩
  have HI := Lib.hid hsi
  have HDS := Lib.hid hds
  clear HSI hsi hds
  by_cases hlt : i < n
  · have hNm := mxL_at (L := L) (i := i) (by rw [HN.out]; exact hlt)
    rw [← HNM.out] at hNm
    obtain ⟨N, hNN⟩ : ∃ N, (L.getD i []).length = N := ⟨_, rfl⟩
    rw [hNN] at hNm
    have HNN := Lib.hid hNN
    have hel := HI.out.wh.el i hlt
    simp only [Nat.lt_irrefl, if_false] at hel
    obtain ⟨vp, vc, hVg, hvc, hvm⟩ := ownsRow_slice hel
    rw [wip_length, hNN] at hVg hvc
    have HVG := Lib.hid hVg
    have cg := HI.out.wh.row.cell (o := i) (v := .slice vp N vc) (by
      rw [List.getD_eq_getElem?_getD] at hVg
      have hl : i < Vs.length := by rw [HVL.out]; exact hlt
      rw [List.getElem?_eq_getElem hl] at hVg ⊢
      exact congrArg some hVg)
    obtain ⟨eb, eo, da', nd', dc', hee, hebl, hec, hdc', hdm', hD'⟩ := HE.out.at (i := i) (by rw [HNE.out]; omega)
    obtain rfl := hee
    have ce := (HI.out.bel.cell (p := ⟨eb, eo + i, none⟩) hebl).trans hec
    have HDD := Lib.hid hD'
    have hin : (i : Int) < (n : Int) + 1 := by omega
    clear hec hebl hD' hel hVg hNN
    gi_wp2_with fail
    refine ⟨trivial, ?_⟩
    refine (badSectors_any Fence.wide _ trivial rfl _ _ _ _ _ _ _).mono ?_
    rintro e w' ⟨rfl, rfl⟩
    obtain ⟨W0, hW0⟩ : ∃ W0, (wr.alloc (.cells #[.slice vp N vc] 23)).alloc (.cells #[.slice da' nd' dc'] 28) = W0 := ⟨_, rfl⟩
    obtain ⟨B, hB⟩ : ∃ B, wr.heap.size = B := ⟨_, rfl⟩
    have hBw : w.heap.size ≤ B := by rw [← hB]; exact HI.out.bel.size
    have hsz0 : W0.heap.size = B + 2 := by rw [← hW0, ← hB]; simp
    have hinv0 : SJ n G (X + 1) X np (.slice lp np lc) Vs (fun k j => if j = i then fil L E F i k else if j < i then secI L E F j else wip L E j) n F w B ds (.slice vp N vc) (.slice da' nd' dc') 0 W0 := by
      refine ⟨?_, ?_, ?_, ?_⟩
      · rw [← hW0]
        refine ((HI.out.alloc _).alloc _).congr fun j _ => ?_
        show (if j < i then secI L E F j else wip L E j) = (if j = i then fil L E F i 0 else if j < i then secI L E F j else wip L E j)
        by_cases hji : j = i
        · subst hji; rw [if_neg (by omega), if_pos rfl, fil_zero]
        · rw [if_neg hji]
      · rw [← hW0, ← hB]; exact (Blk.new wr _ _).alloc _
      · rw [← hW0, ← hB]
        have := Blk.new (wr.alloc (.cells #[.slice vp N vc] 23)) 28 [.slice da' nd' dc']
        rw [World.size_alloc] at this
        exact this
      · rw [← hB]
        refine HDS.out.below ?_
        rw [← hW0]
        exact ((Below.refl wr.heap.size wr).alloc (Nat.le_refl _) _).alloc (by simp) _
    have HJ0 := Lib.hid hinv0
    have HEi := HDD.out.len
    have hN9 : N ≤ 1000000 := by omega
    clear hinv0 HI HDS cg ce
    simp only [World.size_alloc] at *
    rw [hW0, hB]
    clear hW0 hB
    gi_wp2_with fail
    refine range_sel rfl (by omega) (gf := 30) (lb := #[.pointer (some ⟨B + 1, 0, none⟩), .pointer (some ⟨B, 0, none⟩)]) rfl trivial enters_bad (mks nd' N) (fun k => bd E i k)
      (fun k => #[.int .i64 k, scV vp N vc k]) (fun _ => rfl) (SJ n G (X + 1) X np (.slice lp np lc) Vs (fun k j => if j = i then fil L E F i k else if j < i then secI L E F j else wip L E j) n F w B ds (.slice vp N vc) (.slice da' nd' dc')) (sJ_own hBw (by omega)) (fun _ => False) (fun _ _ _ _ h _ _ => h) HJ0.out
      (fun k W hk hs h => ⟨h.1.congr (fun j _ => by simp only [fil_skip L E F i k hs]), h.2⟩)
      (fun l J Jx W hJI hJd hsk hY h0 => bad_rounds 3 (by omega) l (B + 1) B N vc nd' dc' vp da' (fun k => bd E i k) (by omega) hvc hdc' hdm' J Jx hJd hsk (fun k W hJ => ⟨(hJI k W hJ).2.2.1.cell rfl, (hJI k W hJ).2.1.cell rfl, fun s hs => by
        obtain ⟨b5, o5, h51, h52, h53⟩ := HDD.out.at hs
        exact ⟨b5, o5, h51, ((hJI k W hJ).1.bel.cell (p := ⟨b5, o5 + s, none⟩) h52).trans h53⟩⟩) hY W h0)
      ?a2 ?assign2 ?body2 ?done2 ?stop2
    case assign2 =>
      intro l k W K hK
      gi_wp2
      exact hK
    case body2 =>
      rintro l k W hk hsel hJ
      have hkk := mks_lt hk
      have hel := hJ.1.wh.el i hlt
      simp only [if_true] at hel
      rw [HVG.out, fil_length, HNN.out] at hel
      obtain ⟨g, cap2, hsp, _, _, _, _⟩ := own_open hel (by omega)
      simp at hsp
      obtain ⟨rfl, rfl⟩ := hsp
      have hLB := isBytes_own (B := rng np F) (sp := lp) (cap := lc) (w := W) (base := 0) (rng_lt fun q _ => HFL.out q) (by rw [rng_length]; exact hJ.1.lef)
      have hkn : k * 64 < np := by omega
      obtain ⟨a5, c5, hs5, hI5⟩ := run_from hLB (k * 64) (by rw [rng_length]; omega)
      rw [rng_length] at hs5 hI5
      obtain ⟨W', hcp, ho', hg'⟩ := copy_sector hel hkk.2 hI5 (by rw [List.length_drop, rng_length]) (by omega)
      have e5 : (((rng np F).drop (k * 64)).take (min 64 (N - k * 64))) = seg F (k * 64) (min 64 (N - k * 64)) := seg_eq F (by omega)
      rw [e5, fil_step L E F HNN.out hkk.2 hsel] at ho'
      have e6 : ((k * 64 : Nat) : Int) = (k : Int) * 64 := by omega
      rw [e6] at hs5
      have cX := hJ.1.box.cell (o := 0) rfl
      have HE2 := Lib.hid hel
      have HJ := Lib.hid hJ
      have HO' := Lib.hid ho'
      have HG' := Lib.hid hg'
      clear hel hJ ho' hg' hk hsel hkk hLB hI5 e5 e6
      gi_wp2
      refine ⟨kf_grown HG'.out fun r e => ?_, sJ_upd HJ.out HSP.out (i := i) (Y := fil L E F i (k + 1)) hlt ?_ ?_ ?_ ?_ ?_⟩
      · cases e
        obtain ⟨cs, hb⟩ := own_blk HE2.out
        exact ⟨_, cs, hb⟩
      · simp only [if_true, fil_length]
      · simp only [if_true, fil_length]; rw [HVG.out, HNN.out]; exact HO'.out
      · rw [HVG.out]; exact HG'.out
      · simp only [if_true]
      · intro j hj; simp only [if_neg hj]
    case done2 =>
      rintro D W hD hJ hW
      have HI : Hid (SI n G (X + 1) X np (.slice lp np lc) Vs (fun j => if j < i + 1 then secI L E F j else wip L E j) n F w W) := Lib.hid (hJ.1.congr fun j hj => by
        by_cases hji : j = i
        · subst hji; simp only [if_true]; rw [if_pos (by omega)]; exact fil_all L E F HEi HNN.out
        · simp only [if_neg hji]
          by_cases hji2 : j < i
          · rw [if_pos hji2, if_pos (by omega)]
          · rw [if_neg hji2, if_neg (by omega)])
      have HDS : Hid (Ds w.heap.size W.heap.size ({ target := .collected D, args := #[] } :: ds) W) := Lib.hid ⟨D, rfl, by omega, (Array.getElem?_eq_some_iff.1 hW).1, hW, hJ.2.2.2.mono (by omega)⟩
      clear hJ hW HJ0
      gi_wp2_with fail
      refine ⟨⟨i + 1, _, _, _, _, _, _, _, _, _, _, _, _, _, _, _, _, _, _, _, _, _, _, _, _, _, _, _, _, _, _, _, _, _, _, _, _, _, _, _, _, _, _, ⟨by omega, HI.out, HDS.out⟩, rfl⟩, ?_⟩
      simp [intOf]; omega
    case stop2 =>
      rintro D W _ h _
      exact h.elim
  · have hin : n = i := by omega
    subst hin
    have HW : Hid (WhI n G (X + 1) Vs (secI L E F) n wr) := Lib.hid (HI.out.wh.congr fun j hj => by rw [if_pos hj])
    have HR2 : Hid (IsRows wr (.slice (some ⟨G, 0, none⟩) n n) (secL L E P)) := Lib.hid (HW.out.isRows (by unfold maxLen; omega) (by rw [secL_length, HN.out]) (fun j hj => by
      rw [secL_get (by rw [HN.out]; exact hj), HN.out, HF.out]) (fun j _ => secI_lt (lt_getD HLT.out j) HFL.out))
    clear hlt
    gi_wp2_with fail
    go_wp2_with fail
    refine leaves_ds HDS.out (Lv.refl _ _) fun W' hl => ⟨_, results_tmp2 rfl _ _ _, HI.out.bel.trans hl.1, .inl ⟨HOK.out, G, ?_, ?_⟩⟩
    · rw [HN.out]; rfl
    · rw [HN.out]; exact HR2.out.mono hl.cells
end Go.Proofs.Ytacgaflhcmflbaa

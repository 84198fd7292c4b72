/- codes.tableOf: a contract. -/
import Derived.Test.YtijjpbpoekbekaaCodA
set_option linter.unusedSimpArgs false
set_option linter.unusedVariables false
namespace Go.Proofs.Ytijjpbpoekbekaa
open Go.RowKit Pl
theorem infoT : (Try.prog.info? 22).map (fun i => (i.zero, i.size, i.bytes)) = some (some (.slice none 0 0), 1, 24) := by kernel_rfl
theorem infoT_parts {o : Option TypeInfo} (h : o.map (fun i => (i.zero, i.size, i.bytes)) = some (some (Value.slice none 0 0), 1, 24)) : ∃ i, o = some i ∧ i.zero = some (.slice none 0 0) ∧ i.size = 1 ∧ i.bytes = 24 := by
  cases o with
  | none => cases h
  | some i => simp at h; exact ⟨i, rfl, h.1, h.2.1, h.2.2⟩
theorem pow_wrap : ∀ p, p < 15 → wrap64 (2 ^ p) = 2 ^ p := by decide +kernel
def nilRows : List Value := List.replicate 15 (.slice none 0 0)
theorem made_rows : (madeCells (Value.slice none 0 0).cells (15 * 1)).toList = nilRows := by kernel_rfl
/-- block g lists the rows R, each an own one -/
def Tab (base : Nat) (w : World) (g : Nat) (vs : List Value) (R : Nat → List Int) : Prop :=
  base ≤ g ∧ Blk w g 22 vs ∧ vs.length = 15 ∧ ∀ i, i < 15 → ∃ u, vs[i]? = some u ∧ w.ownsRow base 3 1 u (R i).length (i64s (R i)) ∧ (R i = [] → u = .slice none 0 0)
theorem Tab.below {base : Nat} {w w' : World} {g : Nat} {vs : List Value} {R : Nat → List Int} (h : Tab base w g vs R) (hb : Below w.heap.size w w') : Tab base w' g vs R := by
  obtain ⟨h1, h2, h3, h4⟩ := h
  refine ⟨h1, h2.below hb h2.lt, h3, fun i hi => ?_⟩
  obtain ⟨u, a, b, c⟩ := h4 i hi
  exact ⟨u, a, own_below b hb, c⟩
theorem Tab.gr {base : Nat} {w w' : World} {g r : Nat} {vs cs : List Value} {t : TypeId} {R : Nat → List Int} (h : Tab base w g vs R) (hg : Gr w w' r) (hr : Blk w r t cs) (h1 : t ≠ 22) (h2 : t ≠ 3) : Tab base w' g vs R := by
  obtain ⟨a1, a2, a3, a4⟩ := h
  have hne := a2.ne hr (Ne.symm h1)
  refine ⟨a1, a2.grown hg (by simpa using hne), a3, fun i hi => ?_⟩
  obtain ⟨u, a, b, c⟩ := a4 i hi
  exact ⟨u, a, own_gr b hg hr h2, c⟩
/-- the rows as they are read -/
def TabV (w : World) (g : Nat) (R : Nat → List Int) : Prop :=
  ∀ i, i < 15 → ∃ sp cap, w.cell? ⟨g, i, none⟩ = some (.slice sp (R i).length cap) ∧ (R i).length ≤ cap ∧ cap ≤ maxLen ∧ IsInts w (.slice sp (R i).length cap) (R i)
theorem Tab.view {base : Nat} {w : World} {g : Nat} {vs : List Value} {R : Nat → List Int} (h : Tab base w g vs R) : TabV w g R := by
  intro i hi
  obtain ⟨_, h2, h3, h4⟩ := h
  obtain ⟨u, hu, ho, _⟩ := h4 i hi
  obtain ⟨sp, cap, rfl, h5, h6⟩ := ownsRow_slice ho
  exact ⟨sp, cap, h2.cell hu, h5, h6, isInts_own rfl ho⟩
theorem own_apart {w : World} {base : Nat} {e : TypeId} {v1 v2 : Value} {A B : List Int} {g : Nat} (h1 : w.ownsRow base e 1 v1 A.length (i64s A)) (h2 : w.ownsRow base e 1 v2 B.length (i64s B))
    (ha : 0 < A.length) (hb : 0 < B.length) (hne : A.getD 0 0 ≠ B.getD 0 0) (hg : v1.ownBlock = some g) : v2.ownBlock ≠ some g := by
  intro hg2
  obtain ⟨g1, c1, rfl, _, _, _⟩ := own_open h1 ha
  obtain ⟨g2, c2, rfl, _, _, _⟩ := own_open h2 hb
  have e1 : some g1 = some g := hg
  have e2 : some g2 = some g := hg2
  simp at e1 e2
  subst e1
  subst e2
  have k1 := h1.cells (g := g2) rfl 0 _ (i64s_get A 0 ha)
  have k2 := h2.cells (g := g2) rfl 0 _ (i64s_get B 0 hb)
  rw [k1] at k2
  simp at k2
  exact hne k2
def tabR (lens : List Int) (k : Nat) : Nat → List Int := fun i => symK lens (i + 1) k
theorem tabR_apart {lens : List Int} {k i j : Nat} (hij : i ≠ j) (hi : 0 < (tabR lens k i).length) (hj : 0 < (tabR lens k j).length) : (tabR lens k i).getD 0 0 ≠ (tabR lens k j).getD 0 0 := by
  unfold tabR at *
  intro e
  obtain ⟨x, hx1, _, hx2, _⟩ := symK_mem (r := 0) (x := (symK lens (i + 1) k).getD 0 0) (by rw [List.getD_eq_getElem?_getD, List.getElem?_eq_getElem hi]; rfl)
  obtain ⟨y, hy1, _, hy2, _⟩ := symK_mem (r := 0) (x := (symK lens (j + 1) k).getD 0 0) (by rw [List.getD_eq_getElem?_getD, List.getElem?_eq_getElem hj]; rfl)
  have : x = y := by omega
  subst this
  omega
theorem own_other {w : World} {base n g : Nat} {e t : TypeId} {v : Value} {xs cs : List Value} (h : w.ownsRow base e 1 v n xs) (hb : Blk w g t cs) (ht : t ≠ e) : v.ownBlock ≠ some g := by
  obtain ⟨_, ⟨rfl, rfl⟩ | ⟨g', cap, cur, rfl, _, hh, _⟩⟩ := h
  · simp [Value.ownBlock]
  · intro e'
    have e2 : some g' = some g := e'
    simp at e2
    subst e2
    have hb2 : Blk w g' e cur.toList := by unfold Blk; simpa using hh
    exact ht (blk_ty hb hb2)
theorem tab_blk {w w1 : World} {base n g : Nat} {u : Value} {vs xs : List Value} {o : Obj} (hb : Blk w g 22 vs) (ho : w.ownsRow base 3 1 u n xs) (hgr : (w.alloc o).grownBy w1 u.ownBlock) : Blk w1 g 22 vs :=
  (hb.alloc o).grown hgr (Ne.symm (own_other ho hb (by decide)))
theorem tab_step {lens : List Int} {k q : Nat} {base : Nat} {w w1 : World} {g : Nat} {vs : List Value} {u v' : Value} {o : Obj} (hq : q < 15) (hk : lens.getD k 0 = ((q + 1 : Nat) : Int)) (ht : Tab base w g vs (tabR lens k)) (hu : vs[q]? = some u)
    (hown : w1.ownsRow base 3 1 v' ((tabR lens k q).length + 1) (i64s (tabR lens k q ++ [(k : Int)]))) (hgr : (w.alloc o).grownBy w1 u.ownBlock) :
    Tab base (w1.setCell ⟨g, q, none⟩ v') g (vs.set q v') (tabR lens (k + 1)) := by
  obtain ⟨a1, a2, a3, a4⟩ := ht
  have hG : Gr w1 (w1.setCell ⟨g, q, none⟩ v') g := Gr.setCell (Gr.refl _ _) q v'
  obtain ⟨uq, hq1, hq2, hq3⟩ := a4 q hq
  rw [hu] at hq1
  simp at hq1
  subst hq1
  have hgb : Blk w1 g 22 vs := tab_blk a2 hq2 hgr
  refine ⟨a1, hgb.set q v', by simpa using a3, fun i hi => ?_⟩
  by_cases hiq : i = q
  · subst hiq
    have e : tabR lens (k + 1) i = tabR lens k i ++ [(k : Int)] := by unfold tabR; rw [symK, if_pos hk]
    refine ⟨v', by rw [List.getElem?_set_self (by omega)], ?_, by rw [e]; simp⟩
    rw [e, List.length_append, List.length_singleton]
    exact own_gr hown hG hgb (by decide)
  · have e : tabR lens (k + 1) i = tabR lens k i := by unfold tabR; rw [symK, if_neg (by omega)]
    obtain ⟨ui, b1, b2, b3⟩ := a4 i hi
    refine ⟨ui, by rw [List.getElem?_set_ne (Ne.symm hiq)]; exact b1, ?_, by rw [e]; exact b3⟩
    rw [e]
    refine own_gr ?_ hG hgb (by decide)
    refine (b2.alloc o).kept hgr ?_
    cases hv : ui.ownBlock with
    | none => exact .inl rfl
    | some gi =>
      right
      by_cases h1 : 0 < (tabR lens k i).length
      · by_cases h2 : 0 < (tabR lens k q).length
        · exact Ne.symm (own_apart b2 hq2 h1 h2 (tabR_apart hiq h1 h2) hv)
        · have := hq3 (List.eq_nil_of_length_eq_zero (by omega))
          subst this
          simp [Value.ownBlock]
      · have := b3 (List.eq_nil_of_length_eq_zero (by omega))
        subst this
        simp [Value.ownBlock] at hv
theorem kr_next (K p : Nat) (h : K ≤ 4915200) (hp : p ≤ 14) : wrap64 ((K : Int) + 2 ^ p) = ((K + 2 ^ p : Nat) : Int) := by
  have h1 : 2 ^ p ≤ 2 ^ 14 := Nat.pow_le_pow_right (by omega) hp
  have h2 : (2 : Nat) ^ 14 = 16384 := by decide
  rw [h2] at h1
  rw [show ((2 : Int) ^ p) = ((2 ^ p : Nat) : Int) by rw [Int.natCast_pow]; rfl]
  generalize 2 ^ p = P at *
  unfold wrap64; omega
theorem tabR_zero {lens : List Int} {k : Nat} (h : lens.getD k 0 = 0) : tabR lens (k + 1) = tabR lens k := by
  funext i; unfold tabR; rw [symK, if_neg (by omega)]
def TabPost (lens : List Int) (w : World) (e : Ending) (w' : World) : Prop :=
  Below w.heap.size w w' ∧ ((okL lens ∧ ∃ g vs, e = .returned (.tuple #[.slice (some ⟨g, 0, none⟩) 15 15, .bool true]) ∧ Tab w.heap.size w' g vs (tabR lens lens.length)) ∨
    (¬ okL lens ∧ e = .returned (.tuple #[.slice none 0 0, .bool false])))
theorem tab_start (lens : List Int) {base : Nat} {w : World} {g : Nat} (hg : base ≤ g) (h : Blk w g 22 nilRows) : Tab base w g nilRows (tabR lens 0) := by
  refine ⟨hg, h, List.length_replicate .., fun i hi => ⟨.slice none 0 0, by unfold nilRows; rw [List.getElem?_replicate, if_pos hi], ?_, fun _ => rfl⟩⟩
  exact World.ownsRow_nil _ _ _ _
set_option maxHeartbeats 8000000 in
theorem tableOf_any (v : Value) (F : List Int) (w : World) (hv : IsInts w v F) (hF : F.length ≤ 17179869184) :
    Calls Try.prog 28 #[v] w (TabPost F w) := by
  have hc := badLens_any v F w hv hF
  obtain ⟨a, cap, rfl, hcap, hmax⟩ := hv.slice
  have HV := Lib.hid hv
  clear hv
  by_cases hl : F.length ≤ 300
  · cases hb : F.any noLen with
    | true =>
      rw [hb] at hc
      have hn : ¬ okL F := fun h => by have := (noLen_any F).2 h.2.1; rw [hb] at this; simp at this
      have HN := Lib.hid hn
      clear hn hb
      go_enter Try.func28, Try.ntmps28
      go_wp2_with fail
      refine hc.mono ?_
      rintro e w' ⟨rfl, rfl⟩
      go_wp2
      go_ret2
      exact ⟨Below.refl _ _, .inr ⟨HN.out, rfl⟩⟩
    | false =>
      rw [hb] at hc
      have HIN := Lib.hid ((noLen_any F).1 hb)
      clear hb
      obtain ⟨iT, hiT, hzT0, hzT1, hzT2⟩ := infoT_parts infoT
      have HiT := Lib.hid hiT
      have HzT0 := Lib.hid hzT0
      have HzT1 := Lib.hid hzT1
      have HzT2 := Lib.hid hzT2
      clear hiT hzT0 hzT1 hzT2
      obtain ⟨i0, hi, hz0, hz1, hz2⟩ := infoI_parts infoI
      have Hi := Lib.hid hi
      have Hz0 := Lib.hid hz0
      have Hz1 := Lib.hid hz1
      have Hz2 := Lib.hid hz2
      clear hi hz0 hz1 hz2
      go_enter Try.func28, Try.ntmps28
      go_wp2_with fail
      refine hc.mono ?_
      rintro e w' ⟨rfl, rfl⟩
      clear hc
      go_wp2_with (at_make; refine wpList_make_full _ rfl _ _ 67 rfl w.heap.size 22 iT (.slice none 0 0) 1 Try.underlying67 HiT.out HzT0.out HzT1.out .i64 .i64 _ _ 15 rfl rfl (by omega) (by omega) (by rw [HzT2.out]; omega) (by unfold maxLen; omega) (Nat.le_refl _) ?_; intro w1 hown hgr)
      rw [made_rows] at hown
      have hL := made_blk hown
      have hB1 : Below w.heap.size w w1 := (Below.refl _ w).grown hgr (Nat.le_refl _) (by simp)
      have HT1 := Lib.hid (tab_start F (Nat.le_refl w.heap.size) hL)
      have HB1 := Lib.hid hB1
      clear hown hgr hL hB1
      go_loopw [5, 18] (fun x y wr => ∃ (i : Nat) (vs : List Value), i ≤ F.length ∧ x = .int .i64 (kr F i : Nat) ∧ y = .int .i64 i ∧ Tab w.heap.size wr w.heap.size vs (tabR F i) ∧ Below w.heap.size w wr) (fun _ y _ => F.length - (intOf y).toNat)
      case atStart => exact ⟨0, nilRows, by omega, rfl, rfl, HT1.out, HB1.out⟩
      case round =>
        obtain ⟨i, vs, hi, rfl, rfl, ht, hb⟩ := hrel
        have HT := Lib.hid ht
        have HB := Lib.hid hb
        have hsz := hb.size
        clear ht hb HT1 HB1
        have hkr := kr_le F i
        by_cases hlt : i < F.length
        · obtain ⟨bb, off, cap', hs, _, _, hbb, hc⟩ := HV.out.cells (by omega)
          simp at hs
          obtain ⟨rfl, rfl⟩ := hs
          have c0 : wr.cell? ⟨bb, off + i, none⟩ = some (.int .i64 (F.getD i 0)) := (HB.out.cell (p := ⟨bb, off + i, none⟩) hbb).trans (hc i hlt)
          have hin := getD_in HIN.out i
          clear hc
          have HKS : Hid (kr F (i + 1) = kr F i + (if 1 ≤ F.getD i 0 ∧ F.getD i 0 ≤ 15 then 2 ^ (15 - (F.getD i 0).toNat) else 0)) := Lib.hid rfl
          obtain ⟨x, hx⟩ : ∃ x, x = F.getD i 0 := ⟨_, rfl⟩
          rw [← hx] at c0 hin HKS
          have HX := Lib.hid hx
          clear hx
          obtain ⟨K, hK⟩ : ∃ K, K = kr F i := ⟨_, rfl⟩
          rw [← hK] at hkr HKS ⊢
          clear hK
          by_cases h1 : 0 < x
          · obtain ⟨p, rfl⟩ : ∃ p : Nat, x = 15 - p := ⟨(15 - x).toNat, by omega⟩
            have hp : p ≤ 14 := by omega
            obtain ⟨q, hq⟩ : ∃ q : Nat, q = 14 - p := ⟨_, rfl⟩
            have e2 : wrap64 (15 - (15 - (p : Int))) = p := by unfold wrap64; omega
            have e4 : wrap64 (2 ^ p) = 2 ^ p := pow_wrap p (by omega)
            have e3 : wrap64 (2 ^ min p 64) = 2 ^ p := by rw [Nat.min_eq_left (by omega)]; exact e4
            have e5 : IntKind.u64.wrap (15 - (15 - (p : Int))) = (p : Int) := by rw [IntKind.wrap_u64]; omega
            have e6 : (15 - (15 - (p : Int))) = p := by omega
            have e7 : wrap64 (15 - (p : Int) - 1) = q := by unfold wrap64; omega
            have e8 : (15 - (p : Int) - 1) = q := by omega
            have hq15 : q < 15 := by omega
            have HQ := Lib.hid hq
            have hqI : (q : Int) < 15 := by omega
            obtain ⟨u, hu, ho, _⟩ := HT.out.2.2.2 q hq15
            obtain ⟨sp, cp, rfl, hcp1, hcp2⟩ := ownsRow_slice ho
            have d0 := HT.out.2.1.cell hu
            have f0 := HT.out.2.1.frozen
            have hlen : (tabR F i q).length ≤ i := symK_le _ _ _
            have HO := Lib.hid ho
            have HU := Lib.hid hu
            obtain ⟨N, hN⟩ : ∃ N, N = (tabR F i q).length := ⟨_, rfl⟩
            rw [← hN] at d0 hcp1 hlen HO HU
            have HNN := Lib.hid hN
            clear hu ho hN hq
            have hNI : N + 1 ≤ 17592186044416 := by omega
            go_wp2_with (at_builtin; refine wpList_append_j rfl (.tmp 32) (.tmp 34) rfl w.heap.size (.slice sp N cp) N _ (i : Int) rfl HO.out _ rfl rfl hNI hsz ?_; intro v' w2 hown hgr; obtain ⟨sp', cp', rfl, hcp3, hcp4⟩ := ownsRow_slice hown; have hgb := tab_blk HT.out.2.1 HO.out hgr; have d2 := hgb.cell HU.out; have f2 := hgb.frozen)
            have HX2 : F.getD i 0 = ((q + 1 : Nat) : Int) := by rw [← HX.out, HQ.out]; omega
            have hst := tab_step hq15 HX2 HT.out HU.out (by rw [← HNN.out]; exact hown) hgr
            have hkn : kr F (i + 1) = K + 2 ^ p := by rw [HKS.out, if_pos (by omega), show 15 - (15 - (p : Int)).toNat = p by omega]
            refine ⟨⟨i + 1, _, by omega, by rw [kr_next K p (by omega) hp, hkn], by first | rfl | go_num, hst, ?_⟩, ?_⟩
            · exact (bel_append HB.out _ HO.out hgr hsz).setCell (Nat.le_refl _) _
            · simp only [intOf_int]; omega
          · obtain rfl : x = 0 := by omega
            have HX2 : F.getD i 0 = 0 := HX.out.symm
            go_wp2
            have hkn : kr F (i + 1) = K := by rw [HKS.out, if_neg (by omega)]; rfl
            refine ⟨⟨i + 1, vs, by omega, by rw [hkn], by first | rfl | go_num, by rw [tabR_zero HX2]; exact HT.out, HB.out⟩, ?_⟩
            simp only [intOf_int]; omega
        · obtain rfl : i = F.length := by omega
          by_cases hk : kr F F.length ≤ 32768
          · have hok : okL F := ⟨hl, HIN.out, hk⟩
            have HOK := Lib.hid hok
            generalize kr F F.length = K at hk hkr ⊢
            clear hok
            go_wp2
            go_ret2
            exact ⟨HB.out, .inl ⟨HOK.out, _, _, rfl, HT.out⟩⟩
          · have hok : ¬ okL F := fun h => hk h.2.2
            have HOK := Lib.hid hok
            generalize kr F F.length = K at hk hkr ⊢
            clear hok
            go_wp2
            go_ret2
            exact ⟨HB.out, .inr ⟨HOK.out, rfl⟩⟩
  · have hn : ¬ okL F := fun h => hl h.1
    have HN := Lib.hid hn
    clear hn hc
    go_enter Try.func28, Try.ntmps28
    go_wp2
    go_ret2
    exact ⟨Below.refl _ _, .inr ⟨HN.out, rfl⟩⟩
end Go.Proofs.Ytijjpbpoekbekaa

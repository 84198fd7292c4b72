/- Texts put together: DkG. -/
import Derived.Test.YthgpdnffahmhjaaGreatDoorMg25
import Derived.Shelf.SlicesQ.Load
import Derived.Deep.RegionHeld3
set_option linter.unusedSimpArgs false
set_option linter.unusedVariables false
set_option maxRecDepth 100000
namespace Go.Proofs.YthgpdnffahmhjaaGreatDoor.S13
open Go.RowKit Go.Maps Go.Shelf Dk
def loadH (v : Value) : Sem Value := Instr.loadAt 66 v
theorem loadH_eq (v : Value) : Instr.loadAt 66 v = loadH v := rfl
theorem addr_at (g o j : Nat) : (⟨g, o, none⟩ : Addr).add j = ⟨g, o + j, none⟩ := by unfold Addr.add; split <;> simp_all
theorem run_loadH {w : World} {g o : Nat} {a b c : Value} (h0 : w.cell? ⟨g, o, none⟩ = some a) (h1 : w.cell? ⟨g, o + 1, none⟩ = some b) (h2 : w.cell? ⟨g, o + 2, none⟩ = some c) :
    (loadH (.pointer (some ⟨g, o, none⟩))).run Tryz.prog w = .ok (.agg #[a, b, c]) w := by
  simp only [loadH, Instr.loadAt, Instr.sureAddr, loadVar, loadCells, Sem.run_bind, Sem.run_pure, Result.andThen_ok, Tryz.isAgg66, Tryz.sizeOf66, if_true]
  have := run_loadCellsFrom_list Tryz.prog w ⟨g, o, none⟩ [a, b, c] 3 rfl (fun j v hj => by
    rw [addr_at]
    match j, hj with
    | 0, hj => simp at hj; subst hj; exact h0
    | 1, hj => simp at hj; subst hj; exact h1
    | 2, hj => simp at hj; subst hj; exact h2)
  rw [this]
  rfl
theorem infoH : (Tryz.prog.info? 66).map (fun i => (i.zero, i.size, i.bytes)) = some (some (.agg #[.string ⟨#[]⟩, .string ⟨#[]⟩, .pointer none]), 3, 40) := by kernel_rfl
theorem own_allocG {w : World} {base e s n : Nat} {v : Value} {xs : List Value} (h : w.ownsRow base e s v n xs) (o : Obj) : (w.alloc o).ownsRow base e s v n xs := h.alloc o
theorem cells3_new (w : World) (a b c : Value) (t : TypeId) : ∀ j u, ([a, b, c] : List Value)[j]? = some u → (w.alloc (.cells #[a, b, c] t)).cell? ((⟨w.heap.size, 0, none⟩ : Addr).add j) = some u := by
  intro j u hj
  rw [addr_at, Nat.zero_add]
  exact (Blk.new w t [a, b, c]).cell hj
theorem one3 {g n : ByteArray} {r : Value} {o : Option Nat} (h : ptrO o = r) : ∀ u ∈ ([.string g, .string n, r] : List Value), u.oneCell' = true := by
  intro u hu
  simp at hu
  rcases hu with rfl | rfl | rfl
  · rfl
  · rfl
  · rw [← h]; cases o <;> rfl
def HS (w : World) (g n : ByteArray) (r : Value) (W : World) : Prop := Below w.heap.size w W ∧ Blk W w.heap.size 66 [.string g, .string n, r]
theorem HS.below {w W W' : World} {g n : ByteArray} {r : Value} (h : HS w g n r W) (hb : Below W.heap.size W W') : HS w g n r W' :=
  ⟨h.1.trans (hb.mono h.1.size), h.2.below hb h.2.lt⟩
theorem HS.set0 {w W : World} {g n : ByteArray} {r : Value} (h : HS w g n r W) : HS w g n r (W.setCell ⟨w.heap.size, 0, none⟩ (.string g)) :=
  ⟨h.1.trans (((Gr.refl W w.heap.size).setCell 0 _).below (Nat.le_of_lt h.2.lt) (Nat.le_refl _)), h.2.set 0 _⟩
theorem HS.set1 {w W : World} {g n : ByteArray} {r : Value} (h : HS w g n r W) : HS w g n r (W.setCell ⟨w.heap.size, 1, none⟩ (.string n)) :=
  ⟨h.1.trans (((Gr.refl W w.heap.size).setCell 1 _).below (Nat.le_of_lt h.2.lt) (Nat.le_refl _)), h.2.set 1 _⟩
theorem hs_start {w w1 : World} {g n : ByteArray} {r : Value} (hw1 : w.alloc (.cells #[.string g, .string n, r] 66) = w1) : HS w g n r w1.drew := by
  subst hw1
  exact ⟨((Below.refl _ _).alloc (Nat.le_refl _) _).drew, (Blk.new w 66 [.string g, .string n, r]).drew⟩
attribute [local go_sem ↓] loadH_eq
set_option maxHeartbeats 16000000 in
theorem change_any (l : Lay) (S : St) (g n : ByteArray) (fo : Option Nat) (w : World) (h : IsFS w l S) (hg' : g.size ≤ 100000) (hn' : n.size ≤ 100000) (hc : ∀ i, fo = some i → i < S.F.length)
    (hl : (app1 S.now (g.data.toList, n.data.toList, fo)).length ≤ 150) (hp : S.pend.length + 1 ≤ S.calls) (hC : S.calls ≤ 1099511627777) :
    Calls Tryz.prog 20 #[.pointer (some ⟨l.p, 0, none⟩), chgV l.β g n fo] w fun e w' => e = .returned (.tuple #[]) ∧ Gone w l S (S.chg (g.data.toList, n.data.toList, fo)) w' := by
  obtain ⟨w1, hw1⟩ : ∃ w1, w.alloc (.cells #[.string g, .string n, ptrO (fo.map l.β)] 66) = w1 := ⟨_, rfl⟩
  have HR : Hid (∀ W, HS w g n (ptrO (fo.map l.β)) W → IsFS W l S) := Lib.hid fun W hW => h.below hW.1
  have HNOW := Lib.hid h.now
  have HHS : Hid (HS w g n (ptrO (fo.map l.β)) w1.drew) := Lib.hid (hs_start hw1)
  have HPL := Lib.hid (h.lt _ (.inl rfl))
  have HL := Lib.hid hl
  have HP := Lib.hid hp
  have HCC := Lib.hid hc
  have hsz0 := h.now.lt
  clear h hl hp hc
  unfold chgV
  obtain ⟨r, hr⟩ : ∃ r, ptrO (fo.map l.β) = r := ⟨_, rfl⟩
  rw [hr] at hw1 HHS HR ⊢
  have HRR := Lib.hid hr
  clear hr
  have hg'' := hg'
  have hn'' := hn'
  have hg' : g.size ≤ 281474976710656 := by omega
  have hn' : n.size ≤ 281474976710656 := by omega
  go_enter Tryz.func20, Tryz.ntmps20
  go_wp2_with fail
  refine wp_region_noPanic ?_
  have hHeld := HHS.out
  refine wpAnyH_start (n := 10) (l := #[false, false, false, false, false, false, false, false, false, false]) (S := HS w g n r) (by kernel_rfl) (hHeld) (by kernel_rfl) (by kernel_rfl) ?_
  refine wpAnyH_take (i := 0) (oi := _) (v := ?_) rfl (by kernel_rfl) (by kernel_rfl) (by kernel_rfl) (fun _ _ _ h => h) (Or.inl ⟨by rfl, ?_⟩) (by assumption) ?_
  rotate_left
  · intro wq hSw; go_simp; try with_reducible rfl
  simp only [Act.put, List.setIfInBounds_toArray, List.set_cons_zero, List.set_cons_succ, List.getElem_toArray, List.getElem_cons_zero, List.getElem_cons_succ]
  refine wpAnyH_take (i := 1) (oi := _) (v := ?_) rfl (by kernel_rfl) (by kernel_rfl) (by kernel_rfl) (fun _ _ _ h => h) (Or.inl ⟨by rfl, ?_⟩) (by assumption) ?_
  rotate_left
  · intro wq hSw; have c0 := hSw.2.cell (o := 0) rfl; go_simp; try with_reducible rfl
  simp only [Act.put, List.setIfInBounds_toArray, List.set_cons_zero, List.set_cons_succ, List.getElem_toArray, List.getElem_cons_zero, List.getElem_cons_succ]
  refine wpAnyH_take (i := 3) (oi := _) (v := ?_) rfl (by kernel_rfl) (by kernel_rfl) (by kernel_rfl) (fun _ _ _ h => h) (Or.inl ⟨by rfl, ?_⟩) (by assumption) ?_
  rotate_left
  · intro wq hSw; go_simp; try with_reducible rfl
  simp only [Act.put, List.setIfInBounds_toArray, List.set_cons_zero, List.set_cons_succ, List.getElem_toArray, List.getElem_cons_zero, List.getElem_cons_succ]
  refine wpAnyH_take (i := 4) (oi := _) (v := ?_) rfl (by kernel_rfl) (by kernel_rfl) (by kernel_rfl) (fun _ _ _ h => h) (Or.inl ⟨by rfl, ?_⟩) (by assumption) ?_
  rotate_left
  · intro wq hSw; have c1 := hSw.2.cell (o := 1) rfl; go_simp; try with_reducible rfl
  simp only [Act.put, List.setIfInBounds_toArray, List.set_cons_zero, List.set_cons_succ, List.getElem_toArray, List.getElem_cons_zero, List.getElem_cons_succ]
  refine wpAnyH_ready (rs := [2]) (by kernel_rfl) (by simp) ?_
  refine AllReadyH.cons (o := _) rfl (fun K hK => ?_) AllReadyH.nil
  simp only [List.getElem_toArray, List.getElem_cons_zero, List.getElem_cons_succ]
  go_simp
  refine (cloneS_any g _ hg').mono ?_
  rintro e w2 ⟨rfl, hb2⟩
  have hH2 : HS w g n r w2 := hHeld.below hb2
  refine hK.out _ _ hH2 (fun _ => ?_)
  clear hK K hb2
  simp only [Act.put, List.setIfInBounds_toArray, List.set_cons_zero, List.set_cons_succ, List.getElem_toArray, List.getElem_cons_zero, List.getElem_cons_succ]
  refine wpAnyH_take (i := 6) (oi := _) (v := ?_) rfl (by kernel_rfl) (by kernel_rfl) (by kernel_rfl) (fun _ _ _ h => h) (Or.inl ⟨by rfl, ?_⟩) (by assumption) ?_
  rotate_left
  · intro wq hSw; go_simp; try with_reducible rfl
  simp only [Act.put, List.setIfInBounds_toArray, List.set_cons_zero, List.set_cons_succ, List.getElem_toArray, List.getElem_cons_zero, List.getElem_cons_succ]
  refine wpAnyH_ready (rs := [5]) (by kernel_rfl) (by simp) ?_
  refine AllReadyH.cons (o := _) rfl (fun K hK => ?_) AllReadyH.nil
  simp only [List.getElem_toArray, List.getElem_cons_zero, List.getElem_cons_succ]
  go_simp
  refine (cloneS_any n _ hn').mono ?_
  rintro e w3 ⟨rfl, hb3⟩
  have hH3 : HS w g n r w3 := hH2.below hb3
  refine hK.out _ _ hH3 (fun _ => ?_)
  clear hK K hb3 hH2
  simp only [Act.put, List.setIfInBounds_toArray, List.set_cons_zero, List.set_cons_succ, List.getElem_toArray, List.getElem_cons_zero, List.getElem_cons_succ]
  refine wpAnyH_ready (rs := [7]) (by kernel_rfl) (by simp) ?_
  refine AllReadyH.cons (o := _) rfl (fun K hK => ?_) AllReadyH.nil
  have c0 := hH3.2.cell (o := 0) rfl
  have f0 := hH3.2.frozen 0
  simp only [List.getElem_toArray, List.getElem_cons_zero, List.getElem_cons_succ]
  go_simp
  have hH4 : HS w g n r (w3.setCell ⟨w.heap.size, 0, none⟩ (.string g)) := hH3.set0
  obtain ⟨w4, hw4⟩ : ∃ w4, w3.setCell ⟨w.heap.size, 0, none⟩ (.string g) = w4 := ⟨_, rfl⟩
  rw [hw4] at hH4 ⊢
  refine hK.out _ _ hH4 (fun _ => ?_)
  clear hK K hH3 c0 f0 hw4
  simp only [Act.put, List.setIfInBounds_toArray, List.set_cons_zero, List.set_cons_succ, List.getElem_toArray, List.getElem_cons_zero, List.getElem_cons_succ]
  refine wpAnyH_take (i := 8) (oi := _) (v := ?_) rfl (by kernel_rfl) (by kernel_rfl) (by kernel_rfl) (fun _ _ _ h => h) (Or.inl ⟨by rfl, ?_⟩) (by assumption) ?_
  rotate_left
  · intro wq hSw; go_simp; try with_reducible rfl
  simp only [Act.put, List.setIfInBounds_toArray, List.set_cons_zero, List.set_cons_succ, List.getElem_toArray, List.getElem_cons_zero, List.getElem_cons_succ]
  refine wpAnyH_ready (rs := [9]) (by kernel_rfl) (by simp) ?_
  refine AllReadyH.cons (o := _) rfl (fun K hK => ?_) AllReadyH.nil
  have c1 := hH4.2.cell (o := 1) rfl
  have f1 := hH4.2.frozen 1
  simp only [List.getElem_toArray, List.getElem_cons_zero, List.getElem_cons_succ]
  go_simp
  have hH5 : HS w g n r (w4.setCell ⟨w.heap.size, 1, none⟩ (.string n)) := hH4.set1
  obtain ⟨w5, hw5⟩ : ∃ w5, w4.setCell ⟨w.heap.size, 1, none⟩ (.string n) = w5 := ⟨_, rfl⟩
  rw [hw5] at hH5 ⊢
  refine hK.out _ _ hH5 (fun _ => ?_)
  clear hK K hH4 c1 f1 hw5
  simp only [Act.put, List.setIfInBounds_toArray, List.set_cons_zero, List.set_cons_succ, List.getElem_toArray, List.getElem_cons_zero, List.getElem_cons_succ]
  refine wpAnyH_done (by kernel_rfl) ?_ _
  refine NoPanic.normal ?_
  clear hw1
  have hY := HR.out w5 hH5
  obtain ⟨wt, _, hk5, _, c1, _⟩ := hY.cells
  have f1 := hk5.frozen 1
  have hB5 := hH5.2
  have hS5 := hH5.1
  have HM : Hid (∃ (X : World), X = X) := Lib.hid ⟨w5, rfl⟩
  have hmm := @run_makeMap Tryz.prog
  have hqm := fun (W : World) (p : Option Nat) => run_eql_map_nil_sl (P := Tryz.prog) W 49 _ _ p Tryz.underlying49
  have HY := Lib.hid hY
  have HB5 := Lib.hid hB5
  have HS5 := Lib.hid hS5
  have hpl5 := hY.lt _ (.inl rfl)
  clear hY hk5 hB5 hS5 hH5 HM HR
  have HF : Hid (∃ (Y : World) (l1 : Lay) (nb : Nat), l1.p = l.p) := Lib.hid ⟨w5, l, 0, rfl⟩
  clear HF
  cases hnv : l.nv with
  | none =>
    rw [hnv] at c1
    have hq0 := fun W => hqm W none
    clear hqm
    have HNM := Lib.hid (HY.out.newMap hnv)
    have HB6 : Hid (Blk ((w5.setCell ⟨l.p, 1, none⟩ (.map (some w5.heap.size))).alloc (.map #[] 0)) w.heap.size 66 [.string g, .string n, r]) := Lib.hid (by
      have hne : w.heap.size ≠ l.p := by have := HPL.out; omega
      exact (HB5.out.setOther hne _).alloc _)
    go_wp2_with fail
    obtain ⟨Y, hYe⟩ : ∃ Y, (w5.setCell ⟨l.p, 1, none⟩ (.map (some w5.heap.size))).alloc (.map #[] 0) = Y := ⟨_, rfl⟩
    rw [hYe] at HNM HB6 ⊢
    obtain ⟨l1, hl1⟩ : ∃ l1, ({ l with nv := some w5.heap.size } : Lay) = l1 := ⟨_, rfl⟩
    have hl1p : l1.p = l.p := by rw [← hl1]
    have hl1b : l1.β = l.β := by rw [← hl1]
    have hl1n : l1.nv = some w5.heap.size := by rw [← hl1]
    rw [hl1] at HNM
    have HIS := Lib.hid HNM.out.1
    have HST : Hid (Step w Y (l.at S.F.length) (l1.at S.F.length)) := Lib.hid ((Step.ofBelow HS5.out _).trans HNM.out.2)
    generalize w5.heap.size = nb at hl1n
    clear c1 f1 hmm hq0 HNM HS5 HB5 HY hYe hl1 hpl5 hnv
    have HNI := Lib.hid HIS.out.now
    have hdY : IsDir Y (some nb) l1.β S.now := by have := HIS.out.now; rw [hl1n] at this; exact this
    have HDY : Hid (IsDir Y.drew (some nb) l1.β S.now) := Lib.hid (hdY.keep fun _ _ => rfl)
    obtain ⟨wt1, _, hkY, _, d1, _, d3, _⟩ := HIS.out.cells
    rw [hl1n] at d1
    rw [hl1p] at d1 d3 hkY
    have hb0 := HB6.out.cell (o := 0) rfl
    have hb1 := HB6.out.cell (o := 1) rfl
    have hb2 := HB6.out.cell (o := 2) rfl
    have hldH : (loadH (.pointer (some ⟨w.heap.size, 0, none⟩))).run Tryz.prog Y.drew = .ok (.agg #[.string g, .string n, r]) Y.drew := run_loadH hb0 hb1 hb2
    have hap := apply_any nb l1.β S.now g n fo Y.drew HDY.out (by have := HIS.out.ok; have := now_le this; omega) (by unfold maxLen; omega) (by unfold maxLen; omega)
    unfold chgV at hap
    rw [hl1b, HRR.out] at hap
    have HKY := Lib.hid hkY
    have hsH : w.heap.size < Y.heap.size := HB6.out.lt
    clear hdY hkY hb0 hb1 hb2
    refine wp_region_noPanic ?_
    have hHeld : Y.grownBy Y.drew (some nb) := ⟨rfl, rfl, rfl, Nat.le_refl _, fun _ _ _ => rfl⟩
    refine wpAnyH_start (n := 6) (l := #[false, false, false, false, false, false]) (S := fun W => True) (by kernel_rfl) (trivial) (by kernel_rfl) (by kernel_rfl) ?_
    refine wpAnyH_take (i := 0) (oi := _) (v := ?_) rfl (by kernel_rfl) (by kernel_rfl) (by kernel_rfl) (fun _ _ _ h => h) (Or.inl ⟨by rfl, ?_⟩) trivial ?_
    rotate_left
    · intro wq hSw; go_simp; try with_reducible rfl
    simp only [Act.put, List.setIfInBounds_toArray, List.set_cons_zero, List.set_cons_succ, List.getElem_toArray, List.getElem_cons_zero, List.getElem_cons_succ]
    refine wpAnyH_take (i := 1) (oi := _) (v := ?_) rfl (by kernel_rfl) (by kernel_rfl) (by kernel_rfl) (fun _ _ _ h => h) (Or.inl ⟨by rfl, ?_⟩) trivial ?_
    rotate_left
    · intro wq hSw; go_simp; try with_reducible rfl
    simp only [Act.put, List.setIfInBounds_toArray, List.set_cons_zero, List.set_cons_succ, List.getElem_toArray, List.getElem_cons_zero, List.getElem_cons_succ]
    refine wpAnyH_take (i := 2) (oi := _) (v := ?_) rfl (by kernel_rfl) (by kernel_rfl) (by kernel_rfl) (fun _ _ _ h => h) (Or.inl ⟨by rfl, ?_⟩) trivial ?_
    rotate_left
    · intro wq hSw; go_simp; try with_reducible rfl
    simp only [Act.put, List.setIfInBounds_toArray, List.set_cons_zero, List.set_cons_succ, List.getElem_toArray, List.getElem_cons_zero, List.getElem_cons_succ]
    refine wpAnyH_ready (rs := [3, 4]) (by kernel_rfl) (by simp) ?_
    refine AllReadyH.cons (o := _) rfl (fun K hK => ?_) (AllReadyH.cons (o := _) rfl (fun K hK => ?_) AllReadyH.nil)
    rotate_left
    · simp only [List.getElem_toArray, List.getElem_cons_zero, List.getElem_cons_succ]
      go_simp
      refine hK.out _ _ trivial (fun _ => ?_)
      clear hK K
      simp only [Act.put, List.setIfInBounds_toArray, List.set_cons_zero, List.set_cons_succ, List.getElem_toArray, List.getElem_cons_zero, List.getElem_cons_succ]
      refine wpAnyH_ready (rs := [3]) (by kernel_rfl) (by simp) ?_
      refine AllReadyH.cons (o := _) rfl (fun K hK => ?_) AllReadyH.nil
      simp only [List.getElem_toArray, List.getElem_cons_zero, List.getElem_cons_succ]
      go_simp
      refine hK.out _ _ trivial (fun _ => ?_)
      clear hK K
      simp only [Act.put, List.setIfInBounds_toArray, List.set_cons_zero, List.set_cons_succ, List.getElem_toArray, List.getElem_cons_zero, List.getElem_cons_succ]
      refine wpAnyH_ready (rs := [5]) (by kernel_rfl) (by simp) ?_
      refine AllReadyH.cons (o := _) rfl (fun K hK => ?_) AllReadyH.nil
      simp only [List.getElem_toArray, List.getElem_cons_zero, List.getElem_cons_succ]
      go_simp
      refine hap.mono ?_
      rintro e Z ⟨rfl, hdZ, hgZ⟩
      refine hK.out _ _ trivial (fun _ => ?_)
      clear hK K
      simp only [Act.put, List.setIfInBounds_toArray, List.set_cons_zero, List.set_cons_succ, List.getElem_toArray, List.getElem_cons_zero, List.getElem_cons_succ]
      refine wpAnyH_done (by kernel_rfl) ?_ _
      refine NoPanic.normal ?_
      have hgYZ : Y.grownBy Z (some nb) := ⟨hgZ.os, hgZ.tape, hgZ.output, hgZ.size, hgZ.block⟩
      have hnbY : nb < Y.heap.size := HDY.out.lt nb rfl
      have hpnb : l.p ≠ nb := by
        have := HIS.out.p_ne.1
        rw [hl1n, hl1p] at this
        intro e; exact this (by rw [e])
      have hHnb : w.heap.size ≠ nb := blk_map_ne HB6.out (w := Y) (HDY.out.keep fun _ _ => rfl)
      have hBZ : Blk Z w.heap.size 66 [.string g, .string n, r] := HB6.out.grown hgYZ (by simpa using hHnb)
      have hKZ : Blk Z l.p 52 (fsC l1 S wt1) := HKY.out.grown hgYZ (by simpa using hpnb)
      have hPZ : Z.ownsRow 0 66 3 l1.pv S.pend.length (chgs l1.β S.pend) := HIS.out.pend.kept hgYZ (by
        cases hq : l1.pv.ownBlock with
        | none => exact .inl rfl
        | some g0 =>
          right
          intro e
          have hnow := HIS.out.now
          rw [hl1n] at hnow
          exact own_map_ne HIS.out.pend hnow (by rw [hq]; exact e))
      have HGYZ := Lib.hid hgYZ
      have HDZ := Lib.hid hdZ
      have HPZ := Lib.hid hPZ
      have HBZ := Lib.hid hBZ
      have HKZ := Lib.hid hKZ
      have hsZ : Y.heap.size ≤ Z.heap.size := hgYZ.size
      clear hap d1 hldH hgZ hgYZ hdZ hPZ hBZ hKZ hHeld HKY HDY HB6 HNI
      clear d3
      go_wp2_with fail
      obtain ⟨Z0, hZ0⟩ : ∃ Z0, Z0 = Z.drew := ⟨_, rfl⟩
      have hc3 : Z0.cell? ⟨l.p, 3, none⟩ = some l1.pv := by rw [hZ0]; exact HKZ.out.cell (o := 3) rfl
      have hc3a : (Z0.alloc (.cells #[.string g, .string n, r] 66)).cell? ⟨l.p, 3, none⟩ = some l1.pv := by rw [hZ0]; exact (HKZ.out.drew.alloc _).cell (o := 3) rfl
      have hldZ : (loadH (.pointer (some ⟨w.heap.size, 0, none⟩))).run Tryz.prog Z0 = .ok (.agg #[.string g, .string n, r]) Z0 := by rw [hZ0]; exact run_loadH (HBZ.out.cell (o := 0) rfl) (HBZ.out.cell (o := 1) rfl) (HBZ.out.cell (o := 2) rfl)
      refine wp_region_noPanic ?_
      refine wpAnyH_start (n := 11) (l := #[false, false, false, false, false, false, false, false, false, false, false]) (S := fun W => True) (by kernel_rfl) (trivial) (by kernel_rfl) (by kernel_rfl) ?_
      rw [← hZ0]
      have HZ0 := Lib.hid hZ0
      clear hZ0
      refine wpAnyH_take (i := 0) (oi := _) (v := ?_) rfl (by kernel_rfl) (by kernel_rfl) (by kernel_rfl) (fun _ _ _ h => h) (Or.inl ⟨by rfl, ?_⟩) trivial ?_
      rotate_left
      · intro wq hSw; go_simp; try with_reducible rfl
      simp only [Act.put, List.setIfInBounds_toArray, List.set_cons_zero, List.set_cons_succ, List.getElem_toArray, List.getElem_cons_zero, List.getElem_cons_succ]
      refine wpAnyH_take (i := 1) (oi := _) (v := ?_) rfl (by kernel_rfl) (by kernel_rfl) (by kernel_rfl) (fun _ _ _ h => h) (Or.inl ⟨by rfl, ?_⟩) trivial ?_
      rotate_left
      · intro wq hSw; go_simp; try with_reducible rfl
      simp only [Act.put, List.setIfInBounds_toArray, List.set_cons_zero, List.set_cons_succ, List.getElem_toArray, List.getElem_cons_zero, List.getElem_cons_succ]
      refine wpAnyH_take (i := 2) (oi := _) (v := ?_) rfl (by kernel_rfl) (by kernel_rfl) (by kernel_rfl) (fun _ _ _ h => h) (Or.inl ⟨by rfl, ?_⟩) trivial ?_
      rotate_left
      · intro wq hSw; go_simp; try with_reducible rfl
      simp only [Act.put, List.setIfInBounds_toArray, List.set_cons_zero, List.set_cons_succ, List.getElem_toArray, List.getElem_cons_zero, List.getElem_cons_succ]
      refine wpAnyH_take (i := 3) (oi := _) (v := ?_) rfl (by kernel_rfl) (by kernel_rfl) (by kernel_rfl) (fun _ _ _ h => h) (Or.inl ⟨by rfl, ?_⟩) trivial ?_
      rotate_left
      · intro wq hSw; go_simp; try with_reducible rfl
      simp only [Act.put, List.setIfInBounds_toArray, List.set_cons_zero, List.set_cons_succ, List.getElem_toArray, List.getElem_cons_zero, List.getElem_cons_succ]
      refine wpAnyH_ready (rs := [4, 5]) (by kernel_rfl) (by simp) ?_
      refine AllReadyH.cons (o := _) rfl (fun K hK => ?_) (AllReadyH.cons (o := _) rfl (fun K hK => ?_) AllReadyH.nil)
      · simp only [List.getElem_toArray, List.getElem_cons_zero, List.getElem_cons_succ]
        go_simp
        refine hK.out _ _ trivial (fun _ => ?_)
        clear hK K
        simp only [Act.put, List.setIfInBounds_toArray, List.set_cons_zero, List.set_cons_succ, List.getElem_toArray, List.getElem_cons_zero, List.getElem_cons_succ]
        refine wpAnyH_ready (rs := [5]) (by kernel_rfl) (by simp) ?_
        refine AllReadyH.cons (o := _) rfl (fun K hK => ?_) AllReadyH.nil
        simp only [List.getElem_toArray, List.getElem_cons_zero, List.getElem_cons_succ]
        go_simp
        refine hK.out _ _ trivial (fun _ => ?_)
        clear hK K
        simp only [Act.put, List.setIfInBounds_toArray, List.set_cons_zero, List.set_cons_succ, List.getElem_toArray, List.getElem_cons_zero, List.getElem_cons_succ]
        refine wpAnyH_ready (rs := [6]) (by kernel_rfl) (by simp) ?_
        refine AllReadyH.cons (o := _) rfl (fun K hK => ?_) AllReadyH.nil
        simp only [List.getElem_toArray, List.getElem_cons_zero, List.getElem_cons_succ]
        go_simp
        refine hK.out _ _ trivial (fun _ => ?_)
        clear hK K
        simp only [Act.put, List.setIfInBounds_toArray, List.set_cons_zero, List.set_cons_succ, List.getElem_toArray, List.getElem_cons_zero, List.getElem_cons_succ]
        refine wpAnyH_ready (rs := [7]) (by kernel_rfl) (by simp) ?_
        refine AllReadyH.cons (o := _) rfl (fun K hK => ?_) AllReadyH.nil
        simp only [List.getElem_toArray, List.getElem_cons_zero, List.getElem_cons_succ]
        rw [if_pos (by rfl)]
        obtain ⟨i0, hi, hz0, hz1, hz2⟩ := info_parts infoH
        have hPZ0 : Z0.ownsRow 0 66 3 l1.pv S.pend.length (chgs l1.β S.pend) := by rw [HZ0.out]; exact HPZ.out
        refine wp_append_nigh (.tmp 31) (.tmp 33) 50 rfl 66 i0 _ 3 40 Tryz.underlying50 hi hz0 hz1 hz2 (by rfl) (by decide) 0 l1.pv S.pend.length (chgs l1.β S.pend) rfl (own_allocG hPZ0 _) ⟨Z0.heap.size, 0, none⟩ 1 1 [.string g, .string n, r] rfl rfl (cells3_new Z0 _ _ _ _) (one3 HRR.out) (by have := HP.out; unfold maxLen; omega) (by have := HP.out; omega) (Nat.zero_le _) ?_
        intro pv' V1 hoV hgV hnV
        obtain ⟨sp', cp', rfl, _, _⟩ := ownsRow_slice hoV
        have hK1 : Blk (Z0.alloc (.cells #[.string g, .string n, r] 66)) l.p 52 (fsC l1 S wt1) := by rw [HZ0.out]; exact HKZ.out.drew.alloc _
        have hne3 : l1.pv.ownBlock ≠ some l.p := by have := HIS.out.p_ne.2.2.1; rw [hl1p] at this; exact this
        have hK2 : Blk V1 l.p 52 (fsC l1 S wt1) := hK1.grown hgV (fun e => hne3 e.symm)
        have hg2 : Z.grownBy V1 l1.pv.ownBlock := by
          have ha : Z.grownBy (Z0.alloc (.cells #[.string g, .string n, r] 66)) l1.pv.ownBlock := by
            rw [HZ0.out]
            have := World.grownBy_alloc Z.drew (.cells #[.string g, .string n, r] 66) l1.pv.ownBlock
            exact ⟨this.os, this.tape, this.output, this.size, this.block⟩
          exact grownBy_trans ha hgV
        have hn2 : Nigh Z l1.pv (.slice sp' (S.pend.length + 1) cp') := fun b hb => (hnV b hb).imp id fun h => by
          have e1 : (Z0.alloc (.cells #[.string g, .string n, r] 66)).heap.size = Z0.heap.size + 1 := by simp
          have e2 : Z0.heap.size = Z.heap.size := by rw [HZ0.out]; rfl
          omega
        have hck : chgC l1.β (g.data.toList, n.data.toList, fo) = [.string g, .string n, r] := by
          unfold chgC
          rw [hl1b, HRR.out]
        have hok := chg_ok (c := (g.data.toList, n.data.toList, fo)) HIS.out.ok HCC.out HL.out HP.out ⟨by simpa using hg'', by simpa using hn''⟩
        have hdZ := HDZ.out
        rw [← hl1b] at hdZ
        have hfin0 := HIS.out.change hl1n HGYZ.out hdZ hg2 (by rw [hck]; exact hoV) hn2 hok
        have hfin : ∃ l2 : Lay, l2.p = l.p ∧ Hid (IsFS (V1.setCell ⟨l.p, 3, none⟩ (.slice sp' (S.pend.length + 1) cp')) l2 (S.chg (g.data.toList, n.data.toList, fo))) ∧ Hid (Step Y (V1.setCell ⟨l.p, 3, none⟩ (.slice sp' (S.pend.length + 1) cp')) (l1.at S.F.length) (l2.at (S.chg (g.data.toList, n.data.toList, fo)).F.length)) :=
          ⟨{ l1 with pv := .slice sp' (S.pend.length + 1) cp' }, hl1p, Lib.hid (by rw [← hl1p]; exact hfin0.1), Lib.hid (by rw [← hl1p]; exact hfin0.2)⟩
        clear hfin0
        have HFIN := Lib.hid hfin
        have d3 := hK2.cell (o := 3) rfl
        have f3 := hK2.frozen 3
        clear hoV hgV hnV hK1 hK2 hg2 hn2 hck hok hdZ hfin hPZ0 hc3 hc3a hldZ
        refine hK.out _ _ trivial (fun _ => ?_)
        clear hK K
        simp only [Act.put, List.setIfInBounds_toArray, List.set_cons_zero, List.set_cons_succ, List.getElem_toArray, List.getElem_cons_zero, List.getElem_cons_succ]
        refine wpAnyH_take (i := 8) (oi := _) (v := ?_) rfl (by kernel_rfl) (by kernel_rfl) (by kernel_rfl) (fun _ _ _ h => h) (Or.inl ⟨by rfl, ?_⟩) trivial ?_
        rotate_left
        · intro wq hSw; go_simp; try with_reducible rfl
        simp only [Act.put, List.setIfInBounds_toArray, List.set_cons_zero, List.set_cons_succ, List.getElem_toArray, List.getElem_cons_zero, List.getElem_cons_succ]
        refine wpAnyH_take (i := 9) (oi := _) (v := ?_) rfl (by kernel_rfl) (by kernel_rfl) (by kernel_rfl) (fun _ _ _ h => h) (Or.inl ⟨by rfl, ?_⟩) trivial ?_
        rotate_left
        · intro wq hSw; go_simp; try with_reducible rfl
        simp only [Act.put, List.setIfInBounds_toArray, List.set_cons_zero, List.set_cons_succ, List.getElem_toArray, List.getElem_cons_zero, List.getElem_cons_succ]
        refine wpAnyH_ready (rs := [10]) (by kernel_rfl) (by simp) ?_
        refine AllReadyH.cons (o := _) rfl (fun K hK => ?_) AllReadyH.nil
        simp only [List.getElem_toArray, List.getElem_cons_zero, List.getElem_cons_succ]
        go_simp
        refine hK.out _ _ trivial (fun _ => ?_)
        clear hK K
        simp only [Act.put, List.setIfInBounds_toArray, List.set_cons_zero, List.set_cons_succ, List.getElem_toArray, List.getElem_cons_zero, List.getElem_cons_succ]
        refine wpAnyH_done (by kernel_rfl) ?_ _
        refine NoPanic.normal ?_
        go_end0
        obtain ⟨l2, hl2, hI2, hS2⟩ := HFIN.out
        exact ⟨rfl, l2, hl2, hI2, Lib.hid (HST.out.trans hS2.out)⟩
      · simp only [List.getElem_toArray, List.getElem_cons_zero, List.getElem_cons_succ]
        go_simp
        refine hK.out _ _ trivial (fun _ => ?_)
        clear hK K
        simp only [Act.put, List.setIfInBounds_toArray, List.set_cons_zero, List.set_cons_succ, List.getElem_toArray, List.getElem_cons_zero, List.getElem_cons_succ]
        refine wpAnyH_ready (rs := [4, 6]) (by kernel_rfl) (by simp) ?_
        refine AllReadyH.cons (o := _) rfl (fun K hK => ?_) (AllReadyH.cons (o := _) rfl (fun K hK => ?_) AllReadyH.nil)
        · simp only [List.getElem_toArray, List.getElem_cons_zero, List.getElem_cons_succ]
          go_simp
          refine hK.out _ _ trivial (fun _ => ?_)
          clear hK K
          simp only [Act.put, List.setIfInBounds_toArray, List.set_cons_zero, List.set_cons_succ, List.getElem_toArray, List.getElem_cons_zero, List.getElem_cons_succ]
          refine wpAnyH_ready (rs := [6]) (by kernel_rfl) (by simp) ?_
          refine AllReadyH.cons (o := _) rfl (fun K hK => ?_) AllReadyH.nil
          simp only [List.getElem_toArray, List.getElem_cons_zero, List.getElem_cons_succ]
          go_simp
          refine hK.out _ _ trivial (fun _ => ?_)
          clear hK K
          simp only [Act.put, List.setIfInBounds_toArray, List.set_cons_zero, List.set_cons_succ, List.getElem_toArray, List.getElem_cons_zero, List.getElem_cons_succ]
          refine wpAnyH_ready (rs := [7]) (by kernel_rfl) (by simp) ?_
          refine AllReadyH.cons (o := _) rfl (fun K hK => ?_) AllReadyH.nil
          simp only [List.getElem_toArray, List.getElem_cons_zero, List.getElem_cons_succ]
          rw [if_pos (by rfl)]
          obtain ⟨i0, hi, hz0, hz1, hz2⟩ := info_parts infoH
          have hPZ0 : Z0.ownsRow 0 66 3 l1.pv S.pend.length (chgs l1.β S.pend) := by rw [HZ0.out]; exact HPZ.out
          refine wp_append_nigh (.tmp 31) (.tmp 33) 50 rfl 66 i0 _ 3 40 Tryz.underlying50 hi hz0 hz1 hz2 (by rfl) (by decide) 0 l1.pv S.pend.length (chgs l1.β S.pend) rfl (own_allocG hPZ0 _) ⟨Z0.heap.size, 0, none⟩ 1 1 [.string g, .string n, r] rfl rfl (cells3_new Z0 _ _ _ _) (one3 HRR.out) (by have := HP.out; unfold maxLen; omega) (by have := HP.out; omega) (Nat.zero_le _) ?_
          intro pv' V1 hoV hgV hnV
          obtain ⟨sp', cp', rfl, _, _⟩ := ownsRow_slice hoV
          have hK1 : Blk (Z0.alloc (.cells #[.string g, .string n, r] 66)) l.p 52 (fsC l1 S wt1) := by rw [HZ0.out]; exact HKZ.out.drew.alloc _
          have hne3 : l1.pv.ownBlock ≠ some l.p := by have := HIS.out.p_ne.2.2.1; rw [hl1p] at this; exact this
          have hK2 : Blk V1 l.p 52 (fsC l1 S wt1) := hK1.grown hgV (fun e => hne3 e.symm)
          have hg2 : Z.grownBy V1 l1.pv.ownBlock := by
            have ha : Z.grownBy (Z0.alloc (.cells #[.string g, .string n, r] 66)) l1.pv.ownBlock := by
              rw [HZ0.out]
              have := World.grownBy_alloc Z.drew (.cells #[.string g, .string n, r] 66) l1.pv.ownBlock
              exact ⟨this.os, this.tape, this.output, this.size, this.block⟩
            exact grownBy_trans ha hgV
          have hn2 : Nigh Z l1.pv (.slice sp' (S.pend.length + 1) cp') := fun b hb => (hnV b hb).imp id fun h => by
            have e1 : (Z0.alloc (.cells #[.string g, .string n, r] 66)).heap.size = Z0.heap.size + 1 := by simp
            have e2 : Z0.heap.size = Z.heap.size := by rw [HZ0.out]; rfl
            omega
          have hck : chgC l1.β (g.data.toList, n.data.toList, fo) = [.string g, .string n, r] := by
            unfold chgC
            rw [hl1b, HRR.out]
          have hok := chg_ok (c := (g.data.toList, n.data.toList, fo)) HIS.out.ok HCC.out HL.out HP.out ⟨by simpa using hg'', by simpa using hn''⟩
          have hdZ := HDZ.out
          rw [← hl1b] at hdZ
          have hfin0 := HIS.out.change hl1n HGYZ.out hdZ hg2 (by rw [hck]; exact hoV) hn2 hok
          have hfin : ∃ l2 : Lay, l2.p = l.p ∧ Hid (IsFS (V1.setCell ⟨l.p, 3, none⟩ (.slice sp' (S.pend.length + 1) cp')) l2 (S.chg (g.data.toList, n.data.toList, fo))) ∧ Hid (Step Y (V1.setCell ⟨l.p, 3, none⟩ (.slice sp' (S.pend.length + 1) cp')) (l1.at S.F.length) (l2.at (S.chg (g.data.toList, n.data.toList, fo)).F.length)) :=
            ⟨{ l1 with pv := .slice sp' (S.pend.length + 1) cp' }, hl1p, Lib.hid (by rw [← hl1p]; exact hfin0.1), Lib.hid (by rw [← hl1p]; exact hfin0.2)⟩
          clear hfin0
          have HFIN := Lib.hid hfin
          have d3 := hK2.cell (o := 3) rfl
          have f3 := hK2.frozen 3
          clear hoV hgV hnV hK1 hK2 hg2 hn2 hck hok hdZ hfin hPZ0 hc3 hc3a hldZ
          refine hK.out _ _ trivial (fun _ => ?_)
          clear hK K
          simp only [Act.put, List.setIfInBounds_toArray, List.set_cons_zero, List.set_cons_succ, List.getElem_toArray, List.getElem_cons_zero, List.getElem_cons_succ]
          refine wpAnyH_take (i := 8) (oi := _) (v := ?_) rfl (by kernel_rfl) (by kernel_rfl) (by kernel_rfl) (fun _ _ _ h => h) (Or.inl ⟨by rfl, ?_⟩) trivial ?_
          rotate_left
          · intro wq hSw; go_simp; try with_reducible rfl
          simp only [Act.put, List.setIfInBounds_toArray, List.set_cons_zero, List.set_cons_succ, List.getElem_toArray, List.getElem_cons_zero, List.getElem_cons_succ]
          refine wpAnyH_take (i := 9) (oi := _) (v := ?_) rfl (by kernel_rfl) (by kernel_rfl) (by kernel_rfl) (fun _ _ _ h => h) (Or.inl ⟨by rfl, ?_⟩) trivial ?_
          rotate_left
          · intro wq hSw; go_simp; try with_reducible rfl
          simp only [Act.put, List.setIfInBounds_toArray, List.set_cons_zero, List.set_cons_succ, List.getElem_toArray, List.getElem_cons_zero, List.getElem_cons_succ]
          refine wpAnyH_ready (rs := [10]) (by kernel_rfl) (by simp) ?_
          refine AllReadyH.cons (o := _) rfl (fun K hK => ?_) AllReadyH.nil
          simp only [List.getElem_toArray, List.getElem_cons_zero, List.getElem_cons_succ]
          go_simp
          refine hK.out _ _ trivial (fun _ => ?_)
          clear hK K
          simp only [Act.put, List.setIfInBounds_toArray, List.set_cons_zero, List.set_cons_succ, List.getElem_toArray, List.getElem_cons_zero, List.getElem_cons_succ]
          refine wpAnyH_done (by kernel_rfl) ?_ _
          refine NoPanic.normal ?_
          go_end0
          obtain ⟨l2, hl2, hI2, hS2⟩ := HFIN.out
          exact ⟨rfl, l2, hl2, hI2, Lib.hid (HST.out.trans hS2.out)⟩
        · simp only [List.getElem_toArray, List.getElem_cons_zero, List.getElem_cons_succ]
          go_simp
          refine hK.out _ _ trivial (fun _ => ?_)
          clear hK K
          simp only [Act.put, List.setIfInBounds_toArray, List.set_cons_zero, List.set_cons_succ, List.getElem_toArray, List.getElem_cons_zero, List.getElem_cons_succ]
          refine wpAnyH_ready (rs := [4]) (by kernel_rfl) (by simp) ?_
          refine AllReadyH.cons (o := _) rfl (fun K hK => ?_) AllReadyH.nil
          simp only [List.getElem_toArray, List.getElem_cons_zero, List.getElem_cons_succ]
          go_simp
          refine hK.out _ _ trivial (fun _ => ?_)
          clear hK K
          simp only [Act.put, List.setIfInBounds_toArray, List.set_cons_zero, List.set_cons_succ, List.getElem_toArray, List.getElem_cons_zero, List.getElem_cons_succ]
          refine wpAnyH_ready (rs := [7]) (by kernel_rfl) (by simp) ?_
          refine AllReadyH.cons (o := _) rfl (fun K hK => ?_) AllReadyH.nil
          simp only [List.getElem_toArray, List.getElem_cons_zero, List.getElem_cons_succ]
          rw [if_pos (by rfl)]
          obtain ⟨i0, hi, hz0, hz1, hz2⟩ := info_parts infoH
          have hPZ0 : Z0.ownsRow 0 66 3 l1.pv S.pend.length (chgs l1.β S.pend) := by rw [HZ0.out]; exact HPZ.out
          refine wp_append_nigh (.tmp 31) (.tmp 33) 50 rfl 66 i0 _ 3 40 Tryz.underlying50 hi hz0 hz1 hz2 (by rfl) (by decide) 0 l1.pv S.pend.length (chgs l1.β S.pend) rfl (own_allocG hPZ0 _) ⟨Z0.heap.size, 0, none⟩ 1 1 [.string g, .string n, r] rfl rfl (cells3_new Z0 _ _ _ _) (one3 HRR.out) (by have := HP.out; unfold maxLen; omega) (by have := HP.out; omega) (Nat.zero_le _) ?_
          intro pv' V1 hoV hgV hnV
          obtain ⟨sp', cp', rfl, _, _⟩ := ownsRow_slice hoV
          have hK1 : Blk (Z0.alloc (.cells #[.string g, .string n, r] 66)) l.p 52 (fsC l1 S wt1) := by rw [HZ0.out]; exact HKZ.out.drew.alloc _
          have hne3 : l1.pv.ownBlock ≠ some l.p := by have := HIS.out.p_ne.2.2.1; rw [hl1p] at this; exact this
          have hK2 : Blk V1 l.p 52 (fsC l1 S wt1) := hK1.grown hgV (fun e => hne3 e.symm)
          have hg2 : Z.grownBy V1 l1.pv.ownBlock := by
            have ha : Z.grownBy (Z0.alloc (.cells #[.string g, .string n, r] 66)) l1.pv.ownBlock := by
              rw [HZ0.out]
              have := World.grownBy_alloc Z.drew (.cells #[.string g, .string n, r] 66) l1.pv.ownBlock
              exact ⟨this.os, this.tape, this.output, this.size, this.block⟩
            exact grownBy_trans ha hgV
          have hn2 : Nigh Z l1.pv (.slice sp' (S.pend.length + 1) cp') := fun b hb => (hnV b hb).imp id fun h => by
            have e1 : (Z0.alloc (.cells #[.string g, .string n, r] 66)).heap.size = Z0.heap.size + 1 := by simp
            have e2 : Z0.heap.size = Z.heap.size := by rw [HZ0.out]; rfl
            omega
          have hck : chgC l1.β (g.data.toList, n.data.toList, fo) = [.string g, .string n, r] := by
            unfold chgC
            rw [hl1b, HRR.out]
          have hok := chg_ok (c := (g.data.toList, n.data.toList, fo)) HIS.out.ok HCC.out HL.out HP.out ⟨by simpa using hg'', by simpa using hn''⟩
          have hdZ := HDZ.out
          rw [← hl1b] at hdZ
          have hfin0 := HIS.out.change hl1n HGYZ.out hdZ hg2 (by rw [hck]; exact hoV) hn2 hok
          have hfin : ∃ l2 : Lay, l2.p = l.p ∧ Hid (IsFS (V1.setCell ⟨l.p, 3, none⟩ (.slice sp' (S.pend.length + 1) cp')) l2 (S.chg (g.data.toList, n.data.toList, fo))) ∧ Hid (Step Y (V1.setCell ⟨l.p, 3, none⟩ (.slice sp' (S.pend.length + 1) cp')) (l1.at S.F.length) (l2.at (S.chg (g.data.toList, n.data.toList, fo)).F.length)) :=
            ⟨{ l1 with pv := .slice sp' (S.pend.length + 1) cp' }, hl1p, Lib.hid (by rw [← hl1p]; exact hfin0.1), Lib.hid (by rw [← hl1p]; exact hfin0.2)⟩
          clear hfin0
          have HFIN := Lib.hid hfin
          have d3 := hK2.cell (o := 3) rfl
          have f3 := hK2.frozen 3
          clear hoV hgV hnV hK1 hK2 hg2 hn2 hck hok hdZ hfin hPZ0 hc3 hc3a hldZ
          refine hK.out _ _ trivial (fun _ => ?_)
          clear hK K
          simp only [Act.put, List.setIfInBounds_toArray, List.set_cons_zero, List.set_cons_succ, List.getElem_toArray, List.getElem_cons_zero, List.getElem_cons_succ]
          refine wpAnyH_take (i := 8) (oi := _) (v := ?_) rfl (by kernel_rfl) (by kernel_rfl) (by kernel_rfl) (fun _ _ _ h => h) (Or.inl ⟨by rfl, ?_⟩) trivial ?_
          rotate_left
          · intro wq hSw; go_simp; try with_reducible rfl
          simp only [Act.put, List.setIfInBounds_toArray, List.set_cons_zero, List.set_cons_succ, List.getElem_toArray, List.getElem_cons_zero, List.getElem_cons_succ]
          refine wpAnyH_take (i := 9) (oi := _) (v := ?_) rfl (by kernel_rfl) (by kernel_rfl) (by kernel_rfl) (fun _ _ _ h => h) (Or.inl ⟨by rfl, ?_⟩) trivial ?_
          rotate_left
          · intro wq hSw; go_simp; try with_reducible rfl
          simp only [Act.put, List.setIfInBounds_toArray, List.set_cons_zero, List.set_cons_succ, List.getElem_toArray, List.getElem_cons_zero, List.getElem_cons_succ]
          refine wpAnyH_ready (rs := [10]) (by kernel_rfl) (by simp) ?_
          refine AllReadyH.cons (o := _) rfl (fun K hK => ?_) AllReadyH.nil
          simp only [List.getElem_toArray, List.getElem_cons_zero, List.getElem_cons_succ]
          go_simp
          refine hK.out _ _ trivial (fun _ => ?_)
          clear hK K
          simp only [Act.put, List.setIfInBounds_toArray, List.set_cons_zero, List.set_cons_succ, List.getElem_toArray, List.getElem_cons_zero, List.getElem_cons_succ]
          refine wpAnyH_done (by kernel_rfl) ?_ _
          refine NoPanic.normal ?_
          go_end0
          obtain ⟨l2, hl2, hI2, hS2⟩ := HFIN.out
          exact ⟨rfl, l2, hl2, hI2, Lib.hid (HST.out.trans hS2.out)⟩
    · simp only [List.getElem_toArray, List.getElem_cons_zero, List.getElem_cons_succ]
      go_simp
      refine hK.out _ _ trivial (fun _ => ?_)
      clear hK K
      simp only [Act.put, List.setIfInBounds_toArray, List.set_cons_zero, List.set_cons_succ, List.getElem_toArray, List.getElem_cons_zero, List.getElem_cons_succ]
      refine wpAnyH_ready (rs := [4]) (by kernel_rfl) (by simp) ?_
      refine AllReadyH.cons (o := _) rfl (fun K hK => ?_) AllReadyH.nil
      simp only [List.getElem_toArray, List.getElem_cons_zero, List.getElem_cons_succ]
      go_simp
      refine hK.out _ _ trivial (fun _ => ?_)
      clear hK K
      simp only [Act.put, List.setIfInBounds_toArray, List.set_cons_zero, List.set_cons_succ, List.getElem_toArray, List.getElem_cons_zero, List.getElem_cons_succ]
      refine wpAnyH_ready (rs := [5]) (by kernel_rfl) (by simp) ?_
      refine AllReadyH.cons (o := _) rfl (fun K hK => ?_) AllReadyH.nil
      simp only [List.getElem_toArray, List.getElem_cons_zero, List.getElem_cons_succ]
      go_simp
      refine hap.mono ?_
      rintro e Z ⟨rfl, hdZ, hgZ⟩
      refine hK.out _ _ trivial (fun _ => ?_)
      clear hK K
      simp only [Act.put, List.setIfInBounds_toArray, List.set_cons_zero, List.set_cons_succ, List.getElem_toArray, List.getElem_cons_zero, List.getElem_cons_succ]
      refine wpAnyH_done (by kernel_rfl) ?_ _
      refine NoPanic.normal ?_
      have hgYZ : Y.grownBy Z (some nb) := ⟨hgZ.os, hgZ.tape, hgZ.output, hgZ.size, hgZ.block⟩
      have hnbY : nb < Y.heap.size := HDY.out.lt nb rfl
      have hpnb : l.p ≠ nb := by
        have := HIS.out.p_ne.1
        rw [hl1n, hl1p] at this
        intro e; exact this (by rw [e])
      have hHnb : w.heap.size ≠ nb := blk_map_ne HB6.out (w := Y) (HDY.out.keep fun _ _ => rfl)
      have hBZ : Blk Z w.heap.size 66 [.string g, .string n, r] := HB6.out.grown hgYZ (by simpa using hHnb)
      have hKZ : Blk Z l.p 52 (fsC l1 S wt1) := HKY.out.grown hgYZ (by simpa using hpnb)
      have hPZ : Z.ownsRow 0 66 3 l1.pv S.pend.length (chgs l1.β S.pend) := HIS.out.pend.kept hgYZ (by
        cases hq : l1.pv.ownBlock with
        | none => exact .inl rfl
        | some g0 =>
          right
          intro e
          have hnow := HIS.out.now
          rw [hl1n] at hnow
          exact own_map_ne HIS.out.pend hnow (by rw [hq]; exact e))
      have HGYZ := Lib.hid hgYZ
      have HDZ := Lib.hid hdZ
      have HPZ := Lib.hid hPZ
      have HBZ := Lib.hid hBZ
      have HKZ := Lib.hid hKZ
      have hsZ : Y.heap.size ≤ Z.heap.size := hgYZ.size
      clear hap d1 hldH hgZ hgYZ hdZ hPZ hBZ hKZ hHeld HKY HDY HB6 HNI
      clear d3
      go_wp2_with fail
      obtain ⟨Z0, hZ0⟩ : ∃ Z0, Z0 = Z.drew := ⟨_, rfl⟩
      have hc3 : Z0.cell? ⟨l.p, 3, none⟩ = some l1.pv := by rw [hZ0]; exact HKZ.out.cell (o := 3) rfl
      have hc3a : (Z0.alloc (.cells #[.string g, .string n, r] 66)).cell? ⟨l.p, 3, none⟩ = some l1.pv := by rw [hZ0]; exact (HKZ.out.drew.alloc _).cell (o := 3) rfl
      have hldZ : (loadH (.pointer (some ⟨w.heap.size, 0, none⟩))).run Tryz.prog Z0 = .ok (.agg #[.string g, .string n, r]) Z0 := by rw [hZ0]; exact run_loadH (HBZ.out.cell (o := 0) rfl) (HBZ.out.cell (o := 1) rfl) (HBZ.out.cell (o := 2) rfl)
      refine wp_region_noPanic ?_
      refine wpAnyH_start (n := 11) (l := #[false, false, false, false, false, false, false, false, false, false, false]) (S := fun W => True) (by kernel_rfl) (trivial) (by kernel_rfl) (by kernel_rfl) ?_
      rw [← hZ0]
      have HZ0 := Lib.hid hZ0
      clear hZ0
      refine wpAnyH_take (i := 0) (oi := _) (v := ?_) rfl (by kernel_rfl) (by kernel_rfl) (by kernel_rfl) (fun _ _ _ h => h) (Or.inl ⟨by rfl, ?_⟩) trivial ?_
      rotate_left
      · intro wq hSw; go_simp; try with_reducible rfl
      simp only [Act.put, List.setIfInBounds_toArray, List.set_cons_zero, List.set_cons_succ, List.getElem_toArray, List.getElem_cons_zero, List.getElem_cons_succ]
      refine wpAnyH_take (i := 1) (oi := _) (v := ?_) rfl (by kernel_rfl) (by kernel_rfl) (by kernel_rfl) (fun _ _ _ h => h) (Or.inl ⟨by rfl, ?_⟩) trivial ?_
      rotate_left
      · intro wq hSw; go_simp; try with_reducible rfl
      simp only [Act.put, List.setIfInBounds_toArray, List.set_cons_zero, List.set_cons_succ, List.getElem_toArray, List.getElem_cons_zero, List.getElem_cons_succ]
      refine wpAnyH_take (i := 2) (oi := _) (v := ?_) rfl (by kernel_rfl) (by kernel_rfl) (by kernel_rfl) (fun _ _ _ h => h) (Or.inl ⟨by rfl, ?_⟩) trivial ?_
      rotate_left
      · intro wq hSw; go_simp; try with_reducible rfl
      simp only [Act.put, List.setIfInBounds_toArray, List.set_cons_zero, List.set_cons_succ, List.getElem_toArray, List.getElem_cons_zero, List.getElem_cons_succ]
      refine wpAnyH_take (i := 3) (oi := _) (v := ?_) rfl (by kernel_rfl) (by kernel_rfl) (by kernel_rfl) (fun _ _ _ h => h) (Or.inl ⟨by rfl, ?_⟩) trivial ?_
      rotate_left
      · intro wq hSw; go_simp; try with_reducible rfl
      simp only [Act.put, List.setIfInBounds_toArray, List.set_cons_zero, List.set_cons_succ, List.getElem_toArray, List.getElem_cons_zero, List.getElem_cons_succ]
      refine wpAnyH_ready (rs := [4, 5]) (by kernel_rfl) (by simp) ?_
      refine AllReadyH.cons (o := _) rfl (fun K hK => ?_) (AllReadyH.cons (o := _) rfl (fun K hK => ?_) AllReadyH.nil)
      · simp only [List.getElem_toArray, List.getElem_cons_zero, List.getElem_cons_succ]
        go_simp
        refine hK.out _ _ trivial (fun _ => ?_)
        clear hK K
        simp only [Act.put, List.setIfInBounds_toArray, List.set_cons_zero, List.set_cons_succ, List.getElem_toArray, List.getElem_cons_zero, List.getElem_cons_succ]
        refine wpAnyH_ready (rs := [5]) (by kernel_rfl) (by simp) ?_
        refine AllReadyH.cons (o := _) rfl (fun K hK => ?_) AllReadyH.nil
        simp only [List.getElem_toArray, List.getElem_cons_zero, List.getElem_cons_succ]
        go_simp
        refine hK.out _ _ trivial (fun _ => ?_)
        clear hK K
        simp only [Act.put, List.setIfInBounds_toArray, List.set_cons_zero, List.set_cons_succ, List.getElem_toArray, List.getElem_cons_zero, List.getElem_cons_succ]
        refine wpAnyH_ready (rs := [6]) (by kernel_rfl) (by simp) ?_
        refine AllReadyH.cons (o := _) rfl (fun K hK => ?_) AllReadyH.nil
        simp only [List.getElem_toArray, List.getElem_cons_zero, List.getElem_cons_succ]
        go_simp
        refine hK.out _ _ trivial (fun _ => ?_)
        clear hK K
        simp only [Act.put, List.setIfInBounds_toArray, List.set_cons_zero, List.set_cons_succ, List.getElem_toArray, List.getElem_cons_zero, List.getElem_cons_succ]
        refine wpAnyH_ready (rs := [7]) (by kernel_rfl) (by simp) ?_
        refine AllReadyH.cons (o := _) rfl (fun K hK => ?_) AllReadyH.nil
        simp only [List.getElem_toArray, List.getElem_cons_zero, List.getElem_cons_succ]
        rw [if_pos (by rfl)]
        obtain ⟨i0, hi, hz0, hz1, hz2⟩ := info_parts infoH
        have hPZ0 : Z0.ownsRow 0 66 3 l1.pv S.pend.length (chgs l1.β S.pend) := by rw [HZ0.out]; exact HPZ.out
        refine wp_append_nigh (.tmp 31) (.tmp 33) 50 rfl 66 i0 _ 3 40 Tryz.underlying50 hi hz0 hz1 hz2 (by rfl) (by decide) 0 l1.pv S.pend.length (chgs l1.β S.pend) rfl (own_allocG hPZ0 _) ⟨Z0.heap.size, 0, none⟩ 1 1 [.string g, .string n, r] rfl rfl (cells3_new Z0 _ _ _ _) (one3 HRR.out) (by have := HP.out; unfold maxLen; omega) (by have := HP.out; omega) (Nat.zero_le _) ?_
        intro pv' V1 hoV hgV hnV
        obtain ⟨sp', cp', rfl, _, _⟩ := ownsRow_slice hoV
        have hK1 : Blk (Z0.alloc (.cells #[.string g, .string n, r] 66)) l.p 52 (fsC l1 S wt1) := by rw [HZ0.out]; exact HKZ.out.drew.alloc _
        have hne3 : l1.pv.ownBlock ≠ some l.p := by have := HIS.out.p_ne.2.2.1; rw [hl1p] at this; exact this
        have hK2 : Blk V1 l.p 52 (fsC l1 S wt1) := hK1.grown hgV (fun e => hne3 e.symm)
        have hg2 : Z.grownBy V1 l1.pv.ownBlock := by
          have ha : Z.grownBy (Z0.alloc (.cells #[.string g, .string n, r] 66)) l1.pv.ownBlock := by
            rw [HZ0.out]
            have := World.grownBy_alloc Z.drew (.cells #[.string g, .string n, r] 66) l1.pv.ownBlock
            exact ⟨this.os, this.tape, this.output, this.size, this.block⟩
          exact grownBy_trans ha hgV
        have hn2 : Nigh Z l1.pv (.slice sp' (S.pend.length + 1) cp') := fun b hb => (hnV b hb).imp id fun h => by
          have e1 : (Z0.alloc (.cells #[.string g, .string n, r] 66)).heap.size = Z0.heap.size + 1 := by simp
          have e2 : Z0.heap.size = Z.heap.size := by rw [HZ0.out]; rfl
          omega
        have hck : chgC l1.β (g.data.toList, n.data.toList, fo) = [.string g, .string n, r] := by
          unfold chgC
          rw [hl1b, HRR.out]
        have hok := chg_ok (c := (g.data.toList, n.data.toList, fo)) HIS.out.ok HCC.out HL.out HP.out ⟨by simpa using hg'', by simpa using hn''⟩
        have hdZ := HDZ.out
        rw [← hl1b] at hdZ
        have hfin0 := HIS.out.change hl1n HGYZ.out hdZ hg2 (by rw [hck]; exact hoV) hn2 hok
        have hfin : ∃ l2 : Lay, l2.p = l.p ∧ Hid (IsFS (V1.setCell ⟨l.p, 3, none⟩ (.slice sp' (S.pend.length + 1) cp')) l2 (S.chg (g.data.toList, n.data.toList, fo))) ∧ Hid (Step Y (V1.setCell ⟨l.p, 3, none⟩ (.slice sp' (S.pend.length + 1) cp')) (l1.at S.F.length) (l2.at (S.chg (g.data.toList, n.data.toList, fo)).F.length)) :=
          ⟨{ l1 with pv := .slice sp' (S.pend.length + 1) cp' }, hl1p, Lib.hid (by rw [← hl1p]; exact hfin0.1), Lib.hid (by rw [← hl1p]; exact hfin0.2)⟩
        clear hfin0
        have HFIN := Lib.hid hfin
        have d3 := hK2.cell (o := 3) rfl
        have f3 := hK2.frozen 3
        clear hoV hgV hnV hK1 hK2 hg2 hn2 hck hok hdZ hfin hPZ0 hc3 hc3a hldZ
        refine hK.out _ _ trivial (fun _ => ?_)
        clear hK K
        simp only [Act.put, List.setIfInBounds_toArray, List.set_cons_zero, List.set_cons_succ, List.getElem_toArray, List.getElem_cons_zero, List.getElem_cons_succ]
        refine wpAnyH_take (i := 8) (oi := _) (v := ?_) rfl (by kernel_rfl) (by kernel_rfl) (by kernel_rfl) (fun _ _ _ h => h) (Or.inl ⟨by rfl, ?_⟩) trivial ?_
        rotate_left
        · intro wq hSw; go_simp; try with_reducible rfl
        simp only [Act.put, List.setIfInBounds_toArray, List.set_cons_zero, List.set_cons_succ, List.getElem_toArray, List.getElem_cons_zero, List.getElem_cons_succ]
        refine wpAnyH_take (i := 9) (oi := _) (v := ?_) rfl (by kernel_rfl) (by kernel_rfl) (by kernel_rfl) (fun _ _ _ h => h) (Or.inl ⟨by rfl, ?_⟩) trivial ?_
        rotate_left
        · intro wq hSw; go_simp; try with_reducible rfl
        simp only [Act.put, List.setIfInBounds_toArray, List.set_cons_zero, List.set_cons_succ, List.getElem_toArray, List.getElem_cons_zero, List.getElem_cons_succ]
        refine wpAnyH_ready (rs := [10]) (by kernel_rfl) (by simp) ?_
        refine AllReadyH.cons (o := _) rfl (fun K hK => ?_) AllReadyH.nil
        simp only [List.getElem_toArray, List.getElem_cons_zero, List.getElem_cons_succ]
        go_simp
        refine hK.out _ _ trivial (fun _ => ?_)
        clear hK K
        simp only [Act.put, List.setIfInBounds_toArray, List.set_cons_zero, List.set_cons_succ, List.getElem_toArray, List.getElem_cons_zero, List.getElem_cons_succ]
        refine wpAnyH_done (by kernel_rfl) ?_ _
        refine NoPanic.normal ?_
        go_end0
        obtain ⟨l2, hl2, hI2, hS2⟩ := HFIN.out
        exact ⟨rfl, l2, hl2, hI2, Lib.hid (HST.out.trans hS2.out)⟩
      · simp only [List.getElem_toArray, List.getElem_cons_zero, List.getElem_cons_succ]
        go_simp
        refine hK.out _ _ trivial (fun _ => ?_)
        clear hK K
        simp only [Act.put, List.setIfInBounds_toArray, List.set_cons_zero, List.set_cons_succ, List.getElem_toArray, List.getElem_cons_zero, List.getElem_cons_succ]
        refine wpAnyH_ready (rs := [4, 6]) (by kernel_rfl) (by simp) ?_
        refine AllReadyH.cons (o := _) rfl (fun K hK => ?_) (AllReadyH.cons (o := _) rfl (fun K hK => ?_) AllReadyH.nil)
        · simp only [List.getElem_toArray, List.getElem_cons_zero, List.getElem_cons_succ]
          go_simp
          refine hK.out _ _ trivial (fun _ => ?_)
          clear hK K
          simp only [Act.put, List.setIfInBounds_toArray, List.set_cons_zero, List.set_cons_succ, List.getElem_toArray, List.getElem_cons_zero, List.getElem_cons_succ]
          refine wpAnyH_ready (rs := [6]) (by kernel_rfl) (by simp) ?_
          refine AllReadyH.cons (o := _) rfl (fun K hK => ?_) AllReadyH.nil
          simp only [List.getElem_toArray, List.getElem_cons_zero, List.getElem_cons_succ]
          go_simp
          refine hK.out _ _ trivial (fun _ => ?_)
          clear hK K
          simp only [Act.put, List.setIfInBounds_toArray, List.set_cons_zero, List.set_cons_succ, List.getElem_toArray, List.getElem_cons_zero, List.getElem_cons_succ]
          refine wpAnyH_ready (rs := [7]) (by kernel_rfl) (by simp) ?_
          refine AllReadyH.cons (o := _) rfl (fun K hK => ?_) AllReadyH.nil
          simp only [List.getElem_toArray, List.getElem_cons_zero, List.getElem_cons_succ]
          rw [if_pos (by rfl)]
          obtain ⟨i0, hi, hz0, hz1, hz2⟩ := info_parts infoH
          have hPZ0 : Z0.ownsRow 0 66 3 l1.pv S.pend.length (chgs l1.β S.pend) := by rw [HZ0.out]; exact HPZ.out
          refine wp_append_nigh (.tmp 31) (.tmp 33) 50 rfl 66 i0 _ 3 40 Tryz.underlying50 hi hz0 hz1 hz2 (by rfl) (by decide) 0 l1.pv S.pend.length (chgs l1.β S.pend) rfl (own_allocG hPZ0 _) ⟨Z0.heap.size, 0, none⟩ 1 1 [.string g, .string n, r] rfl rfl (cells3_new Z0 _ _ _ _) (one3 HRR.out) (by have := HP.out; unfold maxLen; omega) (by have := HP.out; omega) (Nat.zero_le _) ?_
          intro pv' V1 hoV hgV hnV
          obtain ⟨sp', cp', rfl, _, _⟩ := ownsRow_slice hoV
          have hK1 : Blk (Z0.alloc (.cells #[.string g, .string n, r] 66)) l.p 52 (fsC l1 S wt1) := by rw [HZ0.out]; exact HKZ.out.drew.alloc _
          have hne3 : l1.pv.ownBlock ≠ some l.p := by have := HIS.out.p_ne.2.2.1; rw [hl1p] at this; exact this
          have hK2 : Blk V1 l.p 52 (fsC l1 S wt1) := hK1.grown hgV (fun e => hne3 e.symm)
          have hg2 : Z.grownBy V1 l1.pv.ownBlock := by
            have ha : Z.grownBy (Z0.alloc (.cells #[.string g, .string n, r] 66)) l1.pv.ownBlock := by
              rw [HZ0.out]
              have := World.grownBy_alloc Z.drew (.cells #[.string g, .string n, r] 66) l1.pv.ownBlock
              exact ⟨this.os, this.tape, this.output, this.size, this.block⟩
            exact grownBy_trans ha hgV
          have hn2 : Nigh Z l1.pv (.slice sp' (S.pend.length + 1) cp') := fun b hb => (hnV b hb).imp id fun h => by
            have e1 : (Z0.alloc (.cells #[.string g, .string n, r] 66)).heap.size = Z0.heap.size + 1 := by simp
            have e2 : Z0.heap.size = Z.heap.size := by rw [HZ0.out]; rfl
            omega
          have hck : chgC l1.β (g.data.toList, n.data.toList, fo) = [.string g, .string n, r] := by
            unfold chgC
            rw [hl1b, HRR.out]
          have hok := chg_ok (c := (g.data.toList, n.data.toList, fo)) HIS.out.ok HCC.out HL.out HP.out ⟨by simpa using hg'', by simpa using hn''⟩
          have hdZ := HDZ.out
          rw [← hl1b] at hdZ
          have hfin0 := HIS.out.change hl1n HGYZ.out hdZ hg2 (by rw [hck]; exact hoV) hn2 hok
          have hfin : ∃ l2 : Lay, l2.p = l.p ∧ Hid (IsFS (V1.setCell ⟨l.p, 3, none⟩ (.slice sp' (S.pend.length + 1) cp')) l2 (S.chg (g.data.toList, n.data.toList, fo))) ∧ Hid (Step Y (V1.setCell ⟨l.p, 3, none⟩ (.slice sp' (S.pend.length + 1) cp')) (l1.at S.F.length) (l2.at (S.chg (g.data.toList, n.data.toList, fo)).F.length)) :=
            ⟨{ l1 with pv := .slice sp' (S.pend.length + 1) cp' }, hl1p, Lib.hid (by rw [← hl1p]; exact hfin0.1), Lib.hid (by rw [← hl1p]; exact hfin0.2)⟩
          clear hfin0
          have HFIN := Lib.hid hfin
          have d3 := hK2.cell (o := 3) rfl
          have f3 := hK2.frozen 3
          clear hoV hgV hnV hK1 hK2 hg2 hn2 hck hok hdZ hfin hPZ0 hc3 hc3a hldZ
          refine hK.out _ _ trivial (fun _ => ?_)
          clear hK K
          simp only [Act.put, List.setIfInBounds_toArray, List.set_cons_zero, List.set_cons_succ, List.getElem_toArray, List.getElem_cons_zero, List.getElem_cons_succ]
          refine wpAnyH_take (i := 8) (oi := _) (v := ?_) rfl (by kernel_rfl) (by kernel_rfl) (by kernel_rfl) (fun _ _ _ h => h) (Or.inl ⟨by rfl, ?_⟩) trivial ?_
          rotate_left
          · intro wq hSw; go_simp; try with_reducible rfl
          simp only [Act.put, List.setIfInBounds_toArray, List.set_cons_zero, List.set_cons_succ, List.getElem_toArray, List.getElem_cons_zero, List.getElem_cons_succ]
          refine wpAnyH_take (i := 9) (oi := _) (v := ?_) rfl (by kernel_rfl) (by kernel_rfl) (by kernel_rfl) (fun _ _ _ h => h) (Or.inl ⟨by rfl, ?_⟩) trivial ?_
          rotate_left
          · intro wq hSw; go_simp; try with_reducible rfl
          simp only [Act.put, List.setIfInBounds_toArray, List.set_cons_zero, List.set_cons_succ, List.getElem_toArray, List.getElem_cons_zero, List.getElem_cons_succ]
          refine wpAnyH_ready (rs := [10]) (by kernel_rfl) (by simp) ?_
          refine AllReadyH.cons (o := _) rfl (fun K hK => ?_) AllReadyH.nil
          simp only [List.getElem_toArray, List.getElem_cons_zero, List.getElem_cons_succ]
          go_simp
          refine hK.out _ _ trivial (fun _ => ?_)
          clear hK K
          simp only [Act.put, List.setIfInBounds_toArray, List.set_cons_zero, List.set_cons_succ, List.getElem_toArray, List.getElem_cons_zero, List.getElem_cons_succ]
          refine wpAnyH_done (by kernel_rfl) ?_ _
          refine NoPanic.normal ?_
          go_end0
          obtain ⟨l2, hl2, hI2, hS2⟩ := HFIN.out
          exact ⟨rfl, l2, hl2, hI2, Lib.hid (HST.out.trans hS2.out)⟩
        · simp only [List.getElem_toArray, List.getElem_cons_zero, List.getElem_cons_succ]
          go_simp
          refine hK.out _ _ trivial (fun _ => ?_)
          clear hK K
          simp only [Act.put, List.setIfInBounds_toArray, List.set_cons_zero, List.set_cons_succ, List.getElem_toArray, List.getElem_cons_zero, List.getElem_cons_succ]
          refine wpAnyH_ready (rs := [4]) (by kernel_rfl) (by simp) ?_
          refine AllReadyH.cons (o := _) rfl (fun K hK => ?_) AllReadyH.nil
          simp only [List.getElem_toArray, List.getElem_cons_zero, List.getElem_cons_succ]
          go_simp
          refine hK.out _ _ trivial (fun _ => ?_)
          clear hK K
          simp only [Act.put, List.setIfInBounds_toArray, List.set_cons_zero, List.set_cons_succ, List.getElem_toArray, List.getElem_cons_zero, List.getElem_cons_succ]
          refine wpAnyH_ready (rs := [7]) (by kernel_rfl) (by simp) ?_
          refine AllReadyH.cons (o := _) rfl (fun K hK => ?_) AllReadyH.nil
          simp only [List.getElem_toArray, List.getElem_cons_zero, List.getElem_cons_succ]
          rw [if_pos (by rfl)]
          obtain ⟨i0, hi, hz0, hz1, hz2⟩ := info_parts infoH
          have hPZ0 : Z0.ownsRow 0 66 3 l1.pv S.pend.length (chgs l1.β S.pend) := by rw [HZ0.out]; exact HPZ.out
          refine wp_append_nigh (.tmp 31) (.tmp 33) 50 rfl 66 i0 _ 3 40 Tryz.underlying50 hi hz0 hz1 hz2 (by rfl) (by decide) 0 l1.pv S.pend.length (chgs l1.β S.pend) rfl (own_allocG hPZ0 _) ⟨Z0.heap.size, 0, none⟩ 1 1 [.string g, .string n, r] rfl rfl (cells3_new Z0 _ _ _ _) (one3 HRR.out) (by have := HP.out; unfold maxLen; omega) (by have := HP.out; omega) (Nat.zero_le _) ?_
          intro pv' V1 hoV hgV hnV
          obtain ⟨sp', cp', rfl, _, _⟩ := ownsRow_slice hoV
          have hK1 : Blk (Z0.alloc (.cells #[.string g, .string n, r] 66)) l.p 52 (fsC l1 S wt1) := by rw [HZ0.out]; exact HKZ.out.drew.alloc _
          have hne3 : l1.pv.ownBlock ≠ some l.p := by have := HIS.out.p_ne.2.2.1; rw [hl1p] at this; exact this
          have hK2 : Blk V1 l.p 52 (fsC l1 S wt1) := hK1.grown hgV (fun e => hne3 e.symm)
          have hg2 : Z.grownBy V1 l1.pv.ownBlock := by
            have ha : Z.grownBy (Z0.alloc (.cells #[.string g, .string n, r] 66)) l1.pv.ownBlock := by
              rw [HZ0.out]
              have := World.grownBy_alloc Z.drew (.cells #[.string g, .string n, r] 66) l1.pv.ownBlock
              exact ⟨this.os, this.tape, this.output, this.size, this.block⟩
            exact grownBy_trans ha hgV
          have hn2 : Nigh Z l1.pv (.slice sp' (S.pend.length + 1) cp') := fun b hb => (hnV b hb).imp id fun h => by
            have e1 : (Z0.alloc (.cells #[.string g, .string n, r] 66)).heap.size = Z0.heap.size + 1 := by simp
            have e2 : Z0.heap.size = Z.heap.size := by rw [HZ0.out]; rfl
            omega
          have hck : chgC l1.β (g.data.toList, n.data.toList, fo) = [.string g, .string n, r] := by
            unfold chgC
            rw [hl1b, HRR.out]
          have hok := chg_ok (c := (g.data.toList, n.data.toList, fo)) HIS.out.ok HCC.out HL.out HP.out ⟨by simpa using hg'', by simpa using hn''⟩
          have hdZ := HDZ.out
          rw [← hl1b] at hdZ
          have hfin0 := HIS.out.change hl1n HGYZ.out hdZ hg2 (by rw [hck]; exact hoV) hn2 hok
          have hfin : ∃ l2 : Lay, l2.p = l.p ∧ Hid (IsFS (V1.setCell ⟨l.p, 3, none⟩ (.slice sp' (S.pend.length + 1) cp')) l2 (S.chg (g.data.toList, n.data.toList, fo))) ∧ Hid (Step Y (V1.setCell ⟨l.p, 3, none⟩ (.slice sp' (S.pend.length + 1) cp')) (l1.at S.F.length) (l2.at (S.chg (g.data.toList, n.data.toList, fo)).F.length)) :=
            ⟨{ l1 with pv := .slice sp' (S.pend.length + 1) cp' }, hl1p, Lib.hid (by rw [← hl1p]; exact hfin0.1), Lib.hid (by rw [← hl1p]; exact hfin0.2)⟩
          clear hfin0
          have HFIN := Lib.hid hfin
          have d3 := hK2.cell (o := 3) rfl
          have f3 := hK2.frozen 3
          clear hoV hgV hnV hK1 hK2 hg2 hn2 hck hok hdZ hfin hPZ0 hc3 hc3a hldZ
          refine hK.out _ _ trivial (fun _ => ?_)
          clear hK K
          simp only [Act.put, List.setIfInBounds_toArray, List.set_cons_zero, List.set_cons_succ, List.getElem_toArray, List.getElem_cons_zero, List.getElem_cons_succ]
          refine wpAnyH_take (i := 8) (oi := _) (v := ?_) rfl (by kernel_rfl) (by kernel_rfl) (by kernel_rfl) (fun _ _ _ h => h) (Or.inl ⟨by rfl, ?_⟩) trivial ?_
          rotate_left
          · intro wq hSw; go_simp; try with_reducible rfl
          simp only [Act.put, List.setIfInBounds_toArray, List.set_cons_zero, List.set_cons_succ, List.getElem_toArray, List.getElem_cons_zero, List.getElem_cons_succ]
          refine wpAnyH_take (i := 9) (oi := _) (v := ?_) rfl (by kernel_rfl) (by kernel_rfl) (by kernel_rfl) (fun _ _ _ h => h) (Or.inl ⟨by rfl, ?_⟩) trivial ?_
          rotate_left
          · intro wq hSw; go_simp; try with_reducible rfl
          simp only [Act.put, List.setIfInBounds_toArray, List.set_cons_zero, List.set_cons_succ, List.getElem_toArray, List.getElem_cons_zero, List.getElem_cons_succ]
          refine wpAnyH_ready (rs := [10]) (by kernel_rfl) (by simp) ?_
          refine AllReadyH.cons (o := _) rfl (fun K hK => ?_) AllReadyH.nil
          simp only [List.getElem_toArray, List.getElem_cons_zero, List.getElem_cons_succ]
          go_simp
          refine hK.out _ _ trivial (fun _ => ?_)
          clear hK K
          simp only [Act.put, List.setIfInBounds_toArray, List.set_cons_zero, List.set_cons_succ, List.getElem_toArray, List.getElem_cons_zero, List.getElem_cons_succ]
          refine wpAnyH_done (by kernel_rfl) ?_ _
          refine NoPanic.normal ?_
          go_end0
          obtain ⟨l2, hl2, hI2, hS2⟩ := HFIN.out
          exact ⟨rfl, l2, hl2, hI2, Lib.hid (HST.out.trans hS2.out)⟩
  | some nb =>
    rw [hnv] at c1
    have hq0 := fun W => hqm W (some nb)
    clear hqm
    have HB6 := HB5
    go_wp2_with fail
    obtain ⟨Y, hYe⟩ : ∃ Y, w5 = Y := ⟨_, rfl⟩
    have HIS := HY
    have HST : Hid (Step w w5 (l.at S.F.length) (l.at S.F.length)) := Lib.hid (Step.ofBelow HS5.out _)
    obtain ⟨l1, hl1⟩ : ∃ l1, l = l1 := ⟨_, rfl⟩
    have hl1p : l1.p = l.p := by rw [hl1]
    have hl1b : l1.β = l.β := by rw [hl1]
    have hl1n : l1.nv = some nb := by rw [← hl1]; exact hnv
    have HST2 : Hid (Step w w5 (l.at S.F.length) (l1.at S.F.length)) := by rw [← hl1]; exact HST
    have HIS2 : Hid (IsFS w5 l1 S) := by rw [← hl1]; exact HIS
    clear HST HIS
    have HST := HST2
    have HIS := HIS2
    rw [hYe] at HST HIS HB6 ⊢
    clear c1 f1 hmm hq0 HS5 HB5 HY hYe hl1 hpl5 hnv HST2 HIS2
    have HNI := Lib.hid HIS.out.now
    have hdY : IsDir Y (some nb) l1.β S.now := by have := HIS.out.now; rw [hl1n] at this; exact this
    have HDY : Hid (IsDir Y.drew (some nb) l1.β S.now) := Lib.hid (hdY.keep fun _ _ => rfl)
    obtain ⟨wt1, _, hkY, _, d1, _, d3, _⟩ := HIS.out.cells
    rw [hl1n] at d1
    rw [hl1p] at d1 d3 hkY
    have hb0 := HB6.out.cell (o := 0) rfl
    have hb1 := HB6.out.cell (o := 1) rfl
    have hb2 := HB6.out.cell (o := 2) rfl
    have hldH : (loadH (.pointer (some ⟨w.heap.size, 0, none⟩))).run Tryz.prog Y.drew = .ok (.agg #[.string g, .string n, r]) Y.drew := run_loadH hb0 hb1 hb2
    have hap := apply_any nb l1.β S.now g n fo Y.drew HDY.out (by have := HIS.out.ok; have := now_le this; omega) (by unfold maxLen; omega) (by unfold maxLen; omega)
    unfold chgV at hap
    rw [hl1b, HRR.out] at hap
    have HKY := Lib.hid hkY
    have hsH : w.heap.size < Y.heap.size := HB6.out.lt
    clear hdY hkY hb0 hb1 hb2
    refine wp_region_noPanic ?_
    have hHeld : Y.grownBy Y.drew (some nb) := ⟨rfl, rfl, rfl, Nat.le_refl _, fun _ _ _ => rfl⟩
    refine wpAnyH_start (n := 6) (l := #[false, false, false, false, false, false]) (S := fun W => True) (by kernel_rfl) (trivial) (by kernel_rfl) (by kernel_rfl) ?_
    refine wpAnyH_take (i := 0) (oi := _) (v := ?_) rfl (by kernel_rfl) (by kernel_rfl) (by kernel_rfl) (fun _ _ _ h => h) (Or.inl ⟨by rfl, ?_⟩) trivial ?_
    rotate_left
    · intro wq hSw; go_simp; try with_reducible rfl
    simp only [Act.put, List.setIfInBounds_toArray, List.set_cons_zero, List.set_cons_succ, List.getElem_toArray, List.getElem_cons_zero, List.getElem_cons_succ]
    refine wpAnyH_take (i := 1) (oi := _) (v := ?_) rfl (by kernel_rfl) (by kernel_rfl) (by kernel_rfl) (fun _ _ _ h => h) (Or.inl ⟨by rfl, ?_⟩) trivial ?_
    rotate_left
    · intro wq hSw; go_simp; try with_reducible rfl
    simp only [Act.put, List.setIfInBounds_toArray, List.set_cons_zero, List.set_cons_succ, List.getElem_toArray, List.getElem_cons_zero, List.getElem_cons_succ]
    refine wpAnyH_take (i := 2) (oi := _) (v := ?_) rfl (by kernel_rfl) (by kernel_rfl) (by kernel_rfl) (fun _ _ _ h => h) (Or.inl ⟨by rfl, ?_⟩) trivial ?_
    rotate_left
    · intro wq hSw; go_simp; try with_reducible rfl
    simp only [Act.put, List.setIfInBounds_toArray, List.set_cons_zero, List.set_cons_succ, List.getElem_toArray, List.getElem_cons_zero, List.getElem_cons_succ]
    refine wpAnyH_ready (rs := [3, 4]) (by kernel_rfl) (by simp) ?_
    refine AllReadyH.cons (o := _) rfl (fun K hK => ?_) (AllReadyH.cons (o := _) rfl (fun K hK => ?_) AllReadyH.nil)
    rotate_left
    · simp only [List.getElem_toArray, List.getElem_cons_zero, List.getElem_cons_succ]
      go_simp
      refine hK.out _ _ trivial (fun _ => ?_)
      clear hK K
      simp only [Act.put, List.setIfInBounds_toArray, List.set_cons_zero, List.set_cons_succ, List.getElem_toArray, List.getElem_cons_zero, List.getElem_cons_succ]
      refine wpAnyH_ready (rs := [3]) (by kernel_rfl) (by simp) ?_
      refine AllReadyH.cons (o := _) rfl (fun K hK => ?_) AllReadyH.nil
      simp only [List.getElem_toArray, List.getElem_cons_zero, List.getElem_cons_succ]
      go_simp
      refine hK.out _ _ trivial (fun _ => ?_)
      clear hK K
      simp only [Act.put, List.setIfInBounds_toArray, List.set_cons_zero, List.set_cons_succ, List.getElem_toArray, List.getElem_cons_zero, List.getElem_cons_succ]
      refine wpAnyH_ready (rs := [5]) (by kernel_rfl) (by simp) ?_
      refine AllReadyH.cons (o := _) rfl (fun K hK => ?_) AllReadyH.nil
      simp only [List.getElem_toArray, List.getElem_cons_zero, List.getElem_cons_succ]
      go_simp
      refine hap.mono ?_
      rintro e Z ⟨rfl, hdZ, hgZ⟩
      refine hK.out _ _ trivial (fun _ => ?_)
      clear hK K
      simp only [Act.put, List.setIfInBounds_toArray, List.set_cons_zero, List.set_cons_succ, List.getElem_toArray, List.getElem_cons_zero, List.getElem_cons_succ]
      refine wpAnyH_done (by kernel_rfl) ?_ _
      refine NoPanic.normal ?_
      have hgYZ : Y.grownBy Z (some nb) := ⟨hgZ.os, hgZ.tape, hgZ.output, hgZ.size, hgZ.block⟩
      have hnbY : nb < Y.heap.size := HDY.out.lt nb rfl
      have hpnb : l.p ≠ nb := by
        have := HIS.out.p_ne.1
        rw [hl1n, hl1p] at this
        intro e; exact this (by rw [e])
      have hHnb : w.heap.size ≠ nb := blk_map_ne HB6.out (w := Y) (HDY.out.keep fun _ _ => rfl)
      have hBZ : Blk Z w.heap.size 66 [.string g, .string n, r] := HB6.out.grown hgYZ (by simpa using hHnb)
      have hKZ : Blk Z l.p 52 (fsC l1 S wt1) := HKY.out.grown hgYZ (by simpa using hpnb)
      have hPZ : Z.ownsRow 0 66 3 l1.pv S.pend.length (chgs l1.β S.pend) := HIS.out.pend.kept hgYZ (by
        cases hq : l1.pv.ownBlock with
        | none => exact .inl rfl
        | some g0 =>
          right
          intro e
          have hnow := HIS.out.now
          rw [hl1n] at hnow
          exact own_map_ne HIS.out.pend hnow (by rw [hq]; exact e))
      have HGYZ := Lib.hid hgYZ
      have HDZ := Lib.hid hdZ
      have HPZ := Lib.hid hPZ
      have HBZ := Lib.hid hBZ
      have HKZ := Lib.hid hKZ
      have hsZ : Y.heap.size ≤ Z.heap.size := hgYZ.size
      clear hap d1 hldH hgZ hgYZ hdZ hPZ hBZ hKZ hHeld HKY HDY HB6 HNI
      clear d3
      go_wp2_with fail
      obtain ⟨Z0, hZ0⟩ : ∃ Z0, Z0 = Z.drew := ⟨_, rfl⟩
      have hc3 : Z0.cell? ⟨l.p, 3, none⟩ = some l1.pv := by rw [hZ0]; exact HKZ.out.cell (o := 3) rfl
      have hc3a : (Z0.alloc (.cells #[.string g, .string n, r] 66)).cell? ⟨l.p, 3, none⟩ = some l1.pv := by rw [hZ0]; exact (HKZ.out.drew.alloc _).cell (o := 3) rfl
      have hldZ : (loadH (.pointer (some ⟨w.heap.size, 0, none⟩))).run Tryz.prog Z0 = .ok (.agg #[.string g, .string n, r]) Z0 := by rw [hZ0]; exact run_loadH (HBZ.out.cell (o := 0) rfl) (HBZ.out.cell (o := 1) rfl) (HBZ.out.cell (o := 2) rfl)
      refine wp_region_noPanic ?_
      refine wpAnyH_start (n := 11) (l := #[false, false, false, false, false, false, false, false, false, false, false]) (S := fun W => True) (by kernel_rfl) (trivial) (by kernel_rfl) (by kernel_rfl) ?_
      rw [← hZ0]
      have HZ0 := Lib.hid hZ0
      clear hZ0
      refine wpAnyH_take (i := 0) (oi := _) (v := ?_) rfl (by kernel_rfl) (by kernel_rfl) (by kernel_rfl) (fun _ _ _ h => h) (Or.inl ⟨by rfl, ?_⟩) trivial ?_
      rotate_left
      · intro wq hSw; go_simp; try with_reducible rfl
      simp only [Act.put, List.setIfInBounds_toArray, List.set_cons_zero, List.set_cons_succ, List.getElem_toArray, List.getElem_cons_zero, List.getElem_cons_succ]
      refine wpAnyH_take (i := 1) (oi := _) (v := ?_) rfl (by kernel_rfl) (by kernel_rfl) (by kernel_rfl) (fun _ _ _ h => h) (Or.inl ⟨by rfl, ?_⟩) trivial ?_
      rotate_left
      · intro wq hSw; go_simp; try with_reducible rfl
      simp only [Act.put, List.setIfInBounds_toArray, List.set_cons_zero, List.set_cons_succ, List.getElem_toArray, List.getElem_cons_zero, List.getElem_cons_succ]
      refine wpAnyH_take (i := 2) (oi := _) (v := ?_) rfl (by kernel_rfl) (by kernel_rfl) (by kernel_rfl) (fun _ _ _ h => h) (Or.inl ⟨by rfl, ?_⟩) trivial ?_
      rotate_left
      · intro wq hSw; go_simp; try with_reducible rfl
      simp only [Act.put, List.setIfInBounds_toArray, List.set_cons_zero, List.set_cons_succ, List.getElem_toArray, List.getElem_cons_zero, List.getElem_cons_succ]
      refine wpAnyH_take (i := 3) (oi := _) (v := ?_) rfl (by kernel_rfl) (by kernel_rfl) (by kernel_rfl) (fun _ _ _ h => h) (Or.inl ⟨by rfl, ?_⟩) trivial ?_
      rotate_left
      · intro wq hSw; go_simp; try with_reducible rfl
      simp only [Act.put, List.setIfInBounds_toArray, List.set_cons_zero, List.set_cons_succ, List.getElem_toArray, List.getElem_cons_zero, List.getElem_cons_succ]
      refine wpAnyH_ready (rs := [4, 5]) (by kernel_rfl) (by simp) ?_
      refine AllReadyH.cons (o := _) rfl (fun K hK => ?_) (AllReadyH.cons (o := _) rfl (fun K hK => ?_) AllReadyH.nil)
      · simp only [List.getElem_toArray, List.getElem_cons_zero, List.getElem_cons_succ]
        go_simp
        refine hK.out _ _ trivial (fun _ => ?_)
        clear hK K
        simp only [Act.put, List.setIfInBounds_toArray, List.set_cons_zero, List.set_cons_succ, List.getElem_toArray, List.getElem_cons_zero, List.getElem_cons_succ]
        refine wpAnyH_ready (rs := [5]) (by kernel_rfl) (by simp) ?_
        refine AllReadyH.cons (o := _) rfl (fun K hK => ?_) AllReadyH.nil
        simp only [List.getElem_toArray, List.getElem_cons_zero, List.getElem_cons_succ]
        go_simp
        refine hK.out _ _ trivial (fun _ => ?_)
        clear hK K
        simp only [Act.put, List.setIfInBounds_toArray, List.set_cons_zero, List.set_cons_succ, List.getElem_toArray, List.getElem_cons_zero, List.getElem_cons_succ]
        refine wpAnyH_ready (rs := [6]) (by kernel_rfl) (by simp) ?_
        refine AllReadyH.cons (o := _) rfl (fun K hK => ?_) AllReadyH.nil
        simp only [List.getElem_toArray, List.getElem_cons_zero, List.getElem_cons_succ]
        go_simp
        refine hK.out _ _ trivial (fun _ => ?_)
        clear hK K
        simp only [Act.put, List.setIfInBounds_toArray, List.set_cons_zero, List.set_cons_succ, List.getElem_toArray, List.getElem_cons_zero, List.getElem_cons_succ]
        refine wpAnyH_ready (rs := [7]) (by kernel_rfl) (by simp) ?_
        refine AllReadyH.cons (o := _) rfl (fun K hK => ?_) AllReadyH.nil
        simp only [List.getElem_toArray, List.getElem_cons_zero, List.getElem_cons_succ]
        rw [if_pos (by rfl)]
        obtain ⟨i0, hi, hz0, hz1, hz2⟩ := info_parts infoH
        have hPZ0 : Z0.ownsRow 0 66 3 l1.pv S.pend.length (chgs l1.β S.pend) := by rw [HZ0.out]; exact HPZ.out
        refine wp_append_nigh (.tmp 31) (.tmp 33) 50 rfl 66 i0 _ 3 40 Tryz.underlying50 hi hz0 hz1 hz2 (by rfl) (by decide) 0 l1.pv S.pend.length (chgs l1.β S.pend) rfl (own_allocG hPZ0 _) ⟨Z0.heap.size, 0, none⟩ 1 1 [.string g, .string n, r] rfl rfl (cells3_new Z0 _ _ _ _) (one3 HRR.out) (by have := HP.out; unfold maxLen; omega) (by have := HP.out; omega) (Nat.zero_le _) ?_
        intro pv' V1 hoV hgV hnV
        obtain ⟨sp', cp', rfl, _, _⟩ := ownsRow_slice hoV
        have hK1 : Blk (Z0.alloc (.cells #[.string g, .string n, r] 66)) l.p 52 (fsC l1 S wt1) := by rw [HZ0.out]; exact HKZ.out.drew.alloc _
        have hne3 : l1.pv.ownBlock ≠ some l.p := by have := HIS.out.p_ne.2.2.1; rw [hl1p] at this; exact this
        have hK2 : Blk V1 l.p 52 (fsC l1 S wt1) := hK1.grown hgV (fun e => hne3 e.symm)
        have hg2 : Z.grownBy V1 l1.pv.ownBlock := by
          have ha : Z.grownBy (Z0.alloc (.cells #[.string g, .string n, r] 66)) l1.pv.ownBlock := by
            rw [HZ0.out]
            have := World.grownBy_alloc Z.drew (.cells #[.string g, .string n, r] 66) l1.pv.ownBlock
            exact ⟨this.os, this.tape, this.output, this.size, this.block⟩
          exact grownBy_trans ha hgV
        have hn2 : Nigh Z l1.pv (.slice sp' (S.pend.length + 1) cp') := fun b hb => (hnV b hb).imp id fun h => by
          have e1 : (Z0.alloc (.cells #[.string g, .string n, r] 66)).heap.size = Z0.heap.size + 1 := by simp
          have e2 : Z0.heap.size = Z.heap.size := by rw [HZ0.out]; rfl
          omega
        have hck : chgC l1.β (g.data.toList, n.data.toList, fo) = [.string g, .string n, r] := by
          unfold chgC
          rw [hl1b, HRR.out]
        have hok := chg_ok (c := (g.data.toList, n.data.toList, fo)) HIS.out.ok HCC.out HL.out HP.out ⟨by simpa using hg'', by simpa using hn''⟩
        have hdZ := HDZ.out
        rw [← hl1b] at hdZ
        have hfin0 := HIS.out.change hl1n HGYZ.out hdZ hg2 (by rw [hck]; exact hoV) hn2 hok
        have hfin : ∃ l2 : Lay, l2.p = l.p ∧ Hid (IsFS (V1.setCell ⟨l.p, 3, none⟩ (.slice sp' (S.pend.length + 1) cp')) l2 (S.chg (g.data.toList, n.data.toList, fo))) ∧ Hid (Step Y (V1.setCell ⟨l.p, 3, none⟩ (.slice sp' (S.pend.length + 1) cp')) (l1.at S.F.length) (l2.at (S.chg (g.data.toList, n.data.toList, fo)).F.length)) :=
          ⟨{ l1 with pv := .slice sp' (S.pend.length + 1) cp' }, hl1p, Lib.hid (by rw [← hl1p]; exact hfin0.1), Lib.hid (by rw [← hl1p]; exact hfin0.2)⟩
        clear hfin0
        have HFIN := Lib.hid hfin
        have d3 := hK2.cell (o := 3) rfl
        have f3 := hK2.frozen 3
        clear hoV hgV hnV hK1 hK2 hg2 hn2 hck hok hdZ hfin hPZ0 hc3 hc3a hldZ
        refine hK.out _ _ trivial (fun _ => ?_)
        clear hK K
        simp only [Act.put, List.setIfInBounds_toArray, List.set_cons_zero, List.set_cons_succ, List.getElem_toArray, List.getElem_cons_zero, List.getElem_cons_succ]
        refine wpAnyH_take (i := 8) (oi := _) (v := ?_) rfl (by kernel_rfl) (by kernel_rfl) (by kernel_rfl) (fun _ _ _ h => h) (Or.inl ⟨by rfl, ?_⟩) trivial ?_
        rotate_left
        · intro wq hSw; go_simp; try with_reducible rfl
        simp only [Act.put, List.setIfInBounds_toArray, List.set_cons_zero, List.set_cons_succ, List.getElem_toArray, List.getElem_cons_zero, List.getElem_cons_succ]
        refine wpAnyH_take (i := 9) (oi := _) (v := ?_) rfl (by kernel_rfl) (by kernel_rfl) (by kernel_rfl) (fun _ _ _ h => h) (Or.inl ⟨by rfl, ?_⟩) trivial ?_
        rotate_left
        · intro wq hSw; go_simp; try with_reducible rfl
        simp only [Act.put, List.setIfInBounds_toArray, List.set_cons_zero, List.set_cons_succ, List.getElem_toArray, List.getElem_cons_zero, List.getElem_cons_succ]
        refine wpAnyH_ready (rs := [10]) (by kernel_rfl) (by simp) ?_
        refine AllReadyH.cons (o := _) rfl (fun K hK => ?_) AllReadyH.nil
        simp only [List.getElem_toArray, List.getElem_cons_zero, List.getElem_cons_succ]
        go_simp
        refine hK.out _ _ trivial (fun _ => ?_)
        clear hK K
        simp only [Act.put, List.setIfInBounds_toArray, List.set_cons_zero, List.set_cons_succ, List.getElem_toArray, List.getElem_cons_zero, List.getElem_cons_succ]
        refine wpAnyH_done (by kernel_rfl) ?_ _
        refine NoPanic.normal ?_
        go_end0
        obtain ⟨l2, hl2, hI2, hS2⟩ := HFIN.out
        exact ⟨rfl, l2, hl2, hI2, Lib.hid (HST.out.trans hS2.out)⟩
      · simp only [List.getElem_toArray, List.getElem_cons_zero, List.getElem_cons_succ]
        go_simp
        refine hK.out _ _ trivial (fun _ => ?_)
        clear hK K
        simp only [Act.put, List.setIfInBounds_toArray, List.set_cons_zero, List.set_cons_succ, List.getElem_toArray, List.getElem_cons_zero, List.getElem_cons_succ]
        refine wpAnyH_ready (rs := [4, 6]) (by kernel_rfl) (by simp) ?_
        refine AllReadyH.cons (o := _) rfl (fun K hK => ?_) (AllReadyH.cons (o := _) rfl (fun K hK => ?_) AllReadyH.nil)
        · simp only [List.getElem_toArray, List.getElem_cons_zero, List.getElem_cons_succ]
          go_simp
          refine hK.out _ _ trivial (fun _ => ?_)
          clear hK K
          simp only [Act.put, List.setIfInBounds_toArray, List.set_cons_zero, List.set_cons_succ, List.getElem_toArray, List.getElem_cons_zero, List.getElem_cons_succ]
          refine wpAnyH_ready (rs := [6]) (by kernel_rfl) (by simp) ?_
          refine AllReadyH.cons (o := _) rfl (fun K hK => ?_) AllReadyH.nil
          simp only [List.getElem_toArray, List.getElem_cons_zero, List.getElem_cons_succ]
          go_simp
          refine hK.out _ _ trivial (fun _ => ?_)
          clear hK K
          simp only [Act.put, List.setIfInBounds_toArray, List.set_cons_zero, List.set_cons_succ, List.getElem_toArray, List.getElem_cons_zero, List.getElem_cons_succ]
          refine wpAnyH_ready (rs := [7]) (by kernel_rfl) (by simp) ?_
          refine AllReadyH.cons (o := _) rfl (fun K hK => ?_) AllReadyH.nil
          simp only [List.getElem_toArray, List.getElem_cons_zero, List.getElem_cons_succ]
          rw [if_pos (by rfl)]
          obtain ⟨i0, hi, hz0, hz1, hz2⟩ := info_parts infoH
          have hPZ0 : Z0.ownsRow 0 66 3 l1.pv S.pend.length (chgs l1.β S.pend) := by rw [HZ0.out]; exact HPZ.out
          refine wp_append_nigh (.tmp 31) (.tmp 33) 50 rfl 66 i0 _ 3 40 Tryz.underlying50 hi hz0 hz1 hz2 (by rfl) (by decide) 0 l1.pv S.pend.length (chgs l1.β S.pend) rfl (own_allocG hPZ0 _) ⟨Z0.heap.size, 0, none⟩ 1 1 [.string g, .string n, r] rfl rfl (cells3_new Z0 _ _ _ _) (one3 HRR.out) (by have := HP.out; unfold maxLen; omega) (by have := HP.out; omega) (Nat.zero_le _) ?_
          intro pv' V1 hoV hgV hnV
          obtain ⟨sp', cp', rfl, _, _⟩ := ownsRow_slice hoV
          have hK1 : Blk (Z0.alloc (.cells #[.string g, .string n, r] 66)) l.p 52 (fsC l1 S wt1) := by rw [HZ0.out]; exact HKZ.out.drew.alloc _
          have hne3 : l1.pv.ownBlock ≠ some l.p := by have := HIS.out.p_ne.2.2.1; rw [hl1p] at this; exact this
          have hK2 : Blk V1 l.p 52 (fsC l1 S wt1) := hK1.grown hgV (fun e => hne3 e.symm)
          have hg2 : Z.grownBy V1 l1.pv.ownBlock := by
            have ha : Z.grownBy (Z0.alloc (.cells #[.string g, .string n, r] 66)) l1.pv.ownBlock := by
              rw [HZ0.out]
              have := World.grownBy_alloc Z.drew (.cells #[.string g, .string n, r] 66) l1.pv.ownBlock
              exact ⟨this.os, this.tape, this.output, this.size, this.block⟩
            exact grownBy_trans ha hgV
          have hn2 : Nigh Z l1.pv (.slice sp' (S.pend.length + 1) cp') := fun b hb => (hnV b hb).imp id fun h => by
            have e1 : (Z0.alloc (.cells #[.string g, .string n, r] 66)).heap.size = Z0.heap.size + 1 := by simp
            have e2 : Z0.heap.size = Z.heap.size := by rw [HZ0.out]; rfl
            omega
          have hck : chgC l1.β (g.data.toList, n.data.toList, fo) = [.string g, .string n, r] := by
            unfold chgC
            rw [hl1b, HRR.out]
          have hok := chg_ok (c := (g.data.toList, n.data.toList, fo)) HIS.out.ok HCC.out HL.out HP.out ⟨by simpa using hg'', by simpa using hn''⟩
          have hdZ := HDZ.out
          rw [← hl1b] at hdZ
          have hfin0 := HIS.out.change hl1n HGYZ.out hdZ hg2 (by rw [hck]; exact hoV) hn2 hok
          have hfin : ∃ l2 : Lay, l2.p = l.p ∧ Hid (IsFS (V1.setCell ⟨l.p, 3, none⟩ (.slice sp' (S.pend.length + 1) cp')) l2 (S.chg (g.data.toList, n.data.toList, fo))) ∧ Hid (Step Y (V1.setCell ⟨l.p, 3, none⟩ (.slice sp' (S.pend.length + 1) cp')) (l1.at S.F.length) (l2.at (S.chg (g.data.toList, n.data.toList, fo)).F.length)) :=
            ⟨{ l1 with pv := .slice sp' (S.pend.length + 1) cp' }, hl1p, Lib.hid (by rw [← hl1p]; exact hfin0.1), Lib.hid (by rw [← hl1p]; exact hfin0.2)⟩
          clear hfin0
          have HFIN := Lib.hid hfin
          have d3 := hK2.cell (o := 3) rfl
          have f3 := hK2.frozen 3
          clear hoV hgV hnV hK1 hK2 hg2 hn2 hck hok hdZ hfin hPZ0 hc3 hc3a hldZ
          refine hK.out _ _ trivial (fun _ => ?_)
          clear hK K
          simp only [Act.put, List.setIfInBounds_toArray, List.set_cons_zero, List.set_cons_succ, List.getElem_toArray, List.getElem_cons_zero, List.getElem_cons_succ]
          refine wpAnyH_take (i := 8) (oi := _) (v := ?_) rfl (by kernel_rfl) (by kernel_rfl) (by kernel_rfl) (fun _ _ _ h => h) (Or.inl ⟨by rfl, ?_⟩) trivial ?_
          rotate_left
          · intro wq hSw; go_simp; try with_reducible rfl
          simp only [Act.put, List.setIfInBounds_toArray, List.set_cons_zero, List.set_cons_succ, List.getElem_toArray, List.getElem_cons_zero, List.getElem_cons_succ]
          refine wpAnyH_take (i := 9) (oi := _) (v := ?_) rfl (by kernel_rfl) (by kernel_rfl) (by kernel_rfl) (fun _ _ _ h => h) (Or.inl ⟨by rfl, ?_⟩) trivial ?_
          rotate_left
          · intro wq hSw; go_simp; try with_reducible rfl
          simp only [Act.put, List.setIfInBounds_toArray, List.set_cons_zero, List.set_cons_succ, List.getElem_toArray, List.getElem_cons_zero, List.getElem_cons_succ]
          refine wpAnyH_ready (rs := [10]) (by kernel_rfl) (by simp) ?_
          refine AllReadyH.cons (o := _) rfl (fun K hK => ?_) AllReadyH.nil
          simp only [List.getElem_toArray, List.getElem_cons_zero, List.getElem_cons_succ]
          go_simp
          refine hK.out _ _ trivial (fun _ => ?_)
          clear hK K
          simp only [Act.put, List.setIfInBounds_toArray, List.set_cons_zero, List.set_cons_succ, List.getElem_toArray, List.getElem_cons_zero, List.getElem_cons_succ]
          refine wpAnyH_done (by kernel_rfl) ?_ _
          refine NoPanic.normal ?_
          go_end0
          obtain ⟨l2, hl2, hI2, hS2⟩ := HFIN.out
          exact ⟨rfl, l2, hl2, hI2, Lib.hid (HST.out.trans hS2.out)⟩
        · simp only [List.getElem_toArray, List.getElem_cons_zero, List.getElem_cons_succ]
          go_simp
          refine hK.out _ _ trivial (fun _ => ?_)
          clear hK K
          simp only [Act.put, List.setIfInBounds_toArray, List.set_cons_zero, List.set_cons_succ, List.getElem_toArray, List.getElem_cons_zero, List.getElem_cons_succ]
          refine wpAnyH_ready (rs := [4]) (by kernel_rfl) (by simp) ?_
          refine AllReadyH.cons (o := _) rfl (fun K hK => ?_) AllReadyH.nil
          simp only [List.getElem_toArray, List.getElem_cons_zero, List.getElem_cons_succ]
          go_simp
          refine hK.out _ _ trivial (fun _ => ?_)
          clear hK K
          simp only [Act.put, List.setIfInBounds_toArray, List.set_cons_zero, List.set_cons_succ, List.getElem_toArray, List.getElem_cons_zero, List.getElem_cons_succ]
          refine wpAnyH_ready (rs := [7]) (by kernel_rfl) (by simp) ?_
          refine AllReadyH.cons (o := _) rfl (fun K hK => ?_) AllReadyH.nil
          simp only [List.getElem_toArray, List.getElem_cons_zero, List.getElem_cons_succ]
          rw [if_pos (by rfl)]
          obtain ⟨i0, hi, hz0, hz1, hz2⟩ := info_parts infoH
          have hPZ0 : Z0.ownsRow 0 66 3 l1.pv S.pend.length (chgs l1.β S.pend) := by rw [HZ0.out]; exact HPZ.out
          refine wp_append_nigh (.tmp 31) (.tmp 33) 50 rfl 66 i0 _ 3 40 Tryz.underlying50 hi hz0 hz1 hz2 (by rfl) (by decide) 0 l1.pv S.pend.length (chgs l1.β S.pend) rfl (own_allocG hPZ0 _) ⟨Z0.heap.size, 0, none⟩ 1 1 [.string g, .string n, r] rfl rfl (cells3_new Z0 _ _ _ _) (one3 HRR.out) (by have := HP.out; unfold maxLen; omega) (by have := HP.out; omega) (Nat.zero_le _) ?_
          intro pv' V1 hoV hgV hnV
          obtain ⟨sp', cp', rfl, _, _⟩ := ownsRow_slice hoV
          have hK1 : Blk (Z0.alloc (.cells #[.string g, .string n, r] 66)) l.p 52 (fsC l1 S wt1) := by rw [HZ0.out]; exact HKZ.out.drew.alloc _
          have hne3 : l1.pv.ownBlock ≠ some l.p := by have := HIS.out.p_ne.2.2.1; rw [hl1p] at this; exact this
          have hK2 : Blk V1 l.p 52 (fsC l1 S wt1) := hK1.grown hgV (fun e => hne3 e.symm)
          have hg2 : Z.grownBy V1 l1.pv.ownBlock := by
            have ha : Z.grownBy (Z0.alloc (.cells #[.string g, .string n, r] 66)) l1.pv.ownBlock := by
              rw [HZ0.out]
              have := World.grownBy_alloc Z.drew (.cells #[.string g, .string n, r] 66) l1.pv.ownBlock
              exact ⟨this.os, this.tape, this.output, this.size, this.block⟩
            exact grownBy_trans ha hgV
          have hn2 : Nigh Z l1.pv (.slice sp' (S.pend.length + 1) cp') := fun b hb => (hnV b hb).imp id fun h => by
            have e1 : (Z0.alloc (.cells #[.string g, .string n, r] 66)).heap.size = Z0.heap.size + 1 := by simp
            have e2 : Z0.heap.size = Z.heap.size := by rw [HZ0.out]; rfl
            omega
          have hck : chgC l1.β (g.data.toList, n.data.toList, fo) = [.string g, .string n, r] := by
            unfold chgC
            rw [hl1b, HRR.out]
          have hok := chg_ok (c := (g.data.toList, n.data.toList, fo)) HIS.out.ok HCC.out HL.out HP.out ⟨by simpa using hg'', by simpa using hn''⟩
          have hdZ := HDZ.out
          rw [← hl1b] at hdZ
          have hfin0 := HIS.out.change hl1n HGYZ.out hdZ hg2 (by rw [hck]; exact hoV) hn2 hok
          have hfin : ∃ l2 : Lay, l2.p = l.p ∧ Hid (IsFS (V1.setCell ⟨l.p, 3, none⟩ (.slice sp' (S.pend.length + 1) cp')) l2 (S.chg (g.data.toList, n.data.toList, fo))) ∧ Hid (Step Y (V1.setCell ⟨l.p, 3, none⟩ (.slice sp' (S.pend.length + 1) cp')) (l1.at S.F.length) (l2.at (S.chg (g.data.toList, n.data.toList, fo)).F.length)) :=
            ⟨{ l1 with pv := .slice sp' (S.pend.length + 1) cp' }, hl1p, Lib.hid (by rw [← hl1p]; exact hfin0.1), Lib.hid (by rw [← hl1p]; exact hfin0.2)⟩
          clear hfin0
          have HFIN := Lib.hid hfin
          have d3 := hK2.cell (o := 3) rfl
          have f3 := hK2.frozen 3
          clear hoV hgV hnV hK1 hK2 hg2 hn2 hck hok hdZ hfin hPZ0 hc3 hc3a hldZ
          refine hK.out _ _ trivial (fun _ => ?_)
          clear hK K
          simp only [Act.put, List.setIfInBounds_toArray, List.set_cons_zero, List.set_cons_succ, List.getElem_toArray, List.getElem_cons_zero, List.getElem_cons_succ]
          refine wpAnyH_take (i := 8) (oi := _) (v := ?_) rfl (by kernel_rfl) (by kernel_rfl) (by kernel_rfl) (fun _ _ _ h => h) (Or.inl ⟨by rfl, ?_⟩) trivial ?_
          rotate_left
          · intro wq hSw; go_simp; try with_reducible rfl
          simp only [Act.put, List.setIfInBounds_toArray, List.set_cons_zero, List.set_cons_succ, List.getElem_toArray, List.getElem_cons_zero, List.getElem_cons_succ]
          refine wpAnyH_take (i := 9) (oi := _) (v := ?_) rfl (by kernel_rfl) (by kernel_rfl) (by kernel_rfl) (fun _ _ _ h => h) (Or.inl ⟨by rfl, ?_⟩) trivial ?_
          rotate_left
          · intro wq hSw; go_simp; try with_reducible rfl
          simp only [Act.put, List.setIfInBounds_toArray, List.set_cons_zero, List.set_cons_succ, List.getElem_toArray, List.getElem_cons_zero, List.getElem_cons_succ]
          refine wpAnyH_ready (rs := [10]) (by kernel_rfl) (by simp) ?_
          refine AllReadyH.cons (o := _) rfl (fun K hK => ?_) AllReadyH.nil
          simp only [List.getElem_toArray, List.getElem_cons_zero, List.getElem_cons_succ]
          go_simp
          refine hK.out _ _ trivial (fun _ => ?_)
          clear hK K
          simp only [Act.put, List.setIfInBounds_toArray, List.set_cons_zero, List.set_cons_succ, List.getElem_toArray, List.getElem_cons_zero, List.getElem_cons_succ]
          refine wpAnyH_done (by kernel_rfl) ?_ _
          refine NoPanic.normal ?_
          go_end0
          obtain ⟨l2, hl2, hI2, hS2⟩ := HFIN.out
          exact ⟨rfl, l2, hl2, hI2, Lib.hid (HST.out.trans hS2.out)⟩
    · simp only [List.getElem_toArray, List.getElem_cons_zero, List.getElem_cons_succ]
      go_simp
      refine hK.out _ _ trivial (fun _ => ?_)
      clear hK K
      simp only [Act.put, List.setIfInBounds_toArray, List.set_cons_zero, List.set_cons_succ, List.getElem_toArray, List.getElem_cons_zero, List.getElem_cons_succ]
      refine wpAnyH_ready (rs := [4]) (by kernel_rfl) (by simp) ?_
      refine AllReadyH.cons (o := _) rfl (fun K hK => ?_) AllReadyH.nil
      simp only [List.getElem_toArray, List.getElem_cons_zero, List.getElem_cons_succ]
      go_simp
      refine hK.out _ _ trivial (fun _ => ?_)
      clear hK K
      simp only [Act.put, List.setIfInBounds_toArray, List.set_cons_zero, List.set_cons_succ, List.getElem_toArray, List.getElem_cons_zero, List.getElem_cons_succ]
      refine wpAnyH_ready (rs := [5]) (by kernel_rfl) (by simp) ?_
      refine AllReadyH.cons (o := _) rfl (fun K hK => ?_) AllReadyH.nil
      simp only [List.getElem_toArray, List.getElem_cons_zero, List.getElem_cons_succ]
      go_simp
      refine hap.mono ?_
      rintro e Z ⟨rfl, hdZ, hgZ⟩
      refine hK.out _ _ trivial (fun _ => ?_)
      clear hK K
      simp only [Act.put, List.setIfInBounds_toArray, List.set_cons_zero, List.set_cons_succ, List.getElem_toArray, List.getElem_cons_zero, List.getElem_cons_succ]
      refine wpAnyH_done (by kernel_rfl) ?_ _
      refine NoPanic.normal ?_
      have hgYZ : Y.grownBy Z (some nb) := ⟨hgZ.os, hgZ.tape, hgZ.output, hgZ.size, hgZ.block⟩
      have hnbY : nb < Y.heap.size := HDY.out.lt nb rfl
      have hpnb : l.p ≠ nb := by
        have := HIS.out.p_ne.1
        rw [hl1n, hl1p] at this
        intro e; exact this (by rw [e])
      have hHnb : w.heap.size ≠ nb := blk_map_ne HB6.out (w := Y) (HDY.out.keep fun _ _ => rfl)
      have hBZ : Blk Z w.heap.size 66 [.string g, .string n, r] := HB6.out.grown hgYZ (by simpa using hHnb)
      have hKZ : Blk Z l.p 52 (fsC l1 S wt1) := HKY.out.grown hgYZ (by simpa using hpnb)
      have hPZ : Z.ownsRow 0 66 3 l1.pv S.pend.length (chgs l1.β S.pend) := HIS.out.pend.kept hgYZ (by
        cases hq : l1.pv.ownBlock with
        | none => exact .inl rfl
        | some g0 =>
          right
          intro e
          have hnow := HIS.out.now
          rw [hl1n] at hnow
          exact own_map_ne HIS.out.pend hnow (by rw [hq]; exact e))
      have HGYZ := Lib.hid hgYZ
      have HDZ := Lib.hid hdZ
      have HPZ := Lib.hid hPZ
      have HBZ := Lib.hid hBZ
      have HKZ := Lib.hid hKZ
      have hsZ : Y.heap.size ≤ Z.heap.size := hgYZ.size
      clear hap d1 hldH hgZ hgYZ hdZ hPZ hBZ hKZ hHeld HKY HDY HB6 HNI
      clear d3
      go_wp2_with fail
      obtain ⟨Z0, hZ0⟩ : ∃ Z0, Z0 = Z.drew := ⟨_, rfl⟩
      have hc3 : Z0.cell? ⟨l.p, 3, none⟩ = some l1.pv := by rw [hZ0]; exact HKZ.out.cell (o := 3) rfl
      have hc3a : (Z0.alloc (.cells #[.string g, .string n, r] 66)).cell? ⟨l.p, 3, none⟩ = some l1.pv := by rw [hZ0]; exact (HKZ.out.drew.alloc _).cell (o := 3) rfl
      have hldZ : (loadH (.pointer (some ⟨w.heap.size, 0, none⟩))).run Tryz.prog Z0 = .ok (.agg #[.string g, .string n, r]) Z0 := by rw [hZ0]; exact run_loadH (HBZ.out.cell (o := 0) rfl) (HBZ.out.cell (o := 1) rfl) (HBZ.out.cell (o := 2) rfl)
      refine wp_region_noPanic ?_
      refine wpAnyH_start (n := 11) (l := #[false, false, false, false, false, false, false, false, false, false, false]) (S := fun W => True) (by kernel_rfl) (trivial) (by kernel_rfl) (by kernel_rfl) ?_
      rw [← hZ0]
      have HZ0 := Lib.hid hZ0
      clear hZ0
      refine wpAnyH_take (i := 0) (oi := _) (v := ?_) rfl (by kernel_rfl) (by kernel_rfl) (by kernel_rfl) (fun _ _ _ h => h) (Or.inl ⟨by rfl, ?_⟩) trivial ?_
      rotate_left
      · intro wq hSw; go_simp; try with_reducible rfl
      simp only [Act.put, List.setIfInBounds_toArray, List.set_cons_zero, List.set_cons_succ, List.getElem_toArray, List.getElem_cons_zero, List.getElem_cons_succ]
      refine wpAnyH_take (i := 1) (oi := _) (v := ?_) rfl (by kernel_rfl) (by kernel_rfl) (by kernel_rfl) (fun _ _ _ h => h) (Or.inl ⟨by rfl, ?_⟩) trivial ?_
      rotate_left
      · intro wq hSw; go_simp; try with_reducible rfl
      simp only [Act.put, List.setIfInBounds_toArray, List.set_cons_zero, List.set_cons_succ, List.getElem_toArray, List.getElem_cons_zero, List.getElem_cons_succ]
      refine wpAnyH_take (i := 2) (oi := _) (v := ?_) rfl (by kernel_rfl) (by kernel_rfl) (by kernel_rfl) (fun _ _ _ h => h) (Or.inl ⟨by rfl, ?_⟩) trivial ?_
      rotate_left
      · intro wq hSw; go_simp; try with_reducible rfl
      simp only [Act.put, List.setIfInBounds_toArray, List.set_cons_zero, List.set_cons_succ, List.getElem_toArray, List.getElem_cons_zero, List.getElem_cons_succ]
      refine wpAnyH_take (i := 3) (oi := _) (v := ?_) rfl (by kernel_rfl) (by kernel_rfl) (by kernel_rfl) (fun _ _ _ h => h) (Or.inl ⟨by rfl, ?_⟩) trivial ?_
      rotate_left
      · intro wq hSw; go_simp; try with_reducible rfl
      simp only [Act.put, List.setIfInBounds_toArray, List.set_cons_zero, List.set_cons_succ, List.getElem_toArray, List.getElem_cons_zero, List.getElem_cons_succ]
      refine wpAnyH_ready (rs := [4, 5]) (by kernel_rfl) (by simp) ?_
      refine AllReadyH.cons (o := _) rfl (fun K hK => ?_) (AllReadyH.cons (o := _) rfl (fun K hK => ?_) AllReadyH.nil)
      · simp only [List.getElem_toArray, List.getElem_cons_zero, List.getElem_cons_succ]
        go_simp
        refine hK.out _ _ trivial (fun _ => ?_)
        clear hK K
        simp only [Act.put, List.setIfInBounds_toArray, List.set_cons_zero, List.set_cons_succ, List.getElem_toArray, List.getElem_cons_zero, List.getElem_cons_succ]
        refine wpAnyH_ready (rs := [5]) (by kernel_rfl) (by simp) ?_
        refine AllReadyH.cons (o := _) rfl (fun K hK => ?_) AllReadyH.nil
        simp only [List.getElem_toArray, List.getElem_cons_zero, List.getElem_cons_succ]
        go_simp
        refine hK.out _ _ trivial (fun _ => ?_)
        clear hK K
        simp only [Act.put, List.setIfInBounds_toArray, List.set_cons_zero, List.set_cons_succ, List.getElem_toArray, List.getElem_cons_zero, List.getElem_cons_succ]
        refine wpAnyH_ready (rs := [6]) (by kernel_rfl) (by simp) ?_
        refine AllReadyH.cons (o := _) rfl (fun K hK => ?_) AllReadyH.nil
        simp only [List.getElem_toArray, List.getElem_cons_zero, List.getElem_cons_succ]
        go_simp
        refine hK.out _ _ trivial (fun _ => ?_)
        clear hK K
        simp only [Act.put, List.setIfInBounds_toArray, List.set_cons_zero, List.set_cons_succ, List.getElem_toArray, List.getElem_cons_zero, List.getElem_cons_succ]
        refine wpAnyH_ready (rs := [7]) (by kernel_rfl) (by simp) ?_
        refine AllReadyH.cons (o := _) rfl (fun K hK => ?_) AllReadyH.nil
        simp only [List.getElem_toArray, List.getElem_cons_zero, List.getElem_cons_succ]
        rw [if_pos (by rfl)]
        obtain ⟨i0, hi, hz0, hz1, hz2⟩ := info_parts infoH
        have hPZ0 : Z0.ownsRow 0 66 3 l1.pv S.pend.length (chgs l1.β S.pend) := by rw [HZ0.out]; exact HPZ.out
        refine wp_append_nigh (.tmp 31) (.tmp 33) 50 rfl 66 i0 _ 3 40 Tryz.underlying50 hi hz0 hz1 hz2 (by rfl) (by decide) 0 l1.pv S.pend.length (chgs l1.β S.pend) rfl (own_allocG hPZ0 _) ⟨Z0.heap.size, 0, none⟩ 1 1 [.string g, .string n, r] rfl rfl (cells3_new Z0 _ _ _ _) (one3 HRR.out) (by have := HP.out; unfold maxLen; omega) (by have := HP.out; omega) (Nat.zero_le _) ?_
        intro pv' V1 hoV hgV hnV
        obtain ⟨sp', cp', rfl, _, _⟩ := ownsRow_slice hoV
        have hK1 : Blk (Z0.alloc (.cells #[.string g, .string n, r] 66)) l.p 52 (fsC l1 S wt1) := by rw [HZ0.out]; exact HKZ.out.drew.alloc _
        have hne3 : l1.pv.ownBlock ≠ some l.p := by have := HIS.out.p_ne.2.2.1; rw [hl1p] at this; exact this
        have hK2 : Blk V1 l.p 52 (fsC l1 S wt1) := hK1.grown hgV (fun e => hne3 e.symm)
        have hg2 : Z.grownBy V1 l1.pv.ownBlock := by
          have ha : Z.grownBy (Z0.alloc (.cells #[.string g, .string n, r] 66)) l1.pv.ownBlock := by
            rw [HZ0.out]
            have := World.grownBy_alloc Z.drew (.cells #[.string g, .string n, r] 66) l1.pv.ownBlock
            exact ⟨this.os, this.tape, this.output, this.size, this.block⟩
          exact grownBy_trans ha hgV
        have hn2 : Nigh Z l1.pv (.slice sp' (S.pend.length + 1) cp') := fun b hb => (hnV b hb).imp id fun h => by
          have e1 : (Z0.alloc (.cells #[.string g, .string n, r] 66)).heap.size = Z0.heap.size + 1 := by simp
          have e2 : Z0.heap.size = Z.heap.size := by rw [HZ0.out]; rfl
          omega
        have hck : chgC l1.β (g.data.toList, n.data.toList, fo) = [.string g, .string n, r] := by
          unfold chgC
          rw [hl1b, HRR.out]
        have hok := chg_ok (c := (g.data.toList, n.data.toList, fo)) HIS.out.ok HCC.out HL.out HP.out ⟨by simpa using hg'', by simpa using hn''⟩
        have hdZ := HDZ.out
        rw [← hl1b] at hdZ
        have hfin0 := HIS.out.change hl1n HGYZ.out hdZ hg2 (by rw [hck]; exact hoV) hn2 hok
        have hfin : ∃ l2 : Lay, l2.p = l.p ∧ Hid (IsFS (V1.setCell ⟨l.p, 3, none⟩ (.slice sp' (S.pend.length + 1) cp')) l2 (S.chg (g.data.toList, n.data.toList, fo))) ∧ Hid (Step Y (V1.setCell ⟨l.p, 3, none⟩ (.slice sp' (S.pend.length + 1) cp')) (l1.at S.F.length) (l2.at (S.chg (g.data.toList, n.data.toList, fo)).F.length)) :=
          ⟨{ l1 with pv := .slice sp' (S.pend.length + 1) cp' }, hl1p, Lib.hid (by rw [← hl1p]; exact hfin0.1), Lib.hid (by rw [← hl1p]; exact hfin0.2)⟩
        clear hfin0
        have HFIN := Lib.hid hfin
        have d3 := hK2.cell (o := 3) rfl
        have f3 := hK2.frozen 3
        clear hoV hgV hnV hK1 hK2 hg2 hn2 hck hok hdZ hfin hPZ0 hc3 hc3a hldZ
        refine hK.out _ _ trivial (fun _ => ?_)
        clear hK K
        simp only [Act.put, List.setIfInBounds_toArray, List.set_cons_zero, List.set_cons_succ, List.getElem_toArray, List.getElem_cons_zero, List.getElem_cons_succ]
        refine wpAnyH_take (i := 8) (oi := _) (v := ?_) rfl (by kernel_rfl) (by kernel_rfl) (by kernel_rfl) (fun _ _ _ h => h) (Or.inl ⟨by rfl, ?_⟩) trivial ?_
        rotate_left
        · intro wq hSw; go_simp; try with_reducible rfl
        simp only [Act.put, List.setIfInBounds_toArray, List.set_cons_zero, List.set_cons_succ, List.getElem_toArray, List.getElem_cons_zero, List.getElem_cons_succ]
        refine wpAnyH_take (i := 9) (oi := _) (v := ?_) rfl (by kernel_rfl) (by kernel_rfl) (by kernel_rfl) (fun _ _ _ h => h) (Or.inl ⟨by rfl, ?_⟩) trivial ?_
        rotate_left
        · intro wq hSw; go_simp; try with_reducible rfl
        simp only [Act.put, List.setIfInBounds_toArray, List.set_cons_zero, List.set_cons_succ, List.getElem_toArray, List.getElem_cons_zero, List.getElem_cons_succ]
        refine wpAnyH_ready (rs := [10]) (by kernel_rfl) (by simp) ?_
        refine AllReadyH.cons (o := _) rfl (fun K hK => ?_) AllReadyH.nil
        simp only [List.getElem_toArray, List.getElem_cons_zero, List.getElem_cons_succ]
        go_simp
        refine hK.out _ _ trivial (fun _ => ?_)
        clear hK K
        simp only [Act.put, List.setIfInBounds_toArray, List.set_cons_zero, List.set_cons_succ, List.getElem_toArray, List.getElem_cons_zero, List.getElem_cons_succ]
        refine wpAnyH_done (by kernel_rfl) ?_ _
        refine NoPanic.normal ?_
        go_end0
        obtain ⟨l2, hl2, hI2, hS2⟩ := HFIN.out
        exact ⟨rfl, l2, hl2, hI2, Lib.hid (HST.out.trans hS2.out)⟩
      · simp only [List.getElem_toArray, List.getElem_cons_zero, List.getElem_cons_succ]
        go_simp
        refine hK.out _ _ trivial (fun _ => ?_)
        clear hK K
        simp only [Act.put, List.setIfInBounds_toArray, List.set_cons_zero, List.set_cons_succ, List.getElem_toArray, List.getElem_cons_zero, List.getElem_cons_succ]
        refine wpAnyH_ready (rs := [4, 6]) (by kernel_rfl) (by simp) ?_
        refine AllReadyH.cons (o := _) rfl (fun K hK => ?_) (AllReadyH.cons (o := _) rfl (fun K hK => ?_) AllReadyH.nil)
        · simp only [List.getElem_toArray, List.getElem_cons_zero, List.getElem_cons_succ]
          go_simp
          refine hK.out _ _ trivial (fun _ => ?_)
          clear hK K
          simp only [Act.put, List.setIfInBounds_toArray, List.set_cons_zero, List.set_cons_succ, List.getElem_toArray, List.getElem_cons_zero, List.getElem_cons_succ]
          refine wpAnyH_ready (rs := [6]) (by kernel_rfl) (by simp) ?_
          refine AllReadyH.cons (o := _) rfl (fun K hK => ?_) AllReadyH.nil
          simp only [List.getElem_toArray, List.getElem_cons_zero, List.getElem_cons_succ]
          go_simp
          refine hK.out _ _ trivial (fun _ => ?_)
          clear hK K
          simp only [Act.put, List.setIfInBounds_toArray, List.set_cons_zero, List.set_cons_succ, List.getElem_toArray, List.getElem_cons_zero, List.getElem_cons_succ]
          refine wpAnyH_ready (rs := [7]) (by kernel_rfl) (by simp) ?_
          refine AllReadyH.cons (o := _) rfl (fun K hK => ?_) AllReadyH.nil
          simp only [List.getElem_toArray, List.getElem_cons_zero, List.getElem_cons_succ]
          rw [if_pos (by rfl)]
          obtain ⟨i0, hi, hz0, hz1, hz2⟩ := info_parts infoH
          have hPZ0 : Z0.ownsRow 0 66 3 l1.pv S.pend.length (chgs l1.β S.pend) := by rw [HZ0.out]; exact HPZ.out
          refine wp_append_nigh (.tmp 31) (.tmp 33) 50 rfl 66 i0 _ 3 40 Tryz.underlying50 hi hz0 hz1 hz2 (by rfl) (by decide) 0 l1.pv S.pend.length (chgs l1.β S.pend) rfl (own_allocG hPZ0 _) ⟨Z0.heap.size, 0, none⟩ 1 1 [.string g, .string n, r] rfl rfl (cells3_new Z0 _ _ _ _) (one3 HRR.out) (by have := HP.out; unfold maxLen; omega) (by have := HP.out; omega) (Nat.zero_le _) ?_
          intro pv' V1 hoV hgV hnV
          obtain ⟨sp', cp', rfl, _, _⟩ := ownsRow_slice hoV
          have hK1 : Blk (Z0.alloc (.cells #[.string g, .string n, r] 66)) l.p 52 (fsC l1 S wt1) := by rw [HZ0.out]; exact HKZ.out.drew.alloc _
          have hne3 : l1.pv.ownBlock ≠ some l.p := by have := HIS.out.p_ne.2.2.1; rw [hl1p] at this; exact this
          have hK2 : Blk V1 l.p 52 (fsC l1 S wt1) := hK1.grown hgV (fun e => hne3 e.symm)
          have hg2 : Z.grownBy V1 l1.pv.ownBlock := by
            have ha : Z.grownBy (Z0.alloc (.cells #[.string g, .string n, r] 66)) l1.pv.ownBlock := by
              rw [HZ0.out]
              have := World.grownBy_alloc Z.drew (.cells #[.string g, .string n, r] 66) l1.pv.ownBlock
              exact ⟨this.os, this.tape, this.output, this.size, this.block⟩
            exact grownBy_trans ha hgV
          have hn2 : Nigh Z l1.pv (.slice sp' (S.pend.length + 1) cp') := fun b hb => (hnV b hb).imp id fun h => by
            have e1 : (Z0.alloc (.cells #[.string g, .string n, r] 66)).heap.size = Z0.heap.size + 1 := by simp
            have e2 : Z0.heap.size = Z.heap.size := by rw [HZ0.out]; rfl
            omega
          have hck : chgC l1.β (g.data.toList, n.data.toList, fo) = [.string g, .string n, r] := by
            unfold chgC
            rw [hl1b, HRR.out]
          have hok := chg_ok (c := (g.data.toList, n.data.toList, fo)) HIS.out.ok HCC.out HL.out HP.out ⟨by simpa using hg'', by simpa using hn''⟩
          have hdZ := HDZ.out
          rw [← hl1b] at hdZ
          have hfin0 := HIS.out.change hl1n HGYZ.out hdZ hg2 (by rw [hck]; exact hoV) hn2 hok
          have hfin : ∃ l2 : Lay, l2.p = l.p ∧ Hid (IsFS (V1.setCell ⟨l.p, 3, none⟩ (.slice sp' (S.pend.length + 1) cp')) l2 (S.chg (g.data.toList, n.data.toList, fo))) ∧ Hid (Step Y (V1.setCell ⟨l.p, 3, none⟩ (.slice sp' (S.pend.length + 1) cp')) (l1.at S.F.length) (l2.at (S.chg (g.data.toList, n.data.toList, fo)).F.length)) :=
            ⟨{ l1 with pv := .slice sp' (S.pend.length + 1) cp' }, hl1p, Lib.hid (by rw [← hl1p]; exact hfin0.1), Lib.hid (by rw [← hl1p]; exact hfin0.2)⟩
          clear hfin0
          have HFIN := Lib.hid hfin
          have d3 := hK2.cell (o := 3) rfl
          have f3 := hK2.frozen 3
          clear hoV hgV hnV hK1 hK2 hg2 hn2 hck hok hdZ hfin hPZ0 hc3 hc3a hldZ
          refine hK.out _ _ trivial (fun _ => ?_)
          clear hK K
          simp only [Act.put, List.setIfInBounds_toArray, List.set_cons_zero, List.set_cons_succ, List.getElem_toArray, List.getElem_cons_zero, List.getElem_cons_succ]
          refine wpAnyH_take (i := 8) (oi := _) (v := ?_) rfl (by kernel_rfl) (by kernel_rfl) (by kernel_rfl) (fun _ _ _ h => h) (Or.inl ⟨by rfl, ?_⟩) trivial ?_
          rotate_left
          · intro wq hSw; go_simp; try with_reducible rfl
          simp only [Act.put, List.setIfInBounds_toArray, List.set_cons_zero, List.set_cons_succ, List.getElem_toArray, List.getElem_cons_zero, List.getElem_cons_succ]
          refine wpAnyH_take (i := 9) (oi := _) (v := ?_) rfl (by kernel_rfl) (by kernel_rfl) (by kernel_rfl) (fun _ _ _ h => h) (Or.inl ⟨by rfl, ?_⟩) trivial ?_
          rotate_left
          · intro wq hSw; go_simp; try with_reducible rfl
          simp only [Act.put, List.setIfInBounds_toArray, List.set_cons_zero, List.set_cons_succ, List.getElem_toArray, List.getElem_cons_zero, List.getElem_cons_succ]
          refine wpAnyH_ready (rs := [10]) (by kernel_rfl) (by simp) ?_
          refine AllReadyH.cons (o := _) rfl (fun K hK => ?_) AllReadyH.nil
          simp only [List.getElem_toArray, List.getElem_cons_zero, List.getElem_cons_succ]
          go_simp
          refine hK.out _ _ trivial (fun _ => ?_)
          clear hK K
          simp only [Act.put, List.setIfInBounds_toArray, List.set_cons_zero, List.set_cons_succ, List.getElem_toArray, List.getElem_cons_zero, List.getElem_cons_succ]
          refine wpAnyH_done (by kernel_rfl) ?_ _
          refine NoPanic.normal ?_
          go_end0
          obtain ⟨l2, hl2, hI2, hS2⟩ := HFIN.out
          exact ⟨rfl, l2, hl2, hI2, Lib.hid (HST.out.trans hS2.out)⟩
        · simp only [List.getElem_toArray, List.getElem_cons_zero, List.getElem_cons_succ]
          go_simp
          refine hK.out _ _ trivial (fun _ => ?_)
          clear hK K
          simp only [Act.put, List.setIfInBounds_toArray, List.set_cons_zero, List.set_cons_succ, List.getElem_toArray, List.getElem_cons_zero, List.getElem_cons_succ]
          refine wpAnyH_ready (rs := [4]) (by kernel_rfl) (by simp) ?_
          refine AllReadyH.cons (o := _) rfl (fun K hK => ?_) AllReadyH.nil
          simp only [List.getElem_toArray, List.getElem_cons_zero, List.getElem_cons_succ]
          go_simp
          refine hK.out _ _ trivial (fun _ => ?_)
          clear hK K
          simp only [Act.put, List.setIfInBounds_toArray, List.set_cons_zero, List.set_cons_succ, List.getElem_toArray, List.getElem_cons_zero, List.getElem_cons_succ]
          refine wpAnyH_ready (rs := [7]) (by kernel_rfl) (by simp) ?_
          refine AllReadyH.cons (o := _) rfl (fun K hK => ?_) AllReadyH.nil
          simp only [List.getElem_toArray, List.getElem_cons_zero, List.getElem_cons_succ]
          rw [if_pos (by rfl)]
          obtain ⟨i0, hi, hz0, hz1, hz2⟩ := info_parts infoH
          have hPZ0 : Z0.ownsRow 0 66 3 l1.pv S.pend.length (chgs l1.β S.pend) := by rw [HZ0.out]; exact HPZ.out
          refine wp_append_nigh (.tmp 31) (.tmp 33) 50 rfl 66 i0 _ 3 40 Tryz.underlying50 hi hz0 hz1 hz2 (by rfl) (by decide) 0 l1.pv S.pend.length (chgs l1.β S.pend) rfl (own_allocG hPZ0 _) ⟨Z0.heap.size, 0, none⟩ 1 1 [.string g, .string n, r] rfl rfl (cells3_new Z0 _ _ _ _) (one3 HRR.out) (by have := HP.out; unfold maxLen; omega) (by have := HP.out; omega) (Nat.zero_le _) ?_
          intro pv' V1 hoV hgV hnV
          obtain ⟨sp', cp', rfl, _, _⟩ := ownsRow_slice hoV
          have hK1 : Blk (Z0.alloc (.cells #[.string g, .string n, r] 66)) l.p 52 (fsC l1 S wt1) := by rw [HZ0.out]; exact HKZ.out.drew.alloc _
          have hne3 : l1.pv.ownBlock ≠ some l.p := by have := HIS.out.p_ne.2.2.1; rw [hl1p] at this; exact this
          have hK2 : Blk V1 l.p 52 (fsC l1 S wt1) := hK1.grown hgV (fun e => hne3 e.symm)
          have hg2 : Z.grownBy V1 l1.pv.ownBlock := by
            have ha : Z.grownBy (Z0.alloc (.cells #[.string g, .string n, r] 66)) l1.pv.ownBlock := by
              rw [HZ0.out]
              have := World.grownBy_alloc Z.drew (.cells #[.string g, .string n, r] 66) l1.pv.ownBlock
              exact ⟨this.os, this.tape, this.output, this.size, this.block⟩
            exact grownBy_trans ha hgV
          have hn2 : Nigh Z l1.pv (.slice sp' (S.pend.length + 1) cp') := fun b hb => (hnV b hb).imp id fun h => by
            have e1 : (Z0.alloc (.cells #[.string g, .string n, r] 66)).heap.size = Z0.heap.size + 1 := by simp
            have e2 : Z0.heap.size = Z.heap.size := by rw [HZ0.out]; rfl
            omega
          have hck : chgC l1.β (g.data.toList, n.data.toList, fo) = [.string g, .string n, r] := by
            unfold chgC
            rw [hl1b, HRR.out]
          have hok := chg_ok (c := (g.data.toList, n.data.toList, fo)) HIS.out.ok HCC.out HL.out HP.out ⟨by simpa using hg'', by simpa using hn''⟩
          have hdZ := HDZ.out
          rw [← hl1b] at hdZ
          have hfin0 := HIS.out.change hl1n HGYZ.out hdZ hg2 (by rw [hck]; exact hoV) hn2 hok
          have hfin : ∃ l2 : Lay, l2.p = l.p ∧ Hid (IsFS (V1.setCell ⟨l.p, 3, none⟩ (.slice sp' (S.pend.length + 1) cp')) l2 (S.chg (g.data.toList, n.data.toList, fo))) ∧ Hid (Step Y (V1.setCell ⟨l.p, 3, none⟩ (.slice sp' (S.pend.length + 1) cp')) (l1.at S.F.length) (l2.at (S.chg (g.data.toList, n.data.toList, fo)).F.length)) :=
            ⟨{ l1 with pv := .slice sp' (S.pend.length + 1) cp' }, hl1p, Lib.hid (by rw [← hl1p]; exact hfin0.1), Lib.hid (by rw [← hl1p]; exact hfin0.2)⟩
          clear hfin0
          have HFIN := Lib.hid hfin
          have d3 := hK2.cell (o := 3) rfl
          have f3 := hK2.frozen 3
          clear hoV hgV hnV hK1 hK2 hg2 hn2 hck hok hdZ hfin hPZ0 hc3 hc3a hldZ
          refine hK.out _ _ trivial (fun _ => ?_)
          clear hK K
          simp only [Act.put, List.setIfInBounds_toArray, List.set_cons_zero, List.set_cons_succ, List.getElem_toArray, List.getElem_cons_zero, List.getElem_cons_succ]
          refine wpAnyH_take (i := 8) (oi := _) (v := ?_) rfl (by kernel_rfl) (by kernel_rfl) (by kernel_rfl) (fun _ _ _ h => h) (Or.inl ⟨by rfl, ?_⟩) trivial ?_
          rotate_left
          · intro wq hSw; go_simp; try with_reducible rfl
          simp only [Act.put, List.setIfInBounds_toArray, List.set_cons_zero, List.set_cons_succ, List.getElem_toArray, List.getElem_cons_zero, List.getElem_cons_succ]
          refine wpAnyH_take (i := 9) (oi := _) (v := ?_) rfl (by kernel_rfl) (by kernel_rfl) (by kernel_rfl) (fun _ _ _ h => h) (Or.inl ⟨by rfl, ?_⟩) trivial ?_
          rotate_left
          · intro wq hSw; go_simp; try with_reducible rfl
          simp only [Act.put, List.setIfInBounds_toArray, List.set_cons_zero, List.set_cons_succ, List.getElem_toArray, List.getElem_cons_zero, List.getElem_cons_succ]
          refine wpAnyH_ready (rs := [10]) (by kernel_rfl) (by simp) ?_
          refine AllReadyH.cons (o := _) rfl (fun K hK => ?_) AllReadyH.nil
          simp only [List.getElem_toArray, List.getElem_cons_zero, List.getElem_cons_succ]
          go_simp
          refine hK.out _ _ trivial (fun _ => ?_)
          clear hK K
          simp only [Act.put, List.setIfInBounds_toArray, List.set_cons_zero, List.set_cons_succ, List.getElem_toArray, List.getElem_cons_zero, List.getElem_cons_succ]
          refine wpAnyH_done (by kernel_rfl) ?_ _
          refine NoPanic.normal ?_
          go_end0
          obtain ⟨l2, hl2, hI2, hS2⟩ := HFIN.out
          exact ⟨rfl, l2, hl2, hI2, Lib.hid (HST.out.trans hS2.out)⟩
end Go.Proofs.YthgpdnffahmhjaaGreatDoor.S13

/- Texts put together: MaW. -/
import Derived.Test.YthgpdnffahmhjaaGreatDoorMg17
import Derived.Test.YthgpdnffahmhjaaGreatDoorMg31
import Derived.Test.YthgpdnffahmhjaaGreatDoorMg37
set_option linter.unusedSimpArgs false
set_option linter.unusedVariables false
set_option maxRecDepth 100000
namespace Go.Proofs.YthgpdnffahmhjaaGreatDoor.S19
open Go.RowKit Go.Maps Go.Shelf Go.Sort S18 S13 S13.Dk S15 S3
theorem own_heapM {w w' : World} {base e s : Nat} {v : Value} {n : Nat} {xs : List Value} (h : w.ownsRow base e s v n xs) (hs : ∀ b, v.ownBlock = some b → w'.heap[b]? = w.heap[b]?) : w'.ownsRow base e s v n xs := by
  obtain ⟨hl, hp⟩ := h
  refine ⟨hl, ?_⟩
  obtain hp | ⟨g, cap, cur, hv, hg, hh, r⟩ := hp
  · exact .inl hp
  · exact .inr ⟨g, cap, cur, hv, hg, (hs g (by rw [hv]; rfl)).trans hh, r⟩
theorem ascRS {R : SG → List Value → Prop} (sv : Option Nat) (L : List SG) (w : World) (h : MapO SG.num 6 R w sv L) (hk : ∀ x ∈ L, 0 ≤ SG.num x ∧ SG.num x ≤ 1125899906842624) (hl : L.length ≤ 1000) :
    Calls Tryz.prog 34 #[.map sv] w fun e w' => ∃ a c, e = .returned (.slice a L.length c) ∧ OwnD w.heap.size 40 6 R w' (.slice a L.length c) L ∧ Below w.heap.size w w' := by
  obtain ⟨rfl, rfl⟩ | ⟨b, rfl, M, rfl, hR, hM, hm⟩ := h
  · refine (asc_nilS R w).mono ?_
    rintro e w' ⟨v, rfl, ho, hb⟩
    obtain ⟨a, c, rfl, _⟩ := OwnD.slice ho
    exact ⟨a, c, rfl, ho, hb⟩
  · rw [List.length_map] at hl
    refine (ascS (key := SG.num) b M w hm hM (fun x hx => hk x.1 (List.mem_map.2 ⟨x, hx, rfl⟩)) hl).mono ?_
    rintro e w' ⟨v, rfl, ho, hb⟩
    obtain ⟨a, c, rfl, _⟩ := OwnD.slice ho
    exact ⟨a, c, rfl, ho.keep (R' := R) (gr_below (Below.refl _ _)) (by simp) (fun x c hx => hR _ hx), hb⟩
theorem ascRP {R : PT → List Value → Prop} (sv : Option Nat) (L : List PT) (w : World) (h : MapO PT.group 5 R w sv L) (hk : ∀ x ∈ L, 0 ≤ PT.group x ∧ PT.group x ≤ 1125899906842624) (hl : L.length ≤ 1000) :
    Calls Tryz.prog 100 #[.map sv] w fun e w' => ∃ a c, e = .returned (.slice a L.length c) ∧ OwnD w.heap.size 95 5 R w' (.slice a L.length c) L ∧ Below w.heap.size w w' := by
  obtain ⟨rfl, rfl⟩ | ⟨b, rfl, M, rfl, hR, hM, hm⟩ := h
  · refine (asc_nilP R w).mono ?_
    rintro e w' ⟨v, rfl, ho, hb⟩
    obtain ⟨a, c, rfl, _⟩ := OwnD.slice ho
    exact ⟨a, c, rfl, ho, hb⟩
  · rw [List.length_map] at hl
    refine (ascP (key := PT.group) b M w hm hM (fun x hx => hk x.1 (List.mem_map.2 ⟨x, hx, rfl⟩)) hl).mono ?_
    rintro e w' ⟨v, rfl, ho, hb⟩
    obtain ⟨a, c, rfl, _⟩ := OwnD.slice ho
    exact ⟨a, c, rfl, ho.keep (R' := R) (gr_below (Below.refl _ _)) (by simp) (fun x c hx => hR _ hx), hb⟩
theorem run_buildW (w : World) (n s : Int) (a1 a3 : Option Addr) (n1 n3 c1 c3 : Nat) : (buildE #[(0, .int .i64 n), (1, .int .i64 s), (2, .slice a1 n1 c1), (4, .slice a3 n3 c3)]).run Tryz.prog w = .ok (.agg #[.int .i64 n, .int .i64 s, .slice a1 n1 c1, .slice none 0 0, .slice a3 n3 c3, .slice none 0 0]) w := by kernel_rfl
def WholePost (D : Nat → Prop) (M : MS) (w : World) (r : Ending) (w' : World) : Prop :=
  ∃ z : ES, r = .returned (z.v (wholeM M)) ∧ Hid (z.In (fun b => D b ∨ w.heap.size ≤ b) w' (wholeM M)) ∧ Hid (Below w.heap.size w w')
theorem whole_ret {D : Nat → Prop} {fn : Func} {q : Tmp} {a : Act} {w0 w : World} {g : Nat} {t : TypeId} {M : MS} {z : ES} (h : fn.results = #[.cell q 34]) (hd : a.defers = []) (hp : a.tmps.getD q undef = .pointer (some ⟨g, 0, none⟩)) (hk : Blk w g t (z.L (wholeM M)))
    (h1 : z.In (fun b => D b ∨ w0.heap.size ≤ b) w (wholeM M)) (h2 : Below w0.heap.size w0 w) : bodyPost Tryz.prog fn (WholePost D M w0) Exit.ret a w := by
  refine bodyPost_ret (v := z.v (wholeM M)) ?_ hd ⟨z, rfl, Lib.hid h1, Lib.hid h2⟩
  exact results_cell_row h _ _ g t (z.L (wholeM M)).toArray (0, 0) _ hp hk Tryz.underlying34 rfl (by kernel_rfl)
theorem mok_keyS {M : MS} (h : MOk M) : ∀ x ∈ M.segs, 0 ≤ SG.num x ∧ SG.num x ≤ 1125899906842624 := fun x hx => by
  have := (h.segs x hx).1
  unfold segB at this
  simp only [Bool.and_eq_true] at this
  exact inB_iff.1 (numB_in this.1.1.1)
theorem mok_keyP {M : MS} (h : MOk M) : ∀ x ∈ M.pars, 0 ≤ PT.group x ∧ PT.group x ≤ 1125899906842624 := fun x hx => by
  have := (h.pars x hx).1
  rw [parB_iff] at this
  exact inB_iff.1 (numB_in this.1)
attribute [local go_sem ↓] loadE_eq storeE_eq buildE_eq
attribute [local go_sem] run_buildW
set_option maxHeartbeats 8000000 in
theorem whole_any {D : Nat → Prop} (M : MS) (sv pv : Option Nat) (w : World) (hs : MapO SG.num 6 segC w sv M.segs) (hp : MapO PT.group 5 (parC D w) w pv M.pars) (hM : MOk M) (hD : ∀ b, D b → b < w.heap.size) :
    Calls Tryz.prog 67 #[.agg #[.int .i64 M.next, .int .i64 M.seq, .map sv, .map pv]] w (WholePost D M w) := by
  obtain ⟨w1, hw1⟩ : ∃ w1, w.alloc (.cells #[.int .i64 M.next, .int .i64 M.seq, .map sv, .map pv] 58) = w1 := ⟨_, rfl⟩
  have hk1 : Blk w1 w.heap.size 58 (stL M sv pv) := by rw [← hw1]; exact Blk.new w _ _
  have hb1 : Below w.heap.size w w1 := by rw [← hw1]; exact (Below.refl _ _).alloc (Nat.le_refl _) _
  have hs1 : w1.heap.size = w.heap.size + 1 := by rw [← hw1]; simp
  obtain ⟨w2, hw2⟩ : ∃ w2, w1.alloc (.cells #[.int .i64 0, .int .i64 0, .slice none 0 0, .slice none 0 0, .slice none 0 0, .slice none 0 0] 34) = w2 := ⟨_, rfl⟩
  have hk2 : Blk w2 w1.heap.size 34 (edL zE none 0 none 0 none 0 none 0) := by rw [← hw2]; exact Blk.new w1 _ _
  have hb2 : Below w1.heap.size w1 w2 := by rw [← hw2]; exact (Below.refl _ _).alloc (Nat.le_refl _) _
  have hs2 : w2.heap.size = w.heap.size + 2 := by rw [← hw2]; simp; omega
  have hk12 := hk1.below hb2 hk1.lt
  have hb : Below w.heap.size w w2 := hb1.trans (hb2.mono (by omega))
  obtain ⟨g, hg⟩ : ∃ g, w.heap.size = g := ⟨_, rfl⟩
  obtain ⟨g2, hg2⟩ : ∃ g2, g + 1 = g2 := ⟨_, rfl⟩
  rw [show w1.heap.size = g2 by omega] at hk2
  rw [hg] at hk12
  have hkD : ∀ W, Below w2.heap.size w2 W → Keep D D w W := fun W hW b hb' hl => ⟨hb', (hW.block b (by omega)).trans (hb.block b hl)⟩
  have hcs := ascRS sv M.segs w2.drew (hs.keep (fun b h => (hb.drew.block b (by have := hs.lt b h; omega))) fun _ _ h => h) (mok_keyS hM) (by have := hM.sl; omega)
  have HCP : Hid (∀ W, Below w2.heap.size w2 W → Calls Tryz.prog 100 #[.map pv] W fun e w' => ∃ a c, e = .returned (.slice a M.pars.length c) ∧ OwnD W.heap.size 95 5 (parC D W) w' (.slice a M.pars.length c) M.pars ∧ Below W.heap.size W w') := Lib.hid fun W hW =>
    ascRP pv M.pars W (hp.keep (fun b h => (hW.block b (by have := hp.lt b h; omega)).trans (hb.block b (by have := hp.lt b h; omega))) fun _ _ h => h.keep (hkD W hW)) (mok_keyP hM) (by have := hM.pl; omega)
  have HK2 := Lib.hid hk2
  have HDK := Lib.hid hkD
  have HW2 := Lib.hid hb
  have HDD := Lib.hid hD
  have HSZ := Lib.hid hs2
  have HGG : Hid (w.heap.size = g ∧ g + 1 = g2) := Lib.hid ⟨hg, hg2⟩
  have HCQ : Hid (∀ W, w2.grownBy W (some g2) → W.cell? ⟨g, 0, none⟩ = some (.int .i64 M.next) ∧ W.cell? ⟨g, 1, none⟩ = some (.int .i64 M.seq) ∧ W.cell? ⟨g, 2, none⟩ = some (.map sv) ∧ W.cell? ⟨g, 3, none⟩ = some (.map pv)) := Lib.hid fun W hW => by
    have e1 : Blk W g 58 (stL M sv pv) := hk12.grown hW (by simp; omega)
    exact ⟨e1.cell rfl, e1.cell rfl, e1.cell rfl, e1.cell rfl⟩
  have hHeld : w2.grownBy w2.drew (some g2) := (gr_below (Below.refl _ _).drew).but _
  obtain ⟨nx, sq, A, B⟩ := M
  simp only at hcs HCP HCQ hw1 ⊢
  obtain ⟨n1, hn1⟩ : ∃ n1, A.length = n1 := ⟨_, rfl⟩
  obtain ⟨n3, hn3⟩ : ∃ n3, B.length = n3 := ⟨_, rfl⟩
  have HA := Lib.hid hn1
  have HB := Lib.hid hn3
  rw [hn1] at hcs
  rw [hn3] at HCP
  clear hk1 hb1 hk2 hb2 hk12 hb hs hp hM hkD hD hs2 hn1 hn3
  go_enter Tryz.func67, Tryz.ntmps67
  go_wp2_with fail
  refine wp_region_noPanic ?_
  refine wpAnyH_start (n := 12) (l := #[false, false, false, false, false, false, false, false, false, false, false, false]) (S := fun W => w2.grownBy W (some g2)) (by kernel_rfl) (hHeld) (by kernel_rfl) (by kernel_rfl) ?_
  refine wpAnyH_take (i := 0) (oi := _) (v := ?_) rfl (by kernel_rfl) (by kernel_rfl) (by kernel_rfl) (fun _ _ _ h => h) (Or.inl ⟨by rfl, ?_⟩) (by assumption) ?_
  rotate_left
  · intro wq hSw; go_simp; try with_reducible rfl
  simp only [Act.put, List.setIfInBounds_toArray, List.set_cons_zero, List.set_cons_succ, List.getElem_toArray, List.getElem_cons_zero, List.getElem_cons_succ]
  refine wpAnyH_take (i := 1) (oi := _) (v := ?_) rfl (by kernel_rfl) (by kernel_rfl) (by kernel_rfl) (fun _ _ _ h => h) (Or.inl ⟨by rfl, ?_⟩) (by assumption) ?_
  rotate_left
  · intro wq hSw; have cq := (HCQ.out wq hSw).1; go_simp; try with_reducible rfl
  simp only [Act.put, List.setIfInBounds_toArray, List.set_cons_zero, List.set_cons_succ, List.getElem_toArray, List.getElem_cons_zero, List.getElem_cons_succ]
  refine wpAnyH_take (i := 2) (oi := _) (v := ?_) rfl (by kernel_rfl) (by kernel_rfl) (by kernel_rfl) (fun _ _ _ h => h) (Or.inl ⟨by rfl, ?_⟩) (by assumption) ?_
  rotate_left
  · intro wq hSw; go_simp; try with_reducible rfl
  simp only [Act.put, List.setIfInBounds_toArray, List.set_cons_zero, List.set_cons_succ, List.getElem_toArray, List.getElem_cons_zero, List.getElem_cons_succ]
  refine wpAnyH_take (i := 3) (oi := _) (v := ?_) rfl (by kernel_rfl) (by kernel_rfl) (by kernel_rfl) (fun _ _ _ h => h) (Or.inl ⟨by rfl, ?_⟩) (by assumption) ?_
  rotate_left
  · intro wq hSw; have cq := (HCQ.out wq hSw).2.1; go_simp; try with_reducible rfl
  simp only [Act.put, List.setIfInBounds_toArray, List.set_cons_zero, List.set_cons_succ, List.getElem_toArray, List.getElem_cons_zero, List.getElem_cons_succ]
  refine wpAnyH_take (i := 4) (oi := _) (v := ?_) rfl (by kernel_rfl) (by kernel_rfl) (by kernel_rfl) (fun _ _ _ h => h) (Or.inl ⟨by rfl, ?_⟩) (by assumption) ?_
  rotate_left
  · intro wq hSw; go_simp; try with_reducible rfl
  simp only [Act.put, List.setIfInBounds_toArray, List.set_cons_zero, List.set_cons_succ, List.getElem_toArray, List.getElem_cons_zero, List.getElem_cons_succ]
  refine wpAnyH_take (i := 5) (oi := _) (v := ?_) rfl (by kernel_rfl) (by kernel_rfl) (by kernel_rfl) (fun _ _ _ h => h) (Or.inl ⟨by rfl, ?_⟩) (by assumption) ?_
  rotate_left
  · intro wq hSw; have cq := (HCQ.out wq hSw).2.2.1; go_simp; try with_reducible rfl
  simp only [Act.put, List.setIfInBounds_toArray, List.set_cons_zero, List.set_cons_succ, List.getElem_toArray, List.getElem_cons_zero, List.getElem_cons_succ]
  refine wpAnyH_take (i := 7) (oi := _) (v := ?_) rfl (by kernel_rfl) (by kernel_rfl) (by kernel_rfl) (fun _ _ _ h => h) (Or.inl ⟨by rfl, ?_⟩) (by assumption) ?_
  rotate_left
  · intro wq hSw; go_simp; try with_reducible rfl
  simp only [Act.put, List.setIfInBounds_toArray, List.set_cons_zero, List.set_cons_succ, List.getElem_toArray, List.getElem_cons_zero, List.getElem_cons_succ]
  refine wpAnyH_take (i := 8) (oi := _) (v := ?_) rfl (by kernel_rfl) (by kernel_rfl) (by kernel_rfl) (fun _ _ _ h => h) (Or.inl ⟨by rfl, ?_⟩) (by assumption) ?_
  rotate_left
  · intro wq hSw; have cq := (HCQ.out wq hSw).2.2.2; go_simp; try with_reducible rfl
  simp only [Act.put, List.setIfInBounds_toArray, List.set_cons_zero, List.set_cons_succ, List.getElem_toArray, List.getElem_cons_zero, List.getElem_cons_succ]
  refine wpAnyH_ready (rs := [6]) (by kernel_rfl) (by simp) ?_
  refine AllReadyH.cons (o := _) rfl (fun K hK => ?_) AllReadyH.nil
  simp only [List.getElem_toArray, List.getElem_cons_zero, List.getElem_cons_succ]
  go_simp
  refine hcs.mono ?_; rintro r w3 ⟨a1, c1, rfl, ho3, hb3⟩; have hB3 : Below w2.heap.size w2 w3 := Below.trans (Below.refl _ _).drew hb3
  refine hK.out _ _ ((gr_below hB3).but _) (fun _ => ?_)
  clear hK K
  have hHeld := (gr_below hB3).but (some g2)
  have hcp := HCP.out w3 hB3
  have HO3 := Lib.hid ho3
  have HB3 := Lib.hid hB3
  clear ho3 hb3 hB3 HCP
  simp only [Act.put, List.setIfInBounds_toArray, List.set_cons_zero, List.set_cons_succ, List.getElem_toArray, List.getElem_cons_zero, List.getElem_cons_succ]
  refine wpAnyH_ready (rs := [9]) (by kernel_rfl) (by simp) ?_
  refine AllReadyH.cons (o := _) rfl (fun K hK => ?_) AllReadyH.nil
  simp only [List.getElem_toArray, List.getElem_cons_zero, List.getElem_cons_succ]
  go_simp
  refine hcp.mono ?_; rintro r w4 ⟨a3, c3, rfl, ho4, hb4⟩; have hB4 : Below w2.heap.size w2 w4 := HB3.out.trans (Below.mono hb4 HB3.out.size)
  refine hK.out _ _ ((gr_below hB4).but _) (fun _ => ?_)
  clear hK K
  have hHeld := (gr_below hB4).but (some g2)
  have HO4 := Lib.hid ho4
  have HB34 := Lib.hid hb4
  have HB4 := Lib.hid hB4
  obtain ⟨w5, hst, HK5, HG5⟩ := putE (wholeM ⟨nx, sq, A, B⟩) (a1 := a1) (c1 := c1) (a2 := none) (c2 := 0) (a3 := a3) (c3 := c3) (a4 := none) (c4 := 0) (HK2.out.below hB4 HK2.out.lt) rfl
  simp only [wholeM, List.length_nil] at hst
  rw [HA.out, HB.out] at hst
  clear hcp ho4 hb4 hB4
  simp only [Act.put, List.setIfInBounds_toArray, List.set_cons_zero, List.set_cons_succ, List.getElem_toArray, List.getElem_cons_zero, List.getElem_cons_succ]
  refine wpAnyH_take (i := 10) (oi := _) (v := ?_) rfl (by kernel_rfl) (by kernel_rfl) (by kernel_rfl) (fun _ _ _ h => h) (Or.inl ⟨by rfl, ?_⟩) (by assumption) ?_
  rotate_left
  · intro wq hSw; go_simp; try with_reducible rfl
  simp only [Act.put, List.setIfInBounds_toArray, List.set_cons_zero, List.set_cons_succ, List.getElem_toArray, List.getElem_cons_zero, List.getElem_cons_succ]
  refine wpAnyH_ready (rs := [11]) (by kernel_rfl) (by simp) ?_
  refine AllReadyH.cons (o := _) rfl (fun K hK => ?_) AllReadyH.nil
  simp only [List.getElem_toArray, List.getElem_cons_zero, List.getElem_cons_succ]
  go_simp
  have hHeld := trivial
  refine hK.out _ _ (((gr_below HB4.out).but _).andThen HG5.out (fun j hj => .inr hj)) (fun _ => ?_)
  clear hK K
  simp only [Act.put, List.setIfInBounds_toArray, List.set_cons_zero, List.set_cons_succ, List.getElem_toArray, List.getElem_cons_zero, List.getElem_cons_succ]
  refine wpAnyH_done (by kernel_rfl) ?_ _
  refine NoPanic.normal ?_
  obtain ⟨hgg1, hgg2⟩ := HGG.out
  have hsz := HSZ.out
  have hsz3 := HB3.out.size
  have hsz4 := HB34.out.size
  have h5 : ∀ b, w2.heap.size ≤ b → some g2 ≠ some b := fun b hb => by simp; omega
  have hE : (ES.mk a1 c1 none 0 a3 c3 none 0).In (fun b => D b ∨ w.heap.size ≤ b) w5 (wholeM ⟨nx, sq, A, B⟩) := by
    refine ⟨?_, RowD.nil, ?_, RowD.nil⟩
    · have h1 : OwnD w2.heap.size 40 6 segC w4 (.slice a1 n1 c1) A := OwnD.below HO3.out HB34.out fun _ _ h => h
      have h2 := OwnD.row (D := fun b => D b ∨ w.heap.size ≤ b) (OwnD.keep (R' := segC) h1 HG5.out (fun b hb => h5 b (h1.lt b hb).1) fun _ _ h => h) fun b _ hb _ => .inr (by omega)
      rw [← HA.out] at h2
      exact h2
    · have h1 : OwnD w2.heap.size 95 5 (parC D w3) w4 (.slice a3 n3 c3) B := OwnD.base HO4.out hsz3
      have h2 := OwnD.row (D := fun b => D b ∨ w.heap.size ≤ b) (OwnD.keep (R' := parC (fun b => D b ∨ w.heap.size ≤ b) w5) h1 HG5.out (fun b hb => h5 b (h1.lt b hb).1) fun _ _ h => h.keep fun b hb hl => ⟨.inl hb, (HG5.out.block b (by omega) (by have := HDD.out b hb; simp; omega)).trans (HB34.out.block b hl)⟩) fun b _ hb _ => .inr (by omega)
      rw [← HB.out] at h2
      exact h2
  have hBB : Below w.heap.size w w5 := (HW2.out.trans (HB4.out.mono (by omega))).grown HG5.out (by have := HB4.out.size; omega) (fun j hj => by cases hj; omega)
  clear HO3 HO4
  go_wp2_with fail
  exact whole_ret (z := ⟨a1, c1, none, 0, a3, c3, none, 0⟩) rfl rfl rfl HK5.out hE hBB
def nmM : ByteArray := ⟨#[77, 65, 78, 73, 70, 69, 83, 84]⟩
def nmN : ByteArray := ⟨#[78, 69, 87]⟩
attribute [local go_sem ↓] loadT_eq storeT_eq buildT_eq
set_option maxHeartbeats 4000000 in
theorem rewriteM_any {D : Nat → Prop} {w0 : World} {p : Nat} {S : St} {Z : Nat → Prop} (M : MS) (sv pv : Option Nat) (w : World) (h : InZ w0 p S Z w) (hT : Tab w0) (hs : MapO SG.num 6 segC w sv M.segs) (hp : MapO PT.group 5 (parC D w) w pv M.pars) (hM : MOk M) (hD : ∀ b, D b → b < w.heap.size) (hc : S.calls ≤ 1099511627000) (hl : (encE (wholeM M)).length ≤ 1000000) :
    Calls Tryz.prog 36 #[pP p, .agg #[.int .i64 M.next, .int .i64 M.seq, .map sv, .map pv]] w (ZPost w0 p (rewr S nmN.data.toList nmM.data.toList (encE (wholeM M))) Z w) := by
  obtain ⟨w1, hw1⟩ : ∃ w1, w.alloc (.cells #[.int .i64 M.next, .int .i64 M.seq, .map sv, .map pv] 58) = w1 := ⟨_, rfl⟩
  have hk1 : Blk w1 w.heap.size 58 (stL M sv pv) := by rw [← hw1]; exact Blk.new w _ _
  have hb1 : Below w.heap.size w w1 := by rw [← hw1]; exact (Below.refl _ _).alloc (Nat.le_refl _) _
  have hld := run_loadT_blk M hk1
  have hwh := whole_any (D := D) M sv pv w1 (hs.keep (fun b h => hb1.block b (hs.lt b h)) fun _ _ h => h) (hp.keep (fun b h => hb1.block b (hp.lt b h)) fun _ _ h => h.keep (keep_below hb1)) hM (fun b hb => Nat.lt_of_lt_of_le (hD b hb) hb1.size)
  have HT : Hid (∀ W, Below w.heap.size w W → Tab W) := Lib.hid fun W hW => hT.below (h.bel.trans (hW.mono h.bel.size))
  have HEB := Lib.hid (whole_ok hM).1
  have HB1 := Lib.hid hb1
  have HI := Lib.hid h
  have HL := Lib.hid hl
  have HC := Lib.hid hc
  have HMO := Lib.hid hM
  have HBW := Lib.hid h.bel
  obtain ⟨e, he⟩ : ∃ e, wholeM M = e := ⟨_, rfl⟩
  obtain ⟨nx, hnx⟩ : ∃ nx, M.next = nx := ⟨_, rfl⟩
  obtain ⟨sq, hsq⟩ : ∃ sq, M.seq = sq := ⟨_, rfl⟩
  rw [hnx, hsq] at hld hwh hw1 ⊢
  unfold WholePost at hwh
  rw [he] at hwh HEB HL ⊢
  have hlt0 : w.heap.size < w1.heap.size := hk1.lt
  have HZ0 : Hid (∀ b, Z b → b < w.heap.size) := Lib.hid (by
    obtain ⟨l, _, _, _, _, hz⟩ := h
    exact fun b hb => (hz b hb).1)
  clear hk1 hb1 hs hp hM hD h hT hl hc he hnx hsq hlt0
  go_enter Tryz.func36, Tryz.ntmps36
  go_wp2_with fail
  refine hwh.mono ?_
  rintro r w2 ⟨z, rfl, hz2, hb2⟩
  have hb02 : Below w.heap.size w w2 := HB1.out.trans (Below.mono hb2.out HB1.out.size)
  have hen := encode_any e z.a1 z.c1 z.a2 z.c2 z.a3 z.c3 z.a4 z.c4 w2 (HT.out w2 hb02) hz2.out
  have HB02 := Lib.hid hb02
  unfold ES.v
  clear hwh hz2 hb2 hb02 hld
  go_wp2_with fail
  refine hen.mono ?_
  rintro r w3 ⟨sp, n, cap, rfl, hn, ho, hb3⟩
  rw [(enc_good HEB.out).2]
  have hb03 : Below w.heap.size w w3 := HB02.out.trans (Below.mono hb3.out HB02.out.size)
  have hI3 : InZ w0 p S (fun b => Z b ∨ (Value.slice sp n cap).ownBlock = some b) w3 := HI.out.more hb03 fun b hb => by
    rcases hb with hb | hb
    · exact .inl hb
    · have := World.ownsRow.lt ho.out b hb
      have := HB02.out.size
      exact .inr ⟨by omega, by omega⟩
  have HK3 : Hid (∀ b, Z b → w3.heap[b]? = w.heap[b]?) := Lib.hid fun b hb => hb03.block b (HZ0.out b hb)
  have hrp := rewrite_any (w0 := w0) (S := S) nmN nmM (.slice sp n cap) (encE e) hI3 (by decide) (by decide) HC.out (fun W hW => by
    have h1 : W.ownsRow w2.heap.size 5 1 (.slice sp n cap) n (u8s (encE e)) := own_heapM ho.out fun b hb => hW b (.inr hb)
    rw [← hn] at h1 ⊢
    exact isBytes_own (encE_lt e) h1) HL.out
  have HN := Lib.hid hn
  clear hen ho hb3 hb03 hI3 hn
  unfold nmN nmM at hrp
  go_wp2_with fail
  refine hrp.mono ?_
  rintro r w4 ⟨rfl, hz4, hh4⟩
  have HZ4 := Lib.hid hz4
  have HH4 : Hid (∀ b, Z b → w4.heap[b]? = w.heap[b]?) := Lib.hid fun b hb => (hh4 b (.inl hb)).trans (HK3.out b hb)
  clear hrp hz4 hh4
  unfold errV
  obtain ⟨rr, hrr⟩ : ∃ rr, rewr S (ByteArray.mk #[78, 69, 87]).data.toList (ByteArray.mk #[77, 65, 78, 73, 70, 69, 83, 84]).data.toList (encE e) = rr := ⟨_, rfl⟩
  have HRR := Lib.hid hrr
  rw [hrr] at HZ4 ⊢
  clear hrr
  obtain ⟨S2, c2⟩ := rr
  simp only at HZ4 ⊢
  go_wp2_with fail
  go_ret
  refine ⟨?_, ?_, HH4.out⟩
  · show _ = _
    unfold nmN nmM
    rw [HRR.out]
    rfl
  · unfold nmN nmM
    rw [HRR.out]
    exact HZ4.out.fewer fun b hb => .inl hb
end Go.Proofs.YthgpdnffahmhjaaGreatDoor.S19

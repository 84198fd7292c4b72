/- Texts put together: RawD. -/
import Derived.Test.YtdjkkohckfndkaaGreatDoorEg38
set_option linter.unusedSimpArgs false
set_option linter.unusedVariables false
set_option maxRecDepth 100000
namespace Go.Proofs.YtdjkkohckfndkaaGreatDoor.S15
open Go.RowKit S13 S13.Dk S14 S3
def cutV (F : Option (List Nat)) (s e : Nat) : RT × Nat := match F with
  | none => (zR, 6)
  | some B => if B.length < e then (zR, 6) else if (scanR ((B.drop s).take (e - s))).1.length = 1 ∧ (scanR ((B.drop s).take (e - s))).2.1 = e - s then ((scanR ((B.drop s).take (e - s))).1.getD 0 zR, 0) else (zR, 6)
def lenF (F : Option (List Nat)) : Nat := match F with | none => 0 | some B => B.length
def errF (F : Option (List Nat)) : Nat := match F with | none => 3 | some _ => 0
theorem read_got {F : Option (List Nat)} {w w' : World} {e : Ending} (h : ReadPost F w e w') : ∃ sp cap, e = .returned (.tuple #[.slice sp (lenF F) cap, .int .i64 (errF F : Nat)]) ∧ Hid (Below w.heap.size w w') ∧ Hid (∀ B, F = some B → IsBytes w' (.slice sp (lenF F) cap) B) := by
  obtain ⟨hb, h⟩ := h
  cases F with
  | none => exact ⟨none, 0, h, hb, Lib.hid fun _ h => by cases h⟩
  | some X =>
    obtain ⟨sp, cap, he, ho, hx⟩ := h
    exact ⟨sp, cap, he, hb, Lib.hid fun B hB => by cases hB; exact isBytes_own hx.out ho.out⟩
theorem readF_len {S : St} (h : S.Ok) {n : Nm} {B : List Nat} (hr : readF S n = some B) : B.length ≤ 4194304 := by
  unfold readF at hr
  cases hd : dget S.now n with
  | none => rw [hd] at hr; cases hr
  | some i =>
    rw [hd] at hr
    simp at hr
    rw [← hr]
    exact (file_ok h i).2.2
attribute [local go_sem ↓] loadR_eq storeR_eq buildR_eq sliceU8_eq
attribute [local go_sem] run_buildR run_buildR4
section
variable {w0 w : World} {p q : Nat} {S : St} {n : ByteArray} {E : List Int}
set_option maxHeartbeats 16000000
theorem get_range (h : InS w0 p S q n E w) (k : Int) (hk : k < 0 ∨ (E.length : Int) ≤ k) : Calls Tryz.prog 34 #[pP q, .int .i64 k] w (GetPost (zR, 7) w) := by
  obtain ⟨sp, cap, c0, c1, c2, hi, hq, hm⟩ := h.cells
  obtain ⟨w3, hst, HR3, HG3⟩ := back_rec (w := w) zR (Blk.new w 32 (recL zR)) ((Below.refl _ _).alloc (Nat.le_refl _) _) (Nat.le_refl _)
  simp only [recL, zR] at hst
  have c2' := c2
  obtain ⟨N, hN⟩ : ∃ N, E.length = N := ⟨_, rfl⟩
  rw [hN] at c2 hk hm
  have cN : ∀ o, (w.alloc o).cell? ⟨q, 2, none⟩ = some (.slice sp N cap) := fun o => by
    rw [(Below.refl w.heap.size w).alloc (Nat.le_refl _) o |>.cell (p := ⟨q, 2, none⟩) hq]; exact c2
  clear h hi c2' hN c2 c0 c1
  by_cases h0 : k < 0
  · have d1 : decide (k < 0) = true := by simpa using h0
    go_enter Tryz.func34, Tryz.ntmps34
    go_wp2_with fail
    exact get_end rfl rfl rfl rfl HR3.out rfl HG3
  · have d1 : decide (k < 0) = false := by simp; omega
    have d2 : decide ((N : Int) ≤ k) = true := by simp; omega
    go_enter Tryz.func34, Tryz.ntmps34
    go_wp2_with fail
    exact get_end rfl rfl rfl rfl HR3.out rfl HG3
theorem get_at (h : InS w0 p S q n E w) (hT : Tab w) (k s e : Nat) (hk : k < E.length) (he : E.getD k 0 = (e : Int)) (hs : (if k = 0 then 0 else E.getD (k - 1) 0) = (s : Int)) (hse : s ≤ e) (hn : n.size ≤ maxLen) :
    Calls Tryz.prog 34 #[pP q, .int .i64 k] w (GetPost (cutV (readF S n.data.toList) s e) w) := by
  obtain ⟨sp, cap, c0, c1, c2, hi, hq, hm⟩ := h.cells
  have hk1 := Blk.new w 32 (recL zR)
  have hb1 : Below w.heap.size w (w.alloc (.cells (recL zR).toArray 32)) := (Below.refl _ _).alloc (Nat.le_refl _) _
  obtain ⟨N, hN⟩ : ∃ N, E.length = N := ⟨_, rfl⟩
  obtain ⟨b, off, cp, hv, _, _, hbl, hc⟩ := hi.cells (by omega)
  rw [hN] at hv
  rw [hN] at c2 hk hm
  simp at hv
  obtain ⟨rfl, rfl⟩ := hv
  have HH := Lib.hid h
  have HHT := Lib.hid hT
  obtain ⟨w1, hw1⟩ : ∃ w1, w.alloc (.cells (recL zR).toArray 32) = w1 := ⟨_, rfl⟩
  rw [hw1] at hk1 hb1
  have HK1 := Lib.hid hk1
  have HB1 := Lib.hid hb1
  have HW1 := Lib.hid hw1
  have d1 : decide ((k : Int) < 0) = false := by simp
  have d2 : decide ((N : Int) ≤ (k : Int)) = false := by simp; omega
  have d2' : decide (N ≤ k) = false := by simp; omega
  simp only [recL, zR] at hw1
  have C0 : w1.cell? ⟨q, 0, none⟩ = some (.pointer (some ⟨p, 0, none⟩)) := (hb1.cell (p := ⟨q, 0, none⟩) hq).trans c0
  have C1 : w1.cell? ⟨q, 1, none⟩ = some (.string n) := (hb1.cell (p := ⟨q, 1, none⟩) hq).trans c1
  have C2 : w1.cell? ⟨q, 2, none⟩ = some (.slice (some ⟨b, off, none⟩) N cap) := (hb1.cell (p := ⟨q, 2, none⟩) hq).trans c2
  have CE : w1.cell? ⟨b, off + k, none⟩ = some (.int .i64 (e : Nat)) := by
    rw [(hb1.cell (p := ⟨b, off + k, none⟩) hbl), hc k (by omega), he]
  have HS0 : Hid (0 < k → w1.cell? ⟨b, off + (k - 1), none⟩ = some (.int .i64 (s : Nat))) := Lib.hid fun h0 => by
    rw [(hb1.cell (p := ⟨b, off + (k - 1), none⟩) hbl), hc (k - 1) (by omega)]
    rw [if_neg (by omega)] at hs
    rw [hs]
  have HS1 : Hid (k = 0 → s = 0) := Lib.hid fun h0 => by
    rw [if_pos h0] at hs; omega
  have cN : ∀ o, (w.alloc o).cell? ⟨q, 2, none⟩ = some (.slice (some ⟨b, off, none⟩) N cap) := fun o => by
    rw [(Below.refl w.heap.size w).alloc (Nat.le_refl _) o |>.cell (p := ⟨q, 2, none⟩) hq]; exact c2
  have hkm : (k : Int) < 9223372036854775807 := by unfold maxLen at hm; omega
  obtain ⟨F, hF⟩ : ∃ F, readF S n.data.toList = F := ⟨_, rfl⟩
  have HRD : Hid (∀ W, From w1 W → Calls Tryz.prog 13 #[pP p, .string n] W fun e w' => ∃ sp cap, e = .returned (.tuple #[.slice sp (lenF F) cap, .int .i64 (errF F : Nat)]) ∧ Hid (Below W.heap.size W w') ∧ Hid (∀ B, F = some B → IsBytes w' (.slice sp (lenF F) cap) B)) := Lib.hid fun W hW => by
    rw [← hF]
    exact (read_h n (h.toH.below (hb1.trans (hW.mono hb1.size))) hn).mono fun e w' hr => read_got hr
  have HFB : Hid (∀ B, F = some B → B.length ≤ 4194304) := Lib.hid fun B hB => by
    rw [← hF] at hB
    exact readF_len h.toH.ok hB
  have HST : Hid (∀ (x : RT) W, From w1 W → ∃ W2, (storeR (.pointer (some ⟨w.heap.size, 0, none⟩)) (.agg #[.int .i64 x.kind, .int .i64 x.seq, .string x.key, .string x.val])).run Tryz.prog W = .ok () W2 ∧ Hid (Blk W2 w.heap.size 32 (recL x)) ∧ Hid (Below w.heap.size w W2)) := Lib.hid fun x W hW => back_rec x (hk1.below hW hk1.lt) (hb1.trans (hW.mono hb1.size)) (Nat.le_refl _)
  rw [hF]
  clear hF
  clear h hT hi hq hm c0 c1 c2 hc hbl hk1 hb1 he hs hN
  have HC0 : Hid (∀ W, From w1 W → W.cell? ⟨q, 0, none⟩ = some (.pointer (some ⟨p, 0, none⟩))) := Lib.hid fun W hW => by
    have hq1 : q < w1.heap.size := World.block_lt_of_cell? w1 _ C0
    exact (Below.cell (p := ⟨q, 0, none⟩) hW hq1).trans C0
  have HC1 : Hid (∀ W, From w1 W → W.cell? ⟨q, 1, none⟩ = some (.string n)) := Lib.hid fun W hW => by
    have hq1 : q < w1.heap.size := World.block_lt_of_cell? w1 _ C0
    exact (Below.cell (p := ⟨q, 1, none⟩) hW hq1).trans C1
  by_cases hz : k = 0
  · have hs0 := HS1.out hz
    subst hz
    subst hs0
    have hkN : 0 < N := hk
    simp only [Nat.add_zero] at CE
    have d3 : decide ((0 : Int) < 0) = false := by simp
    go_enter Tryz.func34, Tryz.ntmps34
    go_wp2_with fail
    clear cN hw1
    go_quiet (fail)
    go_wp2_with fail
    have hHeld : From w1 (w1.drewN nq).drew := (bel_drewN (Below.refl _ _) _).drew
    clear C0 C1 C2 CE
    refine wp_region_noPanic ?_
    refine wpAnyH_start (n := 14) (l := #[false, false, false, false, false, false, false, false, false, false, false, false, false, false]) (S := From w1) (by kernel_rfl) (hHeld) (by kernel_rfl) (by kernel_rfl) ?_
    refine wpAnyH_take (i := 0) (oi := _) (v := ?_) rfl (by kernel_rfl) (by kernel_rfl) (by kernel_rfl) (fun _ _ _ h => h) (Or.inl ⟨by rfl, ?_⟩) (by assumption) ?_
    rotate_left
    · intro wq hSw; go_simp; try with_reducible rfl
    simp only [Act.put, List.setIfInBounds_toArray, List.set_cons_zero, List.set_cons_succ, List.getElem_toArray, List.getElem_cons_zero, List.getElem_cons_succ]
    refine wpAnyH_take (i := 1) (oi := _) (v := ?_) rfl (by kernel_rfl) (by kernel_rfl) (by kernel_rfl) (fun _ _ _ h => h) (Or.inl ⟨by rfl, ?_⟩) (by assumption) ?_
    rotate_left
    · intro wq hSw; go_simp; try with_reducible rfl
    simp only [Act.put, List.setIfInBounds_toArray, List.set_cons_zero, List.set_cons_succ, List.getElem_toArray, List.getElem_cons_zero, List.getElem_cons_succ]
    refine wpAnyH_take (i := 2) (oi := _) (v := ?_) rfl (by kernel_rfl) (by kernel_rfl) (by kernel_rfl) (fun _ _ _ h => h) (Or.inl ⟨by rfl, ?_⟩) (by assumption) ?_
    rotate_left
    · intro wq hSw; go_simp; try with_reducible rfl
    simp only [Act.put, List.setIfInBounds_toArray, List.set_cons_zero, List.set_cons_succ, List.getElem_toArray, List.getElem_cons_zero, List.getElem_cons_succ]
    refine wpAnyH_take (i := 3) (oi := _) (v := ?_) rfl (by kernel_rfl) (by kernel_rfl) (by kernel_rfl) (fun _ _ _ h => h) (Or.inl ⟨by rfl, ?_⟩) (by assumption) ?_
    rotate_left
    · intro wq hSw; have d0 : wq.cell? ⟨q, 0, none⟩ = some (.pointer (some ⟨p, 0, none⟩)) := HC0.out wq hSw; go_simp; try with_reducible rfl
    simp only [Act.put, List.setIfInBounds_toArray, List.set_cons_zero, List.set_cons_succ, List.getElem_toArray, List.getElem_cons_zero, List.getElem_cons_succ]
    refine wpAnyH_take (i := 4) (oi := _) (v := ?_) rfl (by kernel_rfl) (by kernel_rfl) (by kernel_rfl) (fun _ _ _ h => h) (Or.inl ⟨by rfl, ?_⟩) (by assumption) ?_
    rotate_left
    · intro wq hSw; go_simp; try with_reducible rfl
    simp only [Act.put, List.setIfInBounds_toArray, List.set_cons_zero, List.set_cons_succ, List.getElem_toArray, List.getElem_cons_zero, List.getElem_cons_succ]
    refine wpAnyH_take (i := 5) (oi := _) (v := ?_) rfl (by kernel_rfl) (by kernel_rfl) (by kernel_rfl) (fun _ _ _ h => h) (Or.inl ⟨by rfl, ?_⟩) (by assumption) ?_
    rotate_left
    · intro wq hSw; go_simp; try with_reducible rfl
    simp only [Act.put, List.setIfInBounds_toArray, List.set_cons_zero, List.set_cons_succ, List.getElem_toArray, List.getElem_cons_zero, List.getElem_cons_succ]
    refine wpAnyH_take (i := 6) (oi := _) (v := ?_) rfl (by kernel_rfl) (by kernel_rfl) (by kernel_rfl) (fun _ _ _ h => h) (Or.inl ⟨by rfl, ?_⟩) (by assumption) ?_
    rotate_left
    · intro wq hSw; go_simp; try with_reducible rfl
    simp only [Act.put, List.setIfInBounds_toArray, List.set_cons_zero, List.set_cons_succ, List.getElem_toArray, List.getElem_cons_zero, List.getElem_cons_succ]
    refine wpAnyH_take (i := 7) (oi := _) (v := ?_) rfl (by kernel_rfl) (by kernel_rfl) (by kernel_rfl) (fun _ _ _ h => h) (Or.inl ⟨by rfl, ?_⟩) (by assumption) ?_
    rotate_left
    · intro wq hSw; have d1 : wq.cell? ⟨q, 1, none⟩ = some (.string n) := HC1.out wq hSw; go_simp; try with_reducible rfl
    simp only [Act.put, List.setIfInBounds_toArray, List.set_cons_zero, List.set_cons_succ, List.getElem_toArray, List.getElem_cons_zero, List.getElem_cons_succ]
    refine wpAnyH_ready (rs := [8]) (by kernel_rfl) (by simp) ?_
    refine AllReadyH.cons (o := _) rfl (fun K hK => ?_) AllReadyH.nil
    simp only [List.getElem_toArray, List.getElem_cons_zero, List.getElem_cons_succ]
    go_simp
    refine (HRD.out _ hHeld).mono ?_; rintro e' w6 ⟨sp6, cp6, rfl, hb6, hi6⟩
    refine hK.out _ _ (From.trans hHeld hb6.out) (fun _ => ?_)
    clear hK K
    have HE6 := Lib.hid (From.trans hHeld hb6.out)
    have HT6 := Lib.hid (HHT.out.below (HB1.out.trans (HE6.out.mono HB1.out.size)))
    clear hb6 hHeld HRD HC0 HC1
    simp only [Act.put, List.setIfInBounds_toArray, List.set_cons_zero, List.set_cons_succ, List.getElem_toArray, List.getElem_cons_zero, List.getElem_cons_succ]
    refine wpAnyH_take (i := 9) (oi := _) (v := ?_) rfl (by kernel_rfl) (by kernel_rfl) (by kernel_rfl) (fun _ _ _ h => h) (Or.inl ⟨by rfl, ?_⟩) (by assumption) ?_
    rotate_left
    · intro wq hSw; go_simp; try with_reducible rfl
    simp only [Act.put, List.setIfInBounds_toArray, List.set_cons_zero, List.set_cons_succ, List.getElem_toArray, List.getElem_cons_zero, List.getElem_cons_succ]
    refine wpAnyH_take (i := 10) (oi := _) (v := ?_) rfl (by kernel_rfl) (by kernel_rfl) (by kernel_rfl) (fun _ _ _ h => h) (Or.inl ⟨by rfl, ?_⟩) (by assumption) ?_
    rotate_left
    · intro wq hSw; go_simp; try with_reducible rfl
    simp only [Act.put, List.setIfInBounds_toArray, List.set_cons_zero, List.set_cons_succ, List.getElem_toArray, List.getElem_cons_zero, List.getElem_cons_succ]
    refine wpAnyH_take (i := 11) (oi := _) (v := ?_) rfl (by kernel_rfl) (by kernel_rfl) (by kernel_rfl) (fun _ _ _ h => h) (Or.inl ⟨by rfl, ?_⟩) (by assumption) ?_
    rotate_left
    · intro wq hSw; go_simp; try with_reducible rfl
    simp only [Act.put, List.setIfInBounds_toArray, List.set_cons_zero, List.set_cons_succ, List.getElem_toArray, List.getElem_cons_zero, List.getElem_cons_succ]
    refine wpAnyH_take (i := 12) (oi := _) (v := ?_) rfl (by kernel_rfl) (by kernel_rfl) (by kernel_rfl) (fun _ _ _ h => h) (Or.inl ⟨by rfl, ?_⟩) (by assumption) ?_
    rotate_left
    · intro wq hSw; go_simp; try with_reducible rfl
    simp only [Act.put, List.setIfInBounds_toArray, List.set_cons_zero, List.set_cons_succ, List.getElem_toArray, List.getElem_cons_zero, List.getElem_cons_succ]
    refine wpAnyH_take (i := 13) (oi := _) (v := ?_) rfl (by kernel_rfl) (by kernel_rfl) (by kernel_rfl) (fun _ _ _ h => h) (Or.inl ⟨by rfl, ?_⟩) (by assumption) ?_
    rotate_left
    · intro wq hSw; go_simp; try with_reducible rfl
    simp only [Act.put, List.setIfInBounds_toArray, List.set_cons_zero, List.set_cons_succ, List.getElem_toArray, List.getElem_cons_zero, List.getElem_cons_succ]
    refine wpAnyH_done (by kernel_rfl) ?_ _
    refine NoPanic.normal ?_
    cases F with
    | none =>
      simp only [lenF, errF] at hi6 ⊢
      obtain ⟨w9, hst, HR9, HG9⟩ := HST.out zR w6 HE6.out
      simp only [zR] at hst
      go_wp2_with fail
      exact get_end rfl rfl rfl rfl HR9.out (by rfl) HG9
    | some B =>
      simp only [lenF, errF] at hi6 ⊢
      have HI6 := Lib.hid (hi6.out B rfl)
      have hl6 := HFB.out B rfl
      obtain ⟨M, hM⟩ : ∃ M, B.length = M := ⟨_, rfl⟩
      rw [hM] at hl6
      have HI6 : Hid (IsBytes w6 (.slice sp6 M cp6) B) := Lib.hid (by have := HI6.out; rw [hM] at this; exact this)
      have HM := Lib.hid hM
      rw [hM]
      clear hi6 HFB hM
      by_cases hle : M < e
      · have d5 : decide ((M : Int) < (e : Int)) = true := by simp; omega
        have d5' : decide (M < e) = true := by simp; omega
        obtain ⟨w9, hst, HR9, HG9⟩ := HST.out zR w6 HE6.out
        simp only [zR] at hst
        go_wp2_with fail
        exact get_end rfl rfl rfl rfl HR9.out (by unfold cutV; simp only; rw [if_pos (by rw [HM.out]; exact hle)]) HG9
      · have d5 : decide ((M : Int) < (e : Int)) = false := by simp; omega
        have d5' : decide (M < e) = false := by simp; omega
        have HLE := Lib.hid hle
        obtain ⟨ds, hds⟩ : ∃ ds, e - 0 = ds := ⟨_, rfl⟩
        obtain ⟨sp7, cp7, hsl, hi7⟩ := run_between HI6.out 0 ds (by rw [HM.out]; omega) (e : Int) (by omega)
        have hsl : ∀ W, (sliceU8 (.slice sp6 M cp6) (some (.int .i64 0)) (some (.int .i64 (e : Int))) none).run Tryz.prog W = .ok (.slice sp7 ds cp7) W := hsl
        obtain ⟨C, hC⟩ : ∃ C, (B.drop 0).take ds = C := ⟨_, rfl⟩
        rw [hC] at hi7
        have hCl : C.length ≤ 4194304 := by rw [← hC, List.length_take, List.length_drop, HM.out]; omega
        have hsc := rscan_any _ C w6 HT6.out hi7 (by omega)
        unfold RScanPost at hsc
        have HV : Hid (cutV (some B) 0 e = if (scanR C).1.length = 1 ∧ (scanR C).2.1 = ds then ((scanR C).1.getD 0 zR, 0) else (zR, 6)) := Lib.hid (by
          unfold cutV
          simp only
          rw [if_neg (by rw [HM.out]; exact HLE.out), hds, hC])
        obtain ⟨L, hL⟩ : ∃ L, (scanR C).1 = L := ⟨_, rfl⟩
        obtain ⟨m, hm⟩ : ∃ m, (scanR C).2.1 = m := ⟨_, rfl⟩
        obtain ⟨ok, hok⟩ : ∃ ok, (scanR C).2.2 = ok := ⟨_, rfl⟩
        rw [hL, hm, hok] at hsc
        rw [hL, hm] at HV
        have HSC := Lib.hid hsc
        have hdsI : (e : Int) - ((0 : Nat) : Int) = (ds : Int) := by omega
        have heM : e ≤ M := by omega
        clear hsc hi7 hC hCl hL hm hok hle hds
        go_wp2_with fail
        refine HSC.out.mono ?_
        rintro e' w8 ⟨sp8, cp8, rfl, ho8, hb8⟩
        have HE8 := Lib.hid (From.trans HE6.out hb8.out)
        have HO8 := ho8
        obtain ⟨NL, hNL⟩ : ∃ NL, L.length = NL := ⟨_, rfl⟩
        rw [hNL] at HV ho8 ⊢
        have HNL := Lib.hid hNL
        clear hb8 hsl HSC hNL
        by_cases h1 : NL = 1
        · by_cases h2 : m = ds
          · subst h2
            subst h1
            have q1 : ((m : Int) != (m : Int)) = false := bne_f rfl
            obtain ⟨b8, o8, hp8, hld⟩ := (HO8.out.at).load (W := w8) (i := 0) (by rw [HNL.out]; omega)
            subst hp8
            have hld8 := hld w8 (Below.refl _ _)
            obtain ⟨x, hx⟩ : ∃ x, L.getD 0 zR = x := ⟨_, rfl⟩
            rw [hx] at hld8
            obtain ⟨w9, hst, HR9, HG9⟩ := HST.out x w8 HE8.out
            have HX := Lib.hid hx
            try simp only [Nat.zero_mul, Nat.add_zero] at hld8
            clear hld hx ho8
            go_wp2_with fail
            exact get_end rfl rfl rfl rfl HR9.out (by rw [HV.out, if_pos ⟨by trivial, by trivial⟩, HX.out]) HG9
          · have q1 : ((m : Int) != (ds : Int)) = true := bne_t (by omega)
            have q2 : (m != ds) = true := by simpa using h2
            subst h1
            obtain ⟨w9, hst, HR9, HG9⟩ := HST.out zR w8 HE8.out
            simp only [zR] at hst
            have H2 := Lib.hid h2
            clear h2 ho8
            go_wp2_with fail
            exact get_end rfl rfl rfl rfl HR9.out (by rw [HV.out, if_neg (fun h => H2.out h.2)]) HG9
        · have q1 : ((NL : Int) != 1) = true := bne_t (by omega)
          have q2 : (NL != 1) = true := by simpa using h1
          obtain ⟨w9, hst, HR9, HG9⟩ := HST.out zR w8 HE8.out
          simp only [zR] at hst
          have H1 := Lib.hid h1
          clear h1 ho8
          go_wp2_with fail
          exact get_end rfl rfl rfl rfl HR9.out (by rw [HV.out, if_neg (fun h => H1.out h.1)]) HG9
  · have d3 : decide (0 < k) = true := by simp; omega
    have d4 : decide (0 < (k : Int)) = true := by simp; omega
    obtain ⟨j, hj⟩ : ∃ j, k - 1 = j := ⟨_, rfl⟩
    have hj2 : (k : Int) - 1 = (j : Int) := by omega
    have hj3 : j < N := by omega
    have hkN : k < N := by omega
    have CS := HS0.out (by omega)
    rw [hj] at CS
    clear hz hj
    go_enter Tryz.func34, Tryz.ntmps34
    go_wp2_with fail
    clear cN hw1
    go_quiet (fail)
    go_wp2_with fail
    have hHeld : From w1 (w1.drewN nq).drew := (bel_drewN (Below.refl _ _) _).drew
    clear C0 C1 C2 CE CS
    refine wp_region_noPanic ?_
    refine wpAnyH_start (n := 14) (l := #[false, false, false, false, false, false, false, false, false, false, false, false, false, false]) (S := From w1) (by kernel_rfl) (hHeld) (by kernel_rfl) (by kernel_rfl) ?_
    refine wpAnyH_take (i := 0) (oi := _) (v := ?_) rfl (by kernel_rfl) (by kernel_rfl) (by kernel_rfl) (fun _ _ _ h => h) (Or.inl ⟨by rfl, ?_⟩) (by assumption) ?_
    rotate_left
    · intro wq hSw; go_simp; try with_reducible rfl
    simp only [Act.put, List.setIfInBounds_toArray, List.set_cons_zero, List.set_cons_succ, List.getElem_toArray, List.getElem_cons_zero, List.getElem_cons_succ]
    refine wpAnyH_take (i := 1) (oi := _) (v := ?_) rfl (by kernel_rfl) (by kernel_rfl) (by kernel_rfl) (fun _ _ _ h => h) (Or.inl ⟨by rfl, ?_⟩) (by assumption) ?_
    rotate_left
    · intro wq hSw; go_simp; try with_reducible rfl
    simp only [Act.put, List.setIfInBounds_toArray, List.set_cons_zero, List.set_cons_succ, List.getElem_toArray, List.getElem_cons_zero, List.getElem_cons_succ]
    refine wpAnyH_take (i := 2) (oi := _) (v := ?_) rfl (by kernel_rfl) (by kernel_rfl) (by kernel_rfl) (fun _ _ _ h => h) (Or.inl ⟨by rfl, ?_⟩) (by assumption) ?_
    rotate_left
    · intro wq hSw; go_simp; try with_reducible rfl
    simp only [Act.put, List.setIfInBounds_toArray, List.set_cons_zero, List.set_cons_succ, List.getElem_toArray, List.getElem_cons_zero, List.getElem_cons_succ]
    refine wpAnyH_take (i := 3) (oi := _) (v := ?_) rfl (by kernel_rfl) (by kernel_rfl) (by kernel_rfl) (fun _ _ _ h => h) (Or.inl ⟨by rfl, ?_⟩) (by assumption) ?_
    rotate_left
    · intro wq hSw; have d0 : wq.cell? ⟨q, 0, none⟩ = some (.pointer (some ⟨p, 0, none⟩)) := HC0.out wq hSw; go_simp; try with_reducible rfl
    simp only [Act.put, List.setIfInBounds_toArray, List.set_cons_zero, List.set_cons_succ, List.getElem_toArray, List.getElem_cons_zero, List.getElem_cons_succ]
    refine wpAnyH_take (i := 4) (oi := _) (v := ?_) rfl (by kernel_rfl) (by kernel_rfl) (by kernel_rfl) (fun _ _ _ h => h) (Or.inl ⟨by rfl, ?_⟩) (by assumption) ?_
    rotate_left
    · intro wq hSw; go_simp; try with_reducible rfl
    simp only [Act.put, List.setIfInBounds_toArray, List.set_cons_zero, List.set_cons_succ, List.getElem_toArray, List.getElem_cons_zero, List.getElem_cons_succ]
    refine wpAnyH_take (i := 5) (oi := _) (v := ?_) rfl (by kernel_rfl) (by kernel_rfl) (by kernel_rfl) (fun _ _ _ h => h) (Or.inl ⟨by rfl, ?_⟩) (by assumption) ?_
    rotate_left
    · intro wq hSw; go_simp; try with_reducible rfl
    simp only [Act.put, List.setIfInBounds_toArray, List.set_cons_zero, List.set_cons_succ, List.getElem_toArray, List.getElem_cons_zero, List.getElem_cons_succ]
    refine wpAnyH_take (i := 6) (oi := _) (v := ?_) rfl (by kernel_rfl) (by kernel_rfl) (by kernel_rfl) (fun _ _ _ h => h) (Or.inl ⟨by rfl, ?_⟩) (by assumption) ?_
    rotate_left
    · intro wq hSw; go_simp; try with_reducible rfl
    simp only [Act.put, List.setIfInBounds_toArray, List.set_cons_zero, List.set_cons_succ, List.getElem_toArray, List.getElem_cons_zero, List.getElem_cons_succ]
    refine wpAnyH_take (i := 7) (oi := _) (v := ?_) rfl (by kernel_rfl) (by kernel_rfl) (by kernel_rfl) (fun _ _ _ h => h) (Or.inl ⟨by rfl, ?_⟩) (by assumption) ?_
    rotate_left
    · intro wq hSw; have d1 : wq.cell? ⟨q, 1, none⟩ = some (.string n) := HC1.out wq hSw; go_simp; try with_reducible rfl
    simp only [Act.put, List.setIfInBounds_toArray, List.set_cons_zero, List.set_cons_succ, List.getElem_toArray, List.getElem_cons_zero, List.getElem_cons_succ]
    refine wpAnyH_ready (rs := [8]) (by kernel_rfl) (by simp) ?_
    refine AllReadyH.cons (o := _) rfl (fun K hK => ?_) AllReadyH.nil
    simp only [List.getElem_toArray, List.getElem_cons_zero, List.getElem_cons_succ]
    go_simp
    refine (HRD.out _ hHeld).mono ?_; rintro e' w6 ⟨sp6, cp6, rfl, hb6, hi6⟩
    refine hK.out _ _ (From.trans hHeld hb6.out) (fun _ => ?_)
    clear hK K
    have HE6 := Lib.hid (From.trans hHeld hb6.out)
    have HT6 := Lib.hid (HHT.out.below (HB1.out.trans (HE6.out.mono HB1.out.size)))
    clear hb6 hHeld HRD HC0 HC1
    simp only [Act.put, List.setIfInBounds_toArray, List.set_cons_zero, List.set_cons_succ, List.getElem_toArray, List.getElem_cons_zero, List.getElem_cons_succ]
    refine wpAnyH_take (i := 9) (oi := _) (v := ?_) rfl (by kernel_rfl) (by kernel_rfl) (by kernel_rfl) (fun _ _ _ h => h) (Or.inl ⟨by rfl, ?_⟩) (by assumption) ?_
    rotate_left
    · intro wq hSw; go_simp; try with_reducible rfl
    simp only [Act.put, List.setIfInBounds_toArray, List.set_cons_zero, List.set_cons_succ, List.getElem_toArray, List.getElem_cons_zero, List.getElem_cons_succ]
    refine wpAnyH_take (i := 10) (oi := _) (v := ?_) rfl (by kernel_rfl) (by kernel_rfl) (by kernel_rfl) (fun _ _ _ h => h) (Or.inl ⟨by rfl, ?_⟩) (by assumption) ?_
    rotate_left
    · intro wq hSw; go_simp; try with_reducible rfl
    simp only [Act.put, List.setIfInBounds_toArray, List.set_cons_zero, List.set_cons_succ, List.getElem_toArray, List.getElem_cons_zero, List.getElem_cons_succ]
    refine wpAnyH_take (i := 11) (oi := _) (v := ?_) rfl (by kernel_rfl) (by kernel_rfl) (by kernel_rfl) (fun _ _ _ h => h) (Or.inl ⟨by rfl, ?_⟩) (by assumption) ?_
    rotate_left
    · intro wq hSw; go_simp; try with_reducible rfl
    simp only [Act.put, List.setIfInBounds_toArray, List.set_cons_zero, List.set_cons_succ, List.getElem_toArray, List.getElem_cons_zero, List.getElem_cons_succ]
    refine wpAnyH_take (i := 12) (oi := _) (v := ?_) rfl (by kernel_rfl) (by kernel_rfl) (by kernel_rfl) (fun _ _ _ h => h) (Or.inl ⟨by rfl, ?_⟩) (by assumption) ?_
    rotate_left
    · intro wq hSw; go_simp; try with_reducible rfl
    simp only [Act.put, List.setIfInBounds_toArray, List.set_cons_zero, List.set_cons_succ, List.getElem_toArray, List.getElem_cons_zero, List.getElem_cons_succ]
    refine wpAnyH_take (i := 13) (oi := _) (v := ?_) rfl (by kernel_rfl) (by kernel_rfl) (by kernel_rfl) (fun _ _ _ h => h) (Or.inl ⟨by rfl, ?_⟩) (by assumption) ?_
    rotate_left
    · intro wq hSw; go_simp; try with_reducible rfl
    simp only [Act.put, List.setIfInBounds_toArray, List.set_cons_zero, List.set_cons_succ, List.getElem_toArray, List.getElem_cons_zero, List.getElem_cons_succ]
    refine wpAnyH_done (by kernel_rfl) ?_ _
    refine NoPanic.normal ?_
    cases F with
    | none =>
      simp only [lenF, errF] at hi6 ⊢
      obtain ⟨w9, hst, HR9, HG9⟩ := HST.out zR w6 HE6.out
      simp only [zR] at hst
      go_wp2_with fail
      exact get_end rfl rfl rfl rfl HR9.out (by rfl) HG9
    | some B =>
      simp only [lenF, errF] at hi6 ⊢
      have HI6 := Lib.hid (hi6.out B rfl)
      have hl6 := HFB.out B rfl
      obtain ⟨M, hM⟩ : ∃ M, B.length = M := ⟨_, rfl⟩
      rw [hM] at hl6
      have HI6 : Hid (IsBytes w6 (.slice sp6 M cp6) B) := Lib.hid (by have := HI6.out; rw [hM] at this; exact this)
      have HM := Lib.hid hM
      rw [hM]
      clear hi6 HFB hM
      by_cases hle : M < e
      · have d5 : decide ((M : Int) < (e : Int)) = true := by simp; omega
        have d5' : decide (M < e) = true := by simp; omega
        obtain ⟨w9, hst, HR9, HG9⟩ := HST.out zR w6 HE6.out
        simp only [zR] at hst
        go_wp2_with fail
        exact get_end rfl rfl rfl rfl HR9.out (by unfold cutV; simp only; rw [if_pos (by rw [HM.out]; exact hle)]) HG9
      · have d5 : decide ((M : Int) < (e : Int)) = false := by simp; omega
        have d5' : decide (M < e) = false := by simp; omega
        have HLE := Lib.hid hle
        obtain ⟨ds, hds⟩ : ∃ ds, e - s = ds := ⟨_, rfl⟩
        obtain ⟨sp7, cp7, hsl, hi7⟩ := run_between HI6.out s ds (by rw [HM.out]; omega) (e : Int) (by omega)
        obtain ⟨C, hC⟩ : ∃ C, (B.drop s).take ds = C := ⟨_, rfl⟩
        rw [hC] at hi7
        have hCl : C.length ≤ 4194304 := by rw [← hC, List.length_take, List.length_drop, HM.out]; omega
        have hsc := rscan_any _ C w6 HT6.out hi7 (by omega)
        unfold RScanPost at hsc
        have HV : Hid (cutV (some B) s e = if (scanR C).1.length = 1 ∧ (scanR C).2.1 = ds then ((scanR C).1.getD 0 zR, 0) else (zR, 6)) := Lib.hid (by
          unfold cutV
          simp only
          rw [if_neg (by rw [HM.out]; exact HLE.out), hds, hC])
        obtain ⟨L, hL⟩ : ∃ L, (scanR C).1 = L := ⟨_, rfl⟩
        obtain ⟨m, hm⟩ : ∃ m, (scanR C).2.1 = m := ⟨_, rfl⟩
        obtain ⟨ok, hok⟩ : ∃ ok, (scanR C).2.2 = ok := ⟨_, rfl⟩
        rw [hL, hm, hok] at hsc
        rw [hL, hm] at HV
        have HSC := Lib.hid hsc
        have hdsI : (e : Int) - ((s : Nat) : Int) = (ds : Int) := by omega
        have heM : e ≤ M := by omega
        clear hsc hi7 hC hCl hL hm hok hle hds
        go_wp2_with fail
        refine HSC.out.mono ?_
        rintro e' w8 ⟨sp8, cp8, rfl, ho8, hb8⟩
        have HE8 := Lib.hid (From.trans HE6.out hb8.out)
        have HO8 := ho8
        obtain ⟨NL, hNL⟩ : ∃ NL, L.length = NL := ⟨_, rfl⟩
        rw [hNL] at HV ho8 ⊢
        have HNL := Lib.hid hNL
        clear hb8 hsl HSC hNL
        by_cases h1 : NL = 1
        · by_cases h2 : m = ds
          · subst h2
            subst h1
            have q1 : ((m : Int) != (m : Int)) = false := bne_f rfl
            obtain ⟨b8, o8, hp8, hld⟩ := (HO8.out.at).load (W := w8) (i := 0) (by rw [HNL.out]; omega)
            subst hp8
            have hld8 := hld w8 (Below.refl _ _)
            obtain ⟨x, hx⟩ : ∃ x, L.getD 0 zR = x := ⟨_, rfl⟩
            rw [hx] at hld8
            obtain ⟨w9, hst, HR9, HG9⟩ := HST.out x w8 HE8.out
            have HX := Lib.hid hx
            try simp only [Nat.zero_mul, Nat.add_zero] at hld8
            clear hld hx ho8
            go_wp2_with fail
            exact get_end rfl rfl rfl rfl HR9.out (by rw [HV.out, if_pos ⟨by trivial, by trivial⟩, HX.out]) HG9
          · have q1 : ((m : Int) != (ds : Int)) = true := bne_t (by omega)
            have q2 : (m != ds) = true := by simpa using h2
            subst h1
            obtain ⟨w9, hst, HR9, HG9⟩ := HST.out zR w8 HE8.out
            simp only [zR] at hst
            have H2 := Lib.hid h2
            clear h2 ho8
            go_wp2_with fail
            exact get_end rfl rfl rfl rfl HR9.out (by rw [HV.out, if_neg (fun h => H2.out h.2)]) HG9
        · have q1 : ((NL : Int) != 1) = true := bne_t (by omega)
          have q2 : (NL != 1) = true := by simpa using h1
          obtain ⟨w9, hst, HR9, HG9⟩ := HST.out zR w8 HE8.out
          simp only [zR] at hst
          have H1 := Lib.hid h1
          clear h1 ho8
          go_wp2_with fail
          exact get_end rfl rfl rfl rfl HR9.out (by rw [HV.out, if_neg (fun h => H1.out h.1)]) HG9
end
end Go.Proofs.YtdjkkohckfndkaaGreatDoor.S15

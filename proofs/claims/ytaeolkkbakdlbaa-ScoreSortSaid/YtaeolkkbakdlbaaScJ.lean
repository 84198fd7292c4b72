/- ScoreSort, walked. -/
import Derived.Test.YtaeolkkbakdlbaaScI
import Derived.Deep.RegionHeld3
set_option linter.unusedSimpArgs false
set_option linter.unusedVariables false
set_option maxRecDepth 100000
namespace Go.Proofs.Ytaeolkkbakdlbaa.S12
open Go.RowKit Pl
attribute [local go_sem ↓] sliceF_eq
set_option maxHeartbeats 16000000 in
theorem scoreSort_walk (a : Option Addr) (len cap : Nat) (zs : List Int) (w : World) (hr : IsRow .u64 w a len cap zs) :
    Calls Try.prog 6 #[.slice a len cap] w fun e w' => e = .returned (.bool true) ∧ Below w.heap.size w w' := by
  obtain ⟨hlen, hlt, hcell⟩ := words_row hr
  have hmax := hr.len_le
  clear hr
  obtain ⟨L, hL⟩ : ∃ L, L = wordsZ zs len := ⟨_, rfl⟩
  rw [← hL] at hlen hlt hcell
  clear hL
  have HLT := Lib.hid hlt
  have HC := Lib.hid hcell
  have HLN := Lib.hid hlen
  clear hlt hcell hlen
  obtain ⟨M, hM, hM1, hM2, hM3⟩ : ∃ M, M ≤ len ∧ M ≤ 25 ∧ (∀ i : Nat, i < M → i < len ∧ i < 25) ∧ (∀ i : Nat, ¬ i < M → i ≤ M → (i = len ∨ i = 25 ∧ i < len)) := ⟨min len 25, by omega, by omega, by omega, by omega⟩
  have HM3 := Lib.hid hM3
  have HM2 := Lib.hid hM2
  clear hM2 hM3
  unfold maxLen at hmax
  go_enter Try.func6, Try.ntmps6
  go_wp2_with fail
  refine (begun_any _).mono ?_
  rintro e w1 ⟨rfl, hb⟩
  have HB1 := Lib.hid hb
  have HSZ := hb.size
  clear hb
  go_wp2_with fail
  go_loopw [4, 5] (fun v x wr => ∃ (i n : Nat) (F : List Nat) (sp : Option Addr) (cp : Nat), i ≤ M ∧ n = i ∧ v = .slice sp n cp ∧ x = .int .i64 i ∧ F.length = n ∧ IsF wr (.slice sp n cp) F ∧ (∀ x ∈ F, x < 18446744073709551616) ∧ SrtF F ∧ Below w1.heap.size w1 wr) (fun _ x _ => M - (intOf x).toNat)
  case atStart => exact ⟨0, 0, [], none, 0, by omega, rfl, rfl, rfl, rfl, .inl ⟨rfl, rfl⟩, by simp, fun i hi => by simp at hi, Below.refl _ _⟩
  case round =>
    obtain ⟨i, n, F, sp, cp, hi, hni, rfl, rfl, hFl, hI, hFx, hS, hb⟩ := hrel
    have HI := Lib.hid hI
    have HFL := Lib.hid hFl
    have HFX := Lib.hid hFx
    have HSF := Lib.hid hS
    have HB := Lib.hid hb
    have hsz := hb.size
    have hn25 : n ≤ 25 := by omega
    have hni1 : n ≤ i := by omega
    have hni2 : i ≤ n := by omega
    obtain ⟨a', c', he', hcp1, hcp2⟩ := hI.slice
    simp at he'
    obtain ⟨rfl, he1, rfl⟩ := he'
    rw [hFl] at hcp1
    clear hI hFl hFx hS hb he1 hni
    obtain ⟨wo, hwo⟩ : ∃ wo, wo = wr := ⟨_, rfl⟩
    subst hwo
    by_cases hlt : i < M
    · obtain ⟨h1, h2⟩ := HM2.out i hlt
      obtain ⟨bb, off, rfl, hbb, hc⟩ := HC.out (by omega)
      have c0 := hc i h1
      rw [← HB1.out.cell (p := ⟨bb, off + i, none⟩) hbb, ← HB.out.cell (p := ⟨bb, off + i, none⟩) (by show bb < _; omega)] at c0
      have hxl := getD_lt HLT.out i
      generalize L.getD i 0 = x at *
      have h25 : decide ((i : Int) < 25) = true := by simp; omega
      clear hc
      go_wp2_with fail
      clear h25
      clear c0
      go_loopw [7] (fun y wr => ∃ (k : Nat), k ≤ n ∧ y = .int .i64 k ∧ (∀ j, j < k → fless x (F.getD j 0) = false) ∧ wr = wo) (fun y _ => n - (intOf y).toNat)
      case atStart => exact ⟨0, by omega, rfl, by simp, rfl⟩
      case round =>
        obtain ⟨k, hk, rfl, hlow, hwr⟩ := hrel
        have HIr : Hid (IsF wr (.slice sp n cp) F) := Lib.hid (by rw [hwr]; exact HI.out)
        have HBr : Hid (Below w1.heap.size w1 wr) := Lib.hid (by rw [hwr]; exact HB.out)
        have hszr : w1.heap.size ≤ wr.heap.size := by rw [hwr]; exact hsz
        have HWR := Lib.hid hwr
        clear hwr
        have HLO := Lib.hid hlow
        clear hlow
        have hnext : k < n → fless x (F.getD k 0) = false → Hid (∀ j, j < k + 1 → fless x (F.getD j 0) = false) := fun _ hf j hj => by
          by_cases e : j = k
          · rw [e]; exact hf
          · exact HLO.out j (by omega)
        have HNEXT := Lib.hid hnext
        clear hnext
        by_cases hgo : k < n ∧ fless x (F.getD k 0) = false
        · obtain ⟨hkn, hf⟩ := hgo
          obtain ⟨bf, of, cf, hs, _, _, _, hcf⟩ := HIr.out.cells (by rw [HFL.out]; omega)
          simp at hs
          obtain ⟨rfl, -, rfl⟩ := hs
          have cF := hcf k (by rw [HFL.out]; omega)
          have lk := fun W => less_any x (F.getD k 0) W hxl (getD_lt HFX.out k)
          have HN := Lib.hid (HNEXT.out hkn hf)
          rw [hf] at lk
          generalize F.getD k 0 = f at *
          clear hcf hf HNEXT
          go_wp2_with fail
          refine (lk _).mono ?_
          rintro e w' ⟨rfl, rfl⟩
          go_wp2_with fail
          go_roundw
          case rel => exact ⟨k + 1, by omega, by go_num, HN.out, HWR.out⟩
          case measure => simp [intOf]; omega
        · have hex : (k = n) ∨ (k < n ∧ fless x (F.getD k 0) = true) := by
            by_cases e : k = n
            · exact .inl e
            · right
              refine ⟨by omega, ?_⟩
              cases hff : fless x (F.getD k 0) with
              | true => rfl
              | false => exact absurd ⟨by omega, hff⟩ hgo
          have hnew : SrtF (F.take k ++ (x :: F.drop k)) := ins_srt HSF.out (by rw [HFL.out]; omega) HLO.out (fun h => by
            rw [HFL.out] at h
            rcases hex with e | e
            · omega
            · exact e.2) rfl
          have hnx : ∀ y ∈ F.take k ++ (x :: F.drop k), y < 18446744073709551616 := fun y hy => by
            rcases List.mem_append.1 hy with hy | hy
            · exact HFX.out y (List.mem_of_mem_take hy)
            · rcases List.mem_cons.1 hy with rfl | hy
              · exact hxl
              · exact HFX.out y (List.mem_of_mem_drop hy)
          have HNS := Lib.hid hnew
          have HNX := Lib.hid hnx
          obtain ⟨a1, c1, hs1, hI1⟩ := run_fromF HIr.out HFL.out k hk
          obtain ⟨a2, hs2, hI2⟩ := run_capF HIr.out HFL.out k hk
          have HDI : Hid (IsF wr.drew (.slice a1 (n - k) c1) (F.drop k)) := Lib.hid hI1
          have HFU : Hid (Full wr.drew (.slice a2 k k) k (F.take k)) := Lib.hid hI2
          have HDL : Hid ((F.drop k).length = n - k) := Lib.hid (by rw [List.length_drop, HFL.out])
          obtain ⟨q, hq⟩ : ∃ q, n - k = q := ⟨_, rfl⟩
          rw [hq] at hs1 HDI HDL
          have hq25 : q ≤ 25 := by omega
          have HQ : Hid (k + (1 + q) = n + 1) := Lib.hid (by omega)
          clear hnew hnx hI1 hI2 hgo HNEXT HLO HSF hq
          rcases hex with hkn | ⟨hkn, hf⟩
          · have hnk : n ≤ k := by omega
            clear hkn
            go_wp2_with fail
            refine wp_region_noPanic ?_
            have hHeld : Below w1.heap.size w1 wr.drew := HBr.out.drew
            refine wpAnyH_start (n := 12) (l := #[false, false, false, false, false, false, false, false, false, false, false, false]) (S := Below w1.heap.size w1) (by kernel_rfl) (hHeld) (by kernel_rfl) (by kernel_rfl) ?_
            refine wpAnyH_take (i := 0) (oi := _) (v := ?_) rfl (by kernel_rfl) (by kernel_rfl) (by kernel_rfl) (fun _ _ _ h => h) (Or.inl ⟨by rfl, ?_⟩) (by assumption) ?_
            rotate_left
            · intro wq hSw; go_simp; try with_reducible rfl
            simp only [Act.put, List.setIfInBounds_toArray, List.set_cons_zero, List.set_cons_succ, List.getElem_toArray, List.getElem_cons_zero, List.getElem_cons_succ]
            refine wpAnyH_take (i := 1) (oi := _) (v := ?_) rfl (by kernel_rfl) (by kernel_rfl) (by kernel_rfl) (fun _ _ _ h => h) (Or.inl ⟨by rfl, ?_⟩) (by assumption) ?_
            rotate_left
            · intro wq hSw; go_simp; try with_reducible rfl
            simp only [Act.put, List.setIfInBounds_toArray, List.set_cons_zero, List.set_cons_succ, List.getElem_toArray, List.getElem_cons_zero, List.getElem_cons_succ]
            refine wpAnyH_take (i := 2) (oi := _) (v := ?_) rfl (by kernel_rfl) (by kernel_rfl) (by kernel_rfl) (fun _ _ _ h => h) (Or.inl ⟨by rfl, ?_⟩) (by assumption) ?_
            rotate_left
            · intro wq hSw; go_simp; try with_reducible rfl
            simp only [Act.put, List.setIfInBounds_toArray, List.set_cons_zero, List.set_cons_succ, List.getElem_toArray, List.getElem_cons_zero, List.getElem_cons_succ]
            refine wpAnyH_take (i := 3) (oi := _) (v := ?_) rfl (by kernel_rfl) (by kernel_rfl) (by kernel_rfl) (fun _ _ _ h => h) (Or.inl ⟨by rfl, ?_⟩) (by assumption) ?_
            rotate_left
            · intro wq hSw; go_simp; try with_reducible rfl
            simp only [Act.put, List.setIfInBounds_toArray, List.set_cons_zero, List.set_cons_succ, List.getElem_toArray, List.getElem_cons_zero, List.getElem_cons_succ]
            refine wpAnyH_take (i := 4) (oi := _) (v := ?_) rfl (by kernel_rfl) (by kernel_rfl) (by kernel_rfl) (fun _ _ _ h => h) (Or.inl ⟨by rfl, ?_⟩) (by assumption) ?_
            rotate_left
            · intro wq hSw; go_simp; try with_reducible rfl
            simp only [Act.put, List.setIfInBounds_toArray, List.set_cons_zero, List.set_cons_succ, List.getElem_toArray, List.getElem_cons_zero, List.getElem_cons_succ]
            refine wpAnyH_take (i := 6) (oi := _) (v := ?_) rfl (by kernel_rfl) (by kernel_rfl) (by kernel_rfl) (fun _ _ _ h => h) (Or.inl ⟨by rfl, ?_⟩) (by assumption) ?_
            rotate_left
            · intro wq hSw; go_simp; try with_reducible rfl
            simp only [Act.put, List.setIfInBounds_toArray, List.set_cons_zero, List.set_cons_succ, List.getElem_toArray, List.getElem_cons_zero, List.getElem_cons_succ]
            refine wpAnyH_take (i := 7) (oi := _) (v := ?_) rfl (by kernel_rfl) (by kernel_rfl) (by kernel_rfl) (fun _ _ _ h => h) (Or.inl ⟨by rfl, ?_⟩) (by assumption) ?_
            rotate_left
            · intro wq hSw; go_simp; try with_reducible rfl
            simp only [Act.put, List.setIfInBounds_toArray, List.set_cons_zero, List.set_cons_succ, List.getElem_toArray, List.getElem_cons_zero, List.getElem_cons_succ]
            refine wpAnyH_take (i := 8) (oi := _) (v := ?_) rfl (by kernel_rfl) (by kernel_rfl) (by kernel_rfl) (fun _ _ _ h => h) (Or.inl ⟨by rfl, ?_⟩) (by assumption) ?_
            rotate_left
            · intro wq hSw; go_simp; try with_reducible rfl
            simp only [Act.put, List.setIfInBounds_toArray, List.set_cons_zero, List.set_cons_succ, List.getElem_toArray, List.getElem_cons_zero, List.getElem_cons_succ]
            refine wpAnyH_ready (rs := [5]) (by kernel_rfl) (by simp) ?_
            refine AllReadyH.cons (o := _) rfl (fun K hK => ?_) AllReadyH.nil
            simp only [List.getElem_toArray, List.getElem_cons_zero, List.getElem_cons_succ]
            go_simp
            refine hK.out _ _ (hHeld.alloc hszr _) (fun hHeld2 => ?_)
            clear hK K hHeld hHeld2
            simp only [Act.put, List.setIfInBounds_toArray, List.set_cons_zero, List.set_cons_succ, List.getElem_toArray, List.getElem_cons_zero, List.getElem_cons_succ]
            refine wpAnyH_ready (rs := [9]) (by kernel_rfl) (by simp) ?_
            refine AllReadyH.cons (o := _) rfl (fun K hK => ?_) AllReadyH.nil
            simp only [List.getElem_toArray, List.getElem_cons_zero, List.getElem_cons_succ]
            rw [if_pos (by rfl)]
            obtain ⟨s3, c3, w3, hr3, hI3, hb3⟩ := app_front (w := wr.drew) 33 x _ _ q HDL.out HDI.out (by omega)
            refine wp_append_F (.tmp 51) (.tmp 54) rfl (.slice (some ⟨wr.heap.size, 0, none⟩) 1 1) (.slice a1 q c1) (.slice s3 (1 + q) c3) rfl rfl hr3 ?_
            have HI3 := Lib.hid hI3
            have HB3 := Lib.hid hb3
            clear hr3 hI3 hb3
            refine hK.out _ _ (HBr.out.drew.trans (HB3.out.mono hszr)) (fun hHeld2 => ?_)
            clear hK K hHeld2
            simp only [Act.put, List.setIfInBounds_toArray, List.set_cons_zero, List.set_cons_succ, List.getElem_toArray, List.getElem_cons_zero, List.getElem_cons_succ]
            refine wpAnyH_ready (rs := [10]) (by kernel_rfl) (by simp) ?_
            refine AllReadyH.cons (o := _) rfl (fun K hK => ?_) AllReadyH.nil
            simp only [List.getElem_toArray, List.getElem_cons_zero, List.getElem_cons_succ]
            rw [if_pos (by rfl)]
            obtain ⟨s4, c4, w4, hr4, hI4, hb4⟩ := app_back 33 _ k _ (HFU.out.below (w := wr.drew) HB3.out) _ _ (1 + q) (by rw [List.length_cons, HDL.out]; omega) (by omega) HI3.out (by omega)
            refine wp_append_F (.tmp 49) (.tmp 55) rfl (.slice a2 k k) (.slice s3 (1 + q) c3) (.slice s4 (k + (1 + q)) c4) rfl rfl hr4 ?_
            have HI4 := Lib.hid hI4
            have HB4 : Hid (Below w1.heap.size w1 w4) := Lib.hid ((HBr.out.drew.trans (HB3.out.mono hszr)).trans (hb4.mono (by have := HB3.out.size; simp at this; omega)))
            clear hr4 hI4 hb4
            refine hK.out _ _ HB4.out (fun hHeld => ?_)
            clear hK K
            simp only [Act.put, List.setIfInBounds_toArray, List.set_cons_zero, List.set_cons_succ, List.getElem_toArray, List.getElem_cons_zero, List.getElem_cons_succ]
            refine wpAnyH_take (i := 11) (oi := _) (v := ?_) rfl (by kernel_rfl) (by kernel_rfl) (by kernel_rfl) (fun _ _ _ h => h) (Or.inl ⟨by rfl, ?_⟩) (by assumption) ?_
            rotate_left
            · intro wq hSw; go_simp; try with_reducible rfl
            simp only [Act.put, List.setIfInBounds_toArray, List.set_cons_zero, List.set_cons_succ, List.getElem_toArray, List.getElem_cons_zero, List.getElem_cons_succ]
            refine wpAnyH_done (by kernel_rfl) ?_ _
            refine NoPanic.normal ?_
            rw [HQ.out] at HI4 ⊢
            go_wp2_with fail
            go_roundw
            case rel => exact ⟨i + 1, n + 1, F.take k ++ x :: F.drop k, s4, c4, by omega, by omega, rfl, by go_num, by simp [HFL.out]; omega, HI4.out, HNX.out, HNS.out, HB4.out⟩
            case measure => simp [intOf]; omega
          · obtain ⟨bf, of, cf, hs, _, _, _, hcf⟩ := HIr.out.cells (by rw [HFL.out]; omega)
            simp at hs
            obtain ⟨rfl, -, rfl⟩ := hs
            have cF := hcf k (by rw [HFL.out]; omega)
            have lk := fun W => less_any x (F.getD k 0) W hxl (getD_lt HFX.out k)
            rw [hf] at lk
            generalize F.getD k 0 = f at *
            clear hcf hf
            go_wp2_with fail
            refine (lk _).mono ?_
            rintro e w' ⟨rfl, hw2⟩
            obtain rfl := hw2.symm
            clear cF lk hw2
            go_wp2_with fail
            refine wp_region_noPanic ?_
            have hHeld : Below w1.heap.size w1 wr.drew := HBr.out.drew
            refine wpAnyH_start (n := 12) (l := #[false, false, false, false, false, false, false, false, false, false, false, false]) (S := Below w1.heap.size w1) (by kernel_rfl) (hHeld) (by kernel_rfl) (by kernel_rfl) ?_
            refine wpAnyH_take (i := 0) (oi := _) (v := ?_) rfl (by kernel_rfl) (by kernel_rfl) (by kernel_rfl) (fun _ _ _ h => h) (Or.inl ⟨by rfl, ?_⟩) (by assumption) ?_
            rotate_left
            · intro wq hSw; go_simp; try with_reducible rfl
            simp only [Act.put, List.setIfInBounds_toArray, List.set_cons_zero, List.set_cons_succ, List.getElem_toArray, List.getElem_cons_zero, List.getElem_cons_succ]
            refine wpAnyH_take (i := 1) (oi := _) (v := ?_) rfl (by kernel_rfl) (by kernel_rfl) (by kernel_rfl) (fun _ _ _ h => h) (Or.inl ⟨by rfl, ?_⟩) (by assumption) ?_
            rotate_left
            · intro wq hSw; go_simp; try with_reducible rfl
            simp only [Act.put, List.setIfInBounds_toArray, List.set_cons_zero, List.set_cons_succ, List.getElem_toArray, List.getElem_cons_zero, List.getElem_cons_succ]
            refine wpAnyH_take (i := 2) (oi := _) (v := ?_) rfl (by kernel_rfl) (by kernel_rfl) (by kernel_rfl) (fun _ _ _ h => h) (Or.inl ⟨by rfl, ?_⟩) (by assumption) ?_
            rotate_left
            · intro wq hSw; go_simp; try with_reducible rfl
            simp only [Act.put, List.setIfInBounds_toArray, List.set_cons_zero, List.set_cons_succ, List.getElem_toArray, List.getElem_cons_zero, List.getElem_cons_succ]
            refine wpAnyH_take (i := 3) (oi := _) (v := ?_) rfl (by kernel_rfl) (by kernel_rfl) (by kernel_rfl) (fun _ _ _ h => h) (Or.inl ⟨by rfl, ?_⟩) (by assumption) ?_
            rotate_left
            · intro wq hSw; go_simp; try with_reducible rfl
            simp only [Act.put, List.setIfInBounds_toArray, List.set_cons_zero, List.set_cons_succ, List.getElem_toArray, List.getElem_cons_zero, List.getElem_cons_succ]
            refine wpAnyH_take (i := 4) (oi := _) (v := ?_) rfl (by kernel_rfl) (by kernel_rfl) (by kernel_rfl) (fun _ _ _ h => h) (Or.inl ⟨by rfl, ?_⟩) (by assumption) ?_
            rotate_left
            · intro wq hSw; go_simp; try with_reducible rfl
            simp only [Act.put, List.setIfInBounds_toArray, List.set_cons_zero, List.set_cons_succ, List.getElem_toArray, List.getElem_cons_zero, List.getElem_cons_succ]
            refine wpAnyH_take (i := 6) (oi := _) (v := ?_) rfl (by kernel_rfl) (by kernel_rfl) (by kernel_rfl) (fun _ _ _ h => h) (Or.inl ⟨by rfl, ?_⟩) (by assumption) ?_
            rotate_left
            · intro wq hSw; go_simp; try with_reducible rfl
            simp only [Act.put, List.setIfInBounds_toArray, List.set_cons_zero, List.set_cons_succ, List.getElem_toArray, List.getElem_cons_zero, List.getElem_cons_succ]
            refine wpAnyH_take (i := 7) (oi := _) (v := ?_) rfl (by kernel_rfl) (by kernel_rfl) (by kernel_rfl) (fun _ _ _ h => h) (Or.inl ⟨by rfl, ?_⟩) (by assumption) ?_
            rotate_left
            · intro wq hSw; go_simp; try with_reducible rfl
            simp only [Act.put, List.setIfInBounds_toArray, List.set_cons_zero, List.set_cons_succ, List.getElem_toArray, List.getElem_cons_zero, List.getElem_cons_succ]
            refine wpAnyH_take (i := 8) (oi := _) (v := ?_) rfl (by kernel_rfl) (by kernel_rfl) (by kernel_rfl) (fun _ _ _ h => h) (Or.inl ⟨by rfl, ?_⟩) (by assumption) ?_
            rotate_left
            · intro wq hSw; go_simp; try with_reducible rfl
            simp only [Act.put, List.setIfInBounds_toArray, List.set_cons_zero, List.set_cons_succ, List.getElem_toArray, List.getElem_cons_zero, List.getElem_cons_succ]
            refine wpAnyH_ready (rs := [5]) (by kernel_rfl) (by simp) ?_
            refine AllReadyH.cons (o := _) rfl (fun K hK => ?_) AllReadyH.nil
            simp only [List.getElem_toArray, List.getElem_cons_zero, List.getElem_cons_succ]
            go_simp
            refine hK.out _ _ (hHeld.alloc hszr _) (fun hHeld2 => ?_)
            clear hK K hHeld hHeld2
            simp only [Act.put, List.setIfInBounds_toArray, List.set_cons_zero, List.set_cons_succ, List.getElem_toArray, List.getElem_cons_zero, List.getElem_cons_succ]
            refine wpAnyH_ready (rs := [9]) (by kernel_rfl) (by simp) ?_
            refine AllReadyH.cons (o := _) rfl (fun K hK => ?_) AllReadyH.nil
            simp only [List.getElem_toArray, List.getElem_cons_zero, List.getElem_cons_succ]
            rw [if_pos (by rfl)]
            obtain ⟨s3, c3, w3, hr3, hI3, hb3⟩ := app_front (w := wr.drew) 33 x _ _ q HDL.out HDI.out (by omega)
            refine wp_append_F (.tmp 51) (.tmp 54) rfl (.slice (some ⟨wr.heap.size, 0, none⟩) 1 1) (.slice a1 q c1) (.slice s3 (1 + q) c3) rfl rfl hr3 ?_
            have HI3 := Lib.hid hI3
            have HB3 := Lib.hid hb3
            clear hr3 hI3 hb3
            refine hK.out _ _ (HBr.out.drew.trans (HB3.out.mono hszr)) (fun hHeld2 => ?_)
            clear hK K hHeld2
            simp only [Act.put, List.setIfInBounds_toArray, List.set_cons_zero, List.set_cons_succ, List.getElem_toArray, List.getElem_cons_zero, List.getElem_cons_succ]
            refine wpAnyH_ready (rs := [10]) (by kernel_rfl) (by simp) ?_
            refine AllReadyH.cons (o := _) rfl (fun K hK => ?_) AllReadyH.nil
            simp only [List.getElem_toArray, List.getElem_cons_zero, List.getElem_cons_succ]
            rw [if_pos (by rfl)]
            obtain ⟨s4, c4, w4, hr4, hI4, hb4⟩ := app_back 33 _ k _ (HFU.out.below (w := wr.drew) HB3.out) _ _ (1 + q) (by rw [List.length_cons, HDL.out]; omega) (by omega) HI3.out (by omega)
            refine wp_append_F (.tmp 49) (.tmp 55) rfl (.slice a2 k k) (.slice s3 (1 + q) c3) (.slice s4 (k + (1 + q)) c4) rfl rfl hr4 ?_
            have HI4 := Lib.hid hI4
            have HB4 : Hid (Below w1.heap.size w1 w4) := Lib.hid ((HBr.out.drew.trans (HB3.out.mono hszr)).trans (hb4.mono (by have := HB3.out.size; simp at this; omega)))
            clear hr4 hI4 hb4
            refine hK.out _ _ HB4.out (fun hHeld => ?_)
            clear hK K
            simp only [Act.put, List.setIfInBounds_toArray, List.set_cons_zero, List.set_cons_succ, List.getElem_toArray, List.getElem_cons_zero, List.getElem_cons_succ]
            refine wpAnyH_take (i := 11) (oi := _) (v := ?_) rfl (by kernel_rfl) (by kernel_rfl) (by kernel_rfl) (fun _ _ _ h => h) (Or.inl ⟨by rfl, ?_⟩) (by assumption) ?_
            rotate_left
            · intro wq hSw; go_simp; try with_reducible rfl
            simp only [Act.put, List.setIfInBounds_toArray, List.set_cons_zero, List.set_cons_succ, List.getElem_toArray, List.getElem_cons_zero, List.getElem_cons_succ]
            refine wpAnyH_done (by kernel_rfl) ?_ _
            refine NoPanic.normal ?_
            rw [HQ.out] at HI4 ⊢
            go_wp2_with fail
            go_roundw
            case rel => exact ⟨i + 1, n + 1, F.take k ++ x :: F.drop k, s4, c4, by omega, by omega, rfl, by go_num, by simp [HFL.out]; omega, HI4.out, HNX.out, HNS.out, HB4.out⟩
            case measure => simp [intOf]; omega
    · have hend := HM3.out i hlt hi
      have HBW : Hid (Below w.heap.size w wo) := Lib.hid (HB1.out.trans (HB.out.mono HSZ))
      have hg : (i < len ∧ 25 ≤ i) ∨ len ≤ i := by
        rcases hend with h | ⟨h1, h2⟩
        · right; omega
        · left; omega
      clear hend hlt hi hM hM1 hmax hni1 hni2 HM3 HM2 HLT HC HLN HB1 HB hsz
      rcases hg with ⟨hl, hg1⟩ | hg1
      all_goals
        go_wp2_with fail
        go_loopw [8] (fun x wr => ∃ (p : Nat) (y : Int), x = .int .i64 y ∧ y = (p : Int) + 1 ∧ (p = 0 ∨ p + 1 ≤ n) ∧ wr = wo) (fun x _ => n - (intOf x).toNat)
        case atStart => exact ⟨0, 1, rfl, rfl, .inl rfl, rfl⟩
        case round =>
          obtain ⟨p, y, rfl, hy, hp, hwr⟩ := hrel
          have HWR := Lib.hid hwr
          have HIr : Hid (IsF wr (.slice sp n cp) F) := Lib.hid (by rw [hwr]; exact HI.out)
          have hp25 : p ≤ 25 := by omega
          clear hwr
          by_cases hlt : p + 1 < n
          · obtain ⟨bf, of, cf, hs, _, _, _, hcf⟩ := HIr.out.cells (by rw [HFL.out]; omega)
            simp at hs
            obtain ⟨rfl, -, rfl⟩ := hs
            have d0 := hcf p (by rw [HFL.out]; omega)
            have d1 := hcf (p + 1) (by rw [HFL.out]; omega)
            have hsr := HSF.out p (by rw [HFL.out]; omega)
            have k0 := fun W => key_any (F.getD p 0) W (getD_lt HFX.out p)
            have k1 := fun W => key_any (F.getD (p + 1) 0) W (getD_lt HFX.out (p + 1))
            generalize F.getD p 0 = f0 at *
            generalize F.getD (p + 1) 0 = f1 at *
            have hbad : (fN f1 = true → fN f0 = true) ∧ (fN f1 = false → fN f0 = false → decide (fk f1 < fk f0) = false) := by
              revert hsr
              unfold fless
              cases fN f0 <;> cases fN f1 <;> simp
            have hbad1 := hbad.1
            have hbad2 := hbad.2
            generalize fN f0 = n0 at *
            generalize fN f1 = n1 at *
            generalize fk f0 = z0 at *
            generalize fk f1 = z1 at *
            subst hy
            have ey : (p : Int) + 1 - 1 = (p : Int) := by omega
            have ey2 : ((p : Int) + 1).toNat = p + 1 := by omega
            have hlt2 : (p : Int) + 1 < (n : Int) := by omega
            have hnn : (p : Int) < (n : Int) := by omega
            clear hcf hsr hbad hp
            cases n0
            · cases n1
              · have hz := hbad2 rfl rfl
                clear hbad1 hbad2
                go_wp2_with fail
                refine (k0 _).mono ?_
                rintro e w2 ⟨rfl, hw2⟩
                obtain rfl := hw2.symm
                clear hw2
                go_wp2_with fail
                refine (k1 _).mono ?_
                rintro e w2 ⟨rfl, hw2⟩
                obtain rfl := hw2.symm
                clear hw2
                go_wp2_with fail
                go_roundw
                case rel => exact ⟨p + 1, _, rfl, by first | rfl | go_num | omega, .inr (by omega), HWR.out⟩
                case measure => simp [intOf]; omega
              · exact absurd (hbad1 rfl) (by simp)
            · clear hbad1 hbad2
              cases n1
              all_goals
                go_wp2_with fail
                refine (k0 _).mono ?_
                rintro e w2 ⟨rfl, hw2⟩
                obtain rfl := hw2.symm
                clear hw2
                go_wp2_with fail
                refine (k1 _).mono ?_
                rintro e w2 ⟨rfl, hw2⟩
                obtain rfl := hw2.symm
                clear hw2
                go_wp2_with fail
                go_roundw
                case rel => exact ⟨p + 1, _, rfl, by first | rfl | go_num | omega, .inr (by omega), HWR.out⟩
                case measure => simp [intOf]; omega
          · have hge : decide (y < (n : Int)) = false := by simp; omega
            clear hy hlt hp
            go_wp2_with fail
            go_ret
            exact ⟨rfl, by rw [HWR.out]; exact HBW.out⟩
end Go.Proofs.Ytaeolkkbakdlbaa.S12

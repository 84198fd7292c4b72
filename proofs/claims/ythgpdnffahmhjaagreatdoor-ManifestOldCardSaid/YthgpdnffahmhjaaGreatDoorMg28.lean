/- Texts put together: DkL2. -/
import Derived.Test.YthgpdnffahmhjaaGreatDoorMg27
import Derived.Deep.RegionHeld3
set_option linter.unusedSimpArgs false
set_option linter.unusedVariables false
set_option maxRecDepth 100000
namespace Go.Proofs.YthgpdnffahmhjaaGreatDoor.S13
open Go.RowKit Go.Maps Go.Shelf Dk
set_option maxHeartbeats 16000000 in
theorem append_any (l : Lay) (S : St) (n : ByteArray) (v : Value) (B : List Nat) (w : World) (h : IsFS w l S) (hn : n.size ≤ maxLen) (hc : S.calls ≤ 1099511627776) (hv : IsBytes w v B) (hB : B.length ≤ 1000000) (hd : ∀ a m c, v = .slice (some a) m c → 0 < B.length → a.block ≠ l.p) :
    Calls Tryz.prog 51 #[fsP l, .string n, v] w (OpPost l S (append S n.data.toList B) w) := by
  have hb := beginWith_any l S n w h hn hc
  unfold WithPost at hb
  have hok := h.ok
  have hFF := beg_F S
  obtain ⟨a, cap, rfl, hcap, _⟩ := hv.slice
  obtain ⟨hx, hr⟩ | ⟨hx, hnf, hr⟩ | ⟨i, hx, hnf, hr⟩ := withF_cases (S := S) (n := n.data.toList) (f := fun T i => if T.used + B.length > T.room then (T, 4) else (T.put i ((T.file i).1 ++ B, (T.file i).2), 0))
  · change Dk.append S n.data.toList B = _ at hr
    rw [hr]
    rw [hx] at hb
    simp only [if_true, errV] at hb
    clear h hv
    go_enter Tryz.func51, Tryz.ntmps51
    go_wp2_with fail
    refine hb.mono ?_
    rintro e w1 ⟨hs, rfl⟩
    clear hb
    go_wp2_with fail
    go_ret
    exact ⟨rfl, hs.gone (by rw [hFF])⟩
  · change Dk.append S n.data.toList B = _ at hr
    rw [hr]
    rw [hx, hnf] at hb
    simp only [Bool.false_eq_true, if_false, Option.map_none, Option.isNone_none, if_true, errV, ptrO] at hb
    clear h hv
    go_enter Tryz.func51, Tryz.ntmps51
    go_wp2_with fail
    refine hb.mono ?_
    rintro e w1 ⟨hs, rfl⟩
    clear hb
    go_wp2_with fail
    go_ret
    exact ⟨rfl, hs.gone (by rw [hFF])⟩
  · change Dk.append S n.data.toList B = _ at hr
    rw [hr]
    rw [hx, hnf] at hb
    simp only [Bool.false_eq_true, if_false, Option.map_some, Option.isNone_some, errV, ptrO] at hb
    have hi : i < (beg S).1.F.length := by rw [beg_F]; exact hok.now _ (dget_mem hnf)
    have hul := used_le (beg_ok hok)
    have hrm := (beg_ok hok).room
    have hul2 : ∀ p : Nat, (beg S).1.file i = (beg S).1.file i := fun _ => rfl
    have hfl := (file_ok (beg_ok hok) i)
    have hlenU : (beg S).1.used + B.length ≤ (beg S).1.room → ((beg S).1.file i).1.length + B.length ≤ 4194304 := fun h0 => by
      have hm : ((beg S).1.file i).1.length ≤ (beg S).1.used := by
        have hmem := dget_mem hnf
        rw [← beg_now S] at hmem
        unfold St.used
        exact mem_le_sum _ _ (List.mem_map.2 ⟨_, hmem, rfl⟩)
      omega
    have HV := Lib.hid hv
    have HLU := Lib.hid hlenU
    generalize (beg S).1 = T at *
    clear h hv hlenU hul2
    obtain ⟨U, hU⟩ : ∃ U, T.used = U := ⟨_, rfl⟩
    obtain ⟨R, hR⟩ : ∃ R, T.room = R := ⟨_, rfl⟩
    obtain ⟨N, hN⟩ : ∃ N, B.length = N := ⟨_, rfl⟩
    rw [hU] at hul
    rw [hR] at hrm
    rw [hN] at hB hcap
    have HUU := Lib.hid hU
    have HRR := Lib.hid hR
    have HNN := Lib.hid hN
    rw [hU, hR, hN]
    obtain ⟨res, hres⟩ : ∃ res : St × Nat, (if U + N > R then (T, 4) else (T.put i ((T.file i).1 ++ B, (T.file i).2), 0)) = res := ⟨_, rfl⟩
    rw [hres]
    have HRES := Lib.hid hres
    clear hres hr
    obtain ⟨UN, hUN⟩ : ∃ UN, U + N = UN := ⟨_, rfl⟩
    have hUNI : (U : Int) + (N : Int) = (UN : Int) := by omega
    have hwr : IntKind.i64.wrap ((U : Int) + (N : Int)) = (UN : Int) := by
      rw [hUNI, IntKind.wrap_i64]; omega
    have HUN := Lib.hid hUN
    have hUNb : UN ≤ 1000000000 := by omega
    clear hUN hUNI
    go_enter Tryz.func51, Tryz.ntmps51
    go_wp2_with fail
    refine hb.mono ?_
    rintro e w1 ⟨hs, rfl⟩
    clear hb
    have hsz1 : w.heap.size ≤ w1.heap.size := hs.2.out.size
    obtain ⟨wt, _, hk, hc0, _⟩ := hs.1.out.cells
    have HC0 : Hid (∀ W, From w1 W → W.cell? ⟨l.p, 0, none⟩ = some (.int .i64 (R : Nat))) := Lib.hid fun W hW => by
      rw [← hR]
      exact (Below.cell (p := ⟨l.p, 0, none⟩) hW hk.lt).trans hc0
    have HUS : Hid (∀ W, From w1 W → Calls Tryz.prog 84 #[fsP l] W fun e w' => e = .returned (.int .i64 (U : Nat)) ∧ Below W.heap.size W w') := Lib.hid fun W hW => by
      rw [← hU]
      exact used_any l T W (hs.1.out.below hW)
    have HV1 : Hid (IsBytes w1 (.slice a N cap) B) := Lib.hid (by
      have := HV.out.row hs.2.out (fun a' n' c' e h0 e2 => hd a' n' c' e h0 (by simpa using e2))
      rw [hN] at this
      exact this)
    have HS := Lib.hid hs
    clear hs hk hc0 hU hR hN
    go_wp2_with fail
    refine wp_region_noPanic ?_
    have hHeld : From w1 w1.drew := (Below.refl _ _).drew
    refine wpAnyH_start (n := 10) (l := #[false, false, false, false, false, false, false, false, false, false]) (S := From w1) (by kernel_rfl) (hHeld) (by kernel_rfl) (by kernel_rfl) ?_
    refine wpAnyH_take (i := 0) (oi := _) (v := ?_) rfl (by kernel_rfl) (by kernel_rfl) (by kernel_rfl) (fun _ _ _ h => h) (Or.inl ⟨by rfl, ?_⟩) (by assumption) ?_
    rotate_left
    · intro wq hSw; go_simp; try with_reducible rfl
    simp only [Act.put, List.setIfInBounds_toArray, List.set_cons_zero, List.set_cons_succ, List.getElem_toArray, List.getElem_cons_zero, List.getElem_cons_succ]
    refine wpAnyH_take (i := 2) (oi := _) (v := ?_) rfl (by kernel_rfl) (by kernel_rfl) (by kernel_rfl) (fun _ _ _ h => h) (Or.inl ⟨by rfl, ?_⟩) (by assumption) ?_
    rotate_left
    · intro wq hSw; go_simp; try with_reducible rfl
    simp only [Act.put, List.setIfInBounds_toArray, List.set_cons_zero, List.set_cons_succ, List.getElem_toArray, List.getElem_cons_zero, List.getElem_cons_succ]
    refine wpAnyH_take (i := 3) (oi := _) (v := ?_) rfl (by kernel_rfl) (by kernel_rfl) (by kernel_rfl) (fun _ _ _ h => h) (Or.inl ⟨by rfl, ?_⟩) (by assumption) ?_
    rotate_left
    · intro wq hSw; go_simp; try with_reducible rfl
    simp only [Act.put, List.setIfInBounds_toArray, List.set_cons_zero, List.set_cons_succ, List.getElem_toArray, List.getElem_cons_zero, List.getElem_cons_succ]
    refine wpAnyH_take (i := 5) (oi := _) (v := ?_) rfl (by kernel_rfl) (by kernel_rfl) (by kernel_rfl) (fun _ _ _ h => h) (Or.inl ⟨by rfl, ?_⟩) (by assumption) ?_
    rotate_left
    · intro wq hSw; go_simp; try with_reducible rfl
    simp only [Act.put, List.setIfInBounds_toArray, List.set_cons_zero, List.set_cons_succ, List.getElem_toArray, List.getElem_cons_zero, List.getElem_cons_succ]
    refine wpAnyH_take (i := 6) (oi := _) (v := ?_) rfl (by kernel_rfl) (by kernel_rfl) (by kernel_rfl) (fun _ _ _ h => h) (Or.inl ⟨by rfl, ?_⟩) (by assumption) ?_
    rotate_left
    · intro wq hSw; go_simp; try with_reducible rfl
    simp only [Act.put, List.setIfInBounds_toArray, List.set_cons_zero, List.set_cons_succ, List.getElem_toArray, List.getElem_cons_zero, List.getElem_cons_succ]
    refine wpAnyH_take (i := 7) (oi := _) (v := ?_) rfl (by kernel_rfl) (by kernel_rfl) (by kernel_rfl) (fun _ _ _ h => h) (Or.inl ⟨by rfl, ?_⟩) (by assumption) ?_
    rotate_left
    · intro wq hSw; go_simp; try with_reducible rfl
    simp only [Act.put, List.setIfInBounds_toArray, List.set_cons_zero, List.set_cons_succ, List.getElem_toArray, List.getElem_cons_zero, List.getElem_cons_succ]
    refine wpAnyH_take (i := 8) (oi := _) (v := ?_) rfl (by kernel_rfl) (by kernel_rfl) (by kernel_rfl) (fun _ _ _ h => h) (Or.inl ⟨by rfl, ?_⟩) (by assumption) ?_
    rotate_left
    · intro wq hSw; have d0 := HC0.out wq hSw; go_simp; try with_reducible rfl
    simp only [Act.put, List.setIfInBounds_toArray, List.set_cons_zero, List.set_cons_succ, List.getElem_toArray, List.getElem_cons_zero, List.getElem_cons_succ]
    refine wpAnyH_ready (rs := [1]) (by kernel_rfl) (by simp) ?_
    refine AllReadyH.cons (o := _) rfl (fun K hK => ?_) AllReadyH.nil
    simp only [List.getElem_toArray, List.getElem_cons_zero, List.getElem_cons_succ]
    go_simp
    refine (HUS.out _ hHeld).mono ?_
    rintro e w2 ⟨rfl, hb2⟩
    have hE2 : From w1 w2 := From.trans hHeld hb2
    refine hK.out _ _ hE2 (fun _ => ?_)
    clear hK K hb2
    simp only [Act.put, List.setIfInBounds_toArray, List.set_cons_zero, List.set_cons_succ, List.getElem_toArray, List.getElem_cons_zero, List.getElem_cons_succ]
    refine wpAnyH_take (i := 4) (oi := _) (v := ?_) rfl (by kernel_rfl) (by kernel_rfl) (by kernel_rfl) (fun _ _ _ h => h) (Or.inl ⟨by rfl, ?_⟩) (by assumption) ?_
    rotate_left
    · intro wq hSw; go_simp; try with_reducible rfl
    simp only [Act.put, List.setIfInBounds_toArray, List.set_cons_zero, List.set_cons_succ, List.getElem_toArray, List.getElem_cons_zero, List.getElem_cons_succ]
    refine wpAnyH_take (i := 9) (oi := _) (v := ?_) rfl (by kernel_rfl) (by kernel_rfl) (by kernel_rfl) (fun _ _ _ h => h) (Or.inl ⟨by rfl, ?_⟩) (by assumption) ?_
    rotate_left
    · intro wq hSw; go_simp; try with_reducible rfl
    simp only [Act.put, List.setIfInBounds_toArray, List.set_cons_zero, List.set_cons_succ, List.getElem_toArray, List.getElem_cons_zero, List.getElem_cons_succ]
    refine wpAnyH_done (by kernel_rfl) ?_ _
    refine NoPanic.normal ?_
    have HE2 := Lib.hid hE2
    by_cases hbig : U + N > R
    · have hI : decide ((R : Int) < (UN : Int)) = true := by have := HUN.out; simp; omega
      have hN1 : R < UN := by have := HUN.out; omega
      have hN2 : decide (R < UN) = true := by simp; omega
      have hres := HRES.out
      rw [if_pos hbig] at hres
      subst hres
      clear hE2 hHeld HC0
      go_wp2_with fail
      go_ret
      exact ⟨rfl, Gone.trans HS.out (by rw [hFF]) ⟨l, rfl, Lib.hid (HS.out.1.out.below HE2.out), Lib.hid (Step.ofBelow HE2.out _)⟩⟩
    · have hI : decide ((R : Int) < (UN : Int)) = false := by have := HUN.out; simp; omega
      have hN1 : ¬ R < UN := by have := HUN.out; omega
      have hN2 : decide (R < UN) = false := by simp; omega
      have hres := HRES.out
      rw [if_neg hbig] at hres
      subst hres
      have hfi := (HS.out.1.out.below HE2.out).file i hi
      have hlen2 : (T.file i).1.length + N ≤ 4194304 := by
        have := HLU.out (by rw [HUU.out, HNN.out, HRR.out]; omega)
        rw [HNN.out] at this
        exact this
      have c0 : w2.cell? ⟨l.β i, 0, none⟩ = some (l.ν i) := hfi.1.cell rfl
      have HFI := Lib.hid hfi
      obtain ⟨sp0, cp0, hvv, _, _⟩ := hfi.bytes.slice
      rw [hvv] at c0
      have HVV := Lib.hid hvv
      clear hvv
      have HV2 : Hid (IsBytes w2 (.slice a N cap) B) := Lib.hid (HV1.out.below HE2.out)
      obtain ⟨M, hM⟩ : ∃ M, (T.file i).1.length = M := ⟨_, rfl⟩
      rw [hM] at hlen2 c0 HVV
      have HMM := Lib.hid hM
      clear hE2 hHeld HC0 hfi hM
      go_wp2_with (first
        | (at_builtin; refine wpList_append_nigh rfl _ _ rfl (.slice sp0 M cp0) M (T.file i).1 rfl (by have := HFI.out.2.1; rw [HMM.out, HVV.out] at this; exact this) (.slice a N cap) B rfl HV2.out (by rw [HNN.out]; omega) ?_
           intro v' V1 ho hg hnn
           rw [← HVV.out] at hg hnn
           obtain ⟨sp', cp', rfl, _, _⟩ := ownsRow_slice ho
           have hob : (l.ν i).ownBlock ≠ some (l.β i) := blk_own_ne HFI.out.1 HFI.out.2.1 (by decide)
           have hV1 : Blk V1 (l.β i) 64 [l.ν i, .int .i64 ((T.file i).2 : Nat)] := HFI.out.1.grown hg (fun e => hob e.symm)
           have e0 : V1.cell? ⟨l.β i, 0, none⟩ = some (.slice sp0 M cp0) := by rw [← HVV.out]; exact hV1.cell (o := 0) rfl
           have f0 := hV1.frozen 0
           have hfin := append_fin HS.out.1.out HE2.out hi (v' := .slice sp' (M + B.length) cp') (B := B) (by rw [HMM.out]; exact ho) hg hnn HV2.out.1 (by rw [HMM.out, HNN.out]; omega)
           have HFIN := Lib.hid hfin
           clear ho hg hnn hV1 hfin c0)
        | go_in)
      go_ret
      refine ⟨rfl, Gone.trans HS.out (by rw [hFF]) ⟨{ l with ν := upd l.ν i (.slice sp' (M + B.length) cp') }, rfl, Lib.hid HFIN.out.1, Lib.hid ?_⟩⟩
      have e : (T.put i ((T.file i).1 ++ B, (T.file i).2)).F.length = T.F.length := by simp [St.put]
      rw [e]
      exact HFIN.out.2
end Go.Proofs.YthgpdnffahmhjaaGreatDoor.S13

/- Texts put together: RawN. -/
import Derived.Test.YtdjkkohckfndkaaDoorEg8
import Derived.Test.YtdjkkohckfndkaaDoorEg37
set_option linter.unusedSimpArgs false
set_option linter.unusedVariables false
set_option maxRecDepth 100000
namespace Go.Proofs.YtdjkkohckfndkaaDoor.S15
open Go.RowKit S3 S3.Pl _root_.Go.Proofs.YtdjkkohckfndkaaDoor.Pl
def hdB (b : List Nat) : Bool := decide (four (csum (b.take 4)) = (b.drop 4).take 4)
def fitC (a b : List Nat) : Bool := decide (a ≠ b) && (hdB b && (decide (a.take 8 ≠ b.take 8) || decide (four (csum (b.drop 12)) = (b.drop 8).take 4)))
def fitL (old now : List Nat) : Nat → List (List Nat) → Bool
  | _, [] => false
  | t, T :: L => if now.length < t + (12 + T.length) then false else if fitC ((old.drop t).take (12 + T.length)) ((now.drop t).take (12 + T.length)) = true then true else fitL old now (t + (12 + T.length)) L
theorem fitL_step {old now : List Nat} {t i n : Nat} {L : List (List Nat)} (hi : i < L.length) (hn : 12 + (L.getD i []).length = n) : fitL old now t (L.drop i) = if now.length < t + n then false else if fitC ((old.drop t).take n) ((now.drop t).take n) = true then true else fitL old now (t + n) (L.drop (i + 1)) := by
  have e : L.drop i = L.getD i [] :: L.drop (i + 1) := by rw [List.drop_eq_getElem_cons hi]; simp [List.getD, hi]
  rw [e, fitL, hn]
theorem tot_take (L : List (List Nat)) (i : Nat) (hi : i < L.length) : S14.tot (L.take (i + 1)) = S14.tot (L.take i) + (12 + (L.getD i []).length) := by
  induction L generalizing i with
  | nil => simp at hi
  | cons T L ih =>
    cases i with
    | zero => simp [S14.tot]
    | succ i =>
      rw [List.take_succ_cons, List.take_succ_cons, S14.tot, S14.tot, ih i (by simpa using hi)]
      simp only [List.getD_cons_succ]
      omega
theorem tot_take_le (L : List (List Nat)) (i : Nat) : S14.tot (L.take i) ≤ S14.tot L := by
  induction L generalizing i with
  | nil => simp [S14.tot]
  | cons T L ih =>
    cases i with
    | zero => simp [S14.tot]
    | succ i =>
      rw [List.take_succ_cons, S14.tot, S14.tot]
      have := ih i
      omega
attribute [local go_sem ↓] sliceU8_eq conv_eq
set_option maxHeartbeats 32000000 in
theorem fits_any (v1 v2 : Value) (old now : List Nat) (w : World) (h1 : IsBytes w v1 old) (h2 : IsBytes w v2 now) (hl : old.length ≤ 4000000000) (hl2 : now.length ≤ 4000000000) :
    Calls Tryd.prog 14 #[v1, v2] w fun e w' => e = .returned (.bool (fitL old now 0 (pscan old).1)) ∧ Below w.heap.size w w' := by
  have hsc := refScan_any v1 old w h1 hl
  obtain ⟨a1, cap1, rfl, hcap1, hmax1⟩ := h1.slice
  obtain ⟨a2, cap2, rfl, hcap2, hmax2⟩ := h2.slice
  unfold ScanPost at hsc
  obtain ⟨L, hL⟩ : ∃ L, (pscan old).1 = L := ⟨_, rfl⟩
  have htot : S14.tot L ≤ old.length := by rw [← hL, S14.tot_pscan]; exact (S14.pscan_size old).1
  rw [hL] at hsc ⊢
  have H1 := Lib.hid h1
  have H2 := Lib.hid h2
  have HTOT := Lib.hid htot
  obtain ⟨M1, hM1⟩ : ∃ M1, old.length = M1 := ⟨_, rfl⟩
  obtain ⟨M2, hM2⟩ : ∃ M2, now.length = M2 := ⟨_, rfl⟩
  have HM1 := Lib.hid hM1
  have HM2 := Lib.hid hM2
  rw [hM1] at hl hsc ⊢
  have HSC := Lib.hid hsc
  rw [hM2] at hl2 ⊢
  have HLN : Hid (12 * L.length ≤ M1) := Lib.hid (by have := S14.tot_len L; omega)
  clear hsc h1 h2 htot hL hM1 hM2 hcap1 hmax1 hcap2 hmax2
  go_enter Tryd.func14, Tryd.ntmps14
  go_wp2_with fail
  refine HSC.out.mono ?_
  rintro e w1 ⟨v, rfl, hr1, hb1⟩
  have HR1 := Lib.hid hr1
  have HB1 := Lib.hid hb1
  obtain ⟨sp1, cp1, rfl, _, _⟩ := hr1.slice
  clear hr1 hb1 HSC
  have hNb : L.length ≤ 4000000000 := by have := HLN.out; omega
  obtain ⟨N, hN⟩ : ∃ N, L.length = N := ⟨_, rfl⟩
  rw [hN] at hNb ⊢
  have HN := Lib.hid hN
  clear hN
  go_wp2_with fail
  go_loopw [8, 9] (fun x y wr => ∃ i : Nat, i ≤ N ∧ y = .int .i64 i ∧ ∃ t : Nat, x = .int .i64 t ∧ Hid (t = S14.tot (L.take i)) ∧ Hid (fitL old now 0 L = fitL old now t (L.drop i)) ∧ Hid (Below w1.heap.size w1 wr)) (fun x y _ => N - (intOf y).toNat)
  case atStart => exact ⟨0, by omega, rfl, 0, rfl, Lib.hid (by simp [S14.tot]), Lib.hid (by simp), Lib.hid (Below.refl _ _)⟩
  case round =>
    obtain ⟨i, hi, rfl, t, rfl, HT, HF, HB⟩ := hrel
    by_cases hlt : i < N
    · have hiL : i < L.length := by rw [HN.out]; exact hlt
      obtain ⟨b, off, a', c', rfl, hbl, hcell, hIs⟩ := (HR1.out.below HB.out).at hiL
      obtain ⟨T, hT⟩ : ∃ T, L.getD i [] = T := ⟨_, rfl⟩
      rw [hT] at hcell
      obtain ⟨n0, hn0⟩ : ∃ n0, T.length = n0 := ⟨_, rfl⟩
      rw [hn0] at hcell
      obtain ⟨n, hn⟩ : ∃ n, 12 + n0 = n := ⟨_, rfl⟩
      have hnI : (12 : Int) + (n0 : Int) = (n : Int) := by omega
      have hst := fitL_step (n := n) (old := old) (now := now) (t := t) hiL (by rw [hT, hn0]; exact hn)
      have htk := tot_take L i hiL
      rw [hT, hn0, hn, ← HT.out] at htk
      have hle := tot_take_le L (i + 1)
      rw [htk] at hle
      have hle2 : t + n ≤ M1 := by have h8 := HTOT.out; rw [HM1.out] at h8; omega
      have hn12 : 12 ≤ n := by omega
      obtain ⟨m, hm⟩ : ∃ m, t + n = m := ⟨_, rfl⟩
      have hmI : (t : Int) + (n : Int) = (m : Int) := by omega
      have hnw : IntKind.i64.wrap (n : Int) = (n : Int) := by rw [IntKind.wrap_i64]; omega
      have hmw : IntKind.i64.wrap (m : Int) = (m : Int) := by rw [IntKind.wrap_i64]; omega
      have hnw' : IntKind.i64.wrap ((12 : Int) + (n0 : Int)) = (n : Int) := by rw [hnI]; exact hnw
      have hmw' : IntKind.i64.wrap ((t : Int) + (n : Int)) = (m : Int) := by rw [hmI]; exact hmw
      have hmle : m ≤ M1 := by omega
      rw [hm] at hst htk
      have HST := Lib.hid hst
      have HTK := Lib.hid htk
      have HMM := Lib.hid hm
      have HT0 := Lib.hid hT
      clear hIs hT hn0 hn hst htk hle hle2 hm hiL
      by_cases hbig : M2 < m
      · have g1 : decide (M2 < m) = true := by simpa using hbig
        have g2 : decide ((M2 : Int) < (m : Int)) = true := by simpa using hbig
        have HR : Hid (fitL old now 0 L = false) := Lib.hid (by rw [HF.out, HST.out, if_pos (by rw [HM2.out]; exact hbig)])
        clear hbig
        go_wp2_with fail
        go_ret
        exact ⟨by rw [HR.out]; rfl, HB1.out.trans (HB.out.mono HB1.out.size)⟩
      · have g1 : decide (M2 < m) = false := by simp; omega
        have g2 : decide ((M2 : Int) < (m : Int)) = false := by simp; omega
        have HR : Hid (fitL old now 0 L = if fitC ((old.drop t).take n) ((now.drop t).take n) = true then true else fitL old now m (L.drop (i + 1))) := Lib.hid (by rw [HF.out, HST.out, if_neg (by rw [HM2.out]; exact hbig)])
        have hbB : Below w.heap.size w wr := HB1.out.trans (HB.out.mono HB1.out.size)
        have HBB := Lib.hid hbB
        obtain ⟨xa, ca, hsa, hIa⟩ := run_between H1.out t n (by have := HMM.out; have := HM1.out; omega) (m : Int) (by have := HMM.out; omega)
        obtain ⟨xb, cb, hsb, hIb⟩ := run_between H2.out t n (by have := HMM.out; have := HM2.out; omega) (m : Int) (by have := HMM.out; omega)
        rw [HM1.out] at hsa
        rw [HM2.out] at hsb
        obtain ⟨A, hA⟩ : ∃ A, (old.drop t).take n = A := ⟨_, rfl⟩
        obtain ⟨B, hB⟩ : ∃ B, (now.drop t).take n = B := ⟨_, rfl⟩
        have hAl : A.length = n := by rw [← hA, List.length_take, List.length_drop, HM1.out]; have := HMM.out; omega
        have hBl : B.length = n := by rw [← hB, List.length_take, List.length_drop, HM2.out]; have := HMM.out; omega
        rw [hA] at hIa
        rw [hB] at hIb
        have HR : Hid (fitL old now 0 L = if fitC A B = true then true else fitL old now m (L.drop (i + 1))) := Lib.hid (by rw [HR.out, hA, hB])
        have HIA := Lib.hid hIa
        have HIB := Lib.hid hIb
        have HAL := Lib.hid hAl
        have HBL := Lib.hid hBl
        clear hbig HF HST hIa hIb hA hB hbB hAl hBl
        go_wp2_with fail
        go_quiet (fail)
        obtain ⟨W, hW⟩ : ∃ W, wr.drewN nq = W := ⟨_, rfl⟩
        have hbW : Below w.heap.size w W := by rw [← hW]; exact bel_drewN HBB.out nq
        have HBW := Lib.hid hbW
        have HB1W : Hid (Below w1.heap.size w1 W) := Lib.hid (by rw [← hW]; exact bel_drewN HB.out nq)
        rw [hW]
        have HIA := Lib.hid (HIA.out.below hbW)
        have HIB := Lib.hid (HIB.out.below hbW)
        have hva := run_conv HIA.out
        have hvb := run_conv HIB.out
        have hne := str_eqb HIA.out.1 HIB.out.1
        clear hcell hsa hsb hbW hW
        by_cases heq : A = B
        · obtain ⟨SA, hSA⟩ : ∃ SA, str A = SA := ⟨_, rfl⟩
          have hsb2 : str B = SA := by rw [← heq]; exact hSA
          rw [hSA] at hva
          rw [hsb2] at hvb
          have q1 : (SA.toList != SA.toList) = false := by simp
          have HFC : Hid (fitL old now 0 L = fitL old now m (L.drop (i + 1))) := Lib.hid (by rw [HR.out, if_neg (by unfold fitC; rw [heq]; simp)])
          clear hne hsb2 hSA heq HR
          go_wp2_with fail
          go_roundw
          case rel => exact ⟨i + 1, hlt, by go_num, m, by go_num, Lib.hid HTK.out.symm, HFC, HB1W⟩
          case measure => simp [intOf]; omega
        · obtain ⟨SA, hSA⟩ : ∃ SA, str A = SA := ⟨_, rfl⟩
          obtain ⟨SB, hSB⟩ : ∃ SB, str B = SB := ⟨_, rfl⟩
          rw [hSA] at hva hne
          rw [hSB] at hvb hne
          have q1 : (SA.toList != SB.toList) = true := by rw [bne, hne, decide_eq_false heq]; rfl
          have q1' : (SA.toList == SB.toList) = false := by rw [hne, decide_eq_false heq]
          have hB12 : 12 ≤ B.length := by rw [HBL.out]; exact hn12
          have hA12 : 12 ≤ A.length := by rw [HAL.out]; exact hn12
          obtain ⟨a4, c4, hs4, hI4⟩ := run_upto (by rw [← HBL.out] at HIB; exact HIB.out : IsBytes W (.slice xb B.length cb) B) 4 (by omega)
          obtain ⟨a5, c5, hs5, hI5⟩ := run_between (by rw [← HBL.out] at HIB; exact HIB.out : IsBytes W (.slice xb B.length cb) B) 4 4 (by omega) 8 rfl
          rw [HBL.out] at hs4 hs5
          have hs4' : ∀ W, (sliceU8 (.slice xb n cb) none (some (.int .i64 4)) none).run Tryd.prog W = .ok (.slice a4 4 c4) W := hs4
          have hs5' : ∀ W, (sliceU8 (.slice xb n cb) (some (.int .i64 4)) (some (.int .i64 8)) none).run Tryd.prog W = .ok (.slice a5 4 c5) W := hs5
          have HC5 : Hid (∀ W', From W W' → (convS (.slice a5 4 c5)).run Tryd.prog W' = .ok (.string (str ((B.drop 4).take 4))) W') := Lib.hid fun W' h => run_conv (hI5.below h)
          have HI4 := Lib.hid hI4
          have HQ4 := Lib.hid (fun (W' : World) (h : From W W') => refSum_any _ _ W' (HI4.out.below h))
          have HX := Lib.hid HIB.out.1
          have hnh := str_eqb (A := four (csum (B.take 4))) (B := (B.drop 4).take 4) (four_lt _) (take_lt (drop_lt HX.out 4) 4)
          obtain ⟨hd, hhd⟩ : ∃ hd, hdB B = hd := ⟨_, rfl⟩
          have hhd' : decide (four (csum (B.take 4)) = (B.drop 4).take 4) = hd := hhd
          rw [hhd'] at hnh
          have HF4 := Lib.hid (refFour_c (csum (B.take 4)))
          have HHD := Lib.hid hhd
          generalize csum (B.take 4) = C4 at *
          generalize str (four C4) = SF at *
          generalize str ((B.drop 4).take 4) = SH at *
          have HEQ := Lib.hid heq
          clear hhd hhd' hs4 hs5 hI4 hI5 heq hne hSA hSB HI4
          go_wp2_with fail
          have hHeld : From W W.drew := (Below.refl _ _).drew
          refine wp_region_noPanic ?_
          refine wpAnyH_start (n := 10) (l := #[false, false, false, false, false, false, false, false, false, false]) (S := From W) (by kernel_rfl) (hHeld) (by kernel_rfl) (by kernel_rfl) ?_
          refine wpAnyH_take (i := 0) (oi := _) (v := ?_) rfl (by kernel_rfl) (by kernel_rfl) (by kernel_rfl) (fun _ _ _ h => h) (Or.inl ⟨by rfl, ?_⟩) (by assumption) ?_
          rotate_left
          · intro wq hSw; go_simp; try with_reducible rfl
          simp only [Act.put, List.setIfInBounds_toArray, List.set_cons_zero, List.set_cons_succ, List.getElem_toArray, List.getElem_cons_zero, List.getElem_cons_succ]
          refine wpAnyH_take (i := 1) (oi := _) (v := ?_) rfl (by kernel_rfl) (by kernel_rfl) (by kernel_rfl) (fun _ _ _ h => h) (Or.inl ⟨by rfl, ?_⟩) (by assumption) ?_
          rotate_left
          · intro wq hSw; go_simp; try with_reducible rfl
          simp only [Act.put, List.setIfInBounds_toArray, List.set_cons_zero, List.set_cons_succ, List.getElem_toArray, List.getElem_cons_zero, List.getElem_cons_succ]
          refine wpAnyH_take (i := 5) (oi := _) (v := ?_) rfl (by kernel_rfl) (by kernel_rfl) (by kernel_rfl) (fun _ _ _ h => h) (Or.inl ⟨by rfl, ?_⟩) (by assumption) ?_
          rotate_left
          · intro wq hSw; go_simp; try with_reducible rfl
          simp only [Act.put, List.setIfInBounds_toArray, List.set_cons_zero, List.set_cons_succ, List.getElem_toArray, List.getElem_cons_zero, List.getElem_cons_succ]
          refine wpAnyH_take (i := 6) (oi := _) (v := ?_) rfl (by kernel_rfl) (by kernel_rfl) (by kernel_rfl) (fun _ _ _ h => h) (Or.inl ⟨by rfl, ?_⟩) (by assumption) ?_
          rotate_left
          · intro wq hSw; go_simp; try with_reducible rfl
          simp only [Act.put, List.setIfInBounds_toArray, List.set_cons_zero, List.set_cons_succ, List.getElem_toArray, List.getElem_cons_zero, List.getElem_cons_succ]
          refine wpAnyH_take (i := 7) (oi := _) (v := ?_) rfl (by kernel_rfl) (by kernel_rfl) (by kernel_rfl) (fun _ _ _ h => h) (Or.inl ⟨by rfl, ?_⟩) (by assumption) ?_
          rotate_left
          · intro wq hSw; have hcq := HC5.out wq hSw; go_simp; try with_reducible rfl
          simp only [Act.put, List.setIfInBounds_toArray, List.set_cons_zero, List.set_cons_succ, List.getElem_toArray, List.getElem_cons_zero, List.getElem_cons_succ]
          refine wpAnyH_ready (rs := [2]) (by kernel_rfl) (by simp) ?_
          refine AllReadyH.cons (o := _) rfl (fun K hK => ?_) AllReadyH.nil
          simp only [List.getElem_toArray, List.getElem_cons_zero, List.getElem_cons_succ]
          go_simp
          refine (HQ4.out _ hHeld).mono ?_; rintro e w5 ⟨rfl, rfl⟩
          refine hK.out _ _ (hHeld) (fun _ => ?_)
          clear hK K
          simp only [Act.put, List.setIfInBounds_toArray, List.set_cons_zero, List.set_cons_succ, List.getElem_toArray, List.getElem_cons_zero, List.getElem_cons_succ]
          refine wpAnyH_ready (rs := [3]) (by kernel_rfl) (by simp) ?_
          refine AllReadyH.cons (o := _) rfl (fun K hK => ?_) AllReadyH.nil
          simp only [List.getElem_toArray, List.getElem_cons_zero, List.getElem_cons_succ]
          go_simp
          refine (HF4.out _).mono ?_; rintro e w6 ⟨sp6, cap6, rfl, h6, hb6⟩; have hE6 := From.trans hHeld hb6.out
          refine hK.out _ _ (hE6) (fun _ => ?_)
          clear hK K
          have HE6 := Lib.hid hE6
          refine wpAnyH_mono (S' := From w6) (fun w' h => From.trans HE6.out h) ?_
          have hHeld := From.refl w6
          have HC6 := h6
          clear h6 hb6 hE6
          simp only [Act.put, List.setIfInBounds_toArray, List.set_cons_zero, List.set_cons_succ, List.getElem_toArray, List.getElem_cons_zero, List.getElem_cons_succ]
          refine wpAnyH_take (i := 4) (oi := _) (v := ?_) rfl (by kernel_rfl) (by kernel_rfl) (by kernel_rfl) (fun _ _ _ h => h) (Or.inl ⟨by rfl, ?_⟩) (by assumption) ?_
          rotate_left
          · intro wq hSw; have hcq := HC6.out wq hSw; go_simp; try with_reducible rfl
          simp only [Act.put, List.setIfInBounds_toArray, List.set_cons_zero, List.set_cons_succ, List.getElem_toArray, List.getElem_cons_zero, List.getElem_cons_succ]
          refine wpAnyH_take (i := 8) (oi := _) (v := ?_) rfl (by kernel_rfl) (by kernel_rfl) (by kernel_rfl) (fun _ _ _ h => h) (Or.inl ⟨by rfl, ?_⟩) (by assumption) ?_
          rotate_left
          · intro wq hSw; go_simp; try with_reducible rfl
          simp only [Act.put, List.setIfInBounds_toArray, List.set_cons_zero, List.set_cons_succ, List.getElem_toArray, List.getElem_cons_zero, List.getElem_cons_succ]
          refine wpAnyH_take (i := 9) (oi := _) (v := ?_) rfl (by kernel_rfl) (by kernel_rfl) (by kernel_rfl) (fun _ _ _ h => h) (Or.inl ⟨by rfl, ?_⟩) (by assumption) ?_
          rotate_left
          · intro wq hSw; go_simp; try with_reducible rfl
          simp only [Act.put, List.setIfInBounds_toArray, List.set_cons_zero, List.set_cons_succ, List.getElem_toArray, List.getElem_cons_zero, List.getElem_cons_succ]
          refine wpAnyH_done (by kernel_rfl) ?_ _
          refine NoPanic.normal ?_
          clear hs4' hs5' hnh HC5 HQ4 HF4 HC6 hva hvb q1 q1'
          have hW6 : From W w6 := HE6.out
          cases hd with
          | false =>
            have HFC : Hid (fitL old now 0 L = fitL old now m (L.drop (i + 1))) := Lib.hid (by rw [HR.out, if_neg (by unfold fitC; rw [HHD.out]; simp)])
            have HW6 := Lib.hid hW6
            clear hW6 HR
            go_wp2_with fail
            have hHeld : From w6 w6.drew := (Below.refl _ _).drew
            refine wp_region_noPanic ?_
            refine wpAnyH_start (n := 24) (l := #[false, false, false, false, false, false, false, false, false, false, false, false, false, false, false, false, false, false, false, false, false, false, false, false]) (S := From w6) (by kernel_rfl) (hHeld) (by kernel_rfl) (by kernel_rfl) ?_
            refine wpAnyH_take (i := 0) (oi := _) (v := ?_) rfl (by kernel_rfl) (by kernel_rfl) (by kernel_rfl) (fun _ _ _ h => h) (Or.inl ⟨by rfl, ?_⟩) (by assumption) ?_
            rotate_left
            · intro wq hSw; go_simp; try with_reducible rfl
            simp only [Act.put, List.setIfInBounds_toArray, List.set_cons_zero, List.set_cons_succ, List.getElem_toArray, List.getElem_cons_zero, List.getElem_cons_succ]
            refine wpAnyH_take (i := 1) (oi := _) (v := ?_) rfl (by kernel_rfl) (by kernel_rfl) (by kernel_rfl) (fun _ _ _ h => h) (Or.inl ⟨by rfl, ?_⟩) (by assumption) ?_
            rotate_left
            · intro wq hSw; go_simp; try with_reducible rfl
            simp only [Act.put, List.setIfInBounds_toArray, List.set_cons_zero, List.set_cons_succ, List.getElem_toArray, List.getElem_cons_zero, List.getElem_cons_succ]
            refine wpAnyH_take (i := 2) (oi := _) (v := undef) rfl (by kernel_rfl) (by kernel_rfl) (by kernel_rfl) (fun _ _ _ h => h) (Or.inr ⟨by rfl, rfl⟩) (by assumption) ?_
            simp only [Act.put, List.setIfInBounds_toArray, List.set_cons_zero, List.set_cons_succ, List.getElem_toArray, List.getElem_cons_zero, List.getElem_cons_succ]
            refine wpAnyH_take (i := 3) (oi := _) (v := undef) rfl (by kernel_rfl) (by kernel_rfl) (by kernel_rfl) (fun _ _ _ h => h) (Or.inr ⟨by rfl, rfl⟩) (by assumption) ?_
            simp only [Act.put, List.setIfInBounds_toArray, List.set_cons_zero, List.set_cons_succ, List.getElem_toArray, List.getElem_cons_zero, List.getElem_cons_succ]
            refine wpAnyH_take (i := 4) (oi := _) (v := undef) rfl (by kernel_rfl) (by kernel_rfl) (by kernel_rfl) (fun _ _ _ h => h) (Or.inr ⟨by rfl, rfl⟩) (by assumption) ?_
            simp only [Act.put, List.setIfInBounds_toArray, List.set_cons_zero, List.set_cons_succ, List.getElem_toArray, List.getElem_cons_zero, List.getElem_cons_succ]
            refine wpAnyH_take (i := 5) (oi := _) (v := undef) rfl (by kernel_rfl) (by kernel_rfl) (by kernel_rfl) (fun _ _ _ h => h) (Or.inr ⟨by rfl, rfl⟩) (by assumption) ?_
            simp only [Act.put, List.setIfInBounds_toArray, List.set_cons_zero, List.set_cons_succ, List.getElem_toArray, List.getElem_cons_zero, List.getElem_cons_succ]
            refine wpAnyH_take (i := 6) (oi := _) (v := undef) rfl (by kernel_rfl) (by kernel_rfl) (by kernel_rfl) (fun _ _ _ h => h) (Or.inr ⟨by rfl, rfl⟩) (by assumption) ?_
            simp only [Act.put, List.setIfInBounds_toArray, List.set_cons_zero, List.set_cons_succ, List.getElem_toArray, List.getElem_cons_zero, List.getElem_cons_succ]
            refine wpAnyH_take (i := 7) (oi := _) (v := undef) rfl (by kernel_rfl) (by kernel_rfl) (by kernel_rfl) (fun _ _ _ h => h) (Or.inr ⟨by rfl, rfl⟩) (by assumption) ?_
            simp only [Act.put, List.setIfInBounds_toArray, List.set_cons_zero, List.set_cons_succ, List.getElem_toArray, List.getElem_cons_zero, List.getElem_cons_succ]
            refine wpAnyH_take (i := 8) (oi := _) (v := undef) rfl (by kernel_rfl) (by kernel_rfl) (by kernel_rfl) (fun _ _ _ h => h) (Or.inr ⟨by rfl, rfl⟩) (by assumption) ?_
            simp only [Act.put, List.setIfInBounds_toArray, List.set_cons_zero, List.set_cons_succ, List.getElem_toArray, List.getElem_cons_zero, List.getElem_cons_succ]
            refine wpAnyH_take (i := 9) (oi := _) (v := ?_) rfl (by kernel_rfl) (by kernel_rfl) (by kernel_rfl) (fun _ _ _ h => h) (Or.inl ⟨by rfl, ?_⟩) (by assumption) ?_
            rotate_left
            · intro wq hSw; go_simp; try with_reducible rfl
            simp only [Act.put, List.setIfInBounds_toArray, List.set_cons_zero, List.set_cons_succ, List.getElem_toArray, List.getElem_cons_zero, List.getElem_cons_succ]
            refine wpAnyH_take (i := 10) (oi := _) (v := ?_) rfl (by kernel_rfl) (by kernel_rfl) (by kernel_rfl) (fun _ _ _ h => h) (Or.inl ⟨by rfl, ?_⟩) (by assumption) ?_
            rotate_left
            · intro wq hSw; go_simp; try with_reducible rfl
            simp only [Act.put, List.setIfInBounds_toArray, List.set_cons_zero, List.set_cons_succ, List.getElem_toArray, List.getElem_cons_zero, List.getElem_cons_succ]
            refine wpAnyH_take (i := 11) (oi := _) (v := ?_) rfl (by kernel_rfl) (by kernel_rfl) (by kernel_rfl) (fun _ _ _ h => h) (Or.inl ⟨by rfl, ?_⟩) (by assumption) ?_
            rotate_left
            · intro wq hSw; go_simp; try with_reducible rfl
            simp only [Act.put, List.setIfInBounds_toArray, List.set_cons_zero, List.set_cons_succ, List.getElem_toArray, List.getElem_cons_zero, List.getElem_cons_succ]
            refine wpAnyH_take (i := 12) (oi := _) (v := ?_) rfl (by kernel_rfl) (by kernel_rfl) (by kernel_rfl) (fun _ _ _ h => h) (Or.inl ⟨by rfl, ?_⟩) (by assumption) ?_
            rotate_left
            · intro wq hSw; go_simp; try with_reducible rfl
            simp only [Act.put, List.setIfInBounds_toArray, List.set_cons_zero, List.set_cons_succ, List.getElem_toArray, List.getElem_cons_zero, List.getElem_cons_succ]
            refine wpAnyH_take (i := 13) (oi := _) (v := undef) rfl (by kernel_rfl) (by kernel_rfl) (by kernel_rfl) (fun _ _ _ h => h) (Or.inr ⟨by rfl, rfl⟩) (by assumption) ?_
            simp only [Act.put, List.setIfInBounds_toArray, List.set_cons_zero, List.set_cons_succ, List.getElem_toArray, List.getElem_cons_zero, List.getElem_cons_succ]
            refine wpAnyH_take (i := 14) (oi := _) (v := undef) rfl (by kernel_rfl) (by kernel_rfl) (by kernel_rfl) (fun _ _ _ h => h) (Or.inr ⟨by rfl, rfl⟩) (by assumption) ?_
            simp only [Act.put, List.setIfInBounds_toArray, List.set_cons_zero, List.set_cons_succ, List.getElem_toArray, List.getElem_cons_zero, List.getElem_cons_succ]
            refine wpAnyH_take (i := 18) (oi := _) (v := undef) rfl (by kernel_rfl) (by kernel_rfl) (by kernel_rfl) (fun _ _ _ h => h) (Or.inr ⟨by rfl, rfl⟩) (by assumption) ?_
            simp only [Act.put, List.setIfInBounds_toArray, List.set_cons_zero, List.set_cons_succ, List.getElem_toArray, List.getElem_cons_zero, List.getElem_cons_succ]
            refine wpAnyH_take (i := 19) (oi := _) (v := undef) rfl (by kernel_rfl) (by kernel_rfl) (by kernel_rfl) (fun _ _ _ h => h) (Or.inr ⟨by rfl, rfl⟩) (by assumption) ?_
            simp only [Act.put, List.setIfInBounds_toArray, List.set_cons_zero, List.set_cons_succ, List.getElem_toArray, List.getElem_cons_zero, List.getElem_cons_succ]
            refine wpAnyH_take (i := 20) (oi := _) (v := undef) rfl (by kernel_rfl) (by kernel_rfl) (by kernel_rfl) (fun _ _ _ h => h) (Or.inr ⟨by rfl, rfl⟩) (by assumption) ?_
            simp only [Act.put, List.setIfInBounds_toArray, List.set_cons_zero, List.set_cons_succ, List.getElem_toArray, List.getElem_cons_zero, List.getElem_cons_succ]
            refine wpAnyH_take (i := 15) (oi := _) (v := undef) rfl (by kernel_rfl) (by kernel_rfl) (by kernel_rfl) (fun _ _ _ h => h) (Or.inr ⟨by rfl, rfl⟩) (by assumption) ?_
            simp only [Act.put, List.setIfInBounds_toArray, List.set_cons_zero, List.set_cons_succ, List.getElem_toArray, List.getElem_cons_zero, List.getElem_cons_succ]
            refine wpAnyH_take (i := 16) (oi := _) (v := undef) rfl (by kernel_rfl) (by kernel_rfl) (by kernel_rfl) (fun _ _ _ h => h) (Or.inr ⟨by rfl, rfl⟩) (by assumption) ?_
            simp only [Act.put, List.setIfInBounds_toArray, List.set_cons_zero, List.set_cons_succ, List.getElem_toArray, List.getElem_cons_zero, List.getElem_cons_succ]
            refine wpAnyH_take (i := 17) (oi := _) (v := undef) rfl (by kernel_rfl) (by kernel_rfl) (by kernel_rfl) (fun _ _ _ h => h) (Or.inr ⟨by rfl, rfl⟩) (by assumption) ?_
            simp only [Act.put, List.setIfInBounds_toArray, List.set_cons_zero, List.set_cons_succ, List.getElem_toArray, List.getElem_cons_zero, List.getElem_cons_succ]
            refine wpAnyH_take (i := 21) (oi := _) (v := undef) rfl (by kernel_rfl) (by kernel_rfl) (by kernel_rfl) (fun _ _ _ h => h) (Or.inr ⟨by rfl, rfl⟩) (by assumption) ?_
            simp only [Act.put, List.setIfInBounds_toArray, List.set_cons_zero, List.set_cons_succ, List.getElem_toArray, List.getElem_cons_zero, List.getElem_cons_succ]
            refine wpAnyH_take (i := 22) (oi := _) (v := ?_) rfl (by kernel_rfl) (by kernel_rfl) (by kernel_rfl) (fun _ _ _ h => h) (Or.inl ⟨by rfl, ?_⟩) (by assumption) ?_
            rotate_left
            · intro wq hSw; go_simp; try with_reducible rfl
            simp only [Act.put, List.setIfInBounds_toArray, List.set_cons_zero, List.set_cons_succ, List.getElem_toArray, List.getElem_cons_zero, List.getElem_cons_succ]
            refine wpAnyH_take (i := 23) (oi := _) (v := ?_) rfl (by kernel_rfl) (by kernel_rfl) (by kernel_rfl) (fun _ _ _ h => h) (Or.inl ⟨by rfl, ?_⟩) (by assumption) ?_
            rotate_left
            · intro wq hSw; go_simp; try with_reducible rfl
            simp only [Act.put, List.setIfInBounds_toArray, List.set_cons_zero, List.set_cons_succ, List.getElem_toArray, List.getElem_cons_zero, List.getElem_cons_succ]
            refine wpAnyH_done (by kernel_rfl) ?_ _
            refine NoPanic.normal ?_
            clear hHeld
            go_wp2_with fail
            go_roundw
            case rel => exact ⟨i + 1, hlt, by go_num, m, by go_num, Lib.hid HTK.out.symm, HFC, Lib.hid (HB1W.out.trans (Below.mono (HW6.out.drew) HB1W.out.size))⟩
            case measure => simp [intOf]; omega
          | true =>
            have HW6 := Lib.hid hW6
            have HIA6 := Lib.hid (HIA.out.below hW6)
            have HIB6 := Lib.hid (HIB.out.below hW6)
            obtain ⟨a8, c8, hs8, hI8⟩ := run_upto (by rw [← HAL.out] at HIA6; exact HIA6.out : IsBytes w6 (.slice xa A.length ca) A) 8 (by omega)
            obtain ⟨b8, d8, ht8, hJ8⟩ := run_upto (by rw [← HBL.out] at HIB6; exact HIB6.out : IsBytes w6 (.slice xb B.length cb) B) 8 (by omega)
            rw [HAL.out] at hs8
            rw [HBL.out] at ht8
            have hs8' : ∀ W, (sliceU8 (.slice xa n ca) none (some (.int .i64 8)) none).run Tryd.prog W = .ok (.slice a8 8 c8) W := hs8
            have ht8' : ∀ W, (sliceU8 (.slice xb n cb) none (some (.int .i64 8)) none).run Tryd.prog W = .ok (.slice b8 8 d8) W := ht8
            have HCA : Hid (∀ W', From w6 W' → (convS (.slice a8 8 c8)).run Tryd.prog W' = .ok (.string (str (A.take 8))) W') := Lib.hid fun W' h => run_conv (hI8.below h)
            have HCB8 : Hid (∀ W', From w6 W' → (convS (.slice b8 8 d8)).run Tryd.prog W' = .ok (.string (str (B.take 8))) W') := Lib.hid fun W' h => run_conv (hJ8.below h)
            have hn8 := str_eqb (A := A.take 8) (B := B.take 8) (take_lt HIA.out.1 8) (take_lt HIB.out.1 8)
            obtain ⟨z8, hz8⟩ : ∃ z8, decide (A.take 8 = B.take 8) = z8 := ⟨_, rfl⟩
            rw [hz8] at hn8
            have HZ8 := Lib.hid hz8
            generalize str (A.take 8) = S8 at *
            generalize str (B.take 8) = T8 at *
            have q8 : (S8.toList != T8.toList) = !z8 := by rw [bne, hn8]
            clear hs8 ht8 hI8 hJ8 hz8 hW6
            cases z8 with
            | false =>
              have HFC : Hid (fitL old now 0 L = true) := Lib.hid (by
                rw [HR.out, if_pos]
                unfold fitC
                rw [HHD.out, decide_eq_true HEQ.out]
                have h9 : ¬ (A.take 8 = B.take 8) := of_decide_eq_false HZ8.out
                simp [h9])
              have q8 : (S8.toList != T8.toList) = true := q8
              clear HR
              go_wp2_with fail
              have hHeld : From w6 w6.drew := (Below.refl _ _).drew
              refine wp_region_noPanic ?_
              refine wpAnyH_start (n := 24) (l := #[false, false, false, false, false, false, false, false, false, false, false, false, false, false, false, false, false, false, false, false, false, false, false, false]) (S := From w6) (by kernel_rfl) (hHeld) (by kernel_rfl) (by kernel_rfl) ?_
              refine wpAnyH_take (i := 0) (oi := _) (v := ?_) rfl (by kernel_rfl) (by kernel_rfl) (by kernel_rfl) (fun _ _ _ h => h) (Or.inl ⟨by rfl, ?_⟩) (by assumption) ?_
              rotate_left
              · intro wq hSw; go_simp; try with_reducible rfl
              simp only [Act.put, List.setIfInBounds_toArray, List.set_cons_zero, List.set_cons_succ, List.getElem_toArray, List.getElem_cons_zero, List.getElem_cons_succ]
              refine wpAnyH_take (i := 1) (oi := _) (v := ?_) rfl (by kernel_rfl) (by kernel_rfl) (by kernel_rfl) (fun _ _ _ h => h) (Or.inl ⟨by rfl, ?_⟩) (by assumption) ?_
              rotate_left
              · intro wq hSw; go_simp; try with_reducible rfl
              simp only [Act.put, List.setIfInBounds_toArray, List.set_cons_zero, List.set_cons_succ, List.getElem_toArray, List.getElem_cons_zero, List.getElem_cons_succ]
              refine wpAnyH_take (i := 2) (oi := _) (v := ?_) rfl (by kernel_rfl) (by kernel_rfl) (by kernel_rfl) (fun _ _ _ h => h) (Or.inl ⟨by rfl, ?_⟩) (by assumption) ?_
              rotate_left
              · intro wq hSw; go_simp; try with_reducible rfl
              simp only [Act.put, List.setIfInBounds_toArray, List.set_cons_zero, List.set_cons_succ, List.getElem_toArray, List.getElem_cons_zero, List.getElem_cons_succ]
              refine wpAnyH_take (i := 3) (oi := _) (v := ?_) rfl (by kernel_rfl) (by kernel_rfl) (by kernel_rfl) (fun _ _ _ h => h) (Or.inl ⟨by rfl, ?_⟩) (by assumption) ?_
              rotate_left
              · intro wq hSw; go_simp; try with_reducible rfl
              simp only [Act.put, List.setIfInBounds_toArray, List.set_cons_zero, List.set_cons_succ, List.getElem_toArray, List.getElem_cons_zero, List.getElem_cons_succ]
              refine wpAnyH_take (i := 4) (oi := _) (v := ?_) rfl (by kernel_rfl) (by kernel_rfl) (by kernel_rfl) (fun _ _ _ h => h) (Or.inl ⟨by rfl, ?_⟩) (by assumption) ?_
              rotate_left
              · intro wq hSw; have hcq := HCA.out wq hSw; go_simp; try with_reducible rfl
              simp only [Act.put, List.setIfInBounds_toArray, List.set_cons_zero, List.set_cons_succ, List.getElem_toArray, List.getElem_cons_zero, List.getElem_cons_succ]
              refine wpAnyH_take (i := 5) (oi := _) (v := ?_) rfl (by kernel_rfl) (by kernel_rfl) (by kernel_rfl) (fun _ _ _ h => h) (Or.inl ⟨by rfl, ?_⟩) (by assumption) ?_
              rotate_left
              · intro wq hSw; go_simp; try with_reducible rfl
              simp only [Act.put, List.setIfInBounds_toArray, List.set_cons_zero, List.set_cons_succ, List.getElem_toArray, List.getElem_cons_zero, List.getElem_cons_succ]
              refine wpAnyH_take (i := 6) (oi := _) (v := ?_) rfl (by kernel_rfl) (by kernel_rfl) (by kernel_rfl) (fun _ _ _ h => h) (Or.inl ⟨by rfl, ?_⟩) (by assumption) ?_
              rotate_left
              · intro wq hSw; go_simp; try with_reducible rfl
              simp only [Act.put, List.setIfInBounds_toArray, List.set_cons_zero, List.set_cons_succ, List.getElem_toArray, List.getElem_cons_zero, List.getElem_cons_succ]
              refine wpAnyH_take (i := 7) (oi := _) (v := ?_) rfl (by kernel_rfl) (by kernel_rfl) (by kernel_rfl) (fun _ _ _ h => h) (Or.inl ⟨by rfl, ?_⟩) (by assumption) ?_
              rotate_left
              · intro wq hSw; have hcq := HCB8.out wq hSw; go_simp; try with_reducible rfl
              simp only [Act.put, List.setIfInBounds_toArray, List.set_cons_zero, List.set_cons_succ, List.getElem_toArray, List.getElem_cons_zero, List.getElem_cons_succ]
              refine wpAnyH_take (i := 8) (oi := _) (v := ?_) rfl (by kernel_rfl) (by kernel_rfl) (by kernel_rfl) (fun _ _ _ h => h) (Or.inl ⟨by rfl, ?_⟩) (by assumption) ?_
              rotate_left
              · intro wq hSw; go_simp; try with_reducible rfl
              simp only [Act.put, List.setIfInBounds_toArray, List.set_cons_zero, List.set_cons_succ, List.getElem_toArray, List.getElem_cons_zero, List.getElem_cons_succ]
              refine wpAnyH_take (i := 9) (oi := _) (v := ?_) rfl (by kernel_rfl) (by kernel_rfl) (by kernel_rfl) (fun _ _ _ h => h) (Or.inl ⟨by rfl, ?_⟩) (by assumption) ?_
              rotate_left
              · intro wq hSw; go_simp; try with_reducible rfl
              simp only [Act.put, List.setIfInBounds_toArray, List.set_cons_zero, List.set_cons_succ, List.getElem_toArray, List.getElem_cons_zero, List.getElem_cons_succ]
              refine wpAnyH_take (i := 10) (oi := _) (v := ?_) rfl (by kernel_rfl) (by kernel_rfl) (by kernel_rfl) (fun _ _ _ h => h) (Or.inl ⟨by rfl, ?_⟩) (by assumption) ?_
              rotate_left
              · intro wq hSw; go_simp; try with_reducible rfl
              simp only [Act.put, List.setIfInBounds_toArray, List.set_cons_zero, List.set_cons_succ, List.getElem_toArray, List.getElem_cons_zero, List.getElem_cons_succ]
              refine wpAnyH_take (i := 11) (oi := _) (v := undef) rfl (by kernel_rfl) (by kernel_rfl) (by kernel_rfl) (fun _ _ _ h => h) (Or.inr ⟨by rfl, rfl⟩) (by assumption) ?_
              simp only [Act.put, List.setIfInBounds_toArray, List.set_cons_zero, List.set_cons_succ, List.getElem_toArray, List.getElem_cons_zero, List.getElem_cons_succ]
              refine wpAnyH_take (i := 12) (oi := _) (v := undef) rfl (by kernel_rfl) (by kernel_rfl) (by kernel_rfl) (fun _ _ _ h => h) (Or.inr ⟨by rfl, rfl⟩) (by assumption) ?_
              simp only [Act.put, List.setIfInBounds_toArray, List.set_cons_zero, List.set_cons_succ, List.getElem_toArray, List.getElem_cons_zero, List.getElem_cons_succ]
              refine wpAnyH_take (i := 13) (oi := _) (v := undef) rfl (by kernel_rfl) (by kernel_rfl) (by kernel_rfl) (fun _ _ _ h => h) (Or.inr ⟨by rfl, rfl⟩) (by assumption) ?_
              simp only [Act.put, List.setIfInBounds_toArray, List.set_cons_zero, List.set_cons_succ, List.getElem_toArray, List.getElem_cons_zero, List.getElem_cons_succ]
              refine wpAnyH_take (i := 14) (oi := _) (v := undef) rfl (by kernel_rfl) (by kernel_rfl) (by kernel_rfl) (fun _ _ _ h => h) (Or.inr ⟨by rfl, rfl⟩) (by assumption) ?_
              simp only [Act.put, List.setIfInBounds_toArray, List.set_cons_zero, List.set_cons_succ, List.getElem_toArray, List.getElem_cons_zero, List.getElem_cons_succ]
              refine wpAnyH_take (i := 18) (oi := _) (v := undef) rfl (by kernel_rfl) (by kernel_rfl) (by kernel_rfl) (fun _ _ _ h => h) (Or.inr ⟨by rfl, rfl⟩) (by assumption) ?_
              simp only [Act.put, List.setIfInBounds_toArray, List.set_cons_zero, List.set_cons_succ, List.getElem_toArray, List.getElem_cons_zero, List.getElem_cons_succ]
              refine wpAnyH_take (i := 19) (oi := _) (v := undef) rfl (by kernel_rfl) (by kernel_rfl) (by kernel_rfl) (fun _ _ _ h => h) (Or.inr ⟨by rfl, rfl⟩) (by assumption) ?_
              simp only [Act.put, List.setIfInBounds_toArray, List.set_cons_zero, List.set_cons_succ, List.getElem_toArray, List.getElem_cons_zero, List.getElem_cons_succ]
              refine wpAnyH_take (i := 20) (oi := _) (v := undef) rfl (by kernel_rfl) (by kernel_rfl) (by kernel_rfl) (fun _ _ _ h => h) (Or.inr ⟨by rfl, rfl⟩) (by assumption) ?_
              simp only [Act.put, List.setIfInBounds_toArray, List.set_cons_zero, List.set_cons_succ, List.getElem_toArray, List.getElem_cons_zero, List.getElem_cons_succ]
              refine wpAnyH_take (i := 15) (oi := _) (v := undef) rfl (by kernel_rfl) (by kernel_rfl) (by kernel_rfl) (fun _ _ _ h => h) (Or.inr ⟨by rfl, rfl⟩) (by assumption) ?_
              simp only [Act.put, List.setIfInBounds_toArray, List.set_cons_zero, List.set_cons_succ, List.getElem_toArray, List.getElem_cons_zero, List.getElem_cons_succ]
              refine wpAnyH_take (i := 16) (oi := _) (v := undef) rfl (by kernel_rfl) (by kernel_rfl) (by kernel_rfl) (fun _ _ _ h => h) (Or.inr ⟨by rfl, rfl⟩) (by assumption) ?_
              simp only [Act.put, List.setIfInBounds_toArray, List.set_cons_zero, List.set_cons_succ, List.getElem_toArray, List.getElem_cons_zero, List.getElem_cons_succ]
              refine wpAnyH_take (i := 17) (oi := _) (v := undef) rfl (by kernel_rfl) (by kernel_rfl) (by kernel_rfl) (fun _ _ _ h => h) (Or.inr ⟨by rfl, rfl⟩) (by assumption) ?_
              simp only [Act.put, List.setIfInBounds_toArray, List.set_cons_zero, List.set_cons_succ, List.getElem_toArray, List.getElem_cons_zero, List.getElem_cons_succ]
              refine wpAnyH_take (i := 21) (oi := _) (v := undef) rfl (by kernel_rfl) (by kernel_rfl) (by kernel_rfl) (fun _ _ _ h => h) (Or.inr ⟨by rfl, rfl⟩) (by assumption) ?_
              simp only [Act.put, List.setIfInBounds_toArray, List.set_cons_zero, List.set_cons_succ, List.getElem_toArray, List.getElem_cons_zero, List.getElem_cons_succ]
              refine wpAnyH_take (i := 22) (oi := _) (v := undef) rfl (by kernel_rfl) (by kernel_rfl) (by kernel_rfl) (fun _ _ _ h => h) (Or.inr ⟨by rfl, rfl⟩) (by assumption) ?_
              simp only [Act.put, List.setIfInBounds_toArray, List.set_cons_zero, List.set_cons_succ, List.getElem_toArray, List.getElem_cons_zero, List.getElem_cons_succ]
              refine wpAnyH_take (i := 23) (oi := _) (v := ?_) rfl (by kernel_rfl) (by kernel_rfl) (by kernel_rfl) (fun _ _ _ h => h) (Or.inl ⟨by rfl, ?_⟩) (by assumption) ?_
              rotate_left
              · intro wq hSw; go_simp; try with_reducible rfl
              simp only [Act.put, List.setIfInBounds_toArray, List.set_cons_zero, List.set_cons_succ, List.getElem_toArray, List.getElem_cons_zero, List.getElem_cons_succ]
              refine wpAnyH_done (by kernel_rfl) ?_ _
              refine NoPanic.normal ?_
              clear hHeld
              go_wp2_with fail
              go_ret
              exact ⟨by rw [HFC.out]; rfl, HBW.out.trans (Below.mono (HW6.out.drew) HBW.out.size)⟩
            | true =>
              have q8 : (S8.toList != T8.toList) = false := q8
              obtain ⟨a12, c12, hs12, hI12⟩ := run_from (by rw [← HBL.out] at HIB6; exact HIB6.out : IsBytes w6 (.slice xb B.length cb) B) 12 (by omega)
              obtain ⟨a9, c9, hs9, hI9⟩ := run_between (by rw [← HBL.out] at HIB6; exact HIB6.out : IsBytes w6 (.slice xb B.length cb) B) 8 4 (by omega) 12 rfl
              rw [HBL.out] at hs12 hs9 hI12
              have hs12' : ∀ W, (sliceU8 (.slice xb n cb) (some (.int .i64 12)) none none).run Tryd.prog W = .ok (.slice a12 (n - 12) c12) W := hs12
              have hs9' : ∀ W, (sliceU8 (.slice xb n cb) (some (.int .i64 8)) (some (.int .i64 12)) none).run Tryd.prog W = .ok (.slice a9 4 c9) W := hs9
              have HCD : Hid (∀ W', From w6 W' → (convS (.slice a9 4 c9)).run Tryd.prog W' = .ok (.string (str ((B.drop 8).take 4))) W') := Lib.hid fun W' h => run_conv (hI9.below h)
              have HI12 := Lib.hid hI12
              have HQD := Lib.hid (fun (W' : World) (h : From w6 W') => refSum_any _ _ W' (HI12.out.below h))
              have hnd := str_eqb (A := four (csum (B.drop 12))) (B := (B.drop 8).take 4) (four_lt _) (take_lt (drop_lt HX.out 8) 4)
              obtain ⟨zd, hzd⟩ : ∃ zd, decide (four (csum (B.drop 12)) = (B.drop 8).take 4) = zd := ⟨_, rfl⟩
              rw [hzd] at hnd
              have HZD := Lib.hid hzd
              have HFD := Lib.hid (refFour_c (csum (B.drop 12)))
              have HF0 : Hid (fitL old now 0 L = if zd = true then true else fitL old now m (L.drop (i + 1))) := Lib.hid (by
                rw [HR.out]
                have h9 : A.take 8 = B.take 8 := of_decide_eq_true HZ8.out
                have hfc : fitC A B = zd := by
                  unfold fitC
                  rw [HHD.out, decide_eq_true HEQ.out, hzd, h9]
                  simp
                rw [hfc])
              generalize csum (B.drop 12) = C5 at *
              generalize str (four C5) = SFD at *
              generalize str ((B.drop 8).take 4) = SHD at *
              obtain ⟨nd, hnd12⟩ : ∃ nd, n - 12 = nd := ⟨_, rfl⟩
              rw [hnd12] at hs12' HQD
              clear hs12 hs9 hI12 hI9 hzd HR hnd12 HI12
              go_wp2_with fail
              have hHeld : From w6 w6.drew := (Below.refl _ _).drew
              refine wp_region_noPanic ?_
              refine wpAnyH_start (n := 24) (l := #[false, false, false, false, false, false, false, false, false, false, false, false, false, false, false, false, false, false, false, false, false, false, false, false]) (S := From w6) (by kernel_rfl) (hHeld) (by kernel_rfl) (by kernel_rfl) ?_
              refine wpAnyH_take (i := 0) (oi := _) (v := ?_) rfl (by kernel_rfl) (by kernel_rfl) (by kernel_rfl) (fun _ _ _ h => h) (Or.inl ⟨by rfl, ?_⟩) (by assumption) ?_
              rotate_left
              · intro wq hSw; go_simp; try with_reducible rfl
              simp only [Act.put, List.setIfInBounds_toArray, List.set_cons_zero, List.set_cons_succ, List.getElem_toArray, List.getElem_cons_zero, List.getElem_cons_succ]
              refine wpAnyH_take (i := 1) (oi := _) (v := ?_) rfl (by kernel_rfl) (by kernel_rfl) (by kernel_rfl) (fun _ _ _ h => h) (Or.inl ⟨by rfl, ?_⟩) (by assumption) ?_
              rotate_left
              · intro wq hSw; go_simp; try with_reducible rfl
              simp only [Act.put, List.setIfInBounds_toArray, List.set_cons_zero, List.set_cons_succ, List.getElem_toArray, List.getElem_cons_zero, List.getElem_cons_succ]
              refine wpAnyH_take (i := 2) (oi := _) (v := ?_) rfl (by kernel_rfl) (by kernel_rfl) (by kernel_rfl) (fun _ _ _ h => h) (Or.inl ⟨by rfl, ?_⟩) (by assumption) ?_
              rotate_left
              · intro wq hSw; go_simp; try with_reducible rfl
              simp only [Act.put, List.setIfInBounds_toArray, List.set_cons_zero, List.set_cons_succ, List.getElem_toArray, List.getElem_cons_zero, List.getElem_cons_succ]
              refine wpAnyH_take (i := 3) (oi := _) (v := ?_) rfl (by kernel_rfl) (by kernel_rfl) (by kernel_rfl) (fun _ _ _ h => h) (Or.inl ⟨by rfl, ?_⟩) (by assumption) ?_
              rotate_left
              · intro wq hSw; go_simp; try with_reducible rfl
              simp only [Act.put, List.setIfInBounds_toArray, List.set_cons_zero, List.set_cons_succ, List.getElem_toArray, List.getElem_cons_zero, List.getElem_cons_succ]
              refine wpAnyH_take (i := 4) (oi := _) (v := ?_) rfl (by kernel_rfl) (by kernel_rfl) (by kernel_rfl) (fun _ _ _ h => h) (Or.inl ⟨by rfl, ?_⟩) (by assumption) ?_
              rotate_left
              · intro wq hSw; have hcq := HCA.out wq hSw; go_simp; try with_reducible rfl
              simp only [Act.put, List.setIfInBounds_toArray, List.set_cons_zero, List.set_cons_succ, List.getElem_toArray, List.getElem_cons_zero, List.getElem_cons_succ]
              refine wpAnyH_take (i := 5) (oi := _) (v := ?_) rfl (by kernel_rfl) (by kernel_rfl) (by kernel_rfl) (fun _ _ _ h => h) (Or.inl ⟨by rfl, ?_⟩) (by assumption) ?_
              rotate_left
              · intro wq hSw; go_simp; try with_reducible rfl
              simp only [Act.put, List.setIfInBounds_toArray, List.set_cons_zero, List.set_cons_succ, List.getElem_toArray, List.getElem_cons_zero, List.getElem_cons_succ]
              refine wpAnyH_take (i := 6) (oi := _) (v := ?_) rfl (by kernel_rfl) (by kernel_rfl) (by kernel_rfl) (fun _ _ _ h => h) (Or.inl ⟨by rfl, ?_⟩) (by assumption) ?_
              rotate_left
              · intro wq hSw; go_simp; try with_reducible rfl
              simp only [Act.put, List.setIfInBounds_toArray, List.set_cons_zero, List.set_cons_succ, List.getElem_toArray, List.getElem_cons_zero, List.getElem_cons_succ]
              refine wpAnyH_take (i := 7) (oi := _) (v := ?_) rfl (by kernel_rfl) (by kernel_rfl) (by kernel_rfl) (fun _ _ _ h => h) (Or.inl ⟨by rfl, ?_⟩) (by assumption) ?_
              rotate_left
              · intro wq hSw; have hcq := HCB8.out wq hSw; go_simp; try with_reducible rfl
              simp only [Act.put, List.setIfInBounds_toArray, List.set_cons_zero, List.set_cons_succ, List.getElem_toArray, List.getElem_cons_zero, List.getElem_cons_succ]
              refine wpAnyH_take (i := 8) (oi := _) (v := ?_) rfl (by kernel_rfl) (by kernel_rfl) (by kernel_rfl) (fun _ _ _ h => h) (Or.inl ⟨by rfl, ?_⟩) (by assumption) ?_
              rotate_left
              · intro wq hSw; go_simp; try with_reducible rfl
              simp only [Act.put, List.setIfInBounds_toArray, List.set_cons_zero, List.set_cons_succ, List.getElem_toArray, List.getElem_cons_zero, List.getElem_cons_succ]
              refine wpAnyH_take (i := 9) (oi := _) (v := ?_) rfl (by kernel_rfl) (by kernel_rfl) (by kernel_rfl) (fun _ _ _ h => h) (Or.inl ⟨by rfl, ?_⟩) (by assumption) ?_
              rotate_left
              · intro wq hSw; go_simp; try with_reducible rfl
              simp only [Act.put, List.setIfInBounds_toArray, List.set_cons_zero, List.set_cons_succ, List.getElem_toArray, List.getElem_cons_zero, List.getElem_cons_succ]
              refine wpAnyH_take (i := 10) (oi := _) (v := ?_) rfl (by kernel_rfl) (by kernel_rfl) (by kernel_rfl) (fun _ _ _ h => h) (Or.inl ⟨by rfl, ?_⟩) (by assumption) ?_
              rotate_left
              · intro wq hSw; go_simp; try with_reducible rfl
              simp only [Act.put, List.setIfInBounds_toArray, List.set_cons_zero, List.set_cons_succ, List.getElem_toArray, List.getElem_cons_zero, List.getElem_cons_succ]
              refine wpAnyH_take (i := 11) (oi := _) (v := ?_) rfl (by kernel_rfl) (by kernel_rfl) (by kernel_rfl) (fun _ _ _ h => h) (Or.inl ⟨by rfl, ?_⟩) (by assumption) ?_
              rotate_left
              · intro wq hSw; go_simp; try with_reducible rfl
              simp only [Act.put, List.setIfInBounds_toArray, List.set_cons_zero, List.set_cons_succ, List.getElem_toArray, List.getElem_cons_zero, List.getElem_cons_succ]
              refine wpAnyH_take (i := 12) (oi := _) (v := ?_) rfl (by kernel_rfl) (by kernel_rfl) (by kernel_rfl) (fun _ _ _ h => h) (Or.inl ⟨by rfl, ?_⟩) (by assumption) ?_
              rotate_left
              · intro wq hSw; go_simp; try with_reducible rfl
              simp only [Act.put, List.setIfInBounds_toArray, List.set_cons_zero, List.set_cons_succ, List.getElem_toArray, List.getElem_cons_zero, List.getElem_cons_succ]
              refine wpAnyH_take (i := 13) (oi := _) (v := ?_) rfl (by kernel_rfl) (by kernel_rfl) (by kernel_rfl) (fun _ _ _ h => h) (Or.inl ⟨by rfl, ?_⟩) (by assumption) ?_
              rotate_left
              · intro wq hSw; go_simp; try with_reducible rfl
              simp only [Act.put, List.setIfInBounds_toArray, List.set_cons_zero, List.set_cons_succ, List.getElem_toArray, List.getElem_cons_zero, List.getElem_cons_succ]
              refine wpAnyH_take (i := 14) (oi := _) (v := ?_) rfl (by kernel_rfl) (by kernel_rfl) (by kernel_rfl) (fun _ _ _ h => h) (Or.inl ⟨by rfl, ?_⟩) (by assumption) ?_
              rotate_left
              · intro wq hSw; go_simp; try with_reducible rfl
              simp only [Act.put, List.setIfInBounds_toArray, List.set_cons_zero, List.set_cons_succ, List.getElem_toArray, List.getElem_cons_zero, List.getElem_cons_succ]
              refine wpAnyH_take (i := 18) (oi := _) (v := ?_) rfl (by kernel_rfl) (by kernel_rfl) (by kernel_rfl) (fun _ _ _ h => h) (Or.inl ⟨by rfl, ?_⟩) (by assumption) ?_
              rotate_left
              · intro wq hSw; go_simp; try with_reducible rfl
              simp only [Act.put, List.setIfInBounds_toArray, List.set_cons_zero, List.set_cons_succ, List.getElem_toArray, List.getElem_cons_zero, List.getElem_cons_succ]
              refine wpAnyH_take (i := 19) (oi := _) (v := ?_) rfl (by kernel_rfl) (by kernel_rfl) (by kernel_rfl) (fun _ _ _ h => h) (Or.inl ⟨by rfl, ?_⟩) (by assumption) ?_
              rotate_left
              · intro wq hSw; go_simp; try with_reducible rfl
              simp only [Act.put, List.setIfInBounds_toArray, List.set_cons_zero, List.set_cons_succ, List.getElem_toArray, List.getElem_cons_zero, List.getElem_cons_succ]
              refine wpAnyH_take (i := 20) (oi := _) (v := ?_) rfl (by kernel_rfl) (by kernel_rfl) (by kernel_rfl) (fun _ _ _ h => h) (Or.inl ⟨by rfl, ?_⟩) (by assumption) ?_
              rotate_left
              · intro wq hSw; have hcq := HCD.out wq hSw; go_simp; try with_reducible rfl
              simp only [Act.put, List.setIfInBounds_toArray, List.set_cons_zero, List.set_cons_succ, List.getElem_toArray, List.getElem_cons_zero, List.getElem_cons_succ]
              refine wpAnyH_ready (rs := [15]) (by kernel_rfl) (by simp) ?_
              refine AllReadyH.cons (o := _) rfl (fun K hK => ?_) AllReadyH.nil
              simp only [List.getElem_toArray, List.getElem_cons_zero, List.getElem_cons_succ]
              go_simp
              refine (HQD.out _ hHeld).mono ?_; rintro e w7 ⟨rfl, rfl⟩
              refine hK.out _ _ (hHeld) (fun _ => ?_)
              clear hK K
              simp only [Act.put, List.setIfInBounds_toArray, List.set_cons_zero, List.set_cons_succ, List.getElem_toArray, List.getElem_cons_zero, List.getElem_cons_succ]
              refine wpAnyH_ready (rs := [16]) (by kernel_rfl) (by simp) ?_
              refine AllReadyH.cons (o := _) rfl (fun K hK => ?_) AllReadyH.nil
              simp only [List.getElem_toArray, List.getElem_cons_zero, List.getElem_cons_succ]
              go_simp
              refine (HFD.out _).mono ?_; rintro e w8 ⟨sp8, cap8, rfl, h8, hb8⟩; have hE8 := From.trans hHeld hb8.out
              refine hK.out _ _ (hE8) (fun _ => ?_)
              clear hK K
              have HE8 := Lib.hid hE8
              refine wpAnyH_mono (S' := From w8) (fun w' h => From.trans HE8.out h) ?_
              have hHeld := From.refl w8
              have HC8 := h8
              clear h8 hb8 hE8
              simp only [Act.put, List.setIfInBounds_toArray, List.set_cons_zero, List.set_cons_succ, List.getElem_toArray, List.getElem_cons_zero, List.getElem_cons_succ]
              refine wpAnyH_take (i := 17) (oi := _) (v := ?_) rfl (by kernel_rfl) (by kernel_rfl) (by kernel_rfl) (fun _ _ _ h => h) (Or.inl ⟨by rfl, ?_⟩) (by assumption) ?_
              rotate_left
              · intro wq hSw; have hcq := HC8.out wq hSw; go_simp; try with_reducible rfl
              simp only [Act.put, List.setIfInBounds_toArray, List.set_cons_zero, List.set_cons_succ, List.getElem_toArray, List.getElem_cons_zero, List.getElem_cons_succ]
              refine wpAnyH_take (i := 21) (oi := _) (v := ?_) rfl (by kernel_rfl) (by kernel_rfl) (by kernel_rfl) (fun _ _ _ h => h) (Or.inl ⟨by rfl, ?_⟩) (by assumption) ?_
              rotate_left
              · intro wq hSw; go_simp; try with_reducible rfl
              simp only [Act.put, List.setIfInBounds_toArray, List.set_cons_zero, List.set_cons_succ, List.getElem_toArray, List.getElem_cons_zero, List.getElem_cons_succ]
              refine wpAnyH_take (i := 22) (oi := _) (v := ?_) rfl (by kernel_rfl) (by kernel_rfl) (by kernel_rfl) (fun _ _ _ h => h) (Or.inl ⟨by rfl, ?_⟩) (by assumption) ?_
              rotate_left
              · intro wq hSw; go_simp; try with_reducible rfl
              simp only [Act.put, List.setIfInBounds_toArray, List.set_cons_zero, List.set_cons_succ, List.getElem_toArray, List.getElem_cons_zero, List.getElem_cons_succ]
              refine wpAnyH_take (i := 23) (oi := _) (v := ?_) rfl (by kernel_rfl) (by kernel_rfl) (by kernel_rfl) (fun _ _ _ h => h) (Or.inl ⟨by rfl, ?_⟩) (by assumption) ?_
              rotate_left
              · intro wq hSw; go_simp; try with_reducible rfl
              simp only [Act.put, List.setIfInBounds_toArray, List.set_cons_zero, List.set_cons_succ, List.getElem_toArray, List.getElem_cons_zero, List.getElem_cons_succ]
              refine wpAnyH_done (by kernel_rfl) ?_ _
              refine NoPanic.normal ?_
              have HW8 := Lib.hid (From.trans HW6.out HE8.out)
              cases zd with
              | false =>
                have HFC : Hid (fitL old now 0 L = fitL old now m (L.drop (i + 1))) := Lib.hid (by rw [HF0.out, if_neg (by simp)])
                clear HF0
                clear hHeld
                go_wp2_with fail
                go_roundw
                case rel => exact ⟨i + 1, hlt, by go_num, m, by go_num, Lib.hid HTK.out.symm, HFC, Lib.hid (HB1W.out.trans (Below.mono HW8.out HB1W.out.size))⟩
                case measure => simp [intOf]; omega
              | true =>
                have HFC : Hid (fitL old now 0 L = true) := Lib.hid (by rw [HF0.out, if_pos rfl])
                clear HF0
                clear hHeld
                go_wp2_with fail
                go_ret
                exact ⟨by rw [HFC.out]; rfl, HBW.out.trans (Below.mono HW8.out HBW.out.size)⟩
    · have g1 : decide (i < N) = false := by simp; omega
      have g2 : decide ((i : Int) < (N : Int)) = false := by simp; omega
      have HR : Hid (fitL old now 0 L = false) := Lib.hid (by
        rw [HF.out, List.drop_eq_nil_of_le (by have := HN.out; omega)]
        rfl)
      clear hlt
      go_wp2_with fail
      go_ret
      exact ⟨by rw [HR.out]; rfl, HB1.out.trans (HB.out.mono HB1.out.size)⟩
end Go.Proofs.YtdjkkohckfndkaaDoor.S15

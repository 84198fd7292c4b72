/- CrcScan, walked. -/
import Derived.Test.YtoajgeemkmfboaaDoorCrcO
set_option linter.unusedSimpArgs false
set_option linter.unusedVariables false
namespace Go.Proofs.YtoajgeemkmfboaaDoor
open Go.RowKit Pl

namespace Pl
theorem pscan_none {B : List Nat} (h : (pscan B).1 = []) : (pscan B).2.1 = 0 := by
  by_cases h1 : B.length < 12
  · rw [pscan_short h1]
  · cases h2 : endOk B with
    | false => rw [pscan_head h1 h2]
    | true =>
      by_cases h3 : B.length < endAt B
      · rw [pscan_cut h2 h3]
      · cases h4 : bodyOk (B.take (endAt B)) with
        | false => rw [pscan_body h2 (by omega) h4]
        | true => rw [pscan_more h2 (by omega) h4] at h; simp at h
/-- it opens just where the scan finds one seal, and that is all -/
theorem open_whole (B : List Nat) : (endOk B && (endAt B == B.length) && bodyOk B) = (decide ((pscan B).1.length = 1) && decide ((pscan B).2.1 = B.length)) := by
  by_cases h1 : B.length < 12
  · have h2 : endOk B = false := by unfold endOk; simp; omega
    rw [pscan_short h1, h2]
    simp
  · cases h2 : endOk B with
    | false => rw [pscan_head h1 h2]; simp
    | true =>
      have h12 : 12 ≤ endAt B := by rw [endAt_ok h2]; omega
      by_cases h3 : B.length < endAt B
      · rw [pscan_cut h2 h3]
        have : (endAt B == B.length) = false := by simp; omega
        rw [this]; simp
      · cases h4 : bodyOk (B.take (endAt B)) with
        | false =>
          rw [pscan_body h2 (by omega) h4]
          by_cases h5 : endAt B = B.length
          · rw [h5, List.take_length] at h4
            rw [h4]; simp
          · have : (endAt B == B.length) = false := by simpa using h5
            rw [this]; simp
        | true =>
          rw [pscan_more h2 (by omega) h4]
          by_cases h5 : endAt B = B.length
          · have h6 := h4
            rw [h5, List.take_length] at h6
            rw [h5, List.drop_length, pscan_short (B := []) (by simp), h6]
            simp
          · have : (endAt B == B.length) = false := by simpa using h5
            rw [this]
            have hno : ¬ ((pscan (B.drop (endAt B))).1.length + 1 = 1 ∧ endAt B + (pscan (B.drop (endAt B))).2.1 = B.length) := by
              rintro ⟨ha, hb⟩
              have := pscan_none (B := B.drop (endAt B)) (List.eq_nil_of_length_eq_zero (by omega))
              omega
            simp only [List.length_cons, Bool.and_false, Bool.false_and, Bool.true_and]
            symm
            rw [Bool.and_eq_false_iff, decide_eq_false_iff_not, decide_eq_false_iff_not]
            by_cases ha : (pscan (B.drop (endAt B))).1.length + 1 = 1
            · exact .inr fun hb => hno ⟨ha, hb⟩
            · exact .inl ha
theorem whole_head {B : List Nat} (h : (endOk B && (endAt B == B.length) && bodyOk B) = true) : (pscan B).1 = [B.drop 12] := by
  simp only [Bool.and_eq_true, beq_iff_eq] at h
  obtain ⟨⟨h2, h3⟩, h4⟩ := h
  have h12 := endOk_len h2
  rw [pscan_more h2 (by omega) (by rw [h3, List.take_length]; exact h4), h3, List.drop_length, pscan_short (B := []) (by simp)]
  simp
  rw [List.take_of_length_le (by rw [List.length_drop]; omega)]
end Pl
theorem openOk_scan (B : List Nat) : openOk B = (decide ((pscan B).1.length = 1) && decide ((pscan B).2.1 = B.length)) := open_whole B
theorem openOk_head {B : List Nat} (h : openOk B = true) : (pscan B).1 = [B.drop 12] := whole_head h

theorem same_quiet (va vb : Value) (L : List (List Nat)) (w : World) (n : Nat) (ha : IsRows w va L) (hb : IsRows w vb L) : Calls Tryd.prog 21 #[va, vb] (w.drewN n) fun e w'' => e = .returned (.bool true) ∧ ∃ m, w'' = w.drewN m :=
  Calls.quiet_of ((same_any va vb L L (w.drewN n) (ha.drew n) (hb.drew n)).mono fun e w' h => by
    obtain ⟨h1, m, h2⟩ := h
    rw [decide_eq_true rfl] at h1
    exact ⟨h1, m, h2⟩)

attribute [local go_sem ↓] conv_eq
set_option maxHeartbeats 8000000 in
theorem crcScan_walk (a : Option Addr) (len cap : Nat) (R : List (List Nat)) (at' x : Int) (b : Option Addr) (lb cb : Nat) (zb : List Int) (w : World) (hT : Tab w) (hr : IsRows w (.slice a len cap) R) (hat : (Lit.int .i64 at').wf = true) (hx : (Lit.int .u8 x).wf = true) (hrb : IsRow .u8 w b lb cb zb) :
    Calls Tryd.prog 5 #[.slice a len cap, .int .i64 at', .int .u8 x, .slice b lb cb] w fun e w' => e = .returned (.bool true) ∧ Below w.heap.size w w' := by
  obtain ⟨a0, cap0, hs, hcap, hmax⟩ := hr.slice
  simp at hs
  obtain ⟨rfl, rfl, rfl⟩ := hs
  unfold maxLen at hmax
  have hx2 := u8_wf hx
  obtain ⟨X, rfl⟩ := Int.eq_ofNat_of_zero_le hx2.1
  have hX : X < 256 := by omega
  obtain ⟨hV, hlenb⟩ := isBytes_row hrb
  have HV := Lib.hid hV
  have HR := Lib.hid hr
  have HT := Lib.hid hT
  have HL := Lib.hid hr.lt
  clear hr hT hat hx hx2 hV hrb
  go_enter Tryd.func5, Tryd.ntmps5
  go_wp2_with fail
  refine (begun_any _ HT.out).mono ?_
  rintro e w1 ⟨rfl, hb1⟩
  have HR1 := Lib.hid (HR.out.below hb1)
  have HT1 := Lib.hid (HT.out.below hb1)
  have HV1 := Lib.hid (HV.out.below hb1)
  have HB1 := Lib.hid hb1
  have hsz1 := hb1.size
  clear hb1 HR HT HV
  go_wp2_with fail
  refine (laid_any _ R 6 _ HR1.out (by omega)).mono ?_
  intro e w2 h2
  obtain ⟨sp2, cp2, rfl, ho2, hb2⟩ := h2.s
  have hlen := plaid_len R 6
  have HPL := Lib.hid (pcat_lt (parts_lt HL.out 6))
  have HO2 := Lib.hid ho2
  have HB2 := Lib.hid hb2
  have HV2 := Lib.hid (HV1.out.below hb2)
  have hsz2 := hb2.size
  clear h2 ho2 hb2 HR1 HV1
  generalize pcat (parts R 6) = D0 at *
  go_wp2_with fail
  refine (short_any _ _ 30 _ HV2.out (by omega)).mono ?_
  rintro e w3 ⟨v3, rfl, hi3, rfl⟩
  obtain ⟨S, hS⟩ : ∃ S, S = (bytesZ zb lb).take 30 := ⟨_, rfl⟩
  have hSl : S.length ≤ 30 := by rw [hS, List.length_take]; omega
  rw [← hS] at hi3
  obtain ⟨a3, c3, rfl, _, _⟩ := hi3.slice
  have HI3 := Lib.hid hi3
  clear hi3 hS HV2
  obtain ⟨D1, hD1⟩ : ∃ D1, D1 = D0 ++ S := ⟨_, rfl⟩
  obtain ⟨n, hn⟩ : ∃ n, n = D0.length + S.length := ⟨_, rfl⟩
  have hn462 : n ≤ 462 := by omega
  have HPD : Hid (∀ x ∈ D1, x < 256) := Lib.hid (by
    intro x hx
    rw [hD1, List.mem_append] at hx
    exact hx.elim (HPL.out x) (HI3.out.1 x))
  have HLD : Hid (D1.length = n) := Lib.hid (by rw [hD1, List.length_append, hn])
  have HD := Lib.hid hD1
  have HN := Lib.hid hn
  clear hD1 hn
  by_cases hn0 : n = 0
  · have hd : decide ((0 : Int) < (n : Int)) = false := by simp; omega
    have hdn : ¬ (0 < n) := by omega
    clear hn0
    go_wp2_with (at_builtin; refine wpList_append_bytes rfl (.tmp 24) (.tmp 26) rfl w1.heap.size _ D0.length _ rfl HO2.out _ S rfl HI3.out (by omega) hsz2 ?_; intro v9 w9 hown hgr; rw [← u8s_append, ← HD.out, ← HN.out] at hown; have HB9 := Lib.hid (HB2.out.grown hgr hsz2 (own_lt HO2.out)); have HO9 := Lib.hid hown; obtain ⟨sp9, cp9, rfl, _, _⟩ := ownsRow_slice HO9.out; clear hown hgr)
    obtain ⟨wX, hwX⟩ : ∃ wX, wX = w9 := ⟨_, rfl⟩
    subst hwX
    have HBX := HB9
    have hown := HO9.out
    obtain ⟨D, hDD⟩ : ∃ D, D = D1 := ⟨_, rfl⟩
    rw [← hDD] at hown
    have hlD : D.length = n := by rw [hDD]; exact HLD.out
    have HIX : Hid (IsBytes wX (.slice sp9 D.length cp9) D) := Lib.hid (isBytes_ownS (by rw [hDD]; exact HPD.out) rfl (by rw [hlD]; exact hown))
    clear HB9 HO9 hown hDD HPD HO2 HB2 HI3 HPL HD HN HLD
    have HTX := Lib.hid (HT1.out.below HBX.out)
    have HBW := Lib.hid (HB1.out.trans (HBX.out.mono hsz1))
    have hol := openOk_scan D
    have hoh := openOk_head (B := D)
    obtain ⟨F, q, o3, hP⟩ : ∃ F q o, pscan D = (F, q, o) := ⟨_, _, _, rfl⟩
    have hs1 := scan_any _ _ _ HTX.out HIX.out (by omega)
    unfold ScanPost at hs1
    rw [hP] at hs1 hol hoh
    rw [hlD] at hs1 hol
    have HS1 := Lib.hid hs1
    have hs2 := fun (W : World) (h : Below wX.heap.size wX W) => refScan_any _ _ W (HIX.out.below h) (by omega)
    unfold ScanPost at hs2
    rw [hP] at hs2
    rw [hlD] at hs2
    have HS2 := Lib.hid hs2
    have hs3 := fun (W : World) (h : Below wX.heap.size wX W) => open_any _ _ W (HTX.out.below h) (HIX.out.below h) (by omega)
    unfold OpenPost at hs3
    rw [hlD] at hs3
    have HS3 := Lib.hid hs3
    simp only at hol hoh
    have HOL := Lib.hid hol
    have HOH := Lib.hid hoh
    clear hs1 hs2 hs3 hP hol hoh
    refine HS1.out.mono ?_
    rintro e w4 ⟨v4, rfl, hr4, hb4⟩
    obtain ⟨a4, c4, rfl, _, _⟩ := hr4.slice
    have HR4 := Lib.hid hr4
    have HX4 := Lib.hid hb4
    clear hr4 hb4
    go_wp2_with fail
    refine (HS2.out _ HX4.out).mono ?_
    rintro e w5 ⟨v5, rfl, hr5, hb5⟩
    obtain ⟨a5, c5, rfl, _, _⟩ := hr5.slice
    have HR5 := Lib.hid hr5
    have HR45 := Lib.hid (HR4.out.below hb5)
    have HX5 := Lib.hid (HX4.out.trans (hb5.mono HX4.out.size))
    clear hr5 hb5 HR4 HX4
    go_wp2_with fail
    refine (HS3.out _ HX5.out).mono ?_
    rintro e w6 ⟨v6, rfl, hb6, hi6⟩
    have HR6 := Lib.hid (HR5.out.below hb6)
    have HR46 := Lib.hid (HR45.out.below hb6)
    have HX6 := Lib.hid (HX5.out.trans (hb6.mono HX5.out.size))
    clear hb6 HR5 HR45 HX5 HS1 HS2 HS3
    obtain ⟨o, ho⟩ : ∃ o, o = openOk D := ⟨_, rfl⟩
    rw [← ho] at HOL HOH hi6
    rw [← ho]
    clear ho
    obtain ⟨a6, c6, rfl, _, _⟩ := hi6.slice
    have hsq := fun n => same_quiet _ _ F _ n HR46.out HR6.out
    have HSQ := Lib.hid hsq
    clear hsq
    cases o
    · have hno : ¬ (F.length = 1 ∧ q = n) := by
        rintro ⟨h1, h2⟩
        have := HOL.out
        rw [h1, h2] at this
        simp at this
      by_cases hF1 : F.length = 1
      · have hq : ((q : Int) == (n : Int)) = false := beq_f (by omega)
        have hFb : ((F.length : Int) == 1) = true := beq_t (by omega)
        clear hno hF1 hi6 HOL HOH
        go_wp2_with fail
        go_quiet (first | (go_at_call 21; refine HSQ.out _))
        go_wp2_with fail
        go_ret
        exact ⟨rfl, bel_drewN (HBW.out.trans (HX6.out.mono HBW.out.size)) nq⟩
      · have hFb : ((F.length : Int) == 1) = false := beq_f (by omega)
        clear hno hF1 hi6 HOL HOH
        go_wp2_with fail
        go_quiet (first | (go_at_call 21; refine HSQ.out _))
        go_wp2_with fail
        go_ret
        exact ⟨rfl, bel_drewN (HBW.out.trans (HX6.out.mono HBW.out.size)) nq⟩
    · have hFe := HOH.out rfl
      subst hFe
      rw [if_pos rfl] at hi6
      have hqn : q = n := by
        have := HOL.out
        simp at this
        exact this
      subst hqn
      have hv6 : ∀ k, (convS (.slice a6 (D.drop 12).length c6)).run Tryd.prog (w6.drewN k) = .ok (.string (str (D.drop 12))) (w6.drewN k) := fun k => run_conv (hi6.drew k)
      obtain ⟨bb, ob, a7, c7, rfl, hbb, hc7, hI7⟩ := HR6.out.at (i := 0) (by simp)
      simp only [List.getD_cons_zero, List.length_singleton, Nat.add_zero] at hc7 hI7
      have hv7 : ∀ k, (convS (.slice a7 (D.drop 12).length c7)).run Tryd.prog (w6.drewN k) = .ok (.string (str (D.drop 12))) (w6.drewN k) := fun k => run_conv (hI7.drew k)
      simp only [if_pos, List.length_singleton] at HSQ ⊢
      clear hi6 hI7 HOL HOH
      generalize str (D.drop 12) = SY at *
      generalize (D.drop 12).length = ny at *
      go_wp2_with fail
      go_quiet (first | (go_at_call 21; refine HSQ.out _))
      go_wp2_with fail
      go_ret
      exact ⟨rfl, bel_drewN (HBW.out.trans (HX6.out.mono HBW.out.size)) nq⟩
  · by_cases hneg : at' < 0
    · have hd : decide ((0 : Int) < (n : Int)) = true := by simp; omega
      have hdn : 0 < n := by omega
      clear hn0
      go_wp2_with (at_builtin; refine wpList_append_bytes rfl (.tmp 24) (.tmp 26) rfl w1.heap.size _ D0.length _ rfl HO2.out _ S rfl HI3.out (by omega) hsz2 ?_; intro v9 w9 hown hgr; rw [← u8s_append, ← HD.out, ← HN.out] at hown; have HB9 := Lib.hid (HB2.out.grown hgr hsz2 (own_lt HO2.out)); have HO9 := Lib.hid hown; obtain ⟨sp9, cp9, rfl, _, _⟩ := ownsRow_slice HO9.out; clear hown hgr)
      obtain ⟨wX, hwX⟩ : ∃ wX, wX = w9 := ⟨_, rfl⟩
      subst hwX
      have HBX := HB9
      have hown := HO9.out
      obtain ⟨D, hDD⟩ : ∃ D, D = D1 := ⟨_, rfl⟩
      rw [← hDD] at hown
      have hlD : D.length = n := by rw [hDD]; exact HLD.out
      have HIX : Hid (IsBytes wX (.slice sp9 D.length cp9) D) := Lib.hid (isBytes_ownS (by rw [hDD]; exact HPD.out) rfl (by rw [hlD]; exact hown))
      clear HB9 HO9 hown hDD HPD HO2 HB2 HI3 HPL HD HN HLD

      have HTX := Lib.hid (HT1.out.below HBX.out)
      have HBW := Lib.hid (HB1.out.trans (HBX.out.mono hsz1))
      have hol := openOk_scan D
      have hoh := openOk_head (B := D)
      obtain ⟨F, q, o3, hP⟩ : ∃ F q o, pscan D = (F, q, o) := ⟨_, _, _, rfl⟩
      have hs1 := scan_any _ _ _ HTX.out HIX.out (by omega)
      unfold ScanPost at hs1
      rw [hP] at hs1 hol hoh
      rw [hlD] at hs1 hol
      have HS1 := Lib.hid hs1
      have hs2 := fun (W : World) (h : Below wX.heap.size wX W) => refScan_any _ _ W (HIX.out.below h) (by omega)
      unfold ScanPost at hs2
      rw [hP] at hs2
      rw [hlD] at hs2
      have HS2 := Lib.hid hs2
      have hs3 := fun (W : World) (h : Below wX.heap.size wX W) => open_any _ _ W (HTX.out.below h) (HIX.out.below h) (by omega)
      unfold OpenPost at hs3
      rw [hlD] at hs3
      have HS3 := Lib.hid hs3
      simp only at hol hoh
      have HOL := Lib.hid hol
      have HOH := Lib.hid hoh
      clear hs1 hs2 hs3 hP hol hoh
      refine HS1.out.mono ?_
      rintro e w4 ⟨v4, rfl, hr4, hb4⟩
      obtain ⟨a4, c4, rfl, _, _⟩ := hr4.slice
      have HR4 := Lib.hid hr4
      have HX4 := Lib.hid hb4
      clear hr4 hb4
      go_wp2_with fail
      refine (HS2.out _ HX4.out).mono ?_
      rintro e w5 ⟨v5, rfl, hr5, hb5⟩
      obtain ⟨a5, c5, rfl, _, _⟩ := hr5.slice
      have HR5 := Lib.hid hr5
      have HR45 := Lib.hid (HR4.out.below hb5)
      have HX5 := Lib.hid (HX4.out.trans (hb5.mono HX4.out.size))
      clear hr5 hb5 HR4 HX4
      go_wp2_with fail
      refine (HS3.out _ HX5.out).mono ?_
      rintro e w6 ⟨v6, rfl, hb6, hi6⟩
      have HR6 := Lib.hid (HR5.out.below hb6)
      have HR46 := Lib.hid (HR45.out.below hb6)
      have HX6 := Lib.hid (HX5.out.trans (hb6.mono HX5.out.size))
      clear hb6 HR5 HR45 HX5 HS1 HS2 HS3
      obtain ⟨o, ho⟩ : ∃ o, o = openOk D := ⟨_, rfl⟩
      rw [← ho] at HOL HOH hi6
      rw [← ho]
      clear ho
      obtain ⟨a6, c6, rfl, _, _⟩ := hi6.slice
      have hsq := fun n => same_quiet _ _ F _ n HR46.out HR6.out
      have HSQ := Lib.hid hsq
      clear hsq
      cases o
      · have hno : ¬ (F.length = 1 ∧ q = n) := by
          rintro ⟨h1, h2⟩
          have := HOL.out
          rw [h1, h2] at this
          simp at this
        by_cases hF1 : F.length = 1
        · have hq : ((q : Int) == (n : Int)) = false := beq_f (by omega)
          have hFb : ((F.length : Int) == 1) = true := beq_t (by omega)
          clear hno hF1 hi6 HOL HOH
          go_wp2_with fail
          go_quiet (first | (go_at_call 21; refine HSQ.out _))
          go_wp2_with fail
          go_ret
          exact ⟨rfl, bel_drewN (HBW.out.trans (HX6.out.mono HBW.out.size)) nq⟩
        · have hFb : ((F.length : Int) == 1) = false := beq_f (by omega)
          clear hno hF1 hi6 HOL HOH
          go_wp2_with fail
          go_quiet (first | (go_at_call 21; refine HSQ.out _))
          go_wp2_with fail
          go_ret
          exact ⟨rfl, bel_drewN (HBW.out.trans (HX6.out.mono HBW.out.size)) nq⟩
      · have hFe := HOH.out rfl
        subst hFe
        rw [if_pos rfl] at hi6
        have hqn : q = n := by
          have := HOL.out
          simp at this
          exact this
        subst hqn
        have hv6 : ∀ k, (convS (.slice a6 (D.drop 12).length c6)).run Tryd.prog (w6.drewN k) = .ok (.string (str (D.drop 12))) (w6.drewN k) := fun k => run_conv (hi6.drew k)
        obtain ⟨bb, ob, a7, c7, rfl, hbb, hc7, hI7⟩ := HR6.out.at (i := 0) (by simp)
        simp only [List.getD_cons_zero, List.length_singleton, Nat.add_zero] at hc7 hI7
        have hv7 : ∀ k, (convS (.slice a7 (D.drop 12).length c7)).run Tryd.prog (w6.drewN k) = .ok (.string (str (D.drop 12))) (w6.drewN k) := fun k => run_conv (hI7.drew k)
        simp only [if_pos, List.length_singleton] at HSQ ⊢
        clear hi6 hI7 HOL HOH
        generalize str (D.drop 12) = SY at *
        generalize (D.drop 12).length = ny at *
        go_wp2_with fail
        go_quiet (first | (go_at_call 21; refine HSQ.out _))
        go_wp2_with fail
        go_ret
        exact ⟨rfl, bel_drewN (HBW.out.trans (HX6.out.mono HBW.out.size)) nq⟩
    · have hd : decide ((0 : Int) < (n : Int)) = true := by simp; omega
      have hdn : 0 < n := by omega
      obtain ⟨A, rfl⟩ := Int.eq_ofNat_of_zero_le (show 0 ≤ at' by omega)
      have hneg' : decide ((0 : Int) ≤ (A : Int)) = true := by simp
      obtain ⟨i, hi⟩ : ∃ i, i = A % n := ⟨_, rfl⟩
      have hil : i < n := by rw [hi]; exact Nat.mod_lt _ (by omega)
      have hrem : (A : Int).tmod (n : Int) = (i : Int) := by rw [hi]; exact (Int.ofNat_tmod A n).symm
      have hrem2 : (A : Int) % (n : Int) = (i : Int) := by rw [hi]; rfl
      have hs := getD_lt HPD.out i
      have hy : D1.getD i 0 ^^^ X < 256 := Nat.xor_lt_two_pow (n := 8) hs hX
      have HX8 : Hid (∀ y ∈ D1.set i (D1.getD i 0 ^^^ X), y < 256) := Lib.hid (set_lt HPD.out hy)
      obtain ⟨s, hse⟩ : ∃ s, s = D1.getD i 0 := ⟨_, rfl⟩
      rw [← hse] at hs hy HX8
      have HSE := Lib.hid hse
      have hxe : bits BinOp.xor IntKind.u8 (s : Int) (X : Int) = ((s ^^^ X : Nat) : Int) := u8_xor_nat s X hs hX
      have HNG := Lib.hid hneg
      clear hn0 hi hneg hse
      go_wp2_with (at_builtin; refine wpList_append_bytes rfl (.tmp 24) (.tmp 26) rfl w1.heap.size _ D0.length _ rfl HO2.out _ S rfl HI3.out (by omega) hsz2 ?_; intro v9 w9 hown hgr; rw [← u8s_append, ← HD.out, ← HN.out] at hown; have HB9 := Lib.hid (HB2.out.grown hgr hsz2 (own_lt HO2.out)); have HO9 := Lib.hid hown; obtain ⟨g, cp9, rfl, hg, hgl, hnc, hcm⟩ := own_open HO9.out hdn; have c0 := own_cell HO9.out hil; have f0 := HO9.out.frozenAt i; rw [← HSE.out] at c0; clear hown hgr)
      have hst := HO9.out.stored i (.int .u8 ((s ^^^ X : Nat) : Int))
      rw [u8s_set] at hst
      have HBX := Lib.hid (HB9.out.grown hst.2 HB9.out.size (by intro k hk; simp at hk; omega))
      obtain ⟨D, hDD⟩ : ∃ D, D = D1.set i (s ^^^ X) := ⟨_, rfl⟩
      rw [← hDD] at hst
      have hlD : D.length = n := by rw [hDD, List.length_set]; exact HLD.out
      obtain ⟨wX, hwX⟩ : ∃ wX, wX = w9.setCell ⟨g, i, none⟩ (.int .u8 ((s ^^^ X : Nat) : Int)) := ⟨_, rfl⟩
      rw [← hwX] at hst HBX ⊢
      have HIX : Hid (IsBytes wX (.slice (some ⟨g, 0, none⟩) D.length cp9) D) := Lib.hid (isBytes_ownS (by rw [hDD]; exact HX8.out) rfl (by rw [hlD]; exact hst.1))
      clear HB9 HO9 hst hDD HPD HO2 HB2 HI3 HPL HD HN HLD hwX HX8 HSE

      have HTX := Lib.hid (HT1.out.below HBX.out)
      have HBW := Lib.hid (HB1.out.trans (HBX.out.mono hsz1))
      have hol := openOk_scan D
      have hoh := openOk_head (B := D)
      obtain ⟨F, q, o3, hP⟩ : ∃ F q o, pscan D = (F, q, o) := ⟨_, _, _, rfl⟩
      have hs1 := scan_any _ _ _ HTX.out HIX.out (by omega)
      unfold ScanPost at hs1
      rw [hP] at hs1 hol hoh
      rw [hlD] at hs1 hol
      have HS1 := Lib.hid hs1
      have hs2 := fun (W : World) (h : Below wX.heap.size wX W) => refScan_any _ _ W (HIX.out.below h) (by omega)
      unfold ScanPost at hs2
      rw [hP] at hs2
      rw [hlD] at hs2
      have HS2 := Lib.hid hs2
      have hs3 := fun (W : World) (h : Below wX.heap.size wX W) => open_any _ _ W (HTX.out.below h) (HIX.out.below h) (by omega)
      unfold OpenPost at hs3
      rw [hlD] at hs3
      have HS3 := Lib.hid hs3
      simp only at hol hoh
      have HOL := Lib.hid hol
      have HOH := Lib.hid hoh
      clear hs1 hs2 hs3 hP hol hoh
      refine HS1.out.mono ?_
      rintro e w4 ⟨v4, rfl, hr4, hb4⟩
      obtain ⟨a4, c4, rfl, _, _⟩ := hr4.slice
      have HR4 := Lib.hid hr4
      have HX4 := Lib.hid hb4
      clear hr4 hb4
      go_wp2_with fail
      refine (HS2.out _ HX4.out).mono ?_
      rintro e w5 ⟨v5, rfl, hr5, hb5⟩
      obtain ⟨a5, c5, rfl, _, _⟩ := hr5.slice
      have HR5 := Lib.hid hr5
      have HR45 := Lib.hid (HR4.out.below hb5)
      have HX5 := Lib.hid (HX4.out.trans (hb5.mono HX4.out.size))
      clear hr5 hb5 HR4 HX4
      go_wp2_with fail
      refine (HS3.out _ HX5.out).mono ?_
      rintro e w6 ⟨v6, rfl, hb6, hi6⟩
      have HR6 := Lib.hid (HR5.out.below hb6)
      have HR46 := Lib.hid (HR45.out.below hb6)
      have HX6 := Lib.hid (HX5.out.trans (hb6.mono HX5.out.size))
      clear hb6 HR5 HR45 HX5 HS1 HS2 HS3
      obtain ⟨o, ho⟩ : ∃ o, o = openOk D := ⟨_, rfl⟩
      rw [← ho] at HOL HOH hi6
      rw [← ho]
      clear ho
      obtain ⟨a6, c6, rfl, _, _⟩ := hi6.slice
      have hsq := fun n => same_quiet _ _ F _ n HR46.out HR6.out
      have HSQ := Lib.hid hsq
      clear hsq
      cases o
      · have hno : ¬ (F.length = 1 ∧ q = n) := by
          rintro ⟨h1, h2⟩
          have := HOL.out
          rw [h1, h2] at this
          simp at this
        by_cases hF1 : F.length = 1
        · have hq : ((q : Int) == (n : Int)) = false := beq_f (by omega)
          have hFb : ((F.length : Int) == 1) = true := beq_t (by omega)
          clear hno hF1 hi6 HOL HOH
          go_wp2_with fail
          go_quiet (first | (go_at_call 21; refine HSQ.out _))
          go_wp2_with fail
          go_ret
          exact ⟨rfl, bel_drewN (HBW.out.trans (HX6.out.mono HBW.out.size)) nq⟩
        · have hFb : ((F.length : Int) == 1) = false := beq_f (by omega)
          clear hno hF1 hi6 HOL HOH
          go_wp2_with fail
          go_quiet (first | (go_at_call 21; refine HSQ.out _))
          go_wp2_with fail
          go_ret
          exact ⟨rfl, bel_drewN (HBW.out.trans (HX6.out.mono HBW.out.size)) nq⟩
      · have hFe := HOH.out rfl
        subst hFe
        rw [if_pos rfl] at hi6
        have hqn : q = n := by
          have := HOL.out
          simp at this
          exact this
        subst hqn
        have hv6 : ∀ k, (convS (.slice a6 (D.drop 12).length c6)).run Tryd.prog (w6.drewN k) = .ok (.string (str (D.drop 12))) (w6.drewN k) := fun k => run_conv (hi6.drew k)
        obtain ⟨bb, ob, a7, c7, rfl, hbb, hc7, hI7⟩ := HR6.out.at (i := 0) (by simp)
        simp only [List.getD_cons_zero, List.length_singleton, Nat.add_zero] at hc7 hI7
        have hv7 : ∀ k, (convS (.slice a7 (D.drop 12).length c7)).run Tryd.prog (w6.drewN k) = .ok (.string (str (D.drop 12))) (w6.drewN k) := fun k => run_conv (hI7.drew k)
        simp only [if_pos, List.length_singleton] at HSQ ⊢
        clear hi6 hI7 HOL HOH
        generalize str (D.drop 12) = SY at *
        generalize (D.drop 12).length = ny at *
        go_wp2_with fail
        go_quiet (first | (go_at_call 21; refine HSQ.out _))
        go_wp2_with fail
        go_ret
        exact ⟨rfl, bel_drewN (HBW.out.trans (HX6.out.mono HBW.out.size)) nq⟩
end Go.Proofs.YtoajgeemkmfboaaDoor

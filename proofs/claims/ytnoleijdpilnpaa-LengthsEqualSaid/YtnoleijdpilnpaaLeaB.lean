/- folioref1.Least: a contract. -/
import Derived.Test.YtnoleijdpilnpaaPkgF
import Derived.Test.YtnoleijdpilnpaaLenE
set_option linter.unusedSimpArgs false
set_option linter.unusedVariables false
namespace Go.Proofs.Ytnoleijdpilnpaa
open Go.RowKit Pl
def appJ (ats : Array TypeId) (ty : TypeId) (u v : Value) : Sem Value := Builtin.append_ ats ty #[u, v]
theorem appJ_eq (ats : Array TypeId) (ty : TypeId) (u v : Value) : Builtin.append_ ats ty #[u, v] = appJ ats ty u v := rfl
theorem run_appJ (base n : Nat) (sp : Option Addr) (cp : Nat) (L : List Int) (c : Int) (w : World) (h : w.ownsRow base 2 1 (.slice sp n cp) n (i64s L)) (hbase : base ≤ w.heap.size) (hn : n ≤ 1000000) :
    ∃ sp' cp' w', (appJ #[22, 22] 22 (.slice sp n cp) (.slice (some ⟨w.heap.size, 0, none⟩) 1 1)).run Try.prog (w.alloc (.cells #[.int .i64 c] 2 (0, 0))) = .ok (.slice sp' (n + 1) cp') w' ∧ w'.ownsRow base 2 1 (.slice sp' (n + 1) cp') (n + 1) (i64s (L ++ [c])) ∧ Below base w w' := by
  obtain ⟨i0, hi, hz0, hz1, hz2⟩ := infoI_parts infoJ
  obtain ⟨v', w', h1, h2, h3, _⟩ := run_append_own (P := Try.prog) (w.alloc (.cells #[.int .i64 c] 2 (0, 0))) base 22 22 2 i0 (.int .i64 0) 1 8 Try.underlying22 hi hz0 hz1 hz2 rfl (by decide) _ n _ (h.alloc _) ⟨w.heap.size, 0, none⟩ 1 1 [.int .i64 c] rfl (cell_one_new _ _ _) (by intro u hu; simp at hu; subst hu; rfl) (by unfold maxLen; omega) (by omega) (by simp; omega)
  obtain ⟨sp', cp', rfl, _, _⟩ := ownsRow_slice h2
  exact ⟨sp', cp', w', h1, by rw [i64s_snoc]; exact h2, bel_append (Below.refl _ _) _ h h3 hbase⟩
theorem prev_fst {S : List Coin} (ha : Asc S) {A : List Int} (j : Nat) (hA : A.Perm ((S.map Prod.fst) ++ (pairsOf (prevRow S j)).map Prod.fst)) (hs : SrtI A) : A = (rowC S j).map Prod.fst := by
  refine row_fst ha j ?_ hs
  cases j <;> exact hA
set_option maxHeartbeats 16000000 in
set_option maxRecDepth 100000 in
theorem least_any (v : Value) (F : List Int) (S : List Coin) (w : World) (hv : IsInts w v F) (hF : ∀ v ∈ F, 0 ≤ v ∧ v ≤ 1073741824) (h3 : F.length ≤ 300) (hp : S.Perm (coinsFrom 0 F)) (G : Pl.Good S) :
    Calls Try.prog 16 #[v] w fun e w' => e = .returned (.int .i64 (leastV S)) ∧ Below w.heap.size w w' := by
  obtain ⟨a, cap, rfl, hcap, hmax⟩ := hv.slice
  have HV := Lib.hid hv
  have HFB := Lib.hid hF
  have HP := Lib.hid hp
  have HG := Lib.hid G
  clear hv hF hp G
  go_enter Try.func16, Try.ntmps16
  go_wp2_with fail
  go_loopw [3, 4] (fun x3 x4 wr => ∃ (C : List Int) (i m : Nat) (sp : Option Addr) (cp : Nat), i ≤ F.length ∧ m ≤ i ∧ C.length = m ∧ x3 = .slice sp m cp ∧ x4 = .int .i64 i ∧ wr.ownsRow w.heap.size 2 1 (.slice sp m cp) m (i64s C) ∧ C.Perm (posF (F.take i)) ∧ SrtI C ∧ Below w.heap.size w wr) (fun _ x _ => F.length - (intOf x).toNat)
  case atStart => exact ⟨[], 0, 0, none, 0, by omega, by omega, rfl, rfl, rfl, own_nilI _ _ _, by simp [posF], List.Pairwise.nil, Below.refl _ _⟩
  case round =>
    obtain ⟨C, i, m, sp, cp, hi, hm, hC, rfl, rfl, ho, hpm, hs, hb⟩ := hrel
    have HO := Lib.hid ho
    have HPM := Lib.hid hpm
    have HS := Lib.hid hs
    have HB := Lib.hid hb
    have HC := Lib.hid hC
    have hsz := hb.size
    clear ho hpm hs hb hC
    by_cases hlt : i < F.length
    · obtain ⟨bb, off, cap', hse, _, _, hbl, hc⟩ := HV.out.cells (by omega)
      simp at hse
      obtain ⟨rfl, rfl⟩ := hse
      have c0 : wr.cell? ⟨bb, off + i, none⟩ = some (.int .i64 (F.getD i 0)) := (HB.out.cell (p := ⟨bb, off + i, none⟩) hbl).trans (hc i hlt)
      by_cases h0 : 0 < F.getD i 0
      · have hpn := posF_snoc hlt h0
        have HPN := Lib.hid hpn
        clear hpn hc
        generalize F.getD i 0 = x at *
        go_wp2_with fail
        refine (put_any w.heap.size sp cp C x wr m HC.out HO.out HS.out hsz (by omega)).mono ?_
        rintro e w2 ⟨sp2, cp2, C2, rfl, ho2, hp2, hs2, hb2⟩
        have HO2 := Lib.hid ho2
        have HP2 := Lib.hid hp2
        have HS2 := Lib.hid hs2
        have HB2 := Lib.hid hb2
        clear ho2 hp2 hs2 hb2
        go_wp2
        go_roundw
        case rel => exact ⟨C2, i + 1, m + 1, sp2, cp2, by omega, by omega, by rw [HP2.out.length_eq, List.length_cons, HC.out], rfl, by first | rfl | go_num, HO2.out, by
          rw [HPN.out]
          exact HP2.out.trans ((List.Perm.cons _ HPM.out).trans (List.perm_append_singleton _ _).symm), HS2.out, HB.out.trans HB2.out⟩
        case measure => simp [intOf]; omega
      · have hpn := posF_skip hlt h0
        have HPN := Lib.hid hpn
        clear hpn hc
        generalize F.getD i 0 = x at *
        go_wp2
        go_roundw
        case rel => exact ⟨C, i + 1, m, sp, cp, by omega, by omega, HC.out, rfl, by first | rfl | go_num, HO.out, by rw [HPN.out]; exact HPM.out, HS.out, HB.out⟩
        case measure => simp [intOf]; omega
    · have hT : F.take i = F := List.take_of_length_le (by omega)
      rw [hT] at HPM
      have hCS := fst_of HP.out HG.out.asc HPM.out HS.out
      have hSl : S.length = m := by have := congrArg List.length hCS; simp at this; rw [← this]; exact HC.out
      have hIC : IsInts wr (.slice sp m cp) (S.map Prod.fst) := by rw [← hCS]; exact isInts_own HC.out.symm HO.out
      have HSL := Lib.hid hSl
      have HIC := Lib.hid hIC
      have hsl1 : S.length ≤ m := by omega
      have hsl2 : m ≤ S.length := by omega
      have hs3 : S.length ≤ 300 := by omega
      have hCS' : SrtI (S.map Prod.fst) := by rw [← hCS]; exact HS.out
      have HCS := Lib.hid hCS'
      clear hT hCS hSl hIC hCS' HPM HO HS HC
      by_cases m0 : m = 0
      · subst m0
        have hS : S = [] := List.eq_nil_of_length_eq_zero HSL.out
        subst hS
        go_wp2
        go_ret
        exact ⟨rfl, HB.out⟩
      have m0z : ((m : Int) == 0) = false := beq_f (by omega)
      by_cases m1 : m = 1
      · have hS1 : ∃ s, S = [s] := by
          match S, HSL.out with
          | [s], _ => exact ⟨s, rfl⟩
          | [], h => simp at h; omega
          | _ :: _ :: _, h => simp at h; omega
        obtain ⟨s, rfl⟩ := hS1
        obtain ⟨bb, off, cap', hse, _, _, hbl, hc⟩ := HIC.out.cells (by simp)
        simp at hse
        obtain ⟨rfl, hx1, hx2⟩ := hse
        have c0 : wr.cell? ⟨bb, off, none⟩ = some (.int .i64 s.1) := by have := hc 0 (by simp); simpa using this
        have m1z : ((m : Int) == 1) = true := beq_t (by omega)
        have mp : 0 < m := by omega
        clear hc hx1 hx2 hsl1 hsl2 hs3
        go_wp2
        go_ret
        exact ⟨rfl, HB.out⟩
      have m1z : ((m : Int) == 1) = false := beq_f (by omega)
      have hm2 : 2 ≤ m := by omega
      clear m0 m1
      have hlv := leastV_many (S := S) (by omega)
      have HLV := Lib.hid hlv
      have hmp : (S.map Prod.fst).length = m := by rw [List.length_map]; omega
      have HMP := Lib.hid hmp
      clear hlv hmp
      go_wp2_with fail
      clear hlt
      obtain ⟨wo, hwo⟩ : ∃ wo, wo = wr := ⟨_, rfl⟩
      subst hwo
      go_loopw [6, 7] (fun x6 x7 wq => ∃ (j n6 : Nat) (sp6 : Option Addr) (cp6 : Nat), j ≤ 14 ∧ x7 = .int .i64 ((j : Int) + 1) ∧ x6 = .slice sp6 n6 cp6 ∧ ((pairsOf (prevRow S j)).map Prod.fst).length = n6 ∧ IsInts wq (.slice sp6 n6 cp6) ((pairsOf (prevRow S j)).map Prod.fst) ∧ Below wo.heap.size wo wq) (fun _ x _ => 16 - (intOf x).toNat)
      case atStart => exact ⟨0, 0, none, 0, by omega, rfl, rfl, rfl, isCells_nil _, Below.refl _ _⟩
      case round =>
        obtain ⟨j, n6, sp6, cp6, hj, rfl, rfl, hn6, hI6, hb6⟩ := hrel
        have HI6 := Lib.hid hI6
        have HB6 := Lib.hid hb6
        have HN6 := Lib.hid hn6
        have hIC2 : IsInts wr (.slice sp m cp) (S.map Prod.fst) := HIC.out.below hb6
        have HIC2 := Lib.hid hIC2
        have hsz6 := hb6.size
        have hn6s : n6 ≤ 300 := by
          rw [← hn6, List.length_map, pairs_length]
          cases j with
          | zero => simp [prevRow]
          | succ j => have := row_small S j; simp only [prevRow]; omega
        clear hI6 hb6 hn6 hIC2
        obtain ⟨wi, hwi⟩ : ∃ wi, wi = wr := ⟨_, rfl⟩
        subst hwi
        go_wp2_with (at_builtin; refine wpList_append_js rfl (.const (.slice none 0 0)) (.tmp 41) rfl wi.heap.size (.slice none 0 0) 0 [] rfl (own_nilI _ _ _) _ (S.map Prod.fst) rfl HIC2.out (by rw [HMP.out]; omega) (Nat.le_refl _) ?_; intro v3 w3 hown3 hgr3; rw [HMP.out] at hown3; simp only [Nat.zero_add, List.nil_append] at hown3; obtain ⟨sp3, cp3, rfl, _, _⟩ := ownsRow_slice hown3; have HO3 := Lib.hid hown3; have HB3 := Lib.hid ((Below.refl _ wi).grown hgr3 (Nat.le_refl _) (by simp [Value.ownBlock])); clear hown3 hgr3)
        obtain ⟨PS, hPS⟩ : ∃ PS, (pairsOf (prevRow S j)).map Prod.fst = PS := ⟨_, rfl⟩
        rw [hPS] at HI6 HN6
        have hpl1 : PS.length ≤ n6 := by have := HN6.out; omega
        have hpl2 : n6 ≤ PS.length := by have := HN6.out; omega
        have HPS := Lib.hid hPS
        clear hPS
        go_loopw [8, 9] (fun x8 x9 wr => ∃ (A : List Int) (i nA : Nat) (sA : Option Addr) (cA : Nat), i ≤ n6 ∧ nA ≤ m + i ∧ A.length = nA ∧ x8 = .slice sA nA cA ∧ x9 = .int .i64 i ∧ wr.ownsRow wi.heap.size 2 1 (.slice sA nA cA) nA (i64s A) ∧ A.Perm (S.map Prod.fst ++ PS.take i) ∧ SrtI A ∧ Below wi.heap.size wi wr) (fun _ x _ => n6 - (intOf x).toNat)
        case atStart => exact ⟨S.map Prod.fst, 0, m, sp3, cp3, by omega, by omega, HMP.out, rfl, rfl, HO3.out, by simp, HCS.out, HB3.out⟩
        case round =>
          obtain ⟨A, i2, nA, sA, cA, hi2, hnA, hA, rfl, rfl, ho, hpm, hs, hb⟩ := hrel
          have HO := Lib.hid ho
          have HPM := Lib.hid hpm
          have HS := Lib.hid hs
          have HBA := Lib.hid hb
          have HA := Lib.hid hA
          have hszA := hb.size
          clear HO3 HB3 ho hpm hs hb hA
          by_cases hlt : i2 < n6
          · obtain ⟨bb, off, cap', hse, _, _, hbl, hc⟩ := HI6.out.cells (by omega)
            simp at hse
            obtain ⟨rfl, hx1, hx2⟩ := hse
            have c0 : wr.cell? ⟨bb, off + i2, none⟩ = some (.int .i64 (PS.getD i2 0)) := (HBA.out.cell (p := ⟨bb, off + i2, none⟩) hbl).trans (hc i2 (by omega))
            have htk : PS.take (i2 + 1) = PS.take i2 ++ [PS.getD i2 0] := by
              rw [List.take_succ_eq_append_getElem (show i2 < PS.length by omega)]; simp [List.getD, show i2 < PS.length by omega]
            have HTK := Lib.hid htk
            clear hc hx1 hx2 htk
            generalize PS.getD i2 0 = x at *
            go_wp2_with fail
            refine (put_any wi.heap.size sA cA A x wr nA HA.out HO.out HS.out hszA (by omega)).mono ?_
            rintro e w4 ⟨sp4, cp4, A4, rfl, ho4, hp4, hs4, hb4⟩
            have HO4 := Lib.hid ho4
            have HP4 := Lib.hid hp4
            have HS4 := Lib.hid hs4
            have HB4 := Lib.hid hb4
            clear ho4 hp4 hs4 hb4
            go_wp2
            go_roundw
            case rel => exact ⟨A4, i2 + 1, nA + 1, sp4, cp4, by omega, by omega, by rw [HP4.out.length_eq, List.length_cons, HA.out], rfl, by first | rfl | go_num, HO4.out, by
              rw [HTK.out, ← List.append_assoc]
              exact HP4.out.trans ((List.Perm.cons _ HPM.out).trans (List.perm_append_singleton _ _).symm), HS4.out, HBA.out.trans HB4.out⟩
            case measure => simp [intOf]; omega
          · have hT : PS.take i2 = PS := List.take_of_length_le (by omega)
            rw [hT, ← HPS.out] at HPM
            have hrow := prev_fst HG.out.asc j HPM.out HS.out
            have hIA : IsInts wr (.slice sA nA cA) A := isInts_own HA.out.symm HO.out
            have HROW := Lib.hid hrow
            have HIA := Lib.hid hIA
            have HBo := Lib.hid (HB6.out.trans (HBA.out.mono hsz6))
            have hnA2 : nA ≤ 600 := by omega
            have hal1 : A.length ≤ nA := by have := HA.out; omega
            have hal2 : nA ≤ A.length := by have := HA.out; omega
            clear hT hrow hIA HPM HO HS
            by_cases j14 : j = 14
            · subst j14
              have hbig : 2 * m - 2 ≤ nA := by
                have h1 := row_big hs3
                have h2 := congrArg List.length HROW.out
                rw [List.length_map] at h2
                omega
              have hwts : ∀ v ∈ A, 0 ≤ v ∧ v ≤ 17592186044416 := fun v hv => by
                rw [HROW.out] at hv
                obtain ⟨c, hc, rfl⟩ := List.mem_map.1 hv
                have h1 := row_pos HG.out.pos 14 c hc
                have h2 := row_le (m := 1073741824) (by omega) (fun c hc => by
                  have := coins_mem F 0 c (HP.out.mem_iff.1 hc)
                  exact (HFB.out _ this.2.2.2).2) 14 c hc
                have e : (2 : Int) ^ 14 = 16384 := by decide
                rw [e] at h2
                omega
              have HW := Lib.hid hwts
              have e2m : 2 * (m : Int) - 2 = ((2 * m - 2 : Nat) : Int) := by omega
              obtain ⟨q, hq⟩ : ∃ q, 2 * m - 2 = q := ⟨_, rfl⟩
              have e2m : 2 * (m : Int) - 2 = (q : Int) := by omega
              rw [hq] at hbig
              clear hwts
              go_wp2_with fail
              obtain ⟨wp, hwp⟩ : ∃ wp, wp = wr := ⟨_, rfl⟩
              subst hwp
              clear hlt
              go_loopw [10, 11] (fun x y wq => ∃ i : Nat, i ≤ q ∧ x = .int .i64 (sumI (A.take i)) ∧ y = .int .i64 i ∧ 0 ≤ sumI (A.take i) ∧ sumI (A.take i) ≤ 17592186044416 * (i : Int) ∧ wq = wp) (fun _ y _ => q - (intOf y).toNat)
              case atStart => exact ⟨0, by omega, rfl, rfl, by simp [sumI], by simp [sumI], rfl⟩
              case round =>
                obtain ⟨i3, hi3, rfl, rfl, hs0, hs1, hw⟩ := hrel
                have hw := hw.symm
                subst hw
                by_cases hlt : i3 < q
                · obtain ⟨bb, off, cap', hse, _, _, hbl, hc⟩ := HIA.out.cells (by omega)
                  simp at hse
                  obtain ⟨rfl, hx1, hx2⟩ := hse
                  have c0 := hc i3 (by omega)
                  have htk : sumI (A.take (i3 + 1)) = sumI (A.take i3) + A.getD i3 0 := by
                    rw [List.take_succ_eq_append_getElem (show i3 < A.length by omega), sumI_snoc]; simp [List.getD, show i3 < A.length by omega]
                  have hv := HW.out (A.getD i3 0) (by rw [List.getD_eq_getElem?_getD, List.getElem?_eq_getElem (show i3 < A.length by omega)]; exact List.getElem_mem _)
                  have HTK := Lib.hid htk
                  clear hc hx1 hx2 htk
                  generalize A.getD i3 0 = x at *
                  generalize sumI (A.take i3) = s at *
                  have hwz : wrap64 (s + x) = s + x := by unfold wrap64; omega
                  have hltz : (i3 : Int) < (q : Int) := by omega
                  go_wp2
                  go_roundw
                  case rel => exact ⟨i3 + 1, by omega, by rw [HTK.out], by first | rfl | go_num, by rw [HTK.out]; omega, by rw [HTK.out]; push_cast; omega, by first | trivial | rfl⟩
                  case measure => simp [intOf]; omega
                · obtain rfl : i3 = q := by omega
                  have hltz : ¬ (i3 : Int) < (i3 : Int) := by omega
                  have hfin : sumI (A.take i3) = leastV S := by
                    rw [HROW.out, ← List.map_take, sumI_fst, HLV.out, Pl.leastOf, HSL.out, hq]
                  have HFIN := Lib.hid hfin
                  clear hfin
                  generalize sumI (A.take i3) = s at *
                  go_wp2
                  go_ret
                  exact ⟨by rw [HFIN.out]; rfl, HB.out.trans (HBo.out.mono HB.out.size)⟩
            · have hj14 : ¬ (j : Int) + 1 = 15 := by omega
              have hjz : ((j : Int) + 1 == 15) = false := beq_f hj14
              go_wp2_with fail
              obtain ⟨wp, hwp⟩ : ∃ wp, wp = wr := ⟨_, rfl⟩
              subst hwp
              clear hlt
              have hprev : (pairsOf (prevRow S (j + 1))).map Prod.fst = pairsI A := by rw [HROW.out, ← pairs_fst]; rfl
              have HPV := Lib.hid hprev
              have hwts : ∀ v ∈ A, 0 ≤ v ∧ v ≤ 17592186044416 := fun v hv => by
                rw [HROW.out] at hv
                obtain ⟨c, hc, rfl⟩ := List.mem_map.1 hv
                have h1 := row_pos HG.out.pos j c hc
                have h2 := row_le (m := 1073741824) (by omega) (fun c hc => by
                  have := coins_mem F 0 c (HP.out.mem_iff.1 hc)
                  exact (HFB.out _ this.2.2.2).2) j c hc
                have e : (2 : Int) ^ j ≤ 16384 := by
                  have : 2 ^ j ≤ 2 ^ 14 := Nat.pow_le_pow_right (by omega) (by omega)
                  have e1 : (2 : Int) ^ j = ((2 ^ j : Nat) : Int) := by simp
                  rw [e1]
                  have e2 : (2 : Nat) ^ 14 = 16384 := by decide
                  omega
                have e3 := Int.mul_le_mul_of_nonneg_right e (show (0 : Int) ≤ 1073741824 by omega)
                omega
              have HW := Lib.hid hwts
              clear hprev hwts hjz hj14
              go_loopw [6, 12] (fun x y wq => ∃ (P : List Int) (i nP : Nat) (sP : Option Addr) (cP : Nat), i ≤ nA ∧ nP ≤ i ∧ P.length = nP ∧ x = .slice sP nP cP ∧ y = .int .i64 i ∧ wq.ownsRow wp.heap.size 2 1 (.slice sP nP cP) nP (i64s P) ∧ P ++ pairsI (A.drop i) = pairsI A ∧ Below wp.heap.size wp wq) (fun _ y _ => nA - (intOf y).toNat)
              case atStart => exact ⟨[], 0, 0, none, 0, by omega, by omega, rfl, rfl, rfl, own_nilI _ _ _, by simp, Below.refl _ _⟩
              case round =>
                obtain ⟨P, i4, nP, sP, cP, hi4, hnP, hP, rfl, rfl, ho, he, hb⟩ := hrel
                have HO := Lib.hid ho
                have HE := Lib.hid he
                have HBP := Lib.hid hb
                have HPL := Lib.hid hP
                have hszP := hb.size
                clear ho he hb hP
                by_cases hlt : i4 + 1 < nA
                · obtain ⟨bb, off, cap', hse, _, _, hbl, hc⟩ := HIA.out.cells (by omega)
                  simp at hse
                  obtain ⟨rfl, hx1, hx2⟩ := hse
                  have C0 : Hid (∀ wq, Below wp.heap.size wp wq → wq.cell? ⟨bb, off + i4, none⟩ = some (.int .i64 (A.getD i4 0))) := fun wq hS => (hS.cell (p := ⟨bb, off + i4, none⟩) hbl).trans (hc i4 (by omega))
                  have C1 : Hid (∀ wq, Below wp.heap.size wp wq → wq.cell? ⟨bb, off + (i4 + 1), none⟩ = some (.int .i64 (A.getD (i4 + 1) 0))) := fun wq hS => (hS.cell (p := ⟨bb, off + (i4 + 1), none⟩) hbl).trans (hc (i4 + 1) (by omega))
                  have hv0 := HW.out (A.getD i4 0) (by rw [List.getD_eq_getElem?_getD, List.getElem?_eq_getElem (show i4 < A.length by omega)]; exact List.getElem_mem _)
                  have hv1 := HW.out (A.getD (i4 + 1) 0) (by rw [List.getD_eq_getElem?_getD, List.getElem?_eq_getElem (show i4 + 1 < A.length by omega)]; exact List.getElem_mem _)
                  have hst := pairsI_step (L := A) (k := i4) (by omega)
                  rw [hst] at HE
                  generalize A.getD i4 0 = x at *
                  generalize A.getD (i4 + 1) 0 = y at *
                  have hwz : wrap64 (x + y) = x + y := by unfold wrap64; omega
                  obtain ⟨i0, hi0, hz0, hz1, hz2⟩ := infoI_parts infoJ
                  have HI0 := Lib.hid (And.intro hi0 (And.intro hz0 (And.intro hz1 hz2)))
                  clear hi0 hz0 hz1 hz2
                  have hnn : (0 : Int) ≤ (i4 : Int) + 1 := by omega
                  have hwk : IntKind.i64.wrap (x + y) = x + y := by rw [IntKind.wrap_i64]; omega
                  have rk : IntKind.i64.wrap (i4 : Int) = i4 := by rw [IntKind.wrap_i64]; omega
                  have rk1 : IntKind.i64.wrap ((i4 : Int) + 1) = (i4 : Int) + 1 := by rw [IntKind.wrap_i64]; omega
                  have ek1 : ((i4 : Int) + 1).toNat = i4 + 1 := by omega
                  have hil : i4 < nA := by omega
                  have hilz : (i4 : Int) < (nA : Int) := by omega
                  have hil1 : (i4 : Int) + 1 < (nA : Int) := by omega
                  have mixed : Try.prog.follows .mixedOrders = true := by kernel_rfl
                  clear hc hx1 hx2 hst
                  go_wp2_with fail
                  refine wp_region_noPanic ?_
                  have hHeld : Below wp.heap.size wp wr.drew := HBP.out.drew
                  refine wpAnyH_start (n := 14) (l := #[false, false, false, false, false, false, false, false, false, false, false, false, false, false]) (S := Below wp.heap.size wp) (by kernel_rfl) (hHeld) (by kernel_rfl) (by kernel_rfl) ?_
                  refine wpAnyH_take (i := 0) (oi := _) (v := ?_) rfl (by kernel_rfl) (by kernel_rfl) (by kernel_rfl) (fun _ _ _ h => h) (Or.inl ⟨by rfl, ?_⟩) (by assumption) ?_
                  rotate_left
                  · intro wq hSw; go_simp; try with_reducible rfl
                  simp only [Act.put, List.setIfInBounds_toArray, List.set_cons_zero, List.set_cons_succ, List.getElem_toArray, List.getElem_cons_zero, List.getElem_cons_succ]
                  refine wpAnyH_take (i := 1) (oi := _) (v := ?_) rfl (by kernel_rfl) (by kernel_rfl) (by kernel_rfl) (fun _ _ _ h => h) (Or.inl ⟨by rfl, ?_⟩) (by assumption) ?_
                  rotate_left
                  · intro wq hSw; go_simp; try with_reducible rfl
                  simp only [Act.put, List.setIfInBounds_toArray, List.set_cons_zero, List.set_cons_succ, List.getElem_toArray, List.getElem_cons_zero, List.getElem_cons_succ]
                  refine wpAnyH_take (i := 2) (oi := _) (v := ?_) rfl (by kernel_rfl) (by kernel_rfl) (by kernel_rfl) (fun _ _ _ h => h) (Or.inl ⟨by rfl, ?_⟩) (by assumption) ?_
                  rotate_left
                  · intro wq hSw; go_simp; try with_reducible rfl
                  simp only [Act.put, List.setIfInBounds_toArray, List.set_cons_zero, List.set_cons_succ, List.getElem_toArray, List.getElem_cons_zero, List.getElem_cons_succ]
                  refine wpAnyH_take (i := 3) (oi := _) (v := ?_) rfl (by kernel_rfl) (by kernel_rfl) (by kernel_rfl) (fun _ _ _ h => h) (Or.inl ⟨by rfl, ?_⟩) (by assumption) ?_
                  rotate_left
                  · intro wq hSw; go_simp; try with_reducible rfl
                  simp only [Act.put, List.setIfInBounds_toArray, List.set_cons_zero, List.set_cons_succ, List.getElem_toArray, List.getElem_cons_zero, List.getElem_cons_succ]
                  refine wpAnyH_take (i := 4) (oi := _) (v := ?_) rfl (by kernel_rfl) (by kernel_rfl) (by kernel_rfl) (fun _ _ _ h => h) (Or.inl ⟨by rfl, ?_⟩) (by assumption) ?_
                  rotate_left
                  · intro wq hSw; have c0 := C0.out wq hSw; go_simp; try with_reducible rfl
                  simp only [Act.put, List.setIfInBounds_toArray, List.set_cons_zero, List.set_cons_succ, List.getElem_toArray, List.getElem_cons_zero, List.getElem_cons_succ]
                  refine wpAnyH_take (i := 5) (oi := _) (v := ?_) rfl (by kernel_rfl) (by kernel_rfl) (by kernel_rfl) (fun _ _ _ h => h) (Or.inl ⟨by rfl, ?_⟩) (by assumption) ?_
                  rotate_left
                  · intro wq hSw; go_simp; try with_reducible rfl
                  simp only [Act.put, List.setIfInBounds_toArray, List.set_cons_zero, List.set_cons_succ, List.getElem_toArray, List.getElem_cons_zero, List.getElem_cons_succ]
                  refine wpAnyH_take (i := 6) (oi := _) (v := ?_) rfl (by kernel_rfl) (by kernel_rfl) (by kernel_rfl) (fun _ _ _ h => h) (Or.inl ⟨by rfl, ?_⟩) (by assumption) ?_
                  rotate_left
                  · intro wq hSw; go_simp; try with_reducible rfl
                  simp only [Act.put, List.setIfInBounds_toArray, List.set_cons_zero, List.set_cons_succ, List.getElem_toArray, List.getElem_cons_zero, List.getElem_cons_succ]
                  refine wpAnyH_take (i := 7) (oi := _) (v := ?_) rfl (by kernel_rfl) (by kernel_rfl) (by kernel_rfl) (fun _ _ _ h => h) (Or.inl ⟨by rfl, ?_⟩) (by assumption) ?_
                  rotate_left
                  · intro wq hSw; go_simp; try with_reducible rfl
                  simp only [Act.put, List.setIfInBounds_toArray, List.set_cons_zero, List.set_cons_succ, List.getElem_toArray, List.getElem_cons_zero, List.getElem_cons_succ]
                  refine wpAnyH_take (i := 8) (oi := _) (v := ?_) rfl (by kernel_rfl) (by kernel_rfl) (by kernel_rfl) (fun _ _ _ h => h) (Or.inl ⟨by rfl, ?_⟩) (by assumption) ?_
                  rotate_left
                  · intro wq hSw; go_simp; try with_reducible rfl
                  simp only [Act.put, List.setIfInBounds_toArray, List.set_cons_zero, List.set_cons_succ, List.getElem_toArray, List.getElem_cons_zero, List.getElem_cons_succ]
                  refine wpAnyH_take (i := 9) (oi := _) (v := ?_) rfl (by kernel_rfl) (by kernel_rfl) (by kernel_rfl) (fun _ _ _ h => h) (Or.inl ⟨by rfl, ?_⟩) (by assumption) ?_
                  rotate_left
                  · intro wq hSw; have c1 := C1.out wq hSw; go_simp; try with_reducible rfl
                  simp only [Act.put, List.setIfInBounds_toArray, List.set_cons_zero, List.set_cons_succ, List.getElem_toArray, List.getElem_cons_zero, List.getElem_cons_succ]
                  refine wpAnyH_take (i := 10) (oi := _) (v := ?_) rfl (by kernel_rfl) (by kernel_rfl) (by kernel_rfl) (fun _ _ _ h => h) (Or.inl ⟨by rfl, ?_⟩) (by assumption) ?_
                  rotate_left
                  · intro wq hSw; go_simp; try with_reducible rfl
                  simp only [Act.put, List.setIfInBounds_toArray, List.set_cons_zero, List.set_cons_succ, List.getElem_toArray, List.getElem_cons_zero, List.getElem_cons_succ]
                  refine wpAnyH_ready (rs := [11]) (by kernel_rfl) (by simp) ?_
                  refine AllReadyH.cons (o := _) rfl (fun K hK => ?_) AllReadyH.nil
                  simp only [List.getElem_toArray, List.getElem_cons_zero, List.getElem_cons_succ]
                  go_simp
                  refine hK.out _ _ (hHeld.alloc hszP _) (fun hHeld2 => ?_)
                  clear hK K hHeld
                  simp only [Act.put, List.setIfInBounds_toArray, List.set_cons_zero, List.set_cons_succ, List.getElem_toArray, List.getElem_cons_zero, List.getElem_cons_succ]
                  refine wpAnyH_ready (rs := [12]) (by kernel_rfl) (by simp) ?_
                  refine AllReadyH.cons (o := _) rfl (fun K hK => ?_) AllReadyH.nil
                  simp only [List.getElem_toArray, List.getElem_cons_zero, List.getElem_cons_succ]
                  rw [if_pos (by rfl)]
                  refine wp_append_own _ (.tmp 78) (.tmp 89) 22 rfl wp.heap.size 2 i0 (.int .i64 0) 1 8 Try.underlying22 HI0.out.1 HI0.out.2.1 HI0.out.2.2.1 HI0.out.2.2.2 rfl (by decide) (.slice sP nP cP) nP (i64s P) rfl (HO.out.alloc _) ⟨wr.heap.size, 0, none⟩ 1 1 [.int .i64 (x + y)] rfl rfl (by intro j u hj; exact cell_one_new wr _ _ j u hj) (by intro u hu; simp at hu; subst hu; rfl) (by unfold maxLen; omega) (by omega) (by simp; omega) ?_
                  intro v5 w5 ho5 hgr5 _
                  obtain ⟨sP2, cP2, rfl, _, _⟩ := ownsRow_slice ho5
                  have HB5 := Lib.hid (bel_append HBP.out.drew _ HO.out hgr5 hszP)
                  have ho5' : w5.ownsRow wp.heap.size 2 1 (.slice sP2 (nP + 1) cP2) (nP + 1) (i64s (P ++ [x + y])) := by rw [i64s_snoc]; exact ho5
                  have HO5 := Lib.hid ho5'
                  clear ho5 hgr5 ho5'
                  refine hK.out _ _ HB5.out (fun hHeld2 => ?_)
                  clear hK K
                  simp only [Act.put, List.setIfInBounds_toArray, List.set_cons_zero, List.set_cons_succ, List.getElem_toArray, List.getElem_cons_zero, List.getElem_cons_succ]
                  refine wpAnyH_take (i := 13) (oi := _) (v := ?_) rfl (by kernel_rfl) (by kernel_rfl) (by kernel_rfl) (fun _ _ _ h => h) (Or.inl ⟨by rfl, ?_⟩) (by assumption) ?_
                  rotate_left
                  · intro wq hSw; go_simp; try with_reducible rfl
                  simp only [Act.put, List.setIfInBounds_toArray, List.set_cons_zero, List.set_cons_succ, List.getElem_toArray, List.getElem_cons_zero, List.getElem_cons_succ]
                  refine wpAnyH_done (by kernel_rfl) ?_ _
                  refine NoPanic.normal ?_
                  go_wp2
                  go_roundw
                  case rel => exact ⟨P ++ [x + y], i4 + 2, nP + 1, sP2, cP2, by omega, by omega, by simp [HPL.out], rfl, by first | rfl | go_num | (congr 1; omega), HO5.out, by rw [List.append_assoc]; exact HE.out, HB5.out⟩
                  case measure => simp [intOf]; omega
                · have hend := pairsI_end (L := A) (k := i4) (by omega)
                  rw [hend, List.append_nil] at HE
                  have hIP : IsInts wr (.slice sP nP cP) P := isInts_own HPL.out.symm HO.out
                  have HIP := Lib.hid hIP
                  have hil1 : ¬ (i4 : Int) + 1 < (nA : Int) := by omega
                  clear hend hIP
                  go_wp2
                  go_roundw
                  case rel => exact ⟨j + 1, nP, sP, cP, by omega, by first | rfl | go_num | (congr 1; omega), rfl, by rw [HPV.out, ← HE.out, HPL.out], by rw [HPV.out, ← HE.out]; exact HIP.out, HBo.out.trans (HBP.out.mono (Nat.le_trans hsz6 hszA))⟩
                  case measure => simp [intOf]; omega
end Go.Proofs.Ytnoleijdpilnpaa

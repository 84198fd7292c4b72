/- The law CodesWhole, walked. -/
import Derived.Test.YtijjpbpoekbekaaCodQ
set_option linter.unusedSimpArgs false
set_option linter.unusedVariables false
namespace Go.Proofs.Ytijjpbpoekbekaa
open Go.RowKit Pl
theorem tmod_bounds {x : Int} {N : Nat} (h : 0 < N) : -(N : Int) < x.tmod N ∧ x.tmod N < N := by
  by_cases hx : 0 ≤ x
  · rw [Int.tmod_eq_emod_of_nonneg hx]
    have := Int.emod_nonneg x (show (N : Int) ≠ 0 by omega)
    have := Int.emod_lt_of_pos x (show (0 : Int) < N by omega)
    omega
  · obtain ⟨y, rfl⟩ : ∃ y, x = -y := ⟨-x, by omega⟩
    rw [Int.neg_tmod, Int.tmod_eq_emod_of_nonneg (by omega)]
    have := Int.emod_nonneg y (show (N : Int) ≠ 0 by omega)
    have := Int.emod_lt_of_pos y (show (0 : Int) < N by omega)
    omega
set_option maxHeartbeats 16000000 in
set_option maxRecDepth 100000 in
theorem codesWhole_walk (a : Option Addr) (len cap : Nat) (z : List Int) (a' : Option Addr) (len' cap' : Nat) (z' : List Int) (w : World) (hr : IsRow .i64 w a len cap z) (hr' : IsRow .u8 w a' len' cap' z') :
    Calls Try.prog 6 #[.slice a len cap, .slice a' len' cap'] w fun e w' => e = .returned (.bool true) ∧ Below w.heap.size w w' := by
  obtain ⟨F0, hF0, hI, hcap, hmax, hrg, _⟩ := isInts_in hr
  have hB := isBytes_row hr'
  generalize bytesZ z' len' = B0 at hB
  obtain ⟨hB, hBl⟩ := hB
  have HRG := Lib.hid hrg
  have HF0 := Lib.hid hF0
  clear hr hr' hrg hF0
  go_enter Try.func6, Try.ntmps6
  go_wp2_with fail
  refine (begun_any w).mono ?_
  rintro e w1 ⟨rfl, hb1⟩
  have HB1 := Lib.hid hb1
  have HI1 := Lib.hid (hI.below hb1)
  have HY1 := Lib.hid (hB.below hb1)
  clear hb1 hI hB
  have HO : Hid ((w1.alloc (.cells #[.int .i64 1, .int .i64 1] 3)).ownsRow w1.heap.size 3 1 (.slice (some ⟨w1.heap.size, 0, none⟩) 2 2) 2 (i64s [1, 1])) := Lib.hid (own_new w1 (i64s [1, 1]) 3 (base := w1.heap.size) (Nat.le_refl _) (by unfold maxLen; simp [i64s]))
  have HBl : Hid (Below w1.heap.size w1 (w1.alloc (.cells #[.int .i64 1, .int .i64 1] 3))) := Lib.hid ((Below.refl _ _).alloc (Nat.le_refl _) _)
  go_wp2_with fail
  go_loopw [6, 7] (fun x y wr => ∃ (i n : Nat) (A : List Int) (g c : Nat), i ≤ len ∧ i ≤ 20 ∧ y = .int .i64 i ∧ x = .slice (some ⟨g, 0, none⟩) n c ∧ n = A.length ∧ 2 ≤ n ∧ n ≤ 2 + i ∧ n ≤ c ∧ c ≤ maxLen ∧ Whole A ∧ wr.ownsRow w1.heap.size 3 1 (.slice (some ⟨g, 0, none⟩) n c) n (i64s A) ∧ Below w1.heap.size w1 wr) (fun _ y _ => 20 - (intOf y).toNat)
  case atStart => exact ⟨0, 2, [1, 1], w1.heap.size, 2, by omega, by omega, rfl, rfl, rfl, by omega, by omega, by omega, by unfold maxLen; omega, whole_start, HO.out, HBl.out⟩
  case round =>
    obtain ⟨i, n, A, g, c, hi, hi20, rfl, rfl, hn, hn2, hni, hnc, hcm, hw, ho, hb⟩ := hrel
    have HN := Lib.hid hn
    have HW := Lib.hid hw
    have HOi := Lib.hid ho
    have HBi := Lib.hid hb
    have hsz : w1.heap.size ≤ wr.heap.size := hb.size
    clear hn hw ho hb HO HBl
    by_cases hlt : i < len ∧ i < 20
    · obtain ⟨hl1, hl2⟩ := hlt
      have hl1I : (i : Int) < (len : Int) := by omega
      have hl2I : (i : Int) < 20 := by omega
      obtain ⟨bb, off, kk, hs, _, _, hbb, hcc⟩ := HI1.out.cells (by rw [HF0.out]; omega)
      rw [HF0.out] at hs
      simp at hs
      obtain ⟨rfl, rfl⟩ := hs
      have c0 : wr.cell? ⟨bb, off + i, none⟩ = some (.int .i64 (F0.getD i 0)) := (HBi.out.cell (p := ⟨bb, off + i, none⟩) hbb).trans (hcc i (by rw [HF0.out]; exact hl1))
      have hxr := HRG.out (F0.getD i 0) (by rw [List.getD_eq_getElem?_getD, List.getElem?_eq_getElem (by rw [HF0.out]; exact hl1)]; exact List.getElem_mem _)
      generalize F0.getD i 0 = x at *
      have htm := @tmod_bounds x n (by omega)
      obtain ⟨R, hR⟩ : ∃ R, R = x.tmod (n : Int) := ⟨_, rfl⟩
      rw [← hR] at htm
      have hR2 := hR.symm
      have hnz : (n : Int) ≠ 0 := by omega
      have hRw : wrap64 R = R := by unfold wrap64; omega
      clear hcc hR
      obtain ⟨k, hk, hkR⟩ : ∃ k : Nat, k < n ∧ ((0 ≤ R ∧ R = k) ∨ (R < 0 ∧ -R = k)) := by
        by_cases h : 0 ≤ R
        · exact ⟨R.toNat, by omega, .inl ⟨h, by omega⟩⟩
        · exact ⟨(-R).toNat, by omega, .inr ⟨by omega, by omega⟩⟩
      have hkA : k < A.length := by rw [← HN.out]; exact hk
      have hcell := own_cellJ HOi.out hk
      have d0 := hcell.1
      have f0 := hcell.2
      have hxk := HW.out.1 (A.getD k 0) (by rw [List.getD_eq_getElem?_getD, List.getElem?_eq_getElem hkA]; exact List.getElem_mem hkA)
      have hkI : (k : Int) < (n : Int) := by omega
      have HSP : Hid (A.getD k 0 < 15 → Whole (A.set k (A.getD k 0 + 1) ++ [A.getD k 0 + 1])) := Lib.hid (whole_split HW.out hkA)
      obtain ⟨Y, hY⟩ : ∃ Y, Y = A.getD k 0 := ⟨_, rfl⟩
      rw [← hY] at d0 hxk HSP
      have HOS : Hid ((wr.setCell ⟨g, k, none⟩ (.int .i64 (Y + 1))).ownsRow w1.heap.size 3 1 (.slice (some ⟨g, 0, none⟩) n c) n (i64s (A.set k (Y + 1)))) := Lib.hid (by have := own_set HOi.out hk (.int .i64 (Y + 1)); rw [i64s_set] at this; exact this)
      have hgb : w1.heap.size ≤ g := own_lt HOi.out g rfl
      have HBS : Hid (Below w1.heap.size w1 (wr.setCell ⟨g, k, none⟩ (.int .i64 (Y + 1)))) := Lib.hid (HBi.out.setCell hgb _)
      have hcell2 := own_cellJ HOS.out hk
      have hYs : (A.set k (Y + 1)).getD k 0 = Y + 1 := by simp [List.getD, hkA]
      rw [hYs] at hcell2
      have d2 := hcell2.1
      have hszS : w1.heap.size ≤ (wr.setCell ⟨g, k, none⟩ (.int .i64 (Y + 1))).heap.size := by simpa using hsz
      have hNI : n + 1 ≤ 17592186044416 := by omega
      clear hcell hcell2 hY hYs
      rcases hkR with ⟨hR0, rfl⟩ | ⟨hR0, hRk⟩
      · by_cases h15 : Y < 15
        · go_wp2_with (at_builtin; refine wpList_append_j rfl (.tmp 59) (.tmp 64) rfl w1.heap.size (.slice (some ⟨g, 0, none⟩) n c) n _ (Y + 1) rfl HOS.out _ (by simp) rfl hNI hszS ?_; intro v' w3 hown hgr; obtain ⟨g', c', rfl, hg1, hg2, hcp3, hcp4⟩ := own_open hown (by omega))
          have hal : (A.set k (Y + 1) ++ [Y + 1]).length = n + 1 := by rw [List.length_append, List.length_set, List.length_singleton, HN.out]
          refine ⟨⟨i + 1, n + 1, _, g', c', by omega, by omega, by first | rfl | go_num, rfl, hal.symm, by omega, by omega, hcp3, hcp4, HSP.out h15, hown, ?_⟩, ?_⟩
          · exact bel_append HBS.out _ HOS.out hgr hszS
          · simp only [intOf_int]; omega
        · go_wp2_with fail
          refine ⟨⟨i + 1, n, A, g, c, by omega, by omega, by first | rfl | go_num, rfl, HN.out, by omega, by omega, hnc, hcm, HW.out, HOi.out, HBi.out⟩, ?_⟩
          simp only [intOf_int]; omega
      · have hRw2 : wrap64 (-R) = (k : Int) := by unfold wrap64; omega
        by_cases h15 : Y < 15
        · go_wp2_with (at_builtin; refine wpList_append_j rfl (.tmp 59) (.tmp 64) rfl w1.heap.size (.slice (some ⟨g, 0, none⟩) n c) n _ (Y + 1) rfl HOS.out _ (by simp) rfl hNI hszS ?_; intro v' w3 hown hgr; obtain ⟨g', c', rfl, hg1, hg2, hcp3, hcp4⟩ := own_open hown (by omega))
          have hal : (A.set k (Y + 1) ++ [Y + 1]).length = n + 1 := by rw [List.length_append, List.length_set, List.length_singleton, HN.out]
          refine ⟨⟨i + 1, n + 1, _, g', c', by omega, by omega, by first | rfl | go_num, rfl, hal.symm, by omega, by omega, hcp3, hcp4, HSP.out h15, hown, ?_⟩, ?_⟩
          · exact bel_append HBS.out _ HOS.out hgr hszS
          · simp only [intOf_int]; omega
        · go_wp2_with fail
          refine ⟨⟨i + 1, n, A, g, c, by omega, by omega, by first | rfl | go_num, rfl, HN.out, by omega, by omega, hnc, hcm, HW.out, HOi.out, HBi.out⟩, ?_⟩
          simp only [intOf_int]; omega
    · have hcase : (¬ i < len) ∨ (i < len ∧ ¬ i < 20) := by omega
      have hn22 : n ≤ 22 := by omega
      rcases hcase with hl1 | ⟨hl1, hl2⟩
      · have hl1I : (len : Int) ≤ (i : Int) := by omega
        have hok := whole_ok HW.out (by rw [← HN.out]; omega)
        have HOK := Lib.hid hok.1
        have HKR := Lib.hid hok.2
        clear hok
        go_wp2_with fail
        refine (short_any _ B0 40 wr (HY1.out.below HBi.out) (by omega)).mono ?_
        rintro e wr' ⟨vb, rfl, hY, rfl⟩
        have hBl40 : (B0.take 40).length ≤ 40 := by rw [List.length_take]; omega
        generalize B0.take 40 = B at *
        obtain ⟨ab, cb, rfl, hcb, hcb2⟩ := hY.slice
        have HY := Lib.hid hY
        clear hY
        go_wp2_with fail
        refine (kraft_ref _ A wr (isInts_own HN.out HOi.out) (by rw [← HN.out]; omega)).mono ?_
        rintro e wr' ⟨rfl, rfl⟩
        rw [HKR.out]
        go_wp2_with fail
        refine (read_any _ B wr HY.out (by omega)).mono ?_
        rintro e w2 ⟨r, rfl, hr2, hb2⟩
        have HR2 := Lib.hid hr2
        have HO2 := Lib.hid (own_below HOi.out hb2)
        have HB2 : Hid (Below w1.heap.size w1 w2) := Lib.hid (HBi.out.trans (hb2.mono HBi.out.size))
        have HYw : Hid (∀ W, Below wr.heap.size wr W → IsBytes W (.slice ab B.length cb) B) := Lib.hid fun W hW => HY.out.below hW
        have HBw : Hid (Below wr.heap.size wr w2) := Lib.hid hb2
        have hrw : wr.heap.size ≤ r := hr2.1
        clear hr2 hb2
        obtain ⟨ws, hws⟩ : ∃ ws : World, ws = wr := ⟨_, rfl⟩
        subst hws
        go_wp2_with fail
        go_loopw [10] (fun x wl => ∃ (nn p : Nat), x = .int .i64 nn ∧ nn ≤ p ∧ Rd wl ws.heap.size r B p ∧ wl.ownsRow w1.heap.size 3 1 (.slice (some ⟨g, 0, none⟩) n c) n (i64s A) ∧ Below ws.heap.size ws wl) (fun x _ => 400 - (intOf x).toNat)
        case atStart => exact ⟨0, 0, rfl, by omega, HR2.out, HO2.out, HBw.out⟩
        case round =>
          obtain ⟨nn, p, rfl, hnp, hrl, hol, hbl⟩ := hrel
          have hp8 := hrl.2.1
          have HRl := Lib.hid hrl
          have HOl := Lib.hid hol
          have HBl := Lib.hid hbl
          clear hrl hol hbl HR2 HO2
          obtain ⟨Q, hQ⟩ : ∃ Q : Nat, Q = 8 * B.length - p := ⟨_, rfl⟩
          have hl1 := left_any r _ B p wr HRl.out
          rw [show 8 * (B.length : Int) - (p : Int) = (Q : Int) by omega] at hl1
          have HQ := Lib.hid hQ
          have hQ320 : Q ≤ 320 := by omega
          have hnn320 : nn ≤ 320 := by omega
          clear hQ
          by_cases h15 : 15 ≤ Q
          · have h15I : (15 : Int) ≤ (Q : Int) := by omega
            go_wp2_with fail
            refine hl1.mono ?_
            rintro e w3 ⟨rfl, k1, rfl⟩
            clear hl1
            have hl2 := left_any r _ B p (wr.drewN k1) HRl.out
            rw [show 8 * (B.length : Int) - (p : Int) = (Q : Int) by have := HQ.out; omega] at hl2
            go_wp2_with fail
            refine hl2.mono ?_
            rintro e w4 ⟨rfl, k2, rfl⟩
            clear hl2
            go_wp2_with fail
            refine (read_codes _ A (-1) 1 r _ B p (wr.drewN (k1 + k2)) (isInts_own HN.out HOl.out) (by rw [← HN.out]; omega) (by omega) HRl.out (by omega)).mono ?_
            rintro e w5 ⟨hg5, ⟨h, _⟩ | ⟨_, L5, r5, n5, sp5, cp5, hrd5, rfl, ho5, m5, hr5, _⟩⟩
            · exact absurd HOK.out h
            rw [rd_one HKR.out (by rw [List.length_drop, bitsB_length]; have := HQ.out; omega)] at hrd5
            simp only [Prod.mk.injEq] at hrd5
            obtain ⟨rfl, rfl, -⟩ := hrd5
            have HG5 : Hid (Gr wr w5 r) := Lib.hid (Gr.trans ((Gr.refl wr r).drewN (k1 + k2)) hg5)
            have HR5 := Lib.hid hr5
            obtain ⟨cs, hcs⟩ := HRl.out.blk
            have HO5 := Lib.hid (own_gr HOl.out HG5.out hcs (by decide))
            have HB5 : Hid (Below ws.heap.size ws w5) := Lib.hid (HBl.out.trans (HG5.out.below HBl.out.size hrw))
            have hp5 := hr5.2.1
            obtain ⟨Q2, hQ2⟩ : ∃ Q2 : Nat, Q2 = 8 * B.length - (p + m5) := ⟨_, rfl⟩
            have HQ2 := Lib.hid hQ2
            have hqle : Q2 ≤ Q := by have := HQ.out; omega
            have hl5 := left_any r _ B (p + m5) w5 HR5.out
            rw [show 8 * (B.length : Int) - ((p + m5 : Nat) : Int) = (Q2 : Int) by omega] at hl5
            clear hg5 hr5 ho5 hcs hQ2
            go_wp2_with fail
            refine hl5.mono ?_
            rintro e w6 ⟨rfl, k3, rfl⟩
            clear hl5
            have hqleI : (Q2 : Int) ≤ (Q : Int) := by omega
            have hnI : (nn : Int) ≤ 400 := by omega
            have hl6 := left_any r _ B (p + m5) (w5.drewN k3) HR5.out
            rw [show 8 * (B.length : Int) - ((p + m5 : Nat) : Int) = (Q2 : Int) by have := HQ2.out; omega] at hl6
            go_wp2_with fail
            refine hl6.mono ?_
            rintro e w7 ⟨rfl, k4, rfl⟩
            clear hl6
            by_cases hQQ : Q2 = Q
            · subst hQQ
              have hqt := beq_t (rfl : (Q2 : Int) = (Q2 : Int))
              have HRX := HR5
              have HOX : Hid ((w5.drewN (k3 + k4)).ownsRow w1.heap.size 3 1 (.slice (some ⟨g, 0, none⟩) n c) n (i64s A)) := Lib.hid HO5.out
              have HBX0 : Hid (Below ws.heap.size ws (w5.drewN (k3 + k4))) := Lib.hid (bel_drewN HB5.out (k3 + k4))
              have HBX : Hid (Below w1.heap.size w1 (w5.drewN (k3 + k4))) := Lib.hid (HBi.out.trans (HBX0.out.mono HBi.out.size))
              have HYX := Lib.hid (HYw.out _ HBX0.out)
              clear HR5 HO5 HB5 HBX0 HG5 HRl HOl HBl HBw
              clear HRX
              go_wp2_with fail
              refine (bits_any _ B _ HYX.out (by omega)).mono ?_
              rintro e w6 ⟨v6, rfl, ho6, hb6⟩
              obtain ⟨sb, cb6, rfl, hcb6, hcm6⟩ := ownsRow_slice ho6
              have HB6 : Hid (Below w1.heap.size w1 w6) := Lib.hid (HBX.out.trans (hb6.mono HBX.out.size))
              have HY6 := Lib.hid (HYX.out.below hb6)
              have HO6 := Lib.hid (own_below HOX.out hb6)
              have HA6 : Hid (BoolsAt w6 sb cb6 (bitsB B)) := Lib.hid (boolsAt_own (by rw [bitsB_length]) ho6)
              clear ho6 hb6 HBX HYX HOX
              go_wp2_with fail
              refine (read_ref sb (8 * B.length) cb6 (bitsB B) _ A 0 1000 w6 (by rw [bitsB_length]) HA6.out (by rw [bitsB_length]; omega) (isInts_own HN.out HO6.out) (by rw [← HN.out]; omega) (by omega)).mono ?_
              rintro e w7 ⟨hb7, ⟨h, _⟩ | ⟨_, L', r', n', sp7, cp7, hrd', rfl, ho7⟩⟩
              · exact absurd HOK.out h
              have hsz := rdF_errno (F := A) (en := 0) (M := bitsB B) (1000 : Int).toNat [] 0 (by simp) (by simp)
              rw [hrd', bitsB_length] at hsz
              have hL320 : L'.length ≤ 320 := by have := hsz.1; simp at this; omega
              have hn320 : n' ≤ 320 := by have := hsz.2; simp at this; omega
              have HB7 : Hid (Below w1.heap.size w1 w7) := Lib.hid (HB6.out.trans (hb7.mono HB6.out.size))
              have HY7 := Lib.hid (HY6.out.below hb7)
              have HO7 := Lib.hid (own_below HO6.out hb7)
              have HL7 := Lib.hid (isInts_own rfl ho7)
              have HRD := Lib.hid hrd'
              clear ho7 hb7 HB6 HY6 HO6 HA6 hrd' hsz
              go_wp2_with fail
              refine (read_any _ B _ HY7.out (by omega)).mono ?_
              rintro e w8 ⟨r2, rfl, hr8, hb8⟩
              have HB8 : Hid (Below w1.heap.size w1 w8) := Lib.hid (HB7.out.trans (hb8.mono HB7.out.size))
              have HO8 := Lib.hid (own_below HO7.out hb8)
              have HL8 := Lib.hid (HL7.out.below hb8)
              have HR8 := Lib.hid hr8
              have hr2w : w7.heap.size ≤ r2 := hr8.1
              have hb8s := hb8.size
              have HB78 : Hid (Below w7.heap.size w7 w8) := Lib.hid hb8
              clear hr8 hb8 HO7 HY7
              go_wp2_with fail
              refine (read_codes _ A 0 1000 r2 _ B 0 w8 (isInts_own HN.out HO8.out) (by rw [← HN.out]; omega) (by omega) HR8.out (by omega)).mono ?_
              rintro e w9 ⟨hg9, ⟨h, _⟩ | ⟨_, L2, r3, n3, sp9, cp9, hrd2, rfl, ho9, _⟩⟩
              · exact absurd HOK.out h
              rw [List.drop_zero, HRD.out] at hrd2
              simp only [Prod.mk.injEq] at hrd2
              obtain ⟨rfl, rfl, -⟩ := hrd2
              have HL9 : Hid (IsInts w9 (.slice sp7 L'.length cp7) L') := Lib.hid (HL7.out.below (HB78.out.trans (hg9.below hb8s hr2w)))
              have HM9 := Lib.hid (isInts_own rfl ho9)
              have HB9 : Hid (Below w1.heap.size w1 w9) := Lib.hid (HB8.out.trans (hg9.below HB8.out.size (Nat.le_trans HB7.out.size hr2w)))
              have hee := beq_t (rfl : r' = r')
              clear hg9 ho9 HR8 HO8 HL8 HB8
              go_wp2_with fail
              refine (ints_same _ _ L' w9 HL9.out HM9.out (by omega)).mono ?_
              rintro e w10 ⟨rfl, hb10⟩
              have HB10 := Lib.hid (HB1.out.trans ((HB9.out.trans (hb10.mono HB9.out.size)).mono HB1.out.size))
              clear hb10
              go_wp2_with fail
              go_ret
              exact ⟨rfl, HB10.out⟩
            · have hqf := beq_f (show ¬ (Q2 : Int) = (Q : Int) by omega)
              go_wp2_with fail
              refine ⟨⟨nn + 1, p + m5, by first | rfl | go_num, by have := HQ.out; have := HQ2.out; omega, HR5.out, HO5.out, bel_drewN HB5.out (k3 + k4)⟩, ?_⟩
              simp only [intOf_int]; omega
          · have h15I : (Q : Int) < 15 := by omega
            go_wp2_with fail
            refine hl1.mono ?_
            rintro e w3 ⟨rfl, k1, rfl⟩
            clear hl1
            have HRX := HRl
            have HOX : Hid ((wr.drewN k1).ownsRow w1.heap.size 3 1 (.slice (some ⟨g, 0, none⟩) n c) n (i64s A)) := Lib.hid HOl.out
            have HBX0 : Hid (Below ws.heap.size ws (wr.drewN k1)) := Lib.hid (bel_drewN HBl.out k1)
            have HBX : Hid (Below w1.heap.size w1 (wr.drewN k1)) := Lib.hid (HBi.out.trans (HBX0.out.mono HBi.out.size))
            have HYX := Lib.hid (HYw.out _ HBX0.out)
            clear HRl HOl HBl HBX0 HBw
            clear HRX
            go_wp2_with fail
            refine (bits_any _ B _ HYX.out (by omega)).mono ?_
            rintro e w6 ⟨v6, rfl, ho6, hb6⟩
            obtain ⟨sb, cb6, rfl, hcb6, hcm6⟩ := ownsRow_slice ho6
            have HB6 : Hid (Below w1.heap.size w1 w6) := Lib.hid (HBX.out.trans (hb6.mono HBX.out.size))
            have HY6 := Lib.hid (HYX.out.below hb6)
            have HO6 := Lib.hid (own_below HOX.out hb6)
            have HA6 : Hid (BoolsAt w6 sb cb6 (bitsB B)) := Lib.hid (boolsAt_own (by rw [bitsB_length]) ho6)
            clear ho6 hb6 HBX HYX HOX
            go_wp2_with fail
            refine (read_ref sb (8 * B.length) cb6 (bitsB B) _ A 0 1000 w6 (by rw [bitsB_length]) HA6.out (by rw [bitsB_length]; omega) (isInts_own HN.out HO6.out) (by rw [← HN.out]; omega) (by omega)).mono ?_
            rintro e w7 ⟨hb7, ⟨h, _⟩ | ⟨_, L', r', n', sp7, cp7, hrd', rfl, ho7⟩⟩
            · exact absurd HOK.out h
            have hsz := rdF_errno (F := A) (en := 0) (M := bitsB B) (1000 : Int).toNat [] 0 (by simp) (by simp)
            rw [hrd', bitsB_length] at hsz
            have hL320 : L'.length ≤ 320 := by have := hsz.1; simp at this; omega
            have hn320 : n' ≤ 320 := by have := hsz.2; simp at this; omega
            have HB7 : Hid (Below w1.heap.size w1 w7) := Lib.hid (HB6.out.trans (hb7.mono HB6.out.size))
            have HY7 := Lib.hid (HY6.out.below hb7)
            have HO7 := Lib.hid (own_below HO6.out hb7)
            have HL7 := Lib.hid (isInts_own rfl ho7)
            have HRD := Lib.hid hrd'
            clear ho7 hb7 HB6 HY6 HO6 HA6 hrd' hsz
            go_wp2_with fail
            refine (read_any _ B _ HY7.out (by omega)).mono ?_
            rintro e w8 ⟨r2, rfl, hr8, hb8⟩
            have HB8 : Hid (Below w1.heap.size w1 w8) := Lib.hid (HB7.out.trans (hb8.mono HB7.out.size))
            have HO8 := Lib.hid (own_below HO7.out hb8)
            have HL8 := Lib.hid (HL7.out.below hb8)
            have HR8 := Lib.hid hr8
            have hr2w : w7.heap.size ≤ r2 := hr8.1
            have hb8s := hb8.size
            have HB78 : Hid (Below w7.heap.size w7 w8) := Lib.hid hb8
            clear hr8 hb8 HO7 HY7
            go_wp2_with fail
            refine (read_codes _ A 0 1000 r2 _ B 0 w8 (isInts_own HN.out HO8.out) (by rw [← HN.out]; omega) (by omega) HR8.out (by omega)).mono ?_
            rintro e w9 ⟨hg9, ⟨h, _⟩ | ⟨_, L2, r3, n3, sp9, cp9, hrd2, rfl, ho9, _⟩⟩
            · exact absurd HOK.out h
            rw [List.drop_zero, HRD.out] at hrd2
            simp only [Prod.mk.injEq] at hrd2
            obtain ⟨rfl, rfl, -⟩ := hrd2
            have HL9 : Hid (IsInts w9 (.slice sp7 L'.length cp7) L') := Lib.hid (HL7.out.below (HB78.out.trans (hg9.below hb8s hr2w)))
            have HM9 := Lib.hid (isInts_own rfl ho9)
            have HB9 : Hid (Below w1.heap.size w1 w9) := Lib.hid (HB8.out.trans (hg9.below HB8.out.size (Nat.le_trans HB7.out.size hr2w)))
            have hee := beq_t (rfl : r' = r')
            clear hg9 ho9 HR8 HO8 HL8 HB8
            go_wp2_with fail
            refine (ints_same _ _ L' w9 HL9.out HM9.out (by omega)).mono ?_
            rintro e w10 ⟨rfl, hb10⟩
            have HB10 := Lib.hid (HB1.out.trans ((HB9.out.trans (hb10.mono HB9.out.size)).mono HB1.out.size))
            clear hb10
            go_wp2_with fail
            go_ret
            exact ⟨rfl, HB10.out⟩
      · have hl1I : (i : Int) < (len : Int) := by omega
        have hl2I : (20 : Int) ≤ (i : Int) := by omega
        have hok := whole_ok HW.out (by rw [← HN.out]; omega)
        have HOK := Lib.hid hok.1
        have HKR := Lib.hid hok.2
        clear hok
        go_wp2_with fail
        refine (short_any _ B0 40 wr (HY1.out.below HBi.out) (by omega)).mono ?_
        rintro e wr' ⟨vb, rfl, hY, rfl⟩
        have hBl40 : (B0.take 40).length ≤ 40 := by rw [List.length_take]; omega
        generalize B0.take 40 = B at *
        obtain ⟨ab, cb, rfl, hcb, hcb2⟩ := hY.slice
        have HY := Lib.hid hY
        clear hY
        go_wp2_with fail
        refine (kraft_ref _ A wr (isInts_own HN.out HOi.out) (by rw [← HN.out]; omega)).mono ?_
        rintro e wr' ⟨rfl, rfl⟩
        rw [HKR.out]
        go_wp2_with fail
        refine (read_any _ B wr HY.out (by omega)).mono ?_
        rintro e w2 ⟨r, rfl, hr2, hb2⟩
        have HR2 := Lib.hid hr2
        have HO2 := Lib.hid (own_below HOi.out hb2)
        have HB2 : Hid (Below w1.heap.size w1 w2) := Lib.hid (HBi.out.trans (hb2.mono HBi.out.size))
        have HYw : Hid (∀ W, Below wr.heap.size wr W → IsBytes W (.slice ab B.length cb) B) := Lib.hid fun W hW => HY.out.below hW
        have HBw : Hid (Below wr.heap.size wr w2) := Lib.hid hb2
        have hrw : wr.heap.size ≤ r := hr2.1
        clear hr2 hb2
        obtain ⟨ws, hws⟩ : ∃ ws : World, ws = wr := ⟨_, rfl⟩
        subst hws
        go_wp2_with fail
        go_loopw [10] (fun x wl => ∃ (nn p : Nat), x = .int .i64 nn ∧ nn ≤ p ∧ Rd wl ws.heap.size r B p ∧ wl.ownsRow w1.heap.size 3 1 (.slice (some ⟨g, 0, none⟩) n c) n (i64s A) ∧ Below ws.heap.size ws wl) (fun x _ => 400 - (intOf x).toNat)
        case atStart => exact ⟨0, 0, rfl, by omega, HR2.out, HO2.out, HBw.out⟩
        case round =>
          obtain ⟨nn, p, rfl, hnp, hrl, hol, hbl⟩ := hrel
          have hp8 := hrl.2.1
          have HRl := Lib.hid hrl
          have HOl := Lib.hid hol
          have HBl := Lib.hid hbl
          clear hrl hol hbl HR2 HO2
          obtain ⟨Q, hQ⟩ : ∃ Q : Nat, Q = 8 * B.length - p := ⟨_, rfl⟩
          have hl1 := left_any r _ B p wr HRl.out
          rw [show 8 * (B.length : Int) - (p : Int) = (Q : Int) by omega] at hl1
          have HQ := Lib.hid hQ
          have hQ320 : Q ≤ 320 := by omega
          have hnn320 : nn ≤ 320 := by omega
          clear hQ
          by_cases h15 : 15 ≤ Q
          · have h15I : (15 : Int) ≤ (Q : Int) := by omega
            go_wp2_with fail
            refine hl1.mono ?_
            rintro e w3 ⟨rfl, k1, rfl⟩
            clear hl1
            have hl2 := left_any r _ B p (wr.drewN k1) HRl.out
            rw [show 8 * (B.length : Int) - (p : Int) = (Q : Int) by have := HQ.out; omega] at hl2
            go_wp2_with fail
            refine hl2.mono ?_
            rintro e w4 ⟨rfl, k2, rfl⟩
            clear hl2
            go_wp2_with fail
            refine (read_codes _ A (-1) 1 r _ B p (wr.drewN (k1 + k2)) (isInts_own HN.out HOl.out) (by rw [← HN.out]; omega) (by omega) HRl.out (by omega)).mono ?_
            rintro e w5 ⟨hg5, ⟨h, _⟩ | ⟨_, L5, r5, n5, sp5, cp5, hrd5, rfl, ho5, m5, hr5, _⟩⟩
            · exact absurd HOK.out h
            rw [rd_one HKR.out (by rw [List.length_drop, bitsB_length]; have := HQ.out; omega)] at hrd5
            simp only [Prod.mk.injEq] at hrd5
            obtain ⟨rfl, rfl, -⟩ := hrd5
            have HG5 : Hid (Gr wr w5 r) := Lib.hid (Gr.trans ((Gr.refl wr r).drewN (k1 + k2)) hg5)
            have HR5 := Lib.hid hr5
            obtain ⟨cs, hcs⟩ := HRl.out.blk
            have HO5 := Lib.hid (own_gr HOl.out HG5.out hcs (by decide))
            have HB5 : Hid (Below ws.heap.size ws w5) := Lib.hid (HBl.out.trans (HG5.out.below HBl.out.size hrw))
            have hp5 := hr5.2.1
            obtain ⟨Q2, hQ2⟩ : ∃ Q2 : Nat, Q2 = 8 * B.length - (p + m5) := ⟨_, rfl⟩
            have HQ2 := Lib.hid hQ2
            have hqle : Q2 ≤ Q := by have := HQ.out; omega
            have hl5 := left_any r _ B (p + m5) w5 HR5.out
            rw [show 8 * (B.length : Int) - ((p + m5 : Nat) : Int) = (Q2 : Int) by omega] at hl5
            clear hg5 hr5 ho5 hcs hQ2
            go_wp2_with fail
            refine hl5.mono ?_
            rintro e w6 ⟨rfl, k3, rfl⟩
            clear hl5
            have hqleI : (Q2 : Int) ≤ (Q : Int) := by omega
            have hnI : (nn : Int) ≤ 400 := by omega
            have hl6 := left_any r _ B (p + m5) (w5.drewN k3) HR5.out
            rw [show 8 * (B.length : Int) - ((p + m5 : Nat) : Int) = (Q2 : Int) by have := HQ2.out; omega] at hl6
            go_wp2_with fail
            refine hl6.mono ?_
            rintro e w7 ⟨rfl, k4, rfl⟩
            clear hl6
            by_cases hQQ : Q2 = Q
            · subst hQQ
              have hqt := beq_t (rfl : (Q2 : Int) = (Q2 : Int))
              have HRX := HR5
              have HOX : Hid ((w5.drewN (k3 + k4)).ownsRow w1.heap.size 3 1 (.slice (some ⟨g, 0, none⟩) n c) n (i64s A)) := Lib.hid HO5.out
              have HBX0 : Hid (Below ws.heap.size ws (w5.drewN (k3 + k4))) := Lib.hid (bel_drewN HB5.out (k3 + k4))
              have HBX : Hid (Below w1.heap.size w1 (w5.drewN (k3 + k4))) := Lib.hid (HBi.out.trans (HBX0.out.mono HBi.out.size))
              have HYX := Lib.hid (HYw.out _ HBX0.out)
              clear HR5 HO5 HB5 HBX0 HG5 HRl HOl HBl HBw
              clear HRX
              go_wp2_with fail
              refine (bits_any _ B _ HYX.out (by omega)).mono ?_
              rintro e w6 ⟨v6, rfl, ho6, hb6⟩
              obtain ⟨sb, cb6, rfl, hcb6, hcm6⟩ := ownsRow_slice ho6
              have HB6 : Hid (Below w1.heap.size w1 w6) := Lib.hid (HBX.out.trans (hb6.mono HBX.out.size))
              have HY6 := Lib.hid (HYX.out.below hb6)
              have HO6 := Lib.hid (own_below HOX.out hb6)
              have HA6 : Hid (BoolsAt w6 sb cb6 (bitsB B)) := Lib.hid (boolsAt_own (by rw [bitsB_length]) ho6)
              clear ho6 hb6 HBX HYX HOX
              go_wp2_with fail
              refine (read_ref sb (8 * B.length) cb6 (bitsB B) _ A 0 1000 w6 (by rw [bitsB_length]) HA6.out (by rw [bitsB_length]; omega) (isInts_own HN.out HO6.out) (by rw [← HN.out]; omega) (by omega)).mono ?_
              rintro e w7 ⟨hb7, ⟨h, _⟩ | ⟨_, L', r', n', sp7, cp7, hrd', rfl, ho7⟩⟩
              · exact absurd HOK.out h
              have hsz := rdF_errno (F := A) (en := 0) (M := bitsB B) (1000 : Int).toNat [] 0 (by simp) (by simp)
              rw [hrd', bitsB_length] at hsz
              have hL320 : L'.length ≤ 320 := by have := hsz.1; simp at this; omega
              have hn320 : n' ≤ 320 := by have := hsz.2; simp at this; omega
              have HB7 : Hid (Below w1.heap.size w1 w7) := Lib.hid (HB6.out.trans (hb7.mono HB6.out.size))
              have HY7 := Lib.hid (HY6.out.below hb7)
              have HO7 := Lib.hid (own_below HO6.out hb7)
              have HL7 := Lib.hid (isInts_own rfl ho7)
              have HRD := Lib.hid hrd'
              clear ho7 hb7 HB6 HY6 HO6 HA6 hrd' hsz
              go_wp2_with fail
              refine (read_any _ B _ HY7.out (by omega)).mono ?_
              rintro e w8 ⟨r2, rfl, hr8, hb8⟩
              have HB8 : Hid (Below w1.heap.size w1 w8) := Lib.hid (HB7.out.trans (hb8.mono HB7.out.size))
              have HO8 := Lib.hid (own_below HO7.out hb8)
              have HL8 := Lib.hid (HL7.out.below hb8)
              have HR8 := Lib.hid hr8
              have hr2w : w7.heap.size ≤ r2 := hr8.1
              have hb8s := hb8.size
              have HB78 : Hid (Below w7.heap.size w7 w8) := Lib.hid hb8
              clear hr8 hb8 HO7 HY7
              go_wp2_with fail
              refine (read_codes _ A 0 1000 r2 _ B 0 w8 (isInts_own HN.out HO8.out) (by rw [← HN.out]; omega) (by omega) HR8.out (by omega)).mono ?_
              rintro e w9 ⟨hg9, ⟨h, _⟩ | ⟨_, L2, r3, n3, sp9, cp9, hrd2, rfl, ho9, _⟩⟩
              · exact absurd HOK.out h
              rw [List.drop_zero, HRD.out] at hrd2
              simp only [Prod.mk.injEq] at hrd2
              obtain ⟨rfl, rfl, -⟩ := hrd2
              have HL9 : Hid (IsInts w9 (.slice sp7 L'.length cp7) L') := Lib.hid (HL7.out.below (HB78.out.trans (hg9.below hb8s hr2w)))
              have HM9 := Lib.hid (isInts_own rfl ho9)
              have HB9 : Hid (Below w1.heap.size w1 w9) := Lib.hid (HB8.out.trans (hg9.below HB8.out.size (Nat.le_trans HB7.out.size hr2w)))
              have hee := beq_t (rfl : r' = r')
              clear hg9 ho9 HR8 HO8 HL8 HB8
              go_wp2_with fail
              refine (ints_same _ _ L' w9 HL9.out HM9.out (by omega)).mono ?_
              rintro e w10 ⟨rfl, hb10⟩
              have HB10 := Lib.hid (HB1.out.trans ((HB9.out.trans (hb10.mono HB9.out.size)).mono HB1.out.size))
              clear hb10
              go_wp2_with fail
              go_ret
              exact ⟨rfl, HB10.out⟩
            · have hqf := beq_f (show ¬ (Q2 : Int) = (Q : Int) by omega)
              go_wp2_with fail
              refine ⟨⟨nn + 1, p + m5, by first | rfl | go_num, by have := HQ.out; have := HQ2.out; omega, HR5.out, HO5.out, bel_drewN HB5.out (k3 + k4)⟩, ?_⟩
              simp only [intOf_int]; omega
          · have h15I : (Q : Int) < 15 := by omega
            go_wp2_with fail
            refine hl1.mono ?_
            rintro e w3 ⟨rfl, k1, rfl⟩
            clear hl1
            have HRX := HRl
            have HOX : Hid ((wr.drewN k1).ownsRow w1.heap.size 3 1 (.slice (some ⟨g, 0, none⟩) n c) n (i64s A)) := Lib.hid HOl.out
            have HBX0 : Hid (Below ws.heap.size ws (wr.drewN k1)) := Lib.hid (bel_drewN HBl.out k1)
            have HBX : Hid (Below w1.heap.size w1 (wr.drewN k1)) := Lib.hid (HBi.out.trans (HBX0.out.mono HBi.out.size))
            have HYX := Lib.hid (HYw.out _ HBX0.out)
            clear HRl HOl HBl HBX0 HBw
            clear HRX
            go_wp2_with fail
            refine (bits_any _ B _ HYX.out (by omega)).mono ?_
            rintro e w6 ⟨v6, rfl, ho6, hb6⟩
            obtain ⟨sb, cb6, rfl, hcb6, hcm6⟩ := ownsRow_slice ho6
            have HB6 : Hid (Below w1.heap.size w1 w6) := Lib.hid (HBX.out.trans (hb6.mono HBX.out.size))
            have HY6 := Lib.hid (HYX.out.below hb6)
            have HO6 := Lib.hid (own_below HOX.out hb6)
            have HA6 : Hid (BoolsAt w6 sb cb6 (bitsB B)) := Lib.hid (boolsAt_own (by rw [bitsB_length]) ho6)
            clear ho6 hb6 HBX HYX HOX
            go_wp2_with fail
            refine (read_ref sb (8 * B.length) cb6 (bitsB B) _ A 0 1000 w6 (by rw [bitsB_length]) HA6.out (by rw [bitsB_length]; omega) (isInts_own HN.out HO6.out) (by rw [← HN.out]; omega) (by omega)).mono ?_
            rintro e w7 ⟨hb7, ⟨h, _⟩ | ⟨_, L', r', n', sp7, cp7, hrd', rfl, ho7⟩⟩
            · exact absurd HOK.out h
            have hsz := rdF_errno (F := A) (en := 0) (M := bitsB B) (1000 : Int).toNat [] 0 (by simp) (by simp)
            rw [hrd', bitsB_length] at hsz
            have hL320 : L'.length ≤ 320 := by have := hsz.1; simp at this; omega
            have hn320 : n' ≤ 320 := by have := hsz.2; simp at this; omega
            have HB7 : Hid (Below w1.heap.size w1 w7) := Lib.hid (HB6.out.trans (hb7.mono HB6.out.size))
            have HY7 := Lib.hid (HY6.out.below hb7)
            have HO7 := Lib.hid (own_below HO6.out hb7)
            have HL7 := Lib.hid (isInts_own rfl ho7)
            have HRD := Lib.hid hrd'
            clear ho7 hb7 HB6 HY6 HO6 HA6 hrd' hsz
            go_wp2_with fail
            refine (read_any _ B _ HY7.out (by omega)).mono ?_
            rintro e w8 ⟨r2, rfl, hr8, hb8⟩
            have HB8 : Hid (Below w1.heap.size w1 w8) := Lib.hid (HB7.out.trans (hb8.mono HB7.out.size))
            have HO8 := Lib.hid (own_below HO7.out hb8)
            have HL8 := Lib.hid (HL7.out.below hb8)
            have HR8 := Lib.hid hr8
            have hr2w : w7.heap.size ≤ r2 := hr8.1
            have hb8s := hb8.size
            have HB78 : Hid (Below w7.heap.size w7 w8) := Lib.hid hb8
            clear hr8 hb8 HO7 HY7
            go_wp2_with fail
            refine (read_codes _ A 0 1000 r2 _ B 0 w8 (isInts_own HN.out HO8.out) (by rw [← HN.out]; omega) (by omega) HR8.out (by omega)).mono ?_
            rintro e w9 ⟨hg9, ⟨h, _⟩ | ⟨_, L2, r3, n3, sp9, cp9, hrd2, rfl, ho9, _⟩⟩
            · exact absurd HOK.out h
            rw [List.drop_zero, HRD.out] at hrd2
            simp only [Prod.mk.injEq] at hrd2
            obtain ⟨rfl, rfl, -⟩ := hrd2
            have HL9 : Hid (IsInts w9 (.slice sp7 L'.length cp7) L') := Lib.hid (HL7.out.below (HB78.out.trans (hg9.below hb8s hr2w)))
            have HM9 := Lib.hid (isInts_own rfl ho9)
            have HB9 : Hid (Below w1.heap.size w1 w9) := Lib.hid (HB8.out.trans (hg9.below HB8.out.size (Nat.le_trans HB7.out.size hr2w)))
            have hee := beq_t (rfl : r' = r')
            clear hg9 ho9 HR8 HO8 HL8 HB8
            go_wp2_with fail
            refine (ints_same _ _ L' w9 HL9.out HM9.out (by omega)).mono ?_
            rintro e w10 ⟨rfl, hb10⟩
            have HB10 := Lib.hid (HB1.out.trans ((HB9.out.trans (hb10.mono HB9.out.size)).mono HB1.out.size))
            clear hb10
            go_wp2_with fail
            go_ret
            exact ⟨rfl, HB10.out⟩
end Go.Proofs.Ytijjpbpoekbekaa

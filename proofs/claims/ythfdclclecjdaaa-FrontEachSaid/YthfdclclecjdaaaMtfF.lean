/- folioref1.Back: a contract. -/
import Derived.Test.YthfdclclecjdaaaMtfE
set_option linter.unusedSimpArgs false
set_option linter.unusedVariables false
namespace Go.Proofs.Ythfdclclecjdaaa
open Go.RowKit Pl

attribute [local go_sem ↓] allocArr_eq
attribute [local go_sem] run_allocArr
set_option maxHeartbeats 4000000 in
set_option maxRecDepth 100000 in
theorem back_any (v : Value) (B : List Nat) (w : World) (hv : IsBytes w v B) (hB : B.length ≤ 4294967296) :
    Calls Try.prog 12 #[v] w (MadePost (dec B) w) := by
  obtain ⟨a, cap, rfl, hcap, hmax⟩ := hv.slice
  unfold maxLen at hmax
  have HV := Lib.hid hv
  clear hv
  have HE := Lib.hid (dec_length B)
  go_enter Try.func12, Try.ntmps12
  go_wp2
  have HB0 : Hid (Below w.heap.size w (w.alloc (.cells zeroCells.toArray 29))) := Lib.hid ((Below.refl _ _).alloc (Nat.le_refl _) _)
  have HA0 := Lib.hid (Blk.new w 29 zeroCells)
  go_loopw [4] (fun x wr => ∃ i : Nat, i ≤ 256 ∧ x = .int .i64 i ∧ Blk wr w.heap.size 29 (u8s (ascAt i)) ∧ Below w.heap.size w wr) (fun x _ => 256 - (intOf x).toNat)
  case atStart => exact ⟨0, by omega, rfl, HA0.out, HB0.out⟩
  case round =>
    obtain ⟨i, hi, rfl, h1, hb⟩ := hrel
    have H1 := Lib.hid h1
    have HB := Lib.hid hb
    clear HB0 HA0 h1 hb
    by_cases hlt : i < 256
    · have c0 := H1.out.cell (u8s_get (ascAt i) i (by rw [ascAt_length i hi]; exact hlt))
      have f0 := H1.out.frozen i
      generalize (ascAt i).getD i 0 = y at *
      have hm : (i : Int) % 256 = i := by omega
      go_wp2
      go_roundw
      case rel => exact ⟨i + 1, by omega, by go_num, by
        have := H1.out.set i (.int .u8 i)
        rw [u8s_set, ascAt_set i hlt] at this
        exact this, HB.out.setCell (Nat.le_refl _) _⟩
      case measure => simp [intOf]; omega
    · have h256 : i = 256 := by omega
      have HL0 : Hid (Blk wr w.heap.size 29 (u8s (datl B 0))) := Lib.hid (by have := H1.out; rw [h256, ascAt_all] at this; exact this)
      have hnl : ¬ ((i : Int) < 256) := by omega
      obtain ⟨n4, hn4⟩ : ∃ n4, n4 = i := ⟨_, rfl⟩
      rw [← hn4] at hnl ⊢
      clear H1 hlt hi h256 hn4
      go_wp2_with fail
      clear hnl
      go_loopw [5, 6] (fun v5 x wr => ∃ i : Nat, i ≤ B.length ∧ x = .int .i64 i ∧ wr.ownsRow w.heap.size 5 1 v5 i (u8s ((dec B).take i)) ∧ Blk wr w.heap.size 29 (u8s (datl B i)) ∧ Below w.heap.size w wr) (fun _ x _ => B.length - (intOf x).toNat)
      case atStart => exact ⟨0, by omega, rfl, own_nil _ _, HL0.out, HB.out⟩
      case round =>
        obtain ⟨i, hi, rfl, ho, hL, hb⟩ := hrel
        obtain ⟨wo, hwo⟩ : ∃ wo, wo = wr := ⟨_, rfl⟩
        subst hwo
        obtain ⟨sp, cp, rfl, _, _⟩ := ownsRow_slice ho
        have HO := Lib.hid ho
        have HL := Lib.hid hL
        have HB2 := Lib.hid hb
        clear HL0 HB ho hL hb
        by_cases hlt : i < B.length
        · have hx := getD_lt HV.out.1 i
          have HS := Lib.hid (datl_succ hlt)
          have HGt := Lib.hid (dec_get hlt)
          have HP := Lib.hid (datl_perm HV.out.1 i)
          obtain ⟨x, hxx⟩ : ∃ x, x = B.getD i 0 := ⟨_, rfl⟩
          have HX := Lib.hid hxx
          rw [← hxx] at HS HGt hx
          obtain ⟨bb, off, cap', hs, _, _, _, hc⟩ := (HV.out.below HB2.out).cells (by omega)
          simp at hs
          obtain ⟨rfl, rfl⟩ := hs
          have c0 := hc i hlt
          rw [← HX.out] at c0
          have c1 := HL.out.cell (u8s_get (datl B i) x (by rw [HP.out.len]; omega))
          obtain ⟨z, hz⟩ : ∃ z, z = (datl B i).getD x 0 := ⟨_, rfl⟩
          have HZ := Lib.hid hz
          rw [← hz] at c1 HGt
          have hszq := HB2.out.size
          clear hc hxx hz
          go_wp2_with (at_builtin; refine wpList_append_byte rfl (.tmp 31) (.tmp 33) rfl w.heap.size (.slice sp i cp) i (u8s ((dec B).take i)) _ rfl HO.out rfl (by omega) hszq ?_; intro v' w1 hown hgr)
          have hlenA : ((dec B).take i).length = i := by rw [List.length_take, HE.out]; omega
          have hO1 : w1.ownsRow w.heap.size 5 1 v' (i + 1) (u8s ((dec B).take (i + 1))) := by
            rw [take_more (by rw [HE.out]; exact hlt), HGt.out, u8s_snoc]; exact hown
          have hL1 := HL.out.append (by decide) HO.out _ hgr
          have hB1 := bel_append HB2.out _ HO.out hgr hszq
          obtain ⟨sp1, cp1, rfl, _, _⟩ := ownsRow_slice hO1
          have HO1 := Lib.hid hO1
          have HL1 := Lib.hid hL1
          have HB1 := Lib.hid hB1
          clear hown hgr hlenA hO1 hL1 hB1 HO HL HB2
          go_loopw [7] (fun y wk => ∃ j : Nat, j ≤ x ∧ y = .int .i64 j ∧ wk.ownsRow w.heap.size 5 1 (.slice sp1 (i + 1) cp1) (i + 1) (u8s ((dec B).take (i + 1))) ∧ Blk wk w.heap.size 29 (u8s (sh (datl B i) x j)) ∧ Below w.heap.size w wk) (fun y _ => (intOf y).toNat)
          case atStart => exact ⟨x, Nat.le_refl _, rfl, HO1.out, by rw [sh_start HP.out.len]; exact HL1.out, HB1.out⟩
          case round =>
            obtain ⟨j, hj, rfl, ho, hL, hb⟩ := hrel
            have HO := Lib.hid ho
            have HL := Lib.hid hL
            have HB := Lib.hid hb
            clear HO1 HL1 HB1 ho hL hb
            cases j with
            | zero =>
              have c3 := HL.out.cell (u8s_get (sh (datl B i) x 0) 0 (by rw [sh_length]; omega))
              have f3 := HL.out.frozen 0
              generalize (sh (datl B i) x 0).getD 0 0 = y at *
              have hL2 := HL.out.set 0 (.int .u8 z)
              have hO2 := own_setOther HO.out HL.out (by decide) 0 (.int .u8 z)
              rw [u8s_set, HZ.out, sh_end HP.out.len x hx, ← HS.out, ← HZ.out] at hL2
              have HL2 := Lib.hid hL2
              have HO2 := Lib.hid hO2
              clear hL2 hO2
              go_wp2_with fail
              go_roundw
              case rel => exact ⟨i + 1, by omega, by go_num, HO2.out, HL2.out, HB.out.setCell (Nat.le_refl _) _⟩
              case measure => simp [intOf]; omega
            | succ j =>
              have c2 := HL.out.cell (u8s_get (sh (datl B i) x (j + 1)) j (by rw [sh_length]; omega))
              rw [sh_getD _ _ _ _ (by omega) (by omega)] at c2
              have c3 := HL.out.cell (u8s_get (sh (datl B i) x (j + 1)) (j + 1) (by rw [sh_length]; omega))
              have f3 := HL.out.frozen (j + 1)
              generalize (sh (datl B i) x (j + 1)).getD (j + 1) 0 = y at *
              have hL2 := HL.out.set (j + 1) (.int .u8 ((datl B i).getD j 0 : Nat))
              have hO2 := own_setOther HO.out HL.out (by decide) (j + 1) (.int .u8 ((datl B i).getD j 0 : Nat))
              rw [u8s_set, sh_step _ _ _ (by omega) hx] at hL2
              have HL2 := Lib.hid hL2
              have HO2 := Lib.hid hO2
              clear hL2 hO2
              generalize (datl B i).getD j 0 = q at *
              go_wp2_with fail
              go_roundw
              case rel => exact ⟨j, by omega, by go_num, HO2.out, HL2.out, HB.out.setCell (Nat.le_refl _) _⟩
              case measure => first | (simp [intOf]; done) | (simp [intOf]; omega)
        · obtain rfl : i = B.length := by omega
          go_wp2_with fail
          go_ret
          refine ⟨_, rfl, ?_, HB2.out⟩
          have h := HO.out
          have e : (dec B).take B.length = dec B := List.take_of_length_le (by rw [HE.out]; exact Nat.le_refl _)
          rw [e] at h
          rw [HE.out]
          exact h
end Go.Proofs.Ythfdclclecjdaaa

/- FrontEach, walked. -/
import Derived.Test.YthfdclclecjdaaaMtfI
import Derived.Test.YthfdclclecjdaaaMtfR
set_option linter.unusedSimpArgs false
set_option linter.unusedVariables false
namespace Go.Proofs.Ythfdclclecjdaaa
open Go.RowKit Pl
namespace Pl
/-- how many of the first j are greater than x -/
theorem cnt_take (B : List Nat) (j x : Nat) (h : j < B.length) : cnt (B.take (j + 1)) x = cnt (B.take j) x + if x < B.getD j 0 then 1 else 0 := by
  rw [take_more h, cnt_snoc]
end Pl
attribute [local go_sem ↓] conv_eq
set_option maxHeartbeats 8000000 in
set_option maxRecDepth 100000 in
theorem frontEach_walk (step : Int) (w : World) (hw : (Lit.int .i64 step).wf = true) :
    Calls Try.prog 5 #[.int .i64 step] w fun e w' => e = .returned (.bool true) ∧ Below w.heap.size w w' := by
  clear hw
  by_cases hout : step < 1 ∨ 255 < step
  · have hways : step < 1 ∨ (¬ step < 1 ∧ 255 < step) := by omega
    clear hout
    rcases hways with h | ⟨h, h2⟩
    · have d1 : decide (step < 1) = true := by simpa using h
      go_enter Try.func5, Try.ntmps5
      go_wp2_with fail
      refine (begun_any _).mono ?_
      rintro e w1 ⟨rfl, hb1⟩
      have HB1 := Lib.hid hb1
      clear hb1
      go_wp2_with fail
      go_ret
      exact ⟨rfl, HB1.out⟩
    · have d1 : decide (step < 1) = false := by simpa using h
      have d2 : decide (255 < step) = true := by simpa using h2
      go_enter Try.func5, Try.ntmps5
      go_wp2_with fail
      refine (begun_any _).mono ?_
      rintro e w1 ⟨rfl, hb1⟩
      have HB1 := Lib.hid hb1
      clear hb1
      go_wp2_with fail
      go_ret
      exact ⟨rfl, HB1.out⟩
  · obtain ⟨s, rfl⟩ := Int.eq_ofNat_of_zero_le (show 0 ≤ step by omega)
    have hs1 : 1 ≤ s := by omega
    have hs2 : s ≤ 255 := by omega
    clear hout
    have d1 : decide ((s : Int) < 1) = false := by simp; omega
    have d2 : decide ((255 : Int) < (s : Int)) = false := by simp; omega
    by_cases hodd : s % 2 = 1
    rotate_left
    · have d3 : ((s : Int) % 2 == 0) = true := by simp; omega
      clear hodd
      go_enter Try.func5, Try.ntmps5
      go_wp2_with fail
      refine (begun_any _).mono ?_
      rintro e w1 ⟨rfl, hb1⟩
      have HB1 := Lib.hid hb1
      clear hb1
      go_wp2_with fail
      go_ret
      exact ⟨rfl, HB1.out⟩
    · have d3 : ((s : Int) % 2 == 0) = false := by simp; omega
      have HOdd := Lib.hid hodd
      clear hodd
      go_enter Try.func5, Try.ntmps5
      go_wp2_with fail
      refine (begun_any _).mono ?_
      rintro e w1 ⟨rfl, hb1⟩
      have HB1 := Lib.hid hb1
      clear hb1
      go_wp2_with fail
      clear d1 d2 d3
      go_loopw [4, 5, 6] (fun v k x wr => ∃ i : Nat, i ≤ 256 ∧ x = .int .i64 i ∧ k = .int .i64 ((i * s % 256 : Nat) : Int) ∧ wr.ownsRow w1.heap.size 5 1 v i (u8s ((steps s).take i)) ∧ Below w1.heap.size w1 wr) (fun _ _ x _ => 256 - (intOf x).toNat)
      case atStart => exact ⟨0, by omega, rfl, by simp, own_nil _ _, Below.refl _ _⟩
      case round =>
        obtain ⟨i, hi, rfl, rfl, ho, hb⟩ := hrel
        obtain ⟨sp, cp, rfl, _, _⟩ := ownsRow_slice ho
        have HO := Lib.hid ho
        have HB := Lib.hid hb
        have hsz := hb.size
        clear ho hb
        by_cases hlt : i < 256
        · have HS := Lib.hid (take_more (B := steps s) (i := i) (by rw [steps_length]; exact hlt))
          rw [steps_get s i hlt] at HS
          have HK : Hid ((i + 1) * s % 256 = (i * s % 256 + s) % 256) := Lib.hid (by rw [Nat.succ_mul]; omega)
          have hK : i * s % 256 < 256 := Nat.mod_lt _ (by omega)
          generalize i * s % 256 = K at *
          have hm : (K : Int) % 256 = K := by omega
          go_wp2_with (at_builtin; refine wpList_append_byte rfl (.tmp 29) (.tmp 32) rfl w1.heap.size (.slice sp i cp) i (u8s ((steps s).take i)) _ rfl HO.out rfl (by omega) hsz ?_; intro v' w2 hown hgr)
          go_roundw
          case rel => exact ⟨i + 1, by omega, by go_num, by rw [HK.out]; congr 1, by rw [HS.out, u8s_snoc]; exact hown, bel_append HB.out _ HO.out hgr hsz⟩
          case measure => simp [intOf]; omega
        · have h256 : i = 256 := by omega
          obtain ⟨S, hS⟩ : ∃ S, S = steps s := ⟨_, rfl⟩
          have hSl : S.length = i := by rw [hS, steps_length, h256]
          have hall : (steps s).take i = S := by rw [hS]; exact List.take_of_length_le (by rw [steps_length]; omega)
          have ho := HO.out
          rw [hall] at ho
          have hlt8 : ∀ x ∈ S, x < 256 := by rw [hS]; exact steps_lt s
          have HNd : Hid S.Nodup := Lib.hid (by rw [hS]; exact steps_nodup HOdd.out)
          subst hSl
          have HI : Hid (IsBytes wr (.slice sp S.length cp) S) := Lib.hid (isBytes_own hlt8 ho)
          have HB2 := Lib.hid (HB1.out.trans (HB.out.mono HB1.out.size))
          generalize S.length * s % 256 = K at *
          have HN := Lib.hid h256
          clear hS hall ho hlt8 HO HB HB1 HOdd hsz h256
          go_wp2_with fail
          refine (encode_s (n := S.length) HI.out (by omega) rfl).mono ?_
          rintro e w3 ⟨sp3, cp3, rfl, hi3, hb3⟩
          have HI3 := Lib.hid (HI.out.below hb3)
          have HE3 := Lib.hid hi3
          have HB3 := Lib.hid (HB2.out.trans (hb3.mono HB2.out.size))
          clear hi3 hb3 HI HB2
          go_wp2_with fail
          clear hlt hi
          go_loopw [8] (fun x wr => ∃ i : Nat, i ≤ S.length ∧ x = .int .i64 i ∧ ∃ m, wr = w3.drewN m) (fun x _ => S.length - (intOf x).toNat)
          case atStart => exact ⟨0, by omega, rfl, 0, rfl⟩
          case round =>
            obtain ⟨i, hi, rfl, m, rfl⟩ := hrel
            have hSl : S.length = 256 := HN.out
            by_cases hlt : i < S.length
            · have hlt2 : (i : Int) < 256 := by omega
              have HPl := Lib.hid (enc_place HI3.out.1 HNd.out hlt)
              clear hSl
              go_wp2_with fail
              go_loopw [9, 10] (fun g x wk => ∃ j : Nat, j ≤ i ∧ x = .int .i64 j ∧ g = .int .i64 (cnt (S.take j) (S.getD i 0) : Nat) ∧ ∃ m, wk = w3.drewN m) (fun _ x _ => i - (intOf x).toNat)
              case atStart => exact ⟨0, by omega, rfl, rfl, m, rfl⟩
              case round =>
                obtain ⟨j, hj, rfl, rfl, m, rfl⟩ := hrel
                obtain ⟨b1, o1, k1, hs1, _, _, _, hc1⟩ := HI3.out.cells (by omega)
                simp at hs1
                obtain ⟨rfl, rfl⟩ := hs1
                obtain ⟨b2, o2, k2, hs2, _, _, _, hc2⟩ := HE3.out.cells (by rw [enc_length]; omega)
                simp at hs2
                obtain ⟨rfl, hs2⟩ := hs2
                have c1 := hc1 i hlt
                have hx := getD_lt HI3.out.1 i
                by_cases hjt : j < i
                · have c2 := hc1 j (by omega)
                  have HC := Lib.hid (cnt_take S j (S.getD i 0) (by omega))
                  have hcl := cnt_le (S.take j) (S.getD i 0)
                  have hcl2 : (S.take j).length ≤ j := List.length_take_le _ _
                  generalize cnt (S.take j) (S.getD i 0) = g at *
                  generalize S.getD j 0 = y at *
                  generalize S.getD i 0 = x at *
                  clear hc1 hc2 hs2
                  by_cases hgt : x < y
                  · have dg : decide ((x : Int) < (y : Int)) = true := by simp; omega
                    go_wp2_with fail
                    go_quiet (fail)
                    go_wp2_with fail
                    go_roundw
                    case rel => exact ⟨j + 1, by omega, by go_num, by rw [HC.out, if_pos hgt]; go_num, _, rfl⟩
                    case measure => simp [intOf]; omega
                  · have dg : decide ((x : Int) < (y : Int)) = false := by simp; omega
                    go_wp2_with fail
                    go_quiet (fail)
                    go_wp2_with fail
                    go_roundw
                    case rel => exact ⟨j + 1, by omega, by go_num, by rw [HC.out, if_neg hgt, Nat.add_zero], _, rfl⟩
                    case measure => simp [intOf]; omega
                · obtain rfl : j = i := by omega
                  have c3 := hc2 j (by rw [enc_length]; exact hlt)
                  have hcl := cnt_le (S.take j) (S.getD j 0)
                  have hcl2 : (S.take j).length ≤ j := List.length_take_le _ _
                  have hp := getD_lt HE3.out.1 j
                  have hpe := HPl.out
                  generalize cnt (S.take j) (S.getD j 0) = g at *
                  generalize (enc S).getD j 0 = p at *
                  generalize S.getD j 0 = x at *
                  have dg : ((p : Int) != (x : Int) + (g : Int)) = false := bne_f (by omega)
                  clear hc1 hc2 hs2 hpe
                  go_wp2_with fail
                  go_quiet (fail)
                  go_wp2_with fail
                  go_roundw
                  case rel => exact ⟨j + 1, by omega, by go_num, _, rfl⟩
                  case measure => simp [intOf]; omega
            · have hlt2 : ¬ ((i : Int) < 256) := by omega
              have hdec := dec_enc HI3.out.1
              have HDc := Lib.hid hdec
              have hSb : S.length ≤ 4294967296 := by omega
              obtain ⟨wl, hwl⟩ : ∃ wl, wl = w3.drewN m := ⟨_, rfl⟩
              have hbl : Below w3.heap.size w3 wl := hwl ▸ bel_drewN (Below.refl _ _) _
              have HIl := Lib.hid (HI3.out.below hbl)
              have HEl := Lib.hid (HE3.out.below hbl)
              have HBl := Lib.hid (HB3.out.trans (hbl.mono HB3.out.size))
              have HId : Hid (IsBytes wl.drew (.slice sp S.length cp) S) := Lib.hid HIl.out
              have HEd : Hid (IsBytes wl.drew (.slice sp3 S.length cp3) (enc S)) := Lib.hid HEl.out
              have hElen : (enc S).length = S.length := enc_length S
              have HEL := Lib.hid hElen
              have q1 : (convS (.slice sp S.length cp)).run Try.prog wl.drew = .ok (.string (str S)) wl.drew := run_conv HId.out
              rw [← hwl]
              clear hdec hSl hlt hi hwl hbl HI3 HE3 HB3 hElen
              go_wp2_with fail
              go_region_with (go_at_call 11; refine (decode_s (n := S.length) HEd.out (by rw [HEL.out]; exact hSb) HEL.out).mono ?_; rintro e w4 ⟨sp4, cp4, rfl, hi4, hb4⟩; rw [HDc.out] at hi4; have q2 := run_conv hi4; have q3 := run_conv (HId.out.below hb4); have HB4 := Lib.hid (HBl.out.drew.trans (hb4.mono HBl.out.size)); clear hi4 hb4)
              all_goals
                go_wp2_with fail
                go_ret
                exact ⟨by simp [Act.put], HB4.out⟩
end Go.Proofs.Ythfdclclecjdaaa

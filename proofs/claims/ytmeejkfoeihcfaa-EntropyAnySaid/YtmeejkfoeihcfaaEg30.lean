/- Texts put together: EntJ. -/
import Derived.Test.YtmeejkfoeihcfaaEg28
set_option linter.unusedSimpArgs false
set_option linter.unusedVariables false
set_option maxRecDepth 100000
namespace Go.Proofs.Ytmeejkfoeihcfaa.S10
open Go.RowKit Pl
theorem enc_c {Y R C : List Nat} (hR : S8.Pl.IsSA Y R) (hC : encE Y R = C) (v : Value) (W : World) (hv : IsBytes W v Y) (hY : Y.length ≤ 900000) :
    Calls Try.prog 9 #[v] W (MadeC (str C) C.length W) := by
  refine (enc_got v Y W hv hY).mono ?_
  rintro e w' ⟨R', g, C', n, hE, rfl, _, _, _, hi, hb⟩
  obtain ⟨h1, h2, h3, _⟩ := hE.out
  obtain rfl := S8.Pl.sa_unique h1 hR
  obtain rfl : C' = C := by rw [← h2, hC]
  subst h3
  exact ⟨some ⟨g, 0, none⟩, _, rfl, Lib.hid fun w'' h => run_conv (hi.out.below h), Lib.hid hb.out⟩
attribute [local go_sem ↓] conv_eq
set_option maxHeartbeats 16000000 in
theorem tells_any (v : Value) (C : List Nat) (w : World) (hv : IsBytes w v C) (hC : C.length ≤ 1000000) :
    Calls Try.prog 11 #[v] w fun e w' => e = .returned (.bool true) ∧ Below w.heap.size w w' := by
  have hc := decode_any v C 500 w hv hC (by omega)
  obtain ⟨va, vcap, rfl, hcap, hmax⟩ := hv.slice
  have HV := Lib.hid hv
  obtain ⟨D, hD⟩ : ∃ D, decF C 500 = D := ⟨_, rfl⟩
  have herr := decF_err C 500
  unfold DecodePost at hc
  rw [hD] at hc herr
  obtain ⟨r, Y⟩ := D
  simp only at hc herr
  by_cases h0 : r = 0
  rotate_left
  · obtain ⟨hY, hr⟩ := herr.resolve_left h0
    subst hY
    clear hD h0 herr
    rcases hr with rfl | rfl
    · go_enter Try.func11, Try.ntmps11
      go_wp2_with fail
      refine hc.mono ?_
      rintro e w3 ⟨hb3, sp, cap, rfl, hi3⟩
      have HB3 := Lib.hid hb3
      clear hc hb3 hi3
      go_wp2
      go_ret
      exact ⟨rfl, HB3.out⟩
    · go_enter Try.func11, Try.ntmps11
      go_wp2_with fail
      refine hc.mono ?_
      rintro e w3 ⟨hb3, sp, cap, rfl, hi3⟩
      have HB3 := Lib.hid hb3
      clear hc hb3 hi3
      go_wp2
      go_ret
      exact ⟨rfl, HB3.out⟩
  subst h0
  obtain ⟨hYl, hYx, R, hR, hE⟩ := enc_dec hD
  have HR := Lib.hid (And.intro hR hE)
  obtain ⟨N, hN⟩ : ∃ N, Y.length = N := ⟨_, rfl⟩
  have HN := Lib.hid hN
  rw [hN] at hc hYl
  clear hR hE hD herr hYx hN
  go_enter Try.func11, Try.ntmps11
  go_wp2_with fail
  refine hc.mono ?_
  rintro e w3 ⟨hb3, sp, cap, rfl, hi3⟩
  have HB3 := Lib.hid hb3
  have HI3 := Lib.hid hi3
  have HC3 := Lib.hid (HV.out.below hb3)
  have hcc := fun (W : World) (h : From w3 W) => run_conv (HC3.out.below h)
  have hE := fun (W : World) (h : From w3 W) => enc_c HR.out.1 HR.out.2 _ W (HI3.out.below h) (by rw [HN.out]; omega)
  have q : ((str C).toList == (str C).toList) = true := by simp
  have hle : (N : Int) ≤ 500 := by omega
  generalize str C = SC at *
  have HE := Lib.hid hE
  clear hb3 hi3 hE hc HI3 HC3
  go_wp2_with fail
  refine wp_region_noPanic ?_
  have hHeld : From w3 w3.drew := (Below.refl _ _).drew
  refine wpAnyH_start (n := 12) (l := #[false, false, false, false, false, false, false, false, false, false, false, false]) (S := From w3) (by kernel_rfl) (hHeld) (by kernel_rfl) (by kernel_rfl) ?_
  refine wpAnyH_take (i := 0) (oi := _) (v := ?_) rfl (by kernel_rfl) (by kernel_rfl) (by kernel_rfl) (fun _ _ _ h => h) (Or.inl ⟨by rfl, ?_⟩) (by assumption) ?_
  rotate_left
  · intro wq hSw; go_simp; try with_reducible rfl
  simp only [Act.put, List.setIfInBounds_toArray, List.set_cons_zero, List.set_cons_succ, List.getElem_toArray, List.getElem_cons_zero, List.getElem_cons_succ]
  refine wpAnyH_take (i := 1) (oi := _) (v := ?_) rfl (by kernel_rfl) (by kernel_rfl) (by kernel_rfl) (fun _ _ _ h => h) (Or.inl ⟨by rfl, ?_⟩) (by assumption) ?_
  rotate_left
  · intro wq hSw; go_simp; try with_reducible rfl
  simp only [Act.put, List.setIfInBounds_toArray, List.set_cons_zero, List.set_cons_succ, List.getElem_toArray, List.getElem_cons_zero, List.getElem_cons_succ]
  refine wpAnyH_take (i := 2) (oi := _) (v := ?_) rfl (by kernel_rfl) (by kernel_rfl) (by kernel_rfl) (fun _ _ _ h => h) (Or.inl ⟨by rfl, ?_⟩) (by assumption) ?_
  rotate_left
  · intro wq hSw; go_simp; try with_reducible rfl
  simp only [Act.put, List.setIfInBounds_toArray, List.set_cons_zero, List.set_cons_succ, List.getElem_toArray, List.getElem_cons_zero, List.getElem_cons_succ]
  refine wpAnyH_take (i := 3) (oi := _) (v := ?_) rfl (by kernel_rfl) (by kernel_rfl) (by kernel_rfl) (fun _ _ _ h => h) (Or.inl ⟨by rfl, ?_⟩) (by assumption) ?_
  rotate_left
  · intro wq hSw; go_simp; try with_reducible rfl
  simp only [Act.put, List.setIfInBounds_toArray, List.set_cons_zero, List.set_cons_succ, List.getElem_toArray, List.getElem_cons_zero, List.getElem_cons_succ]
  refine wpAnyH_take (i := 4) (oi := _) (v := ?_) rfl (by kernel_rfl) (by kernel_rfl) (by kernel_rfl) (fun _ _ _ h => h) (Or.inl ⟨by rfl, ?_⟩) (by assumption) ?_
  rotate_left
  · intro wq hSw; go_simp; try with_reducible rfl
  simp only [Act.put, List.setIfInBounds_toArray, List.set_cons_zero, List.set_cons_succ, List.getElem_toArray, List.getElem_cons_zero, List.getElem_cons_succ]
  refine wpAnyH_take (i := 7) (oi := _) (v := ?_) rfl (by kernel_rfl) (by kernel_rfl) (by kernel_rfl) (fun _ _ _ h => h) (Or.inl ⟨by rfl, ?_⟩) (by assumption) ?_
  rotate_left
  · intro wq hSw; go_simp; try with_reducible rfl
  simp only [Act.put, List.setIfInBounds_toArray, List.set_cons_zero, List.set_cons_succ, List.getElem_toArray, List.getElem_cons_zero, List.getElem_cons_succ]
  refine wpAnyH_take (i := 8) (oi := _) (v := ?_) rfl (by kernel_rfl) (by kernel_rfl) (by kernel_rfl) (fun _ _ _ h => h) (Or.inl ⟨by rfl, ?_⟩) (by assumption) ?_
  rotate_left
  · intro wq hSw; go_simp; try with_reducible rfl
  simp only [Act.put, List.setIfInBounds_toArray, List.set_cons_zero, List.set_cons_succ, List.getElem_toArray, List.getElem_cons_zero, List.getElem_cons_succ]
  refine wpAnyH_ready (rs := [5]) (by kernel_rfl) (by simp) ?_
  refine AllReadyH.cons (o := _) rfl (fun K hK => ?_) AllReadyH.nil
  simp only [List.getElem_toArray, List.getElem_cons_zero, List.getElem_cons_succ]
  go_simp
  refine (HE.out _ hHeld).mono ?_; rintro e w4 ⟨sp4, cap4, rfl, h4, hb4⟩; have hE4 := Lib.hid (From.trans hHeld hb4.out)
  refine hK.out _ _ (hE4.out) (fun _ => ?_)
  clear hK K hHeld
  refine wpAnyH_mono (S' := From w4) (fun w' h => From.trans hE4.out h) ?_
  have hHeld := From.refl w4
  have hc4 := h4.out
  clear h4 hb4 HE
  simp only [Act.put, List.setIfInBounds_toArray, List.set_cons_zero, List.set_cons_succ, List.getElem_toArray, List.getElem_cons_zero, List.getElem_cons_succ]
  refine wpAnyH_take (i := 6) (oi := _) (v := ?_) rfl (by kernel_rfl) (by kernel_rfl) (by kernel_rfl) (fun _ _ _ h => h) (Or.inl ⟨by rfl, ?_⟩) (by assumption) ?_
  rotate_left
  · intro wq hSw; go_simp; try with_reducible rfl
  simp only [Act.put, List.setIfInBounds_toArray, List.set_cons_zero, List.set_cons_succ, List.getElem_toArray, List.getElem_cons_zero, List.getElem_cons_succ]
  clear hc4
  refine wpAnyH_take (i := 9) (oi := _) (v := ?_) rfl (by kernel_rfl) (by kernel_rfl) (by kernel_rfl) (fun _ _ _ h => h) (Or.inl ⟨by rfl, ?_⟩) (by assumption) ?_
  rotate_left
  · intro wq hSw; go_simp; try with_reducible rfl
  simp only [Act.put, List.setIfInBounds_toArray, List.set_cons_zero, List.set_cons_succ, List.getElem_toArray, List.getElem_cons_zero, List.getElem_cons_succ]
  refine wpAnyH_take (i := 10) (oi := _) (v := ?_) rfl (by kernel_rfl) (by kernel_rfl) (by kernel_rfl) (fun _ _ _ h => h) (Or.inl ⟨by rfl, ?_⟩) (by assumption) ?_
  rotate_left
  · intro wq hSw; go_simp; try with_reducible rfl
  simp only [Act.put, List.setIfInBounds_toArray, List.set_cons_zero, List.set_cons_succ, List.getElem_toArray, List.getElem_cons_zero, List.getElem_cons_succ]
  refine wpAnyH_take (i := 11) (oi := _) (v := ?_) rfl (by kernel_rfl) (by kernel_rfl) (by kernel_rfl) (fun _ _ _ h => h) (Or.inl ⟨by rfl, ?_⟩) (by assumption) ?_
  rotate_left
  · intro wq hSw; go_simp; try with_reducible rfl
  simp only [Act.put, List.setIfInBounds_toArray, List.set_cons_zero, List.set_cons_succ, List.getElem_toArray, List.getElem_cons_zero, List.getElem_cons_succ]
  refine wpAnyH_done (by kernel_rfl) ?_ _
  refine NoPanic.normal ?_
  go_wp2_with fail
  go_ret
  exact ⟨rfl, HB3.out.trans (Below.mono hE4.out HB3.out.size)⟩
set_option maxHeartbeats 16000000 in
theorem entropyAny_walk (a : Option Addr) (len cap : Nat) (z : List Int) (at_ x : Int) (a3 : Option Addr) (len3 cap3 : Nat) (z3 : List Int) (w : World) (hr : IsRow .u8 w a len cap z) (hat : (Lit.int .i64 at_).wf = true) (hx : (Lit.int .u8 x).wf = true) (hr3 : IsRow .u8 w a3 len3 cap3 z3) :
    Calls Try.prog 5 #[.slice a len cap, .int .i64 at_, .int .u8 x, .slice a3 len3 cap3] w fun e w' => e = .returned (.bool true) ∧ Below w.heap.size w w' := by
  obtain ⟨hV, hlen⟩ := isBytes_row hr
  obtain ⟨hV3, hlen3⟩ := isBytes_row hr3
  have HV := Lib.hid hV
  have HV3 := Lib.hid hV3
  have hx' := u8_wf hx
  have hat' := i64_wf' hat
  clear hr hV hr3 hV3 hx hat
  go_enter Try.func5, Try.ntmps5
  go_wp2_with fail
  refine (begun10_any w).mono ?_
  rintro e w0 ⟨rfl, hb0⟩
  have HV0 := Lib.hid (HV.out.below hb0)
  have HW0 := Lib.hid (HV3.out.below hb0)
  have HB0 := Lib.hid hb0
  clear hb0 HV HV3
  go_wp2_with fail
  refine (short_any _ _ 100 _ HV0.out (by omega)).mono ?_
  rintro e w1 ⟨v1, rfl, hi1, rfl⟩
  go_wp2_with fail
  refine (short_any _ _ 100 _ HW0.out (by omega)).mono ?_
  rintro e w1 ⟨v2, rfl, hi2, rfl⟩
  obtain ⟨B, hB⟩ : ∃ S, S = (bytesZ z len).take 100 := ⟨_, rfl⟩
  obtain ⟨K, hK⟩ : ∃ S, S = (bytesZ z3 len3).take 100 := ⟨_, rfl⟩
  have hBl : B.length ≤ 100 := by rw [hB, List.length_take]; omega
  have hKl : K.length ≤ 100 := by rw [hK, List.length_take]; omega
  rw [← hB] at hi1
  rw [← hK] at hi2
  obtain ⟨a1, c1, hv1, hc1, hm1⟩ := hi1.slice
  obtain ⟨a2, c2, hv2, hc2, hm2⟩ := hi2.slice
  subst hv1
  subst hv2
  have HS := Lib.hid hi1
  have HK := Lib.hid hi2
  clear hi1 hi2 hB hK hlen hlen3 HV0 HW0
  go_wp2_with fail
  refine (enc_got _ B _ HS.out (by omega)).mono ?_
  rintro e w2 ⟨R, g, C, n, hE, rfl, hn, hg, hblk, hi2, hb2⟩
  have HB2 := Lib.hid (HB0.out.trans (hb2.out.mono HB0.out.size))
  have HK2 := Lib.hid (HK.out.below hb2.out)
  have hCn : Hid (C.length = n) := Lib.hid hE.out.2.2.1
  have hgw : w.heap.size ≤ g := Nat.le_trans HB0.out.size hg
  have hn600 : n ≤ 600 := by omega
  have HKS : Hid (∀ p q : Nat, IsBytes (w2.setCell ⟨g, p, none⟩ (.int .u8 (q : Nat))) (.slice a2 K.length c2) K) := Lib.hid fun p q => HK.out.below (hb2.out.setCell (p := ⟨g, p, none⟩) hg _)
  clear hb2 HB0 HK hE hn HS
  by_cases hif : 0 < n ∧ 0 ≤ at_
  · obtain ⟨hn0, hat0⟩ := hif
    obtain ⟨t, rfl⟩ : ∃ t : Nat, at_ = t := ⟨at_.toNat, by omega⟩
    obtain ⟨X, rfl⟩ : ∃ X : Nat, x = X := ⟨x.toNat, by omega⟩
    obtain ⟨p, hp⟩ : ∃ p, t % n = p := ⟨_, rfl⟩
    have hpn : p < n := by rw [← hp]; exact Nat.mod_lt _ hn0
    have hpz : (t : Int) % (n : Int) = (p : Int) := by rw [← hp]; omega
    have hpt : (t : Int).tmod (n : Int) = (p : Int) := by rw [← hp]; rfl
    have hn0z : (0 : Int) < (n : Int) := by omega
    have c0 : w2.cell? ⟨g, p, none⟩ = some (.int .u8 (C.getD p 0 : Nat)) := hblk.out.cell (u8s_get C p (by rw [hCn.out]; exact hpn))
    have f0 := hblk.out.frozen p
    have hy := getD_lt hi2.out.1 p
    obtain ⟨y, hyq⟩ : ∃ y, C.getD p 0 = y := ⟨_, rfl⟩
    rw [hyq] at c0 hy
    have hX : X < 256 := by omega
    have hxe : bits BinOp.xor IntKind.u8 (y : Int) (X : Int) = ((y ^^^ X : Nat) : Int) := u8_xor_nat y X hy hX
    have hxl : y ^^^ X < 256 := Nat.xor_lt_two_pow (n := 8) hy hX
    generalize y ^^^ X = q at *
    have hset := hblk.out.set p (.int .u8 (q : Nat))
    rw [u8s_set] at hset
    have hsl : (C.set p q).length = n := by rw [List.length_set]; exact hCn.out
    have hsx : ∀ k ∈ C.set p q, k < 256 := fun k hk => by
      rcases List.mem_or_eq_of_mem_set hk with h | h
      · exact hi2.out.1 k h
      · rw [h]; exact hxl
    have HSE := Lib.hid (u8_bytes hsx hset hsl (by unfold maxLen; omega))
    have HSL := Lib.hid hsl
    have HB3 := Lib.hid (HB2.out.setCell (p := ⟨g, p, none⟩) hgw (.int .u8 (q : Nat)))
    have HK3 : Hid (IsBytes (w2.setCell ⟨g, p, none⟩ (.int .u8 (q : Nat))) (.slice a2 K.length c2) K) := Lib.hid (HKS.out p q)
    clear hp hset hsl hsx hyq HB2 HK2 HKS hblk hi2 hCn
    go_wp2_with fail
    refine (tells_any _ _ _ HSE.out (by rw [HSL.out]; omega)).mono ?_
    rintro e w4 ⟨rfl, hb4⟩
    have HB4 := Lib.hid (HB3.out.trans (hb4.mono HB3.out.size))
    have HK4 := Lib.hid (HK3.out.below hb4)
    clear hb4 HB3 HK3 HSE HSL
    go_wp2_with fail
    refine (tells_any _ _ _ HK4.out (by omega)).mono ?_
    rintro e w5 ⟨rfl, hb5⟩
    have HB5 := Lib.hid (HB4.out.trans (hb5.mono HB4.out.size))
    clear hb5 HB4 HK4
    go_wp2
    go_ret
    exact ⟨rfl, HB5.out⟩
  · have hways : (¬ 0 < n) ∨ (0 < n ∧ ¬ 0 ≤ at_) := by
      by_cases h : 0 < n
      · exact .inr ⟨h, fun h2 => hif ⟨h, h2⟩⟩
      · exact .inl h
    clear hif HKS hblk
    rcases hways with h1 | ⟨h1, h2⟩
    all_goals
      go_wp2_with fail
      refine (tells_any _ _ _ hi2.out (by rw [hCn.out]; omega)).mono ?_
      rintro e w4 ⟨rfl, hb4⟩
      have HB4 := Lib.hid (HB2.out.trans (hb4.mono HB2.out.size))
      have HK4 := Lib.hid (HK2.out.below hb4)
      clear hb4 HB2 HK2 hi2
      go_wp2_with fail
      refine (tells_any _ _ _ HK4.out (by omega)).mono ?_
      rintro e w5 ⟨rfl, hb5⟩
      have HB5 := Lib.hid (HB4.out.trans (hb5.mono HB4.out.size))
      clear hb5 HB4 HK4
      go_wp2
      go_ret
      exact ⟨rfl, HB5.out⟩
end Go.Proofs.Ytmeejkfoeihcfaa.S10

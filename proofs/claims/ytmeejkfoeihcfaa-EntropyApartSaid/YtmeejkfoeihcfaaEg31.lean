/- Texts put together: EntK. -/
import Derived.Test.YtmeejkfoeihcfaaEg28
set_option linter.unusedSimpArgs false
set_option linter.unusedVariables false
set_option maxRecDepth 100000
namespace Go.Proofs.Ytmeejkfoeihcfaa.S10
open Go.RowKit Pl
def EncS (Y : List Nat) (S : ByteArray) : Prop := ∃ R C, S8.Pl.IsSA Y R ∧ encE Y R = C ∧ S = str C
def GotC (Y : List Nat) (w : World) (e : Ending) (w' : World) : Prop :=
  ∃ S g n, e = .returned (.slice (some ⟨g, 0, none⟩) n n) ∧ Hid (∀ w'', From w' w'' → (convS (.slice (some ⟨g, 0, none⟩) n n)).run Try.prog w'' = .ok (.string S) w'') ∧ Hid (EncS Y S) ∧ Hid (From w w')
theorem got_c (v : Value) (Y : List Nat) (W : World) (hv : IsBytes W v Y) (hY : Y.length ≤ 900000) : Calls Try.prog 9 #[v] W (GotC Y W) := by
  refine (enc_got v Y W hv hY).mono ?_
  rintro e w' ⟨R, g, C, n, hE, rfl, _, _, _, hi, hb⟩
  exact ⟨str C, g, n, rfl, Lib.hid fun w'' h => run_conv (hi.out.below h), Lib.hid ⟨R, C, hE.out.1, hE.out.2.1, rfl⟩, Lib.hid hb.out⟩
theorem enc_eqb {A B : List Nat} {S1 S2 : ByteArray} (h1 : EncS A S1) (h2 : EncS B S2) (hA : ∀ x ∈ A, x < 256) (hB : ∀ x ∈ B, x < 256) (la : A.length ≤ 1000000) (lb : B.length ≤ 1000000) : (S1.toList == S2.toList) = decide (A = B) := by
  obtain ⟨R, C, hR, hC, rfl⟩ := h1
  obtain ⟨Q, D, hQ, hD, rfl⟩ := h2
  have hCx : ∀ x ∈ C, x < 256 := by rw [← hC]; exact pack_lt _ _
  have hDx : ∀ x ∈ D, x < 256 := by rw [← hD]; exact pack_lt _ _
  rw [str_eqb hCx hDx]
  rw [decide_eq_decide]
  constructor
  · intro h
    exact enc_inj hR hQ hA hB la lb (by rw [hC, hD, h])
  · intro h
    subst h
    obtain rfl := S8.Pl.sa_unique hR hQ
    rw [← hC, hD]
attribute [local go_sem ↓] conv_eq
set_option maxHeartbeats 40000000 in
theorem entropyApart_walk (a : Option Addr) (len cap : Nat) (z : List Int) (a3 : Option Addr) (len3 cap3 : Nat) (z3 : List Int) (at_ x : Int) (w : World) (hr : IsRow .u8 w a len cap z) (hr3 : IsRow .u8 w a3 len3 cap3 z3) (hat : (Lit.int .i64 at_).wf = true) (hx : (Lit.int .u8 x).wf = true) :
    Calls Try.prog 6 #[.slice a len cap, .slice a3 len3 cap3, .int .i64 at_, .int .u8 x] w fun e w' => e = .returned (.bool true) ∧ Below w.heap.size w w' := by
  obtain ⟨hV, hlen⟩ := isBytes_row hr
  obtain ⟨hV3, hlen3⟩ := isBytes_row hr3
  have HV := Lib.hid hV
  have HV3 := Lib.hid hV3
  have hx' := u8_wf hx
  have hat' := i64_wf' hat
  clear hr hV hr3 hV3 hx hat
  go_enter Try.func6, Try.ntmps6
  go_wp2_with fail
  refine (begun10_any w).mono ?_
  rintro e w1 ⟨rfl, hb0⟩
  have HV0 := Lib.hid (HV.out.below hb0)
  have HW0 := Lib.hid (HV3.out.below hb0)
  have HB1 := Lib.hid hb0
  clear hb0 HV HV3
  go_wp2_with fail
  refine (short_any _ _ 200 _ HV0.out (by omega)).mono ?_
  rintro e w1' ⟨v1, rfl, hi1, rfl⟩
  go_wp2_with fail
  refine (short_any _ _ 200 _ HW0.out (by omega)).mono ?_
  rintro e w1' ⟨v2, rfl, hi2, rfl⟩
  obtain ⟨A, hA⟩ : ∃ S, S = (bytesZ z len).take 200 := ⟨_, rfl⟩
  obtain ⟨B, hB⟩ : ∃ S, S = (bytesZ z3 len3).take 200 := ⟨_, rfl⟩
  have hAl : A.length ≤ 200 := by rw [hA, List.length_take]; omega
  have hBl : B.length ≤ 200 := by rw [hB, List.length_take]; omega
  rw [← hA] at hi1
  rw [← hB] at hi2
  obtain ⟨a1, c1, hv1, hc1, hm1⟩ := hi1.slice
  obtain ⟨N, hN⟩ : ∃ N, A.length = N := ⟨_, rfl⟩
  rw [hN] at hv1 hc1 hAl
  obtain ⟨a2, c2, hv2, hc2, hm2⟩ := hi2.slice
  subst hv1
  subst hv2
  have HA := Lib.hid hi1
  have HN := Lib.hid hN
  have HB := Lib.hid hi2
  clear hi1 hi2 hA hB hlen hlen3 HV0 HW0 hN
  have hsz1 := HB1.out.size
  by_cases hif : 0 < N ∧ 0 ≤ at_
  · obtain ⟨hn0, hat0⟩ := hif
    obtain ⟨t, rfl⟩ : ∃ t : Nat, at_ = t := ⟨at_.toNat, by omega⟩
    obtain ⟨X, rfl⟩ : ∃ X : Nat, x = X := ⟨x.toNat, by omega⟩
    obtain ⟨p, hp⟩ : ∃ p, t % N = p := ⟨_, rfl⟩
    have hpn : p < N := by rw [← hp]; exact Nat.mod_lt _ hn0
    have hpz : (t : Int) % (N : Int) = (p : Int) := by rw [← hp]; omega
    have hpt : (t : Int).tmod (N : Int) = (p : Int) := by rw [← hp]; rfl
    have hn0z : (0 : Int) < (N : Int) := by omega
    have hy := getD_lt HA.out.1 p
    obtain ⟨y, hyq⟩ : ∃ y, A.getD p 0 = y := ⟨_, rfl⟩
    rw [hyq] at hy
    have hX : X < 256 := by omega
    have hxe : bits BinOp.xor IntKind.u8 (y : Int) (X : Int) = ((y ^^^ X : Nat) : Int) := u8_xor_nat y X hy hX
    have hxl : y ^^^ X < 256 := Nat.xor_lt_two_pow (n := 8) hy hX
    generalize y ^^^ X = q at *
    have HYE := Lib.hid hyq
    clear hyq hp
    go_wp2_with (at_builtin; refine wpList_append_bytes rfl _ (.tmp 18) rfl w1.heap.size (.slice none 0 0) 0 [] rfl (own_nil _ _) _ A rfl HA.out (by rw [HN.out]; omega) (Nat.le_refl _) ?_; intro v3 w2 hown hgr; have HO3 : Hid (w2.ownsRow w1.heap.size 5 1 v3 N (u8s A)) := Lib.hid (by rw [Nat.zero_add, HN.out] at hown; exact hown); have HB2 : Hid (Below w1.heap.size w1 w2) := Lib.hid ⟨hgr.os, hgr.tape, hgr.output, hgr.size, fun k hk => hgr.block k hk (by simp [Value.ownBlock])⟩; rw [Nat.zero_add, HN.out] at hown; obtain ⟨g, cp3, rfl, hg, hgl, hnc, hcm⟩ := own_open hown (by omega); clear hown hgr; have c0 := own_cell HO3.out hpn; have f0 := HO3.out.frozenAt p; rw [HYE.out] at c0)
    have hst := HO3.out.stored p (.int .u8 (q : Nat))
    rw [u8s_set] at hst
    obtain ⟨Cc, hCc⟩ : ∃ Cc, A.set p q = Cc := ⟨_, rfl⟩
    have hsl : Cc.length = N := by rw [← hCc, List.length_set]; exact HN.out
    have hsx : ∀ k ∈ Cc, k < 256 := fun k hk => by
      rw [← hCc] at hk
      rcases List.mem_or_eq_of_mem_set hk with h | h
      · exact HA.out.1 k h
      · rw [h]; exact hxl
    rw [hCc] at hst
    have HBC := Lib.hid (HB2.out.grown hst.2 HB2.out.size (by intro k hk; simp at hk; omega))
    have HIC := Lib.hid (isBytes_ownS hsx hsl.symm (by rw [hsl]; exact hst.1))
    have HCL := Lib.hid hsl
    generalize w2.setCell ⟨g, p, none⟩ (.int .u8 (q : Nat)) = w3 at *
    have HIA := Lib.hid (HA.out.below HBC.out)
    have HIB := Lib.hid (HB.out.below HBC.out)
    have HB3 := Lib.hid (HB1.out.trans (HBC.out.mono hsz1))
    clear hst hsl hsx hCc c0 f0 HO3 HB2 HBC HA HB HB1 HYE
    have hca := fun (W : World) (h : From w3 W) => run_conv (HIA.out.below h)
    have hcb := fun (W : World) (h : From w3 W) => run_conv (HIB.out.below h)
    have hcc0 := fun (W : World) (h : From w3 W) => run_conv (HIC.out.below h)
    have hea := fun (W : World) (h : From w3 W) => got_c _ A W (HIA.out.below h) (by rw [HN.out]; omega)
    have heb := fun (W : World) (h : From w3 W) => got_c _ B W (HIB.out.below h) (by omega)
    have hec := fun (W : World) (h : From w3 W) => got_c _ Cc W (HIC.out.below h) (by rw [HCL.out]; omega)
    have q1 := str_eqb HIA.out.1 HIB.out.1
    have q2 := str_eqb HIA.out.1 HIC.out.1
    have HD1 := Lib.hid fun S1 S2 (h1 : EncS A S1) (h2 : EncS B S2) => enc_eqb h1 h2 HIA.out.1 HIB.out.1 (by rw [HN.out]; omega) (by omega)
    have HD2 := Lib.hid fun S1 S2 (h1 : EncS A S1) (h2 : EncS Cc S2) => enc_eqb h1 h2 HIA.out.1 HIC.out.1 (by rw [HN.out]; omega) (by rw [HCL.out]; omega)
    generalize decide (A = B) = d1 at *
    generalize decide (A = Cc) = d2 at *
    generalize str A = SA at *
    generalize str B = SB at *
    generalize str Cc = SC at *
    have hdd1 : (d1 == d1) = true := by cases d1 <;> rfl
    have hdd2 : (d2 == d2) = true := by cases d2 <;> rfl
    have HCA := Lib.hid hca
    have HCC := Lib.hid hcc0
    have HEA := Lib.hid hea
    have HEB := Lib.hid heb
    have HEC := Lib.hid hec
    clear hcc0 hea heb hec HIA HIB HIC
    go_wp2_with fail
    refine wp_region_noPanic ?_
    have hHeld : From w3 w3.drew := (Below.refl _ _).drew
    refine wpAnyH_start (n := 29) (l := #[false, false, false, false, false, false, false, false, false, false, false, false, false, false, false, false, false, false, false, false, false, false, false, false, false, false, false, false, false]) (S := From w3) (by kernel_rfl) (hHeld) (by kernel_rfl) (by kernel_rfl) ?_
    refine wpAnyH_take (i := 0) (oi := _) (v := ?_) rfl (by kernel_rfl) (by kernel_rfl) (by kernel_rfl) (fun _ _ _ h => h) (Or.inl ⟨by rfl, ?_⟩) (by assumption) ?_
    rotate_left
    · intro wq hSw; go_simp; try with_reducible rfl
    simp only [Act.put, List.setIfInBounds_toArray, List.set_cons_zero, List.set_cons_succ, List.getElem_toArray, List.getElem_cons_zero, List.getElem_cons_succ]
    refine wpAnyH_take (i := 3) (oi := _) (v := ?_) rfl (by kernel_rfl) (by kernel_rfl) (by kernel_rfl) (fun _ _ _ h => h) (Or.inl ⟨by rfl, ?_⟩) (by assumption) ?_
    rotate_left
    · intro wq hSw; go_simp; try with_reducible rfl
    simp only [Act.put, List.setIfInBounds_toArray, List.set_cons_zero, List.set_cons_succ, List.getElem_toArray, List.getElem_cons_zero, List.getElem_cons_succ]
    refine wpAnyH_take (i := 7) (oi := _) (v := ?_) rfl (by kernel_rfl) (by kernel_rfl) (by kernel_rfl) (fun _ _ _ h => h) (Or.inl ⟨by rfl, ?_⟩) (by assumption) ?_
    rotate_left
    · intro wq hSw; go_simp; try with_reducible rfl
    simp only [Act.put, List.setIfInBounds_toArray, List.set_cons_zero, List.set_cons_succ, List.getElem_toArray, List.getElem_cons_zero, List.getElem_cons_succ]
    refine wpAnyH_take (i := 8) (oi := _) (v := ?_) rfl (by kernel_rfl) (by kernel_rfl) (by kernel_rfl) (fun _ _ _ h => h) (Or.inl ⟨by rfl, ?_⟩) (by assumption) ?_
    rotate_left
    · intro wq hSw; go_simp; try with_reducible rfl
    simp only [Act.put, List.setIfInBounds_toArray, List.set_cons_zero, List.set_cons_succ, List.getElem_toArray, List.getElem_cons_zero, List.getElem_cons_succ]
    refine wpAnyH_take (i := 9) (oi := _) (v := ?_) rfl (by kernel_rfl) (by kernel_rfl) (by kernel_rfl) (fun _ _ _ h => h) (Or.inl ⟨by rfl, ?_⟩) (by assumption) ?_
    rotate_left
    · intro wq hSw; go_simp; try with_reducible rfl
    simp only [Act.put, List.setIfInBounds_toArray, List.set_cons_zero, List.set_cons_succ, List.getElem_toArray, List.getElem_cons_zero, List.getElem_cons_succ]
    refine wpAnyH_take (i := 10) (oi := _) (v := ?_) rfl (by kernel_rfl) (by kernel_rfl) (by kernel_rfl) (fun _ _ _ h => h) (Or.inl ⟨by rfl, ?_⟩) (by assumption) ?_
    rotate_left
    · intro wq hSw; go_simp; try with_reducible rfl
    simp only [Act.put, List.setIfInBounds_toArray, List.set_cons_zero, List.set_cons_succ, List.getElem_toArray, List.getElem_cons_zero, List.getElem_cons_succ]
    refine wpAnyH_take (i := 11) (oi := _) (v := ?_) rfl (by kernel_rfl) (by kernel_rfl) (by kernel_rfl) (fun _ _ _ h => h) (Or.inl ⟨by rfl, ?_⟩) (by assumption) ?_
    rotate_left
    · intro wq hSw; go_simp; try with_reducible rfl
    simp only [Act.put, List.setIfInBounds_toArray, List.set_cons_zero, List.set_cons_succ, List.getElem_toArray, List.getElem_cons_zero, List.getElem_cons_succ]
    clear hca hcb q1
    refine wpAnyH_ready (rs := [1]) (by kernel_rfl) (by simp) ?_
    refine AllReadyH.cons (o := _) rfl (fun K hK => ?_) AllReadyH.nil
    simp only [List.getElem_toArray, List.getElem_cons_zero, List.getElem_cons_succ]
    go_simp
    refine (HEA.out _ hHeld).mono ?_; rintro e w4 ⟨S1, g1, n1, rfl, h4, hq4, hb4⟩; have hE4 := Lib.hid (From.trans hHeld hb4.out)
    refine hK.out _ _ (hE4.out) (fun _ => ?_)
    clear hK K hHeld
    refine wpAnyH_mono (S' := From w4) (fun w' h => From.trans hE4.out h) ?_
    have hHeld := From.refl w4
    have hc4 := h4.out
    clear h4 hb4
    simp only [Act.put, List.setIfInBounds_toArray, List.set_cons_zero, List.set_cons_succ, List.getElem_toArray, List.getElem_cons_zero, List.getElem_cons_succ]
    refine wpAnyH_take (i := 2) (oi := _) (v := ?_) rfl (by kernel_rfl) (by kernel_rfl) (by kernel_rfl) (fun _ _ _ h => h) (Or.inl ⟨by rfl, ?_⟩) (by assumption) ?_
    rotate_left
    · intro wq hSw; go_simp; try with_reducible rfl
    simp only [Act.put, List.setIfInBounds_toArray, List.set_cons_zero, List.set_cons_succ, List.getElem_toArray, List.getElem_cons_zero, List.getElem_cons_succ]
    clear hc4
    refine wpAnyH_ready (rs := [4]) (by kernel_rfl) (by simp) ?_
    refine AllReadyH.cons (o := _) rfl (fun K hK => ?_) AllReadyH.nil
    simp only [List.getElem_toArray, List.getElem_cons_zero, List.getElem_cons_succ]
    go_simp
    refine (HEB.out _ (From.trans hE4.out hHeld)).mono ?_; rintro e w5 ⟨S2, g2, n2, rfl, h5, hq5, hb5⟩; have hF5 := Lib.hid (From.trans hHeld hb5.out); have hE5 := Lib.hid (From.trans hE4.out hF5.out)
    refine hK.out _ _ (hF5.out) (fun _ => ?_)
    clear hK K hHeld
    refine wpAnyH_mono (S' := From w5) (fun w' h => From.trans hF5.out h) ?_
    have hHeld := From.refl w5
    have hc5 := h5.out
    have hqq := HD1.out S1 S2 hq4.out hq5.out
    have hca := fun (W : World) (h : From w5 W) => HCA.out W (From.trans hE5.out h)
    have hcc := fun (W : World) (h : From w5 W) => HCC.out W (From.trans hE5.out h)
    clear h5 hb5 hE4 hF5 hq4 hq5 HEB
    simp only [Act.put, List.setIfInBounds_toArray, List.set_cons_zero, List.set_cons_succ, List.getElem_toArray, List.getElem_cons_zero, List.getElem_cons_succ]
    refine wpAnyH_take (i := 5) (oi := _) (v := ?_) rfl (by kernel_rfl) (by kernel_rfl) (by kernel_rfl) (fun _ _ _ h => h) (Or.inl ⟨by rfl, ?_⟩) (by assumption) ?_
    rotate_left
    · intro wq hSw; go_simp; try with_reducible rfl
    simp only [Act.put, List.setIfInBounds_toArray, List.set_cons_zero, List.set_cons_succ, List.getElem_toArray, List.getElem_cons_zero, List.getElem_cons_succ]
    clear hc5
    refine wpAnyH_take (i := 6) (oi := _) (v := ?_) rfl (by kernel_rfl) (by kernel_rfl) (by kernel_rfl) (fun _ _ _ h => h) (Or.inl ⟨by rfl, ?_⟩) (by assumption) ?_
    rotate_left
    · intro wq hSw; go_simp; try with_reducible rfl
    simp only [Act.put, List.setIfInBounds_toArray, List.set_cons_zero, List.set_cons_succ, List.getElem_toArray, List.getElem_cons_zero, List.getElem_cons_succ]
    clear hqq
    refine wpAnyH_take (i := 12) (oi := _) (v := ?_) rfl (by kernel_rfl) (by kernel_rfl) (by kernel_rfl) (fun _ _ _ h => h) (Or.inl ⟨by rfl, ?_⟩) (by assumption) ?_
    rotate_left
    · intro wq hSw; go_simp; try with_reducible rfl
    simp only [Act.put, List.setIfInBounds_toArray, List.set_cons_zero, List.set_cons_succ, List.getElem_toArray, List.getElem_cons_zero, List.getElem_cons_succ]
    refine wpAnyH_take (i := 13) (oi := _) (v := ?_) rfl (by kernel_rfl) (by kernel_rfl) (by kernel_rfl) (fun _ _ _ h => h) (Or.inl ⟨by rfl, ?_⟩) (by assumption) ?_
    rotate_left
    · intro wq hSw; go_simp; try with_reducible rfl
    simp only [Act.put, List.setIfInBounds_toArray, List.set_cons_zero, List.set_cons_succ, List.getElem_toArray, List.getElem_cons_zero, List.getElem_cons_succ]
    refine wpAnyH_take (i := 14) (oi := _) (v := ?_) rfl (by kernel_rfl) (by kernel_rfl) (by kernel_rfl) (fun _ _ _ h => h) (Or.inl ⟨by rfl, ?_⟩) (by assumption) ?_
    rotate_left
    · intro wq hSw; go_simp; try with_reducible rfl
    simp only [Act.put, List.setIfInBounds_toArray, List.set_cons_zero, List.set_cons_succ, List.getElem_toArray, List.getElem_cons_zero, List.getElem_cons_succ]
    refine wpAnyH_take (i := 17) (oi := _) (v := ?_) rfl (by kernel_rfl) (by kernel_rfl) (by kernel_rfl) (fun _ _ _ h => h) (Or.inl ⟨by rfl, ?_⟩) (by assumption) ?_
    rotate_left
    · intro wq hSw; go_simp; try with_reducible rfl
    simp only [Act.put, List.setIfInBounds_toArray, List.set_cons_zero, List.set_cons_succ, List.getElem_toArray, List.getElem_cons_zero, List.getElem_cons_succ]
    refine wpAnyH_take (i := 21) (oi := _) (v := ?_) rfl (by kernel_rfl) (by kernel_rfl) (by kernel_rfl) (fun _ _ _ h => h) (Or.inl ⟨by rfl, ?_⟩) (by assumption) ?_
    rotate_left
    · intro wq hSw; go_simp; try with_reducible rfl
    simp only [Act.put, List.setIfInBounds_toArray, List.set_cons_zero, List.set_cons_succ, List.getElem_toArray, List.getElem_cons_zero, List.getElem_cons_succ]
    refine wpAnyH_take (i := 22) (oi := _) (v := ?_) rfl (by kernel_rfl) (by kernel_rfl) (by kernel_rfl) (fun _ _ _ h => h) (Or.inl ⟨by rfl, ?_⟩) (by assumption) ?_
    rotate_left
    · intro wq hSw; go_simp; try with_reducible rfl
    simp only [Act.put, List.setIfInBounds_toArray, List.set_cons_zero, List.set_cons_succ, List.getElem_toArray, List.getElem_cons_zero, List.getElem_cons_succ]
    refine wpAnyH_take (i := 23) (oi := _) (v := ?_) rfl (by kernel_rfl) (by kernel_rfl) (by kernel_rfl) (fun _ _ _ h => h) (Or.inl ⟨by rfl, ?_⟩) (by assumption) ?_
    rotate_left
    · intro wq hSw; go_simp; try with_reducible rfl
    simp only [Act.put, List.setIfInBounds_toArray, List.set_cons_zero, List.set_cons_succ, List.getElem_toArray, List.getElem_cons_zero, List.getElem_cons_succ]
    refine wpAnyH_take (i := 24) (oi := _) (v := ?_) rfl (by kernel_rfl) (by kernel_rfl) (by kernel_rfl) (fun _ _ _ h => h) (Or.inl ⟨by rfl, ?_⟩) (by assumption) ?_
    rotate_left
    · intro wq hSw; go_simp; try with_reducible rfl
    simp only [Act.put, List.setIfInBounds_toArray, List.set_cons_zero, List.set_cons_succ, List.getElem_toArray, List.getElem_cons_zero, List.getElem_cons_succ]
    refine wpAnyH_take (i := 25) (oi := _) (v := ?_) rfl (by kernel_rfl) (by kernel_rfl) (by kernel_rfl) (fun _ _ _ h => h) (Or.inl ⟨by rfl, ?_⟩) (by assumption) ?_
    rotate_left
    · intro wq hSw; go_simp; try with_reducible rfl
    simp only [Act.put, List.setIfInBounds_toArray, List.set_cons_zero, List.set_cons_succ, List.getElem_toArray, List.getElem_cons_zero, List.getElem_cons_succ]
    clear hca hcc q2
    refine wpAnyH_ready (rs := [15]) (by kernel_rfl) (by simp) ?_
    refine AllReadyH.cons (o := _) rfl (fun K hK => ?_) AllReadyH.nil
    simp only [List.getElem_toArray, List.getElem_cons_zero, List.getElem_cons_succ]
    go_simp
    refine (HEA.out _ (From.trans hE5.out hHeld)).mono ?_; rintro e w6 ⟨S3, g3, n3, rfl, h6, hq6, hb6⟩; have hF6 := Lib.hid (From.trans hHeld hb6.out); have hE6 := Lib.hid (From.trans hE5.out hF6.out)
    refine hK.out _ _ (hF6.out) (fun _ => ?_)
    clear hK K hHeld
    refine wpAnyH_mono (S' := From w6) (fun w' h => From.trans hF6.out h) ?_
    have hHeld := From.refl w6
    have hc6 := h6.out
    clear h6 hb6 hE5 hF6 HEA
    simp only [Act.put, List.setIfInBounds_toArray, List.set_cons_zero, List.set_cons_succ, List.getElem_toArray, List.getElem_cons_zero, List.getElem_cons_succ]
    refine wpAnyH_take (i := 16) (oi := _) (v := ?_) rfl (by kernel_rfl) (by kernel_rfl) (by kernel_rfl) (fun _ _ _ h => h) (Or.inl ⟨by rfl, ?_⟩) (by assumption) ?_
    rotate_left
    · intro wq hSw; go_simp; try with_reducible rfl
    simp only [Act.put, List.setIfInBounds_toArray, List.set_cons_zero, List.set_cons_succ, List.getElem_toArray, List.getElem_cons_zero, List.getElem_cons_succ]
    clear hc6
    refine wpAnyH_ready (rs := [18]) (by kernel_rfl) (by simp) ?_
    refine AllReadyH.cons (o := _) rfl (fun K hK => ?_) AllReadyH.nil
    simp only [List.getElem_toArray, List.getElem_cons_zero, List.getElem_cons_succ]
    go_simp
    refine (HEC.out _ (From.trans hE6.out hHeld)).mono ?_; rintro e w7 ⟨S4, g4, n4, rfl, h7, hq7, hb7⟩; have hF7 := Lib.hid (From.trans hHeld hb7.out); have hE7 := Lib.hid (From.trans hE6.out hF7.out)
    refine hK.out _ _ (hF7.out) (fun _ => ?_)
    clear hK K hHeld
    refine wpAnyH_mono (S' := From w7) (fun w' h => From.trans hF7.out h) ?_
    have hHeld := From.refl w7
    have hc7 := h7.out
    have hqq := HD2.out S3 S4 hq6.out hq7.out
    clear h7 hb7 hE6 hF7 hq6 hq7 HEC
    simp only [Act.put, List.setIfInBounds_toArray, List.set_cons_zero, List.set_cons_succ, List.getElem_toArray, List.getElem_cons_zero, List.getElem_cons_succ]
    refine wpAnyH_take (i := 19) (oi := _) (v := ?_) rfl (by kernel_rfl) (by kernel_rfl) (by kernel_rfl) (fun _ _ _ h => h) (Or.inl ⟨by rfl, ?_⟩) (by assumption) ?_
    rotate_left
    · intro wq hSw; go_simp; try with_reducible rfl
    simp only [Act.put, List.setIfInBounds_toArray, List.set_cons_zero, List.set_cons_succ, List.getElem_toArray, List.getElem_cons_zero, List.getElem_cons_succ]
    clear hc7
    refine wpAnyH_take (i := 20) (oi := _) (v := ?_) rfl (by kernel_rfl) (by kernel_rfl) (by kernel_rfl) (fun _ _ _ h => h) (Or.inl ⟨by rfl, ?_⟩) (by assumption) ?_
    rotate_left
    · intro wq hSw; go_simp; try with_reducible rfl
    simp only [Act.put, List.setIfInBounds_toArray, List.set_cons_zero, List.set_cons_succ, List.getElem_toArray, List.getElem_cons_zero, List.getElem_cons_succ]
    clear hqq
    refine wpAnyH_take (i := 26) (oi := _) (v := ?_) rfl (by kernel_rfl) (by kernel_rfl) (by kernel_rfl) (fun _ _ _ h => h) (Or.inl ⟨by rfl, ?_⟩) (by assumption) ?_
    rotate_left
    · intro wq hSw; go_simp; try with_reducible rfl
    simp only [Act.put, List.setIfInBounds_toArray, List.set_cons_zero, List.set_cons_succ, List.getElem_toArray, List.getElem_cons_zero, List.getElem_cons_succ]
    refine wpAnyH_take (i := 27) (oi := _) (v := ?_) rfl (by kernel_rfl) (by kernel_rfl) (by kernel_rfl) (fun _ _ _ h => h) (Or.inl ⟨by rfl, ?_⟩) (by assumption) ?_
    rotate_left
    · intro wq hSw; go_simp; try with_reducible rfl
    simp only [Act.put, List.setIfInBounds_toArray, List.set_cons_zero, List.set_cons_succ, List.getElem_toArray, List.getElem_cons_zero, List.getElem_cons_succ]
    refine wpAnyH_take (i := 28) (oi := _) (v := ?_) rfl (by kernel_rfl) (by kernel_rfl) (by kernel_rfl) (fun _ _ _ h => h) (Or.inl ⟨by rfl, ?_⟩) (by assumption) ?_
    rotate_left
    · intro wq hSw; go_simp; try with_reducible rfl
    simp only [Act.put, List.setIfInBounds_toArray, List.set_cons_zero, List.set_cons_succ, List.getElem_toArray, List.getElem_cons_zero, List.getElem_cons_succ]
    refine wpAnyH_done (by kernel_rfl) ?_ _
    refine NoPanic.normal ?_
    go_wp2_with fail
    go_ret
    exact ⟨rfl, HB3.out.trans (Below.mono hE7.out HB3.out.size)⟩
  · have hways : (¬ 0 < N) ∨ (0 < N ∧ ¬ 0 ≤ at_) := by
      by_cases h : 0 < N
      · exact .inr ⟨h, fun h2 => hif ⟨h, h2⟩⟩
      · exact .inl h
    clear hif
    obtain ⟨Cc, hCc⟩ : ∃ Cc, A = Cc := ⟨_, rfl⟩
    have HCL : Hid (Cc.length = N) := Lib.hid (by rw [← hCc]; exact HN.out)
    have HCE := Lib.hid hCc
    clear hCc
    rcases hways with h1 | ⟨h1, h2⟩
    · obtain rfl : N = 0 := by omega
      clear h1
      go_wp2_with (at_builtin; refine wpList_append_bytes rfl _ (.tmp 18) rfl w1.heap.size (.slice none 0 0) 0 [] rfl (own_nil _ _) _ A rfl HA.out (by rw [HN.out]; omega) (Nat.le_refl _) ?_; intro v3 w3 hown hgr; have HO3 : Hid (w3.ownsRow w1.heap.size 5 1 v3 0 (u8s A)) := Lib.hid (by rw [Nat.zero_add, HN.out] at hown; exact hown); have HB2 : Hid (Below w1.heap.size w1 w3) := Lib.hid ⟨hgr.os, hgr.tape, hgr.output, hgr.size, fun k hk => hgr.block k hk (by simp [Value.ownBlock])⟩; clear hown hgr; obtain ⟨sp3, cp3, rfl, hcp3, hcm3⟩ := ownsRow_slice HO3.out)
      have HIC : Hid (IsBytes w3 (.slice sp3 0 cp3) Cc) := Lib.hid (by rw [← HCE.out]; exact isBytes_ownS HA.out.1 HN.out.symm (by rw [HN.out]; exact HO3.out))
      have HIA := Lib.hid (HA.out.below HB2.out)
      have HIB := Lib.hid (HB.out.below HB2.out)
      have HB3 := Lib.hid (HB1.out.trans (HB2.out.mono hsz1))
      clear HO3 HB2 HA HB HB1 HCE
      have hca := fun (W : World) (h : From w3 W) => run_conv (HIA.out.below h)
      have hcb := fun (W : World) (h : From w3 W) => run_conv (HIB.out.below h)
      have hcc0 := fun (W : World) (h : From w3 W) => run_conv (HIC.out.below h)
      have hea := fun (W : World) (h : From w3 W) => got_c _ A W (HIA.out.below h) (by rw [HN.out]; omega)
      have heb := fun (W : World) (h : From w3 W) => got_c _ B W (HIB.out.below h) (by omega)
      have hec := fun (W : World) (h : From w3 W) => got_c _ Cc W (HIC.out.below h) (by rw [HCL.out]; omega)
      have q1 := str_eqb HIA.out.1 HIB.out.1
      have q2 := str_eqb HIA.out.1 HIC.out.1
      have HD1 := Lib.hid fun S1 S2 (h1 : EncS A S1) (h2 : EncS B S2) => enc_eqb h1 h2 HIA.out.1 HIB.out.1 (by rw [HN.out]; omega) (by omega)
      have HD2 := Lib.hid fun S1 S2 (h1 : EncS A S1) (h2 : EncS Cc S2) => enc_eqb h1 h2 HIA.out.1 HIC.out.1 (by rw [HN.out]; omega) (by rw [HCL.out]; omega)
      generalize decide (A = B) = d1 at *
      generalize decide (A = Cc) = d2 at *
      generalize str A = SA at *
      generalize str B = SB at *
      generalize str Cc = SC at *
      have hdd1 : (d1 == d1) = true := by cases d1 <;> rfl
      have hdd2 : (d2 == d2) = true := by cases d2 <;> rfl
      have HCA := Lib.hid hca
      have HCC := Lib.hid hcc0
      have HEA := Lib.hid hea
      have HEB := Lib.hid heb
      have HEC := Lib.hid hec
      clear hcc0 hea heb hec HIA HIB HIC
      go_wp2_with fail
      refine wp_region_noPanic ?_
      have hHeld : From w3 w3.drew := (Below.refl _ _).drew
      refine wpAnyH_start (n := 29) (l := #[false, false, false, false, false, false, false, false, false, false, false, false, false, false, false, false, false, false, false, false, false, false, false, false, false, false, false, false, false]) (S := From w3) (by kernel_rfl) (hHeld) (by kernel_rfl) (by kernel_rfl) ?_
      refine wpAnyH_take (i := 0) (oi := _) (v := ?_) rfl (by kernel_rfl) (by kernel_rfl) (by kernel_rfl) (fun _ _ _ h => h) (Or.inl ⟨by rfl, ?_⟩) (by assumption) ?_
      rotate_left
      · intro wq hSw; go_simp; try with_reducible rfl
      simp only [Act.put, List.setIfInBounds_toArray, List.set_cons_zero, List.set_cons_succ, List.getElem_toArray, List.getElem_cons_zero, List.getElem_cons_succ]
      refine wpAnyH_take (i := 3) (oi := _) (v := ?_) rfl (by kernel_rfl) (by kernel_rfl) (by kernel_rfl) (fun _ _ _ h => h) (Or.inl ⟨by rfl, ?_⟩) (by assumption) ?_
      rotate_left
      · intro wq hSw; go_simp; try with_reducible rfl
      simp only [Act.put, List.setIfInBounds_toArray, List.set_cons_zero, List.set_cons_succ, List.getElem_toArray, List.getElem_cons_zero, List.getElem_cons_succ]
      refine wpAnyH_take (i := 7) (oi := _) (v := ?_) rfl (by kernel_rfl) (by kernel_rfl) (by kernel_rfl) (fun _ _ _ h => h) (Or.inl ⟨by rfl, ?_⟩) (by assumption) ?_
      rotate_left
      · intro wq hSw; go_simp; try with_reducible rfl
      simp only [Act.put, List.setIfInBounds_toArray, List.set_cons_zero, List.set_cons_succ, List.getElem_toArray, List.getElem_cons_zero, List.getElem_cons_succ]
      refine wpAnyH_take (i := 8) (oi := _) (v := ?_) rfl (by kernel_rfl) (by kernel_rfl) (by kernel_rfl) (fun _ _ _ h => h) (Or.inl ⟨by rfl, ?_⟩) (by assumption) ?_
      rotate_left
      · intro wq hSw; go_simp; try with_reducible rfl
      simp only [Act.put, List.setIfInBounds_toArray, List.set_cons_zero, List.set_cons_succ, List.getElem_toArray, List.getElem_cons_zero, List.getElem_cons_succ]
      refine wpAnyH_take (i := 9) (oi := _) (v := ?_) rfl (by kernel_rfl) (by kernel_rfl) (by kernel_rfl) (fun _ _ _ h => h) (Or.inl ⟨by rfl, ?_⟩) (by assumption) ?_
      rotate_left
      · intro wq hSw; go_simp; try with_reducible rfl
      simp only [Act.put, List.setIfInBounds_toArray, List.set_cons_zero, List.set_cons_succ, List.getElem_toArray, List.getElem_cons_zero, List.getElem_cons_succ]
      refine wpAnyH_take (i := 10) (oi := _) (v := ?_) rfl (by kernel_rfl) (by kernel_rfl) (by kernel_rfl) (fun _ _ _ h => h) (Or.inl ⟨by rfl, ?_⟩) (by assumption) ?_
      rotate_left
      · intro wq hSw; go_simp; try with_reducible rfl
      simp only [Act.put, List.setIfInBounds_toArray, List.set_cons_zero, List.set_cons_succ, List.getElem_toArray, List.getElem_cons_zero, List.getElem_cons_succ]
      refine wpAnyH_take (i := 11) (oi := _) (v := ?_) rfl (by kernel_rfl) (by kernel_rfl) (by kernel_rfl) (fun _ _ _ h => h) (Or.inl ⟨by rfl, ?_⟩) (by assumption) ?_
      rotate_left
      · intro wq hSw; go_simp; try with_reducible rfl
      simp only [Act.put, List.setIfInBounds_toArray, List.set_cons_zero, List.set_cons_succ, List.getElem_toArray, List.getElem_cons_zero, List.getElem_cons_succ]
      clear hca hcb q1
      refine wpAnyH_ready (rs := [1]) (by kernel_rfl) (by simp) ?_
      refine AllReadyH.cons (o := _) rfl (fun K hK => ?_) AllReadyH.nil
      simp only [List.getElem_toArray, List.getElem_cons_zero, List.getElem_cons_succ]
      go_simp
      refine (HEA.out _ hHeld).mono ?_; rintro e w4 ⟨S1, g1, n1, rfl, h4, hq4, hb4⟩; have hE4 := Lib.hid (From.trans hHeld hb4.out)
      refine hK.out _ _ (hE4.out) (fun _ => ?_)
      clear hK K hHeld
      refine wpAnyH_mono (S' := From w4) (fun w' h => From.trans hE4.out h) ?_
      have hHeld := From.refl w4
      have hc4 := h4.out
      clear h4 hb4
      simp only [Act.put, List.setIfInBounds_toArray, List.set_cons_zero, List.set_cons_succ, List.getElem_toArray, List.getElem_cons_zero, List.getElem_cons_succ]
      refine wpAnyH_take (i := 2) (oi := _) (v := ?_) rfl (by kernel_rfl) (by kernel_rfl) (by kernel_rfl) (fun _ _ _ h => h) (Or.inl ⟨by rfl, ?_⟩) (by assumption) ?_
      rotate_left
      · intro wq hSw; go_simp; try with_reducible rfl
      simp only [Act.put, List.setIfInBounds_toArray, List.set_cons_zero, List.set_cons_succ, List.getElem_toArray, List.getElem_cons_zero, List.getElem_cons_succ]
      clear hc4
      refine wpAnyH_ready (rs := [4]) (by kernel_rfl) (by simp) ?_
      refine AllReadyH.cons (o := _) rfl (fun K hK => ?_) AllReadyH.nil
      simp only [List.getElem_toArray, List.getElem_cons_zero, List.getElem_cons_succ]
      go_simp
      refine (HEB.out _ (From.trans hE4.out hHeld)).mono ?_; rintro e w5 ⟨S2, g2, n2, rfl, h5, hq5, hb5⟩; have hF5 := Lib.hid (From.trans hHeld hb5.out); have hE5 := Lib.hid (From.trans hE4.out hF5.out)
      refine hK.out _ _ (hF5.out) (fun _ => ?_)
      clear hK K hHeld
      refine wpAnyH_mono (S' := From w5) (fun w' h => From.trans hF5.out h) ?_
      have hHeld := From.refl w5
      have hc5 := h5.out
      have hqq := HD1.out S1 S2 hq4.out hq5.out
      have hca := fun (W : World) (h : From w5 W) => HCA.out W (From.trans hE5.out h)
      have hcc := fun (W : World) (h : From w5 W) => HCC.out W (From.trans hE5.out h)
      clear h5 hb5 hE4 hF5 hq4 hq5 HEB
      simp only [Act.put, List.setIfInBounds_toArray, List.set_cons_zero, List.set_cons_succ, List.getElem_toArray, List.getElem_cons_zero, List.getElem_cons_succ]
      refine wpAnyH_take (i := 5) (oi := _) (v := ?_) rfl (by kernel_rfl) (by kernel_rfl) (by kernel_rfl) (fun _ _ _ h => h) (Or.inl ⟨by rfl, ?_⟩) (by assumption) ?_
      rotate_left
      · intro wq hSw; go_simp; try with_reducible rfl
      simp only [Act.put, List.setIfInBounds_toArray, List.set_cons_zero, List.set_cons_succ, List.getElem_toArray, List.getElem_cons_zero, List.getElem_cons_succ]
      clear hc5
      refine wpAnyH_take (i := 6) (oi := _) (v := ?_) rfl (by kernel_rfl) (by kernel_rfl) (by kernel_rfl) (fun _ _ _ h => h) (Or.inl ⟨by rfl, ?_⟩) (by assumption) ?_
      rotate_left
      · intro wq hSw; go_simp; try with_reducible rfl
      simp only [Act.put, List.setIfInBounds_toArray, List.set_cons_zero, List.set_cons_succ, List.getElem_toArray, List.getElem_cons_zero, List.getElem_cons_succ]
      clear hqq
      refine wpAnyH_take (i := 12) (oi := _) (v := ?_) rfl (by kernel_rfl) (by kernel_rfl) (by kernel_rfl) (fun _ _ _ h => h) (Or.inl ⟨by rfl, ?_⟩) (by assumption) ?_
      rotate_left
      · intro wq hSw; go_simp; try with_reducible rfl
      simp only [Act.put, List.setIfInBounds_toArray, List.set_cons_zero, List.set_cons_succ, List.getElem_toArray, List.getElem_cons_zero, List.getElem_cons_succ]
      refine wpAnyH_take (i := 13) (oi := _) (v := ?_) rfl (by kernel_rfl) (by kernel_rfl) (by kernel_rfl) (fun _ _ _ h => h) (Or.inl ⟨by rfl, ?_⟩) (by assumption) ?_
      rotate_left
      · intro wq hSw; go_simp; try with_reducible rfl
      simp only [Act.put, List.setIfInBounds_toArray, List.set_cons_zero, List.set_cons_succ, List.getElem_toArray, List.getElem_cons_zero, List.getElem_cons_succ]
      refine wpAnyH_take (i := 14) (oi := _) (v := ?_) rfl (by kernel_rfl) (by kernel_rfl) (by kernel_rfl) (fun _ _ _ h => h) (Or.inl ⟨by rfl, ?_⟩) (by assumption) ?_
      rotate_left
      · intro wq hSw; go_simp; try with_reducible rfl
      simp only [Act.put, List.setIfInBounds_toArray, List.set_cons_zero, List.set_cons_succ, List.getElem_toArray, List.getElem_cons_zero, List.getElem_cons_succ]
      refine wpAnyH_take (i := 17) (oi := _) (v := ?_) rfl (by kernel_rfl) (by kernel_rfl) (by kernel_rfl) (fun _ _ _ h => h) (Or.inl ⟨by rfl, ?_⟩) (by assumption) ?_
      rotate_left
      · intro wq hSw; go_simp; try with_reducible rfl
      simp only [Act.put, List.setIfInBounds_toArray, List.set_cons_zero, List.set_cons_succ, List.getElem_toArray, List.getElem_cons_zero, List.getElem_cons_succ]
      refine wpAnyH_take (i := 21) (oi := _) (v := ?_) rfl (by kernel_rfl) (by kernel_rfl) (by kernel_rfl) (fun _ _ _ h => h) (Or.inl ⟨by rfl, ?_⟩) (by assumption) ?_
      rotate_left
      · intro wq hSw; go_simp; try with_reducible rfl
      simp only [Act.put, List.setIfInBounds_toArray, List.set_cons_zero, List.set_cons_succ, List.getElem_toArray, List.getElem_cons_zero, List.getElem_cons_succ]
      refine wpAnyH_take (i := 22) (oi := _) (v := ?_) rfl (by kernel_rfl) (by kernel_rfl) (by kernel_rfl) (fun _ _ _ h => h) (Or.inl ⟨by rfl, ?_⟩) (by assumption) ?_
      rotate_left
      · intro wq hSw; go_simp; try with_reducible rfl
      simp only [Act.put, List.setIfInBounds_toArray, List.set_cons_zero, List.set_cons_succ, List.getElem_toArray, List.getElem_cons_zero, List.getElem_cons_succ]
      refine wpAnyH_take (i := 23) (oi := _) (v := ?_) rfl (by kernel_rfl) (by kernel_rfl) (by kernel_rfl) (fun _ _ _ h => h) (Or.inl ⟨by rfl, ?_⟩) (by assumption) ?_
      rotate_left
      · intro wq hSw; go_simp; try with_reducible rfl
      simp only [Act.put, List.setIfInBounds_toArray, List.set_cons_zero, List.set_cons_succ, List.getElem_toArray, List.getElem_cons_zero, List.getElem_cons_succ]
      refine wpAnyH_take (i := 24) (oi := _) (v := ?_) rfl (by kernel_rfl) (by kernel_rfl) (by kernel_rfl) (fun _ _ _ h => h) (Or.inl ⟨by rfl, ?_⟩) (by assumption) ?_
      rotate_left
      · intro wq hSw; go_simp; try with_reducible rfl
      simp only [Act.put, List.setIfInBounds_toArray, List.set_cons_zero, List.set_cons_succ, List.getElem_toArray, List.getElem_cons_zero, List.getElem_cons_succ]
      refine wpAnyH_take (i := 25) (oi := _) (v := ?_) rfl (by kernel_rfl) (by kernel_rfl) (by kernel_rfl) (fun _ _ _ h => h) (Or.inl ⟨by rfl, ?_⟩) (by assumption) ?_
      rotate_left
      · intro wq hSw; go_simp; try with_reducible rfl
      simp only [Act.put, List.setIfInBounds_toArray, List.set_cons_zero, List.set_cons_succ, List.getElem_toArray, List.getElem_cons_zero, List.getElem_cons_succ]
      clear hca hcc q2
      refine wpAnyH_ready (rs := [15]) (by kernel_rfl) (by simp) ?_
      refine AllReadyH.cons (o := _) rfl (fun K hK => ?_) AllReadyH.nil
      simp only [List.getElem_toArray, List.getElem_cons_zero, List.getElem_cons_succ]
      go_simp
      refine (HEA.out _ (From.trans hE5.out hHeld)).mono ?_; rintro e w6 ⟨S3, g3, n3, rfl, h6, hq6, hb6⟩; have hF6 := Lib.hid (From.trans hHeld hb6.out); have hE6 := Lib.hid (From.trans hE5.out hF6.out)
      refine hK.out _ _ (hF6.out) (fun _ => ?_)
      clear hK K hHeld
      refine wpAnyH_mono (S' := From w6) (fun w' h => From.trans hF6.out h) ?_
      have hHeld := From.refl w6
      have hc6 := h6.out
      clear h6 hb6 hE5 hF6 HEA
      simp only [Act.put, List.setIfInBounds_toArray, List.set_cons_zero, List.set_cons_succ, List.getElem_toArray, List.getElem_cons_zero, List.getElem_cons_succ]
      refine wpAnyH_take (i := 16) (oi := _) (v := ?_) rfl (by kernel_rfl) (by kernel_rfl) (by kernel_rfl) (fun _ _ _ h => h) (Or.inl ⟨by rfl, ?_⟩) (by assumption) ?_
      rotate_left
      · intro wq hSw; go_simp; try with_reducible rfl
      simp only [Act.put, List.setIfInBounds_toArray, List.set_cons_zero, List.set_cons_succ, List.getElem_toArray, List.getElem_cons_zero, List.getElem_cons_succ]
      clear hc6
      refine wpAnyH_ready (rs := [18]) (by kernel_rfl) (by simp) ?_
      refine AllReadyH.cons (o := _) rfl (fun K hK => ?_) AllReadyH.nil
      simp only [List.getElem_toArray, List.getElem_cons_zero, List.getElem_cons_succ]
      go_simp
      refine (HEC.out _ (From.trans hE6.out hHeld)).mono ?_; rintro e w7 ⟨S4, g4, n4, rfl, h7, hq7, hb7⟩; have hF7 := Lib.hid (From.trans hHeld hb7.out); have hE7 := Lib.hid (From.trans hE6.out hF7.out)
      refine hK.out _ _ (hF7.out) (fun _ => ?_)
      clear hK K hHeld
      refine wpAnyH_mono (S' := From w7) (fun w' h => From.trans hF7.out h) ?_
      have hHeld := From.refl w7
      have hc7 := h7.out
      have hqq := HD2.out S3 S4 hq6.out hq7.out
      clear h7 hb7 hE6 hF7 hq6 hq7 HEC
      simp only [Act.put, List.setIfInBounds_toArray, List.set_cons_zero, List.set_cons_succ, List.getElem_toArray, List.getElem_cons_zero, List.getElem_cons_succ]
      refine wpAnyH_take (i := 19) (oi := _) (v := ?_) rfl (by kernel_rfl) (by kernel_rfl) (by kernel_rfl) (fun _ _ _ h => h) (Or.inl ⟨by rfl, ?_⟩) (by assumption) ?_
      rotate_left
      · intro wq hSw; go_simp; try with_reducible rfl
      simp only [Act.put, List.setIfInBounds_toArray, List.set_cons_zero, List.set_cons_succ, List.getElem_toArray, List.getElem_cons_zero, List.getElem_cons_succ]
      clear hc7
      refine wpAnyH_take (i := 20) (oi := _) (v := ?_) rfl (by kernel_rfl) (by kernel_rfl) (by kernel_rfl) (fun _ _ _ h => h) (Or.inl ⟨by rfl, ?_⟩) (by assumption) ?_
      rotate_left
      · intro wq hSw; go_simp; try with_reducible rfl
      simp only [Act.put, List.setIfInBounds_toArray, List.set_cons_zero, List.set_cons_succ, List.getElem_toArray, List.getElem_cons_zero, List.getElem_cons_succ]
      clear hqq
      refine wpAnyH_take (i := 26) (oi := _) (v := ?_) rfl (by kernel_rfl) (by kernel_rfl) (by kernel_rfl) (fun _ _ _ h => h) (Or.inl ⟨by rfl, ?_⟩) (by assumption) ?_
      rotate_left
      · intro wq hSw; go_simp; try with_reducible rfl
      simp only [Act.put, List.setIfInBounds_toArray, List.set_cons_zero, List.set_cons_succ, List.getElem_toArray, List.getElem_cons_zero, List.getElem_cons_succ]
      refine wpAnyH_take (i := 27) (oi := _) (v := ?_) rfl (by kernel_rfl) (by kernel_rfl) (by kernel_rfl) (fun _ _ _ h => h) (Or.inl ⟨by rfl, ?_⟩) (by assumption) ?_
      rotate_left
      · intro wq hSw; go_simp; try with_reducible rfl
      simp only [Act.put, List.setIfInBounds_toArray, List.set_cons_zero, List.set_cons_succ, List.getElem_toArray, List.getElem_cons_zero, List.getElem_cons_succ]
      refine wpAnyH_take (i := 28) (oi := _) (v := ?_) rfl (by kernel_rfl) (by kernel_rfl) (by kernel_rfl) (fun _ _ _ h => h) (Or.inl ⟨by rfl, ?_⟩) (by assumption) ?_
      rotate_left
      · intro wq hSw; go_simp; try with_reducible rfl
      simp only [Act.put, List.setIfInBounds_toArray, List.set_cons_zero, List.set_cons_succ, List.getElem_toArray, List.getElem_cons_zero, List.getElem_cons_succ]
      refine wpAnyH_done (by kernel_rfl) ?_ _
      refine NoPanic.normal ?_
      go_wp2_with fail
      go_ret
      exact ⟨rfl, HB3.out.trans (Below.mono hE7.out HB3.out.size)⟩
    · skip
      go_wp2_with (at_builtin; refine wpList_append_bytes rfl _ (.tmp 18) rfl w1.heap.size (.slice none 0 0) 0 [] rfl (own_nil _ _) _ A rfl HA.out (by rw [HN.out]; omega) (Nat.le_refl _) ?_; intro v3 w3 hown hgr; have HO3 : Hid (w3.ownsRow w1.heap.size 5 1 v3 N (u8s A)) := Lib.hid (by rw [Nat.zero_add, HN.out] at hown; exact hown); have HB2 : Hid (Below w1.heap.size w1 w3) := Lib.hid ⟨hgr.os, hgr.tape, hgr.output, hgr.size, fun k hk => hgr.block k hk (by simp [Value.ownBlock])⟩; clear hown hgr; obtain ⟨sp3, cp3, rfl, hcp3, hcm3⟩ := ownsRow_slice HO3.out)
      have HIC : Hid (IsBytes w3 (.slice sp3 N cp3) Cc) := Lib.hid (by rw [← HCE.out]; exact isBytes_ownS HA.out.1 HN.out.symm (by rw [HN.out]; exact HO3.out))
      have HIA := Lib.hid (HA.out.below HB2.out)
      have HIB := Lib.hid (HB.out.below HB2.out)
      have HB3 := Lib.hid (HB1.out.trans (HB2.out.mono hsz1))
      clear HO3 HB2 HA HB HB1 HCE
      have hca := fun (W : World) (h : From w3 W) => run_conv (HIA.out.below h)
      have hcb := fun (W : World) (h : From w3 W) => run_conv (HIB.out.below h)
      have hcc0 := fun (W : World) (h : From w3 W) => run_conv (HIC.out.below h)
      have hea := fun (W : World) (h : From w3 W) => got_c _ A W (HIA.out.below h) (by rw [HN.out]; omega)
      have heb := fun (W : World) (h : From w3 W) => got_c _ B W (HIB.out.below h) (by omega)
      have hec := fun (W : World) (h : From w3 W) => got_c _ Cc W (HIC.out.below h) (by rw [HCL.out]; omega)
      have q1 := str_eqb HIA.out.1 HIB.out.1
      have q2 := str_eqb HIA.out.1 HIC.out.1
      have HD1 := Lib.hid fun S1 S2 (h1 : EncS A S1) (h2 : EncS B S2) => enc_eqb h1 h2 HIA.out.1 HIB.out.1 (by rw [HN.out]; omega) (by omega)
      have HD2 := Lib.hid fun S1 S2 (h1 : EncS A S1) (h2 : EncS Cc S2) => enc_eqb h1 h2 HIA.out.1 HIC.out.1 (by rw [HN.out]; omega) (by rw [HCL.out]; omega)
      generalize decide (A = B) = d1 at *
      generalize decide (A = Cc) = d2 at *
      generalize str A = SA at *
      generalize str B = SB at *
      generalize str Cc = SC at *
      have hdd1 : (d1 == d1) = true := by cases d1 <;> rfl
      have hdd2 : (d2 == d2) = true := by cases d2 <;> rfl
      have HCA := Lib.hid hca
      have HCC := Lib.hid hcc0
      have HEA := Lib.hid hea
      have HEB := Lib.hid heb
      have HEC := Lib.hid hec
      clear hcc0 hea heb hec HIA HIB HIC
      go_wp2_with fail
      refine wp_region_noPanic ?_
      have hHeld : From w3 w3.drew := (Below.refl _ _).drew
      refine wpAnyH_start (n := 29) (l := #[false, false, false, false, false, false, false, false, false, false, false, false, false, false, false, false, false, false, false, false, false, false, false, false, false, false, false, false, false]) (S := From w3) (by kernel_rfl) (hHeld) (by kernel_rfl) (by kernel_rfl) ?_
      refine wpAnyH_take (i := 0) (oi := _) (v := ?_) rfl (by kernel_rfl) (by kernel_rfl) (by kernel_rfl) (fun _ _ _ h => h) (Or.inl ⟨by rfl, ?_⟩) (by assumption) ?_
      rotate_left
      · intro wq hSw; go_simp; try with_reducible rfl
      simp only [Act.put, List.setIfInBounds_toArray, List.set_cons_zero, List.set_cons_succ, List.getElem_toArray, List.getElem_cons_zero, List.getElem_cons_succ]
      refine wpAnyH_take (i := 3) (oi := _) (v := ?_) rfl (by kernel_rfl) (by kernel_rfl) (by kernel_rfl) (fun _ _ _ h => h) (Or.inl ⟨by rfl, ?_⟩) (by assumption) ?_
      rotate_left
      · intro wq hSw; go_simp; try with_reducible rfl
      simp only [Act.put, List.setIfInBounds_toArray, List.set_cons_zero, List.set_cons_succ, List.getElem_toArray, List.getElem_cons_zero, List.getElem_cons_succ]
      refine wpAnyH_take (i := 7) (oi := _) (v := ?_) rfl (by kernel_rfl) (by kernel_rfl) (by kernel_rfl) (fun _ _ _ h => h) (Or.inl ⟨by rfl, ?_⟩) (by assumption) ?_
      rotate_left
      · intro wq hSw; go_simp; try with_reducible rfl
      simp only [Act.put, List.setIfInBounds_toArray, List.set_cons_zero, List.set_cons_succ, List.getElem_toArray, List.getElem_cons_zero, List.getElem_cons_succ]
      refine wpAnyH_take (i := 8) (oi := _) (v := ?_) rfl (by kernel_rfl) (by kernel_rfl) (by kernel_rfl) (fun _ _ _ h => h) (Or.inl ⟨by rfl, ?_⟩) (by assumption) ?_
      rotate_left
      · intro wq hSw; go_simp; try with_reducible rfl
      simp only [Act.put, List.setIfInBounds_toArray, List.set_cons_zero, List.set_cons_succ, List.getElem_toArray, List.getElem_cons_zero, List.getElem_cons_succ]
      refine wpAnyH_take (i := 9) (oi := _) (v := ?_) rfl (by kernel_rfl) (by kernel_rfl) (by kernel_rfl) (fun _ _ _ h => h) (Or.inl ⟨by rfl, ?_⟩) (by assumption) ?_
      rotate_left
      · intro wq hSw; go_simp; try with_reducible rfl
      simp only [Act.put, List.setIfInBounds_toArray, List.set_cons_zero, List.set_cons_succ, List.getElem_toArray, List.getElem_cons_zero, List.getElem_cons_succ]
      refine wpAnyH_take (i := 10) (oi := _) (v := ?_) rfl (by kernel_rfl) (by kernel_rfl) (by kernel_rfl) (fun _ _ _ h => h) (Or.inl ⟨by rfl, ?_⟩) (by assumption) ?_
      rotate_left
      · intro wq hSw; go_simp; try with_reducible rfl
      simp only [Act.put, List.setIfInBounds_toArray, List.set_cons_zero, List.set_cons_succ, List.getElem_toArray, List.getElem_cons_zero, List.getElem_cons_succ]
      refine wpAnyH_take (i := 11) (oi := _) (v := ?_) rfl (by kernel_rfl) (by kernel_rfl) (by kernel_rfl) (fun _ _ _ h => h) (Or.inl ⟨by rfl, ?_⟩) (by assumption) ?_
      rotate_left
      · intro wq hSw; go_simp; try with_reducible rfl
      simp only [Act.put, List.setIfInBounds_toArray, List.set_cons_zero, List.set_cons_succ, List.getElem_toArray, List.getElem_cons_zero, List.getElem_cons_succ]
      clear hca hcb q1
      refine wpAnyH_ready (rs := [1]) (by kernel_rfl) (by simp) ?_
      refine AllReadyH.cons (o := _) rfl (fun K hK => ?_) AllReadyH.nil
      simp only [List.getElem_toArray, List.getElem_cons_zero, List.getElem_cons_succ]
      go_simp
      refine (HEA.out _ hHeld).mono ?_; rintro e w4 ⟨S1, g1, n1, rfl, h4, hq4, hb4⟩; have hE4 := Lib.hid (From.trans hHeld hb4.out)
      refine hK.out _ _ (hE4.out) (fun _ => ?_)
      clear hK K hHeld
      refine wpAnyH_mono (S' := From w4) (fun w' h => From.trans hE4.out h) ?_
      have hHeld := From.refl w4
      have hc4 := h4.out
      clear h4 hb4
      simp only [Act.put, List.setIfInBounds_toArray, List.set_cons_zero, List.set_cons_succ, List.getElem_toArray, List.getElem_cons_zero, List.getElem_cons_succ]
      refine wpAnyH_take (i := 2) (oi := _) (v := ?_) rfl (by kernel_rfl) (by kernel_rfl) (by kernel_rfl) (fun _ _ _ h => h) (Or.inl ⟨by rfl, ?_⟩) (by assumption) ?_
      rotate_left
      · intro wq hSw; go_simp; try with_reducible rfl
      simp only [Act.put, List.setIfInBounds_toArray, List.set_cons_zero, List.set_cons_succ, List.getElem_toArray, List.getElem_cons_zero, List.getElem_cons_succ]
      clear hc4
      refine wpAnyH_ready (rs := [4]) (by kernel_rfl) (by simp) ?_
      refine AllReadyH.cons (o := _) rfl (fun K hK => ?_) AllReadyH.nil
      simp only [List.getElem_toArray, List.getElem_cons_zero, List.getElem_cons_succ]
      go_simp
      refine (HEB.out _ (From.trans hE4.out hHeld)).mono ?_; rintro e w5 ⟨S2, g2, n2, rfl, h5, hq5, hb5⟩; have hF5 := Lib.hid (From.trans hHeld hb5.out); have hE5 := Lib.hid (From.trans hE4.out hF5.out)
      refine hK.out _ _ (hF5.out) (fun _ => ?_)
      clear hK K hHeld
      refine wpAnyH_mono (S' := From w5) (fun w' h => From.trans hF5.out h) ?_
      have hHeld := From.refl w5
      have hc5 := h5.out
      have hqq := HD1.out S1 S2 hq4.out hq5.out
      have hca := fun (W : World) (h : From w5 W) => HCA.out W (From.trans hE5.out h)
      have hcc := fun (W : World) (h : From w5 W) => HCC.out W (From.trans hE5.out h)
      clear h5 hb5 hE4 hF5 hq4 hq5 HEB
      simp only [Act.put, List.setIfInBounds_toArray, List.set_cons_zero, List.set_cons_succ, List.getElem_toArray, List.getElem_cons_zero, List.getElem_cons_succ]
      refine wpAnyH_take (i := 5) (oi := _) (v := ?_) rfl (by kernel_rfl) (by kernel_rfl) (by kernel_rfl) (fun _ _ _ h => h) (Or.inl ⟨by rfl, ?_⟩) (by assumption) ?_
      rotate_left
      · intro wq hSw; go_simp; try with_reducible rfl
      simp only [Act.put, List.setIfInBounds_toArray, List.set_cons_zero, List.set_cons_succ, List.getElem_toArray, List.getElem_cons_zero, List.getElem_cons_succ]
      clear hc5
      refine wpAnyH_take (i := 6) (oi := _) (v := ?_) rfl (by kernel_rfl) (by kernel_rfl) (by kernel_rfl) (fun _ _ _ h => h) (Or.inl ⟨by rfl, ?_⟩) (by assumption) ?_
      rotate_left
      · intro wq hSw; go_simp; try with_reducible rfl
      simp only [Act.put, List.setIfInBounds_toArray, List.set_cons_zero, List.set_cons_succ, List.getElem_toArray, List.getElem_cons_zero, List.getElem_cons_succ]
      clear hqq
      refine wpAnyH_take (i := 12) (oi := _) (v := ?_) rfl (by kernel_rfl) (by kernel_rfl) (by kernel_rfl) (fun _ _ _ h => h) (Or.inl ⟨by rfl, ?_⟩) (by assumption) ?_
      rotate_left
      · intro wq hSw; go_simp; try with_reducible rfl
      simp only [Act.put, List.setIfInBounds_toArray, List.set_cons_zero, List.set_cons_succ, List.getElem_toArray, List.getElem_cons_zero, List.getElem_cons_succ]
      refine wpAnyH_take (i := 13) (oi := _) (v := ?_) rfl (by kernel_rfl) (by kernel_rfl) (by kernel_rfl) (fun _ _ _ h => h) (Or.inl ⟨by rfl, ?_⟩) (by assumption) ?_
      rotate_left
      · intro wq hSw; go_simp; try with_reducible rfl
      simp only [Act.put, List.setIfInBounds_toArray, List.set_cons_zero, List.set_cons_succ, List.getElem_toArray, List.getElem_cons_zero, List.getElem_cons_succ]
      refine wpAnyH_take (i := 14) (oi := _) (v := ?_) rfl (by kernel_rfl) (by kernel_rfl) (by kernel_rfl) (fun _ _ _ h => h) (Or.inl ⟨by rfl, ?_⟩) (by assumption) ?_
      rotate_left
      · intro wq hSw; go_simp; try with_reducible rfl
      simp only [Act.put, List.setIfInBounds_toArray, List.set_cons_zero, List.set_cons_succ, List.getElem_toArray, List.getElem_cons_zero, List.getElem_cons_succ]
      refine wpAnyH_take (i := 17) (oi := _) (v := ?_) rfl (by kernel_rfl) (by kernel_rfl) (by kernel_rfl) (fun _ _ _ h => h) (Or.inl ⟨by rfl, ?_⟩) (by assumption) ?_
      rotate_left
      · intro wq hSw; go_simp; try with_reducible rfl
      simp only [Act.put, List.setIfInBounds_toArray, List.set_cons_zero, List.set_cons_succ, List.getElem_toArray, List.getElem_cons_zero, List.getElem_cons_succ]
      refine wpAnyH_take (i := 21) (oi := _) (v := ?_) rfl (by kernel_rfl) (by kernel_rfl) (by kernel_rfl) (fun _ _ _ h => h) (Or.inl ⟨by rfl, ?_⟩) (by assumption) ?_
      rotate_left
      · intro wq hSw; go_simp; try with_reducible rfl
      simp only [Act.put, List.setIfInBounds_toArray, List.set_cons_zero, List.set_cons_succ, List.getElem_toArray, List.getElem_cons_zero, List.getElem_cons_succ]
      refine wpAnyH_take (i := 22) (oi := _) (v := ?_) rfl (by kernel_rfl) (by kernel_rfl) (by kernel_rfl) (fun _ _ _ h => h) (Or.inl ⟨by rfl, ?_⟩) (by assumption) ?_
      rotate_left
      · intro wq hSw; go_simp; try with_reducible rfl
      simp only [Act.put, List.setIfInBounds_toArray, List.set_cons_zero, List.set_cons_succ, List.getElem_toArray, List.getElem_cons_zero, List.getElem_cons_succ]
      refine wpAnyH_take (i := 23) (oi := _) (v := ?_) rfl (by kernel_rfl) (by kernel_rfl) (by kernel_rfl) (fun _ _ _ h => h) (Or.inl ⟨by rfl, ?_⟩) (by assumption) ?_
      rotate_left
      · intro wq hSw; go_simp; try with_reducible rfl
      simp only [Act.put, List.setIfInBounds_toArray, List.set_cons_zero, List.set_cons_succ, List.getElem_toArray, List.getElem_cons_zero, List.getElem_cons_succ]
      refine wpAnyH_take (i := 24) (oi := _) (v := ?_) rfl (by kernel_rfl) (by kernel_rfl) (by kernel_rfl) (fun _ _ _ h => h) (Or.inl ⟨by rfl, ?_⟩) (by assumption) ?_
      rotate_left
      · intro wq hSw; go_simp; try with_reducible rfl
      simp only [Act.put, List.setIfInBounds_toArray, List.set_cons_zero, List.set_cons_succ, List.getElem_toArray, List.getElem_cons_zero, List.getElem_cons_succ]
      refine wpAnyH_take (i := 25) (oi := _) (v := ?_) rfl (by kernel_rfl) (by kernel_rfl) (by kernel_rfl) (fun _ _ _ h => h) (Or.inl ⟨by rfl, ?_⟩) (by assumption) ?_
      rotate_left
      · intro wq hSw; go_simp; try with_reducible rfl
      simp only [Act.put, List.setIfInBounds_toArray, List.set_cons_zero, List.set_cons_succ, List.getElem_toArray, List.getElem_cons_zero, List.getElem_cons_succ]
      clear hca hcc q2
      refine wpAnyH_ready (rs := [15]) (by kernel_rfl) (by simp) ?_
      refine AllReadyH.cons (o := _) rfl (fun K hK => ?_) AllReadyH.nil
      simp only [List.getElem_toArray, List.getElem_cons_zero, List.getElem_cons_succ]
      go_simp
      refine (HEA.out _ (From.trans hE5.out hHeld)).mono ?_; rintro e w6 ⟨S3, g3, n3, rfl, h6, hq6, hb6⟩; have hF6 := Lib.hid (From.trans hHeld hb6.out); have hE6 := Lib.hid (From.trans hE5.out hF6.out)
      refine hK.out _ _ (hF6.out) (fun _ => ?_)
      clear hK K hHeld
      refine wpAnyH_mono (S' := From w6) (fun w' h => From.trans hF6.out h) ?_
      have hHeld := From.refl w6
      have hc6 := h6.out
      clear h6 hb6 hE5 hF6 HEA
      simp only [Act.put, List.setIfInBounds_toArray, List.set_cons_zero, List.set_cons_succ, List.getElem_toArray, List.getElem_cons_zero, List.getElem_cons_succ]
      refine wpAnyH_take (i := 16) (oi := _) (v := ?_) rfl (by kernel_rfl) (by kernel_rfl) (by kernel_rfl) (fun _ _ _ h => h) (Or.inl ⟨by rfl, ?_⟩) (by assumption) ?_
      rotate_left
      · intro wq hSw; go_simp; try with_reducible rfl
      simp only [Act.put, List.setIfInBounds_toArray, List.set_cons_zero, List.set_cons_succ, List.getElem_toArray, List.getElem_cons_zero, List.getElem_cons_succ]
      clear hc6
      refine wpAnyH_ready (rs := [18]) (by kernel_rfl) (by simp) ?_
      refine AllReadyH.cons (o := _) rfl (fun K hK => ?_) AllReadyH.nil
      simp only [List.getElem_toArray, List.getElem_cons_zero, List.getElem_cons_succ]
      go_simp
      refine (HEC.out _ (From.trans hE6.out hHeld)).mono ?_; rintro e w7 ⟨S4, g4, n4, rfl, h7, hq7, hb7⟩; have hF7 := Lib.hid (From.trans hHeld hb7.out); have hE7 := Lib.hid (From.trans hE6.out hF7.out)
      refine hK.out _ _ (hF7.out) (fun _ => ?_)
      clear hK K hHeld
      refine wpAnyH_mono (S' := From w7) (fun w' h => From.trans hF7.out h) ?_
      have hHeld := From.refl w7
      have hc7 := h7.out
      have hqq := HD2.out S3 S4 hq6.out hq7.out
      clear h7 hb7 hE6 hF7 hq6 hq7 HEC
      simp only [Act.put, List.setIfInBounds_toArray, List.set_cons_zero, List.set_cons_succ, List.getElem_toArray, List.getElem_cons_zero, List.getElem_cons_succ]
      refine wpAnyH_take (i := 19) (oi := _) (v := ?_) rfl (by kernel_rfl) (by kernel_rfl) (by kernel_rfl) (fun _ _ _ h => h) (Or.inl ⟨by rfl, ?_⟩) (by assumption) ?_
      rotate_left
      · intro wq hSw; go_simp; try with_reducible rfl
      simp only [Act.put, List.setIfInBounds_toArray, List.set_cons_zero, List.set_cons_succ, List.getElem_toArray, List.getElem_cons_zero, List.getElem_cons_succ]
      clear hc7
      refine wpAnyH_take (i := 20) (oi := _) (v := ?_) rfl (by kernel_rfl) (by kernel_rfl) (by kernel_rfl) (fun _ _ _ h => h) (Or.inl ⟨by rfl, ?_⟩) (by assumption) ?_
      rotate_left
      · intro wq hSw; go_simp; try with_reducible rfl
      simp only [Act.put, List.setIfInBounds_toArray, List.set_cons_zero, List.set_cons_succ, List.getElem_toArray, List.getElem_cons_zero, List.getElem_cons_succ]
      clear hqq
      refine wpAnyH_take (i := 26) (oi := _) (v := ?_) rfl (by kernel_rfl) (by kernel_rfl) (by kernel_rfl) (fun _ _ _ h => h) (Or.inl ⟨by rfl, ?_⟩) (by assumption) ?_
      rotate_left
      · intro wq hSw; go_simp; try with_reducible rfl
      simp only [Act.put, List.setIfInBounds_toArray, List.set_cons_zero, List.set_cons_succ, List.getElem_toArray, List.getElem_cons_zero, List.getElem_cons_succ]
      refine wpAnyH_take (i := 27) (oi := _) (v := ?_) rfl (by kernel_rfl) (by kernel_rfl) (by kernel_rfl) (fun _ _ _ h => h) (Or.inl ⟨by rfl, ?_⟩) (by assumption) ?_
      rotate_left
      · intro wq hSw; go_simp; try with_reducible rfl
      simp only [Act.put, List.setIfInBounds_toArray, List.set_cons_zero, List.set_cons_succ, List.getElem_toArray, List.getElem_cons_zero, List.getElem_cons_succ]
      refine wpAnyH_take (i := 28) (oi := _) (v := ?_) rfl (by kernel_rfl) (by kernel_rfl) (by kernel_rfl) (fun _ _ _ h => h) (Or.inl ⟨by rfl, ?_⟩) (by assumption) ?_
      rotate_left
      · intro wq hSw; go_simp; try with_reducible rfl
      simp only [Act.put, List.setIfInBounds_toArray, List.set_cons_zero, List.set_cons_succ, List.getElem_toArray, List.getElem_cons_zero, List.getElem_cons_succ]
      refine wpAnyH_done (by kernel_rfl) ?_ _
      refine NoPanic.normal ?_
      go_wp2_with fail
      go_ret
      exact ⟨rfl, HB3.out.trans (Below.mono hE7.out HB3.out.size)⟩
end Go.Proofs.Ytmeejkfoeihcfaa.S10

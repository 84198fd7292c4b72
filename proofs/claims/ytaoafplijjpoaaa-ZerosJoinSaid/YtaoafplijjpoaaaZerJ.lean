/- ZerosJoin, walked. -/
import Derived.Test.YtaoafplijjpoaaaZerF
import Derived.Test.YtaoafplijjpoaaaCutB
set_option linter.unusedSimpArgs false
set_option linter.unusedVariables false
namespace Go.Proofs.Ytaoafplijjpoaaa
open Go.RowKit Pl
attribute [local go_sem ↓] sliceI_eq
set_option maxHeartbeats 8000000 in
set_option maxRecDepth 100000 in
theorem zerosJoin_walk (a : Option Addr) (len cap : Nat) (z : List Int) (a' : Option Addr) (len' cap' : Nat) (z' : List Int) (x : Int) (w : World) (hr : IsRow .u8 w a len cap z) (hr' : IsRow .u8 w a' len' cap' z') (wx : (Lit.int .u8 x).wf = true) :
    Calls Try.prog 5 #[.slice a len cap, .slice a' len' cap', .int .u8 x] w fun e w' => e = .returned (.bool true) ∧ Below w.heap.size w w' := by
  obtain ⟨hV, hlen⟩ := isBytes_row hr
  obtain ⟨hV', hlen'⟩ := isBytes_row hr'
  obtain ⟨hx0, hx1⟩ := u8_wf wx
  have HV := Lib.hid hV
  have HW := Lib.hid hV'
  clear hr hr' hV hV' wx
  go_enter Try.func5, Try.ntmps5
  go_wp2_with fail
  refine (begun_any _).mono ?_
  rintro e w1 ⟨rfl, hb1⟩
  have HV1 := Lib.hid (HV.out.below hb1)
  have HW1 := Lib.hid (HW.out.below hb1)
  have HB1 := Lib.hid hb1
  clear hb1 HV HW
  go_wp2_with fail
  refine (short_any _ _ 100 _ HV1.out (by omega)).mono ?_
  rintro e w2 ⟨v2, rfl, hi2, rfl⟩
  obtain ⟨S, hS⟩ : ∃ S, S = (bytesZ z len).take 100 := ⟨_, rfl⟩
  have hSl : S.length ≤ 100 := by rw [hS, List.length_take]; omega
  rw [← hS] at hi2
  obtain ⟨a2, c2, rfl, hc2, hm2⟩ := hi2.slice
  have HS := Lib.hid hi2
  clear hi2 hS HV1 hlen
  go_wp2_with fail
  refine (short_any _ _ 100 _ HW1.out (by omega)).mono ?_
  rintro e w2 ⟨v3, rfl, hi3, rfl⟩
  obtain ⟨T, hT⟩ : ∃ T, T = (bytesZ z' len').take 100 := ⟨_, rfl⟩
  have hTl : T.length ≤ 100 := by rw [hT, List.length_take]; omega
  rw [← hT] at hi3
  obtain ⟨a3, c3, rfl, hc3, hm3⟩ := hi3.slice
  have HT := Lib.hid hi3
  clear hi3 hT HW1 hlen'
  by_cases hx : x = 0
  · subst hx
    go_wp2_with fail
    go_ret
    exact ⟨rfl, HB1.out⟩
  have hxb : (x == 0) = false := beq_f hx
  obtain ⟨X, rfl⟩ : ∃ X : Nat, x = X := ⟨x.toNat, by omega⟩
  have hX0 : X ≠ 0 := by omega
  have HX0 := Lib.hid hX0
  clear hX0
  go_wp2_with (first
    | (at_builtin; refine wpList_append_bytes rfl _ (.tmp 22) rfl w1.heap.size (.slice none 0 0) 0 [] rfl (own_nil _ _) _ S rfl HS.out (by omega) (Nat.le_refl _) ?_; intro v4 w4 hown hgr; rw [Nat.zero_add, List.nil_append] at hown; have HO4 := Lib.hid hown; have HB4 : Hid (Below w1.heap.size w1 w4) := Lib.hid ⟨hgr.os, hgr.tape, hgr.output, hgr.size, fun k hk => hgr.block k hk (by simp [Value.ownBlock])⟩; have hsz4 := HB4.out.size; obtain ⟨sp4, cp4, rfl, _, _⟩ := ownsRow_slice hown; clear hown hgr)
    | (at_builtin; refine wpList_append_byte_at rfl (.tmp 23) (.tmp 25) rfl w1.heap.size _ S.length _ X rfl HO4.out _ rfl rfl (by omega) hsz4 ?_; intro v5 w5 hown hgr; rw [← u8s_snoc] at hown; have HO5 := Lib.hid hown; have HB5 := Lib.hid (bel_append HB4.out _ HO4.out hgr hsz4); have hsz5 := HB5.out.size; obtain ⟨sp5, cp5, rfl, _, _⟩ := ownsRow_slice hown; clear hown hgr)
    | (at_builtin; refine wpList_append_bytes rfl (.tmp 26) (.tmp 27) rfl w1.heap.size _ (S.length + 1) _ rfl HO5.out _ T rfl (HT.out.below HB5.out) (by omega) hsz5 ?_; intro v6 w6 hown hgr; rw [← u8s_append] at hown; have HO6 := Lib.hid hown; have HB6 := Lib.hid (HB5.out.grown hgr hsz5 (own_lt HO5.out)); obtain ⟨sp6, cp6, rfl, _, _⟩ := ownsRow_slice hown; clear hown hgr))
  have hlC : (S ++ [X] ++ T).length = S.length + 1 + T.length := by simp; omega
  have hCx : ∀ y ∈ S ++ [X] ++ T, y < 256 := fun y hy => by
    simp only [List.mem_append, List.mem_singleton] at hy
    rcases hy with (h | h) | h
    · exact HS.out.1 y h
    · omega
    · exact HT.out.1 y h
  have hC : IsBytes w6 (.slice sp6 (S.length + 1 + T.length) cp6) (S ++ [X] ++ T) := isBytes_ownS (base := w1.heap.size) hCx hlC.symm (by rw [hlC]; exact HO6.out)
  have HC6 := Lib.hid hC
  have HS6 := Lib.hid (HS.out.below HB6.out)
  have HT6 := Lib.hid (HT.out.below HB6.out)
  have HW6 := Lib.hid (HB1.out.trans (HB6.out.mono HB1.out.size))
  have HCl := Lib.hid hlC
  have hJ := enc_join S T X HX0.out 0
  have hL1 := enc_length S 0
  have hL2 := enc_length T 0
  have hP := enc_pos S 0
  have hC2 : enc (S ++ [X] ++ T) 0 = (enc S 0).dropLast ++ ((X : Int) + 1) :: enc T 0 := by rw [List.append_assoc]; exact hJ
  obtain ⟨L1, e1⟩ : ∃ L1, enc S 0 = L1 := ⟨_, rfl⟩
  obtain ⟨L2, e2⟩ : ∃ L2, enc T 0 = L2 := ⟨_, rfl⟩
  rw [e1] at hL1 hP hC2
  rw [e2] at hL2 hC2
  have HE1 := Lib.hid e1
  have HE2 := Lib.hid e2
  have HE3 := Lib.hid hC2
  clear hlC hCx hC HO4 HO5 HO6 HS HT HB1 HB4 HB5 HB6 hJ e1 e2 hC2 hsz4 hsz5
  refine (encode_s HS6.out (by omega) HE1.out).mono ?_
  rintro e w7 ⟨sp7, cp7, rfl, hi7, hb7⟩
  have HI7 := Lib.hid hi7
  have HT7 := Lib.hid (HT6.out.below hb7)
  have HC7 := Lib.hid (HC6.out.below hb7)
  have HW7 := Lib.hid (HW6.out.trans (hb7.mono HW6.out.size))
  clear hi7 hb7 HS6 HT6 HC6 HW6
  go_wp2_with fail
  refine (encode_s HT7.out (by omega) HE2.out).mono ?_
  rintro e w8 ⟨sp8, cp8, rfl, hi8, hb8⟩
  have HI8 := Lib.hid hi8
  have HI78 := Lib.hid (HI7.out.below hb8)
  have HC8 := Lib.hid (HC7.out.below hb8)
  have HW8 := Lib.hid (HW7.out.trans (hb8.mono HW7.out.size))
  clear hi8 hb8 HI7 HT7 HC7 HW7
  go_wp2_with fail
  refine (encode_s HC8.out (by rw [HCl.out]; omega) HE3.out).mono ?_
  rintro e w9 ⟨sp9, cp9, rfl, hi9, hb9⟩
  have HN := Lib.hid hi9
  have HI := Lib.hid (HI78.out.below hb9)
  have HK := Lib.hid (HI8.out.below hb9)
  have HW := Lib.hid (HW8.out.trans (hb9.mono HW8.out.size))
  clear hi9 hb9 HI8 HI78 HC8 HW8
  have hz : ((L1.length : Int) == 0) = false := beq_f (by omega)
  obtain ⟨a10, c10, hsl, hI10⟩ := run_uptoI HI.out rfl (L1.length - 1) ((L1.length : Int) - 1) (by omega) (by omega)
  rw [← List.dropLast_eq_take] at hI10
  obtain ⟨D, hD⟩ : ∃ D, L1.dropLast = D := ⟨_, rfl⟩
  have hDl : L1.length - 1 = D.length := by rw [← hD]; simp
  have hDm : D.length ≤ 200 := by omega
  have HE4 : Hid ((L1.dropLast ++ ((X : Int) + 1) :: L2) = D ++ [(X : Int) + 1] ++ L2) := Lib.hid (by rw [hD]; simp)
  rw [hD, hDl] at hI10
  rw [hDl] at hsl
  have H10 := Lib.hid hI10
  have hXi : ((X : Int) + 1) = (X : Int) + 1 := rfl
  obtain ⟨NL, hNL⟩ : ∃ NL, NL = L1.dropLast ++ ((X : Int) + 1) :: L2 := ⟨_, rfl⟩
  rw [← hNL] at HN HE4 ⊢
  have HNl := Lib.hid (show NL.length = D.length + 1 + L2.length by rw [HE4.out]; simp; omega)
  clear hI10 hD hDl hNL HE1 HE2 HE3
  go_wp2_with (first
    | (at_builtin; refine wpList_append_ints rfl _ (.tmp 42) rfl w9.heap.size (.slice none 0 0) 0 [] rfl (own_nilI _ _) _ D rfl H10.out (by omega) (Nat.le_refl _) ?_; intro v4 w4 hown hgr; rw [Nat.zero_add, List.nil_append] at hown; have HO4 := Lib.hid hown; have HB4 : Hid (Below w9.heap.size w9 w4) := Lib.hid ⟨hgr.os, hgr.tape, hgr.output, hgr.size, fun k hk => hgr.block k hk (by simp [Value.ownBlock])⟩; have hsz4 := HB4.out.size; obtain ⟨sp4, cp4, rfl, _, _⟩ := ownsRow_slice hown; clear hown hgr)
    | (at_builtin; refine wpList_append_int rfl (.tmp 43) (.tmp 47) rfl w9.heap.size _ D.length _ ((X : Int) + 1) rfl HO4.out _ rfl rfl (by omega) hsz4 ?_; intro v5 w5 hown hgr; have HO5 := Lib.hid hown; have HB5 := Lib.hid (bel_append HB4.out _ HO4.out hgr hsz4); have hsz5 := HB5.out.size; obtain ⟨sp5, cp5, rfl, _, _⟩ := ownsRow_slice hown; clear hown hgr)
    | (at_builtin; refine wpList_append_ints rfl (.tmp 48) (.tmp 49) rfl w9.heap.size _ (D.length + 1) _ rfl HO5.out _ L2 rfl (HK.out.below HB5.out) (by omega) hsz5 ?_; intro v6 w6 hown hgr; have HO6 := Lib.hid hown; have HB6 := Lib.hid (HB5.out.grown hgr hsz5 (own_lt HO5.out)); obtain ⟨sp6, cp6, rfl, _, _⟩ := ownsRow_slice hown; clear hown hgr))
  have hI6 : IsInts w6 (.slice sp6 (D.length + 1 + L2.length) cp6) NL := by
    rw [HE4.out]
    exact isInts_own (base := w9.heap.size) (by simp; omega) HO6.out
  refine (ints_same _ _ NL w6 (HN.out.below HB6.out) hI6 (by rw [HNl.out]; omega)).mono ?_
  rintro e w12 ⟨rfl, hb12⟩
  have HF := Lib.hid ((HW.out.trans (HB6.out.mono HW.out.size)).trans (hb12.mono (Nat.le_trans HW.out.size HB6.out.size)))
  clear hb12
  go_wp2_with fail
  go_ret
  exact ⟨rfl, HF.out⟩
end Go.Proofs.Ytaoafplijjpoaaa

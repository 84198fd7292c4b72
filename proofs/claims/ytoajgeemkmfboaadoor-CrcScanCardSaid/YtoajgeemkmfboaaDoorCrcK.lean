/- CrcThree, walked. -/
import Derived.Test.YtoajgeemkmfboaaDoorCrcH
import Derived.Deep.RegionLaw
set_option linter.unusedSimpArgs false
set_option linter.unusedVariables false
namespace Go.Proofs.YtoajgeemkmfboaaDoor
open Go.RowKit Pl

namespace Pl
/-- the first i of X, then noughts -/
def partly (X : List Nat) (i : Nat) : List Nat := X.take i ++ List.replicate (X.length - i) 0
theorem partly_zero (X : List Nat) : partly X 0 = List.replicate X.length 0 := by simp [partly]
theorem partly_all (X : List Nat) : partly X X.length = X := by simp [partly]
theorem partly_length (X : List Nat) (i : Nat) : (partly X i).length = X.length := by simp [partly]; omega
theorem partly_step (X : List Nat) (i : Nat) (h : i < X.length) : (partly X i).set i (X.getD i 0) = partly X (i + 1) := by
  unfold partly
  have e : X.length - i = (X.length - (i + 1)) + 1 := by omega
  rw [e, List.replicate_succ, List.take_add_one, List.getElem?_eq_getElem h]
  have hl : (X.take i).length = i := by rw [List.length_take]; omega
  rw [List.set_append_right _ _ (by omega), hl, Nat.sub_self, List.set_cons_zero, show X.getD i 0 = X[i] by simp [List.getD, h]]
  simp only [Option.toList_some, List.append_assoc, List.singleton_append]
theorem xor3_length (A B C : List Nat) (h1 : A.length = B.length) (h2 : B.length = C.length) : (xor3 A B C).length = A.length := by
  simp [xor3]; omega
theorem xor3_get (A B C : List Nat) (i : Nat) (ha : i < A.length) (hb : i < B.length) (hc : i < C.length) : (xor3 A B C).getD i 0 = A.getD i 0 ^^^ B.getD i 0 ^^^ C.getD i 0 := by
  have h1 : (B.zip C)[i]? = some (B[i], C[i]) := by rw [List.getElem?_zip_eq_some]; exact ⟨List.getElem?_eq_getElem hb, List.getElem?_eq_getElem hc⟩
  have h2 : (A.zip (B.zip C))[i]? = some (A[i], B[i], C[i]) := by rw [List.getElem?_zip_eq_some]; exact ⟨List.getElem?_eq_getElem ha, h1⟩
  unfold xor3
  rw [List.getD_eq_getElem?_getD, List.getElem?_map, h2]
  simp [List.getD, ha, hb, hc]
theorem xor3_lt {A B C : List Nat} (hA : ∀ x ∈ A, x < 256) (hB : ∀ x ∈ B, x < 256) (hC : ∀ x ∈ C, x < 256) : ∀ x ∈ xor3 A B C, x < 256 := by
  intro x hx
  simp only [xor3, List.mem_map] at hx
  obtain ⟨⟨p, q, r⟩, hm, rfl⟩ := hx
  have h1 := List.of_mem_zip hm
  have h2 := List.of_mem_zip h1.2
  exact Nat.xor_lt_two_pow (n := 8) (Nat.xor_lt_two_pow (n := 8) (hA _ h1.1) (hB _ h2.1)) (hC _ h2.2)
end Pl

attribute [local go_sem ↓] sliceU8_eq
set_option maxHeartbeats 4000000 in
theorem crcThree_walk (a : Option Addr) (la ca : Nat) (za : List Int) (b : Option Addr) (lb cb : Nat) (zb : List Int) (c : Option Addr) (lc cc : Nat) (zc : List Int) (w : World) (hT : Tab w) (hra : IsRow .u8 w a la ca za) (hrb : IsRow .u8 w b lb cb zb) (hrc : IsRow .u8 w c lc cc zc) :
    Calls Tryd.prog 8 #[.slice a la ca, .slice b lb cb, .slice c lc cc] w fun e w' => e = .returned (.bool true) ∧ Below w.heap.size w w' := by
  obtain ⟨hVa, hla⟩ := isBytes_row hra
  obtain ⟨hVb, hlb⟩ := isBytes_row hrb
  obtain ⟨hVc, hlc⟩ := isBytes_row hrc
  have HVa := Lib.hid hVa
  have HVb := Lib.hid hVb
  have HVc := Lib.hid hVc
  have HT := Lib.hid hT
  clear hVa hVb hVc hT hra hrb hrc
  obtain ⟨i0, hi, hz0, hz1, hz2⟩ := info_parts info5
  have Hi := Lib.hid hi
  have Hz0 := Lib.hid hz0
  have Hz1 := Lib.hid hz1
  have Hz2 := Lib.hid hz2
  clear hi hz0 hz1 hz2
  go_enter Tryd.func8, Tryd.ntmps8
  go_wp2_with fail
  refine (begun_any _ HT.out).mono ?_
  rintro e w1 ⟨rfl, hb1⟩
  have HVa1 := Lib.hid (HVa.out.below hb1)
  have HVb1 := Lib.hid (HVb.out.below hb1)
  have HVc1 := Lib.hid (HVc.out.below hb1)
  have HT1 := Lib.hid (HT.out.below hb1)
  have HB1 := Lib.hid hb1
  have hsz1 := hb1.size
  clear hb1 HVa HVb HVc HT
  go_wp2_with fail
  refine (short_any _ _ 100 _ HVa1.out (by omega)).mono ?_
  rintro e w2 ⟨v2, rfl, hi2, rfl⟩
  obtain ⟨A, hA⟩ : ∃ A, A = (bytesZ za la).take 100 := ⟨_, rfl⟩
  have hAl : A.length ≤ 100 := by rw [hA, List.length_take]; omega
  rw [← hA] at hi2
  obtain ⟨a2, c2, rfl, hc2, hm2⟩ := hi2.slice
  have HA := Lib.hid hi2
  clear hi2 hA HVa1
  go_wp2_with fail
  refine (short_any _ _ 100 _ HVb1.out (by omega)).mono ?_
  rintro e w2 ⟨v3, rfl, hi3, rfl⟩
  obtain ⟨B, hB⟩ : ∃ B, B = (bytesZ zb lb).take 100 := ⟨_, rfl⟩
  have hBl : B.length ≤ 100 := by rw [hB, List.length_take]; omega
  rw [← hB] at hi3
  obtain ⟨a3, c3, rfl, hc3, hm3⟩ := hi3.slice
  have HBy := Lib.hid hi3
  clear hi3 hB HVb1
  go_wp2_with fail
  refine (short_any _ _ 100 _ HVc1.out (by omega)).mono ?_
  rintro e w2 ⟨v4, rfl, hi4, rfl⟩
  obtain ⟨C, hC⟩ : ∃ C, C = (bytesZ zc lc).take 100 := ⟨_, rfl⟩
  have hCl : C.length ≤ 100 := by rw [hC, List.length_take]; omega
  rw [← hC] at hi4
  obtain ⟨a4, c4, rfl, hc4, hm4⟩ := hi4.slice
  have HC := Lib.hid hi4
  clear hi4 hC HVc1
  unfold maxLen at hm2 hm3 hm4
  obtain ⟨p, hp⟩ : ∃ p, p = min B.length C.length := ⟨_, rfl⟩
  obtain ⟨n, hn⟩ : ∃ n, n = min A.length p := ⟨_, rfl⟩
  have hm1 : (if C.length < B.length then (C.length : Int) else (B.length : Int)) = (p : Int) := by split <;> omega
  have hm1' : (if (C.length : Int) < (B.length : Int) then (C.length : Int) else (B.length : Int)) = (p : Int) := by split <;> omega
  have hm5 : (if p < A.length then (p : Int) else (A.length : Int)) = (n : Int) := by split <;> omega
  have hm5' : (if (p : Int) < (A.length : Int) then (p : Int) else (A.length : Int)) = (n : Int) := by split <;> omega
  have hnA : n ≤ A.length := by omega
  have hnB : n ≤ B.length := by omega
  have hnC : n ≤ C.length := by omega
  clear hp hn
  go_wp2_with (at_make; refine wpList_make_full _ rfl _ _ 22 rfl w1.heap.size 5 i0 (.int .u8 0) 1 Tryd.underlying22 Hi.out Hz0.out Hz1.out .i64 .i64 _ _ n rfl rfl rfl rfl (by rw [Hz2.out]; omega) (by unfold maxLen; omega) (Nat.le_refl _) ?_; intro w2 hown hgr)
  clear hm1 hm1' hm5 hm5'
  have hX : ∀ x ∈ xor3 (A.take n) (B.take n) (C.take n), x < 256 := xor3_lt (take_lt HA.out.1 n) (take_lt HBy.out.1 n) (take_lt HC.out.1 n)
  have hXl : (xor3 (A.take n) (B.take n) (C.take n)).length = n := by rw [xor3_length _ _ _ (by simp; omega) (by simp; omega)]; simp; omega
  have hXg : ∀ i, i < n → (xor3 (A.take n) (B.take n) (C.take n)).getD i 0 = A.getD i 0 ^^^ B.getD i 0 ^^^ C.getD i 0 := fun i hi => by
    rw [xor3_get _ _ _ i (by simp; omega) (by simp; omega) (by simp; omega)]
    simp [List.getD_eq_getElem?_getD, List.getElem?_take, hi]
  have hsum := csum_xor3 (A.take n) (B.take n) (C.take n) (by simp; omega) (by simp; omega)
  obtain ⟨X, hXe⟩ : ∃ X, X = xor3 (A.take n) (B.take n) (C.take n) := ⟨_, rfl⟩
  rw [← hXe] at hX hXl hsum
  simp only [← hXe] at hXg
  have HX := Lib.hid hX
  have HXL := Lib.hid hXl
  have HXG := Lib.hid hXg
  have HSUM := Lib.hid hsum
  have HO2 : Hid (w2.ownsRow w1.heap.size 5 1 (.slice (some ⟨w1.heap.size, 0, none⟩) n n) n (u8s (partly X 0))) := Lib.hid (by rw [partly_zero, hXl]; rw [made_list] at hown; simpa [u8s] using hown)
  have HB2 : Hid (Below w1.heap.size w1 w2) := Lib.hid ((Below.refl _ _).grown hgr (Nat.le_refl _) (by simp))
  clear hX hXl hXg hsum hXe hown hgr
  go_loopw [10] (fun x wr => ∃ i : Nat, i ≤ n ∧ x = .int .i64 i ∧ wr.ownsRow w1.heap.size 5 1 (.slice (some ⟨w1.heap.size, 0, none⟩) n n) n (u8s (partly X i)) ∧ Below w1.heap.size w1 wr) (fun x _ => n - (intOf x).toNat)
  case atStart => exact ⟨0, by omega, rfl, HO2.out, HB2.out⟩
  case round =>
    obtain ⟨i, hi, rfl, ho, hb⟩ := hrel
    have HO := Lib.hid ho
    have HB := Lib.hid hb
    have hsz := hb.size
    clear ho hb HO2 HB2
    by_cases hlt : i < n
    · obtain ⟨ba, oa, ca', hsa, _, _, _, hca⟩ := (HA.out.below HB.out).cells (by omega)
      obtain ⟨bb, ob, cb', hsb, _, _, _, hcb⟩ := (HBy.out.below HB.out).cells (by omega)
      obtain ⟨bc, oc, cc', hsc, _, _, _, hcc⟩ := (HC.out.below HB.out).cells (by omega)
      simp at hsa hsb hsc
      obtain ⟨rfl, rfl⟩ := hsa
      obtain ⟨rfl, rfl⟩ := hsb
      obtain ⟨rfl, rfl⟩ := hsc
      have c1 := hca i (by omega)
      have c5 := hcb i (by omega)
      have c6 := hcc i (by omega)
      have l1 := getD_lt HA.out.1 i
      have l2 := getD_lt HBy.out.1 i
      have l3 := getD_lt HC.out.1 i
      have HG := Lib.hid (HXG.out i hlt)
      have f0 := HO.out.frozenAt i
      generalize A.getD i 0 = xa at *
      generalize B.getD i 0 = xb at *
      generalize C.getD i 0 = xc at *
      have e1 : bits BinOp.xor IntKind.u8 (xa : Int) (xb : Int) = ((xa ^^^ xb : Nat) : Int) := u8_xor_nat _ _ l1 l2
      have e2 : bits BinOp.xor IntKind.u8 ((xa ^^^ xb : Nat) : Int) (xc : Int) = ((xa ^^^ xb ^^^ xc : Nat) : Int) := u8_xor_nat _ _ (Nat.xor_lt_two_pow (n := 8) l1 l2) l3
      have hst := HO.out.stored i (.int .u8 ((xa ^^^ xb ^^^ xc : Nat) : Int))
      rw [u8s_set, ← HG.out, partly_step X i (by rw [HXL.out]; exact hlt), HG.out] at hst
      have HST := Lib.hid hst
      have c0 := own_cell HO.out hlt
      clear hca hcb hcc hst
      go_wp2_with fail
      go_region
      go_wp2_with fail
      go_roundw
      case rel => exact ⟨i + 1, by omega, by go_num, HST.out.1, (HB.out.grown HST.out.2 hsz (by intro k hk; simp at hk; omega)).drew⟩
      case measure => simp [intOf]; omega
    · obtain rfl : i = n := by omega
      have hD : partly X i = X := by have := partly_all X; rw [HXL.out] at this; exact this
      have ho := HO.out
      rw [hD] at ho
      have HD : Hid (IsBytes wr (.slice (some ⟨w1.heap.size, 0, none⟩) i i) X) := Lib.hid (isBytes_ownS HX.out HXL.out.symm (by rw [HXL.out]; exact ho))
      have HTr := Lib.hid (HT1.out.below HB.out)
      obtain ⟨a5, c5, hs5, hI5⟩ := run_upto (HA.out.below HB.out) i hnA
      obtain ⟨a6, c6, hs6, hI6⟩ := run_upto (HBy.out.below HB.out) i hnB
      obtain ⟨a7, c7, hs7, hI7⟩ := run_upto (HC.out.below HB.out) i hnC
      have HI5 := Lib.hid hI5
      have HI6 := Lib.hid hI6
      have HI7 := Lib.hid hI7
      have l5 := csum_lt hI5.1
      have l6 := csum_lt hI6.1
      have l7 := csum_lt hI7.1
      have hsum := HSUM.out
      have q4 := fun n => sum_quiet _ _ _ n HTr.out HD.out
      have q5 := fun n => sum_quiet _ _ _ n HTr.out HI5.out
      have q6 := fun n => sum_quiet _ _ _ n HTr.out HI6.out
      have q7 := fun n => sum_quiet _ _ _ n HTr.out HI7.out
      generalize csum X = s4 at *
      generalize csum (A.take i) = s5 at *
      generalize csum (B.take i) = s6 at *
      generalize csum (C.take i) = s7 at *
      have e1 : bits BinOp.xor IntKind.u32 (s5 : Int) (s6 : Int) = ((s5 ^^^ s6 : Nat) : Int) := u32_xor_nat _ _ l5 l6
      have e2 : bits BinOp.xor IntKind.u32 ((s5 ^^^ s6 : Nat) : Int) (s7 : Int) = ((s5 ^^^ s6 ^^^ s7 : Nat) : Int) := u32_xor_nat _ _ (Nat.xor_lt_two_pow (n := 32) l5 l6) l7
      subst hsum
      have Q4 := Lib.hid q4
      have Q5 := Lib.hid q5
      have Q6 := Lib.hid q6
      have Q7 := Lib.hid q7
      clear q4 q5 q6 q7 hD ho hI5 hI6 hI7 hlt hi
      go_wp2_with fail
      go_quiet (first | (go_at_call_of 13 a5; refine Q5.out _) | (go_at_call_of 13 a6; refine Q6.out _) | (go_at_call_of 13 a7; refine Q7.out _) | (go_at_call 13; refine Q4.out _))
      go_wp2_with fail
      go_ret
      exact ⟨by simp, bel_drewN (HB1.out.trans (HB.out.mono hsz1)) nq⟩
end Go.Proofs.YtoajgeemkmfboaaDoor

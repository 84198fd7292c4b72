/- CrcRot, walked. -/
import Derived.Test.YtoajgeemkmfboaaDoorCrcO
namespace Go.Proofs.YtoajgeemkmfboaaDoor
open Go.RowKit Pl

set_option maxHeartbeats 4000000 in
theorem crcRot_walk (a : Option Addr) (len cap : Nat) (R : List (List Nat)) (at' x : Int) (w : World) (hT : Tab w) (hr : IsRows w (.slice a len cap) R) (hat : (Lit.int .i64 at').wf = true) (hx : (Lit.int .u8 x).wf = true) :
    Calls Tryd.prog 7 #[.slice a len cap, .int .i64 at', .int .u8 x] w fun e w' => e = .returned (.bool true) ∧ Below w.heap.size w w' := by
  obtain ⟨a0, cap0, hs, hcap, hmax⟩ := hr.slice
  simp at hs
  obtain ⟨rfl, rfl, rfl⟩ := hs
  unfold maxLen at hmax
  have hx2 := u8_wf hx
  obtain ⟨X, rfl⟩ := Int.eq_ofNat_of_zero_le hx2.1
  have hX : X < 256 := by omega
  have HR := Lib.hid hr
  have HT := Lib.hid hT
  have HL := Lib.hid hr.lt
  clear hr hT hat hx hx2
  go_enter Tryd.func7, Tryd.ntmps7
  go_wp2_with fail
  refine (begun_any _ HT.out).mono ?_
  rintro e w1 ⟨rfl, hb1⟩
  have HR1 := Lib.hid (HR.out.below hb1)
  have HT1 := Lib.hid (HT.out.below hb1)
  have HB1 := Lib.hid hb1
  have hsz1 := hb1.size
  clear hb1 HR HT
  go_wp2_with fail
  refine (laid_any _ R 6 _ HR1.out (by omega)).mono ?_
  intro e w2 h2
  obtain ⟨sp2, cp2, rfl, ho2, hb2⟩ := h2.s
  have hlen := plaid_len R 6
  have HPL := Lib.hid (pcat_lt (parts_lt HL.out 6))
  have HRO := Lib.hid fun (i y : Nat) h1 h2 h3 => pscan_rots (parts R 6) (parts_lt HL.out 6) (fun P hP => by have := parts_short P hP; omega) (i := i) (y := y) h1 h2 h3
  have HO2 := Lib.hid ho2
  have HB2 := Lib.hid hb2
  clear h2 ho2 hb2 HR1
  have hpl : (parts R 6).length ≤ R.length := by rw [parts_length]; omega
  generalize pcat (parts R 6) = D at *
  generalize (parts R 6).length = np at *
  by_cases hn0 : D.length = 0
  · have hd : ((D.length : Int) == 0) = true := beq_t (by omega)
    clear hn0
    go_wp2_with fail
    go_ret
    exact ⟨rfl, HB1.out.trans (HB2.out.mono hsz1)⟩
  · have hd : ((D.length : Int) == 0) = false := beq_f (by omega)
    by_cases hneg : at' < 0
    · go_wp2_with fail
      go_ret
      exact ⟨rfl, HB1.out.trans (HB2.out.mono hsz1)⟩
    · obtain ⟨A, rfl⟩ := Int.eq_ofNat_of_zero_le (show 0 ≤ at' by omega)
      have hneg' : decide ((A : Int) < 0) = false := by simp
      have HNG := Lib.hid hneg
      clear hneg
      by_cases hx0 : X = 0
      · have hd2 : ((X : Int) == 0) = true := beq_t (by omega)
        clear hx0
        go_wp2_with fail
        go_ret
        exact ⟨rfl, HB1.out.trans (HB2.out.mono hsz1)⟩
      · have hd2 : ((X : Int) == 0) = false := beq_f (by omega)
        obtain ⟨i, hi⟩ : ∃ i, i = A % D.length := ⟨_, rfl⟩
        have hil : i < D.length := by rw [hi]; exact Nat.mod_lt _ (by omega)
        have hrem : (A : Int).tmod (D.length : Int) = (i : Int) := by rw [hi]; exact (Int.ofNat_tmod A D.length).symm
        have hs := getD_lt HPL.out i
        have hy : D.getD i 0 ^^^ X < 256 := Nat.xor_lt_two_pow (n := 8) hs hX
        obtain ⟨h1, h2, h3⟩ := HRO.out i (D.getD i 0 ^^^ X) hil hy (xor_ne hx0)
        have HX8 : Hid (∀ y ∈ D.set i (D.getD i 0 ^^^ X), y < 256) := Lib.hid (set_lt HPL.out hy)
        have hxe : bits BinOp.xor IntKind.u8 ((D.getD i 0 : Nat) : Int) (X : Int) = ((D.getD i 0 ^^^ X : Nat) : Int) := u8_xor_nat _ X hs hX
        obtain ⟨g, cp3, hge, hg, hgl, hnc, hcm⟩ := own_open HO2.out (by omega)
        simp at hge
        obtain ⟨rfl, rfl⟩ := hge
        have c0 := own_cell HO2.out hil
        have f0 := HO2.out.frozenAt i
        have hst := HO2.out.stored i (.int .u8 ((D.getD i 0 ^^^ X : Nat) : Int))
        rw [u8s_set] at hst
        have HB4 := Lib.hid (HB2.out.grown hst.2 HB2.out.size (by intro k hk; simp at hk; omega))
        have HI4 : Hid (IsBytes (w2.setCell ⟨g, i, none⟩ (.int .u8 ((D.getD i 0 ^^^ X : Nat) : Int))) (.slice (some ⟨g, 0, none⟩) D.length cp2) (D.set i (D.getD i 0 ^^^ X))) := Lib.hid (isBytes_ownS HX8.out (by simp) (by simpa using hst.1))
        have hsc := scan_any _ _ _ (HT1.out.below HB4.out) ((List.length_set ..).symm ▸ HI4.out : IsBytes _ (.slice (some ⟨g, 0, none⟩) (D.set i (D.getD i 0 ^^^ X)).length cp2) _) (by rw [List.length_set]; omega)
        rw [List.length_set] at hsc
        unfold ScanPost at hsc
        obtain ⟨F, q, o, hP⟩ : ∃ F q o, pscan (D.set i (D.getD i 0 ^^^ X)) = (F, q, o) := ⟨_, _, _, rfl⟩
        rw [hP] at hsc h1 h2 h3
        simp only at h1 h2 h3
        subst h3
        have HSC := Lib.hid hsc
        generalize D.getD i 0 = s at *
        have hF : F.length < R.length := by omega
        clear hst hsc hi hP hx0 hn0 h1
        go_wp2_with fail
        refine HSC.out.mono ?_
        rintro e w6 ⟨v6, rfl, hr6, hb6⟩
        obtain ⟨a6, c6, rfl, _, _⟩ := hr6.slice
        have HB6 := Lib.hid (HB1.out.trans ((HB4.out.trans (hb6.mono HB4.out.size)).mono hsz1))
        clear hr6 hb6
        go_wp2_with fail
        go_ret
        exact ⟨rfl, HB6.out⟩
end Go.Proofs.YtoajgeemkmfboaaDoor

/- CrcSum, walked. -/
import Derived.Test.YtoajgeemkmfboaaDoorCrcG
import Derived.Test.YtoajgeemkmfboaaDoorCutB
set_option linter.unusedSimpArgs false
set_option linter.unusedVariables false
namespace Go.Proofs.YtoajgeemkmfboaaDoor
open Go.RowKit Pl

namespace Pl
theorem set_cut {S : List Nat} {i : Nat} (h : i < S.length) (y : Nat) : S.set i y = S.take i ++ ([y] ++ S.drop (i + 1)) := by
  rw [List.set_eq_take_append_cons_drop, if_pos h]; rfl
theorem self_cut {S : List Nat} {i : Nat} (h : i < S.length) : S = S.take i ++ ([S.getD i 0] ++ S.drop (i + 1)) := by
  have : S = S.set i (S.getD i 0) := by
    apply List.ext_getElem?
    intro k
    rw [List.getElem?_set]
    by_cases e : i = k
    · subst e
      simp [h, List.getD]
    · simp [e]
  exact this.trans (set_cut h _)
theorem csum_set {S : List Nat} (hS : ∀ x ∈ S, x < 256) {i : Nat} (h : i < S.length) {y : Nat} (hy : y < 256) (hne : y ≠ S.getD i 0) : csum (S.set i y) ≠ csum S := by
  intro e
  rw [set_cut h y] at e
  have e2 := self_cut h
  rw [e2] at e
  have e3 : S.take i ++ ([S.getD i 0] ++ S.drop (i + 1)) = S := e2.symm
  have := csum_burst (M := [y]) (M' := [S.getD i 0]) (fun x hx => hS x (List.mem_of_mem_take hx)) (by simpa using hy) (by simpa using getD_lt hS i) (fun x hx => hS x (List.mem_of_mem_drop hx)) rfl (by simp) (L := S.take i) (R := S.drop (i + 1)) (by rw [e3] at e; rw [e3]; exact e)
  simp at this
  exact hne this
theorem xor_ne {a x : Nat} (hx : x ≠ 0) : a ^^^ x ≠ a := by
  intro h
  have : a ^^^ x = a ^^^ 0 := by rw [h, Nat.xor_zero]
  exact hx (xor_cancel_left this)
end Pl

set_option maxHeartbeats 2000000 in
theorem crcSum_walk (a : Option Addr) (len cap : Nat) (z : List Int) (at' x : Int) (w : World) (hT : Tab w) (hr : IsRow .u8 w a len cap z) (hat : (Lit.int .i64 at').wf = true) (hx : (Lit.int .u8 x).wf = true) :
    Calls Tryd.prog 3 #[.slice a len cap, .int .i64 at', .int .u8 x] w fun e w' => e = .returned (.bool true) ∧ Below w.heap.size w w' := by
  obtain ⟨hV, hlen⟩ := isBytes_row hr
  have hx2 := u8_wf hx
  obtain ⟨X, rfl⟩ := Int.eq_ofNat_of_zero_le hx2.1
  have hX : X < 256 := by omega
  have HV := Lib.hid hV
  have HT := Lib.hid hT
  clear hV hT hr hx hx2
  go_enter Tryd.func3, Tryd.ntmps3
  go_wp2_with fail
  refine (begun_any _ HT.out).mono ?_
  rintro e w1 ⟨rfl, hb1⟩
  have HV1 := Lib.hid (HV.out.below hb1)
  have HT1 := Lib.hid (HT.out.below hb1)
  have HB1 := Lib.hid hb1
  clear hb1 HV HT
  go_wp2_with fail
  refine (short_any _ _ 300 _ HV1.out (by omega)).mono ?_
  rintro e w2 ⟨v2, rfl, hi2, rfl⟩
  obtain ⟨S, hS⟩ : ∃ S, S = (bytesZ z len).take 300 := ⟨_, rfl⟩
  have hSl : S.length ≤ 300 := by rw [hS, List.length_take]; omega
  rw [← hS] at hi2
  obtain ⟨a2, c2, rfl, hc2, hm2⟩ := hi2.slice
  unfold maxLen at hm2
  have HI := Lib.hid hi2
  clear hi2 hS HV1
  go_wp2_with fail
  refine (sum_any _ _ _ HT1.out HI.out).mono ?_
  rintro e w3 ⟨rfl, rfl⟩
  go_wp2_with fail
  refine (refSum_any _ _ _ HI.out).mono ?_
  rintro e w3 ⟨rfl, rfl⟩
  by_cases hs0 : S.length = 0
  · have hd : ((S.length : Int) == 0) = true := beq_t (by omega)
    clear hs0
    go_wp2_with fail
    go_ret
    exact ⟨rfl, HB1.out⟩
  · have hd : ((S.length : Int) == 0) = false := beq_f (by omega)
    by_cases hx0 : X = 0
    · have hd2 : ((X : Int) == 0) = true := beq_t (by omega)
      clear hs0 hx0
      go_wp2_with fail
      go_ret
      exact ⟨rfl, HB1.out⟩
    · have hd2 : ((X : Int) == 0) = false := beq_f (by omega)
      by_cases hneg : at' < 0
      · clear hs0 hx0
        go_wp2_with fail
        go_ret
        exact ⟨rfl, HB1.out⟩
      · obtain ⟨A, rfl⟩ := Int.eq_ofNat_of_zero_le (show 0 ≤ at' by omega)
        obtain ⟨i, hi⟩ : ∃ i, i = A % S.length := ⟨_, rfl⟩
        have hil : i < S.length := by rw [hi]; exact Nat.mod_lt _ (by omega)
        have hrem : (A : Int).tmod (S.length : Int) = (i : Int) := by rw [hi]; exact (Int.ofNat_tmod A S.length).symm
        have hs := getD_lt HI.out.1 i
        have hc := csum_set (y := S.getD i 0 ^^^ X) HI.out.1 hil (Nat.xor_lt_two_pow (n := 8) hs hX) (xor_ne hx0)
        have hfin : (((csum (S.set i (S.getD i 0 ^^^ X)) : Nat) : Int) != ((csum S : Nat) : Int)) = true := bne_t (by omega)
        have HX8 : Hid (∀ y ∈ S.set i (S.getD i 0 ^^^ X), y < 256) := Lib.hid fun y hy => by
          rcases List.mem_or_eq_of_mem_set hy with h | h
          · exact HI.out.1 y h
          · rw [h]; exact Nat.xor_lt_two_pow (n := 8) hs hX
        obtain ⟨s, hse⟩ : ∃ s, s = S.getD i 0 := ⟨_, rfl⟩
        rw [← hse] at hfin HX8
        have HSE := Lib.hid hse
        have hxe : bits BinOp.xor IntKind.u8 (s : Int) (X : Int) = ((s ^^^ X : Nat) : Int) := u8_xor_nat s X (by rw [hse]; exact hs) hX
        have hsz1 := HB1.out.size
        have HH := Lib.hid hneg
        clear hc hs hi hse hneg hx0 hs0
        go_wp2_with (at_builtin; refine wpList_append_bytes rfl _ (.tmp 30) rfl w1.heap.size (.slice none 0 0) 0 [] rfl (own_nil _ _) _ S rfl HI.out (by omega) (Nat.le_refl _) ?_; intro v3 w3 hown hgr; have HO3 : Hid (w3.ownsRow w1.heap.size 5 1 v3 S.length (u8s S)) := Lib.hid (by rw [Nat.zero_add] at hown; exact hown); have HB3 : Hid (Below w1.heap.size w1 w3) := Lib.hid ⟨hgr.os, hgr.tape, hgr.output, hgr.size, fun k hk => hgr.block k hk (by simp [Value.ownBlock])⟩; rw [Nat.zero_add] at hown; obtain ⟨g, cp3, rfl, hg, hgl, hnc, hcm⟩ := own_open hown (by omega); clear hown hgr; have c0 := own_cell HO3.out hil; have f0 := HO3.out.frozenAt i; rw [← HSE.out] at c0)
        have hst := HO3.out.stored i (.int .u8 ((s ^^^ X : Nat) : Int))
        rw [u8s_set] at hst
        have HB4 := Lib.hid (HB3.out.grown hst.2 HB3.out.size (by intro k hk; simp at hk; omega))
        have HI4 : Hid (IsBytes (w3.setCell ⟨g, i, none⟩ (.int .u8 ((s ^^^ X : Nat) : Int))) (.slice (some ⟨g, 0, none⟩) S.length cp3) (S.set i (s ^^^ X))) := Lib.hid (isBytes_ownS HX8.out (by simp) (by simpa using hst.1))
        refine (sum_any _ _ _ (HT1.out.below HB4.out) HI4.out).mono ?_
        rintro e w5 ⟨rfl, rfl⟩
        go_wp2_with fail
        refine (sum_any _ _ _ (HT1.out.below HB4.out) (HI.out.below HB4.out)).mono ?_
        rintro e w5 ⟨rfl, rfl⟩
        go_wp2_with fail
        go_ret
        exact ⟨rfl, HB1.out.trans (HB4.out.mono hsz1)⟩
end Go.Proofs.YtoajgeemkmfboaaDoor

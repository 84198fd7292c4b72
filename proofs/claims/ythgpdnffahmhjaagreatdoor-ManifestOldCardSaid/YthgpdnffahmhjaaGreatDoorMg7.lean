/- Texts put together: CrcA, Four, RefFour. -/
import Derived.Test.YthgpdnffahmhjaaGreatDoorMg2
import Derived.Test.YthgpdnffahmhjaaGreatDoorMg6
set_option linter.unusedSimpArgs false
set_option linter.unusedVariables false
set_option maxRecDepth 100000
namespace Go.Proofs.YthgpdnffahmhjaaGreatDoor.Pl
end Go.Proofs.YthgpdnffahmhjaaGreatDoor.Pl
namespace Go.Proofs.YthgpdnffahmhjaaGreatDoor.S3.Pl
end Go.Proofs.YthgpdnffahmhjaaGreatDoor.S3.Pl
namespace Go.Proofs.YthgpdnffahmhjaaGreatDoor.S3
open Go.RowKit _root_.Go.Proofs.YthgpdnffahmhjaaGreatDoor.Pl _root_.Go.Proofs.YthgpdnffahmhjaaGreatDoor.S3.Pl

namespace Pl
theorem xor_low (n x y : Nat) (hx : x < 2 ^ n) : (y * 2 ^ n) ^^^ x = y * 2 ^ n + x := by
  have h := Nat.two_pow_add_eq_or_of_lt (i := n) (b := x) hx y
  rw [Nat.mul_comm] at h
  rw [h]
  apply Nat.eq_of_testBit_eq
  intro i
  rw [Nat.testBit_xor, Nat.testBit_or]
  by_cases hi : i < n
  · have : (y * 2 ^ n).testBit i = false := by
      rw [Nat.mul_comm, Nat.testBit_two_pow_mul]; simp; intro h8; omega
    simp [this]
  · have : x.testBit i = false := Nat.testBit_lt_two_pow (Nat.lt_of_lt_of_le hx (Nat.pow_le_pow_right (by omega) (by omega)))
    simp [this]
def ctab : List Nat := [0, 498536548, 997073096, 651767980, 1994146192, 1802195444, 1303535960, 1342533948, 3988292384, 4027552580, 3604390888, 3412177804, 2607071920, 2262029012, 2685067896, 3183342108]
theorem ctab_lt (i : Nat) : ctab.getD i 0 < 4294967296 := by
  by_cases h : i < 16
  · have : ∀ k : Fin 16, ctab.getD k.val 0 < 4294967296 := by decide
    exact this ⟨i, h⟩
  · rw [List.getD_eq_getElem?_getD, List.getElem?_eq_none (by simp [ctab]; omega)]; simp
theorem ctab_bits (i : Nat) (h : i < 16) : cbits 4 i = ctab.getD i 0 := by
  have : ∀ k : Fin 16, cbits 4 k.val = ctab.getD k.val 0 := by decide
  exact this ⟨i, h⟩
theorem nib (c : Nat) : cbits 4 c = c / 16 ^^^ ctab.getD (c % 16) 0 := by
  have h := cbits_xor 4 (c / 16 * 2 ^ 4) (c % 16)
  rw [cbits_shift, xor_low 4 _ _ (by omega), ctab_bits (c % 16) (by omega)] at h
  have e : c / 16 * 2 ^ 4 + c % 16 = c := by omega
  rw [e] at h
  exact h
theorem cbits_nib (c : Nat) : cbits 4 (cbits 4 c) = cbits 8 c := (cbits_add 4 4 c).symm
end Pl

def tabAt (i : Nat) : Nat := ctab.getD i 0
def Tab (w : World) : Prop := 0 < w.heap.size ∧ ∀ i, i < 16 → w.cell? ⟨0, i, none⟩ = some (.int .u32 (tabAt i : Nat))
theorem Tab.below {w w' : World} (h : Tab w) (hb : Below w.heap.size w w') : Tab w' :=
  ⟨Nat.lt_of_lt_of_le h.1 hb.size, fun i hi => (hb.cell (p := ⟨0, i, none⟩) h.1).trans (h.2 i hi)⟩
theorem nib_int (s : Nat) (h : s < 4294967296) : bits BinOp.xor IntKind.u32 ((s : Int) / 16) (tabAt (s % 16) : Nat) = ((cbits 4 s : Nat) : Int) := by
  rw [nib]
  exact u32_xor_nat (s / 16) _ (by omega) (ctab_lt _)

theorem and15 (c : Nat) (h : c < 4294967296) : bits BinOp.and IntKind.u32 (c : Int) 15 = ((c % 16 : Nat) : Int) := by
  show bits BinOp.and IntKind.u32 (c : Int) ((15 : Nat) : Int) = _
  rw [u32_and_nat _ _ h (by omega)]
  congr 1
  exact Nat.and_two_pow_sub_one_eq_mod c 4
theorem reg_lt {B : List Nat} (hB : ∀ x ∈ B, x < 256) (i : Nat) : cregs 4294967295 (B.take i) < 4294967296 := cregs_lt (c := 4294967295) (by decide) (fun x hx => hB x (List.mem_of_mem_take hx))
theorem reg_step (B : List Nat) (i : Nat) (hi : i < B.length) : cregs 4294967295 (B.take (i + 1)) = cbyte (cregs 4294967295 (B.take i)) (B.getD i 0) := by
  rw [List.take_add_one, List.getElem?_eq_getElem hi, Option.toList_some, cregs_snoc]
  simp [List.getD, hi]

set_option maxHeartbeats 1000000 in
theorem sum_any (v : Value) (B : List Nat) (w : World) (hT : Tab w) (hv : IsBytes w v B) : Calls Tryz.prog 79 #[v] w fun e w' => e = .returned (.int .u32 (csum B : Nat)) ∧ w = w' := by
  have HT := Lib.hid hT
  have HV := Lib.hid hv
  obtain ⟨a, cap, rfl, hcap, hmax⟩ := hv.slice
  unfold maxLen at hmax
  clear hv hT
  go_enter Tryz.func79, Tryz.ntmps79
  go_wp2
  go_loop [3, 8] (fun v x => ∃ i : Nat, i ≤ B.length ∧ x = .int .i64 i ∧ v = .int .u32 (cregs 4294967295 (B.take i) : Nat)) (fun _ x => B.length - (intOf x).toNat)
  case atStart => exact ⟨0, by omega, rfl, rfl⟩
  case round =>
    obtain ⟨i, hi, rfl, rfl⟩ := hrel
    by_cases hlt : i < B.length
    · obtain ⟨b, off, cap', hs, _, _, _, hc⟩ := HV.out.cells (by omega)
      simp at hs
      obtain ⟨rfl, rfl⟩ := hs
      have c0 := hc i hlt
      have hreg := reg_lt HV.out.1 i
      have hst := reg_step B i hlt
      have hx := getD_lt HV.out.1 i
      generalize B.getD i 0 = x at *
      generalize cregs 4294967295 (B.take i) = m at *
      have e1 : bits BinOp.xor IntKind.u32 (m : Int) (x : Int) = ((m ^^^ x : Nat) : Int) := u32_xor_nat _ _ hreg (by omega)
      have h1 : m ^^^ x < 4294967296 := Nat.xor_lt_two_pow (n := 32) hreg (by omega)
      have HS := Lib.hid hst
      clear hc hst
      have e2 := and15 _ h1
      have c1 := HT.out.2 ((m ^^^ x) % 16) (by omega)
      have e3 := nib_int _ h1
      have h2 : cbits 4 (m ^^^ x) < 4294967296 := cbits_lt 4 h1
      have e4 := and15 _ h2
      have e5 := nib_int _ h2
      have c2 := HT.out.2 (cbits 4 (m ^^^ x) % 16) (by omega)
      unfold cbyte at HS
      rw [cbits_nib] at e5
      generalize cbits 4 (m ^^^ x) = s2 at *
      generalize m ^^^ x = s at *
      go_wp2
      go_round
      case rel => exact ⟨i + 1, by omega, by go_num, by rw [HS.out]⟩
      case measure => simp [intOf]; omega
    · obtain rfl : i = B.length := by omega
      have hreg := reg_lt HV.out.1 B.length
      rw [List.take_length] at hreg ⊢
      go_wp2
      go_ret
      exact ⟨ret_int (u32_xor_nat (cregs 4294967295 B) 4294967295 hreg (by decide)), rfl⟩

end Go.Proofs.YthgpdnffahmhjaaGreatDoor.S3
namespace Go.Proofs.YthgpdnffahmhjaaGreatDoor
open Go.RowKit Pl
theorem four_any (n : Int) (w : World) (hn : 0 ≤ n) : Calls Tryz.prog 78 #[.int .u32 n] w (MadePost (four n.toNat) w) := by
  go_enter Tryz.func78, Tryz.ntmps78
  go_wp2
  go_ret
  exact made_four (by omega) (by omega) (by omega) (by omega)
def FourPost (B : List Nat) (w : World) (e : Ending) (w' : World) : Prop := e = .returned (.int .u32 (getFour B : Nat)) ∧ ∃ k, w.drewN k = w'
theorem getFour_few (v : Value) (B : List Nat) (w : World) (hv : IsBytes w v B) (h : B.length < 4) : Calls Tryz.prog 114 #[v] w (FourPost B w) := by
  obtain ⟨a, cap, rfl, hcap, hmax⟩ := hv.slice
  have e : getFour B = 0 := if_pos h
  have E := Lib.hid e
  clear e hv
  go_enter Tryz.func114, Tryz.ntmps114
  go_wp2
  go_ret
  exact ⟨by rw [E.out]; rfl, 0, rfl⟩
set_option maxHeartbeats 400000 in
theorem getFour_any (v : Value) (B : List Nat) (w : World) (hv : IsBytes w v B) : Calls Tryz.prog 114 #[v] w (FourPost B w) := by
  by_cases h : B.length < 4
  · exact getFour_few v B w hv h
  · obtain ⟨b, off, cap, rfl, h1, h2, _, hc⟩ := hv.cells (by omega)
    have c0 : w.cell? ⟨b, off, none⟩ = some (.int .u8 (B.getD 0 0 : Nat)) := hc 0 (by omega)
    have c1 := hc 1 (by omega)
    have c2 := hc 2 (by omega)
    have c3 := hc 3 (by omega)
    have l0 := getD_lt hv.1 0
    have l1 := getD_lt hv.1 1
    have l2 := getD_lt hv.1 2
    have l3 := getD_lt hv.1 3
    have e : getFour B = B.getD 0 0 + 256 * B.getD 1 0 + 65536 * B.getD 2 0 + 16777216 * B.getD 3 0 := if_neg h
    unfold FourPost
    rw [e]
    generalize B.getD 0 0 = x0 at *
    generalize B.getD 1 0 = x1 at *
    generalize B.getD 2 0 = x2 at *
    generalize B.getD 3 0 = x3 at *
    have hl0 : (0 : Int) < B.length := by omega
    have hl1 : (1 : Int) < B.length := by omega
    have hl2 : (2 : Int) < B.length := by omega
    have hl3 : (3 : Int) < B.length := by omega
    have hn0 : 0 < B.length := by omega
    have hn1 : 1 < B.length := by omega
    have hn2 : 2 < B.length := by omega
    have hn3 : 3 < B.length := by omega
    clear hv hc e
    go_enter Tryz.func114, Tryz.ntmps114
    go_wp2
    go_quiet (fail)
    go_wp2
    go_ret
    exact ⟨ret_int (or_four _ _ _ _ l0 l1 l2 l3), _, rfl⟩
end Go.Proofs.YthgpdnffahmhjaaGreatDoor
namespace Go.Proofs.YthgpdnffahmhjaaGreatDoor
open Go.RowKit Pl
end Go.Proofs.YthgpdnffahmhjaaGreatDoor

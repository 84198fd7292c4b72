/- Texts put together: Four, RefFour, CrcP, CrcA, CrcB, CrcC. -/
import Derived.Test.YtdjkkohckfndkaaGreatDoorEg2
import Derived.OwnWalk
import Derived.Deep.QuietTactic
set_option linter.unusedSimpArgs false
set_option linter.unusedVariables false
set_option maxRecDepth 100000
namespace Go.Proofs.YtdjkkohckfndkaaGreatDoor
open Go.RowKit Pl
theorem four_any (n : Int) (w : World) (hn : 0 ≤ n) : Calls Tryz.prog 125 #[.int .u32 n] w (MadePost (four n.toNat) w) := by
  go_enter Tryz.func125, Tryz.ntmps125
  go_wp2
  go_ret
  exact made_four (by omega) (by omega) (by omega) (by omega)
def FourPost (B : List Nat) (w : World) (e : Ending) (w' : World) : Prop := e = .returned (.int .u32 (getFour B : Nat)) ∧ ∃ k, w.drewN k = w'
theorem getFour_few (v : Value) (B : List Nat) (w : World) (hv : IsBytes w v B) (h : B.length < 4) : Calls Tryz.prog 150 #[v] w (FourPost B w) := by
  obtain ⟨a, cap, rfl, hcap, hmax⟩ := hv.slice
  have e : getFour B = 0 := if_pos h
  have E := Lib.hid e
  clear e hv
  go_enter Tryz.func150, Tryz.ntmps150
  go_wp2
  go_ret
  exact ⟨by rw [E.out]; rfl, 0, rfl⟩
set_option maxHeartbeats 400000 in
theorem getFour_any (v : Value) (B : List Nat) (w : World) (hv : IsBytes w v B) : Calls Tryz.prog 150 #[v] w (FourPost B w) := by
  by_cases h : B.length < 4
  · exact getFour_few v B w hv h
  · obtain ⟨b, off, cap, rfl, h1, h2, _, hc⟩ := hv.cells (by omega)
    have c0 : w.cell? ⟨b, off, none⟩ = some (.int .u8 (B.getD 0 0 : Nat)) := hc 0 (by omega)
    have c1 := hc 1 (by omega)
    have c2 := hc 2 (by omega)
    have c3 := hc 3 (by omega)
    have l0 := getD_lt hv.1 0
    have l1 := getD_lt hv.1 1
    have l2 := getD_lt hv.1 2
    have l3 := getD_lt hv.1 3
    have e : getFour B = B.getD 0 0 + 256 * B.getD 1 0 + 65536 * B.getD 2 0 + 16777216 * B.getD 3 0 := if_neg h
    unfold FourPost
    rw [e]
    generalize B.getD 0 0 = x0 at *
    generalize B.getD 1 0 = x1 at *
    generalize B.getD 2 0 = x2 at *
    generalize B.getD 3 0 = x3 at *
    have hl0 : (0 : Int) < B.length := by omega
    have hl1 : (1 : Int) < B.length := by omega
    have hl2 : (2 : Int) < B.length := by omega
    have hl3 : (3 : Int) < B.length := by omega
    have hn0 : 0 < B.length := by omega
    have hn1 : 1 < B.length := by omega
    have hn2 : 2 < B.length := by omega
    have hn3 : 3 < B.length := by omega
    clear hv hc e
    go_enter Tryz.func150, Tryz.ntmps150
    go_wp2
    go_quiet (fail)
    go_wp2
    go_ret
    exact ⟨ret_int (or_four _ _ _ _ l0 l1 l2 l3), _, rfl⟩
end Go.Proofs.YtdjkkohckfndkaaGreatDoor
namespace Go.Proofs.YtdjkkohckfndkaaGreatDoor
open Go.RowKit Pl
theorem refFour_any (n : Int) (w : World) (hn : 0 ≤ n) : Calls Tryz.prog 79 #[.int .u32 n] w (MadePost (four n.toNat) w) := by
  go_enter Tryz.func79, Tryz.ntmps79
  go_wp2
  go_ret
  exact made_four (by omega) (by omega) (by omega) (by omega)
end Go.Proofs.YtdjkkohckfndkaaGreatDoor
namespace Go.Proofs.YtdjkkohckfndkaaGreatDoor.S3.Pl

def cpoly : Nat := 3988292384
def cstep (c : Nat) : Nat := if c % 2 = 1 then c / 2 ^^^ cpoly else c / 2
theorem xor_half (a b : Nat) : (a ^^^ b) / 2 = a / 2 ^^^ b / 2 := by
  apply Nat.eq_of_testBit_eq
  intro i
  rw [Nat.testBit_xor, Nat.testBit_div_two, Nat.testBit_div_two, Nat.testBit_div_two, Nat.testBit_xor]
theorem xor_par (a b : Nat) : (a ^^^ b) % 2 = (a % 2 + b % 2) % 2 := by
  have h := Nat.testBit_xor (x := a) (y := b) (i := 0)
  simp only [Nat.testBit_zero] at h
  have ha := Nat.mod_two_eq_zero_or_one a
  have hb := Nat.mod_two_eq_zero_or_one b
  have hc := Nat.mod_two_eq_zero_or_one (a ^^^ b)
  rcases ha with ha | ha <;> rcases hb with hb | hb <;> rcases hc with hc | hc <;> simp [ha, hb, hc] at h ⊢
theorem xor_xor_same (a b c : Nat) : (a ^^^ c) ^^^ (b ^^^ c) = a ^^^ b := by
  rw [Nat.xor_assoc, Nat.xor_comm b c, ← Nat.xor_assoc c c b, Nat.xor_self, Nat.zero_xor]
theorem xor_right_comm (a b c : Nat) : (a ^^^ b) ^^^ c = (a ^^^ c) ^^^ b := by
  rw [Nat.xor_assoc, Nat.xor_comm b c, ← Nat.xor_assoc]
theorem cstep_xor (a b : Nat) : cstep (a ^^^ b) = cstep a ^^^ cstep b := by
  unfold cstep
  rw [xor_half, xor_par]
  have ha := Nat.mod_two_eq_zero_or_one a
  have hb := Nat.mod_two_eq_zero_or_one b
  rcases ha with ha | ha <;> rcases hb with hb | hb <;> simp [ha, hb]
  · rw [Nat.xor_assoc]
  · rw [xor_right_comm]
  · rw [xor_xor_same]
theorem cstep_even {c : Nat} (h : c % 2 = 0) : cstep c = c / 2 := by unfold cstep; rw [if_neg (by omega)]
theorem cpoly_lt : cpoly < 2 ^ 32 := by decide
theorem cstep_lt {c : Nat} (h : c < 2 ^ 32) : cstep c < 2 ^ 32 := by
  unfold cstep
  split
  · exact Nat.xor_lt_two_pow (by omega) cpoly_lt
  · omega
def cbits : Nat → Nat → Nat
  | 0, c => c
  | n + 1, c => cbits n (cstep c)
theorem cbits_succ' (n c : Nat) : cbits (n + 1) c = cstep (cbits n c) := by
  induction n generalizing c with
  | zero => rfl
  | succ n ih => show cbits (n + 1) (cstep c) = _; rw [ih]; rfl
theorem cbits_add (m n c : Nat) : cbits (m + n) c = cbits n (cbits m c) := by
  induction m generalizing c with
  | zero => simp [cbits]
  | succ m ih => rw [show m + 1 + n = (m + n) + 1 by omega]; exact ih (cstep c)
theorem cbits_xor (n a b : Nat) : cbits n (a ^^^ b) = cbits n a ^^^ cbits n b := by
  induction n generalizing a b with
  | zero => rfl
  | succ n ih => simp only [cbits]; rw [cstep_xor, ih]
theorem cbits_lt (n : Nat) {c : Nat} (h : c < 2 ^ 32) : cbits n c < 2 ^ 32 := by
  induction n generalizing c with
  | zero => exact h
  | succ n ih => exact ih (cstep_lt h)
theorem cbits_shift (n x : Nat) : cbits n (x * 2 ^ n) = x := by
  induction n generalizing x with
  | zero => simp [cbits]
  | succ n ih =>
    have e : x * 2 ^ (n + 1) = (x * 2 ^ n) * 2 := by rw [Nat.pow_succ, Nat.mul_assoc]
    simp only [cbits]
    rw [e, cstep_even (by omega), Nat.mul_div_cancel _ (by omega)]
    exact ih x

def cbyte (c x : Nat) : Nat := cbits 8 (c ^^^ x)
def cregs (c : Nat) (B : List Nat) : Nat := B.foldl cbyte c
def csum (B : List Nat) : Nat := cregs 4294967295 B ^^^ 4294967295
theorem cregs_append (c : Nat) (A B : List Nat) : cregs c (A ++ B) = cregs (cregs c A) B := by simp [cregs, List.foldl_append]
theorem cregs_snoc (c : Nat) (A : List Nat) (x : Nat) : cregs c (A ++ [x]) = cbyte (cregs c A) x := by rw [cregs_append]; rfl
theorem cbyte_lt {c x : Nat} (hc : c < 2 ^ 32) (hx : x < 256) : cbyte c x < 2 ^ 32 := cbits_lt 8 (Nat.xor_lt_two_pow hc (by omega))
theorem cregs_lt {c : Nat} (hc : c < 2 ^ 32) {B : List Nat} (hB : ∀ x ∈ B, x < 256) : cregs c B < 2 ^ 32 := by
  induction B generalizing c with
  | nil => exact hc
  | cons x t ih => exact ih (cbyte_lt hc (hB x (by simp))) (fun y hy => hB y (by simp [hy]))
theorem csum_lt {B : List Nat} (hB : ∀ x ∈ B, x < 256) : csum B < 2 ^ 32 := Nat.xor_lt_two_pow (cregs_lt (by decide) hB) (by decide)
end Go.Proofs.YtdjkkohckfndkaaGreatDoor.S3.Pl
namespace Go.Proofs.YtdjkkohckfndkaaGreatDoor.Pl
end Go.Proofs.YtdjkkohckfndkaaGreatDoor.Pl
namespace Go.Proofs.YtdjkkohckfndkaaGreatDoor.S3.Pl
end Go.Proofs.YtdjkkohckfndkaaGreatDoor.S3.Pl
namespace Go.Proofs.YtdjkkohckfndkaaGreatDoor.S3
open Go.RowKit _root_.Go.Proofs.YtdjkkohckfndkaaGreatDoor.Pl _root_.Go.Proofs.YtdjkkohckfndkaaGreatDoor.S3.Pl

namespace Pl
theorem xor_low (n x y : Nat) (hx : x < 2 ^ n) : (y * 2 ^ n) ^^^ x = y * 2 ^ n + x := by
  have h := Nat.two_pow_add_eq_or_of_lt (i := n) (b := x) hx y
  rw [Nat.mul_comm] at h
  rw [h]
  apply Nat.eq_of_testBit_eq
  intro i
  rw [Nat.testBit_xor, Nat.testBit_or]
  by_cases hi : i < n
  · have : (y * 2 ^ n).testBit i = false := by
      rw [Nat.mul_comm, Nat.testBit_two_pow_mul]; simp; intro h8; omega
    simp [this]
  · have : x.testBit i = false := Nat.testBit_lt_two_pow (Nat.lt_of_lt_of_le hx (Nat.pow_le_pow_right (by omega) (by omega)))
    simp [this]
def ctab : List Nat := [0, 498536548, 997073096, 651767980, 1994146192, 1802195444, 1303535960, 1342533948, 3988292384, 4027552580, 3604390888, 3412177804, 2607071920, 2262029012, 2685067896, 3183342108]
theorem ctab_lt (i : Nat) : ctab.getD i 0 < 4294967296 := by
  by_cases h : i < 16
  · have : ∀ k : Fin 16, ctab.getD k.val 0 < 4294967296 := by decide
    exact this ⟨i, h⟩
  · rw [List.getD_eq_getElem?_getD, List.getElem?_eq_none (by simp [ctab]; omega)]; simp
theorem ctab_bits (i : Nat) (h : i < 16) : cbits 4 i = ctab.getD i 0 := by
  have : ∀ k : Fin 16, cbits 4 k.val = ctab.getD k.val 0 := by decide
  exact this ⟨i, h⟩
theorem nib (c : Nat) : cbits 4 c = c / 16 ^^^ ctab.getD (c % 16) 0 := by
  have h := cbits_xor 4 (c / 16 * 2 ^ 4) (c % 16)
  rw [cbits_shift, xor_low 4 _ _ (by omega), ctab_bits (c % 16) (by omega)] at h
  have e : c / 16 * 2 ^ 4 + c % 16 = c := by omega
  rw [e] at h
  exact h
theorem cbits_nib (c : Nat) : cbits 4 (cbits 4 c) = cbits 8 c := (cbits_add 4 4 c).symm
end Pl

def tabAt (i : Nat) : Nat := ctab.getD i 0
def Tab (w : World) : Prop := 0 < w.heap.size ∧ ∀ i, i < 16 → w.cell? ⟨0, i, none⟩ = some (.int .u32 (tabAt i : Nat))
theorem Tab.below {w w' : World} (h : Tab w) (hb : Below w.heap.size w w') : Tab w' :=
  ⟨Nat.lt_of_lt_of_le h.1 hb.size, fun i hi => (hb.cell (p := ⟨0, i, none⟩) h.1).trans (h.2 i hi)⟩
theorem nib_int (s : Nat) (h : s < 4294967296) : bits BinOp.xor IntKind.u32 ((s : Int) / 16) (tabAt (s % 16) : Nat) = ((cbits 4 s : Nat) : Int) := by
  rw [nib]
  exact u32_xor_nat (s / 16) _ (by omega) (ctab_lt _)

theorem and15 (c : Nat) (h : c < 4294967296) : bits BinOp.and IntKind.u32 (c : Int) 15 = ((c % 16 : Nat) : Int) := by
  show bits BinOp.and IntKind.u32 (c : Int) ((15 : Nat) : Int) = _
  rw [u32_and_nat _ _ h (by omega)]
  congr 1
  exact Nat.and_two_pow_sub_one_eq_mod c 4
theorem reg_lt {B : List Nat} (hB : ∀ x ∈ B, x < 256) (i : Nat) : cregs 4294967295 (B.take i) < 4294967296 := cregs_lt (c := 4294967295) (by decide) (fun x hx => hB x (List.mem_of_mem_take hx))
theorem reg_step (B : List Nat) (i : Nat) (hi : i < B.length) : cregs 4294967295 (B.take (i + 1)) = cbyte (cregs 4294967295 (B.take i)) (B.getD i 0) := by
  rw [List.take_add_one, List.getElem?_eq_getElem hi, Option.toList_some, cregs_snoc]
  simp [List.getD, hi]

set_option maxHeartbeats 1000000 in
theorem sum_any (v : Value) (B : List Nat) (w : World) (hT : Tab w) (hv : IsBytes w v B) : Calls Tryz.prog 126 #[v] w fun e w' => e = .returned (.int .u32 (csum B : Nat)) ∧ w = w' := by
  have HT := Lib.hid hT
  have HV := Lib.hid hv
  obtain ⟨a, cap, rfl, hcap, hmax⟩ := hv.slice
  unfold maxLen at hmax
  clear hv hT
  go_enter Tryz.func126, Tryz.ntmps126
  go_wp2
  go_loop [3, 8] (fun v x => ∃ i : Nat, i ≤ B.length ∧ x = .int .i64 i ∧ v = .int .u32 (cregs 4294967295 (B.take i) : Nat)) (fun _ x => B.length - (intOf x).toNat)
  case atStart => exact ⟨0, by omega, rfl, rfl⟩
  case round =>
    obtain ⟨i, hi, rfl, rfl⟩ := hrel
    by_cases hlt : i < B.length
    · obtain ⟨b, off, cap', hs, _, _, _, hc⟩ := HV.out.cells (by omega)
      simp at hs
      obtain ⟨rfl, rfl⟩ := hs
      have c0 := hc i hlt
      have hreg := reg_lt HV.out.1 i
      have hst := reg_step B i hlt
      have hx := getD_lt HV.out.1 i
      generalize B.getD i 0 = x at *
      generalize cregs 4294967295 (B.take i) = m at *
      have e1 : bits BinOp.xor IntKind.u32 (m : Int) (x : Int) = ((m ^^^ x : Nat) : Int) := u32_xor_nat _ _ hreg (by omega)
      have h1 : m ^^^ x < 4294967296 := Nat.xor_lt_two_pow (n := 32) hreg (by omega)
      have HS := Lib.hid hst
      clear hc hst
      have e2 := and15 _ h1
      have c1 := HT.out.2 ((m ^^^ x) % 16) (by omega)
      have e3 := nib_int _ h1
      have h2 : cbits 4 (m ^^^ x) < 4294967296 := cbits_lt 4 h1
      have e4 := and15 _ h2
      have e5 := nib_int _ h2
      have c2 := HT.out.2 (cbits 4 (m ^^^ x) % 16) (by omega)
      unfold cbyte at HS
      rw [cbits_nib] at e5
      generalize cbits 4 (m ^^^ x) = s2 at *
      generalize m ^^^ x = s at *
      go_wp2
      go_round
      case rel => exact ⟨i + 1, by omega, by go_num, by rw [HS.out]⟩
      case measure => simp [intOf]; omega
    · obtain rfl : i = B.length := by omega
      have hreg := reg_lt HV.out.1 B.length
      rw [List.take_length] at hreg ⊢
      go_wp2
      go_ret
      exact ⟨ret_int (u32_xor_nat (cregs 4294967295 B) 4294967295 hreg (by decide)), rfl⟩

theorem step_odd (c : Nat) (h : c < 4294967296) (h1 : c % 2 = 1) : bits BinOp.xor IntKind.u32 ((c : Int) / 2) 3988292384 = ((cstep c : Nat) : Int) := by
  have e : cstep c = c / 2 ^^^ 3988292384 := if_pos h1
  rw [e]
  exact u32_xor_nat (c / 2) 3988292384 (by omega) (by decide)
theorem step_even (c : Nat) (h1 : ¬ c % 2 = 1) : ((c : Int) / 2) = ((cstep c : Nat) : Int) := by
  have e : cstep c = c / 2 := if_neg h1
  rw [e]
  omega

set_option maxHeartbeats 1000000 in
theorem refSum_any (v : Value) (B : List Nat) (w : World) (hv : IsBytes w v B) : Calls Tryz.prog 80 #[v] w fun e w' => e = .returned (.int .u32 (csum B : Nat)) ∧ w = w' := by
  have HV := Lib.hid hv
  obtain ⟨a, cap, rfl, hcap, hmax⟩ := hv.slice
  unfold maxLen at hmax
  clear hv
  go_enter Tryz.func80, Tryz.ntmps80
  go_wp2
  go_loop [3, 4] (fun v x => ∃ i : Nat, i ≤ B.length ∧ x = .int .i64 i ∧ v = .int .u32 (cregs 4294967295 (B.take i) : Nat)) (fun _ x => B.length - (intOf x).toNat)
  case atStart => exact ⟨0, by omega, rfl, rfl⟩
  case round =>
    obtain ⟨i, hi, rfl, rfl⟩ := hrel
    by_cases hlt : i < B.length
    · obtain ⟨b, off, cap', hs, _, _, _, hc⟩ := HV.out.cells (by omega)
      simp at hs
      obtain ⟨rfl, rfl⟩ := hs
      have c0 := hc i hlt
      have hreg := reg_lt HV.out.1 i
      have hst := reg_step B i hlt
      have hx := getD_lt HV.out.1 i
      generalize B.getD i 0 = x at *
      generalize cregs 4294967295 (B.take i) = m at *
      have e1 : bits BinOp.xor IntKind.u32 (m : Int) (x : Int) = ((m ^^^ x : Nat) : Int) := u32_xor_nat _ _ hreg (by omega)
      have h1 : m ^^^ x < 4294967296 := Nat.xor_lt_two_pow (n := 32) hreg (by omega)
      have HS := Lib.hid hst
      clear hc hst
      unfold cbyte at HS
      generalize m ^^^ x = s at *
      go_wp2
      go_loop [3, 5] (fun v x => ∃ k : Nat, k ≤ 8 ∧ x = .int .i64 k ∧ v = .int .u32 (cbits k s : Nat)) (fun _ x => 8 - (intOf x).toNat)
      case atStart => exact ⟨0, by omega, rfl, rfl⟩
      case round =>
        obtain ⟨k, hk, rfl, rfl⟩ := hrel
        have hck := cbits_lt k h1
        by_cases hlt : k < 8
        · have hsk := Lib.hid (cbits_succ' k s)
          generalize cbits k s = c at *
          by_cases hodd : c % 2 = 1
          · have hd : ((c : Int) % 2 == 1) = true := by simp; omega
            have e2 := step_odd c hck hodd
            go_wp2
            go_round
            case rel => exact ⟨k + 1, by omega, by go_num, by rw [hsk.out]⟩
            case measure => simp [intOf]; omega
          · have hd : ((c : Int) % 2 == 1) = false := by simp; omega
            have e2 := Lib.hid (step_even c hodd)
            go_wp2
            go_round
            case rel => exact ⟨k + 1, by omega, by go_num, by rw [hsk.out, e2.out]⟩
            case measure => simp [intOf]; omega
        · obtain rfl : k = 8 := by omega
          go_wp2
          go_round
          case rel => exact ⟨i + 1, by omega, by go_num, by rw [HS.out]⟩
          case measure => simp [intOf]; omega
    · obtain rfl : i = B.length := by omega
      have hreg := reg_lt HV.out.1 B.length
      rw [List.take_length] at hreg ⊢
      go_wp2
      go_ret
      exact ⟨ret_int ((u32_xor_nat 4294967295 (cregs 4294967295 B) (by decide) hreg).trans (by rw [Nat.xor_comm]; rfl)), rfl⟩
end Go.Proofs.YtdjkkohckfndkaaGreatDoor.S3
namespace Go.Proofs.YtdjkkohckfndkaaGreatDoor.Pl
end Go.Proofs.YtdjkkohckfndkaaGreatDoor.Pl
namespace Go.Proofs.YtdjkkohckfndkaaGreatDoor.S3.Pl
end Go.Proofs.YtdjkkohckfndkaaGreatDoor.S3.Pl
namespace Go.Proofs.YtdjkkohckfndkaaGreatDoor.S3
open Go.RowKit _root_.Go.Proofs.YtdjkkohckfndkaaGreatDoor.Pl _root_.Go.Proofs.YtdjkkohckfndkaaGreatDoor.S3.Pl

namespace Pl
def phead (B : List Nat) : List Nat := four B.length ++ four (csum (four B.length)) ++ four (csum B)
def pseal (B : List Nat) : List Nat := four B.length ++ four (csum (four B.length)) ++ four (csum B) ++ B
theorem pseal_length (B : List Nat) : (pseal B).length = 12 + B.length := by simp [pseal, four]; omega
theorem pseal_lt {B : List Nat} (h : ∀ x ∈ B, x < 256) : ∀ x ∈ pseal B, x < 256 := by
  intro x hx
  simp only [pseal, List.mem_append] at hx
  rcases hx with ((hx | hx) | hx) | hx
  · exact four_lt _ x hx
  · exact four_lt _ x hx
  · exact four_lt _ x hx
  · exact h x hx
end Pl
theorem four_nat (n : Int) (m : Nat) (w : World) (hn : n = m) : Calls Tryz.prog 125 #[.int .u32 n] w (MadeS (four m) w) := by
  subst hn
  exact (four_any _ w (by omega)).mono fun e w' h => h.s
theorem refFour_nat (n : Int) (m : Nat) (w : World) (hn : n = m) : Calls Tryz.prog 79 #[.int .u32 n] w (MadeS (four m) w) := by
  subst hn
  exact (refFour_any _ w (by omega)).mono fun e w' h => h.s

theorem made_seal {w w1 w7 w8 : World} {B : List Nat} {v7 v8 : Value} (h1 : Below w.heap.size w w1) (h7 : Below w1.heap.size w1 w7) (ho7 : w7.ownsRow w1.heap.size 5 1 v7 12 (u8s (phead B)))
    (ho8 : w8.ownsRow w1.heap.size 5 1 v8 (12 + B.length) (u8s (phead B) ++ u8s B)) (hgr : w7.grownBy w8 v7.ownBlock) : MadePost (pseal B) w (.returned v8) w8 := by
  have h8 := h7.grown hgr h7.size (own_lt ho7)
  refine ⟨v8, rfl, ?_, h1.trans (h8.mono h1.size)⟩
  rw [pseal_length, show pseal B = phead B ++ B from rfl, u8s_append]
  exact own_base ho8 h1.size

set_option maxHeartbeats 1000000 in
theorem seal_any (v : Value) (B : List Nat) (w : World) (hT : Tab w) (hv : IsBytes w v B) (hl : B.length < 4294967296) : Calls Tryz.prog 94 #[v] w (MadePost (pseal B) w) := by
  obtain ⟨a, cap, rfl, hcap, hmax⟩ := hv.slice
  unfold maxLen at hmax
  have HV := Lib.hid hv
  have HT := Lib.hid hT
  clear hv hT
  obtain ⟨i0, hi, hz0, hz1, hz2⟩ := info_parts info5
  have Hi := Lib.hid hi
  have Hz0 := Lib.hid hz0
  have Hz1 := Lib.hid hz1
  have Hz2 := Lib.hid hz2
  clear hi hz0 hz1 hz2
  go_enter Tryz.func94, Tryz.ntmps94
  go_wp2_with fail
  refine (four_nat _ B.length _ (by omega)).mono ?_
  rintro e w1 ⟨sp1, cap1, rfl, ho1, hb1⟩
  rw [four_length] at ho1 ⊢
  have HI1 : Hid (IsBytes w1 (.slice sp1 4 cap1) (four B.length)) := Lib.hid (isBytes_own (four_lt _) ho1)
  have HV1 := Lib.hid (HV.out.below hb1)
  have HT1 := Lib.hid (HT.out.below hb1)
  have HB1 := Lib.hid hb1
  clear ho1 hb1 HV HT
  go_wp2_with (first | (at_make; refine wpList_make_own _ rfl _ _ 23 rfl w1.heap.size 5 i0 (.int .u8 0) 1 Tryz.underlying23 Hi.out Hz0.out Hz1.out .i64 .i64 _ (12 + B.length) rfl rfl (by omega) (by rw [Hz2.out]; omega) (by unfold maxLen; omega) (Nat.le_refl _) ?_; intro w2 hown hgr; have HO2 := Lib.hid hown; have HB2 : Hid (Below w1.heap.size w1 w2) := Lib.hid ((Below.refl _ _).grown hgr (Nat.le_refl _) (by simp)); have hsz2 := HB2.out.size; clear hown hgr) | (at_builtin; refine wpList_append_bytes rfl (.tmp 13) (.tmp 14) rfl w1.heap.size _ 0 [] rfl HO2.out _ (four B.length) rfl (HI1.out.below HB2.out) (by rw [four_length]; omega) hsz2 ?_; intro v3 w3 hown hgr; have HO3 : Hid (w3.ownsRow w1.heap.size 5 1 v3 4 (u8s (four B.length))) := Lib.hid hown; have HB3 := Lib.hid (HB2.out.grown hgr hsz2 (own_lt HO2.out)); have hsz3 := HB3.out.size; clear hown hgr HB2 HO2; obtain ⟨sp3, cap3, rfl, _, _⟩ := ownsRow_slice HO3.out))
  refine (sum_any _ (four B.length) _ (HT1.out.below HB3.out) (HI1.out.below HB3.out)).mono ?_
  rintro e w4 ⟨rfl, rfl⟩
  go_wp2_with fail
  refine (four_nat _ (csum (four B.length)) _ rfl).mono ?_
  rintro e w4 ⟨sp4, cap4, rfl, ho4, hb4⟩
  rw [four_length] at ho4 ⊢
  have HI4 : Hid (IsBytes w4 (.slice sp4 4 cap4) (four (csum (four B.length)))) := Lib.hid (isBytes_own (four_lt _) ho4)
  have HO4 := Lib.hid (own_below HO3.out hb4)
  have HB4 := Lib.hid (HB3.out.trans (hb4.mono hsz3))
  have hsz4 := HB4.out.size
  clear ho4 hb4 HO3 HB3
  go_wp2_with (at_builtin; refine wpList_append_bytes rfl (.tmp 16) (.tmp 19) rfl w1.heap.size _ 4 _ rfl HO4.out _ (four (csum (four B.length))) rfl HI4.out (by rw [four_length]; omega) hsz4 ?_; intro v5 w5 hown hgr; have HO5 : Hid (w5.ownsRow w1.heap.size 5 1 v5 8 (u8s (four B.length ++ four (csum (four B.length))))) := Lib.hid (by rw [u8s_append]; exact hown); have HB5 := Lib.hid (HB4.out.grown hgr hsz4 (own_lt HO4.out)); have hsz5 := HB5.out.size; clear hown hgr HB4 HO4 HI4; obtain ⟨sp5, cap5, rfl, _, _⟩ := ownsRow_slice HO5.out)
  refine (sum_any _ B _ (HT1.out.below HB5.out) (HV1.out.below HB5.out)).mono ?_
  rintro e w6 ⟨rfl, rfl⟩
  go_wp2_with fail
  refine (four_nat _ (csum B) _ rfl).mono ?_
  rintro e w6 ⟨sp6, cap6, rfl, ho6, hb6⟩
  rw [four_length] at ho6 ⊢
  have HI6 : Hid (IsBytes w6 (.slice sp6 4 cap6) (four (csum B))) := Lib.hid (isBytes_own (four_lt _) ho6)
  have HO6 := Lib.hid (own_below HO5.out hb6)
  have HB6 := Lib.hid (HB5.out.trans (hb6.mono hsz5))
  have hsz6 := HB6.out.size
  clear ho6 hb6 HO5 HB5
  go_wp2_with (first | (at_builtin; refine wpList_append_bytes rfl (.tmp 21) (.tmp 24) rfl w1.heap.size _ 8 _ rfl HO6.out _ (four (csum B)) rfl HI6.out (by rw [four_length]; omega) hsz6 ?_; intro v7 w7 hown hgr; have HO7 : Hid (w7.ownsRow w1.heap.size 5 1 v7 12 (u8s (phead B))) := Lib.hid (by unfold phead; rw [u8s_append]; exact hown); have HB7 := Lib.hid (HB6.out.grown hgr hsz6 (own_lt HO6.out)); have hsz7 := HB7.out.size; clear hown hgr HB6 HO6 HI6; obtain ⟨sp7, cap7, rfl, _, _⟩ := ownsRow_slice HO7.out) | (at_builtin; refine wpList_append_bytes rfl (.tmp 26) (.tmp 27) rfl w1.heap.size _ 12 _ rfl HO7.out _ B rfl (HV1.out.below HB7.out) (by omega) hsz7 ?_; intro v8 w8 hown hgr))
  go_ret
  exact made_seal HB1.out HB7.out HO7.out hown hgr

set_option maxHeartbeats 1000000 in
theorem refSeal_any (v : Value) (B : List Nat) (w : World) (hv : IsBytes w v B) (hl : B.length < 4294967296) : Calls Tryz.prog 46 #[v] w (MadePost (pseal B) w) := by
  obtain ⟨a, cap, rfl, hcap, hmax⟩ := hv.slice
  unfold maxLen at hmax
  have HV := Lib.hid hv
  clear hv
  go_enter Tryz.func46, Tryz.ntmps46
  go_wp2_with fail
  refine (refFour_nat _ B.length _ (by omega)).mono ?_
  rintro e w1 ⟨sp1, cap1, rfl, ho1, hb1⟩
  rw [four_length] at ho1 ⊢
  have HI1 : Hid (IsBytes w1 (.slice sp1 4 cap1) (four B.length)) := Lib.hid (isBytes_own (four_lt _) ho1)
  have HV1 := Lib.hid (HV.out.below hb1)
  have HB1 := Lib.hid hb1
  clear ho1 hb1 HV
  go_wp2_with (at_builtin; refine wpList_append_bytes rfl _ (.tmp 9) rfl w1.heap.size _ 0 [] rfl (own_nil _ _) _ (four B.length) rfl HI1.out (by rw [four_length]; omega) (Nat.le_refl _) ?_; intro v3 w3 hown hgr; have HO3 : Hid (w3.ownsRow w1.heap.size 5 1 v3 4 (u8s (four B.length))) := Lib.hid hown; have HB3 : Hid (Below w1.heap.size w1 w3) := Lib.hid ((Below.refl _ _).grown hgr (Nat.le_refl _) (by intro k hk; cases hk)); have hsz3 := HB3.out.size; clear hown hgr; obtain ⟨sp3, cap3, rfl, _, _⟩ := ownsRow_slice HO3.out)
  refine (refSum_any _ (four B.length) _ (HI1.out.below HB3.out)).mono ?_
  rintro e w4 ⟨rfl, rfl⟩
  go_wp2_with fail
  refine (refFour_nat _ (csum (four B.length)) _ rfl).mono ?_
  rintro e w4 ⟨sp4, cap4, rfl, ho4, hb4⟩
  rw [four_length] at ho4 ⊢
  have HI4 : Hid (IsBytes w4 (.slice sp4 4 cap4) (four (csum (four B.length)))) := Lib.hid (isBytes_own (four_lt _) ho4)
  have HO4 := Lib.hid (own_below HO3.out hb4)
  have HB4 := Lib.hid (HB3.out.trans (hb4.mono hsz3))
  have hsz4 := HB4.out.size
  clear ho4 hb4 HO3 HB3
  go_wp2_with (at_builtin; refine wpList_append_bytes rfl (.tmp 10) (.tmp 13) rfl w1.heap.size _ 4 _ rfl HO4.out _ (four (csum (four B.length))) rfl HI4.out (by rw [four_length]; omega) hsz4 ?_; intro v5 w5 hown hgr; have HO5 : Hid (w5.ownsRow w1.heap.size 5 1 v5 8 (u8s (four B.length ++ four (csum (four B.length))))) := Lib.hid (by rw [u8s_append]; exact hown); have HB5 := Lib.hid (HB4.out.grown hgr hsz4 (own_lt HO4.out)); have hsz5 := HB5.out.size; clear hown hgr HB4 HO4 HI4; obtain ⟨sp5, cap5, rfl, _, _⟩ := ownsRow_slice HO5.out)
  refine (refSum_any _ B _ (HV1.out.below HB5.out)).mono ?_
  rintro e w6 ⟨rfl, rfl⟩
  go_wp2_with fail
  refine (refFour_nat _ (csum B) _ rfl).mono ?_
  rintro e w6 ⟨sp6, cap6, rfl, ho6, hb6⟩
  rw [four_length] at ho6 ⊢
  have HI6 : Hid (IsBytes w6 (.slice sp6 4 cap6) (four (csum B))) := Lib.hid (isBytes_own (four_lt _) ho6)
  have HO6 := Lib.hid (own_below HO5.out hb6)
  have HB6 := Lib.hid (HB5.out.trans (hb6.mono hsz5))
  have hsz6 := HB6.out.size
  clear ho6 hb6 HO5 HB5
  go_wp2_with (first | (at_builtin; refine wpList_append_bytes rfl (.tmp 15) (.tmp 18) rfl w1.heap.size _ 8 _ rfl HO6.out _ (four (csum B)) rfl HI6.out (by rw [four_length]; omega) hsz6 ?_; intro v7 w7 hown hgr; have HO7 : Hid (w7.ownsRow w1.heap.size 5 1 v7 12 (u8s (phead B))) := Lib.hid (by unfold phead; rw [u8s_append]; exact hown); have HB7 := Lib.hid (HB6.out.grown hgr hsz6 (own_lt HO6.out)); have hsz7 := HB7.out.size; clear hown hgr HB6 HO6 HI6; obtain ⟨sp7, cap7, rfl, _, _⟩ := ownsRow_slice HO7.out) | (at_builtin; refine wpList_append_bytes rfl (.tmp 19) (.tmp 20) rfl w1.heap.size _ 12 _ rfl HO7.out _ B rfl (HV1.out.below HB7.out) (by omega) hsz7 ?_; intro v8 w8 hown hgr))
  go_ret
  exact made_seal HB1.out HB7.out HO7.out hown hgr
end Go.Proofs.YtdjkkohckfndkaaGreatDoor.S3
namespace Go.Proofs.YtdjkkohckfndkaaGreatDoor.Pl
end Go.Proofs.YtdjkkohckfndkaaGreatDoor.Pl
namespace Go.Proofs.YtdjkkohckfndkaaGreatDoor.S3.Pl
end Go.Proofs.YtdjkkohckfndkaaGreatDoor.S3.Pl
namespace Go.Proofs.YtdjkkohckfndkaaGreatDoor.S3
open Go.RowKit _root_.Go.Proofs.YtdjkkohckfndkaaGreatDoor.Pl _root_.Go.Proofs.YtdjkkohckfndkaaGreatDoor.S3.Pl

namespace Pl
def endOk (B : List Nat) : Bool := decide (12 ≤ B.length) && (getFour (B.drop 4) == csum (B.take 4))
def endAt (B : List Nat) : Nat := if endOk B then 12 + getFour B else 0
def bodyOk (B : List Nat) : Bool := getFour (B.drop 8) == csum (B.drop 12)
end Pl
theorem _root_.Go.Proofs.YtdjkkohckfndkaaGreatDoor.IsBytes.drew {w : World} {v : Value} {B : List Nat} (h : IsBytes w v B) (n : Nat) : IsBytes (w.drewN n) v B := h
theorem Tab.drew {w : World} (h : Tab w) (n : Nat) : Tab (w.drewN n) := h
theorem sum_quiet (v : Value) (B : List Nat) (w : World) (n : Nat) (hT : Tab w) (hv : IsBytes w v B) : Calls Tryz.prog 126 #[v] (w.drewN n) fun e w'' => e = .returned (.int .u32 (csum B : Nat)) ∧ ∃ m, w'' = w.drewN m :=
  Calls.quiet_of_same ((sum_any v B (w.drewN n) hT hv).mono fun _ _ h => ⟨h.1, h.2.symm⟩)
theorem getFour_quiet (v : Value) (B : List Nat) (w : World) (n : Nat) (hv : IsBytes w v B) : Calls Tryz.prog 150 #[v] (w.drewN n) fun e w'' => e = .returned (.int .u32 (getFour B : Nat)) ∧ ∃ m, w'' = w.drewN m :=
  Calls.quiet_of ((getFour_any v B (w.drewN n) hv).mono fun _ _ h => ⟨h.1, by obtain ⟨k, hk⟩ := h.2; exact ⟨k, hk.symm⟩⟩)

attribute [local go_sem ↓] sliceU8_eq
def EndPost (B : List Nat) (w : World) (e : Ending) (w' : World) : Prop := e = .returned (.tuple #[.int .i64 (endAt B : Nat), .bool (endOk B)]) ∧ ∃ m, w' = w.drewN m
set_option maxHeartbeats 1000000 in
theorem sealEnd_any (v : Value) (B : List Nat) (w : World) (hT : Tab w) (hv : IsBytes w v B) : Calls Tryz.prog 119 #[v] w (EndPost B w) := by
  obtain ⟨a, cap, rfl, hcap, hmax⟩ := hv.slice
  unfold maxLen at hmax
  by_cases h12 : 12 ≤ B.length
  · obtain ⟨a4, c4, hs4, hI4⟩ := run_from hv 4 (by omega)
    obtain ⟨a5, c5, hs5, hI5⟩ := run_upto hv 4 (by omega)
    have hs4' : ∀ W, (sliceU8 (.slice a B.length cap) (some (.int .i64 4)) none none).run Tryz.prog W = .ok (.slice a4 (B.length - 4) c4) W := hs4
    have hs5' : ∀ W, (sliceU8 (.slice a B.length cap) none (some (.int .i64 4)) none).run Tryz.prog W = .ok (.slice a5 4 c5) W := hs5
    have HV := Lib.hid hv
    have HT := Lib.hid hT
    have HI4 := Lib.hid hI4
    have HI5 := Lib.hid hI5
    have hlt : decide ((B.length : Int) < 12) = false := by simp; omega
    by_cases hE : getFour (B.drop 4) = csum (B.take 4)
    · have ho : endOk B = true := by unfold endOk; rw [hE]; simp [h12]
      have he : endAt B = 12 + getFour B := by unfold endAt; rw [if_pos ho]
      have hg := getFour_lt hv.1
      have hne : (((getFour (B.drop 4) : Nat) : Int) != ((csum (B.take 4) : Nat) : Int)) = false := by rw [hE]; simp
      have HO := Lib.hid ho
      have HE := Lib.hid he
      clear hv hT hI4 hI5 hs4 hs5 hE ho he
      go_enter Tryz.func119, Tryz.ntmps119
      go_wp2_with fail
      go_quiet (first | (go_at_call 150; refine getFour_quiet _ _ _ _ HI4.out) | (go_at_call 126; refine sum_quiet _ _ _ _ HT.out HI5.out))
      go_wp2_with fail
      refine (getFour_quiet _ _ _ _ HV.out).mono ?_
      rintro e w2 ⟨rfl, m, rfl⟩
      go_wp2_with fail
      go_ret2
      exact ⟨by rw [HO.out, HE.out]; simp, m, rfl⟩
    · have ho : endOk B = false := by unfold endOk; simp [hE]
      have he : endAt B = 0 := by unfold endAt; rw [ho]; simp
      have hne : (((getFour (B.drop 4) : Nat) : Int) != ((csum (B.take 4) : Nat) : Int)) = true := by simp; omega
      have HO := Lib.hid ho
      have HE := Lib.hid he
      clear hv hT hI4 hI5 hs4 hs5 hE ho he
      go_enter Tryz.func119, Tryz.ntmps119
      go_wp2_with fail
      go_quiet (first | (go_at_call 150; refine getFour_quiet _ _ _ _ HI4.out) | (go_at_call 126; refine sum_quiet _ _ _ _ HT.out HI5.out))
      go_wp2_with fail
      go_ret2
      exact ⟨by rw [HO.out, HE.out]; rfl, nq, rfl⟩
  · have ho : endOk B = false := by unfold endOk; simp [h12]
    have he : endAt B = 0 := by unfold endAt; rw [ho]; simp
    have hlt : decide ((B.length : Int) < 12) = true := by simp; omega
    have HO := Lib.hid ho
    have HE := Lib.hid he
    clear hv hT ho he
    go_enter Tryz.func119, Tryz.ntmps119
    go_wp2_with fail
    go_quiet (fail)
    go_wp2_with fail
    go_ret2
    exact ⟨by rw [HO.out, HE.out]; rfl, nq, rfl⟩

theorem eq_nat (a b : Nat) : (((a : Nat) : Int) == ((b : Nat) : Int)) = (a == b) := by
  rw [Bool.eq_iff_iff]
  simp
  omega
def HoldsPost (B : List Nat) (w : World) (e : Ending) (w' : World) : Prop := e = .returned (.bool (bodyOk B)) ∧ ∃ m, w' = w.drewN m
theorem bodyHolds_any (v : Value) (B : List Nat) (w : World) (hT : Tab w) (hv : IsBytes w v B) (h12 : 12 ≤ B.length) : Calls Tryz.prog 120 #[v] w (HoldsPost B w) := by
  obtain ⟨a, cap, rfl, hcap, hmax⟩ := hv.slice
  unfold maxLen at hmax
  obtain ⟨a4, c4, hs4, hI4⟩ := run_from hv 8 (by omega)
  obtain ⟨a5, c5, hs5, hI5⟩ := run_from hv 12 (by omega)
  have hs4' : ∀ W, (sliceU8 (.slice a B.length cap) (some (.int .i64 8)) none none).run Tryz.prog W = .ok (.slice a4 (B.length - 8) c4) W := hs4
  have hs5' : ∀ W, (sliceU8 (.slice a B.length cap) (some (.int .i64 12)) none none).run Tryz.prog W = .ok (.slice a5 (B.length - 12) c5) W := hs5
  have HT := Lib.hid hT
  have HI4 := Lib.hid hI4
  have HI5 := Lib.hid hI5
  clear hv hT hI4 hI5 hs4 hs5
  go_enter Tryz.func120, Tryz.ntmps120
  go_wp2_with fail
  go_quiet (first | (go_at_call 150; refine getFour_quiet _ _ _ _ HI4.out) | (go_at_call 126; refine sum_quiet _ _ _ _ HT.out HI5.out))
  go_wp2_with fail
  go_ret
  exact ⟨congrArg (fun b => Ending.returned (.bool b)) (eq_nat _ _), nq, rfl⟩

set_option maxHeartbeats 1000000 in
theorem clone_any (v : Value) (B : List Nat) (w : World) (hv : IsBytes w v B) (hl : B.length ≤ 4294967296) : Calls Tryz.prog 48 #[v] w (MadePost B w) := by
  obtain ⟨a, cap, rfl, hcap, hmax⟩ := hv.slice
  unfold maxLen at hmax
  have HV := Lib.hid hv
  cases a with
  | none =>
    have hB : B = [] := by
      obtain ⟨_, ⟨_, hB⟩ | ⟨x, c, he, _⟩⟩ := hv
      · exact hB
      · simp at he
    subst hB
    have hc : cap = 0 := by
      obtain ⟨_, ⟨he, _⟩ | ⟨x, c, he, _⟩⟩ := hv
      · simpa using he
      · simp at he
    subst hc
    clear hv HV
    have he : ∀ w : World, (binOp .eql 23 (.slice none 0 0) (.slice none 0 0)).run Tryz.prog w = .ok (.bool true) w := fun _ => rfl
    go_enter Tryz.func48, Tryz.ntmps48
    go_wp2_with fail
    go_ret
    exact ⟨_, rfl, own_nil _ _, Below.refl _ _⟩
  | some x =>
    clear hv
    have he : ∀ w : World, (binOp .eql 23 (.slice (some x) B.length cap) (.slice none 0 0)).run Tryz.prog w = .ok (.bool false) w := fun _ => rfl
    go_enter Tryz.func48, Tryz.ntmps48
    have hA : Below w.heap.size w (w.alloc (.cells #[] 5)) := (Below.refl _ _).alloc (Nat.le_refl _) _
    have HA := Lib.hid hA
    have hsz := hA.size
    have hO : (w.alloc (.cells #[] 5)).ownsRow w.heap.size 5 1 (.slice (some ⟨w.heap.size, 0, none⟩) 0 0) 0 [] := own_new w [] 5 (Nat.le_refl _) (by unfold maxLen; simp)
    have HO := Lib.hid hO
    have HV1 := Lib.hid (HV.out.below hA)
    clear hA hO HV
    go_wp2_with (at_builtin; refine wpList_append_bytes rfl (.tmp 5) (.tmp 6) rfl w.heap.size _ 0 [] rfl HO.out _ B rfl HV1.out (by omega) hsz ?_; intro v' w1 hown hgr)
    go_ret
    exact ⟨v', rfl, by simpa using hown, HA.out.grown hgr hsz (own_lt HO.out)⟩

def openOk (B : List Nat) : Bool := endOk B && (endAt B == B.length) && bodyOk B
def OpenPost (B : List Nat) (w : World) (e : Ending) (w' : World) : Prop :=
  ∃ v', e = .returned (.tuple #[v', .bool (openOk B)]) ∧ Below w.heap.size w w' ∧ IsBytes w' v' (if openOk B then B.drop 12 else [])
end Go.Proofs.YtdjkkohckfndkaaGreatDoor.S3

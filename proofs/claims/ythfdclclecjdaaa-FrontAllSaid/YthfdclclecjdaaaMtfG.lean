/- foliolaw4.begun: a contract. -/
import Derived.Test.YthfdclclecjdaaaMtfF
import Derived.Test.YthfdclclecjdaaaStrs
import Derived.Test.YthfdclclecjdaaaCutB
import Derived.Lib.SlBytesConst
set_option linter.unusedSimpArgs false
set_option linter.unusedVariables false
namespace Go.Proofs.Ythfdclclecjdaaa
open Go.RowKit Pl
namespace Pl
theorem enc_aab : enc [97, 97, 98] = [97, 0, 98] := by decide +kernel
theorem enc_nil : enc [] = [] := rfl
theorem dec_aab : dec [97, 0, 98] = [97, 97, 98] := by rw [← enc_aab, dec_enc (by simp)]
end Pl
theorem encode_s {v : Value} {B : List Nat} {w : World} {n : Nat} (hv : IsBytes w v B) (hB : B.length ≤ 4294967296) (hn : B.length = n) :
    Calls Try.prog 9 #[v] w fun e w' => ∃ sp cap, e = .returned (.slice sp n cap) ∧ IsBytes w' (.slice sp n cap) (enc B) ∧ Below w.heap.size w w' :=
  (encode_any v B w hv hB).mono fun e w' h => by
    obtain ⟨sp, cap, rfl, ho, hb⟩ := h.s
    rw [enc_length, hn] at ho ⊢
    exact ⟨sp, cap, rfl, isBytes_ownS (enc_lt hv.1) (by rw [enc_length, hn]) (by rw [enc_length, hn]; exact ho), hb⟩
theorem decode_s {v : Value} {B : List Nat} {w : World} {n : Nat} (hv : IsBytes w v B) (hB : B.length ≤ 4294967296) (hn : B.length = n) :
    Calls Try.prog 11 #[v] w fun e w' => ∃ sp cap, e = .returned (.slice sp n cap) ∧ IsBytes w' (.slice sp n cap) (dec B) ∧ Below w.heap.size w w' :=
  (decode_any v B w hv hB).mono fun e w' h => by
    obtain ⟨sp, cap, rfl, ho, hb⟩ := h.s
    rw [dec_length, hn] at ho ⊢
    exact ⟨sp, cap, rfl, isBytes_ownS (dec_lt hv.1) (by rw [dec_length, hn]) (by rw [dec_length, hn]; exact ho), hb⟩

attribute [local go_sem ↓] conv_eq
set_option maxHeartbeats 2000000 in
theorem begun_any (w : World) : Calls Try.prog 7 #[] w fun e w' => e = .returned (.bool true) ∧ Below w.heap.size w w' := by
  have hA : Below w.heap.size w (w.alloc (.cells #[.int .u8 97, .int .u8 97, .int .u8 98] 5 (3, 4))) := (Below.refl _ _).alloc (Nat.le_refl _) _
  have HI0 : Hid (IsBytes (w.alloc (.cells #[.int .u8 97, .int .u8 97, .int .u8 98] 5 (3, 4))) (.slice (some ⟨w.heap.size, 0, none⟩) 3 3) [97, 97, 98]) := Lib.hid (isBytes_mark w [97, 97, 98] _ (by simp) (by simp [maxLen]))
  have HA := Lib.hid hA
  have kc := fun (w : World) (C : Array Value) (n c : Nat) => Lib.run_convert_bytes_const (P := Try.prog) w 22 5 C n c Try.underlying22 Try.underlying5
  clear hA
  go_enter Try.func7, Try.ntmps7
  go_wp2_with fail
  refine (encode_s (n := 3) HI0.out (by simp) rfl).mono ?_
  rintro e w1 ⟨sp1, cp1, rfl, hi1, hb1⟩
  rw [enc_aab] at hi1
  obtain ⟨bb, off, cap', hs, _, _, _, hc⟩ := hi1.cells (by simp)
  simp at hs
  obtain ⟨rfl, rfl⟩ := hs
  have c0 := hc 0 (by simp)
  have c1 := hc 1 (by simp)
  have c2 := hc 2 (by simp)
  simp at c0 c1 c2
  have HI1 := Lib.hid hi1
  have HB1 := Lib.hid (HA.out.trans (hb1.mono HA.out.size))
  clear hi1 hb1 hc HI0 HA
  go_wp2_with fail
  refine (decode_s (n := 3) HI1.out (by simp) rfl).mono ?_
  rintro e w2 ⟨sp2, cp2, rfl, hi2, hb2⟩
  rw [dec_aab] at hi2
  have hj2 := run_conv hi2
  rw [show str [97, 97, 98] = { data := #[97, 97, 98] } from rfl] at hj2
  have HB2 := Lib.hid (HB1.out.trans (hb2.mono HB1.out.size))
  clear hi2 hb2 HI1 HB1 c0 c1 c2
  go_wp2_with fail
  refine (encode_s (n := 0) (isBytes_nil w2) (by simp) rfl).mono ?_
  rintro e w3 ⟨sp3, cp3, rfl, hi3, hb3⟩
  have HB3 := Lib.hid (HB2.out.trans (hb3.mono HB2.out.size))
  clear hi3 hb3 HB2 hj2
  go_wp2_with fail
  go_ret
  exact ⟨rfl, HB3.out⟩
end Go.Proofs.Ythfdclclecjdaaa

/- bwt.Back by what it answers, foliolaw9.begun: contracts. -/
import Derived.Test.YtklpmpniempmcaaBwtB
import Derived.Test.YtklpmpniempmcaaBwtC
import Derived.Test.YtklpmpniempmcaaCutB
import Derived.Test.YtklpmpniempmcaaStrs
import Derived.Lib.SlBytesConst
set_option linter.unusedSimpArgs false
set_option linter.unusedVariables false
namespace Go.Proofs.Ytklpmpniempmcaa
open Go.RowKit Pl
theorem bk_lt {l : List Nat} (h : ∀ x ∈ l, x < 256) (a : Nat) : ∀ x ∈ bk l a, x < 256 := by
  intro x hx
  unfold bk at hx
  obtain ⟨o, _, rfl⟩ := List.mem_map.1 hx
  exact getD_lt h _
theorem isBytes_blk {w : World} {g n : Nat} {B : List Nat} (hx : ∀ x ∈ B, x < 256) (hn : B.length = n) (hm : n ≤ maxLen) (h : Blk w g 5 (u8s B)) : IsBytes w (.slice (some ⟨g, 0, none⟩) n n) B := by
  subst hn
  refine ⟨hx, .inr ⟨⟨g, 0, none⟩, B.length, rfl, Nat.le_refl _, hm, fun i u hu => ?_⟩⟩
  have hadd : (⟨g, 0, none⟩ : Addr).add i = ⟨g, i, none⟩ := by unfold Addr.add; split <;> simp_all
  rw [hadd]
  exact h.cell hu
/-- back from a text's transform -/
theorem back_fw {v : Value} {B R l : List Nat} {a N : Nat} {w : World} (hR : IsSA B R) (hl : fwL B (B.length :: R) = l) (ha : fwAt (B.length :: R) = a) (hv : IsBytes w v l) (hx : ∀ x ∈ B, x < 256) (hN : B.length = N) (hB : N ≤ 900000) :
    Calls Try.prog 19 #[v, .int .i64 a] w fun e w' => ∃ g, e = .returned (.tuple #[.slice (some ⟨g, 0, none⟩) N N, .int .i64 0]) ∧ IsBytes w' (.slice (some ⟨g, 0, none⟩) N N) B ∧ Below w.heap.size w w' := by
  have hll : l.length = N := by rw [← hl, fw_length hR, hN]
  obtain ⟨h1, h2, h3⟩ := fw_ok hR hl ha
  refine (back_any v l a N w hv hll (by omega) (by rw [hll] at h1; exact h1)).mono ?_
  rintro e w' ⟨hb, ⟨hok, g, hg, rfl, hblk⟩ | ⟨hbad, _⟩⟩
  · rw [h3] at hblk
    exact ⟨g, rfl, isBytes_blk hx hN (by unfold maxLen; omega) hblk, hb⟩
  · rw [h2] at hbad; simp at hbad
namespace Pl
theorem banana_sa : IsSA [98, 97, 110, 97, 110, 97] [5, 3, 1, 0, 4, 2] := ⟨by unfold Rises; decide, fun i => by simp; omega⟩
theorem fw_banana : fwL [98, 97, 110, 97, 110, 97] ([98, 97, 110, 97, 110, 97].length :: [5, 3, 1, 0, 4, 2]) = [97, 110, 110, 98, 97, 97] := by decide
theorem at_banana : fwAt ([98, 97, 110, 97, 110, 97].length :: [5, 3, 1, 0, 4, 2]) = 4 := by decide
theorem ok_ab : okW [97, 98] 0 = false := by decide
end Pl
attribute [local go_sem ↓] conv_eq
set_option maxHeartbeats 4000000 in
theorem begun9_any (w : World) : Calls Try.prog 16 #[] w fun e w' => e = .returned (.bool true) ∧ Below w.heap.size w w' := by
  have kc := fun (w : World) (C : Array Value) (n c : Nat) => Lib.run_convert_bytes_const (P := Try.prog) w 22 5 C n c Try.underlying22 Try.underlying5
  have HI0 : Hid (IsBytes (w.alloc (.cells #[.int .u8 98, .int .u8 97, .int .u8 110, .int .u8 97, .int .u8 110, .int .u8 97] 5 (6, 7))) (.slice (some ⟨w.heap.size, 0, none⟩) 6 6) [98, 97, 110, 97, 110, 97]) := Lib.hid (isBytes_mark w [98, 97, 110, 97, 110, 97] _ (by simp) (by simp [maxLen]))
  have HA : Hid (Below w.heap.size w (w.alloc (.cells #[.int .u8 98, .int .u8 97, .int .u8 110, .int .u8 97, .int .u8 110, .int .u8 97] 5 (6, 7)))) := Lib.hid ((Below.refl _ _).alloc (Nat.le_refl _) _)
  go_enter Try.func16, Try.ntmps16
  go_wp2_with fail
  refine (forward_any _ _ 6 _ HI0.out rfl (by omega)).mono ?_
  rintro e w1 ⟨R, sp1, c1, p, rfl, hR, hat, hi1, hb1⟩
  obtain rfl := sa_unique hR banana_sa
  have hat : fwAt ([98, 97, 110, 97, 110, 97].length :: [5, 3, 1, 0, 4, 2]) = p := hat
  rw [at_banana] at hat
  subst hat
  have hi1 : IsBytes w1 (.slice sp1 6 c1) (fwL [98, 97, 110, 97, 110, 97] ([98, 97, 110, 97, 110, 97].length :: [5, 3, 1, 0, 4, 2])) := hi1
  rw [fw_banana] at hi1
  have HI1 := Lib.hid hi1
  have HB1 := Lib.hid (HA.out.trans (hb1.mono HA.out.size))
  have HX := Lib.hid HI0.out.1
  clear hR hi1 hb1 HI0 HA
  go_wp2_with fail
  refine (back_fw (N := 6) (a := 4) banana_sa fw_banana at_banana HI1.out HX.out rfl (by omega)).mono ?_
  rintro e w2 ⟨g2, rfl, hi2, hb2⟩
  have HI2 := Lib.hid hi2
  have HJ2 := Lib.hid (HI1.out.below hb2)
  have HB2 := Lib.hid (HB1.out.trans (hb2.mono HB1.out.size))
  clear hi2 hb2 HI1 HB1 HX
  have HK2 : Hid (IsBytes (w2.alloc (.cells #[.int .u8 97, .int .u8 98] 5 (2, 3))) (.slice (some ⟨w2.heap.size, 0, none⟩) 2 2) [97, 98]) := Lib.hid (isBytes_mark w2 [97, 98] _ (by simp) (by simp [maxLen]))
  have HA2 : Hid (Below w2.heap.size w2 (w2.alloc (.cells #[.int .u8 97, .int .u8 98] 5 (2, 3)))) := Lib.hid ((Below.refl _ _).alloc (Nat.le_refl _) _)
  have hbk := back_any _ [97, 98] 0 2 _ HK2.out rfl (by omega) (by omega)
  have HBK := Lib.hid hbk
  clear hbk
  go_wp2_with fail
  refine HBK.out.mono ?_
  rintro e w3 ⟨hb3, ⟨hok, _⟩ | ⟨hbad, rfl⟩⟩
  · rw [ok_ab] at hok; simp at hok
  have hb23 : Below w2.heap.size w2 w3 := HA2.out.trans (hb3.mono (by simp))
  have HB3 := Lib.hid (HB2.out.trans (hb23.mono HB2.out.size))
  have hj := run_conv (HJ2.out.below hb23)
  have hk := run_conv (HI2.out.below hb23)
  rw [show str [97, 110, 110, 98, 97, 97] = { data := #[97, 110, 110, 98, 97, 97] } from rfl] at hj
  rw [show str [98, 97, 110, 97, 110, 97] = { data := #[98, 97, 110, 97, 110, 97] } from rfl] at hk
  clear hb3 hb23 hbad HBK HK2 HA2 HJ2 HI2 HB2
  go_wp2_with fail
  go_ret
  exact ⟨rfl, HB3.out⟩
end Go.Proofs.Ytklpmpniempmcaa

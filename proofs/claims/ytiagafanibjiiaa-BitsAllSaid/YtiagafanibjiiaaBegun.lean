/- The law's own opening: five bits are written and read: it answers true and leaves what was there. -/
import Derived.Test.YtiagafanibjiiaaBitsF
namespace Go.Proofs.Ytiagafanibjiiaa
open Go.RowKit Pl

def build29S (v : Array (Nat × Value)) : Sem Value := Instr.build 29 v
theorem build29_eq (v : Array (Nat × Value)) : Instr.build 29 v = build29S v := rfl
theorem run_build29 (w : World) : (build29S #[]).run Try.prog w = .ok (.agg (wcells none []).toArray) w := by kernel_rfl
attribute [local go_sem ↓] build29_eq
attribute [local go_sem] run_build29

theorem isBytes_new {w : World} {g n : Nat} {L : List Bool} (h : Blk w g 5 (u8s (bytesOf L))) (hn : n = (L.length + 7) / 8) (hL : L.length < 17179869184) : IsBytes w (.slice (some ⟨g, 0, none⟩) n n) (bytesOf L) := by
  subst hn
  refine ⟨?_, .inr ⟨⟨g, 0, none⟩, (L.length + 7) / 8, by rw [bytesOf_length], by rw [bytesOf_length]; exact Nat.le_refl _, by unfold maxLen; omega, ?_⟩⟩
  · intro x hx
    simp only [bytesOf, List.mem_map] at hx
    obtain ⟨i, _, rfl⟩ := hx
    exact byteAt_lt _ _
  · intro i u hu
    have hadd : (⟨g, 0, none⟩ : Addr).add i = ⟨g, i, none⟩ := by unfold Addr.add; split <;> simp_all
    rw [hadd]
    exact h.cell hu

theorem bits5 : bitsOf (5 : Int).toNat 3 = [true, false, true] := by decide
theorem bytes5 : bytesOf [true, false, true] = [160] := by decide
theorem take5 : take [160] 0 3 = 5 := by decide

set_option maxHeartbeats 1000000 in
theorem begun_any (w : World) : Calls Try.prog 10 #[] w fun e w' => e = .returned (.bool true) ∧ Below w.heap.size w w' := by
  go_enter Try.func10, Try.ntmps10
  go_wp2_with fail
  have hw0 := Wr.fresh w
  have HW0 := Lib.hid hw0
  clear hw0
  refine (put_any w.heap.size [] 5 3 _ (U64.small (by omega) (by omega)) HW0.out (by decide) (by omega)).mono ?_
  rintro e w1 ⟨rfl, hw1, hg1⟩
  rw [List.nil_append, bits5] at hw1
  have hb1 : Below w.heap.size w w1 := ((Below.refl _ _).alloc (Nat.le_refl _) _).trans (hg1.below (by simp) (Nat.le_refl _))
  have HW1 := Lib.hid hw1
  have HB1 := Lib.hid hb1
  clear hw1 hg1 hb1 HW0
  go_wp2_with fail
  refine (bytes_any w.heap.size _ _ HW1.out (by decide)).mono ?_
  rintro e w2 ⟨rfl, hk2, hb2⟩
  rw [bytes5] at hk2
  have HW2 := Lib.hid (HW1.out.below hb2)
  have HB2 := Lib.hid (HB1.out.trans (hb2.mono HB1.out.size))
  have HK2 : Hid (IsBytes w2 (.slice (some ⟨w1.heap.size, 0, none⟩) 1 1) [160]) := Lib.hid (by rw [← bytes5] at hk2 ⊢; exact isBytes_new hk2 rfl (by decide))
  clear HW1 HB1 hk2 hb2
  go_wp2_with fail
  refine (read_any _ [160] _ HK2.out (by decide)).mono ?_
  rintro e w3 ⟨r, rfl, hr, hb3⟩
  have HW3 := Lib.hid (HW2.out.below hb3)
  have HB3 := Lib.hid (HB2.out.trans (hb3.mono HB2.out.size))
  have HR3 := Lib.hid hr
  have hrb : w.heap.size ≤ r := Nat.le_trans HB2.out.size hr.1
  clear HW2 HB2 HK2 hr hb3
  go_wp2_with fail
  refine (get_any r _ [160] 0 3 _ HR3.out (by omega) (by decide)).mono ?_
  rintro e w4 ⟨rfl, hr, hg4⟩
  rw [take5]
  obtain ⟨_, _, _, _, _, _, hrb3, _⟩ := HR3.out
  have HW4 := Lib.hid (HW3.out.grown hg4 hrb3 (by decide) (by decide))
  have HB4 := Lib.hid (HB3.out.trans (hg4.below HB3.out.size hrb))
  have HR4 := Lib.hid hr
  clear HW3 HB3 HR3 hr hg4 hrb3
  go_wp2_with fail
  refine (bytes_any w.heap.size _ _ HW4.out (by decide)).mono ?_
  rintro e w5 ⟨rfl, hk5, hb5⟩
  have HW5 := Lib.hid (HW4.out.below hb5)
  have HB5 := Lib.hid (HB4.out.trans (hb5.mono HB4.out.size))
  have HR5 := Lib.hid (HR4.out.below hb5)
  clear HW4 HB4 HR4 hb5 hk5
  go_wp2_with fail
  refine (bytes_any w.heap.size _ _ HW5.out (by decide)).mono ?_
  rintro e w6 ⟨rfl, hk6, hb6⟩
  rw [bytes5] at hk6
  have HW6 := Lib.hid (HW5.out.below hb6)
  have HB6 := Lib.hid (HB5.out.trans (hb6.mono HB5.out.size))
  have HR6 := Lib.hid (HR5.out.below hb6)
  have c6 : w6.cell? ⟨w5.heap.size, 0, none⟩ = some (.int .u8 160) := hk6.cell (o := 0) rfl
  clear HW5 HB5 HR5 hb6 hk6
  go_wp2_with fail
  refine (len_any w.heap.size _ _ HW6.out).mono ?_
  rintro e w7 ⟨rfl, rfl⟩
  go_wp2_with fail
  refine (left_any r _ _ _ _ HR6.out).mono ?_
  rintro e w7 ⟨rfl, k, rfl⟩
  go_wp2_with fail
  refine (put_bad w.heap.size 1 65 _ (by omega)).mono ?_
  rintro e w7 ⟨rfl, rfl⟩
  go_wp2_with fail
  go_ret
  exact ⟨rfl, bel_drewN HB6.out k⟩
end Go.Proofs.Ytiagafanibjiiaa

/- A slice expression on bytes as one closed step of the walk. -/
import Derived.Test.YthgpdnffahmhjaaBytes
namespace Go.Proofs.Ythgpdnffahmhjaa
open Go.RowKit

def sliceU8 (x : Value) (lo hi mx : Option Value) : Sem Value := Instr.sliceAt 62 x lo hi mx
theorem sliceU8_eq (x : Value) (lo hi mx : Option Value) : Instr.sliceAt 62 x lo hi mx = sliceU8 x lo hi mx := rfl
theorem elem_u8s : Try.prog.elem 62 = 5 := by kernel_rfl
theorem und_u8s : Try.prog.underlying 62 = some (.slice (Try.prog.elem 62)) := by rw [elem_u8s]; exact Try.underlying62
theorem run_size_u8 (w : World) : (sizeOf (Try.prog.elem 62)).run Try.prog w = .ok 1 w := by
  obtain ⟨i0, hi, hz0, hz1, hz2⟩ := info_parts info5
  rw [elem_u8s]
  simp [sizeOf, typeInfo, hi, hz1]
theorem isBytes_sliced {w : World} {a : Option Addr} {cap : Nat} {B : List Nat} (h : IsBytes w (.slice a B.length cap) B) (k n : Nat) (hk : k + n ≤ B.length) :
    IsBytes w (sliced a k (k + n) cap 1) ((B.drop k).take n) := by
  unfold sliced
  rw [Nat.mul_one, Nat.add_sub_cancel_left]
  by_cases e : cap = k
  · obtain ⟨_, _, hs, h1, _⟩ := h.slice
    simp at hs
    obtain ⟨rfl, rfl⟩ := hs
    have hb : B.length = cap := by omega
    have hn : n = 0 := by omega
    subst hn
    rw [if_pos e, e, Nat.sub_self, List.take_zero]
    rw [hb] at h
    rw [← hb] at h
    exact h.none_left
  · rw [if_neg e]
    exact h.sub k n hk
theorem run_from {w : World} {v : Value} {B : List Nat} (hv : IsBytes w v B) (k : Nat) (hk : k ≤ B.length) :
    ∃ a c, (∀ W, (sliceU8 v (some (.int .i64 k)) none none).run Try.prog W = .ok (.slice a (B.length - k) c) W) ∧ IsBytes w (.slice a (B.length - k) c) (B.drop k) := by
  obtain ⟨a, cap, rfl, hcap, hmax⟩ := hv.slice
  refine ⟨if cap = k then a else a.map (·.add (k * 1)), cap - k, ?_, ?_⟩
  rotate_left
  · have := isBytes_sliced hv k (B.length - k) (by omega)
    rw [List.take_of_length_le (by simp)] at this
    unfold sliced at this
    rw [Nat.add_sub_cancel_left] at this
    exact this
  · intro W
    unfold sliceU8
    rw [run_sliceAt_slice _ _ _ _ _ _ und_u8s, run_slice_l _ _ _ _ _ und_u8s _ _ (by omega) (by omega), run_size_u8, Int.toNat_natCast]
    rfl
theorem run_between {w : World} {v : Value} {B : List Nat} (hv : IsBytes w v B) (k n : Nat) (hk : k + n ≤ B.length) (h : Int) (hh : h = (k : Int) + n) :
    ∃ a c, (∀ W, (sliceU8 v (some (.int .i64 k)) (some (.int .i64 h)) none).run Try.prog W = .ok (.slice a n c) W) ∧ IsBytes w (.slice a n c) ((B.drop k).take n) := by
  obtain ⟨a, cap, rfl, hcap, hmax⟩ := hv.slice
  subst hh
  refine ⟨if cap = k then a else a.map (·.add (k * 1)), cap - k, ?_, ?_⟩
  rotate_left
  · have := isBytes_sliced hv k n hk
    unfold sliced at this
    rw [Nat.add_sub_cancel_left] at this
    exact this
  · intro W
    unfold sliceU8
    rw [run_sliceAt_slice _ _ _ _ _ _ und_u8s, run_slice_lh _ _ _ _ _ und_u8s _ _ _ _ (by omega) (by omega) (by omega), run_size_u8, Int.toNat_natCast, show ((k : Int) + n).toNat = k + n by omega]
    simp only [Result.andThen, sliced, Nat.add_sub_cancel_left]
theorem run_upto {w : World} {v : Value} {B : List Nat} (hv : IsBytes w v B) (n : Nat) (hn : n ≤ B.length) :
    ∃ a c, (∀ W, (sliceU8 v none (some (.int .i64 n)) none).run Try.prog W = .ok (.slice a n c) W) ∧ IsBytes w (.slice a n c) (B.take n) := by
  obtain ⟨a, cap, rfl, hcap, hmax⟩ := hv.slice
  refine ⟨if cap = 0 then a else a.map (·.add (0 * 1)), cap, ?_, ?_⟩
  rotate_left
  · have := isBytes_sliced hv 0 n (by omega)
    unfold sliced at this
    simp only [Nat.zero_add, Nat.sub_zero, List.drop_zero] at this
    exact this
  · intro W
    unfold sliceU8
    rw [run_sliceAt_slice _ _ _ _ _ _ und_u8s, run_slice_h _ _ _ _ _ und_u8s _ _ (by omega) (by omega), run_size_u8, Int.toNat_natCast]
    simp only [Result.andThen, sliced, Nat.sub_zero]
end Go.Proofs.Ythgpdnffahmhjaa

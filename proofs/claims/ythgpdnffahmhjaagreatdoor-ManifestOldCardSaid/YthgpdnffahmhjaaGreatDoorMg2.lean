/- Texts put together: Made, Strs, CutB, Slice, Blobs, Ints, Rec. -/
import Derived.Test.YthgpdnffahmhjaaGreatDoorMg1
import Derived.Deep.Slices
import Derived.ChangeSlices
import Derived.ChangeArms
set_option linter.unusedSimpArgs false
set_option linter.unusedVariables false
set_option maxRecDepth 100000
namespace Go.Proofs.YthgpdnffahmhjaaGreatDoor
open Go.RowKit

namespace Pl
def four (n : Nat) : List Nat := [n % 256, n / 256 % 256, n / 65536 % 256, n / 16777216 % 256]
theorem four_lt (n : Nat) : ∀ x ∈ four n, x < 256 := by intro x hx; simp [four] at hx; omega
theorem four_length (n : Nat) : (four n).length = 4 := rfl
def getFour (B : List Nat) : Nat := if B.length < 4 then 0 else B.getD 0 0 + 256 * B.getD 1 0 + 65536 * B.getD 2 0 + 16777216 * B.getD 3 0
theorem getFour_four (n : Nat) (h : n < 4294967296) (R : List Nat) : getFour (four n ++ R) = n := by
  unfold getFour
  rw [if_neg (by simp [four])]
  simp [four]
  omega
theorem getFour_lt {B : List Nat} (h : ∀ x ∈ B, x < 256) : getFour B < 4294967296 := by
  unfold getFour
  split
  · omega
  · have := @getD_lt
    have a := this h 0
    have b := this h 1
    have c := this h 2
    have d := this h 3
    omega
end Pl
open Pl
theorem beq_t {a b : Int} (h : a = b) : (a == b) = true := by subst h; simp
theorem beq_f {a b : Int} (h : a ≠ b) : (a == b) = false := by simpa using h
theorem bne_t {a b : Int} (h : a ≠ b) : (a != b) = true := by simpa using h
theorem bne_f {a b : Int} (h : a = b) : (a != b) = false := by subst h; simp
theorem IsBytes.cells {w : World} {v : Value} {B : List Nat} (h : IsBytes w v B) (h0 : 0 < B.length) : ∃ b off cap, v = .slice (some ⟨b, off, none⟩) B.length cap ∧ B.length ≤ cap ∧ cap ≤ maxLen ∧ b < w.heap.size ∧ (∀ i, i < B.length → w.cell? ⟨b, off + i, none⟩ = some (.int .u8 (B.getD i 0 : Nat))) := by
  obtain ⟨hx, ⟨rfl, rfl⟩ | ⟨a, cap, rfl, h1, h2, hc⟩⟩ := h
  · simp at h0
  · obtain ⟨b, off, spot⟩ := a
    have hc0 := hc 0 _ (u8s_get B 0 h0)
    have hspot : spot = none := by simpa [Addr.add] using World.cell?_spot hc0
    subst hspot
    refine ⟨b, off, cap, rfl, h1, h2, World.block_lt_of_cell? w _ hc0, fun i hi => ?_⟩
    have := hc i _ (u8s_get B i hi)
    have hadd : (⟨b, off, none⟩ : Addr).add i = ⟨b, off + i, none⟩ := by unfold Addr.add; split <;> simp_all
    rwa [hadd] at this
theorem MadePost.own {B : List Nat} {w w' : World} {v : Value} (h : MadePost B w (.returned v) w') : w'.ownsRow w.heap.size 5 1 v B.length (u8s B) ∧ Below w.heap.size w w' := by
  obtain ⟨v', he, h1, h2⟩ := h
  cases he
  exact ⟨h1, h2⟩
def MadeS (B : List Nat) (w : World) (e : Ending) (w' : World) : Prop :=
  ∃ sp cap, e = .returned (.slice sp B.length cap) ∧ w'.ownsRow w.heap.size 5 1 (.slice sp B.length cap) B.length (u8s B) ∧ Below w.heap.size w w'
theorem MadePost.s {B : List Nat} {w w' : World} {e : Ending} (h : MadePost B w e w') : MadeS B w e w' := by
  obtain ⟨v', rfl, h1, h2⟩ := h
  obtain ⟨sp, cap, rfl, _, _⟩ := ownsRow_slice h1
  exact ⟨sp, cap, rfl, h1, h2⟩
theorem isBytes_nil (w : World) : IsBytes w (.slice none 0 0) [] := ⟨by simp, .inl ⟨rfl, rfl⟩⟩
theorem made_four {w : World} {c0 c1 c2 c3 : Int} {n : Nat} (h0 : c0 = ((n % 256 : Nat) : Int)) (h1 : c1 = ((n / 256 % 256 : Nat) : Int)) (h2 : c2 = ((n / 65536 % 256 : Nat) : Int)) (h3 : c3 = ((n / 16777216 % 256 : Nat) : Int)) :
    MadePost (four n) w (.returned (.slice (some ⟨w.heap.size, 0, none⟩) 4 4)) (w.alloc (.cells #[.int .u8 c0, .int .u8 c1, .int .u8 c2, .int .u8 c3] 5)) := by
  subst h0 h1 h2 h3
  exact ⟨_, rfl, own_new w (u8s (four n)) 5 (Nat.le_refl _) (by simp [u8s, four, maxLen]), (Below.refl _ _).alloc (Nat.le_refl _) _⟩
theorem or_step (k P a b : Nat) (hP : P = 2 ^ k) (ha : a < P) (hab : a + b * P < 4294967296) : bits BinOp.or IntKind.u32 (a : Int) ((b * P : Nat) : Int) = ((a + b * P : Nat) : Int) := by
  subst hP
  rw [u32_or_nat _ _ (by omega) (by omega), Nat.or_comm, nat_join k _ _ (Nat.mul_mod_left _ _) ha, Nat.add_comm]
theorem or_four (a b c d : Nat) (ha : a < 256) (hb : b < 256) (hc : c < 256) (hd : d < 256) :
    bits BinOp.or IntKind.u32 (bits BinOp.or IntKind.u32 (bits BinOp.or IntKind.u32 (a : Int) ((b : Int) * 256)) ((c : Int) * 65536)) ((d : Int) * 16777216) = ((a + 256 * b + 65536 * c + 16777216 * d : Nat) : Int) := by
  have h1 := or_step 8 256 a b rfl (by omega) (by omega)
  have h2 := or_step 16 65536 (a + b * 256) c (by decide +kernel) (by omega) (by omega)
  have h3 := or_step 24 16777216 (a + b * 256 + c * 65536) d (by decide +kernel) (by omega) (by omega)
  have e1 : ((b * 256 : Nat) : Int) = (b : Int) * 256 := by simp
  have e2 : ((c * 65536 : Nat) : Int) = (c : Int) * 65536 := by simp
  have e3 : ((d * 16777216 : Nat) : Int) = (d : Int) * 16777216 := by simp
  rw [e1] at h1
  rw [e2] at h2
  rw [e3] at h3
  rw [h1, h2, h3]
  omega
end Go.Proofs.YthgpdnffahmhjaaGreatDoor
namespace Go.Proofs.YthgpdnffahmhjaaGreatDoor
open Go.RowKit Pl
theorem isBytes_mark (w : World) (B : List Nat) (r : Nat × Nat) (hB : ∀ x ∈ B, x < 256) (hl : B.length ≤ maxLen) : IsBytes (w.alloc (.cells (u8s B).toArray 5 r)) (.slice (some ⟨w.heap.size, 0, none⟩) B.length B.length) B := by
  refine ⟨hB, .inr ⟨⟨w.heap.size, 0, none⟩, B.length, rfl, Nat.le_refl _, hl, fun i u hu => ?_⟩⟩
  have hadd : (⟨w.heap.size, 0, none⟩ : Addr).add i = ⟨w.heap.size, i, none⟩ := by unfold Addr.add; split <;> simp_all
  rw [hadd]
  have hh : (w.alloc (.cells (u8s B).toArray 5 r)).heap[w.heap.size]? = some (.cells (u8s B).toArray 5 r) := heap_alloc_new w _
  unfold World.cell?
  rw [hh]
  simpa using hu
def MadeC (S : ByteArray) (n : Nat) (w : World) (e : Ending) (w' : World) : Prop :=
  ∃ sp cap, e = .returned (.slice sp n cap) ∧ Hid (∀ w'', From w' w'' → (convS (.slice sp n cap)).run Tryz.prog w'' = .ok (.string S) w'') ∧ Hid (From w w')
theorem MadeS.c {B : List Nat} {w w' : World} {e : Ending} {n : Nat} (hx : ∀ x ∈ B, x < 256) (hn : B.length = n) (h : MadeS B w e w') : MadeC (str B) n w e w' := by
  subst hn
  obtain ⟨sp, cap, rfl, h1, h2⟩ := h
  exact ⟨sp, cap, rfl, Lib.hid fun w'' hb => run_conv ((isBytes_own hx h1).below hb), Lib.hid h2⟩
theorem MadePost.c {B : List Nat} {w w' : World} {e : Ending} {n : Nat} (hx : ∀ x ∈ B, x < 256) (hn : B.length = n) (h : MadePost B w e w') : MadeC (str B) n w e w' := h.s.c hx hn
def MadeI (B : List Nat) (n : Nat) (w : World) (e : Ending) (w' : World) : Prop :=
  ∃ sp cap, e = .returned (.slice sp n cap) ∧ Hid (IsBytes w' (.slice sp n cap) B) ∧ Hid (From w w')
theorem MadePost.i {B : List Nat} {w w' : World} {e : Ending} {n : Nat} (hx : ∀ x ∈ B, x < 256) (hn : B.length = n) (h : MadePost B w e w') : MadeI B n w e w' := by
  obtain ⟨sp, cap, rfl, h1, h2⟩ := h.s
  subst hn
  exact ⟨sp, cap, rfl, Lib.hid (isBytes_own hx h1), Lib.hid h2⟩
end Go.Proofs.YthgpdnffahmhjaaGreatDoor
namespace Go.Proofs.YthgpdnffahmhjaaGreatDoor
open Go.RowKit Pl
end Go.Proofs.YthgpdnffahmhjaaGreatDoor
namespace Go.Proofs.YthgpdnffahmhjaaGreatDoor
open Go.RowKit

def sliceU8 (x : Value) (lo hi mx : Option Value) : Sem Value := Instr.sliceAt 36 x lo hi mx
theorem sliceU8_eq (x : Value) (lo hi mx : Option Value) : Instr.sliceAt 36 x lo hi mx = sliceU8 x lo hi mx := rfl
theorem elem_u8s : Tryz.prog.elem 36 = 5 := by kernel_rfl
theorem und_u8s : Tryz.prog.underlying 36 = some (.slice (Tryz.prog.elem 36)) := by rw [elem_u8s]; exact Tryz.underlying36
theorem run_size_u8 (w : World) : (sizeOf (Tryz.prog.elem 36)).run Tryz.prog w = .ok 1 w := by
  obtain ⟨i0, hi, hz0, hz1, hz2⟩ := info_parts info5
  rw [elem_u8s]
  simp [sizeOf, typeInfo, hi, hz1]
theorem isBytes_sliced {w : World} {a : Option Addr} {cap : Nat} {B : List Nat} (h : IsBytes w (.slice a B.length cap) B) (k n : Nat) (hk : k + n ≤ B.length) :
    IsBytes w (sliced a k (k + n) cap 1) ((B.drop k).take n) := by
  unfold sliced
  rw [Nat.mul_one, Nat.add_sub_cancel_left]
  by_cases e : cap = k
  · obtain ⟨_, _, hs, h1, _⟩ := h.slice
    simp at hs
    obtain ⟨rfl, rfl⟩ := hs
    have hb : B.length = cap := by omega
    have hn : n = 0 := by omega
    subst hn
    rw [if_pos e, e, Nat.sub_self, List.take_zero]
    rw [hb] at h
    rw [← hb] at h
    exact h.none_left
  · rw [if_neg e]
    exact h.sub k n hk
theorem run_from {w : World} {v : Value} {B : List Nat} (hv : IsBytes w v B) (k : Nat) (hk : k ≤ B.length) :
    ∃ a c, (∀ W, (sliceU8 v (some (.int .i64 k)) none none).run Tryz.prog W = .ok (.slice a (B.length - k) c) W) ∧ IsBytes w (.slice a (B.length - k) c) (B.drop k) := by
  obtain ⟨a, cap, rfl, hcap, hmax⟩ := hv.slice
  refine ⟨if cap = k then a else a.map (·.add (k * 1)), cap - k, ?_, ?_⟩
  rotate_left
  · have := isBytes_sliced hv k (B.length - k) (by omega)
    rw [List.take_of_length_le (by simp)] at this
    unfold sliced at this
    rw [Nat.add_sub_cancel_left] at this
    exact this
  · intro W
    unfold sliceU8
    rw [run_sliceAt_slice _ _ _ _ _ _ und_u8s, run_slice_l _ _ _ _ _ und_u8s _ _ (by omega) (by omega), run_size_u8, Int.toNat_natCast]
    rfl
theorem run_between {w : World} {v : Value} {B : List Nat} (hv : IsBytes w v B) (k n : Nat) (hk : k + n ≤ B.length) (h : Int) (hh : h = (k : Int) + n) :
    ∃ a c, (∀ W, (sliceU8 v (some (.int .i64 k)) (some (.int .i64 h)) none).run Tryz.prog W = .ok (.slice a n c) W) ∧ IsBytes w (.slice a n c) ((B.drop k).take n) := by
  obtain ⟨a, cap, rfl, hcap, hmax⟩ := hv.slice
  subst hh
  refine ⟨if cap = k then a else a.map (·.add (k * 1)), cap - k, ?_, ?_⟩
  rotate_left
  · have := isBytes_sliced hv k n hk
    unfold sliced at this
    rw [Nat.add_sub_cancel_left] at this
    exact this
  · intro W
    unfold sliceU8
    rw [run_sliceAt_slice _ _ _ _ _ _ und_u8s, run_slice_lh _ _ _ _ _ und_u8s _ _ _ _ (by omega) (by omega) (by omega), run_size_u8, Int.toNat_natCast, show ((k : Int) + n).toNat = k + n by omega]
    simp only [Result.andThen, sliced, Nat.add_sub_cancel_left]
theorem run_upto {w : World} {v : Value} {B : List Nat} (hv : IsBytes w v B) (n : Nat) (hn : n ≤ B.length) :
    ∃ a c, (∀ W, (sliceU8 v none (some (.int .i64 n)) none).run Tryz.prog W = .ok (.slice a n c) W) ∧ IsBytes w (.slice a n c) (B.take n) := by
  obtain ⟨a, cap, rfl, hcap, hmax⟩ := hv.slice
  refine ⟨if cap = 0 then a else a.map (·.add (0 * 1)), cap, ?_, ?_⟩
  rotate_left
  · have := isBytes_sliced hv 0 n (by omega)
    unfold sliced at this
    simp only [Nat.zero_add, Nat.sub_zero, List.drop_zero] at this
    exact this
  · intro W
    unfold sliceU8
    rw [run_sliceAt_slice _ _ _ _ _ _ und_u8s, run_slice_h _ _ _ _ _ und_u8s _ _ (by omega) (by omega), run_size_u8, Int.toNat_natCast]
    simp only [Result.andThen, sliced, Nat.sub_zero]
end Go.Proofs.YthgpdnffahmhjaaGreatDoor
namespace Go.Proofs.YthgpdnffahmhjaaGreatDoor
open Go.RowKit Pl

theorem infoR : (Tryz.prog.info? 36).map (fun i => (i.zero, i.size, i.bytes)) = some (some (.slice none 0 0), 1, 24) := by kernel_rfl

theorem addr_add (b off i : Nat) : (⟨b, off, none⟩ : Addr).add i = ⟨b, off + i, none⟩ := by unfold Addr.add; split <;> simp_all
def IsRows (w : World) (v : Value) (L : List (List Nat)) : Prop :=
  ∃ (a : Option Addr) (cap : Nat) (Vs : List Value), v = .slice a L.length cap ∧ L.length ≤ cap ∧ cap ≤ maxLen ∧ Vs.length = L.length ∧ (∀ (i : Nat) (u : Value), Vs[i]? = some u → ∃ ad, a = some ad ∧ w.cell? (ad.add i) = some u) ∧ ∀ (i : Nat) (u : Value) (B : List Nat), Vs[i]? = some u → L[i]? = some B → IsBytes w u B
theorem IsRows.slice {w : World} {v : Value} {L : List (List Nat)} (h : IsRows w v L) : ∃ a cap, v = .slice a L.length cap ∧ L.length ≤ cap ∧ cap ≤ maxLen := by
  obtain ⟨a, cap, Vs, rfl, h1, h2, _⟩ := h
  exact ⟨a, cap, rfl, h1, h2⟩
theorem IsRows.at {w : World} {a : Option Addr} {n cap : Nat} {L : List (List Nat)} (h : IsRows w (.slice a n cap) L) {i : Nat} (hi : i < L.length) :
    ∃ b off a' c', a = some ⟨b, off, none⟩ ∧ b < w.heap.size ∧ w.cell? ⟨b, off + i, none⟩ = some (.slice a' (L.getD i []).length c') ∧ IsBytes w (.slice a' (L.getD i []).length c') (L.getD i []) := by
  obtain ⟨a0, cap0, Vs, hv, _, _, hlen, hcell, hby⟩ := h
  simp at hv
  obtain ⟨rfl, rfl, rfl⟩ := hv
  have hu : Vs[i]? = some (Vs[i]'(by omega)) := List.getElem?_eq_getElem (by omega)
  have hu0 : Vs[0]? = some (Vs[0]'(by omega)) := List.getElem?_eq_getElem (by omega)
  obtain ⟨ad, rfl, hc0⟩ := hcell 0 _ hu0
  obtain ⟨ad', he, hc⟩ := hcell i _ hu
  cases he
  have hB : L[i]? = some (L.getD i []) := by simp [List.getD, hi]
  have hb := hby i _ _ hu hB
  obtain ⟨b, off, spot⟩ := ad
  have hspot : spot = none := by simpa [Addr.add] using World.cell?_spot hc0
  subst hspot
  rw [addr_add] at hc
  obtain ⟨a', c', hs, _, _⟩ := hb.slice
  rw [hs] at hc hb
  exact ⟨b, off, a', c', rfl, World.block_lt_of_cell? w _ hc, hc, hb⟩
theorem IsRows.below {w w' : World} {v : Value} {L : List (List Nat)} (h : IsRows w v L) (hb : Below w.heap.size w w') : IsRows w' v L := by
  obtain ⟨a, cap, Vs, rfl, h1, h2, h3, h4, h5⟩ := h
  refine ⟨a, cap, Vs, rfl, h1, h2, h3, fun i u hu => ?_, fun i u B hu hB => (h5 i u B hu hB).below hb⟩
  obtain ⟨ad, rfl, hc⟩ := h4 i u hu
  exact ⟨ad, rfl, (hb.cell (p := ad.add i) (World.block_lt_of_cell? w _ hc)).trans hc⟩
theorem IsRows.drew {w : World} {v : Value} {L : List (List Nat)} (h : IsRows w v L) (n : Nat) : IsRows (w.drewN n) v L := h
theorem isRows_nil (w : World) : IsRows w (.slice none 0 0) [] := ⟨none, 0, [], rfl, Nat.le_refl _, by unfold maxLen; omega, rfl, by simp, by simp⟩
theorem IsRows.lt {w : World} {v : Value} {L : List (List Nat)} (h : IsRows w v L) : ∀ B ∈ L, ∀ x ∈ B, x < 256 := by
  obtain ⟨a, cap, Vs, rfl, h1, h2, h3, h4, h5⟩ := h
  intro B hB
  obtain ⟨i, hi, rfl⟩ := List.getElem_of_mem hB
  exact (h5 i Vs[i] L[i] (List.getElem?_eq_getElem (by omega)) (List.getElem?_eq_getElem hi)).1

def Elem (base : Nat) (w : World) (v : Value) (B : List Nat) : Prop :=
  IsBytes w v B ∧ ∀ a n c, v = .slice (some a) n c → 0 < B.length → a.block < base ∨ ∃ cs, Blk w a.block 5 cs
theorem Elem.below {base : Nat} {w w' : World} {v : Value} {B : List Nat} (h : Elem base w v B) (hb : Below w.heap.size w w') : Elem base w' v B :=
  ⟨h.1.below hb, fun a n c hv h0 => (h.2 a n c hv h0).imp id fun ⟨cs, hc⟩ => ⟨cs, hc.below hb hc.lt⟩⟩
theorem Elem.app {base n : Nat} {w w' : World} {v vo : Value} {B : List Nat} {xs : List Value} (h : Elem base w v B) (ho : w.ownsRow base 36 1 vo n xs) (hg : w.grownBy w' vo.ownBlock) : Elem base w' v B := by
  have hne : ∀ a n c, v = .slice (some a) n c → 0 < B.length → some a.block ≠ vo.ownBlock := by
    intro a m c hv h0 e
    have hl := (ho.lt a.block e.symm).1
    rcases h.2 a m c hv h0 with h' | ⟨cs, hc⟩
    · omega
    · obtain ⟨_, ⟨rfl, rfl⟩ | ⟨g, cap, cur, rfl, _, hh, _⟩⟩ := ho
      · cases e
      · have e2 : a.block = g := by simpa [Value.ownBlock] using e
        rw [e2] at hc
        have h5 : Blk w g 36 cur.toList := by unfold Blk; simpa using hh
        exact absurd (blk_ty hc h5) (by decide)
  refine ⟨h.1.row hg hne, fun a m c hv h0 => (h.2 a m c hv h0).imp id fun ⟨cs, hc⟩ => ⟨cs, hc.grown hg (hne a m c hv h0)⟩⟩
theorem elem_own {base base' : Nat} {w : World} {sp : Option Addr} {cap : Nat} {B : List Nat} (hx : ∀ x ∈ B, x < 256) (h : w.ownsRow base' 5 1 (.slice sp B.length cap) B.length (u8s B)) : Elem base w (.slice sp B.length cap) B := by
  refine ⟨isBytes_own hx h, fun a n c hv h0 => .inr ?_⟩
  obtain ⟨hl, ⟨he, _⟩ | ⟨g, cap', cur, he, _, hh, _⟩⟩ := h
  · rw [he] at hv; cases hv
  · rw [hv] at he
    simp at he
    rw [he.1]
    exact ⟨cur.toList, by unfold Blk; simpa using hh⟩

def OwnRows (base : Nat) (w : World) (v : Value) (L : List (List Nat)) : Prop :=
  ∃ Vs : List Value, w.ownsRow base 36 1 v L.length Vs ∧ ∀ (i : Nat) (u : Value) (B : List Nat), Vs[i]? = some u → L[i]? = some B → Elem base w u B
theorem ownRows_nil (base : Nat) (w : World) : OwnRows base w (.slice none 0 0) [] := ⟨[], World.ownsRow_nil _ _ _ _, by simp⟩
theorem OwnRows.below {base : Nat} {w w' : World} {v : Value} {L : List (List Nat)} (h : OwnRows base w v L) (hb : Below w.heap.size w w') : OwnRows base w' v L := by
  obtain ⟨Vs, h1, h2⟩ := h
  exact ⟨Vs, own_below h1 hb, fun i u B hu hB => (h2 i u B hu hB).below hb⟩
theorem OwnRows.isRows {base : Nat} {w : World} {v : Value} {L : List (List Nat)} (h : OwnRows base w v L) : IsRows w v L := by
  obtain ⟨Vs, ⟨hl, h1⟩, h2⟩ := h
  rw [Nat.mul_one] at hl
  rcases h1 with ⟨rfl, h0⟩ | ⟨g, cap, cur, rfl, _, hh, hn, hm, hs, ht⟩
  · have hL : L = [] := List.eq_nil_of_length_eq_zero h0
    subst hL
    exact isRows_nil w
  · refine ⟨_, cap, Vs, rfl, hn, hm, hl, fun i u hu => ⟨_, rfl, ?_⟩, fun i u B hu hB => (h2 i u B hu hB).1⟩
    have hi := (List.getElem?_eq_some_iff.1 hu).1
    have hadd : (⟨g, 0, none⟩ : Addr).add i = ⟨g, i, none⟩ := by unfold Addr.add; split <;> simp_all
    rw [hadd]
    rw [← ht, List.getElem?_take_of_lt (by omega)] at hu
    simp [World.cell?, hh]
    simpa using hu
theorem OwnRows.slice {base : Nat} {w : World} {v : Value} {L : List (List Nat)} (h : OwnRows base w v L) : ∃ sp cap, v = .slice sp L.length cap ∧ L.length ≤ cap ∧ cap ≤ maxLen := by
  obtain ⟨Vs, h1, _⟩ := h
  exact ownsRow_slice h1
theorem OwnRows.lt {base : Nat} {w : World} {v : Value} {L : List (List Nat)} (h : OwnRows base w v L) : ∀ k, v.ownBlock = some k → base ≤ k := by
  obtain ⟨Vs, h1, _⟩ := h
  exact own_lt h1
theorem wpList_append_str1 {w : World} {ops : Array Oper} {rest : List Oper} {o : Oper} {a : Act} {Q : Exit → Act → World → Prop} (hgd : o.guard = none) (s x : Operand)
    (ho : o.op = .call { callee := .builtin .append, args := #[s, x], argTypes := #[108, 108] })
    (base : Nat) (v : Value) (L : List (List Nat)) (hs : a.eval s = v) (hown : OwnRows base w v L)
    (B : List Nat) (a' : Option Addr) (n' c' : Nat) (hB : Elem base w (.slice a' n' c') B)
    (hx : a.eval x = .slice (some ⟨w.heap.size, 0, none⟩) 1 1)
    (hbytes : L.length + 1 ≤ 4294967296) (hbase : base ≤ w.heap.size)
    (h : ∀ v' w', OwnRows base w' v' (L ++ [B]) → (w.alloc (.cells #[.slice a' n' c'] 36 (0, 0))).grownBy w' v.ownBlock → wpList Tryz.prog ops Q rest (a.put o.dst v') w') :
    wpList Tryz.prog ops Q (o :: rest) a (w.alloc (.cells #[.slice a' n' c'] 36 (0, 0))) := by
  obtain ⟨i0, hi, hz0, hz1, hz2⟩ := info_parts infoR
  have hA : Below w.heap.size w (w.alloc (.cells #[.slice a' n' c'] 36 (0, 0))) := (Below.refl _ _).alloc (Nat.le_refl _) _
  obtain ⟨Vs, h1, h2⟩ := hown.below hA
  have hB1 := hB.below hA
  refine wpList_append_own _ hgd s x _ ho base 36 i0 (.slice none 0 0) 1 24 Tryz.underlying108 hi hz0 hz1 hz2 rfl (by decide) v L.length Vs hs h1 ⟨w.heap.size, 0, none⟩ 1 1 [.slice a' n' c'] hx rfl (cell_one_new _ _ _) (by intro u hu; simp at hu; subst hu; rfl) (by unfold maxLen; omega) (by omega) (by simp; omega) fun v' w' h3 h4 _ => h v' w' ?_ h4
  refine ⟨Vs ++ [.slice a' n' c'], by rw [List.length_append]; exact h3, fun i u B' hu hB' => ?_⟩
  have hVl : Vs.length = L.length := by have := h1.1; omega
  by_cases hi : i < L.length
  · rw [List.getElem?_append_left (by omega)] at hu hB'
    exact (h2 i u B' hu hB').app h1 h4
  · have hi2 : i = L.length := by
      have := (List.getElem?_eq_some_iff.1 hB').1
      simp at this
      omega
    subst hi2
    rw [List.getElem?_append_right (by omega)] at hu hB'
    rw [hVl] at hu
    simp at hu hB'
    subst hu hB'
    exact hB1.app h1 h4
end Go.Proofs.YthgpdnffahmhjaaGreatDoor
namespace Go.Proofs.YthgpdnffahmhjaaGreatDoor
open Go.RowKit Pl

def i64s (L : List Int) : List Value := L.map fun x => .int .i64 x
theorem i64s_length (L : List Int) : (i64s L).length = L.length := by simp [i64s]
theorem i64s_get (L : List Int) (i : Nat) (h : i < L.length) : (i64s L)[i]? = some (.int .i64 (L.getD i 0)) := by simp [i64s, h, List.getD]
theorem i64s_append (A B : List Int) : i64s (A ++ B) = i64s A ++ i64s B := by simp [i64s]
theorem i64s_one (L : List Int) : ∀ v ∈ i64s L, v.oneCell' = true := by
  intro v hv; simp only [i64s, List.mem_map] at hv; obtain ⟨x, _, rfl⟩ := hv; rfl
theorem infoI : (Tryz.prog.info? 3).map (fun i => (i.zero, i.size, i.bytes)) = some (some (.int .i64 0), 1, 8) := by kernel_rfl
theorem infoI_parts {o : Option TypeInfo} (h : o.map (fun i => (i.zero, i.size, i.bytes)) = some (some (Value.int .i64 0), 1, 8)) : ∃ i, o = some i ∧ i.zero = some (.int .i64 0) ∧ i.size = 1 ∧ i.bytes = 8 := by
  cases o with
  | none => cases h
  | some i => simp at h; exact ⟨i, rfl, h.1, h.2.1, h.2.2⟩
def IsInts (w : World) (v : Value) (L : List Int) : Prop :=
  (v = .slice none 0 0 ∧ L = []) ∨ ∃ a cap, v = .slice (some a) L.length cap ∧ L.length ≤ cap ∧ cap ≤ maxLen ∧ ∀ i u, (i64s L)[i]? = some u → w.cell? (a.add i) = some u
theorem IsInts.below {w w' : World} {v : Value} {L : List Int} (h : IsInts w v L) (hb : Below w.heap.size w w') : IsInts w' v L := by
  obtain h | ⟨a, cap, rfl, h1, h2, hc⟩ := h
  · exact .inl h
  · refine .inr ⟨a, cap, rfl, h1, h2, fun i u hu => ?_⟩
    have := hc i u hu
    rw [hb.cell (p := a.add i) (World.block_lt_of_cell? w _ this)]
    exact this
theorem IsInts.slice {w : World} {v : Value} {L : List Int} (h : IsInts w v L) : ∃ a cap, v = .slice a L.length cap ∧ L.length ≤ cap ∧ cap ≤ maxLen := by
  obtain ⟨rfl, rfl⟩ | ⟨a, cap, rfl, h1, h2, _⟩ := h
  · exact ⟨none, 0, rfl, Nat.le_refl _, by unfold maxLen; omega⟩
  · exact ⟨some a, cap, rfl, h1, h2⟩
theorem IsInts.cells {w : World} {v : Value} {L : List Int} (h : IsInts w v L) (h0 : 0 < L.length) : ∃ b off cap, v = .slice (some ⟨b, off, none⟩) L.length cap ∧ L.length ≤ cap ∧ cap ≤ maxLen ∧ b < w.heap.size ∧ (∀ i, i < L.length → w.cell? ⟨b, off + i, none⟩ = some (.int .i64 (L.getD i 0))) := by
  obtain ⟨rfl, rfl⟩ | ⟨a, cap, rfl, h1, h2, hc⟩ := h
  · simp at h0
  · obtain ⟨b, off, spot⟩ := a
    have hc0 := hc 0 _ (i64s_get L 0 h0)
    have hspot : spot = none := by simpa [Addr.add] using World.cell?_spot hc0
    subst hspot
    refine ⟨b, off, cap, rfl, h1, h2, World.block_lt_of_cell? w _ hc0, fun i hi => ?_⟩
    have := hc i _ (i64s_get L i hi)
    have hadd : (⟨b, off, none⟩ : Addr).add i = ⟨b, off + i, none⟩ := by unfold Addr.add; split <;> simp_all
    rwa [hadd] at this
theorem IsInts.take {w : World} {a : Option Addr} {len cap : Nat} {L : List Int} (h : IsInts w (.slice a len cap) L) (hl : L.length = len) (n : Nat) (hn : n ≤ len) : IsInts w (.slice a n cap) (L.take n) := by
  subst hl
  have hl : (L.take n).length = n := by rw [List.length_take]; omega
  obtain ⟨he, rfl⟩ | ⟨x, c, he, h1, h2, hc⟩ := h
  · simp at he hn
    obtain ⟨rfl, rfl⟩ := he
    subst hn
    exact .inl ⟨rfl, rfl⟩
  · simp at he
    obtain ⟨rfl, rfl⟩ := he
    refine .inr ⟨x, cap, by rw [hl], by omega, h2, fun i u hu => hc i u ?_⟩
    have hi := (List.getElem?_eq_some_iff.1 hu).1
    rw [i64s_length, hl] at hi
    simp only [i64s, List.map_take] at hu ⊢
    rwa [List.getElem?_take_of_lt hi] at hu
theorem addr_zero (a : Addr) : a.add 0 = a := by
  obtain ⟨b, o, s⟩ := a
  unfold Addr.add
  cases s <;> simp
end Go.Proofs.YthgpdnffahmhjaaGreatDoor
namespace Go.Proofs.YthgpdnffahmhjaaGreatDoor
open Go.RowKit Go.ChangeShapes Go.WideShapes
inductive FK where
  | int (k : IntKind)
  | str
  | bool
  | ints (k : IntKind)
def FieldOk (w : World) (fk : FK) (v : Value) : Prop := match fk with
  | .int k => ∃ z, v = .int k z ∧ (Lit.int k z).wf = true
  | .str => ∃ s, v = .string s ∧ s.size ≤ maxLen
  | .bool => ∃ b, v = .bool b
  | .ints k => ∃ a len cap zs, v = .slice a len cap ∧ IsRow k w a len cap zs
def FieldTy (P : Program) (fk : FK) (t : TypeId) : Prop := match fk with
  | .int k => P.underlying t = some (.int k)
  | .str => P.underlying t = some .string
  | .bool => P.underlying t = some .bool
  | .ints k => ∃ e, P.underlying t = some (.slice e) ∧ P.underlying e = some (.int k) ∧ P.cellsOf e = 1
def FieldsTy (P : Program) (fs : Array Field) : Nat → List FK → Prop
  | _, [] => True
  | j, fk :: r => (∃ f, fs[j]? = some f ∧ f.offset = j ∧ P.cellsOf f.type = 1 ∧ FieldTy P fk f.type) ∧ FieldsTy P fs (j + 1) r
theorem FieldsTy.get {P : Program} {fs : Array Field} : ∀ {fks : List FK} {j : Nat}, FieldsTy P fs j fks → ∀ i fk, fks[i]? = some fk → ∃ f, fs[j + i]? = some f ∧ f.offset = j + i ∧ P.cellsOf f.type = 1 ∧ FieldTy P fk f.type
  | [], _, _, i, fk, h => by simp at h
  | a :: r, j, h, 0, fk, hi => by simp at hi; subst hi; exact h.1
  | a :: r, j, h, i + 1, fk, hi => by
    have := FieldsTy.get h.2 i fk (by simpa using hi)
    rw [show j + (i + 1) = j + 1 + i by omega]
    exact this
def IsRecs (fks : List FK) (w : World) (a : Option Addr) (len : Nat) : Prop :=
  len ≤ maxLen ∧ (len = 0 ∨ ∃ x, a = some x ∧ ∀ i, i < len → ∀ (j : Nat) (fk : FK), fks[j]? = some fk → ∃ v, w.cell? (x.add (i * fks.length + j)) = some v ∧ FieldOk w fk v)
theorem IsRecs.cells {fks : List FK} {w : World} {a : Option Addr} {len : Nat} (h : IsRecs fks w a len) (hl : 0 < len) (hf : 0 < fks.length) :
    ∃ b off, a = some ⟨b, off, none⟩ ∧ b < w.heap.size ∧ ∀ i, i < len → ∀ (j : Nat) (fk : FK), fks[j]? = some fk → ∃ v, w.cell? ⟨b, off + (i * fks.length + j), none⟩ = some v ∧ FieldOk w fk v := by
  obtain ⟨_, h | ⟨x, rfl, hc⟩⟩ := h
  · omega
  · obtain ⟨b, off, spot⟩ := x
    obtain ⟨v0, hc0, _⟩ := hc 0 hl 0 _ (List.getElem?_eq_getElem hf)
    have hspot : spot = none := by simpa [Addr.add] using World.cell?_spot hc0
    subst hspot
    have hadd : ∀ n, (⟨b, off, none⟩ : Addr).add n = ⟨b, off + n, none⟩ := fun n => by unfold Addr.add; split <;> simp_all
    refine ⟨b, off, rfl, ?_, fun i hi j fk hj => ?_⟩
    · have := World.block_lt_of_cell? w _ hc0
      rw [hadd] at this; exact this
    · have := hc i hi j fk hj
      rw [hadd] at this
      exact this
section
variable {H : Type} {enc : TypeId × Value → H} {P : Program} {w : World} {held : Bool}
theorem fieldOk_of {fk : FK} {t : TypeId} {fuel : Nat} {v : Value} {x : DataW H × List MemPlace} (ht : FieldTy P fk t) (h : DataW.trod enc P w 0 (fun _ => true) held fuel t [v] = some x) : FieldOk w fk v := by
  cases fk with
  | int k =>
    obtain ⟨z, e, _, wz⟩ := DataW.trod_int ht h
    exact ⟨z, by simpa using e, wz⟩
  | str =>
    obtain ⟨s, e, _, hs⟩ := DataW.trod_string ht h
    exact ⟨s, by simpa using e, hs⟩
  | bool =>
    obtain ⟨b, e, _⟩ := DataW.trod_bool ht h
    exact ⟨b, by simpa using e⟩
  | ints k =>
    obtain ⟨e, h1, h2, h3⟩ := ht
    rcases open_ints h1 h2 h3 h with ⟨hcs, _⟩ | ⟨a, len, cap, zs, hcs, _, hl, hm, hz, _, hcell, hwz⟩
    · exact ⟨none, 0, 0, [], by simpa using hcs, .inl ⟨rfl, rfl, rfl, rfl⟩⟩
    · exact ⟨some a, len, cap, zs, by simpa using hcs, .inr ⟨a, rfl, hl, hm, by simpa using hz, hcell, hwz⟩⟩
theorem open_recs {fks : List FK} {fs : Array Field} {t e : TypeId} {fuel : Nat} {a : Option Addr} {len cap : Nat} {x : DataW H × List MemPlace} (ht : P.underlying t = some (.slice e)) (he : P.underlying e = some (.struct fs))
    (hc : P.cellsOf e = fks.length) (hfs : FieldsTy P fs 0 fks) (h : DataW.trod enc P w 0 (fun _ => true) held fuel t [.slice a len cap] = some x) : IsRecs fks w a len := by
  rcases Go.Deep.open_slice ht h with ⟨hcs, _⟩ | ⟨b, l, c, m, n, D, Pl, hcs, _, hl, hm, hmm, _, hx⟩
  · simp at hcs
    obtain ⟨rfl, rfl, rfl⟩ := hcs
    exact ⟨by unfold maxLen; omega, .inl rfl⟩
  · simp at hcs
    obtain ⟨rfl, rfl, rfl⟩ := hcs
    refine ⟨by omega, .inr ⟨b, rfl, fun i hi j fk hj => ?_⟩⟩
    obtain ⟨cs', h1, h2⟩ := hx i (by rw [hmm]; simp; omega)
    rw [hc] at h1
    obtain ⟨_, hlen, hcell⟩ := World.cells?_some h1
    obtain ⟨xs, k, hk, _, _, hxl, hf⟩ := DataW.trod_struct he h2
    obtain ⟨f, hfj, hoff, hone, hty⟩ := hfs.get j fk hj
    rw [Nat.zero_add] at hfj hoff
    have hjl : j < fks.length := (List.getElem?_eq_some_iff.1 hj).1
    have hjx : j < xs.length := by rw [hxl]; exact (Array.getElem?_eq_some_iff.1 hfj).1
    have g := hf j f hfj
    have hjc : j < cs'.length := by omega
    have e1 : (cs'.drop f.offset).take (P.cellsOf f.type) = [cs'[j]] := by
      rw [hoff, hone, List.drop_eq_getElem_cons hjc]
      rfl
    rw [e1, List.getElem?_eq_getElem hjx] at g
    refine ⟨cs'[j], ?_, fieldOk_of hty g⟩
    have := hcell j hjl
    rw [Go.Deep.add_add] at this
    rw [this, List.getElem?_eq_getElem hjc]
end
end Go.Proofs.YthgpdnffahmhjaaGreatDoor

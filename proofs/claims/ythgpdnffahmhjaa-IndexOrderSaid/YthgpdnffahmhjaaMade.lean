/- What a function answers that makes bytes, laid open; numbers as four bytes. -/
import Derived.Test.YthgpdnffahmhjaaBytes
namespace Go.Proofs.Ythgpdnffahmhjaa
open Go.RowKit

namespace Pl
def four (n : Nat) : List Nat := [n % 256, n / 256 % 256, n / 65536 % 256, n / 16777216 % 256]
theorem four_lt (n : Nat) : ∀ x ∈ four n, x < 256 := by intro x hx; simp [four] at hx; omega
theorem four_length (n : Nat) : (four n).length = 4 := rfl
/-- the number of the first four bytes, or 0 -/
def getFour (B : List Nat) : Nat := if B.length < 4 then 0 else B.getD 0 0 + 256 * B.getD 1 0 + 65536 * B.getD 2 0 + 16777216 * B.getD 3 0
theorem getFour_four (n : Nat) (h : n < 4294967296) (R : List Nat) : getFour (four n ++ R) = n := by
  unfold getFour
  rw [if_neg (by simp [four])]
  simp [four]
  omega
theorem four_getFour (a b c d : Nat) (ha : a < 256) (hb : b < 256) (hc : c < 256) (hd : d < 256) (R : List Nat) : four (getFour (a :: b :: c :: d :: R)) = [a, b, c, d] := by
  unfold getFour
  rw [if_neg (by simp)]
  simp [four]
  omega
theorem getFour_lt {B : List Nat} (h : ∀ x ∈ B, x < 256) : getFour B < 4294967296 := by
  unfold getFour
  split
  · omega
  · have := @getD_lt
    have a := this h 0
    have b := this h 1
    have c := this h 2
    have d := this h 3
    omega
/-- four bytes are those of n just where their number is n -/
theorem four_eq {B : List Nat} (h : ∀ x ∈ B, x < 256) (hl : 4 ≤ B.length) (n : Nat) (hn : n < 4294967296) : four n = B.take 4 ↔ n = getFour B := by
  match B, hl with
  | a :: b :: c :: d :: R, _ =>
    have e := four_getFour a b c d (h a (by simp)) (h b (by simp)) (h c (by simp)) (h d (by simp)) R
    constructor
    · intro e2
      have := getFour_four n hn R
      rw [e2] at this
      rw [← this]
      rfl
    · intro e2
      rw [e2, e]
      rfl
end Pl
open Pl
theorem beq_t {a b : Int} (h : a = b) : (a == b) = true := by subst h; simp
theorem beq_f {a b : Int} (h : a ≠ b) : (a == b) = false := by simpa using h
theorem bne_t {a b : Int} (h : a ≠ b) : (a != b) = true := by simpa using h
theorem bne_f {a b : Int} (h : a = b) : (a != b) = false := by subst h; simp
/-- bytes in memory, cell by cell -/
theorem IsBytes.cells {w : World} {v : Value} {B : List Nat} (h : IsBytes w v B) (h0 : 0 < B.length) : ∃ b off cap, v = .slice (some ⟨b, off, none⟩) B.length cap ∧ B.length ≤ cap ∧ cap ≤ maxLen ∧ b < w.heap.size ∧ (∀ i, i < B.length → w.cell? ⟨b, off + i, none⟩ = some (.int .u8 (B.getD i 0 : Nat))) := by
  obtain ⟨hx, ⟨rfl, rfl⟩ | ⟨a, cap, rfl, h1, h2, hc⟩⟩ := h
  · simp at h0
  · obtain ⟨b, off, spot⟩ := a
    have hc0 := hc 0 _ (u8s_get B 0 h0)
    have hspot : spot = none := by simpa [Addr.add] using World.cell?_spot hc0
    subst hspot
    refine ⟨b, off, cap, rfl, h1, h2, World.block_lt_of_cell? w _ hc0, fun i hi => ?_⟩
    have := hc i _ (u8s_get B i hi)
    have hadd : (⟨b, off, none⟩ : Addr).add i = ⟨b, off + i, none⟩ := by unfold Addr.add; split <;> simp_all
    rwa [hadd] at this
theorem MadePost.own {B : List Nat} {w w' : World} {v : Value} (h : MadePost B w (.returned v) w') : w'.ownsRow w.heap.size 5 1 v B.length (u8s B) ∧ Below w.heap.size w w' := by
  obtain ⟨v', he, h1, h2⟩ := h
  cases he
  exact ⟨h1, h2⟩
/-- MadePost, with the slice laid open -/
def MadeS (B : List Nat) (w : World) (e : Ending) (w' : World) : Prop :=
  ∃ sp cap, e = .returned (.slice sp B.length cap) ∧ w'.ownsRow w.heap.size 5 1 (.slice sp B.length cap) B.length (u8s B) ∧ Below w.heap.size w w'
theorem MadePost.s {B : List Nat} {w w' : World} {e : Ending} (h : MadePost B w e w') : MadeS B w e w' := by
  obtain ⟨v', rfl, h1, h2⟩ := h
  obtain ⟨sp, cap, rfl, _, _⟩ := ownsRow_slice h1
  exact ⟨sp, cap, rfl, h1, h2⟩
theorem isBytes_ownS {w : World} {base : Nat} {sp : Option Addr} {cap : Nat} {B : List Nat} {n : Nat} (hx : ∀ x ∈ B, x < 256) (hn : n = B.length) (h : w.ownsRow base 5 1 (.slice sp B.length cap) B.length (u8s B)) : IsBytes w (.slice sp n cap) B := by
  subst hn; exact isBytes_own hx h
theorem isBytes_nil (w : World) : IsBytes w (.slice none 0 0) [] := ⟨by simp, .inl ⟨rfl, rfl⟩⟩
theorem made_more {w w1 w2 : World} {A B : List Nat} {v v' : Value} (h : w1.ownsRow w.heap.size 5 1 v A.length (u8s A)) (hb : Below w.heap.size w w1) (h' : w2.ownsRow w.heap.size 5 1 v' (A.length + B.length) (u8s (A ++ B))) (hg : w1.grownBy w2 v.ownBlock) :
    MadePost (A ++ B) w (.returned v') w2 :=
  ⟨v', rfl, by rw [List.length_append]; exact h', hb.grown hg hb.size (own_lt h)⟩
theorem made_four {w : World} {c0 c1 c2 c3 : Int} {n : Nat} (h0 : c0 = ((n % 256 : Nat) : Int)) (h1 : c1 = ((n / 256 % 256 : Nat) : Int)) (h2 : c2 = ((n / 65536 % 256 : Nat) : Int)) (h3 : c3 = ((n / 16777216 % 256 : Nat) : Int)) :
    MadePost (four n) w (.returned (.slice (some ⟨w.heap.size, 0, none⟩) 4 4)) (w.alloc (.cells #[.int .u8 c0, .int .u8 c1, .int .u8 c2, .int .u8 c3] 5)) := by
  subst h0 h1 h2 h3
  exact ⟨_, rfl, own_new w (u8s (four n)) 5 (Nat.le_refl _) (by simp [u8s, four, maxLen]), (Below.refl _ _).alloc (Nat.le_refl _) _⟩
theorem or_step (k P a b : Nat) (hP : P = 2 ^ k) (ha : a < P) (hab : a + b * P < 4294967296) : bits BinOp.or IntKind.u32 (a : Int) ((b * P : Nat) : Int) = ((a + b * P : Nat) : Int) := by
  subst hP
  rw [u32_or_nat _ _ (by omega) (by omega), Nat.or_comm, nat_join k _ _ (Nat.mul_mod_left _ _) ha, Nat.add_comm]
theorem or_four (a b c d : Nat) (ha : a < 256) (hb : b < 256) (hc : c < 256) (hd : d < 256) :
    bits BinOp.or IntKind.u32 (bits BinOp.or IntKind.u32 (bits BinOp.or IntKind.u32 (a : Int) ((b : Int) * 256)) ((c : Int) * 65536)) ((d : Int) * 16777216) = ((a + 256 * b + 65536 * c + 16777216 * d : Nat) : Int) := by
  have h1 := or_step 8 256 a b rfl (by omega) (by omega)
  have h2 := or_step 16 65536 (a + b * 256) c (by decide +kernel) (by omega) (by omega)
  have h3 := or_step 24 16777216 (a + b * 256 + c * 65536) d (by decide +kernel) (by omega) (by omega)
  have e1 : ((b * 256 : Nat) : Int) = (b : Int) * 256 := by simp
  have e2 : ((c * 65536 : Nat) : Int) = (c : Int) * 65536 := by simp
  have e3 : ((d * 16777216 : Nat) : Int) = (d : Int) * 16777216 := by simp
  rw [e1] at h1
  rw [e2] at h2
  rw [e3] at h3
  rw [h1, h2, h3]
  omega
end Go.Proofs.Ythgpdnffahmhjaa

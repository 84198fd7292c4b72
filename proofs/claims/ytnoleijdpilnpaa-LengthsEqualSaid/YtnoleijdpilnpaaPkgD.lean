/- Lengths of the least cost: what follows: plain. -/
import Derived.Test.YtnoleijdpilnpaaPkgC
set_option linter.unusedSimpArgs false
set_option linter.unusedVariables false
namespace Go.Proofs.Ytnoleijdpilnpaa
namespace Pl
theorem lenK_zero {S : List Coin} {x : Int} (hx : 0 ≤ x) (h : ∀ s ∈ S, s.2 ≠ x) : ∀ k c, lenK S k c x = 0
  | 0, c => cntS_none fun s hs => h s (List.mem_of_mem_take hs)
  | k + 1, c => by
    rw [lenK, lenK_zero hx h k, cntS_none fun s hs => ?_]
    rcases row_sym (k + 1) s (List.mem_of_mem_take hs) with h1 | h1
    · exact h s h1
    · omega
/-- lengths that may be, of which none cost less -/
structure OptLen (S : List Coin) (l : Int → Nat) : Prop where
  ok : ∀ s ∈ S, 1 ≤ l s.2 ∧ l s.2 ≤ 15
  kraft : sm (fun s => ((2 ^ (15 - l s.2) : Nat) : Int)) S ≤ 32768
  opt : ∀ m : Int → Nat, (∀ s ∈ S, m s.2 ≤ 15) → sm (fun s => ((2 ^ (15 - m s.2) : Nat) : Int)) S ≤ 32768 → sm (fun s => s.1 * (l s.2 : Nat)) S ≤ sm (fun s => s.1 * (m s.2 : Nat)) S
theorem optLen {S : List Coin} (G : Good S) (h2 : 2 ≤ S.length) (h3 : S.length ≤ 300) : OptLen S (fun x => lenOf S x) :=
  ⟨fun s hs => ⟨lenOf_pos G h2 h3 hs, lenOf_le G h3 _ (G.sym s hs)⟩, lenOf_kraft G h2 h3, fun m h15 hk => by rw [lenOf_cost G h3]; exact optimal G m h15 hk (by omega)⟩
theorem OptLen.perm {S S' : List Coin} {l : Int → Nat} (h : OptLen S l) (p : S.Perm S') : OptLen S' l :=
  ⟨fun s hs => h.ok s (p.mem_iff.2 hs), by rw [← sm_perm p]; exact h.kraft, fun m h15 hk => by
    rw [← sm_perm p, ← sm_perm p]
    exact h.opt m (fun s hs => h15 s (p.mem_iff.1 hs)) (by rw [sm_perm p]; exact hk)⟩
/-- three symbols -/
theorem three_lens {l : Int → Nat} (h : OptLen [(5, 0), (1, 2), (1, 3)] l) : l 0 = 1 ∧ l 2 = 2 ∧ l 3 = 2 := by
  have a0 := h.ok (5, 0) (by simp)
  have a2 := h.ok (1, 2) (by simp)
  have a3 := h.ok (1, 3) (by simp)
  have hk := h.kraft
  have ho := h.opt (fun x => if x = 0 then 1 else 2) (fun s hs => by
    show (if s.2 = 0 then 1 else 2 : Nat) ≤ 15
    split <;> omega) (by simp [sm])
  simp [sm] at ho
  simp only [sm] at hk a0 a2 a3
  have h0 : l 0 = 1 := by omega
  rw [h0] at hk ho
  have g2 : ∀ n, n < 16 → 1 ≤ n → (2 ^ (15 - n) : Nat) = 16384 ∨ 2 ≤ n := by decide
  have p2 : 1 ≤ (2 ^ (15 - l 2) : Nat) := Nat.one_le_two_pow
  have p3 : 1 ≤ (2 ^ (15 - l 3) : Nat) := Nat.one_le_two_pow
  have q2 := g2 (l 2) (by omega) a2.1
  have q3 := g2 (l 3) (by omega) a3.1
  have e1 : (2 ^ (15 - 1) : Nat) = 16384 := by decide
  rw [e1] at hk
  generalize (2 ^ (15 - l 2) : Nat) = u2 at *
  generalize (2 ^ (15 - l 3) : Nat) = u3 at *
  omega
end Pl
end Go.Proofs.Ytnoleijdpilnpaa

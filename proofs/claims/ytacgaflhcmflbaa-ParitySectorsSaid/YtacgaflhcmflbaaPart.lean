/- A row of bytes that is filled from the front: small lemmas, no walk. -/
import Derived.Test.YtacgaflhcmflbaaMade
namespace Go.Proofs.Ytacgaflhcmflbaa
open Go.RowKit Pl
namespace Pl
/-- the first i bytes are laid -/
def partly (X : List Nat) (i : Nat) : List Nat := X.take i ++ List.replicate (X.length - i) 0
theorem partly_zero (X : List Nat) : partly X 0 = List.replicate X.length 0 := by simp [partly]
theorem partly_all (X : List Nat) : partly X X.length = X := by simp [partly]
theorem partly_length (X : List Nat) (i : Nat) : (partly X i).length = X.length := by simp [partly]; omega
theorem partly_step (X : List Nat) (i : Nat) (h : i < X.length) : (partly X i).set i (X.getD i 0) = partly X (i + 1) := by
  unfold partly
  have e : X.length - i = (X.length - (i + 1)) + 1 := by omega
  rw [e, List.replicate_succ, List.take_add_one, List.getElem?_eq_getElem h]
  have hl : (X.take i).length = i := by rw [List.length_take]; omega
  rw [List.set_append_right _ _ (by omega), hl, Nat.sub_self, List.set_cons_zero, show X.getD i 0 = X[i] by simp [List.getD, h]]
  simp only [Option.toList_some, List.append_assoc, List.singleton_append]
end Pl
/-- a block of the call's own that is known whole is an owned row -/
theorem blk_own {w : World} {g base n : Nat} {e : TypeId} {c : List Value} (h : Blk w g e c) (hb : base ≤ g) (hn : c.length = n) (hm : n ≤ maxLen) : w.ownsRow base e 1 (.slice (some ⟨g, 0, none⟩) n n) n c := by
  subst hn
  exact ⟨by omega, .inr ⟨g, c.length, c.toArray, rfl, hb, h, Nat.le_refl _, hm, by simp, by simp⟩⟩
/-- what a function answers that has filled a row of its own -/
theorem made_done {w w' : World} {X : List Nat} {n i : Nat} (h : Blk w' w.heap.size 5 (u8s (partly X i))) (hn : X.length = n) (hi : i = n) (hm : n ≤ maxLen) (hb : Below w.heap.size w w') : MadePost X w (.returned (.slice (some ⟨w.heap.size, 0, none⟩) n n)) w' := by
  subst hn hi
  rw [partly_all] at h
  exact ⟨_, rfl, blk_own h (Nat.le_refl _) (u8s_length X) hm, hb⟩
theorem made_zero {w : World} {base g n : Nat} (h : w.ownsRow base 5 1 (.slice (some ⟨g, 0, none⟩) n n) n (madeCells (Value.int .u8 0).cells (n * 1)).toList) : Blk w g 5 (u8s (List.replicate n 0)) := by
  rw [made_list] at h
  have := made_blk h
  simpa [u8s] using this
end Go.Proofs.Ytacgaflhcmflbaa

/- NumbersMany: the bytes of its numbers and texts; plain. -/
import Derived.Test.YtpibbepojjicgaaNumF
namespace Go.Proofs.Ytpibbepojjicgaa
open Go.RowKit Pl

/-- a number and, while there are texts, a text -/
def piece (z : List Int) (ss : List ByteArray) (ls : Nat) (j : Nat) : List Nat :=
  vput (IntKind.u64.wrap (z.getD j 0)).toNat ++ if j < ls then vtext (strB (cutS (ss.getD j ByteArray.empty) 30)) else []
def upTo (z : List Int) (ss : List ByteArray) (ls : Nat) (i : Nat) : List Nat := (List.range i).flatMap (piece z ss ls)
def from_ (z : List Int) (ss : List ByteArray) (ls m : Nat) (i : Nat) : List Nat := ((List.range m).drop i).flatMap (piece z ss ls)
theorem upTo_succ (z : List Int) (ss : List ByteArray) (ls i : Nat) : upTo z ss ls (i + 1) = upTo z ss ls i ++ piece z ss ls i := by simp [upTo, List.range_succ]
theorem from_zero (z : List Int) (ss : List ByteArray) (ls m : Nat) : from_ z ss ls m 0 = upTo z ss ls m := rfl
theorem from_succ (z : List Int) (ss : List ByteArray) (ls m i : Nat) (h : i < m) : from_ z ss ls m i = piece z ss ls i ++ from_ z ss ls m (i + 1) := by
  unfold from_
  rw [List.drop_eq_getElem_cons (by simpa using h), List.flatMap_cons]
  simp
theorem from_end (z : List Int) (ss : List ByteArray) (ls m : Nat) : from_ z ss ls m m = [] := by
  unfold from_
  rw [List.drop_of_length_le (by simp)]
  rfl
theorem wrap64 (x : Int) : ∃ N : Nat, IntKind.u64.wrap x = N ∧ N < 18446744073709551616 := by
  rw [IntKind.wrap_u64]
  exact ⟨(x % 18446744073709551616).toNat, by omega, by omega⟩
theorem vtext_len (s : ByteArray) : (vtext (strB (cutS s 30))).length ≤ 40 ∧ 0 < (vtext (strB (cutS s 30))).length := by
  have h := cutS_size s 30
  have h2 := vput_len64 (cutS s 30).size (by omega)
  unfold vtext
  rw [List.length_append, strB_length]
  omega
theorem piece_len (z : List Int) (ss : List ByteArray) (ls j : Nat) : (piece z ss ls j).length ≤ 50 := by
  obtain ⟨N, hN, hN2⟩ := wrap64 (z.getD j 0)
  have h1 := (vput_len64 N hN2).1
  unfold piece
  rw [hN, Int.toNat_natCast, List.length_append]
  split
  · have := (vtext_len (ss.getD j ByteArray.empty)).1
    omega
  · simp; omega
theorem upTo_len (z : List Int) (ss : List ByteArray) (ls i : Nat) : (upTo z ss ls i).length ≤ 50 * i := by
  induction i with
  | zero => simp [upTo]
  | succ i ih =>
    have := piece_len z ss ls i
    rw [upTo_succ, List.length_append]; omega
theorem piece_lt (z : List Int) (ss : List ByteArray) (ls j : Nat) : ∀ x ∈ piece z ss ls j, x < 256 := by
  intro x hx
  unfold piece at hx
  rw [List.mem_append] at hx
  rcases hx with h | h
  · exact vput_lt _ x h
  · split at h
    · exact vtext_lt _ (strB_lt _) x h
    · simp at h
theorem upTo_lt (z : List Int) (ss : List ByteArray) (ls i : Nat) : ∀ x ∈ upTo z ss ls i, x < 256 := by
  intro x hx
  simp only [upTo, List.mem_flatMap] at hx
  obtain ⟨j, _, h⟩ := hx
  exact piece_lt _ _ _ _ x h
/-- what is read at the head of the rest -/
theorem rest_num (z : List Int) (ss : List ByteArray) (ls m i : Nat) (h : i < m) {N : Nat} (hN : IntKind.u64.wrap (z.getD i 0) = N) (hN2 : N < 18446744073709551616) :
    vget (from_ z ss ls m i) = (N, (vput N).length) := by
  rw [from_succ _ _ _ _ _ h]
  unfold piece
  rw [hN, Int.toNat_natCast, List.append_assoc, vget_vput _ hN2]
theorem rest_drop (z : List Int) (ss : List ByteArray) (ls m i : Nat) (h : i < m) {N : Nat} (hN : IntKind.u64.wrap (z.getD i 0) = N) :
    (from_ z ss ls m i).drop (vput N).length = (if i < ls then vtext (strB (cutS (ss.getD i ByteArray.empty) 30)) else []) ++ from_ z ss ls m (i + 1) := by
  rw [from_succ _ _ _ _ _ h]
  unfold piece
  rw [hN, Int.toNat_natCast, List.append_assoc, List.drop_left]
theorem rest_text (s : ByteArray) (C : List Nat) : vgetText (vtext (strB (cutS s 30)) ++ C) = (strB (cutS s 30), (vtext (strB (cutS s 30))).length) :=
  vgetText_vtext _ _ (by rw [strB_length]; have := cutS_size s 30; omega)
end Go.Proofs.Ytpibbepojjicgaa

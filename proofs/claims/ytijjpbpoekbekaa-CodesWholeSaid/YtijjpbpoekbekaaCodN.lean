/- Codes that were written are read again: plain; a row that was made of its cells. -/
import Derived.Test.YtijjpbpoekbekaaCodL
set_option linter.unusedSimpArgs false
set_option linter.unusedVariables false
namespace Go.Proofs.Ytijjpbpoekbekaa
open Go.RowKit Pl
theorem own_new (w : World) (c : List Value) (t : TypeId) {base : Nat} (hb : base ≤ w.heap.size) (hl : c.length ≤ maxLen) : (w.alloc (.cells c.toArray t)).ownsRow base t 1 (.slice (some ⟨w.heap.size, 0, none⟩) c.length c.length) c.length c :=
  ⟨by omega, .inr ⟨w.heap.size, c.length, c.toArray, rfl, hb, heap_alloc_new w _, Nat.le_refl _, hl, by simp, by simp⟩⟩
theorem isInts_upto {w : World} {a : Option Addr} {n cap : Nat} {F : List Int} (h : IsInts w (.slice a n cap) F) (hn : F.length = n) (m : Nat) (hm : m ≤ n) : IsInts w (.slice a m cap) (F.take m) ∧ (F.take m).length = m := by
  have hl : (F.take m).length = m := by rw [List.length_take]; omega
  refine ⟨?_, hl⟩
  have := IsCells.take (n := n) (by unfold IsInts at h; rw [hn] at h; exact h) m m hm
  unfold IsInts
  rw [hl]
  simpa [i64s, List.map_take] using this
namespace Pl
/-- n symbols are read, the last of them is the first one that is 'en' -/
theorem rd_code {F : List Int} (hok : okL F) {en : Int} (R : List Bool) : ∀ (L : List Int) (mo n : Nat) (P : List Bool) (acc : List Int), L.any (noCd F) = false → 1 ≤ n → n ≤ L.length → (∀ q, q + 1 < n → L.getD q 0 ≠ en) → L.getD (n - 1) 0 = en →
    ∃ u, rdF F en mo (P ++ (codeBs F L ++ R)) acc P.length = if mo < n then ([], 2, 0) else (acc ++ L.take n, 0, u) := by
  intro L
  induction L with
  | nil => intro mo n P acc _ h1 h2; simp at h2; omega
  | cons x L ih =>
    intro mo n P acc hno h1 h2 hne hen
    rw [List.any_cons, Bool.or_eq_false_iff] at hno
    obtain ⟨j, rfl, hj, hj0⟩ := noCd_false hno.1
    cases mo with
    | zero => exact ⟨0, by rw [if_pos (by omega)]; rfl⟩
    | succ mo =>
      have hin := Pl.getD_in hok.2.1 j
      obtain ⟨m, hm⟩ : ∃ m : Nat, F.getD j 0 = m := ⟨(F.getD j 0).toNat, by omega⟩
      have hcb : codeB F (j : Int) = bitsOf (codeN F j) m := by unfold codeB; rw [Int.toNat_natCast, hm, Int.toNat_natCast]
      have hst : stepL F ((P ++ (codeBs F ((j : Int) :: L) ++ R)).drop P.length) = some ((j : Int), m) := by
        rw [List.drop_left]
        unfold codeBs
        rw [List.flatMap_cons, hcb, List.append_assoc]
        exact stepL_code hok.2.2 hj hm (by omega) (by omega) _
      by_cases he : (j : Int) = en
      · have hn : n = 1 := by
          apply Classical.byContradiction
          intro h
          exact hne 0 (by omega) (by simpa using he)
        subst hn
        subst he
        exact ⟨P.length + m, by rw [rdF_end hst, if_neg (by omega)]; simp⟩
      · rw [rdF_more hst he]
        have hn2 : 2 ≤ n := by
          apply Classical.byContradiction
          intro h
          have : n - 1 = 0 := by omega
          rw [this] at hen
          exact he (by simpa using hen)
        have e1 : P ++ (codeBs F ((j : Int) :: L) ++ R) = (P ++ codeB F (j : Int)) ++ (codeBs F L ++ R) := by
          unfold codeBs
          rw [List.flatMap_cons]
          simp
        have e2 : P.length + m = (P ++ codeB F (j : Int)).length := by rw [List.length_append, hcb, bitsOf_length]
        rw [e1, e2]
        obtain ⟨u, hu⟩ := ih mo (n - 1) (P ++ codeB F (j : Int)) (acc ++ [(j : Int)]) hno.2 (by omega) (by simp at h2; omega)
          (fun q hq => by have := hne (q + 1) (by omega); simpa using this) (by
            have : n - 1 = (n - 1 - 1) + 1 := by omega
            rw [this] at hen
            simpa using hen)
        refine ⟨u, ?_⟩
        rw [hu]
        by_cases hlt : mo < n - 1
        · rw [if_pos hlt, if_pos (by omega)]
        · rw [if_neg hlt, if_neg (by omega)]
          have : n = (n - 1) + 1 := by omega
          rw [this, List.take_succ_cons]
          simp
/-- the bits of a law's Writer: a one, then the codes -/
def withOne (F L : List Int) : List Bool := [true] ++ codeBs F L
theorem withOne_length {F L : List Int} (h : inB F) : (withOne F L).length ≤ 1 + 15 * L.length := by
  have := codeBs_length h L
  unfold withOne
  simp; omega
theorem withOne_rd {F : List Int} (hok : okL F) {en : Int} {L : List Int} (mo n : Nat) (hno : L.any (noCd F) = false) (h1 : 1 ≤ n) (h2 : n ≤ L.length) (hne : ∀ q, q + 1 < n → L.getD q 0 ≠ en) (hen : L.getD (n - 1) 0 = en) :
    ∃ u, rdF F en mo ((bitsB (bytesOf (withOne F L))).drop 1) [] 0 = if mo < n then ([], 2, 0) else (L.take n, 0, u) := by
  obtain ⟨u, hu⟩ := rd_code hok (List.replicate (8 * (((withOne F L).length + 7) / 8) - (withOne F L).length) false) L mo n [] [] hno h1 h2 hne hen
  refine ⟨u, ?_⟩
  rw [bitsB_bytesOf]
  have e : (withOne F L ++ List.replicate (8 * (((withOne F L).length + 7) / 8) - (withOne F L).length) false).drop 1 = [] ++ (codeBs F L ++ List.replicate (8 * (((withOne F L).length + 7) / 8) - (withOne F L).length) false) := by
    unfold withOne; simp
  rw [e]
  simpa using hu
end Pl
end Go.Proofs.Ytijjpbpoekbekaa

/- folioref1.Suffixes: a contract. Slices of integers and appends to a full one, step by step. -/
import Derived.Test.YtklpmpniempmcaaSufA
import Derived.ArgAppend
set_option linter.unusedSimpArgs false
set_option linter.unusedVariables false
namespace Go.Proofs.Ytklpmpniempmcaa
open Go.RowKit Pl
/-- l[:k:k] -/
theorem run_fullI {w : World} {a : Option Addr} {len cap : Nat} {L : List Int} (hv : IsInts w (.slice a len cap) L) (hl : L.length = len) (k : Nat) (hk : k ≤ len) :
    ∃ a1, (∀ W, (sliceI (.slice a len cap) none (some (.int .i64 k)) (some (.int .i64 k))).run Try.prog W = .ok (.slice a1 k k) W) ∧ (a1 = none → k = 0) ∧ (∀ b, a1 = some b → ∀ j u, (i64s (L.take k))[j]? = some u → w.cell? (b.add j) = some u) := by
  subst hl
  obtain ⟨a', cap', he, hcap, hmax⟩ := hv.slice
  simp at he
  obtain ⟨rfl, rfl⟩ := he
  refine ⟨if k = 0 then a else a.map (·.add (0 * 1)), ?_, ?_, ?_⟩
  · intro W
    unfold sliceI
    rw [run_sliceAt_slice _ _ _ _ _ _ und_i64s, run_slice_hm _ _ _ _ _ und_i64s _ _ _ _ (by omega) (by omega) (by omega), run_size_i, Int.toNat_natCast]
    simp only [Result.andThen, sliced, Nat.sub_zero]
  · intro h
    by_cases h0 : k = 0
    · exact h0
    · rw [if_neg h0] at h
      obtain ⟨he, rfl⟩ | ⟨x, c, he, _⟩ := hv
      · simp at hk; omega
      · simp at he
        rw [he.1] at h
        simp at h
  · intro b hb j u hu
    have hj := (List.getElem?_eq_some_iff.1 hu).1
    rw [i64s_length, List.length_take] at hj
    rw [if_neg (by omega)] at hb
    obtain ⟨he, rfl⟩ | ⟨x, c, he, _, _, hc⟩ := hv
    · simp at hj
    · simp at he
      rw [he.1] at hb
      simp [addr_zero] at hb
      subst hb
      refine hc j u ?_
      simp only [i64s, List.map_take] at hu ⊢
      rwa [List.getElem?_take_of_lt (by omega)] at hu
/-- l[k:] -/
theorem run_fromI {w : World} {a : Option Addr} {len cap : Nat} {L : List Int} (hv : IsInts w (.slice a len cap) L) (hl : L.length = len) (h0 : 0 < len) (k : Nat) (hk : k ≤ len) :
    ∃ a1, (∀ W, (sliceI (.slice a len cap) (some (.int .i64 k)) none none).run Try.prog W = .ok (.slice (some a1) (len - k) (cap - k)) W) ∧ (∀ j u, (i64s (L.drop k))[j]? = some u → w.cell? (a1.add j) = some u) := by
  subst hl
  obtain ⟨he, rfl⟩ | ⟨x, c, he, hcap, hmax, hc⟩ := hv
  · simp at h0
  simp at he
  obtain ⟨rfl, rfl⟩ := he
  refine ⟨if cap = k then x else x.add (k * 1), ?_, ?_⟩
  · intro W
    unfold sliceI
    rw [run_sliceAt_slice _ _ _ _ _ _ und_i64s, run_slice_l _ _ _ _ _ und_i64s _ _ (by omega) (by omega), run_size_i, Int.toNat_natCast]
    simp only [Result.andThen, sliced]
    by_cases e : cap = k <;> simp [e]
  · intro j u hu
    have hj := (List.getElem?_eq_some_iff.1 hu).1
    rw [i64s_length, List.length_drop] at hj
    rw [if_neg (by omega), Nat.mul_one, Addr.add_add]
    refine hc (k + j) u ?_
    simp only [i64s, List.map_drop, List.getElem?_drop] at hu ⊢
    exact hu
/-- append to a slice that is full, step by step -/
theorem wp_append_full {w : World} {o : Oper} {a : Act} {K : Act → World → Prop} {Q : Exit → Act → World → Prop} (s x : Operand)
    (ho : o.op = .call { callee := .builtin .append, args := #[s, x], argTypes := #[25, 25] })
    (ao : Option Addr) (n : Nat) (L : List Int) (hn : L.length = n) (hs : a.eval s = .slice ao n n) (hnone : ao = none → n = 0) (holds : ∀ b, ao = some b → ∀ j u, (i64s L)[j]? = some u → w.cell? (b.add j) = some u)
    (ad : Addr) (m c : Nat) (M : List Int) (hm : M.length = m) (hx : a.eval x = .slice (some ad) m c) (hc : ∀ j u, (i64s M)[j]? = some u → w.cell? (ad.add j) = some u) (h0 : 0 < m) (hb : n + m ≤ 17592186044416)
    (h : ∀ v' w', w'.ownsRow w.heap.size 3 1 v' (n + m) (i64s (L ++ M)) → w.grownBy w' none → K (a.put o.dst v') w') : o.wp Try.prog a w K Q := by
  subst hn hm
  obtain ⟨i0, hi, hz0, hz1, hz2⟩ := infoI_parts infoI
  cases ao with
  | some b =>
    obtain ⟨v', w', hrun, r1, r2⟩ := run_append_arg_grows (P := Try.prog) w 25 o.type 3 i0 (.int .i64 0) 1 8 Try.underlying25 hi hz0 hz1 hz2 rfl (by decide) b L.length L.length (i64s L) (by rw [i64s_length, Nat.mul_one]) (holds b rfl) ad M.length c (i64s M) (by rw [i64s_length, Nat.mul_one]) hc (by omega) (by unfold maxLen; omega) (by omega)
    unfold Oper.wp execOp
    simp only [ho, resolve, invoke, builtin, Sem.run_bind, Sem.run_pure, Result.andThen_ok, List.map_toArray, List.map_cons, List.map_nil, hs, hx, hrun]
    exact h v' w' (by rw [i64s_append]; exact r1) r2
  | none =>
    have hL0 := hnone rfl
    obtain rfl : L = [] := List.eq_nil_of_length_eq_zero hL0
    obtain ⟨v', w', hrun, r1, r2, _⟩ := run_append_own (P := Try.prog) w w.heap.size 25 o.type 3 i0 (.int .i64 0) 1 8 Try.underlying25 hi hz0 hz1 hz2 rfl (by decide) (.slice none 0 0) 0 [] (World.ownsRow_nil w _ _ _) ad M.length c (i64s M) (by rw [i64s_length, Nat.mul_one]) hc (i64s_one M) (by unfold maxLen; omega) (by omega) (Nat.le_refl _)
    unfold Oper.wp execOp
    have hs' : a.eval s = .slice none 0 0 := hs
    simp only [ho, resolve, invoke, builtin, Sem.run_bind, Sem.run_pure, Result.andThen_ok, List.map_toArray, List.map_cons, List.map_nil, hs', hx, hrun]
    exact h v' w' (by simpa using r1) r2
def nI (L : List Nat) : List Int := L.map fun (i : Nat) => (i : Int)
theorem nI_length (L : List Nat) : (nI L).length = L.length := by simp [nI]
theorem nI_get (L : List Nat) (i : Nat) : (nI L).getD i 0 = (L.getD i 0 : Nat) := by
  unfold nI
  by_cases h : i < L.length
  · simp [List.getD, h]
  · simp [List.getD, Nat.le_of_not_lt h]
theorem nI_take (L : List Nat) (k : Nat) : (nI L).take k = nI (L.take k) := by simp [nI, List.map_take]
theorem nI_drop (L : List Nat) (k : Nat) : (nI L).drop k = nI (L.drop k) := by simp [nI, List.map_drop]
theorem nI_cons (x : Nat) (L : List Nat) : nI (x :: L) = (x : Int) :: nI L := by simp [nI]
theorem nI_append (A B : List Nat) : nI (A ++ B) = nI A ++ nI B := by simp [nI]
def SufPost (B : List Nat) (w : World) (e : Ending) (w' : World) : Prop :=
  ∃ L sp cap, e = .returned (.slice sp L.length cap) ∧ IsSA B L ∧ w'.ownsRow w.heap.size 3 1 (.slice sp L.length cap) L.length (i64s (nI L)) ∧ Below w.heap.size w w'
/-- the search for the place of suffix i, step by step -/
theorem search_up {B L : List Nat} {i lo hi mid : Nat} (h : Rises B L) (hm : mid < L.length) (hb : sufB B (L.getD mid 0) i = true) : ∀ j ∈ L.take (mid + 1), sufB B j i = true := by
  intro j hj
  obtain ⟨k, hk, rfl⟩ := List.mem_iff_getElem.1 hj
  rw [List.length_take] at hk
  rw [List.getElem_take]
  have e : L.getD mid 0 = L[mid] := by simp [List.getD, hm]
  rw [e] at hb
  by_cases hkm : k = mid
  · subst hkm; exact hb
  · exact suf_trans (List.pairwise_iff_getElem.1 h k mid (by omega) hm (by omega)) hb
theorem search_down {B L : List Nat} {i lo hi mid : Nat} (h : Rises B L) (hm : mid < L.length) (hb : sufB B i (L.getD mid 0) = true) : ∀ j ∈ L.drop mid, sufB B i j = true := by
  intro j hj
  obtain ⟨k, hk, rfl⟩ := List.mem_iff_getElem.1 hj
  rw [List.length_drop] at hk
  rw [List.getElem_drop]
  have e : L.getD mid 0 = L[mid] := by simp [List.getD, hm]
  rw [e] at hb
  by_cases hkm : k = 0
  · subst hkm; exact hb
  · exact suf_trans hb (List.pairwise_iff_getElem.1 h mid (mid + k) hm (by omega) (by omega))
end Go.Proofs.Ytklpmpniempmcaa

/- append(own, make([]byte, n)...): a law. -/
import Derived.Test.YtaoafplijjpoaaaMade
set_option linter.unusedSimpArgs false
set_option linter.unusedVariables false
namespace Go.Proofs.Ytaoafplijjpoaaa
open Go.RowKit Pl
theorem zeroCells_u8 (n : Nat) : (Builtin.zeroCells (Value.int .u8 0).cells n).toList = u8s (List.replicate n 0) := by
  have := made_list n
  have e : Builtin.zeroCells (Value.int .u8 0).cells n = madeCells (Value.int .u8 0).cells (n * 1) := rfl
  rw [e, this]
  simp [u8s]
theorem run_append_zeros {w : World} (base : Nat) (ty : TypeId) (v : Value) (n : Nat) (B : List Nat) (hown : w.ownsRow base 5 1 v n (u8s B)) (m : Nat) (hbytes : n + m ≤ 4294967296) (hbase : base ≤ w.heap.size) :
    ∃ v' w', (Builtin.append_ #[24, 3] ty #[v, .int .i64 m]).run Try.prog w = .ok v' w' ∧ w'.ownsRow base 5 1 v' (n + m) (u8s (B ++ List.replicate m 0)) ∧ w.grownBy w' v.ownBlock := by
  obtain ⟨i0, hi, hz0, hz1, hz2⟩ := info_parts info5
  have hw : IntKind.i64.wrap (m : Int) = m := by
    rw [IntKind.wrap_i64]; omega
  have ha : ∀ W : World, (asInt (.int .i64 (m : Int))).run Try.prog W = .ok (m : Int) W := fun _ => rfl
  have h0 : ¬ ((m : Int) < 0) := by omega
  have h48 : ¬ ((281474976710656 : Int) < (m : Int)) := by omega
  have hlB : B.length = n := by have := hown.1; rw [u8s_length] at this; omega
  have hlen : (u8s (B ++ List.replicate m 0)).length = n + m := by rw [u8s_length, List.length_append, List.length_replicate, hlB]
  have hzc := zeroCells_u8 m
  have grown : ∀ (old : Nat), old < n + m → ∀ (row : Option Nat),
      (w.drew.alloc (.cells ((u8s B).toArray ++ Builtin.zeroCells (Value.int .u8 0).cells m ++ Builtin.zeroCells (Value.int .u8 0).cells (grownCap w (n + m) old 5 - (n + m))) 5)).ownsRow base 5 1
        (.slice (some ⟨w.heap.size, 0, none⟩) (n + m) (grownCap w (n + m) old 5)) (n + m) (u8s (B ++ List.replicate m 0)) ∧
      w.grownBy (w.drew.alloc (.cells ((u8s B).toArray ++ Builtin.zeroCells (Value.int .u8 0).cells m ++ Builtin.zeroCells (Value.int .u8 0).cells (grownCap w (n + m) old 5 - (n + m))) 5)) row := by
    intro old ho row
    have hge := grownCap_ge w (n + m) old 5
    have hcm : grownCap w (n + m) old 5 ≤ maxLen := grownCap_le_maxLen w (n + m) old 5 (by unfold maxLen; omega)
    refine ⟨⟨by rw [hlen, Nat.mul_one], .inr ⟨w.heap.size, _, _, rfl, hbase, heap_alloc_new w.drew _, hge, hcm, ?_, ?_⟩⟩, ⟨rfl, rfl, rfl, by simp, fun k hk _ => Below.heap_alloc w.drew _ k hk⟩⟩
    · simp only [Array.size_append, List.size_toArray, size_zeroCells, u8s_length, hlB, show (Value.int .u8 0).cells.size = 1 from rfl]
      omega
    · simp only [Array.toList_append, hzc]
      rw [← u8s_append, Nat.mul_one, ← hlen]
      exact List.take_left
  rcases hown.2 with ⟨rfl, rfl⟩ | ⟨g, cap, cur, rfl, hbg, hg, hnc, hcm, hcs, htake⟩
  · have hB : B = [] := List.eq_nil_of_length_eq_zero hlB
    subst hB
    by_cases hm : m = 0
    · subst hm
      have ha0 : ∀ W : World, (asInt (.int .i64 0)).run Try.prog W = .ok 0 W := fun _ => rfl
      have hw0 : IntKind.i64.wrap 0 = 0 := by decide +kernel
      refine ⟨.slice none 0 0, w, ?_, World.ownsRow_nil w base _ 1, ⟨rfl, rfl, rfl, Nat.le_refl _, fun _ _ _ => rfl⟩⟩
      simp [Builtin.append_, run_underlying Try.underlying24, run_underlying Try.underlying3, sizeOf, typeInfo, hi, hz1, hz2, ha0, hw0]
    · have hgr := grown 0 (by omega) (Value.ownBlock (.slice none 0 0))
      refine ⟨_, _, ?_, hgr.1, hgr.2⟩
      have hm0 : ¬ ((m : Int) ≤ 0) := by omega
      have hm63 : ¬ (9223372036854775807 < (m : Int)) := by omega
      have hnx : ¬ (281474976710656 < Builtin.nextslicecap m 0) := by rw [nextslicecap_zero (by omega)]; omega
      simp [Builtin.append_, run_underlying Try.underlying24, run_underlying Try.underlying3, sizeOf, typeInfo, zeroValue, hi, hz0, hz1, hz2, ha, hw, h0, h48, hm, hm63, hnx, Question.forced, run_firstCells_none, newRow, grownCap, u8s]
  · by_cases hroom : n + m ≤ cap
    · have hst := run_storeCells_at Try.prog g n 5 (u8s (List.replicate m 0)) 0 cur w hg (by rw [u8s_length, List.length_replicate]; omega) (u8s_one _)
      simp only [Nat.add_zero] at hst
      refine ⟨.slice (some ⟨g, 0, none⟩) (n + m) cap, w.setRow g (cur.toList.take n ++ u8s (List.replicate m 0) ++ cur.toList.drop (n + (u8s (List.replicate m 0)).length)).toArray, ?_, ⟨by rw [hlen, Nat.mul_one], .inr ⟨g, cap, _, rfl, hbg, setRow_heap w g cur _ _ _ hg, hroom, hcm, ?_, ?_⟩⟩, ⟨rfl, rfl, rfl, by simp, fun k _ hk => setRow_other w g k _ (fun e => hk (by simp [Value.ownBlock, e]))⟩⟩
      · by_cases hm : m = 0
        · subst hm
          have ha0 : ∀ W : World, (asInt (.int .i64 0)).run Try.prog W = .ok 0 W := fun _ => rfl
          have hw0 : IntKind.i64.wrap 0 = 0 := by decide +kernel
          have hst0 := run_storeCells_at Try.prog g n 5 [] 0 cur w hg (by simp; omega) (by simp)
          simp only [Nat.add_zero, List.append_nil, List.length_nil] at hst0
          simp [Builtin.append_, run_underlying Try.underlying24, run_underlying Try.underlying3, sizeOf, typeInfo, hi, hz1, hz2, ha0, hw0, hnc, Addr.add_lit, hst0, u8s]
        · simp [Builtin.append_, run_underlying Try.underlying24, run_underlying Try.underlying3, sizeOf, typeInfo, zeroValue, hi, hz0, hz1, hz2, ha, hw, h0, h48, hm, hroom, hzc, Addr.add_lit]
          rw [hst]
          simp [Result.andThen, List.append_assoc]
      · simp only [List.size_toArray, List.length_append, List.length_take, List.length_drop, Array.length_toList, u8s_length, List.length_replicate]
        omega
      · have ht : List.take n cur.toList = u8s B := by rw [← htake, Nat.mul_one]
        rw [Nat.mul_one, ht, ← u8s_append, ← hlen]
        exact List.take_left
    · have hgr := grown cap (by omega) (Value.ownBlock (.slice (some ⟨g, 0, none⟩) n cap))
      refine ⟨_, _, ?_, hgr.1, hgr.2⟩
      have holds : ∀ j u, (u8s B)[j]? = some u → w.drew.cell? ((⟨g, 0, none⟩ : Addr).add j) = some u := hown.cells (g := g) rfl
      have hfo := run_firstCells_some (P := Try.prog) w.drew 1 n ⟨g, 0, none⟩ n cap (u8s B) (by rw [u8s_length]; omega) holds
      have hm0 : ¬ ((m : Int) ≤ 0) := by omega
      have hm1 : ¬ m = 0 := by omega
      have hm63 : ¬ (9223372036854775807 < ((n : Int) + (m : Int))) := by omega
      have hnx : ¬ (281474976710656 < Builtin.nextslicecap (n + m) cap) := by
        have := growslice_fits (need := n + m) (old := cap) (bytes := 1) (by omega) (by omega)
        omega
      simp [Builtin.append_, run_underlying Try.underlying24, run_underlying Try.underlying3, sizeOf, typeInfo, zeroValue, hi, hz0, hz1, hz2, ha, hw, h0, h48, hroom, hm0, hm1, hm63, hnx, Question.forced, hfo, newRow, grownCap]
theorem wpList_append_zeros {w : World} {ops : Array Oper} {rest : List Oper} {o : Oper} {a : Act} {Q : Exit → Act → World → Prop} (hgd : o.guard = none) (s x : Operand)
    (ho : o.op = .call { callee := .builtin .append, args := #[s, x], argTypes := #[24, 3] })
    (base : Nat) (v : Value) (n : Nat) (B : List Nat) (hs : a.eval s = v) (hown : w.ownsRow base 5 1 v n (u8s B))
    (m : Nat) (hx : a.eval x = .int .i64 m) (hbytes : n + m ≤ 4294967296) (hbase : base ≤ w.heap.size)
    (h : ∀ v' w', w'.ownsRow base 5 1 v' (n + m) (u8s (B ++ List.replicate m 0)) → w.grownBy w' v.ownBlock → wpList Try.prog ops Q rest (a.put o.dst v') w') : wpList Try.prog ops Q (o :: rest) a w := by
  obtain ⟨v', w', hr, h2, h3⟩ := run_append_zeros base o.type v n B hown m hbytes hbase
  refine wpList_plain hgd fun _ hK => ?_
  unfold Oper.wp execOp
  simp only [ho, resolve, invoke, builtin, Sem.run_bind, Sem.run_pure, Result.andThen_ok, List.map_toArray, List.map_cons, List.map_nil, hs, hx, hr]
  exact hK _ _ (h v' w' h2 h3)
end Go.Proofs.Ytaoafplijjpoaaa

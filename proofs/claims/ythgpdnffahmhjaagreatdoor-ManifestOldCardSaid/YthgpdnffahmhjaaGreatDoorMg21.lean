/- Texts put together: ApN. -/
import Derived.Test.YthgpdnffahmhjaaGreatDoorMg1
import Derived.OwnWalkIn
import Derived.ArgAppend
set_option linter.unusedSimpArgs false
set_option linter.unusedVariables false
set_option maxRecDepth 100000
namespace Go.Proofs.YthgpdnffahmhjaaGreatDoor
open Go.RowKit
def Nigh (w : World) (v v' : Value) : Prop := ∀ g, v'.ownBlock = some g → v.ownBlock = some g ∨ w.heap.size ≤ g
theorem run_append_nigh {w : World} (t ty e : TypeId) (i : TypeInfo) (z : Value) (size bytes : Nat) (hu : Tryz.prog.underlying t = some (.slice e)) (hi : Tryz.prog.info? e = some i) (hz0 : i.zero = some z) (hz1 : i.size = size) (hz2 : i.bytes = bytes) (hzc : z.cells.size = size) (h0 : 0 < size)
    (base : Nat) (v : Value) (n : Nat) (xs : List Value) (hown : w.ownsRow base e size v n xs) (ad : Addr) (m c : Nat) (news : List Value) (hnl : news.length = m * size) (hc : ∀ j u, news[j]? = some u → w.cell? (ad.add j) = some u) (h1 : ∀ u ∈ news, u.oneCell' = true)
    (h63 : n + m ≤ maxLen) (hb : (n + m) * bytes ≤ 140737488355328) (hbase : base ≤ w.heap.size) :
    ∃ v' w', (Builtin.append_ #[t, t] ty #[v, .slice (some ad) m c]).run Tryz.prog w = .ok v' w' ∧ w'.ownsRow base e size v' (n + m) (xs ++ news) ∧ w.grownBy w' v.ownBlock ∧ Nigh w v v' := by
  rcases hown.2 with ⟨rfl, rfl⟩ | ⟨g, cp, cur, rfl, hbg, hg, hnc, hcm, hcs, htake⟩
  · have hA : xs = [] := List.eq_nil_of_length_eq_zero (by simpa using hown.1)
    subst hA
    obtain ⟨v', w', hr, r1, r2, _⟩ := run_append_own (P := Tryz.prog) w w.heap.size t ty e i z size bytes hu hi hz0 hz1 hz2 hzc h0 (.slice none 0 0) 0 [] (World.ownsRow_nil _ _ _ _) ad m c news hnl hc h1 h63 hb (Nat.le_refl _)
    refine ⟨v', w', hr, ?_, r2, fun g hg => .inr ((r1.lt g hg).1)⟩
    obtain ⟨hl, hq | ⟨g, cap, cur, hv, hg, hr'⟩⟩ := r1
    · exact ⟨hl, .inl hq⟩
    · exact ⟨hl, .inr ⟨g, cap, cur, hv, by omega, hr'⟩⟩
  · by_cases hroom : n + m ≤ cp
    · have hfit : n * i.size + news.length ≤ cur.size := by
        rw [hz1, hnl, hcs, ← Nat.add_mul]
        exact Nat.mul_le_mul_right _ hroom
      have hr := run_append_room (P := Tryz.prog) w t ty e i hu hi g n cp cur hg ad m c news (by rw [hz1]; exact hnl) hc h1 hroom hfit
      obtain ⟨v', w', hr', r1, r2, _⟩ := run_append_own (P := Tryz.prog) w base t ty e i z size bytes hu hi hz0 hz1 hz2 hzc h0 (.slice (some ⟨g, 0, none⟩) n cp) n xs hown ad m c news hnl hc h1 h63 hb hbase
      rw [hr] at hr'
      cases hr'
      exact ⟨_, _, hr, r1, r2, fun g' hg' => .inl (by simpa [Value.ownBlock] using hg')⟩
    · obtain ⟨v', w', hr, r1, r2⟩ := run_append_arg_grows (P := Tryz.prog) (w := w) t ty e i z size bytes hu hi hz0 hz1 hz2 hzc h0 ⟨g, 0, none⟩ n cp xs hown.1 (hown.cells (g := g) rfl) ad m c news hnl hc (by omega) h63 hb
      refine ⟨v', w', hr, ?_, ⟨r2.os, r2.tape, r2.output, r2.size, fun k hk _ => r2.block k hk (by simp)⟩, fun g' hg' => .inr ((r1.lt g' hg').1)⟩
      obtain ⟨hl, hq | ⟨g, cap, cur, hv, hg, hr'⟩⟩ := r1
      · exact ⟨hl, .inl hq⟩
      · exact ⟨hl, .inr ⟨g, cap, cur, hv, by omega, hr'⟩⟩
theorem wp_append_nigh {w : World} {o : Oper} {a : Act} {K : Act → World → Prop} {Q : Exit → Act → World → Prop} (s x : Operand) (t : TypeId)
    (ho : o.op = .call { callee := .builtin .append, args := #[s, x], argTypes := #[t, t] }) (e : TypeId) (i : TypeInfo) (z : Value) (size bytes : Nat) (hu : Tryz.prog.underlying t = some (.slice e)) (hi : Tryz.prog.info? e = some i) (hz0 : i.zero = some z) (hz1 : i.size = size) (hz2 : i.bytes = bytes) (hzc : z.cells.size = size) (h0 : 0 < size)
    (base : Nat) (v : Value) (n : Nat) (xs : List Value) (hs : a.eval s = v) (hown : w.ownsRow base e size v n xs) (ad : Addr) (m c : Nat) (news : List Value) (hx : a.eval x = .slice (some ad) m c) (hnl : news.length = m * size) (hc : ∀ j u, news[j]? = some u → w.cell? (ad.add j) = some u) (h1 : ∀ u ∈ news, u.oneCell' = true)
    (h63 : n + m ≤ maxLen) (hb : (n + m) * bytes ≤ 140737488355328) (hbase : base ≤ w.heap.size)
    (h : ∀ v' w', w'.ownsRow base e size v' (n + m) (xs ++ news) → w.grownBy w' v.ownBlock → Nigh w v v' → K (a.put o.dst v') w') : o.wp Tryz.prog a w K Q := by
  obtain ⟨v', w', hr, h2, h3, h4⟩ := run_append_nigh t o.type e i z size bytes hu hi hz0 hz1 hz2 hzc h0 base v n xs hown ad m c news hnl hc h1 h63 hb hbase
  unfold Oper.wp execOp
  simp only [ho, resolve, invoke, builtin, Sem.run_bind, Sem.run_pure, Result.andThen_ok, List.map_toArray, List.map_cons, List.map_nil, hs, hx, hr]
  exact h v' w' h2 h3 h4
end Go.Proofs.YthgpdnffahmhjaaGreatDoor

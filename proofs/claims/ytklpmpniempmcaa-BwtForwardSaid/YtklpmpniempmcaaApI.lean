/- append(s[:0], make([]int, m)...) where s has no room for it: a law; slices.Insert of one integer ahead of all: a contract. -/
import Derived.Test.YtklpmpniempmcaaSufE
import Derived.Test.YtklpmpniempmcaaArr
set_option linter.unusedSimpArgs false
set_option linter.unusedVariables false
namespace Go.Proofs.Ytklpmpniempmcaa
open Go.RowKit Pl
theorem zeroCells_i64 (n : Nat) : (Builtin.zeroCells (Value.int .i64 0).cells n).toList = i64s (List.replicate n 0) := by
  have e : Builtin.zeroCells (Value.int .i64 0).cells n = madeCells (Value.int .i64 0).cells (n * 1) := rfl
  rw [e, Pl.madeI]
theorem run_append_grow0 {w : World} (ty : TypeId) (g cap m : Nat) (hroom : cap < m) (hbytes : m ≤ 4294967296) :
    ∃ c' w', (Builtin.append_ #[25, 3] ty #[.slice (some ⟨g, 0, none⟩) 0 cap, .int .i64 m]).run Try.prog w = .ok (.slice (some ⟨w.heap.size, 0, none⟩) m c') w' ∧ m ≤ c' ∧ c' ≤ maxLen ∧ Blk w' w.heap.size 3 (i64s (List.replicate c' 0)) ∧ w.grownBy w' none := by
  obtain ⟨i0, hi, hz0, hz1, hz2⟩ := infoI_parts infoI
  have hw : IntKind.i64.wrap (m : Int) = m := by
    rw [IntKind.wrap_i64]; omega
  have ha : ∀ W : World, (asInt (.int .i64 (m : Int))).run Try.prog W = .ok (m : Int) W := fun _ => rfl
  have h0 : ¬ ((m : Int) < 0) := by omega
  have hm8 : ¬ ((281474976710656 : Int) < (m : Int) * 8) := by omega
  have hm8' : ¬ ((281474976710656 : Int) < 8 * (m : Int)) := by omega
  have hge := grownCap_ge w (0 + m) cap 3
  have hcm : grownCap w (0 + m) cap 3 ≤ maxLen := grownCap_le_maxLen w (0 + m) cap 3 (by unfold maxLen; omega)
  rw [Nat.zero_add] at hge hcm
  refine ⟨grownCap w m cap 3, w.drew.alloc (.cells ((#[] : Array Value) ++ Builtin.zeroCells (Value.int .i64 0).cells m ++ Builtin.zeroCells (Value.int .i64 0).cells (grownCap w m cap 3 - m)) 3), ?_, hge, hcm, ?_, ⟨rfl, rfl, rfl, by simp, fun k hk _ => Below.heap_alloc w.drew _ k hk⟩⟩
  · have hfo := run_firstCells_some (P := Try.prog) w.drew 1 0 ⟨g, 0, none⟩ 0 cap [] (by simp) (fun j u hu => by simp at hu)
    have hm0 : ¬ ((m : Int) ≤ 0) := by omega
    have hm1 : ¬ m = 0 := by omega
    have hm63 : ¬ (9223372036854775807 < (m : Int)) := by omega
    have hnr : ¬ m ≤ cap := by omega
    have hnx : ¬ (281474976710656 < Builtin.nextslicecap m cap * 8) := by
      have := growslice_fits (need := m) (old := cap) (bytes := 8) (by omega) (by omega)
      omega
    simp [Builtin.append_, run_underlying Try.underlying25, run_underlying Try.underlying3, sizeOf, typeInfo, zeroValue, hi, hz0, hz1, hz2, ha, hw, h0, hm8, hm8', hnr, hm0, hm1, hm63, hnx, Question.forced, hfo, newRow, grownCap]
  · unfold Blk
    have hh := heap_alloc_new w.drew (.cells ((#[] : Array Value) ++ Builtin.zeroCells (Value.int .i64 0).cells m ++ Builtin.zeroCells (Value.int .i64 0).cells (grownCap w m cap 3 - m)) 3)
    have hc : ((#[] : Array Value) ++ Builtin.zeroCells (Value.int .i64 0).cells m ++ Builtin.zeroCells (Value.int .i64 0).cells (grownCap w m cap 3 - m)) = (i64s (List.replicate (grownCap w m cap 3) 0)).toArray := by
      apply Array.toList_inj.1
      simp only [Array.toList_append, zeroCells_i64, List.nil_append]
      rw [← i64s_append, List.replicate_append_replicate, Nat.add_sub_cancel' hge]
    rw [hc] at hh
    rw [hc]
    exact hh
theorem wpList_append_grow0 {w : World} {ops : Array Oper} {rest : List Oper} {o : Oper} {a : Act} {Q : Exit → Act → World → Prop} (hgd : o.guard = none) (s x : Operand)
    (ho : o.op = .call { callee := .builtin .append, args := #[s, x], argTypes := #[25, 3] })
    (g cap m : Nat) (C : Int) (hs : a.eval s = .slice (some ⟨g, 0, none⟩) 0 cap) (hx : a.eval x = .int .i64 C) (hC : C = (m : Int)) (hroom : cap < m) (hbytes : m ≤ 4294967296)
    (h : ∀ c' w', m ≤ c' → c' ≤ maxLen → Blk w' w.heap.size 3 (i64s (List.replicate c' 0)) → w.grownBy w' none → wpList Try.prog ops Q rest (a.put o.dst (.slice (some ⟨w.heap.size, 0, none⟩) m c')) w') : wpList Try.prog ops Q (o :: rest) a w := by
  subst hC
  obtain ⟨c', w', hr, h1, h2, h3, h4⟩ := run_append_grow0 (w := w) o.type g cap m hroom hbytes
  refine wpList_plain hgd fun _ hK => ?_
  unfold Oper.wp execOp
  simp only [ho, resolve, invoke, builtin, Sem.run_bind, Sem.run_pure, Result.andThen_ok, List.map_toArray, List.map_cons, List.map_nil, hs, hx, hr]
  exact hK _ _ (h c' w' h1 h2 h3 h4)
theorem run_from0 {g n cap : Nat} (hcap : n ≤ cap) (W : World) : (sliceI (.slice (some ⟨g, 0, none⟩) n cap) (some (.int .i64 0)) none none).run Try.prog W = .ok (.slice (some ⟨g, 0, none⟩) n cap) W := by
  have h := run_slice_l (P := Try.prog) W
  unfold sliceI
  have e : (Value.int .i64 0) = .int .i64 ((0 : Nat) : Int) := rfl
  rw [e, run_sliceAt_slice _ _ _ _ _ _ und_i64s, run_slice_l _ _ _ _ _ und_i64s _ _ (by omega) (by omega), run_size_i, Int.toNat_natCast]
  simp only [Result.andThen, sliced, Nat.sub_zero]
  split <;> simp [add_none]
/-- copy within the walk, its target known whole -/
theorem copy_one (x : Int) (n c g b : Nat) (L : List Int) (W : World) (hg : Blk W g 3 (i64s L)) (hl : 1 ≤ L.length) (hn : 1 ≤ n) (hb : Blk W b 3 [.int .i64 x]) :
    ∃ W', (Builtin.copy_ #[25, 25] 3 #[.slice (some ⟨g, 0, none⟩) n c, .slice (some ⟨b, 0, none⟩) 1 1]).run Try.prog W = .ok (.int .i64 1) W' ∧ Blk W' g 3 (i64s (L.set 0 x)) ∧ Gr W W' g := by
  have hm : Nat.min 1 n = 1 := Nat.min_eq_left hn
  have hrun := run_copy_row (P := Try.prog) W 25 25 3 3 g 0 n c ⟨b, 0, none⟩ 1 1 (i64s L).toArray 3 (i64s [x]) Try.underlying25 sizeI hg (by rw [hm]; rfl) (fun j v hj => by
    have hj2 := (List.getElem?_eq_some_iff.1 hj).1
    rw [i64s_length, List.length_singleton] at hj2
    obtain rfl : j = 0 := by omega
    rw [add_none]
    exact hb.cell hj) (by rw [List.size_toArray, i64s_length, i64s_length, List.length_singleton]; omega) (i64s_one _)
  refine ⟨W.setRow g (splice (i64s L) 0 (i64s [x])).toArray, hrun, ?_, ⟨rfl, rfl, rfl, by simp, fun k hk hne => setRow_other W g k _ (fun e => hne (by rw [e]))⟩⟩
  unfold Blk
  rw [setRow_heap W g (i64s L).toArray _ 3 _ hg]
  have : splice (i64s L) 0 (i64s [x]) = i64s (L.set 0 x) := by
    cases L with
    | nil => simp at hl
    | cons y L => simp [splice, i64s]
  rw [this]
namespace Pl
theorem ins_splice {x : Int} {R : List Int} {c : Nat} (hc : R.length + 1 ≤ c) : splice (i64s ((List.replicate c (0 : Int)).set 0 x)) 1 (i64s R) = i64s (x :: R ++ List.replicate (c - (R.length + 1)) 0) := by
  obtain ⟨d, rfl⟩ : ∃ d, c = R.length + 1 + d := ⟨c - (R.length + 1), by omega⟩
  have e : R.length + 1 + d = (R.length + d) + 1 := by omega
  rw [Nat.add_sub_cancel_left, e, List.replicate_succ, List.set_cons_zero]
  unfold splice i64s
  simp [List.map_append]
  rw [Nat.add_comm 1 R.length, List.drop_succ_cons, List.drop_replicate, Nat.add_sub_cancel_left]
end Pl
def InsPost (base n : Nat) (L : List Int) (w : World) (e : Ending) (w' : World) : Prop :=
  ∃ sp c, e = .returned (.slice sp n c) ∧ IsInts w' (.slice sp n c) L ∧ Below base w w'
attribute [local go_sem ↓] sliceI_eq
set_option maxHeartbeats 8000000 in
theorem insert_any (g b n base : Nat) (x : Int) (R : List Int) (w : World) (hs : OwnI w g n n R) (hb : Blk w b 3 [.int .i64 x]) (hn : n ≤ 1000000) (hB : base ≤ g) (hne : g ≠ b) :
    Calls Try.prog 24 #[.slice (some ⟨g, 0, none⟩) n n, .int .i64 0, .slice (some ⟨b, 0, none⟩) 1 1] w (InsPost base (n + 1) (x :: R) w) := by
  have hgl := hs.lt
  have hbl := hb.lt
  have s0 := fun W => run_from0 (g := g) (n := n) (cap := n) (Nat.le_refl _) W
  by_cases h0 : n = 0
  · subst h0
    have hRl := hs.length
    obtain rfl : R = [] := List.eq_nil_of_length_eq_zero hRl
    have HO : Hid (w.ownsRow base 3 1 (.slice (some ⟨g, 0, none⟩) 0 0) 0 (i64s [])) := Lib.hid (by
      obtain ⟨hl, ⟨he, _⟩ | ⟨g', cap', cur, hv, _, hh, hn, hm, hs, ht⟩⟩ := hs
      · simp at he
      · simp at hv
        obtain ⟨rfl, rfl⟩ := hv
        exact ⟨hl, .inr ⟨g, 0, cur, rfl, hB, hh, hn, hm, hs, ht⟩⟩)
    have HI : Hid (IsInts w (.slice (some ⟨b, 0, none⟩) 1 1) [x]) := Lib.hid (.inr ⟨⟨b, 0, none⟩, 1, rfl, by simp, by simp [maxLen], fun i u hu => by
      rw [add_none, Nat.zero_add]; exact hb.cell hu⟩)
    clear hs hb
    go_enter Try.func24, Try.ntmps24
    go_wp2_with (at_builtin; refine wpList_append_ints rfl (.tmp 23) (.tmp 24) rfl base _ 0 [] rfl HO.out _ [x] rfl HI.out (by simp) (by omega) ?_; intro v6 w6 hown hgr; have HO6 := Lib.hid hown; have HB6 : Hid (Below base w w6) := Lib.hid ((Below.refl _ _).grown hgr (by omega) (own_lt HO.out)); obtain ⟨sp6, cp6, rfl, _, _⟩ := ownsRow_slice hown; clear hown hgr)
    go_wp2
    go_ret
    exact ⟨sp6, cp6, rfl, isInts_own rfl HO6.out, HB6.out⟩
  · have hbeq : ((0 : Int) == (n : Int)) = false := beq_f (by omega)
    have s1 := fun W => by simpa using run_uptoN (g := g) (n := n) (cap := n) 0 (by omega) (Nat.le_refl _) W
    have HS := Lib.hid hs
    have HBx := Lib.hid hb
    clear hs hb
    go_enter Try.func24, Try.ntmps24
    have hgI : (0 : Int) ≤ (n : Int) := by omega
    go_wp2_with (at_builtin; refine wpList_append_grow0 rfl (.tmp 34) (.tmp 39) rfl g n (n + 1) _ rfl rfl (by omega) (by omega) (by omega) ?_; intro c w2 hc1 hc2 hblk hgr; obtain ⟨w3, hcp, hb3, hg3⟩ := copy_one x (n + 1) c w.heap.size b _ w2 hblk (by rw [List.length_replicate]; omega) (by omega) (HBx.out.grown hgr (by simp)); have s2 := fun W => run_from0 (g := w.heap.size) (n := n + 1) (cap := c) hc1 W; have HB2 : Hid (Below w.heap.size w w2) := Lib.hid ((Below.refl _ _).grown hgr (Nat.le_refl _) (by simp)))
    have HS3 : Hid (OwnI w3 g n n R) := Lib.hid ((HS.out.below HB2.out).gr hg3 (by omega))
    have HG3 := Lib.hid hb3
    have HB3 : Hid (Below w.heap.size w w3) := Lib.hid (HB2.out.trans (hg3.below HB2.out.size (Nat.le_refl _)))
    have s3 : ∀ W, (sliceI (.slice (some ⟨w.heap.size, 0, none⟩) (n + 1) c) (some (.int .i64 1)) none none).run Try.prog W = .ok (.slice (some ⟨w.heap.size, 1, none⟩) n (c - 1)) W := fun W => by
      have := run_fromB (g := w.heap.size) (n := n + 1) (cap := c) 1 (by omega) (by omega) hc1 W
      simpa using this
    have hRl := HS3.out.length
    have F1 : Hid ((i64s R).length = Nat.min n n) := Lib.hid (by rw [i64s_length, hRl]; exact (Nat.min_self n).symm)
    have F2 : CSrc w3 (i64s R) (some ⟨w.heap.size, 1, none⟩) w.heap.size 1 (some ⟨g, 0, none⟩) := fun _ => ⟨rfl, _, rfl, fun j v hj => by
      have hj2 := (List.getElem?_eq_some_iff.1 hj).1
      rw [i64s_length, hRl] at hj2
      rw [add_none, Nat.zero_add, HS3.out.cell hj2, ← hj, i64s_get _ _ (by rw [hRl]; exact hj2)]⟩
    have F3 : Hid (1 + (i64s R).length ≤ (i64s ((List.replicate c (0 : Int)).set 0 x)).length) := Lib.hid (by rw [i64s_length, i64s_length, List.length_set, List.length_replicate, hRl]; omega)
    have F4 : Hid (∀ v ∈ i64s R, v.oneCell' = true) := Lib.hid (i64s_one _)
    clear hblk hgr hb3 hg3 HS
    go_wp2_with fail
    clear hcp s2
    have hw1 : IntKind.i64.wrap 1 = 1 := by decide +kernel
    go_region_law (refine step_copy_splice rfl (.tmp 50) (.tmp 53) 25 25 rfl 3 Try.underlying25 sizeI (some ⟨w.heap.size, 1, none⟩) (some ⟨g, 0, none⟩) n (c - 1) n n (by simp [Act.eval, Act.put]) (by simp [Act.eval, Act.put]) w.heap.size 1 _ 3 HG3.out (i64s R) F1.out F2 F3.out F4.out w.heap.size w HB3.out.drew (Nat.le_refl _) ?_; intro w4 hG4 hB4)
    have HW : Hid (IsInts w4 (.slice (some ⟨w.heap.size, 0, none⟩) (n + 1) c) (x :: R)) := Lib.hid (by
      have := hG4.out
      rw [ins_splice (by omega)] at this
      refine .inr ⟨⟨w.heap.size, 0, none⟩, c, by simp [hRl], by simp [hRl]; exact hc1, hc2, fun i u hu => ?_⟩
      have hi := (List.getElem?_eq_some_iff.1 hu).1
      rw [add_none, Nat.zero_add]
      refine Blk.cell (c := i64s (x :: R ++ List.replicate (c - (R.length + 1)) 0)) this ?_
      rw [i64s_append, List.getElem?_append_left hi]
      exact hu)
    have HF := Lib.hid hB4
    clear F1 F2 F3 F4 hG4 hB4 s0 s1 s3 HS3 HG3 HB3 HB2 HBx
    go_wp2_with fail
    go_ret
    exact ⟨_, _, rfl, HW.out, ⟨HF.out.os, HF.out.tape, HF.out.output, HF.out.size, fun k hk => HF.out.block k (by omega)⟩⟩
end Go.Proofs.Ytklpmpniempmcaa

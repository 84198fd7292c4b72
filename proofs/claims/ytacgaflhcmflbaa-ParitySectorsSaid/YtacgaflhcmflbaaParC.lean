/- A range over a function that gives some of the numbers below N, and whose body may return; parity.badSectors and its iterator: contracts. -/
import Derived.Test.YtacgaflhcmflbaaParA
import Derived.Test.YtacgaflhcmflbaaSlice
import Derived.RangeFuncNested
import Derived.RangeFuncBound
import Derived.RangeFuncCalls
import Derived.RangeFuncLeaves
import Derived.RangeFuncWrites
import Derived.OwnWalkIn
import Derived.TacticsInMore
import Derived.LoopNIn
import Derived.LoopIn
set_option linter.unusedSimpArgs false
set_option linter.unusedVariables false
set_option maxRecDepth 100000
namespace Go.Proofs.Ytacgaflhcmflbaa
open Go.RowKit Pl
/-- the rounds at the numbers k < N with sel k; a round goes on, or returns -/
theorem range_sel {F : Fence} {n : Nat} {P : Program} {g : Operand} {ps : Array Tmp} {assign body : Code} {Q : Exit → Act → World → Prop} {a : Act} {w : World}
    (hro : F.round = none) (h1 : 1 ≤ n) {gf : Nat} {lb : Array Value} (hg : a.eval g = .func (.func gf) #[] lb) (hFg : F.fn gf) (eg : ∀ args w, (callFunc gf args).run P w = .ok (.enter gf args) w)
    (N : Nat) (sel : Nat → Bool) (encs : Nat → Array Value) (hps : ∀ k, (encs k).size = ps.size) (I : Nat → World → Prop) (hI : OwnFrom w.heap.size I) (Ix : World → Prop) (hIx : OwnFrom w.heap.size (fun (_ : Unit) => Ix)) (h0 : I 0 w)
    (hskip : ∀ k W, k < N → sel k = false → I k W → I (k + 1) W)
    (hit : ∀ (l : Nat) (J : Nat → World → Prop) (Jx : World → Prop) (W : World), (∀ k W, J k W → I k W) → (∀ k W q, J k W → J k (W.drewN q)) → (∀ k W, k < N → sel k = false → J k W → J (k + 1) W) →
      (∀ k W, k < N → sel k = true → J k W → YieldAt F (n - 1 - 1) P l (encs k) W fun e W' => (e = .returned (.bool true) ∧ J (k + 1) W') ∨ (e = .returned (.bool false) ∧ Jx W')) → J 0 W →
      CallsIn F (n - 1) P gf (#[.func (.yield l) #[] #[]] ++ lb) W fun e W' => (∃ v, e = .returned v) ∧ (J N W' ∨ Jx W'))
    (a₁ : Nat → Act)
    (hassign : ∀ (l k : Nat) (W : World) (K : Act → World → Prop), K (a₁ k) W →
      assign.wpIn (F.inRound l) (n - 1 - 1) P (Exit.then K (fun _ _ _ => False)) { tmps := (ps.zip (encs k)).foldl (fun t (p, v) => t.setIfInBounds p v) a.tmps, defers := [] } W)
    (hbody : ∀ (l k : Nat) (W : World), k < N → sel k = true → I k W → body.wpIn (F.inRound l) (n - 1 - 1) P (fun e _ W' => KeepsFrom w.heap.size W W' ∧ ((e = .normal ∧ I (k + 1) W') ∨ (e = .ret ∧ Ix W'))) (a₁ k) W)
    (hdone : ∀ (D : Nat) (W : World), w.heap.size ≤ D → I N W → W.heap[D]? = some (.deferred (some [])) → Q .normal { a with defers := { target := .collected D, args := #[] } :: a.defers } W)
    (hstop : ∀ (D : Nat) (W : World), w.heap.size ≤ D → Ix W → W.heap[D]? = some (.deferred (some [])) → Code.ret.wpIn F n P Q { a with defers := { target := .collected D, args := #[] } :: a.defers } W) :
    (Code.rangeFunc g ps assign body).wpIn F n P Q a w := by
  refine wpIn_rangeFunc fun fn hfn => ?_
  rw [hro]
  let r0 : Loop := { state := .ready, pending := none, fn, tmps := a.tmps, params := ps, assign, body, defers := w.heap.size }
  let w1 := (w.alloc (.deferred (some []))).alloc (.loop r0)
  have s1 : w1.heap.size = w.heap.size + 2 := by simp [w1]
  have b1 : w1.heap[w.heap.size + 1]? = some (.loop r0) := by
    have := World.alloc_heap_new (w.alloc (.deferred (some []))) (.loop r0)
    rwa [World.size_alloc] at this
  have b0 : w1.heap[w.heap.size]? = some (.deferred (some [])) :=
    (Below.heap_alloc _ _ _ (by simp)).trans (World.alloc_heap_new w _)
  let J : Nat → World → Prop := fun k W => I k W ∧ W.heap[w.heap.size + 1]? = some (.loop r0) ∧ W.heap[w.heap.size]? = some (.deferred (some []))
  let Jx : World → Prop := fun W => Ix W ∧ W.heap[w.heap.size + 1]? = some (.loop { r0 with state := .done, pending := some .ret }) ∧ W.heap[w.heap.size]? = some (.deferred (some []))
  refine ⟨w.heap.size + 1, [{ target := .collected w.heap.size, args := #[] }], w1, { target := .fn (.func gf) lb, args := #[.func (.yield (w.heap.size + 1)) #[] #[]] }, w1, gf, #[.func (.yield (w.heap.size + 1)) #[] #[]] ++ lb, w1,
    run_enterLoop_outer _ _ _ _ _, ?_, ?_, ?_, fun _ => h1, ?_⟩
  · simp only [resolve, hg]
    simp [go_sem]
  · intro f' hf'
    simp [Target.leads] at hf'
    subst hf'
    exact hFg
  · simp [invoke, go_sem, eg]
  refine (hit (w.heap.size + 1) J Jx w1 (fun k W h => h.1) (fun k W q h => ⟨hI k W (W.drewN q) none h.1 ⟨rfl, rfl, rfl, Nat.le_refl _, fun _ _ _ => rfl⟩ (by simp), h.2⟩) (fun k W hk hs h => ⟨hskip k W hk hs h.1, h.2⟩) ?_ ⟨hI.alloc _ (hI.alloc _ h0), b1, b0⟩).mono ?_
  · rintro k W hk hsel ⟨hi, hl, hd⟩
    have hlt := (Array.getElem?_eq_some_iff.1 hl).1
    refine ⟨fn, _, assign, body, run_yield (args := encs k) hl (hps k), roundIn_of_wpIn hfn (hassign _ k W _ ⟨_, run_beginRound hl rfl, ?_⟩)⟩
    have hl2 : (W.putObj (w.heap.size + 1) (.loop { r0 with state := .busy })).heap[w.heap.size + 1]? = some (.loop { r0 with state := .busy }) := World.putObj_heap_same hlt
    have hd2 : (W.putObj (w.heap.size + 1) (.loop { r0 with state := .busy })).heap[w.heap.size]? = some (.deferred (some [])) := (World.putObj_heap_other (by omega)).trans hd
    refine wpIn_mono (hbody _ k _ hk hsel (hI.putObj _ hi (by omega) hl rfl)) ?_
    rintro e a3 W3 ⟨hk3, ⟨rfl, hi3⟩ | ⟨rfl, hi3⟩⟩
    · have hl3 := hk3.same _ _ (by omega) hl2 rfl
      have hd3 := hk3.same _ _ (Nat.le_refl _) hd2 rfl
      have hlt3 := (Array.getElem?_eq_some_iff.1 hl3).1
      exact ⟨_, _, run_endRound none hl3, .inl ⟨rfl, hI.putObj _ hi3 (by omega) hl3 rfl, World.putObj_heap_same hlt3, (World.putObj_heap_other (by omega)).trans hd3⟩⟩
    · have hl3 := hk3.same _ _ (by omega) hl2 rfl
      have hd3 := hk3.same _ _ (Nat.le_refl _) hd2 rfl
      have hlt3 := (Array.getElem?_eq_some_iff.1 hl3).1
      exact ⟨_, _, run_endRound (some .ret) hl3, .inr ⟨rfl, hIx.putObj (s := ()) _ hi3 (by omega) hl3 rfl, World.putObj_heap_same hlt3, (World.putObj_heap_other (by omega)).trans hd3⟩⟩
  · rintro e W2 ⟨⟨v, rfl⟩, ⟨hi, hl, hd⟩ | ⟨hi, hl, hd⟩⟩
    · exact ⟨none, _, run_endLoop hl (by simp [r0]), hdone _ _ (Nat.le_refl _) (hI.putObj _ hi (by omega) hl rfl) ((World.putObj_heap_other (by omega)).trans hd)⟩
    · exact ⟨some .ret, _, run_endLoop hl (by simp [r0]), hstop _ _ (Nat.le_refl _) (hIx.putObj (s := ()) _ hi (by omega) hl rfl) ((World.putObj_heap_other (by omega)).trans hd)⟩

def minN (ats : Array TypeId) (ty : TypeId) (v u : Value) : Sem Value := Builtin.min_ ats ty #[v, u]
theorem minN_eq (ats : Array TypeId) (ty : TypeId) (v u : Value) : Builtin.min_ ats ty #[v, u] = minN ats ty v u := rfl
theorem run_minN (ats : Array TypeId) (ty : TypeId) (m n : Int) (w : World) : (minN ats ty (.int .i64 m) (.int .i64 n)).run Try.prog w = .ok (.int .i64 (min m n)) w := by
  unfold minN Builtin.min_
  by_cases h : n < m
  · have e : min m n = n := by omega
    rw [e]
    simp [Builtin.min2, h]
  · have e : min m n = m := by omega
    rw [e]
    simp [Builtin.min2, h]
theorem stripes_quiet (n : Nat) (w : World) (k : Nat) (hn : n ≤ 4611686018427387904) : Calls Try.prog 23 #[.int .i64 n] (w.drewN k) fun e w'' => e = .returned (.int .i64 ((n + 63) / 64 : Nat)) ∧ ∃ m, w'' = w.drewN m :=
  Calls.quiet_of_same ((stripes_any n (w.drewN k) hn).mono fun _ _ h => ⟨h.1, h.2.symm⟩)
/-- l[:n] of bools as one closed step -/
def sliceB (x : Value) (lo hi mx : Option Value) : Sem Value := Instr.sliceAt 28 x lo hi mx
theorem sliceB_eq (x : Value) (lo hi mx : Option Value) : Instr.sliceAt 28 x lo hi mx = sliceB x lo hi mx := rfl
theorem elem_bls : Try.prog.elem 28 = 4 := by kernel_rfl
theorem und_bls : Try.prog.underlying 28 = some (.slice (Try.prog.elem 28)) := by rw [elem_bls]; exact Try.underlying28
theorem infoB : (Try.prog.info? 4).map (fun i => (i.zero, i.size, i.bytes)) = some (some (.bool false), 1, 1) := by kernel_rfl
theorem infoB_parts {o : Option TypeInfo} (h : o.map (fun i => (i.zero, i.size, i.bytes)) = some (some (Value.bool false), 1, 1)) : ∃ i, o = some i ∧ i.zero = some (.bool false) ∧ i.size = 1 ∧ i.bytes = 1 := by
  cases o with
  | none => cases h
  | some i => simp at h; exact ⟨i, rfl, h.1, h.2.1, h.2.2⟩
theorem run_size_b (w : World) : (sizeOf (Try.prog.elem 28)).run Try.prog w = .ok 1 w := by
  obtain ⟨i0, hi, hz0, hz1, hz2⟩ := infoB_parts infoB
  rw [elem_bls]
  simp [sizeOf, typeInfo, hi, hz1]
theorem addr_zero (a : Addr) : a.add 0 = a := by
  obtain ⟨b, o, s⟩ := a
  unfold Addr.add
  cases s <;> simp
theorem run_uptoB {a : Option Addr} {n cap : Nat} (k : Nat) (K : Int) (hK : K = k) (hk : k ≤ n) (hcap : n ≤ cap) (W : World) : (sliceB (.slice a n cap) none (some (.int .i64 K)) none).run Try.prog W = .ok (.slice a k cap) W := by
  subst hK
  unfold sliceB
  rw [run_sliceAt_slice _ _ _ _ _ _ und_bls, run_slice_h _ _ _ _ _ und_bls _ _ (by omega) (by omega), run_size_b, Int.toNat_natCast]
  simp only [Result.andThen, sliced, Nat.sub_zero]
  split
  · rfl
  · cases a with
    | none => rfl
    | some x => simp only [Nat.zero_mul, Option.map_some, addr_zero]
/-- the s-th sector of N bytes -/
def scV (a : Option Addr) (N cap s : Nat) : Value := .slice (a.map fun x => x.add (s * 64 * 1)) (min 64 (N - s * 64)) (cap - s * 64)
theorem run_sector {a : Option Addr} {N cap s : Nat} (hc : N ≤ cap) (hs : s * 64 < N) (lo hi : Int) (h1 : lo = (s * 64 : Nat)) (h2 : hi = (s * 64 + min 64 (N - s * 64) : Nat)) (W : World) :
    (sliceU8 (.slice a N cap) (some (.int .i64 lo)) (some (.int .i64 hi)) none).run Try.prog W = .ok (scV a N cap s) W := by
  unfold sliceU8
  rw [run_sliceAt_slice _ _ _ _ _ _ und_u8s, run_slice_lh _ _ _ _ _ und_u8s _ _ _ _ (by omega) (by omega) (by omega), run_size_u8]
  subst h1 h2
  simp only [Result.andThen, sliced, Int.toNat_natCast, Nat.add_sub_cancel_left, scV]
  rw [if_neg (by omega)]
/-- how many marks are looked at -/
def mks (nd N : Nat) : Nat := min nd ((N + 63) / 64)
theorem mks_lt {nd N k : Nat} (h : k < mks nd N) : k < nd ∧ k * 64 < N := by unfold mks at h; omega
set_option maxHeartbeats 1000000 in
theorem badSectors_any (F : Fence) (n : Nat) (hF : F.fn 27) (hro : F.round = none) (a ad : Option Addr) (N cap nd cd : Nat) (w : World) :
    CallsIn F n Try.prog 27 #[.slice a N cap, .slice ad nd cd] w fun e w' => e = .returned (.func (.func 30) #[] #[.pointer (some ⟨w.heap.size + 1, 0, none⟩), .pointer (some ⟨w.heap.size, 0, none⟩)]) ∧ w' = (w.alloc (.cells #[.slice a N cap] 23)).alloc (.cells #[.slice ad nd cd] 28) := by
  refine callsIn_of_wp Try.func27 rfl hF ?_ hro
  simp only [Try.ntmps27, List.size_toArray, List.length_cons, List.length_nil, Nat.reduceAdd, Nat.reduceSub, Array.replicate_succ, Array.replicate_zero, List.push_toArray, List.append_toArray, List.nil_append, List.cons_append]
  gi_wp2
  go_ret
  exact ⟨rfl, rfl⟩
attribute [local go_sem] Oper.semAt_some
attribute [local go_sem ↓] sliceU8_eq sliceB_eq minN_eq
set_option maxHeartbeats 8000000 in
/-- the iterator: the sectors that are marked -/
theorem bad_rounds (n : Nat) (hn : 1 ≤ n) (l Bd Bb N cap nd cd : Nat) (a ad : Option Addr) (sel : Nat → Bool) (hN : N ≤ 1000000000) (hcap : N ≤ cap) (hnd : nd ≤ cd) (hcd : cd ≤ maxLen) (J : Nat → World → Prop) (Jx : World → Prop) (hJd : ∀ k W q, J k W → J k (W.drewN q))
    (hsk : ∀ k W, k < mks nd N → sel k = false → J k W → J (k + 1) W)
    (hread : ∀ k W, J k W → W.cell? ⟨Bd, 0, none⟩ = some (.slice ad nd cd) ∧ W.cell? ⟨Bb, 0, none⟩ = some (.slice a N cap) ∧ ∀ s, s < nd → ∃ b o, ad = some ⟨b, o, none⟩ ∧ W.cell? ⟨b, o + s, none⟩ = some (.bool (sel s)))
    (hY : ∀ k W, k < mks nd N → sel k = true → J k W → YieldAt Fence.wide (n - 1) Try.prog l #[.int .i64 k, scV a N cap k] W fun e W' => (e = .returned (.bool true) ∧ J (k + 1) W') ∨ (e = .returned (.bool false) ∧ Jx W')) (W : World) (h0 : J 0 W) :
    CallsIn Fence.wide n Try.prog 30 #[.func (.yield l) #[] #[], .pointer (some ⟨Bd, 0, none⟩), .pointer (some ⟨Bb, 0, none⟩)] W fun e W' => (∃ v, e = .returned v) ∧ (J (mks nd N) W' ∨ Jx W') := by
  unfold maxLen at hcd
  refine callsIn_of_wp Try.func30 rfl trivial ?_ rfl
  simp only [Try.ntmps30, List.size_toArray, List.length_cons, List.length_nil, Nat.reduceAdd, Nat.reduceSub, Array.replicate_succ, Array.replicate_zero, List.push_toArray, List.append_toArray, List.nil_append, List.cons_append]
  obtain ⟨M, hM⟩ : ∃ M, mks nd N = M := ⟨_, rfl⟩
  have hMd : M ≤ nd := by rw [← hM]; unfold mks; omega
  have hs := fun W => run_uptoB (a := ad) (n := nd) (cap := cd) M M rfl hMd hnd W
  have hmn : ∀ ats ty (W : World), (minN ats ty (.int .i64 (nd : Nat)) (.int .i64 (((N + 63) / 64 : Nat) : Int))).run Try.prog W = .ok (.int .i64 (M : Nat)) W := fun ats ty W => by
    rw [run_minN, show min ((nd : Nat) : Int) (((N + 63) / 64 : Nat) : Int) = (M : Nat) by rw [← hM]; unfold mks; omega]
  obtain ⟨hb0, hb1, _⟩ := hread 0 W h0
  have HJ0 := Lib.hid h0
  rw [hM] at hsk hY ⊢
  have HM := Lib.hid hM
  clear hM h0
  generalize hS : (N + 63) / 64 = S at *
  have HS := Lib.hid hS
  clear hS
  have hstq : ∀ k : Nat, Calls Try.prog 23 #[.int .i64 N] (W.drewN k) fun e w'' => e = .returned (.int .i64 (S : Nat)) ∧ ∃ m, w'' = W.drewN m := fun k => by
    rw [← HS.out]
    exact stripes_quiet N W k (by omega)
  gi_wp2_with fail
  refine wpIn_wide.2 ?_
  go_quiet (first | (go_at_call 23; refine hstq _))
  have HJ1 := Lib.hid (hJd 0 W nq HJ0.out)
  clear hb0 hb1 hstq hs hmn HJ0
  gi_wp2
  gi_loopw [16] (fun i wr => ∃ k : Nat, k ≤ M ∧ i = .int .i64 k ∧ J k wr) (fun i _ => (M - (intOf i).toNat))
  case atStart => exact ⟨0, Nat.zero_le _, rfl, HJ1.out⟩
  case round =>
    obtain ⟨k, hk, rfl, hJ⟩ := hrel
    by_cases hlt : k < M
    · obtain ⟨hb0, hb1, hcell⟩ := hread k wr hJ
      obtain ⟨b, o, rfl, hc⟩ := hcell k (by omega)
      have hkN := (mks_lt (nd := nd) (N := N) (k := k) (by rw [HM.out]; exact hlt)).2
      have HJ := Lib.hid hJ
      cases hse : sel k with
      | false =>
        have HJ2 := Lib.hid (hsk k wr hlt hse hJ)
        rw [hse] at hc
        clear hJ hcell hse
        gi_wp2
        refine ⟨fun _ h => (by cases h), ?_⟩
        gi_wp2
        go_roundw
        case rel => exact ⟨k + 1, by omega, by first | rfl | (congr 1; omega), HJ2.out⟩
        case measure => (simp [intOf]; try omega)
      | true =>
        rw [hse] at hc
        obtain ⟨fn, tmps, assign, body, hy, hR⟩ := hY k wr hlt hse hJ
        have hmn : ∀ ats ty (W : World), (minN ats ty (.int .i64 ((k : Int) * 64 + 64)) (.int .i64 (N : Nat))).run Try.prog W = .ok (.int .i64 (min ((k : Int) * 64 + 64) (N : Nat))) W := fun ats ty W => run_minN _ _ _ _ _
        have hsc := fun W => run_sector (a := a) (s := k) hcap hkN ((k : Int) * 64) (min ((k : Int) * 64 + 64) (N : Nat)) (by omega) (by omega) W
        generalize min ((k : Int) * 64 + 64) (N : Nat) = mm at *
        clear hJ hcell hse
        gi_wp2
        refine hR.mono ?_
        rintro e W3 (⟨rfl, hJ3⟩ | ⟨rfl, hJ3⟩)
        · have HJ3 := Lib.hid hJ3
          clear hb0 hb1 hmn hsc hy hR hJ3
          gi_wp2
          go_roundw
          case rel => exact ⟨k + 1, by omega, by first | rfl | (congr 1; omega), HJ3.out⟩
          case measure => (simp [intOf]; try omega)
        · have HJ3 := Lib.hid hJ3
          clear hb0 hb1 hmn hsc hy hR hJ3
          gi_wp2
          exact bodyPost_ret (results_none rfl _ _ _) rfl ⟨⟨_, rfl⟩, .inr HJ3.out⟩
    · obtain rfl : k = M := by omega
      gi_wp2
      go_end0
      exact ⟨⟨_, rfl⟩, .inl hJ⟩
end Go.Proofs.Ytacgaflhcmflbaa

/- Texts put together: DkF, DkC, DkD, DkH, DkI. -/
import Derived.Test.YthgpdnffahmhjaaGreatDoorMg21
import Derived.Test.YthgpdnffahmhjaaGreatDoorMg24
import Derived.Laws.IdiomRangeMap
set_option linter.unusedSimpArgs false
set_option linter.unusedVariables false
set_option maxRecDepth 100000
namespace Go.Proofs.YthgpdnffahmhjaaGreatDoor.S13
open Go.RowKit Go.Maps Go.Shelf Dk
structure Lay where
  p : Nat
  nv : Option Nat
  lv : Option Nat
  pv : Value
  β : Nat → Nat
  ν : Nat → Value
def Lay.at (l : Lay) (n b : Nat) : Prop := b = l.p ∨ l.nv = some b ∨ l.lv = some b ∨ l.pv.ownBlock = some b ∨ ∃ i, i < n ∧ (b = l.β i ∨ (l.ν i).ownBlock = some b)
def chgC (β : Nat → Nat) (c : Chg) : List Value := [.string ⟨c.1.toArray⟩, .string ⟨c.2.1.toArray⟩, ptrO (c.2.2.map β)]
def chgs (β : Nat → Nat) (C : List Chg) : List Value := C.flatMap (chgC β)
def fsC (l : Lay) (S : St) (wt : Int) : List Value := [.int .i64 (S.room : Nat), .map l.nv, .map l.lv, l.pv, .int .i64 (S.calls : Nat), .bool S.fail.isSome, .int .i64 wt]
def WaitOk (S : St) (wt : Int) : Prop := ∀ k, S.fail = some k → wt = (k : Nat) ∧ k < 9223372036854775808
structure IsFS (w : World) (l : Lay) (S : St) : Prop where
  blk : ∃ wt, Blk w l.p 52 (fsC l S wt) ∧ WaitOk S wt
  now : IsDir w l.nv l.β S.now
  last : IsDir w l.lv l.β S.last
  ne : ∀ b, l.nv = some b → l.lv ≠ some b
  pend : w.ownsRow 0 66 3 l.pv S.pend.length (chgs l.β S.pend)
  file : ∀ i, i < S.F.length → IsFile w (l.β i) (l.ν i) (S.file i)
  inj : ∀ i j, i < S.F.length → j < S.F.length → l.β i = l.β j → i = j
  apart : ∀ i j g, i < S.F.length → j < S.F.length → (l.ν i).ownBlock = some g → (l.ν j).ownBlock = some g → i = j
  ok : S.Ok
structure Step (w w' : World) (fp fp' : Nat → Prop) : Prop where
  os : w'.os = w.os
  tape : w'.tape = w.tape
  output : w'.output = w.output
  size : w.heap.size ≤ w'.heap.size
  block : ∀ b, b < w.heap.size → ¬ fp b → w'.heap[b]? = w.heap[b]?
  more : ∀ b, fp' b → fp b ∨ w.heap.size ≤ b
namespace Step
variable {w w' w'' : World} {fp fp' fp'' : Nat → Prop}
theorem refl (w : World) (fp : Nat → Prop) : Step w w fp fp := ⟨rfl, rfl, rfl, Nat.le_refl _, fun _ _ _ => rfl, fun _ h => .inl h⟩
theorem trans (h : Step w w' fp fp') (k : Step w' w'' fp' fp'') : Step w w'' fp fp'' :=
  ⟨k.os.trans h.os, k.tape.trans h.tape, k.output.trans h.output, Nat.le_trans h.size k.size,
    fun b hb hn => (k.block b (Nat.lt_of_lt_of_le hb h.size) (fun h' => (h.more b h').elim hn (by omega))).trans (h.block b hb hn),
    fun b hb => (k.more b hb).elim (fun h' => h.more b h') (fun h' => .inr (Nat.le_trans h.size h'))⟩
theorem ofBelow (hb : Below w.heap.size w w') (fp : Nat → Prop) : Step w w' fp fp := ⟨hb.os, hb.tape, hb.output, hb.size, fun b h _ => hb.block b h, fun _ h => .inl h⟩
theorem below (h : Step w w' fp fp') {B : Nat} (hB : B ≤ w.heap.size) (hf : ∀ b, fp b → B ≤ b) : Below B w w' :=
  ⟨h.os, h.tape, h.output, h.size, fun k hk => h.block k (by omega) (fun hp => by have := hf k hp; omega)⟩
theorem base (h : Step w w' fp fp') {B : Nat} (hB : B ≤ w.heap.size) (hf : ∀ b, fp b → B ≤ b) : ∀ b, fp' b → B ≤ b := fun b hb => (h.more b hb).elim (hf b) (fun h' => by omega)
theorem ofGrown {row : Option Nat} (h : w.grownBy w' row) (hf : ∀ b, row = some b → fp b ∨ w.heap.size ≤ b) : Step w w' fp fp :=
  ⟨h.os, h.tape, h.output, h.size, fun b hb hn => h.block b hb (fun e => (hf b e.symm).elim hn (by omega)), fun _ h => .inl h⟩
theorem mono (h : Step w w' fp fp') {fp2 : Nat → Prop} (hf : ∀ b, fp2 b → fp' b ∨ w.heap.size ≤ b) : Step w w' fp fp2 :=
  ⟨h.os, h.tape, h.output, h.size, h.block, fun b hb => (hf b hb).elim (h.more b) .inr⟩
end Step
namespace IsFS
variable {w w' : World} {l : Lay} {S : St}
theorem lt (h : IsFS w l S) : ∀ b, l.at S.F.length b → b < w.heap.size := by
  intro b hb
  obtain ⟨wt, hk, _⟩ := h.blk
  rcases hb with rfl | hb | hb | hb | ⟨i, hi, rfl | hb⟩
  · exact hk.lt
  · exact h.now.lt b hb
  · exact h.last.lt b hb
  · exact (h.pend.lt b hb).2
  · exact (h.file i hi).lt.1
  · exact (h.file i hi).lt.2 b hb
theorem keep (h : IsFS w l S) (hk : ∀ b, l.at S.F.length b → w'.heap[b]? = w.heap[b]?) : IsFS w' l S := by
  obtain ⟨wt, hb, hw⟩ := h.blk
  refine ⟨⟨wt, (hk _ (.inl rfl)).trans hb, hw⟩, h.now.keep fun b hb => hk b (.inr (.inl hb)), h.last.keep fun b hb => hk b (.inr (.inr (.inl hb))), h.ne, ?_,
    fun i hi => (h.file i hi).keep (hk _ (.inr (.inr (.inr (.inr ⟨i, hi, .inl rfl⟩))))) (fun g hg => hk g (.inr (.inr (.inr (.inr ⟨i, hi, .inr hg⟩))))), h.inj, h.apart, h.ok⟩
  obtain ⟨hl, hp⟩ := h.pend
  refine ⟨hl, ?_⟩
  obtain hp | ⟨g, cap, cur, hv, hg, hh, r⟩ := hp
  · exact .inl hp
  · exact .inr ⟨g, cap, cur, hv, hg, (hk g (.inr (.inr (.inr (.inl (by rw [hv]; rfl)))))).trans hh, r⟩
theorem below (h : IsFS w l S) (hb : Below w.heap.size w w') : IsFS w' l S := h.keep fun b hk => hb.block b (h.lt b hk)
theorem cells (h : IsFS w l S) : ∃ wt, WaitOk S wt ∧ Blk w l.p 52 (fsC l S wt) ∧ w.cell? ⟨l.p, 0, none⟩ = some (.int .i64 (S.room : Nat)) ∧ w.cell? ⟨l.p, 1, none⟩ = some (.map l.nv) ∧ w.cell? ⟨l.p, 2, none⟩ = some (.map l.lv) ∧ w.cell? ⟨l.p, 3, none⟩ = some l.pv ∧ w.cell? ⟨l.p, 4, none⟩ = some (.int .i64 (S.calls : Nat)) ∧ w.cell? ⟨l.p, 5, none⟩ = some (.bool S.fail.isSome) ∧ w.cell? ⟨l.p, 6, none⟩ = some (.int .i64 wt) := by
  obtain ⟨wt, hk, hw⟩ := h.blk
  exact ⟨wt, hw, hk, hk.cell rfl, hk.cell rfl, hk.cell rfl, hk.cell rfl, hk.cell rfl, hk.cell rfl, hk.cell rfl⟩
theorem p_ne (h : IsFS w l S) : l.nv ≠ some l.p ∧ l.lv ≠ some l.p ∧ l.pv.ownBlock ≠ some l.p ∧ ∀ i, i < S.F.length → l.p ≠ l.β i ∧ (l.ν i).ownBlock ≠ some l.p := by
  obtain ⟨wt, hk, _⟩ := h.blk
  have hmap : ∀ mv L, IsDir w mv l.β L → mv ≠ some l.p := fun mv L hd e => by
    subst e
    obtain ⟨es, clock, hb, _⟩ := hd.own
    unfold Blk at hk; rw [hk] at hb; cases hb
  have hown : ∀ e sz v n xs, w.ownsRow 0 e sz v n xs → e ≠ 52 → v.ownBlock ≠ some l.p := fun e sz v n xs ho hne hv => by
    obtain ⟨_, ⟨rfl, _⟩ | ⟨g, cap, cur, rfl, _, hh, _⟩⟩ := ho
    · cases hv
    · simp only [Value.ownBlock, Option.some.injEq] at hv
      subst hv
      unfold Blk at hk; rw [hk] at hh
      simp at hh
      exact hne hh.2.symm
  refine ⟨hmap _ _ h.now, hmap _ _ h.last, hown _ _ _ _ _ h.pend (by decide), fun i hi => ⟨?_, hown _ _ _ _ _ (h.file i hi).2.1 (by decide)⟩⟩
  exact hk.ne (h.file i hi).1 (by decide)
theorem setP (h : IsFS w l S) {S' : St} {wt : Int} (hg : w.grownBy w' (some l.p)) (hk : Blk w' l.p 52 (fsC l S' wt)) (hw : WaitOk S' wt)
    (hF : S'.F = S.F) (hn : S'.now = S.now) (hl : S'.last = S.last) (hp : S'.pend = S.pend) (ho : S'.Ok) : IsFS w' l S' := by
  obtain ⟨n1, n2, n3, n4⟩ := h.p_ne
  have hb := fun b (hb : l.at S.F.length b) (hne : b ≠ l.p) => hg.block b (h.lt b hb) (by simpa using hne)
  refine ⟨⟨wt, hk, hw⟩, ?_, ?_, h.ne, ?_, ?_, ?_, ?_, ho⟩
  · rw [hn]; exact h.now.keep fun b e => hb b (.inr (.inl e)) (fun e' => n1 (by rw [e, e']))
  · rw [hl]; exact h.last.keep fun b e => hb b (.inr (.inr (.inl e))) (fun e' => n2 (by rw [e, e']))
  · rw [hp]
    obtain ⟨hl', hq⟩ := h.pend
    refine ⟨hl', ?_⟩
    obtain hq | ⟨g, cap, cur, hv, hg0, hh, r⟩ := hq
    · exact .inl hq
    · have e : l.pv.ownBlock = some g := by rw [hv]; rfl
      exact .inr ⟨g, cap, cur, hv, hg0, (hb g (.inr (.inr (.inr (.inl e)))) (fun e' => n3 (by rw [e, e']))).trans hh, r⟩
  · rw [hF]
    intro i hi
    have : S'.file i = S.file i := by unfold St.file; rw [hF]
    rw [this]
    exact (h.file i hi).keep (hb _ (.inr (.inr (.inr (.inr ⟨i, hi, .inl rfl⟩)))) (fun e => (n4 i hi).1 e.symm)) (fun g e => hb g (.inr (.inr (.inr (.inr ⟨i, hi, .inr e⟩)))) (fun e' => (n4 i hi).2 (by rw [e, e'])))
  · rw [hF]; exact h.inj
  · rw [hF]; exact h.apart
end IsFS
def errV (n : Nat) : Value := .int .i64 (n : Nat)
def Gone (w : World) (l : Lay) (S S' : St) (w' : World) : Prop := ∃ l', l'.p = l.p ∧ Hid (IsFS w' l' S') ∧ Hid (Step w w' (l.at S.F.length) (l'.at S'.F.length))
def Same (w : World) (l : Lay) (S S' : St) (w' : World) : Prop := Hid (IsFS w' l S') ∧ Hid (w.grownBy w' (some l.p))
theorem Same.gone {w w' : World} {l : Lay} {S S' : St} (h : Same w l S S' w') (hF : S'.F.length = S.F.length) : Gone w l S S' w' :=
  ⟨l, rfl, h.1, Lib.hid (by rw [hF]; exact Step.ofGrown h.2.out (fun b hb => by cases hb; exact .inl (.inl rfl)))⟩
set_option maxHeartbeats 4000000 in
theorem find_any (l : Lay) (S : St) (n : ByteArray) (w : World) (h : IsFS w l S) (hn : n.size ≤ maxLen) :
    Calls Tryz.prog 57 #[.pointer (some ⟨l.p, 0, none⟩), .string n] w fun e w' => e = .returned (ptrO ((dget S.now n.data.toList).map l.β)) ∧ w' = w := by
  obtain ⟨wt, _, hk, _, c1, _⟩ := h.cells
  have hlk := dir_look h.now hn
  generalize ptrO ((dget S.now n.data.toList).map l.β) = r at hlk ⊢
  clear h hk
  go_enter Tryz.func57, Tryz.ntmps57
  go_wp2_with fail
  go_ret
  exact ⟨rfl, rfl⟩
def begE (S : St) : Value := .int .i64 (if (beg S).2 then 5 else 0)
set_option maxHeartbeats 4000000 in
theorem begin_any (l : Lay) (S : St) (w : World) (h : IsFS w l S) (hc : S.calls ≤ 1099511627776) :
    Calls Tryz.prog 18 #[.pointer (some ⟨l.p, 0, none⟩)] w fun e w' => e = .returned (begE S) ∧ Same w l S (beg S).1 w' := by
  obtain ⟨wt, hw, hk, c0, c1, c2, c3, c4, c5, c6⟩ := h.cells
  obtain ⟨C, hC⟩ : ∃ C, S.calls = C := ⟨_, rfl⟩
  have hok := beg_ok h.ok
  have hwt : ∀ k, S.fail = some k → wt = (k : Nat) ∧ k < 9223372036854775808 := hw
  have hfr : ∀ o, w.frozen? ⟨l.p, o, none⟩ = false := fun o => hk.frozen o
  have f4 := hfr 4
  have f5 := hfr 5
  have f6 := hfr 6
  clear hfr
  rw [hC] at c4 hc
  have H := Lib.hid h
  have HK := Lib.hid hk
  have HOK := Lib.hid hok
  clear h hk hok c0 c1 c2 c3
  cases hf : S.fail with
  | none =>
    rw [hf] at c5
    simp only [Option.isSome_none] at c5
    go_enter Tryz.func18, Tryz.ntmps18
    go_wp2_with fail
    go_ret
    refine ⟨?_, Lib.hid ?_, Lib.hid ?_⟩
    · simp only [begE, beg, hf]; rfl
    · refine H.out.setP (wt := wt) ((Gr.refl w l.p).setCell 4 _) ?_ ?_ ?_ ?_ ?_ ?_ HOK.out
      · have := HK.out.set 4 (.int .i64 ((C : Int) + 1))
        simpa [fsC, beg, hf, hC] using this
      all_goals simp [beg, hf, WaitOk]
    · exact (Gr.refl w l.p).setCell 4 _
  | some k =>
    rw [hf] at c5
    obtain ⟨hwk, hk63⟩ := hwt k hf
    subst hwk
    clear hwt hw
    simp only [Option.isSome_some] at c5
    cases k with
    | zero =>
      go_enter Tryz.func18, Tryz.ntmps18
      go_wp2_with fail
      go_ret
      refine ⟨?_, Lib.hid ?_, Lib.hid ?_⟩
      · simp only [begE, beg, hf]; rfl
      · refine H.out.setP (wt := -1) ((((Gr.refl w l.p).setCell 4 _).setCell 6 _).setCell 5 _) ?_ ?_ ?_ ?_ ?_ ?_ HOK.out
        · have := ((HK.out.set 4 (.int .i64 ((C : Int) + 1))).set 6 (.int .i64 (-1))).set 5 (.bool false)
          simpa [fsC, beg, hf, hC] using this
        all_goals simp [beg, hf, WaitOk]
      · exact (((Gr.refl w l.p).setCell 4 _).setCell 6 _).setCell 5 _
    | succ k =>
      go_enter Tryz.func18, Tryz.ntmps18
      go_wp2_with fail
      go_ret
      refine ⟨?_, Lib.hid ?_, Lib.hid ?_⟩
      · simp only [begE, beg, hf]; rfl
      · refine H.out.setP (wt := (k : Nat)) (((Gr.refl w l.p).setCell 4 _).setCell 6 _) ?_ ?_ ?_ ?_ ?_ ?_ HOK.out
        · have := (HK.out.set 4 (.int .i64 ((C : Int) + 1))).set 6 (.int .i64 (k : Nat))
          simpa [fsC, beg, hf, hC] using this
        · intro q hq
          simp [beg, hf] at hq
          subst hq
          exact ⟨rfl, by omega⟩
        all_goals simp [beg, hf]
      · exact ((Gr.refl w l.p).setCell 4 _).setCell 6 _
def WithPost (l : Lay) (S : St) (n : Nm) (w : World) (e : Ending) (w' : World) : Prop :=
  Same w l S (beg S).1 w' ∧ e = .returned (.tuple #[if (beg S).2 then .pointer none else ptrO ((dget S.now n).map l.β), errV (if (beg S).2 then 5 else if (dget S.now n).isNone then 3 else 0)])
theorem beg_now (S : St) : (beg S).1.now = S.now := by unfold beg; split <;> rfl
theorem beg_F (S : St) : (beg S).1.F = S.F := by unfold beg; split <;> rfl
theorem beg_pend (S : St) : (beg S).1.pend = S.pend := by unfold beg; split <;> rfl
theorem beg_calls (S : St) : (beg S).1.calls = S.calls + 1 := by unfold beg; split <;> rfl
set_option maxHeartbeats 4000000 in
theorem beginWith_any (l : Lay) (S : St) (n : ByteArray) (w : World) (h : IsFS w l S) (hn : n.size ≤ maxLen) (hc : S.calls ≤ 1099511627776) :
    Calls Tryz.prog 83 #[.pointer (some ⟨l.p, 0, none⟩), .string n] w (WithPost l S n.data.toList w) := by
  have hb := begin_any l S w h hc
  unfold begE at hb
  obtain ⟨b, hbb⟩ : ∃ b, (beg S).2 = b := ⟨_, rfl⟩
  rw [hbb] at hb
  unfold WithPost
  rw [hbb]
  cases b with
  | true =>
    clear h
    go_enter Tryz.func83, Tryz.ntmps83
    go_wp2_with fail
    refine hb.mono ?_
    rintro e w1 ⟨rfl, hs⟩
    simp only [if_true]
    clear hb
    go_wp2_with fail
    go_ret2
    exact ⟨hs, rfl⟩
  | false =>
    have hfind := fun w1 (h1 : IsFS w1 l (beg S).1) => find_any l (beg S).1 n w1 h1 hn
    rw [beg_now] at hfind
    have HFI := Lib.hid hfind
    clear hfind h
    cases hd : dget S.now n.data.toList with
    | none =>
      rw [hd] at HFI
      go_enter Tryz.func83, Tryz.ntmps83
      go_wp2_with fail
      refine hb.mono ?_
      rintro e w1 ⟨rfl, hs⟩
      have hf := HFI.out w1 hs.1.out
      simp only [Option.map_none, ptrO] at hf
      have HS := Lib.hid hs
      clear hb hs HFI
      go_wp2_with fail
      refine hf.mono ?_
      rintro e w2 ⟨rfl, rfl⟩
      clear hf
      go_wp2_with fail
      go_ret2
      exact ⟨HS.out, rfl⟩
    | some i =>
      rw [hd] at HFI
      go_enter Tryz.func83, Tryz.ntmps83
      go_wp2_with fail
      refine hb.mono ?_
      rintro e w1 ⟨rfl, hs⟩
      have hf := HFI.out w1 hs.1.out
      simp only [Option.map_some, ptrO] at hf
      have HS := Lib.hid hs
      clear hb hs HFI
      go_wp2_with fail
      refine hf.mono ?_
      rintro e w2 ⟨rfl, rfl⟩
      clear hf
      go_wp2_with fail
      go_ret2
      exact ⟨HS.out, rfl⟩
end Go.Proofs.YthgpdnffahmhjaaGreatDoor.S13
namespace Go.Proofs.YthgpdnffahmhjaaGreatDoor.S13
open Go.RowKit Go.Maps Go.Shelf Dk
theorem own_type_ne {w : World} {e1 e2 s1 s2 n1 n2 : Nat} {v1 v2 : Value} {x1 x2 : List Value} (h1 : w.ownsRow 0 e1 s1 v1 n1 x1) (h2 : w.ownsRow 0 e2 s2 v2 n2 x2) (hne : e1 ≠ e2) : ∀ g, v1.ownBlock = some g → v2.ownBlock ≠ some g := by
  intro g hg hg2
  obtain ⟨_, ⟨rfl, _⟩ | ⟨g1, c1, cur1, rfl, _, hh1, _⟩⟩ := h1
  · cases hg
  obtain ⟨_, ⟨rfl, _⟩ | ⟨g2, c2, cur2, rfl, _, hh2, _⟩⟩ := h2
  · cases hg2
  simp only [Value.ownBlock, Option.some.injEq] at hg hg2
  subst hg hg2
  rw [hh1] at hh2
  simp at hh2
  exact hne hh2.2
theorem own_map_ne {w : World} {e s n : Nat} {v : Value} {x : List Value} {b : Nat} {β : Nat → Nat} {L : Dir} (h1 : w.ownsRow 0 e s v n x) (h2 : IsDir w (some b) β L) : v.ownBlock ≠ some b := by
  intro hg
  obtain ⟨_, ⟨rfl, _⟩ | ⟨g1, c1, cur1, rfl, _, hh1, _⟩⟩ := h1
  · cases hg
  obtain ⟨es, clock, hb, _⟩ := h2.own
  simp only [Value.ownBlock, Option.some.injEq] at hg
  subst hg
  rw [hh1] at hb; cases hb
theorem blk_map_ne {w : World} {p t : Nat} {c : List Value} {b : Nat} {β : Nat → Nat} {L : Dir} (h1 : Blk w p t c) (h2 : IsDir w (some b) β L) : p ≠ b := by
  intro e
  subst e
  obtain ⟨es, clock, hb, _⟩ := h2.own
  unfold Blk at h1
  rw [h1] at hb; cases hb
theorem blk_own_ne {w : World} {p t : Nat} {c : List Value} {e s n : Nat} {v : Value} {x : List Value} (h1 : Blk w p t c) (h2 : w.ownsRow 0 e s v n x) (hne : t ≠ e) : v.ownBlock ≠ some p := by
  intro hg
  obtain ⟨_, ⟨rfl, _⟩ | ⟨g1, c1, cur1, rfl, _, hh1, _⟩⟩ := h2
  · cases hg
  simp only [Value.ownBlock, Option.some.injEq] at hg
  subst hg
  unfold Blk at h1
  rw [h1] at hh1
  simp at hh1
  exact hne hh1.2
namespace IsFS
variable {Y Z V1 : World} {l : Lay} {S : St}
theorem newMap (h : IsFS Y l S) (hn : l.nv = none) : IsFS ((Y.setCell ⟨l.p, 1, none⟩ (.map (some Y.heap.size))).alloc (.map #[] 0)) { l with nv := some Y.heap.size } S ∧
    Step Y ((Y.setCell ⟨l.p, 1, none⟩ (.map (some Y.heap.size))).alloc (.map #[] 0)) (l.at S.F.length) (Lay.at { l with nv := some Y.heap.size } S.F.length) := by
  obtain ⟨wt, hw, hk, _⟩ := h.cells
  have hS : S.now = [] := by
    obtain ⟨_, e⟩ | ⟨b, e, _⟩ := h.now
    · exact e
    · rw [hn] at e; cases e
  obtain ⟨n1, n2, n3, n4⟩ := h.p_ne
  have hp := h.lt _ (.inl rfl)
  have hb : ∀ b, b < Y.heap.size → b ≠ l.p → ((Y.setCell ⟨l.p, 1, none⟩ (.map (some Y.heap.size))).alloc (.map #[] 0)).heap[b]? = Y.heap[b]? := fun b hb hne => by
    rw [Below.heap_alloc _ _ b (by simpa using hb), Below.heap_setCell _ _ _ b hne]
  have hnew : ((Y.setCell ⟨l.p, 1, none⟩ (.map (some Y.heap.size))).alloc (.map #[] 0)).heap[Y.heap.size]? = some (.map #[] 0) := by
    have := (MapKept.heap_alloc (Y.setCell ⟨l.p, 1, none⟩ (.map (some Y.heap.size))) (.map #[] 0)).1
    have e : (Y.setCell ⟨l.p, 1, none⟩ (.map (some Y.heap.size))).heap.size = Y.heap.size := by simp
    rw [e] at this
    exact this
  have hat : ∀ b, l.at S.F.length b → b < Y.heap.size := h.lt
  refine ⟨⟨⟨wt, ?_, hw⟩, ?_, ?_, ?_, ?_, ?_, h.inj, h.apart, h.ok⟩, ?_⟩
  · have := (hk.set 1 (.map (some Y.heap.size))).alloc (.map #[] 0)
    simpa [fsC] using this
  · rw [hS]
    exact .inr ⟨_, rfl, #[], 0, hnew, ⟨by simp, MapKept.stamped_empty 0, by simp⟩, Nat.le_refl _, rfl⟩
  · exact h.last.keep fun b e => hb b (hat b (.inr (.inr (.inl e)))) (fun e' => n2 (by rw [e, e']))
  · intro b e e2
    simp at e
    have := hat b (.inr (.inr (.inl e2)))
    omega
  · obtain ⟨hl', hq⟩ := h.pend
    refine ⟨hl', ?_⟩
    obtain hq | ⟨g, cap, cur, hv, hg0, hh, r⟩ := hq
    · exact .inl hq
    · have e : l.pv.ownBlock = some g := by rw [hv]; rfl
      exact .inr ⟨g, cap, cur, hv, hg0, (hb g (hat g (.inr (.inr (.inr (.inl e))))) (fun e' => n3 (by rw [e, e']))).trans hh, r⟩
  · intro i hi
    exact (h.file i hi).keep (hb _ (hat _ (.inr (.inr (.inr (.inr ⟨i, hi, .inl rfl⟩))))) (fun e => (n4 i hi).1 e.symm)) (fun g e => hb g (hat g (.inr (.inr (.inr (.inr ⟨i, hi, .inr e⟩))))) (fun e' => (n4 i hi).2 (by rw [e, e'])))
  · refine ⟨rfl, rfl, rfl, by simp, fun b hb' hn' => hb b hb' (fun e => hn' (.inl e)), fun b hb' => ?_⟩
    rcases hb' with e | e | e | e | e
    · exact .inl (.inl e)
    · right; simp at e; omega
    · exact .inl (.inr (.inr (.inl e)))
    · exact .inl (.inr (.inr (.inr (.inl e))))
    · exact .inl (.inr (.inr (.inr (.inr e))))
theorem change (h : IsFS Y l S) {nb : Nat} (hn : l.nv = some nb) {c : Chg} {pv' : Value} (hYZ : Y.grownBy Z (some nb)) (hd : IsDir Z (some nb) l.β (app1 S.now c)) (hZV : Z.grownBy V1 l.pv.ownBlock)
    (ho : V1.ownsRow 0 66 3 pv' (S.pend.length + 1) (chgs l.β S.pend ++ chgC l.β c)) (hni : Nigh Z l.pv pv') (hok : (S.chg c).Ok) :
    IsFS (V1.setCell ⟨l.p, 3, none⟩ pv') { l with pv := pv' } (S.chg c) ∧ Step Y (V1.setCell ⟨l.p, 3, none⟩ pv') (l.at S.F.length) (Lay.at { l with pv := pv' } S.F.length) := by
  obtain ⟨wt, hw, hk, _⟩ := h.cells
  obtain ⟨n1, n2, n3, n4⟩ := h.p_ne
  have hnow := h.now
  rw [hn] at hnow n1
  have hpn : l.p ≠ nb := fun e => n1 (by rw [e])
  have hpl := h.lt _ (.inl rfl)
  have hsz := hYZ.size
  have hb : ∀ b, b < Y.heap.size → b ≠ l.p → b ≠ nb → l.pv.ownBlock ≠ some b → (V1.setCell ⟨l.p, 3, none⟩ pv').heap[b]? = Y.heap[b]? := fun b hb h1 h2 h3 => by
    rw [Below.heap_setCell _ _ _ b h1, hZV.block b (Nat.lt_of_lt_of_le hb hsz) (fun e => h3 e.symm)]
    exact hYZ.block b hb (by simpa using h2)
  have hpnb : l.pv.ownBlock ≠ some nb := own_map_ne h.pend hnow
  have hfile : ∀ i, i < S.F.length → (l.β i < Y.heap.size ∧ l.β i ≠ l.p ∧ l.β i ≠ nb ∧ l.pv.ownBlock ≠ some (l.β i)) ∧ ∀ g, (l.ν i).ownBlock = some g → g < Y.heap.size ∧ g ≠ l.p ∧ g ≠ nb ∧ l.pv.ownBlock ≠ some g := fun i hi => by
    have hf := h.file i hi
    refine ⟨⟨hf.lt.1, fun e => (n4 i hi).1 e.symm, blk_map_ne hf.1 hnow, blk_own_ne hf.1 h.pend (by decide)⟩, fun g hg => ⟨hf.lt.2 g hg, fun e => (n4 i hi).2 (by rw [hg, e]), fun e => own_map_ne hf.2.1 hnow (by rw [hg, e]), fun e => own_type_ne hf.2.1 h.pend (by decide) g hg e⟩⟩
  have hVp : Blk V1 l.p 52 (fsC l S wt) := ((hk.grown hYZ (by simpa using hpn)).grown hZV (fun e => n3 e.symm))
  have hlast : ∀ b, l.lv = some b → b < Y.heap.size ∧ b ≠ l.p ∧ b ≠ nb ∧ l.pv.ownBlock ≠ some b := fun b e => by
    have hl := h.last
    rw [e] at hl
    exact ⟨h.lt b (.inr (.inr (.inl e))), fun e' => n2 (by rw [e, e']), fun e' => h.ne nb hn (by rw [e, e']), own_map_ne h.pend hl⟩
  have hpv : pv'.ownBlock ≠ some l.p := fun e => by
    rcases hni _ e with e' | e'
    · exact n3 e'
    · omega
  have hVo : (V1.setCell ⟨l.p, 3, none⟩ pv').ownsRow 0 66 3 pv' (S.pend.length + 1) (chgs l.β S.pend ++ chgC l.β c) := by
    refine ho.kept (Gr.setCell (Gr.refl V1 l.p) 3 pv') ?_
    cases hq : pv'.ownBlock with
    | none => exact .inl rfl
    | some g => exact .inr (fun e => hpv (by rw [hq]; exact e))
  refine ⟨⟨⟨wt, ?_, hw⟩, ?_, ?_, ?_, ?_, ?_, h.inj, h.apart, hok⟩, ?_⟩
  · have := hVp.set 3 pv'
    simpa [fsC, St.chg] using this
  · show IsDir _ l.nv l.β (app1 S.now c)
    rw [hn]
    refine hd.keep fun b e => ?_
    cases e
    rw [Below.heap_setCell _ _ _ nb hpn.symm, hZV.block nb (hd.lt nb rfl) (fun e => hpnb e.symm)]
  · exact h.last.keep fun b e => by
      obtain ⟨a1, a2, a3, a4⟩ := hlast b e
      exact hb b a1 a2 a3 a4
  · exact h.ne
  · show World.ownsRow _ 0 _ 3 pv' (S.pend ++ [c]).length (chgs l.β (S.pend ++ [c]))
    have e1 : (S.pend ++ [c]).length = S.pend.length + 1 := by simp
    have e2 : chgs l.β (S.pend ++ [c]) = chgs l.β S.pend ++ chgC l.β c := by simp [chgs]
    rw [e1, e2]
    exact hVo
  · intro i hi
    obtain ⟨⟨a1, a2, a3, a4⟩, hg⟩ := hfile i hi
    exact (h.file i hi).keep (hb _ a1 a2 a3 a4) (fun g e => by obtain ⟨b1, b2, b3, b4⟩ := hg g e; exact hb g b1 b2 b3 b4)
  · refine ⟨hZV.os.trans hYZ.os, hZV.tape.trans hYZ.tape, hZV.output.trans hYZ.output, ?_, fun b hb' hn' => hb b hb' (fun e => hn' (.inl e)) (fun e => hn' (.inr (.inl (by rw [hn, e])))) (fun e => hn' (.inr (.inr (.inr (.inl e))))), fun b hb' => ?_⟩
    · have := hZV.size
      have e0 : (V1.setCell ⟨l.p, 3, none⟩ pv').heap.size = V1.heap.size := by simp
      omega
    rcases hb' with e | e | e | e | e
    · exact .inl (.inl e)
    · exact .inl (.inr (.inl e))
    · exact .inl (.inr (.inr (.inl e)))
    · rcases hni b e with e' | e'
      · exact .inl (.inr (.inr (.inr (.inl e'))))
      · right; omega
    · exact .inl (.inr (.inr (.inr (.inr e))))
end IsFS
end Go.Proofs.YthgpdnffahmhjaaGreatDoor.S13
namespace Go.Proofs.YthgpdnffahmhjaaGreatDoor.S13
open Go.RowKit Go.Maps Go.Shelf Dk
def upd {α : Type} (f : Nat → α) (i : Nat) (x : α) : Nat → α := fun j => if j = i then x else f j
theorem upd_same {α : Type} (f : Nat → α) (i : Nat) (x : α) : upd f i x i = x := by simp [upd]
theorem upd_ne {α : Type} (f : Nat → α) {i j : Nat} (x : α) (h : j ≠ i) : upd f i x j = f j := by simp [upd, h]
theorem Gone.trans {w w' w'' : World} {l : Lay} {S S' S'' : St} (h : Same w l S S' w') (hF : S'.F.length = S.F.length) (k : Gone w' l S' S'' w'') : Gone w l S S'' w'' := by
  obtain ⟨l', hp, hI, hS⟩ := k
  refine ⟨l', hp, hI, Lib.hid (Step.trans (fp' := l.at S'.F.length) ?_ hS.out)⟩
  rw [hF]
  exact Step.ofGrown h.2.out (fun b hb => by cases hb; exact .inl (.inl rfl))
theorem put_file (S : St) (i j : Nat) (x : List Nat × Nat) (hi : i < S.F.length) : (S.put i x).file j = if j = i then x else S.file j := by
  unfold St.file St.put
  simp only [List.getD_eq_getElem?_getD, List.getElem?_set]
  by_cases h : j = i
  · subst h; simp [hi]
  · have : ¬ i = j := fun e => h e.symm
    simp [h, this]
theorem chgs_congr {β β' : Nat → Nat} {C : List Chg} (h : ∀ c ∈ C, ∀ i, c.2.2 = some i → β i = β' i) : chgs β C = chgs β' C := by
  unfold chgs
  rw [List.flatMap_def, List.flatMap_def]
  congr 1
  refine List.map_congr_left fun c hc => ?_
  unfold chgC
  cases hf : c.2.2 with
  | none => rfl
  | some i => simp [h c hc i hf]
namespace IsFS
variable {w V : World} {l : Lay} {S : St}
theorem putFile (h : IsFS w l S) {i : Nat} (hi : i < S.F.length) {v' : Value} {x : List Nat × Nat} (hos : V.os = w.os) (htp : V.tape = w.tape) (hout : V.output = w.output) (hsz : w.heap.size ≤ V.heap.size)
    (hb : ∀ b, b < w.heap.size → b ≠ l.β i → (l.ν i).ownBlock ≠ some b → V.heap[b]? = w.heap[b]?) (hf : IsFile V (l.β i) v' x) (hn : Nigh w (l.ν i) v') (hok : (S.put i x).Ok) :
    IsFS V { l with ν := upd l.ν i v' } (S.put i x) ∧ Step w V (l.at S.F.length) (Lay.at { l with ν := upd l.ν i v' } S.F.length) := by
  obtain ⟨wt, hw, hk, _⟩ := h.cells
  obtain ⟨n1, n2, n3, n4⟩ := h.p_ne
  have hfi := h.file i hi
  have hF : (S.put i x).F.length = S.F.length := by simp [St.put]
  have hmap : ∀ mv L, IsDir w mv l.β L → IsDir V mv l.β L := fun mv L hd => hd.keep fun b e => by
    subst e
    exact hb b (hd.lt b rfl) (fun e => blk_map_ne hfi.1 hd e.symm) (own_map_ne hfi.2.1 hd)
  refine ⟨⟨⟨wt, ?_, hw⟩, hmap _ _ h.now, hmap _ _ h.last, h.ne, ?_, ?_, ?_, ?_, hok⟩, ?_⟩
  · exact (hb l.p hk.lt (n4 i hi).1 (n4 i hi).2).trans hk
  · obtain ⟨hl', hq⟩ := h.pend
    refine ⟨hl', ?_⟩
    obtain hq | ⟨g, cap, cur, hv, hg0, hh, r⟩ := hq
    · exact .inl hq
    · have e : l.pv.ownBlock = some g := by rw [hv]; rfl
      exact .inr ⟨g, cap, cur, hv, hg0, (hb g (h.lt g (.inr (.inr (.inr (.inl e))))) (fun e' => blk_own_ne hfi.1 h.pend (by decide) (by rw [e, e'])) (fun e' => own_type_ne hfi.2.1 h.pend (by decide) g e' e)).trans hh, r⟩
  · intro j hj
    rw [hF] at hj
    show IsFile V (l.β j) (upd l.ν i v' j) ((S.put i x).file j)
    rw [put_file S i j x hi]
    by_cases e : j = i
    · subst e
      rw [upd_same, if_pos rfl]
      exact hf
    · rw [upd_ne _ _ e, if_neg e]
      have hfj := h.file j hj
      exact hfj.keep (hb _ hfj.lt.1 (fun e' => e (h.inj j i hj hi e')) (blk_own_ne hfj.1 hfi.2.1 (by decide)))
        (fun g hg => hb g (hfj.lt.2 g hg) (fun e' => blk_own_ne hfi.1 hfj.2.1 (by decide) (by rw [hg, e'])) (fun e' => e (h.apart j i g hj hi hg e')))
  · intro a b ha hb'
    rw [hF] at ha hb'
    exact h.inj a b ha hb'
  · intro a b g ha hb' ga gb
    rw [hF] at ha hb'
    have hlt : ∀ j, j < S.F.length → ∀ g, (l.ν j).ownBlock = some g → g < w.heap.size := fun j hj g hg => (h.file j hj).lt.2 g hg
    by_cases ea : a = i <;> by_cases eb : b = i
    · rw [ea, eb]
    · exfalso
      change (upd l.ν i v' a).ownBlock = some g at ga
      change (upd l.ν i v' b).ownBlock = some g at gb
      rw [ea, upd_same] at ga
      rw [upd_ne _ _ eb] at gb
      rcases hn g ga with e' | e'
      · exact eb (h.apart b i g hb' hi gb e')
      · have := hlt b hb' g gb; omega
    · exfalso
      change (upd l.ν i v' a).ownBlock = some g at ga
      change (upd l.ν i v' b).ownBlock = some g at gb
      rw [eb, upd_same] at gb
      rw [upd_ne _ _ ea] at ga
      rcases hn g gb with e' | e'
      · exact ea (h.apart a i g ha hi ga e')
      · have := hlt a ha g ga; omega
    · change (upd l.ν i v' a).ownBlock = some g at ga
      change (upd l.ν i v' b).ownBlock = some g at gb
      rw [upd_ne _ _ ea] at ga
      rw [upd_ne _ _ eb] at gb
      exact h.apart a b g ha hb' ga gb
  · refine ⟨hos, htp, hout, hsz, fun b hb' hn' => hb b hb' (fun e => hn' (.inr (.inr (.inr (.inr ⟨i, hi, .inl e⟩))))) (fun e => hn' (.inr (.inr (.inr (.inr ⟨i, hi, .inr e⟩))))), fun b hb' => ?_⟩
    rcases hb' with e | e | e | e | ⟨j, hj, e | e⟩
    · exact .inl (.inl e)
    · exact .inl (.inr (.inl e))
    · exact .inl (.inr (.inr (.inl e)))
    · exact .inl (.inr (.inr (.inr (.inl e))))
    · exact .inl (.inr (.inr (.inr (.inr ⟨j, hj, .inl e⟩))))
    · change (upd l.ν i v' j).ownBlock = some b at e
      by_cases ej : j = i
      · rw [ej, upd_same] at e
        rcases hn b e with e' | e'
        · exact .inl (.inr (.inr (.inr (.inr ⟨i, hi, .inr e'⟩))))
        · exact .inr e'
      · rw [upd_ne _ _ ej] at e
        exact .inl (.inr (.inr (.inr (.inr ⟨j, hj, .inr e⟩))))
theorem moreFile (h : IsFS w l S) :
    IsFS (w.alloc (.cells #[.slice none 0 0, .int .i64 0] 64)) { l with β := upd l.β S.F.length w.heap.size, ν := upd l.ν S.F.length (.slice none 0 0) } { S with F := S.F ++ [([], 0)] } ∧
      Step w (w.alloc (.cells #[.slice none 0 0, .int .i64 0] 64)) (l.at S.F.length) (Lay.at { l with β := upd l.β S.F.length w.heap.size, ν := upd l.ν S.F.length (.slice none 0 0) } (S.F.length + 1)) := by
  obtain ⟨N, hN⟩ : ∃ N, S.F.length = N := ⟨_, rfl⟩
  rw [hN]
  have hW := h.below ((Below.refl w.heap.size w).alloc (Nat.le_refl _) (.cells #[.slice none 0 0, .int .i64 0] 64))
  have hnew := Blk.new w 64 [.slice none 0 0, .int .i64 0]
  have hlt := h.lt
  rw [hN] at hlt
  have hob : ∀ j, j < N → upd l.β N w.heap.size j = l.β j := fun j hj => upd_ne _ _ (by omega)
  have hlen : (S.F ++ [(([] : List Nat), 0)]).length = N + 1 := by simp [hN]
  have hfile : ∀ j, St.file { S with F := S.F ++ [([], 0)] } j = S.file j := fun j => by
    unfold St.file
    simp only [List.getD_eq_getElem?_getD]
    by_cases hj : j < S.F.length
    · rw [List.getElem?_append_left hj]
    · rw [List.getElem?_append_right (by omega), List.getElem?_eq_none (by omega : S.F.length ≤ j)]
      cases hq : j - S.F.length with
      | zero => simp
      | succ m => simp
  refine ⟨⟨hW.blk, ?_, ?_, hW.ne, ?_, ?_, ?_, ?_, more_ok h.ok⟩, ?_⟩
  · exact hW.now.congr fun p hp => (hob p.2 (by have := h.ok.now p hp; omega)).symm
  · exact hW.last.congr fun p hp => (hob p.2 (by have := h.ok.last p hp; omega)).symm
  · have := hW.pend
    rw [chgs_congr (β' := upd l.β N w.heap.size) (fun c hc i hi => (hob i (by have := h.ok.pend c hc i hi; omega)).symm)] at this
    exact this
  · intro i hi
    change i < (S.F ++ [([], 0)]).length at hi
    rw [hlen] at hi
    show IsFile _ (upd l.β N w.heap.size i) (upd l.ν N (.slice none 0 0) i) _
    rw [hfile i]
    by_cases e : i = N
    · rw [e, upd_same, upd_same]
      have h0 : S.file N = ([], 0) := by
        unfold St.file
        rw [List.getD_eq_getElem?_getD, List.getElem?_eq_none (by omega)]; rfl
      rw [h0]
      exact ⟨hnew, World.ownsRow_nil _ _ _ _, by simp⟩
    · rw [hob i (by omega), upd_ne _ _ e]
      exact hW.file i (by omega)
  · intro a b ha hb e
    change a < (S.F ++ [([], 0)]).length at ha
    change b < (S.F ++ [([], 0)]).length at hb
    rw [hlen] at ha hb
    change upd l.β N w.heap.size a = upd l.β N w.heap.size b at e
    have hl : ∀ j, j < N → l.β j < w.heap.size := fun j hj => (h.file j (by omega)).lt.1
    by_cases ea : a = N <;> by_cases eb : b = N
    · rw [ea, eb]
    · rw [ea, upd_same, hob b (by omega)] at e
      have := hl b (by omega); omega
    · rw [eb, upd_same, hob a (by omega)] at e
      have := hl a (by omega); omega
    · rw [hob a (by omega), hob b (by omega)] at e
      exact h.inj a b (by omega) (by omega) e
  · intro a b g ha hb ga gb
    change a < (S.F ++ [([], 0)]).length at ha
    change b < (S.F ++ [([], 0)]).length at hb
    rw [hlen] at ha hb
    change (upd l.ν N (.slice none 0 0) a).ownBlock = some g at ga
    change (upd l.ν N (.slice none 0 0) b).ownBlock = some g at gb
    have hne : ∀ j, j < N + 1 → (upd l.ν N (.slice none 0 0) j).ownBlock = some g → j ≠ N := fun j hj hg e => by
      rw [e, upd_same] at hg; cases hg
    have ea := hne a ha ga
    have eb := hne b hb gb
    rw [upd_ne _ _ ea] at ga
    rw [upd_ne _ _ eb] at gb
    exact h.apart a b g (by omega) (by omega) ga gb
  · refine ⟨rfl, rfl, rfl, by simp, fun b hb' hn' => Below.heap_alloc w _ b hb', fun b hb' => ?_⟩
    rcases hb' with e | e | e | e | ⟨j, hj, e | e⟩
    · exact .inl (.inl e)
    · exact .inl (.inr (.inl e))
    · exact .inl (.inr (.inr (.inl e)))
    · exact .inl (.inr (.inr (.inr (.inl e))))
    · change b = upd l.β N w.heap.size j at e
      by_cases ej : j = N
      · rw [ej, upd_same] at e; right; omega
      · rw [hob j (by omega)] at e
        exact .inl (.inr (.inr (.inr (.inr ⟨j, by omega, .inl e⟩))))
    · change (upd l.ν N (.slice none 0 0) j).ownBlock = some b at e
      by_cases ej : j = N
      · rw [ej, upd_same] at e; cases e
      · rw [upd_ne _ _ ej] at e
        exact .inl (.inr (.inr (.inr (.inr ⟨j, by omega, .inr e⟩))))
end IsFS
end Go.Proofs.YthgpdnffahmhjaaGreatDoor.S13
namespace Go.Proofs.YthgpdnffahmhjaaGreatDoor.S13
open Go.RowKit Go.Maps Go.Shelf Dk
abbrev fsP (l : Lay) : Value := .pointer (some ⟨l.p, 0, none⟩)
def NewPost (n : Int) (w : World) (e : Ending) (w' : World) : Prop :=
  ∃ l, e = .returned (fsP l) ∧ Hid (IsFS w' l (new n)) ∧ (∀ b, l.at 0 b → w.heap.size ≤ b) ∧ Hid (Below w.heap.size w w')
theorem new_fs (n : Nat) (S : St) (w : World) (hS : S = ⟨n, [], [], [], [], 0, none⟩) (hok : S.Ok) :
    IsFS (w.alloc (.cells #[.int .i64 n, .map none, .map none, .slice none 0 0, .int .i64 0, .bool false, .int .i64 0] 52)) ⟨w.heap.size, none, none, .slice none 0 0, fun _ => 0, fun _ => .slice none 0 0⟩ S := by
  subst hS
  refine ⟨⟨0, Blk.new w 52 [.int .i64 n, .map none, .map none, .slice none 0 0, .int .i64 0, .bool false, .int .i64 0], by intro k hk; cases hk⟩, .inl ⟨rfl, rfl⟩, .inl ⟨rfl, rfl⟩, (by intro b hb; cases hb), World.ownsRow_nil _ _ _ _, ?_, ?_, ?_, hok⟩
  · intro i hi; simp at hi
  · intro i j hi; simp at hi
  · intro i j g hi; simp at hi
set_option maxHeartbeats 4000000 in
theorem new_any (n : Int) (w : World) : Calls Tryz.prog 5 #[.int .i64 n] w (NewPost n w) := by
  have hc := clamped_any n w
  obtain ⟨m, hm⟩ : ∃ m, clampN n = m := ⟨_, rfl⟩
  rw [hm] at hc
  go_enter Tryz.func5, Tryz.ntmps5
  go_wp2_with fail
  refine hc.mono ?_
  rintro e w1 ⟨rfl, rfl⟩
  clear hc
  go_wp2_with fail
  go_ret
  refine ⟨⟨w1.heap.size, none, none, .slice none 0 0, fun _ => 0, fun _ => .slice none 0 0⟩, rfl, Lib.hid (new_fs m (new n) w1 ?_ (ok_new n)), ?_, Lib.hid ((Below.refl _ _).alloc (Nat.le_refl _) _)⟩
  · unfold new; rw [hm]
  · intro b hb
    rcases hb with e | e | e | e | ⟨i, hi, _⟩
    · exact Nat.le_of_eq e.symm
    · cases e
    · cases e
    · cases e
    · omega
def ReadPost (o : Option (List Nat)) (w : World) (e : Ending) (w' : World) : Prop :=
  Hid (Below w.heap.size w w') ∧ match o with
    | none => e = .returned (.tuple #[.slice none 0 0, errV 3])
    | some X => ∃ sp cap, e = .returned (.tuple #[.slice sp X.length cap, errV 0]) ∧ Hid (w'.ownsRow w.heap.size 5 1 (.slice sp X.length cap) X.length (u8s X)) ∧ Hid (∀ x ∈ X, x < 256)
set_option maxHeartbeats 4000000 in
theorem read_any (l : Lay) (S : St) (n : ByteArray) (w : World) (h : IsFS w l S) (hn : n.size ≤ maxLen) :
    Calls Tryz.prog 28 #[fsP l, .string n] w (ReadPost (readF S n.data.toList) w) := by
  have hf := find_any l S n w h hn
  cases hd : dget S.now n.data.toList with
  | none =>
    have e : readF S n.data.toList = none := by unfold readF; rw [hd]; rfl
    rw [hd] at hf
    rw [e]
    simp only [Option.map_none, ptrO] at hf
    clear h
    go_enter Tryz.func28, Tryz.ntmps28
    go_wp2_with fail
    refine hf.mono ?_
    rintro e w1 ⟨rfl, rfl⟩
    clear hf
    go_wp2_with fail
    go_ret2
    exact ⟨Lib.hid (Below.refl _ _), rfl⟩
  | some i =>
    have e : readF S n.data.toList = some (S.file i).1 := by unfold readF; rw [hd]; rfl
    rw [hd] at hf
    rw [e]
    simp only [Option.map_some, ptrO] at hf
    have hi := h.ok.now _ (dget_mem hd)
    have hfi := h.file i hi
    have hbt := hfi.bytes
    have hln := (file_ok h.ok i).2.2
    have c0 : w.cell? ⟨l.β i, 0, none⟩ = some (l.ν i) := hfi.1.cell rfl
    have hcl := cloneB_any (l.ν i) (S.file i).1 w hbt (by omega)
    have HX := Lib.hid hbt.1
    clear h hfi hbt
    go_enter Tryz.func28, Tryz.ntmps28
    go_wp2_with fail
    refine hf.mono ?_
    rintro e w1 ⟨rfl, rfl⟩
    clear hf
    go_wp2_with fail
    refine hcl.mono ?_
    rintro e w2 ⟨v2, rfl, ho, hb⟩
    obtain ⟨sp, cap, rfl, _, _⟩ := ownsRow_slice ho
    have HO := Lib.hid ho
    have HB := Lib.hid hb
    clear hcl ho hb c0
    go_wp2_with fail
    go_ret2
    exact ⟨HB, sp, cap, rfl, HO, HX⟩
def OpPost (l : Lay) (S : St) (r : St × Nat) (w : World) (e : Ending) (w' : World) : Prop := e = .returned (errV r.2) ∧ Gone w l S r.1 w'
theorem withF_cases {S : St} {n : Nm} {f : St → Nat → St × Nat} : ((beg S).2 = true ∧ withF S n f = ((beg S).1, 5)) ∨ ((beg S).2 = false ∧ dget S.now n = none ∧ withF S n f = ((beg S).1, 3)) ∨ ∃ i, (beg S).2 = false ∧ dget S.now n = some i ∧ withF S n f = f (beg S).1 i := by
  unfold withF withB
  cases hb : (beg S).2
  · right
    simp only [beg_now, Bool.false_eq_true, if_false]
    cases hd : dget S.now n with
    | none => exact .inl ⟨trivial, rfl, rfl⟩
    | some i => exact .inr ⟨i, trivial, rfl, rfl⟩
  · exact .inl ⟨rfl, rfl⟩
set_option maxHeartbeats 8000000 in
theorem sync_any (l : Lay) (S : St) (n : ByteArray) (w : World) (h : IsFS w l S) (hn : n.size ≤ maxLen) (hc : S.calls ≤ 1099511627776) :
    Calls Tryz.prog 54 #[fsP l, .string n] w (OpPost l S (sync S n.data.toList) w) := by
  have hb := beginWith_any l S n w h hn hc
  unfold WithPost at hb
  have hok := h.ok
  have hFF := beg_F S
  obtain ⟨hx, hr⟩ | ⟨hx, hd, hr⟩ | ⟨i, hx, hd, hr⟩ := withF_cases (S := S) (n := n.data.toList) (f := fun T i => (T.put i ((T.file i).1, (T.file i).1.length), 0))
  · change sync S n.data.toList = _ at hr
    rw [hr]
    rw [hx] at hb
    simp only [if_true, errV] at hb
    clear h
    go_enter Tryz.func54, Tryz.ntmps54
    go_wp2_with fail
    refine hb.mono ?_
    rintro e w1 ⟨hs, rfl⟩
    clear hb
    go_wp2_with fail
    go_ret
    exact ⟨rfl, hs.gone (by rw [hFF])⟩
  · change sync S n.data.toList = _ at hr
    rw [hr]
    rw [hx, hd] at hb
    simp only [Bool.false_eq_true, if_false, Option.map_none, Option.isNone_none, if_true, errV, ptrO] at hb
    clear h
    go_enter Tryz.func54, Tryz.ntmps54
    go_wp2_with fail
    refine hb.mono ?_
    rintro e w1 ⟨hs, rfl⟩
    clear hb
    go_wp2_with fail
    go_ret
    exact ⟨rfl, hs.gone (by rw [hFF])⟩
  · change sync S n.data.toList = _ at hr
    rw [hr]
    rw [hx, hd] at hb
    simp only [Bool.false_eq_true, if_false, Option.map_some, Option.isNone_some, errV, ptrO] at hb
    have hi : i < (beg S).1.F.length := by rw [beg_F]; exact h.ok.now _ (dget_mem hd)
    clear h
    go_enter Tryz.func54, Tryz.ntmps54
    go_wp2_with fail
    refine hb.mono ?_
    rintro e w1 ⟨hs, rfl⟩
    clear hb
    have hfi := hs.1.out.file i hi
    have hbt := hfi.bytes
    obtain ⟨sp, cap, hv, _, _⟩ := hbt.slice
    have c0 : w1.cell? ⟨l.β i, 0, none⟩ = some (l.ν i) := hfi.1.cell rfl
    have c1 : w1.cell? ⟨l.β i, 1, none⟩ = some (.int .i64 (((beg S).1.file i).2 : Nat)) := hfi.1.cell rfl
    have f1 := hfi.1.frozen 1
    rw [hv] at c0
    have HFI := Lib.hid hfi
    have HS := Lib.hid hs
    have HFO := Lib.hid (file_ok hs.1.out.ok i)
    obtain ⟨N, hN⟩ : ∃ N, ((beg S).1.file i).1.length = N := ⟨_, rfl⟩
    rw [hN] at c0
    clear hfi hbt hs hv
    go_wp2_with fail
    go_ret
    have hfo := HFO.out
    have hfin := HS.out.1.out.putFile hi (v' := l.ν i) (x := (((beg S).1.file i).1, ((beg S).1.file i).1.length)) (V := w1.setCell ⟨l.β i, 1, none⟩ (.int .i64 (N : Nat))) rfl rfl rfl (by simp)
      (fun b _ hne _ => Below.heap_setCell _ _ _ b hne) ?_ (fun g hg => .inl hg) (put_ok HS.out.1.out.ok ⟨hfo.1, Nat.le_refl _, hfo.2.2⟩)
    · refine ⟨rfl, Gone.trans HS.out (by rw [hFF]) ⟨{ l with ν := upd l.ν i (l.ν i) }, rfl, Lib.hid hfin.1, Lib.hid ?_⟩⟩
      have e : ((beg S).1.put i (((beg S).1.file i).1, ((beg S).1.file i).1.length)).F.length = (beg S).1.F.length := by simp [St.put]
      rw [e]
      exact hfin.2
    · refine ⟨?_, ?_, HFI.out.2.2⟩
      · have := HFI.out.1.set 1 (.int .i64 (N : Nat))
        simpa [hN] using this
      · refine HFI.out.2.1.kept ((Gr.refl w1 (l.β i)).setCell 1 _) ?_
        cases hq : (l.ν i).ownBlock with
        | none => exact .inl rfl
        | some g => exact .inr (fun e => blk_own_ne HFI.out.1 HFI.out.2.1 (by decide) (by rw [hq]; exact e))
end Go.Proofs.YthgpdnffahmhjaaGreatDoor.S13
namespace Go.Proofs.YthgpdnffahmhjaaGreatDoor.S13
open Go.RowKit Go.Maps Go.Shelf Dk
def come (len : Nat → Nat) (L : Dir) (left : Lit → Bool) : Nat := (L.map fun p => if left (.string p.1) then 0 else len p.2).sum
theorem come_start (len : Nat → Nat) (β : Nat → Nat) (L : Dir) : come len L (Maps.has (dD β L)) = 0 := by
  unfold come
  have : ∀ l : Dir, (∀ p ∈ l, p ∈ L) → (l.map fun p => if Maps.has (dD β L) (.string p.1) then 0 else len p.2).sum = 0 := by
    intro l
    induction l with
    | nil => intro _; rfl
    | cons a r ih =>
      intro h
      have ha : Maps.has (dD β L) (.string a.1) = true := by
        rw [dD_has]
        unfold dget
        rw [Option.isSome_map, List.find?_isSome]
        exact ⟨a, h a (by simp), by simp⟩
      simp [ha, ih (fun p hp => h p (by simp [hp]))]
  exact this L fun p hp => hp
theorem come_le (len : Nat → Nat) (L : Dir) (left : Lit → Bool) : come len L left ≤ (L.map fun p => len p.2).sum := by
  unfold come
  induction L with
  | nil => exact Nat.le_refl _
  | cons a r ih =>
    simp only [List.map_cons, List.sum_cons]
    split <;> omega
theorem come_end (len : Nat → Nat) (L : Dir) (left : Lit → Bool) (h : ∀ kl, left kl = false) : come len L left = (L.map fun p => len p.2).sum := by
  unfold come
  congr 1
  refine List.map_congr_left fun p _ => ?_
  rw [h]; rfl
theorem come_step (len : Nat → Nat) : ∀ (L : Dir) (left : Lit → Bool) (n : Nm) (i : Nat), L.Pairwise (fun p q => p.1 ≠ q.1) → (n, i) ∈ L → left (.string n) = true → come len L (fun z => left z && !z.sameKey (.string n)) = come len L left + len i
  | [], _, _, _, _, h, _ => by simp at h
  | a :: r, left, n, i, hp, hm, hl => by
    obtain ⟨h1, h2⟩ := List.pairwise_cons.1 hp
    have hcons : ∀ f : Lit → Bool, come len (a :: r) f = (if f (.string a.1) then 0 else len a.2) + come len r f := fun f => by simp [come]
    rw [hcons, hcons]
    rcases List.mem_cons.1 hm with e | hm
    · subst e
      have hr : come len r (fun z => left z && !z.sameKey (.string n)) = come len r left := by
        unfold come
        congr 1
        refine List.map_congr_left fun p hp' => ?_
        have : (Lit.string p.1).sameKey (.string n) = false := sameKey_ne (fun e => h1 p hp' (by cases e; rfl))
        simp [this]
      have hs : (Lit.string n).sameKey (.string n) = true := by simp [Lit.sameKey]
      rw [hr]
      simp [hl, hs]
      omega
    · have hs : (Lit.string a.1).sameKey (.string n) = false := sameKey_ne (fun e => h1 _ hm (by cases e; rfl))
      rw [come_step len r left n i h2 hm hl]
      simp [hs]
      omega
theorem come_entry {β : Nat → Nat} {L : Dir} {x : Nm} {c : Option Nat} {y : DataW Unit × List MemPlace} (hv : ptrE (ptrO c) = some y) (hat : ∀ zd, (dD β L).atKey (.string x) zd = y.1) : ∃ i, dget L x = some i ∧ c = some (β i) := by
  have hh := has_true_of_atKey hat
  rw [dD_has] at hh
  obtain ⟨i, hi⟩ := Option.isSome_iff_exists.1 hh
  refine ⟨i, hi, ?_⟩
  have h1 := hat .nil
  rw [dD_get, hi] at h1
  cases c with
  | none => simp [ptrE, ptrO] at hv; rw [← hv] at h1; cases h1
  | some b =>
    simp [ptrE, ptrO] at hv
    rw [← hv] at h1
    simp at h1
    have : β i = b := by omega
    rw [this]
set_option maxHeartbeats 16000000 in
theorem used_any (l : Lay) (S : St) (w : World) (h : IsFS w l S) : Calls Tryz.prog 84 #[fsP l] w fun e w' => e = .returned (.int .i64 (S.used : Nat)) ∧ Below w.heap.size w w' := by
  obtain ⟨wt, _, _, _, c1, _⟩ := h.cells
  cases hnv : l.nv with
  | none =>
    rw [hnv] at c1
    have h0 : S.now = [] := by
      obtain ⟨_, e⟩ | ⟨b, e, _⟩ := h.now
      · exact e
      · rw [hnv] at e; cases e
    have hu : S.used = 0 := by unfold St.used; rw [h0]; rfl
    rw [hu]
    have hrg := run_range_nilMap (P := Tryz.prog) w 49 _ _ Tryz.underlying49
    have hnx : ∀ ty, (Instr.next (.pointer (some ⟨w.heap.size, 0, none⟩)) false ty).run Tryz.prog (w.alloc (.mapIter none 0 #[] 0)) = _ := fun ty => run_next_nilMap _ ty 0 0 #[]
    clear h
    go_enter Tryz.func84, Tryz.ntmps84
    go_wp2_with fail
    refine wp_loop_rounds 1 ?_
    rw [rounds_succ]
    go_wp2_with fail
    go_ret
    exact ⟨rfl, (Below.refl _ _).alloc (Nat.le_refl _) _⟩
  | some nb =>
    rw [hnv] at c1
    have hnow := h.now
    rw [hnv] at hnow
    have hown := hnow.own
    have hsrt := hnow.srt
    have hul := used_le h.ok
    have hu : S.used = (S.now.map fun p => (S.file p.2).1.length).sum := rfl
    have hfc : ∀ i, i < S.F.length → ∃ sp cap, w.cell? ⟨l.β i, 0, none⟩ = some (.slice sp (S.file i).1.length cap) ∧ l.β i < w.heap.size := fun i hi => by
      obtain ⟨sp, cap, hv, _, _⟩ := (h.file i hi).bytes.slice
      have := (h.file i hi).1.cell (o := 0) rfl
      rw [hv] at this
      exact ⟨sp, cap, this, (h.file i hi).lt.1⟩
    have HFC := Lib.hid hfc
    have HNO := Lib.hid h.ok.now
    have HSR := Lib.hid hsrt
    obtain ⟨U, hU⟩ : ∃ U, S.used = U := ⟨_, rfl⟩
    rw [hU] at hul hu ⊢
    have HU := Lib.hid hu
    clear h hsrt hfc hu hnow hU
    go_enter Tryz.func84, Tryz.ntmps84
    go_wp2_with (first
      | (at_range; refine wpList_range_own _ rfl _ 49 rfl 9 61 law Tryz.underlying49 ptrE nb S.now.length _ rfl hown ?_; intro w0 hrg0 hg0 hs0)
      | go_in)
    go_frame
    have HRG0 := Lib.hid hrg0
    have HG0 := Lib.hid hg0
    clear hrg0 hg0 hs0 c1 hown
    go_loopw [3] (fun v wr => ∃ (left : Lit → Bool) (cnt m : Nat), wr.ranges Tryz.prog 9 ptrE nb w.heap.size S.now.length (dD l.β S.now) left cnt ∧ m = come (fun i => (S.file i).1.length) S.now left ∧ v = .int .i64 (m : Nat) ∧ Below w.heap.size w wr)
      (fun _ wr => wr.rangeLeft nb w.heap.size)
    case atStart =>
      exact ⟨_, _, 0, HRG0.out, (come_start _ _ _).symm, rfl, ⟨HG0.out.os, HG0.out.tape, HG0.out.output, HG0.out.size, fun k hk => HG0.out.block k hk (by simp)⟩⟩
    case round =>
      obtain ⟨left, cnt, m, hrg, hm, rfl, hb⟩ := hrel
      have hmU : m ≤ U := by rw [hm, HU.out]; exact come_le _ _ _
      have HM := Lib.hid hm
      have HB := Lib.hid hb
      clear hm hb
      go_wp2_with (first
        | (at_next; refine wpList_next_ranges _ rfl _ rfl 9 law ptrE encStr ptrO (fun key kl hk => by obtain ⟨x, hx, _⟩ := Maps.keyOf_str Tryz.underlying9 hk; exact ⟨x, hx⟩) (fun v y hv => by obtain ⟨o, ho, _⟩ := ptrE_inv hv; exact ⟨o, ho⟩) nb w.heap.size S.now.length _ _ _ rfl hrg ?_ ?_)
        | go_in)
      · intro hc0 hl0
        have he := come_end (fun i => (S.file i).1.length) S.now left hl0
        rw [← HU.out, ← HM.out] at he
        subst he
        clear hrg
        go_wp2_with fail
        go_ret
        exact ⟨rfl, HB.out⟩
      · intro x c kl yd yp w1 cnt1 hkey hlk hv hat hrg1 hlt hg1 hs1 hen
        obtain ⟨x', ex, rfl, _⟩ := Maps.keyOf_str Tryz.underlying9 hkey
        obtain rfl : x = x' := encStr_inj ex
        obtain ⟨i, hi, rfl⟩ := come_entry hv hat
        have hmem := dget_mem hi
        obtain ⟨sp, cap, hcell, hbl⟩ := HFC.out i (HNO.out _ hmem)
        have hb1 : Below w.heap.size w w1 := HB.out.grown hg1 HB.out.size (fun k hk => by cases hk; exact Nat.le_refl _)
        have d0 : w1.cell? ⟨l.β i, 0, none⟩ = some (.slice sp (S.file i).1.length cap) := (hb1.cell (p := ⟨l.β i, 0, none⟩) hbl).trans hcell
        have hst := come_step (fun i => (S.file i).1.length) S.now left x i (srt_ne HSR.out) hmem hlk
        rw [← HM.out] at hst
        have hle := come_le (fun i => (S.file i).1.length) S.now (fun z => left z && !z.sameKey (.string x))
        rw [hst, ← HU.out] at hle
        simp only [ptrO] at hen
        obtain ⟨q, hq⟩ : ∃ q, (S.file i).1.length = q := ⟨_, rfl⟩
        simp only [hq] at hst hle
        rw [hq] at d0
        have HST := Lib.hid hst
        have HRG := Lib.hid hrg
        have HRG1 := Lib.hid hrg1
        have HB1 := Lib.hid hb1
        have HLT := Lib.hid hlt
        clear hst hrg hrg1 hb1 hs1 hv hat hkey hlk hg1 hmem hcell hq hi hlt
        go_wp2_with fail
        go_roundw
        case rel => exact ⟨_, cnt1, m + q, HRG1.out, HST.out.symm, by go_num, HB1.out⟩
        case measure => rw [HRG1.out.left_eq, HRG.out.left_eq]; exact HLT.out
set_option maxHeartbeats 4000000 in
theorem fsNames_any (l : Lay) (S : St) (w : World) (h : IsFS w l S) :
    Calls Tryz.prog 16 #[fsP l] w fun e w' => ∃ v, e = .returned v ∧ IsNames w' w.heap.size v S.now ∧ Below w.heap.size w w' := by
  obtain ⟨wt, _, _, _, c1, _⟩ := h.cells
  have hn := names_any l.nv l.β S.now w h.now (by have := now_le h.ok; omega)
  clear h
  go_enter Tryz.func16, Tryz.ntmps16
  go_wp2_with fail
  refine hn.mono ?_
  rintro e w1 ⟨v, rfl, hv, hb⟩
  obtain ⟨sp, cap, rfl, _, _⟩ := ownsRow_slice hv
  have HV := Lib.hid hv
  have HB := Lib.hid hb
  clear hn hv hb c1
  go_wp2_with fail
  go_ret
  exact ⟨_, rfl, HV.out, HB.out⟩
end Go.Proofs.YthgpdnffahmhjaaGreatDoor.S13

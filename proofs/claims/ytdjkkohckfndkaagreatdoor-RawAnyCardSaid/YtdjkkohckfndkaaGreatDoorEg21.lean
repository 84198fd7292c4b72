/- Texts put together: DkF. -/
import Derived.Test.YtdjkkohckfndkaaGreatDoorEg20
set_option linter.unusedSimpArgs false
set_option linter.unusedVariables false
set_option maxRecDepth 100000
namespace Go.Proofs.YtdjkkohckfndkaaGreatDoor.S13
open Go.RowKit Go.Maps Go.Shelf Dk
structure Lay where
  p : Nat
  nv : Option Nat
  lv : Option Nat
  pv : Value
  β : Nat → Nat
  ν : Nat → Value
def Lay.at (l : Lay) (n b : Nat) : Prop := b = l.p ∨ l.nv = some b ∨ l.lv = some b ∨ l.pv.ownBlock = some b ∨ ∃ i, i < n ∧ (b = l.β i ∨ (l.ν i).ownBlock = some b)
def chgC (β : Nat → Nat) (c : Chg) : List Value := [.string ⟨c.1.toArray⟩, .string ⟨c.2.1.toArray⟩, ptrO (c.2.2.map β)]
def chgs (β : Nat → Nat) (C : List Chg) : List Value := C.flatMap (chgC β)
def fsC (l : Lay) (S : St) (wt : Int) : List Value := [.int .i64 (S.room : Nat), .map l.nv, .map l.lv, l.pv, .int .i64 (S.calls : Nat), .bool S.fail.isSome, .int .i64 wt]
def WaitOk (S : St) (wt : Int) : Prop := ∀ k, S.fail = some k → wt = (k : Nat) ∧ k < 9223372036854775808
structure IsFS (w : World) (l : Lay) (S : St) : Prop where
  blk : ∃ wt, Blk w l.p 77 (fsC l S wt) ∧ WaitOk S wt
  now : IsDir w l.nv l.β S.now
  last : IsDir w l.lv l.β S.last
  ne : ∀ b, l.nv = some b → l.lv ≠ some b
  pend : w.ownsRow 0 84 3 l.pv S.pend.length (chgs l.β S.pend)
  file : ∀ i, i < S.F.length → IsFile w (l.β i) (l.ν i) (S.file i)
  inj : ∀ i j, i < S.F.length → j < S.F.length → l.β i = l.β j → i = j
  apart : ∀ i j g, i < S.F.length → j < S.F.length → (l.ν i).ownBlock = some g → (l.ν j).ownBlock = some g → i = j
  ok : S.Ok
structure Step (w w' : World) (fp fp' : Nat → Prop) : Prop where
  os : w'.os = w.os
  tape : w'.tape = w.tape
  output : w'.output = w.output
  size : w.heap.size ≤ w'.heap.size
  block : ∀ b, b < w.heap.size → ¬ fp b → w'.heap[b]? = w.heap[b]?
  more : ∀ b, fp' b → fp b ∨ w.heap.size ≤ b
namespace Step
variable {w w' w'' : World} {fp fp' fp'' : Nat → Prop}
theorem refl (w : World) (fp : Nat → Prop) : Step w w fp fp := ⟨rfl, rfl, rfl, Nat.le_refl _, fun _ _ _ => rfl, fun _ h => .inl h⟩
theorem trans (h : Step w w' fp fp') (k : Step w' w'' fp' fp'') : Step w w'' fp fp'' :=
  ⟨k.os.trans h.os, k.tape.trans h.tape, k.output.trans h.output, Nat.le_trans h.size k.size,
    fun b hb hn => (k.block b (Nat.lt_of_lt_of_le hb h.size) (fun h' => (h.more b h').elim hn (by omega))).trans (h.block b hb hn),
    fun b hb => (k.more b hb).elim (fun h' => h.more b h') (fun h' => .inr (Nat.le_trans h.size h'))⟩
theorem ofBelow (hb : Below w.heap.size w w') (fp : Nat → Prop) : Step w w' fp fp := ⟨hb.os, hb.tape, hb.output, hb.size, fun b h _ => hb.block b h, fun _ h => .inl h⟩
theorem below (h : Step w w' fp fp') {B : Nat} (hB : B ≤ w.heap.size) (hf : ∀ b, fp b → B ≤ b) : Below B w w' :=
  ⟨h.os, h.tape, h.output, h.size, fun k hk => h.block k (by omega) (fun hp => by have := hf k hp; omega)⟩
theorem base (h : Step w w' fp fp') {B : Nat} (hB : B ≤ w.heap.size) (hf : ∀ b, fp b → B ≤ b) : ∀ b, fp' b → B ≤ b := fun b hb => (h.more b hb).elim (hf b) (fun h' => by omega)
theorem ofGrown {row : Option Nat} (h : w.grownBy w' row) (hf : ∀ b, row = some b → fp b ∨ w.heap.size ≤ b) : Step w w' fp fp :=
  ⟨h.os, h.tape, h.output, h.size, fun b hb hn => h.block b hb (fun e => (hf b e.symm).elim hn (by omega)), fun _ h => .inl h⟩
theorem mono (h : Step w w' fp fp') {fp2 : Nat → Prop} (hf : ∀ b, fp2 b → fp' b ∨ w.heap.size ≤ b) : Step w w' fp fp2 :=
  ⟨h.os, h.tape, h.output, h.size, h.block, fun b hb => (hf b hb).elim (h.more b) .inr⟩
end Step
namespace IsFS
variable {w w' : World} {l : Lay} {S : St}
theorem lt (h : IsFS w l S) : ∀ b, l.at S.F.length b → b < w.heap.size := by
  intro b hb
  obtain ⟨wt, hk, _⟩ := h.blk
  rcases hb with rfl | hb | hb | hb | ⟨i, hi, rfl | hb⟩
  · exact hk.lt
  · exact h.now.lt b hb
  · exact h.last.lt b hb
  · exact (h.pend.lt b hb).2
  · exact (h.file i hi).lt.1
  · exact (h.file i hi).lt.2 b hb
theorem keep (h : IsFS w l S) (hk : ∀ b, l.at S.F.length b → w'.heap[b]? = w.heap[b]?) : IsFS w' l S := by
  obtain ⟨wt, hb, hw⟩ := h.blk
  refine ⟨⟨wt, (hk _ (.inl rfl)).trans hb, hw⟩, h.now.keep fun b hb => hk b (.inr (.inl hb)), h.last.keep fun b hb => hk b (.inr (.inr (.inl hb))), h.ne, ?_,
    fun i hi => (h.file i hi).keep (hk _ (.inr (.inr (.inr (.inr ⟨i, hi, .inl rfl⟩))))) (fun g hg => hk g (.inr (.inr (.inr (.inr ⟨i, hi, .inr hg⟩))))), h.inj, h.apart, h.ok⟩
  obtain ⟨hl, hp⟩ := h.pend
  refine ⟨hl, ?_⟩
  obtain hp | ⟨g, cap, cur, hv, hg, hh, r⟩ := hp
  · exact .inl hp
  · exact .inr ⟨g, cap, cur, hv, hg, (hk g (.inr (.inr (.inr (.inl (by rw [hv]; rfl)))))).trans hh, r⟩
theorem below (h : IsFS w l S) (hb : Below w.heap.size w w') : IsFS w' l S := h.keep fun b hk => hb.block b (h.lt b hk)
theorem cells (h : IsFS w l S) : ∃ wt, WaitOk S wt ∧ Blk w l.p 77 (fsC l S wt) ∧ w.cell? ⟨l.p, 0, none⟩ = some (.int .i64 (S.room : Nat)) ∧ w.cell? ⟨l.p, 1, none⟩ = some (.map l.nv) ∧ w.cell? ⟨l.p, 2, none⟩ = some (.map l.lv) ∧ w.cell? ⟨l.p, 3, none⟩ = some l.pv ∧ w.cell? ⟨l.p, 4, none⟩ = some (.int .i64 (S.calls : Nat)) ∧ w.cell? ⟨l.p, 5, none⟩ = some (.bool S.fail.isSome) ∧ w.cell? ⟨l.p, 6, none⟩ = some (.int .i64 wt) := by
  obtain ⟨wt, hk, hw⟩ := h.blk
  exact ⟨wt, hw, hk, hk.cell rfl, hk.cell rfl, hk.cell rfl, hk.cell rfl, hk.cell rfl, hk.cell rfl, hk.cell rfl⟩
theorem p_ne (h : IsFS w l S) : l.nv ≠ some l.p ∧ l.lv ≠ some l.p ∧ l.pv.ownBlock ≠ some l.p ∧ ∀ i, i < S.F.length → l.p ≠ l.β i ∧ (l.ν i).ownBlock ≠ some l.p := by
  obtain ⟨wt, hk, _⟩ := h.blk
  have hmap : ∀ mv L, IsDir w mv l.β L → mv ≠ some l.p := fun mv L hd e => by
    subst e
    obtain ⟨es, clock, hb, _⟩ := hd.own
    unfold Blk at hk; rw [hk] at hb; cases hb
  have hown : ∀ e sz v n xs, w.ownsRow 0 e sz v n xs → e ≠ 77 → v.ownBlock ≠ some l.p := fun e sz v n xs ho hne hv => by
    obtain ⟨_, ⟨rfl, _⟩ | ⟨g, cap, cur, rfl, _, hh, _⟩⟩ := ho
    · cases hv
    · simp only [Value.ownBlock, Option.some.injEq] at hv
      subst hv
      unfold Blk at hk; rw [hk] at hh
      simp at hh
      exact hne hh.2.symm
  refine ⟨hmap _ _ h.now, hmap _ _ h.last, hown _ _ _ _ _ h.pend (by decide), fun i hi => ⟨?_, hown _ _ _ _ _ (h.file i hi).2.1 (by decide)⟩⟩
  exact hk.ne (h.file i hi).1 (by decide)
theorem setP (h : IsFS w l S) {S' : St} {wt : Int} (hg : w.grownBy w' (some l.p)) (hk : Blk w' l.p 77 (fsC l S' wt)) (hw : WaitOk S' wt)
    (hF : S'.F = S.F) (hn : S'.now = S.now) (hl : S'.last = S.last) (hp : S'.pend = S.pend) (ho : S'.Ok) : IsFS w' l S' := by
  obtain ⟨n1, n2, n3, n4⟩ := h.p_ne
  have hb := fun b (hb : l.at S.F.length b) (hne : b ≠ l.p) => hg.block b (h.lt b hb) (by simpa using hne)
  refine ⟨⟨wt, hk, hw⟩, ?_, ?_, h.ne, ?_, ?_, ?_, ?_, ho⟩
  · rw [hn]; exact h.now.keep fun b e => hb b (.inr (.inl e)) (fun e' => n1 (by rw [e, e']))
  · rw [hl]; exact h.last.keep fun b e => hb b (.inr (.inr (.inl e))) (fun e' => n2 (by rw [e, e']))
  · rw [hp]
    obtain ⟨hl', hq⟩ := h.pend
    refine ⟨hl', ?_⟩
    obtain hq | ⟨g, cap, cur, hv, hg0, hh, r⟩ := hq
    · exact .inl hq
    · have e : l.pv.ownBlock = some g := by rw [hv]; rfl
      exact .inr ⟨g, cap, cur, hv, hg0, (hb g (.inr (.inr (.inr (.inl e)))) (fun e' => n3 (by rw [e, e']))).trans hh, r⟩
  · rw [hF]
    intro i hi
    have : S'.file i = S.file i := by unfold St.file; rw [hF]
    rw [this]
    exact (h.file i hi).keep (hb _ (.inr (.inr (.inr (.inr ⟨i, hi, .inl rfl⟩)))) (fun e => (n4 i hi).1 e.symm)) (fun g e => hb g (.inr (.inr (.inr (.inr ⟨i, hi, .inr e⟩)))) (fun e' => (n4 i hi).2 (by rw [e, e'])))
  · rw [hF]; exact h.inj
  · rw [hF]; exact h.apart
end IsFS
def errV (n : Nat) : Value := .int .i64 (n : Nat)
def Gone (w : World) (l : Lay) (S S' : St) (w' : World) : Prop := ∃ l', l'.p = l.p ∧ Hid (IsFS w' l' S') ∧ Hid (Step w w' (l.at S.F.length) (l'.at S'.F.length))
def Same (w : World) (l : Lay) (S S' : St) (w' : World) : Prop := Hid (IsFS w' l S') ∧ Hid (w.grownBy w' (some l.p))
theorem Same.gone {w w' : World} {l : Lay} {S S' : St} (h : Same w l S S' w') (hF : S'.F.length = S.F.length) : Gone w l S S' w' :=
  ⟨l, rfl, h.1, Lib.hid (by rw [hF]; exact Step.ofGrown h.2.out (fun b hb => by cases hb; exact .inl (.inl rfl)))⟩
set_option maxHeartbeats 4000000 in
theorem find_any (l : Lay) (S : St) (n : ByteArray) (w : World) (h : IsFS w l S) (hn : n.size ≤ maxLen) :
    Calls Tryz.prog 47 #[.pointer (some ⟨l.p, 0, none⟩), .string n] w fun e w' => e = .returned (ptrO ((dget S.now n.data.toList).map l.β)) ∧ w' = w := by
  obtain ⟨wt, _, hk, _, c1, _⟩ := h.cells
  have hlk := dir_look h.now hn
  generalize ptrO ((dget S.now n.data.toList).map l.β) = r at hlk ⊢
  clear h hk
  go_enter Tryz.func47, Tryz.ntmps47
  go_wp2_with fail
  go_ret
  exact ⟨rfl, rfl⟩
def begE (S : St) : Value := .int .i64 (if (beg S).2 then 5 else 0)
set_option maxHeartbeats 4000000 in
theorem begin_any (l : Lay) (S : St) (w : World) (h : IsFS w l S) (hc : S.calls ≤ 1099511627776) :
    Calls Tryz.prog 38 #[.pointer (some ⟨l.p, 0, none⟩)] w fun e w' => e = .returned (begE S) ∧ Same w l S (beg S).1 w' := by
  obtain ⟨wt, hw, hk, c0, c1, c2, c3, c4, c5, c6⟩ := h.cells
  obtain ⟨C, hC⟩ : ∃ C, S.calls = C := ⟨_, rfl⟩
  have hok := beg_ok h.ok
  have hwt : ∀ k, S.fail = some k → wt = (k : Nat) ∧ k < 9223372036854775808 := hw
  have hfr : ∀ o, w.frozen? ⟨l.p, o, none⟩ = false := fun o => hk.frozen o
  have f4 := hfr 4
  have f5 := hfr 5
  have f6 := hfr 6
  clear hfr
  rw [hC] at c4 hc
  have H := Lib.hid h
  have HK := Lib.hid hk
  have HOK := Lib.hid hok
  clear h hk hok c0 c1 c2 c3
  cases hf : S.fail with
  | none =>
    rw [hf] at c5
    simp only [Option.isSome_none] at c5
    go_enter Tryz.func38, Tryz.ntmps38
    go_wp2_with fail
    go_ret
    refine ⟨?_, Lib.hid ?_, Lib.hid ?_⟩
    · simp only [begE, beg, hf]; rfl
    · refine H.out.setP (wt := wt) ((Gr.refl w l.p).setCell 4 _) ?_ ?_ ?_ ?_ ?_ ?_ HOK.out
      · have := HK.out.set 4 (.int .i64 ((C : Int) + 1))
        simpa [fsC, beg, hf, hC] using this
      all_goals simp [beg, hf, WaitOk]
    · exact (Gr.refl w l.p).setCell 4 _
  | some k =>
    rw [hf] at c5
    obtain ⟨hwk, hk63⟩ := hwt k hf
    subst hwk
    clear hwt hw
    simp only [Option.isSome_some] at c5
    cases k with
    | zero =>
      go_enter Tryz.func38, Tryz.ntmps38
      go_wp2_with fail
      go_ret
      refine ⟨?_, Lib.hid ?_, Lib.hid ?_⟩
      · simp only [begE, beg, hf]; rfl
      · refine H.out.setP (wt := -1) ((((Gr.refl w l.p).setCell 4 _).setCell 6 _).setCell 5 _) ?_ ?_ ?_ ?_ ?_ ?_ HOK.out
        · have := ((HK.out.set 4 (.int .i64 ((C : Int) + 1))).set 6 (.int .i64 (-1))).set 5 (.bool false)
          simpa [fsC, beg, hf, hC] using this
        all_goals simp [beg, hf, WaitOk]
      · exact (((Gr.refl w l.p).setCell 4 _).setCell 6 _).setCell 5 _
    | succ k =>
      go_enter Tryz.func38, Tryz.ntmps38
      go_wp2_with fail
      go_ret
      refine ⟨?_, Lib.hid ?_, Lib.hid ?_⟩
      · simp only [begE, beg, hf]; rfl
      · refine H.out.setP (wt := (k : Nat)) (((Gr.refl w l.p).setCell 4 _).setCell 6 _) ?_ ?_ ?_ ?_ ?_ ?_ HOK.out
        · have := (HK.out.set 4 (.int .i64 ((C : Int) + 1))).set 6 (.int .i64 (k : Nat))
          simpa [fsC, beg, hf, hC] using this
        · intro q hq
          simp [beg, hf] at hq
          subst hq
          exact ⟨rfl, by omega⟩
        all_goals simp [beg, hf]
      · exact ((Gr.refl w l.p).setCell 4 _).setCell 6 _
def WithPost (l : Lay) (S : St) (n : Nm) (w : World) (e : Ending) (w' : World) : Prop :=
  Same w l S (beg S).1 w' ∧ e = .returned (.tuple #[if (beg S).2 then .pointer none else ptrO ((dget S.now n).map l.β), errV (if (beg S).2 then 5 else if (dget S.now n).isNone then 3 else 0)])
theorem beg_now (S : St) : (beg S).1.now = S.now := by unfold beg; split <;> rfl
theorem beg_F (S : St) : (beg S).1.F = S.F := by unfold beg; split <;> rfl
theorem beg_pend (S : St) : (beg S).1.pend = S.pend := by unfold beg; split <;> rfl
theorem beg_calls (S : St) : (beg S).1.calls = S.calls + 1 := by unfold beg; split <;> rfl
set_option maxHeartbeats 4000000 in
theorem beginWith_any (l : Lay) (S : St) (n : ByteArray) (w : World) (h : IsFS w l S) (hn : n.size ≤ maxLen) (hc : S.calls ≤ 1099511627776) :
    Calls Tryz.prog 41 #[.pointer (some ⟨l.p, 0, none⟩), .string n] w (WithPost l S n.data.toList w) := by
  have hb := begin_any l S w h hc
  unfold begE at hb
  obtain ⟨b, hbb⟩ : ∃ b, (beg S).2 = b := ⟨_, rfl⟩
  rw [hbb] at hb
  unfold WithPost
  rw [hbb]
  cases b with
  | true =>
    clear h
    go_enter Tryz.func41, Tryz.ntmps41
    go_wp2_with fail
    refine hb.mono ?_
    rintro e w1 ⟨rfl, hs⟩
    simp only [if_true]
    clear hb
    go_wp2_with fail
    go_ret2
    exact ⟨hs, rfl⟩
  | false =>
    have hfind := fun w1 (h1 : IsFS w1 l (beg S).1) => find_any l (beg S).1 n w1 h1 hn
    rw [beg_now] at hfind
    have HFI := Lib.hid hfind
    clear hfind h
    cases hd : dget S.now n.data.toList with
    | none =>
      rw [hd] at HFI
      go_enter Tryz.func41, Tryz.ntmps41
      go_wp2_with fail
      refine hb.mono ?_
      rintro e w1 ⟨rfl, hs⟩
      have hf := HFI.out w1 hs.1.out
      simp only [Option.map_none, ptrO] at hf
      have HS := Lib.hid hs
      clear hb hs HFI
      go_wp2_with fail
      refine hf.mono ?_
      rintro e w2 ⟨rfl, rfl⟩
      clear hf
      go_wp2_with fail
      go_ret2
      exact ⟨HS.out, rfl⟩
    | some i =>
      rw [hd] at HFI
      go_enter Tryz.func41, Tryz.ntmps41
      go_wp2_with fail
      refine hb.mono ?_
      rintro e w1 ⟨rfl, hs⟩
      have hf := HFI.out w1 hs.1.out
      simp only [Option.map_some, ptrO] at hf
      have HS := Lib.hid hs
      clear hb hs HFI
      go_wp2_with fail
      refine hf.mono ?_
      rintro e w2 ⟨rfl, rfl⟩
      clear hf
      go_wp2_with fail
      go_ret2
      exact ⟨HS.out, rfl⟩
end Go.Proofs.YtdjkkohckfndkaaGreatDoor.S13

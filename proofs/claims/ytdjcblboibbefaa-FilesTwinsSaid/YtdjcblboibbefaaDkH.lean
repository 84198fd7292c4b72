/- disk: New, Calls, Fail, Room, Read, Sync, SyncDir: contracts. -/
import Derived.Test.YtdjcblboibbefaaDkD
set_option linter.unusedSimpArgs false
set_option linter.unusedVariables false
set_option maxRecDepth 100000
namespace Go.Proofs.Ytdjcblboibbefaa.S13
open Go.RowKit Go.Maps Go.Shelf Dk
abbrev fsP (l : Lay) : Value := .pointer (some ⟨l.p, 0, none⟩)
def NewPost (n : Int) (w : World) (e : Ending) (w' : World) : Prop :=
  ∃ l, e = .returned (fsP l) ∧ Hid (IsFS w' l (new n)) ∧ (∀ b, l.at 0 b → w.heap.size ≤ b) ∧ Hid (Below w.heap.size w w')
theorem new_fs (n : Nat) (S : St) (w : World) (hS : S = ⟨n, [], [], [], [], 0, none⟩) (hok : S.Ok) :
    IsFS (w.alloc (.cells #[.int .i64 n, .map none, .map none, .slice none 0 0, .int .i64 0, .bool false, .int .i64 0] 58)) ⟨w.heap.size, none, none, .slice none 0 0, fun _ => 0, fun _ => .slice none 0 0⟩ S := by
  subst hS
  refine ⟨⟨0, Blk.new w 58 [.int .i64 n, .map none, .map none, .slice none 0 0, .int .i64 0, .bool false, .int .i64 0], by intro k hk; cases hk⟩, .inl ⟨rfl, rfl⟩, .inl ⟨rfl, rfl⟩, (by intro b hb; cases hb), World.ownsRow_nil _ _ _ _, ?_, ?_, ?_, hok⟩
  · intro i hi; simp at hi
  · intro i j hi; simp at hi
  · intro i j g hi; simp at hi
set_option maxHeartbeats 4000000 in
theorem new_any (n : Int) (w : World) : Calls Try.prog 24 #[.int .i64 n] w (NewPost n w) := by
  have hc := clamped_any n w
  obtain ⟨m, hm⟩ : ∃ m, clampN n = m := ⟨_, rfl⟩
  rw [hm] at hc
  go_enter Try.func24, Try.ntmps24
  go_wp2_with fail
  refine hc.mono ?_
  rintro e w1 ⟨rfl, rfl⟩
  clear hc
  go_wp2_with fail
  go_ret
  refine ⟨⟨w1.heap.size, none, none, .slice none 0 0, fun _ => 0, fun _ => .slice none 0 0⟩, rfl, Lib.hid (new_fs m (new n) w1 ?_ (ok_new n)), ?_, Lib.hid ((Below.refl _ _).alloc (Nat.le_refl _) _)⟩
  · unfold new; rw [hm]
  · intro b hb
    rcases hb with e | e | e | e | ⟨i, hi, _⟩
    · exact Nat.le_of_eq e.symm
    · cases e
    · cases e
    · cases e
    · omega
set_option maxHeartbeats 4000000 in
theorem calls_any (l : Lay) (S : St) (w : World) (h : IsFS w l S) : Calls Try.prog 21 #[fsP l] w fun e w' => e = .returned (.int .i64 (S.calls : Nat)) ∧ w' = w := by
  obtain ⟨wt, _, _, _, _, _, _, c4, _⟩ := h.cells
  generalize S.calls = c at c4 ⊢
  clear h
  go_enter Try.func21, Try.ntmps21
  go_wp2_with fail
  go_ret
  exact ⟨rfl, rfl⟩
set_option maxHeartbeats 4000000 in
theorem fail_any (l : Lay) (S : St) (n : Int) (w : World) (h : IsFS w l S) (hn : (Lit.int .i64 n).wf = true) :
    Calls Try.prog 10 #[fsP l, .int .i64 n] w fun e w' => e = .returned (.tuple #[]) ∧ Same w l S (setFail S n) w' := by
  obtain ⟨wt, _, hk, _, _, _, _, _, c5, c6⟩ := h.cells
  have f5 := hk.frozen 5
  have f6 := hk.frozen 6
  have hn' : n < 9223372036854775808 := by
    simp [Lit.wf, IntKind.min, IntKind.max, IntKind.signed, IntKind.bits] at hn
    omega
  have H := Lib.hid h
  have HK := Lib.hid hk
  clear h hk hn
  obtain ⟨b, hb⟩ : ∃ b, decide (0 ≤ n) = b := ⟨_, rfl⟩
  go_enter Try.func10, Try.ntmps10
  go_wp2_with fail
  go_end0
  refine ⟨rfl, Lib.hid ?_, Lib.hid (((Gr.refl w l.p).setCell 5 _).setCell 6 _)⟩
  refine H.out.setP (wt := n) (((Gr.refl w l.p).setCell 5 _).setCell 6 _) ?_ ?_ rfl rfl rfl rfl (ok_fail H.out.ok n)
  · have := (HK.out.set 5 (.bool b)).set 6 (.int .i64 n)
    have e : (setFail S n).fail.isSome = b := by
      unfold setFail
      by_cases h0 : 0 ≤ n
      · simp [h0] at hb ⊢; exact hb
      · simp [h0] at hb ⊢; exact hb
    unfold fsC
    rw [e]
    simpa [fsC, setFail] using this
  · intro k hk
    unfold setFail at hk
    by_cases h0 : 0 ≤ n
    · simp [h0] at hk
      omega
    · simp [h0] at hk
set_option maxHeartbeats 4000000 in
theorem room_any (l : Lay) (S : St) (n : Int) (w : World) (h : IsFS w l S) :
    Calls Try.prog 11 #[fsP l, .int .i64 n] w fun e w' => e = .returned (.tuple #[]) ∧ Same w l S (setRoom S n) w' := by
  obtain ⟨wt, hw, hk, c0, _⟩ := h.cells
  have f0 := hk.frozen 0
  have hc := clamped_any n w
  obtain ⟨m, hm⟩ : ∃ m, clampN n = m := ⟨_, rfl⟩
  rw [hm] at hc
  have H := Lib.hid h
  have HK := Lib.hid hk
  clear h hk
  go_enter Try.func11, Try.ntmps11
  go_wp2_with fail
  refine hc.mono ?_
  rintro e w1 ⟨rfl, rfl⟩
  clear hc
  go_wp2_with fail
  go_end0
  refine ⟨rfl, Lib.hid ?_, Lib.hid ((Gr.refl w1 l.p).setCell 0 _)⟩
  refine H.out.setP (wt := wt) ((Gr.refl w1 l.p).setCell 0 _) ?_ hw rfl rfl rfl rfl (ok_room H.out.ok n)
  have := HK.out.set 0 (.int .i64 (m : Nat))
  unfold fsC setRoom
  rw [hm]
  simpa [fsC] using this
def ReadPost (o : Option (List Nat)) (w : World) (e : Ending) (w' : World) : Prop :=
  Hid (Below w.heap.size w w') ∧ match o with
    | none => e = .returned (.tuple #[.slice none 0 0, errV 3])
    | some X => ∃ sp cap, e = .returned (.tuple #[.slice sp X.length cap, errV 0]) ∧ Hid (w'.ownsRow w.heap.size 5 1 (.slice sp X.length cap) X.length (u8s X)) ∧ Hid (∀ x ∈ X, x < 256)
set_option maxHeartbeats 4000000 in
theorem read_any (l : Lay) (S : St) (n : ByteArray) (w : World) (h : IsFS w l S) (hn : n.size ≤ maxLen) :
    Calls Try.prog 9 #[fsP l, .string n] w (ReadPost (readF S n.data.toList) w) := by
  have hf := find_any l S n w h hn
  cases hd : dget S.now n.data.toList with
  | none =>
    have e : readF S n.data.toList = none := by unfold readF; rw [hd]; rfl
    rw [hd] at hf
    rw [e]
    simp only [Option.map_none, ptrO] at hf
    clear h
    go_enter Try.func9, Try.ntmps9
    go_wp2_with fail
    refine hf.mono ?_
    rintro e w1 ⟨rfl, rfl⟩
    clear hf
    go_wp2_with fail
    go_ret2
    exact ⟨Lib.hid (Below.refl _ _), rfl⟩
  | some i =>
    have e : readF S n.data.toList = some (S.file i).1 := by unfold readF; rw [hd]; rfl
    rw [hd] at hf
    rw [e]
    simp only [Option.map_some, ptrO] at hf
    have hi := h.ok.now _ (dget_mem hd)
    have hfi := h.file i hi
    have hbt := hfi.bytes
    have hln := (file_ok h.ok i).2.2
    have c0 : w.cell? ⟨l.β i, 0, none⟩ = some (l.ν i) := hfi.1.cell rfl
    have hcl := cloneB_any (l.ν i) (S.file i).1 w hbt (by omega)
    have HX := Lib.hid hbt.1
    clear h hfi hbt
    go_enter Try.func9, Try.ntmps9
    go_wp2_with fail
    refine hf.mono ?_
    rintro e w1 ⟨rfl, rfl⟩
    clear hf
    go_wp2_with fail
    refine hcl.mono ?_
    rintro e w2 ⟨v2, rfl, ho, hb⟩
    obtain ⟨sp, cap, rfl, _, _⟩ := ownsRow_slice ho
    have HO := Lib.hid ho
    have HB := Lib.hid hb
    clear hcl ho hb c0
    go_wp2_with fail
    go_ret2
    exact ⟨HB, sp, cap, rfl, HO, HX⟩
def OpPost (l : Lay) (S : St) (r : St × Nat) (w : World) (e : Ending) (w' : World) : Prop := e = .returned (errV r.2) ∧ Gone w l S r.1 w'
theorem withF_cases {S : St} {n : Nm} {f : St → Nat → St × Nat} : ((beg S).2 = true ∧ withF S n f = ((beg S).1, 5)) ∨ ((beg S).2 = false ∧ dget S.now n = none ∧ withF S n f = ((beg S).1, 3)) ∨ ∃ i, (beg S).2 = false ∧ dget S.now n = some i ∧ withF S n f = f (beg S).1 i := by
  unfold withF withB
  cases hb : (beg S).2
  · right
    simp only [beg_now, Bool.false_eq_true, if_false]
    cases hd : dget S.now n with
    | none => exact .inl ⟨trivial, rfl, rfl⟩
    | some i => exact .inr ⟨i, trivial, rfl, rfl⟩
  · exact .inl ⟨rfl, rfl⟩
set_option maxHeartbeats 8000000 in
theorem sync_any (l : Lay) (S : St) (n : ByteArray) (w : World) (h : IsFS w l S) (hn : n.size ≤ maxLen) (hc : S.calls ≤ 1099511627776) :
    Calls Try.prog 15 #[fsP l, .string n] w (OpPost l S (sync S n.data.toList) w) := by
  have hb := beginWith_any l S n w h hn hc
  unfold WithPost at hb
  have hok := h.ok
  have hFF := beg_F S
  obtain ⟨hx, hr⟩ | ⟨hx, hd, hr⟩ | ⟨i, hx, hd, hr⟩ := withF_cases (S := S) (n := n.data.toList) (f := fun T i => (T.put i ((T.file i).1, (T.file i).1.length), 0))
  · change sync S n.data.toList = _ at hr
    rw [hr]
    rw [hx] at hb
    simp only [if_true, errV] at hb
    clear h
    go_enter Try.func15, Try.ntmps15
    go_wp2_with fail
    refine hb.mono ?_
    rintro e w1 ⟨hs, rfl⟩
    clear hb
    go_wp2_with fail
    go_ret
    exact ⟨rfl, hs.gone (by rw [hFF])⟩
  · change sync S n.data.toList = _ at hr
    rw [hr]
    rw [hx, hd] at hb
    simp only [Bool.false_eq_true, if_false, Option.map_none, Option.isNone_none, if_true, errV, ptrO] at hb
    clear h
    go_enter Try.func15, Try.ntmps15
    go_wp2_with fail
    refine hb.mono ?_
    rintro e w1 ⟨hs, rfl⟩
    clear hb
    go_wp2_with fail
    go_ret
    exact ⟨rfl, hs.gone (by rw [hFF])⟩
  · change sync S n.data.toList = _ at hr
    rw [hr]
    rw [hx, hd] at hb
    simp only [Bool.false_eq_true, if_false, Option.map_some, Option.isNone_some, errV, ptrO] at hb
    have hi : i < (beg S).1.F.length := by rw [beg_F]; exact h.ok.now _ (dget_mem hd)
    clear h
    go_enter Try.func15, Try.ntmps15
    go_wp2_with fail
    refine hb.mono ?_
    rintro e w1 ⟨hs, rfl⟩
    clear hb
    have hfi := hs.1.out.file i hi
    have hbt := hfi.bytes
    obtain ⟨sp, cap, hv, _, _⟩ := hbt.slice
    have c0 : w1.cell? ⟨l.β i, 0, none⟩ = some (l.ν i) := hfi.1.cell rfl
    have c1 : w1.cell? ⟨l.β i, 1, none⟩ = some (.int .i64 (((beg S).1.file i).2 : Nat)) := hfi.1.cell rfl
    have f1 := hfi.1.frozen 1
    rw [hv] at c0
    have HFI := Lib.hid hfi
    have HS := Lib.hid hs
    have HFO := Lib.hid (file_ok hs.1.out.ok i)
    obtain ⟨N, hN⟩ : ∃ N, ((beg S).1.file i).1.length = N := ⟨_, rfl⟩
    rw [hN] at c0
    clear hfi hbt hs hv
    go_wp2_with fail
    go_ret
    have hfo := HFO.out
    have hfin := HS.out.1.out.putFile hi (v' := l.ν i) (x := (((beg S).1.file i).1, ((beg S).1.file i).1.length)) (V := w1.setCell ⟨l.β i, 1, none⟩ (.int .i64 (N : Nat))) rfl rfl rfl (by simp)
      (fun b _ hne _ => Below.heap_setCell _ _ _ b hne) ?_ (fun g hg => .inl hg) (put_ok HS.out.1.out.ok ⟨hfo.1, Nat.le_refl _, hfo.2.2⟩)
    · refine ⟨rfl, Gone.trans HS.out (by rw [hFF]) ⟨{ l with ν := upd l.ν i (l.ν i) }, rfl, Lib.hid hfin.1, Lib.hid ?_⟩⟩
      have e : ((beg S).1.put i (((beg S).1.file i).1, ((beg S).1.file i).1.length)).F.length = (beg S).1.F.length := by simp [St.put]
      rw [e]
      exact hfin.2
    · refine ⟨?_, ?_, HFI.out.2.2⟩
      · have := HFI.out.1.set 1 (.int .i64 (N : Nat))
        simpa [hN] using this
      · refine HFI.out.2.1.kept ((Gr.refl w1 (l.β i)).setCell 1 _) ?_
        cases hq : (l.ν i).ownBlock with
        | none => exact .inl rfl
        | some g => exact .inr (fun e => blk_own_ne HFI.out.1 HFI.out.2.1 (by decide) (by rw [hq]; exact e))
end Go.Proofs.Ytdjcblboibbefaa.S13

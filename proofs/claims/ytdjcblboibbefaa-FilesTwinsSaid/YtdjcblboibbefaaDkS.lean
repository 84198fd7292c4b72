/- disk: a file system in hand; no file system: contracts. -/
import Derived.Test.YtdjcblboibbefaaDkR
set_option linter.unusedSimpArgs false
set_option linter.unusedVariables false
set_option maxRecDepth 100000
namespace Go.Proofs.Ytdjcblboibbefaa.S13
open Go.RowKit Go.Maps Go.Shelf Dk
abbrev pP (p : Nat) : Value := .pointer (some ⟨p, 0, none⟩)
/-- in block p is a file system that the call has made, and it stands as S -/
def InH (w0 : World) (p : Nat) (S : St) (w : World) : Prop := ∃ l, l.p = p ∧ IsFS w l S ∧ (∀ b, l.at S.F.length b → w0.heap.size ≤ b) ∧ Below w0.heap.size w0 w
namespace InH
variable {w0 w w' : World} {p : Nat} {S : St}
theorem bel (h : InH w0 p S w) : Below w0.heap.size w0 w := by obtain ⟨_, _, _, _, h⟩ := h; exact h
theorem ok (h : InH w0 p S w) : S.Ok := by obtain ⟨_, _, h, _⟩ := h; exact h.ok
theorem below (h : InH w0 p S w) (hb : Below w.heap.size w w') : InH w0 p S w' := by
  obtain ⟨l, hp, hI, ha, hw⟩ := h
  exact ⟨l, hp, hI.below hb, ha, hw.trans (hb.mono hw.size)⟩
theorem gone {l : Lay} {S' : St} (hp : l.p = p) (hw : Below w0.heap.size w0 w) (ha : ∀ b, l.at S.F.length b → w0.heap.size ≤ b) (h : Gone w l S S' w') : InH w0 p S' w' := by
  obtain ⟨l', hp', hI, hS⟩ := h
  exact ⟨l', hp'.trans hp, hI.out, hS.out.base hw.size ha, hw.trans (hS.out.below hw.size ha)⟩
theorem same {l : Lay} {S' : St} (hp : l.p = p) (hw : Below w0.heap.size w0 w) (ha : ∀ b, l.at S.F.length b → w0.heap.size ≤ b) (h : Same w l S S' w') (hF : S'.F.length = S.F.length) : InH w0 p S' w' := gone hp hw ha (h.gone hF)
end InH
theorem fs_bytes {w : World} {l : Lay} {S : St} {v : Value} {B : List Nat} (h : IsFS w l S) (hv : IsBytes w v B) : ∀ a m c, v = .slice (some a) m c → 0 < B.length → a.block ≠ l.p := by
  intro a m c he h0 hb
  obtain ⟨b, off, cap, he2, _, _, _, hc⟩ := hv.cells h0
  rw [he] at he2
  simp at he2
  obtain ⟨rfl, _⟩ := he2
  simp only at hb
  subst hb
  have h1 := hc 0 h0
  obtain ⟨wt, _, hk, _⟩ := h.cells
  obtain ⟨sp, cp, hpv, _, _⟩ := ownsRow_slice h.pend
  have h2 : w.cell? ⟨l.p, off + 0, none⟩ = (fsC l S wt)[off + 0]? := by
    unfold Blk at hk
    simp [World.cell?, hk]
  rw [h2] at h1
  unfold fsC at h1
  rw [hpv] at h1
  match off, h1 with
  | 0, h1 => simp at h1
  | 1, h1 => simp at h1
  | 2, h1 => simp at h1
  | 3, h1 => simp at h1
  | 4, h1 => simp at h1
  | 5, h1 => simp at h1
  | 6, h1 => simp at h1
  | n + 7, h1 => simp at h1
def HPost (w0 : World) (p : Nat) (r : St × Nat) (e : Ending) (w' : World) : Prop := e = .returned (errV r.2) ∧ InH w0 p r.1 w'
section
variable {w0 w : World} {p : Nat} {S : St}
theorem op_h {l : Lay} {r : St × Nat} {e : Ending} {w' : World} (hp : l.p = p) (hw : Below w0.heap.size w0 w) (ha : ∀ b, l.at S.F.length b → w0.heap.size ≤ b) (h : OpPost l S r w e w') : HPost w0 p r e w' := ⟨h.1, InH.gone hp hw ha h.2⟩
theorem new_h (n : Int) (hw : Below w0.heap.size w0 w) : Calls Try.prog 24 #[.int .i64 n] w fun e w' => ∃ p, e = .returned (pP p) ∧ InH w0 p (new n) w' ∧ Below w.heap.size w w' := by
  refine (new_any n w).mono ?_
  rintro e w' ⟨l, rfl, hI, ha, hb⟩
  exact ⟨l.p, rfl, ⟨l, rfl, hI.out, fun b h => by have := ha b h; have := hw.size; omega, hw.trans (hb.out.mono hw.size)⟩, hb.out⟩
theorem create_h (n : ByteArray) (h : InH w0 p S w) (hn : n.size ≤ maxLen) (hc : S.calls ≤ 1099511627776) : Calls Try.prog 13 #[pP p, .string n] w (HPost w0 p (create S n.data.toList)) := by
  obtain ⟨l, rfl, hI, ha, hw⟩ := h
  exact (create_any l S n w hI hn hc).mono fun e w' h => op_h rfl hw ha h
theorem append_h (n : ByteArray) (v : Value) (B : List Nat) (h : InH w0 p S w) (hn : n.size ≤ maxLen) (hc : S.calls ≤ 1099511627776) (hv : IsBytes w v B) (hB : B.length ≤ 1000000) : Calls Try.prog 14 #[pP p, .string n, v] w (HPost w0 p (append S n.data.toList B)) := by
  obtain ⟨l, rfl, hI, ha, hw⟩ := h
  exact (append_any l S n v B w hI hn hc hv hB (fs_bytes hI hv)).mono fun e w' h => op_h rfl hw ha h
theorem sync_h (n : ByteArray) (h : InH w0 p S w) (hn : n.size ≤ maxLen) (hc : S.calls ≤ 1099511627776) : Calls Try.prog 15 #[pP p, .string n] w (HPost w0 p (sync S n.data.toList)) := by
  obtain ⟨l, rfl, hI, ha, hw⟩ := h
  exact (sync_any l S n w hI hn hc).mono fun e w' h => op_h rfl hw ha h
theorem syncDir_h (h : InH w0 p S w) (hc : S.calls ≤ 1099511627776) : Calls Try.prog 16 #[pP p] w (HPost w0 p (syncDir S)) := by
  obtain ⟨l, rfl, hI, ha, hw⟩ := h
  exact (syncDir_any l S w hI hc).mono fun e w' h => op_h rfl hw ha h
theorem rename_h (a n : ByteArray) (h : InH w0 p S w) (ha' : a.size ≤ maxLen) (hn : n.size ≤ maxLen) (hc : S.calls ≤ 1099511627776) : Calls Try.prog 17 #[pP p, .string a, .string n] w (HPost w0 p (rename S a.data.toList n.data.toList)) := by
  obtain ⟨l, rfl, hI, ha, hw⟩ := h
  exact (rename_any l S a n w hI ha' hn hc).mono fun e w' h => op_h rfl hw ha h
theorem remove_h (n : ByteArray) (h : InH w0 p S w) (hn : n.size ≤ maxLen) (hc : S.calls ≤ 1099511627776) : Calls Try.prog 18 #[pP p, .string n] w (HPost w0 p (remove S n.data.toList)) := by
  obtain ⟨l, rfl, hI, ha, hw⟩ := h
  exact (remove_any l S n w hI hn hc).mono fun e w' h => op_h rfl hw ha h
theorem rot_h (n : ByteArray) (sector : Int) (x : Nat) (h : InH w0 p S w) (hn : n.size ≤ maxLen) (hx : x < 256) (hsw : (Lit.int .i64 sector).wf = true) : Calls Try.prog 23 #[pP p, .string n, .int .i64 sector, .int .u8 x] w (HPost w0 p (rot S n.data.toList sector x)) := by
  obtain ⟨l, rfl, hI, ha, hw⟩ := h
  exact (rot_any l S n sector x w hI hn hx hsw).mono fun e w' h => op_h rfl hw ha h
theorem fail_h (n : Int) (h : InH w0 p S w) (hn : (Lit.int .i64 n).wf = true) : Calls Try.prog 10 #[pP p, .int .i64 n] w fun e w' => e = .returned (.tuple #[]) ∧ InH w0 p (setFail S n) w' := by
  obtain ⟨l, rfl, hI, ha, hw⟩ := h
  exact (fail_any l S n w hI hn).mono fun e w' h => ⟨h.1, InH.same rfl hw ha h.2 rfl⟩
theorem room_h (n : Int) (h : InH w0 p S w) : Calls Try.prog 11 #[pP p, .int .i64 n] w fun e w' => e = .returned (.tuple #[]) ∧ InH w0 p (setRoom S n) w' := by
  obtain ⟨l, rfl, hI, ha, hw⟩ := h
  exact (room_any l S n w hI).mono fun e w' h => ⟨h.1, InH.same rfl hw ha h.2 rfl⟩
theorem calls_h (h : InH w0 p S w) : Calls Try.prog 21 #[pP p] w fun e w' => e = .returned (.int .i64 (S.calls : Nat)) ∧ w' = w := by
  obtain ⟨l, rfl, hI, ha, hw⟩ := h
  exact calls_any l S w hI
theorem used_h (h : InH w0 p S w) : Calls Try.prog 20 #[pP p] w fun e w' => e = .returned (.int .i64 (S.used : Nat)) ∧ Below w.heap.size w w' := by
  obtain ⟨l, rfl, hI, ha, hw⟩ := h
  exact used_any l S w hI
theorem names_h (h : InH w0 p S w) : Calls Try.prog 19 #[pP p] w fun e w' => ∃ v, e = .returned v ∧ IsNames w' w.heap.size v S.now ∧ Below w.heap.size w w' := by
  obtain ⟨l, rfl, hI, ha, hw⟩ := h
  exact fsNames_any l S w hI
theorem read_h (n : ByteArray) (h : InH w0 p S w) (hn : n.size ≤ maxLen) : Calls Try.prog 9 #[pP p, .string n] w (ReadPost (readF S n.data.toList) w) := by
  obtain ⟨l, rfl, hI, ha, hw⟩ := h
  exact read_any l S n w hI hn
theorem crash_h (n : Int) (a : Option Addr) (len cap : Nat) (zs : List Int) (h : InH w0 p S w) (hr : IsRow .i64 w a len cap zs) (hc : S.calls ≤ 1099511627776) :
    Calls Try.prog 22 #[pP p, .int .i64 n, .slice a len cap] w fun e w' => ∃ q, e = .returned (pP q) ∧ InH w0 q (crash S n (zs.take len)) w' ∧ Below w.heap.size w w' := by
  obtain ⟨l, rfl, hI, ha, hw⟩ := h
  refine (crash_any l S n a len cap zs w hI hr hc).mono ?_
  rintro e w' ⟨l', rfl, hI', ha', hb⟩
  exact ⟨l'.p, rfl, ⟨l', rfl, hI'.out, fun b h => by have := ha' b h; have := hw.size; omega, hw.trans (hb.out.mono hw.size)⟩, hb.out⟩
end
/-! no file system -/
section
variable (w : World)
set_option maxHeartbeats 2000000
theorem find_nil (v : Value) : Calls Try.prog 26 #[.pointer none, v] w fun e w' => e = .returned (.pointer none) ∧ w' = w := by
  go_enter Try.func26, Try.ntmps26
  go_wp2_with fail
  go_ret
  exact ⟨rfl, rfl⟩
theorem begin_nil : Calls Try.prog 29 #[.pointer none] w fun e w' => e = .returned (errV 3) ∧ w' = w := by
  go_enter Try.func29, Try.ntmps29
  go_wp2_with fail
  go_ret
  exact ⟨rfl, rfl⟩
theorem beginWith_nil (v : Value) : Calls Try.prog 32 #[.pointer none, v] w fun e w' => e = .returned (.tuple #[.pointer none, .int .i64 3]) ∧ w' = w := by
  have hb := begin_nil w
  unfold errV at hb
  go_enter Try.func32, Try.ntmps32
  go_wp2_with fail
  refine hb.mono ?_
  rintro e w' ⟨rfl, rfl⟩
  go_wp2_with fail
  go_ret2
  exact ⟨rfl, rfl⟩
theorem create_nil (v : Value) : Calls Try.prog 13 #[.pointer none, v] w fun e w' => e = .returned (errV 3) ∧ w' = w := by
  have hb := begin_nil w
  unfold errV at hb
  go_enter Try.func13, Try.ntmps13
  go_wp2_with fail
  refine hb.mono ?_
  rintro e w' ⟨rfl, rfl⟩
  go_wp2_with fail
  go_ret
  exact ⟨rfl, rfl⟩
theorem append_nil (v u : Value) : Calls Try.prog 14 #[.pointer none, v, u] w fun e w' => e = .returned (errV 3) ∧ w' = w := by
  have hb := beginWith_nil w v
  go_enter Try.func14, Try.ntmps14
  go_wp2_with fail
  refine hb.mono ?_
  rintro e w' ⟨rfl, rfl⟩
  go_wp2_with fail
  go_ret
  exact ⟨rfl, rfl⟩
theorem sync_nil (v : Value) : Calls Try.prog 15 #[.pointer none, v] w fun e w' => e = .returned (errV 3) ∧ w' = w := by
  have hb := beginWith_nil w v
  go_enter Try.func15, Try.ntmps15
  go_wp2_with fail
  refine hb.mono ?_
  rintro e w' ⟨rfl, rfl⟩
  go_wp2_with fail
  go_ret
  exact ⟨rfl, rfl⟩
theorem syncDir_nil : Calls Try.prog 16 #[.pointer none] w fun e w' => e = .returned (errV 3) ∧ w' = w := by
  have hb := begin_nil w
  unfold errV at hb
  go_enter Try.func16, Try.ntmps16
  go_wp2_with fail
  refine hb.mono ?_
  rintro e w' ⟨rfl, rfl⟩
  go_wp2_with fail
  go_ret
  exact ⟨rfl, rfl⟩
theorem rename_nil (v u : Value) : Calls Try.prog 17 #[.pointer none, v, u] w fun e w' => e = .returned (errV 3) ∧ w' = w := by
  have hb := beginWith_nil w v
  go_enter Try.func17, Try.ntmps17
  go_wp2_with fail
  refine hb.mono ?_
  rintro e w' ⟨rfl, rfl⟩
  go_wp2_with fail
  go_ret
  exact ⟨rfl, rfl⟩
theorem remove_nil (v : Value) : Calls Try.prog 18 #[.pointer none, v] w fun e w' => e = .returned (errV 3) ∧ w' = w := by
  have hb := beginWith_nil w v
  go_enter Try.func18, Try.ntmps18
  go_wp2_with fail
  refine hb.mono ?_
  rintro e w' ⟨rfl, rfl⟩
  go_wp2_with fail
  go_ret
  exact ⟨rfl, rfl⟩
theorem read_nil (v : Value) : Calls Try.prog 9 #[.pointer none, v] w fun e w' => e = .returned (.tuple #[.slice none 0 0, .int .i64 3]) ∧ w' = w := by
  have hb := find_nil w v
  go_enter Try.func9, Try.ntmps9
  go_wp2_with fail
  refine hb.mono ?_
  rintro e w' ⟨rfl, rfl⟩
  go_wp2_with fail
  go_ret2
  exact ⟨rfl, rfl⟩
theorem names_nil : Calls Try.prog 19 #[.pointer none] w fun e w' => e = .returned (.slice none 0 0) ∧ w' = w := by
  go_enter Try.func19, Try.ntmps19
  go_wp2_with fail
  go_ret
  exact ⟨rfl, rfl⟩
theorem used_nil : Calls Try.prog 20 #[.pointer none] w fun e w' => e = .returned (.int .i64 0) ∧ w' = w := by
  go_enter Try.func20, Try.ntmps20
  go_wp2_with fail
  go_ret
  exact ⟨rfl, rfl⟩
theorem calls_nil : Calls Try.prog 21 #[.pointer none] w fun e w' => e = .returned (.int .i64 0) ∧ w' = w := by
  go_enter Try.func21, Try.ntmps21
  go_wp2_with fail
  go_ret
  exact ⟨rfl, rfl⟩
theorem fail_nil (v : Value) : Calls Try.prog 10 #[.pointer none, v] w fun e w' => e = .returned (.tuple #[]) ∧ w' = w := by
  go_enter Try.func10, Try.ntmps10
  go_wp2_with fail
  refine bodyPost_ret (results_none rfl _ _ _) rfl ?_
  exact ⟨rfl, rfl⟩
theorem room_nil (v : Value) : Calls Try.prog 11 #[.pointer none, v] w fun e w' => e = .returned (.tuple #[]) ∧ w' = w := by
  go_enter Try.func11, Try.ntmps11
  go_wp2_with fail
  refine bodyPost_ret (results_none rfl _ _ _) rfl ?_
  exact ⟨rfl, rfl⟩
theorem crash_nil (v u : Value) : Calls Try.prog 22 #[.pointer none, v, u] w fun e w' => e = .returned (.pointer none) ∧ w' = w := by
  go_enter Try.func22, Try.ntmps22
  go_wp2_with fail
  go_ret
  exact ⟨rfl, rfl⟩
theorem rot_nil (v u x : Value) : Calls Try.prog 23 #[.pointer none, v, u, x] w fun e w' => e = .returned (errV 3) ∧ w' = w := by
  have hb := find_nil w v
  go_enter Try.func23, Try.ntmps23
  go_wp2_with fail
  refine hb.mono ?_
  rintro e w' ⟨rfl, rfl⟩
  go_wp2_with fail
  go_ret
  exact ⟨rfl, rfl⟩
end
end Go.Proofs.Ytdjcblboibbefaa.S13

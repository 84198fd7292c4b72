/- Texts put together: LasA. -/
import Derived.Test.YthgpdnffahmhjaaGreatDoorMg30
set_option linter.unusedSimpArgs false
set_option linter.unusedVariables false
set_option maxRecDepth 100000
namespace Go.Proofs.YthgpdnffahmhjaaGreatDoor.S15
open Go.RowKit S13 S13.Dk
def twiceS (f : St → St × Nat) (S : St) : St × Nat := if (f S).2 ≠ 0 then ((f (f S).1).1, (f S).2) else f S
def extd (S : St) (n : Nm) (B : List Nat) : St × Nat := if (append S n B).2 ≠ 0 then append S n B else twiceS (fun T => sync T n) (append S n B).1
def wrt (S : St) (n : Nm) (B : List Nat) : St × Nat := if (create S n).2 ≠ 0 then create S n else extd (create S n).1 n B
def rewr1 (S : St) (sp n : Nm) (B : List Nat) : St × Nat := if (wrt S sp B).2 = 0 then rename (wrt S sp B).1 sp n else wrt S sp B
def rewr (S : St) (sp n : Nm) (B : List Nat) : St × Nat :=
  if (rewr1 S sp n B).2 ≠ 0 then ((remove (rewr1 S sp n B).1 sp).1, (rewr1 S sp n B).2)
  else twiceS syncDir (rewr1 S sp n B).1
theorem withB_calls {S : St} {f : St → St × Nat} (hf : ∀ T, (f T).1.calls = T.calls) : (withB S f).1.calls = S.calls + 1 := by
  unfold withB
  split
  · exact beg_calls S
  · rw [hf]; exact beg_calls S
theorem withF_calls {S : St} {n : Nm} {f : St → Nat → St × Nat} (hf : ∀ T i, (f T i).1.calls = T.calls) : (withF S n f).1.calls = S.calls + 1 := by
  unfold withF
  refine withB_calls fun T => ?_
  split
  · rfl
  · exact hf _ _
theorem create_calls (S : St) (n : Nm) : (create S n).1.calls = S.calls + 1 := by
  unfold create
  refine withB_calls fun T => ?_
  split
  · rfl
  · split <;> rfl
theorem append_calls (S : St) (n : Nm) (B : List Nat) : (append S n B).1.calls = S.calls + 1 := by
  unfold append
  refine withF_calls fun T i => ?_
  split <;> rfl
theorem sync_calls (S : St) (n : Nm) : (sync S n).1.calls = S.calls + 1 := withF_calls fun _ _ => rfl
theorem rename_calls (S : St) (a b : Nm) : (rename S a b).1.calls = S.calls + 1 := by
  unfold rename
  refine withF_calls fun T i => ?_
  split <;> rfl
theorem syncDir_calls (S : St) : (syncDir S).1.calls = S.calls + 1 := withB_calls fun _ => rfl
theorem twice_calls {f : St → St × Nat} (hf : ∀ T, (f T).1.calls = T.calls + 1) (S : St) : (twiceS f S).1.calls ≤ S.calls + 2 := by
  unfold twiceS
  have h1 := hf S
  have h2 := hf (f S).1
  split
  · show (f (f S).1).1.calls ≤ S.calls + 2
    omega
  · omega
theorem extd_calls (S : St) (n : Nm) (B : List Nat) : (extd S n B).1.calls ≤ S.calls + 3 := by
  unfold extd
  have h2 := append_calls S n B
  have h3 := twice_calls (f := fun T => sync T n) (fun T => sync_calls T n) (append S n B).1
  split <;> omega
theorem wrt_calls (S : St) (n : Nm) (B : List Nat) : (wrt S n B).1.calls ≤ S.calls + 4 := by
  unfold wrt
  have h1 := create_calls S n
  have h2 := extd_calls (create S n).1 n B
  split <;> omega
theorem code_ne {c : Nat} (h : c ≠ 0) : (((c : Int) != 0) = true) ∧ ((c != 0) = true) ∧ (((c : Int) == 0) = false) ∧ ((c == 0) = false) := ⟨bne_t (by omega), by simpa using h, beq_f (by omega), by simpa using h⟩
theorem z_call {w0 w w' : World} {p : Nat} {r : St × Nat} {Z : Nat → Prop} {S' : St} {c : Nat} {e : Ending} (hr : r = (S', c)) (h : ZPost w0 p r Z w e w') : e = .returned (.int .i64 (c : Nat)) ∧ InZ w0 p S' Z w' ∧ ∀ b, Z b → w'.heap[b]? = w.heap[b]? := by
  subst hr; exact h
def RPost (w0 : World) (p : Nat) (r : St × Nat) (Z : Nat → Prop) (w : World) (e : Ending) (w' : World) : Prop := ZPost w0 p r Z w e w'
section
variable {w0 w : World} {p : Nat} {S : St} {Z : Nat → Prop}
set_option maxHeartbeats 8000000
theorem twice_dir (h : InZ w0 p S Z w) (hc : S.calls ≤ 1099511627600) :
    Calls Tryz.prog 52 #[.func (.func 104) #[pP p] #[]] w (ZPost w0 p (twiceS syncDir S) Z w) := by
  obtain ⟨S1, hS1⟩ : ∃ S1, (syncDir S).1 = S1 := ⟨_, rfl⟩
  obtain ⟨c1, hc1⟩ : ∃ c1, (syncDir S).2 = c1 := ⟨_, rfl⟩
  have hr1 : syncDir S = (S1, c1) := by rw [← hS1, ← hc1]
  have hS1c : S1.calls = S.calls + 1 := by rw [← hS1]; exact syncDir_calls S
  obtain ⟨S2, hS2⟩ : ∃ S2, (syncDir S1).1 = S2 := ⟨_, rfl⟩
  obtain ⟨c2, hc2⟩ : ∃ c2, (syncDir S1).2 = c2 := ⟨_, rfl⟩
  have hr2 : syncDir S1 = (S2, c2) := by rw [← hS2, ← hc2]
  have HW : Hid (twiceS syncDir S = if c1 ≠ 0 then (S2, c1) else (S1, c1)) := Lib.hid (by
    unfold twiceS
    simp only [hr1, hr2])
  have H1 : Hid (Calls Tryz.prog 104 #[pP p] w fun e w' => e = .returned (.int .i64 (c1 : Nat)) ∧ InZ w0 p S1 Z w' ∧ ∀ b, Z b → w'.heap[b]? = w.heap[b]?) := Lib.hid ((syncDir_z h (by omega)).mono fun e w' h' => z_call hr1 h')
  have H2 : Hid (∀ W, InZ w0 p S1 Z W → (∀ b, Z b → W.heap[b]? = w.heap[b]?) → Calls Tryz.prog 104 #[pP p] W fun e w' => e = .returned (.int .i64 (c2 : Nat)) ∧ InZ w0 p S2 Z w' ∧ ∀ b, Z b → w'.heap[b]? = W.heap[b]?) := Lib.hid fun W hW _ => (syncDir_z hW (by omega)).mono fun e w' h' => z_call hr2 h'
  clear h hS1 hc1 hr1 hS1c hS2 hc2 hr2 hc
  go_enter Tryz.func52, Tryz.ntmps52
  go_wp2_with fail
  refine H1.out.mono ?_
  rintro e w1 ⟨rfl, hz1, hh1⟩
  have HZ1 := Lib.hid hz1
  have HH1 := Lib.hid hh1
  clear H1 hz1 hh1
  by_cases hc1 : c1 ≠ 0
  · obtain ⟨q1, q2, q3, q4⟩ := code_ne hc1
    have HW1 := Lib.hid (HW.out.trans (if_pos hc1))
    clear HW hc1
    go_wp2_with fail
    refine (H2.out w1 HZ1.out HH1.out).mono ?_
    rintro e w2 ⟨rfl, hz2, hh2⟩
    have HZ2 := Lib.hid hz2
    have HH2 : Hid (∀ b, Z b → w2.heap[b]? = w.heap[b]?) := Lib.hid fun b hb => (hh2 b hb).trans (HH1.out b hb)
    clear hz2 hh2
    go_wp2_with fail
    go_ret
    rw [HW1.out]
    exact ⟨rfl, HZ2.out, HH2.out⟩
  · have hc10 : c1 = 0 := by omega
    have HW1 := Lib.hid (HW.out.trans (if_neg hc1))
    clear HW
    subst hc10
    clear hc1
    go_wp2_with fail
    go_ret
    rw [HW1.out]
    exact ⟨rfl, HZ1.out, HH1.out⟩
theorem again_any (n : ByteArray) {g g2 : Nat} (hn : n.size ≤ maxLen) (hg : Z g) (hg2 : Z g2) (hk : Blk w g 24 [pP p]) (hk2 : Blk w g2 9 [.string n]) (h : InZ w0 p S Z w) (hc : S.calls ≤ 1099511627700) :
    Calls Tryz.prog 53 #[.pointer (some ⟨g, 0, none⟩), .pointer (some ⟨g2, 0, none⟩)] w (ZPost w0 p (sync S n.data.toList) Z w) := by
  obtain ⟨S1, hS1⟩ : ∃ S1, (sync S n.data.toList).1 = S1 := ⟨_, rfl⟩
  obtain ⟨c1, hc1⟩ : ∃ c1, (sync S n.data.toList).2 = c1 := ⟨_, rfl⟩
  have hr1 : sync S n.data.toList = (S1, c1) := by rw [← hS1, ← hc1]
  have H1 : Hid (Calls Tryz.prog 54 #[pP p, .string n] w fun e w' => e = .returned (.int .i64 (c1 : Nat)) ∧ InZ w0 p S1 Z w' ∧ ∀ b, Z b → w'.heap[b]? = w.heap[b]?) := Lib.hid ((sync_z n h hn (by omega)).mono fun e w' h' => z_call hr1 h')
  have d0 : w.cell? ⟨g, 0, none⟩ = some (.pointer (some ⟨p, 0, none⟩)) := hk.cell rfl
  have d1 : w.cell? ⟨g2, 0, none⟩ = some (.string n) := hk2.cell rfl
  have HR := Lib.hid hr1
  clear h hS1 hc1 hr1 hc hk hk2 hg hg2 hn
  go_enter Tryz.func53, Tryz.ntmps53
  go_wp2_with fail
  refine H1.out.mono ?_
  rintro e w1 ⟨rfl, hz1, hh1⟩
  have HZ1 := Lib.hid hz1
  have HH1 := Lib.hid hh1
  clear H1 hz1 hh1
  go_wp2_with fail
  go_ret
  rw [HR.out]
  exact ⟨rfl, HZ1.out, HH1.out⟩
theorem twice_sync (n : ByteArray) {g g2 : Nat} (hn : n.size ≤ maxLen) (hg : Z g) (hg2 : Z g2) (hk : Blk w g 24 [pP p]) (hk2 : Blk w g2 9 [.string n]) (h : InZ w0 p S Z w) (hc : S.calls ≤ 1099511627600) :
    Calls Tryz.prog 52 #[.func (.func 53) #[] #[.pointer (some ⟨g, 0, none⟩), .pointer (some ⟨g2, 0, none⟩)]] w (ZPost w0 p (twiceS (fun T => sync T n.data.toList) S) Z w) := by
  obtain ⟨S1, hS1⟩ : ∃ S1, ((fun T => sync T n.data.toList) S).1 = S1 := ⟨_, rfl⟩
  obtain ⟨c1, hc1⟩ : ∃ c1, ((fun T => sync T n.data.toList) S).2 = c1 := ⟨_, rfl⟩
  have hr1 : (fun T => sync T n.data.toList) S = (S1, c1) := by rw [← hS1, ← hc1]
  have hS1c : S1.calls = S.calls + 1 := by rw [← hS1]; exact sync_calls S _
  obtain ⟨S2, hS2⟩ : ∃ S2, ((fun T => sync T n.data.toList) S1).1 = S2 := ⟨_, rfl⟩
  obtain ⟨c2, hc2⟩ : ∃ c2, ((fun T => sync T n.data.toList) S1).2 = c2 := ⟨_, rfl⟩
  have hr2 : (fun T => sync T n.data.toList) S1 = (S2, c2) := by rw [← hS2, ← hc2]
  have HW : Hid (twiceS (fun T => sync T n.data.toList) S = if c1 ≠ 0 then (S2, c1) else (S1, c1)) := Lib.hid (by
    unfold twiceS
    simp only [hr1, hr2])
  have H1 : Hid (Calls Tryz.prog 53 #[.pointer (some ⟨g, 0, none⟩), .pointer (some ⟨g2, 0, none⟩)] w fun e w' => e = .returned (.int .i64 (c1 : Nat)) ∧ InZ w0 p S1 Z w' ∧ ∀ b, Z b → w'.heap[b]? = w.heap[b]?) := Lib.hid ((again_any n hn hg hg2 hk hk2 h (by omega)).mono fun e w' h' => z_call hr1 h')
  have H2 : Hid (∀ W, InZ w0 p S1 Z W → (∀ b, Z b → W.heap[b]? = w.heap[b]?) → Calls Tryz.prog 53 #[.pointer (some ⟨g, 0, none⟩), .pointer (some ⟨g2, 0, none⟩)] W fun e w' => e = .returned (.int .i64 (c2 : Nat)) ∧ InZ w0 p S2 Z w' ∧ ∀ b, Z b → w'.heap[b]? = W.heap[b]?) := Lib.hid fun W hW hq => (again_any n hn hg hg2 ((hq _ hg).trans hk) ((hq _ hg2).trans hk2) hW (by omega)).mono fun e w' h' => z_call hr2 h'
  clear hk hk2 hg hg2 hn
  clear h hS1 hc1 hr1 hS1c hS2 hc2 hr2 hc
  go_enter Tryz.func52, Tryz.ntmps52
  go_wp2_with fail
  refine H1.out.mono ?_
  rintro e w1 ⟨rfl, hz1, hh1⟩
  have HZ1 := Lib.hid hz1
  have HH1 := Lib.hid hh1
  clear H1 hz1 hh1
  by_cases hc1 : c1 ≠ 0
  · obtain ⟨q1, q2, q3, q4⟩ := code_ne hc1
    have HW1 := Lib.hid (HW.out.trans (if_pos hc1))
    clear HW hc1
    go_wp2_with fail
    refine (H2.out w1 HZ1.out HH1.out).mono ?_
    rintro e w2 ⟨rfl, hz2, hh2⟩
    have HZ2 := Lib.hid hz2
    have HH2 : Hid (∀ b, Z b → w2.heap[b]? = w.heap[b]?) := Lib.hid fun b hb => (hh2 b hb).trans (HH1.out b hb)
    clear hz2 hh2
    go_wp2_with fail
    go_ret
    rw [HW1.out]
    exact ⟨rfl, HZ2.out, HH2.out⟩
  · have hc10 : c1 = 0 := by omega
    have HW1 := Lib.hid (HW.out.trans (if_neg hc1))
    clear HW
    subst hc10
    clear hc1
    go_wp2_with fail
    go_ret
    rw [HW1.out]
    exact ⟨rfl, HZ1.out, HH1.out⟩
theorem extend_any (n : ByteArray) (v : Value) (B : List Nat) (h : InZ w0 p S Z w) (hn : n.size ≤ maxLen) (hc : S.calls ≤ 1099511627100) (hv : ∀ W, (∀ b, Z b → W.heap[b]? = w.heap[b]?) → IsBytes W v B) (hB : B.length ≤ 1000000) :
    Calls Tryz.prog 24 #[pP p, .string n, v] w (ZPost w0 p (extd S n.data.toList B) Z w) := by
  have hb1 : Below w.heap.size w (w.alloc (.cells #[.pointer (some ⟨p, 0, none⟩)] 24)) := (Below.refl _ _).alloc (Nat.le_refl _) _
  have hk1 := Blk.new w 24 [pP p]
  obtain ⟨w1, hw1⟩ : ∃ w1, w.alloc (.cells #[.pointer (some ⟨p, 0, none⟩)] 24) = w1 := ⟨_, rfl⟩
  have hk1 : Blk w1 w.heap.size 24 [pP p] := by rw [← hw1]; exact hk1
  have hs1 : w1.heap.size = w.heap.size + 1 := by rw [← hw1]; simp
  rw [hw1] at hb1
  have hb2 : Below w1.heap.size w1 (w1.alloc (.cells #[.string n] 9)) := (Below.refl _ _).alloc (Nat.le_refl _) _
  have hk2 := Blk.new w1 9 [.string n]
  obtain ⟨w2, hw2⟩ : ∃ w2, w1.alloc (.cells #[.string n] 9) = w2 := ⟨_, rfl⟩
  have hk2 : Blk w2 w1.heap.size 9 [.string n] := by rw [← hw2]; exact hk2
  have hs2 : w2.heap.size = w.heap.size + 2 := by rw [← hw2]; simp; omega
  rw [hw2] at hb2
  have hk1 : Blk w2 w.heap.size 24 [pP p] := hk1.below hb2 hk1.lt
  have hbw : Below w.heap.size w w2 := hb1.trans (hb2.mono (by omega))
  obtain ⟨g, hg⟩ : ∃ g, w.heap.size = g := ⟨_, rfl⟩
  obtain ⟨g2, hg2⟩ : ∃ g2, w1.heap.size = g2 := ⟨_, rfl⟩
  have hZlt : ∀ b, Z b → b < w.heap.size := by
    obtain ⟨l, _, _, _, _, hz⟩ := h
    exact fun b hb => (hz b hb).1
  have hz2 : InZ w0 p S (fun b => Z b ∨ b = g ∨ b = g2) w2 := h.more hbw fun b hb => by
    rcases hb with hb | rfl | rfl
    · exact .inl hb
    · exact .inr ⟨by omega, by omega⟩
    · exact .inr ⟨by omega, by omega⟩
  have hkeep : ∀ b, Z b → w2.heap[b]? = w.heap[b]? := fun b hb => hbw.block b (hZlt b hb)
  rw [hg] at hk1
  rw [hg2] at hk2
  obtain ⟨S1, hS1⟩ : ∃ S1, (append S n.data.toList B).1 = S1 := ⟨_, rfl⟩
  obtain ⟨c1, hc1⟩ : ∃ c1, (append S n.data.toList B).2 = c1 := ⟨_, rfl⟩
  have hr1 : append S n.data.toList B = (S1, c1) := by rw [← hS1, ← hc1]
  have hS1c : S1.calls = S.calls + 1 := by rw [← hS1]; exact append_calls S _ _
  obtain ⟨S2, hS2⟩ : ∃ S2, (twiceS (fun T => sync T n.data.toList) S1).1 = S2 := ⟨_, rfl⟩
  obtain ⟨c2, hc2⟩ : ∃ c2, (twiceS (fun T => sync T n.data.toList) S1).2 = c2 := ⟨_, rfl⟩
  have hr2 : twiceS (fun T => sync T n.data.toList) S1 = (S2, c2) := by rw [← hS2, ← hc2]
  have HW : Hid (extd S n.data.toList B = if c1 ≠ 0 then (S1, c1) else (S2, c2)) := Lib.hid (by
    unfold extd
    simp only [hr1, hr2])
  have H1 : Hid (Calls Tryz.prog 51 #[pP p, .string n, v] w2 fun e w' => e = .returned (.int .i64 (c1 : Nat)) ∧ InZ w0 p S1 (fun b => Z b ∨ b = g ∨ b = g2) w' ∧ ∀ b, (Z b ∨ b = g ∨ b = g2) → w'.heap[b]? = w2.heap[b]?) := Lib.hid ((append_z n v B hz2 hn (by omega) (hv w2 hkeep) hB).mono fun e w' h' => z_call hr1 h')
  have H2 : Hid (∀ W, InZ w0 p S1 (fun b => Z b ∨ b = g ∨ b = g2) W → (∀ b, (Z b ∨ b = g ∨ b = g2) → W.heap[b]? = w2.heap[b]?) → Calls Tryz.prog 52 #[.func (.func 53) #[] #[.pointer (some ⟨g, 0, none⟩), .pointer (some ⟨g2, 0, none⟩)]] W fun e w' => e = .returned (.int .i64 (c2 : Nat)) ∧ InZ w0 p S2 (fun b => Z b ∨ b = g ∨ b = g2) w' ∧ ∀ b, (Z b ∨ b = g ∨ b = g2) → w'.heap[b]? = W.heap[b]?) := Lib.hid fun W hW hq => (twice_sync n hn (.inr (.inl rfl)) (.inr (.inr rfl)) ((hq _ (.inr (.inl rfl))).trans hk1) ((hq _ (.inr (.inr rfl))).trans hk2) hW (by omega)).mono fun e w' h' => z_call hr2 h'
  have d0 : w2.cell? ⟨g, 0, none⟩ = some (.pointer (some ⟨p, 0, none⟩)) := hk1.cell rfl
  have d1 : w2.cell? ⟨g2, 0, none⟩ = some (.string n) := hk2.cell rfl
  have HK := Lib.hid hkeep
  have HG := Lib.hid hg
  have HG2 := Lib.hid hg2
  clear h hS1 hc1 hr1 hS1c hS2 hc2 hr2 hc hk1 hk2 hn hv hB hb1 hb2 hbw hz2 hkeep hZlt hs1 hs2
  go_enter Tryz.func24, Tryz.ntmps24
  go_wp2_with fail
  refine H1.out.mono ?_
  rintro e w3 ⟨rfl, hz3, hh3⟩
  have HZ3 := Lib.hid hz3
  have HH3 := Lib.hid hh3
  clear H1 hz3 hh3
  by_cases hc1 : c1 ≠ 0
  · obtain ⟨q1, q2, q3, q4⟩ := code_ne hc1
    have HW1 : Hid (extd S n.data.toList B = (S1, c1)) := Lib.hid (by rw [HW.out, if_pos hc1])
    clear HW hc1
    go_wp2_with fail
    go_ret
    rw [HW1.out]
    exact ⟨rfl, HZ3.out.fewer fun b hb => .inl hb, fun b hb => (HH3.out b (.inl hb)).trans (HK.out b hb)⟩
  · have hc10 : c1 = 0 := by omega
    have HW1 : Hid (extd S n.data.toList B = (S2, c2)) := Lib.hid (by rw [HW.out, if_neg hc1])
    clear HW
    subst hc10
    clear hc1
    have h2 := H2.out w3 HZ3.out HH3.out
    have H2 := Lib.hid h2
    clear h2
    go_wp2_with fail
    refine H2.out.mono ?_
    rintro e w4 ⟨rfl, hz4, hh4⟩
    have HZ4 := Lib.hid hz4
    have HH4 := Lib.hid hh4
    clear H2 hz4 hh4
    go_wp2_with fail
    go_ret
    rw [HW1.out]
    exact ⟨rfl, HZ4.out.fewer fun b hb => .inl hb, fun b hb => (HH4.out b (.inl hb)).trans ((HH3.out b (.inl hb)).trans (HK.out b hb))⟩
theorem write_any (n : ByteArray) (v : Value) (B : List Nat) (h : InZ w0 p S Z w) (hn : n.size ≤ maxLen) (hc : S.calls ≤ 1099511627000) (hv : ∀ W, (∀ b, Z b → W.heap[b]? = w.heap[b]?) → IsBytes W v B) (hB : B.length ≤ 1000000) :
    Calls Tryz.prog 101 #[pP p, .string n, v] w (ZPost w0 p (wrt S n.data.toList B) Z w) := by
  obtain ⟨S1, hS1⟩ : ∃ S1, (create S n.data.toList).1 = S1 := ⟨_, rfl⟩
  obtain ⟨c1, hc1⟩ : ∃ c1, (create S n.data.toList).2 = c1 := ⟨_, rfl⟩
  have hr1 : create S n.data.toList = (S1, c1) := by rw [← hS1, ← hc1]
  have hS1c : S1.calls = S.calls + 1 := by rw [← hS1]; exact create_calls S _
  obtain ⟨S2, hS2⟩ : ∃ S2, (extd S1 n.data.toList B).1 = S2 := ⟨_, rfl⟩
  obtain ⟨c2, hc2⟩ : ∃ c2, (extd S1 n.data.toList B).2 = c2 := ⟨_, rfl⟩
  have hr2 : extd S1 n.data.toList B = (S2, c2) := by rw [← hS2, ← hc2]
  have HW : Hid (wrt S n.data.toList B = if c1 ≠ 0 then (S1, c1) else (S2, c2)) := Lib.hid (by
    unfold wrt
    simp only [hr1, hr2])
  have H1 : Hid (Calls Tryz.prog 7 #[pP p, .string n] w fun e w' => e = .returned (.int .i64 (c1 : Nat)) ∧ InZ w0 p S1 Z w' ∧ ∀ b, Z b → w'.heap[b]? = w.heap[b]?) := Lib.hid ((create_z n h hn (by omega)).mono fun e w' h' => z_call hr1 h')
  have H2 : Hid (∀ W, InZ w0 p S1 Z W → IsBytes W v B → (∀ b, Z b → W.heap[b]? = w.heap[b]?) → Calls Tryz.prog 24 #[pP p, .string n, v] W fun e w' => e = .returned (.int .i64 (c2 : Nat)) ∧ InZ w0 p S2 Z w' ∧ ∀ b, Z b → w'.heap[b]? = W.heap[b]?) := Lib.hid fun W hW hb hk => (extend_any n v B hW hn (by omega) (fun W2 h2 => hv W2 fun b hb => (h2 b hb).trans (hk b hb)) hB).mono fun e w' h' => z_call hr2 h'
  have HV := Lib.hid hv
  clear h hv hS1 hc1 hr1 hS1c hS2 hc2 hr2 hc hn hB
  go_enter Tryz.func101, Tryz.ntmps101
  go_wp2_with fail
  refine H1.out.mono ?_
  rintro e w1 ⟨rfl, hz1, hh1⟩
  have HZ1 := Lib.hid hz1
  have HH1 := Lib.hid hh1
  clear H1 hz1 hh1
  by_cases hc1 : c1 ≠ 0
  · obtain ⟨q1, q2, q3, q4⟩ := code_ne hc1
    have HW1 : Hid (wrt S n.data.toList B = (S1, c1)) := Lib.hid (by rw [HW.out, if_pos hc1])
    clear HW hc1
    go_wp2_with fail
    go_ret
    rw [HW1.out]
    exact ⟨rfl, HZ1.out, HH1.out⟩
  · have hc10 : c1 = 0 := by omega
    have HW1 : Hid (wrt S n.data.toList B = (S2, c2)) := Lib.hid (by rw [HW.out, if_neg hc1])
    clear HW
    subst hc10
    clear hc1
    have h2 := H2.out w1 HZ1.out (HV.out w1 HH1.out) HH1.out
    have H2 := Lib.hid h2
    clear h2
    go_wp2_with fail
    refine H2.out.mono ?_
    rintro e w2 ⟨rfl, hz2, hh2⟩
    have HZ2 := Lib.hid hz2
    have HH2 : Hid (∀ b, Z b → w2.heap[b]? = w.heap[b]?) := Lib.hid fun b hb => (hh2 b hb).trans (HH1.out b hb)
    clear H2 hz2 hh2
    go_wp2_with fail
    go_ret
    rw [HW1.out]
    exact ⟨rfl, HZ2.out, HH2.out⟩
theorem rewrite_any (sp n : ByteArray) (v : Value) (B : List Nat) (h : InZ w0 p S Z w) (hs : sp.size ≤ maxLen) (hn : n.size ≤ maxLen) (hc : S.calls ≤ 1099511627000) (hv : ∀ W, (∀ b, Z b → W.heap[b]? = w.heap[b]?) → IsBytes W v B) (hB : B.length ≤ 1000000) :
    Calls Tryz.prog 68 #[pP p, .string sp, .string n, v] w (ZPost w0 p (rewr S sp.data.toList n.data.toList B) Z w) := by
  obtain ⟨S1, hS1⟩ : ∃ S1, (wrt S sp.data.toList B).1 = S1 := ⟨_, rfl⟩
  obtain ⟨c1, hc1⟩ : ∃ c1, (wrt S sp.data.toList B).2 = c1 := ⟨_, rfl⟩
  have hr1 : wrt S sp.data.toList B = (S1, c1) := by rw [← hS1, ← hc1]
  have hS1c : S1.calls ≤ S.calls + 4 := by rw [← hS1]; exact wrt_calls S _ _
  obtain ⟨S2, hS2⟩ : ∃ S2, (rename S1 sp.data.toList n.data.toList).1 = S2 := ⟨_, rfl⟩
  obtain ⟨c2, hc2⟩ : ∃ c2, (rename S1 sp.data.toList n.data.toList).2 = c2 := ⟨_, rfl⟩
  have hr2 : rename S1 sp.data.toList n.data.toList = (S2, c2) := by rw [← hS2, ← hc2]
  have hS2c : S2.calls = S1.calls + 1 := by rw [← hS2]; exact rename_calls S1 _ _
  obtain ⟨S3, hS3⟩ : ∃ S3, (twiceS syncDir S2).1 = S3 := ⟨_, rfl⟩
  obtain ⟨c3, hc3⟩ : ∃ c3, (twiceS syncDir S2).2 = c3 := ⟨_, rfl⟩
  have hr3 : twiceS syncDir S2 = (S3, c3) := by rw [← hS3, ← hc3]
  obtain ⟨R1, hR1⟩ : ∃ R1, (remove S1 sp.data.toList).1 = R1 := ⟨_, rfl⟩
  obtain ⟨R2, hR2⟩ : ∃ R2, (remove S2 sp.data.toList).1 = R2 := ⟨_, rfl⟩
  have HW : Hid (rewr S sp.data.toList n.data.toList B = if c1 ≠ 0 then (R1, c1) else if c2 ≠ 0 then (R2, c2) else (S3, c3)) := Lib.hid (by
    unfold rewr rewr1
    simp only [hr1, hr2]
    by_cases h1 : c1 = 0
    · subst h1
      simp only [if_true, ne_eq, not_true_eq_false, if_false, hr2, hr3, hR2]
    · simp only [h1, if_false, ne_eq, not_false_eq_true, if_true, hR1])
  have H1 : Hid (Calls Tryz.prog 101 #[pP p, .string sp, v] w fun e w' => e = .returned (.int .i64 (c1 : Nat)) ∧ InZ w0 p S1 Z w' ∧ ∀ b, Z b → w'.heap[b]? = w.heap[b]?) := Lib.hid ((write_any sp v B h hs (by omega) hv hB).mono fun e w' h' => z_call hr1 h')
  have H2 : Hid (∀ W, InZ w0 p S1 Z W → Calls Tryz.prog 102 #[pP p, .string sp, .string n] W fun e w' => e = .returned (.int .i64 (c2 : Nat)) ∧ InZ w0 p S2 Z w' ∧ ∀ b, Z b → w'.heap[b]? = W.heap[b]?) := Lib.hid fun W hW => (rename_z sp n hW hs hn (by omega)).mono fun e w' h' => z_call hr2 h'
  have HD : Hid (∀ W T, InZ w0 p T Z W → T.calls ≤ 1099511627776 → Calls Tryz.prog 103 #[pP p, .string sp] W fun e w' => (∃ c : Nat, e = .returned (.int .i64 (c : Nat))) ∧ InZ w0 p (remove T sp.data.toList).1 Z w' ∧ ∀ b, Z b → w'.heap[b]? = W.heap[b]?) := Lib.hid fun W T hW hT => (remove_z sp hW hs hT).mono fun e w' h' => ⟨⟨_, h'.1⟩, h'.2⟩
  have H3 : Hid (∀ W, InZ w0 p S2 Z W → Calls Tryz.prog 52 #[.func (.func 104) #[pP p] #[]] W fun e w' => e = .returned (.int .i64 (c3 : Nat)) ∧ InZ w0 p S3 Z w' ∧ ∀ b, Z b → w'.heap[b]? = W.heap[b]?) := Lib.hid fun W hW => (twice_dir hW (by omega)).mono fun e w' h' => z_call hr3 h'
  have hS1b : S1.calls ≤ 1099511627776 := by omega
  have hS2b : S2.calls ≤ 1099511627776 := by omega
  have HR1 := Lib.hid hR1
  have HR2 := Lib.hid hR2
  have HC1 := Lib.hid hS1b
  have HC2 := Lib.hid hS2b
  clear h hv hS1 hc1 hr1 hS1c hS2 hc2 hr2 hS2c hS3 hc3 hr3 hc hn hB hR1 hR2 hs hS1b hS2b
  go_enter Tryz.func68, Tryz.ntmps68
  go_wp2_with fail
  refine H1.out.mono ?_
  rintro e w1 ⟨rfl, hz1, hh1⟩
  have HZ1 := Lib.hid hz1
  have HH1 := Lib.hid hh1
  clear H1 hz1 hh1
  by_cases hc1 : c1 ≠ 0
  · obtain ⟨q1, q2, q3, q4⟩ := code_ne hc1
    have HW1 : Hid (rewr S sp.data.toList n.data.toList B = (R1, c1)) := Lib.hid (by rw [HW.out, if_pos hc1])
    clear HW hc1
    go_wp2_with fail
    refine (HD.out w1 S1 HZ1.out HC1.out).mono ?_
    rintro e w2 ⟨⟨c9, rfl⟩, hz2, hh2⟩
    rw [HR1.out] at hz2
    have HZ2 := Lib.hid hz2
    have HH2 : Hid (∀ b, Z b → w2.heap[b]? = w.heap[b]?) := Lib.hid fun b hb => (hh2 b hb).trans (HH1.out b hb)
    clear hz2 hh2
    go_wp2_with fail
    go_ret
    rw [HW1.out]
    exact ⟨rfl, HZ2.out, HH2.out⟩
  · have hc10 : c1 = 0 := by omega
    have HWB : Hid (rewr S sp.data.toList n.data.toList B = if c2 ≠ 0 then (R2, c2) else (S3, c3)) := Lib.hid (by rw [HW.out, if_neg hc1])
    clear HW
    subst hc10
    clear hc1
    go_wp2_with fail
    refine (H2.out w1 HZ1.out).mono ?_
    rintro e w2 ⟨rfl, hz2, hh2⟩
    have HZ2 := Lib.hid hz2
    have HH2 : Hid (∀ b, Z b → w2.heap[b]? = w.heap[b]?) := Lib.hid fun b hb => (hh2 b hb).trans (HH1.out b hb)
    clear hz2 hh2
    by_cases hc2 : c2 ≠ 0
    · obtain ⟨q1, q2, q3, q4⟩ := code_ne hc2
      have HW1 : Hid (rewr S sp.data.toList n.data.toList B = (R2, c2)) := Lib.hid (by rw [HWB.out, if_pos hc2])
      clear HWB hc2
      go_wp2_with fail
      refine (HD.out w2 S2 HZ2.out HC2.out).mono ?_
      rintro e w3 ⟨⟨c9, rfl⟩, hz3, hh3⟩
      rw [HR2.out] at hz3
      have HZ3 := Lib.hid hz3
      have HH3 : Hid (∀ b, Z b → w3.heap[b]? = w.heap[b]?) := Lib.hid fun b hb => (hh3 b hb).trans (HH2.out b hb)
      clear hz3 hh3
      go_wp2_with fail
      go_ret
      rw [HW1.out]
      exact ⟨rfl, HZ3.out, HH3.out⟩
    · have hc20 : c2 = 0 := by omega
      have HW1 : Hid (rewr S sp.data.toList n.data.toList B = (S3, c3)) := Lib.hid (by rw [HWB.out, if_neg hc2])
      clear HWB
      subst hc20
      clear hc2
      go_wp2_with fail
      refine (H3.out w2 HZ2.out).mono ?_
      rintro e w3 ⟨rfl, hz3, hh3⟩
      have HZ3 := Lib.hid hz3
      have HH3 : Hid (∀ b, Z b → w3.heap[b]? = w.heap[b]?) := Lib.hid fun b hb => (hh3 b hb).trans (HH2.out b hb)
      clear hz3 hh3
      go_wp2_with fail
      go_ret
      rw [HW1.out]
      exact ⟨rfl, HZ3.out, HH3.out⟩
end
end Go.Proofs.YthgpdnffahmhjaaGreatDoor.S15

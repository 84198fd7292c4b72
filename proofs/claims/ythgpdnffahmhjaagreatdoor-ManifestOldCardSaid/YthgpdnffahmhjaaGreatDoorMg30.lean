/- Texts put together: DkR, DkS, DkIz. -/
import Derived.Test.YthgpdnffahmhjaaGreatDoorMg29
set_option linter.unusedSimpArgs false
set_option linter.unusedVariables false
set_option maxRecDepth 100000
namespace Go.Proofs.YthgpdnffahmhjaaGreatDoor.S13
open Go.RowKit Go.Maps Go.Shelf Dk
attribute [local go_sem ↓] minN_eq sliceU8_eq
end Go.Proofs.YthgpdnffahmhjaaGreatDoor.S13
namespace Go.Proofs.YthgpdnffahmhjaaGreatDoor.S13
open Go.RowKit Go.Maps Go.Shelf Dk
abbrev pP (p : Nat) : Value := .pointer (some ⟨p, 0, none⟩)
def InH (w0 : World) (p : Nat) (S : St) (w : World) : Prop := ∃ l, l.p = p ∧ IsFS w l S ∧ (∀ b, l.at S.F.length b → w0.heap.size ≤ b) ∧ Below w0.heap.size w0 w
namespace InH
variable {w0 w w' : World} {p : Nat} {S : St}
theorem bel (h : InH w0 p S w) : Below w0.heap.size w0 w := by obtain ⟨_, _, _, _, h⟩ := h; exact h
theorem ok (h : InH w0 p S w) : S.Ok := by obtain ⟨_, _, h, _⟩ := h; exact h.ok
theorem below (h : InH w0 p S w) (hb : Below w.heap.size w w') : InH w0 p S w' := by
  obtain ⟨l, hp, hI, ha, hw⟩ := h
  exact ⟨l, hp, hI.below hb, ha, hw.trans (hb.mono hw.size)⟩
theorem gone {l : Lay} {S' : St} (hp : l.p = p) (hw : Below w0.heap.size w0 w) (ha : ∀ b, l.at S.F.length b → w0.heap.size ≤ b) (h : Gone w l S S' w') : InH w0 p S' w' := by
  obtain ⟨l', hp', hI, hS⟩ := h
  exact ⟨l', hp'.trans hp, hI.out, hS.out.base hw.size ha, hw.trans (hS.out.below hw.size ha)⟩
end InH
theorem fs_bytes {w : World} {l : Lay} {S : St} {v : Value} {B : List Nat} (h : IsFS w l S) (hv : IsBytes w v B) : ∀ a m c, v = .slice (some a) m c → 0 < B.length → a.block ≠ l.p := by
  intro a m c he h0 hb
  obtain ⟨b, off, cap, he2, _, _, _, hc⟩ := hv.cells h0
  rw [he] at he2
  simp at he2
  obtain ⟨rfl, _⟩ := he2
  simp only at hb
  subst hb
  have h1 := hc 0 h0
  obtain ⟨wt, _, hk, _⟩ := h.cells
  obtain ⟨sp, cp, hpv, _, _⟩ := ownsRow_slice h.pend
  have h2 : w.cell? ⟨l.p, off + 0, none⟩ = (fsC l S wt)[off + 0]? := by
    unfold Blk at hk
    simp [World.cell?, hk]
  rw [h2] at h1
  unfold fsC at h1
  rw [hpv] at h1
  match off, h1 with
  | 0, h1 => simp at h1
  | 1, h1 => simp at h1
  | 2, h1 => simp at h1
  | 3, h1 => simp at h1
  | 4, h1 => simp at h1
  | 5, h1 => simp at h1
  | 6, h1 => simp at h1
  | n + 7, h1 => simp at h1
section
variable {w0 w : World} {p : Nat} {S : St}
theorem names_h (h : InH w0 p S w) : Calls Tryz.prog 16 #[pP p] w fun e w' => ∃ v, e = .returned v ∧ IsNames w' w.heap.size v S.now ∧ Below w.heap.size w w' := by
  obtain ⟨l, rfl, hI, ha, hw⟩ := h
  exact fsNames_any l S w hI
theorem read_h (n : ByteArray) (h : InH w0 p S w) (hn : n.size ≤ maxLen) : Calls Tryz.prog 28 #[pP p, .string n] w (ReadPost (readF S n.data.toList) w) := by
  obtain ⟨l, rfl, hI, ha, hw⟩ := h
  exact read_any l S n w hI hn
end
section
variable (w : World)
set_option maxHeartbeats 2000000
theorem begin_nil : Calls Tryz.prog 18 #[.pointer none] w fun e w' => e = .returned (errV 3) ∧ w' = w := by
  go_enter Tryz.func18, Tryz.ntmps18
  go_wp2_with fail
  go_ret
  exact ⟨rfl, rfl⟩
theorem beginWith_nil (v : Value) : Calls Tryz.prog 83 #[.pointer none, v] w fun e w' => e = .returned (.tuple #[.pointer none, .int .i64 3]) ∧ w' = w := by
  have hb := begin_nil w
  unfold errV at hb
  go_enter Tryz.func83, Tryz.ntmps83
  go_wp2_with fail
  refine hb.mono ?_
  rintro e w' ⟨rfl, rfl⟩
  go_wp2_with fail
  go_ret2
  exact ⟨rfl, rfl⟩
theorem append_nil (v u : Value) : Calls Tryz.prog 51 #[.pointer none, v, u] w fun e w' => e = .returned (errV 3) ∧ w' = w := by
  have hb := beginWith_nil w v
  go_enter Tryz.func51, Tryz.ntmps51
  go_wp2_with fail
  refine hb.mono ?_
  rintro e w' ⟨rfl, rfl⟩
  go_wp2_with fail
  go_ret
  exact ⟨rfl, rfl⟩
end
end Go.Proofs.YthgpdnffahmhjaaGreatDoor.S13
namespace Go.Proofs.YthgpdnffahmhjaaGreatDoor.S13
open Go.RowKit Go.Maps Go.Shelf Dk
def InZ (w0 : World) (p : Nat) (S : St) (Z : Nat → Prop) (w : World) : Prop :=
  ∃ l, l.p = p ∧ IsFS w l S ∧ (∀ b, l.at S.F.length b → w0.heap.size ≤ b) ∧ Below w0.heap.size w0 w ∧ ∀ b, Z b → b < w.heap.size ∧ ¬ l.at S.F.length b
def ZPost (w0 : World) (p : Nat) (r : St × Nat) (Z : Nat → Prop) (w : World) (e : Ending) (w' : World) : Prop :=
  e = .returned (errV r.2) ∧ InZ w0 p r.1 Z w' ∧ ∀ b, Z b → w'.heap[b]? = w.heap[b]?
section
variable {w0 w w' : World} {p : Nat} {S : St} {Z : Nat → Prop}
theorem InZ.toH (h : InZ w0 p S Z w) : InH w0 p S w := by
  obtain ⟨l, hp, hI, ha, hw, _⟩ := h
  exact ⟨l, hp, hI, ha, hw⟩
theorem InZ.below (h : InZ w0 p S Z w) (hb : Below w.heap.size w w') : InZ w0 p S Z w' := by
  obtain ⟨l, hp, hI, ha, hw, hz⟩ := h
  exact ⟨l, hp, hI.below hb, ha, hw.trans (hb.mono hw.size), fun b h => ⟨Nat.lt_of_lt_of_le (hz b h).1 hb.size, (hz b h).2⟩⟩
theorem op_z {l : Lay} {r : St × Nat} {e : Ending} (hp : l.p = p) (hw : Below w0.heap.size w0 w) (ha : ∀ b, l.at S.F.length b → w0.heap.size ≤ b) (hz : ∀ b, Z b → b < w.heap.size ∧ ¬ l.at S.F.length b) (h : OpPost l S r w e w') : ZPost w0 p r Z w e w' := by
  obtain ⟨he, l', hp', hI, hS⟩ := h
  exact ⟨he, ⟨l', hp'.trans hp, hI.out, hS.out.base hw.size ha, hw.trans (hS.out.below hw.size ha), fun b hb => ⟨Nat.lt_of_lt_of_le (hz b hb).1 hS.out.size, fun h' => (hS.out.more b h').elim (hz b hb).2 (fun h2 => by have := (hz b hb).1; omega)⟩⟩, fun b hb => hS.out.block b (hz b hb).1 (hz b hb).2⟩
theorem create_z (n : ByteArray) (h : InZ w0 p S Z w) (hn : n.size ≤ maxLen) (hc : S.calls ≤ 1099511627776) : Calls Tryz.prog 7 #[pP p, .string n] w (ZPost w0 p (create S n.data.toList) Z w) := by
  obtain ⟨l, rfl, hI, ha, hw, hz⟩ := h
  exact (create_any l S n w hI hn hc).mono fun e w' h => op_z rfl hw ha hz h
theorem append_z (n : ByteArray) (v : Value) (B : List Nat) (h : InZ w0 p S Z w) (hn : n.size ≤ maxLen) (hc : S.calls ≤ 1099511627776) (hv : IsBytes w v B) (hB : B.length ≤ 1000000) : Calls Tryz.prog 51 #[pP p, .string n, v] w (ZPost w0 p (append S n.data.toList B) Z w) := by
  obtain ⟨l, rfl, hI, ha, hw, hz⟩ := h
  exact (append_any l S n v B w hI hn hc hv hB (fs_bytes hI hv)).mono fun e w' h => op_z rfl hw ha hz h
theorem sync_z (n : ByteArray) (h : InZ w0 p S Z w) (hn : n.size ≤ maxLen) (hc : S.calls ≤ 1099511627776) : Calls Tryz.prog 54 #[pP p, .string n] w (ZPost w0 p (sync S n.data.toList) Z w) := by
  obtain ⟨l, rfl, hI, ha, hw, hz⟩ := h
  exact (sync_any l S n w hI hn hc).mono fun e w' h => op_z rfl hw ha hz h
theorem syncDir_z (h : InZ w0 p S Z w) (hc : S.calls ≤ 1099511627776) : Calls Tryz.prog 104 #[pP p] w (ZPost w0 p (syncDir S) Z w) := by
  obtain ⟨l, rfl, hI, ha, hw, hz⟩ := h
  exact (syncDir_any l S w hI hc).mono fun e w' h => op_z rfl hw ha hz h
theorem rename_z (a n : ByteArray) (h : InZ w0 p S Z w) (ha' : a.size ≤ maxLen) (hn : n.size ≤ maxLen) (hc : S.calls ≤ 1099511627776) : Calls Tryz.prog 102 #[pP p, .string a, .string n] w (ZPost w0 p (rename S a.data.toList n.data.toList) Z w) := by
  obtain ⟨l, rfl, hI, ha, hw, hz⟩ := h
  exact (rename_any l S a n w hI ha' hn hc).mono fun e w' h => op_z rfl hw ha hz h
theorem remove_z (n : ByteArray) (h : InZ w0 p S Z w) (hn : n.size ≤ maxLen) (hc : S.calls ≤ 1099511627776) : Calls Tryz.prog 103 #[pP p, .string n] w (ZPost w0 p (remove S n.data.toList) Z w) := by
  obtain ⟨l, rfl, hI, ha, hw, hz⟩ := h
  exact (remove_any l S n w hI hn hc).mono fun e w' h => op_z rfl hw ha hz h
end
theorem InZ.more {w0 w w' : World} {p : Nat} {S : St} {Z Z' : Nat → Prop} (h : InZ w0 p S Z w) (hb : Below w.heap.size w w') (hZ : ∀ b, Z' b → Z b ∨ w.heap.size ≤ b ∧ b < w'.heap.size) : InZ w0 p S Z' w' := by
  obtain ⟨l, hp, hI, ha, hw, hz⟩ := h
  refine ⟨l, hp, hI.below hb, ha, hw.trans (hb.mono hw.size), fun b h => ?_⟩
  rcases hZ b h with h1 | h1
  · exact ⟨Nat.lt_of_lt_of_le (hz b h1).1 hb.size, (hz b h1).2⟩
  · exact ⟨h1.2, fun h' => by have := hI.lt b h'; omega⟩
theorem InZ.fewer {w0 w : World} {p : Nat} {S : St} {Z Z' : Nat → Prop} (h : InZ w0 p S Z w) (hZ : ∀ b, Z' b → Z b) : InZ w0 p S Z' w := by
  obtain ⟨l, hp, hI, ha, hw, hz⟩ := h
  exact ⟨l, hp, hI, ha, hw, fun b h => hz b (hZ b h)⟩
theorem InH.toZ0 {w0 w : World} {p : Nat} {S : St} (h : InH w0 p S w) : InZ w0 p S (fun _ => False) w := by
  obtain ⟨l, hp, hI, ha, hw⟩ := h
  exact ⟨l, hp, hI, ha, hw, fun b h => h.elim⟩
theorem InZ.turn {w0 w w' : World} {p : Nat} {S : St} {Z : Nat → Prop} (h : InZ w0 p S Z w) {k : Nat} (hk : Z k) (hk0 : w0.heap.size ≤ k) (hg : w.grownBy w' (some k)) : InZ w0 p S Z w' := by
  obtain ⟨l, hp, hI, ha, hw, hz⟩ := h
  exact ⟨l, hp, hI.keep fun b hb => hg.block b (hI.lt b hb) (fun e => (hz k hk).2 (by cases e; exact hb)), ha, hw.grown hg hw.size (fun j hj => by cases hj; exact hk0), fun b h => ⟨Nat.lt_of_lt_of_le (hz b h).1 hg.size, (hz b h).2⟩⟩
theorem InZ.bel {w0 w : World} {p : Nat} {S : St} {Z : Nat → Prop} (h : InZ w0 p S Z w) : Below w0.heap.size w0 w := h.toH.bel
theorem crash_new {w0 w : World} {p : Nat} {S : St} (n : Int) (a : Option Addr) (len cap : Nat) (zs : List Int) (h : InH w0 p S w) (hr : IsRow .i64 w a len cap zs) (hc : S.calls ≤ 1099511627776) :
    Calls Tryz.prog 11 #[pP p, .int .i64 n, .slice a len cap] w fun e w' => ∃ q, e = .returned (pP q) ∧ InH w q (crash S n (zs.take len)) w' := by
  obtain ⟨l, rfl, hI, ha, hw⟩ := h
  refine (crash_any l S n a len cap zs w hI hr hc).mono ?_
  rintro e w' ⟨l', rfl, hI', ha', hb⟩
  exact ⟨l'.p, rfl, ⟨l', rfl, hI'.out, ha', hb.out⟩⟩
theorem new_n (n : Int) (w : World) : Calls Tryz.prog 5 #[.int .i64 n] w fun e w' => ∃ p, e = .returned (pP p) ∧ InH w p (new n) w' := by
  refine (new_any n w).mono ?_
  rintro e w' ⟨l, rfl, hI, ha, hb⟩
  exact ⟨l.p, rfl, ⟨l, rfl, hI.out, ha, hb.out⟩⟩
end Go.Proofs.YthgpdnffahmhjaaGreatDoor.S13

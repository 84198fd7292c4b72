/- Texts put together: RawA, RawB, RawC. -/
import Derived.Test.YtdjkkohckfndkaaGreatDoorEg2
import Derived.Test.YtdjkkohckfndkaaGreatDoorEg28
import Derived.Test.YtdjkkohckfndkaaGreatDoorEg37
set_option linter.unusedSimpArgs false
set_option linter.unusedVariables false
set_option maxRecDepth 100000
namespace Go.Proofs.YtdjkkohckfndkaaGreatDoor.S15
open Go.RowKit S13 S13.Dk
def FmtOk (num : Int) (d : ByteArray) : Prop := ∀ w : World, Calls Tryz.prog 90 #[.int .i64 num, .int .i64 10] w fun e w' => e = .returned (.string d) ∧ w' = w
def digS (k : Nat) : ByteArray := ⟨#[UInt8.ofNat (48 + k)]⟩
set_option maxHeartbeats 2000000 in
theorem small_dig (k : Nat) (hk : k < 10) (w : World) : Calls Tryz.prog 152 #[.int .i64 k] w fun e w' => e = .returned (.string (digS k)) ∧ w' = w := by
  have h10 : decide ((k : Int) < 10) = true := by simp; omega
  match k, hk with
  | 0, _ | 1, _ | 2, _ | 3, _ | 4, _ | 5, _ | 6, _ | 7, _ | 8, _ | 9, _ =>
    go_enter Tryz.func152, Tryz.ntmps152
    go_wp2_with fail
    go_ret
    exact ⟨rfl, rfl⟩
set_option maxHeartbeats 2000000 in
theorem fmt_dig (k : Nat) (hk : k < 10) : FmtOk k (digS k) := by
  intro w
  have hs := fun w1 => small_dig k hk w1
  have h1 : decide (0 ≤ (k : Int)) = true := by simp
  have h2 : decide ((k : Int) < 100) = true := by simp; omega
  have h1' : decide (k < 100) = true := by simp; omega
  have hi : ∀ w1 : World, Calls Tryz.prog 123 #[.int .i64 (k : Int), .int .i64 10] w1 fun e w' => e = .returned (.string (digS k)) ∧ w' = w1 := by
    intro w1
    have hs1 := hs w1
    clear hs
    go_enter Tryz.func123, Tryz.ntmps123
    go_wp2_with fail
    refine hs1.mono ?_
    rintro e w' ⟨rfl, rfl⟩
    clear hs1
    go_wp2_with fail
    go_ret
    exact ⟨rfl, rfl⟩
  have hw := hi w
  clear hi hs
  go_enter Tryz.func90, Tryz.ntmps90
  go_wp2_with fail
  refine hw.mono ?_
  rintro e w' ⟨rfl, rfl⟩
  clear hw
  go_wp2_with fail
  go_ret
  exact ⟨rfl, rfl⟩
def rawE : ByteArray := ⟨#[46, 114, 97, 119]⟩
def newE : ByteArray := ⟨#[46, 110, 101, 119]⟩
set_option maxHeartbeats 2000000 in
theorem named_any (num : Int) (d e : ByteArray) (hf : FmtOk num d) (hd : d.size ≤ 100) (he : e.size ≤ 100) (w : World) : Calls Tryz.prog 54 #[.int .i64 num, .string e] w fun r w' => r = .returned (.string (d ++ e)) ∧ w' = w := by
  have hw := hf w
  have hs : d.size + e.size ≤ 9223372036854775807 := by omega
  clear hf
  go_enter Tryz.func54, Tryz.ntmps54
  go_wp2_with fail
  refine hw.mono ?_
  rintro e w' ⟨rfl, rfl⟩
  clear hw
  go_wp2_with fail
  go_ret
  exact ⟨rfl, rfl⟩
set_option maxHeartbeats 2000000 in
theorem name_any (num : Int) (d : ByteArray) (hf : FmtOk num d) (hd : d.size ≤ 100) (w : World) : Calls Tryz.prog 36 #[.int .i64 num] w fun r w' => r = .returned (.string (d ++ rawE)) ∧ w' = w := by
  have hw := named_any num d rawE hf hd (by decide) w
  unfold rawE at hw ⊢
  clear hf
  go_enter Tryz.func36, Tryz.ntmps36
  go_wp2_with fail
  refine hw.mono ?_
  rintro e w' ⟨rfl, rfl⟩
  clear hw
  go_wp2_with fail
  go_ret
  exact ⟨rfl, rfl⟩
end Go.Proofs.YtdjkkohckfndkaaGreatDoor.S15
namespace Go.Proofs.YtdjkkohckfndkaaGreatDoor.S15
open Go.RowKit S13 S13.Dk
def sgL (p : Nat) (n : ByteArray) (ev : Value) : List Value := [.pointer (some ⟨p, 0, none⟩), .string n, ev]
def SegB (base : Nat) (w : World) (p q : Nat) (n : ByteArray) (ev : Value) (E : List Int) : Prop := Blk w q 104 (sgL p n ev) ∧ w.ownsRow base 3 1 ev E.length (i64s E) ∧ base ≤ q
def zS (q : Nat) (ev : Value) (b : Nat) : Prop := b = q ∨ ev.ownBlock = some b
def InS (w0 : World) (p : Nat) (S : St) (q : Nat) (n : ByteArray) (E : List Int) (w : World) : Prop := ∃ ev, InZ w0 p S (zS q ev) w ∧ SegB w0.heap.size w p q n ev E
theorem own_heap {w w' : World} {base e s : Nat} {v : Value} {n : Nat} {xs : List Value} (h : w.ownsRow base e s v n xs) (hs : ∀ b, v.ownBlock = some b → w'.heap[b]? = w.heap[b]?) : w'.ownsRow base e s v n xs := by
  obtain ⟨hl, hp⟩ := h
  refine ⟨hl, ?_⟩
  obtain hp | ⟨g, cap, cur, hv, hg, hh, r⟩ := hp
  · exact .inl hp
  · exact .inr ⟨g, cap, cur, hv, hg, (hs g (by rw [hv]; rfl)).trans hh, r⟩
theorem SegB.keep {base : Nat} {w w' : World} {p q : Nat} {n : ByteArray} {ev : Value} {E : List Int} (h : SegB base w p q n ev E) (hs : ∀ b, zS q ev b → w'.heap[b]? = w.heap[b]?) : SegB base w' p q n ev E :=
  ⟨(hs q (.inl rfl)).trans h.1, own_heap h.2.1 fun b hb => hs b (.inr hb), h.2.2⟩
theorem SegB.lt {base : Nat} {w : World} {p q : Nat} {n : ByteArray} {ev : Value} {E : List Int} (h : SegB base w p q n ev E) : ∀ b, zS q ev b → base ≤ b ∧ b < w.heap.size := by
  intro b hb
  rcases hb with rfl | hb
  · exact ⟨h.2.2, h.1.lt⟩
  · exact World.ownsRow.lt h.2.1 b hb
theorem SegB.below {base : Nat} {w w' : World} {p q : Nat} {n : ByteArray} {ev : Value} {E : List Int} (h : SegB base w p q n ev E) (hb : Below w.heap.size w w') : SegB base w' p q n ev E := h.keep fun b hz => hb.block b (h.lt b hz).2
namespace InS
variable {w0 w w' : World} {p q : Nat} {S : St} {n : ByteArray} {E : List Int}
theorem toH (h : InS w0 p S q n E w) : InH w0 p S w := by obtain ⟨_, h, _⟩ := h; exact h.toH
theorem bel (h : InS w0 p S q n E w) : Below w0.heap.size w0 w := h.toH.bel
theorem below (h : InS w0 p S q n E w) (hb : Below w.heap.size w w') : InS w0 p S q n E w' := by
  obtain ⟨ev, hz, hs⟩ := h
  exact ⟨ev, hz.below hb, hs.below hb⟩
theorem cells (h : InS w0 p S q n E w) : ∃ sp cap, w.cell? ⟨q, 0, none⟩ = some (.pointer (some ⟨p, 0, none⟩)) ∧ w.cell? ⟨q, 1, none⟩ = some (.string n) ∧ w.cell? ⟨q, 2, none⟩ = some (.slice sp E.length cap) ∧ IsInts w (.slice sp E.length cap) E ∧ q < w.heap.size ∧ E.length ≤ maxLen := by
  obtain ⟨ev, hz, hk, ho, _⟩ := h
  obtain ⟨sp, cap, rfl, h1, h2⟩ := ownsRow_slice ho
  exact ⟨sp, cap, hk.cell rfl, hk.cell rfl, hk.cell rfl, isInts_own rfl ho, hk.lt, by omega⟩
theorem make (h : InH w0 p S w) (hb : Below w.heap.size w w') {ev : Value} (hk : Blk w' q 104 (sgL p n ev)) (hq : w.heap.size ≤ q) (ho : w'.ownsRow w.heap.size 3 1 ev E.length (i64s E)) : InS w0 p S q n E w' := by
  have h0 := h.bel.size
  have ho' : w'.ownsRow w0.heap.size 3 1 ev E.length (i64s E) := by
    obtain ⟨hl, hp⟩ := ho
    refine ⟨hl, ?_⟩
    obtain hp | ⟨g, cap, cur, hv, hg, r⟩ := hp
    · exact .inl hp
    · exact .inr ⟨g, cap, cur, hv, by omega, r⟩
  refine ⟨ev, h.toZ hb fun b hz => ?_, hk, ho', by omega⟩
  rcases hz with rfl | hz
  · exact ⟨hq, hk.lt⟩
  · exact World.ownsRow.lt ho b hz
theorem op {r : St × Nat} {e : Ending} {ev : Value} (h : ZPost w0 p r (zS q ev) w e w') (hs : SegB w0.heap.size w p q n ev E) : e = .returned (errV r.2) ∧ InS w0 p r.1 q n E w' := ⟨h.1, ev, h.2.1, hs.keep h.2.2⟩
end InS
def InT (w0 : World) (p : Nat) (S : St) (q : Nat) (n : ByteArray) (E : List Int) (Z : Nat → Prop) (w : World) : Prop := ∃ ev, InZ w0 p S (fun b => zS q ev b ∨ Z b) w ∧ SegB w0.heap.size w p q n ev E ∧ ∀ b, Z b → ¬ zS q ev b
namespace InT
variable {w0 w w' : World} {p q : Nat} {S : St} {n : ByteArray} {E : List Int} {Z : Nat → Prop}
theorem toS (h : InT w0 p S q n E Z w) : InS w0 p S q n E w := by
  obtain ⟨ev, hz, hs, _⟩ := h
  exact ⟨ev, hz.fewer fun b hb => .inl hb, hs⟩
theorem ofS (h : InS w0 p S q n E w) : InT w0 p S q n E (fun _ => False) w := by
  obtain ⟨ev, hz, hs⟩ := h
  exact ⟨ev, hz.fewer fun b hb => hb.elim id False.elim, hs, fun b hb => hb.elim⟩
theorem bel (h : InT w0 p S q n E Z w) : Below w0.heap.size w0 w := h.toS.bel
theorem below (h : InT w0 p S q n E Z w) (hb : Below w.heap.size w w') : InT w0 p S q n E Z w' := by
  obtain ⟨ev, hz, hs, ha⟩ := h
  exact ⟨ev, hz.below hb, hs.below hb, ha⟩
theorem lt (h : InT w0 p S q n E Z w) : ∀ b, Z b → b < w.heap.size := by
  obtain ⟨ev, hz, hs, ha⟩ := h
  obtain ⟨l, _, _, _, _, hz⟩ := hz
  exact fun b hb => (hz b (.inr hb)).1
theorem cells (h : InT w0 p S q n E Z w) : ∃ sp cap, w.cell? ⟨q, 0, none⟩ = some (.pointer (some ⟨p, 0, none⟩)) ∧ w.cell? ⟨q, 1, none⟩ = some (.string n) ∧ w.cell? ⟨q, 2, none⟩ = some (.slice sp E.length cap) ∧ IsInts w (.slice sp E.length cap) E ∧ q < w.heap.size ∧ E.length ≤ maxLen := h.toS.cells
theorem make (h : InZ w0 p S Z w) (hb : Below w.heap.size w w') {ev : Value} (hk : Blk w' q 104 (sgL p n ev)) (hq : w.heap.size ≤ q) (ho : w'.ownsRow w.heap.size 3 1 ev E.length (i64s E)) : InT w0 p S q n E Z w' := by
  have h0 := h.bel.size
  have ho' : w'.ownsRow w0.heap.size 3 1 ev E.length (i64s E) := by
    obtain ⟨hl, hp⟩ := ho
    refine ⟨hl, ?_⟩
    obtain hp | ⟨g, cap, cur, hv, hg, r⟩ := hp
    · exact .inl hp
    · exact .inr ⟨g, cap, cur, hv, by omega, r⟩
  have hlt : ∀ b, Z b → b < w.heap.size := by
    obtain ⟨l, _, _, _, _, hz⟩ := h
    exact fun b hb => (hz b hb).1
  have hnew : ∀ b, zS q ev b → w.heap.size ≤ b ∧ b < w'.heap.size := fun b hz => by
    rcases hz with rfl | hz
    · exact ⟨hq, hk.lt⟩
    · exact World.ownsRow.lt ho b hz
  refine ⟨ev, h.more hb fun b hz => ?_, ⟨hk, ho', by omega⟩, fun b hz hz' => by have := hlt b hz; have := (hnew b hz').1; omega⟩
  rcases hz with hz | hz
  · exact .inr (hnew b hz)
  · exact .inl hz
theorem op {r : St × Nat} {e : Ending} {ev : Value} (h : ZPost w0 p r (fun b => zS q ev b ∨ Z b) w e w') (hs : SegB w0.heap.size w p q n ev E) (ha : ∀ b, Z b → ¬ zS q ev b) : e = .returned (errV r.2) ∧ InT w0 p r.1 q n E Z w' ∧ ∀ b, Z b → w'.heap[b]? = w.heap[b]? :=
  ⟨h.1, ⟨ev, h.2.1, hs.keep fun b hb => h.2.2 b (.inl hb), ha⟩, fun b hb => h.2.2 b (.inr hb)⟩
end InT
section
variable {w0 w : World} {p q : Nat} {S : St} {n : ByteArray} {E : List Int}
set_option maxHeartbeats 4000000
theorem len_any (h : InS w0 p S q n E w) : Calls Tryz.prog 35 #[pP q] w fun e w' => e = .returned (.int .i64 (E.length : Nat)) ∧ w' = w := by
  obtain ⟨sp, cap, _, _, c2, _⟩ := h.cells
  clear h
  go_enter Tryz.func35, Tryz.ntmps35
  go_wp2_with fail
  go_ret
  exact ⟨rfl, rfl⟩
def lastI (E : List Int) : Int := if E.length = 0 then 0 else E.getD (E.length - 1) 0
theorem size_any (h : InS w0 p S q n E w) : Calls Tryz.prog 57 #[pP q] w fun e w' => e = .returned (.int .i64 (lastI E)) ∧ Below w.heap.size w w' := by
  have hl := len_any h
  obtain ⟨sp, cap, _, _, c2, hi, _, hm⟩ := h.cells
  unfold maxLen at hm
  clear h
  obtain ⟨N, hN⟩ : ∃ N, E.length = N := ⟨_, rfl⟩
  rw [hN] at hl c2 hm
  by_cases h0 : N = 0
  · subst h0
    have e : lastI E = 0 := by unfold lastI; rw [if_pos hN]
    rw [e]
    clear hi hN c2 e
    go_enter Tryz.func57, Tryz.ntmps57
    go_wp2_with fail
    refine hl.mono ?_
    rintro e w' ⟨rfl, rfl⟩
    clear hl
    go_wp2_with fail
    go_ret
    exact ⟨rfl, Below.refl _ _⟩
  · have e : lastI E = E.getD (N - 1) 0 := by unfold lastI; rw [hN, if_neg h0]
    rw [e]
    obtain ⟨b, off, cp, hv, _, _, _, hc⟩ := hi.cells (by omega)
    rw [hN] at hv
    simp at hv
    obtain ⟨rfl, rfl⟩ := hv
    obtain ⟨k, hk⟩ : ∃ k, N - 1 = k := ⟨_, rfl⟩
    have hk2 : (N : Int) - 1 = (k : Int) := by omega
    have hk3 : k < N := by omega
    have hq0 : ((N : Int) == 0) = false := beq_f (by omega)
    have hq1 : (N == 0) = false := by simp; omega
    rw [hk]
    have c := hc k (by omega)
    obtain ⟨x, hx⟩ : ∃ x, E.getD k 0 = x := ⟨_, rfl⟩
    rw [hx] at c ⊢
    clear hc hN e hk hi hx
    go_enter Tryz.func57, Tryz.ntmps57
    go_wp2_with fail
    refine hl.mono ?_
    rintro e w' ⟨rfl, rfl⟩
    clear hl
    go_wp2_with fail
    go_quiet (fail)
    go_wp2_with fail
    go_ret
    exact ⟨rfl, bel_drewN (Below.refl _ _) _⟩
theorem sync_t {Z : Nat → Prop} (h : InT w0 p S q n E Z w) (hn : n.size ≤ maxLen) (hc : S.calls ≤ 1099511627776) : Calls Tryz.prog 21 #[pP q] w fun e w' => e = .returned (errV (sync S n.data.toList).2) ∧ InT w0 p (sync S n.data.toList).1 q n E Z w' ∧ ∀ b, Z b → w'.heap[b]? = w.heap[b]? := by
  obtain ⟨sp, cap, c0, c1, c2, _, hql, _⟩ := h.cells
  obtain ⟨ev, hz, hs, ha⟩ := h
  have HA := Lib.hid ha
  have HZ := Lib.hid hz
  have HS := Lib.hid hs
  have HC : Hid (Calls Tryz.prog 15 #[pP p, .string n] w.drew (ZPost w0 p (sync S n.data.toList) (fun b => zS q ev b ∨ Z b) w.drew)) := Lib.hid (sync_z n (hz.below (Below.refl _ _).drew) hn hc)
  have HS : Hid (SegB w0.heap.size w.drew p q n ev E) := Lib.hid (hs.below (Below.refl _ _).drew)
  have hHeld : ∃ S', InT w0 p S' q n E Z w.drew := ⟨S, ev, hz.below (Below.refl _ _).drew, HS.out, ha⟩
  have HC0 : Hid (∀ W, (∃ S', InT w0 p S' q n E Z W) → W.cell? ⟨q, 0, none⟩ = some (.pointer (some ⟨p, 0, none⟩))) := Lib.hid fun W ⟨_, h⟩ => by obtain ⟨_, _, h, _⟩ := h.cells; exact h
  have HC1 : Hid (∀ W, (∃ S', InT w0 p S' q n E Z W) → W.cell? ⟨q, 1, none⟩ = some (.string n)) := Lib.hid fun W ⟨_, h⟩ => by obtain ⟨_, _, _, h, _⟩ := h.cells; exact h
  clear hz hs c2 c0 c1 ha
  go_enter Tryz.func21, Tryz.ntmps21
  go_wp2_with fail
  refine wp_region_noPanic ?_
  refine wpAnyH_start (n := 10) (l := #[false, false, false, false, false, false, false, false, false, false]) (S := fun W => ∃ S', InT w0 p S' q n E Z W) (by kernel_rfl) (hHeld) (by kernel_rfl) (by kernel_rfl) ?_
  refine wpAnyH_take (i := 0) (oi := _) (v := ?_) rfl (by kernel_rfl) (by kernel_rfl) (by kernel_rfl) (fun _ _ _ h => h) (Or.inl ⟨by rfl, ?_⟩) (by assumption) ?_
  rotate_left
  · intro wq hSw; go_simp; try with_reducible rfl
  simp only [Act.put, List.setIfInBounds_toArray, List.set_cons_zero, List.set_cons_succ, List.getElem_toArray, List.getElem_cons_zero, List.getElem_cons_succ]
  refine wpAnyH_take (i := 1) (oi := _) (v := ?_) rfl (by kernel_rfl) (by kernel_rfl) (by kernel_rfl) (fun _ _ _ h => h) (Or.inl ⟨by rfl, ?_⟩) (by assumption) ?_
  rotate_left
  · intro wq hSw; go_simp; try with_reducible rfl
  simp only [Act.put, List.setIfInBounds_toArray, List.set_cons_zero, List.set_cons_succ, List.getElem_toArray, List.getElem_cons_zero, List.getElem_cons_succ]
  refine wpAnyH_take (i := 2) (oi := _) (v := ?_) rfl (by kernel_rfl) (by kernel_rfl) (by kernel_rfl) (fun _ _ _ h => h) (Or.inl ⟨by rfl, ?_⟩) (by assumption) ?_
  rotate_left
  · intro wq hSw; go_simp; try with_reducible rfl
  simp only [Act.put, List.setIfInBounds_toArray, List.set_cons_zero, List.set_cons_succ, List.getElem_toArray, List.getElem_cons_zero, List.getElem_cons_succ]
  refine wpAnyH_take (i := 3) (oi := _) (v := ?_) rfl (by kernel_rfl) (by kernel_rfl) (by kernel_rfl) (fun _ _ _ h => h) (Or.inl ⟨by rfl, ?_⟩) (by assumption) ?_
  rotate_left
  · intro wq hSw; have d0 := HC0.out wq hSw; go_simp; try with_reducible rfl
  simp only [Act.put, List.setIfInBounds_toArray, List.set_cons_zero, List.set_cons_succ, List.getElem_toArray, List.getElem_cons_zero, List.getElem_cons_succ]
  refine wpAnyH_take (i := 4) (oi := _) (v := ?_) rfl (by kernel_rfl) (by kernel_rfl) (by kernel_rfl) (fun _ _ _ h => h) (Or.inl ⟨by rfl, ?_⟩) (by assumption) ?_
  rotate_left
  · intro wq hSw; go_simp; try with_reducible rfl
  simp only [Act.put, List.setIfInBounds_toArray, List.set_cons_zero, List.set_cons_succ, List.getElem_toArray, List.getElem_cons_zero, List.getElem_cons_succ]
  refine wpAnyH_take (i := 5) (oi := _) (v := ?_) rfl (by kernel_rfl) (by kernel_rfl) (by kernel_rfl) (fun _ _ _ h => h) (Or.inl ⟨by rfl, ?_⟩) (by assumption) ?_
  rotate_left
  · intro wq hSw; go_simp; try with_reducible rfl
  simp only [Act.put, List.setIfInBounds_toArray, List.set_cons_zero, List.set_cons_succ, List.getElem_toArray, List.getElem_cons_zero, List.getElem_cons_succ]
  refine wpAnyH_take (i := 6) (oi := _) (v := ?_) rfl (by kernel_rfl) (by kernel_rfl) (by kernel_rfl) (fun _ _ _ h => h) (Or.inl ⟨by rfl, ?_⟩) (by assumption) ?_
  rotate_left
  · intro wq hSw; go_simp; try with_reducible rfl
  simp only [Act.put, List.setIfInBounds_toArray, List.set_cons_zero, List.set_cons_succ, List.getElem_toArray, List.getElem_cons_zero, List.getElem_cons_succ]
  refine wpAnyH_take (i := 7) (oi := _) (v := ?_) rfl (by kernel_rfl) (by kernel_rfl) (by kernel_rfl) (fun _ _ _ h => h) (Or.inl ⟨by rfl, ?_⟩) (by assumption) ?_
  rotate_left
  · intro wq hSw; have d1 := HC1.out wq hSw; go_simp; try with_reducible rfl
  simp only [Act.put, List.setIfInBounds_toArray, List.set_cons_zero, List.set_cons_succ, List.getElem_toArray, List.getElem_cons_zero, List.getElem_cons_succ]
  refine wpAnyH_ready (rs := [8]) (by kernel_rfl) (by simp) ?_
  refine AllReadyH.cons (o := _) rfl (fun K hK => ?_) AllReadyH.nil
  simp only [List.getElem_toArray, List.getElem_cons_zero, List.getElem_cons_succ]
  go_simp
  refine HC.out.mono ?_; rintro e w2 hz2; obtain ⟨rfl, hI2, hh2⟩ := InT.op hz2 HS.out HA.out
  refine hK.out _ _ (⟨_, hI2⟩) (fun _ => ?_)
  clear hK K
  have HI2 := Lib.hid hI2
  have HH2 : Hid (∀ b, Z b → w2.heap[b]? = w.heap[b]?) := Lib.hid hh2
  clear hI2 hz2 hh2
  simp only [Act.put, List.setIfInBounds_toArray, List.set_cons_zero, List.set_cons_succ, List.getElem_toArray, List.getElem_cons_zero, List.getElem_cons_succ]
  refine wpAnyH_take (i := 9) (oi := _) (v := ?_) rfl (by kernel_rfl) (by kernel_rfl) (by kernel_rfl) (fun _ _ _ h => h) (Or.inl ⟨by rfl, ?_⟩) (by assumption) ?_
  rotate_left
  · intro wq hSw; go_simp; try with_reducible rfl
  simp only [Act.put, List.setIfInBounds_toArray, List.set_cons_zero, List.set_cons_succ, List.getElem_toArray, List.getElem_cons_zero, List.getElem_cons_succ]
  refine wpAnyH_done (by kernel_rfl) ?_ _
  refine NoPanic.normal ?_
  go_wp2_with fail
  go_ret
  exact ⟨rfl, HI2.out, HH2.out⟩
theorem sync_any (h : InS w0 p S q n E w) (hn : n.size ≤ maxLen) (hc : S.calls ≤ 1099511627776) : Calls Tryz.prog 21 #[pP q] w fun e w' => e = .returned (errV (sync S n.data.toList).2) ∧ InS w0 p (sync S n.data.toList).1 q n E w' :=
  (sync_t (InT.ofS h) hn hc).mono fun _ _ h => ⟨h.1, h.2.1.toS⟩
end
end Go.Proofs.YtdjkkohckfndkaaGreatDoor.S15
namespace Go.Proofs.YtdjkkohckfndkaaGreatDoor.S15
open Go.RowKit S13 S13.Dk S14
section
variable (w : World)
set_option maxHeartbeats 2000000
theorem len_nil : Calls Tryz.prog 35 #[.pointer none] w fun e w' => e = .returned (.int .i64 0) ∧ w' = w := by
  go_enter Tryz.func35, Tryz.ntmps35
  go_wp2_with fail
  go_ret
  exact ⟨rfl, rfl⟩
theorem append_nil (r : RT) : Calls Tryz.prog 20 #[.pointer none, .agg #[.int .i64 r.kind, .int .i64 r.seq, .string r.key, .string r.val]] w fun e w' => e = .returned (.tuple #[.int .i64 (-1), errV 9]) ∧ Below w.heap.size w w' := by
  have HB : ∀ o, Below w.heap.size w (w.alloc o) := fun o => (Below.refl _ _).alloc (Nat.le_refl _) o
  go_enter Tryz.func20, Tryz.ntmps20
  go_wp2_with fail
  go_ret2
  exact ⟨rfl, HB _⟩
theorem ret_recV {fn : Func} {p u : Tmp} (h : fn.results = #[.cell p 32, .tmp u]) (tmps : Array Value) {w : World} {g : Nat} {t : TypeId} {r : RT} {v : Value} (hp : tmps.getD p undef = .pointer (some ⟨g, 0, none⟩)) (hu : tmps.getD u undef = v) (hk : Blk w g t (recL r)) :
    (results fn tmps).run Tryz.prog w = .ok (.tuple #[.agg #[.int .i64 r.kind, .int .i64 r.seq, .string r.key, .string r.val], v]) w := by
  have hl := run_loadR_blk hk
  simp only [loadR, Instr.loadAt, Instr.sureAddr, Sem.run_bind, Sem.run_pure, Result.andThen_ok] at hl
  rw [results_cell_tmp h, hp, hu]
  simp only [asAddr, Sem.run_pure, Result.andThen_ok]
  rw [hl]
  rfl
def GetPost (x : RT × Nat) (w : World) (e : Ending) (w' : World) : Prop :=
  e = .returned (.tuple #[.agg #[.int .i64 x.1.kind, .int .i64 x.1.seq, .string x.1.key, .string x.1.val], errV x.2]) ∧ Hid (Below w.heap.size w w')
theorem get_end {x : RT × Nat} {w W : World} {g : Nat} {t : TypeId} {r : RT} {c : Nat} {fn : Func} {p u : Tmp} {a : Act} (h : fn.results = #[.cell p 32, .tmp u]) (hd : a.defers = []) (hp : a.tmps.getD p undef = .pointer (some ⟨g, 0, none⟩)) (hu : a.tmps.getD u undef = errV c) (hk : Blk W g t (recL r)) (hO : x = (r, c)) (hb : Hid (Below w.heap.size w W)) :
    bodyPost Tryz.prog fn (GetPost x w) Exit.ret a W :=
  bodyPost_ret (ret_recV h _ hp hu hk) hd ⟨by rw [hO], hb⟩
attribute [local go_sem ↓] loadR_eq storeR_eq buildR_eq sliceU8_eq
attribute [local go_sem] run_buildR run_buildR4
end
theorem raw_size {d : ByteArray} (hd : d.size ≤ 100) : (d ++ rawE).size ≤ maxLen := by
  rw [ByteArray.size_append]
  have : rawE.size = 4 := rfl
  unfold maxLen; omega
theorem new_size {d : ByteArray} (hd : d.size ≤ 100) : (d ++ newE).size ≤ maxLen := by
  rw [ByteArray.size_append]
  have : newE.size = 4 := rfl
  unfold maxLen; omega
def CreatePost (w0 : World) (p : Nat) (S : St) (num : Int) (n : ByteArray) (e : Ending) (w' : World) : Prop :=
  if num < 1 ∨ 1125899906842624 < num then e = .returned (.tuple #[.pointer none, errV 7]) ∧ InH w0 p S w'
  else if (create S n.data.toList).2 = 0 then ∃ q, e = .returned (.tuple #[pP q, errV 0]) ∧ InS w0 p (create S n.data.toList).1 q n [] w'
  else e = .returned (.tuple #[.pointer none, errV (create S n.data.toList).2]) ∧ InH w0 p (create S n.data.toList).1 w'
set_option maxHeartbeats 4000000 in
theorem create_any {w0 w : World} {p : Nat} {S : St} {num : Int} {d : ByteArray} (h : InH w0 p S w) (hf : FmtOk num d) (hd : d.size ≤ 100) (hc : S.calls ≤ 1099511627776) :
    Calls Tryz.prog 33 #[pP p, .int .i64 num] w (CreatePost w0 p S num (d ++ rawE)) := by
  have hn := name_any num d hf hd w
  have hsz := raw_size hd
  obtain ⟨n, hnn⟩ : ∃ n, d ++ rawE = n := ⟨_, rfl⟩
  rw [hnn] at hn hsz ⊢
  have hcr := create_h n h hsz hc
  have H := Lib.hid h
  clear h hf hnn
  by_cases h1 : num < 1
  · have d1 : decide (num < 1) = true := by simpa using h1
    go_enter Tryz.func33, Tryz.ntmps33
    go_wp2_with fail
    go_ret2
    unfold CreatePost
    rw [if_pos (.inl h1)]
    exact ⟨rfl, H.out⟩
  by_cases h2 : 1125899906842624 < num
  · have d1 : decide (num < 1) = false := by simp; omega
    have d2 : decide (1125899906842624 < num) = true := by simpa using h2
    go_enter Tryz.func33, Tryz.ntmps33
    go_wp2_with fail
    go_ret2
    unfold CreatePost
    rw [if_pos (.inr h2)]
    exact ⟨rfl, H.out⟩
  have d1 : decide (num < 1) = false := by simp; omega
  have d2 : decide (1125899906842624 < num) = false := by simp; omega
  have HP : Hid (∀ e w', CreatePost w0 p S num n e w' = if (create S n.data.toList).2 = 0 then ∃ q, e = .returned (.tuple #[pP q, errV 0]) ∧ InS w0 p (create S n.data.toList).1 q n [] w'
      else e = .returned (.tuple #[.pointer none, errV (create S n.data.toList).2]) ∧ InH w0 p (create S n.data.toList).1 w') := Lib.hid fun e w' => by
    unfold CreatePost
    rw [if_neg (by omega)]
  unfold HPost at hcr
  obtain ⟨S', hS'⟩ : ∃ S', (create S n.data.toList).1 = S' := ⟨_, rfl⟩
  obtain ⟨c, hcc⟩ : ∃ c, (create S n.data.toList).2 = c := ⟨_, rfl⟩
  rw [hS', hcc] at hcr HP
  unfold errV at hcr HP
  clear h1 h2 hS' hcc hc hsz
  by_cases h0 : c = 0
  · have HP0 : Hid (∀ e w', (∃ q, e = .returned (.tuple #[pP q, .int .i64 0]) ∧ InS w0 p S' q n [] w') → CreatePost w0 p S num n e w') := Lib.hid fun e w' hh => by
      rw [HP.out, if_pos h0]; exact hh
    clear HP
    subst h0
    go_enter Tryz.func33, Tryz.ntmps33
    go_wp2_with fail
    refine hn.mono ?_
    rintro e w1 ⟨rfl, rfl⟩
    clear hn
    go_wp2_with fail
    refine hcr.mono ?_
    rintro e w2 ⟨rfl, hI⟩
    have HI := Lib.hid hI
    clear hcr hI
    go_wp2_with fail
    go_ret2
    refine HP0.out _ _ ⟨w2.heap.size, rfl, InS.make (ev := .slice none 0 0) HI.out ((Below.refl _ _).alloc (Nat.le_refl _) _) (Blk.new w2 104 (sgL p n (.slice none 0 0))) (Nat.le_refl _) (World.ownsRow_nil _ _ _ _)⟩
  · have HP0 : Hid (∀ e w', (e = .returned (.tuple #[.pointer none, .int .i64 c]) ∧ InH w0 p S' w') → CreatePost w0 p S num n e w') := Lib.hid fun e w' hh => by
      rw [HP.out, if_neg h0]; exact hh
    clear HP
    have hq : ((c : Int) == 0) = false := beq_f (by omega)
    have hq' : (c == 0) = false := by simpa using h0
    have hq2 : ((c : Int) != 0) = true := bne_t (by omega)
    have hq2' : (c != 0) = true := by simpa using h0
    go_enter Tryz.func33, Tryz.ntmps33
    go_wp2_with fail
    refine hn.mono ?_
    rintro e w1 ⟨rfl, rfl⟩
    clear hn
    go_wp2_with fail
    refine hcr.mono ?_
    rintro e w2 ⟨rfl, hI⟩
    have HI := Lib.hid hI
    clear hcr hI
    go_wp2_with fail
    go_ret2
    exact HP0.out _ _ ⟨rfl, HI.out⟩
end Go.Proofs.YtdjkkohckfndkaaGreatDoor.S15

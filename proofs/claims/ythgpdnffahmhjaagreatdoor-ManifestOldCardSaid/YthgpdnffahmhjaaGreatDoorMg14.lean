/- Texts put together: EdM, EdA. -/
import Derived.Test.YthgpdnffahmhjaaGreatDoorMg2
import Derived.Test.YthgpdnffahmhjaaGreatDoorMg13
import Derived.Laws.ResultCell
import Derived.Shelf.SlicesQ.Load
import Derived.Laws.CopyRow
set_option linter.unusedSimpArgs false
set_option linter.unusedVariables false
set_option maxRecDepth 100000
namespace Go.Proofs.YthgpdnffahmhjaaGreatDoor.S18
open Go.RowKit
theorem addr_at (g o j : Nat) : (⟨g, o, none⟩ : Addr).add j = ⟨g, o + j, none⟩ := by unfold Addr.add; split <;> simp_all
def segL (s : SG) : List Value := [.int .i64 s.num, .bool s.sealed, .int .i64 s.group, .int .i64 s.member, .int .i64 s.size, .int .u32 s.sum]
def parL (p : PT) (a1 : Option Addr) (c1 : Nat) (a2 : Option Addr) (c2 : Nat) : List Value := [.int .i64 p.group, .slice a1 p.nums.length c1, .slice a2 p.sizes.length c2, .int .i64 p.size, .int .u32 p.sum]
def edL (e : ED) (a1 : Option Addr) (c1 : Nat) (a2 : Option Addr) (c2 : Nat) (a3 : Option Addr) (c3 : Nat) (a4 : Option Addr) (c4 : Nat) : List Value := [.int .i64 e.next, .int .i64 e.seq, .slice a1 e.adds.length c1, .slice a2 e.dels.length c2, .slice a3 e.pars.length c3, .slice a4 e.drops.length c4]
theorem segL_one (s : SG) : ∀ u ∈ segL s, u.oneCell' = true := by
  intro u hu
  simp [segL] at hu
  rcases hu with rfl | rfl | rfl | rfl | rfl | rfl <;> rfl
theorem parL_one (p : PT) (a1 : Option Addr) (c1 : Nat) (a2 : Option Addr) (c2 : Nat) : ∀ u ∈ parL p a1 c1 a2 c2, u.oneCell' = true := by
  intro u hu
  simp [parL] at hu
  rcases hu with rfl | rfl | rfl | rfl | rfl <;> rfl
theorem edL_one (e : ED) (a1 : Option Addr) (c1 : Nat) (a2 : Option Addr) (c2 : Nat) (a3 : Option Addr) (c3 : Nat) (a4 : Option Addr) (c4 : Nat) : ∀ u ∈ edL e a1 c1 a2 c2 a3 c3 a4 c4, u.oneCell' = true := by
  intro u hu
  simp [edL] at hu
  rcases hu with rfl | rfl | rfl | rfl | rfl | rfl <;> rfl
def RowD {α : Type} (D : Nat → Prop) (R : α → List Value → Prop) (k : Nat) (w : World) (v : Value) (L : List α) : Prop :=
  ∃ a cap, v = .slice a L.length cap ∧ L.length ≤ cap ∧ cap ≤ maxLen ∧ (a = none → cap = 0) ∧ (0 < L.length → ∃ b off, a = some ⟨b, off, none⟩ ∧ D b ∧ b < w.heap.size ∧ ∀ i x, L[i]? = some x → ∃ c, R x c ∧ ∀ j u, c[j]? = some u → w.cell? ⟨b, off + i * k + j, none⟩ = some u)
def Keep (D D' : Nat → Prop) (w w' : World) : Prop := ∀ b, D b → b < w.heap.size → D' b ∧ w'.heap[b]? = w.heap[b]?
theorem cell_heap {w w' : World} {b o : Nat} (h : w'.heap[b]? = w.heap[b]?) : w'.cell? ⟨b, o, none⟩ = w.cell? ⟨b, o, none⟩ := by simp [World.cell?, h]
theorem RowD.keep {α : Type} {D D' : Nat → Prop} {R R' : α → List Value → Prop} {k : Nat} {w w' : World} {v : Value} {L : List α} (h : RowD D R k w v L) (hk : Keep D D' w w') (hR : ∀ x c, R x c → R' x c) : RowD D' R' k w' v L := by
  obtain ⟨a, cap, rfl, h1, h2, hn, h3⟩ := h
  refine ⟨a, cap, rfl, h1, h2, hn, fun h0 => ?_⟩
  obtain ⟨b, off, rfl, hD, hb, hc⟩ := h3 h0
  obtain ⟨hD', hh⟩ := hk b hD hb
  refine ⟨b, off, rfl, hD', ?_, fun i x hx => ?_⟩
  · have h1 : w.heap[b]? = some w.heap[b] := Array.getElem?_eq_getElem hb
    rw [← hh] at h1
    exact (Array.getElem?_eq_some_iff.1 h1).1
  · obtain ⟨c, hr, hu⟩ := hc i x hx
    exact ⟨c, hR x c hr, fun j u hj => (cell_heap hh).trans (hu j u hj)⟩
theorem RowD.slice {α : Type} {D : Nat → Prop} {R : α → List Value → Prop} {k : Nat} {w : World} {v : Value} {L : List α} (h : RowD D R k w v L) : ∃ a cap, v = .slice a L.length cap ∧ L.length ≤ cap ∧ cap ≤ maxLen := by
  obtain ⟨a, cap, rfl, h1, h2, _⟩ := h
  exact ⟨a, cap, rfl, h1, h2⟩
theorem RowD.cap {α : Type} {D : Nat → Prop} {R : α → List Value → Prop} {k : Nat} {w : World} {a : Option Addr} {n cap : Nat} {L : List α} (h : RowD D R k w (.slice a n cap) L) : L.length = n ∧ n ≤ cap ∧ cap ≤ maxLen := by
  obtain ⟨a', cap', he, h1, h2, _⟩ := h
  simp at he
  obtain ⟨rfl, rfl, rfl⟩ := he
  exact ⟨rfl, h1, h2⟩
theorem RowD.nil {α : Type} {D : Nat → Prop} {R : α → List Value → Prop} {k : Nat} {w : World} : RowD D R k w (.slice none 0 0) ([] : List α) := ⟨none, 0, rfl, Nat.le_refl _, by unfold maxLen; omega, fun _ => rfl, fun h => by simp at h⟩
theorem RowD.at {α : Type} {D : Nat → Prop} {R : α → List Value → Prop} {k : Nat} {w : World} {a : Option Addr} {n cap : Nat} {L : List α} (h : RowD D R k w (.slice a n cap) L) {i : Nat} (hi : i < L.length) :
    ∃ b off x c, a = some ⟨b, off, none⟩ ∧ D b ∧ b < w.heap.size ∧ L[i]? = some x ∧ R x c ∧ ∀ j u, c[j]? = some u → w.cell? ⟨b, off + i * k + j, none⟩ = some u := by
  obtain ⟨a', cap', he, h1, h2, _, h3⟩ := h
  simp at he
  obtain ⟨rfl, rfl, rfl⟩ := he
  obtain ⟨b, off, rfl, hD, hb, hc⟩ := h3 (by omega)
  have hx : L[i]? = some (L[i]'hi) := List.getElem?_eq_getElem hi
  obtain ⟨c, hr, hu⟩ := hc i _ hx
  exact ⟨b, off, _, c, rfl, hD, hb, hx, hr, hu⟩
theorem RowD.take {α : Type} {D : Nat → Prop} {R : α → List Value → Prop} {k : Nat} {w : World} {a : Option Addr} {n cap : Nat} {L : List α} (h : RowD D R k w (.slice a n cap) L) {m : Nat} (hm : m ≤ L.length) : RowD D R k w (.slice a m cap) (L.take m) := by
  obtain ⟨a', cap', he, h1, h2, hn, h3⟩ := h
  simp at he
  obtain ⟨rfl, rfl, rfl⟩ := he
  have hl : (L.take m).length = m := by rw [List.length_take]; omega
  refine ⟨a, cap, by rw [hl], by omega, h2, hn, fun h0 => ?_⟩
  obtain ⟨b, off, rfl, hD, hb, hc⟩ := h3 (by omega)
  refine ⟨b, off, rfl, hD, hb, fun i x hx => hc i x ?_⟩
  have hi := (List.getElem?_eq_some_iff.1 hx).1
  rwa [List.getElem?_take_of_lt (by omega)] at hx
theorem RowD.mem {α : Type} {D : Nat → Prop} {R : α → List Value → Prop} {k : Nat} {w : World} {v : Value} {L : List α} (h : RowD D R k w v L) {x : α} (hx : x ∈ L) : ∃ c, R x c := by
  obtain ⟨a, cap, rfl, h1, h2, _, h3⟩ := h
  obtain ⟨i, hi, rfl⟩ := List.mem_iff_getElem.1 hx
  obtain ⟨b, off, rfl, hD, hb, hc⟩ := h3 (by omega)
  obtain ⟨c, hr, _⟩ := hc i _ (List.getElem?_eq_getElem hi)
  exact ⟨c, hr⟩
def numC (x : Int) (c : List Value) : Prop := c = [.int .i64 x]
abbrev IsNums (D : Nat → Prop) (w : World) (v : Value) (L : List Int) : Prop := RowD D numC 1 w v L
def segC (s : SG) (c : List Value) : Prop := c = segL s ∧ sumW s.sum
abbrev IsSegs (D : Nat → Prop) (w : World) (v : Value) (L : List SG) : Prop := RowD D segC 6 w v L
def parC (D : Nat → Prop) (w : World) (p : PT) (c : List Value) : Prop := ∃ a1 c1 a2 c2, c = parL p a1 c1 a2 c2 ∧ IsNums D w (.slice a1 p.nums.length c1) p.nums ∧ IsNums D w (.slice a2 p.sizes.length c2) p.sizes ∧ sumW p.sum
abbrev IsPars (D : Nat → Prop) (w : World) (v : Value) (L : List PT) : Prop := RowD D (parC D w) 5 w v L
structure EdIn (D : Nat → Prop) (w : World) (e : ED) (a1 : Option Addr) (c1 : Nat) (a2 : Option Addr) (c2 : Nat) (a3 : Option Addr) (c3 : Nat) (a4 : Option Addr) (c4 : Nat) : Prop where
  adds : IsSegs D w (.slice a1 e.adds.length c1) e.adds
  dels : IsNums D w (.slice a2 e.dels.length c2) e.dels
  pars : IsPars D w (.slice a3 e.pars.length c3) e.pars
  drops : IsNums D w (.slice a4 e.drops.length c4) e.drops
def edC (D : Nat → Prop) (w : World) (e : ED) (c : List Value) : Prop := ∃ a1 c1 a2 c2 a3 c3 a4 c4, c = edL e a1 c1 a2 c2 a3 c3 a4 c4 ∧ EdIn D w e a1 c1 a2 c2 a3 c3 a4 c4
abbrev IsEds (D : Nat → Prop) (w : World) (v : Value) (L : List ED) : Prop := RowD D (edC D w) 6 w v L
theorem IsNums.keep' {D D' : Nat → Prop} {w w' : World} {v : Value} {L : List Int} (h : IsNums D w v L) (hk : Keep D D' w w') : IsNums D' w' v L := RowD.keep h hk fun _ _ h => h
theorem parC.keep {D D' : Nat → Prop} {w w' : World} {p : PT} {c : List Value} (h : parC D w p c) (hk : Keep D D' w w') : parC D' w' p c := by
  obtain ⟨a1, c1, a2, c2, rfl, h1, h2, h3⟩ := h
  exact ⟨a1, c1, a2, c2, rfl, h1.keep' hk, h2.keep' hk, h3⟩
theorem EdIn.keep {D D' : Nat → Prop} {w w' : World} {e : ED} {a1 : Option Addr} {c1 : Nat} {a2 : Option Addr} {c2 : Nat} {a3 : Option Addr} {c3 : Nat} {a4 : Option Addr} {c4 : Nat} (h : EdIn D w e a1 c1 a2 c2 a3 c3 a4 c4) (hk : Keep D D' w w') : EdIn D' w' e a1 c1 a2 c2 a3 c3 a4 c4 :=
  ⟨RowD.keep h.adds hk fun _ _ h => h, h.dels.keep' hk, RowD.keep h.pars hk fun _ _ h => h.keep hk, h.drops.keep' hk⟩
theorem edC.keep {D D' : Nat → Prop} {w w' : World} {e : ED} {c : List Value} (h : edC D w e c) (hk : Keep D D' w w') : edC D' w' e c := by
  obtain ⟨a1, c1, a2, c2, a3, c3, a4, c4, rfl, h1⟩ := h
  exact ⟨a1, c1, a2, c2, a3, c3, a4, c4, rfl, h1.keep hk⟩
theorem EdIn.w {D : Nat → Prop} {w : World} {e : ED} {a1 : Option Addr} {c1 : Nat} {a2 : Option Addr} {c2 : Nat} {a3 : Option Addr} {c3 : Nat} {a4 : Option Addr} {c4 : Nat} (h : EdIn D w e a1 c1 a2 c2 a3 c3 a4 c4) : EdW e :=
  ⟨fun s hs => by obtain ⟨c, hc⟩ := RowD.mem h.adds hs; exact hc.2, fun p hp => by obtain ⟨c, a1, c1, a2, c2, hc⟩ := RowD.mem h.pars hp; exact hc.2.2.2⟩
theorem keep_below {D : Nat → Prop} {w w' : World} (h : Below w.heap.size w w') : Keep D D w w' := fun b hD hb => ⟨hD, h.block b hb⟩
theorem keep_gr {D D' : Nat → Prop} {w w' : World} {r : Option Nat} (h : w.grownBy w' r) (hD : ∀ b, D b → b < w.heap.size → D' b ∧ some b ≠ r) : Keep D D' w w' := fun b hb hl => ⟨(hD b hb hl).1, h.block b hl (hD b hb hl).2⟩
theorem keep_weak {D D' : Nat → Prop} {w : World} (h : ∀ b, D b → b < w.heap.size → D' b) : Keep D D' w w := fun b hD hb => ⟨h b hD hb, rfl⟩
theorem IsNums.cell {D : Nat → Prop} {w : World} {a : Option Addr} {n cap : Nat} {L : List Int} (h : IsNums D w (.slice a n cap) L) {i : Nat} (hi : i < L.length) : ∃ b off, a = some ⟨b, off, none⟩ ∧ D b ∧ b < w.heap.size ∧ w.cell? ⟨b, off + i, none⟩ = some (.int .i64 (L.getD i 0)) := by
  obtain ⟨b, off, x, c, rfl, hD, hb, hx, hc, hu⟩ := RowD.at h hi
  refine ⟨b, off, rfl, hD, hb, ?_⟩
  have e : L.getD i 0 = x := by simp [List.getD, hx]
  rw [e]
  have := hu 0 (.int .i64 x) (by rw [hc]; rfl)
  rwa [Nat.mul_one, Nat.add_zero] at this
def OwnD {α : Type} (base : Nat) (t : TypeId) (k : Nat) (R : α → List Value → Prop) (w : World) (v : Value) (L : List α) : Prop :=
  ∃ cs : List (List Value), cs.length = L.length ∧ w.ownsRow base t k v L.length cs.flatten ∧ ∀ (i : Nat) (x : α) (c : List Value), L[i]? = some x → cs[i]? = some c → R x c ∧ c.length = k
theorem OwnD.nil {α : Type} (base : Nat) (t : TypeId) (k : Nat) (R : α → List Value → Prop) (w : World) : OwnD base t k R w (.slice none 0 0) [] := ⟨[], rfl, World.ownsRow_nil _ _ _ _, fun i x c h => by simp at h⟩
theorem OwnD.slice {α : Type} {base : Nat} {t : TypeId} {k : Nat} {R : α → List Value → Prop} {w : World} {v : Value} {L : List α} (h : OwnD base t k R w v L) : ∃ sp cap, v = .slice sp L.length cap ∧ L.length ≤ cap ∧ cap ≤ maxLen := by
  obtain ⟨cs, _, h, _⟩ := h
  exact ownsRow_slice h
theorem OwnD.lt {α : Type} {base : Nat} {t : TypeId} {k : Nat} {R : α → List Value → Prop} {w : World} {v : Value} {L : List α} (h : OwnD base t k R w v L) : ∀ b, v.ownBlock = some b → base ≤ b ∧ b < w.heap.size := by
  obtain ⟨cs, _, h, _⟩ := h
  exact fun b hb => World.ownsRow.lt h b hb
theorem OwnD.ty {α : Type} {base : Nat} {t : TypeId} {k : Nat} {R : α → List Value → Prop} {w : World} {v : Value} {L : List α} (h : OwnD base t k R w v L) : ∀ b, v.ownBlock = some b → ∃ c, Blk w b t c := by
  obtain ⟨cs, _, ⟨_, ⟨rfl, _⟩ | ⟨g, cap, cur, rfl, _, hh, _⟩⟩, _⟩ := h
  · intro b hb; cases hb
  · intro b hb
    simp [Value.ownBlock] at hb
    subst hb
    exact ⟨cur.toList, by unfold Blk; simpa using hh⟩
theorem own_keepD {w w' : World} {base : Nat} {e : TypeId} {size : Nat} {v : Value} {n : Nat} {xs : List Value} (h : w.ownsRow base e size v n xs) {r : Option Nat} (hg : w.grownBy w' r) (hr : ∀ b, v.ownBlock = some b → r ≠ some b) : w'.ownsRow base e size v n xs := by
  refine h.kept hg ?_
  cases hv : v.ownBlock with
  | none => exact .inl rfl
  | some b => exact .inr fun e' => hr b hv e'.symm
theorem OwnD.keep {α : Type} {base : Nat} {t : TypeId} {k : Nat} {R R' : α → List Value → Prop} {w w' : World} {v : Value} {L : List α} (h : OwnD base t k R w v L) {r : Option Nat} (hg : w.grownBy w' r) (hr : ∀ b, v.ownBlock = some b → r ≠ some b) (hR : ∀ x c, R x c → R' x c) : OwnD base t k R' w' v L := by
  obtain ⟨cs, h1, h2, h3⟩ := h
  exact ⟨cs, h1, own_keepD h2 hg hr, fun i x c hx hc => ⟨hR x c (h3 i x c hx hc).1, (h3 i x c hx hc).2⟩⟩
theorem gr_below {w w' : World} (hb : Below w.heap.size w w') : w.grownBy w' none := ⟨hb.os, hb.tape, hb.output, hb.size, fun k hk _ => hb.block k hk⟩
theorem OwnD.below {α : Type} {base : Nat} {t : TypeId} {k : Nat} {R R' : α → List Value → Prop} {w w' : World} {v : Value} {L : List α} (h : OwnD base t k R w v L) (hb : Below w.heap.size w w') (hR : ∀ x c, R x c → R' x c) : OwnD base t k R' w' v L := h.keep (gr_below hb) (by simp) hR
theorem OwnD.base {α : Type} {base base' : Nat} {t : TypeId} {k : Nat} {R : α → List Value → Prop} {w : World} {v : Value} {L : List α} (h : OwnD base t k R w v L) (hb : base' ≤ base) : OwnD base' t k R w v L := by
  obtain ⟨cs, h1, ⟨hl, h | ⟨g, cap, cur, hv, hg, hrest⟩⟩, h3⟩ := h
  · exact ⟨cs, h1, ⟨hl, .inl h⟩, h3⟩
  · exact ⟨cs, h1, ⟨hl, .inr ⟨g, cap, cur, hv, by omega, hrest⟩⟩, h3⟩
theorem flat_get {k : Nat} : ∀ (cs : List (List Value)), (∀ c ∈ cs, c.length = k) → ∀ (i : Nat) (c : List Value), cs[i]? = some c → ∀ (j : Nat) (u : Value), c[j]? = some u → cs.flatten[i * k + j]? = some u
  | [], _, i, c, h, _, _, _ => by simp at h
  | d :: cs, hk, 0, c, h, j, u, hj => by
    simp at h
    subst h
    have := (List.getElem?_eq_some_iff.1 hj).1
    rw [List.flatten_cons, Nat.zero_mul, Nat.zero_add, List.getElem?_append_left this]
    exact hj
  | d :: cs, hk, i + 1, c, h, j, u, hj => by
    have hd := hk d (by simp)
    rw [List.flatten_cons, List.getElem?_append_right (by rw [hd, Nat.succ_mul]; omega), hd, show (i + 1) * k + j - k = i * k + j by rw [Nat.succ_mul]; omega]
    exact flat_get cs (fun c hc => hk c (by simp [hc])) i c (by simpa using h) j u hj
theorem OwnD.row {α : Type} {base : Nat} {t : TypeId} {k : Nat} {R : α → List Value → Prop} {w : World} {v : Value} {L : List α} (h : OwnD base t k R w v L) {D : Nat → Prop} (hD : ∀ b c, base ≤ b → Blk w b t c → D b) : RowD D R k w v L := by
  obtain ⟨cs, hcl, ⟨hl, ⟨rfl, h0⟩ | ⟨g, cap, cur, rfl, hg, hh, hn, hm, hs, ht⟩⟩, h3⟩ := h
  · have : L = [] := List.eq_nil_of_length_eq_zero h0
    subst this
    exact RowD.nil
  · have hk : ∀ c ∈ cs, c.length = k := by
      intro c hc
      obtain ⟨i, hi, rfl⟩ := List.mem_iff_getElem.1 hc
      exact (h3 i (L[i]'(by omega)) _ (List.getElem?_eq_getElem (by omega)) (List.getElem?_eq_getElem hi)).2
    refine ⟨some ⟨g, 0, none⟩, cap, rfl, hn, hm, (fun e => by cases e), fun h0 => ⟨g, 0, rfl, hD g cur.toList hg (by unfold Blk; simpa using hh), (Array.getElem?_eq_some_iff.1 hh).1, fun i x hx => ?_⟩⟩
    have hi := (List.getElem?_eq_some_iff.1 hx).1
    have hci : cs[i]? = some (cs[i]'(by omega)) := List.getElem?_eq_getElem (by omega)
    obtain ⟨hr, hlk⟩ := h3 i x _ hx hci
    refine ⟨_, hr, fun j u hj => ?_⟩
    have hg2 := flat_get cs hk i _ hci j u hj
    have hlt := (List.getElem?_eq_some_iff.1 hg2).1
    rw [hl] at hlt
    rw [← ht, List.getElem?_take_of_lt hlt] at hg2
    simp [World.cell?, hh]
    simpa using hg2
theorem wp_append_D {α : Type} {w : World} {o : Oper} {a : Act} {K : Act → World → Prop} {Q : Exit → Act → World → Prop} (ts t : TypeId) (k : Nat) (z : Value) (bytes : Nat) (hu : Tryz.prog.underlying ts = some (.slice t)) (hinfo : (Tryz.prog.info? t).map (fun i => (i.zero, i.size, i.bytes)) = some (some z, k, bytes)) (hzs : z.cells.size = k) (hk : 0 < k) (hby : bytes ≤ 1000)
    (s x : Operand) (ho : o.op = .call { callee := .builtin .append, args := #[s, x], argTypes := #[ts, ts] })
    (base : Nat) (R : α → List Value → Prop) (v : Value) (L : List α) (hs : a.eval s = v) (hown : OwnD base t k R w v L) (y : α) (c : List Value) (hy : R y c) (hc : c.length = k) (h1 : ∀ u ∈ c, u.oneCell' = true)
    (hx : a.eval x = .slice (some ⟨w.heap.size, 0, none⟩) 1 1) (hl : L.length + 1 ≤ 4294967296) (hbase : base ≤ w.heap.size)
    (h : ∀ v' w', OwnD base t k R w' v' (L ++ [y]) → (w.alloc (.cells c.toArray t (0, 0))).grownBy w' v.ownBlock → K (a.put o.dst v') w') : o.wp Tryz.prog a (w.alloc (.cells c.toArray t (0, 0))) K Q := by
  obtain ⟨i0, hi, hz0, hz1, hz2⟩ : ∃ i, Tryz.prog.info? t = some i ∧ i.zero = some z ∧ i.size = k ∧ i.bytes = bytes := by
    cases hq : Tryz.prog.info? t with
    | none => rw [hq] at hinfo; cases hinfo
    | some i => rw [hq] at hinfo; simp at hinfo; exact ⟨i, rfl, hinfo.1, hinfo.2.1, hinfo.2.2⟩
  have hA : Below w.heap.size w (w.alloc (.cells c.toArray t (0, 0))) := (Below.refl _ _).alloc (Nat.le_refl _) _
  obtain ⟨cs, hcl, ho', h3⟩ := hown.below (R' := R) hA fun _ _ h => h
  have hblk := Blk.new w t c
  have hb2 : (L.length + 1) * bytes ≤ 140737488355328 := Nat.le_trans (Nat.mul_le_mul hl hby) (by omega)
  refine wp_append_own _ s x ts ho base t i0 z k bytes hu hi hz0 hz1 hz2 hzs hk v L.length cs.flatten hs ho' ⟨w.heap.size, 0, none⟩ 1 1 c hx (by omega) (fun j u hj => ?_) h1 (by unfold maxLen; omega) hb2 (by simp; omega) fun v' w' h4 h5 _ => h v' w' ⟨cs ++ [c], by simp [hcl], ?_, fun i x d hx hd => ?_⟩ h5
  · rw [addr_at, Nat.zero_add]
    exact hblk.cell hj
  · rw [List.length_append, List.flatten_append]
    simpa using h4
  · by_cases hi : i < L.length
    · rw [List.getElem?_append_left hi] at hx
      rw [List.getElem?_append_left (by omega)] at hd
      exact h3 i x d hx hd
    · rw [List.getElem?_append_right (by omega)] at hx
      rw [List.getElem?_append_right (by omega)] at hd
      have hlt := (List.getElem?_eq_some_iff.1 hx).1
      have e1 : i - L.length = 0 := by simp at hlt; omega
      have e2 : i - cs.length = 0 := by omega
      rw [e1] at hx
      rw [e2] at hd
      simp at hx hd
      subst hx; subst hd
      exact ⟨hy, hc⟩
theorem wpList_append_D {α : Type} {w : World} {ops : Array Oper} {rest : List Oper} {o : Oper} {a : Act} {Q : Exit → Act → World → Prop} (ts t : TypeId) (k : Nat) (z : Value) (bytes : Nat) (hu : Tryz.prog.underlying ts = some (.slice t)) (hinfo : (Tryz.prog.info? t).map (fun i => (i.zero, i.size, i.bytes)) = some (some z, k, bytes)) (hzs : z.cells.size = k) (hk : 0 < k) (hby : bytes ≤ 1000)
    (hgd : o.guard = none) (s x : Operand) (ho : o.op = .call { callee := .builtin .append, args := #[s, x], argTypes := #[ts, ts] })
    (base : Nat) (R : α → List Value → Prop) (v : Value) (L : List α) (hs : a.eval s = v) (hown : OwnD base t k R w v L) (y : α) (c : List Value) (hy : R y c) (hc : c.length = k) (h1 : ∀ u ∈ c, u.oneCell' = true)
    (hx : a.eval x = .slice (some ⟨w.heap.size, 0, none⟩) 1 1) (hl : L.length + 1 ≤ 4294967296) (hbase : base ≤ w.heap.size)
    (h : ∀ v' w', OwnD base t k R w' v' (L ++ [y]) → (w.alloc (.cells c.toArray t (0, 0))).grownBy w' v.ownBlock → wpList Tryz.prog ops Q rest (a.put o.dst v') w') :
    wpList Tryz.prog ops Q (o :: rest) a (w.alloc (.cells c.toArray t (0, 0))) :=
  wpList_plain hgd fun _ hK => wp_append_D ts t k z bytes hu hinfo hzs hk hby s x ho base R v L hs hown y c hy hc h1 hx hl hbase fun v' w' h2 h3 => hK _ _ (h v' w' h2 h3)
theorem nums_flat : ∀ L : List Int, (L.map fun x => [Value.int .i64 x]).flatten = i64s L
  | [] => rfl
  | x :: L => by simp [i64s, nums_flat L]
theorem ownD_nums {base : Nat} {t : TypeId} {w : World} {v : Value} {n : Nat} {L : List Int} (hn : n = L.length) (h : w.ownsRow base t 1 v n (i64s L)) : OwnD base t 1 numC w v L := by
  subst hn
  refine ⟨L.map fun x => [.int .i64 x], by simp, by rw [nums_flat]; exact h, fun i x c hx hc => ?_⟩
  rw [List.getElem?_map, hx] at hc
  simp at hc
  subst hc
  exact ⟨rfl, rfl⟩
theorem info64 : (Tryz.prog.info? 2).map (fun i => (i.zero, i.size, i.bytes)) = some (some (.int .i64 0), 1, 8) := by kernel_rfl
theorem wpList_append_nums {w : World} {ops : Array Oper} {rest : List Oper} {o : Oper} {a : Act} {Q : Exit → Act → World → Prop} (hgd : o.guard = none) (s x : Operand)
    (ho : o.op = .call { callee := .builtin .append, args := #[s, x], argTypes := #[31, 31] })
    (base : Nat) (v : Value) (n : Nat) (L : List Int) (hs : a.eval s = v) (hown : w.ownsRow base 2 1 v n (i64s L))
    (D : Nat → Prop) (src : Value) (M : List Int) (hx : a.eval x = src) (hsrc : IsNums D w src M)
    (hbytes : n + M.length ≤ 17592186044416) (hbase : base ≤ w.heap.size)
    (h : ∀ v' w', w'.ownsRow base 2 1 v' (n + M.length) (i64s (L ++ M)) → w.grownBy w' v.ownBlock → wpList Tryz.prog ops Q rest (a.put o.dst v') w') : wpList Tryz.prog ops Q (o :: rest) a w := by
  obtain ⟨i0, hi, hz0, hz1, hz2⟩ := infoI_parts info64
  have hsrc2 := hsrc
  obtain ⟨ad, cap, rfl, h1, h2, hnn, _⟩ := hsrc2
  by_cases h0 : M.length = 0
  · obtain rfl : M = [] := List.eq_nil_of_length_eq_zero h0
    cases ad with
    | none =>
      obtain rfl := hnn rfl
      refine wpList_append_own_none hgd s x _ ho base 2 i0 1 Tryz.underlying31 hi v n _ hs hown (by rw [hx]; exact rfl) ?_
      exact h v w (by simpa [i64s] using hown) (grownBy_refl _ _)
    | some ad =>
      refine wpList_append_own w hgd s x _ ho base 2 i0 (.int .i64 0) 1 8 Tryz.underlying31 hi hz0 hz1 hz2 rfl (by decide) v n _ hs hown ad 0 cap [] hx (by simp) (fun j u hj => by simp at hj) (by simp) (by simp at hbytes; unfold maxLen; omega) (by simp at hbytes; omega) hbase ?_
      exact fun v' w' h3 h4 _ => h v' w' (by simpa using h3) h4
  · obtain ⟨b, off, rfl, hD, hb, _⟩ := IsNums.cell hsrc (i := 0) (by omega)
    refine wpList_append_own w hgd s x _ ho base 2 i0 (.int .i64 0) 1 8 Tryz.underlying31 hi hz0 hz1 hz2 rfl (by decide) v n _ hs hown ⟨b, off, none⟩ M.length cap (i64s M) hx (by rw [i64s_length, Nat.mul_one]) (fun j u hj => ?_) (i64s_one M) (by unfold maxLen; omega) (by omega) hbase ?_
    · have hj1 := (List.getElem?_eq_some_iff.1 hj).1
      rw [i64s_length] at hj1
      rw [i64s_get M j hj1] at hj
      obtain ⟨b', off', he, _, _, hc⟩ := IsNums.cell hsrc hj1
      cases he
      rw [addr_at, ← hj]
      exact hc
    · exact fun v' w' h3 h4 _ => h v' w' (by rw [i64s_append]; exact h3) h4
def loadS (v : Value) : Sem Value := Instr.loadAt 40 v
theorem loadS_eq (v : Value) : Instr.loadAt 40 v = loadS v := rfl
theorem run_loadS {w : World} {g o : Nat} {cs : List Value} (hl : cs.length = 6) (h : ∀ j u, cs[j]? = some u → w.cell? ⟨g, o + j, none⟩ = some u) :
    (loadS (.pointer (some ⟨g, o, none⟩))).run Tryz.prog w = .ok (.agg cs.toArray) w := by
  simp only [loadS, Instr.loadAt, Instr.sureAddr, loadVar, loadCells, Sem.run_bind, Sem.run_pure, Result.andThen_ok, Tryz.isAgg40, Tryz.sizeOf40, if_true]
  have := run_loadCellsFrom_list Tryz.prog w ⟨g, o, none⟩ cs 6 hl (fun j v hj => by
    rw [addr_at]
    exact h j v hj)
  rw [this]
  rfl
theorem run_loadS_blk {w : World} {g : Nat} {t : TypeId} (s : SG) (h : Blk w g t (segL s)) : (loadS (.pointer (some ⟨g, 0, none⟩))).run Tryz.prog w = .ok (.agg #[.int .i64 s.num, .bool s.sealed, .int .i64 s.group, .int .i64 s.member, .int .i64 s.size, .int .u32 s.sum]) w :=
  run_loadS (cs := segL s) rfl fun j u hj => by rw [Nat.zero_add]; exact h.cell hj
def storeS (p v : Value) : Sem Unit := Instr.storeAt 40 p v
theorem storeS_eq (p v : Value) : Instr.storeAt 40 p v = storeS p v := rfl
theorem run_storeS {w : World} {g : Nat} {t : TypeId} {cs ds : List Value} (h : Blk w g t cs) (ho : cs.length = 6) (hd : ds.length = 6) (h1 : ∀ u ∈ ds, u.oneCell' = true) :
    (storeS (.pointer (some ⟨g, 0, none⟩)) (.agg ds.toArray)).run Tryz.prog w = .ok () (w.setRow g ds.toArray) := by
  simp only [storeS, Instr.storeAt, Instr.sureAddr, storeVar, Sem.run_bind, Sem.run_pure, Result.andThen_ok, Tryz.sizeOf40]
  rw [if_neg (by simp [Value.cells, hd])]
  have := run_storeCells_at (P := Tryz.prog) g 0 t ds 0 cs.toArray w h (by simp [ho, hd]) h1
  have e : cs.drop 6 = [] := List.drop_of_length_le (by omega)
  simpa [Value.cells, e, hd] using this
theorem putS {W : World} {g : Nat} {t : TypeId} {cs : List Value} (s : SG) (hk : Blk W g t cs) (hc : cs.length = 6) :
    ∃ W2, (storeS (.pointer (some ⟨g, 0, none⟩)) (.agg #[.int .i64 s.num, .bool s.sealed, .int .i64 s.group, .int .i64 s.member, .int .i64 s.size, .int .u32 s.sum])).run Tryz.prog W = .ok () W2 ∧ Hid (Blk W2 g t (segL s)) ∧ Hid (W.grownBy W2 (some g)) :=
  ⟨_, run_storeS (ds := segL s) hk hc rfl (segL_one s), Lib.hid (hk.setRow (segL s)), Lib.hid ⟨rfl, rfl, rfl, by simp, fun k hk hne => setRow_other _ _ _ _ (by intro e; exact hne (by rw [e]))⟩⟩
theorem backS {w0 W : World} {g : Nat} {t : TypeId} {cs : List Value} (s : SG) (hk : Blk W g t cs) (hc : cs.length = 6) (hb : Below w0.heap.size w0 W) (hg : w0.heap.size ≤ g) :
    ∃ W2, (storeS (.pointer (some ⟨g, 0, none⟩)) (.agg #[.int .i64 s.num, .bool s.sealed, .int .i64 s.group, .int .i64 s.member, .int .i64 s.size, .int .u32 s.sum])).run Tryz.prog W = .ok () W2 ∧ Hid (Blk W2 g t (segL s)) ∧ Hid (Below w0.heap.size w0 W2) ∧ Hid (W.grownBy W2 (some g)) :=
  ⟨_, run_storeS (ds := segL s) hk hc rfl (segL_one s), Lib.hid (hk.setRow (segL s)), Lib.hid (hb.trans ⟨rfl, rfl, rfl, by simp, fun k hk => setRow_other _ _ _ _ (by omega)⟩), Lib.hid ⟨rfl, rfl, rfl, by simp, fun k hk hne => setRow_other _ _ _ _ (by intro e; exact hne (by rw [e]))⟩⟩
def buildS (v : Array (Nat × Value)) : Sem Value := Instr.build 40 v
theorem buildS_eq (v : Array (Nat × Value)) : Instr.build 40 v = buildS v := rfl

def loadP (v : Value) : Sem Value := Instr.loadAt 95 v
theorem loadP_eq (v : Value) : Instr.loadAt 95 v = loadP v := rfl
theorem run_loadP {w : World} {g o : Nat} {cs : List Value} (hl : cs.length = 5) (h : ∀ j u, cs[j]? = some u → w.cell? ⟨g, o + j, none⟩ = some u) :
    (loadP (.pointer (some ⟨g, o, none⟩))).run Tryz.prog w = .ok (.agg cs.toArray) w := by
  simp only [loadP, Instr.loadAt, Instr.sureAddr, loadVar, loadCells, Sem.run_bind, Sem.run_pure, Result.andThen_ok, Tryz.isAgg95, Tryz.sizeOf95, if_true]
  have := run_loadCellsFrom_list Tryz.prog w ⟨g, o, none⟩ cs 5 hl (fun j v hj => by
    rw [addr_at]
    exact h j v hj)
  rw [this]
  rfl
theorem run_loadP_blk {w : World} {g : Nat} {t : TypeId} (p : PT) {a1 : Option Addr} {c1 : Nat} {a2 : Option Addr} {c2 : Nat} (h : Blk w g t (parL p a1 c1 a2 c2)) : (loadP (.pointer (some ⟨g, 0, none⟩))).run Tryz.prog w = .ok (.agg #[.int .i64 p.group, .slice a1 p.nums.length c1, .slice a2 p.sizes.length c2, .int .i64 p.size, .int .u32 p.sum]) w :=
  run_loadP (cs := parL p a1 c1 a2 c2) rfl fun j u hj => by rw [Nat.zero_add]; exact h.cell hj
def storeP (p v : Value) : Sem Unit := Instr.storeAt 95 p v
theorem storeP_eq (p v : Value) : Instr.storeAt 95 p v = storeP p v := rfl
theorem run_storeP {w : World} {g : Nat} {t : TypeId} {cs ds : List Value} (h : Blk w g t cs) (ho : cs.length = 5) (hd : ds.length = 5) (h1 : ∀ u ∈ ds, u.oneCell' = true) :
    (storeP (.pointer (some ⟨g, 0, none⟩)) (.agg ds.toArray)).run Tryz.prog w = .ok () (w.setRow g ds.toArray) := by
  simp only [storeP, Instr.storeAt, Instr.sureAddr, storeVar, Sem.run_bind, Sem.run_pure, Result.andThen_ok, Tryz.sizeOf95]
  rw [if_neg (by simp [Value.cells, hd])]
  have := run_storeCells_at (P := Tryz.prog) g 0 t ds 0 cs.toArray w h (by simp [ho, hd]) h1
  have e : cs.drop 5 = [] := List.drop_of_length_le (by omega)
  simpa [Value.cells, e, hd] using this
theorem putP {W : World} {g : Nat} {t : TypeId} {cs : List Value} (p : PT) {a1 : Option Addr} {c1 : Nat} {a2 : Option Addr} {c2 : Nat} (hk : Blk W g t cs) (hc : cs.length = 5) :
    ∃ W2, (storeP (.pointer (some ⟨g, 0, none⟩)) (.agg #[.int .i64 p.group, .slice a1 p.nums.length c1, .slice a2 p.sizes.length c2, .int .i64 p.size, .int .u32 p.sum])).run Tryz.prog W = .ok () W2 ∧ Hid (Blk W2 g t (parL p a1 c1 a2 c2)) ∧ Hid (W.grownBy W2 (some g)) :=
  ⟨_, run_storeP (ds := parL p a1 c1 a2 c2) hk hc rfl (parL_one p a1 c1 a2 c2), Lib.hid (hk.setRow (parL p a1 c1 a2 c2)), Lib.hid ⟨rfl, rfl, rfl, by simp, fun k hk hne => setRow_other _ _ _ _ (by intro e; exact hne (by rw [e]))⟩⟩
theorem backP {w0 W : World} {g : Nat} {t : TypeId} {cs : List Value} (p : PT) {a1 : Option Addr} {c1 : Nat} {a2 : Option Addr} {c2 : Nat} (hk : Blk W g t cs) (hc : cs.length = 5) (hb : Below w0.heap.size w0 W) (hg : w0.heap.size ≤ g) :
    ∃ W2, (storeP (.pointer (some ⟨g, 0, none⟩)) (.agg #[.int .i64 p.group, .slice a1 p.nums.length c1, .slice a2 p.sizes.length c2, .int .i64 p.size, .int .u32 p.sum])).run Tryz.prog W = .ok () W2 ∧ Hid (Blk W2 g t (parL p a1 c1 a2 c2)) ∧ Hid (Below w0.heap.size w0 W2) ∧ Hid (W.grownBy W2 (some g)) :=
  ⟨_, run_storeP (ds := parL p a1 c1 a2 c2) hk hc rfl (parL_one p a1 c1 a2 c2), Lib.hid (hk.setRow (parL p a1 c1 a2 c2)), Lib.hid (hb.trans ⟨rfl, rfl, rfl, by simp, fun k hk => setRow_other _ _ _ _ (by omega)⟩), Lib.hid ⟨rfl, rfl, rfl, by simp, fun k hk hne => setRow_other _ _ _ _ (by intro e; exact hne (by rw [e]))⟩⟩
def buildP (v : Array (Nat × Value)) : Sem Value := Instr.build 95 v
theorem buildP_eq (v : Array (Nat × Value)) : Instr.build 95 v = buildP v := rfl

def loadE (v : Value) : Sem Value := Instr.loadAt 34 v
theorem loadE_eq (v : Value) : Instr.loadAt 34 v = loadE v := rfl
theorem run_loadE {w : World} {g o : Nat} {cs : List Value} (hl : cs.length = 6) (h : ∀ j u, cs[j]? = some u → w.cell? ⟨g, o + j, none⟩ = some u) :
    (loadE (.pointer (some ⟨g, o, none⟩))).run Tryz.prog w = .ok (.agg cs.toArray) w := by
  simp only [loadE, Instr.loadAt, Instr.sureAddr, loadVar, loadCells, Sem.run_bind, Sem.run_pure, Result.andThen_ok, Tryz.isAgg34, Tryz.sizeOf34, if_true]
  have := run_loadCellsFrom_list Tryz.prog w ⟨g, o, none⟩ cs 6 hl (fun j v hj => by
    rw [addr_at]
    exact h j v hj)
  rw [this]
  rfl
theorem run_loadE_blk {w : World} {g : Nat} {t : TypeId} (e : ED) {a1 : Option Addr} {c1 : Nat} {a2 : Option Addr} {c2 : Nat} {a3 : Option Addr} {c3 : Nat} {a4 : Option Addr} {c4 : Nat} (h : Blk w g t (edL e a1 c1 a2 c2 a3 c3 a4 c4)) : (loadE (.pointer (some ⟨g, 0, none⟩))).run Tryz.prog w = .ok (.agg #[.int .i64 e.next, .int .i64 e.seq, .slice a1 e.adds.length c1, .slice a2 e.dels.length c2, .slice a3 e.pars.length c3, .slice a4 e.drops.length c4]) w :=
  run_loadE (cs := edL e a1 c1 a2 c2 a3 c3 a4 c4) rfl fun j u hj => by rw [Nat.zero_add]; exact h.cell hj
def storeE (p v : Value) : Sem Unit := Instr.storeAt 34 p v
theorem storeE_eq (p v : Value) : Instr.storeAt 34 p v = storeE p v := rfl
theorem run_storeE {w : World} {g : Nat} {t : TypeId} {cs ds : List Value} (h : Blk w g t cs) (ho : cs.length = 6) (hd : ds.length = 6) (h1 : ∀ u ∈ ds, u.oneCell' = true) :
    (storeE (.pointer (some ⟨g, 0, none⟩)) (.agg ds.toArray)).run Tryz.prog w = .ok () (w.setRow g ds.toArray) := by
  simp only [storeE, Instr.storeAt, Instr.sureAddr, storeVar, Sem.run_bind, Sem.run_pure, Result.andThen_ok, Tryz.sizeOf34]
  rw [if_neg (by simp [Value.cells, hd])]
  have := run_storeCells_at (P := Tryz.prog) g 0 t ds 0 cs.toArray w h (by simp [ho, hd]) h1
  have e : cs.drop 6 = [] := List.drop_of_length_le (by omega)
  simpa [Value.cells, e, hd] using this
theorem putE {W : World} {g : Nat} {t : TypeId} {cs : List Value} (e : ED) {a1 : Option Addr} {c1 : Nat} {a2 : Option Addr} {c2 : Nat} {a3 : Option Addr} {c3 : Nat} {a4 : Option Addr} {c4 : Nat} (hk : Blk W g t cs) (hc : cs.length = 6) :
    ∃ W2, (storeE (.pointer (some ⟨g, 0, none⟩)) (.agg #[.int .i64 e.next, .int .i64 e.seq, .slice a1 e.adds.length c1, .slice a2 e.dels.length c2, .slice a3 e.pars.length c3, .slice a4 e.drops.length c4])).run Tryz.prog W = .ok () W2 ∧ Hid (Blk W2 g t (edL e a1 c1 a2 c2 a3 c3 a4 c4)) ∧ Hid (W.grownBy W2 (some g)) :=
  ⟨_, run_storeE (ds := edL e a1 c1 a2 c2 a3 c3 a4 c4) hk hc rfl (edL_one e a1 c1 a2 c2 a3 c3 a4 c4), Lib.hid (hk.setRow (edL e a1 c1 a2 c2 a3 c3 a4 c4)), Lib.hid ⟨rfl, rfl, rfl, by simp, fun k hk hne => setRow_other _ _ _ _ (by intro e; exact hne (by rw [e]))⟩⟩
def buildE (v : Array (Nat × Value)) : Sem Value := Instr.build 34 v
theorem buildE_eq (v : Array (Nat × Value)) : Instr.build 34 v = buildE v := rfl

theorem infoS : (Tryz.prog.info? 40).map (fun i => (i.zero, i.size, i.bytes)) = some (some (.agg (segL zS).toArray), 6, 48) := by kernel_rfl
theorem infoP : (Tryz.prog.info? 95).map (fun i => (i.zero, i.size, i.bytes)) = some (some (.agg (parL zP none 0 none 0).toArray), 5, 72) := by kernel_rfl
theorem infoE : (Tryz.prog.info? 34).map (fun i => (i.zero, i.size, i.bytes)) = some (some (.agg (edL zE none 0 none 0 none 0 none 0).toArray), 6, 112) := by kernel_rfl
end Go.Proofs.YthgpdnffahmhjaaGreatDoor.S18
namespace Go.Proofs.YthgpdnffahmhjaaGreatDoor.S18
open Go.RowKit
theorem inB_1 {m n x : Int} (h : ¬ m ≤ x) : inB m n x = false := by unfold inB; simp [h]
theorem inB_2 {m n x : Int} (h : ¬ x ≤ n) : inB m n x = false := by unfold inB; simp [h]
theorem inB_3 {m n x : Int} (h : m ≤ x) (h2 : x ≤ n) : inB m n x = true := by unfold inB; simp [h, h2]
set_option maxHeartbeats 2000000 in
theorem within64 (x m k : Int) (w : World) : Calls Tryz.prog 70 #[.int .i64 x, .int .i64 m, .int .i64 k] w fun e w' => e = .returned (.bool (inB m k x)) ∧ w = w' := by
  by_cases h1 : m ≤ x
  · by_cases h2 : x ≤ k
    · rw [inB_3 h1 h2]
      go_enter Tryz.func70, Tryz.ntmps70
      go_wp2
      go_ret
      exact ⟨rfl, rfl⟩
    · rw [inB_2 h2]
      go_enter Tryz.func70, Tryz.ntmps70
      go_wp2
      go_ret
      exact ⟨rfl, rfl⟩
  · rw [inB_1 h1]
    go_enter Tryz.func70, Tryz.ntmps70
    go_wp2
    go_ret
    exact ⟨rfl, rfl⟩
set_option maxHeartbeats 2000000 in
theorem withinI (x m k : Int) (w : World) : Calls Tryz.prog 105 #[.int .i64 x, .int .i64 m, .int .i64 k] w fun e w' => e = .returned (.bool (inB m k x)) ∧ w = w' := by
  by_cases h1 : m ≤ x
  · by_cases h2 : x ≤ k
    · rw [inB_3 h1 h2]
      go_enter Tryz.func105, Tryz.ntmps105
      go_wp2
      go_ret
      exact ⟨rfl, rfl⟩
    · rw [inB_2 h2]
      go_enter Tryz.func105, Tryz.ntmps105
      go_wp2
      go_ret
      exact ⟨rfl, rfl⟩
  · rw [inB_1 h1]
    go_enter Tryz.func105, Tryz.ntmps105
    go_wp2
    go_ret
    exact ⟨rfl, rfl⟩
set_option maxHeartbeats 2000000 in
theorem isNum_any (x : Int) (w : World) : Calls Tryz.prog 74 #[.int .i64 x] w fun e w' => e = .returned (.bool (numB x)) ∧ w = w' := by
  have h := within64 x 1 1125899906842624 w
  go_enter Tryz.func74, Tryz.ntmps74
  go_wp2_with fail
  refine h.mono ?_
  rintro e w' ⟨rfl, rfl⟩
  go_wp2
  go_ret
  exact ⟨rfl, rfl⟩
set_option maxHeartbeats 2000000 in
theorem isSize_any (x : Int) (w : World) : Calls Tryz.prog 106 #[.int .i64 x] w fun e w' => e = .returned (.bool (sizB x)) ∧ w = w' := by
  have h := withinI x 0 4194304 w
  go_enter Tryz.func106, Tryz.ntmps106
  go_wp2_with fail
  refine h.mono ?_
  rintro e w' ⟨rfl, rfl⟩
  go_wp2
  go_ret
  exact ⟨rfl, rfl⟩
set_option maxHeartbeats 2000000 in
theorem digit_any (b : Bool) (w : World) : Calls Tryz.prog 77 #[.bool b] w fun e w' => e = .returned (.int .i64 (dig b)) ∧ w = w' := by
  cases b with
  | false =>
    go_enter Tryz.func77, Tryz.ntmps77
    go_wp2
    go_ret
    exact ⟨rfl, rfl⟩
  | true =>
    go_enter Tryz.func77, Tryz.ntmps77
    go_wp2
    go_ret
    exact ⟨rfl, rfl⟩
attribute [local go_sem ↓] loadS_eq storeS_eq
theorem seg_b (s : SG) : segB s = (((numB s.num && inB 0 1125899906842624 s.group) && inB 0 3 s.member) && sizB s.size) := rfl
set_option maxHeartbeats 4000000 in
theorem isSeg_any (s : SG) (w : World) : Calls Tryz.prog 72 #[.agg #[.int .i64 s.num, .bool s.sealed, .int .i64 s.group, .int .i64 s.member, .int .i64 s.size, .int .u32 s.sum]] w fun e w' => e = .returned (.bool (segB s)) ∧ Below w.heap.size w w' := by
  have hb1 : Below w.heap.size w (w.alloc (.cells #[.int .i64 s.num, .bool s.sealed, .int .i64 s.group, .int .i64 s.member, .int .i64 s.size, .int .u32 s.sum] 40)) := (Below.refl _ _).alloc (Nat.le_refl _) _
  have hk1 := Blk.new w 40 (segL s)
  obtain ⟨w1, hw1⟩ : ∃ w1, w.alloc (.cells #[.int .i64 s.num, .bool s.sealed, .int .i64 s.group, .int .i64 s.member, .int .i64 s.size, .int .u32 s.sum] 40) = w1 := ⟨_, rfl⟩
  rw [hw1] at hb1
  have hk1' : Blk w1 w.heap.size 40 (segL s) := by rw [← hw1]; exact hk1
  have c0 : w1.cell? ⟨w.heap.size, 0, none⟩ = some (.int .i64 s.num) := hk1'.cell rfl
  have c2 : w1.cell? ⟨w.heap.size, 2, none⟩ = some (.int .i64 s.group) := hk1'.cell rfl
  have c3 : w1.cell? ⟨w.heap.size, 3, none⟩ = some (.int .i64 s.member) := hk1'.cell rfl
  have c4 : w1.cell? ⟨w.heap.size, 4, none⟩ = some (.int .i64 s.size) := hk1'.cell rfl
  have HB := Lib.hid hb1
  have HS := Lib.hid (seg_b s)
  clear hb1 hk1 hk1'
  have f1 := isNum_any s.num w1
  have f2 := within64 s.group 0 1125899906842624 w1
  have f3 := withinI s.member 0 3 w1
  have f4 := isSize_any s.size w1
  obtain ⟨b1, hb1⟩ : ∃ b, numB s.num = b := ⟨_, rfl⟩
  obtain ⟨b2, hb2⟩ : ∃ b, inB 0 1125899906842624 s.group = b := ⟨_, rfl⟩
  obtain ⟨b3, hb3⟩ : ∃ b, inB 0 3 s.member = b := ⟨_, rfl⟩
  obtain ⟨b4, hb4⟩ : ∃ b, sizB s.size = b := ⟨_, rfl⟩
  have HS := Lib.hid (HS.out.trans (by rw [hb1, hb2, hb3, hb4]))
  rw [hb1] at f1
  rw [hb2] at f2
  rw [hb3] at f3
  rw [hb4] at f4
  clear hb1 hb2 hb3 hb4
  cases b1 with
  | false =>
    go_enter Tryz.func72, Tryz.ntmps72
    go_wp2_with fail
    refine f1.mono ?_
    rintro e w' ⟨rfl, rfl⟩
    go_wp2
    go_ret
    exact ⟨by rw [HS.out]; rfl, HB.out⟩
  | true =>
    cases b2 with
    | false =>
      go_enter Tryz.func72, Tryz.ntmps72
      go_wp2_with fail
      refine f1.mono ?_
      rintro e w' ⟨rfl, rfl⟩
      go_wp2_with fail
      refine f2.mono ?_
      rintro e w' ⟨rfl, rfl⟩
      go_wp2
      go_ret
      exact ⟨by rw [HS.out]; rfl, HB.out⟩
    | true =>
      cases b3 with
      | false =>
        go_enter Tryz.func72, Tryz.ntmps72
        go_wp2_with fail
        refine f1.mono ?_
        rintro e w' ⟨rfl, rfl⟩
        go_wp2_with fail
        refine f2.mono ?_
        rintro e w' ⟨rfl, rfl⟩
        go_wp2_with fail
        refine f3.mono ?_
        rintro e w' ⟨rfl, rfl⟩
        go_wp2
        go_ret
        exact ⟨by rw [HS.out]; rfl, HB.out⟩
      | true =>
        go_enter Tryz.func72, Tryz.ntmps72
        go_wp2_with fail
        refine f1.mono ?_
        rintro e w' ⟨rfl, rfl⟩
        go_wp2_with fail
        refine f2.mono ?_
        rintro e w' ⟨rfl, rfl⟩
        go_wp2_with fail
        refine f3.mono ?_
        rintro e w' ⟨rfl, rfl⟩
        go_wp2_with fail
        refine f4.mono ?_
        rintro e w' ⟨rfl, rfl⟩
        go_wp2
        go_ret
        exact ⟨by rw [HS.out]; cases b4 <;> rfl, HB.out⟩
theorem drop_consI {L : List Int} {i : Nat} (h : i < L.length) : L.drop i = L.getD i 0 :: L.drop (i + 1) := by
  rw [List.drop_eq_getElem_cons h]; simp [List.getD, h]
set_option maxHeartbeats 4000000 in
theorem index64 {D : Nat → Prop} (v : Value) (L : List Int) (x : Int) (w : World) (hv : IsNums D w v L) :
    Calls Tryz.prog 124 #[v, .int .i64 x] w fun e w' => (∃ r : Int, e = .returned (.int .i64 r) ∧ (0 ≤ r ↔ L.contains x = true)) ∧ w = w' := by
  obtain ⟨a, cap, rfl, hcap, hmax⟩ := RowD.slice hv
  have HV := Lib.hid hv
  clear hv
  unfold maxLen at hmax
  go_enter Tryz.func124, Tryz.ntmps124
  go_wp2
  go_loopw [8] (fun y wr => ∃ (i : Nat), i ≤ L.length ∧ y = .int .i64 i ∧ (L.drop i).contains x = L.contains x ∧ wr = w) (fun y _ => L.length - (intOf y).toNat)
  case atStart => exact ⟨0, by omega, rfl, rfl, rfl⟩
  case round =>
    obtain ⟨i, hi, rfl, he, rfl⟩ := hrel
    have HE := Lib.hid he
    clear he
    by_cases hlt : i < L.length
    · obtain ⟨b, off, rfl, _, _, hc⟩ := IsNums.cell HV.out hlt
      have HD := Lib.hid (drop_consI hlt)
      obtain ⟨y, hy⟩ : ∃ y, L.getD i 0 = y := ⟨_, rfl⟩
      rw [hy] at hc
      have HY := Lib.hid hy
      clear hy
      by_cases hxy : x = y
      · have q : (x == y) = true := beq_t hxy
        go_wp2
        go_ret
        refine ⟨⟨i, rfl, ?_⟩, rfl⟩
        rw [← HE.out, HD.out, HY.out, hxy]
        simp
      · have q : (x == y) = false := beq_f hxy
        have hne : (L.drop (i + 1)).contains x = L.contains x := by
          rw [← HE.out, HD.out, HY.out, List.contains_cons]
          simp [hxy]
        have HNE := Lib.hid hne
        clear hne
        go_wp2
        go_roundw
        case rel => exact ⟨i + 1, hlt, by go_num, HNE.out, by first | rfl | trivial⟩
        case measure => simp [intOf]; omega
    · obtain rfl : i = L.length := by omega
      go_wp2
      go_ret
      refine ⟨⟨-1, rfl, ?_⟩, rfl⟩
      rw [← HE.out, List.drop_length]
      simp
set_option maxHeartbeats 4000000 in
theorem contains64 {D : Nat → Prop} (v : Value) (L : List Int) (x : Int) (w : World) (hv : IsNums D w v L) :
    Calls Tryz.prog 107 #[v, .int .i64 x] w fun e w' => e = .returned (.bool (L.contains x)) ∧ w = w' := by
  have h := index64 v L x w hv
  obtain ⟨a, cap, rfl, hcap, hmax⟩ := RowD.slice hv
  clear hv
  obtain ⟨n, hn⟩ : ∃ n, L.length = n := ⟨_, rfl⟩
  rw [hn] at h ⊢
  go_enter Tryz.func107, Tryz.ntmps107
  go_wp2_with fail
  refine h.mono ?_
  rintro e w' ⟨⟨r, rfl, hr⟩, rfl⟩
  have e2 : decide (0 ≤ r) = L.contains x := by
    cases hc : L.contains x with
    | true => exact decide_eq_true (hr.2 hc)
    | false => exact decide_eq_false fun h => by rw [hr.1 h] at hc; cases hc
  have HE := Lib.hid e2
  clear e2 hr h
  go_wp2
  go_ret
  exact ⟨by rw [← HE.out]; rfl, rfl⟩
end Go.Proofs.YthgpdnffahmhjaaGreatDoor.S18

/- An index in memory, told by functions; add, isNews: contracts. -/
import Derived.Test.YthgpdnffahmhjaaIxA
set_option linter.unusedSimpArgs false
set_option linter.unusedVariables false
set_option linter.unusedSectionVars false
set_option maxRecDepth 100000
namespace Go.Proofs.Ythgpdnffahmhjaa.S20
open Go.RowKit Go.Maps Go.Shelf
/-- what an index holds: locations, how many, remembered numbers, counts, readers -/
structure IX where
  loc : ByteArray → Option LT
  n : Nat
  gone : ByteArray → Option Int
  cnt : Int → Int
  rd : Int → Int
def vloc (f : ByteArray → Option LT) : ByteArray → Option Value := fun k => (f k).map locV
def vint (f : ByteArray → Option Int) : ByteArray → Option Value := fun k => (f k).map (.int .i64)
def vcnt (c : Int → Int) : Int → Option Value := fun a => if c a = 0 then none else some (.int .i64 (c a))
theorem vloc_put (f : ByteArray → Option LT) (k : ByteArray) (l : LT) : fput (vloc f) k (locV l) = vloc (fput f k l) := by
  funext x; unfold fput vloc; by_cases e : x = k <;> simp [e]
theorem vloc_del (f : ByteArray → Option LT) (k : ByteArray) : fdel (vloc f) k = vloc (fdel f k) := by
  funext x; unfold fdel vloc; by_cases e : x = k <;> simp [e]
theorem vint_put (f : ByteArray → Option Int) (k : ByteArray) (l : Int) : fput (vint f) k (.int .i64 l) = vint (fput f k l) := by
  funext x; unfold fput vint; by_cases e : x = k <;> simp [e]
theorem vint_del (f : ByteArray → Option Int) (k : ByteArray) : fdel (vint f) k = vint (fdel f k) := by
  funext x; unfold fdel vint; by_cases e : x = k <;> simp [e]
/-- a count goes up or down -/
def cadd (c : Int → Int) (a by_ : Int) : Int → Int := fun x => if x = a then c a + by_ else c x
theorem vcnt_put (c : Int → Int) (a b : Int) (h : c a + b ≠ 0) : fput (vcnt c) a (.int .i64 (c a + b)) = vcnt (cadd c a b) := by
  funext x; unfold fput vcnt cadd
  by_cases e : x = a
  · subst e; simp [h]
  · simp [e]
theorem vcnt_del (c : Int → Int) (a b : Int) (h : c a + b = 0) : fdel (vcnt c) a = vcnt (cadd c a b) := by
  funext x; unfold fdel vcnt cadd
  by_cases e : x = a
  · subst e; simp [h]
  · simp [e]
theorem vcnt_get (c : Int → Int) (a : Int) : (vcnt c a).getD (.int .i64 0) = .int .i64 (c a) := by
  unfold vcnt
  split
  · rename_i h; rw [h]; rfl
  · rfl
theorem nput_vloc (f : ByteArray → Option LT) (k : ByteArray) (n : Nat) : nput (vloc f) k n = nput f k n := by unfold nput vloc; simp
theorem ndel_vloc (f : ByteArray → Option LT) (k : ByteArray) (n : Nat) : ndel (vloc f) k n = ndel f k n := by unfold ndel vloc; simp
theorem nput_le {κ β : Type} (f : κ → Option β) (k : κ) (n : Nat) : nput f k n ≤ n + 1 := by unfold nput; split <;> omega
theorem ndel_le {κ β : Type} (f : κ → Option β) (k : κ) (n : Nat) : ndel f k n ≤ n := by unfold ndel; split <;> omega
/-- where an index's parts lie -/
structure IL where
  p : Nat
  m1 : Option Nat
  m2 : Option Nat
  m3 : Option Nat
  m4 : Option Nat
def IL.at (l : IL) (b : Nat) : Prop := b = l.p ∨ l.m1 = some b ∨ l.m2 = some b ∨ l.m3 = some b ∨ l.m4 = some b
def IL.cs (l : IL) : List Value := [.map l.m1, .map l.m2, .map l.m3, .map l.m4]
def apart (a b : Option Nat) : Prop := ∀ x, a = some x → b ≠ some x
theorem apart.symm {a b : Option Nat} (h : apart a b) : apart b a := fun x h1 h2 => h x h2 h1
structure IsIX (w : World) (l : IL) (S : IX) (N : Nat) : Prop where
  blk : Blk w l.p 50 l.cs
  loc : MF klit w 9 l.m1 S.n (vloc S.loc)
  gone : ∃ n, n ≤ N ∧ MF klit w 9 l.m2 n (vint S.gone)
  cnt : ∃ n, n ≤ N ∧ MF ilit w 2 l.m3 n (vcnt S.cnt)
  rd : ∃ n, n ≤ N ∧ MF ilit w 2 l.m4 n (vcnt S.rd)
  nN : S.n ≤ N
  bc : ∀ a, -(N : Int) ≤ S.cnt a ∧ S.cnt a ≤ N
  br : ∀ a, -(N : Int) ≤ S.rd a ∧ S.rd a ≤ N
  a12 : apart l.m1 l.m2
  a13 : apart l.m1 l.m3
  a14 : apart l.m1 l.m4
  a23 : apart l.m2 l.m3
  a24 : apart l.m2 l.m4
  a34 : apart l.m3 l.m4
namespace IsIX
variable {w w' : World} {l : IL} {S : IX} {N : Nat}
theorem lt (h : IsIX w l S N) : ∀ b, l.at b → b < w.heap.size := by
  intro b hb
  obtain ⟨_, _, h2⟩ := h.gone
  obtain ⟨_, _, h3⟩ := h.cnt
  obtain ⟨_, _, h4⟩ := h.rd
  have h1 := h.loc
  rcases hb with rfl | hb | hb | hb | hb
  · exact h.blk.lt
  · rw [hb] at h1; exact h1.lt
  · rw [hb] at h2; exact h2.lt
  · rw [hb] at h3; exact h3.lt
  · rw [hb] at h4; exact h4.lt
theorem pne (h : IsIX w l S N) : l.m1 ≠ some l.p ∧ l.m2 ≠ some l.p ∧ l.m3 ≠ some l.p ∧ l.m4 ≠ some l.p := by
  obtain ⟨_, _, h2⟩ := h.gone
  obtain ⟨_, _, h3⟩ := h.cnt
  obtain ⟨_, _, h4⟩ := h.rd
  exact ⟨h.loc.not_blk h.blk, h2.not_blk h.blk, h3.not_blk h.blk, h4.not_blk h.blk⟩
theorem keep (h : IsIX w l S N) (hk : ∀ b, l.at b → w'.heap[b]? = w.heap[b]?) : IsIX w' l S N := by
  obtain ⟨n2, e2, h2⟩ := h.gone
  obtain ⟨n3, e3, h3⟩ := h.cnt
  obtain ⟨n4, e4, h4⟩ := h.rd
  exact ⟨(hk _ (.inl rfl)).trans h.blk, h.loc.keep fun b e => hk b (.inr (.inl e)), ⟨n2, e2, h2.keep fun b e => hk b (.inr (.inr (.inl e)))⟩, ⟨n3, e3, h3.keep fun b e => hk b (.inr (.inr (.inr (.inl e))))⟩, ⟨n4, e4, h4.keep fun b e => hk b (.inr (.inr (.inr (.inr e))))⟩,
    h.nN, h.bc, h.br, h.a12, h.a13, h.a14, h.a23, h.a24, h.a34⟩
theorem below (h : IsIX w l S N) (hb : Below w.heap.size w w') : IsIX w' l S N := h.keep fun b hk => hb.block b (h.lt b hk)
theorem drew (h : IsIX w l S N) : IsIX w.drew l S N := h.keep fun b hk => rfl
theorem more (h : IsIX w l S N) {N' : Nat} (hN : N ≤ N') : IsIX w l S N' := by
  obtain ⟨n2, e2, h2⟩ := h.gone
  obtain ⟨n3, e3, h3⟩ := h.cnt
  obtain ⟨n4, e4, h4⟩ := h.rd
  exact ⟨h.blk, h.loc, ⟨n2, by omega, h2⟩, ⟨n3, by omega, h3⟩, ⟨n4, by omega, h4⟩, by have := h.nN; omega, fun a => by have := h.bc a; omega, fun a => by have := h.br a; omega, h.a12, h.a13, h.a14, h.a23, h.a24, h.a34⟩
theorem cells (h : IsIX w l S N) : w.cell? ⟨l.p, 0, none⟩ = some (.map l.m1) ∧ w.cell? ⟨l.p, 1, none⟩ = some (.map l.m2) ∧ w.cell? ⟨l.p, 2, none⟩ = some (.map l.m3) ∧ w.cell? ⟨l.p, 3, none⟩ = some (.map l.m4) :=
  ⟨h.blk.cell rfl, h.blk.cell rfl, h.blk.cell rfl, h.blk.cell rfl⟩
end IsIX
/-- the index goes on as S' -/
def Gone (w : World) (l : IL) (S' : IX) (N' : Nat) (w' : World) : Prop := ∃ l', l'.p = l.p ∧ Hid (IsIX w' l' S' N') ∧ Hid (Step w w' l.at l'.at)
theorem apart_of {w : World} {a : Option Nat} {b g : Nat} (h : ∀ x, a = some x → x < w.heap.size) (hb : a ≠ some b ∧ b = g ∨ w.heap.size ≤ b) : apart a (some b) := by
  intro x hx e
  cases e
  rcases hb with ⟨hb, _⟩ | hb
  · exact hb hx
  · have := h _ hx; omega
theorem IsIX.slot1 {w w' : World} {l : IL} {S : IX} {N n' b : Nat} (f : ByteArray → Option LT) (h : IsIX w l S N) (hb : l.m1 = some b ∨ w.heap.size ≤ b) (hk : Blk w' l.p 50 (l.cs.set 0 (.map (some b)))) (hm : MF klit w' 9 (some b) n' (vloc f)) (hn : n' ≤ N + 1) (hs : Step w w' (fun x => x = l.p ∨ l.m1 = some x) (fun x => x = l.p ∨ some b = some x)) :
    Gone w l { S with loc := f, n := n' } (N + 1) w' := by
  obtain ⟨n2, e2, h2⟩ := h.gone
  obtain ⟨n3, e3, h3⟩ := h.cnt
  obtain ⟨n4, e4, h4⟩ := h.rd
  have hlt := h.lt
  obtain ⟨p1, p2, p3, p4⟩ := h.pne
  have k2 : ∀ x, l.m2 = some x → w'.heap[x]? = w.heap[x]? := fun x hx => hs.block x (hlt x (.inr (.inr (.inl hx)))) (by
    rintro (e | e)
    · exact p2 (by rw [hx, e])
    · exact h.a12 x e hx)
  have b2 : apart l.m2 (some b) := by
    intro x hx e
    cases e
    rcases hb with hb | hb
    · exact h.a12 b hb hx
    · have := hlt b (.inr (.inr (.inl hx))); omega
  have k3 : ∀ x, l.m3 = some x → w'.heap[x]? = w.heap[x]? := fun x hx => hs.block x (hlt x (.inr (.inr (.inr (.inl hx))))) (by
    rintro (e | e)
    · exact p3 (by rw [hx, e])
    · exact h.a13 x e hx)
  have b3 : apart l.m3 (some b) := by
    intro x hx e
    cases e
    rcases hb with hb | hb
    · exact h.a13 b hb hx
    · have := hlt b (.inr (.inr (.inr (.inl hx)))); omega
  have k4 : ∀ x, l.m4 = some x → w'.heap[x]? = w.heap[x]? := fun x hx => hs.block x (hlt x (.inr (.inr (.inr (.inr hx))))) (by
    rintro (e | e)
    · exact p4 (by rw [hx, e])
    · exact h.a14 x e hx)
  have b4 : apart l.m4 (some b) := by
    intro x hx e
    cases e
    rcases hb with hb | hb
    · exact h.a14 b hb hx
    · have := hlt b (.inr (.inr (.inr (.inr hx)))); omega
  refine ⟨{ l with m1 := some b }, rfl, Lib.hid ⟨hk, hm, ⟨n2, by omega, h2.keep k2⟩, ⟨n3, by omega, h3.keep k3⟩, ⟨n4, by omega, h4.keep k4⟩, hn, fun a => by have := h.bc a; show _ ≤ S.cnt a ∧ S.cnt a ≤ _; omega, fun a => by have := h.br a; show _ ≤ S.rd a ∧ S.rd a ≤ _; omega, b2.symm, b3.symm, b4.symm, h.a23, h.a24, h.a34⟩, Lib.hid ?_⟩
  refine ⟨hs.os, hs.tape, hs.output, hs.size, fun x hx hn => hs.block x hx (by
    rintro (e | e)
    · exact hn (.inl e)
    · exact hn (.inr (.inl e))), fun x hx => ?_⟩
  rcases hx with e | e | e | e | e
  · exact .inl (.inl e)
  · cases e
    rcases hb with hb | hb
    · exact .inl (.inr (.inl hb))
    · exact .inr hb
  · exact .inl (.inr (.inr (.inl e)))
  · exact .inl (.inr (.inr (.inr (.inl e))))
  · exact .inl (.inr (.inr (.inr (.inr e))))
theorem IsIX.cut1 {w w' : World} {l : IL} {S : IX} {N n' : Nat} (f : ByteArray → Option LT) (h : IsIX w l S N) (hm : MF klit w' 9 l.m1 n' (vloc f)) (hn : n' ≤ N) (hg : w.grownBy w' l.m1) :
    IsIX w' l { S with loc := f, n := n' } N ∧ Step w w' l.at l.at := by
  obtain ⟨n2, e2, h2⟩ := h.gone
  obtain ⟨n3, e3, h3⟩ := h.cnt
  obtain ⟨n4, e4, h4⟩ := h.rd
  have hlt := h.lt
  obtain ⟨p1, p2, p3, p4⟩ := h.pne
  have k2 : ∀ x, l.m2 = some x → w'.heap[x]? = w.heap[x]? := fun x hx => hg.block x (hlt x (.inr (.inr (.inl hx)))) (fun e => h.a12 x e.symm hx)
  have k3 : ∀ x, l.m3 = some x → w'.heap[x]? = w.heap[x]? := fun x hx => hg.block x (hlt x (.inr (.inr (.inr (.inl hx))))) (fun e => h.a13 x e.symm hx)
  have k4 : ∀ x, l.m4 = some x → w'.heap[x]? = w.heap[x]? := fun x hx => hg.block x (hlt x (.inr (.inr (.inr (.inr hx))))) (fun e => h.a14 x e.symm hx)
  exact ⟨⟨h.blk.grown hg (fun e => p1 e.symm), hm, ⟨n2, e2, h2.keep k2⟩, ⟨n3, e3, h3.keep k3⟩, ⟨n4, e4, h4.keep k4⟩, hn, h.bc, h.br, h.a12, h.a13, h.a14, h.a23, h.a24, h.a34⟩, Step.ofGrown hg fun x e => .inl (.inr (.inl e))⟩
theorem IsIX.slot2 {w w' : World} {l : IL} {S : IX} {N n' b : Nat} (f : ByteArray → Option Int) (h : IsIX w l S N) (hb : l.m2 = some b ∨ w.heap.size ≤ b) (hk : Blk w' l.p 50 (l.cs.set 1 (.map (some b)))) (hm : MF klit w' 9 (some b) n' (vint f)) (hn : n' ≤ N + 1) (hs : Step w w' (fun x => x = l.p ∨ l.m2 = some x) (fun x => x = l.p ∨ some b = some x)) :
    Gone w l { S with gone := f } (N + 1) w' := by
  obtain ⟨n2, e2, h2⟩ := h.gone
  obtain ⟨n3, e3, h3⟩ := h.cnt
  obtain ⟨n4, e4, h4⟩ := h.rd
  have hlt := h.lt
  obtain ⟨p1, p2, p3, p4⟩ := h.pne
  have k1 : ∀ x, l.m1 = some x → w'.heap[x]? = w.heap[x]? := fun x hx => hs.block x (hlt x (.inr (.inl hx))) (by
    rintro (e | e)
    · exact p1 (by rw [hx, e])
    · exact h.a12.symm x e hx)
  have b1 : apart l.m1 (some b) := by
    intro x hx e
    cases e
    rcases hb with hb | hb
    · exact h.a12.symm b hb hx
    · have := hlt b (.inr (.inl hx)); omega
  have k3 : ∀ x, l.m3 = some x → w'.heap[x]? = w.heap[x]? := fun x hx => hs.block x (hlt x (.inr (.inr (.inr (.inl hx))))) (by
    rintro (e | e)
    · exact p3 (by rw [hx, e])
    · exact h.a23 x e hx)
  have b3 : apart l.m3 (some b) := by
    intro x hx e
    cases e
    rcases hb with hb | hb
    · exact h.a23 b hb hx
    · have := hlt b (.inr (.inr (.inr (.inl hx)))); omega
  have k4 : ∀ x, l.m4 = some x → w'.heap[x]? = w.heap[x]? := fun x hx => hs.block x (hlt x (.inr (.inr (.inr (.inr hx))))) (by
    rintro (e | e)
    · exact p4 (by rw [hx, e])
    · exact h.a24 x e hx)
  have b4 : apart l.m4 (some b) := by
    intro x hx e
    cases e
    rcases hb with hb | hb
    · exact h.a24 b hb hx
    · have := hlt b (.inr (.inr (.inr (.inr hx)))); omega
  refine ⟨{ l with m2 := some b }, rfl, Lib.hid ⟨hk, h.loc.keep k1, ⟨n', hn, hm⟩, ⟨n3, by omega, h3.keep k3⟩, ⟨n4, by omega, h4.keep k4⟩, by have := h.nN; show S.n ≤ N + 1; omega, fun a => by have := h.bc a; show _ ≤ S.cnt a ∧ S.cnt a ≤ _; omega, fun a => by have := h.br a; show _ ≤ S.rd a ∧ S.rd a ≤ _; omega, b1, h.a13, h.a14, b3.symm, b4.symm, h.a34⟩, Lib.hid ?_⟩
  refine ⟨hs.os, hs.tape, hs.output, hs.size, fun x hx hn => hs.block x hx (by
    rintro (e | e)
    · exact hn (.inl e)
    · exact hn (.inr (.inr (.inl e)))), fun x hx => ?_⟩
  rcases hx with e | e | e | e | e
  · exact .inl (.inl e)
  · exact .inl (.inr (.inl e))
  · cases e
    rcases hb with hb | hb
    · exact .inl (.inr (.inr (.inl hb)))
    · exact .inr hb
  · exact .inl (.inr (.inr (.inr (.inl e))))
  · exact .inl (.inr (.inr (.inr (.inr e))))
theorem IsIX.cut2 {w w' : World} {l : IL} {S : IX} {N n' : Nat} (f : ByteArray → Option Int) (h : IsIX w l S N) (hm : MF klit w' 9 l.m2 n' (vint f)) (hn : n' ≤ N) (hg : w.grownBy w' l.m2) :
    IsIX w' l { S with gone := f } N ∧ Step w w' l.at l.at := by
  obtain ⟨n2, e2, h2⟩ := h.gone
  obtain ⟨n3, e3, h3⟩ := h.cnt
  obtain ⟨n4, e4, h4⟩ := h.rd
  have hlt := h.lt
  obtain ⟨p1, p2, p3, p4⟩ := h.pne
  have k1 : ∀ x, l.m1 = some x → w'.heap[x]? = w.heap[x]? := fun x hx => hg.block x (hlt x (.inr (.inl hx))) (fun e => h.a12.symm x e.symm hx)
  have k3 : ∀ x, l.m3 = some x → w'.heap[x]? = w.heap[x]? := fun x hx => hg.block x (hlt x (.inr (.inr (.inr (.inl hx))))) (fun e => h.a23 x e.symm hx)
  have k4 : ∀ x, l.m4 = some x → w'.heap[x]? = w.heap[x]? := fun x hx => hg.block x (hlt x (.inr (.inr (.inr (.inr hx))))) (fun e => h.a24 x e.symm hx)
  exact ⟨⟨h.blk.grown hg (fun e => p2 e.symm), h.loc.keep k1, ⟨n', hn, hm⟩, ⟨n3, e3, h3.keep k3⟩, ⟨n4, e4, h4.keep k4⟩, h.nN, h.bc, h.br, h.a12, h.a13, h.a14, h.a23, h.a24, h.a34⟩, Step.ofGrown hg fun x e => .inl (.inr (.inr (.inl e)))⟩
theorem IsIX.slot3 {w w' : World} {l : IL} {S : IX} {N n' b : Nat} (f : Int → Int) (h : IsIX w l S N) (hb : l.m3 = some b ∨ w.heap.size ≤ b) (hk : Blk w' l.p 50 (l.cs.set 2 (.map (some b)))) (hm : MF ilit w' 2 (some b) n' (vcnt f)) (hn : n' ≤ N + 1) (hc : ∀ a, -((N + 1 : Nat) : Int) ≤ f a ∧ f a ≤ ((N + 1 : Nat) : Int)) (hs : Step w w' (fun x => x = l.p ∨ l.m3 = some x) (fun x => x = l.p ∨ some b = some x)) :
    Gone w l { S with cnt := f } (N + 1) w' := by
  obtain ⟨n2, e2, h2⟩ := h.gone
  obtain ⟨n3, e3, h3⟩ := h.cnt
  obtain ⟨n4, e4, h4⟩ := h.rd
  have hlt := h.lt
  obtain ⟨p1, p2, p3, p4⟩ := h.pne
  have k1 : ∀ x, l.m1 = some x → w'.heap[x]? = w.heap[x]? := fun x hx => hs.block x (hlt x (.inr (.inl hx))) (by
    rintro (e | e)
    · exact p1 (by rw [hx, e])
    · exact h.a13.symm x e hx)
  have b1 : apart l.m1 (some b) := by
    intro x hx e
    cases e
    rcases hb with hb | hb
    · exact h.a13.symm b hb hx
    · have := hlt b (.inr (.inl hx)); omega
  have k2 : ∀ x, l.m2 = some x → w'.heap[x]? = w.heap[x]? := fun x hx => hs.block x (hlt x (.inr (.inr (.inl hx)))) (by
    rintro (e | e)
    · exact p2 (by rw [hx, e])
    · exact h.a23.symm x e hx)
  have b2 : apart l.m2 (some b) := by
    intro x hx e
    cases e
    rcases hb with hb | hb
    · exact h.a23.symm b hb hx
    · have := hlt b (.inr (.inr (.inl hx))); omega
  have k4 : ∀ x, l.m4 = some x → w'.heap[x]? = w.heap[x]? := fun x hx => hs.block x (hlt x (.inr (.inr (.inr (.inr hx))))) (by
    rintro (e | e)
    · exact p4 (by rw [hx, e])
    · exact h.a34 x e hx)
  have b4 : apart l.m4 (some b) := by
    intro x hx e
    cases e
    rcases hb with hb | hb
    · exact h.a34 b hb hx
    · have := hlt b (.inr (.inr (.inr (.inr hx)))); omega
  refine ⟨{ l with m3 := some b }, rfl, Lib.hid ⟨hk, h.loc.keep k1, ⟨n2, by omega, h2.keep k2⟩, ⟨n', hn, hm⟩, ⟨n4, by omega, h4.keep k4⟩, by have := h.nN; show S.n ≤ N + 1; omega, hc, fun a => by have := h.br a; show _ ≤ S.rd a ∧ S.rd a ≤ _; omega, h.a12, b1, h.a14, b2, h.a24, b4.symm⟩, Lib.hid ?_⟩
  refine ⟨hs.os, hs.tape, hs.output, hs.size, fun x hx hn => hs.block x hx (by
    rintro (e | e)
    · exact hn (.inl e)
    · exact hn (.inr (.inr (.inr (.inl e))))), fun x hx => ?_⟩
  rcases hx with e | e | e | e | e
  · exact .inl (.inl e)
  · exact .inl (.inr (.inl e))
  · exact .inl (.inr (.inr (.inl e)))
  · cases e
    rcases hb with hb | hb
    · exact .inl (.inr (.inr (.inr (.inl hb))))
    · exact .inr hb
  · exact .inl (.inr (.inr (.inr (.inr e))))
theorem IsIX.cut3 {w w' : World} {l : IL} {S : IX} {N n' : Nat} (f : Int → Int) (h : IsIX w l S N) (hm : MF ilit w' 2 l.m3 n' (vcnt f)) (hn : n' ≤ N) (hc : ∀ a, -(N : Int) ≤ f a ∧ f a ≤ (N : Int)) (hg : w.grownBy w' l.m3) :
    IsIX w' l { S with cnt := f } N ∧ Step w w' l.at l.at := by
  obtain ⟨n2, e2, h2⟩ := h.gone
  obtain ⟨n3, e3, h3⟩ := h.cnt
  obtain ⟨n4, e4, h4⟩ := h.rd
  have hlt := h.lt
  obtain ⟨p1, p2, p3, p4⟩ := h.pne
  have k1 : ∀ x, l.m1 = some x → w'.heap[x]? = w.heap[x]? := fun x hx => hg.block x (hlt x (.inr (.inl hx))) (fun e => h.a13.symm x e.symm hx)
  have k2 : ∀ x, l.m2 = some x → w'.heap[x]? = w.heap[x]? := fun x hx => hg.block x (hlt x (.inr (.inr (.inl hx)))) (fun e => h.a23.symm x e.symm hx)
  have k4 : ∀ x, l.m4 = some x → w'.heap[x]? = w.heap[x]? := fun x hx => hg.block x (hlt x (.inr (.inr (.inr (.inr hx))))) (fun e => h.a34 x e.symm hx)
  exact ⟨⟨h.blk.grown hg (fun e => p3 e.symm), h.loc.keep k1, ⟨n2, e2, h2.keep k2⟩, ⟨n', hn, hm⟩, ⟨n4, e4, h4.keep k4⟩, h.nN, hc, h.br, h.a12, h.a13, h.a14, h.a23, h.a24, h.a34⟩, Step.ofGrown hg fun x e => .inl (.inr (.inr (.inr (.inl e))))⟩
theorem IsIX.slot4 {w w' : World} {l : IL} {S : IX} {N n' b : Nat} (f : Int → Int) (h : IsIX w l S N) (hb : l.m4 = some b ∨ w.heap.size ≤ b) (hk : Blk w' l.p 50 (l.cs.set 3 (.map (some b)))) (hm : MF ilit w' 2 (some b) n' (vcnt f)) (hn : n' ≤ N + 1) (hc : ∀ a, -((N + 1 : Nat) : Int) ≤ f a ∧ f a ≤ ((N + 1 : Nat) : Int)) (hs : Step w w' (fun x => x = l.p ∨ l.m4 = some x) (fun x => x = l.p ∨ some b = some x)) :
    Gone w l { S with rd := f } (N + 1) w' := by
  obtain ⟨n2, e2, h2⟩ := h.gone
  obtain ⟨n3, e3, h3⟩ := h.cnt
  obtain ⟨n4, e4, h4⟩ := h.rd
  have hlt := h.lt
  obtain ⟨p1, p2, p3, p4⟩ := h.pne
  have k1 : ∀ x, l.m1 = some x → w'.heap[x]? = w.heap[x]? := fun x hx => hs.block x (hlt x (.inr (.inl hx))) (by
    rintro (e | e)
    · exact p1 (by rw [hx, e])
    · exact h.a14.symm x e hx)
  have b1 : apart l.m1 (some b) := by
    intro x hx e
    cases e
    rcases hb with hb | hb
    · exact h.a14.symm b hb hx
    · have := hlt b (.inr (.inl hx)); omega
  have k2 : ∀ x, l.m2 = some x → w'.heap[x]? = w.heap[x]? := fun x hx => hs.block x (hlt x (.inr (.inr (.inl hx)))) (by
    rintro (e | e)
    · exact p2 (by rw [hx, e])
    · exact h.a24.symm x e hx)
  have b2 : apart l.m2 (some b) := by
    intro x hx e
    cases e
    rcases hb with hb | hb
    · exact h.a24.symm b hb hx
    · have := hlt b (.inr (.inr (.inl hx))); omega
  have k3 : ∀ x, l.m3 = some x → w'.heap[x]? = w.heap[x]? := fun x hx => hs.block x (hlt x (.inr (.inr (.inr (.inl hx))))) (by
    rintro (e | e)
    · exact p3 (by rw [hx, e])
    · exact h.a34.symm x e hx)
  have b3 : apart l.m3 (some b) := by
    intro x hx e
    cases e
    rcases hb with hb | hb
    · exact h.a34.symm b hb hx
    · have := hlt b (.inr (.inr (.inr (.inl hx)))); omega
  refine ⟨{ l with m4 := some b }, rfl, Lib.hid ⟨hk, h.loc.keep k1, ⟨n2, by omega, h2.keep k2⟩, ⟨n3, by omega, h3.keep k3⟩, ⟨n', hn, hm⟩, by have := h.nN; show S.n ≤ N + 1; omega, fun a => by have := h.bc a; show _ ≤ S.cnt a ∧ S.cnt a ≤ _; omega, hc, h.a12, h.a13, b1, h.a23, b2, b3⟩, Lib.hid ?_⟩
  refine ⟨hs.os, hs.tape, hs.output, hs.size, fun x hx hn => hs.block x hx (by
    rintro (e | e)
    · exact hn (.inl e)
    · exact hn (.inr (.inr (.inr (.inr e))))), fun x hx => ?_⟩
  rcases hx with e | e | e | e | e
  · exact .inl (.inl e)
  · exact .inl (.inr (.inl e))
  · exact .inl (.inr (.inr (.inl e)))
  · exact .inl (.inr (.inr (.inr (.inl e))))
  · cases e
    rcases hb with hb | hb
    · exact .inl (.inr (.inr (.inr (.inr hb))))
    · exact .inr hb
theorem IsIX.cut4 {w w' : World} {l : IL} {S : IX} {N n' : Nat} (f : Int → Int) (h : IsIX w l S N) (hm : MF ilit w' 2 l.m4 n' (vcnt f)) (hn : n' ≤ N) (hc : ∀ a, -(N : Int) ≤ f a ∧ f a ≤ (N : Int)) (hg : w.grownBy w' l.m4) :
    IsIX w' l { S with rd := f } N ∧ Step w w' l.at l.at := by
  obtain ⟨n2, e2, h2⟩ := h.gone
  obtain ⟨n3, e3, h3⟩ := h.cnt
  obtain ⟨n4, e4, h4⟩ := h.rd
  have hlt := h.lt
  obtain ⟨p1, p2, p3, p4⟩ := h.pne
  have k1 : ∀ x, l.m1 = some x → w'.heap[x]? = w.heap[x]? := fun x hx => hg.block x (hlt x (.inr (.inl hx))) (fun e => h.a14.symm x e.symm hx)
  have k2 : ∀ x, l.m2 = some x → w'.heap[x]? = w.heap[x]? := fun x hx => hg.block x (hlt x (.inr (.inr (.inl hx)))) (fun e => h.a24.symm x e.symm hx)
  have k3 : ∀ x, l.m3 = some x → w'.heap[x]? = w.heap[x]? := fun x hx => hg.block x (hlt x (.inr (.inr (.inr (.inl hx))))) (fun e => h.a34.symm x e.symm hx)
  exact ⟨⟨h.blk.grown hg (fun e => p4 e.symm), h.loc.keep k1, ⟨n2, e2, h2.keep k2⟩, ⟨n3, e3, h3.keep k3⟩, ⟨n', hn, hm⟩, h.nN, h.bc, hc, h.a12, h.a13, h.a14, h.a23, h.a24, h.a34⟩, Step.ofGrown hg fun x e => .inl (.inr (.inr (.inr (.inr e))))⟩
end Go.Proofs.Ythgpdnffahmhjaa.S20

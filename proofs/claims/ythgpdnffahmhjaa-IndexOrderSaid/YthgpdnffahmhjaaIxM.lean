/- Maps whose values are held as they are: what one tells, as a function of its keys: look-up, store, delete, len. -/
import Derived.Test.YthgpdnffahmhjaaMade
import Derived.Maps.OwnSet
import Derived.Maps.RangeWalk
set_option linter.unusedSimpArgs false
set_option linter.unusedVariables false
set_option linter.unusedSectionVars false
set_option maxRecDepth 100000
namespace Go.Proofs.Ythgpdnffahmhjaa.S20
open Go.RowKit Go.Maps
/-- a map's value, held as it is -/
def heldR (v : Value) : Option (DataW Value × List MemPlace) := some (.held v, [])
def klit (s : ByteArray) : Lit := .string s.data.toList
theorem klit_inj (s t : ByteArray) (h : klit s = klit t) : s = t := by
  unfold klit at h
  rw [Lit.string.injEq] at h
  exact ByteArray.ext (Array.toList_inj.1 h)
theorem klit_key (s : ByteArray) : WideAt.IsKeyLit (klit s) := by trivial
def ilit (a : Int) : Lit := .int .i64 a
theorem ilit_inj (a b : Int) (h : ilit a = ilit b) : a = b := by unfold ilit at h; cases h; rfl
theorem ilit_key (a : Int) : WideAt.IsKeyLit (ilit a) := by trivial
section
variable {κ : Type} [DecidableEq κ]
/-- the map mv, or none, has n entries, and tells f of its keys -/
def MF (lit : κ → Lit) (w : World) (kt : TypeId) (mv : Option Nat) (n : Nat) (f : κ → Option Value) : Prop :=
  (mv = none ∧ n = 0 ∧ ∀ k, f k = none) ∨ ∃ b D, mv = some b ∧ w.ownsMap Try.prog kt heldR b n D ∧ Maps.size D = n ∧ ∀ k, Maps.has D (lit k) = (f k).isSome ∧ ∀ z v, f k = some v → D.atKey (lit k) z = .held v
theorem own_tight {w : World} {b n : Nat} {D : DataW Value} {k : TypeId} (h : w.ownsMap Try.prog k heldR b n D) : w.ownsMap Try.prog k heldR b (Maps.size D) D := by
  obtain ⟨es, clock, hb, F, hs, rfl⟩ := h
  exact ⟨es, clock, hb, F, by simp [Maps.size, length_sorted], rfl⟩
/-- what a key is set to -/
def fput {β : Type} (f : κ → Option β) (k : κ) (v : β) : κ → Option β := fun x => if x = k then some v else f x
def fdel {β : Type} (f : κ → Option β) (k : κ) : κ → Option β := fun x => if x = k then none else f x
def nput {β : Type} (f : κ → Option β) (k : κ) (n : Nat) : Nat := if (f k).isSome then n else n + 1
def ndel {β : Type} (f : κ → Option β) (k : κ) (n : Nat) : Nat := if (f k).isSome then n - 1 else n
namespace MF
variable {lit : κ → Lit} {w w' : World} {kt : TypeId} {mv : Option Nat} {n : Nat} {f : κ → Option Value}
theorem lt {b : Nat} (h : MF lit w kt (some b) n f) : b < w.heap.size := by
  obtain ⟨h, _⟩ | ⟨b', D, hb, h, _⟩ := h
  · cases h
  · cases hb; exact h.lt
theorem keep (h : MF lit w kt mv n f) (hk : ∀ b, mv = some b → w'.heap[b]? = w.heap[b]?) : MF lit w' kt mv n f := by
  obtain h | ⟨b, D, rfl, ⟨es, clock, hb, F, hs, hD⟩, r⟩ := h
  · exact .inl h
  · exact .inr ⟨b, D, rfl, ⟨es, clock, (hk b rfl).trans hb, F, hs, hD⟩, r⟩
theorem below (h : MF lit w kt mv n f) (hb : Below w.heap.size w w') : MF lit w' kt mv n f := h.keep fun b e => hb.block b (by subst e; exact h.lt)
theorem none_ (lit : κ → Lit) (w : World) (kt : TypeId) {f : κ → Option Value} (hf : ∀ k, f k = none) : MF lit w kt none 0 f := .inl ⟨rfl, rfl, hf⟩
theorem made (lit : κ → Lit) (w : World) (kt : TypeId) {f : κ → Option Value} (hf : ∀ k, f k = none) : MF lit (w.alloc (.map #[] 0)) kt (some w.heap.size) 0 f := .inr ⟨_, .map [], rfl, World.ownsMap_made _ _ _ _, rfl, fun k => ⟨by rw [hf k]; rfl, fun z v h => by rw [hf k] at h; cases h⟩⟩
theorem congr {f' : κ → Option Value} (h : MF lit w kt mv n f) (e : ∀ k, f' k = f k) : MF lit w kt mv n f' := by
  have : f' = f := funext e
  rwa [this]
theorem not_blk (h : MF lit w kt mv n f) {g : Nat} {t : TypeId} {cs : List Value} (hk : Blk w g t cs) : mv ≠ some g := by
  rintro rfl
  obtain ⟨h, _⟩ | ⟨b', D, hb, ⟨es, clock, hb', _⟩, _⟩ := h
  · cases h
  · cases hb; unfold Blk at hk; rw [hk] at hb'; cases hb'
variable {t e : TypeId} {key : Value} {kl : κ}
theorem put {b : Nat} (h : MF lit w kt (some b) n f) (K : Keyed Try.prog kt) (ht : Try.prog.underlying t = some (.map kt e)) (hn : n < 1000000000) (hk : keyOf Try.prog kt key = some (lit kl)) (hl : WideAt.IsKeyLit (lit kl)) (hi : ∀ a b, lit a = lit b → a = b) (v : Value) :
    ∃ w', (Instr.mapUpdate t (.map (some b)) key v).run Try.prog w = .ok () w' ∧ MF lit w' kt (some b) (nput f kl n) (fput f kl v) ∧ w.grownBy w' (some b) := by
  obtain ⟨h, _⟩ | ⟨b', D, hb, h, hs, hD⟩ := h
  · cases h
  cases hb
  obtain ⟨w', hr, h1, h2⟩ := h.update K ht (by unfold maxLen; omega) hk (show heldR v = some (.held v, []) from rfl)
  refine ⟨w', hr, .inr ⟨b, D.put (lit kl) (.held v), rfl, ?_, ?_, fun k => ?_⟩, h2⟩
  · have := own_tight h1
    rw [size_put (h.tidy K), hs, (hD kl).1] at this
    exact this
  · rw [size_put (h.tidy K), hs, (hD kl).1]; rfl
  · unfold fput
    by_cases e : k = kl
    · subst e
      rw [if_pos rfl]
      exact ⟨has_put_same h.isMap hl _, fun z v' hv => by cases hv; exact atKey_put_same h.isMap hl _ _⟩
    · rw [if_neg e]
      exact ⟨by rw [has_put_other (fun q => e (hi _ _ q))]; exact (hD k).1, fun z v' hv => by rw [atKey_put_other (fun q => e (hi _ _ q))]; exact (hD k).2 z v' hv⟩
theorem del (hi : ∀ a b, lit a = lit b → a = b) (h : MF lit w kt mv n f) (K : Keyed Try.prog kt) (ht : Try.prog.underlying t = some (.map kt e)) (hk : keyOf Try.prog kt key = some (lit kl)) :
    ∃ w', (∀ ty, (Builtin.delete_ #[t, kt] ty #[.map mv, key]).run Try.prog w = .ok (.tuple #[]) w') ∧ MF lit w' kt mv (ndel f kl n) (fdel f kl) ∧ w.grownBy w' mv := by
  obtain ⟨rfl, rfl, hf⟩ | ⟨b, D, rfl, h, hs, hD⟩ := h
  · exact ⟨w, fun ty => Maps.drop_nil K ht hk ty, .inl ⟨rfl, by unfold ndel; rw [hf]; rfl, fun k => by unfold fdel; rw [hf]; split <;> rfl⟩, ⟨rfl, rfl, rfl, Nat.le_refl _, fun _ _ _ => rfl⟩⟩
  · obtain ⟨w', hr, h1, h2⟩ := h.drop K ht hk 0
    refine ⟨w', fun ty => ?_, .inr ⟨b, D.del (lit kl), rfl, ?_, ?_, fun k => ?_⟩, h2.grown⟩
    · have : Builtin.delete_ #[t, kt] ty #[.map (some b), key] = Builtin.delete_ #[t, kt] 0 #[.map (some b), key] := rfl
      rw [this]; exact hr
    · have hz := size_del (k := lit kl) (h.tidy K)
      rw [hs, (hD kl).1] at hz
      have := own_tight h1
      have e : Maps.size (D.del (lit kl)) = ndel f kl n := by unfold ndel; split at hz <;> simp_all <;> omega
      rwa [e] at this
    · have hz := size_del (k := lit kl) (h.tidy K)
      rw [hs, (hD kl).1] at hz
      unfold ndel; split at hz <;> simp_all <;> omega
    · unfold fdel
      by_cases e : k = kl
      · subst e
        rw [if_pos rfl]
        exact ⟨has_del_same, fun z v' hv => by cases hv⟩
      · rw [if_neg e]
        exact ⟨by rw [has_del_other (fun q => e (hi _ _ q))]; exact (hD k).1, fun z v' hv => by rw [atKey_del_other (fun q => e (hi _ _ q))]; exact (hD k).2 z v' hv⟩
/-- v, ok := m[k] -/
theorem look_ok (h : MF lit w kt mv n f) (K : Keyed Try.prog kt) (ht : Try.prog.underlying t = some (.map kt e)) {z : Value} (hz : (zeroValue e).run Try.prog w = .ok z w) (hk : keyOf Try.prog kt key = some (lit kl)) :
    (Instr.lookup t (.map mv) key true).run Try.prog w = .ok (.tuple #[(f kl).getD z, .bool (f kl).isSome]) w := by
  obtain ⟨rfl, rfl, hf⟩ | ⟨b, D, rfl, h, hs, hD⟩ := h
  · rw [Maps.look_nil true K ht hz hk, hf]; rfl
  · obtain ⟨v, ps, hr, hv⟩ := World.ownsMap.look_ok h K ht hz (zd := .held z) (zp := []) rfl hk
    rw [hr, (hD kl).1]
    cases hf : f kl with
    | none =>
      have hn : Maps.has D (lit kl) = false := by rw [(hD kl).1, hf]; rfl
      rw [atKey_of_not_has hn] at hv
      unfold heldR at hv; simp at hv; rw [hv.1]; rfl
    | some x =>
      rw [(hD kl).2 _ _ hf] at hv
      unfold heldR at hv; simp at hv; rw [hv.1]; rfl
/-- m[k] -/
theorem look (h : MF lit w kt mv n f) (K : Keyed Try.prog kt) (ht : Try.prog.underlying t = some (.map kt e)) {z : Value} (hz : (zeroValue e).run Try.prog w = .ok z w) (hk : keyOf Try.prog kt key = some (lit kl)) :
    (Instr.lookup t (.map mv) key false).run Try.prog w = .ok ((f kl).getD z) w := by
  obtain ⟨rfl, rfl, hf⟩ | ⟨b, D, rfl, h, hs, hD⟩ := h
  · rw [Maps.look_nil false K ht hz hk, hf]; rfl
  · obtain ⟨v, ps, hr, hv⟩ := World.ownsMap.lookup h K ht hz (zd := .held z) (zp := []) rfl hk
    rw [hr]
    cases hf : f kl with
    | none =>
      have hn : Maps.has D (lit kl) = false := by rw [(hD kl).1, hf]; rfl
      rw [atKey_of_not_has hn] at hv
      unfold heldR at hv; simp at hv; rw [hv.1]; rfl
    | some x =>
      rw [(hD kl).2 _ _ hf] at hv
      unfold heldR at hv; simp at hv; rw [hv.1]; rfl
theorem len (h : MF lit w kt mv n f) (ht : Try.prog.underlying t = some (.map kt e)) (ty : TypeId) : (Builtin.len_ #[t] ty #[.map mv]).run Try.prog w = .ok (.int .i64 (n : Nat)) w := by
  obtain ⟨rfl, rfl, hf⟩ | ⟨b, D, rfl, h, hs, hD⟩ := h
  · exact Maps.len_nil ht ty
  · rw [World.ownsMap.len h ht ty, hs]
end MF
end
end Go.Proofs.Ythgpdnffahmhjaa.S20

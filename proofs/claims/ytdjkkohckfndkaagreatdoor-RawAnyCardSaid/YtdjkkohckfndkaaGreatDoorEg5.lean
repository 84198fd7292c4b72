/- Texts put together: Rec. -/
import Derived.Test.YtdjkkohckfndkaaGreatDoorEg1
import Derived.Deep.Slices
import Derived.ChangeSlices
import Derived.ChangeArms
set_option linter.unusedSimpArgs false
set_option linter.unusedVariables false
set_option maxRecDepth 100000
namespace Go.Proofs.YtdjkkohckfndkaaGreatDoor
open Go.RowKit Go.ChangeShapes Go.WideShapes
inductive FK where
  | int (k : IntKind)
  | str
  | bool
  | ints (k : IntKind)
def FieldOk (w : World) (fk : FK) (v : Value) : Prop := match fk with
  | .int k => ∃ z, v = .int k z ∧ (Lit.int k z).wf = true
  | .str => ∃ s, v = .string s ∧ s.size ≤ maxLen
  | .bool => ∃ b, v = .bool b
  | .ints k => ∃ a len cap zs, v = .slice a len cap ∧ IsRow k w a len cap zs
def FieldTy (P : Program) (fk : FK) (t : TypeId) : Prop := match fk with
  | .int k => P.underlying t = some (.int k)
  | .str => P.underlying t = some .string
  | .bool => P.underlying t = some .bool
  | .ints k => ∃ e, P.underlying t = some (.slice e) ∧ P.underlying e = some (.int k) ∧ P.cellsOf e = 1
def FieldsTy (P : Program) (fs : Array Field) : Nat → List FK → Prop
  | _, [] => True
  | j, fk :: r => (∃ f, fs[j]? = some f ∧ f.offset = j ∧ P.cellsOf f.type = 1 ∧ FieldTy P fk f.type) ∧ FieldsTy P fs (j + 1) r
theorem FieldsTy.get {P : Program} {fs : Array Field} : ∀ {fks : List FK} {j : Nat}, FieldsTy P fs j fks → ∀ i fk, fks[i]? = some fk → ∃ f, fs[j + i]? = some f ∧ f.offset = j + i ∧ P.cellsOf f.type = 1 ∧ FieldTy P fk f.type
  | [], _, _, i, fk, h => by simp at h
  | a :: r, j, h, 0, fk, hi => by simp at hi; subst hi; exact h.1
  | a :: r, j, h, i + 1, fk, hi => by
    have := FieldsTy.get h.2 i fk (by simpa using hi)
    rw [show j + (i + 1) = j + 1 + i by omega]
    exact this
def IsRecs (fks : List FK) (w : World) (a : Option Addr) (len : Nat) : Prop :=
  len ≤ maxLen ∧ (len = 0 ∨ ∃ x, a = some x ∧ ∀ i, i < len → ∀ (j : Nat) (fk : FK), fks[j]? = some fk → ∃ v, w.cell? (x.add (i * fks.length + j)) = some v ∧ FieldOk w fk v)
theorem IsRecs.cells {fks : List FK} {w : World} {a : Option Addr} {len : Nat} (h : IsRecs fks w a len) (hl : 0 < len) (hf : 0 < fks.length) :
    ∃ b off, a = some ⟨b, off, none⟩ ∧ b < w.heap.size ∧ ∀ i, i < len → ∀ (j : Nat) (fk : FK), fks[j]? = some fk → ∃ v, w.cell? ⟨b, off + (i * fks.length + j), none⟩ = some v ∧ FieldOk w fk v := by
  obtain ⟨_, h | ⟨x, rfl, hc⟩⟩ := h
  · omega
  · obtain ⟨b, off, spot⟩ := x
    obtain ⟨v0, hc0, _⟩ := hc 0 hl 0 _ (List.getElem?_eq_getElem hf)
    have hspot : spot = none := by simpa [Addr.add] using World.cell?_spot hc0
    subst hspot
    have hadd : ∀ n, (⟨b, off, none⟩ : Addr).add n = ⟨b, off + n, none⟩ := fun n => by unfold Addr.add; split <;> simp_all
    refine ⟨b, off, rfl, ?_, fun i hi j fk hj => ?_⟩
    · have := World.block_lt_of_cell? w _ hc0
      rw [hadd] at this; exact this
    · have := hc i hi j fk hj
      rw [hadd] at this
      exact this
section
variable {H : Type} {enc : TypeId × Value → H} {P : Program} {w : World} {held : Bool}
theorem fieldOk_of {fk : FK} {t : TypeId} {fuel : Nat} {v : Value} {x : DataW H × List MemPlace} (ht : FieldTy P fk t) (h : DataW.trod enc P w 0 (fun _ => true) held fuel t [v] = some x) : FieldOk w fk v := by
  cases fk with
  | int k =>
    obtain ⟨z, e, _, wz⟩ := DataW.trod_int ht h
    exact ⟨z, by simpa using e, wz⟩
  | str =>
    obtain ⟨s, e, _, hs⟩ := DataW.trod_string ht h
    exact ⟨s, by simpa using e, hs⟩
  | bool =>
    obtain ⟨b, e, _⟩ := DataW.trod_bool ht h
    exact ⟨b, by simpa using e⟩
  | ints k =>
    obtain ⟨e, h1, h2, h3⟩ := ht
    rcases open_ints h1 h2 h3 h with ⟨hcs, _⟩ | ⟨a, len, cap, zs, hcs, _, hl, hm, hz, _, hcell, hwz⟩
    · exact ⟨none, 0, 0, [], by simpa using hcs, .inl ⟨rfl, rfl, rfl, rfl⟩⟩
    · exact ⟨some a, len, cap, zs, by simpa using hcs, .inr ⟨a, rfl, hl, hm, by simpa using hz, hcell, hwz⟩⟩
theorem open_recs {fks : List FK} {fs : Array Field} {t e : TypeId} {fuel : Nat} {a : Option Addr} {len cap : Nat} {x : DataW H × List MemPlace} (ht : P.underlying t = some (.slice e)) (he : P.underlying e = some (.struct fs))
    (hc : P.cellsOf e = fks.length) (hfs : FieldsTy P fs 0 fks) (h : DataW.trod enc P w 0 (fun _ => true) held fuel t [.slice a len cap] = some x) : IsRecs fks w a len := by
  rcases Go.Deep.open_slice ht h with ⟨hcs, _⟩ | ⟨b, l, c, m, n, D, Pl, hcs, _, hl, hm, hmm, _, hx⟩
  · simp at hcs
    obtain ⟨rfl, rfl, rfl⟩ := hcs
    exact ⟨by unfold maxLen; omega, .inl rfl⟩
  · simp at hcs
    obtain ⟨rfl, rfl, rfl⟩ := hcs
    refine ⟨by omega, .inr ⟨b, rfl, fun i hi j fk hj => ?_⟩⟩
    obtain ⟨cs', h1, h2⟩ := hx i (by rw [hmm]; simp; omega)
    rw [hc] at h1
    obtain ⟨_, hlen, hcell⟩ := World.cells?_some h1
    obtain ⟨xs, k, hk, _, _, hxl, hf⟩ := DataW.trod_struct he h2
    obtain ⟨f, hfj, hoff, hone, hty⟩ := hfs.get j fk hj
    rw [Nat.zero_add] at hfj hoff
    have hjl : j < fks.length := (List.getElem?_eq_some_iff.1 hj).1
    have hjx : j < xs.length := by rw [hxl]; exact (Array.getElem?_eq_some_iff.1 hfj).1
    have g := hf j f hfj
    have hjc : j < cs'.length := by omega
    have e1 : (cs'.drop f.offset).take (P.cellsOf f.type) = [cs'[j]] := by
      rw [hoff, hone, List.drop_eq_getElem_cons hjc]
      rfl
    rw [e1, List.getElem?_eq_getElem hjx] at g
    refine ⟨cs'[j], ?_, fieldOk_of hty g⟩
    have := hcell j hjl
    rw [Go.Deep.add_add] at this
    rw [this, List.getElem?_eq_getElem hjc]
end
end Go.Proofs.YtdjkkohckfndkaaGreatDoor

/- Texts put together: Blobs. -/
import Derived.Test.YtdjkkohckfndkaaGreatDoorEg2
set_option linter.unusedSimpArgs false
set_option linter.unusedVariables false
set_option maxRecDepth 100000
namespace Go.Proofs.YtdjkkohckfndkaaGreatDoor
open Go.RowKit Pl

theorem infoR : (Tryz.prog.info? 23).map (fun i => (i.zero, i.size, i.bytes)) = some (some (.slice none 0 0), 1, 24) := by kernel_rfl

theorem addr_add (b off i : Nat) : (⟨b, off, none⟩ : Addr).add i = ⟨b, off + i, none⟩ := by unfold Addr.add; split <;> simp_all
def IsRows (w : World) (v : Value) (L : List (List Nat)) : Prop :=
  ∃ (a : Option Addr) (cap : Nat) (Vs : List Value), v = .slice a L.length cap ∧ L.length ≤ cap ∧ cap ≤ maxLen ∧ Vs.length = L.length ∧ (∀ (i : Nat) (u : Value), Vs[i]? = some u → ∃ ad, a = some ad ∧ w.cell? (ad.add i) = some u) ∧ ∀ (i : Nat) (u : Value) (B : List Nat), Vs[i]? = some u → L[i]? = some B → IsBytes w u B
theorem IsRows.slice {w : World} {v : Value} {L : List (List Nat)} (h : IsRows w v L) : ∃ a cap, v = .slice a L.length cap ∧ L.length ≤ cap ∧ cap ≤ maxLen := by
  obtain ⟨a, cap, Vs, rfl, h1, h2, _⟩ := h
  exact ⟨a, cap, rfl, h1, h2⟩
theorem IsRows.at {w : World} {a : Option Addr} {n cap : Nat} {L : List (List Nat)} (h : IsRows w (.slice a n cap) L) {i : Nat} (hi : i < L.length) :
    ∃ b off a' c', a = some ⟨b, off, none⟩ ∧ b < w.heap.size ∧ w.cell? ⟨b, off + i, none⟩ = some (.slice a' (L.getD i []).length c') ∧ IsBytes w (.slice a' (L.getD i []).length c') (L.getD i []) := by
  obtain ⟨a0, cap0, Vs, hv, _, _, hlen, hcell, hby⟩ := h
  simp at hv
  obtain ⟨rfl, rfl, rfl⟩ := hv
  have hu : Vs[i]? = some (Vs[i]'(by omega)) := List.getElem?_eq_getElem (by omega)
  have hu0 : Vs[0]? = some (Vs[0]'(by omega)) := List.getElem?_eq_getElem (by omega)
  obtain ⟨ad, rfl, hc0⟩ := hcell 0 _ hu0
  obtain ⟨ad', he, hc⟩ := hcell i _ hu
  cases he
  have hB : L[i]? = some (L.getD i []) := by simp [List.getD, hi]
  have hb := hby i _ _ hu hB
  obtain ⟨b, off, spot⟩ := ad
  have hspot : spot = none := by simpa [Addr.add] using World.cell?_spot hc0
  subst hspot
  rw [addr_add] at hc
  obtain ⟨a', c', hs, _, _⟩ := hb.slice
  rw [hs] at hc hb
  exact ⟨b, off, a', c', rfl, World.block_lt_of_cell? w _ hc, hc, hb⟩
theorem IsRows.below {w w' : World} {v : Value} {L : List (List Nat)} (h : IsRows w v L) (hb : Below w.heap.size w w') : IsRows w' v L := by
  obtain ⟨a, cap, Vs, rfl, h1, h2, h3, h4, h5⟩ := h
  refine ⟨a, cap, Vs, rfl, h1, h2, h3, fun i u hu => ?_, fun i u B hu hB => (h5 i u B hu hB).below hb⟩
  obtain ⟨ad, rfl, hc⟩ := h4 i u hu
  exact ⟨ad, rfl, (hb.cell (p := ad.add i) (World.block_lt_of_cell? w _ hc)).trans hc⟩
theorem IsRows.drew {w : World} {v : Value} {L : List (List Nat)} (h : IsRows w v L) (n : Nat) : IsRows (w.drewN n) v L := h
theorem isRows_nil (w : World) : IsRows w (.slice none 0 0) [] := ⟨none, 0, [], rfl, Nat.le_refl _, by unfold maxLen; omega, rfl, by simp, by simp⟩
theorem IsRows.lt {w : World} {v : Value} {L : List (List Nat)} (h : IsRows w v L) : ∀ B ∈ L, ∀ x ∈ B, x < 256 := by
  obtain ⟨a, cap, Vs, rfl, h1, h2, h3, h4, h5⟩ := h
  intro B hB
  obtain ⟨i, hi, rfl⟩ := List.getElem_of_mem hB
  exact (h5 i Vs[i] L[i] (List.getElem?_eq_getElem (by omega)) (List.getElem?_eq_getElem hi)).1

def Elem (base : Nat) (w : World) (v : Value) (B : List Nat) : Prop :=
  IsBytes w v B ∧ ∀ a n c, v = .slice (some a) n c → 0 < B.length → a.block < base ∨ ∃ cs, Blk w a.block 5 cs
theorem Elem.below {base : Nat} {w w' : World} {v : Value} {B : List Nat} (h : Elem base w v B) (hb : Below w.heap.size w w') : Elem base w' v B :=
  ⟨h.1.below hb, fun a n c hv h0 => (h.2 a n c hv h0).imp id fun ⟨cs, hc⟩ => ⟨cs, hc.below hb hc.lt⟩⟩
theorem Elem.app {base n : Nat} {w w' : World} {v vo : Value} {B : List Nat} {xs : List Value} (h : Elem base w v B) (ho : w.ownsRow base 23 1 vo n xs) (hg : w.grownBy w' vo.ownBlock) : Elem base w' v B := by
  have hne : ∀ a n c, v = .slice (some a) n c → 0 < B.length → some a.block ≠ vo.ownBlock := by
    intro a m c hv h0 e
    have hl := (ho.lt a.block e.symm).1
    rcases h.2 a m c hv h0 with h' | ⟨cs, hc⟩
    · omega
    · obtain ⟨_, ⟨rfl, rfl⟩ | ⟨g, cap, cur, rfl, _, hh, _⟩⟩ := ho
      · cases e
      · have e2 : a.block = g := by simpa [Value.ownBlock] using e
        rw [e2] at hc
        have h5 : Blk w g 23 cur.toList := by unfold Blk; simpa using hh
        exact absurd (blk_ty hc h5) (by decide)
  refine ⟨h.1.row hg hne, fun a m c hv h0 => (h.2 a m c hv h0).imp id fun ⟨cs, hc⟩ => ⟨cs, hc.grown hg (hne a m c hv h0)⟩⟩
theorem elem_old {w0 w : World} {v : Value} {B : List Nat} (h : IsBytes w0 v B) (hb : Below w0.heap.size w0 w) : Elem w0.heap.size w v B := by
  refine ⟨h.below hb, fun a n c hv h0 => .inl ?_⟩
  obtain ⟨b, off, cap, hs, _, _, hl, _⟩ := h.cells h0
  rw [hv] at hs
  simp at hs
  rw [hs.1]
  exact hl
theorem elem_own {base base' : Nat} {w : World} {sp : Option Addr} {cap : Nat} {B : List Nat} (hx : ∀ x ∈ B, x < 256) (h : w.ownsRow base' 5 1 (.slice sp B.length cap) B.length (u8s B)) : Elem base w (.slice sp B.length cap) B := by
  refine ⟨isBytes_own hx h, fun a n c hv h0 => .inr ?_⟩
  obtain ⟨hl, ⟨he, _⟩ | ⟨g, cap', cur, he, _, hh, _⟩⟩ := h
  · rw [he] at hv; cases hv
  · rw [hv] at he
    simp at he
    rw [he.1]
    exact ⟨cur.toList, by unfold Blk; simpa using hh⟩

def OwnRows (base : Nat) (w : World) (v : Value) (L : List (List Nat)) : Prop :=
  ∃ Vs : List Value, w.ownsRow base 23 1 v L.length Vs ∧ ∀ (i : Nat) (u : Value) (B : List Nat), Vs[i]? = some u → L[i]? = some B → Elem base w u B
theorem ownRows_nil (base : Nat) (w : World) : OwnRows base w (.slice none 0 0) [] := ⟨[], World.ownsRow_nil _ _ _ _, by simp⟩
theorem OwnRows.below {base : Nat} {w w' : World} {v : Value} {L : List (List Nat)} (h : OwnRows base w v L) (hb : Below w.heap.size w w') : OwnRows base w' v L := by
  obtain ⟨Vs, h1, h2⟩ := h
  exact ⟨Vs, own_below h1 hb, fun i u B hu hB => (h2 i u B hu hB).below hb⟩
theorem OwnRows.isRows {base : Nat} {w : World} {v : Value} {L : List (List Nat)} (h : OwnRows base w v L) : IsRows w v L := by
  obtain ⟨Vs, ⟨hl, h1⟩, h2⟩ := h
  rw [Nat.mul_one] at hl
  rcases h1 with ⟨rfl, h0⟩ | ⟨g, cap, cur, rfl, _, hh, hn, hm, hs, ht⟩
  · have hL : L = [] := List.eq_nil_of_length_eq_zero h0
    subst hL
    exact isRows_nil w
  · refine ⟨_, cap, Vs, rfl, hn, hm, hl, fun i u hu => ⟨_, rfl, ?_⟩, fun i u B hu hB => (h2 i u B hu hB).1⟩
    have hi := (List.getElem?_eq_some_iff.1 hu).1
    have hadd : (⟨g, 0, none⟩ : Addr).add i = ⟨g, i, none⟩ := by unfold Addr.add; split <;> simp_all
    rw [hadd]
    rw [← ht, List.getElem?_take_of_lt (by omega)] at hu
    simp [World.cell?, hh]
    simpa using hu
theorem OwnRows.slice {base : Nat} {w : World} {v : Value} {L : List (List Nat)} (h : OwnRows base w v L) : ∃ sp cap, v = .slice sp L.length cap ∧ L.length ≤ cap ∧ cap ≤ maxLen := by
  obtain ⟨Vs, h1, _⟩ := h
  exact ownsRow_slice h1
theorem OwnRows.lt {base : Nat} {w : World} {v : Value} {L : List (List Nat)} (h : OwnRows base w v L) : ∀ k, v.ownBlock = some k → base ≤ k := by
  obtain ⟨Vs, h1, _⟩ := h
  exact own_lt h1
theorem wpList_append_str1 {w : World} {ops : Array Oper} {rest : List Oper} {o : Oper} {a : Act} {Q : Exit → Act → World → Prop} (hgd : o.guard = none) (s x : Operand)
    (ho : o.op = .call { callee := .builtin .append, args := #[s, x], argTypes := #[94, 94] })
    (base : Nat) (v : Value) (L : List (List Nat)) (hs : a.eval s = v) (hown : OwnRows base w v L)
    (B : List Nat) (a' : Option Addr) (n' c' : Nat) (hB : Elem base w (.slice a' n' c') B)
    (hx : a.eval x = .slice (some ⟨w.heap.size, 0, none⟩) 1 1)
    (hbytes : L.length + 1 ≤ 4294967296) (hbase : base ≤ w.heap.size)
    (h : ∀ v' w', OwnRows base w' v' (L ++ [B]) → (w.alloc (.cells #[.slice a' n' c'] 23 (0, 0))).grownBy w' v.ownBlock → wpList Tryz.prog ops Q rest (a.put o.dst v') w') :
    wpList Tryz.prog ops Q (o :: rest) a (w.alloc (.cells #[.slice a' n' c'] 23 (0, 0))) := by
  obtain ⟨i0, hi, hz0, hz1, hz2⟩ := info_parts infoR
  have hA : Below w.heap.size w (w.alloc (.cells #[.slice a' n' c'] 23 (0, 0))) := (Below.refl _ _).alloc (Nat.le_refl _) _
  obtain ⟨Vs, h1, h2⟩ := hown.below hA
  have hB1 := hB.below hA
  refine wpList_append_own _ hgd s x _ ho base 23 i0 (.slice none 0 0) 1 24 Tryz.underlying94 hi hz0 hz1 hz2 rfl (by decide) v L.length Vs hs h1 ⟨w.heap.size, 0, none⟩ 1 1 [.slice a' n' c'] hx rfl (cell_one_new _ _ _) (by intro u hu; simp at hu; subst hu; rfl) (by unfold maxLen; omega) (by omega) (by simp; omega) fun v' w' h3 h4 _ => h v' w' ?_ h4
  refine ⟨Vs ++ [.slice a' n' c'], by rw [List.length_append]; exact h3, fun i u B' hu hB' => ?_⟩
  have hVl : Vs.length = L.length := by have := h1.1; omega
  by_cases hi : i < L.length
  · rw [List.getElem?_append_left (by omega)] at hu hB'
    exact (h2 i u B' hu hB').app h1 h4
  · have hi2 : i = L.length := by
      have := (List.getElem?_eq_some_iff.1 hB').1
      simp at this
      omega
    subst hi2
    rw [List.getElem?_append_right (by omega)] at hu hB'
    rw [hVl] at hu
    simp at hu hB'
    subst hu hB'
    exact hB1.app h1 h4
end Go.Proofs.YtdjkkohckfndkaaGreatDoor

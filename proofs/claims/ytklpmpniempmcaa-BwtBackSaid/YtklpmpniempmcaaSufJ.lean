/- What is kept below a block: rows, texts. No walk. -/
import Derived.Test.YtklpmpniempmcaaSufF
set_option linter.unusedSimpArgs false
set_option linter.unusedVariables false
namespace Go.Proofs.Ytklpmpniempmcaa
open Go.RowKit Pl
theorem OwnI.belowB {w W : World} {g n cap Q : Nat} {L : List Int} (h : OwnI w g n cap L) (hb : Below Q w W) (hg : g < Q) : OwnI W g n cap L := by
  unfold OwnI at h ⊢
  obtain ⟨h0, ⟨he, hz⟩ | ⟨g', cap', cur, hv, hbs, hh, hrest⟩⟩ := h
  · simp at he
  · simp at hv
    obtain ⟨rfl, rfl⟩ := hv
    exact ⟨h0, .inr ⟨g, cap, cur, rfl, hbs, by rw [hb.block g hg]; exact hh, hrest⟩⟩
theorem isBytes_belowB {w W : World} {Q : Nat} {v : Value} {B : List Nat} (h : IsBytes w v B) (hb : Below Q w W) (hq : ∀ a n c, v = .slice (some a) n c → 0 < B.length → a.block < Q) : IsBytes W v B := by
  obtain ⟨hx, h | ⟨a, cap, rfl, h1, h2, hc⟩⟩ := h
  · exact ⟨hx, .inl h⟩
  · refine ⟨hx, .inr ⟨a, cap, rfl, h1, h2, fun i u hu => ?_⟩⟩
    have hl : i < B.length := by have := (List.getElem?_eq_some_iff.1 hu).1; rwa [u8s_length] at this
    have hblk : (a.add i).block = a.block := by unfold Addr.add; split <;> rfl
    rw [hb.cell (p := a.add i) (by rw [hblk]; exact hq a _ _ rfl (by omega))]
    exact hc i u hu
theorem isInts_belowB {w W : World} {Q : Nat} {v : Value} {L : List Int} (h : IsInts w v L) (hb : Below Q w W) (hq : ∀ a n c, v = .slice (some a) n c → 0 < L.length → a.block < Q) : IsInts W v L := by
  obtain h | ⟨a, cap, rfl, h1, h2, hc⟩ := h
  · exact .inl h
  · refine .inr ⟨a, cap, rfl, h1, h2, fun i u hu => ?_⟩
    have hl : i < L.length := by have := (List.getElem?_eq_some_iff.1 hu).1; rwa [i64s_length] at this
    have hblk : (a.add i).block = a.block := by unfold Addr.add; split <;> rfl
    rw [hb.cell (p := a.add i) (by rw [hblk]; exact hq a _ _ rfl (by omega))]
    exact hc i u hu
theorem LetB.belowB {w W : World} {B Q : Nat} {lv : Value} {T : List Nat} (h : LetB w B lv T) (hb : Below Q w W) (hB : B ≤ Q) : LetB W B lv T :=
  ⟨isBytes_belowB h.1 hb fun a n c e h0 => Nat.lt_of_lt_of_le (h.2 a n c e h0) hB, h.2⟩
theorem LetI.belowB {w W : World} {B Q : Nat} {lv : Value} {T : List Nat} (h : LetI w B lv T) (hb : Below Q w W) (hB : B ≤ Q) : LetI W B lv T :=
  ⟨isInts_belowB h.1 hb fun a n c e h0 => Nat.lt_of_lt_of_le (h.2 a n c e (by rw [nI_length] at h0; exact h0)) hB, h.2⟩
theorem TxB.belowB {w W : World} {B Q K rb sb : Nat} {lv : Value} {T : List Nat} (h : TxB w B T K lv rb sb) (hb : Below Q w W) (hB : B ≤ Q) : TxB W B T K lv rb sb := by
  have h1 := h.rb
  have h2 := h.sb
  exact ⟨h.ltr.belowB hb hB, h.rise.below hb (by omega), h.sts.below hb (by omega), h1, h2, Nat.le_trans h.top hb.size, h.kind, h.len, h.lenK⟩
theorem TxI.belowB {w W : World} {B Q K rb sb : Nat} {lv : Value} {T : List Nat} (h : TxI w B T K lv rb sb) (hb : Below Q w W) (hB : B ≤ Q) : TxI W B T K lv rb sb := by
  have h1 := h.rb
  have h2 := h.sb
  exact ⟨h.ltr.belowB hb hB, h.rise.below hb (by omega), h.sts.below hb (by omega), h1, h2, Nat.le_trans h.top hb.size, h.kind, h.len, h.lenK⟩
theorem gr_belowB {w W W' : World} {g Q : Nat} (h : Gr w W g) (hb : Below Q W W') (hQ : w.heap.size ≤ Q) : Gr w W' g :=
  ⟨hb.os.trans h.os, hb.tape.trans h.tape, hb.output.trans h.output, Nat.le_trans h.size hb.size, fun i hi hn => (hb.block i (by omega)).trans (h.block i hi hn)⟩
theorem below_of_grown {W W' : World} {row : Option Nat} {Q : Nat} (hg : W.grownBy W' row) (hr : ∀ r, row = some r → Q ≤ r) (hs : Q ≤ W.heap.size) : Below Q W W' := (Below.refl _ _).grown hg hs hr
namespace Pl
/-- the suffix that has place p -/
def inv (T C : List Nat) (p : Nat) : Nat := ((List.range T.length).find? fun j => pos T C j == p).getD 0
theorem inv_spec {T C : List Nat} (hC : IsCuts T C) {p : Nat} (hp : p < T.length) : inv T C p < T.length ∧ pos T C (inv T C p) = p := by
  obtain ⟨j, hj, hjp⟩ := pos_onto hC hp
  unfold inv
  cases hf : (List.range T.length).find? fun j => pos T C j == p with
  | none =>
    have := List.find?_eq_none.1 hf j (List.mem_range.2 hj)
    simp [hjp] at this
  | some y =>
    have h1 := List.mem_range.1 (List.mem_of_find?_eq_some hf)
    have h2 := List.find?_some hf
    exact ⟨h1, by simpa using h2⟩
theorem inv_at {T C : List Nat} (hC : IsCuts T C) {K k : Nat} {O E : List Int} (h : RInv T C K (k + 1) O E) (hk : k < T.length) : O.getD k 0 = (inv T C k : Int) := by
  obtain ⟨j, hj, hp, he⟩ := rise_at hC h hk
  obtain ⟨h1, h2⟩ := inv_spec hC hk
  rw [he, pos_inj hC hj h1 (by rw [hp, h2])]
end Pl
end Go.Proofs.Ytklpmpniempmcaa

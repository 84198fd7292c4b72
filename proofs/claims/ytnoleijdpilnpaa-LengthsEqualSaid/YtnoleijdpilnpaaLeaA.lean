/- folioref1.put: a contract. -/
import Derived.Test.YtnoleijdpilnpaaLenA
set_option linter.unusedSimpArgs false
set_option linter.unusedVariables false
namespace Go.Proofs.Ytnoleijdpilnpaa
open Go.RowKit Pl
namespace Pl
def SrtI (L : List Int) : Prop := L.Pairwise (· ≤ ·)
theorem hole_get (L : List Int) (k : Nat) (h : Int) (hk : k ≤ L.length) (i : Nat) : (L.take k ++ [h] ++ L.drop k).getD i 0 = if i < k then L.getD i 0 else if i = k then h else L.getD (i - 1) 0 := by
  have hl : (L.take k).length = k := by rw [List.length_take]; omega
  simp only [List.getD_eq_getElem?_getD]
  by_cases h1 : i < k
  · rw [if_pos h1, List.append_assoc, List.getElem?_append_left (by omega), List.getElem?_take_of_lt h1]
  · rw [if_neg h1]
    by_cases h2 : i = k
    · rw [if_pos h2, List.append_assoc, List.getElem?_append_right (by omega), hl, h2]
      simp
    · rw [if_neg h2, List.getElem?_append_right (by simp [hl]; omega)]
      simp only [List.length_append, hl, List.length_cons, List.length_nil]
      rw [List.getElem?_drop]
      congr 2
      omega
theorem hole_len (L : List Int) (k : Nat) (h : Int) (hk : k ≤ L.length) : (L.take k ++ [h] ++ L.drop k).length = L.length + 1 := by
  simp; omega
/-- the greater one goes one place on -/
theorem hole_down (L : List Int) (k : Nat) (h : Int) (hk : k + 1 ≤ L.length) : (L.take (k + 1) ++ [h] ++ L.drop (k + 1)).set (k + 1) (L.getD k 0) = L.take k ++ [L.getD k 0] ++ L.drop k := by
  have hl : (L.take (k + 1)).length = k + 1 := by rw [List.length_take]; omega
  rw [List.append_assoc, List.set_append_right _ _ (by omega), hl, Nat.sub_self]
  simp only [List.cons_append, List.nil_append, List.set_cons_zero]
  rw [List.take_succ_eq_append_getElem (by omega), List.drop_eq_getElem_cons (show k < L.length by omega)]
  simp [List.getD, show k < L.length by omega]
theorem hole_set (L : List Int) (k : Nat) (h x : Int) (hk : k ≤ L.length) : (L.take k ++ [h] ++ L.drop k).set k x = L.take k ++ [x] ++ L.drop k := by
  have hl : (L.take k).length = k := by rw [List.length_take]; omega
  rw [List.append_assoc, List.set_append_right _ _ (by omega), hl, Nat.sub_self]
  simp
theorem put_perm (L : List Int) (k : Nat) (x : Int) : (L.take k ++ [x] ++ L.drop k).Perm (x :: L) := by
  rw [List.append_assoc]
  have : (L.take k ++ ([x] ++ L.drop k)).Perm (x :: (L.take k ++ L.drop k)) := List.perm_middle
  rwa [List.take_append_drop] at this
theorem put_sorted {L : List Int} (h : SrtI L) (k : Nat) (x : Int) (hk : k ≤ L.length) (h1 : k = 0 ∨ L.getD (k - 1) 0 ≤ x) (h2 : ∀ y ∈ L.drop k, x < y) : SrtI (L.take k ++ [x] ++ L.drop k) := by
  have hd : SrtI (L.take k ++ L.drop k) := by rw [List.take_append_drop]; exact h
  have hp := List.pairwise_append.1 hd
  have hle : ∀ y ∈ L.take k, y ≤ x := by
    intro y hy
    rcases h1 with h1 | h1
    · subst h1; simp at hy
    · obtain ⟨i, hi, rfl⟩ := List.getElem_of_mem hy
      have hik : i < k := by rw [List.length_take] at hi; omega
      rw [List.getElem_take]
      have e : L.getD (k - 1) 0 = L[k - 1] := by simp [List.getD, show k - 1 < L.length by omega]
      rw [e] at h1
      rcases Nat.lt_or_eq_of_le (show i ≤ k - 1 by omega) with h3 | h3
      · exact Int.le_trans (List.pairwise_iff_getElem.1 h i (k - 1) (by omega) (by omega) h3) h1
      · simp only [h3]; exact h1
  rw [List.append_assoc]
  refine List.pairwise_append.2 ⟨hp.1, List.pairwise_cons.2 ⟨fun y hy => Int.le_of_lt (h2 y hy), hp.2.1⟩, fun a ha b hb => ?_⟩
  rcases List.mem_cons.1 hb with rfl | hb
  · exact hle a ha
  · exact hp.2.2 a ha b hb
end Pl
theorem own_set {w : World} {base g n cap i : Nat} {e : TypeId} {xs : List Value} (h : w.ownsRow base e 1 (.slice (some ⟨g, 0, none⟩) n cap) n xs) (hi : i < n) (v : Value) : (w.setCell ⟨g, i, none⟩ v).ownsRow base e 1 (.slice (some ⟨g, 0, none⟩) n cap) n (xs.set i v) := by
  obtain ⟨hl, ⟨he, h0⟩ | ⟨g', cap', cur, hv, hb, hh, hn, hm, hs, ht⟩⟩ := h
  · simp at he
  · simp at hv
    obtain ⟨rfl, rfl⟩ := hv
    refine ⟨by simpa using hl, .inr ⟨g, cap, cur.setIfInBounds i v, rfl, hb, ?_, hn, hm, by simpa using hs, ?_⟩⟩
    · simp only [World.setCell]
      rw [Array.getElem?_modify]
      simp [hh]
    · rw [← ht]
      simp [List.take_set]
theorem own_cellJ {w : World} {base g n cap : Nat} {e : TypeId} {L : List Int} (h : w.ownsRow base e 1 (.slice (some ⟨g, 0, none⟩) n cap) n (i64s L)) {i : Nat} (hi : i < n) : w.cell? ⟨g, i, none⟩ = some (.int .i64 (L.getD i 0)) ∧ w.frozen? ⟨g, i, none⟩ = false := by
  have hl : L.length = n := by have := h.1; rw [i64s_length] at this; omega
  refine ⟨by rw [h.cellAt i (by omega)]; exact i64s_get L i (by omega), ?_⟩
  obtain ⟨_, ⟨he, _⟩ | ⟨g', cap', cur, hv, _, hh, _⟩⟩ := h
  · simp at he
  · simp at hv
    obtain ⟨rfl, rfl⟩ := hv
    simp [World.frozen?, hh]
def PutPost (n base : Nat) (L : List Int) (x : Int) (w : World) (e : Ending) (w' : World) : Prop :=
  ∃ sp cp L', e = .returned (.slice sp (n + 1) cp) ∧ w'.ownsRow base 2 1 (.slice sp (n + 1) cp) (n + 1) (i64s L') ∧ L'.Perm (x :: L) ∧ SrtI L' ∧ Below base w w'
set_option maxHeartbeats 8000000 in
set_option maxRecDepth 100000 in
theorem put_any (base : Nat) (sp : Option Addr) (cp : Nat) (L : List Int) (x : Int) (w : World) (n : Nat) (hn : L.length = n) (hown : w.ownsRow base 2 1 (.slice sp n cp) n (i64s L)) (hs : SrtI L) (hbase : base ≤ w.heap.size) (hL : n ≤ 1000000) :
    Calls Try.prog 23 #[.slice sp n cp, .int .i64 x] w (PutPost n base L x w) := by
  have HO := Lib.hid hown
  have HS := Lib.hid hs
  have HN := Lib.hid hn
  have hn1 : L.length ≤ n := by omega
  have hn2 : n ≤ L.length := by omega
  clear hown hs hn
  go_enter Try.func23, Try.ntmps23
  go_wp2_with (at_builtin; refine wpList_append_j rfl (.tmp 8) (.tmp 10) rfl base (.slice sp n cp) n L x rfl HO.out _ rfl rfl (by omega) hbase ?_; intro v1 w1 hown1 hgr1; obtain ⟨g, cp1, rfl, hg1, hg2, hcp1, hcm1⟩ := own_open hown1 (by omega); have HO1 := Lib.hid hown1; have HB1 := Lib.hid (bel_append (Below.refl base w) _ HO.out hgr1 hbase); clear hown1 hgr1)
  have h0 : L.take n ++ [x] ++ L.drop n = L ++ [x] := by rw [List.take_of_length_le (by omega), List.drop_eq_nil_of_le (by omega)]; simp
  go_loopw [5] (fun y wr => ∃ (k : Nat) (h : Int), k ≤ n ∧ y = .int .i64 k ∧ wr.ownsRow base 2 1 (.slice (some ⟨g, 0, none⟩) (n + 1) cp1) (n + 1) (i64s (L.take k ++ [h] ++ L.drop k)) ∧ (∀ y ∈ L.drop k, x < y) ∧ Below base w wr) (fun y _ => (intOf y).toNat)
  case atStart => exact ⟨n, x, Nat.le_refl _, rfl, by rw [h0]; exact HO1.out, by rw [List.drop_eq_nil_of_le (by omega)]; simp, HB1.out⟩
  case round =>
    obtain ⟨k, h, hk, rfl, ho, hgt, hb⟩ := hrel
    have HO2 := Lib.hid ho
    have HGT := Lib.hid hgt
    have HB := Lib.hid hb
    clear HO1 HB1 h0 ho hgt hb
    by_cases hk0 : k = 0
    · subst hk0
      have hc := own_cellJ HO2.out (i := 0) (by omega)
      have hset := own_set HO2.out (i := 0) (by omega) (.int .i64 x)
      rw [i64s_set, hole_set L 0 h x (by omega)] at hset
      have hfin := put_sorted HS.out 0 x (by omega) (.inl rfl) HGT.out
      have HSET := Lib.hid hset
      have HFIN := Lib.hid hfin
      have hc1 := hc.1
      have hc2 := hc.2
      generalize (L.take 0 ++ [h] ++ L.drop 0).getD 0 0 = q at hc1
      clear hset hfin hc
      go_wp2
      go_ret
      exact ⟨some ⟨g, 0, none⟩, cp1, _, rfl, HSET.out, put_perm L 0 x, HFIN.out, HB.out.setCell hg1 _⟩
    · obtain ⟨k, rfl⟩ : ∃ k', k = k' + 1 := ⟨k - 1, by omega⟩
      have hc := own_cellJ HO2.out (i := k) (by omega)
      have hd := own_cellJ HO2.out (i := k + 1) (by omega)
      rw [hole_get L (k + 1) h (by omega), if_pos (by omega)] at hc
      rw [hole_get L (k + 1) h (by omega), if_neg (by omega), if_pos rfl] at hd
      have hset := own_set HO2.out (i := k + 1) (by omega) (.int .i64 (L.getD k 0))
      rw [i64s_set, hole_down L k h (by omega)] at hset
      have hset2 := own_set HO2.out (i := k + 1) (by omega) (.int .i64 x)
      rw [i64s_set, hole_set L (k + 1) h x (by omega)] at hset2
      have hdrop : x < L.getD k 0 → Hid (∀ y ∈ L.drop k, x < y) := fun hx y hy => by
        rw [drop_cons (show k < L.length by omega)] at hy
        rcases List.mem_cons.1 hy with rfl | hy
        · exact hx
        · exact HGT.out y hy
      have hfin : L.getD k 0 ≤ x → Hid (SrtI (L.take (k + 1) ++ [x] ++ L.drop (k + 1))) := fun hx => put_sorted HS.out (k + 1) x (by omega) (.inr (by simpa using hx)) HGT.out
      have HSET := Lib.hid hset
      have HSET2 := Lib.hid hset2
      have HD := Lib.hid hdrop
      have HF := Lib.hid hfin
      obtain ⟨hc1, hc2⟩ := hc
      obtain ⟨hd1, hd2⟩ := hd
      clear hset hset2 hdrop hfin
      generalize hz : L.getD k 0 = z at *
      have HZ := Lib.hid hz
      clear hz hk0
      by_cases hgt : x < z
      · go_wp2
        go_roundw
        case rel => exact ⟨k, z, by omega, by first | rfl | go_num, HSET.out, (HD.out hgt).out, HB.out.setCell hg1 _⟩
        case measure => simp [intOf]
      · go_wp2
        go_ret
        exact ⟨some ⟨g, 0, none⟩, cp1, _, rfl, HSET2.out, put_perm L (k + 1) x, (HF.out (by omega)).out, HB.out.setCell hg1 _⟩
end Go.Proofs.Ytnoleijdpilnpaa

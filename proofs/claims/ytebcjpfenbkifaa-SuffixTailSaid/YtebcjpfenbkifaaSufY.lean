/- SuffixTail, walked. -/
import Derived.Test.YtebcjpfenbkifaaSufW
import Derived.Test.YtebcjpfenbkifaaSaH
import Derived.Test.YtebcjpfenbkifaaCutB
set_option linter.unusedSimpArgs false
set_option linter.unusedVariables false
namespace Go.Proofs.Ytebcjpfenbkifaa
open Go.RowKit Pl
namespace Pl
theorem tail_last {D R : List Nat} (hD : ∀ x ∈ D, x < 255) (hR : IsSA (D ++ [255]) R) : R.getD D.length 0 = D.length := by
  have hl := sa_length hR
  rw [List.length_append, List.length_singleton] at hl
  obtain ⟨k, hk, hkv⟩ := sa_idx hR (i := D.length) (by simp)
  apply Classical.byContradiction
  intro hne
  have hj := sa_lt hR (k := D.length) (by omega)
  rw [List.length_append, List.length_singleton] at hj
  have hj' : R.getD D.length 0 < (D ++ [255]).length := by rw [List.length_append, List.length_singleton]; exact hj
  have hN' : D.length < (D ++ [255]).length := by rw [List.length_append, List.length_singleton]; omega
  have hjl : R.getD D.length 0 < D.length := by omega
  have h1 : (D ++ [255]).getD (R.getD D.length 0) 0 < 255 := by
    rw [List.getD_eq_getElem?_getD, List.getElem?_append_left hjl, List.getElem?_eq_getElem hjl]
    exact hD _ (List.getElem_mem hjl)
  have h2 : (D ++ [255]).getD D.length 0 = 255 := by simp [List.getD]
  have h3 : sufB (D ++ [255]) (R.getD D.length 0) (R.getD k 0) = true := by
    rw [hkv]
    exact suf_lt hj' hN' (by rw [h2]; exact h1)
  have h4 := sa_le hR (by omega) hk h3
  omega
end Pl
theorem own_setY {w : World} {base g n cap i : Nat} {e : TypeId} {xs : List Value} (h : w.ownsRow base e 1 (.slice (some ⟨g, 0, none⟩) n cap) n xs) (hi : i < n) (v : Value) : (w.setCell ⟨g, i, none⟩ v).ownsRow base e 1 (.slice (some ⟨g, 0, none⟩) n cap) n (xs.set i v) := by
  obtain ⟨hl, ⟨he, h0⟩ | ⟨g', cap', cur, hv, hb, hh, hn, hm, hs, ht⟩⟩ := h
  · simp at he
  · simp at hv
    obtain ⟨rfl, rfl⟩ := hv
    refine ⟨by simpa using hl, .inr ⟨g, cap, cur.setIfInBounds i v, rfl, hb, ?_, hn, hm, by simpa using hs, ?_⟩⟩
    · simp only [World.setCell]
      rw [Array.getElem?_modify]
      simp [hh]
    · rw [← ht]
      simp [List.take_set]
set_option maxHeartbeats 8000000 in
set_option maxRecDepth 100000 in
theorem suffixTail_walk (a : Option Addr) (len cap : Nat) (z : List Int) (w : World) (hr : IsRow .u8 w a len cap z) :
    Calls Try.prog 6 #[.slice a len cap] w fun e w' => e = .returned (.bool true) ∧ Below w.heap.size w w' := by
  obtain ⟨hV, hlen⟩ := isBytes_row hr
  have HV := Lib.hid hV
  clear hr hV
  go_enter Try.func6, Try.ntmps6
  go_wp2_with fail
  refine (begun_any _).mono ?_
  rintro e w1 ⟨rfl, hb1⟩
  have HV1 := Lib.hid (HV.out.below hb1)
  have HB1 := Lib.hid hb1
  clear hb1 HV
  go_wp2_with fail
  refine (short_any _ _ 200 _ HV1.out (by omega)).mono ?_
  rintro e w2 ⟨v2, rfl, hi2, rfl⟩
  obtain ⟨S, hS⟩ : ∃ S, S = (bytesZ z len).take 200 := ⟨_, rfl⟩
  have hSl : S.length ≤ 200 := by rw [hS, List.length_take]; omega
  rw [← hS] at hi2
  obtain ⟨n, hn⟩ : ∃ n, S.length = n := ⟨_, rfl⟩
  obtain ⟨a2, c2, hv2, hc2, hm2⟩ := hi2.slice
  rw [hn] at hv2 hSl hc2
  subst hv2
  have HS := Lib.hid hi2
  have HN := Lib.hid hn
  clear hi2 hS HV1 hlen hn
  have hsz0 := Nat.le_refl w1.heap.size
  go_wp2_with (at_builtin; refine wpList_append_bytes rfl _ (.tmp 12) rfl w1.heap.size (.slice none 0 0) 0 [] rfl (own_nil _ _) _ S rfl HS.out (by rw [HN.out]; omega) (Nat.le_refl _) ?_; intro v4 w4 hown hgr; rw [Nat.zero_add, List.nil_append, HN.out] at hown; have HO4 := Lib.hid hown; have HB4 : Hid (Below w1.heap.size w1 w4) := Lib.hid ⟨hgr.os, hgr.tape, hgr.output, hgr.size, fun k hk => hgr.block k hk (by simp [Value.ownBlock])⟩; have hsz4 := HB4.out.size; obtain ⟨sp4, cp4, rfl, _, _⟩ := ownsRow_slice hown; clear hown hgr)
  have HS0 : Hid (∀ x ∈ S, x < 256) := Lib.hid HS.out.1
  clear HS
  go_loopw [5] (fun y wr => ∃ (i : Nat) (D : List Nat), i ≤ n ∧ D.length = n ∧ y = .int .i64 i ∧ (∀ x ∈ D, x < 256) ∧ (∀ q, q < i → D.getD q 0 < 255) ∧ wr.ownsRow w1.heap.size 5 1 (.slice sp4 n cp4) n (u8s D) ∧ Below w1.heap.size w1 wr) (fun y _ => n - (intOf y).toNat)
  case atStart => exact ⟨0, S, by omega, HN.out, rfl, HS0.out, fun q hq => by omega, HO4.out, HB4.out⟩
  case round =>
    obtain ⟨i, D, hi, hDl, rfl, hD, hq, ho, hb⟩ := hrel
    have HDL := Lib.hid hDl
    have HD := Lib.hid hD
    have HQ := Lib.hid hq
    have HO := Lib.hid ho
    have HB := Lib.hid hb
    clear hDl hD hq ho hb HO4 HB4 HS0 HN
    by_cases hlt : i < n
    · obtain ⟨g, c, hge, hg1, hg2, _, _⟩ := own_open HO.out (by omega)
      simp only [Value.slice.injEq] at hge
      obtain ⟨rfl, -, rfl⟩ := hge
      have c0 := own_cell HO.out hlt
      have f0 := HO.out.frozenAt i
      obtain ⟨x, hx⟩ : ∃ x, x = D.getD i 0 := ⟨_, rfl⟩
      have hx6 : x < 256 := by
        rw [hx, List.getD_eq_getElem?_getD, List.getElem?_eq_getElem (by rw [HDL.out]; exact hlt)]
        exact HD.out _ (List.getElem_mem _)
      have HX := Lib.hid hx
      rw [← hx] at c0
      have HSET : Hid ((wr.setCell ⟨g, i, none⟩ (.int .u8 254)).ownsRow w1.heap.size 5 1 (.slice (some ⟨g, 0, none⟩) n cp4) n (u8s (D.set i 254))) := Lib.hid (by have := own_setY HO.out hlt (.int .u8 254); rw [show (Value.int .u8 254) = .int .u8 ((254 : Nat) : Int) from rfl, u8s_set] at this; exact this)
      have HBS : Hid (Below w1.heap.size w1 (wr.setCell ⟨g, i, none⟩ (.int .u8 254))) := Lib.hid (HB.out.setCell hg1 _)
      have HSL : Hid ((D.set i 254).length = n) := Lib.hid (by rw [List.length_set]; exact HDL.out)
      have HSM : Hid (∀ y ∈ D.set i 254, y < 256) := Lib.hid fun y hy => by
        rcases List.mem_or_eq_of_mem_set hy with h | h
        · exact HD.out y h
        · omega
      have HSQ : Hid (∀ q, q < i + 1 → (D.set i 254).getD q 0 < 255) := Lib.hid fun q hq => by
        by_cases e : q = i
        · subst e; rw [List.getD_eq_getElem?_getD, List.getElem?_set_self (by rw [HDL.out]; exact hlt)]; simp
        · rw [List.getD_eq_getElem?_getD, List.getElem?_set_ne (by omega), ← List.getD_eq_getElem?_getD]; exact HQ.out q (by omega)
      clear hx
      by_cases h5 : x = 255
      · have hbx : ((x : Int) == 255) = true := beq_t (by omega)
        go_wp2_with fail
        refine ⟨⟨i + 1, _, by omega, HSL.out, by first | rfl | go_num, HSM.out, HSQ.out, HSET.out, HBS.out⟩, ?_⟩
        simp only [intOf_i]; omega
      · have hbx : ((x : Int) == 255) = false := beq_f (by omega)
        go_wp2_with fail
        refine ⟨⟨i + 1, D, by omega, HDL.out, by first | rfl | go_num, HD.out, fun q hq => ?_, HO.out, HB.out⟩, ?_⟩
        · by_cases e : q = i
          · subst e; rw [← HX.out]; omega
          · exact HQ.out q (by omega)
        · simp only [intOf_i]; omega
    · obtain rfl : i = n := by omega
      have HD5 : Hid (∀ x ∈ D, x < 255) := Lib.hid fun x hx => by
        obtain ⟨q, hq, rfl⟩ := List.mem_iff_getElem.1 hx
        rw [← getD_get D 0 hq]
        exact HQ.out q (by rw [← HDL.out]; exact hq)
      have hIb := isBytes_ownS (base := w1.heap.size) (B := D) (sp := sp4) (cap := cp4) (w := wr) (n := i) HD.out HDL.out.symm (by rw [HDL.out]; exact HO.out)
      have HI := Lib.hid hIb
      have hszr := HB.out.size
      clear hIb HQ HO
      go_wp2_with (first
        | (at_builtin; refine wpList_append_bytes rfl _ (.tmp 28) rfl w1.heap.size (.slice none 0 0) 0 [] rfl (own_nil _ _) _ D rfl HI.out (by rw [HDL.out]; omega) hszr ?_; intro v6 w6 hown hgr; rw [Nat.zero_add, List.nil_append, HDL.out] at hown; have HO6 := Lib.hid hown; have HB6 := Lib.hid (HB.out.grown hgr hszr (by simp [Value.ownBlock])); have hsz6 := HB6.out.size; obtain ⟨sp6, cp6, rfl, _, _⟩ := ownsRow_slice hown; clear hown hgr)
        | (at_builtin; refine wpList_append_byte_at rfl (.tmp 29) (.tmp 30) rfl w1.heap.size _ i _ 255 rfl HO6.out _ rfl rfl (by omega) hsz6 ?_; intro v7 w7 hown hgr; rw [show (Value.int .u8 255) = .int .u8 ((255 : Nat) : Int) from rfl, ← u8s_snoc] at hown; have HO7 := Lib.hid hown; have HB7 := Lib.hid (bel_append HB6.out _ HO6.out hgr hsz6); have hsz7 := HB7.out.size; obtain ⟨sp7, cp7, rfl, _, _⟩ := ownsRow_slice hown; clear hown hgr))
      have hl7 : (D ++ [255]).length = i + 1 := by simp [HDL.out]
      have HI7 : Hid (IsBytes w7 (.slice sp7 (i + 1) cp7) (D ++ [255])) := Lib.hid (isBytes_ownS (base := w1.heap.size) (fun y hy => by
        rcases List.mem_append.1 hy with h | h
        · exact HD.out y h
        · simp at h; omega) hl7.symm (by rw [hl7]; exact HO7.out))
      refine (sort_s (n := i + 1) HI7.out (by omega) hl7).mono ?_
      rintro e w8 ⟨g8, R, rfl, hR, hRl, hi8, hb8⟩
      have htl := tail_last HD5.out hR
      rw [HDL.out] at htl
      obtain ⟨b1, o1, q1, e1, -, -, -, hx1⟩ := hi8.cells (by rw [nI_length, hRl]; omega)
      simp only [Value.slice.injEq, Option.some.injEq, Addr.mk.injEq, and_true] at e1
      obtain ⟨⟨rfl, rfl⟩, -⟩ := e1
      have d1 := hx1 i (by rw [nI_length, hRl]; omega)
      rw [nI_get, htl, Nat.zero_add] at d1
      have HB8 := Lib.hid (HB1.out.trans ((HB7.out.trans (hb8.mono HB7.out.size)).mono HB1.out.size))
      have hbb : (((i + 1 : Nat) : Int) == (i : Int) + 1) = true := beq_t (by omega)
      have hbc : ((i : Int) == (i : Int)) = true := beq_t rfl
      clear hR hRl hi8 hb8 htl hx1 HI7 HO7 HO6 HI HB HB6 HB7
      go_wp2_with fail
      go_ret
      exact ⟨rfl, HB8.out⟩
end Go.Proofs.Ytebcjpfenbkifaa

/- The law's helpers: Eq, EqAll. -/
import Derived.Test.YtcgleephodfelaaDoorRcH
set_option linter.unusedSimpArgs false
set_option linter.unusedVariables false
set_option maxRecDepth 100000
namespace Go.Proofs.YtcgleephodfelaaDoor.S14
open Go.RowKit S2.Pl S3 S3.Pl
attribute [local go_sem ↓] loadR_eq storeR_eq buildR_eq sliceU8_eq
set_option maxHeartbeats 4000000 in
theorem eq_same (r : RT) (w : World) : Calls Tryd.prog 13 #[.agg #[.int .i64 r.kind, .int .i64 r.seq, .string r.key, .string r.val], .agg #[.int .i64 r.kind, .int .i64 r.seq, .string r.key, .string r.val]] w fun e w' => e = .returned (.bool true) ∧ Hid (Below w.heap.size w w') := by
  obtain ⟨k, s, key, val⟩ := r
  have hB : Below w.heap.size w ((w.alloc (.cells #[.int .i64 k, .int .i64 s, .string key, .string val] 23)).alloc (.cells #[.int .i64 k, .int .i64 s, .string key, .string val] 23)) := ((Below.refl _ _).alloc (Nat.le_refl _) _).alloc (by simp) _
  have HB := Lib.hid hB
  have e1 : (k == k) = true := beq_t rfl
  have e2 : (s == s) = true := beq_t rfl
  have e3 : (key.toList == key.toList) = true := by simp
  have e4 : (val.toList == val.toList) = true := by simp
  clear hB
  go_enter Tryd.func13, Tryd.ntmps13
  go_wp2
  go_ret
  exact ⟨rfl, HB⟩
theorem RecsAt.load {w W : World} {a : Option Addr} {n cap : Nat} {L : List RT} (h : RecsAt w (.slice a n cap) L) {i : Nat} (hi : i < L.length) : ∃ b off, a = some ⟨b, off, none⟩ ∧ ∀ W, From w W → (loadR (.pointer (some ⟨b, off + i * 4, none⟩))).run Tryd.prog W = .ok (.agg #[.int .i64 (L.getD i zR).kind, .int .i64 (L.getD i zR).seq, .string (L.getD i zR).key, .string (L.getD i zR).val]) W := by
  obtain ⟨a', cap', he, h1, h2, h3⟩ := h
  simp at he
  obtain ⟨rfl, rfl, rfl⟩ := he
  obtain ⟨b, off, rfl, hb, hc⟩ := h3 (by omega)
  exact ⟨b, off, rfl, fun W hW => run_loadR (cs := recL (L.getD i zR)) rfl fun j u hj => (Below.cell (p := ⟨b, _, none⟩) hW hb).trans (hc i hi j u hj)⟩
set_option maxHeartbeats 8000000 in
theorem eqAll_same (v v2 : Value) (L : List RT) (w : World) (h : RecsAt w v L) (h2 : RecsAt w v2 L) : Calls Tryd.prog 17 #[v, v2] w fun e w' => e = .returned (.bool true) ∧ Hid (Below w.heap.size w w') := by
  have HA := Lib.hid h
  have HC := Lib.hid h2
  obtain ⟨a, cap, rfl, hc1, hm1, _⟩ := h
  obtain ⟨a2, cap2, rfl, hc2, hm2, _⟩ := h2
  unfold maxLen at hm1 hm2
  have hne : ((L.length : Int) != (L.length : Int)) = false := bne_f rfl
  go_enter Tryd.func17, Tryd.ntmps17
  go_wp2_with fail
  go_loopw [5] (fun x wr => ∃ i : Nat, i ≤ L.length ∧ x = .int .i64 i ∧ Below w.heap.size w wr) (fun x _ => L.length - (intOf x).toNat)
  case atStart => exact ⟨0, by omega, rfl, Below.refl _ _⟩
  case round =>
    obtain ⟨i, hi, rfl, hb⟩ := hrel
    have HB := Lib.hid hb
    clear hb
    by_cases hlt : i < L.length
    · obtain ⟨b, off, rfl, hld1⟩ := (HA.out.below HB.out).load (W := wr) hlt
      obtain ⟨b2, off2, rfl, hld2⟩ := (HC.out.below HB.out).load (W := wr) hlt
      have hi1 : (i : Int) < (L.length : Int) := by omega
      obtain ⟨r, hr⟩ : ∃ r, L.getD i zR = r := ⟨_, rfl⟩
      rw [hr] at hld1 hld2
      clear hr
      go_wp2_with fail
      refine wp_region_noPanic ?_
      have hHeld : From wr wr.drew := (Below.refl _ _).drew
      refine wpAnyH_start (n := 10) (l := #[false, false, false, false, false, false, false, false, false, false]) (S := From wr) (by kernel_rfl) (hHeld) (by kernel_rfl) (by kernel_rfl) ?_
      refine wpAnyH_take (i := 0) (oi := _) (v := ?_) rfl (by kernel_rfl) (by kernel_rfl) (by kernel_rfl) (fun _ _ _ h => h) (Or.inl ⟨by rfl, ?_⟩) (by assumption) ?_
      rotate_left
      · intro wq hSw; go_simp; try with_reducible rfl
      simp only [Act.put, List.setIfInBounds_toArray, List.set_cons_zero, List.set_cons_succ, List.getElem_toArray, List.getElem_cons_zero, List.getElem_cons_succ]
      refine wpAnyH_take (i := 1) (oi := _) (v := ?_) rfl (by kernel_rfl) (by kernel_rfl) (by kernel_rfl) (fun _ _ _ h => h) (Or.inl ⟨by rfl, ?_⟩) (by assumption) ?_
      rotate_left
      · intro wq hSw; go_simp; try with_reducible rfl
      simp only [Act.put, List.setIfInBounds_toArray, List.set_cons_zero, List.set_cons_succ, List.getElem_toArray, List.getElem_cons_zero, List.getElem_cons_succ]
      refine wpAnyH_take (i := 2) (oi := _) (v := ?_) rfl (by kernel_rfl) (by kernel_rfl) (by kernel_rfl) (fun _ _ _ h => h) (Or.inl ⟨by rfl, ?_⟩) (by assumption) ?_
      rotate_left
      · intro wq hSw; go_simp; try with_reducible rfl
      simp only [Act.put, List.setIfInBounds_toArray, List.set_cons_zero, List.set_cons_succ, List.getElem_toArray, List.getElem_cons_zero, List.getElem_cons_succ]
      refine wpAnyH_take (i := 3) (oi := _) (v := ?_) rfl (by kernel_rfl) (by kernel_rfl) (by kernel_rfl) (fun _ _ _ h => h) (Or.inl ⟨by rfl, ?_⟩) (by assumption) ?_
      rotate_left
      · intro wq hSw; go_simp; try with_reducible rfl
      simp only [Act.put, List.setIfInBounds_toArray, List.set_cons_zero, List.set_cons_succ, List.getElem_toArray, List.getElem_cons_zero, List.getElem_cons_succ]
      refine wpAnyH_take (i := 4) (oi := _) (v := ?_) rfl (by kernel_rfl) (by kernel_rfl) (by kernel_rfl) (fun _ _ _ h => h) (Or.inl ⟨by rfl, ?_⟩) (by assumption) ?_
      rotate_left
      · intro wq hSw; go_simp; try with_reducible rfl
      simp only [Act.put, List.setIfInBounds_toArray, List.set_cons_zero, List.set_cons_succ, List.getElem_toArray, List.getElem_cons_zero, List.getElem_cons_succ]
      refine wpAnyH_take (i := 5) (oi := _) (v := ?_) rfl (by kernel_rfl) (by kernel_rfl) (by kernel_rfl) (fun _ _ _ h => h) (Or.inl ⟨by rfl, ?_⟩) (by assumption) ?_
      rotate_left
      · intro wq hSw; go_simp; try with_reducible rfl
      simp only [Act.put, List.setIfInBounds_toArray, List.set_cons_zero, List.set_cons_succ, List.getElem_toArray, List.getElem_cons_zero, List.getElem_cons_succ]
      refine wpAnyH_take (i := 6) (oi := _) (v := ?_) rfl (by kernel_rfl) (by kernel_rfl) (by kernel_rfl) (fun _ _ _ h => h) (Or.inl ⟨by rfl, ?_⟩) (by assumption) ?_
      rotate_left
      · intro wq hSw; go_simp; try with_reducible rfl
      simp only [Act.put, List.setIfInBounds_toArray, List.set_cons_zero, List.set_cons_succ, List.getElem_toArray, List.getElem_cons_zero, List.getElem_cons_succ]
      refine wpAnyH_take (i := 7) (oi := _) (v := ?_) rfl (by kernel_rfl) (by kernel_rfl) (by kernel_rfl) (fun _ _ _ h => h) (Or.inl ⟨by rfl, ?_⟩) (by assumption) ?_
      rotate_left
      · intro wq hSw; go_simp; try with_reducible rfl
      simp only [Act.put, List.setIfInBounds_toArray, List.set_cons_zero, List.set_cons_succ, List.getElem_toArray, List.getElem_cons_zero, List.getElem_cons_succ]
      refine wpAnyH_ready (rs := [8]) (by kernel_rfl) (by simp) ?_
      refine AllReadyH.cons (o := _) rfl (fun K hK => ?_) AllReadyH.nil
      simp only [List.getElem_toArray, List.getElem_cons_zero, List.getElem_cons_succ]
      go_simp
      refine (eq_same r _).mono ?_
      rintro e w2 ⟨rfl, hb2⟩
      have HE := Lib.hid (From.trans hHeld hb2.out)
      refine hK.out _ _ (HE.out) (fun _ => ?_)
      clear hK K hHeld hb2 hld1 hld2
      have hHeld := HE.out
      simp only [Act.put, List.setIfInBounds_toArray, List.set_cons_zero, List.set_cons_succ, List.getElem_toArray, List.getElem_cons_zero, List.getElem_cons_succ]
      refine wpAnyH_take (i := 9) (oi := _) (v := ?_) rfl (by kernel_rfl) (by kernel_rfl) (by kernel_rfl) (fun _ _ _ h => h) (Or.inl ⟨by rfl, ?_⟩) (by assumption) ?_
      rotate_left
      · intro wq hSw; go_simp; try with_reducible rfl
      simp only [Act.put, List.setIfInBounds_toArray, List.set_cons_zero, List.set_cons_succ, List.getElem_toArray, List.getElem_cons_zero, List.getElem_cons_succ]
      refine wpAnyH_done (by kernel_rfl) ?_ _
      refine NoPanic.normal ?_
      go_wp2_with fail
      go_roundw
      case rel => exact ⟨i + 1, by omega, by go_num, HB.out.trans (HE.out.mono HB.out.size)⟩
      case measure => simp [intOf]; omega
    · obtain rfl : i = L.length := by omega
      go_wp2_with fail
      go_ret
      exact ⟨rfl, HB⟩
end Go.Proofs.YtcgleephodfelaaDoor.S14

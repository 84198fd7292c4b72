/- Texts put together: RawT. -/
import Derived.Test.YtdjkkohckfndkaaGreatDoorEg32
import Derived.Test.YtdjkkohckfndkaaGreatDoorEg35
import Derived.Test.YtdjkkohckfndkaaGreatDoorEg48
set_option linter.unusedSimpArgs false
set_option linter.unusedVariables false
set_option maxRecDepth 100000
namespace Go.Proofs.YtdjkkohckfndkaaGreatDoor.S15
open Go.RowKit S13 S13.Dk S14 S3 S2.Pl S3.Pl
attribute [local go_sem ↓] loadR_eq storeR_eq buildR_eq sliceU8_eq
attribute [local go_sem] run_buildR run_buildR4
set_option maxHeartbeats 32000000 in
theorem same_any {w0 w : World} {p q : Nat} {S : St} {n : ByteArray} {G : List RT} {v : Value} (T : List Nat) (h : InS w0 p S q n (endL G G.length) w) (hT : Tab w) (hn : n.size ≤ maxLen) (hG : ∀ r ∈ G, chk r = 0) (hN : G.length ≤ 100000) (hr : readF S n.data.toList = some (encs G ++ T)) (hv : RecsAt w v G) :
    Calls Tryz.prog 19 #[pP q, v] w fun e w' => e = .returned (.bool true) ∧ Below w.heap.size w w' := by
  have HH := Lib.hid h
  have HT := Lib.hid hT
  have HN := Lib.hid hn
  have HG := Lib.hid hG
  have HR := Lib.hid hr
  obtain ⟨a, cap, rfl, hcap, hmax, _⟩ := (show ∃ a cap, v = .slice a G.length cap ∧ G.length ≤ cap ∧ cap ≤ maxLen ∧ True by obtain ⟨a, cap, he, h1, h2, _⟩ := hv; exact ⟨a, cap, he, h1, h2, trivial⟩)
  have HV := Lib.hid hv
  obtain ⟨N, hNN⟩ : ∃ N, G.length = N := ⟨_, rfl⟩
  have HNN := Lib.hid hNN
  have hln := len_held h
  rw [hNN] at hN hln ⊢
  have q0 : ((N : Int) != (N : Int)) = false := bne_f rfl
  have HS : Hid (∀ i, i ≤ N → (encs (G.take i)).length ≤ 4143 * i) := Lib.hid fun i hi => by
    have := encs_len (G := G.take i) (fun r hr => hG r (List.mem_of_mem_take hr))
    rw [List.length_take, Nat.min_eq_left (by omega)] at this
    exact this
  clear h hT hn hG hr hv hNN
  go_enter Tryz.func19, Tryz.ntmps19
  go_wp2_with fail
  refine hln.mono ?_
  rintro e w1 ⟨rfl, rfl⟩
  clear hln
  go_wp2_with fail
  go_loopw [5, 6] (fun x y wr => ∃ i : Nat, i ≤ N ∧ y = .int .i64 i ∧ ∃ m : Nat, x = .int .i64 m ∧ Hid (m = (encs (G.take i)).length) ∧ Hid (Below w1.heap.size w1 wr)) (fun _ y _ => N - (intOf y).toNat)
  case atStart => exact ⟨0, by omega, rfl, 0, rfl, Lib.hid (by simp [encs]), Lib.hid (Below.refl _ _)⟩
  case round =>
    obtain ⟨i, hi, rfl, m, rfl, HM, HB⟩ := hrel
    by_cases hlt : i < N
    · have hltG : i < G.length := by rw [HNN.out]; exact hlt
      have hIr := HH.out.below HB.out
      have hg := get_held i T hIr (HT.out.below HB.out) hltG HN.out HG.out HR.out
      obtain ⟨b, off, rfl, hld⟩ := HV.out.load (W := wr) hltG
      obtain ⟨r, hr⟩ : ∃ r, G.getD i zR = r := ⟨_, rfl⟩
      have hch : chk r = 0 := by rw [← hr]; exact HG.out _ (by simp [List.getD, hltG])
      obtain ⟨k1, k2, k3, k4⟩ := chk_ok hch
      have htk := encs_step HG.out hltG
      rw [hr] at hld hg htk
      have HLD := Lib.hid hld
      unfold GetPost errV at hg
      obtain ⟨X, hX⟩ : ∃ X, (enc r).length = X := ⟨_, rfl⟩
      have hel := enc_len r
      rw [hX] at hel
      have hms := HS.out i hi
      rw [← HM.out] at hms
      obtain ⟨m2, hm2⟩ : ∃ m2, m + X = m2 := ⟨_, rfl⟩
      have HST : Hid (m2 = (encs (G.take (i + 1))).length) := Lib.hid (by rw [htk, List.length_append, ← HM.out, hX, hm2])
      have hm2b : m2 ≤ 5000000000 := by omega
      have hmI : (m : Int) + (X : Int) = (m2 : Int) := by omega
      have hmw : IntKind.i64.wrap ((m : Int) + (X : Int)) = (m2 : Int) := by rw [hmI, IntKind.wrap_i64]; omega
      have hmw' : IntKind.i64.wrap (m2 : Int) = (m2 : Int) := by rw [IntKind.wrap_i64]; omega
      have HX := Lib.hid hX
      clear hIr hld hltG hr hch htk hX hms hm2 k1 k4
      go_wp2_with fail
      refine hg.mono ?_
      rintro e w2 ⟨rfl, hb2⟩
      obtain ⟨w3, hst3, HR3, HG3⟩ := lay_rec r w2
      have hb3 : Below wr.heap.size wr w3 := hb2.out.trans (HG3.out.mono hb2.out.size)
      have HB3 := Lib.hid (HB.out.trans (hb3.mono HB.out.size))
      have HL1 : Hid (∀ W, From w3 W → (loadR (.pointer (some ⟨w2.heap.size, 0, none⟩))).run Tryz.prog W = .ok (.agg #[.int .i64 r.kind, .int .i64 r.seq, .string r.key, .string r.val]) W) := Lib.hid fun W hW => run_loadR_blk (HR3.out.below hW HR3.out.lt)
      have HL2 : Hid (∀ W, From w3 W → (loadR (.pointer (some ⟨b, off + i * 4, none⟩))).run Tryz.prog W = .ok (.agg #[.int .i64 r.kind, .int .i64 r.seq, .string r.key, .string r.val]) W) := Lib.hid fun W hW => HLD.out W (From.trans HB3.out hW)
      clear hg hb2 hb3
      go_wp2_with fail
      have hHeld : From w3 w3.drew := (Below.refl _ _).drew
      refine wp_region_noPanic ?_
      refine wpAnyH_start (n := 11) (l := #[false, false, false, false, false, false, false, false, false, false, false]) (S := From w3) (by kernel_rfl) (hHeld) (by kernel_rfl) (by kernel_rfl) ?_
      refine wpAnyH_take (i := 0) (oi := _) (v := ?_) rfl (by kernel_rfl) (by kernel_rfl) (by kernel_rfl) (fun _ _ _ h => h) (Or.inl ⟨by rfl, ?_⟩) (by assumption) ?_
      rotate_left
      · intro wq hSw; go_simp; try with_reducible rfl
      simp only [Act.put, List.setIfInBounds_toArray, List.set_cons_zero, List.set_cons_succ, List.getElem_toArray, List.getElem_cons_zero, List.getElem_cons_succ]
      refine wpAnyH_take (i := 1) (oi := _) (v := ?_) rfl (by kernel_rfl) (by kernel_rfl) (by kernel_rfl) (fun _ _ _ h => h) (Or.inl ⟨by rfl, ?_⟩) (by assumption) ?_
      rotate_left
      · intro wq hSw; go_simp; try with_reducible rfl
      simp only [Act.put, List.setIfInBounds_toArray, List.set_cons_zero, List.set_cons_succ, List.getElem_toArray, List.getElem_cons_zero, List.getElem_cons_succ]
      refine wpAnyH_take (i := 2) (oi := _) (v := ?_) rfl (by kernel_rfl) (by kernel_rfl) (by kernel_rfl) (fun _ _ _ h => h) (Or.inl ⟨by rfl, ?_⟩) (by assumption) ?_
      rotate_left
      · intro wq hSw; go_simp; try with_reducible rfl
      simp only [Act.put, List.setIfInBounds_toArray, List.set_cons_zero, List.set_cons_succ, List.getElem_toArray, List.getElem_cons_zero, List.getElem_cons_succ]
      refine wpAnyH_take (i := 3) (oi := _) (v := ?_) rfl (by kernel_rfl) (by kernel_rfl) (by kernel_rfl) (fun _ _ _ h => h) (Or.inl ⟨by rfl, ?_⟩) (by assumption) ?_
      rotate_left
      · intro wq hSw; have d0 := HL1.out wq hSw; go_simp; try with_reducible rfl
      simp only [Act.put, List.setIfInBounds_toArray, List.set_cons_zero, List.set_cons_succ, List.getElem_toArray, List.getElem_cons_zero, List.getElem_cons_succ]
      refine wpAnyH_take (i := 4) (oi := _) (v := ?_) rfl (by kernel_rfl) (by kernel_rfl) (by kernel_rfl) (fun _ _ _ h => h) (Or.inl ⟨by rfl, ?_⟩) (by assumption) ?_
      rotate_left
      · intro wq hSw; go_simp; try with_reducible rfl
      simp only [Act.put, List.setIfInBounds_toArray, List.set_cons_zero, List.set_cons_succ, List.getElem_toArray, List.getElem_cons_zero, List.getElem_cons_succ]
      refine wpAnyH_take (i := 5) (oi := _) (v := ?_) rfl (by kernel_rfl) (by kernel_rfl) (by kernel_rfl) (fun _ _ _ h => h) (Or.inl ⟨by rfl, ?_⟩) (by assumption) ?_
      rotate_left
      · intro wq hSw; go_simp; try with_reducible rfl
      simp only [Act.put, List.setIfInBounds_toArray, List.set_cons_zero, List.set_cons_succ, List.getElem_toArray, List.getElem_cons_zero, List.getElem_cons_succ]
      refine wpAnyH_take (i := 6) (oi := _) (v := ?_) rfl (by kernel_rfl) (by kernel_rfl) (by kernel_rfl) (fun _ _ _ h => h) (Or.inl ⟨by rfl, ?_⟩) (by assumption) ?_
      rotate_left
      · intro wq hSw; go_simp; try with_reducible rfl
      simp only [Act.put, List.setIfInBounds_toArray, List.set_cons_zero, List.set_cons_succ, List.getElem_toArray, List.getElem_cons_zero, List.getElem_cons_succ]
      refine wpAnyH_take (i := 7) (oi := _) (v := ?_) rfl (by kernel_rfl) (by kernel_rfl) (by kernel_rfl) (fun _ _ _ h => h) (Or.inl ⟨by rfl, ?_⟩) (by assumption) ?_
      rotate_left
      · intro wq hSw; have d0 := HL2.out wq hSw; go_simp; try with_reducible rfl
      simp only [Act.put, List.setIfInBounds_toArray, List.set_cons_zero, List.set_cons_succ, List.getElem_toArray, List.getElem_cons_zero, List.getElem_cons_succ]
      refine wpAnyH_ready (rs := [8]) (by kernel_rfl) (by simp) ?_
      refine AllReadyH.cons (o := _) rfl (fun K hK => ?_) AllReadyH.nil
      simp only [List.getElem_toArray, List.getElem_cons_zero, List.getElem_cons_succ]
      go_simp
      refine (eq_same r _).mono ?_; rintro e w4 ⟨rfl, hb4⟩; have hE4 := From.trans hHeld hb4.out
      refine hK.out _ _ (hE4) (fun _ => ?_)
      clear hK K
      have HE4 := Lib.hid hE4
      refine wpAnyH_mono (S' := From w4) (fun w' h => From.trans HE4.out h) ?_
      have hHeld := From.refl w4
      clear hb4 hE4
      simp only [Act.put, List.setIfInBounds_toArray, List.set_cons_zero, List.set_cons_succ, List.getElem_toArray, List.getElem_cons_zero, List.getElem_cons_succ]
      refine wpAnyH_take (i := 9) (oi := _) (v := ?_) rfl (by kernel_rfl) (by kernel_rfl) (by kernel_rfl) (fun _ _ _ h => h) (Or.inl ⟨by rfl, ?_⟩) (by assumption) ?_
      rotate_left
      · intro wq hSw; go_simp; try with_reducible rfl
      simp only [Act.put, List.setIfInBounds_toArray, List.set_cons_zero, List.set_cons_succ, List.getElem_toArray, List.getElem_cons_zero, List.getElem_cons_succ]
      refine wpAnyH_take (i := 10) (oi := _) (v := ?_) rfl (by kernel_rfl) (by kernel_rfl) (by kernel_rfl) (fun _ _ _ h => h) (Or.inl ⟨by rfl, ?_⟩) (by assumption) ?_
      rotate_left
      · intro wq hSw; go_simp; try with_reducible rfl
      simp only [Act.put, List.setIfInBounds_toArray, List.set_cons_zero, List.set_cons_succ, List.getElem_toArray, List.getElem_cons_zero, List.getElem_cons_succ]
      refine wpAnyH_done (by kernel_rfl) ?_ _
      refine NoPanic.normal ?_
      have HB4 := Lib.hid (HB3.out.trans (Below.mono HE4.out HB3.out.size))
      have hld4 := HL2.out w4 HE4.out
      have hen := refEncode_any r w4 (by unfold maxLen; omega) (by unfold maxLen; omega)
      unfold MadePost at hen
      rw [HX.out] at hen
      have HEN := Lib.hid hen
      clear hHeld hst3 hen
      go_wp2_with fail
      refine HEN.out.mono ?_
      rintro e w5 ⟨v5, rfl, ho5, hb5⟩
      obtain ⟨sp5, cp5, rfl, _, _⟩ := ownsRow_slice ho5
      have HB5 := Lib.hid (HB4.out.trans (hb5.mono HB4.out.size))
      clear ho5 hb5 HEN hld4
      go_wp2_with fail
      go_roundw
      case rel => exact ⟨i + 1, by omega, by go_num, m2, by go_num, HST, HB5⟩
      case measure => simp [intOf]; omega
    · have hiN : N = i := by omega
      subst hiN
      clear hlt
      have hsz := size_held (HH.out.below HB.out)
      have e1 : (encs G).length = m := by rw [HM.out, List.take_of_length_le (by rw [HNN.out]; omega)]
      rw [e1] at hsz
      have q1 : ((m : Int) == (m : Int)) = true := beq_t rfl
      clear e1
      go_wp2_with fail
      refine hsz.mono ?_
      rintro e w2 ⟨rfl, hb2⟩
      have HB2 := Lib.hid (HB.out.trans (hb2.mono HB.out.size))
      clear hsz hb2
      go_wp2_with fail
      go_ret
      exact ⟨rfl, HB2.out⟩
end Go.Proofs.YtdjkkohckfndkaaGreatDoor.S15

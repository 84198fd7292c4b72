/- Texts put together: RawF, RawG. -/
import Derived.Test.YtdjkkohckfndkaaGreatDoorEg29
import Derived.Test.YtdjkkohckfndkaaGreatDoorEg37
import Derived.Test.YtdjkkohckfndkaaGreatDoorEg40
set_option linter.unusedSimpArgs false
set_option linter.unusedVariables false
set_option maxRecDepth 100000
namespace Go.Proofs.YtdjkkohckfndkaaGreatDoor.S15
open Go.RowKit S13 S13.Dk S14 S3 S2.Pl S3.Pl
theorem oneV_chk {B : List Nat} (h : (oneV B).2 = true) : chk (oneV B).1 = 0 := by
  unfold oneV at h ⊢
  split
  · rw [if_pos (by assumption)] at h; cases h
  rename_i h1
  rw [if_neg h1] at h
  split
  · rw [if_pos (by assumption)] at h; cases h
  rename_i h2
  rw [if_neg h2] at h
  split
  · rw [if_pos (by assumption)] at h; cases h
  rename_i h3
  rw [if_neg h3] at h
  split
  · rename_i h4
    rw [if_pos h4] at h
    split
    · rw [if_pos (by assumption)] at h; cases h
    · rename_i h5
      rw [if_neg h5] at h
      split
      · rename_i h6; exact h6.2
      · rename_i h6; rw [if_neg h6] at h; cases h
  · rename_i h4
    rw [if_neg h4] at h
    split
    · rename_i h6; exact h6.2
    · rename_i h6; rw [if_neg h6] at h; cases h
theorem scanL_chk (L : List (List Nat)) : ∀ r ∈ (scanL L).1, chk r = 0 := by
  induction L with
  | nil => intro r hr; simp [scanL] at hr
  | cons T L ih =>
    intro r hr
    unfold scanL at hr
    split at hr
    · rename_i h
      rcases List.mem_cons.1 hr with rfl | hr
      · exact oneV_chk h
      · exact ih r hr
    · simp at hr
theorem scanR_chk (B : List Nat) : ∀ r ∈ (scanR B).1, chk r = 0 := scanL_chk _
theorem scanL_len (L : List (List Nat)) : (scanL L).1.length ≤ L.length := by
  induction L with
  | nil => simp [scanL]
  | cons T L ih =>
    unfold scanL
    split
    · simp only [List.length_cons]; omega
    · simp
theorem scanR_len (B : List Nat) : 12 * (scanR B).1.length ≤ B.length := by
  have h1 := scanL_len (pscan B).1
  have h2 := tot_len (pscan B).1
  rw [tot_pscan] at h2
  have h3 := (pscan_size B).1
  unfold scanR
  simp only
  omega
attribute [local go_sem ↓] loadR_eq storeR_eq buildR_eq sliceU8_eq
attribute [local go_sem] run_buildR run_buildR4
set_option maxHeartbeats 16000000 in
theorem ends_any (v : Value) (L : List RT) (w : World) (hT : Tab w) (h : RecsAt w v L) (hL : ∀ r ∈ L, chk r = 0) (hN : L.length ≤ 1000000) :
    Calls Tryz.prog 55 #[v] w fun e w' => ∃ v', e = .returned v' ∧ Hid (w'.ownsRow w.heap.size 3 1 v' L.length (i64s (endL L L.length))) ∧ Hid (Below w.heap.size w w') := by
  obtain ⟨a, cap, rfl, hcap, hmax, _⟩ := (show ∃ a cap, v = .slice a L.length cap ∧ L.length ≤ cap ∧ cap ≤ maxLen ∧ True by obtain ⟨a, cap, he, h1, h2, _⟩ := h; exact ⟨a, cap, he, h1, h2, trivial⟩)
  have HH := Lib.hid h
  have HT := Lib.hid hT
  have HL := Lib.hid hL
  obtain ⟨N, hNN⟩ : ∃ N, L.length = N := ⟨_, rfl⟩
  have HN := Lib.hid hNN
  rw [hNN] at hN ⊢
  have HS : Hid (∀ i, i ≤ N → (encs (L.take i)).length ≤ 4143 * i) := Lib.hid fun i hi => by
    have := encs_len (G := L.take i) (fun r hr => hL r (List.mem_of_mem_take hr))
    rw [List.length_take] at this
    have h2 : min i L.length = i := by omega
    rw [h2] at this
    exact this
  clear h hT hL hNN
  go_enter Tryz.func55, Tryz.ntmps55
  go_wp2_with fail
  go_loopw [3, 4, 11] (fun v x y wr => ∃ i : Nat, i ≤ N ∧ y = .int .i64 i ∧ ∃ m : Nat, Hid (m = (encs (L.take i)).length) ∧ x = .int .i64 m ∧ wr.ownsRow w.heap.size 3 1 v i (i64s (endL L i)) ∧ Below w.heap.size w wr) (fun _ _ y _ => N - (intOf y).toNat)
  case atStart => exact ⟨0, by omega, rfl, 0, Lib.hid (by simp [encs]), rfl, World.ownsRow_nil _ _ _ _, Below.refl _ _⟩
  case round =>
    obtain ⟨i, hi, rfl, m, hm, rfl, ho, hb⟩ := hrel
    have HO := Lib.hid ho
    have HB := Lib.hid hb
    obtain ⟨sp, cp, rfl, hcp, hcm⟩ := ownsRow_slice ho
    clear ho hb
    by_cases hlt : i < N
    · obtain ⟨b, off, rfl, hld⟩ := HH.out.load (W := wr) (i := i) (by rw [HN.out]; exact hlt)
      have hld := hld wr HB.out
      obtain ⟨r, hr⟩ : ∃ r, L.getD i zR = r := ⟨_, rfl⟩
      rw [hr] at hld
      have hch : chk r = 0 := HL.out r (by rw [← hr]; simp [List.getD, HN.out, hlt])
      obtain ⟨k1, k2, k3, k4⟩ := chk_ok hch
      obtain ⟨w3, hst, HR3, HG3⟩ := back_rec (w := wr) r (Blk.new wr 32 (recL zR)) ((Below.refl _ _).alloc (Nat.le_refl _) _) (Nat.le_refl _)
      simp only [recL, zR] at hst
      have hb3 : Below w.heap.size w w3 := HB.out.trans (HG3.out.mono HB.out.size)
      have HO3 := Lib.hid (own_below HO.out HG3.out)
      have HB3 := Lib.hid hb3
      have hld3 := run_loadR_blk HR3.out
      have henc := encode_any r w3 (HT.out.below hb3) (by unfold maxLen; omega) (by unfold maxLen; omega)
      unfold EncPost at henc
      have hel := enc_len r
      obtain ⟨X, hX⟩ : ∃ X, (enc r).length = X := ⟨_, rfl⟩
      rw [hX, hch] at henc
      rw [hX] at hel
      have hms := HS.out i hi
      rw [← hm.out] at hms
      have HENC := Lib.hid henc
      have hst1 : (encs (L.take (i + 1))).length = m + X := by
        rw [encs_step HL.out (by rw [HN.out]; exact hlt), List.length_append, ← hm.out, hr, hX]
      obtain ⟨m2, hm2⟩ : ∃ m2, m + X = m2 := ⟨_, rfl⟩
      rw [hm2] at hst1
      have HST1 := Lib.hid hst1
      have hm2b : m2 ≤ 5000000000 := by omega
      have hmI : (m : Int) + (X : Int) = (m2 : Int) := by omega
      have hmw : IntKind.i64.wrap ((m : Int) + (X : Int)) = (m2 : Int) := by rw [hmI, IntKind.wrap_i64]; omega
      have hmw' : IntKind.i64.wrap (m2 : Int) = (m2 : Int) := by rw [IntKind.wrap_i64]; omega
      clear hX hch hr henc hms hst1 hb3 hm2 HO HB k1 k2 k3 k4
      go_wp2_with fail
      refine HENC.out.mono ?_
      rintro e w4 ⟨sp4, cp4, rfl, ho4, hb4⟩
      have HO4 := Lib.hid (own_below HO3.out hb4.out)
      have HB4 := Lib.hid (HB3.out.trans (hb4.out.mono HB3.out.size))
      have hsz4 : w.heap.size ≤ w4.heap.size := HB4.out.size
      clear ho4 hb4 HENC HO3 HB3 HG3 HR3 hst hld3 hld
      go_wp2_with (at_builtin; refine wpList_append_int rfl (.tmp 24) (.tmp 26) rfl w.heap.size _ i (endL L i) (m2 : Int) rfl HO4.out _ rfl rfl (by omega) hsz4 ?_; intro v' w5 hown hgr)
      have HOW : Hid (w5.ownsRow w.heap.size 3 1 v' (i + 1) (i64s (endL L (i + 1)))) := Lib.hid (by
        rw [endL_succ, HST1.out]; exact hown)
      have HB5 : Hid (Below w.heap.size w w5) := Lib.hid ((HB4.out.alloc hsz4 _).grown hgr (by simp; omega) (own_lt HO4.out))
      clear hown hgr
      go_roundw
      case rel => exact ⟨i + 1, hlt, by go_num, m2, Lib.hid HST1.out.symm, rfl, HOW.out, HB5.out⟩
      case measure => simp [intOf]; omega
    · obtain rfl : i = N := by omega
      go_wp2_with fail
      go_ret
      exact ⟨_, rfl, Lib.hid HO.out, Lib.hid HB.out⟩
end Go.Proofs.YtdjkkohckfndkaaGreatDoor.S15
namespace Go.Proofs.YtdjkkohckfndkaaGreatDoor.S15
open Go.RowKit S13 S13.Dk S14 S3
theorem Front.keep {base : Nat} {w w' : World} {v : Value} {B : List Nat} (h : Front base w v B) (hk : ∀ g, base ≤ g → g < w.heap.size → w'.heap[g]? = w.heap[g]?) : Front base w' v B := by
  by_cases h0 : 0 < B.length
  · obtain ⟨g, cs, cap, rfl, h1, h2, hb, hB, ht⟩ := h.2 h0
    exact front_mk h.1.1 h1 h2 hb ((hk g hb hB.lt).trans hB) ht
  · refine ⟨⟨h.1.1, ?_⟩, fun h' => absurd h' h0⟩
    have hn : B = [] := List.eq_nil_of_length_eq_zero (by omega)
    subst hn
    rcases h.1.2 with h1 | ⟨a, cap, h1, h2, h3, _⟩
    · exact .inl h1
    · exact .inr ⟨a, cap, h1, h2, h3, fun i u hu => by simp [u8s] at hu⟩
end Go.Proofs.YtdjkkohckfndkaaGreatDoor.S15

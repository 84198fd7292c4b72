/- Texts put together: RawF, RawG. -/
import Derived.Test.YtoioiehkfndbcaaGreatDoorEg36
import Derived.Test.YtoioiehkfndbcaaGreatDoorEg39
set_option linter.unusedSimpArgs false
set_option linter.unusedVariables false
set_option maxRecDepth 100000
namespace Go.Proofs.YtoioiehkfndbcaaGreatDoor.S15
open Go.RowKit S13 S13.Dk S14 S3 S2.Pl S3.Pl
theorem oneV_chk {B : List Nat} (h : (oneV B).2 = true) : chk (oneV B).1 = 0 := by
  unfold oneV at h ⊢
  split
  · rw [if_pos (by assumption)] at h; cases h
  rename_i h1
  rw [if_neg h1] at h
  split
  · rw [if_pos (by assumption)] at h; cases h
  rename_i h2
  rw [if_neg h2] at h
  split
  · rw [if_pos (by assumption)] at h; cases h
  rename_i h3
  rw [if_neg h3] at h
  split
  · rename_i h4
    rw [if_pos h4] at h
    split
    · rw [if_pos (by assumption)] at h; cases h
    · rename_i h5
      rw [if_neg h5] at h
      split
      · rename_i h6; exact h6.2
      · rename_i h6; rw [if_neg h6] at h; cases h
  · rename_i h4
    rw [if_neg h4] at h
    split
    · rename_i h6; exact h6.2
    · rename_i h6; rw [if_neg h6] at h; cases h
theorem scanL_chk (L : List (List Nat)) : ∀ r ∈ (scanL L).1, chk r = 0 := by
  induction L with
  | nil => intro r hr; simp [scanL] at hr
  | cons T L ih =>
    intro r hr
    unfold scanL at hr
    split at hr
    · rename_i h
      rcases List.mem_cons.1 hr with rfl | hr
      · exact oneV_chk h
      · exact ih r hr
    · simp at hr
theorem scanR_chk (B : List Nat) : ∀ r ∈ (scanR B).1, chk r = 0 := scanL_chk _
theorem scanL_len (L : List (List Nat)) : (scanL L).1.length ≤ L.length := by
  induction L with
  | nil => simp [scanL]
  | cons T L ih =>
    unfold scanL
    split
    · simp only [List.length_cons]; omega
    · simp
theorem scanR_len (B : List Nat) : 12 * (scanR B).1.length ≤ B.length := by
  have h1 := scanL_len (pscan B).1
  have h2 := tot_len (pscan B).1
  rw [tot_pscan] at h2
  have h3 := (pscan_size B).1
  unfold scanR
  simp only
  omega
attribute [local go_sem ↓] loadR_eq storeR_eq buildR_eq sliceU8_eq
attribute [local go_sem] run_buildR run_buildR4
set_option maxHeartbeats 16000000 in
theorem ends_any (v : Value) (L : List RT) (w : World) (hT : Tab w) (h : RecsAt w v L) (hL : ∀ r ∈ L, chk r = 0) (hN : L.length ≤ 1000000) :
    Calls Tryz.prog 41 #[v] w fun e w' => ∃ v', e = .returned v' ∧ Hid (w'.ownsRow w.heap.size 3 1 v' L.length (i64s (endL L L.length))) ∧ Hid (Below w.heap.size w w') := by
  obtain ⟨a, cap, rfl, hcap, hmax, _⟩ := (show ∃ a cap, v = .slice a L.length cap ∧ L.length ≤ cap ∧ cap ≤ maxLen ∧ True by obtain ⟨a, cap, he, h1, h2, _⟩ := h; exact ⟨a, cap, he, h1, h2, trivial⟩)
  have HH := Lib.hid h
  have HT := Lib.hid hT
  have HL := Lib.hid hL
  obtain ⟨N, hNN⟩ : ∃ N, L.length = N := ⟨_, rfl⟩
  have HN := Lib.hid hNN
  rw [hNN] at hN ⊢
  have HS : Hid (∀ i, i ≤ N → (encs (L.take i)).length ≤ 4143 * i) := Lib.hid fun i hi => by
    have := encs_len (G := L.take i) (fun r hr => hL r (List.mem_of_mem_take hr))
    rw [List.length_take] at this
    have h2 : min i L.length = i := by omega
    rw [h2] at this
    exact this
  clear h hT hL hNN
  go_enter Tryz.func41, Tryz.ntmps41
  go_wp2_with fail
  go_loopw [3, 4, 11] (fun v x y wr => ∃ i : Nat, i ≤ N ∧ y = .int .i64 i ∧ ∃ m : Nat, Hid (m = (encs (L.take i)).length) ∧ x = .int .i64 m ∧ wr.ownsRow w.heap.size 3 1 v i (i64s (endL L i)) ∧ Below w.heap.size w wr) (fun _ _ y _ => N - (intOf y).toNat)
  case atStart => exact ⟨0, by omega, rfl, 0, Lib.hid (by simp [encs]), rfl, World.ownsRow_nil _ _ _ _, Below.refl _ _⟩
  case round =>
    obtain ⟨i, hi, rfl, m, hm, rfl, ho, hb⟩ := hrel
    have HO := Lib.hid ho
    have HB := Lib.hid hb
    obtain ⟨sp, cp, rfl, hcp, hcm⟩ := ownsRow_slice ho
    clear ho hb
    by_cases hlt : i < N
    · obtain ⟨b, off, rfl, hld⟩ := HH.out.load (W := wr) (i := i) (by rw [HN.out]; exact hlt)
      have hld := hld wr HB.out
      obtain ⟨r, hr⟩ : ∃ r, L.getD i zR = r := ⟨_, rfl⟩
      rw [hr] at hld
      have hch : chk r = 0 := HL.out r (by rw [← hr]; simp [List.getD, HN.out, hlt])
      obtain ⟨k1, k2, k3, k4⟩ := chk_ok hch
      obtain ⟨w3, hst, HR3, HG3⟩ := back_rec (w := wr) r (Blk.new wr 32 (recL zR)) ((Below.refl _ _).alloc (Nat.le_refl _) _) (Nat.le_refl _)
      simp only [recL, zR] at hst
      have hb3 : Below w.heap.size w w3 := HB.out.trans (HG3.out.mono HB.out.size)
      have HO3 := Lib.hid (own_below HO.out HG3.out)
      have HB3 := Lib.hid hb3
      have hld3 := run_loadR_blk HR3.out
      have henc := encode_any r w3 (HT.out.below hb3) (by unfold maxLen; omega) (by unfold maxLen; omega)
      unfold EncPost at henc
      have hel := enc_len r
      obtain ⟨X, hX⟩ : ∃ X, (enc r).length = X := ⟨_, rfl⟩
      rw [hX, hch] at henc
      rw [hX] at hel
      have hms := HS.out i hi
      rw [← hm.out] at hms
      have HENC := Lib.hid henc
      have hst1 : (encs (L.take (i + 1))).length = m + X := by
        rw [encs_step HL.out (by rw [HN.out]; exact hlt), List.length_append, ← hm.out, hr, hX]
      obtain ⟨m2, hm2⟩ : ∃ m2, m + X = m2 := ⟨_, rfl⟩
      rw [hm2] at hst1
      have HST1 := Lib.hid hst1
      have hm2b : m2 ≤ 5000000000 := by omega
      have hmI : (m : Int) + (X : Int) = (m2 : Int) := by omega
      have hmw : IntKind.i64.wrap ((m : Int) + (X : Int)) = (m2 : Int) := by rw [hmI, IntKind.wrap_i64]; omega
      have hmw' : IntKind.i64.wrap (m2 : Int) = (m2 : Int) := by rw [IntKind.wrap_i64]; omega
      clear hX hch hr henc hms hst1 hb3 hm2 HO HB k1 k2 k3 k4
      go_wp2_with fail
      refine HENC.out.mono ?_
      rintro e w4 ⟨sp4, cp4, rfl, ho4, hb4⟩
      have HO4 := Lib.hid (own_below HO3.out hb4.out)
      have HB4 := Lib.hid (HB3.out.trans (hb4.out.mono HB3.out.size))
      have hsz4 : w.heap.size ≤ w4.heap.size := HB4.out.size
      clear ho4 hb4 HENC HO3 HB3 HG3 HR3 hst hld3 hld
      go_wp2_with (at_builtin; refine wpList_append_int rfl (.tmp 24) (.tmp 26) rfl w.heap.size _ i (endL L i) (m2 : Int) rfl HO4.out _ rfl rfl (by omega) hsz4 ?_; intro v' w5 hown hgr)
      have HOW : Hid (w5.ownsRow w.heap.size 3 1 v' (i + 1) (i64s (endL L (i + 1)))) := Lib.hid (by
        rw [endL_succ, HST1.out]; exact hown)
      have HB5 : Hid (Below w.heap.size w w5) := Lib.hid ((HB4.out.alloc hsz4 _).grown hgr (by simp; omega) (own_lt HO4.out))
      clear hown hgr
      go_roundw
      case rel => exact ⟨i + 1, hlt, by go_num, m2, Lib.hid HST1.out.symm, rfl, HOW.out, HB5.out⟩
      case measure => simp [intOf]; omega
    · obtain rfl : i = N := by omega
      go_wp2_with fail
      go_ret
      exact ⟨_, rfl, Lib.hid HO.out, Lib.hid HB.out⟩
end Go.Proofs.YtoioiehkfndbcaaGreatDoor.S15
namespace Go.Proofs.YtoioiehkfndbcaaGreatDoor.S15
open Go.RowKit S13 S13.Dk S14 S3
def wrt (S : St) (n : Nm) (B : List Nat) : St × Nat :=
  if (create S n).2 ≠ 0 then create S n
  else if (append (create S n).1 n B).2 ≠ 0 then append (create S n).1 n B
  else sync (append (create S n).1 n B).1 n
def rewr1 (S : St) (sp n : Nm) (B : List Nat) : St × Nat := if (wrt S sp B).2 = 0 then rename (wrt S sp B).1 sp n else wrt S sp B
def rewr (S : St) (sp n : Nm) (B : List Nat) : St × Nat :=
  if (rewr1 S sp n B).2 ≠ 0 then ((remove (rewr1 S sp n B).1 sp).1, (rewr1 S sp n B).2)
  else if (syncDir (rewr1 S sp n B).1).2 ≠ 0 then ((syncDir (syncDir (rewr1 S sp n B).1).1).1, (syncDir (rewr1 S sp n B).1).2)
  else syncDir (rewr1 S sp n B).1
theorem withB_calls {S : St} {f : St → St × Nat} (hf : ∀ T, (f T).1.calls = T.calls) : (withB S f).1.calls = S.calls + 1 := by
  unfold withB
  split
  · exact beg_calls S
  · rw [hf]; exact beg_calls S
theorem withF_calls {S : St} {n : Nm} {f : St → Nat → St × Nat} (hf : ∀ T i, (f T i).1.calls = T.calls) : (withF S n f).1.calls = S.calls + 1 := by
  unfold withF
  refine withB_calls fun T => ?_
  split
  · rfl
  · exact hf _ _
theorem create_calls (S : St) (n : Nm) : (create S n).1.calls = S.calls + 1 := by
  unfold create
  refine withB_calls fun T => ?_
  split
  · rfl
  · split <;> rfl
theorem append_calls (S : St) (n : Nm) (B : List Nat) : (append S n B).1.calls = S.calls + 1 := by
  unfold append
  refine withF_calls fun T i => ?_
  split <;> rfl
theorem sync_calls (S : St) (n : Nm) : (sync S n).1.calls = S.calls + 1 := withF_calls fun _ _ => rfl
theorem rename_calls (S : St) (a b : Nm) : (rename S a b).1.calls = S.calls + 1 := by
  unfold rename
  refine withF_calls fun T i => ?_
  split <;> rfl
theorem syncDir_calls (S : St) : (syncDir S).1.calls = S.calls + 1 := withB_calls fun _ => rfl
theorem wrt_calls (S : St) (n : Nm) (B : List Nat) : (wrt S n B).1.calls ≤ S.calls + 3 := by
  unfold wrt
  have h1 := create_calls S n
  have h2 := append_calls (create S n).1 n B
  have h3 := sync_calls (append (create S n).1 n B).1 n
  split
  · omega
  · split <;> omega
theorem code_ne {c : Nat} (h : c ≠ 0) : (((c : Int) != 0) = true) ∧ ((c != 0) = true) ∧ (((c : Int) == 0) = false) ∧ ((c == 0) = false) := ⟨bne_t (by omega), by simpa using h, beq_f (by omega), by simpa using h⟩
theorem Front.keep {base : Nat} {w w' : World} {v : Value} {B : List Nat} (h : Front base w v B) (hk : ∀ g, base ≤ g → g < w.heap.size → w'.heap[g]? = w.heap[g]?) : Front base w' v B := by
  by_cases h0 : 0 < B.length
  · obtain ⟨g, cs, cap, rfl, h1, h2, hb, hB, ht⟩ := h.2 h0
    exact front_mk h.1.1 h1 h2 hb ((hk g hb hB.lt).trans hB) ht
  · refine ⟨⟨h.1.1, ?_⟩, fun h' => absurd h' h0⟩
    have hn : B = [] := List.eq_nil_of_length_eq_zero (by omega)
    subst hn
    rcases h.1.2 with h1 | ⟨a, cap, h1, h2, h3, _⟩
    · exact .inl h1
    · exact .inr ⟨a, cap, h1, h2, h3, fun i u hu => by simp [u8s] at hu⟩
theorem z_call {w0 w w' : World} {p : Nat} {r : St × Nat} {Z : Nat → Prop} {S' : St} {c : Nat} {e : Ending} (hr : r = (S', c)) (h : ZPost w0 p r Z w e w') : e = .returned (.int .i64 (c : Nat)) ∧ InZ w0 p S' Z w' ∧ ∀ b, Z b → w'.heap[b]? = w.heap[b]? := by
  subst hr; exact h
section
variable {w0 w : World} {p : Nat} {S : St} {Z : Nat → Prop}
set_option maxHeartbeats 8000000
theorem write_any (n : ByteArray) (v : Value) (B : List Nat) (h : InZ w0 p S Z w) (hn : n.size ≤ maxLen) (hc : S.calls ≤ 1099511627000) (hv : ∀ W, (∀ b, Z b → W.heap[b]? = w.heap[b]?) → IsBytes W v B) (hB : B.length ≤ 1000000) :
    Calls Tryz.prog 57 #[pP p, .string n, v] w (ZPost w0 p (wrt S n.data.toList B) Z w) := by
  obtain ⟨S1, hS1⟩ : ∃ S1, (create S n.data.toList).1 = S1 := ⟨_, rfl⟩
  obtain ⟨c1, hc1⟩ : ∃ c1, (create S n.data.toList).2 = c1 := ⟨_, rfl⟩
  have hr1 : create S n.data.toList = (S1, c1) := by rw [← hS1, ← hc1]
  have hS1c : S1.calls = S.calls + 1 := by rw [← hS1]; exact create_calls S _
  obtain ⟨S2, hS2⟩ : ∃ S2, (append S1 n.data.toList B).1 = S2 := ⟨_, rfl⟩
  obtain ⟨c2, hc2⟩ : ∃ c2, (append S1 n.data.toList B).2 = c2 := ⟨_, rfl⟩
  have hr2 : append S1 n.data.toList B = (S2, c2) := by rw [← hS2, ← hc2]
  have hS2c : S2.calls = S1.calls + 1 := by rw [← hS2]; exact append_calls S1 _ _
  obtain ⟨S3, hS3⟩ : ∃ S3, (sync S2 n.data.toList).1 = S3 := ⟨_, rfl⟩
  obtain ⟨c3, hc3⟩ : ∃ c3, (sync S2 n.data.toList).2 = c3 := ⟨_, rfl⟩
  have hr3 : sync S2 n.data.toList = (S3, c3) := by rw [← hS3, ← hc3]
  have HW : Hid (wrt S n.data.toList B = if c1 ≠ 0 then (S1, c1) else if c2 ≠ 0 then (S2, c2) else (S3, c3)) := Lib.hid (by
    unfold wrt
    simp only [hr1, hr2, hr3])
  have H1 : Hid (Calls Tryz.prog 6 #[pP p, .string n] w fun e w' => e = .returned (.int .i64 (c1 : Nat)) ∧ InZ w0 p S1 Z w' ∧ ∀ b, Z b → w'.heap[b]? = w.heap[b]?) := Lib.hid ((create_z n h hn (by omega)).mono fun e w' h' => z_call hr1 h')
  have H2 : Hid (∀ W, InZ w0 p S1 Z W → IsBytes W v B → Calls Tryz.prog 7 #[pP p, .string n, v] W fun e w' => e = .returned (.int .i64 (c2 : Nat)) ∧ InZ w0 p S2 Z w' ∧ ∀ b, Z b → w'.heap[b]? = W.heap[b]?) := Lib.hid fun W hW hb => (append_z n v B hW hn (by omega) hb hB).mono fun e w' h' => z_call hr2 h'
  have H3 : Hid (∀ W, InZ w0 p S2 Z W → Calls Tryz.prog 11 #[pP p, .string n] W fun e w' => e = .returned (.int .i64 (c3 : Nat)) ∧ InZ w0 p S3 Z w' ∧ ∀ b, Z b → w'.heap[b]? = W.heap[b]?) := Lib.hid fun W hW => (sync_z n hW hn (by omega)).mono fun e w' h' => z_call hr3 h'
  have HV := Lib.hid hv
  clear h hv hS1 hc1 hr1 hS1c hS2 hc2 hr2 hS2c hS3 hc3 hr3 hc hn hB
  go_enter Tryz.func57, Tryz.ntmps57
  go_wp2_with fail
  refine H1.out.mono ?_
  rintro e w1 ⟨rfl, hz1, hh1⟩
  have HZ1 := Lib.hid hz1
  have HH1 := Lib.hid hh1
  clear H1 hz1 hh1
  by_cases hc1 : c1 ≠ 0
  · obtain ⟨q1, q2, q3, q4⟩ := code_ne hc1
    have HW1 : Hid (wrt S n.data.toList B = (S1, c1)) := Lib.hid (by rw [HW.out, if_pos hc1])
    clear HW hc1
    go_wp2_with fail
    go_ret
    rw [HW1.out]
    exact ⟨rfl, HZ1.out, HH1.out⟩
  · have hc10 : c1 = 0 := by omega
    have HWB : Hid (wrt S n.data.toList B = if c2 ≠ 0 then (S2, c2) else (S3, c3)) := Lib.hid (by rw [HW.out, if_neg hc1])
    clear HW
    subst hc10
    clear hc1
    have h2 := H2.out w1 HZ1.out (HV.out w1 HH1.out)
    have H2 := Lib.hid h2
    clear h2
    go_wp2_with fail
    refine H2.out.mono ?_
    rintro e w2 ⟨rfl, hz2, hh2⟩
    have HZ2 := Lib.hid hz2
    have HH2 : Hid (∀ b, Z b → w2.heap[b]? = w.heap[b]?) := Lib.hid fun b hb => (hh2 b hb).trans (HH1.out b hb)
    clear H2 hz2 hh2
    by_cases hc2 : c2 ≠ 0
    · obtain ⟨q1, q2, q3, q4⟩ := code_ne hc2
      have HW1 : Hid (wrt S n.data.toList B = (S2, c2)) := Lib.hid (by rw [HWB.out, if_pos hc2])
      clear HWB hc2
      go_wp2_with fail
      go_ret
      rw [HW1.out]
      exact ⟨rfl, HZ2.out, HH2.out⟩
    · have hc20 : c2 = 0 := by omega
      have HW1 : Hid (wrt S n.data.toList B = (S3, c3)) := Lib.hid (by rw [HWB.out, if_neg hc2])
      clear HWB
      subst hc20
      clear hc2
      have h3 := H3.out w2 HZ2.out
      have H3 := Lib.hid h3
      clear h3
      go_wp2_with fail
      refine H3.out.mono ?_
      rintro e w3 ⟨rfl, hz3, hh3⟩
      have HZ3 := Lib.hid hz3
      have HH3 : Hid (∀ b, Z b → w3.heap[b]? = w.heap[b]?) := Lib.hid fun b hb => (hh3 b hb).trans (HH2.out b hb)
      clear H3 hz3 hh3
      go_wp2_with fail
      go_ret
      rw [HW1.out]
      exact ⟨rfl, HZ3.out, HH3.out⟩
theorem rewrite_any (sp n : ByteArray) (v : Value) (B : List Nat) (h : InZ w0 p S Z w) (hs : sp.size ≤ maxLen) (hn : n.size ≤ maxLen) (hc : S.calls ≤ 1099511627000) (hv : ∀ W, (∀ b, Z b → W.heap[b]? = w.heap[b]?) → IsBytes W v B) (hB : B.length ≤ 1000000) :
    Calls Tryz.prog 39 #[pP p, .string sp, .string n, v] w (ZPost w0 p (rewr S sp.data.toList n.data.toList B) Z w) := by
  obtain ⟨S1, hS1⟩ : ∃ S1, (wrt S sp.data.toList B).1 = S1 := ⟨_, rfl⟩
  obtain ⟨c1, hc1⟩ : ∃ c1, (wrt S sp.data.toList B).2 = c1 := ⟨_, rfl⟩
  have hr1 : wrt S sp.data.toList B = (S1, c1) := by rw [← hS1, ← hc1]
  have hS1c : S1.calls ≤ S.calls + 3 := by rw [← hS1]; exact wrt_calls S _ _
  obtain ⟨S2, hS2⟩ : ∃ S2, (rename S1 sp.data.toList n.data.toList).1 = S2 := ⟨_, rfl⟩
  obtain ⟨c2, hc2⟩ : ∃ c2, (rename S1 sp.data.toList n.data.toList).2 = c2 := ⟨_, rfl⟩
  have hr2 : rename S1 sp.data.toList n.data.toList = (S2, c2) := by rw [← hS2, ← hc2]
  have hS2c : S2.calls = S1.calls + 1 := by rw [← hS2]; exact rename_calls S1 _ _
  obtain ⟨S3, hS3⟩ : ∃ S3, (syncDir S2).1 = S3 := ⟨_, rfl⟩
  obtain ⟨c3, hc3⟩ : ∃ c3, (syncDir S2).2 = c3 := ⟨_, rfl⟩
  have hr3 : syncDir S2 = (S3, c3) := by rw [← hS3, ← hc3]
  have hS3c : S3.calls = S2.calls + 1 := by rw [← hS3]; exact syncDir_calls S2
  obtain ⟨S4, hS4⟩ : ∃ S4, (syncDir S3).1 = S4 := ⟨_, rfl⟩
  obtain ⟨c4, hc4⟩ : ∃ c4, (syncDir S3).2 = c4 := ⟨_, rfl⟩
  have hr4 : syncDir S3 = (S4, c4) := by rw [← hS4, ← hc4]
  obtain ⟨R1, hR1⟩ : ∃ R1, (remove S1 sp.data.toList).1 = R1 := ⟨_, rfl⟩
  obtain ⟨R2, hR2⟩ : ∃ R2, (remove S2 sp.data.toList).1 = R2 := ⟨_, rfl⟩
  have HW : Hid (rewr S sp.data.toList n.data.toList B = if c1 ≠ 0 then (R1, c1) else if c2 ≠ 0 then (R2, c2) else if c3 ≠ 0 then (S4, c3) else (S3, c3)) := Lib.hid (by
    unfold rewr rewr1
    simp only [hr1, hr2]
    by_cases h1 : c1 = 0
    · subst h1
      simp only [if_true, ne_eq, not_true_eq_false, if_false, hr2, hr3, hr4, hR2]
    · simp only [h1, if_false, ne_eq, not_false_eq_true, if_true, hR1])
  have H1 : Hid (Calls Tryz.prog 57 #[pP p, .string sp, v] w fun e w' => e = .returned (.int .i64 (c1 : Nat)) ∧ InZ w0 p S1 Z w' ∧ ∀ b, Z b → w'.heap[b]? = w.heap[b]?) := Lib.hid ((write_any sp v B h hs (by omega) hv hB).mono fun e w' h' => z_call hr1 h')
  have H2 : Hid (∀ W, InZ w0 p S1 Z W → Calls Tryz.prog 58 #[pP p, .string sp, .string n] W fun e w' => e = .returned (.int .i64 (c2 : Nat)) ∧ InZ w0 p S2 Z w' ∧ ∀ b, Z b → w'.heap[b]? = W.heap[b]?) := Lib.hid fun W hW => (rename_z sp n hW hs hn (by omega)).mono fun e w' h' => z_call hr2 h'
  have HD : Hid (∀ W T, InZ w0 p T Z W → T.calls ≤ 1099511627776 → Calls Tryz.prog 59 #[pP p, .string sp] W fun e w' => (∃ c : Nat, e = .returned (.int .i64 (c : Nat))) ∧ InZ w0 p (remove T sp.data.toList).1 Z w' ∧ ∀ b, Z b → w'.heap[b]? = W.heap[b]?) := Lib.hid fun W T hW hT => (remove_z sp hW hs hT).mono fun e w' h' => ⟨⟨_, h'.1⟩, h'.2⟩
  have H3 : Hid (∀ W, InZ w0 p S2 Z W → Calls Tryz.prog 12 #[pP p] W fun e w' => e = .returned (.int .i64 (c3 : Nat)) ∧ InZ w0 p S3 Z w' ∧ ∀ b, Z b → w'.heap[b]? = W.heap[b]?) := Lib.hid fun W hW => (syncDir_z hW (by omega)).mono fun e w' h' => z_call hr3 h'
  have H4 : Hid (∀ W, InZ w0 p S3 Z W → Calls Tryz.prog 12 #[pP p] W fun e w' => e = .returned (.int .i64 (c4 : Nat)) ∧ InZ w0 p S4 Z w' ∧ ∀ b, Z b → w'.heap[b]? = W.heap[b]?) := Lib.hid fun W hW => (syncDir_z hW (by omega)).mono fun e w' h' => z_call hr4 h'
  have hS1b : S1.calls ≤ 1099511627776 := by omega
  have hS2b : S2.calls ≤ 1099511627776 := by omega
  have HR1 := Lib.hid hR1
  have HR2 := Lib.hid hR2
  have HC1 := Lib.hid hS1b
  have HC2 := Lib.hid hS2b
  clear h hv hS1 hc1 hr1 hS1c hS2 hc2 hr2 hS2c hS3 hc3 hr3 hc hn hB hS3c hS4 hc4 hr4 hR1 hR2 hs hS1b hS2b
  go_enter Tryz.func39, Tryz.ntmps39
  go_wp2_with fail
  refine H1.out.mono ?_
  rintro e w1 ⟨rfl, hz1, hh1⟩
  have HZ1 := Lib.hid hz1
  have HH1 := Lib.hid hh1
  clear H1 hz1 hh1
  by_cases hc1 : c1 ≠ 0
  · obtain ⟨q1, q2, q3, q4⟩ := code_ne hc1
    have HW1 : Hid (rewr S sp.data.toList n.data.toList B = (R1, c1)) := Lib.hid (by rw [HW.out, if_pos hc1])
    clear HW hc1
    go_wp2_with fail
    refine (HD.out w1 S1 HZ1.out HC1.out).mono ?_
    rintro e w2 ⟨⟨c9, rfl⟩, hz2, hh2⟩
    rw [HR1.out] at hz2
    have HZ2 := Lib.hid hz2
    have HH2 : Hid (∀ b, Z b → w2.heap[b]? = w.heap[b]?) := Lib.hid fun b hb => (hh2 b hb).trans (HH1.out b hb)
    clear hz2 hh2
    go_wp2_with fail
    go_ret
    rw [HW1.out]
    exact ⟨rfl, HZ2.out, HH2.out⟩
  · have hc10 : c1 = 0 := by omega
    have HWB : Hid (rewr S sp.data.toList n.data.toList B = if c2 ≠ 0 then (R2, c2) else if c3 ≠ 0 then (S4, c3) else (S3, c3)) := Lib.hid (by rw [HW.out, if_neg hc1])
    clear HW
    subst hc10
    clear hc1
    go_wp2_with fail
    refine (H2.out w1 HZ1.out).mono ?_
    rintro e w2 ⟨rfl, hz2, hh2⟩
    have HZ2 := Lib.hid hz2
    have HH2 : Hid (∀ b, Z b → w2.heap[b]? = w.heap[b]?) := Lib.hid fun b hb => (hh2 b hb).trans (HH1.out b hb)
    clear hz2 hh2
    by_cases hc2 : c2 ≠ 0
    · obtain ⟨q1, q2, q3, q4⟩ := code_ne hc2
      have HW1 : Hid (rewr S sp.data.toList n.data.toList B = (R2, c2)) := Lib.hid (by rw [HWB.out, if_pos hc2])
      clear HWB hc2
      go_wp2_with fail
      refine (HD.out w2 S2 HZ2.out HC2.out).mono ?_
      rintro e w3 ⟨⟨c9, rfl⟩, hz3, hh3⟩
      rw [HR2.out] at hz3
      have HZ3 := Lib.hid hz3
      have HH3 : Hid (∀ b, Z b → w3.heap[b]? = w.heap[b]?) := Lib.hid fun b hb => (hh3 b hb).trans (HH2.out b hb)
      clear hz3 hh3
      go_wp2_with fail
      go_ret
      rw [HW1.out]
      exact ⟨rfl, HZ3.out, HH3.out⟩
    · have hc20 : c2 = 0 := by omega
      have HWC : Hid (rewr S sp.data.toList n.data.toList B = if c3 ≠ 0 then (S4, c3) else (S3, c3)) := Lib.hid (by rw [HWB.out, if_neg hc2])
      clear HWB
      subst hc20
      clear hc2
      go_wp2_with fail
      refine (H3.out w2 HZ2.out).mono ?_
      rintro e w3 ⟨rfl, hz3, hh3⟩
      have HZ3 := Lib.hid hz3
      have HH3 : Hid (∀ b, Z b → w3.heap[b]? = w.heap[b]?) := Lib.hid fun b hb => (hh3 b hb).trans (HH2.out b hb)
      clear hz3 hh3
      by_cases hc3 : c3 ≠ 0
      · obtain ⟨q1, q2, q3, q4⟩ := code_ne hc3
        have HW1 : Hid (rewr S sp.data.toList n.data.toList B = (S4, c3)) := Lib.hid (by rw [HWC.out, if_pos hc3])
        clear HWC hc3
        go_wp2_with fail
        refine (H4.out w3 HZ3.out).mono ?_
        rintro e w4 ⟨rfl, hz4, hh4⟩
        have HZ4 := Lib.hid hz4
        have HH4 : Hid (∀ b, Z b → w4.heap[b]? = w.heap[b]?) := Lib.hid fun b hb => (hh4 b hb).trans (HH3.out b hb)
        clear hz4 hh4
        go_wp2_with fail
        go_ret
        rw [HW1.out]
        exact ⟨rfl, HZ4.out, HH4.out⟩
      · have hc30 : c3 = 0 := by omega
        have HW1 : Hid (rewr S sp.data.toList n.data.toList B = (S3, c3)) := Lib.hid (by rw [HWC.out, if_neg hc3])
        clear HWC
        subst hc30
        clear hc3
        go_wp2_with fail
        go_ret
        rw [HW1.out]
        exact ⟨rfl, HZ3.out, HH3.out⟩
end
end Go.Proofs.YtoioiehkfndbcaaGreatDoor.S15

/- bytes.IndexByte over the list: a contract. mtf.Encode, mtf.Decode: contracts. -/
import Derived.Test.YthfdclclecjdaaaMtfB
import Derived.Test.YthfdclclecjdaaaPart
import Derived.Lib.BytesEntry
import Derived.Laws.Externs
set_option linter.unusedSimpArgs false
set_option linter.unusedVariables false
namespace Go.Proofs.Ythfdclclecjdaaa
open Go.RowKit Pl

theorem indexByte_idx {x : Nat} (hx : x < 256) : ∀ {L : List Nat}, (∀ y ∈ L, y < 256) → x ∈ L → Lib.indexByte (Lib.bytesOf (L.map Int.ofNat)) (Int.toNat (x : Int)).toUInt8 = (L.idxOf x : Nat)
  | [], _, h => by simp at h
  | y :: L, hL, h => by
    have hy := hL y (by simp)
    show (if (UInt8.ofNat (Int.ofNat y).toNat == (Int.toNat (x : Int)).toUInt8) then (0 : Int) else _) = _
    have e0 : (UInt8.ofNat (Int.ofNat y).toNat == (Int.toNat (x : Int)).toUInt8) = (y == x) := by
      have e1 : (Int.ofNat y).toNat = y := rfl
      have e2 : (Int.toNat (x : Int)) = x := rfl
      rw [e1, e2]
      by_cases h : y = x
      · subst h; simp
      · have : ¬ (UInt8.ofNat y = x.toUInt8) := by
          intro e
          have := congrArg UInt8.toNat e
          simp at this
          omega
        rw [beq_eq_false_iff_ne.2 this, beq_eq_false_iff_ne.2 h]
    rw [e0, List.idxOf_cons]
    by_cases he : y = x
    · subst he; simp
    · have hb : (y == x) = false := by simpa using he
      have hm : x ∈ L := by
        rcases List.mem_cons.1 h with h | h
        · exact absurd h.symm he
        · exact h
      have ih := indexByte_idx hx (fun z hz => hL z (by simp [hz])) hm
      show (if (y == x) = true then (0 : Int) else if Lib.indexByte (Lib.bytesOf (L.map Int.ofNat)) (Int.toNat (x : Int)).toUInt8 == -1 then -1 else Lib.indexByte (Lib.bytesOf (L.map Int.ofNat)) (Int.toNat (x : Int)).toUInt8 + 1) = _
      rw [ih, hb]
      have h1 : (((L.idxOf x : Nat) : Int) == -1) = false := by
        rw [beq_eq_false_iff_ne]; omega
      rw [h1]
      simp

set_option maxHeartbeats 1000000 in
set_option maxRecDepth 100000 in
theorem index_any (b : Nat) (L : List Nat) (x : Nat) (w : World) (hb : Blk w b 30 (u8s L)) (hp : Perm L) (hx : x < 256) :
    Calls Try.prog 14 #[.slice (some ⟨b, 0, none⟩) 256 256, .int .u8 x] w fun e w' => e = .returned (.int .i64 (L.idxOf x : Nat)) ∧ w = w' := by
  have hc : ∀ i, i < 256 → w.cell? ⟨b, 0 + i, none⟩ = some (.int .u8 ((L.map Int.ofNat).getD i 0)) := fun i hi => by
    rw [Nat.zero_add]
    have := hb.cell (u8s_get L i (by rw [hp.len]; exact hi))
    rw [this]
    congr 2
    simp [List.getD_eq_getElem?_getD, List.getElem?_eq_getElem (show i < L.length by rw [hp.len]; exact hi)]
  have hrun := Lib.run_indexByteSlice (P := Try.prog) w b 0 256 256 (L.map Int.ofNat) (by simp [hp.len]) hc x
  rw [indexByte_idx hx hp.lt (hp.mem hx)] at hrun
  have HR := Lib.hid hrun
  clear hrun hc hb
  go_enter Try.func14, Try.ntmps14
  go_wp2
  rw [run_callFunc_extern Try.func16 (by kernel_rfl) (by kernel_rfl) (by kernel_rfl) (e := Extern.BytealgIndexByte.indexByte) (by kernel_rfl), HR.out]
  simp only [Result.andThen]
  rw [Oper.upon_value]
  go_wp2
  go_ret
  exact ⟨rfl, rfl⟩

attribute [local go_sem ↓] loadOrd_eq storeOrd_eq allocOrd_eq
attribute [local go_sem] run_allocOrd
set_option maxHeartbeats 2000000 in
set_option maxRecDepth 100000 in
theorem encode_any (v : Value) (B : List Nat) (w : World) (hv : IsBytes w v B) (hB : B.length ≤ 4294967296) :
    Calls Try.prog 9 #[v] w (MadePost (enc B) w) := by
  obtain ⟨a, cap, rfl, hcap, hmax⟩ := hv.slice
  unfold maxLen at hmax
  by_cases h0 : B.length = 0
  · obtain rfl : B = [] := List.eq_nil_of_length_eq_zero h0
    have HV := Lib.hid hv
    clear hv
    go_enter Try.func9, Try.ntmps9
    go_wp2
    go_ret
    exact ⟨_, rfl, ⟨rfl, .inl ⟨rfl, rfl⟩⟩, Below.refl _ _⟩
  have hn0 : 0 < B.length := by omega
  have hd0 : (((B.length : Nat) : Int) == 0) = false := by rw [beq_eq_false_iff_ne]; omega
  have HV := Lib.hid hv
  clear hv h0
  obtain ⟨i0, hi, hz0, hz1, hz2⟩ := info_parts info5
  have Hi := Lib.hid hi
  have Hz0 := Lib.hid hz0
  have Hz1 := Lib.hid hz1
  have Hz2 := Lib.hid hz2
  clear hi hz0 hz1 hz2
  have HE := Lib.hid (enc_length B)
  go_enter Try.func9, Try.ntmps9
  go_wp2_with (at_make; refine wpList_make_full _ rfl _ _ 22 rfl w.heap.size 5 i0 (.int .u8 0) 1 Try.underlying22 Hi.out Hz0.out Hz1.out .i64 .i64 _ _ B.length rfl rfl rfl rfl (by rw [Hz2.out]; omega) (by unfold maxLen; omega) (Nat.le_refl _) ?_; intro w1 hown hgr)
  have HG1 : Hid (Blk w1 w.heap.size 5 (u8s (partly (enc B) 0))) := Lib.hid (by rw [partly_zero, HE.out]; exact made_zero hown)
  have HB1 : Hid (Below w.heap.size w w1) := Lib.hid ((Below.refl _ _).grown hgr (Nat.le_refl _) (by simp))
  clear hown hgr
  refine (ascending_any _).mono ?_
  intro e w2 h2
  obtain ⟨rfl, hb2⟩ := h2
  have hlt1 := HG1.out.lt
  have HG2 := Lib.hid (HG1.out.below hb2 hlt1)
  have HB2 := Lib.hid (HB1.out.trans (hb2.mono (by omega)))
  have hlt2 := HG2.out.lt
  have hs := run_storeOrd (Blk.new w2 30 zeroCells) (ascAt_length 0 (by omega)) asc_length
  clear hb2 HG1 HB1
  go_wp2_with fail
  have hb3 : Below w.heap.size w ((w2.alloc (.cells zeroCells.toArray 30)).setRow w2.heap.size (u8s asc).toArray) := below_setRow (HB2.out.alloc (by omega) _) (by omega) _
  have hL3 : Blk ((w2.alloc (.cells zeroCells.toArray 30)).setRow w2.heap.size (u8s asc).toArray) w2.heap.size 30 (u8s asc) := (Blk.new w2 _ _).setRow _
  have hG3 : Blk ((w2.alloc (.cells zeroCells.toArray 30)).setRow w2.heap.size (u8s asc).toArray) w.heap.size 5 (u8s (partly (enc B) 0)) := (HG2.out.alloc _).setRowOther (by omega) _
  have HB3 := Lib.hid hb3
  have HL3 := Lib.hid hL3
  have HG3 := Lib.hid hG3
  clear hb3 hL3 hG3 hs HG2 HB2
  go_loopw [17] (fun x wr => ∃ i : Nat, i ≤ B.length ∧ x = .int .i64 i ∧ Blk wr w2.heap.size 30 (u8s (lat B i)) ∧ Blk wr w.heap.size 5 (u8s (partly (enc B) i)) ∧ Below w.heap.size w wr) (fun x _ => B.length - (intOf x).toNat)
  case atStart => exact ⟨0, by omega, rfl, HL3.out, HG3.out, HB3.out⟩
  case round =>
    obtain ⟨i, hi, rfl, hL, hG, hb⟩ := hrel
    obtain ⟨wo, hwo⟩ : ∃ wo, wo = wr := ⟨_, rfl⟩
    subst hwo
    have HL := Lib.hid hL
    have HG := Lib.hid hG
    have HB := Lib.hid hb
    clear HB3 HL3 HG3 hL hG hb
    by_cases hlt : i < B.length
    · have HVr := Lib.hid (HV.out.below HB.out)
      obtain ⟨bb, off, cap', hs, _, _, _, hc⟩ := HVr.out.cells (by omega)
      simp at hs
      obtain ⟨rfl, rfl⟩ := hs
      have c0 := hc i hlt
      have hx := getD_lt HV.out.1 i
      have HS := Lib.hid (lat_succ hlt)
      have HGt := Lib.hid (enc_get hlt)
      have HP := Lib.hid (lat_perm HV.out.1 i)
      generalize B.getD i 0 = x at *
      clear hc
      go_wp2_with fail
      refine (index_any _ _ x _ HL.out HP.out hx).mono ?_
      rintro e w4 ⟨rfl, rfl⟩
      have hk := HP.out.idx_lt hx
      generalize (lat B i).idxOf x = k at *
      have hm : (k : Int) % 256 = k := by omega
      have c1 := HG.out.cell (u8s_get (partly (enc B) i) i (by rw [partly_length, HE.out]; exact hlt))
      have f1 := HG.out.frozen i
      generalize (partly (enc B) i).getD i 0 = y at *
      go_wp2_with fail
      refine (take_any _ (lat B i) k _ (HL.out.setOther (p := ⟨w.heap.size, i, none⟩) (by simp; omega) _) HP.out.len hk).mono ?_
      intro e w5 h5
      obtain ⟨rfl, hL5, hb5⟩ := h5
      have HL5 : Hid (Blk w5 w2.heap.size 30 (u8s (lat B (i + 1)))) := Lib.hid (by rw [HS.out]; exact hL5)
      have HG5 : Hid (Blk w5 w.heap.size 5 (u8s (partly (enc B) (i + 1)))) := Lib.hid (by
        have := HG.out.set i (.int .u8 k)
        rw [u8s_set, ← HGt.out, partly_step _ i (by rw [HE.out]; exact hlt)] at this
        rw [← HGt.out] at hb5
        exact this.below hb5 hlt2)
      have h4 : Below w.heap.size w (wo.setCell ⟨w.heap.size, i, none⟩ (.int .u8 k)) := HB.out.setCell (Nat.le_refl _) _
      have HB5 := Lib.hid (h4.trans (hb5.mono (Nat.le_of_lt hlt2)))
      clear h4
      clear hL5 hb5 HL HG HB
      go_wp2_with fail
      go_roundw
      case rel => exact ⟨i + 1, by omega, by go_num, HL5.out, HG5.out, HB5.out⟩
      case measure => simp [intOf]; omega
    · obtain rfl : i = B.length := by omega
      go_wp2_with fail
      go_ret
      exact made_done HG.out HE.out rfl (by unfold maxLen; omega) HB.out
end Go.Proofs.Ythfdclclecjdaaa

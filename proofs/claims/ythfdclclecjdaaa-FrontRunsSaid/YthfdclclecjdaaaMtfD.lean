/- mtf.Decode: a contract. -/
import Derived.Test.YthfdclclecjdaaaMtfC
set_option linter.unusedSimpArgs false
set_option linter.unusedVariables false
namespace Go.Proofs.Ythfdclclecjdaaa
open Go.RowKit Pl

attribute [local go_sem ↓] loadOrd_eq storeOrd_eq allocOrd_eq
attribute [local go_sem] run_allocOrd
set_option maxHeartbeats 2000000 in
set_option maxRecDepth 100000 in
theorem decode_any (v : Value) (B : List Nat) (w : World) (hv : IsBytes w v B) (hB : B.length ≤ 4294967296) :
    Calls Try.prog 11 #[v] w (MadePost (dec B) w) := by
  obtain ⟨a, cap, rfl, hcap, hmax⟩ := hv.slice
  unfold maxLen at hmax
  by_cases h0 : B.length = 0
  · obtain rfl : B = [] := List.eq_nil_of_length_eq_zero h0
    have HV := Lib.hid hv
    clear hv
    go_enter Try.func11, Try.ntmps11
    go_wp2
    go_ret
    exact ⟨_, rfl, ⟨rfl, .inl ⟨rfl, rfl⟩⟩, Below.refl _ _⟩
  have hn0 : 0 < B.length := by omega
  have hd0 : (((B.length : Nat) : Int) == 0) = false := by rw [beq_eq_false_iff_ne]; omega
  have HV := Lib.hid hv
  clear hv h0
  obtain ⟨i0, hi, hz0, hz1, hz2⟩ := info_parts info5
  have Hi := Lib.hid hi
  have Hz0 := Lib.hid hz0
  have Hz1 := Lib.hid hz1
  have Hz2 := Lib.hid hz2
  clear hi hz0 hz1 hz2
  have HE := Lib.hid (dec_length B)
  go_enter Try.func11, Try.ntmps11
  go_wp2_with (at_make; refine wpList_make_full _ rfl _ _ 22 rfl w.heap.size 5 i0 (.int .u8 0) 1 Try.underlying22 Hi.out Hz0.out Hz1.out .i64 .i64 _ _ B.length rfl rfl rfl rfl (by rw [Hz2.out]; omega) (by unfold maxLen; omega) (Nat.le_refl _) ?_; intro w1 hown hgr)
  have HG1 : Hid (Blk w1 w.heap.size 5 (u8s (partly (dec B) 0))) := Lib.hid (by rw [partly_zero, HE.out]; exact made_zero hown)
  have HB1 : Hid (Below w.heap.size w w1) := Lib.hid ((Below.refl _ _).grown hgr (Nat.le_refl _) (by simp))
  clear hown hgr
  refine (ascending_any _).mono ?_
  intro e w2 h2
  obtain ⟨rfl, hb2⟩ := h2
  have hlt1 := HG1.out.lt
  have HG2 := Lib.hid (HG1.out.below hb2 hlt1)
  have HB2 := Lib.hid (HB1.out.trans (hb2.mono (by omega)))
  have hlt2 := HG2.out.lt
  have hs := run_storeOrd (Blk.new w2 30 zeroCells) (ascAt_length 0 (by omega)) asc_length
  clear hb2 HG1 HB1
  go_wp2_with fail
  have hb3 : Below w.heap.size w ((w2.alloc (.cells zeroCells.toArray 30)).setRow w2.heap.size (u8s asc).toArray) := below_setRow (HB2.out.alloc (by omega) _) (by omega) _
  have hL3 : Blk ((w2.alloc (.cells zeroCells.toArray 30)).setRow w2.heap.size (u8s asc).toArray) w2.heap.size 30 (u8s asc) := (Blk.new w2 _ _).setRow _
  have hG3 : Blk ((w2.alloc (.cells zeroCells.toArray 30)).setRow w2.heap.size (u8s asc).toArray) w.heap.size 5 (u8s (partly (dec B) 0)) := (HG2.out.alloc _).setRowOther (by omega) _
  have HB3 := Lib.hid hb3
  have HL3 := Lib.hid hL3
  have HG3 := Lib.hid hG3
  clear hb3 hL3 hG3 hs HG2 HB2
  go_loopw [16] (fun x wr => ∃ i : Nat, i ≤ B.length ∧ x = .int .i64 i ∧ Blk wr w2.heap.size 30 (u8s (datl B i)) ∧ Blk wr w.heap.size 5 (u8s (partly (dec B) i)) ∧ Below w.heap.size w wr) (fun x _ => B.length - (intOf x).toNat)
  case atStart => exact ⟨0, by omega, rfl, HL3.out, HG3.out, HB3.out⟩
  case round =>
    obtain ⟨i, hi, rfl, hL, hG, hb⟩ := hrel
    obtain ⟨wo, hwo⟩ : ∃ wo, wo = wr := ⟨_, rfl⟩
    subst hwo
    have HL := Lib.hid hL
    have HG := Lib.hid hG
    have HB := Lib.hid hb
    clear HB3 HL3 HG3 hL hG hb
    by_cases hlt : i < B.length
    · have HVr := Lib.hid (HV.out.below HB.out)
      obtain ⟨bb, off, cap', hs, _, _, _, hc⟩ := HVr.out.cells (by omega)
      simp at hs
      obtain ⟨rfl, rfl⟩ := hs
      have c0 := hc i hlt
      have hx := getD_lt HV.out.1 i
      have HS := Lib.hid (datl_succ hlt)
      have HGt := Lib.hid (dec_get hlt)
      have HP := Lib.hid (datl_perm HV.out.1 i)
      generalize B.getD i 0 = x at *
      clear hc
      go_wp2_with fail
      refine (take_any _ (datl B i) x _ HL.out HP.out.len hx).mono ?_
      intro e w5 h5
      obtain ⟨rfl, hL5, hb5⟩ := h5
      have HL5 : Hid (Blk w5 w2.heap.size 30 (u8s (datl B (i + 1)))) := Lib.hid (by rw [HS.out]; exact hL5)
      have HG5 := Lib.hid (HG.out.below hb5 hlt2)
      have HB5 := Lib.hid (HB.out.trans (hb5.mono (Nat.le_of_lt hlt2)))
      clear hL5 hb5 HL HG HB
      have c1 := HG5.out.cell (u8s_get (partly (dec B) i) i (by rw [partly_length, HE.out]; exact hlt))
      have f1 := HG5.out.frozen i
      have hst := HG5.out.set i (.int .u8 ((dec B).getD i 0 : Nat))
      rw [u8s_set, partly_step _ i (by rw [HE.out]; exact hlt), HGt.out] at hst
      have HST := Lib.hid hst
      clear hst
      generalize (partly (dec B) i).getD i 0 = y at *
      generalize (datl B i).getD x 0 = z at *
      go_wp2_with fail
      go_roundw
      case rel => exact ⟨i + 1, by omega, by go_num, HL5.out.setOther (by simp; omega) _, HST.out, HB5.out.setCell (Nat.le_refl _) _⟩
      case measure => simp [intOf]; omega
    · obtain rfl : i = B.length := by omega
      go_wp2_with fail
      go_ret
      exact made_done HG.out HE.out rfl (by unfold maxLen; omega) HB.out
end Go.Proofs.Ythfdclclecjdaaa

/- foliolaw3.told: a contract; CrcMany, walked. -/
import Derived.Test.YtoajgeemkmfboaaDoorCrcJ
import Derived.Test.YtoajgeemkmfboaaDoorCrcK
namespace Go.Proofs.YtoajgeemkmfboaaDoor
open Go.RowKit Pl

set_option maxHeartbeats 1000000 in
theorem told_any (v vp : Value) (B : List Nat) (L : List (List Nat)) (w : World) (hT : Tab w) (hv : IsBytes w v B) (hr : IsRows w vp L) (hl : B.length ≤ 4000000000) (hp : pscan B = (L, B.length, true)) :
    Calls Tryd.prog 22 #[v, vp] w fun e w' => e = .returned (.bool true) ∧ Below w.heap.size w w' := by
  obtain ⟨a, cap, rfl, _, _⟩ := hv.slice
  obtain ⟨b, cb, rfl, _, _⟩ := hr.slice
  have HV := Lib.hid hv
  have HR := Lib.hid hr
  have HT := Lib.hid hT
  have HP := Lib.hid hp
  clear hv hr hT hp
  go_enter Tryd.func22, Tryd.ntmps22
  go_wp2_with fail
  refine (scan_any _ _ _ HT.out HV.out hl).mono ?_
  intro e w1 h1
  obtain ⟨v1, rfl, hr1, hb1⟩ := h1
  rw [HP.out] at hr1 ⊢
  obtain ⟨a1, c1, rfl, _, _⟩ := hr1.slice
  have HR1 := Lib.hid hr1
  have HR2 := Lib.hid (HR.out.below hb1)
  have HB1 := Lib.hid hb1
  clear hr1 hb1 HR HV HT
  go_wp2_with fail
  refine (same_any _ _ L L _ HR1.out HR2.out).mono ?_
  intro e w2 h2
  obtain ⟨rfl, m, rfl⟩ := h2
  rw [decide_eq_true rfl]
  go_wp2_with fail
  go_ret
  exact ⟨rfl, bel_drewN HB1.out m⟩

namespace Pl
def row1 (Z i : Nat) : List Nat := (List.range Z).map fun k => (i + k) % 256
def rows1 (Z n : Nat) : List (List Nat) := (List.range n).map (row1 Z)
theorem row1_length (Z i : Nat) : (row1 Z i).length = Z := by simp [row1]
theorem row1_lt (Z i : Nat) : ∀ x ∈ row1 Z i, x < 256 := by
  intro x hx
  simp only [row1, List.mem_map] at hx
  obtain ⟨k, _, rfl⟩ := hx
  omega
theorem row1_get (Z i k : Nat) (h : k < Z) : (row1 Z i).getD k 0 = (i + k) % 256 := by simp [row1, List.getD, h]
theorem rows1_succ (Z n : Nat) : rows1 Z (n + 1) = rows1 Z n ++ [row1 Z n] := by simp [rows1, List.range_succ]
theorem rows1_length (Z n : Nat) : (rows1 Z n).length = n := by simp [rows1]
theorem rows1_lt (Z n : Nat) : ∀ B ∈ rows1 Z n, ∀ x ∈ B, x < 256 := by
  intro B hB
  simp only [rows1, List.mem_map] at hB
  obtain ⟨k, _, rfl⟩ := hB
  exact row1_lt Z k
theorem parts_rows1 (Z n : Nat) (h : Z ≤ 60) : parts (rows1 Z n) n = rows1 Z n := by
  unfold parts
  rw [List.take_of_length_le (by rw [rows1_length]; omega)]
  refine (List.map_congr_left (g := id) fun B hB => ?_).trans (List.map_id _)
  simp only [rows1, List.mem_map] at hB
  obtain ⟨k, _, rfl⟩ := hB
  exact List.take_of_length_le (by rw [row1_length]; exact h)
end Pl

set_option maxHeartbeats 4000000 in
theorem crcMany_walk (n size : Int) (w : World) (hT : Tab w) (hn : (Lit.int .i64 n).wf = true) (hs : (Lit.int .i64 size).wf = true) :
    Calls Tryd.prog 10 #[.int .i64 n, .int .i64 size] w fun e w' => e = .returned (.bool true) ∧ Below w.heap.size w w' := by
  have HT := Lib.hid hT
  clear hT hn hs
  by_cases hout : n < 0 ∨ 60 < n ∨ size < 0 ∨ 60 < size
  · have hways : n < 0 ∨ (0 ≤ n ∧ 60 < n) ∨ (0 ≤ n ∧ n ≤ 60 ∧ size < 0) ∨ (0 ≤ n ∧ n ≤ 60 ∧ 0 ≤ size ∧ 60 < size) := by omega
    clear hout
    rcases hways with h | ⟨h, h2⟩ | ⟨h, h2, h3⟩ | ⟨h, h2, h3, h4⟩
    all_goals
      go_enter Tryd.func10, Tryd.ntmps10
      go_wp2_with fail
      refine (begun_any _ HT.out).mono ?_
      rintro e w1 ⟨rfl, hb1⟩
      have HB1 := Lib.hid hb1
      clear hb1
      go_wp2_with fail
      go_ret
      exact ⟨rfl, HB1.out⟩
  · obtain ⟨N, rfl⟩ := Int.eq_ofNat_of_zero_le (show 0 ≤ n by omega)
    obtain ⟨Z, rfl⟩ := Int.eq_ofNat_of_zero_le (show 0 ≤ size by omega)
    have hN : N ≤ 60 := by omega
    have hZ : Z ≤ 60 := by omega
    clear hout
    obtain ⟨i0, hi, hz0, hz1, hz2⟩ := info_parts info5
    have Hi := Lib.hid hi
    have Hz0 := Lib.hid hz0
    have Hz1 := Lib.hid hz1
    have Hz2 := Lib.hid hz2
    clear hi hz0 hz1 hz2
    have hd1 : decide ((N : Int) < 0) = false := by simp
    have hd2 : decide ((60 : Int) < (N : Int)) = false := by simp; omega
    have hd3 : decide ((Z : Int) < 0) = false := by simp
    have hd4 : decide ((60 : Int) < (Z : Int)) = false := by simp; omega
    go_enter Tryd.func10, Tryd.ntmps10
    go_wp2_with fail
    refine (begun_any _ HT.out).mono ?_
    rintro e w1 ⟨rfl, hb1⟩
    have HT1 := Lib.hid (HT.out.below hb1)
    have HB1 := Lib.hid hb1
    clear hb1 HT
    go_wp2_with fail
    go_loopw [6, 7] (fun v x wr => ∃ i : Nat, i ≤ N ∧ x = .int .i64 i ∧ OwnRows w1.heap.size wr v (rows1 Z i) ∧ Below w1.heap.size w1 wr) (fun _ x _ => N - (intOf x).toNat)
    case atStart => exact ⟨0, by omega, rfl, ownRows_nil _ _, Below.refl _ _⟩
    case round =>
      obtain ⟨i, hi, rfl, ho, hb⟩ := hrel
      obtain ⟨wo, hwo⟩ : ∃ wo, wo = wr := ⟨_, rfl⟩
      subst hwo
      obtain ⟨sp, cp, rfl, _, _⟩ := ho.slice
      rw [rows1_length]
      have HO : Hid (OwnRows w1.heap.size wo (.slice sp i cp) (rows1 Z i)) := Lib.hid (by rw [rows1_length] at ho; exact ho)
      have HB := Lib.hid hb
      have hsz := hb.size
      clear ho hb
      by_cases hlt : i < N
      · go_wp2_with (at_make; refine wpList_make_full _ rfl _ _ 22 rfl wo.heap.size 5 i0 (.int .u8 0) 1 Tryd.underlying22 Hi.out Hz0.out Hz1.out .i64 .i64 _ _ Z rfl rfl rfl rfl (by rw [Hz2.out]; omega) (by unfold maxLen; omega) (Nat.le_refl _) ?_; intro w2 hown hgr)
        have HO2 : Hid (w2.ownsRow wo.heap.size 5 1 (.slice (some ⟨wo.heap.size, 0, none⟩) Z Z) Z (u8s (partly (row1 Z i) 0))) := Lib.hid (by rw [partly_zero, row1_length]; rw [made_list] at hown; simpa [u8s] using hown)
        have HB2 : Hid (Below wo.heap.size wo w2) := Lib.hid ((Below.refl _ _).grown hgr (Nat.le_refl _) (by simp))
        clear hown hgr
        go_loopw [9] (fun x wk => ∃ k : Nat, k ≤ Z ∧ x = .int .i64 k ∧ wk.ownsRow wo.heap.size 5 1 (.slice (some ⟨wo.heap.size, 0, none⟩) Z Z) Z (u8s (partly (row1 Z i) k)) ∧ Below wo.heap.size wo wk) (fun x _ => Z - (intOf x).toNat)
        case atStart => exact ⟨0, by omega, rfl, HO2.out, HB2.out⟩
        case round =>
          obtain ⟨k, hk, rfl, hok, hbk⟩ := hrel
          have HOk := Lib.hid hok
          have HBk := Lib.hid hbk
          have hszk := hbk.size
          clear hok hbk HO2 HB2
          by_cases hkt : k < Z
          · have f0 := HOk.out.frozenAt k
            have c0 := own_cell HOk.out hkt
            have hst := HOk.out.stored k (.int .u8 (((i + k) % 256 : Nat) : Int))
            have hst2 := hst
            rw [u8s_set, ← row1_get Z i k hkt, partly_step _ k (by rw [row1_length]; exact hkt), row1_get Z i k hkt] at hst2
            have he : (((i + k) % 256 : Nat) : Int) = (i : Int) + k := by omega
            rw [he] at hst2
            have HST := Lib.hid hst2
            clear hst hst2 he
            go_wp2_with fail
            go_roundw
            case rel => exact ⟨k + 1, by omega, by go_num, HST.out.1, HBk.out.grown HST.out.2 hszk (by intro j hj; simp at hj; omega)⟩
            case measure => simp [intOf]; omega
          · obtain rfl : k = Z := by omega
            have hY : partly (row1 k i) k = row1 k i := by have := partly_all (row1 k i); rw [row1_length] at this; exact this
            have hok := HOk.out
            rw [hY] at hok
            have HE : Hid (Elem w1.heap.size wr (.slice (some ⟨wo.heap.size, 0, none⟩) k k) (row1 k i)) := Lib.hid (by
              have := elem_own (base := w1.heap.size) (base' := wo.heap.size) (row1_lt k i) (by rw [row1_length]; exact hok)
              rw [row1_length] at this
              exact this)
            have HO3 := Lib.hid (HO.out.below HBk.out)
            have HB3 := Lib.hid (HB.out.trans (HBk.out.mono hsz))
            have hsz3 := HB3.out.size
            clear hok hY HOk HBk HO HB
            go_wp2_with (at_builtin; refine wpList_append_str1 rfl (.tmp 47) (.tmp 49) rfl w1.heap.size _ (rows1 k i) rfl HO3.out _ _ _ _ HE.out rfl (by rw [rows1_length]; omega) hsz3 ?_; intro v' w3 hown hgr)
            go_roundw
            case rel => exact ⟨i + 1, by omega, by go_num, by rw [rows1_succ]; exact hown, (HB3.out.alloc hsz3 _).grown hgr (by simp; omega) HO3.out.lt⟩
            case measure => simp [intOf]; omega
      · obtain rfl : i = N := by omega
        have HR := Lib.hid HO.out.isRows
        have HT3 := Lib.hid (HT1.out.below HB.out)
        go_wp2_with fail
        refine (laid_any _ (rows1 Z i) i _ HR.out hN).mono ?_
        intro e w4 h4
        obtain ⟨sp4, cp4, rfl, ho4, hb4⟩ := h4.s
        rw [parts_rows1 Z i hZ] at ho4 ⊢
        have HI4 := Lib.hid (isBytes_own (pcat_lt (rows1_lt Z i)) ho4)
        have HR4 := Lib.hid (HR.out.below hb4)
        have HT4 := Lib.hid (HT3.out.below hb4)
        have HB4 := Lib.hid (HB1.out.trans ((HB.out.trans (hb4.mono hsz)).mono HB1.out.size))
        have hlen := plaid_len (rows1 Z i) i
        have hscan := pscan_laid (rows1_lt Z i) i
        rw [parts_rows1 Z i hZ] at hlen hscan
        have HSC := Lib.hid hscan
        clear ho4 hb4 hscan HR HT3 HO HB
        go_wp2_with fail
        refine (told_any _ _ _ (rows1 Z i) _ HT4.out HI4.out HR4.out (by omega) HSC.out).mono ?_
        rintro e w5 ⟨rfl, hb5⟩
        have HB5 := Lib.hid (HB4.out.trans (hb5.mono HB4.out.size))
        clear hb5
        go_wp2_with fail
        go_ret
        exact ⟨rfl, HB5.out⟩
end Go.Proofs.YtoajgeemkmfboaaDoor

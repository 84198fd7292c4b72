/- foliolaw3.same: a contract. -/
import Derived.Test.YtoajgeemkmfboaaDoorCrcE
namespace Go.Proofs.YtoajgeemkmfboaaDoor
open Go.RowKit Pl

namespace Pl
theorem take_step {La Lb : List (List Nat)} {i : Nat} (h : La.take i = Lb.take i) (ha : i < La.length) (hb : i < Lb.length) (he : La.getD i [] = Lb.getD i []) : La.take (i + 1) = Lb.take (i + 1) := by
  rw [List.take_add_one, List.take_add_one, h, List.getElem?_eq_getElem ha, List.getElem?_eq_getElem hb]
  simp [List.getD, ha, hb] at he
  rw [he]
theorem take_ne {La Lb : List (List Nat)} {i : Nat} (ha : i < La.length) (he : La.getD i [] ≠ Lb.getD i []) : La ≠ Lb := fun h => he (by rw [h])
end Pl
def SamePost (La Lb : List (List Nat)) (w : World) (e : Ending) (w' : World) : Prop := e = .returned (.bool (decide (La = Lb))) ∧ ∃ m, w' = w.drewN m
attribute [local go_sem ↓] conv_eq
set_option maxHeartbeats 1000000 in
theorem same_any (va vb : Value) (La Lb : List (List Nat)) (w : World) (ha : IsRows w va La) (hb : IsRows w vb Lb) : Calls Tryd.prog 21 #[va, vb] w (SamePost La Lb w) := by
  obtain ⟨a, ca, rfl, hca, hma⟩ := ha.slice
  obtain ⟨b, cb, rfl, hcb, hmb⟩ := hb.slice
  unfold maxLen at hma hmb
  have HA := Lib.hid ha
  have HB := Lib.hid hb
  clear ha hb
  by_cases hl : La.length = Lb.length
  · have hl' : (La.length : Int) = Lb.length := by omega
    rw [← hl] at HB hcb ⊢
    have HL := Lib.hid hl
    clear hl hl'
    go_enter Tryd.func21, Tryd.ntmps21
    go_wp2_with fail
    go_loopw [5] (fun x wr => ∃ i : Nat, i ≤ La.length ∧ x = .int .i64 i ∧ La.take i = Lb.take i ∧ ∃ m, wr = w.drewN m) (fun x _ => La.length - (intOf x).toNat)
    case atStart => exact ⟨0, by omega, rfl, rfl, 0, rfl⟩
    case round =>
      obtain ⟨i, hi, rfl, ht, m, hm⟩ := hrel
      have HT := Lib.hid ht
      have HM := Lib.hid hm
      clear ht hm
      by_cases hlt : i < La.length
      · have HA' : IsRows wr (.slice a La.length ca) La := by rw [HM.out]; exact HA.out.drew m
        have HB' : IsRows wr (.slice b La.length cb) Lb := by rw [HM.out]; exact HB.out.drew m
        obtain ⟨ba, oa, a1, c1, rfl, hba, hc1, hI1⟩ := HA'.at hlt
        obtain ⟨bb, ob, a2, c2, rfl, hbb, hc2, hI2⟩ := HB'.at (i := i) (by rw [← HL.out]; exact hlt)
        have hv1 : ∀ k, (convS (.slice a1 (La.getD i []).length c1)).run Tryd.prog (wr.drewN k) = .ok (.string (str (La.getD i []))) (wr.drewN k) := fun k => run_conv (hI1.drew k)
        have hv2 : ∀ k, (convS (.slice a2 (Lb.getD i []).length c2)).run Tryd.prog (wr.drewN k) = .ok (.string (str (Lb.getD i []))) (wr.drewN k) := fun k => run_conv (hI2.drew k)
        have hne := str_eqb hI1.1 hI2.1
        have HS := Lib.hid (take_step (i := i) HT.out hlt (by rw [← HL.out]; exact hlt))
        have HN := Lib.hid (take_ne (Lb := Lb) hlt)
        clear hI1 hI2 HA' HB'
        generalize La.getD i [] = X at *
        generalize Lb.getD i [] = Y at *
        by_cases hXY : X = Y
        · have hne' : ((str X).toList == (str Y).toList) = true := by rw [hne]; simpa using hXY
          have HR := Lib.hid (HS.out hXY)
          clear hne hXY
          go_wp2_with fail
          go_quiet (fail)
          go_wp2_with fail
          go_roundw
          case rel => exact ⟨i + 1, by omega, by go_num, HR.out, m + nq, by rw [HM.out, World.drewN_drewN]⟩
          case measure => simp [intOf]; omega
        · have hne' : ((str X).toList == (str Y).toList) = false := by rw [hne]; simpa using hXY
          have HR := Lib.hid (HN.out hXY)
          clear hne hXY
          go_wp2_with fail
          go_quiet (fail)
          go_wp2_with fail
          go_ret
          exact ⟨by rw [decide_eq_false HR.out]; rfl, m + nq, by rw [HM.out, World.drewN_drewN]⟩
      · obtain rfl : i = La.length := by omega
        go_wp2_with fail
        go_ret
        have e := HT.out
        rw [List.take_length, List.take_of_length_le (by rw [HL.out]; omega)] at e
        exact ⟨by rw [decide_eq_true e]; rfl, m, HM.out⟩
  · have hne : La ≠ Lb := fun h => hl (by rw [h])
    have HN := Lib.hid hne
    have hd : ((La.length : Int) != (Lb.length : Int)) = true := by simp; omega
    clear hne
    go_enter Tryd.func21, Tryd.ntmps21
    go_wp2_with fail
    go_ret
    exact ⟨by rw [decide_eq_false HN.out]; rfl, 0, rfl⟩
end Go.Proofs.YtoajgeemkmfboaaDoor

/- folioref1.Forward: a contract. -/
import Derived.Test.YtklpmpniempmcaaBwtC
import Derived.Test.YtklpmpniempmcaaSufC
set_option linter.unusedSimpArgs false
set_option linter.unusedVariables false
namespace Go.Proofs.Ytklpmpniempmcaa
open Go.RowKit Pl
theorem own_types {w : World} {b1 b2 n1 n2 : Nat} {v1 v2 : Value} {x1 x2 : List Value} (h1 : w.ownsRow b1 3 1 v1 n1 x1) (h2 : w.ownsRow b2 5 1 v2 n2 x2) : v1.ownBlock = none ∨ v1.ownBlock ≠ v2.ownBlock := by
  obtain ⟨_, ⟨rfl, _⟩ | ⟨g, cap, cur, rfl, _, hh, _⟩⟩ := h1
  · exact .inl rfl
  · obtain ⟨_, ⟨rfl, _⟩ | ⟨g2, cap2, cur2, rfl, _, hh2, _⟩⟩ := h2
    · right; simp [Value.ownBlock]
    · right
      simp only [Value.ownBlock]
      intro e
      simp only [Option.some.injEq] at e
      subst e
      rw [hh] at hh2
      simp at hh2
theorem own_append {w w2 : World} {b1 b2 n1 n2 : Nat} {v1 v2 : Value} {x1 x2 : List Value} (h1 : w.ownsRow b1 3 1 v1 n1 x1) (h2 : w.ownsRow b2 5 1 v2 n2 x2) (o : Obj) (hg : (w.alloc o).grownBy w2 v2.ownBlock) : w2.ownsRow b1 3 1 v1 n1 x1 :=
  (h1.alloc o).kept hg (own_types h1 h2)
set_option maxHeartbeats 8000000 in
set_option maxRecDepth 100000 in
theorem forwardRef_any (v : Value) (B : List Nat) (N : Nat) (w : World) (hv : IsBytes w v B) (hN : B.length = N) (hB : N ≤ 900000) :
    Calls Try.prog 18 #[v] w (FwdPost B N w) := by
  by_cases h0 : N = 0
  · subst h0
    obtain rfl : B = [] := List.eq_nil_of_length_eq_zero hN
    obtain ⟨a, cap, rfl, hcap, hmax⟩ := hv.slice
    clear hv
    go_enter Try.func18, Try.ntmps18
    go_wp2_with fail
    go_ret2
    exact ⟨[], none, 0, 0, rfl, ⟨by unfold Rises; simp, by simp⟩, by simp [fwAt], by simpa [fwL] using isBytes_nil w, Below.refl _ _⟩
  have hbt0 : ((N : Int) == (0 : Int)) = false := beq_f (by omega)
  obtain ⟨a, cap, rfl, hcap, hmax⟩ := hv.slice
  have HX := Lib.hid hv.1
  rw [hN] at hv hcap ⊢
  obtain ⟨b3, o3, q3, e3, -, -, hb3, hx3⟩ := hv.cells (by omega)
  rw [hN] at e3 hx3
  simp only [Value.slice.injEq, Option.some.injEq] at e3
  obtain ⟨rfl, -, rfl⟩ := e3
  obtain ⟨m, hm⟩ : ∃ m, m = N - 1 := ⟨_, rfl⟩
  have hmI : (N : Int) - 1 = (m : Int) := by omega
  have hmN : m < N := by omega
  have d0 := hx3 m hmN
  have HF0 : Hid (fwL B [N] = [B.getD m 0]) := Lib.hid (by
    have := fwL_snoc B [] (x := N) h0
    rw [List.nil_append, ← hm] at this
    simpa [fwL] using this)
  have HV := Lib.hid hv
  have HN := Lib.hid hN
  have hxm := getD_lt HX.out m
  generalize B.getD m 0 = c at *
  clear hv hN hx3 hm
  go_enter Try.func18, Try.ntmps18
  go_wp2_with fail
  have HO1 : Hid ((w.alloc (.cells #[.int .u8 (c : Int)] 5)).ownsRow w.heap.size 5 1 (.slice (some ⟨w.heap.size, 0, none⟩) 1 1) 1 (u8s (fwL B [N]))) := Lib.hid (by rw [HF0.out]; exact own_new w (u8s [c]) 5 (Nat.le_refl _) (by simp [u8s, maxLen]))
  have HB1 : Hid (Below w.heap.size w (w.alloc (.cells #[.int .u8 (c : Int)] 5))) := Lib.hid ((Below.refl _ _).alloc (Nat.le_refl _) _)
  refine (suffixes_ref _ B _ (HV.out.below HB1.out) (by rw [HN.out]; omega)).mono ?_
  rintro e w2 ⟨R, sp2, c2, rfl, hR, hown, hb2⟩
  have hRl : R.length = N := by rw [sa_length hR, HN.out]
  rw [hRl] at hown ⊢
  have HR := Lib.hid hR
  have HRL := Lib.hid hRl
  have HS2 := Lib.hid (own_base hown HB1.out.size)
  have HO2 : Hid (w2.ownsRow w.heap.size 5 1 (.slice (some ⟨w.heap.size, 0, none⟩) 1 1) 1 (u8s (fwL B [N]))) := Lib.hid (own_below HO1.out hb2)
  have HB2 := Lib.hid (HB1.out.trans (hb2.mono HB1.out.size))
  clear hR hRl hown hb2 HO1 HB1 d0
  obtain ⟨p, hp1, hp2, hp3⟩ := at_ex HR.out
  have HFW := Lib.hid (fw_length HR.out)
  have HINJ : Hid (∀ r, r ≤ N → (N :: R).getD r 0 = 0 → r = p) := Lib.hid fun r hr h => ord_inj HR.out (by rw [HN.out]; exact hr) hp1 (by rw [hp2, HN.out]; exact h)
  rw [HN.out] at hp1 hp2 hp3 HFW
  have HP2 := Lib.hid hp2
  have HP3 := Lib.hid hp3
  have hp0 : 0 < p := by
    apply Classical.byContradiction
    intro hh
    rw [show p = 0 by omega, ord_get_zero] at hp2
    omega
  clear hp2 hp3
  have hbt1 : (0 : Nat) = (if p < 0 + 1 then p else 0) := by rw [if_neg (by omega)]
  have HBT1 := Lib.hid hbt1
  clear hbt1
  go_wp2_with fail
  go_loopw [4, 5, 7] (fun l y z wr => ∃ (k n wh : Nat) (sp : Option Addr) (cp : Nat), k ≤ N ∧ n ≤ k + 1 ∧ z = .int .i64 k ∧ y = .int .i64 wh ∧ wh = (if p < k + 1 then p else 0) ∧ l = .slice sp n cp ∧ (fwL B ((N :: R).take (k + 1))).length = n ∧ wr.ownsRow w.heap.size 5 1 (.slice sp n cp) n (u8s (fwL B ((N :: R).take (k + 1)))) ∧ wr.ownsRow w.heap.size 3 1 (.slice sp2 N c2) N (i64s (nI R)) ∧ Below w.heap.size w wr) (fun _ _ z _ => N - (intOf z).toNat)
  case atStart => exact ⟨0, 1, 0, _, _, by omega, by omega, rfl, rfl, HBT1.out, rfl, by show (fwL B [N]).length = 1; rw [HF0.out]; rfl, HO2.out, HS2.out, HB2.out⟩
  case round =>
    obtain ⟨k, n, wh, sp, cp, hk, hnk, rfl, rfl, hwh, rfl, hln, ho, hs, hbe⟩ := hrel
    have HWH := Lib.hid hwh
    have HLN := Lib.hid hln
    have HO := Lib.hid ho
    have HS := Lib.hid hs
    have HB := Lib.hid hbe
    have hsz := hbe.size
    clear hwh hln ho hs hbe HO2 HS2 HB2
    by_cases hlt : k < N
    · have HI := isInts_own (by rw [nI_length, HRL.out]) HS.out
      obtain ⟨b1, o1, q1, e1, -, -, -, hx1⟩ := HI.cells (by rw [nI_length, HRL.out]; omega)
      rw [nI_length, HRL.out] at e1 hx1
      simp only [Value.slice.injEq, Option.some.injEq] at e1
      obtain ⟨rfl, -, rfl⟩ := e1
      have d1 := hx1 k hlt
      rw [nI_get] at d1
      have hxle := sa_lt HR.out (k := k) (by rw [HRL.out]; exact hlt)
      rw [HN.out] at hxle
      have htk := take_snocF (N :: R) (k + 1) (by rw [List.length_cons, HRL.out]; omega)
      have hg1 : (N :: R).getD (k + 1) 0 = R.getD k 0 := rfl
      rw [hg1] at htk
      have HTK := Lib.hid htk
      have HIN : Hid (R.getD k 0 = 0 → k + 1 = p) := Lib.hid (HINJ.out (k + 1) (by omega))
      have HPK : Hid (k + 1 = p → R.getD k 0 = 0) := Lib.hid fun e => by rw [← hg1, e]; exact HP2.out
      generalize R.getD k 0 = x at *
      clear hx1 HI htk hg1
      by_cases hx0 : x = 0
      · subst hx0
        have HKP := Lib.hid (HIN.out rfl)
        have HTK : Hid (fwL B ((N :: R).take (k + 1 + 1)) = fwL B ((N :: R).take (k + 1))) := Lib.hid (by rw [HTK.out, fwL_zero])
        have hz : ((0 : Int) == (0 : Int)) = true := rfl
        go_wp2_with fail
        refine ⟨⟨k + 1, n, k + 1, sp, cp, by omega, by omega, by first | rfl | go_num, by first | rfl | go_num, by rw [if_pos (by have := HKP.out; omega)]; exact HKP.out, rfl, by rw [HTK.out]; exact HLN.out, by rw [HTK.out]; exact HO.out, HS.out, HB.out⟩, ?_⟩
        simp only [intOf_i]; omega
      · have hz : ((x : Int) == (0 : Int)) = false := beq_f (by omega)
        have hkp : k + 1 ≠ p := fun e => hx0 (HPK.out e)
        have HKP := Lib.hid hkp
        clear hkp
        have HFS := Lib.hid (fwL_snoc B ((N :: R).take (k + 1)) hx0)
        obtain ⟨b3, o3, q3, e3, -, -, -, hx3⟩ := (HV.out.below HB.out).cells (by rw [HN.out]; omega)
        simp only [Value.slice.injEq, Option.some.injEq, Addr.mk.injEq, and_true] at e3
        obtain ⟨⟨rfl, rfl⟩, -, rfl⟩ := e3
        obtain ⟨y, hy⟩ : ∃ y, y = x - 1 := ⟨_, rfl⟩
        rw [← hy] at HFS
        have d2 := hx3 y (by rw [HN.out]; omega)
        have hyI : (x : Int) - 1 = (y : Int) := by omega
        have hyN : y < N := by omega
        generalize B.getD y 0 = c at *
        have HSN : Hid (fwL B ((N :: R).take (k + 1 + 1)) = fwL B ((N :: R).take (k + 1)) ++ [c]) := Lib.hid (by rw [HTK.out, HFS.out])
        clear hx3 hy
        go_wp2_with (at_builtin; refine wpList_append_byte_at rfl (.tmp 33) (.tmp 42) rfl w.heap.size _ n _ (c : Int) rfl HO.out _ rfl rfl (by omega) hsz ?_; intro v6 w6 hown hgr; rw [← u8s_snoc, ← HSN.out] at hown; have HO6 := Lib.hid hown; have HB6 := Lib.hid (bel_append HB.out _ HO.out hgr hsz); have HS6 := Lib.hid (own_append HS.out HO.out _ hgr); obtain ⟨sp6, cp6, rfl, _, _⟩ := ownsRow_slice hown; clear hown hgr)
        refine ⟨⟨k + 1, n + 1, wh, sp6, cp6, by omega, by omega, by first | rfl | go_num, rfl, ?_, rfl, by rw [HSN.out, List.length_append, HLN.out]; rfl, HO6.out, HS6.out, HB6.out⟩, ?_⟩
        · rw [HWH.out]
          have := HKP.out
          by_cases e : p < k + 1
          · rw [if_pos e, if_pos (by omega)]
          · rw [if_neg e, if_neg (by omega)]
        · simp only [intOf_i]; omega
    · obtain rfl : k = N := by omega
      obtain rfl : wh = p := by rw [HWH.out, if_pos (by omega)]
      rw [List.take_of_length_le (by rw [List.length_cons, HRL.out]; exact Nat.le_refl _)] at HLN HO
      obtain rfl : n = k := by rw [← HLN.out, HFW.out]
      go_wp2_with fail
      go_ret2
      exact ⟨R, sp, cp, wh, rfl, HR.out, HP3.out, isBytes_ownS (fwL_lt HX.out _) HLN.out.symm (by rw [HLN.out]; exact HO.out), HB.out⟩
end Go.Proofs.Ytklpmpniempmcaa

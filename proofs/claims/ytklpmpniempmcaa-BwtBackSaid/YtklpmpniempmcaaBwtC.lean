/- bwt.Forward: a contract. -/
import Derived.Test.YtklpmpniempmcaaBwtP
import Derived.Test.YtklpmpniempmcaaSufT
import Derived.Test.YtklpmpniempmcaaApI
set_option linter.unusedSimpArgs false
set_option linter.unusedVariables false
namespace Go.Proofs.Ytklpmpniempmcaa
open Go.RowKit Pl
namespace Pl
theorem fwL_zero (B L : List Nat) : fwL B (L ++ [0]) = fwL B L := by simp [fwL]
theorem fwL_snoc (B L : List Nat) {x : Nat} (h : x ≠ 0) : fwL B (L ++ [x]) = fwL B L ++ [B.getD (x - 1) 0] := by
  have : (x != 0) = true := by rw [bne_iff_ne]; exact h
  simp [fwL, this]
theorem fwL_lt {B : List Nat} (h : ∀ x ∈ B, x < 256) (O : List Nat) : ∀ x ∈ fwL B O, x < 256 := by
  intro x hx
  unfold fwL at hx
  obtain ⟨o, _, rfl⟩ := List.mem_map.1 hx
  exact getD_lt h _
theorem take_snocF (L : List Nat) (k : Nat) (h : k < L.length) : L.take (k + 1) = L.take k ++ [L.getD k 0] := by
  rw [List.take_add_one, List.getElem?_eq_getElem h, getD_get L 0 h]; rfl
end Pl
/-- what Forward answers: the transform, and where the whole stands -/
def FwdPost (B : List Nat) (N : Nat) (w : World) (e : Ending) (w' : World) : Prop :=
  ∃ (R : List Nat) (sp : Option Addr) (cap a : Nat), e = .returned (.tuple #[.slice sp N cap, .int .i64 a]) ∧ IsSA B R ∧ fwAt (N :: R) = a ∧ IsBytes w' (.slice sp N cap) (fwL B (N :: R)) ∧ Below w.heap.size w w'
set_option maxHeartbeats 8000000 in
set_option maxRecDepth 100000 in
theorem forward_any (v : Value) (B : List Nat) (N : Nat) (w : World) (hv : IsBytes w v B) (hN : B.length = N) (hB : N ≤ 900000) :
    Calls Try.prog 17 #[v] w (FwdPost B N w) := by
  have hsort := sort_any v B w hv (by omega)
  obtain ⟨a, cap, rfl, hcap, hmax⟩ := hv.slice
  have HX := Lib.hid hv.1
  rw [hN] at hv hcap hsort ⊢
  have HV := Lib.hid hv
  have HN := Lib.hid hN
  have HSORT := Lib.hid hsort
  clear hv hN hsort
  obtain ⟨i0, hi, hz0, hz1, hz2⟩ := info_parts info5
  have Hi := Lib.hid hi
  have Hz0 := Lib.hid hz0
  have Hz1 := Lib.hid hz1
  have Hz2 := Lib.hid hz2
  clear hi hz0 hz1 hz2
  go_enter Try.func17, Try.ntmps17
  go_wp2_with fail
  refine HSORT.out.mono ?_
  rintro e w1 ⟨g, R, rfl, hg, hown, hR, hb1⟩
  rw [HN.out] at hown ⊢
  have HR := Lib.hid hR
  have HO := Lib.hid hown
  have HB1 := Lib.hid hb1
  have hg1 := hown.lt
  clear hR hown hb1 HSORT
  have hins := insert_any g w1.heap.size N w.heap.size N (nI R) (w1.alloc (.cells #[.int .i64 (N : Int)] 3)) (HO.out.below ((Below.refl _ _).alloc (Nat.le_refl _) _)) (Blk.new w1 _ [.int .i64 (N : Int)]) (by omega) hg (by omega)
  rw [show (N : Int) :: nI R = nI (N :: R) from (nI_cons N R).symm] at hins
  have HINS := Lib.hid hins
  clear hins
  go_wp2_with fail
  refine HINS.out.mono ?_
  rintro e w2 ⟨sp2, c2, rfl, hi2, hb2⟩
  have HI2 := Lib.hid hi2
  have HB2 : Hid (Below w.heap.size w w2) := Lib.hid ((HB1.out.alloc HB1.out.size _).trans hb2)
  clear hi2 hb2 HINS HO HB1
  obtain ⟨O, hO⟩ : ∃ O, O = N :: R := ⟨_, rfl⟩
  have hOl : O.length = N + 1 := by rw [hO, List.length_cons, sa_length HR.out, HN.out]
  obtain ⟨p, hp1, hp2, hp3⟩ := at_ex HR.out
  have HFW := Lib.hid (fw_length HR.out)
  have HINJ : Hid (∀ r, r ≤ N → O.getD r 0 = 0 → r = p) := Lib.hid fun r hr h => ord_inj HR.out (by rw [HN.out]; exact hr) hp1 (by rw [hp2, HN.out, ← hO]; exact h)
  have HLE : Hid (∀ r, r ≤ N → O.getD r 0 ≤ N) := Lib.hid fun r hr => by
    have := ord_le HR.out (r := r) (by rw [HN.out]; exact hr)
    rw [HN.out, ← hO] at this
    exact this
  rw [HN.out] at hp1 hp2 hp3 HFW
  rw [← hO] at hp2 hp3 HFW HI2
  have HOE := Lib.hid hO
  have HOL := Lib.hid hOl
  have HP2 := Lib.hid hp2
  have HP3 := Lib.hid hp3
  clear hO hOl hp2 hp3
  obtain ⟨M, hM⟩ : ∃ M, M = N + 1 := ⟨_, rfl⟩
  rw [← hM] at HOL HI2 ⊢
  have HM := Lib.hid hM
  have hML : M ≤ 900001 := by omega
  have hpM : p < M := by omega
  clear hM
  go_wp2_with (at_make; refine wpList_make_own _ rfl _ _ 22 rfl w2.heap.size 5 i0 (.int .u8 0) 1 Try.underlying22 Hi.out Hz0.out Hz1.out .i64 .i64 _ N rfl rfl (by first | rfl | (simp; done) | omega) (by rw [Hz2.out]; omega) (by unfold maxLen; omega) (Nat.le_refl _) ?_; intro w3 hown hgr)
  have HO3 : Hid (w3.ownsRow w2.heap.size 5 1 (.slice (some ⟨w2.heap.size, 0, none⟩) 0 N) 0 (u8s (fwL B (O.take 0)))) := Lib.hid (by simpa [fwL, u8s] using hown)
  have HB3 : Hid (Below w2.heap.size w2 w3) := Lib.hid ((Below.refl _ _).grown hgr (Nat.le_refl _) (by simp))
  clear hown hgr
  go_wp2_with fail
  go_loopw [5, 6, 20] (fun l y z wr => ∃ (k n wh : Nat) (sp : Option Addr) (cp : Nat), k ≤ M ∧ n ≤ k ∧ z = .int .i64 k ∧ y = .int .i64 wh ∧ wh = (if p < k then p else 0) ∧ l = .slice sp n cp ∧ (fwL B (O.take k)).length = n ∧ wr.ownsRow w2.heap.size 5 1 (.slice sp n cp) n (u8s (fwL B (O.take k))) ∧ Below w2.heap.size w2 wr) (fun _ _ z _ => M - (intOf z).toNat)
  case atStart => exact ⟨0, 0, 0, _, _, by omega, by omega, rfl, rfl, by simp, rfl, by simp [fwL], HO3.out, HB3.out⟩
  case round =>
    obtain ⟨k, n, wh, sp, cp, hk, hnk, rfl, rfl, hwh, rfl, hln, ho, hbe⟩ := hrel
    have HWH := Lib.hid hwh
    have HLN := Lib.hid hln
    have HO := Lib.hid ho
    have HI := Lib.hid (HI2.out.below hbe)
    have HB := Lib.hid hbe
    have hsz := hbe.size
    clear hwh hln ho hbe HO3 HB3
    by_cases hlt : k < M
    · obtain ⟨b1, o1, q1, e1, -, -, -, hx1⟩ := HI.out.cells (by rw [nI_length, HOL.out]; omega)
      rw [nI_length, HOL.out] at e1 hx1
      simp only [Value.slice.injEq, Option.some.injEq] at e1
      obtain ⟨rfl, -, rfl⟩ := e1
      have d1 := hx1 k hlt
      rw [nI_get] at d1
      have hxle := HLE.out k (by have := HM.out; omega)
      have HTK := Lib.hid (take_snocF O k (by rw [HOL.out]; exact hlt))
      have HIN := Lib.hid (HINJ.out k (by have := HM.out; omega))
      have HPK : Hid (k = p → O.getD k 0 = 0) := Lib.hid fun e => by rw [e]; exact HP2.out
      generalize O.getD k 0 = x at *
      clear hx1
      by_cases hx0 : x = 0
      · subst hx0
        obtain rfl := HIN.out rfl
        have HTK : Hid (fwL B (O.take (k + 1)) = fwL B (O.take k)) := Lib.hid (by rw [HTK.out, fwL_zero])
        have hz : ((0 : Int) == (0 : Int)) = true := rfl
        go_wp2_with fail
        refine ⟨⟨k + 1, n, k, sp, cp, by omega, by omega, by first | rfl | go_num, by first | rfl | go_num, by rw [if_pos (by omega)], rfl, by rw [HTK.out]; exact HLN.out, by rw [HTK.out]; exact HO.out, HB.out⟩, ?_⟩
        simp only [intOf_i]; omega
      · have hz : ((x : Int) == (0 : Int)) = false := beq_f (by omega)
        have hkp : k ≠ p := fun e => hx0 (HPK.out e)
        have HFS := Lib.hid (fwL_snoc B (O.take k) hx0)
        obtain ⟨b3, o3, q3, e3, -, -, -, hx3⟩ := (HV.out.below (HB2.out.trans (HB.out.mono HB2.out.size))).cells (by rw [HN.out]; omega)
        simp only [Value.slice.injEq, Option.some.injEq] at e3
        obtain ⟨rfl, -, rfl⟩ := e3
        obtain ⟨y, hy⟩ : ∃ y, y = x - 1 := ⟨_, rfl⟩
        rw [← hy] at HFS
        have d2 := hx3 y (by rw [HN.out]; omega)
        have hyI : (x : Int) - 1 = (y : Int) := by omega
        have hyN : y < N := by omega
        generalize B.getD y 0 = c at *
        have HSN : Hid (fwL B (O.take (k + 1)) = fwL B (O.take k) ++ [c]) := Lib.hid (by rw [HTK.out, HFS.out])
        clear hx3 hy
        go_wp2_with (at_builtin; refine wpList_append_byte_at rfl (.tmp 28) (.tmp 34) rfl w2.heap.size _ n _ (c : Int) rfl HO.out _ rfl rfl (by omega) hsz ?_; intro v6 w6 hown hgr; rw [← u8s_snoc, ← HSN.out] at hown; have HO6 := Lib.hid hown; have HB6 := Lib.hid (bel_append HB.out _ HO.out hgr hsz); obtain ⟨sp6, cp6, rfl, _, _⟩ := ownsRow_slice hown; clear hown hgr)
        refine ⟨⟨k + 1, n + 1, wh, sp6, cp6, by omega, by omega, by first | rfl | go_num, rfl, ?_, rfl, by rw [HSN.out, List.length_append, HLN.out]; rfl, HO6.out, HB6.out⟩, ?_⟩
        · rw [HWH.out]
          by_cases e : p < k
          · rw [if_pos e, if_pos (by omega)]
          · rw [if_neg e, if_neg (by omega)]
        · simp only [intOf_i]; omega
    · obtain rfl : k = M := by omega
      obtain rfl : wh = p := by rw [HWH.out, if_pos hpM]
      rw [List.take_of_length_le (by rw [HOL.out]; exact Nat.le_refl _)] at HLN HO
      obtain rfl : n = N := by rw [← HLN.out, HFW.out]
      go_wp2_with fail
      go_ret2
      exact ⟨R, sp, cp, wh, rfl, HR.out, by rw [← HOE.out]; exact HP3.out, by rw [← HOE.out]; exact isBytes_ownS (fwL_lt HX.out O) HLN.out.symm (by rw [HLN.out]; exact HO.out), HB2.out.trans (HB.out.mono HB2.out.size)⟩
end Go.Proofs.Ytklpmpniempmcaa

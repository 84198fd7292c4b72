/- suffix.Common, of the right order: a contract. -/
import Derived.Test.YtklpmpniempmcaaSufU
import Derived.BigRegion
set_option linter.unusedSimpArgs false
set_option linter.unusedVariables false
namespace Go.Proofs.Ytklpmpniempmcaa
open Go.RowKit Pl
attribute [local go_sem ↓] maxI_eq
set_option maxRecDepth 100000 in
set_option maxHeartbeats 16000000 in
theorem common_any (v sv : Value) (B R : List Nat) (w : World) (hv : IsBytes w v B) (hs : IsInts w sv (nI R)) (hR : IsSA B R) (hB : B.length ≤ 900000) :
    Calls Try.prog 14 #[v, sv] w (MadeL (nI (comL B R)) w) := by
  have hRl := sa_length hR
  have hpl := places_any v sv B R w hv hs hR hB
  obtain ⟨a, cap, rfl, hcap, hmax, hcell⟩ := bytes_cell hv
  obtain ⟨sa, scap, rfl, hsc1, hsc2⟩ := hs.slice
  have hsc : ∀ i, i < R.length → ∃ b off, sa = some ⟨b, off, none⟩ ∧ b < w.heap.size ∧ w.cell? ⟨b, off + i, none⟩ = some (.int .i64 (R.getD i 0 : Nat)) := fun i hi => by
    obtain ⟨b, off, c, e, _, _, hb, hx⟩ := hs.cells (by rw [nI_length]; omega)
    simp at e
    exact ⟨b, off, e.1, hb, by rw [hx i (by rw [nI_length]; exact hi), nI_get]⟩
  rw [nI_length] at hsc1 hpl ⊢
  rw [hRl] at hsc1 hpl ⊢
  obtain ⟨i0, hi, hz0, hz1, hz2⟩ := infoI_parts infoI
  have Hi := Lib.hid hi
  have Hz0 := Lib.hid hz0
  have Hz1 := Lib.hid hz1
  have Hz2 := Lib.hid hz2
  have HC := Lib.hid hcell
  have HS := Lib.hid hsc
  have HR := Lib.hid hR
  have HRL := Lib.hid hRl
  obtain ⟨N, hN⟩ : ∃ N, B.length = N := ⟨_, rfl⟩
  have HN := Lib.hid hN
  rw [hN] at hcap hB hsc1 hpl ⊢
  clear hv hs hcell hsc hR hRl hN hi hz0 hz1 hz2
  go_enter Try.func14, Try.ntmps14
  go_wp2_with fail
  refine hpl.mono ?_
  rintro e w1 ⟨g, P, rfl, hg, hP, hPl, hb1⟩
  clear hpl
  rw [HN.out] at hP ⊢
  have hsz1 := hb1.size
  have HP0 := Lib.hid hP
  have HPL := Lib.hid hPl
  have HB1 := Lib.hid hb1
  have hgl := hP.lt
  clear hP hPl hb1
  go_wp2_with (at_make; refine wpList_make_full _ rfl _ _ 25 rfl w.heap.size 3 i0 (.int .i64 0) 1 Try.underlying25 Hi.out Hz0.out Hz1.out .i64 .i64 _ _ N rfl rfl (by first | rfl | omega) (by first | rfl | omega) (by rw [Hz2.out]; omega) (by unfold maxLen; omega) hsz1 ?_; intro w2 hown hgr)
  have HG2 : Hid (Blk w2 w1.heap.size 3 (i64s (List.replicate N 0))) := Lib.hid (by
    have := made_blk hown
    rw [madeI] at this
    exact this)
  have HP2 := Lib.hid (HP0.out.below ((Below.refl _ w1).grown hgr (Nat.le_refl _) (by simp)))
  have HB2 := Lib.hid (HB1.out.grown hgr hsz1 (by simp))
  clear hown hgr HP0 HB1
  go_wp2_with fail
  go_loopw [8, 25] (fun y x wr => ∃ (i cur : Nat) (L : List Int), i ≤ N ∧ x = .int .i64 i ∧ y = .int .i64 cur ∧ KInv B R P L i cur ∧ Blk wr w1.heap.size 3 (i64s L) ∧ Gr w2 wr w1.heap.size) (fun _ x _ => N - (intOf x).toNat)
  case atStart => exact ⟨0, 0, _, Nat.zero_le _, rfl, rfl, by have := k_start B R P; rwa [HRL.out, HN.out] at this, HG2.out, Gr.refl _ _⟩
  case round =>
    obtain ⟨i, cur, L, hiN, rfl, rfl, hK, hb, hgr⟩ := hrel
    have HK := Lib.hid hK
    have HBL := Lib.hid hb
    have HG := Lib.hid hgr
    have HPr := Lib.hid (HP2.out.gr hgr (by omega))
    have HB := Lib.hid (Below.trans HB2.out (Gr.below hgr HB2.out.size (by omega)))
    have hcurN := hK.small
    rw [HN.out] at hcurN
    clear hK hb hgr HG2
    by_cases hlt : i < N
    · have hiB : i < B.length := by rw [HN.out]; exact hlt
      obtain ⟨k, hkR, hke⟩ := sa_idx HR.out hiB
      have cP := HPr.out.cell (i := i) (by omega)
      rw [show P.getD i 0 = (k : Int) by rw [← hke]; exact HPL.out.2.1 k hkR] at cP
      have hkN : k < N := by rw [HRL.out, HN.out] at hkR; exact hkR
      rcases k with _ | k
      · have HK2 := Lib.hid (k_first HR.out HK.out hiB hke (by omega))
        clear hke
        go_wp2_with fail
        refine ⟨⟨i + 1, 0, L, by omega, by first | rfl | go_num, rfl, HK2.out, HBL.out, HG.out⟩, ?_⟩
        simp only [intOf_i]; omega
      · obtain ⟨b, off, rfl, hbw, cs⟩ := HS.out k (by omega)
        rw [← HB.out.cell (p := ⟨b, off + k, none⟩) hbw] at cs
        have hbf := sa_lt HR.out (by omega : k < R.length)
        rw [HN.out] at hbf
        have hlow := HK.out.low hiB k hke hkR
        have HNX := Lib.hid (k_next HR.out HK.out hkR hke)
        have hMle := lcpAt_le B (R.getD k 0) i
        rw [HN.out] at hMle
        have HLM := Lib.hid (fun (n : Nat) (h : n ≤ lcpAt B (R.getD k 0) i) => lcp_more (B := B) (n := n) h)
        obtain ⟨lb, lo, rfl, hlb, hlx⟩ := HC.out (by omega)
        have HLX := Lib.hid (fun (x : Nat) (hx : x < N) (W : World) (hW : Below w.heap.size w W) => (hW.cell (p := ⟨lb, lo + x, none⟩) hlb).trans (hlx x (by rw [HN.out]; exact hx)))
        have hLl : k + 1 < L.length := by rw [HK.out.len]; exact hkR
        have cL := HBL.out.cell (i64s_get L (k + 1) hLl)
        have ek : ((k + 1 : Nat) : Int) - 1 = (k : Int) := by omega
        clear hke hlx hiB
        generalize R.getD k 0 = bf at *
        obtain ⟨M, hM⟩ : ∃ M, lcpAt B bf i = M := ⟨_, rfl⟩
        rw [hM] at hlow hMle HNX HLM
        obtain ⟨hM1, hM2⟩ := hMle
        clear hM
        generalize L.getD (k + 1) 0 = old at *
        have hmx := fun ats ty W => run_maxI ats ty i bf W
        have hmx1 : i ≤ Nat.max i bf := Nat.le_max_left _ _
        have hmx2 : bf ≤ Nat.max i bf := Nat.le_max_right _ _
        have hmx3 : Nat.max i bf < N := Nat.max_lt.2 ⟨hlt, hbf⟩
        have hmxe : Nat.max i bf = i ∨ Nat.max i bf = bf := by
          rcases Nat.le_total i bf with h | h
          · exact .inr (Nat.max_eq_right h)
          · exact .inl (Nat.max_eq_left h)
        generalize Nat.max i bf = mx at *
        obtain ⟨wo, hwo⟩ : ∃ wo : World, wo = wr := ⟨_, rfl⟩
        subst hwo
        have CL := Lib.hid cL
        have FL := Lib.hid (HBL.out.frozen (k + 1))
        clear cL
        go_wp2_with fail
        go_loopw [8] (fun y wr => ∃ (n q : Nat), n ≤ M ∧ y = .int .i64 n ∧ wr = wo.drewN q) (fun y _ => M - (intOf y).toNat)
        case atStart => exact ⟨cur, 0, hlow, rfl, rfl⟩
        case round =>
          obtain ⟨n, q, hn, rfl, rfl⟩ := hrel
          have hbq := bel_drewN HB.out q
          obtain ⟨wn, hwn⟩ : ∃ wn : World, wo.drewN q = wn := ⟨_, rfl⟩
          rw [hwn] at hbq ⊢
          have HWN := Lib.hid hwn
          clear hwn
          have hlm := HLM.out n hn
          rw [HN.out] at hlm
          by_cases hnM : n < M
          · obtain ⟨h1, h2, h3⟩ := hlm.1 hnM
            have cA := HLX.out (i + n) h2 wn hbq
            have cB := HLX.out (bf + n) h1 wn hbq
            rw [h3] at cB
            have hmn : mx + n < N := by omega
            generalize B.getD (i + n) 0 = y at *
            clear hlm h3
            have hmnI : (mx : Int) + (n : Int) < (N : Int) := by omega
            go_wp2_with fail
            go_quiet (fail)
            rename_i nq
            go_wp2_with fail
            refine ⟨⟨n + 1, q + nq, by omega, by first | rfl | go_num, by rw [← HWN.out, drewN_two]⟩, ?_⟩
            simp only [intOf_i]; omega
          · by_cases hmn : mx + n < N
            · have hne : B.getD (i + n) 0 ≠ B.getD (bf + n) 0 := fun e => hnM (hlm.2 ⟨by omega, by omega, e.symm⟩)
              have cA := HLX.out (i + n) (by omega) wn hbq
              have cB := HLX.out (bf + n) (by omega) wn hbq
              generalize B.getD (i + n) 0 = y at *
              generalize B.getD (bf + n) 0 = z at *
              obtain rfl : n = M := by omega
              have hmnI : (mx : Int) + (n : Int) < (N : Int) := by omega
              have hi1 : i + n < N := by omega
              have hi2 : bf + n < N := by omega
              have h2 : ((y : Int) == (z : Int)) = false := beq_f (by omega)
              have h2b : (y == z) = false := beq_eq_false_iff_ne.2 (by omega)
              clear hlm hne
              go_wp2_with fail
              go_quiet (fail)
              rename_i nq
              have hbel : Below w.heap.size w (wn.drewN nq) := bel_drewN hbq nq
              have hblk : Blk (wn.drewN nq) w1.heap.size 3 (i64s L) := by rw [← HWN.out]; exact HBL.out
              have hgr : Gr w2 (wn.drewN nq) w1.heap.size := by rw [← HWN.out]; exact (HG.out.drewN _).drewN _
              generalize wn.drewN nq = wz at *
              have cL : wz.cell? ⟨w1.heap.size, k + 1, none⟩ = some (.int .i64 old) := by
                have := hblk.cell (i64s_get L (k + 1) hLl)
                have h2 := HBL.out.cell (i64s_get L (k + 1) hLl)
                have h3 := CL.out
                rw [h2] at h3
                rw [this]
                exact h3
              have fL := hblk.frozen (k + 1)
              have hset := hblk.set (k + 1) (.int .i64 (n : Nat))
              rw [i64s_set] at hset
              have HSET := Lib.hid hset
              have HGS := Lib.hid (hgr.setCell (k + 1) (.int .i64 (n : Nat)))
              have hm0 := fun ats ty W => run_maxI0 ats ty n W
              clear hmx hblk hgr hset hbel
              go_wp2_with fail
              refine ⟨⟨i + 1, n - 1, _, by omega, by first | rfl | go_num, rfl, HNX.out, HSET.out, HGS.out⟩, ?_⟩
              simp only [intOf_i]; omega
            · obtain rfl : n = M := by omega
              have hmnI : ¬ (mx : Int) + (n : Int) < (N : Int) := by omega
              have hmnJ : (N : Int) ≤ (mx : Int) + (n : Int) := by omega
              have hmnK : (mx : Int) + (n : Int) ≤ 1800000 := by omega
              have hnK : n ≤ 900000 := by omega
              have hwK : IntKind.i64.wrap ((mx : Int) + (n : Int)) = (mx : Int) + (n : Int) := by first | (rw [IntKind.wrap_i64]; omega) | (unfold IntKind.wrap; simp [IntKind.signed, IntKind.bits]; omega)
              have hmxK : mx ≤ 900000 := by omega
              have hdec : decide ((mx : Int) + (n : Int) < (N : Int)) = false := decide_eq_false hmnI
              clear hlm
              go_wp2_with fail
              go_quiet (fail)
              rename_i nq
              have hbel : Below w.heap.size w (wn.drewN nq) := bel_drewN hbq nq
              have hblk : Blk (wn.drewN nq) w1.heap.size 3 (i64s L) := by rw [← HWN.out]; exact HBL.out
              have hgr : Gr w2 (wn.drewN nq) w1.heap.size := by rw [← HWN.out]; exact (HG.out.drewN _).drewN _
              generalize wn.drewN nq = wz at *
              have cL : wz.cell? ⟨w1.heap.size, k + 1, none⟩ = some (.int .i64 old) := by
                have := hblk.cell (i64s_get L (k + 1) hLl)
                have h2 := HBL.out.cell (i64s_get L (k + 1) hLl)
                have h3 := CL.out
                rw [h2] at h3
                rw [this]
                exact h3
              have fL := hblk.frozen (k + 1)
              have hset := hblk.set (k + 1) (.int .i64 (n : Nat))
              rw [i64s_set] at hset
              have HSET := Lib.hid hset
              have HGS := Lib.hid (hgr.setCell (k + 1) (.int .i64 (n : Nat)))
              have hm0 := fun ats ty W => run_maxI0 ats ty n W
              clear hmx hblk hgr hset hbel
              go_wp2_with fail
              refine ⟨⟨i + 1, n - 1, _, by omega, by first | rfl | go_num, rfl, HNX.out, HSET.out, HGS.out⟩, ?_⟩
              simp only [intOf_i]; omega
    · obtain rfl : i = N := by omega
      have hk := HK.out
      rw [← HN.out] at hk
      have hL := k_end HR.out hk
      have HLE : Hid (L = nI (comL B R)) := Lib.hid hL
      have hll : L.length = i := by rw [HK.out.len, HRL.out, HN.out]
      have HOWN : Hid (wr.ownsRow w.heap.size 3 1 (.slice (some ⟨w1.heap.size, 0, none⟩) i i) i (i64s L)) := Lib.hid ⟨by rw [i64s_length]; omega, .inr ⟨w1.heap.size, i, (i64s L).toArray, rfl, hsz1, HBL.out, Nat.le_refl _, by unfold maxLen; omega, by simp [i64s, hll], by rw [Nat.mul_one]; exact List.take_of_length_le (by rw [i64s_length]; omega)⟩⟩
      have HLL := Lib.hid hll
      clear hk hL hll
      go_wp2_with fail
      go_ret
      refine ⟨_, _, _, rfl, ?_, ?_, HB.out⟩
      · rw [← HLE.out]; exact HLL.out
      · rw [← HLE.out]; exact HOWN.out
end Go.Proofs.Ytklpmpniempmcaa

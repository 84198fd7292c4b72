/- LengthsScale, walked. -/
import Derived.Test.YtnoleijdpilnpaaLenK
set_option linter.unusedSimpArgs false
set_option linter.unusedVariables false
namespace Go.Proofs.Ytnoleijdpilnpaa
open Go.RowKit Go.Shelf Pl
namespace Pl
theorem take_map_snoc {F : List Int} {i : Nat} (h : i < F.length) (k : Int) : (F.take (i + 1)).map (· * k) = (F.take i).map (· * k) ++ [F.getD i 0 * k] := by
  rw [List.take_succ_eq_append_getElem h, List.map_append]; simp [List.getD, h]
theorem upto_next {F : List Int} {m : Int} {i : Nat} (h : i < F.length) (hx : 0 ≤ F.getD i 0 ∧ F.getD i 0 ≤ m) (hp : ∀ v ∈ F.take i, 0 ≤ v ∧ v ≤ m) : ∀ v ∈ F.take (i + 1), 0 ≤ v ∧ v ≤ m := by
  intro v hv
  rw [List.take_succ_eq_append_getElem h] at hv
  rcases List.mem_append.1 hv with hv | hv
  · exact hp v hv
  · simp at hv
    subst hv
    have e : F.getD i 0 = F[i] := by simp [List.getD, h]
    rwa [e] at hx
end Pl
set_option maxHeartbeats 8000000 in
set_option maxRecDepth 100000 in
theorem lengthsScale_walk (a : Option Addr) (len cap : Nat) (z : List Int) (k : Int) (w : World) (hr : IsRow .i64 w a len cap z) (wk : (Lit.int .i64 k).wf = true) :
    Calls Try.prog 7 #[.slice a len cap, .int .i64 k] w fun e w' => e = .returned (.bool true) ∧ Below w.heap.size w w' := by
  obtain ⟨hF0, hFl⟩ := isInts_row hr
  generalize z.take len = F0 at *
  clear hr wk
  have HF0 := Lib.hid hF0
  clear hF0
  go_enter Try.func7, Try.ntmps7
  go_wp2_with fail
  refine (begun_any _).mono ?_
  rintro e w1 ⟨rfl, hb1⟩
  have HB1 := Lib.hid hb1
  clear hb1
  go_wp2_with fail
  refine (cut_any _ F0 w1 (HF0.out.below HB1.out)).mono ?_
  rintro e w1 ⟨⟨fa, fn, fc, rfl, hfn, hfc, hfm, hF⟩, rfl⟩
  have hl305 : fn ≤ 305 := by rw [← hfn, List.length_take]; omega
  generalize F0.take 305 = F at *
  have HF := Lib.hid hF
  have hfn1 : F.length ≤ fn := by omega
  have hfn2 : fn ≤ F.length := by omega
  clear hF hfn
  by_cases c1 : k < 1
  · go_wp2
    go_ret
    exact ⟨rfl, HB1.out⟩
  by_cases c2 : 100 < k
  · go_wp2
    go_ret
    exact ⟨rfl, HB1.out⟩
  go_wp2_with fail
  go_loopw [6, 7] (fun x6 x7 wr => ∃ i : Nat, i ≤ fn ∧ x7 = .int .i64 i ∧ wr.ownsRow w1.heap.size 2 1 x6 i (i64s ((F.take i).map (· * k))) ∧ (∀ v ∈ F.take i, 0 ≤ v ∧ v ≤ 1048576) ∧ Below w1.heap.size w1 wr) (fun _ x _ => fn - (intOf x).toNat)
  case atStart => exact ⟨0, by omega, rfl, by simpa using own_nilI w1 w1.heap.size 2, by simp, Below.refl _ _⟩
  case round =>
    obtain ⟨i, hi, rfl, ho, hall, hb⟩ := hrel
    obtain ⟨sp, cp, rfl, _, _⟩ := ownsRow_slice ho
    have HO := Lib.hid ho
    have HA := Lib.hid hall
    have HB := Lib.hid hb
    have hsz := hb.size
    clear ho hall hb
    by_cases hlt : i < fn
    · obtain ⟨bb, off, cap', hse, _, _, hbl, hc⟩ := HF.out.cells (by omega)
      simp at hse
      obtain ⟨rfl, hx1, hx2⟩ := hse
      clear hx1 hx2
      have c0 : wr.cell? ⟨bb, off + i, none⟩ = some (.int .i64 (F.getD i 0)) := (HB.out.cell (p := ⟨bb, off + i, none⟩) hbl).trans (hc i (by omega))
      have hsn := take_map_snoc (F := F) (i := i) (by omega) k
      have hup := @upto_next F 1048576 i (by omega)
      have HSN := Lib.hid hsn
      have HUP := Lib.hid hup
      clear hsn hup
      generalize F.getD i 0 = x at *
      clear hc
      by_cases h1 : x < 0
      · go_wp2
        go_ret
        exact ⟨rfl, HB1.out.trans (HB.out.mono HB1.out.size)⟩
      by_cases h2 : 1048576 < x
      · go_wp2
        go_ret
        exact ⟨rfl, HB1.out.trans (HB.out.mono HB1.out.size)⟩
      have hmul1 : 0 ≤ x * k := Int.mul_nonneg (by omega) (by omega)
      have hmul2 : x * k ≤ 1048576 * 100 := Int.mul_le_mul (by omega) (by omega) (by omega) (by omega)
      have hwm : wrap64 (x * k) = x * k := wrap_ok hmul1 (by omega)
      have hUp := HUP.out ⟨by omega, by omega⟩ HA.out
      have HU := Lib.hid hUp
      clear hUp HUP
      go_wp2_with (at_builtin; refine wpList_append_j rfl (.tmp 41) (.tmp 48) rfl w1.heap.size (.slice sp i cp) i _ (x * k) rfl HO.out _ rfl rfl (by omega) hsz ?_; intro v' w' hown' hgr)
      go_roundw
      case rel => exact ⟨i + 1, by omega, by first | rfl | go_num, by rw [HSN.out]; exact hown', HU.out, bel_append HB.out _ HO.out hgr hsz⟩
      case measure => simp [intOf]; omega
    · obtain rfl : i = fn := by omega
      have hT : F.take i = F := List.take_of_length_le (by omega)
      rw [hT] at HO HA
      clear hT
      by_cases c3 : 300 < i
      · go_wp2
        go_ret
        exact ⟨rfl, HB1.out.trans (HB.out.mono HB1.out.size)⟩
      have hokF : F.length ≤ 300 ∧ allOk F := ⟨by omega, fun v hv => by have := HA.out v hv; omega⟩
      have hokG : (F.map (· * k)).length ≤ 300 ∧ allOk (F.map (· * k)) := ⟨by simp; omega, fun v hv => by
        obtain ⟨y, hy, rfl⟩ := List.mem_map.1 hv
        have := HA.out y hy
        have hmul1 : 0 ≤ y * k := Int.mul_nonneg (by omega) (by omega)
        have hmul2 : y * k ≤ 1048576 * 100 := Int.mul_le_mul (by omega) (by omega) (by omega) (by omega)
        exact ⟨hmul1, by omega⟩⟩
      have hIF : IsInts wr (.slice fa i fc) F := HF.out.below HB.out
      have hIG : IsInts wr (.slice sp i cp) (F.map (· * k)) := isInts_own (by simp; omega) HO.out
      have hof1 := of_any _ F wr hIF (by omega)
      have HOF := Lib.hid hokF
      have HOG := Lib.hid hokG
      have HIF := Lib.hid hIF
      have HIG := Lib.hid hIG
      clear hokF hokG hIF hIG HO
      go_wp2_with fail
      refine hof1.mono ?_
      rintro e w2 (⟨hn, _⟩ | ⟨_, g, L, S, rfl, hg, hL, hlo, hB2⟩)
      · exact absurd HOF.out hn
      have HLO := Lib.hid hlo
      have HL := Lib.hid hL
      have HB2 := Lib.hid hB2
      have HIF2 := Lib.hid (HIF.out.below hB2)
      have HIG2 := Lib.hid (HIG.out.below hB2)
      clear hof1 hlo hL hB2
      have hof2 := of_any _ (F.map (· * k)) w2 HIG2.out (by simp; omega)
      go_wp2_with fail
      refine hof2.mono ?_
      rintro e w3 (⟨hn, _⟩ | ⟨_, g2, M, T, rfl, hg2, hM, hlo2, hB3⟩)
      · exact absurd HOG.out hn
      have hcv := cost_val HLO.out HOF.out.1 HOF.out.2
      have hcv2 := cost_val hlo2 HOG.out.1 HOG.out.2
      have hsc := scale_cost (k := k) (by omega) HLO.out hlo2 HOF.out.1 (fun v hv => (HOF.out.2 v hv).1)
      have hlen2 : (F.map (· * k)).length = F.length := by simp
      have hIL : IsInts w3 (.slice (some ⟨g, 0, none⟩) F.length F.length) L := isInts_blk (HL.out.below hB3 HL.out.lt) HLO.out.len.symm (by unfold maxLen; omega)
      have hIM : IsInts w3 (.slice (some ⟨g2, 0, none⟩) (F.map (· * k)).length (F.map (· * k)).length) M := isInts_blk hM hlo2.len.symm (by unfold maxLen; simp; omega)
      have hlL : L.length ≤ 1000000 := by rw [HLO.out.len]; omega
      have hlM : M.length ≤ 1000000 := by rw [hlo2.len]; simp; omega
      have hcF := fun W h1 h2 => cost_prog (.slice fa i fc) (.slice (some ⟨g, 0, none⟩) F.length F.length) F L W h1 h2 (by omega) hlL
      have hcG := fun W h1 h2 => cost_prog (.slice sp i cp) (.slice (some ⟨g2, 0, none⟩) (F.map (· * k)).length (F.map (· * k)).length) (F.map (· * k)) M W h1 h2 (by simp; omega) hlM
      rw [hcv.1] at hcF
      rw [hcv2.1] at hcG
      have hcb := hcv.2
      have HIL := Lib.hid hIL
      have HIM := Lib.hid hIM
      have HIF3 := Lib.hid (HIF2.out.below hB3)
      have HIG3 := Lib.hid (HIG2.out.below hB3)
      have HB3 := Lib.hid ((HB1.out.trans (HB.out.mono HB1.out.size)).trans (((HB2.out.trans (hB3.mono HB2.out.size))).mono (Nat.le_trans HB1.out.size hsz)))
      have HCF := Lib.hid hcF
      have HCG := Lib.hid hcG
      clear hIL hIM hcF hcG hcv hcv2 hlo2 hM hB3 hof2 hlL hlM
      rw [hlen2] at HCG HIM ⊢
      clear hlen2
      generalize costP F L = cF at *
      generalize costP (F.map (· * k)) M = cG at *
      have hm1 : 0 ≤ cF * k := Int.mul_nonneg hcb.1 (by omega)
      have hm2 : cF * k ≤ 4831838208000 * 100 := Int.mul_le_mul hcb.2 (by omega) (by omega) (by omega)
      have hwm : wrap64 (cF * k) = cF * k := wrap_ok hm1 (by omega)
      have heq : (cF * k == cG) = true := beq_t hsc
      clear hsc hcb hm1 hm2
      have hw3 := HB3.out.size
      go_wp2_with fail
      refine (HCF.out _ HIF3.out HIL.out).mono ?_
      rintro e w6 ⟨rfl, hb6⟩
      have HB6 := Lib.hid hb6
      clear hb6
      go_wp2_with fail
      refine (HCG.out _ (HIG3.out.below HB6.out) (HIM.out.below HB6.out)).mono ?_
      rintro e w7 ⟨rfl, hb7⟩
      have HB7 := Lib.hid hb7
      clear hb7
      go_wp2
      go_ret
      exact ⟨rfl, (HB3.out.trans (HB6.out.mono hw3)).trans (HB7.out.mono (Nat.le_trans hw3 HB6.out.size))⟩
end Go.Proofs.Ytnoleijdpilnpaa

/- LengthsMore, walked. -/
import Derived.Test.YtnoleijdpilnpaaLenJ
import Derived.Test.YtnoleijdpilnpaaPkgE
set_option linter.unusedSimpArgs false
set_option linter.unusedVariables false
namespace Go.Proofs.Ytnoleijdpilnpaa
open Go.RowKit Go.Shelf Pl
theorem allOk_take {F : List Int} (h : allOk F) (n : Nat) : allOk (F.take n) := fun x hx => h x (List.mem_of_mem_take hx)
set_option maxHeartbeats 8000000 in
set_option maxRecDepth 100000 in
theorem lengthsMore_walk (a : Option Addr) (len cap : Nat) (z : List Int) (x : Int) (w : World) (hr : IsRow .i64 w a len cap z) (wx : (Lit.int .i64 x).wf = true) :
    Calls Try.prog 8 #[.slice a len cap, .int .i64 x] w fun e w' => e = .returned (.bool true) ∧ Below w.heap.size w w' := by
  obtain ⟨hF0, hFl⟩ := isInts_row hr
  generalize z.take len = F0 at *
  clear hr wx
  have HF0 := Lib.hid hF0
  clear hF0
  go_enter Try.func8, Try.ntmps8
  go_wp2_with fail
  refine (begun_any _).mono ?_
  rintro e w1 ⟨rfl, hb1⟩
  have HB1 := Lib.hid hb1
  clear hb1
  go_wp2_with fail
  refine (cut_any _ F0 w1 (HF0.out.below HB1.out)).mono ?_
  rintro e w1 ⟨⟨fa, fn, fc, rfl, hfn, hfc, hfm, hF⟩, rfl⟩
  generalize F0.take 305 = F at *
  have HF := Lib.hid hF
  have hfn1 : F.length ≤ fn := by omega
  have hfn2 : fn ≤ F.length := by omega
  clear hF
  by_cases c1 : 300 ≤ fn
  · clear hfn
    go_wp2
    go_ret
    exact ⟨rfl, HB1.out⟩
  by_cases c2 : x < 0
  · clear hfn
    go_wp2
    go_ret
    exact ⟨rfl, HB1.out⟩
  by_cases c3 : 1073741824 < x
  · clear hfn
    go_wp2
    go_ret
    exact ⟨rfl, HB1.out⟩
  have hof := of_any _ F w1 HF.out (by omega)
  clear hfn
  go_wp2_with fail
  refine hof.mono ?_
  rintro e w2 (⟨hn, rfl, rfl⟩ | ⟨hok, g, L, S, rfl, hg, hL, hlo, hB2⟩)
  · clear hn hof
    go_wp2
    go_ret
    exact ⟨rfl, HB1.out⟩
  have HLO := Lib.hid hlo
  have HOK := Lib.hid hok
  have HL := Lib.hid hL
  have HB2 := Lib.hid hB2
  have HB12 := Lib.hid (HB1.out.trans (hB2.mono HB1.out.size))
  have HF2 := Lib.hid (HF.out.below hB2)
  have hcv := cost_val hlo hok.1 hok.2
  have hFlen : F.length ≤ 300 := hok.1
  clear hof hlo hok hL hB2
  have hs2 := HB12.out.size
  have HCV := Lib.hid hcv
  clear hcv
  go_wp2_with (first
    | (at_builtin; refine wpList_append_js rfl (.const (.slice none 0 0)) (.tmp 33) rfl w2.heap.size (.slice none 0 0) 0 [] rfl (own_nilI _ _ _) _ F rfl HF2.out (by omega) (Nat.le_refl _) ?_; intro v3 w3 hown3 hgr3; simp only [Nat.zero_add, List.nil_append] at hown3; obtain ⟨sp3, cp3, rfl, _, _⟩ := ownsRow_slice hown3; have HO3 := Lib.hid hown3; have HG3 := Lib.hid hgr3; have hs3 := hgr3.size; clear hown3 hgr3)
    | (at_builtin; refine wpList_append_j rfl (.tmp 34) (.tmp 36) rfl w2.heap.size (.slice sp3 F.length cp3) F.length F x rfl HO3.out _ rfl rfl (by omega) hs3 ?_; intro v4 w4 hown4 hgr4; obtain ⟨sp4, cp4, rfl, _, _⟩ := ownsRow_slice hown4; have HO4 := Lib.hid hown4; have HG4 := Lib.hid hgr4; clear hown4 hgr4))
  have hB4 : Below w2.heap.size w2 w4 := bel_append ((Below.refl _ _).grown HG3.out (Nat.le_refl _) (by simp [Value.ownBlock])) _ HO3.out HG4.out hs3
  have hI4 : IsInts w4 (.slice sp4 (F.length + 1) cp4) (F ++ [x]) := isInts_own (by simp) HO4.out
  have hok4 : (F ++ [x]).length ≤ 300 ∧ allOk (F ++ [x]) := ⟨by simp; omega, fun y hy => by
    rcases List.mem_append.1 hy with hy | hy
    · exact HOK.out.2 y hy
    · simp at hy; omega⟩
  have HB4 := Lib.hid hB4
  have HI4 := Lib.hid hI4
  have HOK4 := Lib.hid hok4
  clear hB4 hI4 hok4 HO3 HG3 HO4 HG4
  have hof := of_any _ (F ++ [x]) w4 HI4.out (by simp; omega)
  refine hof.mono ?_
  rintro e w5 (⟨hn, rfl, rfl⟩ | ⟨_, g5, M, T, rfl, hg5, hM, hlo5, hB5⟩)
  · exact absurd HOK4.out hn
  have hcv5 := cost_val hlo5 HOK4.out.1 HOK4.out.2
  have hmore := more_cost HLO.out hlo5 (by omega) (fun v hv => (HOK.out.2 v hv).1) (by omega)
  have hb25 := HB4.out.trans (hB5.mono HB4.out.size)
  have hIF5 : IsInts w5 (.slice fa fn fc) F := HF2.out.below hb25
  have hIL5 : IsInts w5 (.slice (some ⟨g, 0, none⟩) F.length F.length) L := isInts_blk (HL.out.below hb25 HL.out.lt) HLO.out.len.symm (by unfold maxLen; omega)
  have hIG5 : IsInts w5 (.slice sp4 (F.length + 1) cp4) (F ++ [x]) := HI4.out.below hB5
  have hIM5 : IsInts w5 (.slice (some ⟨g5, 0, none⟩) (F ++ [x]).length (F ++ [x]).length) M := isInts_blk hM hlo5.len.symm (by unfold maxLen; simp; omega)
  have hlL : L.length ≤ 1000000 := by rw [HLO.out.len]; omega
  have hlM : M.length ≤ 1000000 := by rw [hlo5.len]; simp; omega
  have hcG := fun W h1 h2 => cost_prog (.slice sp4 (F.length + 1) cp4) (.slice (some ⟨g5, 0, none⟩) (F ++ [x]).length (F ++ [x]).length) (F ++ [x]) M W h1 h2 (by simp; omega) hlM
  have hcF := fun W h1 h2 => cost_prog (.slice fa fn fc) (.slice (some ⟨g, 0, none⟩) F.length F.length) F L W h1 h2 (by omega) hlL
  rw [hcv5.1] at hcG
  rw [HCV.out.1] at hcF
  have HIF := Lib.hid hIF5
  have HIL := Lib.hid hIL5
  have HIG := Lib.hid hIG5
  have HIM := Lib.hid hIM5
  have HB5 := Lib.hid (HB12.out.trans (hb25.mono hs2))
  have HCG := Lib.hid hcG
  have HCF := Lib.hid hcF
  clear hIF5 hIL5 hIG5 hIM5 hb25 hcG hcF hlo5 hM hB5 hof hcv5 hlL hlM
  simp only [List.length_append, List.length_cons, List.length_nil, Nat.zero_add] at *
  generalize costP F L = cF at *
  generalize costP (F ++ [x]) M = cG at *
  go_wp2_with fail
  refine (HCG.out _ HIG.out HIM.out).mono ?_
  rintro e w6 ⟨rfl, hb6⟩
  have HB6 := Lib.hid hb6
  clear hb6
  go_wp2_with fail
  refine (HCF.out _ (HIF.out.below HB6.out) (HIL.out.below HB6.out)).mono ?_
  rintro e w7 ⟨rfl, hb7⟩
  have HB7 := Lib.hid hb7
  clear hb7
  go_wp2
  go_ret
  exact ⟨rfl, (HB5.out.trans (HB6.out.mono HB5.out.size)).trans (HB7.out.mono (Nat.le_trans HB5.out.size HB6.out.size))⟩
end Go.Proofs.Ytnoleijdpilnpaa

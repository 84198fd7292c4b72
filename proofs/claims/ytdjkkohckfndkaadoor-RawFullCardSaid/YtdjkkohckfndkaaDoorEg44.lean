/- Texts put together: RawK. -/
import Derived.Test.YtdjkkohckfndkaaDoorEg43
set_option linter.unusedSimpArgs false
set_option linter.unusedVariables false
set_option maxRecDepth 100000
namespace Go.Proofs.YtdjkkohckfndkaaDoor.S15
open Go.RowKit S13 S13.Dk S14 S3 S2.Pl S3.Pl
theorem run_buildR3' (w : World) (k s : Int) (b : ByteArray) : (buildR #[(0, .int .i64 k), (1, .int .i64 s), (2, .string b)]).run Tryd.prog w = .ok (.agg #[.int .i64 k, .int .i64 s, .string b, .string ⟨#[]⟩]) w := by kernel_rfl
attribute [local go_sem ↓] loadR_eq storeR_eq buildR_eq sliceU8_eq
attribute [local go_sem] run_buildR run_buildR4 run_buildR3'
theorem opn_none {S : St} {sp n : Nm} (h : readF S n = none) : opn S sp n = (S, 3, []) := by unfold opn; rw [h]
set_option maxHeartbeats 16000000 in
theorem rawNone_walk (w : World) (hT : Tab w) : Calls Tryd.prog 4 #[] w fun e w' => e = .returned (.bool true) ∧ Below w.heap.size w w' := by
  have HT : Hid (∀ W, Below w.heap.size w W → Tab W) := Lib.hid fun W hW => hT.below hW
  have hnew := new_n 1000 w
  have HTT := Lib.hid hT
  clear hT
  go_enter Tryd.func4, Tryd.ntmps4
  go_wp2_with fail
  refine hnew.mono ?_
  rintro e w1 ⟨p, rfl, hI1⟩
  have hcr := create_any (num := 0) (d := digS 0) hI1 (fmt_dig 0 (by decide)) (by decide) (by decide)
  have hcr : Calls Tryd.prog 10 #[pP p, .int .i64 0] w1 fun e w' => e = .returned (.tuple #[.pointer none, .int .i64 7]) ∧ InH w p (new 1000) w' := hcr.mono fun e w' h => by
    unfold CreatePost at h
    rw [if_pos (by omega)] at h
    exact h
  clear hnew hI1
  go_wp2_with fail
  refine hcr.mono ?_
  rintro e w2 ⟨rfl, hI2⟩
  have hr0 : readF (new 1000) (digS 9 ++ rawE).data.toList = none := by decide
  have hop := open_any (num := 9) (d := digS 9) hI2 HTT.out (fmt_dig 9 (by decide)) (by decide) (by decide) (fun B hB => by rw [hr0] at hB; cases hB)
  rw [opn_none hr0] at hop
  have hop : Calls Tryd.prog 17 #[pP p, .int .i64 9] w2 fun e w' => e = .returned (.tuple #[.pointer none, .int .i64 3]) ∧ InH w p (new 1000) w' := hop.mono fun e w' h => by
    unfold OpenPost at h
    rw [if_pos (by decide)] at h
    exact h
  clear hcr hI2
  go_wp2_with fail
  refine hop.mono ?_
  rintro e w3 ⟨rfl, hI3⟩
  have hap := append_nil w3 ⟨1, 1, ⟨#[107]⟩, ⟨#[]⟩⟩
  unfold errV at hap
  have HB3 := Lib.hid hI3.bel
  clear hop hI3 hr0
  go_wp2_with fail
  refine hap.mono ?_
  rintro e w4 ⟨rfl, hb4⟩
  have HB4 := Lib.hid (HB3.out.trans (hb4.mono HB3.out.size))
  have hgt := get_nil w4 0
  unfold GetPost errV at hgt
  simp only [zR] at hgt
  clear hap hb4
  go_wp2_with fail
  refine hgt.mono ?_
  rintro e w5 ⟨rfl, hb5⟩
  have HB5 := Lib.hid (HB4.out.trans (hb5.out.mono HB4.out.size))
  obtain ⟨w6, hst6, HR6, HG6⟩ := lay_rec zR w5
  simp only [zR] at hst6
  have HB6 := Lib.hid (HB5.out.trans (HG6.out.mono HB5.out.size))
  have hbg := begun_any w6 (HT.out w6 HB6.out)
  clear hgt hb5
  go_wp2_with fail
  refine hbg.mono ?_
  rintro e w7 ⟨rfl, hb7⟩
  have HB7 := Lib.hid (HB6.out.trans (hb7.mono HB6.out.size))
  have hsy := sync_nil w7
  unfold errV at hsy
  clear hbg hb7 hst6
  go_wp2_with fail
  refine hsy.mono ?_
  rintro e w8 ⟨rfl, rfl⟩
  have hsz := size_nil w8
  clear hsy
  go_wp2_with fail
  refine hsz.mono ?_
  rintro e w9 ⟨rfl, rfl⟩
  have hln := len_nil w9
  clear hsz
  go_wp2_with fail
  refine hln.mono ?_
  rintro e w10 ⟨rfl, rfl⟩
  clear hln
  go_wp2_with fail
  go_ret
  exact ⟨rfl, HB7.out⟩
end Go.Proofs.YtdjkkohckfndkaaDoor.S15

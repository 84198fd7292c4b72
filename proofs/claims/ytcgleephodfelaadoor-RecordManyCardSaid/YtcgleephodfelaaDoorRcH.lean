/- The verifier's Scan of records: a contract. -/
import Derived.Test.YtcgleephodfelaaDoorRcG
set_option linter.unusedSimpArgs false
set_option linter.unusedVariables false
set_option maxRecDepth 100000
namespace Go.Proofs.YtcgleephodfelaaDoor.S14
open Go.RowKit S2.Pl S3 S3.Pl
attribute [local go_sem ↓] loadR_eq storeR_eq buildR_eq sliceU8_eq
set_option maxHeartbeats 8000000 in
theorem refRScan_any (v : Value) (B : List Nat) (w : World) (hv : IsBytes w v B) (hl : B.length ≤ 4000000000) : Calls Tryd.prog 16 #[v] w (RScanPost B w) := by
  have hsc := S3.refScan_any v B w hv hl
  have hn1 := (pscan_size B).1
  obtain ⟨a, cap, rfl, hcap, hmax⟩ := hv.slice
  have HSC := Lib.hid hsc
  clear hsc hv
  go_enter Tryd.func16, Tryd.ntmps16
  go_wp2_with fail
  refine HSC.out.mono ?_
  rintro e w1 ⟨v1, rfl, hr1, hb1⟩
  obtain ⟨L, hL⟩ : ∃ L, (pscan B).1 = L := ⟨_, rfl⟩
  rw [hL] at hr1
  have HL := Lib.hid hL
  have htot : tot L ≤ B.length := by rw [← hL, tot_pscan]; exact hn1
  have hLl : 12 * L.length ≤ B.length := Nat.le_trans (tot_len L) htot
  obtain ⟨sp1, cap1, rfl, hc1, hm1⟩ := hr1.slice
  have HR1 := Lib.hid hr1
  have HB1 := Lib.hid hb1
  obtain ⟨ok, hok⟩ : ∃ ok, (pscan B).2.2 = ok := ⟨_, rfl⟩
  rw [hok]
  obtain ⟨pn, hpn⟩ : ∃ pn, (pscan B).2.1 = pn := ⟨_, rfl⟩
  rw [hpn]
  have HOK := Lib.hid hok
  clear hr1 hb1 hL HSC hpn hok hn1
  unfold maxLen at hm1
  go_wp2_with fail
  go_loopw [5, 6, 10] (fun v x y wr => ∃ i : Nat, i ≤ L.length ∧ y = .int .i64 i ∧ ∃ n : Nat, n ≤ B.length ∧ x = .int .i64 n ∧ ∃ F : List RT, F.length ≤ i ∧ RTo L i n F ∧ OwnRecs w1.heap.size wr v F ∧ Below w1.heap.size w1 wr) (fun _ _ y _ => L.length - (intOf y).toNat)
  case atStart => exact ⟨0, by omega, rfl, 0, by omega, rfl, [], by simp, RTo.start L, ownRecs_nil _ _, Below.refl _ _⟩
  case round =>
    obtain ⟨i, hi, rfl, n, hn, rfl, F, hF, hto, ho, hb⟩ := hrel
    have HTO := Lib.hid hto
    have HO := Lib.hid ho
    have HB := Lib.hid hb
    obtain ⟨sp, cp, rfl, hcp, hcm⟩ := ho.slice
    clear hto ho hb
    by_cases hlt : i < L.length
    · obtain ⟨b, off, a', c', rfl, hbl, hcell1, hIs1⟩ := HR1.out.at hlt
      have hIs := hIs1.below HB.out
      have hcw : ∀ W, Below w1.heap.size w1 W → W.cell? ⟨b, off + i, none⟩ = some (.slice a' (L.getD i []).length c') := fun W h => (Below.cell (p := ⟨b, off + i, none⟩) h hbl).trans hcell1
      have hcell := hcw _ HB.out
      obtain ⟨T, hT'⟩ : ∃ T, L.getD i [] = T := ⟨_, rfl⟩
      rw [hT'] at hcell hIs hcw
      have HT' := Lib.hid hT'
      have hde := one_any _ T wr hIs
      unfold OnePost at hde
      obtain ⟨r, hrr⟩ : ∃ r, (oneV T).1 = r := ⟨_, rfl⟩
      obtain ⟨g, hgg⟩ : ∃ g, (oneV T).2 = g := ⟨_, rfl⟩
      rw [hrr, hgg] at hde
      have HDE := Lib.hid hde
      have HRR := Lib.hid hrr
      have HGG := Lib.hid hgg
      obtain ⟨tl, htl⟩ : ∃ tl, T.length = tl := ⟨_, rfl⟩
      rw [htl] at hcell HDE hcw
      have HCW := Lib.hid hcw
      have HTL := Lib.hid htl
      clear hcell1 hIs1 hcw hIs hT' hde hrr hgg htl
      go_wp2_with fail
      refine HDE.out.mono ?_
      rintro e w2 ⟨rfl, hb2⟩
      clear HDE hcell
      obtain ⟨w3, hst, HR3, HG3⟩ := back_rec (w := w2) r (Blk.new w2 23 (recL zR)) ((Below.refl _ _).alloc (Nat.le_refl _) _) (Nat.le_refl _)
      simp only [recL, zR] at hst
      have hb3 : Below wr.heap.size wr w3 := hb2.out.trans (HG3.out.mono hb2.out.size)
      have HO3 := Lib.hid (HO.out.below hb3)
      have hwr : w1.heap.size ≤ wr.heap.size := HB.out.size
      have HB3 : Hid (Below w1.heap.size w1 w3) := Lib.hid (HB.out.trans (hb3.mono hwr))
      clear hb2 hb3 HO HB hwr
      cases g with
      | false =>
        go_wp2_with fail
        go_ret3
        exact rscan_ret (o := false) (by rw [HL.out]; exact HTO.out.bad hlt (by rw [HT'.out]; exact HGG.out)) rfl (HO3.out.base HB1.out.size) (HB1.out.trans (HB3.out.mono HB1.out.size))
      | true =>
        have hstep := HTO.out.step hlt (by rw [HT'.out]; exact HGG.out)
        rw [HT'.out, HTL.out, HRR.out] at hstep
        have hn' := Nat.le_trans hstep.le htot
        have HST := Lib.hid hstep
        have hld := run_loadR_blk HR3.out
        have hsz3 : w1.heap.size ≤ w3.heap.size := HB3.out.size
        clear hstep
        go_wp2_with (at_builtin; refine wpList_append_rec rfl (.tmp 37) (.tmp 39) rfl w1.heap.size _ F rfl HO3.out r rfl (by omega) hsz3 ?_; intro v' w4 hown hgr; have HB4 := Lib.hid ((HB3.out.alloc hsz3 _).grown hgr (by simp; omega) HO3.out.lt); have HO4 := Lib.hid hown; have hc4 := HCW.out _ HB4.out; clear hown hgr)
        go_roundw
        case rel => exact ⟨i + 1, hlt, by go_num, n + (12 + tl), hn', by go_num, F ++ [r], by simp; omega, HST.out, HO4.out, HB4.out⟩
        case measure => simp [intOf]; omega
    · obtain rfl : i = L.length := by omega
      go_wp2_with fail
      go_ret3
      exact rscan_ret (by rw [HL.out]; exact HTO.out.done) (by rw [HOK.out]; simp) (HO.out.base HB1.out.size) (HB1.out.trans (HB.out.mono HB1.out.size))
end Go.Proofs.YtcgleephodfelaaDoor.S14

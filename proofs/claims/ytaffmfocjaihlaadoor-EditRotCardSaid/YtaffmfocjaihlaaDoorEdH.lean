/- edit.Scan: a contract. -/
import Derived.Test.YtaffmfocjaihlaaDoorEdG
import Derived.Test.YtaffmfocjaihlaaDoorCrcD
set_option linter.unusedSimpArgs false
set_option linter.unusedVariables false
set_option maxRecDepth 100000
namespace Go.Proofs.YtaffmfocjaihlaaDoor.S18
open Go.RowKit S2.Pl S3 S3.Pl
attribute [local go_sem ↓] loadS_eq storeS_eq buildS_eq loadP_eq storeP_eq buildP_eq loadE_eq storeE_eq buildE_eq sliceU8_eq
/-- edits in a row of the call's own -/
def OwnEds (base : Nat) (w : World) (v : Value) (L : List ED) : Prop := OwnD base 26 6 (edC (TyD edTs base w) w) w v L
theorem OwnEds.below {base : Nat} {w w' : World} {v : Value} {L : List ED} (h : OwnEds base w v L) (hb : Below w.heap.size w w') : OwnEds base w' v L := OwnD.below h hb fun x c h => h.keep (b_keep hb)
theorem OwnEds.lower {base base' : Nat} {w : World} {v : Value} {L : List ED} (h : OwnEds base w v L) (hb : base' ≤ base) : OwnEds base' w v L := (OwnD.base h hb).map fun x c h => edC.keep h (ty_weak hb fun _ h => h)
theorem OwnEds.row {base : Nat} {w : World} {v : Value} {L : List ED} (h : OwnEds base w v L) : IsEds (fun b => base ≤ b) w v L := RowD.keep (OwnD.row h (D := fun b => base ≤ b) fun b c hb _ => hb) (keep_weak fun b hb _ => hb) fun x c h => h.keep (keep_weak fun b hb _ => hb.1)
def ScanPost (B : List Nat) (w : World) (r : Ending) (w' : World) : Prop :=
  ∃ sp cap, r = .returned (.tuple #[.slice sp (scanE B).1.length cap, .int .i64 ((scanE B).2.1 : Nat), .bool (scanE B).2.2]) ∧ Hid (OwnEds w.heap.size w' (.slice sp (scanE B).1.length cap) (scanE B).1) ∧ Hid (Below w.heap.size w w')
theorem scan_ret {B : List Nat} {n : Nat} {F : List ED} {o o' : Bool} {w wr : World} {v : Value} (h : scanLE (pscan B).1 = (F, n, o)) (ho : (o && (pscan B).2.2) = o') (hr : OwnEds w.heap.size wr v F) (hb : Below w.heap.size w wr) :
    ScanPost B w (.returned (.tuple #[v, .int .i64 n, .bool o'])) wr := by
  have e : scanE B = (F, n, o') := by unfold scanE; rw [h, ← ho]
  obtain ⟨sp, cap, rfl, _, _⟩ := OwnD.slice hr
  unfold ScanPost
  rw [e]
  exact ⟨sp, cap, rfl, Lib.hid hr, Lib.hid hb⟩
set_option maxHeartbeats 8000000 in
theorem scan_any (v : Value) (B : List Nat) (w : World) (hT : Tab w) (hv : IsBytes w v B) (hl : B.length ≤ 4000000000) : Calls Tryd.prog 13 #[v] w (ScanPost B w) := by
  have hsc := S3.scan_any v B w hT hv hl
  obtain ⟨hn1, _, htp, _⟩ := pscan_facts B
  obtain ⟨a, cap, rfl, hcap, hmax⟩ := hv.slice
  have HSC := Lib.hid hsc
  clear hsc hv
  go_enter Tryd.func13, Tryd.ntmps13
  go_wp2_with fail
  refine HSC.out.mono ?_
  rintro e w1 ⟨v1, rfl, hr1, hb1⟩
  obtain ⟨L, hL⟩ : ∃ L, (pscan B).1 = L := ⟨_, rfl⟩
  rw [hL] at hr1 htp
  have HL := Lib.hid hL
  have htot : tot L ≤ B.length := by rw [htp]; exact hn1
  have hLl : 12 * L.length ≤ B.length := Nat.le_trans (tot_len L) htot
  obtain ⟨sp1, cap1, rfl, hc1, hm1⟩ := hr1.slice
  have HR1 := Lib.hid hr1
  have HB1 := Lib.hid hb1
  obtain ⟨ok, hok⟩ : ∃ ok, (pscan B).2.2 = ok := ⟨_, rfl⟩
  rw [hok]
  obtain ⟨pn, hpn⟩ : ∃ pn, (pscan B).2.1 = pn := ⟨_, rfl⟩
  rw [hpn]
  have HOK := Lib.hid hok
  clear hr1 hb1 hL HSC hpn hok hn1 htp
  unfold maxLen at hm1
  go_wp2_with fail
  go_loopw [8, 9, 22] (fun v x y wr => ∃ i : Nat, i ≤ L.length ∧ y = .int .i64 i ∧ ∃ n : Nat, n ≤ B.length ∧ x = .int .i64 n ∧ ∃ F : List ED, F.length ≤ i ∧ ETo L i n F ∧ OwnEds w1.heap.size wr v F ∧ Below w1.heap.size w1 wr) (fun _ _ y _ => L.length - (intOf y).toNat)
  case atStart => exact ⟨0, by omega, rfl, 0, by omega, rfl, [], by simp, ETo.start L, OwnD.nil _ _ _ _ _, Below.refl _ _⟩
  case round =>
    obtain ⟨i, hi, rfl, n, hn, rfl, F, hF, hto, ho, hb⟩ := hrel
    have HTO := Lib.hid hto
    have HO := Lib.hid ho
    have HB := Lib.hid hb
    obtain ⟨sp, cp, rfl, hcp, hcm⟩ := OwnD.slice ho
    clear hto ho hb
    have hFl : F.length + 1 ≤ 4294967296 := by omega
    by_cases hlt : i < L.length
    · have hri := HR1.out.below HB.out
      obtain ⟨b, off, a', c', rfl, hbl, hcell, hIs⟩ := hri.at hlt
      obtain ⟨T, hT'⟩ : ∃ T, L.getD i [] = T := ⟨_, rfl⟩
      rw [hT'] at hcell hIs
      have HT' := Lib.hid hT'
      have hde := decoded_any _ T wr hIs
      have HDE := Lib.hid hde
      obtain ⟨tl, htl⟩ : ∃ tl, T.length = tl := ⟨_, rfl⟩
      rw [htl] at hcell HDE
      have HTL := Lib.hid htl
      clear hri hIs hT' hde htl
      go_wp2_with fail
      refine HDE.out.mono ?_
      rintro r w2 ⟨e, g, a1, c1, a2, c2, a3, c3, a4, c4, hone, rfl, hI2, hb2⟩
      have HONE := Lib.hid hone
      clear HDE hcell hone
      have hA := (Below.refl w2.heap.size w2).alloc (Nat.le_refl _) (.cells #[.int .i64 0, .int .i64 0, .slice none 0 0, .slice none 0 0, .slice none 0 0, .slice none 0 0] 26)
      have hN := Blk.new w2 26 (edL zE none 0 none 0 none 0 none 0)
      obtain ⟨w3, hst, HR3, HS3⟩ := putE (a1 := a1) (c1 := c1) (a2 := a2) (c2 := c2) (a3 := a3) (c3 := c3) (a4 := a4) (c4 := c4) e hN rfl
      simp only [edL, zE, List.length_nil] at hst
      have hb23 : Below w2.heap.size w2 w3 := hA.trans (Gr.below HS3.out hA.size (Nat.le_refl _))
      have hb3 : Below wr.heap.size wr w3 := hb2.out.trans (hb23.mono hb2.out.size)
      have hwr : w1.heap.size ≤ wr.heap.size := HB.out.size
      have HI3 : Hid (EdIn (TyD edTs w1.heap.size w3) w3 e a1 c1 a2 c2 a3 c3 a4 c4) := Lib.hid (((hI2.out.keep (ty_weak hwr fun _ h => h)).keep (b_keep hA)).keep (e_keep hN HS3.out))
      have HO3 := Lib.hid (HO.out.below hb3)
      have HB3 : Hid (Below w1.heap.size w1 w3) := Lib.hid (HB.out.trans (hb3.mono hwr))
      clear hb2 hb3 HO HB hwr hI2 hA hN hb23
      cases g with
      | false =>
        go_wp2_with fail
        go_ret3
        exact scan_ret (o := false) (by rw [HL.out]; exact HTO.out.bad hlt (by rw [HT'.out, HONE.out])) rfl (HO3.out.lower HB1.out.size) (HB1.out.trans (HB3.out.mono HB1.out.size))
      | true =>
        have hstep := HTO.out.step hlt (by rw [HT'.out, HONE.out])
        rw [HT'.out, HTL.out, HONE.out] at hstep
        have hn' := Nat.le_trans hstep.le htot
        have HST := Lib.hid hstep
        have hld := run_loadE_blk _ HR3.out
        have hsz3 : w1.heap.size ≤ w3.heap.size := HB3.out.size
        clear hstep
        go_wp2_with (at_builtin; refine wpList_append_D 35 26 6 (.agg (edL zE none 0 none 0 none 0 none 0).toArray) 112 Tryd.underlying35 infoE rfl (by decide) (by decide) rfl (.tmp 35) (.tmp 37) rfl w1.heap.size (edC (TyD edTs w1.heap.size w3) w3) (.slice sp F.length cp) F rfl HO3.out e (edL e a1 c1 a2 c2 a3 c3 a4 c4) ⟨a1, c1, a2, c2, a3, c3, a4, c4, rfl, HI3.out⟩ rfl (edL_one e a1 c1 a2 c2 a3 c3 a4 c4) rfl hFl hsz3 ?_; intro v' w4 hown hgr)
        go_roundw
        case rel => exact ⟨i + 1, hlt, by go_num, n + (12 + tl), hn', by go_num, F ++ [e], by simp; omega, HST.out, OwnD.map hown fun x c h => edC.keep h (app_ty HO3.out (by decide) hgr), (HB3.out.alloc hsz3 _).grown hgr (by simp; omega) fun k hk => (OwnD.lt HO3.out k hk).1⟩
        case measure => simp [intOf]; omega
    · obtain rfl : i = L.length := by omega
      go_wp2_with fail
      go_ret3
      exact scan_ret (by rw [HL.out]; exact HTO.out.done) (by rw [HOK.out]; simp) (HO.out.lower HB1.out.size) (HB1.out.trans (HB.out.mono HB1.out.size))
end Go.Proofs.YtaffmfocjaihlaaDoor.S18

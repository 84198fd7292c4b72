/- parity.Repair: a contract. -/
import Derived.Test.YtacgaflhcmflbaaParH
set_option linter.unusedSimpArgs false
set_option linter.unusedVariables false
set_option maxRecDepth 100000
namespace Go.Proofs.Ytacgaflhcmflbaa
open Go.RowKit Pl
theorem sec_from {L : List (List Nat)} {P : List Nat} {S : List Int} {E : List (List Bool)} {w w1 w' : World} {e : Ending} (hb : Below w.heap.size w w1) (h : SecPost L P S E w1 e w') : SecPost L P S E w e w' := ⟨hb.trans (h.1.mono hb.size), h.2⟩
namespace Pl
def nils (n : Nat) : List (List Bool) := List.replicate n []
/-- just one is lost -/
def OneLost (D : List Bool) (k : Nat) : Prop := k < D.length ∧ D.getD k false = true ∧ ∀ j, j ≠ k → D.getD j false = false
end Pl
/-- what Repair answers: by Sectors, of which a lost one has all its sectors bad; or nothing -/
def RepaPost (L : List (List Nat)) (P : List Nat) (S : List Int) (D : List Bool) (w : World) (e : Ending) (w' : World) : Prop :=
  (S.length = L.length ∧ D.length = L.length ∧ (∀ j, D.getD j false = false) ∧ SecPost L P S (nils (L.length + 1)) w e w') ∨
  (S.length = L.length ∧ D.length = L.length ∧ ∃ k z : Nat, OneLost D k ∧ S.getD k 0 = z ∧ z ≤ P.length ∧ SecPost (L.set k (List.replicate z 0)) P S ((nils (L.length + 1)).set k (List.replicate ((z + 63) / 64) true)) w e w') ∨
  ((S.length ≠ L.length ∨ D.length ≠ L.length ∨ (∃ i j, i ≠ j ∧ D.getD i false = true ∧ D.getD j false = true) ∨ (∃ k, D.getD k false = true ∧ (S.getD k 0 < 0 ∨ (P.length : Int) < S.getD k 0))) ∧ e = .returned (.tuple #[.slice none 0 0, .bool false]) ∧ Below w.heap.size w w')
theorem infoBR : (Try.prog.info? 28).map (fun i => (i.zero, i.size, i.bytes)) = some (some (.slice none 0 0), 1, 24) := by kernel_rfl
theorem sec_ret {L : List (List Nat)} {P : List Nat} {S : List Int} {E : List (List Bool)} {w w' : World} {e : Ending} (h : SecPost L P S E w e w') : ∃ v b, e = .returned (.tuple #[v, .bool b]) := by
  obtain ⟨_, ⟨_, G, rfl, _⟩ | ⟨_, rfl⟩⟩ := h
  · exact ⟨_, _, rfl⟩
  · exact ⟨_, _, rfl⟩
attribute [local go_sem ↓] sliceB_eq
set_option maxHeartbeats 16000000 in
theorem repair_any (v pv vs vd : Value) (L : List (List Nat)) (P : List Nat) (S : List Int) (D : List Bool) (w : World) (hr : IsRows w v L) (hel : ElemRows w.heap.size w v L) (hp : IsBytes w pv P) (hs : IsInts w vs S) (hd : IsBls w vd D) (hL : L.length ≤ 100000) (hm : mxL L ≤ 100000) (hS : S.length ≤ 100000) (hP : P.length ≤ 100000) :
    Calls Try.prog 14 #[v, pv, vs, vd] w (RepaPost L P S D w) := by
  obtain ⟨a, cap, rfl, hcap, hmax⟩ := hr.slice
  obtain ⟨pa, pc, rfl, hpc, hpm⟩ := hp.slice
  obtain ⟨sa, sc, rfl, hsc, hsm⟩ := hs.slice
  obtain ⟨da, dc, rfl, hdc, hdm⟩ := hd.slice
  unfold maxLen at hmax hpm hsm hdm
  obtain ⟨n, hn⟩ : ∃ n, L.length = n := ⟨_, rfl⟩
  obtain ⟨np, hnp⟩ : ∃ np, P.length = np := ⟨_, rfl⟩
  obtain ⟨ns, hns⟩ : ∃ ns, S.length = ns := ⟨_, rfl⟩
  obtain ⟨nd, hnd⟩ : ∃ nd, D.length = nd := ⟨_, rfl⟩
  have hr' : IsRows w (.slice a n cap) L := by rw [← hn]; exact hr
  have hel' : ElemRows w.heap.size w (.slice a n cap) L := by rw [← hn]; exact hel
  have hp' : IsBytes w (.slice pa np pc) P := by rw [← hnp]; exact hp
  have hs' : IsInts w (.slice sa ns sc) S := by rw [← hns]; exact hs
  have hd' : IsBls w (.slice da nd dc) D := by rw [← hnd]; exact hd
  rw [hn] at hL hcap ⊢
  rw [hnp] at hpc hP ⊢
  rw [hns] at hS hsc ⊢
  rw [hnd] at hdc ⊢
  have HR := Lib.hid hr'
  have HEL := Lib.hid hel'
  have HP := Lib.hid hp'
  have HS := Lib.hid hs'
  have HD := Lib.hid hd'
  have HN := Lib.hid hn
  have HNP := Lib.hid hnp
  have HNS := Lib.hid hns
  have HND := Lib.hid hnd
  have HMX := Lib.hid hm
  clear hr hel hp hs hd hr' hel' hp' hs' hd' hn hnp hns hnd hm
  by_cases h1 : n = ns
  rotate_left
  · have hb : ((ns : Int) != (n : Int)) = true := bne_t (by omega)
    have HNO : Hid (S.length ≠ L.length) := Lib.hid (by rw [HNS.out, HN.out]; exact fun e => h1 e.symm)
    clear h1
    go_enter Try.func14, Try.ntmps14
    go_wp2
    go_ret2
    exact .inr (.inr ⟨.inl HNO.out, rfl, Below.refl _ _⟩)
  subst h1
  have hb1 : ((n : Int) != (n : Int)) = false := bne_f rfl
  by_cases h2 : n = nd
  rotate_left
  · have hb : ((nd : Int) != (n : Int)) = true := bne_t (by omega)
    have HNO : Hid (D.length ≠ L.length) := Lib.hid (by rw [HND.out, HN.out]; exact fun e => h2 e.symm)
    clear h2
    go_enter Try.func14, Try.ntmps14
    go_wp2
    go_ret2
    exact .inr (.inr ⟨.inr (.inl HNO.out), rfl, Below.refl _ _⟩)
  subst h2
  have hix := index_any (.slice da n dc) D w HD.out
  have HIX := Lib.hid hix
  obtain ⟨i0, hi, hz0, hz1, hz2⟩ := infoR_parts infoBR
  have Hi := Lib.hid hi
  have Hz0 := Lib.hid hz0
  have Hz1 := Lib.hid hz1
  have Hz2 := Lib.hid hz2
  clear hi hz0 hz1 hz2 hix
  go_enter Try.func14, Try.ntmps14
  go_wp2_with fail
  refine HIX.out.mono ?_
  rintro e w' ⟨⟨r, rfl, hr⟩, rfl⟩
  clear HIX
  have hn1 : (0 : Int) ≤ (n : Int) + 1 := by omega
  have HBD : Hid (∀ W, W.ownsRow w.heap.size 28 1 (.slice (some ⟨w.heap.size, 0, none⟩) (n + 1) (n + 1)) (n + 1) (madeCells (Value.slice none 0 0).cells ((n + 1) * 1)).toList → Blk W w.heap.size 28 (List.replicate (n + 1) (.slice none 0 0))) := Lib.hid fun W h => by
    rw [made_rows] at h
    exact made_blk h
  rcases hr with ⟨rfl, hnone⟩ | ⟨k, rfl, hk, hkt, hkf⟩
  · have HNONE := Lib.hid hnone
    clear hnone
    go_wp2_with (at_make; refine wpList_make_full _ rfl _ _ 34 rfl w.heap.size 28 i0 (.slice none 0 0) 1 Try.underlying34 Hi.out Hz0.out Hz1.out .i64 .i64 _ _ (n + 1) rfl rfl (by omega) (by omega) (by rw [Hz2.out]; omega) (by unfold maxLen; omega) (Nat.le_refl _) ?_; intro w1 hown hgr)
    have hb1 : Below w.heap.size w w1 := (Below.refl _ _).grown hgr (Nat.le_refl _) (by simp)
    have hE1 : IsBRows w1 (.slice (some ⟨w.heap.size, 0, none⟩) (n + 1) (n + 1)) (nils (n + 1)) := isBRows_blk (HBD.out w1 hown) (by simp) (by simp [nils]) (by unfold maxLen; omega) (fun i u D' hu hD' => by
      rw [List.getElem?_replicate] at hu
      unfold nils at hD'
      rw [List.getElem?_replicate] at hD'
      split at hu
      · rename_i h
        rw [if_pos h] at hD'
        simp at hu hD'
        subst hu hD'
        exact isBls_nil w1
      · cases hu)
    have hsec := sectors_any (.slice a n cap) (.slice pa np pc) (.slice sa n sc) (.slice (some ⟨w.heap.size, 0, none⟩) (n + 1) (n + 1)) L P S (nils (n + 1)) w1 (HR.out.below hb1) (HP.out.below hb1) (HS.out.below hb1) hE1 (by rw [HN.out]; omega) (by have := HMX.out; omega) (by rw [HNS.out]; omega) (by simp [nils]; omega)
    have HB1 := Lib.hid hb1
    have HSEC := Lib.hid hsec
    clear hown hgr hb1 hE1 hsec
    refine HSEC.out.mono ?_
    intro e w2 h2
    obtain ⟨v2, b2, rfl⟩ := sec_ret h2
    have H2 := Lib.hid h2
    clear h2 HSEC
    go_wp2
    go_ret2
    refine .inl ⟨by rw [HNS.out, HN.out], by rw [HND.out, HN.out], HNONE.out, ?_⟩
    rw [HN.out]
    exact sec_from HB1.out H2.out
  · rw [HND.out] at hk
    have HK := Lib.hid hkt
    have HKF := Lib.hid hkf
    obtain ⟨q, hq⟩ : ∃ q, n - (k + 1) = q := ⟨_, rfl⟩
    obtain ⟨da2, dc2, hsl, hD2⟩ := run_dropB HD.out (k + 1) (by omega)
    have e1 : ((k + 1 : Nat) : Int) = (k : Int) + 1 := by omega
    rw [e1, hq] at hsl
    rw [hq] at hD2
    have HD2 := Lib.hid hD2
    have HQ := Lib.hid hq
    have hk0 : (0 : Int) ≤ (k : Int) := by omega
    have hkn : k < n := hk
    obtain ⟨sb, so, sc2, hse, _, _, hsb, hscell⟩ := HS.out.cells (by rw [HNS.out]; omega)
    rw [HNS.out] at hse hscell
    simp at hse
    obtain ⟨rfl, rfl⟩ := hse
    have cS := hscell k hkn
    obtain ⟨z, hz⟩ : ∃ z, S.getD k 0 = z := ⟨_, rfl⟩
    rw [hz] at cS
    have HZ := Lib.hid hz
    have HCS := Lib.hid cS
    clear hkt hkf e1 hD2 hq hscell hz cS hk
    go_wp2_with (at_make; refine wpList_make_full _ rfl _ _ 34 rfl w.heap.size 28 i0 (.slice none 0 0) 1 Try.underlying34 Hi.out Hz0.out Hz1.out .i64 .i64 _ _ (n + 1) rfl rfl (by omega) (by omega) (by rw [Hz2.out]; omega) (by unfold maxLen; omega) (Nat.le_refl _) ?_; intro w1 hown hgr)
    have hb1 : Below w.heap.size w w1 := (Below.refl _ _).grown hgr (Nat.le_refl _) (by simp)
    have HB1 := Lib.hid hb1
    have HBD1 := Lib.hid (HBD.out w1 hown)
    have cS1 := (hb1.cell (p := ⟨sb, so + k, none⟩) hsb).trans HCS.out
    clear hown hgr hb1 HBD hsl
    refine (contains_any _ _ w1 (HD2.out.below HB1.out)).mono ?_
    rintro e w2 ⟨o, rfl, ho, rfl⟩
    have HO := Lib.hid ho
    clear ho
    cases o with
    | true =>
      have HTWO : Hid (∃ i j, i ≠ j ∧ D.getD i false = true ∧ D.getD j false = true) := Lib.hid (by
        obtain ⟨j, hj⟩ := HO.out.1 rfl
        refine ⟨k, k + 1 + j, by omega, HK.out, ?_⟩
        rw [List.getD_eq_getElem?_getD, List.getElem?_drop] at hj
        rw [List.getD_eq_getElem?_getD]
        exact hj)
      clear HO
      go_wp2
      go_ret2
      exact .inr (.inr ⟨.inr (.inr (.inl HTWO.out)), rfl, HB1.out⟩)
    | false =>
    have HONE : Hid (OneLost D k) := Lib.hid ⟨by rw [HND.out]; exact hkn, HK.out, fun j hj => by
      by_cases h : j < k
      · exact HKF.out j h
      · apply Classical.byContradiction
        intro hne
        have ht : D.getD j false = true := by cases hx : D.getD j false <;> simp_all
        have := HO.out.2 ⟨j - (k + 1), by
          rw [List.getD_eq_getElem?_getD, List.getElem?_drop, ← List.getD_eq_getElem?_getD, show k + 1 + (j - (k + 1)) = j by omega]
          exact ht⟩
        cases this⟩
    clear HO HKF
    by_cases hz0 : z < 0
    · have HBADZ : Hid (∃ k, D.getD k false = true ∧ (S.getD k 0 < 0 ∨ (P.length : Int) < S.getD k 0)) := Lib.hid ⟨k, HK.out, .inl (by rw [HZ.out]; exact hz0)⟩
      go_wp2
      go_ret2
      exact .inr (.inr ⟨.inr (.inr (.inr HBADZ.out)), rfl, HB1.out⟩)
    by_cases hz1 : (np : Int) < z
    · have HBADZ : Hid (∃ k, D.getD k false = true ∧ (S.getD k 0 < 0 ∨ (P.length : Int) < S.getD k 0)) := Lib.hid ⟨k, HK.out, .inr (by rw [HZ.out, HNP.out]; exact hz1)⟩
      go_wp2
      go_ret2
      exact .inr (.inr ⟨.inr (.inr (.inr HBADZ.out)), rfl, HB1.out⟩)
    obtain ⟨z, rfl⟩ := Int.eq_ofNat_of_zero_le (show 0 ≤ z by omega)
    have hzp : z ≤ np := by omega
    have hz2 : ¬ ((z : Int) < 0) := by omega
    have hcl := cloneR_any w.heap.size (.slice a n cap) L w1 HB1.out.size (HEL.out.below HB1.out) (by rw [HN.out]; omega)
    have HCL := Lib.hid hcl
    clear hz0 hcl
    go_wp2_with fail
    refine HCL.out.mono ?_
    rintro e w2 ⟨v2, rfl, ho2, hb2⟩
    obtain ⟨g2, cap2, rfl, hg2b, hg2l, hg2c, hg2cell⟩ := ho2.open (by rw [HN.out]; omega)
    obtain ⟨u2, c2, hu2, f2⟩ := hg2cell k (by rw [HN.out]; exact hkn)
    rw [HN.out] at ho2 hg2c ⊢
    have HO2 := Lib.hid ho2
    have HB2 := Lib.hid hb2
    have HC2 := Lib.hid c2
    have HF2 := Lib.hid f2
    have cS2 := (hb2.cell (p := ⟨sb, so + k, none⟩) (Nat.lt_of_lt_of_le hsb HB1.out.size)).trans cS1
    obtain ⟨j0, ji, jz0, jz1, jz2⟩ := info_parts info5
    have Ji := Lib.hid ji
    have Jz0 := Lib.hid jz0
    have Jz1 := Lib.hid jz1
    have Jz2 := Lib.hid jz2
    clear ji jz0 jz1 jz2 ho2 hb2 c2 f2 hg2cell HCL
    have HCS2 := Lib.hid cS2
    have hbw2 : Below w.heap.size w w2 := HB1.out.trans (HB2.out.mono HB1.out.size)
    have HBW2 := Lib.hid hbw2
    have hsg : sb ≠ g2 := by omega
    have hkn2 : (k : Int) < (n : Int) := by omega
    have HCS3 : Hid (∀ w3, Below w2.heap.size w2 w3 → ((w3.setCell ⟨g2, k, none⟩ (.slice (some ⟨w2.heap.size, 0, none⟩) z z)).alloc (.cells #[.bool true] 4)).cell? ⟨sb, so + k, none⟩ = some (.int .i64 z)) := Lib.hid fun w3 hb3 => by
      have hb4 : Below w.heap.size w ((w3.setCell ⟨g2, k, none⟩ (.slice (some ⟨w2.heap.size, 0, none⟩) z z)).alloc (.cells #[.bool true] 4)) := ((HBW2.out.trans (hb3.mono HBW2.out.size)).setCell (p := ⟨g2, k, none⟩) hg2b _).alloc (by have := HBW2.out.size; have := hb3.size; simp; omega) _
      have hx := (hb4.cell (p := ⟨sb, so + k, none⟩) hsb)
      have hy := (HBW2.out.cell (p := ⟨sb, so + k, none⟩) hsb)
      rw [hx, ← hy]
      exact HCS2.out
    clear hbw2 cS1 HCS
    go_wp2_with (at_make; refine wpList_make_full _ rfl _ _ 23 rfl w2.heap.size 5 j0 (.int .u8 0) 1 Try.underlying23 Ji.out Jz0.out Jz1.out .i64 .i64 _ _ z rfl rfl rfl rfl (by rw [Jz2.out]; omega) (by unfold maxLen; omega) (Nat.le_refl _) ?_; intro w3 hown hgr; have hb3 : Below w2.heap.size w2 w3 := (Below.refl _ _).grown hgr (Nat.le_refl _) (by simp); have c3 : w3.cell? ⟨g2, k, none⟩ = some u2 := (hb3.cell (p := ⟨g2, k, none⟩) hg2l).trans HC2.out; have f3 : w3.frozen? ⟨g2, k, none⟩ = false := (hb3.frozen (p := ⟨g2, k, none⟩) hg2l).trans HF2.out; have cS3 := HCS3.out w3 hb3; have HOW3 := Lib.hid hown; have HB3 := Lib.hid hb3; clear hown hgr hb3)
    obtain ⟨W4, hW4⟩ : ∃ W4, (w3.setCell ⟨g2, k, none⟩ (.slice (some ⟨w2.heap.size, 0, none⟩) z z)).alloc (.cells #[.bool true] 4) = W4 := ⟨_, rfl⟩
    obtain ⟨X4, hX4⟩ : ∃ X4, w3.heap.size = X4 := ⟨_, rfl⟩
    have hEl : Elem w.heap.size w3 (.slice (some ⟨w2.heap.size, 0, none⟩) z z) (List.replicate z 0) := by
      have h1 := HOW3.out
      rw [made_list] at h1
      have e2 : List.replicate z (Value.int .u8 0) = u8s (List.replicate z 0) := by simp [u8s]
      rw [e2] at h1
      have h2 := elem_own (base := w.heap.size) (B := List.replicate z 0) (sp := some ⟨w2.heap.size, 0, none⟩) (cap := z) (w := w3) (base' := w2.heap.size) (by intro x hx; rw [List.eq_of_mem_replicate hx]; omega) (by rw [List.length_replicate]; exact h1)
      rw [List.length_replicate] at h2
      exact h2
    have hO3 := (HO2.out.below HB3.out).put (i := k) (by rw [HN.out]; exact hkn) hEl
    have hO4 : OwnRows w.heap.size W4 (.slice (some ⟨g2, 0, none⟩) n cap2) (L.set k (List.replicate z 0)) := by rw [← hW4]; exact hO3.below ((Below.refl _ _).alloc (Nat.le_refl _) _)
    have hBd3 : Blk w3 w.heap.size 28 (List.replicate (n + 1) (.slice none 0 0)) := (HBD1.out.below HB2.out HBD1.out.lt).below HB3.out (HBD1.out.below HB2.out HBD1.out.lt).lt
    have hne2 : w.heap.size ≠ g2 := fun e => by
      obtain ⟨Vs, o1, _⟩ := HO2.out.below HB3.out
      obtain ⟨cs, hcs⟩ := own_blk (n := L.length) (by
        have := o1
        rw [HN.out] at this ⊢
        exact this)
      rw [← e] at hcs
      exact absurd (blk_ty hBd3 hcs) (by decide)
    have hBd4 : Blk W4 w.heap.size 28 (List.replicate (n + 1) (.slice none 0 0)) := by rw [← hW4]; exact (hBd3.setOther hne2 _).alloc _
    have hBt : Blk W4 X4 4 [.bool true] := by
      rw [← hW4, ← hX4]
      have := Blk.new (w3.setCell ⟨g2, k, none⟩ (.slice (some ⟨w2.heap.size, 0, none⟩) z z)) 4 [.bool true]
      simpa using this
    have hbW4 : Below w.heap.size w W4 := by
      rw [← hW4]
      exact ((HBW2.out.trans (HB3.out.mono HBW2.out.size)).setCell (p := ⟨g2, k, none⟩) hg2b _).alloc (by have := HBW2.out.size; have := HB3.out.size; simp; omega) _
    have HO4 := Lib.hid hO4
    have HBD4 := Lib.hid hBd4
    have HBT := Lib.hid hBt
    have HBW4 := Lib.hid hbW4
    refine (stripes_any z _ (by omega)).mono ?_
    rintro e w' ⟨rfl, rfl⟩
    obtain ⟨s, hs⟩ : ∃ s, (z + 63) / 64 = s := ⟨_, rfl⟩
    have hs1 : s ≤ 1000000 := by omega
    have HSS := Lib.hid hs
    rw [hs, hW4]
    clear hEl hO3 hO4 hBd3 hBd4 hBt hbW4 hW4 hs c3 f3 cS3 HOW3 HB3 HO2 HB2 HC2 HF2 HBD1 cS2 HCS2 HCS3
    go_wp2_with fail
    refine (repeat_any true X4 s W4 HBT.out hs1).mono ?_
    rintro e w5 ⟨rfl, hR5, hb5⟩
    obtain ⟨Z, hZ⟩ : ∃ Z, W4.heap.size = Z := ⟨_, rfl⟩
    have hBd5 : Blk w5 w.heap.size 28 (List.replicate (n + 1) (.slice none 0 0)) := HBD4.out.below hb5 HBD4.out.lt
    have hO5 := (HO4.out.below hb5).setOther hBd5 (by decide) (by decide) (Nat.le_refl _) k (.slice (some ⟨W4.heap.size, 0, none⟩) s s)
    have hBd6 : Blk (w5.setCell ⟨w.heap.size, k, none⟩ (.slice (some ⟨W4.heap.size, 0, none⟩) s s)) w.heap.size 28 ((List.replicate (n + 1) (.slice none 0 0)).set k (.slice (some ⟨W4.heap.size, 0, none⟩) s s)) := hBd5.set k _
    have hR6 : Blk (w5.setCell ⟨w.heap.size, k, none⟩ (.slice (some ⟨W4.heap.size, 0, none⟩) s s)) W4.heap.size 4 (bls (List.replicate s true)) := hR5.setOther (by simp; have := HBD4.out.lt; omega) _
    have hb6 : Below w.heap.size w (w5.setCell ⟨w.heap.size, k, none⟩ (.slice (some ⟨W4.heap.size, 0, none⟩) s s)) := (HBW4.out.trans (hb5.mono HBW4.out.size)).setCell (Nat.le_refl _) _
    have c5 := hBd5.cell (o := k) (v := .slice none 0 0) (by rw [List.getElem?_replicate, if_pos (by omega)])
    have f5 := hBd5.frozen k
    rw [hZ] at hO5 hBd6 hR6 hb6 ⊢
    have hkn3 : (k : Int) < (n : Int) + 1 := by omega
    have HO5 := Lib.hid hO5
    have HBD6 := Lib.hid hBd6
    have HR6 := Lib.hid hR6
    have HB6 := Lib.hid hb6
    clear hBd5 hO5 hBd6 hR6 hb6 hR5 hb5 hZ HO4 HBD4 HBT HBW4
    go_wp2_with fail
    obtain ⟨W6, hW6⟩ : ∃ W6, w5.setCell ⟨w.heap.size, k, none⟩ (.slice (some ⟨Z, 0, none⟩) s s) = W6 := ⟨_, rfl⟩
    rw [hW6] at HO5 HBD6 HR6 HB6 ⊢
    have hrep : ((List.replicate z 0 : List Nat)).length = z := by simp
    have hE6 : IsBRows W6 (.slice (some ⟨w.heap.size, 0, none⟩) (n + 1) (n + 1)) ((nils (n + 1)).set k (List.replicate s true)) := isBRows_blk HBD6.out (by simp) (by simp [nils]) (by unfold maxLen; omega) (fun i u D' hu hD' => by
      by_cases hik : i = k
      · subst hik
        rw [List.getElem?_set_self (by simp; omega)] at hu
        rw [List.getElem?_set_self (by simp [nils]; omega)] at hD'
        simp at hu hD'
        subst hu hD'
        exact isBls_blk HR6.out (by simp) (by unfold maxLen; omega)
      · rw [List.getElem?_set_ne (Ne.symm hik)] at hu hD'
        unfold nils at hD'
        rw [List.getElem?_replicate] at hu hD'
        split at hu
        · rename_i h
          rw [if_pos h] at hD'
          simp at hu hD'
          subst hu hD'
          exact isBls_nil W6
        · cases hu)
    have hmx : mxL (L.set k (List.replicate z 0)) ≤ 100000 := mxL_le fun B hB => by
      rcases List.mem_or_eq_of_mem_set hB with hB | rfl
      · have := mxL_ge hB
        have := HMX.out
        omega
      · rw [hrep]; omega
    have hRw := HO5.out.isRows
    have hsec := sectors_any (.slice (some ⟨g2, 0, none⟩) n cap2) (.slice pa np pc) (.slice (some ⟨sb, so, none⟩) n sc) (.slice (some ⟨w.heap.size, 0, none⟩) (n + 1) (n + 1)) (L.set k (List.replicate z 0)) P S ((nils (n + 1)).set k (List.replicate s true)) W6 hRw (HP.out.below HB6.out) (HS.out.below HB6.out) hE6 (by rw [List.length_set, HN.out]; omega) (by omega) (by rw [HNS.out]; omega) (by simp [nils]; omega)
    have HSEC := Lib.hid hsec
    clear hE6 hsec hmx hrep hRw hW6 c5 f5
    refine HSEC.out.mono ?_
    intro e w7 h7
    obtain ⟨v7, b7, rfl⟩ := sec_ret h7
    have H7 := Lib.hid h7
    clear h7 HSEC
    go_wp2
    go_ret2
    refine .inr (.inl ⟨by rw [HNS.out, HN.out], by rw [HND.out, HN.out], k, z, HONE.out, HZ.out, by rw [HNP.out]; exact hzp, ?_⟩)
    rw [HN.out, HSS.out]
    exact sec_from HB6.out H7.out
end Go.Proofs.Ytacgaflhcmflbaa

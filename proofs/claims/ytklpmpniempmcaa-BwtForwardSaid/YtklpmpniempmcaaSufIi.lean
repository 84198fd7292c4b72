/- suffix.text.induceFalling, at texts of integers: a contract. -/
import Derived.Test.YtklpmpniempmcaaSufE
set_option linter.unusedSimpArgs false
set_option linter.unusedVariables false
namespace Go.Proofs.Ytklpmpniempmcaa
open Go.RowKit Pl
def FallPost_i (T C : List Nat) (g cap : Nat) (w : World) (e : Ending) (w' : World) : Prop :=
  e = .returned (.tuple #[]) ∧ Gr w w' g ∧ ∃ O : List Int, OwnI w' g T.length cap O ∧ O.length = T.length ∧ ∀ i, i < T.length → ris T i = false → O.getD (pos T C i) 0 = (i : Int)
set_option maxRecDepth 100000 in
set_option maxHeartbeats 16000000 in
theorem falling_i (T C : List Nat) (K B rb sb g cap : Nat) (lv : Value) (O0 E0 : List Int) (w : World) (hC : IsCuts T C) (ht : TxI w B T K lv rb sb) (hBg : B ≤ g) (ho : OwnI w g T.length cap O0) (hi0 : IInv T C K 0 O0 E0) :
    Calls Try.prog 49 #[txV lv rb T.length sb (K + 1), .slice (some ⟨g, 0, none⟩) T.length cap] w (FallPost_i T C g cap w) := by
  have hgl := ho.lt
  have hrb := ht.rb
  have hsb := ht.sb
  have hlen := ht.len
  have hlenK := ht.lenK
  obtain ⟨la, lcap, rfl, hlc⟩ := ht.ltr.at
  have hcl := cloneI_any (.slice (some ⟨sb, 0, none⟩) (K + 1) (K + 1)) (stsL T K) (w.alloc (.cells #[.slice la T.length lcap, .slice (some ⟨rb, 0, none⟩) T.length T.length, .slice (some ⟨sb, 0, none⟩) (K + 1) (K + 1)] 61)) ((blk_ownI ht.sts (stsL_length T K) (by unfold maxLen; omega)).ints.below ((Below.refl _ _).alloc (Nat.le_refl _) _)) (by rw [stsL_length]; omega)
  have hBX := Blk.new w 61 [.slice la T.length lcap, .slice (some ⟨rb, 0, none⟩) T.length T.length, .slice (some ⟨sb, 0, none⟩) (K + 1) (K + 1)]
  have HBX := Lib.hid hBX
  have HT := Lib.hid ht
  have HO0 := Lib.hid ho
  have HLC := Lib.hid hlc
  have HI0 := Lib.hid hi0
  have HC := Lib.hid hC
  obtain ⟨N, hN⟩ : ∃ N, T.length = N := ⟨_, rfl⟩
  rw [hN] at hlen hcl HO0 HBX ⊢
  have HN := Lib.hid hN
  unfold txV
  clear ht ho hlc hi0 hC hN hBX
  go_enter Try.func49, Try.ntmps49
  go_wp2_with fail
  go_step3
  go_wp2_with fail
  refine hcl.mono ?_
  rintro e w1 ⟨v', rfl, hown, hb1⟩
  clear hcl
  rw [stsL_length] at hown
  obtain ⟨h, cap2, rfl, hbase, hS⟩ := ownI_of hown (by omega)
  rw [World.size_alloc] at hbase
  have HS0 := Lib.hid hS
  have HB1 := Lib.hid hb1
  have hgh : g ≠ h := by omega
  have hhg : h ≠ g := by omega
  have hbh : w.heap.size ≠ h := by omega
  have hbg : w.heap.size ≠ g := by omega
  have HGR1 : Hid (Gr w w1 g) := Lib.hid (Gr.trans ((Gr.refl w g).alloc _) (Gr.ofBelow HB1.out))
  have HBX1 := Lib.hid (HBX.out.below HB1.out (by simp))
  have HO1 := Lib.hid (HO0.out.gr (W := w1) (r := h) (by
    have h1 := HGR1.out
    have h2 : Below w.heap.size w w1 := Below.trans ((Below.refl _ _).alloc (Nat.le_refl _) _) (Below.mono HB1.out (by simp))
    exact Gr.ofBelow h2) hgh)
  clear hown hS hb1 HO0 HBX HB1
  go_wp2_with fail
  go_step3
  go_wp2_with fail
  go_loopw [5, 6] (fun x y wr => ∃ (k : Nat) (lt : Int) (O S : List Int), k ≤ N ∧ y = .int .i64 k ∧ x = .int .i64 lt ∧ FInv T C K k O S ∧ FAt T C k lt ∧ OwnI wr g N cap O ∧ OwnI wr h (K + 1) cap2 S ∧ Gr w wr g ∧ Blk wr w.heap.size 61 [.slice la N lcap, .slice (some ⟨rb, 0, none⟩) N N, .slice (some ⟨sb, 0, none⟩) (K + 1) (K + 1)]) (fun _ y _ => N - (intOf y).toNat)
  case atStart => exact ⟨0, N, O0, stsL T K, Nat.zero_le _, rfl, rfl, fall_start HI0.out (stsL_length T K) (fun l hl => stsL_get T K l (by omega)), by rw [← HN.out]; exact fAt_first rfl, HO1.out, HS0.out, HGR1.out, HBX1.out⟩
  case round =>
    obtain ⟨k, lt, O, S, hk, rfl, rfl, hinv, hat, ho, hs, hgr, hbx⟩ := hrel
    have hrng := fAt_range hat
    rw [HN.out] at hrng
    obtain ⟨hr1, hr2⟩ := hrng
    have HIN := Lib.hid hinv
    have HAT := Lib.hid hat
    have HO := Lib.hid ho
    have HS := Lib.hid hs
    have HGR := Lib.hid hgr
    have HBX := Lib.hid hbx
    have HTX := Lib.hid (HT.out.keep hgr hBg)
    clear hinv hat ho hs hgr hbx HO1 HS0 HGR1 HBX1
    obtain ⟨q, hq⟩ : ∃ q, lt - 1 = q := ⟨_, rfl⟩
    have hq1 : -2 ≤ q := by omega
    have hq2 : q < N := by omega
    by_cases hput : 0 ≤ q ∧ ris T q.toNat = false
    · obtain ⟨hq0, hris⟩ := hput
      obtain ⟨i, rfl⟩ := Int.eq_ofNat_of_zero_le hq0
      rw [Int.toNat_natCast] at hris
      have hiN : i < N := by omega
      have hlt : lt = ((i + 1 : Nat) : Int) := by omega
      have hiT : i < T.length := by rw [HN.out]; exact hiN
      have hat2 := HAT.out
      rw [hlt] at hat2
      have hyK := getD_kind HT.out.kind hiT
      obtain ⟨_, p1, p2, p3⟩ := fall_put HC.out HIN.out hat2 hris hyK
      obtain ⟨lb, lo, rfl, _, hlx⟩ := HLC.out (by omega)
      obtain ⟨hlbB, cl⟩ := HTX.out.ltr.cell hiT
      have cr := HTX.out.rise.cell (bls_get (risL T) i (by rw [risL_length]; exact hiT))
      rw [risL_get T i hiT, hris] at cr
      have cs := HS.out.cell (i := T.getD i 0) (by omega)
      rw [p1] at cs
      rw [HN.out] at p2
      have fs := HS.out.frozen (T.getD i 0)
      have cg := HO.out.cell p2
      have fg := HO.out.frozen (pos T C i)
      have b0 := HBX.out.cell (o := 0) rfl
      have b1 := HBX.out.cell (o := 1) rfl
      have HO2 := Lib.hid (HO.out.set (pos T C i) i)
      have HP3 := Lib.hid p3
      generalize O.getD (pos T C i) 0 = old at *
      generalize pos T C i = P at *
      generalize T.getD i 0 = y at *
      have HS2 := Lib.hid ((HS.out.setOther (p := ⟨g, P, none⟩) hhg (.int .i64 i)).set y ((P : Int) + 1))
      have HO3 := Lib.hid (HO2.out.setOther (p := ⟨h, y, none⟩) hgh (.int .i64 ((P : Int) + 1)))
      have HGR3 : Hid (Gr w ((wr.setCell ⟨g, P, none⟩ (.int .i64 i)).setCell ⟨h, y, none⟩ (.int .i64 ((P : Int) + 1))) g) := Lib.hid (by
        have h1 := HGR.out.setCell P (.int .i64 i)
        refine ⟨h1.os, h1.tape, h1.output, by simpa using h1.size, fun x hx hn => ?_⟩
        rw [Below.heap_setCell _ ⟨h, y, none⟩ _ x (by simp; omega)]
        exact h1.block x hx hn)
      have HBX3 := Lib.hid ((HBX.out.setOther (p := ⟨g, P, none⟩) hbg (.int .i64 i)).setOther (p := ⟨h, y, none⟩) hbh (.int .i64 ((P : Int) + 1)))
      clear p1 p3 hat2 hlx hris HAT HIN HLC hlt
      by_cases hkN : k = N
      · subst hkN
        go_wp2_with fail
        try simp only [Exit.noGoto_normal]
        go_end0
        have hP3 := HP3.out
        rw [← HN.out] at hP3
        exact ⟨rfl, HGR3.out, _, by rw [HN.out]; exact HO3.out, hP3.lenO, fall_end hP3⟩
      · have hkn : k < N := by omega
        have hkI : (k : Int) ≠ (N : Int) := by omega
        have hkE : ((k : Int) == (N : Int)) = false := beq_f hkI
        have ck := HO3.out.cell hkn
        have hnx := fAt_next HC.out HP3.out (by rw [HN.out]; exact hkn)
        generalize (O.set P (i : Int)).getD k 0 = nx at *
        have HNX := Lib.hid hnx
        clear hnx
        go_wp2_with fail
        refine ⟨⟨k + 1, nx, _, _, by omega, by first | rfl | go_num, rfl, HP3.out, HNX.out, HO3.out, HS2.out, HGR3.out, HBX3.out⟩, ?_⟩
        simp only [intOf_i]; omega
    · have hinv2 := fall_skip HC.out HIN.out HAT.out (fun i hi => by
        cases hr : ris T i with
        | true => rfl
        | false =>
          refine absurd ⟨by omega, ?_⟩ hput
          rw [show q.toNat = i by omega]
          exact hr)
      have HP3 := Lib.hid hinv2
      have hkc : k = N ∨ k < N := by omega
      have hnx : k < N → FAt T C (k + 1) (O.getD k 0) := fun h => fAt_next HC.out hinv2 (by rw [HN.out]; exact h)
      have HNX := Lib.hid hnx
      have hcg : k < N → wr.cell? ⟨g, k, none⟩ = some (.int .i64 (O.getD k 0)) := fun h => HO.out.cell h
      generalize O.getD k 0 = nx at *
      have HCG := Lib.hid hcg
      have b0 := HBX.out.cell (o := 0) rfl
      have b1 := HBX.out.cell (o := 1) rfl
      have hq12 : q < 0 ∨ 0 ≤ q := by omega
      rcases hq12 with hqn | hqp
      · clear hinv2 hnx hcg hput HAT HIN
        rcases hkc with rfl | hkn
        · go_wp2_with fail
          try simp only [Exit.noGoto_normal]
          go_end0
          have hP3 := HP3.out
          rw [← HN.out] at hP3
          exact ⟨rfl, HGR.out, _, by rw [HN.out]; exact HO.out, hP3.lenO, fall_end hP3⟩
        · have hkE : ((k : Int) == (N : Int)) = false := beq_f (by omega)
          have ck := HCG.out hkn
          go_wp2_with fail
          refine ⟨⟨k + 1, nx, _, _, by omega, by first | rfl | go_num, rfl, HP3.out, HNX.out hkn, HO.out, HS.out, HGR.out, HBX.out⟩, ?_⟩
          simp only [intOf_i]; omega
      · obtain ⟨i, rfl⟩ := Int.eq_ofNat_of_zero_le hqp
        have hiN : i < N := by omega
        have hiT : i < T.length := by rw [HN.out]; exact hiN
        have hris : ris T i = true := by
          cases hr : ris T i with
          | true => rfl
          | false => exact absurd ⟨by omega, by rw [Int.toNat_natCast]; exact hr⟩ hput
        have cr := HTX.out.rise.cell (bls_get (risL T) i (by rw [risL_length]; exact hiT))
        rw [risL_get T i hiT, hris] at cr
        clear hinv2 hnx hcg hput HAT HIN hris
        rcases hkc with rfl | hkn
        · go_wp2_with fail
          try simp only [Exit.noGoto_normal]
          go_end0
          have hP3 := HP3.out
          rw [← HN.out] at hP3
          exact ⟨rfl, HGR.out, _, by rw [HN.out]; exact HO.out, hP3.lenO, fall_end hP3⟩
        · have hkE : ((k : Int) == (N : Int)) = false := beq_f (by omega)
          have ck := HCG.out hkn
          go_wp2_with fail
          refine ⟨⟨k + 1, nx, _, _, by omega, by first | rfl | go_num, rfl, HP3.out, HNX.out hkn, HO.out, HS.out, HGR.out, HBX.out⟩, ?_⟩
          simp only [intOf_i]; omega
end Go.Proofs.Ytklpmpniempmcaa

/- folioref1.Read: a contract. -/
import Derived.Test.YtijjpbpoekbekaaCodI
set_option linter.unusedSimpArgs false
set_option linter.unusedVariables false
namespace Go.Proofs.Ytijjpbpoekbekaa
open Go.RowKit Pl
theorem BoolsAt.below {w w' : World} {sp : Option Addr} {cap : Nat} {M : List Bool} (h : BoolsAt w sp cap M) (hb : Below w.heap.size w w') : BoolsAt w' sp cap M := by
  obtain ⟨h1, h2, h | ⟨g, off, cs, rfl, hc, ho⟩⟩ := h
  · exact ⟨h1, h2, .inl h⟩
  · exact ⟨h1, h2, .inr ⟨g, off, cs, rfl, hc.below hb hc.lt, ho⟩⟩
theorem fndK_step {F : List Int} {n v k : Nat} : fndK F n v (k + 1) = if F.getD k 0 = n ∧ codeN F k = v then (k : Int) else fndK F n v k := rfl
theorem fndK_row {F : List Int} {n v : Nat} (hv : 2 * nx F n ≤ v) : fndK F (n + 1) v F.length = if v < nx F (n + 1) then (row F (n + 1)).getD (v - 2 * nx F n) 0 else -1 := by
  rw [fndK_eq F n v F.length hv]
  have e : nx F (n + 1) = 2 * nx F n + (symK F (n + 1) F.length).length := rfl
  by_cases h : v < nx F (n + 1)
  · rw [if_pos (by omega), if_pos h]; rfl
  · rw [if_neg (by omega), if_neg h]
theorem row_nn {F : List Int} {n r : Nat} : 0 ≤ (row F n).getD r 0 := by
  by_cases h : r < (row F n).length
  · obtain ⟨i, hi, _⟩ := symK_mem (lens := F) (n := n) (k := F.length) (r := r) (x := (row F n).getD r 0) (by rw [List.getD_eq_getElem?_getD, List.getElem?_eq_getElem h]; exact List.getElem?_eq_getElem h)
    omega
  · rw [List.getD_eq_getElem?_getD, List.getElem?_eq_none (by omega)]; simp
/-- how far the search for one symbol has come: n bits of D were taken -/
def Srch (F : List Int) (D : List Bool) (n : Nat) (s : Int) : Prop :=
  (s = -1 ∧ nx F n ≤ val (D.take n) ∧ stepF F D (15 - n) n = stepL F D) ∨ (0 ≤ s ∧ stepL F D = some (s, n))
theorem srch_start (F : List Int) (D : List Bool) : Srch F D 0 (-1) := .inl ⟨rfl, by simp [nx], rfl⟩
theorem srch_next {F : List Int} {D : List Bool} {n : Nat} (hn : n < 15) (hl : n < D.length) (h : nx F n ≤ val (D.take n)) (hs : stepF F D (15 - n) n = stepL F D) : Srch F D (n + 1) (fndK F (n + 1) (val (D.take (n + 1))) F.length) := by
  have hv := val_take_succ D n hl
  rw [fndK_row (by omega)]
  rw [show 15 - n = (14 - n) + 1 by omega] at hs
  by_cases h2 : val (D.take (n + 1)) < nx F (n + 1)
  · rw [if_pos h2]
    exact .inr ⟨row_nn, by rw [← hs, stepF_hit hl h2]⟩
  · rw [if_neg h2]
    exact .inl ⟨rfl, by omega, by rw [← hs, stepF_miss hl h2, show 15 - (n + 1) = 14 - n by omega]⟩
theorem srch_none {F : List Int} {D : List Bool} {n : Nat} {s : Int} (h : Srch F D n s) (hs : s < 0) (he : 15 ≤ n ∨ D.length ≤ n) (hn : n ≤ 15) : stepL F D = none := by
  obtain ⟨_, _, h3⟩ | ⟨h1, _⟩ := h
  · rw [← h3]
    by_cases e : n = 15
    · subst e; rfl
    · rw [show 15 - n = (14 - n) + 1 by omega]; exact stepF_out (by omega)
  · omega
theorem fst_cell {F : List Int} (hin : inB F) {w : World} {c : Nat} (hc : Blk w c 32 (fsts (codesL F))) {i : Nat} (hi : i < F.length) :
    ∃ X : Nat, (1 ≤ F.getD i 0 → X = codeN F i) ∧ w.cell? ⟨c, i, none⟩ = some (.int .u32 X) := by
  have hg := fsts_get (codesL F) i (by rw [codesL_length]; exact hi)
  rw [codesL_get hi] at hg
  by_cases h0 : 1 ≤ F.getD i 0
  · rw [if_pos h0] at hg
    exact ⟨codeN F i, fun _ => rfl, hc.cell hg⟩
  · rw [if_neg h0] at hg
    exact ⟨0, fun h => absurd h h0, hc.cell hg⟩
def RefReadPost (F : List Int) (en most : Int) (M : List Bool) (w : World) (e : Ending) (w' : World) : Prop :=
  Below w.heap.size w w' ∧ ((¬ okL F ∧ e = .returned (.tuple #[.slice none 0 0, .int .i64 0, .int .i64 10])) ∨
    (okL F ∧ ∃ L r n sp cap, rdF F en most.toNat M [] 0 = (L, r, n) ∧ e = .returned (.tuple #[.slice sp L.length cap, .int .i64 (n : Nat), .int .i64 r]) ∧ w'.ownsRow w.heap.size 3 1 (.slice sp L.length cap) L.length (i64s L)))
theorem refRead_err {F : List Int} {en most : Int} {M : List Bool} {w w' : World} {r : Int} (hok : okL F) (hb : Below w.heap.size w w') (h : rdF F en most.toNat M [] 0 = ([], r, 0)) :
    RefReadPost F en most M w (.returned (.tuple #[.slice none 0 0, .int .i64 0, .int .i64 r])) w' :=
  ⟨hb, .inr ⟨hok, [], r, 0, none, 0, h, rfl, own_nilI _ _ _⟩⟩
set_option maxHeartbeats 16000000 in
set_option maxRecDepth 100000 in
theorem read_ref (sb : Option Addr) (nb cb : Nat) (M : List Bool) (v : Value) (F : List Int) (en most : Int) (w : World) (hn : nb = M.length) (hM : BoolsAt w sb cb M) (hML : M.length ≤ 8000000000) (hv : IsInts w v F) (hF : F.length ≤ 17179869184)
    (hm : -9223372036854775808 ≤ most ∧ most < 9223372036854775808) :
    Calls Try.prog 24 #[.slice sb nb cb, v, .int .i64 en, .int .i64 most] w (RefReadPost F en most M w) := by
  have hcod := codes_ref v F w hv hF
  obtain ⟨a, cap, rfl, hcap, hmax⟩ := hv.slice
  have HBL := Lib.hid hM
  have HV := Lib.hid hv
  have HNB := Lib.hid hn
  have hnb : nb ≤ 8000000000 := by omega
  clear hv hM hn hML
  by_cases hok : okL F
  · have HOK := Lib.hid hok
    clear hok
    go_enter Try.func24, Try.ntmps24
    go_wp2_with fail
    refine hcod.mono ?_
    rintro e w1 ⟨hb1, ⟨_, c, rfl, hcw, hc⟩ | ⟨hn, _⟩⟩
    rotate_left
    · exact absurd HOK.out hn
    have HB1 := Lib.hid hb1
    have HC := Lib.hid hc
    have HV1 := Lib.hid (HV.out.below hb1)
    have HBL1 := Lib.hid (HBL.out.below hb1)
    clear hb1 hc hcod HBL HV
    go_wp2_with fail
    go_loopw [13, 14] (fun x y wr => ∃ (A : List Int) (at1 : Nat) (sp : Option Addr) (cp : Nat), x = .slice sp A.length cp ∧ y = .int .i64 at1 ∧ A.length ≤ cp ∧ cp ≤ maxLen ∧ wr.ownsRow w1.heap.size 3 1 (.slice sp A.length cp) A.length (i64s A) ∧ A.length ≤ at1 ∧ at1 ≤ nb ∧
      rdF F en (most - A.length).toNat M A at1 = rdF F en most.toNat M [] 0 ∧ Below w1.heap.size w1 wr) (fun x _ _ => nb + 1 - lenOfV x)
    case atStart => exact ⟨[], 0, none, 0, rfl, rfl, Nat.le_refl _, by unfold maxLen; omega, own_nilI _ _ _, by simp, by omega, by simp, Below.refl _ _⟩
    case round =>
      obtain ⟨A, at1, sp, cp, rfl, rfl, hcp1, hcp2, ho, hA, hat, he, hb⟩ := hrel
      have HO := Lib.hid ho
      have HE := Lib.hid he
      have HB := Lib.hid hb
      have hsz : w1.heap.size ≤ wr.heap.size := hb.size
      clear ho he hb
      obtain ⟨N, hN⟩ : ∃ N, N = A.length := ⟨_, rfl⟩
      rw [← hN] at hcp1 HO hA HE ⊢
      have HN := Lib.hid hN
      clear hN
      by_cases hlt : most ≤ (N : Int)
      · have hm0 : (most - (N : Int)).toNat = 0 := by omega
        rw [hm0] at HE
        clear hm0
        go_wp2_with fail
        go_ret3
        exact refRead_err HOK.out (HB1.out.trans (HB.out.mono HB1.out.size)) (by rw [← HE.out]; rfl)
      · obtain ⟨m, hm2⟩ : ∃ m, (most - (N : Int)).toNat = m + 1 := ⟨(most - (N : Int)).toNat - 1, by omega⟩
        have hm3 : (most - ((N + 1 : Nat) : Int)).toNat = m := by omega
        rw [hm2] at HE
        have HM3 := Lib.hid hm3
        clear hm2 hm3
        obtain ⟨D, hD⟩ : ∃ D, D = M.drop at1 := ⟨_, rfl⟩
        have hDl : D.length = nb - at1 := by rw [hD, List.length_drop, ← HNB.out]
        have HD := Lib.hid hD
        clear hD
        have HBLr := Lib.hid (HBL1.out.below HB.out)
        have HVr := Lib.hid (HV1.out.below HB.out)
        have HCr := Lib.hid (HC.out.below HB.out HC.out.lt)
        obtain ⟨wo, hwo⟩ : ∃ wo : World, wo = wr := ⟨_, rfl⟩
        subst hwo
        go_wp2_with fail
        go_loopw [14, 15, 16, 17] (fun x s v y wi => ∃ (n : Nat) (S : Int) (T : Nat), n ≤ 15 ∧ n ≤ D.length ∧ T = at1 + n ∧ x = .int .i64 T ∧ s = .int .i64 S ∧ v = .int .u32 (val (D.take n) : Nat) ∧ y = .int .i64 n ∧ Srch F D n S ∧ wi = wo) (fun _ _ _ y _ => 15 - (intOf y).toNat)
        case atStart => exact ⟨0, -1, at1, by omega, by omega, rfl, rfl, rfl, rfl, rfl, srch_start F D, rfl⟩
        case round =>
          obtain ⟨n, S, T, hn15, hnl, hT, rfl, rfl, rfl, rfl, hS, rfl⟩ := hrel
          have HS := Lib.hid hS
          have HT := Lib.hid hT
          have hTnb : T ≤ nb := by omega
          clear hS hT
          by_cases hs0 : S < 0
          · by_cases hn : n < 15
            · by_cases hl : n < D.length
              · obtain ⟨rfl, hnx, hst⟩ : S = -1 ∧ nx F n ≤ val (D.take n) ∧ stepF F D (15 - n) n = stepL F D := by
                  rcases HS.out with h | ⟨h, _⟩
                  · exact h
                  · omega
                have HSN := Lib.hid (srch_next hn hl hnx hst)
                have hvs := val_take_succ D n hl
                have hvl := val_lt (D.take n)
                rw [List.length_take, Nat.min_eq_left hnl] at hvl
                have hp14 : 2 ^ n ≤ 2 ^ 14 := Nat.pow_le_pow_right (by omega) (by omega)
                rw [show (2 : Nat) ^ 14 = 16384 by decide] at hp14
                have hTb : T < M.length := by rw [← HNB.out]; have := HT.out; omega
                have hTI : (T : Int) < (nb : Int) := by have := HT.out; omega
                obtain ⟨g, off, rfl, cb0⟩ := HBLr.out.cell hTb
                have hbit : M.getD T false = D.getD n false := by
                  rw [HD.out, List.getD_eq_getElem?_getD, List.getD_eq_getElem?_getD, List.getElem?_drop, HT.out]
                rw [hbit] at cb0
                obtain ⟨b, hb⟩ : ∃ b, b = D.getD n false := ⟨_, rfl⟩
                rw [← hb] at cb0 hvs
                generalize hV2 : val (D.take (n + 1)) = V2 at *
                have HV2 := Lib.hid hV2
                generalize val (D.take n) = V at *
                have hV : V < 16384 := by omega
                have hnI : (n : Int) < 15 := by omega
                clear hb hbit hTb hvl hp14 hnx hst hV2 HS
                cases b
                · have hVI : (V2 : Int) = ((V : Int) * 2) := by simp at hvs; omega
                  have HVS := Lib.hid hvs
                  have HVI := Lib.hid hVI
                  have hu1 : ((V : Int) * 2) < 32768 := by omega
                  clear hvs hVI
                  go_wp2_with fail
                  go_loopw [15, 18] (fun s y wi => ∃ (i : Nat), i ≤ F.length ∧ s = .int .i64 (fndK F (n + 1) V2 i) ∧ y = .int .i64 i ∧ wi = wr) (fun _ y _ => F.length - (intOf y).toNat)
                  case atStart => exact ⟨0, by omega, rfl, rfl, rfl⟩
                  case round =>
                    obtain ⟨i, hi, rfl, rfl, hwi⟩ := hrel
                    subst hwi
                    by_cases hli : i < F.length
                    · obtain ⟨bb, off2, cap', hs, _, _, hbb, hc⟩ := HVr.out.cells (by omega)
                      simp at hs
                      obtain ⟨rfl, rfl⟩ := hs
                      have c0 := hc i hli
                      obtain ⟨X, hX, d0⟩ := fst_cell HOK.out.2.1 HCr.out hli
                      have hfs := @fndK_step F (n + 1) V2 i
                      have HFS := Lib.hid hfs
                      have HX := Lib.hid hX
                      have hliI : (i : Int) < (F.length : Int) := by omega
                      generalize hx : F.getD i 0 = x at *
                      generalize fndK F (n + 1) V2 i = S0 at *
                      clear hc hfs hX hx
                      by_cases hxn : x = (n : Int) + 1
                      · have hXc : X = codeN F i := HX.out (by omega)
                        by_cases hcv : codeN F i = V2
                        · have hXV : (X : Int) = ((V : Int) * 2) := by rw [hXc, hcv, HVI.out]
                          have HR : Hid (fndK F (n + 1) V2 (i + 1) = (i : Int)) := Lib.hid (by rw [HFS.out, if_pos ⟨by rw [hxn]; simp, hcv⟩])
                          have ht1 := beq_t hxn
                          have ht2 := beq_t hXV
                          clear hXc hcv HFS HX hXV
                          go_wp2_with fail
                          refine ⟨⟨i + 1, by omega, by rw [HR.out], by first | rfl | go_num, by first | rfl | trivial⟩, ?_⟩
                          simp only [intOf_int]; omega
                        · have hXV : ¬ (X : Int) = ((V : Int) * 2) := by rw [hXc, ← HVI.out]; omega
                          have HR : Hid (fndK F (n + 1) V2 (i + 1) = S0) := Lib.hid (by rw [HFS.out, if_neg (fun h => hcv h.2)])
                          have ht1 := beq_t hxn
                          have ht2 := beq_f hXV
                          clear hXc hcv HFS HX hXV
                          go_wp2_with fail
                          refine ⟨⟨i + 1, by omega, by rw [HR.out], by first | rfl | go_num, by first | rfl | trivial⟩, ?_⟩
                          simp only [intOf_int]; omega
                      · have HR : Hid (fndK F (n + 1) V2 (i + 1) = S0) := Lib.hid (by rw [HFS.out, if_neg (fun h => hxn (by rw [h.1]; simp))])
                        have ht1 := beq_f hxn
                        clear HFS HX
                        go_wp2_with fail
                        refine ⟨⟨i + 1, by omega, by rw [HR.out], by first | rfl | go_num, by first | rfl | trivial⟩, ?_⟩
                        simp only [intOf_int]; omega
                    · obtain rfl : i = F.length := by omega
                      generalize fndK F (n + 1) V2 F.length = S2 at *
                      go_wp2_with fail
                      refine ⟨⟨n + 1, S2, T + 1, by omega, by omega, by rw [HT.out]; omega, by simp, rfl, by rw [HV2.out, HVI.out], by simp, HSN.out, by first | rfl | trivial⟩, ?_⟩
                      simp only [intOf_int]; omega
                · have hVI : (V2 : Int) = ((V : Int) * 2 + 1) := by simp at hvs; omega
                  have HVS := Lib.hid hvs
                  have HVI := Lib.hid hVI
                  have hu1 : ((V : Int) * 2 + 1) < 32768 := by omega
                  clear hvs hVI
                  go_wp2_with fail
                  go_loopw [15, 18] (fun s y wi => ∃ (i : Nat), i ≤ F.length ∧ s = .int .i64 (fndK F (n + 1) V2 i) ∧ y = .int .i64 i ∧ wi = wr) (fun _ y _ => F.length - (intOf y).toNat)
                  case atStart => exact ⟨0, by omega, rfl, rfl, rfl⟩
                  case round =>
                    obtain ⟨i, hi, rfl, rfl, hwi⟩ := hrel
                    subst hwi
                    by_cases hli : i < F.length
                    · obtain ⟨bb, off2, cap', hs, _, _, hbb, hc⟩ := HVr.out.cells (by omega)
                      simp at hs
                      obtain ⟨rfl, rfl⟩ := hs
                      have c0 := hc i hli
                      obtain ⟨X, hX, d0⟩ := fst_cell HOK.out.2.1 HCr.out hli
                      have hfs := @fndK_step F (n + 1) V2 i
                      have HFS := Lib.hid hfs
                      have HX := Lib.hid hX
                      have hliI : (i : Int) < (F.length : Int) := by omega
                      generalize hx : F.getD i 0 = x at *
                      generalize fndK F (n + 1) V2 i = S0 at *
                      clear hc hfs hX hx
                      by_cases hxn : x = (n : Int) + 1
                      · have hXc : X = codeN F i := HX.out (by omega)
                        by_cases hcv : codeN F i = V2
                        · have hXV : (X : Int) = ((V : Int) * 2 + 1) := by rw [hXc, hcv, HVI.out]
                          have HR : Hid (fndK F (n + 1) V2 (i + 1) = (i : Int)) := Lib.hid (by rw [HFS.out, if_pos ⟨by rw [hxn]; simp, hcv⟩])
                          have ht1 := beq_t hxn
                          have ht2 := beq_t hXV
                          clear hXc hcv HFS HX hXV
                          go_wp2_with fail
                          refine ⟨⟨i + 1, by omega, by rw [HR.out], by first | rfl | go_num, by first | rfl | trivial⟩, ?_⟩
                          simp only [intOf_int]; omega
                        · have hXV : ¬ (X : Int) = ((V : Int) * 2 + 1) := by rw [hXc, ← HVI.out]; omega
                          have HR : Hid (fndK F (n + 1) V2 (i + 1) = S0) := Lib.hid (by rw [HFS.out, if_neg (fun h => hcv h.2)])
                          have ht1 := beq_t hxn
                          have ht2 := beq_f hXV
                          clear hXc hcv HFS HX hXV
                          go_wp2_with fail
                          refine ⟨⟨i + 1, by omega, by rw [HR.out], by first | rfl | go_num, by first | rfl | trivial⟩, ?_⟩
                          simp only [intOf_int]; omega
                      · have HR : Hid (fndK F (n + 1) V2 (i + 1) = S0) := Lib.hid (by rw [HFS.out, if_neg (fun h => hxn (by rw [h.1]; simp))])
                        have ht1 := beq_f hxn
                        clear HFS HX
                        go_wp2_with fail
                        refine ⟨⟨i + 1, by omega, by rw [HR.out], by first | rfl | go_num, by first | rfl | trivial⟩, ?_⟩
                        simp only [intOf_int]; omega
                    · obtain rfl : i = F.length := by omega
                      generalize fndK F (n + 1) V2 F.length = S2 at *
                      go_wp2_with fail
                      refine ⟨⟨n + 1, S2, T + 1, by omega, by omega, by rw [HT.out]; omega, by simp, rfl, by rw [HV2.out, HVI.out], by simp, HSN.out, by first | rfl | trivial⟩, ?_⟩
                      simp only [intOf_int]; omega
              · have hnone := srch_none HS.out hs0 (.inr (by omega)) (by omega)
                have HNO := Lib.hid hnone
                have hTn : T = nb := by rw [HT.out]; omega
                subst hTn
                have hnI : (n : Int) < 15 := by omega
                clear hnone
                generalize val (D.take n) = V at *
                go_wp2_with fail
                go_ret3
                exact refRead_err HOK.out (HB1.out.trans (HB.out.mono HB1.out.size)) (by rw [← HE.out]; exact rdF_none (by rw [← HD.out]; exact HNO.out))
            · have hnone := srch_none HS.out hs0 (.inl (by omega)) (by omega)
              have HNO := Lib.hid hnone
              clear hnone
              generalize val (D.take n) = V at *
              go_wp2_with fail
              go_ret3
              exact refRead_err HOK.out (HB1.out.trans (HB.out.mono HB1.out.size)) (by rw [← HE.out]; exact rdF_none (by rw [← HD.out]; exact HNO.out))
          · have hst : stepL F D = some (S, n) := by
              rcases HS.out with ⟨h, _⟩ | ⟨_, h⟩
              · omega
              · exact h
            have HST : Hid (stepL F (M.drop at1) = some (S, n)) := Lib.hid (by rw [← HD.out]; exact hst)
            have hn0 := (stepL_some hst).1
            have hNI : N + 1 ≤ 17592186044416 := by omega
            clear hst HS
            generalize val (D.take n) = V at *
            by_cases hse : S = en
            · subst hse
              have ht := beq_t (rfl : S = S)
              go_wp2_with (at_builtin; refine wpList_append_j rfl (.tmp 77) (.tmp 79) rfl w1.heap.size (.slice sp N cp) N _ S rfl HO.out _ rfl rfl hNI hsz ?_; intro v' w3 hown hgr; obtain ⟨sp', cp', rfl, hcp3, hcp4⟩ := ownsRow_slice hown)
              go_ret3
              have hlen : (A ++ [S]).length = N + 1 := by rw [List.length_append, List.length_singleton, HN.out]
              refine ⟨HB1.out.trans ((bel_append HB.out _ HO.out hgr hsz).mono HB1.out.size), .inr ⟨HOK.out, A ++ [S], 0, T, sp', cp', ?_, by rw [hlen]; rfl, by rw [hlen]; exact own_base hown HB1.out.size⟩⟩
              rw [← HE.out, HT.out]; exact rdF_end HST.out
            · have hsf := beq_f hse
              go_wp2_with (at_builtin; refine wpList_append_j rfl (.tmp 77) (.tmp 79) rfl w1.heap.size (.slice sp N cp) N _ S rfl HO.out _ rfl rfl hNI hsz ?_; intro v' w3 hown hgr; obtain ⟨sp', cp', rfl, hcp3, hcp4⟩ := ownsRow_slice hown)
              have hlen : (A ++ [S]).length = N + 1 := by rw [List.length_append, List.length_singleton, HN.out]
              refine ⟨⟨A ++ [S], T, sp', cp', by rw [hlen], rfl, by rw [hlen]; exact hcp3, hcp4, by rw [hlen]; exact hown, by rw [hlen]; have := HT.out; omega, hTnb, ?_, bel_append HB.out _ HO.out hgr hsz⟩, ?_⟩
              · rw [hlen, HM3.out, HT.out, ← HE.out]; exact (rdF_more HST.out hse).symm
              · simp only [lenOfV_slice]; omega
  · have HN := Lib.hid hok
    clear hok
    go_enter Try.func24, Try.ntmps24
    go_wp2_with fail
    refine hcod.mono ?_
    rintro e w' ⟨hb, ⟨h, _⟩ | ⟨_, rfl⟩⟩
    · exact absurd h HN.out
    clear hcod
    go_wp2
    go_ret3
    exact ⟨hb, .inl ⟨HN.out, rfl⟩⟩
end Go.Proofs.Ytijjpbpoekbekaa

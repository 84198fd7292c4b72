/- folioref14.bad, Sectors: contracts. -/
import Derived.Test.YtacgaflhcmflbaaParO
set_option linter.unusedSimpArgs false
set_option linter.unusedVariables false
set_option maxRecDepth 100000
namespace Go.Proofs.Ytacgaflhcmflbaa
open Go.RowKit Pl
attribute [local go_sem ↓] maxN_eq
set_option maxHeartbeats 1000000 in
theorem refBad_any (vb : Value) (E : List (List Bool)) (i s : Nat) (w : World) (hb : IsBRows w vb E) (hi : i < E.length) :
    Calls Try.prog 28 #[vb, .int .i64 i, .int .i64 s] w fun e w' => e = .returned (.bool (bd E i s)) ∧ w = w' := by
  obtain ⟨a, cap, rfl, hcap, hmax⟩ := hb.slice
  unfold maxLen at hmax
  obtain ⟨n, hn⟩ : ∃ n, E.length = n := ⟨_, rfl⟩
  have hb' : IsBRows w (.slice a n cap) E := by rw [← hn]; exact hb
  rw [hn] at hi hcap ⊢
  obtain ⟨b, off, a', n', c', rfl, hbl, hc, hnc, hcm, hI⟩ := hb'.at (i := i) (by rw [hn]; exact hi)
  unfold maxLen at hcm
  have hlen := hI.len
  have HLEN := Lib.hid hlen
  have HBD : Hid (bd E i s = (E.getD i []).getD s false) := Lib.hid rfl
  by_cases hs : s < n'
  · obtain ⟨b2, o2, rfl, hb2, hc2⟩ := hI.at hs
    have HI := Lib.hid hI
    clear hb hb' hlen hI
    generalize (E.getD i []).getD s false = x at *
    go_enter Try.func28, Try.ntmps28
    go_wp2
    go_ret
    exact ⟨by rw [HBD.out]; rfl, rfl⟩
  · have hd : (E.getD i []).getD s false = false := by rw [List.getD_eq_getElem?_getD, List.getElem?_eq_none (by omega)]; rfl
    rw [hd] at HBD
    clear hb hb' hlen hI hd
    go_enter Try.func28, Try.ntmps28
    go_wp2
    go_ret
    exact ⟨by rw [HBD.out]; rfl, rfl⟩
/-- what the reference answers where members, parity and sizes fit -/
def RefPost (L : List (List Nat)) (P : List Nat) (E : List (List Bool)) (w : World) (e : Ending) (w' : World) : Prop :=
  Below w.heap.size w w' ∧ (((E.length = L.length + 1 ∧ Apart L E) ∧ ∃ sp cp, e = .returned (.tuple #[.slice sp L.length cp, .bool true]) ∧ IsRows w' (.slice sp L.length cp) (secL L E P)) ∨
    (¬ (E.length = L.length + 1 ∧ Apart L E) ∧ e = .returned (.tuple #[.slice none 0 0, .bool false])))
set_option maxHeartbeats 16000000 in
theorem refSectors_any (v pv vs ve : Value) (L : List (List Nat)) (P : List Nat) (S : List Int) (E : List (List Bool)) (w : World) (hr : IsRows w v L) (hp : IsBytes w pv P) (hs : IsInts w vs S) (he : IsBRows w ve E) (hf : FitOk L P.length S) (hL : L.length ≤ 1000000) (hm : mxL L ≤ 1000000) (hE : E.length ≤ 10000000) :
    Calls Try.prog 17 #[v, pv, vs, ve] w (RefPost L P E w) := by
  obtain ⟨a, cap, rfl, hcap, hmax⟩ := hr.slice
  obtain ⟨pa, pc, rfl, hpc, hpm⟩ := hp.slice
  obtain ⟨sa, sc, rfl, hsc, hsm⟩ := hs.slice
  obtain ⟨ea, ec, rfl, hec, hem⟩ := he.slice
  unfold maxLen at hmax hpm hsm hem
  obtain ⟨n, hn⟩ : ∃ n, L.length = n := ⟨_, rfl⟩
  obtain ⟨np, hnp⟩ : ∃ np, P.length = np := ⟨_, rfl⟩
  obtain ⟨ne, hne⟩ : ∃ ne, E.length = ne := ⟨_, rfl⟩
  have hns : S.length = n := by rw [hf.1, hn]
  have hr' : IsRows w (.slice a n cap) L := by rw [← hn]; exact hr
  have hp' : IsBytes w (.slice pa np pc) P := by rw [← hnp]; exact hp
  have hs' : IsInts w (.slice sa n sc) S := by rw [← hns]; exact hs
  have he' : IsBRows w (.slice ea ne ec) E := by rw [← hne]; exact he
  rw [hn] at hL hcap ⊢
  rw [hnp] at hpc ⊢
  rw [hns] at hsc ⊢
  rw [hne] at hec hE ⊢
  have HMXE : Hid (mxL L = np) := Lib.hid (by rw [← hnp]; exact hf.2.2.symm)
  have HSZ : Hid (∀ i, i < n → S.getD i 0 = ((L.getD i []).length : Nat)) := Lib.hid (by rw [← hn]; exact hf.2.1)
  have HR := Lib.hid hr'
  have HP := Lib.hid hp'
  have HS := Lib.hid hs'
  have HE := Lib.hid he'
  have HN := Lib.hid hn
  have HNP := Lib.hid hnp
  have HNS := Lib.hid hns
  have HNE := Lib.hid hne
  have hnpm : np ≤ 1000000 := by have := HMXE.out; omega
  clear hr hp hs he hr' hp' hs' he' hn hnp hns hne hm hf
  have hb1 : ((n : Int) != (n : Int)) = false := bne_f rfl
  by_cases h1 : ne = n + 1
  rotate_left
  · have hb : ((ne : Int) != (n : Int) + 1) = true := bne_t (by omega)
    have HNO : Hid (¬ (E.length = L.length + 1 ∧ Apart L E)) := Lib.hid fun h => h1 (by have := h.1; rw [HNE.out, HN.out] at this; exact this)
    clear h1
    go_enter Try.func17, Try.ntmps17
    go_wp2_with fail
    go_ret2
    exact ⟨Below.refl _ _, .inr ⟨HNO.out, rfl⟩⟩
  subst h1
  have hb2 : (((n + 1 : Nat) : Int) != (n : Int) + 1) = false := bne_f (by omega)
  have hb3 : ((n : Int) + 1 != (n : Int) + 1) = false := bne_f rfl
  have HLT := Lib.hid HR.out.lt
  have HPL : Hid (∀ x ∈ P, x < 256) := Lib.hid HP.out.1
  go_enter Try.func17, Try.ntmps17
  go_wp2_with fail
  clear hb2 hb3
  go_loopw [10, 11] (fun x y wr => ∃ i : Nat, i ≤ n ∧ y = .int .i64 i ∧ x = .int .i64 (mxL (L.take i) : Nat) ∧ Below w.heap.size w wr) (fun _ y _ => n - (intOf y).toNat)
  case atStart => exact ⟨0, by omega, rfl, by simp [mxL], Below.refl _ _⟩
  case round =>
    obtain ⟨i, hi, rfl, rfl, hb⟩ := hrel
    have HB := Lib.hid hb
    clear hb
    by_cases hlt : i < n
    · obtain ⟨b, off, a', c', rfl, hbl, hc, hI⟩ := (HR.out.below HB.out).at (i := i) (by rw [HN.out]; exact hlt)
      obtain ⟨b2, off2, cap2, hs2, _, _, _, hc2⟩ := (HS.out.below HB.out).cells (by rw [HNS.out]; omega)
      rw [HNS.out] at hs2
      simp at hs2
      obtain ⟨rfl, rfl⟩ := hs2
      have c2 := hc2 i (by rw [HNS.out]; exact hlt)
      rw [HSZ.out i hlt] at c2
      have hst := mxL_step L i (by rw [HN.out]; exact hlt)
      have hmx := fun ats ty W => run_maxN ats ty (mxL (L.take i)) (L.getD i []).length W
      rw [← hst] at hmx
      have HST := Lib.hid hst
      have hqm : (L.getD i []).length ≤ maxLen := by
        obtain ⟨_, cc, he, h1, h2⟩ := hI.slice
        omega
      unfold maxLen at hqm
      have hI1 := Lib.hid hI
      clear hI hst hc2
      generalize (L.getD i []).length = q at *
      generalize mxL (L.take i) = r at *
      have hb4 : ((q : Int) != (q : Int)) = false := bne_f rfl
      have hb5 : decide ((q : Int) < 0) = false := decide_eq_false (by omega)
      go_wp2_with fail
      go_quiet (fail)
      go_wp2_with fail
      go_roundw
      case rel => exact ⟨i + 1, by omega, by go_num, rfl, bel_drewN HB.out _⟩
      case measure => simp [intOf]; omega
    · obtain rfl : i = n := by omega
      have hti : mxL (L.take i) = np := by rw [← HN.out, List.take_length]; exact HMXE.out
      rw [hti]
      have hb6 : ((np : Int) != (np : Int)) = false := bne_f rfl
      have HB0 := Lib.hid HB.out
      clear hti HB
      have hsz0 := HB0.out.size
      go_wp2_with fail
      clear hb1 hb6
      go_loopw [12, 13] (fun o y wk => ∃ j : Nat, j ≤ i ∧ y = .int .i64 j ∧ (∃ Vs, RowI j w.heap.size o Vs (fun t => L.getD t []) wk) ∧ Below w.heap.size w wk) (fun _ y _ => i - (intOf y).toNat)
      case atStart => exact ⟨0, by omega, rfl, ⟨[], rowI_nil _ _ _⟩, HB0.out⟩
      case round =>
        obtain ⟨j, hj, rfl, ⟨Vs, hR⟩, hb⟩ := hrel
        obtain ⟨sp, cp, rfl, _, _⟩ := ownsRow_slice hR.row
        have HB := Lib.hid hb
        have HRI := Lib.hid hR
        have hsz := hb.size
        clear hb hR HB0
        by_cases hlt2 : j < i
        · obtain ⟨b, off, a', c', hsp, hbl, hc, hI⟩ := (HR.out.below HB.out).at (i := j) (by rw [HN.out]; exact hlt2)
          obtain rfl := hsp
          obtain ⟨B, hB⟩ : ∃ B, L.getD j [] = B := ⟨_, rfl⟩
          rw [hB] at hc hI
          have hqm : B.length ≤ 1000000 := by
            have := mxL_at (L := L) (i := j) (by rw [HN.out]; exact hlt2)
            rw [hB, HMXE.out] at this
            omega
          have HBB := Lib.hid hB
          obtain ⟨q, hq⟩ : ∃ q, B.length = q := ⟨_, rfl⟩
          rw [hq] at hc hI hqm
          have HQ := Lib.hid hq
          have HI := Lib.hid hI
          clear hB hq hI
          go_wp2_with (first | (at_builtin; refine wpList_append_bytes rfl _ (.tmp 77) rfl wr.heap.size (.slice none 0 0) 0 [] rfl (own_nil _ _) _ B rfl HI.out (by rw [HQ.out]; omega) (Nat.le_refl _) ?_; intro v5 w5 hO5 hg5; obtain ⟨sp5, cp5, rfl, _, _⟩ := ownsRow_slice hO5; have HO5 : Hid (w5.ownsRow wr.heap.size 5 1 (.slice sp5 q cp5) q (u8s B)) := Lib.hid (by rw [Nat.zero_add, HQ.out, List.nil_append] at hO5; exact hO5); have HB5 : Hid (Below wr.heap.size wr w5) := Lib.hid ((Below.refl _ _).grown hg5 (Nat.le_refl _) (by intro q hq; simp [Value.ownBlock] at hq)); have hs5 := HB5.out.size; rw [Nat.zero_add, HQ.out]; clear hO5 hg5) | (at_builtin; refine wpList_append_rowI rfl (.tmp 73) (.tmp 79) rfl w.heap.size (.slice sp j cp) j Vs _ rfl HRI.out HB5.out B _ _ _ HQ.out HO5.out rfl (by omega) hsz ?_; intro v6 w6 hR6 hg6; obtain ⟨sp6, cp6, rfl, _, _⟩ := ownsRow_slice hR6.row))
          go_roundw
          case rel =>
            refine ⟨j + 1, by omega, by go_num, ⟨_, hR6.congr fun t ht => ?_⟩, ?_⟩
            · by_cases htj : t < j
              · simp only [if_pos htj]
              · obtain rfl : t = j := by omega
                simp only [if_neg htj]
                exact HBB.out.symm
            · exact ((HB.out.trans (HB5.out.mono hsz)).alloc (by omega) _).grown hg6 (by simp; omega) HRI.out.lt
          case measure => simp [intOf]; omega
        · obtain rfl : j = i := by omega
          clear hlt2 hj
          obtain ⟨n, hnj⟩ : ∃ n, n = j := ⟨_, rfl⟩
          subst hnj
          have HK0 : Hid (RowI n w.heap.size (.slice sp n cp) Vs (fun t => rowK L E (lef L E P n) t 0) wr) := Lib.hid (HRI.out.congr fun t _ => (rowK_zero L E _ t).symm)
          clear HRI
          go_wp2_with fail
          go_loopw [14] (fun y wk => ∃ k : Nat, k ≤ np ∧ y = .int .i64 k ∧ RowI n w.heap.size (.slice sp n cp) Vs (fun t => rowK L E (lef L E P n) t k) wk ∧ Below w.heap.size w wk ∧ ∀ q, q < k → OkS L E (q / 64)) (fun y _ => np - (intOf y).toNat)
          case atStart => exact ⟨0, by omega, rfl, HK0.out, HB.out, fun q hq => by omega⟩
          case round =>
            obtain ⟨k, hk, rfl, hR, hb, hok⟩ := hrel
            have HRI := Lib.hid hR
            have HBk := Lib.hid hb
            have HOK := Lib.hid hok
            clear HK0 HB hR hb hok
            by_cases hlt2 : k < np
            · have hn0 : 0 < n := by
                apply Classical.byContradiction
                intro h
                have : L = [] := List.eq_nil_of_length_eq_zero (by rw [HN.out]; omega)
                have hx := HMXE.out
                rw [this] at hx
                simp only [mxL] at hx
                omega
              obtain ⟨s, hs⟩ : ∃ s, k / 64 = s := ⟨_, rfl⟩
              have hq64 : (k : Int) / 64 = (s : Int) := by omega
              have hsk : s ≤ k := by omega
              have HS64 := Lib.hid hs
              obtain ⟨bp, op, cpp, hps, _, _, _, hpc2⟩ := (HP.out.below HBk.out).cells (by rw [HNP.out]; omega)
              rw [HNP.out] at hps
              simp at hps
              obtain ⟨rfl, rfl⟩ := hps
              have cp0 := hpc2 k (by rw [HNP.out]; exact hlt2)
              rw [← lef_0 L E P k] at cp0
              obtain ⟨b2, off2, cap2, hs2, _, _, _, hc2⟩ := (HS.out.below HBk.out).cells (by rw [HNS.out]; omega)
              rw [HNS.out] at hs2
              simp at hs2
              obtain ⟨rfl, rfl⟩ := hs2
              obtain ⟨G, cG, hG, _, _, _, _⟩ := own_open HRI.out.row hn0
              simp at hG
              obtain ⟨rfl, rfl⟩ := hG
              have HC2 := Lib.hid hc2
              clear hs hpc2 hc2
              go_wp2_with fail
              go_loop [16, 17, 18, 19] (fun vl va vx y => ∃ j : Nat, j ≤ n ∧ y = .int .i64 j ∧ vl = .int .i64 (lst L E s j) ∧ va = .int .i64 (cnt L E s j : Nat) ∧ vx = .int .u8 (lef L E P j k : Nat)) (fun _ _ _ y => n - (intOf y).toNat)
              case atStart => exact ⟨0, by omega, rfl, rfl, rfl, rfl⟩
              case round =>
                obtain ⟨j, hj, rfl, rfl, rfl, rfl⟩ := hrel
                have hc2 := HC2.out
                by_cases hlt3 : j < n
                · obtain ⟨b, off, a', c', rfl, hbl, hc, hI⟩ := (HR.out.below HBk.out).at (i := j) (by rw [HN.out]; exact hlt3)
                  have c2 := hc2 j (by rw [HNS.out]; exact hlt3)
                  rw [HSZ.out j hlt3] at c2
                  have hbad := refBad_any _ E j s wr (HE.out.below HBk.out) (by rw [HNE.out]; omega)
                  have hmq := mxL_at (L := L) (i := j) (by rw [HN.out]; exact hlt3)
                  have HI : Hid (IsBytes wr (.slice a' (L.getD j []).length c') (L.getD j [])) := Lib.hid hI
                  obtain ⟨q, hq⟩ : ∃ q, (L.getD j []).length = q := ⟨_, rfl⟩
                  rw [HMXE.out] at hmq
                  rw [hq] at hc c2 hmq
                  have HQ := Lib.hid hq
                  obtain ⟨c, hcc⟩ : ∃ c, cnt L E s j = c := ⟨_, rfl⟩
                  obtain ⟨l, hl⟩ : ∃ l, lst L E s j = l := ⟨_, rfl⟩
                  obtain ⟨x, hx⟩ : ∃ x, lef L E P j k = x := ⟨_, rfl⟩
                  have hcj : c ≤ j := by rw [← hcc]; exact cnt_le _ _ _ _
                  have hx8 : x < 256 := by rw [← hx]; exact lef_lt HLT.out HPL.out _ _
                  rw [hcc, hl, hx]
                  have HC := Lib.hid hcc
                  have HLL := Lib.hid hl
                  have HXX := Lib.hid hx
                  clear hcc hl hx hq hI hc2 HRI cp0
                  by_cases hre : s * 64 < q
                  · have hr1 : decide ((q : Int) > (s : Int) * 64) = true := decide_eq_true (by omega)
                    cases hbd : bd E j s with
                    | true =>
                      have HRC : Hid (rc L E j s = true) := Lib.hid (by unfold rc; rw [hbd, HQ.out]; simp [hre])
                      have HL1 : Hid (lst L E s (j + 1) = (j : Int)) := Lib.hid (by simp only [lst]; rw [if_pos HRC.out])
                      have HC1 : Hid (cnt L E s (j + 1) = c + 1) := Lib.hid (by simp only [cnt]; rw [if_pos HRC.out, HC.out])
                      have HX1 : Hid (lef L E P (j + 1) k = x) := Lib.hid (by rw [lef_rc (by rw [HS64.out]; exact HRC.out), HXX.out])
                      rw [hbd] at hbad
                      have HBAD := Lib.hid hbad
                      clear hbad hbd HRC
                      go_wp2_with fail
                      refine HBAD.out.mono ?_
                      rintro e w' ⟨rfl, rfl⟩
                      clear HBAD
                      go_wp2_with fail
                      go_round
                      case rel => exact ⟨j + 1, by omega, by go_num, by rw [HL1.out], by rw [HC1.out]; go_num, by rw [HX1.out]⟩
                      case measure => simp [intOf]; omega
                    | false =>
                      have HRC : Hid (rc L E j s = false) := Lib.hid (by unfold rc; rw [hbd]; rfl)
                      have HRCK := HRC
                      rw [hbd] at hbad
                      have HBAD := Lib.hid hbad
                      clear hbad hbd
                      have HL1 : Hid (lst L E s (j + 1) = l) := Lib.hid (by simp only [lst]; rw [if_neg (by rw [HRC.out]; simp)]; exact HLL.out)
                      have HC1 : Hid (cnt L E s (j + 1) = c) := Lib.hid (by simp only [cnt]; rw [if_neg (by rw [HRC.out]; simp), HC.out]; rfl)
                      clear HRC
                      by_cases hkq : k < q
                      · have hd : decide ((k : Int) < (q : Int)) = true := decide_eq_true (by omega)
                        obtain ⟨b3, off3, cap3, hs3, _, _, _, hc3⟩ := HI.out.cells (by rw [HQ.out]; omega)
                        rw [HQ.out] at hs3
                        simp at hs3
                        obtain ⟨rfl, rfl⟩ := hs3
                        have c3 := hc3 k (by rw [HQ.out]; exact hkq)
                        have hy8 := byte_at HI.out.1 k
                        have HX1 := Lib.hid (show lef L E P (j + 1) k = x ^^^ (L.getD j []).getD k 0 by rw [lef_in (by rw [HS64.out]; exact HRCK.out) (by rw [HQ.out]; exact hkq), HXX.out])
                        clear hc3
                        generalize (L.getD j []).getD k 0 = y at *
                        have e1 : bits BinOp.xor IntKind.u8 (x : Int) (y : Int) = ((x ^^^ y : Nat) : Int) := u8_xor_nat _ _ hx8 hy8
                        clear hx8 hy8
                        generalize x ^^^ y = z at *
                        go_wp2_with fail
                        refine HBAD.out.mono ?_
                        rintro e w' ⟨rfl, rfl⟩
                        clear HBAD
                        go_wp2_with fail
                        go_round
                        case rel => exact ⟨j + 1, by omega, by go_num, by rw [HL1.out], by rw [HC1.out], by rw [HX1.out]⟩
                        case measure => simp [intOf]; omega
                      · have hd : decide ((k : Int) < (q : Int)) = false := decide_eq_false (by omega)
                        have HX1 := Lib.hid (show lef L E P (j + 1) k = x by rw [lef_out (by rw [HQ.out]; omega), HXX.out])
                        go_wp2_with fail
                        refine HBAD.out.mono ?_
                        rintro e w' ⟨rfl, rfl⟩
                        clear HBAD
                        go_wp2_with fail
                        go_round
                        case rel => exact ⟨j + 1, by omega, by go_num, by rw [HL1.out], by rw [HC1.out], by rw [HX1.out]⟩
                        case measure => simp [intOf]; omega
                  · have hr1 : decide ((q : Int) > (s : Int) * 64) = false := decide_eq_false (by omega)
                    have HRC : Hid (rc L E j s = false) := Lib.hid (by unfold rc; rw [HQ.out, decide_eq_false hre, Bool.and_false])
                    have HRCK := HRC
                    clear hbad
                    have HL1 : Hid (lst L E s (j + 1) = l) := Lib.hid (by simp only [lst]; rw [if_neg (by rw [HRC.out]; simp)]; exact HLL.out)
                    have HC1 : Hid (cnt L E s (j + 1) = c) := Lib.hid (by simp only [cnt]; rw [if_neg (by rw [HRC.out]; simp), HC.out]; rfl)
                    clear HRC
                    by_cases hkq : k < q
                    · have hd : decide ((k : Int) < (q : Int)) = true := decide_eq_true (by omega)
                      obtain ⟨b3, off3, cap3, hs3, _, _, _, hc3⟩ := HI.out.cells (by rw [HQ.out]; omega)
                      rw [HQ.out] at hs3
                      simp at hs3
                      obtain ⟨rfl, rfl⟩ := hs3
                      have c3 := hc3 k (by rw [HQ.out]; exact hkq)
                      have hy8 := byte_at HI.out.1 k
                      have HX1 := Lib.hid (show lef L E P (j + 1) k = x ^^^ (L.getD j []).getD k 0 by rw [lef_in (by rw [HS64.out]; exact HRCK.out) (by rw [HQ.out]; exact hkq), HXX.out])
                      clear hc3
                      generalize (L.getD j []).getD k 0 = y at *
                      have e1 : bits BinOp.xor IntKind.u8 (x : Int) (y : Int) = ((x ^^^ y : Nat) : Int) := u8_xor_nat _ _ hx8 hy8
                      clear hx8 hy8
                      generalize x ^^^ y = z at *
                      go_wp2_with fail
                      go_round
                      case rel => exact ⟨j + 1, by omega, by go_num, by rw [HL1.out], by rw [HC1.out], by rw [HX1.out]⟩
                      case measure => simp [intOf]; omega
                    · have hd : decide ((k : Int) < (q : Int)) = false := decide_eq_false (by omega)
                      have HX1 := Lib.hid (show lef L E P (j + 1) k = x by rw [lef_out (by rw [HQ.out]; omega), HXX.out])
                      go_wp2_with fail
                      go_round
                      case rel => exact ⟨j + 1, by omega, by go_num, by rw [HL1.out], by rw [HC1.out], by rw [HX1.out]⟩
                      case measure => simp [intOf]; omega
                · obtain rfl : n = j := by omega
                  obtain ⟨c, hc⟩ : ∃ c, cnt L E s n = c := ⟨_, rfl⟩
                  obtain ⟨l, hl⟩ : ∃ l, lst L E s n = l := ⟨_, rfl⟩
                  obtain ⟨x, hx⟩ : ∃ x, lef L E P n k = x := ⟨_, rfl⟩
                  have hcn : c ≤ n := by rw [← hc]; exact cnt_le _ _ _ _
                  have hcas := cnt_cases L E s n
                  rw [hc, hl] at hcas
                  rw [hc, hl, hx]
                  have HC := Lib.hid hc
                  have HXX := Lib.hid hx
                  clear hc hl hx hlt3 hj cp0
                  rcases hcas with ⟨rfl, hno⟩ | ⟨rfl, jl, hjl, hrl, rfl, hoth⟩ | ⟨h2, _⟩
                  · have HOKS : Hid (OkS L E s) := Lib.hid ⟨by rw [HN.out, HC.out]; omega, fun h => by rw [HN.out, HC.out] at h; omega⟩
                    have HOK1 : Hid (∀ q, q < k + 1 → OkS L E (q / 64)) := Lib.hid fun q hq => by
                      by_cases hqk : q < k
                      · exact HOK.out q hqk
                      · obtain rfl : q = k := by omega
                        rw [HS64.out]
                        exact HOKS.out
                    have HNX : Hid (RowI n w.heap.size (.slice (some ⟨G, 0, none⟩) n cp) Vs (fun t => rowK L E (lef L E P n) t (k + 1)) wr) := Lib.hid (HRI.out.congr fun t ht => rowK_skip L E _ (fun h => by rw [HS64.out, hno t ht] at h; cases h))
                    clear hno
                    go_wp2_with fail
                    go_roundw
                    case rel => exact ⟨k + 1, by omega, by go_num, HNX.out, HBk.out, HOK1.out⟩
                    case measure => simp [intOf]; omega
                  · have hbadn := refBad_any _ E n s wr (HE.out.below HBk.out) (by rw [HNE.out]; omega)
                    have c2l := hc2 jl (by rw [HNS.out]; exact hjl)
                    rw [HSZ.out jl hjl] at c2l
                    cases hbd : bd E n s with
                    | true =>
                      have HNO : Hid (¬ (E.length = L.length + 1 ∧ Apart L E)) := Lib.hid fun h => by
                        have := (okS_of h.2 s).2 (by rw [HN.out]; exact HC.out)
                        rw [HN.out, hbd] at this
                        cases this
                      rw [hbd] at hbadn
                      have HBADN := Lib.hid hbadn
                      clear hbadn hbd hrl hoth c2l
                      go_wp2_with fail
                      refine HBADN.out.mono ?_
                      rintro e w' ⟨rfl, rfl⟩
                      clear HBADN
                      go_wp2_with fail
                      go_ret2
                      exact ⟨HBk.out, .inr ⟨HNO.out, rfl⟩⟩
                    | false =>
                      have HOKS : Hid (OkS L E s) := Lib.hid ⟨by rw [HN.out, HC.out]; omega, fun _ => by rw [HN.out]; exact hbd⟩
                      have HOK1 : Hid (∀ q, q < k + 1 → OkS L E (q / 64)) := Lib.hid fun q hq => by
                        by_cases hqk : q < k
                        · exact HOK.out q hqk
                        · obtain rfl : q = k := by omega
                          rw [HS64.out]
                          exact HOKS.out
                      rw [hbd] at hbadn
                      have HBADN := Lib.hid hbadn
                      obtain ⟨q, hq⟩ : ∃ q, (L.getD jl []).length = q := ⟨_, rfl⟩
                      rw [hq] at c2l
                      have HQ := Lib.hid hq
                      have hmq := mxL_at (L := L) (i := jl) (by rw [HN.out]; exact hjl)
                      rw [HMXE.out, hq] at hmq
                      have hjn : (jl : Int) < (n : Int) := by omega
                      have HRL := Lib.hid hrl
                      have HOTH := Lib.hid hoth
                      clear hbadn hbd hq hrl hoth
                      by_cases hkq : k < q
                      · have hd : decide ((k : Int) < (q : Int)) = true := decide_eq_true (by omega)
                        have he := HRI.out.el jl hjl
                        rw [rowK_length, HQ.out] at he
                        obtain ⟨g, cg, hvg, hg1, hg2, hg3, _⟩ := own_open he (by omega)
                        have cr := World.ownsRow.cellAt HRI.out.row jl (by omega)
                        rw [show Vs[jl]? = some (Vs.getD jl undef) by rw [List.getD_eq_getElem?_getD, List.getElem?_eq_getElem (by rw [HRI.out.len]; exact hjl)]; rfl, hvg] at cr
                        have he2 := he
                        rw [hvg] at he2
                        have c1 := own_cell he2 (i := k) hkq
                        have f1 := World.ownsRow.frozenAt he2 k
                        have hst := World.ownsRow.stored he2 k (.int .u8 x)
                        rw [u8s_set] at hst
                        have HNX : Hid (RowI n w.heap.size (.slice (some ⟨G, 0, none⟩) n cp) Vs (fun t => rowK L E (lef L E P n) t (k + 1)) (wr.setCell ⟨g, k, none⟩ (.int .u8 x))) := Lib.hid (by
                          have hs1 := rowK_set L E (lef L E P n) (i := jl) (k := k) (by rw [HS64.out]; have := HRL.out; unfold rc at this; simp at this; exact this.1)
                          rw [HXX.out] at hs1
                          refine (HRI.out.upd hjl (X := rowK L E (lef L E P n) jl (k + 1)) (by rw [rowK_length, rowK_length]) (by rw [rowK_length, HQ.out, hvg, ← hs1]; exact hst.1) (by rw [hvg]; exact hst.2)).congr fun t ht => ?_
                          by_cases htj : t = jl
                          · subst htj; rw [if_pos rfl]
                          · rw [if_neg htj]
                            exact rowK_skip L E _ (fun h => by rw [HS64.out, HOTH.out t ht htj] at h; cases h))
                        have HB1 : Hid (Below w.heap.size w (wr.setCell ⟨g, k, none⟩ (.int .u8 x))) := Lib.hid (HBk.out.setCell (p := ⟨g, k, none⟩) hg1 _)
                        clear he he2 hst hvg
                        go_wp2_with fail
                        refine HBADN.out.mono ?_
                        rintro e w' ⟨rfl, rfl⟩
                        clear HBADN
                        go_wp2_with fail
                        go_roundw
                        case rel => exact ⟨k + 1, by omega, by go_num, HNX.out, HB1.out, HOK1.out⟩
                        case measure => simp [intOf]; omega
                      · have hd : decide ((k : Int) < (q : Int)) = false := decide_eq_false (by omega)
                        have HNX : Hid (RowI n w.heap.size (.slice (some ⟨G, 0, none⟩) n cp) Vs (fun t => rowK L E (lef L E P n) t (k + 1)) wr) := Lib.hid (HRI.out.congr fun t ht => rowK_skip L E _ (fun h => by
                          by_cases htj : t = jl
                          · subst htj; rw [HQ.out]; omega
                          · rw [HS64.out, HOTH.out t ht htj] at h; cases h))
                        go_wp2_with fail
                        refine HBADN.out.mono ?_
                        rintro e w' ⟨rfl, rfl⟩
                        clear HBADN
                        go_wp2_with fail
                        go_roundw
                        case rel => exact ⟨k + 1, by omega, by go_num, HNX.out, HBk.out, HOK1.out⟩
                        case measure => simp [intOf]; omega
                  · have HNO : Hid (¬ (E.length = L.length + 1 ∧ Apart L E)) := Lib.hid fun h => by
                      have := (okS_of h.2 s).1
                      rw [HN.out, HC.out] at this
                      omega
                    have hd1 : decide ((c : Int) > 1) = true := decide_eq_true (by omega)
                    go_wp2_with fail
                    go_ret2
                    exact ⟨HBk.out, .inr ⟨HNO.out, rfl⟩⟩
            · obtain rfl : np = k := by omega
              have HAP : Hid (Apart L E) := Lib.hid (apart_of fun q hq => HOK.out q (by rw [HMXE.out] at hq; exact hq))
              have HRES : Hid (IsRows wr (.slice sp n cp) (secL L E P)) := Lib.hid (by
                refine (HRI.out.ownRows (R := secL L E P) (by rw [secL_length, HN.out]) (fun i hi => ?_) fun i hi => rowK_lt (lt_getD HLT.out i) (fun q => lef_lt HLT.out HPL.out _ _)).isRows
                rw [secL_get (by rw [HN.out]; exact hi), HN.out, rowK_all]
                have := mxL_at (L := L) (i := i) (by rw [HN.out]; exact hi)
                rw [HMXE.out] at this
                exact this)
              clear HRI HOK
              go_wp2_with fail
              go_ret2
              exact ⟨HBk.out, .inl ⟨⟨by rw [HNE.out, HN.out], HAP.out⟩, sp, cp, by rw [HN.out]; rfl, by rw [HN.out]; exact HRES.out⟩⟩
end Go.Proofs.Ytacgaflhcmflbaa

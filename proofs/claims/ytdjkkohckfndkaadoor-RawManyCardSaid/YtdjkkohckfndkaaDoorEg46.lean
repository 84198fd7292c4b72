/- Texts put together: RawM. -/
import Derived.Test.YtdjkkohckfndkaaDoorEg45
set_option linter.unusedSimpArgs false
set_option linter.unusedVariables false
set_option maxRecDepth 100000
namespace Go.Proofs.YtdjkkohckfndkaaDoor.S15
open Go.RowKit S13 S13.Dk S14 S3 S2.Pl S3.Pl
theorem scan_encs {G : List RT} (hG : ∀ r ∈ G, chk r = 0) : scanR (encs G) = (G, (encs G).length, true) := by
  have h := many_scan hG (k := G.length) (C := (encs G).length) (by rw [List.take_length]; exact Nat.le_refl _) (.inl ⟨rfl, Nat.le_refl _⟩)
  simpa using h
theorem opn_whole {S : St} {sp n : Nm} {G : List RT} (hr : readF S n = some (encs G)) (hG : ∀ r ∈ G, chk r = 0) : opn S sp n = (S, 0, G) := by
  unfold opn
  rw [hr]
  simp only [scan_encs hG]
  rw [if_neg (by simp), if_neg (by omega)]
theorem open_held {w0 w : World} {p : Nat} {S S' : St} {G : List RT} {num : Int} {d : ByteArray} (h : InH w0 p S w) (hT : Tab w0) (hf : FmtOk num d) (hd : d.size ≤ 100) (hc : S.calls ≤ 1099511627000) (hB : ∀ B, readF S (d ++ rawE).data.toList = some B → B.length ≤ 1000000) (ho : opn S (d ++ newE).data.toList (d ++ rawE).data.toList = (S', 0, G)) :
    Calls Tryd.prog 17 #[pP p, .int .i64 num] w fun e w' => ∃ q, e = .returned (.tuple #[pP q, .int .i64 0]) ∧ InS w0 p S' q (d ++ rawE) (endL G G.length) w' := by
  refine (open_any h hT hf hd hc hB).mono ?_
  intro e w' hp
  unfold OpenPost at hp
  rw [ho] at hp
  simpa using hp
theorem syncDir_held {w0 w : World} {p q : Nat} {S S' : St} {c : Nat} {n : ByteArray} {E : List Int} (h : InS w0 p S q n E w) (hc : S.calls ≤ 1099511627776) (hs : syncDir S = (S', c)) : Calls Tryd.prog 22 #[pP p] w fun e w' => e = .returned (.int .i64 (c : Nat)) ∧ InS w0 p S' q n E w' := by
  obtain ⟨ev, hz, hsg⟩ := h
  refine (syncDir_z hz hc).mono ?_
  intro e w' hp
  rw [hs] at hp
  exact InS.op hp hsg
theorem row_nil (k : IntKind) (w : World) : IsRow k w none 0 0 [] := .inl ⟨rfl, rfl, rfl, rfl⟩
attribute [local go_sem ↓] loadR_eq storeR_eq buildR_eq sliceU8_eq conv_eq
attribute [local go_sem] run_buildR run_buildR4 run_buildR3'
set_option maxHeartbeats 32000000 in
theorem rawMany_walk (n size : Int) (w : World) (hT : Tab w) (hn : (Lit.int .i64 n).wf = true) (hs : (Lit.int .i64 size).wf = true) :
    Calls Tryd.prog 5 #[.int .i64 n, .int .i64 size] w fun e w' => e = .returned (.bool true) ∧ Below w.heap.size w w' := by
  have HT : Hid (∀ W, Below w.heap.size w W → Tab W) := Lib.hid fun W hW => hT.below hW
  have hbeg := begun_any w hT
  clear hT hn hs
  by_cases h0 : n < 0
  · have d0 : decide (n < 0) = true := by simpa using h0
    go_enter Tryd.func5, Tryd.ntmps5
    go_wp2_with fail
    refine hbeg.mono ?_
    rintro e w1 ⟨rfl, hb⟩
    have HB := Lib.hid hb
    clear hbeg hb
    go_wp2_with fail
    go_ret
    exact ⟨rfl, HB.out⟩
  by_cases h1 : 80 < n
  · have d0 : decide (n < 0) = false := by simp; omega
    have d1 : decide (80 < n) = true := by simpa using h1
    go_enter Tryd.func5, Tryd.ntmps5
    go_wp2_with fail
    refine hbeg.mono ?_
    rintro e w1 ⟨rfl, hb⟩
    have HB := Lib.hid hb
    clear hbeg hb
    go_wp2_with fail
    go_ret
    exact ⟨rfl, HB.out⟩
  by_cases h2 : size < 0
  · have d0 : decide (n < 0) = false := by simp; omega
    have d1 : decide (80 < n) = false := by simp; omega
    have d2 : decide (size < 0) = true := by simpa using h2
    go_enter Tryd.func5, Tryd.ntmps5
    go_wp2_with fail
    refine hbeg.mono ?_
    rintro e w1 ⟨rfl, hb⟩
    have HB := Lib.hid hb
    clear hbeg hb
    go_wp2_with fail
    go_ret
    exact ⟨rfl, HB.out⟩
  by_cases h3 : 200 < size
  · have d0 : decide (n < 0) = false := by simp; omega
    have d1 : decide (80 < n) = false := by simp; omega
    have d2 : decide (size < 0) = false := by simp; omega
    have d3 : decide (200 < size) = true := by simpa using h3
    go_enter Tryd.func5, Tryd.ntmps5
    go_wp2_with fail
    refine hbeg.mono ?_
    rintro e w1 ⟨rfl, hb⟩
    have HB := Lib.hid hb
    clear hbeg hb
    go_wp2_with fail
    go_ret
    exact ⟨rfl, HB.out⟩
  have d0 : decide (n < 0) = false := by simp; omega
  have d1 : decide (80 < n) = false := by simp; omega
  have d2 : decide (size < 0) = false := by simp; omega
  have d3 : decide (200 < size) = false := by simp; omega
  obtain ⟨N, rfl⟩ : ∃ m : Nat, n = (m : Int) := ⟨n.toNat, by omega⟩
  obtain ⟨Z, rfl⟩ : ∃ m : Nat, size = (m : Int) := ⟨size.toNat, by omega⟩
  have hN : N ≤ 80 := by omega
  have hZ : Z ≤ 200 := by omega
  have e1 : decide (80 < N) = false := by simp; omega
  have e3 : decide (200 < Z) = false := by simp; omega
  clear h0 h1 h2 h3
  go_enter Tryd.func5, Tryd.ntmps5
  go_wp2_with fail
  refine hbeg.mono ?_
  rintro e w1 ⟨rfl, hb⟩
  have HB1 := Lib.hid hb
  have hnew := new_n 1048576 w1
  clear hbeg hb
  go_wp2_with fail
  refine hnew.mono ?_
  rintro e w2 ⟨p, rfl, hI2⟩
  have hcr := create_held (d := digS 9) hI2 fmt9 (by decide) (by decide) (by decide) (by decide) (new_create 1048576 _ (by rw [nm9]; decide))
  rw [show clampN 1048576 = 1048576 by decide] at hcr
  obtain ⟨nmB, hnmB⟩ : ∃ nmB, digS 9 ++ rawE = nmB := ⟨_, rfl⟩
  rw [hnmB] at hcr
  have HNB := Lib.hid hnmB
  have HNZ : Hid (nmB.size ≤ maxLen) := Lib.hid (by rw [← hnmB]; exact raw_size (by decide))
  obtain ⟨nm, hnm⟩ : ∃ nm, nmB.data.toList = nm := ⟨_, rfl⟩
  rw [hnm] at hcr
  have HNM := Lib.hid hnm
  clear hnew hI2 hnmB hnm
  go_wp2_with fail
  refine hcr.mono ?_
  rintro e w3 ⟨q, rfl, hI3⟩
  have HI3 := Lib.hid hI3
  clear hcr hI3 d0 d1 d2 d3 e1 e3
  go_wp2_with fail
  go_loopw [9] (fun v wr => ∃ i : Nat, i ≤ N ∧ v = .int .i64 i ∧ Hid (InS w1 p (st1 1048576 nm (encs (recsZ Z i)) 0 (1 + i) [] [([], nm, some 0)]) q nmB (endL (recsZ Z i) (recsZ Z i).length) wr)) (fun v _ => N - (intOf v).toNat)
  case atStart => exact ⟨0, by omega, rfl, HI3⟩
  case round =>
    obtain ⟨i, hi, rfl, HIN⟩ := hrel
    by_cases hlt : i < N
    · have hmk := run_makeB Z (by omega) wr
      have hcv := conv_zeros Z (by omega) wr
      obtain ⟨w4, hw4⟩ : ∃ w4, wr.alloc (.cells (u8s (List.replicate Z 0)).toArray 5) = w4 := ⟨_, rfl⟩
      rw [hw4] at hmk hcv
      have HI4 := Lib.hid (HIN.out.below (by rw [← hw4]; exact (Below.refl _ _).alloc (Nat.le_refl _) _ : Below wr.heap.size wr w4))
      have hch : chk (recZ Z i) = 0 := chk_recZ (by omega) (by omega)
      have htb := HT.out w4 (HB1.out.trans (HI4.out.bel.mono HB1.out.size))
      have hG := chk_recsZ (z := Z) (i := i) (by omega) (by omega)
      have hl := encs_len hG
      rw [recsZ_length] at hl
      have hl2 := enc_len (recZ Z i)
      have hap := append_held (recZ Z i) HI4.out htb hch HNZ.out (by show 1 + i ≤ _; omega) hG (by rw [recsZ_length]; omega) (by rw [HNM.out, st1_app, if_neg (by omega)])
      rw [← recsZ_succ, recsZ_length] at hap
      simp only [recZ] at hap
      have hen : encs (recsZ Z i) ++ enc (recZ Z i) = encs (recsZ Z (i + 1)) := by rw [recsZ_succ, encs_snoc' hch]
      have HEN := Lib.hid hen
      have q0 : ((i : Int) != (i : Int)) = false := bne_f rfl
      clear hw4 htb hch hen hG hl hl2
      go_wp2_with fail
      refine hap.mono ?_
      rintro e w5 ⟨rfl, hI5⟩
      have HI5 : Hid (InS w1 p (st1 1048576 nm (encs (recsZ Z (i + 1))) 0 (1 + (i + 1)) [] [([], nm, some 0)]) q nmB (endL (recsZ Z (i + 1)) (recsZ Z (i + 1)).length) w5) := Lib.hid (by
        have := hI5
        rw [← HEN.out]; exact this)
      clear hap hI5 hmk hcv
      go_wp2_with fail
      go_roundw
      case rel => exact ⟨i + 1, by omega, by go_num, HI5⟩
      case measure => simp [intOf]; omega
    · have hiN : N = i := by omega
      subst hiN
      clear hlt
      go_wp2_with fail
      have HIL : Hid (InS w1 p (st1 1048576 nm (encs (recsZ Z N)) 0 (1 + N) [] [([], nm, some 0)]) q nmB (endL (recsZ Z N) (recsZ Z N).length) wr) := HIN
      have hsd := syncDir_held HIL.out (by show 1 + N ≤ _; omega) (st1_syncDir _ _ _ _ _ _ _)
      clear HIN
      go_wp2_with fail
      refine hsd.mono ?_
      rintro e w5 ⟨rfl, hI5⟩
      have hsy := sync_held (S' := st1 1048576 nm (encs (recsZ Z N)) (encs (recsZ Z N)).length (1 + N + 1 + 1) [(nm, 0)] []) (c := 0) hI5 HNZ.out (by show 1 + N + 1 ≤ _; omega) (by rw [HNM.out]; exact st1_sync _ _ _ _ _ _ _)
      clear hsd hI5 HIL
      go_wp2_with fail
      refine hsy.mono ?_
      rintro e w6 ⟨rfl, hI6⟩
      have HI6 := Lib.hid hI6
      have hcr := crash_new 0 none 0 0 [] HI6.out.toH (row_nil .i64 w6) (by show 1 + N + 1 + 1 ≤ _; omega)
      have hcr : Calls Tryd.prog 23 #[pP p, .int .i64 0, .slice none 0 0] w6 fun e w' => ∃ q, e = .returned (pP q) ∧ InH w6 q (st1 1048576 nm (encs (recsZ Z N)) (encs (recsZ Z N)).length 0 [(nm, 0)] []) w' := by
        rw [st1_crash _ _ _ _ _ (by simp)] at hcr
        exact hcr
      clear hsy hI6
      go_wp2_with fail
      refine hcr.mono ?_
      rintro e w7 ⟨p2, rfl, hI7⟩
      have hgN := chk_recsZ (z := Z) (i := N) (by omega) (by omega)
      have hrd : readF (st1 1048576 nm (encs (recsZ Z N)) (encs (recsZ Z N)).length 0 [(nm, 0)] []) (digS 9 ++ rawE).data.toList = some (encs (recsZ Z N)) := by rw [HNB.out, HNM.out, st1_read]
      have hlN := encs_len hgN
      rw [recsZ_length] at hlN
      have hop := open_held (d := digS 9) (G := recsZ Z N) hI7 (HT.out w6 (HB1.out.trans (HI6.out.bel.mono HB1.out.size))) fmt9 (by decide) (by show (0 : Nat) ≤ _; decide) (fun B hB => by rw [hrd] at hB; cases hB; omega) (opn_whole hrd hgN)
      rw [HNB.out] at hop
      clear hcr hI7 hrd hlN
      go_wp2_with fail
      refine hop.mono ?_
      rintro e w8 ⟨t, rfl, hI8⟩
      have HT8 := Lib.hid hI8
      have HS8 := Lib.hid (HI6.out.below hI8.bel)
      have hln := len_held HT8.out
      rw [recsZ_length] at hln
      have hz1 := size_held HT8.out
      obtain ⟨U, hU⟩ : ∃ U, (encs (recsZ Z N)).length = U := ⟨_, rfl⟩
      rw [hU] at hz1
      have q1 : ((N : Int) != (N : Int)) = false := bne_f rfl
      have q2 : ((U : Int) != (U : Int)) = false := bne_f rfl
      have HU := Lib.hid hU
      clear hop hI8 hU hgN
      go_wp2_with fail
      refine hln.mono ?_
      rintro e w9 ⟨rfl, rfl⟩
      clear hln
      go_wp2_with fail
      refine hz1.mono ?_
      rintro e w9 ⟨rfl, hb9⟩
      have HT9 := Lib.hid (HT8.out.below hb9)
      have HS9 := Lib.hid (HS8.out.below hb9)
      have hz2 := size_held HS9.out
      rw [HU.out] at hz2
      clear hz1 hb9
      go_wp2_with fail
      refine hz2.mono ?_
      rintro e w10 ⟨rfl, hb10⟩
      have HT10 := Lib.hid (HT9.out.below hb10)
      have HS10 := Lib.hid (HS9.out.below hb10)
      clear hz2 hb10
      go_wp2_with fail
      go_loopw [13] (fun v wr => ∃ i : Nat, i ≤ N ∧ v = .int .i64 i ∧ Hid (Below w10.heap.size w10 wr)) (fun v _ => N - (intOf v).toNat)
      case atStart => exact ⟨0, by omega, rfl, Lib.hid (Below.refl _ _)⟩
      case round =>
        obtain ⟨i, hi, rfl, HBR⟩ := hrel
        have HTR := Lib.hid (HT10.out.below HBR.out)
        have HSR := Lib.hid (HS10.out.below HBR.out)
        by_cases hlt : i < N
        · have hch := chk_recsZ (z := Z) (i := N) (by omega) (by omega)
          have hg1 := get_held i [] HSR.out (HT.out wr (HB1.out.trans (HSR.out.bel.mono HB1.out.size))) (by rw [recsZ_length]; exact hlt) HNZ.out hch (by rw [HNM.out, st1_read, List.append_nil])
          rw [recsZ_get Z hlt] at hg1
          unfold GetPost errV at hg1
          simp only [recZ] at hg1
          obtain ⟨zs, hzs⟩ : ∃ zs, zsS Z = zs := ⟨_, rfl⟩
          rw [hzs] at hg1
          have hzl : zs.size = Z := by rw [← hzs]; exact zsS_size Z
          clear hch
          have hiw : IntKind.i64.wrap ((i : Int) + 1) = (i : Int) + 1 := by rw [IntKind.wrap_i64]; omega
          go_wp2_with fail
          refine hg1.mono ?_
          rintro e w11 ⟨rfl, hb11⟩
          obtain ⟨w12, hst12, HR12, HG12⟩ := lay_rec (recZ Z i) w11
          simp only [recZ, hzs] at hst12
          have hb12 : Below wr.heap.size wr w12 := hb11.out.trans (HG12.out.mono hb11.out.size)
          have HB12 := Lib.hid hb12
          have HT12 := Lib.hid (HTR.out.below hb12)
          have hg2 := get_held i [] HT12.out (HT.out w12 (HB1.out.trans ((HSR.out.below hb12).bel.mono HB1.out.size))) (by rw [recsZ_length]; exact hlt) HNZ.out (chk_recsZ (by omega) (by omega)) (by rw [HNM.out, st1_read, List.append_nil])
          rw [recsZ_get Z hlt] at hg2
          unfold GetPost errV at hg2
          simp only [recZ, hzs] at hg2
          clear hg1 hb11 hb12
          go_wp2_with fail
          refine hg2.mono ?_
          rintro e w13 ⟨rfl, hb13⟩
          obtain ⟨w14, hst14, HR14, HG14⟩ := lay_rec (recZ Z i) w13
          simp only [recZ, hzs] at hst14
          have hb14 : Below w12.heap.size w12 w14 := hb13.out.trans (HG14.out.mono hb13.out.size)
          have HA14 := Lib.hid (HR12.out.below hb14 HR12.out.lt)
          have HB14 := Lib.hid (HB12.out.trans (hb14.mono HB12.out.size))
          have ca1 : w14.cell? ⟨w11.heap.size, 1, none⟩ = some (.int .i64 ((i : Int) + 1)) := HA14.out.cell (o := 1) rfl
          have cb1 : w14.cell? ⟨w13.heap.size, 1, none⟩ = some (.int .i64 ((i : Int) + 1)) := HR14.out.cell (o := 1) rfl
          have cb3 : w14.cell? ⟨w13.heap.size, 3, none⟩ = some (.string zs) := by rw [← hzs]; exact HR14.out.cell (o := 3) rfl
          have q3 : (((i : Int) + 1) != ((i : Int) + 1)) = false := bne_f rfl
          have q4 : ((Z : Int) != (Z : Int)) = false := bne_f rfl
          have HZS := Lib.hid hzs
          clear hg2 hb13 hb14 hst12 hzs
          go_wp2_with fail
          go_roundw
          case rel => exact ⟨i + 1, by omega, by go_num, Lib.hid (HBR.out.trans (HB14.out.mono HBR.out.size))⟩
          case measure => simp [intOf]; omega
        · have hiN : i = N := by omega
          have hg1 : decide (i < N) = false := by simp; omega
          have hg2 : decide ((i : Int) < (N : Int)) = false := by simp; omega
          clear hlt
          go_wp2_with fail
          go_ret
          exact ⟨rfl, HB1.out.trans (HSR.out.bel.mono HB1.out.size)⟩
end Go.Proofs.YtdjkkohckfndkaaDoor.S15

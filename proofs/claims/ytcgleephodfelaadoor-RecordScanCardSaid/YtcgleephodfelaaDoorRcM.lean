/- foliolaw14.RecordScan: the walk. -/
import Derived.Test.YtcgleephodfelaaDoorRcL
import Derived.Test.YtcgleephodfelaaDoorCutB
set_option linter.unusedSimpArgs false
set_option linter.unusedVariables false
set_option maxRecDepth 100000
namespace Go.Proofs.YtcgleephodfelaaDoor.S14
open Go.RowKit S2.Pl S3 S3.Pl
/-- bytes at the front of a block of the call's own -/
def Front (base : Nat) (w : World) (v : Value) (B : List Nat) : Prop := IsBytes w v B ∧ (0 < B.length → ∃ g cs cap, v = .slice (some ⟨g, 0, none⟩) B.length cap ∧ B.length ≤ cap ∧ cap ≤ maxLen ∧ base ≤ g ∧ Blk w g 5 cs ∧ cs.take B.length = u8s B)
theorem front_mk {base : Nat} {w : World} {g cap : Nat} {B : List Nat} {cs : List Value} (hx : ∀ x ∈ B, x < 256) (h1 : B.length ≤ cap) (h2 : cap ≤ maxLen) (hb : base ≤ g) (hk : Blk w g 5 cs) (ht : cs.take B.length = u8s B) : Front base w (.slice (some ⟨g, 0, none⟩) B.length cap) B := by
  refine ⟨⟨hx, .inr ⟨_, cap, rfl, h1, h2, fun i u hu => ?_⟩⟩, fun _ => ⟨g, cs, cap, rfl, h1, h2, hb, hk, ht⟩⟩
  have hadd : (⟨g, 0, none⟩ : Addr).add i = ⟨g, i, none⟩ := by unfold Addr.add; split <;> simp_all
  rw [hadd]
  have hi := (List.getElem?_eq_some_iff.1 hu).1
  rw [u8s_length] at hi
  rw [← ht, List.getElem?_take_of_lt hi] at hu
  exact hk.cell hu
theorem Sofar.front {w0 W : World} {v : Value} {B : List Nat} (h : Sofar w0 W v B) (hx : ∀ x ∈ B, x < 256) : Front w0.heap.size W v B := by
  obtain ⟨sp, N, cap, rfl, hN⟩ := h.open
  have hN := hN.out
  subst hN
  refine ⟨h.is hx, fun h0 => ?_⟩
  obtain ⟨⟨hl, ⟨he, h3⟩ | ⟨g, cap', cur, he, hb, hh, hn, hm, hs, ht⟩⟩, _⟩ := h
  · omega
  · simp at he
    obtain ⟨rfl, rfl⟩ := he
    exact ⟨g, cur.toList, cap, rfl, hn, hm, hb, by unfold Blk; simpa using hh, by rw [← ht, Nat.mul_one]⟩
theorem Front.upto {base : Nat} {w : World} {v : Value} {B : List Nat} (h : Front base w v B) (n : Nat) (hn : n ≤ B.length) : ∃ sp cap, (∀ W, (sliceU8 v none (some (.int .i64 n)) none).run Tryd.prog W = .ok (.slice sp n cap) W) ∧ Hid (Front base w (.slice sp n cap) (B.take n)) := by
  obtain ⟨hv, h3⟩ := h
  obtain ⟨a, cap, rfl, hcap, hmax⟩ := hv.slice
  refine ⟨if cap = 0 then a else a.map (·.add (0 * 1)), cap, ?_, Lib.hid ⟨?_, fun h0 => ?_⟩⟩
  · intro W
    unfold sliceU8
    rw [run_sliceAt_slice _ _ _ _ _ _ und_u8s, run_slice_h _ _ _ _ _ und_u8s _ _ (by omega) (by omega), run_size_u8, Int.toNat_natCast]
    simp only [Result.andThen, sliced, Nat.sub_zero]
  · have := isBytes_sliced hv 0 n (by omega)
    unfold sliced at this
    simp only [Nat.zero_add, Nat.sub_zero, List.drop_zero] at this
    exact this
  · have hl : (B.take n).length = n := by rw [List.length_take]; omega
    rw [hl] at h0 ⊢
    obtain ⟨g, cs, cap', he, h1, h2, hb, hk, ht⟩ := h3 (by omega)
    simp at he
    obtain ⟨rfl, rfl⟩ := he
    refine ⟨g, cs, cap, ?_, by omega, h2, hb, hk, ?_⟩
    · have : (⟨g, 0, none⟩ : Addr).add (0 * 1) = ⟨g, 0, none⟩ := by unfold Addr.add; simp
      split
      · rfl
      · rw [Option.map_some, this]
    · have e : cs.take n = (cs.take B.length).take n := by rw [List.take_take, Nat.min_eq_left hn]
      rw [e, ht]
      simp [u8s]
theorem Front.put {base : Nat} {w : World} {v : Value} {B : List Nat} (h : Front base w v B) (i y : Nat) (hi : i < B.length) (hy : y < 256) : ∃ g cap, v = .slice (some ⟨g, 0, none⟩) B.length cap ∧ base ≤ g ∧ g < w.heap.size ∧ w.cell? ⟨g, i, none⟩ = some (.int .u8 (B.getD i 0 : Nat)) ∧ w.frozen? ⟨g, i, none⟩ = false ∧ Hid (Front base (w.setCell ⟨g, i, none⟩ (.int .u8 (y : Nat))) (.slice (some ⟨g, 0, none⟩) B.length cap) (B.set i y)) := by
  obtain ⟨hv, h3⟩ := h
  obtain ⟨g, cs, cap, rfl, h1, h2, hb, hk, ht⟩ := h3 (by omega)
  have hg := u8s_get B i hi
  have hg' := hg
  rw [← ht, List.getElem?_take_of_lt hi] at hg
  refine ⟨g, cap, rfl, hb, hk.lt, hk.cell hg, hk.frozen i, Lib.hid ?_⟩
  have hx : ∀ x ∈ B.set i y, x < 256 := fun x hx => (List.mem_or_eq_of_mem_set hx).elim (hv.1 x) (fun h => by omega)
  have := front_mk (base := base) (cap := cap) hx (by rw [List.length_set]; exact h1) h2 hb (hk.set i (.int .u8 (y : Nat))) (by rw [List.length_set, List.take_set, ht, u8s_set])
  rw [List.length_set] at this
  exact this
theorem recs_below {w w' : World} {a : Option Addr} {len : Nat} (h : IsRecs recF w a len) (hb : Below w.heap.size w w') : IsRecs recF w' a len := by
  obtain ⟨hm, h | ⟨x, rfl, hc⟩⟩ := h
  · exact ⟨hm, .inl h⟩
  · refine ⟨hm, .inr ⟨x, rfl, fun i hi j fk hj => ?_⟩⟩
    obtain ⟨v, hv, hf⟩ := hc i hi j fk hj
    refine ⟨v, (hb.cell (p := x.add (i * recF.length + j)) (World.block_lt_of_cell? w _ hv)).trans hv, ?_⟩
    match j, hj with
    | 0, hj => simp [recF] at hj; subst hj; exact hf
    | 1, hj => simp [recF] at hj; subst hj; exact hf
    | 2, hj => simp [recF] at hj; subst hj; exact hf
    | 3, hj => simp [recF] at hj; subst hj; exact hf
    | n + 4, hj => simp [recF] at hj
attribute [local go_sem ↓] loadR_eq storeR_eq buildR_eq sliceU8_eq conv_eq
set_option maxHeartbeats 32000000 in
theorem recordScan_walk (a : Option Addr) (len cap : Nat) (at' : Int) (x : Nat) (ra : Option Addr) (rlen rcap : Nat) (rest : List Nat) (cut : Int) (w : World) (hT : Tab w) (h0 : IsRecs recF w a len) (hx : x < 256) (hrb : IsBytes w (.slice ra rlen rcap) rest) :
    Calls Tryd.prog 4 #[.slice a len cap, .int .i64 at', .int .u8 x, .slice ra rlen rcap, .int .i64 cut] w fun e w' => e = .returned (.bool true) ∧ Below w.heap.size w w' := by
  have HT := Lib.hid hT
  have HR := Lib.hid h0
  have HRB := Lib.hid hrb
  have HBEG := Lib.hid (begun_any w hT)
  clear hT h0 hrb
  go_enter Tryd.func4, Tryd.ntmps4
  go_wp2_with fail
  refine HBEG.out.mono ?_
  rintro e w1 ⟨rfl, hb1⟩
  have HG := Lib.hid (good_any a len cap 8 w1 (recs_below HR.out hb1) (by decide))
  have HB1 := Lib.hid hb1
  clear hb1 HBEG HR
  go_wp2_with fail
  refine HG.out.mono ?_
  rintro e w2 ⟨G, sp2, cap2, rfl, hg, hG8⟩
  have HGR := Lib.hid hg.out.2.1.at
  have HB2 := Lib.hid (HB1.out.trans (hg.out.2.2.mono HB1.out.size))
  have HC : Hid (∀ r ∈ G, chk r = 0) := Lib.hid hg.out.1
  clear hg HG HB1
  go_wp2_with fail
  go_loopw [12, 13] (fun v y wr => ∃ i : Nat, i ≤ G.length ∧ y = .int .i64 i ∧ ∃ B : List Nat, B.length ≤ 4143 * i ∧ (∀ x ∈ B, x < 256) ∧ Sofar w2 wr v B) (fun _ y _ => G.length - (intOf y).toNat)
  case atStart => exact ⟨0, by omega, rfl, [], by simp, by simp, own_nil _ _, Below.refl _ _⟩
  case round =>
    obtain ⟨i, hi, rfl, B, hBl, hBx, hs⟩ := hrel
    have HS := Lib.hid hs
    have HBX := Lib.hid hBx
    obtain ⟨sp, N, cp, rfl, HN⟩ := hs.open
    clear hs hBx
    by_cases hlt : i < G.length
    · obtain ⟨b, off, rfl, hld⟩ := (HGR.out.below HS.out.2).load (W := wr) hlt
      obtain ⟨r, hr⟩ : ∃ r, G.getD i zR = r := ⟨_, rfl⟩
      have hrc : chk r = 0 := by rw [← hr]; exact HC.out _ (by simp [List.getD, hlt])
      obtain ⟨_, hk1, hk2, _⟩ := chk_ok hrc
      rw [hr] at hld
      have hld := hld wr (From.refl _)
      have hen := refEncode_any r wr (by unfold maxLen; omega) (by unfold maxLen; omega)
      have hel := enc_len r
      have HEN := Lib.hid hen
      have HEX := Lib.hid (enc_lt r)
      clear hr hrc hk1 hk2 hen
      go_wp2_with fail
      refine HEN.out.mono ?_
      rintro e w4 h4
      obtain ⟨sp4, cap4, rfl, ho4, hb4⟩ := h4.s
      have HI4 := Lib.hid (isBytes_own HEX.out ho4)
      have HS4 := Lib.hid (HS.out.below hb4)
      clear h4 ho4 hb4 HEN HS hld
      go_wp2_with (at_builtin; refine wpList_append_bytes rfl (.tmp 31) (.tmp 36) rfl w2.heap.size _ _ _ rfl HS4.out.1 _ (enc r) rfl HI4.out (by omega) HS4.out.2.size ?_; intro v5 w5 hown hgr; have HS5 := Lib.hid (HS4.out.app hown hgr); clear hown hgr HI4 HS4)
      go_roundw
      case rel => exact ⟨i + 1, hlt, by go_num, B ++ enc r, by rw [List.length_append]; omega, by intro z hz; rw [List.mem_append] at hz; exact hz.elim (HBX.out z) (HEX.out z), HS5.out⟩
      case measure => simp [intOf]; omega
    · obtain rfl : i = G.length := by omega
      have HSH := Lib.hid (short_any _ rest 30 wr (HRB.out.below (HB2.out.trans (HS.out.2.mono HB2.out.size))) (by decide))
      have hrt : (rest.take 30).length ≤ 30 := by rw [List.length_take]; omega
      have hrx : ∀ x ∈ rest.take 30, x < 256 := fun x hx => HRB.out.1 x (List.mem_of_mem_take hx)
      have HRX := Lib.hid hrx
      obtain ⟨R, hR⟩ : ∃ R, rest.take 30 = R := ⟨_, rfl⟩
      unfold ShortPost at HSH
      rw [hR] at hrt HRX HSH
      clear hrx hR
      go_wp2_with fail
      refine HSH.out.mono ?_
      rintro e w4 ⟨v4, rfl, hi4, rfl⟩
      obtain ⟨sp4, cap4, rfl, _, _⟩ := hi4.slice
      have HI4 := Lib.hid hi4
      clear hi4 HSH
      obtain ⟨D, hD⟩ : ∃ D, B ++ R = D := ⟨_, rfl⟩
      have hDl : D.length ≤ 40000 := by rw [← hD, List.length_append]; omega
      have hDx : ∀ x ∈ D, x < 256 := by rw [← hD]; intro z hz; rw [List.mem_append] at hz; exact hz.elim (HBX.out z) (HRX.out z)
      have HD := Lib.hid hD
      have HDX := Lib.hid hDx
      obtain ⟨d, hd⟩ : ∃ d, D.length = d := ⟨_, rfl⟩
      have HDd := Lib.hid hd
      rw [hd] at hDl
      clear hD hDx hd
      by_cases hc1 : cut ≤ 0
      · by_cases hl0 : d = 0
        · subst hl0
          go_wp2_with (at_builtin; refine wpList_append_bytes rfl (.tmp 38) (.tmp 40) rfl w2.heap.size _ _ _ rfl HS.out.1 _ R rfl HI4.out (by omega) HS.out.2.size ?_; intro v5 w5 hown hgr; have HS5 := Lib.hid (HS.out.app hown hgr); clear hown hgr HI4 HS; rw [HD.out] at HS5; have HF5 := Lib.hid (HS5.out.front HDX.out); have HB5 := Lib.hid (HB2.out.trans (HS5.out.2.mono HB2.out.size)); obtain ⟨sp5, N5, cap5, rfl, HN5⟩ := HS5.out.open; have hn5 : 0 = N5 := (HN5.out.trans HDd.out).symm; subst hn5; clear HS5 HN5)
          have HI7 := Lib.hid HF5.out.1
          have HT7 := Lib.hid (HT.out.below HB5.out)
          obtain ⟨F, hF⟩ : ∃ F, D = F := ⟨_, rfl⟩
          rw [hF] at HI7
          have hFl : F.length ≤ 40000 := by rw [← hF, HDd.out]; omega
          have hsc := rscan_any _ F w5 HT7.out HI7.out (by omega)
          have hrs := fun (W : World) (h : From w5 W) => refRScan_any _ F W (HI7.out.below h) (by omega)
          unfold RScanPost at hsc hrs
          obtain ⟨LL, hLL⟩ : ∃ LL, (scanR F).1 = LL := ⟨_, rfl⟩
          obtain ⟨k, hk⟩ : ∃ k, (scanR F).2.1 = k := ⟨_, rfl⟩
          obtain ⟨ok, hok⟩ : ∃ ok, (scanR F).2.2 = ok := ⟨_, rfl⟩
          rw [hLL, hk, hok] at hsc hrs
          have HSC := Lib.hid hsc
          have HRS := Lib.hid hrs
          clear hsc hrs hLL hk hok hF
          refine HSC.out.mono ?_
          rintro e w8 ⟨sp8, cap8, rfl, ho8, hb8⟩
          clear HSC
          go_wp2_with fail
          refine (HRS.out w8 hb8.out).mono ?_
          rintro e w9 ⟨sp9, cap9, rfl, ho9, hb9⟩
          have heq := eqAll_same _ _ LL w9 (ho8.out.at.below hb9.out) ho9.out.at
          have HB9 := Lib.hid (HB5.out.trans ((hb8.out.trans (hb9.out.mono hb8.out.size)).mono HB5.out.size))
          have hkk : ((k : Int) == (k : Int)) = true := beq_t rfl
          clear HRS ho8 ho9 hb8 hb9
          go_wp2_with fail
          refine heq.mono ?_
          rintro e w10 ⟨rfl, hb10⟩
          have HB10 := Lib.hid (HB9.out.trans (hb10.out.mono HB9.out.size))
          clear heq hb10 HB9
          go_wp2_with fail
          go_ret
          exact ⟨rfl, HB10.out⟩
        by_cases hat : at' < 0
        · go_wp2_with (at_builtin; refine wpList_append_bytes rfl (.tmp 38) (.tmp 40) rfl w2.heap.size _ _ _ rfl HS.out.1 _ R rfl HI4.out (by omega) HS.out.2.size ?_; intro v5 w5 hown hgr; have HS5 := Lib.hid (HS.out.app hown hgr); clear hown hgr HI4 HS; rw [HD.out] at HS5; have HF5 := Lib.hid (HS5.out.front HDX.out); have HB5 := Lib.hid (HB2.out.trans (HS5.out.2.mono HB2.out.size)); obtain ⟨sp5, N5, cap5, rfl, HN5⟩ := HS5.out.open; have hn5 : d = N5 := (HN5.out.trans HDd.out).symm; subst hn5; clear HS5 HN5)
          have HI7 := Lib.hid HF5.out.1
          have HT7 := Lib.hid (HT.out.below HB5.out)
          obtain ⟨F, hF⟩ : ∃ F, D = F := ⟨_, rfl⟩
          rw [hF] at HI7
          have hFl : F.length ≤ 40000 := by rw [← hF, HDd.out]; omega
          have hsc := rscan_any _ F w5 HT7.out HI7.out (by omega)
          have hrs := fun (W : World) (h : From w5 W) => refRScan_any _ F W (HI7.out.below h) (by omega)
          unfold RScanPost at hsc hrs
          obtain ⟨LL, hLL⟩ : ∃ LL, (scanR F).1 = LL := ⟨_, rfl⟩
          obtain ⟨k, hk⟩ : ∃ k, (scanR F).2.1 = k := ⟨_, rfl⟩
          obtain ⟨ok, hok⟩ : ∃ ok, (scanR F).2.2 = ok := ⟨_, rfl⟩
          rw [hLL, hk, hok] at hsc hrs
          have HSC := Lib.hid hsc
          have HRS := Lib.hid hrs
          clear hsc hrs hLL hk hok hF
          refine HSC.out.mono ?_
          rintro e w8 ⟨sp8, cap8, rfl, ho8, hb8⟩
          clear HSC
          go_wp2_with fail
          refine (HRS.out w8 hb8.out).mono ?_
          rintro e w9 ⟨sp9, cap9, rfl, ho9, hb9⟩
          have heq := eqAll_same _ _ LL w9 (ho8.out.at.below hb9.out) ho9.out.at
          have HB9 := Lib.hid (HB5.out.trans ((hb8.out.trans (hb9.out.mono hb8.out.size)).mono HB5.out.size))
          have hkk : ((k : Int) == (k : Int)) = true := beq_t rfl
          clear HRS ho8 ho9 hb8 hb9
          go_wp2_with fail
          refine heq.mono ?_
          rintro e w10 ⟨rfl, hb10⟩
          have HB10 := Lib.hid (HB9.out.trans (hb10.out.mono HB9.out.size))
          clear heq hb10 HB9
          go_wp2_with fail
          go_ret
          exact ⟨rfl, HB10.out⟩
        obtain ⟨i, hi'⟩ : ∃ i : Nat, at' % (d : Int) = i := ⟨(at' % (d : Int)).toNat, by have := Int.emod_nonneg at' (show (d : Int) ≠ 0 by omega); omega⟩
        have hiN : i < d := by have := Int.emod_lt_of_pos at' (show (0 : Int) < (d : Int) by omega); omega
        have hilt : i < D.length := by rw [HDd.out]; exact hiN
        have HILT := Lib.hid hilt
        obtain ⟨s0, hs0⟩ : ∃ s0, D.getD i 0 = s0 := ⟨_, rfl⟩
        have hs256 : s0 < 256 := by rw [← hs0]; exact getD_lt HDX.out i
        obtain ⟨q, hq⟩ : ∃ q, s0 ^^^ x = q := ⟨_, rfl⟩
        have hq256 : q < 256 := by rw [← hq]; exact Nat.xor_lt_two_pow (n := 8) hs256 hx
        have hxe : bits BinOp.xor IntKind.u8 (s0 : Int) (x : Int) = (q : Int) := by rw [u8_xor_nat s0 x hs256 hx, hq]
        have hiI : (i : Int) < (d : Int) := by omega
        have hatn : ¬ at' < 0 := hat
        have hat0 : 0 ≤ at' := by omega
        clear hq hilt
        go_wp2_with (at_builtin; refine wpList_append_bytes rfl (.tmp 38) (.tmp 40) rfl w2.heap.size _ _ _ rfl HS.out.1 _ R rfl HI4.out (by omega) HS.out.2.size ?_; intro v5 w5 hown hgr; have HS5 := Lib.hid (HS.out.app hown hgr); clear hown hgr HI4 HS; rw [HD.out] at HS5; have HF5 := Lib.hid (HS5.out.front HDX.out); have HB5 := Lib.hid (HB2.out.trans (HS5.out.2.mono HB2.out.size)); obtain ⟨sp5, N5, cap5, rfl, HN5⟩ := HS5.out.open; have hn5 : d = N5 := (HN5.out.trans HDd.out).symm; subst hn5; clear HS5 HN5; obtain ⟨g, cp', he, hgb, hgl, hcell, hfz, HF7⟩ := HF5.out.put i q HILT.out hq256; simp only [Value.slice.injEq] at he; obtain ⟨he1, -, he2⟩ := he; subst he1; subst he2; rw [hs0] at hcell; rw [HDd.out] at HF7; obtain ⟨w7, hw7⟩ : ∃ w7, w5.setCell ⟨g, i, none⟩ (.int .u8 (q : Nat)) = w7 := ⟨_, rfl⟩; rw [hw7] at HF7; have HB7 : Hid (Below w.heap.size w w7) := Lib.hid (bel_field HB5.out hw7 (Nat.le_trans HB2.out.size hgb)))
        have HI7 := Lib.hid HF7.out.1
        have HT7 := Lib.hid (HT.out.below HB7.out)
        obtain ⟨F, hF⟩ : ∃ F, (D.set i q) = F := ⟨_, rfl⟩
        rw [hF] at HI7
        have hFl : F.length ≤ 40000 := by rw [← hF, List.length_set, HDd.out]; omega
        have hsc := rscan_any _ F w7 HT7.out HI7.out (by omega)
        have hrs := fun (W : World) (h : From w7 W) => refRScan_any _ F W (HI7.out.below h) (by omega)
        unfold RScanPost at hsc hrs
        obtain ⟨LL, hLL⟩ : ∃ LL, (scanR F).1 = LL := ⟨_, rfl⟩
        obtain ⟨k, hk⟩ : ∃ k, (scanR F).2.1 = k := ⟨_, rfl⟩
        obtain ⟨ok, hok⟩ : ∃ ok, (scanR F).2.2 = ok := ⟨_, rfl⟩
        rw [hLL, hk, hok] at hsc hrs
        have HSC := Lib.hid hsc
        have HRS := Lib.hid hrs
        clear hsc hrs hLL hk hok hF
        refine HSC.out.mono ?_
        rintro e w8 ⟨sp8, cap8, rfl, ho8, hb8⟩
        clear HSC
        go_wp2_with fail
        refine (HRS.out w8 hb8.out).mono ?_
        rintro e w9 ⟨sp9, cap9, rfl, ho9, hb9⟩
        have heq := eqAll_same _ _ LL w9 (ho8.out.at.below hb9.out) ho9.out.at
        have HB9 := Lib.hid (HB7.out.trans ((hb8.out.trans (hb9.out.mono hb8.out.size)).mono HB7.out.size))
        have hkk : ((k : Int) == (k : Int)) = true := beq_t rfl
        clear HRS ho8 ho9 hb8 hb9
        go_wp2_with fail
        refine heq.mono ?_
        rintro e w10 ⟨rfl, hb10⟩
        have HB10 := Lib.hid (HB9.out.trans (hb10.out.mono HB9.out.size))
        clear heq hb10 HB9
        go_wp2_with fail
        go_ret
        exact ⟨rfl, HB10.out⟩
      by_cases hc2 : (d : Int) < cut
      · by_cases hl0 : d = 0
        · subst hl0
          go_wp2_with (at_builtin; refine wpList_append_bytes rfl (.tmp 38) (.tmp 40) rfl w2.heap.size _ _ _ rfl HS.out.1 _ R rfl HI4.out (by omega) HS.out.2.size ?_; intro v5 w5 hown hgr; have HS5 := Lib.hid (HS.out.app hown hgr); clear hown hgr HI4 HS; rw [HD.out] at HS5; have HF5 := Lib.hid (HS5.out.front HDX.out); have HB5 := Lib.hid (HB2.out.trans (HS5.out.2.mono HB2.out.size)); obtain ⟨sp5, N5, cap5, rfl, HN5⟩ := HS5.out.open; have hn5 : 0 = N5 := (HN5.out.trans HDd.out).symm; subst hn5; clear HS5 HN5)
          have HI7 := Lib.hid HF5.out.1
          have HT7 := Lib.hid (HT.out.below HB5.out)
          obtain ⟨F, hF⟩ : ∃ F, D = F := ⟨_, rfl⟩
          rw [hF] at HI7
          have hFl : F.length ≤ 40000 := by rw [← hF, HDd.out]; omega
          have hsc := rscan_any _ F w5 HT7.out HI7.out (by omega)
          have hrs := fun (W : World) (h : From w5 W) => refRScan_any _ F W (HI7.out.below h) (by omega)
          unfold RScanPost at hsc hrs
          obtain ⟨LL, hLL⟩ : ∃ LL, (scanR F).1 = LL := ⟨_, rfl⟩
          obtain ⟨k, hk⟩ : ∃ k, (scanR F).2.1 = k := ⟨_, rfl⟩
          obtain ⟨ok, hok⟩ : ∃ ok, (scanR F).2.2 = ok := ⟨_, rfl⟩
          rw [hLL, hk, hok] at hsc hrs
          have HSC := Lib.hid hsc
          have HRS := Lib.hid hrs
          clear hsc hrs hLL hk hok hF
          refine HSC.out.mono ?_
          rintro e w8 ⟨sp8, cap8, rfl, ho8, hb8⟩
          clear HSC
          go_wp2_with fail
          refine (HRS.out w8 hb8.out).mono ?_
          rintro e w9 ⟨sp9, cap9, rfl, ho9, hb9⟩
          have heq := eqAll_same _ _ LL w9 (ho8.out.at.below hb9.out) ho9.out.at
          have HB9 := Lib.hid (HB5.out.trans ((hb8.out.trans (hb9.out.mono hb8.out.size)).mono HB5.out.size))
          have hkk : ((k : Int) == (k : Int)) = true := beq_t rfl
          clear HRS ho8 ho9 hb8 hb9
          go_wp2_with fail
          refine heq.mono ?_
          rintro e w10 ⟨rfl, hb10⟩
          have HB10 := Lib.hid (HB9.out.trans (hb10.out.mono HB9.out.size))
          clear heq hb10 HB9
          go_wp2_with fail
          go_ret
          exact ⟨rfl, HB10.out⟩
        by_cases hat : at' < 0
        · go_wp2_with (at_builtin; refine wpList_append_bytes rfl (.tmp 38) (.tmp 40) rfl w2.heap.size _ _ _ rfl HS.out.1 _ R rfl HI4.out (by omega) HS.out.2.size ?_; intro v5 w5 hown hgr; have HS5 := Lib.hid (HS.out.app hown hgr); clear hown hgr HI4 HS; rw [HD.out] at HS5; have HF5 := Lib.hid (HS5.out.front HDX.out); have HB5 := Lib.hid (HB2.out.trans (HS5.out.2.mono HB2.out.size)); obtain ⟨sp5, N5, cap5, rfl, HN5⟩ := HS5.out.open; have hn5 : d = N5 := (HN5.out.trans HDd.out).symm; subst hn5; clear HS5 HN5)
          have HI7 := Lib.hid HF5.out.1
          have HT7 := Lib.hid (HT.out.below HB5.out)
          obtain ⟨F, hF⟩ : ∃ F, D = F := ⟨_, rfl⟩
          rw [hF] at HI7
          have hFl : F.length ≤ 40000 := by rw [← hF, HDd.out]; omega
          have hsc := rscan_any _ F w5 HT7.out HI7.out (by omega)
          have hrs := fun (W : World) (h : From w5 W) => refRScan_any _ F W (HI7.out.below h) (by omega)
          unfold RScanPost at hsc hrs
          obtain ⟨LL, hLL⟩ : ∃ LL, (scanR F).1 = LL := ⟨_, rfl⟩
          obtain ⟨k, hk⟩ : ∃ k, (scanR F).2.1 = k := ⟨_, rfl⟩
          obtain ⟨ok, hok⟩ : ∃ ok, (scanR F).2.2 = ok := ⟨_, rfl⟩
          rw [hLL, hk, hok] at hsc hrs
          have HSC := Lib.hid hsc
          have HRS := Lib.hid hrs
          clear hsc hrs hLL hk hok hF
          refine HSC.out.mono ?_
          rintro e w8 ⟨sp8, cap8, rfl, ho8, hb8⟩
          clear HSC
          go_wp2_with fail
          refine (HRS.out w8 hb8.out).mono ?_
          rintro e w9 ⟨sp9, cap9, rfl, ho9, hb9⟩
          have heq := eqAll_same _ _ LL w9 (ho8.out.at.below hb9.out) ho9.out.at
          have HB9 := Lib.hid (HB5.out.trans ((hb8.out.trans (hb9.out.mono hb8.out.size)).mono HB5.out.size))
          have hkk : ((k : Int) == (k : Int)) = true := beq_t rfl
          clear HRS ho8 ho9 hb8 hb9
          go_wp2_with fail
          refine heq.mono ?_
          rintro e w10 ⟨rfl, hb10⟩
          have HB10 := Lib.hid (HB9.out.trans (hb10.out.mono HB9.out.size))
          clear heq hb10 HB9
          go_wp2_with fail
          go_ret
          exact ⟨rfl, HB10.out⟩
        obtain ⟨i, hi'⟩ : ∃ i : Nat, at' % (d : Int) = i := ⟨(at' % (d : Int)).toNat, by have := Int.emod_nonneg at' (show (d : Int) ≠ 0 by omega); omega⟩
        have hiN : i < d := by have := Int.emod_lt_of_pos at' (show (0 : Int) < (d : Int) by omega); omega
        have hilt : i < D.length := by rw [HDd.out]; exact hiN
        have HILT := Lib.hid hilt
        obtain ⟨s0, hs0⟩ : ∃ s0, D.getD i 0 = s0 := ⟨_, rfl⟩
        have hs256 : s0 < 256 := by rw [← hs0]; exact getD_lt HDX.out i
        obtain ⟨q, hq⟩ : ∃ q, s0 ^^^ x = q := ⟨_, rfl⟩
        have hq256 : q < 256 := by rw [← hq]; exact Nat.xor_lt_two_pow (n := 8) hs256 hx
        have hxe : bits BinOp.xor IntKind.u8 (s0 : Int) (x : Int) = (q : Int) := by rw [u8_xor_nat s0 x hs256 hx, hq]
        have hiI : (i : Int) < (d : Int) := by omega
        have hatn : ¬ at' < 0 := hat
        have hat0 : 0 ≤ at' := by omega
        clear hq hilt
        go_wp2_with (at_builtin; refine wpList_append_bytes rfl (.tmp 38) (.tmp 40) rfl w2.heap.size _ _ _ rfl HS.out.1 _ R rfl HI4.out (by omega) HS.out.2.size ?_; intro v5 w5 hown hgr; have HS5 := Lib.hid (HS.out.app hown hgr); clear hown hgr HI4 HS; rw [HD.out] at HS5; have HF5 := Lib.hid (HS5.out.front HDX.out); have HB5 := Lib.hid (HB2.out.trans (HS5.out.2.mono HB2.out.size)); obtain ⟨sp5, N5, cap5, rfl, HN5⟩ := HS5.out.open; have hn5 : d = N5 := (HN5.out.trans HDd.out).symm; subst hn5; clear HS5 HN5; obtain ⟨g, cp', he, hgb, hgl, hcell, hfz, HF7⟩ := HF5.out.put i q HILT.out hq256; simp only [Value.slice.injEq] at he; obtain ⟨he1, -, he2⟩ := he; subst he1; subst he2; rw [hs0] at hcell; rw [HDd.out] at HF7; obtain ⟨w7, hw7⟩ : ∃ w7, w5.setCell ⟨g, i, none⟩ (.int .u8 (q : Nat)) = w7 := ⟨_, rfl⟩; rw [hw7] at HF7; have HB7 : Hid (Below w.heap.size w w7) := Lib.hid (bel_field HB5.out hw7 (Nat.le_trans HB2.out.size hgb)))
        have HI7 := Lib.hid HF7.out.1
        have HT7 := Lib.hid (HT.out.below HB7.out)
        obtain ⟨F, hF⟩ : ∃ F, (D.set i q) = F := ⟨_, rfl⟩
        rw [hF] at HI7
        have hFl : F.length ≤ 40000 := by rw [← hF, List.length_set, HDd.out]; omega
        have hsc := rscan_any _ F w7 HT7.out HI7.out (by omega)
        have hrs := fun (W : World) (h : From w7 W) => refRScan_any _ F W (HI7.out.below h) (by omega)
        unfold RScanPost at hsc hrs
        obtain ⟨LL, hLL⟩ : ∃ LL, (scanR F).1 = LL := ⟨_, rfl⟩
        obtain ⟨k, hk⟩ : ∃ k, (scanR F).2.1 = k := ⟨_, rfl⟩
        obtain ⟨ok, hok⟩ : ∃ ok, (scanR F).2.2 = ok := ⟨_, rfl⟩
        rw [hLL, hk, hok] at hsc hrs
        have HSC := Lib.hid hsc
        have HRS := Lib.hid hrs
        clear hsc hrs hLL hk hok hF
        refine HSC.out.mono ?_
        rintro e w8 ⟨sp8, cap8, rfl, ho8, hb8⟩
        clear HSC
        go_wp2_with fail
        refine (HRS.out w8 hb8.out).mono ?_
        rintro e w9 ⟨sp9, cap9, rfl, ho9, hb9⟩
        have heq := eqAll_same _ _ LL w9 (ho8.out.at.below hb9.out) ho9.out.at
        have HB9 := Lib.hid (HB7.out.trans ((hb8.out.trans (hb9.out.mono hb8.out.size)).mono HB7.out.size))
        have hkk : ((k : Int) == (k : Int)) = true := beq_t rfl
        clear HRS ho8 ho9 hb8 hb9
        go_wp2_with fail
        refine heq.mono ?_
        rintro e w10 ⟨rfl, hb10⟩
        have HB10 := Lib.hid (HB9.out.trans (hb10.out.mono HB9.out.size))
        clear heq hb10 HB9
        go_wp2_with fail
        go_ret
        exact ⟨rfl, HB10.out⟩
      obtain ⟨n, hn⟩ : ∃ n : Nat, (d : Int) - cut = n := ⟨(d - cut).toNat, by omega⟩
      have hnD : n ≤ d := by omega
      have hEl : (D.take n).length = n := by rw [List.length_take, HDd.out]; omega
      have HEX : Hid (∀ x ∈ D.take n, x < 256) := Lib.hid fun x hx => HDX.out x (List.mem_of_mem_take hx)
      obtain ⟨E, hE⟩ : ∃ E, D.take n = E := ⟨_, rfl⟩
      rw [hE] at hEl HEX
      have HE := Lib.hid hE
      have HEl := Lib.hid hEl
      clear hE hEl
      by_cases hl0 : n = 0
      · subst hl0
        have hn0 : (d : Int) - cut = 0 := by omega
        clear hn
        go_wp2_with (at_builtin; refine wpList_append_bytes rfl (.tmp 38) (.tmp 40) rfl w2.heap.size _ _ _ rfl HS.out.1 _ R rfl HI4.out (by omega) HS.out.2.size ?_; intro v5 w5 hown hgr; have HS5 := Lib.hid (HS.out.app hown hgr); clear hown hgr HI4 HS; rw [HD.out] at HS5; have HF5 := Lib.hid (HS5.out.front HDX.out); have HB5 := Lib.hid (HB2.out.trans (HS5.out.2.mono HB2.out.size)); obtain ⟨sp5, N5, cap5, rfl, HN5⟩ := HS5.out.open; have hn5 : d = N5 := (HN5.out.trans HDd.out).symm; subst hn5; clear HS5 HN5; obtain ⟨sp6, cap6, hsl, HF6⟩ := HF5.out.upto 0 (Nat.zero_le _); rw [HE.out] at HF6; have hsl : ∀ W, (sliceU8 (.slice sp5 d cap5) none (some (.int .i64 0)) none).run Tryd.prog W = .ok (.slice sp6 0 cap6) W := hsl)
        have HI7 := Lib.hid HF6.out.1
        have HT7 := Lib.hid (HT.out.below HB5.out)
        obtain ⟨F, hF⟩ : ∃ F, E = F := ⟨_, rfl⟩
        rw [hF] at HI7
        have hFl : F.length ≤ 40000 := by rw [← hF, HEl.out]; omega
        have hsc := rscan_any _ F w5 HT7.out HI7.out (by omega)
        have hrs := fun (W : World) (h : From w5 W) => refRScan_any _ F W (HI7.out.below h) (by omega)
        unfold RScanPost at hsc hrs
        obtain ⟨LL, hLL⟩ : ∃ LL, (scanR F).1 = LL := ⟨_, rfl⟩
        obtain ⟨k, hk⟩ : ∃ k, (scanR F).2.1 = k := ⟨_, rfl⟩
        obtain ⟨ok, hok⟩ : ∃ ok, (scanR F).2.2 = ok := ⟨_, rfl⟩
        rw [hLL, hk, hok] at hsc hrs
        have HSC := Lib.hid hsc
        have HRS := Lib.hid hrs
        clear hsc hrs hLL hk hok hF
        refine HSC.out.mono ?_
        rintro e w8 ⟨sp8, cap8, rfl, ho8, hb8⟩
        clear HSC
        go_wp2_with fail
        refine (HRS.out w8 hb8.out).mono ?_
        rintro e w9 ⟨sp9, cap9, rfl, ho9, hb9⟩
        have heq := eqAll_same _ _ LL w9 (ho8.out.at.below hb9.out) ho9.out.at
        have HB9 := Lib.hid (HB5.out.trans ((hb8.out.trans (hb9.out.mono hb8.out.size)).mono HB5.out.size))
        have hkk : ((k : Int) == (k : Int)) = true := beq_t rfl
        clear HRS ho8 ho9 hb8 hb9
        go_wp2_with fail
        refine heq.mono ?_
        rintro e w10 ⟨rfl, hb10⟩
        have HB10 := Lib.hid (HB9.out.trans (hb10.out.mono HB9.out.size))
        clear heq hb10 HB9
        go_wp2_with fail
        go_ret
        exact ⟨rfl, HB10.out⟩
      by_cases hat : at' < 0
      · go_wp2_with (at_builtin; refine wpList_append_bytes rfl (.tmp 38) (.tmp 40) rfl w2.heap.size _ _ _ rfl HS.out.1 _ R rfl HI4.out (by omega) HS.out.2.size ?_; intro v5 w5 hown hgr; have HS5 := Lib.hid (HS.out.app hown hgr); clear hown hgr HI4 HS; rw [HD.out] at HS5; have HF5 := Lib.hid (HS5.out.front HDX.out); have HB5 := Lib.hid (HB2.out.trans (HS5.out.2.mono HB2.out.size)); obtain ⟨sp5, N5, cap5, rfl, HN5⟩ := HS5.out.open; have hn5 : d = N5 := (HN5.out.trans HDd.out).symm; subst hn5; clear HS5 HN5; obtain ⟨sp6, cap6, hsl, HF6⟩ := HF5.out.upto n (by rw [HDd.out]; exact hnD); rw [HE.out] at HF6)
        have HI7 := Lib.hid HF6.out.1
        have HT7 := Lib.hid (HT.out.below HB5.out)
        obtain ⟨F, hF⟩ : ∃ F, E = F := ⟨_, rfl⟩
        rw [hF] at HI7
        have hFl : F.length ≤ 40000 := by rw [← hF, HEl.out]; omega
        have hsc := rscan_any _ F w5 HT7.out HI7.out (by omega)
        have hrs := fun (W : World) (h : From w5 W) => refRScan_any _ F W (HI7.out.below h) (by omega)
        unfold RScanPost at hsc hrs
        obtain ⟨LL, hLL⟩ : ∃ LL, (scanR F).1 = LL := ⟨_, rfl⟩
        obtain ⟨k, hk⟩ : ∃ k, (scanR F).2.1 = k := ⟨_, rfl⟩
        obtain ⟨ok, hok⟩ : ∃ ok, (scanR F).2.2 = ok := ⟨_, rfl⟩
        rw [hLL, hk, hok] at hsc hrs
        have HSC := Lib.hid hsc
        have HRS := Lib.hid hrs
        clear hsc hrs hLL hk hok hF
        refine HSC.out.mono ?_
        rintro e w8 ⟨sp8, cap8, rfl, ho8, hb8⟩
        clear HSC
        go_wp2_with fail
        refine (HRS.out w8 hb8.out).mono ?_
        rintro e w9 ⟨sp9, cap9, rfl, ho9, hb9⟩
        have heq := eqAll_same _ _ LL w9 (ho8.out.at.below hb9.out) ho9.out.at
        have HB9 := Lib.hid (HB5.out.trans ((hb8.out.trans (hb9.out.mono hb8.out.size)).mono HB5.out.size))
        have hkk : ((k : Int) == (k : Int)) = true := beq_t rfl
        clear HRS ho8 ho9 hb8 hb9
        go_wp2_with fail
        refine heq.mono ?_
        rintro e w10 ⟨rfl, hb10⟩
        have HB10 := Lib.hid (HB9.out.trans (hb10.out.mono HB9.out.size))
        clear heq hb10 HB9
        go_wp2_with fail
        go_ret
        exact ⟨rfl, HB10.out⟩
      obtain ⟨i, hi'⟩ : ∃ i : Nat, at' % (n : Int) = i := ⟨(at' % (n : Int)).toNat, by have := Int.emod_nonneg at' (show (n : Int) ≠ 0 by omega); omega⟩
      have hiN : i < n := by have := Int.emod_lt_of_pos at' (show (0 : Int) < (n : Int) by omega); omega
      have hilt : i < E.length := by rw [HEl.out]; exact hiN
      have HILT := Lib.hid hilt
      obtain ⟨s0, hs0⟩ : ∃ s0, E.getD i 0 = s0 := ⟨_, rfl⟩
      have hs256 : s0 < 256 := by rw [← hs0]; exact getD_lt HEX.out i
      obtain ⟨q, hq⟩ : ∃ q, s0 ^^^ x = q := ⟨_, rfl⟩
      have hq256 : q < 256 := by rw [← hq]; exact Nat.xor_lt_two_pow (n := 8) hs256 hx
      have hxe : bits BinOp.xor IntKind.u8 (s0 : Int) (x : Int) = (q : Int) := by rw [u8_xor_nat s0 x hs256 hx, hq]
      have hiI : (i : Int) < (n : Int) := by omega
      have hatn : ¬ at' < 0 := hat
      have hat0 : 0 ≤ at' := by omega
      clear hq hilt
      go_wp2_with (at_builtin; refine wpList_append_bytes rfl (.tmp 38) (.tmp 40) rfl w2.heap.size _ _ _ rfl HS.out.1 _ R rfl HI4.out (by omega) HS.out.2.size ?_; intro v5 w5 hown hgr; have HS5 := Lib.hid (HS.out.app hown hgr); clear hown hgr HI4 HS; rw [HD.out] at HS5; have HF5 := Lib.hid (HS5.out.front HDX.out); have HB5 := Lib.hid (HB2.out.trans (HS5.out.2.mono HB2.out.size)); obtain ⟨sp5, N5, cap5, rfl, HN5⟩ := HS5.out.open; have hn5 : d = N5 := (HN5.out.trans HDd.out).symm; subst hn5; clear HS5 HN5; obtain ⟨sp6, cap6, hsl, HF6⟩ := HF5.out.upto n (by rw [HDd.out]; exact hnD); rw [HE.out] at HF6; obtain ⟨g, cp', he, hgb, hgl, hcell, hfz, HF7⟩ := HF6.out.put i q HILT.out hq256; simp only [Value.slice.injEq] at he; obtain ⟨he1, -, he2⟩ := he; subst he1; subst he2; rw [hs0] at hcell; rw [HEl.out] at HF7; obtain ⟨w7, hw7⟩ : ∃ w7, w5.setCell ⟨g, i, none⟩ (.int .u8 (q : Nat)) = w7 := ⟨_, rfl⟩; rw [hw7] at HF7; have HB7 : Hid (Below w.heap.size w w7) := Lib.hid (bel_field HB5.out hw7 (Nat.le_trans HB2.out.size hgb)))
      have HI7 := Lib.hid HF7.out.1
      have HT7 := Lib.hid (HT.out.below HB7.out)
      obtain ⟨F, hF⟩ : ∃ F, (E.set i q) = F := ⟨_, rfl⟩
      rw [hF] at HI7
      have hFl : F.length ≤ 40000 := by rw [← hF, List.length_set, HEl.out]; omega
      have hsc := rscan_any _ F w7 HT7.out HI7.out (by omega)
      have hrs := fun (W : World) (h : From w7 W) => refRScan_any _ F W (HI7.out.below h) (by omega)
      unfold RScanPost at hsc hrs
      obtain ⟨LL, hLL⟩ : ∃ LL, (scanR F).1 = LL := ⟨_, rfl⟩
      obtain ⟨k, hk⟩ : ∃ k, (scanR F).2.1 = k := ⟨_, rfl⟩
      obtain ⟨ok, hok⟩ : ∃ ok, (scanR F).2.2 = ok := ⟨_, rfl⟩
      rw [hLL, hk, hok] at hsc hrs
      have HSC := Lib.hid hsc
      have HRS := Lib.hid hrs
      clear hsc hrs hLL hk hok hF
      refine HSC.out.mono ?_
      rintro e w8 ⟨sp8, cap8, rfl, ho8, hb8⟩
      clear HSC
      go_wp2_with fail
      refine (HRS.out w8 hb8.out).mono ?_
      rintro e w9 ⟨sp9, cap9, rfl, ho9, hb9⟩
      have heq := eqAll_same _ _ LL w9 (ho8.out.at.below hb9.out) ho9.out.at
      have HB9 := Lib.hid (HB7.out.trans ((hb8.out.trans (hb9.out.mono hb8.out.size)).mono HB7.out.size))
      have hkk : ((k : Int) == (k : Int)) = true := beq_t rfl
      clear HRS ho8 ho9 hb8 hb9
      go_wp2_with fail
      refine heq.mono ?_
      rintro e w10 ⟨rfl, hb10⟩
      have HB10 := Lib.hid (HB9.out.trans (hb10.out.mono HB9.out.size))
      clear heq hb10 HB9
      go_wp2_with fail
      go_ret
      exact ⟨rfl, HB10.out⟩
end Go.Proofs.YtcgleephodfelaaDoor.S14

/- foliolaw14.RecordMany: the walk. -/
import Derived.Test.YtcgleephodfelaaDoorRcM
import Derived.Test.YtcgleephodfelaaDoorInts
set_option linter.unusedSimpArgs false
set_option linter.unusedVariables false
set_option maxRecDepth 100000
namespace Go.Proofs.YtcgleephodfelaaDoor.S14
open Go.RowKit S2.Pl S3 S3.Pl
/-! where records end -/
def endL (G : List RT) (i : Nat) : List Int := (List.range i).map fun j => ((encs (G.take (j + 1))).length : Int)
theorem endL_length (G : List RT) (i : Nat) : (endL G i).length = i := by simp [endL]
theorem endL_succ (G : List RT) (i : Nat) : endL G (i + 1) = endL G i ++ [((encs (G.take (i + 1))).length : Int)] := by simp [endL, List.range_succ]
theorem endL_get (G : List RT) {i j : Nat} (h : j < i) : (endL G i).getD j 0 = ((encs (G.take (j + 1))).length : Int) := by simp [endL, List.getD, h]
theorem encs_append (A B : List RT) : encs (A ++ B) = encs A ++ encs B := by rw [encs_cat, encs_cat, encs_cat, List.map_append, pcat_append]
theorem encs_step {G : List RT} (hG : ∀ r ∈ G, chk r = 0) {i : Nat} (hi : i < G.length) : encs (G.take (i + 1)) = encs (G.take i) ++ enc (G.getD i zR) := by
  have e : G.take (i + 1) = G.take i ++ [G.getD i zR] := by rw [List.take_add_one, List.getElem?_eq_getElem hi]; simp [List.getD, hi]
  rw [e, encs_snoc, enc_good (hG _ (by simp [List.getD, hi]))]
theorem encs_lt {G : List RT} (hG : ∀ r ∈ G, chk r = 0) : ∀ x ∈ encs G, x < 256 := by
  rw [encs_cat]
  refine pcat_lt fun P hP => ?_
  simp only [List.mem_map] at hP
  obtain ⟨r, hr, rfl⟩ := hP
  exact body_lt (kind_lt (chk_ok (hG r hr)).2.2.2)
theorem encs_len {G : List RT} (hG : ∀ r ∈ G, chk r = 0) : (encs G).length ≤ 4143 * G.length := by
  induction G with
  | nil => exact Nat.le_refl _
  | cons r G ih =>
    have h1 := (body_len (hG r (by simp))).1
    have h2 := ih fun x hx => hG x (by simp [hx])
    rw [encs, List.length_append, pseal_length, List.length_cons]
    omega
theorem encs_take_le (G : List RT) (i : Nat) : (encs (G.take i)).length ≤ (encs G).length := by
  have : encs G = encs (G.take i) ++ encs (G.drop i) := by rw [← encs_append, List.take_append_drop]
  rw [this, List.length_append]; omega
/-- records that may be, cut anywhere: those that are whole are told -/
theorem many_scan {G : List RT} (hG : ∀ r ∈ G, chk r = 0) {k C : Nat} (h1 : (encs (G.take k)).length ≤ C) (h2 : (k = G.length ∧ C ≤ (encs G).length) ∨ k < G.length ∧ C < (encs (G.take (k + 1))).length) :
    scanR ((encs G).take C) = (G.take k, (encs (G.take k)).length, true) := by
  have hGk : ∀ r ∈ G.take k, chk r = 0 := fun r hr => hG r (List.mem_of_mem_take hr)
  have hp : pscan ((encs G).take C) = ((G.take k).map body, (encs (G.take k)).length, true) := by
    have hcat := fun T => pscan_cat ((G.take k).map body) T (fun P hP => by
      simp only [List.mem_map] at hP
      obtain ⟨r, hr, rfl⟩ := hP
      exact body_lt (kind_lt (chk_ok (hGk r hr)).2.2.2)) (fun P hP => by
      simp only [List.mem_map] at hP
      obtain ⟨r, hr, rfl⟩ := hP
      have := (body_len (hGk r hr)).1
      omega)
    rw [← encs_cat] at hcat
    rcases h2 with ⟨rfl, hC⟩ | ⟨hk, hC⟩
    · rw [List.take_length] at h1 hcat ⊢
      have : C = (encs G).length := by omega
      rw [this, List.take_length]
      have := hcat []
      rw [List.append_nil, pscan_short (B := []) (by simp)] at this
      rw [this]
      simp
    · have hk0 := hG (G.getD k zR) (by simp [List.getD, hk])
      have es := encs_step hG hk
      have e : encs G = encs (G.take k) ++ (pseal (body (G.getD k zR)) ++ encs (G.drop (k + 1))) := by
        have : encs G = encs (G.take (k + 1)) ++ encs (G.drop (k + 1)) := by rw [← encs_append, List.take_append_drop]
        rw [this, es, enc_good hk0, List.append_assoc]
      rw [es, enc_good hk0, List.length_append, pseal_length] at hC
      have hb := (body_len hk0).1
      rw [e, List.take_append, List.take_of_length_le h1, hcat, pscan_part _ _ (by omega) _ (by omega)]
      simp
  unfold scanR
  rw [hp]
  simp only [scanL_ok hGk, Bool.and_self]
/-! rows of two types -/
theorem own_apart {w : World} {b1 b2 n1 n2 : Nat} {v1 v2 : Value} {x1 x2 : List Value} (h1 : w.ownsRow b1 3 1 v1 n1 x1) (h2 : w.ownsRow b2 5 1 v2 n2 x2) : v1.ownBlock = none ∨ v1.ownBlock ≠ v2.ownBlock := by
  obtain ⟨_, ⟨rfl, _⟩ | ⟨g, cap, cur, rfl, _, hh, _⟩⟩ := h1
  · exact .inl rfl
  · obtain ⟨_, ⟨rfl, _⟩ | ⟨g2, cap2, cur2, rfl, _, hh2, _⟩⟩ := h2
    · right; simp [Value.ownBlock]
    · right
      simp only [Value.ownBlock]
      intro e
      simp only [Option.some.injEq] at e
      subst e
      rw [hh] at hh2
      simp at hh2
theorem own_apart' {w : World} {b1 b2 n1 n2 : Nat} {v1 v2 : Value} {x1 x2 : List Value} (h1 : w.ownsRow b1 3 1 v1 n1 x1) (h2 : w.ownsRow b2 5 1 v2 n2 x2) : v2.ownBlock = none ∨ v2.ownBlock ≠ v1.ownBlock := by
  rcases own_apart h1 h2 with h | h
  · cases h3 : v2.ownBlock with
    | none => exact .inl rfl
    | some k => right; rw [h]; simp
  · exact .inr (Ne.symm h)
/-! l[:k] of records -/
def sliceRc (x : Value) (lo hi mx : Option Value) : Sem Value := Instr.sliceAt 32 x lo hi mx
theorem sliceRc_eq (x : Value) (lo hi mx : Option Value) : Instr.sliceAt 32 x lo hi mx = sliceRc x lo hi mx := rfl
theorem elem_rcs : Tryd.prog.elem 32 = 23 := by kernel_rfl
theorem und_rcs : Tryd.prog.underlying 32 = some (.slice (Tryd.prog.elem 32)) := by rw [elem_rcs]; exact Tryd.underlying32
theorem run_size_rc (w : World) : (sizeOf (Tryd.prog.elem 32)).run Tryd.prog w = .ok 4 w := by
  obtain ⟨i0, hi, hz0, hz1, hz2⟩ := info_parts infoRecS
  rw [elem_rcs]
  simp [sizeOf, typeInfo, hi, hz1]
theorem RecsAt.upto {w : World} {v : Value} {L : List RT} (h : RecsAt w v L) (n : Nat) (hn : n ≤ L.length) : ∃ sp cap, (∀ W, (sliceRc v none (some (.int .i64 n)) none).run Tryd.prog W = .ok (.slice sp n cap) W) ∧ Hid (RecsAt w (.slice sp n cap) (L.take n)) := by
  obtain ⟨a, cap, rfl, h1, h2, h3⟩ := h
  have hl : (L.take n).length = n := by rw [List.length_take]; omega
  refine ⟨if cap = 0 then a else a.map (·.add (0 * 4)), cap, ?_, Lib.hid ⟨_, cap, by rw [hl], by rw [hl]; omega, h2, fun h0 => ?_⟩⟩
  · intro W
    unfold sliceRc
    rw [run_sliceAt_slice _ _ _ _ _ _ und_rcs, run_slice_h _ _ _ _ _ und_rcs _ _ (by omega) (by omega), run_size_rc, Int.toNat_natCast]
    simp only [Result.andThen, sliced, Nat.sub_zero]
  · rw [hl] at h0
    obtain ⟨b, off, rfl, hb, hc⟩ := h3 (by omega)
    refine ⟨b, off, ?_, hb, fun i hi j u hu => ?_⟩
    · have : (⟨b, off, none⟩ : Addr).add (0 * 4) = ⟨b, off, none⟩ := by unfold Addr.add; simp
      split
      · rfl
      · rw [Option.map_some, this]
    · rw [hl] at hi
      refine hc i (by omega) j u ?_
      have e : (L.take n).getD i zR = L.getD i zR := by simp [List.getD, List.getElem?_take_of_lt hi]
      rw [← e]; exact hu
attribute [local go_sem ↓] loadR_eq storeR_eq buildR_eq sliceU8_eq conv_eq sliceRc_eq
set_option maxHeartbeats 32000000 in
theorem recordMany_walk (a : Option Addr) (len cap : Nat) (cut : Int) (w : World) (hT : Tab w) (h0 : IsRecs recF w a len) :
    Calls Tryd.prog 5 #[.slice a len cap, .int .i64 cut] w fun e w' => e = .returned (.bool true) ∧ Below w.heap.size w w' := by
  have HT := Lib.hid hT
  have HR := Lib.hid h0
  have HBEG := Lib.hid (begun_any w hT)
  clear hT h0
  go_enter Tryd.func5, Tryd.ntmps5
  go_wp2_with fail
  refine HBEG.out.mono ?_
  rintro e w1 ⟨rfl, hb1⟩
  have HG := Lib.hid (good_any a len cap 15 w1 (recs_below HR.out hb1) (by decide))
  have HB1 := Lib.hid hb1
  clear hb1 HBEG HR
  go_wp2_with fail
  refine HG.out.mono ?_
  rintro e w2 ⟨G, sp2, cap2, rfl, hg, hG8⟩
  have HGR := Lib.hid hg.out.2.1.at
  have HB2 := Lib.hid (HB1.out.trans (hg.out.2.2.mono HB1.out.size))
  have HT2 := Lib.hid (HT.out.below HB2.out)
  have HC : Hid (∀ r ∈ G, chk r = 0) := Lib.hid hg.out.1
  obtain ⟨gl, hgl⟩ : ∃ gl, G.length = gl := ⟨_, rfl⟩
  have HGL := Lib.hid hgl
  have hET := encs_len HC.out
  rw [hgl] at hG8 hET HGR ⊢
  clear hg HG HB1 hgl HT
  go_wp2_with fail
  go_loopw [6, 7, 8] (fun v u y wr => ∃ i : Nat, i ≤ gl ∧ y = .int .i64 i ∧ Sofar w2 wr v (encs (G.take i)) ∧ wr.ownsRow w2.heap.size 3 1 u i (i64s (endL G i))) (fun _ _ y _ => gl - (intOf y).toNat)
  case atStart => exact ⟨0, by omega, rfl, ⟨own_nil _ _, Below.refl _ _⟩, own_nilI _ _⟩
  case round =>
    obtain ⟨i, hi, rfl, hs, ho⟩ := hrel
    have HS := Lib.hid hs
    have HO := Lib.hid ho
    obtain ⟨sp, N, cp, rfl, HN⟩ := hs.open
    obtain ⟨spE, cpE, rfl, hcE, hmE⟩ := ownsRow_slice ho
    have hBl := encs_take_le G i
    clear hs ho
    by_cases hlt : i < gl
    · have hltG : i < G.length := by rw [HGL.out]; exact hlt
      obtain ⟨b, off, rfl, hld⟩ := (HGR.out.below HS.out.2).load (W := wr) hltG
      have hst := encs_step HC.out hltG
      obtain ⟨r, hr⟩ : ∃ r, G.getD i zR = r := ⟨_, rfl⟩
      have hrc : chk r = 0 := by rw [← hr]; exact HC.out _ (by simp [List.getD, hltG])
      obtain ⟨_, hk1, hk2, _⟩ := chk_ok hrc
      rw [hr] at hld hst
      have hld := hld wr (From.refl _)
      have hen := encode_any r wr (HT2.out.below HS.out.2) (by unfold maxLen; omega) (by unfold maxLen; omega)
      have hel := enc_len r
      unfold EncPost at hen
      rw [hrc] at hen
      obtain ⟨M, hM⟩ : ∃ M, (enc r).length = M := ⟨_, rfl⟩
      rw [hM] at hen hel
      have HM := Lib.hid hM
      have HEN := Lib.hid hen
      have HST := Lib.hid hst
      clear hr hrc hk1 hk2 hen hM hst hltG
      go_wp2_with fail
      refine HEN.out.mono ?_
      rintro e w4 ⟨sp4, cap4, rfl, ho4, hb4⟩
      have HI4 : Hid (IsBytes w4 (.slice sp4 M cap4) (enc r)) := Lib.hid (by have h := ho4.out; rw [← HM.out] at h ⊢; exact encPost_is h)
      have HS4 := Lib.hid (HS.out.below hb4.out)
      have HO4 := Lib.hid (own_below HO.out hb4.out)
      clear ho4 hb4 HEN HS HO hld
      go_wp2_with (first | (at_builtin; refine wpList_append_bytes rfl (.tmp 36) (.tmp 37) rfl w2.heap.size _ _ _ rfl HS4.out.1 _ (enc r) rfl HI4.out (by rw [HM.out]; omega) HS4.out.2.size ?_; intro v5 w5 hown hgr; have HS5 := Lib.hid (HS4.out.app hown hgr); have HO5 := Lib.hid (HO4.out.kept hgr (own_apart HO4.out HS4.out.1)); clear hown hgr HI4 HS4 HO4; rw [← HST.out] at HS5; obtain ⟨sp5, N5, cp5, rfl, HN5⟩ := HS5.out.open; have hsz5 := HS5.out.2.size) | (at_builtin; refine wpList_append_int rfl (.tmp 39) (.tmp 42) rfl w2.heap.size _ i (endL G i) N5 rfl HO5.out _ rfl rfl (by omega) hsz5 ?_; intro v6 w6 hown hgr; have HS6 : Hid (Sofar w2 w6 (.slice sp5 N5 cp5) (encs (G.take (i + 1)))) := Lib.hid ⟨(HS5.out.1.alloc _).kept hgr (own_apart' HO5.out HS5.out.1), (HS5.out.2.alloc hsz5 _).grown hgr (by simp; omega) (own_lt HO5.out)⟩; have HO6 : Hid (w6.ownsRow w2.heap.size 3 1 v6 (i + 1) (i64s (endL G (i + 1)))) := Lib.hid (by rw [endL_succ, ← HN5.out]; exact hown); clear hown hgr HS5 HO5))
      go_roundw
      case rel => exact ⟨i + 1, hlt, by go_num, HS6.out, HO6.out⟩
      case measure => simp [intOf]; omega
    · obtain rfl : i = gl := by omega
      have hGt : G.take i = G := by rw [← HGL.out]; exact List.take_length
      rw [hGt] at HS HN
      obtain ⟨T, hTT⟩ : ∃ T, (encs G).length = T := ⟨_, rfl⟩
      rw [hTT] at HN hET
      have HTT := Lib.hid hTT
      obtain rfl := HN.out
      have hIs := HS.out.is (encs_lt HC.out)
      have HIS := Lib.hid hIs
      have HTR := Lib.hid (HT2.out.below HS.out.2)
      have HBR := Lib.hid (HB2.out.trans (HS.out.2.mono HB2.out.size))
      have hup := fun (C : Nat) (hC : C ≤ N) => HS.out.front (encs_lt HC.out) |>.upto C (by rw [HTT.out]; exact hC)
      have HUP := Lib.hid hup
      clear hlt hBl hGt hTT hIs hup HN
      by_cases hc1 : cut < 0
      · obtain ⟨C, hCN, hC⟩ : ∃ C, C ≤ N ∧ C = N := ⟨N, Nat.le_refl _, rfl⟩
        subst hC
        obtain ⟨sp6, cp6, hsl, HF6⟩ := HUP.out C hCN
        have hsc := rscan_any _ ((encs G).take C) wr HTR.out HF6.out.1 (by rw [List.length_take, HTT.out]; omega)
        unfold RScanPost at hsc
        obtain ⟨MM, hMM⟩ : ∃ MM, (scanR ((encs G).take C)).1 = MM := ⟨_, rfl⟩
        obtain ⟨n, hn⟩ : ∃ n, (scanR ((encs G).take C)).2.1 = n := ⟨_, rfl⟩
        obtain ⟨ok, hok⟩ : ∃ ok, (scanR ((encs G).take C)).2.2 = ok := ⟨_, rfl⟩
        rw [hMM, hn, hok] at hsc
        have HSR : Hid (scanR ((encs G).take C) = (MM, n, ok)) := Lib.hid (by rw [← hMM, ← hn, ← hok])
        obtain ⟨ml, hml⟩ : ∃ ml, MM.length = ml := ⟨_, rfl⟩
        rw [hml] at hsc
        have HML := Lib.hid hml
        have HSC := Lib.hid hsc
        clear hsc hMM hn hok hml
        go_wp2_with fail
        refine HSC.out.mono ?_
        rintro e w8 ⟨sp8, cap8, rfl, ho8, hb8⟩
        have HO8 := Lib.hid ho8.out.at
        have HE8 := Lib.hid (isInts_own (endL_length G i).symm (own_below HO.out hb8.out))
        have HG8 := Lib.hid (HGR.out.below (HS.out.2.trans (hb8.out.mono HS.out.2.size)))
        have HB8 := Lib.hid (HBR.out.trans (hb8.out.mono HBR.out.size))
        clear HSC ho8 hb8 HO HS HIS HTR HBR HUP HF6 hsl HGR
        go_wp2_with fail
        go_loop [14] (fun y => ∃ k : Nat, k ≤ i ∧ y = .int .i64 k ∧ (encs (G.take k)).length ≤ C) (fun y => i - (intOf y).toNat)
        case atStart => exact ⟨0, by omega, rfl, by simp [encs]⟩
        case round =>
          obtain ⟨k, hk, rfl, hkC⟩ := hrel
          have HKC := Lib.hid hkC
          have hend : (∃ z : Nat, k < i ∧ (encs (G.take (k + 1))).length = z ∧ z ≤ C) ∨ (∃ z : Nat, k < i ∧ (encs (G.take (k + 1))).length = z ∧ C < z) ∨ k = i := by
            by_cases h1 : k < i
            · by_cases h2 : (encs (G.take (k + 1))).length ≤ C
              · exact .inl ⟨_, h1, rfl, h2⟩
              · exact .inr (.inl ⟨_, h1, rfl, by omega⟩)
            · exact .inr (.inr (by omega))
          clear hkC
          rcases hend with ⟨z, h1, h2, h3⟩ | hend
          · obtain ⟨bE, oE, cE', heE, _, _, hblE, hcE'⟩ := HE8.out.cells (by rw [endL_length]; omega)
            simp at heE
            obtain ⟨rfl, -, rfl⟩ := heE
            have hc := hcE' k (by rw [endL_length]; exact h1)
            rw [endL_get G h1, h2] at hc
            have h1I : (k : Int) < (i : Int) := by omega
            have h3d : decide ((z : Int) ≤ (C : Int)) = true := by simp; omega
            have H2 := Lib.hid h2
            clear hcE' h2
            go_wp2_with fail
            go_round
            case rel => exact ⟨k + 1, h1, by go_num, by rw [H2.out]; exact h3⟩
            case measure => simp [intOf]; omega
          · have hsr : scanR ((encs G).take C) = (G.take k, (encs (G.take k)).length, true) := by
              refine many_scan HC.out HKC.out ?_
              rcases hend with ⟨z, h1, h2, h3⟩ | h1
              · exact .inr ⟨by rw [HGL.out]; exact h1, by omega⟩
              · exact .inl ⟨by rw [HGL.out]; exact h1, by rw [HTT.out]; exact hCN⟩
            rw [HSR.out] at hsr
            simp only [Prod.mk.injEq] at hsr
            obtain ⟨hm1, hm2, hm3⟩ := hsr
            subst hm3
            have hmk : ml = k := by rw [← HML.out, hm1, List.length_take, HGL.out]; omega
            subst hmk
            have HM1 := Lib.hid hm1
            have hn1 : n = (encs (G.take ml)).length := hm2
            obtain ⟨sp9, cp9, hslR, HR9⟩ := HG8.out.upto ml (by rw [HGL.out]; exact hk)
            have HO9 : Hid (RecsAt w8 (.slice sp8 ml cap8) (G.take ml)) := Lib.hid (by rw [← HM1.out]; exact HO8.out)
            have heq := eqAll_same _ _ (G.take ml) w8 HO9.out HR9.out
            have HN1 := Lib.hid hn1
            have hmm : ((ml : Int) != (ml : Int)) = false := bne_f rfl
            have HEQ := Lib.hid heq
            clear hm1 hm2 hn1 heq
            by_cases hm0 : ml = 0
            · subst hm0
              have hslR : ∀ W, (sliceRc (.slice sp2 i cap2) none (some (.int .i64 0)) none).run Tryd.prog W = .ok (.slice sp9 0 cp9) W := hslR
              rcases hend with ⟨z, h1, h2, h3⟩ | h1
              · obtain ⟨bE, oE, cE', heE, _, _, hblE, hcE'⟩ := HE8.out.cells (by rw [endL_length]; omega)
                simp at heE
                obtain ⟨rfl, -, rfl⟩ := heE
                have hc := hcE' 0 (by rw [endL_length]; omega)
                rw [endL_get G (by omega), h2, Nat.add_zero] at hc
                have h3d : decide ((z : Int) ≤ (C : Int)) = false := by simp; omega
                have h1I : (0 : Int) < (i : Int) := by omega
                clear hcE' h2
                go_wp2_with fail
                refine HEQ.out.mono ?_
                rintro e w10 ⟨rfl, hb10⟩
                have HB10 := Lib.hid (HB8.out.trans (hb10.out.mono HB8.out.size))
                go_wp2_with fail
                go_ret
                exact ⟨rfl, HB10.out⟩
              · subst h1
                go_wp2_with fail
                refine HEQ.out.mono ?_
                rintro e w10 ⟨rfl, hb10⟩
                have HB10 := Lib.hid (HB8.out.trans (hb10.out.mono HB8.out.size))
                go_wp2_with fail
                go_ret
                exact ⟨rfl, HB10.out⟩
            · have hprev : (endL G i).getD (ml - 1) 0 = (n : Int) := by rw [endL_get G (by omega), Nat.sub_add_cancel (by omega), HN1.out]
              obtain ⟨bE, oE, cE', heE, _, _, hblE, hcE'⟩ := HE8.out.cells (by rw [endL_length]; omega)
              simp at heE
              obtain ⟨rfl, -, rfl⟩ := heE
              have hcp := hcE' (ml - 1) (by rw [endL_length]; omega)
              rw [hprev] at hcp
              obtain ⟨p, hp⟩ : ∃ p, ml - 1 = p := ⟨_, rfl⟩
              rw [hp] at hcp
              have hp1 : (ml : Int) - 1 = (p : Int) := by omega
              have hpi : (p : Int) < (i : Int) := by omega
              have hpos : (0 : Int) < (ml : Int) := by omega
              have hnn : ((n : Int) != (n : Int)) = false := bne_f rfl
              rcases hend with ⟨z, h1, h2, h3⟩ | h1
              · have hc := hcE' ml (by rw [endL_length]; omega)
                rw [endL_get G h1, h2] at hc
                have h3d : decide ((z : Int) ≤ (C : Int)) = false := by simp; omega
                have h1I : (ml : Int) < (i : Int) := by omega
                clear hcE' h2
                go_wp2_with fail
                refine HEQ.out.mono ?_
                rintro e w10 ⟨rfl, hb10⟩
                have HB10 := Lib.hid (HB8.out.trans (hb10.out.mono HB8.out.size))
                go_wp2_with fail
                go_ret
                exact ⟨rfl, HB10.out⟩
              · have hii : ¬ (ml : Int) < (i : Int) := by omega
                clear h1
                go_wp2_with fail
                refine HEQ.out.mono ?_
                rintro e w10 ⟨rfl, hb10⟩
                have HB10 := Lib.hid (HB8.out.trans (hb10.out.mono HB8.out.size))
                go_wp2_with fail
                go_ret
                exact ⟨rfl, HB10.out⟩
      by_cases hc2 : (N : Int) < cut
      · obtain ⟨C, hCN, hC⟩ : ∃ C, C ≤ N ∧ C = N := ⟨N, Nat.le_refl _, rfl⟩
        subst hC
        obtain ⟨sp6, cp6, hsl, HF6⟩ := HUP.out C hCN
        have hsc := rscan_any _ ((encs G).take C) wr HTR.out HF6.out.1 (by rw [List.length_take, HTT.out]; omega)
        unfold RScanPost at hsc
        obtain ⟨MM, hMM⟩ : ∃ MM, (scanR ((encs G).take C)).1 = MM := ⟨_, rfl⟩
        obtain ⟨n, hn⟩ : ∃ n, (scanR ((encs G).take C)).2.1 = n := ⟨_, rfl⟩
        obtain ⟨ok, hok⟩ : ∃ ok, (scanR ((encs G).take C)).2.2 = ok := ⟨_, rfl⟩
        rw [hMM, hn, hok] at hsc
        have HSR : Hid (scanR ((encs G).take C) = (MM, n, ok)) := Lib.hid (by rw [← hMM, ← hn, ← hok])
        obtain ⟨ml, hml⟩ : ∃ ml, MM.length = ml := ⟨_, rfl⟩
        rw [hml] at hsc
        have HML := Lib.hid hml
        have HSC := Lib.hid hsc
        clear hsc hMM hn hok hml
        go_wp2_with fail
        refine HSC.out.mono ?_
        rintro e w8 ⟨sp8, cap8, rfl, ho8, hb8⟩
        have HO8 := Lib.hid ho8.out.at
        have HE8 := Lib.hid (isInts_own (endL_length G i).symm (own_below HO.out hb8.out))
        have HG8 := Lib.hid (HGR.out.below (HS.out.2.trans (hb8.out.mono HS.out.2.size)))
        have HB8 := Lib.hid (HBR.out.trans (hb8.out.mono HBR.out.size))
        clear HSC ho8 hb8 HO HS HIS HTR HBR HUP HF6 hsl HGR
        go_wp2_with fail
        go_loop [14] (fun y => ∃ k : Nat, k ≤ i ∧ y = .int .i64 k ∧ (encs (G.take k)).length ≤ C) (fun y => i - (intOf y).toNat)
        case atStart => exact ⟨0, by omega, rfl, by simp [encs]⟩
        case round =>
          obtain ⟨k, hk, rfl, hkC⟩ := hrel
          have HKC := Lib.hid hkC
          have hend : (∃ z : Nat, k < i ∧ (encs (G.take (k + 1))).length = z ∧ z ≤ C) ∨ (∃ z : Nat, k < i ∧ (encs (G.take (k + 1))).length = z ∧ C < z) ∨ k = i := by
            by_cases h1 : k < i
            · by_cases h2 : (encs (G.take (k + 1))).length ≤ C
              · exact .inl ⟨_, h1, rfl, h2⟩
              · exact .inr (.inl ⟨_, h1, rfl, by omega⟩)
            · exact .inr (.inr (by omega))
          clear hkC
          rcases hend with ⟨z, h1, h2, h3⟩ | hend
          · obtain ⟨bE, oE, cE', heE, _, _, hblE, hcE'⟩ := HE8.out.cells (by rw [endL_length]; omega)
            simp at heE
            obtain ⟨rfl, -, rfl⟩ := heE
            have hc := hcE' k (by rw [endL_length]; exact h1)
            rw [endL_get G h1, h2] at hc
            have h1I : (k : Int) < (i : Int) := by omega
            have h3d : decide ((z : Int) ≤ (C : Int)) = true := by simp; omega
            have H2 := Lib.hid h2
            clear hcE' h2
            go_wp2_with fail
            go_round
            case rel => exact ⟨k + 1, h1, by go_num, by rw [H2.out]; exact h3⟩
            case measure => simp [intOf]; omega
          · have hsr : scanR ((encs G).take C) = (G.take k, (encs (G.take k)).length, true) := by
              refine many_scan HC.out HKC.out ?_
              rcases hend with ⟨z, h1, h2, h3⟩ | h1
              · exact .inr ⟨by rw [HGL.out]; exact h1, by omega⟩
              · exact .inl ⟨by rw [HGL.out]; exact h1, by rw [HTT.out]; exact hCN⟩
            rw [HSR.out] at hsr
            simp only [Prod.mk.injEq] at hsr
            obtain ⟨hm1, hm2, hm3⟩ := hsr
            subst hm3
            have hmk : ml = k := by rw [← HML.out, hm1, List.length_take, HGL.out]; omega
            subst hmk
            have HM1 := Lib.hid hm1
            have hn1 : n = (encs (G.take ml)).length := hm2
            obtain ⟨sp9, cp9, hslR, HR9⟩ := HG8.out.upto ml (by rw [HGL.out]; exact hk)
            have HO9 : Hid (RecsAt w8 (.slice sp8 ml cap8) (G.take ml)) := Lib.hid (by rw [← HM1.out]; exact HO8.out)
            have heq := eqAll_same _ _ (G.take ml) w8 HO9.out HR9.out
            have HN1 := Lib.hid hn1
            have hmm : ((ml : Int) != (ml : Int)) = false := bne_f rfl
            have HEQ := Lib.hid heq
            clear hm1 hm2 hn1 heq
            by_cases hm0 : ml = 0
            · subst hm0
              have hslR : ∀ W, (sliceRc (.slice sp2 i cap2) none (some (.int .i64 0)) none).run Tryd.prog W = .ok (.slice sp9 0 cp9) W := hslR
              rcases hend with ⟨z, h1, h2, h3⟩ | h1
              · obtain ⟨bE, oE, cE', heE, _, _, hblE, hcE'⟩ := HE8.out.cells (by rw [endL_length]; omega)
                simp at heE
                obtain ⟨rfl, -, rfl⟩ := heE
                have hc := hcE' 0 (by rw [endL_length]; omega)
                rw [endL_get G (by omega), h2, Nat.add_zero] at hc
                have h3d : decide ((z : Int) ≤ (C : Int)) = false := by simp; omega
                have h1I : (0 : Int) < (i : Int) := by omega
                clear hcE' h2
                go_wp2_with fail
                refine HEQ.out.mono ?_
                rintro e w10 ⟨rfl, hb10⟩
                have HB10 := Lib.hid (HB8.out.trans (hb10.out.mono HB8.out.size))
                go_wp2_with fail
                go_ret
                exact ⟨rfl, HB10.out⟩
              · subst h1
                go_wp2_with fail
                refine HEQ.out.mono ?_
                rintro e w10 ⟨rfl, hb10⟩
                have HB10 := Lib.hid (HB8.out.trans (hb10.out.mono HB8.out.size))
                go_wp2_with fail
                go_ret
                exact ⟨rfl, HB10.out⟩
            · have hprev : (endL G i).getD (ml - 1) 0 = (n : Int) := by rw [endL_get G (by omega), Nat.sub_add_cancel (by omega), HN1.out]
              obtain ⟨bE, oE, cE', heE, _, _, hblE, hcE'⟩ := HE8.out.cells (by rw [endL_length]; omega)
              simp at heE
              obtain ⟨rfl, -, rfl⟩ := heE
              have hcp := hcE' (ml - 1) (by rw [endL_length]; omega)
              rw [hprev] at hcp
              obtain ⟨p, hp⟩ : ∃ p, ml - 1 = p := ⟨_, rfl⟩
              rw [hp] at hcp
              have hp1 : (ml : Int) - 1 = (p : Int) := by omega
              have hpi : (p : Int) < (i : Int) := by omega
              have hpos : (0 : Int) < (ml : Int) := by omega
              have hnn : ((n : Int) != (n : Int)) = false := bne_f rfl
              rcases hend with ⟨z, h1, h2, h3⟩ | h1
              · have hc := hcE' ml (by rw [endL_length]; omega)
                rw [endL_get G h1, h2] at hc
                have h3d : decide ((z : Int) ≤ (C : Int)) = false := by simp; omega
                have h1I : (ml : Int) < (i : Int) := by omega
                clear hcE' h2
                go_wp2_with fail
                refine HEQ.out.mono ?_
                rintro e w10 ⟨rfl, hb10⟩
                have HB10 := Lib.hid (HB8.out.trans (hb10.out.mono HB8.out.size))
                go_wp2_with fail
                go_ret
                exact ⟨rfl, HB10.out⟩
              · have hii : ¬ (ml : Int) < (i : Int) := by omega
                clear h1
                go_wp2_with fail
                refine HEQ.out.mono ?_
                rintro e w10 ⟨rfl, hb10⟩
                have HB10 := Lib.hid (HB8.out.trans (hb10.out.mono HB8.out.size))
                go_wp2_with fail
                go_ret
                exact ⟨rfl, HB10.out⟩
      obtain ⟨C, rfl⟩ : ∃ C : Nat, cut = (C : Int) := ⟨cut.toNat, by omega⟩
      have hCN : C ≤ N := by omega
      obtain ⟨sp6, cp6, hsl, HF6⟩ := HUP.out C hCN
      have hsc := rscan_any _ ((encs G).take C) wr HTR.out HF6.out.1 (by rw [List.length_take, HTT.out]; omega)
      unfold RScanPost at hsc
      obtain ⟨MM, hMM⟩ : ∃ MM, (scanR ((encs G).take C)).1 = MM := ⟨_, rfl⟩
      obtain ⟨n, hn⟩ : ∃ n, (scanR ((encs G).take C)).2.1 = n := ⟨_, rfl⟩
      obtain ⟨ok, hok⟩ : ∃ ok, (scanR ((encs G).take C)).2.2 = ok := ⟨_, rfl⟩
      rw [hMM, hn, hok] at hsc
      have HSR : Hid (scanR ((encs G).take C) = (MM, n, ok)) := Lib.hid (by rw [← hMM, ← hn, ← hok])
      obtain ⟨ml, hml⟩ : ∃ ml, MM.length = ml := ⟨_, rfl⟩
      rw [hml] at hsc
      have HML := Lib.hid hml
      have HSC := Lib.hid hsc
      clear hsc hMM hn hok hml
      go_wp2_with fail
      refine HSC.out.mono ?_
      rintro e w8 ⟨sp8, cap8, rfl, ho8, hb8⟩
      have HO8 := Lib.hid ho8.out.at
      have HE8 := Lib.hid (isInts_own (endL_length G i).symm (own_below HO.out hb8.out))
      have HG8 := Lib.hid (HGR.out.below (HS.out.2.trans (hb8.out.mono HS.out.2.size)))
      have HB8 := Lib.hid (HBR.out.trans (hb8.out.mono HBR.out.size))
      clear HSC ho8 hb8 HO HS HIS HTR HBR HUP HF6 hsl HGR
      go_wp2_with fail
      go_loop [14] (fun y => ∃ k : Nat, k ≤ i ∧ y = .int .i64 k ∧ (encs (G.take k)).length ≤ C) (fun y => i - (intOf y).toNat)
      case atStart => exact ⟨0, by omega, rfl, by simp [encs]⟩
      case round =>
        obtain ⟨k, hk, rfl, hkC⟩ := hrel
        have HKC := Lib.hid hkC
        have hend : (∃ z : Nat, k < i ∧ (encs (G.take (k + 1))).length = z ∧ z ≤ C) ∨ (∃ z : Nat, k < i ∧ (encs (G.take (k + 1))).length = z ∧ C < z) ∨ k = i := by
          by_cases h1 : k < i
          · by_cases h2 : (encs (G.take (k + 1))).length ≤ C
            · exact .inl ⟨_, h1, rfl, h2⟩
            · exact .inr (.inl ⟨_, h1, rfl, by omega⟩)
          · exact .inr (.inr (by omega))
        clear hkC
        rcases hend with ⟨z, h1, h2, h3⟩ | hend
        · obtain ⟨bE, oE, cE', heE, _, _, hblE, hcE'⟩ := HE8.out.cells (by rw [endL_length]; omega)
          simp at heE
          obtain ⟨rfl, -, rfl⟩ := heE
          have hc := hcE' k (by rw [endL_length]; exact h1)
          rw [endL_get G h1, h2] at hc
          have h1I : (k : Int) < (i : Int) := by omega
          have h3d : decide ((z : Int) ≤ (C : Int)) = true := by simp; omega
          have H2 := Lib.hid h2
          clear hcE' h2
          go_wp2_with fail
          go_round
          case rel => exact ⟨k + 1, h1, by go_num, by rw [H2.out]; exact h3⟩
          case measure => simp [intOf]; omega
        · have hsr : scanR ((encs G).take C) = (G.take k, (encs (G.take k)).length, true) := by
            refine many_scan HC.out HKC.out ?_
            rcases hend with ⟨z, h1, h2, h3⟩ | h1
            · exact .inr ⟨by rw [HGL.out]; exact h1, by omega⟩
            · exact .inl ⟨by rw [HGL.out]; exact h1, by rw [HTT.out]; exact hCN⟩
          rw [HSR.out] at hsr
          simp only [Prod.mk.injEq] at hsr
          obtain ⟨hm1, hm2, hm3⟩ := hsr
          subst hm3
          have hmk : ml = k := by rw [← HML.out, hm1, List.length_take, HGL.out]; omega
          subst hmk
          have HM1 := Lib.hid hm1
          have hn1 : n = (encs (G.take ml)).length := hm2
          obtain ⟨sp9, cp9, hslR, HR9⟩ := HG8.out.upto ml (by rw [HGL.out]; exact hk)
          have HO9 : Hid (RecsAt w8 (.slice sp8 ml cap8) (G.take ml)) := Lib.hid (by rw [← HM1.out]; exact HO8.out)
          have heq := eqAll_same _ _ (G.take ml) w8 HO9.out HR9.out
          have HN1 := Lib.hid hn1
          have hmm : ((ml : Int) != (ml : Int)) = false := bne_f rfl
          have HEQ := Lib.hid heq
          clear hm1 hm2 hn1 heq
          by_cases hm0 : ml = 0
          · subst hm0
            have hslR : ∀ W, (sliceRc (.slice sp2 i cap2) none (some (.int .i64 0)) none).run Tryd.prog W = .ok (.slice sp9 0 cp9) W := hslR
            rcases hend with ⟨z, h1, h2, h3⟩ | h1
            · obtain ⟨bE, oE, cE', heE, _, _, hblE, hcE'⟩ := HE8.out.cells (by rw [endL_length]; omega)
              simp at heE
              obtain ⟨rfl, -, rfl⟩ := heE
              have hc := hcE' 0 (by rw [endL_length]; omega)
              rw [endL_get G (by omega), h2, Nat.add_zero] at hc
              have h3d : decide ((z : Int) ≤ (C : Int)) = false := by simp; omega
              have h1I : (0 : Int) < (i : Int) := by omega
              clear hcE' h2
              go_wp2_with fail
              refine HEQ.out.mono ?_
              rintro e w10 ⟨rfl, hb10⟩
              have HB10 := Lib.hid (HB8.out.trans (hb10.out.mono HB8.out.size))
              go_wp2_with fail
              go_ret
              exact ⟨rfl, HB10.out⟩
            · subst h1
              go_wp2_with fail
              refine HEQ.out.mono ?_
              rintro e w10 ⟨rfl, hb10⟩
              have HB10 := Lib.hid (HB8.out.trans (hb10.out.mono HB8.out.size))
              go_wp2_with fail
              go_ret
              exact ⟨rfl, HB10.out⟩
          · have hprev : (endL G i).getD (ml - 1) 0 = (n : Int) := by rw [endL_get G (by omega), Nat.sub_add_cancel (by omega), HN1.out]
            obtain ⟨bE, oE, cE', heE, _, _, hblE, hcE'⟩ := HE8.out.cells (by rw [endL_length]; omega)
            simp at heE
            obtain ⟨rfl, -, rfl⟩ := heE
            have hcp := hcE' (ml - 1) (by rw [endL_length]; omega)
            rw [hprev] at hcp
            obtain ⟨p, hp⟩ : ∃ p, ml - 1 = p := ⟨_, rfl⟩
            rw [hp] at hcp
            have hp1 : (ml : Int) - 1 = (p : Int) := by omega
            have hpi : (p : Int) < (i : Int) := by omega
            have hpos : (0 : Int) < (ml : Int) := by omega
            have hnn : ((n : Int) != (n : Int)) = false := bne_f rfl
            rcases hend with ⟨z, h1, h2, h3⟩ | h1
            · have hc := hcE' ml (by rw [endL_length]; omega)
              rw [endL_get G h1, h2] at hc
              have h3d : decide ((z : Int) ≤ (C : Int)) = false := by simp; omega
              have h1I : (ml : Int) < (i : Int) := by omega
              clear hcE' h2
              go_wp2_with fail
              refine HEQ.out.mono ?_
              rintro e w10 ⟨rfl, hb10⟩
              have HB10 := Lib.hid (HB8.out.trans (hb10.out.mono HB8.out.size))
              go_wp2_with fail
              go_ret
              exact ⟨rfl, HB10.out⟩
            · have hii : ¬ (ml : Int) < (i : Int) := by omega
              clear h1
              go_wp2_with fail
              refine HEQ.out.mono ?_
              rintro e w10 ⟨rfl, hb10⟩
              have HB10 := Lib.hid (HB8.out.trans (hb10.out.mono HB8.out.size))
              go_wp2_with fail
              go_ret
              exact ⟨rfl, HB10.out⟩
end Go.Proofs.YtcgleephodfelaaDoor.S14

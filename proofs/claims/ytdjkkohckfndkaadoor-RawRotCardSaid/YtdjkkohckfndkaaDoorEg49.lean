/- Texts put together: RawS, RawX. -/
import Derived.Test.YtdjkkohckfndkaaDoorEg34
import Derived.Test.YtdjkkohckfndkaaDoorEg35
import Derived.Test.YtdjkkohckfndkaaDoorEg48
set_option linter.unusedSimpArgs false
set_option linter.unusedVariables false
set_option maxRecDepth 100000
namespace Go.Proofs.YtdjkkohckfndkaaDoor.S15
open Go.RowKit S13 S13.Dk S14 S3 S2.Pl S3.Pl
theorem take_snoc {G : List RT} {i : Nat} (h : i < G.length) : G.take (i + 1) = G.take i ++ [G.getD i zR] := by
  rw [List.take_add_one, List.getElem?_eq_getElem h]
  simp [List.getD, h]
theorem InS.rot {w0 w w2 : World} {p q : Nat} {S S' : St} {n : ByteArray} {E : List Int} {c : Nat} {v : Value} {k : Nat} {xs : List Value} (h : InS w0 p S q n E w) (hb : Below w.heap.size w w2) (ho : w2.ownsRow w.heap.size 5 1 v k xs) (hn : n.size ≤ maxLen) (sector : Int) (x : Nat) (hx : x < 256) (hsw : (Lit.int .i64 sector).wf = true) (hr : rot S n.data.toList sector x = (S', c)) :
    Calls Tryd.prog 13 #[pP p, .string n, .int .i64 sector, .int .u8 x] w2 fun e w' => e = .returned (.int .i64 (c : Nat)) ∧ InS w0 p S' q n E w' ∧ w'.ownsRow w.heap.size 5 1 v k xs := by
  obtain ⟨ev, hz, hs⟩ := h
  have hz2 : InZ w0 p S (fun b => zS q ev b ∨ v.ownBlock = some b) w2 := hz.more hb fun b hb' => hb'.imp id fun h' => World.ownsRow.lt ho b h'
  refine (rot_z n sector x hz2 hn hx hsw).mono ?_
  intro e w' hp
  rw [hr] at hp
  obtain ⟨he, hz', hh⟩ := hp
  exact ⟨he, ⟨ev, hz'.fewer fun b hb => .inl hb, (hs.below hb).keep fun b hb => hh b (.inl hb)⟩, own_heap ho fun b hb => hh b (.inr hb)⟩
theorem rotB_length (X : List Nat) (k x : Nat) : (rotB X k x).length = X.length := by simp [rotB]
attribute [local go_sem ↓] loadR_eq storeR_eq buildR_eq sliceU8_eq
attribute [local go_sem] run_buildR run_buildR4
set_option maxHeartbeats 64000000 in
theorem rawRot_walk (a : Option Addr) (len cap : Nat) (sector : Int) (x : Nat) (w : World) (hT : Tab w) (h0 : IsRecs recF w a len) (hsw : (Lit.int .i64 sector).wf = true) (hx : x < 256) :
    Calls Tryd.prog 3 #[.slice a len cap, .int .i64 sector, .int .u8 x] w fun e w' => e = .returned (.bool true) ∧ Below w.heap.size w w' := by
  have HT : Hid (∀ W, Below w.heap.size w W → Tab W) := Lib.hid fun W hW => hT.below hW
  have HBEG := Lib.hid (begun_any w hT)
  have HR := Lib.hid h0
  have HSW := Lib.hid hsw
  have HXX := Lib.hid hx
  clear h0 hT hsw hx
  go_enter Tryd.func3, Tryd.ntmps3
  go_wp2_with fail
  refine HBEG.out.mono ?_
  rintro e w1 ⟨rfl, hb1⟩
  have HG := Lib.hid (good_any a len cap 10 w1 (recs_below HR.out hb1) (by decide))
  have HB1 := Lib.hid hb1
  clear hb1 HBEG HR
  go_wp2_with fail
  refine HG.out.mono ?_
  rintro e w2 ⟨G, sp2, cap2, rfl, hg, hG10⟩
  have HGR := Lib.hid hg.out.2.1.at
  have HB2 := Lib.hid (HB1.out.trans (hg.out.2.2.mono HB1.out.size))
  have HC : Hid (∀ r ∈ G, chk r = 0) := Lib.hid hg.out.1
  obtain ⟨gl, hgl⟩ : ∃ gl, G.length = gl := ⟨_, rfl⟩
  have HGL := Lib.hid hgl
  have hET := encs_len HC.out
  rw [hgl] at hG10 hET HGR ⊢
  have HET : Hid ((encs G).length ≤ 41430) := Lib.hid (by omega)
  have hnew := new_n 1048576 w2
  clear hg HG HB1 hgl hET
  go_wp2_with fail
  refine hnew.mono ?_
  rintro e w3 ⟨p, rfl, hI3⟩
  have hcr := create_held (d := digS 3) hI3 fmt3 (by decide) (by decide) (by decide) (by decide) (new_create 1048576 _ (by rw [nm3]; decide))
  rw [show clampN 1048576 = 1048576 by decide] at hcr
  obtain ⟨nmB, hnmB⟩ : ∃ nmB, digS 3 ++ rawE = nmB := ⟨_, rfl⟩
  have HNL : Hid (nmB = ⟨#[51, 46, 114, 97, 119]⟩) := Lib.hid (by rw [← hnmB]; exact nm3)
  rw [hnmB] at hcr
  have HNB := Lib.hid hnmB
  have HNZ : Hid (nmB.size ≤ maxLen) := Lib.hid (by rw [← hnmB]; exact raw_size (by decide))
  obtain ⟨nm, hnm⟩ : ∃ nm, nmB.data.toList = nm := ⟨_, rfl⟩
  rw [hnm, st1_is] at hcr
  have HNM := Lib.hid hnm
  clear hnew hI3 hnmB hnm
  go_wp2_with fail
  refine hcr.mono ?_
  rintro e w4 ⟨q, rfl, hI4⟩
  have HI4 := Lib.hid hI4
  clear hcr hI4
  go_wp2_with fail
  go_loopw [11] (fun v wr => ∃ i : Nat, i ≤ gl ∧ v = .int .i64 i ∧ Hid (InS w2 p (stQ 1048576 nm [] (encs (G.take i)) 0 (1 + i) [] [([], nm, some 0)]) q nmB (endL (G.take i) (G.take i).length) wr)) (fun v _ => gl - (intOf v).toNat)
  case atStart => exact ⟨0, by omega, rfl, HI4⟩
  case round =>
    obtain ⟨i, hi, rfl, HIN⟩ := hrel
    by_cases hlt : i < gl
    · have hltG : i < G.length := by rw [HGL.out]; exact hlt
      obtain ⟨b, off, rfl, hld⟩ := HGR.out.load (W := wr) hltG
      obtain ⟨r, hr⟩ : ∃ r, G.getD i zR = r := ⟨_, rfl⟩
      rw [hr] at hld
      have hld := hld wr HIN.out.bel
      have hch : chk r = 0 := by rw [← hr]; exact HC.out _ (by simp [List.getD, hltG])
      have hGt : ∀ r ∈ G.take i, chk r = 0 := fun r hr => HC.out r (List.mem_of_mem_take hr)
      have hll := encs_len hGt
      have htl : (G.take i).length = i := by rw [List.length_take]; omega
      have hl2 := enc_len r
      have hap := append_held r HIN.out (HT.out wr (HB2.out.trans (HIN.out.bel.mono HB2.out.size))) hch HNZ.out (by show 1 + i ≤ _; omega) hGt (by rw [htl]; omega) (by rw [HNM.out, stQ_app, if_neg (by omega)])
      have htk := take_snoc hltG
      rw [hr] at htk
      rw [← htk, htl] at hap
      have hen : encs (G.take i) ++ enc r = encs (G.take (i + 1)) := by rw [htk, encs_snoc' hch]
      rw [hen] at hap
      clear hll htl hl2 hch hGt htk hen hr hltG
      go_wp2_with fail
      refine hap.mono ?_
      rintro e w5 ⟨rfl, hI5⟩
      have HI5 : Hid (InS w2 p (stQ 1048576 nm [] (encs (G.take (i + 1))) 0 (1 + (i + 1)) [] [([], nm, some 0)]) q nmB (endL (G.take (i + 1)) (G.take (i + 1)).length) w5) := Lib.hid hI5
      clear hap hI5 hld
      go_wp2_with fail
      go_roundw
      case rel => exact ⟨i + 1, by omega, by go_num, HI5⟩
      case measure => simp [intOf]; omega
    · have hiN : gl = i := by omega
      subst hiN
      clear hlt
      have hGt : G.take gl = G := List.take_of_length_le (by rw [HGL.out]; omega)
      have HI5 : Hid (InS w2 p (stQ 1048576 nm [] (encs G) 0 (1 + gl) [] [([], nm, some 0)]) q nmB (endL G G.length) wr) := Lib.hid (by have := HIN.out; rw [hGt] at this; exact this)
      have hrd := read_h nmB HI5.out.toH HNZ.out
      rw [HNM.out, stQ_read] at hrd
      rw [HNL.out] at hrd
      clear hGt HIN
      go_wp2_with fail
      refine hrd.mono ?_
      rintro e w6 ⟨hb6, sp6, cp6, he6, ho6, hx6⟩
      have he6 : e = .returned (.tuple #[.slice sp6 (encs G).length cp6, .int .i64 0]) := he6
      subst he6
      have HIB6 : Hid (IsBytes w6 (.slice sp6 (encs G).length cp6) (encs G)) := Lib.hid (isBytes_own hx6.out ho6.out)
      have HI6 := Lib.hid (HI5.out.below hb6.out)
      obtain ⟨M, hM⟩ : ∃ M, (encs G).length = M := ⟨_, rfl⟩
      have hMb : M ≤ 41430 := by rw [← hM]; exact HET.out
      rw [hM] at HIB6 ⊢
      have HM := Lib.hid hM
      have hon : w6.ownsRow w6.heap.size 5 1 (.slice none 0 0) 0 [] := World.ownsRow_nil _ _ _ _
      clear hrd hb6 ho6 hx6 hM
      go_wp2_with (at_builtin; refine wpList_append_bytes rfl _ _ rfl w6.heap.size (.slice none 0 0) 0 [] rfl hon (.slice sp6 M cp6) (encs G) rfl HIB6.out (by have := HM.out; omega) (Nat.le_refl _) ?_; intro v7 w7 ho7 hg7)
      have hb7 : Below w6.heap.size w6 w7 := (Below.refl _ _).grown hg7 (Nat.le_refl _) (by intro j hj; cases hj)
      have HO7 : Hid (w7.ownsRow w6.heap.size 5 1 v7 (encs G).length (u8s (encs G))) := Lib.hid (by simpa using ho7)
      have HB7 := Lib.hid hb7
      obtain ⟨sp7, cp7, hv7, _, _⟩ := ownsRow_slice HO7.out
      rw [HM.out] at hv7
      subst hv7
      obtain ⟨S8, hS8⟩ : ∃ S8, (rot (stQ 1048576 nm [] (encs G) 0 (1 + gl) [] [([], nm, some 0)]) nm sector x).1 = S8 := ⟨_, rfl⟩
      obtain ⟨c8, hc8⟩ : ∃ c8, (rot (stQ 1048576 nm [] (encs G) 0 (1 + gl) [] [([], nm, some 0)]) nm sector x).2 = c8 := ⟨_, rfl⟩
      have hr8 : rot (stQ 1048576 nm [] (encs G) 0 (1 + gl) [] [([], nm, some 0)]) nm sector x = (S8, c8) := by rw [← hS8, ← hc8]
      have hro := InS.rot (S' := S8) (c := c8) HI6.out HB7.out HO7.out HNZ.out sector x HXX.out HSW.out (by rw [HNM.out]; exact hr8)
      rw [HNL.out] at hro
      rw [stQ_rot] at hr8
      have HR8 := Lib.hid hr8
      clear ho7 hg7 hon hb7 hS8 hc8 hr8
      go_wp2_with fail
      refine hro.mono ?_
      rintro e w8 ⟨rfl, hI8, hO8⟩
      have HI8 : Hid (InS w2 p S8 q nmB (endL G G.length) w8) := Lib.hid (by rw [HNL.out]; exact hI8)
      have HO8 := Lib.hid hO8
      have HB8 := Lib.hid (HB2.out.trans (HI8.out.bel.mono HB2.out.size))
      clear hro hI8 hO8
      by_cases hbad : sector < 0 ∨ ((encs G).length : Int) ≤ sector * 64
      · have hr9 := HR8.out
        rw [if_pos hbad] at hr9
        simp only [Prod.mk.injEq] at hr9
        obtain ⟨-, hr9⟩ := hr9
        obtain ⟨q1, q2, q3, q4⟩ := code_ne (c := c8) (by omega)
        clear hbad hr9 HR8
        go_wp2_with fail
        go_ret
        exact ⟨rfl, HB8.out⟩
      · have hr9 := HR8.out
        rw [if_neg hbad] at hr9
        simp only [Prod.mk.injEq] at hr9
        obtain ⟨hr9, hr10⟩ := hr9
        subst hr10
        subst hr9
        clear hbad HR8
        obtain ⟨B, hB⟩ : ∃ B, rotB (encs G) sector.toNat x = B := ⟨_, rfl⟩
        rw [hB] at HI8
        have hBl : B.length = M := by rw [← hB, rotB_length, HM.out]
        have HBL := Lib.hid hBl
        have hrd := read_h nmB HI8.out.toH HNZ.out
        rw [HNM.out, stQ_read] at hrd
        rw [HNL.out] at hrd
        clear hB hBl
        go_wp2_with fail
        refine hrd.mono ?_
        rintro e w9 ⟨hb9, sp9, cp9, he9, ho9, hx9⟩
        have he9 : e = .returned (.tuple #[.slice sp9 B.length cp9, .int .i64 0]) := he9
        subst he9
        have HIB9 : Hid (IsBytes w9 (.slice sp9 B.length cp9) B) := Lib.hid (isBytes_own hx9.out ho9.out)
        have HX9 := hx9
        have HI9 := Lib.hid (HI8.out.below hb9.out)
        have HA9 : Hid (IsBytes w9 (.slice sp7 M cp7) (encs G)) := Lib.hid (by
          have := (own_below HO8.out hb9.out)
          have h2 := isBytes_own (encs_lt HC.out) (sp := sp7) (cap := cp7) (by rw [HM.out] at this ⊢; exact this)
          rw [HM.out] at h2
          exact h2)
        have hft := fits_any (.slice sp7 M cp7) (.slice sp9 B.length cp9) (encs G) B w9 HA9.out HIB9.out (by rw [HM.out]; omega) (by rw [HBL.out]; omega)
        rw [pscan_encs HC.out] at hft
        obtain ⟨fb, hfb⟩ : ∃ fb, fitL (encs G) B 0 (G.map body) = fb := ⟨_, rfl⟩
        rw [hfb] at hft
        have HFB := Lib.hid hfb
        rw [HBL.out] at hft ⊢
        clear hrd hb9 ho9 hx9 hfb
        go_wp2_with fail
        refine hft.mono ?_
        rintro e w10 ⟨rfl, hb10⟩
        have HI10 := Lib.hid (HI9.out.below hb10)
        have HB10 := Lib.hid (HB2.out.trans (HI10.out.bel.mono HB2.out.size))
        clear hft hb10
        cases fb with
        | true =>
          go_wp2_with fail
          go_ret
          exact ⟨rfl, HB10.out⟩
        | false =>
          go_wp2_with fail
          go_loopw [18] (fun v wr => ∃ i : Nat, i ≤ gl ∧ v = .int .i64 i ∧ Hid (Below w10.heap.size w10 wr)) (fun v _ => gl - (intOf v).toNat)
          case atStart => exact ⟨0, by omega, rfl, Lib.hid (Below.refl _ _)⟩
          case round =>
            obtain ⟨i, hi, rfl, HBR⟩ := hrel
            have HIR := Lib.hid (HI10.out.below HBR.out)
            by_cases hlt : i < gl
            · have hltG : i < G.length := by rw [HGL.out]; exact hlt
              have hg := get_at HIR.out (HT.out _ (HB2.out.trans (HIR.out.bel.mono HB2.out.size))) i (encs (G.take i)).length (encs (G.take (i + 1))).length (by rw [endL_length]; exact hltG) (endL_get G hltG) (by
                by_cases h0 : i = 0
                · subst h0; simp [encs]
                · rw [if_neg h0, endL_get G (by omega), show i - 1 + 1 = i by omega]) (by rw [encs_step HC.out hltG, List.length_append]; omega) HNZ.out
              rw [HNM.out, stQ_read] at hg
              have hcu := cut_rot HC.out HX9.out (by rw [HBL.out, HM.out]) HFB.out hltG
              obtain ⟨b, off, rfl, hld⟩ := HGR.out.load (W := wr) hltG
              obtain ⟨r, hr⟩ : ∃ r, G.getD i zR = r := ⟨_, rfl⟩
              rw [hr] at hld hcu
              have HLD : Hid (∀ W, From w2 W → (loadR (.pointer (some ⟨b, off + i * 4, none⟩))).run Tryd.prog W = .ok (.agg #[.int .i64 r.kind, .int .i64 r.seq, .string r.key, .string r.val]) W) := Lib.hid hld
              clear hld hltG hr
              rcases hcu with hcu | hcu
              · rw [hcu] at hg
                unfold GetPost errV at hg
                clear hcu
                go_wp2_with fail
                refine hg.mono ?_
                rintro e w11 ⟨rfl, hb11⟩
                obtain ⟨w12, hst12, HR12, HG12⟩ := lay_rec r w11
                have hb12 : Below wr.heap.size wr w12 := hb11.out.trans (HG12.out.mono hb11.out.size)
                have HB12 := Lib.hid (HBR.out.trans (hb12.mono HBR.out.size))
                have HI12 := Lib.hid (HIR.out.below hb12)
                have HL1 : Hid (∀ W, From w12 W → (loadR (.pointer (some ⟨w11.heap.size, 0, none⟩))).run Tryd.prog W = .ok (.agg #[.int .i64 r.kind, .int .i64 r.seq, .string r.key, .string r.val]) W) := Lib.hid fun W hW => run_loadR_blk (HR12.out.below hW HR12.out.lt)
                have HL2 : Hid (∀ W, From w12 W → (loadR (.pointer (some ⟨b, off + i * 4, none⟩))).run Tryd.prog W = .ok (.agg #[.int .i64 r.kind, .int .i64 r.seq, .string r.key, .string r.val]) W) := Lib.hid fun W hW => HLD.out W (From.trans HI12.out.bel hW)
                clear hg hb11 hb12
                go_wp2_with fail
                have hHeld : From w12 w12.drew := (Below.refl _ _).drew
                refine wp_region_noPanic ?_
                refine wpAnyH_start (n := 19) (l := #[false, false, false, false, false, false, false, false, false, false, false, false, false, false, false, false, false, false, false]) (S := From w12) (by kernel_rfl) (hHeld) (by kernel_rfl) (by kernel_rfl) ?_
                refine wpAnyH_take (i := 0) (oi := _) (v := ?_) rfl (by kernel_rfl) (by kernel_rfl) (by kernel_rfl) (fun _ _ _ h => h) (Or.inl ⟨by rfl, ?_⟩) (by assumption) ?_
                rotate_left
                · intro wq hSw; go_simp; try with_reducible rfl
                simp only [Act.put, List.setIfInBounds_toArray, List.set_cons_zero, List.set_cons_succ, List.getElem_toArray, List.getElem_cons_zero, List.getElem_cons_succ]
                refine wpAnyH_take (i := 1) (oi := _) (v := ?_) rfl (by kernel_rfl) (by kernel_rfl) (by kernel_rfl) (fun _ _ _ h => h) (Or.inl ⟨by rfl, ?_⟩) (by assumption) ?_
                rotate_left
                · intro wq hSw; go_simp; try with_reducible rfl
                simp only [Act.put, List.setIfInBounds_toArray, List.set_cons_zero, List.set_cons_succ, List.getElem_toArray, List.getElem_cons_zero, List.getElem_cons_succ]
                refine wpAnyH_take (i := 2) (oi := _) (v := ?_) rfl (by kernel_rfl) (by kernel_rfl) (by kernel_rfl) (fun _ _ _ h => h) (Or.inl ⟨by rfl, ?_⟩) (by assumption) ?_
                rotate_left
                · intro wq hSw; go_simp; try with_reducible rfl
                simp only [Act.put, List.setIfInBounds_toArray, List.set_cons_zero, List.set_cons_succ, List.getElem_toArray, List.getElem_cons_zero, List.getElem_cons_succ]
                refine wpAnyH_take (i := 3) (oi := _) (v := ?_) rfl (by kernel_rfl) (by kernel_rfl) (by kernel_rfl) (fun _ _ _ h => h) (Or.inl ⟨by rfl, ?_⟩) (by assumption) ?_
                rotate_left
                · intro wq hSw; have d0 := HL1.out wq hSw; go_simp; try with_reducible rfl
                simp only [Act.put, List.setIfInBounds_toArray, List.set_cons_zero, List.set_cons_succ, List.getElem_toArray, List.getElem_cons_zero, List.getElem_cons_succ]
                refine wpAnyH_take (i := 4) (oi := _) (v := ?_) rfl (by kernel_rfl) (by kernel_rfl) (by kernel_rfl) (fun _ _ _ h => h) (Or.inl ⟨by rfl, ?_⟩) (by assumption) ?_
                rotate_left
                · intro wq hSw; go_simp; try with_reducible rfl
                simp only [Act.put, List.setIfInBounds_toArray, List.set_cons_zero, List.set_cons_succ, List.getElem_toArray, List.getElem_cons_zero, List.getElem_cons_succ]
                refine wpAnyH_take (i := 5) (oi := _) (v := ?_) rfl (by kernel_rfl) (by kernel_rfl) (by kernel_rfl) (fun _ _ _ h => h) (Or.inl ⟨by rfl, ?_⟩) (by assumption) ?_
                rotate_left
                · intro wq hSw; go_simp; try with_reducible rfl
                simp only [Act.put, List.setIfInBounds_toArray, List.set_cons_zero, List.set_cons_succ, List.getElem_toArray, List.getElem_cons_zero, List.getElem_cons_succ]
                refine wpAnyH_take (i := 6) (oi := _) (v := ?_) rfl (by kernel_rfl) (by kernel_rfl) (by kernel_rfl) (fun _ _ _ h => h) (Or.inl ⟨by rfl, ?_⟩) (by assumption) ?_
                rotate_left
                · intro wq hSw; go_simp; try with_reducible rfl
                simp only [Act.put, List.setIfInBounds_toArray, List.set_cons_zero, List.set_cons_succ, List.getElem_toArray, List.getElem_cons_zero, List.getElem_cons_succ]
                refine wpAnyH_take (i := 7) (oi := _) (v := ?_) rfl (by kernel_rfl) (by kernel_rfl) (by kernel_rfl) (fun _ _ _ h => h) (Or.inl ⟨by rfl, ?_⟩) (by assumption) ?_
                rotate_left
                · intro wq hSw; have d0 := HL2.out wq hSw; go_simp; try with_reducible rfl
                simp only [Act.put, List.setIfInBounds_toArray, List.set_cons_zero, List.set_cons_succ, List.getElem_toArray, List.getElem_cons_zero, List.getElem_cons_succ]
                refine wpAnyH_ready (rs := [8]) (by kernel_rfl) (by simp) ?_
                refine AllReadyH.cons (o := _) rfl (fun K hK => ?_) AllReadyH.nil
                simp only [List.getElem_toArray, List.getElem_cons_zero, List.getElem_cons_succ]
                go_simp
                refine (eq_same r _).mono ?_; rintro e w13 ⟨rfl, hb13⟩; have hE13 := From.trans hHeld hb13.out
                refine hK.out _ _ (hE13) (fun _ => ?_)
                clear hK K
                have HE13 := Lib.hid hE13
                refine wpAnyH_mono (S' := From w13) (fun w' h => From.trans HE13.out h) ?_
                have hHeld := From.refl w13
                clear hb13 hE13
                simp only [Act.put, List.setIfInBounds_toArray, List.set_cons_zero, List.set_cons_succ, List.getElem_toArray, List.getElem_cons_zero, List.getElem_cons_succ]
                refine wpAnyH_take (i := 9) (oi := _) (v := ?_) rfl (by kernel_rfl) (by kernel_rfl) (by kernel_rfl) (fun _ _ _ h => h) (Or.inl ⟨by rfl, ?_⟩) (by assumption) ?_
                rotate_left
                · intro wq hSw; go_simp; try with_reducible rfl
                simp only [Act.put, List.setIfInBounds_toArray, List.set_cons_zero, List.set_cons_succ, List.getElem_toArray, List.getElem_cons_zero, List.getElem_cons_succ]
                refine wpAnyH_take (i := 10) (oi := _) (v := ?_) rfl (by kernel_rfl) (by kernel_rfl) (by kernel_rfl) (fun _ _ _ h => h) (Or.inl ⟨by rfl, ?_⟩) (by assumption) ?_
                rotate_left
                · intro wq hSw; go_simp; try with_reducible rfl
                simp only [Act.put, List.setIfInBounds_toArray, List.set_cons_zero, List.set_cons_succ, List.getElem_toArray, List.getElem_cons_zero, List.getElem_cons_succ]
                refine wpAnyH_take (i := 11) (oi := _) (v := ?_) rfl (by kernel_rfl) (by kernel_rfl) (by kernel_rfl) (fun _ _ _ h => h) (Or.inl ⟨by rfl, ?_⟩) (by assumption) ?_
                rotate_left
                · intro wq hSw; go_simp; try with_reducible rfl
                simp only [Act.put, List.setIfInBounds_toArray, List.set_cons_zero, List.set_cons_succ, List.getElem_toArray, List.getElem_cons_zero, List.getElem_cons_succ]
                refine wpAnyH_take (i := 12) (oi := _) (v := ?_) rfl (by kernel_rfl) (by kernel_rfl) (by kernel_rfl) (fun _ _ _ h => h) (Or.inl ⟨by rfl, ?_⟩) (by assumption) ?_
                rotate_left
                · intro wq hSw; go_simp; try with_reducible rfl
                simp only [Act.put, List.setIfInBounds_toArray, List.set_cons_zero, List.set_cons_succ, List.getElem_toArray, List.getElem_cons_zero, List.getElem_cons_succ]
                refine wpAnyH_take (i := 13) (oi := _) (v := ?_) rfl (by kernel_rfl) (by kernel_rfl) (by kernel_rfl) (fun _ _ _ h => h) (Or.inl ⟨by rfl, ?_⟩) (by assumption) ?_
                rotate_left
                · intro wq hSw; go_simp; try with_reducible rfl
                simp only [Act.put, List.setIfInBounds_toArray, List.set_cons_zero, List.set_cons_succ, List.getElem_toArray, List.getElem_cons_zero, List.getElem_cons_succ]
                refine wpAnyH_take (i := 14) (oi := _) (v := ?_) rfl (by kernel_rfl) (by kernel_rfl) (by kernel_rfl) (fun _ _ _ h => h) (Or.inl ⟨by rfl, ?_⟩) (by assumption) ?_
                rotate_left
                · intro wq hSw; go_simp; try with_reducible rfl
                simp only [Act.put, List.setIfInBounds_toArray, List.set_cons_zero, List.set_cons_succ, List.getElem_toArray, List.getElem_cons_zero, List.getElem_cons_succ]
                refine wpAnyH_take (i := 15) (oi := _) (v := undef) rfl (by kernel_rfl) (by kernel_rfl) (by kernel_rfl) (fun _ _ _ h => h) (Or.inr ⟨by rfl, rfl⟩) (by assumption) ?_
                simp only [Act.put, List.setIfInBounds_toArray, List.set_cons_zero, List.set_cons_succ, List.getElem_toArray, List.getElem_cons_zero, List.getElem_cons_succ]
                refine wpAnyH_take (i := 16) (oi := _) (v := undef) rfl (by kernel_rfl) (by kernel_rfl) (by kernel_rfl) (fun _ _ _ h => h) (Or.inr ⟨by rfl, rfl⟩) (by assumption) ?_
                simp only [Act.put, List.setIfInBounds_toArray, List.set_cons_zero, List.set_cons_succ, List.getElem_toArray, List.getElem_cons_zero, List.getElem_cons_succ]
                refine wpAnyH_take (i := 17) (oi := _) (v := ?_) rfl (by kernel_rfl) (by kernel_rfl) (by kernel_rfl) (fun _ _ _ h => h) (Or.inl ⟨by rfl, ?_⟩) (by assumption) ?_
                rotate_left
                · intro wq hSw; go_simp; try with_reducible rfl
                simp only [Act.put, List.setIfInBounds_toArray, List.set_cons_zero, List.set_cons_succ, List.getElem_toArray, List.getElem_cons_zero, List.getElem_cons_succ]
                refine wpAnyH_take (i := 18) (oi := _) (v := ?_) rfl (by kernel_rfl) (by kernel_rfl) (by kernel_rfl) (fun _ _ _ h => h) (Or.inl ⟨by rfl, ?_⟩) (by assumption) ?_
                rotate_left
                · intro wq hSw; go_simp; try with_reducible rfl
                simp only [Act.put, List.setIfInBounds_toArray, List.set_cons_zero, List.set_cons_succ, List.getElem_toArray, List.getElem_cons_zero, List.getElem_cons_succ]
                refine wpAnyH_done (by kernel_rfl) ?_ _
                refine NoPanic.normal ?_
                have HB13 := Lib.hid (HB12.out.trans (Below.mono HE13.out HB12.out.size))
                clear hHeld hst12
                go_wp2_with fail
                go_roundw
                case rel => exact ⟨i + 1, by omega, by go_num, HB13⟩
                case measure => simp [intOf]; omega
              · rw [hcu] at hg
                unfold GetPost errV at hg
                simp only [zR] at hg
                clear hcu
                go_wp2_with fail
                refine hg.mono ?_
                rintro e w11 ⟨rfl, hb11⟩
                obtain ⟨w12, hst12, HR12, HG12⟩ := lay_rec zR w11
                simp only [zR] at hst12
                have hb12 : Below wr.heap.size wr w12 := hb11.out.trans (HG12.out.mono hb11.out.size)
                have HB12 := Lib.hid (HBR.out.trans (hb12.mono HBR.out.size))
                clear hg hb11 hb12
                go_wp2_with fail
                have hHeld : From w12 w12.drew := (Below.refl _ _).drew
                refine wp_region_noPanic ?_
                refine wpAnyH_start (n := 19) (l := #[false, false, false, false, false, false, false, false, false, false, false, false, false, false, false, false, false, false, false]) (S := From w12) (by kernel_rfl) (hHeld) (by kernel_rfl) (by kernel_rfl) ?_
                refine wpAnyH_take (i := 0) (oi := _) (v := ?_) rfl (by kernel_rfl) (by kernel_rfl) (by kernel_rfl) (fun _ _ _ h => h) (Or.inl ⟨by rfl, ?_⟩) (by assumption) ?_
                rotate_left
                · intro wq hSw; go_simp; try with_reducible rfl
                simp only [Act.put, List.setIfInBounds_toArray, List.set_cons_zero, List.set_cons_succ, List.getElem_toArray, List.getElem_cons_zero, List.getElem_cons_succ]
                refine wpAnyH_take (i := 1) (oi := _) (v := ?_) rfl (by kernel_rfl) (by kernel_rfl) (by kernel_rfl) (fun _ _ _ h => h) (Or.inl ⟨by rfl, ?_⟩) (by assumption) ?_
                rotate_left
                · intro wq hSw; go_simp; try with_reducible rfl
                simp only [Act.put, List.setIfInBounds_toArray, List.set_cons_zero, List.set_cons_succ, List.getElem_toArray, List.getElem_cons_zero, List.getElem_cons_succ]
                refine wpAnyH_take (i := 2) (oi := _) (v := ?_) rfl (by kernel_rfl) (by kernel_rfl) (by kernel_rfl) (fun _ _ _ h => h) (Or.inl ⟨by rfl, ?_⟩) (by assumption) ?_
                rotate_left
                · intro wq hSw; go_simp; try with_reducible rfl
                simp only [Act.put, List.setIfInBounds_toArray, List.set_cons_zero, List.set_cons_succ, List.getElem_toArray, List.getElem_cons_zero, List.getElem_cons_succ]
                refine wpAnyH_take (i := 3) (oi := _) (v := undef) rfl (by kernel_rfl) (by kernel_rfl) (by kernel_rfl) (fun _ _ _ h => h) (Or.inr ⟨by rfl, rfl⟩) (by assumption) ?_
                simp only [Act.put, List.setIfInBounds_toArray, List.set_cons_zero, List.set_cons_succ, List.getElem_toArray, List.getElem_cons_zero, List.getElem_cons_succ]
                refine wpAnyH_take (i := 4) (oi := _) (v := undef) rfl (by kernel_rfl) (by kernel_rfl) (by kernel_rfl) (fun _ _ _ h => h) (Or.inr ⟨by rfl, rfl⟩) (by assumption) ?_
                simp only [Act.put, List.setIfInBounds_toArray, List.set_cons_zero, List.set_cons_succ, List.getElem_toArray, List.getElem_cons_zero, List.getElem_cons_succ]
                refine wpAnyH_take (i := 5) (oi := _) (v := undef) rfl (by kernel_rfl) (by kernel_rfl) (by kernel_rfl) (fun _ _ _ h => h) (Or.inr ⟨by rfl, rfl⟩) (by assumption) ?_
                simp only [Act.put, List.setIfInBounds_toArray, List.set_cons_zero, List.set_cons_succ, List.getElem_toArray, List.getElem_cons_zero, List.getElem_cons_succ]
                refine wpAnyH_take (i := 6) (oi := _) (v := undef) rfl (by kernel_rfl) (by kernel_rfl) (by kernel_rfl) (fun _ _ _ h => h) (Or.inr ⟨by rfl, rfl⟩) (by assumption) ?_
                simp only [Act.put, List.setIfInBounds_toArray, List.set_cons_zero, List.set_cons_succ, List.getElem_toArray, List.getElem_cons_zero, List.getElem_cons_succ]
                refine wpAnyH_take (i := 7) (oi := _) (v := undef) rfl (by kernel_rfl) (by kernel_rfl) (by kernel_rfl) (fun _ _ _ h => h) (Or.inr ⟨by rfl, rfl⟩) (by assumption) ?_
                simp only [Act.put, List.setIfInBounds_toArray, List.set_cons_zero, List.set_cons_succ, List.getElem_toArray, List.getElem_cons_zero, List.getElem_cons_succ]
                refine wpAnyH_take (i := 8) (oi := _) (v := undef) rfl (by kernel_rfl) (by kernel_rfl) (by kernel_rfl) (fun _ _ _ h => h) (Or.inr ⟨by rfl, rfl⟩) (by assumption) ?_
                simp only [Act.put, List.setIfInBounds_toArray, List.set_cons_zero, List.set_cons_succ, List.getElem_toArray, List.getElem_cons_zero, List.getElem_cons_succ]
                refine wpAnyH_take (i := 9) (oi := _) (v := undef) rfl (by kernel_rfl) (by kernel_rfl) (by kernel_rfl) (fun _ _ _ h => h) (Or.inr ⟨by rfl, rfl⟩) (by assumption) ?_
                simp only [Act.put, List.setIfInBounds_toArray, List.set_cons_zero, List.set_cons_succ, List.getElem_toArray, List.getElem_cons_zero, List.getElem_cons_succ]
                refine wpAnyH_take (i := 10) (oi := _) (v := ?_) rfl (by kernel_rfl) (by kernel_rfl) (by kernel_rfl) (fun _ _ _ h => h) (Or.inl ⟨by rfl, ?_⟩) (by assumption) ?_
                rotate_left
                · intro wq hSw; go_simp; try with_reducible rfl
                simp only [Act.put, List.setIfInBounds_toArray, List.set_cons_zero, List.set_cons_succ, List.getElem_toArray, List.getElem_cons_zero, List.getElem_cons_succ]
                refine wpAnyH_take (i := 11) (oi := _) (v := ?_) rfl (by kernel_rfl) (by kernel_rfl) (by kernel_rfl) (fun _ _ _ h => h) (Or.inl ⟨by rfl, ?_⟩) (by assumption) ?_
                rotate_left
                · intro wq hSw; go_simp; try with_reducible rfl
                simp only [Act.put, List.setIfInBounds_toArray, List.set_cons_zero, List.set_cons_succ, List.getElem_toArray, List.getElem_cons_zero, List.getElem_cons_succ]
                refine wpAnyH_take (i := 12) (oi := _) (v := ?_) rfl (by kernel_rfl) (by kernel_rfl) (by kernel_rfl) (fun _ _ _ h => h) (Or.inl ⟨by rfl, ?_⟩) (by assumption) ?_
                rotate_left
                · intro wq hSw; go_simp; try with_reducible rfl
                simp only [Act.put, List.setIfInBounds_toArray, List.set_cons_zero, List.set_cons_succ, List.getElem_toArray, List.getElem_cons_zero, List.getElem_cons_succ]
                refine wpAnyH_take (i := 13) (oi := _) (v := ?_) rfl (by kernel_rfl) (by kernel_rfl) (by kernel_rfl) (fun _ _ _ h => h) (Or.inl ⟨by rfl, ?_⟩) (by assumption) ?_
                rotate_left
                · intro wq hSw; go_simp; try with_reducible rfl
                simp only [Act.put, List.setIfInBounds_toArray, List.set_cons_zero, List.set_cons_succ, List.getElem_toArray, List.getElem_cons_zero, List.getElem_cons_succ]
                refine wpAnyH_take (i := 14) (oi := _) (v := ?_) rfl (by kernel_rfl) (by kernel_rfl) (by kernel_rfl) (fun _ _ _ h => h) (Or.inl ⟨by rfl, ?_⟩) (by assumption) ?_
                rotate_left
                · intro wq hSw; go_simp; try with_reducible rfl
                simp only [Act.put, List.setIfInBounds_toArray, List.set_cons_zero, List.set_cons_succ, List.getElem_toArray, List.getElem_cons_zero, List.getElem_cons_succ]
                refine wpAnyH_take (i := 15) (oi := _) (v := ?_) rfl (by kernel_rfl) (by kernel_rfl) (by kernel_rfl) (fun _ _ _ h => h) (Or.inl ⟨by rfl, ?_⟩) (by assumption) ?_
                rotate_left
                · intro wq hSw; go_simp; try with_reducible rfl
                simp only [Act.put, List.setIfInBounds_toArray, List.set_cons_zero, List.set_cons_succ, List.getElem_toArray, List.getElem_cons_zero, List.getElem_cons_succ]
                refine wpAnyH_take (i := 16) (oi := _) (v := ?_) rfl (by kernel_rfl) (by kernel_rfl) (by kernel_rfl) (fun _ _ _ h => h) (Or.inl ⟨by rfl, ?_⟩) (by assumption) ?_
                rotate_left
                · intro wq hSw; go_simp; try with_reducible rfl
                simp only [Act.put, List.setIfInBounds_toArray, List.set_cons_zero, List.set_cons_succ, List.getElem_toArray, List.getElem_cons_zero, List.getElem_cons_succ]
                refine wpAnyH_take (i := 17) (oi := _) (v := ?_) rfl (by kernel_rfl) (by kernel_rfl) (by kernel_rfl) (fun _ _ _ h => h) (Or.inl ⟨by rfl, ?_⟩) (by assumption) ?_
                rotate_left
                · intro wq hSw; go_simp; try with_reducible rfl
                simp only [Act.put, List.setIfInBounds_toArray, List.set_cons_zero, List.set_cons_succ, List.getElem_toArray, List.getElem_cons_zero, List.getElem_cons_succ]
                refine wpAnyH_take (i := 18) (oi := _) (v := ?_) rfl (by kernel_rfl) (by kernel_rfl) (by kernel_rfl) (fun _ _ _ h => h) (Or.inl ⟨by rfl, ?_⟩) (by assumption) ?_
                rotate_left
                · intro wq hSw; go_simp; try with_reducible rfl
                simp only [Act.put, List.setIfInBounds_toArray, List.set_cons_zero, List.set_cons_succ, List.getElem_toArray, List.getElem_cons_zero, List.getElem_cons_succ]
                refine wpAnyH_done (by kernel_rfl) ?_ _
                refine NoPanic.normal ?_
                have HB13 : Hid (Below w10.heap.size w10 w12.drew) := Lib.hid (HB12.out.drew)
                clear hHeld hst12
                go_wp2_with fail
                go_roundw
                case rel => exact ⟨i + 1, by omega, by go_num, HB13⟩
                case measure => simp [intOf]; omega
            · have hg1 : decide (i < gl) = false := by simp; omega
              have hg2 : decide ((i : Int) < (gl : Int)) = false := by simp; omega
              clear hlt
              have HT2 := Lib.hid (HT.out w2 HB2.out)
              have HNM3 : Hid ((digS 3 ++ rawE).data.toList = nm) := Lib.hid (by rw [HNB.out]; exact HNM.out)
              cases hok : (scanR B).2.2 with
              | false =>
                have hop := open_badQ (k := 3) HIR.out.toH HT2.out (by decide) HNM3.out (by show 1 + gl ≤ _; omega) (by rw [HBL.out]; omega) hok
                have HOK := Lib.hid hok
                clear hok
                go_wp2_with fail
                refine hop.mono ?_
                rintro e w11 ⟨rfl, hI11⟩
                have hrd := read_h nmB hI11 HNZ.out
                rw [HNM.out, stQ_read] at hrd
                rw [HNL.out] at hrd
                have HI11 := Lib.hid hI11
                clear hop hI11
                go_wp2_with fail
                refine hrd.mono ?_
                rintro e w12 ⟨hb12, sp12, cp12, he12, ho12, hx12⟩
                have he12 : e = .returned (.tuple #[.slice sp12 B.length cp12, .int .i64 0]) := he12
                subst he12
                have hsc := refRScan_any _ B w12 (isBytes_own hx12.out ho12.out) (by rw [HBL.out]; omega)
                unfold RScanPost at hsc
                rw [HOK.out] at hsc
                have HI12 := Lib.hid (HI11.out.below hb12.out)
                rw [HBL.out] at hsc ⊢
                have HSC := Lib.hid hsc
                clear hrd hb12 ho12 hx12 hsc
                go_wp2_with fail
                refine HSC.out.mono ?_
                rintro e w13 ⟨sp13, cp13, rfl, ho13, hb13⟩
                have HB13 := Lib.hid (HB2.out.trans ((HI12.out.below hb13.out).bel.mono HB2.out.size))
                clear ho13 hb13 HSC
                go_wp2_with fail
                go_ret
                exact ⟨rfl, HB13.out⟩
              | true =>
                obtain ⟨P2, y2, c2, last2, pend2, hc2, -, hop⟩ := open_goodQ (k := 3) HIR.out.toH HT2.out (by decide) HNM3.out (by show 1 + gl ≤ _; omega) (by rw [HBL.out]; omega) HX9.out (by rw [HBL.out]; omega) hok
                have hlc := scanR_chk B
                have hlL := scanR_len B
                obtain ⟨L, hL⟩ : ∃ L, (scanR B).1 = L := ⟨_, rfl⟩
                rw [hL] at hop hlc hlL
                have HLC := Lib.hid hlc
                have hLl := encs_len hlc
                have hcb : c2 ≤ 1000 := by omega
                rw [HBL.out] at hlL
                obtain ⟨NL, hNL⟩ : ∃ NL, L.length = NL := ⟨_, rfl⟩
                have HNL2 := Lib.hid hNL
                rw [hNL] at hlL hLl
                clear hok hL hlc hNL
                go_wp2_with fail
                refine hop.mono ?_
                rintro e w11 ⟨o, rfl, hI11⟩
                rw [HNB.out] at hI11
                have HI11 := Lib.hid hI11
                have hrd := read_h nmB HI11.out.toH HNZ.out
                rw [HNM.out, stQ_read] at hrd
                rw [HNL.out] at hrd
                clear hop hI11
                go_wp2_with fail
                refine hrd.mono ?_
                rintro e w12 ⟨hb12, sp12, cp12, he12, ho12, hx12⟩
                have he12 : e = .returned (.tuple #[.slice sp12 (encs L).length cp12, .int .i64 0]) := he12
                subst he12
                have hsc := refRScan_any _ (encs L) w12 (isBytes_own hx12.out ho12.out) (by omega)
                unfold RScanPost at hsc
                rw [scan_encs HLC.out] at hsc
                have HI12 := Lib.hid (HI11.out.below hb12.out)
                obtain ⟨ML, hML⟩ : ∃ ML, (encs L).length = ML := ⟨_, rfl⟩
                rw [hML] at hsc ⊢
                have HSC := Lib.hid hsc
                clear hrd hb12 ho12 hx12 hsc hML
                go_wp2_with fail
                refine HSC.out.mono ?_
                rintro e w13 ⟨sp13, cp13, rfl, ho13, hb13⟩
                have HI13 := Lib.hid (HI12.out.below hb13.out)
                have hln := len_held HI13.out
                have HNL3 : Hid (L.length = NL) := HNL2
                rw [HNL3.out] at hln ⊢
                have q1 : ((NL : Int) == (NL : Int)) = true := beq_t rfl
                clear ho13 hb13 HSC
                go_wp2_with fail
                refine hln.mono ?_
                rintro e w14 ⟨rfl, rfl⟩
                clear hln
                go_wp2_with fail
                go_ret
                exact ⟨rfl, HB2.out.trans (HI13.out.bel.mono HB2.out.size)⟩
end Go.Proofs.YtdjkkohckfndkaaDoor.S15
namespace Go.Proofs.YtdjkkohckfndkaaDoor.S15
open Go.RowKit S3
theorem rawRot_law (a : Option Addr) (len cap : Nat) (a1 a2 : Int) (w : World) (hT : Tab w) (h0 : IsRecs [.int .i64, .int .i64, .str, .str] w a len) (h1 : (Lit.int .i64 a1).wf = true) (h2 : (Lit.int .u8 a2).wf = true) :
    Calls Tryd.prog 3 #[.slice a len cap, .int .i64 a1, .int .u8 a2] w fun e w' => e = .returned (.bool true) ∧ Below w.heap.size w w' := by
  have hx := u8_wf h2
  obtain ⟨x, rfl⟩ : ∃ m : Nat, a2 = (m : Int) := ⟨a2.toNat, by omega⟩
  exact rawRot_walk a len cap a1 x w hT h0 h1 (by omega)
end Go.Proofs.YtdjkkohckfndkaaDoor.S15

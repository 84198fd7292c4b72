/- Texts put together: RcE, RcF. -/
import Derived.Test.YtdjkkohckfndkaaGreatDoorEg2
import Derived.Test.YtdjkkohckfndkaaGreatDoorEg31
import Derived.Deep.QuietTactic
set_option linter.unusedSimpArgs false
set_option linter.unusedVariables false
set_option maxRecDepth 100000
namespace Go.Proofs.YtdjkkohckfndkaaGreatDoor.S14
open Go.RowKit S2.Pl
theorem from' {w : World} {v : Value} {B : List Nat} (hv : IsBytes w v B) (k : Nat) (hk : k ≤ B.length) :
    ∃ a n c, Hid (n = (B.drop k).length) ∧ (∀ W, (sliceU8 v (some (.int .i64 k)) none none).run Tryz.prog W = .ok (.slice a n c) W) ∧ Hid (IsBytes w (.slice a n c) (B.drop k)) := by
  obtain ⟨a, c, h1, h2⟩ := run_from hv k hk
  exact ⟨a, B.length - k, c, Lib.hid (by simp), h1, Lib.hid h2⟩
theorem vgetText_le (B : List Nat) : (vgetText B).2 ≤ B.length := by
  have := vget_le B
  unfold vgetText
  split
  · simp
  · show (vget B).2 + (vget B).1 ≤ _
    omega
theorem vgetText_len (B : List Nat) : (vgetText B).1.length ≤ B.length := by
  unfold vgetText
  split
  · simp
  · simp only [List.length_take, List.length_drop]; omega
theorem str_sz (L : List Nat) : (str L).size = L.length := by simp [str, ByteArray.size]
def buildR (v : Array (Nat × Value)) : Sem Value := Instr.build 32 v
theorem buildR_eq (v : Array (Nat × Value)) : Instr.build 32 v = buildR v := rfl
theorem run_buildR (w : World) : (buildR #[]).run Tryz.prog w = .ok (.agg #[.int .i64 0, .int .i64 0, .string ⟨#[]⟩, .string ⟨#[]⟩]) w := by kernel_rfl
theorem run_buildR3 (w : World) (k s : Int) (b : ByteArray) : (buildR #[(0, .int .i64 k), (1, .int .i64 s), (2, .string b)]).run Tryz.prog w = .ok (.agg #[.int .i64 k, .int .i64 s, .string b, .string ⟨#[]⟩]) w := by kernel_rfl
theorem run_buildR1 (w : World) (k : Int) : (buildR #[(0, .int .i64 k)]).run Tryz.prog w = .ok (.agg #[.int .i64 k, .int .i64 0, .string ⟨#[]⟩, .string ⟨#[]⟩]) w := by kernel_rfl
theorem ret_rec {fn : Func} {p u : Tmp} (h : fn.results = #[.cell p 32, .tmp u]) (tmps : Array Value) {w : World} {g : Nat} {t : TypeId} {r : RT} {b : Bool} (hp : tmps.getD p undef = .pointer (some ⟨g, 0, none⟩)) (hu : tmps.getD u undef = .bool b) (hk : Blk w g t (recL r)) :
    (results fn tmps).run Tryz.prog w = .ok (.tuple #[.agg #[.int .i64 r.kind, .int .i64 r.seq, .string r.key, .string r.val], .bool b]) w := by
  have hl := run_loadR_blk hk
  simp only [loadR, Instr.loadAt, Instr.sureAddr, Sem.run_bind, Sem.run_pure, Result.andThen_ok] at hl
  rw [results_cell_tmp h, hp, hu]
  simp only [asAddr, Sem.run_pure, Result.andThen_ok]
  rw [hl]
  rfl
theorem blk_set {w : World} {g : Nat} {t : TypeId} {r q : RT} (h : Blk w g t (recL r)) : Blk (w.setRow g #[.int .i64 q.kind, .int .i64 q.seq, .string q.key, .string q.val]) g t (recL q) := h.setRow (recL q)
theorem bel_setRow {B : Nat} {a w : World} (h : Below B a w) {g : Nat} (hg : B ≤ g) (c : Array Value) : Below B a (w.setRow g c) :=
  h.trans ⟨rfl, rfl, rfl, by simp, fun k hk => setRow_other _ _ _ _ (by omega)⟩
theorem run_store_rec {w : World} {g : Nat} {t : TypeId} {r q : RT} (h : Blk w g t (recL r)) : (storeR (.pointer (some ⟨g, 0, none⟩)) (.agg #[.int .i64 q.kind, .int .i64 q.seq, .string q.key, .string q.val])).run Tryz.prog w = .ok () (w.setRow g #[.int .i64 q.kind, .int .i64 q.seq, .string q.key, .string q.val]) :=
  run_storeR (ds := recL q) h rfl rfl (recL_one q)
def OnePost (B : List Nat) (w : World) (e : Ending) (w' : World) : Prop :=
  e = .returned (.tuple #[.agg #[.int .i64 (oneV B).1.kind, .int .i64 (oneV B).1.seq, .string (oneV B).1.key, .string (oneV B).1.val], .bool (oneV B).2]) ∧ Hid (Below w.heap.size w w')
theorem back_rec {w W : World} {g : Nat} {t : TypeId} {r : RT} (q : RT) (hk : Blk W g t (recL r)) (hb : Below w.heap.size w W) (hg : w.heap.size ≤ g) :
    ∃ W2, (storeR (.pointer (some ⟨g, 0, none⟩)) (.agg #[.int .i64 q.kind, .int .i64 q.seq, .string q.key, .string q.val])).run Tryz.prog W = .ok () W2 ∧ Hid (Blk W2 g t (recL q)) ∧ Hid (Below w.heap.size w W2) :=
  ⟨_, run_store_rec hk, Lib.hid (blk_set hk), Lib.hid (bel_setRow hb hg _)⟩
theorem one_end {B : List Nat} {w W : World} {g : Nat} {t : TypeId} {r : RT} {b : Bool} {fn : Func} {p u : Tmp} {a : Act} (h : fn.results = #[.cell p 32, .tmp u]) (hd : a.defers = []) (hp : a.tmps.getD p undef = .pointer (some ⟨g, 0, none⟩)) (hu : a.tmps.getD u undef = .bool b) (hk : Blk W g t (recL r)) (hO : oneV B = (r, b)) (hb : Hid (Below w.heap.size w W)) :
    bodyPost Tryz.prog fn (OnePost B w) Exit.ret a W :=
  bodyPost_ret (ret_rec h _ hp hu hk) hd ⟨by rw [hO], hb⟩
attribute [local go_sem ↓] loadR_eq storeR_eq buildR_eq sliceU8_eq
attribute [local go_sem] run_buildR run_buildR3
set_option maxHeartbeats 8000000 in
theorem decoded_any (v : Value) (B : List Nat) (w : World) (hv : IsBytes w v B) : Calls Tryz.prog 85 #[v] w (OnePost B w) := by
  have hb1 := agg_zero w zR
  have hk1 := Blk.new w 32 (recL zR)
  obtain ⟨w1, hw1⟩ : ∃ w1, w.alloc (.cells #[.int .i64 0, .int .i64 0, .string ⟨#[]⟩, .string ⟨#[]⟩] 32) = w1 := ⟨_, rfl⟩
  have hb1 : Below w.heap.size w w1 := by rw [← hw1]; exact hb1
  have hk1 : Blk w1 w.heap.size 32 (recL zR) := by rw [← hw1]; exact hk1
  have hv1 := hv.below hb1
  have hx := hv.1
  obtain ⟨a, cap, rfl, hcap, hmax⟩ := hv.slice
  unfold maxLen at hmax
  have HK1 := Lib.hid hk1
  have HB1 := Lib.hid hb1
  have HV1 := Lib.hid hv1
  clear hv hv1 hb1 hk1
  by_cases h0 : B.length = 0
  · have HO := Lib.hid (one_1 h0)
    obtain ⟨w2, hst, HK2, HB2⟩ := back_rec zR HK1.out HB1.out (Nat.le_refl _)
    simp only [zR] at hst
    have hq : ((B.length : Int) == 0) = true := beq_t (by omega)
    go_enter Tryz.func85, Tryz.ntmps85
    go_wp2
    exact one_end rfl rfl rfl rfl HK2.out HO.out HB2
  · have hq : ((B.length : Int) == 0) = false := beq_f (by omega)
    obtain ⟨b, off, cap', hs, _, _, hbl, hc⟩ := HV1.out.cells (by omega)
    simp at hs
    obtain ⟨rfl, rfl⟩ := hs
    have c0 : w1.cell? ⟨b, off, none⟩ = some (.int .u8 (B.getD 0 0 : Nat)) := hc 0 (by omega)
    have hx0 := getD_lt hx 0
    obtain ⟨a1, n1, cp1, HN1, hs1, HI1⟩ := from' HV1.out 1 (by omega)
    have hs1 : ∀ W, (sliceU8 (.slice (some ⟨b, off, none⟩) B.length cap) (some (.int .i64 1)) none none).run Tryz.prog W = .ok (.slice a1 n1 cp1) W := hs1
    have hn0 : 0 < B.length := by omega
    have hi0 : (0 : Int) < B.length := by omega
    have HK := Lib.hid (rfl : B.getD 0 0 = B.getD 0 0)
    obtain ⟨k, hk⟩ : ∃ k, B.getD 0 0 = k := ⟨_, rfl⟩
    rw [hk] at c0 hx0
    have HKd := Lib.hid hk
    have H0 := Lib.hid h0
    clear hc hk HK hx h0
    go_enter Tryz.func85, Tryz.ntmps85
    go_wp2_with fail
    go_quiet (fail)
    obtain ⟨w2, hw2⟩ : ∃ w2, w1.drewN nq = w2 := ⟨_, rfl⟩
    have HK2 : Hid (Blk w2 w.heap.size 32 (recL zR)) := Lib.hid (by rw [← hw2]; exact HK1.out)
    have HB2 : Hid (Below w.heap.size w w2) := Lib.hid (by rw [← hw2]; exact bel_drewN HB1.out _)
    have HI2 : Hid (IsBytes w2 (.slice a1 n1 cp1) (B1 B)) := Lib.hid (by rw [← hw2]; exact HI1.out)
    rw [hw2]
    clear hw2 HI1 HK1 HB1 HV1 c0 hs1
    obtain ⟨nn, hnn⟩ : ∃ nn, (vget (B1 B)).1 = nn := ⟨_, rfl⟩
    obtain ⟨kk, hkk⟩ : ∃ kk, (vget (B1 B)).2 = kk := ⟨_, rfl⟩
    have hg := S2.vget_any _ (B1 B) w2 HI2.out
    have hle := vget_le (B1 B)
    unfold S2.VGetPost at hg
    rw [hnn, hkk] at hg hle
    have HG := Lib.hid hg
    have HNN := Lib.hid hnn
    have HKK := Lib.hid hkk
    have HNL := Lib.hid hle.1
    have hkl : kk ≤ (B1 B).length := hle.2.1
    clear hg hle hnn hkk
    go_wp2_with fail
    refine HG.out.mono ?_
    rintro e w2' ⟨rfl, rfl⟩
    clear HG
    by_cases h1 : kk = 0
    · have HO := Lib.hid (one_2 (HKK.out.trans h1))
      obtain ⟨w3, hst, HK3, HB3⟩ := back_rec zR HK2.out HB2.out (Nat.le_refl _)
      simp only [zR] at hst
      have hq1 : ((kk : Int) == 0) = true := beq_t (by omega)
      go_wp2
      exact one_end rfl rfl rfl rfl HK3.out HO.out HB3
    have hq1 : ((kk : Int) == 0) = false := beq_f (by omega)
    obtain ⟨a2, n2, cp2, HN2, hs2, HI3⟩ := from' HI2.out kk hkl
    have hB2 : (B1 B).drop kk = B2 B := by unfold B2; rw [HKK.out]
    rw [hB2] at HN2 HI3
    obtain ⟨S, hS⟩ : ∃ S, str (vgetText (B2 B)).1 = S := ⟨_, rfl⟩
    obtain ⟨j, hj⟩ : ∃ j, (vgetText (B2 B)).2 = j := ⟨_, rfl⟩
    have hg := S2.getText_any _ (B2 B) w2 HI3.out
    have hle := vgetText_le (B2 B)
    unfold S2.TextPost at hg
    rw [hS, hj] at hg
    rw [hj] at hle
    have HG := Lib.hid hg
    have HS := Lib.hid hS
    have hSs : S.size ≤ maxLen := by rw [← hS, str_sz]; have := vgetText_len (B2 B); have : (B2 B).length ≤ B.length := by unfold B2 B1; simp only [List.length_drop]; omega
                                     unfold maxLen; omega
    have HJ := Lib.hid hj
    have H1 := Lib.hid h1
    clear hg hS hj h1 hB2 HI2 hkl
    go_wp2_with fail
    refine HG.out.mono ?_
    rintro e w2' ⟨rfl, rfl⟩
    clear HG hs2
    by_cases h2 : j = 0
    · have HO := Lib.hid (one_3 (HJ.out.trans h2))
      obtain ⟨w3, hst, HK3, HB3⟩ := back_rec zR HK2.out HB2.out (Nat.le_refl _)
      simp only [zR] at hst
      have hq2 : ((j : Int) == 0) = true := beq_t (by omega)
      go_wp2
      exact one_end rfl rfl rfl rfl HK3.out HO.out HB3
    have hq2 : ((j : Int) == 0) = false := beq_f (by omega)
    obtain ⟨a3, n3, cp3, HN3, hs3, HI4⟩ := from' HI3.out j hle
    have hB3 : (B2 B).drop j = B3 B := by unfold B3; rw [HJ.out]
    rw [hB3] at HN3 HI4
    have H2 := Lib.hid h2
    clear h2 hB3 HI3 hle
    obtain ⟨sv, hsv⟩ : ∃ sv, IntKind.i64.wrap (nn : Int) = sv := ⟨_, rfl⟩
    obtain ⟨w3, hst3, HR3, HB3⟩ := back_rec (w := w2) ⟨k, sv, S, ⟨#[]⟩⟩ (Blk.new w2 32 (recL zR)) ((Below.refl _ _).alloc (Nat.le_refl _) _) (Nat.le_refl _)
    simp only [recL, zR] at hst3
    have HK3 : Hid (Blk w3 w.heap.size 32 (recL zR)) := Lib.hid (HK2.out.below HB3.out HK2.out.lt)
    have HBB : Hid (Below w.heap.size w w3) := Lib.hid (HB2.out.trans (HB3.out.mono HB2.out.size))
    have HI5 := Lib.hid (HI4.out.below HB3.out)
    obtain ⟨h, hh⟩ : ∃ h, w2.heap.size = h := ⟨_, rfl⟩
    have hgh : w.heap.size < h := by rw [← hh]; exact HK2.out.lt
    have HSV := Lib.hid hsv
    by_cases hk1 : k = 1
    · subst hk1
      have hone : ((1 : Nat) : Int) = 1 := rfl
      rw [hone] at hst3 HR3
      clear hone
      obtain ⟨V, hV⟩ : ∃ V, str (vgetText (B3 B)).1 = V := ⟨_, rfl⟩
      obtain ⟨m, hm⟩ : ∃ m, (vgetText (B3 B)).2 = m := ⟨_, rfl⟩
      have hg := S2.getText_any _ (B3 B) w3 HI5.out
      have hle := vgetText_le (B3 B)
      unfold S2.TextPost at hg
      rw [hV, hm] at hg
      rw [hm] at hle
      have HG := Lib.hid hg
      have HV := Lib.hid hV
      have hVs : V.size ≤ maxLen := by rw [← hV, str_sz]; have := vgetText_len (B3 B); have : (B3 B).length ≤ B.length := by unfold B3 B2 B1; simp only [List.length_drop]; omega
                                       unfold maxLen; omega
      have HM := Lib.hid hm
      clear hg hV hm hh
      go_wp2_with fail
      refine HG.out.mono ?_
      rintro e w2' ⟨rfl, rfl⟩
      clear HG hst3 hs3
      by_cases h3 : m = 0
      · have HO := Lib.hid (one_4 HKd.out (HM.out.trans h3))
        obtain ⟨w4, hst, HK4, HB4⟩ := back_rec zR HK3.out HBB.out (Nat.le_refl _)
        simp only [zR] at hst
        have hq3 : ((m : Int) == 0) = true := beq_t (by omega)
        go_wp2
        exact one_end rfl rfl rfl rfl HK4.out HO.out HB4
      have hq3 : ((m : Int) == 0) = false := beq_f (by omega)
      obtain ⟨a4, n4, cp4, HN4, hs4, HI6⟩ := from' HI5.out m hle
      have hB4 : (B3 B).drop m = B4 B := by unfold B4; rw [HM.out]
      rw [hB4] at HN4 HI6
      have H3 := Lib.hid h3
      have c3 : w3.cell? ⟨w2.heap.size, 3, none⟩ = some (.string ⟨#[]⟩) := HR3.out.cell rfl
      have f3 : w3.frozen? ⟨w2.heap.size, 3, none⟩ = false := HR3.out.frozen 3
      clear h3 hB4 HI5 hle
      go_wp2_with fail
      go_region
      obtain ⟨w5, hw5⟩ : ∃ w5, (w3.setCell ⟨w2.heap.size, 3, none⟩ (.string V)).drew = w5 := ⟨_, rfl⟩
      have HR5 : Hid (Blk w5 w2.heap.size 32 (recL ⟨1, sv, S, V⟩)) := Lib.hid (by rw [← hw5]; exact (HR3.out.set 3 (.string V)).drew)
      have HG5 : Hid (Below w2.heap.size w2 w5) := Lib.hid (by rw [← hw5]; exact HB3.out.trans (((Gr.refl w3 w2.heap.size).setCell 3 _).drew.below HB3.out.size (Nat.le_refl _)))
      have HK5 : Hid (Blk w5 w.heap.size 32 (recL zR)) := Lib.hid (HK2.out.below HG5.out HK2.out.lt)
      have HB5 : Hid (Below w.heap.size w w5) := Lib.hid (HB2.out.trans (HG5.out.mono HB2.out.size))
      rw [hw5]
      clear hw5 HR3 HB3 HK3 HBB c3 f3 hs4 HI6
      have hre : rec1 B = ⟨1, sv, S, V⟩ := by
        unfold rec1 sq
        rw [HKd.out, HNN.out, HSV.out, HS.out, HV.out]
        rfl
      have HRE := Lib.hid hre
      have hch := check_any ⟨1, sv, S, V⟩ w5 hSs hVs
      have hld := run_loadR_blk HR5.out
      simp only at hch hld
      by_cases h4 : n4 = 0
      rotate_left
      · have HO := Lib.hid (one_5 HKd.out fun h => h4 (HN4.out.trans h.1))
        obtain ⟨w6, hst, HK6, HB6⟩ := back_rec zR HK5.out HB5.out (Nat.le_refl _)
        simp only [zR] at hst
        have hq4 : decide ((0 : Int) < (n4 : Int)) = true := by simp; omega
        have hq5 : decide (0 < n4) = true := by simp; omega
        clear hch hre
        go_wp2
        exact one_end rfl rfl rfl rfl HK6.out HO.out HB6
      obtain ⟨c, hc⟩ : ∃ c, chk ⟨1, sv, S, V⟩ = c := ⟨_, rfl⟩
      rw [hc] at hch
      have HC := Lib.hid hc
      have HCH := Lib.hid hch
      clear hch hc hre
      have H4 := Lib.hid (HN4.out.symm.trans h4)
      subst h4
      go_wp2_with fail
      refine HCH.out.mono ?_
      rintro e w6 ⟨rfl, hb6⟩
      have HK6 := Lib.hid (HK5.out.below hb6 HK5.out.lt)
      have HR6 := Lib.hid (HR5.out.below hb6 HR5.out.lt)
      have HB6 := Lib.hid (HB5.out.trans (hb6.mono HB5.out.size))
      clear HCH hld hb6 HK5 HR5 HB5
      by_cases h5 : c = 0
      rotate_left
      · have HO := Lib.hid (one_5 HKd.out fun h => h5 (by rw [HRE.out, HC.out] at h; exact h.2))
        obtain ⟨w7, hst, HK7, HB7⟩ := back_rec zR HK6.out HB6.out (Nat.le_refl _)
        simp only [zR] at hst
        have hq4 : ((c : Int) != 0) = true := bne_t (by omega)
        go_wp2
        exact one_end rfl rfl rfl rfl HK7.out HO.out HB7
      have HO := Lib.hid (one_6 H0.out (by rw [HKK.out]; exact H1.out) (by rw [HJ.out]; exact H2.out) HKd.out (by rw [HM.out]; exact H3.out) H4.out (by rw [HRE.out, HC.out]; exact h5))
      rw [HRE.out] at HO
      have hld := run_loadR_blk HR6.out
      obtain ⟨w7, hst, HK7, HB7⟩ := back_rec ⟨1, sv, S, V⟩ HK6.out HB6.out (Nat.le_refl _)
      simp only at hst hld
      subst h5
      go_wp2
      exact one_end rfl rfl rfl rfl HK7.out HO.out HB7
    · have hqk : ((k : Int) == 1) = false := beq_f (by omega)
      have hre : rec0 B = ⟨k, sv, S, ⟨#[]⟩⟩ := by
        unfold rec0 sq
        rw [HKd.out, HNN.out, HSV.out, HS.out]
      have HRE := Lib.hid hre
      have hkn : B.getD 0 0 ≠ 1 := by rw [HKd.out]; exact hk1
      have HKN := Lib.hid hkn
      have hch := check_any ⟨k, sv, S, ⟨#[]⟩⟩ w3 hSs (by simp [ByteArray.size])
      have hld := run_loadR_blk HR3.out
      simp only at hch hld
      by_cases h4 : n3 = 0
      rotate_left
      · have HO := Lib.hid (one_7 hkn fun h => h4 (HN3.out.trans h.1))
        obtain ⟨w6, hst, HK6, HB6⟩ := back_rec zR HK3.out HBB.out (Nat.le_refl _)
        simp only [zR] at hst
        have hq4 : decide ((0 : Int) < (n3 : Int)) = true := by simp; omega
        have hq5 : decide (0 < n3) = true := by simp; omega
        clear hch hre hkn hk1 hh
        go_wp2
        exact one_end rfl rfl rfl rfl HK6.out HO.out HB6
      obtain ⟨c, hc⟩ : ∃ c, chk ⟨k, sv, S, ⟨#[]⟩⟩ = c := ⟨_, rfl⟩
      rw [hc] at hch
      have HC := Lib.hid hc
      have HCH := Lib.hid hch
      have H4 := Lib.hid (HN3.out.symm.trans h4)
      clear hch hc hre hkn hk1 hh
      subst h4
      go_wp2_with fail
      refine HCH.out.mono ?_
      rintro e w6 ⟨rfl, hb6⟩
      have HK6 := Lib.hid (HK3.out.below hb6 HK3.out.lt)
      have HR6 := Lib.hid (HR3.out.below hb6 HR3.out.lt)
      have HB6 := Lib.hid (HBB.out.trans (hb6.mono HBB.out.size))
      clear HCH hld hb6 HK3 HR3 HBB hst3
      by_cases h5 : c = 0
      rotate_left
      · have HO := Lib.hid (one_7 HKN.out fun h => h5 (by rw [HRE.out, HC.out] at h; exact h.2))
        obtain ⟨w7, hst, HK7, HB7⟩ := back_rec zR HK6.out HB6.out (Nat.le_refl _)
        simp only [zR] at hst
        have hq4 : ((c : Int) != 0) = true := bne_t (by omega)
        go_wp2
        exact one_end rfl rfl rfl rfl HK7.out HO.out HB7
      have HO := Lib.hid (one_8 H0.out (by rw [HKK.out]; exact H1.out) (by rw [HJ.out]; exact H2.out) HKN.out H4.out (by rw [HRE.out, HC.out]; exact h5))
      rw [HRE.out] at HO
      have hld := run_loadR_blk HR6.out
      obtain ⟨w7, hst, HK7, HB7⟩ := back_rec ⟨k, sv, S, ⟨#[]⟩⟩ HK6.out HB6.out (Nat.le_refl _)
      simp only at hst hld
      subst h5
      go_wp2
      exact one_end rfl rfl rfl rfl HK7.out HO.out HB7
end Go.Proofs.YtdjkkohckfndkaaGreatDoor.S14
namespace Go.Proofs.YtdjkkohckfndkaaGreatDoor.S14
open Go.RowKit S2.Pl
attribute [local go_sem ↓] loadR_eq storeR_eq buildR_eq sliceU8_eq
attribute [local go_sem] run_buildR run_buildR1
theorem blk_field {w w' : World} {g i : Nat} {t : TypeId} {r q : RT} {v : Value} (h : Blk w g t (recL r)) (hw : w.setCell ⟨g, i, none⟩ v = w') (hq : (recL r).set i v = recL q) : Blk w' g t (recL q) := by
  rw [← hw, ← hq]; exact h.set i v
theorem bel_field {w0 w w' : World} {g i : Nat} {v : Value} (h : Below w0.heap.size w0 w) (hw : w.setCell ⟨g, i, none⟩ v = w') (hg : w0.heap.size ≤ g) : Below w0.heap.size w0 w' := by
  rw [← hw]
  exact h.trans (((Gr.refl w g).setCell i v).below h.size hg)
set_option maxHeartbeats 8000000 in
theorem one_any (v : Value) (B : List Nat) (w : World) (hv : IsBytes w v B) : Calls Tryz.prog 51 #[v] w (OnePost B w) := by
  have hb1 := agg_zero w zR
  have hk1 := Blk.new w 32 (recL zR)
  obtain ⟨w1, hw1⟩ : ∃ w1, w.alloc (.cells #[.int .i64 0, .int .i64 0, .string ⟨#[]⟩, .string ⟨#[]⟩] 32) = w1 := ⟨_, rfl⟩
  have hb1 : Below w.heap.size w w1 := by rw [← hw1]; exact hb1
  have hk1 : Blk w1 w.heap.size 32 (recL zR) := by rw [← hw1]; exact hk1
  have hv1 := hv.below hb1
  have hx := hv.1
  obtain ⟨a, cap, rfl, hcap, hmax⟩ := hv.slice
  unfold maxLen at hmax
  have HK1 := Lib.hid hk1
  have HB1 := Lib.hid hb1
  have HV1 := Lib.hid hv1
  clear hv hv1 hb1 hk1
  by_cases h0 : B.length = 0
  · have HO := Lib.hid (one_1 h0)
    obtain ⟨w2, hst, HK2, HB2⟩ := back_rec zR HK1.out HB1.out (Nat.le_refl _)
    simp only [zR] at hst
    have hq : ((B.length : Int) == 0) = true := beq_t (by omega)
    go_enter Tryz.func51, Tryz.ntmps51
    go_wp2
    exact one_end rfl rfl rfl rfl HK2.out HO.out HB2
  have hq : ((B.length : Int) == 0) = false := beq_f (by omega)
  obtain ⟨b, off, cap', hs, _, _, hbl, hc⟩ := HV1.out.cells (by omega)
  simp at hs
  obtain ⟨rfl, rfl⟩ := hs
  have c0 : w1.cell? ⟨b, off, none⟩ = some (.int .u8 (B.getD 0 0 : Nat)) := hc 0 (by omega)
  have hx0 := getD_lt hx 0
  obtain ⟨a1, n1, cp1, HN1, hs1, HI1⟩ := from' HV1.out 1 (by omega)
  have hs1 : ∀ W, (sliceU8 (.slice (some ⟨b, off, none⟩) B.length cap) (some (.int .i64 1)) none none).run Tryz.prog W = .ok (.slice a1 n1 cp1) W := hs1
  have hn0 : 0 < B.length := by omega
  have hi0 : (0 : Int) < B.length := by omega
  obtain ⟨k, hk⟩ : ∃ k, B.getD 0 0 = k := ⟨_, rfl⟩
  rw [hk] at c0 hx0
  have HKd := Lib.hid hk
  have H0 := Lib.hid h0
  clear hc hk hx h0
  by_cases hk2 : 1 < k
  · have HO := Lib.hid (one_kind (B := B) (by rw [HKd.out]; exact hk2))
    obtain ⟨w2, hst, HK2, HB2⟩ := back_rec zR HK1.out HB1.out (Nat.le_refl _)
    simp only [zR] at hst
    have hq1 : decide ((1 : Int) < (k : Int)) = true := by simp; omega
    have hq2 : decide (1 < k) = true := by simp; omega
    go_enter Tryz.func51, Tryz.ntmps51
    go_wp2
    exact one_end rfl rfl rfl rfl HK2.out HO.out HB2
  have hq1 : decide ((1 : Int) < (k : Int)) = false := by simp; omega
  have hq2 : decide (1 < k) = false := by simp; omega
  obtain ⟨w2, hst2, HR2, HG2⟩ := back_rec (w := w1) ⟨k, 0, ⟨#[]⟩, ⟨#[]⟩⟩ (Blk.new w1 32 (recL zR)) ((Below.refl _ _).alloc (Nat.le_refl _) _) (Nat.le_refl _)
  simp only [recL, zR] at hst2
  have HK2 : Hid (Blk w2 w.heap.size 32 (recL zR)) := Lib.hid (HK1.out.below HG2.out HK1.out.lt)
  have HI2 : Hid (IsBytes w2 (.slice a1 n1 cp1) (B1 B)) := Lib.hid (HI1.out.below HG2.out)
  clear HI1
  obtain ⟨nn, hnn⟩ : ∃ nn, (vget (B1 B)).1 = nn := ⟨_, rfl⟩
  obtain ⟨kk, hkk⟩ : ∃ kk, (vget (B1 B)).2 = kk := ⟨_, rfl⟩
  have hg := S2.refGet_any _ (B1 B) w2 HI2.out
  have hle := vget_le (B1 B)
  unfold S2.VGetPost at hg
  rw [hnn, hkk] at hg hle
  have HG := Lib.hid hg
  have HNN := Lib.hid hnn
  have HKK := Lib.hid hkk
  have hnl : nn < 18446744073709551616 := hle.1
  have hkl : kk ≤ (B1 B).length := hle.2.1
  have hk10 : kk ≤ 10 := hle.2.2
  clear hg hle hnn hkk
  go_enter Tryz.func51, Tryz.ntmps51
  go_wp2_with fail
  refine HG.out.mono ?_
  rintro e w2' ⟨rfl, rfl⟩
  clear HG hst2 hs1 c0
  have HB2 : Hid (Below w.heap.size w w2) := Lib.hid (HB1.out.trans (HG2.out.mono HB1.out.size))
  by_cases h1 : kk = 0
  · have HO := Lib.hid (one_2 (HKK.out.trans h1))
    obtain ⟨w3, hst, HK3, HB3⟩ := back_rec zR HK2.out HB2.out (Nat.le_refl _)
    simp only [zR] at hst
    have hq3 : ((kk : Int) == 0) = true := beq_t (by omega)
    go_wp2
    exact one_end rfl rfl rfl rfl HK3.out HO.out HB3
  have hq3 : ((kk : Int) == 0) = false := beq_f (by omega)
  by_cases h2 : 1125899906842624 < nn
  · have HO := Lib.hid (one_seq (B := B) (by rw [HNN.out]; exact h2))
    obtain ⟨w3, hst, HK3, HB3⟩ := back_rec zR HK2.out HB2.out (Nat.le_refl _)
    simp only [zR] at hst
    have hq4 : decide ((1125899906842624 : Int) < (nn : Int)) = true := by simp; omega
    have hq5 : decide (1125899906842624 < nn) = true := by simp; omega
    go_wp2
    exact one_end rfl rfl rfl rfl HK3.out HO.out HB3
  have hq4 : decide ((1125899906842624 : Int) < (nn : Int)) = false := by simp; omega
  have hq5 : decide (1125899906842624 < nn) = false := by simp; omega
  have hsv : IntKind.i64.wrap (nn : Int) = nn := sq_small (by omega)
  have HSV := Lib.hid (sq_small (n := nn) (by omega))
  have hB1l : (B1 B).length = B.length - 1 := by unfold B1; rw [List.length_drop]
  obtain ⟨a2, n2, cp2, HN2, hs2, HI3⟩ := from' HV1.out (1 + kk) (by omega)
  have hB2 : B.drop (1 + kk) = B2 B := by unfold B2; rw [HKK.out]; unfold B1; rw [List.drop_drop]
  rw [hB2] at HN2 HI3
  have hs2 : ∀ W, (sliceU8 (.slice (some ⟨b, off, none⟩) B.length cap) (some (.int .i64 ((1 : Int) + kk))) none none).run Tryz.prog W = .ok (.slice a2 n2 cp2) W := hs2
  have c1 : w2.cell? ⟨w1.heap.size, 1, none⟩ = some (.int .i64 0) := HR2.out.cell rfl
  have f1 : w2.frozen? ⟨w1.heap.size, 1, none⟩ = false := HR2.out.frozen 1
  obtain ⟨w3, hw3⟩ : ∃ w3, w2.setCell ⟨w1.heap.size, 1, none⟩ (.int .i64 nn) = w3 := ⟨_, rfl⟩
  have HR3 : Hid (Blk w3 w1.heap.size 32 (recL ⟨k, nn, ⟨#[]⟩, ⟨#[]⟩⟩)) := Lib.hid (blk_field HR2.out hw3 rfl)
  have HG3 : Hid (Below w1.heap.size w1 w3) := Lib.hid (bel_field HG2.out hw3 (Nat.le_refl _))
  have HI3' : Hid (IsBytes w3 (.slice a2 n2 cp2) (B2 B)) := Lib.hid (HI3.out.below HG3.out)
  obtain ⟨S, hS⟩ : ∃ S, str (vgetText (B2 B)).1 = S := ⟨_, rfl⟩
  obtain ⟨j, hj⟩ : ∃ j, (vgetText (B2 B)).2 = j := ⟨_, rfl⟩
  have hg := S2.refGetText_any _ (B2 B) w3 HI3'.out
  have hle := vgetText_le (B2 B)
  unfold S2.TextPost at hg
  rw [hS, hj] at hg
  rw [hj] at hle
  have HG := Lib.hid hg
  have HS := Lib.hid hS
  have hSs : S.size ≤ maxLen := by rw [← hS, str_sz]; have := vgetText_len (B2 B); have : (B2 B).length ≤ B.length := by unfold B2 B1; simp only [List.length_drop]; omega
                                   unfold maxLen; omega
  have HJ := Lib.hid hj
  have H1 := Lib.hid h1
  clear hg hS hj h1 hB2 HI2 hkl
  go_wp2_with fail
  refine HG.out.mono ?_
  rintro e w2' ⟨rfl, rfl⟩
  have HK3 : Hid (Blk w3 w.heap.size 32 (recL zR)) := Lib.hid (HK1.out.below HG3.out HK1.out.lt)
  have HB3 : Hid (Below w.heap.size w w3) := Lib.hid (HB1.out.trans (HG3.out.mono HB1.out.size))
  clear HG hs2 hw3 c1 f1 HR2 HG2 HK2 HB2
  by_cases h3 : j = 0
  · have HO := Lib.hid (one_3 (HJ.out.trans h3))
    obtain ⟨w4, hst, HK4, HB4⟩ := back_rec zR HK3.out HB3.out (Nat.le_refl _)
    simp only [zR] at hst
    have hq6 : ((j : Int) == 0) = true := beq_t (by omega)
    go_wp2
    exact one_end rfl rfl rfl rfl HK4.out HO.out HB4
  have hq6 : ((j : Int) == 0) = false := beq_f (by omega)
  obtain ⟨a3, n3, cp3, HN3, hs3, HI4⟩ := from' HI3.out j hle
  have hB3 : (B2 B).drop j = B3 B := by unfold B3; rw [HJ.out]
  rw [hB3] at HN3 HI4
  have H3 := Lib.hid h3
  have c2 : w3.cell? ⟨w1.heap.size, 2, none⟩ = some (.string ⟨#[]⟩) := HR3.out.cell rfl
  have f2 : w3.frozen? ⟨w1.heap.size, 2, none⟩ = false := HR3.out.frozen 2
  obtain ⟨w4, hw4⟩ : ∃ w4, w3.setCell ⟨w1.heap.size, 2, none⟩ (.string S) = w4 := ⟨_, rfl⟩
  have HR4 : Hid (Blk w4 w1.heap.size 32 (recL ⟨k, nn, S, ⟨#[]⟩⟩)) := Lib.hid (blk_field HR3.out hw4 rfl)
  have HG4 : Hid (Below w1.heap.size w1 w4) := Lib.hid (bel_field HG3.out hw4 (Nat.le_refl _))
  have HK4 : Hid (Blk w4 w.heap.size 32 (recL zR)) := Lib.hid (HK1.out.below HG4.out HK1.out.lt)
  have HB4 : Hid (Below w.heap.size w w4) := Lib.hid (HB1.out.trans (HG4.out.mono HB1.out.size))
  have c40 : w4.cell? ⟨w1.heap.size, 0, none⟩ = some (.int .i64 k) := HR4.out.cell rfl
  clear h3 hB3 HI3 hle HI3' HK3 HB3
  by_cases hk1 : k = 1
  · subst hk1
    have hone : ((1 : Nat) : Int) = 1 := rfl
    rw [hone] at c40 HR4
    clear hone
    obtain ⟨V, hV⟩ : ∃ V, str (vgetText (B3 B)).1 = V := ⟨_, rfl⟩
    obtain ⟨m, hm⟩ : ∃ m, (vgetText (B3 B)).2 = m := ⟨_, rfl⟩
    have hg := S2.refGetText_any _ (B3 B) w4 (HI4.out.below HG4.out)
    have hle := vgetText_le (B3 B)
    unfold S2.TextPost at hg
    rw [hV, hm] at hg
    rw [hm] at hle
    have HG := Lib.hid hg
    have HV := Lib.hid hV
    have hVs : V.size ≤ maxLen := by rw [← hV, str_sz]; have := vgetText_len (B3 B); have : (B3 B).length ≤ B.length := by unfold B3 B2 B1; simp only [List.length_drop]; omega
                                     unfold maxLen; omega
    have HM := Lib.hid hm
    clear hg hV hm
    go_wp2_with fail
    refine HG.out.mono ?_
    rintro e w2' ⟨rfl, rfl⟩
    clear HG hs3 hw4 c2 f2 c40 HR3 HG3
    by_cases h4 : m = 0
    · have HO := Lib.hid (one_4 HKd.out (HM.out.trans h4))
      obtain ⟨w5, hst, HK5, HB5⟩ := back_rec zR HK4.out HB4.out (Nat.le_refl _)
      simp only [zR] at hst
      have hq7 : ((m : Int) == 0) = true := beq_t (by omega)
      go_wp2
      exact one_end rfl rfl rfl rfl HK5.out HO.out HB5
    have hq7 : ((m : Int) == 0) = false := beq_f (by omega)
    obtain ⟨a4, n4, cp4, HN4, hs4, HI5⟩ := from' HI4.out m hle
    have hB4 : (B3 B).drop m = B4 B := by unfold B4; rw [HM.out]
    rw [hB4] at HN4 HI5
    have H4 := Lib.hid h4
    have c3 : w4.cell? ⟨w1.heap.size, 3, none⟩ = some (.string ⟨#[]⟩) := HR4.out.cell rfl
    have f3 : w4.frozen? ⟨w1.heap.size, 3, none⟩ = false := HR4.out.frozen 3
    obtain ⟨w5, hw5⟩ : ∃ w5, w4.setCell ⟨w1.heap.size, 3, none⟩ (.string V) = w5 := ⟨_, rfl⟩
    have HR5 : Hid (Blk w5 w1.heap.size 32 (recL ⟨1, nn, S, V⟩)) := Lib.hid (blk_field HR4.out hw5 rfl)
    have HG5 : Hid (Below w1.heap.size w1 w5) := Lib.hid (bel_field HG4.out hw5 (Nat.le_refl _))
    have HK5 : Hid (Blk w5 w.heap.size 32 (recL zR)) := Lib.hid (HK1.out.below HG5.out HK1.out.lt)
    have HB5 : Hid (Below w.heap.size w w5) := Lib.hid (HB1.out.trans (HG5.out.mono HB1.out.size))
    have hre : rec1 B = ⟨1, nn, S, V⟩ := by
      unfold rec1
      rw [HKd.out, HNN.out, HSV.out, HS.out, HV.out]
      rfl
    have HRE := Lib.hid hre
    have hch := refCheck_any ⟨1, nn, S, V⟩ w5 hSs hVs
    have hld := run_loadR_blk HR5.out
    simp only at hch hld
    clear h4 hB4 HI4 hle HK4 HB4 hre HR4 HG4
    by_cases h5 : n4 = 0
    rotate_left
    · have HO := Lib.hid (one_5 HKd.out fun h => h5 (HN4.out.trans h.1))
      obtain ⟨w6, hst, HK6, HB6⟩ := back_rec zR HK5.out HB5.out (Nat.le_refl _)
      simp only [zR] at hst
      have hq8 : decide ((0 : Int) < (n4 : Int)) = true := by simp; omega
      have hq9 : decide (0 < n4) = true := by simp; omega
      clear hch
      go_wp2
      exact one_end rfl rfl rfl rfl HK6.out HO.out HB6
    obtain ⟨c, hc⟩ : ∃ c, chk ⟨1, nn, S, V⟩ = c := ⟨_, rfl⟩
    rw [hc] at hch
    have HC := Lib.hid hc
    have HCH := Lib.hid hch
    have H5 := Lib.hid (HN4.out.symm.trans h5)
    clear hch hc
    subst h5
    go_wp2_with fail
    refine HCH.out.mono ?_
    rintro e w6 ⟨rfl, hb6⟩
    have HK6 := Lib.hid (HK5.out.below hb6 HK5.out.lt)
    have HR6 := Lib.hid (HR5.out.below hb6 HR5.out.lt)
    have HB6 := Lib.hid (HB5.out.trans (hb6.mono HB5.out.size))
    clear HCH hld hb6 HK5 HR5 HB5 hw5 c3 f3 hs4
    by_cases h6 : c = 0
    rotate_left
    · have HO := Lib.hid (one_5 HKd.out fun h => h6 (by rw [HRE.out, HC.out] at h; exact h.2))
      obtain ⟨w7, hst, HK7, HB7⟩ := back_rec zR HK6.out HB6.out (Nat.le_refl _)
      simp only [zR] at hst
      have hq9 : ((c : Int) != 0) = true := bne_t (by omega)
      go_wp2
      exact one_end rfl rfl rfl rfl HK7.out HO.out HB7
    have HO := Lib.hid (one_6 H0.out (by rw [HKK.out]; exact H1.out) (by rw [HJ.out]; exact H3.out) HKd.out (by rw [HM.out]; exact H4.out) H5.out (by rw [HRE.out, HC.out]; exact h6))
    rw [HRE.out] at HO
    have hld := run_loadR_blk HR6.out
    obtain ⟨w7, hst, HK7, HB7⟩ := back_rec ⟨1, nn, S, V⟩ HK6.out HB6.out (Nat.le_refl _)
    simp only at hst hld
    subst h6
    go_wp2
    exact one_end rfl rfl rfl rfl HK7.out HO.out HB7
  · have hqk : ((k : Int) == 1) = false := beq_f (by omega)
    have hre : rec0 B = ⟨k, nn, S, ⟨#[]⟩⟩ := by
      unfold rec0
      rw [HKd.out, HNN.out, HSV.out, HS.out]
    have HRE := Lib.hid hre
    have hkn : B.getD 0 0 ≠ 1 := by rw [HKd.out]; exact hk1
    have HKN := Lib.hid hkn
    have hch := refCheck_any ⟨k, nn, S, ⟨#[]⟩⟩ w4 hSs (by simp [ByteArray.size])
    have hld := run_loadR_blk HR4.out
    simp only at hch hld
    clear hre hkn HI4 HR3 HG3
    by_cases h5 : n3 = 0
    rotate_left
    · have HO := Lib.hid (one_7 HKN.out fun h => h5 (HN3.out.trans h.1))
      obtain ⟨w6, hst, HK6, HB6⟩ := back_rec zR HK4.out HB4.out (Nat.le_refl _)
      simp only [zR] at hst
      have hq8 : decide ((0 : Int) < (n3 : Int)) = true := by simp; omega
      have hq9 : decide (0 < n3) = true := by simp; omega
      clear hch hk1
      go_wp2
      exact one_end rfl rfl rfl rfl HK6.out HO.out HB6
    obtain ⟨c, hc⟩ : ∃ c, chk ⟨k, nn, S, ⟨#[]⟩⟩ = c := ⟨_, rfl⟩
    rw [hc] at hch
    have HC := Lib.hid hc
    have HCH := Lib.hid hch
    have H5 := Lib.hid (HN3.out.symm.trans h5)
    clear hch hc hk1
    subst h5
    go_wp2_with fail
    refine HCH.out.mono ?_
    rintro e w6 ⟨rfl, hb6⟩
    have HK6 := Lib.hid (HK4.out.below hb6 HK4.out.lt)
    have HR6 := Lib.hid (HR4.out.below hb6 HR4.out.lt)
    have HB6 := Lib.hid (HB4.out.trans (hb6.mono HB4.out.size))
    clear HCH hld hb6 HK4 HR4 HB4 hw4 c2 f2 hs3 c40
    by_cases h6 : c = 0
    rotate_left
    · have HO := Lib.hid (one_7 HKN.out fun h => h6 (by rw [HRE.out, HC.out] at h; exact h.2))
      obtain ⟨w7, hst, HK7, HB7⟩ := back_rec zR HK6.out HB6.out (Nat.le_refl _)
      simp only [zR] at hst
      have hq9 : ((c : Int) != 0) = true := bne_t (by omega)
      go_wp2
      exact one_end rfl rfl rfl rfl HK7.out HO.out HB7
    have HO := Lib.hid (one_8 H0.out (by rw [HKK.out]; exact H1.out) (by rw [HJ.out]; exact H3.out) HKN.out H5.out (by rw [HRE.out, HC.out]; exact h6))
    rw [HRE.out] at HO
    have hld := run_loadR_blk HR6.out
    obtain ⟨w7, hst, HK7, HB7⟩ := back_rec ⟨k, nn, S, ⟨#[]⟩⟩ HK6.out HB6.out (Nat.le_refl _)
    simp only at hst hld
    subst h6
    go_wp2
    exact one_end rfl rfl rfl rfl HK7.out HO.out HB7
end Go.Proofs.YtdjkkohckfndkaaGreatDoor.S14

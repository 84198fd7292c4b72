/- The verifier's EqEdit, where both are the same; EditEnds, walked. -/
import Derived.Test.YtaffmfocjaihlaaDoorEdL
import Derived.Test.YtaffmfocjaihlaaDoorEdK
import Derived.StillTailTactics
set_option linter.unusedSimpArgs false
set_option linter.unusedVariables false
set_option maxRecDepth 100000
namespace Go.Proofs.YtaffmfocjaihlaaDoor.S18
open Go.RowKit S2.Pl S3 S3.Pl
attribute [local go_sem ↓] loadS_eq storeS_eq loadP_eq storeP_eq loadE_eq storeE_eq buildE_eq buildS_eq
set_option maxHeartbeats 16000000 in
theorem eqEdit_same {D D' : Nat → Prop} (e : ED) (a1 : Option Addr) (c1 : Nat) (a2 : Option Addr) (c2 : Nat) (a3 : Option Addr) (c3 : Nat) (a4 : Option Addr) (c4 : Nat) (b1 : Option Addr) (d1 : Nat) (b2 : Option Addr) (d2 : Nat) (b3 : Option Addr) (d3 : Nat) (b4 : Option Addr) (d4 : Nat) (w : World) (ha : EdIn D w e a1 c1 a2 c2 a3 c3 a4 c4) (hb : EdIn D' w e b1 d1 b2 d2 b3 d3 b4 d4) :
    Calls Tryd.prog 14 #[.agg #[.int .i64 e.next, .int .i64 e.seq, .slice a1 e.adds.length c1, .slice a2 e.dels.length c2, .slice a3 e.pars.length c3, .slice a4 e.drops.length c4], .agg #[.int .i64 e.next, .int .i64 e.seq, .slice b1 e.adds.length d1, .slice b2 e.dels.length d2, .slice b3 e.pars.length d3, .slice b4 e.drops.length d4]] w fun r w' => r = .returned (.bool true) ∧ Below w.heap.size w w' := by
  have hb1 : Below w.heap.size w (w.alloc (.cells #[.int .i64 e.next, .int .i64 e.seq, .slice a1 e.adds.length c1, .slice a2 e.dels.length c2, .slice a3 e.pars.length c3, .slice a4 e.drops.length c4] 26)) := (Below.refl _ _).alloc (Nat.le_refl _) _
  have hk1 := Blk.new w 26 (edL e a1 c1 a2 c2 a3 c3 a4 c4)
  obtain ⟨w1, hw1⟩ : ∃ w1, w.alloc (.cells #[.int .i64 e.next, .int .i64 e.seq, .slice a1 e.adds.length c1, .slice a2 e.dels.length c2, .slice a3 e.pars.length c3, .slice a4 e.drops.length c4] 26) = w1 := ⟨_, rfl⟩
  rw [hw1] at hb1
  have hk1' : Blk w1 w.heap.size 26 (edL e a1 c1 a2 c2 a3 c3 a4 c4) := by rw [← hw1]; exact hk1
  have hb2 : Below w1.heap.size w1 (w1.alloc (.cells #[.int .i64 e.next, .int .i64 e.seq, .slice b1 e.adds.length d1, .slice b2 e.dels.length d2, .slice b3 e.pars.length d3, .slice b4 e.drops.length d4] 26)) := (Below.refl _ _).alloc (Nat.le_refl _) _
  have hk2 := Blk.new w1 26 (edL e b1 d1 b2 d2 b3 d3 b4 d4)
  obtain ⟨w2, hw2⟩ : ∃ w2, w1.alloc (.cells #[.int .i64 e.next, .int .i64 e.seq, .slice b1 e.adds.length d1, .slice b2 e.dels.length d2, .slice b3 e.pars.length d3, .slice b4 e.drops.length d4] 26) = w2 := ⟨_, rfl⟩
  rw [hw2] at hb2
  have KB : Hid (Blk w2 w1.heap.size 26 (edL e b1 d1 b2 d2 b3 d3 b4 d4)) := Lib.hid (by rw [← hw2]; exact hk2)
  have KA : Hid (Blk w2 w.heap.size 26 (edL e a1 c1 a2 c2 a3 c3 a4 c4)) := Lib.hid (hk1'.below hb2 hk1'.lt)
  have HB2 : Hid (Below w.heap.size w w2) := Lib.hid (hb1.trans (hb2.mono hb1.size))
  have IA := Lib.hid ((ha.keep (keep_below hb1)).keep (keep_below hb2))
  have IB := Lib.hid ((hb.keep (keep_below hb1)).keep (keep_below hb2))
  have x0 : w2.cell? ⟨w.heap.size, 0, none⟩ = some (.int .i64 e.next) := KA.out.cell rfl
  have x1 : w2.cell? ⟨w.heap.size, 1, none⟩ = some (.int .i64 e.seq) := KA.out.cell rfl
  have x2 : w2.cell? ⟨w.heap.size, 2, none⟩ = some (.slice a1 e.adds.length c1) := KA.out.cell rfl
  have y0 : w2.cell? ⟨w1.heap.size, 0, none⟩ = some (.int .i64 e.next) := KB.out.cell rfl
  have y1 : w2.cell? ⟨w1.heap.size, 1, none⟩ = some (.int .i64 e.seq) := KB.out.cell rfl
  have y2 : w2.cell? ⟨w1.heap.size, 2, none⟩ = some (.slice b1 e.adds.length d1) := KB.out.cell rfl
  have f1 := eqSegs_same _ _ e.adds w2 IA.out.adds IB.out.adds
  clear hb1 hk1 hk1' hb2 hk2 ha hb
  go_enter Tryd.func14, Tryd.ntmps14
  go_wp2_with fail
  refine f1.mono ?_
  rintro r w3 ⟨rfl, hb3⟩
  have KA3 := Lib.hid (KA.out.below hb3 KA.out.lt)
  have KB3 := Lib.hid (KB.out.below hb3 KB.out.lt)
  have HB3 := Lib.hid (HB2.out.trans (hb3.mono HB2.out.size))
  have IA3 := Lib.hid (IA.out.keep (keep_below hb3))
  have IB3 := Lib.hid (IB.out.keep (keep_below hb3))
  have x4 : w3.cell? ⟨w.heap.size, 4, none⟩ = some (.slice a3 e.pars.length c3) := KA3.out.cell rfl
  have y4 : w3.cell? ⟨w1.heap.size, 4, none⟩ = some (.slice b3 e.pars.length d3) := KB3.out.cell rfl
  have f2 := eqPars_same _ _ e.pars w3 IA3.out.pars IB3.out.pars
  clear f1 hb3 x0 x1 x2 y0 y1 y2 hw1 hw2
  go_wp2_with fail
  refine f2.mono ?_
  rintro r w4 ⟨rfl, hb4⟩
  have KA4 := Lib.hid (KA3.out.below hb4 KA3.out.lt)
  have KB4 := Lib.hid (KB3.out.below hb4 KB3.out.lt)
  have HB4 := Lib.hid (HB3.out.trans (hb4.mono HB3.out.size))
  have IA4 := Lib.hid (IA3.out.keep (keep_below hb4))
  have IB4 := Lib.hid (IB3.out.keep (keep_below hb4))
  have x3 : w4.cell? ⟨w.heap.size, 3, none⟩ = some (.slice a2 e.dels.length c2) := KA4.out.cell rfl
  have y3 : w4.cell? ⟨w1.heap.size, 3, none⟩ = some (.slice b2 e.dels.length d2) := KB4.out.cell rfl
  have f3 := eqNums_same _ _ e.dels w4 IA4.out.dels IB4.out.dels
  clear f2 hb4 x4 y4
  go_wp2_with fail
  refine f3.mono ?_
  rintro r w5 ⟨rfl, hb5⟩
  have KA5 := Lib.hid (KA4.out.below hb5 KA4.out.lt)
  have KB5 := Lib.hid (KB4.out.below hb5 KB4.out.lt)
  have HB5 := Lib.hid (HB4.out.trans (hb5.mono HB4.out.size))
  have IA5 := Lib.hid (IA4.out.keep (keep_below hb5))
  have IB5 := Lib.hid (IB4.out.keep (keep_below hb5))
  have x5 : w5.cell? ⟨w.heap.size, 5, none⟩ = some (.slice a4 e.drops.length c4) := KA5.out.cell rfl
  have y5 : w5.cell? ⟨w1.heap.size, 5, none⟩ = some (.slice b4 e.drops.length d4) := KB5.out.cell rfl
  have f4 := eqNums_same _ _ e.drops w5 IA5.out.drops IB5.out.drops
  clear f3 hb5 x3 y3
  go_wp2_with fail
  refine f4.mono ?_
  rintro r w6 ⟨rfl, hb6⟩
  have HB6 := Lib.hid (HB5.out.trans (hb6.mono HB5.out.size))
  clear f4 hb6
  go_wp2
  go_ret
  exact ⟨rfl, HB6.out⟩
/-! EditEnds -/
theorem sum0 : sumW 0 := ⟨by decide, by decide⟩
def eEnds (next seq num group member size : Int) : ED := ⟨next, seq, [⟨num, false, group, member, size, 0⟩], [], [], []⟩
theorem eEnds_w (next seq num group member size : Int) : EdW (eEnds next seq num group member size) := ⟨by intro s hs; simp [eEnds] at hs; subst hs; exact sum0, by intro p hp; simp [eEnds] at hp⟩
theorem eEnds_b {next seq num group member size : Int} : edB (eEnds next seq num group member size) = true ↔ (0 ≤ next ∧ next ≤ 1125899906842624 ∧ 0 ≤ seq ∧ seq ≤ 1125899906842624 ∧ 1 ≤ num ∧ num ≤ 1125899906842624 ∧ 0 ≤ group ∧ group ≤ 1125899906842624 ∧ 0 ≤ member ∧ member ≤ 3 ∧ 0 ≤ size ∧ size ≤ 4194304) := by
  rw [edB_iff]
  have e3 : ∀ x : SG, allB segB [x] = true ↔ segB x = true := fun x => by simp [allB]
  have e4 : allB numB [] = true := rfl
  have e5 : allB parB [] = true := rfl
  simp only [eEnds, e3, e4, e5, and_true]
  unfold segB numB sizB
  simp only [Bool.and_eq_true, inB_iff]
  constructor
  · intro ⟨⟨h1, h2⟩, ⟨h3, h4⟩, ⟨⟨⟨h5, h6⟩, h7, h8⟩, h9, h10⟩, h11, h12⟩
    exact ⟨h1, h2, h3, h4, h5, h6, h7, h8, h9, h10, h11, h12⟩
  · intro ⟨h1, h2, h3, h4, h5, h6, h7, h8, h9, h10, h11, h12⟩
    exact ⟨⟨h1, h2⟩, ⟨h3, h4⟩, ⟨⟨⟨h5, h6⟩, h7, h8⟩, h9, h10⟩, h11, h12⟩
theorem run_buildS4 (w : World) (a b c d : Int) : (buildS #[(0, .int .i64 a), (2, .int .i64 b), (3, .int .i64 c), (4, .int .i64 d)]).run Tryd.prog w = .ok (.agg #[.int .i64 a, .bool false, .int .i64 b, .int .i64 c, .int .i64 d, .int .u32 0]) w := by kernel_rfl
theorem run_buildE3 (w : World) (n s : Int) (a1 : Option Addr) (n1 c1 : Nat) : (buildE #[(0, .int .i64 n), (1, .int .i64 s), (2, .slice a1 n1 c1)]).run Tryd.prog w = .ok (.agg #[.int .i64 n, .int .i64 s, .slice a1 n1 c1, .slice none 0 0, .slice none 0 0, .slice none 0 0]) w := by kernel_rfl
attribute [local go_sem] run_buildS4 run_buildE3
/-- what one answer is made of -/
theorem bytes_of {w1 w2 : World} {e : ED} {sp : Option Addr} {n cap : Nat} (hn : (encE e).length = n) (h : w2.ownsRow w1.heap.size 5 1 (.slice sp n cap) n (u8s (encE e))) : IsBytes w2 (.slice sp n cap) (encE e) := by
  subst hn
  exact isBytes_own (encE_lt e) h
set_option maxHeartbeats 32000000 in
theorem editEnds_walk (next seq num group member size : Int) (w : World) (hT : Tab w) (h1 : (Lit.int .i64 next).wf = true) (h2 : (Lit.int .i64 seq).wf = true) (h3 : (Lit.int .i64 num).wf = true) (h4 : (Lit.int .i64 group).wf = true) (h5 : (Lit.int .i64 member).wf = true) (h6 : (Lit.int .i64 size).wf = true) :
    Calls Tryd.prog 6 #[.int .i64 next, .int .i64 seq, .int .i64 num, .int .i64 group, .int .i64 member, .int .i64 size] w fun e w' => e = .returned (.bool true) ∧ Below w.heap.size w w' := by
  clear h1 h2 h3 h4 h5 h6
  have HBEG := Lib.hid (begun_any w hT)
  have HT := Lib.hid hT
  clear hT
  go_enter Tryd.func6, Tryd.ntmps6
  go_wp2_with fail
  refine HBEG.out.mono ?_
  rintro r w1 ⟨rfl, hb1⟩
  have HB1 := Lib.hid hb1
  have hb2 : Below w1.heap.size w1 (w1.alloc (.cells #[.int .i64 num, .bool false, .int .i64 group, .int .i64 member, .int .i64 size, .int .u32 0] 45)) := (Below.refl _ _).alloc (Nat.le_refl _) _
  have hs2 := segs_new w1 ⟨num, false, group, member, size, 0⟩ sum0
  obtain ⟨w2, hw2⟩ : ∃ w2, w1.alloc (.cells #[.int .i64 num, .bool false, .int .i64 group, .int .i64 member, .int .i64 size, .int .u32 0] 45) = w2 := ⟨_, rfl⟩
  rw [hw2] at hb2
  have hs2' : IsSegs (fun b => b = w1.heap.size) w2 (.slice (some ⟨w1.heap.size, 0, none⟩) 1 1) [⟨num, false, group, member, size, 0⟩] := by rw [← hw2]; exact hs2
  have hA3 : Below w2.heap.size w2 (w2.alloc (.cells #[.int .i64 0, .int .i64 0, .slice none 0 0, .slice none 0 0, .slice none 0 0, .slice none 0 0] 26)) := (Below.refl _ _).alloc (Nat.le_refl _) _
  have hN3 := Blk.new w2 26 (edL zE none 0 none 0 none 0 none 0)
  obtain ⟨w3, hst, HK3, HS3⟩ := putE (a1 := some ⟨w1.heap.size, 0, none⟩) (c1 := 1) (a2 := none) (c2 := 0) (a3 := none) (c3 := 0) (a4 := none) (c4 := 0) (eEnds next seq num group member size) hN3 rfl
  have hb23 : Below w2.heap.size w2 w3 := hA3.trans (Gr.below HS3.out hA3.size (Nat.le_refl _))
  have HI3 : Hid (EdIn (fun b => b = w1.heap.size) w3 (eEnds next seq num group member size) (some ⟨w1.heap.size, 0, none⟩) 1 none 0 none 0 none 0) := Lib.hid (EdIn.keep ⟨hs2', RowD.nil, RowD.nil, RowD.nil⟩ (keep_below hb23))
  have HB3 : Hid (Below w.heap.size w w3) := Lib.hid (HB1.out.trans ((hb2.trans (hb23.mono hb2.size)).mono HB1.out.size))
  have hld := run_loadE_blk _ HK3.out
  have hen := encode_any (eEnds next seq num group member size) _ _ _ _ _ _ _ _ w3 (HT.out.below HB3.out) HI3.out
  simp only [edL, eEnds, zE, List.length_nil, List.length_singleton] at hst hld hen
  have HEB := Lib.hid (@eEnds_b next seq num group member size)
  clear hb1 hb2 hs2 hs2' hA3 hN3 hb23 HBEG
  have hcases : edB (eEnds next seq num group member size) = false ∨ edB (eEnds next seq num group member size) = true := by cases edB (eEnds next seq num group member size) <;> simp
  rcases hcases with hed | hed
  · have HBD := Lib.hid (enc_bad hed).1
    have hc : chkE ⟨next, seq, [⟨num, false, group, member, size, 0⟩], [], [], []⟩ = 10 := (enc_bad hed).2
    have hno : ¬ (0 ≤ next ∧ next ≤ 1125899906842624 ∧ 0 ≤ seq ∧ seq ≤ 1125899906842624 ∧ 1 ≤ num ∧ num ≤ 1125899906842624 ∧ 0 ≤ group ∧ group ≤ 1125899906842624 ∧ 0 ≤ member ∧ member ≤ 3 ∧ 0 ≤ size ∧ size ≤ 4194304) := fun h => by
      have := HEB.out.2 h
      rw [hed] at this
      cases this
    clear hed
    have HEN := Lib.hid hen
    have HC := Lib.hid hc
    clear hen hc
    by_cases p0 : 0 ≤ next
    rotate_left
    · have q : decide (0 ≤ next) = false := decide_eq_false p0
      go_wp2_with fail
      refine HEN.out.mono ?_
      rintro r w4 ⟨sp, n, cap, rfl, hn, ho4, hb4⟩
      rw [HC.out]
      have hn0 : n = 0 := by have hb := HBD.out; unfold eEnds at hb; rw [hb] at hn; exact hn.symm
      subst hn0
      have HB4 := Lib.hid (HB3.out.trans (hb4.out.mono HB3.out.size))
      clear hn ho4 hb4
      go_wp2
      go_ret
      exact ⟨rfl, HB4.out⟩
    by_cases p1 : next ≤ 1125899906842624
    rotate_left
    · have q : decide (next ≤ 1125899906842624) = false := decide_eq_false p1
      go_wp2_with fail
      refine HEN.out.mono ?_
      rintro r w4 ⟨sp, n, cap, rfl, hn, ho4, hb4⟩
      rw [HC.out]
      have hn0 : n = 0 := by have hb := HBD.out; unfold eEnds at hb; rw [hb] at hn; exact hn.symm
      subst hn0
      have HB4 := Lib.hid (HB3.out.trans (hb4.out.mono HB3.out.size))
      clear hn ho4 hb4
      go_wp2
      go_ret
      exact ⟨rfl, HB4.out⟩
    by_cases p2 : 0 ≤ seq
    rotate_left
    · have q : decide (0 ≤ seq) = false := decide_eq_false p2
      go_wp2_with fail
      refine HEN.out.mono ?_
      rintro r w4 ⟨sp, n, cap, rfl, hn, ho4, hb4⟩
      rw [HC.out]
      have hn0 : n = 0 := by have hb := HBD.out; unfold eEnds at hb; rw [hb] at hn; exact hn.symm
      subst hn0
      have HB4 := Lib.hid (HB3.out.trans (hb4.out.mono HB3.out.size))
      clear hn ho4 hb4
      go_wp2
      go_ret
      exact ⟨rfl, HB4.out⟩
    by_cases p3 : seq ≤ 1125899906842624
    rotate_left
    · have q : decide (seq ≤ 1125899906842624) = false := decide_eq_false p3
      go_wp2_with fail
      refine HEN.out.mono ?_
      rintro r w4 ⟨sp, n, cap, rfl, hn, ho4, hb4⟩
      rw [HC.out]
      have hn0 : n = 0 := by have hb := HBD.out; unfold eEnds at hb; rw [hb] at hn; exact hn.symm
      subst hn0
      have HB4 := Lib.hid (HB3.out.trans (hb4.out.mono HB3.out.size))
      clear hn ho4 hb4
      go_wp2
      go_ret
      exact ⟨rfl, HB4.out⟩
    by_cases p4 : 1 ≤ num
    rotate_left
    · have q : decide (1 ≤ num) = false := decide_eq_false p4
      go_wp2_with fail
      refine HEN.out.mono ?_
      rintro r w4 ⟨sp, n, cap, rfl, hn, ho4, hb4⟩
      rw [HC.out]
      have hn0 : n = 0 := by have hb := HBD.out; unfold eEnds at hb; rw [hb] at hn; exact hn.symm
      subst hn0
      have HB4 := Lib.hid (HB3.out.trans (hb4.out.mono HB3.out.size))
      clear hn ho4 hb4
      go_wp2
      go_ret
      exact ⟨rfl, HB4.out⟩
    by_cases p5 : num ≤ 1125899906842624
    rotate_left
    · have q : decide (num ≤ 1125899906842624) = false := decide_eq_false p5
      go_wp2_with fail
      refine HEN.out.mono ?_
      rintro r w4 ⟨sp, n, cap, rfl, hn, ho4, hb4⟩
      rw [HC.out]
      have hn0 : n = 0 := by have hb := HBD.out; unfold eEnds at hb; rw [hb] at hn; exact hn.symm
      subst hn0
      have HB4 := Lib.hid (HB3.out.trans (hb4.out.mono HB3.out.size))
      clear hn ho4 hb4
      go_wp2
      go_ret
      exact ⟨rfl, HB4.out⟩
    by_cases p6 : 0 ≤ group
    rotate_left
    · have q : decide (0 ≤ group) = false := decide_eq_false p6
      go_wp2_with fail
      refine HEN.out.mono ?_
      rintro r w4 ⟨sp, n, cap, rfl, hn, ho4, hb4⟩
      rw [HC.out]
      have hn0 : n = 0 := by have hb := HBD.out; unfold eEnds at hb; rw [hb] at hn; exact hn.symm
      subst hn0
      have HB4 := Lib.hid (HB3.out.trans (hb4.out.mono HB3.out.size))
      clear hn ho4 hb4
      go_wp2
      go_ret
      exact ⟨rfl, HB4.out⟩
    by_cases p7 : group ≤ 1125899906842624
    rotate_left
    · have q : decide (group ≤ 1125899906842624) = false := decide_eq_false p7
      go_wp2_with fail
      refine HEN.out.mono ?_
      rintro r w4 ⟨sp, n, cap, rfl, hn, ho4, hb4⟩
      rw [HC.out]
      have hn0 : n = 0 := by have hb := HBD.out; unfold eEnds at hb; rw [hb] at hn; exact hn.symm
      subst hn0
      have HB4 := Lib.hid (HB3.out.trans (hb4.out.mono HB3.out.size))
      clear hn ho4 hb4
      go_wp2
      go_ret
      exact ⟨rfl, HB4.out⟩
    by_cases p8 : 0 ≤ member
    rotate_left
    · have q : decide (0 ≤ member) = false := decide_eq_false p8
      go_wp2_with fail
      refine HEN.out.mono ?_
      rintro r w4 ⟨sp, n, cap, rfl, hn, ho4, hb4⟩
      rw [HC.out]
      have hn0 : n = 0 := by have hb := HBD.out; unfold eEnds at hb; rw [hb] at hn; exact hn.symm
      subst hn0
      have HB4 := Lib.hid (HB3.out.trans (hb4.out.mono HB3.out.size))
      clear hn ho4 hb4
      go_wp2
      go_ret
      exact ⟨rfl, HB4.out⟩
    by_cases p9 : member ≤ 3
    rotate_left
    · have q : decide (member ≤ 3) = false := decide_eq_false p9
      go_wp2_with fail
      refine HEN.out.mono ?_
      rintro r w4 ⟨sp, n, cap, rfl, hn, ho4, hb4⟩
      rw [HC.out]
      have hn0 : n = 0 := by have hb := HBD.out; unfold eEnds at hb; rw [hb] at hn; exact hn.symm
      subst hn0
      have HB4 := Lib.hid (HB3.out.trans (hb4.out.mono HB3.out.size))
      clear hn ho4 hb4
      go_wp2
      go_ret
      exact ⟨rfl, HB4.out⟩
    by_cases p10 : 0 ≤ size
    rotate_left
    · have q : decide (0 ≤ size) = false := decide_eq_false p10
      go_wp2_with fail
      refine HEN.out.mono ?_
      rintro r w4 ⟨sp, n, cap, rfl, hn, ho4, hb4⟩
      rw [HC.out]
      have hn0 : n = 0 := by have hb := HBD.out; unfold eEnds at hb; rw [hb] at hn; exact hn.symm
      subst hn0
      have HB4 := Lib.hid (HB3.out.trans (hb4.out.mono HB3.out.size))
      clear hn ho4 hb4
      go_wp2
      go_ret
      exact ⟨rfl, HB4.out⟩
    by_cases p11 : size ≤ 4194304
    rotate_left
    · have q : decide (size ≤ 4194304) = false := decide_eq_false p11
      go_wp2_with fail
      refine HEN.out.mono ?_
      rintro r w4 ⟨sp, n, cap, rfl, hn, ho4, hb4⟩
      rw [HC.out]
      have hn0 : n = 0 := by have hb := HBD.out; unfold eEnds at hb; rw [hb] at hn; exact hn.symm
      subst hn0
      have HB4 := Lib.hid (HB3.out.trans (hb4.out.mono HB3.out.size))
      clear hn ho4 hb4
      go_wp2
      go_ret
      exact ⟨rfl, HB4.out⟩
    exact absurd ⟨p0, p1, p2, p3, p4, p5, p6, p7, p8, p9, p10, p11⟩ hno
  · obtain ⟨p1, p2, p3, p4, p5, p6, p7, p8, p9, p10, p11, p12⟩ := HEB.out.1 hed
    have hc : chkE ⟨next, seq, [⟨num, false, group, member, size, 0⟩], [], [], []⟩ = 0 := (enc_good hed).2
    have HF : Hid (Fine (eEnds next seq num group member size)) := Lib.hid ⟨hed, eEnds_w _ _ _ _ _ _⟩
    have HC := Lib.hid hc
    have HEN := Lib.hid hen
    clear hen hc hed
    go_wp2_with fail
    refine HEN.out.mono ?_
    rintro r w4 ⟨sp, n, cap, rfl, hn, ho4, hb4⟩
    rw [HC.out]
    have hib : IsBytes w4 (.slice sp n cap) (encE (eEnds next seq num group member size)) := bytes_of hn ho4.out
    have HB4 := Lib.hid (HB3.out.trans (hb4.out.mono HB3.out.size))
    have HK4 := Lib.hid (HK3.out.below hb4.out HK3.out.lt)
    have HI4 := Lib.hid (HI3.out.keep (keep_below hb4.out))
    have hnl : n ≤ 20012 := by rw [← hn]; exact encE_len HF.out.2
    have hsc := scan_any (.slice sp n cap) (encE (eEnds next seq num group member size)) w4 (HT.out.below HB4.out) hib (by have : (encE (eEnds next seq num group member size)).length = n := hn; omega)
    unfold ScanPost at hsc
    have hn' : (encE (eEnds next seq num group member size)).length = n := hn
    rw [scan_one HF.out, hn'] at hsc
    have HSC := Lib.hid hsc
    clear hn hn' ho4 hb4 hib hsc hst hld hw2 HEN p1 p2 p3 p4 p5 p6 p7 p8 p9 p10 p11 p12
    go_wp2_with fail
    refine HSC.out.mono ?_
    rintro r w5 ⟨sq, cq, rfl, ho5, hb5⟩
    obtain ⟨b, off, a1, c1, a2, c2, a3, c3, a4, c4, rfl, hbl, hu, hI⟩ := eds_cells (OwnEds.row ho5.out) (i := 0) (e := eEnds next seq num group member size) rfl
    have HK5 := Lib.hid (HK4.out.below hb5.out HK4.out.lt)
    have hld1 : (loadE (.pointer (some ⟨b, off, none⟩))).run Tryd.prog w5.drew = .ok (.agg (edL (eEnds next seq num group member size) a1 c1 a2 c2 a3 c3 a4 c4).toArray) w5.drew := run_loadE rfl fun j v hj => by have := hu j v hj; rw [Nat.zero_mul, Nat.add_zero] at this; exact this
    have hld2 : (loadE (.pointer (some ⟨w2.heap.size, 0, none⟩))).run Tryd.prog w5.drew = .ok (.agg (edL (eEnds next seq num group member size) (some ⟨w1.heap.size, 0, none⟩) 1 none 0 none 0 none 0).toArray) w5.drew := run_loadE_blk (w := w5.drew) _ HK5.out
    have HB5 := Lib.hid (HB4.out.trans (hb5.out.mono HB4.out.size))
    have heq := fun (W : World) (hW : Below w5.heap.size w5 W) => eqEdit_same (eEnds next seq num group member size) a1 c1 a2 c2 a3 c3 a4 c4 _ _ _ _ _ _ _ _ W (hI.keep (keep_below hW)) (HI4.out.keep (keep_below (hb5.out.trans (hW.mono hb5.out.size))))
    simp only [edL, eEnds, List.length_nil, List.length_singleton] at hld1 hld2 heq
    have HEQ := Lib.hid heq
    clear HSC ho5 hb5 hu hI heq
    go_wp2_with fail
    go_still_tail 21, (by kernel_rfl)
    change wpList _ _ _ _ _ w5.drew
    have hq := HEQ.out w5.drew (Below.refl _ _).drew
    go_wp2_with fail
    refine hq.mono ?_
    rintro r w6 ⟨rfl, hb6⟩
    have HB6 := Lib.hid (HB5.out.drew.trans (hb6.mono HB5.out.size))
    clear hq hb6 hld1 hld2
    go_wp2
    go_ret
    exact ⟨rfl, HB6.out⟩
end Go.Proofs.YtaffmfocjaihlaaDoor.S18

/- Texts put together: EdC, EdD. -/
import Derived.Test.YthgpdnffahmhjaaGreatDoorMg2
import Derived.Test.YthgpdnffahmhjaaGreatDoorMg5
import Derived.Test.YthgpdnffahmhjaaGreatDoorMg15
set_option linter.unusedSimpArgs false
set_option linter.unusedVariables false
set_option maxRecDepth 100000
namespace Go.Proofs.YthgpdnffahmhjaaGreatDoor.S18
open Go.RowKit S2.Pl S2
theorem run_fromB {w : World} {a0 : Option Addr} {cap0 : Nat} {B : List Nat} (hv : IsBytes w (.slice a0 B.length cap0) B) (k : Nat) (hk : k ≤ B.length) :
    ∃ a c, (∀ W, (sliceU8 (.slice a0 B.length cap0) (some (.int .i64 k)) none none).run Tryz.prog W = .ok (.slice a (B.length - k) c) W) ∧ IsBytes w (.slice a (B.length - k) c) (B.drop k) ∧ ∀ x, a = some x → ∃ y, a0 = some y ∧ x.block = y.block := by
  have hv0 := hv
  obtain ⟨a, cap, he, hcap, hmax⟩ := hv.slice
  simp at he
  obtain ⟨rfl, rfl⟩ := he
  refine ⟨if cap0 = k then a0 else a0.map (·.add (k * 1)), cap0 - k, ?_, ?_, ?_⟩
  rotate_left
  · have := isBytes_sliced hv k (B.length - k) (by omega)
    rw [List.take_of_length_le (by simp)] at this
    unfold sliced at this
    rw [Nat.add_sub_cancel_left] at this
    exact this
  · intro x hx
    split at hx
    · exact ⟨x, hx, rfl⟩
    · cases a0 with
      | none => cases hx
      | some y =>
        simp at hx
        subst hx
        exact ⟨y, rfl, by unfold Addr.add; split <;> rfl⟩
  · intro W
    unfold sliceU8
    rw [run_sliceAt_slice _ _ _ _ _ _ und_u8s, run_slice_l _ _ _ _ _ und_u8s _ _ (by omega) (by omega), run_size_u8, Int.toNat_natCast]
    rfl
def RdAt (w : World) (p : Nat) (s : RS) : Prop := ∃ a c n, s.1.length = n ∧ Blk w p 149 [.slice a n c, .bool s.2] ∧ IsBytes w (.slice a n c) s.1 ∧ (0 < s.1.length → ∀ x, a = some x → x.block < p)
theorem RdAt.lt {w : World} {p : Nat} {s : RS} (h : RdAt w p s) : p < w.heap.size := by
  obtain ⟨_, _, _, _, hk, _⟩ := h
  exact hk.lt
theorem RdAt.keep {w w' : World} {p : Nat} {s : RS} (h : RdAt w p s) {r : Option Nat} (hg : w.grownBy w' r) (hr : ∀ g, r = some g → p < g) : RdAt w' p s := by
  obtain ⟨a, c, n, hn, hk, hb, hlt⟩ := h
  refine ⟨a, c, n, hn, hk.grown hg (fun e => by have := hr p e.symm; omega), hb.row hg (fun a' n' c' he h0 e => ?_), hlt⟩
  simp at he
  have h1 := hlt h0 a' he.1
  have h2 := hr a'.block e.symm
  omega
theorem RdAt.below {w w' : World} {p : Nat} {s : RS} (h : RdAt w p s) (hb : Below w.heap.size w w') : RdAt w' p s := h.keep (gr_below hb) (by simp)
def RPost (v : Value) (s' : RS) (p : Nat) (w : World) (e : Ending) (w' : World) : Prop := e = .returned v ∧ RdAt w' p s' ∧ Gr w w' p
theorem upT_none {m : Nat} {s : RS} (h : (vget s.1).2 = 0 ∨ m < (vget s.1).1) : upT m s = (0, ([], true)) := by unfold upT; rw [if_pos h]
theorem upT_some {m : Nat} {s : RS} (h : ¬ ((vget s.1).2 = 0 ∨ m < (vget s.1).1)) : upT m s = ((vget s.1).1, (s.1.drop (vget s.1).2, s.2)) := by unfold upT; rw [if_neg h]
theorem wrap_u64s {m : Nat} (h : m < 9223372036854775808) : IntKind.u64.wrap (m : Int) = (m : Int) := by rw [IntKind.wrap_u64]; omega
theorem wrap_i64s {m : Nat} (h : m < 9223372036854775808) : IntKind.i64.wrap (m : Int) = (m : Int) := by
  unfold IntKind.wrap
  simp [IntKind.signed, IntKind.bits]
  omega
theorem rd_new {w w' : World} {p : Nat} {a a' : Option Addr} {n n' c c' : Nat} {b b' : Bool} {s' : RS} (hk : Blk w p 149 [.slice a n c, .bool b]) (hk' : Blk w' p 149 [.slice a' n' c', .bool b']) (hg : Gr w w' p) (hb : IsBytes w (.slice a' n' c') s'.1) (hn : s'.1.length = n') (hb' : s'.2 = b') (hl : 0 < s'.1.length → ∀ x, a' = some x → x.block < p) : RdAt w' p s' := by
  obtain ⟨B, b0⟩ := s'
  simp only at hb hn hb' hl
  subst hb'
  refine ⟨a', c', n', hn, hk', hb.row hg (fun x n2 c2 he h0 e => ?_), hl⟩
  simp at he
  have := hl h0 x he.1
  have e2 : x.block = p := by simpa using e
  omega
attribute [local go_sem ↓] loadS_eq storeS_eq buildS_eq sliceU8_eq
set_option maxHeartbeats 8000000 in
theorem upTo_any (m : Nat) (s : RS) (p : Nat) (w : World) (hm : m ≤ 9007199254740992) (h : RdAt w p s) {n : Nat} {s' : RS} (hu : upT m s = (n, s')) :
    Calls Tryz.prog 115 #[.pointer (some ⟨p, 0, none⟩), .int .i64 m] w (RPost (.int .i64 n) s' p w) := by
  obtain ⟨B, b0⟩ := s
  obtain ⟨a, c, l, hl, hk, hb, hlt⟩ := h
  simp only at hl hk hb hlt
  have d0 : w.cell? ⟨p, 0, none⟩ = some (.slice a l c) := hk.cell rfl
  have fz0 : w.frozen? ⟨p, 0, none⟩ = false := hk.frozen 0
  have fz1 : w.frozen? ⟨p, 1, none⟩ = false := hk.frozen 1
  have d1 : w.cell? ⟨p, 1, none⟩ = some (.bool b0) := hk.cell rfl
  have hg := vget_any _ B w hb
  unfold VGetPost at hg
  have hw := wrap_u64s (m := m) (by omega)
  have hle := vget_le B
  by_cases hc : (vget B).2 = 0 ∨ m < (vget B).1
  · have hn : (n, s') = (0, ([], true)) := hu.symm.trans (upT_none hc)
    simp at hn
    obtain ⟨rfl, rfl⟩ := hn
    have hfin : ∀ w', (w.setCell ⟨p, 0, none⟩ (.slice none 0 0)).setCell ⟨p, 1, none⟩ (.bool true) = w' → RPost (.int .i64 (0 : Nat)) ([], true) p w (.returned (.int .i64 0)) w' := fun w' hw' => by
      have hk' : Blk w' p 149 [.slice none 0 0, .bool true] := by rw [← hw']; exact (hk.set 0 _).set 1 _
      have hg' : Gr w w' p := by rw [← hw']; exact ((Gr.refl w p).setCell 0 _).setCell 1 _
      exact ⟨rfl, rd_new hk hk' hg' (isBytes_nil w) rfl rfl (fun h0 => by simp at h0), hg'⟩
    have HF := Lib.hid hfin
    obtain ⟨g1, hg1⟩ : ∃ g, (vget B).1 = g := ⟨_, rfl⟩
    obtain ⟨g2, hg2⟩ : ∃ g, (vget B).2 = g := ⟨_, rfl⟩
    rw [hg1, hg2] at hg hc
    clear hfin hb hu hk hle hg1 hg2
    by_cases h0 : g2 = 0
    · have q : ((g2 : Int) == 0) = true := beq_t (by omega)
      go_enter Tryz.func115, Tryz.ntmps115
      go_wp2_with fail
      refine hg.mono ?_
      rintro e w' ⟨rfl, rfl⟩
      go_wp2
      go_ret
      exact HF.out _ rfl
    · have q : ((g2 : Int) == 0) = false := beq_f (by omega)
      have h1 : m < g1 := by omega
      have q1 : decide ((m : Int) < (g1 : Int)) = true := decide_eq_true (by omega)
      have q2 : decide (m < g1) = true := decide_eq_true h1
      go_enter Tryz.func115, Tryz.ntmps115
      go_wp2_with fail
      refine hg.mono ?_
      rintro e w' ⟨rfl, rfl⟩
      go_wp2
      go_ret
      exact HF.out _ rfl
  · have hn : (n, s') = ((vget B).1, (B.drop (vget B).2, b0)) := hu.symm.trans (upT_some hc)
    simp at hn
    obtain ⟨rfl, rfl⟩ := hn
    subst hl
    obtain ⟨a', c', hsl, hb', hblk⟩ := run_fromB hb (vget B).2 hle.2.1
    have hfin : ∀ w', w.setCell ⟨p, 0, none⟩ (.slice a' (B.length - (vget B).2) c') = w' → RPost (.int .i64 ((vget B).1 : Nat)) (B.drop (vget B).2, b0) p w (.returned (.int .i64 ((vget B).1 : Nat))) w' := fun w' hw' => by
      have hk' : Blk w' p 149 [.slice a' (B.length - (vget B).2) c', .bool b0] := by rw [← hw']; exact hk.set 0 _
      have hg' : Gr w w' p := by rw [← hw']; exact (Gr.refl w p).setCell 0 _
      exact ⟨rfl, rd_new hk hk' hg' hb' (by simp) rfl fun h0 x hx => by
        obtain ⟨y, hy, e⟩ := hblk x hx
        have := hlt (by simp at h0 ⊢; omega) y hy
        omega, hg'⟩
    have HF := Lib.hid hfin
    obtain ⟨g1, hg1⟩ : ∃ g, (vget B).1 = g := ⟨_, rfl⟩
    obtain ⟨g2, hg2⟩ : ∃ g, (vget B).2 = g := ⟨_, rfl⟩
    obtain ⟨l, hl⟩ : ∃ l, B.length = l := ⟨_, rfl⟩
    rw [hg1, hg2] at hg hc ⊢
    rw [hg1, hg2, hl] at HF
    rw [hg2, hl] at hsl
    rw [hl] at d0 hg
    clear hfin hb hu hk hle hg1 hg2 hb' hblk hlt hl
    have h0 : g2 ≠ 0 := by omega
    have q : ((g2 : Int) == 0) = false := beq_f (by omega)
    have h1 : ¬ m < g1 := by omega
    have q1 : decide ((m : Int) < (g1 : Int)) = false := decide_eq_false (by omega)
    have q2 : decide (m < g1) = false := decide_eq_false h1
    have hw2 := wrap_i64s (m := g1) (by omega)
    go_enter Tryz.func115, Tryz.ntmps115
    go_wp2_with fail
    refine hg.mono ?_
    rintro e w' ⟨rfl, rfl⟩
    go_wp2
    go_ret
    exact HF.out _ rfl
set_option maxHeartbeats 4000000 in
theorem num_any (s : RS) (p : Nat) (w : World) (h : RdAt w p s) {n : Int} {s' : RS} (hu : rNum s = (n, s')) :
    Calls Tryz.prog 88 #[.pointer (some ⟨p, 0, none⟩)] w (RPost (.int .i64 n) s' p w) := by
  obtain ⟨k, s1, hk⟩ : ∃ k s1, upT 1125899906842624 s = (k, s1) := ⟨_, _, rfl⟩
  have e : ((k : Int), s1) = (n, s') := by rw [← hu]; unfold rNum; rw [hk]
  simp at e
  obtain ⟨rfl, rfl⟩ := e
  have f := upTo_any 1125899906842624 s p w (by decide) h hk
  clear h hu hk
  go_enter Tryz.func88, Tryz.ntmps88
  go_wp2_with fail
  refine f.mono ?_
  rintro e w' ⟨rfl, h1, h2⟩
  go_wp2
  go_ret
  exact ⟨rfl, h1, h2⟩
set_option maxHeartbeats 4000000 in
theorem size_any (s : RS) (p : Nat) (w : World) (h : RdAt w p s) {n : Int} {s' : RS} (hu : rSize s = (n, s')) :
    Calls Tryz.prog 116 #[.pointer (some ⟨p, 0, none⟩)] w (RPost (.int .i64 n) s' p w) := by
  obtain ⟨k, s1, hk⟩ : ∃ k s1, upT 4194304 s = (k, s1) := ⟨_, _, rfl⟩
  have e : ((k : Int), s1) = (n, s') := by rw [← hu]; unfold rSize; rw [hk]
  simp at e
  obtain ⟨rfl, rfl⟩ := e
  have f := upTo_any 4194304 s p w (by decide) h hk
  clear h hu hk
  go_enter Tryz.func116, Tryz.ntmps116
  go_wp2_with fail
  refine f.mono ?_
  rintro e w' ⟨rfl, h1, h2⟩
  go_wp2
  go_ret
  exact ⟨rfl, h1, h2⟩
theorem wrap_u32s {m : Nat} (h : m < 4294967296) : (m : Int) % 4294967296 = (m : Int) := by omega
set_option maxHeartbeats 4000000 in
theorem sum_any (s : RS) (p : Nat) (w : World) (h : RdAt w p s) {n : Int} {s' : RS} (hu : rSum s = (n, s')) :
    Calls Tryz.prog 117 #[.pointer (some ⟨p, 0, none⟩)] w (RPost (.int .u32 n) s' p w) := by
  obtain ⟨k, s1, hk⟩ : ∃ k s1, upT 4294967295 s = (k, s1) := ⟨_, _, rfl⟩
  have e : ((k : Int), s1) = (n, s') := by rw [← hu]; unfold rSum; rw [hk]
  simp at e
  obtain ⟨rfl, rfl⟩ := e
  have hk2 := (upT_le 4294967295 s).1
  rw [hk] at hk2
  have hw := wrap_u32s (m := k) (by simp only at hk2; omega)
  have f := upTo_any 4294967295 s p w (by decide) h hk
  clear h hu hk hk2
  go_enter Tryz.func117, Tryz.ntmps117
  go_wp2_with fail
  refine f.mono ?_
  rintro e w' ⟨rfl, h1, h2⟩
  go_wp2
  go_ret
  exact ⟨rfl, h1, h2⟩
theorem run_buildS6 (w : World) (a c d e f : Int) (b : Bool) : (buildS #[(0, .int .i64 a), (1, .bool b), (2, .int .i64 c), (3, .int .i64 d), (4, .int .i64 e), (5, .int .u32 f)]).run Tryz.prog w = .ok (.agg #[.int .i64 a, .bool b, .int .i64 c, .int .i64 d, .int .i64 e, .int .u32 f]) w := by kernel_rfl
attribute [local go_sem] run_buildS6
theorem gr_new {w w1 w2 : World} {p g : Nat} (h : Gr w w1 p) (hg : w1.grownBy w2 (some g)) (hn : w.heap.size ≤ g) : Gr w w2 p :=
  ⟨hg.os.trans h.os, hg.tape.trans h.tape, hg.output.trans h.output, Nat.le_trans h.size hg.size, fun i hi hne => (hg.block i (Nat.lt_of_lt_of_le hi h.size) (by intro e; simp at e; omega)).trans (h.block i hi hne)⟩
theorem ret_seg {fn : Func} {q : Tmp} {a : Act} {w0 w : World} {g p : Nat} {t : TypeId} {s : SG} {s' : RS} (h : fn.results = #[.cell q 40]) (hd : a.defers = []) (hp : a.tmps.getD q undef = .pointer (some ⟨g, 0, none⟩)) (hk : Blk w g t (segL s)) (hr : RdAt w p s') (hg : Gr w0 w p) :
    bodyPost Tryz.prog fn (RPost (.agg #[.int .i64 s.num, .bool s.sealed, .int .i64 s.group, .int .i64 s.member, .int .i64 s.size, .int .u32 s.sum]) s' p w0) Exit.ret a w := by
  refine bodyPost_ret (v := .agg #[.int .i64 s.num, .bool s.sealed, .int .i64 s.group, .int .i64 s.member, .int .i64 s.size, .int .u32 s.sum]) ?_ hd ⟨rfl, hr, hg⟩
  exact results_cell_row h _ _ g t (segL s).toArray (0, 0) _ hp hk Tryz.underlying40 rfl (by kernel_rfl)
theorem rSeg_is {s s1 s2 s3 s4 s5 s6 : RS} {a c e f : Int} {b d : Nat} (h1 : rNum s = (a, s1)) (h2 : upT 1 s1 = (b, s2)) (h3 : rNum s2 = (c, s3)) (h4 : upT 3 s3 = (d, s4)) (h5 : rSize s4 = (e, s5)) (h6 : rSum s5 = (f, s6)) : rSeg s = (⟨a, decide (b = 1), c, (d : Int), e, f⟩, s6) := by
  unfold rSeg
  simp only [h1, h2, h3, h4, h5, h6]
set_option maxHeartbeats 8000000 in
theorem seg_any (s : RS) (p : Nat) (w : World) (h : RdAt w p s) {sg : SG} {s' : RS} (hu : rSeg s = (sg, s')) :
    Calls Tryz.prog 90 #[.pointer (some ⟨p, 0, none⟩)] w (RPost (.agg #[.int .i64 sg.num, .bool sg.sealed, .int .i64 sg.group, .int .i64 sg.member, .int .i64 sg.size, .int .u32 sg.sum]) s' p w) := by
  obtain ⟨a, s1, h1⟩ : ∃ k s1, rNum s = (k, s1) := ⟨_, _, rfl⟩
  obtain ⟨b, s2, h2⟩ : ∃ k s2, upT 1 s1 = (k, s2) := ⟨_, _, rfl⟩
  obtain ⟨c, s3, h3⟩ : ∃ k s3, rNum s2 = (k, s3) := ⟨_, _, rfl⟩
  obtain ⟨d, s4, h4⟩ : ∃ k s4, upT 3 s3 = (k, s4) := ⟨_, _, rfl⟩
  obtain ⟨z, s5, h5⟩ : ∃ k s5, rSize s4 = (k, s5) := ⟨_, _, rfl⟩
  obtain ⟨u, s6, h6⟩ : ∃ k s6, rSum s5 = (k, s6) := ⟨_, _, rfl⟩
  have e := (rSeg_is h1 h2 h3 h4 h5 h6).symm.trans hu
  simp only [Prod.mk.injEq] at e
  obtain ⟨rfl, rfl⟩ := e
  have hlt := h.lt
  have hb1 : Below w.heap.size w (w.alloc (.cells #[.int .i64 0, .bool false, .int .i64 0, .int .i64 0, .int .i64 0, .int .u32 0] 40)) := (Below.refl _ _).alloc (Nat.le_refl _) _
  have hk1 := Blk.new w 40 (segL zS)
  obtain ⟨w1, hw1⟩ : ∃ w1, w.alloc (.cells #[.int .i64 0, .bool false, .int .i64 0, .int .i64 0, .int .i64 0, .int .u32 0] 40) = w1 := ⟨_, rfl⟩
  rw [hw1] at hb1
  have HK1 : Hid (Blk w1 w.heap.size 40 (segL zS)) := Lib.hid (by rw [← hw1]; exact hk1)
  have HG1 : Hid (Gr w w1 p) := Lib.hid (Gr.ofBelow hb1)
  have hr1 := h.below hb1
  have f1 := num_any s p w1 hr1 h1
  have hb01 : ((b : Int) == 1) = decide (b = 1) := by
    by_cases hb : b = 1
    · subst hb; rfl
    · rw [beq_f (by omega), decide_eq_false hb]
  obtain ⟨bb, hbb⟩ : ∃ x, decide (b = 1) = x := ⟨_, rfl⟩
  rw [hbb] at hb01 ⊢
  have H2 := Lib.hid h2
  have H3 := Lib.hid h3
  have H4 := Lib.hid h4
  have H5 := Lib.hid h5
  have H6 := Lib.hid h6
  clear hb1 hk1 hr1 h h1 h2 h3 h4 h5 h6 hu hbb
  go_enter Tryz.func90, Tryz.ntmps90
  go_wp2_with fail
  refine f1.mono ?_
  rintro e w2 ⟨rfl, r2, g2⟩
  have HK2 := Lib.hid (HK1.out.grown g2 (by intro e; simp at e; omega))
  have HG2 := Lib.hid (HG1.out.trans g2)
  have f2 := upTo_any 1 s1 p w2 (by decide) r2 H2.out
  clear g2 r2 f1
  go_wp2_with fail
  refine f2.mono ?_
  rintro e w3 ⟨rfl, r3, g3⟩
  have HK3 := Lib.hid (HK2.out.grown g3 (by intro e; simp at e; omega))
  have HG3 := Lib.hid (HG2.out.trans g3)
  have f3 := num_any s2 p w3 r3 H3.out
  clear g3 r3 f2
  go_wp2_with fail
  refine f3.mono ?_
  rintro e w4 ⟨rfl, r4, g4⟩
  have HK4 := Lib.hid (HK3.out.grown g4 (by intro e; simp at e; omega))
  have HG4 := Lib.hid (HG3.out.trans g4)
  have f4 := upTo_any 3 s3 p w4 (by decide) r4 H4.out
  clear g4 r4 f3
  go_wp2_with fail
  refine f4.mono ?_
  rintro e w5 ⟨rfl, r5, g5⟩
  have HK5 := Lib.hid (HK4.out.grown g5 (by intro e; simp at e; omega))
  have HG5 := Lib.hid (HG4.out.trans g5)
  have f5 := size_any s4 p w5 r5 H5.out
  clear g5 r5 f4
  go_wp2_with fail
  refine f5.mono ?_
  rintro e w6 ⟨rfl, r6, g6⟩
  have HK6 := Lib.hid (HK5.out.grown g6 (by intro e; simp at e; omega))
  have HG6 := Lib.hid (HG5.out.trans g6)
  have f6 := sum_any s5 p w6 r6 H6.out
  clear g6 r6 f5
  go_wp2_with fail
  refine f6.mono ?_
  rintro e w7 ⟨rfl, r7, g7⟩
  have HK7 := Lib.hid (HK6.out.grown g7 (by intro e; simp at e; omega))
  have HG7 := Lib.hid (HG6.out.trans g7)
  obtain ⟨w8, hst, HK8, HS8⟩ := putS ⟨a, bb, c, (d : Int), z, u⟩ HK7.out rfl
  have HR8 := Lib.hid (r7.keep HS8.out (by intro g e; simp at e; omega))
  have HG8 := Lib.hid (gr_new HG7.out HS8.out (Nat.le_refl _))
  clear g7 r7 f6
  go_wp2
  exact ret_seg (s := ⟨a, bb, c, (d : Int), z, u⟩) rfl rfl rfl HK8.out HR8.out HG8.out
end Go.Proofs.YthgpdnffahmhjaaGreatDoor.S18
namespace Go.Proofs.YthgpdnffahmhjaaGreatDoor.S18
open Go.RowKit
def TyD (ts : List TypeId) (base : Nat) (w : World) (b : Nat) : Prop := base ≤ b ∧ ∃ t c, t ∈ ts ∧ Blk w b t c
theorem keep_ty {ts : List TypeId} {base : Nat} {w w' : World} {r : Option Nat} (hg : w.grownBy w' r) (hr : ∀ g, r = some g → g < base ∨ ∃ t c, t ∉ ts ∧ Blk w g t c) : Keep (TyD ts base w) (TyD ts base w') w w' := by
  intro b ⟨hb, t, c, ht, hk⟩ hl
  have hne : some b ≠ r := fun e => by
    rcases hr b e.symm with h | ⟨t2, c2, h2, hk2⟩
    · omega
    · have : t = t2 := Classical.byContradiction fun hn => hk.ne hk2 hn rfl
      exact h2 (this ▸ ht)
  exact ⟨⟨hb, t, c, ht, hk.grown hg hne⟩, hg.block b hl hne⟩
theorem ty_weak {ts ts' : List TypeId} {base base' : Nat} {w : World} (h : base' ≤ base) (ht : ∀ t ∈ ts, t ∈ ts') : Keep (TyD ts base w) (TyD ts' base' w) w w := keep_weak fun b ⟨hb, t, c, h1, h2⟩ _ => ⟨by omega, t, c, ht t h1, h2⟩
theorem gr_newO {w w1 w2 : World} {p : Nat} {r : Option Nat} (h : Gr w w1 p) (hg : w1.grownBy w2 r) (hn : ∀ g, r = some g → w.heap.size ≤ g) : Gr w w2 p :=
  ⟨hg.os.trans h.os, hg.tape.trans h.tape, hg.output.trans h.output, Nat.le_trans h.size hg.size, fun i hi hne => (hg.block i (Nat.lt_of_lt_of_le hi h.size) (by intro e; have := hn i e.symm; omega)).trans (h.block i hi hne)⟩
def LPost {α : Type} (t : TypeId) (k : Nat) (R : World → α → List Value → Prop) (L : List α) (s' : RS) (p : Nat) (w : World) (e : Ending) (w' : World) : Prop :=
  ∃ a n c, e = .returned (.slice a n c) ∧ L.length = n ∧ OwnD w.heap.size t k (R w') w' (.slice a n c) L ∧ RdAt w' p s' ∧ Gr w w' p
theorem app_keep {α : Type} {w w2 w' : World} {t : TypeId} {k p : Nat} {R : α → List Value → Prop} {v : Value} {L : List α} {s2 : RS} {o : Obj} (hown : OwnD w.heap.size t k R w2 v L) (hr : RdAt w2 p s2) (hp : p < w.heap.size) (hg : Gr w w2 p) (ha : (w2.alloc o).grownBy w' v.ownBlock) : RdAt w' p s2 ∧ Gr w w' p := by
  have hA : Below w2.heap.size w2 (w2.alloc o) := (Below.refl _ _).alloc (Nat.le_refl _) _
  have hlt : ∀ g, v.ownBlock = some g → w.heap.size ≤ g := fun g hg => (hown.lt g hg).1
  exact ⟨(hr.below hA).keep ha fun g e => by have := hlt g e; omega, gr_newO (gr_newO hg (gr_below hA) (by simp)) ha hlt⟩
theorem rTimes_succ {α : Type} {one : RS → α × RS} {n : Nat} {s : RS} {x : α} {s2 : RS} (h : one s = (x, s2)) : rTimes one (n + 1) s = (x :: (rTimes one n s2).1, (rTimes one n s2).2) := by
  simp only [rTimes, h]
def LTo {α : Type} (one : RS → α × RS) (N : Nat) (s1 : RS) (i : Nat) (L : List α) (s : RS) : Prop := L.length = i ∧ rTimes one N s1 = (L ++ (rTimes one (N - i) s).1, (rTimes one (N - i) s).2)
theorem LTo.start {α : Type} (one : RS → α × RS) (N : Nat) (s1 : RS) : LTo one N s1 0 [] s1 := ⟨rfl, by simp⟩
theorem LTo.step {α : Type} {one : RS → α × RS} {N : Nat} {s1 : RS} {i : Nat} {L : List α} {s : RS} (h : LTo one N s1 i L s) (hi : i < N) {x : α} {s2 : RS} (hx : one s = (x, s2)) : LTo one N s1 (i + 1) (L ++ [x]) s2 := by
  obtain ⟨h1, h2⟩ := h
  refine ⟨by simp [h1], ?_⟩
  rw [show N - i = (N - (i + 1)) + 1 by omega, rTimes_succ hx] at h2
  rw [h2]
  simp
theorem LTo.done {α : Type} {one : RS → α × RS} {N : Nat} {s1 : RS} {L : List α} {s : RS} (h : LTo one N s1 N L s) {L' : List α} {s' : RS} (h' : rTimes one N s1 = (L', s')) : L = L' ∧ s = s' := by
  obtain ⟨h1, h2⟩ := h
  rw [h2] at h'
  simp [rTimes] at h'
  exact h'
attribute [local go_sem ↓] loadS_eq storeS_eq buildS_eq loadP_eq storeP_eq buildP_eq sliceU8_eq
set_option maxHeartbeats 8000000 in
theorem list_num (m : Nat) (s : RS) (p : Nat) (w : World) (hm : m ≤ 1000000) (h : RdAt w p s) {L : List Int} {s' : RS} (hu : rList m rNum s = (L, s')) :
    Calls Tryz.prog 91 #[.pointer (some ⟨p, 0, none⟩), .int .i64 m, .func (.func 88) #[] #[]] w (LPost 2 1 (fun _ => numC) L s' p w) := by
  obtain ⟨N, s1, hN⟩ : ∃ N s1, upT m s = (N, s1) := ⟨_, _, rfl⟩
  have hu2 : rTimes rNum N s1 = (L, s') := by rw [← hu]; unfold rList; rw [hN]
  have hNm : N ≤ m := by have := (upT_le m s).1; rw [hN] at this; exact this
  have hp := h.lt
  have f := upTo_any m s p w (by omega) h hN
  have HU := Lib.hid hu2
  clear h hu hN hu2
  go_enter Tryz.func91, Tryz.ntmps91
  go_wp2_with fail
  refine f.mono ?_
  rintro e w1 ⟨rfl, r1, g1⟩
  have HR1 := Lib.hid r1
  have HG1 := Lib.hid g1
  clear f r1 g1
  go_wp2_with fail
  go_loopw [7, 11] (fun v y wr => ∃ i : Nat, i ≤ N ∧ y = .int .i64 i ∧ ∃ (F : List Int) (s2 : RS), LTo rNum N s1 i F s2 ∧ OwnD w.heap.size 2 1 ((fun _ => numC) wr) wr v F ∧ RdAt wr p s2 ∧ Gr w wr p) (fun _ y _ => N - (intOf y).toNat)
  case atStart => exact ⟨0, by omega, rfl, [], s1, LTo.start _ _ _, OwnD.nil _ _ _ _ _, HR1.out, HG1.out⟩
  case round =>
    obtain ⟨i, hi, rfl, F, s2, hto, ho, hr, hg⟩ := hrel
    have HTO := Lib.hid hto
    have HO := Lib.hid ho
    have HR := Lib.hid hr
    have HG := Lib.hid hg
    obtain ⟨sp, cp, rfl, hcp, hcm⟩ := ho.slice
    have HFL := Lib.hid hto.1
    have hFi : F.length ≤ 1000000 := by rw [hto.1]; omega
    clear hto ho hr hg
    by_cases hlt : i < N
    · obtain ⟨x, s3, hx⟩ : ∃ x s3, rNum s2 = (x, s3) := ⟨_, _, rfl⟩
      have HX := Lib.hid hx
      have f2 := num_any s2 p wr HR.out hx
      clear hx
      go_wp2_with fail
      refine f2.mono ?_
      rintro e w3 ⟨rfl, r3, g3⟩
      have HR3 := Lib.hid r3
      have HG3 := Lib.hid (HG.out.trans g3)
      have HO3 : Hid (OwnD w.heap.size 2 1 ((fun _ => numC) w3) w3 (.slice sp F.length cp) F) := Lib.hid (HO.out.keep g3 (fun b hb e => by have := (HO.out.lt b hb).1; simp at e; omega) (fun _ _ h => h))
      have hsz : w.heap.size ≤ w3.heap.size := HG3.out.size
      clear f2 r3 g3
      go_wp2_with (at_builtin; refine wpList_append_D 31 2 1 (.int .i64 0) 8 Tryz.underlying31 info64 rfl (by decide) (by decide) rfl (.tmp 13) (.tmp 17) rfl w.heap.size ((fun _ => numC) w3) _ F rfl HO3.out x [.int .i64 x] rfl rfl (by intro u hu; simp at hu; subst hu; rfl) rfl (by omega) hsz ?_; intro v' w4 ho4 hgr4; obtain ⟨hr4, hg4⟩ := app_keep HO3.out HR3.out hp HG3.out hgr4)
      go_roundw
      case rel => exact ⟨i + 1, hlt, by go_num, F ++ [x], s3, HTO.out.step hlt HX.out, ho4, hr4, hg4⟩
      case measure => simp [intOf]; omega
    · obtain rfl : i = N := by omega
      obtain ⟨rfl, rfl⟩ := HTO.out.done HU.out
      go_wp2
      go_ret
      exact ⟨sp, _, cp, rfl, rfl, HO.out, HR.out, HG.out⟩
theorem rSum_w {s : RS} {u : Int} {s' : RS} (h : rSum s = (u, s')) : sumW u := by
  unfold rSum at h
  simp at h
  have := (upT_le 4294967295 s).1
  obtain ⟨rfl, _⟩ := h
  exact ⟨by omega, by omega⟩
theorem rSeg_w {s : RS} {x : SG} {s' : RS} (h : rSeg s = (x, s')) : sumW x.sum := by
  unfold rSeg at h
  simp at h
  obtain ⟨rfl, _⟩ := h
  exact rSum_w (s' := _) rfl
set_option maxHeartbeats 8000000 in
theorem list_seg (m : Nat) (s : RS) (p : Nat) (w : World) (hm : m ≤ 1000000) (h : RdAt w p s) {L : List SG} {s' : RS} (hu : rList m rSeg s = (L, s')) :
    Calls Tryz.prog 89 #[.pointer (some ⟨p, 0, none⟩), .int .i64 m, .func (.func 90) #[] #[]] w (LPost 40 6 (fun _ => segC) L s' p w) := by
  obtain ⟨N, s1, hN⟩ : ∃ N s1, upT m s = (N, s1) := ⟨_, _, rfl⟩
  have hu2 : rTimes rSeg N s1 = (L, s') := by rw [← hu]; unfold rList; rw [hN]
  have hNm : N ≤ m := by have := (upT_le m s).1; rw [hN] at this; exact this
  have hp := h.lt
  have f := upTo_any m s p w (by omega) h hN
  have HU := Lib.hid hu2
  clear h hu hN hu2
  go_enter Tryz.func89, Tryz.ntmps89
  go_wp2_with fail
  refine f.mono ?_
  rintro e w1 ⟨rfl, r1, g1⟩
  have HR1 := Lib.hid r1
  have HG1 := Lib.hid g1
  clear f r1 g1
  go_wp2_with fail
  go_loopw [7, 11] (fun v y wr => ∃ i : Nat, i ≤ N ∧ y = .int .i64 i ∧ ∃ (F : List SG) (s2 : RS), LTo rSeg N s1 i F s2 ∧ OwnD w.heap.size 40 6 ((fun _ => segC) wr) wr v F ∧ RdAt wr p s2 ∧ Gr w wr p) (fun _ y _ => N - (intOf y).toNat)
  case atStart => exact ⟨0, by omega, rfl, [], s1, LTo.start _ _ _, OwnD.nil _ _ _ _ _, HR1.out, HG1.out⟩
  case round =>
    obtain ⟨i, hi, rfl, F, s2, hto, ho, hr, hg⟩ := hrel
    have HTO := Lib.hid hto
    have HO := Lib.hid ho
    have HR := Lib.hid hr
    have HG := Lib.hid hg
    obtain ⟨sp, cp, rfl, hcp, hcm⟩ := ho.slice
    have HFL := Lib.hid hto.1
    have hFi : F.length ≤ 1000000 := by rw [hto.1]; omega
    clear hto ho hr hg
    by_cases hlt : i < N
    · obtain ⟨x, s3, hx⟩ : ∃ x s3, rSeg s2 = (x, s3) := ⟨_, _, rfl⟩
      have HX := Lib.hid hx
      have f2 := seg_any s2 p wr HR.out hx
      clear hx
      go_wp2_with fail
      refine f2.mono ?_
      rintro e w3 ⟨rfl, r3, g3⟩
      have HR3 := Lib.hid r3
      have HG3 := Lib.hid (HG.out.trans g3)
      have HO3 : Hid (OwnD w.heap.size 40 6 ((fun _ => segC) w3) w3 (.slice sp F.length cp) F) := Lib.hid (HO.out.keep g3 (fun b hb e => by have := (HO.out.lt b hb).1; simp at e; omega) (fun _ _ h => h))
      have hsz : w.heap.size ≤ w3.heap.size := HG3.out.size
      clear f2 r3 g3
      go_wp2_with (at_builtin; refine wpList_append_D 30 40 6 (.agg (segL zS).toArray) 48 Tryz.underlying30 infoS rfl (by decide) (by decide) rfl (.tmp 13) (.tmp 17) rfl w.heap.size ((fun _ => segC) w3) _ F rfl HO3.out x (segL x) ⟨rfl, rSeg_w HX.out⟩ rfl (segL_one x) rfl (by omega) hsz ?_; intro v' w4 ho4 hgr4; obtain ⟨hr4, hg4⟩ := app_keep HO3.out HR3.out hp HG3.out hgr4)
      go_roundw
      case rel => exact ⟨i + 1, hlt, by go_num, F ++ [x], s3, HTO.out.step hlt HX.out, ho4, hr4, hg4⟩
      case measure => simp [intOf]; omega
    · obtain rfl : i = N := by omega
      obtain ⟨rfl, rfl⟩ := HTO.out.done HU.out
      go_wp2
      go_ret
      exact ⟨sp, _, cp, rfl, rfl, HO.out, HR.out, HG.out⟩
end Go.Proofs.YthgpdnffahmhjaaGreatDoor.S18

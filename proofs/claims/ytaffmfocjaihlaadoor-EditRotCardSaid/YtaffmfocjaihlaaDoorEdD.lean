/- edit's lists of numbers and of segments: contracts. -/
import Derived.Test.YtaffmfocjaihlaaDoorEdC
set_option linter.unusedSimpArgs false
set_option linter.unusedVariables false
set_option maxRecDepth 100000
namespace Go.Proofs.YtaffmfocjaihlaaDoor.S18
open Go.RowKit
/-- blocks from base on, of the types ts -/
def TyD (ts : List TypeId) (base : Nat) (w : World) (b : Nat) : Prop := base ≤ b ∧ ∃ t c, t ∈ ts ∧ Blk w b t c
theorem keep_ty {ts : List TypeId} {base : Nat} {w w' : World} {r : Option Nat} (hg : w.grownBy w' r) (hr : ∀ g, r = some g → g < base ∨ ∃ t c, t ∉ ts ∧ Blk w g t c) : Keep (TyD ts base w) (TyD ts base w') w w' := by
  intro b ⟨hb, t, c, ht, hk⟩ hl
  have hne : some b ≠ r := fun e => by
    rcases hr b e.symm with h | ⟨t2, c2, h2, hk2⟩
    · omega
    · have : t = t2 := Classical.byContradiction fun hn => hk.ne hk2 hn rfl
      exact h2 (this ▸ ht)
  exact ⟨⟨hb, t, c, ht, hk.grown hg hne⟩, hg.block b hl hne⟩
theorem ty_weak {ts ts' : List TypeId} {base base' : Nat} {w : World} (h : base' ≤ base) (ht : ∀ t ∈ ts, t ∈ ts') : Keep (TyD ts base w) (TyD ts' base' w) w w := keep_weak fun b ⟨hb, t, c, h1, h2⟩ _ => ⟨by omega, t, c, ht t h1, h2⟩
theorem gr_newO {w w1 w2 : World} {p : Nat} {r : Option Nat} (h : Gr w w1 p) (hg : w1.grownBy w2 r) (hn : ∀ g, r = some g → w.heap.size ≤ g) : Gr w w2 p :=
  ⟨hg.os.trans h.os, hg.tape.trans h.tape, hg.output.trans h.output, Nat.le_trans h.size hg.size, fun i hi hne => (hg.block i (Nat.lt_of_lt_of_le hi h.size) (by intro e; have := hn i e.symm; omega)).trans (h.block i hi hne)⟩
/-- what a reader's list does -/
def LPost {α : Type} (t : TypeId) (k : Nat) (R : World → α → List Value → Prop) (L : List α) (s' : RS) (p : Nat) (w : World) (e : Ending) (w' : World) : Prop :=
  ∃ a n c, e = .returned (.slice a n c) ∧ L.length = n ∧ OwnD w.heap.size t k (R w') w' (.slice a n c) L ∧ RdAt w' p s' ∧ Gr w w' p
/-- one more has been appended -/
theorem app_keep {α : Type} {w w2 w' : World} {t : TypeId} {k p : Nat} {R : α → List Value → Prop} {v : Value} {L : List α} {s2 : RS} {o : Obj} (hown : OwnD w.heap.size t k R w2 v L) (hr : RdAt w2 p s2) (hp : p < w.heap.size) (hg : Gr w w2 p) (ha : (w2.alloc o).grownBy w' v.ownBlock) : RdAt w' p s2 ∧ Gr w w' p := by
  have hA : Below w2.heap.size w2 (w2.alloc o) := (Below.refl _ _).alloc (Nat.le_refl _) _
  have hlt : ∀ g, v.ownBlock = some g → w.heap.size ≤ g := fun g hg => (hown.lt g hg).1
  exact ⟨(hr.below hA).keep ha fun g e => by have := hlt g e; omega, gr_newO (gr_newO hg (gr_below hA) (by simp)) ha hlt⟩
theorem rTimes_succ {α : Type} {one : RS → α × RS} {n : Nat} {s : RS} {x : α} {s2 : RS} (h : one s = (x, s2)) : rTimes one (n + 1) s = (x :: (rTimes one n s2).1, (rTimes one n s2).2) := by
  simp only [rTimes, h]
/-- so far it has come -/
def LTo {α : Type} (one : RS → α × RS) (N : Nat) (s1 : RS) (i : Nat) (L : List α) (s : RS) : Prop := L.length = i ∧ rTimes one N s1 = (L ++ (rTimes one (N - i) s).1, (rTimes one (N - i) s).2)
theorem LTo.start {α : Type} (one : RS → α × RS) (N : Nat) (s1 : RS) : LTo one N s1 0 [] s1 := ⟨rfl, by simp⟩
theorem LTo.step {α : Type} {one : RS → α × RS} {N : Nat} {s1 : RS} {i : Nat} {L : List α} {s : RS} (h : LTo one N s1 i L s) (hi : i < N) {x : α} {s2 : RS} (hx : one s = (x, s2)) : LTo one N s1 (i + 1) (L ++ [x]) s2 := by
  obtain ⟨h1, h2⟩ := h
  refine ⟨by simp [h1], ?_⟩
  rw [show N - i = (N - (i + 1)) + 1 by omega, rTimes_succ hx] at h2
  rw [h2]
  simp
theorem LTo.done {α : Type} {one : RS → α × RS} {N : Nat} {s1 : RS} {L : List α} {s : RS} (h : LTo one N s1 N L s) {L' : List α} {s' : RS} (h' : rTimes one N s1 = (L', s')) : L = L' ∧ s = s' := by
  obtain ⟨h1, h2⟩ := h
  rw [h2] at h'
  simp [rTimes] at h'
  exact h'
attribute [local go_sem ↓] loadS_eq storeS_eq buildS_eq loadP_eq storeP_eq buildP_eq sliceU8_eq
set_option maxHeartbeats 8000000 in
theorem list_num (m : Nat) (s : RS) (p : Nat) (w : World) (hm : m ≤ 1000000) (h : RdAt w p s) {L : List Int} {s' : RS} (hu : rList m rNum s = (L, s')) :
    Calls Tryd.prog 45 #[.pointer (some ⟨p, 0, none⟩), .int .i64 m, .func (.func 42) #[] #[]] w (LPost 2 1 (fun _ => numC) L s' p w) := by
  obtain ⟨N, s1, hN⟩ : ∃ N s1, upT m s = (N, s1) := ⟨_, _, rfl⟩
  have hu2 : rTimes rNum N s1 = (L, s') := by rw [← hu]; unfold rList; rw [hN]
  have hNm : N ≤ m := by have := (upT_le m s).1; rw [hN] at this; exact this
  have hp := h.lt
  have f := upTo_any m s p w (by omega) h hN
  have HU := Lib.hid hu2
  clear h hu hN hu2
  go_enter Tryd.func45, Tryd.ntmps45
  go_wp2_with fail
  refine f.mono ?_
  rintro e w1 ⟨rfl, r1, g1⟩
  have HR1 := Lib.hid r1
  have HG1 := Lib.hid g1
  clear f r1 g1
  go_wp2_with fail
  go_loopw [7, 11] (fun v y wr => ∃ i : Nat, i ≤ N ∧ y = .int .i64 i ∧ ∃ (F : List Int) (s2 : RS), LTo rNum N s1 i F s2 ∧ OwnD w.heap.size 2 1 ((fun _ => numC) wr) wr v F ∧ RdAt wr p s2 ∧ Gr w wr p) (fun _ y _ => N - (intOf y).toNat)
  case atStart => exact ⟨0, by omega, rfl, [], s1, LTo.start _ _ _, OwnD.nil _ _ _ _ _, HR1.out, HG1.out⟩
  case round =>
    obtain ⟨i, hi, rfl, F, s2, hto, ho, hr, hg⟩ := hrel
    have HTO := Lib.hid hto
    have HO := Lib.hid ho
    have HR := Lib.hid hr
    have HG := Lib.hid hg
    obtain ⟨sp, cp, rfl, hcp, hcm⟩ := ho.slice
    have HFL := Lib.hid hto.1
    have hFi : F.length ≤ 1000000 := by rw [hto.1]; omega
    clear hto ho hr hg
    by_cases hlt : i < N
    · obtain ⟨x, s3, hx⟩ : ∃ x s3, rNum s2 = (x, s3) := ⟨_, _, rfl⟩
      have HX := Lib.hid hx
      have f2 := num_any s2 p wr HR.out hx
      clear hx
      go_wp2_with fail
      refine f2.mono ?_
      rintro e w3 ⟨rfl, r3, g3⟩
      have HR3 := Lib.hid r3
      have HG3 := Lib.hid (HG.out.trans g3)
      have HO3 : Hid (OwnD w.heap.size 2 1 ((fun _ => numC) w3) w3 (.slice sp F.length cp) F) := Lib.hid (HO.out.keep g3 (fun b hb e => by have := (HO.out.lt b hb).1; simp at e; omega) (fun _ _ h => h))
      have hsz : w.heap.size ≤ w3.heap.size := HG3.out.size
      clear f2 r3 g3
      go_wp2_with (at_builtin; refine wpList_append_D 23 2 1 (.int .i64 0) 8 Tryd.underlying23 info64 rfl (by decide) (by decide) rfl (.tmp 13) (.tmp 17) rfl w.heap.size ((fun _ => numC) w3) _ F rfl HO3.out x [.int .i64 x] rfl rfl (by intro u hu; simp at hu; subst hu; rfl) rfl (by omega) hsz ?_; intro v' w4 ho4 hgr4; obtain ⟨hr4, hg4⟩ := app_keep HO3.out HR3.out hp HG3.out hgr4)
      go_roundw
      case rel => exact ⟨i + 1, hlt, by go_num, F ++ [x], s3, HTO.out.step hlt HX.out, ho4, hr4, hg4⟩
      case measure => simp [intOf]; omega
    · obtain rfl : i = N := by omega
      obtain ⟨rfl, rfl⟩ := HTO.out.done HU.out
      go_wp2
      go_ret
      exact ⟨sp, _, cp, rfl, rfl, HO.out, HR.out, HG.out⟩
theorem rSum_w {s : RS} {u : Int} {s' : RS} (h : rSum s = (u, s')) : sumW u := by
  unfold rSum at h
  simp at h
  have := (upT_le 4294967295 s).1
  obtain ⟨rfl, _⟩ := h
  exact ⟨by omega, by omega⟩
theorem rSeg_w {s : RS} {x : SG} {s' : RS} (h : rSeg s = (x, s')) : sumW x.sum := by
  unfold rSeg at h
  simp at h
  obtain ⟨rfl, _⟩ := h
  exact rSum_w (s' := _) rfl
set_option maxHeartbeats 8000000 in
theorem list_seg (m : Nat) (s : RS) (p : Nat) (w : World) (hm : m ≤ 1000000) (h : RdAt w p s) {L : List SG} {s' : RS} (hu : rList m rSeg s = (L, s')) :
    Calls Tryd.prog 43 #[.pointer (some ⟨p, 0, none⟩), .int .i64 m, .func (.func 44) #[] #[]] w (LPost 45 6 (fun _ => segC) L s' p w) := by
  obtain ⟨N, s1, hN⟩ : ∃ N s1, upT m s = (N, s1) := ⟨_, _, rfl⟩
  have hu2 : rTimes rSeg N s1 = (L, s') := by rw [← hu]; unfold rList; rw [hN]
  have hNm : N ≤ m := by have := (upT_le m s).1; rw [hN] at this; exact this
  have hp := h.lt
  have f := upTo_any m s p w (by omega) h hN
  have HU := Lib.hid hu2
  clear h hu hN hu2
  go_enter Tryd.func43, Tryd.ntmps43
  go_wp2_with fail
  refine f.mono ?_
  rintro e w1 ⟨rfl, r1, g1⟩
  have HR1 := Lib.hid r1
  have HG1 := Lib.hid g1
  clear f r1 g1
  go_wp2_with fail
  go_loopw [7, 11] (fun v y wr => ∃ i : Nat, i ≤ N ∧ y = .int .i64 i ∧ ∃ (F : List SG) (s2 : RS), LTo rSeg N s1 i F s2 ∧ OwnD w.heap.size 45 6 ((fun _ => segC) wr) wr v F ∧ RdAt wr p s2 ∧ Gr w wr p) (fun _ y _ => N - (intOf y).toNat)
  case atStart => exact ⟨0, by omega, rfl, [], s1, LTo.start _ _ _, OwnD.nil _ _ _ _ _, HR1.out, HG1.out⟩
  case round =>
    obtain ⟨i, hi, rfl, F, s2, hto, ho, hr, hg⟩ := hrel
    have HTO := Lib.hid hto
    have HO := Lib.hid ho
    have HR := Lib.hid hr
    have HG := Lib.hid hg
    obtain ⟨sp, cp, rfl, hcp, hcm⟩ := ho.slice
    have HFL := Lib.hid hto.1
    have hFi : F.length ≤ 1000000 := by rw [hto.1]; omega
    clear hto ho hr hg
    by_cases hlt : i < N
    · obtain ⟨x, s3, hx⟩ : ∃ x s3, rSeg s2 = (x, s3) := ⟨_, _, rfl⟩
      have HX := Lib.hid hx
      have f2 := seg_any s2 p wr HR.out hx
      clear hx
      go_wp2_with fail
      refine f2.mono ?_
      rintro e w3 ⟨rfl, r3, g3⟩
      have HR3 := Lib.hid r3
      have HG3 := Lib.hid (HG.out.trans g3)
      have HO3 : Hid (OwnD w.heap.size 45 6 ((fun _ => segC) w3) w3 (.slice sp F.length cp) F) := Lib.hid (HO.out.keep g3 (fun b hb e => by have := (HO.out.lt b hb).1; simp at e; omega) (fun _ _ h => h))
      have hsz : w.heap.size ≤ w3.heap.size := HG3.out.size
      clear f2 r3 g3
      go_wp2_with (at_builtin; refine wpList_append_D 22 45 6 (.agg (segL zS).toArray) 48 Tryd.underlying22 infoS rfl (by decide) (by decide) rfl (.tmp 13) (.tmp 17) rfl w.heap.size ((fun _ => segC) w3) _ F rfl HO3.out x (segL x) ⟨rfl, rSeg_w HX.out⟩ rfl (segL_one x) rfl (by omega) hsz ?_; intro v' w4 ho4 hgr4; obtain ⟨hr4, hg4⟩ := app_keep HO3.out HR3.out hp HG3.out hgr4)
      go_roundw
      case rel => exact ⟨i + 1, hlt, by go_num, F ++ [x], s3, HTO.out.step hlt HX.out, ho4, hr4, hg4⟩
      case measure => simp [intOf]; omega
    · obtain rfl : i = N := by omega
      obtain ⟨rfl, rfl⟩ := HTO.out.done HU.out
      go_wp2
      go_ret
      exact ⟨sp, _, cp, rfl, rfl, HO.out, HR.out, HG.out⟩
end Go.Proofs.YtaffmfocjaihlaaDoor.S18

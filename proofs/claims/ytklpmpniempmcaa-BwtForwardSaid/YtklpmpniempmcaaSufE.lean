/- Rows of integers that are known by their block; slices.Clone, slices.Repeat, slices.Backward of integers: contracts. -/
import Derived.Test.YtklpmpniempmcaaSufR
import Derived.Lib.SliceRun
import Derived.Laws.CopyOwn
set_option linter.unusedSimpArgs false
set_option linter.unusedVariables false
namespace Go.Proofs.Ytklpmpniempmcaa
open Go.RowKit Pl

/-- the integers L in block g, n of them, from its head -/
def OwnI (w : World) (g n cap : Nat) (L : List Int) : Prop := w.ownsRow 0 3 1 (.slice (some ⟨g, 0, none⟩) n cap) n (i64s L)
namespace OwnI
variable {w W : World} {g n cap : Nat} {L : List Int}
theorem length (h : OwnI w g n cap L) : L.length = n := by have := h.1; rw [i64s_length] at this; omega
theorem cell (h : OwnI w g n cap L) {i : Nat} (hi : i < n) : w.cell? ⟨g, i, none⟩ = some (.int .i64 (L.getD i 0)) := by
  have := h.length
  unfold OwnI at h
  rw [h.cellAt i (by omega)]
  exact i64s_get L i (by omega)
theorem frozen (h : OwnI w g n cap L) (i : Nat) : w.frozen? ⟨g, i, none⟩ = false := World.ownsRow.frozenAt h i
theorem set (h : OwnI w g n cap L) (i : Nat) (c : Int) : OwnI (w.setCell ⟨g, i, none⟩ (.int .i64 c)) g n cap (L.set i c) := by
  have := (World.ownsRow.stored h i (.int .i64 c)).1
  rw [i64s_set] at this
  exact this
theorem setOther (h : OwnI w g n cap L) {p : Addr} (hp : g ≠ p.block) (v : Value) : OwnI (w.setCell p v) g n cap L :=
  ownsRow_setCell_other h (by intro e; simp [Value.ownBlock] at e; exact hp e) v
theorem gr (h : OwnI w g n cap L) {r : Nat} (hg : Gr w W r) (hr : g ≠ r) : OwnI W g n cap L :=
  World.ownsRow.kept h hg (.inr (by simp [Value.ownBlock]; exact hr))
theorem below (h : OwnI w g n cap L) (hb : Below w.heap.size w W) : OwnI W g n cap L := own_below h hb
theorem lt (h : OwnI w g n cap L) : g < w.heap.size := (World.ownsRow.lt h g rfl).2
theorem caps (h : OwnI w g n cap L) : n ≤ cap ∧ cap ≤ maxLen := by
  obtain ⟨sp, c, e, h1, h2⟩ := ownsRow_slice h
  simp at e
  rw [e.2]
  exact ⟨h1, h2⟩
theorem ints (h : OwnI w g n cap L) : IsInts w (.slice (some ⟨g, 0, none⟩) n cap) L := isInts_own h.length.symm h
end OwnI
theorem ownI_of {w : World} {base n : Nat} {v : Value} {L : List Int} (h : w.ownsRow base 3 1 v n (i64s L)) (h0 : 0 < n) : ∃ g cap, v = .slice (some ⟨g, 0, none⟩) n cap ∧ base ≤ g ∧ OwnI w g n cap L := by
  obtain ⟨g, cap, rfl, hb, _⟩ := own_open h h0
  exact ⟨g, cap, rfl, hb, own_base h (Nat.zero_le _)⟩
/-- l[k:] and l[:k] of a row that begins at its block's head -/
theorem run_fromB {g n cap : Nat} (k : Nat) (hk : k ≤ n) (hc : k < cap) (hcap : n ≤ cap) (W : World) : (sliceI (.slice (some ⟨g, 0, none⟩) n cap) (some (.int .i64 k)) none none).run Try.prog W = .ok (.slice (some ⟨g, k, none⟩) (n - k) (cap - k)) W := by
  unfold sliceI
  rw [run_sliceAt_slice _ _ _ _ _ _ und_i64s, run_slice_l _ _ _ _ _ und_i64s _ _ (by omega) (by omega), run_size_i, Int.toNat_natCast]
  simp only [Result.andThen, sliced]
  rw [if_neg (by omega)]
  simp [add_none]
theorem run_uptoN {g n cap : Nat} (k : Nat) (hk : k ≤ n) (hcap : n ≤ cap) (W : World) : (sliceI (.slice (some ⟨g, 0, none⟩) n cap) none (some (.int .i64 k)) none).run Try.prog W = .ok (.slice (some ⟨g, 0, none⟩) k cap) W := by
  unfold sliceI
  rw [run_sliceAt_slice _ _ _ _ _ _ und_i64s, run_slice_h _ _ _ _ _ und_i64s _ _ (by omega) (by omega), run_size_i, Int.toNat_natCast]
  simp only [Result.andThen, sliced, Nat.sub_zero]
  split <;> simp [add_none]

def CloneI (L : List Int) (w : World) (e : Ending) (w' : World) : Prop :=
  ∃ v', e = .returned v' ∧ w'.ownsRow w.heap.size 3 1 v' L.length (i64s L) ∧ Below w.heap.size w w'
set_option maxHeartbeats 400000 in
theorem cloneI_any (v : Value) (L : List Int) (w : World) (hv : IsInts w v L) (hB : L.length ≤ 17592186044416) :
    Calls Try.prog 37 #[v] w (CloneI L w) := by
  have qT : ∀ (w : World) (a : Option Addr) (n c n' c' : Nat), (binOp .eql 25 (.slice a n c) (.slice none n' c')).run Try.prog w = .ok (.bool a.isNone) w := fun w a n c n' c' => Lib.run_eql_slice_nil w 25 3 a n c n' c' Try.underlying25
  obtain ⟨rfl, rfl⟩ | ⟨a, cap, rfl, hcap, hmax, hc⟩ := hv
  · go_enter Try.func37, Try.ntmps37
    go_wp2
    go_ret
    exact ⟨_, rfl, World.ownsRow_nil _ _ _ _, Below.refl _ _⟩
  · obtain ⟨i0, hi, hz0, hz1, hz2⟩ := infoI_parts infoI
    have Hi := Lib.hid hi
    have Hz0 := Lib.hid hz0
    have Hz1 := Lib.hid hz1
    have Hz2 := Lib.hid hz2
    clear hi hz0 hz1 hz2
    have HC := Lib.hid hc
    clear hc
    have H0 : Hid ((w.alloc (.cells #[] 3)).ownsRow w.heap.size 3 1 (.slice (some ⟨w.heap.size, 0, none⟩) 0 0) 0 []) := Lib.hid (World.ownsRow_made w #[] 0 (Nat.le_refl _) (by unfold maxLen; omega) rfl)
    have HS : Hid (∀ (j : Nat) (u : Value), (i64s L)[j]? = some u → (w.alloc (.cells #[] 3)).cell? (a.add j) = some u) := Lib.hid fun j u hu => by
      have h := HC.out j u hu
      rw [World.cell?_alloc_lt]
      · exact h
      · exact World.block_lt_of_cell? w _ h
    go_enter Try.func37, Try.ntmps37
    go_wp2_with (at_builtin; refine wpList_append_own _ rfl (.tmp 5) (.tmp 6) 25 rfl w.heap.size 3 i0 (.int .i64 0) 1 8 Try.underlying25 Hi.out Hz0.out Hz1.out Hz2.out rfl (by decide) _ _ _ rfl H0.out a L.length cap (i64s L) rfl (by rw [i64s_length, Nat.mul_one]) HS.out (i64s_one L) (by unfold maxLen; omega) (by omega) (by simp) ?_; intro v' w1 hown hgr _)
    go_ret
    have hsz : (w.alloc (.cells #[] 3)).heap.size = w.heap.size + 1 := by simp
    refine ⟨v', rfl, by simpa using hown, ?_⟩
    exact (((Below.refl _ _).alloc (Nat.le_refl _) _).grown hgr (by simp) (by intro k hk; have hk' : some w.heap.size = some k := hk; simp at hk'; omega))
/-! slices.Repeat([]int{x}, n) -/
theorem and_low (n : Nat) (h : n < 4294967296) : bits BinOp.and IntKind.u64 (n : Int) 4294967295 = (n : Int) := by
  have := u64_and (n : Int) 4294967295 (by omega) (by omega) (by omega) (by omega)
  rw [this]
  have e : (4294967295 : Int).toNat = 2 ^ 32 - 1 := by decide
  rw [e, Int.toNat_natCast, Nat.and_two_pow_sub_one_eq_mod]
  omega
set_option maxHeartbeats 1000000 in
theorem mul64_one (n : Nat) (w : World) (hn : n < 4294967296) : Calls Try.prog 52 #[.int .u64 1, .int .u64 n] w fun e w' => e = .returned (.tuple #[.int .u64 0, .int .u64 n]) ∧ w = w' := by
  have h1 := and_low n hn
  have h2 : (n : Int) / 4294967296 = 0 := by omega
  have h3 : bits BinOp.and IntKind.u64 1 4294967295 = 1 := by decide +kernel
  have h4 : bits BinOp.and IntKind.u64 0 4294967295 = 0 := by decide +kernel
  have h5 : IntKind.u64.wrap (n : Int) = (n : Int) := by rw [IntKind.wrap_u64]; omega
  go_enter Try.func52, Try.ntmps52
  go_wp2
  go_ret2
  exact ⟨rfl, rfl⟩
set_option maxHeartbeats 1000000 in
theorem mul_one_any (n : Nat) (w : World) (hn : n < 4294967296) : Calls Try.prog 46 #[.int .u64 1, .int .u64 n] w fun e w' => e = .returned (.tuple #[.int .u64 0, .int .u64 n]) ∧ w = w' := by
  have hm := mul64_one n w hn
  go_enter Try.func46, Try.ntmps46
  go_wp2_with fail
  refine hm.mono ?_
  rintro e w' ⟨rfl, rfl⟩
  go_wp2
  go_ret2
  exact ⟨rfl, rfl⟩
namespace Pl
/-- the first c of n cells are laid -/
def repL (x : Int) (n c : Nat) : List Int := List.replicate c x ++ List.replicate (n - c) 0
theorem repL_length (x : Int) {n c : Nat} (h : c ≤ n) : (repL x n c).length = n := by simp [repL]; omega
theorem repL_all (x : Int) (n : Nat) : repL x n n = List.replicate n x := by simp [repL]
theorem repL_get (x : Int) {n c i : Nat} (h : i < c) : (repL x n c)[i]? = some x := by
  unfold repL
  rw [List.getElem?_append_left (by simpa using h)]
  simp [h]
theorem repL_splice (x : Int) {n c d : Nat} (h : c + d ≤ n) : splice (i64s (repL x n c)) c (i64s (List.replicate d x)) = i64s (repL x n (c + d)) := by
  apply List.ext_getElem?
  intro i
  have hl : (i64s (repL x n c)).length = n := by rw [i64s_length, repL_length x (by omega)]
  rw [splice_get _ _ _ (by rw [hl, i64s_length, List.length_replicate]; exact h)]
  simp only [i64s_length, List.length_replicate]
  simp only [i64s, List.getElem?_map]
  split
  · rw [repL_get x (by omega), repL_get x (by omega)]
  · split
    · rw [repL_get x (by omega), List.getElem?_replicate, if_pos (by omega)]
    · unfold repL
      rw [List.getElem?_append_right (by simp; omega), List.getElem?_append_right (by simp; omega)]
      simp only [List.length_replicate, List.getElem?_replicate]
      congr 1
      by_cases hi : i < n
      · rw [if_pos (by omega), if_pos (by omega)]
      · rw [if_neg (by omega), if_neg (by omega)]
theorem madeI (n : Nat) : (madeCells (Value.int .i64 0).cells (n * 1)).toList = i64s (List.replicate n 0) := by
  apply List.ext_getElem?
  intro i
  by_cases h : i < n
  · simp [madeCells, Value.cells, i64s, h, Nat.mod_one]
  · simp [madeCells, Value.cells, i64s, h]
end Pl
theorem sizeI : (Try.prog.info? 3).map (·.size) = some 1 := by
  obtain ⟨i0, hi, hz0, hz1, hz2⟩ := infoI_parts infoI
  rw [hi]; simp [hz1]
theorem blk_ownI {w : World} {g n : Nat} {L : List Int} (h : Blk w g 3 (i64s L)) (hn : L.length = n) (hm : n ≤ maxLen) : OwnI w g n n L := by
  subst hn
  exact ⟨by rw [i64s_length]; omega, .inr ⟨g, L.length, (i64s L).toArray, rfl, Nat.zero_le _, h, Nat.le_refl _, hm, by simp [i64s], by rw [Nat.mul_one]; exact List.take_of_length_le (by rw [i64s_length]; exact Nat.le_refl _)⟩⟩
def RepPost (x : Int) (n : Nat) (w : World) (e : Ending) (w' : World) : Prop :=
  e = .returned (.slice (some ⟨w.heap.size, 0, none⟩) n n) ∧ OwnI w' w.heap.size n n (List.replicate n x) ∧ Below w.heap.size w w'
theorem copy_first (x : Int) (n g b : Nat) (W : World) (hg : Blk W g 3 (i64s (repL x n 0))) (hb : Blk W b 3 [.int .i64 x]) :
    ∃ W', (Builtin.copy_ #[25, 25] 3 #[.slice (some ⟨g, 0, none⟩) n n, .slice (some ⟨b, 0, none⟩) 1 1]).run Try.prog W = .ok (.int .i64 (Nat.min 1 n : Nat)) W' ∧ Blk W' g 3 (i64s (repL x n (Nat.min 1 n))) ∧ Below g W W' := by
  by_cases h0 : n = 0
  · subst h0
    exact ⟨W, run_copy_none W _ _ _ 3 _ _ _ _ _ _ Try.underlying25 sizeI rfl, hg, Below.refl _ _⟩
  · have hm : Nat.min 1 n = 1 := Nat.min_eq_left (by omega)
    rw [hm]
    have hl : (i64s (repL x n 0)).length = n := by rw [i64s_length, repL_length x (Nat.zero_le _)]
    have hrun := run_copy_row (P := Try.prog) W 25 25 3 3 g 0 n n ⟨b, 0, none⟩ 1 1 (i64s (repL x n 0)).toArray 3 (i64s (List.replicate 1 x)) Try.underlying25 sizeI hg (by rw [hm]; rfl) (fun j v hj => by
      have hj2 := (List.getElem?_eq_some_iff.1 hj).1
      rw [i64s_length, List.length_replicate] at hj2
      obtain rfl : j = 0 := by omega
      rw [add_none]
      exact hb.cell hj) (by rw [List.size_toArray, hl, i64s_length, List.length_replicate]; omega) (i64s_one _)
    refine ⟨W.setRow g (splice (i64s (repL x n 0)) 0 (i64s (List.replicate 1 x))).toArray, hrun, ?_, below_setRow (Below.refl _ _) (Nat.le_refl _) _⟩
    unfold Blk
    rw [setRow_heap W g (i64s (repL x n 0)).toArray _ 3 _ hg, repL_splice x (by omega)]
attribute [local go_sem ↓] sliceI_eq
set_option maxHeartbeats 4000000 in
theorem repeat_any (x : Int) (b n : Nat) (w : World) (hb : Blk w b 3 [.int .i64 x]) (hn : n ≤ 1000000) :
    Calls Try.prog 33 #[.slice (some ⟨b, 0, none⟩) 1 1, .int .i64 n] w (RepPost x n w) := by
  have hm := mul_one_any n w (by omega)
  have hw1 : IntKind.u64.wrap (n : Int) = (n : Int) := by rw [IntKind.wrap_u64]; omega
  have hw2 : IntKind.i64.wrap (n : Int) = (n : Int) := by first | (rw [IntKind.wrap_i64]; omega) | (unfold IntKind.wrap; simp [IntKind.signed, IntKind.bits]; omega)
  have hblt := hb.lt
  have HBx := Lib.hid hb
  clear hb
  obtain ⟨i0, hi, hz0, hz1, hz2⟩ := infoI_parts infoI
  have Hi := Lib.hid hi
  have Hz0 := Lib.hid hz0
  have Hz1 := Lib.hid hz1
  have Hz2 := Lib.hid hz2
  clear hi hz0 hz1 hz2
  go_enter Try.func33, Try.ntmps33
  go_wp2_with fail
  refine hm.mono ?_
  rintro e w' ⟨rfl, rfl⟩
  clear hm
  have HC : Hid (∀ W, W.ownsRow w.heap.size 3 1 (.slice (some ⟨w.heap.size, 0, none⟩) n n) n (madeCells (Value.int .i64 0).cells (n * 1)).toList → w.grownBy W none → ∃ W', (Builtin.copy_ #[25, 25] 3 #[.slice (some ⟨w.heap.size, 0, none⟩) n n, .slice (some ⟨b, 0, none⟩) 1 1]).run Try.prog W = .ok (.int .i64 (Nat.min 1 n : Nat)) W' ∧ Blk W' w.heap.size 3 (i64s (repL x n (Nat.min 1 n))) ∧ Below w.heap.size w W') := Lib.hid fun W h hg => by
    have h1 := made_blk h
    rw [madeI] at h1
    obtain ⟨W', r1, r2, r3⟩ := copy_first x n w.heap.size b W h1 (Blk.grown HBx.out hg (by simp))
    exact ⟨W', r1, r2, Below.trans ((Below.refl _ _).grown hg (Nat.le_refl _) (by simp)) r3⟩
  have hmin : Nat.min 1 n ≤ n := Nat.min_le_right _ _
  have hmin2 : n = 0 ∨ 1 ≤ Nat.min 1 n := by
    by_cases h0 : n = 0
    · exact .inl h0
    · exact .inr (Nat.le_min.2 ⟨Nat.le_refl _, by omega⟩)
  generalize Nat.min 1 n = k0 at *
  go_wp2_with (at_make; refine wpList_make_full _ rfl _ _ 25 rfl w.heap.size 3 i0 (.int .i64 0) 1 Try.underlying25 Hi.out Hz0.out Hz1.out .i64 .i64 _ _ n rfl rfl (by first | rfl | (simp; done) | omega) (by first | rfl | (simp; done) | omega) (by rw [Hz2.out]; omega) (by unfold maxLen; omega) (Nat.le_refl _) ?_; intro w1 hown hgr; obtain ⟨w2, hcp, hb2, hbel2⟩ := HC.out w1 hown hgr)
  have HB2 := Lib.hid hb2
  have HBEL2 := Lib.hid hbel2
  clear hcp hb2 hbel2 hown hgr HC
  go_loopw [8] (fun y wr => ∃ c : Nat, c ≤ n ∧ (n = 0 ∨ 1 ≤ c) ∧ y = .int .i64 c ∧ Blk wr w.heap.size 3 (i64s (repL x n c)) ∧ Below w.heap.size w wr) (fun y _ => n - (intOf y).toNat)
  case atStart => exact ⟨k0, hmin, hmin2, rfl, HB2.out, HBEL2.out⟩
  case round =>
    obtain ⟨c, hc, hc1, rfl, hb, hbel⟩ := hrel
    have HB := Lib.hid hb
    have HBEL := Lib.hid hbel
    clear hb hbel HB2 HBEL2
    by_cases hlt : c < n
    · have s1 := fun W => run_fromB (g := w.heap.size) (n := n) (cap := n) c (by omega) hlt (Nat.le_refl _) W
      have s2 := fun W => run_uptoN (g := w.heap.size) (n := n) (cap := n) c (by omega) (Nat.le_refl _) W
      obtain ⟨d, hd⟩ : ∃ d, Nat.min c (n - c) = d := ⟨_, rfl⟩
      have hd1 : d ≤ n - c := by rw [← hd]; exact Nat.min_le_right _ _
      have hd2 : 1 ≤ d := by rw [← hd]; exact Nat.le_min.2 ⟨by omega, by omega⟩
      have hd3 : d ≤ c := by rw [← hd]; exact Nat.min_le_left _ _
      have F1 : Hid ((i64s (List.replicate d x)).length = Nat.min c (n - c)) := Lib.hid (by rw [i64s_length, List.length_replicate, hd])
      have F2 : CSrc wr (i64s (List.replicate d x)) (some ⟨w.heap.size, c, none⟩) w.heap.size c (some ⟨w.heap.size, 0, none⟩) := fun _ => ⟨rfl, _, rfl, fun j v hj => by
        have hj2 := (List.getElem?_eq_some_iff.1 hj).1
        rw [i64s_length, List.length_replicate] at hj2
        rw [add_none, Nat.zero_add]
        refine HB.out.cell ?_
        rw [← hj]
        simp only [i64s, List.getElem?_map]
        rw [repL_get x (by omega), List.getElem?_replicate, if_pos hj2]⟩
      have F3 : Hid (c + (i64s (List.replicate d x)).length ≤ (i64s (repL x n c)).length) := Lib.hid (by rw [i64s_length, i64s_length, List.length_replicate, repL_length x hc]; omega)
      have F4 : Hid (∀ v ∈ i64s (List.replicate d x), v.oneCell' = true) := Lib.hid (i64s_one _)
      have F5 : Hid ((i64s (List.replicate d x)).length = d) := Lib.hid (by rw [i64s_length, List.length_replicate])
      clear hd
      go_wp2_with fail
      go_region_law (refine step_copy_splice rfl (.tmp 41) (.tmp 44) 25 25 rfl 3 Try.underlying25 sizeI (some ⟨w.heap.size, c, none⟩) (some ⟨w.heap.size, 0, none⟩) (n - c) (n - c) c n (by simp [Act.eval, Act.put]) (by simp [Act.eval, Act.put]) w.heap.size c _ 3 HB.out (i64s (List.replicate d x)) F1.out F2 F3.out F4.out w.heap.size w HBEL.out.drew (Nat.le_refl _) ?_; intro w2 hG2 hB2)
      have HW : Hid (Blk w2 w.heap.size 3 (i64s (repL x n (c + d)))) := Lib.hid (by
        have := hG2.out
        rw [repL_splice x (by omega)] at this
        exact this)
      have HF := Lib.hid hB2
      rw [F5.out]
      have hdc : (c : Int) + (d : Int) ≤ 1000000 := by omega
      clear F1 F2 F3 F4 F5 hG2 hB2 s1 s2
      go_wp2_with fail
      have hwr : IntKind.i64.wrap ((c : Int) + (d : Int)) = ((c + d : Nat) : Int) := by first | (rw [IntKind.wrap_i64]; omega) | (unfold IntKind.wrap; simp [IntKind.signed, IntKind.bits]; omega)
      simp [Act.put]
      rw [hwr]
      refine ⟨⟨c + d, by omega, by omega, rfl, HW.out, HF.out⟩, ?_⟩
      simp only [intOf_i]; omega
    · obtain rfl : c = n := by omega
      go_wp2_with fail
      go_ret
      rw [repL_all] at HB
      exact ⟨rfl, blk_ownI HB.out (by simp) (by unfold maxLen; omega), HBEL.out⟩
end Go.Proofs.Ytklpmpniempmcaa

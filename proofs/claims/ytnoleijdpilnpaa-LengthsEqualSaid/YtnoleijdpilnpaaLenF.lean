/- lengths.spend: a contract. -/
import Derived.Test.YtnoleijdpilnpaaRng
import Derived.Test.YtnoleijdpilnpaaPkgC
set_option linter.unusedSimpArgs false
set_option linter.unusedVariables false
namespace Go.Proofs.Ytnoleijdpilnpaa
open Go.RowKit Go.Shelf Pl
namespace Pl
theorem take_snoc {L : List Coin} {i : Nat} (h : i < L.length) : L.take (i + 1) = L.take i ++ [L.getD i (0, 0)] := by
  rw [List.take_succ_eq_append_getElem h]; simp [List.getD, h]
theorem bump_pair {l : List Int} {T : List Coin} {i : Nat} (h : i < T.length) (hp : (T.getD i (0, 0)).2 = -1) : bump l (T.take (i + 1)) = bump l (T.take i) ∧ cntS (-1) (T.take (i + 1)) = cntS (-1) (T.take i) + 1 := by
  refine ⟨?_, ?_⟩
  · rw [take_snoc h, bump_append]; simp only [bump, if_pos hp]
  · rw [take_snoc h, cntS_append]; simp only [cntS, if_pos hp]
theorem bump_sym {l : List Int} {T : List Coin} {i : Nat} (h : i < T.length) (hp : (T.getD i (0, 0)).2 ≠ -1) : bump l (T.take (i + 1)) = (bump l (T.take i)).set (T.getD i (0, 0)).2.toNat ((bump l (T.take i)).getD (T.getD i (0, 0)).2.toNat 0 + 1) ∧ cntS (-1) (T.take (i + 1)) = cntS (-1) (T.take i) := by
  refine ⟨?_, ?_⟩
  · rw [take_snoc h, bump_append]; simp only [bump, if_neg hp]
  · rw [take_snoc h, cntS_append]; simp only [cntS, if_neg hp]; omega
theorem cnt_le (x : Int) (T : List Coin) : cntS x T ≤ T.length := by
  induction T with
  | nil => simp [cntS]
  | cons c T ih => simp only [cntS, List.length_cons]; split <;> omega
end Pl
theorem run_uptoB {w : World} {b n cap : Nat} (k : Nat) (hk : k ≤ n) (hcap : n ≤ cap) (K : Int) (hK : K = k) : (sliceC (.slice (some ⟨b, 0, none⟩) n cap) none (some (.int .i64 K)) none).run Try.prog w = .ok (.slice (some ⟨b, 0, none⟩) k cap) w := by
  subst hK
  unfold sliceC
  rw [run_sliceAt_slice _ _ _ _ _ _ und_coins, run_slice_h _ _ _ _ _ und_coins _ _ (by omega) (by omega), run_size_c, Int.toNat_natCast]
  simp only [Result.andThen, sliced, Nat.sub_zero]
  split <;> simp [addr_zero]
theorem blk_keep {W W' : World} {b : Nat} {t : TypeId} {vs : List Value} {row : Option Nat} (h : Blk W b t vs) (hg : W.grownBy W' row) (hr : ∀ r, row = some r → ∃ o : Obj, W.heap[r]? = some o ∧ o.isCells = false) : Blk W' b t vs := by
  refine h.grown hg fun e => ?_
  obtain ⟨o, ho, hc⟩ := hr b e.symm
  unfold Blk at h
  rw [h] at ho
  cases ho
  cases hc
theorem coins_keep {W W' : World} {v : Value} {C : List Coin} {row : Option Nat} (h : IsCoins W v C) (hg : W.grownBy W' row) (hr : ∀ r, row = some r → ∃ o : Obj, W.heap[r]? = some o ∧ o.isCells = false) : IsCoins W' v C := by
  obtain h | ⟨a, cap, rfl, h1, h2, hc⟩ := h
  · exact .inl h
  · exact .inr ⟨a, cap, rfl, h1, h2, fun i u hu => cell_kept (hc i u hu) hg hr⟩
/-- what stands between two rounds -/
structure SpInv (S : List Coin) (vs : List Value) (l0 : List Int) (c0 g lo m2 : Nat) (w : World) (k : Nat) (W : World) : Prop where
  lens : Blk W g 3 (i64s (st S l0 c0 k).1)
  box : Blk W w.heap.size 25 [.slice (some ⟨g, 0, none⟩) l0.length m2]
  arr : Blk W (w.heap.size + 1) 43 vs
  cnt : Blk W (w.heap.size + 2) 3 [.int .i64 (st S l0 c0 k).2]
  sl : Blk W (w.heap.size + 3) 54 [.slice (some ⟨w.heap.size + 1, 0, none⟩) 15 15]
  rows : RowsAre S lo w.heap.size W vs 15
  gr : Gr w W g
theorem spInv_own {S : List Coin} {vs : List Value} {l0 : List Int} {c0 g lo m2 : Nat} {w : World} {B : Nat} (hB : w.heap.size ≤ B) : OwnFrom B (SpInv S vs l0 c0 g lo m2 w) := by
  intro k W W' row h hg hr
  have hr' : ∀ r, row = some r → ∃ o : Obj, W.heap[r]? = some o ∧ o.isCells = false := fun r e => (hr r e).2
  refine ⟨blk_keep h.lens hg hr', blk_keep h.box hg hr', blk_keep h.arr hg hr', blk_keep h.cnt hg hr', blk_keep h.sl hg hr', ⟨h.rows.1, fun i hi => ?_⟩, ?_⟩
  · obtain ⟨b, n, c, e1, e2, e3, e4, e5, e6, e7⟩ := h.rows.2 i hi
    exact ⟨b, n, c, e1, e2, e3, e4, coins_keep e5 hg hr', e6, e7⟩
  · refine ⟨hg.os.trans h.gr.os, hg.tape.trans h.gr.tape, hg.output.trans h.gr.output, Nat.le_trans h.gr.size hg.size, fun i hi hne => ?_⟩
    rw [hg.block i (Nat.lt_of_lt_of_le hi h.gr.size) (fun e => by have := (hr i e.symm).1; omega)]
    exact h.gr.block i hi hne
attribute [local go_sem] Oper.semAt_some
attribute [local go_sem ↓] loadC_eq storeC_eq sliceC_eq
theorem elem_rows : Try.prog.elem 43 = 38 := by kernel_rfl
theorem len_rows : Try.prog.arrayLen 43 = 15 := by kernel_rfl
set_option maxRecDepth 100000 in
set_option maxHeartbeats 16000000 in
theorem spend_any (S : List Coin) (vs : List Value) (l0 : List Int) (c0 g lo m2 : Nat) (w : World) (G : Pl.Good S) (hS : S.length ≤ 300) (hsym : ∀ c ∈ S, 0 ≤ c.2 ∧ c.2 < l0.length) (hl0 : ∀ v ∈ l0, v = 0) (hm : l0.length ≤ 1000000)
    (hc0 : c0 ≤ (rowC S 14).length) (hL : Blk w g 3 (i64s l0)) (hR : RowsAre S lo w.heap.size w vs 15) (hA : AllSl vs) (hlo : g < lo) :
    Calls Try.prog 21 #[.slice (some ⟨g, 0, none⟩) l0.length m2, .agg vs.toArray, .int .i64 c0] w fun e w' => e = .returned (.tuple #[]) ∧ Blk w' g 3 (i64s (st S l0 c0 15).1) ∧ Gr w w' g := by
  have hg := hL.lt
  have h15 : vs.length = 15 := hR.1
  have HL := Lib.hid hL
  have HR := Lib.hid hR
  have HG := Lib.hid G
  have HSY := Lib.hid hsym
  clear hL hR G hsym
  refine (callsIn_wide (n := 4)).1 ?_
  refine callsIn_of_wp_marks Try.func21 rfl trivial ?_ rfl
  simp only [Try.ntmps21, List.size_toArray, List.length_cons, List.length_nil, Nat.reduceAdd, Nat.reduceSub, Array.replicate_succ, Array.replicate_zero, List.push_toArray, List.append_toArray, List.nil_append, List.cons_append]
  have har : ∀ W : World, (Instr.sliceAt 43 (.pointer (some ⟨w.heap.size + 1, 0, none⟩)) none none none).run Try.prog W = .ok (.slice (some ⟨w.heap.size + 1, 0, none⟩) 15 15) W := fun W => by
    rw [run_sliceAt_array_all _ _ _ (by rw [len_rows, elem_rows]; exact Try.underlying43), len_rows, elem_rows, Try.sizeOf38]
    simp [Result.andThen, slicedAt, addr_zero]
  gi_wp2_with fail
  refine ⟨trivial, ?_⟩
  refine (backward_any Fence.wide _ trivial rfl _ _ _ _).mono ?_
  rintro e w' ⟨rfl, rfl⟩
  clear har
  obtain ⟨W0, hW0⟩ : ∃ W0, ((((w.alloc (.cells #[.slice (some ⟨g, 0, none⟩) l0.length m2] 25)).alloc (.cells vs.toArray 43)).alloc (.cells #[.int .i64 c0] 3)).alloc (.cells #[.slice (some ⟨w.heap.size + 1, 0, none⟩) 15 15] 54)) = W0 := ⟨_, rfl⟩
  have hsz : W0.heap.size = w.heap.size + 4 := by rw [← hW0]; simp
  have hB0 : Below w.heap.size w W0 := by rw [← hW0]; exact ((((Below.refl _ w).alloc (Nat.le_refl _) _).alloc (by simp) _).alloc (by simp; omega) _).alloc (by simp; omega) _
  have hinv0 : SpInv S vs l0 c0 g lo m2 w 0 W0 := by
    refine ⟨HL.out.below hB0 hg, ?_, ?_, ?_, ?_, ⟨h15, fun i hi => ?_⟩, Gr.ofBelow hB0⟩
    · rw [← hW0]; exact (((Blk.new w 25 [.slice (some ⟨g, 0, none⟩) l0.length m2]).alloc _).alloc _).alloc _
    · rw [← hW0]
      have := Blk.new (w.alloc (.cells #[.slice (some ⟨g, 0, none⟩) l0.length m2] 25)) 43 vs
      rw [World.size_alloc] at this
      exact (this.alloc _).alloc _
    · rw [← hW0]
      have := Blk.new ((w.alloc (.cells #[.slice (some ⟨g, 0, none⟩) l0.length m2] 25)).alloc (.cells vs.toArray 43)) 3 [.int .i64 c0]
      rw [World.size_alloc, World.size_alloc] at this
      exact this.alloc _
    · rw [← hW0]
      have := Blk.new (((w.alloc (.cells #[.slice (some ⟨g, 0, none⟩) l0.length m2] 25)).alloc (.cells vs.toArray 43)).alloc (.cells #[.int .i64 c0] 3)) 54 [.slice (some ⟨w.heap.size + 1, 0, none⟩) 15 15]
      rw [World.size_alloc, World.size_alloc, World.size_alloc] at this
      exact this
    · obtain ⟨b, n, c, e1, e2, e3, e4, e5, e6, e7⟩ := HR.out.2 i hi
      exact ⟨b, n, c, e1, e2, e3, e4, e5.below hB0, e6, e7⟩
  have HI0 := Lib.hid hinv0
  clear hinv0 hB0
  simp only [World.size_alloc] at *
  rw [hW0]
  clear hW0
  gi_wp2_with fail
  refine range_rounds rfl (by omega) (gf := 34) (lb := #[.pointer (some ⟨w.heap.size + 3, 0, none⟩)]) rfl trivial (enters_of Try.func34 (by kernel_rfl) rfl) 15
    (fun k => #[.int .i64 ((14 - k : Nat) : Int), vs.getD (14 - k) (.slice none 0 0)]) (fun _ => rfl) (SpInv S vs l0 c0 g lo m2 w) (spInv_own (by omega)) HI0.out
    (fun l J W hJI hY h0 => back_rounds Fence.wide 3 trivial rfl (by omega) l (w.heap.size + 3) (w.heap.size + 1) vs h15 hA J (fun k W hJ => ⟨(hJI k W hJ).sl.cell rfl, fun i hi => (hJI k W hJ).arr.cell (by rw [List.getD_eq_getElem?_getD, List.getElem?_eq_getElem (by omega)]; rfl)⟩) hY W h0)
    (fun k => { tmps := #[.slice (some ⟨g, 0, none⟩) l0.length m2, .agg vs.toArray, .int .i64 c0, .pointer (some ⟨w.heap.size, 0, none⟩), .pointer (some ⟨w.heap.size + 1, 0, none⟩), .pointer (some ⟨w.heap.size + 2, 0, none⟩), undef, vs.getD (14 - k) (.slice none 0 0), undef, undef, undef, .slice (some ⟨w.heap.size + 1, 0, none⟩) 15 15, .func (.func 34) #[] #[.pointer (some ⟨w.heap.size + 3, 0, none⟩)], .int .i64 ((14 - k : Nat) : Int), vs.getD (14 - k) (.slice none 0 0), undef, undef, undef, undef, undef, undef, undef, undef, undef, undef, undef, undef, undef, undef, undef, undef, undef, undef, undef, undef, undef, undef, undef], defers := [] }) ?assign ?body ?done
  case assign =>
    intro l k W K hK
    gi_wp2
    exact hK
  case done =>
    intro D W hD hI hW
    gi_wp2
    refine ⟨by simp, .inl ⟨_, _, rfl, run_takeDeferred hW, ?_⟩⟩
    have hfin := (spInv_own (S := S) (vs := vs) (l0 := l0) (c0 := c0) (g := g) (lo := lo) (m2 := m2) (w := w) (B := W0.heap.size) (by omega)).putObj (.deferred none) hI hD hW rfl
    exact ⟨_, results_none rfl _ _ _, rfl, hfin.lens, hfin.gr⟩
  case body =>
    intro l k W hk hI
    have hcnt := st_count HG.out l0 c0 hc0 k (by omega)
    have hsmall := st_small hS l0 c0 hl0 k
    have hll := st_length S l0 c0 k
    obtain ⟨b, n, cp, e1, e2, e3, e4, e5, e6, e7⟩ := hI.rows.2 (14 - k) (by omega)
    have hrow := row_ok HSY.out (14 - k) (st S l0 c0 k).2
    have hvk : vs.getD (14 - k) (.slice none 0 0) = .slice (some ⟨b, 0, none⟩) n cp := by rw [List.getD_eq_getElem?_getD, e1]; rfl
    have hstk : st S l0 c0 (k + 1) = (bump (st S l0 c0 k).1 ((rowC S (14 - k)).take (st S l0 c0 k).2), 2 * cntS (-1) ((rowC S (14 - k)).take (st S l0 c0 k).2)) := rfl
    rw [hvk]
    have hcn : (st S l0 c0 k).2 ≤ n := by omega
    have hn600 : n ≤ 600 := by have := row_small S (14 - k); omega
    obtain ⟨L, hLL⟩ : ∃ L, (st S l0 c0 k).1 = L := ⟨_, rfl⟩
    obtain ⟨c, hcc⟩ : ∃ c, (st S l0 c0 k).2 = c := ⟨_, rfl⟩
    obtain ⟨T, hT⟩ : ∃ T, (rowC S (14 - k)).take c = T := ⟨_, rfl⟩
    rw [hLL, hcc, hT] at hstk
    rw [hLL] at hsmall hll
    rw [hcc] at hrow hcn
    rw [hT] at hrow
    have hTl : T.length = c := by rw [← hT, List.length_take]; omega
    have hTc : IsCoins W (.slice (some ⟨b, 0, none⟩) c cp) T := by rw [← hT]; exact e5.take e2.symm c hcn
    have hlens : Blk W g 3 (i64s L) := by rw [← hLL]; exact hI.lens
    have hbc : Blk W (w.heap.size + 2) 3 [.int .i64 c] := by rw [← hcc]; exact hI.cnt
    have HI := Lib.hid hI
    have HT := Lib.hid hTc
    have HLn := Lib.hid hlens
    have HST := Lib.hid hstk
    have HRW := Lib.hid hrow
    have HSM := Lib.hid hsmall
    have hwg : w.heap.size + 4 ≤ W.heap.size := by have := hI.sl.lt; omega
    have hne : b ≠ g := by omega
    have hsl := run_uptoB (w := W) (b := b) (n := n) (cap := cp) c hcn e3 c rfl
    have c5 : W.cell? ⟨w.heap.size + 2, 0, none⟩ = some (.int .i64 c) := hbc.cell rfl
    have c3 : W.cell? ⟨w.heap.size, 0, none⟩ = some (.slice (some ⟨g, 0, none⟩) l0.length m2) := hI.box.cell rfl
    clear hcnt hI e1 e2 e4 e5 hvk hrow hstk hLL hcc hT hTc hlens hsmall hbc
    gi_wp2
    gi_loopw [8, 19] (fun x8 x19 wr => ∃ i : Nat, i ≤ c ∧ x8 = .int .i64 (cntS (-1) (T.take i) : Nat) ∧ x19 = .int .i64 i ∧ Blk wr g 3 (i64s (bump L (T.take i))) ∧ Gr W wr g) (fun _ x _ => c - (intOf x).toNat)
    case atStart => exact ⟨0, by omega, rfl, rfl, by simpa [bump] using HLn.out, Gr.refl _ _⟩
    case round =>
      obtain ⟨i, hi, rfl, rfl, hb, hgr⟩ := hrel
      have HB := Lib.hid hb
      have HGR := Lib.hid hgr
      have hsz2 := hgr.size
      clear hb hgr
      by_cases hlt : i < c
      · have hTi : IsCoins wr (.slice (some ⟨b, 0, none⟩) c cp) T := IsCells.row HT.out (r := some g) HGR.out fun a m c' e h0 e2 => by
          simp at e
          obtain ⟨rfl, _, _⟩ := e
          simp at e2
          exact hne e2
        obtain ⟨b', off', cap', hs, _, _, hbl, hc⟩ := hTi.cells (by omega)
        simp at hs
        obtain ⟨⟨rfl, rfl⟩, hx1, hx2⟩ := hs
        clear hx1 hx2
        have hci := hc i (by omega)
        rw [Nat.zero_add] at hci
        have hld := run_loadC hci.1 hci.2
        obtain ⟨w2, hst, hblk, hbel⟩ := store_new wr (T.getD i (0, 0))
        have hp1 := @bump_pair L T i (by omega)
        have hp2 := @bump_sym L T i (by omega)
        have hok := HRW.out (T.getD i (0, 0)) (by rw [List.getD_eq_getElem?_getD, List.getElem?_eq_getElem (by omega)]; exact List.getElem_mem _)
        have hbb := bump_bound L (T.take i) (600 * (k : Int)) (by omega) HSM.out
        have hbl2 := bump_length L (T.take i)
        have hcl := cnt_le (-1) (T.take i)
        rw [List.length_take] at hcl
        have hlt2 := hblk.lt
        have HB2 := Lib.hid (HB.out.below hbel HB.out.lt)
        have HGR2 := Lib.hid (Gr.trans HGR.out (Gr.ofBelow hbel))
        have c3' : w2.cell? ⟨w.heap.size, 0, none⟩ = some (.slice (some ⟨g, 0, none⟩) l0.length m2) := ((Blk.grown (HI.out.box) HGR2.out (by simp; omega))).cell rfl
        have cs : w2.cell? ⟨wr.heap.size, 1, none⟩ = some (.int .i64 (T.getD i (0, 0)).2) := hblk.cell rfl
        have P1 := Lib.hid hp1
        have P2 := Lib.hid hp2
        have BB := Lib.hid hbb
        have HOK := Lib.hid hok
        have hcl2 : cntS (-1) (T.take i) ≤ i := by omega
        clear hp1 hp2 hbb hc hci hTi hblk hbel HB hok hcl
        generalize T.getD i (0, 0) = t at *
        generalize cntS (-1) (T.take i) = pc at *
        generalize bump L (T.take i) = Li at *
        by_cases hsym : t.2 = -1
        · have q := P1.out hsym
          obtain ⟨t1, t2⟩ := t
          simp only at hsym
          subst hsym
          have Q := Lib.hid q
          simp only at hld hst cs
          clear q P1 P2 HOK
          gi_wp2
          go_roundw
          case rel => exact ⟨i + 1, by omega, by rw [Q.out.2]; first | rfl | (congr 1; omega), by first | rfl | go_num, by rw [Q.out.1]; exact HB2.out, HGR2.out⟩
          case measure => simp [intOf]; omega
        · have hok' := HOK.out.resolve_left hsym
          obtain ⟨y, hy⟩ : ∃ y : Nat, t.2 = y := ⟨t.2.toNat, by omega⟩
          have q := P2.out hsym
          have hy2 : t.2.toNat = y := by omega
          rw [hy2] at q
          have hyl : y < Li.length := by rw [hbl2, hll]; omega
          have hne1 : (t.2 == -1) = false := beq_f hsym
          have cl : w2.cell? ⟨g, y, none⟩ = some (.int .i64 (Li.getD y 0)) := HB2.out.cell (i64s_get Li y hyl)
          have fl := HB2.out.frozen y
          have hv := BB.out (Li.getD y 0) (by rw [List.getD_eq_getElem?_getD, List.getElem?_eq_getElem hyl]; exact List.getElem_mem _)
          have hset := HB2.out.set y (.int .i64 (Li.getD y 0 + 1))
          rw [i64s_set] at hset
          have HSET := Lib.hid hset
          have hTl2 : ((T.take i).length : Int) ≤ 600 := by rw [List.length_take]; omega
          have hyl0 : (y : Int) < (l0.length : Int) := by omega
          obtain ⟨t1, t2⟩ := t
          have Q := Lib.hid q
          simp only at hy hne1 hok' hsym cs hy2 hst hld
          clear q P1 P2 HOK hy2
          subst hy
          generalize Li.getD y 0 = z at *
          have hz : wrap64 (z + 1) = z + 1 := by unfold wrap64; omega
          clear hset
          gi_wp2
          go_roundw
          case rel => exact ⟨i + 1, by omega, by rw [Q.out.2], by first | rfl | go_num, by rw [Q.out.1]; exact HSET.out, HGR2.out.setCell _ _⟩
          case measure => simp [intOf]; omega
      · obtain rfl : i = c := by omega
        have hT2 : T.take i = T := List.take_of_length_le (by omega)
        rw [hT2] at HB ⊢
        have hcl := cnt_le (-1) T
        have hb5 := Blk.grown HI.out.cnt HGR.out (by simp; omega)
        have c5' : wr.cell? ⟨w.heap.size + 2, 0, none⟩ = some (.int .i64 (st S l0 c0 k).2) := hb5.cell rfl
        have f5' := hb5.frozen 0
        have hset := hb5.set 0 (.int .i64 ((2 * cntS (-1) T : Nat) : Int))
        have HSET := Lib.hid hset
        have HST1 := Lib.hid (congrArg Prod.fst HST.out)
        have HST2 := Lib.hid (congrArg Prod.snd HST.out)
        clear hset hb5
        generalize hq : cntS (-1) T = q at *
        have HQ := Lib.hid hq
        have hq2 : q ≤ 600 := by omega
        have hgW : g < W0.heap.size := by omega
        clear hq
        gi_wp2
        have hgr3 : Gr w (wr.setCell ⟨w.heap.size + 2, 0, none⟩ (.int .i64 (2 * (q : Int)))) g := by
          have h1 := Gr.trans HI.out.gr HGR.out
          refine ⟨h1.os, h1.tape, h1.output, by simpa using h1.size, fun i hi hne => ?_⟩
          rw [Below.heap_setCell _ _ _ _ (by simp; omega)]
          exact h1.block i hi hne
        have e2q : ((2 * q : Nat) : Int) = 2 * (q : Int) := by omega
        have hset := HSET.out
        rw [e2q] at hset
        refine ⟨(KeepsFrom.of_grownBy (row := some g) HGR.out (fun j e => by cases e; omega)).trans ((KeepsOthers.setCell _ _ _).from _), ?_⟩
        refine ⟨?_, ?_, ?_, ?_, ?_, ⟨HI.out.rows.1, fun i hi => ?_⟩, hgr3⟩
        · rw [HST1.out]; exact HB.out.setOther (by simp; omega) _
        · exact (Blk.grown HI.out.box HGR.out (by simp; omega)).setOther (by simp) _
        · exact (Blk.grown HI.out.arr HGR.out (by simp; omega)).setOther (by simp) _
        · rw [HST2.out, e2q]; exact hset
        · exact (Blk.grown HI.out.sl HGR.out (by simp; omega)).setOther (by simp) _
        · obtain ⟨b', n', c', e1, e2, e3, e4, e5, e6, e7⟩ := HI.out.rows.2 i hi
          refine ⟨b', n', c', e1, e2, e3, e4, ?_, e6, e7⟩
          have h1 : IsCoins wr (.slice (some ⟨b', 0, none⟩) n' c') (rowC S i) := IsCells.row e5 (r := some g) HGR.out fun a m c' e h0 e2 => by
            simp at e
            obtain ⟨rfl, _, _⟩ := e
            simp at e2
            omega
          exact IsCells.row h1 (r := some (w.heap.size + 2)) (Gr.setCell (Gr.refl _ _) _ _) fun a m c' e h0 e2 => by
            simp at e
            obtain ⟨rfl, _, _⟩ := e
            simp at e2
            omega
end Go.Proofs.Ytnoleijdpilnpaa

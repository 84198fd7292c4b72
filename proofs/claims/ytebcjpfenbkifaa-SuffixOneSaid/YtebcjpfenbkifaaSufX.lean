/- SuffixOne, walked. -/
import Derived.Test.YtebcjpfenbkifaaSufW
set_option linter.unusedSimpArgs false
set_option linter.unusedVariables false
namespace Go.Proofs.Ytebcjpfenbkifaa
open Go.RowKit Pl
namespace Pl
theorem rep_lt (x : Nat) : ∀ a b : Nat, a < b → lexB (List.replicate a x) (List.replicate b x) = true := by
  intro a
  induction a with
  | zero => intro b h; obtain ⟨c, rfl⟩ : ∃ c, b = c + 1 := ⟨b - 1, by omega⟩
            rfl
  | succ a ih => intro b h; obtain ⟨c, rfl⟩ : ∃ c, b = c + 1 := ⟨b - 1, by omega⟩
                 rw [List.replicate_succ, List.replicate_succ, lexB_same]; exact ih c (by omega)
theorem rep_lcp (x : Nat) : ∀ a b : Nat, a ≤ b → lcp (List.replicate a x) (List.replicate b x) = a := by
  intro a
  induction a with
  | zero => intro b h; simp [lcp]
  | succ a ih => intro b h; obtain ⟨c, rfl⟩ : ∃ c, b = c + 1 := ⟨b - 1, by omega⟩
                 rw [List.replicate_succ, List.replicate_succ, lcp_same, ih c (by omega)]
def down (n : Nat) : List Nat := (List.range n).map fun i => n - 1 - i
theorem down_length (n : Nat) : (down n).length = n := by simp [down]
theorem down_get {n i : Nat} (h : i < n) : (down n).getD i 0 = n - 1 - i := by simp [down, List.getD, h]
theorem one_sa (n x : Nat) : IsSA (List.replicate n x) (down n) := by
  refine ⟨?_, fun i => ?_⟩
  · unfold Rises
    rw [List.pairwise_iff_getElem]
    intro a b ha hb hab
    rw [down_length] at ha hb
    rw [← getD_get (down n) 0 (by rw [down_length]; exact ha), ← getD_get (down n) 0 (by rw [down_length]; exact hb), down_get ha, down_get hb]
    unfold sufB
    rw [List.drop_replicate, List.drop_replicate]
    exact rep_lt x _ _ (by omega)
  · unfold down
    rw [List.mem_map, List.length_replicate]
    constructor
    · rintro ⟨j, hj, rfl⟩; rw [List.mem_range] at hj; omega
    · intro hi; exact ⟨n - 1 - i, List.mem_range.2 (by omega), by omega⟩
theorem one_com (n x : Nat) : comL (List.replicate n x) (down n) = List.range n := by
  refine List.ext_getElem (by rw [comL_length, down_length, List.length_range]) fun i h1 h2 => ?_
  rw [List.length_range] at h2
  rw [← getD_get _ 0 h1, comL_get _ _ (by rw [down_length]; exact h2), List.getElem_range]
  unfold comV
  by_cases h0 : i = 0
  · rw [if_pos h0, h0]
  · rw [if_neg h0, down_get h2, down_get (by omega)]
    unfold lcpAt
    rw [List.drop_replicate, List.drop_replicate, show n - (n - 1 - (i - 1)) = i by omega]
    exact rep_lcp x _ _ (by omega)
end Pl
set_option maxRecDepth 100000 in
set_option maxHeartbeats 8000000 in
theorem suffixOne_walk (n x : Int) (w : World) (wn : (Lit.int .i64 n).wf = true) (wx : (Lit.int .u8 x).wf = true) :
    Calls Try.prog 7 #[.int .i64 n, .int .u8 x] w fun e w' => e = .returned (.bool true) ∧ Below w.heap.size w w' := by
  by_cases h1 : n < 0
  · go_enter Try.func7, Try.ntmps7
    go_wp2_with fail
    refine (begun_any _).mono ?_
    rintro e w1 ⟨rfl, hb1⟩
    have HB1 := Lib.hid hb1
    clear hb1
    go_wp2_with fail
    go_ret
    exact ⟨rfl, HB1.out⟩
  by_cases h2 : 1500 < n
  · go_enter Try.func7, Try.ntmps7
    go_wp2_with fail
    refine (begun_any _).mono ?_
    rintro e w1 ⟨rfl, hb1⟩
    have HB1 := Lib.hid hb1
    clear hb1
    go_wp2_with fail
    go_ret
    exact ⟨rfl, HB1.out⟩
  obtain ⟨n, rfl⟩ : ∃ k : Nat, n = k := ⟨n.toNat, by omega⟩
  have hx := u8_wf wx
  obtain ⟨x, rfl⟩ : ∃ k : Nat, x = k := ⟨x.toNat, by omega⟩
  obtain ⟨hx1, hx2⟩ := hx
  obtain ⟨i0, hi, hz0, hz1, hz2⟩ := info_parts info5
  have Hi := Lib.hid hi
  have Hz0 := Lib.hid hz0
  have Hz1 := Lib.hid hz1
  have Hz2 := Lib.hid hz2
  clear hi hz0 hz1 hz2 wn wx
  go_enter Try.func7, Try.ntmps7
  go_wp2_with fail
  refine (begun_any _).mono ?_
  rintro e w1 ⟨rfl, hb1⟩
  have HB1 := Lib.hid hb1
  clear hb1
  go_wp2_with (at_make; refine wpList_make_full _ rfl _ _ 22 rfl w1.heap.size 5 i0 (.int .u8 0) 1 Try.underlying22 Hi.out Hz0.out Hz1.out .i64 .i64 _ _ n rfl rfl rfl rfl (by rw [Hz2.out]; omega) (by unfold maxLen; omega) (Nat.le_refl _) ?_; intro w2 hown hgr)
  have HG2 : Hid (Blk w2 w1.heap.size 5 (u8s (List.replicate n 0))) := Lib.hid (by
    have := made_blk hown
    rw [made_list] at this
    simpa [u8s] using this)
  have HB2 : Hid (Below w1.heap.size w1 w2) := Lib.hid ((Below.refl _ _).grown hgr (Nat.le_refl _) (by simp))
  clear hown hgr
  go_wp2_with fail
  go_loopw [7] (fun y wr => ∃ k : Nat, k ≤ n ∧ y = .int .i64 k ∧ Blk wr w1.heap.size 5 (u8s (List.replicate k x ++ List.replicate (n - k) 0)) ∧ Below w1.heap.size w1 wr) (fun y _ => n - (intOf y).toNat)
  case atStart => exact ⟨0, Nat.zero_le _, rfl, by simpa using HG2.out, HB2.out⟩
  case round =>
    obtain ⟨k, hk, rfl, hb, hbel⟩ := hrel
    have HB := Lib.hid hb
    have HBE := Lib.hid hbel
    clear hb hbel HG2 HB2
    by_cases hlt : k < n
    · have hl : (List.replicate k x ++ List.replicate (n - k) 0).length = n := by simp; omega
      have c0 := HB.out.cell (u8s_get _ k (by rw [hl]; exact hlt))
      have f0 := HB.out.frozen k
      have hset := HB.out.set k (.int .u8 x)
      rw [u8s_set] at hset
      have he : (List.replicate k x ++ List.replicate (n - k) 0).set k x = List.replicate (k + 1) x ++ List.replicate (n - (k + 1)) 0 := by
        rw [List.set_append_right _ _ (by simp), List.length_replicate, Nat.sub_self, show n - k = n - (k + 1) + 1 by omega, List.replicate_succ, List.set_cons_zero, List.replicate_succ' (n := k)]
        simp
      rw [he] at hset
      have HSET := Lib.hid hset
      have HBS := Lib.hid (HBE.out.setCell (p := ⟨w1.heap.size, k, none⟩) (by simp) (.int .u8 x))
      generalize (List.replicate k x ++ List.replicate (n - k) 0).getD k 0 = old at *
      clear hset he hl
      go_wp2_with fail
      refine ⟨⟨k + 1, by omega, by first | rfl | go_num, HSET.out, HBS.out⟩, ?_⟩
      simp only [intOf_i]; omega
    · obtain rfl : k = n := by omega
      have hI : IsBytes wr (.slice (some ⟨w1.heap.size, 0, none⟩) k k) (List.replicate k x) := by
        have hb := HB.out
        rw [Nat.sub_self] at hb
        simp only [List.replicate_zero, List.append_nil] at hb
        refine ⟨fun y hy => by rw [List.eq_of_mem_replicate hy]; omega, .inr ⟨⟨w1.heap.size, 0, none⟩, k, by rw [List.length_replicate], by rw [List.length_replicate]; exact Nat.le_refl _, by unfold maxLen; omega, fun i u hu => ?_⟩⟩
        rw [add_none, Nat.zero_add]
        exact hb.cell hu
      have HI := Lib.hid hI
      have HBR := Lib.hid (HB1.out.trans (HBE.out.mono HB1.out.size))
      clear hI HB HBE
      go_wp2_with fail
      refine (sort_s (n := k) HI.out (by simp; omega) (by simp)).mono ?_
      rintro e w3 ⟨g3, R, rfl, hR, hRl, hi3, hb3⟩
      obtain rfl := sa_unique hR (one_sa k x)
      have HI3 := Lib.hid hi3
      have HJ3 := Lib.hid (HI.out.below hb3)
      have HB3 := Lib.hid (HBR.out.trans (hb3.mono HBR.out.size))
      clear hR hRl hi3 hb3 HI HBR
      go_wp2_with fail
      refine (common_s (n := k) HJ3.out HI3.out (one_sa k x) (by simp; omega) (one_com k x) (by simp)).mono ?_
      rintro e w4 ⟨sp4, cp4, rfl, hi4, hb4⟩
      have HI4 := Lib.hid (HI3.out.below hb4)
      have HC4 := Lib.hid hi4
      have HB4 := Lib.hid (HB3.out.trans (hb4.mono HB3.out.size))
      have hbn : ((k : Int) != (k : Int)) = false := bne_f rfl
      clear hi4 hb4 HI3 HJ3 HB3
      go_wp2_with fail
      go_loopw [10] (fun y wr => ∃ i : Nat, i ≤ k ∧ y = .int .i64 i ∧ wr = w4) (fun y _ => k - (intOf y).toNat)
      case atStart => exact ⟨0, Nat.zero_le _, rfl, rfl⟩
      case round =>
        obtain ⟨i, hi, rfl, rfl⟩ := hrel
        by_cases hlt2 : i < k
        · obtain ⟨b1, o1, q1, e1, _, _, _, hx1⟩ := HI4.out.cells (by rw [nI_length, down_length]; omega)
          simp only [Value.slice.injEq, Option.some.injEq, Addr.mk.injEq, and_true] at e1
          obtain ⟨⟨rfl, rfl⟩, -⟩ := e1
          have d1 := hx1 i (by rw [nI_length, down_length]; exact hlt2)
          rw [nI_get, down_get hlt2, Nat.zero_add] at d1
          obtain ⟨b2, o2, q2, e2, _, _, _, hx2⟩ := HC4.out.cells (by rw [nI_length, List.length_range]; omega)
          simp only [Value.slice.injEq] at e2
          obtain ⟨rfl, -⟩ := e2
          have d2 := hx2 i (by rw [nI_length, List.length_range]; exact hlt2)
          rw [nI_get, show (List.range k).getD i 0 = i by simp [List.getD, hlt2]] at d2
          have e3 : ((k - 1 - i : Nat) : Int) = (k : Int) - 1 - (i : Int) := by omega
          rw [e3] at d1
          obtain ⟨z, hz⟩ : ∃ z : Int, (k : Int) - 1 - (i : Int) = z := ⟨_, rfl⟩
          rw [hz] at d1
          have hb1 : (z != z) = false := bne_f rfl
          have hb2 : ((i : Int) != (i : Int)) = false := bne_f rfl
          clear hx1 hx2 e3 hbn
          go_wp2_with fail
          refine ⟨⟨i + 1, by omega, by first | rfl | go_num, by first | trivial | rfl⟩, ?_⟩
          simp only [intOf_i]; omega
        · go_wp2_with fail
          go_ret
          exact ⟨rfl, HB4.out⟩
end Go.Proofs.Ytebcjpfenbkifaa

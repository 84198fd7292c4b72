/- bwt.Back: a contract. -/
import Derived.Test.YtklpmpniempmcaaBwtA
set_option linter.unusedSimpArgs false
set_option linter.unusedVariables false
namespace Go.Proofs.Ytklpmpniempmcaa
open Go.RowKit Pl
namespace Pl
/-- n bytes, told by a function -/
def fnN (n : Nat) (f : Nat → Nat) : List Nat := (List.range n).map f
theorem fnN_length (n : Nat) (f : Nat → Nat) : (fnN n f).length = n := by simp [fnN]
theorem fnN_get {n : Nat} (f : Nat → Nat) {x : Nat} (h : x < n) : (fnN n f).getD x 0 = f x := by simp [fnN, List.getD, h]
theorem fnN_congr {n : Nat} {f g : Nat → Nat} (h : ∀ x, x < n → f x = g x) : fnN n f = fnN n g := by
  unfold fnN
  exact List.map_congr_left fun x hx => by rw [h x (List.mem_range.1 hx)]
theorem fnN_set {n : Nat} {f g : Nat → Nat} {x v : Nat} (hv : x < n → v = g x) (h : ∀ y, y < n → y ≠ x → g y = f y) : (fnN n f).set x v = fnN n g := by
  refine List.ext_getElem (by simp [fnN]) fun i h1 h2 => ?_
  rw [fnN_length] at h2
  rw [List.getElem_set]
  simp only [fnN, List.getElem_map, List.getElem_range]
  split
  · rename_i e; subst e; exact hv h2
  · rename_i e; rw [h i h2 (fun q => e q.symm)]
theorem fnN_zero (n : Nat) : fnN n (fun _ => 0) = List.replicate n 0 := by
  refine List.ext_getElem (by simp [fnN]) fun i h1 h2 => ?_
  simp [fnN]
theorem fnN_self (L : List Nat) : fnN L.length (fun i => L.getD i 0) = L := by
  refine List.ext_getElem (by simp [fnN]) fun i h1 h2 => ?_
  simp [fnN, h2]
theorem wr_leP {l : List Nat} {a : Nat} (ha : a ≤ l.length) : ∀ i, i ≤ l.length → (∀ j, j < i → wr l a j ≠ a) → wr l a i ≤ l.length := by
  intro i
  induction i with
  | zero => intro _ _; unfold wr; omega
  | succ i ih =>
    intro hi h
    exact (lf_range (plc_lt ha (ih (by omega) fun j hj => h j (by omega)) (h i (by omega)))).2
/-- the text from its end on, i bytes of it -/
def bkP (l : List Nat) (a i : Nat) : List Nat := fnN l.length fun p => if l.length - i ≤ p then (bk l a).getD p 0 else 0
theorem bkP_length (l : List Nat) (a i : Nat) : (bkP l a i).length = l.length := fnN_length _ _
theorem bkP_zero (l : List Nat) (a : Nat) : bkP l a 0 = List.replicate l.length 0 := by
  rw [← fnN_zero]
  exact fnN_congr fun x hx => if_neg (by omega)
theorem bkP_all (l : List Nat) (a : Nat) : bkP l a l.length = bk l a := by
  have h := fnN_self (bk l a)
  rw [bk_length] at h
  unfold bkP
  rw [fnN_congr (g := fun p => (bk l a).getD p 0) fun x _ => if_pos (by omega)]
  exact h
theorem bkP_set {l : List Nat} {a i : Nat} (hi : i < l.length) : (bkP l a i).set (l.length - 1 - i) (l.getD (plc a (wr l a i)) 0) = bkP l a (i + 1) := by
  unfold bkP
  refine fnN_set (fun _ => ?_) fun y hy hne => ?_
  · rw [if_pos (by omega), bk_get (by omega), show l.length - 1 - (l.length - 1 - i) = i by omega]
  · by_cases e : l.length - i ≤ y
    · rw [if_pos e, if_pos (by omega)]
    · rw [if_neg e, if_neg (by omega)]
end Pl
/-- what Back answers at a place that may be -/
def BackPost (l : List Nat) (a N : Nat) (w : World) (e : Ending) (w' : World) : Prop :=
  Below w.heap.size w w' ∧ ((okW l a = true ∧ ∃ g, w.heap.size ≤ g ∧ e = .returned (.tuple #[.slice (some ⟨g, 0, none⟩) N N, .int .i64 0]) ∧ Blk w' g 5 (u8s (bk l a))) ∨ (okW l a = false ∧ e = .returned (.tuple #[.slice none 0 0, .int .i64 6])))
theorem back_out (v : Value) (l : List Nat) (a : Int) (w : World) (hv : IsBytes w v l) (ha : a < 0 ∨ (l.length : Int) < a) :
    Calls Try.prog 19 #[v, .int .i64 a] w fun e w' => e = .returned (.tuple #[.slice none 0 0, .int .i64 6]) ∧ w = w' := by
  obtain ⟨b, cap, rfl, hcap, hmax⟩ := hv.slice
  clear hv
  generalize l.length = N at *
  have hways : a < 0 ∨ (¬ a < 0 ∧ (N : Int) < a) := by omega
  clear ha
  rcases hways with h1 | ⟨h1, h2⟩
  all_goals
    go_enter Try.func19, Try.ntmps19
    go_wp2_with fail
    go_ret2
    exact ⟨rfl, rfl⟩
attribute [local go_sem ↓] loadArr_eq allocArr_eq idxArr_eq
set_option maxHeartbeats 8000000 in
set_option maxRecDepth 100000 in
theorem back_any (v : Value) (l : List Nat) (a N : Nat) (w : World) (hv : IsBytes w v l) (hN : l.length = N) (hB : N ≤ 1000000) (ha : a ≤ N) :
    Calls Try.prog 19 #[v, .int .i64 a] w (BackPost l a N w) := by
  obtain ⟨ad, cap, rfl, hcap, hmax⟩ := hv.slice
  have hlong := fun w' hb => longer_any _ l w' (hv.below hb) N hN hB
  rw [hN] at hv hcap ⊢
  have HV := Lib.hid hv
  have HN := Lib.hid hN
  have HL := Lib.hid (hlong w (Below.refl _ _))
  clear hv hN hlong
  have hn1 : ¬ (a : Int) < 0 := by omega
  have hn2 : ¬ (N : Int) < (a : Int) := by omega
  obtain ⟨i0, hi, hz0, hz1, hz2⟩ := info_parts info5
  have Hi := Lib.hid hi
  have Hz0 := Lib.hid hz0
  have Hz1 := Lib.hid hz1
  have Hz2 := Lib.hid hz2
  clear hi hz0 hz1 hz2
  go_enter Try.func19, Try.ntmps19
  go_wp2_with fail
  rw [HN.out] at HL
  refine HL.out.mono ?_
  rintro e w1 ⟨g, rfl, hg, hblk, hbe⟩
  have HG := Lib.hid hblk
  have HB := Lib.hid hbe
  clear hblk hbe HL
  have hlt1 := HG.out.lt
  go_wp2_with (at_make; refine wpList_make_full _ rfl _ _ 22 rfl w1.heap.size 5 i0 (.int .u8 0) 1 Try.underlying22 Hi.out Hz0.out Hz1.out .i64 .i64 _ _ N rfl rfl (by first | rfl | (simp; done) | omega) (by first | rfl | (simp; done) | omega) (by rw [Hz2.out]; omega) (by unfold maxLen; omega) (Nat.le_refl _) ?_; intro w2 hown hgr)
  have HR2 : Hid (Blk w2 w1.heap.size 5 (u8s (bkP l a 0))) := Lib.hid (by
    have := made_blk hown
    rw [made_list] at this
    rw [bkP_zero, HN.out]
    simpa [u8s] using this)
  have HB2 : Hid (Below w.heap.size w w2) := Lib.hid (HB.out.grown hgr HB.out.size (by simp))
  have HG2 : Hid (Blk w2 g 3 (i64s (fnL N (lf l)))) := Lib.hid (HG.out.grown hgr (by simp))
  have hsz := HB.out.size
  clear hown hgr HG HB
  go_wp2_with fail
  go_loopw [8, 9] (fun r k wr => ∃ i : Nat, i ≤ N ∧ k = .int .i64 ((N : Int) - 1 - i) ∧ r = .int .i64 (Pl.wr l a i) ∧ (∀ j, j < i → Pl.wr l a j ≠ a) ∧ Blk wr w1.heap.size 5 (u8s (bkP l a i)) ∧ Blk wr g 3 (i64s (fnL N (lf l))) ∧ Below w.heap.size w wr) (fun _ k _ => (intOf k + 1).toNat)
  case atStart => exact ⟨0, by omega, by simp, rfl, fun j hj => by omega, HR2.out, HG2.out, HB2.out⟩
  case round =>
    obtain ⟨i, hi, rfl, rfl, hne, hb, hb2, hbe⟩ := hrel
    have HNE := Lib.hid hne
    have HR := Lib.hid hb
    have HG := Lib.hid hb2
    have HB := Lib.hid hbe
    have hrow := wr_leP (l := l) (a := a) (by rw [HN.out]; exact ha) i (by rw [HN.out]; exact hi) hne
    rw [HN.out] at hrow
    clear hne hb hb2 hbe HR2 HG2 HB2
    by_cases hlt : i < N
    · obtain ⟨k, hk⟩ : ∃ k, k = N - 1 - i := ⟨_, rfl⟩
      have hkI : (N : Int) - 1 - (i : Int) = (k : Int) := by omega
      rw [hkI]
      have HKN : Hid (k = N - 1 - i) := Lib.hid hk
      have hkN : k < N := by omega
      have hk1 : (k : Int) - 1 = (N : Int) - 1 - ((i + 1 : Nat) : Int) := by omega
      have HK1 := Lib.hid hk1
      clear hk hkI hk1
      by_cases hat : Pl.wr l a i = a
      · have HBAD : Hid (okW l a = false) := Lib.hid (by
          cases h : okW l a with
          | false => rfl
          | true => exact absurd hat (okW_iff.1 h i (by rw [HN.out]; exact hlt)))
        rw [hat]
        have heq : ((a : Int) == (a : Int)) = true := beq_t rfl
        clear hat
        go_wp2_with fail
        go_ret2
        exact ⟨HB.out, .inr ⟨HBAD.out, rfl⟩⟩
      · have hp := plc_lt ha hrow hat
        obtain ⟨b1, o1, q1, e1, -, -, -, hx1⟩ := (HV.out.below HB.out).cells (by rw [HN.out]; omega)
        simp only [Value.slice.injEq, Option.some.injEq] at e1
        obtain ⟨rfl, -, rfl⟩ := e1
        have d1 := hx1 (plc a (Pl.wr l a i)) (by rw [HN.out]; exact hp)
        have c1 := HG.out.cell (i64s_get (fnL N (lf l)) (plc a (Pl.wr l a i)) (by rw [fnL_length]; exact hp))
        rw [fnL_get _ hp] at c1
        have c0 := HR.out.cell (u8s_get (bkP l a i) k (by rw [bkP_length, HN.out]; exact hkN))
        have f0 := HR.out.frozen k
        have hset := HR.out.set k (.int .u8 (l.getD (plc a (Pl.wr l a i)) 0 : Nat))
        rw [u8s_set] at hset
        have hst := bkP_set (l := l) (a := a) (i := i) (by rw [HN.out]; exact hlt)
        rw [HN.out, ← HKN.out] at hst
        rw [hst] at hset
        have HSET := Lib.hid hset
        have HNX : Hid (Pl.wr l a (i + 1) = lf l (plc a (Pl.wr l a i))) := Lib.hid rfl
        have HBS := Lib.hid (HB.out.setCell (p := ⟨w1.heap.size, k, none⟩) (by simp; omega) (.int .u8 (l.getD (plc a (Pl.wr l a i)) 0 : Nat)))
        have HGS := Lib.hid (HG.out.setOther (p := ⟨w1.heap.size, k, none⟩) (by simp; omega) (.int .u8 (l.getD (plc a (Pl.wr l a i)) 0 : Nat)))
        have hlr := (lf_range (l := l) (k := plc a (Pl.wr l a i)) (by rw [HN.out]; exact hp)).2
        rw [HN.out] at hlr
        have HNE2 : Hid (∀ j, j < i + 1 → Pl.wr l a j ≠ a) := Lib.hid fun j hj => by
          by_cases e : j = i
          · subst e; exact hat
          · exact HNE.out j (by omega)
        have hdef : plc a (Pl.wr l a i) = (if a < Pl.wr l a i then Pl.wr l a i - 1 else Pl.wr l a i) := rfl
        generalize plc a (Pl.wr l a i) = q at *
        generalize Pl.wr l a i = r at *
        generalize l.getD q 0 = x at *
        generalize lf l q = f at *
        generalize (bkP l a i).getD k 0 = y at *
        have heq : ((r : Int) == (a : Int)) = false := beq_f (by omega)
        clear hx1 hset hst
        have hways : (r < a ∧ q = r) ∨ (a < r ∧ r = q + 1) := by
          by_cases e : a < r
          · rw [if_pos e] at hdef; omega
          · rw [if_neg e] at hdef; omega
        clear hdef
        rcases hways with ⟨h1, rfl⟩ | ⟨h1, h2⟩
        · have hgt : ¬ (a : Int) < (q : Int) := by omega
          go_wp2_with fail
          refine ⟨⟨i + 1, by omega, by rw [HK1.out], by rw [HNX.out], HNE2.out, HSET.out, HGS.out, HBS.out⟩, ?_⟩
          simp only [intOf_i]; have := HK1.out; omega
        · have hgt : (a : Int) < (r : Int) := by omega
          have hq1 : (r : Int) - 1 = (q : Int) := by omega
          have HH2 := Lib.hid h2
          clear h2
          go_wp2_with fail
          refine ⟨⟨i + 1, by omega, by rw [HK1.out], by rw [HNX.out], HNE2.out, HSET.out, HGS.out, HBS.out⟩, ?_⟩
          simp only [intOf_i]; have := HK1.out; omega
    · obtain rfl : i = N := by omega
      have hkI : (i : Int) - 1 - (i : Int) = -1 := by omega
      rw [hkI]
      have HOK : Hid (okW l a = true) := Lib.hid (okW_iff.2 fun j hj => HNE.out j (by rw [← HN.out]; exact hj))
      have HR3 : Hid (Blk wr w1.heap.size 5 (u8s (bk l a))) := Lib.hid (by
        have := HR.out
        rw [← HN.out, bkP_all] at this
        exact this)
      clear HR hkI
      go_wp2_with fail
      go_ret2
      exact ⟨HB.out, .inl ⟨HOK.out, _, hsz, rfl, HR3.out⟩⟩
end Go.Proofs.Ytklpmpniempmcaa

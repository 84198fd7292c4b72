/- codes.Of: a contract. -/
import Derived.Test.YtijjpbpoekbekaaCodB
set_option linter.unusedSimpArgs false
set_option linter.unusedVariables false
namespace Go.Proofs.Ytijjpbpoekbekaa
open Go.RowKit Pl
namespace Pl
/-- a code's bits and length -/
abbrev Cd := Int × Int
/-- the codes of all symbols of length at most k, and of the first r of the next length -/
def codeP (lens : List Int) (k r : Nat) : List Cd := (List.range lens.length).map fun i => if 1 ≤ lens.getD i 0 ∧ (lens.getD i 0 < ((k + 1 : Nat) : Int) ∨ (lens.getD i 0 = ((k + 1 : Nat) : Int) ∧ (symK lens (k + 1) i).length < r)) then ((codeN lens i : Int), lens.getD i 0) else (0, 0)
def codesL (lens : List Int) : List Cd := (List.range lens.length).map fun i => if 1 ≤ lens.getD i 0 then ((codeN lens i : Int), lens.getD i 0) else (0, 0)
theorem codeP_length (lens : List Int) (k r : Nat) : (codeP lens k r).length = lens.length := by simp [codeP]
theorem codesL_length (lens : List Int) : (codesL lens).length = lens.length := by simp [codesL]
theorem codesL_get {lens : List Int} {i : Nat} (hi : i < lens.length) : (codesL lens).getD i (0, 0) = if 1 ≤ lens.getD i 0 then ((codeN lens i : Int), lens.getD i 0) else (0, 0) := by
  unfold codesL; rw [List.getD_eq_getElem?_getD, List.getElem?_map, List.getElem?_range hi]; rfl
theorem codesL_len {lens : List Int} (h : inB lens) {i : Nat} (hi : i < lens.length) : ((codesL lens).getD i (0, 0)).2 = lens.getD i 0 := by
  rw [codesL_get hi]
  have := getD_in h i
  split
  · rfl
  · show (0 : Int) = _; omega
theorem codeP_zero (lens : List Int) : codeP lens 0 0 = List.replicate lens.length (0, 0) := by
  apply List.ext_getElem?
  intro i
  unfold codeP
  rw [List.getElem?_map, List.getElem?_replicate]
  by_cases h : i < lens.length
  · rw [List.getElem?_range h, if_pos h, Option.map_some, if_neg (by omega)]
  · rw [List.getElem?_eq_none (by simpa using h), if_neg h]; rfl
theorem codeP_next (lens : List Int) (k : Nat) : codeP lens k (row lens (k + 1)).length = codeP lens (k + 1) 0 := by
  apply List.map_congr_left
  intro i hi
  have hi : i < lens.length := by simpa using hi
  have : lens.getD i 0 = ((k + 1 : Nat) : Int) → (symK lens (k + 1) i).length < (row lens (k + 1)).length := fun h => (symK_at h hi).1
  by_cases h : lens.getD i 0 = ((k + 1 : Nat) : Int)
  · rw [if_pos ⟨by omega, .inr ⟨h, this h⟩⟩, if_pos ⟨by omega, .inl (by omega)⟩]
  · by_cases h2 : 1 ≤ lens.getD i 0 ∧ lens.getD i 0 < ((k + 1 : Nat) : Int)
    · rw [if_pos ⟨h2.1, .inl h2.2⟩, if_pos ⟨h2.1, .inl (by omega)⟩]
    · rw [if_neg (by omega), if_neg (by omega)]
theorem codeP_set {lens : List Int} {k r i : Nat} (hi : i < lens.length) (hk : lens.getD i 0 = ((k + 1 : Nat) : Int)) (hr : (symK lens (k + 1) i).length = r) :
    (codeP lens k r).set i ((codeN lens i : Int), ((k + 1 : Nat) : Int)) = codeP lens k (r + 1) := by
  apply List.ext_getElem?
  intro j
  by_cases hj : j < lens.length
  · by_cases hij : i = j
    · subst hij
      rw [List.getElem?_set_self (by rw [codeP_length]; exact hj)]
      unfold codeP
      rw [List.getElem?_map, List.getElem?_range hj, Option.map_some, if_pos ⟨by omega, .inr ⟨hk, by omega⟩⟩, hk]
    · rw [List.getElem?_set_ne hij]
      unfold codeP
      rw [List.getElem?_map, List.getElem?_map, List.getElem?_range hj, Option.map_some, Option.map_some]
      congr 1
      have : lens.getD j 0 = ((k + 1 : Nat) : Int) → (symK lens (k + 1) j).length ≠ r := fun h e => by
        have h1 := (symK_at h hj).2
        have h2 := (symK_at hk hi).2
        rw [e] at h1
        rw [hr, h1] at h2
        simp at h2
        omega
      by_cases h : 1 ≤ lens.getD j 0 ∧ (lens.getD j 0 < ((k + 1 : Nat) : Int) ∨ (lens.getD j 0 = ((k + 1 : Nat) : Int) ∧ (symK lens (k + 1) j).length < r))
      · rw [if_pos h, if_pos ⟨h.1, h.2.imp id fun h => ⟨h.1, by omega⟩⟩]
      · rw [if_neg h, if_neg]
        intro h'
        apply h
        refine ⟨h'.1, h'.2.imp id fun h2 => ⟨h2.1, ?_⟩⟩
        have := this h2.1
        omega
  · rw [List.getElem?_eq_none (by simp [codeP_length]; omega), List.getElem?_eq_none (by rw [codeP_length]; omega)]
theorem codeP_all {lens : List Int} (h : inB lens) : codeP lens 15 0 = codesL lens := by
  apply List.map_congr_left
  intro i _
  have := getD_in h i
  by_cases h1 : 1 ≤ lens.getD i 0
  · rw [if_pos ⟨h1, .inl (by omega)⟩, if_pos h1]
  · rw [if_neg (fun h => h1 h.1), if_neg h1]
end Pl
/-! codes in memory -/
def encD (c : Cd) : List Value := [.int .u32 c.1, .int .i64 c.2]
def cdVs (C : List Cd) : List Value := C.flatMap encD
theorem cdVs_cons (c : Cd) (C : List Cd) : cdVs (c :: C) = .int .u32 c.1 :: .int .i64 c.2 :: cdVs C := by simp [cdVs, encD]
theorem cdVs_length (C : List Cd) : (cdVs C).length = C.length * 2 := by
  induction C with
  | nil => rfl
  | cons c C ih => rw [cdVs_cons]; simp [ih]; omega
theorem cdVs_get (C : List Cd) (i : Nat) (h : i < C.length) : (cdVs C)[i * 2]? = some (.int .u32 (C.getD i (0, 0)).1) ∧ (cdVs C)[i * 2 + 1]? = some (.int .i64 (C.getD i (0, 0)).2) := by
  induction C generalizing i with
  | nil => simp at h
  | cons c C ih =>
    rw [cdVs_cons]
    cases i with
    | zero => exact ⟨rfl, rfl⟩
    | succ i =>
      have := ih i (by simpa using h)
      rw [show (i + 1) * 2 = i * 2 + 1 + 1 by omega]
      simpa using this
theorem cdVs_set (C : List Cd) (i : Nat) (c : Cd) : ((cdVs C).set (i * 2) (.int .u32 c.1)).set (i * 2 + 1) (.int .i64 c.2) = cdVs (C.set i c) := by
  induction C generalizing i with
  | nil => simp [cdVs]
  | cons d C ih =>
    rw [cdVs_cons]
    cases i with
    | zero => simp [cdVs_cons]
    | succ i =>
      rw [show (i + 1) * 2 = i * 2 + 1 + 1 by omega]
      simp only [List.set_cons_succ, cdVs_cons]
      rw [ih i]
theorem cdVs_zero (n : Nat) : (madeCells (Value.agg #[.int .u32 0, .int .i64 0]).cells (n * 2)).toList = cdVs (List.replicate n (0, 0)) := by
  apply List.ext_getElem?
  intro i
  have hz : ∀ j, j < n → (List.replicate n ((0, 0) : Cd)).getD j (0, 0) = (0, 0) := fun j hj => by simp [List.getD, hj]
  by_cases h : i < n * 2
  · have h0 : (cdVs (List.replicate n (0, 0)))[i]? = some (if i % 2 = 0 then .int .u32 0 else .int .i64 0) := by
      have hj : i / 2 < n := by omega
      have h1 := cdVs_get (List.replicate n ((0, 0) : Cd)) (i / 2) (by simpa using hj)
      rw [hz _ hj] at h1
      by_cases h2 : i % 2 = 0
      · rw [if_pos h2, ← h1.1]; congr 1; omega
      · rw [if_neg h2, ← h1.2]; congr 1; omega
    rw [h0]
    simp only [madeCells, Value.cells]
    have : i % 2 = 0 ∨ i % 2 = 1 := by omega
    rcases this with h2 | h2 <;> simp [h, h2]
  · rw [List.getElem?_eq_none (by simp [madeCells]; omega), List.getElem?_eq_none (by rw [cdVs_length]; simp; omega)]
theorem infoD : (Try.prog.info? 34).map (fun i => (i.zero, i.size, i.bytes)) = some (some (.agg #[.int .u32 0, .int .i64 0]), 2, 16) := by kernel_rfl
theorem infoD_parts {o : Option TypeInfo} (h : o.map (fun i => (i.zero, i.size, i.bytes)) = some (some (.agg #[.int .u32 0, .int .i64 0]), 2, 16)) : ∃ i, o = some i ∧ i.zero = some (.agg #[.int .u32 0, .int .i64 0]) ∧ i.size = 2 ∧ i.bytes = 16 := by
  cases o with
  | none => cases h
  | some i => simp at h; exact ⟨i, rfl, h.1, h.2.1, h.2.2⟩
theorem made_blk2 {w : World} {base : Nat} {e : TypeId} {g n : Nat} {xs : List Value} (h : w.ownsRow base e 2 (.slice (some ⟨g, 0, none⟩) n n) n xs) : Blk w g e xs := by
  obtain ⟨hl, ⟨he, h0⟩ | ⟨g', cap', cur, hv, _, hh, hn, hm, hs, ht⟩⟩ := h
  · simp at he
  · simp at hv
    obtain ⟨rfl, rfl⟩ := hv
    have : xs = cur.toList := by rw [← ht, List.take_of_length_le (by simp [hs])]
    unfold Blk
    rw [hh, this]
def OfPost (lens : List Int) (w : World) (e : Ending) (w' : World) : Prop :=
  Below w.heap.size w w' ∧ ((okL lens ∧ ∃ c, e = .returned (.tuple #[.slice (some ⟨c, 0, none⟩) lens.length lens.length, .int .i64 0]) ∧ w.heap.size ≤ c ∧ Blk w' c 34 (cdVs (codesL lens))) ∨
    (¬ okL lens ∧ e = .returned (.tuple #[.slice none 0 0, .int .i64 10])))
set_option maxHeartbeats 8000000 in
theorem of_any (v : Value) (F : List Int) (w : World) (hv : IsInts w v F) (hF : F.length ≤ 17179869184) :
    Calls Try.prog 11 #[v] w (OfPost F w) := by
  have htab := tableOf_any v F w hv hF
  obtain ⟨a, cap, rfl, hcap, hmax⟩ := hv.slice
  have HV := Lib.hid hv
  clear hv
  by_cases hok : okL F
  · obtain ⟨i0, hi, hz0, hz1, hz2⟩ := infoD_parts infoD
    have Hi := Lib.hid hi
    have Hz0 := Lib.hid hz0
    have Hz1 := Lib.hid hz1
    have Hz2 := Lib.hid hz2
    have hl := hok.1
    have HOK := Lib.hid hok
    clear hi hz0 hz1 hz2 hok
    go_enter Try.func11, Try.ntmps11
    go_wp2_with fail
    refine htab.mono ?_
    rintro e w1 ⟨hb1, ⟨_, g, vs, rfl, ht⟩ | ⟨hn, _⟩⟩
    rotate_left
    · exact absurd HOK.out hn
    have HT1 := Lib.hid ht
    have HB1 := Lib.hid hb1
    clear ht hb1 htab
    go_wp2_with (at_make; refine wpList_make_full _ rfl _ _ 25 rfl w1.heap.size 34 i0 (.agg #[.int .u32 0, .int .i64 0]) 2 Try.underlying25 Hi.out Hz0.out Hz1.out .i64 .i64 _ _ F.length rfl rfl rfl rfl (by rw [Hz2.out]; omega) (by unfold maxLen; omega) (Nat.le_refl _) ?_; intro w2 hown hgr)
    rw [cdVs_zero] at hown
    have hL := made_blk2 hown
    have hB2 : Below w1.heap.size w1 w2 := (Below.refl _ w1).grown hgr (Nat.le_refl _) (by simp)
    have HT2 := Lib.hid (HT1.out.below hB2)
    have HB2 := Lib.hid (HB1.out.trans (hB2.mono HB1.out.size))
    obtain ⟨c, hc⟩ : ∃ c, c = w1.heap.size := ⟨_, rfl⟩
    rw [← hc] at hL ⊢
    have hcw : w.heap.size ≤ c := by have := HB1.out.size; omega
    rw [← codeP_zero] at hL
    have HL := Lib.hid hL
    clear hown hgr hL hB2 hc HT1 HB1
    go_loopw [7, 24] (fun x y wr => ∃ (k : Nat), k ≤ 15 ∧ x = .int .u32 (nx F k : Nat) ∧ y = .int .i64 k ∧ Gr w2 wr c ∧ Blk wr c 34 (cdVs (codeP F k 0))) (fun _ y _ => 15 - (intOf y).toNat)
    case atStart => exact ⟨0, by omega, rfl, rfl, Gr.refl _ _, HL.out⟩
    case round =>
      obtain ⟨k, hk, rfl, rfl, hg, hb⟩ := hrel
      have HG := Lib.hid hg
      have HB := Lib.hid hb
      clear hg hb
      by_cases hlt : k < 15
      · have hkI : (k : Int) < 15 := by omega
        obtain ⟨u, hu, ho, _⟩ := HT2.out.2.2.2 k hlt
        obtain ⟨sp, cp, rfl, hcp1, hcp2⟩ := ownsRow_slice ho
        have HI : Hid (∀ W, Gr w2 W c → IsInts W (.slice sp (tabR F F.length k).length cp) (tabR F F.length k)) := Lib.hid fun W hW => isInts_own rfl (own_gr ho hW HL.out (by decide))
        have d0 := (HT2.out.gr HG.out HL.out (by decide) (by decide)).2.1.cell hu
        have hNle : (tabR F F.length k).length ≤ F.length := symK_le _ _ _
        have hnx : nx F (k + 1) = 2 * nx F k + (tabR F F.length k).length := rfl
        have hnxs := nx_small HOK.out.2.2 (show k + 1 ≤ 15 by omega)
        obtain ⟨M, hM⟩ : ∃ M, M = nx F k := ⟨_, rfl⟩
        rw [← hM] at hnx ⊢
        have HM := Lib.hid hM
        obtain ⟨N, hN⟩ : ∃ N, N = (tabR F F.length k).length := ⟨_, rfl⟩
        rw [← hN] at d0 hcp1 HI hNle hnx
        have HN := Lib.hid hN
        have HNX := Lib.hid hnx
        have hM2 : 2 * M + N ≤ 32768 := by omega
        clear hu ho hN hM hnx
        obtain ⟨wo, hwo⟩ : ∃ wo : World, wo = wr := ⟨_, rfl⟩
        subst hwo
        go_wp2_with fail
        go_loopw [7, 33] (fun x y wi => ∃ (r : Nat), r ≤ N ∧ x = .int .u32 ((M : Int) * 2 + r) ∧ y = .int .i64 r ∧ Gr w2 wi c ∧ Blk wi c 34 (cdVs (codeP F k r))) (fun _ y _ => N - (intOf y).toNat)
        case atStart => exact ⟨0, by omega, by simp, rfl, HG.out, HB.out⟩
        case round =>
          obtain ⟨r, hr, rfl, rfl, hg, hb⟩ := hrel
          have HGi := Lib.hid hg
          have HBi := Lib.hid hb
          clear hg hb
          by_cases hlr : r < N
          · have hI := HI.out _ HGi.out
            have hrl : r < (tabR F F.length k).length := by rw [← HN.out]; exact hlr
            obtain ⟨bb, off, cap', hs, _, _, hbb, hc⟩ := IsInts.cells hI (by omega)
            rw [← HN.out] at hs
            simp at hs
            obtain ⟨rfl, rfl⟩ := hs
            have c0 := hc r hrl
            obtain ⟨i, hx, hi1, hi2, hi3⟩ := symK_mem (lens := F) (n := k + 1) (k := F.length) (r := r) (x := (tabR F F.length k).getD r 0) (by rw [List.getD_eq_getElem?_getD, List.getElem?_eq_getElem hrl]; exact List.getElem?_eq_getElem hrl)
            rw [hx] at c0
            have hget := cdVs_get (codeP F k r) i (by rw [codeP_length]; exact hi1)
            have e0 := HBi.out.cell hget.1
            have e1 := HBi.out.cell hget.2
            have f0 := HBi.out.frozen
            have hcn : codeN F i = M * 2 + r := by unfold codeN; rw [hi2, HM.out]; simp only [Int.toNat_natCast, Nat.add_sub_cancel]; omega
            have HST := Lib.hid (codeP_set hi1 hi2 hi3)
            have HCN := Lib.hid hcn
            have hiI : (i : Int) < (F.length : Int) := by omega
            have hu1 : (0 : Int) ≤ (M : Int) * 2 + r := by omega
            have hu2 : (M : Int) * 2 + r < 32768 := by omega
            clear hc hx hrl hI hget hi2 hi3 hcn
            go_wp2_with fail
            refine ⟨⟨r + 1, by omega, by simp [Int.add_assoc], by first | rfl | go_num, (HGi.out.setCell _ _).setCell _ _, ?_⟩, ?_⟩
            · have h1 := (HBi.out.set (i * 2) (.int .u32 ((M : Int) * 2 + r))).set (i * 2 + 1) (.int .i64 ((k : Int) + 1))
              have h2 := cdVs_set (codeP F k r) i ((M : Int) * 2 + r, (k : Int) + 1)
              rw [h2] at h1
              have h3 := HST.out
              rw [HCN.out] at h3
              have e : (((M * 2 + r : Nat) : Int), ((k + 1 : Nat) : Int)) = ((M : Int) * 2 + r, (k : Int) + 1) := by simp
              rw [e] at h3
              rw [h3] at h1
              exact h1
            · simp only [intOf_int]; omega
          · obtain rfl : r = N := by omega
            have hnn : (M : Int) * 2 + (r : Int) = (nx F (k + 1) : Nat) := by rw [HNX.out]; omega
            have HNN := Lib.hid hnn
            clear hnn
            go_wp2_with fail
            refine ⟨⟨k + 1, by omega, by rw [HNN.out], by first | rfl | go_num, HGi.out, ?_⟩, ?_⟩
            · have := HBi.out
              rw [HN.out] at this
              rw [← codeP_next]; exact this
            · simp only [intOf_int]; omega
      · obtain rfl : k = 15 := by omega
        go_wp2_with fail
        go_ret2
        refine ⟨HB2.out.trans (HG.out.below HB2.out.size hcw), .inl ⟨HOK.out, c, rfl, hcw, ?_⟩⟩
        rw [← codeP_all HOK.out.2.1]; exact HB.out
  · have HN := Lib.hid hok
    go_enter Try.func11, Try.ntmps11
    go_wp2_with fail
    refine htab.mono ?_
    rintro e w' ⟨hb, ⟨h, _⟩ | ⟨_, rfl⟩⟩
    · exact absurd h HN.out
    clear htab hok
    go_wp2
    go_ret2
    exact ⟨hb, .inr ⟨HN.out, rfl⟩⟩
end Go.Proofs.Ytijjpbpoekbekaa

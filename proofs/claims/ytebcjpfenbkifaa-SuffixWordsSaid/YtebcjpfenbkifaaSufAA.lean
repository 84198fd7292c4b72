/- SuffixWords, walked. -/
import Derived.Test.YtebcjpfenbkifaaSufZ
import Derived.Test.YtebcjpfenbkifaaCutB
set_option linter.unusedSimpArgs false
set_option linter.unusedVariables false
namespace Go.Proofs.Ytebcjpfenbkifaa
open Go.RowKit Pl
def bos (S : List Bool) : List Value := S.map Value.bool
theorem bos_length (S : List Bool) : (bos S).length = S.length := by simp [bos]
theorem bos_get (S : List Bool) (i : Nat) (h : i < S.length) : (bos S)[i]? = some (.bool (S.getD i false)) := by simp [bos, h, List.getD]
theorem bos_set (S : List Bool) (i : Nat) (c : Bool) : (bos S).set i (.bool c) = bos (S.set i c) := by simp [bos, List.map_set]
theorem made_bools (n : Nat) : (madeCells (Value.bool false).cells (n * 1)).toList = bos (List.replicate n false) := by
  apply List.ext_getElem?
  intro i
  by_cases h : i < n
  · simp [madeCells, Value.cells, bos, h, Nat.mod_one]
  · simp [madeCells, Value.cells, bos, h]
namespace Pl
/-- what is marked: the places that stand ahead -/
def Marks (R : List Nat) (k : Nat) (S : List Bool) : Prop := ∀ p, p < S.length → S.getD p false = decide (p ∈ R.take k)
theorem marks_none (R : List Nat) (n : Nat) : Marks R 0 (List.replicate n false) := fun p hp => by
  rw [List.length_replicate] at hp
  simp [List.getD, hp]
theorem marks_more {B R : List Nat} {k : Nat} {S : List Bool} (hR : IsSA B R) (hk : k < R.length) (hS : S.length = B.length) (h : Marks R k S) : S.getD (R.getD k 0) false = false ∧ Marks R (k + 1) (S.set (R.getD k 0) true) := by
  have hp := sa_lt hR hk
  refine ⟨?_, fun p h1 => ?_⟩
  · rw [h _ (by rw [hS]; exact hp), decide_eq_false_iff_not]
    intro hm
    obtain ⟨x, hx, he⟩ := List.mem_iff_getElem.1 hm
    rw [List.length_take] at hx
    rw [List.getElem_take, ← getD_get R 0 (by omega)] at he
    exact sa_ne hR (x := x) (by omega) hk he
  · rw [List.length_set] at h1
    have ht : R.take (k + 1) = R.take k ++ [R.getD k 0] := by
      rw [List.take_add_one, List.getElem?_eq_getElem hk, getD_get R 0 hk]; rfl
    rw [ht]
    by_cases e : p = R.getD k 0
    · rw [← e, List.getD_eq_getElem?_getD, List.getElem?_set_self h1]
      simp
    · rw [List.getD_eq_getElem?_getD, List.getElem?_set_ne (fun h => e h.symm), ← List.getD_eq_getElem?_getD, h p h1]
      rw [decide_eq_decide, List.mem_append, List.mem_singleton]
      exact ⟨.inl, fun h => h.elim id fun h => absurd h e⟩
end Pl
attribute [local go_sem ↓] sliceU8_eq conv_eq
set_option maxHeartbeats 8000000 in
set_option maxRecDepth 100000 in
theorem suffixWords_walk (a : Option Addr) (len cap : Nat) (z : List Int) (n : Int) (w : World) (hr : IsRow .u8 w a len cap z) (wn : (Lit.int .i64 n).wf = true) :
    Calls Try.prog 4 #[.slice a len cap, .int .i64 n] w fun e w' => e = .returned (.bool true) ∧ Below w.heap.size w w' := by
  obtain ⟨hV, hlen⟩ := isBytes_row hr
  have HV := Lib.hid hV
  clear hr hV wn
  by_cases hout : n < 0 ∨ 60 < n
  · have hways : n < 0 ∨ (¬ n < 0 ∧ 60 < n) := by omega
    clear hout
    rcases hways with h1 | ⟨h1, h2⟩
    all_goals
      go_enter Try.func4, Try.ntmps4
      go_wp2_with fail
      refine (begun_any _).mono ?_
      rintro e w1 ⟨rfl, hb1⟩
      have HV1 := Lib.hid (HV.out.below hb1)
      have HB1 := Lib.hid hb1
      clear hb1 HV
      go_wp2_with fail
      refine (short_any _ _ 8 _ HV1.out (by omega)).mono ?_
      rintro e w2 ⟨v2, rfl, hi2, rfl⟩
      clear hi2
      go_wp2_with fail
      go_ret
      exact ⟨rfl, HB1.out⟩
  obtain ⟨n, rfl⟩ : ∃ k : Nat, n = k := ⟨n.toNat, by omega⟩
  have hn : n ≤ 60 := by omega
  have hn0 : ¬ (60 : Int) < (n : Int) := by omega
  clear hout
  go_enter Try.func4, Try.ntmps4
  go_wp2_with fail
  refine (begun_any _).mono ?_
  rintro e w1 ⟨rfl, hb1⟩
  have HV1 := Lib.hid (HV.out.below hb1)
  have HB1 := Lib.hid hb1
  clear hb1 HV
  go_wp2_with fail
  refine (short_any _ _ 8 _ HV1.out (by omega)).mono ?_
  rintro e w2 ⟨v2, rfl, hi2, rfl⟩
  obtain ⟨S, hS⟩ : ∃ S, S = (bytesZ z len).take 8 := ⟨_, rfl⟩
  have hSl : S.length ≤ 8 := by rw [hS, List.length_take]; omega
  rw [← hS] at hi2
  obtain ⟨s, hs⟩ : ∃ s, S.length = s := ⟨_, rfl⟩
  obtain ⟨a2, c2, hv2, hc2, hm2⟩ := hi2.slice
  rw [hs] at hv2 hSl hc2
  subst hv2
  have HS := Lib.hid hi2
  have HN := Lib.hid hs
  clear hi2 hS HV1 hlen hs
  go_wp2_with fail
  go_loopw [6, 7] (fun u t wr => ∃ (i lb : Nat) (sb : Option Addr) (cb : Nat) (B : List Nat), i ≤ n ∧ t = .int .i64 i ∧ u = .slice sb lb cb ∧ B.length = lb ∧ lb ≤ 8 * i ∧ (∀ x ∈ B, x < 256) ∧ wr.ownsRow w1.heap.size 5 1 (.slice sb lb cb) lb (u8s B) ∧ Below w1.heap.size w1 wr) (fun _ t _ => n - (intOf t).toNat)
  case atStart => exact ⟨0, 0, none, 0, [], by omega, rfl, rfl, rfl, by omega, by simp, own_nil _ _, Below.refl _ _⟩
  case round =>
    obtain ⟨i, lb, sb, cb, B, hi, rfl, rfl, hB, hlb, hBx, ho, hb⟩ := hrel
    have HBL := Lib.hid hB
    have HBX := Lib.hid hBx
    have HO := Lib.hid ho
    have HB := Lib.hid hb
    have hsz := hb.size
    clear hB hBx ho hb
    by_cases hlt : i < n
    · go_wp2_with (at_builtin; refine wpList_append_bytes rfl (.tmp 28) (.tmp 29) rfl w1.heap.size _ lb _ rfl HO.out _ S rfl (HS.out.below HB.out) (by rw [HN.out]; omega) hsz ?_; intro v6 w6 hown hgr; rw [← u8s_append, HN.out] at hown; have HO6 := Lib.hid hown; have HB6 := Lib.hid (HB.out.grown hgr hsz (own_lt HO.out)); obtain ⟨sp6, cp6, rfl, _, _⟩ := ownsRow_slice hown; clear hown hgr)
      refine ⟨⟨i + 1, lb + s, _, _, B ++ S, by omega, by first | rfl | go_num, rfl, by rw [List.length_append, HBL.out, HN.out], by omega, fun x hx => ?_, HO6.out, HB6.out⟩, ?_⟩
      · rcases List.mem_append.1 hx with h | h
        · exact HBX.out x h
        · exact HS.out.1 x h
      · simp only [intOf_i]; omega
    · obtain rfl : i = n := by omega
      have HI : Hid (IsBytes wr (.slice sb lb cb) B) := Lib.hid (isBytes_ownS (base := w1.heap.size) HBX.out HBL.out.symm (by rw [HBL.out]; exact HO.out))
      clear HO HS
      go_wp2_with fail
      refine (sort_s (n := lb) HI.out (by rw [HBL.out]; omega) HBL.out).mono ?_
      rintro e w3 ⟨g3, R, rfl, hR, hRl, hi3, hb3⟩
      have HR := Lib.hid hR
      have HRL := Lib.hid hRl
      have HI3 := Lib.hid hi3
      have HJ3 := Lib.hid (HI.out.below hb3)
      have HB3 := Lib.hid (HB1.out.trans ((HB.out.trans (hb3.mono HB.out.size)).mono HB1.out.size))
      obtain ⟨i0, hi0, he0⟩ := Option.map_eq_some_iff.1 infoZ_b
      simp only [Prod.mk.injEq] at he0
      obtain ⟨hz0, hz1, hz2⟩ := he0
      have Hi := Lib.hid hi0
      have Hz0 := Lib.hid hz0
      have Hz1 := Lib.hid hz1
      have Hz2 := Lib.hid hz2
      clear hR hRl hi3 hb3 HI HB HB1 hi0 hz0 hz1 hz2
      go_wp2_with (at_make; refine wpList_make_full _ rfl _ _ 30 rfl w3.heap.size 4 i0 (.bool false) 1 Try.underlying30 Hi.out Hz0.out Hz1.out .i64 .i64 _ _ lb rfl rfl rfl rfl (by rw [Hz2.out]; omega) (by unfold maxLen; omega) (Nat.le_refl _) ?_; intro w4 hown hgr)
      have HG4 : Hid (Blk w4 w3.heap.size 4 (bos (List.replicate lb false))) := Lib.hid (by
        have := made_blk hown
        rw [made_bools] at this
        exact this)
      have HB4 : Hid (Below w3.heap.size w3 w4) := Lib.hid ((Below.refl _ _).grown hgr (Nat.le_refl _) (by simp))
      clear hown hgr
      go_wp2_with fail
      go_loopw [10] (fun t wl => ∃ (k : Nat) (M : List Bool), k ≤ lb ∧ t = .int .i64 k ∧ M.length = lb ∧ Marks R k M ∧ Blk wl w3.heap.size 4 (bos M) ∧ Below w3.heap.size w3 wl) (fun t _ => lb - (intOf t).toNat)
      case atStart => exact ⟨0, _, by omega, rfl, List.length_replicate, marks_none R lb, HG4.out, HB4.out⟩
      case round =>
        obtain ⟨k, M, hk, rfl, hM, hmk, hbk, hbe⟩ := hrel
        have HML := Lib.hid hM
        have HMK := Lib.hid hmk
        have HBK := Lib.hid hbk
        have HBE := Lib.hid hbe
        clear hM hmk hbk hbe HG4 HB4
        have HI4 := Lib.hid (HI3.out.below HBE.out)
        by_cases hlt2 : k < lb
        · obtain ⟨b1, o1, q1, e1, -, -, -, hx1⟩ := HI4.out.cells (by rw [nI_length, HRL.out]; omega)
          simp only [Value.slice.injEq, Option.some.injEq, Addr.mk.injEq, and_true] at e1
          obtain ⟨⟨rfl, rfl⟩, -⟩ := e1
          have d1 := hx1 k (by rw [nI_length, HRL.out]; omega)
          rw [nI_get, Nat.zero_add] at d1
          have hp1 := sa_lt HR.out (k := k) (by rw [HRL.out]; omega)
          rw [HBL.out] at hp1
          have hmm := marks_more HR.out (by rw [HRL.out]; exact hlt2) (by rw [HML.out, HBL.out]) HMK.out
          have HMM := Lib.hid hmm.2
          have hmf := hmm.1
          generalize R.getD k 0 = p at *
          have c0 := HBK.out.cell (bos_get M p (by rw [HML.out]; exact hp1))
          rw [hmf] at c0
          have f0 := HBK.out.frozen p
          have hset := HBK.out.set p (.bool true)
          rw [bos_set] at hset
          have HSET := Lib.hid hset
          have HBS := Lib.hid (HBE.out.setCell (p := ⟨w3.heap.size, p, none⟩) (by simp) (.bool true))
          have hp2 : (p : Int) < (lb : Int) := by omega
          clear hx1 hmm hmf hset
          go_wp2_with fail
          refine ⟨⟨k + 1, M.set p true, by omega, by first | rfl | go_num, by rw [List.length_set]; exact HML.out, HMM.out, HSET.out, HBS.out⟩, ?_⟩
          simp only [intOf_i]; omega
        · obtain rfl : k = lb := by omega
          have hbn : ((k : Int) != (k : Int)) = false := bne_f rfl
          have HJ4 := Lib.hid (HJ3.out.below HBE.out)
          have HB5 := Lib.hid (HB3.out.trans (HBE.out.mono HB3.out.size))
          clear HMK HBK HML HI3 HJ3 HB3
          go_wp2_with fail
          clear hbn
          go_loopw [11] (fun t wq => ∃ (j m : Nat), j ≤ k ∧ t = .int .i64 ((j : Int) + 1) ∧ wq = wr.drewN m) (fun t _ => k - (intOf t).toNat)
          case atStart => exact ⟨0, 0, by omega, rfl, rfl⟩
          case round =>
            obtain ⟨j, m, hj, rfl, rfl⟩ := hrel
            by_cases hlt3 : j + 1 < k
            · have hlt4 : (j : Int) + 1 < (k : Int) := by omega
              obtain ⟨b1, o1, q1, e1, -, -, -, hx1⟩ := HI4.out.cells (by rw [nI_length, HRL.out]; omega)
              simp only [Value.slice.injEq, Option.some.injEq, Addr.mk.injEq, and_true] at e1
              obtain ⟨⟨rfl, rfl⟩, -⟩ := e1
              have d1 := hx1 j (by rw [nI_length, HRL.out]; omega)
              have d2 := hx1 (j + 1) (by rw [nI_length, HRL.out]; omega)
              rw [nI_get, Nat.zero_add] at d1 d2
              have hp1 := sa_lt HR.out (k := j) (by rw [HRL.out]; omega)
              have hp2 := sa_lt HR.out (k := j + 1) (by rw [HRL.out]; omega)
              have hls := sa_less HJ4.out.1 HR.out (j := j) (by rw [HRL.out]; omega)
              rw [HBL.out] at hp1 hp2
              generalize R.getD j 0 = p at *
              generalize R.getD (j + 1) 0 = q at *
              obtain ⟨a1, c1, r1, k1⟩ := run_from HJ4.out p (by rw [HBL.out]; omega)
              obtain ⟨a3, c3, r2, k2⟩ := run_from HJ4.out q (by rw [HBL.out]; omega)
              rw [HBL.out] at r1 r2 k1 k2
              have s1 := fun m => run_conv (k1.below (bel_drewN (Below.refl _ _) m))
              have s2 := fun m => run_conv (k2.below (bel_drewN (Below.refl _ _) m))
              clear hx1 k1 k2
              go_wp2_with fail
              go_quiet (fail)
              go_wp2_with fail
              refine ⟨⟨j + 1, _, by omega, by first | rfl | go_num, rfl⟩, ?_⟩
              simp only [intOf_i]; omega
            · have hlt4 : (k : Int) ≤ (j : Int) + 1 := by omega
              go_wp2_with fail
              go_ret
              exact ⟨rfl, bel_drewN HB5.out m⟩
end Go.Proofs.Ytebcjpfenbkifaa

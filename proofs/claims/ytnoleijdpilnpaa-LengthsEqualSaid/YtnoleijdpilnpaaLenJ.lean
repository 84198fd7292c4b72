/- foliolaw6.cut: a contract; LengthsSums, walked. -/
import Derived.Test.YtnoleijdpilnpaaLenI
set_option linter.unusedSimpArgs false
set_option linter.unusedVariables false
namespace Go.Proofs.Ytnoleijdpilnpaa
open Go.RowKit Go.Shelf Pl
theorem IsInts.take {w : World} {a : Option Addr} {n cap : Nat} {L : List Int} (h : IsInts w (.slice a n cap) L) (hn : L.length = n) (m : Nat) (hm : m ≤ n) : IsInts w (.slice a m cap) (L.take m) := by
  subst hn
  have := IsCells.take h m m hm
  unfold IsInts
  rw [List.length_take, Nat.min_eq_left hm, i64s, List.map_take]
  exact this
/-! l[:k] of []int64 and of []int as one closed step -/
def sliceJ (x : Value) (lo hi mx : Option Value) : Sem Value := Instr.sliceAt 22 x lo hi mx
theorem sliceJ_eq (x : Value) (lo hi mx : Option Value) : Instr.sliceAt 22 x lo hi mx = sliceJ x lo hi mx := rfl
theorem elem_js : Try.prog.elem 22 = 2 := by kernel_rfl
theorem und_js : Try.prog.underlying 22 = some (.slice (Try.prog.elem 22)) := by rw [elem_js]; exact Try.underlying22
theorem run_size_j (w : World) : (sizeOf (Try.prog.elem 22)).run Try.prog w = .ok 1 w := by
  rw [elem_js]; exact Try.sizeOf2 w
def sliceI (x : Value) (lo hi mx : Option Value) : Sem Value := Instr.sliceAt 25 x lo hi mx
theorem sliceI_eq (x : Value) (lo hi mx : Option Value) : Instr.sliceAt 25 x lo hi mx = sliceI x lo hi mx := rfl
theorem elem_is : Try.prog.elem 25 = 3 := by kernel_rfl
theorem und_is : Try.prog.underlying 25 = some (.slice (Try.prog.elem 25)) := by rw [elem_is]; exact Try.underlying25
theorem run_size_i (w : World) : (sizeOf (Try.prog.elem 25)).run Try.prog w = .ok 1 w := by
  rw [elem_is]; exact Try.sizeOf3 w
theorem upto_ints {w : World} {a : Option Addr} {n cap : Nat} {L : List Int} (hv : IsInts w (.slice a n cap) L) (hn : L.length = n) (k : Nat) (hk : k ≤ n) : IsInts w (.slice (if cap = 0 then a else a.map (·.add (0 * 1))) k cap) (L.take k) := by
  have := hv.take hn k hk
  split
  · exact this
  · cases a with
    | none => exact this
    | some x => simpa only [Nat.zero_mul, Option.map_some, addr_zero] using this
theorem run_uptoJ {w : World} {a : Option Addr} {n cap : Nat} {L : List Int} (hv : IsInts w (.slice a n cap) L) (hn : L.length = n) (hcap : n ≤ cap) (k : Nat) (hk : k ≤ n) (K : Int) (hK : K = k) :
    ∃ a1, (∀ W, (sliceJ (.slice a n cap) none (some (.int .i64 K)) none).run Try.prog W = .ok (.slice a1 k cap) W) ∧ IsInts w (.slice a1 k cap) (L.take k) := by
  subst hK
  refine ⟨_, ?_, upto_ints hv hn k hk⟩
  intro W
  unfold sliceJ
  rw [run_sliceAt_slice _ _ _ _ _ _ und_js, run_slice_h _ _ _ _ _ und_js _ _ (by omega) (by omega), run_size_j, Int.toNat_natCast]
  simp only [Result.andThen, sliced, Nat.sub_zero]
theorem run_uptoI {w : World} {a : Option Addr} {n cap : Nat} {L : List Int} (hv : IsInts w (.slice a n cap) L) (hn : L.length = n) (hcap : n ≤ cap) (k : Nat) (hk : k ≤ n) (K : Int) (hK : K = k) :
    ∃ a1, (∀ W, (sliceI (.slice a n cap) none (some (.int .i64 K)) none).run Try.prog W = .ok (.slice a1 k cap) W) ∧ IsInts w (.slice a1 k cap) (L.take k) := by
  subst hK
  refine ⟨_, ?_, upto_ints hv hn k hk⟩
  intro W
  unfold sliceI
  rw [run_sliceAt_slice _ _ _ _ _ _ und_is, run_slice_h _ _ _ _ _ und_is _ _ (by omega) (by omega), run_size_i, Int.toNat_natCast]
  simp only [Result.andThen, sliced, Nat.sub_zero]
attribute [local go_sem ↓] sliceJ_eq sliceI_eq
/-- a slice of ints, laid open -/
def IntsS (w : World) (e : Ending) (F : List Int) : Prop := ∃ a n cap, e = .returned (.slice a n cap) ∧ F.length = n ∧ n ≤ cap ∧ cap ≤ maxLen ∧ IsInts w (.slice a n cap) F
set_option maxHeartbeats 1000000 in
theorem cut_any (v : Value) (F : List Int) (w : World) (hv : IsInts w v F) : Calls Try.prog 12 #[v] w fun e w' => IntsS w e (F.take 305) ∧ w = w' := by
  obtain ⟨a, cap, rfl, hcap, hmax⟩ := hv.slice
  by_cases h : 305 < F.length
  · obtain ⟨a1, hs, hI⟩ := run_uptoJ hv rfl hcap 305 (by omega) 305 rfl
    have HI := Lib.hid hI
    clear hv hI
    go_enter Try.func12, Try.ntmps12
    go_wp2
    go_ret
    exact ⟨⟨a1, 305, cap, rfl, by rw [List.length_take]; omega, by omega, hmax, HI.out⟩, rfl⟩
  · have hI : IsInts w (.slice a F.length cap) (F.take 305) := by rw [List.take_of_length_le (by omega)]; exact hv
    have HI := Lib.hid hI
    clear hv hI
    go_enter Try.func12, Try.ntmps12
    go_wp2
    go_ret
    exact ⟨⟨a, F.length, cap, rfl, by rw [List.length_take]; omega, hcap, hmax, HI.out⟩, rfl⟩
set_option maxHeartbeats 8000000 in
set_option maxRecDepth 100000 in
/-- what stands behind the cuts -/
theorem lengthsSums_walk (a : Option Addr) (len cap : Nat) (z : List Int) (b : Option Addr) (len2 cap2 : Nat) (y : List Int) (w : World) (hr : IsRow .i64 w a len cap z) (hq : IsRow .i64 w b len2 cap2 y) :
    Calls Try.prog 5 #[.slice a len cap, .slice b len2 cap2] w fun e w' => e = .returned (.bool true) ∧ Below w.heap.size w w' := by
  obtain ⟨hF0, hFl⟩ := isInts_row hr
  obtain ⟨hL0, hLl⟩ := isInts_row hq
  generalize z.take len = F0 at *
  generalize y.take len2 = L0 at *
  clear hr hq
  obtain ⟨_, _, he, hlc, hlm⟩ := hL0.slice
  simp at he
  obtain ⟨rfl, rfl, rfl⟩ := he
  have H : ∀ (b2 : Option Addr) (n2 c2 : Nat) (L : List Int), L.length = n2 → n2 ≤ 305 → ∀ w1 : World, IsInts w1 (.slice b2 n2 c2) L → True := fun _ _ _ _ _ _ _ _ => trivial
  clear H
  have HF0 := Lib.hid hF0
  have HL0 := Lib.hid hL0
  clear hF0 hL0
  go_enter Try.func5, Try.ntmps5
  go_wp2_with fail
  refine (begun_any _).mono ?_
  rintro e w1 ⟨rfl, hb1⟩
  have HB1 := Lib.hid hb1
  clear hb1
  go_wp2_with fail
  refine (cut_any _ F0 w1 (HF0.out.below HB1.out)).mono ?_
  rintro e w1 ⟨⟨fa, fn, fc, rfl, hfn, hfc, hfm, hF⟩, rfl⟩
  have hf305 : (F0.take 305).length ≤ 305 := by rw [List.length_take]; omega
  generalize F0.take 305 = F at *
  have HF := Lib.hid hF
  have HFN := Lib.hid hfn
  have hfn1 : fn ≤ 305 := by omega
  have hfn2 : F.length ≤ fn := by omega
  have hfn3 : fn ≤ F.length := by omega
  clear hF hfn hf305
  have hcut : ∃ b2 n2 L, n2 = L.length ∧ n2 ≤ 305 ∧ IsInts w1 (.slice b2 n2 cap2) L ∧ ((305 < L0.length ∧ n2 = 305 ∧ ∀ W, (sliceI (.slice b L0.length cap2) none (some (.int .i64 305)) none).run Try.prog W = .ok (.slice b2 n2 cap2) W) ∨ (¬ 305 < L0.length ∧ n2 = L0.length ∧ b2 = b)) := by
    have hL1 := HL0.out.below HB1.out
    by_cases h : 305 < L0.length
    · obtain ⟨a1, hs, hI⟩ := run_uptoI hL1 rfl hlc 305 (by omega) 305 rfl
      exact ⟨a1, 305, _, by rw [List.length_take]; omega, by omega, hI, .inl ⟨h, rfl, hs⟩⟩
    · exact ⟨b, L0.length, L0, rfl, by omega, hL1, .inr ⟨h, rfl, rfl⟩⟩
  obtain ⟨b2, n2, L, hn2, hn305, hL, hcase⟩ := hcut
  have HL := Lib.hid hL
  have HLN := Lib.hid hn2
  have hl1 : L.length ≤ n2 := by omega
  have hl2 : n2 ≤ L.length := by omega
  have hlim : L.length ≤ 1000000 := by omega
  have hlimF : F.length ≤ 1000000 := by omega
  clear hL hn2
  rcases hcase with ⟨hbig, hn3, hs⟩ | ⟨hbig, hn3, hb3⟩
  · clear hn3
    go_wp2_with fail
    go_loopw [6] (fun x wr => ∃ i : Nat, i ≤ fn ∧ x = .int .i64 i ∧ wr = w1) (fun x _ => fn - (intOf x).toNat)
    case atStart => exact ⟨0, by omega, rfl, rfl⟩
    case round =>
      obtain ⟨i, hi, rfl, hw⟩ := hrel
      have hw := hw.symm
      subst hw
      by_cases hlt : i < fn
      · obtain ⟨bb, off, cap', hse, _, _, _, hc⟩ := HF.out.cells (by omega)
        simp at hse
        obtain ⟨rfl, hx1, hx2⟩ := hse
        clear hx1 hx2
        have c0 := hc i (by omega)
        generalize F.getD i 0 = x at c0
        clear hc
        by_cases h1 : x < -1073741824
        · go_wp2
          go_ret
          exact ⟨rfl, HB1.out⟩
        · by_cases h2 : 1073741824 < x
          · go_wp2
            go_ret
            exact ⟨rfl, HB1.out⟩
          · go_wp2
            go_roundw
            case rel => exact ⟨i + 1, by omega, by first | rfl | go_num, by first | trivial | rfl⟩
            case measure => simp [intOf]; omega
      · go_wp2
        clear hlt hi
        go_loopw [7] (fun x wr => ∃ i : Nat, i ≤ n2 ∧ x = .int .i64 i ∧ wr = w1) (fun x _ => n2 - (intOf x).toNat)
        case atStart => exact ⟨0, by omega, rfl, rfl⟩
        case round =>
          obtain ⟨i, hi, rfl, hw⟩ := hrel
          have hw := hw.symm
          subst hw
          by_cases hlt : i < n2
          · obtain ⟨bb, off, cap', hse, _, _, _, hc⟩ := HL.out.cells (by omega)
            simp at hse
            obtain ⟨rfl, hx1, hx2⟩ := hse
            clear hx1 hx2
            have c0 := hc i (by omega)
            generalize L.getD i 0 = x at c0
            clear hc
            by_cases h1 : x < -100
            · go_wp2
              go_ret
              exact ⟨rfl, HB1.out⟩
            · by_cases h2 : 100 < x
              · go_wp2
                go_ret
                exact ⟨rfl, HB1.out⟩
              · go_wp2
                go_roundw
                case rel => exact ⟨i + 1, by omega, by first | rfl | go_num, by first | trivial | rfl⟩
                case measure => simp [intOf]; omega
          · go_wp2_with fail
            refine (kraft_prog _ L _ HL.out hlim).mono ?_
            rintro e w2 ⟨rfl, rfl⟩
            go_wp2_with fail
            refine (kraft_ref _ L _ HL.out hlim).mono ?_
            rintro e w2 ⟨rfl, rfl⟩
            have e1 := beq_t (rfl : kraftW 0 L = kraftW 0 L)
            go_wp2_with fail
            refine (cost_prog _ _ F L _ HF.out HL.out hlimF hlim).mono ?_
            rintro e w3 ⟨rfl, hb3⟩
            have HB3 := Lib.hid hb3
            clear hb3
            go_wp2_with fail
            refine (cost_ref _ _ F L _ (HF.out.below HB3.out) (HL.out.below HB3.out) hlimF hlim).mono ?_
            rintro e w4 ⟨rfl, hb4⟩
            have HB4 := Lib.hid hb4
            clear hb4
            have e2 := beq_t (rfl : costW 0 F L = costW 0 F L)
            go_wp2
            go_ret
            exact ⟨rfl, (HB1.out.trans (HB3.out.mono HB1.out.size)).trans (HB4.out.mono (Nat.le_trans HB1.out.size HB3.out.size))⟩
  · rw [← hn3, ← hb3]
    rw [← hn3] at hbig
    clear hn3 hb3
    go_wp2_with fail
    go_loopw [6] (fun x wr => ∃ i : Nat, i ≤ fn ∧ x = .int .i64 i ∧ wr = w1) (fun x _ => fn - (intOf x).toNat)
    case atStart => exact ⟨0, by omega, rfl, rfl⟩
    case round =>
      obtain ⟨i, hi, rfl, hw⟩ := hrel
      have hw := hw.symm
      subst hw
      by_cases hlt : i < fn
      · obtain ⟨bb, off, cap', hse, _, _, _, hc⟩ := HF.out.cells (by omega)
        simp at hse
        obtain ⟨rfl, hx1, hx2⟩ := hse
        clear hx1 hx2
        have c0 := hc i (by omega)
        generalize F.getD i 0 = x at c0
        clear hc
        by_cases h1 : x < -1073741824
        · go_wp2
          go_ret
          exact ⟨rfl, HB1.out⟩
        · by_cases h2 : 1073741824 < x
          · go_wp2
            go_ret
            exact ⟨rfl, HB1.out⟩
          · go_wp2
            go_roundw
            case rel => exact ⟨i + 1, by omega, by first | rfl | go_num, by first | trivial | rfl⟩
            case measure => simp [intOf]; omega
      · go_wp2
        clear hlt hi
        go_loopw [7] (fun x wr => ∃ i : Nat, i ≤ n2 ∧ x = .int .i64 i ∧ wr = w1) (fun x _ => n2 - (intOf x).toNat)
        case atStart => exact ⟨0, by omega, rfl, rfl⟩
        case round =>
          obtain ⟨i, hi, rfl, hw⟩ := hrel
          have hw := hw.symm
          subst hw
          by_cases hlt : i < n2
          · obtain ⟨bb, off, cap', hse, _, _, _, hc⟩ := HL.out.cells (by omega)
            simp at hse
            obtain ⟨rfl, hx1, hx2⟩ := hse
            clear hx1 hx2
            have c0 := hc i (by omega)
            generalize L.getD i 0 = x at c0
            clear hc
            by_cases h1 : x < -100
            · go_wp2
              go_ret
              exact ⟨rfl, HB1.out⟩
            · by_cases h2 : 100 < x
              · go_wp2
                go_ret
                exact ⟨rfl, HB1.out⟩
              · go_wp2
                go_roundw
                case rel => exact ⟨i + 1, by omega, by first | rfl | go_num, by first | trivial | rfl⟩
                case measure => simp [intOf]; omega
          · go_wp2_with fail
            refine (kraft_prog _ L _ HL.out hlim).mono ?_
            rintro e w2 ⟨rfl, rfl⟩
            go_wp2_with fail
            refine (kraft_ref _ L _ HL.out hlim).mono ?_
            rintro e w2 ⟨rfl, rfl⟩
            have e1 := beq_t (rfl : kraftW 0 L = kraftW 0 L)
            go_wp2_with fail
            refine (cost_prog _ _ F L _ HF.out HL.out hlimF hlim).mono ?_
            rintro e w3 ⟨rfl, hb3⟩
            have HB3 := Lib.hid hb3
            clear hb3
            go_wp2_with fail
            refine (cost_ref _ _ F L _ (HF.out.below HB3.out) (HL.out.below HB3.out) hlimF hlim).mono ?_
            rintro e w4 ⟨rfl, hb4⟩
            have HB4 := Lib.hid hb4
            clear hb4
            have e2 := beq_t (rfl : costW 0 F L = costW 0 F L)
            go_wp2
            go_ret
            exact ⟨rfl, (HB1.out.trans (HB3.out.mono HB1.out.size)).trans (HB4.out.mono (Nat.le_trans HB1.out.size HB3.out.size))⟩
end Go.Proofs.Ytnoleijdpilnpaa

/- slices.insertionSortCmpFunc: a contract. -/
import Derived.Test.YtnoleijdpilnpaaSrtC
import Derived.Shelf.SlSortCmp.InsertionK
set_option linter.unusedSimpArgs false
set_option linter.unusedVariables false
namespace Go.Proofs.Ytnoleijdpilnpaa
open Go.Shelf Go.RowKit Go.Lib Go.Sort Pl
attribute [local go_sem ↓] loadC_eq storeC_eq
theorem swoC : SWO (ltOf cfC) := by
  have e : ∀ x y, ltOf cfC x y = decide (x.1 < y.1) := fun x y => by
    unfold ltOf
    by_cases h : x.1 < y.1
    · rw [decide_eq_true h, decide_eq_true ((cfC_lt x y).2 h)]
    · rw [decide_eq_false h, decide_eq_false fun h2 => h ((cfC_lt x y).1 h2)]
  refine ⟨?_, ?_, ?_⟩
  all_goals (intros; simp only [e, decide_eq_true_eq, decide_eq_false_iff_not] at *; omega)
theorem srt_of {a b : Nat} {d : Array Coin} (h : SortedIn (ltOf cfC) a b d) : Srt keyC a b d := by
  intro i j h1 h2 h3
  have := h i j h1 h2 h3
  have h4 : ¬ cfC d[j]! d[i]! < 0 := of_decide_eq_false this
  have := mt (cfC_lt d[j]! d[i]!).2 h4
  show d[i]!.1 ≤ d[j]!.1
  omega
set_option maxHeartbeats 16000000 in
set_option maxRecDepth 1000000 in
theorem insertion_any (blk off cap a b : Nat) (d0 d : Array Coin) (w0 w : World) (R : RowK encC 2 w0 blk off d0) (hs : d0.size = d.size) (S : SWK encC 2 w0 blk off d w) (hab : a ≤ b) (hb : b ≤ d.size) (hsz : d.size ≤ 1000000) :
    Calls Try.prog 35 #[.slice (some ⟨blk, off, none⟩) d.size cap, .int .i64 a, .int .i64 b, fvC] w (SymPost a b blk off w0 d) := by
  have S0 : Aside (SWK encC 2 w0 blk off d w) := S
  clear S
  have mixed := mixedP
  go_enter Try.func35, Try.ntmps35
  go_wp2
  go_loopg [8] (b - a) (fun g1 vi wr => ∃ (i : Nat) (dk : Array Coin), vi = .int .i64 i ∧ a < i ∧ i ≤ b + 1 ∧ b + 1 - i ≤ g1 + 1 ∧ dk.size = d.size ∧ Aside (SWK encC 2 w0 blk off dk wr) ∧ Hid (insOuter (ltOf cfC) a b i dk = insOuter (ltOf cfC) a b (a + 1) d))
  case atStart => exact ⟨a + 1, d, by go_num, by omega, by omega, by omega, rfl, S0, rfl⟩
  case round =>
    clear S0
    obtain ⟨i, dk, rfl, hai, hib, hg1, hsk, S1, HO⟩ := hrel
    by_cases hlt : i < b
    · have hltz : (i : Int) < (b : Int) := by omega
      go_wp2
      go_loopg [9] i (fun g2 vj wr2 => ∃ (j : Nat) (dj : Array Coin), vj = .int .i64 j ∧ a ≤ j ∧ j ≤ i ∧ j ≤ g2 ∧ dj.size = d.size ∧ Aside (SWK encC 2 w0 blk off dj wr2) ∧ Hid (insInner (ltOf cfC) a j dj = insInner (ltOf cfC) a i dk))
      case atStart => exact ⟨i, dk, rfl, by omega, Nat.le_refl _, Nat.le_refl _, hsk, S1, rfl⟩
      case round =>
        clear S1
        obtain ⟨j, dj, rfl, haj, hji, hg2, hsj, S1, HI⟩ := hrel
        have out : (j ≤ a ∨ ltOf cfC dj[j]! dj[j - 1]! = false) → Hid (insOuter (ltOf cfC) a b (i + 1) dj = insOuter (ltOf cfC) a b (a + 1) d) := fun hs => by
          show _ = _
          rw [← HO.out, insOuter_go _ _ _ _ _ hlt, ← HI.out, insInner_stop _ _ _ _ hs]
        have OUT : Aside _ := out
        clear out
        by_cases hja : a < j
        · have hjaz : (a : Int) < (j : Int) := by omega
          obtain ⟨jp, rfl⟩ : ∃ jp, j = jp + 1 := ⟨j - 1, by omega⟩
          have hjaz' : (a : Int) < (jp : Int) + 1 := by omega
          have hjd : decide ((jp : Int) + 1 > (a : Int)) = true := decide_eq_true (by omega)
          have hjd2 : decide ((a : Int) < (jp : Int) + 1) = true := decide_eq_true (by omega)
          have ea9 : ((jp : Int) + 1).toNat = jp + 1 := by omega
          have pa9 : (0 : Int) ≤ (jp : Int) + 1 := by omega
          have qa9 : (jp : Int) + 1 < (d.size : Int) := by omega
          have ra9 : IntKind.i64.wrap ((jp : Int) + 1) = (jp : Int) + 1 := by rw [IntKind.wrap_i64]; omega
          have eb9 : ((jp : Int)).toNat = jp := by omega
          have pb9 : (0 : Int) ≤ (jp : Int) := by omega
          have qb9 : (jp : Int) < (d.size : Int) := by omega
          have rb9 : IntKind.i64.wrap ((jp : Int)) = (jp : Int) := by rw [IntKind.wrap_i64]; omega
          have l9a := swk_ld S1.out R (by omega) (jp + 1) (by omega)
          have l9b := swk_ld S1.out R (by omega) (jp) (by omega)
          have hc9 := swk_cmp wr dj[jp + 1]! dj[jp]!
          have hk9 := cfC_lt dj[jp + 1]! dj[jp]!
          obtain ⟨xa, hxa⟩ : ∃ x, x = dj[jp + 1]! := ⟨_, rfl⟩
          obtain ⟨xb, hxb⟩ : ∃ x, x = dj[jp]! := ⟨_, rfl⟩
          rw [← hxa] at l9a
          rw [← hxb] at l9b
          rw [← hxa, ← hxb] at hc9 hk9
          have HXA : Aside (xa = dj[jp + 1]!) := hxa
          have HXB : Aside (xb = dj[jp]!) := hxb
          clear hxa hxb
          by_cases hv9 : cfC xa xb < 0
          · have hw9 : xa.1 < xb.1 := hk9.1 hv9
            have hd9 : decide (cfC xa xb < 0) = true := decide_eq_true hv9
            have HW9 : Aside _ := hw9
            clear hw9 hk9
            go_wp2_with fail
            go_quiet_grown (first | (refine Calls.grown_of (hc9 _ _)))
            have S2 : Aside (SWK encC 2 w0 blk off dj (grow (wr.drewN nq) osq)) := S1.out.grown nq osq
            clear l9a l9b hc9 S1
            generalize grow (wr.drewN nq) osq = w2 at S2 ⊢
            clear nq osq
            have hw9 := HW9.out
            rw [HXA.out, HXB.out] at hw9
            have HW9 : Aside _ := hw9
            clear hw9
            clear HXA HXB
            have hin : insInner (ltOf cfC) a jp (swp dj (jp + 1) jp) = insInner (ltOf cfC) a i dk := by
              have := insInner_go (ltOf cfC) a (jp + 1) dj hja (by simp only [Nat.add_sub_cancel]; exact decide_eq_true ((cfC_lt _ _).2 HW9.out))
              simp only [Nat.add_sub_cancel] at this
              rw [← HI.out, this]
            have HIN : Aside _ := hin
            clear hin HW9
            go_wp2_with fail
            have S3 : Aside (SWK encC 2 w0 blk off dj w2) := S2
            clear S2
            have ea4 : ((jp : Int) + 1).toNat = jp + 1 := by omega
            have pa4 : (0 : Int) ≤ (jp : Int) + 1 := by omega
            have qa4 : (jp : Int) + 1 < (d.size : Int) := by omega
            have ra4 : IntKind.i64.wrap ((jp : Int) + 1) = (jp : Int) + 1 := by rw [IntKind.wrap_i64]; omega
            have eb4 : ((jp : Int)).toNat = jp := by omega
            have pb4 : (0 : Int) ≤ (jp : Int) := by omega
            have qb4 : (jp : Int) < (d.size : Int) := by omega
            have rb4 : IntKind.i64.wrap ((jp : Int)) = (jp : Int) := by rw [IntKind.wrap_i64]; omega
            have hca := swk_cells S3.out.drew R (by omega) (jp + 1) (by omega)
            have hcb := swk_cells S3.out.drew R (by omega) (jp) (by omega)
            have l44a := run_loadC hca.1 hca.2.1
            have l44b := run_loadC hcb.1 hcb.2.1
            have s44a := run_storeC (S3.out.st1 R (by omega) Try.prog (jp + 1) (by omega) dj[jp]!)
            have s44b := run_storeC (S3.out.st2 R (by omega) Try.prog (jp + 1) (jp) (by omega) (by omega) dj[jp]! dj[jp + 1]!)
            have S2 : Aside (SWK encC 2 w0 blk off (swp dj (jp + 1) (jp)) ((w2.drew.setCells blk (off + (jp + 1) * 2) (encC dj[jp]!)).setCells blk (off + (jp) * 2) (encC dj[jp + 1]!))) := S3.out.swapped R (jp + 1) (jp) (by omega) (by omega)
            generalize w2.drew.setCells blk (off + (jp + 1) * 2) (encC dj[jp]!) = w8 at *
            generalize w8.setCells blk (off + (jp) * 2) (encC dj[jp + 1]!) = w9 at *
            generalize dj[jp + 1]! = xa at *
            generalize dj[jp]! = xb at *
            clear S3 hca hcb
            go_wp2_with fail
            go_big_region_o
            clear l44a l44b s44a s44b
            go_wp2
            go_roundg jp
            case measure => omega
            case rel =>
              exact ⟨jp, swp dj (jp + 1) jp, by first | rfl | go_num | (congr 1; omega), by omega, by omega, Nat.le_refl _, by rw [size_swp]; exact hsj, S2, (show Hid _ from HIN.out)⟩
          · have hw9 : ¬ xa.1 < xb.1 := fun h => hv9 (hk9.2 h)
            have hd9 : decide (cfC xa xb < 0) = false := decide_eq_false hv9
            have HW9 : Aside _ := hw9
            clear hw9 hk9
            go_wp2_with fail
            go_quiet_grown (first | (refine Calls.grown_of (hc9 _ _)))
            have S2 : Aside (SWK encC 2 w0 blk off dj (grow (wr.drewN nq) osq)) := S1.out.grown nq osq
            clear l9a l9b hc9 S1
            generalize grow (wr.drewN nq) osq = w2 at S2 ⊢
            clear nq osq
            have hw9 := HW9.out
            rw [HXA.out, HXB.out] at hw9
            have HW9 : Aside _ := hw9
            clear hw9
            go_wp2
            go_roundg (b - (i + 1))
            case measure => omega
            case rel => exact ⟨i + 1, dj, by go_num, by omega, by omega, by omega, hsj, S2, OUT.out (Or.inr (by simp only [Nat.add_sub_cancel]; exact decide_eq_false fun h => HW9.out ((cfC_lt _ _).1 h)))⟩
        · have hjaz : decide ((j : Int) > (a : Int)) = false := decide_eq_false (by omega)
          have hjaz' : ¬ (a : Int) < (j : Int) := by omega
          have S2 : Aside (SWK encC 2 w0 blk off dj wr.drew) := S1.out.drew
          clear S1
          go_wp2_with fail
          go_big_region_o
          generalize wr.drew = w2 at S2 ⊢
          all_goals go_wp2
          go_roundg (b - (i + 1))
          case measure => omega
          case rel => exact ⟨i + 1, dj, by go_num, by omega, by omega, by omega, hsj, S2, OUT.out (Or.inl (by omega))⟩
    · have hltz : ¬ (i : Int) < (b : Int) := by omega
      go_wp2
      go_end0
      have hO := HO.out
      rw [insOuter_stop _ _ _ _ _ hlt] at hO
      have hh := insertionSort_holds swoC d a b hab hb
      unfold Sort.insertionSort at hh
      rw [← hO] at hh
      exact ⟨rfl, dk, hh.1, srt_of hh.2, S1.out⟩
end Go.Proofs.Ytnoleijdpilnpaa

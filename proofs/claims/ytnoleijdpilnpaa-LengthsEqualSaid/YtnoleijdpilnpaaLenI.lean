/- foliolaw6.begun, foliolaw6.cut: contracts; LengthsSums, walked. -/
import Derived.Test.YtnoleijdpilnpaaLenG
import Derived.Test.YtnoleijdpilnpaaPkgD
set_option linter.unusedSimpArgs false
set_option linter.unusedVariables false
namespace Go.Proofs.Ytnoleijdpilnpaa
open Go.RowKit Go.Shelf Pl
namespace Pl
theorem begun_lens {L : List Int} {S : List Coin} (h : LensOk [5, 0, 1, 1] L S) : L = [1, 0, 2, 2] := by
  have hc : coinsFrom 0 [5, 0, 1, 1] = [(5, 0), (1, 2), (1, 3)] := by decide
  have hp := h.perm
  rw [hc] at hp
  have hl : S.length = 3 := by rw [hp.length_eq]; rfl
  have ho := (optLen h.good (by omega) (by omega)).perm hp
  obtain ⟨l0, l2, l3⟩ := three_lens ho
  have l1 : lenOf S (1 : Int) = 0 := lenK_zero (by omega) (fun s hs => by
    have := hp.mem_iff.1 hs
    simp at this
    rcases this with rfl | rfl | rfl <;> decide) _ _
  have v := h.val
  have hlen := h.len
  have f : ∀ x, finLen S x = lenOf S x := fun x => finLen_many (by omega) x
  have v0 := v 0 (by simp)
  have v1 := v 1 (by simp)
  have v2 := v 2 (by simp)
  have v3 := v 3 (by simp)
  rw [f] at v0 v1 v2 v3
  simp only [Int.natCast_zero] at v0 v1 v2 v3
  match L, hlen with
  | [a, b, c, d], _ =>
    simp [List.getD] at v0 v1 v2 v3
    rw [v0, v1, v2, v3]
    have e1 : lenOf S ((1 : Nat) : Int) = 0 := l1
    simp_all
end Pl
theorem allOk_begun : [5, 0, 1, 1].length ≤ 300 ∧ allOk [5, 0, 1, 1] := ⟨by decide, by intro x hx; simp at hx; omega⟩
set_option maxHeartbeats 4000000 in
theorem begun_any (w : World) : Calls Try.prog 11 #[] w fun e w' => e = .returned (.bool true) ∧ Below w.heap.size w w' := by
  go_enter Try.func11, Try.ntmps11
  go_wp2_with fail
  have hF := Blk.new w 2 (i64s [5, 0, 1, 1])
  have hI := isInts_blk (n := 4) hF rfl (by unfold maxLen; omega)
  have hB0 : Below w.heap.size w (w.alloc (.cells (i64s [5, 0, 1, 1]).toArray 2)) := (Below.refl _ w).alloc (Nat.le_refl _) _
  refine (of_any _ [5, 0, 1, 1] _ hI (by simp)).mono ?_
  rintro e w1 (⟨hn, _⟩ | ⟨_, g, L, S, rfl, hg, hL, hok, hB⟩)
  · exact absurd allOk_begun hn
  have hLe := begun_lens hok
  subst hLe
  have hIL := isInts_blk (n := 4) hL rfl (by unfold maxLen; omega)
  have c0 : w1.cell? ⟨g, 0, none⟩ = some (.int .i64 1) := hL.cell rfl
  have c1 : w1.cell? ⟨g, 1, none⟩ = some (.int .i64 0) := hL.cell rfl
  have c2 : w1.cell? ⟨g, 2, none⟩ = some (.int .i64 2) := hL.cell rfl
  have HB1 := Lib.hid (hB0.trans (hB.mono hB0.size))
  have HIL := Lib.hid hIL
  have hk := fun W h => kraft_prog (.slice (some ⟨g, 0, none⟩) 4 4) [1, 0, 2, 2] W h (by simp)
  have ek : kraftW 0 [1, 0, 2, 2] = 32768 := by decide +kernel
  have ec : costW 0 [5, 0, 1, 1] [1, 0, 2, 2] = 9 := by decide +kernel
  rw [ek] at hk
  clear hF hI hB0 hok hB hL hIL ek
  have HK := Lib.hid hk
  have HC := Lib.hid ec
  clear hk ec
  simp only [List.length_cons, List.length_nil] at *
  go_wp2_with fail
  refine (HK.out _ HIL.out).mono ?_
  rintro e w2 ⟨rfl, rfl⟩
  go_wp2_with fail
  have hF2 := Blk.new w1 2 (i64s [5, 0, 1, 1])
  have hI2 := isInts_blk (n := 4) hF2 rfl (by unfold maxLen; omega)
  have hb2 : Below w1.heap.size w1 (w1.alloc (.cells (i64s [5, 0, 1, 1]).toArray 2)) := (Below.refl _ w1).alloc (Nat.le_refl _) _
  refine (cost_prog _ _ [5, 0, 1, 1] [1, 0, 2, 2] _ hI2 (HIL.out.below hb2) (by simp) (by simp)).mono ?_
  rintro e w3 ⟨rfl, hb3⟩
  rw [HC.out]
  have HB3 := Lib.hid (HB1.out.trans ((hb2.trans (hb3.mono hb2.size)).mono HB1.out.size))
  clear hF2 hI2 hb2 hb3
  go_wp2
  go_ret
  exact ⟨rfl, HB3.out⟩
end Go.Proofs.Ytnoleijdpilnpaa

/- Texts put together: RcJ. -/
import Derived.Test.YtdjkkohckfndkaaGreatDoorEg3
import Derived.Test.YtdjkkohckfndkaaGreatDoorEg5
import Derived.Test.YtdjkkohckfndkaaGreatDoorEg32
import Derived.Test.YtdjkkohckfndkaaGreatDoorEg35
set_option linter.unusedSimpArgs false
set_option linter.unusedVariables false
set_option maxRecDepth 100000
namespace Go.Proofs.YtdjkkohckfndkaaGreatDoor.S14
open Go.RowKit S2.Pl S3 S3.Pl
attribute [local go_sem ↓] loadR_eq storeR_eq buildR_eq sliceU8_eq
def recF : List FK := [.int .i64, .int .i64, .str, .str]
theorem recF_get {w : World} {a : Option Addr} {len : Nat} (h : IsRecs recF w a len) (hl : 0 < len) : ∃ b off, a = some ⟨b, off, none⟩ ∧ b < w.heap.size ∧ ∀ i, i < len →
    ∃ r : RT, RIn r ∧ ∀ j u, (recL r)[j]? = some u → w.cell? ⟨b, off + i * 4 + j, none⟩ = some u := by
  obtain ⟨b, off, ha, hb, hc⟩ := h.cells hl (by decide)
  refine ⟨b, off, ha, hb, fun i hi => ?_⟩
  obtain ⟨v0, c0, z0, rfl, k0⟩ := hc i hi 0 _ rfl
  obtain ⟨v1, c1, z1, rfl, k1⟩ := hc i hi 1 _ rfl
  obtain ⟨v2, c2, s2, rfl, k2⟩ := hc i hi 2 _ rfl
  obtain ⟨v3, c3, s3, rfl, k3⟩ := hc i hi 3 _ rfl
  refine ⟨⟨z0, z1, s2, s3⟩, ⟨k0, k1, k2, k3⟩, fun j u hj => ?_⟩
  have e4 : recF.length = 4 := rfl
  rw [e4] at c0 c1 c2 c3
  rw [Nat.add_assoc]
  match j, hj with
  | 0, hj => simp [recL] at hj; subst hj; exact c0
  | 1, hj => simp [recL] at hj; subst hj; exact c1
  | 2, hj => simp [recL] at hj; subst hj; exact c2
  | 3, hj => simp [recL] at hj; subst hj; exact c3
  | n + 4, hj => simp [recL] at hj
end Go.Proofs.YtdjkkohckfndkaaGreatDoor.S14

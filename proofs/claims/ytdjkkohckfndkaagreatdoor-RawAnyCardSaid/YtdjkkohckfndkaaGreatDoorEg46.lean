/- Texts put together: RawM. -/
import Derived.Test.YtdjkkohckfndkaaGreatDoorEg45
set_option linter.unusedSimpArgs false
set_option linter.unusedVariables false
set_option maxRecDepth 100000
namespace Go.Proofs.YtdjkkohckfndkaaGreatDoor.S15
open Go.RowKit S13 S13.Dk S14 S3 S2.Pl S3.Pl
theorem scan_encs {G : List RT} (hG : ∀ r ∈ G, chk r = 0) : scanR (encs G) = (G, (encs G).length, true) := by
  have h := many_scan hG (k := G.length) (C := (encs G).length) (by rw [List.take_length]; exact Nat.le_refl _) (.inl ⟨rfl, Nat.le_refl _⟩)
  simpa using h
theorem opn_whole {S : St} {sp n : Nm} {G : List RT} (hr : readF S n = some (encs G)) (hG : ∀ r ∈ G, chk r = 0) : opn S sp n = (S, 0, G) := by
  unfold opn
  rw [hr]
  simp only [scan_encs hG]
  rw [if_neg (by simp), if_neg (by omega)]
theorem open_held {w0 w : World} {p : Nat} {S S' : St} {G : List RT} {num : Int} {d : ByteArray} (h : InH w0 p S w) (hT : Tab w0) (hf : FmtOk num d) (hd : d.size ≤ 100) (hc : S.calls ≤ 1099511627000) (hB : ∀ B, readF S (d ++ rawE).data.toList = some B → B.length ≤ 1000000) (ho : opn S (d ++ newE).data.toList (d ++ rawE).data.toList = (S', 0, G)) :
    Calls Tryz.prog 18 #[pP p, .int .i64 num] w fun e w' => ∃ q, e = .returned (.tuple #[pP q, .int .i64 0]) ∧ InS w0 p S' q (d ++ rawE) (endL G G.length) w' := by
  refine (open_any h hT hf hd hc hB).mono ?_
  intro e w' hp
  unfold OpenPost at hp
  rw [ho] at hp
  simpa using hp
theorem row_nil (k : IntKind) (w : World) : IsRow k w none 0 0 [] := .inl ⟨rfl, rfl, rfl, rfl⟩
attribute [local go_sem ↓] loadR_eq storeR_eq buildR_eq sliceU8_eq conv_eq
attribute [local go_sem] run_buildR run_buildR4 run_buildR3'
end Go.Proofs.YtdjkkohckfndkaaGreatDoor.S15

/- Texts put together: RcI. -/
import Derived.Test.YtdjkkohckfndkaaGreatDoorEg34
set_option linter.unusedSimpArgs false
set_option linter.unusedVariables false
set_option maxRecDepth 100000
namespace Go.Proofs.YtdjkkohckfndkaaGreatDoor.S14
open Go.RowKit S2.Pl S3 S3.Pl
attribute [local go_sem ↓] loadR_eq storeR_eq buildR_eq sliceU8_eq
set_option maxHeartbeats 4000000 in
theorem eq_same (r : RT) (w : World) : Calls Tryz.prog 56 #[.agg #[.int .i64 r.kind, .int .i64 r.seq, .string r.key, .string r.val], .agg #[.int .i64 r.kind, .int .i64 r.seq, .string r.key, .string r.val]] w fun e w' => e = .returned (.bool true) ∧ Hid (Below w.heap.size w w') := by
  obtain ⟨k, s, key, val⟩ := r
  have hB : Below w.heap.size w ((w.alloc (.cells #[.int .i64 k, .int .i64 s, .string key, .string val] 32)).alloc (.cells #[.int .i64 k, .int .i64 s, .string key, .string val] 32)) := ((Below.refl _ _).alloc (Nat.le_refl _) _).alloc (by simp) _
  have HB := Lib.hid hB
  have e1 : (k == k) = true := beq_t rfl
  have e2 : (s == s) = true := beq_t rfl
  have e3 : (key.toList == key.toList) = true := by simp
  have e4 : (val.toList == val.toList) = true := by simp
  clear hB
  go_enter Tryz.func56, Tryz.ntmps56
  go_wp2
  go_ret
  exact ⟨rfl, HB⟩
theorem RecsAt.load {w W : World} {a : Option Addr} {n cap : Nat} {L : List RT} (h : RecsAt w (.slice a n cap) L) {i : Nat} (hi : i < L.length) : ∃ b off, a = some ⟨b, off, none⟩ ∧ ∀ W, From w W → (loadR (.pointer (some ⟨b, off + i * 4, none⟩))).run Tryz.prog W = .ok (.agg #[.int .i64 (L.getD i zR).kind, .int .i64 (L.getD i zR).seq, .string (L.getD i zR).key, .string (L.getD i zR).val]) W := by
  obtain ⟨a', cap', he, h1, h2, h3⟩ := h
  simp at he
  obtain ⟨rfl, rfl, rfl⟩ := he
  obtain ⟨b, off, rfl, hb, hc⟩ := h3 (by omega)
  exact ⟨b, off, rfl, fun W hW => run_loadR (cs := recL (L.getD i zR)) rfl fun j u hj => (Below.cell (p := ⟨b, _, none⟩) hW hb).trans (hc i hi j u hj)⟩
end Go.Proofs.YtdjkkohckfndkaaGreatDoor.S14

/- string(b) of bytes, as one closed step of the walk. -/
import Derived.Test.YtijjpbpoekbekaaBitsF
import Derived.Deep.RegionWith
namespace Go.Proofs.Ytijjpbpoekbekaa
open Go.RowKit Pl

def str (B : List Nat) : ByteArray := ⟨(B.map UInt8.ofNat).toArray⟩
def convS (v : Value) : Sem Value := convert 47 9 v
theorem conv_eq (v : Value) : convert 47 9 v = convS v := rfl
theorem str_inj {A B : List Nat} (hA : ∀ x ∈ A, x < 256) (hB : ∀ x ∈ B, x < 256) (h : str A = str B) : A = B := by
  have h1 : A.map UInt8.ofNat = B.map UInt8.ofNat := by
    have := congrArg (fun s : ByteArray => s.data.toList) h
    simpa [str] using this
  have h2 := congrArg (List.map UInt8.toNat) h1
  rw [List.map_map, List.map_map] at h2
  have e : ∀ l : List Nat, (∀ x ∈ l, x < 256) → l.map (UInt8.toNat ∘ UInt8.ofNat) = l := by
    intro l hl
    refine (List.map_congr_left (g := id) fun x hx => ?_).trans (List.map_id l)
    have := hl x hx
    simp only [Function.comp, id]
    rw [UInt8.toNat_ofNat', Nat.mod_eq_of_lt (by simpa using this)]
  rw [e A hA, e B hB] at h2
  exact h2
theorem run_conv {w : World} {v : Value} {B : List Nat} (hv : IsBytes w v B) : (convS v).run Try.prog w = .ok (.string (str B)) w := by
  obtain ⟨hx, ⟨rfl, rfl⟩ | ⟨a, cap, rfl, _, _, hc⟩⟩ := hv
  · exact run_convert_bytes_nil w _ _ Try.underlying47 Try.underlying5 0 0 _ Try.underlying9
  · have h := run_convert_bytes_back (P := Try.prog) w 47 9 5 a cap (B.map UInt8.ofNat) Try.underlying47 Try.underlying5 Try.underlying9 (by
      intro j hj
      rw [List.length_map] at hj
      rw [hc j (.int .u8 (B.getD j 0 : Nat)) (u8s_get B j hj)]
      have hb : B[j] < 256 := hx _ (List.getElem_mem hj)
      simp [List.getD, hj]
      omega)
    rw [List.length_map] at h
    exact h
theorem IsBytes.below {w w' : World} {v : Value} {B : List Nat} (h : IsBytes w v B) (hb : Below w.heap.size w w') : IsBytes w' v B := by
  obtain ⟨hx, h | ⟨a, cap, rfl, h1, h2, hc⟩⟩ := h
  · exact ⟨hx, .inl h⟩
  · refine ⟨hx, .inr ⟨a, cap, rfl, h1, h2, fun i u hu => ?_⟩⟩
    have := hc i u hu
    rw [hb.cell (p := a.add i) (World.block_lt_of_cell? w _ this)]
    exact this
theorem IsBytes.row {w w' : World} {v : Value} {B : List Nat} (h : IsBytes w v B) {r : Option Nat} (hg : w.grownBy w' r) (hr : ∀ a n c, v = .slice (some a) n c → 0 < B.length → some a.block ≠ r) : IsBytes w' v B := by
  obtain ⟨hx, h | ⟨a, cap, rfl, h1, h2, hc⟩⟩ := h
  · exact ⟨hx, .inl h⟩
  · refine ⟨hx, .inr ⟨a, cap, rfl, h1, h2, fun i u hu => ?_⟩⟩
    have := hc i u hu
    have hl : i < B.length := by have := (List.getElem?_eq_some_iff.1 hu).1; rwa [u8s_length] at this
    have hblk : (a.add i).block = a.block := by unfold Addr.add; split <;> rfl
    exact hg.cell this (by rw [hblk]; exact hr a _ _ rfl (by omega))
end Go.Proofs.Ytijjpbpoekbekaa

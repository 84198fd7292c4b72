/- suffix.Sort: a contract. -/
import Derived.Test.YtklpmpniempmcaaSufSb
import Derived.Test.YtklpmpniempmcaaSufSi
set_option linter.unusedSimpArgs false
set_option linter.unusedVariables false
namespace Go.Proofs.Ytklpmpniempmcaa
open Go.RowKit Pl
theorem sortedInt_any : ∀ (n : Nat) (T : List Nat) (K : Nat) (lv : Value) (w : World), T.length ≤ n → LetI w w.heap.size lv T → (∀ x ∈ T, x < K) → 0 < K → K ≤ 1000000 → T.length ≤ 1000000 →
    Calls Try.prog 32 #[lv, .int .i64 K] w (SortPost T w) := by
  intro n
  induction n with
  | zero =>
    intro T K lv w hn hl hk hK0 hKm hlen
    exact sorted_i T K lv w hl hk hK0 hlen hKm fun U D uv w1 hU => by omega
  | succ n ih =>
    intro T K lv w hn hl hk hK0 hKm hlen
    exact sorted_i T K lv w hl hk hK0 hlen hKm fun U D uv w1 hU hl1 hk1 h0 hm => ih U D uv w1 (by omega) hl1 hk1 h0 hm (by omega)
set_option maxHeartbeats 1000000 in
theorem sort_any (v : Value) (B : List Nat) (w : World) (hv : IsBytes w v B) (hB : B.length ≤ 1000000) :
    Calls Try.prog 11 #[v] w (SortPost B w) := by
  have hs := sorted_b B 256 v w (letB_of hv) hv.1 (by omega) hB (by omega) fun U D uv w1 hU hl1 hk1 h0 hm => sortedInt_any U.length U D uv w1 (Nat.le_refl _) hl1 hk1 h0 hm (by omega)
  clear hv
  go_enter Try.func11, Try.ntmps11
  go_wp2_with fail
  refine hs.mono ?_
  rintro e w1 ⟨g, R, rfl, h1, h2, h3, h4⟩
  have H : Hid (SortPost B w (.returned (.slice (some ⟨g, 0, none⟩) B.length B.length)) w1) := Lib.hid ⟨g, R, rfl, h1, h2, h3, h4⟩
  clear hs h1 h2 h3 h4
  go_wp2
  go_ret
  exact H.out
end Go.Proofs.Ytklpmpniempmcaa

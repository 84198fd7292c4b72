/- number.Four, number.GetFour: contracts. -/
import Derived.Test.YtaffmfocjaihlaaDoorMade
set_option linter.unusedSimpArgs false
set_option linter.unusedVariables false
namespace Go.Proofs.YtaffmfocjaihlaaDoor
open Go.RowKit Pl
theorem four_any (n : Int) (w : World) (hn : 0 ≤ n) : Calls Tryd.prog 34 #[.int .u32 n] w (MadePost (four n.toNat) w) := by
  go_enter Tryd.func34, Tryd.ntmps34
  go_wp2
  go_ret
  exact made_four (by omega) (by omega) (by omega) (by omega)
def FourPost (B : List Nat) (w : World) (e : Ending) (w' : World) : Prop := e = .returned (.int .u32 (getFour B : Nat)) ∧ ∃ k, w.drewN k = w'
theorem getFour_few (v : Value) (B : List Nat) (w : World) (hv : IsBytes w v B) (h : B.length < 4) : Calls Tryd.prog 49 #[v] w (FourPost B w) := by
  obtain ⟨a, cap, rfl, hcap, hmax⟩ := hv.slice
  have e : getFour B = 0 := if_pos h
  have E := Lib.hid e
  clear e hv
  go_enter Tryd.func49, Tryd.ntmps49
  go_wp2
  go_ret
  exact ⟨by rw [E.out]; rfl, 0, rfl⟩
set_option maxHeartbeats 400000 in
theorem getFour_any (v : Value) (B : List Nat) (w : World) (hv : IsBytes w v B) : Calls Tryd.prog 49 #[v] w (FourPost B w) := by
  by_cases h : B.length < 4
  · exact getFour_few v B w hv h
  · obtain ⟨b, off, cap, rfl, h1, h2, _, hc⟩ := hv.cells (by omega)
    have c0 : w.cell? ⟨b, off, none⟩ = some (.int .u8 (B.getD 0 0 : Nat)) := hc 0 (by omega)
    have c1 := hc 1 (by omega)
    have c2 := hc 2 (by omega)
    have c3 := hc 3 (by omega)
    have l0 := getD_lt hv.1 0
    have l1 := getD_lt hv.1 1
    have l2 := getD_lt hv.1 2
    have l3 := getD_lt hv.1 3
    have e : getFour B = B.getD 0 0 + 256 * B.getD 1 0 + 65536 * B.getD 2 0 + 16777216 * B.getD 3 0 := if_neg h
    unfold FourPost
    rw [e]
    generalize B.getD 0 0 = x0 at *
    generalize B.getD 1 0 = x1 at *
    generalize B.getD 2 0 = x2 at *
    generalize B.getD 3 0 = x3 at *
    have hl0 : (0 : Int) < B.length := by omega
    have hl1 : (1 : Int) < B.length := by omega
    have hl2 : (2 : Int) < B.length := by omega
    have hl3 : (3 : Int) < B.length := by omega
    have hn0 : 0 < B.length := by omega
    have hn1 : 1 < B.length := by omega
    have hn2 : 2 < B.length := by omega
    have hn3 : 3 < B.length := by omega
    clear hv hc e
    go_enter Tryd.func49, Tryd.ntmps49
    go_wp2
    go_quiet (fail)
    go_wp2
    go_ret
    exact ⟨ret_int (or_four _ _ _ _ l0 l1 l2 l3), _, rfl⟩
end Go.Proofs.YtaffmfocjaihlaaDoor

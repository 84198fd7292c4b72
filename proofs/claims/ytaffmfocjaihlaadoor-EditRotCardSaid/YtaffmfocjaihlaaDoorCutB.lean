/- foliolaw1.Short: a contract. -/
import Derived.Test.YtaffmfocjaihlaaDoorMade
set_option linter.unusedSimpArgs false
set_option linter.unusedVariables false
namespace Go.Proofs.YtaffmfocjaihlaaDoor
open Go.RowKit Pl
def ShortPost (B : List Nat) (n : Nat) (w : World) (e : Ending) (w' : World) : Prop := ∃ v', e = .returned v' ∧ IsBytes w v' (B.take n) ∧ w = w'
theorem short_any (v : Value) (B : List Nat) (n : Nat) (w : World) (hv : IsBytes w v B) (hn : n ≤ 4294967296) :
    Calls Tryd.prog 15 #[v, .int .i64 n] w (ShortPost B n w) := by
  obtain ⟨a, cap, rfl, hcap, hmax⟩ := hv.slice
  unfold maxLen at hmax
  have HV := Lib.hid hv
  clear hv
  by_cases h : n < B.length
  · have h1 : (n : Int) ≤ (cap : Int) := by omega
    go_enter Tryd.func15, Tryd.ntmps15
    go_wp2
    go_ret
    exact ⟨_, rfl, HV.out.take n (by omega), rfl⟩
  · go_enter Tryd.func15, Tryd.ntmps15
    go_wp2
    go_ret
    exact ⟨_, rfl, by rw [List.take_of_length_le (by omega)]; exact HV.out, rfl⟩
end Go.Proofs.YtaffmfocjaihlaaDoor

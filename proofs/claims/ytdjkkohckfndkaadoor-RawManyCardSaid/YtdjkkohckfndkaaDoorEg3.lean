/- Texts put together: CutC. -/
import Derived.Test.YtdjkkohckfndkaaDoorEg1
set_option linter.unusedSimpArgs false
set_option linter.unusedVariables false
set_option maxRecDepth 100000
namespace Go.Proofs.YtdjkkohckfndkaaDoor
open Go.RowKit

def cutS (s : ByteArray) (n : Nat) : ByteArray := if n < s.size then s.extract 0 n else s
theorem cutS_size (s : ByteArray) (n : Nat) : (cutS s n).size ≤ n := by
  unfold cutS
  split
  · simp
    omega
  · omega
def CutPost (s : ByteArray) (n : Nat) (w : World) (e : Ending) (w' : World) : Prop := e = .returned (.string (cutS s n)) ∧ w = w'
theorem cut_any (s : ByteArray) (n : Nat) (w : World) (hs : s.size ≤ maxLen) (hn : n ≤ 4294967296) :
    Calls Tryd.prog 49 #[.string s, .int .i64 n] w (CutPost s n w) := by
  unfold maxLen at hs
  by_cases h : n < s.size
  · have e : cutS s n = s.extract 0 n := if_pos h
    have E := Lib.hid e
    clear e
    go_enter Tryd.func49, Tryd.ntmps49
    go_wp2
    go_ret
    exact ⟨by rw [E.out]; rfl, rfl⟩
  · have e : cutS s n = s := if_neg h
    have E := Lib.hid e
    clear e
    go_enter Tryd.func49, Tryd.ntmps49
    go_wp2
    go_ret
    exact ⟨by rw [E.out]; rfl, rfl⟩
end Go.Proofs.YtdjkkohckfndkaaDoor

/- crc.sealEnd, bodyHolds, bytes.Clone, Open: contracts. -/
import Derived.Test.YtaffmfocjaihlaaDoorCrcB
import Derived.Test.YtaffmfocjaihlaaDoorSlice
import Derived.Deep.QuietTactic
set_option linter.unusedSimpArgs false
set_option linter.unusedVariables false
set_option maxRecDepth 100000
namespace Go.Proofs.YtaffmfocjaihlaaDoor.Pl
end Go.Proofs.YtaffmfocjaihlaaDoor.Pl
namespace Go.Proofs.YtaffmfocjaihlaaDoor.S3.Pl
end Go.Proofs.YtaffmfocjaihlaaDoor.S3.Pl
namespace Go.Proofs.YtaffmfocjaihlaaDoor.S3
open Go.RowKit _root_.Go.Proofs.YtaffmfocjaihlaaDoor.Pl _root_.Go.Proofs.YtaffmfocjaihlaaDoor.S3.Pl

namespace Pl
/-- is there a header that can be trusted? -/
def endOk (B : List Nat) : Bool := decide (12 ≤ B.length) && (getFour (B.drop 4) == csum (B.take 4))
/-- the size of the seal that B begins with -/
def endAt (B : List Nat) : Nat := if endOk B then 12 + getFour B else 0
/-- does the byte string hold? -/
def bodyOk (B : List Nat) : Bool := getFour (B.drop 8) == csum (B.drop 12)
end Pl
theorem _root_.Go.Proofs.YtaffmfocjaihlaaDoor.IsBytes.drew {w : World} {v : Value} {B : List Nat} (h : IsBytes w v B) (n : Nat) : IsBytes (w.drewN n) v B := h
theorem Tab.drew {w : World} (h : Tab w) (n : Nat) : Tab (w.drewN n) := h
theorem sum_quiet (v : Value) (B : List Nat) (w : World) (n : Nat) (hT : Tab w) (hv : IsBytes w v B) : Calls Tryd.prog 35 #[v] (w.drewN n) fun e w'' => e = .returned (.int .u32 (csum B : Nat)) ∧ ∃ m, w'' = w.drewN m :=
  Calls.quiet_of_same ((sum_any v B (w.drewN n) hT hv).mono fun _ _ h => ⟨h.1, h.2.symm⟩)
theorem getFour_quiet (v : Value) (B : List Nat) (w : World) (n : Nat) (hv : IsBytes w v B) : Calls Tryd.prog 49 #[v] (w.drewN n) fun e w'' => e = .returned (.int .u32 (getFour B : Nat)) ∧ ∃ m, w'' = w.drewN m :=
  Calls.quiet_of ((getFour_any v B (w.drewN n) hv).mono fun _ _ h => ⟨h.1, by obtain ⟨k, hk⟩ := h.2; exact ⟨k, hk.symm⟩⟩)

attribute [local go_sem ↓] sliceU8_eq
def EndPost (B : List Nat) (w : World) (e : Ending) (w' : World) : Prop := e = .returned (.tuple #[.int .i64 (endAt B : Nat), .bool (endOk B)]) ∧ ∃ m, w' = w.drewN m
set_option maxHeartbeats 1000000 in
theorem sealEnd_any (v : Value) (B : List Nat) (w : World) (hT : Tab w) (hv : IsBytes w v B) : Calls Tryd.prog 39 #[v] w (EndPost B w) := by
  obtain ⟨a, cap, rfl, hcap, hmax⟩ := hv.slice
  unfold maxLen at hmax
  by_cases h12 : 12 ≤ B.length
  · obtain ⟨a4, c4, hs4, hI4⟩ := run_from hv 4 (by omega)
    obtain ⟨a5, c5, hs5, hI5⟩ := run_upto hv 4 (by omega)
    have hs4' : ∀ W, (sliceU8 (.slice a B.length cap) (some (.int .i64 4)) none none).run Tryd.prog W = .ok (.slice a4 (B.length - 4) c4) W := hs4
    have hs5' : ∀ W, (sliceU8 (.slice a B.length cap) none (some (.int .i64 4)) none).run Tryd.prog W = .ok (.slice a5 4 c5) W := hs5
    have HV := Lib.hid hv
    have HT := Lib.hid hT
    have HI4 := Lib.hid hI4
    have HI5 := Lib.hid hI5
    have hlt : decide ((B.length : Int) < 12) = false := by simp; omega
    by_cases hE : getFour (B.drop 4) = csum (B.take 4)
    · have ho : endOk B = true := by unfold endOk; rw [hE]; simp [h12]
      have he : endAt B = 12 + getFour B := by unfold endAt; rw [if_pos ho]
      have hg := getFour_lt hv.1
      have hne : (((getFour (B.drop 4) : Nat) : Int) != ((csum (B.take 4) : Nat) : Int)) = false := by rw [hE]; simp
      have HO := Lib.hid ho
      have HE := Lib.hid he
      clear hv hT hI4 hI5 hs4 hs5 hE ho he
      go_enter Tryd.func39, Tryd.ntmps39
      go_wp2_with fail
      go_quiet (first | (go_at_call 49; refine getFour_quiet _ _ _ _ HI4.out) | (go_at_call 35; refine sum_quiet _ _ _ _ HT.out HI5.out))
      go_wp2_with fail
      refine (getFour_quiet _ _ _ _ HV.out).mono ?_
      rintro e w2 ⟨rfl, m, rfl⟩
      go_wp2_with fail
      go_ret2
      exact ⟨by rw [HO.out, HE.out]; simp, m, rfl⟩
    · have ho : endOk B = false := by unfold endOk; simp [hE]
      have he : endAt B = 0 := by unfold endAt; rw [ho]; simp
      have hne : (((getFour (B.drop 4) : Nat) : Int) != ((csum (B.take 4) : Nat) : Int)) = true := by simp; omega
      have HO := Lib.hid ho
      have HE := Lib.hid he
      clear hv hT hI4 hI5 hs4 hs5 hE ho he
      go_enter Tryd.func39, Tryd.ntmps39
      go_wp2_with fail
      go_quiet (first | (go_at_call 49; refine getFour_quiet _ _ _ _ HI4.out) | (go_at_call 35; refine sum_quiet _ _ _ _ HT.out HI5.out))
      go_wp2_with fail
      go_ret2
      exact ⟨by rw [HO.out, HE.out]; rfl, nq, rfl⟩
  · have ho : endOk B = false := by unfold endOk; simp [h12]
    have he : endAt B = 0 := by unfold endAt; rw [ho]; simp
    have hlt : decide ((B.length : Int) < 12) = true := by simp; omega
    have HO := Lib.hid ho
    have HE := Lib.hid he
    clear hv hT ho he
    go_enter Tryd.func39, Tryd.ntmps39
    go_wp2_with fail
    go_quiet (fail)
    go_wp2_with fail
    go_ret2
    exact ⟨by rw [HO.out, HE.out]; rfl, nq, rfl⟩

theorem eq_nat (a b : Nat) : (((a : Nat) : Int) == ((b : Nat) : Int)) = (a == b) := by
  rw [Bool.eq_iff_iff]
  simp
  omega
def HoldsPost (B : List Nat) (w : World) (e : Ending) (w' : World) : Prop := e = .returned (.bool (bodyOk B)) ∧ ∃ m, w' = w.drewN m
theorem bodyHolds_any (v : Value) (B : List Nat) (w : World) (hT : Tab w) (hv : IsBytes w v B) (h12 : 12 ≤ B.length) : Calls Tryd.prog 40 #[v] w (HoldsPost B w) := by
  obtain ⟨a, cap, rfl, hcap, hmax⟩ := hv.slice
  unfold maxLen at hmax
  obtain ⟨a4, c4, hs4, hI4⟩ := run_from hv 8 (by omega)
  obtain ⟨a5, c5, hs5, hI5⟩ := run_from hv 12 (by omega)
  have hs4' : ∀ W, (sliceU8 (.slice a B.length cap) (some (.int .i64 8)) none none).run Tryd.prog W = .ok (.slice a4 (B.length - 8) c4) W := hs4
  have hs5' : ∀ W, (sliceU8 (.slice a B.length cap) (some (.int .i64 12)) none none).run Tryd.prog W = .ok (.slice a5 (B.length - 12) c5) W := hs5
  have HT := Lib.hid hT
  have HI4 := Lib.hid hI4
  have HI5 := Lib.hid hI5
  clear hv hT hI4 hI5 hs4 hs5
  go_enter Tryd.func40, Tryd.ntmps40
  go_wp2_with fail
  go_quiet (first | (go_at_call 49; refine getFour_quiet _ _ _ _ HI4.out) | (go_at_call 35; refine sum_quiet _ _ _ _ HT.out HI5.out))
  go_wp2_with fail
  go_ret
  exact ⟨congrArg (fun b => Ending.returned (.bool b)) (eq_nat _ _), nq, rfl⟩

set_option maxHeartbeats 1000000 in
theorem clone_any (v : Value) (B : List Nat) (w : World) (hv : IsBytes w v B) (hl : B.length ≤ 4294967296) : Calls Tryd.prog 41 #[v] w (MadePost B w) := by
  obtain ⟨a, cap, rfl, hcap, hmax⟩ := hv.slice
  unfold maxLen at hmax
  have HV := Lib.hid hv
  cases a with
  | none =>
    have hB : B = [] := by
      obtain ⟨_, ⟨_, hB⟩ | ⟨x, c, he, _⟩⟩ := hv
      · exact hB
      · simp at he
    subst hB
    have hc : cap = 0 := by
      obtain ⟨_, ⟨he, _⟩ | ⟨x, c, he, _⟩⟩ := hv
      · simpa using he
      · simp at he
    subst hc
    clear hv HV
    have he : ∀ w : World, (binOp .eql 29 (.slice none 0 0) (.slice none 0 0)).run Tryd.prog w = .ok (.bool true) w := fun _ => rfl
    go_enter Tryd.func41, Tryd.ntmps41
    go_wp2_with fail
    go_ret
    exact ⟨_, rfl, own_nil _ _, Below.refl _ _⟩
  | some x =>
    clear hv
    have he : ∀ w : World, (binOp .eql 29 (.slice (some x) B.length cap) (.slice none 0 0)).run Tryd.prog w = .ok (.bool false) w := fun _ => rfl
    go_enter Tryd.func41, Tryd.ntmps41
    have hA : Below w.heap.size w (w.alloc (.cells #[] 5)) := (Below.refl _ _).alloc (Nat.le_refl _) _
    have HA := Lib.hid hA
    have hsz := hA.size
    have hO : (w.alloc (.cells #[] 5)).ownsRow w.heap.size 5 1 (.slice (some ⟨w.heap.size, 0, none⟩) 0 0) 0 [] := own_new w [] 5 (Nat.le_refl _) (by unfold maxLen; simp)
    have HO := Lib.hid hO
    have HV1 := Lib.hid (HV.out.below hA)
    clear hA hO HV
    go_wp2_with (at_builtin; refine wpList_append_bytes rfl (.tmp 5) (.tmp 6) rfl w.heap.size _ 0 [] rfl HO.out _ B rfl HV1.out (by omega) hsz ?_; intro v' w1 hown hgr)
    go_ret
    exact ⟨v', rfl, by simpa using hown, HA.out.grown hgr hsz (own_lt HO.out)⟩

def openOk (B : List Nat) : Bool := endOk B && (endAt B == B.length) && bodyOk B
def OpenPost (B : List Nat) (w : World) (e : Ending) (w' : World) : Prop :=
  ∃ v', e = .returned (.tuple #[v', .bool (openOk B)]) ∧ Below w.heap.size w w' ∧ IsBytes w' v' (if openOk B then B.drop 12 else [])
theorem isBytes_nil' (w : World) {b : Bool} (h : b = false) (B : List Nat) : IsBytes w (.slice none 0 0) (if b then B else []) := by
  subst h; exact isBytes_nil w
end Go.Proofs.YtaffmfocjaihlaaDoor.S3

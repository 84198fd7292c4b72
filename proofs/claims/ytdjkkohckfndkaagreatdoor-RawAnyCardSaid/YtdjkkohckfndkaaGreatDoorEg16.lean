/- Texts put together: NumE. -/
import Derived.Test.YtdjkkohckfndkaaGreatDoorEg15
set_option linter.unusedSimpArgs false
set_option linter.unusedVariables false
set_option maxRecDepth 100000
namespace Go.Proofs.YtdjkkohckfndkaaGreatDoor.Pl
end Go.Proofs.YtdjkkohckfndkaaGreatDoor.Pl
namespace Go.Proofs.YtdjkkohckfndkaaGreatDoor.S2.Pl
end Go.Proofs.YtdjkkohckfndkaaGreatDoor.S2.Pl
namespace Go.Proofs.YtdjkkohckfndkaaGreatDoor.S2
open Go.RowKit _root_.Go.Proofs.YtdjkkohckfndkaaGreatDoor.Pl _root_.Go.Proofs.YtdjkkohckfndkaaGreatDoor.S2.Pl

attribute [local go_sem ↓] conv_eq
def TextPost (B : List Nat) (w : World) (e : Ending) (w' : World) : Prop := e = .returned (.tuple #[.string (str (vgetText B).1), .int .i64 ((vgetText B).2 : Nat)]) ∧ w = w'
theorem textPost_none {B : List Nat} {w : World} (h : (vget B).2 = 0 ∨ B.length - (vget B).2 < (vget B).1) : TextPost B w (.returned (.tuple #[.string { data := #[] }, .int .i64 0])) w := by
  unfold TextPost; rw [vgetText_none h]; exact ⟨rfl, rfl⟩
theorem textPost_some {B : List Nat} {w : World} {n k : Nat} {s : ByteArray} {j : Int} (h : ¬ ((vget B).2 = 0 ∨ B.length - (vget B).2 < (vget B).1)) (hn : n = (vget B).1) (hk : k = (vget B).2) (hs : s = str ((B.drop k).take n)) (hj : j = (k : Int) + n) :
    TextPost B w (.returned (.tuple #[.string s, .int .i64 j])) w := by
  unfold TextPost; rw [vgetText_some h, ← hn, ← hk, hs, hj]; exact ⟨by simp, rfl⟩

set_option maxHeartbeats 1000000 in
theorem getText_any (v : Value) (B : List Nat) (w : World) (hv : IsBytes w v B) : Calls Tryz.prog 122 #[v] w (TextPost B w) := by
  obtain ⟨a, cap, rfl, hcap, hmax⟩ := hv.slice
  have hle := vget_le B
  have HG := Lib.hid (vget_any _ B w hv)
  have HV := Lib.hid hv
  obtain ⟨n, hn⟩ : ∃ n, n = (vget B).1 := ⟨_, rfl⟩
  obtain ⟨k, hk⟩ : ∃ k, k = (vget B).2 := ⟨_, rfl⟩
  unfold VGetPost at HG
  rw [← hn, ← hk] at hle HG
  have HN := Lib.hid hn
  have HK := Lib.hid hk
  have hkl := hle.2.1
  have hnU := Lib.hid hle.1
  unfold maxLen at hmax
  clear hv hn hk hle
  by_cases h0 : k = 0
  · have hb : ((k : Int) == 0) = true := by simp; omega
    go_enter Tryz.func122, Tryz.ntmps122
    go_wp2_with (go_at_call 121; refine HG.out.mono ?_; rintro e w' ⟨rfl, rfl⟩)
    go_ret2
    exact textPost_none (.inl (by rw [← HK.out]; exact h0))
  · have hb : ((k : Int) == 0) = false := by simp; omega
    have hs0 : (0 : Int) ≤ (B.length : Int) - (k : Int) := by omega
    by_cases hfew : B.length - k < n
    · have hI : (B.length : Int) - (k : Int) < (n : Int) := by omega
      have hd : decide ((B.length : Int) - (k : Int) < (n : Int)) = true := by simpa using hI
      have HF := Lib.hid hfew
      clear hfew hI
      go_enter Tryz.func122, Tryz.ntmps122
      go_wp2_with (go_at_call 121; refine HG.out.mono ?_; rintro e w' ⟨rfl, rfl⟩)
      go_ret2
      exact textPost_none (.inr (by rw [← HK.out, ← HN.out]; exact HF.out))
    · have hd : decide ((B.length : Int) - (k : Int) < (n : Int)) = false := by simp; omega
      have hnl : (n : Int) ≤ 9223372036854775807 := by omega
      have h1 : (k : Int) + (n : Int) ≤ (cap : Int) := by omega
      have HF := Lib.hid hfew
      by_cases hck : cap = k
      · have hcv : (convS (.slice a 0 0)).run Tryz.prog w = .ok (.string (str ((B.drop k).take n))) w := by
          have e1 : n = 0 := by omega
          have e2 : B.length = cap := by omega
          have := HV.out
          rw [← e2] at this
          rw [e1, List.take_zero]
          exact run_conv this.none_left
        have HCK : ∀ X : Nat, cap - k = X → X = 0 := fun X h => by omega
        clear hfew HCK
        subst hck
        go_enter Tryz.func122, Tryz.ntmps122
        go_wp2_with (go_at_call 121; refine HG.out.mono ?_; rintro e w' ⟨rfl, rfl⟩)
        go_ret2
        exact textPost_some (by rw [← HK.out, ← HN.out]; have := HF.out; omega) HN.out HK.out rfl rfl
      · have hcv : (convS (.slice (a.map fun x => x.add k) n (cap - k))).run Tryz.prog w = .ok (.string (str ((B.drop k).take n))) w := run_conv (HV.out.sub k n (by omega))
        clear hfew
        go_enter Tryz.func122, Tryz.ntmps122
        go_wp2_with (go_at_call 121; refine HG.out.mono ?_; rintro e w' ⟨rfl, rfl⟩)
        go_ret2
        exact textPost_some (by rw [← HK.out, ← HN.out]; have := HF.out; omega) HN.out HK.out rfl rfl

set_option maxHeartbeats 1000000 in
theorem refGetText_any (v : Value) (B : List Nat) (w : World) (hv : IsBytes w v B) : Calls Tryz.prog 83 #[v] w (TextPost B w) := by
  obtain ⟨a, cap, rfl, hcap, hmax⟩ := hv.slice
  have hle := vget_le B
  have HG := Lib.hid (refGet_any _ B w hv)
  have HV := Lib.hid hv
  obtain ⟨n, hn⟩ : ∃ n, n = (vget B).1 := ⟨_, rfl⟩
  obtain ⟨k, hk⟩ : ∃ k, k = (vget B).2 := ⟨_, rfl⟩
  unfold VGetPost at HG
  rw [← hn, ← hk] at hle HG
  have HN := Lib.hid hn
  have HK := Lib.hid hk
  have hkl := hle.2.1
  have hnU := Lib.hid hle.1
  unfold maxLen at hmax
  clear hv hn hk hle
  by_cases h0 : k = 0
  · have hb : ((k : Int) == 0) = true := by simp; omega
    go_enter Tryz.func83, Tryz.ntmps83
    go_wp2_with (go_at_call 82; refine HG.out.mono ?_; rintro e w' ⟨rfl, rfl⟩)
    go_ret2
    exact textPost_none (.inl (by rw [← HK.out]; exact h0))
  · have hb : ((k : Int) == 0) = false := by simp; omega
    have hs0 : (0 : Int) ≤ (B.length : Int) - (k : Int) := by omega
    by_cases hfew : B.length - k < n
    · have hI : (B.length : Int) - (k : Int) < (n : Int) := by omega
      have hd : decide ((B.length : Int) - (k : Int) < (n : Int)) = true := by simpa using hI
      have HF := Lib.hid hfew
      clear hfew hI
      go_enter Tryz.func83, Tryz.ntmps83
      go_wp2_with (go_at_call 82; refine HG.out.mono ?_; rintro e w' ⟨rfl, rfl⟩)
      go_ret2
      exact textPost_none (.inr (by rw [← HK.out, ← HN.out]; exact HF.out))
    · have hd : decide ((B.length : Int) - (k : Int) < (n : Int)) = false := by simp; omega
      have hnl : (n : Int) ≤ 9223372036854775807 := by omega
      have h1 : (k : Int) + (n : Int) ≤ (cap : Int) := by omega
      have HF := Lib.hid hfew
      by_cases hck : cap = k
      · have hcv : (convS (.slice a 0 0)).run Tryz.prog w = .ok (.string (str ((B.drop k).take n))) w := by
          have e1 : n = 0 := by omega
          have e2 : B.length = cap := by omega
          have := HV.out
          rw [← e2] at this
          rw [e1, List.take_zero]
          exact run_conv this.none_left
        have HCK : ∀ X : Nat, cap - k = X → X = 0 := fun X h => by omega
        clear hfew HCK
        subst hck
        go_enter Tryz.func83, Tryz.ntmps83
        go_wp2_with (go_at_call 82; refine HG.out.mono ?_; rintro e w' ⟨rfl, rfl⟩)
        go_ret2
        exact textPost_some (by rw [← HK.out, ← HN.out]; have := HF.out; omega) HN.out HK.out rfl rfl
      · have hcv : (convS (.slice (a.map fun x => x.add k) n (cap - k))).run Tryz.prog w = .ok (.string (str ((B.drop k).take n))) w := run_conv (HV.out.sub k n (by omega))
        clear hfew
        go_enter Tryz.func83, Tryz.ntmps83
        go_wp2_with (go_at_call 82; refine HG.out.mono ?_; rintro e w' ⟨rfl, rfl⟩)
        go_ret2
        exact textPost_some (by rw [← HK.out, ← HN.out]; have := HF.out; omega) HN.out HK.out rfl rfl
end Go.Proofs.YtdjkkohckfndkaaGreatDoor.S2

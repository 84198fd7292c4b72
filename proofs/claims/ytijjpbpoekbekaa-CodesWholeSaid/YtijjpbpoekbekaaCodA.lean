/- slices.IndexFunc and slices.ContainsFunc of integers, over any test that leaves the world alone; codes.noLength: contracts. -/
import Derived.Test.YtijjpbpoekbekaaRefB
import Derived.Test.YtijjpbpoekbekaaCodP
set_option linter.unusedSimpArgs false
set_option linter.unusedVariables false
namespace Go.Proofs.Ytijjpbpoekbekaa
open Go.RowKit Pl
theorem intOf_int (x : Int) : intOf (.int .i64 x) = x := rfl
namespace Pl
theorem drop_cons {L : List Int} {i : Nat} (h : i < L.length) : L.drop i = L.getD i 0 :: L.drop (i + 1) := by
  rw [List.drop_eq_getElem_cons h]; simp [List.getD, h]
theorem any_step {L : List Int} {i : Nat} (p : Int → Bool) (h : i < L.length) (h0 : p (L.getD i 0) = false) : (L.drop i).any p = (L.drop (i + 1)).any p := by
  rw [drop_cons h, List.any_cons, h0, Bool.false_or]
theorem any_here {L : List Int} {i : Nat} (p : Int → Bool) (h : i < L.length) (h0 : p (L.getD i 0) = true) : (L.drop i).any p = true := by
  rw [drop_cons h, List.any_cons, h0, Bool.true_or]
def noLen (x : Int) : Bool := decide (x < 0 ∨ 15 < x)
theorem noLen_any (L : List Int) : L.any noLen = false ↔ inB L := by
  unfold inB noLen
  rw [List.any_eq_false]
  constructor
  · intro h x hx; have := h x hx; simp at this; omega
  · intro h x hx; have := h x hx; simp; omega
end Pl
set_option maxHeartbeats 1000000 in
theorem noLength_any (x : Int) (w : World) : Calls Try.prog 34 #[.int .i64 x] w fun e w' => e = .returned (.bool (noLen x)) ∧ w = w' := by
  unfold noLen
  by_cases h1 : x < 0
  · have e : decide (x < 0 ∨ 15 < x) = true := decide_eq_true (.inl h1)
    rw [e]
    go_enter Try.func34, Try.ntmps34
    go_wp2
    go_ret
    exact ⟨rfl, rfl⟩
  · by_cases h2 : 15 < x
    · have e : decide (x < 0 ∨ 15 < x) = true := decide_eq_true (.inr h2)
      rw [e]
      go_enter Try.func34, Try.ntmps34
      go_wp2
      go_ret
      exact ⟨rfl, rfl⟩
    · have e : decide (x < 0 ∨ 15 < x) = false := decide_eq_false (by omega)
      rw [e]
      go_enter Try.func34, Try.ntmps34
      go_wp2
      go_ret
      exact ⟨rfl, rfl⟩
set_option maxHeartbeats 4000000 in
theorem index_no (p : Int → Bool) (v : Value) (F : List Int) (w : World) (hv : IsInts w v F) (hF : F.length ≤ 17179869184)
    (hp : ∀ x ∈ F, Calls Try.prog 34 #[.int .i64 x] w fun e w' => e = .returned (.bool (p x)) ∧ w = w') :
    Calls Try.prog 35 #[v, .func (.func 34) #[] #[]] w fun e w' => (∃ r, e = .returned (.int .i64 r) ∧ (F.any p = true ↔ 0 ≤ r)) ∧ w = w' := by
  obtain ⟨a, cap, rfl, hcap, hmax⟩ := hv.slice
  have HV := Lib.hid hv
  have HP := Lib.hid hp
  clear hv hp
  go_enter Try.func35, Try.ntmps35
  go_wp2
  go_loopw [8] (fun y wr => ∃ (i : Nat), i ≤ F.length ∧ y = .int .i64 i ∧ (F.drop i).any p = F.any p ∧ wr = w) (fun y _ => F.length - (intOf y).toNat)
  case atStart => exact ⟨0, by omega, rfl, rfl, rfl⟩
  case round =>
    obtain ⟨i, hi, rfl, he, rfl⟩ := hrel
    have HE := Lib.hid he
    clear he
    by_cases hlt : i < F.length
    · obtain ⟨bb, off, cap', hs, _, _, _, hc⟩ := HV.out.cells (by omega)
      simp at hs
      obtain ⟨rfl, rfl⟩ := hs
      have c0 := hc i hlt
      have hm : F.getD i 0 ∈ F := by rw [List.getD_eq_getElem?_getD, List.getElem?_eq_getElem hlt]; exact List.getElem_mem hlt
      have hcl := HP.out _ hm
      have H1 := Lib.hid (@any_step F i p hlt)
      have H2 := Lib.hid (@any_here F i p hlt)
      clear hm
      generalize F.getD i 0 = x at *
      clear hc
      cases hx : p x with
      | false =>
        rw [hx] at hcl
        go_wp2_with fail
        refine hcl.mono ?_
        rintro e w' ⟨rfl, rfl⟩
        go_wp2
        refine ⟨⟨i + 1, by omega, by first | rfl | go_num, (H1.out hx).symm.trans HE.out, by first | trivial | rfl⟩, ?_⟩
        simp only [intOf_int]; omega
      | true =>
        rw [hx] at hcl
        go_wp2_with fail
        refine hcl.mono ?_
        rintro e w' ⟨rfl, rfl⟩
        go_wp2
        go_ret
        exact ⟨⟨_, rfl, by rw [← HE.out, H2.out hx]; exact ⟨fun _ => by omega, fun _ => rfl⟩⟩, rfl⟩
    · have e : F.drop i = [] := List.drop_eq_nil_of_le (by omega)
      rw [e] at HE
      clear e
      go_wp2
      go_ret
      exact ⟨⟨_, rfl, by rw [← HE.out]; exact ⟨fun h => by simp at h, fun h => by omega⟩⟩, rfl⟩
set_option maxHeartbeats 4000000 in
theorem contains_no (p : Int → Bool) (v : Value) (F : List Int) (w : World) (hv : IsInts w v F) (hF : F.length ≤ 17179869184)
    (hp : ∀ x ∈ F, Calls Try.prog 34 #[.int .i64 x] w fun e w' => e = .returned (.bool (p x)) ∧ w = w') :
    Calls Try.prog 31 #[v, .func (.func 34) #[] #[]] w fun e w' => e = .returned (.bool (F.any p)) ∧ w = w' := by
  have hc := index_no p v F w hv hF hp
  go_enter Try.func31, Try.ntmps31
  go_wp2_with fail
  refine hc.mono ?_
  rintro e w' ⟨⟨r, rfl, hr⟩, rfl⟩
  have H : Hid (decide (0 ≤ r) = F.any p) := Lib.hid (by cases h : F.any p <;> simp_all)
  clear hr hc
  go_wp2
  go_ret
  exact ⟨by rw [← H.out]; rfl, rfl⟩
set_option maxHeartbeats 4000000 in
theorem index_cl (b : Nat) (p : Int → Bool) (v : Value) (F : List Int) (w : World) (hv : IsInts w v F) (hF : F.length ≤ 17179869184)
    (hp : ∀ x ∈ F, Calls Try.prog 30 #[.int .i64 x, .pointer (some ⟨b, 0, none⟩)] w fun e w' => e = .returned (.bool (p x)) ∧ w = w') :
    Calls Try.prog 35 #[v, .func (.func 30) #[] #[.pointer (some ⟨b, 0, none⟩)]] w fun e w' => (∃ r, e = .returned (.int .i64 r) ∧ (F.any p = true ↔ 0 ≤ r)) ∧ w = w' := by
  obtain ⟨a, cap, rfl, hcap, hmax⟩ := hv.slice
  have HV := Lib.hid hv
  have HP := Lib.hid hp
  clear hv hp
  go_enter Try.func35, Try.ntmps35
  go_wp2
  go_loopw [8] (fun y wr => ∃ (i : Nat), i ≤ F.length ∧ y = .int .i64 i ∧ (F.drop i).any p = F.any p ∧ wr = w) (fun y _ => F.length - (intOf y).toNat)
  case atStart => exact ⟨0, by omega, rfl, rfl, rfl⟩
  case round =>
    obtain ⟨i, hi, rfl, he, rfl⟩ := hrel
    have HE := Lib.hid he
    clear he
    by_cases hlt : i < F.length
    · obtain ⟨bb, off, cap', hs, _, _, _, hc⟩ := HV.out.cells (by omega)
      simp at hs
      obtain ⟨rfl, rfl⟩ := hs
      have c0 := hc i hlt
      have hm : F.getD i 0 ∈ F := by rw [List.getD_eq_getElem?_getD, List.getElem?_eq_getElem hlt]; exact List.getElem_mem hlt
      have hcl := HP.out _ hm
      have H1 := Lib.hid (@any_step F i p hlt)
      have H2 := Lib.hid (@any_here F i p hlt)
      clear hm
      generalize F.getD i 0 = x at *
      clear hc
      cases hx : p x with
      | false =>
        rw [hx] at hcl
        go_wp2_with fail
        refine hcl.mono ?_
        rintro e w' ⟨rfl, rfl⟩
        go_wp2
        refine ⟨⟨i + 1, by omega, by first | rfl | go_num, (H1.out hx).symm.trans HE.out, by first | trivial | rfl⟩, ?_⟩
        simp only [intOf_int]; omega
      | true =>
        rw [hx] at hcl
        go_wp2_with fail
        refine hcl.mono ?_
        rintro e w' ⟨rfl, rfl⟩
        go_wp2
        go_ret
        exact ⟨⟨_, rfl, by rw [← HE.out, H2.out hx]; exact ⟨fun _ => by omega, fun _ => rfl⟩⟩, rfl⟩
    · have e : F.drop i = [] := List.drop_eq_nil_of_le (by omega)
      rw [e] at HE
      clear e
      go_wp2
      go_ret
      exact ⟨⟨_, rfl, by rw [← HE.out]; exact ⟨fun h => by simp at h, fun h => by omega⟩⟩, rfl⟩
set_option maxHeartbeats 4000000 in
theorem contains_cl (b : Nat) (p : Int → Bool) (v : Value) (F : List Int) (w : World) (hv : IsInts w v F) (hF : F.length ≤ 17179869184)
    (hp : ∀ x ∈ F, Calls Try.prog 30 #[.int .i64 x, .pointer (some ⟨b, 0, none⟩)] w fun e w' => e = .returned (.bool (p x)) ∧ w = w') :
    Calls Try.prog 31 #[v, .func (.func 30) #[] #[.pointer (some ⟨b, 0, none⟩)]] w fun e w' => e = .returned (.bool (F.any p)) ∧ w = w' := by
  have hc := index_cl b p v F w hv hF hp
  go_enter Try.func31, Try.ntmps31
  go_wp2_with fail
  refine hc.mono ?_
  rintro e w' ⟨⟨r, rfl, hr⟩, rfl⟩
  have H : Hid (decide (0 ≤ r) = F.any p) := Lib.hid (by cases h : F.any p <;> simp_all)
  clear hr hc
  go_wp2
  go_ret
  exact ⟨by rw [← H.out]; rfl, rfl⟩
set_option maxHeartbeats 1000000 in
theorem badLens_any (v : Value) (F : List Int) (w : World) (hv : IsInts w v F) (hF : F.length ≤ 17179869184) :
    Calls Try.prog 31 #[v, .func (.func 34) #[] #[]] w fun e w' => e = .returned (.bool (F.any noLen)) ∧ w = w' :=
  contains_no noLen v F w hv hF fun x _ => noLength_any x w
end Go.Proofs.Ytijjpbpoekbekaa

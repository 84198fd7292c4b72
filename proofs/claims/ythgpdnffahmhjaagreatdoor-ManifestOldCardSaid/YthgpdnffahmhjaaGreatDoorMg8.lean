/- Texts put together: CrcB, CrcC. -/
import Derived.Test.YthgpdnffahmhjaaGreatDoorMg2
import Derived.Test.YthgpdnffahmhjaaGreatDoorMg7
import Derived.OwnWalk
import Derived.Deep.QuietTactic
set_option linter.unusedSimpArgs false
set_option linter.unusedVariables false
set_option maxRecDepth 100000
namespace Go.Proofs.YthgpdnffahmhjaaGreatDoor.Pl
end Go.Proofs.YthgpdnffahmhjaaGreatDoor.Pl
namespace Go.Proofs.YthgpdnffahmhjaaGreatDoor.S3.Pl
end Go.Proofs.YthgpdnffahmhjaaGreatDoor.S3.Pl
namespace Go.Proofs.YthgpdnffahmhjaaGreatDoor.S3
open Go.RowKit _root_.Go.Proofs.YthgpdnffahmhjaaGreatDoor.Pl _root_.Go.Proofs.YthgpdnffahmhjaaGreatDoor.S3.Pl

namespace Pl
def phead (B : List Nat) : List Nat := four B.length ++ four (csum (four B.length)) ++ four (csum B)
def pseal (B : List Nat) : List Nat := four B.length ++ four (csum (four B.length)) ++ four (csum B) ++ B
theorem pseal_length (B : List Nat) : (pseal B).length = 12 + B.length := by simp [pseal, four]; omega
theorem pseal_lt {B : List Nat} (h : ∀ x ∈ B, x < 256) : ∀ x ∈ pseal B, x < 256 := by
  intro x hx
  simp only [pseal, List.mem_append] at hx
  rcases hx with ((hx | hx) | hx) | hx
  · exact four_lt _ x hx
  · exact four_lt _ x hx
  · exact four_lt _ x hx
  · exact h x hx
end Pl
theorem four_nat (n : Int) (m : Nat) (w : World) (hn : n = m) : Calls Tryz.prog 78 #[.int .u32 n] w (MadeS (four m) w) := by
  subst hn
  exact (four_any _ w (by omega)).mono fun e w' h => h.s
theorem made_seal {w w1 w7 w8 : World} {B : List Nat} {v7 v8 : Value} (h1 : Below w.heap.size w w1) (h7 : Below w1.heap.size w1 w7) (ho7 : w7.ownsRow w1.heap.size 5 1 v7 12 (u8s (phead B)))
    (ho8 : w8.ownsRow w1.heap.size 5 1 v8 (12 + B.length) (u8s (phead B) ++ u8s B)) (hgr : w7.grownBy w8 v7.ownBlock) : MadePost (pseal B) w (.returned v8) w8 := by
  have h8 := h7.grown hgr h7.size (own_lt ho7)
  refine ⟨v8, rfl, ?_, h1.trans (h8.mono h1.size)⟩
  rw [pseal_length, show pseal B = phead B ++ B from rfl, u8s_append]
  exact own_base ho8 h1.size

set_option maxHeartbeats 1000000 in
theorem seal_any (v : Value) (B : List Nat) (w : World) (hT : Tab w) (hv : IsBytes w v B) (hl : B.length < 4294967296) : Calls Tryz.prog 42 #[v] w (MadePost (pseal B) w) := by
  obtain ⟨a, cap, rfl, hcap, hmax⟩ := hv.slice
  unfold maxLen at hmax
  have HV := Lib.hid hv
  have HT := Lib.hid hT
  clear hv hT
  obtain ⟨i0, hi, hz0, hz1, hz2⟩ := info_parts info5
  have Hi := Lib.hid hi
  have Hz0 := Lib.hid hz0
  have Hz1 := Lib.hid hz1
  have Hz2 := Lib.hid hz2
  clear hi hz0 hz1 hz2
  go_enter Tryz.func42, Tryz.ntmps42
  go_wp2_with fail
  refine (four_nat _ B.length _ (by omega)).mono ?_
  rintro e w1 ⟨sp1, cap1, rfl, ho1, hb1⟩
  rw [four_length] at ho1 ⊢
  have HI1 : Hid (IsBytes w1 (.slice sp1 4 cap1) (four B.length)) := Lib.hid (isBytes_own (four_lt _) ho1)
  have HV1 := Lib.hid (HV.out.below hb1)
  have HT1 := Lib.hid (HT.out.below hb1)
  have HB1 := Lib.hid hb1
  clear ho1 hb1 HV HT
  go_wp2_with (first | (at_make; refine wpList_make_own _ rfl _ _ 36 rfl w1.heap.size 5 i0 (.int .u8 0) 1 Tryz.underlying36 Hi.out Hz0.out Hz1.out .i64 .i64 _ (12 + B.length) rfl rfl (by omega) (by rw [Hz2.out]; omega) (by unfold maxLen; omega) (Nat.le_refl _) ?_; intro w2 hown hgr; have HO2 := Lib.hid hown; have HB2 : Hid (Below w1.heap.size w1 w2) := Lib.hid ((Below.refl _ _).grown hgr (Nat.le_refl _) (by simp)); have hsz2 := HB2.out.size; clear hown hgr) | (at_builtin; refine wpList_append_bytes rfl (.tmp 13) (.tmp 14) rfl w1.heap.size _ 0 [] rfl HO2.out _ (four B.length) rfl (HI1.out.below HB2.out) (by rw [four_length]; omega) hsz2 ?_; intro v3 w3 hown hgr; have HO3 : Hid (w3.ownsRow w1.heap.size 5 1 v3 4 (u8s (four B.length))) := Lib.hid hown; have HB3 := Lib.hid (HB2.out.grown hgr hsz2 (own_lt HO2.out)); have hsz3 := HB3.out.size; clear hown hgr HB2 HO2; obtain ⟨sp3, cap3, rfl, _, _⟩ := ownsRow_slice HO3.out))
  refine (sum_any _ (four B.length) _ (HT1.out.below HB3.out) (HI1.out.below HB3.out)).mono ?_
  rintro e w4 ⟨rfl, rfl⟩
  go_wp2_with fail
  refine (four_nat _ (csum (four B.length)) _ rfl).mono ?_
  rintro e w4 ⟨sp4, cap4, rfl, ho4, hb4⟩
  rw [four_length] at ho4 ⊢
  have HI4 : Hid (IsBytes w4 (.slice sp4 4 cap4) (four (csum (four B.length)))) := Lib.hid (isBytes_own (four_lt _) ho4)
  have HO4 := Lib.hid (own_below HO3.out hb4)
  have HB4 := Lib.hid (HB3.out.trans (hb4.mono hsz3))
  have hsz4 := HB4.out.size
  clear ho4 hb4 HO3 HB3
  go_wp2_with (at_builtin; refine wpList_append_bytes rfl (.tmp 16) (.tmp 19) rfl w1.heap.size _ 4 _ rfl HO4.out _ (four (csum (four B.length))) rfl HI4.out (by rw [four_length]; omega) hsz4 ?_; intro v5 w5 hown hgr; have HO5 : Hid (w5.ownsRow w1.heap.size 5 1 v5 8 (u8s (four B.length ++ four (csum (four B.length))))) := Lib.hid (by rw [u8s_append]; exact hown); have HB5 := Lib.hid (HB4.out.grown hgr hsz4 (own_lt HO4.out)); have hsz5 := HB5.out.size; clear hown hgr HB4 HO4 HI4; obtain ⟨sp5, cap5, rfl, _, _⟩ := ownsRow_slice HO5.out)
  refine (sum_any _ B _ (HT1.out.below HB5.out) (HV1.out.below HB5.out)).mono ?_
  rintro e w6 ⟨rfl, rfl⟩
  go_wp2_with fail
  refine (four_nat _ (csum B) _ rfl).mono ?_
  rintro e w6 ⟨sp6, cap6, rfl, ho6, hb6⟩
  rw [four_length] at ho6 ⊢
  have HI6 : Hid (IsBytes w6 (.slice sp6 4 cap6) (four (csum B))) := Lib.hid (isBytes_own (four_lt _) ho6)
  have HO6 := Lib.hid (own_below HO5.out hb6)
  have HB6 := Lib.hid (HB5.out.trans (hb6.mono hsz5))
  have hsz6 := HB6.out.size
  clear ho6 hb6 HO5 HB5
  go_wp2_with (first | (at_builtin; refine wpList_append_bytes rfl (.tmp 21) (.tmp 24) rfl w1.heap.size _ 8 _ rfl HO6.out _ (four (csum B)) rfl HI6.out (by rw [four_length]; omega) hsz6 ?_; intro v7 w7 hown hgr; have HO7 : Hid (w7.ownsRow w1.heap.size 5 1 v7 12 (u8s (phead B))) := Lib.hid (by unfold phead; rw [u8s_append]; exact hown); have HB7 := Lib.hid (HB6.out.grown hgr hsz6 (own_lt HO6.out)); have hsz7 := HB7.out.size; clear hown hgr HB6 HO6 HI6; obtain ⟨sp7, cap7, rfl, _, _⟩ := ownsRow_slice HO7.out) | (at_builtin; refine wpList_append_bytes rfl (.tmp 26) (.tmp 27) rfl w1.heap.size _ 12 _ rfl HO7.out _ B rfl (HV1.out.below HB7.out) (by omega) hsz7 ?_; intro v8 w8 hown hgr))
  go_ret
  exact made_seal HB1.out HB7.out HO7.out hown hgr

end Go.Proofs.YthgpdnffahmhjaaGreatDoor.S3
namespace Go.Proofs.YthgpdnffahmhjaaGreatDoor.Pl
end Go.Proofs.YthgpdnffahmhjaaGreatDoor.Pl
namespace Go.Proofs.YthgpdnffahmhjaaGreatDoor.S3.Pl
end Go.Proofs.YthgpdnffahmhjaaGreatDoor.S3.Pl
namespace Go.Proofs.YthgpdnffahmhjaaGreatDoor.S3
open Go.RowKit _root_.Go.Proofs.YthgpdnffahmhjaaGreatDoor.Pl _root_.Go.Proofs.YthgpdnffahmhjaaGreatDoor.S3.Pl

namespace Pl
def endOk (B : List Nat) : Bool := decide (12 ≤ B.length) && (getFour (B.drop 4) == csum (B.take 4))
def endAt (B : List Nat) : Nat := if endOk B then 12 + getFour B else 0
def bodyOk (B : List Nat) : Bool := getFour (B.drop 8) == csum (B.drop 12)
end Pl
theorem _root_.Go.Proofs.YthgpdnffahmhjaaGreatDoor.IsBytes.drew {w : World} {v : Value} {B : List Nat} (h : IsBytes w v B) (n : Nat) : IsBytes (w.drewN n) v B := h
theorem Tab.drew {w : World} (h : Tab w) (n : Nat) : Tab (w.drewN n) := h
theorem sum_quiet (v : Value) (B : List Nat) (w : World) (n : Nat) (hT : Tab w) (hv : IsBytes w v B) : Calls Tryz.prog 79 #[v] (w.drewN n) fun e w'' => e = .returned (.int .u32 (csum B : Nat)) ∧ ∃ m, w'' = w.drewN m :=
  Calls.quiet_of_same ((sum_any v B (w.drewN n) hT hv).mono fun _ _ h => ⟨h.1, h.2.symm⟩)
theorem getFour_quiet (v : Value) (B : List Nat) (w : World) (n : Nat) (hv : IsBytes w v B) : Calls Tryz.prog 114 #[v] (w.drewN n) fun e w'' => e = .returned (.int .u32 (getFour B : Nat)) ∧ ∃ m, w'' = w.drewN m :=
  Calls.quiet_of ((getFour_any v B (w.drewN n) hv).mono fun _ _ h => ⟨h.1, by obtain ⟨k, hk⟩ := h.2; exact ⟨k, hk.symm⟩⟩)

attribute [local go_sem ↓] sliceU8_eq
def EndPost (B : List Nat) (w : World) (e : Ending) (w' : World) : Prop := e = .returned (.tuple #[.int .i64 (endAt B : Nat), .bool (endOk B)]) ∧ ∃ m, w' = w.drewN m
set_option maxHeartbeats 1000000 in
theorem sealEnd_any (v : Value) (B : List Nat) (w : World) (hT : Tab w) (hv : IsBytes w v B) : Calls Tryz.prog 86 #[v] w (EndPost B w) := by
  obtain ⟨a, cap, rfl, hcap, hmax⟩ := hv.slice
  unfold maxLen at hmax
  by_cases h12 : 12 ≤ B.length
  · obtain ⟨a4, c4, hs4, hI4⟩ := run_from hv 4 (by omega)
    obtain ⟨a5, c5, hs5, hI5⟩ := run_upto hv 4 (by omega)
    have hs4' : ∀ W, (sliceU8 (.slice a B.length cap) (some (.int .i64 4)) none none).run Tryz.prog W = .ok (.slice a4 (B.length - 4) c4) W := hs4
    have hs5' : ∀ W, (sliceU8 (.slice a B.length cap) none (some (.int .i64 4)) none).run Tryz.prog W = .ok (.slice a5 4 c5) W := hs5
    have HV := Lib.hid hv
    have HT := Lib.hid hT
    have HI4 := Lib.hid hI4
    have HI5 := Lib.hid hI5
    have hlt : decide ((B.length : Int) < 12) = false := by simp; omega
    by_cases hE : getFour (B.drop 4) = csum (B.take 4)
    · have ho : endOk B = true := by unfold endOk; rw [hE]; simp [h12]
      have he : endAt B = 12 + getFour B := by unfold endAt; rw [if_pos ho]
      have hg := getFour_lt hv.1
      have hne : (((getFour (B.drop 4) : Nat) : Int) != ((csum (B.take 4) : Nat) : Int)) = false := by rw [hE]; simp
      have HO := Lib.hid ho
      have HE := Lib.hid he
      clear hv hT hI4 hI5 hs4 hs5 hE ho he
      go_enter Tryz.func86, Tryz.ntmps86
      go_wp2_with fail
      go_quiet (first | (go_at_call 114; refine getFour_quiet _ _ _ _ HI4.out) | (go_at_call 79; refine sum_quiet _ _ _ _ HT.out HI5.out))
      go_wp2_with fail
      refine (getFour_quiet _ _ _ _ HV.out).mono ?_
      rintro e w2 ⟨rfl, m, rfl⟩
      go_wp2_with fail
      go_ret2
      exact ⟨by rw [HO.out, HE.out]; simp, m, rfl⟩
    · have ho : endOk B = false := by unfold endOk; simp [hE]
      have he : endAt B = 0 := by unfold endAt; rw [ho]; simp
      have hne : (((getFour (B.drop 4) : Nat) : Int) != ((csum (B.take 4) : Nat) : Int)) = true := by simp; omega
      have HO := Lib.hid ho
      have HE := Lib.hid he
      clear hv hT hI4 hI5 hs4 hs5 hE ho he
      go_enter Tryz.func86, Tryz.ntmps86
      go_wp2_with fail
      go_quiet (first | (go_at_call 114; refine getFour_quiet _ _ _ _ HI4.out) | (go_at_call 79; refine sum_quiet _ _ _ _ HT.out HI5.out))
      go_wp2_with fail
      go_ret2
      exact ⟨by rw [HO.out, HE.out]; rfl, nq, rfl⟩
  · have ho : endOk B = false := by unfold endOk; simp [h12]
    have he : endAt B = 0 := by unfold endAt; rw [ho]; simp
    have hlt : decide ((B.length : Int) < 12) = true := by simp; omega
    have HO := Lib.hid ho
    have HE := Lib.hid he
    clear hv hT ho he
    go_enter Tryz.func86, Tryz.ntmps86
    go_wp2_with fail
    go_quiet (fail)
    go_wp2_with fail
    go_ret2
    exact ⟨by rw [HO.out, HE.out]; rfl, nq, rfl⟩

theorem eq_nat (a b : Nat) : (((a : Nat) : Int) == ((b : Nat) : Int)) = (a == b) := by
  rw [Bool.eq_iff_iff]
  simp
  omega
def HoldsPost (B : List Nat) (w : World) (e : Ending) (w' : World) : Prop := e = .returned (.bool (bodyOk B)) ∧ ∃ m, w' = w.drewN m
theorem bodyHolds_any (v : Value) (B : List Nat) (w : World) (hT : Tab w) (hv : IsBytes w v B) (h12 : 12 ≤ B.length) : Calls Tryz.prog 87 #[v] w (HoldsPost B w) := by
  obtain ⟨a, cap, rfl, hcap, hmax⟩ := hv.slice
  unfold maxLen at hmax
  obtain ⟨a4, c4, hs4, hI4⟩ := run_from hv 8 (by omega)
  obtain ⟨a5, c5, hs5, hI5⟩ := run_from hv 12 (by omega)
  have hs4' : ∀ W, (sliceU8 (.slice a B.length cap) (some (.int .i64 8)) none none).run Tryz.prog W = .ok (.slice a4 (B.length - 8) c4) W := hs4
  have hs5' : ∀ W, (sliceU8 (.slice a B.length cap) (some (.int .i64 12)) none none).run Tryz.prog W = .ok (.slice a5 (B.length - 12) c5) W := hs5
  have HT := Lib.hid hT
  have HI4 := Lib.hid hI4
  have HI5 := Lib.hid hI5
  clear hv hT hI4 hI5 hs4 hs5
  go_enter Tryz.func87, Tryz.ntmps87
  go_wp2_with fail
  go_quiet (first | (go_at_call 114; refine getFour_quiet _ _ _ _ HI4.out) | (go_at_call 79; refine sum_quiet _ _ _ _ HT.out HI5.out))
  go_wp2_with fail
  go_ret
  exact ⟨congrArg (fun b => Ending.returned (.bool b)) (eq_nat _ _), nq, rfl⟩

set_option maxHeartbeats 1000000 in
theorem clone_any (v : Value) (B : List Nat) (w : World) (hv : IsBytes w v B) (hl : B.length ≤ 4294967296) : Calls Tryz.prog 58 #[v] w (MadePost B w) := by
  obtain ⟨a, cap, rfl, hcap, hmax⟩ := hv.slice
  unfold maxLen at hmax
  have HV := Lib.hid hv
  cases a with
  | none =>
    have hB : B = [] := by
      obtain ⟨_, ⟨_, hB⟩ | ⟨x, c, he, _⟩⟩ := hv
      · exact hB
      · simp at he
    subst hB
    have hc : cap = 0 := by
      obtain ⟨_, ⟨he, _⟩ | ⟨x, c, he, _⟩⟩ := hv
      · simpa using he
      · simp at he
    subst hc
    clear hv HV
    have he : ∀ w : World, (binOp .eql 36 (.slice none 0 0) (.slice none 0 0)).run Tryz.prog w = .ok (.bool true) w := fun _ => rfl
    go_enter Tryz.func58, Tryz.ntmps58
    go_wp2_with fail
    go_ret
    exact ⟨_, rfl, own_nil _ _, Below.refl _ _⟩
  | some x =>
    clear hv
    have he : ∀ w : World, (binOp .eql 36 (.slice (some x) B.length cap) (.slice none 0 0)).run Tryz.prog w = .ok (.bool false) w := fun _ => rfl
    go_enter Tryz.func58, Tryz.ntmps58
    have hA : Below w.heap.size w (w.alloc (.cells #[] 5)) := (Below.refl _ _).alloc (Nat.le_refl _) _
    have HA := Lib.hid hA
    have hsz := hA.size
    have hO : (w.alloc (.cells #[] 5)).ownsRow w.heap.size 5 1 (.slice (some ⟨w.heap.size, 0, none⟩) 0 0) 0 [] := own_new w [] 5 (Nat.le_refl _) (by unfold maxLen; simp)
    have HO := Lib.hid hO
    have HV1 := Lib.hid (HV.out.below hA)
    clear hA hO HV
    go_wp2_with (at_builtin; refine wpList_append_bytes rfl (.tmp 5) (.tmp 6) rfl w.heap.size _ 0 [] rfl HO.out _ B rfl HV1.out (by omega) hsz ?_; intro v' w1 hown hgr)
    go_ret
    exact ⟨v', rfl, by simpa using hown, HA.out.grown hgr hsz (own_lt HO.out)⟩

end Go.Proofs.YthgpdnffahmhjaaGreatDoor.S3

/- FrontTail, walked. -/
import Derived.Test.YthfdclclecjdaaaMtfH
import Derived.Test.YthfdclclecjdaaaSlice
import Derived.IntWalk
set_option linter.unusedSimpArgs false
set_option linter.unusedVariables false
namespace Go.Proofs.Ythfdclclecjdaaa
open Go.RowKit Pl
/-- a text, cut at n where it is longer -/
theorem run_cut {w : World} {a : Option Addr} {len cap : Nat} {B : List Nat} (hv : IsBytes w (.slice a len cap) B) (hl : B.length = len) (n : Nat) (N : Int) (hN : N = n) (h : n < len) :
    ∃ a1 c1, (∀ W, (sliceU8 (.slice a len cap) none (some (.int .i64 N)) none).run Try.prog W = .ok (.slice a1 (B.take n).length c1) W) ∧ IsBytes w (.slice a1 (B.take n).length c1) (B.take n) ∧ (B.take n).length ≤ n := by
  subst hN hl
  have e : (B.take n).length = n := by rw [List.length_take]; omega
  rw [e]
  obtain ⟨a1, c1, h1, h2⟩ := run_upto hv n (by omega)
  exact ⟨a1, c1, h1, h2, Nat.le_refl _⟩
theorem short_of {w : World} {a : Option Addr} {len cap : Nat} {B : List Nat} (hv : IsBytes w (.slice a len cap) B) (hl : B.length = len) :
    ∃ A a1 c1, IsBytes w (.slice a1 A.length c1) A ∧ A.length ≤ 100 ∧ ((100 < len ∧ ∀ W, (sliceU8 (.slice a len cap) none (some (.int .i64 100)) none).run Try.prog W = .ok (.slice a1 A.length c1) W) ∨ (a = a1 ∧ len = A.length ∧ cap = c1)) := by
  by_cases h : 100 < len
  · obtain ⟨a1, c1, h1, h2, h3⟩ := run_cut hv hl 100 100 rfl h
    exact ⟨_, a1, c1, h2, h3, .inl ⟨h, h1⟩⟩
  · subst hl
    exact ⟨B, a, cap, hv, by omega, .inr ⟨rfl, rfl, rfl⟩⟩
attribute [local go_sem ↓] sliceU8_eq conv_eq
set_option maxHeartbeats 8000000 in
theorem frontTail_walk (a : Option Addr) (len cap : Nat) (z : List Int) (a' : Option Addr) (len' cap' : Nat) (z' : List Int) (w : World) (hr : IsRow .u8 w a len cap z) (hr' : IsRow .u8 w a' len' cap' z') :
    Calls Try.prog 6 #[.slice a len cap, .slice a' len' cap'] w fun e w' => e = .returned (.bool true) ∧ Below w.heap.size w w' := by
  have hm1 := hr.len_le
  have hm2 := hr'.len_le
  unfold maxLen at hm1 hm2
  obtain ⟨hV, hlen⟩ := isBytes_row hr
  obtain ⟨hV', hlen'⟩ := isBytes_row hr'
  clear hr hr'
  obtain ⟨A, a1, c1, hI, hlA, hca⟩ := short_of hV hlen
  obtain ⟨B, a2, c2, hJ, hlB, hcb⟩ := short_of hV' hlen'
  have HI := Lib.hid hI
  have HJ := Lib.hid hJ
  clear hI hJ hV hV' hlen hlen'
  rcases hca with ⟨hla, hs1⟩ | ⟨rfl, rfl, rfl⟩ <;> rcases hcb with ⟨hlb, hs2⟩ | ⟨rfl, rfl, rfl⟩
  all_goals
    go_enter Try.func6, Try.ntmps6
    go_wp2_with fail
    refine (begun_any _).mono ?_
    rintro e w1 ⟨rfl, hb1⟩
    have HI1 := Lib.hid (HI.out.below hb1)
    have HJ1 := Lib.hid (HJ.out.below hb1)
    have HB1 := Lib.hid hb1
    clear hb1 HI HJ
    go_wp2_with fail
    refine (encode_s (n := A.length) HI1.out (by omega) rfl).mono ?_
    rintro e w3 ⟨sp3, cp3, rfl, hi3, hb3⟩
    have HI3 := Lib.hid (HI1.out.below hb3)
    have HJ3 := Lib.hid (HJ1.out.below hb3)
    have HE3 := Lib.hid hi3
    have HB3 := Lib.hid (HB1.out.trans (hb3.mono HB1.out.size))
    clear hi3 hb3 HI1 HJ1 HB1
    (try clear hs1)
    (try clear hs2)
    go_wp2_with (first
      | (at_builtin; refine wpList_append_bytes rfl _ (.tmp 23) rfl w3.heap.size (.slice none 0 0) 0 [] rfl (own_nil _ _) _ A rfl HI3.out (by omega) (Nat.le_refl _) ?_; intro v4 w4 hown hgr; rw [Nat.zero_add, List.nil_append] at hown; have HO4 := Lib.hid hown; have HB4 : Hid (Below w3.heap.size w3 w4) := Lib.hid ⟨hgr.os, hgr.tape, hgr.output, hgr.size, fun k hk => hgr.block k hk (by simp [Value.ownBlock])⟩; have hsz4 := HB4.out.size; obtain ⟨sp4, cp4, rfl, _, _⟩ := ownsRow_slice hown; clear hown hgr)
      | (at_builtin; refine wpList_append_bytes rfl (.tmp 24) (.tmp 25) rfl w3.heap.size _ A.length _ rfl HO4.out _ B rfl (HJ3.out.below HB4.out) (by omega) hsz4 ?_; intro v5 w5 hown hgr; rw [← u8s_append] at hown; have HO5 := Lib.hid hown; have HB5 := Lib.hid (HB4.out.grown hgr hsz4 (own_lt HO4.out)); obtain ⟨sp5, cp5, rfl, _, _⟩ := ownsRow_slice hown; clear hown hgr))
    have h5 : w5.ownsRow w3.heap.size 5 1 (.slice sp5 (A ++ B).length cp5) (A ++ B).length (u8s (A ++ B)) := by rw [List.length_append]; exact HO5.out
    have hAB : ∀ x ∈ A ++ B, x < 256 := fun x hx => by
      rcases List.mem_append.1 hx with h | h
      · exact HI3.out.1 x h
      · exact HJ3.out.1 x h
    have HI5 : Hid (IsBytes w5 (.slice sp5 (A.length + B.length) cp5) (A ++ B)) := Lib.hid (isBytes_ownS hAB (by rw [List.length_append]) h5)
    have HP5 := Lib.hid (HE3.out.below HB5.out)
    have HB6 := Lib.hid (HB3.out.trans (HB5.out.mono HB3.out.size))
    clear h5 hAB HO5 HO4 HI3 HJ3 HE3 HB4 HB5 HB3
    refine (encode_s (n := A.length + B.length) HI5.out (by rw [List.length_append]; omega) (by rw [List.length_append])).mono ?_
    rintro e w7 ⟨sp7, cp7, rfl, hi7, hb7⟩
    have hP := HP5.out.below hb7
    have hel : (enc (A ++ B)).length = A.length + B.length := by rw [enc_length, List.length_append]
    have HB7 := Lib.hid (HB6.out.trans (hb7.mono HB6.out.size))
    obtain ⟨a8, c8, hs8, hI8⟩ := run_upto hi7 A.length (by rw [hel]; omega)
    rw [enc_take] at hI8
    have k1 := fun n => run_conv (hI8.below (bel_drewN (Below.refl _ w7) n))
    have k2 := fun n => run_conv (hP.below (bel_drewN (Below.refl _ w7) n))
    have e1 : IntKind.i64.wrap ((A.length : Int) + (B.length : Int)) = (A.length : Int) + (B.length : Int) := IntWalk.i64_in _ (by omega)
    have e2 : (((A.length : Int) + (B.length : Int)) == ((A.length : Int) + (B.length : Int))) = true := beq_t rfl
    have e3 : ((str (enc A)).toList == (str (enc A)).toList) = true := by simp
    clear hel hi7 hb7 hI8 hP HB6 HP5 HI5 hlA hlB
    go_wp2_with fail
    go_quiet (fail)
    go_wp2_with fail
    go_ret
    exact ⟨rfl, bel_drewN HB7.out nq⟩
end Go.Proofs.Ythfdclclecjdaaa

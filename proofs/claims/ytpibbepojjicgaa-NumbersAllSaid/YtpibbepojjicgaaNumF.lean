/- The law's own opening, and Cut and Short: contracts. -/
import Derived.Test.YtpibbepojjicgaaNumE
namespace Go.Proofs.Ytpibbepojjicgaa
open Go.RowKit Pl

theorem MadePost.own {B : List Nat} {w w' : World} {v : Value} (h : MadePost B w (.returned v) w') : w'.ownsRow w.heap.size 5 1 v B.length (u8s B) ∧ Below w.heap.size w w' := by
  obtain ⟨v', he, h1, h2⟩ := h
  cases he
  exact ⟨h1, h2⟩
/-- MadePost, with the slice laid open -/
def MadeS (B : List Nat) (w : World) (e : Ending) (w' : World) : Prop :=
  ∃ sp cap, e = .returned (.slice sp B.length cap) ∧ w'.ownsRow w.heap.size 5 1 (.slice sp B.length cap) B.length (u8s B) ∧ Below w.heap.size w w'
theorem MadePost.s {B : List Nat} {w w' : World} {e : Ending} (h : MadePost B w e w') : MadeS B w e w' := by
  obtain ⟨v', rfl, h1, h2⟩ := h
  obtain ⟨sp, cap, rfl, _, _⟩ := ownsRow_slice h1
  exact ⟨sp, cap, rfl, h1, h2⟩

def ShortPost (B : List Nat) (n : Nat) (w : World) (e : Ending) (w' : World) : Prop := ∃ v', e = .returned v' ∧ IsBytes w v' (B.take n) ∧ w = w'
theorem short_any (v : Value) (B : List Nat) (n : Nat) (w : World) (hv : IsBytes w v B) (hn : n ≤ 4294967296) :
    Calls Try.prog 18 #[v, .int .i64 n] w (ShortPost B n w) := by
  obtain ⟨a, cap, rfl, hcap, hmax⟩ := hv.slice
  unfold maxLen at hmax
  have HV := Lib.hid hv
  clear hv
  by_cases h : n < B.length
  · have h1 : (n : Int) ≤ (cap : Int) := by omega
    go_enter Try.func18, Try.ntmps18
    go_wp2
    go_ret
    exact ⟨_, rfl, HV.out.take n (by omega), rfl⟩
  · go_enter Try.func18, Try.ntmps18
    go_wp2
    go_ret
    exact ⟨_, rfl, by rw [List.take_of_length_le (by omega)]; exact HV.out, rfl⟩

/-- the first n bytes of a string -/
def cutS (s : ByteArray) (n : Nat) : ByteArray := if n < s.size then s.extract 0 n else s
theorem cutS_size (s : ByteArray) (n : Nat) : (cutS s n).size ≤ n := by
  unfold cutS
  split
  · simp
    omega
  · omega
def CutPost (s : ByteArray) (n : Nat) (w : World) (e : Ending) (w' : World) : Prop := e = .returned (.string (cutS s n)) ∧ w = w'
theorem cut_any (s : ByteArray) (n : Nat) (w : World) (hs : s.size ≤ maxLen) (hn : n ≤ 4294967296) :
    Calls Try.prog 8 #[.string s, .int .i64 n] w (CutPost s n w) := by
  unfold maxLen at hs
  by_cases h : n < s.size
  · have e : cutS s n = s.extract 0 n := if_pos h
    have E := Lib.hid e
    clear e
    go_enter Try.func8, Try.ntmps8
    go_wp2
    go_ret
    exact ⟨by rw [E.out]; rfl, rfl⟩
  · have e : cutS s n = s := if_neg h
    have E := Lib.hid e
    clear e
    go_enter Try.func8, Try.ntmps8
    go_wp2
    go_ret
    exact ⟨by rw [E.out]; rfl, rfl⟩

theorem isBytes_ownS {w : World} {base : Nat} {sp : Option Addr} {cap : Nat} {B : List Nat} {n : Nat} (hx : ∀ x ∈ B, x < 256) (hn : n = B.length) (h : w.ownsRow base 5 1 (.slice sp B.length cap) B.length (u8s B)) : IsBytes w (.slice sp n cap) B := by
  subst hn; exact isBytes_own hx h
theorem isBytes_nil (w : World) : IsBytes w (.slice none 0 0) [] := ⟨by simp, .inl ⟨rfl, rfl⟩⟩
theorem vget300 : vget (vput 300) = (300, 2) := by
  have := vget_vput 300 (by omega) []
  rw [List.append_nil] at this
  rw [this]
  rw [vput_big (by omega), vput_small (by omega)]
  rfl
theorem vtext_lt (S : List Nat) (h : ∀ x ∈ S, x < 256) : ∀ x ∈ vtext S, x < 256 := by
  intro x hx
  unfold vtext at hx
  rw [List.mem_append] at hx
  exact hx.elim (vput_lt _ x) (h x)
theorem four_lt (n : Nat) : ∀ x ∈ four n, x < 256 := by intro x hx; simp [four] at hx; omega
theorem text_ab : (vgetText (vtext (strB { data := #[97, 98] }))) = ([97, 98], 3) := by
  have := vgetText_vtext (strB { data := #[97, 98] }) [] (by simp [strB])
  rw [List.append_nil] at this
  rw [this]
  have e : strB { data := #[97, 98] } = [97, 98] := rfl
  rw [e]
  unfold vtext
  rw [vput_small (by simp)]
  rfl

set_option maxHeartbeats 1000000 in
theorem begun_any (w : World) : Calls Try.prog 7 #[] w fun e w' => e = .returned (.bool true) ∧ Below w.heap.size w w' := by
  go_enter Try.func7, Try.ntmps7
  go_wp2_with fail
  refine (put_any 300 _ (U64.small (by omega) (by omega))).mono ?_
  intro e w1 h1
  obtain ⟨sp, cap, rfl, ho1, hb1⟩ := h1.s
  have HI1 := Lib.hid (isBytes_own (vput_lt _) ho1)
  have HB1 := Lib.hid hb1
  have HG := Lib.hid (vget_any _ _ _ HI1.out)
  clear h1 ho1 hb1
  generalize (vput (Int.toNat 300)).length = n1 at *
  go_wp2_with fail
  refine HG.out.mono ?_
  rintro e w2 ⟨rfl, rfl⟩
  rw [show vget (vput (Int.toNat 300)) = (300, 2) from vget300]
  clear HG HI1
  go_wp2_with fail
  refine (text_any { data := #[97, 98] } _ (by decide)).mono ?_
  intro e w3 h3
  obtain ⟨sp3, cap3, rfl, ho3, hb3⟩ := h3.s
  have HI3 := Lib.hid (isBytes_own (vtext_lt _ (strB_lt _)) ho3)
  have HB3 := Lib.hid (HB1.out.trans (hb3.mono HB1.out.size))
  have HG := Lib.hid (getText_any _ _ _ HI3.out)
  clear h3 ho3 hb3 HB1
  generalize (vtext (strB { data := #[97, 98] })).length = n3 at *
  go_wp2_with fail
  refine HG.out.mono ?_
  rintro e w4 ⟨rfl, rfl⟩
  rw [text_ab, show str [97, 98] = { data := #[97, 98] } from rfl]
  clear HG HI3
  go_wp2_with fail
  refine (four_any 7 _ (by omega)).mono ?_
  intro e w5 h5
  obtain ⟨sp5, cap5, rfl, ho5, hb5⟩ := h5.s
  have HB5 := Lib.hid (HB3.out.trans (hb5.mono HB3.out.size))
  have HI5 := Lib.hid (isBytes_own (four_lt _) ho5)
  clear h5 ho5 hb5 HB3
  go_wp2_with fail
  refine (getFour_any _ _ _ HI5.out).mono ?_
  rintro e w6 ⟨rfl, k6, rfl⟩
  rw [show getFour (four (Int.toNat 7)) = 7 from rfl]
  go_wp2_with fail
  refine (getFour_any _ [] _ (isBytes_nil _)).mono ?_
  rintro e w7 ⟨rfl, k7, rfl⟩
  rw [show getFour [] = 0 from rfl]
  go_wp2_with fail
  go_ret
  exact ⟨rfl, bel_drewN HB5.out (k6 + k7)⟩
end Go.Proofs.Ytpibbepojjicgaa

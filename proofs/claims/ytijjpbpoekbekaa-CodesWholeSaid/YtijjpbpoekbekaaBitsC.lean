/- The bit writer's Put and Len, the reader's Get and Left: contracts. -/
import Derived.Test.YtijjpbpoekbekaaBitsB
namespace Go.Proofs.Ytijjpbpoekbekaa
open Go.RowKit Pl

theorem fill_any (b : Nat) (L : List Bool) (v : Int) (m : Nat) (w : World) (hv : U64 v) (hw : Wr w b L) (hL : L.length < 17179869184) (hm0 : 0 < m) (hm : m ≤ 64) :
    Calls Try.prog 29 #[.pointer (some ⟨b, 0, none⟩), .int .u64 v, .int .i64 m] w (FillPost b L v m w) := by
  obtain ⟨fo, hb, hch⟩ := hw
  by_cases h1 : m < 8 - L.length % 8
  · exact fill_b b fo L v m L.length w (Lib.hid rfl) hv hb hch hL hm0 h1
  · by_cases h2 : (L.length + (8 - L.length % 8)) % 2048 = 0
    · exact fill_c b fo L v m L.length w (Lib.hid rfl) hv hb hch hL hm hm0 (by omega) (Lib.hid h2)
    · exact fill_a b fo L v m L.length w (Lib.hid rfl) hv hb hch hL hm hm0 (by omega) h2

def PutPost (b : Nat) (L : List Bool) (v : Int) (n : Nat) (w : World) (e : Ending) (w' : World) : Prop :=
  e = .returned (.bool true) ∧ Wr w' b (L ++ bitsOf v.toNat n) ∧ Gr w w' b
/-- how far a Put has come: m bits are left -/
def PutRel (b : Nat) (L : List Bool) (v : Int) (n : Nat) (w : World) (m : Nat) (wr : World) : Prop :=
  m ≤ n ∧ ∃ L', Wr wr b L' ∧ L' ++ bitsOf v.toNat m = L ++ bitsOf v.toNat n ∧ Gr w wr b
theorem PutRel.lens {b : Nat} {L : List Bool} {v : Int} {n : Nat} {w : World} {m : Nat} {wr : World} {L' : List Bool} (h : L' ++ bitsOf v.toNat m = L ++ bitsOf v.toNat n) : L'.length + m = L.length + n := by
  have := congrArg List.length h
  simpa [bitsOf_length] using this
theorem PutRel.start {b : Nat} {L : List Bool} {v : Int} {n : Nat} {w : World} (hw : Wr w b L) : PutRel b L v n w n w := ⟨Nat.le_refl _, L, hw, rfl, Gr.refl _ _⟩
theorem PutRel.step {b : Nat} {L : List Bool} {v : Int} {n : Nat} {w : World} {m c : Nat} {wr w' : World} {L' : List Bool} (hm : m ≤ n) (he : L' ++ bitsOf v.toNat m = L ++ bitsOf v.toNat n) (hg : Gr w wr b)
    (hcm : c ≤ m) (hw : Wr w' b (L' ++ bitsOf (v.toNat >>> (m - c)) c)) (hg' : Gr wr w' b) : PutRel b L v n w (m - c) w' :=
  ⟨by omega, _, hw, by rw [List.append_assoc, ← bitsOf_split _ _ _ hcm, he], hg.trans hg'⟩
theorem PutRel.done {b : Nat} {L : List Bool} {v : Int} {n : Nat} {w wr : World} (h : PutRel b L v n w 0 wr) : PutPost b L v n w (.returned (.bool true)) wr := by
  obtain ⟨_, L', hw, he, hg⟩ := h
  rw [bitsOf_zero, List.append_nil] at he
  rw [he] at hw
  exact ⟨rfl, hw, hg⟩

set_option maxHeartbeats 400000 in
theorem put_any (b : Nat) (L : List Bool) (v : Int) (n : Nat) (w : World) (hv : U64 v) (hw : Wr w b L) (hL : L.length + n < 17179869184) (hn : n ≤ 64) :
    Calls Try.prog 13 #[.pointer (some ⟨b, 0, none⟩), .int .u64 v, .int .i64 n] w (PutPost b L v n w) := by
  have HS := Lib.hid (PutRel.start (v := v) (n := n) hw)
  have HV := Lib.hid hv
  clear hw hv
  go_enter Try.func13, Try.ntmps13
  go_wp2
  go_loopw [2] (fun x wr => ∃ m : Nat, m ≤ 64 ∧ x = .int .i64 m ∧ PutRel b L v n w m wr) (fun x _ => (intOf x).toNat)
  case atStart => exact ⟨n, hn, rfl, HS.out⟩
  case round =>
    obtain ⟨m, hm, rfl, hr⟩ := hrel
    by_cases h0 : 0 < m
    · obtain ⟨hmn, L', hw', he, hg⟩ := hr
      have hl := PutRel.lens (b := b) (w := w) (wr := wr) he
      have HE := Lib.hid he
      have HL : Hid (L'.length < 17179869184) := Lib.hid (by omega)
      have HW := Lib.hid hw'
      clear he hl hw' HS
      go_wp2_with (go_at_call 29; refine (fill_any b L' v m _ HV.out HW.out HL.out h0 hm).mono ?_; rintro e w' ⟨c, hc0, hcm, rfl, hw2, hg2⟩)
      go_roundw
      case rel => exact ⟨m - c, by omega, by congr 1; omega, PutRel.step hmn HE.out hg hcm hw2 hg2⟩
      case measure => simp [intOf]; omega
    · obtain rfl : m = 0 := by omega
      have HR := Lib.hid hr
      clear hr
      go_wp2
      go_ret
      exact HR.out.done

theorem put_bad (b : Nat) (v n : Int) (w : World) (h : n < 0 ∨ 64 < n) :
    Calls Try.prog 13 #[.pointer (some ⟨b, 0, none⟩), .int .u64 v, .int .i64 n] w fun e w' => e = .returned (.bool false) ∧ w = w' := by
  rcases h with h | h
  · go_enter Try.func13, Try.ntmps13
    go_wp2
    go_ret
    exact ⟨rfl, rfl⟩
  · have h' : ¬ n < 0 := by omega
    go_enter Try.func13, Try.ntmps13
    go_wp2
    go_ret
    exact ⟨rfl, rfl⟩

theorem put_nil (v n : Int) (w : World) :
    Calls Try.prog 13 #[.pointer none, .int .u64 v, .int .i64 n] w fun e w' => e = .returned (.bool false) ∧ w = w' := by
  go_enter Try.func13, Try.ntmps13
  go_wp2
  go_ret
  exact ⟨rfl, rfl⟩

theorem len_any (b : Nat) (L : List Bool) (w : World) (hw : Wr w b L) :
    Calls Try.prog 15 #[.pointer (some ⟨b, 0, none⟩)] w fun e w' => e = .returned (.int .i64 L.length) ∧ w = w' := by
  obtain ⟨fo, hb, hch⟩ := hw
  have c2 := hb.cell (wcells_n fo L)
  clear hb hch
  go_enter Try.func15, Try.ntmps15
  go_wp2
  go_ret
  exact ⟨rfl, rfl⟩
theorem len_n (b n : Nat) (L : List Bool) (w : World) (hw : Wr w b L) (hn : L.length = n) :
    Calls Try.prog 15 #[.pointer (some ⟨b, 0, none⟩)] w fun e w' => e = .returned (.int .i64 n) ∧ w = w' := by
  subst hn; exact len_any b L w hw
theorem put_int (b : Nat) (L : List Bool) (v n : Int) (w : World) (hv : U64 v) (hw : Wr w b L) (hL : L.length < 17179869120) (hn0 : 0 ≤ n) (hn : n ≤ 64) :
    Calls Try.prog 13 #[.pointer (some ⟨b, 0, none⟩), .int .u64 v, .int .i64 n] w (PutPost b L v n.toNat w) := by
  obtain ⟨k, rfl⟩ := Int.eq_ofNat_of_zero_le hn0
  exact put_any b L v k w hv hw (by omega) (by omega)
theorem len_nil (w : World) :
    Calls Try.prog 15 #[.pointer none] w fun e w' => e = .returned (.int .i64 0) ∧ w = w' := by
  go_enter Try.func15, Try.ntmps15
  go_wp2
  go_ret
  exact ⟨rfl, rfl⟩
end Go.Proofs.Ytijjpbpoekbekaa

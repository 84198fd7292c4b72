/- The verifier's own Bit and Bits: contracts. -/
import Derived.Test.YtiagafanibjiiaaLa
import Derived.Test.YtiagafanibjiiaaShort
namespace Go.Proofs.Ytiagafanibjiiaa
open Go.RowKit Pl

theorem bit_fact (V k : Nat) : (((V : Int) / 2 ^ k).tmod 2 == 1) = V.testBit k := by
  have e : (V : Int) / 2 ^ k = ((V / 2 ^ k : Nat) : Int) := by simp
  rw [e, Int.tmod_eq_emod_of_nonneg (Int.natCast_nonneg _), Nat.testBit_eq_decide_div_mod_eq, Bool.eq_iff_iff]
  simp
  omega
theorem bit_fact2 (V k : Nat) : (((V : Int) / 2 ^ k) % 2 == 1) = V.testBit k := by
  have e : (V : Int) / 2 ^ k = ((V / 2 ^ k : Nat) : Int) := by simp
  rw [e, Nat.testBit_eq_decide_div_mod_eq, Bool.eq_iff_iff]
  simp
  omega
theorem bit_any (V k : Nat) (w : World) (hk : k < 64) :
    Calls Try.prog 12 #[.int .u64 V, .int .i64 k] w fun e w' => e = .returned (.bool (V.testBit k)) ∧ w = w' := by
  go_enter Try.func12, Try.ntmps12
  go_wp2
  go_ret
  exact ⟨congrArg (fun x => Ending.returned (Value.bool x)) (bit_fact V k), rfl⟩
theorem bit_int (V : Nat) (k : Int) (w : World) (h0 : 0 ≤ k) (hk : k < 64) :
    Calls Try.prog 12 #[.int .u64 V, .int .i64 k] w fun e w' => e = .returned (.bool (V.testBit k.toNat)) ∧ w = w' := by
  obtain ⟨n, rfl⟩ := Int.eq_ofNat_of_zero_le h0
  exact bit_any V n w (by omega)

def bools (L : List Bool) : List Value := L.map Value.bool
theorem bools_length (L : List Bool) : (bools L).length = L.length := by simp [bools]
theorem bools_snoc (L : List Bool) (b : Bool) : bools (L ++ [b]) = bools L ++ [.bool b] := by simp [bools]
theorem info4 : (Try.prog.info? 4).map (fun i => (i.zero, i.size, i.bytes)) = some (some (.bool false), 1, 1) := by kernel_rfl
/-- the bits of the first i bytes and q bits more -/
def upto (B : List Nat) (i q : Nat) : List Bool := bitsB (B.take i) ++ (bitsOf (B.getD i 0) 8).take q
theorem upto_zero (B : List Nat) (i : Nat) : upto B i 0 = bitsB (B.take i) := by simp [upto]
theorem upto_succ (B : List Nat) (i q : Nat) (hq : q < 8) : upto B i (q + 1) = upto B i q ++ [(B.getD i 0).testBit (7 - q)] := by
  unfold upto
  rw [List.append_assoc]
  congr 1
  rw [List.take_succ_eq_append_getElem (by rw [bitsOf_length]; exact hq)]
  congr 2
  simp [bitsOf]
theorem upto_eight (B : List Nat) (i : Nat) (h : i < B.length) : upto B i 8 = upto B (i + 1) 0 := by
  rw [upto_zero, bitsB_take_succ B i h]
  unfold upto
  rw [List.take_of_length_le (l := bitsOf (B.getD i 0) 8) (by rw [bitsOf_length]; omega)]

def BitsPost (B : List Nat) (w : World) (e : Ending) (w' : World) : Prop :=
  ∃ v, e = .returned v ∧ w'.ownsRow w.heap.size 4 1 v (8 * B.length) (bools (bitsB B)) ∧ Below w.heap.size w w'

set_option maxHeartbeats 1000000 in
theorem bits_any (v : Value) (B : List Nat) (w : World) (hv : IsBytes w v B) (hB : B.length ≤ 17179869184) : Calls Try.prog 20 #[v] w (BitsPost B w) := by
  obtain ⟨a, cap, rfl, hcap, hmax⟩ := hv.slice
  have HV := Lib.hid hv
  clear hv
  obtain ⟨i0, hi, hz0, hz1, hz2⟩ := info_parts info4
  have Hi := Lib.hid hi
  have Hz0 := Lib.hid hz0
  have Hz1 := Lib.hid hz1
  have Hz2 := Lib.hid hz2
  clear hi hz0 hz1 hz2
  go_enter Try.func20, Try.ntmps20
  go_wp2_with fail
  go_loopw [3, 4] (fun l x wr => ∃ i : Nat, i ≤ B.length ∧ x = .int .i64 i ∧ wr.ownsRow w.heap.size 4 1 l (8 * i) (bools (upto B i 0)) ∧ Below w.heap.size w wr) (fun _ x _ => B.length - (intOf x).toNat)
  case atStart => exact ⟨0, Nat.zero_le _, rfl, World.ownsRow_nil _ _ _ _, Below.refl _ _⟩
  case round =>
    obtain ⟨i, hi, rfl, ho, hb⟩ := hrel
    have HO := Lib.hid ho
    have HB := Lib.hid hb
    clear ho hb
    by_cases hlt : i < B.length
    · obtain ⟨ad, rfl, hc⟩ : ∃ ad, a = some ad ∧ ∀ W : World, Below w.heap.size w W → W.cell? (ad.add i) = some (.int .u8 (B.getD i 0 : Nat)) := by
        obtain ⟨_, ⟨he, hn⟩ | ⟨ad, c', he, _, _, hc⟩⟩ := HV.out
        · subst hn; simp at hlt
        · simp at he
          exact ⟨ad, he.1, fun W hW => (hW.cell (p := ad.add i) (World.block_lt_of_cell? w _ (hc i _ (u8s_get B i hlt)))).trans (hc i _ (u8s_get B i hlt))⟩
      have hspot : ad.spot = none := by
        obtain ⟨_, ⟨he, hn⟩ | ⟨ad', c', he, _, _, hc'⟩⟩ := HV.out
        · subst hn; simp at hlt
        · simp at he
          rw [he.1]
          have := hc' 0 _ (u8s_get B 0 (by omega))
          simpa [Addr.add] using World.cell?_spot this
      obtain ⟨b0, off, spot⟩ := ad
      simp at hspot
      subst hspot
      have hadd : (⟨b0, off, none⟩ : Addr).add i = ⟨b0, off + i, none⟩ := by unfold Addr.add; split <;> simp_all
      rw [hadd] at hc
      have hx : B.getD i 0 < 256 := getD_lt HV.out.1 i
      have HU : Hid (∀ q, q < 8 → upto B i (q + 1) = upto B i q ++ [(B.getD i 0).testBit (7 - q)]) := Lib.hid fun q hq => upto_succ B i q hq
      obtain ⟨X, hX⟩ : ∃ X, X = B.getD i 0 := ⟨_, rfl⟩
      rw [← hX] at hc hx HU
      have HC := Lib.hid hc
      clear hX hc hadd
      go_wp2_with fail
      obtain ⟨wo, hwo⟩ : ∃ wo : World, wo = wr := ⟨_, rfl⟩
      subst hwo
      go_loopw [3, 5] (fun l x wi => ∃ q : Nat, q ≤ 8 ∧ x = .int .i64 (7 - (q : Int)) ∧ wi.ownsRow w.heap.size 4 1 l (8 * i + q) (bools (upto B i q)) ∧ Below w.heap.size w wi) (fun _ x _ => (intOf x + 1).toNat)
      case atStart => exact ⟨0, by omega, rfl, HO.out, HB.out⟩
      case round =>
        obtain ⟨q, hq, rfl, ho, hb⟩ := hrel
        have HOi := Lib.hid ho
        have HBi := Lib.hid hb
        have hsz := hb.size
        have c0 := HC.out _ hb
        clear ho hb HO HB
        by_cases hq8 : q < 8
        · have h7 : (0 : Int) ≤ 7 - (q : Int) := by omega
          go_wp2_with (first
            | (go_at_call 12; refine (bit_int X (7 - (q : Int)) _ h7 (by omega)).mono ?_; rintro e w1 ⟨rfl, rfl⟩)
            | (at_builtin; refine wpList_append_own _ rfl _ _ 30 rfl w.heap.size 4 i0 (.bool false) 1 1 Try.underlying30 Hi.out Hz0.out Hz1.out Hz2.out rfl (by decide) _ _ _ rfl (HOi.out.alloc _) ⟨wr.heap.size, 0, none⟩ 1 1 [.bool (X.testBit (7 - q))] rfl rfl (cell_one_new _ _ _) (by intro u hu; simp at hu; subst hu; rfl) (by unfold maxLen; omega) (by omega) (by simp; omega) ?_; intro v' w1 hown hgr _))
          have HOn := Lib.hid hown
          have HBn : Hid (Below w.heap.size w w1) := Lib.hid ((HBi.out.alloc hsz _).grown hgr (by simp; omega) (fun k hk => (HOi.out.lt k hk).1))
          clear hown hgr
          go_roundw
          case rel => exact ⟨q + 1, by omega, by go_num, by rw [HU.out q hq8, bools_snoc]; exact HOn.out, HBn.out⟩
          case measure => simp [intOf]; omega
        · obtain rfl : q = 8 := by omega
          go_wp2_with fail
          go_roundw
          case rel => exact ⟨i + 1, by omega, by go_num, by have := HOi.out; rw [upto_eight B i hlt] at this; rw [show 8 * (i + 1) = 8 * i + 8 by omega]; exact this, HBi.out⟩
          case measure => simp [intOf]; omega
    · obtain rfl : i = B.length := by omega
      clear hlt hi
      go_wp2_with fail
      go_ret
      exact ⟨_, rfl, by have := HO.out; rw [upto_zero, List.take_length] at this; exact this, HB.out⟩
end Go.Proofs.Ytiagafanibjiiaa

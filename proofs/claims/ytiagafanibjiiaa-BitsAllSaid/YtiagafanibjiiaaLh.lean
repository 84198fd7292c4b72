/- The law BitsAll, walked. -/
import Derived.Test.YtiagafanibjiiaaLg
namespace Go.Proofs.Ytiagafanibjiiaa
open Go.RowKit Pl
attribute [local go_sem ↓] build29_eq conv_eq
attribute [local go_sem] run_build29

/-- what a walk is told of a slice of pairs of integers that came in -/
def IsPairs (k0 k1 : IntKind) (w : World) (a : Option Addr) (len : Nat) (Z : Nat → Int × Int) : Prop :=
  len ≤ maxLen ∧ (len = 0 ∨ ∃ x, a = some x ∧ ∀ i, i < len → w.cell? (x.add (i * 2)) = some (.int k0 (Z i).1) ∧ w.cell? (x.add (i * 2 + 1)) = some (.int k1 (Z i).2) ∧ (Lit.int k0 (Z i).1).wf = true ∧ (Lit.int k1 (Z i).2).wf = true)
theorem IsPairs.cells {k0 k1 : IntKind} {w : World} {a : Option Addr} {len : Nat} {Z : Nat → Int × Int} (h : IsPairs k0 k1 w a len Z) (hl : 0 < len) :
    ∃ b off, a = some ⟨b, off, none⟩ ∧ b < w.heap.size ∧ ∀ i, i < len → w.cell? ⟨b, off + i * 2, none⟩ = some (.int k0 (Z i).1) ∧ w.cell? ⟨b, off + i * 2 + 1, none⟩ = some (.int k1 (Z i).2) ∧ (Lit.int k0 (Z i).1).wf = true ∧ (Lit.int k1 (Z i).2).wf = true := by
  obtain ⟨_, h | ⟨x, rfl, hc⟩⟩ := h
  · omega
  · obtain ⟨b, off, spot⟩ := x
    have hc0 := (hc 0 hl).1
    have hspot : spot = none := by simpa [Addr.add] using World.cell?_spot hc0
    subst hspot
    have hadd : ∀ n, (⟨b, off, none⟩ : Addr).add n = ⟨b, off + n, none⟩ := fun n => by unfold Addr.add; split <;> simp_all
    refine ⟨b, off, rfl, ?_, fun i hi => ?_⟩
    · have := World.block_lt_of_cell? w _ hc0
      rw [hadd] at this; exact this
    · have := hc i hi
      rw [hadd, hadd, ← Nat.add_assoc] at this
      exact this
theorem pairs_of {k0 k1 : IntKind} {w : World} {x : Addr} {m len : Nat} {V0 V1 : Nat → Value} (hl : len ≤ m) (hm : len ≤ maxLen)
    (h : ∀ i, i < m → w.cell? (x.add (i * 2)) = some (V0 i) ∧ w.cell? (x.add (i * 2 + 1)) = some (V1 i) ∧ (∃ z, V0 i = .int k0 z ∧ (Lit.int k0 z).wf = true) ∧ (∃ z, V1 i = .int k1 z ∧ (Lit.int k1 z).wf = true)) :
    ∃ Z, IsPairs k0 k1 w (some x) len Z := by
  have h0 : ∀ i, ∃ z : Int, i < m → V0 i = .int k0 z ∧ (Lit.int k0 z).wf = true := fun i => by
    by_cases hi : i < m
    · obtain ⟨z, hz⟩ := (h i hi).2.2.1; exact ⟨z, fun _ => hz⟩
    · exact ⟨0, fun h => absurd h hi⟩
  have h1 : ∀ i, ∃ z : Int, i < m → V1 i = .int k1 z ∧ (Lit.int k1 z).wf = true := fun i => by
    by_cases hi : i < m
    · obtain ⟨z, hz⟩ := (h i hi).2.2.2; exact ⟨z, fun _ => hz⟩
    · exact ⟨0, fun h => absurd h hi⟩
  refine ⟨fun i => (Classical.choose (h0 i), Classical.choose (h1 i)), hm, .inr ⟨x, rfl, fun i hi => ?_⟩⟩
  have g0 := Classical.choose_spec (h0 i) (by omega)
  have g1 := Classical.choose_spec (h1 i) (by omega)
  obtain ⟨c0, c1, _⟩ := h i (by omega)
  rw [g0.1] at c0
  rw [g1.1] at c1
  exact ⟨c0, c1, g0.2, g1.2⟩

def opBits (v n : Int) : List Bool := if 0 ≤ n ∧ n ≤ 64 then bitsOf v.toNat n.toNat else []
def allBits (Z : Nat → Int × Int) (k : Nat) : List Bool := (List.range k).flatMap fun i => opBits (Z i).1 (Z i).2
theorem allBits_succ (Z : Nat → Int × Int) (k : Nat) : allBits Z (k + 1) = allBits Z k ++ opBits (Z k).1 (Z k).2 := by simp [allBits, List.range_succ]
theorem opBits_le (v n : Int) : (opBits v n).length ≤ 64 := by
  unfold opBits
  split
  · rw [bitsOf_length]; omega
  · simp
theorem allBits_le (Z : Nat → Int × Int) (k : Nat) : (allBits Z k).length ≤ 64 * k := by
  induction k with
  | zero => simp [allBits]
  | succ k ih => rw [allBits_succ, List.length_append]; have := opBits_le (Z k).1 (Z k).2; omega
theorem allBits_split (Z : Nat → Int × Int) (n k : Nat) (h : k < n) : ∃ C, allBits Z n = allBits Z k ++ (opBits (Z k).1 (Z k).2 ++ C) := by
  induction n with
  | zero => omega
  | succ n ih =>
    rw [allBits_succ]
    by_cases e : k = n
    · subst e; exact ⟨[], by simp⟩
    · obtain ⟨C, hC⟩ := ih (by omega)
      exact ⟨C ++ opBits (Z n).1 (Z n).2, by rw [hC]; simp⟩
theorem opBits_in {v : Int} {n : Nat} (hn : n ≤ 64) : opBits v n = bitsOf v.toNat n := by
  unfold opBits
  rw [if_pos ⟨by omega, by omega⟩]
  rfl
theorem opBits_out {v n : Int} (h : n < 0 ∨ 64 < n) : opBits v n = [] := by
  unfold opBits
  rw [if_neg (by omega)]
theorem allBits_read (Z : Nat → Int × Int) (m k n : Nat) (h : k < m) (hz : (Z k).2 = (n : Int)) (hn : n ≤ 64) :
    take (bytesOf (allBits Z m)) (allBits Z k).length n = (Z k).1.toNat % 2 ^ n ∧ (allBits Z k).length + n ≤ (allBits Z m).length := by
  obtain ⟨C, hC⟩ := allBits_split Z m k h
  rw [hz, opBits_in hn] at hC
  rw [hC, take_bitsOf _ _ _ _ _ rfl]
  refine ⟨rfl, ?_⟩
  simp [bitsOf_length]
theorem mod_facts (v : Int) (n : Nat) (hv : U64 v) (hn : n < 64) : IntKind.u64.wrap (2 ^ n) = ((2 ^ n : Nat) : Int) ∧ v.tmod ((2 ^ n : Nat) : Int) = ((v.toNat % 2 ^ n : Nat) : Int) ∧ v % ((2 ^ n : Nat) : Int) = ((v.toNat % 2 ^ n : Nat) : Int) := by
  obtain ⟨h1, h2⟩ := hv
  obtain ⟨V, rfl⟩ := Int.eq_ofNat_of_zero_le h1
  have h3 : (2 : Nat) ^ n ≤ 2 ^ 63 := Nat.pow_le_pow_right (by omega) (by omega)
  have h4 : (2 : Nat) ^ 63 = 9223372036854775808 := by decide
  have h5 : 0 < (2 : Nat) ^ n := Nat.two_pow_pos n
  refine ⟨?_, ?_, ?_⟩
  · have e : (2 : Int) ^ n = ((2 ^ n : Nat) : Int) := by simp
    rw [IntKind.wrap_u64, e]
    omega
  · rw [Int.toNat_natCast, Int.tmod_eq_emod_of_nonneg (Int.natCast_nonneg _)]
    simp
  · rw [Int.toNat_natCast]
    simp
theorem mod_all (v : Int) (hv : U64 v) : ((v.toNat % 2 ^ 64 : Nat) : Int) = v := by
  obtain ⟨h1, h2⟩ := hv
  have h4 : (2 : Nat) ^ 64 = 18446744073709551616 := by decide
  rw [h4]
  omega
theorem wr_own {w w' : World} {b base n : Nat} {L : List Bool} {v : Value} {xs : List Value} (h : Wr w b L) (ho : w.ownsRow base 4 1 v n xs) (hg : w.grownBy w' v.ownBlock) : Wr w' b L :=
  h.row hg fun k t cs e hk => by
    obtain ⟨_, ⟨rfl, _⟩ | ⟨g, cap', cur, rfl, _, hh, _⟩⟩ := ho
    · simp [Value.ownBlock] at e
    · have e' : some g = some k := e
      simp at e'
      subst e'
      have : t = 4 := blk_ty hk (c2 := cur.toList) (by unfold Blk; simpa using hh)
      subst this
      exact ⟨by decide, by decide⟩
theorem blk_own {w w' : World} {b base n : Nat} {t : TypeId} {cs : List Value} {v : Value} {xs : List Value} (h : Blk w b t cs) (ht : t ≠ 4) (ho : w.ownsRow base 4 1 v n xs) (hg : w.grownBy w' v.ownBlock) : Blk w' b t cs :=
  h.grown hg fun e => by
    obtain ⟨_, ⟨rfl, _⟩ | ⟨g, cap', cur, rfl, _, hh, _⟩⟩ := ho
    · simp [Value.ownBlock] at e
    · have e' : some b = some g := e
      simp at e'
      subst e'
      exact ht (blk_ty h (c2 := cur.toList) (by unfold Blk; simpa using hh))

set_option maxRecDepth 100000 in
set_option maxHeartbeats 20000000 in
theorem bitsAll_walk (a0 : Option Addr) (len0 cap0 : Nat) (Z : Nat → Int × Int) (w : World) (w0 : IsPairs .u64 .i64 w a0 len0 Z) :
    Calls Try.prog 3 #[.slice a0 len0 cap0] w fun e w' => e = .returned (.bool true) ∧ Below w.heap.size w w' := by
  have hmx := w0.1
  unfold maxLen at hmx
  have HROW := Lib.hid w0
  clear w0
  obtain ⟨m, hm⟩ : ∃ m, m = min len0 40 := ⟨_, rfl⟩
  have hm1 : m ≤ len0 := by omega
  have hm2 : m ≤ 40 := by omega
  have HM : Hid (m = len0 ∨ m = 40) := Lib.hid (by omega)
  clear hm
  obtain ⟨i0, hi, hz0, hz1, hz2⟩ := info_parts info4
  have Hi := Lib.hid hi
  have Hz0 := Lib.hid hz0
  have Hz1 := Lib.hid hz1
  have Hz2 := Lib.hid hz2
  clear hi hz0 hz1 hz2
  go_enter Try.func3, Try.ntmps3
  go_wp2_with fail
  refine (begun_any _).mono ?_
  rintro e w1 ⟨rfl, hb⟩
  have HB1 := Lib.hid hb
  have hw1 := hb.size
  clear hb
  have HW1 := Lib.hid (Wr.fresh w1)
  have HB2 : Hid (Below w.heap.size w (w1.alloc (.cells (wcells none []).toArray 29))) := Lib.hid (HB1.out.alloc HB1.out.size _)
  go_wp2_with fail
  go_loopw [5, 6] (fun l x wr => ∃ k : Nat, k ≤ m ∧ x = .int .i64 k ∧ Wr wr w1.heap.size (allBits Z k) ∧ wr.ownsRow w.heap.size 4 1 l (allBits Z k).length (bools (allBits Z k)) ∧ Below w.heap.size w wr) (fun _ x _ => m - (intOf x).toNat)
  case atStart => exact ⟨0, Nat.zero_le _, rfl, HW1.out, World.ownsRow_nil _ _ _ _, HB2.out⟩
  case round =>
    obtain ⟨k, hk, rfl, hw, ho, hb⟩ := hrel
    have HW := Lib.hid hw
    have HO := Lib.hid ho
    have HB := Lib.hid hb
    have hsz := hb.size
    clear hw ho hb HW1 HB2
    by_cases hlt : k < m
    · obtain ⟨b0, off, rfl, hb0, hcell⟩ := HROW.out.cells (by omega)
      obtain ⟨d0, d1, wf0, wf1⟩ := hcell k (by omega)
      have c0 := (HB.out.cell (p := ⟨b0, off + k * 2, none⟩) hb0).trans d0
      have c1 := (HB.out.cell (p := ⟨b0, off + k * 2 + 1, none⟩) hb0).trans d1
      have HU : Hid (U64 (Z k).1) := Lib.hid (U64.of_wf wf0)
      have hlen := allBits_le Z k
      have HSU := Lib.hid (allBits_succ Z k)
      obtain ⟨v, hv⟩ : ∃ v, v = (Z k).1 := ⟨_, rfl⟩
      obtain ⟨n, hn⟩ : ∃ n, n = (Z k).2 := ⟨_, rfl⟩
      rw [← hv] at c0 HU HSU
      rw [← hn] at c1 HSU
      have hk40 : decide ((k : Int) < 40) = true := by simp; omega
      have hklen : k < len0 := by omega
      clear hv hn d0 d1 wf0 wf1 hcell
      have HOp := Lib.hid (Blk.new wr 33 [.int .u64 v, .int .i64 n])
      have HWa := Lib.hid (HW.out.alloc (.cells [.int .u64 v, .int .i64 n].toArray 33))
      have HOa := Lib.hid (HO.out.alloc (.cells [.int .u64 v, .int .i64 n].toArray 33))
      have HBa := Lib.hid (HB.out.alloc hsz (.cells [.int .u64 v, .int .i64 n].toArray 33))
      clear HW HO HB
      by_cases hbad : n < 0 ∨ 64 < n
      · have HOB := Lib.hid (opBits_out (v := v) hbad)
        have hcs : n < 0 ∨ (¬ n < 0 ∧ 64 < n) := by omega
        clear hbad
        rcases hcs with h1 | ⟨h1, h2⟩
        all_goals
          go_wp2_with fail
          refine (put_bad w1.heap.size v n _ (by omega)).mono ?_
          rintro e w2 ⟨rfl, rfl⟩
          go_wp2_with fail
          refine wp_loop_rounds 1 ?_
          rw [rounds_succ]
          go_wp2_with fail
          go_roundw
          case rel => exact ⟨k + 1, by omega, by go_num, by rw [HSU.out, HOB.out, List.append_nil]; exact HWa.out, by rw [HSU.out, HOB.out, List.append_nil]; exact HOa.out, HBa.out⟩
          case measure => simp [intOf]; omega
      · obtain ⟨j, rfl⟩ := Int.eq_ofNat_of_zero_le (by omega : 0 ≤ n)
        have hj : j ≤ 64 := by omega
        have HOB := Lib.hid (opBits_in (v := v) hj)
        clear hbad
        go_wp2_with fail
        refine (put_any w1.heap.size _ v j _ HU.out HWa.out (by omega) hj).mono ?_
        rintro e w2 ⟨rfl, hw2, hg2⟩
        obtain ⟨_, hbw⟩ := HWa.out.blk
        have HW2 := Lib.hid hw2
        have HO2 := Lib.hid (own_gr HOa.out hg2 hbw (by decide))
        have HOp2 := Lib.hid (HOp.out.grown hg2 (by have := HOp.out.ne hbw (by decide); simpa using this))
        have HB2 := Lib.hid (HBa.out.trans (hg2.below HBa.out.size hw1))
        obtain ⟨ob, hob⟩ : ∃ x, x = wr.heap.size := ⟨_, rfl⟩
        rw [← hob] at HOp2 ⊢
        clear hw2 hg2 hbw HWa HOa HOp HBa hob
        have hjd : decide ((j : Int) ≤ 64) = true := by simp; omega
        have p1' := HOp2.out.cell (o := 1) rfl
        go_wp2_with fail
        clear p1'
        obtain ⟨wo, hwo⟩ : ∃ wo : World, wo = w2 := ⟨_, rfl⟩
        subst hwo
        go_loopw [5, 9] (fun l x wi => ∃ q : Nat, q ≤ j ∧ x = .int .i64 ((j : Int) - 1 - q) ∧ Wr wi w1.heap.size (allBits Z k ++ bitsOf v.toNat j) ∧ wi.ownsRow w.heap.size 4 1 l ((allBits Z k).length + q) (bools (allBits Z k ++ (bitsOf v.toNat j).take q)) ∧ Blk wi ob 33 [.int .u64 v, .int .i64 j] ∧ Below w.heap.size w wi) (fun _ x _ => (intOf x + 1).toNat)
        case atStart => exact ⟨0, Nat.zero_le _, by simp, HW2.out, by simpa using HO2.out, HOp2.out, HB2.out⟩
        case round =>
          obtain ⟨q, hq, rfl, hw, ho, hop, hb⟩ := hrel
          have HWi := Lib.hid hw
          have HOi := Lib.hid ho
          have HBi := Lib.hid hb
          have HPi := Lib.hid hop
          have hsz := hb.size
          have p0 := hop.cell (o := 0) rfl
          have p1 := hop.cell (o := 1) rfl
          clear hw ho hop hb HW2 HO2 HOp2 HB2
          by_cases hqj : q < j
          · have hqI : (0 : Int) ≤ (j : Int) - 1 - (q : Int) := by omega
            have HTk : Hid ((bitsOf v.toNat j).take (q + 1) = (bitsOf v.toNat j).take q ++ [v.toNat.testBit (j - 1 - q)]) := Lib.hid (by
              rw [List.take_succ_eq_append_getElem (by rw [bitsOf_length]; exact hqj)]
              congr 2
              simp [bitsOf])
            obtain ⟨V, hV⟩ := Int.eq_ofNat_of_zero_le HU.out.1
            have HVV := Lib.hid hV
            have HBit : Hid (∀ W : World, Calls Try.prog 12 #[.int .u64 v, .int .i64 ((j : Int) - 1 - q)] W fun e w' => e = .returned (.bool (v.toNat.testBit (j - 1 - q))) ∧ W = w') := Lib.hid fun W => by
              have := bit_int V ((j : Int) - 1 - q) W hqI (by omega)
              rw [show ((j : Int) - 1 - q).toNat = j - 1 - q by omega] at this
              rw [hV, Int.toNat_natCast]; exact this
            clear hV
            go_wp2_with (first
              | (go_at_call 12; refine (HBit.out _).mono ?_; rintro e w3 ⟨rfl, rfl⟩)
              | (at_builtin; refine wpList_append_own _ rfl _ _ 30 rfl w.heap.size 4 i0 (.bool false) 1 1 Try.underlying30 Hi.out Hz0.out Hz1.out Hz2.out rfl (by decide) _ _ _ rfl (HOi.out.alloc _) ⟨wr.heap.size, 0, none⟩ 1 1 [.bool (v.toNat.testBit (j - 1 - q))] rfl rfl (cell_one_new _ _ _) (by intro u hu; simp at hu; subst hu; rfl) (by unfold maxLen; omega) (by omega) (by simp; omega) ?_; intro v' w3 hown hgr _))
            have HOn := Lib.hid hown
            have HWn := Lib.hid (wr_own (HWi.out.alloc _) (HOi.out.alloc _) hgr)
            have HPn := Lib.hid (blk_own (HPi.out.alloc _) (by decide) (HOi.out.alloc _) hgr)
            have HBn : Hid (Below w.heap.size w w3) := Lib.hid ((HBi.out.alloc hsz _).grown hgr (by simp; omega) (fun k hk => (HOi.out.lt k hk).1))
            clear hown hgr
            go_roundw
            case rel => exact ⟨q + 1, by omega, by go_num, HWn.out, by rw [HTk.out, ← List.append_assoc, bools_snoc]; exact HOn.out, HPn.out, HBn.out⟩
            case measure => simp [intOf]; omega
          · obtain rfl : q = j := by omega
            clear hqj hq
            go_wp2_with fail
            go_roundw
            case rel => exact ⟨k + 1, by omega, by go_num, by rw [HSU.out, HOB.out]; exact HWi.out, by have := HOi.out; rw [List.take_of_length_le (by rw [bitsOf_length]; omega)] at this; rw [HSU.out, HOB.out, List.length_append, bitsOf_length]; exact this, HBi.out⟩
            case measure => simp [intOf]; omega
    · obtain rfl : k = m := by omega
      clear hlt hk
      have hsplit : len0 ≤ k ∨ (k < len0 ∧ 40 ≤ k) := by have := HM.out; omega
      have hLle := allBits_le Z k
      obtain ⟨n, hn⟩ : ∃ n, n = (allBits Z k).length := ⟨_, rfl⟩
      have HLn : Hid ((allBits Z k).length = n) := Lib.hid hn.symm
      have HLt : Hid ((allBits Z k).length < 17179869184) := Lib.hid (by omega)
      have hnle : n ≤ 64 * 40 := by omega
      obtain ⟨sl, cl, hsl, hcl, hml⟩ := ownsRow_slice HO.out
      subst hsl
      rw [← hn] at hcl
      have HBA : Hid (BoolsAt wr sl cl (allBits Z k)) := Lib.hid (boolsAt_own rfl HO.out)
      have HON : Hid (∀ W : World, Below wr.heap.size wr W → BoolsAt W sl cl (allBits Z k)) := Lib.hid fun W hW => boolsAt_own rfl (own_below HO.out hW)
      rw [← hn]
      rcases hsplit with hA | ⟨hA, hA2⟩
      all_goals
        clear hn hLle
        go_wp2_with fail
        refine (bytes_any w1.heap.size _ _ HW.out HLt.out).mono ?_
        rintro e w2 ⟨rfl, hk2, hb2⟩
        have HW2 := Lib.hid (HW.out.below hb2)
        have HB2 := Lib.hid (HB.out.trans (hb2.mono HB.out.size))
        have HBA2 := Lib.hid (HON.out _ hb2)
        obtain ⟨g, hg⟩ : ∃ x, x = wr.heap.size := ⟨_, rfl⟩
        obtain ⟨N, hN⟩ : ∃ x, x = ((allBits Z k).length + 7) / 8 := ⟨_, rfl⟩
        have HI2 : Hid (IsBytes w2 (.slice (some ⟨g, 0, none⟩) N N) (bytesOf (allBits Z k))) := Lib.hid (by rw [hg, hN]; exact isBytes_new hk2 rfl HLt.out)
        rw [← hg, ← hN]
        have HNN := Lib.hid hN
        have hNle : N ≤ 400 := by have := HLn.out; omega
        clear hk2 hb2 hg hN HW HB HO HBA HON
        go_wp2_with fail
        have HI2d : Hid (IsBytes w2.drew (.slice (some ⟨g, 0, none⟩) N N) (bytesOf (allBits Z k))) := Lib.hid HI2.out
        have hcv2 : (convS (.slice (some ⟨g, 0, none⟩) N N)).run Try.prog w2.drew = .ok (.string (str (bytesOf (allBits Z k)))) w2.drew := run_conv (w := w2.drew) HI2.out
        go_region_with (first
          | (go_at_call 14; refine (len_n w1.heap.size n _ _ HW2.out.drew HLn.out).mono ?_; rintro e w5 ⟨rfl, rfl⟩)
          | (go_at_call 15; refine (refBytes_any sl n cl (allBits Z k) w2.drew HLn.out.symm HBA2.out HLt.out).mono ?_; rintro e w5 ⟨rfl, hk5, hb5⟩; have hcv5 := run_conv (HI2d.out.below hb5); have HI5 : Hid (IsBytes w5 (.slice (some ⟨w2.heap.size, 0, none⟩) (((allBits Z k).length + 7) / 8) (((allBits Z k).length + 7) / 8)) (bytesOf (allBits Z k))) := Lib.hid (isBytes_new hk5 rfl HLt.out); have hcr5 := run_conv HI5.out; have HB5 := Lib.hid (HB2.out.drew.trans (hb5.mono HB2.out.size)); have HI25 := Lib.hid (HI2d.out.below hb5); clear hk5 hb5))
        all_goals
          clear hcv2 hcv5 hcr5
          have hnb : (bytesOf (allBits Z k)).length = N := by rw [bytesOf_length]; exact HNN.out.symm
          have HNB := Lib.hid hnb
          clear hnb
          go_wp2_with fail
          refine (read_any _ (bytesOf (allBits Z k)) _ HI25.out (by rw [HNB.out]; omega)).mono ?_
          rintro e w6 ⟨r, rfl, hr, hb6⟩
          have HB6 := Lib.hid (HB5.out.trans (hb6.mono HB5.out.size))
          have HR6 := Lib.hid hr
          have hrb : w.heap.size ≤ r := Nat.le_trans HB5.out.size hr.1
          obtain ⟨base, hbase⟩ : ∃ x, x = w5.heap.size := ⟨_, rfl⟩
          rw [← hbase] at HR6
          clear hr hb6 hbase HI25 HI5 HB5
          go_wp2_with fail
          go_loopw [12, 13] (fun y x wr => ∃ q : Nat, q ≤ k ∧ x = .int .i64 q ∧ y = .int .i64 (allBits Z q).length ∧ Rd wr base r (bytesOf (allBits Z k)) (allBits Z q).length ∧ Below w.heap.size w wr) (fun _ x _ => k - (intOf x).toNat)
          case atStart => exact ⟨0, Nat.zero_le _, rfl, rfl, HR6.out, HB6.out⟩
          case round =>
            obtain ⟨q, hq, rfl, rfl, hr, hb⟩ := hrel
            have HR := Lib.hid hr
            have HB := Lib.hid hb
            have hsz := hb.size
            clear hr hb HR6 HB6
            by_cases hlt : q < k
            · obtain ⟨b0, off, rfl, hb0, hcell⟩ := HROW.out.cells (by omega)
              obtain ⟨d0, d1, wf0, wf1⟩ := hcell q (by omega)
              have c0 := (HB.out.cell (p := ⟨b0, off + q * 2, none⟩) hb0).trans d0
              have c1 := (HB.out.cell (p := ⟨b0, off + q * 2 + 1, none⟩) hb0).trans d1
              have HU : Hid (U64 (Z q).1) := Lib.hid (U64.of_wf wf0)
              have hlen := allBits_le Z q
              have HSU := Lib.hid (allBits_succ Z q)
              have HRD := Lib.hid (allBits_read Z k q)
              obtain ⟨v, hv⟩ : ∃ v, v = (Z q).1 := ⟨_, rfl⟩
              obtain ⟨n1, hn1⟩ : ∃ n1, n1 = (Z q).2 := ⟨_, rfl⟩
              rw [← hv] at c0 HU HSU HRD
              rw [← hn1] at c1 HSU HRD
              have hq40 : decide ((q : Int) < 40) = true := by simp; omega
              have hqlen : q < len0 := by omega
              have HOp := Lib.hid (Blk.new wr 33 [.int .u64 v, .int .i64 n1])
              have HRa := Lib.hid (HR.out.alloc (.cells [.int .u64 v, .int .i64 n1].toArray 33))
              have HBa := Lib.hid (HB.out.alloc hsz (.cells [.int .u64 v, .int .i64 n1].toArray 33))
              clear hv hn1 d0 d1 wf0 wf1 hcell HR HB
              by_cases hbad : n1 < 0 ∨ 64 < n1
              · have HOB := Lib.hid (opBits_out (v := v) hbad)
                have hcs : n1 < 0 ∨ (¬ n1 < 0 ∧ 64 < n1) := by omega
                clear hbad
                rcases hcs with h1 | ⟨h1, h2⟩
                all_goals
                  go_wp2_with fail
                  refine (get_bad r base _ _ n1 _ HRa.out (by omega)).mono ?_
                  rintro e w7 ⟨rfl, kk, rfl⟩
                  go_wp2_with fail
                  go_roundw
                  case rel => exact ⟨q + 1, by omega, by go_num, by rw [HSU.out, HOB.out, List.append_nil], by rw [HSU.out, HOB.out, List.append_nil]; exact HRa.out, bel_drewN HBa.out kk⟩
                  case measure => simp [intOf]; omega
              · obtain ⟨j, rfl⟩ := Int.eq_ofNat_of_zero_le (by omega : 0 ≤ n1)
                have hj : j ≤ 64 := by omega
                have HOB := Lib.hid (opBits_in (v := v) hj)
                clear hbad
                obtain ⟨hrd1, hrd2⟩ := HRD.out j hlt rfl hj
                have hget := get_any r base _ (allBits Z q).length j _ HRa.out hj (by rw [HNB.out]; have := HNN.out; omega)
                unfold GetPost at hget
                rw [hrd1] at hget
                obtain ⟨_, hrbl⟩ := HRa.out.blk
                have HRB := Lib.hid hrbl
                have hne := HOp.out.ne hrbl (by decide)
                have HNE := Lib.hid hne
                obtain ⟨X, hX⟩ : ∃ X : Int, X = ((v.toNat % 2 ^ j : Nat) : Int) := ⟨_, rfl⟩
                rw [← hX] at hget
                have HX := Lib.hid hX
                have HG := Lib.hid hget
                clear hget hrbl hne hX hrd1
                have hqj : (allBits Z q).length + j ≤ 8 * N := by have := HNN.out; omega
                have HSL : Hid ((allBits Z (q + 1)).length = (allBits Z q).length + j) := Lib.hid (by rw [HSU.out, HOB.out, List.length_append, bitsOf_length])
                clear hrd2
                by_cases hj64 : j < 64
                · obtain ⟨m1, m2, m3⟩ := mod_facts v j HU.out hj64
                  have hne1 : (X != v.tmod (IntKind.u64.wrap (2 ^ j))) = false := by rw [m1, m2, HX.out]; simp
                  have hne2 : (X != v % (IntKind.u64.wrap (2 ^ j))) = false := by rw [m1, m3, HX.out]; simp
                  have hnz : ¬ IntKind.u64.wrap (2 ^ j) = 0 := by rw [m1]; have := Nat.two_pow_pos j; omega
                  clear m1 m2 m3
                  go_wp2_with fail
                  refine HG.out.mono ?_
                  rintro e w7 ⟨rfl, hr7, hg7⟩
                  have HR7 := Lib.hid hr7
                  have HP7 := Lib.hid (HOp.out.grown hg7 (by have := HNE.out; simpa using this))
                  have HB7 := Lib.hid (HBa.out.trans (hg7.below HBa.out.size hrb))
                  have p0 := HP7.out.cell (o := 0) rfl
                  have p1 := HP7.out.cell (o := 1) rfl
                  have hleft := left_any r base _ _ w7 HR7.out
                  rw [HNB.out] at hleft
                  have HLe := Lib.hid hleft
                  clear hleft hr7 hg7
                  go_wp2_with fail
                  refine HLe.out.mono ?_
                  rintro e w8 ⟨rfl, kk, rfl⟩
                  go_wp2_with fail
                  go_roundw
                  case rel => exact ⟨q + 1, by omega, by go_num, by rw [HSL.out]; go_num, by rw [HSL.out]; exact HR7.out, bel_drewN HB7.out kk⟩
                  case measure => simp [intOf]; omega
                · obtain rfl : j = 64 := by omega
                  have hXv : X = v := by rw [HX.out]; exact mod_all v HU.out
                  have hne1 : (X != v) = false := by rw [hXv]; simp
                  clear hXv hj64
                  go_wp2_with fail
                  refine HG.out.mono ?_
                  rintro e w7 ⟨rfl, hr7, hg7⟩
                  have HR7 := Lib.hid hr7
                  have HP7 := Lib.hid (HOp.out.grown hg7 (by have := HNE.out; simpa using this))
                  have HB7 := Lib.hid (HBa.out.trans (hg7.below HBa.out.size hrb))
                  have p0 := HP7.out.cell (o := 0) rfl
                  have p1 := HP7.out.cell (o := 1) rfl
                  have hleft := left_any r base _ _ w7 HR7.out
                  rw [HNB.out] at hleft
                  have HLe := Lib.hid hleft
                  clear hleft hr7 hg7
                  go_wp2_with fail
                  refine HLe.out.mono ?_
                  rintro e w8 ⟨rfl, kk, rfl⟩
                  go_wp2_with fail
                  go_roundw
                  case rel => exact ⟨q + 1, by omega, by go_num, by rw [HSL.out]; go_num, by rw [HSL.out]; exact HR7.out, bel_drewN HB7.out kk⟩
                  case measure => simp [intOf]; omega
            · obtain rfl : q = k := by omega
              clear hlt hq
              go_wp2_with fail
              go_ret
              exact ⟨rfl, HB.out⟩
end Go.Proofs.Ytiagafanibjiiaa

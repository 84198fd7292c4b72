/- The verifier's own Bit, Bits and Bytes: contracts; a new Writer. -/
import Derived.Test.YtijjpbpoekbekaaShB
namespace Go.Proofs.Ytijjpbpoekbekaa
open Go.RowKit Pl

theorem bit_fact (V k : Nat) : (((V : Int) / 2 ^ k).tmod 2 == 1) = V.testBit k := by
  have e : (V : Int) / 2 ^ k = ((V / 2 ^ k : Nat) : Int) := by simp
  rw [e, Int.tmod_eq_emod_of_nonneg (Int.natCast_nonneg _), Nat.testBit_eq_decide_div_mod_eq, Bool.eq_iff_iff]
  simp
  omega
theorem bit_fact2 (V k : Nat) : (((V : Int) / 2 ^ k) % 2 == 1) = V.testBit k := by
  have e : (V : Int) / 2 ^ k = ((V / 2 ^ k : Nat) : Int) := by simp
  rw [e, Nat.testBit_eq_decide_div_mod_eq, Bool.eq_iff_iff]
  simp
  omega
theorem bit_any (V k : Nat) (w : World) (hk : k < 64) :
    Calls Try.prog 16 #[.int .u64 V, .int .i64 k] w fun e w' => e = .returned (.bool (V.testBit k)) ∧ w = w' := by
  go_enter Try.func16, Try.ntmps16
  go_wp2
  go_ret
  exact ⟨congrArg (fun x => Ending.returned (Value.bool x)) (bit_fact V k), rfl⟩
theorem bit_int (V : Nat) (k : Int) (w : World) (h0 : 0 ≤ k) (hk : k < 64) :
    Calls Try.prog 16 #[.int .u64 V, .int .i64 k] w fun e w' => e = .returned (.bool (V.testBit k.toNat)) ∧ w = w' := by
  obtain ⟨n, rfl⟩ := Int.eq_ofNat_of_zero_le h0
  exact bit_any V n w (by omega)

def bools (L : List Bool) : List Value := L.map Value.bool
theorem bools_length (L : List Bool) : (bools L).length = L.length := by simp [bools]
theorem bools_snoc (L : List Bool) (b : Bool) : bools (L ++ [b]) = bools L ++ [.bool b] := by simp [bools]
theorem info4 : (Try.prog.info? 4).map (fun i => (i.zero, i.size, i.bytes)) = some (some (.bool false), 1, 1) := by kernel_rfl
/-- the bits of the first i bytes and q bits more -/
def upto (B : List Nat) (i q : Nat) : List Bool := bitsB (B.take i) ++ (bitsOf (B.getD i 0) 8).take q
theorem upto_zero (B : List Nat) (i : Nat) : upto B i 0 = bitsB (B.take i) := by simp [upto]
theorem upto_succ (B : List Nat) (i q : Nat) (hq : q < 8) : upto B i (q + 1) = upto B i q ++ [(B.getD i 0).testBit (7 - q)] := by
  unfold upto
  rw [List.append_assoc]
  congr 1
  rw [List.take_succ_eq_append_getElem (by rw [bitsOf_length]; exact hq)]
  congr 2
  simp [bitsOf]
theorem upto_eight (B : List Nat) (i : Nat) (h : i < B.length) : upto B i 8 = upto B (i + 1) 0 := by
  rw [upto_zero, bitsB_take_succ B i h]
  unfold upto
  rw [List.take_of_length_le (l := bitsOf (B.getD i 0) 8) (by rw [bitsOf_length]; omega)]

def BitsPost (B : List Nat) (w : World) (e : Ending) (w' : World) : Prop :=
  ∃ v, e = .returned v ∧ w'.ownsRow w.heap.size 4 1 v (8 * B.length) (bools (bitsB B)) ∧ Below w.heap.size w w'

set_option maxHeartbeats 1000000 in
theorem bits_any (v : Value) (B : List Nat) (w : World) (hv : IsBytes w v B) (hB : B.length ≤ 17179869184) : Calls Try.prog 25 #[v] w (BitsPost B w) := by
  obtain ⟨a, cap, rfl, hcap, hmax⟩ := hv.slice
  have HV := Lib.hid hv
  clear hv
  obtain ⟨i0, hi, hz0, hz1, hz2⟩ := info_parts info4
  have Hi := Lib.hid hi
  have Hz0 := Lib.hid hz0
  have Hz1 := Lib.hid hz1
  have Hz2 := Lib.hid hz2
  clear hi hz0 hz1 hz2
  go_enter Try.func25, Try.ntmps25
  go_wp2_with fail
  go_loopw [3, 4] (fun l x wr => ∃ i : Nat, i ≤ B.length ∧ x = .int .i64 i ∧ wr.ownsRow w.heap.size 4 1 l (8 * i) (bools (upto B i 0)) ∧ Below w.heap.size w wr) (fun _ x _ => B.length - (intOf x).toNat)
  case atStart => exact ⟨0, Nat.zero_le _, rfl, World.ownsRow_nil _ _ _ _, Below.refl _ _⟩
  case round =>
    obtain ⟨i, hi, rfl, ho, hb⟩ := hrel
    have HO := Lib.hid ho
    have HB := Lib.hid hb
    clear ho hb
    by_cases hlt : i < B.length
    · obtain ⟨ad, rfl, hc⟩ : ∃ ad, a = some ad ∧ ∀ W : World, Below w.heap.size w W → W.cell? (ad.add i) = some (.int .u8 (B.getD i 0 : Nat)) := by
        obtain ⟨_, ⟨he, hn⟩ | ⟨ad, c', he, _, _, hc⟩⟩ := HV.out
        · subst hn; simp at hlt
        · simp at he
          exact ⟨ad, he.1, fun W hW => (hW.cell (p := ad.add i) (World.block_lt_of_cell? w _ (hc i _ (u8s_get B i hlt)))).trans (hc i _ (u8s_get B i hlt))⟩
      have hspot : ad.spot = none := by
        obtain ⟨_, ⟨he, hn⟩ | ⟨ad', c', he, _, _, hc'⟩⟩ := HV.out
        · subst hn; simp at hlt
        · simp at he
          rw [he.1]
          have := hc' 0 _ (u8s_get B 0 (by omega))
          simpa [Addr.add] using World.cell?_spot this
      obtain ⟨b0, off, spot⟩ := ad
      simp at hspot
      subst hspot
      have hadd : (⟨b0, off, none⟩ : Addr).add i = ⟨b0, off + i, none⟩ := by unfold Addr.add; split <;> simp_all
      rw [hadd] at hc
      have hx : B.getD i 0 < 256 := getD_lt HV.out.1 i
      have HU : Hid (∀ q, q < 8 → upto B i (q + 1) = upto B i q ++ [(B.getD i 0).testBit (7 - q)]) := Lib.hid fun q hq => upto_succ B i q hq
      obtain ⟨X, hX⟩ : ∃ X, X = B.getD i 0 := ⟨_, rfl⟩
      rw [← hX] at hc hx HU
      have HC := Lib.hid hc
      clear hX hc hadd
      go_wp2_with fail
      obtain ⟨wo, hwo⟩ : ∃ wo : World, wo = wr := ⟨_, rfl⟩
      subst hwo
      go_loopw [3, 5] (fun l x wi => ∃ q : Nat, q ≤ 8 ∧ x = .int .i64 (7 - (q : Int)) ∧ wi.ownsRow w.heap.size 4 1 l (8 * i + q) (bools (upto B i q)) ∧ Below w.heap.size w wi) (fun _ x _ => (intOf x + 1).toNat)
      case atStart => exact ⟨0, by omega, rfl, HO.out, HB.out⟩
      case round =>
        obtain ⟨q, hq, rfl, ho, hb⟩ := hrel
        have HOi := Lib.hid ho
        have HBi := Lib.hid hb
        have hsz := hb.size
        have c0 := HC.out _ hb
        clear ho hb HO HB
        by_cases hq8 : q < 8
        · have h7 : (0 : Int) ≤ 7 - (q : Int) := by omega
          go_wp2_with (first
            | (go_at_call 16; refine (bit_int X (7 - (q : Int)) _ h7 (by omega)).mono ?_; rintro e w1 ⟨rfl, rfl⟩)
            | (at_builtin; refine wpList_append_own _ rfl _ _ 46 rfl w.heap.size 4 i0 (.bool false) 1 1 Try.underlying46 Hi.out Hz0.out Hz1.out Hz2.out rfl (by decide) _ _ _ rfl (HOi.out.alloc _) ⟨wr.heap.size, 0, none⟩ 1 1 [.bool (X.testBit (7 - q))] rfl rfl (cell_one_new _ _ _) (by intro u hu; simp at hu; subst hu; rfl) (by unfold maxLen; omega) (by omega) (by simp; omega) ?_; intro v' w1 hown hgr _))
          have HOn := Lib.hid hown
          have HBn : Hid (Below w.heap.size w w1) := Lib.hid ((HBi.out.alloc hsz _).grown hgr (by simp; omega) (fun k hk => (HOi.out.lt k hk).1))
          clear hown hgr
          go_roundw
          case rel => exact ⟨q + 1, by omega, by go_num, by rw [HU.out q hq8, bools_snoc]; exact HOn.out, HBn.out⟩
          case measure => simp [intOf]; omega
        · obtain rfl : q = 8 := by omega
          go_wp2_with fail
          go_roundw
          case rel => exact ⟨i + 1, by omega, by go_num, by have := HOi.out; rw [upto_eight B i hlt] at this; rw [show 8 * (i + 1) = 8 * i + 8 by omega]; exact this, HBi.out⟩
          case measure => simp [intOf]; omega
    · obtain rfl : i = B.length := by omega
      clear hlt hi
      go_wp2_with fail
      go_ret
      exact ⟨_, rfl, by have := HO.out; rw [upto_zero, List.take_length] at this; exact this, HB.out⟩
/-- the bools M lie at sp -/
def BoolsAt (w : World) (sp : Option Addr) (cap : Nat) (M : List Bool) : Prop :=
  M.length ≤ cap ∧ cap ≤ maxLen ∧ ((sp = none ∧ M = [] ∧ cap = 0) ∨ ∃ g off cs, sp = some ⟨g, off, none⟩ ∧ Blk w g 4 cs ∧ ∀ (i : Nat) (u : Value), (bools M)[i]? = some u → cs[off + i]? = some u)
theorem boolsAt_own {w : World} {base n cap : Nat} {sp : Option Addr} {M : List Bool} (hn : n = M.length) (h : w.ownsRow base 4 1 (.slice sp n cap) n (bools M)) : BoolsAt w sp cap M := by
  subst hn
  obtain ⟨hl, ⟨he, h0⟩ | ⟨g, cap', cur, hv, _, hh, hn, hm, hs, ht⟩⟩ := h
  · simp at he
    have hM : M = [] := List.eq_nil_of_length_eq_zero h0
    obtain ⟨rfl, _, rfl⟩ := he
    subst hM
    exact ⟨Nat.le_refl _, by unfold maxLen; omega, .inl ⟨rfl, rfl, rfl⟩⟩
  · simp at hv
    obtain ⟨rfl, rfl⟩ := hv
    refine ⟨hn, hm, .inr ⟨g, 0, cur.toList, rfl, by unfold Blk; simpa using hh, fun i u hu => ?_⟩⟩
    have hi := (List.getElem?_eq_some_iff.1 hu).1
    rw [bools_length] at hi
    rw [← ht, List.getElem?_take_of_lt (by omega)] at hu
    rw [Nat.zero_add]; exact hu
theorem BoolsAt.gr {w w' : World} {sp : Option Addr} {cap r : Nat} {M : List Bool} {t : TypeId} {ds : List Value} (h : BoolsAt w sp cap M) (hg : Gr w w' r) (hr : Blk w r t ds) (ht : t ≠ 4) : BoolsAt w' sp cap M := by
  obtain ⟨h1, h2, h | ⟨g, off, cs, rfl, hb, hc⟩⟩ := h
  · exact ⟨h1, h2, .inl h⟩
  · have := hb.ne hr (Ne.symm ht)
    exact ⟨h1, h2, .inr ⟨g, off, cs, rfl, hb.grown hg (by simpa using this), hc⟩⟩
theorem BoolsAt.cell {w : World} {sp : Option Addr} {cap k : Nat} {M : List Bool} (h : BoolsAt w sp cap M) (hk : k < M.length) : ∃ g off, sp = some ⟨g, off, none⟩ ∧ w.cell? ⟨g, off + k, none⟩ = some (.bool (M.getD k false)) := by
  obtain ⟨h1, h2, ⟨_, rfl, _⟩ | ⟨g, off, cs, rfl, hb, hc⟩⟩ := h
  · simp at hk
  · exact ⟨g, off, rfl, hb.cell (hc k _ (by simp [bools, hk, List.getD]))⟩
theorem BoolsAt.drop {w : World} {g off cap n : Nat} {M : List Bool} (h : BoolsAt w (some ⟨g, off, none⟩) cap M) (hn : n ≤ M.length) : BoolsAt w (some ⟨g, off + n, none⟩) (cap - n) (M.drop n) := by
  obtain ⟨h1, h2, ⟨he, _⟩ | ⟨g', off', cs, he, hb, hc⟩⟩ := h
  · simp at he
  · simp at he
    obtain ⟨rfl, rfl⟩ := he
    refine ⟨by rw [List.length_drop]; omega, by omega, .inr ⟨g, off + n, cs, rfl, hb, fun i u hu => ?_⟩⟩
    rw [Nat.add_assoc]
    apply hc
    simp only [bools, List.map_drop, List.getElem?_drop] at hu ⊢
    exact hu
theorem BoolsAt.drop_all {w : World} {g off cap n : Nat} {M : List Bool} (h : BoolsAt w (some ⟨g, off, none⟩) cap M) (hn : n ≤ M.length) (he : cap = n) : BoolsAt w (some ⟨g, off, none⟩) (cap - n) (M.drop n) := by
  obtain ⟨h1, h2, ⟨hx, _⟩ | ⟨g', off', cs, hx, hb, hc⟩⟩ := h
  · simp at hx
  · simp at hx
    obtain ⟨rfl, rfl⟩ := hx
    have hl : M.length = n := by omega
    refine ⟨by rw [List.length_drop]; omega, by omega, .inr ⟨g, off, cs, rfl, hb, fun i u hu => ?_⟩⟩
    have := (List.getElem?_eq_some_iff.1 hu).1
    rw [bools_length, List.length_drop] at this
    omega
theorem BoolsAt.nil {w : World} {cap : Nat} {M : List Bool} (h : BoolsAt w none cap M) : M = [] ∧ cap = 0 := by
  obtain ⟨h1, h2, ⟨_, h3, h4⟩ | ⟨g', off', cs, hx, hb, hc⟩⟩ := h
  · exact ⟨h3, h4⟩
  · simp at hx

/-- the bytes of the first k bits of L, as many as all of L need -/
def part (L : List Bool) (k : Nat) : List Nat := (List.range ((L.length + 7) / 8)).map (byteAt (L.take k))
theorem part_length (L : List Bool) (k : Nat) : (part L k).length = (L.length + 7) / 8 := by simp [part]
theorem part_get (L : List Bool) (k i : Nat) (h : i < (L.length + 7) / 8) : (part L k).getD i 0 = byteAt (L.take k) i := by simp [part, List.getD, h]
theorem part_lt (L : List Bool) (k : Nat) : ∀ x ∈ part L k, x < 256 := by
  intro x hx
  simp only [part, List.mem_map] at hx
  obtain ⟨i, _, rfl⟩ := hx
  exact byteAt_lt _ _
theorem part_all (L : List Bool) : part L L.length = bytesOf L := by simp [part, bytesOf]
theorem byteAt_nil (i : Nat) : byteAt [] i = 0 := byteAt_beyond _ _ (by simp)
theorem part_zero (L : List Bool) : u8s (part L 0) = List.replicate ((L.length + 7) / 8) (.int .u8 0) := by
  apply List.ext_getElem?
  intro i
  by_cases h : i < (L.length + 7) / 8
  · rw [u8s_get _ _ (by rw [part_length]; exact h), part_get _ _ _ h, List.take_zero, byteAt_nil, List.getElem?_replicate, if_pos h]
    rfl
  · rw [List.getElem?_eq_none (by rw [u8s_length, part_length]; omega), List.getElem?_replicate, if_neg h]
theorem byteAt_snoc (L : List Bool) (b : Bool) (i : Nat) : byteAt (L ++ [b]) i = if i = L.length / 8 then byteAt L i ||| (b.toNat * 2 ^ (7 - L.length % 8)) else byteAt L i := by
  by_cases h : i = L.length / 8
  · subst h
    rw [if_pos rfl, byteAt_fill L [b] (by have := Nat.mod_lt L.length (show 0 < 8 by omega); simp; omega)]
    have e8 : 8 - L.length % 8 - [b].length = 7 - L.length % 8 := by simp; omega
    rw [e8]
    cases b <;> rfl
  · rw [if_neg h]
    by_cases hlo : i < L.length / 8
    · exact byteAt_append_old _ _ _ (by omega)
    · rw [byteAt_append_far _ _ _ (by simp; omega), byteAt_beyond _ _ (by omega)]
theorem part_false (L : List Bool) (k : Nat) (hk : k < L.length) (hb : L.getD k false = false) : part L (k + 1) = part L k := by
  have e : L.take (k + 1) = L.take k ++ [false] := by
    rw [List.take_succ_eq_append_getElem hk]
    congr 2
    rw [List.getD_eq_getElem?_getD, List.getElem?_eq_getElem hk] at hb
    exact hb
  apply List.map_congr_left
  intro i _
  rw [e, byteAt_snoc]
  simp
theorem part_true (L : List Bool) (k : Nat) (hk : k < L.length) (hb : L.getD k false = true) :
    (u8s (part L k)).set (k / 8) (.int .u8 ((part L k).getD (k / 8) 0 ||| 2 ^ (7 - k % 8) : Nat)) = u8s (part L (k + 1)) := by
  have e : L.take (k + 1) = L.take k ++ [true] := by
    rw [List.take_succ_eq_append_getElem hk]
    congr 2
    rw [List.getD_eq_getElem?_getD, List.getElem?_eq_getElem hk] at hb
    exact hb
  have hl : (L.take k).length = k := by rw [List.length_take]; omega
  apply List.ext_getElem?
  intro i
  by_cases hi : i < (L.length + 7) / 8
  · rw [u8s_get (part L (k + 1)) _ (by rw [part_length]; exact hi), part_get _ _ _ hi, e, byteAt_snoc, hl]
    by_cases h : k / 8 = i
    · subst h
      rw [List.getElem?_set_self (by rw [u8s_length, part_length]; exact hi), if_pos rfl, part_get _ _ _ hi]
      simp
    · rw [List.getElem?_set_ne h, if_neg (Ne.symm h), u8s_get _ _ (by rw [part_length]; exact hi), part_get _ _ _ hi]
  · rw [List.getElem?_eq_none (by simp [u8s_length, part_length]; omega), List.getElem?_eq_none (by rw [u8s_length, part_length]; omega)]
theorem shr128 {s : Nat} (h : s < 8) : (128 : Int) / 2 ^ s = ((2 ^ (7 - s) : Nat) : Int) := by
  rcases (show s = 0 ∨ s = 1 ∨ s = 2 ∨ s = 3 ∨ s = 4 ∨ s = 5 ∨ s = 6 ∨ s = 7 by omega) with h | h | h | h | h | h | h | h <;> subst h <;> decide
theorem or128 (T s : Nat) (hT : T < 256) (h : s < 8) : bits BinOp.or IntKind.u8 (T : Int) ((128 : Int) / 2 ^ s) = ((T ||| 2 ^ (7 - s) : Nat) : Int) := by
  have : 2 ^ (7 - s) ≤ 2 ^ 7 := Nat.pow_le_pow_right (by omega) (by omega)
  rw [shr128 h, u8_or_nat _ _ hT (by omega)]

/-- what the verifier's Bytes answers: a new row -/
def RefBytesPost (L : List Bool) (w : World) (e : Ending) (w' : World) : Prop :=
  e = .returned (.slice (some ⟨w.heap.size, 0, none⟩) ((L.length + 7) / 8) ((L.length + 7) / 8)) ∧ Blk w' w.heap.size 5 (u8s (bytesOf L)) ∧ Below w.heap.size w w'

set_option maxHeartbeats 1000000 in
theorem refBytes_any (sp : Option Addr) (n cap : Nat) (L : List Bool) (w : World) (hn : n = L.length) (hl : BoolsAt w sp cap L) (hL : L.length < 17179869184) :
    Calls Try.prog 18 #[.slice sp n cap] w (RefBytesPost L w) := by
  have HL := Lib.hid hl
  have HN := Lib.hid hn
  have hnb : n < 17179869184 := by omega
  have hc := hl.2.1
  have hc2 := hl.1
  rw [← hn] at hc2
  unfold maxLen at hc
  clear hl hn hL
  obtain ⟨i0, hi, hz0, hz1, hz2⟩ := info_parts info5
  have Hi := Lib.hid hi
  have Hz0 := Lib.hid hz0
  have Hz1 := Lib.hid hz1
  have Hz2 := Lib.hid hz2
  clear hi hz0 hz1 hz2
  go_enter Try.func18, Try.ntmps18
  go_wp2_with (at_make; refine wpList_make_full _ rfl _ _ 47 rfl w.heap.size 5 i0 (.int .u8 0) 1 Try.underlying47 Hi.out Hz0.out Hz1.out .i64 .i64 _ _ ((n + 7) / 8) rfl rfl (by omega) (by omega) (by rw [Hz2.out]; omega) (by unfold maxLen; omega) (Nat.le_refl _) ?_; intro w1 hown hgr)
  have HG1 : Hid (Blk w1 w.heap.size 5 (u8s (part L 0))) := Lib.hid (by have := made_blk hown; rw [made_list] at this; rw [part_zero, ← HN.out]; exact this)
  have HB1 : Hid (Below w.heap.size w w1) := Lib.hid ((Below.refl _ _).grown hgr (Nat.le_refl _) (by simp))
  clear hown hgr
  go_loopw [4] (fun x wr => ∃ k : Nat, k ≤ n ∧ x = .int .i64 k ∧ Blk wr w.heap.size 5 (u8s (part L k)) ∧ Below w.heap.size w wr) (fun x _ => n - (intOf x).toNat)
  case atStart => exact ⟨0, Nat.zero_le _, rfl, HG1.out, HB1.out⟩
  case round =>
    obtain ⟨k, hk, rfl, hg, hb⟩ := hrel
    have HG := Lib.hid hg
    have HB := Lib.hid hb
    clear hg hb HG1 HB1
    by_cases hlt : k < n
    · have hlt' : k < L.length := by rw [← HN.out]; exact hlt
      obtain ⟨g, off, rfl, cb⟩ := HL.out.cell hlt'
      have hgw : g < w.heap.size := by
        have := World.block_lt_of_cell? w _ cb
        exact this
      have cb1 : _ := (HB.out.cell (p := ⟨g, off + k, none⟩) hgw).trans cb
      have hk8 : k / 8 < (L.length + 7) / 8 := by omega
      have hk8I : (k : Int) / 8 < ((n : Int) + 7) / 8 := by omega
      have c0 := HG.out.cell (u8s_get (part L k) (k / 8) (by rw [part_length]; exact hk8))
      have f0 := HG.out.frozen
      have hx := getD_lt (part_lt L k) (k / 8)
      have HPT := Lib.hid (part_true L k hlt')
      have HPF := Lib.hid (part_false L k hlt')
      obtain ⟨X, hX⟩ : ∃ X, X = (part L k).getD (k / 8) 0 := ⟨_, rfl⟩
      rw [← hX] at c0 hx HPT
      obtain ⟨b, hbv⟩ : ∃ b, b = L.getD k false := ⟨_, rfl⟩
      rw [← hbv] at cb1 HPT HPF
      have HOR := Lib.hid (or128 X (k % 8) hx (Nat.mod_lt _ (by omega)))
      clear hX hbv cb hlt' hk8
      cases b
      · go_wp2_with fail
        go_roundw
        case rel => exact ⟨k + 1, by omega, by go_num, by rw [HPF.out rfl]; exact HG.out, HB.out⟩
        case measure => simp [intOf]; omega
      · go_wp2_with fail
        have hst := HG.out.set (k / 8) (.int .u8 ((X ||| 2 ^ (7 - k % 8) : Nat) : Int))
        rw [HPT.out rfl] at hst
        go_roundw
        case rel => exact ⟨k + 1, by omega, by go_num, by rw [HOR.out]; exact hst, HB.out.setCell (Nat.le_refl _) _⟩
        case measure => simp [intOf]; omega
    · obtain rfl : k = n := by omega
      clear hlt hk
      go_wp2_with fail
      go_ret
      refine ⟨by rw [← HN.out]; rfl, by have := HG.out; rw [HN.out, part_all] at this; exact this, HB.out⟩
def build29S (v : Array (Nat × Value)) : Sem Value := Instr.build 41 v
theorem build29_eq (v : Array (Nat × Value)) : Instr.build 41 v = build29S v := rfl
theorem run_build29 (w : World) : (build29S #[]).run Try.prog w = .ok (.agg (wcells none []).toArray) w := by kernel_rfl
theorem isBytes_new {w : World} {g n : Nat} {L : List Bool} (h : Blk w g 5 (u8s (bytesOf L))) (hn : n = (L.length + 7) / 8) (hL : L.length < 17179869184) : IsBytes w (.slice (some ⟨g, 0, none⟩) n n) (bytesOf L) := by
  subst hn
  refine ⟨?_, .inr ⟨⟨g, 0, none⟩, (L.length + 7) / 8, by rw [bytesOf_length], by rw [bytesOf_length]; exact Nat.le_refl _, by unfold maxLen; omega, ?_⟩⟩
  · intro x hx
    simp only [bytesOf, List.mem_map] at hx
    obtain ⟨i, _, rfl⟩ := hx
    exact byteAt_lt _ _
  · intro i u hu
    have hadd : (⟨g, 0, none⟩ : Addr).add i = ⟨g, i, none⟩ := by unfold Addr.add; split <;> simp_all
    rw [hadd]
    exact h.cell hu

end Go.Proofs.Ytijjpbpoekbekaa

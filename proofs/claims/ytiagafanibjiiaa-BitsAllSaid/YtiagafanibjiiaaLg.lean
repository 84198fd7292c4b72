/- The verifier's own Bytes: contract. -/
import Derived.Test.YtiagafanibjiiaaLf
namespace Go.Proofs.Ytiagafanibjiiaa
open Go.RowKit Pl

/-- the bytes of the first k bits of L, as many as all of L need -/
def part (L : List Bool) (k : Nat) : List Nat := (List.range ((L.length + 7) / 8)).map (byteAt (L.take k))
theorem part_length (L : List Bool) (k : Nat) : (part L k).length = (L.length + 7) / 8 := by simp [part]
theorem part_get (L : List Bool) (k i : Nat) (h : i < (L.length + 7) / 8) : (part L k).getD i 0 = byteAt (L.take k) i := by simp [part, List.getD, h]
theorem part_lt (L : List Bool) (k : Nat) : ∀ x ∈ part L k, x < 256 := by
  intro x hx
  simp only [part, List.mem_map] at hx
  obtain ⟨i, _, rfl⟩ := hx
  exact byteAt_lt _ _
theorem part_all (L : List Bool) : part L L.length = bytesOf L := by simp [part, bytesOf]
theorem byteAt_nil (i : Nat) : byteAt [] i = 0 := byteAt_beyond _ _ (by simp)
theorem part_zero (L : List Bool) : u8s (part L 0) = List.replicate ((L.length + 7) / 8) (.int .u8 0) := by
  apply List.ext_getElem?
  intro i
  by_cases h : i < (L.length + 7) / 8
  · rw [u8s_get _ _ (by rw [part_length]; exact h), part_get _ _ _ h, List.take_zero, byteAt_nil, List.getElem?_replicate, if_pos h]
    rfl
  · rw [List.getElem?_eq_none (by rw [u8s_length, part_length]; omega), List.getElem?_replicate, if_neg h]
theorem byteAt_snoc (L : List Bool) (b : Bool) (i : Nat) : byteAt (L ++ [b]) i = if i = L.length / 8 then byteAt L i ||| (b.toNat * 2 ^ (7 - L.length % 8)) else byteAt L i := by
  by_cases h : i = L.length / 8
  · subst h
    rw [if_pos rfl, byteAt_fill L [b] (by have := Nat.mod_lt L.length (show 0 < 8 by omega); simp; omega)]
    have e8 : 8 - L.length % 8 - [b].length = 7 - L.length % 8 := by simp; omega
    rw [e8]
    cases b <;> rfl
  · rw [if_neg h]
    by_cases hlo : i < L.length / 8
    · exact byteAt_append_old _ _ _ (by omega)
    · rw [byteAt_append_far _ _ _ (by simp; omega), byteAt_beyond _ _ (by omega)]
theorem part_false (L : List Bool) (k : Nat) (hk : k < L.length) (hb : L.getD k false = false) : part L (k + 1) = part L k := by
  have e : L.take (k + 1) = L.take k ++ [false] := by
    rw [List.take_succ_eq_append_getElem hk]
    congr 2
    rw [List.getD_eq_getElem?_getD, List.getElem?_eq_getElem hk] at hb
    exact hb
  apply List.map_congr_left
  intro i _
  rw [e, byteAt_snoc]
  simp
theorem part_true (L : List Bool) (k : Nat) (hk : k < L.length) (hb : L.getD k false = true) :
    (u8s (part L k)).set (k / 8) (.int .u8 ((part L k).getD (k / 8) 0 ||| 2 ^ (7 - k % 8) : Nat)) = u8s (part L (k + 1)) := by
  have e : L.take (k + 1) = L.take k ++ [true] := by
    rw [List.take_succ_eq_append_getElem hk]
    congr 2
    rw [List.getD_eq_getElem?_getD, List.getElem?_eq_getElem hk] at hb
    exact hb
  have hl : (L.take k).length = k := by rw [List.length_take]; omega
  apply List.ext_getElem?
  intro i
  by_cases hi : i < (L.length + 7) / 8
  · rw [u8s_get (part L (k + 1)) _ (by rw [part_length]; exact hi), part_get _ _ _ hi, e, byteAt_snoc, hl]
    by_cases h : k / 8 = i
    · subst h
      rw [List.getElem?_set_self (by rw [u8s_length, part_length]; exact hi), if_pos rfl, part_get _ _ _ hi]
      simp
    · rw [List.getElem?_set_ne h, if_neg (Ne.symm h), u8s_get _ _ (by rw [part_length]; exact hi), part_get _ _ _ hi]
  · rw [List.getElem?_eq_none (by simp [u8s_length, part_length]; omega), List.getElem?_eq_none (by rw [u8s_length, part_length]; omega)]
theorem shr128 {s : Nat} (h : s < 8) : (128 : Int) / 2 ^ s = ((2 ^ (7 - s) : Nat) : Int) := by
  rcases (show s = 0 ∨ s = 1 ∨ s = 2 ∨ s = 3 ∨ s = 4 ∨ s = 5 ∨ s = 6 ∨ s = 7 by omega) with h | h | h | h | h | h | h | h <;> subst h <;> decide
theorem or128 (T s : Nat) (hT : T < 256) (h : s < 8) : bits BinOp.or IntKind.u8 (T : Int) ((128 : Int) / 2 ^ s) = ((T ||| 2 ^ (7 - s) : Nat) : Int) := by
  have : 2 ^ (7 - s) ≤ 2 ^ 7 := Nat.pow_le_pow_right (by omega) (by omega)
  rw [shr128 h, u8_or_nat _ _ hT (by omega)]

/-- what the verifier's Bytes answers: a new row -/
def RefBytesPost (L : List Bool) (w : World) (e : Ending) (w' : World) : Prop :=
  e = .returned (.slice (some ⟨w.heap.size, 0, none⟩) ((L.length + 7) / 8) ((L.length + 7) / 8)) ∧ Blk w' w.heap.size 5 (u8s (bytesOf L)) ∧ Below w.heap.size w w'

set_option maxHeartbeats 1000000 in
theorem refBytes_any (sp : Option Addr) (n cap : Nat) (L : List Bool) (w : World) (hn : n = L.length) (hl : BoolsAt w sp cap L) (hL : L.length < 17179869184) :
    Calls Try.prog 15 #[.slice sp n cap] w (RefBytesPost L w) := by
  have HL := Lib.hid hl
  have HN := Lib.hid hn
  have hnb : n < 17179869184 := by omega
  have hc := hl.2.1
  have hc2 := hl.1
  rw [← hn] at hc2
  unfold maxLen at hc
  clear hl hn hL
  obtain ⟨i0, hi, hz0, hz1, hz2⟩ := info_parts info5
  have Hi := Lib.hid hi
  have Hz0 := Lib.hid hz0
  have Hz1 := Lib.hid hz1
  have Hz2 := Lib.hid hz2
  clear hi hz0 hz1 hz2
  go_enter Try.func15, Try.ntmps15
  go_wp2_with (at_make; refine wpList_make_full _ rfl _ _ 35 rfl w.heap.size 5 i0 (.int .u8 0) 1 Try.underlying35 Hi.out Hz0.out Hz1.out .i64 .i64 _ _ ((n + 7) / 8) rfl rfl (by omega) (by omega) (by rw [Hz2.out]; omega) (by unfold maxLen; omega) (Nat.le_refl _) ?_; intro w1 hown hgr)
  have HG1 : Hid (Blk w1 w.heap.size 5 (u8s (part L 0))) := Lib.hid (by have := made_blk hown; rw [made_list] at this; rw [part_zero, ← HN.out]; exact this)
  have HB1 : Hid (Below w.heap.size w w1) := Lib.hid ((Below.refl _ _).grown hgr (Nat.le_refl _) (by simp))
  clear hown hgr
  go_loopw [4] (fun x wr => ∃ k : Nat, k ≤ n ∧ x = .int .i64 k ∧ Blk wr w.heap.size 5 (u8s (part L k)) ∧ Below w.heap.size w wr) (fun x _ => n - (intOf x).toNat)
  case atStart => exact ⟨0, Nat.zero_le _, rfl, HG1.out, HB1.out⟩
  case round =>
    obtain ⟨k, hk, rfl, hg, hb⟩ := hrel
    have HG := Lib.hid hg
    have HB := Lib.hid hb
    clear hg hb HG1 HB1
    by_cases hlt : k < n
    · have hlt' : k < L.length := by rw [← HN.out]; exact hlt
      obtain ⟨g, off, rfl, cb⟩ := HL.out.cell hlt'
      have hgw : g < w.heap.size := by
        have := World.block_lt_of_cell? w _ cb
        exact this
      have cb1 : _ := (HB.out.cell (p := ⟨g, off + k, none⟩) hgw).trans cb
      have hk8 : k / 8 < (L.length + 7) / 8 := by omega
      have hk8I : (k : Int) / 8 < ((n : Int) + 7) / 8 := by omega
      have c0 := HG.out.cell (u8s_get (part L k) (k / 8) (by rw [part_length]; exact hk8))
      have f0 := HG.out.frozen
      have hx := getD_lt (part_lt L k) (k / 8)
      have HPT := Lib.hid (part_true L k hlt')
      have HPF := Lib.hid (part_false L k hlt')
      obtain ⟨X, hX⟩ : ∃ X, X = (part L k).getD (k / 8) 0 := ⟨_, rfl⟩
      rw [← hX] at c0 hx HPT
      obtain ⟨b, hbv⟩ : ∃ b, b = L.getD k false := ⟨_, rfl⟩
      rw [← hbv] at cb1 HPT HPF
      have HOR := Lib.hid (or128 X (k % 8) hx (Nat.mod_lt _ (by omega)))
      clear hX hbv cb hlt' hk8
      cases b
      · go_wp2_with fail
        go_roundw
        case rel => exact ⟨k + 1, by omega, by go_num, by rw [HPF.out rfl]; exact HG.out, HB.out⟩
        case measure => simp [intOf]; omega
      · go_wp2_with fail
        have hst := HG.out.set (k / 8) (.int .u8 ((X ||| 2 ^ (7 - k % 8) : Nat) : Int))
        rw [HPT.out rfl] at hst
        go_roundw
        case rel => exact ⟨k + 1, by omega, by go_num, by rw [HOR.out]; exact hst, HB.out.setCell (Nat.le_refl _) _⟩
        case measure => simp [intOf]; omega
    · obtain rfl : k = n := by omega
      clear hlt hk
      go_wp2_with fail
      go_ret
      refine ⟨by rw [← HN.out]; rfl, by have := HG.out; rw [HN.out, part_all] at this; exact this, HB.out⟩
end Go.Proofs.Ytiagafanibjiiaa

/- The bit reader's Get: contract. -/
import Derived.Test.YtijjpbpoekbekaaBitsE
namespace Go.Proofs.Ytijjpbpoekbekaa
open Go.RowKit Pl

/-- n bits from at_ on, as a number -/
def take (B : List Nat) (at_ n : Nat) : Nat := val (((bitsB B).drop at_).take n)
theorem take_zero (B : List Nat) (at_ : Nat) : take B at_ 0 = 0 := by simp [take, val_nil]
theorem take_lt (B : List Nat) (at_ n : Nat) : take B at_ n < 2 ^ n := by
  have h1 := val_lt (((bitsB B).drop at_).take n)
  have h2 : (((bitsB B).drop at_).take n).length ≤ n := List.length_take_le _ _
  have h3 : 2 ^ (((bitsB B).drop at_).take n).length ≤ 2 ^ n := Nat.pow_le_pow_right (by omega) h2
  unfold take; omega
theorem take_add (B : List Nat) (at_ n c : Nat) (h : at_ + n + c ≤ 8 * B.length) : take B at_ (n + c) = take B at_ n * 2 ^ c + take B (at_ + n) c := by
  unfold take
  rw [List.take_add, List.drop_drop, val_append]
  congr 3
  rw [List.length_take, List.length_drop, bitsB_length]; omega

/-- of a writer's bytes a reader has the writer's bits -/
theorem take_bytes (L : List Bool) (at_ n : Nat) (h : at_ + n ≤ L.length) : take (bytesOf L) at_ n = val ((L.drop at_).take n) := by
  unfold take
  rw [bitsB_bytesOf, List.drop_append, show at_ - L.length = 0 by omega, List.drop_zero, List.take_append, List.length_drop, show n - (L.length - at_) = 0 by omega]
  simp
theorem take_mid (A M C : List Bool) (at_ n : Nat) (h1 : at_ = A.length) (h2 : n = M.length) : take (bytesOf (A ++ (M ++ C))) at_ n = val M := by
  subst h1 h2
  rw [take_bytes _ _ _ (by simp), List.drop_left, List.take_left]
theorem take_bitsOf (A C : List Bool) (v at_ n : Nat) (h1 : at_ = A.length) : take (bytesOf (A ++ (bitsOf v n ++ C))) at_ n = v % 2 ^ n := by
  rw [take_mid A _ C at_ n h1 (bitsOf_length _ _).symm, val_bitsOf]

/-- the step of Get's loop, as the program reckons it -/
theorem get_join (B : List Nat) (at_ d c m : Nat) (x : Int) (h : at_ + d + c ≤ 8 * B.length) (hc : c ≤ 8) (hx : x = take B (at_ + d) c) (hm : d + c ≤ 64) :
    bits BinOp.or IntKind.u64 (IntKind.u64.wrap ((take B at_ d : Nat) * 2 ^ c)) x = ((take B at_ (d + c) : Nat) : Int) := by
  subst hx
  have h1 := take_lt B at_ d
  have h2 := take_lt B (at_ + d) c
  have h3 : (2 : Nat) ^ (d + c) ≤ 2 ^ 64 := Nat.pow_le_pow_right (by omega) hm
  have h5 : take B at_ d * 2 ^ c + 2 ^ c ≤ 2 ^ (d + c) := by
    rw [Nat.pow_add, ← Nat.succ_mul]; exact Nat.mul_le_mul_right _ h1
  have h6 : (2 : Nat) ^ 64 = 18446744073709551616 := by decide
  have e1 : IntKind.u64.wrap (((take B at_ d : Nat) : Int) * 2 ^ c) = ((take B at_ d * 2 ^ c : Nat) : Int) := by
    rw [IntKind.wrap_u64]
    have : ((take B at_ d * 2 ^ c : Nat) : Int) = ((take B at_ d : Nat) : Int) * 2 ^ c := by simp
    rw [← this]; omega
  rw [e1, u64_or_nat _ _ (by omega) (by omega), nat_join c _ _ (Nat.mul_mod_left _ _) h2, take_add _ _ _ _ h]

theorem get_piece (B : List Nat) (p c k : Nat) (hB : p / 8 < B.length) (hx : ∀ x ∈ B, x < 256) (hc : c ≤ 8 - p % 8) (hk : k = 8 - p % 8 - c) :
    bits BinOp.and IntKind.u64 (((B.getD (p / 8) 0 : Nat) : Int) / 2 ^ k) (IntKind.u64.wrap (IntKind.u64.wrap (2 ^ c) - 1)) = ((take B p c : Nat) : Int) := by
  subst hk
  have hb : B.getD (p / 8) 0 < 256 := hx _ (by rw [List.getD_eq_getElem?_getD, List.getElem?_eq_getElem hB]; exact List.getElem_mem hB)
  have hU : U64 ((B.getD (p / 8) 0 : Nat) : Int) := ⟨by omega, by omega⟩
  rw [mask_low _ c (hU.shr _) (by omega), shr_int _ _ (by omega), Int.toNat_natCast, Int.toNat_natCast, read_step B p c hB hc]
  rfl

def GetPost (b base : Nat) (B : List Nat) (at_ n : Nat) (w : World) (e : Ending) (w' : World) : Prop :=
  e = .returned (.tuple #[.int .u64 (take B at_ n : Nat), .bool true]) ∧ Rd w' base b B (at_ + n) ∧ Gr w w' b
/-- how far Get has come: m bits are left -/
def GRel (b base : Nat) (B : List Nat) (at_ n : Nat) (w : World) (m : Nat) (wr : World) : Prop := m ≤ n ∧ Rd wr base b B (at_ + (n - m)) ∧ Gr w wr b

theorem row_cell {w : World} {base : Nat} {sp : Option Addr} {cap : Nat} {B : List Nat} (h : w.ownsRow base 5 1 (.slice sp B.length cap) B.length (u8s B)) {i : Nat} (hi : i < B.length) :
    ∃ g, sp = some ⟨g, 0, none⟩ ∧ w.cell? ⟨g, i, none⟩ = some (.int .u8 (B.getD i 0 : Nat)) := by
  obtain ⟨hl, ⟨he, h0⟩ | ⟨g, cap', cur, hv, _, hh, hn, _, hs, ht⟩⟩ := h
  · omega
  · simp at hv
    refine ⟨g, hv.1, ?_⟩
    have h2 := u8s_get B i hi
    rw [← ht, List.getElem?_take_of_lt (by omega)] at h2
    simp [World.cell?, hh]
    simpa using h2

/-- a round of Get: c bits more -/
theorem grel_step {b base : Nat} {B : List Nat} {at_ n : Nat} {w : World} {m c p X : Nat} {wr : World} {y z x1 : Int} {nq : Nat} (h : GRel b base B at_ n w m wr) (hp : p = at_ + (n - m)) (hX : X = B.getD (p / 8) 0) (hp8 : p + m ≤ 8 * B.length)
    (hc0 : 0 < c) (hcm : c ≤ m) (hc8 : c ≤ 8 - p % 8) (hn : n ≤ 64) (hx : ∀ x ∈ B, x < 256) (hy : y = (m : Int) - (c : Int)) (hz : z = (p : Int) + (c : Int))
    (h1 : x1 = bits BinOp.or IntKind.u64 (IntKind.u64.wrap ((take B at_ (n - m) : Nat) * 2 ^ c)) (bits BinOp.and IntKind.u64 ((X : Int) / 2 ^ (8 - p % 8 - c)) (IntKind.u64.wrap (IntKind.u64.wrap (2 ^ c) - 1)))) :
    ∃ m' : Nat, m' ≤ n ∧ Value.int .i64 y = .int .i64 m' ∧ Value.int .u64 x1 = .int .u64 (take B at_ (n - m') : Nat) ∧ GRel b base B at_ n w m' ((wr.drewN nq).setCell ⟨b, 1, none⟩ (.int .i64 z)) := by
  obtain ⟨hmn, ⟨r1, r2, r3, r4, sp, cap, hb, ho⟩, hg⟩ := h
  have e : n - (m - c) = n - m + c := by omega
  refine ⟨m - c, by omega, by congr 1; omega, ?_, by omega, ⟨r1, by omega, r3, r4, sp, cap, ?_, ?_⟩, (hg.drewN _).setCell _ _⟩
  · rw [e, h1, hX, get_piece B p c _ (by omega) hx hc8 rfl]
    congr 1
    exact get_join B at_ (n - m) c m _ (by omega) (by omega) (by rw [hp]) (by omega)
  · have := (hb.drewN nq).set 1 (.int .i64 z)
    rw [e]
    have ez : z = ((at_ + (n - m + c) : Nat) : Int) := by omega
    rw [← ez]
    exact this
  · refine ownsRow_row (r := some b) (w := wr) ho ((Gr.refl wr b).drewN nq |>.setCell 1 _) fun k t cs e' hk _ => ?_
    simp at e'
    subst e'
    intro ht
    subst ht
    exact hk.ne hb (by decide) rfl

set_option maxHeartbeats 1000000 in
theorem get_any (b base : Nat) (B : List Nat) (at_ n : Nat) (w : World) (hr : Rd w base b B at_) (hn : n ≤ 64) (hl : at_ + n ≤ 8 * B.length) :
    Calls Try.prog 20 #[.pointer (some ⟨b, 0, none⟩), .int .i64 n] w (GetPost b base B at_ n w) := by
  have h3 := hr.2.2.1
  have hl' : (n : Int) ≤ 8 * (B.length : Int) - (at_ : Int) := by omega
  have HR := Lib.hid hr
  clear hr
  go_enter Try.func20, Try.ntmps20
  go_wp2_with (go_at_call 26; refine (left_any b base B at_ _ HR.out).mono ?_; rintro e w' ⟨rfl, kk, rfl⟩)
  go_loopw [1, 6] (fun x y wr => ∃ m : Nat, m ≤ n ∧ x = .int .i64 m ∧ y = .int .u64 (take B at_ (n - m) : Nat) ∧ GRel b base B at_ n w m wr) (fun x _ _ => (intOf x).toNat)
  case atStart => exact ⟨n, Nat.le_refl _, rfl, by rw [Nat.sub_self, take_zero]; rfl, Nat.le_refl _, by rw [Nat.sub_self]; exact HR.out, (Gr.refl _ _).drewN _⟩
  case round =>
    obtain ⟨m, hm, rfl, rfl, hrel⟩ := hrel
    have HG := Lib.hid hrel
    clear hrel
    by_cases h0 : 0 < m
    · obtain ⟨_, _, _, _, sp, cap, hb, ho⟩ := HG.out.2.1
      have c0 := hb.cell (o := 0) rfl
      have c1 := hb.cell (o := 1) rfl
      have hf := hb.frozen
      obtain ⟨p, hp⟩ : ∃ p, p = at_ + (n - m) := ⟨_, rfl⟩
      rw [← hp] at c1
      have hp8 : p + m ≤ 8 * B.length := by omega
      have HP := Lib.hid hp
      clear hp hb
      have HO := Lib.hid ho
      clear ho
      have hp1 : p / 8 < B.length := by omega
      have hidx : (p : Int) / 8 < (B.length : Int) := by omega
      obtain ⟨g, rfl, cb⟩ := row_cell HO.out hp1
      have hb256 : B.getD (p / 8) 0 < 256 := by
        have := HG.out.2.1.2.2.2.1
        exact this _ (by rw [List.getD_eq_getElem?_getD, List.getElem?_eq_getElem hp1]; exact List.getElem_mem hp1)
      have HX : Hid (∀ x ∈ B, x < 256) := Lib.hid HG.out.2.1.2.2.2.1
      obtain ⟨X, hX⟩ : ∃ X, X = B.getD (p / 8) 0 := ⟨_, rfl⟩
      rw [← hX] at cb hb256
      have HXX := Lib.hid hX
      clear hX
      by_cases hd : (m : Int) < 8 - (p : Int) % 8
      · go_wp2
        go_quiet (fail)
        go_wp2
        go_roundw
        case rel => refine grel_step HG.out HP.out (c := m) HXX.out hp8 h0 (Nat.le_refl _) (by omega) hn HX.out ?_ ?_ ?_ <;> first | omega | rfl | simp
        case measure => simp [intOf]; omega
      · go_wp2
        go_quiet (fail)
        go_wp2
        go_roundw
        case rel => refine grel_step HG.out HP.out (c := 8 - p % 8) HXX.out hp8 (by omega) (by omega) (Nat.le_refl _) hn HX.out ?_ ?_ ?_ <;> first | omega | rfl | simp
        case measure => simp [intOf]; omega
    · obtain rfl : m = 0 := by omega
      go_wp2
      go_ret2
      exact ⟨rfl, by have := HG.out.2.1; simpa using this, HG.out.2.2⟩
end Go.Proofs.Ytijjpbpoekbekaa

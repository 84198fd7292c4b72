/- Texts put together: NumA, NumB. -/
import Derived.Test.YthgpdnffahmhjaaGreatDoorMg1
import Derived.Test.YthgpdnffahmhjaaGreatDoorMg3
set_option linter.unusedSimpArgs false
set_option linter.unusedVariables false
set_option maxRecDepth 100000
namespace Go.Proofs.YthgpdnffahmhjaaGreatDoor.Pl
end Go.Proofs.YthgpdnffahmhjaaGreatDoor.Pl
namespace Go.Proofs.YthgpdnffahmhjaaGreatDoor.S2.Pl
end Go.Proofs.YthgpdnffahmhjaaGreatDoor.S2.Pl
namespace Go.Proofs.YthgpdnffahmhjaaGreatDoor.S2
open Go.RowKit _root_.Go.Proofs.YthgpdnffahmhjaaGreatDoor.Pl _root_.Go.Proofs.YthgpdnffahmhjaaGreatDoor.S2.Pl

def PRel (n : Int) (base : Nat) (w : World) (m : Int) (v : Value) (wr : World) : Prop :=
  ∃ B : List Nat, B ++ vput m.toNat = vput n.toNat ∧ B.length < 10 ∧ wr.ownsRow base 5 1 v B.length (u8s B) ∧ Below base w wr
theorem prel_start (n : Int) (w : World) : PRel n w.heap.size w n (.slice none 0 0) w := ⟨[], rfl, by simp, own_nil _ _, Below.refl _ _⟩
theorem prel_step {n : Int} {base : Nat} {w wr w1 : World} {m : Int} {v v' : Value} {B : List Nat} {c : Int} (hn : U64 n) (hB : B ++ vput m.toNat = vput n.toNat) (hm : 127 < m)
    (hown : wr.ownsRow base 5 1 v B.length (u8s B)) (hbel : Below base w wr) (hbase : base ≤ wr.heap.size)
    (hown' : w1.ownsRow base 5 1 v' (B.length + 1) (u8s B ++ [.int .u8 c])) (hgr : (wr.alloc (.cells #[.int .u8 c] 5)).grownBy w1 v.ownBlock) (hc : c = m % 128 + 128) :
    PRel n base w (m / 128) v' w1 := by
  have hm' : ¬ m.toNat < 128 := by omega
  have e1 : (m / 128).toNat = m.toNat / 128 := by omega
  have e2 : c = ((m.toNat % 128 + 128 : Nat) : Int) := by rw [hc]; omega
  rw [vput_big hm'] at hB
  rw [e2, ← u8s_snoc] at hown'
  have hl := (vput_len64 n.toNat (by obtain ⟨h1, h2⟩ := hn; omega)).1
  have hp := (vput_on (m.toNat / 128) []).2.2.2.2
  rw [← hB] at hl
  simp only [List.length_append, List.length_cons] at hl
  refine ⟨B ++ [m.toNat % 128 + 128], by rw [e1]; simpa using hB, by simp; omega, by simpa using hown', bel_append hbel _ hown hgr hbase⟩
theorem prel_done {n : Int} {w wr w1 : World} {m : Int} {v v' : Value} {B : List Nat} {c : Int} (hB : B ++ vput m.toNat = vput n.toNat) (hm0 : 0 ≤ m) (hm : m < 128)
    (hown : wr.ownsRow w.heap.size 5 1 v B.length (u8s B)) (hbel : Below w.heap.size w wr) (hbase : w.heap.size ≤ wr.heap.size)
    (hown' : w1.ownsRow w.heap.size 5 1 v' (B.length + 1) (u8s B ++ [.int .u8 c])) (hgr : (wr.alloc (.cells #[.int .u8 c] 5)).grownBy w1 v.ownBlock) (hc : c = m) :
    MadePost (vput n.toNat) w (.returned v') w1 := by
  have e2 : c = ((m.toNat : Nat) : Int) := by rw [hc]; omega
  rw [vput_small (by omega)] at hB
  rw [e2, ← u8s_snoc, hB] at hown'
  refine ⟨v', rfl, ?_, bel_append hbel _ hown hgr hbase⟩
  rw [← hB] at hown' ⊢
  simpa using hown'
theorem or128 {m : Int} (h : U64 m) : bits BinOp.or IntKind.u64 (bits BinOp.and IntKind.u64 m 127) 128 % 256 = m % 128 + 128 := by
  have h0 := h.1
  have h1 := u64_and m 127 h.1 h.2 (by omega) (by omega)
  have h3 : m.toNat &&& (127 : Int).toNat = m.toNat % 128 := nat_mask7 _
  rw [h3] at h1
  rw [h1]
  show bits BinOp.or IntKind.u64 _ ((128 : Nat) : Int) % 256 = _
  rw [u64_or_nat _ 128 (by omega) (by omega), Nat.or_comm, nat_join 7 128 _ (by decide) (by omega)]
  omega

set_option maxHeartbeats 1000000 in
theorem put_any (n : Int) (w : World) (hn : U64 n) : Calls Tryz.prog 41 #[.int .u64 n] w (MadePost (vput n.toNat) w) := by
  have hn0 := hn.1
  have HN := Lib.hid hn
  clear hn
  go_enter Tryz.func41, Tryz.ntmps41
  go_wp2
  go_loopw [0, 3] (fun x v wr => ∃ m : Int, x = .int .u64 m ∧ U64 m ∧ PRel n w.heap.size w m v wr) (fun x _ _ => (intOf x).toNat)
  case atStart => exact ⟨n, rfl, HN.out, prel_start n w⟩
  case round =>
    obtain ⟨m, rfl, hm, hr⟩ := hrel
    have hm0 := hm.1
    have HM := Lib.hid hm
    obtain ⟨B, hB, hB10, hown, hbel⟩ := hr
    have HB := Lib.hid hB
    have HO := Lib.hid hown
    have HBel := Lib.hid hbel
    have hsz := hbel.size
    clear hm hB hown hbel
    obtain ⟨sp, cap, rfl, hc1, hc2⟩ := ownsRow_slice HO.out
    by_cases hlt : 127 < m
    · go_wp2_with (at_builtin; refine wpList_append_byte rfl (.tmp 6) (.tmp 11) rfl w.heap.size (.slice sp B.length cap) B.length (u8s B) _ rfl HO.out rfl (by omega) hsz ?_; intro v' w1 hown hgr)
      go_roundw
      case rel => exact ⟨m / 128, rfl, HM.out.shr 7, prel_step HN.out HB.out hlt HO.out HBel.out hsz hown hgr (or128 HM.out)⟩
      case measure => simp [intOf]; omega
    · go_wp2_with (at_builtin; refine wpList_append_byte rfl (.tmp 15) (.tmp 18) rfl w.heap.size (.slice sp B.length cap) B.length (u8s B) _ rfl HO.out rfl (by omega) hsz ?_; intro v' w1 hown hgr)
      go_ret
      exact prel_done HB.out hm0 (by omega) HO.out HBel.out hsz hown hgr (by omega)

theorem made_four {w : World} {c0 c1 c2 c3 : Int} {n : Nat} (h0 : c0 = ((n % 256 : Nat) : Int)) (h1 : c1 = ((n / 256 % 256 : Nat) : Int)) (h2 : c2 = ((n / 65536 % 256 : Nat) : Int)) (h3 : c3 = ((n / 16777216 % 256 : Nat) : Int)) :
    MadePost (four n) w (.returned (.slice (some ⟨w.heap.size, 0, none⟩) 4 4)) (w.alloc (.cells #[.int .u8 c0, .int .u8 c1, .int .u8 c2, .int .u8 c3] 5)) := by
  subst h0 h1 h2 h3
  exact ⟨_, rfl, own_new w (u8s (four n)) 5 (Nat.le_refl _) (by simp [u8s, four, maxLen]), (Below.refl _ _).alloc (Nat.le_refl _) _⟩
theorem four_any (n : Int) (w : World) (hn : 0 ≤ n) : Calls Tryz.prog 78 #[.int .u32 n] w (MadePost (four n.toNat) w) := by
  go_enter Tryz.func78, Tryz.ntmps78
  go_wp2
  go_ret
  exact made_four (by omega) (by omega) (by omega) (by omega)
end Go.Proofs.YthgpdnffahmhjaaGreatDoor.S2
namespace Go.Proofs.YthgpdnffahmhjaaGreatDoor.Pl
end Go.Proofs.YthgpdnffahmhjaaGreatDoor.Pl
namespace Go.Proofs.YthgpdnffahmhjaaGreatDoor.S2.Pl
end Go.Proofs.YthgpdnffahmhjaaGreatDoor.S2.Pl
namespace Go.Proofs.YthgpdnffahmhjaaGreatDoor.S2
open Go.RowKit _root_.Go.Proofs.YthgpdnffahmhjaaGreatDoor.Pl _root_.Go.Proofs.YthgpdnffahmhjaaGreatDoor.S2.Pl

theorem _root_.Go.Proofs.YthgpdnffahmhjaaGreatDoor.IsBytes.cells {w : World} {v : Value} {B : List Nat} (h : IsBytes w v B) (h0 : 0 < B.length) : ∃ b off cap, v = .slice (some ⟨b, off, none⟩) B.length cap ∧ B.length ≤ cap ∧ cap ≤ maxLen ∧ b < w.heap.size ∧ (∀ i, i < B.length → w.cell? ⟨b, off + i, none⟩ = some (.int .u8 (B.getD i 0 : Nat))) := by
  obtain ⟨hx, ⟨rfl, rfl⟩ | ⟨a, cap, rfl, h1, h2, hc⟩⟩ := h
  · simp at h0
  · obtain ⟨b, off, spot⟩ := a
    have hc0 := hc 0 _ (u8s_get B 0 h0)
    have hspot : spot = none := by simpa [Addr.add] using World.cell?_spot hc0
    subst hspot
    refine ⟨b, off, cap, rfl, h1, h2, World.block_lt_of_cell? w _ hc0, fun i hi => ?_⟩
    have := hc i _ (u8s_get B i hi)
    have hadd : (⟨b, off, none⟩ : Addr).add i = ⟨b, off + i, none⟩ := by unfold Addr.add; split <;> simp_all
    rwa [hadd] at this

def getFour (B : List Nat) : Nat := if B.length < 4 then 0 else B.getD 0 0 + 256 * B.getD 1 0 + 65536 * B.getD 2 0 + 16777216 * B.getD 3 0
def FourPost (B : List Nat) (w : World) (e : Ending) (w' : World) : Prop := e = .returned (.int .u32 (getFour B : Nat)) ∧ ∃ k, w.drewN k = w'

theorem getFour_few (v : Value) (B : List Nat) (w : World) (hv : IsBytes w v B) (h : B.length < 4) : Calls Tryz.prog 114 #[v] w (FourPost B w) := by
  obtain ⟨a, cap, rfl, hcap, hmax⟩ := hv.slice
  have e : getFour B = 0 := if_pos h
  have E := Lib.hid e
  clear e hv
  go_enter Tryz.func114, Tryz.ntmps114
  go_wp2
  go_ret
  exact ⟨by rw [E.out]; rfl, 0, rfl⟩

theorem or_step (k P a b : Nat) (hP : P = 2 ^ k) (ha : a < P) (hab : a + b * P < 4294967296) : bits BinOp.or IntKind.u32 (a : Int) ((b * P : Nat) : Int) = ((a + b * P : Nat) : Int) := by
  subst hP
  rw [u32_or_nat _ _ (by omega) (by omega), Nat.or_comm, nat_join k _ _ (Nat.mul_mod_left _ _) ha, Nat.add_comm]
theorem or_four (a b c d : Nat) (ha : a < 256) (hb : b < 256) (hc : c < 256) (hd : d < 256) :
    bits BinOp.or IntKind.u32 (bits BinOp.or IntKind.u32 (bits BinOp.or IntKind.u32 (a : Int) ((b : Int) * 256)) ((c : Int) * 65536)) ((d : Int) * 16777216) = ((a + 256 * b + 65536 * c + 16777216 * d : Nat) : Int) := by
  have h1 := or_step 8 256 a b rfl (by omega) (by omega)
  have h2 := or_step 16 65536 (a + b * 256) c (by decide +kernel) (by omega) (by omega)
  have h3 := or_step 24 16777216 (a + b * 256 + c * 65536) d (by decide +kernel) (by omega) (by omega)
  have e1 : ((b * 256 : Nat) : Int) = (b : Int) * 256 := by simp
  have e2 : ((c * 65536 : Nat) : Int) = (c : Int) * 65536 := by simp
  have e3 : ((d * 16777216 : Nat) : Int) = (d : Int) * 16777216 := by simp
  rw [e1] at h1
  rw [e2] at h2
  rw [e3] at h3
  rw [h1, h2, h3]
  omega

set_option maxHeartbeats 400000 in
theorem getFour_any (v : Value) (B : List Nat) (w : World) (hv : IsBytes w v B) : Calls Tryz.prog 114 #[v] w (FourPost B w) := by
  by_cases h : B.length < 4
  · exact getFour_few v B w hv h
  · obtain ⟨b, off, cap, rfl, h1, h2, _, hc⟩ := hv.cells (by omega)
    have c0 : w.cell? ⟨b, off, none⟩ = some (.int .u8 (B.getD 0 0 : Nat)) := hc 0 (by omega)
    have c1 := hc 1 (by omega)
    have c2 := hc 2 (by omega)
    have c3 := hc 3 (by omega)
    have l0 := getD_lt hv.1 0
    have l1 := getD_lt hv.1 1
    have l2 := getD_lt hv.1 2
    have l3 := getD_lt hv.1 3
    have e : getFour B = B.getD 0 0 + 256 * B.getD 1 0 + 65536 * B.getD 2 0 + 16777216 * B.getD 3 0 := if_neg h
    unfold FourPost
    rw [e]
    generalize B.getD 0 0 = x0 at *
    generalize B.getD 1 0 = x1 at *
    generalize B.getD 2 0 = x2 at *
    generalize B.getD 3 0 = x3 at *
    have hl0 : (0 : Int) < B.length := by omega
    have hl1 : (1 : Int) < B.length := by omega
    have hl2 : (2 : Int) < B.length := by omega
    have hl3 : (3 : Int) < B.length := by omega
    have hn0 : 0 < B.length := by omega
    have hn1 : 1 < B.length := by omega
    have hn2 : 2 < B.length := by omega
    have hn3 : 3 < B.length := by omega
    clear hv hc e
    go_enter Tryz.func114, Tryz.ntmps114
    go_wp2
    go_quiet (fail)
    go_wp2
    go_ret
    exact ⟨ret_int (or_four _ _ _ _ l0 l1 l2 l3), _, rfl⟩

def EndsOk (x k : Nat) : Prop := ¬ (k = 9 ∧ 1 < x) ∧ (k = 0 ∨ x ≠ 0)
theorem ends_yes (x k : Nat) (w : World) (h : EndsOk x k) : Calls Tryz.prog 153 #[.int .u8 x, .int .i64 k] w fun e w' => e = .returned (.bool true) ∧ w = w' := by
  obtain ⟨h1, h2⟩ := h
  by_cases c1 : k = 9
  · subst c1
    have h3 : (x : Int) ≤ 1 := by omega
    have h4 : ¬ (x : Int) = 0 := by omega
    have h5 : ((x : Int) == 0) = false := by simpa using h4
    have h6 : ((x : Int) != 0) = true := by simpa using h4
    clear h1 h2
    go_enter Tryz.func153, Tryz.ntmps153
    go_wp2
    go_ret
    exact ⟨rfl, rfl⟩
  · have c2 : ((k : Int) == 9) = false := by simp; omega
    by_cases c3 : k = 0
    · subst c3
      clear h1 h2
      go_enter Tryz.func153, Tryz.ntmps153
      go_wp2
      go_ret
      exact ⟨rfl, rfl⟩
    · have c4 : ((k : Int) == 0) = false := by simp; omega
      have h6 : ((x : Int) != 0) = true := by simp; omega
      clear h1 h2
      go_enter Tryz.func153, Tryz.ntmps153
      go_wp2
      go_ret
      exact ⟨rfl, rfl⟩
theorem ends_no (x k : Nat) (w : World) (h : ¬ EndsOk x k) : Calls Tryz.prog 153 #[.int .u8 x, .int .i64 k] w fun e w' => e = .returned (.bool false) ∧ w = w' := by
  unfold EndsOk at h
  by_cases c1 : k = 9 ∧ 1 < x
  · obtain ⟨rfl, c1⟩ := c1
    have h3 : 1 < (x : Int) := by omega
    clear h
    go_enter Tryz.func153, Tryz.ntmps153
    go_wp2
    go_ret
    exact ⟨rfl, rfl⟩
  · have hk : k ≠ 0 := by omega
    have hx : x = 0 := by omega
    subst hx
    have c4 : ((k : Int) == 0) = false := by simp; omega
    clear h c1
    by_cases c5 : k = 9
    · subst c5
      go_enter Tryz.func153, Tryz.ntmps153
      go_wp2
      go_ret
      exact ⟨rfl, rfl⟩
    · have c2 : ((k : Int) == 9) = false := by simp; omega
      go_enter Tryz.func153, Tryz.ntmps153
      go_wp2
      go_ret
      exact ⟨rfl, rfl⟩
end Go.Proofs.YthgpdnffahmhjaaGreatDoor.S2

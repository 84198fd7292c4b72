/- Texts put together: NumA. -/
import Derived.Test.YtdjkkohckfndkaaGreatDoorEg1
import Derived.Test.YtdjkkohckfndkaaGreatDoorEg11
set_option linter.unusedSimpArgs false
set_option linter.unusedVariables false
set_option maxRecDepth 100000
namespace Go.Proofs.YtdjkkohckfndkaaGreatDoor.Pl
end Go.Proofs.YtdjkkohckfndkaaGreatDoor.Pl
namespace Go.Proofs.YtdjkkohckfndkaaGreatDoor.S2.Pl
end Go.Proofs.YtdjkkohckfndkaaGreatDoor.S2.Pl
namespace Go.Proofs.YtdjkkohckfndkaaGreatDoor.S2
open Go.RowKit _root_.Go.Proofs.YtdjkkohckfndkaaGreatDoor.Pl _root_.Go.Proofs.YtdjkkohckfndkaaGreatDoor.S2.Pl

def PRel (n : Int) (base : Nat) (w : World) (m : Int) (v : Value) (wr : World) : Prop :=
  ∃ B : List Nat, B ++ vput m.toNat = vput n.toNat ∧ B.length < 10 ∧ wr.ownsRow base 5 1 v B.length (u8s B) ∧ Below base w wr
theorem prel_start (n : Int) (w : World) : PRel n w.heap.size w n (.slice none 0 0) w := ⟨[], rfl, by simp, own_nil _ _, Below.refl _ _⟩
theorem prel_step {n : Int} {base : Nat} {w wr w1 : World} {m : Int} {v v' : Value} {B : List Nat} {c : Int} (hn : U64 n) (hB : B ++ vput m.toNat = vput n.toNat) (hm : 127 < m)
    (hown : wr.ownsRow base 5 1 v B.length (u8s B)) (hbel : Below base w wr) (hbase : base ≤ wr.heap.size)
    (hown' : w1.ownsRow base 5 1 v' (B.length + 1) (u8s B ++ [.int .u8 c])) (hgr : (wr.alloc (.cells #[.int .u8 c] 5)).grownBy w1 v.ownBlock) (hc : c = m % 128 + 128) :
    PRel n base w (m / 128) v' w1 := by
  have hm' : ¬ m.toNat < 128 := by omega
  have e1 : (m / 128).toNat = m.toNat / 128 := by omega
  have e2 : c = ((m.toNat % 128 + 128 : Nat) : Int) := by rw [hc]; omega
  rw [vput_big hm'] at hB
  rw [e2, ← u8s_snoc] at hown'
  have hl := (vput_len64 n.toNat (by obtain ⟨h1, h2⟩ := hn; omega)).1
  have hp := (vput_on (m.toNat / 128) []).2.2.2.2
  rw [← hB] at hl
  simp only [List.length_append, List.length_cons] at hl
  refine ⟨B ++ [m.toNat % 128 + 128], by rw [e1]; simpa using hB, by simp; omega, by simpa using hown', bel_append hbel _ hown hgr hbase⟩
theorem prel_done {n : Int} {w wr w1 : World} {m : Int} {v v' : Value} {B : List Nat} {c : Int} (hB : B ++ vput m.toNat = vput n.toNat) (hm0 : 0 ≤ m) (hm : m < 128)
    (hown : wr.ownsRow w.heap.size 5 1 v B.length (u8s B)) (hbel : Below w.heap.size w wr) (hbase : w.heap.size ≤ wr.heap.size)
    (hown' : w1.ownsRow w.heap.size 5 1 v' (B.length + 1) (u8s B ++ [.int .u8 c])) (hgr : (wr.alloc (.cells #[.int .u8 c] 5)).grownBy w1 v.ownBlock) (hc : c = m) :
    MadePost (vput n.toNat) w (.returned v') w1 := by
  have e2 : c = ((m.toNat : Nat) : Int) := by rw [hc]; omega
  rw [vput_small (by omega)] at hB
  rw [e2, ← u8s_snoc, hB] at hown'
  refine ⟨v', rfl, ?_, bel_append hbel _ hown hgr hbase⟩
  rw [← hB] at hown' ⊢
  simpa using hown'
theorem or128 {m : Int} (h : U64 m) : bits BinOp.or IntKind.u64 (bits BinOp.and IntKind.u64 m 127) 128 % 256 = m % 128 + 128 := by
  have h0 := h.1
  have h1 := u64_and m 127 h.1 h.2 (by omega) (by omega)
  have h3 : m.toNat &&& (127 : Int).toNat = m.toNat % 128 := nat_mask7 _
  rw [h3] at h1
  rw [h1]
  show bits BinOp.or IntKind.u64 _ ((128 : Nat) : Int) % 256 = _
  rw [u64_or_nat _ 128 (by omega) (by omega), Nat.or_comm, nat_join 7 128 _ (by decide) (by omega)]
  omega

theorem div_u64 {m : Int} (h : U64 m) : IntKind.u64.wrap (m.tdiv 128) = m / 128 := by
  obtain ⟨h0, h1⟩ := h
  rw [Int.tdiv_eq_ediv_of_nonneg h0, IntKind.wrap_u64]
  omega

set_option maxHeartbeats 1000000 in
theorem put_any (n : Int) (w : World) (hn : U64 n) : Calls Tryz.prog 92 #[.int .u64 n] w (MadePost (vput n.toNat) w) := by
  have hn0 := hn.1
  have HN := Lib.hid hn
  clear hn
  go_enter Tryz.func92, Tryz.ntmps92
  go_wp2
  go_loopw [0, 3] (fun x v wr => ∃ m : Int, x = .int .u64 m ∧ U64 m ∧ PRel n w.heap.size w m v wr) (fun x _ _ => (intOf x).toNat)
  case atStart => exact ⟨n, rfl, HN.out, prel_start n w⟩
  case round =>
    obtain ⟨m, rfl, hm, hr⟩ := hrel
    have hm0 := hm.1
    have HM := Lib.hid hm
    obtain ⟨B, hB, hB10, hown, hbel⟩ := hr
    have HB := Lib.hid hB
    have HO := Lib.hid hown
    have HBel := Lib.hid hbel
    have hsz := hbel.size
    clear hm hB hown hbel
    obtain ⟨sp, cap, rfl, hc1, hc2⟩ := ownsRow_slice HO.out
    by_cases hlt : 127 < m
    · go_wp2_with (at_builtin; refine wpList_append_byte rfl (.tmp 6) (.tmp 11) rfl w.heap.size (.slice sp B.length cap) B.length (u8s B) _ rfl HO.out rfl (by omega) hsz ?_; intro v' w1 hown hgr)
      go_roundw
      case rel => exact ⟨m / 128, rfl, HM.out.shr 7, prel_step HN.out HB.out hlt HO.out HBel.out hsz hown hgr (or128 HM.out)⟩
      case measure => simp [intOf]; omega
    · go_wp2_with (at_builtin; refine wpList_append_byte rfl (.tmp 15) (.tmp 18) rfl w.heap.size (.slice sp B.length cap) B.length (u8s B) _ rfl HO.out rfl (by omega) hsz ?_; intro v' w1 hown hgr)
      go_ret
      exact prel_done HB.out hm0 (by omega) HO.out HBel.out hsz hown hgr (by omega)

set_option maxHeartbeats 1000000 in
theorem refPut_any (n : Int) (w : World) (hn : U64 n) : Calls Tryz.prog 44 #[.int .u64 n] w (MadePost (vput n.toNat) w) := by
  have hn0 := hn.1
  have HN := Lib.hid hn
  clear hn
  go_enter Tryz.func44, Tryz.ntmps44
  go_wp2
  go_loopw [0, 3] (fun x v wr => ∃ m : Int, x = .int .u64 m ∧ U64 m ∧ PRel n w.heap.size w m v wr) (fun x _ _ => (intOf x).toNat)
  case atStart => exact ⟨n, rfl, HN.out, prel_start n w⟩
  case round =>
    obtain ⟨m, rfl, hm, hr⟩ := hrel
    have hm0 := hm.1
    have HM := Lib.hid hm
    obtain ⟨B, hB, hB10, hown, hbel⟩ := hr
    have HB := Lib.hid hB
    have HO := Lib.hid hown
    have HBel := Lib.hid hbel
    have hsz := hbel.size
    clear hm hB hown hbel
    obtain ⟨sp, cap, rfl, hc1, hc2⟩ := ownsRow_slice HO.out
    by_cases hlt : 128 ≤ m
    · go_wp2_with (at_builtin; refine wpList_append_byte rfl (.tmp 6) (.tmp 11) rfl w.heap.size (.slice sp B.length cap) B.length (u8s B) _ rfl HO.out rfl (by omega) hsz ?_; intro v' w1 hown hgr)
      go_roundw
      case rel => exact ⟨m / 128, by rw [div_u64 HM.out], HM.out.shr 7, prel_step HN.out HB.out (by omega) HO.out HBel.out hsz hown hgr (by omega)⟩
      case measure => simp [intOf]; rw [div_u64 HM.out]; omega
    · go_wp2_with (at_builtin; refine wpList_append_byte rfl (.tmp 15) (.tmp 18) rfl w.heap.size (.slice sp B.length cap) B.length (u8s B) _ rfl HO.out rfl (by omega) hsz ?_; intro v' w1 hown hgr)
      go_ret
      exact prel_done HB.out hm0 (by omega) HO.out HBel.out hsz hown hgr (by omega)

theorem made_more {w w1 w2 : World} {A B : List Nat} {v v' : Value} (h : w1.ownsRow w.heap.size 5 1 v A.length (u8s A)) (hb : Below w.heap.size w w1) (h' : w2.ownsRow w.heap.size 5 1 v' (A.length + B.length) (u8s (A ++ B))) (hg : w1.grownBy w2 v.ownBlock) :
    MadePost (A ++ B) w (.returned v') w2 :=
  ⟨v', rfl, by rw [List.length_append]; exact h', hb.grown hg hb.size (own_lt h)⟩

set_option maxHeartbeats 400000 in
theorem text_any (s : ByteArray) (w : World) (hs : s.size ≤ 4294967296) : Calls Tryz.prog 93 #[.string s] w (MadePost (vtext (strB s)) w) := by
  have hU : U64 (s.size : Int) := ⟨by omega, by omega⟩
  have hl := (vput_len64 s.size (by omega)).1
  have HU := Lib.hid hU
  have HL := Lib.hid hl
  clear hU hl
  go_enter Tryz.func93, Tryz.ntmps93
  go_wp2_with (first | (go_at_call 92; refine (put_any _ _ HU.out).mono ?_; rintro e w1 ⟨v1, rfl, hown, hbel⟩; obtain ⟨sp, cap, rfl, hc1, hc2⟩ := ownsRow_slice hown; rw [Int.toNat_natCast] at hown hc1; have HO := Lib.hid hown; have HB := Lib.hid hbel; have hsz := hbel.size; clear hown hbel hc1 hc2) | (at_builtin; refine wpList_append_str rfl (.tmp 6) (.tmp 7) rfl w.heap.size _ _ _ s rfl HO.out rfl (by have := HL.out; omega) hsz ?_; intro v' w2 hown hgr))
  go_ret
  have e : s.size = (strB s).length := (strB_length s).symm
  unfold vtext
  rw [← e]
  exact made_more HO.out HB.out (by rw [strB_length]; exact hown) hgr
set_option maxHeartbeats 400000 in
theorem refText_any (s : ByteArray) (w : World) (hs : s.size ≤ 4294967296) : Calls Tryz.prog 45 #[.string s] w (MadePost (vtext (strB s)) w) := by
  have hU : U64 (s.size : Int) := ⟨by omega, by omega⟩
  have hl := (vput_len64 s.size (by omega)).1
  have HU := Lib.hid hU
  have HL := Lib.hid hl
  clear hU hl
  go_enter Tryz.func45, Tryz.ntmps45
  go_wp2_with (first | (go_at_call 44; refine (refPut_any _ _ HU.out).mono ?_; rintro e w1 ⟨v1, rfl, hown, hbel⟩; obtain ⟨sp, cap, rfl, hc1, hc2⟩ := ownsRow_slice hown; rw [Int.toNat_natCast] at hown hc1; have HO := Lib.hid hown; have HB := Lib.hid hbel; have hsz := hbel.size; clear hown hbel hc1 hc2) | (at_builtin; refine wpList_append_str rfl (.tmp 6) (.tmp 7) rfl w.heap.size _ _ _ s rfl HO.out rfl (by have := HL.out; omega) hsz ?_; intro v' w2 hown hgr))
  go_ret
  have e : s.size = (strB s).length := (strB_length s).symm
  unfold vtext
  rw [← e]
  exact made_more HO.out HB.out (by rw [strB_length]; exact hown) hgr

theorem made_four {w : World} {c0 c1 c2 c3 : Int} {n : Nat} (h0 : c0 = ((n % 256 : Nat) : Int)) (h1 : c1 = ((n / 256 % 256 : Nat) : Int)) (h2 : c2 = ((n / 65536 % 256 : Nat) : Int)) (h3 : c3 = ((n / 16777216 % 256 : Nat) : Int)) :
    MadePost (four n) w (.returned (.slice (some ⟨w.heap.size, 0, none⟩) 4 4)) (w.alloc (.cells #[.int .u8 c0, .int .u8 c1, .int .u8 c2, .int .u8 c3] 5)) := by
  subst h0 h1 h2 h3
  exact ⟨_, rfl, own_new w (u8s (four n)) 5 (Nat.le_refl _) (by simp [u8s, four, maxLen]), (Below.refl _ _).alloc (Nat.le_refl _) _⟩
theorem four_any (n : Int) (w : World) (hn : 0 ≤ n) : Calls Tryz.prog 125 #[.int .u32 n] w (MadePost (four n.toNat) w) := by
  go_enter Tryz.func125, Tryz.ntmps125
  go_wp2
  go_ret
  exact made_four (by omega) (by omega) (by omega) (by omega)
theorem refFour_any (n : Int) (w : World) (hn : 0 ≤ n) : Calls Tryz.prog 79 #[.int .u32 n] w (MadePost (four n.toNat) w) := by
  go_enter Tryz.func79, Tryz.ntmps79
  go_wp2
  go_ret
  exact made_four (by omega) (by omega) (by omega) (by omega)
end Go.Proofs.YtdjkkohckfndkaaGreatDoor.S2

/- The bit reader: bytes.Clone, Read, Left, Get: contracts. -/
import Derived.Test.YtijjpbpoekbekaaBitsD
import Derived.Lib.SliceRun
namespace Go.Proofs.Ytijjpbpoekbekaa
open Go.RowKit Pl

theorem bytes_nil (w : World) :
    Calls Try.prog 17 #[.pointer none] w fun e w' => e = .returned (.slice none 0 0) ∧ w = w' := by
  go_enter Try.func17, Try.ntmps17
  go_wp2
  go_ret
  exact ⟨rfl, rfl⟩

/-- the bytes B, as the slice v tells them -/
def IsBytes (w : World) (v : Value) (B : List Nat) : Prop :=
  (∀ x ∈ B, x < 256) ∧ ((v = .slice none 0 0 ∧ B = []) ∨ ∃ a cap, v = .slice (some a) B.length cap ∧ B.length ≤ cap ∧ cap ≤ maxLen ∧ ∀ i u, (u8s B)[i]? = some u → w.cell? (a.add i) = some u)
theorem u8s_length (B : List Nat) : (u8s B).length = B.length := by simp [u8s]
theorem u8s_get (B : List Nat) (i : Nat) (h : i < B.length) : (u8s B)[i]? = some (.int .u8 (B.getD i 0 : Nat)) := by simp [u8s, h, List.getD]
theorem u8s_one (B : List Nat) : ∀ v ∈ u8s B, v.oneCell' = true := by
  intro v hv; simp only [u8s, List.mem_map] at hv; obtain ⟨x, _, rfl⟩ := hv; rfl

def ClonePost (v : Value) (B : List Nat) (w : World) (e : Ending) (w' : World) : Prop :=
  ∃ v', e = .returned v' ∧ w'.ownsRow w.heap.size 5 1 v' B.length (u8s B) ∧ Below w.heap.size w w'

set_option maxHeartbeats 400000 in
theorem clone_any (v : Value) (B : List Nat) (w : World) (hv : IsBytes w v B) (hB : B.length ≤ 140737488351232) :
    Calls Try.prog 32 #[v] w (ClonePost v B w) := by
  have qT : ∀ (w : World) (a : Option Addr) (n c n' c' : Nat), (binOp .eql 47 (.slice a n c) (.slice none n' c')).run Try.prog w = .ok (.bool a.isNone) w := fun w a n c n' c' => Lib.run_eql_slice_nil w 47 5 a n c n' c' Try.underlying47
  obtain ⟨_, ⟨rfl, rfl⟩ | ⟨a, cap, rfl, hcap, hmax, hc⟩⟩ := hv
  · go_enter Try.func32, Try.ntmps32
    go_wp2
    go_ret
    exact ⟨_, rfl, World.ownsRow_nil _ _ _ _, Below.refl _ _⟩
  · obtain ⟨i0, hi, hz0, hz1, hz2⟩ := info_parts info5
    have Hi := Lib.hid hi
    have Hz0 := Lib.hid hz0
    have Hz1 := Lib.hid hz1
    have Hz2 := Lib.hid hz2
    clear hi hz0 hz1 hz2
    have HC := Lib.hid hc
    clear hc
    have H0 : Hid ((w.alloc (.cells #[] 5)).ownsRow w.heap.size 5 1 (.slice (some ⟨w.heap.size, 0, none⟩) 0 0) 0 []) := Lib.hid (World.ownsRow_made w #[] 0 (Nat.le_refl _) (by unfold maxLen; omega) rfl)
    have HS : Hid (∀ (j : Nat) (u : Value), (u8s B)[j]? = some u → (w.alloc (.cells #[] 5)).cell? (a.add j) = some u) := Lib.hid fun j u hu => by
      have h := HC.out j u hu
      rw [World.cell?_alloc_lt]
      · exact h
      · exact World.block_lt_of_cell? w _ h
    go_enter Try.func32, Try.ntmps32
    go_wp2_with (at_builtin; refine wpList_append_own _ rfl (.tmp 5) (.tmp 6) 47 rfl w.heap.size 5 i0 (.int .u8 0) 1 1 Try.underlying47 Hi.out Hz0.out Hz1.out Hz2.out rfl (by decide) _ _ _ rfl H0.out a B.length cap (u8s B) rfl (by rw [u8s_length, Nat.mul_one]) HS.out (u8s_one B) (by unfold maxLen; omega) (by omega) (by simp) ?_; intro v' w1 hown hgr _)
    go_ret
    have hsz : (w.alloc (.cells #[] 5)).heap.size = w.heap.size + 1 := by simp
    refine ⟨v', rfl, by simpa using hown, ?_⟩
    exact (((Below.refl _ _).alloc (Nat.le_refl _) _).grown hgr (by simp) (by intro k hk; have hk' : some w.heap.size = some k := hk; simp at hk'; omega))

theorem ownsRow_slice {w : World} {base : Nat} {e : TypeId} {size : Nat} {v : Value} {n : Nat} {xs : List Value} (h : w.ownsRow base e size v n xs) : ∃ sp cap, v = .slice sp n cap ∧ n ≤ cap ∧ cap ≤ maxLen := by
  obtain ⟨_, ⟨rfl, rfl⟩ | ⟨g, cap, cur, rfl, _, _, h1, h2, _⟩⟩ := h
  · exact ⟨none, 0, rfl, Nat.le_refl _, by unfold maxLen; omega⟩
  · exact ⟨_, cap, rfl, h1, h2⟩
theorem ownsRow_row {w w' : World} {base : Nat} {e : TypeId} {size : Nat} {v : Value} {n : Nat} {xs : List Value} {r : Option Nat} (h : w.ownsRow base e size v n xs) (hg : w.grownBy w' r)
    (hr : ∀ k t cs, r = some k → Blk w k t cs → base ≤ k → t ≠ e) : w'.ownsRow base e size v n xs := by
  refine h.kept hg ?_
  obtain ⟨_, ⟨rfl, rfl⟩ | ⟨g, cap, cur, rfl, hb, hh, h1, h2, _⟩⟩ := h
  · exact .inl rfl
  · refine .inr fun e' => ?_
    have e2 : r = some g := e'.symm
    exact hr g e cur.toList e2 (by unfold Blk; simpa using hh) hb rfl

/-- the reader at block b: its bytes are B, at_ bits were read; all of it lies from block base on -/
def Rd (w : World) (base b : Nat) (B : List Nat) (at_ : Nat) : Prop :=
  base ≤ b ∧ at_ ≤ 8 * B.length ∧ B.length ≤ 140737488351232 ∧ (∀ x ∈ B, x < 256) ∧ ∃ sp cap, Blk w b 77 [.slice sp B.length cap, .int .i64 at_] ∧ w.ownsRow base 5 1 (.slice sp B.length cap) B.length (u8s B)
namespace Rd
variable {w w' : World} {base b at_ : Nat} {B : List Nat}
theorem lt (h : Rd w base b B at_) : b < w.heap.size := by obtain ⟨_, _, _, _, sp, cap, hb, _⟩ := h; exact hb.lt
/-- another thing's block has changed -/
theorem row (h : Rd w base b B at_) {r : Option Nat} (hg : w.grownBy w' r) (hr : ∀ k t cs, r = some k → Blk w k t cs → base ≤ k → t ≠ 5 ∧ t ≠ 77) : Rd w' base b B at_ := by
  obtain ⟨h1, h2, h3, h4, sp, cap, hb, ho⟩ := h
  refine ⟨h1, h2, h3, h4, sp, cap, hb.grown hg ?_, ownsRow_row ho hg fun k t cs e hk hbk => (hr k t cs e hk hbk).1⟩
  intro e
  exact (hr b _ _ e.symm hb h1).2 rfl
theorem drew (h : Rd w base b B at_) : Rd w.drew base b B at_ := h
theorem alloc (h : Rd w base b B at_) (o : Obj) : Rd (w.alloc o) base b B at_ := h.row (World.grownBy_alloc w o none) (by simp)
theorem below (h : Rd w base b B at_) (hb : Below w.heap.size w w') : Rd w' base b B at_ := h.row (r := none) ⟨hb.os, hb.tape, hb.output, hb.size, fun k hk _ => hb.block k hk⟩ (by simp)
end Rd

def ReadPost (B : List Nat) (w : World) (e : Ending) (w' : World) : Prop :=
  ∃ b, e = .returned (.pointer (some ⟨b, 0, none⟩)) ∧ Rd w' w.heap.size b B 0 ∧ Below w.heap.size w w'

set_option maxHeartbeats 400000 in
theorem read_any (v : Value) (B : List Nat) (w : World) (hv : IsBytes w v B) (hB : B.length ≤ 140737488351232) :
    Calls Try.prog 19 #[v] w (ReadPost B w) := by
  have hx := hv.1
  have HX := Lib.hid hx
  have HV := Lib.hid hv
  clear hx hv
  go_enter Try.func19, Try.ntmps19
  go_wp2_with (go_at_call 32; refine (clone_any v B _ HV.out hB).mono ?_; rintro e w1 ⟨v1, rfl, hown, hbel⟩; obtain ⟨sp, cap, rfl, hcap, hmx⟩ := ownsRow_slice hown)
  go_ret
  refine ⟨_, rfl, ⟨hbel.size, by omega, hB, HX.out, sp, cap, Blk.new _ _ _, hown.alloc _⟩, ?_⟩
  exact hbel.alloc hbel.size _

theorem left_any (b base : Nat) (B : List Nat) (at_ : Nat) (w : World) (hr : Rd w base b B at_) :
    Calls Try.prog 26 #[.pointer (some ⟨b, 0, none⟩)] w fun e w' => e = .returned (.int .i64 (8 * (B.length : Int) - (at_ : Int))) ∧ ∃ k, w.drewN k = w' := by
  obtain ⟨_, h2, h3, _, sp, cap, hb, _⟩ := hr
  have c0 := hb.cell (o := 0) rfl
  have c1 := hb.cell (o := 1) rfl
  clear hb
  go_enter Try.func26, Try.ntmps26
  go_wp2
  go_quiet (fail)
  go_wp2
  go_ret
  exact ⟨rfl, _, rfl⟩
theorem left_nil (w : World) :
    Calls Try.prog 26 #[.pointer none] w fun e w' => e = .returned (.int .i64 0) ∧ w = w' := by
  go_enter Try.func26, Try.ntmps26
  go_wp2
  go_ret
  exact ⟨rfl, rfl⟩

theorem get_nil (n : Int) (w : World) :
    Calls Try.prog 20 #[.pointer none, .int .i64 n] w fun e w' => e = .returned (.tuple #[.int .u64 0, .bool false]) ∧ w = w' := by
  go_enter Try.func20, Try.ntmps20
  go_wp2
  go_ret2
  exact ⟨rfl, rfl⟩
theorem get_bad (b base : Nat) (B : List Nat) (at_ : Nat) (n : Int) (w : World) (hr : Rd w base b B at_) (h : n < 0 ∨ 64 < n ∨ 8 * (B.length : Int) - (at_ : Int) < n) :
    Calls Try.prog 20 #[.pointer (some ⟨b, 0, none⟩), .int .i64 n] w fun e w' => e = .returned (.tuple #[.int .u64 0, .bool false]) ∧ ∃ k, w.drewN k = w' := by
  have h2 := hr.2.1
  have h3 := hr.2.2.1
  have HR := Lib.hid hr
  clear hr
  by_cases c1 : n < 0
  · clear h
    go_enter Try.func20, Try.ntmps20
    go_wp2
    go_ret2
    exact ⟨rfl, 0, rfl⟩
  · by_cases c2 : 64 < n
    · clear h
      go_enter Try.func20, Try.ntmps20
      go_wp2
      go_ret2
      exact ⟨rfl, 0, rfl⟩
    · have c3 : 8 * (B.length : Int) - (at_ : Int) < n := by omega
      clear h
      go_enter Try.func20, Try.ntmps20
      go_wp2_with (go_at_call 26; refine (left_any b base B at_ _ HR.out).mono ?_; rintro e w' ⟨rfl, k, rfl⟩)
      go_ret2
      exact ⟨rfl, _, rfl⟩
end Go.Proofs.Ytijjpbpoekbekaa

/- Texts put together: Made, Ints, Strs, CutB, Slice. -/
import Derived.Test.YtdjkkohckfndkaaGreatDoorEg1
set_option linter.unusedSimpArgs false
set_option linter.unusedVariables false
set_option maxRecDepth 100000
namespace Go.Proofs.YtdjkkohckfndkaaGreatDoor
open Go.RowKit

namespace Pl
def four (n : Nat) : List Nat := [n % 256, n / 256 % 256, n / 65536 % 256, n / 16777216 % 256]
theorem four_lt (n : Nat) : ∀ x ∈ four n, x < 256 := by intro x hx; simp [four] at hx; omega
theorem four_length (n : Nat) : (four n).length = 4 := rfl
def getFour (B : List Nat) : Nat := if B.length < 4 then 0 else B.getD 0 0 + 256 * B.getD 1 0 + 65536 * B.getD 2 0 + 16777216 * B.getD 3 0
theorem getFour_four (n : Nat) (h : n < 4294967296) (R : List Nat) : getFour (four n ++ R) = n := by
  unfold getFour
  rw [if_neg (by simp [four])]
  simp [four]
  omega
theorem four_getFour (a b c d : Nat) (ha : a < 256) (hb : b < 256) (hc : c < 256) (hd : d < 256) (R : List Nat) : four (getFour (a :: b :: c :: d :: R)) = [a, b, c, d] := by
  unfold getFour
  rw [if_neg (by simp)]
  simp [four]
  omega
theorem getFour_lt {B : List Nat} (h : ∀ x ∈ B, x < 256) : getFour B < 4294967296 := by
  unfold getFour
  split
  · omega
  · have := @getD_lt
    have a := this h 0
    have b := this h 1
    have c := this h 2
    have d := this h 3
    omega
theorem four_eq {B : List Nat} (h : ∀ x ∈ B, x < 256) (hl : 4 ≤ B.length) (n : Nat) (hn : n < 4294967296) : four n = B.take 4 ↔ n = getFour B := by
  match B, hl with
  | a :: b :: c :: d :: R, _ =>
    have e := four_getFour a b c d (h a (by simp)) (h b (by simp)) (h c (by simp)) (h d (by simp)) R
    constructor
    · intro e2
      have := getFour_four n hn R
      rw [e2] at this
      rw [← this]
      rfl
    · intro e2
      rw [e2, e]
      rfl
end Pl
open Pl
theorem beq_t {a b : Int} (h : a = b) : (a == b) = true := by subst h; simp
theorem beq_f {a b : Int} (h : a ≠ b) : (a == b) = false := by simpa using h
theorem bne_t {a b : Int} (h : a ≠ b) : (a != b) = true := by simpa using h
theorem bne_f {a b : Int} (h : a = b) : (a != b) = false := by subst h; simp
theorem IsBytes.cells {w : World} {v : Value} {B : List Nat} (h : IsBytes w v B) (h0 : 0 < B.length) : ∃ b off cap, v = .slice (some ⟨b, off, none⟩) B.length cap ∧ B.length ≤ cap ∧ cap ≤ maxLen ∧ b < w.heap.size ∧ (∀ i, i < B.length → w.cell? ⟨b, off + i, none⟩ = some (.int .u8 (B.getD i 0 : Nat))) := by
  obtain ⟨hx, ⟨rfl, rfl⟩ | ⟨a, cap, rfl, h1, h2, hc⟩⟩ := h
  · simp at h0
  · obtain ⟨b, off, spot⟩ := a
    have hc0 := hc 0 _ (u8s_get B 0 h0)
    have hspot : spot = none := by simpa [Addr.add] using World.cell?_spot hc0
    subst hspot
    refine ⟨b, off, cap, rfl, h1, h2, World.block_lt_of_cell? w _ hc0, fun i hi => ?_⟩
    have := hc i _ (u8s_get B i hi)
    have hadd : (⟨b, off, none⟩ : Addr).add i = ⟨b, off + i, none⟩ := by unfold Addr.add; split <;> simp_all
    rwa [hadd] at this
theorem MadePost.own {B : List Nat} {w w' : World} {v : Value} (h : MadePost B w (.returned v) w') : w'.ownsRow w.heap.size 5 1 v B.length (u8s B) ∧ Below w.heap.size w w' := by
  obtain ⟨v', he, h1, h2⟩ := h
  cases he
  exact ⟨h1, h2⟩
def MadeS (B : List Nat) (w : World) (e : Ending) (w' : World) : Prop :=
  ∃ sp cap, e = .returned (.slice sp B.length cap) ∧ w'.ownsRow w.heap.size 5 1 (.slice sp B.length cap) B.length (u8s B) ∧ Below w.heap.size w w'
theorem MadePost.s {B : List Nat} {w w' : World} {e : Ending} (h : MadePost B w e w') : MadeS B w e w' := by
  obtain ⟨v', rfl, h1, h2⟩ := h
  obtain ⟨sp, cap, rfl, _, _⟩ := ownsRow_slice h1
  exact ⟨sp, cap, rfl, h1, h2⟩
theorem made_more {w w1 w2 : World} {A B : List Nat} {v v' : Value} (h : w1.ownsRow w.heap.size 5 1 v A.length (u8s A)) (hb : Below w.heap.size w w1) (h' : w2.ownsRow w.heap.size 5 1 v' (A.length + B.length) (u8s (A ++ B))) (hg : w1.grownBy w2 v.ownBlock) :
    MadePost (A ++ B) w (.returned v') w2 :=
  ⟨v', rfl, by rw [List.length_append]; exact h', hb.grown hg hb.size (own_lt h)⟩
theorem made_four {w : World} {c0 c1 c2 c3 : Int} {n : Nat} (h0 : c0 = ((n % 256 : Nat) : Int)) (h1 : c1 = ((n / 256 % 256 : Nat) : Int)) (h2 : c2 = ((n / 65536 % 256 : Nat) : Int)) (h3 : c3 = ((n / 16777216 % 256 : Nat) : Int)) :
    MadePost (four n) w (.returned (.slice (some ⟨w.heap.size, 0, none⟩) 4 4)) (w.alloc (.cells #[.int .u8 c0, .int .u8 c1, .int .u8 c2, .int .u8 c3] 5)) := by
  subst h0 h1 h2 h3
  exact ⟨_, rfl, own_new w (u8s (four n)) 5 (Nat.le_refl _) (by simp [u8s, four, maxLen]), (Below.refl _ _).alloc (Nat.le_refl _) _⟩
theorem or_step (k P a b : Nat) (hP : P = 2 ^ k) (ha : a < P) (hab : a + b * P < 4294967296) : bits BinOp.or IntKind.u32 (a : Int) ((b * P : Nat) : Int) = ((a + b * P : Nat) : Int) := by
  subst hP
  rw [u32_or_nat _ _ (by omega) (by omega), Nat.or_comm, nat_join k _ _ (Nat.mul_mod_left _ _) ha, Nat.add_comm]
theorem or_four (a b c d : Nat) (ha : a < 256) (hb : b < 256) (hc : c < 256) (hd : d < 256) :
    bits BinOp.or IntKind.u32 (bits BinOp.or IntKind.u32 (bits BinOp.or IntKind.u32 (a : Int) ((b : Int) * 256)) ((c : Int) * 65536)) ((d : Int) * 16777216) = ((a + 256 * b + 65536 * c + 16777216 * d : Nat) : Int) := by
  have h1 := or_step 8 256 a b rfl (by omega) (by omega)
  have h2 := or_step 16 65536 (a + b * 256) c (by decide +kernel) (by omega) (by omega)
  have h3 := or_step 24 16777216 (a + b * 256 + c * 65536) d (by decide +kernel) (by omega) (by omega)
  have e1 : ((b * 256 : Nat) : Int) = (b : Int) * 256 := by simp
  have e2 : ((c * 65536 : Nat) : Int) = (c : Int) * 65536 := by simp
  have e3 : ((d * 16777216 : Nat) : Int) = (d : Int) * 16777216 := by simp
  rw [e1] at h1
  rw [e2] at h2
  rw [e3] at h3
  rw [h1, h2, h3]
  omega
end Go.Proofs.YtdjkkohckfndkaaGreatDoor
namespace Go.Proofs.YtdjkkohckfndkaaGreatDoor
open Go.RowKit Pl

def i64s (L : List Int) : List Value := L.map fun x => .int .i64 x
theorem i64s_length (L : List Int) : (i64s L).length = L.length := by simp [i64s]
theorem i64s_get (L : List Int) (i : Nat) (h : i < L.length) : (i64s L)[i]? = some (.int .i64 (L.getD i 0)) := by simp [i64s, h, List.getD]
theorem i64s_snoc (A : List Int) (c : Int) : i64s (A ++ [c]) = i64s A ++ [.int .i64 c] := by simp [i64s]
theorem infoI : (Tryz.prog.info? 3).map (fun i => (i.zero, i.size, i.bytes)) = some (some (.int .i64 0), 1, 8) := by kernel_rfl
theorem infoI_parts {o : Option TypeInfo} (h : o.map (fun i => (i.zero, i.size, i.bytes)) = some (some (Value.int .i64 0), 1, 8)) : ∃ i, o = some i ∧ i.zero = some (.int .i64 0) ∧ i.size = 1 ∧ i.bytes = 8 := by
  cases o with
  | none => cases h
  | some i => simp at h; exact ⟨i, rfl, h.1, h.2.1, h.2.2⟩
def IsInts (w : World) (v : Value) (L : List Int) : Prop :=
  (v = .slice none 0 0 ∧ L = []) ∨ ∃ a cap, v = .slice (some a) L.length cap ∧ L.length ≤ cap ∧ cap ≤ maxLen ∧ ∀ i u, (i64s L)[i]? = some u → w.cell? (a.add i) = some u
theorem IsInts.below {w w' : World} {v : Value} {L : List Int} (h : IsInts w v L) (hb : Below w.heap.size w w') : IsInts w' v L := by
  obtain h | ⟨a, cap, rfl, h1, h2, hc⟩ := h
  · exact .inl h
  · refine .inr ⟨a, cap, rfl, h1, h2, fun i u hu => ?_⟩
    have := hc i u hu
    rw [hb.cell (p := a.add i) (World.block_lt_of_cell? w _ this)]
    exact this
theorem IsInts.slice {w : World} {v : Value} {L : List Int} (h : IsInts w v L) : ∃ a cap, v = .slice a L.length cap ∧ L.length ≤ cap ∧ cap ≤ maxLen := by
  obtain ⟨rfl, rfl⟩ | ⟨a, cap, rfl, h1, h2, _⟩ := h
  · exact ⟨none, 0, rfl, Nat.le_refl _, by unfold maxLen; omega⟩
  · exact ⟨some a, cap, rfl, h1, h2⟩
theorem IsInts.cells {w : World} {v : Value} {L : List Int} (h : IsInts w v L) (h0 : 0 < L.length) : ∃ b off cap, v = .slice (some ⟨b, off, none⟩) L.length cap ∧ L.length ≤ cap ∧ cap ≤ maxLen ∧ b < w.heap.size ∧ (∀ i, i < L.length → w.cell? ⟨b, off + i, none⟩ = some (.int .i64 (L.getD i 0))) := by
  obtain ⟨rfl, rfl⟩ | ⟨a, cap, rfl, h1, h2, hc⟩ := h
  · simp at h0
  · obtain ⟨b, off, spot⟩ := a
    have hc0 := hc 0 _ (i64s_get L 0 h0)
    have hspot : spot = none := by simpa [Addr.add] using World.cell?_spot hc0
    subst hspot
    refine ⟨b, off, cap, rfl, h1, h2, World.block_lt_of_cell? w _ hc0, fun i hi => ?_⟩
    have := hc i _ (i64s_get L i hi)
    have hadd : (⟨b, off, none⟩ : Addr).add i = ⟨b, off + i, none⟩ := by unfold Addr.add; split <;> simp_all
    rwa [hadd] at this
theorem isInts_own {w : World} {base : Nat} {sp : Option Addr} {cap n : Nat} {L : List Int} (hn : n = L.length) (h : w.ownsRow base 3 1 (.slice sp n cap) n (i64s L)) : IsInts w (.slice sp n cap) L := by
  subst hn
  obtain ⟨hl, ⟨he, h0⟩ | ⟨g, cap', cur, hv, _, hh, hn, hm, hs, ht⟩⟩ := h
  · have hB : L = [] := List.eq_nil_of_length_eq_zero h0
    subst hB
    exact .inl ⟨he, rfl⟩
  · simp at hv
    obtain ⟨rfl, rfl⟩ := hv
    refine .inr ⟨⟨g, 0, none⟩, cap, rfl, hn, hm, fun i u hu => ?_⟩
    have hadd : (⟨g, 0, none⟩ : Addr).add i = ⟨g, i, none⟩ := by unfold Addr.add; split <;> simp_all
    rw [hadd]
    have hi := (List.getElem?_eq_some_iff.1 hu).1
    rw [i64s_length] at hi
    rw [← ht, List.getElem?_take_of_lt (by omega)] at hu
    simp [World.cell?, hh]
    simpa using hu
theorem wpList_append_int {w : World} {ops : Array Oper} {rest : List Oper} {o : Oper} {a : Act} {Q : Exit → Act → World → Prop} (hgd : o.guard = none) (s x : Operand)
    (ho : o.op = .call { callee := .builtin .append, args := #[s, x], argTypes := #[101, 101] })
    (base : Nat) (v : Value) (n : Nat) (L : List Int) (c : Int) (hs : a.eval s = v) (hown : w.ownsRow base 3 1 v n (i64s L))
    (b : Nat) (hb : b = w.heap.size) (hx : a.eval x = .slice (some ⟨b, 0, none⟩) 1 1)
    (hbytes : n + 1 ≤ 17592186044416) (hbase : base ≤ w.heap.size)
    (h : ∀ v' w', w'.ownsRow base 3 1 v' (n + 1) (i64s (L ++ [c])) → (w.alloc (.cells #[.int .i64 c] 3 (0, 0))).grownBy w' v.ownBlock → wpList Tryz.prog ops Q rest (a.put o.dst v') w') : wpList Tryz.prog ops Q (o :: rest) a (w.alloc (.cells #[.int .i64 c] 3 (0, 0))) := by
  subst hb
  obtain ⟨i0, hi, hz0, hz1, hz2⟩ := infoI_parts infoI
  exact wpList_append_own _ hgd s x _ ho base 3 i0 (.int .i64 0) 1 8 Tryz.underlying101 hi hz0 hz1 hz2 rfl (by decide) v n _ hs (hown.alloc _) ⟨w.heap.size, 0, none⟩ 1 1 [.int .i64 c] hx rfl (cell_one_new _ _ _) (by intro u hu; simp at hu; subst hu; rfl) (by unfold maxLen; omega) (by omega) (by simp; omega) fun v' w' h2 h3 _ => h v' w' (by rw [i64s_snoc]; exact h2) h3
theorem IsInts.take {w : World} {a : Option Addr} {len cap : Nat} {L : List Int} (h : IsInts w (.slice a len cap) L) (hl : L.length = len) (n : Nat) (hn : n ≤ len) : IsInts w (.slice a n cap) (L.take n) := by
  subst hl
  have hl : (L.take n).length = n := by rw [List.length_take]; omega
  obtain ⟨he, rfl⟩ | ⟨x, c, he, h1, h2, hc⟩ := h
  · simp at he hn
    obtain ⟨rfl, rfl⟩ := he
    subst hn
    exact .inl ⟨rfl, rfl⟩
  · simp at he
    obtain ⟨rfl, rfl⟩ := he
    refine .inr ⟨x, cap, by rw [hl], by omega, h2, fun i u hu => hc i u ?_⟩
    have hi := (List.getElem?_eq_some_iff.1 hu).1
    rw [i64s_length, hl] at hi
    simp only [i64s, List.map_take] at hu ⊢
    rwa [List.getElem?_take_of_lt hi] at hu
end Go.Proofs.YtdjkkohckfndkaaGreatDoor
namespace Go.Proofs.YtdjkkohckfndkaaGreatDoor
open Go.RowKit Pl
theorem str_eqb {A B : List Nat} (hA : ∀ x ∈ A, x < 256) (hB : ∀ x ∈ B, x < 256) : ((str A).toList == (str B).toList) = decide (A = B) := by
  rw [Bool.eq_iff_iff, beq_iff_eq, ByteArray.toList_eq, ByteArray.toList_eq, decide_eq_true_iff]
  exact ⟨fun h => str_inj hA hB (ByteArray.ext (Array.toList_inj.mp h)), fun h => by rw [h]⟩
theorem str_head {A B : List Nat} {o : Bool} (hA : ∀ x ∈ A, x < 256) (hB : ∀ x ∈ B, x < 256) (h : A = B ↔ o = true) : ((str A).toList == (str B).toList) = o := by
  rw [str_eqb hA hB]
  cases o <;> simp_all
def MadeC (S : ByteArray) (n : Nat) (w : World) (e : Ending) (w' : World) : Prop :=
  ∃ sp cap, e = .returned (.slice sp n cap) ∧ Hid (∀ w'', From w' w'' → (convS (.slice sp n cap)).run Tryz.prog w'' = .ok (.string S) w'') ∧ Hid (From w w')
theorem MadeS.c {B : List Nat} {w w' : World} {e : Ending} {n : Nat} (hx : ∀ x ∈ B, x < 256) (hn : B.length = n) (h : MadeS B w e w') : MadeC (str B) n w e w' := by
  subst hn
  obtain ⟨sp, cap, rfl, h1, h2⟩ := h
  exact ⟨sp, cap, rfl, Lib.hid fun w'' hb => run_conv ((isBytes_own hx h1).below hb), Lib.hid h2⟩
theorem MadePost.c {B : List Nat} {w w' : World} {e : Ending} {n : Nat} (hx : ∀ x ∈ B, x < 256) (hn : B.length = n) (h : MadePost B w e w') : MadeC (str B) n w e w' := h.s.c hx hn
def MadeI (B : List Nat) (n : Nat) (w : World) (e : Ending) (w' : World) : Prop :=
  ∃ sp cap, e = .returned (.slice sp n cap) ∧ Hid (IsBytes w' (.slice sp n cap) B) ∧ Hid (From w w')
theorem MadePost.i {B : List Nat} {w w' : World} {e : Ending} {n : Nat} (hx : ∀ x ∈ B, x < 256) (hn : B.length = n) (h : MadePost B w e w') : MadeI B n w e w' := by
  obtain ⟨sp, cap, rfl, h1, h2⟩ := h.s
  subst hn
  exact ⟨sp, cap, rfl, Lib.hid (isBytes_own hx h1), Lib.hid h2⟩
end Go.Proofs.YtdjkkohckfndkaaGreatDoor
namespace Go.Proofs.YtdjkkohckfndkaaGreatDoor
open Go.RowKit Pl
def ShortPost (B : List Nat) (n : Nat) (w : World) (e : Ending) (w' : World) : Prop := ∃ v', e = .returned v' ∧ IsBytes w v' (B.take n) ∧ w = w'
theorem short_any (v : Value) (B : List Nat) (n : Nat) (w : World) (hv : IsBytes w v B) (hn : n ≤ 4294967296) :
    Calls Tryz.prog 14 #[v, .int .i64 n] w (ShortPost B n w) := by
  obtain ⟨a, cap, rfl, hcap, hmax⟩ := hv.slice
  unfold maxLen at hmax
  have HV := Lib.hid hv
  clear hv
  by_cases h : n < B.length
  · have h1 : (n : Int) ≤ (cap : Int) := by omega
    go_enter Tryz.func14, Tryz.ntmps14
    go_wp2
    go_ret
    exact ⟨_, rfl, HV.out.take n (by omega), rfl⟩
  · go_enter Tryz.func14, Tryz.ntmps14
    go_wp2
    go_ret
    exact ⟨_, rfl, by rw [List.take_of_length_le (by omega)]; exact HV.out, rfl⟩
end Go.Proofs.YtdjkkohckfndkaaGreatDoor
namespace Go.Proofs.YtdjkkohckfndkaaGreatDoor
open Go.RowKit

def sliceU8 (x : Value) (lo hi mx : Option Value) : Sem Value := Instr.sliceAt 23 x lo hi mx
theorem sliceU8_eq (x : Value) (lo hi mx : Option Value) : Instr.sliceAt 23 x lo hi mx = sliceU8 x lo hi mx := rfl
theorem elem_u8s : Tryz.prog.elem 23 = 5 := by kernel_rfl
theorem und_u8s : Tryz.prog.underlying 23 = some (.slice (Tryz.prog.elem 23)) := by rw [elem_u8s]; exact Tryz.underlying23
theorem run_size_u8 (w : World) : (sizeOf (Tryz.prog.elem 23)).run Tryz.prog w = .ok 1 w := by
  obtain ⟨i0, hi, hz0, hz1, hz2⟩ := info_parts info5
  rw [elem_u8s]
  simp [sizeOf, typeInfo, hi, hz1]
theorem isBytes_sliced {w : World} {a : Option Addr} {cap : Nat} {B : List Nat} (h : IsBytes w (.slice a B.length cap) B) (k n : Nat) (hk : k + n ≤ B.length) :
    IsBytes w (sliced a k (k + n) cap 1) ((B.drop k).take n) := by
  unfold sliced
  rw [Nat.mul_one, Nat.add_sub_cancel_left]
  by_cases e : cap = k
  · obtain ⟨_, _, hs, h1, _⟩ := h.slice
    simp at hs
    obtain ⟨rfl, rfl⟩ := hs
    have hb : B.length = cap := by omega
    have hn : n = 0 := by omega
    subst hn
    rw [if_pos e, e, Nat.sub_self, List.take_zero]
    rw [hb] at h
    rw [← hb] at h
    exact h.none_left
  · rw [if_neg e]
    exact h.sub k n hk
theorem run_from {w : World} {v : Value} {B : List Nat} (hv : IsBytes w v B) (k : Nat) (hk : k ≤ B.length) :
    ∃ a c, (∀ W, (sliceU8 v (some (.int .i64 k)) none none).run Tryz.prog W = .ok (.slice a (B.length - k) c) W) ∧ IsBytes w (.slice a (B.length - k) c) (B.drop k) := by
  obtain ⟨a, cap, rfl, hcap, hmax⟩ := hv.slice
  refine ⟨if cap = k then a else a.map (·.add (k * 1)), cap - k, ?_, ?_⟩
  rotate_left
  · have := isBytes_sliced hv k (B.length - k) (by omega)
    rw [List.take_of_length_le (by simp)] at this
    unfold sliced at this
    rw [Nat.add_sub_cancel_left] at this
    exact this
  · intro W
    unfold sliceU8
    rw [run_sliceAt_slice _ _ _ _ _ _ und_u8s, run_slice_l _ _ _ _ _ und_u8s _ _ (by omega) (by omega), run_size_u8, Int.toNat_natCast]
    rfl
theorem run_between {w : World} {v : Value} {B : List Nat} (hv : IsBytes w v B) (k n : Nat) (hk : k + n ≤ B.length) (h : Int) (hh : h = (k : Int) + n) :
    ∃ a c, (∀ W, (sliceU8 v (some (.int .i64 k)) (some (.int .i64 h)) none).run Tryz.prog W = .ok (.slice a n c) W) ∧ IsBytes w (.slice a n c) ((B.drop k).take n) := by
  obtain ⟨a, cap, rfl, hcap, hmax⟩ := hv.slice
  subst hh
  refine ⟨if cap = k then a else a.map (·.add (k * 1)), cap - k, ?_, ?_⟩
  rotate_left
  · have := isBytes_sliced hv k n hk
    unfold sliced at this
    rw [Nat.add_sub_cancel_left] at this
    exact this
  · intro W
    unfold sliceU8
    rw [run_sliceAt_slice _ _ _ _ _ _ und_u8s, run_slice_lh _ _ _ _ _ und_u8s _ _ _ _ (by omega) (by omega) (by omega), run_size_u8, Int.toNat_natCast, show ((k : Int) + n).toNat = k + n by omega]
    simp only [Result.andThen, sliced, Nat.add_sub_cancel_left]
theorem run_upto {w : World} {v : Value} {B : List Nat} (hv : IsBytes w v B) (n : Nat) (hn : n ≤ B.length) :
    ∃ a c, (∀ W, (sliceU8 v none (some (.int .i64 n)) none).run Tryz.prog W = .ok (.slice a n c) W) ∧ IsBytes w (.slice a n c) (B.take n) := by
  obtain ⟨a, cap, rfl, hcap, hmax⟩ := hv.slice
  refine ⟨if cap = 0 then a else a.map (·.add (0 * 1)), cap, ?_, ?_⟩
  rotate_left
  · have := isBytes_sliced hv 0 n (by omega)
    unfold sliced at this
    simp only [Nat.zero_add, Nat.sub_zero, List.drop_zero] at this
    exact this
  · intro W
    unfold sliceU8
    rw [run_sliceAt_slice _ _ _ _ _ _ und_u8s, run_slice_h _ _ _ _ _ und_u8s _ _ (by omega) (by omega), run_size_u8, Int.toNat_natCast]
    simp only [Result.andThen, sliced, Nat.sub_zero]
end Go.Proofs.YtdjkkohckfndkaaGreatDoor

/- The state of a bit writer in memory, and what filling a byte does to it: lemmas without the walk. -/
import Derived.Test.YtijjpbpoekbekaaBase
import Derived.Test.YtijjpbpoekbekaaPlain
namespace Go.Proofs.Ytijjpbpoekbekaa
open Go.RowKit Pl

/-- a number that a uint64 holds (closed: the walk must not see the numeral) -/
def U64 (v : Int) : Prop := 0 ≤ v ∧ v < 18446744073709551616
theorem U64.nn {v : Int} (h : U64 v) : 0 ≤ v := h.1
theorem U64.of_wf {v : Int} (h : (Lit.int .u64 v).wf = true) : U64 v := by
  simp [Lit.wf, IntKind.min, IntKind.max, IntKind.signed, IntKind.bits] at h
  exact ⟨h.1, by omega⟩
theorem U64.wf {v : Int} (h : U64 v) : (Lit.int .u64 v).wf = true := by
  obtain ⟨h1, h2⟩ := h
  simp [Lit.wf, IntKind.min, IntKind.max, IntKind.signed, IntKind.bits]
  exact ⟨h1, by omega⟩
theorem U64.small {v : Int} (h : 0 ≤ v) (h2 : v < 4294967296) : U64 v := ⟨h, by omega⟩

theorem pow8 {c : Nat} (h : c ≤ 8) : (2 : Int) ^ c ≤ 256 ∧ 1 ≤ (2 : Int) ^ c := by
  rcases (show c = 0 ∨ c = 1 ∨ c = 2 ∨ c = 3 ∨ c = 4 ∨ c = 5 ∨ c = 6 ∨ c = 7 ∨ c = 8 by omega) with h | h | h | h | h | h | h | h | h <;> subst h <;> decide

theorem mask_int {c : Nat} (h : c ≤ 8) : IntKind.u64.wrap (IntKind.u64.wrap (2 ^ c) - 1) = ((2 ^ c - 1 : Nat) : Int) := by
  have := pow8 h
  rw [IntKind.wrap_u64, IntKind.wrap_u64]
  have e : ((2 ^ c - 1 : Nat) : Int) = (2 : Int) ^ c - 1 := by
    rw [Int.ofNat_sub Nat.one_le_two_pow]; simp
  rw [e]
  omega

theorem mask_low (v : Int) (c : Nat) (hv : U64 v) (hc : c ≤ 8) :
    bits BinOp.and IntKind.u64 v (IntKind.u64.wrap (IntKind.u64.wrap (2 ^ c) - 1)) = ((v.toNat % 2 ^ c : Nat) : Int) := by
  have h2 : 2 ^ c ≤ 256 := Nat.pow_le_pow_right (n := 2) (by omega) hc
  have h1 : 1 ≤ 2 ^ c := Nat.one_le_two_pow
  rw [mask_int hc, u64_and _ _ hv.1 hv.2 (by omega) (by omega)]
  congr 1
  rw [Int.toNat_natCast, Nat.and_two_pow_sub_one_eq_mod]

theorem shr_int (v : Int) (k : Nat) (hv : 0 ≤ v) : v / 2 ^ k = ((v.toNat >>> k : Nat) : Int) := by
  obtain ⟨n, rfl⟩ := Int.eq_ofNat_of_zero_le hv
  rw [Int.toNat_natCast, Nat.shiftRight_eq_div_pow]
  simp

theorem U64.shr {v : Int} (h : U64 v) (k : Nat) : U64 (v / 2 ^ k) := by
  obtain ⟨h1, h2⟩ := h
  rw [shr_int v k h1]
  have := Nat.shiftRight_le v.toNat k
  generalize v.toNat >>> k = q at *
  exact ⟨by omega, by omega⟩

/-- the bits that fill takes, as a number -/
theorem piece_int (v : Int) (m c : Nat) (hv : U64 v) (hc : c ≤ 8) :
    bits BinOp.and IntKind.u64 (v / 2 ^ (m - c)) (IntKind.u64.wrap (IntKind.u64.wrap (2 ^ c) - 1)) = ((val (bitsOf (v.toNat >>> (m - c)) c) : Nat) : Int) := by
  rw [mask_low _ c (hv.shr _) hc, val_bitsOf, shr_int v _ hv.1, Int.toNat_natCast]

theorem or_byte (T p s : Nat) (hT : T < 256) (hp : p * 2 ^ s < 256) :
    bits BinOp.or IntKind.u8 (T : Int) (IntKind.u64.wrap ((p : Int) * 2 ^ s) % 256) = ((T ||| p * 2 ^ s : Nat) : Int) := by
  have e : IntKind.u64.wrap ((p : Int) * 2 ^ s) % 256 = ((p * 2 ^ s : Nat) : Int) := by
    rw [IntKind.wrap_u64]
    have : ((p * 2 ^ s : Nat) : Int) = (p : Int) * 2 ^ s := by simp
    rw [← this]; omega
  rw [e, u8_or_nat _ _ hT hp]

theorem val_shift_lt (M : List Bool) (s : Nat) (h : M.length + s ≤ 8) : val M * 2 ^ s < 256 := by
  have h1 := val_lt M
  have h2 : 2 ^ (M.length + s) ≤ 2 ^ 8 := Nat.pow_le_pow_right (by omega) h
  rw [Nat.pow_add] at h2
  have h3 : val M * 2 ^ s < 2 ^ M.length * 2 ^ s := (Nat.mul_lt_mul_right (Nat.two_pow_pos s)).2 h1
  omega

/-- the 256 cells of a chunk: the bytes from 256 * k on -/
def chunkCells (L : List Bool) (k : Nat) : List Value := (List.range 256).map fun j => .int .u8 (byteAt L (256 * k + j))
theorem chunkCells_length (L : List Bool) (k : Nat) : (chunkCells L k).length = 256 := by simp [chunkCells]
theorem chunkCells_get (L : List Bool) (k j : Nat) (h : j < 256) : (chunkCells L k)[j]? = some (.int .u8 (byteAt L (256 * k + j))) := by simp [chunkCells, h]

def wcells (fo : Option Addr) (L : List Bool) : List Value := .pointer fo :: (chunkCells L (L.length / 2048) ++ [.int .i64 L.length])
theorem wcells_length (fo : Option Addr) (L : List Bool) : (wcells fo L).length = 258 := by simp [wcells, chunkCells_length]
theorem wcells_0 (fo : Option Addr) (L : List Bool) : (wcells fo L)[0]? = some (.pointer fo) := rfl
theorem wcells_n (fo : Option Addr) (L : List Bool) : (wcells fo L)[257]? = some (.int .i64 L.length) := by
  simp only [wcells, List.getElem?_cons_succ]
  rw [List.getElem?_append_right (by rw [chunkCells_length]; omega), chunkCells_length]
  rfl
theorem wcells_j (fo : Option Addr) (L : List Bool) (j : Nat) (h : j < 256) : (wcells fo L)[1 + j]? = some (.int .u8 (byteAt L (256 * (L.length / 2048) + j))) := by
  rw [Nat.add_comm]
  simp only [wcells, List.getElem?_cons_succ]
  rw [List.getElem?_append_left (by rw [chunkCells_length]; omega), chunkCells_get L _ j h]

/-- the links of full chunks, the last one first -/
def Chain (w : World) (L : List Bool) : Nat → Option Addr → Prop
  | 0, fo => fo = none
  | k + 1, fo => ∃ (c : Nat) (fo' : Option Addr), fo = some ⟨c, 0, none⟩ ∧ Blk w c 74 (.pointer fo' :: chunkCells L k) ∧ Chain w L k fo'

/-- the writer at block b holds the bits L -/
def Wr (w : World) (b : Nat) (L : List Bool) : Prop :=
  ∃ fo, Blk w b 41 (wcells fo L) ∧ Chain w L (L.length / 2048) fo

theorem Chain.kept {w w' : World} {L : List Bool} (hk : ∀ c cs, Blk w c 74 cs → Blk w' c 74 cs) :
    ∀ {k : Nat} {fo : Option Addr}, Chain w L k fo → Chain w' L k fo
  | 0, _, h => h
  | _ + 1, _, ⟨c, fo', e, hb, hr⟩ => ⟨c, fo', e, hk _ _ hb, Chain.kept hk hr⟩

theorem Chain.more {w : World} {L : List Bool} (M : List Bool) :
    ∀ {k : Nat} {fo : Option Addr}, 2048 * k ≤ L.length → Chain w L k fo → Chain w (L ++ M) k fo
  | 0, _, _, h => h
  | k + 1, _, hk, ⟨c, fo', e, hb, hr⟩ => by
    refine ⟨c, fo', e, ?_, Chain.more M (by omega) hr⟩
    have : chunkCells (L ++ M) k = chunkCells L k := by
      apply List.map_congr_left
      intro j hj
      simp only [List.mem_range] at hj
      rw [byteAt_append_old _ _ _ (by omega)]
    rw [this]; exact hb

namespace Wr
variable {w w' : World} {b : Nat} {L : List Bool}
theorem lt (h : Wr w b L) : b < w.heap.size := by obtain ⟨fo, hb, _⟩ := h; exact hb.lt
theorem kept (h : Wr w b L) (hk : ∀ c t cs, (t = 74 ∨ t = 41 ∧ c = b) → Blk w c t cs → Blk w' c t cs) : Wr w' b L := by
  obtain ⟨fo, hb, hc⟩ := h
  exact ⟨fo, hk _ _ _ (.inr ⟨rfl, rfl⟩) hb, hc.kept fun c cs hx => hk _ _ _ (.inl rfl) hx⟩
theorem alloc (h : Wr w b L) (o : Obj) : Wr (w.alloc o) b L := h.kept fun _ _ _ _ hx => hx.alloc o
theorem drew (h : Wr w b L) : Wr w.drew b L := h.kept fun _ _ _ _ hx => hx
theorem drewN (h : Wr w b L) (n : Nat) : Wr (w.drewN n) b L := h.kept fun _ _ _ _ hx => hx
theorem below (h : Wr w b L) (hg : Below w.heap.size w w') : Wr w' b L := h.kept fun _ _ _ _ hx => hx.below hg hx.lt
/-- a call that changes another thing's block alone -/
theorem grown (h : Wr w b L) {r : Nat} {t : TypeId} {cs : List Value} (hg : Gr w w' r) (hr : Blk w r t cs) (h1 : t ≠ 74) (h2 : t ≠ 41) : Wr w' b L :=
  h.kept fun _ t' _ ht hx => hx.grown hg (by
    intro e
    simp at e
    subst e
    rcases ht with rfl | ⟨rfl, _⟩
    · exact hx.ne hr (Ne.symm h1) rfl
    · exact hx.ne hr (Ne.symm h2) rfl)
theorem row (h : Wr w b L) {r : Option Nat} (hg : w.grownBy w' r) (h2 : ∀ k t cs, r = some k → Blk w k t cs → t ≠ 74 ∧ t ≠ 41) : Wr w' b L :=
  h.kept fun c t' cs ht hx => hx.grown hg (by
    intro e
    have := h2 c t' cs e.symm hx
    rcases ht with rfl | ⟨rfl, _⟩
    · exact this.1 rfl
    · exact this.2 rfl)
/-- another writer's Put -/
theorem other (h : Wr w b L) {r : Nat} {K : List Bool} (hg : Gr w w' r) (hr : Wr w r K) (hb : b ≠ r) : Wr w' b L := by
  obtain ⟨fo, hr, _⟩ := hr
  exact h.kept fun _ t' _ ht hx => hx.grown hg (by
    intro e
    simp at e
    subst e
    rcases ht with rfl | ⟨rfl, rfl⟩
    · exact hx.ne hr (by decide) rfl
    · exact hb rfl)
theorem fresh (w : World) : Wr (w.alloc (.cells (wcells none []).toArray 41)) w.heap.size [] :=
  ⟨none, Blk.new _ _ _, rfl⟩
end Wr

theorem div_mod_2048 (n : Nat) : 256 * (n / 2048) + n / 8 % 256 = n / 8 := by omega

/-- a byte is filled, the chunk is not yet full -/
theorem wcells_fill (fo : Option Addr) (L M : List Bool) (h0 : 0 < M.length) (h : L.length % 8 + M.length ≤ 8) (hx : (L.length + M.length) % 2048 ≠ 0) :
    ((wcells fo L).set (1 + L.length / 8 % 256) (.int .u8 (byteAt (L ++ M) (L.length / 8)))).set 257 (.int .i64 ((L.length : Int) + (M.length : Int))) = wcells fo (L ++ M) := by
  have hq : (L ++ M).length / 2048 = L.length / 2048 := by rw [List.length_append]; omega
  apply List.ext_getElem?
  intro k
  by_cases h257 : k = 257
  · subst h257
    rw [wcells_n, List.getElem?_set_self (by simp [wcells_length])]
    simp
  · rw [List.getElem?_set_ne (by omega)]
    by_cases hk : k = 1 + L.length / 8 % 256
    · subst hk
      rw [List.getElem?_set_self (by rw [wcells_length]; omega), wcells_j _ _ _ (by omega), hq, div_mod_2048]
    · rw [List.getElem?_set_ne (by omega)]
      by_cases h258 : 258 ≤ k
      · rw [List.getElem?_eq_none (by rw [wcells_length]; omega), List.getElem?_eq_none (by rw [wcells_length]; omega)]
      · cases k with
        | zero => rw [wcells_0, wcells_0]
        | succ j =>
          rw [Nat.add_comm j 1, wcells_j _ _ _ (by omega), wcells_j _ _ _ (by omega), hq]
          have hj : j ≠ L.length / 8 % 256 := by omega
          by_cases hlo : 256 * (L.length / 2048) + j < L.length / 8
          · rw [byteAt_append_old _ _ _ (by omega)]
          · have hhi : L.length / 8 < 256 * (L.length / 2048) + j := by have := div_mod_2048 L.length; omega
            rw [byteAt_append_far _ _ _ (by omega), byteAt_beyond _ _ (by omega)]

/-- what a call of fill leaves -/
def FillPost (b : Nat) (L : List Bool) (v : Int) (m : Nat) (w : World) (e : Ending) (w' : World) : Prop :=
  ∃ c : Nat, 0 < c ∧ c ≤ m ∧ e = .returned (.int .i64 c) ∧ Wr w' b (L ++ bitsOf (v.toNat >>> (m - c)) c) ∧ Gr w w' b

theorem fill_end_a {b : Nat} {fo : Option Addr} {L : List Bool} {v : Int} {m c n : Nat} {w : World} {nq : Nat} {x y z : Int} (hn : n = L.length)
    (hb : Blk w b 41 (wcells fo L)) (hch : Chain w L (L.length / 2048) fo) (h0 : 0 < c) (hcm : c ≤ m) (hc : n % 8 + c ≤ 8) (hx : (n + c) % 2048 ≠ 0)
    (hxc : x = c) (hz : z = (n : Int) + (c : Int)) (hy : y = byteAt (L ++ bitsOf (v.toNat >>> (m - c)) c) (L.length / 8)) :
    FillPost b L v m w (.returned (.int .i64 x)) (((w.drewN nq).setCell ⟨b, 1 + n / 8 % 256, none⟩ (.int .u8 y)).setCell ⟨b, 257, none⟩ (.int .i64 z)) := by
  subst hn hxc hy hz
  refine ⟨c, h0, hcm, rfl, ⟨fo, ?_, ?_⟩, (((Gr.refl w b).drewN nq).setCell _ _).setCell _ _⟩
  · have h1 := ((hb.drewN nq).set (1 + L.length / 8 % 256) (.int .u8 (byteAt (L ++ bitsOf (v.toNat >>> (m - c)) c) (L.length / 8)))).set 257 (.int .i64 ((L.length : Int) + (c : Int)))
    have h2 := wcells_fill fo L (bitsOf (v.toNat >>> (m - c)) c) (by rw [bitsOf_length]; exact h0) (by rw [bitsOf_length]; exact hc) (by rw [bitsOf_length]; exact hx)
    rw [bitsOf_length] at h2
    rw [h2] at h1
    exact h1
  · have hq : (L ++ bitsOf (v.toNat >>> (m - c)) c).length / 2048 = L.length / 2048 := by rw [List.length_append, bitsOf_length]; omega
    rw [hq]
    have h1 := hch.more (bitsOf (v.toNat >>> (m - c)) c) (by omega)
    refine h1.kept fun d cs hd => ?_
    have hne : d ≠ b := hd.ne hb (by decide)
    exact ((hd.drewN nq).setOther (p := ⟨b, _, none⟩) hne _).setOther (p := ⟨b, _, none⟩) hne _

/-- the byte that fill stores -/
theorem fill_byte {L : List Bool} {v : Int} {m c : Nat} (hv : U64 v) (hc : L.length % 8 + c ≤ 8) :
    bits BinOp.or IntKind.u8 ((byteAt L (L.length / 8) : Nat) : Int) (IntKind.u64.wrap (bits BinOp.and IntKind.u64 (v / 2 ^ (m - c)) (IntKind.u64.wrap (IntKind.u64.wrap (2 ^ c) - 1)) * 2 ^ (8 - L.length % 8 - c)) % 256)
      = ((byteAt (L ++ bitsOf (v.toNat >>> (m - c)) c) (L.length / 8) : Nat) : Int) := by
  have hl := bitsOf_length (v.toNat >>> (m - c)) c
  rw [piece_int v m c hv (by omega), or_byte _ _ _ (byteAt_lt _ _) (val_shift_lt _ _ (by rw [hl]; omega)), byteAt_fill _ _ (by rw [hl]; omega), hl]
/-- the array of a writer's last chunk, as it lies -/
def chunkAt (w : World) (b : Nat) : Array Value := match w.heap[b]? with
  | some (.cells c _ _) => c.extract 1 257
  | _ => #[]
/-- a block of so many cells, whatever they are -/
def Wide (w : World) (b n : Nat) : Prop := ∃ t c, w.heap[b]? = some (.cells c t (0, 0)) ∧ c.size = n
theorem Wide.of {w : World} {b : Nat} {t : TypeId} {c : List Value} (h : Blk w b t c) : Wide w b c.length := ⟨t, c.toArray, h, by simp⟩
@[simp] theorem wide_setCell (w : World) (p : Addr) (v : Value) (b n : Nat) : Wide (w.setCell p v) b n = Wide w b n := by
  apply propext
  unfold Wide
  simp only [World.setCell, Array.getElem?_modify]
  by_cases h : p.block = b
  · subst h
    simp only [if_true]
    constructor
    · rintro ⟨t, c, h, hn⟩
      cases hx : w.heap[p.block]? with
      | none => simp [hx] at h
      | some o =>
        cases o with
        | cells c0 t0 fr0 =>
          simp [hx] at h
          refine ⟨t0, c0, by rw [← h.2.2], ?_⟩
          rw [← hn, ← h.1]; split <;> simp
        | _ => simp [hx] at h
    · rintro ⟨t, c, h, hn⟩
      refine ⟨t, (if p.spot.isSome then c else c.setIfInBounds p.off v), by simp [h], ?_⟩
      split <;> simpa using hn
  · simp [h]
@[simp] theorem wide_drew (w : World) (b n : Nat) : Wide w.drew b n = Wide w b n := propext ⟨fun h => h, fun h => h⟩
@[simp] theorem wide_drewN (w : World) (b n k : Nat) : Wide (w.drewN k) b n = Wide w b n := propext ⟨fun h => h, fun h => h⟩

theorem chunkAt_size {w : World} {b : Nat} (h : Wide w b 258) : (chunkAt w b).size = 256 := by
  obtain ⟨t, c, h, hn⟩ := h
  simp [chunkAt, h, hn]

theorem fill_fold (off : Nat) : ∀ (l : List Value) (k : Nat) (cells : Array Value), off + k + l.length ≤ cells.size →
    ((l.zipIdx k).foldl (fun cs (x : Value × Nat) => cs.setIfInBounds (off + x.2) x.1) cells) = (cells.toList.take (off + k) ++ l ++ cells.toList.drop (off + k + l.length)).toArray
  | [], k, cells, h => by simp
  | v :: r, k, cells, h => by
    simp only [List.zipIdx_cons, List.foldl_cons]
    simp only [List.length_cons] at h
    rw [fill_fold off r (k + 1) _ (by simp; omega)]
    have hl : off + k < cells.toList.length := by simp; omega
    have e1 : (cells.toList.set (off + k) v) = cells.toList.take (off + k) ++ v :: cells.toList.drop (off + k + 1) := List.set_eq_take_append_cons_drop.trans (if_pos hl)
    have hm : (cells.toList.take (off + k)).length = off + k := by rw [List.length_take]; omega
    have h1 : (cells.toList.set (off + k) v).take (off + (k + 1)) = cells.toList.take (off + k) ++ [v] := by
      rw [e1, List.take_append, List.take_of_length_le (by omega), hm, show off + (k + 1) - (off + k) = 1 by omega]
      simp
    have h2 : (cells.toList.set (off + k) v).drop (off + (k + 1) + r.length) = cells.toList.drop (off + k + (v :: r).length) := by
      rw [e1, List.drop_append, List.drop_eq_nil_of_le (by omega), hm, show off + (k + 1) + r.length - (off + k) = r.length + 1 by omega]
      simp only [List.drop_succ_cons, List.drop_drop, List.nil_append, List.length_cons]
      congr 1; omega
    simp only [Array.toList_setIfInBounds]
    rw [h1, h2]
    simp

theorem fill_part (place : Nat → Option (Nat × Nat)) (cells : Array Value) (i off size : Nat) (v : Value) (rest : List (Nat × Value)) (hp : place i = some (off, size)) (hs : v.cells.size = size) (hf : off + size ≤ cells.size) :
    Instr.fill place cells ((i, v) :: rest) = Instr.fill place (cells.toList.take off ++ v.cells.toList ++ cells.toList.drop (off + size)).toArray rest := by
  have hg : ¬ (v.cells.size ≠ size ∨ off + v.cells.size > cells.size) := by omega
  have hz : v.cells.zipIdx.foldl (fun cs (c, j) => cs.setIfInBounds (off + j) c) cells = (cells.toList.take off ++ v.cells.toList ++ cells.toList.drop (off + size)).toArray := by
    have := fill_fold off v.cells.toList 0 cells (by simp; omega)
    rw [← Array.foldl_toList]
    simp only [Array.toList_zipIdx]
    rw [this]
    simp [hs]
  simp only [Instr.fill, hp]
  rw [if_neg (by simpa using hg)]
  rw [← hz]
def zeros256 : List Value := List.replicate 256 (.int .u8 0)
theorem zeros256_length : zeros256.length = 256 := by unfold zeros256; rw [List.length_replicate]
def wipe (w : World) (b : Nat) : World := w.setCells b 1 zeros256
theorem wide_alloc (w : World) (o : Obj) (b n : Nat) (h : b < w.heap.size) : Wide (w.alloc o) b n = Wide w b n := by
  unfold Wide; rw [Below.heap_alloc w o b h]
theorem chunkAt_sizeE (w : World) (b : Nat) (h : Wide w b 258) : ((chunkAt w b).size = 256) = True := by simp [chunkAt_size h]

theorem Blk.setCells {b : Nat} {t : TypeId} : ∀ (vs : List Value) (o : Nat) (w : World) (c : List Value), Blk w b t c → o + vs.length ≤ c.length →
    Blk (w.setCells b o vs) b t (c.take o ++ vs ++ c.drop (o + vs.length))
  | [], o, w, c, h, hl => by simpa [World.setCells] using h
  | v :: r, o, w, c, h, hl => by
    simp only [List.length_cons] at hl
    have ih := Blk.setCells r (o + 1) _ _ (h.set o v) (by simp; omega)
    have e1 : c.set o v = c.take o ++ v :: c.drop (o + 1) := List.set_eq_take_append_cons_drop.trans (if_pos (by omega))
    have hm : (c.take o).length = o := by rw [List.length_take]; omega
    have h1 : (c.set o v).take (o + 1) = c.take o ++ [v] := by
      rw [e1, List.take_append, List.take_of_length_le (by omega), hm, show o + 1 - o = 1 by omega]
      simp
    have h2 : (c.set o v).drop (o + 1 + r.length) = c.drop (o + (v :: r).length) := by
      rw [e1, List.drop_append, List.drop_eq_nil_of_le (by omega), hm, show o + 1 + r.length - o = r.length + 1 by omega]
      simp only [List.drop_succ_cons, List.drop_drop, List.nil_append, List.length_cons]
      congr 1; omega
    rw [h1, h2] at ih
    simpa [World.setCells] using ih
theorem Gr.setCells {b : Nat} : ∀ (vs : List Value) (o : Nat) {w w' : World}, Gr w w' b → Gr w (w'.setCells b o vs) b
  | [], _, _, _, h => h
  | v :: r, o, _, _, h => Gr.setCells r (o + 1) (h.setCell o v)

theorem chunkCells_fill (fo : Option Addr) (L M : List Bool) (z : Value) (h0 : 0 < M.length) (h : L.length % 8 + M.length ≤ 8) :
    ((((wcells fo L).set (1 + L.length / 8 % 256) (.int .u8 (byteAt (L ++ M) (L.length / 8)))).set 257 z).drop 1).take 256 = chunkCells (L ++ M) (L.length / 2048) := by
  apply List.ext_getElem?
  intro j
  by_cases hj : j < 256
  · rw [List.getElem?_take_of_lt hj, List.getElem?_drop, chunkCells_get _ _ _ hj, List.getElem?_set_ne (by omega)]
    by_cases hk : j = L.length / 8 % 256
    · subst hk
      rw [List.getElem?_set_self (by rw [wcells_length]; omega), div_mod_2048]
    · rw [List.getElem?_set_ne (by omega), wcells_j _ _ _ hj]
      by_cases hlo : 256 * (L.length / 2048) + j < L.length / 8
      · rw [byteAt_append_old _ _ _ (by omega)]
      · have hhi : L.length / 8 < 256 * (L.length / 2048) + j := by have := div_mod_2048 L.length; omega
        rw [byteAt_append_far _ _ _ (by omega), byteAt_beyond _ _ (by omega)]
  · rw [List.getElem?_eq_none (by simp; omega), List.getElem?_eq_none (by rw [chunkCells_length]; omega)]

theorem chunkCells_zero (L : List Bool) (h : L.length % 2048 = 0) : chunkCells L (L.length / 2048) = zeros256 := by
  apply List.ext_getElem?
  intro j
  by_cases hj : j < 256
  · rw [chunkCells_get _ _ _ hj, byteAt_beyond _ _ (by omega)]
    rw [zeros256, List.getElem?_replicate, if_pos hj]; rfl
  · rw [List.getElem?_eq_none (by rw [chunkCells_length]; omega), List.getElem?_eq_none (by rw [zeros256_length]; omega)]

theorem fill_end_c {b : Nat} {fo : Option Addr} {L : List Bool} {v : Int} {m c n : Nat} {w : World} {nq : Nat} {x y z : Int} (hn : n = L.length)
    (hb : Blk w b 41 (wcells fo L)) (hch : Chain w L (L.length / 2048) fo) (h0 : 0 < c) (hcm : c ≤ m) (hc : n % 8 + c ≤ 8) (hx : (n + c) % 2048 = 0)
    (hxc : x = c) (hz : z = (n : Int) + (c : Int)) (hy : y = byteAt (L ++ bitsOf (v.toNat >>> (m - c)) c) (L.length / 8)) :
    FillPost b L v m w (.returned (.int .i64 x)) (wipe ((((((w.drewN nq).setCell ⟨b, 1 + n / 8 % 256, none⟩ (.int .u8 y)).setCell ⟨b, 257, none⟩ (.int .i64 z)).setCell ⟨b, 0, none⟩ (.pointer (some ⟨w.heap.size, 0, none⟩))).alloc
      (.cells (.pointer fo :: (chunkAt (((w.drewN nq).setCell ⟨b, 1 + n / 8 % 256, none⟩ (.int .u8 y)).setCell ⟨b, 257, none⟩ (.int .i64 z)).drew b).toList).toArray 74)).drew) b) := by
  subst hn hxc hy hz
  generalize hM : bitsOf (v.toNat >>> (m - c)) c = M
  have hMl : M.length = c := by rw [← hM]; exact bitsOf_length _ _
  have h1 := ((hb.drewN nq).set (1 + L.length / 8 % 256) (.int .u8 (byteAt (L ++ M) (L.length / 8)))).set 257 (.int .i64 ((L.length : Int) + (c : Int)))
  have hk := chunkCells_fill fo L M (.int .i64 ((L.length : Int) + (c : Int))) (by omega) (by omega)
  generalize hcs : ((wcells fo L).set (1 + L.length / 8 % 256) (.int .u8 (byteAt (L ++ M) (L.length / 8)))).set 257 (.int .i64 ((L.length : Int) + (c : Int))) = cs at *
  have hcl : cs.length = 258 := by rw [← hcs]; simp [wcells_length]
  have h257 : cs[257]? = some (.int .i64 ((L.length : Int) + (c : Int))) := by rw [← hcs]; exact List.getElem?_set_self (by simp [wcells_length])
  have g1 : Gr w (((w.drewN nq).setCell ⟨b, 1 + L.length / 8 % 256, none⟩ (.int .u8 (byteAt (L ++ M) (L.length / 8)))).setCell ⟨b, 257, none⟩ (.int .i64 ((L.length : Int) + (c : Int)))) b := (((Gr.refl w b).drewN nq).setCell _ _).setCell _ _
  have hs1 : ∀ W : World, W = ((w.drewN nq).setCell ⟨b, 1 + L.length / 8 % 256, none⟩ (.int .u8 (byteAt (L ++ M) (L.length / 8)))).setCell ⟨b, 257, none⟩ (.int .i64 ((L.length : Int) + (c : Int))) → W.heap.size = w.heap.size := by
    rintro W rfl; simp [World.drewN]
  have hs := hs1 _ rfl
  generalize ((w.drewN nq).setCell ⟨b, 1 + L.length / 8 % 256, none⟩ (.int .u8 (byteAt (L ++ M) (L.length / 8)))).setCell ⟨b, 257, none⟩ (.int .i64 ((L.length : Int) + (c : Int))) = W1 at *
  have hchunk : (chunkAt W1.drew b).toList = chunkCells (L ++ M) (L.length / 2048) := by
    have h1' : W1.drew.heap[b]? = some (.cells cs.toArray 41 (0, 0)) := h1
    simp only [chunkAt, h1']
    rw [← hk]
    simp
  rw [hchunk]
  have h2 := h1.set 0 (.pointer (some ⟨w.heap.size, 0, none⟩))
  have h3 := h2.alloc (.cells (.pointer fo :: chunkCells (L ++ M) (L.length / 2048)).toArray 74)
  have g3 := ((g1.setCell 0 (.pointer (some ⟨w.heap.size, 0, none⟩))).alloc (.cells (.pointer fo :: chunkCells (L ++ M) (L.length / 2048)).toArray 74)).drew
  have hnew := Blk.new (W1.setCell ⟨b, 0, none⟩ (.pointer (some ⟨w.heap.size, 0, none⟩))) 74 (.pointer fo :: chunkCells (L ++ M) (L.length / 2048))
  have hsz : (W1.setCell ⟨b, 0, none⟩ (.pointer (some ⟨w.heap.size, 0, none⟩))).heap.size = w.heap.size := by simpa using hs
  rw [hsz] at hnew
  have hnb : w.heap.size ≠ b := by have := hb.lt; omega
  have hq : (L ++ M).length / 2048 = L.length / 2048 + 1 := by rw [List.length_append, hMl]; omega
  refine ⟨c, h0, hcm, rfl, ?_, Gr.setCells zeros256 1 g3⟩
  rw [hM]
  refine ⟨some ⟨w.heap.size, 0, none⟩, ?_, ?_⟩
  · have h4 := Blk.setCells zeros256 1 _ _ (h3.drew) (by simp [hcl, zeros256_length])
    have e : (cs.set 0 (.pointer (some ⟨w.heap.size, 0, none⟩))).take 1 ++ zeros256 ++ (cs.set 0 (.pointer (some ⟨w.heap.size, 0, none⟩))).drop (1 + zeros256.length) = wcells (some ⟨w.heap.size, 0, none⟩) (L ++ M) := by
      rw [zeros256_length]
      unfold wcells
      rw [chunkCells_zero (L ++ M) (by rw [List.length_append, hMl]; exact hx)]
      cases cs with
      | nil => simp at hcl
      | cons a r =>
        simp only [List.length_cons] at hcl
        have hr : r.drop 256 = [.int .i64 ((L ++ M).length : Nat)] := by
          apply List.ext_getElem?
          intro j
          rw [List.getElem?_drop]
          cases j with
          | zero => simp only [List.getElem?_cons_succ] at h257; rw [Nat.add_zero, h257]; simp [hMl]
          | succ j => rw [List.getElem?_eq_none (by omega)]; simp
        simp only [List.set_cons_zero, List.take_succ_cons, List.take_zero, List.cons_append, List.nil_append, Nat.add_comm 1 256, List.drop_succ_cons, hr]
    rw [e] at h4
    exact h4
  · rw [hq]
    refine ⟨w.heap.size, fo, rfl, ?_, ?_⟩
    · exact hnew.drew.grown (Gr.setCells zeros256 1 (Gr.refl _ b)) (by simpa using hnb)
    · have h5 := hch.more M (by omega)
      refine h5.kept fun d ds hd => ?_
      have hne : d ≠ b := hd.ne hb (by decide)
      exact hd.grown (Gr.setCells zeros256 1 g3) (by simpa using hne)
end Go.Proofs.Ytijjpbpoekbekaa

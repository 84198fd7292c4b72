/- Bytes in memory: what came in, what the call owns, string(b), append of bytes; numbers of 64 bits: lemmas without a walk. -/
import Derived.Test.YthgpdnffahmhjaaBase
import Derived.Test.YthgpdnffahmhjaaProg
import Derived.Lib.SliceRun
import Derived.Lib.AppendStr
import Derived.Laws.OwnMore
import Derived.Deep.RegionWith
namespace Go.Proofs.Ythgpdnffahmhjaa
open Go.RowKit

/-- a number that a uint64 holds (closed: the walk must not see the numeral) -/
def U64 (v : Int) : Prop := 0 ≤ v ∧ v < 18446744073709551616
theorem U64.nn {v : Int} (h : U64 v) : 0 ≤ v := h.1
theorem U64.of_wf {v : Int} (h : (Lit.int .u64 v).wf = true) : U64 v := by
  simp [Lit.wf, IntKind.min, IntKind.max, IntKind.signed, IntKind.bits] at h
  exact ⟨h.1, by omega⟩
theorem U64.wf {v : Int} (h : U64 v) : (Lit.int .u64 v).wf = true := by
  obtain ⟨h1, h2⟩ := h
  simp [Lit.wf, IntKind.min, IntKind.max, IntKind.signed, IntKind.bits]
  exact ⟨h1, by omega⟩
theorem U64.small {v : Int} (h : 0 ≤ v) (h2 : v < 4294967296) : U64 v := ⟨h, by omega⟩

theorem pow8 {c : Nat} (h : c ≤ 8) : (2 : Int) ^ c ≤ 256 ∧ 1 ≤ (2 : Int) ^ c := by
  rcases (show c = 0 ∨ c = 1 ∨ c = 2 ∨ c = 3 ∨ c = 4 ∨ c = 5 ∨ c = 6 ∨ c = 7 ∨ c = 8 by omega) with h | h | h | h | h | h | h | h | h <;> subst h <;> decide

theorem mask_int {c : Nat} (h : c ≤ 8) : IntKind.u64.wrap (IntKind.u64.wrap (2 ^ c) - 1) = ((2 ^ c - 1 : Nat) : Int) := by
  have := pow8 h
  rw [IntKind.wrap_u64, IntKind.wrap_u64]
  have e : ((2 ^ c - 1 : Nat) : Int) = (2 : Int) ^ c - 1 := by
    rw [Int.ofNat_sub Nat.one_le_two_pow]; simp
  rw [e]
  omega

theorem mask_low (v : Int) (c : Nat) (hv : U64 v) (hc : c ≤ 8) :
    bits BinOp.and IntKind.u64 v (IntKind.u64.wrap (IntKind.u64.wrap (2 ^ c) - 1)) = ((v.toNat % 2 ^ c : Nat) : Int) := by
  have h2 : 2 ^ c ≤ 256 := Nat.pow_le_pow_right (n := 2) (by omega) hc
  have h1 : 1 ≤ 2 ^ c := Nat.one_le_two_pow
  rw [mask_int hc, u64_and _ _ hv.1 hv.2 (by omega) (by omega)]
  congr 1
  rw [Int.toNat_natCast, Nat.and_two_pow_sub_one_eq_mod]

theorem shr_int (v : Int) (k : Nat) (hv : 0 ≤ v) : v / 2 ^ k = ((v.toNat >>> k : Nat) : Int) := by
  obtain ⟨n, rfl⟩ := Int.eq_ofNat_of_zero_le hv
  rw [Int.toNat_natCast, Nat.shiftRight_eq_div_pow]
  simp

theorem U64.shr {v : Int} (h : U64 v) (k : Nat) : U64 (v / 2 ^ k) := by
  obtain ⟨h1, h2⟩ := h
  rw [shr_int v k h1]
  have := Nat.shiftRight_le v.toNat k
  generalize v.toNat >>> k = q at *
  exact ⟨by omega, by omega⟩

theorem or_byte (T p s : Nat) (hT : T < 256) (hp : p * 2 ^ s < 256) :
    bits BinOp.or IntKind.u8 (T : Int) (IntKind.u64.wrap ((p : Int) * 2 ^ s) % 256) = ((T ||| p * 2 ^ s : Nat) : Int) := by
  have e : IntKind.u64.wrap ((p : Int) * 2 ^ s) % 256 = ((p * 2 ^ s : Nat) : Int) := by
    rw [IntKind.wrap_u64]
    have : ((p * 2 ^ s : Nat) : Int) = (p : Int) * 2 ^ s := by simp
    rw [← this]; omega
  rw [e, u8_or_nat _ _ hT hp]

theorem info5 : (Try.prog.info? 5).map (fun i => (i.zero, i.size, i.bytes)) = some (some (.int .u8 0), 1, 1) := by kernel_rfl
theorem size5 : (Try.prog.info? 5).map (·.size) = some 1 := by kernel_rfl

/-- an owned row of one-cell elements whose value fills it is a block that is known whole -/
theorem made_blk {w : World} {base : Nat} {e : TypeId} {g n : Nat} {xs : List Value} (h : w.ownsRow base e 1 (.slice (some ⟨g, 0, none⟩) n n) n xs) : Blk w g e xs := by
  obtain ⟨hl, h | ⟨g', cap, cur, hv, _, hh, hn, _, hs, ht⟩⟩ := h
  · simp at h
  · simp at hv
    obtain ⟨rfl, rfl⟩ := hv
    unfold Blk
    rw [hh]
    have : cur.toList = xs := by rw [← ht, List.take_of_length_le (by simp [hs])]
    rw [← this]

theorem made_list (n : Nat) : (madeCells (Value.int .u8 0).cells (n * 1)).toList = List.replicate n (.int .u8 0) := by
  apply List.ext_getElem?
  intro i
  by_cases h : i < n
  · simp [madeCells, Value.cells, h, Nat.mod_one]
  · simp [madeCells, Value.cells, h]
/-- what a copy's law asks of its two slices -/
def CSrc (w : World) (cs : List Value) (dp : Option Addr) (g off : Nat) (sp : Option Addr) : Prop :=
  0 < cs.length → dp = some ⟨g, off, none⟩ ∧ ∃ ad, sp = some ad ∧ ∀ j v, cs[j]? = some v → w.cell? (ad.add j) = some v
theorem splice_get {α : Type} (l : List α) (off : Nat) (cs : List α) (h : off + cs.length ≤ l.length) (i : Nat) :
    (splice l off cs)[i]? = if i < off then l[i]? else if i < off + cs.length then cs[i - off]? else l[i]? := by
  have hm : (l.take off).length = off := by rw [List.length_take]; omega
  unfold splice
  by_cases h1 : i < off
  · rw [if_pos h1, List.getElem?_append_left (by omega), List.getElem?_take_of_lt h1]
  · rw [if_neg h1, List.getElem?_append_right (by omega), hm]
    by_cases h2 : i < off + cs.length
    · rw [if_pos h2, List.getElem?_append_left (by omega)]
    · rw [if_neg h2, List.getElem?_append_right (by omega), List.getElem?_drop]
      congr 1; omega

def u8s (B : List Nat) : List Value := B.map fun (x : Nat) => .int .u8 x
/-- the bytes B, as the slice v tells them -/
def IsBytes (w : World) (v : Value) (B : List Nat) : Prop :=
  (∀ x ∈ B, x < 256) ∧ ((v = .slice none 0 0 ∧ B = []) ∨ ∃ a cap, v = .slice (some a) B.length cap ∧ B.length ≤ cap ∧ cap ≤ maxLen ∧ ∀ i u, (u8s B)[i]? = some u → w.cell? (a.add i) = some u)
theorem u8s_length (B : List Nat) : (u8s B).length = B.length := by simp [u8s]
theorem u8s_get (B : List Nat) (i : Nat) (h : i < B.length) : (u8s B)[i]? = some (.int .u8 (B.getD i 0 : Nat)) := by simp [u8s, h, List.getD]
theorem u8s_one (B : List Nat) : ∀ v ∈ u8s B, v.oneCell' = true := by
  intro v hv; simp only [u8s, List.mem_map] at hv; obtain ⟨x, _, rfl⟩ := hv; rfl

theorem ownsRow_slice {w : World} {base : Nat} {e : TypeId} {size : Nat} {v : Value} {n : Nat} {xs : List Value} (h : w.ownsRow base e size v n xs) : ∃ sp cap, v = .slice sp n cap ∧ n ≤ cap ∧ cap ≤ maxLen := by
  obtain ⟨_, ⟨rfl, rfl⟩ | ⟨g, cap, cur, rfl, _, _, h1, h2, _⟩⟩ := h
  · exact ⟨none, 0, rfl, Nat.le_refl _, by unfold maxLen; omega⟩
  · exact ⟨_, cap, rfl, h1, h2⟩
theorem ownsRow_row {w w' : World} {base : Nat} {e : TypeId} {size : Nat} {v : Value} {n : Nat} {xs : List Value} {r : Option Nat} (h : w.ownsRow base e size v n xs) (hg : w.grownBy w' r)
    (hr : ∀ k t cs, r = some k → Blk w k t cs → base ≤ k → t ≠ e) : w'.ownsRow base e size v n xs := by
  refine h.kept hg ?_
  obtain ⟨_, ⟨rfl, rfl⟩ | ⟨g, cap, cur, rfl, hb, hh, h1, h2, _⟩⟩ := h
  · exact .inl rfl
  · refine .inr fun e' => ?_
    have e2 : r = some g := e'.symm
    exact hr g e cur.toList e2 (by unfold Blk; simpa using hh) hb rfl

theorem row_cell {w : World} {base : Nat} {sp : Option Addr} {cap : Nat} {B : List Nat} (h : w.ownsRow base 5 1 (.slice sp B.length cap) B.length (u8s B)) {i : Nat} (hi : i < B.length) :
    ∃ g, sp = some ⟨g, 0, none⟩ ∧ w.cell? ⟨g, i, none⟩ = some (.int .u8 (B.getD i 0 : Nat)) := by
  obtain ⟨hl, ⟨he, h0⟩ | ⟨g, cap', cur, hv, _, hh, hn, _, hs, ht⟩⟩ := h
  · omega
  · simp at hv
    refine ⟨g, hv.1, ?_⟩
    have h2 := u8s_get B i hi
    rw [← ht, List.getElem?_take_of_lt (by omega)] at h2
    simp [World.cell?, hh]
    simpa using h2

def str (B : List Nat) : ByteArray := ⟨(B.map UInt8.ofNat).toArray⟩
def convS (v : Value) : Sem Value := convert 62 9 v
theorem conv_eq (v : Value) : convert 62 9 v = convS v := rfl
theorem str_inj {A B : List Nat} (hA : ∀ x ∈ A, x < 256) (hB : ∀ x ∈ B, x < 256) (h : str A = str B) : A = B := by
  have h1 : A.map UInt8.ofNat = B.map UInt8.ofNat := by
    have := congrArg (fun s : ByteArray => s.data.toList) h
    simpa [str] using this
  have h2 := congrArg (List.map UInt8.toNat) h1
  rw [List.map_map, List.map_map] at h2
  have e : ∀ l : List Nat, (∀ x ∈ l, x < 256) → l.map (UInt8.toNat ∘ UInt8.ofNat) = l := by
    intro l hl
    refine (List.map_congr_left (g := id) fun x hx => ?_).trans (List.map_id l)
    have := hl x hx
    simp only [Function.comp, id]
    rw [UInt8.toNat_ofNat', Nat.mod_eq_of_lt (by simpa using this)]
  rw [e A hA, e B hB] at h2
  exact h2
theorem run_conv {w : World} {v : Value} {B : List Nat} (hv : IsBytes w v B) : (convS v).run Try.prog w = .ok (.string (str B)) w := by
  obtain ⟨hx, ⟨rfl, rfl⟩ | ⟨a, cap, rfl, _, _, hc⟩⟩ := hv
  · exact run_convert_bytes_nil w _ _ Try.underlying62 Try.underlying5 0 0 _ Try.underlying9
  · have h := run_convert_bytes_back (P := Try.prog) w 62 9 5 a cap (B.map UInt8.ofNat) Try.underlying62 Try.underlying5 Try.underlying9 (by
      intro j hj
      rw [List.length_map] at hj
      rw [hc j (.int .u8 (B.getD j 0 : Nat)) (u8s_get B j hj)]
      have hb : B[j] < 256 := hx _ (List.getElem_mem hj)
      simp [List.getD, hj]
      omega)
    rw [List.length_map] at h
    exact h
theorem IsBytes.below {w w' : World} {v : Value} {B : List Nat} (h : IsBytes w v B) (hb : Below w.heap.size w w') : IsBytes w' v B := by
  obtain ⟨hx, h | ⟨a, cap, rfl, h1, h2, hc⟩⟩ := h
  · exact ⟨hx, .inl h⟩
  · refine ⟨hx, .inr ⟨a, cap, rfl, h1, h2, fun i u hu => ?_⟩⟩
    have := hc i u hu
    rw [hb.cell (p := a.add i) (World.block_lt_of_cell? w _ this)]
    exact this
theorem IsBytes.row {w w' : World} {v : Value} {B : List Nat} (h : IsBytes w v B) {r : Option Nat} (hg : w.grownBy w' r) (hr : ∀ a n c, v = .slice (some a) n c → 0 < B.length → some a.block ≠ r) : IsBytes w' v B := by
  obtain ⟨hx, h | ⟨a, cap, rfl, h1, h2, hc⟩⟩ := h
  · exact ⟨hx, .inl h⟩
  · refine ⟨hx, .inr ⟨a, cap, rfl, h1, h2, fun i u hu => ?_⟩⟩
    have := hc i u hu
    have hl : i < B.length := by have := (List.getElem?_eq_some_iff.1 hu).1; rwa [u8s_length] at this
    have hblk : (a.add i).block = a.block := by unfold Addr.add; split <;> rfl
    exact hg.cell this (by rw [hblk]; exact hr a _ _ rfl (by omega))
def bytesZ (zs : List Int) (n : Nat) : List Nat := (zs.take n).map Int.toNat
theorem u8_wf {x : Int} (h : (Lit.int .u8 x).wf = true) : 0 ≤ x ∧ x < 256 := by
  simp [Lit.wf, IntKind.min, IntKind.max, IntKind.signed, IntKind.bits] at h
  omega
theorem isBytes_row {w : World} {a : Option Addr} {len cap : Nat} {zs : List Int} (h : IsRow .u8 w a len cap zs) : IsBytes w (.slice a len cap) (bytesZ zs len) ∧ (bytesZ zs len).length = len := by
  rcases h with ⟨rfl, rfl, rfl, rfl⟩ | ⟨x, rfl, h1, h2, h3, hc, hw⟩
  · exact ⟨⟨by simp [bytesZ], .inl ⟨rfl, rfl⟩⟩, rfl⟩
  · have hl : (bytesZ zs len).length = len := by simp [bytesZ]; omega
    refine ⟨⟨?_, .inr ⟨x, cap, by rw [hl], by omega, h2, ?_⟩⟩, hl⟩
    · intro y hy
      simp only [bytesZ, List.map_take] at hy
      have hy := List.mem_of_mem_take hy
      simp only [List.mem_map] at hy
      obtain ⟨z, hz, rfl⟩ := hy
      have := u8_wf (hw z hz)
      omega
    · intro i u hu
      have hi : i < len := by
        have := (List.getElem?_eq_some_iff.1 hu).1
        rw [u8s_length, hl] at this; exact this
      rw [hc i (by omega)]
      rw [u8s_get _ _ (by rw [hl]; exact hi)] at hu
      rw [← hu]
      have hz : zs.getD i 0 ∈ zs := by rw [List.getD_eq_getElem?_getD, List.getElem?_eq_getElem (by omega)]; exact List.getElem_mem _
      have hb := u8_wf (hw _ hz)
      have e : (bytesZ zs len).getD i 0 = (zs.getD i 0).toNat := by
        simp only [bytesZ, List.getD_eq_getElem?_getD, List.getElem?_map, List.getElem?_take_of_lt hi]
        rw [List.getElem?_eq_getElem (by omega)]
        simp
      rw [e, Int.toNat_of_nonneg hb.1]
theorem isBytes_own {w : World} {base : Nat} {sp : Option Addr} {cap : Nat} {B : List Nat} (hx : ∀ x ∈ B, x < 256) (h : w.ownsRow base 5 1 (.slice sp B.length cap) B.length (u8s B)) : IsBytes w (.slice sp B.length cap) B := by
  refine ⟨hx, ?_⟩
  obtain ⟨hl, ⟨he, h0⟩ | ⟨g, cap', cur, hv, _, hh, hn, hm, hs, ht⟩⟩ := h
  · have hB : B = [] := List.eq_nil_of_length_eq_zero h0
    subst hB
    exact .inl ⟨he, rfl⟩
  · simp at hv
    obtain ⟨rfl, rfl⟩ := hv
    refine .inr ⟨⟨g, 0, none⟩, cap, rfl, hn, hm, fun i u hu => ?_⟩
    have hadd : (⟨g, 0, none⟩ : Addr).add i = ⟨g, i, none⟩ := by unfold Addr.add; split <;> simp_all
    rw [hadd]
    have hi := (List.getElem?_eq_some_iff.1 hu).1
    rw [u8s_length] at hi
    rw [← ht, List.getElem?_take_of_lt (by omega)] at hu
    simp [World.cell?, hh]
    simpa using hu
theorem IsBytes.slice {w : World} {v : Value} {B : List Nat} (h : IsBytes w v B) : ∃ a cap, v = .slice a B.length cap ∧ B.length ≤ cap ∧ cap ≤ maxLen := by
  obtain ⟨_, ⟨rfl, rfl⟩ | ⟨a, cap, rfl, h1, h2, _⟩⟩ := h
  · exact ⟨none, 0, rfl, Nat.le_refl _, by unfold maxLen; omega⟩
  · exact ⟨some a, cap, rfl, h1, h2⟩
theorem IsBytes.take {w : World} {a : Option Addr} {cap : Nat} {B : List Nat} (h : IsBytes w (.slice a B.length cap) B) (n : Nat) (hn : n ≤ B.length) : IsBytes w (.slice a n cap) (B.take n) := by
  have hl : (B.take n).length = n := by rw [List.length_take]; omega
  obtain ⟨hx, ⟨he, rfl⟩ | ⟨x, c, he, h1, h2, hc⟩⟩ := h
  · simp at he hn
    obtain ⟨rfl, rfl⟩ := he
    subst hn
    exact ⟨by simp, .inl ⟨rfl, rfl⟩⟩
  · simp at he
    obtain ⟨rfl, rfl⟩ := he
    refine ⟨fun y hy => hx y (List.mem_of_mem_take hy), .inr ⟨x, cap, by rw [hl], by omega, h2, fun i u hu => hc i u ?_⟩⟩
    have hi := (List.getElem?_eq_some_iff.1 hu).1
    rw [u8s_length, hl] at hi
    simp only [u8s, List.map_take] at hu ⊢
    rwa [List.getElem?_take_of_lt hi] at hu

theorem getD_lt {B : List Nat} (hx : ∀ x ∈ B, x < 256) (i : Nat) : B.getD i 0 < 256 := by
  by_cases h : i < B.length
  · exact hx _ (by rw [List.getD_eq_getElem?_getD, List.getElem?_eq_getElem h]; exact List.getElem_mem h)
  · rw [List.getD_eq_getElem?_getD, List.getElem?_eq_none (by omega)]; simp
theorem grownBy_trans {w w' w'' : World} {r : Option Nat} (h : w.grownBy w' r) (k : w'.grownBy w'' r) : w.grownBy w'' r :=
  ⟨k.os.trans h.os, k.tape.trans h.tape, k.output.trans h.output, Nat.le_trans h.size k.size,
    fun i hi hn => (k.block i (Nat.lt_of_lt_of_le hi h.size) hn).trans (h.block i hi hn)⟩
theorem grownBy_refl (w : World) (r : Option Nat) : w.grownBy w r := ⟨rfl, rfl, rfl, Nat.le_refl _, fun _ _ _ => rfl⟩

/-- append(own, src...) of bytes, whatever the source: nil or not -/
theorem wpList_append_bytes {w : World} {ops : Array Oper} {rest : List Oper} {o : Oper} {a : Act} {Q : Exit → Act → World → Prop} (hgd : o.guard = none) (s x : Operand)
    (ho : o.op = .call { callee := .builtin .append, args := #[s, x], argTypes := #[62, 62] })
    (base : Nat) (v : Value) (n : Nat) (xs : List Value) (hs : a.eval s = v) (hown : w.ownsRow base 5 1 v n xs)
    (src : Value) (B : List Nat) (hx : a.eval x = src) (hsrc : IsBytes w src B)
    (hbytes : n + B.length ≤ 140737488355328) (hbase : base ≤ w.heap.size)
    (h : ∀ v' w', w'.ownsRow base 5 1 v' (n + B.length) (xs ++ u8s B) → w.grownBy w' v.ownBlock → wpList Try.prog ops Q rest (a.put o.dst v') w') : wpList Try.prog ops Q (o :: rest) a w := by
  obtain ⟨i0, hi, hz0, hz1, hz2⟩ := info_parts info5
  obtain ⟨_, ⟨rfl, rfl⟩ | ⟨ad, cap, rfl, h1, h2, hc⟩⟩ := hsrc
  · refine wpList_append_own_none hgd s x _ ho base 5 i0 1 Try.underlying62 hi v n xs hs hown hx ?_
    exact h v w (by simpa [u8s] using hown) (grownBy_refl _ _)
  · refine wpList_append_own w hgd s x _ ho base 5 i0 (.int .u8 0) 1 1 Try.underlying62 hi hz0 hz1 hz2 rfl (by decide) v n xs hs hown ad B.length cap (u8s B) hx (by rw [u8s_length, Nat.mul_one]) hc (u8s_one B) (by unfold maxLen; omega) (by omega) hbase ?_
    exact fun v' w' h3 h4 _ => h v' w' h3 h4

theorem blk_ty {w : World} {b : Nat} {t t2 : TypeId} {c c2 : List Value} (h : Blk w b t c) (h2 : Blk w b t2 c2) : t = t2 := by
  apply Classical.byContradiction
  intro hne
  exact h.ne h2 hne rfl
theorem own_gr {w w' : World} {base n r : Nat} {e t : TypeId} {v : Value} {xs cs : List Value} (h : w.ownsRow base e 1 v n xs) (hg : Gr w w' r) (hb : Blk w r t cs) (h1 : t ≠ e) : w'.ownsRow base e 1 v n xs :=
  ownsRow_row h hg fun k t' cs' e' hk _ => by
    simp at e'
    subst e'
    have := blk_ty hb hk
    subst this
    exact h1
theorem own_below {w w' : World} {base n : Nat} {e : TypeId} {v : Value} {xs : List Value} (h : w.ownsRow base e 1 v n xs) (hb : Below w.heap.size w w') : w'.ownsRow base e 1 v n xs :=
  ownsRow_row h (r := none) ⟨hb.os, hb.tape, hb.output, hb.size, fun k hk _ => hb.block k hk⟩ (by simp)
theorem own_blk {w : World} {base e g n cap : Nat} {xs : List Value} (h : w.ownsRow base e 1 (.slice (some ⟨g, 0, none⟩) n cap) n xs) : ∃ cs, Blk w g e cs := by
  obtain ⟨hl, ⟨he, h0⟩ | ⟨g', cap', cur, hv, _, hh, hn, hm, hs, ht⟩⟩ := h
  · simp at he
  · simp at hv
    obtain ⟨rfl, rfl⟩ := hv
    exact ⟨cur.toList, by unfold Blk; simpa using hh⟩
/-- the blocks from lo up to hi are as they were -/
def SameIn (lo hi : Nat) (w w' : World) : Prop := ∀ k, lo ≤ k → k < hi → w'.heap[k]? = w.heap[k]?
theorem SameIn.refl (lo hi : Nat) (w : World) : SameIn lo hi w w := fun _ _ _ => rfl
theorem SameIn.gr {lo hi r : Nat} {w w' w'' : World} (h : SameIn lo hi w w') (hg : Gr w' w'' r) (hs : hi ≤ w'.heap.size) (hr : r < lo ∨ hi ≤ r) : SameIn lo hi w w'' :=
  fun k h1 h2 => (hg.block k (by omega) (by simp; omega)).trans (h k h1 h2)
theorem SameIn.below {lo hi : Nat} {w w' w'' : World} (h : SameIn lo hi w w') (hb : Below w'.heap.size w' w'') (hs : hi ≤ w'.heap.size) : SameIn lo hi w w'' :=
  fun k h1 h2 => (hb.block k (by omega)).trans (h k h1 h2)
theorem own_ne {w w' : World} {base e n r : Nat} {v : Value} {xs : List Value} (h : w.ownsRow base e 1 v n xs) (hg : Gr w w' r) (hne : ∀ g, v.ownBlock = some g → g < r) : w'.ownsRow base e 1 v n xs := by
  refine h.kept hg ?_
  cases hv : v.ownBlock with
  | none => exact .inl rfl
  | some g => right; have := hne g hv; simp; omega
/-- append(own, c): one byte, whose own block was made just ahead -/
theorem wpList_append_byte {w : World} {ops : Array Oper} {rest : List Oper} {o : Oper} {a : Act} {Q : Exit → Act → World → Prop} (hgd : o.guard = none) (s x : Operand)
    (ho : o.op = .call { callee := .builtin .append, args := #[s, x], argTypes := #[62, 62] })
    (base : Nat) (v : Value) (n : Nat) (xs : List Value) (c : Int) (hs : a.eval s = v) (hown : w.ownsRow base 5 1 v n xs)
    (hx : a.eval x = .slice (some ⟨w.heap.size, 0, none⟩) 1 1)
    (hbytes : n + 1 ≤ 140737488355328) (hbase : base ≤ w.heap.size)
    (h : ∀ v' w', w'.ownsRow base 5 1 v' (n + 1) (xs ++ [.int .u8 c]) → (w.alloc (.cells #[.int .u8 c] 5 (0, 0))).grownBy w' v.ownBlock → wpList Try.prog ops Q rest (a.put o.dst v') w') : wpList Try.prog ops Q (o :: rest) a (w.alloc (.cells #[.int .u8 c] 5 (0, 0))) := by
  obtain ⟨i0, hi, hz0, hz1, hz2⟩ := info_parts info5
  exact wpList_append_own _ hgd s x _ ho base 5 i0 (.int .u8 0) 1 1 Try.underlying62 hi hz0 hz1 hz2 rfl (by decide) v n xs hs (hown.alloc _) ⟨w.heap.size, 0, none⟩ 1 1 [.int .u8 c] hx rfl (cell_one_new _ _ _) (by intro u hu; simp at hu; subst hu; rfl) (by unfold maxLen; omega) (by omega) (by simp; omega) fun v' w' h2 h3 _ => h v' w' h2 h3
theorem wpList_append_byte_at {w : World} {ops : Array Oper} {rest : List Oper} {o : Oper} {a : Act} {Q : Exit → Act → World → Prop} (hgd : o.guard = none) (s x : Operand)
    (ho : o.op = .call { callee := .builtin .append, args := #[s, x], argTypes := #[62, 62] })
    (base : Nat) (v : Value) (n : Nat) (xs : List Value) (c : Int) (hs : a.eval s = v) (hown : w.ownsRow base 5 1 v n xs)
    (b : Nat) (hb : b = w.heap.size) (hx : a.eval x = .slice (some ⟨b, 0, none⟩) 1 1)
    (hbytes : n + 1 ≤ 140737488355328) (hbase : base ≤ w.heap.size)
    (h : ∀ v' w', w'.ownsRow base 5 1 v' (n + 1) (xs ++ [.int .u8 c]) → (w.alloc (.cells #[.int .u8 c] 5 (0, 0))).grownBy w' v.ownBlock → wpList Try.prog ops Q rest (a.put o.dst v') w') : wpList Try.prog ops Q (o :: rest) a (w.alloc (.cells #[.int .u8 c] 5 (0, 0))) := by
  subst hb
  exact wpList_append_byte hgd s x ho base v n xs c hs hown hx hbytes hbase h
theorem own_nil (w : World) (base : Nat) : w.ownsRow base 5 1 (.slice none 0 0) 0 [] := World.ownsRow_nil _ _ _ _
theorem own_lt {w : World} {base n : Nat} {e : TypeId} {v : Value} {xs : List Value} (h : w.ownsRow base e 1 v n xs) : ∀ k, v.ownBlock = some k → base ≤ k := fun k hk => (h.lt k hk).1
/-- the world behind an append to an own row -/
theorem bel_append {w w1 w2 : World} {base n : Nat} {e : TypeId} {v : Value} {xs : List Value} (hb : Below base w w1) (o : Obj) (h : w1.ownsRow base e 1 v n xs) (hg : (w1.alloc o).grownBy w2 v.ownBlock) (hbase : base ≤ w1.heap.size) : Below base w w2 :=
  (hb.alloc hbase o).grown hg (by simp; omega) (own_lt h)
theorem u8s_snoc (B : List Nat) (c : Nat) : u8s (B ++ [c]) = u8s B ++ [.int .u8 c] := by simp [u8s]
theorem u8s_append (A B : List Nat) : u8s (A ++ B) = u8s A ++ u8s B := by simp [u8s]
theorem own_new (w : World) (c : List Value) (t : TypeId) {base : Nat} (hb : base ≤ w.heap.size) (hl : c.length ≤ maxLen) : (w.alloc (.cells c.toArray t)).ownsRow base t 1 (.slice (some ⟨w.heap.size, 0, none⟩) c.length c.length) c.length c :=
  ⟨by omega, .inr ⟨w.heap.size, c.length, c.toArray, rfl, hb, heap_alloc_new w _, Nat.le_refl _, hl, by simp, by simp⟩⟩
/-- a piece of bytes, as a slice expression gives it -/
theorem IsBytes.sub {w : World} {a : Option Addr} {cap : Nat} {B : List Nat} (h : IsBytes w (.slice a B.length cap) B) (k n : Nat) (hk : k + n ≤ B.length) : IsBytes w (.slice (a.map fun x => x.add k) n (cap - k)) ((B.drop k).take n) := by
  have hl : ((B.drop k).take n).length = n := by rw [List.length_take, List.length_drop]; omega
  obtain ⟨hx, ⟨he, rfl⟩ | ⟨x, c, he, h1, h2, hc⟩⟩ := h
  · simp at he hk
    obtain ⟨rfl, rfl⟩ := he
    obtain ⟨rfl, rfl⟩ := hk
    exact ⟨by simp, .inl ⟨rfl, rfl⟩⟩
  · simp at he
    obtain ⟨rfl, rfl⟩ := he
    refine ⟨fun y hy => hx y (List.mem_of_mem_drop (List.mem_of_mem_take hy)), .inr ⟨x.add k, cap - k, by rw [hl]; rfl, by omega, by omega, fun i u hu => ?_⟩⟩
    have hi := (List.getElem?_eq_some_iff.1 hu).1
    rw [u8s_length, hl] at hi
    simp only [u8s, List.map_take, List.map_drop] at hu
    rw [List.getElem?_take_of_lt hi, List.getElem?_drop] at hu
    have hcell := hc (k + i) u hu
    rw [Addr.add_add]; exact hcell
theorem IsBytes.none_left {w : World} {a : Option Addr} {B : List Nat} (h : IsBytes w (.slice a B.length B.length) B) : IsBytes w (.slice a 0 0) [] := by
  obtain ⟨hx, ⟨he, rfl⟩ | ⟨x, c, he, h1, h2, hc⟩⟩ := h
  · simp at he
    subst he
    exact ⟨by simp, .inl ⟨rfl, rfl⟩⟩
  · simp at he
    obtain ⟨rfl, rfl⟩ := he
    exact ⟨by simp, .inr ⟨x, 0, rfl, Nat.le_refl _, by unfold maxLen; omega, by simp [u8s]⟩⟩
theorem own_open {w : World} {base n : Nat} {e : TypeId} {v : Value} {xs : List Value} (h : w.ownsRow base e 1 v n xs) (h0 : 0 < n) : ∃ g cap, v = .slice (some ⟨g, 0, none⟩) n cap ∧ base ≤ g ∧ g < w.heap.size ∧ n ≤ cap ∧ cap ≤ maxLen := by
  obtain ⟨hl, ⟨rfl, rfl⟩ | ⟨g, cap, cur, rfl, hb, hh, hn, hm, _⟩⟩ := h
  · omega
  · exact ⟨g, cap, rfl, hb, (Array.getElem?_eq_some_iff.1 hh).1, hn, hm⟩
theorem own_base {w : World} {base base' n : Nat} {e : TypeId} {v : Value} {xs : List Value} (h : w.ownsRow base e 1 v n xs) (hb : base' ≤ base) : w.ownsRow base' e 1 v n xs := by
  obtain ⟨hl, h | ⟨g, cap, cur, hv, hg, hrest⟩⟩ := h
  · exact ⟨hl, .inl h⟩
  · exact ⟨hl, .inr ⟨g, cap, cur, hv, by omega, hrest⟩⟩
theorem own_cell {w : World} {base g n cap : Nat} {B : List Nat} (h : w.ownsRow base 5 1 (.slice (some ⟨g, 0, none⟩) n cap) n (u8s B)) {i : Nat} (hi : i < n) : w.cell? ⟨g, i, none⟩ = some (.int .u8 (B.getD i 0 : Nat)) := by
  have hl : B.length = n := by have := h.1; rw [u8s_length] at this; omega
  rw [h.cellAt i (by omega)]
  exact u8s_get B i (by omega)
theorem u8s_set (B : List Nat) (i c : Nat) : (u8s B).set i (.int .u8 c) = u8s (B.set i c) := by simp [u8s, List.map_set]
/-- what a function answers that makes bytes -/
def MadePost (B : List Nat) (w : World) (e : Ending) (w' : World) : Prop :=
  ∃ v', e = .returned v' ∧ w'.ownsRow w.heap.size 5 1 v' B.length (u8s B) ∧ Below w.heap.size w w'
/-- the bytes of a string -/
def strB (s : ByteArray) : List Nat := s.data.toList.map UInt8.toNat
theorem strB_length (s : ByteArray) : (strB s).length = s.size := by simp [strB]
theorem strB_lt (s : ByteArray) : ∀ x ∈ strB s, x < 256 := by
  intro x hx; simp only [strB, List.mem_map] at hx; obtain ⟨c, _, rfl⟩ := hx; exact c.toNat_lt
theorem str_strB (s : ByteArray) : str (strB s) = s := by
  unfold str strB
  rw [List.map_map]
  have : (UInt8.ofNat ∘ UInt8.toNat) = id := by funext c; simp
  rw [this, List.map_id]
theorem strB_str {B : List Nat} (h : ∀ x ∈ B, x < 256) : strB (str B) = B := by
  apply str_inj (strB_lt _) h
  rw [str_strB]
theorem strCells_u8s (s : ByteArray) : Lib.strCells s = u8s (strB s) := by
  simp [Lib.strCells, u8s, strB]
/-- append(own, s...) of a string -/
theorem wpList_append_str {w : World} {ops : Array Oper} {rest : List Oper} {o : Oper} {a : Act} {Q : Exit → Act → World → Prop} (hgd : o.guard = none) (sl x : Operand)
    (ho : o.op = .call { callee := .builtin .append, args := #[sl, x], argTypes := #[62, 9] })
    (base : Nat) (v : Value) (n : Nat) (B : List Nat) (s : ByteArray) (hs : a.eval sl = v) (hown : w.ownsRow base 5 1 v n (u8s B))
    (hx : a.eval x = .string s) (hbytes : n + s.size ≤ 140737488355328) (hbase : base ≤ w.heap.size)
    (h : ∀ v' w', w'.ownsRow base 5 1 v' (n + s.size) (u8s (B ++ strB s)) → w.grownBy w' v.ownBlock → wpList Try.prog ops Q rest (a.put o.dst v') w') : wpList Try.prog ops Q (o :: rest) a w := by
  obtain ⟨i0, hi, hz0, hz1, hz2⟩ := info_parts info5
  refine Lib.wpList_append_own_string w hgd sl x _ _ ho base 5 i0 Try.underlying62 Try.underlying9 hi hz0 hz1 hz2 v n _ hs hown s hx (by unfold maxLen; omega) hbytes hbase fun v' w' h2 h3 _ => h v' w' ?_ h3
  rw [u8s_append, ← strCells_u8s]; exact h2
end Go.Proofs.Ythgpdnffahmhjaa

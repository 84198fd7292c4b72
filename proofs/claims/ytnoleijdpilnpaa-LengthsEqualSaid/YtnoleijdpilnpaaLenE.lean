/- lengths.rowsOf: a contract. -/
import Derived.Test.YtnoleijdpilnpaaLenD
import Derived.Deep.WholeRow
set_option linter.unusedSimpArgs false
set_option linter.unusedVariables false
namespace Go.Proofs.Ytnoleijdpilnpaa
open Go.RowKit Pl
namespace Pl
def prevRow (S : List Coin) : Nat → List Coin
  | 0 => []
  | k + 1 => rowC S k
theorem prev_row (S : List Coin) (k : Nat) : mergeC S (pairsOf (prevRow S k)) = rowC S k := by
  cases k with
  | zero => rw [prevRow, pairsOf, merge_nil', rowC]; exact fun _ _ _ h => by simp at h
  | succ k => rfl
end Pl
def AllSl (vs : List Value) : Prop := ∀ x ∈ vs, ∃ a n c, x = .slice a n c
def zeroRows : List Value := List.replicate 15 (.slice none 0 0)
theorem allSl_zero : AllSl zeroRows := fun x hx => ⟨none, 0, 0, List.eq_of_mem_replicate hx⟩
theorem allSl_set {vs : List Value} (h : AllSl vs) (i : Nat) (a : Option Addr) (n c : Nat) : AllSl (vs.set i (.slice a n c)) := fun x hx => by
  rcases List.mem_or_eq_of_mem_set hx with hx | rfl
  · exact h x hx
  · exact ⟨a, n, c, rfl⟩
theorem allSl_one {vs : List Value} (h : AllSl vs) : vs.toArray.all (·.oneCell') = true := by
  rw [List.all_toArray, List.all_eq_true]
  intro x hx
  obtain ⟨a, n, c, rfl⟩ := h x hx
  rfl
theorem coins_ne {w : World} {v : Value} {C : List Coin} {b : Nat} {t : TypeId} {vs : List Value} (h : IsCoins w v C) (hb : Blk w b t vs) (hs : AllSl vs) : ∀ a m c, v = .slice (some a) m c → 0 < (coinVs C).length → a.block ≠ b := by
  rintro a m c rfl h0 rfl
  obtain ⟨he, h1, h2⟩ | ⟨x, cap, he, h1, h2, hc⟩ := h
  · simp at he
  · simp at he
    obtain ⟨rfl, rfl, rfl⟩ := he
    have hC : 0 < C.length := by rw [coinVs_length] at h0; omega
    have hcell := hc 0 _ (by have := (coinVs_get C 0 hC).1; simpa using this)
    obtain ⟨bb, off, sp⟩ := a
    have hsp : sp = none := by simpa [Addr.add] using World.cell?_spot hcell
    subst hsp
    rw [add_none] at hcell
    unfold Blk at hb
    simp only at hb
    have : (vs.toArray[off + 0]?) = some (.int .i64 (C.getD 0 (0, 0)).1) := by
      simpa [World.cell?, hb] using hcell
    have hm := List.mem_of_getElem? (by simpa using this)
    obtain ⟨a', n', c', e⟩ := hs _ hm
    cases e
theorem IsCoins.setCell {w : World} {v : Value} {C : List Coin} {b : Nat} {t : TypeId} {vs : List Value} (h : IsCoins w v C) (hb : Blk w b t vs) (hs : AllSl vs) (o : Nat) (x : Value) : IsCoins (w.setCell ⟨b, o, none⟩ x) v C :=
  IsCells.row h (r := some b) (Gr.setCell (Gr.refl w b) o x) fun a m c e h0 e2 => coins_ne h hb hs a m c e h0 (by simpa using e2)
theorem IsCoins.gr {w w' : World} {v : Value} {C : List Coin} {b : Nat} {t : TypeId} {vs : List Value} (h : IsCoins w v C) (hb : Blk w b t vs) (hs : AllSl vs) (hg : Gr w w' b) : IsCoins w' v C :=
  IsCells.row h (r := some b) hg fun a m c e h0 e2 => coins_ne h hb hs a m c e h0 (by simpa using e2)
/-- the first k of the slices tell the first k rows -/
def RowsAre (S : List Coin) (lo hi : Nat) (w : World) (vs : List Value) (k : Nat) : Prop := vs.length = 15 ∧ ∀ i, i < k → ∃ b n c, vs[i]? = some (.slice (some ⟨b, 0, none⟩) n c) ∧ n = (rowC S i).length ∧ n ≤ c ∧ c ≤ maxLen ∧ IsCoins w (.slice (some ⟨b, 0, none⟩) n c) (rowC S i) ∧ lo ≤ b ∧ b < hi
theorem zero_rows (w : World) : (zeroValue 43).run Try.prog w = .ok (.agg zeroRows.toArray) w := by kernel_rfl
theorem size_rows : (Try.prog.info? 43).map (·.size) = some 15 := by kernel_rfl
def loadR (v : Value) : Sem Value := Instr.loadAt 43 v
theorem loadR_eq (v : Value) : Instr.loadAt 43 v = loadR v := rfl
def storeR (p v : Value) : Sem Unit := Instr.storeAt 43 p v
theorem storeR_eq (p v : Value) : Instr.storeAt 43 p v = storeR p v := rfl
def allocR (b : Bool) (v : Value) : Sem Value := Instr.alloc 43 b v
theorem allocR_eq (b : Bool) (v : Value) : Instr.alloc 43 b v = allocR b v := rfl
theorem run_allocR (w : World) (v : Value) : (allocR true v).run Try.prog w = .ok (.pointer (some ⟨w.heap.size, 0, none⟩)) (w.alloc (.cells zeroRows.toArray 43)) := by
  unfold allocR Instr.alloc
  rw [Sem.run_bind, zero_rows]
  cases v <;> rfl
theorem run_loadR {w : World} {b : Nat} {L : List Value} (h : Blk w b 43 L) (hl : L.length = 15) : (loadR (.pointer (some ⟨b, 0, none⟩))).run Try.prog w = .ok (.agg L.toArray) w := by
  simp only [loadR, Instr.loadAt, Instr.sureAddr, Sem.run_bind, Sem.run_pure, Result.andThen_ok]
  exact run_loadVar_row w b _ _ _ (0, 0) _ h Try.underlying43 rfl (by rw [size_rows]; simp [hl])
theorem run_storeR {w : World} {b : Nat} {K L : List Value} (h : Blk w b 43 K) (hk : K.length = 15) (hl : L.length = 15) (hs : AllSl L) : (storeR (.pointer (some ⟨b, 0, none⟩)) (.agg L.toArray)).run Try.prog w = .ok () (w.setRow b L.toArray) := by
  simp only [storeR, Instr.storeAt, Instr.sureAddr, Sem.run_bind, Sem.run_pure, Result.andThen_ok]
  exact run_storeVar_row w b _ _ _ _ h (by rw [size_rows]; simp [hl]) (by simp [hk, hl]) (allSl_one hs)
theorem Blk.setRow {w : World} {b : Nat} {t : TypeId} {c : List Value} (h : Blk w b t c) (c' : List Value) : Blk (w.setRow b c'.toArray) b t c' := by
  unfold Blk at h ⊢
  exact setRow_heap w b _ _ t _ h
theorem gr_setRow (w : World) (b : Nat) (c : Array Value) : Gr w (w.setRow b c) b :=
  ⟨rfl, rfl, rfl, by simp, fun k hk hne => setRow_other w b k _ (fun e => hne (by simp [e]))⟩
def RowsPost (S : List Coin) (w : World) (e : Ending) (w' : World) : Prop := ∃ vs, e = .returned (.agg vs.toArray) ∧ RowsAre S w.heap.size w'.heap.size w' vs 15 ∧ AllSl vs ∧ Below w.heap.size w w'
attribute [local go_sem ↓] loadR_eq storeR_eq allocR_eq
attribute [local go_sem] run_allocR
set_option maxHeartbeats 8000000 in
set_option maxRecDepth 100000 in
theorem rowsOf_any (a : Option Addr) (n cap : Nat) (S : List Coin) (w : World) (hS : IsCoins w (.slice a n cap) S) (hn : S.length = n) (hcap : n ≤ cap) (hmax : cap ≤ maxLen) (hS1 : n ≤ 400)
    (hw : ∀ c ∈ S, 0 < c.1 ∧ c.1 ≤ 1073741824) :
    Calls Try.prog 22 #[.slice a n cap] w (RowsPost S w) := by
  have HSS := Lib.hid hS
  have HN := Lib.hid hn
  have hprev : ∀ k, k ≤ 15 → (prevRow S k).length ≤ 1000000 ∧ ∀ c ∈ prevRow S k, 0 ≤ c.1 ∧ c.1 ≤ 1152921504606846976 := fun k hk => by
    cases k with
    | zero => exact ⟨by simp [prevRow], by simp [prevRow]⟩
    | succ k =>
      refine ⟨by have := row_small S k; simp only [prevRow]; omega, fun c hc => ?_⟩
      have h1 := row_pos (fun c hc => (hw c hc).1) k c hc
      have h2 := row_le (m := 1073741824) (by omega) (fun c hc => (hw c hc).2) k c hc
      have h3 : (2 : Int) ^ k ≤ 1073741824 := by
        have : 2 ^ k ≤ 2 ^ 30 := Nat.pow_le_pow_right (by omega) (by omega)
        have e : (2 : Int) ^ k = ((2 ^ k : Nat) : Int) := by simp
        rw [e]
        have e2 : (2 : Nat) ^ 30 = 1073741824 := by decide
        omega
      have h4 := Int.mul_le_mul_of_nonneg_right h3 (show (0 : Int) ≤ 1073741824 by omega)
      omega
  have HPV := Lib.hid hprev
  clear hprev hS hn hw
  go_enter Try.func22, Try.ntmps22
  go_wp2
  have hb0 : Below w.heap.size w ((w.alloc (.cells zeroRows.toArray 43)).alloc (.cells zeroRows.toArray 43)) := ((Below.refl _ _).alloc (Nat.le_refl _) _).alloc (by simp) _
  have hA0 := (Blk.new w 43 zeroRows).alloc (.cells zeroRows.toArray 43)
  have hA1 : Blk ((w.alloc (.cells zeroRows.toArray 43)).alloc (.cells zeroRows.toArray 43)) (w.heap.size + 1) 43 zeroRows := by
    have := Blk.new (w.alloc (.cells zeroRows.toArray 43)) 43 zeroRows
    simpa using this
  have HB0 := Lib.hid hb0
  have HA0 := Lib.hid hA0
  have HA1 := Lib.hid hA1
  clear hb0 hA0 hA1
  go_loopw [4, 6] (fun x4 x6 wr => ∃ (k : Nat) (vs : List Value) (ap : Option Addr) (np cp : Nat), k ≤ 15 ∧ x6 = .int .i64 k ∧ x4 = .slice ap np cp ∧ np = (prevRow S k).length ∧ IsCoins wr (.slice ap np cp) (prevRow S k) ∧ Blk wr w.heap.size 43 zeroRows ∧ Blk wr (w.heap.size + 1) 43 vs ∧ AllSl vs ∧ RowsAre S w.heap.size wr.heap.size wr vs k ∧ Below w.heap.size w wr) (fun _ x _ => 15 - (intOf x).toNat)
  case atStart => exact ⟨0, zeroRows, none, 0, 0, by omega, rfl, rfl, rfl, isCells_nil _, HA0.out, HA1.out, allSl_zero, ⟨by simp [zeroRows], by intro i hi; omega⟩, HB0.out⟩
  case round =>
    obtain ⟨k, vs, ap, np, cp, hk, rfl, rfl, hnp, hP, h0, h1, hsl, hR, hb⟩ := hrel
    have H0 := Lib.hid h0
    have H1 := Lib.hid h1
    have HB := Lib.hid hb
    have HP := Lib.hid hP
    have HSL := Lib.hid hsl
    have HR := Lib.hid hR
    have HNP := Lib.hid hnp
    have hlt1 := h1.lt
    clear HB0 HA0 HA1 h0 h1 hb hP hsl hR hnp
    by_cases hlt : k < 15
    · have hS2 : IsCoins wr (.slice a n cap) S := HSS.out.below (HB.out.mono (Nat.le_refl _))
      have hc := withPairs_any a n cap (.slice ap np cp) S (prevRow S k) wr hS2 HN.out hcap hmax HP.out (HPV.out k hk).1 (by omega) (HPV.out k hk).2
      clear hS2
      go_wp2_with fail
      refine hc.mono ?_
      rintro e w2 ⟨nr, cr, rfl, hnr, hcr, hmr, hsw2, hI, hB2⟩
      rw [prev_row] at hnr hI
      have H0' := Lib.hid (H0.out.below hB2 (by omega))
      have H1' := Lib.hid (H1.out.below hB2 hlt1)
      have HB' := Lib.hid (HB.out.trans (hB2.mono HB.out.size))
      have hR2 : RowsAre S w.heap.size w2.heap.size w2 vs k := ⟨HR.out.1, fun i hi => by
        obtain ⟨a', n', c', e1, e2, e3, e4, e5, e6, e7⟩ := HR.out.2 i hi
        exact ⟨a', n', c', e1, e2, e3, e4, e5.below hB2, e6, by omega⟩⟩
      have hsw : w.heap.size ≤ wr.heap.size := HB.out.size
      have HR' := Lib.hid hR2
      have HI := Lib.hid hI
      have HNR := Lib.hid hnr
      have hl15 : vs.length = 15 := HR.out.1
      have c0 : w2.cell? ⟨w.heap.size + 1, k, none⟩ = some vs[k] := H1'.out.cell (List.getElem?_eq_getElem (by omega))
      have hvk : ∃ a n c, vs[k] = .slice a n c := HSL.out _ (List.getElem_mem (by omega))
      obtain ⟨a9, n9, c9, hvk⟩ := hvk
      rw [hvk] at c0
      have f0 := H1'.out.frozen k
      have hset := H1'.out.set k (.slice (some ⟨wr.heap.size, 0, none⟩) nr cr)
      have c1 := hset.cell (o := k) (v := .slice (some ⟨wr.heap.size, 0, none⟩) nr cr) (by simp [hl15, hlt])
      have HSET := Lib.hid hset
      clear hc hI hB2 hR2 HR H0 H1 HB HP HNP hnr hvk hset hlt1 hl15
      go_wp2
      go_roundw
      case rel =>
        refine ⟨k + 1, vs.set k (.slice (some ⟨wr.heap.size, 0, none⟩) nr cr), _, nr, cr, by omega, by first | rfl | go_num, rfl, HNR.out, ?_, H0'.out.setOther (by simp) _, HSET.out, allSl_set HSL.out _ _ _ _, ⟨by rw [List.length_set]; exact HR'.out.1, fun i hi => ?_⟩, HB'.out.setCell (by simp) _⟩
        · exact IsCoins.setCell HI.out H1'.out HSL.out _ _
        · by_cases e : i = k
          · subst e
            exact ⟨wr.heap.size, nr, cr, by rw [List.getElem?_set_self (by rw [HR'.out.1]; exact hlt)], HNR.out, hcr, hmr, IsCoins.setCell HI.out H1'.out HSL.out _ _, hsw, by simpa using hsw2⟩
          · obtain ⟨a', n', c', e1, e2, e3, e4, e5, e6, e7⟩ := HR'.out.2 i (by omega)
            exact ⟨a', n', c', by rw [List.getElem?_set_ne (Ne.symm e)]; exact e1, e2, e3, e4, IsCoins.setCell e5 H1'.out HSL.out _ _, e6, by simpa using e7⟩
      case measure => simp [intOf]; omega
    · obtain rfl : k = 15 := by omega
      have hl := run_loadR H1.out HR.out.1
      have hs := run_storeR H0.out (by simp [zeroRows]) HR.out.1 HSL.out
      have HE : Hid (Blk (wr.setRow w.heap.size vs.toArray) w.heap.size 43 vs) := H0.out.setRow vs
      have HF := Lib.hid (below_setRow HB.out (Nat.le_refl _) vs.toArray)
      have HR2 : Hid (RowsAre S w.heap.size (wr.setRow w.heap.size vs.toArray).heap.size (wr.setRow w.heap.size vs.toArray) vs 15) := ⟨HR.out.1, fun i hi => by
        obtain ⟨a', n', c', e1, e2, e3, e4, e5, e6, e7⟩ := HR.out.2 i hi
        exact ⟨a', n', c', e1, e2, e3, e4, e5.gr H0.out allSl_zero (gr_setRow _ _ _), e6, Nat.lt_of_lt_of_le e7 (gr_setRow wr w.heap.size vs.toArray).size⟩⟩
      have hl15 : vs.length = 15 := HR.out.1
      have HL := Lib.hid hl15
      clear hl15
      go_wp2
      refine bodyPost_ret (v := .agg vs.toArray) ?_ rfl ⟨vs, rfl, HR2.out, HSL.out, HF.out⟩
      refine results_cell_row rfl _ _ w.heap.size 43 vs.toArray (0, 0) _ (by simp) HE.out Try.underlying43 rfl (by rw [size_rows]; simp [HL.out])
end Go.Proofs.Ytnoleijdpilnpaa

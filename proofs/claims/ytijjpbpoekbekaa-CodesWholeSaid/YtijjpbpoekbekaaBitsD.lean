/- The bit writer's Bytes: contract. -/
import Derived.Test.YtijjpbpoekbekaaBitsC
namespace Go.Proofs.Ytijjpbpoekbekaa
open Go.RowKit Pl

theorem info5 : (Try.prog.info? 5).map (fun i => (i.zero, i.size, i.bytes)) = some (some (.int .u8 0), 1, 1) := by kernel_rfl
theorem size5 : (Try.prog.info? 5).map (·.size) = some 1 := by kernel_rfl

/-- an owned row of one-cell elements whose value fills it is a block that is known whole -/
theorem made_blk {w : World} {base : Nat} {e : TypeId} {g n : Nat} {xs : List Value} (h : w.ownsRow base e 1 (.slice (some ⟨g, 0, none⟩) n n) n xs) : Blk w g e xs := by
  obtain ⟨hl, h | ⟨g', cap, cur, hv, _, hh, hn, _, hs, ht⟩⟩ := h
  · simp at h
  · simp at hv
    obtain ⟨rfl, rfl⟩ := hv
    unfold Blk
    rw [hh]
    have : cur.toList = xs := by rw [← ht, List.take_of_length_le (by simp [hs])]
    rw [← this]

theorem made_list (n : Nat) : (madeCells (Value.int .u8 0).cells (n * 1)).toList = List.replicate n (.int .u8 0) := by
  apply List.ext_getElem?
  intro i
  by_cases h : i < n
  · simp [madeCells, Value.cells, h, Nat.mod_one]
  · simp [madeCells, Value.cells, h]
/-- what a copy's law asks of its two slices -/
def CSrc (w : World) (cs : List Value) (dp : Option Addr) (g off : Nat) (sp : Option Addr) : Prop :=
  0 < cs.length → dp = some ⟨g, off, none⟩ ∧ ∃ ad, sp = some ad ∧ ∀ j v, cs[j]? = some v → w.cell? (ad.add j) = some v
/-- what stands in the answer when the links from k on have been copied -/
def outCells (L : List Bool) (k N : Nat) : List Value := (List.range N).map fun i => .int .u8 (if i < 256 * k then 0 else byteAt L i)
theorem outCells_length (L : List Bool) (k N : Nat) : (outCells L k N).length = N := by simp [outCells]
theorem outCells_get (L : List Bool) (k N i : Nat) (h : i < N) : (outCells L k N)[i]? = some (.int .u8 (if i < 256 * k then 0 else byteAt L i)) := by simp [outCells, h]

theorem splice_get {α : Type} (l : List α) (off : Nat) (cs : List α) (h : off + cs.length ≤ l.length) (i : Nat) :
    (splice l off cs)[i]? = if i < off then l[i]? else if i < off + cs.length then cs[i - off]? else l[i]? := by
  have hm : (l.take off).length = off := by rw [List.length_take]; omega
  unfold splice
  by_cases h1 : i < off
  · rw [if_pos h1, List.getElem?_append_left (by omega), List.getElem?_take_of_lt h1]
  · rw [if_neg h1, List.getElem?_append_right (by omega), hm]
    by_cases h2 : i < off + cs.length
    · rw [if_pos h2, List.getElem?_append_left (by omega)]
    · rw [if_neg h2, List.getElem?_append_right (by omega), List.getElem?_drop]
      congr 1; omega

theorem splice_last (L : List Bool) (N : Nat) (hN : N = (L.length + 7) / 8) :
    splice (List.replicate N (.int .u8 0)) (256 * (L.length / 2048)) ((chunkCells L (L.length / 2048)).take (N - 256 * (L.length / 2048))) = outCells L (L.length / 2048) N := by
  have hq : N - 256 * (L.length / 2048) ≤ 256 := by omega
  have hq2 : 256 * (L.length / 2048) ≤ N := by omega
  have hl : ((chunkCells L (L.length / 2048)).take (N - 256 * (L.length / 2048))).length = N - 256 * (L.length / 2048) := by rw [List.length_take, chunkCells_length]; omega
  apply List.ext_getElem?
  intro i
  rw [splice_get _ _ _ (by rw [hl, List.length_replicate]; omega), hl]
  by_cases h : i < N
  · rw [outCells_get _ _ _ _ h]
    by_cases h1 : i < 256 * (L.length / 2048)
    · rw [if_pos h1, if_pos h1, List.getElem?_replicate, if_pos h]
    · rw [if_neg h1, if_neg h1, if_pos (by omega), List.getElem?_take_of_lt (by omega), chunkCells_get _ _ _ (by omega), show 256 * (L.length / 2048) + (i - 256 * (L.length / 2048)) = i by omega]
  · rw [List.getElem?_eq_none (l := outCells _ _ _) (by rw [outCells_length]; omega), if_neg (by omega), if_neg (by omega), List.getElem?_replicate, if_neg h]

theorem splice_link (L : List Bool) (k N : Nat) (hN : 256 * (k + 1) ≤ N) :
    splice (outCells L (k + 1) N) (256 * k) (chunkCells L k) = outCells L k N := by
  apply List.ext_getElem?
  intro i
  rw [splice_get _ _ _ (by rw [chunkCells_length, outCells_length]; omega), chunkCells_length]
  by_cases h : i < N
  · rw [outCells_get _ _ _ _ h, outCells_get _ _ _ _ h]
    by_cases h1 : i < 256 * k
    · rw [if_pos h1, if_pos h1, if_pos (by omega)]
    · rw [if_neg h1, if_neg h1]
      by_cases h2 : i < 256 * k + 256
      · rw [if_pos h2, chunkCells_get _ _ _ (by omega)]
        congr 3; congr 1; congr 1; omega
      · rw [if_neg h2, if_neg (by omega)]
  · rw [List.getElem?_eq_none (l := outCells _ _ _) (by rw [outCells_length]; omega), List.getElem?_eq_none (l := outCells _ _ _) (by rw [outCells_length]; omega), if_neg (by omega), if_neg (by omega)]

def u8s (B : List Nat) : List Value := B.map fun (x : Nat) => .int .u8 x
theorem outCells_all (L : List Bool) : outCells L 0 ((L.length + 7) / 8) = u8s (bytesOf L) := by
  simp [outCells, u8s, bytesOf]

/-- what Bytes answers: a new row of the bytes -/
def BytesPost (L : List Bool) (w : World) (e : Ending) (w' : World) : Prop :=
  e = .returned (.slice (some ⟨w.heap.size, 0, none⟩) ((L.length + 7) / 8) ((L.length + 7) / 8)) ∧ Blk w' w.heap.size 5 (u8s (bytesOf L)) ∧ Below w.heap.size w w'
def BRel (L : List Bool) (N : Nat) (w : World) (k : Nat) (fo : Option Addr) (wr : World) : Prop :=
  256 * k ≤ N ∧ Chain w L k fo ∧ Blk wr w.heap.size 5 (outCells L k N) ∧ Below w.heap.size w wr
theorem chunkCells_one (L : List Bool) (k : Nat) : ∀ v ∈ chunkCells L k, v.oneCell' = true := by
  intro v hv
  simp only [chunkCells, List.mem_map] at hv
  obtain ⟨j, _, rfl⟩ := hv
  rfl

theorem copy_src {w : World} {b n d : Nat} {fo : Option Addr} {L : List Bool} (hb : Blk w b 41 (wcells fo L)) (hn : n = L.length) (j : Nat) (v : Value)
    (h : ((chunkCells L (n / 2048)).take d)[j]? = some v) : w.cell? ((⟨b, 1, none⟩ : Addr).add j) = some v := by
  subst hn
  have hj := (List.getElem?_eq_some_iff.1 h).1
  rw [List.length_take, chunkCells_length] at hj
  rw [List.getElem?_take_of_lt (by omega), chunkCells_get _ _ _ (by omega)] at h
  have hadd : (⟨b, 1, none⟩ : Addr).add j = ⟨b, 1 + j, none⟩ := by unfold Addr.add; split <;> simp_all
  rw [hadd, hb.cell (wcells_j fo L j (by omega)), h]

theorem brel_start {L : List Bool} {n : Nat} {w w2 : World} {fo : Option Addr} (hn : n = L.length) (hc : Chain w L (L.length / 2048) fo)
    (hg : w2.heap[w.heap.size]? = some (.cells (splice (List.replicate ((n + 7) / 8) (Value.int .u8 0)) (n / 2048 * 256) ((chunkCells L (n / 2048)).take ((n + 7) / 8 - n / 2048 * 256))).toArray 5 (0, 0)))
    (hb : Below w.heap.size w w2) : BRel L ((n + 7) / 8) w (n / 2048) fo w2 := by
  subst hn
  refine ⟨by omega, hc, ?_, hb⟩
  have := splice_last L _ rfl
  rw [Nat.mul_comm 256] at this
  rw [this] at hg
  exact hg
theorem brel_done {L : List Bool} {n N : Nat} {w wr : World} {fo : Option Addr} (hN : N = (n + 7) / 8) (hn : n = L.length) (h : BRel L N w 0 fo wr) :
    BytesPost L w (.returned (.slice (some ⟨w.heap.size, 0, none⟩) N N)) wr := by
  subst hn hN
  obtain ⟨_, _, hg, hb⟩ := h
  rw [outCells_all] at hg
  exact ⟨rfl, hg, hb⟩

set_option maxHeartbeats 400000 in
theorem bytes_any (b : Nat) (L : List Bool) (w : World) (hw : Wr w b L) (hL : L.length < 17179869184) :
    Calls Try.prog 17 #[.pointer (some ⟨b, 0, none⟩)] w (BytesPost L w) := by
  obtain ⟨fo, hb, hch⟩ := hw
  have c0 := hb.cell (wcells_0 fo L)
  have c2 := hb.cell (wcells_n fo L)
  have hlt := hb.lt
  have HB := Lib.hid hb
  have HC := Lib.hid hch
  obtain ⟨n, hn⟩ : ∃ n, n = L.length := ⟨_, rfl⟩
  rw [← hn] at c2 hL
  have HN := Lib.hid hn
  clear hb hch hn
  obtain ⟨i0, hi, hz0, hz1, hz2⟩ := info_parts info5
  have Hi := Lib.hid hi
  have Hz0 := Lib.hid hz0
  have Hz1 := Lib.hid hz1
  have Hz2 := Lib.hid hz2
  clear hi hz0 hz1 hz2
  go_enter Try.func17, Try.ntmps17
  go_wp2_with (at_make; refine wpList_make_full _ rfl _ _ 47 rfl w.heap.size 5 i0 (.int .u8 0) 1 Try.underlying47 Hi.out Hz0.out Hz1.out .i64 .i64 _ _ ((n + 7) / 8) rfl rfl (by omega) (by omega) (by rw [Hz2.out]; omega) (by unfold maxLen; omega) (Nat.le_refl _) ?_; intro w1 hown hgr; have c0' := hgr.cell c0 (by simp); have c2' := hgr.cell c2 (by simp))
  have HB1 : Hid (Blk w1 b 41 (wcells fo L)) := Lib.hid (HB.out.grown hgr (by simp))
  have HG1 : Hid (Blk w1 w.heap.size 5 (List.replicate ((n + 7) / 8) (.int .u8 0))) := Lib.hid (by have := made_blk hown; rw [made_list] at this; simpa using this)
  have HBel : Hid (Below w.heap.size w w1) := Lib.hid ((Below.refl _ _).grown hgr (Nat.le_refl _) (by simp))
  have HC1 : Hid (Chain w1 L (L.length / 2048) fo) := Lib.hid (HC.out.kept fun c cs hx => hx.grown hgr (by simp))
  clear hown c0 c2
  have hc1 : (0 : Int) ≤ (n : Int) / 2048 * 256 := by omega
  have hc2 : (n : Int) / 2048 * 256 ≤ ((n : Int) + 7) / 8 := by omega
  have hc3 : ((n : Int) / 2048 * 256).toNat = n / 2048 * 256 := by omega
  have hd : (n + 7) / 8 - n / 2048 * 256 ≤ 256 := by omega
  have F1 : Hid (((chunkCells L (n / 2048)).take ((n + 7) / 8 - n / 2048 * 256)).length = Nat.min 256 ((n + 7) / 8 - n / 2048 * 256)) := Lib.hid (by rw [List.length_take, chunkCells_length, Nat.min_comm])
  have F2 : Hid (0 < ((chunkCells L (n / 2048)).take ((n + 7) / 8 - n / 2048 * 256)).length → (if (n + 7) / 8 = n / 2048 * 256 then some ⟨w.heap.size, 0, none⟩ else some ⟨w.heap.size, n / 2048 * 256, none⟩ : Option Addr) = some ⟨w.heap.size, n / 2048 * 256, none⟩ ∧ ∃ ad, (some ⟨b, 1, none⟩ : Option Addr) = some ad ∧ ∀ j v, ((chunkCells L (n / 2048)).take ((n + 7) / 8 - n / 2048 * 256))[j]? = some v → w1.cell? (ad.add j) = some v) :=
    Lib.hid fun h => by
      rw [F1.out] at h
      have h' : 0 < (n + 7) / 8 - n / 2048 * 256 := Nat.lt_of_lt_of_le h (Nat.min_le_right _ _)
      exact ⟨if_neg (by omega), _, rfl, copy_src HB1.out HN.out⟩
  have F3 : Hid (n / 2048 * 256 + ((chunkCells L (n / 2048)).take ((n + 7) / 8 - n / 2048 * 256)).length ≤ (List.replicate ((n + 7) / 8) (Value.int .u8 0)).length) := Lib.hid (by rw [F1.out, List.length_replicate]; have : Nat.min 256 ((n + 7) / 8 - n / 2048 * 256) ≤ (n + 7) / 8 - n / 2048 * 256 := Nat.min_le_right _ _; omega)
  have F4 : Hid (∀ v ∈ (chunkCells L (n / 2048)).take ((n + 7) / 8 - n / 2048 * 256), v.oneCell' = true) := Lib.hid fun v hv => chunkCells_one L _ v (List.mem_of_mem_take hv)
  go_region_law (refine step_copy_splice rfl (.tmp 23) (.tmp 27) 47 47 rfl 5 Try.underlying47 size5 (if (n + 7) / 8 = n / 2048 * 256 then some ⟨w.heap.size, 0, none⟩ else some ⟨w.heap.size, n / 2048 * 256, none⟩) (some ⟨b, 1, none⟩) ((n + 7) / 8 - n / 2048 * 256) ((n + 7) / 8 - n / 2048 * 256) 256 256 (by simp [Act.eval, Act.put]) (by simp [Act.eval, Act.put]) w.heap.size (n / 2048 * 256) _ 5 HG1.out ((chunkCells L (n / 2048)).take ((n + 7) / 8 - n / 2048 * 256)) F1.out F2.out F3.out F4.out w.heap.size w HBel.out.drew (Nat.le_refl _) ?_; intro w2 hG2 hB2)
  all_goals
    have hR : Hid (BRel L ((n + 7) / 8) w (n / 2048) fo w2) := Lib.hid (brel_start HN.out HC.out hG2.out hB2)
    have d0 : w2.cell? ⟨b, 0, none⟩ = some (.pointer fo) := (hB2.cell (p := ⟨b, 0, none⟩) hlt).trans (HB.out.cell (wcells_0 fo L))
    clear hd F1 F2 F3 F4 HB1 HG1 HBel HC1 hgr c0' c2' hG2 hB2
    generalize (if (n + 7) / 8 = n / 2048 * 256 then (some ⟨w.heap.size, 0, none⟩ : Option Addr) else some ⟨w.heap.size, n / 2048 * 256, none⟩) = adx
    generalize ((((chunkCells L (n / 2048)).take ((n + 7) / 8 - n / 2048 * 256)).length : Nat) : Int) = lenx
    go_wp2
    clear hc1 hc2 hc3
    obtain ⟨N, hN⟩ : ∃ N, N = (n + 7) / 8 := ⟨_, rfl⟩
    rw [← hN] at hR ⊢
    have HNN := Lib.hid hN
    have hNb : N < 2147483649 := by omega
    clear hN
    go_loopw [4, 5] (fun x y wr => ∃ (k : Nat) (fo : Option Addr), 256 * k ≤ N ∧ x = .int .i64 ((k : Int) * 256) ∧ y = .pointer fo ∧ BRel L N w k fo wr) (fun x _ _ => (intOf x).toNat)
    case atStart => exact ⟨n / 2048, fo, hR.out.1, by congr 1, rfl, hR.out⟩
    case round =>
      obtain ⟨k, fo', hk, rfl, rfl, hr⟩ := hrel
      have HR := Lib.hid hr
      clear hr hR
      cases k with
      | zero =>
        obtain rfl : fo' = none := HR.out.2.1
        go_wp2
        go_ret
        exact brel_done HNN.out HN.out HR.out
      | succ k =>
        obtain ⟨c, fo2, rfl, hcb, hch⟩ := HR.out.2.1
        have hclt := hcb.lt
        have l0 : wr.cell? ⟨c, 0, none⟩ = some (.pointer fo2) := (HR.out.2.2.2.cell (p := ⟨c, 0, none⟩) hclt).trans (hcb.cell (o := 0) rfl)
        have HCB := Lib.hid hcb
        have HCH := Lib.hid hch
        clear hcb hch
        have hk1 : 256 * k + 256 ≤ N := by omega
        have e1 : (0 : Int) ≤ ((k : Int) + 1) * 256 - 256 := by omega
        have e2 : ((k : Int) + 1) * 256 - 256 ≤ (N : Int) := by omega
        have e5 : (256 : Int) ≤ ((k : Int) + 1) * 256 := by omega
        have e3 : (((k : Int) + 1) * 256 - 256).toNat = 256 * k := by omega
        have e4 : ¬ (N = 256 * k) := by omega
        have F1 : Hid ((chunkCells L k).length = Nat.min 256 (N - 256 * k)) := Lib.hid (by rw [chunkCells_length]; show 256 = min 256 (N - 256 * k); omega)
        have F2 : CSrc wr (chunkCells L k) (some ⟨w.heap.size, 256 * k, none⟩) w.heap.size (256 * k) (some ⟨c, 1, none⟩) :=
          fun _ => ⟨rfl, _, rfl, fun j v hj => by
            have hadd : (⟨c, 1, none⟩ : Addr).add j = ⟨c, 1 + j, none⟩ := by unfold Addr.add; split <;> simp_all
            rw [hadd, HR.out.2.2.2.cell (p := ⟨c, 1 + j, none⟩) hclt]
            exact HCB.out.cell (by rw [Nat.add_comm]; exact hj)⟩
        have F3 : Hid (256 * k + (chunkCells L k).length ≤ (outCells L (k + 1) N).length) := Lib.hid (by rw [chunkCells_length, outCells_length]; exact hk1)
        go_wp2
        go_region_law (refine step_copy_splice rfl (.tmp 43) (.tmp 47) 47 47 rfl 5 Try.underlying47 size5 (some ⟨w.heap.size, 256 * k, none⟩) (some ⟨c, 1, none⟩) (N - 256 * k) (N - 256 * k) 256 256 (by simp [Act.eval, Act.put]) (by simp [Act.eval, Act.put]) w.heap.size (256 * k) _ 5 HR.out.2.2.1 (chunkCells L k) F1.out F2 F3.out (chunkCells_one L k) w.heap.size w HR.out.2.2.2.drew (Nat.le_refl _) ?_; intro w3 hG3 hB3)
        all_goals
          have l1 : w3.cell? ⟨c, 0, none⟩ = some (.pointer fo2) := (hB3.cell (p := ⟨c, 0, none⟩) hclt).trans (HCB.out.cell (o := 0) rfl)
          have HR3 : Hid (BRel L N w k fo2 w3) := Lib.hid ⟨by omega, HCH.out, by have := hG3.out; rw [splice_link _ _ _ (by omega)] at this; exact this, hB3⟩
          clear F1 F2 F3 HR l0 hG3 hB3 HCB HCH
          generalize (((chunkCells L k).length : Nat) : Int) = leny
          go_wp2
          go_roundw
          case rel => exact ⟨k, fo2, by omega, by congr 1; omega, rfl, HR3.out⟩
          case measure => simp [intOf]; omega
end Go.Proofs.Ytijjpbpoekbekaa

/- Texts put together: MaI, MaJ. -/
import Derived.Test.YthgpdnffahmhjaaGreatDoorMg39
import Derived.Lib.SliceRun
set_option linter.unusedSimpArgs false
set_option linter.unusedVariables false
set_option maxRecDepth 100000
namespace Go.Proofs.YthgpdnffahmhjaaGreatDoor.S19
open Go.RowKit Go.Maps Go.Shelf Go.Sort S18 S13 S13.Dk S15 S3
theorem infoStr : (Tryz.prog.info? 9).map (fun i => (i.zero, i.size, i.bytes)) = some (some (.string ⟨#[]⟩), 1, 16) := by kernel_rfl
def OwnS (w : World) (g n cap : Nat) (L : Nms) : Prop := w.ownsRow 0 9 1 (.slice (some ⟨g, 0, none⟩) n cap) n (L.map encStr)
namespace OwnS
variable {w W : World} {g n cap : Nat} {L : Nms}
theorem length (h : OwnS w g n cap L) : L.length = n := by have := h.1; rw [List.length_map] at this; omega
theorem cell (h : OwnS w g n cap L) {i : Nat} {s : List UInt8} (hs : L[i]? = some s) : w.cell? ⟨g, i, none⟩ = some (encStr s) := by
  have := h.length
  have hi := (List.getElem?_eq_some_iff.1 hs).1
  unfold OwnS at h
  rw [h.cellAt i (by omega)]
  simp [hs]
theorem frozen (h : OwnS w g n cap L) (i : Nat) : w.frozen? ⟨g, i, none⟩ = false := World.ownsRow.frozenAt h i
theorem set (h : OwnS w g n cap L) (i : Nat) (s : List UInt8) : OwnS (w.setCell ⟨g, i, none⟩ (encStr s)) g n cap (L.set i s) := by
  have := (World.ownsRow.stored h i (encStr s)).1
  unfold OwnS
  rw [List.map_set]
  exact this
theorem below (h : OwnS w g n cap L) (hb : Below w.heap.size w W) : OwnS W g n cap L := own_below h hb
theorem lt (h : OwnS w g n cap L) : g < w.heap.size := (World.ownsRow.lt h g rfl).2
theorem caps (h : OwnS w g n cap L) : n ≤ cap ∧ cap ≤ maxLen := by
  obtain ⟨sp, c, e, h1, h2⟩ := ownsRow_slice h
  simp at e
  rw [e.2]
  exact ⟨h1, h2⟩
theorem strs (h : OwnS w g n cap L) (hm : n ≤ 1000000) : IsStrs w (.slice (some ⟨g, 0, none⟩) n cap) L := by
  have hl := h.length
  subst hl
  exact isStrs_own h hm
theorem take (h : OwnS w g n cap L) {i : Nat} (hi : i ≤ n) : OwnS w g i cap (L.take i) := by
  have hl := h.length
  unfold OwnS at h ⊢
  obtain ⟨h0, ⟨he, hz⟩ | ⟨g', cap', cur, hv, hb, hh, hn, hm, hs, ht⟩⟩ := h
  · simp at he
  · simp at hv
    obtain ⟨rfl, rfl⟩ := hv
    refine ⟨by rw [List.length_map, List.length_take]; omega, .inr ⟨g, cap, cur, rfl, hb, hh, by omega, hm, hs, ?_⟩⟩
    rw [List.map_take, ← ht, List.take_take]
    congr 1
    omega
end OwnS
theorem ownS_of {w : World} {base n : Nat} {v : Value} {L : Nms} (h : w.ownsRow base 9 1 v n (L.map encStr)) (h0 : 0 < n) : ∃ g cap, v = .slice (some ⟨g, 0, none⟩) n cap ∧ base ≤ g ∧ OwnS w g n cap L := by
  obtain ⟨g, cap, rfl, hb, _⟩ := own_open h h0
  exact ⟨g, cap, rfl, hb, own_base h (Nat.zero_le _)⟩
theorem setCells_ownS : ∀ (k o : Nat) {w : World} {g n cap : Nat} {L : Nms}, OwnS w g n cap L → ∃ L', OwnS (w.setCells g o (List.replicate k (encStr []))) g n cap L' ∧ L'.take o = L.take o ∧ w.grownBy (w.setCells g o (List.replicate k (encStr []))) (some g) := by
  intro k
  induction k with
  | zero => intro o w g n cap L h; exact ⟨L, h, rfl, Gr.refl _ _⟩
  | succ k ih =>
    intro o w g n cap L h
    obtain ⟨L', h1, h2, h3⟩ := ih (o + 1) (h.set o [])
    refine ⟨L', h1, ?_, Gr.trans ((Gr.refl w g).setCell o (encStr [])) h3⟩
    have := congrArg (List.take o) h2
    rw [List.take_take, List.take_take, Nat.min_eq_left (by omega)] at this
    rw [this, List.take_set_of_le (by omega)]
theorem zeroStr (w : World) : (zeroValue 9).run Tryz.prog w = .ok (encStr []) w := by kernel_rfl
theorem clear_tailS {w : World} {g n cap : Nat} {L : Nms} (h : OwnS w g n cap L) {i : Nat} (hi : i < n) :
    ∃ W', (∀ ty, (Builtin.clear_ #[35] ty #[.slice (some ⟨g, i, none⟩) (n - i) (cap - i)]).run Tryz.prog w = .ok (.tuple #[]) W') ∧ OwnS W' g i cap (L.take i) ∧ w.grownBy W' (some g) := by
  obtain ⟨L', h1, h2, h3⟩ := setCells_ownS (n - i) i h
  have hl := h.length
  refine ⟨_, fun ty => Lib.run_clear_slice w 35 9 ty (encStr []) Tryz.underlying35 zeroStr rfl rfl g i (n - i) (cap - i) (by omega) (fun j hj => by rw [h.cell (List.getElem?_eq_getElem (show i + j < L.length by omega))]; rfl) (fun j _ => h.frozen _), ?_, h3⟩
  have := h1.take (i := i) (by omega)
  rwa [h2] at this
def sliceN (v : Value) (lo hi mx : Option Value) : Sem Value := Instr.sliceAt 35 v lo hi mx
theorem sliceN_eq (v : Value) (lo hi mx : Option Value) : Instr.sliceAt 35 v lo hi mx = sliceN v lo hi mx := rfl
theorem elem_strs : Tryz.prog.elem 35 = 9 := by kernel_rfl
theorem und_strs : Tryz.prog.underlying 35 = some (.slice (Tryz.prog.elem 35)) := by rw [elem_strs]; exact Tryz.underlying35
theorem run_size_s (w : World) : (sizeOf (Tryz.prog.elem 35)).run Tryz.prog w = .ok 1 w := by kernel_rfl
theorem run_fromS {g n cap : Nat} (k : Nat) (hk : k ≤ n) (hc : k < cap) (hcap : n ≤ cap) (W : World) : (sliceN (.slice (some ⟨g, 0, none⟩) n cap) (some (.int .i64 k)) none none).run Tryz.prog W = .ok (.slice (some ⟨g, k, none⟩) (n - k) (cap - k)) W := by
  unfold sliceN
  rw [run_sliceAt_slice _ _ _ _ _ _ und_strs, run_slice_l _ _ _ _ _ und_strs _ _ (by omega) (by omega), run_size_s, Int.toNat_natCast]
  simp only [Result.andThen, sliced]
  rw [if_neg (by omega)]
  simp [S18.addr_at]
theorem run_uptoS {g n cap : Nat} (k : Nat) (hk : k ≤ n) (hcap : n ≤ cap) (W : World) : (sliceN (.slice (some ⟨g, 0, none⟩) n cap) none (some (.int .i64 k)) none).run Tryz.prog W = .ok (.slice (some ⟨g, 0, none⟩) k cap) W := by
  unfold sliceN
  rw [run_sliceAt_slice _ _ _ _ _ _ und_strs, run_slice_h _ _ _ _ _ und_strs _ _ (by omega) (by omega), run_size_s, Int.toNat_natCast]
  simp only [Result.andThen, sliced, Nat.sub_zero]
  split <;> simp [S18.addr_at]
end Go.Proofs.YthgpdnffahmhjaaGreatDoor.S19
namespace Go.Proofs.YthgpdnffahmhjaaGreatDoor.S19
open Go.RowKit Go.Maps Go.Shelf Go.Sort S18 S13 S13.Dk S15 S3
def AskOk (q : List UInt8 → Bool) (cb : Value) (g : Option Nat) (w : World) : Prop := ∀ W, w.grownBy W g → ∀ d : ByteArray, Calls Tryz.prog 27 #[.string d, cb] W fun e w' => e = .returned (.bool (q d.data.toList)) ∧ Below W.heap.size W w'
def FirstS (q : List UInt8 → Bool) (L : Nms) (r : Int) : Prop := (r = -1 ∧ ∀ s ∈ L, q s = false) ∨ ∃ k : Nat, k < L.length ∧ r = k ∧ (∃ s, L[k]? = some s ∧ q s = true) ∧ ∀ s ∈ L.take k, q s = false
theorem take_oneS {L : Nms} {i : Nat} {s : List UInt8} (h : L[i]? = some s) : L.take (i + 1) = L.take i ++ [s] := by
  rw [List.take_add_one, h]; rfl
theorem old1_any (v : Value) (L : Nms) (bx : Nat) (d : ByteArray) (w : World) (hv : IsStrs w v L) (hk : Blk w bx 35 [v]) :
    Calls Tryz.prog 27 #[.string d, .pointer (some ⟨bx, 0, none⟩)] w fun e w' => e = .returned (.bool (decide (d.data.toList ∈ L))) ∧ Below w.heap.size w w' := by
  have hc := contains_any v L d w hv
  have c0 := hk.cell (o := 0) rfl
  obtain ⟨a, cap, rfl, hl, _⟩ := hv
  obtain ⟨m, hm⟩ : ∃ m, L.length = m := ⟨_, rfl⟩
  rw [hm] at hc c0
  clear hm hk hl
  go_enter Tryz.func27, Tryz.ntmps27
  go_wp2_with fail
  refine hc.mono ?_
  rintro e w' ⟨rfl, hb⟩
  clear hc
  go_wp2_with fail
  go_ret
  exact ⟨rfl, hb⟩
set_option maxHeartbeats 4000000 in
theorem index_q (q : List UInt8 → Bool) (cb : Value) (v : Value) (L : Nms) (w : World) (hv : IsStrs w v L) (hq : AskOk q cb none w) :
    Calls Tryz.prog 56 #[v, .func (.func 27) #[] #[cb]] w fun e w' => (∃ r : Int, e = .returned (.int .i64 r) ∧ FirstS q L r) ∧ Below w.heap.size w w' := by
  obtain ⟨a, cap, rfl, hl, hc⟩ := hv
  obtain ⟨m, hm⟩ : ∃ m, L.length = m := ⟨_, rfl⟩
  have HN := Lib.hid hm
  have HC := Lib.hid hc
  have HQ := Lib.hid hq
  rw [hm] at hl ⊢
  clear hc hm hq
  go_enter Tryz.func56, Tryz.ntmps56
  go_wp2_with fail
  go_loopw [8] (fun y wr => ∃ (i : Nat), i ≤ m ∧ y = .int .i64 i ∧ Hid (∀ s ∈ L.take i, q s = false) ∧ Hid (Below w.heap.size w wr)) (fun y _ => m - (intOf y).toNat)
  case atStart => exact ⟨0, by omega, rfl, Lib.hid (by simp), Lib.hid (Below.refl _ _)⟩
  case round =>
    obtain ⟨i, hi, rfl, hn, hb⟩ := hrel
    by_cases hlt : i < m
    · obtain ⟨s, hs⟩ : ∃ s, L[i]? = some s := ⟨_, List.getElem?_eq_getElem (by rw [HN.out]; exact hlt)⟩
      obtain ⟨b, off, rfl, h1, h2⟩ := HC.out i s hs
      have c0 : wr.cell? ⟨b, off + i, none⟩ = some (encStr s) := (hb.out.cell (p := ⟨b, off + i, none⟩) h1).trans h2
      have hcl := HQ.out wr (S18.gr_below hb.out) ⟨s.toArray⟩
      unfold encStr at c0
      simp only at hcl
      have HS := Lib.hid hs
      have HSZ := Lib.hid hb.out.size
      clear hs h2
      cases hx : q s with
      | false =>
        rw [hx] at hcl
        go_wp2_with fail
        refine hcl.mono ?_
        rintro e w' ⟨rfl, hb2⟩
        have HE : Hid (∀ u ∈ L.take (i + 1), q u = false) := Lib.hid (by
          rw [take_oneS HS.out]
          intro u hu
          rcases List.mem_append.1 hu with h | h
          · exact hn.out u h
          · rw [List.mem_singleton.1 h]; exact hx)
        have HB : Hid (Below w.heap.size w w') := Lib.hid (hb.out.trans (hb2.mono HSZ.out))
        clear hcl hb2
        go_wp2_with fail
        go_roundw
        case rel => exact ⟨i + 1, by omega, by first | rfl | go_num, HE, HB⟩
        case measure => simp only [intOf_i]; omega
      | true =>
        rw [hx] at hcl
        go_wp2_with fail
        refine hcl.mono ?_
        rintro e w' ⟨rfl, hb2⟩
        have HB : Hid (Below w.heap.size w w') := Lib.hid (hb.out.trans (hb2.mono HSZ.out))
        clear hcl hb2
        go_wp2_with fail
        go_ret
        exact ⟨⟨i, rfl, .inr ⟨i, by rw [HN.out]; exact hlt, rfl, ⟨s, HS.out, hx⟩, hn.out⟩⟩, HB.out⟩
    · have : m = i := by omega
      subst this
      have HE : Hid (∀ s ∈ L, q s = false) := Lib.hid (by
        have := hn.out
        rwa [List.take_of_length_le (by rw [HN.out]; exact Nat.le_refl _)] at this)
      go_wp2_with fail
      go_ret
      exact ⟨⟨-1, rfl, .inl ⟨rfl, HE.out⟩⟩, hb.out⟩
def DelS (q : List UInt8 → Bool) (L L' : Nms) (i j : Nat) : Prop := L'.take i = (L.take j).filter (fun s => !q s) ∧ i = ((L.take j).filter (fun s => !q s)).length ∧ L'.drop j = L.drop j
theorem filter_allS {q : List UInt8 → Bool} {L : Nms} (h : ∀ s ∈ L, q s = false) : L.filter (fun s => !q s) = L := List.filter_eq_self.2 fun s hs => by simp [h s hs]
theorem del_startS {q : List UInt8 → Bool} {L : Nms} {k : Nat} (hk : k < L.length) (h : ∃ s, L[k]? = some s ∧ q s = true) (ha : ∀ s ∈ L.take k, q s = false) : DelS q L L k (k + 1) := by
  obtain ⟨s, hs, hq⟩ := h
  have e : (L.take (k + 1)).filter (fun s => !q s) = L.take k := by
    rw [take_oneS hs, List.filter_append, filter_allS ha]; simp [hq]
  exact ⟨e.symm, by rw [e, List.length_take]; omega, rfl⟩
theorem drop_getS {L L' : Nms} {j : Nat} (h : L'.drop j = L.drop j) : L'[j]? = L[j]? := by
  have := congrArg (fun l => l[0]?) h
  simpa using this
theorem drop_oneS {L L' : Nms} {j : Nat} (h : L'.drop j = L.drop j) : L'.drop (j + 1) = L.drop (j + 1) := by
  have := congrArg (List.drop 1) h
  simpa [List.drop_drop] using this
theorem del_skipS {q : List UInt8 → Bool} {L L' : Nms} {i j : Nat} {s : List UInt8} (hs : L[j]? = some s) (hq : q s = true) (h : DelS q L L' i j) : DelS q L L' i (j + 1) := by
  have e : (L.take (j + 1)).filter (fun s => !q s) = (L.take j).filter (fun s => !q s) := by
    rw [take_oneS hs, List.filter_append]; simp [hq]
  exact ⟨by rw [e]; exact h.1, by rw [e]; exact h.2.1, drop_oneS h.2.2⟩
theorem del_keepS {q : List UInt8 → Bool} {L L' : Nms} {i j : Nat} {s : List UInt8} (hs : L[j]? = some s) (hq : q s = false) (hl : L'.length = L.length) (hij : i < j) (h : DelS q L L' i j) : DelS q L (L'.set i s) (i + 1) (j + 1) := by
  have hj := (List.getElem?_eq_some_iff.1 hs).1
  have e : (L.take (j + 1)).filter (fun s => !q s) = (L.take j).filter (fun s => !q s) ++ [s] := by
    rw [take_oneS hs, List.filter_append]; simp [hq]
  refine ⟨?_, ?_, ?_⟩
  · rw [e, take_oneS (s := s) (by rw [List.getElem?_set_self (by omega)]), List.take_set_of_le (Nat.le_refl _), h.1]
  · rw [e, List.length_append, ← h.2.1]; rfl
  · rw [List.drop_set_of_lt (by omega)]
    exact drop_oneS h.2.2
theorem del_endS {q : List UInt8 → Bool} {L L' : Nms} {i m : Nat} (hm : L.length = m) (h : DelS q L L' i m) : L.filter (fun s => !q s) = L'.take i ∧ (L.filter (fun s => !q s)).length = i := by
  have e : L.take m = L := List.take_of_length_le (by omega)
  obtain ⟨h1, h2, _⟩ := h
  rw [e] at h1 h2
  exact ⟨h1.symm, h2.symm⟩
attribute [local go_sem ↓] sliceN_eq
set_option maxHeartbeats 8000000 in
theorem delete_q (q : List UInt8 → Bool) (cb : Value) (g n cap : Nat) (L : Nms) (w : World) (hg : OwnS w g n cap L) (hq : AskOk q cb (some g) w) (hm : n ≤ 1000000) :
    Calls Tryz.prog 26 #[.slice (some ⟨g, 0, none⟩) n cap, .func (.func 27) #[] #[cb]] w fun e w' => e = .returned (.slice (some ⟨g, 0, none⟩) (L.filter fun s => !q s).length cap) ∧ OwnS w' g (L.filter fun s => !q s).length cap (L.filter fun s => !q s) ∧ w.grownBy w' (some g) := by
  have hix := index_q q cb _ L w (hg.strs hm) (fun W hW => hq W (hW.but _))
  have HQ := Lib.hid hq
  have HG := Lib.hid hg
  have HM := Lib.hid hg.length
  obtain ⟨hcap, hmax⟩ := hg.caps
  have hglt := hg.lt
  obtain ⟨L2, hL2⟩ : ∃ L2, L.filter (fun s => !q s) = L2 := ⟨_, rfl⟩
  have HL2 := Lib.hid hL2
  rw [hL2]
  clear hg hq hL2
  go_enter Tryz.func26, Tryz.ntmps26
  go_wp2_with fail
  refine hix.mono ?_
  rintro e w1 ⟨⟨r, rfl, hr⟩, hb1⟩
  have HB1 := Lib.hid hb1
  clear hix hb1
  rcases hr with ⟨rfl, hall⟩ | ⟨i0, hi0, rfl, hs0, ha0⟩
  · have E : Hid (L2 = L) := Lib.hid (by rw [← HL2.out]; exact filter_allS hall)
    clear hall
    go_wp2_with fail
    go_ret
    rw [E.out, HM.out]
    exact ⟨rfl, HG.out.below HB1.out, (S18.gr_below HB1.out).but _⟩
  · have hne : ((i0 : Int) == -1) = false := beq_f (by omega)
    rw [HM.out] at hi0
    have HI0 := Lib.hid (del_startS (by rw [HM.out]; exact hi0) hs0 ha0)
    clear hs0 ha0
    go_wp2_with fail
    go_loopw [5, 6, 7] (fun y z u wr => ∃ (i j : Nat) (L' : Nms), i < j ∧ j ≤ n ∧ y = .int .i64 i ∧ z = .int .i64 j ∧ Hid (OwnS wr g n cap L') ∧ Hid (DelS q L L' i j) ∧ Hid (w.grownBy wr (some g))) (fun _ z _ _ => n - (intOf z).toNat)
    case atStart => exact ⟨i0, i0 + 1, L, by omega, by omega, rfl, by first | rfl | go_num, Lib.hid (HG.out.below HB1.out), HI0, Lib.hid ((S18.gr_below HB1.out).but _)⟩
    case round =>
      obtain ⟨i, j, L', hij, hj, rfl, rfl, HO, HD, HGR⟩ := hrel
      clear HB1 HI0
      by_cases hlt : j < n
      · obtain ⟨s, hs⟩ : ∃ s, L[j]? = some s := ⟨_, List.getElem?_eq_getElem (by rw [HM.out]; exact hlt)⟩
        have c0 := HO.out.cell ((drop_getS HD.out.2.2).trans hs)
        have hcl := HQ.out wr HGR.out ⟨s.toArray⟩
        unfold encStr at c0
        simp only at hcl
        have hgl := HO.out.lt
        have HS := Lib.hid hs
        have HL := Lib.hid (HO.out.length.trans HM.out.symm)
        clear hs
        cases hx : q s with
        | false =>
          rw [hx] at hcl
          go_wp2_with fail
          refine hcl.mono ?_
          rintro e w2 ⟨rfl, hb2⟩
          have HO2 := Lib.hid (HO.out.below hb2)
          have HGR2 : Hid (w.grownBy w2 (some g)) := Lib.hid (Gr.trans HGR.out ((S18.gr_below hb2).but _))
          have him : i < n := by omega
          have f0 := HO2.out.frozen i
          obtain ⟨old, hold⟩ : ∃ old, L'[i]? = some old := ⟨_, List.getElem?_eq_getElem (by rw [HO2.out.length]; exact him)⟩
          have c1 := HO2.out.cell hold
          unfold encStr at c1
          have HO3 := Lib.hid (HO2.out.set i s)
          have HD3 := Lib.hid (del_keepS HS.out hx HL.out hij HD.out)
          have HG3 : Hid (w.grownBy (w2.setCell ⟨g, i, none⟩ (encStr s)) (some g)) := Lib.hid (Gr.setCell HGR2.out _ _)
          clear hb2 hcl hold
          go_wp2_with fail
          go_roundw
          case rel => exact ⟨i + 1, j + 1, L'.set i s, by omega, by omega, by first | rfl | go_num, by first | rfl | go_num, HO3, HD3, HG3⟩
          case measure => simp only [intOf_i]; omega
        | true =>
          rw [hx] at hcl
          go_wp2_with fail
          refine hcl.mono ?_
          rintro e w2 ⟨rfl, hb2⟩
          have HO2 := Lib.hid (HO.out.below hb2)
          have HGR2 : Hid (w.grownBy w2 (some g)) := Lib.hid (Gr.trans HGR.out ((S18.gr_below hb2).but _))
          have HD3 := Lib.hid (del_skipS HS.out hx HD.out)
          clear hb2 hcl
          go_wp2_with fail
          go_roundw
          case rel => exact ⟨i, j + 1, L', by omega, by omega, rfl, by first | rfl | go_num, HO2, HD3, HGR2⟩
          case measure => simp only [intOf_i]; omega
      · obtain rfl : j = n := by omega
        have s1 := fun W => run_fromS (g := g) (n := j) (cap := cap) i (by omega) (by omega) hcap W
        have s2 := fun W => run_uptoS (g := g) (n := j) (cap := cap) i (by omega) hcap W
        obtain ⟨W', hcl, ho2, hgr2⟩ := clear_tailS HO.out (i := i) (by omega)
        have HE := Lib.hid (del_endS HM.out HD.out)
        have HO3 := Lib.hid ho2
        have HGR3 := Lib.hid (Gr.trans HGR.out hgr2)
        clear ho2 hgr2
        go_wp2_with fail
        go_ret
        have h1 := HE.out.2
        have h2 := HE.out.1
        rw [HL2.out] at h1 h2
        rw [h1, h2]
        exact ⟨rfl, HO3.out, HGR3.out⟩
end Go.Proofs.YthgpdnffahmhjaaGreatDoor.S19

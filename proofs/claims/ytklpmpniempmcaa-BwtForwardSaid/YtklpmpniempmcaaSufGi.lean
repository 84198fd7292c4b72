/- The closure that asks for what is no cut, slices.IndexFunc and slices.DeleteFunc with it, at texts of integers: contracts. -/
import Derived.Test.YtklpmpniempmcaaSufDi
import Derived.Test.YtklpmpniempmcaaSufH
set_option linter.unusedSimpArgs false
set_option linter.unusedVariables false
namespace Go.Proofs.Ytklpmpniempmcaa
open Go.RowKit Pl
attribute [local go_sem ↓] loadU_eq
set_option maxHeartbeats 4000000 in
theorem noCut_i (T : List Nat) (lv sv : Value) (rb tb x : Nat) (w : World) (ht : Blk w tb 61 [lv, .slice (some ⟨rb, 0, none⟩) T.length T.length, sv]) (hr : Blk w rb 4 (bls (risL T))) (hx : x < T.length) (hn : T.length ≤ 1000000) :
    Calls Try.prog 44 #[.int .i64 x, .pointer (some ⟨tb, 0, none⟩)] w fun e w' => e = .returned (.bool (!isc T x)) ∧ Below w.heap.size w w' := by
  have hl := run_loadU ht
  have hc := isCut_i T lv sv rb x w hr hx hn
  clear ht hr
  generalize T.length = N at *
  go_enter Try.func44, Try.ntmps44
  go_wp2_with fail
  refine hc.mono ?_
  rintro e w' ⟨rfl, hb⟩
  go_wp2
  go_ret
  exact ⟨rfl, hb⟩
/-- what the two ask for: the box of the text and its rises -/
def TxAt_i (w : World) (T : List Nat) (lv sv : Value) (rb tb : Nat) : Prop := Blk w tb 61 [lv, .slice (some ⟨rb, 0, none⟩) T.length T.length, sv] ∧ Blk w rb 4 (bls (risL T))
theorem TxAt_i.gr {w W : World} {T : List Nat} {lv sv : Value} {rb tb g : Nat} (h : TxAt_i w T lv sv rb tb) (hg : Gr w W g) (h1 : tb ≠ g) (h2 : rb ≠ g) : TxAt_i W T lv sv rb tb := ⟨blk_gr hg h1 h.1, blk_gr hg h2 h.2⟩
theorem TxAt_i.below {w W : World} {T : List Nat} {lv sv : Value} {rb tb : Nat} (h : TxAt_i w T lv sv rb tb) (hb : Below w.heap.size w W) : TxAt_i W T lv sv rb tb :=
  ⟨h.1.below hb h.1.lt, h.2.below hb h.2.lt⟩
set_option maxHeartbeats 4000000 in
theorem index_i (T : List Nat) (lv sv : Value) (rb tb : Nat) (F : List Nat) (v : Value) (w : World) (hv : IsInts w v (nI F)) (ht : TxAt_i w T lv sv rb tb) (hF : ∀ x ∈ F, x < T.length) (hn : T.length ≤ 1000000) (hm : F.length ≤ 1000000) :
    Calls Try.prog 36 #[v, .func (.func 44) #[] #[.pointer (some ⟨tb, 0, none⟩)]] w fun e w' => (∃ r : Int, e = .returned (.int .i64 r) ∧ FirstNo T F r) ∧ Below w.heap.size w w' := by
  obtain ⟨a, cap, rfl, hcap, hmax⟩ := hv.slice
  have HV := Lib.hid hv
  have HT := Lib.hid ht
  have HF := Lib.hid hF
  obtain ⟨m, hmm⟩ : ∃ m, (nI F).length = m := ⟨_, rfl⟩
  have hmF : F.length = m := by rw [← hmm, nI_length]
  rw [hmm] at HV hcap ⊢
  have HM := Lib.hid hmF
  clear hv ht hF
  rw [hmF] at hm
  clear hmF hmm
  go_enter Try.func36, Try.ntmps36
  go_wp2
  go_loopw [8] (fun y wr => ∃ (i : Nat), i ≤ m ∧ y = .int .i64 i ∧ (∀ j, j < i → isc T (F.getD j 0) = true) ∧ Below w.heap.size w wr) (fun y _ => m - (intOf y).toNat)
  case atStart => exact ⟨0, by omega, rfl, fun j h => by omega, Below.refl _ _⟩
  case round =>
    obtain ⟨i, hi, rfl, he, hb⟩ := hrel
    have HE := Lib.hid he
    have HB := Lib.hid hb
    clear he hb
    by_cases hlt : i < m
    · obtain ⟨bb, off, cap', hs, _, _, hbl, hc⟩ := HV.out.cells (by rw [nI_length, HM.out]; omega)
      rw [nI_length, HM.out] at hs
      simp at hs
      obtain ⟨rfl, rfl⟩ := hs
      have c0 := hc i (by rw [nI_length, HM.out]; exact hlt)
      rw [nI_get, ← HB.out.cell (p := ⟨bb, off + i, none⟩) hbl] at c0
      have hxT := HF.out _ (getD_mem F 0 (by rw [HM.out]; exact hlt))
      have hcl := noCut_i T lv sv rb tb (F.getD i 0) wr (HT.out.below HB.out).1 (HT.out.below HB.out).2 hxT hn
      have HS := Lib.hid (first_step (T := T) (F := F) (i := i) HE.out)
      have HH := Lib.hid (first_here (T := T) (F := F) (i := i) (by rw [HM.out]; exact hlt) HE.out)
      have hsz := HB.out.size
      generalize F.getD i 0 = x at *
      clear hc
      cases hx : isc T x with
      | true =>
        rw [hx] at hcl
        simp only [Bool.not_true] at hcl
        go_wp2_with fail
        refine hcl.mono ?_
        rintro e w' ⟨rfl, hb2⟩
        have HB3 := Lib.hid (Below.trans HB.out (Below.mono hb2 hsz))
        clear hb2
        go_wp2
        refine ⟨⟨i + 1, by omega, by first | rfl | go_num, HS.out hx, HB3.out⟩, ?_⟩
        simp only [intOf_i]; omega
      | false =>
        rw [hx] at hcl
        simp only [Bool.not_false] at hcl
        go_wp2_with fail
        refine hcl.mono ?_
        rintro e w' ⟨rfl, hb2⟩
        have HB3 := Lib.hid (Below.trans HB.out (Below.mono hb2 hsz))
        clear hb2
        go_wp2
        go_ret
        exact ⟨⟨_, rfl, HH.out hx⟩, HB3.out⟩
    · obtain rfl : i = m := by omega
      go_wp2
      go_ret
      exact ⟨⟨_, rfl, first_none HM.out HE.out⟩, HB.out⟩
attribute [local go_sem ↓] sliceI_eq
set_option maxHeartbeats 8000000 in
theorem delete_i (T : List Nat) (lv sv : Value) (rb tb g cap : Nat) (F : List Nat) (w : World) (hg : OwnI w g F.length cap (nI F)) (ht : TxAt_i w T lv sv rb tb) (h1 : tb ≠ g) (h2 : rb ≠ g) (hF : ∀ x ∈ F, x < T.length) (hn : T.length ≤ 1000000) (hm : F.length ≤ 1000000) :
    Calls Try.prog 28 #[.slice (some ⟨g, 0, none⟩) F.length cap, .func (.func 44) #[] #[.pointer (some ⟨tb, 0, none⟩)]] w fun e w' => e = .returned (.slice (some ⟨g, 0, none⟩) (F.filter (isc T)).length cap) ∧ OwnI w' g (F.filter (isc T)).length cap (nI (F.filter (isc T))) ∧ Gr w w' g := by
  have hix := index_i T lv sv rb tb F _ w hg.ints ht hF hn hm
  have HT := Lib.hid ht
  have HF := Lib.hid hF
  have HG := Lib.hid hg
  have hcaps := hg.caps
  have hglt := hg.lt
  obtain ⟨m, hmF⟩ : ∃ m, F.length = m := ⟨_, rfl⟩
  rw [hmF] at HG hix hm hcaps ⊢
  have HM := Lib.hid hmF
  obtain ⟨hcap, hmax⟩ := hcaps
  clear hg ht hF hmF
  go_enter Try.func28, Try.ntmps28
  go_wp2_with fail
  refine hix.mono ?_
  rintro e w1 ⟨⟨r, rfl, hr⟩, hb1⟩
  clear hix
  have HR := Lib.hid hr
  have HB1 := Lib.hid hb1
  clear hr hb1
  by_cases hneg : r = -1
  · subst hneg
    have E := Lib.hid (first_all HR.out)
    go_wp2
    go_ret
    rw [E.out, HM.out]
    exact ⟨rfl, HG.out.below HB1.out, Gr.ofBelow HB1.out⟩
  · obtain ⟨i0, rfl, hi0, hi1⟩ := first_some HR.out hneg
    rw [HM.out] at hi0
    have hne : ((i0 : Int) == -1) = false := beq_f (by omega)
    have HI0 := Lib.hid (del_start (T := T) (F := F) hi1)
    clear hi1 hneg HR
    go_wp2_with fail
    go_loopw [5, 6, 7] (fun y z u wr => ∃ (i j : Nat) (L : List Int), i < j ∧ j ≤ m ∧ y = .int .i64 i ∧ z = .int .i64 j ∧ OwnI wr g m cap L ∧ DelInv T F L i j ∧ Gr w wr g) (fun _ z _ _ => m - (intOf z).toNat)
    case atStart => exact ⟨i0, i0 + 1, nI F, by omega, by omega, rfl, by first | rfl | go_num, HG.out.below HB1.out, HI0.out, Gr.ofBelow HB1.out⟩
    case round =>
      obtain ⟨i, j, L, hij, hj, rfl, rfl, ho, hd, hgr⟩ := hrel
      have HO := Lib.hid ho
      have HD := Lib.hid hd
      have HGR := Lib.hid hgr
      clear ho hd hgr HB1 HI0
      by_cases hlt : j < m
      · have c0 := HO.out.cell hlt
        rw [HD.out.2 j (Nat.le_refl _) (by rw [HM.out]; exact hlt)] at c0
        have hxT := HF.out _ (getD_mem F 0 (by rw [HM.out]; exact hlt))
        have htx := HT.out.gr HGR.out h1 h2
        have hcl := noCut_i T lv sv rb tb (F.getD j 0) wr htx.1 htx.2 hxT hn
        have HK := Lib.hid (del_keep (T := T) (F := F) (L := L) (i := i) (j := j) (by rw [HO.out.length, HM.out]) hij (by rw [HM.out]; exact hlt) HD.out)
        have HS := Lib.hid (del_skip (T := T) (F := F) (L := L) (i := i) (j := j) (by rw [HM.out]; exact hlt) HD.out)
        have hgl := HO.out.lt
        generalize F.getD j 0 = x at *
        clear htx
        cases hx : isc T x with
        | true =>
          rw [hx] at hcl
          simp only [Bool.not_true] at hcl
          go_wp2_with fail
          refine hcl.mono ?_
          rintro e w2 ⟨rfl, hb2⟩
          have HO2 := Lib.hid (HO.out.below hb2)
          have HGR2 := Lib.hid (Gr.trans HGR.out (Gr.ofBelow hb2))
          have him : i < m := by omega
          have f0 := HO2.out.frozen i
          have c1 := HO2.out.cell him
          generalize L.getD i 0 = old at *
          clear hb2 hcl
          go_wp2
          refine ⟨⟨i + 1, j + 1, L.set i x, by omega, by omega, by first | rfl | go_num, by first | rfl | go_num, HO2.out.set i x, HK.out hx, HGR2.out.setCell _ _⟩, ?_⟩
          simp only [intOf_i]; omega
        | false =>
          rw [hx] at hcl
          simp only [Bool.not_false] at hcl
          go_wp2_with fail
          refine hcl.mono ?_
          rintro e w2 ⟨rfl, hb2⟩
          have HO2 := Lib.hid (HO.out.below hb2)
          have HGR2 := Lib.hid (Gr.trans HGR.out (Gr.ofBelow hb2))
          clear hb2 hcl
          go_wp2
          refine ⟨⟨i, j + 1, L, by omega, by omega, rfl, by first | rfl | go_num, HO2.out, HS.out hx, HGR2.out⟩, ?_⟩
          simp only [intOf_i]; omega
      · obtain rfl : j = m := by omega
        have s1 := fun W => run_fromB (g := g) (n := j) (cap := cap) i (by omega) (by omega) hcap W
        have s2 := fun W => run_uptoN (g := g) (n := j) (cap := cap) i (by omega) hcap W
        obtain ⟨W', hcl, ho2, hgr2⟩ := clear_tail HO.out (i := i) (by omega)
        have HE := Lib.hid (del_end (T := T) (F := F) (L := L) HM.out HD.out)
        have HO3 := Lib.hid ho2
        have HGR3 := Lib.hid (Gr.trans HGR.out hgr2)
        clear ho2 hgr2
        go_wp2_with fail
        go_ret
        have he2 : nI (F.filter (isc T)) = L.take i := HE.out.2
        rw [HE.out.1, he2]
        exact ⟨rfl, HO3.out, HGR3.out⟩
end Go.Proofs.Ytklpmpniempmcaa

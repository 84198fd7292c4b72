/- Texts put together: RcG, RcH. -/
import Derived.Test.YtdjkkohckfndkaaGreatDoorEg8
import Derived.Test.YtdjkkohckfndkaaGreatDoorEg33
set_option linter.unusedSimpArgs false
set_option linter.unusedVariables false
set_option maxRecDepth 100000
namespace Go.Proofs.YtdjkkohckfndkaaGreatDoor.S14
open Go.RowKit S2.Pl S3 S3.Pl
def rcells (L : List RT) : List Value := L.flatMap recL
theorem rcells_append (A B : List RT) : rcells (A ++ B) = rcells A ++ rcells B := by simp [rcells]
theorem rcells_length (L : List RT) : (rcells L).length = L.length * 4 := by
  induction L with
  | nil => rfl
  | cons r L ih => simp only [rcells, List.flatMap_cons, List.length_append, recL_length, List.length_cons] at ih ⊢; omega
theorem rcells_get {L : List RT} {i j : Nat} {u : Value} (hi : i < L.length) (hu : (recL (L.getD i zR))[j]? = some u) : (rcells L)[i * 4 + j]? = some u := by
  have hj : j < 4 := (List.getElem?_eq_some_iff.1 hu).1
  induction L generalizing i with
  | nil => simp at hi
  | cons r L ih =>
    have e : rcells (r :: L) = recL r ++ rcells L := by simp [rcells]
    rw [e]
    cases i with
    | zero =>
      rw [List.getElem?_append_left (by rw [recL_length]; omega)]
      simpa using hu
    | succ i =>
      rw [List.getElem?_append_right (by rw [recL_length]; omega), recL_length, show (i + 1) * 4 + j - 4 = i * 4 + j by omega]
      exact ih (by simpa using hi) (by simpa using hu)
def RecsAt (w : World) (v : Value) (L : List RT) : Prop :=
  ∃ a cap, v = .slice a L.length cap ∧ L.length ≤ cap ∧ cap ≤ maxLen ∧ (0 < L.length → ∃ b off, a = some ⟨b, off, none⟩ ∧ b < w.heap.size ∧ ∀ i, i < L.length → ∀ j u, (recL (L.getD i zR))[j]? = some u → w.cell? ⟨b, off + i * 4 + j, none⟩ = some u)
theorem RecsAt.below {w w' : World} {v : Value} {L : List RT} (h : RecsAt w v L) (hb : Below w.heap.size w w') : RecsAt w' v L := by
  obtain ⟨a, cap, rfl, h1, h2, h3⟩ := h
  refine ⟨a, cap, rfl, h1, h2, fun h0 => ?_⟩
  obtain ⟨b, off, rfl, hbl, hc⟩ := h3 h0
  exact ⟨b, off, rfl, Nat.lt_of_lt_of_le hbl hb.size, fun i hi j u hu => (hb.cell (p := ⟨b, _, none⟩) hbl).trans (hc i hi j u hu)⟩
def OwnRecs (base : Nat) (w : World) (v : Value) (L : List RT) : Prop := w.ownsRow base 32 4 v L.length (rcells L)
theorem ownRecs_nil (base : Nat) (w : World) : OwnRecs base w (.slice none 0 0) [] := World.ownsRow_nil _ _ _ _
theorem OwnRecs.slice {base : Nat} {w : World} {v : Value} {L : List RT} (h : OwnRecs base w v L) : ∃ sp cap, v = .slice sp L.length cap ∧ L.length ≤ cap ∧ cap ≤ maxLen := ownsRow_slice h
theorem OwnRecs.below {base : Nat} {w w' : World} {v : Value} {L : List RT} (h : OwnRecs base w v L) (hb : Below w.heap.size w w') : OwnRecs base w' v L :=
  ownsRow_row h (r := none) ⟨hb.os, hb.tape, hb.output, hb.size, fun k hk _ => hb.block k hk⟩ (by simp)
theorem OwnRecs.base {base base' : Nat} {w : World} {v : Value} {L : List RT} (h : OwnRecs base w v L) (hb : base' ≤ base) : OwnRecs base' w v L := by
  obtain ⟨hl, h | ⟨g, cap, cur, hv, hg, hrest⟩⟩ := h
  · exact ⟨hl, .inl h⟩
  · exact ⟨hl, .inr ⟨g, cap, cur, hv, by omega, hrest⟩⟩
theorem OwnRecs.lt {base : Nat} {w : World} {v : Value} {L : List RT} (h : OwnRecs base w v L) : ∀ k, v.ownBlock = some k → base ≤ k := fun k hk => (World.ownsRow.lt h k hk).1
theorem OwnRecs.at {base : Nat} {w : World} {v : Value} {L : List RT} (h : OwnRecs base w v L) : RecsAt w v L := by
  obtain ⟨sp, cap, rfl, h1, h2⟩ := h.slice
  refine ⟨sp, cap, rfl, h1, h2, fun h0 => ?_⟩
  obtain ⟨hl, ⟨he, h3⟩ | ⟨g, cap', cur, he, _, hh, hn, hm, hs, ht⟩⟩ := h
  · omega
  · simp at he
    obtain ⟨rfl, rfl⟩ := he
    refine ⟨g, 0, rfl, (Array.getElem?_eq_some_iff.1 hh).1, fun i hi j u hu => ?_⟩
    have hj : j < 4 := (List.getElem?_eq_some_iff.1 hu).1
    have hg := rcells_get hi hu
    rw [← ht, List.getElem?_take_of_lt (by omega)] at hg
    simp [World.cell?, hh]
    simpa using hg
theorem infoRecS : (Tryz.prog.info? 32).map (fun i => (i.zero, i.size, i.bytes)) = some (some (.agg (recL zR).toArray), 4, 48) := by kernel_rfl
theorem wpList_append_rec {w : World} {ops : Array Oper} {rest : List Oper} {o : Oper} {a : Act} {Q : Exit → Act → World → Prop} (hgd : o.guard = none) (s x : Operand)
    (ho : o.op = .call { callee := .builtin .append, args := #[s, x], argTypes := #[22, 22] })
    (base : Nat) (v : Value) (L : List RT) (hs : a.eval s = v) (hown : OwnRecs base w v L) (r : RT)
    (hx : a.eval x = .slice (some ⟨w.heap.size, 0, none⟩) 1 1)
    (hbytes : L.length + 1 ≤ 4294967296) (hbase : base ≤ w.heap.size)
    (h : ∀ v' w', OwnRecs base w' v' (L ++ [r]) → (w.alloc (.cells #[.int .i64 r.kind, .int .i64 r.seq, .string r.key, .string r.val] 32 (0, 0))).grownBy w' v.ownBlock → wpList Tryz.prog ops Q rest (a.put o.dst v') w') :
    wpList Tryz.prog ops Q (o :: rest) a (w.alloc (.cells #[.int .i64 r.kind, .int .i64 r.seq, .string r.key, .string r.val] 32 (0, 0))) := by
  obtain ⟨i0, hi, hz0, hz1, hz2⟩ := info_parts infoRecS
  have hA : Below w.heap.size w (w.alloc (.cells #[.int .i64 r.kind, .int .i64 r.seq, .string r.key, .string r.val] 32 (0, 0))) := (Below.refl _ _).alloc (Nat.le_refl _) _
  have hk := Blk.new w 32 (recL r)
  refine wpList_append_own _ hgd s x _ ho base 32 i0 (.agg (recL zR).toArray) 4 48 Tryz.underlying22 hi hz0 hz1 hz2 rfl (by decide) v L.length (rcells L) hs (hown.below hA) ⟨w.heap.size, 0, none⟩ 1 1 (recL r) hx rfl (fun j u hj => ?_) (recL_one r) (by unfold maxLen; omega) (by omega) (by simp; omega) fun v' w' h3 h4 _ => h v' w' ?_ h4
  · have hadd : (⟨w.heap.size, 0, none⟩ : Addr).add j = ⟨w.heap.size, j, none⟩ := by unfold Addr.add; split <;> simp_all
    rw [hadd]
    exact hk.cell hj
  · unfold OwnRecs
    rw [List.length_append, rcells_append]
    have e : rcells [r] = recL r := by simp [rcells]
    rw [e]
    exact h3
def RScanPost (B : List Nat) (w : World) (e : Ending) (w' : World) : Prop :=
  ∃ sp cap, e = .returned (.tuple #[.slice sp (scanR B).1.length cap, .int .i64 ((scanR B).2.1 : Nat), .bool (scanR B).2.2]) ∧ Hid (OwnRecs w.heap.size w' (.slice sp (scanR B).1.length cap) (scanR B).1) ∧ Hid (Below w.heap.size w w')
theorem rscan_ret {B : List Nat} {n : Nat} {F : List RT} {o o' : Bool} {w wr : World} {v : Value} (h : scanL (pscan B).1 = (F, n, o)) (ho : (o && (pscan B).2.2) = o') (hr : OwnRecs w.heap.size wr v F) (hb : Below w.heap.size w wr) :
    RScanPost B w (.returned (.tuple #[v, .int .i64 n, .bool o'])) wr := by
  have e : scanR B = (F, n, o') := by unfold scanR; rw [h, ← ho]
  obtain ⟨sp, cap, rfl, _, _⟩ := hr.slice
  unfold RScanPost
  rw [e]
  exact ⟨sp, cap, rfl, Lib.hid hr, Lib.hid hb⟩
attribute [local go_sem ↓] loadR_eq storeR_eq buildR_eq sliceU8_eq
set_option maxHeartbeats 8000000 in
theorem rscan_any (v : Value) (B : List Nat) (w : World) (hT : Tab w) (hv : IsBytes w v B) (hl : B.length ≤ 4000000000) : Calls Tryz.prog 52 #[v] w (RScanPost B w) := by
  have hsc := S3.scan_any v B w hT hv hl
  have hn1 := (pscan_size B).1
  obtain ⟨a, cap, rfl, hcap, hmax⟩ := hv.slice
  have HSC := Lib.hid hsc
  clear hsc hv
  go_enter Tryz.func52, Tryz.ntmps52
  go_wp2_with fail
  refine HSC.out.mono ?_
  rintro e w1 ⟨v1, rfl, hr1, hb1⟩
  obtain ⟨L, hL⟩ : ∃ L, (pscan B).1 = L := ⟨_, rfl⟩
  rw [hL] at hr1
  have HL := Lib.hid hL
  have htot : tot L ≤ B.length := by rw [← hL, tot_pscan]; exact hn1
  have hLl : 12 * L.length ≤ B.length := Nat.le_trans (tot_len L) htot
  obtain ⟨sp1, cap1, rfl, hc1, hm1⟩ := hr1.slice
  have HR1 := Lib.hid hr1
  have HB1 := Lib.hid hb1
  obtain ⟨ok, hok⟩ : ∃ ok, (pscan B).2.2 = ok := ⟨_, rfl⟩
  rw [hok]
  obtain ⟨pn, hpn⟩ : ∃ pn, (pscan B).2.1 = pn := ⟨_, rfl⟩
  rw [hpn]
  have HOK := Lib.hid hok
  clear hr1 hb1 hL HSC hpn hok hn1
  unfold maxLen at hm1
  go_wp2_with fail
  go_loopw [8, 9, 22] (fun v x y wr => ∃ i : Nat, i ≤ L.length ∧ y = .int .i64 i ∧ ∃ n : Nat, n ≤ B.length ∧ x = .int .i64 n ∧ ∃ F : List RT, F.length ≤ i ∧ RTo L i n F ∧ OwnRecs w1.heap.size wr v F ∧ Below w1.heap.size w1 wr) (fun _ _ y _ => L.length - (intOf y).toNat)
  case atStart => exact ⟨0, by omega, rfl, 0, by omega, rfl, [], by simp, RTo.start L, ownRecs_nil _ _, Below.refl _ _⟩
  case round =>
    obtain ⟨i, hi, rfl, n, hn, rfl, F, hF, hto, ho, hb⟩ := hrel
    have HTO := Lib.hid hto
    have HO := Lib.hid ho
    have HB := Lib.hid hb
    obtain ⟨sp, cp, rfl, hcp, hcm⟩ := ho.slice
    clear hto ho hb
    by_cases hlt : i < L.length
    · have hri := HR1.out.below HB.out
      obtain ⟨b, off, a', c', rfl, hbl, hcell, hIs⟩ := hri.at hlt
      obtain ⟨T, hT'⟩ : ∃ T, L.getD i [] = T := ⟨_, rfl⟩
      rw [hT'] at hcell hIs
      have HT' := Lib.hid hT'
      have hde := decoded_any _ T wr hIs
      unfold OnePost at hde
      obtain ⟨r, hrr⟩ : ∃ r, (oneV T).1 = r := ⟨_, rfl⟩
      obtain ⟨g, hgg⟩ : ∃ g, (oneV T).2 = g := ⟨_, rfl⟩
      rw [hrr, hgg] at hde
      have HDE := Lib.hid hde
      have HRR := Lib.hid hrr
      have HGG := Lib.hid hgg
      obtain ⟨tl, htl⟩ : ∃ tl, T.length = tl := ⟨_, rfl⟩
      rw [htl] at hcell HDE
      have HTL := Lib.hid htl
      clear hri hIs hT' hde hrr hgg htl
      go_wp2_with fail
      refine HDE.out.mono ?_
      rintro e w2 ⟨rfl, hb2⟩
      clear HDE hcell
      obtain ⟨w3, hst, HR3, HG3⟩ := back_rec (w := w2) r (Blk.new w2 32 (recL zR)) ((Below.refl _ _).alloc (Nat.le_refl _) _) (Nat.le_refl _)
      simp only [recL, zR] at hst
      have hb3 : Below wr.heap.size wr w3 := hb2.out.trans (HG3.out.mono hb2.out.size)
      have HO3 := Lib.hid (HO.out.below hb3)
      have hwr : w1.heap.size ≤ wr.heap.size := HB.out.size
      have HB3 : Hid (Below w1.heap.size w1 w3) := Lib.hid (HB.out.trans (hb3.mono hwr))
      clear hb2 hb3 HO HB hwr
      cases g with
      | false =>
        go_wp2_with fail
        go_ret3
        exact rscan_ret (o := false) (by rw [HL.out]; exact HTO.out.bad hlt (by rw [HT'.out]; exact HGG.out)) rfl (HO3.out.base HB1.out.size) (HB1.out.trans (HB3.out.mono HB1.out.size))
      | true =>
        have hstep := HTO.out.step hlt (by rw [HT'.out]; exact HGG.out)
        rw [HT'.out, HTL.out, HRR.out] at hstep
        have hn' := Nat.le_trans hstep.le htot
        have HST := Lib.hid hstep
        have hld := run_loadR_blk HR3.out
        have hsz3 : w1.heap.size ≤ w3.heap.size := HB3.out.size
        clear hstep
        go_wp2_with (at_builtin; refine wpList_append_rec rfl (.tmp 35) (.tmp 37) rfl w1.heap.size _ F rfl HO3.out r rfl (by omega) hsz3 ?_; intro v' w4 hown hgr)
        go_roundw
        case rel => exact ⟨i + 1, hlt, by go_num, n + (12 + tl), hn', by go_num, F ++ [r], by simp; omega, HST.out, hown, (HB3.out.alloc hsz3 _).grown hgr (by simp; omega) HO3.out.lt⟩
        case measure => simp [intOf]; omega
    · obtain rfl : i = L.length := by omega
      go_wp2_with fail
      go_ret3
      exact rscan_ret (by rw [HL.out]; exact HTO.out.done) (by rw [HOK.out]; simp) (HO.out.base HB1.out.size) (HB1.out.trans (HB.out.mono HB1.out.size))
end Go.Proofs.YtdjkkohckfndkaaGreatDoor.S14
namespace Go.Proofs.YtdjkkohckfndkaaGreatDoor.S14
open Go.RowKit S2.Pl S3 S3.Pl
attribute [local go_sem ↓] loadR_eq storeR_eq buildR_eq sliceU8_eq
set_option maxHeartbeats 8000000 in
theorem refRScan_any (v : Value) (B : List Nat) (w : World) (hv : IsBytes w v B) (hl : B.length ≤ 4000000000) : Calls Tryz.prog 17 #[v] w (RScanPost B w) := by
  have hsc := S3.refScan_any v B w hv hl
  have hn1 := (pscan_size B).1
  obtain ⟨a, cap, rfl, hcap, hmax⟩ := hv.slice
  have HSC := Lib.hid hsc
  clear hsc hv
  go_enter Tryz.func17, Tryz.ntmps17
  go_wp2_with fail
  refine HSC.out.mono ?_
  rintro e w1 ⟨v1, rfl, hr1, hb1⟩
  obtain ⟨L, hL⟩ : ∃ L, (pscan B).1 = L := ⟨_, rfl⟩
  rw [hL] at hr1
  have HL := Lib.hid hL
  have htot : tot L ≤ B.length := by rw [← hL, tot_pscan]; exact hn1
  have hLl : 12 * L.length ≤ B.length := Nat.le_trans (tot_len L) htot
  obtain ⟨sp1, cap1, rfl, hc1, hm1⟩ := hr1.slice
  have HR1 := Lib.hid hr1
  have HB1 := Lib.hid hb1
  obtain ⟨ok, hok⟩ : ∃ ok, (pscan B).2.2 = ok := ⟨_, rfl⟩
  rw [hok]
  obtain ⟨pn, hpn⟩ : ∃ pn, (pscan B).2.1 = pn := ⟨_, rfl⟩
  rw [hpn]
  have HOK := Lib.hid hok
  clear hr1 hb1 hL HSC hpn hok hn1
  unfold maxLen at hm1
  go_wp2_with fail
  go_loopw [5, 6, 10] (fun v x y wr => ∃ i : Nat, i ≤ L.length ∧ y = .int .i64 i ∧ ∃ n : Nat, n ≤ B.length ∧ x = .int .i64 n ∧ ∃ F : List RT, F.length ≤ i ∧ RTo L i n F ∧ OwnRecs w1.heap.size wr v F ∧ Below w1.heap.size w1 wr) (fun _ _ y _ => L.length - (intOf y).toNat)
  case atStart => exact ⟨0, by omega, rfl, 0, by omega, rfl, [], by simp, RTo.start L, ownRecs_nil _ _, Below.refl _ _⟩
  case round =>
    obtain ⟨i, hi, rfl, n, hn, rfl, F, hF, hto, ho, hb⟩ := hrel
    have HTO := Lib.hid hto
    have HO := Lib.hid ho
    have HB := Lib.hid hb
    obtain ⟨sp, cp, rfl, hcp, hcm⟩ := ho.slice
    clear hto ho hb
    by_cases hlt : i < L.length
    · obtain ⟨b, off, a', c', rfl, hbl, hcell1, hIs1⟩ := HR1.out.at hlt
      have hIs := hIs1.below HB.out
      have hcw : ∀ W, Below w1.heap.size w1 W → W.cell? ⟨b, off + i, none⟩ = some (.slice a' (L.getD i []).length c') := fun W h => (Below.cell (p := ⟨b, off + i, none⟩) h hbl).trans hcell1
      have hcell := hcw _ HB.out
      obtain ⟨T, hT'⟩ : ∃ T, L.getD i [] = T := ⟨_, rfl⟩
      rw [hT'] at hcell hIs hcw
      have HT' := Lib.hid hT'
      have hde := one_any _ T wr hIs
      unfold OnePost at hde
      obtain ⟨r, hrr⟩ : ∃ r, (oneV T).1 = r := ⟨_, rfl⟩
      obtain ⟨g, hgg⟩ : ∃ g, (oneV T).2 = g := ⟨_, rfl⟩
      rw [hrr, hgg] at hde
      have HDE := Lib.hid hde
      have HRR := Lib.hid hrr
      have HGG := Lib.hid hgg
      obtain ⟨tl, htl⟩ : ∃ tl, T.length = tl := ⟨_, rfl⟩
      rw [htl] at hcell HDE hcw
      have HCW := Lib.hid hcw
      have HTL := Lib.hid htl
      clear hcell1 hIs1 hcw hIs hT' hde hrr hgg htl
      go_wp2_with fail
      refine HDE.out.mono ?_
      rintro e w2 ⟨rfl, hb2⟩
      clear HDE hcell
      obtain ⟨w3, hst, HR3, HG3⟩ := back_rec (w := w2) r (Blk.new w2 32 (recL zR)) ((Below.refl _ _).alloc (Nat.le_refl _) _) (Nat.le_refl _)
      simp only [recL, zR] at hst
      have hb3 : Below wr.heap.size wr w3 := hb2.out.trans (HG3.out.mono hb2.out.size)
      have HO3 := Lib.hid (HO.out.below hb3)
      have hwr : w1.heap.size ≤ wr.heap.size := HB.out.size
      have HB3 : Hid (Below w1.heap.size w1 w3) := Lib.hid (HB.out.trans (hb3.mono hwr))
      clear hb2 hb3 HO HB hwr
      cases g with
      | false =>
        go_wp2_with fail
        go_ret3
        exact rscan_ret (o := false) (by rw [HL.out]; exact HTO.out.bad hlt (by rw [HT'.out]; exact HGG.out)) rfl (HO3.out.base HB1.out.size) (HB1.out.trans (HB3.out.mono HB1.out.size))
      | true =>
        have hstep := HTO.out.step hlt (by rw [HT'.out]; exact HGG.out)
        rw [HT'.out, HTL.out, HRR.out] at hstep
        have hn' := Nat.le_trans hstep.le htot
        have HST := Lib.hid hstep
        have hld := run_loadR_blk HR3.out
        have hsz3 : w1.heap.size ≤ w3.heap.size := HB3.out.size
        clear hstep
        go_wp2_with (at_builtin; refine wpList_append_rec rfl (.tmp 37) (.tmp 39) rfl w1.heap.size _ F rfl HO3.out r rfl (by omega) hsz3 ?_; intro v' w4 hown hgr; have HB4 := Lib.hid ((HB3.out.alloc hsz3 _).grown hgr (by simp; omega) HO3.out.lt); have HO4 := Lib.hid hown; have hc4 := HCW.out _ HB4.out; clear hown hgr)
        go_roundw
        case rel => exact ⟨i + 1, hlt, by go_num, n + (12 + tl), hn', by go_num, F ++ [r], by simp; omega, HST.out, HO4.out, HB4.out⟩
        case measure => simp [intOf]; omega
    · obtain rfl : i = L.length := by omega
      go_wp2_with fail
      go_ret3
      exact rscan_ret (by rw [HL.out]; exact HTO.out.done) (by rw [HOK.out]; simp) (HO.out.base HB1.out.size) (HB1.out.trans (HB.out.mono HB1.out.size))
end Go.Proofs.YtdjkkohckfndkaaGreatDoor.S14

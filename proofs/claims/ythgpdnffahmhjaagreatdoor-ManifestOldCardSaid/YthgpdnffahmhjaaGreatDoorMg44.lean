/- Texts put together: MaO. -/
import Derived.Test.YthgpdnffahmhjaaGreatDoorMg42
import Derived.Test.YthgpdnffahmhjaaGreatDoorMg43
set_option linter.unusedSimpArgs false
set_option linter.unusedVariables false
set_option maxRecDepth 100000
namespace Go.Proofs.YthgpdnffahmhjaaGreatDoor.S19
open Go.RowKit Go.Maps Go.Shelf Go.Sort S18 S13 S13.Dk S15 S3
def FmtP (P : Int → ByteArray → Prop) (num : Int) : Prop := ∀ w : World, Calls Tryz.prog 55 #[.int .i64 num, .int .i64 10] w fun e w' => ∃ d, e = .returned (.string d) ∧ d.size ≤ 1000 ∧ P num d ∧ w' = w
def digB (k : Nat) : ByteArray := ⟨#[UInt8.ofNat (48 + k)]⟩
set_option maxHeartbeats 2000000 in
theorem small_lo (k : Nat) (hk : k < 10) (w : World) : Calls Tryz.prog 110 #[.int .i64 k] w fun e w' => (∃ d, e = .returned (.string d) ∧ d.size ≤ 1000 ∧ d = digB k) ∧ w' = w := by
  have h10 : decide ((k : Int) < 10) = true := by simp; omega
  match k, hk with
  | 0, _ | 1, _ | 2, _ | 3, _ | 4, _ | 5, _ | 6, _ | 7, _ | 8, _ | 9, _ =>
    go_enter Tryz.func110, Tryz.ntmps110
    go_wp2_with fail
    go_ret
    exact ⟨⟨_, rfl, by decide, rfl⟩, rfl⟩
theorem fmt_of (P : Int → ByteArray → Prop) (k : Nat) (hk : k < 100) (hs : ∀ w, Calls Tryz.prog 110 #[.int .i64 k] w fun e w' => (∃ d, e = .returned (.string d) ∧ d.size ≤ 1000 ∧ P k d) ∧ w' = w) : FmtP P k := by
  intro w
  have h1 : decide (0 ≤ (k : Int)) = true := by simp
  have h2 : decide ((k : Int) < 100) = true := by simp; omega
  have h2' : decide (k < 100) = true := by simp; omega
  have hi : ∀ w1 : World, Calls Tryz.prog 85 #[.int .i64 (k : Int), .int .i64 10] w1 fun e w' => (∃ d, e = .returned (.string d) ∧ d.size ≤ 1000 ∧ P k d) ∧ w' = w1 := by
    intro w1
    have hs1 := hs w1
    clear hs
    go_enter Tryz.func85, Tryz.ntmps85
    go_wp2_with fail
    refine hs1.mono ?_
    rintro e w' ⟨⟨d, rfl, hd, hp⟩, rfl⟩
    clear hs1
    go_wp2_with fail
    go_ret
    exact ⟨⟨d, rfl, hd, hp⟩, rfl⟩
  have hw := hi w
  clear hi hs
  go_enter Tryz.func55, Tryz.ntmps55
  go_wp2_with fail
  refine hw.mono ?_
  rintro e w' ⟨⟨d, rfl, hd, hp⟩, rfl⟩
  clear hw
  go_wp2_with fail
  go_ret
  exact ⟨d, rfl, hd, hp, rfl⟩
def strC (s : List UInt8) (c : List Value) : Prop := c = [encStr s]
theorem one_flat : ∀ L : Nms, (L.map fun s => [encStr s]).flatten = L.map encStr
  | [] => rfl
  | s :: L => by simp [one_flat L]
theorem ownD_strs {base : Nat} {w : World} {v : Value} {L : Nms} (h : OwnD base 9 1 strC w v L) : w.ownsRow base 9 1 v L.length (L.map encStr) := by
  obtain ⟨cs, hl, ho, hc⟩ := h
  have e : cs = L.map fun s => [encStr s] := by
    refine List.ext_getElem (by simp [hl]) fun i h1 h2 => ?_
    have hi : i < L.length := by omega
    have := (hc i _ _ (List.getElem?_eq_getElem hi) (List.getElem?_eq_getElem h1)).1
    rw [List.getElem_map]
    exact this
  rw [e, one_flat] at ho
  exact ho
theorem ownD_str1 {w : World} {g : Nat} {s : List UInt8} (h : Blk w g 9 [encStr s]) : OwnD g 9 1 strC w (.slice (some ⟨g, 0, none⟩) 1 1) [s] := by
  refine ⟨[[encStr s]], rfl, ⟨rfl, .inr ⟨g, 1, #[encStr s], rfl, Nat.le_refl _, h, Nat.le_refl _, by unfold maxLen; omega, rfl, rfl⟩⟩, fun i x c hx hc => ?_⟩
  have hi : i = 0 := by have := (List.getElem?_eq_some_iff.1 hx).1; simp at this; exact this
  subst hi
  simp at hx hc
  subst hx; subst hc
  exact ⟨rfl, rfl⟩
theorem ranges_row {H : Type} {P : Program} {k : TypeId} {R : Value → Option (DataW H × List MemPlace)} {w : World} {b r n cnt : Nat} {D : DataW H} {left : Lit → Bool} {α : Type} {base : Nat} {t : TypeId} {sz : Nat} {RR : α → List Value → Prop} {v : Value} {L : List α} (h : w.ranges P k R b r n D left cnt) (ho : OwnD base t sz RR w v L) : some b ≠ v.ownBlock ∧ some r ≠ v.ownBlock := by
  obtain ⟨es, cl, si, se, c0, h1, _, _, _, h2, _⟩ := h
  obtain ⟨cs, _, ⟨_, ⟨rfl, _⟩ | ⟨g, cap, cur, rfl, _, hh, _⟩⟩, _⟩ := ho
  · exact ⟨by simp [Value.ownBlock], by simp [Value.ownBlock]⟩
  · refine ⟨fun e => ?_, fun e => ?_⟩
    · simp [Value.ownBlock] at e; subst e; rw [hh] at h1; cases h1
    · simp [Value.ownBlock] at e; subst e; rw [hh] at h2; cases h2
def rawB : ByteArray := ⟨#[46, 114, 97, 119]⟩
def segE : ByteArray := ⟨#[46, 115, 101, 103]⟩
def nmB (d : ByteArray) (s : SG) : List UInt8 := (d ++ bif s.sealed then segE else rawB).data.toList
def NameIn (P : Int → ByteArray → Prop) (A : List SG) (L : Nms) : Prop := nM ∈ L ∧ (∀ x ∈ L, x = nM ∨ ∃ s ∈ A, ∃ d, P s.num d ∧ x = nmB d s) ∧ ∀ s ∈ A, ∃ d, P s.num d ∧ nmB d s ∈ L
def NameTo (P : Int → ByteArray → Prop) (M : List (SG × List Value)) (left : Lit → Bool) (L : Nms) : Prop := nM ∈ L ∧ (∀ x ∈ L, x = nM ∨ ∃ y ∈ M, ∃ d, P y.1.num d ∧ x = nmB d y.1) ∧ ∀ y ∈ M, left (.int .i64 y.1.num) = false → ∃ d, P y.1.num d ∧ nmB d y.1 ∈ L
theorem nameTo_start {P : Int → ByteArray → Prop} {M : List (SG × List Value)} (hk : KS (keyM SG.num) M) : NameTo P M (Maps.has (mD (keyM SG.num) valM M)) [nM] := by
  refine ⟨by simp, fun x hx => .inl (by simpa using hx), fun y hy hl => ?_⟩
  rw [mD_has, show y.1.num = keyM SG.num y from rfl, ks_get _ hk hy] at hl
  cases hl
theorem nameTo_step {P : Int → ByteArray → Prop} {M : List (SG × List Value)} (hk : KS (keyM SG.num) M) {left : Lit → Bool} {L : Nms} (h : NameTo P M left L) {y : SG × List Value} (hy : y ∈ M) {kl : Lit} (hkl : kl = .int .i64 y.1.num) {d : ByteArray} (hd : P y.1.num d) {x : List UInt8} (hx : x = nmB d y.1) : NameTo P M (fun z => left z && !z.sameKey kl) (L ++ [x]) := by
  obtain ⟨h1, h2, h3⟩ := h
  subst hkl
  subst hx
  refine ⟨List.mem_append_left _ h1, fun x hx => ?_, fun u hu hl => ?_⟩
  · rcases List.mem_append.1 hx with hx | hx
    · exact h2 x hx
    · exact .inr ⟨y, hy, d, hd, List.mem_singleton.1 hx⟩
  · simp only [Bool.and_eq_false_iff, Bool.not_eq_false'] at hl
    rcases hl with hl | hl
    · obtain ⟨d', hd', hm⟩ := h3 u hu hl
      exact ⟨d', hd', List.mem_append_left _ hm⟩
    · simp [Lit.sameKey] at hl
      have e : u = y := by
        have e1 := ks_get _ hk hu
        have e2 := ks_get _ hk hy
        rw [show keyM SG.num u = keyM SG.num y from hl] at e1
        rw [e1] at e2
        exact Option.some.inj e2
      subst e
      exact ⟨d, hd, List.mem_append_right _ (by simp)⟩
theorem nameTo_end {P : Int → ByteArray → Prop} {M : List (SG × List Value)} {left : Lit → Bool} {L : Nms} (h : NameTo P M left L) (hl : ∀ kl, left kl = false) : NameIn P (M.map (·.1)) L := by
  obtain ⟨h1, h2, h3⟩ := h
  refine ⟨h1, fun x hx => ?_, fun s hs => ?_⟩
  · rcases h2 x hx with h | ⟨y, hy, d, hd, e⟩
    · exact .inl h
    · exact .inr ⟨y.1, List.mem_map_of_mem hy, d, hd, e⟩
  · obtain ⟨y, hy, rfl⟩ := List.mem_map.1 hs
    exact h3 y hy (hl _)
theorem nameIn_nil (P : Int → ByteArray → Prop) : NameIn P [] [nM] := ⟨by simp, fun x hx => .inl (by simpa using hx), fun s hs => by simp at hs⟩
def NamesPost (P : Int → ByteArray → Prop) (A : List SG) (w : World) (e : Ending) (w' : World) : Prop := ∃ v L, e = .returned v ∧ Hid (IsStrs w' v L) ∧ NameIn P A L ∧ Below w.heap.size w w'
section
attribute [local go_sem ↓] loadS_eq storeS_eq
set_option maxHeartbeats 8000000 in
theorem names_ss (P : Int → ByteArray → Prop) (b : Nat) (M : List (SG × List Value)) (bp : Nat) (nx sq : Int) (w : World) (hs : MapC SG.num w b M) (hM : MCel 6 M) (hC : ∀ x ∈ M, segC x.1 x.2) (hF : ∀ x ∈ M, FmtP P x.1.num) (hL : M.length ≤ 1000) (hp : MapC PT.group w bp ([] : List (PT × List Value))) :
    Calls Tryz.prog 25 #[.agg #[.int .i64 nx, .int .i64 sq, .map (some b), .map (some bp)]] w (NamesPost P (M.map (·.1)) w) := by
  obtain ⟨w1, hw1⟩ : ∃ w1, w.alloc (.cells #[.int .i64 nx, .int .i64 sq, .map (some b), .map (some bp)] 58) = w1 := ⟨_, rfl⟩
  have hk1 : Blk w1 w.heap.size 58 [.int .i64 nx, .int .i64 sq, .map (some b), .map (some bp)] := by rw [← hw1]; exact Blk.new w _ _
  have hb1 : Below w.heap.size w w1 := by rw [← hw1]; exact (Below.refl _ _).alloc (Nat.le_refl _) _
  have hs1 : w1.heap.size = w.heap.size + 1 := by rw [← hw1]; simp
  obtain ⟨w2, hw2⟩ : ∃ w2, w1.alloc (.cells #[.string ⟨#[77, 65, 78, 73, 70, 69, 83, 84]⟩] 9) = w2 := ⟨_, rfl⟩
  have hk2 : Blk w2 w1.heap.size 9 [encStr nM] := by rw [← hw2]; exact Blk.new w1 _ _
  have hb2 : Below w1.heap.size w1 w2 := by rw [← hw2]; exact (Below.refl _ _).alloc (Nat.le_refl _) _
  have hs2 : w2.heap.size = w1.heap.size + 1 := by rw [← hw2]; simp
  obtain ⟨g, hg⟩ : ∃ g, w.heap.size = g := ⟨_, rfl⟩
  obtain ⟨g2, hg2⟩ : ∃ g2, w1.heap.size = g2 := ⟨_, rfl⟩
  have HO2 := Lib.hid (ownD_str1 hk2)
  have hm2 : MapC SG.num w2 b M := (hs.below hb1).heap (hb2.block b (Nat.lt_of_lt_of_le hs.lt hb1.size))
  have hks := hs.ks
  have HKS := Lib.hid hks
  have HM := Lib.hid hM
  have HC := Lib.hid hC
  have HF := Lib.hid hF
  have hbl : b < g := by rw [← hg]; exact hs.lt
  have HP : Hid (∀ W, Below g2 w1 W → MapC PT.group W bp ([] : List (PT × List Value))) := Lib.hid fun W hW => (hp.below hb1).heap (hW.block bp (by have := hp.lt; omega))
  have HCQ : Hid (∀ W, Below g2 w1 W → W.cell? ⟨g, 2, none⟩ = some (.map (some b)) ∧ W.cell? ⟨g, 3, none⟩ = some (.map (some bp))) := Lib.hid fun W hW => by
    have e1 := hk1.below (show Below w1.heap.size w1 W by rw [hg2]; exact hW) hk1.lt
    rw [hg] at e1
    exact ⟨e1.cell rfl, e1.cell rfl⟩
  have HB1 := Lib.hid hb1
  have HB2 : Hid (Below g2 w1 w2) := Lib.hid (by rw [← hg2]; exact hb2)
  have c2 := (HCQ.out w2 HB2.out).1
  rw [hg2] at HO2 hs1 hs2
  rw [hg] at hs1
  have HS : Hid (g2 = g + 1 ∧ w2.heap.size = g2 + 1 ∧ w.heap.size = g) := Lib.hid ⟨hs1, hs2, hg⟩
  clear hk1 hk2 hb1 hb2 hs1 hs2 hs hM hC hF hks hp
  go_enter Tryz.func25, Tryz.ntmps25
  unfold MapC at hm2
  go_wp2_with (at_range; refine wpList_range_own _ rfl _ 55 rfl 2 40 lawI Tryz.underlying55 heldR b M.length _ rfl hm2 ?_; intro w3 hrg3 hg3 hs3)
  have hb3 : Below w2.heap.size w2 w3 := ⟨hg3.os, hg3.tape, hg3.output, hg3.size, fun k hk => hg3.block k hk (by simp)⟩
  have HO3 := Lib.hid (OwnD.below (R' := strC) HO2.out hb3 fun _ _ h => h)
  have HB3 : Hid (Below g2 w1 w3) := Lib.hid (HB2.out.trans (hb3.mono (by have := HS.out; omega)))
  have HRG3 := Lib.hid hrg3
  have HNT := Lib.hid (nameTo_start (P := P) HKS.out)
  clear hb3 hm2 hg3 hs3 hrg3
  go_frame
  go_loopw [3] (fun v wr => ∃ (left : Lit → Bool) (cnt : Nat) (L : Nms), Hid (wr.ranges Tryz.prog 2 heldR b w2.heap.size M.length (mD (keyM SG.num) valM M) left cnt) ∧ cnt + L.length ≤ 1 + M.length ∧ Hid (OwnD g2 9 1 strC wr v L) ∧ Hid (NameTo P M left L) ∧ Hid (Below g2 w1 wr))
    (fun _ wr => wr.rangeLeft b w2.heap.size)
  case atStart =>
    exact ⟨_, _, [nM], HRG3, by rw [mD_size]; simp; omega, HO3, HNT, HB3⟩
  case round =>
    obtain ⟨left, cnt, L, HRG, hcl, HO, HN, HB⟩ := hrel
    go_wp2_with (at_next; refine wpList_next_ranges _ rfl _ rfl 2 lawI heldR (Value.int .i64) id (fun key kl hkey => by obtain ⟨x, rfl, _⟩ := Maps.keyOf_int_inv Tryz.underlying2 hkey; exact ⟨x, rfl⟩) (fun v _ _ => ⟨v, rfl⟩) b w2.heap.size M.length _ _ _ rfl HRG.out ?_ ?_)
    · intro hc0 hl0
      have HBX := HB
      have HOX := HO
      have HNI := Lib.hid (nameTo_end HN.out hl0)
      have HLL : Hid (L.length ≤ 1000000) := Lib.hid (by omega)
      have c3 := (HCQ.out wr HBX.out).2
      have hpm := HP.out wr HBX.out
      unfold MapC at hpm
      go_wp2_with (at_range; refine wpList_range_own _ rfl _ 56 rfl 2 95 lawI Tryz.underlying56 heldR bp _ _ rfl hpm ?_; intro wp hrgp hgp hsp)
      have hbE : Below (World.heap wr).size wr wp := ⟨hgp.os, hgp.tape, hgp.output, hgp.size, fun k hk => hgp.block k hk (by simp)⟩
      have HO3 := Lib.hid (OwnD.below (R' := strC) HOX.out hbE fun _ _ h => h)
      have HBF : Hid (Below w.heap.size w wp) := Lib.hid (HB1.out.trans (Below.mono (HBX.out.trans (hbE.mono (by have := HBX.out.size; have := HS.out; omega))) (by have := HS.out; omega)))
      clear hbE hpm
      refine wp_loop_rounds 1 ?_
      rw [rounds_succ]
      go_wp2_with (at_next; refine wpList_next_ranges _ rfl _ rfl 2 lawI heldR (Value.int .i64) id (fun key kl hkey => by obtain ⟨x, rfl, _⟩ := Maps.keyOf_int_inv Tryz.underlying2 hkey; exact ⟨x, rfl⟩) (fun v _ _ => ⟨v, rfl⟩) bp (World.heap wr).size _ _ _ _ rfl hrgp ?_ ?_)
      · intro _ _
        go_wp2_with fail
        go_ret
        exact ⟨_, L, rfl, Lib.hid (isStrs_own (ownD_strs HO3.out) HLL.out), HNI.out, HBF.out⟩
      · intro x c kl yd yp wz cntz hkey hlx hv hat hrgz hltz
        rw [mD_size] at hltz
        simp at hltz
    · intro x c kl yd yp w4 cnt1 hkey hlx hv hat hrg4 hlt hg4 hs4 hen
      unfold heldR at hv
      simp at hv
      obtain ⟨rfl, rfl⟩ := hv
      obtain ⟨x', ex, hkl, hwx⟩ := Maps.keyOf_int_inv Tryz.underlying2 hkey
      cases ex
      obtain ⟨y, hy, hyk, hcv⟩ := at_key hkl hat
      subst hcv
      have hcel := HM.out y hy
      have hseg := (HC.out y hy).1
      have hfm := HF.out y hy
      have hxy : y.1.num = x := hyk
      have HKL : Hid (kl = .int .i64 y.1.num) := Lib.hid (by rw [hkl, hxy])
      have HY := Lib.hid hy
      have hitw := HRG.out.lt
      have hb4 : Below w2.heap.size wr w4 := (Below.refl _ _).grown hg4 (by omega) (fun j hj => by cases hj; exact Nat.le_refl _)
      have hO4 : OwnD g2 9 1 strC w4 _ L := HO.out.keep hg4 (fun k hk e => by
        have := (ranges_row HRG.out HO.out).2
        rw [hk] at this
        exact this e) fun _ _ h => h
      obtain ⟨s, hsd⟩ : ∃ s, y.1 = s := ⟨_, rfl⟩
      rw [hsd] at hseg hfm hxy HKL
      have HSD := Lib.hid hsd
      unfold valM at hen
      rw [hseg] at hen
      have hk5 := Blk.new w4 40 [.int .i64 0, .bool false, .int .i64 0, .int .i64 0, .int .i64 0, .int .u32 0]
      have hga : w4.grownBy (w4.alloc (.cells #[.int .i64 0, .bool false, .int .i64 0, .int .i64 0, .int .i64 0, .int .u32 0] 40)) none := World.grownBy_alloc _ _ _
      obtain ⟨w5, hw5⟩ : ∃ w5, w4.alloc (.cells #[.int .i64 0, .bool false, .int .i64 0, .int .i64 0, .int .i64 0, .int .u32 0] 40) = w5 := ⟨_, rfl⟩
      have hk5 : Blk w5 w4.heap.size 40 [.int .i64 0, .bool false, .int .i64 0, .int .i64 0, .int .i64 0, .int .u32 0] := by rw [← hw5]; exact hk5
      rw [hw5] at hga
      obtain ⟨w6, hst, hk6, hg6⟩ := putSC hk5 rfl (show Cels 6 (segL s) from ⟨rfl, segL_one s⟩)
      have c1 := hk6.out.cell (o := 1) (v := .bool s.sealed) rfl
      have hg46 : w4.grownBy w6 none := (hga.andThen hg6.out (fun j hj => .inl (by cases hj; exact Nat.le_refl _)))
      have hO6 := OwnD.below (R' := strC) hO4 ⟨hg46.os, hg46.tape, hg46.output, hg46.size, fun k hk => hg46.block k hk (by simp)⟩ fun _ _ h => h
      have hrg6 := hrg4.kept hg46 (by simp) (by simp)
      have HG46 := Lib.hid hg46
      have hf6 := hfm w6
      rw [hs4] at hst c1
      have HO6 := Lib.hid hO6
      have HR6 := Lib.hid hrg6
      have HB4 := Lib.hid hb4
      have HLT := Lib.hid hlt
      have HLLT : Hid (L.length ≤ 1001 ∧ cnt + L.length ≤ 1 + M.length) := Lib.hid ⟨by omega, hcl⟩
      have hnum : s.num = x := hxy
      rw [hnum] at hf6
      have HNUM := Lib.hid hnum
      have HIW := Lib.hid hitw
      clear hO6 hrg6 hg46 hga hg6 hk6 hk5 hO4 hrg4 hg4 hat hkey hlx hcel hy hyk hwx hkl hlt hfm hseg hb4 hxy hsd hcl hitw
      obtain ⟨nu, sl, gp, mb, sz, sm⟩ := s
      simp only [segL] at hen hst c1
      cases sl with
      | false =>
        go_wp2_with fail
        refine hf6.mono ?_
        rintro e w7 ⟨d, rfl, hd, hPd, hw7⟩
        obtain rfl := hw7.symm
        have hcat : d.size + (ByteArray.mk #[46, 114, 97, 119]).size ≤ 9223372036854775807 := by show d.size + 4 ≤ _; omega
        have HPD := Lib.hid hPd
        have HD6 := Lib.hid hd
        clear hf6 hPd
        go_wp2_with (at_builtin; refine wpList_append_D 35 9 1 (.string ⟨#[]⟩) 16 Tryz.underlying35 infoStr rfl (by decide) (by decide) rfl (.tmp 19) (.tmp 24) rfl g2 strC _ L rfl HO6.out ((d ++ ByteArray.mk #[46, 114, 97, 119]).data.toList) [.string (d ++ ByteArray.mk #[46, 114, 97, 119])] rfl rfl (by intro u hu; simp at hu; subst hu; rfl) rfl (by have := HLLT.out; omega) (by have := HR6.out.lt; have := HS.out; omega) ?_; intro v8 w8 hO8 hg8)
        have hg68 : w6.grownBy w8 (Value.ownBlock u3) := ((World.grownBy_alloc w6 (.cells #[.string (d ++ ByteArray.mk #[46, 114, 97, 119])] 9 (0, 0)) none).but _).andThen hg8 (fun j hj => .inr hj)
        have HR8 := Lib.hid (HR6.out.kept hg68 (ranges_row HR6.out HO6.out).1 (ranges_row HR6.out HO6.out).2)
        have HB8 : Hid (Below g2 w1 w8) := Lib.hid (by
          have h0 := HS.out
          have h4 := HIW.out
          have h5 := HB4.out.size
          have h6 := HG46.out.size
          have h1 : Below g2 w1 w4 := HB.out.trans (HB4.out.mono (by omega))
          exact (h1.grown HG46.out (by omega) (fun j hj => by cases hj)).grown hg68 (by omega) (fun j hj => (HO6.out.lt j hj).1))
        have HO8 := Lib.hid hO8
        have HN8 := Lib.hid (nameTo_step (kl := kl) (d := d) (x := (d ++ ByteArray.mk #[46, 114, 97, 119]).data.toList) HKS.out HN.out HY.out (by rw [HSD.out]; exact HKL.out) (by
          have := HNUM.out
          rw [HSD.out]
          rw [this]
          exact HPD.out) (by rw [HSD.out]; rfl))
        clear hg68 hg8 hO8 hcat
        go_wp2_with fail
        go_roundw
        case rel => exact ⟨_, cnt1, _, HR8, by have := HLT.out; have := HLLT.out; simp; omega, HO8, HN8, HB8⟩
        case measure => rw [HR8.out.left_eq, HRG.out.left_eq]; exact HLT.out
      | true =>
        go_wp2_with fail
        refine hf6.mono ?_
        rintro e w7 ⟨d, rfl, hd, hPd, hw7⟩
        obtain rfl := hw7.symm
        have hcat : d.size + (ByteArray.mk #[46, 115, 101, 103]).size ≤ 9223372036854775807 := by show d.size + 4 ≤ _; omega
        have HPD := Lib.hid hPd
        have HD6 := Lib.hid hd
        clear hf6 hPd
        go_wp2_with (at_builtin; refine wpList_append_D 35 9 1 (.string ⟨#[]⟩) 16 Tryz.underlying35 infoStr rfl (by decide) (by decide) rfl (.tmp 19) (.tmp 24) rfl g2 strC _ L rfl HO6.out ((d ++ ByteArray.mk #[46, 115, 101, 103]).data.toList) [.string (d ++ ByteArray.mk #[46, 115, 101, 103])] rfl rfl (by intro u hu; simp at hu; subst hu; rfl) rfl (by have := HLLT.out; omega) (by have := HR6.out.lt; have := HS.out; omega) ?_; intro v8 w8 hO8 hg8)
        have hg68 : w6.grownBy w8 (Value.ownBlock u3) := ((World.grownBy_alloc w6 (.cells #[.string (d ++ ByteArray.mk #[46, 115, 101, 103])] 9 (0, 0)) none).but _).andThen hg8 (fun j hj => .inr hj)
        have HR8 := Lib.hid (HR6.out.kept hg68 (ranges_row HR6.out HO6.out).1 (ranges_row HR6.out HO6.out).2)
        have HB8 : Hid (Below g2 w1 w8) := Lib.hid (by
          have h0 := HS.out
          have h4 := HIW.out
          have h5 := HB4.out.size
          have h6 := HG46.out.size
          have h1 : Below g2 w1 w4 := HB.out.trans (HB4.out.mono (by omega))
          exact (h1.grown HG46.out (by omega) (fun j hj => by cases hj)).grown hg68 (by omega) (fun j hj => (HO6.out.lt j hj).1))
        have HO8 := Lib.hid hO8
        have HN8 := Lib.hid (nameTo_step (kl := kl) (d := d) (x := (d ++ ByteArray.mk #[46, 115, 101, 103]).data.toList) HKS.out HN.out HY.out (by rw [HSD.out]; exact HKL.out) (by
          have := HNUM.out
          rw [HSD.out]
          rw [this]
          exact HPD.out) (by rw [HSD.out]; rfl))
        clear hg68 hg8 hO8 hcat
        go_wp2_with fail
        go_roundw
        case rel => exact ⟨_, cnt1, _, HR8, by have := HLT.out; have := HLLT.out; simp; omega, HO8, HN8, HB8⟩
        case measure => rw [HR8.out.left_eq, HRG.out.left_eq]; exact HLT.out
set_option maxHeartbeats 8000000 in
theorem names_sn (P : Int → ByteArray → Prop) (b : Nat) (M : List (SG × List Value)) (nx sq : Int) (w : World) (hs : MapC SG.num w b M) (hM : MCel 6 M) (hC : ∀ x ∈ M, segC x.1 x.2) (hF : ∀ x ∈ M, FmtP P x.1.num) (hL : M.length ≤ 1000) :
    Calls Tryz.prog 25 #[.agg #[.int .i64 nx, .int .i64 sq, .map (some b), .map (none)]] w (NamesPost P (M.map (·.1)) w) := by
  obtain ⟨w1, hw1⟩ : ∃ w1, w.alloc (.cells #[.int .i64 nx, .int .i64 sq, .map (some b), .map (none)] 58) = w1 := ⟨_, rfl⟩
  have hk1 : Blk w1 w.heap.size 58 [.int .i64 nx, .int .i64 sq, .map (some b), .map (none)] := by rw [← hw1]; exact Blk.new w _ _
  have hb1 : Below w.heap.size w w1 := by rw [← hw1]; exact (Below.refl _ _).alloc (Nat.le_refl _) _
  have hs1 : w1.heap.size = w.heap.size + 1 := by rw [← hw1]; simp
  obtain ⟨w2, hw2⟩ : ∃ w2, w1.alloc (.cells #[.string ⟨#[77, 65, 78, 73, 70, 69, 83, 84]⟩] 9) = w2 := ⟨_, rfl⟩
  have hk2 : Blk w2 w1.heap.size 9 [encStr nM] := by rw [← hw2]; exact Blk.new w1 _ _
  have hb2 : Below w1.heap.size w1 w2 := by rw [← hw2]; exact (Below.refl _ _).alloc (Nat.le_refl _) _
  have hs2 : w2.heap.size = w1.heap.size + 1 := by rw [← hw2]; simp
  obtain ⟨g, hg⟩ : ∃ g, w.heap.size = g := ⟨_, rfl⟩
  obtain ⟨g2, hg2⟩ : ∃ g2, w1.heap.size = g2 := ⟨_, rfl⟩
  have HO2 := Lib.hid (ownD_str1 hk2)
  have hm2 : MapC SG.num w2 b M := (hs.below hb1).heap (hb2.block b (Nat.lt_of_lt_of_le hs.lt hb1.size))
  have hks := hs.ks
  have HKS := Lib.hid hks
  have HM := Lib.hid hM
  have HC := Lib.hid hC
  have HF := Lib.hid hF
  have hbl : b < g := by rw [← hg]; exact hs.lt
  have HCQ : Hid (∀ W, Below g2 w1 W → W.cell? ⟨g, 2, none⟩ = some (.map (some b)) ∧ W.cell? ⟨g, 3, none⟩ = some (.map (none))) := Lib.hid fun W hW => by
    have e1 := hk1.below (show Below w1.heap.size w1 W by rw [hg2]; exact hW) hk1.lt
    rw [hg] at e1
    exact ⟨e1.cell rfl, e1.cell rfl⟩
  have HB1 := Lib.hid hb1
  have HB2 : Hid (Below g2 w1 w2) := Lib.hid (by rw [← hg2]; exact hb2)
  have c2 := (HCQ.out w2 HB2.out).1
  rw [hg2] at HO2 hs1 hs2
  rw [hg] at hs1
  have HS : Hid (g2 = g + 1 ∧ w2.heap.size = g2 + 1 ∧ w.heap.size = g) := Lib.hid ⟨hs1, hs2, hg⟩
  clear hk1 hk2 hb1 hb2 hs1 hs2 hs hM hC hF hks
  have hrgP := fun W => run_range_nilMap (P := Tryz.prog) W 56 _ _ Tryz.underlying56
  have hnx : ∀ (W : World) ty, (Instr.next (.pointer (some ⟨W.heap.size, 0, none⟩)) false ty).run Tryz.prog (W.alloc (.mapIter none 0 #[] 0)) = _ := fun W ty => run_next_nilMap W ty 0 0 #[]
  go_enter Tryz.func25, Tryz.ntmps25
  unfold MapC at hm2
  go_wp2_with (at_range; refine wpList_range_own _ rfl _ 55 rfl 2 40 lawI Tryz.underlying55 heldR b M.length _ rfl hm2 ?_; intro w3 hrg3 hg3 hs3)
  have hb3 : Below w2.heap.size w2 w3 := ⟨hg3.os, hg3.tape, hg3.output, hg3.size, fun k hk => hg3.block k hk (by simp)⟩
  have HO3 := Lib.hid (OwnD.below (R' := strC) HO2.out hb3 fun _ _ h => h)
  have HB3 : Hid (Below g2 w1 w3) := Lib.hid (HB2.out.trans (hb3.mono (by have := HS.out; omega)))
  have HRG3 := Lib.hid hrg3
  have HNT := Lib.hid (nameTo_start (P := P) HKS.out)
  clear hb3 hm2 hg3 hs3 hrg3
  go_frame
  go_loopw [3] (fun v wr => ∃ (left : Lit → Bool) (cnt : Nat) (L : Nms), Hid (wr.ranges Tryz.prog 2 heldR b w2.heap.size M.length (mD (keyM SG.num) valM M) left cnt) ∧ cnt + L.length ≤ 1 + M.length ∧ Hid (OwnD g2 9 1 strC wr v L) ∧ Hid (NameTo P M left L) ∧ Hid (Below g2 w1 wr))
    (fun _ wr => wr.rangeLeft b w2.heap.size)
  case atStart =>
    exact ⟨_, _, [nM], HRG3, by rw [mD_size]; simp; omega, HO3, HNT, HB3⟩
  case round =>
    obtain ⟨left, cnt, L, HRG, hcl, HO, HN, HB⟩ := hrel
    go_wp2_with (at_next; refine wpList_next_ranges _ rfl _ rfl 2 lawI heldR (Value.int .i64) id (fun key kl hkey => by obtain ⟨x, rfl, _⟩ := Maps.keyOf_int_inv Tryz.underlying2 hkey; exact ⟨x, rfl⟩) (fun v _ _ => ⟨v, rfl⟩) b w2.heap.size M.length _ _ _ rfl HRG.out ?_ ?_)
    · intro hc0 hl0
      have HBX := HB
      have HOX := HO
      have HNI := Lib.hid (nameTo_end HN.out hl0)
      have HLL : Hid (L.length ≤ 1000000) := Lib.hid (by omega)
      have c3 := (HCQ.out wr HBX.out).2
      obtain ⟨wE, hwE⟩ : ∃ wE, World.alloc wr (.mapIter none 0 #[] 0) = wE := ⟨_, rfl⟩
      have hnxE := fun ty => hnx wr ty
      rw [hwE] at hnxE
      have hbE : Below (World.heap wr).size wr wE := by rw [← hwE]; exact (Below.refl _ _).alloc (Nat.le_refl _) _
      have HO3 := Lib.hid (OwnD.below (R' := strC) HOX.out hbE fun _ _ h => h)
      have HBF : Hid (Below w.heap.size w wE) := Lib.hid (HB1.out.trans (Below.mono (HBX.out.trans (hbE.mono (by have := HBX.out.size; have := HS.out; omega))) (by have := HS.out; omega)))
      clear hbE
      go_wp2_with fail
      refine wp_loop_rounds 1 ?_
      rw [rounds_succ]
      go_wp2_with fail
      go_ret
      exact ⟨_, L, rfl, Lib.hid (isStrs_own (ownD_strs HO3.out) HLL.out), HNI.out, HBF.out⟩
    · intro x c kl yd yp w4 cnt1 hkey hlx hv hat hrg4 hlt hg4 hs4 hen
      unfold heldR at hv
      simp at hv
      obtain ⟨rfl, rfl⟩ := hv
      obtain ⟨x', ex, hkl, hwx⟩ := Maps.keyOf_int_inv Tryz.underlying2 hkey
      cases ex
      obtain ⟨y, hy, hyk, hcv⟩ := at_key hkl hat
      subst hcv
      have hcel := HM.out y hy
      have hseg := (HC.out y hy).1
      have hfm := HF.out y hy
      have hxy : y.1.num = x := hyk
      have HKL : Hid (kl = .int .i64 y.1.num) := Lib.hid (by rw [hkl, hxy])
      have HY := Lib.hid hy
      have hitw := HRG.out.lt
      have hb4 : Below w2.heap.size wr w4 := (Below.refl _ _).grown hg4 (by omega) (fun j hj => by cases hj; exact Nat.le_refl _)
      have hO4 : OwnD g2 9 1 strC w4 _ L := HO.out.keep hg4 (fun k hk e => by
        have := (ranges_row HRG.out HO.out).2
        rw [hk] at this
        exact this e) fun _ _ h => h
      obtain ⟨s, hsd⟩ : ∃ s, y.1 = s := ⟨_, rfl⟩
      rw [hsd] at hseg hfm hxy HKL
      have HSD := Lib.hid hsd
      unfold valM at hen
      rw [hseg] at hen
      have hk5 := Blk.new w4 40 [.int .i64 0, .bool false, .int .i64 0, .int .i64 0, .int .i64 0, .int .u32 0]
      have hga : w4.grownBy (w4.alloc (.cells #[.int .i64 0, .bool false, .int .i64 0, .int .i64 0, .int .i64 0, .int .u32 0] 40)) none := World.grownBy_alloc _ _ _
      obtain ⟨w5, hw5⟩ : ∃ w5, w4.alloc (.cells #[.int .i64 0, .bool false, .int .i64 0, .int .i64 0, .int .i64 0, .int .u32 0] 40) = w5 := ⟨_, rfl⟩
      have hk5 : Blk w5 w4.heap.size 40 [.int .i64 0, .bool false, .int .i64 0, .int .i64 0, .int .i64 0, .int .u32 0] := by rw [← hw5]; exact hk5
      rw [hw5] at hga
      obtain ⟨w6, hst, hk6, hg6⟩ := putSC hk5 rfl (show Cels 6 (segL s) from ⟨rfl, segL_one s⟩)
      have c1 := hk6.out.cell (o := 1) (v := .bool s.sealed) rfl
      have hg46 : w4.grownBy w6 none := (hga.andThen hg6.out (fun j hj => .inl (by cases hj; exact Nat.le_refl _)))
      have hO6 := OwnD.below (R' := strC) hO4 ⟨hg46.os, hg46.tape, hg46.output, hg46.size, fun k hk => hg46.block k hk (by simp)⟩ fun _ _ h => h
      have hrg6 := hrg4.kept hg46 (by simp) (by simp)
      have HG46 := Lib.hid hg46
      have hf6 := hfm w6
      rw [hs4] at hst c1
      have HO6 := Lib.hid hO6
      have HR6 := Lib.hid hrg6
      have HB4 := Lib.hid hb4
      have HLT := Lib.hid hlt
      have HLLT : Hid (L.length ≤ 1001 ∧ cnt + L.length ≤ 1 + M.length) := Lib.hid ⟨by omega, hcl⟩
      have hnum : s.num = x := hxy
      rw [hnum] at hf6
      have HNUM := Lib.hid hnum
      have HIW := Lib.hid hitw
      clear hO6 hrg6 hg46 hga hg6 hk6 hk5 hO4 hrg4 hg4 hat hkey hlx hcel hy hyk hwx hkl hlt hfm hseg hb4 hxy hsd hcl hitw
      obtain ⟨nu, sl, gp, mb, sz, sm⟩ := s
      simp only [segL] at hen hst c1
      cases sl with
      | false =>
        go_wp2_with fail
        refine hf6.mono ?_
        rintro e w7 ⟨d, rfl, hd, hPd, hw7⟩
        obtain rfl := hw7.symm
        have hcat : d.size + (ByteArray.mk #[46, 114, 97, 119]).size ≤ 9223372036854775807 := by show d.size + 4 ≤ _; omega
        have HPD := Lib.hid hPd
        have HD6 := Lib.hid hd
        clear hf6 hPd
        go_wp2_with (at_builtin; refine wpList_append_D 35 9 1 (.string ⟨#[]⟩) 16 Tryz.underlying35 infoStr rfl (by decide) (by decide) rfl (.tmp 19) (.tmp 24) rfl g2 strC _ L rfl HO6.out ((d ++ ByteArray.mk #[46, 114, 97, 119]).data.toList) [.string (d ++ ByteArray.mk #[46, 114, 97, 119])] rfl rfl (by intro u hu; simp at hu; subst hu; rfl) rfl (by have := HLLT.out; omega) (by have := HR6.out.lt; have := HS.out; omega) ?_; intro v8 w8 hO8 hg8)
        have hg68 : w6.grownBy w8 (Value.ownBlock u3) := ((World.grownBy_alloc w6 (.cells #[.string (d ++ ByteArray.mk #[46, 114, 97, 119])] 9 (0, 0)) none).but _).andThen hg8 (fun j hj => .inr hj)
        have HR8 := Lib.hid (HR6.out.kept hg68 (ranges_row HR6.out HO6.out).1 (ranges_row HR6.out HO6.out).2)
        have HB8 : Hid (Below g2 w1 w8) := Lib.hid (by
          have h0 := HS.out
          have h4 := HIW.out
          have h5 := HB4.out.size
          have h6 := HG46.out.size
          have h1 : Below g2 w1 w4 := HB.out.trans (HB4.out.mono (by omega))
          exact (h1.grown HG46.out (by omega) (fun j hj => by cases hj)).grown hg68 (by omega) (fun j hj => (HO6.out.lt j hj).1))
        have HO8 := Lib.hid hO8
        have HN8 := Lib.hid (nameTo_step (kl := kl) (d := d) (x := (d ++ ByteArray.mk #[46, 114, 97, 119]).data.toList) HKS.out HN.out HY.out (by rw [HSD.out]; exact HKL.out) (by
          have := HNUM.out
          rw [HSD.out]
          rw [this]
          exact HPD.out) (by rw [HSD.out]; rfl))
        clear hg68 hg8 hO8 hcat
        go_wp2_with fail
        go_roundw
        case rel => exact ⟨_, cnt1, _, HR8, by have := HLT.out; have := HLLT.out; simp; omega, HO8, HN8, HB8⟩
        case measure => rw [HR8.out.left_eq, HRG.out.left_eq]; exact HLT.out
      | true =>
        go_wp2_with fail
        refine hf6.mono ?_
        rintro e w7 ⟨d, rfl, hd, hPd, hw7⟩
        obtain rfl := hw7.symm
        have hcat : d.size + (ByteArray.mk #[46, 115, 101, 103]).size ≤ 9223372036854775807 := by show d.size + 4 ≤ _; omega
        have HPD := Lib.hid hPd
        have HD6 := Lib.hid hd
        clear hf6 hPd
        go_wp2_with (at_builtin; refine wpList_append_D 35 9 1 (.string ⟨#[]⟩) 16 Tryz.underlying35 infoStr rfl (by decide) (by decide) rfl (.tmp 19) (.tmp 24) rfl g2 strC _ L rfl HO6.out ((d ++ ByteArray.mk #[46, 115, 101, 103]).data.toList) [.string (d ++ ByteArray.mk #[46, 115, 101, 103])] rfl rfl (by intro u hu; simp at hu; subst hu; rfl) rfl (by have := HLLT.out; omega) (by have := HR6.out.lt; have := HS.out; omega) ?_; intro v8 w8 hO8 hg8)
        have hg68 : w6.grownBy w8 (Value.ownBlock u3) := ((World.grownBy_alloc w6 (.cells #[.string (d ++ ByteArray.mk #[46, 115, 101, 103])] 9 (0, 0)) none).but _).andThen hg8 (fun j hj => .inr hj)
        have HR8 := Lib.hid (HR6.out.kept hg68 (ranges_row HR6.out HO6.out).1 (ranges_row HR6.out HO6.out).2)
        have HB8 : Hid (Below g2 w1 w8) := Lib.hid (by
          have h0 := HS.out
          have h4 := HIW.out
          have h5 := HB4.out.size
          have h6 := HG46.out.size
          have h1 : Below g2 w1 w4 := HB.out.trans (HB4.out.mono (by omega))
          exact (h1.grown HG46.out (by omega) (fun j hj => by cases hj)).grown hg68 (by omega) (fun j hj => (HO6.out.lt j hj).1))
        have HO8 := Lib.hid hO8
        have HN8 := Lib.hid (nameTo_step (kl := kl) (d := d) (x := (d ++ ByteArray.mk #[46, 115, 101, 103]).data.toList) HKS.out HN.out HY.out (by rw [HSD.out]; exact HKL.out) (by
          have := HNUM.out
          rw [HSD.out]
          rw [this]
          exact HPD.out) (by rw [HSD.out]; rfl))
        clear hg68 hg8 hO8 hcat
        go_wp2_with fail
        go_roundw
        case rel => exact ⟨_, cnt1, _, HR8, by have := HLT.out; have := HLLT.out; simp; omega, HO8, HN8, HB8⟩
        case measure => rw [HR8.out.left_eq, HRG.out.left_eq]; exact HLT.out
set_option maxHeartbeats 8000000 in
theorem names_ns (P : Int → ByteArray → Prop) (bp : Nat) (nx sq : Int) (w : World) (hp : MapC PT.group w bp ([] : List (PT × List Value))) :
    Calls Tryz.prog 25 #[.agg #[.int .i64 nx, .int .i64 sq, .map (none), .map (some bp)]] w (NamesPost P [] w) := by
  obtain ⟨w1, hw1⟩ : ∃ w1, w.alloc (.cells #[.int .i64 nx, .int .i64 sq, .map (none), .map (some bp)] 58) = w1 := ⟨_, rfl⟩
  have hk1 : Blk w1 w.heap.size 58 [.int .i64 nx, .int .i64 sq, .map (none), .map (some bp)] := by rw [← hw1]; exact Blk.new w _ _
  have hb1 : Below w.heap.size w w1 := by rw [← hw1]; exact (Below.refl _ _).alloc (Nat.le_refl _) _
  have hs1 : w1.heap.size = w.heap.size + 1 := by rw [← hw1]; simp
  obtain ⟨w2, hw2⟩ : ∃ w2, w1.alloc (.cells #[.string ⟨#[77, 65, 78, 73, 70, 69, 83, 84]⟩] 9) = w2 := ⟨_, rfl⟩
  have hk2 : Blk w2 w1.heap.size 9 [encStr nM] := by rw [← hw2]; exact Blk.new w1 _ _
  have hb2 : Below w1.heap.size w1 w2 := by rw [← hw2]; exact (Below.refl _ _).alloc (Nat.le_refl _) _
  have hs2 : w2.heap.size = w1.heap.size + 1 := by rw [← hw2]; simp
  obtain ⟨g, hg⟩ : ∃ g, w.heap.size = g := ⟨_, rfl⟩
  obtain ⟨g2, hg2⟩ : ∃ g2, w1.heap.size = g2 := ⟨_, rfl⟩
  have HO2 := Lib.hid (ownD_str1 hk2)
  have HP : Hid (∀ W, Below g2 w1 W → MapC PT.group W bp ([] : List (PT × List Value))) := Lib.hid fun W hW => (hp.below hb1).heap (hW.block bp (by have := hp.lt; omega))
  have HCQ : Hid (∀ W, Below g2 w1 W → W.cell? ⟨g, 2, none⟩ = some (.map (none)) ∧ W.cell? ⟨g, 3, none⟩ = some (.map (some bp))) := Lib.hid fun W hW => by
    have e1 := hk1.below (show Below w1.heap.size w1 W by rw [hg2]; exact hW) hk1.lt
    rw [hg] at e1
    exact ⟨e1.cell rfl, e1.cell rfl⟩
  have HB1 := Lib.hid hb1
  have HB2 : Hid (Below g2 w1 w2) := Lib.hid (by rw [← hg2]; exact hb2)
  have c2 := (HCQ.out w2 HB2.out).1
  rw [hg2] at HO2 hs1 hs2
  rw [hg] at hs1
  have HS : Hid (g2 = g + 1 ∧ w2.heap.size = g2 + 1 ∧ w.heap.size = g) := Lib.hid ⟨hs1, hs2, hg⟩
  clear hk1 hk2 hb1 hb2 hs1 hs2 hp
  have hrgS := fun W => run_range_nilMap (P := Tryz.prog) W 55 _ _ Tryz.underlying55
  have hnx : ∀ (W : World) ty, (Instr.next (.pointer (some ⟨W.heap.size, 0, none⟩)) false ty).run Tryz.prog (W.alloc (.mapIter none 0 #[] 0)) = _ := fun W ty => run_next_nilMap W ty 0 0 #[]
  go_enter Tryz.func25, Tryz.ntmps25
  obtain ⟨w3, hw3⟩ : ∃ w3, w2.alloc (.mapIter none 0 #[] 0) = w3 := ⟨_, rfl⟩
  have hb3 : Below w2.heap.size w2 w3 := by rw [← hw3]; exact (Below.refl _ _).alloc (Nat.le_refl _) _
  have hnx2 := fun ty => hnx w2 ty
  rw [hw3] at hnx2
  have HBX : Hid (Below g2 w1 w3) := Lib.hid (HB2.out.trans (hb3.mono (by have := HS.out; omega)))
  have HOX := Lib.hid (OwnD.below (R' := strC) HO2.out hb3 fun _ _ h => h)
  have HNI := Lib.hid (nameIn_nil P)
  have HLL : Hid (([nM] : Nms).length ≤ 1000000) := Lib.hid (by simp)
  clear hb3
  go_wp2_with fail
  refine wp_loop_rounds 1 ?_
  rw [rounds_succ]
  have c3 := (HCQ.out w3 HBX.out).2
  have hpm := HP.out w3 HBX.out
  unfold MapC at hpm
  go_wp2_with (at_range; refine wpList_range_own _ rfl _ 56 rfl 2 95 lawI Tryz.underlying56 heldR bp _ _ rfl hpm ?_; intro wp hrgp hgp hsp)
  have hbE : Below (World.heap w3).size w3 wp := ⟨hgp.os, hgp.tape, hgp.output, hgp.size, fun k hk => hgp.block k hk (by simp)⟩
  have HO3 := Lib.hid (OwnD.below (R' := strC) HOX.out hbE fun _ _ h => h)
  have HBF : Hid (Below w.heap.size w wp) := Lib.hid (HB1.out.trans (Below.mono (HBX.out.trans (hbE.mono (by have := HBX.out.size; have := HS.out; omega))) (by have := HS.out; omega)))
  clear hbE hpm
  refine wp_loop_rounds 1 ?_
  rw [rounds_succ]
  go_wp2_with (at_next; refine wpList_next_ranges _ rfl _ rfl 2 lawI heldR (Value.int .i64) id (fun key kl hkey => by obtain ⟨x, rfl, _⟩ := Maps.keyOf_int_inv Tryz.underlying2 hkey; exact ⟨x, rfl⟩) (fun v _ _ => ⟨v, rfl⟩) bp (World.heap w3).size _ _ _ _ rfl hrgp ?_ ?_)
  · intro _ _
    go_wp2_with fail
    go_ret
    exact ⟨(.slice (some ⟨g2, 0, none⟩) 1 1), [nM], rfl, Lib.hid (isStrs_own (ownD_strs HO3.out) HLL.out), HNI.out, HBF.out⟩
  · intro x c kl yd yp wz cntz hkey hlx hv hat hrgz hltz
    rw [mD_size] at hltz
    simp at hltz
set_option maxHeartbeats 8000000 in
theorem names_nn (P : Int → ByteArray → Prop) (nx sq : Int) (w : World) :
    Calls Tryz.prog 25 #[.agg #[.int .i64 nx, .int .i64 sq, .map (none), .map (none)]] w (NamesPost P [] w) := by
  obtain ⟨w1, hw1⟩ : ∃ w1, w.alloc (.cells #[.int .i64 nx, .int .i64 sq, .map (none), .map (none)] 58) = w1 := ⟨_, rfl⟩
  have hk1 : Blk w1 w.heap.size 58 [.int .i64 nx, .int .i64 sq, .map (none), .map (none)] := by rw [← hw1]; exact Blk.new w _ _
  have hb1 : Below w.heap.size w w1 := by rw [← hw1]; exact (Below.refl _ _).alloc (Nat.le_refl _) _
  have hs1 : w1.heap.size = w.heap.size + 1 := by rw [← hw1]; simp
  obtain ⟨w2, hw2⟩ : ∃ w2, w1.alloc (.cells #[.string ⟨#[77, 65, 78, 73, 70, 69, 83, 84]⟩] 9) = w2 := ⟨_, rfl⟩
  have hk2 : Blk w2 w1.heap.size 9 [encStr nM] := by rw [← hw2]; exact Blk.new w1 _ _
  have hb2 : Below w1.heap.size w1 w2 := by rw [← hw2]; exact (Below.refl _ _).alloc (Nat.le_refl _) _
  have hs2 : w2.heap.size = w1.heap.size + 1 := by rw [← hw2]; simp
  obtain ⟨g, hg⟩ : ∃ g, w.heap.size = g := ⟨_, rfl⟩
  obtain ⟨g2, hg2⟩ : ∃ g2, w1.heap.size = g2 := ⟨_, rfl⟩
  have HO2 := Lib.hid (ownD_str1 hk2)
  have HCQ : Hid (∀ W, Below g2 w1 W → W.cell? ⟨g, 2, none⟩ = some (.map (none)) ∧ W.cell? ⟨g, 3, none⟩ = some (.map (none))) := Lib.hid fun W hW => by
    have e1 := hk1.below (show Below w1.heap.size w1 W by rw [hg2]; exact hW) hk1.lt
    rw [hg] at e1
    exact ⟨e1.cell rfl, e1.cell rfl⟩
  have HB1 := Lib.hid hb1
  have HB2 : Hid (Below g2 w1 w2) := Lib.hid (by rw [← hg2]; exact hb2)
  have c2 := (HCQ.out w2 HB2.out).1
  rw [hg2] at HO2 hs1 hs2
  rw [hg] at hs1
  have HS : Hid (g2 = g + 1 ∧ w2.heap.size = g2 + 1 ∧ w.heap.size = g) := Lib.hid ⟨hs1, hs2, hg⟩
  clear hk1 hk2 hb1 hb2 hs1 hs2
  have hrgS := fun W => run_range_nilMap (P := Tryz.prog) W 55 _ _ Tryz.underlying55
  have hrgP := fun W => run_range_nilMap (P := Tryz.prog) W 56 _ _ Tryz.underlying56
  have hnx : ∀ (W : World) ty, (Instr.next (.pointer (some ⟨W.heap.size, 0, none⟩)) false ty).run Tryz.prog (W.alloc (.mapIter none 0 #[] 0)) = _ := fun W ty => run_next_nilMap W ty 0 0 #[]
  go_enter Tryz.func25, Tryz.ntmps25
  obtain ⟨w3, hw3⟩ : ∃ w3, w2.alloc (.mapIter none 0 #[] 0) = w3 := ⟨_, rfl⟩
  have hb3 : Below w2.heap.size w2 w3 := by rw [← hw3]; exact (Below.refl _ _).alloc (Nat.le_refl _) _
  have hnx2 := fun ty => hnx w2 ty
  rw [hw3] at hnx2
  have HBX : Hid (Below g2 w1 w3) := Lib.hid (HB2.out.trans (hb3.mono (by have := HS.out; omega)))
  have HOX := Lib.hid (OwnD.below (R' := strC) HO2.out hb3 fun _ _ h => h)
  have HNI := Lib.hid (nameIn_nil P)
  have HLL : Hid (([nM] : Nms).length ≤ 1000000) := Lib.hid (by simp)
  clear hb3
  go_wp2_with fail
  refine wp_loop_rounds 1 ?_
  rw [rounds_succ]
  have c3 := (HCQ.out w3 HBX.out).2
  obtain ⟨wE, hwE⟩ : ∃ wE, World.alloc w3 (.mapIter none 0 #[] 0) = wE := ⟨_, rfl⟩
  have hnxE := fun ty => hnx w3 ty
  rw [hwE] at hnxE
  have hbE : Below (World.heap w3).size w3 wE := by rw [← hwE]; exact (Below.refl _ _).alloc (Nat.le_refl _) _
  have HO3 := Lib.hid (OwnD.below (R' := strC) HOX.out hbE fun _ _ h => h)
  have HBF : Hid (Below w.heap.size w wE) := Lib.hid (HB1.out.trans (Below.mono (HBX.out.trans (hbE.mono (by have := HBX.out.size; have := HS.out; omega))) (by have := HS.out; omega)))
  clear hbE
  go_wp2_with fail
  refine wp_loop_rounds 1 ?_
  rw [rounds_succ]
  go_wp2_with fail
  go_ret
  exact ⟨(.slice (some ⟨g2, 0, none⟩) 1 1), [nM], rfl, Lib.hid (isStrs_own (ownD_strs HO3.out) HLL.out), HNI.out, HBF.out⟩
end
end Go.Proofs.YthgpdnffahmhjaaGreatDoor.S19

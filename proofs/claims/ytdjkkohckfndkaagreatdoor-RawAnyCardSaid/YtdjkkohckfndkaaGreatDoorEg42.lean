/- Texts put together: RawH. -/
import Derived.Test.YtdjkkohckfndkaaGreatDoorEg41
set_option linter.unusedSimpArgs false
set_option linter.unusedVariables false
set_option maxRecDepth 100000
namespace Go.Proofs.YtdjkkohckfndkaaGreatDoor.S15
open Go.RowKit S13 S13.Dk S14 S3 S2.Pl S3.Pl
def opn (S : St) (sp n : Nm) : St × Nat × List RT := match readF S n with
  | none => (S, 3, [])
  | some B => if (scanR B).2.2 = false then (S, 6, []) else if (scanR B).2.1 < B.length then (if (rewr S sp n (B.take (scanR B).2.1)).2 ≠ 0 then ((rewr S sp n (B.take (scanR B).2.1)).1, (rewr S sp n (B.take (scanR B).2.1)).2, []) else ((rewr S sp n (B.take (scanR B).2.1)).1, 0, (scanR B).1)) else (S, 0, (scanR B).1)
def OpenPost (w0 : World) (p : Nat) (x : St × Nat × List RT) (n : ByteArray) (e : Ending) (w' : World) : Prop :=
  if x.2.1 ≠ 0 then e = .returned (.tuple #[.pointer none, .int .i64 (x.2.1 : Nat)]) ∧ InH w0 p x.1 w'
  else ∃ q, e = .returned (.tuple #[pP q, .int .i64 0]) ∧ InS w0 p x.1 q n (endL x.2.2 x.2.2.length) w'
def InV (w0 : World) (p : Nat) (S : St) (Z : Nat → Prop) (wb w : World) : Prop := InZ w0 p S Z w ∧ ∀ b, Z b → w.heap[b]? = wb.heap[b]?
theorem InZ.lt {w0 w : World} {p : Nat} {S : St} {Z : Nat → Prop} (h : InZ w0 p S Z w) : ∀ b, Z b → b < w.heap.size := by
  obtain ⟨l, _, _, _, _, hz⟩ := h
  exact fun b hb => (hz b hb).1
theorem InV.below {w0 wb w w' : World} {p : Nat} {S : St} {Z : Nat → Prop} (h : InV w0 p S Z wb w) (hb : Below w.heap.size w w') : InV w0 p S Z wb w' := ⟨h.1.below hb, fun b hz => (hb.block b (InZ.lt h.1 b hz)).trans (h.2 b hz)⟩
theorem InU.make {w0 wb w w' : World} {p q : Nat} {S : St} {n : ByteArray} {E : List Int} {Z : Nat → Prop} (h : InV w0 p S Z wb w) (hb : Below w.heap.size w w') {ev : Value} (hk : Blk w' q 104 (sgL p n ev)) (hq : w.heap.size ≤ q) (ho : w'.ownsRow w.heap.size 3 1 ev E.length (i64s E)) : InU w0 p S q n E Z wb w' := ⟨InT.make h.1 hb hk hq ho, (h.below hb).2⟩
def OpenPostT (w0 : World) (p : Nat) (x : St × Nat × List RT) (n : ByteArray) (Z : Nat → Prop) (wb : World) (e : Ending) (w' : World) : Prop :=
  if x.2.1 ≠ 0 then e = .returned (.tuple #[.pointer none, .int .i64 (x.2.1 : Nat)]) ∧ InV w0 p x.1 Z wb w'
  else ∃ q, e = .returned (.tuple #[pP q, .int .i64 0]) ∧ InU w0 p x.1 q n (endL x.2.2 x.2.2.length) Z wb w'
theorem open_bad {w0 w' : World} {p : Nat} {x : St × Nat × List RT} {n : ByteArray} {S' : St} {c : Nat} {l : List RT} {Z : Nat → Prop} {wb : World} (hx : x = (S', c, l)) (hc : c ≠ 0) (hI : InV w0 p S' Z wb w') : OpenPostT w0 p x n Z wb (.returned (.tuple #[.pointer none, .int .i64 (c : Nat)])) w' := by
  subst hx
  unfold OpenPostT
  rw [if_pos hc]
  exact ⟨rfl, hI⟩
theorem open_good {w0 w' : World} {p q : Nat} {x : St × Nat × List RT} {n : ByteArray} {S' : St} {l : List RT} {Z : Nat → Prop} {wb : World} (hx : x = (S', 0, l)) (hI : InU w0 p S' q n (endL l l.length) Z wb w') : OpenPostT w0 p x n Z wb (.returned (.tuple #[pP q, .int .i64 0])) w' := by
  subst hx
  unfold OpenPostT
  rw [if_neg (by simp)]
  exact ⟨q, rfl, hI⟩
theorem scanR_le (B : List Nat) : (scanR B).2.1 ≤ B.length := by
  have h1 := tot_scan (pscan B).1
  rw [tot_pscan] at h1
  have h2 := (pscan_size B).1
  unfold scanR
  simp only
  omega
attribute [local go_sem ↓] loadR_eq storeR_eq buildR_eq sliceU8_eq
set_option maxHeartbeats 16000000 in
theorem open_t {Z : Nat → Prop} {w0 w : World} {p : Nat} {S : St} {num : Int} {d : ByteArray} (h : InZ w0 p S Z w) (hT : Tab w0) (hf : FmtOk num d) (hd : d.size ≤ 100) (hc : S.calls ≤ 1099511627000) (hB : ∀ B, readF S (d ++ rawE).data.toList = some B → B.length ≤ 1000000) :
    Calls Tryz.prog 18 #[pP p, .int .i64 num] w (OpenPostT w0 p (opn S (d ++ newE).data.toList (d ++ rawE).data.toList) (d ++ rawE) Z w) := by
  have hn := name_any num d hf hd w
  have HNW := Lib.hid (fun W => named_any num d newE hf hd (by decide) W)
  have hsz := raw_size hd
  have hss := new_size hd
  obtain ⟨n, hnn⟩ : ∃ n, d ++ rawE = n := ⟨_, rfl⟩
  obtain ⟨sp, hsp⟩ : ∃ sp, d ++ newE = sp := ⟨_, rfl⟩
  rw [hnn] at hn hsz hB ⊢
  rw [hsp] at HNW hss ⊢
  unfold newE at HNW
  have HTW : Hid (∀ W, Below w0.heap.size w0 W → Tab W) := Lib.hid fun W hW => hT.below hW
  have hrd := read_h n h.toH hsz
  obtain ⟨F, hF⟩ : ∃ F, readF S n.data.toList = F := ⟨_, rfl⟩
  obtain ⟨x, hx⟩ : ∃ x, opn S sp.data.toList n.data.toList = x := ⟨_, rfl⟩
  have hx' := hx
  unfold opn at hx'
  rw [hF] at hx' hrd hB
  rw [hx]
  have HX := Lib.hid hx'
  have HRD := Lib.hid hrd
  have H : Hid (InV w0 p S Z w w) := Lib.hid ⟨h, fun _ _ => rfl⟩
  have HBB := Lib.hid hB
  have HCC := Lib.hid hc
  have HSS := Lib.hid hss
  have HSZ := Lib.hid hsz
  clear h hT hf hd hc hB hx hx' hrd hF hss hsz hnn hsp
  go_enter Tryz.func18, Tryz.ntmps18
  go_wp2_with fail
  refine hn.mono ?_
  rintro e w1 ⟨rfl, rfl⟩
  clear hn
  go_wp2_with fail
  refine HRD.out.mono ?_
  intro e w2 hp2
  cases F with
  | none =>
    obtain ⟨hb2, he2⟩ := hp2
    have he2 : e = .returned (.tuple #[.slice none 0 0, .int .i64 3]) := he2
    subst he2
    have H2 := Lib.hid (H.out.below hb2.out)
    clear hb2 HRD
    go_wp2_with fail
    go_ret2
    exact open_bad (c := 3) HX.out.symm (by decide) H2.out
  | some B =>
    obtain ⟨hb2, sp2, cp2, he2, ho2, hx2⟩ := hp2
    have he2 : e = .returned (.tuple #[.slice sp2 B.length cp2, .int .i64 0]) := he2
    subst he2
    have hBl := HBB.out B rfl
    have hsf : Sofar w1 w2 (.slice sp2 B.length cp2) B := ⟨ho2.out, hb2.out⟩
    have hfr := hsf.front hx2.out
    have HI2 := Lib.hid (H.out.below hb2.out)
    have hsc := rscan_any _ B w2 (HTW.out w2 HI2.out.1.bel) hfr.1 (by omega)
    unfold RScanPost at hsc
    have HFR := Lib.hid hfr
    have HB2 := hb2
    have hle : (scanR B).2.1 ≤ B.length := scanR_le B
    obtain ⟨M, hM⟩ : ∃ M, B.length = M := ⟨_, rfl⟩
    obtain ⟨L, hL⟩ : ∃ L, (scanR B).1 = L := ⟨_, rfl⟩
    obtain ⟨m, hm⟩ : ∃ m, (scanR B).2.1 = m := ⟨_, rfl⟩
    obtain ⟨ok, hok⟩ : ∃ ok, (scanR B).2.2 = ok := ⟨_, rfl⟩
    have hLc : ∀ r ∈ L, chk r = 0 := by rw [← hL]; exact scanR_chk B
    have hLl : 12 * L.length ≤ M := by rw [← hL, ← hM]; exact scanR_len B
    have hx3 := HX.out
    simp only at hx3
    rw [hm, hL, hok, hM] at hx3
    rw [hm, hM] at hle
    rw [hL, hm, hok, hM] at hsc
    rw [hM] at HFR hBl ⊢
    have HX3 := Lib.hid hx3
    have HSC := Lib.hid hsc
    have HLC := Lib.hid hLc
    have HM := Lib.hid hM
    clear hb2 ho2 hx2 hsf hfr hsc hM hL hm hok hx3 HX HRD HBB hLc
    go_wp2_with fail
    refine HSC.out.mono ?_
    rintro e w3 ⟨sp3, cp3, rfl, ho3, hb3⟩
    have HO3 := ho3
    have HI3 := Lib.hid (HI2.out.below hb3.out)
    have HFR3 : Hid (Front w1.heap.size w3 (.slice sp2 M cp2) B) := Lib.hid (Front.keep HFR.out fun g hg hl => hb3.out.block g hl)
    have hs12 : w1.heap.size ≤ w2.heap.size := HB2.out.size
    have hs23 : w2.heap.size ≤ w3.heap.size := hb3.out.size
    have HLL := Lib.hid hLl
    have HB13 : Hid (Below w1.heap.size w1 w3) := Lib.hid (HB2.out.trans (hb3.out.mono hs12))
    have hLN : L.length ≤ 1000000 := by omega
    have HLN := Lib.hid hLN
    obtain ⟨NL, hNL⟩ : ∃ NL, L.length = NL := ⟨_, rfl⟩
    rw [hNL] at HO3 ⊢
    have HNL := Lib.hid hNL
    clear ho3 hb3 HSC hLl hLN hNL HI2 HFR
    cases ok with
    | false =>
      have hxx := HX3.out
      simp only [if_true] at hxx
      have HXX := Lib.hid hxx
      clear hxx HX3
      go_wp2_with fail
      go_ret2
      exact open_bad (c := 6) HXX.out.symm (by decide) HI3.out
    | true =>
      have hxx := HX3.out
      rw [if_neg (by simp)] at hxx
      have HXX := Lib.hid hxx
      clear hxx HX3
      by_cases hlt : m < M
      · have d1 : decide (m < M) = true := by simpa using hlt
        have d2 : decide ((m : Int) < (M : Int)) = true := by simpa using hlt
        have hxx := HXX.out
        rw [if_pos hlt] at hxx
        obtain ⟨S5, hS5⟩ : ∃ S5, (rewr S sp.data.toList n.data.toList (B.take m)).1 = S5 := ⟨_, rfl⟩
        obtain ⟨c5, hc5⟩ : ∃ c5, (rewr S sp.data.toList n.data.toList (B.take m)).2 = c5 := ⟨_, rfl⟩
        have hr5 : rewr S sp.data.toList n.data.toList (B.take m) = (S5, c5) := by rw [← hS5, ← hc5]
        rw [hS5, hc5] at hxx
        have HX5 := Lib.hid hxx
        obtain ⟨sp4, cp4, hsl, hf4⟩ := HFR3.out.upto m (by rw [HM.out]; omega)
        obtain ⟨Z0, hZ⟩ : ∃ Z0 : Nat → Prop, (fun b => Z b ∨ w1.heap.size ≤ b ∧ b < w3.heap.size) = Z0 := ⟨_, rfl⟩
        have hZ1 : ∀ b, Z b → Z0 b := fun b hb => by rw [← hZ]; exact .inl hb
        have HZ1 := Lib.hid hZ1
        have hz3 : InZ w0 p S Z0 w3.drew := by rw [← hZ]; exact (H.out.1.more HB13.out fun b hb => hb).below (Below.refl _ _).drew
        have hv4 : ∀ W, (∀ b, Z0 b → W.heap[b]? = w3.drew.heap[b]?) → IsBytes W (.slice sp4 m cp4) (B.take m) := fun W hW => (Front.keep hf4.out fun g hg hl => hW g (by rw [← hZ]; exact .inr ⟨hg, hl⟩)).1
        have HRW : Hid (Calls Tryz.prog 53 #[pP p, .string sp, .string n, .slice sp4 m cp4] w3.drew fun e w' => e = .returned (.int .i64 (c5 : Nat)) ∧ InZ w0 p S5 Z0 w' ∧ ∀ b, Z0 b → w'.heap[b]? = w3.drew.heap[b]?) := Lib.hid ((rewrite_any sp n _ (B.take m) hz3 HSS.out HSZ.out HCC.out hv4 (by rw [List.length_take]; omega)).mono fun e w' h' => z_call hr5 h')
        have HNM2 := Lib.hid (HNW.out w3.drew)
        have HRC : Hid (∀ W : World, (∀ b, Z0 b → W.heap[b]? = w3.drew.heap[b]?) → RecsAt W (.slice sp3 NL cp3) L) := Lib.hid fun W hW => (show OwnRecs w2.heap.size W (.slice sp3 NL cp3) L from own_heap HO3.out fun b hb => hW b (by rw [← hZ]; exact .inr ⟨by have := (World.ownsRow.lt HO3.out b hb).1; omega, (World.ownsRow.lt HO3.out b hb).2⟩)).at
        clear hxx hS5 hc5 hr5 hf4 hz3 hv4 hZ hZ1 HXX
        go_wp2_with fail
        refine wp_region_noPanic ?_
        refine wpAnyH_start (n := 9) (l := #[false, false, false, false, false, false, false, false, false]) (S := fun W => True) (by kernel_rfl) (trivial) (by kernel_rfl) (by kernel_rfl) ?_
        refine wpAnyH_take (i := 0) (oi := _) (v := ?_) rfl (by kernel_rfl) (by kernel_rfl) (by kernel_rfl) (fun _ _ _ h => h) (Or.inl ⟨by rfl, ?_⟩) (trivial) ?_
        rotate_left
        · intro wq hSw; go_simp; try with_reducible rfl
        simp only [Act.put, List.setIfInBounds_toArray, List.set_cons_zero, List.set_cons_succ, List.getElem_toArray, List.getElem_cons_zero, List.getElem_cons_succ]
        refine wpAnyH_take (i := 1) (oi := _) (v := ?_) rfl (by kernel_rfl) (by kernel_rfl) (by kernel_rfl) (fun _ _ _ h => h) (Or.inl ⟨by rfl, ?_⟩) (trivial) ?_
        rotate_left
        · intro wq hSw; go_simp; try with_reducible rfl
        simp only [Act.put, List.setIfInBounds_toArray, List.set_cons_zero, List.set_cons_succ, List.getElem_toArray, List.getElem_cons_zero, List.getElem_cons_succ]
        refine wpAnyH_take (i := 3) (oi := _) (v := ?_) rfl (by kernel_rfl) (by kernel_rfl) (by kernel_rfl) (fun _ _ _ h => h) (Or.inl ⟨by rfl, ?_⟩) (trivial) ?_
        rotate_left
        · intro wq hSw; go_simp; try with_reducible rfl
        simp only [Act.put, List.setIfInBounds_toArray, List.set_cons_zero, List.set_cons_succ, List.getElem_toArray, List.getElem_cons_zero, List.getElem_cons_succ]
        refine wpAnyH_take (i := 4) (oi := _) (v := ?_) rfl (by kernel_rfl) (by kernel_rfl) (by kernel_rfl) (fun _ _ _ h => h) (Or.inl ⟨by rfl, ?_⟩) (trivial) ?_
        rotate_left
        · intro wq hSw; go_simp; try with_reducible rfl
        simp only [Act.put, List.setIfInBounds_toArray, List.set_cons_zero, List.set_cons_succ, List.getElem_toArray, List.getElem_cons_zero, List.getElem_cons_succ]
        refine wpAnyH_take (i := 5) (oi := _) (v := ?_) rfl (by kernel_rfl) (by kernel_rfl) (by kernel_rfl) (fun _ _ _ h => h) (Or.inl ⟨by rfl, ?_⟩) (trivial) ?_
        rotate_left
        · intro wq hSw; go_simp; try with_reducible rfl
        simp only [Act.put, List.setIfInBounds_toArray, List.set_cons_zero, List.set_cons_succ, List.getElem_toArray, List.getElem_cons_zero, List.getElem_cons_succ]
        refine wpAnyH_take (i := 6) (oi := _) (v := ?_) rfl (by kernel_rfl) (by kernel_rfl) (by kernel_rfl) (fun _ _ _ h => h) (Or.inl ⟨by rfl, ?_⟩) (trivial) ?_
        rotate_left
        · intro wq hSw; go_simp; try with_reducible rfl
        simp only [Act.put, List.setIfInBounds_toArray, List.set_cons_zero, List.set_cons_succ, List.getElem_toArray, List.getElem_cons_zero, List.getElem_cons_succ]
        refine wpAnyH_ready (rs := [2]) (by kernel_rfl) (by simp) ?_
        refine AllReadyH.cons (o := _) rfl (fun K hK => ?_) AllReadyH.nil
        simp only [List.getElem_toArray, List.getElem_cons_zero, List.getElem_cons_succ]
        go_simp
        refine HNM2.out.mono ?_; rintro e' w4 ⟨rfl, rfl⟩
        refine hK.out _ _ (trivial) (fun _ => ?_)
        clear hK K
        simp only [Act.put, List.setIfInBounds_toArray, List.set_cons_zero, List.set_cons_succ, List.getElem_toArray, List.getElem_cons_zero, List.getElem_cons_succ]
        refine wpAnyH_ready (rs := [7]) (by kernel_rfl) (by simp) ?_
        refine AllReadyH.cons (o := _) rfl (fun K hK => ?_) AllReadyH.nil
        simp only [List.getElem_toArray, List.getElem_cons_zero, List.getElem_cons_succ]
        go_simp
        refine HRW.out.mono ?_; rintro e' w5 ⟨rfl, hz5, hh5⟩
        refine hK.out _ _ (trivial) (fun _ => ?_)
        clear hK K
        have HZ5 := Lib.hid hz5
        have HH5 := Lib.hid hh5
        clear hz5 hh5
        simp only [Act.put, List.setIfInBounds_toArray, List.set_cons_zero, List.set_cons_succ, List.getElem_toArray, List.getElem_cons_zero, List.getElem_cons_succ]
        refine wpAnyH_take (i := 8) (oi := _) (v := ?_) rfl (by kernel_rfl) (by kernel_rfl) (by kernel_rfl) (fun _ _ _ h => h) (Or.inl ⟨by rfl, ?_⟩) (trivial) ?_
        rotate_left
        · intro wq hSw; go_simp; try with_reducible rfl
        simp only [Act.put, List.setIfInBounds_toArray, List.set_cons_zero, List.set_cons_succ, List.getElem_toArray, List.getElem_cons_zero, List.getElem_cons_succ]
        refine wpAnyH_done (by kernel_rfl) ?_ _
        refine NoPanic.normal ?_
        have HV5 : Hid (InV w0 p S5 Z w1 w5) := Lib.hid ⟨HZ5.out.fewer HZ1.out, fun b hb => (HH5.out b (HZ1.out b hb)).trans (HI3.out.2 b hb)⟩
        by_cases hc5 : c5 ≠ 0
        · obtain ⟨q1, q2, q3, q4⟩ := code_ne hc5
          have HXB : Hid (x = (S5, c5, [])) := Lib.hid (by have := HX5.out; rw [if_pos hc5] at this; exact this.symm)
          have HC5 := Lib.hid hc5
          clear hc5
          go_wp2_with fail
          go_ret2
          exact open_bad HXB.out HC5.out HV5.out
        · have hc50 : c5 = 0 := by omega
          have HXB : Hid (x = (S5, 0, L)) := Lib.hid (by have := HX5.out; rw [if_neg hc5] at this; exact this.symm)
          clear HX5
          subst hc50
          clear hc5
          have HI5 := HV5
          have HR5 := Lib.hid (HRC.out w5 HH5.out)
          clear HRC HH5 HZ5 HRW
          have hen := ends_any (.slice sp3 NL cp3) L w5 (HTW.out w5 HI5.out.1.bel) HR5.out HLC.out HLN.out
          have HEN := Lib.hid hen
          clear hen
          go_wp2_with fail
          refine HEN.out.mono ?_
          rintro e w6 ⟨ev, rfl, ho6, hb6⟩
          have HO6 := ho6
          obtain ⟨spe, cpe, rfl, _, _⟩ := ownsRow_slice ho6.out
          have HB6 := hb6
          clear ho6 hb6 HEN
          go_wp2_with fail
          go_ret2
          refine open_good (l := L) HXB.out ?_
          exact InU.make (q := w6.heap.size) (ev := .slice spe L.length cpe) HI5.out (HB6.out.alloc HB6.out.size _) (Blk.new w6 104 (sgL p n (.slice spe L.length cpe))) HB6.out.size (by rw [endL_length]; exact HO6.out.alloc _)
      · have hme : m = M := by omega
        have d1 : decide (m < M) = false := by simp; omega
        have d2 : decide ((m : Int) < (M : Int)) = false := by simp; omega
        have HXB : Hid (x = (S, 0, L)) := Lib.hid (by have := HXX.out; rw [if_neg hlt] at this; exact this.symm)
        have HR3 : Hid (RecsAt w3 (.slice sp3 NL cp3) L) := Lib.hid (OwnRecs.at HO3.out)
        clear HXX hlt
        subst hme
        have hen := ends_any (.slice sp3 NL cp3) L w3 (HTW.out w3 HI3.out.1.bel) HR3.out HLC.out HLN.out
        have HEN := Lib.hid hen
        clear hen
        go_wp2_with fail
        refine HEN.out.mono ?_
        rintro e w6 ⟨ev, rfl, ho6, hb6⟩
        have HO6 := ho6
        obtain ⟨spe, cpe, rfl, _, _⟩ := ownsRow_slice ho6.out
        have HB6 := hb6
        clear ho6 hb6 HEN
        go_wp2_with fail
        go_ret2
        refine open_good (l := L) HXB.out ?_
        exact InU.make (q := w6.heap.size) (ev := .slice spe L.length cpe) HI3.out (HB6.out.alloc HB6.out.size _) (Blk.new w6 104 (sgL p n (.slice spe L.length cpe))) HB6.out.size (by rw [endL_length]; exact HO6.out.alloc _)
theorem open_any {w0 w : World} {p : Nat} {S : St} {num : Int} {d : ByteArray} (h : InH w0 p S w) (hT : Tab w0) (hf : FmtOk num d) (hd : d.size ≤ 100) (hc : S.calls ≤ 1099511627000) (hB : ∀ B, readF S (d ++ rawE).data.toList = some B → B.length ≤ 1000000) :
    Calls Tryz.prog 18 #[pP p, .int .i64 num] w (OpenPost w0 p (opn S (d ++ newE).data.toList (d ++ rawE).data.toList) (d ++ rawE)) := by
  refine (open_t h.toZ0 hT hf hd hc hB).mono fun e w' hp => ?_
  unfold OpenPostT at hp
  unfold OpenPost
  by_cases h1 : (opn S (d ++ newE).data.toList (d ++ rawE).data.toList).2.1 ≠ 0
  · rw [if_pos h1] at hp ⊢
    exact ⟨hp.1, hp.2.1.toH⟩
  · rw [if_neg h1] at hp ⊢
    obtain ⟨q, he, hU⟩ := hp
    exact ⟨q, he, hU.1.toS⟩
end Go.Proofs.YtdjkkohckfndkaaGreatDoor.S15

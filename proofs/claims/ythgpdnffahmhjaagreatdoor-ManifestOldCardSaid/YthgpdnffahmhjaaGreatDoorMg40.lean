/- Texts put together: MaY. -/
import Derived.Test.YthgpdnffahmhjaaGreatDoorMg39
set_option linter.unusedSimpArgs false
set_option linter.unusedVariables false
set_option maxRecDepth 100000
namespace Go.Proofs.YthgpdnffahmhjaaGreatDoor.S19
open Go.RowKit Go.Maps Go.Shelf Go.Sort S18 S13 S13.Dk S15 S3 S2.Pl S3.Pl
structure LD (w : World) (b0 gs s p : Nat) (es : List ED) (a : Option Addr) (cap : Nat) (first : Bool) (rest : List ED) (W : World) (M : MS) (D : Nat → Prop) : Prop where
  st : Blk W gs 58 (stL M (some s) (some p))
  segs : MapR SG.num 6 segC W s M.segs
  pars : MapR PT.group 5 (parC D W) W p M.pars
  D : ∀ b, D b → w.heap.size ≤ b ∧ b < W.heap.size ∧ ¬ X3 gs s p b
  ok : MOk M
  eq : applyA z0 true es = applyA M first rest
  bel : Below w.heap.size w W
  eds : IsEds (fun b => w.heap.size ≤ b ∧ b < b0) W (.slice a es.length cap) es
theorem LD.next {w W W' : World} {b0 gs s p : Nat} {es : List ED} {a : Option Addr} {cap : Nat} {first : Bool} {rest : List ED} {M M' : MS} {D : Nat → Prop} {e : ED} (h : LD w b0 gs s p es a cap first (e :: rest) W M D) (hb : w.heap.size ≤ b0 ∧ b0 ≤ gs ∧ b0 ≤ s ∧ b0 ≤ p) (he : edB e = true) (hw : EdW e)
    (hA : applyM M e first = some M') (hs : Step W W' (X3 gs s p) (X3 gs s p)) (hk : Blk W' gs 58 (stL M' (some s) (some p))) (h1 : MapR SG.num 6 segC W' s M'.segs) (h2 : MapR PT.group 5 (parC (ParD D W.heap.size W') W') W' p M'.pars) :
    LD w b0 gs s p es a cap false rest W' M' (ParD D W.heap.size W') := by
  have hX : ∀ b, X3 gs s p b → b0 ≤ b := by rintro b (rfl | rfl | rfl) <;> omega
  have hgl := h.st.lt
  have hsl := h.segs.lt
  have hpl := h.pars.lt
  refine ⟨hk, h1, h2, ?_, applyM_ok h.ok he hw hA, ?_, ?_, ?_⟩
  · rintro b (hb' | ⟨h3, t, c, ht, hc⟩)
    · obtain ⟨x1, x2, x3⟩ := h.D b hb'
      exact ⟨x1, Nat.lt_of_lt_of_le x2 hs.size, x3⟩
    · refine ⟨Nat.le_trans h.bel.size h3, hc.lt, ?_⟩
      rintro (rfl | rfl | rfl) <;> omega
  · rw [h.eq]
    simp only [applyA, hA]
  · exact h.bel.trans (hs.below h.bel.size fun b hb' => by have := hX b hb'; omega)
  · refine RowD.keep h.eds (fun b hb' hl => ⟨hb', hs.block b hl fun hx => by have := hX b hx; omega⟩) fun _ _ hq => hq.keep fun b hb' hl => ⟨hb', hs.block b hl fun hx => by have := hX b hx; omega⟩
theorem LD.below {w W W' : World} {b0 gs s p : Nat} {es : List ED} {a : Option Addr} {cap : Nat} {first : Bool} {rest : List ED} {M : MS} {D : Nat → Prop} (h : LD w b0 gs s p es a cap first rest W M D) (hb : Below W.heap.size W W') : LD w b0 gs s p es a cap first rest W' M D :=
  ⟨h.st.below hb h.st.lt, h.segs.keep (hb.block s h.segs.lt) (fun _ _ h => h), h.pars.keep (hb.block p h.pars.lt) (fun _ _ h => h.keep (keep_below hb)), fun b hb' => by obtain ⟨x1, x2, x3⟩ := h.D b hb'; exact ⟨x1, Nat.lt_of_lt_of_le x2 hb.size, x3⟩, h.ok, h.eq, h.bel.trans (hb.mono h.bel.size), RowD.keep h.eds (keep_below hb) fun _ _ hq => hq.keep (keep_below hb)⟩
attribute [local go_sem ↓] loadT_eq storeT_eq buildT_eq buildQ_eq loadE_eq storeE_eq
attribute [local go_sem] run_buildQ2 run_buildT2 run_buildT0
set_option maxHeartbeats 16000000 in
theorem load_any {w0 : World} {p : Nat} {S : St} (B : List Nat) (w : World) (h : InH w0 p S w) (hT : Tab w0) (hr : readF S nmM.data.toList = some B) (hB : B.length ≤ 1000000) (hc : S.calls ≤ 1099511627000)
    (h0 : ∀ M, loadA B = some M → MOk M → (scanE B).2.1 < B.length → (rewr S nmN.data.toList nmM.data.toList (encE (wholeM M))).2 = 0) :
    Calls Tryz.prog 10 #[pP p] w (LoadPost w0 p S B w) := by
  have hrd := read_h nmM h (by decide)
  rw [hr] at hrd
  unfold nmM ReadPost errV at hrd
  have H := Lib.hid h
  have HT : Hid (∀ W, Below w.heap.size w W → Tab W) := Lib.hid fun W hW => hT.below (h.bel.trans (hW.mono h.bel.size))
  have HT0 := Lib.hid hT
  have HC := Lib.hid hc
  have H0 := Lib.hid h0
  have HBL := Lib.hid hB
  have HW0 := Lib.hid h.bel.size
  obtain ⟨bl, hbl⟩ : ∃ bl, B.length = bl := ⟨_, rfl⟩
  have HBN := Lib.hid hbl
  rw [hbl] at hB
  simp only [hbl] at hrd
  clear h hr hT hc h0 hbl
  go_enter Tryz.func10, Tryz.ntmps10
  go_wp2_with fail
  refine hrd.mono ?_
  rintro r w1 ⟨hb1, sp1, cp1, rfl, ho1, hx1⟩
  have hv1 : IsBytes w1 (.slice sp1 bl cp1) B := by
    have h1 := ho1.out
    rw [← HBN.out] at h1 ⊢
    exact isBytes_own hx1.out h1
  have hsc := S18.scan_any (.slice sp1 bl cp1) B w1 (HT.out w1 hb1.out) hv1 (by have := HBL.out; omega)
  unfold S18.ScanPost at hsc
  obtain ⟨n, hn⟩ : ∃ n, (scanE B).1.length = n := ⟨_, rfl⟩
  obtain ⟨zz, hzz⟩ : ∃ zz, (scanE B).2.1 = zz := ⟨_, rfl⟩
  obtain ⟨ok, hok⟩ : ∃ ok, (scanE B).2.2 = ok := ⟨_, rfl⟩
  have hnl := (scan_len B).1
  rw [hn] at hnl
  have hnl : n ≤ 1000000 := Nat.le_trans hnl HBL.out
  rw [hn, hzz, hok] at hsc
  have HN := Lib.hid hn
  have HZZ := Lib.hid hzz
  have HOK := Lib.hid hok
  have HB1 := hb1
  clear hrd hb1 ho1 hx1 hv1 hn hzz hok
  go_wp2_with fail
  refine hsc.mono ?_
  rintro r w2 ⟨sp2, cp2, rfl, ho2, hb2⟩
  have HB2 : Hid (Below w.heap.size w w2) := Lib.hid (HB1.out.trans (hb2.out.mono HB1.out.size))
  have HO2 : Hid (IsEds (fun b => w.heap.size ≤ b ∧ b < w2.heap.size) w2 (.slice sp2 n cp2) (scanE B).1) := Lib.hid (by
    have h1 := OwnEds.row ho2.out
    have h3 := HB1.out.size
    exact RowD.keep h1 (keep_weak fun b hb hl => ⟨Nat.le_trans h3 hb, hl⟩) fun _ _ hq => hq.keep (keep_weak fun b hb hl => ⟨Nat.le_trans h3 hb, hl⟩))
  clear hsc ho2 hb2
  cases ok with
  | false =>
    have HA : Hid (loadA B = none) := Lib.hid (by unfold loadA; rw [if_pos (.inl HOK.out)])
    go_wp2_with fail
    go_ret2
    exact load_bad HA.out HB2.out
  | true =>
    by_cases hn0 : n = 0
    · have HA : Hid (loadA B = none) := Lib.hid (by unfold loadA; rw [if_pos (.inr (List.eq_nil_of_length_eq_zero (HN.out.trans hn0)))])
      subst hn0
      go_wp2_with fail
      go_ret2
      exact load_bad HA.out HB2.out
    · have hne : (scanE B).1 ≠ [] := fun h => hn0 (by rw [← HN.out, h]; rfl)
      have HA : Hid (loadA B = applyA z0 true (scanE B).1) := Lib.hid (by unfold loadA; rw [if_neg (fun h => h.elim (fun h => by rw [HOK.out] at h; cases h) hne)])
      clear hne
      have q1 : ((n : Int) == 0) = false := beq_f (by omega)
      have q2 : (n == 0) = false := by simp; omega
      have hcl := clone_any (D := fun _ => False) z0 none none w2 (.inl ⟨rfl, rfl⟩) (.inl ⟨rfl, rfl⟩) (by simp [z0]) (fun b hb => hb.elim)
      simp only [z0] at hcl
      unfold ClonePost at hcl
      go_wp2_with fail
      refine hcl.mono ?_
      rintro r w3 ⟨s, q, rfl, hs2, hq2, hsq, hms, hmp, hb3⟩
      obtain ⟨w4, hw4⟩ : ∃ w4, w3.alloc (.cells #[.int .i64 0, .int .i64 0, .map none, .map none] 58) = w4 := ⟨_, rfl⟩
      have hk4 : Blk w4 w3.heap.size 58 [.int .i64 0, .int .i64 0, .map none, .map none] := by rw [← hw4]; exact Blk.new w3 _ _
      have hb4 : Below w3.heap.size w3 w4 := by rw [← hw4]; exact (Below.refl _ _).alloc (Nat.le_refl _) _
      obtain ⟨w5, hst5, hk5, hg5⟩ := putT z0 (sv := some s) (pv := some q) hk4 rfl
      simp only [z0] at hst5
      have hsl := hms.out.lt
      have hql := hmp.out.lt
      have hg35 : w3.grownBy w5 none := (gr_below hb4).andThen hg5.out (fun j hj => .inl (by cases hj; exact Nat.le_refl _))
      obtain ⟨gs, hgs⟩ : ∃ gs, w3.heap.size = gs := ⟨_, rfl⟩
      have hld : LD w w2.heap.size gs s q (scanE B).1 sp2 cp2 true (scanE B).1 w5 z0 (fun _ => False) := by
        have hb35 : Below w3.heap.size w3 w5 := ⟨hg35.os, hg35.tape, hg35.output, hg35.size, fun b hb => hg35.block b hb (by simp)⟩
        have hb25 : Below w2.heap.size w2 w5 := Below.trans hb3.out (hb35.mono hb3.out.size)
        refine ⟨by rw [← hgs]; exact hk5.out, (hms.out.keep (hb35.block s hsl) fun _ _ h => h), (hmp.out.keep (hb35.block q hql) fun _ _ h => h.keep (keep_below hb35)), fun b hb => hb.elim, mok_z0, rfl, HB2.out.trans (hb25.mono HB2.out.size), ?_⟩
        have := RowD.keep HO2.out (keep_below hb25) fun _ _ hq => hq.keep (keep_below hb25)
        rw [← HN.out] at this
        exact this
      have HLD := Lib.hid hld
      have HBB : Hid (w.heap.size ≤ w2.heap.size ∧ w2.heap.size ≤ gs ∧ w2.heap.size ≤ s ∧ w2.heap.size ≤ q) := Lib.hid ⟨HB2.out.size, by rw [← hgs]; exact hb3.out.size, hs2, hq2⟩
      have HX : Hid (gs ≠ s ∧ gs ≠ q ∧ s ≠ q) := Lib.hid ⟨by omega, by omega, hsq⟩
      rw [hgs] at hst5
      clear hcl hms hmp hb3 hk4 hb4 hk5 hg5 hg35 hld hsl hql hs2 hq2 hsq
      go_wp2_with fail
      obtain ⟨es, hes⟩ : ∃ es, (scanE B).1 = es := ⟨_, rfl⟩
      have HES := Lib.hid hes
      rw [hes] at HLD HA HN HO2
      clear hes
      go_loopw [37] (fun y wr => ∃ (i : Nat) (M1 : MS) (D : Nat → Prop), i ≤ n ∧ y = .int .i64 i ∧ Hid (LD w w2.heap.size gs s q es sp2 cp2 (decide (i = 0)) (es.drop i) wr M1 D)) (fun y _ => n - (intOf y).toNat)
      case atStart => exact ⟨0, z0, _, by omega, rfl, HLD⟩
      case round =>
        obtain ⟨i, M1, D, hi, rfl, hL⟩ := hrel
        by_cases hlt : i < n
        · obtain ⟨bb, off, x, c, rfl, _, hbb, hx, ⟨a1, c1, a2, c2, a3, c3, a4, c4, rfl, hin⟩, hu⟩ := RowD.at (RowD.cap hL.out.eds |> fun _ => by have := hL.out.eds; rw [HN.out] at this; exact this) (i := i) (by rw [HN.out]; exact hlt)
          have hld := run_loadE (w := wr) rfl hu
          have hxm : x ∈ es := List.mem_of_getElem? hx
          have hxb : edB x = true := scan_edB B x (by rw [HES.out]; exact hxm)
          have hdr : es.drop i = x :: es.drop (i + 1) := by
            rw [List.drop_eq_getElem_cons (by rw [HN.out]; exact hlt)]
            congr 1
            rw [List.getElem?_eq_getElem (by rw [HN.out]; exact hlt)] at hx
            exact Option.some.inj hx
          have hL2 := hL.out
          rw [hdr] at hL2
          have hN := Blk.new wr 34 [.int .i64 0, .int .i64 0, .slice none 0 0, .slice none 0 0, .slice none 0 0, .slice none 0 0]
          have hAl : Below wr.heap.size wr (wr.alloc (.cells #[.int .i64 0, .int .i64 0, .slice none 0 0, .slice none 0 0, .slice none 0 0, .slice none 0 0] 34)) := (Below.refl _ _).alloc (Nat.le_refl _) _
          obtain ⟨w6, hst, hk6, hg6⟩ := putE x (a1 := a1) (c1 := c1) (a2 := a2) (c2 := c2) (a3 := a3) (c3 := c3) (a4 := a4) (c4 := c4) hN rfl
          simp only [edL] at hst hld
          have hb6 : Below wr.heap.size wr w6 := hAl.grown hg6.out hAl.size (fun j hj => by cases hj; exact Nat.le_refl _)
          have hL6 := hL2.below hb6
          have hin6 := hin.keep (keep_below hb6)
          have hld6 := run_loadE_blk x hk6.out
          obtain ⟨f, hf⟩ : ∃ f, decide (i = 0) = f := ⟨_, rfl⟩
          rw [hf] at hL6
          have q3 : ((i : Int) == 0) = f := by rw [← hf]; by_cases h : i = 0 <;> simp [h]
          have q4 : (i == 0) = f := by rw [← hf]; by_cases h : i = 0 <;> simp [h]
          have hap := apply_any (D := D) (De := fun b => w.heap.size ≤ b ∧ b < w2.heap.size) gs s q M1 x ⟨a1, c1, a2, c2, a3, c3, a4, c4⟩ f w6 (by
            obtain ⟨x1, x2, x3⟩ := HX.out
            obtain ⟨y1, y2, y3, y4⟩ := HBB.out
            refine ⟨hL6.st.lt, hL6.segs.lt, hL6.pars.lt, x1, x2, x3, fun b hb => (hL6.D b hb).2, fun b hb => ⟨?_, ?_⟩⟩
            · have := hL6.st.lt
              omega
            · rintro (rfl | rfl | rfl) <;> omega) hL6.st hL6.segs hL6.pars hin6 hxb ⟨by have := hL6.ok.sl; omega, by have := hL6.ok.pl; omega⟩
          have HL6 := Lib.hid hL6
          have HIN := Lib.hid hin6.w
          have HXB := Lib.hid hxb
          unfold ES.v at hap
          simp only at hap
          have HF : Hid (decide (i + 1 = 0) = false) := Lib.hid (by simp)
          clear hN hAl hk6 hg6 hb6 hL2 hL6 hin6 hin hu hx hdr hxm hxb hf
          go_wp2_with fail
          refine hap.mono ?_
          rintro r w7 ⟨hs7, ⟨M2, hA2, rfl, hk7, h71, h72⟩ | ⟨hA2, rfl⟩⟩
          · have HL7 : Hid (LD w w2.heap.size gs s q es _ cp2 (decide (i + 1 = 0)) (es.drop (i + 1)) w7 M2 (ParD D w6.heap.size w7)) := Lib.hid (by
              rw [HF.out]
              exact HL6.out.next HBB.out HXB.out HIN.out hA2 hs7 hk7 h71 h72)
            clear hap hs7 hA2 hk7 h71 h72 hld hld6 hst
            go_wp2_with fail
            go_roundw
            case rel => exact ⟨i + 1, M2, _, by omega, by first | rfl | go_num, HL7⟩
            case measure => simp only [intOf_i]; omega
          · have HAN : Hid (loadA B = none) := Lib.hid (by rw [HA.out, HL6.out.eq]; simp only [applyA, hA2])
            have HBN7 : Hid (Below w.heap.size w w7) := Lib.hid (HL6.out.bel.trans (hs7.below HL6.out.bel.size fun b hb => by
              obtain ⟨y1, y2, y3, y4⟩ := HBB.out
              rcases hb with rfl | rfl | rfl <;> omega))
            clear hap hs7 hA2 hld hld6 hst
            go_wp2_with fail
            go_ret2
            exact load_bad HAN.out HBN7.out
        · have : n = i := by omega
          subst this
          have hAS : loadA B = some M1 := by
            rw [HA.out, hL.out.eq, List.drop_of_length_le (by rw [HN.out]; exact Nat.le_refl _)]
            rfl
          have HAS := Lib.hid hAS
          have hldT := run_loadT_blk M1 hL.out.st
          have hlt : ∀ b, (some s = some b ∨ some q = some b ∨ D b) → w.heap.size ≤ b ∧ b < wr.heap.size := by
            obtain ⟨y1, y2, y3, y4⟩ := HBB.out
            rintro b (hb | hb | hb)
            · cases hb; exact ⟨by omega, hL.out.segs.lt⟩
            · cases hb; exact ⟨by omega, hL.out.pars.lt⟩
            · exact ⟨(hL.out.D b hb).1, (hL.out.D b hb).2.1⟩
          have hIZ : InZ w0 p S (fun b => some s = some b ∨ some q = some b ∨ D b) wr := H.out.toZ0.more hL.out.bel fun b hb => .inr (hlt b hb)
          have hDD : ∀ b, D b → some s ≠ some b ∧ some q ≠ some b := fun b hb => by
            have := (hL.out.D b hb).2.2
            refine ⟨fun e => this ?_, fun e => this ?_⟩
            · cases e; exact .inr (.inl rfl)
            · cases e; exact .inr (.inr rfl)
          have hbase : ∀ b, (some s = some b ∨ some q = some b ∨ D b) → w0.heap.size ≤ b := fun b hb => Nat.le_trans HW0.out (hlt b hb).1
          by_cases hz : zz < bl
          · have hcode := H0.out M1 hAS hL.out.ok (by rw [HZZ.out, HBN.out]; exact hz)
            have hrt := rewritten_ok (D := D) M1 (some s) (some q) wr hIZ HT0.out (.inr ⟨s, rfl, hL.out.segs⟩) (.inr ⟨q, rfl, hL.out.pars⟩) hL.out.ok hbase hDD HC.out (Nat.le_trans (encE_len (whole_ok hL.out.ok).2) (by omega)) hcode
            have HSS : Hid ((if (scanE B).2.1 < B.length then (rewr S nmN.data.toList nmM.data.toList (encE (wholeM M1))).1 else S) = (rewr S nmN.data.toList nmM.data.toList (encE (wholeM M1))).1) := Lib.hid (if_pos (by rw [HZZ.out, HBN.out]; exact hz))
            have q5 : ((zz : Int) < (bl : Int)) := by omega
            clear hlt hIZ hDD hbase hcode hAS
            go_wp2_with fail
            refine hrt.mono ?_
            rintro r w7 ⟨qq, rfl, hI⟩
            clear hrt
            go_wp2_with fail
            go_ret2
            exact load_good HAS.out HSS.out hI.out
          · have HSS : Hid ((if (scanE B).2.1 < B.length then (rewr S nmN.data.toList nmM.data.toList (encE (wholeM M1))).1 else S) = S) := Lib.hid (if_neg (by rw [HZZ.out, HBN.out]; exact hz))
            have q5 : ¬ ((zz : Int) < (bl : Int)) := by omega
            obtain ⟨nx, hnx⟩ : ∃ nx, M1.next = nx := ⟨_, rfl⟩
            obtain ⟨sq, hsq⟩ : ∃ sq, M1.seq = sq := ⟨_, rfl⟩
            rw [hnx, hsq] at hldT
            obtain ⟨w7, hw7⟩ : ∃ w7, wr.alloc (.cells #[.pointer (some ⟨p, 0, none⟩), .int .i64 nx, .int .i64 sq, .map (some s), .map (some q), .bool false] 68) = w7 := ⟨_, rfl⟩
            have hk7 : Blk w7 wr.heap.size 68 (manL p M1 (some s) (some q) false) := by rw [← hw7]; unfold manL; rw [hnx, hsq]; exact Blk.new wr _ _
            have hb7 : Below wr.heap.size wr w7 := by rw [← hw7]; exact (Below.refl _ _).alloc (Nat.le_refl _) _
            have hIM : InM w0 p S wr.heap.size M1 w7 (some s) (some q) D := by
              refine ⟨InZ.more hIZ hb7 fun b hb => ?_, hk7, .inr ⟨s, rfl, hL.out.segs.keep (hb7.block s hL.out.segs.lt) fun _ _ h => h⟩, .inr ⟨q, rfl, hL.out.pars.keep (hb7.block q hL.out.pars.lt) fun _ _ h => h.keep (keep_below hb7)⟩, ?_, fun b hb => ⟨?_, hDD b hb⟩, hL.out.ok⟩
              · rcases hb with rfl | hb
                · exact .inr ⟨Nat.le_refl _, hk7.lt⟩
                · exact .inl hb
              · rintro b (rfl | hb)
                · exact Nat.le_trans HW0.out hL.out.bel.size
                · exact hbase b hb
              · have := (hlt b (.inr (.inr hb))).2
                omega
            have HIM := Lib.hid hIM
            clear hlt hIZ hDD hbase hAS hk7 hb7 hIM hnx hsq
            go_wp2_with fail
            go_ret2
            exact load_good HAS.out HSS.out HIM.out
end Go.Proofs.YthgpdnffahmhjaaGreatDoor.S19

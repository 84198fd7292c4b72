/- Texts put together: MaZ. -/
import Derived.Test.YthgpdnffahmhjaaGreatDoorMg40
set_option linter.unusedSimpArgs false
set_option linter.unusedVariables false
set_option maxRecDepth 100000
namespace Go.Proofs.YthgpdnffahmhjaaGreatDoor.S19
open Go.RowKit Go.Maps Go.Shelf Go.Sort S18 S13 S13.Dk S15 S3 S2.Pl S3.Pl
structure InY (w0 : World) (p : Nat) (S : St) (q : Nat) (M : MS) (w : World) (sv pv : Option Nat) (D Y : Nat → Prop) : Prop where
  fs : InZ w0 p S (fun b => zM q sv pv D b ∨ Y b) w
  blk : Blk w q 68 (manL p M sv pv false)
  segs : MapO SG.num 6 segC w sv M.segs
  pars : MapO PT.group 5 (parC D w) w pv M.pars
  base : ∀ b, zM q sv pv D b → w0.heap.size ≤ b
  dj : ∀ b, D b → b ≠ q ∧ sv ≠ some b ∧ pv ≠ some b
  ok : MOk M
  apart : ∀ b, Y b → ¬ zM q sv pv D b
section
variable {w0 w w' : World} {p q : Nat} {S S' : St} {M M' : MS} {sv pv : Option Nat} {D Y Y' : Nat → Prop}
theorem InM.toY (h : InM w0 p S q M w sv pv D) : InY w0 p S q M w sv pv D fun _ => False :=
  ⟨h.fs.fewer fun b hb => hb.elim id False.elim, h.blk, h.segs, h.pars, h.base, h.D, h.ok, fun b hb => hb.elim⟩
theorem InY.more (h : InY w0 p S q M w sv pv D Y) (hb : Below w.heap.size w w') (hY : ∀ b, Y' b → Y b ∨ w.heap.size ≤ b ∧ b < w'.heap.size) : InY w0 p S q M w' sv pv D Y' := by
  have hlt := InZ.ltM h.fs
  refine ⟨h.fs.more hb fun b hb' => ?_, h.blk.below hb h.blk.lt, h.segs.keep (fun b hs => hb.block b (h.segs.lt b hs)) (fun _ _ h => h), h.pars.keep (fun b hs => hb.block b (h.pars.lt b hs)) (fun _ _ h => h.keep (keep_below hb)), h.base, h.dj, h.ok, fun b hb' hz => ?_⟩
  · rcases hb' with hb' | hb'
    · exact .inl (.inl hb')
    · rcases hY b hb' with h1 | h1
      · exact .inl (.inr h1)
      · exact .inr h1
  · rcases hY b hb' with h1 | h1
    · exact h.apart b h1 hz
    · have := hlt b (.inl hz); omega
theorem InY.below (h : InY w0 p S q M w sv pv D Y) (hb : Below w.heap.size w w') : InY w0 p S q M w' sv pv D Y := h.more hb fun b hb => .inl hb
theorem InY.op (h : InY w0 p S q M w sv pv D Y) (hz : InZ w0 p S' (fun b => zM q sv pv D b ∨ Y b) w') (hk : ∀ b, (zM q sv pv D b ∨ Y b) → w'.heap[b]? = w.heap[b]?) : InY w0 p S' q M w' sv pv D Y :=
  ⟨hz, (hk q (.inl (.inl rfl))).trans h.blk, h.segs.keep (fun b hs => hk b (.inl (.inr (.inl hs)))) (fun _ _ h => h), h.pars.keep (fun b hs => hk b (.inl (.inr (.inr (.inl hs))))) (fun _ _ h => h.keep fun b hb _ => ⟨hb, hk b (.inl (.inr (.inr (.inr hb))))⟩), h.base, h.dj, h.ok, h.apart⟩
theorem InY.turn (h : InY w0 p S q M w sv pv D Y) {k : Nat} (hk : Y k) (hk0 : w0.heap.size ≤ k) (hg : w.grownBy w' (some k)) : InY w0 p S q M w' sv pv D Y := by
  have hlt := InZ.ltM h.fs
  have hne : ∀ b, zM q sv pv D b → w'.heap[b]? = w.heap[b]? := fun b hb => hg.block b (hlt b (.inl hb)) (by intro e; cases e; exact h.apart _ hk hb)
  exact ⟨h.fs.turn (.inr hk) hk0 hg, (hne q (.inl rfl)).trans h.blk, h.segs.keep (fun b hs => hne b (.inr (.inl hs))) (fun _ _ h => h), h.pars.keep (fun b hs => hne b (.inr (.inr (.inl hs)))) (fun _ _ h => h.keep fun b hb _ => ⟨hb, hne b (.inr (.inr (.inr hb)))⟩), h.base, h.dj, h.ok, h.apart⟩
theorem InY.bel (h : InY w0 p S q M w sv pv D Y) : Below w0.heap.size w0 w := h.fs.bel
theorem InY.cells (h : InY w0 p S q M w sv pv D Y) : w.cell? ⟨q, 0, none⟩ = some (.pointer (some ⟨p, 0, none⟩)) ∧ w.cell? ⟨q, 1, none⟩ = some (.int .i64 M.next) ∧ w.cell? ⟨q, 2, none⟩ = some (.int .i64 M.seq) ∧ w.cell? ⟨q, 3, none⟩ = some (.map sv) ∧ w.cell? ⟨q, 4, none⟩ = some (.map pv) ∧ w.cell? ⟨q, 5, none⟩ = some (.bool false) :=
  ⟨h.blk.cell rfl, h.blk.cell rfl, h.blk.cell rfl, h.blk.cell rfl, h.blk.cell rfl, h.blk.cell rfl⟩
theorem InY.load1 (h : InY w0 p S q M w sv pv D Y) : (loadT (.pointer (some ⟨q, 1, none⟩))).run Tryz.prog w = .ok (.agg #[.int .i64 M.next, .int .i64 M.seq, .map sv, .map pv]) w :=
  run_loadT (cs := stL M sv pv) rfl fun j u hj => by
    have : (manL p M sv pv false)[1 + j]? = some u := by
      have hlt := (List.getElem?_eq_some_iff.1 hj).1
      simp [stL] at hlt
      rcases (show j = 0 ∨ j = 1 ∨ j = 2 ∨ j = 3 by omega) with rfl | rfl | rfl | rfl <;> simpa [stL, manL] using hj
    exact h.blk.cell this
theorem store1 {W : World} (hk : Blk W q 68 (manL p M sv pv false)) (M' : MS) (sv' pv' : Option Nat) :
    ∃ W2, (storeT (.pointer (some ⟨q, 1, none⟩)) (.agg #[.int .i64 M'.next, .int .i64 M'.seq, .map sv', .map pv'])).run Tryz.prog W = .ok () W2 ∧ Hid (Blk W2 q 68 (manL p M' sv' pv' false)) ∧ Hid (W.grownBy W2 (some q)) := by
  have := run_storeCells_at (P := Tryz.prog) q 1 68 (stL M' sv' pv') 0 (manL p M sv pv false).toArray W hk (by simp [manL, stL]) (stL_one M' sv' pv')
  refine ⟨_, ?_, Lib.hid (hk.setRow (manL p M' sv' pv' false)), Lib.hid ⟨rfl, rfl, rfl, by simp, fun k hk hne => setRow_other _ _ _ _ (by intro e; exact hne (by rw [e]))⟩⟩
  simp only [storeT, Instr.storeAt, Instr.sureAddr, storeVar, Sem.run_bind, Sem.run_pure, Result.andThen_ok, Tryz.sizeOf58]
  rw [if_neg (by simp [Value.cells])]
  exact this
set_option maxHeartbeats 2000000 in
theorem next_any (h : InY w0 p S q M w sv pv D Y) : Calls Tryz.prog 13 #[pP q] w fun r w' => r = .returned (.int .i64 M.next) ∧ w' = w := by
  obtain ⟨_, c1, _⟩ := h.cells
  clear h
  go_enter Tryz.func13, Tryz.ntmps13
  go_wp2_with fail
  go_ret
  exact ⟨rfl, rfl⟩
set_option maxHeartbeats 4000000 in
theorem segs_any (h : InY w0 p S q M w sv pv D Y) : Calls Tryz.prog 12 #[pP q] w fun r w' => ∃ a c, r = .returned (.slice a M.segs.length c) ∧ OwnD w.heap.size 40 6 segC w' (.slice a M.segs.length c) M.segs ∧ Below w.heap.size w w' := by
  obtain ⟨_, _, _, c3, _⟩ := h.cells
  have hs := ascRS sv M.segs w h.segs (mok_keyS h.ok) (by have := h.ok.sl; omega)
  clear h
  obtain ⟨n, hn⟩ : ∃ n, M.segs.length = n := ⟨_, rfl⟩
  rw [hn] at hs ⊢
  clear hn
  go_enter Tryz.func12, Tryz.ntmps12
  go_wp2_with fail
  refine hs.mono ?_
  rintro r w1 ⟨a, c, rfl, ho, hb⟩
  clear hs
  go_wp2_with fail
  go_ret
  exact ⟨a, c, rfl, ho, hb⟩
def ComPost (w0 : World) (p : Nat) (S' : St) (q : Nat) (M' : MS) (Y : Nat → Prop) (w : World) (r : Ending) (w' : World) : Prop :=
  r = .returned (.int .i64 0) ∧ ∃ sv pv D, Hid (InY w0 p S' q M' w' sv pv D Y) ∧ Hid (∀ b, Y b → w'.heap[b]? = w.heap[b]?)
attribute [local go_sem ↓] loadT_eq storeT_eq buildT_eq loadE_eq storeE_eq
set_option maxHeartbeats 16000000 in
theorem commit_ok {De : Nat → Prop} (e : ED) (z : ES) (h : InY w0 p S q M w sv pv D Y) (hT : Tab w0) (hz : z.In De w e) (hB : edB e = true) (hDe : ∀ b, De b → b < w.heap.size) (hc : S.calls ≤ 1099511627000) (hA : applyM M e false = some M') (hx : (extd S nmM.data.toList (encE e)).2 = 0) :
    Calls Tryz.prog 8 #[pP q, z.v e] w (ComPost w0 p (extd S nmM.data.toList (encE e)).1 q M' Y w) := by
  have hw : EdW e := hz.w
  have HYL : Hid (∀ b, Y b → b < w.heap.size) := Lib.hid fun b hb => InZ.ltM h.fs b (.inr hb)
  obtain ⟨w1, hw1⟩ : ∃ w1, w.alloc (.cells #[.int .i64 e.next, .int .i64 e.seq, .slice z.a1 e.adds.length z.c1, .slice z.a2 e.dels.length z.c2, .slice z.a3 e.pars.length z.c3, .slice z.a4 e.drops.length z.c4] 34) = w1 := ⟨_, rfl⟩
  have hk1 : Blk w1 w.heap.size 34 (z.L e) := by rw [← hw1]; exact Blk.new w _ _
  have hb1 : Below w.heap.size w w1 := by rw [← hw1]; exact (Below.refl _ _).alloc (Nat.le_refl _) _
  have h1 := h.below hb1
  have hz1 : z.In De w1 e := hz.keep (keep_below hb1)
  have HT : Hid (∀ W, Below w.heap.size w W → Tab W) := Lib.hid fun W hW => hT.below (h.bel.trans (hW.mono h.bel.size))
  have hen := encode_any e z.a1 z.c1 z.a2 z.c2 z.a3 z.c3 z.a4 z.c4 w1 (HT.out w1 hb1) hz1
  have hld1 := run_loadE_blk e hk1
  obtain ⟨_, _, _, _, _, c5⟩ := h1.cells
  have H1 := Lib.hid h1
  have HK1 := Lib.hid hk1
  have HZ1 := Lib.hid hz1
  have HB := Lib.hid hB
  have HW := Lib.hid hw
  have HB1 := Lib.hid hb1
  have HDe : Hid (∀ b, De b → b < w1.heap.size) := Lib.hid fun b hb => Nat.lt_of_lt_of_le (hDe b hb) hb1.size
  have HA := Lib.hid hA
  have HX := Lib.hid hx
  have HC := Lib.hid hc
  unfold ES.v
  clear hk1 hb1 h1 hz1 hB hw hDe hA hx hc hz h
  go_enter Tryz.func8, Tryz.ntmps8
  go_wp2_with fail
  refine hen.mono ?_
  rintro r w2 ⟨sp, n, cap, rfl, hn, ho, hb2⟩
  rw [(enc_good HB.out).2]
  have hI2 := H1.out.below hb2.out
  have hlT := hI2.load1
  have hlt2 := InZ.ltM hI2.fs
  have hcl := clone_any (D := D) M sv pv w2 hI2.segs hI2.pars ⟨by have := hI2.ok.sl; omega, by have := hI2.ok.pl; omega⟩ (fun b hb => hlt2 b (.inl (.inr (.inr (.inr hb)))))
  have HI2 := Lib.hid hI2
  have HN := Lib.hid hn
  clear hen hlt2 hI2 hn
  go_wp2_with fail
  refine hcl.mono ?_
  rintro r w3 ⟨s, t, rfl, hs2, ht2, hst, hms, hmp, hb3⟩
  obtain ⟨w4, hw4⟩ : ∃ w4, w3.alloc (.cells #[.int .i64 0, .int .i64 0, .map none, .map none] 58) = w4 := ⟨_, rfl⟩
  have hk4 : Blk w4 w3.heap.size 58 [.int .i64 0, .int .i64 0, .map none, .map none] := by rw [← hw4]; exact Blk.new w3 _ _
  have hb4 : Below w3.heap.size w3 w4 := by rw [← hw4]; exact (Below.refl _ _).alloc (Nat.le_refl _) _
  obtain ⟨w5, hst5, hk5, hg5⟩ := putT M (sv := some s) (pv := some t) hk4 rfl
  have hsl := hms.out.lt
  have htl := hmp.out.lt
  have hg35 : w3.grownBy w5 none := (gr_below hb4).andThen hg5.out (fun j hj => .inl (by cases hj; exact Nat.le_refl _))
  have hb35 : Below w3.heap.size w3 w5 := ⟨hg35.os, hg35.tape, hg35.output, hg35.size, fun b hb => hg35.block b hb (by simp)⟩
  have hb25 : Below w2.heap.size w2 w5 := Below.trans hb3.out (hb35.mono hb3.out.size)
  have hb15 : Below w1.heap.size w1 w5 := Below.trans hb2.out (hb25.mono hb2.out.size)
  obtain ⟨gs, hgs⟩ : ∃ gs, w3.heap.size = gs := ⟨_, rfl⟩
  have hlt2 := InZ.ltM HI2.out.fs
  have hsz12 := hb2.out.size
  have hsz23 := hb3.out.size
  have hsz35 := hb35.size
  have hkgs := hk5.out.lt
  rw [hgs] at hk5 hst5 hsl htl hkgs hsz23
  have hap := apply_any (D := D) (De := De) gs s t M e z false w5 ⟨hkgs, by omega, by omega, by omega, by omega, hst, (fun b hb => by
      have := hlt2 b (.inl (.inr (.inr (.inr hb))))
      refine ⟨by omega, ?_⟩
      rintro (rfl | rfl | rfl) <;> omega), (fun b hb => by
      have := HDe.out b hb
      refine ⟨by omega, ?_⟩
      rintro (rfl | rfl | rfl) <;> omega)⟩ hk5.out (hms.out.keep (hb35.block s (by omega)) fun _ _ h => h) (hmp.out.keep (hb35.block t (by omega)) fun _ _ h => h.keep (keep_below hb35)) (HZ1.out.keep (keep_below hb15)) HB.out ⟨by have := HI2.out.ok.sl; omega, by have := HI2.out.ok.pl; omega⟩
  have hld5 := run_loadE_blk e (HK1.out.below hb15 HK1.out.lt)
  have HSZ : Hid (w1.heap.size ≤ w2.heap.size ∧ w2.heap.size ≤ s ∧ s < gs ∧ w2.heap.size ≤ t ∧ t < gs ∧ gs < w5.heap.size ∧ s ≠ t) := Lib.hid ⟨hsz12, hs2, by omega, ht2, by omega, hkgs, hst⟩
  have HB25 := Lib.hid hb25
  unfold ES.v at hap
  clear hcl hms hmp hb3 hk4 hb4 hk5 hg5 hg35 hb35 hb25 hb15 hlt2 hsz12 hsz23 hsz35 hkgs hsl htl hst hld1 hs2 ht2
  go_wp2_with fail
  refine hap.mono ?_
  rintro r w6 ⟨hs6, ⟨M2, hA2, rfl, hk6, h61, h62⟩ | ⟨hA2, rfl⟩⟩
  · obtain rfl : M2 = M' := by rw [HA.out] at hA2; exact (Option.some.inj hA2).symm
    have hb26 : Below w2.heap.size w2 w6 := HB25.out.trans (hs6.below HB25.out.size fun b hb => by
      obtain ⟨x1, x2, x3, x4, x5, x6, x7⟩ := HSZ.out
      rcases hb with rfl | rfl | rfl <;> omega)
    have hI6 := HI2.out.below hb26
    obtain ⟨c0, _⟩ := hI6.cells
    have hb16 : Below w1.heap.size w1 w6 := Below.trans hb2.out (hb26.mono hb2.out.size)
    have hlt1 := InZ.ltM H1.out.fs
    have hD6 : ∀ b, TyD parTs w5.heap.size w6 b → b < w6.heap.size := fun b ⟨_, t, c, _, hc⟩ => hc.lt
    have hown := World.ownsRow.lt ho.out
    have hI6x : InZ w0 p S (fun b => (zM q sv pv D b ∨ Y b) ∨ (Value.slice sp n cap).ownBlock = some b ∨ b = gs ∨ b = s ∨ b = t ∨ TyD parTs w5.heap.size w6 b) w6 := H1.out.fs.more hb16 fun b hb => by
      obtain ⟨x1, x2, x3, x4, x5, x6, x7⟩ := HSZ.out
      have hsz := hb26.size
      have hk6l := hk6.lt
      rcases hb with hb | hb | rfl | rfl | rfl | hb
      · exact .inl hb
      · have := hown b hb; exact .inr ⟨this.1, by omega⟩
      · exact .inr ⟨by omega, hk6l⟩
      · exact .inr ⟨by omega, h61.lt⟩
      · exact .inr ⟨by omega, h62.lt⟩
      · exact .inr ⟨by have := hb.1; omega, hD6 b hb⟩
    have hxt := extend_any (S := S) nmM (.slice sp n cap) (encE e) hI6x (by decide) (by have := HC.out; omega) (fun W hW => by
      have h1 : W.ownsRow w1.heap.size 5 1 (.slice sp n cap) n (u8s (encE e)) := own_heapM (own_heapM ho.out fun b hb => hb26.block b (hown b hb).2) fun b hb => hW b (.inr (.inl hb))
      rw [← HN.out] at h1 ⊢
      exact isBytes_own (encE_lt e) h1) (Nat.le_trans (encE_len HW.out) (by omega))
    have HI6 := Lib.hid hI6
    have HK6 := Lib.hid hk6
    have H61 := Lib.hid h61
    have H62 := Lib.hid h62
    have HB16 := Lib.hid hb16
    have HLT1 := Lib.hid hlt1
    have HSB := Lib.hid hs6.size
    have HOKM := Lib.hid (applyM_ok HI2.out.ok HB.out HW.out hA2)
    obtain ⟨xx, hxx⟩ : ∃ xx, extd S nmM.data.toList (encE e) = xx := ⟨_, rfl⟩
    have HXX := Lib.hid hxx
    rw [hxx] at hxt HX
    obtain ⟨S2, c2⟩ := xx
    have hc2 : c2 = 0 := HX.out
    subst hc2
    unfold nmM at hxt
    clear hap hs6 hA2 hk6 h61 h62 hb26 hI6 hb16 hlt1 hD6 hown hI6x hld5 hst5 hxx hlT
    go_wp2_with fail
    refine hxt.mono ?_
    rintro r w7 ⟨rfl, hz7, hh7⟩
    unfold errV
    have hk7 : Blk w7 gs 58 (stL M2 (some s) (some t)) := (hh7 gs (.inr (.inr (.inl rfl)))).trans HK6.out
    have hldT := run_loadT_blk M2 hk7
    have hq7 : Blk w7 q 68 (manL p M sv pv false) := (hh7 q (.inl (.inl (.inl rfl)))).trans HI6.out.blk
    obtain ⟨w8, hst8, hk8, hg8⟩ := store1 hq7 M2 (some s) (some t)
    have hfin : InY w0 p S2 q M2 w8 (some s) (some t) (ParD D w5.heap.size w6) Y ∧ ∀ b, Y b → w8.heap[b]? = w.heap[b]? := by
      obtain ⟨x1, x2, x3, x4, x5, x6, x7⟩ := HSZ.out
      have hlt1 := HLT1.out
      have hq1 := hlt1 q (.inl (.inl rfl))
      have hb0 := H1.out.base
      have hq0 := hb0 q (.inl rfl)
      have h56 := HSB.out
      have hz8 := InZ.turn hz7 (k := q) (.inl (.inl (.inl rfl))) hq0 hg8.out
      have hlt7 := InZ.ltM hz7
      have hs8 : ∀ b, b ≠ q → ((zM q sv pv D b ∨ Y b) ∨ (Value.slice sp n cap).ownBlock = some b ∨ b = gs ∨ b = s ∨ b = t ∨ TyD parTs w5.heap.size w6 b) → w8.heap[b]? = w6.heap[b]? := fun b hne hb => (hg8.out.block b (hlt7 b hb) (by simpa using hne)).trans (hh7 b hb)
      have hsq : s ≠ q := by omega
      have htq : t ≠ q := by omega
      refine ⟨⟨hz8.fewer ?_, hk8.out, .inr ⟨s, rfl, H61.out.keep (hs8 s hsq (.inr (.inr (.inr (.inl rfl))))) fun _ _ h => h⟩, .inr ⟨t, rfl, H62.out.keep (hs8 t htq (.inr (.inr (.inr (.inr (.inl rfl)))))) fun _ _ h => h.keep ?_⟩, ?_, ?_, HOKM.out, ?_⟩, ?_⟩
      · rintro b ((rfl | hb | hb | hb | hb) | hb)
        · exact .inl (.inl (.inl rfl))
        · cases hb; exact .inr (.inr (.inr (.inl rfl)))
        · cases hb; exact .inr (.inr (.inr (.inr (.inl rfl))))
        · exact .inl (.inl (.inr (.inr (.inr hb))))
        · exact .inr (.inr (.inr (.inr (.inr hb))))
        · exact .inl (.inr hb)
      · intro b hb hl
        refine ⟨hb, ?_⟩
        rcases hb with hb | hb
        · exact hs8 b (H1.out.dj b hb).1 (.inl (.inl (.inr (.inr (.inr hb)))))
        · exact hs8 b (by have := hb.1; omega) (.inr (.inr (.inr (.inr (.inr hb)))))
      · rintro b (rfl | hb | hb | hb | hb)
        · exact hq0
        · cases hb; omega
        · cases hb; omega
        · exact hb0 b (.inr (.inr (.inr hb)))
        · have := hb.1; omega
      · rintro b (hb | hb)
        · have h1 := hlt1 b (.inl (.inr (.inr (.inr hb))))
          exact ⟨(H1.out.dj b hb).1, by simp; omega, by simp; omega⟩
        · have h1 := hb.1
          exact ⟨by omega, by simp; omega, by simp; omega⟩
      · intro b hb
        have h1 := hlt1 b (.inr hb)
        have h2 := H1.out.apart b hb
        rintro (rfl | hb' | hb' | hb' | hb')
        · exact h2 (.inl rfl)
        · cases hb'; omega
        · cases hb'; omega
        · exact h2 (.inr (.inr (.inr hb')))
        · have := hb'.1; omega
      · intro b hb
        have h1 := hlt1 b (.inr hb)
        have h2 := H1.out.apart b hb
        have h3 : b ≠ q := fun e => h2 (.inl e)
        have h4 := HYL.out b hb
        exact (hs8 b h3 (.inl (.inr hb))).trans ((HB16.out.block b h1).trans (HB1.out.block b h4))
    have HF := Lib.hid hfin.1
    have HFY := Lib.hid hfin.2
    clear hxt hz7 hh7 hk7 hq7 hk8 hg8 hfin
    go_wp2_with fail
    go_ret
    unfold ComPost
    rw [HXX.out]
    exact ⟨rfl, some s, some t, _, HF, HFY⟩
  · rw [HA.out] at hA2
    cases hA2
end
end Go.Proofs.YthgpdnffahmhjaaGreatDoor.S19

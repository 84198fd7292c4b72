/- Texts put together: MaA. -/
import Derived.Test.YthgpdnffahmhjaaGreatDoorMg25
import Derived.Test.YthgpdnffahmhjaaGreatDoorMg35
set_option linter.unusedSimpArgs false
set_option linter.unusedVariables false
set_option maxRecDepth 100000
namespace Go.Proofs.YthgpdnffahmhjaaGreatDoor.S19
open Go.RowKit Go.Maps Go.Shelf Go.Sort S18 S13
structure ES where
  a1 : Option Addr
  c1 : Nat
  a2 : Option Addr
  c2 : Nat
  a3 : Option Addr
  c3 : Nat
  a4 : Option Addr
  c4 : Nat
def ES.L (z : ES) (e : ED) : List Value := edL e z.a1 z.c1 z.a2 z.c2 z.a3 z.c3 z.a4 z.c4
def ES.In (z : ES) (De : Nat → Prop) (w : World) (e : ED) : Prop := EdIn De w e z.a1 z.c1 z.a2 z.c2 z.a3 z.c3 z.a4 z.c4
def ES.v (z : ES) (e : ED) : Value := .agg #[.int .i64 e.next, .int .i64 e.seq, .slice z.a1 e.adds.length z.c1, .slice z.a2 e.dels.length z.c2, .slice z.a3 e.pars.length z.c3, .slice z.a4 e.drops.length z.c4]
def X3 (g s p b : Nat) : Prop := b = g ∨ b = s ∨ b = p
structure SD (w : World) (g s p : Nat) (z : ES) (e : ED) (W : World) : Prop where
  step : Step w W (X3 g s p) (X3 g s p)
  st : ∃ nx sq, Blk W g 58 (stL ⟨nx, sq, [], []⟩ (some s) (some p))
  ed : Blk W w.heap.size 34 (z.L e)
structure AI (w : World) (D De : Nat → Prop) (g s p : Nat) (z : ES) (e : ED) (W : World) (nx sq : Int) (A : List SG) (B : List PT) : Prop where
  step : Step w W (X3 g s p) (X3 g s p)
  st : Blk W g 58 (stL ⟨nx, sq, A, B⟩ (some s) (some p))
  ed : Blk W w.heap.size 34 (z.L e)
  ein : z.In De W e
  segs : MapR SG.num 6 segC W s A
  pars : MapR PT.group 5 (parC (ParD D w.heap.size W) W) W p B
structure AC (w : World) (D De : Nat → Prop) (g s p : Nat) : Prop where
  lg : g < w.heap.size
  ls : s < w.heap.size
  lp : p < w.heap.size
  gs : g ≠ s
  gp : g ≠ p
  sp : s ≠ p
  hD : ∀ b, D b → b < w.heap.size ∧ ¬ X3 g s p b
  hDe : ∀ b, De b → b < w.heap.size ∧ ¬ X3 g s p b
section
variable {w W W' : World} {D De : Nat → Prop} {g s p : Nat} {z : ES} {e : ED} {nx sq : Int} {A : List SG} {B : List PT}
theorem AI.sd (h : AI w D De g s p z e W nx sq A B) : SD w g s p z e W := ⟨h.step, ⟨nx, sq, h.st⟩, h.ed⟩
theorem step_gr (hs : Step w W (X3 g s p) (X3 g s p)) {r : Nat} (hg : W.grownBy W' (some r)) (hr : X3 g s p r) : Step w W' (X3 g s p) (X3 g s p) :=
  hs.trans (Step.ofGrown hg fun b hb => by cases hb; exact .inl hr)
theorem step_below (hs : Step w W (X3 g s p) (X3 g s p)) (hb : Below W.heap.size W W') : Step w W' (X3 g s p) (X3 g s p) := hs.trans (Step.ofBelow hb _)
theorem keepDe (hc : AC w D De g s p) (hs : Step w W (X3 g s p) (X3 g s p)) {r : Nat} (hg : W.grownBy W' (some r)) (hr : X3 g s p r) : Keep De De W W' :=
  keep_gr hg fun b hb _ => ⟨hb, by simp; rintro rfl; exact (hc.hDe b hb).2 hr⟩
theorem keepPar (hc : AC w D De g s p) (hb : Below W.heap.size W W') : Keep (ParD D w.heap.size W) (ParD D w.heap.size W') W W' := by
  intro b hb' hl
  refine ⟨?_, hb.block b hl⟩
  rcases hb' with hb' | ⟨h1, t, c, ht, hk⟩
  · exact .inl hb'
  · exact .inr ⟨h1, t, c, ht, hk.below hb hl⟩
theorem AI.turn (hc : AC w D De g s p) (h : AI w D De g s p z e W nx sq A B) (hg : W.grownBy W' (some g)) {nx' sq' : Int} (hk : Blk W' g 58 (stL ⟨nx', sq', A, B⟩ (some s) (some p))) : AI w D De g s p z e W' nx' sq' A B := by
  have hsz := h.step.size
  refine ⟨step_gr h.step hg (.inl rfl), hk, h.ed.grown hg (by have := hc.lg; simp; omega), h.ein.keep (keepDe hc h.step hg (.inl rfl)), h.segs.keep (hg.block s (by have := hc.ls; omega) (by have := hc.gs; simp; omega)) fun _ _ h => h, ?_⟩
  refine h.pars.keep (hg.block p (by have := hc.lp; omega) (by have := hc.gp; simp; omega)) fun _ _ hq => hq.keep ?_
  intro b hb hl
  have hne : b ≠ g := by
    rintro rfl
    rcases hb with hb | ⟨h1, _⟩
    · exact (hc.hD _ hb).2 (.inl rfl)
    · have := hc.lg; omega
  have hne' : some b ≠ some g := by simpa using hne
  refine ⟨?_, hg.block b hl hne'⟩
  rcases hb with hb | ⟨h1, t, c, ht, hk⟩
  · exact .inl hb
  · exact .inr ⟨h1, t, c, ht, hk.grown hg hne'⟩
theorem SD.turn (hc : AC w D De g s p) (h : SD w g s p z e W) {r : Nat} (hg : W.grownBy W' (some r)) (hr : r = s ∨ r = p) : SD w g s p z e W' := by
  obtain ⟨hs, ⟨n, q, hk⟩, hed⟩ := h
  have hlt : r < w.heap.size ∧ r ≠ g := by
    rcases hr with rfl | rfl
    · exact ⟨hc.ls, fun e => hc.gs e.symm⟩
    · exact ⟨hc.lp, fun e => hc.gp e.symm⟩
  exact ⟨step_gr hs hg (.inr hr), ⟨n, q, hk.grown hg (by simp; omega)⟩, hed.grown hg (by simp; omega)⟩
theorem AI.turnS (hc : AC w D De g s p) (h : AI w D De g s p z e W nx sq A B) (hg : W.grownBy W' (some s)) {A' : List SG} (hk : MapR SG.num 6 segC W' s A') : AI w D De g s p z e W' nx sq A' B := by
  have hsz := h.step.size
  obtain ⟨M, _, _, _, hm⟩ := h.segs
  refine ⟨step_gr h.step hg (.inr (.inl rfl)), h.st.grown hg (by have := hc.gs; simp; omega), h.ed.grown hg (by have := hc.ls; simp; omega), h.ein.keep (keepDe hc h.step hg (.inr (.inl rfl))), hk, ?_⟩
  exact h.pars.keep (hg.block p (by have := hc.lp; omega) (by have := hc.sp; simp; omega)) fun _ _ hq => hq.keep (keep_par hg (fun b hb e => (hc.hD b hb).2 (.inr (.inl e))) (map_blk hm))
theorem AI.turnP (hc : AC w D De g s p) (h : AI w D De g s p z e W nx sq A B) (hg : W.grownBy W' (some p)) {B' : List PT} (hk : MapR PT.group 5 (parC (ParD D w.heap.size W') W') W' p B') : AI w D De g s p z e W' nx sq A B' := by
  have hsz := h.step.size
  exact ⟨step_gr h.step hg (.inr (.inr rfl)), h.st.grown hg (by have := hc.gp; simp; omega), h.ed.grown hg (by have := hc.lp; simp; omega), h.ein.keep (keepDe hc h.step hg (.inr (.inr rfl))), h.segs.keep (hg.block s (by have := hc.ls; omega) (by have := hc.sp; simp; omega)) (fun _ _ h => h), hk⟩
theorem AI.raise0 (hc : AC w D De g s p) (h : AI w D De g s p z e W nx sq A B) : Calls Tryz.prog 45 #[.pointer (some ⟨g, 0, none⟩), .int .i64 e.next] W fun r W' => r = .returned (.bool (upOk nx e.next)) ∧ AI w D De g s p z e W' (upC nx e.next) sq A B :=
  (S19.raise0 g ⟨nx, sq, A, B⟩ (some s) (some p) e.next W h.st).mono fun r W' h' => ⟨h'.1, h.turn hc h'.2.2 h'.2.1⟩
theorem AI.raise1 (hc : AC w D De g s p) (h : AI w D De g s p z e W nx sq A B) : Calls Tryz.prog 45 #[.pointer (some ⟨g, 1, none⟩), .int .i64 e.seq] W fun r W' => r = .returned (.bool (upOk sq e.seq)) ∧ AI w D De g s p z e W' nx (upC sq e.seq) A B :=
  (S19.raise1 g ⟨nx, sq, A, B⟩ (some s) (some p) e.seq W h.st).mono fun r W' h' => ⟨h'.1, h.turn hc h'.2.2 h'.2.1⟩
theorem AI.remS (hc : AC w D De g s p) (h : AI w D De g s p z e W nx sq A B) (hB : edB e = true) : Calls Tryz.prog 46 #[.map (some s), .slice z.a2 e.dels.length z.c2] W fun r W' => (∃ A', remK SG.num A e.dels = some A' ∧ r = .returned (.bool true) ∧ AI w D De g s p z e W' nx sq A' B) ∨ (remK SG.num A e.dels = none ∧ r = .returned (.bool false) ∧ SD w g s p z e W') := by
  rw [edB_iff] at hB
  obtain ⟨_, _, _, h4, _, _⟩ := hB
  rw [allB_iff] at h4
  have hcopy := h.segs
  obtain ⟨M, hA, hR, hM, hm⟩ := hcopy
  refine (S19.remS (D := De) s z.a2 z.c2 M e.dels W hm h.ein.dels (fun x hx => inB_iff.1 (numB_in (h4.2 x hx))) (by omega) (fun b hb e => (hc.hDe b hb).2 (.inr (.inl e))) hM).mono ?_
  rintro r W' ⟨hg, ⟨M', hr, rfl, hm'⟩ | ⟨hr, rfl⟩⟩
  · have hmap := remK_map SG.num (fun y : SG × List Value => y.1) M e.dels
    rw [show remK (fun y : SG × List Value => SG.num y.1) M e.dels = some M' from hr, hA] at hmap
    exact .inl ⟨_, hmap.symm, rfl, h.turnS hc hg ⟨M', rfl, fun x hx => hR x (remK_mem _ hr x hx), fun x hx => hM x (remK_mem _ hr x hx), hm'⟩⟩
  · have hmap := remK_map SG.num (fun y : SG × List Value => y.1) M e.dels
    rw [show remK (fun y : SG × List Value => SG.num y.1) M e.dels = none from hr, hA] at hmap
    exact .inr ⟨hmap.symm, rfl, h.sd.turn hc hg (.inl rfl)⟩
theorem AI.remP (hc : AC w D De g s p) (h : AI w D De g s p z e W nx sq A B) (hB : edB e = true) : Calls Tryz.prog 47 #[.map (some p), .slice z.a4 e.drops.length z.c4] W fun r W' => (∃ B', remK PT.group B e.drops = some B' ∧ r = .returned (.bool true) ∧ AI w D De g s p z e W' nx sq A B') ∨ (remK PT.group B e.drops = none ∧ r = .returned (.bool false) ∧ SD w g s p z e W') := by
  rw [edB_iff] at hB
  obtain ⟨_, _, _, _, _, h4⟩ := hB
  rw [allB_iff] at h4
  have hcopy := h.pars
  obtain ⟨M, hA, hR, hM, hm⟩ := hcopy
  refine (S19.remP (D := De) p z.a4 z.c4 M e.drops W hm h.ein.drops (fun x hx => inB_iff.1 (numB_in (h4.2 x hx))) (by omega) (fun b hb e => (hc.hDe b hb).2 (.inr (.inr e))) hM).mono ?_
  rintro r W' ⟨hg, ⟨M', hr, rfl, hm'⟩ | ⟨hr, rfl⟩⟩
  · have hmap := remK_map PT.group (fun y : PT × List Value => y.1) M e.drops
    rw [show remK (fun y : PT × List Value => PT.group y.1) M e.drops = some M' from hr, hA] at hmap
    exact .inl ⟨_, hmap.symm, rfl, h.turnP hc hg ⟨M', rfl, fun x hx => (hR x (remK_mem _ hr x hx)).keep (keep_par hg (fun b hb e => (hc.hD b hb).2 (.inr (.inr e))) (map_blk hm)), fun x hx => hM x (remK_mem _ hr x hx), hm'⟩⟩
  · have hmap := remK_map PT.group (fun y : PT × List Value => y.1) M e.drops
    rw [show remK (fun y : PT × List Value => PT.group y.1) M e.drops = none from hr, hA] at hmap
    exact .inr ⟨hmap.symm, rfl, h.sd.turn hc hg (.inr rfl)⟩
theorem AI.addS (hc : AC w D De g s p) (h : AI w D De g s p z e W nx sq A B) (hB : edB e = true) (hl : A.length ≤ 1000) : Calls Tryz.prog 48 #[.pointer (some ⟨g, 0, none⟩), .slice z.a1 e.adds.length z.c1] W fun r W' => (∃ A', addK SG.num nx A e.adds = some A' ∧ r = .returned (.bool true) ∧ AI w D De g s p z e W' nx sq A' B) ∨ (addK SG.num nx A e.adds = none ∧ r = .returned (.bool false) ∧ SD w g s p z e W') := by
  rw [edB_iff] at hB
  obtain ⟨_, _, h3, _, _, _⟩ := hB
  rw [allB_iff] at h3
  refine (addSegs_any (D := De) (De := De) g s ⟨nx, sq, A, B⟩ (some p) z.a1 z.c1 A e.adds W h.st h.segs h.ein.adds (fun x hx => by
    have := h3.2 x hx
    unfold segB at this
    simp only [Bool.and_eq_true] at this
    exact inB_iff.1 (numB_in this.1.1.1)) (by omega) (fun b hb e => (hc.hDe b hb).2 (.inr (.inl e))) (fun b hb e => (hc.hDe b hb).2 (.inr (.inl e)))).mono ?_
  rintro r W' ⟨hg, ⟨A', hr, rfl, hm'⟩ | ⟨hr, rfl⟩⟩
  · exact .inl ⟨A', hr, rfl, h.turnS hc hg hm'⟩
  · exact .inr ⟨hr, rfl, h.sd.turn hc hg (.inl rfl)⟩
theorem AI.addP (hc : AC w D De g s p) (h : AI w D De g s p z e W nx sq A B) (hB : edB e = true) (hl : B.length ≤ 1000) : Calls Tryz.prog 49 #[.pointer (some ⟨g, 0, none⟩), .slice z.a3 e.pars.length z.c3] W fun r W' => (∃ B', addK PT.group nx B e.pars = some B' ∧ r = .returned (.bool true) ∧ AI w D De g s p z e W' nx sq A B') ∨ (addK PT.group nx B e.pars = none ∧ r = .returned (.bool false) ∧ SD w g s p z e W') := by
  rw [edB_iff] at hB
  obtain ⟨_, _, _, _, h3, _⟩ := hB
  rw [allB_iff] at h3
  have hD2 : ∀ b, ParD D w.heap.size W b → b ≠ p := by
    rintro b (hb | ⟨h1, _⟩) rfl
    · exact (hc.hD b hb).2 (.inr (.inr rfl))
    · have := hc.lp; omega
  refine (addPars_any (D := ParD D w.heap.size W) (De := De) g p ⟨nx, sq, A, B⟩ (some s) z.a3 z.c3 B e.pars W h.st h.pars h.ein.pars (fun x hx => by
    have := h3.2 x hx
    rw [parB_iff] at this
    obtain ⟨h1, _, _, h4, h5, _⟩ := this
    have := inB_iff.1 (numB_in h1)
    exact ⟨this.1, this.2, by omega, by omega⟩) (by omega) (fun b hb e => (hc.hDe b hb).2 (.inr (.inr e))) hD2).mono ?_
  rintro r W' ⟨hg, ⟨B', hr, rfl, hm'⟩ | ⟨hr, rfl⟩⟩
  · refine .inl ⟨B', hr, rfl, h.turnP hc hg (hm'.keep rfl fun x c hx => hx.keep (keep_weak fun b hb _ => ?_))⟩
    rcases hb with (hb | ⟨h1, t, c, ht, hk⟩) | ⟨h1, t, c, ht, hk⟩
    · exact .inl hb
    · by_cases hlt : b < W.heap.size
      · exact .inr ⟨h1, t, c, ht, hk.grown hg (by have := hc.lp; simp; omega)⟩
      · exact absurd hk.lt hlt
    · exact .inr ⟨Nat.le_trans h.step.size h1, t, c, ht, hk⟩
  · exact .inr ⟨hr, rfl, h.sd.turn hc hg (.inr rfl)⟩
theorem AI.prot (hc : AC w D De g s p) (h : AI w D De g s p z e W nx sq A B) (hB : edB e = true) : Calls Tryz.prog 50 #[.pointer (some ⟨g, 0, none⟩), .slice z.a3 e.pars.length z.c3] W fun r W' => r = .returned (.bool (protB A e.pars)) ∧ AI w D De g s p z e W' nx sq A B := by
  rw [edB_iff] at hB
  obtain ⟨_, _, _, _, h3, _⟩ := hB
  rw [allB_iff] at h3
  refine (protects_any (De := De) g s ⟨nx, sq, A, B⟩ (some p) z.a3 z.c3 A e.pars W h.st h.segs h.ein.pars (fun x hx n hn => by
    have := h3.2 x hx
    rw [parB_iff] at this
    exact inB_iff.1 (numB_in (parK_nums this.2.2.2.2.2 n hn)))).mono ?_
  rintro r W' ⟨rfl, hb⟩
  exact ⟨rfl, step_below h.step hb, h.st.below hb h.st.lt, h.ed.below hb h.ed.lt, h.ein.keep (keep_below hb), h.segs.keep (hb.block s h.segs.lt) (fun _ _ h => h), h.pars.keep (hb.block p h.pars.lt) fun _ _ hq => hq.keep (keepPar hc hb)⟩
end
end Go.Proofs.YthgpdnffahmhjaaGreatDoor.S19

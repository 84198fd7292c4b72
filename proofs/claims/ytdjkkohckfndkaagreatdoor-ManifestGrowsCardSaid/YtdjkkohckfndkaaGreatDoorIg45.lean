/- Texts put together: MaT, MaGa. -/
import Derived.Test.YtdjkkohckfndkaaGreatDoorIg42
import Derived.Test.YtdjkkohckfndkaaGreatDoorIg44
set_option linter.unusedSimpArgs false
set_option linter.unusedVariables false
set_option maxRecDepth 100000
namespace Go.Proofs.YtdjkkohckfndkaaGreatDoor.S19
open Go.RowKit Go.Maps Go.Shelf Go.Sort S18 S13 S13.Dk S15 S3
theorem names_any {R : PT → List Value → Prop} (P : Int → ByteArray → Prop) (M : MS) (sv pv : Option Nat) (w : World) (hs : MapO SG.num 6 segC w sv M.segs) (hp : MapO PT.group 5 R w pv M.pars) (h0 : M.pars = []) (hF : ∀ s ∈ M.segs, FmtP P s.num) (hL : M.segs.length ≤ 1000) :
    Calls Tryz.prog 72 #[.agg #[.int .i64 M.next, .int .i64 M.seq, .map sv, .map pv]] w (NamesPost P M.segs w) := by
  rw [h0] at hp
  have hp' : pv = none ∨ ∃ bp, pv = some bp ∧ MapC PT.group w bp ([] : List (PT × List Value)) := by
    rcases hp with ⟨rfl, _⟩ | ⟨bp, rfl, M', h1, _, _, h4⟩
    · exact .inl rfl
    · obtain rfl : M' = [] := List.map_eq_nil_iff.1 h1
      exact .inr ⟨bp, rfl, h4⟩
  rcases hs with ⟨rfl, e⟩ | ⟨b, rfl, M', h1, h2, h3, h4⟩
  · rw [e]
    rcases hp' with rfl | ⟨bp, rfl, hb⟩
    · exact names_nn P M.next M.seq w
    · exact names_ns P bp M.next M.seq w hb
  · rw [← h1] at hF hL ⊢
    have hF' : ∀ x ∈ M', FmtP P x.1.num := fun x hx => hF _ (List.mem_map_of_mem hx)
    rw [List.length_map] at hL
    rcases hp' with rfl | ⟨bp, rfl, hb⟩
    · exact names_sn P b M' M.next M.seq w h4 h3 h2 hF' hL
    · exact names_ss P b M' bp M.next M.seq w h4 h3 h2 hF' hL hb
section
variable {w0 w w' : World} {p q : Nat} {S S' : St} {M M' : MS} {sv pv : Option Nat} {D Y Y' : Nat → Prop}
theorem InY.stay (h : InY w0 p S q M w sv pv D Y) : InY w0 p S q M (w.setCell ⟨q, 5, none⟩ (.bool false)) sv pv D Y := by
  have hg : w.grownBy (w.setCell ⟨q, 5, none⟩ (.bool false)) (some q) := Gr.setCell (Gr.refl _ _) _ _
  have hlt := InZ.ltM h.fs
  have ho : ∀ b, b ≠ q → b < w.heap.size → (w.setCell ⟨q, 5, none⟩ (.bool false)).heap[b]? = w.heap[b]? := fun b hb hl => hg.block b hl (by simp; omega)
  have hsn := h.segs.not_blk h.blk
  have hpn := h.pars.not_blk h.blk
  exact ⟨InZ.turn h.fs (k := q) (.inl (.inl rfl)) (h.base q (.inl rfl)) hg, h.blk.set 5 (.bool false), h.segs.keep (fun b hs => ho b (fun e => hsn (by rw [hs, e])) (h.segs.lt b hs)) (fun _ _ h => h),
    h.pars.keep (fun b hs => ho b (fun e => hpn (by rw [hs, e])) (h.pars.lt b hs)) (fun _ _ h2 => h2.keep fun b hb hl => ⟨hb, ho b (h.dj b hb).1 hl⟩), h.base, h.dj, h.ok, h.apart⟩
attribute [local go_sem ↓] loadT_eq storeT_eq buildT_eq
set_option maxHeartbeats 16000000 in
theorem rewrite_ok (h : InY w0 p S q M w sv pv D Y) (hT : Tab w0) (hc : S.calls ≤ 1099511627000) (hr : (rewr S nmN.data.toList nmM.data.toList (encE (wholeM M))).2 = 0) :
    Calls Tryz.prog 28 #[pP q] w fun r w' => r = .returned (.int .i64 0) ∧ Hid (InY w0 p (rewr S nmN.data.toList nmM.data.toList (encE (wholeM M))).1 q M w' sv pv D Y) ∧ Hid (∀ b, Y b → w'.heap[b]? = w.heap[b]?) := by
  obtain ⟨_, _, _, _, _, c5⟩ := h.cells
  have hd := h.below (Below.refl _ _).drew
  have hlt := InZ.ltM hd.fs
  have hrw := rewriteM_any (D := D) M sv pv w.drew hd.fs hT hd.segs hd.pars hd.ok (fun b hb => hlt b (.inl (.inr (.inr (.inr hb))))) hc (Nat.le_trans (encE_len (whole_ok h.ok).2) (by omega))
  have HCQ : Hid (∀ W : World, W.heap[q]? = w.heap[q]? → W.cell? ⟨q, 0, none⟩ = some (.pointer (some ⟨p, 0, none⟩)) ∧ (loadT (.pointer (some ⟨q, 1, none⟩))).run Tryz.prog W = .ok (.agg #[.int .i64 M.next, .int .i64 M.seq, .map sv, .map pv]) W) := Lib.hid fun W hW => by
    have hb : Blk W q 120 (manL p M sv pv false) := hW.trans h.blk
    refine ⟨hb.cell rfl, run_loadT (cs := stL M sv pv) rfl fun j u hj => ?_⟩
    have : (manL p M sv pv false)[1 + j]? = some u := by
      have hlt := (List.getElem?_eq_some_iff.1 hj).1
      simp [stL] at hlt
      rcases (show j = 0 ∨ j = 1 ∨ j = 2 ∨ j = 3 by omega) with rfl | rfl | rfl | rfl <;> simpa [stL, manL] using hj
    exact hb.cell this
  have H := Lib.hid h
  have hHeld : w.drew.heap[q]? = w.heap[q]? := rfl
  obtain ⟨rr, hrr⟩ : ∃ rr, rewr S nmN.data.toList nmM.data.toList (encE (wholeM M)) = rr := ⟨_, rfl⟩
  rw [hrr] at hrw hr ⊢
  obtain ⟨S2, cc⟩ := rr
  simp only at hr ⊢
  subst hr
  clear h hd hlt hT hc hrr
  go_enter Tryz.func28, Tryz.ntmps28
  go_wp2_with fail
  refine wp_region_noPanic ?_
  refine wpAnyH_start (n := 10) (l := #[false, false, false, false, false, false, false, false, false, false]) (S := fun W => W.heap[q]? = w.heap[q]?) (by kernel_rfl) (hHeld) (by kernel_rfl) (by kernel_rfl) ?_
  refine wpAnyH_take (i := 0) (oi := _) (v := ?_) rfl (by kernel_rfl) (by kernel_rfl) (by kernel_rfl) (fun _ _ _ h => h) (Or.inl ⟨by rfl, ?_⟩) (by assumption) ?_
  rotate_left
  · intro wq hSw; go_simp; try with_reducible rfl
  simp only [Act.put, List.setIfInBounds_toArray, List.set_cons_zero, List.set_cons_succ, List.getElem_toArray, List.getElem_cons_zero, List.getElem_cons_succ]
  refine wpAnyH_take (i := 1) (oi := _) (v := ?_) rfl (by kernel_rfl) (by kernel_rfl) (by kernel_rfl) (fun _ _ _ h => h) (Or.inl ⟨by rfl, ?_⟩) (by assumption) ?_
  rotate_left
  · intro wq hSw; go_simp; try with_reducible rfl
  simp only [Act.put, List.setIfInBounds_toArray, List.set_cons_zero, List.set_cons_succ, List.getElem_toArray, List.getElem_cons_zero, List.getElem_cons_succ]
  refine wpAnyH_take (i := 2) (oi := _) (v := ?_) rfl (by kernel_rfl) (by kernel_rfl) (by kernel_rfl) (fun _ _ _ h => h) (Or.inl ⟨by rfl, ?_⟩) (by assumption) ?_
  rotate_left
  · intro wq hSw; go_simp; try with_reducible rfl
  simp only [Act.put, List.setIfInBounds_toArray, List.set_cons_zero, List.set_cons_succ, List.getElem_toArray, List.getElem_cons_zero, List.getElem_cons_succ]
  refine wpAnyH_take (i := 3) (oi := _) (v := ?_) rfl (by kernel_rfl) (by kernel_rfl) (by kernel_rfl) (fun _ _ _ h => h) (Or.inl ⟨by rfl, ?_⟩) (by assumption) ?_
  rotate_left
  · intro wq hSw; have cq := (HCQ.out wq hSw).1; go_simp; try with_reducible rfl
  simp only [Act.put, List.setIfInBounds_toArray, List.set_cons_zero, List.set_cons_succ, List.getElem_toArray, List.getElem_cons_zero, List.getElem_cons_succ]
  refine wpAnyH_take (i := 4) (oi := _) (v := ?_) rfl (by kernel_rfl) (by kernel_rfl) (by kernel_rfl) (fun _ _ _ h => h) (Or.inl ⟨by rfl, ?_⟩) (by assumption) ?_
  rotate_left
  · intro wq hSw; go_simp; try with_reducible rfl
  simp only [Act.put, List.setIfInBounds_toArray, List.set_cons_zero, List.set_cons_succ, List.getElem_toArray, List.getElem_cons_zero, List.getElem_cons_succ]
  refine wpAnyH_take (i := 5) (oi := _) (v := ?_) rfl (by kernel_rfl) (by kernel_rfl) (by kernel_rfl) (fun _ _ _ h => h) (Or.inl ⟨by rfl, ?_⟩) (by assumption) ?_
  rotate_left
  · intro wq hSw; go_simp; try with_reducible rfl
  simp only [Act.put, List.setIfInBounds_toArray, List.set_cons_zero, List.set_cons_succ, List.getElem_toArray, List.getElem_cons_zero, List.getElem_cons_succ]
  refine wpAnyH_take (i := 6) (oi := _) (v := ?_) rfl (by kernel_rfl) (by kernel_rfl) (by kernel_rfl) (fun _ _ _ h => h) (Or.inl ⟨by rfl, ?_⟩) (by assumption) ?_
  rotate_left
  · intro wq hSw; go_simp; try with_reducible rfl
  simp only [Act.put, List.setIfInBounds_toArray, List.set_cons_zero, List.set_cons_succ, List.getElem_toArray, List.getElem_cons_zero, List.getElem_cons_succ]
  refine wpAnyH_take (i := 7) (oi := _) (v := ?_) rfl (by kernel_rfl) (by kernel_rfl) (by kernel_rfl) (fun _ _ _ h => h) (Or.inl ⟨by rfl, ?_⟩) (by assumption) ?_
  rotate_left
  · intro wq hSw; have cq := (HCQ.out wq hSw).2; go_simp; try with_reducible rfl
  simp only [Act.put, List.setIfInBounds_toArray, List.set_cons_zero, List.set_cons_succ, List.getElem_toArray, List.getElem_cons_zero, List.getElem_cons_succ]
  refine wpAnyH_ready (rs := [8]) (by kernel_rfl) (by simp) ?_
  refine AllReadyH.cons (o := _) rfl (fun K hK => ?_) AllReadyH.nil
  simp only [List.getElem_toArray, List.getElem_cons_zero, List.getElem_cons_succ]
  go_simp
  refine hrw.mono ?_; rintro r w3 ⟨rfl, hz3, hh3⟩
  refine hK.out _ _ (hh3 q (.inl (.inl rfl))) (fun _ => ?_)
  clear hK K
  have hHeld := hh3 q (.inl (.inl rfl))
  have HZ3 := Lib.hid hz3
  have HH3 := Lib.hid hh3
  clear hz3 hh3
  simp only [Act.put, List.setIfInBounds_toArray, List.set_cons_zero, List.set_cons_succ, List.getElem_toArray, List.getElem_cons_zero, List.getElem_cons_succ]
  refine wpAnyH_take (i := 9) (oi := _) (v := ?_) rfl (by kernel_rfl) (by kernel_rfl) (by kernel_rfl) (fun _ _ _ h => h) (Or.inl ⟨by rfl, ?_⟩) (by assumption) ?_
  rotate_left
  · intro wq hSw; go_simp; try with_reducible rfl
  simp only [Act.put, List.setIfInBounds_toArray, List.set_cons_zero, List.set_cons_succ, List.getElem_toArray, List.getElem_cons_zero, List.getElem_cons_succ]
  refine wpAnyH_done (by kernel_rfl) ?_ _
  refine NoPanic.normal ?_
  have hI3 := H.out.op HZ3.out HH3.out
  obtain ⟨_, _, _, _, _, c5'⟩ := hI3.cells
  have f5 := hI3.blk.frozen 5
  have HI4 := Lib.hid hI3.stay
  have HY : Hid (∀ b, Y b → (w3.setCell ⟨q, 5, none⟩ (.bool false)).heap[b]? = w.heap[b]?) := Lib.hid fun b hb => by
    have hlt := InZ.ltM hI3.fs b (.inr hb)
    have hne : b ≠ q := fun e => H.out.apart b hb (.inl e)
    have hg : w3.grownBy (w3.setCell ⟨q, 5, none⟩ (.bool false)) (some q) := Gr.setCell (Gr.refl _ _) _ _
    exact (hg.block b hlt (by simp; omega)).trans (HH3.out b (.inr hb))
  clear hrw hI3 hHeld
  unfold errV
  go_wp2_with fail
  go_ret
  exact ⟨rfl, HI4, HY⟩
def OldPost (P : Int → ByteArray → Prop) (A : List SG) (N : Nms) (w : World) (e : Ending) (w' : World) : Prop := ∃ v L, e = .returned v ∧ Hid (IsStrs w' v (N.filter fun s => !decide (s ∈ L))) ∧ NameIn P A L ∧ Below w.heap.size w w'
set_option maxHeartbeats 8000000 in
theorem old_any (P : Int → ByteArray → Prop) (h : InY w0 p S q M w sv pv D Y) (h0 : M.pars = []) (hF : ∀ s ∈ M.segs, FmtP P s.num) (hn : 0 < S.now.length ∧ S.now.length ≤ 1000000) :
    Calls Tryz.prog 30 #[pP q] w (OldPost P M.segs (S.now.map (·.1)) w) := by
  obtain ⟨c0, _⟩ := h.cells
  have hld := h.load1
  have hnm := names_any P M sv pv w h.segs h.pars h0 hF (by have := h.ok.sl; omega)
  have H := Lib.hid h
  obtain ⟨N, hN⟩ : ∃ N, S.now.map (·.1) = N := ⟨_, rfl⟩
  have hNl : S.now.length = N.length := by rw [← hN, List.length_map]
  rw [hN]
  rw [hNl] at hn
  have HN := Lib.hid hn
  have HNN := Lib.hid (And.intro hN hNl)
  clear h h0 hF hn hN hNl
  go_enter Tryz.func30, Tryz.ntmps30
  go_wp2_with fail
  refine hnm.mono ?_
  rintro r w1 ⟨v, L, rfl, HV, hNI, hb1⟩
  obtain ⟨a, cap, rfl, hl1, _⟩ := HV.out
  obtain ⟨m, hm⟩ : ∃ m, L.length = m := ⟨_, rfl⟩
  rw [hm]
  obtain ⟨w2, hw2⟩ : ∃ w2, w1.alloc (.cells #[.slice none 0 0] 62) = w2 := ⟨_, rfl⟩
  have hk2 : Blk w2 w1.heap.size 62 [.slice none 0 0] := by rw [← hw2]; exact Blk.new w1 _ _
  have hb2 : Below w1.heap.size w1 w2 := by rw [← hw2]; exact (Below.refl _ _).alloc (Nat.le_refl _) _
  have c2 := hk2.cell (o := 0) rfl
  have f2 := hk2.frozen 0
  have hg3 : w2.grownBy (w2.setCell ⟨w1.heap.size, 0, none⟩ (.slice a L.length cap)) (some w1.heap.size) := Gr.setCell (Gr.refl _ _) _ _
  have hk3 := hk2.set 0 (.slice a L.length cap)
  obtain ⟨w3, hw3⟩ : ∃ w3, w2.setCell ⟨w1.heap.size, 0, none⟩ (.slice a L.length cap) = w3 := ⟨_, rfl⟩
  rw [hw3] at hg3 hk3
  have hb13 : Below w1.heap.size w1 w3 := hb2.grown hg3 hb2.size (fun j hj => by cases hj; exact Nat.le_refl _)
  have hI3 := (H.out.below hb1).below hb13
  obtain ⟨c0', _⟩ := hI3.cells
  have hns := names_h hI3.fs.toH
  have hltk : w1.heap.size < w3.heap.size := hk3.lt
  have HK3 : Hid (Blk w3 w1.heap.size 62 [.slice a L.length cap]) := Lib.hid hk3
  have HB13 := Lib.hid hb13
  have HB1 := Lib.hid hb1
  have HNI := Lib.hid hNI
  have HLT := Lib.hid hltk
  have HM := Lib.hid hm
  rw [hm] at hw3
  clear hnm hk2 hb2 hg3 hk3 hb13 hI3 hb1 hNI hltk hld hl1 hm
  go_wp2_with fail
  refine hns.mono ?_
  rintro r w4 ⟨nv, rfl, hnv, hb4⟩
  unfold IsNames at hnv
  rw [HNN.out.1, HNN.out.2] at hnv
  obtain ⟨g, cp, rfl, hg, hO⟩ := ownS_of hnv HN.out.1
  have hask : AskOk (fun s => decide (s ∈ L)) (.pointer (some ⟨w1.heap.size, 0, none⟩)) (some g) w4 := fun W hW d => by
    have hk4 := HK3.out.below hb4 HLT.out
    have hbW : Below w3.heap.size w3 W := hb4.grown hW hb4.size (fun j hj => by cases hj; exact hg)
    have hv := (HV.out.below (HB13.out.trans (hbW.mono (Nat.le_of_lt HLT.out))))
    exact old1_any _ L w1.heap.size d W hv (HK3.out.below hbW HLT.out)
  have hdl := delete_q (fun s => decide (s ∈ L)) (.pointer (some ⟨w1.heap.size, 0, none⟩)) g N.length cp N w4 hO hask HN.out.2
  have HG := Lib.hid hg
  have HB4 := Lib.hid hb4
  obtain ⟨k, hk⟩ : ∃ k, N.length = k := ⟨_, rfl⟩
  obtain ⟨F, hF⟩ : ∃ F, N.filter (fun s => !decide (s ∈ L)) = F := ⟨_, rfl⟩
  have HF := Lib.hid hF
  have HFL : Hid (F.length ≤ 1000000) := Lib.hid (by rw [← hF]; exact Nat.le_trans (List.length_filter_le _ _) HN.out.2)
  rw [hk, hF] at hdl
  clear hnv hO hask hns hg hb4 hF
  obtain ⟨fl, hfl⟩ : ∃ fl, F.length = fl := ⟨_, rfl⟩
  rw [hfl] at hdl
  rw [hk]
  go_wp2_with fail
  refine hdl.mono ?_
  rintro r w5 ⟨rfl, ho5, hg5⟩
  have HO5 := Lib.hid ho5
  have HB5 : Hid (Below w.heap.size w w5) := Lib.hid (HB1.out.trans ((HB13.out.trans (((HB4.out.grown hg5 HB4.out.size (fun j hj => by cases hj; exact HG.out))).mono (Nat.le_of_lt HLT.out))).mono HB1.out.size))
  have HFL2 := Lib.hid hfl
  clear hdl ho5 hg5 hfl
  go_wp2_with fail
  go_ret
  refine ⟨_, L, rfl, ?_, HNI.out, HB5.out⟩
  rw [HF.out]
  exact Lib.hid (HO5.out.strs (by rw [← HFL2.out]; exact HFL.out))
end
end Go.Proofs.YtdjkkohckfndkaaGreatDoor.S19
namespace Go.Proofs.YtdjkkohckfndkaaGreatDoor.S19
open Go.RowKit Go.Maps Go.Shelf Go.Sort S18 S13 S13.Dk S15 S3 S2.Pl S3.Pl
def sG (i : Nat) : SG := ⟨9 + i, false, 0, 0, 0, 0⟩
def dG (i : Nat) : List Int := if 0 < i then [8 + (i : Int)] else []
def eG (i : Nat) : ED := ⟨10 + i, 0, [sG i], dG i, [], []⟩
def MG : Nat → MS
  | 0 => MS1
  | i + 1 => ⟨10 + i, 1, [sG i], []⟩
theorem all50 (p : Nat → Bool) (h : (List.range 50).all p = true) (i : Nat) (hi : i < 50) : p i = true := List.all_eq_true.1 h i (List.mem_range.2 hi)
theorem fine_G (i : Nat) (h : i < 50) : Fine (eG i) := by
  refine ⟨all50 (fun i => edB (eG i)) (by decide +kernel) i h, ?_⟩
  simp [eG, EdW, sumW, sG]
def sameS (a b : SG) : Bool := decide (a.num = b.num) && (a.sealed == b.sealed) && decide (a.group = b.group) && decide (a.member = b.member) && decide (a.size = b.size) && decide (a.sum = b.sum)
def sameM (a : Option MS) (b : MS) : Bool := match a with
  | some ⟨n, s, [x], []⟩ => match b with
    | ⟨n', s', [x'], []⟩ => decide (n = n') && decide (s = s') && sameS x x'
    | _ => false
  | _ => false
theorem sameS_eq {a b : SG} (h : sameS a b = true) : a = b := by
  obtain ⟨a1, a2, a3, a4, a5, a6⟩ := a
  obtain ⟨b1, b2, b3, b4, b5, b6⟩ := b
  simp [sameS] at h
  obtain ⟨⟨⟨⟨⟨rfl, rfl⟩, rfl⟩, rfl⟩, rfl⟩, rfl⟩ := h
  rfl
theorem sameM_eq {a : Option MS} {b : MS} (h : sameM a b = true) : a = some b := by
  unfold sameM at h
  split at h
  · split at h
    · simp at h
      obtain ⟨⟨rfl, rfl⟩, h⟩ := h
      rw [sameS_eq h]
    · cases h
  · cases h
theorem app_G (i : Nat) (h : i < 50) : applyM (MG i) (eG i) false = some (MG (i + 1)) := sameM_eq (all50 (fun i => sameM (applyM (MG i) (eG i) false) (MG (i + 1))) (by decide +kernel) i h)
theorem fine_W (i : Nat) (h : i < 50) : Fine (wholeM (MG (i + 1))) := by
  refine ⟨all50 (fun i => edB (wholeM (MG (i + 1)))) (by decide +kernel) i h, ?_⟩
  simp [wholeM, MG, EdW, sumW, sG]
theorem load_G (i : Nat) (h : i < 50) : loadA (encE (wholeM (MG (i + 1)))) = some (MG (i + 1)) := by
  unfold loadA
  rw [scan_one (fine_W i h)]
  exact sameM_eq (all50 (fun i => sameM (applyA z0 true [wholeM (MG (i + 1))]) (MG (i + 1))) (by decide +kernel) i h)
theorem lenG (i : Nat) (h : i < 50) : 18 ≤ (encE (eG i)).length := by
  have := all50 (fun i => decide (18 ≤ (encE (eG i)).length)) (by decide +kernel) i h
  simpa using this
theorem lenW (i : Nat) (h : i < 50) : (encE (wholeM (MG (i + 1)))).length ≤ 30 := by
  have := all50 (fun i => decide ((encE (wholeM (MG (i + 1)))).length ≤ 30)) (by decide +kernel) i h
  simpa using this
end Go.Proofs.YtdjkkohckfndkaaGreatDoor.S19

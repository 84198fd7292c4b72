/- Texts put together: MaT, MaGa. -/
import Derived.Test.YthgpdnffahmhjaaGreatDoorMg42
import Derived.Test.YthgpdnffahmhjaaGreatDoorMg44
set_option linter.unusedSimpArgs false
set_option linter.unusedVariables false
set_option maxRecDepth 100000
namespace Go.Proofs.YthgpdnffahmhjaaGreatDoor.S19
open Go.RowKit Go.Maps Go.Shelf Go.Sort S18 S13 S13.Dk S15 S3
theorem names_any {R : PT → List Value → Prop} (P : Int → ByteArray → Prop) (M : MS) (sv pv : Option Nat) (w : World) (hs : MapO SG.num 6 segC w sv M.segs) (hp : MapO PT.group 5 R w pv M.pars) (h0 : M.pars = []) (hF : ∀ s ∈ M.segs, FmtP P s.num) (hL : M.segs.length ≤ 1000) :
    Calls Tryz.prog 25 #[.agg #[.int .i64 M.next, .int .i64 M.seq, .map sv, .map pv]] w (NamesPost P M.segs w) := by
  rw [h0] at hp
  have hp' : pv = none ∨ ∃ bp, pv = some bp ∧ MapC PT.group w bp ([] : List (PT × List Value)) := by
    rcases hp with ⟨rfl, _⟩ | ⟨bp, rfl, M', h1, _, _, h4⟩
    · exact .inl rfl
    · obtain rfl : M' = [] := List.map_eq_nil_iff.1 h1
      exact .inr ⟨bp, rfl, h4⟩
  rcases hs with ⟨rfl, e⟩ | ⟨b, rfl, M', h1, h2, h3, h4⟩
  · rw [e]
    rcases hp' with rfl | ⟨bp, rfl, hb⟩
    · exact names_nn P M.next M.seq w
    · exact names_ns P bp M.next M.seq w hb
  · rw [← h1] at hF hL ⊢
    have hF' : ∀ x ∈ M', FmtP P x.1.num := fun x hx => hF _ (List.mem_map_of_mem hx)
    rw [List.length_map] at hL
    rcases hp' with rfl | ⟨bp, rfl, hb⟩
    · exact names_sn P b M' M.next M.seq w h4 h3 h2 hF' hL
    · exact names_ss P b M' bp M.next M.seq w h4 h3 h2 hF' hL hb
section
variable {w0 w w' : World} {p q : Nat} {S S' : St} {M M' : MS} {sv pv : Option Nat} {D Y Y' : Nat → Prop}
attribute [local go_sem ↓] loadT_eq storeT_eq buildT_eq
def OldPost (P : Int → ByteArray → Prop) (A : List SG) (N : Nms) (w : World) (e : Ending) (w' : World) : Prop := ∃ v L, e = .returned v ∧ Hid (IsStrs w' v (N.filter fun s => !decide (s ∈ L))) ∧ NameIn P A L ∧ Below w.heap.size w w'
set_option maxHeartbeats 8000000 in
theorem old_any (P : Int → ByteArray → Prop) (h : InY w0 p S q M w sv pv D Y) (h0 : M.pars = []) (hF : ∀ s ∈ M.segs, FmtP P s.num) (hn : 0 < S.now.length ∧ S.now.length ≤ 1000000) :
    Calls Tryz.prog 9 #[pP q] w (OldPost P M.segs (S.now.map (·.1)) w) := by
  obtain ⟨c0, _⟩ := h.cells
  have hld := h.load1
  have hnm := names_any P M sv pv w h.segs h.pars h0 hF (by have := h.ok.sl; omega)
  have H := Lib.hid h
  obtain ⟨N, hN⟩ : ∃ N, S.now.map (·.1) = N := ⟨_, rfl⟩
  have hNl : S.now.length = N.length := by rw [← hN, List.length_map]
  rw [hN]
  rw [hNl] at hn
  have HN := Lib.hid hn
  have HNN := Lib.hid (And.intro hN hNl)
  clear h h0 hF hn hN hNl
  go_enter Tryz.func9, Tryz.ntmps9
  go_wp2_with fail
  refine hnm.mono ?_
  rintro r w1 ⟨v, L, rfl, HV, hNI, hb1⟩
  obtain ⟨a, cap, rfl, hl1, _⟩ := HV.out
  obtain ⟨m, hm⟩ : ∃ m, L.length = m := ⟨_, rfl⟩
  rw [hm]
  obtain ⟨w2, hw2⟩ : ∃ w2, w1.alloc (.cells #[.slice none 0 0] 35) = w2 := ⟨_, rfl⟩
  have hk2 : Blk w2 w1.heap.size 35 [.slice none 0 0] := by rw [← hw2]; exact Blk.new w1 _ _
  have hb2 : Below w1.heap.size w1 w2 := by rw [← hw2]; exact (Below.refl _ _).alloc (Nat.le_refl _) _
  have c2 := hk2.cell (o := 0) rfl
  have f2 := hk2.frozen 0
  have hg3 : w2.grownBy (w2.setCell ⟨w1.heap.size, 0, none⟩ (.slice a L.length cap)) (some w1.heap.size) := Gr.setCell (Gr.refl _ _) _ _
  have hk3 := hk2.set 0 (.slice a L.length cap)
  obtain ⟨w3, hw3⟩ : ∃ w3, w2.setCell ⟨w1.heap.size, 0, none⟩ (.slice a L.length cap) = w3 := ⟨_, rfl⟩
  rw [hw3] at hg3 hk3
  have hb13 : Below w1.heap.size w1 w3 := hb2.grown hg3 hb2.size (fun j hj => by cases hj; exact Nat.le_refl _)
  have hI3 := (H.out.below hb1).below hb13
  obtain ⟨c0', _⟩ := hI3.cells
  have hns := names_h hI3.fs.toH
  have hltk : w1.heap.size < w3.heap.size := hk3.lt
  have HK3 : Hid (Blk w3 w1.heap.size 35 [.slice a L.length cap]) := Lib.hid hk3
  have HB13 := Lib.hid hb13
  have HB1 := Lib.hid hb1
  have HNI := Lib.hid hNI
  have HLT := Lib.hid hltk
  have HM := Lib.hid hm
  rw [hm] at hw3
  clear hnm hk2 hb2 hg3 hk3 hb13 hI3 hb1 hNI hltk hld hl1 hm
  go_wp2_with fail
  refine hns.mono ?_
  rintro r w4 ⟨nv, rfl, hnv, hb4⟩
  unfold IsNames at hnv
  rw [HNN.out.1, HNN.out.2] at hnv
  obtain ⟨g, cp, rfl, hg, hO⟩ := ownS_of hnv HN.out.1
  have hask : AskOk (fun s => decide (s ∈ L)) (.pointer (some ⟨w1.heap.size, 0, none⟩)) (some g) w4 := fun W hW d => by
    have hk4 := HK3.out.below hb4 HLT.out
    have hbW : Below w3.heap.size w3 W := hb4.grown hW hb4.size (fun j hj => by cases hj; exact hg)
    have hv := (HV.out.below (HB13.out.trans (hbW.mono (Nat.le_of_lt HLT.out))))
    exact old1_any _ L w1.heap.size d W hv (HK3.out.below hbW HLT.out)
  have hdl := delete_q (fun s => decide (s ∈ L)) (.pointer (some ⟨w1.heap.size, 0, none⟩)) g N.length cp N w4 hO hask HN.out.2
  have HG := Lib.hid hg
  have HB4 := Lib.hid hb4
  obtain ⟨k, hk⟩ : ∃ k, N.length = k := ⟨_, rfl⟩
  obtain ⟨F, hF⟩ : ∃ F, N.filter (fun s => !decide (s ∈ L)) = F := ⟨_, rfl⟩
  have HF := Lib.hid hF
  have HFL : Hid (F.length ≤ 1000000) := Lib.hid (by rw [← hF]; exact Nat.le_trans (List.length_filter_le _ _) HN.out.2)
  rw [hk, hF] at hdl
  clear hnv hO hask hns hg hb4 hF
  obtain ⟨fl, hfl⟩ : ∃ fl, F.length = fl := ⟨_, rfl⟩
  rw [hfl] at hdl
  rw [hk]
  go_wp2_with fail
  refine hdl.mono ?_
  rintro r w5 ⟨rfl, ho5, hg5⟩
  have HO5 := Lib.hid ho5
  have HB5 : Hid (Below w.heap.size w w5) := Lib.hid (HB1.out.trans ((HB13.out.trans (((HB4.out.grown hg5 HB4.out.size (fun j hj => by cases hj; exact HG.out))).mono (Nat.le_of_lt HLT.out))).mono HB1.out.size))
  have HFL2 := Lib.hid hfl
  clear hdl ho5 hg5 hfl
  go_wp2_with fail
  go_ret
  refine ⟨_, L, rfl, ?_, HNI.out, HB5.out⟩
  rw [HF.out]
  exact Lib.hid (HO5.out.strs (by rw [← HFL2.out]; exact HFL.out))
end
end Go.Proofs.YthgpdnffahmhjaaGreatDoor.S19
namespace Go.Proofs.YthgpdnffahmhjaaGreatDoor.S19
open Go.RowKit Go.Maps Go.Shelf Go.Sort S18 S13 S13.Dk S15 S3 S2.Pl S3.Pl
end Go.Proofs.YthgpdnffahmhjaaGreatDoor.S19

/- Texts put together: EdG, EdH. -/
import Derived.Test.YthgpdnffahmhjaaGreatDoorMg9
import Derived.Test.YthgpdnffahmhjaaGreatDoorMg19
set_option linter.unusedSimpArgs false
set_option linter.unusedVariables false
set_option maxRecDepth 100000
namespace Go.Proofs.YthgpdnffahmhjaaGreatDoor.S18
open Go.RowKit S2.Pl S3 S3.Pl
attribute [local go_sem ↓] loadS_eq storeS_eq buildS_eq loadP_eq storeP_eq buildP_eq loadE_eq storeE_eq buildE_eq sliceU8_eq
theorem Keep.trans {D D' D'' : Nat → Prop} {w w' w'' : World} (h : Keep D D' w w') (k : Keep D' D'' w' w'') : Keep D D'' w w'' := fun b hb hl => by
  obtain ⟨h1, h2⟩ := h b hb hl
  have hl' : b < w'.heap.size := by
    have h3 : w.heap[b]? = some w.heap[b] := Array.getElem?_eq_getElem hl
    rw [← h2] at h3
    exact (Array.getElem?_eq_some_iff.1 h3).1
  obtain ⟨k1, k2⟩ := k b h1 hl'
  exact ⟨k1, k2.trans h2⟩
theorem app_ty {α : Type} {ts : List TypeId} {base b : Nat} {t : TypeId} {k : Nat} {R : α → List Value → Prop} {w3 w4 : World} {v : Value} {L : List α} {o : Obj} (hown : OwnD base t k R w3 v L) (ht : t ∉ ts) (hgr : (w3.alloc o).grownBy w4 v.ownBlock) : Keep (TyD ts b w3) (TyD ts b w4) w3 w4 :=
  (keep_ty (gr_below ((Below.refl _ _).alloc (Nat.le_refl _) o)) (by simp)).trans (keep_ty hgr fun g e => by
    obtain ⟨c, hc⟩ := hown.ty g e
    exact .inr ⟨t, c, ht, hc.alloc o⟩)
theorem OwnD.map {α : Type} {base : Nat} {t : TypeId} {k : Nat} {R R' : α → List Value → Prop} {w : World} {v : Value} {L : List α} (h : OwnD base t k R w v L) (hR : ∀ x c, R x c → R' x c) : OwnD base t k R' w v L := h.keep (r := none) (grownBy_refl _ _) (by simp) hR
set_option maxHeartbeats 8000000 in
theorem list_par (m : Nat) (s : RS) (p : Nat) (w : World) (hm : m ≤ 1000000) (h : RdAt w p s) {L : List PT} {s' : RS} (hu : rList m rPar s = (L, s')) :
    Calls Tryz.prog 92 #[.pointer (some ⟨p, 0, none⟩), .int .i64 m, .func (.func 93) #[] #[]] w (LPost 95 5 (fun W => parC (TyD parTs w.heap.size W) W) L s' p w) := by
  obtain ⟨N, s1, hN⟩ : ∃ N s1, upT m s = (N, s1) := ⟨_, _, rfl⟩
  have hu2 : rTimes rPar N s1 = (L, s') := by rw [← hu]; unfold rList; rw [hN]
  have hNm : N ≤ m := by have := (upT_le m s).1; rw [hN] at this; exact this
  have hp := h.lt
  have f := upTo_any m s p w (by omega) h hN
  have HU := Lib.hid hu2
  clear h hu hN hu2
  go_enter Tryz.func92, Tryz.ntmps92
  go_wp2_with fail
  refine f.mono ?_
  rintro e w1 ⟨rfl, r1, g1⟩
  have HR1 := Lib.hid r1
  have HG1 := Lib.hid g1
  clear f r1 g1
  go_wp2_with fail
  go_loopw [7, 11] (fun v y wr => ∃ i : Nat, i ≤ N ∧ y = .int .i64 i ∧ ∃ (F : List PT) (s2 : RS), LTo rPar N s1 i F s2 ∧ OwnD w.heap.size 95 5 ((fun W => parC (TyD parTs w.heap.size W) W) wr) wr v F ∧ RdAt wr p s2 ∧ Gr w wr p) (fun _ y _ => N - (intOf y).toNat)
  case atStart => exact ⟨0, by omega, rfl, [], s1, LTo.start _ _ _, OwnD.nil _ _ _ _ _, HR1.out, HG1.out⟩
  case round =>
    obtain ⟨i, hi, rfl, F, s2, hto, ho, hr, hg⟩ := hrel
    have HTO := Lib.hid hto
    have HO := Lib.hid ho
    have HR := Lib.hid hr
    have HG := Lib.hid hg
    obtain ⟨sp, cp, rfl, hcp, hcm⟩ := ho.slice
    have HFL := Lib.hid hto.1
    have hFi : F.length ≤ 1000000 := by rw [hto.1]; omega
    clear hto ho hr hg
    by_cases hlt : i < N
    · obtain ⟨x, s3, hx⟩ : ∃ x s3, rPar s2 = (x, s3) := ⟨_, _, rfl⟩
      have HX := Lib.hid hx
      have f2 := par_any s2 p wr HR.out hx
      clear hx
      go_wp2_with fail
      refine f2.mono ?_
      rintro e w3 ⟨a1, c1, a2, c2, rfl, hpc, r3, g3⟩
      have HPC : Hid (parC (TyD parTs w.heap.size w3) w3 x (parL x a1 c1 a2 c2)) := Lib.hid (hpc.keep (ty_weak HG.out.size fun _ h => h))
      clear hpc
      have HR3 := Lib.hid r3
      have HG3 := Lib.hid (HG.out.trans g3)
      have HO3 : Hid (OwnD w.heap.size 95 5 ((fun W => parC (TyD parTs w.heap.size W) W) w3) w3 (.slice sp F.length cp) F) := Lib.hid (HO.out.keep g3 (fun b hb e => by have := (HO.out.lt b hb).1; simp at e; omega) (fun x c h => h.keep (keep_ty g3 (fun g e => .inl (by simp at e; omega)))))
      have hsz : w.heap.size ≤ w3.heap.size := HG3.out.size
      clear f2 r3 g3
      go_wp2_with (at_builtin; refine wpList_append_D 32 95 5 (.agg (parL zP none 0 none 0).toArray) 72 Tryz.underlying32 infoP rfl (by decide) (by decide) rfl (.tmp 13) (.tmp 17) rfl w.heap.size ((fun W => parC (TyD parTs w.heap.size W) W) w3) _ F rfl HO3.out x (parL x a1 c1 a2 c2) HPC.out rfl (parL_one x a1 c1 a2 c2) rfl (by omega) hsz ?_; intro v' w4 ho4 hgr4; obtain ⟨hr4, hg4⟩ := app_keep HO3.out HR3.out hp HG3.out hgr4)
      go_roundw
      case rel => exact ⟨i + 1, hlt, by go_num, F ++ [x], s3, HTO.out.step hlt HX.out, ho4.map fun x c h => parC.keep h (app_ty HO3.out (by decide) hgr4), hr4, hg4⟩
      case measure => simp [intOf]; omega
    · obtain rfl : i = N := by omega
      obtain ⟨rfl, rfl⟩ := HTO.out.done HU.out
      go_wp2
      go_ret
      exact ⟨sp, _, cp, rfl, rfl, HO.out, HR.out, HG.out⟩
def edTs : List TypeId := [40, 2, 95, 3]
theorem run_buildE6 (w : World) (n s : Int) (a1 a2 a3 a4 : Option Addr) (n1 n2 n3 n4 c1 c2 c3 c4 : Nat) : (buildE #[(0, .int .i64 n), (1, .int .i64 s), (2, .slice a1 n1 c1), (3, .slice a2 n2 c2), (4, .slice a3 n3 c3), (5, .slice a4 n4 c4)]).run Tryz.prog w = .ok (.agg #[.int .i64 n, .int .i64 s, .slice a1 n1 c1, .slice a2 n2 c2, .slice a3 n3 c3, .slice a4 n4 c4]) w := by kernel_rfl
theorem run_buildE0 (w : World) : (buildE #[]).run Tryz.prog w = .ok (.agg #[.int .i64 0, .int .i64 0, .slice none 0 0, .slice none 0 0, .slice none 0 0, .slice none 0 0]) w := by kernel_rfl
def buildT (v : Array (Nat × Value)) : Sem Value := Instr.build 149 v
theorem buildT_eq (v : Array (Nat × Value)) : Instr.build 149 v = buildT v := rfl
theorem run_buildT1 (w : World) (a : Option Addr) (n c : Nat) : (buildT #[(0, .slice a n c)]).run Tryz.prog w = .ok (.agg #[.slice a n c, .bool false]) w := by kernel_rfl
attribute [local go_sem] run_buildE6 run_buildE0 run_buildT1
attribute [local go_sem ↓] buildT_eq
def DecPost (B : List Nat) (w : World) (r : Ending) (w' : World) : Prop :=
  ∃ (e : ED) (ok : Bool) (a1 : Option Addr) (c1 : Nat) (a2 : Option Addr) (c2 : Nat) (a3 : Option Addr) (c3 : Nat) (a4 : Option Addr) (c4 : Nat), oneE B = (e, ok) ∧ r = .returned (.tuple #[.agg #[.int .i64 e.next, .int .i64 e.seq, .slice a1 e.adds.length c1, .slice a2 e.dels.length c2, .slice a3 e.pars.length c3, .slice a4 e.drops.length c4], .bool ok]) ∧ Hid (EdIn (TyD edTs w.heap.size w') w' e a1 c1 a2 c2 a3 c3 a4 c4) ∧ Hid (Below w.heap.size w w')
theorem ret_ed {fn : Func} {q u : Tmp} (h : fn.results = #[.cell q 34, .tmp u]) (tmps : Array Value) {w : World} {g : Nat} {t : TypeId} {e : ED} {a1 : Option Addr} {c1 : Nat} {a2 : Option Addr} {c2 : Nat} {a3 : Option Addr} {c3 : Nat} {a4 : Option Addr} {c4 : Nat} {b : Bool} (hp : tmps.getD q undef = .pointer (some ⟨g, 0, none⟩)) (hu : tmps.getD u undef = .bool b) (hk : Blk w g t (edL e a1 c1 a2 c2 a3 c3 a4 c4)) :
    (results fn tmps).run Tryz.prog w = .ok (.tuple #[.agg #[.int .i64 e.next, .int .i64 e.seq, .slice a1 e.adds.length c1, .slice a2 e.dels.length c2, .slice a3 e.pars.length c3, .slice a4 e.drops.length c4], .bool b]) w := by
  have hl := run_loadE_blk _ hk
  simp only [loadE, Instr.loadAt, Instr.sureAddr, Sem.run_bind, Sem.run_pure, Result.andThen_ok] at hl
  rw [results_cell_tmp h, hp, hu]
  simp only [asAddr, Sem.run_pure, Result.andThen_ok]
  rw [hl]
  rfl
theorem dec_end {B : List Nat} {w W : World} {g : Nat} {t : TypeId} {e : ED} {a1 : Option Addr} {c1 : Nat} {a2 : Option Addr} {c2 : Nat} {a3 : Option Addr} {c3 : Nat} {a4 : Option Addr} {c4 : Nat} {b : Bool} {fn : Func} {p u : Tmp} {a : Act} (h : fn.results = #[.cell p 34, .tmp u]) (hd : a.defers = []) (hp : a.tmps.getD p undef = .pointer (some ⟨g, 0, none⟩)) (hu : a.tmps.getD u undef = .bool b) (hk : Blk W g t (edL e a1 c1 a2 c2 a3 c3 a4 c4)) (hO : oneE B = (e, b)) (hI : EdIn (TyD edTs w.heap.size W) W e a1 c1 a2 c2 a3 c3 a4 c4) (hb : Below w.heap.size w W) :
    bodyPost Tryz.prog fn (DecPost B w) Exit.ret a W :=
  bodyPost_ret (ret_ed h _ hp hu hk) hd ⟨e, b, a1, c1, a2, c2, a3, c3, a4, c4, hO, rfl, Lib.hid hI, Lib.hid hb⟩
theorem rEd_is {s s1 s2 s3 s4 s5 s6 : RS} {a b : Int} {A : List SG} {L X : List Int} {P : List PT} (h1 : rNum s = (a, s1)) (h2 : rNum s1 = (b, s2)) (h3 : rList 60 rSeg s2 = (A, s3)) (h4 : rList 60 rNum s3 = (L, s4)) (h5 : rList 60 rPar s4 = (P, s5)) (h6 : rList 60 rNum s5 = (X, s6)) : rEd s = (⟨a, b, A, L, P, X⟩, s6) := by
  unfold rEd
  simp only [h1, h2, h3, h4, h5, h6]
theorem one_good {B R : List Nat} {e : ED} (h : rEd (B, false) = (e, (R, false))) (h2 : R.length = 0) (h3 : edB e = true) : oneE B = (e, true) := by unfold oneE; rw [h]; simp [h2, h3]
theorem one_bad {B R : List Nat} {e : ED} {b : Bool} (h : rEd (B, false) = (e, (R, b))) (h2 : b = true ∨ R.length ≠ 0 ∨ edB e = false) : oneE B = (zE, false) := by
  unfold oneE
  rw [h]
  rw [if_neg]
  rintro ⟨h3, h4, h5⟩
  simp only at h3 h4 h5
  rcases h2 with h2 | h2 | h2
  · rw [h2] at h3; cases h3
  · exact h2 h4
  · rw [h2] at h5; cases h5
theorem zE_in (D : Nat → Prop) (w : World) : EdIn D w zE none 0 none 0 none 0 none 0 := ⟨RowD.nil, RowD.nil, RowD.nil, RowD.nil⟩
theorem gr_cut {w w1 w2 : World} {p : Nat} (hb : Below w.heap.size w w1) (hg : Gr w1 w2 p) (hp : w.heap.size ≤ p) : Below w.heap.size w w2 := hb.trans (hg.below hb.size hp)
theorem own_row {α : Type} {base b0 : Nat} {t : TypeId} {k : Nat} {R : α → List Value → Prop} {w : World} {v : Value} {L : List α} (h : OwnD base t k R w v L) (hb : b0 ≤ base) (ht : t ∈ edTs) : RowD (TyD edTs b0 w) R k w v L := h.row fun b c hb' hk => ⟨by omega, t, c, ht, hk⟩
theorem ty_keep {base : Nat} {w w' : World} {p : Nat} (hg : Gr w w' p) {t : TypeId} {c : List Value} (hk : Blk w p t c) (ht : t ∉ edTs) : Keep (TyD edTs base w) (TyD edTs base w') w w' := keep_ty hg fun g e => .inr ⟨t, c, ht, by simp at e; rw [← e]; exact hk⟩
theorem rd_blk {w : World} {p : Nat} {s : RS} (h : RdAt w p s) : ∃ c, Blk w p 149 c := by
  obtain ⟨a, c, n, _, hk, _⟩ := h
  exact ⟨_, hk⟩
theorem rd_keep {base : Nat} {w w' : World} {p : Nat} {s : RS} (h : RdAt w p s) (hg : Gr w w' p) : Keep (TyD edTs base w) (TyD edTs base w') w w' := by
  obtain ⟨c, hk⟩ := rd_blk h
  exact ty_keep hg hk (by decide)
theorem e_keep {base g : Nat} {w w' : World} {c : List Value} (hk : Blk w g 34 c) (hg : w.grownBy w' (some g)) : Keep (TyD edTs base w) (TyD edTs base w') w w' := ty_keep hg hk (by decide)
theorem b_keep {base : Nat} {w w' : World} (hb : Below w.heap.size w w') : Keep (TyD edTs base w) (TyD edTs base w') w w' := keep_ty (gr_below hb) (by simp)
set_option maxHeartbeats 16000000 in
theorem decoded_any (v : Value) (B : List Nat) (w : World) (hv : IsBytes w v B) : Calls Tryz.prog 60 #[v] w (DecPost B w) := by
  obtain ⟨at', ct, rfl, hct, hmt⟩ := hv.slice
  obtain ⟨na, s1, h1⟩ : ∃ k t, rNum (B, false) = (k, t) := ⟨_, _, rfl⟩
  obtain ⟨nb, s2, h2⟩ : ∃ k t, rNum s1 = (k, t) := ⟨_, _, rfl⟩
  obtain ⟨A, s3, h3⟩ : ∃ k t, rList 60 rSeg s2 = (k, t) := ⟨_, _, rfl⟩
  obtain ⟨L, s4, h4⟩ : ∃ k t, rList 60 rNum s3 = (k, t) := ⟨_, _, rfl⟩
  obtain ⟨P, s5, h5⟩ : ∃ k t, rList 60 rPar s4 = (k, t) := ⟨_, _, rfl⟩
  obtain ⟨X, s6, h6⟩ : ∃ k t, rList 60 rNum s5 = (k, t) := ⟨_, _, rfl⟩
  have HED := Lib.hid (rEd_is h1 h2 h3 h4 h5 h6)
  have H2 := Lib.hid h2
  have H3 := Lib.hid h3
  have H4 := Lib.hid h4
  have H5 := Lib.hid h5
  have H6 := Lib.hid h6
  have hb1 : Below w.heap.size w (w.alloc (.cells #[.int .i64 0, .int .i64 0, .slice none 0 0, .slice none 0 0, .slice none 0 0, .slice none 0 0] 34)) := (Below.refl _ _).alloc (Nat.le_refl _) _
  have hk1 := Blk.new w 34 (edL zE none 0 none 0 none 0 none 0)
  obtain ⟨w1, hw1⟩ : ∃ w1, w.alloc (.cells #[.int .i64 0, .int .i64 0, .slice none 0 0, .slice none 0 0, .slice none 0 0, .slice none 0 0] 34) = w1 := ⟨_, rfl⟩
  rw [hw1] at hb1
  have hk1' : Blk w1 w.heap.size 34 (edL zE none 0 none 0 none 0 none 0) := by rw [← hw1]; exact hk1
  have hb2 : Below w1.heap.size w1 (w1.alloc (.cells #[.slice at' B.length ct, .bool false] 149)) := (Below.refl _ _).alloc (Nat.le_refl _) _
  have hk2 := Blk.new w1 149 [.slice at' B.length ct, .bool false]
  have hv2 := (hv.below hb1).below hb2
  have hr2 : RdAt (w1.alloc (.cells #[.slice at' B.length ct, .bool false] 149)) w1.heap.size (B, false) := ⟨at', ct, B.length, rfl, hk2, hv2, fun h0 x hx => by
    · obtain ⟨bb, off, cap', he, _, _, hlt, _⟩ := hv.cells h0
      simp at he
      rw [he.1] at hx
      simp at hx
      subst hx
      exact Nat.lt_of_lt_of_le hlt hb1.size⟩
  obtain ⟨w2, hw2⟩ : ∃ w2, w1.alloc (.cells #[.slice at' B.length ct, .bool false] 149) = w2 := ⟨_, rfl⟩
  rw [hw2] at hb2 hr2
  obtain ⟨p, hp⟩ : ∃ p, w1.heap.size = p := ⟨_, rfl⟩
  have HP := Lib.hid hp
  have hB2 : Below w.heap.size w w2 := hb1.trans (hb2.mono hb1.size)
  have HK2 : Hid (Blk w2 w.heap.size 34 (edL zE none 0 none 0 none 0 none 0)) := Lib.hid (hk1'.below hb2 hk1'.lt)
  have HPW : Hid (w.heap.size < p) := Lib.hid (by rw [← hp]; exact hk1'.lt)
  rw [hp] at hr2
  have HB2 := Lib.hid hB2
  obtain ⟨R, bk⟩ := s6
  have f1 := num_any (B, false) p w2 hr2 h1
  clear hb1 hk1 hk1' hb2 hk2 hv2 hr2 hB2 h1 h2 h3 h4 h5 h6 hv
  unfold maxLen at hmt
  go_enter Tryz.func60, Tryz.ntmps60
  go_wp2_with fail
  refine f1.mono ?_
  rintro e w3 ⟨rfl, r3, g3⟩
  have HB3 := Lib.hid (gr_cut HB2.out g3 (Nat.le_of_lt HPW.out))
  have HK3 := Lib.hid (HK2.out.grown g3 (by have := HPW.out; intro e; simp at e; omega))
  have f2 := num_any s1 p w3 r3 H2.out
  clear r3 g3 f1 hw1 hw2 hp
  go_wp2_with fail
  refine f2.mono ?_
  rintro e w4 ⟨rfl, r4, g4⟩
  have HB4 := Lib.hid (gr_cut HB3.out g4 (Nat.le_of_lt HPW.out))
  have HK4 := Lib.hid (HK3.out.grown g4 (by have := HPW.out; intro e; simp at e; omega))
  have f3 := list_seg 60 s2 p w4 (by decide) r4 H3.out
  clear r4 g4 f2
  go_wp2_with fail
  refine f3.mono ?_
  rintro e w5 ⟨a1, n1, c1, rfl, hn1, ho1, r5, g5⟩
  have HB5 := Lib.hid (gr_cut HB4.out g5 (Nat.le_of_lt HPW.out))
  have HK5 := Lib.hid (HK4.out.grown g5 (by have := HPW.out; intro e; simp at e; omega))
  have I5 : Hid (IsSegs (TyD edTs w.heap.size w5) w5 (.slice a1 n1 c1) A) := Lib.hid (own_row ho1 HB4.out.size (by decide))
  have f4 := list_num 60 s3 p w5 (by decide) r5 H4.out
  have HR5 := Lib.hid r5
  clear r5 g5 f3 ho1
  go_wp2_with fail
  refine f4.mono ?_
  rintro e w6 ⟨a2, n2, c2, rfl, hn2, ho2, r6, g6⟩
  have HB6 := Lib.hid (gr_cut HB5.out g6 (Nat.le_of_lt HPW.out))
  have HK6 := Lib.hid (HK5.out.grown g6 (by have := HPW.out; intro e; simp at e; omega))
  have I6 : Hid (IsSegs (TyD edTs w.heap.size w6) w6 (.slice a1 n1 c1) A) := Lib.hid (RowD.keep I5.out (rd_keep HR5.out g6) fun _ _ h => h)
  have J6 : Hid (IsNums (TyD edTs w.heap.size w6) w6 (.slice a2 n2 c2) L) := Lib.hid (own_row ho2 HB5.out.size (by decide))
  have f5 := list_par 60 s4 p w6 (by decide) r6 H5.out
  have HR6 := Lib.hid r6
  clear r6 g6 f4 ho2
  go_wp2_with fail
  refine f5.mono ?_
  rintro e w7 ⟨a3, n3, c3, rfl, hn3, ho3, r7, g7⟩
  have HB7 := Lib.hid (gr_cut HB6.out g7 (Nat.le_of_lt HPW.out))
  have HK7 := Lib.hid (HK6.out.grown g7 (by have := HPW.out; intro e; simp at e; omega))
  have I7 : Hid (IsSegs (TyD edTs w.heap.size w7) w7 (.slice a1 n1 c1) A) := Lib.hid (RowD.keep I6.out (rd_keep HR6.out g7) fun _ _ h => h)
  have J7 : Hid (IsNums (TyD edTs w.heap.size w7) w7 (.slice a2 n2 c2) L) := Lib.hid (RowD.keep J6.out (rd_keep HR6.out g7) fun _ _ h => h)
  have K7 : Hid (IsPars (TyD edTs w.heap.size w7) w7 (.slice a3 n3 c3) P) := Lib.hid (own_row (ho3.map fun x c h => parC.keep h (ty_weak HB6.out.size (by decide))) HB6.out.size (by decide))
  have f6 := list_num 60 s5 p w7 (by decide) r7 H6.out
  have HR7 := Lib.hid r7
  clear r7 g7 f5 ho3
  go_wp2_with fail
  refine f6.mono ?_
  rintro e w8 ⟨a4, n4, c4, rfl, hn4, ho4, r8, g8⟩
  have HB8 := Lib.hid (gr_cut HB7.out g8 (Nat.le_of_lt HPW.out))
  have HK8 := Lib.hid (HK7.out.grown g8 (by have := HPW.out; intro e; simp at e; omega))
  have I8 : Hid (IsSegs (TyD edTs w.heap.size w8) w8 (.slice a1 n1 c1) A) := Lib.hid (RowD.keep I7.out (rd_keep HR7.out g8) fun _ _ h => h)
  have J8 : Hid (IsNums (TyD edTs w.heap.size w8) w8 (.slice a2 n2 c2) L) := Lib.hid (RowD.keep J7.out (rd_keep HR7.out g8) fun _ _ h => h)
  have K8 : Hid (IsPars (TyD edTs w.heap.size w8) w8 (.slice a3 n3 c3) P) := Lib.hid (RowD.keep K7.out (rd_keep HR7.out g8) fun _ _ h => parC.keep h (rd_keep HR7.out g8))
  have L8 : Hid (IsNums (TyD edTs w.heap.size w8) w8 (.slice a4 n4 c4) X) := Lib.hid (own_row ho4 HB7.out.size (by decide))
  have HR8 := Lib.hid r8
  clear r8 g8 f6 ho4 HB2 HB3 HB4 HB5 HB6 HB7 HK2 HK3 HK4 HK5 HK6 HK7 I5 I6 I7 J6 J7 K7 HR5 HR6 HR7
  subst hn1 hn2 hn3 hn4
  have HI8 : Hid (EdIn (TyD edTs w.heap.size w8) w8 ⟨na, nb, A, L, P, X⟩ a1 c1 a2 c2 a3 c3 a4 c4) := Lib.hid ⟨I8.out, J8.out, K8.out, L8.out⟩
  have hA9 : Below w8.heap.size w8 (w8.alloc (.cells #[.int .i64 0, .int .i64 0, .slice none 0 0, .slice none 0 0, .slice none 0 0, .slice none 0 0] 34)) := (Below.refl _ _).alloc (Nat.le_refl _) _
  have hN9 := Blk.new w8 34 (edL zE none 0 none 0 none 0 none 0)
  obtain ⟨w9, hst, HG9, HS9⟩ := putE (a1 := a1) (c1 := c1) (a2 := a2) (c2 := c2) (a3 := a3) (c3 := c3) (a4 := a4) (c4 := c4) ⟨na, nb, A, L, P, X⟩ hN9 rfl
  have HI9 := Lib.hid ((HI8.out.keep (b_keep hA9)).keep (e_keep hN9 HS9.out))
  have HB9 : Hid (Below w.heap.size w w9) := Lib.hid ((HB8.out.trans (hA9.mono HB8.out.size)).trans (Gr.below HS9.out (Nat.le_trans HB8.out.size hA9.size) HB8.out.size))
  have HK9 : Hid (Blk w9 w.heap.size 34 (edL zE none 0 none 0 none 0 none 0)) := Lib.hid ((HK8.out.below hA9 HK8.out.lt).grown HS9.out (by have := HK8.out.lt; intro e; simp at e; omega))
  have hr9 : RdAt w9 p (R, bk) := (HR8.out.below hA9).keep HS9.out (by have := HR8.out.lt; intro g e; simp at e; omega)
  obtain ⟨ar, cr, nr, hnr, hkr, hbr, _⟩ := hr9
  have d0 : w9.cell? ⟨p, 0, none⟩ = some (.slice ar nr cr) := hkr.cell rfl
  have d1 : w9.cell? ⟨p, 1, none⟩ = some (.bool bk) := hkr.cell rfl
  have hch := check_any ⟨na, nb, A, L, P, X⟩ a1 c1 a2 c2 a3 c3 a4 c4 w9 HI9.out
  have hld := run_loadE_blk _ HG9.out
  have hlt9 := HG9.out.lt
  have HLT : Hid (w8.heap.size < w9.heap.size) := Lib.hid hlt9
  have HNR : Hid (R.length = nr) := Lib.hid hnr
  simp only [edL, zE, List.length_nil] at hst hld hch
  obtain ⟨k1, hk1⟩ : ∃ k, A.length = k := ⟨_, rfl⟩
  obtain ⟨k2, hk2⟩ : ∃ k, L.length = k := ⟨_, rfl⟩
  obtain ⟨k3, hk3⟩ : ∃ k, P.length = k := ⟨_, rfl⟩
  obtain ⟨k4, hk4⟩ : ∃ k, X.length = k := ⟨_, rfl⟩
  rw [hk1, hk2, hk3, hk4] at hst hld hch
  rw [hk1, hk2, hk3, hk4]
  have HK : Hid (A.length = k1 ∧ L.length = k2 ∧ P.length = k3 ∧ X.length = k4) := Lib.hid ⟨hk1, hk2, hk3, hk4⟩
  clear hA9 hN9 hkr hbr hnr hk1 hk2 hk3 hk4 I8 J8 K8 L8 HR8 HB8 HK8 hlt9
  cases bk with
  | true =>
    obtain ⟨w10, hst0, HKe, HSe⟩ := putE (a1 := none) (c1 := 0) (a2 := none) (c2 := 0) (a3 := none) (c3 := 0) (a4 := none) (c4 := 0) zE HK9.out rfl
    simp only [edL, zE, List.length_nil] at hst0
    have HBe := Lib.hid (HB9.out.trans (Gr.below HSe.out HB9.out.size (Nat.le_refl _)))
    go_wp2
    exact dec_end rfl rfl rfl rfl HKe.out (one_bad HED.out (.inl rfl)) (zE_in _ _) HBe.out
  | false =>
    by_cases hn0 : nr = 0
    · have q : decide ((0 : Int) < (nr : Int)) = false := decide_eq_false (by omega)
      have q2 : decide (0 < nr) = false := decide_eq_false (by omega)
      have HN0 : Hid (R.length = 0) := Lib.hid (by rw [HNR.out, hn0])
      have HCH := Lib.hid hch
      clear hch
      subst hn0
      go_wp2_with fail
      refine HCH.out.mono ?_
      rintro e w10 ⟨rfl, hb10⟩
      have HK10 := Lib.hid (HK9.out.below hb10 HK9.out.lt)
      have HG10 := Lib.hid (HG9.out.below hb10 HLT.out)
      have HI10 := Lib.hid (HI9.out.keep (b_keep hb10))
      have HB10 := Lib.hid (HB9.out.trans (hb10.mono HB9.out.size))
      clear hb10 HCH hst hld d0 d1
      cases hed : edB ⟨na, nb, A, L, P, X⟩ with
      | false =>
        have hc : chkE ⟨na, nb, A, L, P, X⟩ = 10 := by unfold chkE; rw [hed]; rfl
        rw [hc]
        have HBAD := Lib.hid (one_bad HED.out (.inr (.inr hed)))
        clear hed hc
        obtain ⟨w11, hst0, HKe, HSe⟩ := putE (a1 := none) (c1 := 0) (a2 := none) (c2 := 0) (a3 := none) (c3 := 0) (a4 := none) (c4 := 0) zE HK10.out rfl
        simp only [edL, zE, List.length_nil] at hst0
        have HBe := Lib.hid (HB10.out.trans (Gr.below HSe.out HB10.out.size (Nat.le_refl _)))
        go_wp2
        exact dec_end rfl rfl rfl rfl HKe.out HBAD.out (zE_in _ _) HBe.out
      | true =>
        have hc : chkE ⟨na, nb, A, L, P, X⟩ = 0 := by unfold chkE; rw [hed]; rfl
        rw [hc]
        have HGOOD := Lib.hid (one_good HED.out HN0.out hed)
        clear hed hc
        have hld2 := run_loadE_blk _ HG10.out
        obtain ⟨w11, hst0, HKe, HSe⟩ := putE (a1 := a1) (c1 := c1) (a2 := a2) (c2 := c2) (a3 := a3) (c3 := c3) (a4 := a4) (c4 := c4) ⟨na, nb, A, L, P, X⟩ HK10.out rfl
        simp only [edL] at hst0 hld2
        rw [HK.out.1, HK.out.2.1, HK.out.2.2.1, HK.out.2.2.2] at hst0 hld2
        have HBe := Lib.hid (HB10.out.trans (Gr.below HSe.out HB10.out.size (Nat.le_refl _)))
        have HIe := Lib.hid (HI10.out.keep (e_keep HK10.out HSe.out))
        go_wp2
        exact dec_end rfl rfl rfl rfl HKe.out HGOOD.out HIe.out HBe.out
    · have q : decide ((0 : Int) < (nr : Int)) = true := decide_eq_true (by omega)
      have q2 : decide (0 < nr) = true := decide_eq_true (by omega)
      have HN0 : Hid (R.length ≠ 0) := Lib.hid (by rw [HNR.out]; exact hn0)
      obtain ⟨w10, hst0, HKe, HSe⟩ := putE (a1 := none) (c1 := 0) (a2 := none) (c2 := 0) (a3 := none) (c3 := 0) (a4 := none) (c4 := 0) zE HK9.out rfl
      simp only [edL, zE, List.length_nil] at hst0
      have HBe := Lib.hid (HB9.out.trans (Gr.below HSe.out HB9.out.size (Nat.le_refl _)))
      go_wp2
      exact dec_end rfl rfl rfl rfl HKe.out (one_bad HED.out (.inr (.inl HN0.out))) (zE_in _ _) HBe.out
end Go.Proofs.YthgpdnffahmhjaaGreatDoor.S18
namespace Go.Proofs.YthgpdnffahmhjaaGreatDoor.S18
open Go.RowKit S2.Pl S3 S3.Pl
attribute [local go_sem ↓] loadS_eq storeS_eq buildS_eq loadP_eq storeP_eq buildP_eq loadE_eq storeE_eq buildE_eq sliceU8_eq
def OwnEds (base : Nat) (w : World) (v : Value) (L : List ED) : Prop := OwnD base 34 6 (edC (TyD edTs base w) w) w v L
theorem OwnEds.below {base : Nat} {w w' : World} {v : Value} {L : List ED} (h : OwnEds base w v L) (hb : Below w.heap.size w w') : OwnEds base w' v L := OwnD.below h hb fun x c h => h.keep (b_keep hb)
theorem OwnEds.lower {base base' : Nat} {w : World} {v : Value} {L : List ED} (h : OwnEds base w v L) (hb : base' ≤ base) : OwnEds base' w v L := (OwnD.base h hb).map fun x c h => edC.keep h (ty_weak hb fun _ h => h)
theorem OwnEds.row {base : Nat} {w : World} {v : Value} {L : List ED} (h : OwnEds base w v L) : IsEds (fun b => base ≤ b) w v L := RowD.keep (OwnD.row h (D := fun b => base ≤ b) fun b c hb _ => hb) (keep_weak fun b hb _ => hb) fun x c h => h.keep (keep_weak fun b hb _ => hb.1)
def ScanPost (B : List Nat) (w : World) (r : Ending) (w' : World) : Prop :=
  ∃ sp cap, r = .returned (.tuple #[.slice sp (scanE B).1.length cap, .int .i64 ((scanE B).2.1 : Nat), .bool (scanE B).2.2]) ∧ Hid (OwnEds w.heap.size w' (.slice sp (scanE B).1.length cap) (scanE B).1) ∧ Hid (Below w.heap.size w w')
theorem scan_ret {B : List Nat} {n : Nat} {F : List ED} {o o' : Bool} {w wr : World} {v : Value} (h : scanLE (pscan B).1 = (F, n, o)) (ho : (o && (pscan B).2.2) = o') (hr : OwnEds w.heap.size wr v F) (hb : Below w.heap.size w wr) :
    ScanPost B w (.returned (.tuple #[v, .int .i64 n, .bool o'])) wr := by
  have e : scanE B = (F, n, o') := by unfold scanE; rw [h, ← ho]
  obtain ⟨sp, cap, rfl, _, _⟩ := OwnD.slice hr
  unfold ScanPost
  rw [e]
  exact ⟨sp, cap, rfl, Lib.hid hr, Lib.hid hb⟩
set_option maxHeartbeats 8000000 in
theorem scan_any (v : Value) (B : List Nat) (w : World) (hT : Tab w) (hv : IsBytes w v B) (hl : B.length ≤ 4000000000) : Calls Tryz.prog 29 #[v] w (ScanPost B w) := by
  have hsc := S3.scan_any v B w hT hv hl
  obtain ⟨hn1, _, htp, _⟩ := pscan_facts B
  obtain ⟨a, cap, rfl, hcap, hmax⟩ := hv.slice
  have HSC := Lib.hid hsc
  clear hsc hv
  go_enter Tryz.func29, Tryz.ntmps29
  go_wp2_with fail
  refine HSC.out.mono ?_
  rintro e w1 ⟨v1, rfl, hr1, hb1⟩
  obtain ⟨L, hL⟩ : ∃ L, (pscan B).1 = L := ⟨_, rfl⟩
  rw [hL] at hr1 htp
  have HL := Lib.hid hL
  have htot : tot L ≤ B.length := by rw [htp]; exact hn1
  have hLl : 12 * L.length ≤ B.length := Nat.le_trans (tot_len L) htot
  obtain ⟨sp1, cap1, rfl, hc1, hm1⟩ := hr1.slice
  have HR1 := Lib.hid hr1
  have HB1 := Lib.hid hb1
  obtain ⟨ok, hok⟩ : ∃ ok, (pscan B).2.2 = ok := ⟨_, rfl⟩
  rw [hok]
  obtain ⟨pn, hpn⟩ : ∃ pn, (pscan B).2.1 = pn := ⟨_, rfl⟩
  rw [hpn]
  have HOK := Lib.hid hok
  clear hr1 hb1 hL HSC hpn hok hn1 htp
  unfold maxLen at hm1
  go_wp2_with fail
  go_loopw [8, 9, 22] (fun v x y wr => ∃ i : Nat, i ≤ L.length ∧ y = .int .i64 i ∧ ∃ n : Nat, n ≤ B.length ∧ x = .int .i64 n ∧ ∃ F : List ED, F.length ≤ i ∧ ETo L i n F ∧ OwnEds w1.heap.size wr v F ∧ Below w1.heap.size w1 wr) (fun _ _ y _ => L.length - (intOf y).toNat)
  case atStart => exact ⟨0, by omega, rfl, 0, by omega, rfl, [], by simp, ETo.start L, OwnD.nil _ _ _ _ _, Below.refl _ _⟩
  case round =>
    obtain ⟨i, hi, rfl, n, hn, rfl, F, hF, hto, ho, hb⟩ := hrel
    have HTO := Lib.hid hto
    have HO := Lib.hid ho
    have HB := Lib.hid hb
    obtain ⟨sp, cp, rfl, hcp, hcm⟩ := OwnD.slice ho
    clear hto ho hb
    have hFl : F.length + 1 ≤ 4294967296 := by omega
    by_cases hlt : i < L.length
    · have hri := HR1.out.below HB.out
      obtain ⟨b, off, a', c', rfl, hbl, hcell, hIs⟩ := hri.at hlt
      obtain ⟨T, hT'⟩ : ∃ T, L.getD i [] = T := ⟨_, rfl⟩
      rw [hT'] at hcell hIs
      have HT' := Lib.hid hT'
      have hde := decoded_any _ T wr hIs
      have HDE := Lib.hid hde
      obtain ⟨tl, htl⟩ : ∃ tl, T.length = tl := ⟨_, rfl⟩
      rw [htl] at hcell HDE
      have HTL := Lib.hid htl
      clear hri hIs hT' hde htl
      go_wp2_with fail
      refine HDE.out.mono ?_
      rintro r w2 ⟨e, g, a1, c1, a2, c2, a3, c3, a4, c4, hone, rfl, hI2, hb2⟩
      have HONE := Lib.hid hone
      clear HDE hcell hone
      have hA := (Below.refl w2.heap.size w2).alloc (Nat.le_refl _) (.cells #[.int .i64 0, .int .i64 0, .slice none 0 0, .slice none 0 0, .slice none 0 0, .slice none 0 0] 34)
      have hN := Blk.new w2 34 (edL zE none 0 none 0 none 0 none 0)
      obtain ⟨w3, hst, HR3, HS3⟩ := putE (a1 := a1) (c1 := c1) (a2 := a2) (c2 := c2) (a3 := a3) (c3 := c3) (a4 := a4) (c4 := c4) e hN rfl
      simp only [edL, zE, List.length_nil] at hst
      have hb23 : Below w2.heap.size w2 w3 := hA.trans (Gr.below HS3.out hA.size (Nat.le_refl _))
      have hb3 : Below wr.heap.size wr w3 := hb2.out.trans (hb23.mono hb2.out.size)
      have hwr : w1.heap.size ≤ wr.heap.size := HB.out.size
      have HI3 : Hid (EdIn (TyD edTs w1.heap.size w3) w3 e a1 c1 a2 c2 a3 c3 a4 c4) := Lib.hid (((hI2.out.keep (ty_weak hwr fun _ h => h)).keep (b_keep hA)).keep (e_keep hN HS3.out))
      have HO3 := Lib.hid (HO.out.below hb3)
      have HB3 : Hid (Below w1.heap.size w1 w3) := Lib.hid (HB.out.trans (hb3.mono hwr))
      clear hb2 hb3 HO HB hwr hI2 hA hN hb23
      cases g with
      | false =>
        go_wp2_with fail
        go_ret3
        exact scan_ret (o := false) (by rw [HL.out]; exact HTO.out.bad hlt (by rw [HT'.out, HONE.out])) rfl (HO3.out.lower HB1.out.size) (HB1.out.trans (HB3.out.mono HB1.out.size))
      | true =>
        have hstep := HTO.out.step hlt (by rw [HT'.out, HONE.out])
        rw [HT'.out, HTL.out, HONE.out] at hstep
        have hn' := Nat.le_trans hstep.le htot
        have HST := Lib.hid hstep
        have hld := run_loadE_blk _ HR3.out
        have hsz3 : w1.heap.size ≤ w3.heap.size := HB3.out.size
        clear hstep
        go_wp2_with (at_builtin; refine wpList_append_D 77 34 6 (.agg (edL zE none 0 none 0 none 0 none 0).toArray) 112 Tryz.underlying77 infoE rfl (by decide) (by decide) rfl (.tmp 35) (.tmp 37) rfl w1.heap.size (edC (TyD edTs w1.heap.size w3) w3) (.slice sp F.length cp) F rfl HO3.out e (edL e a1 c1 a2 c2 a3 c3 a4 c4) ⟨a1, c1, a2, c2, a3, c3, a4, c4, rfl, HI3.out⟩ rfl (edL_one e a1 c1 a2 c2 a3 c3 a4 c4) rfl hFl hsz3 ?_; intro v' w4 hown hgr)
        go_roundw
        case rel => exact ⟨i + 1, hlt, by go_num, n + (12 + tl), hn', by go_num, F ++ [e], by simp; omega, HST.out, OwnD.map hown fun x c h => edC.keep h (app_ty HO3.out (by decide) hgr), (HB3.out.alloc hsz3 _).grown hgr (by simp; omega) fun k hk => (OwnD.lt HO3.out k hk).1⟩
        case measure => simp [intOf]; omega
    · obtain rfl : i = L.length := by omega
      go_wp2_with fail
      go_ret3
      exact scan_ret (by rw [HL.out]; exact HTO.out.done) (by rw [HOK.out]; simp) (HO.out.lower HB1.out.size) (HB1.out.trans (HB.out.mono HB1.out.size))
end Go.Proofs.YthgpdnffahmhjaaGreatDoor.S18

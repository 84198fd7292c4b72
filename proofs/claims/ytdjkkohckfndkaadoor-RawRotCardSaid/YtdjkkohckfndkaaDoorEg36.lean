/- Texts put together: RcJ. -/
import Derived.Test.YtdjkkohckfndkaaDoorEg3
import Derived.Test.YtdjkkohckfndkaaDoorEg5
import Derived.Test.YtdjkkohckfndkaaDoorEg32
import Derived.Test.YtdjkkohckfndkaaDoorEg35
set_option linter.unusedSimpArgs false
set_option linter.unusedVariables false
set_option maxRecDepth 100000
namespace Go.Proofs.YtdjkkohckfndkaaDoor.S14
open Go.RowKit S2.Pl S3 S3.Pl
attribute [local go_sem ↓] loadR_eq storeR_eq buildR_eq sliceU8_eq
def cutR (r : RT) : RT := ⟨r.kind, r.seq, cutS r.key 110, cutS r.val 300⟩
def RetRec (r : RT) (w : World) (e : Ending) (w' : World) : Prop := e = .returned (.agg #[.int .i64 r.kind, .int .i64 r.seq, .string r.key, .string r.val]) ∧ Hid (Below w.heap.size w w')
theorem ret_rec1 {fn : Func} {p : Tmp} {a : Act} {w0 w : World} {g : Nat} {t : TypeId} {r : RT} (h : fn.results = #[.cell p 34]) (hd : a.defers = []) (hp : a.tmps.getD p undef = .pointer (some ⟨g, 0, none⟩)) (hk : Blk w g t (recL r)) (hb : Hid (Below w0.heap.size w0 w)) :
    bodyPost Tryd.prog fn (RetRec r w0) Exit.ret a w := by
  refine bodyPost_ret (v := .agg #[.int .i64 r.kind, .int .i64 r.seq, .string r.key, .string r.val]) ?_ hd ⟨rfl, hb⟩
  exact results_cell_row h _ _ g t (recL r).toArray (0, 0) _ hp hk Tryd.underlying34 rfl (by kernel_rfl)
set_option maxHeartbeats 8000000 in
theorem cut_rec (r : RT) (w : World) (hk : r.key.size ≤ maxLen) (hr : r.val.size ≤ maxLen) : Calls Tryd.prog 27 #[.agg #[.int .i64 r.kind, .int .i64 r.seq, .string r.key, .string r.val]] w (RetRec (cutR r) w) := by
  have hb1 := agg_zero w r
  have hk1 := Blk.new w 34 (recL r)
  obtain ⟨w1, hw1⟩ : ∃ w1, w.alloc (.cells #[.int .i64 r.kind, .int .i64 r.seq, .string r.key, .string r.val] 34) = w1 := ⟨_, rfl⟩
  have hb1 : Below w.heap.size w w1 := by rw [← hw1]; exact hb1
  have hk1 : Blk w1 w.heap.size 34 (recL r) := by rw [← hw1]; exact hk1
  have hb2 := (Below.refl w1.heap.size w1).alloc (Nat.le_refl _) (.cells #[.int .i64 0, .int .i64 0, .string ⟨#[]⟩, .string ⟨#[]⟩] 34)
  have hk2 := Blk.new w1 34 (recL zR)
  obtain ⟨w2, hw2⟩ : ∃ w2, w1.alloc (.cells #[.int .i64 0, .int .i64 0, .string ⟨#[]⟩, .string ⟨#[]⟩] 34) = w2 := ⟨_, rfl⟩
  have hk2 : Blk w2 w1.heap.size 34 (recL zR) := by rw [← hw2]; exact hk2
  rw [hw2] at hb2
  have HR2 : Hid (Blk w2 w.heap.size 34 (recL r)) := Lib.hid (hk1.below hb2 hk1.lt)
  have HZ2 := Lib.hid hk2
  have hlt := hk1.lt
  have HB2 := Lib.hid (hb1.trans (hb2.mono hb1.size))
  have c2 : w2.cell? ⟨w.heap.size, 2, none⟩ = some (.string r.key) := HR2.out.cell rfl
  have c3 : w2.cell? ⟨w.heap.size, 3, none⟩ = some (.string r.val) := HR2.out.cell rfl
  have f2 : w2.frozen? ⟨w.heap.size, 2, none⟩ = false := HR2.out.frozen 2
  have f3 : w2.frozen? ⟨w.heap.size, 3, none⟩ = false := HR2.out.frozen 3
  obtain ⟨K1, hK1⟩ : ∃ K1, r.key = K1 := ⟨_, rfl⟩
  obtain ⟨V1, hV1⟩ : ∃ V1, r.val = V1 := ⟨_, rfl⟩
  rw [hK1] at hk hw1 c2 ⊢
  rw [hV1] at hr hw1 c3 ⊢
  have HK1 := Lib.hid hK1
  have HV1 := Lib.hid hV1
  clear hb1 hk1 hb2 hk2 hK1 hV1
  have HE := Lib.hid (show cutR r = ⟨r.kind, r.seq, cutS K1 110, cutS V1 300⟩ by unfold cutR; rw [HK1.out, HV1.out])
  go_enter Tryd.func27, Tryd.ntmps27
  go_wp2_with fail
  go_region_with (first | (go_at_call_of 49 K1; refine (cut_any K1 110 _ hk (by decide)).mono ?_; rintro e w' ⟨rfl, rfl⟩) | (go_at_call_of 49 V1; refine (cut_any V1 300 _ hr (by decide)).mono ?_; rintro e w' ⟨rfl, rfl⟩))
  all_goals
    obtain ⟨w3, hw3⟩ : ∃ w3, ((w2.setCell ⟨w.heap.size, 2, none⟩ (.string (cutS K1 110))).setCell ⟨w.heap.size, 3, none⟩ (.string (cutS V1 300))).drew = w3 := ⟨_, rfl⟩
    have HK3 : Hid (Blk w3 w.heap.size 34 (recL ⟨r.kind, r.seq, cutS K1 110, cutS V1 300⟩)) := Lib.hid (by rw [← hw3]; exact ((HR2.out.set 2 _).set 3 _).drew)
    have HB3 : Hid (Below w.heap.size w w3) := Lib.hid (by rw [← hw3]; exact HB2.out.trans ((((Gr.refl w2 w.heap.size).setCell 2 _).setCell 3 _).drew.below HB2.out.size (Nat.le_refl _)))
    have HZ3 : Hid (Blk w3 w1.heap.size 34 (recL zR)) := Lib.hid (by rw [← hw3]; exact ((HZ2.out.setOther (by show w1.heap.size ≠ w.heap.size; omega) _).setOther (by show w1.heap.size ≠ w.heap.size; omega) _).drew)
    rw [hw3]
    have hld := run_loadR_blk HK3.out
    obtain ⟨w4, hst, HZ4, HB4⟩ := back_rec (w := w) ⟨r.kind, r.seq, cutS K1 110, cutS V1 300⟩ HZ3.out HB3.out (by omega)
    simp only at hst hld
    clear hw3 c2 c3 f2 f3 hw2 hw1
    go_wp2
    exact ret_rec1 (r := cutR r) rfl rfl rfl (by rw [HE.out]; exact HZ4.out) HB4
def recF : List FK := [.int .i64, .int .i64, .str, .str]
theorem recF_get {w : World} {a : Option Addr} {len : Nat} (h : IsRecs recF w a len) (hl : 0 < len) : ∃ b off, a = some ⟨b, off, none⟩ ∧ b < w.heap.size ∧ ∀ i, i < len →
    ∃ r : RT, RIn r ∧ ∀ j u, (recL r)[j]? = some u → w.cell? ⟨b, off + i * 4 + j, none⟩ = some u := by
  obtain ⟨b, off, ha, hb, hc⟩ := h.cells hl (by decide)
  refine ⟨b, off, ha, hb, fun i hi => ?_⟩
  obtain ⟨v0, c0, z0, rfl, k0⟩ := hc i hi 0 _ rfl
  obtain ⟨v1, c1, z1, rfl, k1⟩ := hc i hi 1 _ rfl
  obtain ⟨v2, c2, s2, rfl, k2⟩ := hc i hi 2 _ rfl
  obtain ⟨v3, c3, s3, rfl, k3⟩ := hc i hi 3 _ rfl
  refine ⟨⟨z0, z1, s2, s3⟩, ⟨k0, k1, k2, k3⟩, fun j u hj => ?_⟩
  have e4 : recF.length = 4 := rfl
  rw [e4] at c0 c1 c2 c3
  rw [Nat.add_assoc]
  match j, hj with
  | 0, hj => simp [recL] at hj; subst hj; exact c0
  | 1, hj => simp [recL] at hj; subst hj; exact c1
  | 2, hj => simp [recL] at hj; subst hj; exact c2
  | 3, hj => simp [recL] at hj; subst hj; exact c3
  | n + 4, hj => simp [recL] at hj
def GoodPost (n : Nat) (w : World) (e : Ending) (w' : World) : Prop :=
  ∃ G sp cap, e = .returned (.slice sp G.length cap) ∧ Hid ((∀ r ∈ G, chk r = 0) ∧ OwnRecs w.heap.size w' (.slice sp G.length cap) G ∧ Below w.heap.size w w') ∧ G.length ≤ n
set_option maxHeartbeats 8000000 in
theorem good_any (a : Option Addr) (len cap n : Nat) (w : World) (h : IsRecs recF w a len) (hn : n ≤ 1000) : Calls Tryd.prog 8 #[.slice a len cap, .int .i64 n] w (GoodPost n w) := by
  have hlm : len ≤ maxLen := h.1
  unfold maxLen at hlm
  have HR := Lib.hid h
  clear h
  go_enter Tryd.func8, Tryd.ntmps8
  go_wp2_with fail
  go_loopw [5, 6] (fun v x wr => ∃ i : Nat, i ≤ len ∧ x = .int .i64 i ∧ ∃ G : List RT, G.length ≤ n ∧ (∀ r ∈ G, chk r = 0) ∧ OwnRecs w.heap.size wr v G ∧ Below w.heap.size w wr) (fun _ x _ => len - (intOf x).toNat)
  case atStart => exact ⟨0, by omega, rfl, [], by simp, by simp, ownRecs_nil _ _, Below.refl _ _⟩
  case round =>
    obtain ⟨i, hi, rfl, G, hG, hok, ho, hb⟩ := hrel
    have HO := Lib.hid ho
    have HB := Lib.hid hb
    have HOK := Lib.hid hok
    obtain ⟨sp, cp, rfl, hcp, hcm⟩ := ho.slice
    clear ho hb hok
    by_cases hlt : i < len
    · by_cases hfew : G.length < n
      · obtain ⟨b, off, rfl, hbl, hcs⟩ := recF_get HR.out (by omega)
        obtain ⟨r, hr, hcell⟩ := hcs i hlt
        have hld := run_loadR (w := wr) (g := b) (o := off + i * 4) (cs := recL r) rfl (fun j u hj => (HB.out.cell (p := ⟨b, _, none⟩) hbl).trans (hcell j u hj))
        simp only [recL] at hld
        have hcut := cut_rec r wr hr.key hr.val
        have hsz1 := cutS_size r.key 110
        have hsz2 := cutS_size r.val 300
        obtain ⟨q, hq⟩ : ∃ q, cutR r = q := ⟨_, rfl⟩
        have hq1 : q.key.size ≤ 110 := by rw [← hq]; exact hsz1
        have hq2 : q.val.size ≤ 300 := by rw [← hq]; exact hsz2
        rw [hq] at hcut
        have HCUT := Lib.hid hcut
        clear hcs hcell hcut hsz1 hsz2 hq hr hbl
        go_wp2_with fail
        refine HCUT.out.mono ?_
        rintro e w2 ⟨rfl, hb2⟩
        obtain ⟨w3, hst, HR3, HG3⟩ := back_rec (w := w2) q (Blk.new w2 34 (recL zR)) ((Below.refl _ _).alloc (Nat.le_refl _) _) (Nat.le_refl _)
        simp only [recL, zR] at hst
        have hb3 : Below wr.heap.size wr w3 := hb2.out.trans (HG3.out.mono hb2.out.size)
        have HO3 := Lib.hid (HO.out.below hb3)
        have HB3 : Hid (Below w.heap.size w w3) := Lib.hid (HB.out.trans (hb3.mono HB.out.size))
        have hld3 := run_loadR_blk HR3.out
        have hck := refCheck_any q w3 (by unfold maxLen; omega) (by unfold maxLen; omega)
        obtain ⟨c, hc⟩ : ∃ c, chk q = c := ⟨_, rfl⟩
        rw [hc] at hck
        have HC := Lib.hid hc
        have HCK := Lib.hid hck
        clear hb2 hb3 HO HB HCUT hld hck hc
        go_wp2_with fail
        refine HCK.out.mono ?_
        rintro e w4 ⟨rfl, hb4⟩
        have HO4 := Lib.hid (HO3.out.below hb4)
        have HB4 := Lib.hid (HB3.out.trans (hb4.mono HB3.out.size))
        have HR4 := Lib.hid (HR3.out.below hb4 HR3.out.lt)
        have hgl := HR3.out.lt
        clear hld3 hb4 HO3 HB3 HCK hst
        by_cases h0 : c = 0
        · subst h0
          have hld4 := run_loadR_blk HR4.out
          have hsz4 := HB4.out.size
          go_wp2_with (at_builtin; refine wpList_append_rec rfl (.tmp 28) (.tmp 30) rfl w.heap.size _ G rfl HO4.out q rfl (by omega) hsz4 ?_; intro v' w5 hown hgr)
          go_roundw
          case rel => exact ⟨i + 1, hlt, by go_num, G ++ [q], by simp; omega, by intro x hx; rw [List.mem_append, List.mem_singleton] at hx; exact hx.elim (HOK.out x) (fun h => by rw [h]; exact HC.out), hown, (HB4.out.alloc hsz4 _).grown hgr (by simp; omega) HO4.out.lt⟩
          case measure => simp [intOf]; omega
        · have hne : ((c : Int) == 0) = false := beq_f (by omega)
          go_wp2_with fail
          go_roundw
          case rel => exact ⟨i + 1, hlt, by go_num, G, hG, HOK.out, HO4.out, HB4.out⟩
          case measure => simp [intOf]; omega
      · have hgn : G.length = n := by omega
        have hd : decide ((G.length : Int) < (n : Int)) = false := by simp; omega
        have hd2 : decide (G.length < n) = false := by simp; omega
        go_wp2_with fail
        go_ret
        exact ⟨G, sp, cp, rfl, Lib.hid ⟨HOK.out, HO.out, HB.out⟩, hG⟩
    · obtain rfl : i = len := by omega
      go_wp2_with fail
      go_ret
      exact ⟨G, sp, cp, rfl, Lib.hid ⟨HOK.out, HO.out, HB.out⟩, hG⟩
end Go.Proofs.YtdjkkohckfndkaaDoor.S14

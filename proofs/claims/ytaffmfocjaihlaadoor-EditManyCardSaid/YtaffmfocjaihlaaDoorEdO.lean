/- EditMany, walked. -/
import Derived.Test.YtaffmfocjaihlaaDoorEdK
set_option linter.unusedSimpArgs false
set_option linter.unusedVariables false
set_option maxRecDepth 100000
namespace Go.Proofs.YtaffmfocjaihlaaDoor.S18
open Go.RowKit S2.Pl S3 S3.Pl
attribute [local go_sem ↓] loadS_eq storeS_eq loadP_eq storeP_eq loadE_eq storeE_eq buildE_eq buildS_eq
def sgK (k : Nat) : SG := ⟨(k : Int) + 1, false, 0, 0, 0, 0⟩
def sgs (i : Nat) : List SG := (List.range i).map sgK
def nms (i : Nat) : List Int := (List.range i).map fun (k : Nat) => (k : Int) + 1
theorem sgs_succ (i : Nat) : sgs (i + 1) = sgs i ++ [sgK i] := by simp [sgs, List.range_succ]
theorem nms_succ (i : Nat) : nms (i + 1) = nms i ++ [(i : Int) + 1] := by simp [nms, List.range_succ]
theorem sgs_length (i : Nat) : (sgs i).length = i := by simp [sgs]
theorem nms_length (i : Nat) : (nms i).length = i := by simp [nms]
def eM (m n : Nat) : ED := ⟨0, 0, sgs m, nms n, [], []⟩
theorem sumz : sumW 0 := ⟨by decide, by decide⟩
theorem eM_w (m n : Nat) : EdW (eM m n) := by
  refine ⟨fun s hs => ?_, fun p hp => by simp [eM] at hp⟩
  simp only [eM, sgs, List.mem_map] at hs
  obtain ⟨k, _, rfl⟩ := hs
  exact sumz
theorem eM_b {m n : Nat} (hm : m ≤ 80) (hn : n ≤ 80) : edB (eM m n) = (decide (m ≤ 60) && decide (n ≤ 60)) := by
  have h1 : ∀ s ∈ sgs m, segB s = true := fun s hs => by
    simp only [sgs, List.mem_map, List.mem_range] at hs
    obtain ⟨k, hk, rfl⟩ := hs
    have hk1 : numB ((k : Int) + 1) = true := inB_3 (by omega) (by omega)
    unfold sgK segB
    simp only [hk1]
    rfl
  have h2 : ∀ s ∈ nms n, numB s = true := fun s hs => by
    simp only [nms, List.mem_map, List.mem_range] at hs
    obtain ⟨k, hk, rfl⟩ := hs
    unfold numB
    exact inB_3 (by omega) (by omega)
  have a1 : allB segB (sgs m) = decide (m ≤ 60) := by
    unfold allB
    rw [sgs_length, List.all_eq_true.2 h1, Bool.and_true]
  have a2 : allB numB (nms n) = decide (n ≤ 60) := by
    unfold allB
    rw [nms_length, List.all_eq_true.2 h2, Bool.and_true]
  have e3 : allB parB ([] : List PT) = true := rfl
  have e4 : allB numB ([] : List Int) = true := rfl
  unfold edB eM
  rw [a1, a2, e3, e4]
  simp [inB]
theorem run_buildS1 (w : World) (a : Int) : (buildS #[(0, .int .i64 a)]).run Tryd.prog w = .ok (.agg #[.int .i64 a, .bool false, .int .i64 0, .int .i64 0, .int .i64 0, .int .u32 0]) w := by kernel_rfl
attribute [local go_sem] run_buildS1
def mL (a1 : Option Addr) (n1 c1 : Nat) (a2 : Option Addr) (n2 c2 : Nat) : List Value := [.int .i64 0, .int .i64 0, .slice a1 n1 c1, .slice a2 n2 c2, .slice none 0 0, .slice none 0 0]
theorem eM_L (m n : Nat) (a1 : Option Addr) (c1 : Nat) (a2 : Option Addr) (c2 : Nat) : edL (eM m n) a1 c1 a2 c2 none 0 none 0 = mL a1 m c1 a2 n c2 := by
  unfold edL eM mL
  simp [sgs_length, nms_length]
theorem bytes_of' {w1 w2 : World} {e : ED} {sp : Option Addr} {n cap : Nat} (hn : (encE e).length = n) (h : w2.ownsRow w1.heap.size 5 1 (.slice sp n cap) n (u8s (encE e))) : IsBytes w2 (.slice sp n cap) (encE e) := by
  subst hn
  exact isBytes_own (encE_lt e) h
abbrev OwnS (base : Nat) (w : World) (v : Value) (L : List SG) : Prop := OwnD base 45 6 segC w v L
set_option maxHeartbeats 32000000 in
theorem editMany_walk (adds dels : Int) (w : World) (hT : Tab w) (h1 : (Lit.int .i64 adds).wf = true) (h2 : (Lit.int .i64 dels).wf = true) :
    Calls Tryd.prog 7 #[.int .i64 adds, .int .i64 dels] w fun e w' => e = .returned (.bool true) ∧ Below w.heap.size w w' := by
  clear h1 h2
  have HBEG := Lib.hid (begun_any w hT)
  have HT := Lib.hid hT
  clear hT
  by_cases p1 : adds < 0
  · go_enter Tryd.func7, Tryd.ntmps7
    go_wp2_with fail
    refine HBEG.out.mono ?_
    rintro r w1 ⟨rfl, hb1⟩
    have HB1 := Lib.hid hb1
    clear hb1 HBEG
    go_wp2
    go_ret
    exact ⟨rfl, HB1.out⟩
  by_cases p2 : 80 < adds
  · go_enter Tryd.func7, Tryd.ntmps7
    go_wp2_with fail
    refine HBEG.out.mono ?_
    rintro r w1 ⟨rfl, hb1⟩
    have HB1 := Lib.hid hb1
    clear hb1 HBEG
    go_wp2
    go_ret
    exact ⟨rfl, HB1.out⟩
  by_cases p3 : dels < 0
  · go_enter Tryd.func7, Tryd.ntmps7
    go_wp2_with fail
    refine HBEG.out.mono ?_
    rintro r w1 ⟨rfl, hb1⟩
    have HB1 := Lib.hid hb1
    clear hb1 HBEG
    go_wp2
    go_ret
    exact ⟨rfl, HB1.out⟩
  by_cases p4 : 80 < dels
  · go_enter Tryd.func7, Tryd.ntmps7
    go_wp2_with fail
    refine HBEG.out.mono ?_
    rintro r w1 ⟨rfl, hb1⟩
    have HB1 := Lib.hid hb1
    clear hb1 HBEG
    go_wp2
    go_ret
    exact ⟨rfl, HB1.out⟩
  obtain ⟨m, rfl⟩ : ∃ m : Nat, adds = (m : Int) := ⟨adds.toNat, by omega⟩
  obtain ⟨n, rfl⟩ : ∃ n : Nat, dels = (n : Int) := ⟨dels.toNat, by omega⟩
  have hm : m ≤ 80 := by omega
  have hn : n ≤ 80 := by omega
  go_enter Tryd.func7, Tryd.ntmps7
  go_wp2_with fail
  refine HBEG.out.mono ?_
  rintro r w1 ⟨rfl, hb1⟩
  have HB1 := Lib.hid hb1
  have hA2 : Below w1.heap.size w1 (w1.alloc (.cells #[.int .i64 0, .int .i64 0, .slice none 0 0, .slice none 0 0, .slice none 0 0, .slice none 0 0] 26)) := (Below.refl _ _).alloc (Nat.le_refl _) _
  have hN2 : Blk (w1.alloc (.cells #[.int .i64 0, .int .i64 0, .slice none 0 0, .slice none 0 0, .slice none 0 0, .slice none 0 0] 26)) w1.heap.size 26 (mL none 0 0 none 0 0) := Blk.new w1 26 (mL none 0 0 none 0 0)
  obtain ⟨w2, hw2⟩ : ∃ w2, w1.alloc (.cells #[.int .i64 0, .int .i64 0, .slice none 0 0, .slice none 0 0, .slice none 0 0, .slice none 0 0] 26) = w2 := ⟨_, rfl⟩
  rw [hw2] at hA2 hN2
  have HA2 := Lib.hid hA2
  have HN2 := Lib.hid hN2
  clear hb1 hA2 hN2 HBEG p1 p2 p3 p4
  go_wp2_with fail
  obtain ⟨g, hg⟩ : ∃ g, w1.heap.size = g := ⟨_, rfl⟩
  rw [hg] at HA2 HN2 ⊢
  have HG := Lib.hid hg
  have HGL : Hid (g < w2.heap.size) := Lib.hid HN2.out.lt
  clear hw2 hg
  go_loopw [7] (fun y wr => ∃ i : Nat, i ≤ m ∧ y = .int .i64 i ∧ ∃ (a1 : Option Addr) (c1 : Nat), Blk wr g 26 (mL a1 i c1 none 0 0) ∧ OwnS w2.heap.size wr (.slice a1 i c1) (sgs i) ∧ Below g w1 wr ∧ w2.heap.size ≤ wr.heap.size) (fun y _ => m - (intOf y).toNat)
  case atStart => exact ⟨0, by omega, rfl, none, 0, HN2.out, OwnD.nil _ _ _ _ _, HA2.out, Nat.le_refl _⟩
  case round =>
    obtain ⟨i, hi, rfl, a1, c1, hk, ho, hb, hz⟩ := hrel
    have HK := Lib.hid hk
    have HO := Lib.hid ho
    have HB := Lib.hid hb
    have d2 : wr.cell? ⟨g, 2, none⟩ = some (.slice a1 i c1) := hk.cell rfl
    clear hk ho hb
    by_cases hlt : i < m
    · have hFl : (sgs i).length + 1 ≤ 4294967296 := by rw [sgs_length]; omega
      go_wp2_with (at_builtin; refine wpList_append_D 22 45 6 (.agg (segL zS).toArray) 48 Tryd.underlying22 infoS rfl (by decide) (by decide) rfl (.tmp 37) (.tmp 41) rfl w2.heap.size segC (.slice a1 i c1) (sgs i) rfl HO.out (sgK i) (segL (sgK i)) ⟨rfl, sumz⟩ rfl (segL_one _) rfl hFl hz ?_; intro v4 w4 ho4 hgr4; rw [← sgs_succ] at ho4; obtain ⟨a4, c4, rfl, _, _⟩ := OwnD.slice ho4; rw [sgs_length] at ho4; have hlt4 := (fun b hb => (OwnD.lt HO.out b hb).1); have hbA := gr_below ((Below.refl wr.heap.size wr).alloc (Nat.le_refl _) (.cells (segL (sgK i)).toArray 45 (0, 0))); have HK4 := Lib.hid ((HK.out.alloc (.cells (segL (sgK i)).toArray 45 (0, 0))).grown hgr4 (fun e => by have := hlt4 g e.symm; have := HGL.out; omega)); have HB4 := Lib.hid (Below.grown (Below.alloc HB.out (by have := HGL.out; omega) (.cells (segL (sgK i)).toArray 45 (0, 0))) hgr4 (by have := HGL.out; simp; omega) (fun b hb => by have := hlt4 b hb; have := HGL.out; omega)); have hz4 : w2.heap.size ≤ w4.heap.size := Nat.le_trans hz (Nat.le_trans hbA.size hgr4.size); have HO4 := Lib.hid ho4; have d4 : w4.cell? ⟨g, 2, none⟩ = some (.slice a1 i c1) := HK4.out.cell rfl; have z4 : w4.frozen? ⟨g, 2, none⟩ = false := HK4.out.frozen 2; clear ho4 hgr4 hlt4 hbA d2)
      have hlen4 : ((sgs (i + 1)).length : Int) = ((i + 1 : Nat) : Int) := by rw [sgs_length]
      obtain ⟨w5, hw5⟩ : ∃ w5, w4.setCell ⟨g, 2, none⟩ (.slice a4 (i + 1) c4) = w5 := ⟨_, rfl⟩
      have HK5 : Hid (Blk w5 g 26 (mL a4 (i + 1) c4 none 0 0)) := Lib.hid (by rw [← hw5]; exact HK4.out.set 2 _)
      have HS5 : Hid (Gr w4 w5 g) := Lib.hid (by rw [← hw5]; exact (Gr.refl w4 g).setCell 2 _)
      have HO5 : Hid (OwnS w2.heap.size w5 (.slice a4 (i + 1) c4) (sgs (i + 1))) := Lib.hid (OwnD.keep HO4.out HS5.out (fun b hb e => by have := (OwnD.lt HO4.out b hb).1; have := HGL.out; simp at e; omega) fun _ _ h => h)
      have HB5 : Hid (Below g w1 w5) := Lib.hid (Below.trans HB4.out (Gr.below HS5.out (by have := HGL.out; omega) (Nat.le_refl _)))
      have hz5 : w2.heap.size ≤ w5.heap.size := Nat.le_trans hz4 HS5.out.size
      clear hlen4
      go_roundw
      case rel => exact ⟨i + 1, hlt, by go_num, a4, c4, by rw [sgs_length, hw5]; exact HK5.out, by rw [sgs_length, hw5]; exact HO5.out, by rw [sgs_length, hw5]; exact HB5.out, by rw [sgs_length, hw5]; exact hz5⟩
      case measure => simp [intOf]; omega
    · obtain rfl : i = m := by omega
      clear d2
      go_wp2_with fail
      go_loopw [8] (fun y wq => ∃ j : Nat, j ≤ n ∧ y = .int .i64 j ∧ ∃ (a2 : Option Addr) (c2 : Nat), Blk wq g 26 (mL a1 i c1 a2 j c2) ∧ OwnS w2.heap.size wq (.slice a1 i c1) (sgs i) ∧ OwnN w2.heap.size wq (.slice a2 j c2) j (nms j) ∧ Below g w1 wq ∧ w2.heap.size ≤ wq.heap.size) (fun y _ => n - (intOf y).toNat)
      case atStart => exact ⟨0, by omega, rfl, none, 0, HK.out, HO.out, World.ownsRow_nil _ _ _ _, HB.out, hz⟩
      case round =>
        clear HK HO HB hz
        obtain ⟨j, hj, rfl, a2, c2, hk, ho, hn2, hb, hz⟩ := hrel
        have HK := Lib.hid hk
        have HO := Lib.hid ho
        have HN := Lib.hid hn2
        have HB := Lib.hid hb
        have d3 : wr.cell? ⟨g, 3, none⟩ = some (.slice a2 j c2) := hk.cell rfl
        clear hk ho hb hn2
        by_cases hlt2 : j < n
        · go_wp2_with (at_builtin; refine wpList_app_new rfl (.tmp 50) (.tmp 53) rfl w2.heap.size (.slice a2 j c2) j (nms j) rfl HN.out [(j : Int) + 1] 1 rfl rfl (by omega) hz ?_; intro v4 w4 ho4 hgr4; rw [← nms_succ] at ho4; obtain ⟨a4, c4, rfl, _, _⟩ := ownsRow_slice ho4; have HK4 := Lib.hid (app_blk HK.out (by decide) HN.out hgr4); have HO4 : Hid (OwnS w2.heap.size w4 (.slice a1 i c1) (sgs i)) := Lib.hid (OwnD.keep (OwnD.below HO.out ((Below.refl wr.heap.size wr).alloc (Nat.le_refl _) (.cells (i64s [(j : Int) + 1]).toArray 2 (0, 0))) fun _ _ h => h) hgr4 (fun b hb e => by obtain ⟨x1, hx1⟩ := OwnD.ty HO.out b hb; obtain ⟨x2, hx2⟩ := own_tyN HN.out b e; exact hx1.ne hx2 (by decide) rfl) fun _ _ h => h); have HB4 := Lib.hid (Below.grown (Below.alloc HB.out (by have := HGL.out; omega) (.cells (i64s [(j : Int) + 1]).toArray 2 (0, 0))) hgr4 (by have := HGL.out; simp; omega) (fun b hb => by have := (World.ownsRow.lt HN.out b hb).1; have := HGL.out; omega)); have hz4 : w2.heap.size ≤ w4.heap.size := Nat.le_trans hz (Nat.le_trans ((Below.refl wr.heap.size wr).alloc (Nat.le_refl _) (.cells (i64s [(j : Int) + 1]).toArray 2 (0, 0))).size hgr4.size); have HN4 := Lib.hid ho4; have d4 : w4.cell? ⟨g, 3, none⟩ = some (.slice a2 j c2) := HK4.out.cell rfl; have z4 : w4.frozen? ⟨g, 3, none⟩ = false := HK4.out.frozen 3; clear ho4 hgr4 d3)
          obtain ⟨w5, hw5⟩ : ∃ w5, w4.setCell ⟨g, 3, none⟩ (.slice a4 (j + 1) c4) = w5 := ⟨_, rfl⟩
          have HK5 : Hid (Blk w5 g 26 (mL a1 i c1 a4 (j + 1) c4)) := Lib.hid (by rw [← hw5]; exact HK4.out.set 3 _)
          have HS5 : Hid (Gr w4 w5 g) := Lib.hid (by rw [← hw5]; exact (Gr.refl w4 g).setCell 3 _)
          have HO5 : Hid (OwnS w2.heap.size w5 (.slice a1 i c1) (sgs i)) := Lib.hid (OwnD.keep HO4.out HS5.out (fun b hb e => by have := (OwnD.lt HO4.out b hb).1; have := HGL.out; simp at e; omega) fun _ _ h => h)
          have HN5 : Hid (OwnN w2.heap.size w5 (.slice a4 (j + 1) c4) (j + 1) (nms (j + 1))) := Lib.hid (own_keepD HN4.out HS5.out (fun b hb e => by have := (World.ownsRow.lt HN4.out b hb).1; have := HGL.out; simp at e; omega))
          have HB5 : Hid (Below g w1 w5) := Lib.hid (Below.trans HB4.out (Gr.below HS5.out (by have := HGL.out; omega) (Nat.le_refl _)))
          have hz5 : w2.heap.size ≤ w5.heap.size := Nat.le_trans hz4 HS5.out.size
          go_roundw
          case rel => exact ⟨j + 1, hlt2, by go_num, a4, c4, by rw [hw5]; exact HK5.out, by rw [hw5]; exact HO5.out, by rw [hw5]; exact HN5.out, by rw [hw5]; exact HB5.out, by rw [hw5]; exact hz5⟩
          case measure => simp [intOf]; omega
        · obtain rfl : j = n := by omega
          have hx : ∀ p : Prop, p → True := fun _ _ => trivial
          have hld := run_loadE (w := wr) (g := g) (o := 0) (cs := mL a1 i c1 a2 j c2) rfl fun q u hq => by rw [Nat.zero_add]; exact HK.out.cell hq
          have HT' := Lib.hid (HT.out.below HB1.out)
          have hgw : w1.heap.size = g := HG.out
          have HTr : Hid (Tab wr) := Lib.hid (HT'.out.below (by rw [hgw]; exact HB.out))
          have HI : Hid (EdIn (fun _ => True) wr (eM i j) a1 c1 a2 c2 none 0 none 0) := Lib.hid ⟨by show RowD _ _ _ _ (.slice a1 (sgs i).length c1) _; rw [sgs_length]; exact OwnD.row HO.out fun _ _ _ _ => trivial, by show RowD _ _ _ _ (.slice a2 (nms j).length c2) _; rw [nms_length]; exact OwnD.row (ownD_nums (nms_length j).symm HN.out) fun _ _ _ _ => trivial, RowD.nil, RowD.nil⟩
          have hen := encode_any (eM i j) a1 c1 a2 c2 none 0 none 0 wr HTr.out HI.out
          have HBw : Hid (Below w.heap.size w wr) := Lib.hid (HB1.out.trans (by have hb := HB.out; rw [← hgw] at hb; exact hb.mono HB1.out.size))
          have e1 : (eM i j).adds.length = i := sgs_length i
          have e2 : (eM i j).dels.length = j := nms_length j
          have e3 : (eM i j).next = 0 := rfl
          have e4 : (eM i j).seq = 0 := rfl
          have e5 : (eM i j).pars.length = 0 := rfl
          have e6 : (eM i j).drops.length = 0 := rfl
          rw [e1, e2, e3, e4, e5, e6] at hen
          have HEN := Lib.hid hen
          have hbb := eM_b hm hn
          simp only [mL] at hld
          clear hgw e1 e2 e3 e4 e5 e6 hen d3
          by_cases hok : i ≤ 60 ∧ j ≤ 60
          · rw [decide_eq_true hok.1, decide_eq_true hok.2] at hbb
            have HF : Hid (Fine (eM i j)) := Lib.hid ⟨hbb, eM_w i j⟩
            have HC := Lib.hid (enc_good hbb).2
            obtain ⟨o1, o2⟩ := hok
            clear hbb
            go_wp2_with fail
            refine HEN.out.mono ?_
            rintro r w5 ⟨sp, l, cap, rfl, hl, ho5, hb5⟩
            rw [HC.out]
            have hib : IsBytes w5 (.slice sp l cap) (encE (eM i j)) := bytes_of' hl ho5.out
            have HB5 := Lib.hid (HBw.out.trans (hb5.out.mono HBw.out.size))
            have hnl : l ≤ 20012 := by rw [← hl]; exact encE_len HF.out.2
            have hsc := scan_any (.slice sp l cap) (encE (eM i j)) w5 (HT.out.below HB5.out) hib (by rw [hl]; omega)
            unfold ScanPost at hsc
            rw [scan_one HF.out, hl] at hsc
            have HSC := Lib.hid hsc
            clear hl ho5 hb5 hib hsc hld HEN
            go_wp2_with fail
            refine HSC.out.mono ?_
            rintro r w6 ⟨sq, cq, rfl, ho6, hb6⟩
            obtain ⟨b, off, u1, k1, u2, k2, u3, k3, u4, k4, rfl, _, hu, _⟩ := eds_cells (OwnEds.row ho6.out) (i := 0) (e := eM i j) rfl
            have q2 : w6.cell? ⟨b, off + 2, none⟩ = some (.slice u1 i k1) := by have := hu 2 _ rfl; rw [Nat.zero_mul, Nat.add_zero] at this; rw [this]; unfold eM; simp [sgs_length]
            have q3 : w6.cell? ⟨b, off + 3, none⟩ = some (.slice u2 j k2) := by have := hu 3 _ rfl; rw [Nat.zero_mul, Nat.add_zero] at this; rw [this]; unfold eM; simp [nms_length]
            have HB6 := Lib.hid (HB5.out.trans (hb6.out.mono HB5.out.size))
            clear HSC ho6 hb6 hu
            go_wp2
            go_ret
            exact ⟨rfl, HB6.out⟩
          · have hbf : edB (eM i j) = false := by
              rw [hbb]
              cases h6 : decide (i ≤ 60) with
              | false => rfl
              | true =>
                have := of_decide_eq_true h6
                rw [decide_eq_false (by omega)]
                rfl
            have HC := Lib.hid (enc_bad hbf)
            clear hbb hbf
            by_cases o1 : 60 < i
            · go_wp2_with fail
              refine HEN.out.mono ?_
              rintro r w5 ⟨sp, l, cap, rfl, hl, ho5, hb5⟩
              rw [HC.out.2]
              have hl0 : l = 0 := by rw [HC.out.1] at hl; exact hl.symm
              subst hl0
              have HB5 := Lib.hid (HBw.out.trans (hb5.out.mono HBw.out.size))
              clear hl ho5 hb5
              go_wp2
              go_ret
              exact ⟨rfl, HB5.out⟩
            · have o2 : 60 < j := by omega
              go_wp2_with fail
              refine HEN.out.mono ?_
              rintro r w5 ⟨sp, l, cap, rfl, hl, ho5, hb5⟩
              rw [HC.out.2]
              have hl0 : l = 0 := by rw [HC.out.1] at hl; exact hl.symm
              subst hl0
              have HB5 := Lib.hid (HBw.out.trans (hb5.out.mono HBw.out.size))
              clear hl ho5 hb5
              go_wp2
              go_ret
              exact ⟨rfl, HB5.out⟩
end Go.Proofs.YtaffmfocjaihlaaDoor.S18

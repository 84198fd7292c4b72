/- EditRot, walked. -/
import Derived.Test.YtaffmfocjaihlaaDoorEdY
import Derived.Test.YtaffmfocjaihlaaDoorEdN
import Derived.Test.YtaffmfocjaihlaaDoorEdV
import Derived.Deep.DeepCutAuto
import Derived.Deep.CutBlock
set_option linter.unusedSimpArgs false
set_option linter.unusedVariables false
set_option maxRecDepth 100000
namespace Go.Proofs.YtaffmfocjaihlaaDoor.S18
open Go.RowKit S2.Pl S3 S3.Pl
attribute [local go_sem ↓] loadS_eq storeS_eq loadP_eq storeP_eq loadE_eq storeE_eq sliceU8_eq
set_option maxHeartbeats 32000000 in
theorem editRot_walk (a : Option Addr) (cap : Nat) (L : List ED) (cut at' x : Int) (w : World) (hT : Tab w) (hl : IsEds (fun k => k < w.heap.size) w (.slice a L.length cap) L) (h1 : (Lit.int .i64 cut).wf = true) (h2 : (Lit.int .i64 at').wf = true) (h3 : (Lit.int .u8 x).wf = true) :
    Calls Tryd.prog 4 #[.slice a L.length cap, .int .i64 cut, .int .i64 at', .int .u8 x] w fun r w' => r = .returned (.bool true) ∧ Below w.heap.size w w' := by
  have hx2 := u8_wf h3
  obtain ⟨X, rfl⟩ := Int.eq_ofNat_of_zero_le hx2.1
  have hX : X < 256 := by omega
  obtain ⟨_, hcap, hmax⟩ := RowD.cap hl
  unfold maxLen at hmax
  have HBEG := Lib.hid (begun_any w hT)
  have HT := Lib.hid hT
  obtain ⟨n, hn⟩ : ∃ n, L.length = n := ⟨_, rfl⟩
  rw [hn] at hl hcap ⊢
  have HL := Lib.hid hl
  have HLN := Lib.hid hn
  clear hT hl h1 h2 h3 hx2 hn
  go_enter Tryd.func4, Tryd.ntmps4
  go_wp2_with fail
  refine HBEG.out.mono ?_
  rintro r w1 ⟨rfl, hb1⟩
  have HB1 := Lib.hid hb1
  have h0 : w.heap.size ≤ w1.heap.size := hb1.size
  have FW : Hid (∀ W, Below w1.heap.size w1 W → Below w.heap.size w W) := Lib.hid fun W hW => HB1.out.trans (hW.mono h0)
  clear hb1 HBEG
  go_upto_block 0 with fail
  go_cut [10, 11, 12] (fun vb ve vm wx => ∃ G : List ED, (∀ e ∈ G, Fine e) ∧ G.length ≤ 6 ∧ Rot3 w.heap.size w1 wx vb ve vm (encs G) (endsF G) G)
  case first =>
    go_wp2_with fail
    go_loopw [10, 11, 12, 13] (fun vb ve vm y wr => ∃ (i : Nat) (G : List ED), i ≤ n ∧ i ≤ 6 ∧ y = .int .i64 i ∧ (∀ e ∈ G, Fine e) ∧ G.length ≤ i ∧ Rot3 w.heap.size w1 wr vb ve vm (encs G) (endsF G) G) (fun _ _ _ y _ => n - (intOf y).toNat)
    case atStart => exact ⟨0, [], by omega, by omega, rfl, by simp, by simp, Rot3.start _ _⟩
    case round =>
      obtain ⟨i, G, hi, hi6, rfl, hG, hGi, hR⟩ := hrel
      have HG := Lib.hid hG
      have HR := Lib.hid hR
      obtain ⟨sb, cb, se, ce, sm, cm, rfl, rfl, rfl⟩ := hR.sizes
      have hgl := encs_len hG
      have hsz : w1.heap.size ≤ wr.heap.size := hR.bytes.2.size
      have HBW : Hid (Below w.heap.size w wr) := Lib.hid (HB1.out.trans (hR.bytes.2.mono h0))
      clear hG hR
      obtain ⟨N, hN⟩ : ∃ N, (encs G).length = N := ⟨_, rfl⟩
      obtain ⟨gn, hgn⟩ : ∃ k, G.length = k := ⟨_, rfl⟩
      rw [endsF_length] at HR ⊢
      rw [hN, hgn] at HR hgl ⊢
      rw [hgn] at hGi
      have HN := Lib.hid hN
      have HGN := Lib.hid hgn
      clear hN hgn
      by_cases hlt1 : i < n
      rotate_left
      · go_wp2_with fail
        go_meet
        case rel => exact ⟨G, HG.out, by rw [HGN.out]; omega, by simpa only [endsF_length, HN.out, HGN.out] using HR.out⟩
      by_cases hlt6 : i < 6
      rotate_left
      · go_wp2_with fail
        go_meet
        case rel => exact ⟨G, HG.out, by rw [HGN.out]; omega, by simpa only [endsF_length, HN.out, HGN.out] using HR.out⟩
      · skip
        obtain ⟨e, hx⟩ : ∃ e, L[i]? = some e := ⟨_, List.getElem?_eq_getElem (by rw [HLN.out]; exact hlt1)⟩
        obtain ⟨bk, off, a1, c1, a2, c2, a3, c3, a4, c4, rfl, hbl, hu, hI⟩ := eds_cells HL.out hx
        have LD : Hid (∀ W, Below w.heap.size w W → (loadE (.pointer (some ⟨bk, off + i * 6, none⟩))).run Tryd.prog W = .ok (.agg (edL e a1 c1 a2 c2 a3 c3 a4 c4).toArray) W) := Lib.hid fun W hW => run_loadE rfl fun j v hj => (Below.cell (p := ⟨bk, _, none⟩) hW hbl).trans (hu j v hj)
        have CT : Hid (∀ W, Below w.heap.size w W → Calls Tryd.prog 9 #[.agg (edL e a1 c1 a2 c2 a3 c3 a4 c4).toArray] W (CutPost w.heap.size e W)) := Lib.hid fun W hW => cut_any w.heap.size e a1 c1 a2 c2 a3 c3 a4 c4 W hW.size (hI.keep (keep_below hW))
        have hld := LD.out wr HBW.out
        have hct := CT.out wr HBW.out
        clear hu hI hx
        go_wp2_with fail
        refine hct.mono ?_
        rintro r w2 ⟨x1, y1, x2, y2, x3, y3, x4, y4, rfl, hi2, hb2⟩
        have hen := encode_any (cutE e) x1 y1 x2 y2 x3 y3 x4 y4 w2 (HT.out.below (HBW.out.trans (hb2.out.mono HBW.out.size))) hi2.out
        have HEW := Lib.hid hi2.out.w
        have HR2 := Lib.hid (HR.out.below hb2.out)
        clear hct hld hi2 hb2
        go_wp2_with fail
        refine hen.mono ?_
        rintro r w3 ⟨sp, l, cp3, rfl, hl3, ho3, hb3⟩
        have HR3 := Lib.hid (HR2.out.below hb3.out)
        clear hen HR2 HR
        cases hed : edB (cutE e) with
        | false =>
          obtain ⟨_, hc⟩ := enc_bad hed
          rw [hc]
          clear hed hc hl3 ho3 hb3
          go_wp2_with fail
          go_roundw
          case rel => exact ⟨i + 1, G, hlt1, by omega, by go_num, HG.out, by rw [HGN.out]; omega, by simpa only [endsF_length, HN.out, HGN.out] using HR3.out⟩
          case measure => simp [intOf]; omega
        | true =>
          obtain ⟨_, hc⟩ := enc_good hed
          have HF : Hid (Fine (cutE e)) := Lib.hid ⟨hed, HEW.out⟩
          rw [hc]
          obtain ⟨C, hC⟩ : ∃ C, encE (cutE e) = C := ⟨_, rfl⟩
          have hlt8 := encE_lt (cutE e)
          have hle := encE_len HEW.out
          rw [hC] at hl3 ho3 hlt8 hle
          subst hl3
          have HIB := Lib.hid (isBytes_own hlt8 ho3.out)
          have HCE := Lib.hid hC
          have hob := HR3.out.bytes.1
          rw [HN.out] at hob
          have HOB := Lib.hid hob
          have hsz3 := HR3.out.bytes.2.size
          clear hed hc ho3 hb3 hC hlt8 hob
          obtain ⟨N4, hN4⟩ : ∃ k, N + C.length = k := ⟨_, rfl⟩
          go_upto_region 13 with (at_builtin; refine wpList_append_bytes rfl (.tmp 46) (.tmp 47) rfl w1.heap.size (.slice sb N cb) N (u8s (encs G)) rfl HOB.out (.slice sp C.length cp3) C rfl HIB.out (by omega) hsz3 ?_; intro v4 w4 hown4 hgr4; have HR4 := Lib.hid (HR3.out.appB (C := C) h0 (by rw [HN.out]; exact hown4) hgr4); rw [hN4] at hown4; obtain ⟨sb4, cb4, rfl, _, _⟩ := ownsRow_slice hown4; clear hown4 hgr4)
          have HC4 : Hid (encs (G ++ [cutE e]) = encs G ++ C) := Lib.hid (by rw [encs_snoc, ← encE_fine HF.out, HCE.out])
          have HN4 : Hid ((encs (G ++ [cutE e])).length = N4) := Lib.hid (by rw [HC4.out, List.length_append, HN.out, hN4])
          have hr4 := HR4.out
          rw [← HC4.out] at hr4
          have HR4 := Lib.hid hr4
          have hsz4 := hr4.bytes.2.size
          have hfl4 : (endsF G).length + 1 ≤ 4294967296 := by rw [endsF_length, HGN.out]; omega
          clear hr4 HR3 HOB HIB hsz3
          go_upto_region 14 with (at_builtin; refine wpList_append_D 39 3 1 (.int .i64 0) 8 Tryd.underlying39 infoJ rfl (by decide) (by decide) rfl (.tmp 49) (.tmp 52) rfl w1.heap.size numC (.slice se gn ce) (endsF G) rfl HR4.out.ends (N4 : Int) [.int .i64 (N4 : Int)] rfl rfl (by simp [Value.oneCell']) rfl hfl4 hsz4 ?_; intro v5 w5 hown5 hgr5; have hr5 := HR4.out.appE h0 hown5 hgr5; have HR5 := Lib.hid hr5; obtain ⟨se5, ce5, rfl, _, _⟩ := OwnD.slice hown5; clear hown5 hgr5)
          have hbw5 : Below w.heap.size w w5 := FW.out _ HR5.out.bytes.2
          have hld5 := LD.out w5 hbw5
          have hct5 := CT.out w5 hbw5
          clear HR4 hsz4 hfl4 hbw5
          go_wp2_with fail
          refine hct5.mono ?_
          rintro r w6 ⟨p1, q1, p2, q2, p3, q3, p4, q4, rfl, hi7, hb6⟩
          have HR6 := Lib.hid (HR5.out.below hb6.out)
          have HI6 : Hid (EdIn (CD w.heap.size w1.heap.size w6) w6 (cutE e) p1 q1 p2 q2 p3 q3 p4 q4) := Lib.hid (hi7.out.keep (cd_low HR5.out.bytes.2.size))
          have hsz6 := HR6.out.bytes.2.size
          have hfl6 : G.length + 1 ≤ 4294967296 := by rw [HGN.out]; omega
          clear hct5 hld5 hi7 hb6 HR5
          go_wp2_with (at_builtin; refine wpList_append_D 35 26 6 (.agg (edL zE none 0 none 0 none 0 none 0).toArray) 112 Tryd.underlying35 infoE rfl (by decide) (by decide) rfl (.tmp 54) (.tmp 60) rfl w1.heap.size (edC (CD w.heap.size w1.heap.size w6) w6) (.slice sm gn cm) G rfl HR6.out.mm (cutE e) (edL (cutE e) p1 q1 p2 q2 p3 q3 p4 q4) ⟨p1, q1, p2, q2, p3, q3, p4, q4, rfl, HI6.out⟩ rfl (edL_one (cutE e) p1 q1 p2 q2 p3 q3 p4 q4) rfl hfl6 hsz6 ?_; intro v7 w7 hown7 hgr7; have HR7 := Lib.hid (HR6.out.appM h0 hown7 hgr7); clear hown7 hgr7)
          go_roundw
          case rel => exact ⟨i + 1, G ++ [cutE e], hlt1, by omega, by go_num, fun z hz => by
            rw [List.mem_append, List.mem_singleton] at hz
            rcases hz with hz | rfl
            · exact HG.out z hz
            · exact HF.out, by rw [List.length_append, HGN.out, List.length_singleton]; omega, by
            rw [endsF_snoc, HN4.out]
            have h := HR7.out
            rw [List.length_append, List.length_singleton] at h
            exact h⟩
          case measure => simp [intOf]; omega
  case rest =>
  obtain ⟨G, hG, hGi, hR⟩ := hcut
  obtain ⟨wr, hwr⟩ : ∃ v, v = wc := ⟨_, rfl⟩
  subst hwr
  have HG := Lib.hid hG
  have HR := Lib.hid hR
  obtain ⟨sb, cb, se, ce, sm, cm, rfl, rfl, rfl⟩ := hR.sizes
  have hgl := encs_len hG
  have HBW : Hid (Below w.heap.size w wr) := Lib.hid (FW.out _ hR.bytes.2)
  clear hG hR
  obtain ⟨N, hN⟩ : ∃ N, (encs G).length = N := ⟨_, rfl⟩
  obtain ⟨gn, hgn⟩ : ∃ k, G.length = k := ⟨_, rfl⟩
  rw [endsF_length] at HR ⊢
  rw [hN, hgn] at HR hgl ⊢
  rw [hgn] at hGi
  have HN := Lib.hid hN
  have HGN := Lib.hid hgn
  have hN6 : N ≤ 120072 := by omega
  clear hN hgn hgl
  have HRD := Lib.hid (HR.out.rd (encs_lt G))
  go_upto_region 16 with fail
  go_cut [69] (fun b wx => ∃ t : Bool, b = .bool t ∧ (t = true → 0 ≤ cut ∧ cut ≤ (N : Int)) ∧ wx = wr)
  case first =>
    by_cases p1 : cut < 0
    · go_wp2_with fail
      go_meet
      case rel => exact ⟨false, rfl, fun h => (by cases h), rfl⟩
    · go_wp2_with fail
      go_meet
      case rel => exact ⟨decide (cut ≤ (N : Int)), rfl, fun h => ⟨by omega, of_decide_eq_true h⟩, rfl⟩
  case rest =>
  obtain ⟨t, rfl, htc, hw⟩ := hcut
  subst hw
  have HRD0 := HRD
  have HR0 := HR
  go_upto_if 69 with fail
  go_cut [10] (fun v wx => ∃ C : Nat, C ≤ N ∧ v = .slice sb C cb ∧ wx = wc)
  case first =>
    cases t with
    | false =>
      go_wp2_with fail
      go_meet
      case rel => exact ⟨N, Nat.le_refl _, rfl, rfl⟩
    | true =>
      have hcc := htc rfl
      obtain ⟨cu, rfl⟩ : ∃ cu : Nat, cut = (cu : Nat) := ⟨cut.toNat, by omega⟩
      have hsl := run_uptoO HRD.out.bytes (n := cu) (by omega)
      go_wp2_with fail
      go_meet
      case rel => exact ⟨cu, by omega, rfl, rfl⟩
  case rest =>
  obtain ⟨C, hC, rfl, hw⟩ := hcut
  subst hw
  obtain ⟨wr, hwr⟩ : ∃ v, v = wc := ⟨_, rfl⟩
  subst hwr
  have hCN : C ≤ (encs G).length := by rw [HN.out]; exact hC
  have hBl : ((encs G).take C).length = C := by rw [List.length_take]; omega
  go_upto_region 18 with fail
  go_cut [3, 88] (fun x3 b wx => x3 = .int .u8 (X : Int) ∧ ∃ t : Bool, b = .bool t ∧ (t = true → 0 < C ∧ 0 ≤ at' ∧ X ≠ 0) ∧ wx = wr)
  case first =>
    by_cases q1 : C = 0
    · subst q1
      go_wp2_with fail
      go_meet
      case rel => exact ⟨by first | rfl | simp [q3], false, rfl, fun h => (by cases h), rfl⟩
    by_cases q2 : at' < 0
    · go_wp2_with fail
      go_meet
      case rel => exact ⟨by first | rfl | simp [q3], false, rfl, fun h => (by cases h), rfl⟩
    by_cases q3 : X = 0
    · have hd2 : ((X : Int) == 0) = true := beq_t (by omega)
      go_wp2_with fail
      go_meet
      case rel => exact ⟨by first | rfl | simp [q3], false, rfl, fun h => (by cases h), rfl⟩
    have hd2 : ((X : Int) == 0) = false := beq_f (by omega)
    have hall : 0 < C ∧ 0 ≤ at' ∧ X ≠ 0 := ⟨by omega, by omega, q3⟩
    go_wp2_with fail
    go_meet
    case rel => exact ⟨rfl, _, rfl, fun _ => hall, rfl⟩
  case rest =>
  obtain ⟨rfl, t, rfl, htc, hw⟩ := hcut
  subst hw
  obtain ⟨wr, hwr⟩ : ∃ v, v = wc := ⟨_, rfl⟩
  subst hwr
  go_upto_if 88 with fail
  go_cut [2, 16] (fun z s wx => ∃ (zi : Int) (sp : Bool) (B : List Nat), z = .int .i64 zi ∧ s = .bool sp ∧ (sp = true → 0 ≤ zi) ∧ Hid (Got G C B sp zi) ∧ B.length = C ∧ Hid (Rd3 wx (.slice sb C cb) (.slice se gn ce) (.slice sm gn cm) B (endsF G) G) ∧ Hid (Below w.heap.size w wx))
  case first =>
    cases t with
    | false =>
      clear htc
      go_wp2_with fail
      go_meet
      case rel => exact ⟨at', false, (encs G).take C, rfl, rfl, (fun h => by cases h), Lib.hid (Got.cut HG.out hCN at'), hBl, Lib.hid (HRD.out.cut hC), HBW⟩
    | true =>
      obtain ⟨q1, q2, q3⟩ := htc rfl
      clear htc
      obtain ⟨A, rfl⟩ := Int.eq_ofNat_of_zero_le q2
      obtain ⟨i, hi⟩ : ∃ i, i = A % C := ⟨_, rfl⟩
      have hil : i < C := by rw [hi]; exact Nat.mod_lt _ (by omega)
      have hrem : (A : Int).tmod (C : Int) = (i : Int) := by rw [hi]; exact (Int.ofNat_tmod A C).symm
      have hs := getD_lt (encs_lt G) i
      have hy : (encs G).getD i 0 ^^^ X < 256 := Nat.xor_lt_two_pow (n := 8) hs hX
      have hxe : bits BinOp.xor IntKind.u8 (((encs G).getD i 0 : Nat) : Int) (X : Int) = (((encs G).getD i 0 ^^^ X : Nat) : Int) := u8_xor_nat _ X hs hX
      obtain ⟨g, rfl, c0, f0, hput⟩ := HR.out.put h0 (i := i) (by omega) ((encs G).getD i 0 ^^^ X)
      have hbx := FW.out _ hput.bytes.2
      have hrdx := (hput.rd (set_lt (encs_lt G) hy)).cut hC
      rw [List.take_set] at hrdx
      have hgx := Got.rot HG.out hCN hil hy (by rw [take_getD hil]; exact xor_ne q3)
      have HX : Hid (Got G C (((encs G).take C).set i ((encs G).getD i 0 ^^^ X)) true (i : Nat) ∧ Rd3 (wr.setCell ⟨g, i, none⟩ (.int .u8 (((encs G).getD i 0 ^^^ X : Nat) : Int))) (.slice (some ⟨g, 0, none⟩) C cb) (.slice se gn ce) (.slice sm gn cm) (((encs G).take C).set i ((encs G).getD i 0 ^^^ X)) (endsF G) G ∧ Below w.heap.size w (wr.setCell ⟨g, i, none⟩ (.int .u8 (((encs G).getD i 0 ^^^ X : Nat) : Int)))) := Lib.hid ⟨hgx, hrdx, hbx⟩
      obtain ⟨B1, hB1⟩ : ∃ B1, encs G = B1 := ⟨_, rfl⟩
      rw [hB1] at hxe c0 HX hBl
      obtain ⟨s0, hs0⟩ : ∃ s0, B1.getD i 0 = s0 := ⟨_, rfl⟩
      rw [hs0] at hxe c0 HX
      clear hgx hrdx hbx hput hy hs hi HRD HR HRD0 HR0 hCN hB1 hs0 q3
      go_wp2_with fail
      go_meet
      case rel => exact ⟨(i : Nat), true, _, rfl, rfl, fun _ => by omega, Lib.hid HX.out.1, by rw [List.length_set]; exact hBl, Lib.hid HX.out.2.1, Lib.hid HX.out.2.2⟩
  case rest =>
  obtain ⟨zi, sp, B, rfl, rfl, hz, HGOT, hBC, HRDc, HBc⟩ := hcut
  obtain ⟨wx, hwx⟩ : ∃ v, v = wc := ⟨_, rfl⟩
  subst hwx
  have hsc := scan_any (.slice sb B.length cb) B wx (HT.out.below HBc.out) (by rw [hBC]; exact HRDc.out.bytes) (by omega)
  rw [hBC] at hsc
  clear HR HRD HBW hBl HRD0 HR0
  unfold ScanPost at hsc
  obtain ⟨F, q, o, hP⟩ : ∃ F q o, scanE B = (F, q, o) := ⟨_, _, _, rfl⟩
  rw [hP] at hsc
  simp only at hsc
  have HP := Lib.hid hP
  obtain ⟨fl, hfl⟩ : ∃ k, F.length = k := ⟨_, rfl⟩
  rw [hfl] at hsc
  have HFL := Lib.hid hfl
  have HSC := Lib.hid hsc
  clear hsc hP hfl hBC
  go_wp2_with fail
  refine HSC.out.mono ?_
  rintro r w9 ⟨sq, cq, rfl, ho9, hb9⟩
  have HR9 := Lib.hid (HRDc.out.below hb9.out)
  have HB9 := Lib.hid (HBc.out.trans (hb9.out.mono HBc.out.size))
  have HF9 : Hid (IsEds (fun b => wx.heap.size ≤ b) w9 (.slice sq fl cq) F) := Lib.hid (OwnEds.row ho9.out)
  clear ho9 hb9
  go_upto_block 2 with fail
  clear HSC HRDc HBc
  go_cut [20] (fun y wz => ∃ k : Nat, k ≤ gn ∧ y = .int .i64 k ∧ Hid ((encs (G.take k)).length ≤ C ∧ (sp = true → ((encs (G.take k)).length : Int) ≤ zi) ∧ (k < gn → C < (encs (G.take (k + 1))).length ∨ (sp = true ∧ zi < ((encs (G.take (k + 1))).length : Int)))) ∧ wz = w9)
  case first =>
    go_wp2_with fail
    go_loopw [20] (fun y wr => ∃ k : Nat, k ≤ gn ∧ y = .int .i64 k ∧ Hid ((encs (G.take k)).length ≤ C ∧ (sp = true → ((encs (G.take k)).length : Int) ≤ zi)) ∧ wr = w9) (fun y _ => gn - (intOf y).toNat)
    case atStart => exact ⟨0, by omega, rfl, Lib.hid ⟨by simp [encs], fun h => by simpa [encs] using hz h⟩, rfl⟩
    case round =>
      obtain ⟨k, hk, rfl, HK, rfl⟩ := hrel
      by_cases hlt : k < gn
      · have hkG : k < G.length := by rw [HGN.out]; exact hlt
        obtain ⟨bk, off, hse, _, _, hc⟩ := IsNums.cell HR9.out.ends (i := k) (by rw [endsF_length]; exact hkG)
        rw [endsF_getD hkG] at hc
        obtain ⟨tk, htk⟩ : ∃ t, (encs (G.take (k + 1))).length = t := ⟨_, rfl⟩
        rw [htk] at hc
        subst hse
        have HTK := Lib.hid htk
        clear hkG htk
        by_cases htC : C < tk
        · go_wp2_with fail
          go_meet
          case rel => exact ⟨k, hk, rfl, Lib.hid ⟨HK.out.1, HK.out.2, fun _ => .inl (by rw [HTK.out]; exact htC)⟩, by first | rfl | trivial⟩
        · cases sp with
          | false =>
            go_wp2_with fail
            go_roundw
            case rel => exact ⟨k + 1, hlt, by go_num, Lib.hid ⟨by rw [HTK.out]; omega, fun h => by cases h⟩, by first | rfl | trivial⟩
            case measure => simp [intOf]; omega
          | true =>
            by_cases hzt : zi < (tk : Int)
            · go_wp2_with fail
              go_meet
              case rel => exact ⟨k, hk, rfl, Lib.hid ⟨HK.out.1, HK.out.2, fun _ => .inr ⟨by first | rfl | trivial, by rw [HTK.out]; exact hzt⟩⟩, by first | rfl | trivial⟩
            · go_wp2_with fail
              go_roundw
              case rel => exact ⟨k + 1, hlt, by go_num, Lib.hid ⟨by rw [HTK.out]; omega, fun _ => by rw [HTK.out]; omega⟩, by first | rfl | trivial⟩
              case measure => simp [intOf]; omega
      · obtain rfl : k = gn := by omega
        go_wp2_with fail
        go_meet
        case rel => exact ⟨k, hk, rfl, Lib.hid ⟨HK.out.1, HK.out.2, fun h => absurd h (by omega)⟩, by first | rfl | trivial⟩
  case rest =>
  obtain ⟨k, hk, rfl, HK, hw⟩ := hcut
  subst hw
  obtain ⟨o', ho', hso⟩ := HGOT.out k (by rw [HGN.out]; exact hk) HK.out.1 HK.out.2.1 (fun h => HK.out.2.2 (by rw [← HGN.out]; exact h))
  rw [HP.out] at ho'
  simp only [Prod.mk.injEq] at ho'
  obtain ⟨e1, e2, rfl⟩ := ho'
  have hfk : fl = k := by rw [← HFL.out, e1, List.length_take, HGN.out]; omega
  subst hfk
  obtain ⟨w9, hw9⟩ : ∃ v, v = wc := ⟨_, rfl⟩
  subst hw9
  have HE1 := Lib.hid e1
  have HE2 := Lib.hid e2
  clear e1 e2 HGOT HK HP
  go_upto_region 26 with fail
  go_cut [149] (fun b wz => b = .bool false ∧ wz = w9)
  case first =>
    by_cases hk0 : fl = 0
    · subst hk0
      go_wp2_with fail
      go_meet
      case rel => exact ⟨rfl, rfl⟩
    · obtain ⟨j, rfl⟩ : ∃ j, fl = j + 1 := ⟨fl - 1, by omega⟩
      have hjG : j < G.length := by rw [HGN.out]; omega
      obtain ⟨bk, off, hse, _, _, hc⟩ := IsNums.cell HR9.out.ends (i := j) (by rw [endsF_length]; exact hjG)
      rw [endsF_getD hjG, ← HE2.out] at hc
      subst hse
      have hj1 : ((j + 1 : Nat) : Int) - 1 = (j : Int) := by omega
      clear hjG
      go_wp2_with fail
      go_meet
      case rel => exact ⟨rfl, rfl⟩
  case rest =>
  obtain ⟨rfl, hw⟩ := hcut
  subst hw
  obtain ⟨w9, hw9⟩ : ∃ v, v = wc := ⟨_, rfl⟩
  subst hw9
  go_wp2_with fail
  go_loopw [21] (fun y wr => ∃ i : Nat, i ≤ fl ∧ y = .int .i64 i ∧ Hid (Below w9.heap.size w9 wr)) (fun y _ => fl - (intOf y).toNat)
  case atStart => exact ⟨0, by omega, rfl, Lib.hid (Below.refl _ _)⟩
  case round =>
    obtain ⟨i, hi, rfl, HB⟩ := hrel
    by_cases hlt : i < fl
    · obtain ⟨e, hx⟩ : ∃ e, G[i]? = some e := ⟨_, List.getElem?_eq_getElem (by rw [HGN.out]; omega)⟩
      have hxF : F[i]? = some e := by rw [HE1.out, List.getElem?_take_of_lt hlt]; exact hx
      obtain ⟨b1, f1, x1, y1, x2, y2, x3, y3, x4, y4, hsq, hl1, hu1, hI1⟩ := eds_cells HF9.out hxF
      obtain ⟨b2, f2, u1, v1, u2, v2, u3, v3, u4, v4, hsm, hl2, hu2, hI2⟩ := eds_cells HR9.out.mm hx
      subst hsq hsm
      have hbd : Below w9.heap.size w9 wr.drew := HB.out.drew
      have e18 : (loadE (.pointer (some ⟨b1, f1 + i * 6, none⟩))).run Tryd.prog wr.drew = .ok (.agg (edL e x1 y1 x2 y2 x3 y3 x4 y4).toArray) wr.drew := run_loadE rfl fun j v hj => (Below.cell (p := ⟨b1, _, none⟩) hbd hl1).trans (hu1 j v hj)
      have e19 : (loadE (.pointer (some ⟨b2, f2 + i * 6, none⟩))).run Tryd.prog wr.drew = .ok (.agg (edL e u1 v1 u2 v2 u3 v3 u4 v4).toArray) wr.drew := run_loadE rfl fun j v hj => (Below.cell (p := ⟨b2, _, none⟩) hbd hl2).trans (hu2 j v hj)
      have hq : Calls Tryd.prog 14 #[.agg (edL e x1 y1 x2 y2 x3 y3 x4 y4).toArray, .agg (edL e u1 v1 u2 v2 u3 v3 u4 v4).toArray] wr.drew fun r w' => r = .returned (.bool true) ∧ Below wr.drew.heap.size wr.drew w' := eqEdit_same e _ _ _ _ _ _ _ _ _ _ _ _ _ _ _ _ wr.drew (hI1.keep (keep_below hbd)) (hI2.keep (keep_below hbd))
      have HBD := Lib.hid hbd
      have hlt2 : i < gn := by omega
      clear hu1 hu2 hI1 hI2 hx hxF hbd
      go_wp2_with fail
      go_still_tail 8, (by kernel_rfl)
      change wpList _ _ _ _ _ wr.drew
      go_wp2_with fail
      refine hq.mono ?_
      rintro r w10 ⟨rfl, hb10⟩
      have HB10 : Hid (Below w9.heap.size w9 w10) := Lib.hid (HBD.out.trans (hb10.mono HBD.out.size))
      clear hq hb10 e18 e19
      go_wp2_with fail
      go_roundw
      case rel => exact ⟨i + 1, hlt, by go_num, HB10⟩
      case measure => simp [intOf]; omega
    · obtain rfl : i = fl := by omega
      cases sp with
      | true =>
        go_wp2
        go_ret
        exact ⟨rfl, HB9.out.trans (HB.out.mono HB9.out.size)⟩
      | false =>
        have hot := hso rfl
        subst hot
        go_wp2
        go_ret
        exact ⟨rfl, HB9.out.trans (HB.out.mono HB9.out.size)⟩
end Go.Proofs.YtaffmfocjaihlaaDoor.S18

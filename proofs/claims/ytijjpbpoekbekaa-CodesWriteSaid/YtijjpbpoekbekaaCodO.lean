/- The law CodesWrite, walked. -/
import Derived.Test.YtijjpbpoekbekaaCodN
import Derived.Deep.CutRange
set_option linter.unusedSimpArgs false
set_option linter.unusedVariables false
namespace Go.Proofs.Ytijjpbpoekbekaa
open Go.RowKit Pl
theorem bytes_c {g : Nat} {L : List Bool} {W : World} {N : Nat} (hw : Wr W g L) (hl : L.length < 17179869184) (hN : N = (L.length + 7) / 8) :
    Calls Try.prog 17 #[.pointer (some ⟨g, 0, none⟩)] W fun e w' => ∃ sp cap, e = .returned (.slice sp N cap) ∧ Hid (∀ W', From w' W' → (convS (.slice sp N cap)).run Try.prog W' = .ok (.string (str (bytesOf L))) W') ∧ Hid (From W w') :=
  (bytes_any g L W hw hl).mono fun e w' h => by
    obtain ⟨rfl, hk, hb⟩ := h
    subst hN
    exact ⟨_, _, rfl, Lib.hid fun W' hW => run_conv ((isBytes_new hk rfl hl).below hW), Lib.hid hb⟩
theorem refBytes_c {sp : Option Addr} {n cap : Nat} {L : List Bool} {W : World} {N : Nat} (hn : n = L.length) (hM : BoolsAt W sp cap L) (hl : L.length < 17179869184) (hN : N = (L.length + 7) / 8) :
    Calls Try.prog 18 #[.slice sp n cap] W fun e w' => ∃ sp cap, e = .returned (.slice sp N cap) ∧ Hid (∀ W', From w' W' → (convS (.slice sp N cap)).run Try.prog W' = .ok (.string (str (bytesOf L))) W') ∧ Hid (From W w') :=
  (refBytes_any sp n cap L W hn hM hl).mono fun e w' h => by
    obtain ⟨rfl, hk, hb⟩ := h
    subst hN
    exact ⟨_, _, rfl, Lib.hid fun W' hW => run_conv ((isBytes_new hk rfl hl).below hW), Lib.hid hb⟩
theorem bytes_i {g : Nat} {L : List Bool} {W : World} {N : Nat} (hw : Wr W g L) (hl : L.length < 17179869184) (hN : N = (L.length + 7) / 8) :
    Calls Try.prog 17 #[.pointer (some ⟨g, 0, none⟩)] W fun e w' => ∃ sp cap, e = .returned (.slice sp N cap) ∧ IsBytes w' (.slice sp N cap) (bytesOf L) ∧ Below W.heap.size W w' :=
  (bytes_any g L W hw hl).mono fun e w' h => by
    obtain ⟨rfl, hk, hb⟩ := h
    subst hN
    exact ⟨_, _, rfl, isBytes_new hk rfl hl, hb⟩
theorem first_at (en : Int) : ∀ (L : List Int), en ∈ L → ∃ n, 1 ≤ n ∧ n ≤ L.length ∧ (∀ q, q + 1 < n → L.getD q 0 ≠ en) ∧ L.getD (n - 1) 0 = en := by
  intro L
  induction L with
  | nil => intro h; simp at h
  | cons x L ih =>
    intro h
    by_cases e : x = en
    · exact ⟨1, by omega, by simp, fun q hq => by omega, by simpa using e⟩
    · obtain ⟨n, h1, h2, h3, h4⟩ := ih (by simpa [Ne.symm e] using h)
      refine ⟨n + 1, by omega, by simpa using h2, fun q hq => ?_, ?_⟩
      · cases q with
        | zero => simpa using e
        | succ q => simpa using h3 q (by omega)
      · rw [show n + 1 - 1 = (n - 1) + 1 by omega]; simpa using h4
attribute [local go_sem ↓] build29_eq conv_eq
attribute [local go_sem] run_build29
set_option maxHeartbeats 16000000 in
set_option maxRecDepth 100000 in
theorem codesWrite_walk (a : Option Addr) (len cap : Nat) (z : List Int) (a' : Option Addr) (len' cap' : Nat) (z' : List Int) (most : Int) (w : World) (hr : IsRow .i64 w a len cap z) (hr' : IsRow .i64 w a' len' cap' z') (wm : (Lit.int .i64 most).wf = true) :
    Calls Try.prog 4 #[.slice a len cap, .slice a' len' cap', .int .i64 most] w fun e w' => e = .returned (.bool true) ∧ Below w.heap.size w w' := by
  obtain ⟨F0, hF0, hI, hcap, hmax, _, _⟩ := isInts_in hr
  obtain ⟨L0, hL0, hJ, hcap', hmax', _, hbl⟩ := isInts_in hr'
  have hmo := i64_wf wm
  obtain ⟨m, hm⟩ : ∃ m, m = min len' 60 := ⟨_, rfl⟩
  have hcut := isInts_upto hJ hL0 m (by omega)
  generalize L0.take m = L at hcut
  have HJ := Lib.hid hcut.1
  have HL : Hid (L.length = m) := Lib.hid hcut.2
  have HBL : Hid (0 < m → ∀ ad, a' = some ad → ad.block < w.heap.size) := Lib.hid fun h => hbl (by omega)
  have hm60 : m ≤ 60 := by omega
  have hcm : m ≤ cap' := by omega
  have hsp : (60 < len' ∧ m = 60) ∨ (¬ 60 < len' ∧ m = len') := by omega
  unfold maxLen at hmax'
  clear hr hr' wm hcut hJ hL0 hbl hm
  go_enter Try.func4, Try.ntmps4
  go_wp2_with fail
  refine (begun_any w).mono ?_
  rintro e w1 ⟨rfl, hb1⟩
  have HB1 := Lib.hid hb1
  have HI1 := Lib.hid (hI.below hb1)
  have HJ1 := Lib.hid (HJ.out.below hb1)
  clear hb1 hI HJ
  go_wp2_with fail
  refine (cut_any a len cap F0 w1 HI1.out hF0 hcap hmax).mono ?_
  rintro e w1' ⟨⟨n0, rfl, hn0, hn302, hI1⟩, rfl⟩
  clear HI1 hF0
  generalize F0.take 302 = F at *
  have HI1 := Lib.hid hI1
  have HN := Lib.hid hn0
  clear hI1 hn0
  go_upto_if 26 with fail
  go_cut [1] from 27 to 28 (fun s1 wx => s1 = .slice a' m cap' ∧ wx = w1)
  case first =>
    rcases hsp with ⟨h, rfl⟩ | ⟨h, rfl⟩
    · have h1 : (60 : Int) ≤ (cap' : Int) := by omega
      go_wp2_with fail
      go_meet
      case rel => exact ⟨rfl, rfl⟩
    · go_wp2_with fail
      go_meet
      case rel => exact ⟨rfl, rfl⟩
  case rest =>
    obtain ⟨rfl, rfl⟩ := hcut
    clear hsp
    obtain ⟨i0, hi, hz0, hz1, hz2⟩ := info_parts info4
    have Hi := Lib.hid hi
    have Hz0 := Lib.hid hz0
    have Hz1 := Lib.hid hz1
    have Hz2 := Lib.hid hz2
    clear hi hz0 hz1 hz2
    go_wp2_with fail
    obtain ⟨g, hg⟩ : ∃ g, g = wc.heap.size := ⟨_, rfl⟩
    have hW : Wr (wc.alloc (.cells (wcells none []).toArray 41)) g [] := by rw [hg]; exact Wr.fresh wc
    have hbel : Below wc.heap.size wc (wc.alloc (.cells (wcells none []).toArray 41)) := (Below.refl _ _).alloc (Nat.le_refl _) _
    have hgw1 : w.heap.size ≤ g := by rw [hg]; exact HB1.out.size
    have HG : Hid (g = wc.heap.size) := Lib.hid hg
    rw [← hg]
    clear hg
    generalize wc.alloc (.cells (wcells none []).toArray 41) = w2 at *
    refine (put_any g [] 1 1 w2 (U64.small (by omega) (by omega)) hW (by decide) (by omega)).mono ?_
    rintro e w3 ⟨rfl, hw3, hg3⟩
    have h11 : ([] : List Bool) ++ bitsOf (1 : Int).toNat 1 = [true] := by decide
    rw [h11] at hw3
    have HBc3 : Hid (Below wc.heap.size wc w3) := Lib.hid (hbel.trans (hg3.below hbel.size (by rw [HG.out]; exact Nat.le_refl _)))
    have HW3 := Lib.hid hw3
    clear hw3 hg3 hW hbel h11
    go_wp2_with fail
    refine (write_any _ _ F L g [true] w3 (HI1.out.below HBc3.out) (by rw [← HN.out]; omega) (HJ1.out.below HBc3.out) (by rw [HL.out]; omega) HW3.out (by decide) (fun h0 ad mm c h => by
      simp at h
      have := HBL.out (by rw [← HL.out]; exact h0) ad h.1
      omega)).mono ?_
    rintro e w4 hpost
    have hcase : ∃ er WL, e = .returned (.int .i64 er) ∧ Wr w4 g WL ∧ Below wc.heap.size wc w4 ∧ ((¬ okL F ∧ er = 10 ∧ WL = [true]) ∨ (okL F ∧ L.any (noCd F) = true ∧ er = 7 ∧ WL = [true]) ∨ (okL F ∧ L.any (noCd F) = false ∧ er = 0 ∧ WL = withOne F L)) := by
      obtain ⟨h1, rfl, hb⟩ | ⟨h1, h2, rfl, hb⟩ | ⟨h1, h2, rfl, hw, hgr⟩ := hpost
      · exact ⟨_, _, rfl, HW3.out.below hb, HBc3.out.trans (hb.mono HBc3.out.size), .inl ⟨h1, rfl, rfl⟩⟩
      · exact ⟨_, _, rfl, HW3.out.below hb, HBc3.out.trans (hb.mono HBc3.out.size), .inr (.inl ⟨h1, h2, rfl, rfl⟩)⟩
      · exact ⟨_, _, rfl, hw, HBc3.out.trans (hgr.below HBc3.out.size (by rw [HG.out]; exact Nat.le_refl _)), .inr (.inr ⟨h1, h2, rfl, rfl⟩)⟩
    obtain ⟨er, WL, rfl, hw4, hbc4, hcs⟩ := hcase
    have HW4 := Lib.hid hw4
    have HBc4 := Lib.hid hbc4
    have HCS := Lib.hid hcs
    clear hpost hw4 hbc4 hcs HBc3 HW3
    go_wp2_with fail
    refine (codes_ref _ F w4 (HI1.out.below HBc4.out) (by rw [← HN.out]; omega)).mono ?_
    rintro e w5 ⟨hb5, hpost⟩
    have HBc5 := Lib.hid (HBc4.out.trans (hb5.mono HBc4.out.size))
    have HW5 := Lib.hid (HW4.out.below hb5)
    clear hb5 HW4 HBc4
    obtain ⟨hok, c, rfl, hcw, hc⟩ | ⟨hok, rfl⟩ := hpost
    rotate_left
    · obtain ⟨rfl, rfl⟩ : er = 10 ∧ WL = [true] := by
        rcases HCS.out with h | h | h
        · exact h.2
        · exact absurd h.1 hok
        · exact absurd h.1 hok
      clear hok
      go_wp2_with fail
      refine (len_n g 1 _ _ HW5.out rfl).mono ?_
      rintro e w6 ⟨rfl, rfl⟩
      go_wp2_with fail
      go_ret
      exact ⟨rfl, HB1.out.trans (HBc5.out.mono HB1.out.size)⟩
    have HOK := Lib.hid hok
    have HC5 := Lib.hid hc
    rw [← HN.out]
    clear hok hc hcw
    go_wp2_with fail
    have HO5 : Hid ((w5.alloc (.cells #[.bool true] 4)).ownsRow w5.heap.size 4 1 (.slice (some ⟨w5.heap.size, 0, none⟩) 1 1) 1 (bools [true])) := Lib.hid (own_new w5 [.bool true] 4 (Nat.le_refl _) (by unfold maxLen; simp))
    have HB5 : Hid (Below w5.heap.size w5 (w5.alloc (.cells #[.bool true] 4))) := Lib.hid ((Below.refl _ _).alloc (Nat.le_refl _) _)
    have HNM : Hid (¬ okL F → False) := Lib.hid fun h => h HOK.out
    go_loopw [12, 13] (fun o x wr => ∃ (i n : Nat), i ≤ m ∧ x = .int .i64 i ∧ n = (withOne F (L.take i)).length ∧ (L.take i).any (noCd F) = false ∧ wr.ownsRow w5.heap.size 4 1 o n (bools (withOne F (L.take i))) ∧ Below w5.heap.size w5 wr) (fun _ x _ => m - (intOf x).toNat)
    case atStart => exact ⟨0, 1, by omega, rfl, by simp [withOne, codeBs], by simp, by simpa [withOne, codeBs] using HO5.out, HB5.out⟩
    case round =>
      obtain ⟨i, n, hi, rfl, hn, hany, ho, hb⟩ := hrel
      have hnb : n ≤ 901 := by
        have h1 := withOne_length HOK.out.2.1 (F := F) (L := L.take i)
        rw [List.length_take, ← hn] at h1
        omega
      have HNW := Lib.hid hn
      have HANY := Lib.hid hany
      have HO := Lib.hid ho
      have HB := Lib.hid hb
      have hsz : w5.heap.size ≤ wr.heap.size := hb.size
      clear hn hany ho hb HO5 HB5
      have HBcr : Hid (Below wc.heap.size wc wr) := Lib.hid (HBc5.out.trans (HB.out.mono HBc5.out.size))
      by_cases hlt : i < m
      · have hltI : (i : Int) < (m : Int) := by omega
        have hiL : i < L.length := by rw [HL.out]; exact hlt
        obtain ⟨bb, off, kk, hs, _, _, hbb, hcc⟩ := HJ1.out.cells (by omega)
        simp at hs
        obtain ⟨rfl, -, rfl⟩ := hs
        have hc0 : ∀ W, Below wc.heap.size wc W → W.cell? ⟨bb, off + i, none⟩ = some (.int .i64 (L.getD i 0)) := fun W hW => (hW.cell (p := ⟨bb, off + i, none⟩) hbb).trans (hcc i hiL)
        have c0 := hc0 _ HBcr.out
        have hmem : L.getD i 0 ∈ L := by rw [List.getD_eq_getElem?_getD, List.getElem?_eq_getElem hiL]; exact List.getElem_mem hiL
        have hbad : noCd F (L.getD i 0) = true → er = 7 ∧ WL = [true] := fun h => by
          have h2 : L.any (noCd F) = true := List.any_eq_true.2 ⟨_, hmem, h⟩
          rcases HCS.out with h3 | h3 | h3
          · exact absurd HOK.out h3.1
          · exact h3.2.2
          · rw [h2] at h3; simp at h3
        have htk := take_next hiL
        obtain ⟨x, hx⟩ : ∃ x, x = L.getD i 0 := ⟨_, rfl⟩
        rw [← hx] at c0 hbad htk hc0
        have HC0 := Lib.hid hc0
        have HBAD := Lib.hid hbad
        have HTK := Lib.hid htk
        clear hcc hmem hbad htk hx hc0
        by_cases h1 : x < 0
        · obtain ⟨rfl, rfl⟩ := HBAD.out (noCd_neg h1)
          go_wp2_with fail
          refine (len_n g 1 _ _ (HW5.out.below HB.out) rfl).mono ?_
          rintro e w6 ⟨rfl, rfl⟩
          go_wp2_with fail
          go_ret
          exact ⟨rfl, HB1.out.trans (HBcr.out.mono HB1.out.size)⟩
        · by_cases h2 : (n0 : Int) ≤ x
          · obtain ⟨rfl, rfl⟩ := HBAD.out (noCd_big (by rw [← HN.out]; exact h2))
            go_wp2_with fail
            refine (len_n g 1 _ _ (HW5.out.below HB.out) rfl).mono ?_
            rintro e w6 ⟨rfl, rfl⟩
            go_wp2_with fail
            go_ret
            exact ⟨rfl, HB1.out.trans (HBcr.out.mono HB1.out.size)⟩
          · obtain ⟨j, rfl⟩ : ∃ j : Nat, x = j := ⟨x.toNat, by omega⟩
            have hjF : j < F.length := by rw [← HN.out]; omega
            have hjI : (j : Int) < (n0 : Int) := by omega
            obtain ⟨bf, of, kf, hs, _, _, hbf, hcf⟩ := HI1.out.cells (by omega)
            simp at hs
            obtain ⟨rfl, -, rfl⟩ := hs
            have d0 : wr.cell? ⟨bf, of + j, none⟩ = some (.int .i64 (F.getD j 0)) := (HBcr.out.cell (p := ⟨bf, of + j, none⟩) hbf).trans (hcf j hjF)
            have hin := Pl.getD_in HOK.out.2.1 j
            have hna := noCd_at hjF
            obtain ⟨X, hX, _⟩ := fst_cell HOK.out.2.1 HC5.out hjF
            have hXb : 0 < F.getD j 0 → codeN F j < 32768 := fun h => by
              have h1 := code_lt HOK.out.2.2 hjF (n := (F.getD j 0).toNat) (by omega) (by omega) (by omega)
              have h2 : 2 ^ (F.getD j 0).toNat ≤ 2 ^ 15 := Nat.pow_le_pow_right (by omega) (by omega)
              rw [pw15] at h2
              omega
            have hcb : codeB F (j : Int) = bitsOf (codeN F j) (F.getD j 0).toNat := by unfold codeB; rw [Int.toNat_natCast]
            have he0 : ∀ W, Below w5.heap.size w5 W → 0 < F.getD j 0 → W.cell? ⟨c, j, none⟩ = some (.int .u32 (codeN F j : Nat)) := fun W hW h0 => by
              have hgf := fsts_get (codesL F) j (by rw [codesL_length]; exact hjF)
              rw [codesL_get hjF, if_pos (by omega)] at hgf
              exact (HC5.out.below hW HC5.out.lt).cell hgf
            obtain ⟨y, hy⟩ : ∃ y : Nat, F.getD j 0 = y := ⟨(F.getD j 0).toNat, by omega⟩
            rw [hy] at d0 hin hna hXb hcb he0
            rw [Int.toNat_natCast] at hcb
            have HNA := Lib.hid hna
            clear hcf hX hna hy
            by_cases h3 : y = 0
            · subst h3
              obtain ⟨rfl, rfl⟩ := HBAD.out (by rw [HNA.out]; rfl)
              clear he0 hcb hXb
              go_wp2_with fail
              refine (len_n g 1 _ _ (HW5.out.below HB.out) rfl).mono ?_
              rintro e w6 ⟨rfl, rfl⟩
              go_wp2_with fail
              go_ret
              exact ⟨rfl, HB1.out.trans (HBcr.out.mono HB1.out.size)⟩
            · have hyf := beq_f (show ¬ (y : Int) = 0 by omega)
              have HNO : Hid (noCd F (j : Int) = false) := Lib.hid (by rw [HNA.out]; exact decide_eq_false (by omega))
              have hCb := hXb (by omega)
              have HE0 : Hid (∀ W, Below w5.heap.size w5 W → W.cell? ⟨c, j, none⟩ = some (.int .u32 (codeN F j : Nat))) := Lib.hid fun W hW => he0 W hW (by omega)
              have HCB := Lib.hid hcb
              generalize codeN F j = V at *
              have hy15 : y ≤ 15 := by omega
              have hVw : IntKind.u64.wrap (V : Int) = V := by rw [IntKind.wrap_u64]; omega
              clear he0 hcb hXb HBAD
              go_wp2_with fail
              clear c0 d0
              obtain ⟨wo, hwo⟩ : ∃ wo : World, wo = wr := ⟨_, rfl⟩
              subst hwo
              go_loopw [12, 14] (fun o x wi => ∃ (q n2 : Nat), q ≤ y ∧ x = .int .i64 ((y : Int) - 1 - q) ∧ n2 = n + q ∧ wi.ownsRow w5.heap.size 4 1 o n2 (bools (withOne F (L.take i) ++ (bitsOf V y).take q)) ∧ Below w5.heap.size w5 wi) (fun _ x _ => (intOf x + 1).toNat)
              case atStart => exact ⟨0, n, Nat.zero_le _, by simp, by omega, by simpa using HO.out, HB.out⟩
              case round =>
                obtain ⟨q, n2, hq, rfl, hn2, ho, hb⟩ := hrel
                have HOi := Lib.hid ho
                have HBi := Lib.hid hb
                have HN2 := Lib.hid hn2
                have hszi : w5.heap.size ≤ wr.heap.size := hb.size
                have hn2b : n2 ≤ 1000 := by omega
                clear ho hb hn2
                by_cases hqj : q < y
                · have hqI : (0 : Int) ≤ (y : Int) - 1 - (q : Int) := by omega
                  have HTq : Hid ((bitsOf V y).take (q + 1) = (bitsOf V y).take q ++ [V.testBit (y - 1 - q)]) := Lib.hid (by
                    rw [List.take_succ_eq_append_getElem (by rw [bitsOf_length]; exact hqj)]
                    congr 2
                    simp [bitsOf])
                  have c0 := HC0.out wr (HBc5.out.trans (HBi.out.mono HBc5.out.size))
                  have e0 := HE0.out wr HBi.out
                  have hbit := bit_int V ((y : Int) - 1 - q) wr hqI (by omega)
                  rw [show ((y : Int) - 1 - q).toNat = y - 1 - q by omega] at hbit
                  have HBit := Lib.hid hbit
                  clear hbit
                  go_wp2_with (first
                    | (go_at_call 16; refine HBit.out.mono ?_; rintro e w3 ⟨rfl, rfl⟩)
                    | (at_builtin; refine wpList_append_own _ rfl _ _ 46 rfl w5.heap.size 4 i0 (.bool false) 1 1 Try.underlying46 Hi.out Hz0.out Hz1.out Hz2.out rfl (by decide) _ _ _ rfl (HOi.out.alloc _) ⟨wr.heap.size, 0, none⟩ 1 1 [.bool (V.testBit (y - 1 - q))] rfl rfl (cell_one_new _ _ _) (by intro u hu; simp at hu; subst hu; rfl) (by unfold maxLen; omega) (by omega) (by simp; omega) ?_; intro v' w6 hown hgr _))
                  have HOn := Lib.hid hown
                  have HBn : Hid (Below w5.heap.size w5 w6) := Lib.hid (bel_append HBi.out _ HOi.out hgr hszi)
                  clear hown hgr
                  refine ⟨⟨q + 1, n2 + 1, by omega, by first | rfl | go_num, by rw [HN2.out]; omega, by rw [HTq.out, ← List.append_assoc, bools_snoc]; exact HOn.out, HBn.out⟩, ?_⟩
                  simp only [intOf_int]; omega
                · obtain rfl : q = y := by omega
                  clear hqj hq
                  go_wp2_with fail
                  have hfin : withOne F (L.take (i + 1)) = withOne F (L.take i) ++ bitsOf V q := by
                    rw [HTK.out]; unfold withOne; rw [codeBs_snoc, HCB.out, List.append_assoc]
                  have hall : (bitsOf V q).take q = bitsOf V q := List.take_of_length_le (by rw [bitsOf_length]; omega)
                  refine ⟨⟨i + 1, n2, by omega, by first | rfl | go_num, by rw [hfin, List.length_append, bitsOf_length, HN2.out, HNW.out], ?_, ?_, HBi.out⟩, ?_⟩
                  · rw [HTK.out, List.any_append, HANY.out]; simp [HNO.out]
                  · have := HOi.out; rw [hall] at this; rw [hfin]; exact this
                  · simp only [intOf_int]; omega
      · obtain rfl : i = m := by omega
        rw [List.take_of_length_le (by rw [HL.out]; exact Nat.le_refl _)] at HANY HNW HO
        obtain ⟨rfl, rfl⟩ : er = 0 ∧ WL = withOne F L := by
          rcases HCS.out with h | h | h
          · exact absurd HOK.out h.1
          · have := h.2.1; rw [HANY.out] at this; simp at this
          · exact h.2.2
        clear hlt hi
        obtain ⟨so, co, rfl, hco, hmo2⟩ := ownsRow_slice HO.out
        have HWr := Lib.hid (HW5.out.below HB.out)
        have HBA : Hid (BoolsAt wr so co (withOne F L)) := Lib.hid (boolsAt_own HNW.out HO.out)
        have hWLt : (withOne F L).length < 17179869184 := by rw [← HNW.out]; omega
        obtain ⟨NB, hNB⟩ : ∃ NB, NB = ((withOne F L).length + 7) / 8 := ⟨_, rfl⟩
        have hQ := fun (W : World) (h : From wr W) => len_n g n (withOne F L) W (HWr.out.below h) HNW.out.symm
        have hF := fun (W : World) (h : From wr W) => bytes_c (N := NB) (HWr.out.below h) hWLt hNB
        have hR := fun (W : World) (h : From wr W) => refBytes_c (N := NB) (W := W) HNW.out (HBA.out.below h) hWLt hNB
        have HWL := Lib.hid hWLt
        have HNB := Lib.hid hNB
        generalize str (bytesOf (withOne F L)) = SS at *
        have HQ := Lib.hid hQ
        have HF := Lib.hid hF
        have HRB := Lib.hid hR
        have hnn := bne_f (rfl : (n : Int) = (n : Int))
        clear hQ hF hR hWLt hNB HCS
        go_wp2_with fail
        refine wp_region_noPanic ?_
        have hHeld : From wr wr.drew := (Below.refl _ _).drew
        refine wpAnyH_start (n := 18) (l := #[false, false, false, false, false, false, false, false, false, false, false, false, false, false, false, false, false, false]) (S := From wr) (by kernel_rfl) (hHeld) (by kernel_rfl) (by kernel_rfl) ?_
        refine wpAnyH_take (i := 0) (oi := _) (v := ?_) rfl (by kernel_rfl) (by kernel_rfl) (by kernel_rfl) (fun _ _ _ h => h) (Or.inl ⟨by rfl, ?_⟩) (by assumption) ?_
        rotate_left
        · intro wq hSw; go_simp; try with_reducible rfl
        simp only [Act.put, List.setIfInBounds_toArray, List.set_cons_zero, List.set_cons_succ, List.getElem_toArray, List.getElem_cons_zero, List.getElem_cons_succ]
        refine wpAnyH_take (i := 1) (oi := _) (v := ?_) rfl (by kernel_rfl) (by kernel_rfl) (by kernel_rfl) (fun _ _ _ h => h) (Or.inl ⟨by rfl, ?_⟩) (by assumption) ?_
        rotate_left
        · intro wq hSw; go_simp; try with_reducible rfl
        simp only [Act.put, List.setIfInBounds_toArray, List.set_cons_zero, List.set_cons_succ, List.getElem_toArray, List.getElem_cons_zero, List.getElem_cons_succ]
        refine wpAnyH_take (i := 2) (oi := _) (v := ?_) rfl (by kernel_rfl) (by kernel_rfl) (by kernel_rfl) (fun _ _ _ h => h) (Or.inl ⟨by rfl, ?_⟩) (by assumption) ?_
        rotate_left
        · intro wq hSw; go_simp; try with_reducible rfl
        simp only [Act.put, List.setIfInBounds_toArray, List.set_cons_zero, List.set_cons_succ, List.getElem_toArray, List.getElem_cons_zero, List.getElem_cons_succ]
        refine wpAnyH_take (i := 3) (oi := _) (v := ?_) rfl (by kernel_rfl) (by kernel_rfl) (by kernel_rfl) (fun _ _ _ h => h) (Or.inl ⟨by rfl, ?_⟩) (by assumption) ?_
        rotate_left
        · intro wq hSw; go_simp; try with_reducible rfl
        simp only [Act.put, List.setIfInBounds_toArray, List.set_cons_zero, List.set_cons_succ, List.getElem_toArray, List.getElem_cons_zero, List.getElem_cons_succ]
        refine wpAnyH_take (i := 5) (oi := _) (v := ?_) rfl (by kernel_rfl) (by kernel_rfl) (by kernel_rfl) (fun _ _ _ h => h) (Or.inl ⟨by rfl, ?_⟩) (by assumption) ?_
        rotate_left
        · intro wq hSw; go_simp; try with_reducible rfl
        simp only [Act.put, List.setIfInBounds_toArray, List.set_cons_zero, List.set_cons_succ, List.getElem_toArray, List.getElem_cons_zero, List.getElem_cons_succ]
        refine wpAnyH_take (i := 6) (oi := _) (v := ?_) rfl (by kernel_rfl) (by kernel_rfl) (by kernel_rfl) (fun _ _ _ h => h) (Or.inl ⟨by rfl, ?_⟩) (by assumption) ?_
        rotate_left
        · intro wq hSw; go_simp; try with_reducible rfl
        simp only [Act.put, List.setIfInBounds_toArray, List.set_cons_zero, List.set_cons_succ, List.getElem_toArray, List.getElem_cons_zero, List.getElem_cons_succ]
        refine wpAnyH_ready (rs := [4]) (by kernel_rfl) (by simp) ?_
        refine AllReadyH.cons (o := _) rfl (fun K hK => ?_) AllReadyH.nil
        simp only [List.getElem_toArray, List.getElem_cons_zero, List.getElem_cons_succ]
        go_simp
        refine (HQ.out _ hHeld).mono ?_; rintro e w6 ⟨rfl, rfl⟩; have hE6 := Lib.hid hHeld
        refine hK.out _ _ (hE6.out) (fun _ => ?_)
        clear hK K hHeld
        refine wpAnyH_mono (S' := From wr) (fun w' h => h) ?_
        have hHeld := hE6.out
        simp only [Act.put, List.setIfInBounds_toArray, List.set_cons_zero, List.set_cons_succ, List.getElem_toArray, List.getElem_cons_zero, List.getElem_cons_succ]
        refine wpAnyH_take (i := 7) (oi := _) (v := ?_) rfl (by kernel_rfl) (by kernel_rfl) (by kernel_rfl) (fun _ _ _ h => h) (Or.inl ⟨by rfl, ?_⟩) (by assumption) ?_
        rotate_left
        · intro wq hSw; go_simp; try with_reducible rfl
        simp only [Act.put, List.setIfInBounds_toArray, List.set_cons_zero, List.set_cons_succ, List.getElem_toArray, List.getElem_cons_zero, List.getElem_cons_succ]
        refine wpAnyH_take (i := 8) (oi := _) (v := ?_) rfl (by kernel_rfl) (by kernel_rfl) (by kernel_rfl) (fun _ _ _ h => h) (Or.inl ⟨by rfl, ?_⟩) (by assumption) ?_
        rotate_left
        · intro wq hSw; go_simp; try with_reducible rfl
        simp only [Act.put, List.setIfInBounds_toArray, List.set_cons_zero, List.set_cons_succ, List.getElem_toArray, List.getElem_cons_zero, List.getElem_cons_succ]
        refine wpAnyH_take (i := 9) (oi := _) (v := ?_) rfl (by kernel_rfl) (by kernel_rfl) (by kernel_rfl) (fun _ _ _ h => h) (Or.inl ⟨by rfl, ?_⟩) (by assumption) ?_
        rotate_left
        · intro wq hSw; go_simp; try with_reducible rfl
        simp only [Act.put, List.setIfInBounds_toArray, List.set_cons_zero, List.set_cons_succ, List.getElem_toArray, List.getElem_cons_zero, List.getElem_cons_succ]
        refine wpAnyH_take (i := 10) (oi := _) (v := ?_) rfl (by kernel_rfl) (by kernel_rfl) (by kernel_rfl) (fun _ _ _ h => h) (Or.inl ⟨by rfl, ?_⟩) (by assumption) ?_
        rotate_left
        · intro wq hSw; go_simp; try with_reducible rfl
        simp only [Act.put, List.setIfInBounds_toArray, List.set_cons_zero, List.set_cons_succ, List.getElem_toArray, List.getElem_cons_zero, List.getElem_cons_succ]
        refine wpAnyH_take (i := 13) (oi := _) (v := ?_) rfl (by kernel_rfl) (by kernel_rfl) (by kernel_rfl) (fun _ _ _ h => h) (Or.inl ⟨by rfl, ?_⟩) (by assumption) ?_
        rotate_left
        · intro wq hSw; go_simp; try with_reducible rfl
        simp only [Act.put, List.setIfInBounds_toArray, List.set_cons_zero, List.set_cons_succ, List.getElem_toArray, List.getElem_cons_zero, List.getElem_cons_succ]
        refine wpAnyH_ready (rs := [11]) (by kernel_rfl) (by simp) ?_
        refine AllReadyH.cons (o := _) rfl (fun K hK => ?_) AllReadyH.nil
        simp only [List.getElem_toArray, List.getElem_cons_zero, List.getElem_cons_succ]
        go_simp
        refine (HF.out _ hHeld).mono ?_; rintro e w7 ⟨sp7, cap7, rfl, h7, hb7⟩; have hE7 := Lib.hid (From.trans hHeld hb7.out)
        refine hK.out _ _ (hE7.out) (fun _ => ?_)
        clear hK K hHeld
        refine wpAnyH_mono (S' := From w7) (fun w' h => From.trans hE7.out h) ?_
        have hHeld := From.refl w7
        have hc7 := h7.out
        clear h7 hb7
        simp only [Act.put, List.setIfInBounds_toArray, List.set_cons_zero, List.set_cons_succ, List.getElem_toArray, List.getElem_cons_zero, List.getElem_cons_succ]
        refine wpAnyH_take (i := 12) (oi := _) (v := ?_) rfl (by kernel_rfl) (by kernel_rfl) (by kernel_rfl) (fun _ _ _ h => h) (Or.inl ⟨by rfl, ?_⟩) (by assumption) ?_
        rotate_left
        · intro wq hSw; go_simp; try with_reducible rfl
        simp only [Act.put, List.setIfInBounds_toArray, List.set_cons_zero, List.set_cons_succ, List.getElem_toArray, List.getElem_cons_zero, List.getElem_cons_succ]
        clear hc7
        refine wpAnyH_ready (rs := [14]) (by kernel_rfl) (by simp) ?_
        refine AllReadyH.cons (o := _) rfl (fun K hK => ?_) AllReadyH.nil
        simp only [List.getElem_toArray, List.getElem_cons_zero, List.getElem_cons_succ]
        go_simp
        refine (HRB.out _ (From.trans hE7.out hHeld)).mono ?_; rintro e w8 ⟨sp8, cap8, rfl, h8, hb8⟩; have hF8 := Lib.hid (From.trans hHeld hb8.out); have hE8 := Lib.hid (From.trans hE7.out hF8.out)
        refine hK.out _ _ (hF8.out) (fun _ => ?_)
        clear hK K hHeld
        refine wpAnyH_mono (S' := From w8) (fun w' h => From.trans hF8.out h) ?_
        have hHeld := From.refl w8
        have hc8 := h8.out
        clear h8 hb8 hE7 hF8
        simp only [Act.put, List.setIfInBounds_toArray, List.set_cons_zero, List.set_cons_succ, List.getElem_toArray, List.getElem_cons_zero, List.getElem_cons_succ]
        refine wpAnyH_take (i := 15) (oi := _) (v := ?_) rfl (by kernel_rfl) (by kernel_rfl) (by kernel_rfl) (fun _ _ _ h => h) (Or.inl ⟨by rfl, ?_⟩) (by assumption) ?_
        rotate_left
        · intro wq hSw; go_simp; try with_reducible rfl
        simp only [Act.put, List.setIfInBounds_toArray, List.set_cons_zero, List.set_cons_succ, List.getElem_toArray, List.getElem_cons_zero, List.getElem_cons_succ]
        clear hc8
        refine wpAnyH_take (i := 16) (oi := _) (v := ?_) rfl (by kernel_rfl) (by kernel_rfl) (by kernel_rfl) (fun _ _ _ h => h) (Or.inl ⟨by rfl, ?_⟩) (by assumption) ?_
        rotate_left
        · intro wq hSw; go_simp; try with_reducible rfl
        simp only [Act.put, List.setIfInBounds_toArray, List.set_cons_zero, List.set_cons_succ, List.getElem_toArray, List.getElem_cons_zero, List.getElem_cons_succ]
        refine wpAnyH_take (i := 17) (oi := _) (v := ?_) rfl (by kernel_rfl) (by kernel_rfl) (by kernel_rfl) (fun _ _ _ h => h) (Or.inl ⟨by rfl, ?_⟩) (by assumption) ?_
        rotate_left
        · intro wq hSw; go_simp; try with_reducible rfl
        simp only [Act.put, List.setIfInBounds_toArray, List.set_cons_zero, List.set_cons_succ, List.getElem_toArray, List.getElem_cons_zero, List.getElem_cons_succ]
        refine wpAnyH_done (by kernel_rfl) ?_ _
        refine NoPanic.normal ?_
        have HBc8 : Hid (Below wc.heap.size wc w8) := Lib.hid (HBcr.out.trans (Below.mono hE8.out HBcr.out.size))
        have HW8 := Lib.hid (HWr.out.below hE8.out)
        clear hnn hHeld HQ HF HRB hE6 hE8 HBA HWr HO HW5 HBcr HB HBc5 hsz hco hmo2
        by_cases h0 : i = 0
        · subst h0
          go_wp2_with fail
          go_ret
          exact ⟨rfl, HB1.out.trans (HBc8.out.mono HB1.out.size)⟩
        · have h0f := beq_f (show ¬ (i : Int) = 0 by omega)
          go_wp2_with fail
          refine (bytes_i (N := NB) HW8.out HWL.out HNB.out).mono ?_
          rintro e w9 ⟨sp9, cap9, rfl, hi9, hb9⟩
          have HY9 := Lib.hid hi9
          have HBc9 : Hid (Below wc.heap.size wc w9) := Lib.hid (HBc8.out.trans (hb9.mono HBc8.out.size))
          have hBl : (bytesOf (withOne F L)).length = NB := by rw [bytesOf_length]; exact HNB.out.symm
          have hNBs : NB ≤ 114 := by rw [HNB.out, ← HNW.out]; omega
          have hNB1 : 1 ≤ NB := by
            rw [HNB.out]
            have : 1 ≤ (withOne F L).length := by unfold withOne; simp
            omega
          have HBl := Lib.hid hBl
          clear hi9 hb9 HW8 hBl HBc8
          go_wp2_with fail
          refine (read_any _ (bytesOf (withOne F L)) _ HY9.out (by rw [HBl.out]; omega)).mono ?_
          rintro e w10 ⟨r, rfl, hr10, hb10⟩
          have HBc10 : Hid (Below wc.heap.size wc w10) := Lib.hid (HBc9.out.trans (hb10.mono HBc9.out.size))
          have hrw : wc.heap.size ≤ r := Nat.le_trans HBc9.out.size hr10.1
          have HR10 := Lib.hid hr10
          clear hr10 hb10 HBc9 HY9
          go_wp2_with fail
          refine (get_any r _ (bytesOf (withOne F L)) 0 1 _ HR10.out (by omega) (by rw [HBl.out]; omega)).mono ?_
          rintro e w11 ⟨rfl, hr11, hg11⟩
          rw [Nat.zero_add] at hr11
          have HBc11 : Hid (Below wc.heap.size wc w11) := Lib.hid (HBc10.out.trans (hg11.below HBc10.out.size hrw))
          have HR11 := Lib.hid hr11
          clear hr11 hg11 HBc10 HR10
          obtain ⟨i1, hi1⟩ : ∃ i1, i = i1 + 1 := ⟨i - 1, by omega⟩
          have hi1L : i1 < L.length := by rw [HL.out]; omega
          obtain ⟨bb, off, kk, hs, _, _, hbb, hcc⟩ := HJ1.out.cells (by omega)
          simp at hs
          obtain ⟨rfl, -, rfl⟩ := hs
          have HCC : Hid (∀ W, Below wc.heap.size wc W → ∀ q, q < L.length → W.cell? ⟨bb, off + q, none⟩ = some (.int .i64 (L.getD q 0))) := Lib.hid fun W hW q hq => (hW.cell (p := ⟨bb, off + q, none⟩) hbb).trans (hcc q hq)
          have c0 := HCC.out _ HBc11.out i1 hi1L
          have f1 : wrap64 ((i : Int) - 1) = (i1 : Int) := by unfold wrap64; omega
          have f2 : (i : Int) - 1 = (i1 : Int) := by omega
          have hi1I : (i1 : Int) < (i : Int) := by omega
          have hem : L.getD i1 0 ∈ L := by rw [List.getD_eq_getElem?_getD, List.getElem?_eq_getElem hi1L]; exact List.getElem_mem hi1L
          obtain ⟨nF, hn1, hn2, hn3, hn4⟩ := first_at _ L hem
          generalize L.getD i1 0 = en at *
          have HI1' := Lib.hid hi1
          clear hcc hem hi1 hi1L
          go_wp2_with fail
          clear f1 f2 c0
          refine (read_codes _ F en most r _ (bytesOf (withOne F L)) 1 w11 (HI1.out.below HBc11.out) (by rw [← HN.out]; omega) (by rw [HBl.out]; omega) HR11.out hmo).mono ?_
          rintro e w12 ⟨hg12, ⟨hx, _⟩ | ⟨_, L', rr, u, sp, cp, hrd, rfl, ho12, _⟩⟩
          · exact absurd HOK.out hx
          obtain ⟨u', hrd'⟩ := withOne_rd HOK.out (en := en) most.toNat nF HANY.out hn1 hn2 hn3 hn4
          rw [hrd'] at hrd
          have HBc12 : Hid (Below wc.heap.size wc w12) := Lib.hid (HBc11.out.trans (hg12.below HBc11.out.size hrw))
          have HRD := Lib.hid hrd
          have HO12 := Lib.hid (isInts_own rfl ho12)
          have HLN : Hid (∀ q, q + 1 < nF → L.getD q 0 ≠ en) := Lib.hid hn3
          have HLE : Hid (L.getD (nF - 1) 0 = en) := Lib.hid hn4
          have hnFi : nF ≤ i := by rw [← HL.out]; exact hn2
          have HnL : Hid (nF ≤ L.length) := Lib.hid hn2
          have hL60 : L'.length ≤ 60 := by
            have h5 := congrArg (fun (p : List Int × Int × Nat) => p.1.length) hrd
            by_cases h : most.toNat < nF
            · rw [if_pos h] at h5
              have h6 : 0 = L'.length := h5
              omega
            · rw [if_neg h] at h5
              have h6 : (L.take nF).length = L'.length := h5
              rw [List.length_take] at h6
              omega
          clear hg12 hrd hrd' ho12 hn3 hn4 HBc11 HR11 HANY hn2
          generalize hL'l : L'.length = l' at *
          have HL'l := Lib.hid hL'l
          clear hL'l
          go_wp2_with fail
          go_loopw [18] (fun y wr => ∃ (k : Nat), 1 ≤ k ∧ k ≤ nF ∧ y = .int .i64 k ∧ wr = w12) (fun y _ => nF - (intOf y).toNat)
          case atStart => exact ⟨1, by omega, hn1, rfl, rfl⟩
          case round =>
            obtain ⟨k, hk1, hk2, rfl, rfl⟩ := hrel
            obtain ⟨k1, hkk⟩ : ∃ k1, k = k1 + 1 := ⟨k - 1, by omega⟩
            have c0 := HCC.out _ HBc12.out k1 (by have := HnL.out; omega)
            have f1 : wrap64 ((k : Int) - 1) = (k1 : Int) := by unfold wrap64; omega
            have f2 : (k : Int) - 1 = (k1 : Int) := by omega
            have hk1I : (k1 : Int) < (i : Int) := by omega
            have HKK := Lib.hid hkk
            clear hkk
            by_cases hkn : k < nF
            · have hne := bne_t (HLN.out k1 (by have := HKK.out; omega))
              generalize L.getD k1 0 = x at *
              go_wp2_with fail
              refine ⟨⟨k + 1, by omega, by omega, by first | rfl | go_num, by first | rfl | trivial⟩, ?_⟩
              simp only [intOf_int]; omega
            · obtain rfl : k = nF := by omega
              have hx : L.getD k1 0 = en := by rw [← HLE.out, HKK.out]; rfl
              rw [hx] at c0
              have hef := bne_f (rfl : en = en)
              clear hx hkn
              by_cases hmn : most < (k : Int)
              · have hr2 := HRD.out
                rw [if_pos (by omega)] at hr2
                simp only [Prod.mk.injEq] at hr2
                obtain ⟨rfl, rfl, -⟩ := hr2
                obtain rfl : l' = 0 := by rw [← HL'l.out]; rfl
                go_wp2_with fail
                go_ret
                exact ⟨rfl, HB1.out.trans (HBc12.out.mono HB1.out.size)⟩
              · have hr2 := HRD.out
                rw [if_neg (by omega)] at hr2
                simp only [Prod.mk.injEq] at hr2
                obtain ⟨rfl, rfl, -⟩ := hr2
                have hkc : (k : Int) ≤ (cap' : Int) := by omega
                have hup := isInts_upto (HJ1.out.below HBc12.out) HL.out k (by omega)
                have HUP := Lib.hid hup.1
                clear hup
                go_wp2_with fail
                refine (ints_same _ _ (L.take k) _ HO12.out HUP.out (by rw [HL'l.out]; omega)).mono ?_
                rintro e w13 ⟨rfl, hb13⟩
                have HB13 := Lib.hid (HB1.out.trans ((HBc12.out.trans (hb13.mono HBc12.out.size)).mono HB1.out.size))
                clear hb13
                go_wp2_with fail
                go_ret
                exact ⟨rfl, HB13.out⟩
end Go.Proofs.Ytijjpbpoekbekaa

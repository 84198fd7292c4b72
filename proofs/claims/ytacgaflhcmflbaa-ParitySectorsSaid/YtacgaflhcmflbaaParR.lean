/- ParitySectors, walked. -/
import Derived.Test.YtacgaflhcmflbaaParQ
set_option linter.unusedSimpArgs false
set_option linter.unusedVariables false
set_option maxRecDepth 100000
namespace Go.Proofs.Ytacgaflhcmflbaa
open Go.RowKit Pl
/-- a slice expression on rows of bools as one closed step -/
def sliceBR (x : Value) (lo hi mx : Option Value) : Sem Value := Instr.sliceAt 34 x lo hi mx
theorem sliceBR_eq (x : Value) (lo hi mx : Option Value) : Instr.sliceAt 34 x lo hi mx = sliceBR x lo hi mx := rfl
theorem elem_brs : Try.prog.elem 34 = 28 := by kernel_rfl
theorem und_brs : Try.prog.underlying 34 = some (.slice (Try.prog.elem 34)) := by rw [elem_brs]; exact Try.underlying34
theorem run_size_br (w : World) : (sizeOf (Try.prog.elem 34)).run Try.prog w = .ok 1 w := by
  obtain ⟨i0, hi, hz0, hz1, hz2⟩ := infoR_parts infoBR
  rw [elem_brs]
  simp [sizeOf, typeInfo, hi, hz1]
theorem run_uptoBR {a : Option Addr} {n cap : Nat} (k : Nat) (K : Int) (hK : K = k) (hk : k ≤ n) (hcap : n ≤ cap) (W : World) : (sliceBR (.slice a n cap) none (some (.int .i64 K)) none).run Try.prog W = .ok (.slice a k cap) W := by
  subst hK
  unfold sliceBR
  rw [run_sliceAt_slice _ _ _ _ _ _ und_brs, run_slice_h _ _ _ _ _ und_brs _ _ (by omega) (by omega), run_size_br, Int.toNat_natCast]
  simp only [Result.andThen, sliced, Nat.sub_zero]
  split
  · rfl
  · cases a with
    | none => rfl
    | some x => simp only [Nat.zero_mul, Option.map_some, addr_zero]
theorem IsBRows.take {w : World} {a : Option Addr} {n cap : Nat} {E : List (List Bool)} (h : IsBRows w (.slice a n cap) E) {k : Nat} (hk : k ≤ n) : IsBRows w (.slice a k cap) (E.take k) := by
  obtain ⟨a0, cap0, Vs, hv, h1, h2, hlen, hcell, hby⟩ := h
  simp at hv
  obtain ⟨rfl, rfl, rfl⟩ := hv
  have hl : (E.take k).length = k := by rw [List.length_take]; omega
  refine ⟨a, cap, Vs.take k, by rw [hl], by omega, h2, by rw [List.length_take, hl]; omega, fun i u hu => ?_, fun i u D hu hD => ?_⟩
  · have hi : i < k := by have := (List.getElem?_eq_some_iff.1 hu).1; rw [List.length_take] at this; omega
    rw [List.getElem?_take_of_lt hi] at hu
    exact hcell i u hu
  · have hi : i < k := by have := (List.getElem?_eq_some_iff.1 hu).1; rw [List.length_take] at this; omega
    rw [List.getElem?_take_of_lt hi] at hu hD
    exact hby i u D hu hD
/-- a row of another kind has grown -/
theorem Elem.grow {base n : Nat} {w w' : World} {v vo : Value} {B : List Nat} {e : TypeId} {xs : List Value} (hne : 5 ≠ e) (h : Elem base w v B) (ho : w.ownsRow base e 1 vo n xs) (hg : w.grownBy w' vo.ownBlock) : Elem base w' v B := by
  have hn : ∀ a n c, v = .slice (some a) n c → 0 < B.length → some a.block ≠ vo.ownBlock := by
    intro a m c hv h0 e2
    have hl := (ho.lt a.block e2.symm).1
    rcases h.2 a m c hv h0 with h' | ⟨cs, hc⟩
    · omega
    · obtain ⟨_, h5⟩ := own_ty ho e2.symm
      exact hne (blk_ty hc h5)
  refine ⟨h.1.row hg hn, fun a m c hv h0 => (h.2 a m c hv h0).imp id fun ⟨cs, hc⟩ => ⟨cs, hc.grown hg (hn a m c hv h0)⟩⟩
theorem OwnRows.grow {base n : Nat} {w w' : World} {v vo : Value} {L : List (List Nat)} {e : TypeId} {xs : List Value} (h1 : 5 ≠ e) (h2 : 23 ≠ e) (h : OwnRows base w v L) (ho : w.ownsRow base e 1 vo n xs) (hg : w.grownBy w' vo.ownBlock) : OwnRows base w' v L := by
  obtain ⟨Vs, o1, o2⟩ := h
  exact ⟨Vs, own_keep o1 hg fun r e2 => own_apart ho o1 (fun e => h2 e.symm) e2, fun i u B hu hB => (o2 i u B hu hB).grow h1 ho hg⟩
namespace Pl
def rotF (L : List (List Nat)) (x i q : Nat) : Nat := (L.getD i []).getD q 0 ^^^ x
/-- the i-th, its bad sectors' bytes below k turned by x -/
def rotK (L : List (List Nat)) (E : List (List Bool)) (x i k : Nat) : List Nat := rowK L E (rotF L x i) i k
def rotN (L : List (List Nat)) (E : List (List Bool)) (x i : Nat) : List (List Nat) := (List.range i).map fun j => rotK L E x j (L.getD j []).length
theorem rotN_length (L : List (List Nat)) (E : List (List Bool)) (x i : Nat) : (rotN L E x i).length = i := by simp [rotN]
theorem rotK_length (L : List (List Nat)) (E : List (List Bool)) (x i k : Nat) : (rotK L E x i k).length = (L.getD i []).length := rowK_length _ _ _ _ _
theorem rotN_step (L : List (List Nat)) (E : List (List Bool)) (x i : Nat) : rotN L E x (i + 1) = rotN L E x i ++ [rotK L E x i (L.getD i []).length] := by
  unfold rotN
  rw [List.range_succ, List.map_append]
  rfl
theorem rotN_get (L : List (List Nat)) (E : List (List Bool)) (x : Nat) (i : Nat) : (rotN L E x L.length).getD i [] = rotK L E x i (L.getD i []).length := by
  by_cases hi : i < L.length
  · simp [rotN, List.getD, hi]
  · rw [List.getD_eq_getElem?_getD, List.getElem?_eq_none (by rw [rotN_length]; omega)]
    symm
    apply List.eq_nil_of_length_eq_zero
    rw [rotK_length, List.getD_eq_getElem?_getD, List.getElem?_eq_none (by omega)]
    rfl
theorem rotK_same (L : List (List Nat)) (E : List (List Bool)) (x i k : Nat) {q : Nat} (h : bd E i (q / 64) = false) : (rotK L E x i k).getD q 0 = (L.getD i []).getD q 0 := by
  unfold rotK rowK
  by_cases hq : q < (L.getD i []).length
  · rw [rng_get _ _ hq, h]; simp
  · rw [rng_out _ _ (by omega), List.getD_eq_getElem?_getD, List.getElem?_eq_none (by omega)]; rfl
theorem rotK_none (L : List (List Nat)) (E : List (List Bool)) (x i k k' : Nat) (h : ∀ s, bd E i s = false) : rotK L E x i k = rotK L E x i k' := by
  unfold rotK rowK
  exact rng_congr fun q _ => by rw [h]; simp
theorem rotK_lt {L : List (List Nat)} {E : List (List Bool)} {x i k : Nat} (h : ∀ x ∈ L.getD i [], x < 256) (hx : x < 256) : ∀ y ∈ rotK L E x i k, y < 256 := rowK_lt h fun q => Nat.xor_lt_two_pow (n := 8) (byte_at h q) hx
theorem rotK_at (L : List (List Nat)) (E : List (List Bool)) (x i : Nat) {k : Nat} (hk : k < (L.getD i []).length) : (rotK L E x i k).getD k 0 = (L.getD i []).getD k 0 := by
  unfold rotK rowK
  rw [rng_get _ _ hk, if_neg (by omega)]
theorem bd_far {E : List (List Bool)} {i : Nat} (h : E.length ≤ i) (s : Nat) : bd E i s = false := by
  unfold bd
  rw [List.getD_eq_getElem?_getD (l := E), List.getElem?_eq_none h]
  rfl
end Pl
attribute [local go_sem ↓] conv_eq sliceBR_eq
set_option maxHeartbeats 32000000 in
theorem paritySectors_any (a : Option Addr) (len cap : Nat) (R : List (List Nat)) (ea : Option Addr) (ne ec : Nat) (E0 : List (List Bool)) (x : Nat) (w : World) (hr : IsRows w (.slice a len cap) R) (he : IsBRows w (.slice ea ne ec) E0) (hx8 : x < 256) (hne : ne ≤ 9223372036854775807) :
    Calls Try.prog 4 #[.slice a len cap, .slice ea ne ec, .int .u8 x] w fun e w' => e = .returned (.bool true) ∧ Below w.heap.size w w' := by
  have HR := Lib.hid hr
  have HE0 := Lib.hid he
  have HLT := Lib.hid (cutP_lt hr.lt)
  have hx256 : (x : Int) < 256 := by omega
  have HX8 := Lib.hid hx8
  obtain ⟨_, _, he0, hec, _⟩ := he.slice
  simp at he0
  obtain ⟨rfl, hne0, rfl⟩ := he0
  rw [← hne0] at hec
  have HNE0 := Lib.hid hne0
  clear hr he hne0
  go_enter Try.func4, Try.ntmps4
  go_wp2_with fail
  refine (begun_any w).mono ?_
  rintro e w1 ⟨rfl, hb1⟩
  have HB1 := Lib.hid hb1
  clear hb1
  go_wp2_with fail
  refine (cut_any _ R w1 (HR.out.below HB1.out)).mono ?_
  rintro e w2 ⟨v2, rfl, ho2, hb2⟩
  obtain ⟨L, hL⟩ : ∃ L, cutP R = L := ⟨_, rfl⟩
  have hL5 := cutP_length R
  have hmx := cutP_mx R
  rw [hL] at ho2 hL5 hmx HLT
  obtain ⟨n, hn⟩ : ∃ n, L.length = n := ⟨_, rfl⟩
  obtain ⟨sp, cp, rfl, hcp, hcm⟩ := ho2.slice
  unfold maxLen at hcm
  rw [hn] at ho2 hL5 hcp ⊢
  have HO2 := Lib.hid ho2
  have HN := Lib.hid hn
  have HMX := Lib.hid hmx
  have HB2 := Lib.hid (HB1.out.trans (hb2.mono HB1.out.size))
  have HE2 := Lib.hid (HE0.out.below HB2.out)
  clear hL ho2 hn hmx hb2 HR HB1 HE0
  by_cases hbig : n + 1 < ne
  · have hdb : decide ((ne : Int) > (n : Int) + 1) = true := decide_eq_true (by omega)
    obtain ⟨m, hm⟩ : ∃ m, n + 1 = m := ⟨_, rfl⟩
    have hsl := fun W => run_uptoBR (a := ea) (n := ne) (cap := ec) m ((n : Int) + 1) (by omega) (by omega) hec W
    obtain ⟨E, hE⟩ : ∃ E, E0.take m = E := ⟨_, rfl⟩
    have HE := Lib.hid (HE2.out.take (k := m) (by omega))
    have HEL : Hid (E.length = m) := Lib.hid (by rw [← hE, List.length_take, ← HNE0.out]; omega)
    rw [hE] at HE
    have hmn : m ≤ n + 1 := by omega
    clear hE hbig hm HE2 HNE0
    have hnew : True := trivial
    go_wp2_with fail
    refine (make_any _ L w2 HO2.out.isRows (by rw [HN.out]; omega) (by have := HMX.out; omega)).mono ?_
    intro e w4 h4
    obtain ⟨sp4, cp4, rfl, ho4, hb4⟩ := h4.s
    obtain ⟨np, hnp⟩ : ∃ np, (parP L).length = np := ⟨_, rfl⟩
    have hI4 := isBytes_own (parP_lt HLT.out) ho4
    rw [hnp] at ho4 hI4 ⊢
    have HNP := Lib.hid hnp
    have HI4 := Lib.hid hI4
    have HO4 := Lib.hid (HO2.out.below hb4)
    have HE4 := Lib.hid (HE.out.below hb4)
    have HB4 := Lib.hid (HB2.out.trans (hb4.mono HB2.out.size))
    clear h4 ho4 hI4 hb4 hnp HO2 HB2 HE hnew
    go_wp2_with fail
    go_loopw [9, 10, 11] (fun sv rv y wk => ∃ i : Nat, i ≤ n ∧ y = .int .i64 i ∧ wk.ownsRow w4.heap.size 3 1 sv i (i64s ((lens L).take i)) ∧ OwnRows w4.heap.size wk rv (rotN L E x i) ∧ Below w4.heap.size w4 wk) (fun _ _ y _ => n - (intOf y).toNat)
    case atStart => exact ⟨0, by omega, rfl, own_nilI _ _, ownRows_nil _ _, Below.refl _ _⟩
    case round =>
      obtain ⟨i, hi, rfl, hos, hor, hb⟩ := hrel
      obtain ⟨sps, cps, rfl, _, _⟩ := ownsRow_slice hos
      have hrl := rotN_length L E x i
      obtain ⟨spr, cpr, rfl, _, _⟩ := hor.slice
      rw [hrl] at hor ⊢
      have HRNL := Lib.hid hrl
      have HOS := Lib.hid hos
      have HOR := Lib.hid hor
      have HB := Lib.hid hb
      have hsz := hb.size
      clear hrl hos hor hb
      by_cases hlt : i < n
      · obtain ⟨b, off, a', c', hsp, hbl, hc4, hI⟩ := HO4.out.isRows.at (i := i) (by rw [HN.out]; exact hlt)
        obtain rfl := hsp
        have hc := (HB.out.cell (p := ⟨b, off + i, none⟩) hbl).trans hc4
        have hst := lens_take L i (by rw [HN.out]; exact hlt)
        have hqm : (L.getD i []).length ≤ 300 := by
          have := mxL_at (L := L) (i := i) (by rw [HN.out]; exact hlt)
          have := HMX.out
          omega
        obtain ⟨B, hB⟩ : ∃ B, L.getD i [] = B := ⟨_, rfl⟩
        have hB8 := lt_getD HLT.out i
        rw [hB] at hc hc4 hI hst hqm hB8
        obtain ⟨q, hq⟩ : ∃ q, B.length = q := ⟨_, rfl⟩
        rw [hq] at hc hc4 hI hst hqm
        have HBB := Lib.hid hB
        have HQ := Lib.hid hq
        have HQB : Hid ((L.getD i []).length = q) := Lib.hid (by rw [hB, hq])
        have HI := Lib.hid hI
        have HST := Lib.hid hst
        have HC4 := Lib.hid hc4
        have HB8 := Lib.hid hB8
        clear hB hq hI hst hc4 hB8
        go_wp2_with (first | (at_builtin; refine wpList_append_int rfl (.tmp 42) (.tmp 48) rfl w4.heap.size (.slice sps i cps) i _ _ rfl HOS.out _ rfl rfl (by omega) hsz ?_; intro v5 w5 hO5 hg5; obtain ⟨sp5, cp5, rfl, _, _⟩ := ownsRow_slice hO5; have HOS5 := Lib.hid hO5; have HB5 := Lib.hid (bel_append HB.out _ HOS.out hg5 hsz); have HOR5 := Lib.hid (OwnRows.grow (by decide) (by decide) (HOR.out.below ((Below.refl _ _).alloc (Nat.le_refl _) _)) (own_below HOS.out ((Below.refl _ _).alloc (Nat.le_refl _) _)) hg5); have hs5 := HB5.out.size; have hc5 := (HB5.out.cell (p := ⟨b, off + i, none⟩) hbl).trans HC4.out; have HI5 := Lib.hid (HI.out.below HB5.out); clear hO5 hg5 hc) | (at_builtin; refine wpList_append_bytes rfl _ (.tmp 53) rfl w5.heap.size (.slice none 0 0) 0 [] rfl (own_nil _ _) _ B rfl HI5.out (by rw [HQ.out]; omega) (Nat.le_refl _) ?_; intro v6 w6 hO6 hg6; obtain ⟨sp6, cp6, rfl, _, _⟩ := ownsRow_slice hO6; have HO6 : Hid (w6.ownsRow w5.heap.size 5 1 (.slice sp6 q cp6) q (u8s (rotK L E x i 0))) := Lib.hid (by rw [Nat.zero_add, HQ.out, List.nil_append] at hO6; unfold rotK; rw [rowK_zero, HBB.out]; exact hO6); have HB6 : Hid (Below w5.heap.size w5 w6) := Lib.hid ((Below.refl _ _).grown hg6 (Nat.le_refl _) (by intro q hq; simp [Value.ownBlock] at hq)); rw [Nat.zero_add, HQ.out]; clear hO6 hg6))
        have hqi : (0 : Int) ≤ (q : Int) := by omega
        go_loopw [13] (fun y wk => ∃ k : Nat, k ≤ q ∧ y = .int .i64 k ∧ wk.ownsRow w5.heap.size 5 1 (.slice sp6 q cp6) q (u8s (rotK L E x i k)) ∧ Below w5.heap.size w5 wk) (fun y _ => q - (intOf y).toNat)
        case atStart => exact ⟨0, by omega, rfl, HO6.out, HB6.out⟩
        case round =>
          obtain ⟨k, hk, rfl, hok, hbk⟩ := hrel
          have HOK := Lib.hid hok
          have HBK := Lib.hid hbk
          clear hok hbk HO6 HB6
          by_cases hkq : k < q
          · by_cases him : i < m
            · have hd2 : decide ((i : Int) < (m : Int)) = true := decide_eq_true (by omega)
              obtain ⟨b3, off3, a3, n3, c3, rfl, _, hc3, hn3, hc3m, hIb⟩ := ((HE4.out.below HB5.out).below HBK.out).at (i := i) (by rw [HEL.out]; exact him)
              unfold maxLen at hc3m
              obtain ⟨s, hs⟩ : ∃ s, k / 64 = s := ⟨_, rfl⟩
              have hq64 : (k : Int) / 64 = (s : Int) := by omega
              have hsk : s ≤ k := by omega
              have HS64 := Lib.hid hs
              have hbl3 := hIb.len
              clear hs
              by_cases hsn : s < n3
              · obtain ⟨b4, o4, rfl, _, hc4⟩ := hIb.at hsn
                have hbe : (E.getD i []).getD s false = bd E i s := rfl
                rw [hbe] at hc4
                clear hIb hbl3 hbe
                cases hbd : bd E i s with
                | true =>
                  rw [hbd] at hc4
                  obtain ⟨g, cg, hvg, hg1, _, _, _⟩ := own_open HOK.out (by omega)
                  simp at hvg
                  obtain ⟨rfl, rfl⟩ := hvg
                  have c1 := own_cell HOK.out (i := k) hkq
                  have f1 := World.ownsRow.frozenAt HOK.out k
                  rw [rotK_at L E x i (by rw [HQB.out]; exact hkq), HBB.out] at c1
                  have hset := rowK_set L E (rotF L x i) (i := i) (k := k) (by rw [HS64.out]; exact hbd)
                  unfold rotF at hset
                  rw [HBB.out] at hset
                  have hy8 := byte_at HB8.out k
                  have HSE : Hid (∀ z, z = B.getD k 0 ^^^ x → (rotK L E x i k).set k z = rotK L E x i (k + 1)) := Lib.hid fun z hz => by rw [hz]; unfold rotK rotF; rw [HBB.out]; exact hset
                  clear hset hbd
                  generalize B.getD k 0 = y at *
                  have hx8 := HX8.out
                  have e1 : bits BinOp.xor IntKind.u8 (y : Int) (x : Int) = ((y ^^^ x : Nat) : Int) := u8_xor_nat _ _ hy8 hx8
                  have HSE2 := Lib.hid (HSE.out (y ^^^ x) rfl)
                  clear hy8 HSE hx8
                  generalize y ^^^ x = z at *
                  go_wp2_with fail
                  go_roundw
                  case rel =>
                    have hst := World.ownsRow.stored HOK.out k (.int .u8 z)
                    rw [u8s_set, HSE2.out] at hst
                    exact ⟨k + 1, by omega, by go_num, hst.1, HBK.out.setCell (p := ⟨g, k, none⟩) hg1 _⟩
                  case measure => simp [intOf]; omega
                | false =>
                  rw [hbd] at hc4
                  have HRS : Hid (rotK L E x i k = rotK L E x i (k + 1)) := Lib.hid (rowK_skip L E _ (fun h => by unfold rc at h; rw [HS64.out, hbd] at h; cases h))
                  clear hbd
                  go_wp2_with fail
                  go_roundw
                  case rel =>
                    refine ⟨k + 1, by omega, by go_num, ?_, HBK.out⟩
                    rw [← HRS.out]; exact HOK.out
                  case measure => simp [intOf]; omega
              · have hbd : bd E i s = false := by
                  unfold bd
                  rw [List.getD_eq_getElem?_getD (l := E.getD i []), List.getElem?_eq_none (by omega)]; rfl
                clear hIb hbl3
                have HRS : Hid (rotK L E x i k = rotK L E x i (k + 1)) := Lib.hid (rowK_skip L E _ (fun h => by unfold rc at h; rw [HS64.out, hbd] at h; cases h))
                clear hbd
                go_wp2_with fail
                go_roundw
                case rel =>
                  refine ⟨k + 1, by omega, by go_num, ?_, HBK.out⟩
                  rw [← HRS.out]; exact HOK.out
                case measure => simp [intOf]; omega
            · have hd2 : decide ((i : Int) < (m : Int)) = false := decide_eq_false (by omega)
              have HORk := Lib.hid (HOR5.out.below HBK.out)
              have HOSk := Lib.hid (own_below HOS5.out HBK.out)
              have HBk := Lib.hid (HB5.out.trans (HBK.out.mono hs5))
              have hszk : w4.heap.size ≤ wr.heap.size := HBk.out.size
              have HELK := Lib.hid (elem_own (base := w4.heap.size) (B := rotK L E x i q) (rotK_lt (lt_getD HLT.out i) HX8.out) (by
                rw [rotK_length, HQB.out, rotK_none L E x i q k (bd_far (by rw [HEL.out]; omega))]
                exact HOK.out))
              rw [rotK_length, HQB.out] at HELK
              go_wp2_with (at_builtin; refine wpList_append_str1 rfl (.tmp 92) (.tmp 94) rfl w4.heap.size (.slice spr i cpr) (rotN L E x i) rfl HORk.out (rotK L E x i q) _ _ _ HELK.out rfl (by rw [HRNL.out]; omega) hszk ?_; intro v8 w8 hO8 hg8; obtain ⟨sp8, cp8, rfl, _, _⟩ := hO8.slice)
              go_roundw
              case rel =>
                have hO8' : OwnRows w4.heap.size w8 (.slice sp8 ((rotN L E x i).length + 1) cp8) (rotN L E x i ++ [rotK L E x i q]) := by
                  have := hO8
                  rw [List.length_append] at this
                  exact this
                obtain ⟨Vr, or1, _⟩ := HORk.out
                refine ⟨i + 1, by omega, by go_num, ?_, ?_, (HBk.out.alloc hszk _).grown hg8 (by simp; omega) HORk.out.lt⟩
                · rw [HST.out]
                  have o2 := own_below HOSk.out ((Below.refl _ _).alloc (Nat.le_refl _) (.cells #[.slice sp6 q cp6] 23 (0, 0)))
                  exact own_keep o2 hg8 fun r e2 => own_apart (own_below or1 ((Below.refl _ _).alloc (Nat.le_refl _) (.cells #[.slice sp6 q cp6] 23 (0, 0)))) o2 (by decide) e2
                · rw [rotN_step, HQB.out]
                  exact hO8'
              case measure => simp [intOf]; omega
          · obtain rfl : q = k := by omega
            have HORk := Lib.hid (HOR5.out.below HBK.out)
            have HOSk := Lib.hid (own_below HOS5.out HBK.out)
            have HBk := Lib.hid (HB5.out.trans (HBK.out.mono hs5))
            have hszk : w4.heap.size ≤ wr.heap.size := HBk.out.size
            have HELK := Lib.hid (elem_own (base := w4.heap.size) (B := rotK L E x i q) (rotK_lt (lt_getD HLT.out i) HX8.out) (by
              rw [rotK_length, HQB.out]
              exact HOK.out))
            rw [rotK_length, HQB.out] at HELK
            go_wp2_with (at_builtin; refine wpList_append_str1 rfl (.tmp 92) (.tmp 94) rfl w4.heap.size (.slice spr i cpr) (rotN L E x i) rfl HORk.out (rotK L E x i q) _ _ _ HELK.out rfl (by rw [HRNL.out]; omega) hszk ?_; intro v8 w8 hO8 hg8; obtain ⟨sp8, cp8, rfl, _, _⟩ := hO8.slice)
            go_roundw
            case rel =>
              have hO8' : OwnRows w4.heap.size w8 (.slice sp8 ((rotN L E x i).length + 1) cp8) (rotN L E x i ++ [rotK L E x i q]) := by
                have := hO8
                rw [List.length_append] at this
                exact this
              obtain ⟨Vr, or1, _⟩ := HORk.out
              refine ⟨i + 1, by omega, by go_num, ?_, ?_, (HBk.out.alloc hszk _).grown hg8 (by simp; omega) HORk.out.lt⟩
              · rw [HST.out]
                have o2 := own_below HOSk.out ((Below.refl _ _).alloc (Nat.le_refl _) (.cells #[.slice sp6 q cp6] 23 (0, 0)))
                exact own_keep o2 hg8 fun r e2 => own_apart (own_below or1 ((Below.refl _ _).alloc (Nat.le_refl _) (.cells #[.slice sp6 q cp6] 23 (0, 0)))) o2 (by decide) e2
              · rw [rotN_step, HQB.out]
                exact hO8'
            case measure => simp [intOf]; omega
      · obtain rfl : n = i := by omega
        obtain ⟨RR, hRR⟩ : ∃ RR, rotN L E x n = RR := ⟨_, rfl⟩
        have hti : (lens L).take n = lens L := by rw [List.take_of_length_le (by rw [lens_length, HN.out]; omega)]
        have hos := HOS.out
        have hor := HOR.out
        rw [hti] at hos
        rw [hRR] at hor
        have hRg : ∀ i, RR.getD i [] = rotK L E x i (L.getD i []).length := fun i => by rw [← hRR, ← HN.out]; exact rotN_get L E x i
        have HRL : Hid (RR.length = L.length) := Lib.hid (by rw [← hRR, rotN_length, HN.out])
        have HRW : Hid (∀ i, (RR.getD i []).length = (L.getD i []).length) := Lib.hid fun i => by rw [hRg, rotK_length]
        have HRG : Hid (∀ i q, bd E i (q / 64) = false → (RR.getD i []).getD q 0 = (L.getD i []).getD q 0) := Lib.hid fun i q h => by rw [hRg]; exact rotK_same L E x i _ h
        have HFIT : Hid (FitOk RR (parP L).length (lens L)) := Lib.hid (fitOk_lens HRL.out HRW.out)
        have hmr : mxL RR ≤ 300 := by rw [mxL_lens HRL.out HRW.out]; exact HMX.out
        have HRr := Lib.hid hor.isRows
        have HIr := Lib.hid (HI4.out.below HB.out)
        have HSr := Lib.hid (isInts_own (by rw [lens_length, HN.out]) hos)
        have HEr := Lib.hid (HE4.out.below HB.out)
        have HLr := Lib.hid (HO4.out.below HB.out)
        have HBr := Lib.hid (HB4.out.trans (HB.out.mono HB4.out.size))
        have HMR := Lib.hid hmr
        clear hRR hti hos hor hRg hmr HOS HOR HI4 HE4 HO4 HB HB4 HRNL
        have hsec := sectors_any (.slice spr n cpr) (.slice sp4 np cp4) (.slice sps n cps) (.slice ea m ec) RR (parP L) (lens L) E wr HRr.out HIr.out HSr.out HEr.out (by rw [HRL.out, HN.out]; omega) (by have := HMR.out; omega) (by rw [lens_length, HN.out]; omega) (by rw [HEL.out]; omega)
        have HSEC := Lib.hid hsec
        clear hsec
        go_wp2_with fail
        refine HSEC.out.mono ?_
        rintro e w9 ⟨hb9, ⟨hok, G, rfl, hr9⟩ | ⟨hno, rfl⟩⟩
        · rw [HRL.out, HN.out] at hr9 ⊢
          have HOKK := Lib.hid hok
          have HR9 := Lib.hid hr9
          have HB9 := Lib.hid hb9
          have href := refSectors_any (.slice spr n cpr) (.slice sp4 np cp4) (.slice sps n cps) (.slice ea m ec) RR (parP L) (lens L) E w9 (HRr.out.below hb9) (HIr.out.below hb9) (HSr.out.below hb9) (HEr.out.below hb9) HFIT.out (by rw [HRL.out, HN.out]; omega) (by have := HMR.out; omega) (by rw [HEL.out]; omega)
          have HREF := Lib.hid href
          clear href hok hr9 hb9 HSEC
          go_wp2_with fail
          refine HREF.out.mono ?_
          rintro e w10 ⟨hb10, ⟨hok2, sp10, cp10, rfl, hr10⟩ | ⟨hno2, _⟩⟩
          rotate_left
          · exact absurd ⟨HOKK.out.1, HOKK.out.2.2⟩ hno2
          rw [HRL.out, HN.out] at hr10 ⊢
          have hsm := same_any _ _ _ _ w10 (HR9.out.below hb10) hr10
          have HSM := Lib.hid hsm
          have HB10 := Lib.hid ((HBr.out.trans (HB9.out.mono HBr.out.size)).trans (hb10.mono (Nat.le_trans HBr.out.size HB9.out.size)))
          have HR10 := Lib.hid (HR9.out.below hb10)
          have HL10 := Lib.hid ((HLr.out.below HB9.out).below hb10)
          have HSP : Hid (secL RR E (parP L) = L) := Lib.hid (sec_parity HRL.out HRW.out HRG.out HOKK.out.2.2)
          clear hsm hr10 hok2 hb10 HREF HR9
          go_wp2_with fail
          refine HSM.out.mono ?_
          rintro e w11 ⟨rfl, m1, rfl⟩
          rw [decide_eq_true (rfl : secL RR E (parP L) = secL RR E (parP L))]
          have hb11 : Below w10.heap.size w10 (w10.drewN m1) := bel_drewN (Below.refl _ _) _
          have hsm := same_any _ _ _ L (w10.drewN m1) (HR10.out.below hb11) (HL10.out.below hb11).isRows
          rw [HSP.out] at hsm
          have HSM2 := Lib.hid hsm
          clear hsm HSM hb11
          go_wp2_with fail
          refine HSM2.out.mono ?_
          rintro e w12 ⟨rfl, m2, rfl⟩
          rw [decide_eq_true (rfl : L = L)]
          go_wp2_with fail
          go_ret
          exact ⟨rfl, bel_drewN HB10.out _⟩
        · have HNOO := Lib.hid hno
          have HB9 := Lib.hid hb9
          have href := refSectors_any (.slice spr n cpr) (.slice sp4 np cp4) (.slice sps n cps) (.slice ea m ec) RR (parP L) (lens L) E w9 (HRr.out.below hb9) (HIr.out.below hb9) (HSr.out.below hb9) (HEr.out.below hb9) HFIT.out (by rw [HRL.out, HN.out]; omega) (by have := HMR.out; omega) (by rw [HEL.out]; omega)
          have HREF := Lib.hid href
          clear href hno hb9 HSEC
          go_wp2_with fail
          refine HREF.out.mono ?_
          rintro e w10 ⟨hb10, ⟨hok2, _⟩ | ⟨_, rfl⟩⟩
          · exact absurd ⟨hok2.1, HFIT.out, hok2.2⟩ HNOO.out
          have hsm := same_any (.slice none 0 0) (.slice none 0 0) [] [] w10 (isRows_nil _) (isRows_nil _)
          have HSM := Lib.hid hsm
          have HB10 := Lib.hid ((HBr.out.trans (HB9.out.mono HBr.out.size)).trans (hb10.mono (Nat.le_trans HBr.out.size HB9.out.size)))
          clear hsm hb10 HREF
          go_wp2_with fail
          refine HSM.out.mono ?_
          rintro e w11 ⟨rfl, m1, rfl⟩
          rw [decide_eq_true (rfl : ([] : List (List Nat)) = [])]
          go_wp2_with fail
          go_ret
          exact ⟨rfl, bel_drewN HB10.out _⟩
  · have hdb : decide ((ne : Int) > (n : Int) + 1) = false := decide_eq_false (by omega)
    obtain ⟨m, hm⟩ : ∃ m, m = ne := ⟨_, rfl⟩
    subst hm
    have HE := HE2
    have HEL : Hid (E0.length = m) := Lib.hid (by rw [HNE0.out])
    have hmn : m ≤ n + 1 := by omega
    obtain ⟨E, hE⟩ : ∃ E, E0 = E := ⟨_, rfl⟩
    rw [hE] at HE HEL
    clear hE hbig HE2 HNE0
    have hnew : True := trivial
    go_wp2_with fail
    refine (make_any _ L w2 HO2.out.isRows (by rw [HN.out]; omega) (by have := HMX.out; omega)).mono ?_
    intro e w4 h4
    obtain ⟨sp4, cp4, rfl, ho4, hb4⟩ := h4.s
    obtain ⟨np, hnp⟩ : ∃ np, (parP L).length = np := ⟨_, rfl⟩
    have hI4 := isBytes_own (parP_lt HLT.out) ho4
    rw [hnp] at ho4 hI4 ⊢
    have HNP := Lib.hid hnp
    have HI4 := Lib.hid hI4
    have HO4 := Lib.hid (HO2.out.below hb4)
    have HE4 := Lib.hid (HE.out.below hb4)
    have HB4 := Lib.hid (HB2.out.trans (hb4.mono HB2.out.size))
    clear h4 ho4 hI4 hb4 hnp HO2 HB2 HE hnew
    go_wp2_with fail
    go_loopw [9, 10, 11] (fun sv rv y wk => ∃ i : Nat, i ≤ n ∧ y = .int .i64 i ∧ wk.ownsRow w4.heap.size 3 1 sv i (i64s ((lens L).take i)) ∧ OwnRows w4.heap.size wk rv (rotN L E x i) ∧ Below w4.heap.size w4 wk) (fun _ _ y _ => n - (intOf y).toNat)
    case atStart => exact ⟨0, by omega, rfl, own_nilI _ _, ownRows_nil _ _, Below.refl _ _⟩
    case round =>
      obtain ⟨i, hi, rfl, hos, hor, hb⟩ := hrel
      obtain ⟨sps, cps, rfl, _, _⟩ := ownsRow_slice hos
      have hrl := rotN_length L E x i
      obtain ⟨spr, cpr, rfl, _, _⟩ := hor.slice
      rw [hrl] at hor ⊢
      have HRNL := Lib.hid hrl
      have HOS := Lib.hid hos
      have HOR := Lib.hid hor
      have HB := Lib.hid hb
      have hsz := hb.size
      clear hrl hos hor hb
      by_cases hlt : i < n
      · obtain ⟨b, off, a', c', hsp, hbl, hc4, hI⟩ := HO4.out.isRows.at (i := i) (by rw [HN.out]; exact hlt)
        obtain rfl := hsp
        have hc := (HB.out.cell (p := ⟨b, off + i, none⟩) hbl).trans hc4
        have hst := lens_take L i (by rw [HN.out]; exact hlt)
        have hqm : (L.getD i []).length ≤ 300 := by
          have := mxL_at (L := L) (i := i) (by rw [HN.out]; exact hlt)
          have := HMX.out
          omega
        obtain ⟨B, hB⟩ : ∃ B, L.getD i [] = B := ⟨_, rfl⟩
        have hB8 := lt_getD HLT.out i
        rw [hB] at hc hc4 hI hst hqm hB8
        obtain ⟨q, hq⟩ : ∃ q, B.length = q := ⟨_, rfl⟩
        rw [hq] at hc hc4 hI hst hqm
        have HBB := Lib.hid hB
        have HQ := Lib.hid hq
        have HQB : Hid ((L.getD i []).length = q) := Lib.hid (by rw [hB, hq])
        have HI := Lib.hid hI
        have HST := Lib.hid hst
        have HC4 := Lib.hid hc4
        have HB8 := Lib.hid hB8
        clear hB hq hI hst hc4 hB8
        go_wp2_with (first | (at_builtin; refine wpList_append_int rfl (.tmp 42) (.tmp 48) rfl w4.heap.size (.slice sps i cps) i _ _ rfl HOS.out _ rfl rfl (by omega) hsz ?_; intro v5 w5 hO5 hg5; obtain ⟨sp5, cp5, rfl, _, _⟩ := ownsRow_slice hO5; have HOS5 := Lib.hid hO5; have HB5 := Lib.hid (bel_append HB.out _ HOS.out hg5 hsz); have HOR5 := Lib.hid (OwnRows.grow (by decide) (by decide) (HOR.out.below ((Below.refl _ _).alloc (Nat.le_refl _) _)) (own_below HOS.out ((Below.refl _ _).alloc (Nat.le_refl _) _)) hg5); have hs5 := HB5.out.size; have hc5 := (HB5.out.cell (p := ⟨b, off + i, none⟩) hbl).trans HC4.out; have HI5 := Lib.hid (HI.out.below HB5.out); clear hO5 hg5 hc) | (at_builtin; refine wpList_append_bytes rfl _ (.tmp 53) rfl w5.heap.size (.slice none 0 0) 0 [] rfl (own_nil _ _) _ B rfl HI5.out (by rw [HQ.out]; omega) (Nat.le_refl _) ?_; intro v6 w6 hO6 hg6; obtain ⟨sp6, cp6, rfl, _, _⟩ := ownsRow_slice hO6; have HO6 : Hid (w6.ownsRow w5.heap.size 5 1 (.slice sp6 q cp6) q (u8s (rotK L E x i 0))) := Lib.hid (by rw [Nat.zero_add, HQ.out, List.nil_append] at hO6; unfold rotK; rw [rowK_zero, HBB.out]; exact hO6); have HB6 : Hid (Below w5.heap.size w5 w6) := Lib.hid ((Below.refl _ _).grown hg6 (Nat.le_refl _) (by intro q hq; simp [Value.ownBlock] at hq)); rw [Nat.zero_add, HQ.out]; clear hO6 hg6))
        have hqi : (0 : Int) ≤ (q : Int) := by omega
        go_loopw [13] (fun y wk => ∃ k : Nat, k ≤ q ∧ y = .int .i64 k ∧ wk.ownsRow w5.heap.size 5 1 (.slice sp6 q cp6) q (u8s (rotK L E x i k)) ∧ Below w5.heap.size w5 wk) (fun y _ => q - (intOf y).toNat)
        case atStart => exact ⟨0, by omega, rfl, HO6.out, HB6.out⟩
        case round =>
          obtain ⟨k, hk, rfl, hok, hbk⟩ := hrel
          have HOK := Lib.hid hok
          have HBK := Lib.hid hbk
          clear hok hbk HO6 HB6
          by_cases hkq : k < q
          · by_cases him : i < m
            · have hd2 : decide ((i : Int) < (m : Int)) = true := decide_eq_true (by omega)
              obtain ⟨b3, off3, a3, n3, c3, rfl, _, hc3, hn3, hc3m, hIb⟩ := ((HE4.out.below HB5.out).below HBK.out).at (i := i) (by rw [HEL.out]; exact him)
              unfold maxLen at hc3m
              obtain ⟨s, hs⟩ : ∃ s, k / 64 = s := ⟨_, rfl⟩
              have hq64 : (k : Int) / 64 = (s : Int) := by omega
              have hsk : s ≤ k := by omega
              have HS64 := Lib.hid hs
              have hbl3 := hIb.len
              clear hs
              by_cases hsn : s < n3
              · obtain ⟨b4, o4, rfl, _, hc4⟩ := hIb.at hsn
                have hbe : (E.getD i []).getD s false = bd E i s := rfl
                rw [hbe] at hc4
                clear hIb hbl3 hbe
                cases hbd : bd E i s with
                | true =>
                  rw [hbd] at hc4
                  obtain ⟨g, cg, hvg, hg1, _, _, _⟩ := own_open HOK.out (by omega)
                  simp at hvg
                  obtain ⟨rfl, rfl⟩ := hvg
                  have c1 := own_cell HOK.out (i := k) hkq
                  have f1 := World.ownsRow.frozenAt HOK.out k
                  rw [rotK_at L E x i (by rw [HQB.out]; exact hkq), HBB.out] at c1
                  have hset := rowK_set L E (rotF L x i) (i := i) (k := k) (by rw [HS64.out]; exact hbd)
                  unfold rotF at hset
                  rw [HBB.out] at hset
                  have hy8 := byte_at HB8.out k
                  have HSE : Hid (∀ z, z = B.getD k 0 ^^^ x → (rotK L E x i k).set k z = rotK L E x i (k + 1)) := Lib.hid fun z hz => by rw [hz]; unfold rotK rotF; rw [HBB.out]; exact hset
                  clear hset hbd
                  generalize B.getD k 0 = y at *
                  have hx8 := HX8.out
                  have e1 : bits BinOp.xor IntKind.u8 (y : Int) (x : Int) = ((y ^^^ x : Nat) : Int) := u8_xor_nat _ _ hy8 hx8
                  have HSE2 := Lib.hid (HSE.out (y ^^^ x) rfl)
                  clear hy8 HSE hx8
                  generalize y ^^^ x = z at *
                  go_wp2_with fail
                  go_roundw
                  case rel =>
                    have hst := World.ownsRow.stored HOK.out k (.int .u8 z)
                    rw [u8s_set, HSE2.out] at hst
                    exact ⟨k + 1, by omega, by go_num, hst.1, HBK.out.setCell (p := ⟨g, k, none⟩) hg1 _⟩
                  case measure => simp [intOf]; omega
                | false =>
                  rw [hbd] at hc4
                  have HRS : Hid (rotK L E x i k = rotK L E x i (k + 1)) := Lib.hid (rowK_skip L E _ (fun h => by unfold rc at h; rw [HS64.out, hbd] at h; cases h))
                  clear hbd
                  go_wp2_with fail
                  go_roundw
                  case rel =>
                    refine ⟨k + 1, by omega, by go_num, ?_, HBK.out⟩
                    rw [← HRS.out]; exact HOK.out
                  case measure => simp [intOf]; omega
              · have hbd : bd E i s = false := by
                  unfold bd
                  rw [List.getD_eq_getElem?_getD (l := E.getD i []), List.getElem?_eq_none (by omega)]; rfl
                clear hIb hbl3
                have HRS : Hid (rotK L E x i k = rotK L E x i (k + 1)) := Lib.hid (rowK_skip L E _ (fun h => by unfold rc at h; rw [HS64.out, hbd] at h; cases h))
                clear hbd
                go_wp2_with fail
                go_roundw
                case rel =>
                  refine ⟨k + 1, by omega, by go_num, ?_, HBK.out⟩
                  rw [← HRS.out]; exact HOK.out
                case measure => simp [intOf]; omega
            · have hd2 : decide ((i : Int) < (m : Int)) = false := decide_eq_false (by omega)
              have HORk := Lib.hid (HOR5.out.below HBK.out)
              have HOSk := Lib.hid (own_below HOS5.out HBK.out)
              have HBk := Lib.hid (HB5.out.trans (HBK.out.mono hs5))
              have hszk : w4.heap.size ≤ wr.heap.size := HBk.out.size
              have HELK := Lib.hid (elem_own (base := w4.heap.size) (B := rotK L E x i q) (rotK_lt (lt_getD HLT.out i) HX8.out) (by
                rw [rotK_length, HQB.out, rotK_none L E x i q k (bd_far (by rw [HEL.out]; omega))]
                exact HOK.out))
              rw [rotK_length, HQB.out] at HELK
              go_wp2_with (at_builtin; refine wpList_append_str1 rfl (.tmp 92) (.tmp 94) rfl w4.heap.size (.slice spr i cpr) (rotN L E x i) rfl HORk.out (rotK L E x i q) _ _ _ HELK.out rfl (by rw [HRNL.out]; omega) hszk ?_; intro v8 w8 hO8 hg8; obtain ⟨sp8, cp8, rfl, _, _⟩ := hO8.slice)
              go_roundw
              case rel =>
                have hO8' : OwnRows w4.heap.size w8 (.slice sp8 ((rotN L E x i).length + 1) cp8) (rotN L E x i ++ [rotK L E x i q]) := by
                  have := hO8
                  rw [List.length_append] at this
                  exact this
                obtain ⟨Vr, or1, _⟩ := HORk.out
                refine ⟨i + 1, by omega, by go_num, ?_, ?_, (HBk.out.alloc hszk _).grown hg8 (by simp; omega) HORk.out.lt⟩
                · rw [HST.out]
                  have o2 := own_below HOSk.out ((Below.refl _ _).alloc (Nat.le_refl _) (.cells #[.slice sp6 q cp6] 23 (0, 0)))
                  exact own_keep o2 hg8 fun r e2 => own_apart (own_below or1 ((Below.refl _ _).alloc (Nat.le_refl _) (.cells #[.slice sp6 q cp6] 23 (0, 0)))) o2 (by decide) e2
                · rw [rotN_step, HQB.out]
                  exact hO8'
              case measure => simp [intOf]; omega
          · obtain rfl : q = k := by omega
            have HORk := Lib.hid (HOR5.out.below HBK.out)
            have HOSk := Lib.hid (own_below HOS5.out HBK.out)
            have HBk := Lib.hid (HB5.out.trans (HBK.out.mono hs5))
            have hszk : w4.heap.size ≤ wr.heap.size := HBk.out.size
            have HELK := Lib.hid (elem_own (base := w4.heap.size) (B := rotK L E x i q) (rotK_lt (lt_getD HLT.out i) HX8.out) (by
              rw [rotK_length, HQB.out]
              exact HOK.out))
            rw [rotK_length, HQB.out] at HELK
            go_wp2_with (at_builtin; refine wpList_append_str1 rfl (.tmp 92) (.tmp 94) rfl w4.heap.size (.slice spr i cpr) (rotN L E x i) rfl HORk.out (rotK L E x i q) _ _ _ HELK.out rfl (by rw [HRNL.out]; omega) hszk ?_; intro v8 w8 hO8 hg8; obtain ⟨sp8, cp8, rfl, _, _⟩ := hO8.slice)
            go_roundw
            case rel =>
              have hO8' : OwnRows w4.heap.size w8 (.slice sp8 ((rotN L E x i).length + 1) cp8) (rotN L E x i ++ [rotK L E x i q]) := by
                have := hO8
                rw [List.length_append] at this
                exact this
              obtain ⟨Vr, or1, _⟩ := HORk.out
              refine ⟨i + 1, by omega, by go_num, ?_, ?_, (HBk.out.alloc hszk _).grown hg8 (by simp; omega) HORk.out.lt⟩
              · rw [HST.out]
                have o2 := own_below HOSk.out ((Below.refl _ _).alloc (Nat.le_refl _) (.cells #[.slice sp6 q cp6] 23 (0, 0)))
                exact own_keep o2 hg8 fun r e2 => own_apart (own_below or1 ((Below.refl _ _).alloc (Nat.le_refl _) (.cells #[.slice sp6 q cp6] 23 (0, 0)))) o2 (by decide) e2
              · rw [rotN_step, HQB.out]
                exact hO8'
            case measure => simp [intOf]; omega
      · obtain rfl : n = i := by omega
        obtain ⟨RR, hRR⟩ : ∃ RR, rotN L E x n = RR := ⟨_, rfl⟩
        have hti : (lens L).take n = lens L := by rw [List.take_of_length_le (by rw [lens_length, HN.out]; omega)]
        have hos := HOS.out
        have hor := HOR.out
        rw [hti] at hos
        rw [hRR] at hor
        have hRg : ∀ i, RR.getD i [] = rotK L E x i (L.getD i []).length := fun i => by rw [← hRR, ← HN.out]; exact rotN_get L E x i
        have HRL : Hid (RR.length = L.length) := Lib.hid (by rw [← hRR, rotN_length, HN.out])
        have HRW : Hid (∀ i, (RR.getD i []).length = (L.getD i []).length) := Lib.hid fun i => by rw [hRg, rotK_length]
        have HRG : Hid (∀ i q, bd E i (q / 64) = false → (RR.getD i []).getD q 0 = (L.getD i []).getD q 0) := Lib.hid fun i q h => by rw [hRg]; exact rotK_same L E x i _ h
        have HFIT : Hid (FitOk RR (parP L).length (lens L)) := Lib.hid (fitOk_lens HRL.out HRW.out)
        have hmr : mxL RR ≤ 300 := by rw [mxL_lens HRL.out HRW.out]; exact HMX.out
        have HRr := Lib.hid hor.isRows
        have HIr := Lib.hid (HI4.out.below HB.out)
        have HSr := Lib.hid (isInts_own (by rw [lens_length, HN.out]) hos)
        have HEr := Lib.hid (HE4.out.below HB.out)
        have HLr := Lib.hid (HO4.out.below HB.out)
        have HBr := Lib.hid (HB4.out.trans (HB.out.mono HB4.out.size))
        have HMR := Lib.hid hmr
        clear hRR hti hos hor hRg hmr HOS HOR HI4 HE4 HO4 HB HB4 HRNL
        have hsec := sectors_any (.slice spr n cpr) (.slice sp4 np cp4) (.slice sps n cps) (.slice ea m ec) RR (parP L) (lens L) E wr HRr.out HIr.out HSr.out HEr.out (by rw [HRL.out, HN.out]; omega) (by have := HMR.out; omega) (by rw [lens_length, HN.out]; omega) (by rw [HEL.out]; omega)
        have HSEC := Lib.hid hsec
        clear hsec
        go_wp2_with fail
        refine HSEC.out.mono ?_
        rintro e w9 ⟨hb9, ⟨hok, G, rfl, hr9⟩ | ⟨hno, rfl⟩⟩
        · rw [HRL.out, HN.out] at hr9 ⊢
          have HOKK := Lib.hid hok
          have HR9 := Lib.hid hr9
          have HB9 := Lib.hid hb9
          have href := refSectors_any (.slice spr n cpr) (.slice sp4 np cp4) (.slice sps n cps) (.slice ea m ec) RR (parP L) (lens L) E w9 (HRr.out.below hb9) (HIr.out.below hb9) (HSr.out.below hb9) (HEr.out.below hb9) HFIT.out (by rw [HRL.out, HN.out]; omega) (by have := HMR.out; omega) (by rw [HEL.out]; omega)
          have HREF := Lib.hid href
          clear href hok hr9 hb9 HSEC
          go_wp2_with fail
          refine HREF.out.mono ?_
          rintro e w10 ⟨hb10, ⟨hok2, sp10, cp10, rfl, hr10⟩ | ⟨hno2, _⟩⟩
          rotate_left
          · exact absurd ⟨HOKK.out.1, HOKK.out.2.2⟩ hno2
          rw [HRL.out, HN.out] at hr10 ⊢
          have hsm := same_any _ _ _ _ w10 (HR9.out.below hb10) hr10
          have HSM := Lib.hid hsm
          have HB10 := Lib.hid ((HBr.out.trans (HB9.out.mono HBr.out.size)).trans (hb10.mono (Nat.le_trans HBr.out.size HB9.out.size)))
          have HR10 := Lib.hid (HR9.out.below hb10)
          have HL10 := Lib.hid ((HLr.out.below HB9.out).below hb10)
          have HSP : Hid (secL RR E (parP L) = L) := Lib.hid (sec_parity HRL.out HRW.out HRG.out HOKK.out.2.2)
          clear hsm hr10 hok2 hb10 HREF HR9
          go_wp2_with fail
          refine HSM.out.mono ?_
          rintro e w11 ⟨rfl, m1, rfl⟩
          rw [decide_eq_true (rfl : secL RR E (parP L) = secL RR E (parP L))]
          have hb11 : Below w10.heap.size w10 (w10.drewN m1) := bel_drewN (Below.refl _ _) _
          have hsm := same_any _ _ _ L (w10.drewN m1) (HR10.out.below hb11) (HL10.out.below hb11).isRows
          rw [HSP.out] at hsm
          have HSM2 := Lib.hid hsm
          clear hsm HSM hb11
          go_wp2_with fail
          refine HSM2.out.mono ?_
          rintro e w12 ⟨rfl, m2, rfl⟩
          rw [decide_eq_true (rfl : L = L)]
          go_wp2_with fail
          go_ret
          exact ⟨rfl, bel_drewN HB10.out _⟩
        · have HNOO := Lib.hid hno
          have HB9 := Lib.hid hb9
          have href := refSectors_any (.slice spr n cpr) (.slice sp4 np cp4) (.slice sps n cps) (.slice ea m ec) RR (parP L) (lens L) E w9 (HRr.out.below hb9) (HIr.out.below hb9) (HSr.out.below hb9) (HEr.out.below hb9) HFIT.out (by rw [HRL.out, HN.out]; omega) (by have := HMR.out; omega) (by rw [HEL.out]; omega)
          have HREF := Lib.hid href
          clear href hno hb9 HSEC
          go_wp2_with fail
          refine HREF.out.mono ?_
          rintro e w10 ⟨hb10, ⟨hok2, _⟩ | ⟨_, rfl⟩⟩
          · exact absurd ⟨hok2.1, HFIT.out, hok2.2⟩ HNOO.out
          have hsm := same_any (.slice none 0 0) (.slice none 0 0) [] [] w10 (isRows_nil _) (isRows_nil _)
          have HSM := Lib.hid hsm
          have HB10 := Lib.hid ((HBr.out.trans (HB9.out.mono HBr.out.size)).trans (hb10.mono (Nat.le_trans HBr.out.size HB9.out.size)))
          clear hsm hb10 HREF
          go_wp2_with fail
          refine HSM.out.mono ?_
          rintro e w11 ⟨rfl, m1, rfl⟩
          rw [decide_eq_true (rfl : ([] : List (List Nat)) = [])]
          go_wp2_with fail
          go_ret
          exact ⟨rfl, bel_drewN HB10.out _⟩
/-- what came in -/
theorem isBRows_open {base : Nat} {w : World} {x : Addr} {len cap : Nat} {A : Nat → Option Addr} {L C : Nat → Nat} {B : Nat → Nat → Bool} (hl : len ≤ cap) (hm : cap ≤ maxLen)
    (h : ∀ r, r < cap → w.cell? (x.add r) = some (.slice (A r) (L r) (C r)) ∧ L r ≤ C r ∧ C r ≤ maxLen ∧ (A r = none → C r = 0) ∧ ∀ a', A r = some a' → base ≤ a'.block ∧ ∀ c, c < C r → w.cell? (a'.add c) = some (.bool (B r c))) : ∃ E, IsBRows w (.slice (some x) len cap) E := by
  refine ⟨(List.range len).map fun r => (List.range (L r)).map (B r), some x, cap, (List.range len).map fun r => .slice (A r) (L r) (C r), by simp, by simpa using hl, hm, by simp, fun i u hu => ?_, fun i u D hu hD => ?_⟩
  · have hi : i < len := by have := (List.getElem?_eq_some_iff.1 hu).1; simpa using this
    refine ⟨x, rfl, ?_⟩
    have := (h i (by omega)).1
    simp [hi] at hu
    rw [← hu]
    exact this
  · have hi : i < len := by have := (List.getElem?_eq_some_iff.1 hu).1; simpa using this
    obtain ⟨_, h2, h3, h6, h7⟩ := h i (by omega)
    simp [hi] at hu hD
    rw [← hu, ← hD]
    cases hA : A i with
    | none =>
      have hc := h6 hA
      have hl0 : L i = 0 := by omega
      rw [hl0, hc]
      exact .inl ⟨rfl, by simp⟩
    | some a' =>
      refine .inr ⟨a', C i, by simp, by simpa using h2, h3, fun c v hv => ?_⟩
      have hc : c < L i := by have := (List.getElem?_eq_some_iff.1 hv).1; simpa [bls] using this
      have := (h7 a' hA).2 c (by omega)
      simp [bls, hc] at hv
      rw [← hv]
      exact this
theorem paritySectors_walk (a : Option Addr) (len cap : Nat) (R : List (List Nat)) (ea : Option Addr) (ne ec : Nat) (E : List (List Bool)) (x : Int) (w : World) (hr : IsRows w (.slice a len cap) R) (he : IsBRows w (.slice ea ne ec) E) (hx : (Lit.int .u8 x).wf = true) :
    Calls Try.prog 4 #[.slice a len cap, .slice ea ne ec, .int .u8 x] w fun e w' => e = .returned (.bool true) ∧ Below w.heap.size w w' := by
  obtain ⟨hx0, hx1⟩ := u8_wf hx
  obtain ⟨y, rfl⟩ := Int.eq_ofNat_of_zero_le hx0
  obtain ⟨_, _, he0, h1, h2⟩ := he.slice
  simp at he0
  unfold maxLen at h2
  exact paritySectors_any a len cap R ea ne ec E y w hr he (by omega) (by omega)
end Go.Proofs.Ytacgaflhcmflbaa

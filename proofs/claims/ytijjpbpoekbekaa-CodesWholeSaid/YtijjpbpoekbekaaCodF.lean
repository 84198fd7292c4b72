/- folioref1.Kraft, folioref1.Codes, foliolaw1.Ints: contracts. -/
import Derived.Test.YtijjpbpoekbekaaCodE
set_option linter.unusedSimpArgs false
set_option linter.unusedVariables false
namespace Go.Proofs.Ytijjpbpoekbekaa
open Go.RowKit Pl
set_option maxHeartbeats 4000000 in
theorem kraft_ref (v : Value) (F : List Int) (w : World) (hv : IsInts w v F) (hF : F.length ≤ 300) :
    Calls Try.prog 27 #[v] w fun e w' => e = .returned (.int .i64 (kr F F.length : Nat)) ∧ w = w' := by
  obtain ⟨a, cap, rfl, hcap, hmax⟩ := hv.slice
  have HV := Lib.hid hv
  clear hv
  go_enter Try.func27, Try.ntmps27
  go_wp2
  go_loopw [3, 4] (fun x y wr => ∃ (i : Nat), i ≤ F.length ∧ x = .int .i64 (kr F i : Nat) ∧ y = .int .i64 i ∧ wr = w) (fun _ y _ => F.length - (intOf y).toNat)
  case atStart => exact ⟨0, by omega, rfl, rfl, rfl⟩
  case round =>
    obtain ⟨i, hi, rfl, rfl, rfl⟩ := hrel
    have hkr := kr_le F i
    by_cases hlt : i < F.length
    · obtain ⟨bb, off, cap', hs, _, _, _, hc⟩ := HV.out.cells (by omega)
      simp at hs
      obtain ⟨rfl, rfl⟩ := hs
      have c0 := hc i hlt
      have HKS : Hid (kr F (i + 1) = kr F i + (if 1 ≤ F.getD i 0 ∧ F.getD i 0 ≤ 15 then 2 ^ (15 - (F.getD i 0).toNat) else 0)) := Lib.hid rfl
      generalize F.getD i 0 = x at *
      clear hc
      obtain ⟨K, hK⟩ : ∃ K, K = kr F i := ⟨_, rfl⟩
      rw [← hK] at hkr HKS ⊢
      clear hK
      by_cases h1 : 1 ≤ x
      · by_cases h2 : x ≤ 15
        · obtain ⟨p, rfl⟩ : ∃ p : Nat, x = 15 - p := ⟨(15 - x).toNat, by omega⟩
          have hp : p ≤ 14 := by omega
          have hkn : kr F (i + 1) = K + 2 ^ p := by rw [HKS.out, if_pos (by omega), show 15 - (15 - (p : Int)).toNat = p by omega]
          have HKN : Hid (wrap64 ((K : Int) + 2 ^ p) = (kr F (i + 1) : Nat)) := Lib.hid (by rw [kr_next K p (by omega) hp, hkn])
          clear hkn HKS
          have e2 : wrap64 (15 - (15 - (p : Int))) = p := by unfold wrap64; omega
          have e4 : wrap64 (2 ^ p) = 2 ^ p := pow_wrap p (by omega)
          have e3 : wrap64 (2 ^ min p 64) = 2 ^ p := by rw [Nat.min_eq_left (by omega)]; exact e4
          have e5 : IntKind.u64.wrap (15 - (15 - (p : Int))) = (p : Int) := by rw [IntKind.wrap_u64]; omega
          have e6 : (15 - (15 - (p : Int))) = p := by omega
          go_wp2
          all_goals
            refine ⟨⟨i + 1, by omega, by rw [HKN.out], by first | rfl | go_num, by first | trivial | rfl⟩, ?_⟩
            simp only [intOf_int]; omega
        · have HKN : Hid (kr F (i + 1) = K) := Lib.hid (by rw [HKS.out, if_neg (by omega)]; rfl)
          clear HKS
          go_wp2
          refine ⟨⟨i + 1, by omega, by rw [HKN.out], by first | rfl | go_num, by first | trivial | rfl⟩, ?_⟩
          simp only [intOf_int]; omega
      · have HKN : Hid (kr F (i + 1) = K) := Lib.hid (by rw [HKS.out, if_neg (by omega)]; rfl)
        clear HKS
        go_wp2
        refine ⟨⟨i + 1, by omega, by rw [HKN.out], by first | rfl | go_num, by first | trivial | rfl⟩, ?_⟩
        simp only [intOf_int]; omega
    · obtain rfl : i = F.length := by omega
      go_wp2
      go_ret
      exact ⟨rfl, rfl⟩

/-! the verifier's codes -/
def fsts (C : List Cd) : List Value := C.map fun c => .int .u32 c.1
theorem fsts_length (C : List Cd) : (fsts C).length = C.length := by simp [fsts]
theorem fsts_get (C : List Cd) (i : Nat) (h : i < C.length) : (fsts C)[i]? = some (.int .u32 (C.getD i (0, 0)).1) := by simp [fsts, h, List.getD]
theorem fsts_set (C : List Cd) (i : Nat) (c : Cd) : (fsts C).set i (.int .u32 c.1) = fsts (C.set i c) := by simp [fsts, List.map_set]
theorem fsts_zero (n : Nat) : (madeCells (Value.int .u32 0).cells (n * 1)).toList = fsts (List.replicate n (0, 0)) := by
  apply List.ext_getElem?
  intro i
  by_cases h : i < n
  · simp [madeCells, Value.cells, h, Nat.mod_one, fsts]
  · simp [madeCells, Value.cells, h, fsts]
theorem infoU : (Try.prog.info? 32).map (fun i => (i.zero, i.size, i.bytes)) = some (some (.int .u32 0), 1, 4) := by kernel_rfl
theorem infoU_parts {o : Option TypeInfo} (h : o.map (fun i => (i.zero, i.size, i.bytes)) = some (some (.int .u32 0), 1, 4)) : ∃ i, o = some i ∧ i.zero = some (.int .u32 0) ∧ i.size = 1 ∧ i.bytes = 4 := by
  cases o with
  | none => cases h
  | some i => simp at h; exact ⟨i, rfl, h.1, h.2.1, h.2.2⟩
def RefPost (F : List Int) (w : World) (e : Ending) (w' : World) : Prop :=
  Below w.heap.size w w' ∧ ((okL F ∧ ∃ c, e = .returned (.tuple #[.slice (some ⟨c, 0, none⟩) F.length F.length, .bool true]) ∧ w.heap.size ≤ c ∧ Blk w' c 32 (fsts (codesL F))) ∨
    (¬ okL F ∧ e = .returned (.tuple #[.slice none 0 0, .bool false])))
def inTo (F : List Int) (i : Nat) : Prop := ∀ j, j < i → 0 ≤ F.getD j 0 ∧ F.getD j 0 ≤ 15
theorem inTo_all {F : List Int} (h : inTo F F.length) : inB F := by
  intro x hx
  obtain ⟨j, hj, rfl⟩ := List.mem_iff_getElem.1 hx
  have := h j hj
  rw [List.getD_eq_getElem?_getD, List.getElem?_eq_getElem hj] at this
  exact this
theorem inTo_succ {F : List Int} {i : Nat} (h : inTo F i) (h0 : 0 ≤ F.getD i 0) (h1 : F.getD i 0 ≤ 15) : inTo F (i + 1) := by
  intro j hj
  by_cases e : j = i
  · subst e; exact ⟨h0, h1⟩
  · exact h j (by omega)
set_option maxHeartbeats 8000000 in
theorem codes_ref (v : Value) (F : List Int) (w : World) (hv : IsInts w v F) (hF : F.length ≤ 17179869184) :
    Calls Try.prog 12 #[v] w (RefPost F w) := by
  by_cases hl : F.length ≤ 300
  rotate_left
  · obtain ⟨a, cap, rfl, hcap, hmax⟩ := hv.slice
    have HN : Hid (¬ okL F) := Lib.hid fun h => hl h.1
    clear hv
    go_enter Try.func12, Try.ntmps12
    go_wp2
    go_ret2
    exact ⟨Below.refl _ _, .inr ⟨HN.out, rfl⟩⟩
  have hkf := kraft_ref v F w hv hl
  obtain ⟨a, cap, rfl, hcap, hmax⟩ := hv.slice
  have HV := Lib.hid hv
  clear hv
  have hkl := kr_le F F.length
  by_cases hk : kr F F.length ≤ 32768
  rotate_left
  · have HN : Hid (¬ okL F) := Lib.hid fun h => hk h.2.2
    generalize kr F F.length = K at *
    go_enter Try.func12, Try.ntmps12
    go_wp2_with fail
    refine hkf.mono ?_
    rintro e w' ⟨rfl, rfl⟩
    clear hkf
    go_wp2
    go_ret2
    exact ⟨Below.refl _ _, .inr ⟨HN.out, rfl⟩⟩
  have HK := Lib.hid hk
  obtain ⟨i0, hi, hz0, hz1, hz2⟩ := infoU_parts infoU
  have Hi := Lib.hid hi
  have Hz0 := Lib.hid hz0
  have Hz1 := Lib.hid hz1
  have Hz2 := Lib.hid hz2
  clear hi hz0 hz1 hz2
  generalize kr F F.length = K at hkf hk hkl
  go_enter Try.func12, Try.ntmps12
  go_wp2_with fail
  refine hkf.mono ?_
  rintro e w' ⟨rfl, rfl⟩
  clear hkf
  go_wp2_with fail
  go_loopw [4] (fun y wr => ∃ (i : Nat), i ≤ F.length ∧ y = .int .i64 i ∧ inTo F i ∧ wr = w) (fun y _ => F.length - (intOf y).toNat)
  case atStart => exact ⟨0, by omega, rfl, fun j hj => by omega, rfl⟩
  case round =>
    obtain ⟨i, hi, rfl, hin, rfl⟩ := hrel
    have HIN := Lib.hid hin
    clear hin
    by_cases hlt : i < F.length
    · obtain ⟨bb, off, cap', hs, _, _, _, hc⟩ := HV.out.cells (by omega)
      simp at hs
      obtain ⟨rfl, rfl⟩ := hs
      have c0 := hc i hlt
      obtain ⟨x, hx⟩ : ∃ x, x = F.getD i 0 := ⟨_, rfl⟩
      rw [← hx] at c0
      have HX := Lib.hid hx
      have hmem : F.getD i 0 ∈ F := by rw [List.getD_eq_getElem?_getD, List.getElem?_eq_getElem hlt]; exact List.getElem_mem hlt
      have HB : Hid (okL F → 0 ≤ x ∧ x ≤ 15) := Lib.hid fun h => by rw [hx]; exact h.2.1 _ hmem
      clear hc hx hmem
      by_cases h0 : x < 0
      · have HN : Hid (¬ okL F) := Lib.hid fun h => by have := HB.out h; omega
        go_wp2
        go_ret2
        exact ⟨Below.refl _ _, .inr ⟨HN.out, rfl⟩⟩
      · by_cases h1 : 15 < x
        · have HN : Hid (¬ okL F) := Lib.hid fun h => by have := HB.out h; omega
          go_wp2
          go_ret2
          exact ⟨Below.refl _ _, .inr ⟨HN.out, rfl⟩⟩
        · go_wp2
          refine ⟨⟨i + 1, by omega, by first | rfl | go_num, inTo_succ HIN.out (by rw [← HX.out]; omega) (by rw [← HX.out]; omega), by first | trivial | rfl⟩, ?_⟩
          simp only [intOf_int]; omega
    · obtain rfl : i = F.length := by omega
      have hok : okL F := ⟨hl, inTo_all HIN.out, HK.out⟩
      have HOK := Lib.hid hok
      clear hok HIN HK
      go_wp2_with (at_make; refine wpList_make_full _ rfl _ _ 29 rfl wr.heap.size 32 i0 (.int .u32 0) 1 Try.underlying29 Hi.out Hz0.out Hz1.out .i64 .i64 _ _ F.length rfl rfl rfl rfl (by rw [Hz2.out]; omega) (by unfold maxLen; omega) (Nat.le_refl _) ?_; intro w2 hown hgr)
      rw [fsts_zero] at hown
      have hL := made_blk hown
      have hB2 : Below wr.heap.size wr w2 := (Below.refl _ wr).grown hgr (Nat.le_refl _) (by simp)
      have HB2 := Lib.hid hB2
      obtain ⟨c, hc⟩ : ∃ c, c = wr.heap.size := ⟨_, rfl⟩
      rw [← hc] at hL ⊢
      have hcw : wr.heap.size ≤ c := by omega
      rw [← codeP_zero] at hL
      have HL := Lib.hid hL
      have HV2 := Lib.hid (HV.out.below hB2)
      obtain ⟨wb, hwb⟩ : ∃ wb : World, wb = wr := ⟨_, rfl⟩
      subst hwb
      have hcs : Hid (c = wb.heap.size) := Lib.hid hc
      clear hown hgr hL hB2 hc
      go_loopw [6, 7] (fun x y wr => ∃ (k : Nat), k ≤ 15 ∧ x = .int .u32 (nx F k : Nat) ∧ y = .int .i64 ((k : Int) + 1) ∧ Gr w2 wr c ∧ Blk wr c 32 (fsts (codeP F k 0))) (fun _ y _ => 16 - (intOf y).toNat)
      case atStart => exact ⟨0, by omega, rfl, rfl, Gr.refl _ _, HL.out⟩
      case round =>
        obtain ⟨k, hk, rfl, rfl, hg, hb⟩ := hrel
        have HG := Lib.hid hg
        have HB := Lib.hid hb
        clear hg hb
        by_cases hlt : k < 15
        · have hkI : (k : Int) + 1 ≤ 15 := by omega
          have hnx : nx F (k + 1) = 2 * nx F k + (symK F (k + 1) F.length).length := rfl
          have hnxs := nx_small HOK.out.2.2 (show k + 1 ≤ 15 by omega)
          obtain ⟨M, hM⟩ : ∃ M, M = nx F k := ⟨_, rfl⟩
          rw [← hM] at hnx ⊢
          have HM := Lib.hid hM
          have HNX := Lib.hid hnx
          have hMs : M ≤ 32768 := by omega
          have HS : Hid (∀ i, i ≤ F.length → 2 * M + (symK F (k + 1) i).length ≤ 32768) := Lib.hid fun i hi => by
            obtain ⟨T, hT⟩ := symK_mono F (k + 1) hi
            have := congrArg List.length hT
            rw [List.length_append] at this
            omega
          clear hM hnx
          go_wp2_with fail
          go_loopw [6, 8] (fun x y wi => ∃ (i : Nat), i ≤ F.length ∧ x = .int .u32 ((M : Int) * 2 + (symK F (k + 1) i).length) ∧ y = .int .i64 i ∧ Gr w2 wi c ∧ Blk wi c 32 (fsts (codeP F k (symK F (k + 1) i).length))) (fun _ y _ => F.length - (intOf y).toNat)
          case atStart => exact ⟨0, by omega, by simp [symK], rfl, HG.out, HB.out⟩
          case round =>
            obtain ⟨i, hi, rfl, rfl, hg, hb⟩ := hrel
            have HGi := Lib.hid hg
            have HBi := Lib.hid hb
            have hS := HS.out i hi
            clear hg hb
            by_cases hli : i < F.length
            · obtain ⟨bb, off, cap', hs, _, _, hbb, hc⟩ := HV.out.cells (by omega)
              simp at hs
              obtain ⟨rfl, rfl⟩ := hs
              have hbel : Below wb.heap.size wb wr := HB2.out.trans (HGi.out.below HB2.out.size hcw)
              have c0 : wr.cell? ⟨bb, off + i, none⟩ = some (.int .i64 (F.getD i 0)) := (hbel.cell (p := ⟨bb, off + i, none⟩) hbb).trans (hc i hli)
              obtain ⟨r, hr⟩ : ∃ r, r = (symK F (k + 1) i).length := ⟨_, rfl⟩
              have e1 : F.getD i 0 = ((k + 1 : Nat) : Int) → (symK F (k + 1) (i + 1)).length = r + 1 := fun h => by rw [symK, if_pos h, List.length_append, ← hr]; rfl
              have e2 : ¬ F.getD i 0 = ((k + 1 : Nat) : Int) → (symK F (k + 1) (i + 1)).length = r := fun h => by rw [symK, if_neg h, ← hr]
              have e3 : F.getD i 0 = ((k + 1 : Nat) : Int) → (codeP F k r).set i ((M : Int) * 2 + r, ((k + 1 : Nat) : Int)) = codeP F k (r + 1) := fun h => by
                rw [← codeP_set hli h hr.symm]
                congr 2
                unfold codeN
                rw [h, HM.out]
                simp only [Int.toNat_natCast, Nat.add_sub_cancel]
                omega
              have E1 := Lib.hid e1
              have E2 := Lib.hid e2
              have E3 := Lib.hid e3
              rw [← hr] at HBi hS ⊢
              have hget := fsts_get (codeP F k r) i (by rw [codeP_length]; exact hli)
              have d0 := HBi.out.cell hget
              have f0 := HBi.out.frozen
              have hliI : (i : Int) < (F.length : Int) := by omega
              generalize F.getD i 0 = x at *
              clear hc e1 e2 e3 hr hget hbel
              by_cases hx : x = (k : Int) + 1
              · have E1' := E1.out (by rw [hx]; simp)
                have E3' := E3.out (by rw [hx]; simp)
                have E1h := Lib.hid E1'
                have E3h := Lib.hid E3'
                clear E1' E3'
                go_wp2_with fail
                refine ⟨⟨i + 1, by omega, by rw [E1h.out]; congr 1, by first | rfl | go_num, HGi.out.setCell _ _, ?_⟩, ?_⟩
                · have h1 := HBi.out.set i (.int .u32 ((M : Int) * 2 + r))
                  rw [fsts_set (codeP F k r) i ((M : Int) * 2 + r, ((k + 1 : Nat) : Int)), E3h.out] at h1
                  rw [E1h.out]; exact h1
                · simp only [intOf_int]; omega
              · have E2' := E2.out (by rw [Int.natCast_add]; exact hx)
                have E2h := Lib.hid E2'
                clear E2'
                have hxf := beq_f hx
                go_wp2_with fail
                refine ⟨⟨i + 1, by omega, by rw [E2h.out], by first | rfl | go_num, HGi.out, by rw [E2h.out]; exact HBi.out⟩, ?_⟩
                simp only [intOf_int]; omega
            · obtain rfl : i = F.length := by omega
              have hnn : (M : Int) * 2 + ((symK F (k + 1) F.length).length : Int) = (nx F (k + 1) : Nat) := by rw [HNX.out]; omega
              have HNN := Lib.hid hnn
              clear hnn
              generalize hq : (symK F (k + 1) F.length).length = q at *
              have HQ := Lib.hid hq
              clear hq
              go_wp2_with fail
              refine ⟨⟨k + 1, by omega, by rw [HNN.out], by simp, HGi.out, ?_⟩, ?_⟩
              · rw [← codeP_next]; unfold row; rw [HQ.out]; exact HBi.out
              · simp only [intOf_int]; omega
        · obtain rfl : k = 15 := by omega
          go_wp2_with fail
          go_ret2
          refine ⟨HB2.out.trans (HG.out.below HB2.out.size hcw), .inl ⟨HOK.out, c, rfl, hcw, ?_⟩⟩
          rw [← codeP_all HOK.out.2.1]; exact HB.out
end Go.Proofs.Ytijjpbpoekbekaa

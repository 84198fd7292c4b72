/- Texts put together: EdB. -/
import Derived.Test.YthgpdnffahmhjaaGreatDoorMg14
set_option linter.unusedSimpArgs false
set_option linter.unusedVariables false
set_option maxRecDepth 100000
namespace Go.Proofs.YthgpdnffahmhjaaGreatDoor.S18
open Go.RowKit
def sliceG (t : TypeId) (x : Value) (lo hi mx : Option Value) : Sem Value := Instr.sliceAt t x lo hi mx
theorem sliceN_eq (x : Value) (lo hi mx : Option Value) : Instr.sliceAt 31 x lo hi mx = sliceG 31 x lo hi mx := rfl
theorem addr_zero (a : Addr) : a.add 0 = a := by
  obtain ⟨b, o, s⟩ := a
  unfold Addr.add
  cases s <;> simp
theorem run_uptoG {α : Type} {D : Nat → Prop} {R : α → List Value → Prop} {k : Nat} {w : World} {ts t : TypeId} (he : Tryz.prog.elem ts = t) (hu : Tryz.prog.underlying ts = some (.slice t)) (hs : ∀ W, (sizeOf t).run Tryz.prog W = .ok k W) {a : Option Addr} {n cap : Nat} {L : List α} (h : RowD D R k w (.slice a n cap) L) {m : Nat} (hm : m ≤ L.length) (N : Int) (hN : N = m) :
    ∃ a1 c1, (∀ W, (sliceG ts (.slice a n cap) none (some (.int .i64 N)) none).run Tryz.prog W = .ok (.slice a1 m c1) W) ∧ RowD D R k w (.slice a1 m c1) (L.take m) := by
  subst hN he
  have h0 := h
  obtain ⟨a', cap', he, hcap, hmax, _⟩ := h0
  simp at he
  obtain ⟨rfl, rfl, rfl⟩ := he
  refine ⟨if cap = 0 then a else a.map (·.add (0 * k)), cap, ?_, ?_⟩
  rotate_left
  · have := RowD.take h hm
    split
    · exact this
    · cases a with
      | none => exact this
      | some x => simpa only [Nat.zero_mul, Option.map_some, addr_zero] using this
  · intro W
    unfold sliceG
    rw [run_sliceAt_slice _ _ _ _ _ _ hu, run_slice_h _ _ _ _ _ hu _ _ (by omega) (by omega), hs, Int.toNat_natCast]
    simp only [Result.andThen, sliced, Nat.sub_zero]
theorem elemN : Tryz.prog.elem 31 = 2 := by kernel_rfl
theorem size_of_info {t : TypeId} {k : Nat} (h : (Tryz.prog.info? t).map (·.size) = some k) (W : World) : (sizeOf t).run Tryz.prog W = .ok k W := by
  cases hq : Tryz.prog.info? t with
  | none => rw [hq] at h; cases h
  | some i => rw [hq] at h; simp at h; simp [sizeOf, typeInfo, hq, h]
theorem sizeN (W : World) : (sizeOf 2).run Tryz.prog W = .ok 1 W := size_of_info (by kernel_rfl) W
theorem all_step {α : Type} {f : α → Bool} {L : List α} {i : Nat} {x : α} (hx : L[i]? = some x) (h : f x = true) : (L.drop (i + 1)).all f = (L.drop i).all f := by
  obtain ⟨hi, rfl⟩ := List.getElem?_eq_some_iff.1 hx
  rw [List.drop_eq_getElem_cons hi, List.all_cons, h, Bool.true_and]
theorem all_here {α : Type} {f : α → Bool} {L : List α} {i : Nat} {x : α} (hx : L[i]? = some x) (h : f x = false) : (L.drop i).all f = false := by
  obtain ⟨hi, rfl⟩ := List.getElem?_eq_some_iff.1 hx
  rw [List.drop_eq_getElem_cons hi, List.all_cons, h, Bool.false_and]
theorem allB_long {α : Type} {f : α → Bool} {L : List α} (h : 60 < L.length) : allB f L = false := by
  unfold allB
  rw [decide_eq_false (by omega), Bool.false_and]
theorem allB_short {α : Type} {f : α → Bool} {L : List α} (h : ¬ 60 < L.length) : allB f L = L.all f := by
  unfold allB
  rw [decide_eq_true (by omega), Bool.true_and]
attribute [local go_sem ↓] loadS_eq storeS_eq loadP_eq storeP_eq loadE_eq storeE_eq sliceN_eq
set_option maxHeartbeats 4000000 in
theorem all_nums {D : Nat → Prop} (v : Value) (L : List Int) (w : World) (hv : IsNums D w v L) :
    Calls Tryz.prog 73 #[v, .func (.func 74) #[] #[]] w fun e w' => e = .returned (.bool (allB numB L)) ∧ w = w' := by
  obtain ⟨a, cap, rfl, hcap, hmax⟩ := RowD.slice hv
  have HV := Lib.hid hv
  clear hv
  unfold maxLen at hmax
  by_cases h60 : 60 < L.length
  · rw [allB_long h60]
    go_enter Tryz.func73, Tryz.ntmps73
    go_wp2
    go_ret
    exact ⟨rfl, rfl⟩
  · rw [allB_short h60]
    go_enter Tryz.func73, Tryz.ntmps73
    go_wp2
    go_loopw [12] (fun y wr => ∃ (i : Nat), i ≤ L.length ∧ y = .int .i64 i ∧ (L.drop i).all numB = L.all numB ∧ wr = w) (fun y _ => L.length - (intOf y).toNat)
    case atStart => exact ⟨0, by omega, rfl, rfl, rfl⟩
    case round =>
      obtain ⟨i, hi, rfl, he, rfl⟩ := hrel
      have HE := Lib.hid he
      clear he
      by_cases hlt : i < L.length
      · obtain ⟨b, off, rfl, _, _, hc⟩ := IsNums.cell HV.out hlt
        have hx : L[i]? = some (L.getD i 0) := by simp [List.getD, hlt]
        obtain ⟨y, hy⟩ : ∃ y, L.getD i 0 = y := ⟨_, rfl⟩
        rw [hy] at hc hx
        have HX := Lib.hid hx
        have hf := isNum_any y wr
        obtain ⟨q, hq⟩ : ∃ q, numB y = q := ⟨_, rfl⟩
        rw [hq] at hf
        have HQ := Lib.hid hq
        clear hy hx hq
        go_wp2_with fail
        refine hf.mono ?_
        rintro e w' ⟨rfl, rfl⟩
        clear hf
        cases q with
        | false =>
          go_wp2
          go_ret
          exact ⟨by rw [← HE.out, all_here HX.out HQ.out]; rfl, rfl⟩
        | true =>
          have HN := Lib.hid (all_step HX.out HQ.out)
          go_wp2
          go_roundw
          case rel => exact ⟨i + 1, hlt, by go_num, by rw [HN.out, HE.out], by first | rfl | trivial⟩
          case measure => simp [intOf]; omega
      · obtain rfl : i = L.length := by omega
        go_wp2
        go_ret
        exact ⟨by rw [← HE.out, List.drop_length]; rfl, rfl⟩
set_option maxHeartbeats 8000000 in
theorem all_segs {D : Nat → Prop} (v : Value) (L : List SG) (w : World) (hv : IsSegs D w v L) :
    Calls Tryz.prog 71 #[v, .func (.func 72) #[] #[]] w fun e w' => e = .returned (.bool (allB segB L)) ∧ Below w.heap.size w w' := by
  obtain ⟨a, cap, rfl, hcap, hmax⟩ := RowD.slice hv
  have HV := Lib.hid hv
  clear hv
  unfold maxLen at hmax
  by_cases h60 : 60 < L.length
  · rw [allB_long h60]
    go_enter Tryz.func71, Tryz.ntmps71
    go_wp2
    go_ret
    exact ⟨rfl, Below.refl _ _⟩
  · rw [allB_short h60]
    go_enter Tryz.func71, Tryz.ntmps71
    go_wp2
    go_loopw [12] (fun y wr => ∃ (i : Nat), i ≤ L.length ∧ y = .int .i64 i ∧ (L.drop i).all segB = L.all segB ∧ Below w.heap.size w wr) (fun y _ => L.length - (intOf y).toNat)
    case atStart => exact ⟨0, by omega, rfl, rfl, Below.refl _ _⟩
    case round =>
      obtain ⟨i, hi, rfl, he, hb⟩ := hrel
      have HE := Lib.hid he
      have HB := Lib.hid hb
      have HVr : Hid (IsSegs D wr (.slice a L.length cap) L) := Lib.hid (RowD.keep HV.out (keep_below hb) fun _ _ h => h)
      clear he hb
      by_cases hlt : i < L.length
      · obtain ⟨bk, off, x, c, rfl, _, _, hx, hr, hu⟩ := RowD.at HVr.out hlt
        obtain ⟨rfl, hsw⟩ := hr
        have hld := run_loadS (w := wr) rfl hu
        obtain ⟨w2, hst, HK, HB2, HG⟩ := backS (w0 := wr) x (Blk.new wr 40 (segL zS)) rfl ((Below.refl _ _).alloc (Nat.le_refl _) _) (Nat.le_refl _)
        simp only [segL, zS] at hst hld
        have hld2 := run_loadS_blk _ HK.out
        have HX := Lib.hid hx
        have hf := isSeg_any x w2
        obtain ⟨q, hq⟩ : ∃ q, segB x = q := ⟨_, rfl⟩
        rw [hq] at hf
        have HQ := Lib.hid hq
        have HB3 := Lib.hid (HB.out.trans (HB2.out.mono HB.out.size))
        clear hx hq hu
        go_wp2_with fail
        refine hf.mono ?_
        rintro e w3 ⟨rfl, hb3⟩
        have HB4 := Lib.hid (HB3.out.trans (hb3.mono HB3.out.size))
        clear hf hb3
        cases q with
        | false =>
          go_wp2
          go_ret
          exact ⟨by rw [← HE.out, all_here HX.out HQ.out]; rfl, HB4.out⟩
        | true =>
          have HN := Lib.hid (all_step HX.out HQ.out)
          go_wp2
          go_roundw
          case rel => exact ⟨i + 1, hlt, by go_num, by rw [HN.out, HE.out], HB4.out⟩
          case measure => simp [intOf]; omega
      · obtain rfl : i = L.length := by omega
        go_wp2
        go_ret
        exact ⟨by rw [← HE.out, List.drop_length]; rfl, HB.out⟩
theorem par_f {p : PT} (h : numB p.group = false ∨ sizB p.size = false ∨ inB 1 3 (p.nums.length : Int) = false ∨ p.sizes.length ≠ p.nums.length) : parB p = false := by
  cases hp : parB p with
  | false => rfl
  | true =>
    rw [parB_iff] at hp
    obtain ⟨h1, h2, h3, h4, h5, _⟩ := hp
    rcases h with h | h | h | h
    · rw [h1] at h; cases h
    · rw [h2] at h; cases h
    · rw [inB_3 (by omega) (by omega)] at h; cases h
    · exact absurd h5 h
theorem par_k {p : PT} {k : Nat} (hk : k < p.nums.length) (h : parK p k = false) : parB p = false := by
  cases hp : parB p with
  | false => rfl
  | true =>
    rw [parB_iff] at hp
    rw [hp.2.2.2.2.2 k hk] at h
    cases h
theorem parK_1 {p : PT} {k : Nat} {x : Int} (hx : p.nums.getD k 0 = x) (h : numB x = false) : parK p k = false := by unfold parK; rw [hx, h]; rfl
theorem parK_2 {p : PT} {k : Nat} {x : Int} (hx : p.nums.getD k 0 = x) (h : (p.nums.take k).contains x = true) : parK p k = false := by unfold parK; rw [hx, h]; simp
theorem parK_3 {p : PT} {k : Nat} {x z : Int} (hx : p.nums.getD k 0 = x) (hz : p.sizes.getD k 0 = z) (h1 : numB x = true) (h2 : (p.nums.take k).contains x = false) : parK p k = sizB z := by unfold parK; rw [hx, hz, h1, h2]; simp
set_option maxHeartbeats 16000000 in
theorem isPar_any {D : Nat → Prop} (p : PT) (a1 : Option Addr) (c1 : Nat) (a2 : Option Addr) (c2 : Nat) (w : World) (h1 : IsNums D w (.slice a1 p.nums.length c1) p.nums) (h2 : IsNums D w (.slice a2 p.sizes.length c2) p.sizes) :
    Calls Tryz.prog 76 #[.agg #[.int .i64 p.group, .slice a1 p.nums.length c1, .slice a2 p.sizes.length c2, .int .i64 p.size, .int .u32 p.sum]] w fun e w' => e = .returned (.bool (parB p)) ∧ Below w.heap.size w w' := by
  have hb1 : Below w.heap.size w (w.alloc (.cells #[.int .i64 p.group, .slice a1 p.nums.length c1, .slice a2 p.sizes.length c2, .int .i64 p.size, .int .u32 p.sum] 95)) := (Below.refl _ _).alloc (Nat.le_refl _) _
  have hk1 := Blk.new w 95 (parL p a1 c1 a2 c2)
  obtain ⟨w1, hw1⟩ : ∃ w1, w.alloc (.cells #[.int .i64 p.group, .slice a1 p.nums.length c1, .slice a2 p.sizes.length c2, .int .i64 p.size, .int .u32 p.sum] 95) = w1 := ⟨_, rfl⟩
  rw [hw1] at hb1
  have hk1' : Blk w1 w.heap.size 95 (parL p a1 c1 a2 c2) := by rw [← hw1]; exact hk1
  have d0 : w1.cell? ⟨w.heap.size, 0, none⟩ = some (.int .i64 p.group) := hk1'.cell rfl
  have d1 : w1.cell? ⟨w.heap.size, 1, none⟩ = some (.slice a1 p.nums.length c1) := hk1'.cell rfl
  have d2 : w1.cell? ⟨w.heap.size, 2, none⟩ = some (.slice a2 p.sizes.length c2) := hk1'.cell rfl
  have d3 : w1.cell? ⟨w.heap.size, 3, none⟩ = some (.int .i64 p.size) := hk1'.cell rfl
  have HB := Lib.hid hb1
  have H1 := Lib.hid (h1.keep' (keep_below hb1))
  have H2 := Lib.hid (h2.keep' (keep_below hb1))
  obtain ⟨_, _, hm1⟩ := RowD.cap h1
  obtain ⟨_, _, hm2⟩ := RowD.cap h2
  unfold maxLen at hm1 hm2
  clear hb1 hk1 hk1' h1 h2
  have f1 := isNum_any p.group w1
  have f2 := isSize_any p.size w1
  have f3 := withinI (p.nums.length : Int) 1 3 w1
  obtain ⟨b1, hb1⟩ : ∃ b, numB p.group = b := ⟨_, rfl⟩
  obtain ⟨b2, hb2⟩ : ∃ b, sizB p.size = b := ⟨_, rfl⟩
  obtain ⟨b3, hb3⟩ : ∃ b, inB 1 3 (p.nums.length : Int) = b := ⟨_, rfl⟩
  rw [hb1] at f1
  rw [hb2] at f2
  rw [hb3] at f3
  have Q1 := Lib.hid hb1
  have Q2 := Lib.hid hb2
  have Q3 := Lib.hid hb3
  clear hb1 hb2 hb3
  go_enter Tryz.func76, Tryz.ntmps76
  go_wp2_with fail
  refine f1.mono ?_
  rintro e w' ⟨rfl, rfl⟩
  cases b1 with
  | false =>
    go_wp2
    go_ret
    exact ⟨by rw [par_f (.inl Q1.out)]; rfl, HB.out⟩
  | true =>
    go_wp2_with fail
    refine f2.mono ?_
    rintro e w' ⟨rfl, rfl⟩
    cases b2 with
    | false =>
      go_wp2
      go_ret
      exact ⟨by rw [par_f (.inr (.inl Q2.out))]; rfl, HB.out⟩
    | true =>
      go_wp2_with fail
      refine f3.mono ?_
      rintro e w' ⟨rfl, rfl⟩
      cases b3 with
      | false =>
        go_wp2
        go_ret
        exact ⟨by rw [par_f (.inr (.inr (.inl Q3.out)))]; rfl, HB.out⟩
      | true =>
        by_cases hne : p.sizes.length ≠ p.nums.length
        · have q : ((p.sizes.length : Int) != (p.nums.length : Int)) = true := bne_t (by omega)
          have HNE := Lib.hid hne
          clear hne
          go_wp2
          go_ret
          exact ⟨by rw [par_f (.inr (.inr (.inr HNE.out)))]; rfl, HB.out⟩
        · have hEQ : p.sizes.length = p.nums.length := Classical.not_not.1 hne
          have q : ((p.sizes.length : Int) != (p.nums.length : Int)) = false := bne_f (by omega)
          have HEQ := Lib.hid hEQ
          clear hne hEQ f1 f2 f3
          have hin := inB_iff.1 Q3.out
          obtain ⟨m, hm⟩ : ∃ m, p.nums.length = m := ⟨_, rfl⟩
          obtain ⟨m2, hm2'⟩ : ∃ m, p.sizes.length = m := ⟨_, rfl⟩
          have H1a := H1.out
          have H2a := H2.out
          rw [hm] at d1 q hin H1a ⊢
          rw [hm2'] at d2 q H2a
          have HM := Lib.hid hm
          clear hw1
          have HMM : Hid (m2 = m) := Lib.hid (by rw [← hm, ← hm2', HEQ.out])
          have H1 := Lib.hid H1a
          have H2 := Lib.hid H2a
          clear hm hm2' H1a H2a
          go_wp2_with fail
          go_loopw [34] (fun y wr => ∃ (i : Nat), i ≤ m ∧ y = .int .i64 i ∧ (∀ k, k < i → parK p k = true) ∧ wr = w1) (fun y _ => m - (intOf y).toNat)
          case atStart => exact ⟨0, by omega, rfl, fun k hk => by omega, rfl⟩
          case round =>
            obtain ⟨i, hi, rfl, hall, rfl⟩ := hrel
            have HA := Lib.hid hall
            clear hall
            by_cases hlt : i < m
            · have hl1 : i < p.nums.length := by rw [HM.out]; exact hlt
              have hl2 : i < p.sizes.length := by rw [HEQ.out, HM.out]; exact hlt
              have hl3 : i < m2 := by rw [HMM.out]; exact hlt
              obtain ⟨k1, o1, rfl, _, _, hc1⟩ := IsNums.cell H1.out hl1
              obtain ⟨k2, o2, rfl, _, _, hc2⟩ := IsNums.cell H2.out hl2
              obtain ⟨au, cu, hsl, hrow⟩ := run_uptoG elemN Tryz.underlying31 sizeN H1.out (m := i) (by omega) (i : Int) rfl
              obtain ⟨x, hx⟩ : ∃ x, p.nums.getD i 0 = x := ⟨_, rfl⟩
              obtain ⟨z, hz⟩ : ∃ z, p.sizes.getD i 0 = z := ⟨_, rfl⟩
              rw [hx] at hc1
              rw [hz] at hc2
              have g1 := isNum_any x wr
              have g2 := contains64 _ _ x wr hrow
              have g3 := isSize_any z wr
              have HX := Lib.hid hx
              have HZ := Lib.hid hz
              obtain ⟨e1, he1⟩ : ∃ b, numB x = b := ⟨_, rfl⟩
              obtain ⟨e2, he2⟩ : ∃ b, (p.nums.take i).contains x = b := ⟨_, rfl⟩
              obtain ⟨e3, he3⟩ : ∃ b, sizB z = b := ⟨_, rfl⟩
              rw [he1] at g1
              rw [he2] at g2
              rw [he3] at g3
              have E1 := Lib.hid he1
              have E2 := Lib.hid he2
              have E3 := Lib.hid he3
              have HL1 := Lib.hid hl1
              clear hx hz he1 he2 he3 hrow hl1 hl2
              go_wp2_with fail
              refine g1.mono ?_
              rintro e w' ⟨rfl, rfl⟩
              cases e1 with
              | false =>
                go_wp2
                go_ret
                exact ⟨by rw [par_k HL1.out (parK_1 HX.out E1.out)]; rfl, HB.out⟩
              | true =>
                go_wp2_with fail
                refine g2.mono ?_
                rintro e w' ⟨rfl, rfl⟩
                cases e2 with
                | true =>
                  go_wp2
                  go_ret
                  exact ⟨by rw [par_k HL1.out (parK_2 HX.out E2.out)]; rfl, HB.out⟩
                | false =>
                  have HK3 := Lib.hid (parK_3 HX.out HZ.out E1.out E2.out)
                  go_wp2_with fail
                  refine g3.mono ?_
                  rintro e w' ⟨rfl, rfl⟩
                  cases e3 with
                  | false =>
                    go_wp2
                    go_ret
                    exact ⟨by rw [par_k HL1.out (HK3.out.trans E3.out)]; rfl, HB.out⟩
                  | true =>
                    clear g1 g2 g3
                    go_wp2
                    go_roundw
                    case rel =>
                      refine ⟨i + 1, hlt, by go_num, fun k hk => ?_, by first | rfl | trivial⟩
                      by_cases hki : k = i
                      · rw [hki, HK3.out, E3.out]
                      · exact HA.out k (by omega)
                    case measure => simp [intOf]; omega
            · obtain rfl : i = m := by omega
              go_wp2
              go_ret
              refine ⟨?_, HB.out⟩
              have hp : parB p = true := parB_iff.2 ⟨Q1.out, Q2.out, by rw [HM.out]; omega, by rw [HM.out]; omega, HEQ.out, fun k hk => HA.out k (by rw [← HM.out]; exact hk)⟩
              rw [hp]
              rfl
set_option maxHeartbeats 8000000 in
theorem all_pars {D : Nat → Prop} (v : Value) (L : List PT) (w : World) (hv : IsPars D w v L) :
    Calls Tryz.prog 75 #[v, .func (.func 76) #[] #[]] w fun e w' => e = .returned (.bool (allB parB L)) ∧ Below w.heap.size w w' := by
  obtain ⟨a, cap, rfl, hcap, hmax⟩ := RowD.slice hv
  have HV := Lib.hid hv
  clear hv
  unfold maxLen at hmax
  by_cases h60 : 60 < L.length
  · rw [allB_long h60]
    go_enter Tryz.func75, Tryz.ntmps75
    go_wp2
    go_ret
    exact ⟨rfl, Below.refl _ _⟩
  · rw [allB_short h60]
    go_enter Tryz.func75, Tryz.ntmps75
    go_wp2
    go_loopw [12] (fun y wr => ∃ (i : Nat), i ≤ L.length ∧ y = .int .i64 i ∧ (L.drop i).all parB = L.all parB ∧ Below w.heap.size w wr) (fun y _ => L.length - (intOf y).toNat)
    case atStart => exact ⟨0, by omega, rfl, rfl, Below.refl _ _⟩
    case round =>
      obtain ⟨i, hi, rfl, he, hb⟩ := hrel
      have HE := Lib.hid he
      have HB := Lib.hid hb
      have HVr : Hid (IsPars D wr (.slice a L.length cap) L) := Lib.hid (RowD.keep HV.out (keep_below hb) fun _ _ h => h.keep (keep_below hb))
      clear he hb
      by_cases hlt : i < L.length
      · obtain ⟨bk, off, x, c, rfl, _, _, hx, hr, hu⟩ := RowD.at HVr.out hlt
        obtain ⟨a1, c1, a2, c2, rfl, h1, h2, hsw⟩ := hr
        have hld := run_loadP (w := wr) rfl hu
        obtain ⟨w2, hst, HK, HB2, HG⟩ := backP (w0 := wr) x (a1 := a1) (c1 := c1) (a2 := a2) (c2 := c2) (Blk.new wr 95 (parL zP none 0 none 0)) rfl ((Below.refl _ _).alloc (Nat.le_refl _) _) (Nat.le_refl _)
        simp only [parL, zP, List.length_nil] at hst hld
        have hld2 := run_loadP_blk _ HK.out
        have HX := Lib.hid hx
        have hf := isPar_any x a1 c1 a2 c2 w2 (h1.keep' (keep_below HB2.out)) (h2.keep' (keep_below HB2.out))
        obtain ⟨q, hq⟩ : ∃ q, parB x = q := ⟨_, rfl⟩
        rw [hq] at hf
        have HQ := Lib.hid hq
        have HB3 := Lib.hid (HB.out.trans (HB2.out.mono HB.out.size))
        clear hx hq hu h1 h2
        go_wp2_with fail
        refine hf.mono ?_
        rintro e w3 ⟨rfl, hb3⟩
        have HB4 := Lib.hid (HB3.out.trans (hb3.mono HB3.out.size))
        clear hf hb3
        cases q with
        | false =>
          go_wp2
          go_ret
          exact ⟨by rw [← HE.out, all_here HX.out HQ.out]; rfl, HB4.out⟩
        | true =>
          have HN := Lib.hid (all_step HX.out HQ.out)
          go_wp2
          go_roundw
          case rel => exact ⟨i + 1, hlt, by go_num, by rw [HN.out, HE.out], HB4.out⟩
          case measure => simp [intOf]; omega
      · obtain rfl : i = L.length := by omega
        go_wp2
        go_ret
        exact ⟨by rw [← HE.out, List.drop_length]; rfl, HB.out⟩
def chkE (e : ED) : Nat := if edB e then 0 else 10
set_option maxHeartbeats 16000000 in
theorem check_any {D : Nat → Prop} (e : ED) (a1 : Option Addr) (c1 : Nat) (a2 : Option Addr) (c2 : Nat) (a3 : Option Addr) (c3 : Nat) (a4 : Option Addr) (c4 : Nat) (w : World) (he : EdIn D w e a1 c1 a2 c2 a3 c3 a4 c4) :
    Calls Tryz.prog 39 #[.agg #[.int .i64 e.next, .int .i64 e.seq, .slice a1 e.adds.length c1, .slice a2 e.dels.length c2, .slice a3 e.pars.length c3, .slice a4 e.drops.length c4]] w fun r w' => r = .returned (.int .i64 (chkE e : Nat)) ∧ Below w.heap.size w w' := by
  have hb1 : Below w.heap.size w (w.alloc (.cells #[.int .i64 e.next, .int .i64 e.seq, .slice a1 e.adds.length c1, .slice a2 e.dels.length c2, .slice a3 e.pars.length c3, .slice a4 e.drops.length c4] 34)) := (Below.refl _ _).alloc (Nat.le_refl _) _
  have hk1 := Blk.new w 34 (edL e a1 c1 a2 c2 a3 c3 a4 c4)
  obtain ⟨w1, hw1⟩ : ∃ w1, w.alloc (.cells #[.int .i64 e.next, .int .i64 e.seq, .slice a1 e.adds.length c1, .slice a2 e.dels.length c2, .slice a3 e.pars.length c3, .slice a4 e.drops.length c4] 34) = w1 := ⟨_, rfl⟩
  rw [hw1] at hb1
  have hk1' : Blk w1 w.heap.size 34 (edL e a1 c1 a2 c2 a3 c3 a4 c4) := by rw [← hw1]; exact hk1
  have d0 : w1.cell? ⟨w.heap.size, 0, none⟩ = some (.int .i64 e.next) := hk1'.cell rfl
  have d1 : w1.cell? ⟨w.heap.size, 1, none⟩ = some (.int .i64 e.seq) := hk1'.cell rfl
  have d2 : w1.cell? ⟨w.heap.size, 2, none⟩ = some (.slice a1 e.adds.length c1) := hk1'.cell rfl
  have HB := Lib.hid hb1
  have HK := Lib.hid hk1'
  have HE := Lib.hid (he.keep (keep_below hb1))
  clear hb1 hk1 hk1' he
  have f1 := within64 e.next 0 1125899906842624 w1
  have f2 := within64 e.seq 0 1125899906842624 w1
  have f3 := all_segs _ _ w1 HE.out.adds
  have hED : edB e = (inB 0 1125899906842624 e.next && inB 0 1125899906842624 e.seq && (allB segB e.adds && allB numB e.dels && allB parB e.pars && allB numB e.drops)) := rfl
  obtain ⟨b1, hb1⟩ : ∃ b, inB 0 1125899906842624 e.next = b := ⟨_, rfl⟩
  obtain ⟨b2, hb2⟩ : ∃ b, inB 0 1125899906842624 e.seq = b := ⟨_, rfl⟩
  obtain ⟨b3, hb3⟩ : ∃ b, allB segB e.adds = b := ⟨_, rfl⟩
  obtain ⟨b4, hb4⟩ : ∃ b, allB numB e.dels = b := ⟨_, rfl⟩
  obtain ⟨b5, hb5⟩ : ∃ b, allB parB e.pars = b := ⟨_, rfl⟩
  obtain ⟨b6, hb6⟩ : ∃ b, allB numB e.drops = b := ⟨_, rfl⟩
  rw [hb1, hb2, hb3, hb4, hb5, hb6] at hED
  rw [hb1] at f1
  rw [hb2] at f2
  rw [hb3] at f3
  have B4 := Lib.hid hb4
  have B5 := Lib.hid hb5
  have B6 := Lib.hid hb6
  have HC : Hid (chkE e = if (b1 && b2 && (b3 && b4 && b5 && b6)) = true then 0 else 10) := Lib.hid (by unfold chkE; rw [hED])
  clear hb1 hb2 hb3 hb4 hb5 hb6 hED
  go_enter Tryz.func39, Tryz.ntmps39
  go_wp2_with fail
  refine f1.mono ?_
  rintro e' w' ⟨rfl, rfl⟩
  cases b1 with
  | false =>
    go_wp2
    go_ret
    exact ⟨by rw [HC.out]; rfl, HB.out⟩
  | true =>
    go_wp2_with fail
    refine f2.mono ?_
    rintro e' w' ⟨rfl, rfl⟩
    cases b2 with
    | false =>
      go_wp2
      go_ret
      exact ⟨by rw [HC.out]; rfl, HB.out⟩
    | true =>
      go_wp2_with fail
      refine f3.mono ?_
      rintro e' w2 ⟨rfl, hb2⟩
      have HK2 := Lib.hid (HK.out.below hb2 HK.out.lt)
      have HE2 := Lib.hid (HE.out.keep (keep_below hb2))
      have HB2 := Lib.hid (HB.out.trans (hb2.mono HB.out.size))
      clear f1 f2 f3 hb2 d0 d1 d2
      cases b3 with
      | false =>
        go_wp2
        go_ret
        exact ⟨by rw [HC.out]; rfl, HB2.out⟩
      | true =>
        have d3 : w2.cell? ⟨w.heap.size, 3, none⟩ = some (.slice a2 e.dels.length c2) := HK2.out.cell rfl
        have d4 : w2.cell? ⟨w.heap.size, 4, none⟩ = some (.slice a3 e.pars.length c3) := HK2.out.cell rfl
        have f4 := all_nums _ _ w2 HE2.out.dels
        have f5 := all_pars _ _ w2 HE2.out.pars
        rw [B4.out] at f4
        rw [B5.out] at f5
        go_wp2_with fail
        refine f4.mono ?_
        rintro e' w' ⟨rfl, rfl⟩
        cases b4 with
        | false =>
          go_wp2
          go_ret
          exact ⟨by rw [HC.out]; rfl, HB2.out⟩
        | true =>
          go_wp2_with fail
          refine f5.mono ?_
          rintro e' w3 ⟨rfl, hb3⟩
          have HK3 := Lib.hid (HK2.out.below hb3 HK2.out.lt)
          have HE3 := Lib.hid (HE2.out.keep (keep_below hb3))
          have HB3 := Lib.hid (HB2.out.trans (hb3.mono HB2.out.size))
          clear f4 f5 hb3 d3 d4
          cases b5 with
          | false =>
            go_wp2
            go_ret
            exact ⟨by rw [HC.out]; rfl, HB3.out⟩
          | true =>
            have d5 : w3.cell? ⟨w.heap.size, 5, none⟩ = some (.slice a4 e.drops.length c4) := HK3.out.cell rfl
            have f6 := all_nums _ _ w3 HE3.out.drops
            rw [B6.out] at f6
            go_wp2_with fail
            refine f6.mono ?_
            rintro e' w' ⟨rfl, rfl⟩
            cases b6 with
            | false =>
              go_wp2
              go_ret
              exact ⟨by rw [HC.out]; rfl, HB3.out⟩
            | true =>
              go_wp2
              go_ret
              exact ⟨by rw [HC.out]; rfl, HB3.out⟩
end Go.Proofs.YthgpdnffahmhjaaGreatDoor.S18

/- Texts put together: MaQ, MaG, MaK. -/
import Derived.Test.YthgpdnffahmhjaaGreatDoorMg32
import Derived.Test.YthgpdnffahmhjaaGreatDoorMg34
import Derived.Laws.MakeOwn
set_option linter.unusedSimpArgs false
set_option linter.unusedVariables false
set_option maxRecDepth 100000
namespace Go.Proofs.YthgpdnffahmhjaaGreatDoor.S19
open Go.RowKit Go.Maps Go.Shelf Go.Sort S18
def okN (S : List SG) (n : Int) : Bool := match kget SG.num S n with
  | some s => s.sealed
  | none => false
theorem prot_eq (S : List SG) (P : List PT) : protB S P = P.all fun p => p.nums.all (okN S) := rfl
theorem all_cut {α : Type} {f : α → Bool} {L : List α} {x : α} (hx : x ∈ L) (h : f x = false) : L.all f = false := by
  simp only [List.all_eq_false]
  exact ⟨x, hx, by simp [h]⟩
attribute [local go_sem ↓] loadP_eq storeP_eq
def fieldS (v : Value) : Sem Value := Instr.field 40 v 1
theorem fieldS_eq (v : Value) : Instr.field 40 v 1 = fieldS v := rfl
theorem run_fieldS (w : World) (a c d e f : Int) (b : Bool) : (fieldS (.agg #[.int .i64 a, .bool b, .int .i64 c, .int .i64 d, .int .i64 e, .int .u32 f])).run Tryz.prog w = .ok (.bool b) w := by kernel_rfl
attribute [local go_sem ↓] fieldS_eq
attribute [local go_sem] run_fieldS
theorem found {M : List (SG × List Value)} (hR : ∀ x ∈ M, segC x.1 x.2) (n : Int) : ∃ a c d e f : Int, valS (kget (keyM SG.num) M n) = .agg #[.int .i64 a, .bool (okN (M.map (·.1)) n), .int .i64 c, .int .i64 d, .int .i64 e, .int .u32 f] := by
  have hk := kget_map SG.num (fun y : SG × List Value => y.1) M n
  unfold okN
  rw [← hk]
  cases hg : kget (keyM SG.num) M n with
  | none =>
    exact ⟨0, 0, 0, 0, 0, rfl⟩
  | some x =>
    have h1 := (hR x (kget_mem _ hg).1).1
    refine ⟨x.1.num, x.1.group, x.1.member, x.1.size, x.1.sum, ?_⟩
    simp only [valS, valM, h1, Option.map_some]
    rfl
set_option maxHeartbeats 8000000 in
theorem protects_any {De : Nat → Prop} (g s : Nat) (M : MS) (pv : Option Nat) (a : Option Addr) (cap : Nat) (S0 : List SG) (L : List PT) (w : World) (hk : Blk w g 58 (stL M (some s) pv)) (h : MapR SG.num 6 segC w s S0) (hv : IsPars De w (.slice a L.length cap) L)
    (hL : ∀ x ∈ L, ∀ n ∈ x.nums, 0 ≤ n ∧ n ≤ 1125899906842624) :
    Calls Tryz.prog 50 #[.pointer (some ⟨g, 0, none⟩), .slice a L.length cap] w fun e w' => e = .returned (.bool (protB S0 L)) ∧ Below w.heap.size w w' := by
  rw [prot_eq]
  obtain ⟨n, hn⟩ : ∃ n, L.length = n := ⟨_, rfl⟩
  have HN := Lib.hid hn
  have HV := Lib.hid hv
  have HL := Lib.hid hL
  have hslt := h.lt
  obtain ⟨M0, rfl, hR0, hM0, hm0⟩ := h
  have HK := Lib.hid hk
  have HR := Lib.hid hR0
  have HM := Lib.hid hm0
  have HKL := Lib.hid hk.lt
  obtain ⟨_, hcap, hmax⟩ := RowD.cap hv
  rw [hn] at hcap ⊢
  unfold maxLen at hmax
  clear hv hL hR0 hM0 hm0 hk hn
  go_enter Tryz.func50, Tryz.ntmps50
  go_wp2_with fail
  go_loopw [11] (fun y wr => ∃ (i : Nat), i ≤ n ∧ y = .int .i64 i ∧ Hid (∀ p ∈ L.take i, p.nums.all (okN (M0.map (·.1))) = true) ∧ Hid (Below w.heap.size w wr)) (fun y _ => n - (intOf y).toNat)
  case atStart => exact ⟨0, by omega, rfl, Lib.hid (by simp), Lib.hid (Below.refl _ _)⟩
  case round =>
    obtain ⟨i, hi, rfl, ha, hb⟩ := hrel
    by_cases hlt : i < n
    · have hvw : IsPars De wr (.slice a L.length cap) L := RowD.keep HV.out (keep_below hb.out) fun _ _ h => h.keep (keep_below hb.out)
      obtain ⟨bb, off, x, c, rfl, _, hbb, hx, ⟨a1, c1, a2, c2, rfl, hn1, hn2, hsw⟩, hu⟩ := RowD.at hvw (i := i) (by rw [HN.out]; exact hlt)
      have hld := run_loadP (w := wr) rfl hu
      have hxm : x ∈ L := List.mem_of_getElem? hx
      have hxL := HL.out x hxm
      have htk : L.take (i + 1) = L.take i ++ [x] := by
        rw [List.take_add_one]
        simp [hx]
      have hN := Blk.new wr 95 [.int .i64 0, .slice none 0 0, .slice none 0 0, .int .i64 0, .int .u32 0]
      have hA : Below wr.heap.size wr (wr.alloc (.cells #[.int .i64 0, .slice none 0 0, .slice none 0 0, .int .i64 0, .int .u32 0] 95)) := (Below.refl _ _).alloc (Nat.le_refl _) _
      obtain ⟨w5, hst, hk5, hg5⟩ := putP x (a1 := a1) (c1 := c1) (a2 := a2) (c2 := c2) hN rfl
      simp only [parL] at hst hld
      have hb5 : Below wr.heap.size wr w5 := hA.grown hg5.out hA.size (fun j hj => by cases hj; exact Nat.le_refl _)
      have HB5 : Hid (Below w.heap.size w w5) := Lib.hid (hb.out.trans (hb5.mono hb.out.size))
      have hn5 : IsNums De w5 (.slice a1 x.nums.length c1) x.nums := IsNums.keep' hn1 (keep_below hb5)
      obtain ⟨m, hm⟩ : ∃ m, x.nums.length = m := ⟨_, rfl⟩
      have HXM := Lib.hid hm
      have HN5 := Lib.hid hn5
      obtain ⟨_, hc1, hmx1⟩ := RowD.cap hn5
      have d1 : w5.cell? ⟨wr.heap.size, 1, none⟩ = some (.slice a1 m c1) := by rw [← hm]; exact hk5.out.cell rfl
      have HTK := Lib.hid htk
      have HXL := Lib.hid hxL
      have HXI := Lib.hid hxm
      rw [hm] at hst hld hc1
      unfold maxLen at hmx1
      clear hN hA hb5 hn5 hn1 hn2 hu hx hxm hxL htk hvw hk5 hg5 hm
      obtain ⟨wo, hwo⟩ : ∃ wo, wo = wr := ⟨_, rfl⟩
      subst hwo
      go_wp2_with fail
      go_loopw [18] (fun y2 w6 => ∃ (j : Nat), j ≤ m ∧ y2 = .int .i64 j ∧ Hid (∀ n ∈ x.nums.take j, okN (M0.map (·.1)) n = true) ∧ Hid (Below w5.heap.size w5 w6)) (fun y _ => m - (intOf y).toNat)
      case atStart => exact ⟨0, by omega, rfl, Lib.hid (by simp), Lib.hid (Below.refl _ _)⟩
      case round =>
        obtain ⟨j, hj, rfl, ha2, hb2⟩ := hrel
        by_cases hlt2 : j < m
        · obtain ⟨b2, o2, rfl, _, hbl2, c0⟩ := IsNums.cell (IsNums.keep' HN5.out (keep_below hb2.out)) (i := j) (by rw [HXM.out]; exact hlt2)
          have hb6 : Below w.heap.size w wr := HB5.out.trans (Below.mono hb2.out HB5.out.size)
          have hk6 := HK.out.below hb6 HKL.out
          have d2 : wr.cell? ⟨g, 2, none⟩ = some (.map (some s)) := hk6.cell rfl
          have hx2 := HXL.out _ (getD_memI x.nums 0 (by rw [HXM.out]; exact hlt2))
          have htk2 : x.nums.take (j + 1) = x.nums.take j ++ [x.nums.getD j 0] := by
            rw [List.take_add_one]
            have : j < x.nums.length := by rw [HXM.out]; exact hlt2
            simp [List.getD, this]
          have hmem2 := getD_memI x.nums 0 (i := j) (by rw [HXM.out]; exact hlt2)
          obtain ⟨q, hq⟩ : ∃ q, x.nums.getD j 0 = q := ⟨_, rfl⟩
          rw [hq] at c0 hx2 htk2 hmem2
          have hlk := lookS (HM.out.below hb6) hx2
          obtain ⟨k1, k2, k3, k4, k5, hfd⟩ := found HR.out q
          rw [hfd] at hlk
          have HT2 := Lib.hid htk2
          have HB6 := Lib.hid hb6
          have HMEM := Lib.hid hmem2
          cases hok : okN (M0.map (·.1)) q with
          | false =>
            rw [hok] at hlk
            have HE : Hid ((L.all fun p => p.nums.all (okN (M0.map (·.1)))) = false) := Lib.hid (all_cut HXI.out (all_cut HMEM.out hok))
            clear hfd hb6 hk6 hx2 htk2 hq hmem2 hok
            go_wp2_with fail
            go_ret
            exact ⟨by rw [HE.out]; rfl, HB6.out⟩
          | true =>
            rw [hok] at hlk
            have HA2 : Hid (∀ n ∈ x.nums.take (j + 1), okN (M0.map (·.1)) n = true) := Lib.hid fun n hn => by
              rw [HT2.out] at hn
              rcases List.mem_append.1 hn with hn | hn
              · exact ha2.out n hn
              · simp at hn; rw [hn]; exact hok
            clear hfd hb6 hk6 hx2 htk2 hq hmem2 hok
            go_wp2_with fail
            go_roundw
            case rel => exact ⟨j + 1, by omega, by first | rfl | go_num, HA2, hb2⟩
            case measure => simp only [intOf_i]; omega
        · have : m = j := by omega
          subst this
          have HA1 : Hid (∀ p ∈ L.take (i + 1), p.nums.all (okN (M0.map (·.1))) = true) := Lib.hid fun p hp => by
            rw [HTK.out] at hp
            rcases List.mem_append.1 hp with hp | hp
            · exact ha.out p hp
            · simp at hp
              rw [hp, List.all_eq_true]
              intro n hn
              exact ha2.out n (by rw [List.take_of_length_le (by rw [HXM.out]; exact Nat.le_refl _)]; exact hn)
          have HB6 : Hid (Below w.heap.size w wr) := Lib.hid (HB5.out.trans (Below.mono hb2.out HB5.out.size))
          go_wp2_with fail
          go_roundw
          case rel => exact ⟨i + 1, by omega, by first | rfl | go_num, HA1, HB6⟩
          case measure => simp only [intOf_i]; omega
    · have : n = i := by omega
      subst this
      have HE : Hid ((L.all fun p => p.nums.all (okN (M0.map (·.1)))) = true) := Lib.hid (by
        rw [List.all_eq_true]
        intro p hp
        exact ha.out p (by rw [List.take_of_length_le (by rw [HN.out]; exact Nat.le_refl _)]; exact hp))
      go_wp2_with fail
      go_ret
      exact ⟨by rw [HE.out]; rfl, hb.out⟩
end Go.Proofs.YthgpdnffahmhjaaGreatDoor.S19
namespace Go.Proofs.YthgpdnffahmhjaaGreatDoor.S19
open Go.RowKit Go.Maps Go.Shelf Go.Sort S18
theorem info_parts {o : Option TypeInfo} {z : Value} {k b : Nat} (h : o.map (fun i => (i.zero, i.size, i.bytes)) = some (some z, k, b)) : ∃ i, o = some i ∧ i.zero = some z ∧ i.size = k ∧ i.bytes = b := by
  cases o with
  | none => cases h
  | some i => simp at h; exact ⟨i, rfl, h.1, h.2.1, h.2.2⟩
theorem make_own {P : Program} (w : World) (base : Nat) (t e : TypeId) (i : TypeInfo) (z : Value) (size : Nat) (ht : P.underlying t = some (.slice e)) (hi : P.info? e = some i) (hz : i.zero = some z) (hsize : i.size = size)
    (kl kc : IntKind) (c : Nat) (hbytes : i.bytes * c ≤ 281474976710656) (h63 : c ≤ maxLen) (hbase : base ≤ w.heap.size) :
    ∃ w', (Instr.makeSlice t (.int kl 0) (.int kc (c : Int))).run P w = .ok (.slice (some ⟨w.heap.size, 0, none⟩) 0 c) w' ∧
      w'.ownsRow base e size (.slice (some ⟨w.heap.size, 0, none⟩) 0 c) 0 [] ∧ w.grownBy w' none ∧ w'.heap.size = w.heap.size + 1 := by
  subst hsize
  have h63' : (c : Int) ≤ 9223372036854775807 := by
    have h := h63
    simp [maxLen] at h
    omega
  have hb' : (i.bytes : Int) * (c : Int) ≤ 281474976710656 := by
    have h : ((i.bytes * c : Nat) : Int) ≤ 281474976710656 := by omega
    rwa [Int.natCast_mul] at h
  have hr := run_make (P := P) w t e i z ht hi hz kl kc 0 c (Int.le_refl _) (by omega) hb' h63'
  simp only [Int.toNat_zero, Int.toNat_natCast] at hr
  exact ⟨_, hr, World.ownsRow_made w _ c hbase h63 (size_madeCells _ _), World.grownBy_alloc w _ none, by simp⟩
theorem listS : ∀ {cs : List Value}, cs.length = 6 → ∃ u0 u1 u2 u3 u4 u5, cs = [u0, u1, u2, u3, u4, u5]
  | [u0, u1, u2, u3, u4, u5], _ => ⟨u0, u1, u2, u3, u4, u5, rfl⟩
theorem own0S {w : World} {base n : Nat} {v : Value} {R : SG → List Value → Prop} (h : w.ownsRow base 40 6 v n []) (hn : n = 0) : OwnD base 40 6 R w v [] := by
  subst hn
  exact ⟨[], rfl, h, fun i x c hx => by simp at hx⟩
set_option maxHeartbeats 8000000 in
theorem ascS {key : SG → Int} (b : Nat) (M : List (SG × List Value)) (w : World) (h : MapC key w b M) (hM : MCel 6 M) (hk : ∀ x ∈ M, 0 ≤ key x.1 ∧ key x.1 ≤ 1125899906842624) (hl : M.length ≤ 1000) :
    Calls Tryz.prog 34 #[.map (some b)] w fun e w' => ∃ v, e = .returned v ∧ OwnD w.heap.size 40 6 (fun x c => (x, c) ∈ M) w' v (M.map (·.1)) ∧ Below w.heap.size w w' := by
  have hks := h.ks
  have hln := lenS h
  have HBL := Lib.hid h.lt
  obtain ⟨i0, hi, hz0, hz1, hz2⟩ := info_parts infoS
  obtain ⟨w1, hmk, ho1, hg1, hw1⟩ := make_own (P := Tryz.prog) w w.heap.size 30 40 i0 _ 6 Tryz.underlying30 hi hz0 hz1 .i64 .i64 M.length (by rw [hz2]; omega) (by unfold maxLen; omega) (Nat.le_refl _)
  have hm1 := h.heap (hg1.block b h.lt (by simp))
  have hso := sortedS w1 hm1 (by omega)
  have hke := keysS (some b) w1
  have HO1 := Lib.hid (own0S (R := fun x c => (x, c) ∈ M) ho1 rfl)
  obtain ⟨n, hn⟩ : ∃ n, M.length = n := ⟨_, rfl⟩
  have HN := Lib.hid hn
  have HM := Lib.hid hM
  have HK := Lib.hid hk
  have HKS := Lib.hid hks
  have H1 := Lib.hid hm1
  have HG1 := Lib.hid hg1
  have HW1 := Lib.hid hw1
  rw [hn] at hln hmk hso HO1 hl
  clear hw1 ho1 hm1 hi hz0 hz1 hz2 hn hM hk hks h hg1
  go_enter Tryz.func34, Tryz.ntmps34
  go_wp2_with fail
  refine hke.mono ?_
  rintro e w2 ⟨rfl, rfl⟩
  clear hke
  go_wp2_with fail
  refine hso.mono ?_
  rintro e w3 ⟨v3, rfl, hr3, hb3⟩
  have hB3 : Below w.heap.size w w3 := ((Below.refl w.heap.size w).grown HG1.out (Nat.le_refl _) (fun j hj => by cases hj)).trans (hb3.mono HG1.out.size)
  have hd3 := ownD_nums (by rw [List.length_map, HN.out]) hr3
  obtain ⟨sp3, cp3, rfl, hc3, _⟩ := OwnD.slice hd3
  rw [List.length_map, HN.out] at hd3 hc3 ⊢
  have HD3 : Hid (IsNums (fun g => ∃ c, Blk w3 g 2 c) w3 (.slice sp3 n cp3) (M.map (keyM key))) := Lib.hid (OwnD.row hd3 fun _ c _ hc => ⟨c, hc⟩)
  have HO3 : Hid (OwnD w.heap.size 40 6 (fun x c => (x, c) ∈ M) w3 (.slice (some ⟨w.heap.size, 0, none⟩) 0 n) []) := Lib.hid (HO1.out.below hb3 fun _ _ h => h)
  have HM3 : Hid (MapC key w3 b M) := Lib.hid (H1.out.below hb3)
  have HB3 := Lib.hid hB3
  have H31 := Lib.hid hb3.size
  clear hso hr3 hb3 hd3 hB3 hln hmk
  go_wp2_with fail
  go_loopw [3, 13] (fun u y wr => ∃ (i : Nat), i ≤ n ∧ y = .int .i64 i ∧ Hid (OwnD w.heap.size 40 6 (fun x c => (x, c) ∈ M) wr u ((M.map (·.1)).take i)) ∧ Hid (Below w.heap.size w wr) ∧ Hid (IsNums (fun g => ∃ c, Blk wr g 2 c) wr (.slice sp3 n cp3) (M.map (keyM key))) ∧ Hid (MapC key wr b M)) (fun _ y _ => n - (intOf y).toNat)
  case atStart => exact ⟨0, by omega, rfl, HO3, HB3, HD3, HM3⟩
  case round =>
    obtain ⟨i, hi, rfl, ho, hb, hs, hmr⟩ := hrel
    obtain ⟨su, cu, hu, hcu, _⟩ := OwnD.slice ho.out
    rw [List.length_take, List.length_map, HN.out, Nat.min_eq_left hi] at hu hcu
    subst hu
    by_cases hlt : i < n
    · obtain ⟨bb, off, rfl, _, hbb, c0⟩ := IsNums.cell hs.out (i := i) (by rw [List.length_map, HN.out]; exact hlt)
      obtain ⟨x, hx⟩ : ∃ x, M[i]? = some x := ⟨_, List.getElem?_eq_getElem (by rw [HN.out]; exact hlt)⟩
      have hxm : x ∈ M := List.mem_of_getElem? hx
      have hkx : (M.map (keyM key)).getD i 0 = key x.1 := by simp [List.getD, hx, keyM]
      rw [hkx] at c0
      have hlk := lookS hmr.out (HK.out x hxm)
      rw [show kget (keyM key) M (key x.1) = some x from ks_get (keyM key) HKS.out hxm] at hlk
      simp only [valS, valM] at hlk
      have hcel := HM.out x hxm
      have htk : (M.map (·.1)).take (i + 1) = (M.map (·.1)).take i ++ [x.1] := by
        rw [List.take_add_one]
        simp [hx]
      have hbase : w.heap.size ≤ wr.heap.size := hb.out.size
      have HTK := Lib.hid htk
      have HLL : Hid (((M.map (·.1)).take i).length + 1 ≤ 4294967296) := Lib.hid (by rw [List.length_take, List.length_map, HN.out, Nat.min_eq_left hi]; omega)
      have HXM := Lib.hid hxm
      obtain ⟨cs, hcs⟩ : ∃ cs, x.2 = cs := ⟨_, rfl⟩
      rw [hcs] at hlk hcel
      have HXC : Hid ((x.1, cs) ∈ M) := Lib.hid (by rw [← hcs]; exact hxm)
      clear hx hxm hkx hcs htk
      obtain ⟨u0, u1, u2, u3, u4, u5, rfl⟩ := listS hcel.1
      go_wp2_with (at_builtin; refine wpList_append_D 30 40 6 (.agg (segL zS).toArray) 48 Tryz.underlying30 infoS rfl (by decide) (by decide) rfl (.tmp 17) (.tmp 21) rfl w.heap.size (fun x c => (x, c) ∈ M) _ _ rfl ho.out x.1 [u0, u1, u2, u3, u4, u5] HXC.out hcel.1 hcel.2 rfl HLL.out hbase ?_; intro v' w4 ho4 hg4)
      have HO4 : Hid (OwnD w.heap.size 40 6 (fun x c => (x, c) ∈ M) w4 v' ((M.map (·.1)).take (i + 1))) := Lib.hid (by rw [HTK.out]; exact ho4)
      have hA : Below wr.heap.size wr (wr.alloc (.cells [u0, u1, u2, u3, u4, u5].toArray 40 (0, 0))) := (Below.refl _ _).alloc (Nat.le_refl _) _
      have hob : ∀ g, (Value.slice su i cu).ownBlock = some g → w.heap.size ≤ g := fun g hg => (OwnD.lt ho.out g hg).1
      have HB4 : Hid (Below w.heap.size w w4) := Lib.hid ((hb.out.trans (hA.mono hbase)).grown hg4 (by have := hA.size; omega) hob)
      have HM4 : Hid (MapC key w4 b M) := Lib.hid (hmr.out.heap ((hg4.block b (by have := hA.size; have := hmr.out.lt; omega) (fun e => by have := hob b e.symm; have := HBL.out; omega)).trans (hA.block b hmr.out.lt)))
      have HS4 : Hid (IsNums (fun g => ∃ c, Blk w4 g 2 c) w4 _ (M.map (keyM key))) := Lib.hid (RowD.keep hs.out (fun g ⟨c, hc⟩ hl => by
        have h1 := hc.below hA hl
        have hne : some g ≠ (Value.slice su i cu).ownBlock := fun e => by
          obtain ⟨c2, hc2⟩ := OwnD.ty (ho.out.below (R' := fun x c => (x, c) ∈ M) hA fun _ _ h => h) g e.symm
          exact h1.ne hc2 (by decide) rfl
        exact ⟨⟨c, h1.grown hg4 hne⟩, (hg4.block g (by have := hA.size; omega) hne).trans (hA.block g hl)⟩) fun _ _ h => h)
      clear ho4 hg4 hA hob
      go_wp2_with fail
      go_roundw
      case rel => exact ⟨i + 1, by omega, by first | rfl | go_num, HO4, HB4, HS4, HM4⟩
      case measure => simp only [intOf_i]; omega
    · have : n = i := by omega
      subst this
      have HE : Hid (OwnD w.heap.size 40 6 (fun x c => (x, c) ∈ M) wr (.slice su n cu) (M.map (·.1))) := Lib.hid (by
        have := ho.out
        rwa [List.take_of_length_le (by rw [List.length_map, HN.out]; exact Nat.le_refl _)] at this)
      go_wp2_with fail
      go_ret
      exact ⟨_, rfl, HE.out, hb.out⟩
set_option maxHeartbeats 4000000 in
theorem asc_nilS (R : SG → List Value → Prop) (w : World) :
    Calls Tryz.prog 34 #[.map none] w fun e w' => ∃ v, e = .returned v ∧ OwnD w.heap.size 40 6 R w' v [] ∧ Below w.heap.size w w' := by
  have hln := len_nilS w
  obtain ⟨i0, hi, hz0, hz1, hz2⟩ := info_parts infoS
  obtain ⟨w1, hmk, ho1, hg1, hw1⟩ := make_own (P := Tryz.prog) w w.heap.size 30 40 i0 _ 6 Tryz.underlying30 hi hz0 hz1 .i64 .i64 0 (by omega) (by unfold maxLen; omega) (Nat.le_refl _)
  rw [show ((0 : Nat) : Int) = 0 from rfl] at hmk
  have hso := sorted_nilS w1
  have hke := keysS none w1
  have HO1 := Lib.hid (own0S (R := R) ho1 rfl)
  have HG1 := Lib.hid hg1
  clear hw1 ho1 hi hz0 hz1 hz2 hg1
  go_enter Tryz.func34, Tryz.ntmps34
  go_wp2_with fail
  refine hke.mono ?_
  rintro e w2 ⟨rfl, rfl⟩
  clear hke
  go_wp2_with fail
  refine hso.mono ?_
  rintro e w3 ⟨v3, rfl, hr3, hb3⟩
  obtain ⟨sp3, cp3, rfl, hc3, _⟩ := ownsRow_slice hr3
  have HB3 : Hid (Below w.heap.size w w3) := Lib.hid (((Below.refl w.heap.size w).grown HG1.out (Nat.le_refl _) (fun j hj => by cases hj)).trans (hb3.mono HG1.out.size))
  have HO3 := Lib.hid (HO1.out.below (R' := R) hb3 fun _ _ h => h)
  clear hso hr3 hb3 hln hmk hc3
  go_wp2_with fail
  refine wp_loop_rounds 1 ?_
  rw [rounds_succ]
  go_wp2
  go_ret
  exact ⟨_, rfl, HO3.out, HB3.out⟩
theorem listP : ∀ {cs : List Value}, cs.length = 5 → ∃ u0 u1 u2 u3 u4, cs = [u0, u1, u2, u3, u4]
  | [u0, u1, u2, u3, u4], _ => ⟨u0, u1, u2, u3, u4, rfl⟩
theorem own0P {w : World} {base n : Nat} {v : Value} {R : PT → List Value → Prop} (h : w.ownsRow base 95 5 v n []) (hn : n = 0) : OwnD base 95 5 R w v [] := by
  subst hn
  exact ⟨[], rfl, h, fun i x c hx => by simp at hx⟩
set_option maxHeartbeats 8000000 in
theorem ascP {key : PT → Int} (b : Nat) (M : List (PT × List Value)) (w : World) (h : MapC key w b M) (hM : MCel 5 M) (hk : ∀ x ∈ M, 0 ≤ key x.1 ∧ key x.1 ≤ 1125899906842624) (hl : M.length ≤ 1000) :
    Calls Tryz.prog 100 #[.map (some b)] w fun e w' => ∃ v, e = .returned v ∧ OwnD w.heap.size 95 5 (fun x c => (x, c) ∈ M) w' v (M.map (·.1)) ∧ Below w.heap.size w w' := by
  have hks := h.ks
  have hln := lenP h
  have HBL := Lib.hid h.lt
  obtain ⟨i0, hi, hz0, hz1, hz2⟩ := info_parts infoP
  obtain ⟨w1, hmk, ho1, hg1, hw1⟩ := make_own (P := Tryz.prog) w w.heap.size 32 95 i0 _ 5 Tryz.underlying32 hi hz0 hz1 .i64 .i64 M.length (by rw [hz2]; omega) (by unfold maxLen; omega) (Nat.le_refl _)
  have hm1 := h.heap (hg1.block b h.lt (by simp))
  have hso := sortedP w1 hm1 (by omega)
  have hke := keysP (some b) w1
  have HO1 := Lib.hid (own0P (R := fun x c => (x, c) ∈ M) ho1 rfl)
  obtain ⟨n, hn⟩ : ∃ n, M.length = n := ⟨_, rfl⟩
  have HN := Lib.hid hn
  have HM := Lib.hid hM
  have HK := Lib.hid hk
  have HKS := Lib.hid hks
  have H1 := Lib.hid hm1
  have HG1 := Lib.hid hg1
  have HW1 := Lib.hid hw1
  rw [hn] at hln hmk hso HO1 hl
  clear hw1 ho1 hm1 hi hz0 hz1 hz2 hn hM hk hks h hg1
  go_enter Tryz.func100, Tryz.ntmps100
  go_wp2_with fail
  refine hke.mono ?_
  rintro e w2 ⟨rfl, rfl⟩
  clear hke
  go_wp2_with fail
  refine hso.mono ?_
  rintro e w3 ⟨v3, rfl, hr3, hb3⟩
  have hB3 : Below w.heap.size w w3 := ((Below.refl w.heap.size w).grown HG1.out (Nat.le_refl _) (fun j hj => by cases hj)).trans (hb3.mono HG1.out.size)
  have hd3 := ownD_nums (by rw [List.length_map, HN.out]) hr3
  obtain ⟨sp3, cp3, rfl, hc3, _⟩ := OwnD.slice hd3
  rw [List.length_map, HN.out] at hd3 hc3 ⊢
  have HD3 : Hid (IsNums (fun g => ∃ c, Blk w3 g 2 c) w3 (.slice sp3 n cp3) (M.map (keyM key))) := Lib.hid (OwnD.row hd3 fun _ c _ hc => ⟨c, hc⟩)
  have HO3 : Hid (OwnD w.heap.size 95 5 (fun x c => (x, c) ∈ M) w3 (.slice (some ⟨w.heap.size, 0, none⟩) 0 n) []) := Lib.hid (HO1.out.below hb3 fun _ _ h => h)
  have HM3 : Hid (MapC key w3 b M) := Lib.hid (H1.out.below hb3)
  have HB3 := Lib.hid hB3
  have H31 := Lib.hid hb3.size
  clear hso hr3 hb3 hd3 hB3 hln hmk
  go_wp2_with fail
  go_loopw [3, 13] (fun u y wr => ∃ (i : Nat), i ≤ n ∧ y = .int .i64 i ∧ Hid (OwnD w.heap.size 95 5 (fun x c => (x, c) ∈ M) wr u ((M.map (·.1)).take i)) ∧ Hid (Below w.heap.size w wr) ∧ Hid (IsNums (fun g => ∃ c, Blk wr g 2 c) wr (.slice sp3 n cp3) (M.map (keyM key))) ∧ Hid (MapC key wr b M)) (fun _ y _ => n - (intOf y).toNat)
  case atStart => exact ⟨0, by omega, rfl, HO3, HB3, HD3, HM3⟩
  case round =>
    obtain ⟨i, hi, rfl, ho, hb, hs, hmr⟩ := hrel
    obtain ⟨su, cu, hu, hcu, _⟩ := OwnD.slice ho.out
    rw [List.length_take, List.length_map, HN.out, Nat.min_eq_left hi] at hu hcu
    subst hu
    by_cases hlt : i < n
    · obtain ⟨bb, off, rfl, _, hbb, c0⟩ := IsNums.cell hs.out (i := i) (by rw [List.length_map, HN.out]; exact hlt)
      obtain ⟨x, hx⟩ : ∃ x, M[i]? = some x := ⟨_, List.getElem?_eq_getElem (by rw [HN.out]; exact hlt)⟩
      have hxm : x ∈ M := List.mem_of_getElem? hx
      have hkx : (M.map (keyM key)).getD i 0 = key x.1 := by simp [List.getD, hx, keyM]
      rw [hkx] at c0
      have hlk := lookP hmr.out (HK.out x hxm)
      rw [show kget (keyM key) M (key x.1) = some x from ks_get (keyM key) HKS.out hxm] at hlk
      simp only [valP, valM] at hlk
      have hcel := HM.out x hxm
      have htk : (M.map (·.1)).take (i + 1) = (M.map (·.1)).take i ++ [x.1] := by
        rw [List.take_add_one]
        simp [hx]
      have hbase : w.heap.size ≤ wr.heap.size := hb.out.size
      have HTK := Lib.hid htk
      have HLL : Hid (((M.map (·.1)).take i).length + 1 ≤ 4294967296) := Lib.hid (by rw [List.length_take, List.length_map, HN.out, Nat.min_eq_left hi]; omega)
      have HXM := Lib.hid hxm
      obtain ⟨cs, hcs⟩ : ∃ cs, x.2 = cs := ⟨_, rfl⟩
      rw [hcs] at hlk hcel
      have HXC : Hid ((x.1, cs) ∈ M) := Lib.hid (by rw [← hcs]; exact hxm)
      clear hx hxm hkx hcs htk
      obtain ⟨u0, u1, u2, u3, u4, rfl⟩ := listP hcel.1
      go_wp2_with (at_builtin; refine wpList_append_D 32 95 5 (.agg (parL zP none 0 none 0).toArray) 72 Tryz.underlying32 infoP rfl (by decide) (by decide) rfl (.tmp 17) (.tmp 21) rfl w.heap.size (fun x c => (x, c) ∈ M) _ _ rfl ho.out x.1 [u0, u1, u2, u3, u4] HXC.out hcel.1 hcel.2 rfl HLL.out hbase ?_; intro v' w4 ho4 hg4)
      have HO4 : Hid (OwnD w.heap.size 95 5 (fun x c => (x, c) ∈ M) w4 v' ((M.map (·.1)).take (i + 1))) := Lib.hid (by rw [HTK.out]; exact ho4)
      have hA : Below wr.heap.size wr (wr.alloc (.cells [u0, u1, u2, u3, u4].toArray 95 (0, 0))) := (Below.refl _ _).alloc (Nat.le_refl _) _
      have hob : ∀ g, (Value.slice su i cu).ownBlock = some g → w.heap.size ≤ g := fun g hg => (OwnD.lt ho.out g hg).1
      have HB4 : Hid (Below w.heap.size w w4) := Lib.hid ((hb.out.trans (hA.mono hbase)).grown hg4 (by have := hA.size; omega) hob)
      have HM4 : Hid (MapC key w4 b M) := Lib.hid (hmr.out.heap ((hg4.block b (by have := hA.size; have := hmr.out.lt; omega) (fun e => by have := hob b e.symm; have := HBL.out; omega)).trans (hA.block b hmr.out.lt)))
      have HS4 : Hid (IsNums (fun g => ∃ c, Blk w4 g 2 c) w4 _ (M.map (keyM key))) := Lib.hid (RowD.keep hs.out (fun g ⟨c, hc⟩ hl => by
        have h1 := hc.below hA hl
        have hne : some g ≠ (Value.slice su i cu).ownBlock := fun e => by
          obtain ⟨c2, hc2⟩ := OwnD.ty (ho.out.below (R' := fun x c => (x, c) ∈ M) hA fun _ _ h => h) g e.symm
          exact h1.ne hc2 (by decide) rfl
        exact ⟨⟨c, h1.grown hg4 hne⟩, (hg4.block g (by have := hA.size; omega) hne).trans (hA.block g hl)⟩) fun _ _ h => h)
      clear ho4 hg4 hA hob
      go_wp2_with fail
      go_roundw
      case rel => exact ⟨i + 1, by omega, by first | rfl | go_num, HO4, HB4, HS4, HM4⟩
      case measure => simp only [intOf_i]; omega
    · have : n = i := by omega
      subst this
      have HE : Hid (OwnD w.heap.size 95 5 (fun x c => (x, c) ∈ M) wr (.slice su n cu) (M.map (·.1))) := Lib.hid (by
        have := ho.out
        rwa [List.take_of_length_le (by rw [List.length_map, HN.out]; exact Nat.le_refl _)] at this)
      go_wp2_with fail
      go_ret
      exact ⟨_, rfl, HE.out, hb.out⟩
set_option maxHeartbeats 4000000 in
theorem asc_nilP (R : PT → List Value → Prop) (w : World) :
    Calls Tryz.prog 100 #[.map none] w fun e w' => ∃ v, e = .returned v ∧ OwnD w.heap.size 95 5 R w' v [] ∧ Below w.heap.size w w' := by
  have hln := len_nilP w
  obtain ⟨i0, hi, hz0, hz1, hz2⟩ := info_parts infoP
  obtain ⟨w1, hmk, ho1, hg1, hw1⟩ := make_own (P := Tryz.prog) w w.heap.size 32 95 i0 _ 5 Tryz.underlying32 hi hz0 hz1 .i64 .i64 0 (by omega) (by unfold maxLen; omega) (Nat.le_refl _)
  rw [show ((0 : Nat) : Int) = 0 from rfl] at hmk
  have hso := sorted_nilP w1
  have hke := keysP none w1
  have HO1 := Lib.hid (own0P (R := R) ho1 rfl)
  have HG1 := Lib.hid hg1
  clear hw1 ho1 hi hz0 hz1 hz2 hg1
  go_enter Tryz.func100, Tryz.ntmps100
  go_wp2_with fail
  refine hke.mono ?_
  rintro e w2 ⟨rfl, rfl⟩
  clear hke
  go_wp2_with fail
  refine hso.mono ?_
  rintro e w3 ⟨v3, rfl, hr3, hb3⟩
  obtain ⟨sp3, cp3, rfl, hc3, _⟩ := ownsRow_slice hr3
  have HB3 : Hid (Below w.heap.size w w3) := Lib.hid (((Below.refl w.heap.size w).grown HG1.out (Nat.le_refl _) (fun j hj => by cases hj)).trans (hb3.mono HG1.out.size))
  have HO3 := Lib.hid (HO1.out.below (R' := R) hb3 fun _ _ h => h)
  clear hso hr3 hb3 hln hmk hc3
  go_wp2_with fail
  refine wp_loop_rounds 1 ?_
  rw [rounds_succ]
  go_wp2
  go_ret
  exact ⟨_, rfl, HO3.out, HB3.out⟩
end Go.Proofs.YthgpdnffahmhjaaGreatDoor.S19
namespace Go.Proofs.YthgpdnffahmhjaaGreatDoor.S19
open Go.RowKit Go.Maps Go.Shelf Go.Sort S18
def MapO {α : Type} (key : α → Int) (k : Nat) (R : α → List Value → Prop) (w : World) (sv : Option Nat) (L : List α) : Prop := (sv = none ∧ L = []) ∨ ∃ b, sv = some b ∧ MapR key k R w b L
theorem MapO.lt {α : Type} {key : α → Int} {k : Nat} {R : α → List Value → Prop} {w : World} {sv : Option Nat} {L : List α} (h : MapO key k R w sv L) : ∀ b, sv = some b → b < w.heap.size := by
  rintro b rfl
  obtain ⟨h, _⟩ | ⟨b', hb, h⟩ := h
  · cases h
  · cases hb; exact h.lt
theorem MapO.keep {α : Type} {key : α → Int} {k : Nat} {R R' : α → List Value → Prop} {w w' : World} {sv : Option Nat} {L : List α} (h : MapO key k R w sv L) (hk : ∀ b, sv = some b → w'.heap[b]? = w.heap[b]?) (hR : ∀ x c, R x c → R' x c) : MapO key k R' w' sv L := by
  obtain h | ⟨b, rfl, h⟩ := h
  · exact .inl h
  · exact .inr ⟨b, rfl, h.keep (hk b rfl) hR⟩
theorem MapO.not_blk {α : Type} {key : α → Int} {k : Nat} {R : α → List Value → Prop} {w : World} {sv : Option Nat} {L : List α} (h : MapO key k R w sv L) {g : Nat} {t : TypeId} {cs : List Value} (hk : Blk w g t cs) : sv ≠ some g := by
  rintro rfl
  obtain ⟨h, _⟩ | ⟨b', hb, M, _, _, _, h⟩ := h
  · cases h
  · cases hb; exact h.not_blk hk rfl
def loadT (v : Value) : Sem Value := Instr.loadAt 58 v
theorem loadT_eq (v : Value) : Instr.loadAt 58 v = loadT v := rfl
theorem run_loadT {w : World} {g o : Nat} {cs : List Value} (hl : cs.length = 4) (h : ∀ j u, cs[j]? = some u → w.cell? ⟨g, o + j, none⟩ = some u) :
    (loadT (.pointer (some ⟨g, o, none⟩))).run Tryz.prog w = .ok (.agg cs.toArray) w := by
  simp only [loadT, Instr.loadAt, Instr.sureAddr, loadVar, loadCells, Sem.run_bind, Sem.run_pure, Result.andThen_ok, Tryz.isAgg58, Tryz.sizeOf58, if_true]
  have := run_loadCellsFrom_list Tryz.prog w ⟨g, o, none⟩ cs 4 hl (fun j v hj => by
    rw [addr_at]
    exact h j v hj)
  rw [this]
  rfl
theorem run_loadT_blk {w : World} {g : Nat} {t : TypeId} (M : MS) {sv pv : Option Nat} (h : Blk w g t (stL M sv pv)) : (loadT (.pointer (some ⟨g, 0, none⟩))).run Tryz.prog w = .ok (.agg #[.int .i64 M.next, .int .i64 M.seq, .map sv, .map pv]) w :=
  run_loadT (cs := stL M sv pv) rfl fun j u hj => by rw [Nat.zero_add]; exact h.cell hj
def storeT (p v : Value) : Sem Unit := Instr.storeAt 58 p v
theorem storeT_eq (p v : Value) : Instr.storeAt 58 p v = storeT p v := rfl
theorem run_storeT {w : World} {g : Nat} {t : TypeId} {cs ds : List Value} (h : Blk w g t cs) (ho : cs.length = 4) (hd : ds.length = 4) (h1 : ∀ u ∈ ds, u.oneCell' = true) :
    (storeT (.pointer (some ⟨g, 0, none⟩)) (.agg ds.toArray)).run Tryz.prog w = .ok () (w.setRow g ds.toArray) := by
  simp only [storeT, Instr.storeAt, Instr.sureAddr, storeVar, Sem.run_bind, Sem.run_pure, Result.andThen_ok, Tryz.sizeOf58]
  rw [if_neg (by simp [Value.cells, hd])]
  have := run_storeCells_at (P := Tryz.prog) g 0 t ds 0 cs.toArray w h (by simp [ho, hd]) h1
  have e : cs.drop 4 = [] := List.drop_of_length_le (by omega)
  simpa [Value.cells, e, hd] using this
theorem stL_one (M : MS) (sv pv : Option Nat) : ∀ u ∈ stL M sv pv, u.oneCell' = true := by
  intro u hu
  simp [stL] at hu
  rcases hu with rfl | rfl | rfl | rfl <;> rfl
theorem putT {W : World} {g : Nat} {t : TypeId} {cs : List Value} (M : MS) {sv pv : Option Nat} (hk : Blk W g t cs) (hc : cs.length = 4) :
    ∃ W2, (storeT (.pointer (some ⟨g, 0, none⟩)) (.agg #[.int .i64 M.next, .int .i64 M.seq, .map sv, .map pv])).run Tryz.prog W = .ok () W2 ∧ Hid (Blk W2 g t (stL M sv pv)) ∧ Hid (W.grownBy W2 (some g)) :=
  ⟨_, run_storeT (ds := stL M sv pv) hk hc rfl (stL_one M sv pv), Lib.hid (hk.setRow (stL M sv pv)), Lib.hid ⟨rfl, rfl, rfl, by simp, fun k hk hne => setRow_other _ _ _ _ (by intro e; exact hne (by rw [e]))⟩⟩
def buildT (v : Array (Nat × Value)) : Sem Value := Instr.build 58 v
theorem buildT_eq (v : Array (Nat × Value)) : Instr.build 58 v = buildT v := rfl
theorem run_buildT4 (w : World) (a b : Int) (s p : Option Nat) : (buildT #[(0, .int .i64 a), (1, .int .i64 b), (2, .map s), (3, .map p)]).run Tryz.prog w = .ok (.agg #[.int .i64 a, .int .i64 b, .map s, .map p]) w := by kernel_rfl
theorem run_buildT2 (w : World) (a b : Int) : (buildT #[(0, .int .i64 a), (1, .int .i64 b)]).run Tryz.prog w = .ok (.agg #[.int .i64 a, .int .i64 b, .map none, .map none]) w := by kernel_rfl
theorem run_buildT0 (w : World) : (buildT #[]).run Tryz.prog w = .ok (.agg #[.int .i64 0, .int .i64 0, .map none, .map none]) w := by kernel_rfl
theorem copyRS {key : SG → Int} {R : SG → List Value → Prop} (bd : Nat) (sv : Option Nat) (L : List SG) (w : World) (hd : MapC key w bd ([] : List (SG × List Value))) (hs : MapO key 6 R w sv L) (hne : sv ≠ some bd) (hL : L.length ≤ 1000000) :
    Calls Tryz.prog 43 #[.map (some bd), .map sv] w fun e w' => e = .returned (.tuple #[]) ∧ MapR key 6 R w' bd L ∧ w.grownBy w' (some bd) := by
  obtain ⟨rfl, rfl⟩ | ⟨bs, rfl, M, rfl, hR, hM, hm⟩ := hs
  · refine (copy_nilS (some bd) w).mono ?_
    rintro e w' ⟨rfl, rfl⟩
    exact ⟨rfl, ⟨[], rfl, by simp, by intro x hx; simp at hx, hd.heap ((World.grownBy_alloc w (.mapIter none 0 #[] 0) none).block bd hd.lt (by simp))⟩, World.grownBy_alloc _ _ _⟩
  · rw [List.length_map] at hL
    refine (copyS bd bs M w hd hm (fun e => hne (by rw [e])) hM hL).mono ?_
    rintro e w' ⟨rfl, h1, h2⟩
    exact ⟨rfl, ⟨M, rfl, hR, hM, h1⟩, h2⟩
theorem copyRP {key : PT → Int} {R : PT → List Value → Prop} (bd : Nat) (sv : Option Nat) (L : List PT) (w : World) (hd : MapC key w bd ([] : List (PT × List Value))) (hs : MapO key 5 R w sv L) (hne : sv ≠ some bd) (hL : L.length ≤ 1000000) :
    Calls Tryz.prog 44 #[.map (some bd), .map sv] w fun e w' => e = .returned (.tuple #[]) ∧ MapR key 5 R w' bd L ∧ w.grownBy w' (some bd) := by
  obtain ⟨rfl, rfl⟩ | ⟨bs, rfl, M, rfl, hR, hM, hm⟩ := hs
  · refine (copy_nilP (some bd) w).mono ?_
    rintro e w' ⟨rfl, rfl⟩
    exact ⟨rfl, ⟨[], rfl, by simp, by intro x hx; simp at hx, hd.heap ((World.grownBy_alloc w (.mapIter none 0 #[] 0) none).block bd hd.lt (by simp))⟩, World.grownBy_alloc _ _ _⟩
  · rw [List.length_map] at hL
    refine (copyP bd bs M w hd hm (fun e => hne (by rw [e])) hM hL).mono ?_
    rintro e w' ⟨rfl, h1, h2⟩
    exact ⟨rfl, ⟨M, rfl, hR, hM, h1⟩, h2⟩
def ClonePost (D : Nat → Prop) (M : MS) (w : World) (e : Ending) (w' : World) : Prop :=
  ∃ s p, e = .returned (.agg #[.int .i64 M.next, .int .i64 M.seq, .map (some s), .map (some p)]) ∧ w.heap.size ≤ s ∧ w.heap.size ≤ p ∧ s ≠ p ∧ Hid (MapR SG.num 6 segC w' s M.segs) ∧ Hid (MapR PT.group 5 (parC D w') w' p M.pars) ∧ Hid (Below w.heap.size w w')
theorem clone_ret {D : Nat → Prop} {fn : Func} {q : Tmp} {a : Act} {w0 w : World} {g : Nat} {t : TypeId} {M : MS} {s p : Nat} (h : fn.results = #[.cell q 58]) (hd : a.defers = []) (hp : a.tmps.getD q undef = .pointer (some ⟨g, 0, none⟩)) (hk : Blk w g t (stL M (some s) (some p)))
    (h1 : w0.heap.size ≤ s) (h2 : w0.heap.size ≤ p) (h3 : s ≠ p) (h4 : MapR SG.num 6 segC w s M.segs) (h5 : MapR PT.group 5 (parC D w) w p M.pars) (h6 : Below w0.heap.size w0 w) : bodyPost Tryz.prog fn (ClonePost D M w0) Exit.ret a w := by
  refine bodyPost_ret (v := .agg #[.int .i64 M.next, .int .i64 M.seq, .map (some s), .map (some p)]) ?_ hd ⟨s, p, rfl, h1, h2, h3, Lib.hid h4, Lib.hid h5, Lib.hid h6⟩
  exact results_cell_row h _ _ g t (stL M (some s) (some p)).toArray (0, 0) _ hp hk Tryz.underlying58 rfl (by kernel_rfl)
attribute [local go_sem ↓] loadT_eq storeT_eq buildT_eq
attribute [local go_sem] run_buildT4
set_option maxHeartbeats 8000000 in
theorem clone_any {D : Nat → Prop} (M : MS) (sv pv : Option Nat) (w : World) (hs : MapO SG.num 6 segC w sv M.segs) (hp : MapO PT.group 5 (parC D w) w pv M.pars) (hl : M.segs.length ≤ 1000000 ∧ M.pars.length ≤ 1000000) (hD : ∀ b, D b → b < w.heap.size) :
    Calls Tryz.prog 22 #[.agg #[.int .i64 M.next, .int .i64 M.seq, .map sv, .map pv]] w (ClonePost D M w) := by
  have hmm := @run_makeMap Tryz.prog
  obtain ⟨nx, hnx⟩ : ∃ nx, M.next = nx := ⟨_, rfl⟩
  obtain ⟨sq, hsq⟩ : ∃ sq, M.seq = sq := ⟨_, rfl⟩
  have hst : stL M sv pv = [.int .i64 nx, .int .i64 sq, .map sv, .map pv] := by rw [← hnx, ← hsq]; rfl
  rw [hnx, hsq]
  obtain ⟨w1, hw1⟩ : ∃ w1, w.alloc (.cells #[.int .i64 nx, .int .i64 sq, .map sv, .map pv] 58) = w1 := ⟨_, rfl⟩
  have hk1 : Blk w1 w.heap.size 58 [.int .i64 nx, .int .i64 sq, .map sv, .map pv] := by rw [← hw1]; exact Blk.new w _ _
  have hb1 : Below w.heap.size w w1 := by rw [← hw1]; exact (Below.refl _ _).alloc (Nat.le_refl _) _
  have hs1 : w1.heap.size = w.heap.size + 1 := by rw [← hw1]; simp
  obtain ⟨w2, hw2⟩ : ∃ w2, w1.alloc (.cells #[.int .i64 0, .int .i64 0, .map none, .map none] 58) = w2 := ⟨_, rfl⟩
  have hk2 : Blk w2 w1.heap.size 58 [.int .i64 0, .int .i64 0, .map none, .map none] := by rw [← hw2]; exact Blk.new w1 _ _
  have hb2 : Below w1.heap.size w1 w2 := by rw [← hw2]; exact (Below.refl _ _).alloc (Nat.le_refl _) _
  have hs2 : w2.heap.size = w.heap.size + 2 := by rw [← hw2]; simp; omega
  obtain ⟨w3, hw3⟩ : ∃ w3, w2.alloc (.map #[] 0) = w3 := ⟨_, rfl⟩
  have hm3 : MapC SG.num w3 w2.heap.size ([] : List (SG × List Value)) := by rw [← hw3]; exact MapC.made _ w2
  have hb3 : Below w2.heap.size w2 w3 := by rw [← hw3]; exact (Below.refl _ _).alloc (Nat.le_refl _) _
  have hs3 : w3.heap.size = w.heap.size + 3 := by rw [← hw3]; simp; omega
  obtain ⟨w4, hw4⟩ : ∃ w4, w3.alloc (.map #[] 0) = w4 := ⟨_, rfl⟩
  have hm4 : MapC PT.group w4 w3.heap.size ([] : List (PT × List Value)) := by rw [← hw4]; exact MapC.made _ w3
  have hb4 : Below w3.heap.size w3 w4 := by rw [← hw4]; exact (Below.refl _ _).alloc (Nat.le_refl _) _
  have hs4 : w4.heap.size = w.heap.size + 4 := by rw [← hw4]; simp; omega
  obtain ⟨w5, hw5⟩ : ∃ w5, w4.alloc (.cells #[.int .i64 0, .int .i64 0, .map none, .map none] 58) = w5 := ⟨_, rfl⟩
  have hk5 : Blk w5 w4.heap.size 58 [.int .i64 0, .int .i64 0, .map none, .map none] := by rw [← hw5]; exact Blk.new w4 _ _
  have hb5 : Below w4.heap.size w4 w5 := by rw [← hw5]; exact (Below.refl _ _).alloc (Nat.le_refl _) _
  have hs5 : w5.heap.size = w.heap.size + 5 := by rw [← hw5]; simp; omega
  obtain ⟨g, hg⟩ : ∃ g, w.heap.size = g := ⟨_, rfl⟩
  rw [hg] at hs1 hs2 hs3 hs4 hs5 hk1 hb1
  rw [hs1] at hk2 hb2
  rw [hs2] at hm3 hb3
  rw [hs3] at hm4 hb4
  rw [hs4] at hk5 hb5
  obtain ⟨w6, hst6, hk6, hg6⟩ := putT ⟨nx, sq, M.segs, M.pars⟩ (sv := some (g + 2)) (pv := some (g + 3)) hk5 rfl
  simp only at hst6
  have h15 : Below (g + 1) w1 w5 := ((hb2.trans (hb3.mono (by omega))).trans (hb4.mono (by omega))).trans (hb5.mono (by omega))
  have h15' : Below w1.heap.size w1 w5 := by rw [hs1]; exact h15
  have h25' : Below w2.heap.size w2 w5 := by rw [hs2]; exact ((hb3.trans (hb4.mono (by omega))).trans (hb5.mono (by omega)))
  have h35' : Below w3.heap.size w3 w5 := by rw [hs3]; exact (hb4.trans (hb5.mono (by omega)))
  have h45' : Below w4.heap.size w4 w5 := by rw [hs4]; exact hb5
  have hk16 := (hk1.below h15' (by omega)).grown hg6.out (by simp)
  have hk26 := (hk2.below h25' (by omega)).grown hg6.out (by simp)
  have hm36 := (hm3.below h35').heap (hg6.out.block (g + 2) (by omega) (by simp))
  have hm46 := (hm4.below h45').heap (hg6.out.block (g + 3) (by omega) (by simp))
  have hbw5 : Below g w w5 := hb1.trans (h15.mono (by omega))
  have hbw6 : Below g w w6 := hbw5.grown hg6.out (by omega) (fun j hj => by cases hj; omega)
  have hsz6 : w6.heap.size ≥ g + 5 := by have := hg6.out.size; omega
  have hkb : Keep D D w w6 := by have := keep_below (D := D) (w := w) (w' := w6) (by rw [hg]; exact hbw6); exact this
  have hs6 : MapO SG.num 6 segC w6 sv M.segs := hs.keep (fun b hb => hbw6.block b (by have := hs.lt b hb; omega)) fun _ _ h => h
  have hp6 : MapO PT.group 5 (parC D w6) w6 pv M.pars := hp.keep (fun b hb => hbw6.block b (by have := hp.lt b hb; omega)) fun _ _ h => h.keep hkb
  have hslt := hs.lt
  have hplt := hp.lt
  have hcs := copyRS (g + 2) sv M.segs w6 hm36 hs6 (fun e => by have := hslt _ e; omega) hl.1
  have d1 : w6.cell? ⟨g + 4, 2, none⟩ = some (.map (some (g + 2))) := hk6.out.cell rfl
  have d2 : w6.cell? ⟨g, 2, none⟩ = some (.map sv) := hk16.cell rfl
  have hk12 := hk1.below (w' := w2) (show Below w1.heap.size w1 w2 by rw [hs1]; exact hb2) (by omega)
  have e0 : w2.cell? ⟨g, 0, none⟩ = some (.int .i64 nx) := hk12.cell rfl
  have e1 : w2.cell? ⟨g, 1, none⟩ = some (.int .i64 sq) := hk12.cell rfl
  clear hk12
  have HD := Lib.hid hD
  clear hD
  have HK16 := Lib.hid hk16
  have HK26 := Lib.hid hk26
  have HM46 := Lib.hid hm46
  have HP6 := Lib.hid hp6
  have HPL := Lib.hid hplt
  have HL := Lib.hid hl
  have HB6 := Lib.hid hbw6
  have HSZ := Lib.hid hsz6
  have HG := Lib.hid hg
  have HNX := Lib.hid hnx
  have HSQ := Lib.hid hsq
  have HK6 := Lib.hid hk6.out
  clear hk1 hb1 hk2 hb2 hm3 hb3 hm4 hb4 hk5 hb5 h15 h15' h25' h35' h45' hk16 hk26 hm36 hm46 hbw5 hbw6 hsz6 hkb hs6 hp6 hslt hplt hs hp hl hst hk6 hg6 hnx hsq hs5
  go_enter Tryz.func22, Tryz.ntmps22
  go_wp2_with fail
  refine hcs.mono ?_
  rintro e w7 ⟨rfl, hm7, hg7⟩
  have hk17 := HK16.out.grown hg7 (by simp)
  have hk67 := HK6.out.grown hg7 (by simp)
  have hk27 := HK26.out.grown hg7 (by simp)
  have hm47 := HM46.out.heap (hg7.block (g + 3) (by have := HSZ.out; omega) (by simp))
  have hkd : Keep D D w6 w7 := fun b hb hl => ⟨hb, hg7.block b hl (by have := HD.out b hb; have := HG.out; simp; omega)⟩
  have hp7 : MapO PT.group 5 (parC D w7) w7 pv M.pars := HP6.out.keep (fun b hb => hg7.block b (by have := HPL.out b hb; have := HSZ.out; have := HG.out; omega) (by have := HPL.out b hb; have := HG.out; simp; omega)) fun _ _ h => h.keep hkd
  have hcp := copyRP (g + 3) pv M.pars w7 hm47 hp7 (fun e => by have := HPL.out _ e; have := HG.out; omega) HL.out.2
  have d3 : w7.cell? ⟨g + 4, 3, none⟩ = some (.map (some (g + 3))) := hk67.cell rfl
  have d4 : w7.cell? ⟨g, 3, none⟩ = some (.map pv) := hk17.cell rfl
  have HM7 := Lib.hid hm7
  have HK67 := Lib.hid hk67
  have HK27 := Lib.hid hk27
  have HG7 := Lib.hid hg7
  have HSZ7 : Hid (g + 5 ≤ w7.heap.size) := Lib.hid (by have := HSZ.out; have := hg7.size; omega)
  clear hcs hm7 hg7 hk17 hk67 hk27 hm47 hkd hp7 d1 d2 e0 e1
  go_wp2_with fail
  refine hcp.mono ?_
  rintro e w8 ⟨rfl, hm8, hg8⟩
  have hk68 := HK67.out.grown hg8 (by simp)
  have hk28 := HK27.out.grown hg8 (by simp)
  have hld8 := run_loadT_blk _ hk68
  simp only at hld8
  obtain ⟨w9, hst9, hk9, hg9⟩ := putT ⟨nx, sq, M.segs, M.pars⟩ (sv := some (g + 2)) (pv := some (g + 3)) hk28 rfl
  simp only at hst9
  have hsz8 := hg8.size
  have HM9 : Hid (MapR SG.num 6 segC w9 (g + 2) M.segs) := Lib.hid ((HM7.out.keep (hg8.block (g + 2) (by have := HSZ7.out; omega) (by simp)) fun _ _ h => h).keep (hg9.out.block (g + 2) (by have := HSZ7.out; omega) (by simp)) fun _ _ h => h)
  have hg79 : w7.grownBy w9 (some (g + 3)) ∨ True := .inr trivial
  have hkd7 : Keep D D w7 w9 := fun b hb hl => ⟨hb, (hg9.out.block b (by omega) (by have := HD.out b hb; have := HG.out; simp; omega)).trans (hg8.block b hl (by have := HD.out b hb; have := HG.out; simp; omega))⟩
  have HP9 : Hid (MapR PT.group 5 (parC D w9) w9 (g + 3) M.pars) := Lib.hid (hm8.keep (hg9.out.block (g + 3) (by have := HSZ7.out; omega) (by simp)) fun _ _ h => h.keep hkd7)
  have HB9 : Hid (Below w.heap.size w w9) := Lib.hid (by
    rw [HG.out]
    exact (((HB6.out.grown HG7.out (by have := HSZ.out; omega) (fun j hj => by cases hj; omega)).grown hg8 (by have := HSZ7.out; omega) (fun j hj => by cases hj; omega)).grown hg9.out (by have := HSZ7.out; omega) (fun j hj => by cases hj; omega)))
  have HK9 := Lib.hid hk9.out
  clear hcp hm8 hg8 hk68 hk28 hk9 hg9 hg79 hkd7 d3 d4 hsz8
  go_wp2_with fail
  exact clone_ret (M := M) rfl rfl rfl (by rw [← HNX.out, ← HSQ.out] at HK9; exact HK9.out) (by have := HG.out; omega) (by have := HG.out; omega) (by omega) HM9.out HP9.out HB9.out
end Go.Proofs.YthgpdnffahmhjaaGreatDoor.S19

/- Texts put together: DkB. -/
import Derived.Test.YthgpdnffahmhjaaGreatDoorMg2
import Derived.Test.YthgpdnffahmhjaaGreatDoorMg23
set_option linter.unusedSimpArgs false
set_option linter.unusedVariables false
set_option maxRecDepth 100000
namespace Go.Proofs.YthgpdnffahmhjaaGreatDoor.S13
open Go.RowKit Go.Maps Go.Shelf Dk
def minN (ats : Array TypeId) (ty : TypeId) (v u : Value) : Sem Value := Builtin.min_ ats ty #[v, u]
theorem minN_eq (ats : Array TypeId) (ty : TypeId) (v u : Value) : Builtin.min_ ats ty #[v, u] = minN ats ty v u := rfl
theorem run_minN (ats : Array TypeId) (ty : TypeId) (m n : Int) (w : World) : (minN ats ty (.int .i64 m) (.int .i64 n)).run Tryz.prog w = .ok (.int .i64 (min m n)) w := by
  unfold minN Builtin.min_
  by_cases h : n < m
  · have e : min m n = n := by omega
    rw [e]
    simp [Builtin.min2, h]
  · have e : min m n = m := by omega
    rw [e]
    simp [Builtin.min2, h]
def maxN (ats : Array TypeId) (ty : TypeId) (v u : Value) : Sem Value := Builtin.max_ ats ty #[v, u]
theorem maxN_eq (ats : Array TypeId) (ty : TypeId) (v u : Value) : Builtin.max_ ats ty #[v, u] = maxN ats ty v u := rfl
theorem run_maxN (ats : Array TypeId) (ty : TypeId) (m n : Int) (w : World) : (maxN ats ty (.int .i64 m) (.int .i64 n)).run Tryz.prog w = .ok (.int .i64 (max m n)) w := by
  unfold maxN Builtin.max_
  by_cases h : m < n
  · have e : max m n = n := by omega
    rw [e]
    simp [Builtin.max2, h]
  · have e : max m n = m := by omega
    rw [e]
    simp [Builtin.max2, h]
attribute [local go_sem ↓] minN_eq maxN_eq sliceU8_eq
set_option maxHeartbeats 2000000 in
theorem cloneS_any (s : ByteArray) (w : World) (hs : s.size ≤ 281474976710656) : Calls Tryz.prog 37 #[.string s] w fun e w' => e = .returned (.string s) ∧ Below w.heap.size w w' := by
  have hc := show Calls Tryz.prog 69 _ _ _ from AnyPu.stringslite_Clone lyCloneS s w hs
  go_enter Tryz.func37, Tryz.ntmps37
  go_wp2_with (go_at_call 69; refine hc.mono ?_; rintro e w' ⟨rfl, hb⟩)
  go_ret
  exact ⟨rfl, hb⟩
theorem cloneB_any (v : Value) (B : List Nat) (w : World) (hv : IsBytes w v B) (hB : B.length ≤ 140737488355328) :
    Calls Tryz.prog 58 #[v] w fun e w' => ∃ v', e = .returned v' ∧ w'.ownsRow w.heap.size 5 1 v' B.length (u8s B) ∧ Below w.heap.size w w' := by
  obtain ⟨hx, ⟨rfl, rfl⟩ | ⟨a, cap, rfl, _, _, hc⟩⟩ := hv
  · refine (show Calls Tryz.prog 58 _ _ _ from Any.bytes_Clone_nil lyCloneB 0 0 w).mono ?_
    rintro e w' ⟨rfl, rfl⟩
    exact ⟨_, rfl, World.ownsRow_nil _ _ _ _, Below.refl _ _⟩
  · refine (show Calls Tryz.prog 58 _ _ _ from Any.bytes_Clone_at lyCloneB a B.length cap (B.map fun (x : Nat) => (x : Int)) w (by simp) hB (fun i hi => ?_)).mono ?_
    · rw [hc i _ (u8s_get B i hi)]
      simp [List.getD, hi]
    · rintro e w' ⟨v', rfl, h1, _, h2⟩
      refine ⟨v', rfl, ?_, h2⟩
      rw [List.map_map] at h1
      exact h1
set_option maxHeartbeats 2000000 in
theorem clamped_any (n : Int) (w : World) : Calls Tryz.prog 14 #[.int .i64 n] w fun e w' => e = .returned (.int .i64 (clampN n : Nat)) ∧ w' = w := by
  have hmn := fun ats ty W => run_minN ats ty n 4194304 W
  have hmx := fun ats ty W => run_maxN ats ty 0 (min n 4194304) W
  obtain ⟨q, hq⟩ : ∃ q : Int, min n 4194304 = q := ⟨_, rfl⟩
  rw [hq] at hmn hmx
  have hc : max 0 q = (clampN n : Nat) := by unfold clampN; omega
  rw [hc] at hmx
  have HC := Lib.hid hc
  clear hc hq
  go_enter Tryz.func14, Tryz.ntmps14
  go_wp2
  go_ret
  exact ⟨rfl, rfl⟩
theorem okc_all {L : Nm} : (L.all okc = true) ↔ ∀ i, i < L.length → okc (L.getD i 0) = true := by
  rw [List.all_eq_true]
  constructor
  · intro h i hi
    rw [List.getD_eq_getElem?_getD, List.getElem?_eq_getElem hi]
    exact h _ (List.getElem_mem hi)
  · intro h x hx
    obtain ⟨i, hi, rfl⟩ := List.getElem_of_mem hx
    have := h i hi
    rw [List.getD_eq_getElem?_getD, List.getElem?_eq_getElem hi] at this
    exact this
theorem str_at (s : ByteArray) (i : Nat) (hi : i < s.size) (w : World) : (Instr.index 9 (.string s) (.int .i64 (i : Nat))).run Tryz.prog w = .ok (.int .u8 ((s.data.toList.getD i 0).toNat : Nat)) w := by
  rw [run_index_string _ _ _ _ _ Tryz.underlying9]
  have hd : s.data.toList.getD i 0 = s.data[i]'(by simpa using hi) := by
    rw [List.getD_eq_getElem?_getD, Array.getElem?_toList, Array.getElem?_eq_getElem (by simpa using hi)]; rfl
  rw [hd, dif_pos ⟨by omega, by omega⟩]
  rfl
set_option maxHeartbeats 8000000 in
theorem isName_any (s : ByteArray) (w : World) : Calls Tryz.prog 19 #[.string s] w fun e w' => e = .returned (.bool (isNm s.data.toList)) ∧ w' = w := by
  obtain ⟨n, hn⟩ : ∃ n, s.size = n := ⟨_, rfl⟩
  have hL : s.data.toList.length = n := by rw [Array.length_toList]; exact hn
  obtain ⟨L, hLL⟩ : ∃ L, s.data.toList = L := ⟨_, rfl⟩
  have hat := fun i (hi : i < n) (W : World) => str_at s i (by omega) W
  rw [hLL] at hat hL ⊢
  have HAT := Lib.hid hat
  clear hat hLL
  have HL := Lib.hid hL
  clear hL
  by_cases h0 : 1 ≤ n ∧ n ≤ 20
  rotate_left
  · have hno : isNm L = false := by
      unfold isNm
      rw [HL.out]
      cases hd : decide (1 ≤ n) <;> cases hd2 : decide (n ≤ 20) <;> simp at hd hd2 ⊢ <;> omega
    have HNO := Lib.hid hno
    clear hno HL HAT
    rcases (show n = 0 ∨ (1 ≤ n ∧ 21 ≤ n) by omega) with rfl | ⟨h1, h2⟩
    · go_enter Tryz.func19, Tryz.ntmps19
      go_wp2_with fail
      go_ret
      exact ⟨by rw [HNO.out]; rfl, rfl⟩
    · have hh1 : decide ((n : Int) < 1) = false := by simp; omega
      have hh2 : decide ((20 : Int) < n) = true := by simp; omega
      go_enter Tryz.func19, Tryz.ntmps19
      go_wp2_with fail
      go_ret
      exact ⟨by rw [HNO.out]; rfl, rfl⟩
  obtain ⟨h1, h2⟩ := h0
  have hh1 : decide ((n : Int) < 1) = false := by simp; omega
  have hh2 : decide ((20 : Int) < n) = false := by simp; omega
  have hno : ∀ i, i < n → okc (L.getD i 0) = false → isNm L = false := fun i hi hb => by
    cases ha : isNm L
    · rfl
    · simp only [isNm, Bool.and_eq_true] at ha
      have := okc_all.1 ha.2 i (by rw [HL.out]; exact hi)
      rw [hb] at this; cases this
  have hyes : (∀ i, i < n → okc (L.getD i 0) = true) → isNm L = true := fun h => by
    simp only [isNm, Bool.and_eq_true, decide_eq_true_eq]
    rw [HL.out]
    exact ⟨⟨h1, h2⟩, okc_all.2 (by rw [HL.out]; exact h)⟩
  have HNO := Lib.hid hno
  have HYES := Lib.hid hyes
  clear hno hyes
  go_enter Tryz.func19, Tryz.ntmps19
  go_wp2_with fail
  clear hh1 hh2
  go_loopw [15] (fun v wr => ∃ i : Nat, i ≤ n ∧ v = .int .i64 i ∧ (∀ j, j < i → okc (L.getD j 0) = true) ∧ wr = w) (fun v _ => n - (intOf v).toNat)
  case atStart => exact ⟨0, by omega, rfl, by simp, rfl⟩
  case round =>
    obtain ⟨i, hi, rfl, hok, hwr⟩ := hrel
    have HOK := Lib.hid hok
    have HWR := Lib.hid hwr
    clear hok hwr
    by_cases hlt : i < n
    · have hx := HAT.out i hlt
      have hv : (L.getD i 0).toNat < 256 := (L.getD i 0).toNat_lt
      obtain ⟨x, hxx⟩ : ∃ x, (L.getD i 0).toNat = x := ⟨_, rfl⟩
      have hokx : okc (L.getD i 0) = ((decide (97 ≤ x) && decide (x ≤ 122)) || (decide (65 ≤ x) && decide (x ≤ 90)) || (decide (48 ≤ x) && decide (x ≤ 57)) || decide (x = 46)) := by unfold okc; rw [hxx]
      rw [hxx] at hx hv
      clear hxx
      have HKX := Lib.hid hokx
      clear hokx
      go_wp2_with fail
      all_goals first
        | (go_ret
           have hk : okc (L.getD i 0) = false := by
             rw [HKX.out]
             simp only [Bool.or_eq_false_iff, Bool.and_eq_false_iff, decide_eq_false_iff_not]
             try simp only [decide_eq_true_eq, decide_eq_false_iff_not, beq_iff_eq, Bool.not_eq_true, beq_eq_false_iff_ne, ne_eq] at *
             omega
           exact ⟨by rw [HNO.out i hlt hk]; rfl, HWR.out⟩)
        | (have hk : okc (L.getD i 0) = true := by
             rw [HKX.out]
             simp only [Bool.or_eq_true, Bool.and_eq_true, decide_eq_true_eq]
             try simp only [decide_eq_true_eq, decide_eq_false_iff_not, beq_iff_eq, Bool.not_eq_true, beq_eq_false_iff_ne, ne_eq] at *
             omega
           exact ⟨⟨i + 1, by omega, by go_num, fun j hj => by
             by_cases e : j = i
             · rw [e]; exact hk
             · exact HOK.out j (by omega), HWR.out⟩, by simp [intOf]; omega⟩)
    · obtain rfl : i = n := by omega
      go_wp2_with fail
      go_ret
      exact ⟨by rw [HYES.out HOK.out]; rfl, HWR.out⟩
def IsFile (w : World) (b : Nat) (v : Value) (f : List Nat × Nat) : Prop :=
  Blk w b 64 [v, .int .i64 (f.2 : Nat)] ∧ w.ownsRow 0 5 1 v f.1.length (u8s f.1) ∧ (∀ x ∈ f.1, x < 256)
theorem IsFile.keep {w w' : World} {b : Nat} {v : Value} {f : List Nat × Nat} (h : IsFile w b v f) (h1 : w'.heap[b]? = w.heap[b]?) (h2 : ∀ g, v.ownBlock = some g → w'.heap[g]? = w.heap[g]?) : IsFile w' b v f := by
  obtain ⟨hb, ⟨hl, ho⟩, hx⟩ := h
  refine ⟨h1.trans hb, ⟨hl, ?_⟩, hx⟩
  obtain ho | ⟨g, cap, cur, hv, hg, hh, r⟩ := ho
  · exact .inl ho
  · exact .inr ⟨g, cap, cur, hv, hg, (h2 g (by rw [hv]; rfl)).trans hh, r⟩
theorem IsFile.lt {w : World} {b : Nat} {v : Value} {f : List Nat × Nat} (h : IsFile w b v f) : b < w.heap.size ∧ ∀ g, v.ownBlock = some g → g < w.heap.size :=
  ⟨h.1.lt, fun g hg => (h.2.1.lt g hg).2⟩
theorem IsFile.bytes {w : World} {b : Nat} {v : Value} {f : List Nat × Nat} (h : IsFile w b v f) : IsBytes w v f.1 := by
  obtain ⟨sp, cap, rfl, _, _⟩ := ownsRow_slice h.2.1
  exact isBytes_own h.2.2 h.2.1
def TornPost (f : List Nat × Nat) (tail : Int) (w : World) (e : Ending) (w' : World) : Prop :=
  ∃ b' v', e = .returned (.pointer (some ⟨b', 0, none⟩)) ∧ w.heap.size ≤ b' ∧ Hid (IsFile w' b' v' (tornF f tail)) ∧ (∀ g, v'.ownBlock = some g → w.heap.size ≤ g) ∧ Hid (Below w.heap.size w w')
set_option maxHeartbeats 8000000 in
theorem torn_any (b : Nat) (v : Value) (f : List Nat × Nat) (tail : Int) (w : World) (h : IsFile w b v f) (hf : f.2 ≤ f.1.length) (hl : f.1.length ≤ 4194304) :
    Calls Tryz.prog 32 #[.pointer (some ⟨b, 0, none⟩), .int .i64 tail] w (TornPost f tail w) := by
  have hbts := h.bytes
  obtain ⟨X, s⟩ := f
  simp only at hf hl hbts
  obtain ⟨a, cap, rfl, hcap, _⟩ := hbts.slice
  have c0 : w.cell? ⟨b, 0, none⟩ = some (.slice a X.length cap) := h.1.cell rfl
  have c1 : w.cell? ⟨b, 1, none⟩ = some (.int .i64 (s : Nat)) := h.1.cell rfl
  obtain ⟨N, hN⟩ : ∃ N, X.length = N := ⟨_, rfl⟩
  obtain ⟨D, hD⟩ : ∃ D, N - s = D := ⟨_, rfl⟩
  rw [hN] at c0 hf hl
  have hsub : (N : Int) - (s : Int) = (D : Nat) := by omega
  have hmn := fun ats ty W => run_minN ats ty tail (D : Nat) W
  have hmx := fun ats ty W => run_maxN ats ty 0 (min tail (D : Nat)) W
  obtain ⟨q, hq⟩ : ∃ q : Int, min tail (D : Nat) = q := ⟨_, rfl⟩
  obtain ⟨m, hm⟩ : ∃ m : Nat, (max 0 q).toNat = m := ⟨_, rfl⟩
  rw [hq] at hmn hmx
  have hmq : max 0 q = (m : Nat) := by omega
  rw [hmq] at hmx
  have hmD : m ≤ D := by omega
  have hT : tornF (X, s) tail = (X.take (s + m), s + m) := by
    unfold tornF
    simp only [hN, hD, hq, hm]
  have hsm : s + m ≤ X.length := by omega
  obtain ⟨z, hz⟩ : ∃ z, s + m = z := ⟨_, rfl⟩
  have hzI : (s : Int) + (m : Int) = (z : Nat) := by omega
  rw [hz] at hT hsm
  have hw63 : z ≤ 4194304 := by omega
  obtain ⟨a1, cp1, hs1, hi1⟩ := run_upto hbts z hsm
  rw [hN] at hs1
  have hzl : (X.take z).length = z := by rw [List.length_take]; omega
  have hx := h.2.2
  have HX := Lib.hid hx
  have HI := Lib.hid hi1
  have HT := Lib.hid hT
  have HZL := Lib.hid hzl
  have HSUB := Lib.hid hsub
  clear hx hi1 hT hzl hq hm hmq hz hN hD hbts h hsm
  go_enter Tryz.func32, Tryz.ntmps32
  go_wp2_with fail
  go_quiet (fail)
  have HB1 : Hid (Below w.heap.size w (w.drewN nq)) := Lib.hid (bel_drewN (Below.refl _ _) nq)
  have hcl := cloneB_any (.slice a1 z cp1) (X.take z) (w.drewN nq) (HI.out.below HB1.out) (by rw [HZL.out]; omega)
  rw [HZL.out] at hcl
  go_wp2_with fail
  refine hcl.mono ?_
  rintro e w2 ⟨v2, rfl, ho2, hb2⟩
  obtain ⟨sp2, cp2, rfl, _, _⟩ := ownsRow_slice ho2
  have HO2 := Lib.hid ho2
  have HB2 := Lib.hid hb2
  clear ho2 hb2 hcl
  go_wp2_with fail
  go_ret
  have hsz := HB2.out.size
  have hk := Blk.new w2 64 [.slice sp2 z cp2, .int .i64 (z : Nat)]
  refine ⟨w2.heap.size, .slice sp2 z cp2, rfl, hsz, Lib.hid ?_, fun g hg => (HO2.out.lt g hg).1, Lib.hid ?_⟩
  · rw [HT.out]
    exact ⟨hk, by rw [HZL.out]; exact own_base (HO2.out.alloc _) (Nat.zero_le _), fun x hx => HX.out x (List.mem_of_mem_take hx)⟩
  · exact (HB1.out.trans HB2.out).alloc hsz _
end Go.Proofs.YthgpdnffahmhjaaGreatDoor.S13

/- Texts put together: DkM, DkN, DkO. -/
import Derived.Test.YthgpdnffahmhjaaGreatDoorMg28
import Derived.Deep.RegionHeld3
set_option linter.unusedSimpArgs false
set_option linter.unusedVariables false
set_option maxRecDepth 100000
namespace Go.Proofs.YthgpdnffahmhjaaGreatDoor.S13
open Go.RowKit Go.Maps Go.Shelf Dk
def sliceH (x : Value) (lo hi mx : Option Value) : Sem Value := Instr.sliceAt 50 x lo hi mx
theorem sliceH_eq (x : Value) (lo hi mx : Option Value) : Instr.sliceAt 50 x lo hi mx = sliceH x lo hi mx := rfl
theorem elem_H : Tryz.prog.elem 50 = 66 := by kernel_rfl
theorem und_H : Tryz.prog.underlying 50 = some (.slice (Tryz.prog.elem 50)) := by rw [elem_H]; exact Tryz.underlying50
theorem run_sliceH (W : World) (a : Option Addr) (len cap n : Nat) (hn : n ≤ cap) (hm : cap ≤ maxLen) (ha : ∀ x, a = some x → x.spot = none) : (sliceH (.slice a len cap) none (some (.int .i64 n)) none).run Tryz.prog W = .ok (.slice a n cap) W := by
  unfold sliceH
  rw [run_sliceAt_slice _ _ _ _ _ _ und_H, run_slice_h _ _ _ _ _ und_H _ _ (by omega) (by omega), elem_H, Tryz.sizeOf66]
  have e : (Option.map (fun x : Addr => x.add 0) a) = a := by
    cases a with
    | none => rfl
    | some x =>
      obtain ⟨b, o, s⟩ := x
      have := ha _ rfl
      simp only at this
      subst this
      simp [Addr.add]
  simp only [Result.andThen, sliced, Nat.zero_mul, Nat.sub_zero, e, Int.toNat_natCast]
  split <;> rfl
def storeH (p v : Value) : Sem Unit := Instr.storeAt 66 p v
theorem storeH_eq (p v : Value) : Instr.storeAt 66 p v = storeH p v := rfl
theorem run_storeH {w : World} {g : Nat} {t : TypeId} {cs : List Value} {a b c : Value} (h : Blk w g t cs) (ho : cs.length = 3) (h1 : ∀ u ∈ ([a, b, c] : List Value), u.oneCell' = true) :
    (storeH (.pointer (some ⟨g, 0, none⟩)) (.agg #[a, b, c])).run Tryz.prog w = .ok () (w.setRow g #[a, b, c]) := by
  simp only [storeH, Instr.storeAt, Instr.sureAddr, storeVar, Sem.run_bind, Sem.run_pure, Result.andThen_ok, Tryz.sizeOf66]
  rw [if_neg (by simp [Value.cells])]
  have := run_storeCells_at (P := Tryz.prog) g 0 t [a, b, c] 0 cs.toArray w h (by simp [ho]) h1
  have e : cs.drop 3 = [] := List.drop_of_length_le (by omega)
  simpa [Value.cells, e] using this
theorem chgC_length (β : Nat → Nat) (c : Chg) : (chgC β c).length = 3 := rfl
theorem chgs_at (β : Nat → Nat) : ∀ (C : List Chg) (i t : Nat) (c : Chg), C[i]? = some c → t < 3 → (chgs β C)[i * 3 + t]? = (chgC β c)[t]?
  | [], i, t, c, h, _ => by simp at h
  | a :: r, 0, t, c, h, ht => by
    simp at h
    subst h
    have : chgs β (a :: r) = chgC β a ++ chgs β r := by simp [chgs]
    rw [this, Nat.zero_mul, Nat.zero_add, List.getElem?_append_left (by rw [chgC_length]; exact ht)]
  | a :: r, i + 1, t, c, h, ht => by
    have e : chgs β (a :: r) = chgC β a ++ chgs β r := by simp [chgs]
    rw [e, List.getElem?_append_right (by rw [chgC_length]; omega), chgC_length, show (i + 1) * 3 + t - 3 = i * 3 + t by omega]
    exact chgs_at β r i t c (by simpa using h) ht
attribute [local go_sem ↓] loadH_eq storeH_eq sliceH_eq
set_option maxHeartbeats 16000000 in
theorem after_any (l : Lay) (S : St) (k : Nat) (w : World) (h : IsFS w l S) (hk : k ≤ S.pend.length) (hc : S.calls ≤ 1099511627776) :
    Calls Tryz.prog 30 #[fsP l, .int .i64 k] w fun e w' => ∃ b, e = .returned (.map (some b)) ∧ w.heap.size ≤ b ∧ IsDir w' (some b) l.β (S.after k) ∧ Below w.heap.size w w' := by
  obtain ⟨wt, _, _, _, _, c2, c3, _⟩ := h.cells
  have hpl := h.lt _ (.inl rfl)
  have hmm := @run_makeMap Tryz.prog
  obtain ⟨w1, hw1⟩ : ∃ w1, w.alloc (.map #[] 0) = w1 := ⟨_, rfl⟩
  have hb1 : Below w.heap.size w w1 := by rw [← hw1]; exact (Below.refl _ _).alloc (Nat.le_refl _) _
  have hd1 : IsDir w1 (some w.heap.size) l.β [] := by rw [← hw1]; exact IsDir.made w _
  have h1 := h.below hb1
  have hlast : l.lv ≠ some w.heap.size := fun e => by have := h.lt _ (.inr (.inr (.inl e))); omega
  have hcp := copyM_any w.heap.size l.lv l.β S.last w1 hd1 h1.last hlast (by have := h.ok.len 0 (Nat.zero_le _); simp [St.after] at this; omega)
  have hpv := h.pend
  obtain ⟨sp, cap, hpe, hcap, hmax⟩ := ownsRow_slice hpv
  rw [hpe] at c3 hpv
  have hspot : ∀ x, sp = some x → x.spot = none := fun x hx => by
    obtain ⟨_, ⟨he, _⟩ | ⟨g, cap', cur, hv, _⟩⟩ := hpv
    · simp at he; rw [he.1] at hx; cases hx
    · simp at hv; rw [hv.1] at hx; cases hx; rfl
  have hsl := fun W => run_sliceH W sp S.pend.length cap k (by omega) hmax hspot
  have d2 : w1.cell? ⟨l.p, 2, none⟩ = some (.map l.lv) := (hb1.cell (p := ⟨l.p, 2, none⟩) hpl).trans c2
  have hkM : k ≤ 1099511627776 := by have := h.ok.names; omega
  have hrow : 0 < k → ∃ g, sp = some ⟨g, 0, none⟩ ∧ g < w.heap.size ∧ ∀ i, i < k → ∀ c, S.pend[i]? = some c → w.cell? ⟨g, i * 3, none⟩ = some (.string ⟨c.1.toArray⟩) ∧ w.cell? ⟨g, i * 3 + 1, none⟩ = some (.string ⟨c.2.1.toArray⟩) ∧ w.cell? ⟨g, i * 3 + 2, none⟩ = some (ptrO (c.2.2.map l.β)) := fun h0 => by
    obtain ⟨hl, ⟨he, h00⟩ | ⟨g, cap', cur, hv, _, hh, hn, _, hs, ht⟩⟩ := hpv
    · omega
    · simp at hv
      refine ⟨g, hv.1, (Array.getElem?_eq_some_iff.1 hh).1, fun i hi c hc' => ?_⟩
      have key : ∀ t u, t < 3 → (chgC l.β c)[t]? = some u → w.cell? ⟨g, i * 3 + t, none⟩ = some u := fun t u ht' hu => by
        have h2 := chgs_at l.β S.pend i t c hc' ht'
        rw [hu, ← ht, List.getElem?_take_of_lt (by omega)] at h2
        simp [World.cell?, hh]
        simpa using h2
      exact ⟨key 0 _ (by omega) rfl, key 1 _ (by omega) rfl, key 2 _ (by omega) rfl⟩
  have HROW := Lib.hid hrow
  have HLEN := Lib.hid h.ok.len
  have HB1 := Lib.hid hb1
  have HK := Lib.hid hk
  have HNM := Lib.hid h.ok.short
  clear h h1 hd1 hlast hrow hpv hpe hb1 c2 hk
  go_enter Tryz.func30, Tryz.ntmps30
  go_wp2_with fail
  refine hcp.mono ?_
  rintro e w2 ⟨rfl, hd2, hg2⟩
  have hb2 : Below w.heap.size w w2 := HB1.out.grown hg2 HB1.out.size (fun j hj => by cases hj; exact Nat.le_refl _)
  have d3 : w2.cell? ⟨l.p, 3, none⟩ = some (.slice sp S.pend.length cap) := (hb2.cell (p := ⟨l.p, 3, none⟩) hpl).trans c3
  have HD2 := Lib.hid hd2
  have HB2 := Lib.hid hb2
  clear hcp hd2 hg2 hb2 hw1 d2 c3 HB1
  go_wp2_with fail
  go_loopw [22] (fun v wr => ∃ i : Nat, i ≤ k ∧ v = .int .i64 i ∧ IsDir wr (some w.heap.size) l.β (S.after i) ∧ Below w.heap.size w wr) (fun v _ => k - (intOf v).toNat)
  case atStart => exact ⟨0, by omega, rfl, by simpa [St.after] using HD2.out, HB2.out⟩
  case round =>
    obtain ⟨i, hi, rfl, hd, hb⟩ := hrel
    have HD := Lib.hid hd
    have HB := Lib.hid hb
    clear hd hb HD2 HB2 d3
    by_cases hlt : i < k
    · obtain ⟨g, rfl, hgl, hcells⟩ := HROW.out (by omega)
      have hip : i < S.pend.length := by have := HK.out; omega
      obtain ⟨c, hcc⟩ : ∃ c, S.pend[i]? = some c := ⟨_, List.getElem?_eq_getElem hip⟩
      obtain ⟨a0, a1, a2⟩ := hcells i hlt c hcc
      have hcl := fun o => HB.out.cell (p := ⟨g, o, none⟩) hgl
      rw [← hcl] at a0 a1 a2
      have hld := run_loadH a0 a1 a2
      have hmem := List.mem_of_getElem? hcc
      have hnm := HNM.out c hmem
      have hone : ∀ u ∈ ([.string ⟨c.1.toArray⟩, .string ⟨c.2.1.toArray⟩, ptrO (c.2.2.map l.β)] : List Value), u.oneCell' = true := one3 rfl
      have hal := Blk.new wr 66 [.string ⟨#[]⟩, .string ⟨#[]⟩, .pointer none]
      have hst := run_storeH hal rfl hone
      obtain ⟨w3, hw3⟩ : ∃ w3, (wr.alloc (.cells #[.string ⟨#[]⟩, .string ⟨#[]⟩, .pointer none] 66)).setRow wr.heap.size #[.string ⟨c.1.toArray⟩, .string ⟨c.2.1.toArray⟩, ptrO (c.2.2.map l.β)] = w3 := ⟨_, rfl⟩
      have hk3 : Blk w3 wr.heap.size 66 [.string ⟨c.1.toArray⟩, .string ⟨c.2.1.toArray⟩, ptrO (c.2.2.map l.β)] := by rw [← hw3]; exact hal.setRow [.string ⟨c.1.toArray⟩, .string ⟨c.2.1.toArray⟩, ptrO (c.2.2.map l.β)]
      have hb3 : Below wr.heap.size wr w3 := by
        rw [← hw3]
        exact ((Below.refl _ wr).alloc (Nat.le_refl _) _).trans ⟨rfl, rfl, rfl, by simp, fun k hk => setRow_other _ _ _ _ (by omega)⟩
      rw [show (List.toArray [Value.string ⟨#[]⟩, Value.string ⟨#[]⟩, Value.pointer none]) = #[.string ⟨#[]⟩, .string ⟨#[]⟩, .pointer none] from rfl] at hst
      rw [hw3] at hst
      have hld3 := run_loadH (hk3.cell (o := 0) rfl) (hk3.cell (o := 1) rfl) (hk3.cell (o := 2) rfl)
      have hd3 : IsDir w3 (some w.heap.size) l.β (S.after i) := HD.out.keep fun b e => hb3.block b (HD.out.lt b e)
      have hap := apply_any w.heap.size l.β (S.after i) ⟨c.1.toArray⟩ ⟨c.2.1.toArray⟩ c.2.2 w3 hd3 (by have := HLEN.out i (by have := HK.out; omega); omega) (by have := hnm.1; simp only [ByteArray.size, List.size_toArray]; unfold maxLen; omega) (by have := hnm.2; simp only [ByteArray.size, List.size_toArray]; unfold maxLen; omega)
      unfold chgV at hap
      have haf : app1 (S.after i) (c.1, c.2.1, c.2.2) = S.after (i + 1) := by
        unfold St.after
        rw [List.take_add_one, hcc]
        simp
      change Calls _ _ _ _ (fun e w' => e = _ ∧ IsDir w' _ _ (app1 (S.after i) (c.1, c.2.1, c.2.2)) ∧ _) at hap
      rw [haf] at hap
      have HB3 := Lib.hid hb3
      clear hcl hcells a0 a1 a2 hnm hone hal hk3 hb3 hd3 haf hmem
      generalize Value.agg #[.string ⟨c.1.toArray⟩, .string ⟨c.2.1.toArray⟩, ptrO (c.2.2.map l.β)] = V at *
      go_wp2_with fail
      refine hap.mono ?_
      rintro e w4 ⟨rfl, hd4, hg4⟩
      have HD4 := Lib.hid hd4
      have HB4 : Hid (Below w.heap.size w w4) := Lib.hid ((HB.out.trans (HB3.out.mono HB.out.size)).grown hg4 (by have := HB.out.size; have := HB3.out.size; omega) (fun j hj => by cases hj; exact Nat.le_refl _))
      clear hap hd4 hg4 hst hld hld3 hw3
      go_wp2_with fail
      go_roundw
      case rel => exact ⟨i + 1, by omega, by go_num, HD4.out, HB4.out⟩
      case measure => simp [intOf]; omega
    · obtain rfl : i = k := by omega
      go_wp2_with fail
      go_ret
      exact ⟨_, rfl, Nat.le_refl _, HD.out, HB.out⟩
end Go.Proofs.YthgpdnffahmhjaaGreatDoor.S13
namespace Go.Proofs.YthgpdnffahmhjaaGreatDoor.S13
open Go.RowKit Go.Maps Go.Shelf Dk
def lay (L : Dir) (N k : Nat) : Dir := L.mapIdx fun j p => (p.1, if j < k then N + j else p.2)
theorem lay_0 (L : Dir) (N : Nat) : lay L N 0 = L := by
  unfold lay
  apply List.ext_getElem?
  intro i
  rw [List.getElem?_mapIdx]
  cases L[i]? <;> simp
theorem lay_length (L : Dir) (N k : Nat) : (lay L N k).length = L.length := by simp [lay]
theorem lay_names (L : Dir) (N k : Nat) : (lay L N k).map (·.1) = L.map (·.1) := by
  apply List.ext_getElem?
  intro i
  simp only [lay, List.getElem?_map, List.getElem?_mapIdx]
  cases L[i]? <;> simp
theorem srt_iff (L : Dir) : Srt L ↔ (L.map (·.1)).Pairwise fun a b => bytesBefore a b = true := by
  unfold Srt
  rw [List.pairwise_map]
theorem lay_srt {L : Dir} (N k : Nat) (h : Srt L) : Srt (lay L N k) := by rw [srt_iff, lay_names, ← srt_iff]; exact h
theorem lay_at {L : Dir} {N k j : Nat} {p : Nm × Nat} (h : L[j]? = some p) : (lay L N k)[j]? = some (p.1, if j < k then N + j else p.2) := by
  simp [lay, List.getElem?_mapIdx, h]
theorem dput_set : ∀ (L : Dir) (k : Nat) (n : Nm) (o i : Nat), Srt L → L[k]? = some (n, o) → dput L n i = L.set k (n, i)
  | [], _, _, _, _, _, h => by simp at h
  | a :: r, 0, n, o, i, hs, h => by
    simp at h
    subst h
    have hne := srt_ne hs
    obtain ⟨h1, h2⟩ := List.pairwise_cons.1 hne
    obtain ⟨b1, _⟩ := List.pairwise_cons.1 hs
    have e : ddel ((n, o) :: r) n = r := by
      unfold ddel
      rw [List.filter_cons]
      simp only [beq_self_eq_true, Bool.not_true, Bool.false_eq_true, if_false]
      exact List.filter_eq_self.2 fun p hp => by have := h1 p hp; simp only [Bool.not_eq_true', beq_eq_false_iff_ne]; exact fun e => this e.symm
    unfold dput
    rw [e, List.set_cons_zero]
    cases r with
    | nil => rfl
    | cons c q =>
      unfold dins
      rw [if_pos (b1 c (by simp))]
  | a :: r, k + 1, n, o, i, hs, h => by
    have hm : (n, o) ∈ r := List.mem_of_getElem? (by simpa using h)
    have hne := srt_ne hs
    obtain ⟨h1, _⟩ := List.pairwise_cons.1 hne
    obtain ⟨b1, b2⟩ := List.pairwise_cons.1 hs
    have hb := b1 _ hm
    have e : ddel (a :: r) n = a :: ddel r n := by
      unfold ddel
      rw [List.filter_cons]
      have : (a.1 == n) = false := by simpa using h1 _ hm
      rw [this]; rfl
    have ih := dput_set r k n o i b2 (by simpa using h)
    unfold dput at ih ⊢
    rw [e, List.set_cons_succ, ← ih]
    have hnb : ¬ bytesBefore n a.1 = true := fun hx => by
      have x1 := (before_lt _ _).1 hb
      have x2 := (before_lt _ _).1 hx
      exact absurd (List.lt_trans x1 x2) (List.lt_irrefl _)
    show (if bytesBefore n a.1 = true then _ else _) = _
    rw [if_neg hnb]
theorem lay_step {L : Dir} (hs : Srt L) (N k : Nat) {p : Nm × Nat} (h : L[k]? = some p) : dput (lay L N k) p.1 (N + k) = lay L N (k + 1) := by
  have h1 := lay_at (N := N) (k := k) h
  rw [if_neg (Nat.lt_irrefl _)] at h1
  rw [dput_set _ k p.1 _ (N + k) (lay_srt N k hs) h1]
  apply List.ext_getElem?
  intro i
  rw [List.getElem?_set]
  by_cases hi : k = i
  · subst hi
    have hl : k < (lay L N k).length := by rw [lay_length]; exact (List.getElem?_eq_some_iff.1 h).1
    rw [if_pos rfl, if_pos hl, lay_at h, if_pos (by omega)]
  · rw [if_neg hi]
    simp only [lay, List.getElem?_mapIdx]
    cases L[i]? with
    | none => rfl
    | some q =>
      simp only [Option.map_some, Option.some.injEq, Prod.mk.injEq, true_and]
      by_cases h1 : i < k
      · rw [if_pos h1, if_pos (by omega)]
      · rw [if_neg h1, if_neg (by omega)]
def fresh (L : Dir) : Dir := L.mapIdx fun k p => (p.1, k)
theorem dD_fresh (L : Dir) (N : Nat) (β bf : Nat → Nat) (h : ∀ j, j < L.length → β (N + j) = bf j) : dD β (lay L N L.length) = dD bf (fresh L) := by
  unfold dD lay fresh
  congr 1
  apply List.ext_getElem?
  intro i
  simp only [List.getElem?_map, List.getElem?_mapIdx]
  cases hi : L[i]? with
  | none => rfl
  | some q =>
    have hl := (List.getElem?_eq_some_iff.1 hi).1
    simp only [Option.map_some, ent, if_pos hl, h i hl]
theorem fresh_length (L : Dir) : (fresh L).length = L.length := by simp [fresh]
theorem fresh_mem {L : Dir} : ∀ p ∈ fresh L, p.2 < L.length := by
  intro p hp
  obtain ⟨i, hi, rfl⟩ := List.getElem_of_mem hp
  simp [fresh] at hi ⊢
  exact hi
theorem torn_ok {f : List Nat × Nat} (tail : Int) (h : (∀ y ∈ f.1, y < 256) ∧ f.2 ≤ f.1.length ∧ f.1.length ≤ 4194304) :
    (∀ y ∈ (tornF f tail).1, y < 256) ∧ (tornF f tail).2 ≤ (tornF f tail).1.length ∧ (tornF f tail).1.length ≤ 4194304 := by
  obtain ⟨X, s⟩ := f
  obtain ⟨h1, h2, h3⟩ := h
  simp only at h1 h2 h3
  unfold tornF
  simp only
  obtain ⟨m, hm⟩ : ∃ m, (max 0 (min tail (X.length - s : Nat))).toNat = m := ⟨_, rfl⟩
  rw [hm]
  have : m ≤ X.length - s := by omega
  refine ⟨fun y hy => h1 y (List.mem_of_mem_take hy), ?_, ?_⟩
  · rw [List.length_take]; omega
  · rw [List.length_take]; omega
theorem fresh_names (L : Dir) : (fresh L).map (·.1) = L.map (·.1) := by
  apply List.ext_getElem?
  intro i
  simp only [fresh, List.getElem?_map, List.getElem?_mapIdx]
  cases L[i]? <;> simp
theorem after_names {S : St} (h : S.Ok) (k : Nat) : ∀ p ∈ S.after k, p.1.length ≤ 100000 := by
  have : ∀ (C : List Chg) (D : Dir), (∀ p ∈ D, p.1.length ≤ 100000) → (∀ c ∈ C, c.2.1.length ≤ 100000) → ∀ p ∈ C.foldl app1 D, p.1.length ≤ 100000 := by
    intro C
    induction C with
    | nil => intro D hD _; exact hD
    | cons c r ih => intro D hD hC; exact ih _ (app1_names hD (hC c (by simp))) (fun d hd => hC d (by simp [hd]))
  exact this _ _ h.nl.2 (fun c hc => (h.short c (List.mem_of_mem_take hc)).2)
theorem crash_ok {S : St} (h : S.Ok) (n : Int) (tails : List Int) : (crash S n tails).Ok := by
  have hk : crashN S n ≤ S.pend.length := by unfold crashN; omega
  have hl := h.len _ hk
  have hF : (crash S n tails).F.length = (S.after (crashN S n)).length := by simp [crash]
  have hnm : ∀ p ∈ fresh (S.after (crashN S n)), p.1.length ≤ 100000 := fun p hp => by
    have h1 : p.1 ∈ (fresh (S.after (crashN S n))).map (·.1) := List.mem_map.2 ⟨p, hp, rfl⟩
    rw [fresh_names] at h1
    obtain ⟨q, hq, e⟩ := List.mem_map.1 h1
    rw [← e]
    exact after_names h _ q hq
  refine ⟨h.room, ?_, ?_, ?_, ?_, rfl, ?_, ?_, ?_, ⟨hnm, hnm⟩⟩
  · intro x hx
    obtain ⟨i, hi, rfl⟩ := List.getElem_of_mem hx
    simp only [crash, List.getElem_mapIdx]
    exact torn_ok _ (file_ok h _)
  · intro p hp; rw [hF]; exact fresh_mem p hp
  · intro p hp; rw [hF]; exact fresh_mem p hp
  · intro c hc; simp [crash] at hc
  · intro k hk
    simp [crash] at hk
    subst hk
    simp [crash, St.after]
    simpa [St.after] using hl
  · simp [crash]
  · intro c hc; simp [crash] at hc
end Go.Proofs.YthgpdnffahmhjaaGreatDoor.S13
namespace Go.Proofs.YthgpdnffahmhjaaGreatDoor.S13
open Go.RowKit Go.Maps Go.Shelf Dk
structure TornS (w wr : World) (k : Nat) (bf : Nat → Nat) (vf : Nat → Value) (tf : Nat → List Nat × Nat) : Prop where
  file : ∀ j, j < k → IsFile wr (bf j) (vf j) (tf j)
  new : ∀ j, j < k → w.heap.size ≤ bf j ∧ ∀ g, (vf j).ownBlock = some g → w.heap.size ≤ g
  inj : ∀ i j, i < k → j < k → bf i = bf j → i = j
  apart : ∀ i j g, i < k → j < k → (vf i).ownBlock = some g → (vf j).ownBlock = some g → i = j
theorem TornS.below {w wr w' : World} {k : Nat} {bf : Nat → Nat} {vf : Nat → Value} {tf : Nat → List Nat × Nat} (h : TornS w wr k bf vf tf) (hb : Below wr.heap.size wr w') : TornS w w' k bf vf tf :=
  ⟨fun j hj => (h.file j hj).keep (hb.block _ (h.file j hj).lt.1) (fun g hg => hb.block g ((h.file j hj).lt.2 g hg)), h.new, h.inj, h.apart⟩
theorem TornS.map {w wr w' : World} {k b : Nat} {bf : Nat → Nat} {vf : Nat → Value} {tf : Nat → List Nat × Nat} {β : Nat → Nat} {L : Dir} (h : TornS w wr k bf vf tf) (hd : IsDir wr (some b) β L) (hg : wr.grownBy w' (some b)) : TornS w w' k bf vf tf :=
  ⟨fun j hj => (h.file j hj).keep (hg.block _ (h.file j hj).lt.1 (fun e => blk_map_ne (h.file j hj).1 hd (by simpa using e))) (fun g hgg => hg.block g ((h.file j hj).lt.2 g hgg) (fun e => own_map_ne (h.file j hj).2.1 hd (by rw [hgg]; exact e))), h.new, h.inj, h.apart⟩
theorem TornS.step {w wr w' : World} {k b' : Nat} {v' : Value} {bf : Nat → Nat} {vf : Nat → Value} {tf : Nat → List Nat × Nat} (h : TornS w wr k bf vf tf) (hw : w.heap.size ≤ wr.heap.size) (hb : Below wr.heap.size wr w') (hf : IsFile w' b' v' (tf k)) (h1 : wr.heap.size ≤ b') (h2 : ∀ g, v'.ownBlock = some g → wr.heap.size ≤ g) :
    TornS w w' (k + 1) (upd bf k b') (upd vf k v') tf := by
  have hB := h.below hb
  refine ⟨fun j hj => ?_, fun j hj => ?_, fun i j hi hj e => ?_, fun i j g hi hj gi gj => ?_⟩
  · by_cases e : j = k
    · rw [e, upd_same, upd_same]; exact hf
    · rw [upd_ne _ _ e, upd_ne _ _ e]; exact hB.file j (by omega)
  · by_cases e : j = k
    · rw [e, upd_same, upd_same]; exact ⟨by omega, fun g hg => by have := h2 g hg; omega⟩
    · rw [upd_ne _ _ e, upd_ne _ _ e]; exact h.new j (by omega)
  · have hlt : ∀ j, j < k → bf j < wr.heap.size := fun j hj => (h.file j hj).lt.1
    by_cases ei : i = k <;> by_cases ej : j = k
    · rw [ei, ej]
    · rw [ei, upd_same, upd_ne _ _ ej] at e; have := hlt j (by omega); omega
    · rw [ej, upd_same, upd_ne _ _ ei] at e; have := hlt i (by omega); omega
    · rw [upd_ne _ _ ei, upd_ne _ _ ej] at e; exact h.inj i j (by omega) (by omega) e
  · have hlt : ∀ j, j < k → ∀ g, (vf j).ownBlock = some g → g < wr.heap.size := fun j hj g hg => (h.file j hj).lt.2 g hg
    by_cases ei : i = k <;> by_cases ej : j = k
    · rw [ei, ej]
    · rw [ei, upd_same] at gi; rw [upd_ne _ _ ej] at gj
      have := hlt j (by omega) g gj; have := h2 g gi; omega
    · rw [ej, upd_same] at gj; rw [upd_ne _ _ ei] at gi
      have := hlt i (by omega) g gi; have := h2 g gj; omega
    · rw [upd_ne _ _ ei] at gi; rw [upd_ne _ _ ej] at gj
      exact h.apart i j g (by omega) (by omega) gi gj
def bmix (β : Nat → Nat) (N : Nat) (bf : Nat → Nat) : Nat → Nat := fun i => if i < N then β i else bf (i - N)
theorem bmix_old {β : Nat → Nat} {N : Nat} {bf : Nat → Nat} {i : Nat} (h : i < N) : bmix β N bf i = β i := by simp [bmix, h]
theorem bmix_new {β : Nat → Nat} {N : Nat} {bf : Nat → Nat} (j : Nat) : bmix β N bf (N + j) = bf j := by unfold bmix; rw [if_neg (by omega), Nat.add_sub_cancel_left]
theorem lay_ids {L : Dir} {N k : Nat} (h : ∀ p ∈ L, p.2 < N) : ∀ p ∈ lay L N k, p.2 < N + k := by
  intro p hp
  obtain ⟨i, hi, rfl⟩ := List.getElem_of_mem hp
  simp [lay] at hi ⊢
  split
  · omega
  · have := h _ (List.getElem_mem hi); omega
theorem bmix_upd {β : Nat → Nat} {N k b' : Nat} {bf : Nat → Nat} {i : Nat} (h : i < N + k) : bmix β N bf i = bmix β N (upd bf k b') i := by
  unfold bmix
  split
  · rfl
  · rw [upd_ne _ _ (by omega)]
theorem crash_fs {w V : World} {S : St} (hok : S.Ok) (n : Int) (tails : List Int) {L : Dir} (hL : L = S.after (crashN S n)) {p b : Nat} {lv : Option Nat} {β bf : Nat → Nat} {vf : Nat → Value}
    (hp : w.heap.size ≤ p) (hk : Blk V p 52 [.int .i64 (S.room : Nat), .map (some b), .map lv, .slice none 0 0, .int .i64 0, .bool false, .int .i64 0])
    (hd : IsDir V (some b) (bmix β S.F.length bf) (lay L S.F.length L.length)) (hl : IsDir V lv (bmix β S.F.length bf) (lay L S.F.length L.length)) (hne : lv ≠ some b) (hb : w.heap.size ≤ b) (hlb : ∀ g, lv = some g → w.heap.size ≤ g)
    (ht : TornS w V L.length bf vf (fun j => tornF (S.file (L.getD j ([], 0)).2) (tails.getD j 0))) :
    IsFS V ⟨p, some b, lv, .slice none 0 0, bf, vf⟩ (crash S n tails) ∧ ∀ g, Lay.at ⟨p, some b, lv, .slice none 0 0, bf, vf⟩ (crash S n tails).F.length g → w.heap.size ≤ g := by
  have hF : (crash S n tails).F.length = L.length := by rw [hL]; simp [crash]
  have hnow : (crash S n tails).now = fresh L := by rw [hL]; rfl
  have hlast : (crash S n tails).last = fresh L := by rw [hL]; rfl
  have hdir : ∀ mv, IsDir V mv (bmix β S.F.length bf) (lay L S.F.length L.length) → IsDir V mv bf (fresh L) := fun mv h => by
    obtain ⟨rfl, e⟩ | ⟨b', rfl, h⟩ := h
    · refine .inl ⟨rfl, ?_⟩
      have := congrArg List.length e
      rw [lay_length] at this
      exact List.eq_nil_of_length_eq_zero (by rw [fresh_length]; simpa using this)
    · refine .inr ⟨b', rfl, ?_⟩
      have e := dD_fresh L S.F.length (bmix β S.F.length bf) bf (fun j _ => bmix_new j)
      rw [lay_length] at h
      rw [← e, fresh_length]
      exact h
  refine ⟨⟨⟨0, ?_, ?_⟩, ?_, ?_, ?_, World.ownsRow_nil _ _ _ _, ?_, ?_, ?_, crash_ok hok n tails⟩, ?_⟩
  · exact hk
  · intro k hk'; cases hk'
  · rw [hnow]; exact hdir _ hd
  · rw [hlast]; exact hdir _ hl
  · intro g e e2; cases e; exact hne e2
  · rw [hF]
    intro j hj
    have hfj : (crash S n tails).file j = tornF (S.file (L.getD j ([], 0)).2) (tails.getD j 0) := by
      change List.getD (crash S n tails).F j ([], 0) = _
      simp only [crash, ← hL, List.getD_eq_getElem?_getD, List.getElem?_mapIdx, List.getElem?_eq_getElem hj, Option.map_some, Option.getD_some]
    rw [hfj]
    exact ht.file j hj
  · rw [hF]; exact ht.inj
  · rw [hF]; exact ht.apart
  · rw [hF]
    intro g hg
    rcases hg with e | e | e | e | ⟨j, hj, e | e⟩
    · change g = p at e; omega
    · change some b = some g at e; cases e; exact hb
    · exact hlb g e
    · cases e
    · change g = bf j at e; have := (ht.new j hj).1; omega
    · exact (ht.new j hj).2 g e
def CrashPost (S : St) (n : Int) (tails : List Int) (w : World) (e : Ending) (w' : World) : Prop :=
  ∃ l', e = .returned (fsP l') ∧ Hid (IsFS w' l' (crash S n tails)) ∧ (∀ b, l'.at (crash S n tails).F.length b → w.heap.size ≤ b) ∧ Hid (Below w.heap.size w w')
attribute [local go_sem ↓] minN_eq maxN_eq
set_option maxHeartbeats 16000000 in
theorem crash_any (l : Lay) (S : St) (n : Int) (a : Option Addr) (len cap : Nat) (zs : List Int) (w : World) (h : IsFS w l S) (hr : IsRow .i64 w a len cap zs) (hc : S.calls ≤ 1099511627776) :
    Calls Tryz.prog 11 #[fsP l, .int .i64 n, .slice a len cap] w (CrashPost S n (zs.take len) w) := by
  obtain ⟨wt, _, hk, c0, _, _, c3, _⟩ := h.cells
  obtain ⟨sp, cp, hpe, _, _⟩ := ownsRow_slice h.pend
  rw [hpe] at c3
  have hpl := h.lt _ (.inl rfl)
  have hlm := hr.len_le
  obtain ⟨M, hM⟩ : ∃ M, S.pend.length = M := ⟨_, rfl⟩
  obtain ⟨K, hK⟩ : ∃ K, crashN S n = K := ⟨_, rfl⟩
  have hmn := fun ats ty W => run_minN ats ty n (M : Nat) W
  obtain ⟨q, hq⟩ : ∃ q : Int, min n (M : Nat) = q := ⟨_, rfl⟩
  have hmx := fun ats ty W => run_maxN ats ty 0 q W
  have hKq : max 0 q = (K : Nat) := by rw [← hK]; unfold crashN; rw [hM, hq]; omega
  rw [hq] at hmn
  rw [hKq] at hmx
  rw [hM] at c3
  have hKM : K ≤ S.pend.length := by rw [← hK]; unfold crashN; omega
  have haf := after_any l S K w h hKM hc
  obtain ⟨L, hL⟩ : ∃ L, S.after K = L := ⟨_, rfl⟩
  rw [hL] at haf
  have hL150 : L.length ≤ 150 := by rw [← hL]; exact h.ok.len K hKM
  have hids : ∀ p ∈ L, p.2 < S.F.length := by
    rw [← hL]
    have : ∀ (C : List Chg) (D : Dir), (∀ p ∈ D, p.2 < S.F.length) → (∀ c ∈ C, ∀ i, c.2.2 = some i → i < S.F.length) → ∀ p ∈ C.foldl app1 D, p.2 < S.F.length := by
      intro C
      induction C with
      | nil => intro D hD _; exact hD
      | cons c r ih => intro D hD hC; exact ih _ (app1_mem hD (hC c (by simp))) (fun d hd => hC d (by simp [hd]))
    exact this _ _ h.ok.last (fun c hc => h.ok.pend c (List.mem_of_mem_take hc))
  have H := Lib.hid h
  have HR := Lib.hid hr
  have HIDS := Lib.hid hids
  have HLE : Hid (L = S.after (crashN S n)) := Lib.hid (by rw [hK, hL])
  clear h hk hpe hq hKq hM hK hL hids hr hKM
  go_enter Tryz.func11, Tryz.ntmps11
  go_wp2_with fail
  refine haf.mono ?_
  rintro e w1 ⟨mb, rfl, hmb, hd1, hb1⟩
  have hnm := names_any (some mb) l.β L w1 hd1 (by omega)
  have HSRT := Lib.hid hd1.srt
  have HD1 := Lib.hid hd1
  have HB1 := Lib.hid hb1
  clear haf hd1 hb1 c3 hmn hmx
  go_wp2_with fail
  refine hnm.mono ?_
  rintro e w2 ⟨nv, rfl, hnv, hb2⟩
  obtain ⟨sn, cn, rfl, _, _⟩ := ownsRow_slice hnv
  obtain ⟨ln, hln⟩ : ∃ ln, L.length = ln := ⟨_, rfl⟩
  have hd2 : IsDir w2 (some mb) l.β L := HD1.out.keep fun b e => hb2.block b (HD1.out.lt b e)
  have hB2 : Below w.heap.size w w2 := HB1.out.trans (hb2.mono HB1.out.size)
  have HD2 := Lib.hid hd2
  have HB2 := Lib.hid hB2
  have HNV := Lib.hid hnv
  rw [hln] at hL150
  have HLN := Lib.hid hln
  clear hnm hnv hb2 hd2 hB2 HD1 HB1
  rw [HLN.out]
  go_wp2_with fail
  go_loopw [26] (fun v wr => ∃ (k : Nat) (bf : Nat → Nat) (vf : Nat → Value), k ≤ ln ∧ v = .int .i64 k ∧ IsDir wr (some mb) (bmix l.β S.F.length bf) (lay L S.F.length k) ∧
    TornS w wr k bf vf (fun j => tornF (S.file (L.getD j ([], 0)).2) ((zs.take len).getD j 0)) ∧ Below w.heap.size w wr ∧ IsNames wr 0 (.slice sn ln cn) L) (fun v _ => ln - (intOf v).toNat)
  case atStart =>
    refine ⟨0, fun _ => 0, fun _ => .slice none 0 0, by omega, rfl, ?_, ⟨fun j hj => by omega, fun j hj => by omega, fun i j hi => by omega, fun i j g hi => by omega⟩, HB2.out, ?_⟩
    · rw [lay_0]
      exact HD2.out.congr fun p hp => (bmix_old (HIDS.out p hp)).symm
    · have := HNV.out
      rw [HLN.out] at this
      obtain ⟨hl', hq⟩ := this
      refine ⟨hl', ?_⟩
      obtain hq | ⟨g, cap, cur, hv, hg0, r⟩ := hq
      · exact .inl hq
      · exact .inr ⟨g, cap, cur, hv, Nat.zero_le _, r⟩
  case round =>
    obtain ⟨k, bf, vf, hk, rfl, hd, ht, hb, hnn⟩ := hrel
    have HD := Lib.hid hd
    have HT := Lib.hid ht
    have HB := Lib.hid hb
    have HNN := Lib.hid hnn
    clear hd ht hb hnn
    by_cases hlt : k < ln
    · obtain ⟨pp, hpp⟩ : ∃ pp, L[k]? = some pp := ⟨_, List.getElem?_eq_getElem (by rw [HLN.out]; exact hlt)⟩
      have hmem := List.mem_of_getElem? hpp
      have hid := HIDS.out pp hmem
      have hnl : pp.1.length ≤ maxLen := by
        have := strKeys_le HD.out.own Tryz.underlying9
        rw [dD_keys, lay_names] at this
        exact this _ (List.mem_map.2 ⟨pp, hmem, rfl⟩)
      have hsz : (⟨pp.1.toArray⟩ : ByteArray).size ≤ maxLen := by simpa [ByteArray.size] using hnl
      have hnc : ∃ g, sn = some ⟨g, 0, none⟩ ∧ wr.cell? ⟨g, k, none⟩ = some (.string ⟨pp.1.toArray⟩) := by
        have h0 := HNN.out
        unfold IsNames at h0
        rw [HLN.out] at h0
        obtain ⟨g, _, he, _, _, _, _⟩ := own_open h0 (by omega)
        simp at he
        obtain ⟨rfl, rfl⟩ := he
        refine ⟨g, rfl, ?_⟩
        rw [h0.cellAt k (by omega)]
        simp [hpp, encStr]
      obtain ⟨g, rfl, hnc⟩ := hnc
      have hlay := List.mem_of_getElem? (lay_at (N := S.F.length) (k := k) hpp)
      rw [if_neg (Nat.lt_irrefl _)] at hlay
      have hget := dget_of_mem (lay_srt S.F.length k HSRT.out) hlay
      have hlk := dir_look HD.out hsz
      rw [show (⟨pp.1.toArray⟩ : ByteArray).data.toList = pp.1 from rfl, hget] at hlk
      simp only [Option.map_some, bmix_old hid, ptrO] at hlk
      have hfr := (H.out.below HB.out).file pp.2 hid
      have hfo := file_ok H.out.ok pp.2
      have HTO := Lib.hid (fun t => torn_any (l.β pp.2) (l.ν pp.2) (S.file pp.2) t wr hfr hfo.2.1 hfo.2.2)
      have hstep := lay_step HSRT.out S.F.length k hpp
      have htk : ∀ t, (zs.take len).getD k 0 = t → tornF (S.file (L.getD k ([], 0)).2) ((zs.take len).getD k 0) = tornF (S.file pp.2) t := fun t ht => by
        rw [ht, List.getD_eq_getElem?_getD, hpp]; rfl
      have HTK := Lib.hid htk
      have HSTEP := Lib.hid hstep
      clear hmem hlay hget hfr hfo hnl htk hstep hpp
      by_cases hkl : k < len
      · obtain ⟨tb, to', rfl, htb, hzl, _, htc, _⟩ := HR.out.cells (by omega)
        have htc := htc k hkl
        rw [← HB.out.cell (p := ⟨tb, to' + k, none⟩) htb] at htc
        have hto := HTO.out (zs.getD k 0)
        have htt : (zs.take len).getD k 0 = zs.getD k 0 := by
          simp only [List.getD_eq_getElem?_getD, List.getElem?_take_of_lt hkl]
        have HTT := Lib.hid (HTK.out _ htt)
        generalize zs.getD k 0 = t at *
        clear HTK HTO htt
        go_wp2_with fail
        refine hto.mono ?_
        rintro e w3 ⟨b', v', rfl, hb', hf', hg', hbb⟩
        have hbb := hbb.out
        have hd3 : IsDir w3 (some mb) (bmix l.β S.F.length (upd bf k b')) (lay L S.F.length k) :=
          (HD.out.keep fun b e => hbb.block b (HD.out.lt b e)).congr fun p hp => bmix_upd (lay_ids HIDS.out p hp)
        obtain ⟨w4, hst, hd4, hg4⟩ := dir_store hd3 hsz (by rw [lay_length]; have := HLN.out; omega) (S.F.length + k)
        rw [bmix_new, upd_same] at hst
        simp only [ptrO] at hst
        rw [show (⟨pp.1.toArray⟩ : ByteArray).data.toList = pp.1 from rfl, HSTEP.out] at hd4
        have ht3 := HT.out.step HB.out.size hbb (by have := hf'.out; rw [← HTT.out] at this; exact this) hb' hg'
        have ht4 := ht3.map hd3 hg4
        have hb4 : Below w.heap.size w w4 := (HB.out.trans (hbb.mono HB.out.size)).grown hg4 (by have := HB.out.size; have := hbb.size; omega) (fun j hj => by cases hj; exact hmb)
        have hnm4 : IsNames w4 0 (.slice (some ⟨g, 0, none⟩) ln cn) L := by
          have h0 := HNN.out
          have h3 : IsNames w3 0 (.slice (some ⟨g, 0, none⟩) ln cn) L := own_below h0 hbb
          exact h3.kept hg4 (.inr (fun e => own_map_ne h3 hd3 (by rw [← e])))
        have HD4 := Lib.hid hd4
        have HT4 := Lib.hid ht4
        have HB4 := Lib.hid hb4
        have HN4 := Lib.hid hnm4
        clear hto hd3 hd4 ht3 ht4 hb4 hnm4 hg4 hf' hg' hbb hb'
        go_wp2_with fail
        go_roundw
        case rel => exact ⟨k + 1, upd bf k b', upd vf k v', by omega, by go_num, HD4.out, HT4.out, HB4.out, HN4.out⟩
        case measure => simp [intOf]; omega
      · have hto := HTO.out 0
        have htt : (zs.take len).getD k 0 = 0 := by
          rw [List.getD_eq_getElem?_getD, List.getElem?_eq_none (by rw [List.length_take]; omega)]; rfl
        have HTT := Lib.hid (HTK.out _ htt)
        clear HTK HTO htt
        go_wp2_with fail
        refine hto.mono ?_
        rintro e w3 ⟨b', v', rfl, hb', hf', hg', hbb⟩
        have hbb := hbb.out
        have hd3 : IsDir w3 (some mb) (bmix l.β S.F.length (upd bf k b')) (lay L S.F.length k) :=
          (HD.out.keep fun b e => hbb.block b (HD.out.lt b e)).congr fun p hp => bmix_upd (lay_ids HIDS.out p hp)
        obtain ⟨w4, hst, hd4, hg4⟩ := dir_store hd3 hsz (by rw [lay_length]; have := HLN.out; omega) (S.F.length + k)
        rw [bmix_new, upd_same] at hst
        simp only [ptrO] at hst
        rw [show (⟨pp.1.toArray⟩ : ByteArray).data.toList = pp.1 from rfl, HSTEP.out] at hd4
        have ht3 := HT.out.step HB.out.size hbb (by have := hf'.out; rw [← HTT.out] at this; exact this) hb' hg'
        have ht4 := ht3.map hd3 hg4
        have hb4 : Below w.heap.size w w4 := (HB.out.trans (hbb.mono HB.out.size)).grown hg4 (by have := HB.out.size; have := hbb.size; omega) (fun j hj => by cases hj; exact hmb)
        have hnm4 : IsNames w4 0 (.slice (some ⟨g, 0, none⟩) ln cn) L := by
          have h0 := HNN.out
          have h3 : IsNames w3 0 (.slice (some ⟨g, 0, none⟩) ln cn) L := own_below h0 hbb
          exact h3.kept hg4 (.inr (fun e => own_map_ne h3 hd3 (by rw [← e])))
        have HD4 := Lib.hid hd4
        have HT4 := Lib.hid ht4
        have HB4 := Lib.hid hb4
        have HN4 := Lib.hid hnm4
        clear hto hd3 hd4 ht3 ht4 hb4 hnm4 hg4 hf' hg' hbb hb'
        go_wp2_with fail
        go_roundw
        case rel => exact ⟨k + 1, upd bf k b', upd vf k v', by omega, by go_num, HD4.out, HT4.out, HB4.out, HN4.out⟩
        case measure => simp [intOf]; omega
    · obtain rfl : k = ln := by omega
      have c0' : ∀ W, From wr W → W.cell? ⟨l.p, 0, none⟩ = some (.int .i64 (S.room : Nat)) := fun W hW => by
        have h1 := HB.out.trans (Below.mono hW HB.out.size)
        exact (h1.cell (p := ⟨l.p, 0, none⟩) hpl).trans c0
      obtain ⟨R, hR⟩ : ∃ R, S.room = R := ⟨_, rfl⟩
      rw [hR] at c0'
      have HRM := Lib.hid hR
      have HC0 := Lib.hid c0'
      have hcl : ∀ W, From wr W → Calls Tryz.prog 33 #[.map (some mb)] W fun e w' => ∃ mv', e = .returned (.map mv') ∧ IsDir w' mv' (bmix l.β S.F.length bf) (lay L S.F.length k) ∧ (∀ b, mv' = some b → W.heap.size ≤ b) ∧ Below W.heap.size W w' := fun W hW =>
        cloneM_any (some mb) _ _ W (HD.out.keep fun b e => hW.block b (HD.out.lt b e))
      have HCL := Lib.hid hcl
      clear hcl c0 c0' hR
      go_wp2_with fail
      refine wp_region_noPanic ?_
      have hHeld : From wr wr.drew := (Below.refl _ _).drew
      refine wpAnyH_start (n := 10) (l := #[false, false, false, false, false, false, false, false, false, false]) (S := From wr) (by kernel_rfl) (hHeld) (by kernel_rfl) (by kernel_rfl) ?_
      refine wpAnyH_take (i := 0) (oi := _) (v := ?_) rfl (by kernel_rfl) (by kernel_rfl) (by kernel_rfl) (fun _ _ _ h => h) (Or.inl ⟨by rfl, ?_⟩) (by assumption) ?_
      rotate_left
      · intro wq hSw; go_simp; try with_reducible rfl
      simp only [Act.put, List.setIfInBounds_toArray, List.set_cons_zero, List.set_cons_succ, List.getElem_toArray, List.getElem_cons_zero, List.getElem_cons_succ]
      refine wpAnyH_take (i := 1) (oi := _) (v := ?_) rfl (by kernel_rfl) (by kernel_rfl) (by kernel_rfl) (fun _ _ _ h => h) (Or.inl ⟨by rfl, ?_⟩) (by assumption) ?_
      rotate_left
      · intro wq hSw; go_simp; try with_reducible rfl
      simp only [Act.put, List.setIfInBounds_toArray, List.set_cons_zero, List.set_cons_succ, List.getElem_toArray, List.getElem_cons_zero, List.getElem_cons_succ]
      refine wpAnyH_take (i := 2) (oi := _) (v := ?_) rfl (by kernel_rfl) (by kernel_rfl) (by kernel_rfl) (fun _ _ _ h => h) (Or.inl ⟨by rfl, ?_⟩) (by assumption) ?_
      rotate_left
      · intro wq hSw; go_simp; try with_reducible rfl
      simp only [Act.put, List.setIfInBounds_toArray, List.set_cons_zero, List.set_cons_succ, List.getElem_toArray, List.getElem_cons_zero, List.getElem_cons_succ]
      refine wpAnyH_take (i := 3) (oi := _) (v := ?_) rfl (by kernel_rfl) (by kernel_rfl) (by kernel_rfl) (fun _ _ _ h => h) (Or.inl ⟨by rfl, ?_⟩) (by assumption) ?_
      rotate_left
      · intro wq hSw; have d0 := HC0.out wq hSw; go_simp; try with_reducible rfl
      simp only [Act.put, List.setIfInBounds_toArray, List.set_cons_zero, List.set_cons_succ, List.getElem_toArray, List.getElem_cons_zero, List.getElem_cons_succ]
      refine wpAnyH_take (i := 4) (oi := _) (v := ?_) rfl (by kernel_rfl) (by kernel_rfl) (by kernel_rfl) (fun _ _ _ h => h) (Or.inl ⟨by rfl, ?_⟩) (by assumption) ?_
      rotate_left
      · intro wq hSw; go_simp; try with_reducible rfl
      simp only [Act.put, List.setIfInBounds_toArray, List.set_cons_zero, List.set_cons_succ, List.getElem_toArray, List.getElem_cons_zero, List.getElem_cons_succ]
      refine wpAnyH_take (i := 5) (oi := _) (v := ?_) rfl (by kernel_rfl) (by kernel_rfl) (by kernel_rfl) (fun _ _ _ h => h) (Or.inl ⟨by rfl, ?_⟩) (by assumption) ?_
      rotate_left
      · intro wq hSw; go_simp; try with_reducible rfl
      simp only [Act.put, List.setIfInBounds_toArray, List.set_cons_zero, List.set_cons_succ, List.getElem_toArray, List.getElem_cons_zero, List.getElem_cons_succ]
      refine wpAnyH_ready (rs := [6]) (by kernel_rfl) (by simp) ?_
      refine AllReadyH.cons (o := _) rfl (fun K hK => ?_) AllReadyH.nil
      simp only [List.getElem_toArray, List.getElem_cons_zero, List.getElem_cons_succ]
      go_simp
      refine (HCL.out _ hHeld).mono ?_
      rintro e w3 ⟨mv, rfl, hd3, hn3, hb3⟩
      have hE3 : From wr w3 := From.trans hHeld hb3
      refine hK.out _ _ hE3 (fun _ => ?_)
      clear hK K
      simp only [Act.put, List.setIfInBounds_toArray, List.set_cons_zero, List.set_cons_succ, List.getElem_toArray, List.getElem_cons_zero, List.getElem_cons_succ]
      refine wpAnyH_take (i := 7) (oi := _) (v := ?_) rfl (by kernel_rfl) (by kernel_rfl) (by kernel_rfl) (fun _ _ _ h => h) (Or.inl ⟨by rfl, ?_⟩) (by assumption) ?_
      rotate_left
      · intro wq hSw; go_simp; try with_reducible rfl
      simp only [Act.put, List.setIfInBounds_toArray, List.set_cons_zero, List.set_cons_succ, List.getElem_toArray, List.getElem_cons_zero, List.getElem_cons_succ]
      refine wpAnyH_ready (rs := [8]) (by kernel_rfl) (by simp) ?_
      refine AllReadyH.cons (o := _) rfl (fun K hK => ?_) AllReadyH.nil
      simp only [List.getElem_toArray, List.getElem_cons_zero, List.getElem_cons_succ]
      go_simp
      have hE4 : From wr (w3.alloc (.cells #[.int .i64 (R : Nat), .map (some mb), .map mv, .slice none 0 0, .int .i64 0, .bool false, .int .i64 0] 52)) := hE3.alloc hE3.size _
      refine hK.out _ _ hE4 (fun _ => ?_)
      clear hK K
      simp only [Act.put, List.setIfInBounds_toArray, List.set_cons_zero, List.set_cons_succ, List.getElem_toArray, List.getElem_cons_zero, List.getElem_cons_succ]
      refine wpAnyH_take (i := 9) (oi := _) (v := ?_) rfl (by kernel_rfl) (by kernel_rfl) (by kernel_rfl) (fun _ _ _ h => h) (Or.inl ⟨by rfl, ?_⟩) (by assumption) ?_
      rotate_left
      · intro wq hSw; go_simp; try with_reducible rfl
      simp only [Act.put, List.setIfInBounds_toArray, List.set_cons_zero, List.set_cons_succ, List.getElem_toArray, List.getElem_cons_zero, List.getElem_cons_succ]
      refine wpAnyH_done (by kernel_rfl) ?_ _
      refine NoPanic.normal ?_
      obtain ⟨wF, hwF⟩ : ∃ wF, w3.alloc (.cells #[.int .i64 (R : Nat), .map (some mb), .map mv, .slice none 0 0, .int .i64 0, .bool false, .int .i64 0] 52) = wF := ⟨_, rfl⟩
      have hkF : Blk wF w3.heap.size 52 [.int .i64 (S.room : Nat), .map (some mb), .map mv, .slice none 0 0, .int .i64 0, .bool false, .int .i64 0] := by
        rw [← hwF, HRM.out]
        exact Blk.new w3 52 [.int .i64 (R : Nat), .map (some mb), .map mv, .slice none 0 0, .int .i64 0, .bool false, .int .i64 0]
      rw [hwF] at hE4 ⊢
      have h3F : Below w3.heap.size w3 wF := by rw [← hwF]; exact (Below.refl _ _).alloc (Nat.le_refl _) _
      have hdF : IsDir wF (some mb) (bmix l.β S.F.length bf) (lay L S.F.length L.length) := by
        rw [HLN.out]
        exact HD.out.keep fun b e => hE4.block b (HD.out.lt b e)
      have hlF : IsDir wF mv (bmix l.β S.F.length bf) (lay L S.F.length L.length) := by
        rw [HLN.out]
        exact hd3.keep fun b e => h3F.block b (hd3.lt b e)
      have htF := HT.out.below hE4
      rw [← HLN.out] at htF
      have hszr : w.heap.size ≤ wr.heap.size := HB.out.size
      have hszd : wr.drew.heap.size = wr.heap.size := rfl
      have hsz3 : wr.heap.size ≤ w3.heap.size := hE3.size
      have hmbr := HD.out.lt mb rfl
      have hfin := crash_fs (w := w) H.out.ok n (zs.take len) HLE.out (by omega) hkF hdF hlF (fun e => by have := hn3 mb e; omega) hmb (fun g e => by have := hn3 g e; omega) htF
      have HFIN := Lib.hid hfin
      have HBF : Hid (Below w.heap.size w wF) := Lib.hid (HB.out.trans (Below.mono hE4 hszr))
      clear hkF h3F hdF hlF htF hfin hd3 hn3 hb3 hE3 hE4 hwF hHeld HC0 HCL
      go_wp2_with fail
      go_ret
      exact ⟨_, rfl, Lib.hid HFIN.out.1, HFIN.out.2, HBF⟩
end Go.Proofs.YthgpdnffahmhjaaGreatDoor.S13

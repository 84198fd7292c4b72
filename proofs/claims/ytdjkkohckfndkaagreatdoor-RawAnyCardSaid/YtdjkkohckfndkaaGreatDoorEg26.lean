/- Texts put together: DkM, DkN. -/
import Derived.Test.YtdjkkohckfndkaaGreatDoorEg25
set_option linter.unusedSimpArgs false
set_option linter.unusedVariables false
set_option maxRecDepth 100000
namespace Go.Proofs.YtdjkkohckfndkaaGreatDoor.S13
open Go.RowKit Go.Maps Go.Shelf Dk
def sliceH (x : Value) (lo hi mx : Option Value) : Sem Value := Instr.sliceAt 75 x lo hi mx
theorem sliceH_eq (x : Value) (lo hi mx : Option Value) : Instr.sliceAt 75 x lo hi mx = sliceH x lo hi mx := rfl
theorem elem_H : Tryz.prog.elem 75 = 84 := by kernel_rfl
theorem und_H : Tryz.prog.underlying 75 = some (.slice (Tryz.prog.elem 75)) := by rw [elem_H]; exact Tryz.underlying75
theorem run_sliceH (W : World) (a : Option Addr) (len cap n : Nat) (hn : n ≤ cap) (hm : cap ≤ maxLen) (ha : ∀ x, a = some x → x.spot = none) : (sliceH (.slice a len cap) none (some (.int .i64 n)) none).run Tryz.prog W = .ok (.slice a n cap) W := by
  unfold sliceH
  rw [run_sliceAt_slice _ _ _ _ _ _ und_H, run_slice_h _ _ _ _ _ und_H _ _ (by omega) (by omega), elem_H, Tryz.sizeOf84]
  have e : (Option.map (fun x : Addr => x.add 0) a) = a := by
    cases a with
    | none => rfl
    | some x =>
      obtain ⟨b, o, s⟩ := x
      have := ha _ rfl
      simp only at this
      subst this
      simp [Addr.add]
  simp only [Result.andThen, sliced, Nat.zero_mul, Nat.sub_zero, e, Int.toNat_natCast]
  split <;> rfl
def storeH (p v : Value) : Sem Unit := Instr.storeAt 84 p v
theorem storeH_eq (p v : Value) : Instr.storeAt 84 p v = storeH p v := rfl
theorem run_storeH {w : World} {g : Nat} {t : TypeId} {cs : List Value} {a b c : Value} (h : Blk w g t cs) (ho : cs.length = 3) (h1 : ∀ u ∈ ([a, b, c] : List Value), u.oneCell' = true) :
    (storeH (.pointer (some ⟨g, 0, none⟩)) (.agg #[a, b, c])).run Tryz.prog w = .ok () (w.setRow g #[a, b, c]) := by
  simp only [storeH, Instr.storeAt, Instr.sureAddr, storeVar, Sem.run_bind, Sem.run_pure, Result.andThen_ok, Tryz.sizeOf84]
  rw [if_neg (by simp [Value.cells])]
  have := run_storeCells_at (P := Tryz.prog) g 0 t [a, b, c] 0 cs.toArray w h (by simp [ho]) h1
  have e : cs.drop 3 = [] := List.drop_of_length_le (by omega)
  simpa [Value.cells, e] using this
theorem chgC_length (β : Nat → Nat) (c : Chg) : (chgC β c).length = 3 := rfl
theorem chgs_at (β : Nat → Nat) : ∀ (C : List Chg) (i t : Nat) (c : Chg), C[i]? = some c → t < 3 → (chgs β C)[i * 3 + t]? = (chgC β c)[t]?
  | [], i, t, c, h, _ => by simp at h
  | a :: r, 0, t, c, h, ht => by
    simp at h
    subst h
    have : chgs β (a :: r) = chgC β a ++ chgs β r := by simp [chgs]
    rw [this, Nat.zero_mul, Nat.zero_add, List.getElem?_append_left (by rw [chgC_length]; exact ht)]
  | a :: r, i + 1, t, c, h, ht => by
    have e : chgs β (a :: r) = chgC β a ++ chgs β r := by simp [chgs]
    rw [e, List.getElem?_append_right (by rw [chgC_length]; omega), chgC_length, show (i + 1) * 3 + t - 3 = i * 3 + t by omega]
    exact chgs_at β r i t c (by simpa using h) ht
attribute [local go_sem ↓] loadH_eq storeH_eq sliceH_eq
set_option maxHeartbeats 16000000 in
theorem after_any (l : Lay) (S : St) (k : Nat) (w : World) (h : IsFS w l S) (hk : k ≤ S.pend.length) (hc : S.calls ≤ 1099511627776) :
    Calls Tryz.prog 59 #[fsP l, .int .i64 k] w fun e w' => ∃ b, e = .returned (.map (some b)) ∧ w.heap.size ≤ b ∧ IsDir w' (some b) l.β (S.after k) ∧ Below w.heap.size w w' := by
  obtain ⟨wt, _, _, _, _, c2, c3, _⟩ := h.cells
  have hpl := h.lt _ (.inl rfl)
  have hmm := @run_makeMap Tryz.prog
  obtain ⟨w1, hw1⟩ : ∃ w1, w.alloc (.map #[] 0) = w1 := ⟨_, rfl⟩
  have hb1 : Below w.heap.size w w1 := by rw [← hw1]; exact (Below.refl _ _).alloc (Nat.le_refl _) _
  have hd1 : IsDir w1 (some w.heap.size) l.β [] := by rw [← hw1]; exact IsDir.made w _
  have h1 := h.below hb1
  have hlast : l.lv ≠ some w.heap.size := fun e => by have := h.lt _ (.inr (.inr (.inl e))); omega
  have hcp := copyM_any w.heap.size l.lv l.β S.last w1 hd1 h1.last hlast (by have := h.ok.len 0 (Nat.zero_le _); simp [St.after] at this; omega)
  have hpv := h.pend
  obtain ⟨sp, cap, hpe, hcap, hmax⟩ := ownsRow_slice hpv
  rw [hpe] at c3 hpv
  have hspot : ∀ x, sp = some x → x.spot = none := fun x hx => by
    obtain ⟨_, ⟨he, _⟩ | ⟨g, cap', cur, hv, _⟩⟩ := hpv
    · simp at he; rw [he.1] at hx; cases hx
    · simp at hv; rw [hv.1] at hx; cases hx; rfl
  have hsl := fun W => run_sliceH W sp S.pend.length cap k (by omega) hmax hspot
  have d2 : w1.cell? ⟨l.p, 2, none⟩ = some (.map l.lv) := (hb1.cell (p := ⟨l.p, 2, none⟩) hpl).trans c2
  have hkM : k ≤ 1099511627776 := by have := h.ok.names; omega
  have hrow : 0 < k → ∃ g, sp = some ⟨g, 0, none⟩ ∧ g < w.heap.size ∧ ∀ i, i < k → ∀ c, S.pend[i]? = some c → w.cell? ⟨g, i * 3, none⟩ = some (.string ⟨c.1.toArray⟩) ∧ w.cell? ⟨g, i * 3 + 1, none⟩ = some (.string ⟨c.2.1.toArray⟩) ∧ w.cell? ⟨g, i * 3 + 2, none⟩ = some (ptrO (c.2.2.map l.β)) := fun h0 => by
    obtain ⟨hl, ⟨he, h00⟩ | ⟨g, cap', cur, hv, _, hh, hn, _, hs, ht⟩⟩ := hpv
    · omega
    · simp at hv
      refine ⟨g, hv.1, (Array.getElem?_eq_some_iff.1 hh).1, fun i hi c hc' => ?_⟩
      have key : ∀ t u, t < 3 → (chgC l.β c)[t]? = some u → w.cell? ⟨g, i * 3 + t, none⟩ = some u := fun t u ht' hu => by
        have h2 := chgs_at l.β S.pend i t c hc' ht'
        rw [hu, ← ht, List.getElem?_take_of_lt (by omega)] at h2
        simp [World.cell?, hh]
        simpa using h2
      exact ⟨key 0 _ (by omega) rfl, key 1 _ (by omega) rfl, key 2 _ (by omega) rfl⟩
  have HROW := Lib.hid hrow
  have HLEN := Lib.hid h.ok.len
  have HB1 := Lib.hid hb1
  have HK := Lib.hid hk
  have HNM := Lib.hid h.ok.short
  clear h h1 hd1 hlast hrow hpv hpe hb1 c2 hk
  go_enter Tryz.func59, Tryz.ntmps59
  go_wp2_with fail
  refine hcp.mono ?_
  rintro e w2 ⟨rfl, hd2, hg2⟩
  have hb2 : Below w.heap.size w w2 := HB1.out.grown hg2 HB1.out.size (fun j hj => by cases hj; exact Nat.le_refl _)
  have d3 : w2.cell? ⟨l.p, 3, none⟩ = some (.slice sp S.pend.length cap) := (hb2.cell (p := ⟨l.p, 3, none⟩) hpl).trans c3
  have HD2 := Lib.hid hd2
  have HB2 := Lib.hid hb2
  clear hcp hd2 hg2 hb2 hw1 d2 c3 HB1
  go_wp2_with fail
  go_loopw [22] (fun v wr => ∃ i : Nat, i ≤ k ∧ v = .int .i64 i ∧ IsDir wr (some w.heap.size) l.β (S.after i) ∧ Below w.heap.size w wr) (fun v _ => k - (intOf v).toNat)
  case atStart => exact ⟨0, by omega, rfl, by simpa [St.after] using HD2.out, HB2.out⟩
  case round =>
    obtain ⟨i, hi, rfl, hd, hb⟩ := hrel
    have HD := Lib.hid hd
    have HB := Lib.hid hb
    clear hd hb HD2 HB2 d3
    by_cases hlt : i < k
    · obtain ⟨g, rfl, hgl, hcells⟩ := HROW.out (by omega)
      have hip : i < S.pend.length := by have := HK.out; omega
      obtain ⟨c, hcc⟩ : ∃ c, S.pend[i]? = some c := ⟨_, List.getElem?_eq_getElem hip⟩
      obtain ⟨a0, a1, a2⟩ := hcells i hlt c hcc
      have hcl := fun o => HB.out.cell (p := ⟨g, o, none⟩) hgl
      rw [← hcl] at a0 a1 a2
      have hld := run_loadH a0 a1 a2
      have hmem := List.mem_of_getElem? hcc
      have hnm := HNM.out c hmem
      have hone : ∀ u ∈ ([.string ⟨c.1.toArray⟩, .string ⟨c.2.1.toArray⟩, ptrO (c.2.2.map l.β)] : List Value), u.oneCell' = true := one3 rfl
      have hal := Blk.new wr 84 [.string ⟨#[]⟩, .string ⟨#[]⟩, .pointer none]
      have hst := run_storeH hal rfl hone
      obtain ⟨w3, hw3⟩ : ∃ w3, (wr.alloc (.cells #[.string ⟨#[]⟩, .string ⟨#[]⟩, .pointer none] 84)).setRow wr.heap.size #[.string ⟨c.1.toArray⟩, .string ⟨c.2.1.toArray⟩, ptrO (c.2.2.map l.β)] = w3 := ⟨_, rfl⟩
      have hk3 : Blk w3 wr.heap.size 84 [.string ⟨c.1.toArray⟩, .string ⟨c.2.1.toArray⟩, ptrO (c.2.2.map l.β)] := by rw [← hw3]; exact hal.setRow [.string ⟨c.1.toArray⟩, .string ⟨c.2.1.toArray⟩, ptrO (c.2.2.map l.β)]
      have hb3 : Below wr.heap.size wr w3 := by
        rw [← hw3]
        exact ((Below.refl _ wr).alloc (Nat.le_refl _) _).trans ⟨rfl, rfl, rfl, by simp, fun k hk => setRow_other _ _ _ _ (by omega)⟩
      rw [show (List.toArray [Value.string ⟨#[]⟩, Value.string ⟨#[]⟩, Value.pointer none]) = #[.string ⟨#[]⟩, .string ⟨#[]⟩, .pointer none] from rfl] at hst
      rw [hw3] at hst
      have hld3 := run_loadH (hk3.cell (o := 0) rfl) (hk3.cell (o := 1) rfl) (hk3.cell (o := 2) rfl)
      have hd3 : IsDir w3 (some w.heap.size) l.β (S.after i) := HD.out.keep fun b e => hb3.block b (HD.out.lt b e)
      have hap := apply_any w.heap.size l.β (S.after i) ⟨c.1.toArray⟩ ⟨c.2.1.toArray⟩ c.2.2 w3 hd3 (by have := HLEN.out i (by have := HK.out; omega); omega) (by have := hnm.1; simp only [ByteArray.size, List.size_toArray]; unfold maxLen; omega) (by have := hnm.2; simp only [ByteArray.size, List.size_toArray]; unfold maxLen; omega)
      unfold chgV at hap
      have haf : app1 (S.after i) (c.1, c.2.1, c.2.2) = S.after (i + 1) := by
        unfold St.after
        rw [List.take_add_one, hcc]
        simp
      change Calls _ _ _ _ (fun e w' => e = _ ∧ IsDir w' _ _ (app1 (S.after i) (c.1, c.2.1, c.2.2)) ∧ _) at hap
      rw [haf] at hap
      have HB3 := Lib.hid hb3
      clear hcl hcells a0 a1 a2 hnm hone hal hk3 hb3 hd3 haf hmem
      generalize Value.agg #[.string ⟨c.1.toArray⟩, .string ⟨c.2.1.toArray⟩, ptrO (c.2.2.map l.β)] = V at *
      go_wp2_with fail
      refine hap.mono ?_
      rintro e w4 ⟨rfl, hd4, hg4⟩
      have HD4 := Lib.hid hd4
      have HB4 : Hid (Below w.heap.size w w4) := Lib.hid ((HB.out.trans (HB3.out.mono HB.out.size)).grown hg4 (by have := HB.out.size; have := HB3.out.size; omega) (fun j hj => by cases hj; exact Nat.le_refl _))
      clear hap hd4 hg4 hst hld hld3 hw3
      go_wp2_with fail
      go_roundw
      case rel => exact ⟨i + 1, by omega, by go_num, HD4.out, HB4.out⟩
      case measure => simp [intOf]; omega
    · obtain rfl : i = k := by omega
      go_wp2_with fail
      go_ret
      exact ⟨_, rfl, Nat.le_refl _, HD.out, HB.out⟩
end Go.Proofs.YtdjkkohckfndkaaGreatDoor.S13
namespace Go.Proofs.YtdjkkohckfndkaaGreatDoor.S13
open Go.RowKit Go.Maps Go.Shelf Dk
def lay (L : Dir) (N k : Nat) : Dir := L.mapIdx fun j p => (p.1, if j < k then N + j else p.2)
theorem lay_0 (L : Dir) (N : Nat) : lay L N 0 = L := by
  unfold lay
  apply List.ext_getElem?
  intro i
  rw [List.getElem?_mapIdx]
  cases L[i]? <;> simp
theorem lay_length (L : Dir) (N k : Nat) : (lay L N k).length = L.length := by simp [lay]
theorem lay_names (L : Dir) (N k : Nat) : (lay L N k).map (·.1) = L.map (·.1) := by
  apply List.ext_getElem?
  intro i
  simp only [lay, List.getElem?_map, List.getElem?_mapIdx]
  cases L[i]? <;> simp
theorem srt_iff (L : Dir) : Srt L ↔ (L.map (·.1)).Pairwise fun a b => bytesBefore a b = true := by
  unfold Srt
  rw [List.pairwise_map]
theorem lay_srt {L : Dir} (N k : Nat) (h : Srt L) : Srt (lay L N k) := by rw [srt_iff, lay_names, ← srt_iff]; exact h
theorem lay_at {L : Dir} {N k j : Nat} {p : Nm × Nat} (h : L[j]? = some p) : (lay L N k)[j]? = some (p.1, if j < k then N + j else p.2) := by
  simp [lay, List.getElem?_mapIdx, h]
theorem dput_set : ∀ (L : Dir) (k : Nat) (n : Nm) (o i : Nat), Srt L → L[k]? = some (n, o) → dput L n i = L.set k (n, i)
  | [], _, _, _, _, _, h => by simp at h
  | a :: r, 0, n, o, i, hs, h => by
    simp at h
    subst h
    have hne := srt_ne hs
    obtain ⟨h1, h2⟩ := List.pairwise_cons.1 hne
    obtain ⟨b1, _⟩ := List.pairwise_cons.1 hs
    have e : ddel ((n, o) :: r) n = r := by
      unfold ddel
      rw [List.filter_cons]
      simp only [beq_self_eq_true, Bool.not_true, Bool.false_eq_true, if_false]
      exact List.filter_eq_self.2 fun p hp => by have := h1 p hp; simp only [Bool.not_eq_true', beq_eq_false_iff_ne]; exact fun e => this e.symm
    unfold dput
    rw [e, List.set_cons_zero]
    cases r with
    | nil => rfl
    | cons c q =>
      unfold dins
      rw [if_pos (b1 c (by simp))]
  | a :: r, k + 1, n, o, i, hs, h => by
    have hm : (n, o) ∈ r := List.mem_of_getElem? (by simpa using h)
    have hne := srt_ne hs
    obtain ⟨h1, _⟩ := List.pairwise_cons.1 hne
    obtain ⟨b1, b2⟩ := List.pairwise_cons.1 hs
    have hb := b1 _ hm
    have e : ddel (a :: r) n = a :: ddel r n := by
      unfold ddel
      rw [List.filter_cons]
      have : (a.1 == n) = false := by simpa using h1 _ hm
      rw [this]; rfl
    have ih := dput_set r k n o i b2 (by simpa using h)
    unfold dput at ih ⊢
    rw [e, List.set_cons_succ, ← ih]
    have hnb : ¬ bytesBefore n a.1 = true := fun hx => by
      have x1 := (before_lt _ _).1 hb
      have x2 := (before_lt _ _).1 hx
      exact absurd (List.lt_trans x1 x2) (List.lt_irrefl _)
    show (if bytesBefore n a.1 = true then _ else _) = _
    rw [if_neg hnb]
theorem lay_step {L : Dir} (hs : Srt L) (N k : Nat) {p : Nm × Nat} (h : L[k]? = some p) : dput (lay L N k) p.1 (N + k) = lay L N (k + 1) := by
  have h1 := lay_at (N := N) (k := k) h
  rw [if_neg (Nat.lt_irrefl _)] at h1
  rw [dput_set _ k p.1 _ (N + k) (lay_srt N k hs) h1]
  apply List.ext_getElem?
  intro i
  rw [List.getElem?_set]
  by_cases hi : k = i
  · subst hi
    have hl : k < (lay L N k).length := by rw [lay_length]; exact (List.getElem?_eq_some_iff.1 h).1
    rw [if_pos rfl, if_pos hl, lay_at h, if_pos (by omega)]
  · rw [if_neg hi]
    simp only [lay, List.getElem?_mapIdx]
    cases L[i]? with
    | none => rfl
    | some q =>
      simp only [Option.map_some, Option.some.injEq, Prod.mk.injEq, true_and]
      by_cases h1 : i < k
      · rw [if_pos h1, if_pos (by omega)]
      · rw [if_neg h1, if_neg (by omega)]
def fresh (L : Dir) : Dir := L.mapIdx fun k p => (p.1, k)
theorem dD_fresh (L : Dir) (N : Nat) (β bf : Nat → Nat) (h : ∀ j, j < L.length → β (N + j) = bf j) : dD β (lay L N L.length) = dD bf (fresh L) := by
  unfold dD lay fresh
  congr 1
  apply List.ext_getElem?
  intro i
  simp only [List.getElem?_map, List.getElem?_mapIdx]
  cases hi : L[i]? with
  | none => rfl
  | some q =>
    have hl := (List.getElem?_eq_some_iff.1 hi).1
    simp only [Option.map_some, ent, if_pos hl, h i hl]
theorem fresh_length (L : Dir) : (fresh L).length = L.length := by simp [fresh]
theorem fresh_mem {L : Dir} : ∀ p ∈ fresh L, p.2 < L.length := by
  intro p hp
  obtain ⟨i, hi, rfl⟩ := List.getElem_of_mem hp
  simp [fresh] at hi ⊢
  exact hi
theorem torn_ok {f : List Nat × Nat} (tail : Int) (h : (∀ y ∈ f.1, y < 256) ∧ f.2 ≤ f.1.length ∧ f.1.length ≤ 4194304) :
    (∀ y ∈ (tornF f tail).1, y < 256) ∧ (tornF f tail).2 ≤ (tornF f tail).1.length ∧ (tornF f tail).1.length ≤ 4194304 := by
  obtain ⟨X, s⟩ := f
  obtain ⟨h1, h2, h3⟩ := h
  simp only at h1 h2 h3
  unfold tornF
  simp only
  obtain ⟨m, hm⟩ : ∃ m, (max 0 (min tail (X.length - s : Nat))).toNat = m := ⟨_, rfl⟩
  rw [hm]
  have : m ≤ X.length - s := by omega
  refine ⟨fun y hy => h1 y (List.mem_of_mem_take hy), ?_, ?_⟩
  · rw [List.length_take]; omega
  · rw [List.length_take]; omega
theorem fresh_names (L : Dir) : (fresh L).map (·.1) = L.map (·.1) := by
  apply List.ext_getElem?
  intro i
  simp only [fresh, List.getElem?_map, List.getElem?_mapIdx]
  cases L[i]? <;> simp
theorem after_names {S : St} (h : S.Ok) (k : Nat) : ∀ p ∈ S.after k, p.1.length ≤ 100000 := by
  have : ∀ (C : List Chg) (D : Dir), (∀ p ∈ D, p.1.length ≤ 100000) → (∀ c ∈ C, c.2.1.length ≤ 100000) → ∀ p ∈ C.foldl app1 D, p.1.length ≤ 100000 := by
    intro C
    induction C with
    | nil => intro D hD _; exact hD
    | cons c r ih => intro D hD hC; exact ih _ (app1_names hD (hC c (by simp))) (fun d hd => hC d (by simp [hd]))
  exact this _ _ h.nl.2 (fun c hc => (h.short c (List.mem_of_mem_take hc)).2)
theorem crash_ok {S : St} (h : S.Ok) (n : Int) (tails : List Int) : (crash S n tails).Ok := by
  have hk : crashN S n ≤ S.pend.length := by unfold crashN; omega
  have hl := h.len _ hk
  have hF : (crash S n tails).F.length = (S.after (crashN S n)).length := by simp [crash]
  have hnm : ∀ p ∈ fresh (S.after (crashN S n)), p.1.length ≤ 100000 := fun p hp => by
    have h1 : p.1 ∈ (fresh (S.after (crashN S n))).map (·.1) := List.mem_map.2 ⟨p, hp, rfl⟩
    rw [fresh_names] at h1
    obtain ⟨q, hq, e⟩ := List.mem_map.1 h1
    rw [← e]
    exact after_names h _ q hq
  refine ⟨h.room, ?_, ?_, ?_, ?_, rfl, ?_, ?_, ?_, ⟨hnm, hnm⟩⟩
  · intro x hx
    obtain ⟨i, hi, rfl⟩ := List.getElem_of_mem hx
    simp only [crash, List.getElem_mapIdx]
    exact torn_ok _ (file_ok h _)
  · intro p hp; rw [hF]; exact fresh_mem p hp
  · intro p hp; rw [hF]; exact fresh_mem p hp
  · intro c hc; simp [crash] at hc
  · intro k hk
    simp [crash] at hk
    subst hk
    simp [crash, St.after]
    simpa [St.after] using hl
  · simp [crash]
  · intro c hc; simp [crash] at hc
end Go.Proofs.YtdjkkohckfndkaaGreatDoor.S13

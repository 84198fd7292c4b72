/- disk: Used, Names: contracts. -/
import Derived.Test.YtdjcblboibbefaaDkH
import Derived.Laws.IdiomRangeMap
set_option linter.unusedSimpArgs false
set_option linter.unusedVariables false
set_option maxRecDepth 100000
namespace Go.Proofs.Ytdjcblboibbefaa.S13
open Go.RowKit Go.Maps Go.Shelf Dk
/-- what has come so far -/
def come (len : Nat → Nat) (L : Dir) (left : Lit → Bool) : Nat := (L.map fun p => if left (.string p.1) then 0 else len p.2).sum
theorem come_start (len : Nat → Nat) (β : Nat → Nat) (L : Dir) : come len L (Maps.has (dD β L)) = 0 := by
  unfold come
  have : ∀ l : Dir, (∀ p ∈ l, p ∈ L) → (l.map fun p => if Maps.has (dD β L) (.string p.1) then 0 else len p.2).sum = 0 := by
    intro l
    induction l with
    | nil => intro _; rfl
    | cons a r ih =>
      intro h
      have ha : Maps.has (dD β L) (.string a.1) = true := by
        rw [dD_has]
        unfold dget
        rw [Option.isSome_map, List.find?_isSome]
        exact ⟨a, h a (by simp), by simp⟩
      simp [ha, ih (fun p hp => h p (by simp [hp]))]
  exact this L fun p hp => hp
theorem come_le (len : Nat → Nat) (L : Dir) (left : Lit → Bool) : come len L left ≤ (L.map fun p => len p.2).sum := by
  unfold come
  induction L with
  | nil => exact Nat.le_refl _
  | cons a r ih =>
    simp only [List.map_cons, List.sum_cons]
    split <;> omega
theorem come_end (len : Nat → Nat) (L : Dir) (left : Lit → Bool) (h : ∀ kl, left kl = false) : come len L left = (L.map fun p => len p.2).sum := by
  unfold come
  congr 1
  refine List.map_congr_left fun p _ => ?_
  rw [h]; rfl
theorem come_step (len : Nat → Nat) : ∀ (L : Dir) (left : Lit → Bool) (n : Nm) (i : Nat), L.Pairwise (fun p q => p.1 ≠ q.1) → (n, i) ∈ L → left (.string n) = true → come len L (fun z => left z && !z.sameKey (.string n)) = come len L left + len i
  | [], _, _, _, _, h, _ => by simp at h
  | a :: r, left, n, i, hp, hm, hl => by
    obtain ⟨h1, h2⟩ := List.pairwise_cons.1 hp
    have hcons : ∀ f : Lit → Bool, come len (a :: r) f = (if f (.string a.1) then 0 else len a.2) + come len r f := fun f => by simp [come]
    rw [hcons, hcons]
    rcases List.mem_cons.1 hm with e | hm
    · subst e
      have hr : come len r (fun z => left z && !z.sameKey (.string n)) = come len r left := by
        unfold come
        congr 1
        refine List.map_congr_left fun p hp' => ?_
        have : (Lit.string p.1).sameKey (.string n) = false := sameKey_ne (fun e => h1 p hp' (by cases e; rfl))
        simp [this]
      have hs : (Lit.string n).sameKey (.string n) = true := by simp [Lit.sameKey]
      rw [hr]
      simp [hl, hs]
      omega
    · have hs : (Lit.string a.1).sameKey (.string n) = false := sameKey_ne (fun e => h1 _ hm (by cases e; rfl))
      rw [come_step len r left n i h2 hm hl]
      simp [hs]
      omega
/-- an entry that has come -/
theorem come_entry {β : Nat → Nat} {L : Dir} {x : Nm} {c : Option Nat} {y : DataW Unit × List MemPlace} (hv : ptrE (ptrO c) = some y) (hat : ∀ zd, (dD β L).atKey (.string x) zd = y.1) : ∃ i, dget L x = some i ∧ c = some (β i) := by
  have hh := has_true_of_atKey hat
  rw [dD_has] at hh
  obtain ⟨i, hi⟩ := Option.isSome_iff_exists.1 hh
  refine ⟨i, hi, ?_⟩
  have h1 := hat .nil
  rw [dD_get, hi] at h1
  cases c with
  | none => simp [ptrE, ptrO] at hv; rw [← hv] at h1; cases h1
  | some b =>
    simp [ptrE, ptrO] at hv
    rw [← hv] at h1
    simp at h1
    have : β i = b := by omega
    rw [this]
set_option maxHeartbeats 16000000 in
theorem used_any (l : Lay) (S : St) (w : World) (h : IsFS w l S) : Calls Try.prog 20 #[fsP l] w fun e w' => e = .returned (.int .i64 (S.used : Nat)) ∧ Below w.heap.size w w' := by
  obtain ⟨wt, _, _, _, c1, _⟩ := h.cells
  cases hnv : l.nv with
  | none =>
    rw [hnv] at c1
    have h0 : S.now = [] := by
      obtain ⟨_, e⟩ | ⟨b, e, _⟩ := h.now
      · exact e
      · rw [hnv] at e; cases e
    have hu : S.used = 0 := by unfold St.used; rw [h0]; rfl
    rw [hu]
    have hrg := run_range_nilMap (P := Try.prog) w 55 _ _ Try.underlying55
    have hnx : ∀ ty, (Instr.next (.pointer (some ⟨w.heap.size, 0, none⟩)) false ty).run Try.prog (w.alloc (.mapIter none 0 #[] 0)) = _ := fun ty => run_next_nilMap _ ty 0 0 #[]
    clear h
    go_enter Try.func20, Try.ntmps20
    go_wp2_with fail
    refine wp_loop_rounds 1 ?_
    rw [rounds_succ]
    go_wp2_with fail
    go_ret
    exact ⟨rfl, (Below.refl _ _).alloc (Nat.le_refl _) _⟩
  | some nb =>
    rw [hnv] at c1
    have hnow := h.now
    rw [hnv] at hnow
    have hown := hnow.own
    have hsrt := hnow.srt
    have hul := used_le h.ok
    have hu : S.used = (S.now.map fun p => (S.file p.2).1.length).sum := rfl
    have hfc : ∀ i, i < S.F.length → ∃ sp cap, w.cell? ⟨l.β i, 0, none⟩ = some (.slice sp (S.file i).1.length cap) ∧ l.β i < w.heap.size := fun i hi => by
      obtain ⟨sp, cap, hv, _, _⟩ := (h.file i hi).bytes.slice
      have := (h.file i hi).1.cell (o := 0) rfl
      rw [hv] at this
      exact ⟨sp, cap, this, (h.file i hi).lt.1⟩
    have HFC := Lib.hid hfc
    have HNO := Lib.hid h.ok.now
    have HSR := Lib.hid hsrt
    obtain ⟨U, hU⟩ : ∃ U, S.used = U := ⟨_, rfl⟩
    rw [hU] at hul hu ⊢
    have HU := Lib.hid hu
    clear h hsrt hfc hu hnow hU
    go_enter Try.func20, Try.ntmps20
    go_wp2_with (first
      | (at_range; refine wpList_range_own _ rfl _ 55 rfl 9 49 law Try.underlying55 ptrE nb S.now.length _ rfl hown ?_; intro w0 hrg0 hg0 hs0)
      | go_in)
    go_frame
    have HRG0 := Lib.hid hrg0
    have HG0 := Lib.hid hg0
    clear hrg0 hg0 hs0 c1 hown
    go_loopw [3] (fun v wr => ∃ (left : Lit → Bool) (cnt m : Nat), wr.ranges Try.prog 9 ptrE nb w.heap.size S.now.length (dD l.β S.now) left cnt ∧ m = come (fun i => (S.file i).1.length) S.now left ∧ v = .int .i64 (m : Nat) ∧ Below w.heap.size w wr)
      (fun _ wr => wr.rangeLeft nb w.heap.size)
    case atStart =>
      exact ⟨_, _, 0, HRG0.out, (come_start _ _ _).symm, rfl, ⟨HG0.out.os, HG0.out.tape, HG0.out.output, HG0.out.size, fun k hk => HG0.out.block k hk (by simp)⟩⟩
    case round =>
      obtain ⟨left, cnt, m, hrg, hm, rfl, hb⟩ := hrel
      have hmU : m ≤ U := by rw [hm, HU.out]; exact come_le _ _ _
      have HM := Lib.hid hm
      have HB := Lib.hid hb
      clear hm hb
      go_wp2_with (first
        | (at_next; refine wpList_next_ranges _ rfl _ rfl 9 law ptrE encStr ptrO (fun key kl hk => by obtain ⟨x, hx, _⟩ := Maps.keyOf_str Try.underlying9 hk; exact ⟨x, hx⟩) (fun v y hv => by obtain ⟨o, ho, _⟩ := ptrE_inv hv; exact ⟨o, ho⟩) nb w.heap.size S.now.length _ _ _ rfl hrg ?_ ?_)
        | go_in)
      · intro hc0 hl0
        have he := come_end (fun i => (S.file i).1.length) S.now left hl0
        rw [← HU.out, ← HM.out] at he
        subst he
        clear hrg
        go_wp2_with fail
        go_ret
        exact ⟨rfl, HB.out⟩
      · intro x c kl yd yp w1 cnt1 hkey hlk hv hat hrg1 hlt hg1 hs1 hen
        obtain ⟨x', ex, rfl, _⟩ := Maps.keyOf_str Try.underlying9 hkey
        obtain rfl : x = x' := encStr_inj ex
        obtain ⟨i, hi, rfl⟩ := come_entry hv hat
        have hmem := dget_mem hi
        obtain ⟨sp, cap, hcell, hbl⟩ := HFC.out i (HNO.out _ hmem)
        have hb1 : Below w.heap.size w w1 := HB.out.grown hg1 HB.out.size (fun k hk => by cases hk; exact Nat.le_refl _)
        have d0 : w1.cell? ⟨l.β i, 0, none⟩ = some (.slice sp (S.file i).1.length cap) := (hb1.cell (p := ⟨l.β i, 0, none⟩) hbl).trans hcell
        have hst := come_step (fun i => (S.file i).1.length) S.now left x i (srt_ne HSR.out) hmem hlk
        rw [← HM.out] at hst
        have hle := come_le (fun i => (S.file i).1.length) S.now (fun z => left z && !z.sameKey (.string x))
        rw [hst, ← HU.out] at hle
        simp only [ptrO] at hen
        obtain ⟨q, hq⟩ : ∃ q, (S.file i).1.length = q := ⟨_, rfl⟩
        simp only [hq] at hst hle
        rw [hq] at d0
        have HST := Lib.hid hst
        have HRG := Lib.hid hrg
        have HRG1 := Lib.hid hrg1
        have HB1 := Lib.hid hb1
        have HLT := Lib.hid hlt
        clear hst hrg hrg1 hb1 hs1 hv hat hkey hlk hg1 hmem hcell hq hi hlt
        go_wp2_with fail
        go_roundw
        case rel => exact ⟨_, cnt1, m + q, HRG1.out, HST.out.symm, by go_num, HB1.out⟩
        case measure => rw [HRG1.out.left_eq, HRG.out.left_eq]; exact HLT.out
set_option maxHeartbeats 4000000 in
theorem fsNames_any (l : Lay) (S : St) (w : World) (h : IsFS w l S) :
    Calls Try.prog 19 #[fsP l] w fun e w' => ∃ v, e = .returned v ∧ IsNames w' w.heap.size v S.now ∧ Below w.heap.size w w' := by
  obtain ⟨wt, _, _, _, c1, _⟩ := h.cells
  have hn := names_any l.nv l.β S.now w h.now (by have := now_le h.ok; omega)
  clear h
  go_enter Try.func19, Try.ntmps19
  go_wp2_with fail
  refine hn.mono ?_
  rintro e w1 ⟨v, rfl, hv, hb⟩
  obtain ⟨sp, cap, rfl, _, _⟩ := ownsRow_slice hv
  have HV := Lib.hid hv
  have HB := Lib.hid hb
  clear hn hv hb c1
  go_wp2_with fail
  go_ret
  exact ⟨_, rfl, HV.out, HB.out⟩
end Go.Proofs.Ytdjcblboibbefaa.S13

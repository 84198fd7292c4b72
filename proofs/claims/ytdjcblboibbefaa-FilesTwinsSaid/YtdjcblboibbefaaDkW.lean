/- foliolaw13.FilesTail: the walk. -/
import Derived.Test.YtdjcblboibbefaaDkV
import Derived.Deep.OwnRows
set_option linter.unusedSimpArgs false
set_option linter.unusedVariables false
set_option maxRecDepth 100000
namespace Go.Proofs.Ytdjcblboibbefaa.S13
open Go.RowKit Go.Maps Go.Shelf Dk
theorem run_makeB (n : Nat) (hn : n ≤ 100000) (w : World) : (Instr.makeSlice 23 (.int .i64 (n : Int)) (.int .i64 (n : Int))).run Try.prog w = .ok (.slice (some ⟨w.heap.size, 0, none⟩) n n) (w.alloc (.cells (u8s (List.replicate n 0)).toArray 5)) := by
  have h := run_make_row' (P := Try.prog) 23 5 (.int .u8 0) 1 Try.underlying23 info5 rfl .i64 .i64 n (by omega) (by omega) w
  have e : madeCells #[Value.int .u8 0] n = (u8s (List.replicate n 0)).toArray := by
    apply Array.toList_inj.1
    have := made_list n
    rw [Nat.mul_one] at this
    rw [show (#[Value.int .u8 0] : Array Value) = (Value.int .u8 0).cells from rfl, this]
    simp [u8s]
  rw [e] at h
  exact h
/-- the file system of one file, synced in part -/
def stG (B : List Nat) (y c : Nat) (last : Dir) (pend : List Chg) : St := ⟨1000, [(B, y)], [([97], 0)], last, pend, c, none⟩
theorem stG_of (B : List Nat) (c : Nat) : stF B c none = stG B 0 c [] [([], [97], some 0)] := rfl
theorem stG_sync (B : List Nat) (y c : Nat) (l : Dir) (q : List Chg) : sync (stG B y c l q) [97] = (stG B B.length (c + 1) l q, 0) := rfl
theorem stG_syncDir (B : List Nat) (y c : Nat) (l : Dir) (q : List Chg) : syncDir (stG B y c l q) = (stG B y (c + 1) [([97], 0)] [], 0) := rfl
theorem stG_app (B X : List Nat) (y c : Nat) (l : Dir) (q : List Chg) (h : B.length + X.length ≤ 1000) : append (stG B y c l q) [97] X = (stG (B ++ X) y (c + 1) l q, 0) := by
  have hu : St.used { stG B y c l q with calls := c + 1 } = B.length := by simp [St.used, stG, St.file]
  have e : append (stG B y c l q) [97] X = if St.used { stG B y c l q with calls := c + 1 } + X.length > 1000 then ({ stG B y c l q with calls := c + 1 }, 4) else (stG (B ++ X) y (c + 1) l q, 0) := rfl
  rw [e, if_neg (by omega)]
theorem stG_crash (B : List Nat) (y c : Nat) (t : Int) : readF (crash (stG B y c [([97], 0)] []) 0 [t]) [97] = some (B.take (y + (max 0 (min t ((B.length - y : Nat) : Int))).toNat)) := rfl
def fill (m i : Nat) : List Nat := List.replicate i 7 ++ List.replicate (m - i) 0
theorem fill_length {m i : Nat} (h : i ≤ m) : (fill m i).length = m := by simp [fill]; omega
theorem fill_step {m i : Nat} (h : i < m) : (fill m i).set i 7 = fill m (i + 1) := by
  apply List.ext_getElem?
  intro j
  rw [List.getElem?_set, fill_length (by omega)]
  unfold fill
  by_cases hj : i = j
  · subst hj
    rw [if_pos rfl, if_pos h, List.getElem?_append_left (by simp)]
    simp
  · rw [if_neg hj]
    by_cases h1 : j < i
    · rw [List.getElem?_append_left (by simpa using h1), List.getElem?_append_left (by simp; omega)]
      simp [h1, Nat.lt_succ_of_lt h1]
    · rw [List.getElem?_append_right (by simp; omega), List.getElem?_append_right (by simp; omega)]
      simp only [List.length_replicate, List.getElem?_replicate]
      by_cases h2 : j < m
      · rw [if_pos (by omega), if_pos (by omega)]
      · rw [if_neg (by omega), if_neg (by omega)]
theorem fill_lt {m i : Nat} : ∀ x ∈ fill m i, x < 256 := by
  intro x hx
  unfold fill at hx
  rcases List.mem_append.1 hx with h | h <;> (have := List.eq_of_mem_replicate h; omega)
theorem tail_get (s m q i : Nat) (h : i < s + q) (hq : q ≤ m) : ((List.replicate s 0 ++ fill m m).take (s + q)).getD i 0 = if i < s then 0 else 7 := by
  rw [List.getD_eq_getElem?_getD, List.getElem?_take_of_lt h]
  by_cases h1 : i < s
  · rw [if_pos h1, List.getElem?_append_left (by simpa using h1)]
    simp [h1]
  · rw [if_neg h1, List.getElem?_append_right (by simp; omega)]
    unfold fill
    rw [List.getElem?_append_left (by simp; omega)]
    simp only [List.length_replicate, List.getElem?_replicate]
    rw [if_pos (by omega)]
    rfl
attribute [local go_sem ↓] minN_eq maxN_eq
set_option maxHeartbeats 32000000 in
theorem filesTail_walk (synced more tail : Int) (w : World) (hs : (Lit.int .i64 synced).wf = true) (hm : (Lit.int .i64 more).wf = true) (ht : (Lit.int .i64 tail).wf = true) :
    Calls Try.prog 5 #[.int .i64 synced, .int .i64 more, .int .i64 tail] w fun e w' => e = .returned (.bool true) ∧ Below w.heap.size w w' := by
  have hbeg := begun_any w
  by_cases h1 : synced < 0
  · have d1 : decide (synced < 0) = true := by simpa using h1
    go_enter Try.func5, Try.ntmps5
    go_wp2_with fail
    refine hbeg.mono ?_
    rintro e w1 ⟨rfl, hb⟩
    have HB := Lib.hid hb
    clear hbeg hb
    go_wp2_with fail
    go_ret
    exact ⟨rfl, HB.out⟩
  by_cases h2 : 300 < synced
  · have d1 : decide (synced < 0) = false := by simp; omega
    have d2 : decide (300 < synced) = true := by simpa using h2
    go_enter Try.func5, Try.ntmps5
    go_wp2_with fail
    refine hbeg.mono ?_
    rintro e w1 ⟨rfl, hb⟩
    have HB := Lib.hid hb
    clear hbeg hb
    go_wp2_with fail
    go_ret
    exact ⟨rfl, HB.out⟩
  by_cases h3 : more < 0
  · have d1 : decide (synced < 0) = false := by simp; omega
    have d2 : decide (300 < synced) = false := by simp; omega
    have d3 : decide (more < 0) = true := by simpa using h3
    go_enter Try.func5, Try.ntmps5
    go_wp2_with fail
    refine hbeg.mono ?_
    rintro e w1 ⟨rfl, hb⟩
    have HB := Lib.hid hb
    clear hbeg hb
    go_wp2_with fail
    go_ret
    exact ⟨rfl, HB.out⟩
  by_cases h4 : 300 < more
  · have d1 : decide (synced < 0) = false := by simp; omega
    have d2 : decide (300 < synced) = false := by simp; omega
    have d3 : decide (more < 0) = false := by simp; omega
    have d4 : decide (300 < more) = true := by simpa using h4
    go_enter Try.func5, Try.ntmps5
    go_wp2_with fail
    refine hbeg.mono ?_
    rintro e w1 ⟨rfl, hb⟩
    have HB := Lib.hid hb
    clear hbeg hb
    go_wp2_with fail
    go_ret
    exact ⟨rfl, HB.out⟩
  have d1 : decide (synced < 0) = false := by simp; omega
  have d2 : decide (300 < synced) = false := by simp; omega
  have d3 : decide (more < 0) = false := by simp; omega
  have d4 : decide (300 < more) = false := by simp; omega
  obtain ⟨s, rfl⟩ : ∃ m : Nat, synced = (m : Int) := ⟨synced.toNat, by omega⟩
  obtain ⟨m, rfl⟩ : ∃ m : Nat, more = (m : Int) := ⟨more.toNat, by omega⟩
  have hs3 : s ≤ 300 := by omega
  have hm3 : m ≤ 300 := by omega
  have e2 : decide (300 < s) = false := by simp; omega
  have e4 : decide (300 < m) = false := by simp; omega
  have hmk1 := fun W => run_makeB s (by omega) W
  have hmk2 := fun W => run_makeB m (by omega) W
  obtain ⟨q, hq⟩ : ∃ q : Nat, (max 0 (min tail ((m : Nat) : Int))).toNat = q := ⟨_, rfl⟩
  have hqm : q ≤ m := by omega
  have hmn := fun ats ty W => run_minN ats ty tail (m : Nat) W
  have hmx := fun ats ty W => run_maxN ats ty 0 (min tail (m : Nat)) W
  obtain ⟨r, hr⟩ : ∃ r : Int, min tail (m : Nat) = r := ⟨_, rfl⟩
  rw [hr] at hmn hmx
  have hrq : max 0 r = (q : Nat) := by omega
  rw [hrq] at hmx
  have HQ := Lib.hid hq
  clear h1 h2 h3 h4 hr hrq hq
  go_enter Try.func5, Try.ntmps5
  go_wp2_with fail
  refine hbeg.mono ?_
  rintro e w1 ⟨rfl, hb⟩
  have hnew := new_h (w0 := w) 1000 hb
  clear hbeg hb
  go_wp2_with fail
  refine hnew.mono ?_
  rintro e w2 ⟨p, rfl, hI, _⟩
  have hcall := create_h ⟨#[97]⟩ hI (by decide) (by decide)
  change Calls _ _ _ _ (HPost w p (create (new 1000) [97])) at hcall
  rw [stF_new] at hcall
  clear hnew hI d1 d2 d3 d4 e2 e4
  go_wp2_with fail
  refine hcall.mono ?_
  rintro e w3 ⟨rfl, hI⟩
  clear hcall
  unfold errV
  obtain ⟨w4, hw4⟩ : ∃ w4, w3.alloc (.cells (u8s (List.replicate s 0)).toArray 5) = w4 := ⟨_, rfl⟩
  have hI4 : InH w p (stF [] 1 none) w4 := by rw [← hw4]; exact hI.below ((Below.refl _ _).alloc (Nat.le_refl _) _)
  have hbt : IsBytes w4 (.slice (some ⟨w3.heap.size, 0, none⟩) s s) (List.replicate s 0) := by
    rw [← hw4]
    have := isBytes_mark w3 (List.replicate s 0) (0, 0) (by intro x hx; have := List.eq_of_mem_replicate hx; omega) (by simp [maxLen]; omega)
    rw [List.length_replicate] at this
    exact this
  have hcall := append_h ⟨#[97]⟩ _ (List.replicate s 0) hI4 (by decide) (by decide) hbt (by rw [List.length_replicate]; omega)
  change Calls _ _ _ _ (HPost w p (append (stF [] 1 none) [97] (List.replicate s 0))) at hcall
  rw [stF_app_ok [] (List.replicate s 0) 1 (by simp; omega), List.nil_append, stG_of] at hcall
  clear hI hI4 hbt
  go_wp2_with fail
  refine hcall.mono ?_
  rintro e w5 ⟨rfl, hI⟩
  clear hcall hw4 hmk1
  unfold errV
  have hcall := sync_h ⟨#[97]⟩ hI (by decide) (by show 2 ≤ _; decide)
  change Calls _ _ _ _ (HPost w p (sync (stG (List.replicate s 0) 0 2 [] [([], [97], some 0)]) [97])) at hcall
  rw [stG_sync, List.length_replicate] at hcall
  clear hI
  go_wp2_with fail
  refine hcall.mono ?_
  rintro e w6 ⟨rfl, hI⟩
  clear hcall
  unfold errV
  have HI := Lib.hid hI
  have HA : Hid (World.ownsRow (w6.alloc (.cells (u8s (List.replicate m 0)).toArray 5)) w6.heap.size 5 1 (.slice (some ⟨w6.heap.size, 0, none⟩) m m) m (u8s (fill m 0))) := Lib.hid (by
    have := own_new w6 (u8s (List.replicate m 0)) 5 (Nat.le_refl _) (by rw [u8s_length, List.length_replicate]; unfold maxLen; omega)
    rw [u8s_length, List.length_replicate] at this
    have e : fill m 0 = List.replicate m 0 := by simp [fill]
    rw [e]; exact this)
  have HB0 : Hid (Below w6.heap.size w6 (w6.alloc (.cells (u8s (List.replicate m 0)).toArray 5))) := Lib.hid ((Below.refl _ _).alloc (Nat.le_refl _) _)
  clear hI
  go_wp2_with fail
  obtain ⟨w7, hw7⟩ : ∃ w7, w6.alloc (.cells (u8s (List.replicate m 0)).toArray 5) = w7 := ⟨_, rfl⟩
  rw [hw7] at HA HB0 ⊢
  clear hw7 hmk2
  go_loopw [10] (fun v wr => ∃ i : Nat, i ≤ m ∧ v = .int .i64 i ∧ wr.ownsRow w6.heap.size 5 1 (.slice (some ⟨w6.heap.size, 0, none⟩) m m) m (u8s (fill m i)) ∧ Below w6.heap.size w6 wr) (fun v _ => m - (intOf v).toNat)
  case atStart => exact ⟨0, by omega, rfl, HA.out, HB0.out⟩
  case round =>
    obtain ⟨i, hi, rfl, ho, hb⟩ := hrel
    have HO := Lib.hid ho
    have HB := Lib.hid hb
    clear ho hb HA HB0
    by_cases hlt : i < m
    · have hc := own_cell HO.out (i := i) (by omega)
      have hfz := HO.out.frozenAt i
      have hst := HO.out.stored i (.int .u8 (7 : Nat))
      rw [u8s_set, fill_step hlt] at hst
      have HST := Lib.hid hst
      clear hst
      go_wp2_with fail
      refine ⟨⟨i + 1, by omega, by go_num, HST.out.1, HB.out.trans (((Gr.refl wr w6.heap.size).setCell i _).below HB.out.size (Nat.le_refl _))⟩, by simp [intOf]; omega⟩
    · obtain rfl : i = m := by omega
      have hI7 := HI.out.below HB.out
      have hbt : IsBytes wr (.slice (some ⟨w6.heap.size, 0, none⟩) i i) (fill i i) := by
        have h0 := HO.out
        have := isBytes_own (B := fill i i) fill_lt (sp := some ⟨w6.heap.size, 0, none⟩) (cap := i) (base := w6.heap.size) (w := wr) (by rw [fill_length (Nat.le_refl _)]; exact h0)
        rw [fill_length (Nat.le_refl _)] at this
        exact this
      have hcall := append_h ⟨#[97]⟩ _ (fill i i) hI7 (by decide) (by show 3 ≤ _; decide) hbt (by rw [fill_length (Nat.le_refl _)]; omega)
      change Calls _ _ _ _ (HPost w p (append (stG (List.replicate s 0) s 3 [] [([], [97], some 0)]) [97] (fill i i))) at hcall
      rw [stG_app _ _ _ _ _ _ (by rw [List.length_replicate, fill_length (Nat.le_refl _)]; omega)] at hcall
      clear hI7 hbt HO HI HB
      go_wp2_with fail
      refine hcall.mono ?_
      rintro e w8 ⟨rfl, hI⟩
      clear hcall
      unfold errV
      have hcall := syncDir_h hI (by show 4 ≤ _; decide)
      rw [stG_syncDir] at hcall
      clear hI
      go_wp2_with fail
      refine hcall.mono ?_
      rintro e w9 ⟨rfl, hI⟩
      clear hcall
      unfold errV
      obtain ⟨wa, hwa⟩ : ∃ wa, w9.alloc (.cells #[.int .i64 tail] 3) = wa := ⟨_, rfl⟩
      have hIa := hI.below (w' := wa) (by rw [← hwa]; exact (Below.refl _ _).alloc (Nat.le_refl _) _)
      have hcall := crash_h 0 (some ⟨w9.heap.size, 0, none⟩) 1 1 [tail] hIa (by rw [← hwa]; exact isRow_one w9 tail ht) (by show 5 ≤ _; decide)
      simp only [List.take_succ_cons, List.take_zero] at hcall
      clear hI hIa
      go_wp2_with fail
      refine hcall.mono ?_
      rintro e w10 ⟨q2, rfl, hI, _⟩
      clear hcall hwa
      have hcall := read_h ⟨#[97]⟩ hI (by decide)
      change Calls _ _ _ _ (ReadPost (readF (crash (stG (List.replicate s 0 ++ fill i i) s 5 [([97], 0)] []) 0 [tail]) [97]) w10) at hcall
      have hsub : (List.replicate s 0 ++ fill i i).length - s = i := by rw [List.length_append, List.length_replicate, fill_length (Nat.le_refl _)]; omega
      rw [stG_crash, hsub, HQ.out] at hcall
      obtain ⟨X, hX⟩ : ∃ X, (List.replicate s 0 ++ fill i i).take (s + q) = X := ⟨_, rfl⟩
      have hXl : X.length = s + q := by rw [← hX, List.length_take, List.length_append, List.length_replicate, fill_length (Nat.le_refl _)]; omega
      have HXG : Hid (∀ j, j < s + q → X.getD j 0 = if j < s then 0 else 7) := Lib.hid fun j hj => by rw [← hX]; exact tail_get s i q j hj hqm
      obtain ⟨Z, hZ⟩ : ∃ Z, s + q = Z := ⟨_, rfl⟩
      rw [hZ] at hXl HXG hcall
      rw [hZ] at hX
      rw [hX] at hcall
      unfold ReadPost at hcall
      simp only [hXl] at hcall
      have hZI : (s : Int) + (q : Int) = (Z : Int) := by omega
      have hZb : Z ≤ 600 := by omega
      have HBE := Lib.hid hI.bel
      clear hI hX hXl hsub hZ
      go_wp2_with fail
      refine hcall.mono ?_
      rintro e w11 ⟨hb, sp, cp, rfl, ho, hx⟩
      have HB2 := Lib.hid (HBE.out.trans (hb.out.mono HBE.out.size))
      clear hcall hb HBE
      unfold errV
      go_wp2_with fail
      clear hZI hmn hmx
      go_loopw [14] (fun v wr => ∃ j : Nat, j ≤ Z ∧ v = .int .i64 j ∧ wr = w11) (fun v _ => Z - (intOf v).toNat)
      case atStart => exact ⟨0, by omega, rfl, rfl⟩
      case round =>
        obtain ⟨j, hj, rfl, hwr⟩ := hrel
        have HO2 : Hid (wr.ownsRow w10.heap.size 5 1 (.slice sp Z cp) Z (u8s X)) := Lib.hid (by rw [hwr]; exact ho.out)
        have HB3 : Hid (Below w.heap.size w wr) := Lib.hid (by rw [hwr]; exact HB2.out)
        have HWR := Lib.hid hwr
        clear hwr
        by_cases hlt2 : j < Z
        · obtain ⟨g, _, he, _⟩ := own_open HO2.out (by omega)
          simp at he
          obtain ⟨rfl, rfl⟩ := he
          have hc := own_cell HO2.out hlt2
          rw [HXG.out j hlt2] at hc
          by_cases hjs : j < s
          · rw [if_pos hjs] at hc
            have q5 : decide ((s : Int) ≤ (j : Int)) = false := by simp; omega
            have q6 : decide (s ≤ j) = false := by simp; omega
            go_wp2_with fail
            go_roundw
            case rel => exact ⟨j + 1, by omega, by go_num, HWR.out⟩
            case measure => simp [intOf]; omega
          · rw [if_neg hjs] at hc
            have q5 : decide ((j : Int) < (s : Int)) = false := by simp; omega
            have q6 : decide (j < s) = false := by simp; omega
            go_wp2_with fail
            go_roundw
            case rel => exact ⟨j + 1, by omega, by go_num, HWR.out⟩
            case measure => simp [intOf]; omega
        · obtain rfl : j = Z := by omega
          go_wp2_with fail
          go_ret
          exact ⟨rfl, HB3.out⟩
end Go.Proofs.Ytdjcblboibbefaa.S13

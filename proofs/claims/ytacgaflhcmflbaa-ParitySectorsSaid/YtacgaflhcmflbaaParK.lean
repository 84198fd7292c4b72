/- foliolaw17.cut, same, begun: contracts. -/
import Derived.Test.YtacgaflhcmflbaaParJ
import Derived.Test.YtacgaflhcmflbaaCutB
import Derived.Lib.SmallJoins
set_option linter.unusedSimpArgs false
set_option linter.unusedVariables false
namespace Go.Proofs.Ytacgaflhcmflbaa
open Go.RowKit Pl
theorem IsBytes.drew {w : World} {v : Value} {B : List Nat} (h : IsBytes w v B) (n : Nat) : IsBytes (w.drewN n) v B := h
namespace Pl
theorem take_step {La Lb : List (List Nat)} {i : Nat} (h : La.take i = Lb.take i) (ha : i < La.length) (hb : i < Lb.length) (he : La.getD i [] = Lb.getD i []) : La.take (i + 1) = Lb.take (i + 1) := by
  rw [List.take_add_one, List.take_add_one, h, List.getElem?_eq_getElem ha, List.getElem?_eq_getElem hb]
  simp [List.getD, ha, hb] at he
  rw [he]
theorem take_ne {La Lb : List (List Nat)} {i : Nat} (ha : i < La.length) (he : La.getD i [] ≠ Lb.getD i []) : La ≠ Lb := fun h => he (by rw [h])
end Pl
def SamePost (La Lb : List (List Nat)) (w : World) (e : Ending) (w' : World) : Prop := e = .returned (.bool (decide (La = Lb))) ∧ ∃ m, w' = w.drewN m
attribute [local go_sem ↓] conv_eq
set_option maxHeartbeats 1000000 in
theorem same_any (va vb : Value) (La Lb : List (List Nat)) (w : World) (ha : IsRows w va La) (hb : IsRows w vb Lb) : Calls Try.prog 15 #[va, vb] w (SamePost La Lb w) := by
  obtain ⟨a, ca, rfl, hca, hma⟩ := ha.slice
  obtain ⟨b, cb, rfl, hcb, hmb⟩ := hb.slice
  unfold maxLen at hma hmb
  have HA := Lib.hid ha
  have HB := Lib.hid hb
  clear ha hb
  by_cases hl : La.length = Lb.length
  · have hl' : (La.length : Int) = Lb.length := by omega
    rw [← hl] at HB hcb ⊢
    have HL := Lib.hid hl
    clear hl hl'
    go_enter Try.func15, Try.ntmps15
    go_wp2_with fail
    go_loopw [5] (fun x wr => ∃ i : Nat, i ≤ La.length ∧ x = .int .i64 i ∧ La.take i = Lb.take i ∧ ∃ m, wr = w.drewN m) (fun x _ => La.length - (intOf x).toNat)
    case atStart => exact ⟨0, by omega, rfl, rfl, 0, rfl⟩
    case round =>
      obtain ⟨i, hi, rfl, ht, m, hm⟩ := hrel
      have HT := Lib.hid ht
      have HM := Lib.hid hm
      clear ht hm
      by_cases hlt : i < La.length
      · have HA' : IsRows wr (.slice a La.length ca) La := by rw [HM.out]; exact HA.out.drew m
        have HB' : IsRows wr (.slice b La.length cb) Lb := by rw [HM.out]; exact HB.out.drew m
        obtain ⟨ba, oa, a1, c1, rfl, hba, hc1, hI1⟩ := HA'.at hlt
        obtain ⟨bb, ob, a2, c2, rfl, hbb, hc2, hI2⟩ := HB'.at (i := i) (by rw [← HL.out]; exact hlt)
        have hv1 : ∀ k, (convS (.slice a1 (La.getD i []).length c1)).run Try.prog (wr.drewN k) = .ok (.string (str (La.getD i []))) (wr.drewN k) := fun k => run_conv (hI1.drew k)
        have hv2 : ∀ k, (convS (.slice a2 (Lb.getD i []).length c2)).run Try.prog (wr.drewN k) = .ok (.string (str (Lb.getD i []))) (wr.drewN k) := fun k => run_conv (hI2.drew k)
        have hne := str_eqb hI1.1 hI2.1
        have HS := Lib.hid (take_step (i := i) HT.out hlt (by rw [← HL.out]; exact hlt))
        have HN := Lib.hid (take_ne (Lb := Lb) hlt)
        clear hI1 hI2 HA' HB'
        generalize La.getD i [] = X at *
        generalize Lb.getD i [] = Y at *
        by_cases hXY : X = Y
        · have hne' : ((str X).toList == (str Y).toList) = true := by rw [hne]; simpa using hXY
          have HR := Lib.hid (HS.out hXY)
          clear hne hXY
          go_wp2_with fail
          go_quiet (fail)
          go_wp2_with fail
          go_roundw
          case rel => exact ⟨i + 1, by omega, by go_num, HR.out, m + nq, by rw [HM.out, World.drewN_drewN]⟩
          case measure => simp [intOf]; omega
        · have hne' : ((str X).toList == (str Y).toList) = false := by rw [hne]; simpa using hXY
          have HR := Lib.hid (HN.out hXY)
          clear hne hXY
          go_wp2_with fail
          go_quiet (fail)
          go_wp2_with fail
          go_ret
          exact ⟨by rw [decide_eq_false HR.out]; rfl, m + nq, by rw [HM.out, World.drewN_drewN]⟩
      · obtain rfl : i = La.length := by omega
        go_wp2_with fail
        go_ret
        have e := HT.out
        rw [List.take_length, List.take_of_length_le (by rw [HL.out]; omega)] at e
        exact ⟨by rw [decide_eq_true e]; rfl, m, HM.out⟩
  · have hne : La ≠ Lb := fun h => hl (by rw [h])
    have HN := Lib.hid hne
    have hd : ((La.length : Int) != (Lb.length : Int)) = true := by simp; omega
    clear hne
    go_enter Try.func15, Try.ntmps15
    go_wp2_with fail
    go_ret
    exact ⟨by rw [decide_eq_false HN.out]; rfl, 0, rfl⟩
theorem short_old (v : Value) (B : List Nat) (n : Nat) (w0 w : World) (hv : IsBytes w0 v B) (hn : n ≤ 4294967296) :
    Calls Try.prog 13 #[v, .int .i64 n] w fun e w' => ∃ v', e = .returned v' ∧ IsBytes w0 v' (B.take n) ∧ w = w' := by
  obtain ⟨a, cap, rfl, hcap, hmax⟩ := hv.slice
  unfold maxLen at hmax
  have HV := Lib.hid hv
  clear hv
  by_cases h : n < B.length
  · have h1 : (n : Int) ≤ (cap : Int) := by omega
    go_enter Try.func13, Try.ntmps13
    go_wp2
    go_ret
    exact ⟨_, rfl, HV.out.take n (by omega), rfl⟩
  · go_enter Try.func13, Try.ntmps13
    go_wp2
    go_ret
    exact ⟨_, rfl, by rw [List.take_of_length_le (by omega)]; exact HV.out, rfl⟩
namespace Pl
def cutP (L : List (List Nat)) : List (List Nat) := (L.take 5).map (·.take 300)
def cutN (L : List (List Nat)) (i : Nat) : List (List Nat) := (L.take i).map (·.take 300)
theorem cutN_step (L : List (List Nat)) (i : Nat) (h : i < L.length) : cutN L (i + 1) = cutN L i ++ [(L.getD i []).take 300] := by
  unfold cutN
  rw [List.take_add_one, List.getElem?_eq_getElem h, List.map_append]
  simp [List.getD, h]
theorem cutN_length (L : List (List Nat)) (i : Nat) (h : i ≤ L.length) : (cutN L i).length = i := by simp [cutN]; omega
theorem cutP_length (L : List (List Nat)) : (cutP L).length ≤ 5 := by simp [cutP]; omega
theorem cutP_mx (L : List (List Nat)) : mxL (cutP L) ≤ 300 := mxL_le fun B hB => by
  simp only [cutP, List.mem_map] at hB
  obtain ⟨C, _, rfl⟩ := hB
  rw [List.length_take]; omega
theorem cutP_lt {L : List (List Nat)} (h : ∀ B ∈ L, ∀ x ∈ B, x < 256) : ∀ B ∈ cutP L, ∀ x ∈ B, x < 256 := fun B hB => by
  simp only [cutP, List.mem_map] at hB
  obtain ⟨C, hC, rfl⟩ := hB
  exact fun x hx => h C (List.mem_of_mem_take hC) x (List.mem_of_mem_take hx)
theorem cutP_min (L : List (List Nat)) {m : Nat} (h : m = min 5 L.length) : cutP L = cutN L m := by
  subst h
  unfold cutP cutN
  by_cases h : 5 ≤ L.length
  · rw [Nat.min_eq_left h]
  · rw [Nat.min_eq_right (by omega), List.take_length, List.take_of_length_le (by omega)]
end Pl
set_option maxHeartbeats 1000000 in
theorem cut_any (v : Value) (L : List (List Nat)) (w : World) (hr : IsRows w v L) : Calls Try.prog 10 #[v] w fun e w' => ∃ v', e = .returned v' ∧ OwnRows w.heap.size w' v' (cutP L) ∧ Below w.heap.size w w' := by
  obtain ⟨a, cap, rfl, hcap, hmax⟩ := hr.slice
  unfold maxLen at hmax
  obtain ⟨n, hn⟩ : ∃ n, L.length = n := ⟨_, rfl⟩
  have hr' : IsRows w (.slice a n cap) L := by rw [← hn]; exact hr
  rw [hn] at hcap ⊢
  have HR := Lib.hid hr'
  have HN := Lib.hid hn
  obtain ⟨m, hm⟩ : ∃ m, m = min 5 n := ⟨_, rfl⟩
  have hm5 : m ≤ 5 := by omega
  have hmn : m ≤ n := by omega
  have HM := Lib.hid hm
  have HP := Lib.hid (cutP_min L (m := m) (by rw [hn]; exact hm))
  clear hr hr' hn hm
  go_enter Try.func10, Try.ntmps10
  go_wp2_with fail
  go_loopw [3, 4] (fun v x wr => ∃ i : Nat, i ≤ m ∧ x = .int .i64 i ∧ OwnRows w.heap.size wr v (cutN L i) ∧ Below w.heap.size w wr) (fun _ x _ => m - (intOf x).toNat)
  case atStart => exact ⟨0, by omega, rfl, ownRows_nil _ _, Below.refl _ _⟩
  case round =>
    obtain ⟨i, hi, rfl, ho, hb⟩ := hrel
    obtain ⟨sp, cp, rfl, _, _⟩ := ho.slice
    have hlen := cutN_length L i (by rw [HN.out]; omega)
    rw [hlen] at ho ⊢
    have HO := Lib.hid ho
    have HB := Lib.hid hb
    have hsz := hb.size
    clear ho hb hlen
    by_cases hlt : i < m
    · obtain ⟨b, off, a', c', rfl, hbl, hc, hI⟩ := HR.out.at (i := i) (by rw [HN.out]; omega)
      have c0 := (HB.out.cell (p := ⟨b, off + i, none⟩) hbl).trans hc
      have HI := Lib.hid hI
      have HS := Lib.hid (cutN_step L i (by rw [HN.out]; omega))
      have hx1 : (i : Int) < (n : Int) := by omega
      have hx2 : (i : Int) < 5 := by omega
      have hcl := short_old _ _ 300 w wr HI.out (by omega)
      have HCL := Lib.hid hcl
      clear hI hc hcl
      generalize (L.getD i []).length = q at *
      go_wp2_with fail
      refine HCL.out.mono ?_
      rintro e w2 ⟨v2, rfl, hi2, rfl⟩
      obtain ⟨a2, c2, rfl, _, _⟩ := hi2.slice
      have HE := Lib.hid (elem_old hi2 HB.out)
      have HL := Lib.hid (show (cutN L i).length ≤ 5 by rw [cutN_length L i (by rw [HN.out]; omega)]; omega)
      obtain ⟨P, hP⟩ : ∃ P, (L.getD i []).take 300 = P := ⟨_, rfl⟩
      rw [hP] at HE HS ⊢
      clear hi2 hP HI HCL
      go_wp2_with (at_builtin; refine wpList_append_str1 rfl (.tmp 15) (.tmp 21) rfl w.heap.size (.slice sp i cp) (cutN L i) rfl HO.out P _ _ _ HE.out rfl (by have := HL.out; omega) hsz ?_; intro v4 w4 hown hgr; obtain ⟨sp4, cp4, rfl, _, _⟩ := hown.slice)
      go_roundw
      case rel =>
        refine ⟨i + 1, by omega, by go_num, ?_, (HB.out.alloc hsz _).grown hgr (by simp; omega) HO.out.lt⟩
        rw [HS.out]
        rw [List.length_append] at hown
        exact hown
      case measure => simp [intOf]; omega
    · obtain rfl : i = m := by omega
      have hend : (n : Int) ≤ i ∨ ((i : Int) < n ∧ (5 : Int) ≤ i) := by have := HM.out; omega
      clear hlt hi
      rcases hend with h | ⟨h, h2⟩
      all_goals
        go_wp2_with fail
        go_ret
        rw [HP.out]
        exact ⟨_, rfl, HO.out, HB.out⟩
/-- a row of byte strings that is known by its block -/
theorem isRows_blk {w : World} {g n : Nat} {Vs : List Value} {L : List (List Nat)} {r : Nat × Nat} (h : w.heap[g]? = some (.cells Vs.toArray 23 r)) (hV : Vs.length = n) (hL : L.length = n) (hn : n ≤ maxLen) (hc : ∀ (i : Nat) (u : Value) (B : List Nat), Vs[i]? = some u → L[i]? = some B → IsBytes w u B) : IsRows w (.slice (some ⟨g, 0, none⟩) n n) L :=
  ⟨some ⟨g, 0, none⟩, n, Vs, by rw [hL], by omega, hn, by rw [hV, hL], fun i u hu => ⟨_, rfl, by rw [addr_add, Nat.zero_add]; simp [World.cell?, h, hu]⟩, hc⟩
theorem two_rows {w : World} {g : Nat} {u0 u1 : Value} {A B : List Nat} (h : w.heap[g]? = some (.cells #[u0, u1] 23 (0, 0))) (h0 : IsBytes w u0 A) (h1 : IsBytes w u1 B) : IsRows w (.slice (some ⟨g, 0, none⟩) 2 2) [A, B] :=
  isRows_blk (Vs := [u0, u1]) h rfl rfl (by unfold maxLen; omega) (fun i u C hu hC => by
    match i with
    | 0 => simp at hu hC; subst hu hC; exact h0
    | 1 => simp at hu hC; subst hu hC; exact h1
    | i + 2 => simp at hu)
attribute [local go_sem ↓] conv_eq
set_option maxHeartbeats 4000000 in
theorem begun_any (w : World) : Calls Try.prog 9 #[] w fun e w' => e = .returned (.bool true) ∧ Below w.heap.size w w' := by
  have kc := fun (w : World) (C : Array Value) (n c : Nat) => Lib.run_convert_bytes_const (P := Try.prog) w 23 5 C n c Try.underlying23 Try.underlying5
  have kc2 : ∀ C : Array Value, ∀ n c, (convert 23 23 (.slice (some ⟨w.heap.size + 1, 0, none⟩) n c)).run Try.prog ((w.alloc (.cells #[.int .u8 97, .int .u8 98] 5 (2, 3))).alloc (.cells C 5)) = .ok (.slice (some ⟨w.heap.size + 1, 0, none⟩) n c) ((w.alloc (.cells #[.int .u8 97, .int .u8 98] 5 (2, 3))).alloc (.cells C 5 (C.size, C.size + 1))) := fun C n c => by
    have := kc (w.alloc (.cells #[.int .u8 97, .int .u8 98] 5 (2, 3))) C n c
    rw [World.size_alloc] at this
    exact this
  have hW : IsRows (((w.alloc (.cells #[.int .u8 97, .int .u8 98] 5 (2, 3))).alloc (.cells #[.int .u8 99] 5 (1, 2))).alloc (.cells #[.slice (some ⟨w.heap.size, 0, none⟩) 2 2, .slice (some ⟨w.heap.size + 1, 0, none⟩) 1 1] 23)) (.slice (some ⟨w.heap.size + 1 + 1, 0, none⟩) 2 2) [[97, 98], [99]] := by
    have h1 := isBytes_mark w [97, 98] (2, 3) (by simp) (by simp [maxLen])
    have h2 := isBytes_mark (w.alloc (.cells #[.int .u8 97, .int .u8 98] 5 (2, 3))) [99] (1, 2) (by simp) (by simp [maxLen])
    rw [World.size_alloc] at h2
    have b1 : Below (w.alloc (.cells #[.int .u8 97, .int .u8 98] 5 (2, 3))).heap.size (w.alloc (.cells #[.int .u8 97, .int .u8 98] 5 (2, 3))) (((w.alloc (.cells #[.int .u8 97, .int .u8 98] 5 (2, 3))).alloc (.cells #[.int .u8 99] 5 (1, 2))).alloc (.cells #[.slice (some ⟨w.heap.size, 0, none⟩) 2 2, .slice (some ⟨w.heap.size + 1, 0, none⟩) 1 1] 23)) := ((Below.refl _ _).alloc (Nat.le_refl _) _).alloc (by simp) _
    have b2 : Below ((w.alloc (.cells #[.int .u8 97, .int .u8 98] 5 (2, 3))).alloc (.cells #[.int .u8 99] 5 (1, 2))).heap.size ((w.alloc (.cells #[.int .u8 97, .int .u8 98] 5 (2, 3))).alloc (.cells #[.int .u8 99] 5 (1, 2))) (((w.alloc (.cells #[.int .u8 97, .int .u8 98] 5 (2, 3))).alloc (.cells #[.int .u8 99] 5 (1, 2))).alloc (.cells #[.slice (some ⟨w.heap.size, 0, none⟩) 2 2, .slice (some ⟨w.heap.size + 1, 0, none⟩) 1 1] 23)) := (Below.refl _ _).alloc (Nat.le_refl _) _
    refine two_rows ?_ (h1.below b1) (h2.below b2)
    have := heap_alloc_new ((w.alloc (.cells #[.int .u8 97, .int .u8 98] 5 (2, 3))).alloc (.cells #[.int .u8 99] 5 (1, 2))) (.cells #[.slice (some ⟨w.heap.size, 0, none⟩) 2 2, .slice (some ⟨w.heap.size + 1, 0, none⟩) 1 1] 23)
    rw [World.size_alloc, World.size_alloc] at this
    exact this
  have HW := Lib.hid hW
  clear hW
  go_enter Try.func9, Try.ntmps9
  go_wp2_with fail
  refine (make_any _ _ _ HW.out (by simp) (by decide)).mono ?_
  intro e w4 h4
  obtain ⟨sp4, cp4, rfl, ho4, hb4⟩ := h4.s
  have hbw4 : Below w.heap.size w w4 := ((((Below.refl _ _).alloc (Nat.le_refl _) _).alloc (by simp) _).alloc (by simp; omega) _).trans (hb4.mono (by simp; omega))
  have hI4 := isBytes_own (parP_lt (L := [[97, 98], [99]]) (by simp)) ho4
  rw [show (parP [[97, 98], [99]]).length = 2 by decide] at ho4 hI4 ⊢
  have HO4 := Lib.hid ho4
  have HI4 := Lib.hid hI4
  have HB4 := Lib.hid hbw4
  clear h4 ho4 hI4 hb4 hbw4 HW kc2
  obtain ⟨W8, hW8⟩ : ∃ W8, ((((w4.alloc (.cells #[.int .u8 99] 5 (1, 2))).alloc (.cells #[.slice none 0 0, .slice (some ⟨w4.heap.size, 0, none⟩) 1 1] 23)).alloc (.cells #[.int .i64 2, .int .i64 1] 3)).alloc (.cells #[.bool true, .bool false] 4)) = W8 := ⟨_, rfl⟩
  have q1 : Below w4.heap.size w4 (w4.alloc (.cells #[.int .u8 99] 5 (1, 2))) := (Below.refl _ _).alloc (Nat.le_refl _) _
  have q4 : ∀ (X : World) (o : Obj), Below X.heap.size X (X.alloc o) := fun X o => (Below.refl _ _).alloc (Nat.le_refl _) _
  have hI : IsBytes (w4.alloc (.cells #[.int .u8 99] 5 (1, 2))) (.slice (some ⟨w4.heap.size, 0, none⟩) 1 1) [99] := isBytes_mark w4 [99] (1, 2) (by simp) (by simp [maxLen])
  have hR2 : IsRows ((w4.alloc (.cells #[.int .u8 99] 5 (1, 2))).alloc (.cells #[.slice none 0 0, .slice (some ⟨w4.heap.size, 0, none⟩) 1 1] 23)) (.slice (some ⟨w4.heap.size + 1, 0, none⟩) 2 2) [[], [99]] := by
    refine two_rows ?_ (isBytes_nil _) (hI.below (q4 _ _))
    have := heap_alloc_new (w4.alloc (.cells #[.int .u8 99] 5 (1, 2))) (.cells #[.slice none 0 0, .slice (some ⟨w4.heap.size, 0, none⟩) 1 1] 23)
    rw [World.size_alloc] at this
    exact this
  have hR8 : IsRows W8 (.slice (some ⟨w4.heap.size + 1, 0, none⟩) 2 2) [[], [99]] := by rw [← hW8]; exact (hR2.below (q4 _ _)).below (q4 _ _)
  have hS8 : IsInts W8 (.slice (some ⟨w4.heap.size + 1 + 1, 0, none⟩) 2 2) (lens [[97, 98], [99]]) := by
    have := isInts_new ((w4.alloc (.cells #[.int .u8 99] 5 (1, 2))).alloc (.cells #[.slice none 0 0, .slice (some ⟨w4.heap.size, 0, none⟩) 1 1] 23)) (lens [[97, 98], [99]]) (0, 0) (by simp [lens, maxLen])
    rw [World.size_alloc, World.size_alloc] at this
    rw [← hW8]
    exact this.below (q4 _ _)
  have hD8 : IsBls W8 (.slice (some ⟨w4.heap.size + 1 + 1 + 1, 0, none⟩) 2 2) [true, false] := by
    have := Blk.new (((w4.alloc (.cells #[.int .u8 99] 5 (1, 2))).alloc (.cells #[.slice none 0 0, .slice (some ⟨w4.heap.size, 0, none⟩) 1 1] 23)).alloc (.cells #[.int .i64 2, .int .i64 1] 3)) 4 (bls [true, false])
    rw [World.size_alloc, World.size_alloc, World.size_alloc] at this
    rw [← hW8]
    exact isBls_blk this rfl (by unfold maxLen; omega)
  have hb8 : Below w4.heap.size w4 W8 := by
    rw [← hW8]
    exact (((q1.alloc (by simp) _).alloc (by simp; omega) _).alloc (by simp; omega) _)
  have hP8 := HI4.out.below hb8
  have hrep := repair_any _ _ _ _ _ _ _ _ W8 hR8 (elemRows_old hR8 (by intro n c h; cases h) (Below.refl _ _)) hP8 hS8 hD8 (by simp) (by decide) (by simp [lens]) (by rw [parP_length]; decide)
  have HREP := Lib.hid hrep
  have HB8 := Lib.hid (HB4.out.trans (hb8.mono HB4.out.size))
  have HO8 := Lib.hid (own_below HO4.out hb8)
  clear q1 q4 hI hR2 hR8 hS8 hD8 hb8 hP8 hrep HI4 HO4 HB4
  go_wp2_with fail
  refine HREP.out.mono ?_
  intro e w9 h9
  obtain ⟨hb9, G, rfl, hr9⟩ := repair_same (X := [[], [99]]) (L0 := [[97, 98], [99]]) rfl rfl (fun i j hi hj => by
    match i, j with
    | 0, 0 => rfl
    | 0, j + 1 => (match j with | 0 => simp at hj | j + 1 => simp at hj)
    | i + 1, _ => (match i with | 0 => simp at hi | i + 1 => simp at hi)) (fun i hi => by
    match i with
    | 0 => simp at hi
    | i + 1 => rfl) h9
  have HO9 := Lib.hid (own_below HO8.out hb9)
  have HB9 := Lib.hid (HB8.out.trans (hb9.mono HB8.out.size))
  have hr9' : IsRows w9 (.slice (some ⟨G, 0, none⟩) 2 2) [[97, 98], [99]] := hr9
  obtain ⟨b, off, a', c', hGe, _, c0, hI0⟩ := hr9'.at (i := 0) (by simp)
  simp at hGe
  obtain ⟨rfl, rfl⟩ := hGe
  have hIab : IsBytes w9 (.slice a' 2 c') [97, 98] := hI0
  have c0' : w9.cell? ⟨G, 0, none⟩ = some (.slice a' 2 c') := c0
  have hj := run_conv hIab
  rw [show str [97, 98] = { data := #[97, 98] } from rfl] at hj
  obtain ⟨g4, cap4, hsp4, _, _, _, _⟩ := own_open HO9.out (by omega)
  simp at hsp4
  obtain ⟨rfl, rfl⟩ := hsp4
  have d0 := own_cell HO9.out (i := 0) (by omega)
  have d1 := own_cell HO9.out (i := 1) (by omega)
  rw [show (parP [[97, 98], [99]]).getD 0 0 = 2 by decide] at d0
  rw [show (parP [[97, 98], [99]]).getD 1 0 = 98 by decide] at d1
  clear HREP h9 hb9 hr9 hr9' c0 hI0 hIab HO8 HO9 HB8 hW8
  rw [show ([[97, 98], [99]] : List (List Nat)).length = 2 from rfl]
  go_wp2_with fail
  go_ret
  exact ⟨rfl, HB9.out⟩
end Go.Proofs.Ytacgaflhcmflbaa

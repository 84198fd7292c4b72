/- CrcBurst, walked. -/
import Derived.Test.YtoajgeemkmfboaaDoorCrcK
set_option linter.unusedSimpArgs false
set_option linter.unusedVariables false
namespace Go.Proofs.YtoajgeemkmfboaaDoor
open Go.RowKit Pl

namespace Pl
theorem ext_getD {A B : List Nat} (h : A.length = B.length) (h2 : ∀ i, i < A.length → A.getD i 0 = B.getD i 0) : A = B := by
  apply List.ext_getElem h
  intro i h1 h3
  have := h2 i h1
  simpa [List.getD, h1, h3] using this
/-- i bytes of X laid over S from A on -/
def burst (S : List Nat) (A : Nat) (X : List Nat) : Nat → List Nat
  | 0 => S
  | i + 1 => (burst S A X i).set (A + i) ((burst S A X i).getD (A + i) 0 ^^^ X.getD i 0)
theorem burst_length (S : List Nat) (A : Nat) (X : List Nat) (i : Nat) : (burst S A X i).length = S.length := by
  induction i with
  | zero => rfl
  | succ i ih => simp [burst, ih]
theorem getD_set (l : List Nat) (i j v : Nat) : (l.set i v).getD j 0 = if i = j ∧ j < l.length then v else l.getD j 0 := by
  rw [List.getD_eq_getElem?_getD, List.getElem?_set, List.getD_eq_getElem?_getD]
  by_cases e : i = j
  · subst e
    by_cases h : i < l.length
    · simp [h]
    · simp [h]
  · simp [e]
theorem burst_get (S : List Nat) (A : Nat) (X : List Nat) (i : Nat) (h : A + i ≤ S.length) (j : Nat) :
    (burst S A X i).getD j 0 = if A ≤ j ∧ j < A + i then S.getD j 0 ^^^ X.getD (j - A) 0 else S.getD j 0 := by
  induction i generalizing j with
  | zero => rw [if_neg (by omega)]; rfl
  | succ i ih =>
    have h1 := ih (by omega) j
    have h2 := ih (by omega) (A + i)
    rw [if_neg (by omega)] at h2
    unfold burst
    rw [getD_set, burst_length, h2]
    by_cases e : A + i = j
    · subst e
      rw [if_pos (by omega), if_pos (by omega), Nat.add_sub_cancel_left]
    · rw [if_neg (by omega), h1]
      by_cases c : A ≤ j ∧ j < A + i
      · rw [if_pos c, if_pos (by omega)]
      · rw [if_neg c, if_neg (by omega)]
theorem burst_lt {S X : List Nat} (hS : ∀ x ∈ S, x < 256) (hX : ∀ x ∈ X, x < 256) (A i : Nat) : ∀ x ∈ burst S A X i, x < 256 := by
  induction i with
  | zero => exact hS
  | succ i ih =>
    intro x hx
    rcases List.mem_or_eq_of_mem_set hx with h | h
    · exact ih x h
    · rw [h]; exact Nat.xor_lt_two_pow (n := 8) (getD_lt ih _) (getD_lt hX _)
theorem cut3 (S : List Nat) (A m : Nat) : S = S.take A ++ ((S.drop A).take m ++ S.drop (A + m)) := by
  rw [← List.drop_drop, List.take_append_drop, List.take_append_drop]
theorem burst_sum {S X : List Nat} (hS : ∀ x ∈ S, x < 256) (hX : ∀ x ∈ X, x < 256) {A k : Nat} (h : A + X.length ≤ S.length) (h4 : X.length ≤ 4) (hk : k < X.length) (hne : X.getD k 0 ≠ 0) : csum S ≠ csum (burst S A X X.length) := by
  intro e
  have hg := burst_get S A X X.length h
  have hl := burst_length S A X X.length
  have hT := burst_lt hS hX A X.length
  generalize burst S A X X.length = T at *
  have e1 : T.take A = S.take A := by
    apply ext_getD (by simp [hl])
    intro i hi
    rw [List.length_take] at hi
    have := hg i
    rw [if_neg (by omega)] at this
    simpa [List.getD_eq_getElem?_getD, List.getElem?_take, show i < A by omega] using this
  have e2 : T.drop (A + X.length) = S.drop (A + X.length) := by
    apply ext_getD (by simp [hl])
    intro i hi
    have := hg (A + X.length + i)
    rw [if_neg (by omega)] at this
    simpa [List.getD_eq_getElem?_getD, List.getElem?_drop] using this
  have c1 := cut3 S A X.length
  have c2 := cut3 T A X.length
  rw [e1, e2] at c2
  have hM := csum_burst (M := (S.drop A).take X.length) (M' := (T.drop A).take X.length) (L := S.take A) (R := S.drop (A + X.length)) (fun x hx => hS x (List.mem_of_mem_take hx)) (fun x hx => hS x (List.mem_of_mem_drop (List.mem_of_mem_take hx))) (fun x hx => hT x (List.mem_of_mem_drop (List.mem_of_mem_take hx))) (fun x hx => hS x (List.mem_of_mem_drop hx)) (by simp [hl]) (by rw [List.length_take]; omega) (by rw [← c1, ← c2]; exact e)
  have hk1 := congrArg (fun l : List Nat => l.getD k 0) hM
  have hgk := hg (A + k)
  rw [if_pos (by omega), Nat.add_sub_cancel_left] at hgk
  simp only [List.getD_eq_getElem?_getD, List.getElem?_take, List.getElem?_drop, if_pos hk] at hk1 hgk
  rw [hgk] at hk1
  exact xor_ne (a := S[A + k]?.getD 0) (x := X[k]?.getD 0) (by simpa [List.getD_eq_getElem?_getD] using hne) hk1.symm
/-- is one of the first i not nought? -/
def anyN (X : List Nat) (i : Nat) : Bool := (X.take i).any (· != 0)
theorem anyN_succ (X : List Nat) (i : Nat) (h : i < X.length) : anyN X (i + 1) = (anyN X i || (X.getD i 0 != 0)) := by
  unfold anyN
  rw [List.take_add_one, List.getElem?_eq_getElem h, List.any_append]
  simp [List.getD, h]
theorem anyN_some {X : List Nat} (h : anyN X X.length = true) : ∃ k, k < X.length ∧ X.getD k 0 ≠ 0 := by
  unfold anyN at h
  rw [List.take_length, List.any_eq_true] at h
  obtain ⟨x, hx, h2⟩ := h
  obtain ⟨k, hk, rfl⟩ := List.getElem_of_mem hx
  exact ⟨k, hk, by simpa [List.getD, hk] using h2⟩
end Pl
theorem ne_zero_int (x : Nat) : (((x : Nat) : Int) != 0) = (x != 0) := by
  rw [Bool.eq_iff_iff]
  simp

set_option maxHeartbeats 4000000 in
theorem crcBurst_walk (a : Option Addr) (len cap : Nat) (z : List Int) (at' : Int) (ax : Option Addr) (lx cx : Nat) (zx : List Int) (w : World) (hT : Tab w) (hr : IsRow .u8 w a len cap z) (hat : (Lit.int .i64 at').wf = true) (hrx : IsRow .u8 w ax lx cx zx) :
    Calls Tryd.prog 9 #[.slice a len cap, .int .i64 at', .slice ax lx cx] w fun e w' => e = .returned (.bool true) ∧ Below w.heap.size w w' := by
  obtain ⟨hV, hlen⟩ := isBytes_row hr
  obtain ⟨hV2, hlen2⟩ := isBytes_row hrx
  have HV := Lib.hid hV
  have HV2 := Lib.hid hV2
  have HT := Lib.hid hT
  clear hV hV2 hT hr hrx
  go_enter Tryd.func9, Tryd.ntmps9
  go_wp2_with fail
  refine (begun_any _ HT.out).mono ?_
  rintro e w1 ⟨rfl, hb1⟩
  have HV1 := Lib.hid (HV.out.below hb1)
  have HX1 := Lib.hid (HV2.out.below hb1)
  have HT1 := Lib.hid (HT.out.below hb1)
  have HB1 := Lib.hid hb1
  have hsz1 := hb1.size
  clear hb1 HV HT HV2
  go_wp2_with fail
  refine (short_any _ _ 200 _ HV1.out (by omega)).mono ?_
  rintro e w2 ⟨v2, rfl, hi2, rfl⟩
  obtain ⟨S, hS⟩ : ∃ S, S = (bytesZ z len).take 200 := ⟨_, rfl⟩
  have hSl : S.length ≤ 200 := by rw [hS, List.length_take]; omega
  rw [← hS] at hi2
  obtain ⟨a2, c2, rfl, hc2, hm2⟩ := hi2.slice
  unfold maxLen at hm2
  have HI := Lib.hid hi2
  clear hi2 hS HV1
  go_wp2_with fail
  refine (short_any _ _ 4 _ HX1.out (by omega)).mono ?_
  rintro e w2 ⟨v3, rfl, hi3, rfl⟩
  obtain ⟨X, hX⟩ : ∃ X, X = (bytesZ zx lx).take 4 := ⟨_, rfl⟩
  have hXl : X.length ≤ 4 := by rw [hX, List.length_take]; omega
  rw [← hX] at hi3
  obtain ⟨a3, c3, rfl, hc3, hm3⟩ := hi3.slice
  unfold maxLen at hm3
  have HX := Lib.hid hi3
  clear hi3 hX HX1
  go_wp2_with fail
  go_loop [8, 9] (fun v x => ∃ i : Nat, i ≤ X.length ∧ x = .int .i64 i ∧ v = .bool (anyN X i)) (fun _ x => X.length - (intOf x).toNat)
  case atStart => exact ⟨0, by omega, rfl, rfl⟩
  case round =>
    obtain ⟨i, hi, rfl, rfl⟩ := hrel
    by_cases hlt : i < X.length
    · have HN := Lib.hid (anyN_succ X i hlt)
      generalize anyN X i = b at *
      cases b
      · obtain ⟨bx, ox, cx', hsx, _, _, _, hcx⟩ := HX.out.cells (by omega)
        simp at hsx
        obtain ⟨rfl, rfl⟩ := hsx
        have c0 := hcx i hlt
        generalize X.getD i 0 = xi at *
        clear hcx
        go_wp2_with fail
        go_round
        case rel => exact ⟨i + 1, by omega, by go_num, by rw [HN.out, Bool.false_or, ← ne_zero_int]⟩
        case measure => simp [intOf]; omega
      · go_wp2_with fail
        go_round
        case rel => exact ⟨i + 1, by omega, by go_num, by rw [HN.out, Bool.true_or]⟩
        case measure => simp [intOf]; omega
    · obtain rfl : i = X.length := by omega
      have hbe : ∀ b, anyN X X.length = b → (b = true → ∃ k, k < X.length ∧ X.getD k 0 ≠ 0) := fun b hb h => anyN_some (hb.trans h)
      obtain ⟨b, hb⟩ : ∃ b, b = anyN X X.length := ⟨_, rfl⟩
      rw [← hb]
      have HSO := Lib.hid (hbe b hb.symm)
      clear hbe hb hlt hi
      by_cases hneg : at' < 0
      · go_wp2_with fail
        go_ret
        exact ⟨rfl, HB1.out⟩
      · by_cases hbig : (S.length : Int) - X.length < at'
        · go_wp2_with fail
          go_ret
          exact ⟨rfl, HB1.out⟩
        · cases b
          · go_wp2_with fail
            go_ret
            exact ⟨rfl, HB1.out⟩
          · obtain ⟨k, hk, hkn⟩ := HSO.out rfl
            obtain ⟨A, rfl⟩ := Int.eq_ofNat_of_zero_le (show 0 ≤ at' by omega)
            have hAX : A + X.length ≤ S.length := by omega
            have HSUM := Lib.hid (burst_sum HI.out.1 HX.out.1 hAX hXl hk hkn)
            have hX0 : 0 < X.length := by omega
            have hS0 : 0 < S.length := by omega
            have hneg' : decide ((A : Int) < 0) = false := by simp
            have hbig' : decide ((S.length : Int) - X.length < (A : Int)) = false := by simp; omega
            have HN := Lib.hid hneg
            have HBG := Lib.hid hbig
            clear HSO hk hkn hneg hbig
            go_wp2_with (at_builtin; refine wpList_append_bytes rfl _ (.tmp 48) rfl w1.heap.size (.slice none 0 0) 0 [] rfl (own_nil _ _) _ S rfl HI.out (by omega) (Nat.le_refl _) ?_; intro v3 w3 hown hgr; have HO3 : Hid (w3.ownsRow w1.heap.size 5 1 v3 S.length (u8s S)) := Lib.hid (by rw [Nat.zero_add] at hown; exact hown); have HB3 : Hid (Below w1.heap.size w1 w3) := Lib.hid ⟨hgr.os, hgr.tape, hgr.output, hgr.size, fun k hk => hgr.block k hk (by simp [Value.ownBlock])⟩; rw [Nat.zero_add] at hown; obtain ⟨g, cp3, rfl, hg, hgl, hnc, hcm⟩ := own_open hown (by omega); clear hown hgr)
            go_loopw [11] (fun x wr => ∃ i : Nat, i ≤ X.length ∧ x = .int .i64 i ∧ wr.ownsRow w1.heap.size 5 1 (.slice (some ⟨g, 0, none⟩) S.length cp3) S.length (u8s (burst S A X i)) ∧ Below w1.heap.size w1 wr) (fun x _ => X.length - (intOf x).toNat)
            case atStart => exact ⟨0, by omega, rfl, HO3.out, HB3.out⟩
            case round =>
              obtain ⟨i, hi, rfl, ho, hb⟩ := hrel
              have HO := Lib.hid ho
              have HB := Lib.hid hb
              have hsz := hb.size
              clear ho hb HO3 HB3
              by_cases hlt : i < X.length
              · obtain ⟨bx, ox, cx', hsx, _, _, _, hcx⟩ := (HX.out.below HB.out).cells (by omega)
                simp at hsx
                obtain ⟨rfl, rfl⟩ := hsx
                have c1 := hcx i hlt
                obtain ⟨j, hj⟩ : ∃ j, j = A + i := ⟨_, rfl⟩
                have hjl : j < S.length := by omega
                have hji : (A : Int) + i = (j : Int) := by omega
                have c0 := own_cell HO.out hjl
                have f0 := HO.out.frozenAt j
                have l1 := getD_lt (burst_lt HI.out.1 HX.out.1 A i) j
                have l2 := getD_lt HX.out.1 i
                have hbs : burst S A X (i + 1) = (burst S A X i).set j ((burst S A X i).getD j 0 ^^^ X.getD i 0) := by rw [hj]; rfl
                have HBS := Lib.hid hbs
                clear hbs
                generalize (burst S A X i).getD j 0 = xa at *
                generalize X.getD i 0 = xb at *
                have e1 : bits BinOp.xor IntKind.u8 (xa : Int) (xb : Int) = ((xa ^^^ xb : Nat) : Int) := u8_xor_nat _ _ l1 l2
                have hst := HO.out.stored j (.int .u8 ((xa ^^^ xb : Nat) : Int))
                rw [u8s_set, ← HBS.out] at hst
                have HST := Lib.hid hst
                have HJ := Lib.hid hj
                clear hst hcx hj
                go_wp2_with fail
                go_region
                go_wp2_with fail
                go_roundw
                case rel => exact ⟨i + 1, by omega, by go_num, HST.out.1, (HB.out.grown HST.out.2 hsz (by intro k hk; simp at hk; omega)).drew⟩
                case measure => simp [intOf]; omega
              · obtain rfl : i = X.length := by omega
                have HD : Hid (IsBytes wr (.slice (some ⟨g, 0, none⟩) S.length cp3) (burst S A X X.length)) := Lib.hid (isBytes_ownS (burst_lt HI.out.1 HX.out.1 A _) (burst_length S A X _).symm (by rw [burst_length]; exact HO.out))
                have hfin : (((csum S : Nat) : Int) != ((csum (burst S A X X.length) : Nat) : Int)) = true := bne_t (by have := HSUM.out; omega)
                generalize burst S A X X.length = T at *
                go_wp2_with fail
                refine (sum_any _ _ _ (HT1.out.below HB.out) (HI.out.below HB.out)).mono ?_
                rintro e w5 ⟨rfl, rfl⟩
                go_wp2_with fail
                refine (sum_any _ _ _ (HT1.out.below HB.out) HD.out).mono ?_
                rintro e w5 ⟨rfl, rfl⟩
                go_wp2_with fail
                go_ret
                exact ⟨rfl, HB1.out.trans (HB.out.mono hsz1)⟩
end Go.Proofs.YtoajgeemkmfboaaDoor

/- zeros.fill, zeros.Decode: contracts. -/
import Derived.Test.YtaoafplijjpoaaaZerA
import Derived.Test.YtaoafplijjpoaaaZerB
import Derived.Test.YtaoafplijjpoaaaZerC
set_option linter.unusedSimpArgs false
set_option linter.unusedVariables false
namespace Go.Proofs.Ytaoafplijjpoaaa
open Go.RowKit Pl
namespace Pl
theorem step_digit {x : Int} {t : List Int} {acc X : List Nat} {p left : Nat} (h : ans (x :: t) acc p left = (0, X)) (ht : t ≠ []) (h1 : x ≤ 1) :
    0 ≤ x ∧ (x.toNat + 1) * 2 ^ p ≤ left ∧ ans t (acc ++ List.replicate ((x.toNat + 1) * 2 ^ p) 0) (p + 1) (left - (x.toNat + 1) * 2 ^ p) = (0, X) := by
  by_cases h0 : x < 0
  · rw [ans_bad _ _ _ (.inl h0)] at h; simp at h
  · by_cases h2 : (x.toNat + 1) * 2 ^ p ≤ left
    · rw [ans_digit _ _ _ (by omega) h1 h2] at h
      exact ⟨by omega, h2, h⟩
    · rw [ans_much _ _ _ (by omega) h1 (by omega)] at h; simp at h
theorem step_byte {x : Int} {t : List Int} {acc X : List Nat} {p left : Nat} (h : ans (x :: t) acc p left = (0, X)) (ht : t ≠ []) (h1 : ¬ x ≤ 1) :
    x < 257 ∧ 0 < left ∧ ans t (acc ++ [(x - 1).toNat]) 0 (left - 1) = (0, X) := by
  by_cases h0 : 257 ≤ x
  · have h5 : x < 0 ∨ 257 < x ∨ (x = 257 ∧ t ≠ []) := by
      rcases (show x = 257 ∨ 257 < x by omega) with e | e
      · exact .inr (.inr ⟨e, ht⟩)
      · exact .inr (.inl e)
    rw [ans_bad _ _ _ h5] at h; simp at h
  · by_cases h2 : left = 0
    · subst h2
      rw [ans_full _ _ (by omega) (by omega)] at h; simp at h
    · rw [ans_byte _ _ _ (by omega) (by omega) (by omega)] at h
      exact ⟨by omega, by omega, h⟩
theorem step_last {x : Int} {acc X : List Nat} {p left : Nat} (h : ans [x] acc p left = (0, X)) : acc = X := by
  by_cases h0 : x = 257
  · subst h0; rw [ans_end] at h; simpa using h
  · by_cases h1 : x < 0 ∨ 257 < x
    · rw [ans_bad _ _ _ (by omega)] at h; simp at h
    · by_cases h2 : x ≤ 1
      · by_cases h3 : (x.toNat + 1) * 2 ^ p ≤ left
        · rw [ans_digit _ _ _ (by omega) h2 h3] at h; simp [ans] at h
        · rw [ans_much _ _ _ (by omega) h2 (by omega)] at h; simp at h
      · by_cases h3 : left = 0
        · subst h3; rw [ans_full _ _ (by omega) (by omega)] at h; simp at h
        · rw [ans_byte _ _ _ (by omega) (by omega) (by omega)] at h; simp [ans] at h
/-- the bytes that are laid, and noughts behind them -/
def laid (acc : List Nat) (n : Nat) : List Nat := acc ++ List.replicate (n - acc.length) 0
theorem laid_zeros (acc : List Nat) (n k : Nat) (h : acc.length + k ≤ n) : laid (acc ++ List.replicate k 0) n = laid acc n := by
  unfold laid
  rw [List.length_append, List.length_replicate, List.append_assoc, List.replicate_append_replicate]
  congr 2
  omega
theorem laid_set (acc : List Nat) (n c : Nat) (h : acc.length < n) : (laid acc n).set acc.length c = laid (acc ++ [c]) n := by
  unfold laid
  rw [List.set_append_right _ _ (Nat.le_refl _), Nat.sub_self, show n - acc.length = n - (acc.length + 1) + 1 by omega, List.replicate_succ, List.set_cons_zero, List.length_append, List.append_assoc]
  rfl
theorem laid_all (acc : List Nat) : laid acc acc.length = acc := by simp [laid]
theorem laid_length (acc : List Nat) (n : Nat) (h : acc.length ≤ n) : (laid acc n).length = n := by simp [laid]; omega
end Pl
theorem add_fits {x : Int} {p left at_ : Nat} (h0 : 0 ≤ x) (h : (x.toNat + 1) * 2 ^ p ≤ left) (hl : at_ + left ≤ 4294967296) : wrap64 ((at_ : Int) + wrap64 ((x + 1) * 2 ^ min p 64)) = ((at_ + (x.toNat + 1) * 2 ^ p : Nat) : Int) := by
  rw [shl_one h0 h (by omega)]
  generalize (x.toNat + 1) * 2 ^ p = q at *
  unfold wrap64
  omega

attribute [local go_sem ↓] sliceI_eq
set_option maxHeartbeats 4000000 in
theorem fill_any (g n : Nat) (v : Value) (L : List Int) (X : List Nat) (most : Nat) (w0 w : World) (hv : IsInts w0 v L) (hL : L.length ≤ 4294967296) (hm : most ≤ 4294967296) (hb : Below w0.heap.size w0 w) (hg : w0.heap.size ≤ g)
    (hX : ans L [] 0 most = (0, X)) (hn : X.length = n) (hB : Blk w g 5 (u8s (List.replicate n 0))) :
    Calls Try.prog 15 #[.slice (some ⟨g, 0, none⟩) n n, v] w fun e w' => e = .returned (.tuple #[]) ∧ Blk w' g 5 (u8s X) ∧ Below w0.heap.size w0 w' := by
  obtain ⟨a, cap, rfl, hcap, hmax⟩ := hv.slice
  unfold maxLen at hmax
  have hpos : 0 < L.length := by
    cases L with
    | nil => simp [ans] at hX
    | cons x t => simp
  obtain ⟨a1, c1, hsl, hI⟩ := run_uptoI (hv.below hb) rfl (L.length - 1) ((L.length : Int) - 1) (by omega) (by omega)
  have HI : Hid (IsInts w0 (.slice a1 (L.length - 1) c1) (L.take (L.length - 1))) := Lib.hid (by
    obtain ⟨a2, c2, hs2, hI2⟩ := run_uptoI hv rfl (L.length - 1) ((L.length : Int) - 1) (by omega) (by omega)
    have e := (hsl w0).symm.trans (hs2 w0)
    simp at e
    rw [e.1, e.2]; exact hI2)
  have HX := Lib.hid hX
  have HN := Lib.hid hn
  have HB0 := Lib.hid hB
  have HBe := Lib.hid hb
  clear hX hn hB hb hI hv
  go_enter Try.func15, Try.ntmps15
  go_wp2
  go_loopw [4, 5, 14] (fun x y z wr => ∃ (acc : List Nat) (left p i : Nat), i ≤ L.length - 1 ∧ x = .int .i64 acc.length ∧ y = .int .i64 p ∧ z = .int .i64 i ∧ ans (L.drop i) acc p left = (0, X) ∧ acc.length + left = most ∧ p ≤ i ∧ Blk wr g 5 (u8s (laid acc n)) ∧ Below w0.heap.size w0 wr) (fun _ _ z _ => L.length - (intOf z).toNat)
  case atStart => exact ⟨[], most, 0, 0, by omega, rfl, rfl, rfl, HX.out, by simp, by omega, by simpa [laid] using HB0.out, HBe.out⟩
  case round =>
    obtain ⟨acc, left, p, i, hi, rfl, rfl, rfl, he, hlen, hp, hB, hb⟩ := hrel
    have HE := Lib.hid he
    have HB := Lib.hid hB
    have HBel := Lib.hid hb
    clear HB0 HBe he hB hb hsl
    by_cases hlt : i < L.length - 1
    · have hli : (L.take (L.length - 1)).length = L.length - 1 := by simp
      obtain ⟨bb, off, cap', hs, _, _, _, hc⟩ := (HI.out.below HBel.out).cells (by omega)
      simp at hs
      obtain ⟨⟨rfl, _⟩, rfl⟩ := hs
      have c0 := hc i (by omega)
      have hgt : (L.take (L.length - 1)).getD i 0 = L.getD i 0 := by
        simp only [List.getD_eq_getElem?_getD, List.getElem?_take_of_lt hlt]
      rw [hgt] at c0
      rw [drop_cons (by omega)] at HE
      have hne : L.drop (i + 1) ≠ [] := drop_ne (by omega)
      have hlI : (i : Int) < ((L.length - 1 : Nat) : Int) := by omega
      generalize L.getD i 0 = x at *
      generalize hT : L.drop (i + 1) = T at *
      clear hc hgt hli
      by_cases h1 : x ≤ 1
      · obtain ⟨h0, hf, he2⟩ := step_digit HE.out hne h1
        obtain ⟨R, hR, _⟩ := ans_ok he2
        have hxl : acc.length + (x.toNat + 1) * 2 ^ p ≤ n := by
          have := HN.out
          rw [hR] at this
          simp at this; omega
        have HE2 := Lib.hid he2
        have hs := add_fits (at_ := acc.length) h0 hf (by omega)
        clear hR he2
        go_wp2
        go_roundw
        case rel =>
          refine ⟨acc ++ List.replicate ((x.toNat + 1) * 2 ^ p) 0, left - (x.toNat + 1) * 2 ^ p, p + 1, i + 1, by omega, ?_, by go_num, by go_num, by rw [hT]; exact HE2.out, by simp; omega, by omega, by rw [laid_zeros _ _ _ hxl]; exact HB.out, HBel.out⟩
          rw [hs, List.length_append, List.length_replicate]
        case measure => simp [intOf]; omega
      · obtain ⟨h2, hf, he2⟩ := step_byte HE.out hne h1
        obtain ⟨R, hR, _⟩ := ans_ok he2
        have hxl : acc.length < n := by
          have := HN.out
          rw [hR] at this
          simp at this; omega
        have HE2 := Lib.hid he2
        have hm256 : (x - 1) % 256 = x - 1 := by omega
        have c1 := HB.out.cell (u8s_get (laid acc n) acc.length (by rw [laid_length _ _ (by omega)]; exact hxl))
        have f1 := HB.out.frozen acc.length
        generalize (laid acc n).getD acc.length 0 = y at *
        clear hR he2
        go_wp2
        have hB2 := HB.out.set acc.length (.int .u8 ((x - 1).toNat : Nat))
        have ex : (((x - 1).toNat : Nat) : Int) = x - 1 := by omega
        rw [u8s_set, laid_set _ _ _ hxl, ex] at hB2
        go_roundw
        case rel =>
          refine ⟨acc ++ [(x - 1).toNat], left - 1, 0, i + 1, by omega, by simp, by go_num, by go_num, by rw [hT]; exact HE2.out, by simp; omega, by omega, hB2, HBel.out.setCell hg _⟩
        case measure => simp [intOf]; omega
    · have hlI : ¬ (i : Int) < ((L.length - 1 : Nat) : Int) := by omega
      have hXe : acc = X := by
        have h := HE.out
        rw [drop_cons (by omega), List.drop_eq_nil_of_le (by omega)] at h
        exact step_last h
      have HF : Hid (Blk wr g 5 (u8s X)) := Lib.hid (by
        have h := HB.out
        rw [← HN.out, ← hXe, laid_all, hXe] at h; exact h)
      clear hXe
      go_wp2
      go_end0
      exact ⟨rfl, HF.out, HBel.out⟩

/-- what a decoder answers -/
def DecPost (L : List Int) (most : Nat) (w : World) (e : Ending) (w' : World) : Prop :=
  ∃ v, e = .returned (.tuple #[v, .int .i64 (ans L [] 0 most).1]) ∧ IsBytes w' v (ans L [] 0 most).2 ∧ Below w.heap.size w w'
theorem decPost_mk {L : List Int} {M : Nat} {w w' : World} {r : Int} {X : List Nat} {v : Value} (hA : ans L [] 0 M = (r, X)) (h1 : IsBytes w' v X) (h2 : Below w.heap.size w w') : DecPost L M w (.returned (.tuple #[v, .int .i64 r])) w' := by
  unfold DecPost
  rw [hA]
  exact ⟨v, rfl, h1, h2⟩
theorem blk_bytes {w : World} {g n : Nat} {X : List Nat} (h : Blk w g 5 (u8s X)) (hx : ∀ x ∈ X, x < 256) (hn : X.length = n) (hm : n ≤ maxLen) : IsBytes w (.slice (some ⟨g, 0, none⟩) n n) X := by
  subst hn
  refine ⟨hx, .inr ⟨_, _, rfl, Nat.le_refl _, hm, fun i u hu => ?_⟩⟩
  have hadd : (⟨g, 0, none⟩ : Addr).add i = ⟨g, i, none⟩ := by unfold Addr.add; split <;> simp_all
  rw [hadd]
  exact h.cell hu

def maxZ (ats : Array TypeId) (ty : TypeId) (v : Value) : Sem Value := Builtin.max_ ats ty #[v, .int .i64 0]
theorem maxZ_eq (ats : Array TypeId) (ty : TypeId) (v : Value) : Builtin.max_ ats ty #[v, .int .i64 0] = maxZ ats ty v := rfl
theorem run_maxZ (ats : Array TypeId) (ty : TypeId) (m : Int) (w : World) : (maxZ ats ty (.int .i64 m)).run Try.prog w = .ok (.int .i64 (m.toNat : Nat)) w := by
  unfold maxZ Builtin.max_
  by_cases h : m < 0
  · have e : ((m.toNat : Nat) : Int) = 0 := by omega
    rw [e]
    simp [Builtin.max2, h]
  · have e : ((m.toNat : Nat) : Int) = m := by omega
    rw [e]
    simp [Builtin.max2, h]
attribute [local go_sem ↓] maxZ_eq
set_option maxHeartbeats 2000000 in
theorem decode_any (v : Value) (L : List Int) (m : Int) (w : World) (hv : IsInts w v L) (hL : L.length ≤ 4294967296) (hm : m ≤ 4294967296) :
    Calls Try.prog 8 #[v, .int .i64 m] w (DecPost L m.toNat w) := by
  obtain ⟨a, cap, rfl, hcap, hmax⟩ := hv.slice
  unfold maxLen at hmax
  have HV := Lib.hid hv
  have hmx := fun ats ty W => run_maxZ ats ty m W
  obtain ⟨M, hM⟩ : ∃ M, M = m.toNat := ⟨_, rfl⟩
  rw [← hM] at hmx ⊢
  have hM32 : M ≤ 4294967296 := by omega
  clear hv hM hm
  go_enter Try.func8, Try.ntmps8
  go_wp2_with fail
  refine (room_any _ L M w HV.out hL hM32).mono ?_
  rintro e w1 ⟨rfl, rfl⟩
  obtain ⟨r, X, hA⟩ : ∃ r X, ans L [] 0 M = (r, X) := ⟨_, _, rfl⟩
  have hlt := ans_lt (l := L) (acc := []) (p := 0) (left := M) (by simp)
  rw [hA]
  rw [hA] at hlt
  by_cases hr : r = 0
  · subst hr
    obtain ⟨R, hR, hRM⟩ := ans_ok hA
    rw [List.nil_append] at hR
    subst hR
    obtain ⟨q, hq⟩ : ∃ q : Nat, room (0, X) M = q := ⟨_, rfl⟩
    have hq2 : q = M - X.length := by
      have : room (0, X) M = ((M - X.length : Nat) : Int) := rfl
      omega
    have hsub : (M : Int) - (q : Int) = (X.length : Int) := by omega
    rw [hq]
    have HA := Lib.hid hA
    clear hA hq hq2
    go_wp2_with fail
    refine (zeroBytes_any X.length w (by omega)).mono ?_
    rintro e w2 ⟨g, rfl, hg, hB2, hb2⟩
    have HB2 := Lib.hid hB2
    have Hb2 := Lib.hid hb2
    clear hB2 hb2
    go_wp2_with fail
    refine (fill_any g X.length _ L X M w w2 HV.out hL hM32 Hb2.out hg HA.out rfl HB2.out).mono ?_
    rintro e w3 ⟨rfl, hB3, hb3⟩
    have HB3 := Lib.hid hB3
    have Hb3 := Lib.hid hb3
    clear hB3 hb3
    go_wp2_with fail
    go_ret2
    exact decPost_mk HA.out (blk_bytes HB3.out hlt rfl (by unfold maxLen; omega)) Hb3.out
  · have hX := ans_err (l := L) (acc := []) (p := 0) (left := M) (by rw [hA]; exact hr)
    rw [hA] at hX
    simp only at hX
    subst hX
    have hrm : room (r, []) M = 0 := by simp [room, hr]
    have hb : (r != 0) = true := bne_t hr
    rw [hrm]
    have HA := Lib.hid hA
    clear hA
    go_wp2_with fail
    go_ret2
    exact decPost_mk HA.out (isBytes_nil _) (Below.refl _ _)
end Go.Proofs.Ytaoafplijjpoaaa

/- folioref1.Unzeros: a contract. -/
import Derived.Test.YtaoafplijjpoaaaApZ
import Derived.Test.YtaoafplijjpoaaaZerD
set_option linter.unusedSimpArgs false
set_option linter.unusedVariables false
namespace Go.Proofs.Ytaoafplijjpoaaa
open Go.RowKit Pl
theorem wrap_small {n : Int} (h0 : 0 ≤ n) (h1 : n ≤ 9223372036854775807) : wrap64 n = n := by unfold wrap64; omega
theorem div_fits {x : Int} {left q p : Nat} (hq : q = 2 ^ p) (h0 : 0 ≤ x) (hl : left ≤ 2147483648) (h : (x.toNat + 1) * 2 ^ p ≤ left) : ¬ wrap64 ((left : Int) / (q : Int)) < x + 1 := by
  have h1 : x.toNat + 1 ≤ left >>> p := fits_shr.2 h
  have e : (left : Int) / (q : Int) = ((left >>> p : Nat) : Int) := by rw [hq, Nat.shiftRight_eq_div_pow]; simp
  have h2 := Nat.shiftRight_le left p
  rw [e]
  clear e
  generalize left >>> p = s at *
  rw [wrap_small (n := (s : Int)) (by omega) (by omega)]
  omega
theorem div_less {x : Int} {left q p : Nat} (hq : q = 2 ^ p) (h0 : 0 ≤ x) (hl : left ≤ 2147483648) (h : ¬ (x.toNat + 1) * 2 ^ p ≤ left) : wrap64 ((left : Int) / (q : Int)) < x + 1 := by
  have h1 : ¬ x.toNat + 1 ≤ left >>> p := mt fits_shr.1 h
  have e : (left : Int) / (q : Int) = ((left >>> p : Nat) : Int) := by rw [hq, Nat.shiftRight_eq_div_pow]; simp
  have h2 := Nat.shiftRight_le left p
  rw [e]
  clear e
  generalize left >>> p = s at *
  rw [wrap_small (n := (s : Int)) (by omega) (by omega)]
  omega
theorem mul_fits {x : Int} {left q p run : Nat} (hq : q = 2 ^ p) (h0 : 0 ≤ x) (hl : run + left ≤ 2147483648) (h : (x.toNat + 1) * 2 ^ p ≤ left) : wrap64 ((run : Int) + wrap64 ((x + 1) * (q : Int))) = ((run + (x.toNat + 1) * 2 ^ p : Nat) : Int) := by
  have e : (x + 1) * (q : Int) = (((x.toNat + 1) * 2 ^ p : Nat) : Int) := by
    rw [hq, Int.natCast_mul]
    congr 1
    omega
  rw [e]
  generalize (x.toNat + 1) * 2 ^ p = k at *
  rw [wrap_small (n := (k : Int)) (by omega) (by omega), wrap_small (by omega) (by omega)]
  omega
theorem app_zeros {B : List Nat} (h : ∀ x ∈ B, x < 256) (k : Nat) : ∀ x ∈ B ++ List.replicate k 0, x < 256 := fun x hx => by
  rcases List.mem_append.1 hx with h1 | h1
  · exact h x h1
  · have := List.eq_of_mem_replicate h1; omega
set_option maxHeartbeats 8000000 in
theorem unzeros_nat (v : Value) (L : List Int) (M : Nat) (w : World) (hv : IsInts w v L) (hL : L.length ≤ 4294967296) (hM : M ≤ 2147483648) :
    Calls Try.prog 9 #[v, .int .i64 M] w (DecPost L M w) := by
  obtain ⟨a, cap, rfl, hcap, hmax⟩ := hv.slice
  unfold maxLen at hmax
  have HV := Lib.hid hv
  clear hv
  have hneg : ¬ (M : Int) < 0 := by omega
  go_enter Try.func9, Try.ntmps9
  go_wp2_with fail
  clear hneg
  go_loopw [6, 7, 8, 9] (fun o x y z wr => ∃ (B : List Nat) (run q p left i : Nat), i ≤ L.length ∧ x = .int .i64 run ∧ y = .int .i64 q ∧ z = .int .i64 i ∧ q = 2 ^ p ∧ p ≤ 33 ∧ ans (L.drop i) (B ++ List.replicate run 0) p left = ans L [] 0 M ∧ B.length + run + left = M ∧ wr.ownsRow w.heap.size 5 1 o B.length (u8s B) ∧ (∀ x ∈ B, x < 256) ∧ Below w.heap.size w wr) (fun _ _ _ z _ => L.length - (intOf z).toNat)
  case atStart => exact ⟨[], 0, 1, 0, M, 0, by omega, rfl, rfl, rfl, rfl, by omega, by simp, by simp, own_nil _ _, by simp, Below.refl _ _⟩
  case round =>
    obtain ⟨B, run, q, p, left, i, hi, rfl, rfl, rfl, hq, hp, he, hlen, ho, hx256, hb⟩ := hrel
    obtain ⟨sp, cp, rfl, _, _⟩ := ownsRow_slice ho
    have HE := Lib.hid he
    have HO := Lib.hid ho
    have HX := Lib.hid hx256
    have HB := Lib.hid hb
    have HQ := Lib.hid hq
    have hsz := hb.size
    have hq0 : 0 < q := by rw [hq]; exact Nat.two_pow_pos p
    have hqm : q ≤ 8589934592 := by
      rw [hq]
      exact Nat.le_trans (Nat.pow_le_pow_right (by omega) hp) (by decide)
    clear he ho hx256 hb hq
    by_cases hlt : i < L.length
    · obtain ⟨bb, off, cap', hs, _, _, _, hc⟩ := (HV.out.below HB.out).cells (by omega)
      simp at hs
      obtain ⟨rfl, rfl⟩ := hs
      have c0 := hc i hlt
      rw [drop_cons hlt] at HE
      have hne : i + 1 < L.length → L.drop (i + 1) ≠ [] := drop_ne
      have hnil : ¬ i + 1 < L.length → L.drop (i + 1) = [] := fun h => List.drop_eq_nil_of_le (by omega)
      generalize L.getD i 0 = x at *
      generalize hT : L.drop (i + 1) = T at *
      clear hc
      by_cases h0 : x < 0
      · have hr : ans L [] 0 M = (6, []) := by rw [← HE.out, ans_bad _ _ _ (.inl h0)]
        have HR := Lib.hid hr
        clear hr
        go_wp2_with fail
        go_ret2
        exact decPost_mk HR.out (isBytes_nil _) HB.out
      by_cases h1 : 257 < x
      · have hr : ans L [] 0 M = (6, []) := by rw [← HE.out, ans_bad _ _ _ (.inr (.inl h1))]
        have HR := Lib.hid hr
        clear hr
        go_wp2_with fail
        go_ret2
        exact decPost_mk HR.out (isBytes_nil _) HB.out
      by_cases h2 : x = 257
      · subst h2
        by_cases h3 : i + 1 < L.length
        · have hr : ans L [] 0 M = (6, []) := by rw [← HE.out, ans_bad _ _ _ (.inr (.inr ⟨rfl, hne h3⟩))]
          have HR := Lib.hid hr
          clear hr
          have h4 : ((i : Int) != (L.length : Int) - 1) = true := bne_t (by omega)
          go_wp2_with fail
          go_ret2
          exact decPost_mk HR.out (isBytes_nil _) HB.out
        · have hr : ans L [] 0 M = (0, B ++ List.replicate run 0) := by rw [← HE.out, hnil h3, ans_end]
          have HR := Lib.hid hr
          clear hr
          have h4 : ((i : Int) != (L.length : Int) - 1) = false := bne_f (by omega)
          go_wp2_with (at_builtin; refine wpList_append_zeros rfl (.tmp 61) (.tmp 62) rfl w.heap.size _ B.length B rfl HO.out run rfl (by omega) hsz ?_; intro v4 w4 hown hgr; have HO4 := Lib.hid hown; have HB4 := Lib.hid (HB.out.grown hgr hsz (own_lt HO.out)); obtain ⟨sp4, cp4, rfl, _, _⟩ := ownsRow_slice hown; clear hown hgr)
          go_ret2
          refine decPost_mk HR.out ?_ HB4.out
          have hl : (B ++ List.replicate run 0).length = B.length + run := by simp
          exact isBytes_ownS (base := w.heap.size) (app_zeros HX.out run) hl.symm (by rw [hl]; exact HO4.out)
      have h2t : (x == 257) = false := beq_f h2
      by_cases h3 : x ≤ 1
      · have e1 : (M : Int) - (B.length : Int) - (run : Int) = (left : Int) := by omega
        have e2 : ((left : Int)).tdiv (q : Int) = (left : Int) / (q : Int) := Int.tdiv_eq_ediv_of_nonneg (by omega)
        by_cases h4 : (x.toNat + 1) * 2 ^ p ≤ left
        · have hr := ans_digit (t := T) (B ++ List.replicate run 0) p left (by omega) h3 h4
          have h5 := div_fits HQ.out (by omega) (by omega) h4
          have hs := mul_fits (run := run) HQ.out (by omega) (by omega) h4
          have hp32 := fits_small h4 (by omega)
          go_wp2_with fail
          go_roundw
          case rel =>
            refine ⟨B, run + (x.toNat + 1) * 2 ^ p, q * 2, p + 1, left - (x.toNat + 1) * 2 ^ p, i + 1, by omega, by rw [hs], by go_num, by go_num, by rw [HQ.out, Nat.pow_succ], by omega, ?_, by omega, HO.out, HX.out, HB.out⟩
            rw [hT, ← HE.out, hr, List.append_assoc, List.replicate_append_replicate]
          case measure => simp [intOf]; omega
        · have hr : ans L [] 0 M = (2, []) := by rw [← HE.out, ans_much _ _ _ (by omega) h3 (by omega)]
          have HR := Lib.hid hr
          clear hr
          have h5 := div_less HQ.out (by omega) (by omega) h4
          go_wp2_with fail
          go_ret2
          exact decPost_mk HR.out (isBytes_nil _) HB.out
      by_cases h4 : left = 0
      · subst h4
        have hr : ans L [] 0 M = (2, []) := by rw [← HE.out, ans_full (x := x) _ _ (by omega) (by omega)]
        have HR := Lib.hid hr
        clear hr
        have h5 : (M : Int) ≤ (B.length : Int) + (run : Int) := by omega
        go_wp2_with (at_builtin; refine wpList_append_zeros rfl (.tmp 61) (.tmp 62) rfl w.heap.size _ B.length B rfl HO.out run rfl (by omega) hsz ?_; intro v4 w4 hown hgr; have HO4 := Lib.hid hown; have HB4 := Lib.hid (HB.out.grown hgr hsz (own_lt HO.out)); obtain ⟨sp4, cp4, rfl, _, _⟩ := ownsRow_slice hown; clear hown hgr)
        go_ret2
        exact decPost_mk HR.out (isBytes_nil _) HB4.out
      · have hr := ans_byte (x := x) (t := T) (B ++ List.replicate run 0) p left (by omega) (by omega) (by omega)
        have h5 : ¬ (M : Int) ≤ (B.length : Int) + (run : Int) := by omega
        have hm256 : (x - 1) % 256 = x - 1 := by omega
        have HXn := Lib.hid (show (x - 1 : Int) = (((x - 1).toNat : Nat) : Int) by omega)
        have hl : (B ++ List.replicate run 0).length = B.length + run := by simp
        have HL := Lib.hid hl
        have HR := Lib.hid hr
        clear hr hl
        go_wp2_with (first
          | (at_builtin; refine wpList_append_zeros rfl (.tmp 61) (.tmp 62) rfl w.heap.size _ B.length B rfl HO.out run rfl (by omega) hsz ?_; intro v4 w4 hown hgr; have HO4 := Lib.hid hown; have HB4 := Lib.hid (HB.out.grown hgr hsz (own_lt HO.out)); have hsz4 := HB4.out.size; obtain ⟨sp4, cp4, rfl, _, _⟩ := ownsRow_slice hown; clear hown hgr)
          | (at_builtin; refine wpList_append_byte_at rfl (.tmp 71) (.tmp 75) rfl w.heap.size _ (B.length + run) _ _ rfl HO4.out _ rfl rfl (by omega) hsz4 ?_; intro v5 w5 hown hgr; rw [HXn.out, ← u8s_snoc] at hown; have HO5 := Lib.hid hown; have HB5 := Lib.hid (bel_append HB4.out _ HO4.out hgr hsz4); obtain ⟨sp5, cp5, rfl, _, _⟩ := ownsRow_slice hown; clear hown hgr))
        go_roundw
        case rel =>
          refine ⟨B ++ List.replicate run 0 ++ [(x - 1).toNat], 0, 1, 0, left - 1, i + 1, by omega, rfl, rfl, by go_num, rfl, by omega, ?_, by simp; omega, ?_, ?_, HB5.out⟩
          · rw [hT, List.replicate_zero, List.append_nil, ← HE.out, HR.out]
          · rw [List.length_append, HL.out]; exact HO5.out
          · intro y hy
            rcases List.mem_append.1 hy with hy | hy
            · exact app_zeros HX.out run y hy
            · simp at hy; omega
        case measure => simp [intOf]; omega
    · obtain rfl : i = L.length := by omega
      have hr : ans L [] 0 M = (6, []) := by rw [← HE.out, List.drop_length, ans_nil]
      have HR := Lib.hid hr
      clear hr
      go_wp2_with fail
      go_ret2
      exact decPost_mk HR.out (isBytes_nil _) HB.out
set_option maxHeartbeats 8000000 in
theorem unzeros_neg (v : Value) (L : List Int) (m : Int) (w : World) (hv : IsInts w v L) (hL : L.length ≤ 4294967296) (hm : m < 0) :
    Calls Try.prog 9 #[v, .int .i64 m] w (DecPost L 0 w) := by
  obtain ⟨a, cap, rfl, hcap, hmax⟩ := hv.slice
  unfold maxLen at hmax
  have HV := Lib.hid hv
  clear hv
  go_enter Try.func9, Try.ntmps9
  go_wp2_with fail
  clear hm
  go_loopw [6, 7, 8, 9] (fun o x y z wr => o = .slice none 0 0 ∧ x = .int .i64 0 ∧ y = .int .i64 1 ∧ z = .int .i64 0 ∧ wr = w) (fun _ _ _ _ _ => 0)
  case atStart => exact ⟨rfl, rfl, rfl, rfl, rfl⟩
  case round =>
    obtain ⟨rfl, rfl, rfl, rfl, rfl⟩ := hrel
    by_cases hlt : 0 < L.length
    · obtain ⟨bb, off, cap', hs, _, _, _, hc⟩ := HV.out.cells hlt
      simp at hs
      obtain ⟨rfl, rfl⟩ := hs
      have c0 := hc 0 hlt
      rw [Nat.add_zero] at c0
      have HD := Lib.hid (drop_cons hlt)
      have hne : 0 + 1 < L.length → L.drop (0 + 1) ≠ [] := drop_ne
      have hnil : ¬ 0 + 1 < L.length → L.drop (0 + 1) = [] := fun h => List.drop_eq_nil_of_le (by omega)
      generalize L.getD 0 0 = x at *
      generalize hT : L.drop (0 + 1) = T at *
      have HE : Hid (ans L [] 0 0 = ans (x :: T) [] 0 0) := Lib.hid (by rw [← HD.out, List.drop_zero])
      clear hc
      by_cases h0 : x < 0
      · have HR : Hid (ans L [] 0 0 = (6, [])) := Lib.hid (by rw [HE.out, ans_bad _ _ _ (.inl h0)])
        go_wp2_with fail
        go_ret2
        exact decPost_mk HR.out (isBytes_nil _) (Below.refl _ _)
      by_cases h1 : 257 < x
      · have HR : Hid (ans L [] 0 0 = (6, [])) := Lib.hid (by rw [HE.out, ans_bad _ _ _ (.inr (.inl h1))])
        go_wp2_with fail
        go_ret2
        exact decPost_mk HR.out (isBytes_nil _) (Below.refl _ _)
      by_cases h2 : x = 257
      · subst h2
        by_cases h3 : 0 + 1 < L.length
        · have HR : Hid (ans L [] 0 0 = (6, [])) := Lib.hid (by rw [HE.out, ans_bad _ _ _ (.inr (.inr ⟨rfl, hne h3⟩))])
          have h4 : ((0 : Int) != (L.length : Int) - 1) = true := bne_t (by omega)
          go_wp2_with fail
          go_ret2
          exact decPost_mk HR.out (isBytes_nil _) (Below.refl _ _)
        · have HR : Hid (ans L [] 0 0 = (0, [])) := Lib.hid (by rw [HE.out, hnil h3, ans_end])
          have h4 : ((0 : Int) != (L.length : Int) - 1) = false := bne_f (by omega)
          go_wp2_with (at_builtin; refine wpList_append_zeros rfl (.tmp 61) (.tmp 62) rfl wr.heap.size (.slice none 0 0) 0 [] rfl (own_nil _ _) 0 rfl (by omega) (Nat.le_refl _) ?_; intro v4 w4 hown hgr; have HO4 := Lib.hid hown; have HB4 : Hid (Below wr.heap.size wr w4) := Lib.hid ((Below.refl _ _).grown hgr (Nat.le_refl _) (by simp [Value.ownBlock])); obtain ⟨sp4, cp4, rfl, _, _⟩ := ownsRow_slice hown; clear hown hgr)
          go_ret2
          refine decPost_mk HR.out ?_ HB4.out
          exact isBytes_ownS (base := wr.heap.size) (by simp) rfl HO4.out
      have h2t : (x == 257) = false := beq_f h2
      by_cases h3 : x ≤ 1
      · have HR : Hid (ans L [] 0 0 = (2, [])) := Lib.hid (by rw [HE.out, ans_much _ _ _ (by omega) h3 (by simp)])
        have h5 : (0 : Int) < x + 1 := by omega
        go_wp2_with fail
        go_ret2
        exact decPost_mk HR.out (isBytes_nil _) (Below.refl _ _)
      · have HR : Hid (ans L [] 0 0 = (2, [])) := Lib.hid (by rw [HE.out, ans_full (x := x) _ _ (by omega) (by omega)])
        go_wp2_with (at_builtin; refine wpList_append_zeros rfl (.tmp 61) (.tmp 62) rfl wr.heap.size (.slice none 0 0) 0 [] rfl (own_nil _ _) 0 rfl (by omega) (Nat.le_refl _) ?_; intro v4 w4 hown hgr; have HO4 := Lib.hid hown; have HB4 : Hid (Below wr.heap.size wr w4) := Lib.hid ((Below.refl _ _).grown hgr (Nat.le_refl _) (by simp [Value.ownBlock])); obtain ⟨sp4, cp4, rfl, _, _⟩ := ownsRow_slice hown; clear hown hgr)
        go_ret2
        exact decPost_mk HR.out (isBytes_nil _) HB4.out
    · have HR : Hid (ans L [] 0 0 = (6, [])) := Lib.hid (by rw [List.eq_nil_of_length_eq_zero (l := L) (by omega), ans_nil])
      go_wp2_with fail
      go_ret2
      exact decPost_mk HR.out (isBytes_nil _) (Below.refl _ _)
theorem unzeros_any (v : Value) (L : List Int) (m : Int) (w : World) (hv : IsInts w v L) (hL : L.length ≤ 4294967296) (hm : m ≤ 2147483648) :
    Calls Try.prog 9 #[v, .int .i64 m] w (DecPost L m.toNat w) := by
  by_cases h : m < 0
  · rw [show m.toNat = 0 by omega]
    exact unzeros_neg v L m w hv hL h
  · obtain ⟨M, rfl⟩ : ∃ M : Nat, m = M := ⟨m.toNat, by omega⟩
    rw [Int.toNat_natCast]
    exact unzeros_nat v L M w hv hL (by omega)
end Go.Proofs.Ytaoafplijjpoaaa

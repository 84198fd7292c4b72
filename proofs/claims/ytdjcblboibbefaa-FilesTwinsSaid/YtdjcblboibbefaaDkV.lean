/- foliolaw13.FilesSwitch: the walk. -/
import Derived.Test.YtdjcblboibbefaaDkU
import Derived.Test.YtdjcblboibbefaaInts
set_option linter.unusedSimpArgs false
set_option linter.unusedVariables false
set_option maxRecDepth 100000
namespace Go.Proofs.Ytdjcblboibbefaa.S13
open Go.RowKit Go.Maps Go.Shelf Dk
theorem run_slice_row {w : World} {a : Option Addr} {len cap : Nat} {zs : List Int} (hr : IsRow .i64 w a len cap zs) (n : Nat) (N : Int) (hN : N = n) (hn : n ≤ len) :
    (∀ W, (sliceI (.slice a len cap) none (some (.int .i64 N)) none).run Try.prog W = .ok (.slice a n cap) W) ∧ IsRow .i64 w a n cap zs := by
  subst hN
  have hc : len ≤ cap ∧ cap ≤ maxLen := by
    obtain ⟨_, rfl, rfl, _⟩ | ⟨x, _, h1, h2, _⟩ := hr
    · exact ⟨Nat.le_refl _, by unfold maxLen; omega⟩
    · exact ⟨h1, h2⟩
  refine ⟨fun W => ?_, ?_⟩
  · unfold sliceI
    rw [run_sliceAt_slice _ _ _ _ _ _ und_i64s, run_slice_h _ _ _ _ _ und_i64s _ _ (by omega) (by omega), run_size_i, Int.toNat_natCast]
    have e : (Option.map (fun x : Addr => x.add 0) a) = a := by
      cases a with
      | none => rfl
      | some x => rw [Option.map_some, addr_zero]
    simp only [Result.andThen, sliced, Nat.sub_zero, Nat.zero_mul, e]
    split <;> rfl
  · obtain ⟨rfl, rfl, rfl, rfl⟩ | ⟨x, rfl, h1, h2, h3⟩ := hr
    · have : n = 0 := by omega
      subst this
      exact .inl ⟨rfl, rfl, rfl, rfl⟩
    · exact .inr ⟨x, rfl, by omega, h2, h3⟩
def cur : Nm := [99, 117, 114]
def tmp : Nm := [116, 109, 112]
def s1 : St := (create (new 1000) cur).1
def s2 : St := (append s1 cur [111, 108, 100]).1
def s3 : St := (sync s2 cur).1
def s4 : St := (syncDir s3).1
def s5 : St := (create s4 tmp).1
def s6 : St := (append s5 tmp [110, 101, 119]).1
def s7 : St := (sync s6 tmp).1
def s8 : St := (rename s7 tmp cur).1
theorem s_1 : create (new 1000) cur = (s1, 0) := by kernel_rfl
theorem s_2 : append s1 cur [111, 108, 100] = (s2, 0) := by kernel_rfl
theorem s_3 : sync s2 cur = (s3, 0) := by kernel_rfl
theorem s_4 : syncDir s3 = (s4, 0) := by kernel_rfl
theorem s_5 : create s4 tmp = (s5, 0) := by kernel_rfl
theorem s_6 : append s5 tmp [110, 101, 119] = (s6, 0) := by kernel_rfl
theorem s_7 : sync s6 tmp = (s7, 0) := by kernel_rfl
theorem s_8 : rename s7 tmp cur = (s8, 0) := by kernel_rfl
theorem s8_eq : s8 = ⟨1000, [([111, 108, 100], 3), ([110, 101, 119], 3)], [(cur, 1)], [(cur, 0)], [([], tmp, some 1), (tmp, cur, some 1)], 8, none⟩ := by kernel_rfl
theorem torn_whole (X : List Nat) (n : Nat) (hn : X.length = n) (t : Int) : tornF (X, n) t = (X, n) := by
  unfold tornF
  simp only [hn, Nat.sub_self]
  have : (max 0 (min t ((0 : Nat) : Int))).toNat = 0 := by omega
  rw [this, Nat.add_zero, List.take_of_length_le (by omega)]
theorem s_crash (n : Int) (ts : List Int) : readF (crash s8 n ts) cur = some (if 2 ≤ n then [110, 101, 119] else [111, 108, 100]) := by
  have hp : s8.pend.length = 2 := by rw [s8_eq]; rfl
  have hK : crashN s8 n = if n ≤ 0 then 0 else if n = 1 then 1 else 2 := by
    unfold crashN
    rw [hp]
    split
    · omega
    · split <;> omega
  have a0 : s8.after 0 = [(cur, 0)] := by kernel_rfl
  have a1 : s8.after 1 = [(cur, 0), (tmp, 1)] := by kernel_rfl
  have a2 : s8.after 2 = [(cur, 1)] := by kernel_rfl
  have f0 : s8.file 0 = ([111, 108, 100], 3) := by kernel_rfl
  have f1 : s8.file 1 = ([110, 101, 119], 3) := by kernel_rfl
  by_cases h0 : n ≤ 0
  · rw [if_neg (by omega)]
    rw [if_pos h0] at hK
    unfold readF crash
    simp only [hK, a0, List.mapIdx_cons, List.mapIdx_nil, f0, torn_whole [111, 108, 100] 3 rfl]
    rfl
  · by_cases h1 : n = 1
    · rw [if_neg (by omega)]
      rw [if_neg h0, if_pos h1] at hK
      unfold readF crash
      simp only [hK, a1, List.mapIdx_cons, List.mapIdx_nil, f0, f1, torn_whole [111, 108, 100] 3 rfl, torn_whole [110, 101, 119] 3 rfl]
      rfl
    · rw [if_pos (by omega)]
      rw [if_neg h0, if_neg h1] at hK
      unfold readF crash
      simp only [hK, a2, List.mapIdx_cons, List.mapIdx_nil, f1, torn_whole [110, 101, 119] 3 rfl]
      rfl
attribute [local go_sem ↓] conv_eq sliceI_eq
theorem str_old : str [111, 108, 100] = ⟨#[111, 108, 100]⟩ := by decide
theorem str_new : str [110, 101, 119] = ⟨#[110, 101, 119]⟩ := by decide
theorem on_ne : ((⟨#[111, 108, 100]⟩ : ByteArray).toList == (⟨#[110, 101, 119]⟩ : ByteArray).toList) = false := by
  rw [← str_old, ← str_new, str_eqb (by decide) (by decide)]; decide
set_option maxHeartbeats 32000000 in
theorem filesSwitch_walk (n : Int) (a : Option Addr) (len cap : Nat) (zs : List Int) (w : World) (hn : (Lit.int .i64 n).wf = true) (hr : IsRow .i64 w a len cap zs) : Calls Try.prog 6 #[.int .i64 n, .slice a len cap] w fun e w' => e = .returned (.bool true) ∧ Below w.heap.size w w' := by
  have hbeg := begun_any w
  have kc := fun (w : World) (C : Array Value) (n c : Nat) => Lib.run_convert_bytes_const (P := Try.prog) w 23 5 C n c Try.underlying23 Try.underlying5
  have hlm := hr.len_le
  unfold maxLen at hlm
  have HR0 := Lib.hid hr
  clear hr
  go_enter Try.func6, Try.ntmps6
  go_wp2_with fail
  refine hbeg.mono ?_
  rintro e w1 ⟨rfl, hb⟩
  have hnew := new_h (w0 := w) 1000 hb
  clear hbeg hb
  by_cases h5 : 5 < len
  · have q0 : decide ((5 : Int) < (len : Int)) = true := by simp; omega
    have hsl := (run_slice_row HR0.out 5 5 rfl (by omega)).1
    have HR : Hid (IsRow .i64 w a 5 cap zs) := Lib.hid (run_slice_row HR0.out 5 5 rfl (by omega)).2
    go_wp2_with fail
    refine hnew.mono ?_
    rintro e w2 ⟨p, rfl, hI, _⟩
    clear hnew HR0
    have hcall := create_h ⟨#[99, 117, 114]⟩ hI (by decide) (by decide)
    change Calls _ _ _ _ (HPost w p (create (new 1000) cur)) at hcall
    rw [s_1] at hcall
    clear hI
    go_wp2_with fail
    refine hcall.mono ?_
    rintro e w3 ⟨rfl, hI⟩
    clear hcall
    unfold errV
    obtain ⟨w4, hw4⟩ : ∃ w4, w3.alloc (.cells #[.int .u8 111, .int .u8 108, .int .u8 100] 5 (3, 4)) = w4 := ⟨_, rfl⟩
    have hI4 : InH w p s1 w4 := by rw [← hw4]; exact hI.below ((Below.refl _ _).alloc (Nat.le_refl _) _)
    have hcall := append_h ⟨#[99, 117, 114]⟩ _ [111, 108, 100] hI4 (by decide) (by decide) (by rw [← hw4]; exact isBytes_mark w3 [111, 108, 100] _ (by simp) (by simp [maxLen])) (by decide)
    change Calls _ _ _ _ (HPost w p (append s1 cur [111, 108, 100])) at hcall
    rw [s_2] at hcall
    clear hI hI4
    go_wp2_with fail
    refine hcall.mono ?_
    rintro e w5 ⟨rfl, hI⟩
    clear hcall hw4
    unfold errV
    have hcall := sync_h ⟨#[99, 117, 114]⟩ hI (by decide) (by decide)
    change Calls _ _ _ _ (HPost w p (sync s2 cur)) at hcall
    rw [s_3] at hcall
    clear hI
    go_wp2_with fail
    refine hcall.mono ?_
    rintro e w6 ⟨rfl, hI⟩
    clear hcall
    unfold errV
    have hcall := syncDir_h hI (by decide)
    rw [s_4] at hcall
    clear hI
    go_wp2_with fail
    refine hcall.mono ?_
    rintro e w7 ⟨rfl, hI⟩
    clear hcall
    unfold errV
    have hcall := create_h ⟨#[116, 109, 112]⟩ hI (by decide) (by decide)
    change Calls _ _ _ _ (HPost w p (create s4 tmp)) at hcall
    rw [s_5] at hcall
    clear hI
    go_wp2_with fail
    refine hcall.mono ?_
    rintro e w8 ⟨rfl, hI⟩
    clear hcall
    unfold errV
    obtain ⟨w9, hw9⟩ : ∃ w9, w8.alloc (.cells #[.int .u8 110, .int .u8 101, .int .u8 119] 5 (3, 4)) = w9 := ⟨_, rfl⟩
    have hI4 : InH w p s5 w9 := by rw [← hw9]; exact hI.below ((Below.refl _ _).alloc (Nat.le_refl _) _)
    have hcall := append_h ⟨#[116, 109, 112]⟩ _ [110, 101, 119] hI4 (by decide) (by decide) (by rw [← hw9]; exact isBytes_mark w8 [110, 101, 119] _ (by simp) (by simp [maxLen])) (by decide)
    change Calls _ _ _ _ (HPost w p (append s5 tmp [110, 101, 119])) at hcall
    rw [s_6] at hcall
    clear hI hI4
    go_wp2_with fail
    refine hcall.mono ?_
    rintro e w10 ⟨rfl, hI⟩
    clear hcall hw9
    unfold errV
    have hcall := sync_h ⟨#[116, 109, 112]⟩ hI (by decide) (by decide)
    change Calls _ _ _ _ (HPost w p (sync s6 tmp)) at hcall
    rw [s_7] at hcall
    clear hI
    go_wp2_with fail
    refine hcall.mono ?_
    rintro e w11 ⟨rfl, hI⟩
    clear hcall
    unfold errV
    have hcall := rename_h ⟨#[116, 109, 112]⟩ ⟨#[99, 117, 114]⟩ hI (by decide) (by decide) (by decide)
    change Calls _ _ _ _ (HPost w p (rename s7 tmp cur)) at hcall
    rw [s_8] at hcall
    clear hI
    go_wp2_with fail
    refine hcall.mono ?_
    rintro e w12 ⟨rfl, hI⟩
    clear hcall
    unfold errV
    have hr12 : IsRow .i64 w12 a 5 cap zs := row_below HR.out hI.bel
    have hcall := crash_h n a 5 cap zs hI hr12 (by decide)
    clear hI hr12
    go_wp2_with fail
    refine hcall.mono ?_
    rintro e w13 ⟨q, rfl, hI, _⟩
    clear hcall
    have hcall := read_h ⟨#[99, 117, 114]⟩ hI (by decide)
    change Calls _ _ _ _ (ReadPost (readF (crash s8 n (zs.take 5)) cur) w13) at hcall
    rw [s_crash] at hcall
    have HB := Lib.hid hI.bel
    clear hI
    by_cases h2 : 2 ≤ n
    · have q1 : decide (2 ≤ n) = true := by simpa using h2
      rw [if_pos h2] at hcall
      unfold ReadPost at hcall
      simp only [List.length_cons, List.length_nil, Nat.zero_add, Nat.reduceAdd] at hcall
      go_wp2_with fail
      refine hcall.mono ?_
      rintro e w14 ⟨hb, sp, cp, rfl, ho, hx⟩
      have hcv := run_conv (isBytes_own (cap := cp) (sp := sp) hx.out ho.out)
      simp only [List.length_cons, List.length_nil, Nat.zero_add, Nat.reduceAdd, str_new] at hcv
      have HBE := Lib.hid (HB.out.trans (hb.out.mono HB.out.size))
      clear hcall hb ho hx
      unfold errV
      go_wp2_with fail
      go_ret
      exact ⟨rfl, HBE.out⟩
    · have q1 : decide (2 ≤ n) = false := by simpa using h2
      rw [if_neg h2] at hcall
      unfold ReadPost at hcall
      simp only [List.length_cons, List.length_nil, Nat.zero_add, Nat.reduceAdd] at hcall
      go_wp2_with fail
      refine hcall.mono ?_
      rintro e w14 ⟨hb, sp, cp, rfl, ho, hx⟩
      have hcv := run_conv (isBytes_own (cap := cp) (sp := sp) hx.out ho.out)
      simp only [List.length_cons, List.length_nil, Nat.zero_add, Nat.reduceAdd, str_old] at hcv
      have HBE := Lib.hid (HB.out.trans (hb.out.mono HB.out.size))
      clear hcall hb ho hx
      unfold errV
      go_wp2_with fail
      go_ret
      exact ⟨rfl, HBE.out⟩
  · have q0 : decide ((5 : Int) < (len : Int)) = false := by simp; omega
    have HR := HR0
    go_wp2_with fail
    refine hnew.mono ?_
    rintro e w2 ⟨p, rfl, hI, _⟩
    clear hnew HR0
    have hcall := create_h ⟨#[99, 117, 114]⟩ hI (by decide) (by decide)
    change Calls _ _ _ _ (HPost w p (create (new 1000) cur)) at hcall
    rw [s_1] at hcall
    clear hI
    go_wp2_with fail
    refine hcall.mono ?_
    rintro e w3 ⟨rfl, hI⟩
    clear hcall
    unfold errV
    obtain ⟨w4, hw4⟩ : ∃ w4, w3.alloc (.cells #[.int .u8 111, .int .u8 108, .int .u8 100] 5 (3, 4)) = w4 := ⟨_, rfl⟩
    have hI4 : InH w p s1 w4 := by rw [← hw4]; exact hI.below ((Below.refl _ _).alloc (Nat.le_refl _) _)
    have hcall := append_h ⟨#[99, 117, 114]⟩ _ [111, 108, 100] hI4 (by decide) (by decide) (by rw [← hw4]; exact isBytes_mark w3 [111, 108, 100] _ (by simp) (by simp [maxLen])) (by decide)
    change Calls _ _ _ _ (HPost w p (append s1 cur [111, 108, 100])) at hcall
    rw [s_2] at hcall
    clear hI hI4
    go_wp2_with fail
    refine hcall.mono ?_
    rintro e w5 ⟨rfl, hI⟩
    clear hcall hw4
    unfold errV
    have hcall := sync_h ⟨#[99, 117, 114]⟩ hI (by decide) (by decide)
    change Calls _ _ _ _ (HPost w p (sync s2 cur)) at hcall
    rw [s_3] at hcall
    clear hI
    go_wp2_with fail
    refine hcall.mono ?_
    rintro e w6 ⟨rfl, hI⟩
    clear hcall
    unfold errV
    have hcall := syncDir_h hI (by decide)
    rw [s_4] at hcall
    clear hI
    go_wp2_with fail
    refine hcall.mono ?_
    rintro e w7 ⟨rfl, hI⟩
    clear hcall
    unfold errV
    have hcall := create_h ⟨#[116, 109, 112]⟩ hI (by decide) (by decide)
    change Calls _ _ _ _ (HPost w p (create s4 tmp)) at hcall
    rw [s_5] at hcall
    clear hI
    go_wp2_with fail
    refine hcall.mono ?_
    rintro e w8 ⟨rfl, hI⟩
    clear hcall
    unfold errV
    obtain ⟨w9, hw9⟩ : ∃ w9, w8.alloc (.cells #[.int .u8 110, .int .u8 101, .int .u8 119] 5 (3, 4)) = w9 := ⟨_, rfl⟩
    have hI4 : InH w p s5 w9 := by rw [← hw9]; exact hI.below ((Below.refl _ _).alloc (Nat.le_refl _) _)
    have hcall := append_h ⟨#[116, 109, 112]⟩ _ [110, 101, 119] hI4 (by decide) (by decide) (by rw [← hw9]; exact isBytes_mark w8 [110, 101, 119] _ (by simp) (by simp [maxLen])) (by decide)
    change Calls _ _ _ _ (HPost w p (append s5 tmp [110, 101, 119])) at hcall
    rw [s_6] at hcall
    clear hI hI4
    go_wp2_with fail
    refine hcall.mono ?_
    rintro e w10 ⟨rfl, hI⟩
    clear hcall hw9
    unfold errV
    have hcall := sync_h ⟨#[116, 109, 112]⟩ hI (by decide) (by decide)
    change Calls _ _ _ _ (HPost w p (sync s6 tmp)) at hcall
    rw [s_7] at hcall
    clear hI
    go_wp2_with fail
    refine hcall.mono ?_
    rintro e w11 ⟨rfl, hI⟩
    clear hcall
    unfold errV
    have hcall := rename_h ⟨#[116, 109, 112]⟩ ⟨#[99, 117, 114]⟩ hI (by decide) (by decide) (by decide)
    change Calls _ _ _ _ (HPost w p (rename s7 tmp cur)) at hcall
    rw [s_8] at hcall
    clear hI
    go_wp2_with fail
    refine hcall.mono ?_
    rintro e w12 ⟨rfl, hI⟩
    clear hcall
    unfold errV
    have hr12 : IsRow .i64 w12 a len cap zs := row_below HR.out hI.bel
    have hcall := crash_h n a len cap zs hI hr12 (by decide)
    clear hI hr12
    go_wp2_with fail
    refine hcall.mono ?_
    rintro e w13 ⟨q, rfl, hI, _⟩
    clear hcall
    have hcall := read_h ⟨#[99, 117, 114]⟩ hI (by decide)
    change Calls _ _ _ _ (ReadPost (readF (crash s8 n (zs.take len)) cur) w13) at hcall
    rw [s_crash] at hcall
    have HB := Lib.hid hI.bel
    clear hI
    by_cases h2 : 2 ≤ n
    · have q1 : decide (2 ≤ n) = true := by simpa using h2
      rw [if_pos h2] at hcall
      unfold ReadPost at hcall
      simp only [List.length_cons, List.length_nil, Nat.zero_add, Nat.reduceAdd] at hcall
      go_wp2_with fail
      refine hcall.mono ?_
      rintro e w14 ⟨hb, sp, cp, rfl, ho, hx⟩
      have hcv := run_conv (isBytes_own (cap := cp) (sp := sp) hx.out ho.out)
      simp only [List.length_cons, List.length_nil, Nat.zero_add, Nat.reduceAdd, str_new] at hcv
      have HBE := Lib.hid (HB.out.trans (hb.out.mono HB.out.size))
      clear hcall hb ho hx
      unfold errV
      go_wp2_with fail
      go_ret
      exact ⟨rfl, HBE.out⟩
    · have q1 : decide (2 ≤ n) = false := by simpa using h2
      rw [if_neg h2] at hcall
      unfold ReadPost at hcall
      simp only [List.length_cons, List.length_nil, Nat.zero_add, Nat.reduceAdd] at hcall
      go_wp2_with fail
      refine hcall.mono ?_
      rintro e w14 ⟨hb, sp, cp, rfl, ho, hx⟩
      have hcv := run_conv (isBytes_own (cap := cp) (sp := sp) hx.out ho.out)
      simp only [List.length_cons, List.length_nil, Nat.zero_add, Nat.reduceAdd, str_old] at hcv
      have HBE := Lib.hid (HB.out.trans (hb.out.mono HB.out.size))
      clear hcall hb ho hx
      unfold errV
      go_wp2_with fail
      go_ret
      exact ⟨rfl, HBE.out⟩
end Go.Proofs.Ytdjcblboibbefaa.S13

/- The law BitsRead, walked. -/
import Derived.Test.YtiagafanibjiiaaLe
namespace Go.Proofs.Ytiagafanibjiiaa
open Go.RowKit Pl

/-- the bools M lie at sp -/
def BoolsAt (w : World) (sp : Option Addr) (cap : Nat) (M : List Bool) : Prop :=
  M.length ≤ cap ∧ cap ≤ maxLen ∧ ((sp = none ∧ M = [] ∧ cap = 0) ∨ ∃ g off cs, sp = some ⟨g, off, none⟩ ∧ Blk w g 4 cs ∧ ∀ (i : Nat) (u : Value), (bools M)[i]? = some u → cs[off + i]? = some u)
theorem boolsAt_own {w : World} {base n cap : Nat} {sp : Option Addr} {M : List Bool} (hn : n = M.length) (h : w.ownsRow base 4 1 (.slice sp n cap) n (bools M)) : BoolsAt w sp cap M := by
  subst hn
  obtain ⟨hl, ⟨he, h0⟩ | ⟨g, cap', cur, hv, _, hh, hn, hm, hs, ht⟩⟩ := h
  · simp at he
    have hM : M = [] := List.eq_nil_of_length_eq_zero h0
    obtain ⟨rfl, _, rfl⟩ := he
    subst hM
    exact ⟨Nat.le_refl _, by unfold maxLen; omega, .inl ⟨rfl, rfl, rfl⟩⟩
  · simp at hv
    obtain ⟨rfl, rfl⟩ := hv
    refine ⟨hn, hm, .inr ⟨g, 0, cur.toList, rfl, by unfold Blk; simpa using hh, fun i u hu => ?_⟩⟩
    have hi := (List.getElem?_eq_some_iff.1 hu).1
    rw [bools_length] at hi
    rw [← ht, List.getElem?_take_of_lt (by omega)] at hu
    rw [Nat.zero_add]; exact hu
theorem BoolsAt.gr {w w' : World} {sp : Option Addr} {cap r : Nat} {M : List Bool} {t : TypeId} {ds : List Value} (h : BoolsAt w sp cap M) (hg : Gr w w' r) (hr : Blk w r t ds) (ht : t ≠ 4) : BoolsAt w' sp cap M := by
  obtain ⟨h1, h2, h | ⟨g, off, cs, rfl, hb, hc⟩⟩ := h
  · exact ⟨h1, h2, .inl h⟩
  · have := hb.ne hr (Ne.symm ht)
    exact ⟨h1, h2, .inr ⟨g, off, cs, rfl, hb.grown hg (by simpa using this), hc⟩⟩
theorem BoolsAt.cell {w : World} {sp : Option Addr} {cap k : Nat} {M : List Bool} (h : BoolsAt w sp cap M) (hk : k < M.length) : ∃ g off, sp = some ⟨g, off, none⟩ ∧ w.cell? ⟨g, off + k, none⟩ = some (.bool (M.getD k false)) := by
  obtain ⟨h1, h2, ⟨_, rfl, _⟩ | ⟨g, off, cs, rfl, hb, hc⟩⟩ := h
  · simp at hk
  · exact ⟨g, off, rfl, hb.cell (hc k _ (by simp [bools, hk, List.getD]))⟩
theorem BoolsAt.drop {w : World} {g off cap n : Nat} {M : List Bool} (h : BoolsAt w (some ⟨g, off, none⟩) cap M) (hn : n ≤ M.length) : BoolsAt w (some ⟨g, off + n, none⟩) (cap - n) (M.drop n) := by
  obtain ⟨h1, h2, ⟨he, _⟩ | ⟨g', off', cs, he, hb, hc⟩⟩ := h
  · simp at he
  · simp at he
    obtain ⟨rfl, rfl⟩ := he
    refine ⟨by rw [List.length_drop]; omega, by omega, .inr ⟨g, off + n, cs, rfl, hb, fun i u hu => ?_⟩⟩
    rw [Nat.add_assoc]
    apply hc
    simp only [bools, List.map_drop, List.getElem?_drop] at hu ⊢
    exact hu
theorem BoolsAt.drop_all {w : World} {g off cap n : Nat} {M : List Bool} (h : BoolsAt w (some ⟨g, off, none⟩) cap M) (hn : n ≤ M.length) (he : cap = n) : BoolsAt w (some ⟨g, off, none⟩) (cap - n) (M.drop n) := by
  obtain ⟨h1, h2, ⟨hx, _⟩ | ⟨g', off', cs, hx, hb, hc⟩⟩ := h
  · simp at hx
  · simp at hx
    obtain ⟨rfl, rfl⟩ := hx
    have hl : M.length = n := by omega
    refine ⟨by rw [List.length_drop]; omega, by omega, .inr ⟨g, off, cs, rfl, hb, fun i u hu => ?_⟩⟩
    have := (List.getElem?_eq_some_iff.1 hu).1
    rw [bools_length, List.length_drop] at this
    omega
theorem BoolsAt.nil {w : World} {cap : Nat} {M : List Bool} (h : BoolsAt w none cap M) : M = [] ∧ cap = 0 := by
  obtain ⟨h1, h2, ⟨_, h3, h4⟩ | ⟨g', off', cs, hx, hb, hc⟩⟩ := h
  · exact ⟨h3, h4⟩
  · simp at hx

theorem want_step (B : List Nat) (at_ k : Nat) (h : at_ + k < 8 * B.length) : take B at_ (k + 1) = take B at_ k * 2 + (((bitsB B).drop at_).getD k false).toNat := by
  rw [take_add _ _ _ _ (by omega)]
  congr 1
  unfold take
  have hl : at_ + k < (bitsB B).length := by rw [bitsB_length]; exact h
  have e : ((bitsB B).drop (at_ + k)).take 1 = [(bitsB B)[at_ + k]] := by rw [List.drop_eq_getElem_cons hl]; rfl
  rw [e, List.getD_eq_getElem?_getD, List.getElem?_drop, List.getElem?_eq_getElem hl]
  simp [val]
theorem want_wrap (B : List Nat) (at_ k : Nat) (hk : k < 64) : IntKind.u64.wrap ((take B at_ k : Nat) * 2) = ((take B at_ k * 2 : Nat) : Int) ∧ IntKind.u64.wrap (IntKind.u64.wrap ((take B at_ k : Nat) * 2) + 1) = ((take B at_ k * 2 + 1 : Nat) : Int) := by
  have h1 := take_lt B at_ k
  have h2 : (2 : Nat) ^ k ≤ 2 ^ 63 := Nat.pow_le_pow_right (by omega) (by omega)
  have h3 : (2 : Nat) ^ 63 = 9223372036854775808 := by decide
  rw [IntKind.wrap_u64, IntKind.wrap_u64]
  omega

set_option maxRecDepth 100000 in
set_option maxHeartbeats 4000000 in
theorem bitsRead_walk (a0 : Option Addr) (len0 cap0 : Nat) (z0 : List Int) (a1 : Option Addr) (len1 cap1 : Nat) (z1 : List Int) (w : World) (w0 : IsRow .u8 w a0 len0 cap0 z0) (w1 : IsRow .i64 w a1 len1 cap1 z1) :
    Calls Try.prog 4 #[.slice a0 len0 cap0, .slice a1 len1 cap1] w fun e w' => e = .returned (.bool true) ∧ Below w.heap.size w w' := by
  have HV := Lib.hid (isBytes_row w0).1
  have hmx := w1.len_le
  unfold maxLen at hmx
  have HROW := Lib.hid w1
  clear w0 w1
  obtain ⟨m, hm⟩ : ∃ m, m = min len1 60 := ⟨_, rfl⟩
  have hm1 : m ≤ len1 := by omega
  have hm2 : m ≤ 60 := by omega
  have HM : Hid (m = len1 ∨ m = 60) := Lib.hid (by omega)
  clear hm
  go_enter Try.func4, Try.ntmps4
  go_wp2_with fail
  refine (begun_any _).mono ?_
  rintro e w1 ⟨rfl, hb⟩
  have HB1 := Lib.hid hb
  have HV1 := Lib.hid (HV.out.below hb)
  clear hb HV
  go_wp2_with fail
  refine (short_any _ _ 60 _ HV1.out (by omega)).mono ?_
  rintro e w2 ⟨v', rfl, hv', rfl⟩
  obtain ⟨B, hB⟩ : ∃ B, B = (bytesZ z0 len0).take 60 := ⟨_, rfl⟩
  rw [← hB] at hv'
  have hBl : B.length ≤ 60 := by rw [hB, List.length_take]; omega
  clear hB
  have HV2 := Lib.hid hv'
  clear hv' HV1
  obtain ⟨a, cap, rfl, hcap, hmax⟩ := HV2.out.slice
  unfold maxLen at hmax
  go_wp2_with fail
  refine (read_any _ B _ HV2.out (by omega)).mono ?_
  rintro e w3 ⟨r, rfl, hr, hb3⟩
  have HB3 := Lib.hid (HB1.out.trans (hb3.mono HB1.out.size))
  have HV3 := Lib.hid (HV2.out.below hb3)
  have HR3 := Lib.hid hr
  have hrb : w.heap.size ≤ r := Nat.le_trans HB1.out.size hr.1
  obtain ⟨base, hbase⟩ : ∃ x, x = w1.heap.size := ⟨_, rfl⟩
  rw [← hbase] at HR3
  clear hr hb3 hbase HV2
  go_wp2_with fail
  refine (bits_any _ B _ HV3.out (by omega)).mono ?_
  rintro e w4 ⟨vl, rfl, ho, hb4⟩
  obtain ⟨sp, cl, rfl, hcl, hml⟩ := ownsRow_slice ho
  have HL4 : Hid (BoolsAt w4 sp cl ((bitsB B).drop 0)) := Lib.hid (boolsAt_own (by rw [List.drop_zero, bitsB_length]) (by rw [List.drop_zero]; exact ho))
  have HB4 := Lib.hid (HB3.out.trans (hb4.mono HB3.out.size))
  have HR4 := Lib.hid (HR3.out.below hb4)
  clear ho hb4 HB3 HR3 HV3 hml hcl
  go_wp2_with fail
  go_loopw [7, 8] (fun l x wr => ∃ (i at_ : Nat) (sp : Option Addr) (cl : Nat), i ≤ m ∧ at_ ≤ 8 * B.length ∧ x = .int .i64 i ∧ l = .slice sp (8 * B.length - at_) cl ∧ BoolsAt wr sp cl ((bitsB B).drop at_) ∧ Rd wr base r B at_ ∧ Below w.heap.size w wr) (fun _ x _ => m - (intOf x).toNat)
  case atStart => exact ⟨0, 0, sp, cl, Nat.zero_le _, Nat.zero_le _, rfl, rfl, HL4.out, HR4.out, HB4.out⟩
  case round =>
    obtain ⟨i, at_, sp', cl', hi, hat, rfl, rfl, hl, hr, hb⟩ := hrel
    have HL := Lib.hid hl
    have HR := Lib.hid hr
    have HB := Lib.hid hb
    have hcl1 : 8 * B.length - at_ ≤ cl' := by have := hl.1; rw [List.length_drop, bitsB_length] at this; exact this
    have hcl2 := hl.2.1
    unfold maxLen at hcl2
    clear hl hr hb HL4 HR4 HB4
    by_cases hlt : i < m
    · obtain ⟨b0, off, rfl, hb0, _, _, hcell, _⟩ := HROW.out.cells (by omega)
      have c1 : wr.cell? ⟨b0, off + i, none⟩ = some (.int .i64 (z1.getD i 0)) := (HB.out.cell (p := ⟨b0, off + i, none⟩) hb0).trans (hcell i (by omega))
      clear hcell
      obtain ⟨z, hz⟩ : ∃ z, z = z1.getD i 0 := ⟨_, rfl⟩
      rw [← hz] at c1
      clear hz
      have hi60 : decide ((i : Int) < 60) = true := by simp; omega
      have hilen : i < len1 := by omega
      by_cases hbad : z < 0 ∨ 64 < z ∨ 8 * (B.length : Int) - (at_ : Int) < z
      · have hcases : (z < 0) ∨ (¬ z < 0 ∧ 64 < z) ∨ (¬ z < 0 ∧ ¬ 64 < z ∧ (((8 * B.length - at_ : Nat) : Int) < z)) := by omega
        have HG := Lib.hid (get_bad r base B at_ z wr HR.out hbad)
        clear hbad
        rcases hcases with h | ⟨h1, h2⟩ | ⟨h1, h2, h3⟩
        all_goals
          go_wp2_with fail
          refine HG.out.mono ?_
          rintro e w5 ⟨rfl, kk, rfl⟩
          go_wp2_with fail
          go_roundw
          case rel => exact ⟨i + 1, at_, sp', cl', by omega, hat, by go_num, rfl, HL.out, HR.out, bel_drewN HB.out kk⟩
          case measure => simp [intOf]; omega
      · obtain ⟨n, rfl⟩ := Int.eq_ofNat_of_zero_le (by omega : 0 ≤ z)
        have hn : n ≤ 64 := by omega
        have hna : at_ + n ≤ 8 * B.length := by omega
        have hnI : ((n : Int) ≤ ((8 * B.length - at_ : Nat) : Int)) := by omega
        clear hbad
        have HG := Lib.hid (get_any r base B at_ n wr HR.out hn hna)
        obtain ⟨_, hrbl⟩ := HR.out.blk
        have HRB := Lib.hid hrbl
        clear hrbl
        go_wp2_with fail
        refine HG.out.mono ?_
        rintro e w5 ⟨rfl, hr5, hg5⟩
        have HR5 := Lib.hid hr5
        have HL5 := Lib.hid (HL.out.gr hg5 HRB.out (by decide))
        have HB5 := Lib.hid (HB.out.trans (hg5.below HB.out.size hrb))
        clear hr5 hg5 HG HR HL HB HRB c1
        go_wp2_with fail
        obtain ⟨wo, hwo⟩ : ∃ wo : World, wo = w5 := ⟨_, rfl⟩
        subst hwo
        go_loop [12, 13] (fun y x => ∃ k : Nat, k ≤ n ∧ x = .int .i64 k ∧ y = .int .u64 (take B at_ k : Nat)) (fun _ x => n - (intOf x).toNat)
        case atStart => exact ⟨0, Nat.zero_le _, rfl, by rw [take_zero]; rfl⟩
        case round =>
          obtain ⟨k, hk, rfl, rfl⟩ := hrel
          by_cases hkn : k < n
          · have hkl : k < ((bitsB B).drop at_).length := by rw [List.length_drop, bitsB_length]; omega
            obtain ⟨g, og, rfl, cb⟩ := HL5.out.cell hkl
            have hkI : (k : Int) < ((8 * B.length - at_ : Nat) : Int) := by omega
            have HW1 := Lib.hid (want_wrap B at_ k (by omega))
            have HST := Lib.hid (want_step B at_ k (by omega))
            obtain ⟨b, hb⟩ : ∃ b, b = ((bitsB B).drop at_).getD k false := ⟨_, rfl⟩
            rw [← hb] at cb HST
            clear hb hkl
            cases b
            · go_wp2_with fail
              go_round
              case rel => exact ⟨k + 1, by omega, by go_num, by rw [HST.out, HW1.out.1]; rfl⟩
              case measure => simp [intOf]; omega
            · go_wp2_with fail
              go_round
              case rel => exact ⟨k + 1, by omega, by go_num, by rw [HST.out, HW1.out.2]; rfl⟩
              case measure => simp [intOf]; omega
          · obtain rfl : k = n := by omega
            clear hkn hk
            have hleft := left_any r base B _ _ HR5.out
            rw [show (8 * (B.length : Int) - ((at_ + k : Nat) : Int)) = ((8 * B.length - at_ - k : Nat) : Int) by omega] at hleft
            have HLe := Lib.hid hleft
            have hdl : k ≤ ((bitsB B).drop at_).length := by rw [List.length_drop, bitsB_length]; omega
            have HDD : Hid (((bitsB B).drop at_).drop k = (bitsB B).drop (at_ + k)) := Lib.hid (by rw [List.drop_drop])
            have HSub : Hid (8 * B.length - (at_ + k) = 8 * B.length - at_ - k) := Lib.hid (by omega)
            clear hleft
            cases sp' with
            | none =>
              obtain ⟨hM, rfl⟩ := HL5.out.nil
              have hk0 : k = 0 := by rw [hM] at hdl; simpa using hdl
              subst hk0
              clear hM
              go_wp2_with fail
              refine HLe.out.mono ?_
              rintro e w6 ⟨rfl, kk, rfl⟩
              go_wp2_with fail
              go_roundw
              case rel => exact ⟨i + 1, at_ + 0, none, 0, by omega, by omega, by go_num, by rw [show 8 * B.length - (at_ + 0) = 0 by omega], HL5.out, HR5.out, bel_drewN HB5.out kk⟩
              case measure => simp [intOf]; omega
            | some ad =>
              obtain ⟨g, og, hsp⟩ : ∃ g og, ad = ⟨g, og, none⟩ := by
                obtain ⟨_, _, ⟨he, _⟩ | ⟨g, off, _, he, _⟩⟩ := HL5.out
                · simp at he
                · simp at he; exact ⟨g, off, he⟩
              subst hsp
              by_cases hcn : cl' = k
              · have HL6 := Lib.hid (HL5.out.drop_all hdl hcn)
                subst hcn
                go_wp2_with fail
                refine HLe.out.mono ?_
                rintro e w6 ⟨rfl, kk, rfl⟩
                go_wp2_with fail
                go_roundw
                case rel => exact ⟨i + 1, at_ + cl', some ⟨g, og, none⟩, cl' - cl', by omega, by omega, by go_num, by rw [show 8 * B.length - (at_ + cl') = 0 by omega, Nat.sub_self], by rw [← HDD.out]; exact HL6.out, HR5.out, bel_drewN HB5.out kk⟩
                case measure => simp [intOf]; omega
              · have HL6 := Lib.hid (HL5.out.drop hdl)
                go_wp2_with fail
                refine HLe.out.mono ?_
                rintro e w6 ⟨rfl, kk, rfl⟩
                go_wp2_with fail
                go_roundw
                case rel => exact ⟨i + 1, at_ + k, some ⟨g, og + k, none⟩, cl' - k, by omega, by omega, by go_num, by rw [HSub.out], by rw [← HDD.out]; exact HL6.out, HR5.out, bel_drewN HB5.out kk⟩
                case measure => simp [intOf]; omega
    · obtain rfl : i = m := by omega
      clear hlt hi
      have hsplit : len1 ≤ i ∨ (i < len1 ∧ 60 ≤ i) := by have := HM.out; omega
      rcases hsplit with hA | ⟨hA, hA2⟩
      all_goals
        go_wp2_with fail
        go_ret
        exact ⟨rfl, HB.out⟩
end Go.Proofs.Ytiagafanibjiiaa

/- The law BitsOwn, walked. -/
import Derived.Test.YtiagafanibjiiaaLa
import Derived.Test.YtiagafanibjiiaaShort
namespace Go.Proofs.Ytiagafanibjiiaa
open Go.RowKit Pl
attribute [local go_sem ↓] build29_eq
attribute [local go_sem] run_build29

/-- the bytes, the first k of them one greater -/
def incs (B : List Nat) (k : Nat) : List Nat := (List.range B.length).map fun i => if i < k then (B.getD i 0 + 1) % 256 else B.getD i 0
theorem incs_length (B : List Nat) (k : Nat) : (incs B k).length = B.length := by simp [incs]
theorem incs_zero (B : List Nat) : incs B 0 = B := by
  apply List.ext_getElem?
  intro i
  by_cases h : i < B.length <;> simp [incs, h, List.getD]
theorem incs_get (B : List Nat) (k i : Nat) (h : i < B.length) : (incs B k).getD i 0 = if i < k then (B.getD i 0 + 1) % 256 else B.getD i 0 := by
  simp [incs, List.getD, h]
theorem incs_set (B : List Nat) (k : Nat) (h : k < B.length) : (u8s (incs B k)).set k (.int .u8 ((B.getD k 0 + 1) % 256 : Nat)) = u8s (incs B (k + 1)) := by
  apply List.ext_getElem?
  intro i
  by_cases hi : i < B.length
  · have h1 := u8s_get (incs B (k + 1)) i (by rw [incs_length]; exact hi)
    rw [h1, incs_get _ _ _ hi]
    by_cases e : k = i
    · subst e
      rw [List.getElem?_set_self (by rw [u8s_length, incs_length]; exact hi), if_pos (by omega)]
    · rw [List.getElem?_set_ne e, u8s_get _ _ (by rw [incs_length]; exact hi), incs_get _ _ _ hi]
      by_cases h2 : i < k
      · rw [if_pos h2, if_pos (by omega)]
      · rw [if_neg h2, if_neg (by omega)]
  · rw [List.getElem?_eq_none (by simp [u8s_length, incs_length]; omega), List.getElem?_eq_none (by rw [u8s_length, incs_length]; omega)]

set_option maxHeartbeats 4000000 in
theorem bitsOwn_walk (a0 : Option Addr) (len0 cap0 : Nat) (z0 : List Int) (w : World) (w0 : IsRow .u8 w a0 len0 cap0 z0) : Calls Try.prog 9 #[.slice a0 len0 cap0] w fun e w' => e = .returned (.bool true) ∧ Below w.heap.size w w' := by
  have HV := Lib.hid (isBytes_row w0).1
  clear w0
  obtain ⟨i0, hi, hz0, hz1, hz2⟩ := info_parts info5
  have Hi := Lib.hid hi
  have Hz0 := Lib.hid hz0
  have Hz1 := Lib.hid hz1
  have Hz2 := Lib.hid hz2
  clear hi hz0 hz1 hz2
  go_enter Try.func9, Try.ntmps9
  go_wp2_with fail
  refine (begun_any _).mono ?_
  rintro e w1 ⟨rfl, hb⟩
  have HB1 := Lib.hid hb
  have HV1 := Lib.hid (HV.out.below hb)
  clear hb
  go_wp2_with fail
  refine (short_any _ _ 30 _ HV1.out (by omega)).mono ?_
  rintro e w2 ⟨v', rfl, hv', rfl⟩
  obtain ⟨B, hB⟩ : ∃ B, B = (bytesZ z0 len0).take 30 := ⟨_, rfl⟩
  rw [← hB] at hv'
  have hBl : B.length ≤ 30 := by rw [hB, List.length_take]; omega
  clear hB
  obtain ⟨a, cap, rfl, hcap, hmax⟩ := hv'.slice
  have HX : Hid (∀ x ∈ B, x < 256) := Lib.hid hv'.1
  have HV2 := Lib.hid hv'
  clear hv' HV HV1
  go_wp2_with (at_builtin; refine wpList_append_bytes rfl _ _ rfl w1.heap.size (.slice none 0 0) 0 [] rfl (World.ownsRow_nil _ _ _ _) (.slice a B.length cap) B rfl HV2.out (by omega) (Nat.le_refl _) ?_; intro v1 w2 hown hgr; rw [Nat.zero_add, List.nil_append] at hown; obtain ⟨sp, cap1, rfl, hcap1, hmax1⟩ := ownsRow_slice hown)
  have HB2 : Hid (Below w.heap.size w w2) := Lib.hid (HB1.out.grown hgr HB1.out.size (by simp [Value.ownBlock]))
  have HO2 := Lib.hid hown
  have hw12 := hgr.size
  clear hown hgr
  unfold maxLen at hmax hmax1
  refine (read_any _ B _ (isBytes_own HX.out HO2.out) (by omega)).mono ?_
  rintro e w3 ⟨r, rfl, hr, hb3⟩
  have HO3 : Hid (w3.ownsRow w1.heap.size 5 1 (.slice sp B.length cap1) B.length (u8s B)) := Lib.hid (ownsRow_row HO2.out (r := none) ⟨hb3.os, hb3.tape, hb3.output, hb3.size, fun k hk _ => hb3.block k hk⟩ (by simp))
  have HB3 := Lib.hid (HB2.out.trans (hb3.mono HB2.out.size))
  have HR3 := Lib.hid hr
  obtain ⟨base, hbase⟩ : ∃ x, x = w2.heap.size := ⟨_, rfl⟩
  rw [← hbase] at HR3
  have hrb : w.heap.size ≤ r := Nat.le_trans HB2.out.size hr.1
  have hrow : ∀ g, sp = some ⟨g, 0, none⟩ → w1.heap.size ≤ g ∧ g < base := fun g hg => by
    have := HO2.out.lt g (by rw [hg]; rfl)
    omega
  have HRow := Lib.hid hrow
  have hbase3 : base ≤ w3.heap.size := by rw [hbase]; exact hb3.size
  have hw1b : w1.heap.size ≤ base := by omega
  clear hr hb3 hbase hrow HB2 HO2 HV2
  go_wp2_with fail
  have HW4 := Lib.hid (Wr.fresh w3)
  have HB4 : Hid (Below w.heap.size w (w3.alloc (.cells (wcells none []).toArray 29))) := Lib.hid (HB3.out.alloc HB3.out.size _)
  have HR4 : Hid (Rd (w3.alloc (.cells (wcells none []).toArray 29)) base r B 0) := Lib.hid (HR3.out.alloc _)
  have HO4 : Hid ((w3.alloc (.cells (wcells none []).toArray 29)).ownsRow w1.heap.size 5 1 (.slice sp B.length cap1) B.length (u8s B)) := Lib.hid (HO3.out.alloc _)
  have hws := HB3.out.size
  have hw1 := HB1.out.size
  clear HB3 HR3 HO3
  go_loopw [6] (fun x wr => ∃ k : Nat, k ≤ B.length ∧ x = .int .i64 k ∧ Wr wr w3.heap.size (bitsB (B.take k)) ∧ Rd wr base r B 0 ∧ wr.ownsRow w1.heap.size 5 1 (.slice sp B.length cap1) B.length (u8s B) ∧ Below w.heap.size w wr) (fun x _ => B.length - (intOf x).toNat)
  case atStart => exact ⟨0, Nat.zero_le _, rfl, HW4.out, HR4.out, HO4.out, HB4.out⟩
  case round =>
    obtain ⟨k, hk, rfl, hw, hr, ho, hb⟩ := hrel
    have HW := Lib.hid hw
    have HR := Lib.hid hr
    have HO := Lib.hid ho
    have HB := Lib.hid hb
    clear hw hr ho hb HW4 HB4 HR4 HO4
    by_cases hlt : k < B.length
    · obtain ⟨g, rfl, c0⟩ := row_cell HO.out hlt
      have hx := getD_lt HX.out k
      have HS : Hid (bitsB (B.take (k + 1)) = bitsB (B.take k) ++ bitsOf ((B.getD k 0 : Nat) : Int).toNat 8) := Lib.hid (by rw [bitsB_take_succ B k hlt]; rfl)
      obtain ⟨X, hX⟩ : ∃ X, X = B.getD k 0 := ⟨_, rfl⟩
      rw [← hX] at c0 hx HS
      have HLk : Hid ((bitsB (B.take k)).length + 8 < 17179869184) := Lib.hid (by rw [bitsB_length, List.length_take]; omega)
      obtain ⟨_, hbw⟩ := HW.out.blk
      have HBW := Lib.hid hbw
      clear hX hbw
      go_wp2_with (go_at_call 11; refine (put_any w3.heap.size _ X 8 _ (U64.small (by omega) (by omega)) HW.out HLk.out (by omega)).mono ?_; rintro e w5 ⟨rfl, hw5, hg5⟩)
      go_roundw
      case rel => exact ⟨k + 1, by omega, by go_num, by rw [HS.out]; exact hw5, rd_gr HR.out hg5 HBW.out (by decide) (by decide), own_gr HO.out hg5 HBW.out (by decide), HB.out.trans (hg5.below HB.out.size hws)⟩
      case measure => simp [intOf]; omega
    · obtain rfl : k = B.length := by omega
      clear hlt hk
      rw [List.take_length] at HW
      have HLk : Hid ((bitsB B).length = 8 * B.length) := Lib.hid (bitsB_length _)
      have HBB : Hid (bytesOf (bitsB B) = B) := Lib.hid (bytesOf_bitsB B HX.out)
      go_wp2_with fail
      refine (bytes_any w3.heap.size _ _ HW.out (by rw [HLk.out]; omega)).mono ?_
      rintro e w5 ⟨rfl, hk5, hb5⟩
      rw [HBB.out] at hk5
      have e5 : ((bitsB B).length + 7) / 8 = B.length := by rw [HLk.out]; omega
      rw [e5]
      have HW5 := Lib.hid (HW.out.below hb5)
      have HRb := Lib.hid HR.out
      have HO5 := Lib.hid (own_below HO.out hb5)
      have HB5 := Lib.hid (HB.out.trans (hb5.mono HB.out.size))
      have HK5 := Lib.hid hk5
      obtain ⟨gc, hgc⟩ : ∃ x, x = wr.heap.size := ⟨_, rfl⟩
      have hgc1 := HR.out.lt
      have hgc2 := HW.out.lt
      have hgc3 := HO.out.lt
      have hgc4 := HB.out.size
      rw [← hgc] at HK5 hgc1 hgc2 hgc3 hgc4 ⊢
      obtain ⟨wB, hwB⟩ : ∃ wB : World, wB = wr := ⟨_, rfl⟩
      have HS5 : Hid (SameIn base gc wB w5) := Lib.hid (by rw [hwB]; exact fun k _ h2 => hb5.block k (by omega))
      rw [← hwB] at HRb hgc
      have HGC := Lib.hid hgc
      clear hk5 hb5 HW HR HO HB hgc e5 hwB
      go_wp2_with fail
      go_loopw [8] (fun x wr => ∃ k : Nat, k ≤ B.length ∧ x = .int .i64 k ∧ Wr wr w3.heap.size (bitsB B) ∧ SameIn base gc wB wr ∧ wr.ownsRow w1.heap.size 5 1 (.slice sp B.length cap1) B.length (u8s (incs B k)) ∧ Blk wr gc 5 (u8s B) ∧ Below w.heap.size w wr) (fun x _ => B.length - (intOf x).toNat)
      case atStart => exact ⟨0, Nat.zero_le _, rfl, HW5.out, HS5.out, by rw [incs_zero]; exact HO5.out, HK5.out, HB5.out⟩
      case round =>
        obtain ⟨k, hk, rfl, hw, hr, ho, hg, hb⟩ := hrel
        have HW := Lib.hid hw
        have HR := Lib.hid hr
        have HO := Lib.hid ho
        have HB := Lib.hid hb
        have HK := Lib.hid hg
        have hgcs : gc < wr.heap.size := HK.out.lt
        clear hw hr ho hb hg HW5 HB5 HS5 HO5 HK5
        by_cases hlt : k < B.length
        · obtain ⟨g, rfl, c0⟩ := row_cell (B := incs B k) (by rw [incs_length]; exact HO.out) (by rw [incs_length]; exact hlt)
          rw [incs_get _ _ _ hlt, if_neg (by omega)] at c0
          have f0 := HO.out.frozenAt k
          have hgb := hgc3 g rfl
          have hgr := HRow.out g rfl
          have hx := getD_lt HX.out k
          have HS : Hid ((u8s (incs B k)).set k (.int .u8 ((B.getD k 0 + 1) % 256 : Nat)) = u8s (incs B (k + 1))) := Lib.hid (incs_set B k hlt)
          obtain ⟨X, hX⟩ : ∃ X, X = B.getD k 0 := ⟨_, rfl⟩
          rw [← hX] at c0 hx HS
          clear hX
          go_wp2_with fail
          have hst := HO.out.stored k (.int .u8 ((X + 1) % 256 : Nat))
          rw [HS.out] at hst
          have eX : ((X : Int) + 1) % 256 = (((X + 1) % 256 : Nat) : Int) := by omega
          obtain ⟨_, hbg⟩ := own_blk HO.out
          go_roundw
          case rel => exact ⟨k + 1, by omega, by go_num, by rw [eX]; exact HW.out.grown hst.2 hbg (by decide) (by decide), by rw [eX]; exact HR.out.gr hst.2 (by omega) (by omega), by rw [eX]; exact hst.1, by rw [eX]; exact HK.out.grown hst.2 (by simp; omega), by rw [eX]; exact HB.out.trans (Gr.below hst.2 HB.out.size (by omega))⟩
          case measure => simp [intOf]; omega
        · obtain rfl : k = B.length := by omega
          clear hlt hk
          go_wp2_with fail
          obtain ⟨wo, hwo⟩ : ∃ wo : World, wo = wr := ⟨_, rfl⟩
          subst hwo
          go_loopw [9] (fun x wi => ∃ (j : Nat) (C : List Nat), j ≤ B.length ∧ x = .int .i64 j ∧ C.length = B.length ∧ (∀ y ∈ C, y < 256) ∧ Blk wi gc 5 (u8s C) ∧ Wr wi w3.heap.size (bitsB B) ∧ SameIn base gc wB wi ∧ wi.ownsRow w1.heap.size 5 1 (.slice sp B.length cap1) B.length (u8s (incs B B.length)) ∧ Below w.heap.size w wi) (fun x _ => B.length - (intOf x).toNat)
          case atStart => exact ⟨0, B, Nat.zero_le _, rfl, rfl, HX.out, HK.out, HW.out, HR.out, HO.out, HB.out⟩
          case round =>
            obtain ⟨j, C, hj, rfl, hcl, hcx, hk, hw, hs, ho, hb⟩ := hrel
            have HKi := Lib.hid hk
            have HCL := Lib.hid hcl
            have HCX := Lib.hid hcx
            have HWi := Lib.hid hw
            have HSi := Lib.hid hs
            have HOi := Lib.hid ho
            have HBi := Lib.hid hb
            have hgcs : gc < wr.heap.size := HKi.out.lt
            clear hk hcl hcx hw hs ho hb HW HR HO HB HK
            by_cases hlt : j < B.length
            · have c0 := HKi.out.cell (u8s_get C j (by rw [HCL.out]; exact hlt))
              have f0 := HKi.out.frozen
              have hx := getD_lt HCX.out j
              obtain ⟨X, hX⟩ : ∃ X, X = C.getD j 0 := ⟨_, rfl⟩
              rw [← hX] at c0 hx
              clear hX
              go_wp2_with fail
              have hst := HKi.out.set j (.int .u8 ((X + 1) % 256 : Nat))
              have hgr := (Gr.refl wr gc).setCell j (.int .u8 ((X + 1) % 256 : Nat))
              have eX : ((X : Int) + 1) % 256 = (((X + 1) % 256 : Nat) : Int) := by omega
              rw [show (u8s C).set j (.int .u8 ((X + 1) % 256 : Nat)) = u8s (C.set j ((X + 1) % 256)) by simp [u8s, List.map_set]] at hst
              go_roundw
              case rel => exact ⟨j + 1, C.set j ((X + 1) % 256), by omega, by go_num, by rw [List.length_set]; exact HCL.out, fun y hy => by { rcases List.mem_or_eq_of_mem_set hy with h | h; exact HCX.out y h; omega }, by rw [eX]; exact hst, by rw [eX]; exact HWi.out.grown hgr HKi.out (by decide) (by decide), by rw [eX]; exact HSi.out.gr hgr (by omega) (by omega), by rw [eX]; exact own_ne HOi.out hgr (fun g hg => (hgc3 g hg).2), by rw [eX]; exact HBi.out.trans (hgr.below HBi.out.size hgc4)⟩
              case measure => simp [intOf]; omega
            · obtain rfl : j = B.length := by omega
              clear hlt hj
              have HR8 : Hid (Rd wr base r B 0) := Lib.hid (HRb.out.frame HGC.out HSi.out)
              go_wp2_with fail
              refine (bytes_any w3.heap.size _ _ HWi.out (by rw [HLk.out]; omega)).mono ?_
              rintro e w8 ⟨rfl, hk8, hb8⟩
              rw [HBB.out] at hk8
              have e5 : ((bitsB B).length + 7) / 8 = B.length := by rw [HLk.out]; omega
              rw [e5]
              have HR9 := Lib.hid (HR8.out.below hb8)
              have HO9 := Lib.hid (own_below HOi.out hb8)
              have HB9 := Lib.hid (HBi.out.trans (hb8.mono HBi.out.size))
              have HK9 := Lib.hid hk8
              obtain ⟨gd, hgd⟩ : ∃ x, x = wr.heap.size := ⟨_, rfl⟩
              rw [← hgd] at HK9 ⊢
              clear hk8 hb8 HWi HR8 HOi HBi HSi HKi hgd e5
              go_wp2_with fail
              go_loopw [11] (fun x wi => ∃ j : Nat, j ≤ B.length ∧ x = .int .i64 j ∧ Rd wi base r B (8 * j) ∧ wi.ownsRow w1.heap.size 5 1 (.slice sp B.length cap1) B.length (u8s (incs B B.length)) ∧ Blk wi gd 5 (u8s B) ∧ Below w.heap.size w wi) (fun x _ => B.length - (intOf x).toNat)
              case atStart => exact ⟨0, Nat.zero_le _, rfl, HR9.out, HO9.out, HK9.out, HB9.out⟩
              case round =>
                obtain ⟨j, hj, rfl, hr, ho, hk, hb⟩ := hrel
                have HR := Lib.hid hr
                have HO := Lib.hid ho
                have HK := Lib.hid hk
                have HB := Lib.hid hb
                clear hr ho hk hb HR9 HO9 HK9 HB9
                by_cases hlt : j < B.length
                · have hget := get_any r base _ (8 * j) 8 wr HR.out (by omega) (by omega)
                  unfold GetPost at hget
                  rw [take_byte B j hlt HX.out] at hget
                  have hx := getD_lt HX.out j
                  have HCa : Hid (∃ g, sp = some ⟨g, 0, none⟩ ∧ ∀ W : World, W.ownsRow w1.heap.size 5 1 (.slice sp B.length cap1) B.length (u8s (incs B B.length)) → W.cell? ⟨g, j, none⟩ = some (.int .u8 ((B.getD j 0 + 1) % 256 : Nat))) := Lib.hid (by
                    obtain ⟨g, hg, _⟩ := row_cell (B := incs B B.length) (by rw [incs_length]; exact HO.out) (by rw [incs_length]; exact hlt)
                    refine ⟨g, hg, fun W hW => ?_⟩
                    obtain ⟨g', hg', hc'⟩ := row_cell (B := incs B B.length) (i := j) (by rw [incs_length]; exact hW) (by rw [incs_length]; exact hlt)
                    rw [incs_get _ _ _ hlt, if_pos hlt] at hc'
                    rw [hg] at hg'
                    simp at hg'
                    subst hg'
                    exact hc')
                  have HCd : Hid (∀ W : World, Blk W gd 5 (u8s B) → W.cell? ⟨gd, j, none⟩ = some (.int .u8 (B.getD j 0 : Nat))) := Lib.hid fun W hW => hW.cell (u8s_get B j hlt)
                  obtain ⟨X, hX⟩ : ∃ X, X = B.getD j 0 := ⟨_, rfl⟩
                  rw [← hX] at hget hx HCa HCd
                  have HG := Lib.hid hget
                  obtain ⟨_, hrb2⟩ := HR.out.blk
                  have HRB := Lib.hid hrb2
                  clear hX hget hrb2
                  obtain ⟨g, hspg, hca⟩ := HCa.out
                  have HCA := Lib.hid hca
                  clear hca HCa
                  subst hspg
                  go_wp2_with fail
                  refine HG.out.mono ?_
                  rintro e w10 ⟨rfl, hr10, hg10⟩
                  have HR10 := Lib.hid hr10
                  have HO10 := Lib.hid (own_gr HO.out hg10 HRB.out (by decide))
                  have HK10 : Hid (Blk w10 gd 5 (u8s B)) := Lib.hid (HK.out.grown hg10 (by have := HK.out.ne HRB.out (by decide); simpa using this))
                  have HB10 := Lib.hid (HB.out.trans (hg10.below HB.out.size hrb))
                  obtain ⟨Y, hY⟩ : ∃ Y : Int, Y = (((X + 1) % 256 : Nat) : Int) := ⟨_, rfl⟩
                  have ca := HCA.out _ HO10.out
                  rw [← hY] at ca
                  have HY := Lib.hid hY
                  have hY0 : 0 ≤ Y := by omega
                  have hY1 : Y < 256 := by omega
                  have hne : ((X : Int) != (Y - 1) % 256) = false := by
                    have e : (Y - 1) % 256 = (X : Int) := by omega
                    rw [e]; simp
                  clear hY
                  have cd := HCd.out _ HK10.out
                  clear hr10 hg10
                  go_wp2_with fail
                  have hjI : (j : Int) < (B.length : Int) := by omega
                  go_quiet (fail)
                  go_wp2_with fail
                  go_roundw
                  case rel => exact ⟨j + 1, by omega, by go_num, HR10.out, HO10.out, HK10.out, bel_drewN HB10.out _⟩
                  case measure => simp [intOf]; omega
                · obtain rfl : j = B.length := by omega
                  clear hlt hj
                  go_wp2_with fail
                  go_ret
                  exact ⟨by simp, HB.out⟩
end Go.Proofs.Ytiagafanibjiiaa

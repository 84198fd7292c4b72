/- Texts put together: RawL. -/
import Derived.Test.YtdjkkohckfndkaaDoorEg44
import Derived.Deep.OwnRows
set_option linter.unusedSimpArgs false
set_option linter.unusedVariables false
set_option maxRecDepth 100000
namespace Go.Proofs.YtdjkkohckfndkaaDoor.S15
open Go.RowKit S13 S13.Dk S14 S3 S2.Pl S3.Pl
theorem run_makeB (n : Nat) (hn : n ≤ 100000) (w : World) : (Instr.makeSlice 35 (.int .i64 (n : Int)) (.int .i64 (n : Int))).run Tryd.prog w = .ok (.slice (some ⟨w.heap.size, 0, none⟩) n n) (w.alloc (.cells (u8s (List.replicate n 0)).toArray 5)) := by
  have h := run_make_row' (P := Tryd.prog) 35 5 (.int .u8 0) 1 Tryd.underlying35 info5 rfl .i64 .i64 n (by omega) (by omega) w
  have e : madeCells #[Value.int .u8 0] n = (u8s (List.replicate n 0)).toArray := by
    apply Array.toList_inj.1
    have := made_list n
    rw [Nat.mul_one] at this
    rw [show (#[Value.int .u8 0] : Array Value) = (Value.int .u8 0).cells from rfl, this]
    simp [u8s]
  rw [e] at h
  exact h
def zsS (n : Nat) : ByteArray := str (List.replicate n 0)
theorem zsS_size (n : Nat) : (zsS n).size = n := by unfold zsS; rw [str_sz, List.length_replicate]
theorem isBytes_zeros (n : Nat) (hn : n ≤ 100000) (w : World) : IsBytes (w.alloc (.cells (u8s (List.replicate n 0)).toArray 5)) (.slice (some ⟨w.heap.size, 0, none⟩) n n) (List.replicate n 0) := by
  have := isBytes_mark w (List.replicate n 0) (0, 0) (by intro x hx; rw [List.eq_of_mem_replicate hx]; omega) (by simp [maxLen]; omega)
  rw [List.length_replicate] at this
  exact this
theorem conv_zeros (n : Nat) (hn : n ≤ 100000) (w : World) : (convS (.slice (some ⟨w.heap.size, 0, none⟩) n n)).run Tryd.prog (w.alloc (.cells (u8s (List.replicate n 0)).toArray 5)) = .ok (.string (zsS n)) (w.alloc (.cells (u8s (List.replicate n 0)).toArray 5)) := run_conv (isBytes_zeros n hn w)
def recZ (z i : Nat) : RT := ⟨1, (i : Int) + 1, ⟨#[107]⟩, zsS z⟩
def recsZ (z i : Nat) : List RT := (List.range i).map (recZ z)
theorem recsZ_length (z i : Nat) : (recsZ z i).length = i := by simp [recsZ]
theorem recsZ_succ (z i : Nat) : recsZ z (i + 1) = recsZ z i ++ [recZ z i] := by simp [recsZ, List.range_succ]
theorem recsZ_get (z : Nat) {i j : Nat} (h : j < i) : (recsZ z i).getD j zR = recZ z j := by simp [recsZ, List.getD, h]
theorem chk_recZ {z i : Nat} (hz : z ≤ 4000) (hi : i ≤ 1000000) : chk (recZ z i) = 0 := by
  have hf : formR (recZ z i) = true := by
    unfold formR recZ
    simp only [Bool.and_eq_true, Bool.or_eq_true, decide_eq_true_eq]
    exact ⟨⟨by omega, by omega⟩, .inl trivial⟩
  have hk : (recZ z i).key.size = 1 := rfl
  have hv : (recZ z i).val.size = z := zsS_size z
  rw [chk_3 (by omega) (by omega) (by omega), hf]
  rfl
theorem chk_recsZ {z i : Nat} (hz : z ≤ 4000) (hi : i ≤ 1000000) : ∀ r ∈ recsZ z i, chk r = 0 := by
  intro r hr
  unfold recsZ at hr
  obtain ⟨j, hj, rfl⟩ := List.mem_map.1 hr
  have := List.mem_range.1 hj
  exact chk_recZ hz (by omega)
theorem room_z {w0 w : World} {p : Nat} {S : St} {Z : Nat → Prop} (n : Int) (h : InZ w0 p S Z w) : Calls Tryd.prog 25 #[pP p, .int .i64 n] w fun e w' => e = .returned (.tuple #[]) ∧ InZ w0 p (setRoom S n) Z w' ∧ ∀ b, Z b → w'.heap[b]? = w.heap[b]? := by
  obtain ⟨l, rfl, hI, ha, hw, hz⟩ := h
  refine (room_any l S n w hI).mono fun e w' h => ⟨h.1, ?_⟩
  exact (op_z (r := (setRoom S n, 0)) (e := .returned (errV 0)) rfl hw ha hz ⟨rfl, h.2.gone rfl⟩).2
theorem room_held {w0 w : World} {p q : Nat} {S : St} {n : ByteArray} {E : List Int} (m : Int) (h : InS w0 p S q n E w) : Calls Tryd.prog 25 #[pP p, .int .i64 m] w fun e w' => e = .returned (.tuple #[]) ∧ InS w0 p (setRoom S m) q n E w' := by
  obtain ⟨ev, hz, hs⟩ := h
  exact (room_z m hz).mono fun e w' h => ⟨h.1, ev, h.2.1, hs.keep h.2.2⟩
def r500 : RT := ⟨0, 500, ⟨#[107]⟩, ⟨#[]⟩⟩
theorem chk_500 : chk r500 = 0 := by decide
theorem fmt9 : FmtOk 9 (digS 9) := fmt_dig 9 (by decide)
theorem nm9 : digS 9 ++ rawE = ⟨#[57, 46, 114, 97, 119]⟩ := by decide
attribute [local go_sem ↓] loadR_eq storeR_eq buildR_eq sliceU8_eq conv_eq
attribute [local go_sem] run_buildR run_buildR4 run_buildR3'
set_option maxHeartbeats 32000000 in
theorem rawFull_walk (room size : Int) (w : World) (hT : Tab w) (hr : (Lit.int .i64 room).wf = true) (hs : (Lit.int .i64 size).wf = true) :
    Calls Tryd.prog 6 #[.int .i64 room, .int .i64 size] w fun e w' => e = .returned (.bool true) ∧ Below w.heap.size w w' := by
  have HT : Hid (∀ W, Below w.heap.size w W → Tab W) := Lib.hid fun W hW => hT.below hW
  have hbeg := begun_any w hT
  clear hT hr hs
  by_cases h0 : room < 0
  · have d0 : decide (room < 0) = true := by simpa using h0
    go_enter Tryd.func6, Tryd.ntmps6
    go_wp2_with fail
    refine hbeg.mono ?_
    rintro e w1 ⟨rfl, hb⟩
    have HB := Lib.hid hb
    clear hbeg hb
    go_wp2_with fail
    go_ret
    exact ⟨rfl, HB.out⟩
  by_cases h1 : 2000 < room
  · have d0 : decide (room < 0) = false := by simp; omega
    have d1 : decide (2000 < room) = true := by simpa using h1
    go_enter Tryd.func6, Tryd.ntmps6
    go_wp2_with fail
    refine hbeg.mono ?_
    rintro e w1 ⟨rfl, hb⟩
    have HB := Lib.hid hb
    clear hbeg hb
    go_wp2_with fail
    go_ret
    exact ⟨rfl, HB.out⟩
  by_cases h2 : size < 0
  · have d0 : decide (room < 0) = false := by simp; omega
    have d1 : decide (2000 < room) = false := by simp; omega
    have d2 : decide (size < 0) = true := by simpa using h2
    go_enter Tryd.func6, Tryd.ntmps6
    go_wp2_with fail
    refine hbeg.mono ?_
    rintro e w1 ⟨rfl, hb⟩
    have HB := Lib.hid hb
    clear hbeg hb
    go_wp2_with fail
    go_ret
    exact ⟨rfl, HB.out⟩
  by_cases h3 : 200 < size
  · have d0 : decide (room < 0) = false := by simp; omega
    have d1 : decide (2000 < room) = false := by simp; omega
    have d2 : decide (size < 0) = false := by simp; omega
    have d3 : decide (200 < size) = true := by simpa using h3
    go_enter Tryd.func6, Tryd.ntmps6
    go_wp2_with fail
    refine hbeg.mono ?_
    rintro e w1 ⟨rfl, hb⟩
    have HB := Lib.hid hb
    clear hbeg hb
    go_wp2_with fail
    go_ret
    exact ⟨rfl, HB.out⟩
  have d0 : decide (room < 0) = false := by simp; omega
  have d1 : decide (2000 < room) = false := by simp; omega
  have d2 : decide (size < 0) = false := by simp; omega
  have d3 : decide (200 < size) = false := by simp; omega
  obtain ⟨R, rfl⟩ : ∃ m : Nat, room = (m : Int) := ⟨room.toNat, by omega⟩
  obtain ⟨Z, rfl⟩ : ∃ m : Nat, size = (m : Int) := ⟨size.toNat, by omega⟩
  have hR : R ≤ 2000 := by omega
  have hZ : Z ≤ 200 := by omega
  have e1 : decide (2000 < R) = false := by simp; omega
  have e3 : decide (200 < Z) = false := by simp; omega
  clear h0 h1 h2 h3
  go_enter Tryd.func6, Tryd.ntmps6
  go_wp2_with fail
  refine hbeg.mono ?_
  rintro e w1 ⟨rfl, hb⟩
  have HB1 := Lib.hid hb
  have hnew := new_n (R : Int) w1
  clear hbeg hb
  go_wp2_with fail
  refine hnew.mono ?_
  rintro e w2 ⟨p, rfl, hI2⟩
  have hcl : clampN (R : Int) = R := by unfold clampN; omega
  have hcr := create_held (d := digS 9) hI2 fmt9 (by decide) (by show (0 : Nat) ≤ _; decide) (by decide) (by decide) (new_create (R : Int) _ (by rw [nm9]; decide))
  rw [hcl] at hcr
  obtain ⟨nmB, hnmB⟩ : ∃ nmB, digS 9 ++ rawE = nmB := ⟨_, rfl⟩
  rw [hnmB] at hcr
  have HNZ : Hid (nmB.size ≤ maxLen) := Lib.hid (by rw [← hnmB]; exact raw_size (by decide))
  obtain ⟨nm, hnm⟩ : ∃ nm, nmB.data.toList = nm := ⟨_, rfl⟩
  rw [hnm] at hcr
  have HNM := Lib.hid hnm
  clear hnew hI2 hcl hnmB hnm
  go_wp2_with fail
  refine hcr.mono ?_
  rintro e w3 ⟨q, rfl, hI3⟩
  have HI3 := Lib.hid hI3
  clear hcr hI3 d0 d1 d2 d3 e1 e3
  go_wp2_with fail
  go_loopw [9] (fun v wr => ∃ i : Nat, i ≤ 200 ∧ v = .int .i64 i ∧ Hid ((encs (recsZ Z i)).length ≤ R) ∧ Hid (InS w1 p (st1 R nm (encs (recsZ Z i)) 0 (1 + i) [] [([], nm, some 0)]) q nmB (endL (recsZ Z i) (recsZ Z i).length) wr)) (fun v _ => 200 - (intOf v).toNat)
  case atStart => exact ⟨0, by omega, rfl, Lib.hid (by simp [recsZ, encs]), HI3⟩
  case round =>
    obtain ⟨i, hi, rfl, HBR, HIN⟩ := hrel
    by_cases hlt : i < 200
    · have hmk := run_makeB Z (by omega) wr
      have hcv := conv_zeros Z (by omega) wr
      obtain ⟨w4, hw4⟩ : ∃ w4, wr.alloc (.cells (u8s (List.replicate Z 0)).toArray 5) = w4 := ⟨_, rfl⟩
      rw [hw4] at hmk hcv
      have HI4 := Lib.hid (HIN.out.below (by rw [← hw4]; exact (Below.refl _ _).alloc (Nat.le_refl _) _ : Below wr.heap.size wr w4))
      have hch : chk (recZ Z i) = 0 := chk_recZ (by omega) (by omega)
      have htb := HT.out w4 (HB1.out.trans (HI4.out.bel.mono HB1.out.size))
      by_cases hfit : (encs (recsZ Z i)).length + (enc (recZ Z i)).length > R
      · have hap := append_full (recZ Z i) HI4.out htb hch HNZ.out (by show 1 + i ≤ _; omega) (chk_recsZ (by omega) (by omega)) (by rw [recsZ_length]; omega) (by rw [HNM.out, st1_app, if_pos hfit]) (by decide : (4 : Nat) ≠ 0)
        simp only [recZ] at hap
        clear hw4 htb hch hfit
        go_wp2_with fail
        refine hap.mono ?_
        rintro e w5 ⟨rfl, hI5⟩
        have HI5 := Lib.hid hI5
        clear hap hI5 hmk hcv
        go_wp2_with fail
        obtain ⟨c, hc, hcb⟩ : ∃ c, 1 + i + 1 = c ∧ c ≤ 1000 := ⟨_, rfl, by omega⟩
        rw [hc] at HI5
        obtain ⟨wr, hwr⟩ : ∃ wr, w5 = wr := ⟨_, rfl⟩
        subst hwr
        have HIN := HI5
        clear hc
        have HIL : Hid (InS w1 p (st1 R nm (encs (recsZ Z i)) 0 c [] [([], nm, some 0)]) q nmB (endL (recsZ Z i) (recsZ Z i).length) w5) := HIN
        have hln := len_held HIL.out
        rw [recsZ_length] at hln
        have hus := used_h HIL.out.toH
        rw [st1_used] at hus
        obtain ⟨U, hU⟩ : ∃ U, (encs (recsZ Z i)).length = U := ⟨_, rfl⟩
        rw [hU] at hus
        have hUR : U ≤ R := by rw [← hU]; exact HBR.out
        have hUR2 : decide ((R : Int) < (U : Int)) = false := by simp; omega
        have hUR3 : decide (R < U) = false := by simp; omega
        have HU := Lib.hid hU
        have q1 : ((i : Int) != (i : Int)) = false := bne_f rfl
        clear hU
        go_wp2_with fail
        refine hln.mono ?_
        rintro e w5 ⟨rfl, rfl⟩
        clear hln
        go_wp2_with fail
        refine hus.mono ?_
        rintro e w6 ⟨rfl, hb6⟩
        have HI6 := Lib.hid (HIL.out.below hb6)
        have hro := room_held 1048576 HI6.out
        have e1 : setRoom (st1 R nm (encs (recsZ Z i)) 0 c [] [([], nm, some 0)]) 1048576 = st1 1048576 nm (encs (recsZ Z i)) 0 c [] [([], nm, some 0)] := by unfold setRoom; rw [show clampN 1048576 = 1048576 by decide]; rfl
        rw [e1] at hro
        clear hus hb6 e1
        go_wp2_with fail
        refine hro.mono ?_
        rintro e w7 ⟨rfl, hI7⟩
        have hX := enc_len r500
        have hap := append_held r500 hI7 (HT.out w7 (HB1.out.trans (hI7.bel.mono HB1.out.size))) chk_500 HNZ.out (by show c ≤ _; omega) (chk_recsZ (by omega) (by omega)) (by rw [recsZ_length]; omega) (by rw [HNM.out, st1_app, if_neg (by rw [HU.out]; omega)])
        rw [recsZ_length] at hap
        simp only [r500] at hap
        clear hro hI7
        go_wp2_with fail
        refine hap.mono ?_
        rintro e w8 ⟨rfl, hI8⟩
        have HI8 : Hid (InS w1 p (st1 1048576 nm (encs (recsZ Z i) ++ enc r500) 0 (c + 1) [] [([], nm, some 0)]) q nmB (endL (recsZ Z i ++ [r500]) (recsZ Z i ++ [r500]).length) w8) := Lib.hid hI8
        have hgt := get_held i [] HI8.out (HT.out w8 (HB1.out.trans (HI8.out.bel.mono HB1.out.size))) (by rw [List.length_append, recsZ_length]; simp) HNZ.out (by intro r hr; rcases List.mem_append.1 hr with h | h; exact chk_recsZ (by omega) (by omega) r h; (simp at h; subst h; exact chk_500)) (by rw [HNM.out, st1_read, encs_snoc' chk_500, List.append_nil])
        have e2 : (recsZ Z i ++ [r500]).getD i zR = r500 := by
          have := recsZ_length Z i
          rw [List.getD_eq_getElem?_getD, List.getElem?_append_right (by omega), this]
          simp
        rw [e2] at hgt
        unfold GetPost errV at hgt
        simp only [r500] at hgt
        clear hap hI8 e2
        go_wp2_with fail
        refine hgt.mono ?_
        rintro e w9 ⟨rfl, hb9⟩
        have HI9 := Lib.hid (HI8.out.below hb9.out)
        obtain ⟨w10, hst, HR10, HG10⟩ := lay_rec r500 w9
        simp only [r500] at hst
        have HI10 := Lib.hid (HI9.out.below HG10.out)
        have hc1 : w10.cell? ⟨w9.heap.size, 1, none⟩ = some (.int .i64 500) := HR10.out.cell (o := 1) rfl
        clear hgt hb9
        go_wp2_with fail
        go_ret
        exact ⟨rfl, HB1.out.trans (HI10.out.bel.mono HB1.out.size)⟩
      · have hap := append_held (recZ Z i) HI4.out htb hch HNZ.out (by show 1 + i ≤ _; omega) (chk_recsZ (by omega) (by omega)) (by rw [recsZ_length]; omega) (by rw [HNM.out, st1_app, if_neg hfit])
        rw [← recsZ_succ, recsZ_length] at hap
        simp only [recZ] at hap
        have hen : encs (recsZ Z i) ++ enc (recZ Z i) = encs (recsZ Z (i + 1)) := by rw [recsZ_succ, encs_snoc' hch]
        have HFI : Hid ((encs (recsZ Z (i + 1))).length ≤ R) := Lib.hid (by rw [← hen, List.length_append]; omega)
        have HEN := Lib.hid hen
        clear hw4 htb hch hfit hen
        go_wp2_with fail
        refine hap.mono ?_
        rintro e w5 ⟨rfl, hI5⟩
        have HI5 : Hid (InS w1 p (st1 R nm (encs (recsZ Z (i + 1))) 0 (1 + (i + 1)) [] [([], nm, some 0)]) q nmB (endL (recsZ Z (i + 1)) (recsZ Z (i + 1)).length) w5) := Lib.hid (by
          have := hI5
          rw [← HEN.out]; exact this)
        clear hap hI5 hmk hcv
        go_wp2_with fail
        go_roundw
        case rel => exact ⟨i + 1, by omega, by go_num, HFI, HI5⟩
        case measure => simp [intOf]; omega
    · have hg1 : decide (i < 200) = false := by simp; omega
      have hg2 : decide ((i : Int) < 200) = false := by simp; omega
      have hib : i ≤ 1000 := by omega
      obtain ⟨c, hc, hcb⟩ : ∃ c, 1 + i = c ∧ c ≤ 1000 := ⟨_, rfl, by omega⟩
      rw [hc] at HIN
      clear hc hlt
      go_wp2_with fail
      have HIL : Hid (InS w1 p (st1 R nm (encs (recsZ Z i)) 0 c [] [([], nm, some 0)]) q nmB (endL (recsZ Z i) (recsZ Z i).length) wr) := HIN
      have hln := len_held HIL.out
      rw [recsZ_length] at hln
      have hus := used_h HIL.out.toH
      rw [st1_used] at hus
      obtain ⟨U, hU⟩ : ∃ U, (encs (recsZ Z i)).length = U := ⟨_, rfl⟩
      rw [hU] at hus
      have hUR : U ≤ R := by rw [← hU]; exact HBR.out
      have hUR2 : decide ((R : Int) < (U : Int)) = false := by simp; omega
      have hUR3 : decide (R < U) = false := by simp; omega
      have HU := Lib.hid hU
      have q1 : ((i : Int) != (i : Int)) = false := bne_f rfl
      clear hU
      go_wp2_with fail
      refine hln.mono ?_
      rintro e w5 ⟨rfl, rfl⟩
      clear hln
      go_wp2_with fail
      refine hus.mono ?_
      rintro e w6 ⟨rfl, hb6⟩
      have HI6 := Lib.hid (HIL.out.below hb6)
      have hro := room_held 1048576 HI6.out
      have e1 : setRoom (st1 R nm (encs (recsZ Z i)) 0 c [] [([], nm, some 0)]) 1048576 = st1 1048576 nm (encs (recsZ Z i)) 0 c [] [([], nm, some 0)] := by unfold setRoom; rw [show clampN 1048576 = 1048576 by decide]; rfl
      rw [e1] at hro
      clear hus hb6 e1
      go_wp2_with fail
      refine hro.mono ?_
      rintro e w7 ⟨rfl, hI7⟩
      have hX := enc_len r500
      have hap := append_held r500 hI7 (HT.out w7 (HB1.out.trans (hI7.bel.mono HB1.out.size))) chk_500 HNZ.out (by show c ≤ _; omega) (chk_recsZ (by omega) (by omega)) (by rw [recsZ_length]; omega) (by rw [HNM.out, st1_app, if_neg (by rw [HU.out]; omega)])
      rw [recsZ_length] at hap
      simp only [r500] at hap
      clear hro hI7
      go_wp2_with fail
      refine hap.mono ?_
      rintro e w8 ⟨rfl, hI8⟩
      have HI8 : Hid (InS w1 p (st1 1048576 nm (encs (recsZ Z i) ++ enc r500) 0 (c + 1) [] [([], nm, some 0)]) q nmB (endL (recsZ Z i ++ [r500]) (recsZ Z i ++ [r500]).length) w8) := Lib.hid hI8
      have hgt := get_held i [] HI8.out (HT.out w8 (HB1.out.trans (HI8.out.bel.mono HB1.out.size))) (by rw [List.length_append, recsZ_length]; simp) HNZ.out (by intro r hr; rcases List.mem_append.1 hr with h | h; exact chk_recsZ (by omega) (by omega) r h; (simp at h; subst h; exact chk_500)) (by rw [HNM.out, st1_read, encs_snoc' chk_500, List.append_nil])
      have e2 : (recsZ Z i ++ [r500]).getD i zR = r500 := by
        have := recsZ_length Z i
        rw [List.getD_eq_getElem?_getD, List.getElem?_append_right (by omega), this]
        simp
      rw [e2] at hgt
      unfold GetPost errV at hgt
      simp only [r500] at hgt
      clear hap hI8 e2
      go_wp2_with fail
      refine hgt.mono ?_
      rintro e w9 ⟨rfl, hb9⟩
      have HI9 := Lib.hid (HI8.out.below hb9.out)
      obtain ⟨w10, hst, HR10, HG10⟩ := lay_rec r500 w9
      simp only [r500] at hst
      have HI10 := Lib.hid (HI9.out.below HG10.out)
      have hc1 : w10.cell? ⟨w9.heap.size, 1, none⟩ = some (.int .i64 500) := HR10.out.cell (o := 1) rfl
      clear hgt hb9
      go_wp2_with fail
      go_ret
      exact ⟨rfl, HB1.out.trans (HI10.out.bel.mono HB1.out.size)⟩
end Go.Proofs.YtdjkkohckfndkaaDoor.S15

/- folioref1.Front: a contract. -/
import Derived.Test.YthfdclclecjdaaaMtfD
import Derived.Test.YthfdclclecjdaaaMtfQ
set_option linter.unusedSimpArgs false
set_option linter.unusedVariables false
namespace Go.Proofs.Ythfdclclecjdaaa
open Go.RowKit Pl

theorem Blk.append {w w' : World} {b : Nat} {t : TypeId} {c : List Value} {base n : Nat} {v : Value} {xs : List Value} (h : Blk w b t c) (ht : t ≠ 5) (ho : w.ownsRow base 5 1 v n xs) (o : Obj) (hg : (w.alloc o).grownBy w' v.ownBlock) : Blk w' b t c := by
  refine (h.alloc o).grown hg ?_
  intro e
  obtain ⟨hl, ⟨rfl, rfl⟩ | ⟨g, cap, cur, rfl, hb, hh, _⟩⟩ := ho
  · simp [Value.ownBlock] at e
  · simp [Value.ownBlock] at e
    subst e
    have hb2 : Blk w b 5 cur.toList := by unfold Blk; simpa using hh
    exact h.ne hb2 ht rfl
theorem own_setOther {w : World} {base n : Nat} {v : Value} {xs : List Value} {b : Nat} {t : TypeId} {c : List Value} (ho : w.ownsRow base 5 1 v n xs) (h : Blk w b t c) (ht : t ≠ 5) (k : Nat) (x : Value) : (w.setCell ⟨b, k, none⟩ x).ownsRow base 5 1 v n xs := by
  refine ownsRow_row ho (r := some b) ((Gr.refl w b).setCell k x) ?_
  intro k' t' cs e hb _
  simp at e
  subst e
  unfold Blk at h hb
  rw [h] at hb
  simp at hb
  rw [← hb.2]
  exact ht

theorem zero_arr (w : World) : (zeroValue 29).run Try.prog w = .ok (.agg zeroCells.toArray) w := by kernel_rfl
def allocArr (b : Bool) (v : Value) : Sem Value := Instr.alloc 29 b v
theorem allocArr_eq (b : Bool) (v : Value) : Instr.alloc 29 b v = allocArr b v := rfl
theorem run_allocArr (w : World) (v : Value) : (allocArr true v).run Try.prog w = .ok (.pointer (some ⟨w.heap.size, 0, none⟩)) (w.alloc (.cells zeroCells.toArray 29)) := by
  unfold allocArr Instr.alloc
  rw [Sem.run_bind, zero_arr]
  cases v <;> rfl

attribute [local go_sem ↓] allocArr_eq
attribute [local go_sem] run_allocArr
set_option maxHeartbeats 4000000 in
set_option maxRecDepth 100000 in
theorem front_any (v : Value) (B : List Nat) (w : World) (hv : IsBytes w v B) (hB : B.length ≤ 4294967296) :
    Calls Try.prog 10 #[v] w (MadePost (enc B) w) := by
  obtain ⟨a, cap, rfl, hcap, hmax⟩ := hv.slice
  unfold maxLen at hmax
  have HV := Lib.hid hv
  clear hv
  have HE := Lib.hid (enc_length B)
  go_enter Try.func10, Try.ntmps10
  go_wp2
  have HB0 : Hid (Below w.heap.size w (w.alloc (.cells zeroCells.toArray 29))) := Lib.hid ((Below.refl _ _).alloc (Nat.le_refl _) _)
  have HA0 := Lib.hid (Blk.new w 29 zeroCells)
  go_loopw [4] (fun x wr => ∃ i : Nat, i ≤ 256 ∧ x = .int .i64 i ∧ Blk wr w.heap.size 29 (u8s (ascAt i)) ∧ Below w.heap.size w wr) (fun x _ => 256 - (intOf x).toNat)
  case atStart => exact ⟨0, by omega, rfl, HA0.out, HB0.out⟩
  case round =>
    obtain ⟨i, hi, rfl, h1, hb⟩ := hrel
    have H1 := Lib.hid h1
    have HB := Lib.hid hb
    clear HB0 HA0 h1 hb
    by_cases hlt : i < 256
    · have c0 := H1.out.cell (u8s_get (ascAt i) i (by rw [ascAt_length i hi]; exact hlt))
      have f0 := H1.out.frozen i
      generalize (ascAt i).getD i 0 = y at *
      have hm : (i : Int) % 256 = i := by omega
      go_wp2
      go_roundw
      case rel => exact ⟨i + 1, by omega, by go_num, by
        have := H1.out.set i (.int .u8 i)
        rw [u8s_set, ascAt_set i hlt] at this
        exact this, HB.out.setCell (Nat.le_refl _) _⟩
      case measure => simp [intOf]; omega
    · have h256 : i = 256 := by omega
      have HL0 : Hid (Blk wr w.heap.size 29 (u8s (lat B 0))) := Lib.hid (by have := H1.out; rw [h256, ascAt_all] at this; exact this)
      have hnl : ¬ ((i : Int) < 256) := by omega
      obtain ⟨n4, hn4⟩ : ∃ n4, n4 = i := ⟨_, rfl⟩
      rw [← hn4] at hnl ⊢
      clear H1 hlt hi h256 hn4
      go_wp2_with fail
      clear hnl
      go_loopw [5, 6] (fun v5 x wr => ∃ i : Nat, i ≤ B.length ∧ x = .int .i64 i ∧ wr.ownsRow w.heap.size 5 1 v5 i (u8s ((enc B).take i)) ∧ Blk wr w.heap.size 29 (u8s (lat B i)) ∧ Below w.heap.size w wr) (fun _ x _ => B.length - (intOf x).toNat)
      case atStart => exact ⟨0, by omega, rfl, own_nil _ _, HL0.out, HB.out⟩
      case round =>
        obtain ⟨i, hi, rfl, ho, hL, hb⟩ := hrel
        obtain ⟨wo, hwo⟩ : ∃ wo, wo = wr := ⟨_, rfl⟩
        subst hwo
        obtain ⟨sp, cp, rfl, _, _⟩ := ownsRow_slice ho
        have HO := Lib.hid ho
        have HL := Lib.hid hL
        have HB2 := Lib.hid hb
        clear HL0 HB ho hL hb
        by_cases hlt : i < B.length
        · have hx := getD_lt HV.out.1 i
          have HS := Lib.hid (lat_succ hlt)
          have HGt := Lib.hid (enc_get hlt)
          have HP := Lib.hid (lat_perm HV.out.1 i)
          have HBx := Lib.hid (rfl : B.getD i 0 = B.getD i 0)
          obtain ⟨x, hxx⟩ : ∃ x, x = B.getD i 0 := ⟨_, rfl⟩
          have HX := Lib.hid hxx
          rw [← hxx] at HS HGt hx
          have hk := HP.out.idx_lt hx
          have HM := Lib.hid (getD_idxOf (HP.out.mem hx))
          have HAh := Lib.hid (fun k (h : k < (lat B i).idxOf x) => idx_ahead h (by rw [HP.out.len]; omega))
          generalize (lat B i).idxOf x = K at *
          clear hxx HBx
          go_wp2_with fail
          go_loopw [7] (fun y wk => ∃ k : Nat, k ≤ K ∧ y = .int .i64 k ∧ ∃ m, wk = wo.drewN m) (fun y _ => K - (intOf y).toNat)
          case atStart => exact ⟨0, by omega, rfl, 0, rfl⟩
          case round =>
            obtain ⟨k, hkk, rfl, m, rfl⟩ := hrel
            obtain ⟨bb, off, cap', hs, _, _, _, hc⟩ := (HV.out.below HB2.out).cells (by omega)
            simp at hs
            obtain ⟨rfl, rfl⟩ := hs
            have c0 := hc i hlt
            rw [← HX.out] at c0
            have c1 := HL.out.cell (u8s_get (lat B i) k (by rw [HP.out.len]; omega))
            clear hc
            by_cases hkt : k < K
            · have hne := HAh.out k hkt
              generalize (lat B i).getD k 0 = y at *
              have ht : ((y : Int) != (x : Int)) = true := bne_t (by omega)
              clear hne
              go_wp2_with fail
              go_quiet (fail)
              go_wp2_with fail
              go_roundw
              case rel => exact ⟨k + 1, by omega, by go_num, _, rfl⟩
              case measure => simp [intOf]; omega
            · obtain rfl : k = K := by omega
              rw [HM.out] at c1
              have ht : ((x : Int) != (x : Int)) = false := bne_f rfl
              go_wp2_with fail
              go_quiet (fail)
              obtain ⟨wq, hwq⟩ : ∃ wq, wq = (wo.drewN m).drewN nq := ⟨_, rfl⟩
              rw [← hwq]
              have hbq : Below wo.heap.size wo wq := hwq ▸ bel_drewN (bel_drewN (Below.refl _ _) _) _
              have HOq := Lib.hid (own_below HO.out hbq)
              have HLq := Lib.hid (HL.out.below hbq HL.out.lt)
              have HBq := Lib.hid (HB2.out.trans (hbq.mono HB2.out.size))
              have hszq := HBq.out.size
              have hm : (k : Int) % 256 = k := by omega
              clear hwq hbq HO HL HB2 c0 c1
              go_wp2_with (at_builtin; refine wpList_append_byte rfl (.tmp 32) (.tmp 35) rfl w.heap.size (.slice sp i cp) i (u8s ((enc B).take i)) _ rfl HOq.out rfl (by omega) hszq ?_; intro v' w1 hown hgr)
              have hlenA : ((enc B).take i).length = i := by rw [List.length_take, HE.out]; omega
              have hO1 : w1.ownsRow w.heap.size 5 1 v' (i + 1) (u8s ((enc B).take (i + 1))) := by
                rw [take_more (by rw [HE.out]; exact hlt), HGt.out, u8s_snoc]; exact hown
              have hL1 := HLq.out.append (by decide) HOq.out _ hgr
              have hB1 := bel_append HBq.out _ HOq.out hgr hszq
              obtain ⟨sp1, cp1, rfl, _, _⟩ := ownsRow_slice hO1
              have HO1 := Lib.hid hO1
              have HL1 := Lib.hid hL1
              have HB1 := Lib.hid hB1
              clear hown hgr hlenA hO1 hL1 hB1 HOq HLq HBq
              go_loopw [7] (fun y wk => ∃ j : Nat, j ≤ k ∧ y = .int .i64 j ∧ wk.ownsRow w.heap.size 5 1 (.slice sp1 (i + 1) cp1) (i + 1) (u8s ((enc B).take (i + 1))) ∧ Blk wk w.heap.size 29 (u8s (sh (lat B i) k j)) ∧ Below w.heap.size w wk) (fun y _ => (intOf y).toNat)
              case atStart => exact ⟨k, Nat.le_refl _, rfl, HO1.out, by rw [sh_start HP.out.len]; exact HL1.out, HB1.out⟩
              case round =>
                obtain ⟨j, hj, rfl, ho, hL, hb⟩ := hrel
                have HO := Lib.hid ho
                have HL := Lib.hid hL
                have HB := Lib.hid hb
                clear HO1 HL1 HB1 ho hL hb
                cases j with
                | zero =>
                  obtain ⟨b2, o2, cap2, hs2, _, _, _, hc2⟩ := (HV.out.below HB.out).cells (by omega)
                  simp at hs2
                  obtain ⟨⟨rfl, rfl⟩, rfl⟩ := hs2
                  have c2 := hc2 i hlt
                  rw [← HX.out] at c2
                  have c3 := HL.out.cell (u8s_get (sh (lat B i) k 0) 0 (by rw [sh_length]; omega))
                  have f3 := HL.out.frozen 0
                  generalize (sh (lat B i) k 0).getD 0 0 = y at *
                  have hL2 := HL.out.set 0 (.int .u8 x)
                  have hO2 := own_setOther HO.out HL.out (by decide) 0 (.int .u8 x)
                  rw [u8s_set, ← HM.out, sh_end HP.out.len k hk, ← HS.out, HM.out] at hL2
                  have HL2 := Lib.hid hL2
                  have HO2 := Lib.hid hO2
                  clear hL2 hO2 hc2
                  go_wp2_with fail
                  go_roundw
                  case rel => exact ⟨i + 1, by omega, by go_num, HO2.out, HL2.out, HB.out.setCell (Nat.le_refl _) _⟩
                  case measure => simp [intOf]; omega
                | succ j =>
                  have c2 := HL.out.cell (u8s_get (sh (lat B i) k (j + 1)) j (by rw [sh_length]; omega))
                  rw [sh_getD _ _ _ _ (by omega) (by omega)] at c2
                  have c3 := HL.out.cell (u8s_get (sh (lat B i) k (j + 1)) (j + 1) (by rw [sh_length]; omega))
                  have f3 := HL.out.frozen (j + 1)
                  generalize (sh (lat B i) k (j + 1)).getD (j + 1) 0 = y at *
                  have hL2 := HL.out.set (j + 1) (.int .u8 ((lat B i).getD j 0 : Nat))
                  have hO2 := own_setOther HO.out HL.out (by decide) (j + 1) (.int .u8 ((lat B i).getD j 0 : Nat))
                  rw [u8s_set, sh_step _ _ _ (by omega) hk] at hL2
                  have HL2 := Lib.hid hL2
                  have HO2 := Lib.hid hO2
                  clear hL2 hO2
                  generalize (lat B i).getD j 0 = z at *
                  go_wp2_with fail
                  go_roundw
                  case rel => exact ⟨j, by omega, by go_num, HO2.out, HL2.out, HB.out.setCell (Nat.le_refl _) _⟩
                  case measure => first | (simp [intOf]; done) | (simp [intOf]; omega)
        · obtain rfl : i = B.length := by omega
          go_wp2_with fail
          go_ret
          refine ⟨_, rfl, ?_, HB2.out⟩
          have h := HO.out
          have e : (enc B).take B.length = enc B := List.take_of_length_le (by rw [HE.out]; exact Nat.le_refl _)
          rw [e] at h
          rw [HE.out]
          exact h
end Go.Proofs.Ythfdclclecjdaaa

/- Rows of floats the call owns; ScoreBest, walked. -/
import Derived.Test.YtaeolkkbakdlbaaScE
set_option linter.unusedSimpArgs false
set_option linter.unusedVariables false
set_option maxRecDepth 100000
namespace Go.Proofs.Ytaeolkkbakdlbaa.S12
open Go.RowKit Pl
theorem infoF : (Try.prog.info? 24).map (fun i => (i.zero, i.size, i.bytes)) = some (some (.float .f64 0), 1, 8) := by kernel_rfl
theorem infoF_parts {o : Option TypeInfo} (h : o.map (fun i => (i.zero, i.size, i.bytes)) = some (some (Value.float .f64 0), 1, 8)) : ∃ i, o = some i ∧ i.zero = some (.float .f64 0) ∧ i.size = 1 ∧ i.bytes = 8 := by
  cases o with
  | none => cases h
  | some i => simp at h; exact ⟨i, rfl, h.1, h.2.1, h.2.2⟩
theorem ownsF_slice {w : World} {base : Nat} {e : TypeId} {v : Value} {n : Nat} {xs : List Value} (h : w.ownsRow base e 1 v n xs) : ∃ sp cap, v = .slice sp n cap ∧ n ≤ cap ∧ cap ≤ maxLen := by
  obtain ⟨hl, ⟨rfl, rfl⟩ | ⟨g, cap, cur, rfl, hb, hh, hn, hm, _⟩⟩ := h
  · exact ⟨none, 0, rfl, Nat.le_refl _, by unfold maxLen; omega⟩
  · exact ⟨_, cap, rfl, hn, hm⟩
theorem ownF_lt {w : World} {base n : Nat} {e : TypeId} {v : Value} {xs : List Value} (h : w.ownsRow base e 1 v n xs) : ∀ k, v.ownBlock = some k → base ≤ k := fun k hk => (h.lt k hk).1
theorem belF_append {w w1 w2 : World} {base n : Nat} {e : TypeId} {v : Value} {xs : List Value} (hb : Below base w w1) (o : Obj) (h : w1.ownsRow base e 1 v n xs) (hg : (w1.alloc o).grownBy w2 v.ownBlock) (hbase : base ≤ w1.heap.size) : Below base w w2 :=
  (hb.alloc hbase o).grown hg (by simp; omega) (ownF_lt h)
theorem isF_own {w : World} {base n : Nat} {v : Value} {e : TypeId} {L : List Nat} (hn : n = L.length) (h : w.ownsRow base e 1 v n (f64s L)) : IsF w v L := by
  subst hn
  have h' := h
  obtain ⟨hl, ⟨he, h0⟩ | ⟨g, cap', cur, hv, _, hh, hn, hm, hs, ht⟩⟩ := h
  · have hB : L = [] := List.eq_nil_of_length_eq_zero h0
    subst hB
    exact .inl ⟨he, rfl⟩
  · subst hv
    refine .inr ⟨⟨g, 0, none⟩, cap', rfl, hn, hm, fun i u hu => ?_⟩
    exact h'.cells (g := g) rfl i u hu
/-- append(own, x): one float, whose own block was made just ahead -/
theorem wpList_append_f {w : World} {ops : Array Oper} {rest : List Oper} {o : Oper} {a : Act} {Q : Exit → Act → World → Prop} (hgd : o.guard = none) (s x : Operand)
    (ho : o.op = .call { callee := .builtin .append, args := #[s, x], argTypes := #[33, 33] })
    (base : Nat) (v : Value) (n : Nat) (L : List Nat) (c : Nat) (hs : a.eval s = v) (hown : w.ownsRow base 24 1 v n (f64s L))
    (b : Nat) (hb : b = w.heap.size) (hx : a.eval x = .slice (some ⟨b, 0, none⟩) 1 1)
    (hbytes : n + 1 ≤ 17592186044416) (hbase : base ≤ w.heap.size)
    (h : ∀ v' w', w'.ownsRow base 24 1 v' (n + 1) (f64s (L ++ [c])) → (w.alloc (.cells #[.float .f64 c] 24 (0, 0))).grownBy w' v.ownBlock → wpList Try.prog ops Q rest (a.put o.dst v') w') : wpList Try.prog ops Q (o :: rest) a (w.alloc (.cells #[.float .f64 c] 24 (0, 0))) := by
  subst hb
  obtain ⟨i0, hi, hz0, hz1, hz2⟩ := infoF_parts infoF
  exact wpList_append_own _ hgd s x _ ho base 24 i0 (.float .f64 0) 1 8 Try.underlying33 hi hz0 hz1 hz2 rfl (by decide) v n _ hs (hown.alloc _) ⟨w.heap.size, 0, none⟩ 1 1 [.float .f64 c] hx rfl (cell_one_new _ _ _) (by intro u hu; simp at hu; subst hu; rfl) (by unfold maxLen; omega) (by omega) (by simp; omega) fun v' w' h2 h3 _ => h v' w' (by rw [f64s_snoc]; exact h2) h3
/-- the words that came in -/
def wordsZ (zs : List Int) (n : Nat) : List Nat := (zs.take n).map Int.toNat
theorem words_row {w : World} {a : Option Addr} {len cap : Nat} {zs : List Int} (h : IsRow .u64 w a len cap zs) : (wordsZ zs len).length = len ∧ (∀ x ∈ wordsZ zs len, x < 18446744073709551616) ∧
    (0 < len → ∃ b off, a = some ⟨b, off, none⟩ ∧ b < w.heap.size ∧ ∀ i, i < len → w.cell? ⟨b, off + i, none⟩ = some (.int .u64 ((wordsZ zs len).getD i 0 : Nat))) := by
  have hlen : (wordsZ zs len).length = len := by
    rcases h with ⟨rfl, rfl, rfl, rfl⟩ | ⟨x, rfl, h1, h2, h3, hc, hw⟩
    · rfl
    · simp [wordsZ]; omega
  have hwf : ∀ z ∈ zs, 0 ≤ z ∧ z < 18446744073709551616 := by
    rcases h with ⟨rfl, rfl, rfl, rfl⟩ | ⟨x, rfl, h1, h2, h3, hc, hw⟩
    · simp
    · intro z hz
      have := hw z hz
      simp [Lit.wf, IntKind.min, IntKind.max, IntKind.signed, IntKind.bits] at this
      omega
  refine ⟨hlen, ?_, fun h0 => ?_⟩
  · intro x hx
    simp only [wordsZ, List.mem_map] at hx
    obtain ⟨z, hz, rfl⟩ := hx
    have := hwf z (List.mem_of_mem_take hz)
    omega
  · obtain ⟨b, off, rfl, hb, hl, hm, hc, _⟩ := h.cells h0
    refine ⟨b, off, rfl, hb, fun i hi => ?_⟩
    rw [hc i hi]
    have hi2 : i < zs.length := by omega
    have e : (wordsZ zs len).getD i 0 = (zs.getD i 0).toNat := by
      simp only [wordsZ, List.getD_eq_getElem?_getD, List.getElem?_map, List.getElem?_take_of_lt hi, List.getElem?_eq_getElem hi2]
      rfl
    have hz := hwf (zs.getD i 0) (by rw [List.getD_eq_getElem?_getD, List.getElem?_eq_getElem hi2]; exact List.getElem_mem _)
    rw [e, Int.toNat_of_nonneg hz.1]
theorem take_snoc {L : List Nat} {i : Nat} (h : i < L.length) : L.take (i + 1) = L.take i ++ [L.getD i 0] := by
  rw [List.take_add_one, List.getElem?_eq_getElem h]
  simp [List.getD, h]
set_option maxHeartbeats 8000000 in
theorem scoreBest_walk (a : Option Addr) (len cap : Nat) (zs : List Int) (w : World) (hr : IsRow .u64 w a len cap zs) :
    Calls Try.prog 5 #[.slice a len cap] w fun e w' => e = .returned (.bool true) ∧ Below w.heap.size w w' := by
  obtain ⟨hlen, hlt, hcell⟩ := words_row hr
  have hmax := hr.len_le
  clear hr
  obtain ⟨L, hL⟩ : ∃ L, L = wordsZ zs len := ⟨_, rfl⟩
  rw [← hL] at hlen hlt hcell
  clear hL
  have HLT := Lib.hid hlt
  have HC := Lib.hid hcell
  have HLN := Lib.hid hlen
  clear hlt hcell hlen
  obtain ⟨M, hM, hM1, hM2, hM3⟩ : ∃ M, M ≤ len ∧ M ≤ 30 ∧ (∀ i : Nat, i < M → i < len ∧ i < 30) ∧ (∀ i : Nat, ¬ i < M → i ≤ M → (i = len ∨ i = 30 ∧ i < len)) := ⟨min len 30, by omega, by omega, by omega, by omega⟩
  have HM3 := Lib.hid hM3
  have HM2 := Lib.hid hM2
  clear hM2 hM3
  unfold maxLen at hmax
  go_enter Try.func5, Try.ntmps5
  go_wp2_with fail
  refine (begun_any _).mono ?_
  rintro e w1 ⟨rfl, hb⟩
  have HB1 := Lib.hid hb
  have HSZ := hb.size
  clear hb
  go_wp2_with fail
  go_loopw [4, 5] (fun v x wr => ∃ i : Nat, i ≤ M ∧ x = .int .i64 i ∧ wr.ownsRow w1.heap.size 24 1 v i (f64s (L.take i)) ∧ Below w1.heap.size w1 wr) (fun _ x _ => M - (intOf x).toNat)
  case atStart => exact ⟨0, by omega, rfl, World.ownsRow_nil _ _ _ _, Below.refl _ _⟩
  case round =>
    obtain ⟨i, hi, rfl, ho, hb⟩ := hrel
    obtain ⟨sp, cp, rfl, hcp1, hcp2⟩ := ownsF_slice ho
    have HO := Lib.hid ho
    have HB := Lib.hid hb
    have hsz := hb.size
    clear ho hb
    by_cases hlt : i < M
    · obtain ⟨h1, h2⟩ := HM2.out i hlt
      obtain ⟨bb, off, rfl, hbb, hc⟩ := HC.out (by omega)
      have c0 := hc i h1
      rw [← HB1.out.cell (p := ⟨bb, off + i, none⟩) hbb, ← HB.out.cell (p := ⟨bb, off + i, none⟩) (by show bb < _; omega)] at c0
      have HSN : Hid (L.take (i + 1) = L.take i ++ [L.getD i 0]) := Lib.hid (take_snoc (by rw [HLN.out]; omega))
      generalize L.getD i 0 = f at *
      clear hc
      go_wp2_with (at_builtin; refine wpList_append_f rfl (.tmp 20) (.tmp 26) rfl w1.heap.size _ i _ f rfl HO.out _ rfl rfl (by omega) hsz ?_; intro v6 w6 hown hgr; rw [← HSN.out] at hown; have HO6 := Lib.hid hown; have HB6 := Lib.hid (belF_append HB.out _ HO.out hgr hsz); clear hown hgr)
      go_roundw
      case rel => exact ⟨i + 1, by omega, by go_num, HO6.out, HB6.out⟩
      case measure => simp [intOf]; omega
    · have hend := HM3.out i hlt hi
      obtain rfl : i = M := by omega
      obtain ⟨F, hF⟩ : ∃ F, F = L.take i := ⟨_, rfl⟩
      have hFl : F.length = i := by rw [hF, List.length_take, HLN.out]; omega
      have hFx : ∀ x ∈ F, x < 18446744073709551616 := fun x hx => HLT.out x (List.mem_of_mem_take (by rw [← hF]; exact hx))
      have hI : IsF wr (.slice sp i cp) F := isF_own hFl.symm (by rw [hF]; exact HO.out)
      have HI := Lib.hid hI
      have HFX := Lib.hid hFx
      have HFL := Lib.hid hFl
      have HBW : Hid (Below w.heap.size w wr) := Lib.hid (HB1.out.trans (HB.out.mono HSZ))
      clear hI hFx hFl hF HO HB HB1 HLT HC HLN HM2 HM3
      obtain ⟨wo, hwo⟩ : ∃ wo, wo = wr := ⟨_, rfl⟩
      subst hwo
      have hb1 := fun W n x hx => Calls.quiet_of_same (n := n) (bits_any x (World.drewN W n) hx)
      have hb2 := fun W n x hx => Calls.quiet_of_same (n := n) (refBits_any x (World.drewN W n) hx)
      have HQ1 := Lib.hid hb1
      have HQ2 := Lib.hid hb2
      clear hb1 hb2
      rcases hend with rfl | ⟨rfl, hl30⟩
      all_goals
        clear hi hlt
        go_wp2_with fail
        go_loopw [6] (fun x wk => ∃ j m : Nat, j ≤ F.length ∧ x = .int .i64 j ∧ wk = wo.drewN m) (fun x _ => F.length - (intOf x).toNat)
        case atStart => exact ⟨0, 0, by omega, rfl, rfl⟩
        case round =>
          obtain ⟨j, m, hj, rfl, hwk⟩ := hrel
          have HIk : Hid (IsF wr (.slice sp _ cp) F) := Lib.hid (by rw [hwk]; exact HI.out)
          have HWK := Lib.hid hwk
          clear hwk
          by_cases hlt2 : j < F.length
          · obtain ⟨bb, off, cap', hs, _, _, _, hc⟩ := HIk.out.cells (by omega)
            have c0 := hc j hlt2
            have hxj := getD_lt HFX.out j
            rw [HFL.out] at hs hlt2
            simp at hs
            obtain ⟨rfl, rfl⟩ := hs
            generalize F.getD j 0 = f at *
            clear hc hj
            have hne : (((fB f : Nat) : Int) != ((fB f : Nat) : Int)) = false := by simp
            go_wp2_with fail
            go_quiet (first | (go_at_call 10; exact HQ1.out _ _ _ hxj) | (go_at_call 12; exact HQ2.out _ _ _ hxj))
            go_wp2_with fail
            go_roundw
            case rel => exact ⟨j + 1, m + nq, by rw [HFL.out]; omega, by go_num, by rw [HWK.out, World.drewN_drewN]⟩
            case measure => rw [HFL.out]; simp [intOf]; omega
          · obtain rfl : j = F.length := by omega
            have hjn := HFL.out
            rw [hjn] at *
            clear hlt2 hj hjn
            have hI2 : ∀ n, IsF (wr.drewN n) (.slice sp _ cp) F := fun n => HIk.out
            have HI2 := Lib.hid hI2
            clear hI2
            go_wp2_with fail
            refine (best_any _ F _ HIk.out HFX.out (by rw [HFL.out]; omega)).mono ?_
            rintro e w8 ⟨rfl, rfl⟩
            go_wp2_with fail
            refine (refBest_any _ F _ HIk.out HFX.out (by rw [HFL.out]; omega)).mono ?_
            rintro e w8 ⟨m8, rfl, rfl⟩
            go_wp2_with fail
            go_ret
            refine ⟨by simp, ?_⟩
            have := HBW.out
            rw [HWK.out]
            exact bel_drewN (bel_drewN this m) m8
end Go.Proofs.Ytaeolkkbakdlbaa.S12

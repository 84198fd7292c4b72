/- folioref1.Suffixes: the walk. -/
import Derived.Test.YtklpmpniempmcaaSufB
import Derived.Deep.RegionHeld3
set_option linter.unusedSimpArgs false
set_option linter.unusedVariables false
namespace Go.Proofs.Ytklpmpniempmcaa
open Go.RowKit Pl
/-- l[k:], nil or not -/
theorem run_fromAny {w : World} {a : Option Addr} {len cap : Nat} {L : List Int} (hv : IsInts w (.slice a len cap) L) (hl : L.length = len) (hnil : len = 0 → a = none ∧ cap = 0) (k : Nat) (hk : k ≤ len) :
    ∃ xv, (∀ W, (sliceI (.slice a len cap) (some (.int .i64 k)) none none).run Try.prog W = .ok xv W) ∧ ((xv = .slice none 0 0 ∧ L.drop k = []) ∨ ∃ ad c, xv = .slice (some ad) (L.drop k).length c ∧ ∀ j u, (i64s (L.drop k))[j]? = some u → w.cell? (ad.add j) = some u) := by
  by_cases h0 : 0 < len
  · obtain ⟨a1, h1, h2⟩ := run_fromI hv hl h0 k hk
    exact ⟨_, h1, .inr ⟨a1, cap - k, by rw [List.length_drop, hl], h2⟩⟩
  · obtain ⟨rfl, rfl⟩ := hnil (by omega)
    obtain rfl : len = 0 := by omega
    obtain rfl : k = 0 := by omega
    obtain rfl : L = [] := List.eq_nil_of_length_eq_zero hl
    refine ⟨.slice none 0 0, fun W => ?_, .inl ⟨rfl, rfl⟩⟩
    unfold sliceI
    rw [run_sliceAt_slice _ _ _ _ _ _ und_i64s, run_slice_l _ _ _ _ _ und_i64s _ _ (by omega) (by omega), run_size_i]
    rfl
/-- append(own, l...), nil or not, step by step -/
theorem wp_append_any {w : World} {o : Oper} {a : Act} {K : Act → World → Prop} {Q : Exit → Act → World → Prop} (s x : Operand)
    (ho : o.op = .call { callee := .builtin .append, args := #[s, x], argTypes := #[25, 25] })
    (base : Nat) (v : Value) (n : Nat) (L M : List Int) (hs : a.eval s = v) (hown : w.ownsRow base 3 1 v n (i64s L)) (xv : Value) (hx : a.eval x = xv)
    (hsrc : (xv = .slice none 0 0 ∧ M = []) ∨ ∃ ad c, xv = .slice (some ad) M.length c ∧ ∀ j u, (i64s M)[j]? = some u → w.cell? (ad.add j) = some u)
    (hb : n + M.length ≤ 17592186044416) (hbase : base ≤ w.heap.size)
    (h : ∀ v' w', w'.ownsRow base 3 1 v' (n + M.length) (i64s (L ++ M)) → w.grownBy w' v.ownBlock → K (a.put o.dst v') w') : o.wp Try.prog a w K Q := by
  obtain ⟨i0, hi, hz0, hz1, hz2⟩ := infoI_parts infoI
  rcases hsrc with ⟨rfl, rfl⟩ | ⟨ad, c, rfl, hc⟩
  · have hrun := run_append_owned_none (P := Try.prog) (w := w) base 25 o.type 3 i0 1 Try.underlying25 hi v n _ hown
    unfold Oper.wp execOp
    simp only [ho, resolve, invoke, builtin, Sem.run_bind, Sem.run_pure, Result.andThen_ok, List.map_toArray, List.map_cons, List.map_nil, hs, hx, hrun]
    exact h v w (by simpa using hown) (grownBy_refl _ _)
  · refine wp_append_own (w := w) s x 25 ho base 3 i0 (.int .i64 0) 1 8 Try.underlying25 hi hz0 hz1 hz2 rfl (by decide) v n _ hs hown ad M.length c (i64s M) hx (by rw [i64s_length, Nat.mul_one]) hc (i64s_one M) (by unfold maxLen; omega) (by omega) hbase ?_
    exact fun v' w' h2 h3 _ => h v' w' (by rw [i64s_append]; exact h2) h3
/-- the integers M, as the value xv tells them, nil or not -/
def SrcAt (w : World) (xv : Value) (M : List Int) : Prop := (xv = .slice none 0 0 ∧ M = []) ∨ ∃ ad c, xv = .slice (some ad) M.length c ∧ ∀ j u, (i64s M)[j]? = some u → w.cell? (ad.add j) = some u
theorem SrcAt.below {w w' : World} {xv : Value} {M : List Int} (h : SrcAt w xv M) (hb : From w w') : SrcAt w' xv M := by
  obtain h | ⟨ad, c, h1, h2⟩ := h
  · exact .inl h
  · refine .inr ⟨ad, c, h1, fun j u hu => ?_⟩
    have := h2 j u hu
    rw [Below.cell hb (World.block_lt_of_cell? w _ this)]
    exact this
attribute [local go_sem ↓] sliceI_eq
set_option maxHeartbeats 8000000 in
theorem suffixes_ref (v : Value) (B : List Nat) (w : World) (hv : IsBytes w v B) (hB : B.length ≤ 1000000) :
    Calls Try.prog 12 #[v] w (SufPost B w) := by
  obtain ⟨a, cap, rfl, hcap, hmax⟩ := hv.slice
  have HV := Lib.hid hv
  clear hv
  obtain ⟨N, hN⟩ : ∃ N, N = B.length := ⟨_, rfl⟩
  rw [← hN] at hB hcap HV ⊢
  have HN := Lib.hid hN
  clear hN
  go_enter Try.func12, Try.ntmps12
  go_wp2_with fail
  go_loopw [3, 4] (fun x y wr => ∃ (j n : Nat) (L : List Nat) (sp : Option Addr) (cp : Nat), j ≤ N ∧ y = .int .i64 ((j : Int) - 1) ∧ x = .slice sp n cp ∧ n = L.length ∧ n + j = N ∧ n ≤ cp ∧ cp ≤ maxLen ∧ (n = 0 → sp = none ∧ cp = 0) ∧ wr.ownsRow w.heap.size 3 1 (.slice sp n cp) n (i64s (nI L)) ∧ Rises B L ∧ (∀ q, q ∈ L ↔ j ≤ q ∧ q < N) ∧ Below w.heap.size w wr) (fun _ y _ => (intOf y + 1).toNat)
  case atStart => exact ⟨N, 0, [], none, 0, by omega, rfl, rfl, rfl, by omega, by omega, by unfold maxLen; omega, fun _ => ⟨rfl, rfl⟩, own_nilI _ _, by simp [Rises], fun q => ⟨fun h => by simp at h, fun h => by omega⟩, Below.refl _ _⟩
  case round =>
    obtain ⟨j, n, L, sp, cp, hj, rfl, rfl, hn, hnN, hncp, hcpm, hnil, ho, hr, hmem, hb⟩ := hrel
    have HNL := Lib.hid hn
    have HNN := Lib.hid hnN
    replace hnN : n ≤ N := by omega
    have HNI := Lib.hid hnil
    have HO := Lib.hid ho
    have HR := Lib.hid hr
    have HMEM := Lib.hid hmem
    have HB := Lib.hid hb
    have hsz : w.heap.size ≤ wr.heap.size := hb.size
    clear hn hnil ho hr hmem hb
    by_cases hj0 : j = 0
    · subst hj0
      go_wp2_with fail
      go_ret
      refine ⟨L, sp, cp, by rw [← HNL.out]; rfl, ⟨HR.out, fun q => by rw [HMEM.out q, ← HN.out]; omega⟩, by rw [← HNL.out]; exact HO.out, HB.out⟩
    · obtain ⟨i, rfl⟩ : ∃ i, j = i + 1 := ⟨j - 1, by omega⟩
      have hji : ((i + 1 : Nat) : Int) - 1 = (i : Int) := by omega
      rw [hji]
      clear hji
      obtain ⟨wo, hwo⟩ : ∃ wo : World, wo = wr := ⟨_, rfl⟩
      subst hwo
      go_wp2_with fail
      go_loopw [5, 6] (fun x y wi => ∃ (lo hi m : Nat), lo ≤ hi ∧ hi ≤ n ∧ x = .int .i64 lo ∧ y = .int .i64 hi ∧ (∀ q ∈ L.take lo, sufB B q i = true) ∧ (∀ q ∈ L.drop hi, sufB B i q = true) ∧ wi = wo.drewN m) (fun x y _ => (intOf y).toNat - (intOf x).toNat)
      case atStart => exact ⟨0, n, 0, by omega, by omega, rfl, rfl, by simp, by rw [HNL.out]; simp, rfl⟩
      case round =>
        obtain ⟨lo, hi, m, hlh, hhn, rfl, rfl, hta, hdr, rfl⟩ := hrel
        have HTA := Lib.hid hta
        have HDR := Lib.hid hdr
        clear hta hdr
        by_cases hlt : lo < hi
        · have hltI : (lo : Int) < (hi : Int) := by omega
          obtain ⟨mid, hmid⟩ : ∃ mid, mid = (lo + hi) / 2 := ⟨_, rfl⟩
          have hq1 : ((lo : Int) + (hi : Int)).tdiv 2 = (mid : Int) := by rw [Int.tdiv_eq_ediv_of_nonneg (by omega)]; omega
          have hq2 : ((lo : Int) + (hi : Int)) / 2 = (mid : Int) := by omega
          have hm1 : lo ≤ mid := by omega
          have hm2 : mid < hi := by omega
          have hmL : mid < L.length := by rw [← HNL.out]; omega
          have hI := isInts_own (L := nI L) (by rw [nI_length]; exact HNL.out) HO.out
          obtain ⟨bb, off, kk, hs, _, _, hbb, hcc⟩ := hI.cells (by rw [nI_length]; omega)
          rw [nI_length, ← HNL.out] at hs
          simp at hs
          obtain ⟨rfl, rfl⟩ := hs
          have c0 := hcc mid (by rw [nI_length]; exact hmL)
          rw [nI_get] at c0
          have hLm : L.getD mid 0 ∈ L := by rw [List.getD_eq_getElem?_getD, List.getElem?_eq_getElem hmL]; exact List.getElem_mem hmL
          have hmb := (HMEM.out _).1 hLm
          have hbef := before_any (.slice a N cap) B (L.getD mid 0) i (wo.drewN m) (HV.out.below (bel_drewN HB.out m)) (by rw [← HN.out]; omega) (by rw [← HN.out]; omega) (by rw [← HN.out]; omega)
          have hne : L.getD mid 0 ≠ i := by omega
          have htot := suf_total (B := B) (i := L.getD mid 0) (j := i) (by rw [← HN.out]; omega) (by rw [← HN.out]; omega) hne
          have hup := @search_up B L i lo hi mid HR.out hmL
          have hdn := @search_down B L i lo hi mid HR.out hmL
          have HUP := Lib.hid hup
          have HDN := Lib.hid hdn
          have HTOT := Lib.hid htot
          generalize L.getD mid 0 = x at *
          have HMID := Lib.hid hmid
          have hmidn : (mid : Int) < (n : Int) := by omega
          clear hcc hI hLm hne htot hup hdn hmid
          cases hbv : sufB B x i with
          | true =>
            rw [hbv] at hbef
            have HBV := Lib.hid hbv
            clear hbv
            go_wp2_with fail
            refine hbef.mono ?_
            rintro e w2 ⟨rfl, q, rfl⟩
            clear hbef
            go_wp2_with fail
            refine ⟨⟨mid + 1, hi, m + q, by omega, hhn, by first | rfl | go_num, rfl, HUP.out HBV.out, HDR.out, by first | rfl | simp⟩, ?_⟩
            simp only [intOf_i]; omega
          | false =>
            rw [hbv] at hbef
            have HBV := Lib.hid hbv
            clear hbv
            go_wp2_with fail
            refine hbef.mono ?_
            rintro e w2 ⟨rfl, q, rfl⟩
            clear hbef
            go_wp2_with fail
            refine ⟨⟨lo, mid, m + q, by omega, by omega, rfl, by first | rfl | go_num, HTA.out, HDN.out (by rcases HTOT.out with h | h; exact absurd h (by rw [HBV.out]; decide); exact h), by first | rfl | simp⟩, ?_⟩
            simp only [intOf_i]; omega
        · obtain rfl : lo = hi := by omega
          have hI := isInts_own (L := nI L) (by rw [nI_length]; exact HNL.out) HO.out
          obtain ⟨a1, hs1, hz1, hc1⟩ := run_fullI hI (by rw [nI_length]; exact HNL.out.symm) lo (by omega)
          obtain ⟨xv, hs2, hsrc⟩ := run_fromAny hI (by rw [nI_length]; exact HNL.out.symm) HNI.out lo (by omega)
          go_wp2_with fail
          refine wp_region_noPanic ?_
          obtain ⟨w5, hw5⟩ : ∃ w5 : World, w5 = wo.drewN m := ⟨_, rfl⟩
          have HB5 : Hid (Below w.heap.size w w5) := Lib.hid (by rw [hw5]; exact bel_drewN HB.out m)
          have HS5 : Hid (SrcAt w5 xv (List.drop lo (nI L))) := Lib.hid (by rw [hw5]; exact hsrc)
          have HC5 : Hid (∀ b, a1 = some b → ∀ j u, (i64s (List.take lo (nI L)))[j]? = some u → w5.cell? (b.add j) = some u) := Lib.hid (by rw [hw5]; exact hc1)
          have HZ1 := Lib.hid hz1
          rw [← hw5]
          clear hw5 hsrc hc1 hz1 hI
          have hHeld : From w5 w5.drew := (Below.refl _ _).drew
          refine wpAnyH_start (n := 12) (l := #[false, false, false, false, false, false, false, false, false, false, false, false]) (S := From w5) (by kernel_rfl) (hHeld) (by kernel_rfl) (by kernel_rfl) ?_
          refine wpAnyH_take (i := 0) (oi := _) (v := ?_) rfl (by kernel_rfl) (by kernel_rfl) (by kernel_rfl) (fun _ _ _ h => h) (Or.inl ⟨by rfl, ?_⟩) (by assumption) ?_
          rotate_left
          · intro wq hSw; go_simp; try with_reducible rfl
          simp only [Act.put, List.setIfInBounds_toArray, List.set_cons_zero, List.set_cons_succ, List.getElem_toArray, List.getElem_cons_zero, List.getElem_cons_succ]
          refine wpAnyH_take (i := 1) (oi := _) (v := ?_) rfl (by kernel_rfl) (by kernel_rfl) (by kernel_rfl) (fun _ _ _ h => h) (Or.inl ⟨by rfl, ?_⟩) (by assumption) ?_
          rotate_left
          · intro wq hSw; go_simp; try with_reducible rfl
          simp only [Act.put, List.setIfInBounds_toArray, List.set_cons_zero, List.set_cons_succ, List.getElem_toArray, List.getElem_cons_zero, List.getElem_cons_succ]
          refine wpAnyH_take (i := 2) (oi := _) (v := ?_) rfl (by kernel_rfl) (by kernel_rfl) (by kernel_rfl) (fun _ _ _ h => h) (Or.inl ⟨by rfl, ?_⟩) (by assumption) ?_
          rotate_left
          · intro wq hSw; go_simp; try with_reducible rfl
          simp only [Act.put, List.setIfInBounds_toArray, List.set_cons_zero, List.set_cons_succ, List.getElem_toArray, List.getElem_cons_zero, List.getElem_cons_succ]
          refine wpAnyH_take (i := 3) (oi := _) (v := ?_) rfl (by kernel_rfl) (by kernel_rfl) (by kernel_rfl) (fun _ _ _ h => h) (Or.inl ⟨by rfl, ?_⟩) (by assumption) ?_
          rotate_left
          · intro wq hSw; go_simp; try with_reducible rfl
          simp only [Act.put, List.setIfInBounds_toArray, List.set_cons_zero, List.set_cons_succ, List.getElem_toArray, List.getElem_cons_zero, List.getElem_cons_succ]
          refine wpAnyH_take (i := 4) (oi := _) (v := ?_) rfl (by kernel_rfl) (by kernel_rfl) (by kernel_rfl) (fun _ _ _ h => h) (Or.inl ⟨by rfl, ?_⟩) (by assumption) ?_
          rotate_left
          · intro wq hSw; go_simp; try with_reducible rfl
          simp only [Act.put, List.setIfInBounds_toArray, List.set_cons_zero, List.set_cons_succ, List.getElem_toArray, List.getElem_cons_zero, List.getElem_cons_succ]
          refine wpAnyH_take (i := 6) (oi := _) (v := ?_) rfl (by kernel_rfl) (by kernel_rfl) (by kernel_rfl) (fun _ _ _ h => h) (Or.inl ⟨by rfl, ?_⟩) (by assumption) ?_
          rotate_left
          · intro wq hSw; go_simp; try with_reducible rfl
          simp only [Act.put, List.setIfInBounds_toArray, List.set_cons_zero, List.set_cons_succ, List.getElem_toArray, List.getElem_cons_zero, List.getElem_cons_succ]
          refine wpAnyH_take (i := 7) (oi := _) (v := ?_) rfl (by kernel_rfl) (by kernel_rfl) (by kernel_rfl) (fun _ _ _ h => h) (Or.inl ⟨by rfl, ?_⟩) (by assumption) ?_
          rotate_left
          · intro wq hSw; go_simp; try with_reducible rfl
          simp only [Act.put, List.setIfInBounds_toArray, List.set_cons_zero, List.set_cons_succ, List.getElem_toArray, List.getElem_cons_zero, List.getElem_cons_succ]
          refine wpAnyH_take (i := 8) (oi := _) (v := ?_) rfl (by kernel_rfl) (by kernel_rfl) (by kernel_rfl) (fun _ _ _ h => h) (Or.inl ⟨by rfl, ?_⟩) (by assumption) ?_
          rotate_left
          · intro wq hSw; go_simp; try with_reducible rfl
          simp only [Act.put, List.setIfInBounds_toArray, List.set_cons_zero, List.set_cons_succ, List.getElem_toArray, List.getElem_cons_zero, List.getElem_cons_succ]
          refine wpAnyH_ready (rs := [5]) (by kernel_rfl) (by simp) ?_
          refine AllReadyH.cons (o := _) rfl (fun K hK => ?_) AllReadyH.nil
          simp only [List.getElem_toArray, List.getElem_cons_zero, List.getElem_cons_succ]
          go_simp
          have K6 : Hid (From w5 (w5.alloc (.cells #[.int .i64 (i : Int)] 3)).drew) := Lib.hid ((Below.refl w5.heap.size w5).alloc (Nat.le_refl _) _).drew
          have O6 : Hid ((w5.alloc (.cells #[.int .i64 (i : Int)] 3)).drew.ownsRow w5.heap.size 3 1 (.slice (some ⟨w5.heap.size, 0, none⟩) 1 1) 1 (i64s [(i : Int)])) := Lib.hid (own_new w5 (i64s [(i : Int)]) 3 (Nat.le_refl _) (by simp [i64s, maxLen]))
          generalize (w5.alloc (.cells #[.int .i64 (i : Int)] 3)).drew = w6 at *
          refine hK.out _ _ K6.out (fun _ => ?_)
          clear hK K hHeld
          have hHeld := K6.out
          simp only [Act.put, List.setIfInBounds_toArray, List.set_cons_zero, List.set_cons_succ, List.getElem_toArray, List.getElem_cons_zero, List.getElem_cons_succ]
          refine wpAnyH_ready (rs := [9]) (by kernel_rfl) (by simp) ?_
          refine AllReadyH.cons (o := _) rfl (fun K hK => ?_) AllReadyH.nil
          simp only [List.getElem_toArray, List.getElem_cons_zero, List.getElem_cons_succ]
          refine wp_append_any (.tmp 39) (.tmp 42) rfl w5.heap.size _ 1 [(i : Int)] (List.drop lo (nI L)) rfl O6.out xv rfl (HS5.out.below K6.out) (by rw [List.length_drop, nI_length, ← HNL.out]; omega) K6.out.size ?_
          intro v7 w7 hown hgr
          have K7 := Lib.hid (K6.out.grown hgr K6.out.size (own_lt O6.out))
          have hM : 1 + (List.drop lo (nI L)).length = 1 + (n - lo) := by rw [List.length_drop, nI_length, ← HNL.out]
          rw [hM] at hown
          obtain ⟨g7, c7, rfl, _, _, _, _⟩ := own_open hown (by omega)
          have O7 := Lib.hid hown
          clear hown hgr hM
          refine hK.out _ _ K7.out (fun _ => ?_)
          clear hK K hHeld
          have hHeld := K7.out
          simp only [Act.put, List.setIfInBounds_toArray, List.set_cons_zero, List.set_cons_succ, List.getElem_toArray, List.getElem_cons_zero, List.getElem_cons_succ]
          refine wpAnyH_ready (rs := [10]) (by kernel_rfl) (by simp) ?_
          refine AllReadyH.cons (o := _) rfl (fun K hK => ?_) AllReadyH.nil
          simp only [List.getElem_toArray, List.getElem_cons_zero, List.getElem_cons_succ]
          refine wp_append_full (.tmp 37) (.tmp 43) rfl a1 lo (List.take lo (nI L)) (by rw [List.length_take, nI_length, ← HNL.out]; omega) rfl HZ1.out (fun b hb j u hu => by have := HC5.out b hb j u hu; rw [Below.cell K7.out (World.block_lt_of_cell? w5 _ this)]; exact this) ⟨g7, 0, none⟩ (1 + (n - lo)) c7 ([(i : Int)] ++ List.drop lo (nI L)) (by rw [List.length_append, List.length_drop, nI_length, ← HNL.out]; rfl) rfl (fun j u hu => O7.out.cells rfl j u hu) (by omega) (by omega) ?_
          intro v8 w8 hown hgr
          have K8 := Lib.hid (K7.out.grown hgr K7.out.size (by simp))
          have hM : lo + (1 + (n - lo)) = n + 1 := by omega
          rw [hM] at hown
          have O8 := Lib.hid (own_base hown (Nat.le_trans HB5.out.size K7.out.size))
          obtain ⟨g8, c8, rfl, _, _, hc8, hm8⟩ := own_open hown (by omega)
          clear hown hgr hM
          refine hK.out _ _ K8.out (fun _ => ?_)
          clear hK K hHeld
          have hHeld := K8.out
          simp only [Act.put, List.setIfInBounds_toArray, List.set_cons_zero, List.set_cons_succ, List.getElem_toArray, List.getElem_cons_zero, List.getElem_cons_succ]
          refine wpAnyH_take (i := 11) (oi := _) (v := ?_) rfl (by kernel_rfl) (by kernel_rfl) (by kernel_rfl) (fun _ _ _ h => h) (Or.inl ⟨by rfl, ?_⟩) (by assumption) ?_
          rotate_left
          · intro wq hSw; go_simp; try with_reducible rfl
          simp only [Act.put, List.setIfInBounds_toArray, List.set_cons_zero, List.set_cons_succ, List.getElem_toArray, List.getElem_cons_zero, List.getElem_cons_succ]
          refine wpAnyH_done (by kernel_rfl) ?_ _
          refine NoPanic.normal ?_
          have HBX := Lib.hid (HB5.out.trans (K8.out.mono HB5.out.size))
          have hIns : Rises B (L.take lo ++ i :: L.drop lo) := rises_insert HR.out HTA.out HDR.out
          have hlI : (L.take lo ++ i :: L.drop lo).length = n + 1 := by rw [List.length_append, List.length_cons, List.length_take, List.length_drop, ← HNL.out]; omega
          have hnI : nI (L.take lo ++ i :: L.drop lo) = List.take lo (nI L) ++ ([(i : Int)] ++ List.drop lo (nI L)) := by rw [nI_append, nI_cons, nI_take, nI_drop]; rfl
          have hmI : ∀ q, q ∈ L.take lo ++ i :: L.drop lo ↔ i ≤ q ∧ q < N := fun q => by
            have h1 : q ∈ L ↔ q ∈ L.take lo ∨ q ∈ L.drop lo := by rw [← List.mem_append, List.take_append_drop]
            rw [List.mem_append, List.mem_cons]
            have h2 := HMEM.out q
            constructor
            · rintro (h | h | h)
              · have := h2.1 (h1.2 (.inl h)); omega
              · omega
              · have := h2.1 (h1.2 (.inr h)); omega
            · intro h
              by_cases e : q = i
              · exact .inr (.inl e)
              · rcases h1.1 (h2.2 ⟨by omega, h.2⟩) with h | h
                · exact .inl h
                · exact .inr (.inr h)
          have HI1 := Lib.hid hIns; have HI2 := Lib.hid hlI; have HI3 := Lib.hid hnI; have HI4 := Lib.hid hmI
          clear hIns hlI hnI hmI hHeld
          go_wp2_with fail
          refine ⟨⟨i, n + 1, L.take lo ++ i :: L.drop lo, _, _, by omega, by first | rfl | go_num, rfl, HI2.out.symm, by have := HNN.out; omega, hc8, hm8, fun h => by omega, by rw [HI3.out]; exact O8.out, HI1.out, HI4.out, HBX.out⟩, ?_⟩
          simp only [intOf_i]; omega
end Go.Proofs.Ytklpmpniempmcaa

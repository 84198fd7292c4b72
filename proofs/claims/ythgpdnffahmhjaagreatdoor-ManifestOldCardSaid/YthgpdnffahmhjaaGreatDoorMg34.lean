/- Texts put together: MaS. -/
import Derived.Test.YthgpdnffahmhjaaGreatDoorMg33
import Derived.StillTailTactics
set_option linter.unusedSimpArgs false
set_option linter.unusedVariables false
set_option maxRecDepth 100000
namespace Go.Proofs.YthgpdnffahmhjaaGreatDoor.S19
open Go.RowKit Go.Maps Go.Shelf Go.Sort S18
def MapR {α : Type} (key : α → Int) (k : Nat) (R : α → List Value → Prop) (w : World) (b : Nat) (L : List α) : Prop := ∃ M : List (α × List Value), M.map (·.1) = L ∧ (∀ x ∈ M, R x.1 x.2) ∧ MCel k M ∧ MapC key w b M
theorem MapR.lt {α : Type} {key : α → Int} {k : Nat} {R : α → List Value → Prop} {w : World} {b : Nat} {L : List α} (h : MapR key k R w b L) : b < w.heap.size := by
  obtain ⟨M, _, _, _, h⟩ := h; exact h.lt
theorem MapR.keep {α : Type} {key : α → Int} {k : Nat} {R R' : α → List Value → Prop} {w w' : World} {b : Nat} {L : List α} (h : MapR key k R w b L) (hk : w'.heap[b]? = w.heap[b]?) (hR : ∀ x c, R x c → R' x c) : MapR key k R' w' b L := by
  obtain ⟨M, h1, h2, h3, h4⟩ := h
  exact ⟨M, h1, fun x hx => hR _ _ (h2 x hx), h3, h4.heap hk⟩
theorem MapR.ks {α : Type} {key : α → Int} {k : Nat} {R : α → List Value → Prop} {w : World} {b : Nat} {L : List α} (h : MapR key k R w b L) : KS key L := by
  obtain ⟨M, rfl, _, _, h4⟩ := h
  have := h4.ks
  unfold KS keyM at this
  unfold KS
  rw [List.pairwise_map]
  exact this
theorem MapR.nil {α : Type} (key : α → Int) (k : Nat) (R : α → List Value → Prop) (w : World) : MapR key k R (w.alloc (.map #[] 0)) w.heap.size [] := ⟨[], rfl, by simp, by intro x hx; simp at hx, MapC.made key w⟩
theorem segL_cel (x : SG) : Cels 6 (segL x) := ⟨rfl, segL_one x⟩
theorem parL_cel (x : PT) (a1 : Option Addr) (c1 : Nat) (a2 : Option Addr) (c2 : Nat) : Cels 5 (parL x a1 c1 a2 c2) := ⟨rfl, parL_one x a1 c1 a2 c2⟩
def ParD (D : Nat → Prop) (base : Nat) (w : World) (b : Nat) : Prop := D b ∨ TyD parTs base w b
theorem keep_par {D : Nat → Prop} {base s : Nat} {w w' : World} (hg : w.grownBy w' (some s)) (hD : ∀ b, D b → b ≠ s) (hs : ∀ t c, ¬ Blk w s t c) : Keep (ParD D base w) (ParD D base w') w w' := by
  intro b hb hl
  have hne : b ≠ s := by
    rintro rfl
    rcases hb with hb | ⟨_, t, c, _, hk⟩
    · exact hD _ hb rfl
    · exact hs t c hk
  have hne' : some b ≠ some s := by simpa using hne
  refine ⟨?_, hg.block b hl hne'⟩
  rcases hb with hb | ⟨h1, t, c, ht, hk⟩
  · exact .inl hb
  · exact .inr ⟨h1, t, c, ht, hk.grown hg hne'⟩
theorem map_blk {α : Type} {key : α → Int} {w : World} {b : Nat} {M : List (α × List Value)} (h : MapC key w b M) : ∀ t c, ¬ Blk w b t c := fun t c hk => h.not_blk hk rfl
def AddPost {α : Type} (key : α → Int) (k : Nat) (R : World → α → List Value → Prop) (lim : Int) (L0 L : List α) (s : Nat) (w : World) (e : Ending) (w' : World) : Prop :=
  w.grownBy w' (some s) ∧ ((∃ L1, addK key lim L0 L = some L1 ∧ e = .returned (.bool true) ∧ MapR key k (R w') w' s L1) ∨ (addK key lim L0 L = none ∧ e = .returned (.bool false)))
attribute [local go_sem ↓] loadS_eq storeS_eq
set_option maxHeartbeats 8000000 in
theorem addSegs_any {D De : Nat → Prop} (g s : Nat) (M : MS) (pv : Option Nat) (a : Option Addr) (cap : Nat) (L0 L : List SG) (w : World) (hk : Blk w g 58 (stL M (some s) pv)) (h : MapR SG.num 6 segC w s L0) (hv : IsSegs De w (.slice a L.length cap) L)
    (hL : ∀ x ∈ L, 0 ≤ SG.num x ∧ SG.num x ≤ 1125899906842624) (hl : L0.length + L.length ≤ 1000000) (hDe : ∀ b, De b → b ≠ s) (hD : ∀ b, D b → b ≠ s) :
    Calls Tryz.prog 48 #[.pointer (some ⟨g, 0, none⟩), .slice a L.length cap] w (AddPost SG.num 6 (fun _ => segC) M.next L0 L s w) := by
  obtain ⟨n, hn⟩ : ∃ n, L.length = n := ⟨_, rfl⟩
  have HN := Lib.hid hn
  have HV := Lib.hid hv
  have HL := Lib.hid hL
  have HDe := Lib.hid hDe
  have HD := Lib.hid hD
  have hlt := h.lt
  obtain ⟨M0, rfl, hR0, hM0, hm0⟩ := h
  have hgs : g ≠ s := hm0.not_blk hk
  have HGS := Lib.hid hgs
  have HK := Lib.hid hk
  rw [List.length_map] at hl
  rw [hn] at hl ⊢
  obtain ⟨_, hcap, hmax⟩ := RowD.cap hv
  rw [hn] at hcap
  obtain ⟨lim, hlim⟩ : ∃ lim, M.next = lim := ⟨_, rfl⟩
  rw [hlim]
  have HLIM := Lib.hid hlim
  have HR0 := Lib.hid hR0
  have HM0 := Lib.hid hM0
  have HMC := Lib.hid hm0
  clear hv hL hDe hD hR0 hM0 hm0 hgs hk hlim
  go_enter Tryz.func48, Tryz.ntmps48
  go_wp2_with fail
  go_loopw [9] (fun y wr => ∃ (i : Nat) (M1 : List (SG × List Value)), i ≤ n ∧ y = .int .i64 i ∧ M1.length ≤ M0.length + i ∧ Hid (MapC SG.num wr s M1) ∧ Hid (MCel 6 M1) ∧ Hid (∀ x ∈ M1, segC x.1 x.2) ∧ Hid (addK SG.num lim (M0.map (·.1)) L = addK SG.num lim (M1.map (·.1)) (L.drop i)) ∧ Hid (w.grownBy wr (some s))) (fun y _ => n - (intOf y).toNat)
  case atStart => exact ⟨0, M0, by omega, rfl, by omega, HMC, HM0, Lib.hid (HR0.out), Lib.hid rfl, Lib.hid (grownBy_refl _ _)⟩
  case round =>
    obtain ⟨i, M1, hi, rfl, hml, hm, hmc, hmr, hr, hg⟩ := hrel
    have hkw := HK.out.grown hg.out (by simpa using HGS.out)
    by_cases hlt : i < n
    · have hvw : IsSegs De wr (.slice a L.length cap) L := RowD.keep HV.out (keep_gr hg.out fun b hb _ => ⟨hb, by simpa using HDe.out b hb⟩) fun _ _ h => h
      obtain ⟨bb, off, x, c, rfl, _, hbb, hx, hrc, hu⟩ := RowD.at hvw (i := i) (by rw [HN.out]; exact hlt)
      obtain ⟨rfl, hsw⟩ := hrc
      have hld := run_loadS (w := wr) rfl hu
      have hxL := HL.out x (List.mem_of_getElem? hx)
      have hr2 := hr.out
      have hdc : L.drop i = x :: L.drop (i + 1) := by
        rw [List.drop_eq_getElem_cons (by rw [HN.out]; exact hlt)]
        congr 1
        rw [List.getElem?_eq_getElem (by rw [HN.out]; exact hlt)] at hx
        exact Option.some.inj hx
      rw [hdc] at hr2
      have HR2 := Lib.hid hr2
      have hN := Blk.new wr 40 [.int .i64 0, .bool false, .int .i64 0, .int .i64 0, .int .i64 0, .int .u32 0]
      have hA : wr.grownBy (wr.alloc (.cells #[.int .i64 0, .bool false, .int .i64 0, .int .i64 0, .int .i64 0, .int .u32 0] 40)) none := World.grownBy_alloc _ _ _
      obtain ⟨w5, hst, HK5, HS5⟩ := putS x hN rfl
      simp only [segL] at hst hld
      have hg5 : wr.grownBy w5 none := hA.andThen HS5.out (fun j hj => .inl (by cases hj; exact Nat.le_refl _))
      have hm5 := hm.out.heap (hg5.block s hm.out.lt (by simp))
      have hk5 := hkw.grown hg5 (by simp)
      obtain ⟨gs, hgs⟩ : ∃ gs, wr.heap.size = gs := ⟨_, rfl⟩
      rw [hgs] at HK5 hst
      have HWS := Lib.hid hgs
      have c0 : w5.cell? ⟨gs, 0, none⟩ = some (.int .i64 (SG.num x)) := HK5.out.cell rfl
      have d0 : w5.cell? ⟨g, 0, none⟩ = some (.int .i64 lim) := by rw [← HLIM.out]; exact hk5.cell rfl
      have d2 : w5.cell? ⟨g, 2, none⟩ = some (.map (some s)) := hk5.cell rfl
      have hld5 := run_loadS_blk x HK5.out
      have HG5 : Hid (w.grownBy w5 (some s)) := Lib.hid (hg.out.andThen hg5 (fun j hj => by cases hj))
      have HM5 := Lib.hid hm5
      have HMR5 := hmr
      have HKG5 := Lib.hid hk5
      clear hx hdc hr2 hN hA hg5 hm5 hk5 hkw hvw hu
      obtain ⟨k, hkk⟩ : ∃ k, SG.num x = k := ⟨_, rfl⟩
      have HKK := Lib.hid hkk
      by_cases hge : lim ≤ k
      · have HE : Hid (addK SG.num lim (M0.map (·.1)) L = none) := Lib.hid (by rw [HR2.out]; simp only [addK]; rw [if_pos (.inl (by rw [HKK.out]; exact hge))])
        have q1 : decide (lim ≤ k) = true := decide_eq_true hge
        rw [hkk] at c0
        clear hld5 hkk
        go_wp2_with fail
        go_quiet (fail)
        go_wp2_with fail
        go_ret
        refine ⟨HG5.out.andThen (gr_below (bel_drewN (Below.refl _ _) _)) (fun j hj => by cases hj), .inr ⟨HE.out, rfl⟩⟩
      · have q1 : decide (lim ≤ k) = false := decide_eq_false hge
        have q2 : ¬ lim ≤ k := hge
        have hld6 := run_loadS_blk (w := w5.drew) x HK5.out
        rw [hkk] at hld6
        
        obtain ⟨ok, hok⟩ : ∃ ok, (kget (keyM SG.num) M1 (SG.num x)).isSome = ok := ⟨_, rfl⟩
        have HOK : Hid ((kget SG.num (M1.map (·.1)) (SG.num x)).isSome = ok) := Lib.hid (by rw [← hok, ← kget_map SG.num (fun y : SG × List Value => y.1), Option.isSome_map])
        have hadd := addS (key := SG.num) s M1 x (segL x) w5.drew (HM5.out.heap rfl) hxL (segL_cel x) hmc.out (by omega)
        have hee : Value.agg (segL x).toArray = .agg #[.int .i64 k, .bool x.sealed, .int .i64 x.group, .int .i64 x.member, .int .i64 x.size, .int .u32 x.sum] := by simp only [segL, HKK.out]
        rw [hee, hkk] at hadd
        have HEt : Hid (ok = true → addK SG.num lim (M0.map (·.1)) L = none) := Lib.hid fun h => by rw [HR2.out]; simp only [addK]; rw [if_pos (.inr (HOK.out.trans h))]
        have HEf : Hid (∀ c, ok = false → addK SG.num lim (M0.map (·.1)) L = addK SG.num lim ((kput (keyM SG.num) M1 (x, c)).map (·.1)) (L.drop (i + 1))) := Lib.hid fun c h => by
          rw [HR2.out, kput_map SG.num (fun y : SG × List Value => y.1)]
          simp only [addK]
          rw [if_neg (by rw [HOK.out, h, hkk]; simp; omega)]
        rw [hkk] at c0 hok
        clear hkk hld5
        go_wp2_with fail
        go_still_tail 15, (by kernel_rfl)
        change wpList _ _ _ _ _ w5.drew
        rw [hok] at hadd
        go_wp2_with fail
        refine hadd.mono ?_
        rintro e w8 ⟨rfl, hm8, hg8⟩
        have HM8 := Lib.hid hm8
        have HG8 : Hid (w.grownBy w8 (some s)) := Lib.hid ((HG5.out.andThen (gr_below (Below.refl _ _).drew) (fun j hj => by cases hj)).andThen hg8 (fun j hj => .inr hj))
        have HMR8 : Hid (∀ y ∈ kput (keyM SG.num) M1 (x, segL x), segC y.1 y.2) := Lib.hid fun y hy => by
          rcases kput_mem _ hy with rfl | hy
          · exact ⟨rfl, hsw⟩
          · exact hmr.out y hy
        have HC8 : Hid (MCel 6 (kput (keyM SG.num) M1 (x, segL x))) := Lib.hid fun y hy => by
          rcases kput_mem _ hy with rfl | hy
          · exact segL_cel x
          · exact hmc.out y hy
        have HL8 : (kput (keyM SG.num) M1 (x, segL x)).length ≤ M0.length + (i + 1) := Nat.le_trans (kput_length _ _ _) (by omega)
        clear hm8 hg8
        cases ok with
        | true =>
          have HE := Lib.hid (HEt.out rfl)
          simp only [Bool.not_true]
          go_wp2_with fail
          go_ret
          exact ⟨HG8.out, .inr ⟨HE.out, rfl⟩⟩
        | false =>
          have HE := Lib.hid (HEf.out (segL x) rfl)
          simp only [Bool.not_false]
          go_wp2_with fail
          go_roundw
          case rel => exact ⟨i + 1, _, by omega, by first | rfl | go_num, HL8, HM8, HC8, HMR8, HE, HG8⟩
          case measure => simp only [intOf_i]; omega
    · have : n = i := by omega
      subst this
      obtain ⟨N1, hN1⟩ : ∃ N1, M1.length = N1 := ⟨_, rfl⟩
      have HN1 := Lib.hid hN1
      have d2 : wr.cell? ⟨g, 2, none⟩ = some (.map (some s)) := hkw.cell rfl
      have hln := lenS hm.out
      rw [hN1] at hln
      have HD0 : Hid (addK SG.num lim (M0.map (·.1)) L = if N1 ≤ 60 then some (M1.map (·.1)) else none) := Lib.hid (by
        rw [hr.out, List.drop_of_length_le (by rw [HN.out]; exact Nat.le_refl _)]
        simp only [addK, List.length_map, HN1.out])
      clear hkw hN1
      by_cases h60 : N1 ≤ 60
      · have q1 : decide (N1 ≤ 60) = true := decide_eq_true h60
        have q2 : decide ((N1 : Int) ≤ 60) = true := decide_eq_true (by omega)
        have HE := Lib.hid (HD0.out.trans (if_pos h60))
        go_wp2_with fail
        go_ret
        exact ⟨hg.out, .inl ⟨_, HE.out, rfl, M1, rfl, hmr.out, hmc.out, hm.out⟩⟩
      · have q1 : decide (N1 ≤ 60) = false := decide_eq_false h60
        have q2 : decide ((N1 : Int) ≤ 60) = false := decide_eq_false (by omega)
        have HE := Lib.hid (HD0.out.trans (if_neg h60))
        go_wp2_with fail
        go_ret
        exact ⟨hg.out, .inr ⟨HE.out, rfl⟩⟩
attribute [local go_sem ↓] loadP_eq storeP_eq
set_option maxHeartbeats 8000000 in
theorem addPars_any {D De : Nat → Prop} (g s : Nat) (M : MS) (sv : Option Nat) (a : Option Addr) (cap : Nat) (L0 L : List PT) (w : World) (hk : Blk w g 58 (stL M sv (some s))) (h : MapR PT.group 5 (parC D w) w s L0) (hv : IsPars De w (.slice a L.length cap) L)
    (hL : ∀ x ∈ L, 0 ≤ PT.group x ∧ PT.group x ≤ 1125899906842624 ∧ x.nums.length ≤ 1000000 ∧ x.sizes.length ≤ 1000000) (hl : L0.length + L.length ≤ 1000000) (hDe : ∀ b, De b → b ≠ s) (hD : ∀ b, D b → b ≠ s) :
    Calls Tryz.prog 49 #[.pointer (some ⟨g, 0, none⟩), .slice a L.length cap] w (AddPost PT.group 5 (fun W => parC (ParD D w.heap.size W) W) M.next L0 L s w) := by
  obtain ⟨n, hn⟩ : ∃ n, L.length = n := ⟨_, rfl⟩
  have HN := Lib.hid hn
  have HV := Lib.hid hv
  have HL := Lib.hid hL
  have HDe := Lib.hid hDe
  have HD := Lib.hid hD
  have hlt := h.lt
  obtain ⟨M0, rfl, hR0, hM0, hm0⟩ := h
  have hgs : g ≠ s := hm0.not_blk hk
  have HGS := Lib.hid hgs
  have HK := Lib.hid hk
  rw [List.length_map] at hl
  rw [hn] at hl ⊢
  obtain ⟨_, hcap, hmax⟩ := RowD.cap hv
  rw [hn] at hcap
  obtain ⟨lim, hlim⟩ : ∃ lim, M.next = lim := ⟨_, rfl⟩
  rw [hlim]
  have HLIM := Lib.hid hlim
  have HR0 := Lib.hid hR0
  have HM0 := Lib.hid hM0
  have HMC := Lib.hid hm0
  clear hv hL hDe hD hR0 hM0 hm0 hgs hk hlim
  go_enter Tryz.func49, Tryz.ntmps49
  go_wp2_with fail
  go_loopw [9] (fun y wr => ∃ (i : Nat) (M1 : List (PT × List Value)), i ≤ n ∧ y = .int .i64 i ∧ M1.length ≤ M0.length + i ∧ Hid (MapC PT.group wr s M1) ∧ Hid (MCel 5 M1) ∧ Hid (∀ x ∈ M1, (parC (ParD D w.heap.size wr) wr) x.1 x.2) ∧ Hid (addK PT.group lim (M0.map (·.1)) L = addK PT.group lim (M1.map (·.1)) (L.drop i)) ∧ Hid (w.grownBy wr (some s))) (fun y _ => n - (intOf y).toNat)
  case atStart => exact ⟨0, M0, by omega, rfl, by omega, HMC, HM0, Lib.hid (fun x hx => (HR0.out x hx).keep fun b hb _ => ⟨.inl hb, rfl⟩), Lib.hid rfl, Lib.hid (grownBy_refl _ _)⟩
  case round =>
    obtain ⟨i, M1, hi, rfl, hml, hm, hmc, hmr, hr, hg⟩ := hrel
    have hkw := HK.out.grown hg.out (by simpa using HGS.out)
    by_cases hlt : i < n
    · have hvw : IsPars De wr (.slice a L.length cap) L := RowD.keep HV.out (keep_gr hg.out fun b hb _ => ⟨hb, by simpa using HDe.out b hb⟩) fun _ _ h => h.keep (keep_gr hg.out fun b hb _ => ⟨hb, by simpa using HDe.out b hb⟩)
      obtain ⟨bb, off, x, c, rfl, _, hbb, hx, hrc, hu⟩ := RowD.at hvw (i := i) (by rw [HN.out]; exact hlt)
      obtain ⟨a1, c1, a2, c2, rfl, hn1, hn2, hsw⟩ := hrc
      have hld := run_loadP (w := wr) rfl hu
      have hxL := HL.out x (List.mem_of_getElem? hx)
      have hr2 := hr.out
      have hdc : L.drop i = x :: L.drop (i + 1) := by
        rw [List.drop_eq_getElem_cons (by rw [HN.out]; exact hlt)]
        congr 1
        rw [List.getElem?_eq_getElem (by rw [HN.out]; exact hlt)] at hx
        exact Option.some.inj hx
      rw [hdc] at hr2
      have HR2 := Lib.hid hr2
      have hN := Blk.new wr 95 [.int .i64 0, .slice none 0 0, .slice none 0 0, .int .i64 0, .int .u32 0]
      have hA : wr.grownBy (wr.alloc (.cells #[.int .i64 0, .slice none 0 0, .slice none 0 0, .int .i64 0, .int .u32 0] 95)) none := World.grownBy_alloc _ _ _
      obtain ⟨w5, hst, HK5, HS5⟩ := putP x (a1 := a1) (c1 := c1) (a2 := a2) (c2 := c2) hN rfl
      simp only [parL] at hst hld
      have hg5 : wr.grownBy w5 none := hA.andThen HS5.out (fun j hj => .inl (by cases hj; exact Nat.le_refl _))
      have hm5 := hm.out.heap (hg5.block s hm.out.lt (by simp))
      have hk5 := hkw.grown hg5 (by simp)
      obtain ⟨gs, hgs⟩ : ∃ gs, wr.heap.size = gs := ⟨_, rfl⟩
      rw [hgs] at HK5 hst
      have HWS := Lib.hid hgs
      have c0 : w5.cell? ⟨gs, 0, none⟩ = some (.int .i64 (PT.group x)) := HK5.out.cell rfl
      have d0 : w5.cell? ⟨g, 0, none⟩ = some (.int .i64 lim) := by rw [← HLIM.out]; exact hk5.cell rfl
      have d2 : w5.cell? ⟨g, 3, none⟩ = some (.map (some s)) := hk5.cell rfl
      have hld5 := run_loadP_blk x HK5.out
      have HG5 : Hid (w.grownBy w5 (some s)) := Lib.hid (hg.out.andThen hg5 (fun j hj => by cases hj))
      have HM5 := Lib.hid hm5
      have HKW : Hid (Keep De De wr w5) := Lib.hid (keep_gr hg5 fun b hb _ => ⟨hb, by simp⟩)
      have HMR5 : Hid (∀ x ∈ M1, parC (ParD D w.heap.size w5) w5 x.1 x.2) := Lib.hid fun x hx => (hmr.out x hx).keep (keep_par (s := s) (hg5.but _) HD.out (map_blk hm.out))
      have HKG5 := Lib.hid hk5
      clear hx hdc hr2 hN hA hg5 hm5 hk5 hkw hvw hu
      obtain ⟨k, hkk⟩ : ∃ k, PT.group x = k := ⟨_, rfl⟩
      have HKK := Lib.hid hkk
      by_cases hge : lim ≤ k
      · have HE : Hid (addK PT.group lim (M0.map (·.1)) L = none) := Lib.hid (by rw [HR2.out]; simp only [addK]; rw [if_pos (.inl (by rw [HKK.out]; exact hge))])
        have q1 : decide (lim ≤ k) = true := decide_eq_true hge
        rw [hkk] at c0
        clear hld5 hkk
        go_wp2_with fail
        go_quiet (fail)
        go_wp2_with fail
        go_ret
        refine ⟨HG5.out.andThen (gr_below (bel_drewN (Below.refl _ _) _)) (fun j hj => by cases hj), .inr ⟨HE.out, rfl⟩⟩
      · have q1 : decide (lim ≤ k) = false := decide_eq_false hge
        have q2 : ¬ lim ≤ k := hge
        have hld6 := run_loadP_blk (w := w5.drew) x HK5.out
        rw [hkk] at hld6
        have hcp := copied_any (D := De) x a1 c1 a2 c2 w5.drew ⟨a1, c1, a2, c2, rfl, IsNums.keep' hn1 (HKW.out), IsNums.keep' hn2 (HKW.out), hsw⟩ hxL.2.2
        obtain ⟨ok, hok⟩ : ∃ ok, (kget (keyM PT.group) M1 (PT.group x)).isSome = ok := ⟨_, rfl⟩
        have HOK : Hid ((kget PT.group (M1.map (·.1)) (PT.group x)).isSome = ok) := Lib.hid (by rw [← hok, ← kget_map PT.group (fun y : PT × List Value => y.1), Option.isSome_map])
        have HADD : Hid (∀ W b1 d1 b2 d2, Below w5.heap.size w5 W → Calls Tryz.prog 81 #[.map (some s), .int .i64 (PT.group x), .agg (parL x b1 d1 b2 d2).toArray] W fun e w' => e = .returned (.bool (!(kget (keyM PT.group) M1 (PT.group x)).isSome)) ∧ MapC PT.group w' s (kput (keyM PT.group) M1 (x, parL x b1 d1 b2 d2)) ∧ W.grownBy w' (some s)) := Lib.hid fun W b1 d1 b2 d2 hW => addP (key := PT.group) s M1 x (parL x b1 d1 b2 d2) W (HM5.out.below hW) ⟨hxL.1, hxL.2.1⟩ (parL_cel x b1 d1 b2 d2) hmc.out (by omega)
        rw [hkk] at hcp HADD
        have HEt : Hid (ok = true → addK PT.group lim (M0.map (·.1)) L = none) := Lib.hid fun h => by rw [HR2.out]; simp only [addK]; rw [if_pos (.inr (HOK.out.trans h))]
        have HEf : Hid (∀ c, ok = false → addK PT.group lim (M0.map (·.1)) L = addK PT.group lim ((kput (keyM PT.group) M1 (x, c)).map (·.1)) (L.drop (i + 1))) := Lib.hid fun c h => by
          rw [HR2.out, kput_map PT.group (fun y : PT × List Value => y.1)]
          simp only [addK]
          rw [if_neg (by rw [HOK.out, h, hkk]; simp; omega)]
        rw [hkk] at c0 hok
        clear hkk hld5
        have HCQ : Hid (∀ W, w5.grownBy W (some s) → W.cell? ⟨gs, 0, none⟩ = some (.int .i64 k) ∧ W.cell? ⟨g, 0, none⟩ = some (.int .i64 lim) ∧ W.cell? ⟨g, 3, none⟩ = some (.map (some s)) ∧ (loadP (.pointer (some ⟨gs, 0, none⟩))).run Tryz.prog W = .ok (.agg #[.int .i64 k, .slice a1 x.nums.length c1, .slice a2 x.sizes.length c2, .int .i64 x.size, .int .u32 x.sum]) W) := Lib.hid fun W hW => by
          have e1 : W.heap[gs]? = w5.heap[gs]? := hW.block gs HK5.out.lt (by simpa using HM5.out.not_blk HK5.out)
          have e2 : W.heap[g]? = w5.heap[g]? := hW.block g HKG5.out.lt (by simpa using HGS.out)
          refine ⟨(cell_heap e1).trans c0, (cell_heap e2).trans d0, (cell_heap e2).trans d2, ?_⟩
          have := run_loadP_blk (w := W) x (e1.trans HK5.out)
          rwa [HKK.out] at this
        have hHeld : w5.grownBy w5.drew (some s) := (gr_below (Below.refl _ _).drew).but _
        clear hld6 c0 d0 d2
        go_wp2_with fail
        refine wp_region_noPanic ?_
        refine wpAnyH_start (n := 19) (l := #[false, false, false, false, false, false, false, false, false, false, false, false, false, false, false, false, false, false, false]) (S := fun W => w5.grownBy W (some s)) (by kernel_rfl) (hHeld) (by kernel_rfl) (by kernel_rfl) ?_
        refine wpAnyH_take (i := 0) (oi := _) (v := ?_) rfl (by kernel_rfl) (by kernel_rfl) (by kernel_rfl) (fun _ _ _ h => h) (Or.inl ⟨by rfl, ?_⟩) (by assumption) ?_
        rotate_left
        · intro wq hSw; go_simp; try with_reducible rfl
        simp only [Act.put, List.setIfInBounds_toArray, List.set_cons_zero, List.set_cons_succ, List.getElem_toArray, List.getElem_cons_zero, List.getElem_cons_succ]
        refine wpAnyH_take (i := 1) (oi := _) (v := ?_) rfl (by kernel_rfl) (by kernel_rfl) (by kernel_rfl) (fun _ _ _ h => h) (Or.inl ⟨by rfl, ?_⟩) (by assumption) ?_
        rotate_left
        · intro wq hSw; have cq := (HCQ.out wq hSw).1; go_simp; try with_reducible rfl
        simp only [Act.put, List.setIfInBounds_toArray, List.set_cons_zero, List.set_cons_succ, List.getElem_toArray, List.getElem_cons_zero, List.getElem_cons_succ]
        refine wpAnyH_take (i := 2) (oi := _) (v := ?_) rfl (by kernel_rfl) (by kernel_rfl) (by kernel_rfl) (fun _ _ _ h => h) (Or.inl ⟨by rfl, ?_⟩) (by assumption) ?_
        rotate_left
        · intro wq hSw; go_simp; try with_reducible rfl
        simp only [Act.put, List.setIfInBounds_toArray, List.set_cons_zero, List.set_cons_succ, List.getElem_toArray, List.getElem_cons_zero, List.getElem_cons_succ]
        refine wpAnyH_take (i := 3) (oi := _) (v := ?_) rfl (by kernel_rfl) (by kernel_rfl) (by kernel_rfl) (fun _ _ _ h => h) (Or.inl ⟨by rfl, ?_⟩) (by assumption) ?_
        rotate_left
        · intro wq hSw; go_simp; try with_reducible rfl
        simp only [Act.put, List.setIfInBounds_toArray, List.set_cons_zero, List.set_cons_succ, List.getElem_toArray, List.getElem_cons_zero, List.getElem_cons_succ]
        refine wpAnyH_take (i := 4) (oi := _) (v := ?_) rfl (by kernel_rfl) (by kernel_rfl) (by kernel_rfl) (fun _ _ _ h => h) (Or.inl ⟨by rfl, ?_⟩) (by assumption) ?_
        rotate_left
        · intro wq hSw; go_simp; try with_reducible rfl
        simp only [Act.put, List.setIfInBounds_toArray, List.set_cons_zero, List.set_cons_succ, List.getElem_toArray, List.getElem_cons_zero, List.getElem_cons_succ]
        refine wpAnyH_take (i := 5) (oi := _) (v := ?_) rfl (by kernel_rfl) (by kernel_rfl) (by kernel_rfl) (fun _ _ _ h => h) (Or.inl ⟨by rfl, ?_⟩) (by assumption) ?_
        rotate_left
        · intro wq hSw; have cq := (HCQ.out wq hSw).2.1; go_simp; try with_reducible rfl
        simp only [Act.put, List.setIfInBounds_toArray, List.set_cons_zero, List.set_cons_succ, List.getElem_toArray, List.getElem_cons_zero, List.getElem_cons_succ]
        refine wpAnyH_take (i := 6) (oi := _) (v := ?_) rfl (by kernel_rfl) (by kernel_rfl) (by kernel_rfl) (fun _ _ _ h => h) (Or.inl ⟨by rfl, ?_⟩) (by assumption) ?_
        rotate_left
        · intro wq hSw; go_simp; try with_reducible rfl
        simp only [Act.put, List.setIfInBounds_toArray, List.set_cons_zero, List.set_cons_succ, List.getElem_toArray, List.getElem_cons_zero, List.getElem_cons_succ]
        refine wpAnyH_take (i := 7) (oi := _) (v := ?_) rfl (by kernel_rfl) (by kernel_rfl) (by kernel_rfl) (fun _ _ _ h => h) (Or.inl ⟨by rfl, ?_⟩) (by assumption) ?_
        rotate_left
        · intro wq hSw; go_simp; try with_reducible rfl
        simp only [Act.put, List.setIfInBounds_toArray, List.set_cons_zero, List.set_cons_succ, List.getElem_toArray, List.getElem_cons_zero, List.getElem_cons_succ]
        refine wpAnyH_take (i := 8) (oi := _) (v := ?_) rfl (by kernel_rfl) (by kernel_rfl) (by kernel_rfl) (fun _ _ _ h => h) (Or.inl ⟨by rfl, ?_⟩) (by assumption) ?_
        rotate_left
        · intro wq hSw; go_simp; try with_reducible rfl
        simp only [Act.put, List.setIfInBounds_toArray, List.set_cons_zero, List.set_cons_succ, List.getElem_toArray, List.getElem_cons_zero, List.getElem_cons_succ]
        refine wpAnyH_take (i := 9) (oi := _) (v := ?_) rfl (by kernel_rfl) (by kernel_rfl) (by kernel_rfl) (fun _ _ _ h => h) (Or.inl ⟨by rfl, ?_⟩) (by assumption) ?_
        rotate_left
        · intro wq hSw; go_simp; try with_reducible rfl
        simp only [Act.put, List.setIfInBounds_toArray, List.set_cons_zero, List.set_cons_succ, List.getElem_toArray, List.getElem_cons_zero, List.getElem_cons_succ]
        refine wpAnyH_take (i := 10) (oi := _) (v := ?_) rfl (by kernel_rfl) (by kernel_rfl) (by kernel_rfl) (fun _ _ _ h => h) (Or.inl ⟨by rfl, ?_⟩) (by assumption) ?_
        rotate_left
        · intro wq hSw; go_simp; try with_reducible rfl
        simp only [Act.put, List.setIfInBounds_toArray, List.set_cons_zero, List.set_cons_succ, List.getElem_toArray, List.getElem_cons_zero, List.getElem_cons_succ]
        refine wpAnyH_take (i := 11) (oi := _) (v := ?_) rfl (by kernel_rfl) (by kernel_rfl) (by kernel_rfl) (fun _ _ _ h => h) (Or.inl ⟨by rfl, ?_⟩) (by assumption) ?_
        rotate_left
        · intro wq hSw; have cq := (HCQ.out wq hSw).2.2.1; go_simp; try with_reducible rfl
        simp only [Act.put, List.setIfInBounds_toArray, List.set_cons_zero, List.set_cons_succ, List.getElem_toArray, List.getElem_cons_zero, List.getElem_cons_succ]
        refine wpAnyH_take (i := 12) (oi := _) (v := ?_) rfl (by kernel_rfl) (by kernel_rfl) (by kernel_rfl) (fun _ _ _ h => h) (Or.inl ⟨by rfl, ?_⟩) (by assumption) ?_
        rotate_left
        · intro wq hSw; go_simp; try with_reducible rfl
        simp only [Act.put, List.setIfInBounds_toArray, List.set_cons_zero, List.set_cons_succ, List.getElem_toArray, List.getElem_cons_zero, List.getElem_cons_succ]
        refine wpAnyH_take (i := 13) (oi := _) (v := ?_) rfl (by kernel_rfl) (by kernel_rfl) (by kernel_rfl) (fun _ _ _ h => h) (Or.inl ⟨by rfl, ?_⟩) (by assumption) ?_
        rotate_left
        · intro wq hSw; have cq := (HCQ.out wq hSw).1; go_simp; try with_reducible rfl
        simp only [Act.put, List.setIfInBounds_toArray, List.set_cons_zero, List.set_cons_succ, List.getElem_toArray, List.getElem_cons_zero, List.getElem_cons_succ]
        refine wpAnyH_take (i := 14) (oi := _) (v := ?_) rfl (by kernel_rfl) (by kernel_rfl) (by kernel_rfl) (fun _ _ _ h => h) (Or.inl ⟨by rfl, ?_⟩) (by assumption) ?_
        rotate_left
        · intro wq hSw; have cq := (HCQ.out wq hSw).2.2.2; go_simp; try with_reducible rfl
        simp only [Act.put, List.setIfInBounds_toArray, List.set_cons_zero, List.set_cons_succ, List.getElem_toArray, List.getElem_cons_zero, List.getElem_cons_succ]
        refine wpAnyH_ready (rs := [15]) (by kernel_rfl) (by simp) ?_
        refine AllReadyH.cons (o := _) rfl (fun K hK => ?_) AllReadyH.nil
        simp only [List.getElem_toArray, List.getElem_cons_zero, List.getElem_cons_succ]
        go_simp
        refine hcp.mono ?_; rintro e w6 ⟨b1, d1, b2, d2, rfl, hcp6, hb6⟩; have hb56 : Below w5.heap.size w5 w6 := Below.trans (Below.refl _ _).drew hb6.out
        refine hK.out _ _ ((gr_below hb56).but _) (fun _ => ?_)
        clear hK K
        have hHeld := (gr_below hb56).but (some s)
        have hadd := HADD.out w6 b1 d1 b2 d2 hb56
        have HB56 := Lib.hid hb56
        have hee : Value.agg (parL x b1 d1 b2 d2).toArray = .agg #[.int .i64 x.group, .slice b1 x.nums.length d1, .slice b2 x.sizes.length d2, .int .i64 x.size, .int .u32 x.sum] := by simp only [parL]
        rw [hee, hok] at hadd
        clear hcp hb6 hb56 HADD hee
        simp only [Act.put, List.setIfInBounds_toArray, List.set_cons_zero, List.set_cons_succ, List.getElem_toArray, List.getElem_cons_zero, List.getElem_cons_succ]
        refine wpAnyH_ready (rs := [16]) (by kernel_rfl) (by simp) ?_
        refine AllReadyH.cons (o := _) rfl (fun K hK => ?_) AllReadyH.nil
        simp only [List.getElem_toArray, List.getElem_cons_zero, List.getElem_cons_succ]
        go_simp
        refine hadd.mono ?_; rintro e w8 ⟨rfl, hm8, hg8⟩; have hG58 : w5.grownBy w8 (some s) := ((gr_below HB56.out).but _).andThen hg8 (fun j hj => .inr hj)
        refine hK.out _ _ (hG58) (fun _ => ?_)
        clear hK K
        have hHeld := hG58
        have HM8 := Lib.hid hm8
        have hg8' := hg8
        clear hadd hG58
        simp only [Act.put, List.setIfInBounds_toArray, List.set_cons_zero, List.set_cons_succ, List.getElem_toArray, List.getElem_cons_zero, List.getElem_cons_succ]
        refine wpAnyH_take (i := 17) (oi := _) (v := ?_) rfl (by kernel_rfl) (by kernel_rfl) (by kernel_rfl) (fun _ _ _ h => h) (Or.inl ⟨by rfl, ?_⟩) (by assumption) ?_
        rotate_left
        · intro wq hSw; go_simp; try with_reducible rfl
        simp only [Act.put, List.setIfInBounds_toArray, List.set_cons_zero, List.set_cons_succ, List.getElem_toArray, List.getElem_cons_zero, List.getElem_cons_succ]
        refine wpAnyH_take (i := 18) (oi := _) (v := ?_) rfl (by kernel_rfl) (by kernel_rfl) (by kernel_rfl) (fun _ _ _ h => h) (Or.inl ⟨by rfl, ?_⟩) (by assumption) ?_
        rotate_left
        · intro wq hSw; go_simp; try with_reducible rfl
        simp only [Act.put, List.setIfInBounds_toArray, List.set_cons_zero, List.set_cons_succ, List.getElem_toArray, List.getElem_cons_zero, List.getElem_cons_succ]
        refine wpAnyH_done (by kernel_rfl) ?_ _
        refine NoPanic.normal ?_
        have HG8 : Hid (w.grownBy w8 (some s)) := Lib.hid ((HG5.out.andThen (gr_below HB56.out) (fun j hj => by cases hj)).andThen hg8 (fun j hj => .inr hj))
        have HMR8 : Hid (∀ y ∈ kput (keyM PT.group) M1 (x, parL x b1 d1 b2 d2), parC (ParD D w.heap.size w8) w8 y.1 y.2) := Lib.hid fun y hy => by
          have hk8 : Keep (ParD D w.heap.size w6) (ParD D w.heap.size w8) w6 w8 := keep_par (s := s) hg8 HD.out (map_blk (HM5.out.below HB56.out))
          rcases kput_mem _ hy with rfl | hy
          · exact (hcp6.out.keep (keep_weak fun b ⟨hb, t, c, ht, hbk⟩ _ => .inr ⟨Nat.le_trans HG5.out.size hb, t, c, ht, hbk⟩)).keep hk8
          · exact ((HMR5.out y hy).keep (keep_par (s := s) ((gr_below HB56.out).but _) HD.out (map_blk HM5.out))).keep hk8
        have HC8 : Hid (MCel 5 (kput (keyM PT.group) M1 (x, parL x b1 d1 b2 d2))) := Lib.hid fun y hy => by
          rcases kput_mem _ hy with rfl | hy
          · exact parL_cel x b1 d1 b2 d2
          · exact hmc.out y hy
        have HL8 : (kput (keyM PT.group) M1 (x, parL x b1 d1 b2 d2)).length ≤ M0.length + (i + 1) := Nat.le_trans (kput_length _ _ _) (by omega)
        clear hm8 hg8
        cases ok with
        | true =>
          have HE := Lib.hid (HEt.out rfl)
          simp only [Bool.not_true]
          go_wp2_with fail
          go_ret
          exact ⟨HG8.out, .inr ⟨HE.out, rfl⟩⟩
        | false =>
          have HE := Lib.hid (HEf.out (parL x b1 d1 b2 d2) rfl)
          simp only [Bool.not_false]
          go_wp2_with fail
          go_roundw
          case rel => exact ⟨i + 1, _, by omega, by first | rfl | go_num, HL8, HM8, HC8, HMR8, HE, HG8⟩
          case measure => simp only [intOf_i]; omega
    · have : n = i := by omega
      subst this
      obtain ⟨N1, hN1⟩ : ∃ N1, M1.length = N1 := ⟨_, rfl⟩
      have HN1 := Lib.hid hN1
      have d2 : wr.cell? ⟨g, 3, none⟩ = some (.map (some s)) := hkw.cell rfl
      have hln := lenP hm.out
      rw [hN1] at hln
      have HD0 : Hid (addK PT.group lim (M0.map (·.1)) L = if N1 ≤ 60 then some (M1.map (·.1)) else none) := Lib.hid (by
        rw [hr.out, List.drop_of_length_le (by rw [HN.out]; exact Nat.le_refl _)]
        simp only [addK, List.length_map, HN1.out])
      clear hkw hN1
      by_cases h60 : N1 ≤ 60
      · have q1 : decide (N1 ≤ 60) = true := decide_eq_true h60
        have q2 : decide ((N1 : Int) ≤ 60) = true := decide_eq_true (by omega)
        have HE := Lib.hid (HD0.out.trans (if_pos h60))
        go_wp2_with fail
        go_ret
        exact ⟨hg.out, .inl ⟨_, HE.out, rfl, M1, rfl, hmr.out, hmc.out, hm.out⟩⟩
      · have q1 : decide (N1 ≤ 60) = false := decide_eq_false h60
        have q2 : decide ((N1 : Int) ≤ 60) = false := decide_eq_false (by omega)
        have HE := Lib.hid (HD0.out.trans (if_neg h60))
        go_wp2_with fail
        go_ret
        exact ⟨hg.out, .inr ⟨HE.out, rfl⟩⟩
end Go.Proofs.YthgpdnffahmhjaaGreatDoor.S19

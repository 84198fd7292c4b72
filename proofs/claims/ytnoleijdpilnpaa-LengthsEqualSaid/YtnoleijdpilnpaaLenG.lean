/- lengths.Of: a contract. -/
import Derived.Test.YtnoleijdpilnpaaLenC
import Derived.Test.YtnoleijdpilnpaaLenF
set_option linter.unusedSimpArgs false
set_option linter.unusedVariables false
namespace Go.Proofs.Ytnoleijdpilnpaa
open Go.RowKit Go.Shelf Pl
namespace Pl
theorem coins_mem (F : List Int) : ∀ (i : Nat), ∀ c ∈ coinsFrom i F, 0 < c.1 ∧ (i : Int) ≤ c.2 ∧ c.2 < (i + F.length : Nat) ∧ c.1 ∈ F := by
  induction F with
  | nil => intro i c hc; simp [coinsFrom] at hc
  | cons f F ih =>
    intro i c hc
    rw [coinsFrom] at hc
    split at hc
    · rcases List.mem_cons.1 hc with rfl | hc
      · refine ⟨by assumption, Int.le_refl _, by simp only [List.length_cons]; omega, by simp⟩
      · have := ih (i + 1) c hc
        exact ⟨this.1, by omega, by simp only [List.length_cons]; omega, by simp [this.2.2.2]⟩
    · have := ih (i + 1) c hc
      exact ⟨this.1, by omega, by simp only [List.length_cons]; omega, by simp [this.2.2.2]⟩
theorem coins_nodup (F : List Int) : ∀ i, (coinsFrom i F).Pairwise fun a b => a.2 ≠ b.2 := by
  induction F with
  | nil => intro i; exact List.Pairwise.nil
  | cons f F ih =>
    intro i
    rw [coinsFrom]
    split
    · refine List.pairwise_cons.2 ⟨fun c hc => ?_, ih _⟩
      have := (coins_mem F (i + 1) c hc).2.1
      simp only
      omega
    · exact ih _
theorem good_of {F : List Int} {S : List Coin} (hp : S.Perm (coinsFrom 0 F)) (ha : Asc S) : Good S :=
  ⟨ha, fun c hc => (coins_mem F 0 c (hp.mem_iff.1 hc)).1, fun c hc => by have := (coins_mem F 0 c (hp.mem_iff.1 hc)).2.1; omega, hp.symm.pairwise (coins_nodup F 0) (fun h => Ne.symm h)⟩
/-- the lengths that Of gives -/
def finLen (S : List Coin) (x : Nat) : Int :=
  match S with
  | [] => 0
  | [s] => if s.2 = x then 1 else 0
  | S => lenOf S x
theorem finLen_many {S : List Coin} (h : 2 ≤ S.length) (x : Nat) : finLen S x = lenOf S x := by
  rcases S with _ | ⟨a, _ | ⟨b, R⟩⟩
  · simp at h
  · simp at h
  · rw [finLen]
    all_goals (intros; first | (intro h; simp at h) | simp_all)
structure LensOk (F L : List Int) (S : List Coin) : Prop where
  perm : S.Perm (coinsFrom 0 F)
  good : Good S
  len : L.length = F.length
  val : ∀ x, x < F.length → L.getD x 0 = finLen S x
end Pl
theorem made_blk {w : World} {base : Nat} {e : TypeId} {g n : Nat} {xs : List Value} (h : w.ownsRow base e 1 (.slice (some ⟨g, 0, none⟩) n n) n xs) : Blk w g e xs := by
  obtain ⟨hl, h | ⟨g', cap, cur, hv, _, hh, hn, _, hs, ht⟩⟩ := h
  · simp at h
  · simp at hv
    obtain ⟨rfl, rfl⟩ := hv
    unfold Blk
    rw [hh]
    have : cur.toList = xs := by rw [← ht, List.take_of_length_le (by simp [hs])]
    rw [← this]
theorem made_ints (n : Nat) : (madeCells (Value.int .i64 0).cells (n * 1)).toList = i64s (List.replicate n 0) := by
  apply List.ext_getElem?
  intro i
  by_cases h : i < n
  · simp [madeCells, Value.cells, h, Nat.mod_one, i64s]
  · simp [madeCells, Value.cells, h, i64s]
def OfPost (F : List Int) (w : World) (e : Ending) (w' : World) : Prop :=
  (¬ (F.length ≤ 300 ∧ allOk F) ∧ e = .returned (.tuple #[.slice none 0 0, .int .i64 7]) ∧ w = w') ∨
  ((F.length ≤ 300 ∧ allOk F) ∧ ∃ g L S, e = .returned (.tuple #[.slice (some ⟨g, 0, none⟩) F.length F.length, .int .i64 0]) ∧ w.heap.size ≤ g ∧ Blk w' g 3 (i64s L) ∧ LensOk F L S ∧ Below w.heap.size w w')
set_option maxHeartbeats 8000000 in
set_option maxRecDepth 100000 in
theorem of_any (v : Value) (F : List Int) (w : World) (hv : IsInts w v F) (hF : F.length ≤ 1000000) :
    Calls Try.prog 13 #[v] w (OfPost F w) := by
  have hir := inRange_any v F w hv hF
  obtain ⟨a, cap, rfl, hcap, hmax⟩ := hv.slice
  have HV := Lib.hid hv
  clear hv
  by_cases hok : F.length ≤ 300 ∧ allOk F
  rotate_left
  · go_enter Try.func13, Try.ntmps13
    go_wp2_with fail
    refine hir.mono ?_
    rintro e w' ⟨⟨b, rfl, hb⟩, rfl⟩
    obtain rfl : b = false := by
      cases b
      · rfl
      · exact absurd (hb.1 rfl) hok
    have H := Lib.hid hok
    clear hb hir hok
    go_wp2
    go_ret2
    exact .inl ⟨H.out, rfl, rfl⟩
  obtain ⟨i0, hi, hz0, hz1, hz2⟩ := infoI_parts infoI
  have HI := Lib.hid hi
  have HZ := Lib.hid (And.intro hz0 (And.intro hz1 hz2))
  have hF3 := hok.1
  have HOK := Lib.hid hok
  clear hi hz0 hz1 hz2 hok
  go_enter Try.func13, Try.ntmps13
  go_wp2_with fail
  refine hir.mono ?_
  rintro e w' ⟨⟨b, rfl, hb⟩, rfl⟩
  obtain rfl : b = true := hb.2 HOK.out
  clear hb hir
  go_wp2_with (at_make; refine wpList_make_full _ rfl _ _ 25 rfl w.heap.size 3 i0 (.int .i64 0) 1 Try.underlying25 HI.out HZ.out.1 HZ.out.2.1 .i64 .i64 _ _ F.length rfl rfl rfl rfl (by rw [HZ.out.2.2]; omega) (by unfold maxLen; omega) (Nat.le_refl _) ?_; intro w1 hown hgr)
  rw [made_ints] at hown
  have hL := made_blk hown
  have hB1 : Below w.heap.size w w1 := (Below.refl _ w).grown hgr (Nat.le_refl _) (by simp)
  have hs1 := hL.lt
  have hv1 : IsInts w1 (.slice a F.length cap) F := HV.out.below hB1
  refine (singles_any _ F w1 hv1 hF).mono ?_
  rintro e w2 ⟨sa, n, sc, S, rfl, hn, hp, ha, hI, hB2⟩
  have hG := good_of hp ha
  obtain ⟨sa', sc', hse, hsc1, hsc2⟩ := hI.slice
  simp at hse
  obtain ⟨rfl, hse2, rfl⟩ := hse
  have hL2 := hL.below hB2 hs1
  have hB12 := hB1.trans (hB2.mono hB1.size)
  have hSl : n ≤ 300 := by
    have := hp.length_eq
    have := coins_len 0 F
    omega
  have HP := Lib.hid hp
  have HG := Lib.hid hG
  have HIC := Lib.hid hI
  have HN := Lib.hid hn
  have HL2 := Lib.hid hL2
  have HB := Lib.hid hB12
  have hscn : n ≤ sc := by omega
  have HSC := Lib.hid (And.intro hscn hsc2)
  clear hown hgr hL hB1 hv1 hB2 hG hI hL2 hB12 hp ha hn hse2 hsc1 hsc2 hscn HI HZ
  have hlx : w.heap.size < w2.heap.size := HL2.out.lt
  by_cases h0 : n = 0
  · subst h0
    go_wp2
    go_ret2
    have hS : S = [] := List.eq_nil_of_length_eq_zero HN.out.symm
    refine .inr ⟨HOK.out, w.heap.size, List.replicate F.length 0, S, rfl, Nat.le_refl _, HL2.out, ⟨HP.out, HG.out, by simp, fun x hx => ?_⟩, HB.out⟩
    rw [hS]
    simp [finLen, List.getD, hx]
  have h0z : ((n : Int) == 0) = false := beq_f (by omega)
  by_cases h1 : n = 1
  · have hS1 : ∃ s, S = [s] := by
      match S, HN.out with
      | [s], _ => exact ⟨s, rfl⟩
      | [], h => simp at h; omega
      | _ :: _ :: _, h => simp at h; omega
    obtain ⟨s, hS⟩ := hS1
    obtain ⟨bs, offs, caps, hse, _, _, hbs, hc⟩ := HIC.out.cells (by rw [hS]; simp)
    simp at hse
    obtain ⟨rfl, hx1, hx2⟩ := hse
    have hc0 := hc 0 (by rw [hS]; simp)
    have e0 : S.getD 0 (0, 0) = s := by rw [hS]; rfl
    rw [e0, Nat.zero_mul, Nat.add_zero] at hc0
    have hm := coins_mem F 0 s (HP.out.mem_iff.1 (by rw [hS]; simp))
    obtain ⟨y, hy⟩ : ∃ y : Nat, s.2 = y := ⟨s.2.toNat, by omega⟩
    have hyF : y < F.length := by have := hm.2.2.1; omega
    have c1 : w2.cell? ⟨bs, offs + 1, none⟩ = some (.int .i64 y) := by rw [← hy]; exact hc0.2
    have cl : w2.cell? ⟨w.heap.size, y, none⟩ = some (.int .i64 0) := HL2.out.cell (by have := i64s_get (List.replicate F.length 0) y (by simpa using hyF); rw [this]; simp [List.getD, hyF])
    have fl := HL2.out.frozen y
    have hset := HL2.out.set y (.int .i64 1)
    rw [i64s_set] at hset
    have HSET := Lib.hid hset
    have HS := Lib.hid hS
    have HY := Lib.hid hy
    have h1z : ((n : Int) == 1) = true := beq_t (by omega)
    have hn0 : 0 < n := by omega
    have hyFz : (y : Int) < (F.length : Int) := by omega
    clear hset hS hy hm hc0 hc e0 hx1 hx2 h0
    go_wp2
    go_ret2
    refine .inr ⟨HOK.out, w.heap.size, (List.replicate F.length 0).set y 1, S, rfl, Nat.le_refl _, HSET.out, ⟨HP.out, HG.out, by simp, fun x hx => ?_⟩, HB.out.setCell (Nat.le_refl _) _⟩
    rw [getD_set_int _ _ _ _ (by simpa using hyF), HS.out]
    simp only [finLen, HY.out]
    by_cases e : x = y
    · subst e; simp
    · rw [if_neg e, if_neg (by omega)]
      simp [List.getD, hx]
  have h1z : ((n : Int) == 1) = false := beq_f (by omega)
  have hsym : ∀ c ∈ S, 0 ≤ c.2 ∧ c.2 < F.length := fun c hc => by
    have := coins_mem F 0 c (HP.out.mem_iff.1 hc)
    exact ⟨by omega, by omega⟩
  have hwt : ∀ c ∈ S, 0 < c.1 ∧ c.1 ≤ 1073741824 := fun c hc => by
    have := coins_mem F 0 c (HP.out.mem_iff.1 hc)
    exact ⟨this.1, (HOK.out.2 _ this.2.2.2).2⟩
  have HSY := Lib.hid hsym
  have hro := rowsOf_any sa n sc S w2 HIC.out HN.out.symm HSC.out.1 HSC.out.2 (by omega) hwt
  clear hsym hwt
  go_wp2_with fail
  refine hro.mono ?_
  rintro e w3 ⟨vs, rfl, hR, hA, hB3⟩
  have hL3 := HL2.out.below hB3 hlx
  have hsp := spend_any S vs (List.replicate F.length 0) (2 * n - 2) w.heap.size w2.heap.size F.length w3 HG.out (by rw [← HN.out]; exact hSl) (by simpa using HSY.out) (fun v hv => List.eq_of_mem_replicate hv) (by simpa using hF) (by rw [HN.out]; exact row_big (by rw [← HN.out]; exact hSl)) hL3 hR hA hlx
  rw [List.length_replicate, show ((2 * n - 2 : Nat) : Int) = 2 * (n : Int) - 2 by omega] at hsp
  have HSP := Lib.hid hB3
  have HCALL := Lib.hid hsp
  clear hro hR hA hB3 hL3 hsp
  go_wp2_with fail
  refine HCALL.out.mono ?_
  rintro e w4 ⟨rfl, hL4, hgr4⟩
  have HL4 := Lib.hid hL4
  have HG4 := Lib.hid hgr4
  clear HCALL hL4 hgr4
  go_wp2
  go_ret2
  refine .inr ⟨HOK.out, w.heap.size, _, S, rfl, Nat.le_refl _, HL4.out, ⟨HP.out, HG.out, by rw [st_length]; simp, fun x hx => ?_⟩, (HB.out.trans (HSP.out.mono HB.out.size)).trans (HG4.out.below (Nat.le_trans HB.out.size HSP.out.size) (Nat.le_refl _))⟩
  rw [HN.out, st_lens (by simpa using HSY.out) x hx]
  exact (finLen_many (by rw [← HN.out]; omega) x).symm
end Go.Proofs.Ytnoleijdpilnpaa

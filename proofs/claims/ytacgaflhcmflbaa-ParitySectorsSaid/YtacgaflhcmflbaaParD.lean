/- Rows of bools ([]bool, [][]bool) in memory; worlds alike but for what is no cells; marks on the way out of a function; parity.fit, slices.Index and Contains of bools: contracts. -/
import Derived.Test.YtacgaflhcmflbaaParB
import Derived.Test.YtacgaflhcmflbaaParC
import Derived.Test.YtacgaflhcmflbaaInts
import Derived.Test.YtacgaflhcmflbaaStrs
set_option linter.unusedSimpArgs false
set_option linter.unusedVariables false
namespace Go.Proofs.Ytacgaflhcmflbaa
open Go.RowKit Pl
def bls (L : List Bool) : List Value := L.map Value.bool
theorem bls_length (L : List Bool) : (bls L).length = L.length := by simp [bls]
theorem bls_get (L : List Bool) (i : Nat) (h : i < L.length) : (bls L)[i]? = some (.bool (L.getD i false)) := by simp [bls, h, List.getD]
theorem bls_set (B : List Bool) (i : Nat) (c : Bool) : (bls B).set i (.bool c) = bls (B.set i c) := by simp [bls, List.map_set]
theorem bls_one (L : List Bool) : ∀ v ∈ bls L, v.oneCell' = true := by
  intro v hv; simp only [bls, List.mem_map] at hv; obtain ⟨x, _, rfl⟩ := hv; rfl
/-- the bools D, as the slice v tells them -/
def IsBls (w : World) (v : Value) (D : List Bool) : Prop :=
  (v = .slice none 0 0 ∧ D = []) ∨ ∃ a cap, v = .slice (some a) D.length cap ∧ D.length ≤ cap ∧ cap ≤ maxLen ∧ ∀ i u, (bls D)[i]? = some u → w.cell? (a.add i) = some u
theorem isBls_nil (w : World) : IsBls w (.slice none 0 0) [] := .inl ⟨rfl, rfl⟩
theorem IsBls.mono {w w' : World} {v : Value} {D : List Bool} (h : IsBls w v D) (hc : ∀ p u, w.cell? p = some u → w'.cell? p = some u) : IsBls w' v D := by
  obtain h | ⟨a, cap, rfl, h1, h2, h3⟩ := h
  · exact .inl h
  · exact .inr ⟨a, cap, rfl, h1, h2, fun i u hu => hc _ _ (h3 i u hu)⟩
theorem below_cells {w w' : World} (hb : Below w.heap.size w w') : ∀ p u, w.cell? p = some u → w'.cell? p = some u := fun p u h => (hb.cell (World.block_lt_of_cell? w _ h)).trans h
theorem IsBls.below {w w' : World} {v : Value} {D : List Bool} (h : IsBls w v D) (hb : Below w.heap.size w w') : IsBls w' v D := h.mono (below_cells hb)
theorem IsBls.slice {w : World} {v : Value} {D : List Bool} (h : IsBls w v D) : ∃ a cap, v = .slice a D.length cap ∧ D.length ≤ cap ∧ cap ≤ maxLen := by
  obtain ⟨rfl, rfl⟩ | ⟨a, cap, rfl, h1, h2, _⟩ := h
  · exact ⟨none, 0, rfl, Nat.le_refl _, by unfold maxLen; omega⟩
  · exact ⟨some a, cap, rfl, h1, h2⟩
theorem IsBls.at {w : World} {a : Option Addr} {n cap : Nat} {D : List Bool} (h : IsBls w (.slice a n cap) D) {s : Nat} (hs : s < n) : ∃ b o, a = some ⟨b, o, none⟩ ∧ b < w.heap.size ∧ w.cell? ⟨b, o + s, none⟩ = some (.bool (D.getD s false)) := by
  obtain ⟨he, rfl⟩ | ⟨x, c, he, h1, h2, h3⟩ := h
  · simp at he; omega
  · simp at he
    obtain ⟨rfl, rfl, rfl⟩ := he
    have hc := h3 s _ (bls_get D s hs)
    obtain ⟨b, o, spot⟩ := x
    have hc0 := h3 0 _ (bls_get D 0 (by omega))
    have hspot : spot = none := by simpa [Addr.add] using World.cell?_spot hc0
    subst hspot
    rw [addr_add] at hc
    exact ⟨b, o, rfl, World.block_lt_of_cell? w _ hc, hc⟩
theorem IsBls.len {w : World} {a : Option Addr} {n cap : Nat} {D : List Bool} (h : IsBls w (.slice a n cap) D) : D.length = n := by
  obtain ⟨he, rfl⟩ | ⟨x, c, he, _⟩ := h
  · simp at he; simp [he.2.1]
  · simp at he; exact he.2.1.symm
/-- the lists of bools E, as the slice v tells them -/
def IsBRows (w : World) (v : Value) (E : List (List Bool)) : Prop :=
  ∃ (a : Option Addr) (cap : Nat) (Vs : List Value), v = .slice a E.length cap ∧ E.length ≤ cap ∧ cap ≤ maxLen ∧ Vs.length = E.length ∧ (∀ (i : Nat) (u : Value), Vs[i]? = some u → ∃ ad, a = some ad ∧ w.cell? (ad.add i) = some u) ∧ ∀ (i : Nat) (u : Value) (D : List Bool), Vs[i]? = some u → E[i]? = some D → IsBls w u D
theorem IsBRows.slice {w : World} {v : Value} {E : List (List Bool)} (h : IsBRows w v E) : ∃ a cap, v = .slice a E.length cap ∧ E.length ≤ cap ∧ cap ≤ maxLen := by
  obtain ⟨a, cap, Vs, rfl, h1, h2, _⟩ := h
  exact ⟨a, cap, rfl, h1, h2⟩
theorem IsBRows.at {w : World} {a : Option Addr} {n cap : Nat} {E : List (List Bool)} (h : IsBRows w (.slice a n cap) E) {i : Nat} (hi : i < E.length) :
    ∃ b off a' n' c', a = some ⟨b, off, none⟩ ∧ b < w.heap.size ∧ w.cell? ⟨b, off + i, none⟩ = some (.slice a' n' c') ∧ n' ≤ c' ∧ c' ≤ maxLen ∧ IsBls w (.slice a' n' c') (E.getD i []) := by
  obtain ⟨a0, cap0, Vs, hv, _, _, hlen, hcell, hby⟩ := h
  simp at hv
  obtain ⟨rfl, rfl, rfl⟩ := hv
  have hu : Vs[i]? = some (Vs[i]'(by omega)) := List.getElem?_eq_getElem (by omega)
  have hu0 : Vs[0]? = some (Vs[0]'(by omega)) := List.getElem?_eq_getElem (by omega)
  obtain ⟨ad, rfl, hc0⟩ := hcell 0 _ hu0
  obtain ⟨ad', he, hc⟩ := hcell i _ hu
  cases he
  have hB : E[i]? = some (E.getD i []) := by simp [List.getD, hi]
  have hb := hby i _ _ hu hB
  obtain ⟨b, off, spot⟩ := ad
  have hspot : spot = none := by simpa [Addr.add] using World.cell?_spot hc0
  subst hspot
  rw [addr_add] at hc
  obtain ⟨a', c', hs, h1, h2⟩ := hb.slice
  rw [hs] at hc hb
  exact ⟨b, off, a', _, c', rfl, World.block_lt_of_cell? w _ hc, hc, h1, h2, hb⟩
theorem IsBRows.mono {w w' : World} {v : Value} {E : List (List Bool)} (h : IsBRows w v E) (hc : ∀ p u, w.cell? p = some u → w'.cell? p = some u) : IsBRows w' v E := by
  obtain ⟨a, cap, Vs, rfl, h1, h2, h3, h4, h5⟩ := h
  refine ⟨a, cap, Vs, rfl, h1, h2, h3, fun i u hu => ?_, fun i u B hu hB => (h5 i u B hu hB).mono hc⟩
  obtain ⟨ad, rfl, h⟩ := h4 i u hu
  exact ⟨ad, rfl, hc _ _ h⟩
theorem IsBRows.below {w w' : World} {v : Value} {E : List (List Bool)} (h : IsBRows w v E) (hb : Below w.heap.size w w') : IsBRows w' v E := h.mono (below_cells hb)
theorem IsBytes.mono {w w' : World} {v : Value} {B : List Nat} (h : IsBytes w v B) (hc : ∀ p u, w.cell? p = some u → w'.cell? p = some u) : IsBytes w' v B := by
  obtain ⟨hx, h | ⟨a, cap, rfl, h1, h2, h3⟩⟩ := h
  · exact ⟨hx, .inl h⟩
  · exact ⟨hx, .inr ⟨a, cap, rfl, h1, h2, fun i u hu => hc _ _ (h3 i u hu)⟩⟩
theorem IsRows.mono {w w' : World} {v : Value} {L : List (List Nat)} (h : IsRows w v L) (hc : ∀ p u, w.cell? p = some u → w'.cell? p = some u) : IsRows w' v L := by
  obtain ⟨a, cap, Vs, rfl, h1, h2, h3, h4, h5⟩ := h
  refine ⟨a, cap, Vs, rfl, h1, h2, h3, fun i u hu => ?_, fun i u B hu hB => (h5 i u B hu hB).mono hc⟩
  obtain ⟨ad, rfl, h⟩ := h4 i u hu
  exact ⟨ad, rfl, hc _ _ h⟩
/-! worlds alike but for blocks that are no cells -/
/-- below B nothing has changed; what is cells is as it was -/
def Lv (B : Nat) (W W' : World) : Prop := Below B W W' ∧ ∀ (k : Nat) (o : Obj), W.heap[k]? = some o → o.isCells = true → W'.heap[k]? = some o
theorem Lv.refl (B : Nat) (W : World) : Lv B W W := ⟨Below.refl _ _, fun _ _ h _ => h⟩
theorem Lv.cells {B : Nat} {W W' : World} (h : Lv B W W') : ∀ p u, W.cell? p = some u → W'.cell? p = some u := fun p u hp => by
  obtain ⟨o, ho, hc⟩ := cells_of_cell hp
  have := h.2 _ o ho hc
  unfold World.cell? at hp ⊢
  rw [ho] at hp
  rw [this]
  exact hp
theorem Lv.blk {B : Nat} {W W' : World} (h : Lv B W W') {b : Nat} {t : TypeId} {c : List Value} (hb : Blk W b t c) : Blk W' b t c := h.2 b _ hb rfl
theorem Lv.put {B : Nat} {W W' : World} (h : Lv B W W') {D : Nat} {o : Obj} (o' : Obj) (hB : B ≤ D) (hD : W'.heap[D]? = some o) (ho : o.isCells = false) : Lv B W (W'.putObj D o') := by
  have hg := grownBy_putObj' W' D o'
  refine ⟨h.1.grown hg ?_ (fun k e => by cases e; exact hB), fun k ob hk hc => ?_⟩
  · have := (Array.getElem?_eq_some_iff.1 hD).1; omega
  · have h1 := h.2 k ob hk hc
    have hne : k ≠ D := by
      intro e; subst e
      rw [h1] at hD
      simp at hD
      subst hD
      rw [hc] at ho; cases ho
    rw [World.putObj_heap_other hne]
    exact h1
/-- the marks of the loops over functions that have been left, the newest first -/
def Ds (B : Nat) : Nat → List Deferred → World → Prop
  | _, [], _ => True
  | U, d :: ds, W => ∃ D, d = { target := .collected D, args := #[] } ∧ B ≤ D ∧ D < U ∧ W.heap[D]? = some (.deferred (some [])) ∧ Ds B D ds W
theorem Ds.mono {B : Nat} : ∀ {U U' : Nat} {ds : List Deferred} {W : World}, Ds B U ds W → U ≤ U' → Ds B U' ds W
  | _, _, [], _, h, _ => h
  | _, _, d :: ds, _, ⟨D, h1, h2, h3, h4, h5⟩, hU => ⟨D, h1, h2, by omega, h4, h5⟩
theorem Ds.keep {B : Nat} : ∀ {U : Nat} {ds : List Deferred} {W W' : World}, Ds B U ds W → (∀ k, k < U → B ≤ k → W.heap[k]? = some (.deferred (some [])) → W'.heap[k]? = some (.deferred (some []))) → Ds B U ds W'
  | _, [], _, _, h, _ => trivial
  | _, d :: ds, _, _, ⟨D, h1, h2, h3, h4, h5⟩, hk => ⟨D, h1, h2, h3, hk D h3 h2 h4, h5.keep fun k h => hk k (by omega)⟩
theorem Ds.below {B U : Nat} {ds : List Deferred} {W W' : World} (h : Ds B U ds W) (hb : Below U W W') : Ds B U ds W' := h.keep fun k hk _ hd => (hb.block k hk).trans hd
theorem leaves_ds {F : Fence} {n : Nat} {P : Program} {fn : Func} {tmps : Array Value} {R : Ending → World → Prop} {B : Nat} {W0 : World} : ∀ {ds : List Deferred} {U : Nat} {W : World}, Ds B U ds W → Lv B W0 W →
    (∀ W', Lv B W0 W' → ∃ v, (results fn tmps).run P W' = .ok v W' ∧ R (.returned v) W') → LeavesInM F n P fn tmps R ds .returning W
  | [], _, W, _, hl, hR => hR W hl
  | d :: ds, U, W, ⟨D, h1, h2, h3, h4, h5⟩, hl, hR => by
    subst h1
    refine ⟨by simp, .inl ⟨_, _, rfl, run_takeDeferred h4, ?_⟩⟩
    exact leaves_ds (U := D) (h5.keep fun k hk _ hd => by rw [World.putObj_heap_other (by omega)]; exact hd) (hl.put _ h2 h4 rfl) hR
/-! the calls -/
attribute [local go_sem ↓] maxN_eq
def FitOk (L : List (List Nat)) (np : Nat) (S : List Int) : Prop := S.length = L.length ∧ (∀ i, i < L.length → S.getD i 0 = ((L.getD i []).length : Nat)) ∧ np = mxL L
def FitPost (L : List (List Nat)) (np : Nat) (S : List Int) (w : World) (e : Ending) (w' : World) : Prop := ∃ o : Bool, e = .returned (.bool o) ∧ (o = true ↔ FitOk L np S) ∧ w = w'
set_option maxHeartbeats 4000000 in
theorem fit_any (v vs : Value) (pa : Option Addr) (np pc : Nat) (L : List (List Nat)) (S : List Int) (w : World) (hr : IsRows w v L) (hs : IsInts w vs S) (hL : L.length ≤ 1000000) (hS : S.length ≤ 1000000) (hnp : np ≤ maxLen) :
    Calls Try.prog 24 #[v, .slice pa np pc, vs] w (FitPost L np S w) := by
  obtain ⟨a, cap, rfl, hcap, hmax⟩ := hr.slice
  obtain ⟨sa, scap, rfl, hscap, hsmax⟩ := hs.slice
  unfold maxLen at hmax hsmax hnp
  obtain ⟨n, hn⟩ : ∃ n, L.length = n := ⟨_, rfl⟩
  obtain ⟨m, hm⟩ : ∃ m, S.length = m := ⟨_, rfl⟩
  have hr' : IsRows w (.slice a n cap) L := by rw [← hn]; exact hr
  have hs' : IsInts w (.slice sa m scap) S := by rw [← hm]; exact hs
  rw [hn] at hL hcap ⊢
  rw [hm] at hS hscap ⊢
  have HR := Lib.hid hr'
  have HS := Lib.hid hs'
  have HN := Lib.hid hn
  have HM := Lib.hid hm
  clear hr hs hr' hs' hn hm
  by_cases hnm : n = m
  rotate_left
  · have hb : ((m : Int) != (n : Int)) = true := bne_t (by omega)
    have HNE : Hid (¬ FitOk L np S) := Lib.hid fun h => hnm (by have := h.1; rw [HM.out, HN.out] at this; exact this.symm)
    go_enter Try.func24, Try.ntmps24
    go_wp2
    go_ret
    exact ⟨false, rfl, ⟨fun h => (by cases h), fun h => absurd h HNE.out⟩, rfl⟩
  subst hnm
  have hb : ((n : Int) != (n : Int)) = false := bne_f rfl
  go_enter Try.func24, Try.ntmps24
  go_wp2
  clear hb
  go_loop [7, 17] (fun x y => ∃ i : Nat, i ≤ n ∧ y = .int .i64 i ∧ x = .int .i64 (mxL (L.take i) : Nat) ∧ ∀ j, j < i → S.getD j 0 = ((L.getD j []).length : Nat)) (fun _ y => n - (intOf y).toNat)
  case atStart => exact ⟨0, by omega, rfl, by simp [mxL], by intro j hj; omega⟩
  case round =>
    obtain ⟨i, hi, rfl, rfl, hall⟩ := hrel
    have HALL := Lib.hid hall
    clear hall
    by_cases hlt : i < n
    · obtain ⟨b, off, a', c', rfl, hbl, hc, hI⟩ := HR.out.at (i := i) (by rw [HN.out]; exact hlt)
      obtain ⟨b2, off2, cap2, hs2, _, _, _, hc2⟩ := HS.out.cells (by rw [HM.out]; omega)
      rw [HM.out] at hs2
      simp at hs2
      obtain ⟨rfl, rfl⟩ := hs2
      have c2 := hc2 i (by rw [HM.out]; exact hlt)
      have hst := mxL_step L i (by rw [HN.out]; exact hlt)
      have hmx := fun ats ty W => run_maxN ats ty (mxL (L.take i)) (L.getD i []).length W
      rw [← hst] at hmx
      have HST := Lib.hid hst
      obtain ⟨q, hq⟩ : ∃ q, (L.getD i []).length = q := ⟨_, rfl⟩
      have hqm : q ≤ maxLen := by
        obtain ⟨_, cc, he, h1, h2⟩ := hI.slice
        omega
      unfold maxLen at hqm
      rw [hq] at hc hmx
      have HQ := Lib.hid hq
      obtain ⟨z, hz⟩ : ∃ z, S.getD i 0 = z := ⟨_, rfl⟩
      rw [hz] at c2
      have HZ := Lib.hid hz
      clear hI hst hc2 hq hz
      generalize mxL (L.take i) = r at *
      by_cases hqz : z = (q : Int)
      · have hb : ((q : Int) != z) = false := bne_f hqz.symm
        have HA2 : Hid (∀ j, j < i + 1 → S.getD j 0 = ((L.getD j []).length : Nat)) := Lib.hid fun j hj => by
          by_cases hji : j = i
          · subst hji; rw [HZ.out, HQ.out]; exact hqz
          · exact HALL.out j (by omega)
        clear hqz
        go_wp2
        go_round
        case rel => exact ⟨i + 1, by omega, by go_num, rfl, HA2.out⟩
        case measure => simp [intOf]; omega
      · have hb : ((q : Int) != z) = true := bne_t (fun h => hqz h.symm)
        have HNE : Hid (¬ FitOk L np S) := Lib.hid fun h => hqz (by have := h.2.1 i (by rw [HN.out]; exact hlt); rw [HZ.out, HQ.out] at this; exact this)
        clear hqz
        go_wp2
        go_ret
        exact ⟨false, rfl, ⟨fun h => (by cases h), fun h => absurd h HNE.out⟩, rfl⟩
    · obtain rfl : i = n := by omega
      have hti : L.take i = L := by rw [← HN.out, List.take_length]
      rw [hti]
      have HF : Hid ((np : Int) = ((mxL L : Nat) : Int) → FitOk L np S) := Lib.hid fun h => ⟨by rw [HM.out, HN.out], fun j hj => HALL.out j (by rw [HN.out] at hj; exact hj), by omega⟩
      have HG : Hid (FitOk L np S → (np : Int) = ((mxL L : Nat) : Int)) := Lib.hid fun h => by rw [h.2.2]
      clear hti
      generalize ((mxL L : Nat) : Int) = M at *
      by_cases hM : (np : Int) = M
      · have hb : ((np : Int) == M) = true := beq_t hM
        have HX := Lib.hid (HF.out hM)
        clear hM HF HG
        go_wp2
        go_ret
        exact ⟨true, rfl, ⟨fun _ => HX.out, fun _ => rfl⟩, rfl⟩
      · have hb : ((np : Int) == M) = false := beq_f hM
        have HX := Lib.hid (fun h => hM (HG.out h))
        clear hM HF HG
        go_wp2
        go_ret
        exact ⟨false, rfl, ⟨fun h => (by cases h), fun h => absurd h HX.out⟩, rfl⟩
end Go.Proofs.Ytacgaflhcmflbaa

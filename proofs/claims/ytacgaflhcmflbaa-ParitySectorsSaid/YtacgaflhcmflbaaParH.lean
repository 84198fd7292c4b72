/- slices.Index, Contains, Repeat of bools, slices.Clone of byte strings: contracts; rows of byte strings copied. -/
import Derived.Test.YtacgaflhcmflbaaParG
set_option linter.unusedSimpArgs false
set_option linter.unusedVariables false
namespace Go.Proofs.Ytacgaflhcmflbaa
open Go.RowKit Pl
attribute [local go_sem ↓] sliceB_eq
/-- l[k:] and l[:k] of a row that begins at its block's head -/
theorem run_fromBl {g n cap : Nat} (k : Nat) (hk : k ≤ n) (hc : k < cap) (hcap : n ≤ cap) (W : World) : (sliceB (.slice (some ⟨g, 0, none⟩) n cap) (some (.int .i64 k)) none none).run Try.prog W = .ok (.slice (some ⟨g, k, none⟩) (n - k) (cap - k)) W := by
  unfold sliceB
  rw [run_sliceAt_slice _ _ _ _ _ _ und_bls, run_slice_l _ _ _ _ _ und_bls _ _ (by omega) (by omega), run_size_b, Int.toNat_natCast]
  simp only [Result.andThen, sliced]
  rw [if_neg (by omega)]
  simp [addr_add]
theorem run_uptoBl {g n cap : Nat} (k : Nat) (hk : k ≤ n) (hcap : n ≤ cap) (W : World) : (sliceB (.slice (some ⟨g, 0, none⟩) n cap) none (some (.int .i64 k)) none).run Try.prog W = .ok (.slice (some ⟨g, 0, none⟩) k cap) W := run_uptoB k k rfl hk hcap W
/-- l[k:] of bools that came in -/
theorem run_dropB {w : World} {a : Option Addr} {n cap : Nat} {D : List Bool} (h : IsBls w (.slice a n cap) D) (k : Nat) (hk : k ≤ n) :
    ∃ a' c', (∀ W, (sliceB (.slice a n cap) (some (.int .i64 k)) none none).run Try.prog W = .ok (.slice a' (n - k) c') W) ∧ IsBls w (.slice a' (n - k) c') (D.drop k) := by
  have hl := h.len
  obtain ⟨a0, cap0, he, hcap, hmax⟩ := h.slice
  simp at he
  obtain ⟨rfl, he2, rfl⟩ := he
  refine ⟨if cap = k then a else a.map (·.add (k * 1)), cap - k, ?_, ?_⟩
  · intro W
    unfold sliceB
    rw [run_sliceAt_slice _ _ _ _ _ _ und_bls, run_slice_l _ _ _ _ _ und_bls _ _ (by omega) (by omega), run_size_b, Int.toNat_natCast]
    rfl
  · obtain ⟨he, rfl⟩ | ⟨x, c, he, h1, h2, h3⟩ := h
    · simp at he
      obtain ⟨rfl, rfl, rfl⟩ := he
      obtain rfl : k = 0 := by omega
      exact .inl ⟨by simp, by simp⟩
    · simp at he
      obtain ⟨rfl, rfl, rfl⟩ := he
      by_cases hck : cap = k
      · rw [if_pos hck]
        refine .inr ⟨x, cap - k, by rw [List.length_drop], by rw [List.length_drop]; omega, by omega, fun i u hu => ?_⟩
        have := (List.getElem?_eq_some_iff.1 hu).1
        rw [bls_length, List.length_drop] at this
        omega
      · rw [if_neg hck]
        refine .inr ⟨x.add (k * 1), cap - k, by rw [List.length_drop]; rfl, by rw [List.length_drop]; omega, by omega, fun i u hu => ?_⟩
        have hu2 : (bls D)[k + i]? = some u := by
          simp only [bls, List.map_drop, List.getElem?_drop] at hu
          exact hu
        rw [Nat.mul_one, Addr.add_add]
        exact h3 _ _ hu2
/-- the place of the first that is set, or -1 -/
def FirstT (D : List Bool) (r : Int) : Prop := (r = -1 ∧ ∀ j, D.getD j false = false) ∨ ∃ i : Nat, r = i ∧ i < D.length ∧ D.getD i false = true ∧ ∀ j, j < i → D.getD j false = false
theorem getD_outB {D : List Bool} {j : Nat} (h : D.length ≤ j) : D.getD j false = false := by rw [List.getD_eq_getElem?_getD, List.getElem?_eq_none h]; rfl
set_option maxHeartbeats 1000000 in
theorem index_any (v : Value) (D : List Bool) (w : World) (hv : IsBls w v D) : Calls Try.prog 19 #[v, .bool true] w fun e w' => (∃ r : Int, e = .returned (.int .i64 r) ∧ FirstT D r) ∧ w = w' := by
  obtain ⟨a, cap, rfl, hcap, hmax⟩ := hv.slice
  unfold maxLen at hmax
  obtain ⟨n, hn⟩ : ∃ n, D.length = n := ⟨_, rfl⟩
  rw [hn] at hv hcap ⊢
  have HV := Lib.hid hv
  have HN := Lib.hid hn
  clear hv hn
  go_enter Try.func19, Try.ntmps19
  go_wp2
  go_loop [8] (fun y => ∃ i : Nat, i ≤ n ∧ y = .int .i64 i ∧ ∀ j, j < i → D.getD j false = false) (fun y => n - (intOf y).toNat)
  case atStart => exact ⟨0, by omega, rfl, fun j h => by omega⟩
  case round =>
    obtain ⟨i, hi, rfl, he⟩ := hrel
    have HE := Lib.hid he
    clear he
    by_cases hlt : i < n
    · obtain ⟨b, o, rfl, _, c0⟩ := HV.out.at hlt
      cases hx : D.getD i false with
      | true =>
        have HX := Lib.hid hx
        rw [hx] at c0
        clear hx
        go_wp2
        go_ret
        exact ⟨⟨_, rfl, .inr ⟨i, rfl, by rw [HN.out]; exact hlt, HX.out, HE.out⟩⟩, rfl⟩
      | false =>
        have HE2 : Hid (∀ j, j < i + 1 → D.getD j false = false) := Lib.hid fun j hj => by
          by_cases h : j = i
          · subst h; exact hx
          · exact HE.out j (by omega)
        rw [hx] at c0
        clear hx
        go_wp2
        go_round
        case rel => exact ⟨i + 1, by omega, by go_num, HE2.out⟩
        case measure => simp [intOf]; omega
    · obtain rfl : i = n := by omega
      go_wp2
      go_ret
      exact ⟨⟨_, rfl, .inl ⟨rfl, fun j => by
        by_cases h : j < i
        · exact HE.out j h
        · exact getD_outB (by rw [HN.out]; omega)⟩⟩, rfl⟩
def HasT (D : List Bool) : Prop := ∃ j, D.getD j false = true
theorem contains_any (v : Value) (D : List Bool) (w : World) (hv : IsBls w v D) : Calls Try.prog 20 #[v, .bool true] w fun e w' => ∃ o : Bool, e = .returned (.bool o) ∧ (o = true ↔ HasT D) ∧ w = w' := by
  have hix := index_any v D w hv
  obtain ⟨a, cap, rfl, hcap, hmax⟩ := hv.slice
  clear hv
  go_enter Try.func20, Try.ntmps20
  go_wp2_with fail
  refine hix.mono ?_
  rintro e w1 ⟨⟨r, rfl, hr⟩, rfl⟩
  clear hix
  rcases hr with ⟨rfl, hr⟩ | ⟨i, rfl, h1, h2, h3⟩
  · have HR := Lib.hid hr
    clear hr
    go_wp2
    go_ret
    exact ⟨false, rfl, ⟨fun h => (by cases h), fun ⟨j, hj⟩ => by rw [HR.out j] at hj; cases hj⟩, rfl⟩
  · have H2 : Hid (HasT D) := Lib.hid ⟨i, h2⟩
    have hge : (0 : Int) ≤ (i : Int) := by omega
    clear h1 h2 h3
    go_wp2
    go_ret
    exact ⟨true, rfl, ⟨fun _ => H2.out, fun _ => rfl⟩, rfl⟩
/-! rows of byte strings copied -/
/-- byte strings of which a row may tell, as the slice src tells them -/
def ElemRows (base : Nat) (w : World) (src : Value) (M : List (List Nat)) : Prop :=
  (src = .slice none 0 0 ∧ M = []) ∨ ∃ (a : Addr) (cap : Nat) (Vs : List Value), src = .slice (some a) M.length cap ∧ M.length ≤ cap ∧ cap ≤ maxLen ∧ Vs.length = M.length ∧ (∀ (i : Nat) (u : Value), Vs[i]? = some u → w.cell? (a.add i) = some u) ∧ (∀ u ∈ Vs, u.oneCell' = true) ∧ ∀ (i : Nat) (u : Value) (B : List Nat), Vs[i]? = some u → M[i]? = some B → Elem base w u B
theorem isBytes_one {w : World} {u : Value} {B : List Nat} (h : IsBytes w u B) : u.oneCell' = true := by
  obtain ⟨_, cap, rfl, _⟩ := h.slice; rfl
theorem elemRows_own {base : Nat} {w : World} {v : Value} {L : List (List Nat)} (h : OwnRows base w v L) : ElemRows base w v L := by
  have hr := h.isRows
  obtain ⟨Vs, h1, h2⟩ := h
  have hVl : Vs.length = L.length := by have := h1.1; omega
  obtain ⟨hl, ⟨rfl, h0⟩ | ⟨g, cap, cur, rfl, hb, hh, hn, hm, hs, ht⟩⟩ := h1
  · exact .inl ⟨rfl, List.eq_nil_of_length_eq_zero h0⟩
  · refine .inr ⟨⟨g, 0, none⟩, cap, Vs, rfl, hn, hm, hVl, fun i u hu => ?_, fun u hu => ?_, h2⟩
    · have hi := (List.getElem?_eq_some_iff.1 hu).1
      rw [addr_add]
      rw [← ht, List.getElem?_take_of_lt (by omega)] at hu
      simp [World.cell?, hh]
      simpa using hu
    · obtain ⟨i, hi, rfl⟩ := List.getElem_of_mem hu
      exact isBytes_one (h2 i _ _ (List.getElem?_eq_getElem hi) (List.getElem?_eq_getElem (by omega))).1
theorem elemRows_old {w0 w : World} {v : Value} {L : List (List Nat)} (h : IsRows w0 v L) (hnil : ∀ n c, v = .slice none n c → c = 0) (hb : Below w0.heap.size w0 w) : ElemRows w0.heap.size w v L := by
  obtain ⟨a, cap, Vs, rfl, h1, h2, h3, h4, h5⟩ := h
  cases a with
  | none =>
    have hc := hnil _ _ rfl
    have hL : L = [] := List.eq_nil_of_length_eq_zero (by omega)
    subst hL
    exact .inl ⟨by rw [hc]; rfl, rfl⟩
  | some ad =>
    refine .inr ⟨ad, cap, Vs, rfl, h1, h2, h3, fun i u hu => ?_, fun u hu => ?_, fun i u B hu hB => elem_old (h5 i u B hu hB) hb⟩
    · obtain ⟨ad2, he, hc⟩ := h4 i u hu
      cases he
      exact (hb.cell (p := ad.add i) (World.block_lt_of_cell? w0 _ hc)).trans hc
    · obtain ⟨i, hi, rfl⟩ := List.getElem_of_mem hu
      exact isBytes_one (h5 i _ _ (List.getElem?_eq_getElem hi) (List.getElem?_eq_getElem (by omega)))
theorem ElemRows.below {base : Nat} {w w' : World} {v : Value} {M : List (List Nat)} (h : ElemRows base w v M) (hb : Below w.heap.size w w') : ElemRows base w' v M := by
  obtain h | ⟨a, cap, Vs, rfl, h1, h2, h3, h4, h5, h6⟩ := h
  · exact .inl h
  · exact .inr ⟨a, cap, Vs, rfl, h1, h2, h3, fun i u hu => (hb.cell (p := a.add i) (World.block_lt_of_cell? w _ (h4 i u hu))).trans (h4 i u hu), h5, fun i u B hu hB => (h6 i u B hu hB).below hb⟩
theorem ElemRows.up {base base' : Nat} {w : World} {v : Value} {M : List (List Nat)} (h : ElemRows base w v M) (hb : base ≤ base') : ElemRows base' w v M := by
  obtain h | ⟨a, cap, Vs, rfl, h1, h2, h3, h4, h5, h6⟩ := h
  · exact .inl h
  · exact .inr ⟨a, cap, Vs, rfl, h1, h2, h3, h4, h5, fun i u B hu hB => ⟨(h6 i u B hu hB).1, fun a n c hv h0 => ((h6 i u B hu hB).2 a n c hv h0).imp (fun h => by omega) id⟩⟩
theorem elem_up {base base' : Nat} {w : World} {v : Value} {B : List Nat} (h : Elem base w v B) (hb : base ≤ base') : Elem base' w v B := ⟨h.1, fun a n c hv h0 => (h.2 a n c hv h0).imp (fun h => by omega) id⟩
theorem ownRows_up {base base' : Nat} {w : World} {v : Value} {M : List (List Nat)} (h : OwnRows base w v M) (hv : ∀ g, v.ownBlock = some g → base' ≤ g) (hb : base ≤ base') : OwnRows base' w v M := by
  obtain ⟨Vs, h1, h2⟩ := h
  refine ⟨Vs, ?_, fun i u B hu hB => elem_up (h2 i u B hu hB) hb⟩
  obtain ⟨hl, h0 | ⟨g, cap, cur, rfl, hbb, hrest⟩⟩ := h1
  · exact ⟨hl, .inl h0⟩
  · exact ⟨hl, .inr ⟨g, cap, cur, rfl, hv g rfl, hrest⟩⟩
/-- append(own, l...) of byte strings -/
theorem wpList_append_rows {w : World} {ops : Array Oper} {rest : List Oper} {o : Oper} {a : Act} {Q : Exit → Act → World → Prop} (hgd : o.guard = none) (s x : Operand)
    (ho : o.op = .call { callee := .builtin .append, args := #[s, x], argTypes := #[22, 22] })
    (base : Nat) (v : Value) (L : List (List Nat)) (hs : a.eval s = v) (hown : OwnRows base w v L)
    (src : Value) (M : List (List Nat)) (hx : a.eval x = src) (hsrc : ElemRows base w src M)
    (hbytes : L.length + M.length ≤ 4294967296) (hbase : base ≤ w.heap.size)
    (h : ∀ v' w', OwnRows base w' v' (L ++ M) → w.grownBy w' v.ownBlock → wpList Try.prog ops Q rest (a.put o.dst v') w') :
    wpList Try.prog ops Q (o :: rest) a w := by
  obtain ⟨i0, hi, hz0, hz1, hz2⟩ := info_parts infoR
  obtain ⟨rfl, rfl⟩ | ⟨ad, cap, Ws, rfl, h1, h2, h3, h4, h5, h6⟩ := hsrc
  · obtain ⟨Vs, o1, o2⟩ := hown
    refine wpList_append_own_none hgd s x _ ho base 23 i0 1 Try.underlying22 hi v L.length Vs hs o1 hx ?_
    exact h v w ⟨Vs, by simpa using o1, by simpa using o2⟩ (grownBy_refl _ _)
  · obtain ⟨Vs, o1, o2⟩ := hown
    have hVl : Vs.length = L.length := by have := o1.1; omega
    refine wpList_append_own w hgd s x _ ho base 23 i0 (.slice none 0 0) 1 24 Try.underlying22 hi hz0 hz1 hz2 rfl (by decide) v L.length Vs hs o1 ad M.length cap Ws hx (by rw [h3, Nat.mul_one]) h4 h5 (by unfold maxLen; omega) (by omega) hbase fun v' w' h7 h8 _ => h v' w' ?_ h8
    refine ⟨Vs ++ Ws, by rw [List.length_append]; exact h7, fun i u B hu hB => ?_⟩
    by_cases hi : i < L.length
    · rw [List.getElem?_append_left (by omega)] at hu hB
      exact (o2 i u B hu hB).app o1 h8
    · rw [List.getElem?_append_right (by omega)] at hu hB
      rw [hVl] at hu
      exact (h6 _ u B hu hB).app o1 h8
theorem ownRows_new {base : Nat} (w : World) (hb : base ≤ w.heap.size) : OwnRows base (w.alloc (.cells #[] 23)) (.slice (some ⟨w.heap.size, 0, none⟩) 0 0) [] := ⟨[], own_new w [] 23 hb (by unfold maxLen; simp), by simp⟩
theorem cloneR_any (base : Nat) (v : Value) (L : List (List Nat)) (w : World) (hbs : base ≤ w.heap.size) (hv : ElemRows base w v L) (hl : L.length ≤ 1000000) : Calls Try.prog 21 #[v] w fun e w' => ∃ v', e = .returned v' ∧ OwnRows base w' v' L ∧ Below w.heap.size w w' := by
  have qT : ∀ (w : World) (a : Option Addr) (n c n' c' : Nat), (binOp .eql 22 (.slice a n c) (.slice none n' c')).run Try.prog w = .ok (.bool a.isNone) w := fun w a n c n' c' => Lib.run_eql_slice_nil w 22 23 a n c n' c' Try.underlying22
  have HV := Lib.hid hv
  obtain ⟨rfl, rfl⟩ | ⟨ad, cap, Ws, rfl, _⟩ := hv
  · clear HV
    go_enter Try.func21, Try.ntmps21
    go_wp2
    go_ret
    exact ⟨_, rfl, ownRows_nil _ _, Below.refl _ _⟩
  · have hA : Below w.heap.size w (w.alloc (.cells #[] 23)) := (Below.refl _ _).alloc (Nat.le_refl _) _
    have HA := Lib.hid hA
    have hsz := hA.size
    have HO := Lib.hid (ownRows_new w hbs)
    have hbs2 : base ≤ (w.alloc (.cells #[] 23)).heap.size := by simp; omega
    have HV1 := Lib.hid (HV.out.below hA)
    clear hA HV
    go_enter Try.func21, Try.ntmps21
    go_wp2_with (at_builtin; refine wpList_append_rows rfl (.tmp 5) (.tmp 6) rfl base _ [] rfl HO.out _ L rfl HV1.out (by simp; omega) hbs2 ?_; intro v' w1 hown hgr)
    go_ret
    exact ⟨v', rfl, by simpa using hown, HA.out.grown hgr hsz (by intro k hk; have hk' : some w.heap.size = some k := hk; simp at hk'; omega)⟩
/-- one of them is put in another one's place -/
theorem OwnRows.put {base : Nat} {w : World} {g n cap : Nat} {L : List (List Nat)} (h : OwnRows base w (.slice (some ⟨g, 0, none⟩) n cap) L) {i : Nat} (hi : i < L.length) {u : Value} {B : List Nat} (hB : Elem base w u B) : OwnRows base (w.setCell ⟨g, i, none⟩ u) (.slice (some ⟨g, 0, none⟩) n cap) (L.set i B) := by
  obtain ⟨Vs, h1, h2⟩ := h
  have hVl : Vs.length = L.length := by have := h1.1; omega
  have hL : L.length = n := by
    obtain ⟨_, _, he, _, _⟩ := ownsRow_slice h1
    simp at he; exact he.2.1.symm
  rw [hL] at h1
  have h3 := World.ownsRow.stored h1 i u
  refine ⟨Vs.set i u, by rw [List.length_set, hL]; exact h3.1, fun j x C hx hC => ?_⟩
  have hgr : w.grownBy (w.setCell ⟨g, i, none⟩ u) (Value.slice (some ⟨g, 0, none⟩) n cap).ownBlock := h3.2
  by_cases hj : j = i
  · subst hj
    rw [List.getElem?_set_self (by omega)] at hx
    rw [List.getElem?_set_self hi] at hC
    simp at hx hC
    subst hx hC
    exact hB.app h1 hgr
  · rw [List.getElem?_set_ne (Ne.symm hj)] at hx hC
    exact (h2 j x C hx hC).app h1 hgr
theorem OwnRows.open {base : Nat} {w : World} {v : Value} {L : List (List Nat)} (h : OwnRows base w v L) (h0 : 0 < L.length) : ∃ g cap, v = .slice (some ⟨g, 0, none⟩) L.length cap ∧ base ≤ g ∧ g < w.heap.size ∧ L.length ≤ cap ∧ ∀ i, i < L.length → ∃ u, w.cell? ⟨g, i, none⟩ = some u ∧ u.oneCell' = true ∧ w.frozen? ⟨g, i, none⟩ = false := by
  obtain ⟨Vs, h1, h2⟩ := h
  obtain ⟨g, cap, rfl, hb, hlt, hc, _⟩ := own_open h1 h0
  have hVl : Vs.length = L.length := by have := h1.1; omega
  refine ⟨g, cap, rfl, hb, hlt, hc, fun i hi => ⟨Vs[i]'(by omega), ?_, ?_, World.ownsRow.frozenAt h1 i⟩⟩
  · rw [h1.cellAt i (by omega)]; exact List.getElem?_eq_getElem (by omega)
  · exact isBytes_one (h2 i _ _ (List.getElem?_eq_getElem (by omega)) (List.getElem?_eq_getElem hi)).1
/-- a block of another kind has been written to -/
theorem OwnRows.setOther {base : Nat} {w : World} {v : Value} {L : List (List Nat)} (h : OwnRows base w v L) {b : Nat} {t : TypeId} {cs : List Value} (hb : Blk w b t cs) (h1 : t ≠ 5) (h2 : t ≠ 23) (hbase : base ≤ b) (o : Nat) (x : Value) : OwnRows base (w.setCell ⟨b, o, none⟩ x) v L := by
  obtain ⟨Vs, o1, o2⟩ := h
  have hg : Gr w (w.setCell ⟨b, o, none⟩ x) b := (Gr.refl w b).setCell o x
  refine ⟨Vs, own_gr o1 hg hb h2, fun i u B hu hB => ?_⟩
  have he := o2 i u B hu hB
  have hne : ∀ a n c, u = .slice (some a) n c → 0 < B.length → some a.block ≠ some b := fun a n c hv h0 e => by
    simp at e
    rcases he.2 a n c hv h0 with h' | ⟨cs2, hc⟩
    · omega
    · rw [e] at hc
      exact h1 (blk_ty hb hc)
  refine ⟨he.1.row hg hne, fun a n c hv h0 => (he.2 a n c hv h0).imp id fun ⟨cs2, hc⟩ => ⟨cs2, hc.grown hg (hne a n c hv h0)⟩⟩
/-- a row of bools rows that is known by its block -/
theorem isBRows_blk {w : World} {g n : Nat} {Vs : List Value} {E : List (List Bool)} (h : Blk w g 28 Vs) (hV : Vs.length = n) (hE : E.length = n) (hn : n ≤ maxLen) (hc : ∀ (i : Nat) (u : Value) (D : List Bool), Vs[i]? = some u → E[i]? = some D → IsBls w u D) : IsBRows w (.slice (some ⟨g, 0, none⟩) n n) E :=
  ⟨some ⟨g, 0, none⟩, n, Vs, by rw [hE], by omega, hn, by rw [hV, hE], fun i u hu => ⟨_, rfl, by rw [addr_add, Nat.zero_add]; exact h.cell hu⟩, hc⟩
theorem isBls_blk {w : World} {g n : Nat} {D : List Bool} (h : Blk w g 4 (bls D)) (hD : D.length = n) (hn : n ≤ maxLen) : IsBls w (.slice (some ⟨g, 0, none⟩) n n) D :=
  .inr ⟨⟨g, 0, none⟩, n, by rw [hD], by omega, hn, fun i u hu => by rw [addr_add, Nat.zero_add]; exact h.cell hu⟩
theorem and_low (n : Nat) (h : n < 4294967296) : bits BinOp.and IntKind.u64 (n : Int) 4294967295 = (n : Int) := by
  have := u64_and (n : Int) 4294967295 (by omega) (by omega) (by omega) (by omega)
  rw [this]
  have e : (4294967295 : Int).toNat = 2 ^ 32 - 1 := by decide
  rw [e, Int.toNat_natCast, Nat.and_two_pow_sub_one_eq_mod]
  omega
set_option maxHeartbeats 1000000 in
theorem mul64_one (n : Nat) (w : World) (hn : n < 4294967296) : Calls Try.prog 32 #[.int .u64 1, .int .u64 n] w fun e w' => e = .returned (.tuple #[.int .u64 0, .int .u64 n]) ∧ w = w' := by
  have h1 := and_low n hn
  have h2 : (n : Int) / 4294967296 = 0 := by omega
  have h3 : bits BinOp.and IntKind.u64 1 4294967295 = 1 := by decide +kernel
  have h4 : bits BinOp.and IntKind.u64 0 4294967295 = 0 := by decide +kernel
  have h5 : IntKind.u64.wrap (n : Int) = (n : Int) := by rw [IntKind.wrap_u64]; omega
  go_enter Try.func32, Try.ntmps32
  go_wp2
  go_ret2
  exact ⟨rfl, rfl⟩
set_option maxHeartbeats 1000000 in
theorem mul_one_any (n : Nat) (w : World) (hn : n < 4294967296) : Calls Try.prog 29 #[.int .u64 1, .int .u64 n] w fun e w' => e = .returned (.tuple #[.int .u64 0, .int .u64 n]) ∧ w = w' := by
  have hm := mul64_one n w hn
  go_enter Try.func29, Try.ntmps29
  go_wp2_with fail
  refine hm.mono ?_
  rintro e w' ⟨rfl, rfl⟩
  go_wp2
  go_ret2
  exact ⟨rfl, rfl⟩
namespace Pl
/-- the first c of n cells are laid -/
def repL (x : Bool) (n c : Nat) : List Bool := List.replicate c x ++ List.replicate (n - c) false
theorem repL_length (x : Bool) {n c : Nat} (h : c ≤ n) : (repL x n c).length = n := by simp [repL]; omega
theorem repL_all (x : Bool) (n : Nat) : repL x n n = List.replicate n x := by simp [repL]
theorem repL_get (x : Bool) {n c i : Nat} (h : i < c) : (repL x n c)[i]? = some x := by
  unfold repL
  rw [List.getElem?_append_left (by simpa using h)]
  simp [h]
theorem repL_splice (x : Bool) {n c d : Nat} (h : c + d ≤ n) : splice (bls (repL x n c)) c (bls (List.replicate d x)) = bls (repL x n (c + d)) := by
  apply List.ext_getElem?
  intro i
  have hl : (bls (repL x n c)).length = n := by rw [bls_length, repL_length x (by omega)]
  rw [splice_get _ _ _ (by rw [hl, bls_length, List.length_replicate]; exact h)]
  simp only [bls_length, List.length_replicate]
  simp only [bls, List.getElem?_map]
  split
  · rw [repL_get x (by omega), repL_get x (by omega)]
  · split
    · rw [repL_get x (by omega), List.getElem?_replicate, if_pos (by omega)]
    · unfold repL
      rw [List.getElem?_append_right (by simp; omega), List.getElem?_append_right (by simp; omega)]
      simp only [List.length_replicate, List.getElem?_replicate]
      congr 1
      by_cases hi : i < n
      · rw [if_pos (by omega), if_pos (by omega)]
      · rw [if_neg (by omega), if_neg (by omega)]
end Pl
def RepPost (x : Bool) (n : Nat) (w : World) (e : Ending) (w' : World) : Prop :=
  e = .returned (.slice (some ⟨w.heap.size, 0, none⟩) n n) ∧ Blk w' w.heap.size 4 (bls (List.replicate n x)) ∧ Below w.heap.size w w'
theorem copy_first (x : Bool) (n g b : Nat) (W : World) (hg : Blk W g 4 (bls (repL x n 0))) (hb : Blk W b 4 [.bool x]) :
    ∃ W', (Builtin.copy_ #[28, 28] 3 #[.slice (some ⟨g, 0, none⟩) n n, .slice (some ⟨b, 0, none⟩) 1 1]).run Try.prog W = .ok (.int .i64 (Nat.min 1 n : Nat)) W' ∧ Blk W' g 4 (bls (repL x n (Nat.min 1 n))) ∧ Below g W W' := by
  by_cases h0 : n = 0
  · subst h0
    exact ⟨W, run_copy_none W _ _ _ 4 _ _ _ _ _ _ Try.underlying28 sizeB rfl, hg, Below.refl _ _⟩
  · have hm : Nat.min 1 n = 1 := Nat.min_eq_left (by omega)
    rw [hm]
    have hl : (bls (repL x n 0)).length = n := by rw [bls_length, repL_length x (Nat.zero_le _)]
    have hrun := run_copy_row (P := Try.prog) W 28 28 3 4 g 0 n n ⟨b, 0, none⟩ 1 1 (bls (repL x n 0)).toArray 4 (bls (List.replicate 1 x)) Try.underlying28 sizeB hg (by rw [hm]; rfl) (fun j v hj => by
      have hj2 := (List.getElem?_eq_some_iff.1 hj).1
      rw [bls_length, List.length_replicate] at hj2
      obtain rfl : j = 0 := by omega
      rw [addr_add]
      exact hb.cell hj) (by rw [List.size_toArray, hl, bls_length, List.length_replicate]; omega) (bls_one _)
    refine ⟨W.setRow g (splice (bls (repL x n 0)) 0 (bls (List.replicate 1 x))).toArray, hrun, ?_, below_setRow (Below.refl _ _) (Nat.le_refl _) _⟩
    unfold Blk
    rw [setRow_heap W g (bls (repL x n 0)).toArray _ 4 _ hg, repL_splice x (by omega)]
set_option maxHeartbeats 4000000 in
theorem repeat_any (x : Bool) (b n : Nat) (w : World) (hb : Blk w b 4 [.bool x]) (hn : n ≤ 1000000) :
    Calls Try.prog 22 #[.slice (some ⟨b, 0, none⟩) 1 1, .int .i64 n] w (RepPost x n w) := by
  have hm := mul_one_any n w (by omega)
  have hw1 : IntKind.u64.wrap (n : Int) = (n : Int) := by rw [IntKind.wrap_u64]; omega
  have hw2 : IntKind.i64.wrap (n : Int) = (n : Int) := by first | (rw [IntKind.wrap_i64]; omega) | (unfold IntKind.wrap; simp [IntKind.signed, IntKind.bits]; omega)
  have hblt := hb.lt
  have HBx := Lib.hid hb
  clear hb
  obtain ⟨i0, hi, hz0, hz1, hz2⟩ := infoB_parts infoB
  have Hi := Lib.hid hi
  have Hz0 := Lib.hid hz0
  have Hz1 := Lib.hid hz1
  have Hz2 := Lib.hid hz2
  clear hi hz0 hz1 hz2
  go_enter Try.func22, Try.ntmps22
  go_wp2_with fail
  refine hm.mono ?_
  rintro e w' ⟨rfl, rfl⟩
  clear hm
  have HC : Hid (∀ W, W.ownsRow w.heap.size 4 1 (.slice (some ⟨w.heap.size, 0, none⟩) n n) n (madeCells (Value.bool false).cells (n * 1)).toList → w.grownBy W none → ∃ W', (Builtin.copy_ #[28, 28] 3 #[.slice (some ⟨w.heap.size, 0, none⟩) n n, .slice (some ⟨b, 0, none⟩) 1 1]).run Try.prog W = .ok (.int .i64 (Nat.min 1 n : Nat)) W' ∧ Blk W' w.heap.size 4 (bls (repL x n (Nat.min 1 n))) ∧ Below w.heap.size w W') := Lib.hid fun W h hg => by
    have h1 := made_blk h
    rw [made_bls] at h1
    obtain ⟨W', r1, r2, r3⟩ := copy_first x n w.heap.size b W h1 (Blk.grown HBx.out hg (by simp))
    exact ⟨W', r1, r2, Below.trans ((Below.refl _ _).grown hg (Nat.le_refl _) (by simp)) r3⟩
  have hmin : Nat.min 1 n ≤ n := Nat.min_le_right _ _
  have hmin2 : n = 0 ∨ 1 ≤ Nat.min 1 n := by
    by_cases h0 : n = 0
    · exact .inl h0
    · exact .inr (Nat.le_min.2 ⟨Nat.le_refl _, by omega⟩)
  generalize Nat.min 1 n = k0 at *
  go_wp2_with (at_make; refine wpList_make_full _ rfl _ _ 28 rfl w.heap.size 4 i0 (.bool false) 1 Try.underlying28 Hi.out Hz0.out Hz1.out .i64 .i64 _ _ n rfl rfl (by first | rfl | (simp; done) | omega) (by first | rfl | (simp; done) | omega) (by rw [Hz2.out]; omega) (by unfold maxLen; omega) (Nat.le_refl _) ?_; intro w1 hown hgr; obtain ⟨w2, hcp, hb2, hbel2⟩ := HC.out w1 hown hgr)
  have HB2 := Lib.hid hb2
  have HBEL2 := Lib.hid hbel2
  clear hcp hb2 hbel2 hown hgr HC
  go_loopw [8] (fun y wr => ∃ c : Nat, c ≤ n ∧ (n = 0 ∨ 1 ≤ c) ∧ y = .int .i64 c ∧ Blk wr w.heap.size 4 (bls (repL x n c)) ∧ Below w.heap.size w wr) (fun y _ => n - (intOf y).toNat)
  case atStart => exact ⟨k0, hmin, hmin2, rfl, HB2.out, HBEL2.out⟩
  case round =>
    obtain ⟨c, hc, hc1, rfl, hb, hbel⟩ := hrel
    have HB := Lib.hid hb
    have HBEL := Lib.hid hbel
    clear hb hbel HB2 HBEL2
    by_cases hlt : c < n
    · have s1 := fun W => run_fromBl (g := w.heap.size) (n := n) (cap := n) c (by omega) hlt (Nat.le_refl _) W
      have s2 := fun W => run_uptoBl (g := w.heap.size) (n := n) (cap := n) c (by omega) (Nat.le_refl _) W
      obtain ⟨d, hd⟩ : ∃ d, Nat.min c (n - c) = d := ⟨_, rfl⟩
      have hd1 : d ≤ n - c := by rw [← hd]; exact Nat.min_le_right _ _
      have hd2 : 1 ≤ d := by rw [← hd]; exact Nat.le_min.2 ⟨by omega, by omega⟩
      have hd3 : d ≤ c := by rw [← hd]; exact Nat.min_le_left _ _
      have F1 : Hid ((bls (List.replicate d x)).length = Nat.min c (n - c)) := Lib.hid (by rw [bls_length, List.length_replicate, hd])
      have F2 : CSrc wr (bls (List.replicate d x)) (some ⟨w.heap.size, c, none⟩) w.heap.size c (some ⟨w.heap.size, 0, none⟩) := fun _ => ⟨rfl, _, rfl, fun j v hj => by
        have hj2 := (List.getElem?_eq_some_iff.1 hj).1
        rw [bls_length, List.length_replicate] at hj2
        rw [addr_add, Nat.zero_add]
        refine HB.out.cell ?_
        rw [← hj]
        simp only [bls, List.getElem?_map]
        rw [repL_get x (by omega), List.getElem?_replicate, if_pos hj2]⟩
      have F3 : Hid (c + (bls (List.replicate d x)).length ≤ (bls (repL x n c)).length) := Lib.hid (by rw [bls_length, bls_length, List.length_replicate, repL_length x hc]; omega)
      have F4 : Hid (∀ v ∈ bls (List.replicate d x), v.oneCell' = true) := Lib.hid (bls_one _)
      have F5 : Hid ((bls (List.replicate d x)).length = d) := Lib.hid (by rw [bls_length, List.length_replicate])
      clear hd
      go_wp2_with fail
      go_region_law (refine step_copy_splice rfl (.tmp 41) (.tmp 44) 28 28 rfl 4 Try.underlying28 sizeB (some ⟨w.heap.size, c, none⟩) (some ⟨w.heap.size, 0, none⟩) (n - c) (n - c) c n (by simp [Act.eval, Act.put]) (by simp [Act.eval, Act.put]) w.heap.size c _ 4 HB.out (bls (List.replicate d x)) F1.out F2 F3.out F4.out w.heap.size w HBEL.out.drew (Nat.le_refl _) ?_; intro w2 hG2 hB2)
      have HW : Hid (Blk w2 w.heap.size 4 (bls (repL x n (c + d)))) := Lib.hid (by
        have := hG2.out
        rw [repL_splice x (by omega)] at this
        exact this)
      have HF := Lib.hid hB2
      rw [F5.out]
      have hdc : (c : Int) + (d : Int) ≤ 1000000 := by omega
      clear F1 F2 F3 F4 F5 hG2 hB2 s1 s2
      go_wp2_with fail
      have hwr : IntKind.i64.wrap ((c : Int) + (d : Int)) = ((c + d : Nat) : Int) := by first | (rw [IntKind.wrap_i64]; omega) | (unfold IntKind.wrap; simp [IntKind.signed, IntKind.bits]; omega)
      simp [Act.put]
      rw [hwr]
      refine ⟨⟨c + d, by omega, by omega, rfl, HW.out, HF.out⟩, ?_⟩
      simp [intOf]; omega
    · obtain rfl : c = n := by omega
      go_wp2_with fail
      go_ret
      rw [repL_all] at HB
      exact ⟨rfl, HB.out, HBEL.out⟩
end Go.Proofs.Ytacgaflhcmflbaa

/- An index: add, isNews, Get, Len, Count, Held: contracts. -/
import Derived.Test.YthgpdnffahmhjaaIxB
set_option linter.unusedSimpArgs false
set_option linter.unusedVariables false
set_option linter.unusedSectionVars false
set_option maxRecDepth 100000
namespace Go.Proofs.Ythgpdnffahmhjaa.S20
open Go.RowKit Go.Maps Go.Shelf
abbrev pI (p : Nat) : Value := .pointer (some ⟨p, 0, none⟩)
theorem wf_small {c : Int} (h : -1000000000 ≤ c ∧ c ≤ 1000000000) : (Lit.int .i64 c).wf = true := WalkArith.wf_i64 (by omega)
set_option maxHeartbeats 4000000 in
theorem add3u (l : IL) (S : IX) (N : Nat) (a : Int) (w : World) (h : IsIX w l S N) (hN : N ≤ 100000000) (ha : (Lit.int .i64 a).wf = true) :
    Calls Try.prog 26 #[.pointer (some ⟨l.p, 2, none⟩), .int .i64 a, .int .i64 1] w fun e w' => e = .returned (.tuple #[]) ∧ Gone w l { S with cnt := cadd S.cnt a 1 } (N + 1) w' := by
  have c0 : w.cell? ⟨l.p, 2, none⟩ = some (.map l.m3) := h.blk.cell rfl
  obtain ⟨n, hn, hm⟩ := h.cnt
  have hlk := hm.look lawI Try.underlying48 (zeroI w) (key_int ha)
  rw [vcnt_get] at hlk
  obtain ⟨c, hc⟩ : ∃ c, S.cnt a = c := ⟨_, rfl⟩
  have hbc := h.bc a
  rw [hc] at hlk hbc
  have hbc' : -100000000 ≤ c ∧ c ≤ 100000000 := by omega
  have hcb : ∀ x, -((N + 1 : Nat) : Int) ≤ cadd S.cnt a 1 x ∧ cadd S.cnt a 1 x ≤ ((N + 1 : Nat) : Int) := by
    intro x
    have h1 := h.bc x
    have h2 := h.bc a
    unfold cadd
    split <;> omega
  by_cases hz : c + 1 = 0
  · obtain ⟨w', hd, hm', hg⟩ := MF.del ilit_inj hm lawI (t := 48) Try.underlying48 (key_int ha)
    rw [vcnt_del _ _ 1 (by rw [hc]; exact hz)] at hm'
    obtain ⟨h', hs⟩ := IsIX.cut3 (N := N + 1) _ (h.more (Nat.le_succ N)) hm' (Nat.le_trans (ndel_le _ _ _) (by omega)) hcb hg
    have HH := Lib.hid h'
    have HS := Lib.hid hs
    have q1 : (c + 1 == 0) = true := by simp [hz]
    have hcv : c = -1 := by omega
    subst hcv
    clear hm hm' h' hs hg h hcb hc
    go_enter Try.func26, Try.ntmps26
    go_wp2_with fail
    refine bodyPost_ret (results_none rfl _ _ _) rfl ?_
    exact ⟨rfl, l, rfl, HH, HS⟩
  · have hst := set_int l.p 2 l.cs l.m3 n _ a (c + 1) w h.blk rfl hm (by omega) ha
    have HF := Lib.hid (vcnt_put S.cnt a 1 (by rw [hc]; exact hz))
    rw [hc] at HF
    have HI := Lib.hid h
    have HCB := Lib.hid hcb
    have HN := Lib.hid hn
    have q1 : (c + 1 == 0) = false := beq_f hz
    have q2 : IntKind.i64.wrap (c + 1) = c + 1 := by rw [IntKind.wrap_i64]; omega
    clear hm h hcb hn hc
    go_enter Try.func26, Try.ntmps26
    go_wp2_with fail
    refine hst.mono ?_
    rintro e w' ⟨rfl, b, hb, hk, hm, hs⟩
    clear hst
    go_wp2_with fail
    go_end0
    refine ⟨rfl, IsIX.slot3 _ HI.out hb hk.out (by have := hm.out; rw [HF.out] at this; exact this) (Nat.le_trans (nput_le _ _ _) (by have := HN.out; omega)) HCB.out hs.out⟩
set_option maxHeartbeats 4000000 in
theorem add3d (l : IL) (S : IX) (N : Nat) (a : Int) (w : World) (h : IsIX w l S N) (hN : N ≤ 100000000) (ha : (Lit.int .i64 a).wf = true) :
    Calls Try.prog 26 #[.pointer (some ⟨l.p, 2, none⟩), .int .i64 a, .int .i64 (-1)] w fun e w' => e = .returned (.tuple #[]) ∧ Gone w l { S with cnt := cadd S.cnt a (-1) } (N + 1) w' := by
  have c0 : w.cell? ⟨l.p, 2, none⟩ = some (.map l.m3) := h.blk.cell rfl
  obtain ⟨n, hn, hm⟩ := h.cnt
  have hlk := hm.look lawI Try.underlying48 (zeroI w) (key_int ha)
  rw [vcnt_get] at hlk
  obtain ⟨c, hc⟩ : ∃ c, S.cnt a = c := ⟨_, rfl⟩
  have hbc := h.bc a
  rw [hc] at hlk hbc
  have hbc' : -100000000 ≤ c ∧ c ≤ 100000000 := by omega
  have hcb : ∀ x, -((N + 1 : Nat) : Int) ≤ cadd S.cnt a (-1) x ∧ cadd S.cnt a (-1) x ≤ ((N + 1 : Nat) : Int) := by
    intro x
    have h1 := h.bc x
    have h2 := h.bc a
    unfold cadd
    split <;> omega
  by_cases hz : c + (-1) = 0
  · obtain ⟨w', hd, hm', hg⟩ := MF.del ilit_inj hm lawI (t := 48) Try.underlying48 (key_int ha)
    rw [vcnt_del _ _ (-1) (by rw [hc]; exact hz)] at hm'
    obtain ⟨h', hs⟩ := IsIX.cut3 (N := N + 1) _ (h.more (Nat.le_succ N)) hm' (Nat.le_trans (ndel_le _ _ _) (by omega)) hcb hg
    have HH := Lib.hid h'
    have HS := Lib.hid hs
    have q1 : (c + (-1) == 0) = true := by simp [hz]
    have hcv : c = -(-1) := by omega
    subst hcv
    clear hm hm' h' hs hg h hcb hc
    go_enter Try.func26, Try.ntmps26
    go_wp2_with fail
    refine bodyPost_ret (results_none rfl _ _ _) rfl ?_
    exact ⟨rfl, l, rfl, HH, HS⟩
  · have hst := set_int l.p 2 l.cs l.m3 n _ a (c + (-1)) w h.blk rfl hm (by omega) ha
    have HF := Lib.hid (vcnt_put S.cnt a (-1) (by rw [hc]; exact hz))
    rw [hc] at HF
    have HI := Lib.hid h
    have HCB := Lib.hid hcb
    have HN := Lib.hid hn
    have q1 : (c + (-1) == 0) = false := beq_f hz
    have q2 : IntKind.i64.wrap (c + (-1)) = c + (-1) := by rw [IntKind.wrap_i64]; omega
    clear hm h hcb hn hc
    go_enter Try.func26, Try.ntmps26
    go_wp2_with fail
    refine hst.mono ?_
    rintro e w' ⟨rfl, b, hb, hk, hm, hs⟩
    clear hst
    go_wp2_with fail
    go_end0
    refine ⟨rfl, IsIX.slot3 _ HI.out hb hk.out (by have := hm.out; rw [HF.out] at this; exact this) (Nat.le_trans (nput_le _ _ _) (by have := HN.out; omega)) HCB.out hs.out⟩
set_option maxHeartbeats 4000000 in
theorem add4u (l : IL) (S : IX) (N : Nat) (a : Int) (w : World) (h : IsIX w l S N) (hN : N ≤ 100000000) (ha : (Lit.int .i64 a).wf = true) :
    Calls Try.prog 26 #[.pointer (some ⟨l.p, 3, none⟩), .int .i64 a, .int .i64 1] w fun e w' => e = .returned (.tuple #[]) ∧ Gone w l { S with rd := cadd S.rd a 1 } (N + 1) w' := by
  have c0 : w.cell? ⟨l.p, 3, none⟩ = some (.map l.m4) := h.blk.cell rfl
  obtain ⟨n, hn, hm⟩ := h.rd
  have hlk := hm.look lawI Try.underlying48 (zeroI w) (key_int ha)
  rw [vcnt_get] at hlk
  obtain ⟨c, hc⟩ : ∃ c, S.rd a = c := ⟨_, rfl⟩
  have hbc := h.br a
  rw [hc] at hlk hbc
  have hbc' : -100000000 ≤ c ∧ c ≤ 100000000 := by omega
  have hcb : ∀ x, -((N + 1 : Nat) : Int) ≤ cadd S.rd a 1 x ∧ cadd S.rd a 1 x ≤ ((N + 1 : Nat) : Int) := by
    intro x
    have h1 := h.br x
    have h2 := h.br a
    unfold cadd
    split <;> omega
  by_cases hz : c + 1 = 0
  · obtain ⟨w', hd, hm', hg⟩ := MF.del ilit_inj hm lawI (t := 48) Try.underlying48 (key_int ha)
    rw [vcnt_del _ _ 1 (by rw [hc]; exact hz)] at hm'
    obtain ⟨h', hs⟩ := IsIX.cut4 (N := N + 1) _ (h.more (Nat.le_succ N)) hm' (Nat.le_trans (ndel_le _ _ _) (by omega)) hcb hg
    have HH := Lib.hid h'
    have HS := Lib.hid hs
    have q1 : (c + 1 == 0) = true := by simp [hz]
    have hcv : c = -1 := by omega
    subst hcv
    clear hm hm' h' hs hg h hcb hc
    go_enter Try.func26, Try.ntmps26
    go_wp2_with fail
    refine bodyPost_ret (results_none rfl _ _ _) rfl ?_
    exact ⟨rfl, l, rfl, HH, HS⟩
  · have hst := set_int l.p 3 l.cs l.m4 n _ a (c + 1) w h.blk rfl hm (by omega) ha
    have HF := Lib.hid (vcnt_put S.rd a 1 (by rw [hc]; exact hz))
    rw [hc] at HF
    have HI := Lib.hid h
    have HCB := Lib.hid hcb
    have HN := Lib.hid hn
    have q1 : (c + 1 == 0) = false := beq_f hz
    have q2 : IntKind.i64.wrap (c + 1) = c + 1 := by rw [IntKind.wrap_i64]; omega
    clear hm h hcb hn hc
    go_enter Try.func26, Try.ntmps26
    go_wp2_with fail
    refine hst.mono ?_
    rintro e w' ⟨rfl, b, hb, hk, hm, hs⟩
    clear hst
    go_wp2_with fail
    go_end0
    refine ⟨rfl, IsIX.slot4 _ HI.out hb hk.out (by have := hm.out; rw [HF.out] at this; exact this) (Nat.le_trans (nput_le _ _ _) (by have := HN.out; omega)) HCB.out hs.out⟩
set_option maxHeartbeats 4000000 in
theorem add4d (l : IL) (S : IX) (N : Nat) (a : Int) (w : World) (h : IsIX w l S N) (hN : N ≤ 100000000) (ha : (Lit.int .i64 a).wf = true) :
    Calls Try.prog 26 #[.pointer (some ⟨l.p, 3, none⟩), .int .i64 a, .int .i64 (-1)] w fun e w' => e = .returned (.tuple #[]) ∧ Gone w l { S with rd := cadd S.rd a (-1) } (N + 1) w' := by
  have c0 : w.cell? ⟨l.p, 3, none⟩ = some (.map l.m4) := h.blk.cell rfl
  obtain ⟨n, hn, hm⟩ := h.rd
  have hlk := hm.look lawI Try.underlying48 (zeroI w) (key_int ha)
  rw [vcnt_get] at hlk
  obtain ⟨c, hc⟩ : ∃ c, S.rd a = c := ⟨_, rfl⟩
  have hbc := h.br a
  rw [hc] at hlk hbc
  have hbc' : -100000000 ≤ c ∧ c ≤ 100000000 := by omega
  have hcb : ∀ x, -((N + 1 : Nat) : Int) ≤ cadd S.rd a (-1) x ∧ cadd S.rd a (-1) x ≤ ((N + 1 : Nat) : Int) := by
    intro x
    have h1 := h.br x
    have h2 := h.br a
    unfold cadd
    split <;> omega
  by_cases hz : c + (-1) = 0
  · obtain ⟨w', hd, hm', hg⟩ := MF.del ilit_inj hm lawI (t := 48) Try.underlying48 (key_int ha)
    rw [vcnt_del _ _ (-1) (by rw [hc]; exact hz)] at hm'
    obtain ⟨h', hs⟩ := IsIX.cut4 (N := N + 1) _ (h.more (Nat.le_succ N)) hm' (Nat.le_trans (ndel_le _ _ _) (by omega)) hcb hg
    have HH := Lib.hid h'
    have HS := Lib.hid hs
    have q1 : (c + (-1) == 0) = true := by simp [hz]
    have hcv : c = -(-1) := by omega
    subst hcv
    clear hm hm' h' hs hg h hcb hc
    go_enter Try.func26, Try.ntmps26
    go_wp2_with fail
    refine bodyPost_ret (results_none rfl _ _ _) rfl ?_
    exact ⟨rfl, l, rfl, HH, HS⟩
  · have hst := set_int l.p 3 l.cs l.m4 n _ a (c + (-1)) w h.blk rfl hm (by omega) ha
    have HF := Lib.hid (vcnt_put S.rd a (-1) (by rw [hc]; exact hz))
    rw [hc] at HF
    have HI := Lib.hid h
    have HCB := Lib.hid hcb
    have HN := Lib.hid hn
    have q1 : (c + (-1) == 0) = false := beq_f hz
    have q2 : IntKind.i64.wrap (c + (-1)) = c + (-1) := by rw [IntKind.wrap_i64]; omega
    clear hm h hcb hn hc
    go_enter Try.func26, Try.ntmps26
    go_wp2_with fail
    refine hst.mono ?_
    rintro e w' ⟨rfl, b, hb, hk, hm, hs⟩
    clear hst
    go_wp2_with fail
    go_end0
    refine ⟨rfl, IsIX.slot4 _ HI.out hb hk.out (by have := hm.out; rw [HF.out] at this; exact this) (Nat.le_trans (nput_le _ _ _) (by have := HN.out; omega)) HCB.out hs.out⟩
/-- is a number greater than what is remembered? -/
def newsB (S : IX) (k : ByteArray) (q : Int) : Bool := match S.loc k with
  | some l => decide (l.seq < q)
  | none => match S.gone k with
    | some g => decide (g < q)
    | none => true
theorem zcells (w : World) : Blk (w.alloc (.cells #[.int .i64 0, .int .i64 0, .int .i64 0] 30)) w.heap.size 30 [.int .i64 0, .int .i64 0, .int .i64 0] := Blk.new w _ _
theorem look_loc {w : World} {l : IL} {S : IX} {N : Nat} (h : IsIX w l S N) {k : ByteArray} (hk : k.size ≤ maxLen) : (Instr.lookup 46 (.map l.m1) (.string k) true).run Try.prog w = .ok (.tuple #[locV ((S.loc k).getD ⟨0, 0, 0⟩), .bool (S.loc k).isSome]) w := by
  rw [h.loc.look_ok lawS Try.underlying46 (zeroL w) (key_str hk)]
  unfold vloc
  cases S.loc k <;> rfl
theorem look_gone {w : World} {l : IL} {S : IX} {N : Nat} (h : IsIX w l S N) {k : ByteArray} (hk : k.size ≤ maxLen) : (Instr.lookup 47 (.map l.m2) (.string k) true).run Try.prog w = .ok (.tuple #[.int .i64 ((S.gone k).getD 0), .bool (S.gone k).isSome]) w := by
  obtain ⟨n, _, hm⟩ := h.gone
  rw [hm.look_ok lawS Try.underlying47 (zeroI64 w) (key_str hk)]
  unfold vint
  cases S.gone k <;> rfl
theorem look_cnt {w : World} {l : IL} {S : IX} {N : Nat} (h : IsIX w l S N) {k : Int} (hk : (Lit.int .i64 k).wf = true) : (Instr.lookup 48 (.map l.m3) (.int .i64 k) false).run Try.prog w = .ok (.int .i64 (S.cnt k)) w := by
  obtain ⟨n, _, hm⟩ := h.cnt
  rw [hm.look lawI Try.underlying48 (zeroI w) (key_int hk), vcnt_get]
theorem look_rd {w : World} {l : IL} {S : IX} {N : Nat} (h : IsIX w l S N) {k : Int} (hk : (Lit.int .i64 k).wf = true) : (Instr.lookup 48 (.map l.m4) (.int .i64 k) false).run Try.prog w = .ok (.int .i64 (S.rd k)) w := by
  obtain ⟨n, _, hm⟩ := h.rd
  rw [hm.look lawI Try.underlying48 (zeroI w) (key_int hk), vcnt_get]
/-- a location in a block of its own, behind a look-up -/
theorem own_loc (w : World) (x : LT) : ∃ w1 w2, w.alloc (.cells #[.int .i64 0, .int .i64 0, .int .i64 0] 30) = w1 ∧ (storeL (.pointer (some ⟨w.heap.size, 0, none⟩)) (locV x)).run Try.prog w1 = .ok () w2 ∧ Blk w2 w.heap.size 30 (locC x) ∧ Below w.heap.size w w2 := by
  obtain ⟨w2, hr, hk, hg⟩ := putL x (zcells w) rfl
  exact ⟨_, w2, rfl, hr, hk.out, Below.trans ((Below.refl _ _).alloc (Nat.le_refl _) _) (Gr.below hg.out (by simp) (Nat.le_refl _))⟩
theorem ret_loc {fn : Func} {q u : Tmp} (h : fn.results = #[.cell q 30, .tmp u]) (tmps : Array Value) {w : World} {g : Nat} {t : TypeId} {x : LT} {b : Bool} (hp : tmps.getD q undef = .pointer (some ⟨g, 0, none⟩)) (hu : tmps.getD u undef = .bool b) (hk : Blk w g t (locC x)) :
    (results fn tmps).run Try.prog w = .ok (.tuple #[locV x, .bool b]) w := by
  have hl := run_loadL_blk hk
  simp only [loadL, Instr.loadAt, Instr.sureAddr, Sem.run_bind, Sem.run_pure, Result.andThen_ok] at hl
  rw [results_cell_tmp h, hp, hu]
  simp only [asAddr, Sem.run_pure, Result.andThen_ok]
  rw [hl]
  rfl
attribute [local go_sem ↓] loadL_eq storeL_eq
set_option maxHeartbeats 4000000 in
theorem isNews_any (l : IL) (S : IX) (N : Nat) (k : ByteArray) (q : Int) (w : World) (h : IsIX w l S N) (hk : k.size ≤ maxLen) :
    Calls Try.prog 21 #[pI l.p, .string k, .int .i64 q] w fun e w' => e = .returned (.bool (newsB S k q)) ∧ Below w.heap.size w w' := by
  obtain ⟨c1, _, _, _⟩ := h.cells
  have hl1 := look_loc h hk
  obtain ⟨w1, w2, hw1, hst, hk2, hb2⟩ := own_loc w ((S.loc k).getD ⟨0, 0, 0⟩)
  have h2 := h.below hb2
  obtain ⟨_, c2, _, _⟩ := h2.cells
  have hl2 := look_gone h2 hk
  have HB := Lib.hid hb2
  unfold newsB
  unfold locV at hl1 hst
  have c3 : w2.cell? ⟨w.heap.size, 2, none⟩ = some (.int .i64 ((S.loc k).getD ⟨0, 0, 0⟩).seq) := hk2.cell rfl
  clear h h2 hb2 hk2
  cases hL : S.loc k with
  | some x =>
    rw [hL] at hl1 hst c3
    simp only [Option.getD_some, Option.isSome_some] at hl1 hst c3 ⊢
    clear hL hl2 c2
    by_cases hq : x.seq < q
    · have q1 : decide (x.seq < q) = true := decide_eq_true hq
      go_enter Try.func21, Try.ntmps21
      go_wp2_with fail
      go_ret
      exact ⟨by first | rfl | (rw [q1]; rfl), HB.out⟩
    · have q1 : decide (x.seq < q) = false := decide_eq_false hq
      go_enter Try.func21, Try.ntmps21
      go_wp2_with fail
      go_ret
      exact ⟨by first | rfl | (rw [q1]; rfl), HB.out⟩
  | none =>
    rw [hL] at hl1 hst c3
    simp only [Option.getD_none, Option.isSome_none] at hl1 hst c3 ⊢
    clear hL c3
    cases hG : S.gone k with
    | none =>
      rw [hG] at hl2
      simp only [Option.getD_none, Option.isSome_none] at hl2 ⊢
      clear hG
      go_enter Try.func21, Try.ntmps21
      go_wp2_with fail
      go_ret
      exact ⟨rfl, HB.out⟩
    | some g =>
      rw [hG] at hl2
      simp only [Option.getD_some, Option.isSome_some] at hl2 ⊢
      clear hG
      by_cases hq : g < q
      · have q1 : decide (g < q) = true := decide_eq_true hq
        go_enter Try.func21, Try.ntmps21
        go_wp2_with fail
        go_ret
        exact ⟨by first | rfl | (rw [q1]; rfl), HB.out⟩
      · have q1 : decide (g < q) = false := decide_eq_false hq
        go_enter Try.func21, Try.ntmps21
        go_wp2_with fail
        go_ret
        exact ⟨by first | rfl | (rw [q1]; rfl), HB.out⟩
set_option maxHeartbeats 4000000 in
theorem get_any (l : IL) (S : IX) (N : Nat) (k : ByteArray) (w : World) (h : IsIX w l S N) (hk : k.size ≤ maxLen) :
    Calls Try.prog 12 #[pI l.p, .string k] w fun e w' => e = .returned (.tuple #[locV ((S.loc k).getD ⟨0, 0, 0⟩), .bool (S.loc k).isSome]) ∧ Below w.heap.size w w' := by
  obtain ⟨x, hx⟩ : ∃ x, (S.loc k).getD ⟨0, 0, 0⟩ = x := ⟨_, rfl⟩
  obtain ⟨o, ho⟩ : ∃ o, (S.loc k).isSome = o := ⟨_, rfl⟩
  obtain ⟨w0, hw0⟩ : ∃ w0, w.alloc (.cells #[.int .i64 0, .int .i64 0, .int .i64 0] 30) = w0 := ⟨_, rfl⟩
  have hk0 : Blk w0 w.heap.size 30 [.int .i64 0, .int .i64 0, .int .i64 0] := by rw [← hw0]; exact zcells w
  have hb0 : Below w.heap.size w w0 := by rw [← hw0]; exact (Below.refl _ _).alloc (Nat.le_refl _) _
  have h0 := h.below hb0
  obtain ⟨c1, _, _, _⟩ := h0.cells
  have hl1 := look_loc h0 hk
  rw [hx, ho] at hl1 ⊢
  obtain ⟨w1, w2, hw1, hst, hk2, hb2⟩ := own_loc w0 x
  have hld := run_loadL_blk hk2
  obtain ⟨w3, hst3, hk3, hg3⟩ := putL x (hk0.below hb2 hk0.lt) rfl
  have HB := Lib.hid (Below.trans hb0 (Below.trans (hb2.mono hb0.size) (Gr.below hg3.out (Nat.le_trans hb0.size hb2.size) (Nat.le_refl _))))
  have hs : w0.heap.size ≠ w.heap.size := by have := hk0.lt; omega
  unfold locV at hl1 hst
  clear h h0 hb0 hb2 hk2 hk0 hg3 hx ho
  go_enter Try.func12, Try.ntmps12
  go_wp2_with fail
  refine bodyPost_ret (ret_loc rfl _ rfl rfl hk3.out) rfl ⟨rfl, HB.out⟩
set_option maxHeartbeats 4000000 in
theorem len_any (l : IL) (S : IX) (N : Nat) (w : World) (h : IsIX w l S N) :
    Calls Try.prog 15 #[pI l.p] w fun e w' => e = .returned (.int .i64 (S.n : Nat)) ∧ w' = w := by
  obtain ⟨c1, _, _, _⟩ := h.cells
  have hl := fun ty => h.loc.len (t := 46) Try.underlying46 ty
  clear h
  go_enter Try.func15, Try.ntmps15
  go_wp2_with fail
  go_ret
  exact ⟨rfl, rfl⟩
set_option maxHeartbeats 4000000 in
theorem count_any (l : IL) (S : IX) (N : Nat) (a : Int) (w : World) (h : IsIX w l S N) (ha : (Lit.int .i64 a).wf = true) :
    Calls Try.prog 17 #[pI l.p, .int .i64 a] w fun e w' => e = .returned (.int .i64 (S.cnt a)) ∧ w' = w := by
  obtain ⟨_, _, c1, _⟩ := h.cells
  have hl := look_cnt h ha
  clear h ha
  go_enter Try.func17, Try.ntmps17
  go_wp2_with fail
  go_ret
  exact ⟨rfl, rfl⟩
set_option maxHeartbeats 4000000 in
theorem held_any (l : IL) (S : IX) (N : Nat) (a : Int) (w : World) (h : IsIX w l S N) (ha : (Lit.int .i64 a).wf = true) :
    Calls Try.prog 19 #[pI l.p, .int .i64 a] w fun e w' => e = .returned (.int .i64 (S.rd a)) ∧ w' = w := by
  obtain ⟨_, _, _, c1⟩ := h.cells
  have hl := look_rd h ha
  clear h ha
  go_enter Try.func19, Try.ntmps19
  go_wp2_with fail
  go_ret
  exact ⟨rfl, rfl⟩
end Go.Proofs.Ythgpdnffahmhjaa.S20

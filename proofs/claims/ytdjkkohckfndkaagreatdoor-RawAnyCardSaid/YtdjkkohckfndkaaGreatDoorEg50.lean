/- Texts put together: RawV, RawY. -/
import Derived.Test.YtdjkkohckfndkaaGreatDoorEg2
import Derived.Test.YtdjkkohckfndkaaGreatDoorEg34
import Derived.Test.YtdjkkohckfndkaaGreatDoorEg49
set_option linter.unusedSimpArgs false
set_option linter.unusedVariables false
set_option maxRecDepth 100000
namespace Go.Proofs.YtdjkkohckfndkaaGreatDoor.S15
open Go.RowKit S13 S13.Dk S14 S3 S2.Pl S3.Pl
theorem InT.more {w0 w w' : World} {p q : Nat} {S : St} {n : ByteArray} {E : List Int} {Z Z' : Nat → Prop} (h : InT w0 p S q n E Z w) (hb : Below w.heap.size w w') (hZ : ∀ b, Z' b → Z b ∨ w.heap.size ≤ b ∧ b < w'.heap.size) : InT w0 p S q n E Z' w' := by
  obtain ⟨ev, hz, hs, ha⟩ := h
  refine ⟨ev, hz.more hb fun b hb' => ?_, hs.below hb, fun b hz' hzz => ?_⟩
  · rcases hb' with h1 | h1
    · exact .inl (.inl h1)
    · exact (hZ b h1).imp .inr id
  · rcases hZ b hz' with h1 | h1
    · exact ha b h1 hzz
    · have := (hs.lt b hzz).2
      omega
theorem append_heldU {w0 wb w : World} {p q : Nat} {S S' : St} {n : ByteArray} {G : List RT} {Z : Nat → Prop} (r : RT) (h : InU w0 p S q n (endL G G.length) Z wb w) (hT : Tab w) (hr : chk r = 0) (hn : n.size ≤ maxLen) (hc : S.calls ≤ 1099511627776) (hG : ∀ r ∈ G, chk r = 0) (hE : G.length ≤ 100000) (ha : append S n.data.toList (enc r) = (S', 0)) :
    Calls Tryz.prog 20 #[pP q, .agg #[.int .i64 r.kind, .int .i64 r.seq, .string r.key, .string r.val]] w fun e w' => e = .returned (.tuple #[.int .i64 (G.length : Nat), .int .i64 0]) ∧ InU w0 p S' q n (endL (G ++ [r]) (G ++ [r]).length) Z wb w' := by
  obtain ⟨k1, k2, k3, _⟩ := chk_ok hr
  have hl := encs_len hG
  refine (append_t r h.1 hT (by unfold maxLen; omega) (by unfold maxLen; omega) hn hc (by rw [endL_length]; omega) (by rw [lastI_endL]; omega) (by rw [lastI_endL, List.take_length]; omega)).mono ?_
  intro e w' hp
  unfold AppPostT at hp
  rw [hr, if_neg (by simp), ha, if_neg (by simp), endL_length, endL_snoc hr] at hp
  exact ⟨hp.1, hp.2.1, fun b hb => (hp.2.2 b hb).trans (h.2 b hb)⟩
theorem sync_heldU {w0 wb w : World} {p q : Nat} {S S' : St} {n : ByteArray} {E : List Int} {Z : Nat → Prop} {c : Nat} (h : InU w0 p S q n E Z wb w) (hn : n.size ≤ maxLen) (hc : S.calls ≤ 1099511627776) (hs : sync S n.data.toList = (S', c)) : Calls Tryz.prog 21 #[pP q] w fun e w' => e = .returned (.int .i64 (c : Nat)) ∧ InU w0 p S' q n E Z wb w' := by
  refine (sync_t h.1 hn hc).mono ?_
  intro e w' hp
  rw [hs] at hp
  exact ⟨hp.1, hp.2.1, fun b hb => (hp.2.2 b hb).trans (h.2 b hb)⟩
theorem open_goodU {w0 w : World} {p : Nat} {room : Nat} {nm : Nm} {P : List Fl} {B : List Nat} {y c : Nat} {last : Dir} {pend : List Chg} {k : Nat} {Z : Nat → Prop} (h : InZ w0 p (stQ room nm P B y c last pend) Z w) (hT : Tab w0) (hk : k < 10) (hnm : (digS k ++ rawE).data.toList = nm) (hc : c ≤ 1099511627000) (hl : B.length ≤ 1000000) (hx : ∀ x ∈ B, x < 256) (hr : B.length + B.length ≤ room) (hok : (scanR B).2.2 = true) :
    ∃ P2 y2 c2 last2 pend2, c2 ≤ c + 5 ∧ (y = B.length → last = [(nm, P.length)] → pend = [] → y2 = (encs (scanR B).1).length ∧ last2 = [(nm, P2.length)] ∧ pend2 = []) ∧
      Calls Tryz.prog 18 #[pP p, .int .i64 (k : Nat)] w fun e w' => ∃ q, e = .returned (.tuple #[pP q, .int .i64 0]) ∧ InU w0 p (stQ room nm P2 (encs (scanR B).1) y2 c2 last2 pend2) q (digS k ++ rawE) (endL (scanR B).1 (scanR B).1.length) Z w w' := by
  obtain ⟨n1, n2, n3, n4⟩ := names_dig k hk
  rw [hnm] at n1 n3 n4
  obtain ⟨P2, y2, c2, last2, pend2, ho, hcc, hq⟩ := opn_stQ (P := P) (y := y) (c := c) (last := last) (pend := pend) hx n2 n1 n3 n4 hr hok
  refine ⟨P2, y2, c2, last2, pend2, hcc, hq, ?_⟩
  refine (open_t h hT (fmt_dig k hk) (dig_size k) hc (fun C hC => by rw [hnm, stQ_read] at hC; cases hC; exact hl)).mono ?_
  intro e w' hp
  unfold OpenPostT at hp
  rw [hnm, ho] at hp
  simpa using hp
theorem rcells_one (L : List RT) : ∀ u ∈ rcells L, u.oneCell' = true := by
  intro u hu
  unfold rcells at hu
  obtain ⟨r, _, hu⟩ := List.mem_flatMap.1 hu
  exact recL_one r u hu
theorem run_append_recs0 {W : World} {v : Value} {L : List RT} {base : Nat} (ty : TypeId) (h : OwnRecs base W v L) (hL : L.length ≤ 1000000) :
    ∃ sp cap W', (Builtin.append_ #[22, 22] ty #[.slice none 0 0, v]).run Tryz.prog W = .ok (.slice sp L.length cap) W' ∧ OwnRecs W.heap.size W' (.slice sp L.length cap) L ∧ Below W.heap.size W W' := by
  obtain ⟨i0, hi, hz0, hz1, hz2⟩ := info_parts infoRecS
  obtain ⟨hl, ⟨rfl, h0⟩ | ⟨g, cap, cur, rfl, hg, hh, r1, r2, r3, r4⟩⟩ := h
  · have hL0 : L = [] := List.eq_nil_of_length_eq_zero h0
    subst hL0
    refine ⟨none, 0, W, ?_, World.ownsRow_nil _ _ _ _, Below.refl _ _⟩
    have hrun := run_append_owned_none (P := Tryz.prog) (w := W) W.heap.size 22 ty 32 i0 4 Tryz.underlying22 hi (.slice none 0 0) 0 [] (World.ownsRow_nil _ _ _ _)
    exact hrun
  · have hcell : ∀ j u, (rcells L)[j]? = some u → W.cell? ((⟨g, 0, none⟩ : Addr).add j) = some u := fun j u hj => by
      have hadd : (⟨g, 0, none⟩ : Addr).add j = ⟨g, j, none⟩ := by unfold Addr.add; split <;> simp_all
      rw [hadd]
      unfold World.cell?
      rw [hh]
      have e := r4
      rw [← e] at hj
      rw [List.getElem?_take] at hj
      split at hj
      · simpa using hj
      · cases hj
    obtain ⟨v', W', hr, q1, q2, q3⟩ := run_append_nigh 22 ty 32 i0 _ 4 48 Tryz.underlying22 hi hz0 hz1 hz2 (by rfl) (by decide) W.heap.size (.slice none 0 0) 0 [] (World.ownsRow_nil _ _ _ _) ⟨g, 0, none⟩ L.length cap (rcells L) (rcells_length L) hcell (rcells_one L) (by unfold maxLen; omega) (by omega) (Nat.le_refl _)
    obtain ⟨sp, cp, rfl, _, _⟩ := ownsRow_slice q1
    rw [Nat.zero_add] at hr q1
    exact ⟨sp, cp, W', hr, by simpa [OwnRecs] using q1, (Below.refl _ _).grown q2 (Nat.le_refl _) (by intro j hj; cases hj)⟩
theorem wp_append_R {w w' : World} {o : Oper} {a : Act} {K : Act → World → Prop} {Q : Exit → Act → World → Prop} (s x : Operand)
    (ho : o.op = .call { callee := .builtin .append, args := #[s, x], argTypes := #[22, 22] })
    (v src v' : Value) (hs : a.eval s = v) (hx : a.eval x = src) (hr : (Builtin.append_ #[22, 22] o.type #[v, src]).run Tryz.prog w = .ok v' w') (h : K (a.put o.dst v') w') : o.wp Tryz.prog a w K Q := by
  unfold Oper.wp execOp
  simp only [ho, resolve, invoke, builtin, Sem.run_bind, Sem.run_pure, Result.andThen_ok, List.map_toArray, List.map_cons, List.map_nil, hs, hx, hr]
  exact h
theorem nm7 : digS 7 ++ rawE = ⟨#[55, 46, 114, 97, 119]⟩ := by decide
def r9more : RT := ⟨1, 9, ⟨#[109, 111, 114, 101]⟩, ⟨#[111, 102, 32, 105, 116]⟩⟩
theorem chk_9more : chk r9more = 0 := by decide
theorem h_call {w0 : World} {p : Nat} {r : St × Nat} {S' : St} {c : Nat} {e : Ending} {w' : World} (hr : r = (S', c)) (h : HPost w0 p r e w') : e = .returned (.int .i64 (c : Nat)) ∧ InH w0 p S' w' := by
  subst hr; exact h
attribute [local go_sem ↓] loadR_eq storeR_eq buildR_eq sliceU8_eq
attribute [local go_sem] run_buildR run_buildR4
set_option maxHeartbeats 128000000 in
theorem rawAny_walk (a : Option Addr) (len cap : Nat) (ra : Option Addr) (rlen rcap : Nat) (rest : List Nat) (cut : Int) (w : World) (hT : Tab w) (h0 : IsRecs recF w a len) (hrb : IsBytes w (.slice ra rlen rcap) rest) :
    Calls Tryz.prog 3 #[.slice a len cap, .slice ra rlen rcap, .int .i64 cut] w fun e w' => e = .returned (.bool true) ∧ Below w.heap.size w w' := by
  have HT : Hid (∀ W, Below w.heap.size w W → Tab W) := Lib.hid fun W hW => hT.below hW
  have HBEG := Lib.hid (begun_any w hT)
  have HR := Lib.hid h0
  have HRB := Lib.hid hrb
  have hlm : len ≤ maxLen := h0.1
  unfold maxLen at hlm
  clear h0 hT hrb
  go_enter Tryz.func3, Tryz.ntmps3
  go_wp2_with fail
  refine HBEG.out.mono ?_
  rintro e w1 ⟨rfl, hb1⟩
  have HB1 := Lib.hid hb1
  have hnew := new_n 1048576 w1
  clear hb1 HBEG
  go_wp2_with fail
  refine hnew.mono ?_
  rintro e w2 ⟨p, rfl, hI2⟩
  obtain ⟨nmB, hnmB⟩ : ∃ nmB, digS 7 ++ rawE = nmB := ⟨_, rfl⟩
  have HNL : Hid (nmB = ⟨#[55, 46, 114, 97, 119]⟩) := Lib.hid (by rw [← hnmB]; exact nm7)
  have HNB := Lib.hid hnmB
  have HNZ : Hid (nmB.size ≤ maxLen) := Lib.hid (by rw [← hnmB]; exact raw_size (by decide))
  obtain ⟨nm, hnm⟩ : ∃ nm, nmB.data.toList = nm := ⟨_, rfl⟩
  have HNM := Lib.hid hnm
  have HIN : Hid (isNm nm = true) := Lib.hid (by rw [← hnm, ← hnmB]; exact (names_dig 7 (by decide)).1)
  have hr0 : create (new 1048576) nmB.data.toList = (stQ 1048576 nm [] [] 0 1 [] [([], nm, some 0)], 0) := by rw [HNM.out]; exact new_create 1048576 nm HIN.out
  have hcr := (create_h nmB hI2 HNZ.out (by decide)).mono fun e w' h => h_call hr0 h
  rw [HNL.out] at hcr
  clear hr0
  clear hnew hI2 hnmB hnm
  go_wp2_with fail
  refine hcr.mono ?_
  rintro e w3 ⟨rfl, hI3⟩
  have HI3 := Lib.hid hI3
  clear hcr hI3
  go_wp2_with fail
  go_loopw [9] (fun v wr => ∃ i : Nat, i ≤ 6 ∧ i ≤ len ∧ v = .int .i64 i ∧ ∃ C : List Nat, C.length ≤ 4143 * i ∧ Hid (InH w1 p (stQ 1048576 nm [] C 0 (1 + i) [] [([], nm, some 0)]) wr)) (fun v _ => 6 - (intOf v).toNat)
  case atStart => exact ⟨0, by omega, by omega, rfl, [], by simp, HI3⟩
  case round =>
    obtain ⟨i, hi6, hil, rfl, C, hC, HIC⟩ := hrel
    by_cases hgo : i < len ∧ i < 6
    · obtain ⟨hg1, hg2⟩ := hgo
      have HBr := Lib.hid (HB1.out.trans (HIC.out.bel.mono HB1.out.size))
      obtain ⟨b, off, rfl, hbl, hcs⟩ := recF_get HR.out (by omega)
      obtain ⟨r, hri, hcell⟩ := hcs i hg1
      have hld := run_loadR (w := wr) (g := b) (o := off + i * 4) (cs := recL r) rfl (fun j u hj => (HBr.out.cell (p := ⟨b, _, none⟩) hbl).trans (hcell j u hj))
      simp only [recL] at hld
      have hen := refEncode_any r wr hri.key hri.val
      unfold MadePost at hen
      obtain ⟨X, hX⟩ : ∃ X, (enc r).length = X := ⟨_, rfl⟩
      have hel := enc_len r
      rw [hX] at hel hen
      have HX := Lib.hid hX
      have hlt' := enc_lt r
      have HEL := Lib.hid hlt'
      clear hcs hcell hri hX hlt'
      go_wp2_with fail
      refine hen.mono ?_
      rintro e w4 ⟨v4, rfl, ho4, hb4⟩
      obtain ⟨sp4, cp4, rfl, _, _⟩ := ownsRow_slice ho4
      have hib : IsBytes w4 (.slice sp4 X cp4) (enc r) := by have h9 := ho4; rw [← HX.out] at h9 ⊢; exact isBytes_own HEL.out h9
      have hr1 : append (stQ 1048576 nm [] C 0 (1 + i) [] [([], nm, some 0)]) nmB.data.toList (enc r) = (stQ 1048576 nm [] (C ++ enc r) 0 (1 + i + 1) [] [([], nm, some 0)], 0) := by rw [HNM.out, stQ_app, if_neg (by rw [HX.out]; omega)]
      have hap := (append_h nmB _ (enc r) (HIC.out.below hb4) HNZ.out (by show 1 + i ≤ _; omega) hib (by rw [HX.out]; omega)).mono fun e w' h => h_call hr1 h
      rw [HNL.out] at hap
      clear hen ho4 hb4 hib hld hr1
      go_wp2_with fail
      refine hap.mono ?_
      rintro e w5 ⟨rfl, hI5⟩
      have HI5 : Hid (InH w1 p (stQ 1048576 nm [] (C ++ enc r) 0 (1 + (i + 1)) [] [([], nm, some 0)]) w5) := Lib.hid hI5
      have hCl : (C ++ enc r).length ≤ 4143 * (i + 1) := by rw [List.length_append, HX.out]; omega
      clear hap hI5
      go_wp2_with fail
      go_roundw
      case rel => exact ⟨i + 1, by omega, by omega, by go_num, _, hCl, HI5⟩
      case measure => simp [intOf]; omega
    · have hrd := read_h nmB HIC.out HNZ.out
      rw [HNM.out, stQ_read, HNL.out] at hrd
      obtain ⟨M, hM⟩ : ∃ M, C.length = M := ⟨_, rfl⟩
      have hMb : M ≤ 24858 := by omega
      have hcb : 1 + i ≤ 7 := by omega
      obtain ⟨cc, hcc⟩ : ∃ cc, 1 + i = cc := ⟨_, rfl⟩
      rw [hcc] at HIC hcb
      have HMM := Lib.hid hM
      have hxx : len ≤ i ∨ i < len ∧ 6 ≤ i := by omega
      have HRD := Lib.hid hrd
      clear hgo hrd hM hC hcc
      rcases hxx with hx1 | ⟨hx1, hx2⟩
      focus
        have g1 : decide (i < len) = false := by simp; omega
        have g2 : decide ((i : Int) < (len : Int)) = false := by simp; omega
        go_wp2_with fail
        clear g1 g2 hx1
      rotate_left
      focus
        have g1 : decide (i < len) = true := by simp; omega
        have g2 : decide ((i : Int) < (len : Int)) = true := by simp; omega
        have g3 : decide (i < 6) = false := by simp; omega
        have g4 : decide ((i : Int) < 6) = false := by simp; omega
        go_wp2_with fail
        clear g1 g2 g3 g4 hx1 hx2
      all_goals (
        refine HRD.out.mono ?_
        rintro e w6 ⟨hb6, sp6, cp6, he6, ho6, hx6⟩
        have he6 : e = .returned (.tuple #[.slice sp6 C.length cp6, .int .i64 0]) := he6
        subst he6
        have HIB6 : Hid (IsBytes w6 (.slice sp6 C.length cp6) C) := Lib.hid (isBytes_own hx6.out ho6.out)
        have HI6 := Lib.hid (HIC.out.below hb6.out)
        rw [HMM.out] at HIB6 ⊢
        have hon : w6.ownsRow w6.heap.size 5 1 (.slice none 0 0) 0 (u8s []) := World.ownsRow_nil _ _ _ _
        have HB06 := Lib.hid (HB1.out.trans (HI6.out.bel.mono HB1.out.size))
        clear hb6 ho6 hx6 HRD
        go_wp2_with (at_builtin; refine wpList_append_bytes rfl _ _ rfl w6.heap.size (.slice none 0 0) 0 (u8s []) rfl hon (.slice sp6 M cp6) C rfl HIB6.out (by rw [HMM.out]; omega) (Nat.le_refl _) ?_; intro v7 w7 ho7 hg7)
        have HS7 : Hid (Sofar w6 w7 v7 C) := Lib.hid (by
          have := Sofar.app (B := []) (C := C) ⟨hon, Below.refl _ _⟩ ho7 hg7
          simpa using this)
        clear ho7 hg7 hon
        obtain ⟨sp7, N7, cp7, rfl, HN7⟩ := HS7.out.open
        have HRB7 := Lib.hid (HRB.out.below (HB06.out.trans (HS7.out.2.mono HB06.out.size)))
        have hsh := short_any (.slice ra rlen rcap) rest 40 w7 HRB7.out (by decide)
        unfold ShortPost at hsh
        have hN7 : N7 = M := by rw [HN7.out]; exact HMM.out
        subst hN7
        go_wp2_with fail
        refine hsh.mono ?_
        rintro e w8 ⟨v8, rfl, hi8, rfl⟩
        have HI8 := Lib.hid hi8
        have hrl : (rest.take 40).length ≤ 40 := by rw [List.length_take]; omega
        obtain ⟨R, hR⟩ : ∃ R, rest.take 40 = R := ⟨_, rfl⟩
        rw [hR] at HI8 hrl
        clear hsh hi8 hR
        obtain ⟨D, hD⟩ : ∃ D, C ++ R = D := ⟨_, rfl⟩
        have hCx : ∀ x ∈ C ++ R, x < 256 := by
          intro x hx
          rcases List.mem_append.1 hx with h | h
          · exact HIB6.out.1 x h
          · exact HI8.out.1 x h
        obtain ⟨N9, hN9⟩ : ∃ N9, (C ++ R).length = N9 := ⟨_, rfl⟩
        have hN9b : N9 ≤ 24898 := by rw [← hN9, List.length_append, HMM.out]; omega
        have HCX := Lib.hid hCx
        have HD := Lib.hid hD
        have HN9 := Lib.hid hN9
        have HDN : Hid (D.length = N9) := Lib.hid (by rw [← hD]; exact hN9)
        have hcut : cut ≤ 0 ∨ (0 < cut ∧ (N9 : Int) < cut) ∨ (0 < cut ∧ cut ≤ (N9 : Int)) := by omega
        clear hCx hD hN9
        rcases hcut with hc1 | ⟨hc1, hc2⟩ | ⟨hc1, hc2⟩
        focus
          have g1 : decide (0 < cut) = false := by simp; omega
          go_wp2_with (at_builtin; refine wpList_append_bytes rfl _ _ rfl w6.heap.size (.slice sp7 N7 cp7) N7 (u8s C) rfl (by have := HS7.out.1; rw [HMM.out] at this; exact this) v8 R rfl HI8.out (by omega) HS7.out.2.size ?_; intro v9 w9 ho9 hg9; have HS9 : Hid (Sofar w6 w9 v9 (C ++ R)) := Lib.hid (HS7.out.app (by rw [HMM.out]; exact ho9) hg9); have HF9 : Hid (Front w6.heap.size w9 v9 D) := Lib.hid (by have := HS9.out.front HCX.out; rw [HD.out] at this; exact this); have HB9 : Hid (Below w6.heap.size w6 w9) := Lib.hid HS9.out.2; obtain ⟨sp9, cp9, hv9, _, _⟩ := ownsRow_slice HS9.out.1; rw [HN9.out] at hv9; subst hv9; clear ho9 hg9 HS9)
          obtain ⟨K, E, sp10, cp10, hk⟩ : ∃ K E sp10 cp10, K ≤ 24898 ∧ Hid (K = E.length) ∧ Hid (Front w6.heap.size w9 (.slice sp10 K cp10) E) ∧ sp10 = sp9 ∧ K = N9 ∧ cp10 = cp9 := ⟨N9, D, sp9, cp9, hN9b, Lib.hid HDN.out.symm, HF9, rfl, rfl, rfl⟩
          obtain ⟨hk1, HK2, HK3, hk4, hk5, hk6⟩ := hk
          subst hk4
          subst hk5
          subst hk6
          clear g1 hc1 HF9 HN9 HDN hN9b HCX HD
        rotate_left
        focus
          have g1 : decide (0 < cut) = true := by simp; omega
          have g2 : decide (cut ≤ (N9 : Int)) = false := by simp; omega
          go_wp2_with (at_builtin; refine wpList_append_bytes rfl _ _ rfl w6.heap.size (.slice sp7 N7 cp7) N7 (u8s C) rfl (by have := HS7.out.1; rw [HMM.out] at this; exact this) v8 R rfl HI8.out (by omega) HS7.out.2.size ?_; intro v9 w9 ho9 hg9; have HS9 : Hid (Sofar w6 w9 v9 (C ++ R)) := Lib.hid (HS7.out.app (by rw [HMM.out]; exact ho9) hg9); have HF9 : Hid (Front w6.heap.size w9 v9 D) := Lib.hid (by have := HS9.out.front HCX.out; rw [HD.out] at this; exact this); have HB9 : Hid (Below w6.heap.size w6 w9) := Lib.hid HS9.out.2; obtain ⟨sp9, cp9, hv9, _, _⟩ := ownsRow_slice HS9.out.1; rw [HN9.out] at hv9; subst hv9; clear ho9 hg9 HS9)
          obtain ⟨K, E, sp10, cp10, hk⟩ : ∃ K E sp10 cp10, K ≤ 24898 ∧ Hid (K = E.length) ∧ Hid (Front w6.heap.size w9 (.slice sp10 K cp10) E) ∧ sp10 = sp9 ∧ K = N9 ∧ cp10 = cp9 := ⟨N9, D, sp9, cp9, hN9b, Lib.hid HDN.out.symm, HF9, rfl, rfl, rfl⟩
          obtain ⟨hk1, HK2, HK3, hk4, hk5, hk6⟩ := hk
          subst hk4
          subst hk5
          subst hk6
          clear g1 g2 hc1 hc2 HF9 HN9 HDN hN9b HCX HD
        rotate_left
        focus
          obtain ⟨K, hK⟩ : ∃ K : Nat, (N9 : Int) - cut = (K : Int) := ⟨((N9 : Int) - cut).toNat, by omega⟩
          have hKN : K ≤ N9 := by omega
          have g1 : decide (0 < cut) = true := by simp; omega
          have g2 : decide (cut ≤ (N9 : Int)) = true := by simp; omega
          obtain ⟨E, hE⟩ : ∃ E, D.take K = E := ⟨_, rfl⟩
          have HE := Lib.hid hE
          have HK2 : Hid (K = E.length) := Lib.hid (by rw [← hE, List.length_take, HDN.out]; omega)
          have hk1 : K ≤ 24898 := by omega
          clear hE
          go_wp2_with (at_builtin; refine wpList_append_bytes rfl _ _ rfl w6.heap.size (.slice sp7 N7 cp7) N7 (u8s C) rfl (by have := HS7.out.1; rw [HMM.out] at this; exact this) v8 R rfl HI8.out (by omega) HS7.out.2.size ?_; intro v9 w9 ho9 hg9; have HS9 : Hid (Sofar w6 w9 v9 (C ++ R)) := Lib.hid (HS7.out.app (by rw [HMM.out]; exact ho9) hg9); have HF9 : Hid (Front w6.heap.size w9 v9 D) := Lib.hid (by have := HS9.out.front HCX.out; rw [HD.out] at this; exact this); have HB9 : Hid (Below w6.heap.size w6 w9) := Lib.hid HS9.out.2; obtain ⟨sp9, cp9, hv9, _, _⟩ := ownsRow_slice HS9.out.1; rw [HN9.out] at hv9; subst hv9; clear ho9 hg9 HS9; obtain ⟨sp10, cp10, hsl, HK3⟩ := HF9.out.upto K (by rw [HDN.out]; exact hKN); rw [HE.out] at HK3)
          clear g1 g2 hc1 hc2 HF9 HN9 HDN hN9b HCX HD hsl HE hK hKN
        all_goals (
          have HZ9 : Hid (InZ w1 p (stQ 1048576 nm [] C 0 cc [] [([], nm, some 0)]) (fun b => w6.heap.size ≤ b ∧ b < w9.heap.size) w9) := Lib.hid (HI6.out.toZ HB9.out fun b hb => hb)
          obtain ⟨Z, hZ⟩ : ∃ Z : Nat → Prop, (fun b => w6.heap.size ≤ b ∧ b < w9.heap.size) = Z := ⟨_, rfl⟩
          rw [hZ] at HZ9
          have HFK : Hid (∀ W, (∀ b, Z b → W.heap[b]? = w9.heap[b]?) → IsBytes W (.slice sp10 K cp10) E) := Lib.hid fun W hW => (Front.keep HK3.out fun g hg hl => hW g (by rw [← hZ]; exact ⟨hg, hl⟩)).1
          obtain ⟨P1, hP1⟩ : ∃ P1 : List Fl, [] ++ [(C, 0)] = P1 := ⟨_, rfl⟩
          obtain ⟨pd, hpd⟩ : ∃ pd : List Chg, [([], nm, some 0)] ++ [([], nm, some (([] : List Fl).length + 1))] = pd := ⟨_, rfl⟩
          have hr1 : create (stQ 1048576 nm [] C 0 cc [] [([], nm, some 0)]) nmB.data.toList = (stQ 1048576 nm P1 [] 0 (cc + 1) [] pd, 0) := by rw [HNM.out, stQ_create _ _ _ _ _ _ _ _ HIN.out, hP1, hpd]
          have hc1 := (create_z nmB HZ9.out HNZ.out (by show cc ≤ _; omega)).mono fun e w' h => z_call hr1 h
          rw [HNL.out] at hc1
          have HC1 := Lib.hid hc1
          clear hZ hP1 hpd hr1 hc1 HK3
          go_wp2_with fail
          refine HC1.out.mono ?_
          rintro e w10 ⟨rfl, hz10, hh10⟩
          have hr2 : append (stQ 1048576 nm P1 [] 0 (cc + 1) [] pd) nmB.data.toList E = (stQ 1048576 nm P1 E 0 (cc + 2) [] pd, 0) := by rw [HNM.out, stQ_app, if_neg (by rw [← HK2.out]; simp; omega)]; rfl
          have hc2 := (append_z nmB _ E hz10 HNZ.out (by show cc + 1 ≤ _; omega) (HFK.out w10 hh10) (by rw [← HK2.out]; omega)).mono fun e w' h => z_call hr2 h
          rw [HNL.out] at hc2
          have HC2 := Lib.hid hc2
          have HH10 := Lib.hid hh10
          clear HC1 hz10 hr2 hc2 hh10
          go_wp2_with fail
          refine HC2.out.mono ?_
          rintro e w11 ⟨rfl, hz11, hh11⟩
          have hr3 : sync (stQ 1048576 nm P1 E 0 (cc + 2) [] pd) nmB.data.toList = (stQ 1048576 nm P1 E E.length (cc + 3) [] pd, 0) := by rw [HNM.out, stQ_sync]
          have hc3 := (sync_z nmB hz11 HNZ.out (by show cc + 2 ≤ _; omega)).mono fun e w' h => z_call hr3 h
          rw [HNL.out] at hc3
          have HC3 := Lib.hid hc3
          have HH11 : Hid (∀ b, Z b → w11.heap[b]? = w9.heap[b]?) := Lib.hid fun b hb => (hh11 b hb).trans (HH10.out b hb)
          clear HC2 hz11 hr3 hc3 hh11
          go_wp2_with fail
          refine HC3.out.mono ?_
          rintro e w12 ⟨rfl, hz12, hh12⟩
          have hr4 : syncDir (stQ 1048576 nm P1 E E.length (cc + 3) [] pd) = (stQ 1048576 nm P1 E E.length (cc + 4) [(nm, P1.length)] [], 0) := rfl
          have hc4 := (syncDir_z hz12 (by show cc + 3 ≤ _; omega)).mono fun e w' h => z_call hr4 h
          have HC4 := Lib.hid hc4
          have HH12 : Hid (∀ b, Z b → w12.heap[b]? = w9.heap[b]?) := Lib.hid fun b hb => (hh12 b hb).trans (HH11.out b hb)
          clear HC3 hz12 hr4 hc4 hh12
          go_wp2_with fail
          refine HC4.out.mono ?_
          rintro e w13 ⟨rfl, hz13, hh13⟩
          have HI13 : Hid (InH w1 p (stQ 1048576 nm P1 E E.length (cc + 4) [(nm, P1.length)] []) w13) := Lib.hid hz13.toH
          have HIB : Hid (IsBytes w13 (.slice sp10 K cp10) E) := Lib.hid (HFK.out w13 fun b hb => (hh13 b hb).trans (HH12.out b hb))
          have hsc := refRScan_any _ E w13 HIB.out (by rw [← HK2.out]; omega)
          unfold RScanPost at hsc
          have hlc := scanR_chk E
          have hlL := scanR_len E
          have hwh := scanR_whole HIB.out.1
          obtain ⟨L, hL⟩ : ∃ L, (scanR E).1 = L := ⟨_, rfl⟩
          obtain ⟨m, hm⟩ : ∃ m, (scanR E).2.1 = m := ⟨_, rfl⟩
          obtain ⟨ok, hok⟩ : ∃ ok, (scanR E).2.2 = ok := ⟨_, rfl⟩
          have hEl : (encs L).length ≤ K := by rw [← hL, ← hwh, List.length_take, HK2.out]; omega
          rw [hL, hm, hok] at hsc
          rw [hL] at hlc hlL
          rw [← HK2.out] at hlL
          obtain ⟨NL, hNL⟩ : ∃ NL, L.length = NL := ⟨_, rfl⟩
          have HNL := Lib.hid hNL
          have HLC := Lib.hid hlc
          have HL := Lib.hid hL
          have HOK := Lib.hid hok
          rw [hNL] at hlL hsc
          have HSC := Lib.hid hsc
          have HLC2 : Hid ((encs L).length ≤ 24898) := Lib.hid (by omega)
          have hNLb : NL ≤ 3000 := by omega
          clear HC4 hz13 hh13 hsc hlc hwh hL hm hok hNL hEl HH10 HH11 HH12 HFK hlL
          go_wp2_with fail
          refine HSC.out.mono ?_
          rintro e w14 ⟨sp14, cp14, rfl, ho14, hb14⟩
          have HO14 := ho14
          have HI14 := Lib.hid (HI13.out.below hb14.out)
          have HT1 := Lib.hid (HT.out w1 HB1.out)
          have HNM7 : Hid ((digS 7 ++ rawE).data.toList = nm) := Lib.hid (by rw [HNB.out]; exact HNM.out)
          have hEK : E.length ≤ 24898 := by rw [← HK2.out]; exact hk1
          have HEK := Lib.hid hEK
          clear HSC hEK
          cases ok with
          | false =>
            have hop := open_badQ (k := 7) HI14.out HT1.out (by decide) HNM7.out (by omega) (by have := HEK.out; omega) HOK.out
            clear ho14 hb14
            go_wp2_with fail
            refine hop.mono ?_
            rintro e w15 ⟨rfl, hI15⟩
            have HB15 := Lib.hid (HB1.out.trans (hI15.bel.mono HB1.out.size))
            clear hop hI15
            go_wp2_with fail
            go_ret
            exact ⟨rfl, HB15.out⟩
          | true =>
            obtain ⟨Z2, hZ2⟩ : ∃ Z2 : Nat → Prop, (fun b => w13.heap.size ≤ b ∧ b < w14.heap.size) = Z2 := ⟨_, rfl⟩
            have hz14 : InZ w1 p (stQ 1048576 nm P1 E E.length (cc + 4) [(nm, P1.length)] []) Z2 w14 := by rw [← hZ2]; exact HI13.out.toZ hb14.out fun b hb => hb
            obtain ⟨P2, y2, c2, last2, pend2, hc2, hq2, hop⟩ := open_goodU (k := 7) hz14 HT1.out (by decide) HNM7.out (by omega) (by have := HEK.out; omega) HIB.out.1 (by have := HEK.out; omega) HOK.out
            obtain ⟨hy2, hl2, hp2⟩ := hq2 rfl rfl rfl
            rw [HL.out] at hop hy2
            rw [HNB.out, hy2, hl2, hp2] at hop
            have hcb2 : c2 ≤ 100 := by omega
            have HRM : Hid (∀ W : World, (∀ b, Z2 b → W.heap[b]? = w14.heap[b]?) → OwnRecs w13.heap.size W (.slice sp14 NL cp14) L) := Lib.hid fun W hW => own_heap HO14.out fun b hb => hW b (by rw [← hZ2]; exact World.ownsRow.lt HO14.out b hb)
            have HOP := Lib.hid hop
            clear ho14 hb14 hz14 hc2 hq2 hy2 hl2 hp2 hop hZ2 y2 last2 pend2
            go_wp2_with fail
            refine HOP.out.mono ?_
            rintro e w15 ⟨q, rfl, hU15⟩
            have HU15 := Lib.hid hU15
            have hsm := same_any [] HU15.out.1.toS (HT.out w15 (HB1.out.trans (HU15.out.1.bel.mono HB1.out.size))) HNZ.out HLC.out (by rw [HNL.out]; omega) (by rw [HNM.out, stQ_read, List.append_nil]) (HRM.out w15 HU15.out.2).at
            clear hU15 HOP
            go_wp2_with fail
            refine hsm.mono ?_
            rintro e w16 ⟨rfl, hb16⟩
            have HU16 := Lib.hid (HU15.out.below hb16)
            obtain ⟨w17, hst17, HR17, HG17⟩ := lay_rec r9more w16
            simp only [r9more] at hst17
            have hU17 : InU w1 p (stQ 1048576 nm P2 (encs L) (encs L).length c2 [(nm, P2.length)] []) q nmB (endL L L.length) Z2 w14 w17 := HU16.out.below HG17.out
            obtain ⟨Z3, hZ3⟩ : ∃ Z3 : Nat → Prop, (fun b => Z2 b ∨ w16.heap.size ≤ b ∧ b < w17.heap.size) = Z3 := ⟨_, rfl⟩
            have hT17 : InT w1 p (stQ 1048576 nm P2 (encs L) (encs L).length c2 [(nm, P2.length)] []) q nmB (endL L L.length) Z3 w17 := by rw [← hZ3]; exact HU16.out.1.more HG17.out fun b hb => hb
            have HU17 : Hid (InU w1 p (stQ 1048576 nm P2 (encs L) (encs L).length c2 [(nm, P2.length)] []) q nmB (endL L L.length) Z3 w17 w17) := Lib.hid ⟨hT17, fun _ _ => rfl⟩
            have HM17 : Hid (∀ W : World, (∀ b, Z3 b → W.heap[b]? = w17.heap[b]?) → OwnRecs w13.heap.size W (.slice sp14 NL cp14) L) := Lib.hid fun W hW => HRM.out W fun b hb => (hW b (by rw [← hZ3]; exact .inl hb)).trans (hU17.2 b hb)
            have HK17 : Hid (∀ W : World, (∀ b, Z3 b → W.heap[b]? = w17.heap[b]?) → Blk W w16.heap.size 32 (recL r9more)) := Lib.hid fun W hW => (hW w16.heap.size (by rw [← hZ3]; exact .inr ⟨Nat.le_refl _, HR17.out.lt⟩)).trans HR17.out
            have hld := run_loadR_blk HR17.out
            simp only [r9more] at hld
            have hel := enc_len r9more
            have hap := append_heldU r9more HU17.out (HT.out w17 (HB1.out.trans (HU17.out.1.bel.mono HB1.out.size))) chk_9more HNZ.out (by show c2 ≤ _; omega) HLC.out (by rw [HNL.out]; omega) (by
              have h9 := HLC2.out
              rw [HNM.out, stQ_app, if_neg (by omega)])
            rw [HNL.out] at hap
            simp only [r9more] at hap
            clear hsm hb16 hU17 hZ3 hT17 hel HRM
            go_wp2_with fail
            refine hap.mono ?_
            rintro e w18 ⟨rfl, hU18⟩
            have HU18 : Hid (InU w1 p (stQ 1048576 nm P2 (encs L ++ enc r9more) (encs L).length (c2 + 1) [(nm, P2.length)] []) q nmB (endL (L ++ [r9more]) (L ++ [r9more]).length) Z3 w17 w18) := Lib.hid hU18
            have hr5 : sync (stQ 1048576 nm P2 (encs L ++ enc r9more) (encs L).length (c2 + 1) [(nm, P2.length)] []) nmB.data.toList = (stQ 1048576 nm P2 (encs L ++ enc r9more) (encs L ++ enc r9more).length (c2 + 2) [(nm, P2.length)] [], 0) := by rw [HNM.out, stQ_sync]
            have hsy := sync_heldU HU18.out HNZ.out (by show c2 + 1 ≤ _; omega) hr5
            have q1 : ((NL : Int) != (NL : Int)) = false := bne_f rfl
            clear hap hU18 hld hst17 hr5
            go_wp2_with fail
            refine hsy.mono ?_
            rintro e w19 ⟨rfl, hU19⟩
            have HU19 := Lib.hid hU19
            have hcr := crash_new 0 none 0 0 [] HU19.out.1.toS.toH (row_nil .i64 w19) (by show c2 + 2 ≤ _; omega)
            have hcr : Calls Tryz.prog 22 #[pP p, .int .i64 0, .slice none 0 0] w19 fun e w' => ∃ q, e = .returned (pP q) ∧ InH w19 q (st1 1048576 nm (encs (L ++ [r9more])) (encs (L ++ [r9more])).length 0 [(nm, 0)] []) w' := by
              rw [stQ_crash _ _ _ _ _ _ (by simp), ← encs_snoc' chk_9more] at hcr
              exact hcr
            clear hsy hU19
            go_wp2_with fail
            refine hcr.mono ?_
            rintro e w20 ⟨p2, rfl, hI20⟩
            have hgN : ∀ r ∈ L ++ [r9more], chk r = 0 := by
              intro r hr
              rcases List.mem_append.1 hr with h | h
              · exact HLC.out r h
              · simp at h; subst h; exact chk_9more
            have hrd : readF (st1 1048576 nm (encs (L ++ [r9more])) (encs (L ++ [r9more])).length 0 [(nm, 0)] []) (digS 7 ++ rawE).data.toList = some (encs (L ++ [r9more])) := by rw [HNM7.out, st1_read]
            have hlN : (encs (L ++ [r9more])).length ≤ 30000 := by
              have h8 := HLC2.out
              have h9 := enc_len r9more
              rw [encs_snoc' chk_9more, List.length_append]
              omega
            have hop := open_held (d := digS 7) (G := L ++ [r9more]) hI20 (HT.out w19 (HB1.out.trans (HU19.out.1.bel.mono HB1.out.size))) (fmt_dig 7 (by decide)) (by decide) (by show (0 : Nat) ≤ _; decide) (fun B hB => by rw [hrd] at hB; cases hB; omega) (opn_whole hrd hgN)
            rw [HNB.out] at hop
            have HGN := Lib.hid hgN
            have HOP : Hid (Calls Tryz.prog 18 #[pP p2, .int .i64 7] w20 fun e w' => ∃ q, e = .returned (.tuple #[pP q, .int .i64 0]) ∧ InS w19 p2 (st1 1048576 nm (encs (L ++ [r9more])) (encs (L ++ [r9more])).length 0 [(nm, 0)] []) q nmB (endL (L ++ [r9more]) (L ++ [r9more]).length) w') := Lib.hid hop
            clear hcr hI20 hrd hlN hop hgN
            go_wp2_with fail
            refine HOP.out.mono ?_
            rintro e w21 ⟨t, rfl, hI21⟩
            have HI21 := Lib.hid hI21
            have HZ21 : Hid (∀ b, Z3 b → w21.heap[b]? = w17.heap[b]?) := Lib.hid fun b hb => (hI21.bel.block b (HU19.out.1.lt b hb)).trans (HU19.out.2 b hb)
            have HM21 : Hid (OwnRecs w13.heap.size w21 (.slice sp14 NL cp14) L) := Lib.hid (HM17.out w21 HZ21.out)
            have HK21 : Hid (Blk w21 w16.heap.size 32 (recL r9more)) := Lib.hid (HK17.out w21 HZ21.out)
            have HB21 : Hid (Below w.heap.size w w21) := Lib.hid (HB1.out.trans ((HU19.out.1.bel.trans (hI21.bel.mono HU19.out.1.bel.size)).mono HB1.out.size))
            have HLD : Hid (∀ W, From w21 W → (loadR (.pointer (some ⟨w16.heap.size, 0, none⟩))).run Tryz.prog W = .ok (.agg #[.int .i64 1, .int .i64 9, .string ⟨#[109, 111, 114, 101]⟩, .string ⟨#[111, 102, 32, 105, 116]⟩]) W) := Lib.hid fun W hW => run_loadR_blk (r := r9more) (HK21.out.below hW HK21.out.lt)
            have HAP : Hid (∀ ty W, From w21 W → ∃ sp cap W', (Builtin.append_ #[22, 22] ty #[.slice none 0 0, .slice sp14 NL cp14]).run Tryz.prog W = .ok (.slice sp NL cap) W' ∧ OwnRecs W.heap.size W' (.slice sp NL cap) L ∧ Below W.heap.size W W') := Lib.hid fun ty W hW => by
              obtain ⟨sp, cap, W', h1, h2, h3⟩ := run_append_recs0 ty (HM21.out.below hW) (by rw [HNL.out]; omega)
              rw [HNL.out] at h1 h2
              exact ⟨sp, cap, W', h1, h2, h3⟩
            have HSAME : Hid (∀ v W, From w21 W → RecsAt W v (L ++ [r9more]) → Calls Tryz.prog 19 #[pP t, v] W fun e w' => e = .returned (.bool true) ∧ Below W.heap.size W w') := Lib.hid fun v W hW hv => same_any [] (HI21.out.below hW) (HT.out W (HB21.out.trans (Below.mono hW HB21.out.size))) HNZ.out HGN.out (by rw [List.length_append, HNL.out]; simp; omega) (by rw [HNM.out, st1_read, List.append_nil]) hv
            clear hI21 HOP
            go_wp2_with fail
            refine wp_region_noPanic ?_
            have hHeld : From w21 w21.drew := (Below.refl _ _).drew
            refine wpAnyH_start (n := 12) (l := #[false, false, false, false, false, false, false, false, false, false, false, false]) (S := From w21) (by kernel_rfl) hHeld (by kernel_rfl) (by kernel_rfl) ?_
            refine wpAnyH_take (i := 0) (oi := _) (v := ?_) rfl (by kernel_rfl) (by kernel_rfl) (by kernel_rfl) (fun _ _ _ h => h) (Or.inl ⟨by rfl, ?_⟩) (by assumption) ?_
            rotate_left
            · intro wq hSw; go_simp; try with_reducible rfl
            simp only [Act.put, List.setIfInBounds_toArray, List.set_cons_zero, List.set_cons_succ, List.getElem_toArray, List.getElem_cons_zero, List.getElem_cons_succ]
            refine wpAnyH_take (i := 1) (oi := _) (v := ?_) rfl (by kernel_rfl) (by kernel_rfl) (by kernel_rfl) (fun _ _ _ h => h) (Or.inl ⟨by rfl, ?_⟩) (by assumption) ?_
            rotate_left
            · intro wq hSw; go_simp; try with_reducible rfl
            simp only [Act.put, List.setIfInBounds_toArray, List.set_cons_zero, List.set_cons_succ, List.getElem_toArray, List.getElem_cons_zero, List.getElem_cons_succ]
            refine wpAnyH_take (i := 2) (oi := _) (v := ?_) rfl (by kernel_rfl) (by kernel_rfl) (by kernel_rfl) (fun _ _ _ h => h) (Or.inl ⟨by rfl, ?_⟩) (by assumption) ?_
            rotate_left
            · intro wq hSw; go_simp; try with_reducible rfl
            simp only [Act.put, List.setIfInBounds_toArray, List.set_cons_zero, List.set_cons_succ, List.getElem_toArray, List.getElem_cons_zero, List.getElem_cons_succ]
            refine wpAnyH_take (i := 3) (oi := _) (v := ?_) rfl (by kernel_rfl) (by kernel_rfl) (by kernel_rfl) (fun _ _ _ h => h) (Or.inl ⟨by rfl, ?_⟩) (by assumption) ?_
            rotate_left
            · intro wq hSw; go_simp; try with_reducible rfl
            simp only [Act.put, List.setIfInBounds_toArray, List.set_cons_zero, List.set_cons_succ, List.getElem_toArray, List.getElem_cons_zero, List.getElem_cons_succ]
            refine wpAnyH_take (i := 4) (oi := _) (v := ?_) rfl (by kernel_rfl) (by kernel_rfl) (by kernel_rfl) (fun _ _ _ h => h) (Or.inl ⟨by rfl, ?_⟩) (by assumption) ?_
            rotate_left
            · intro wq hSw; go_simp; try with_reducible rfl
            simp only [Act.put, List.setIfInBounds_toArray, List.set_cons_zero, List.set_cons_succ, List.getElem_toArray, List.getElem_cons_zero, List.getElem_cons_succ]
            refine wpAnyH_take (i := 6) (oi := _) (v := ?_) rfl (by kernel_rfl) (by kernel_rfl) (by kernel_rfl) (fun _ _ _ h => h) (Or.inl ⟨by rfl, ?_⟩) (by assumption) ?_
            rotate_left
            · intro wq hSw; have d0 := HLD.out wq hSw; go_simp; try with_reducible rfl
            simp only [Act.put, List.setIfInBounds_toArray, List.set_cons_zero, List.set_cons_succ, List.getElem_toArray, List.getElem_cons_zero, List.getElem_cons_succ]
            refine wpAnyH_ready (rs := [5, 7]) (by kernel_rfl) (by simp) ?_
            refine AllReadyH.cons (o := _) rfl (fun K hK => ?_) (AllReadyH.cons (o := _) rfl (fun K hK => ?_) AllReadyH.nil)
            · simp only [List.getElem_toArray, List.getElem_cons_zero, List.getElem_cons_succ]
              obtain ⟨sp5, cp5, W5, hr5, ho5, hb5⟩ := HAP.out 22 w21.drew hHeld
              rw [if_pos (by rfl)]
              refine wp_append_R (.const (.slice none 0 0)) (.tmp 133) rfl (.slice none 0 0) (.slice sp14 NL cp14) _ rfl rfl hr5 ?_
              have hE5 : From w21 W5 := From.trans hHeld hb5
              refine hK.out _ _ (hE5) (fun _ => ?_)
              clear hK K
              simp only [Act.put, List.setIfInBounds_toArray, List.set_cons_zero, List.set_cons_succ, List.getElem_toArray, List.getElem_cons_zero, List.getElem_cons_succ]
              refine wpAnyH_ready (rs := [7]) (by kernel_rfl) (by simp) ?_
              refine AllReadyH.cons (o := _) rfl (fun K hK => ?_) AllReadyH.nil
              simp only [List.getElem_toArray, List.getElem_cons_zero, List.getElem_cons_succ]
              go_simp
              have hE6 : From w21 (W5.alloc (.cells #[.int .i64 1, .int .i64 9, .string ⟨#[109, 111, 114, 101]⟩, .string ⟨#[111, 102, 32, 105, 116]⟩] 32)) := From.trans hE5 ((Below.refl _ _).alloc (Nat.le_refl _) _)
              refine hK.out _ _ (hE6) (fun _ => ?_)
              clear hK K
              simp only [Act.put, List.setIfInBounds_toArray, List.set_cons_zero, List.set_cons_succ, List.getElem_toArray, List.getElem_cons_zero, List.getElem_cons_succ]
              have HO6 : Hid (OwnRecs w21.heap.size (W5.alloc (.cells #[.int .i64 1, .int .i64 9, .string ⟨#[109, 111, 114, 101]⟩, .string ⟨#[111, 102, 32, 105, 116]⟩] 32)) (.slice sp5 NL cp5) L) := Lib.hid ((ho5.base hHeld.size).below ((Below.refl _ _).alloc (Nat.le_refl _) _))
              have HK6 : Hid (Blk (W5.alloc (.cells #[.int .i64 1, .int .i64 9, .string ⟨#[109, 111, 114, 101]⟩, .string ⟨#[111, 102, 32, 105, 116]⟩] 32)) W5.heap.size 32 (recL r9more)) := Lib.hid (Blk.new W5 32 (recL r9more))
              generalize (W5.alloc (.cells #[.int .i64 1, .int .i64 9, .string ⟨#[109, 111, 114, 101]⟩, .string ⟨#[111, 102, 32, 105, 116]⟩] 32)) = W6 at *
              generalize W5.heap.size = gb at *
              clear hr5 ho5 hb5 hE5 hHeld
              refine wpAnyH_ready (rs := [8]) (by kernel_rfl) (by simp) ?_
              refine AllReadyH.cons (o := _) rfl (fun K hK => ?_) AllReadyH.nil
              simp only [List.getElem_toArray, List.getElem_cons_zero, List.getElem_cons_succ]
              rw [if_pos (by rfl)]
              obtain ⟨i0, hi, hz0, hz1, hz2⟩ := info_parts infoRecS
              obtain ⟨v9, W9, hr9, q1, q2, q3⟩ := run_append_nigh 22 22 32 i0 _ 4 48 Tryz.underlying22 hi hz0 hz1 hz2 (by rfl) (by decide) w21.heap.size (.slice sp5 NL cp5) NL (rcells L) (by have := HO6.out; unfold OwnRecs at this; rw [HNL.out] at this; exact this) ⟨gb, 0, none⟩ 1 1 (recL r9more) (by rfl) (fun j u hj => by rw [S14.addr_at, Nat.zero_add]; exact HK6.out.cell hj) (recL_one r9more) (by unfold maxLen; omega) (by omega) hE6.size
              obtain ⟨sp9, cp9, rfl, _, _⟩ := ownsRow_slice q1
              refine wp_append_R (.tmp 134) (.tmp 136) rfl (.slice sp5 NL cp5) (.slice (some ⟨gb, 0, none⟩) 1 1) _ rfl rfl hr9 ?_
              have hE9 : From w21 W9 := Below.trans hE6 ((Below.refl _ _).grown q2 hE6.size (fun k hk => HO6.out.lt k hk))
              refine hK.out _ _ (hE9) (fun _ => ?_)
              clear hK K
              simp only [Act.put, List.setIfInBounds_toArray, List.set_cons_zero, List.set_cons_succ, List.getElem_toArray, List.getElem_cons_zero, List.getElem_cons_succ]
              have HR9 : Hid (RecsAt W9 (.slice sp9 (NL + 1) cp9) (L ++ [r9more])) := Lib.hid (OwnRecs.at (base := w21.heap.size) (by
                unfold OwnRecs
                rw [List.length_append, HNL.out, rcells_append]
                simpa [rcells] using q1))
              have HS9 := Lib.hid (HSAME.out _ W9 hE9 HR9.out)
              have HE9 := Lib.hid hE9
              clear q1 q2 q3 hr9 hE6 HO6 HK6 hE9
              have hHeld : From w21 W9 := HE9.out
              refine wpAnyH_ready (rs := [9]) (by kernel_rfl) (by simp) ?_
              refine AllReadyH.cons (o := _) rfl (fun K hK => ?_) AllReadyH.nil
              simp only [List.getElem_toArray, List.getElem_cons_zero, List.getElem_cons_succ]
              go_simp
              refine HS9.out.mono ?_
              rintro e' w22 ⟨rfl, hb22⟩
              have hE22 : From w21 w22 := From.trans HE9.out hb22
              refine hK.out _ _ (hE22) (fun _ => ?_)
              clear hK K
              simp only [Act.put, List.setIfInBounds_toArray, List.set_cons_zero, List.set_cons_succ, List.getElem_toArray, List.getElem_cons_zero, List.getElem_cons_succ]
              have HE22 := Lib.hid hE22
              clear hb22 hE22 hHeld HS9
              have hHeld : From w21 w22 := HE22.out
              refine wpAnyH_take (i := 10) (oi := _) (v := ?_) rfl (by kernel_rfl) (by kernel_rfl) (by kernel_rfl) (fun _ _ _ h => h) (Or.inl ⟨by rfl, ?_⟩) (by assumption) ?_
              rotate_left
              · intro wq hSw; go_simp; try with_reducible rfl
              simp only [Act.put, List.setIfInBounds_toArray, List.set_cons_zero, List.set_cons_succ, List.getElem_toArray, List.getElem_cons_zero, List.getElem_cons_succ]
              refine wpAnyH_take (i := 11) (oi := _) (v := ?_) rfl (by kernel_rfl) (by kernel_rfl) (by kernel_rfl) (fun _ _ _ h => h) (Or.inl ⟨by rfl, ?_⟩) (by assumption) ?_
              rotate_left
              · intro wq hSw; go_simp; try with_reducible rfl
              simp only [Act.put, List.setIfInBounds_toArray, List.set_cons_zero, List.set_cons_succ, List.getElem_toArray, List.getElem_cons_zero, List.getElem_cons_succ]
              refine wpAnyH_done (by kernel_rfl) ?_ _
              refine NoPanic.normal ?_
              clear hHeld
              go_wp2_with fail
              go_ret
              exact ⟨rfl, HB21.out.trans (Below.mono HE22.out HB21.out.size)⟩
            · simp only [List.getElem_toArray, List.getElem_cons_zero, List.getElem_cons_succ]
              go_simp
              have hE5 : From w21 (w21.alloc (.cells #[.int .i64 1, .int .i64 9, .string ⟨#[109, 111, 114, 101]⟩, .string ⟨#[111, 102, 32, 105, 116]⟩] 32)).drew := ((Below.refl _ _).alloc (Nat.le_refl _) _).drew
              refine hK.out _ _ (hE5) (fun _ => ?_)
              clear hK K
              simp only [Act.put, List.setIfInBounds_toArray, List.set_cons_zero, List.set_cons_succ, List.getElem_toArray, List.getElem_cons_zero, List.getElem_cons_succ]
              have HK5 : Hid (Blk (w21.alloc (.cells #[.int .i64 1, .int .i64 9, .string ⟨#[109, 111, 114, 101]⟩, .string ⟨#[111, 102, 32, 105, 116]⟩] 32)).drew w21.heap.size 32 (recL r9more)) := Lib.hid ((Blk.new w21 32 (recL r9more)).drew)
              generalize (w21.alloc (.cells #[.int .i64 1, .int .i64 9, .string ⟨#[109, 111, 114, 101]⟩, .string ⟨#[111, 102, 32, 105, 116]⟩] 32)).drew = W5 at *
              refine wpAnyH_ready (rs := [5]) (by kernel_rfl) (by simp) ?_
              refine AllReadyH.cons (o := _) rfl (fun K hK => ?_) AllReadyH.nil
              simp only [List.getElem_toArray, List.getElem_cons_zero, List.getElem_cons_succ]
              obtain ⟨sp5, cp5, W6, hr5, ho5, hb5⟩ := HAP.out 22 W5 hE5
              rw [if_pos (by rfl)]
              refine wp_append_R (.const (.slice none 0 0)) (.tmp 133) rfl (.slice none 0 0) (.slice sp14 NL cp14) _ rfl rfl hr5 ?_
              have hE6 : From w21 W6 := From.trans hE5 hb5
              refine hK.out _ _ (hE6) (fun _ => ?_)
              clear hK K
              simp only [Act.put, List.setIfInBounds_toArray, List.set_cons_zero, List.set_cons_succ, List.getElem_toArray, List.getElem_cons_zero, List.getElem_cons_succ]
              have HO6 : Hid (OwnRecs w21.heap.size W6 (.slice sp5 NL cp5) L) := Lib.hid (ho5.base hE5.size)
              have HK6 : Hid (Blk W6 w21.heap.size 32 (recL r9more)) := Lib.hid (HK5.out.below hb5 HK5.out.lt)
              clear hr5 ho5 hb5 hE5 HK5 hHeld
              refine wpAnyH_ready (rs := [8]) (by kernel_rfl) (by simp) ?_
              refine AllReadyH.cons (o := _) rfl (fun K hK => ?_) AllReadyH.nil
              simp only [List.getElem_toArray, List.getElem_cons_zero, List.getElem_cons_succ]
              rw [if_pos (by rfl)]
              obtain ⟨i0, hi, hz0, hz1, hz2⟩ := info_parts infoRecS
              obtain ⟨v9, W9, hr9, q1, q2, q3⟩ := run_append_nigh 22 22 32 i0 _ 4 48 Tryz.underlying22 hi hz0 hz1 hz2 (by rfl) (by decide) w21.heap.size (.slice sp5 NL cp5) NL (rcells L) (by have := HO6.out; unfold OwnRecs at this; rw [HNL.out] at this; exact this) ⟨w21.heap.size, 0, none⟩ 1 1 (recL r9more) (by rfl) (fun j u hj => by rw [S14.addr_at, Nat.zero_add]; exact HK6.out.cell hj) (recL_one r9more) (by unfold maxLen; omega) (by omega) hE6.size
              obtain ⟨sp9, cp9, rfl, _, _⟩ := ownsRow_slice q1
              refine wp_append_R (.tmp 134) (.tmp 136) rfl (.slice sp5 NL cp5) (.slice (some ⟨w21.heap.size, 0, none⟩) 1 1) _ rfl rfl hr9 ?_
              have hE9 : From w21 W9 := Below.trans hE6 ((Below.refl _ _).grown q2 hE6.size (fun k hk => HO6.out.lt k hk))
              refine hK.out _ _ (hE9) (fun _ => ?_)
              clear hK K
              simp only [Act.put, List.setIfInBounds_toArray, List.set_cons_zero, List.set_cons_succ, List.getElem_toArray, List.getElem_cons_zero, List.getElem_cons_succ]
              have HR9 : Hid (RecsAt W9 (.slice sp9 (NL + 1) cp9) (L ++ [r9more])) := Lib.hid (OwnRecs.at (base := w21.heap.size) (by
                unfold OwnRecs
                rw [List.length_append, HNL.out, rcells_append]
                simpa [rcells] using q1))
              have HS9 := Lib.hid (HSAME.out _ W9 hE9 HR9.out)
              have HE9 := Lib.hid hE9
              clear q1 q2 q3 hr9 hE6 HO6 HK6 hE9
              have hHeld : From w21 W9 := HE9.out
              refine wpAnyH_ready (rs := [9]) (by kernel_rfl) (by simp) ?_
              refine AllReadyH.cons (o := _) rfl (fun K hK => ?_) AllReadyH.nil
              simp only [List.getElem_toArray, List.getElem_cons_zero, List.getElem_cons_succ]
              go_simp
              refine HS9.out.mono ?_
              rintro e' w22 ⟨rfl, hb22⟩
              have hE22 : From w21 w22 := From.trans HE9.out hb22
              refine hK.out _ _ (hE22) (fun _ => ?_)
              clear hK K
              simp only [Act.put, List.setIfInBounds_toArray, List.set_cons_zero, List.set_cons_succ, List.getElem_toArray, List.getElem_cons_zero, List.getElem_cons_succ]
              have HE22 := Lib.hid hE22
              clear hb22 hE22 hHeld HS9
              have hHeld : From w21 w22 := HE22.out
              refine wpAnyH_take (i := 10) (oi := _) (v := ?_) rfl (by kernel_rfl) (by kernel_rfl) (by kernel_rfl) (fun _ _ _ h => h) (Or.inl ⟨by rfl, ?_⟩) (by assumption) ?_
              rotate_left
              · intro wq hSw; go_simp; try with_reducible rfl
              simp only [Act.put, List.setIfInBounds_toArray, List.set_cons_zero, List.set_cons_succ, List.getElem_toArray, List.getElem_cons_zero, List.getElem_cons_succ]
              refine wpAnyH_take (i := 11) (oi := _) (v := ?_) rfl (by kernel_rfl) (by kernel_rfl) (by kernel_rfl) (fun _ _ _ h => h) (Or.inl ⟨by rfl, ?_⟩) (by assumption) ?_
              rotate_left
              · intro wq hSw; go_simp; try with_reducible rfl
              simp only [Act.put, List.setIfInBounds_toArray, List.set_cons_zero, List.set_cons_succ, List.getElem_toArray, List.getElem_cons_zero, List.getElem_cons_succ]
              refine wpAnyH_done (by kernel_rfl) ?_ _
              refine NoPanic.normal ?_
              clear hHeld
              go_wp2_with fail
              go_ret
              exact ⟨rfl, HB21.out.trans (Below.mono HE22.out HB21.out.size)⟩)
        )
end Go.Proofs.YtdjkkohckfndkaaGreatDoor.S15
namespace Go.Proofs.YtdjkkohckfndkaaGreatDoor.S15
open Go.RowKit S3
theorem rawAny_law (a : Option Addr) (len cap : Nat) (ra : Option Addr) (rlen rcap : Nat) (rz : List Int) (a2 : Int) (w : World) (hT : Tab w) (h0 : IsRecs [.int .i64, .int .i64, .str, .str] w a len) (hr : IsRow .u8 w ra rlen rcap rz) (_ : (Lit.int .i64 a2).wf = true) :
    Calls Tryz.prog 3 #[.slice a len cap, .slice ra rlen rcap, .int .i64 a2] w fun e w' => e = .returned (.bool true) ∧ Below w.heap.size w w' := by
  obtain ⟨hby, hbl⟩ := isBytes_row hr
  exact rawAny_walk a len cap ra rlen rcap _ a2 w hT h0 hby
end Go.Proofs.YtdjkkohckfndkaaGreatDoor.S15

/- Texts put together: RcC, RcD. -/
import Derived.Test.YtdjkkohckfndkaaGreatDoorEg6
import Derived.Test.YtdjkkohckfndkaaGreatDoorEg31
set_option linter.unusedSimpArgs false
set_option linter.unusedVariables false
set_option maxRecDepth 100000
namespace Go.Proofs.YtdjkkohckfndkaaGreatDoor.S14
open Go.RowKit S2.Pl S3.Pl S3
attribute [local go_sem ↓] loadR_eq
theorem wp_append_bytes1 {w : World} {o : Oper} {a : Act} {K : Act → World → Prop} {Q : Exit → Act → World → Prop} (s x : Operand)
    (ho : o.op = .call { callee := .builtin .append, args := #[s, x], argTypes := #[23, 23] })
    (base : Nat) (v : Value) (n : Nat) (xs : List Value) (hs : a.eval s = v) (hown : w.ownsRow base 5 1 v n xs)
    (src : Value) (B : List Nat) (hx : a.eval x = src) (hsrc : IsBytes w src B) (h0 : 0 < B.length)
    (hbytes : n + B.length ≤ 140737488355328) (hbase : base ≤ w.heap.size)
    (h : ∀ v' w', w'.ownsRow base 5 1 v' (n + B.length) (xs ++ u8s B) → w.grownBy w' v.ownBlock → K (a.put o.dst v') w') : o.wp Tryz.prog a w K Q := by
  obtain ⟨i0, hi, hz0, hz1, hz2⟩ := info_parts info5
  obtain ⟨_, ⟨rfl, rfl⟩ | ⟨ad, cap, rfl, h1, h2, hc⟩⟩ := hsrc
  · simp at h0
  · exact wp_append_own _ s x _ ho base 5 i0 (.int .u8 0) 1 1 Tryz.underlying23 hi hz0 hz1 hz2 rfl (by decide) v n xs hs hown ad B.length cap (u8s B) hx (by rw [u8s_length, Nat.mul_one]) hc (u8s_one B) (by unfold maxLen; omega) (by omega) hbase fun v' w' h3 h4 _ => h v' w' h3 h4
def EncPost (r : RT) (w : World) (e : Ending) (w' : World) : Prop :=
  ∃ sp cap, e = .returned (.tuple #[.slice sp (enc r).length cap, .int .i64 (chk r : Nat)]) ∧ Hid (w'.ownsRow w.heap.size 5 1 (.slice sp (enc r).length cap) (enc r).length (u8s (enc r))) ∧ Hid (Below w.heap.size w w')
def Sofar (w0 W : World) (v : Value) (B : List Nat) : Prop := W.ownsRow w0.heap.size 5 1 v B.length (u8s B) ∧ Below w0.heap.size w0 W
theorem Sofar.below {w0 W W' : World} {v : Value} {B : List Nat} (h : Sofar w0 W v B) (hb : Below W.heap.size W W') : Sofar w0 W' v B := ⟨own_below h.1 hb, h.2.trans (hb.mono h.2.size)⟩
theorem Sofar.app {w0 W W' : World} {v v' : Value} {B C : List Nat} (h : Sofar w0 W v B) (ho : W'.ownsRow w0.heap.size 5 1 v' (B.length + C.length) (u8s B ++ u8s C)) (hg : W.grownBy W' v.ownBlock) : Sofar w0 W' v' (B ++ C) :=
  ⟨by rw [List.length_append, u8s_append]; exact ho, h.2.grown hg h.2.size (own_lt h.1)⟩
theorem Sofar.is {w0 W : World} {sp : Option Addr} {n cap : Nat} {B : List Nat} (h : Sofar w0 W (.slice sp n cap) B) (hx : ∀ x ∈ B, x < 256) : IsBytes W (.slice sp n cap) B := by
  obtain ⟨_, _, he, _⟩ := ownsRow_slice h.1
  simp at he
  obtain ⟨rfl, rfl, rfl⟩ := he
  exact isBytes_own hx h.1
theorem Sofar.open {w0 W : World} {v : Value} {B : List Nat} (h : Sofar w0 W v B) : ∃ sp N cap, v = .slice sp N cap ∧ Hid (N = B.length) := by
  obtain ⟨sp, cap, he, _⟩ := ownsRow_slice h.1
  exact ⟨sp, B.length, cap, he, Lib.hid rfl⟩
theorem sofar_one (w0 : World) (k : Nat) : Sofar w0 (w0.alloc (.cells #[.int .u8 k] 5)) (.slice (some ⟨w0.heap.size, 0, none⟩) 1 1) [k] :=
  ⟨own_new w0 (u8s [k]) 5 (Nat.le_refl _) (by simp [u8s, maxLen]), (Below.refl _ _).alloc (Nat.le_refl _) _⟩
theorem enc_bad {r : RT} (h : chk r ≠ 0) : enc r = [] := by unfold enc; rw [if_neg h]
theorem enc_good {r : RT} (h : chk r = 0) : enc r = pseal (body r) := by unfold enc; rw [if_pos h]
set_option maxHeartbeats 4000000 in
theorem encode_any (r : RT) (w : World) (hT : Tab w) (hk : r.key.size ≤ maxLen) (hr : r.val.size ≤ maxLen) : Calls Tryz.prog 58 #[.agg #[.int .i64 r.kind, .int .i64 r.seq, .string r.key, .string r.val]] w (EncPost r w) := by
  have hb1 := agg_zero w r
  have hk1 := Blk.new w 32 (recL r)
  obtain ⟨w1, hw1⟩ : ∃ w1, w.alloc (.cells #[.int .i64 r.kind, .int .i64 r.seq, .string r.key, .string r.val] 32) = w1 := ⟨_, rfl⟩
  rw [hw1] at hb1
  have hk1' : Blk w1 w.heap.size 32 (recL r) := by rw [← hw1]; exact hk1
  have hld := run_loadR_blk hk1'
  have hch := check_any r w1 hk hr
  have HK1 := Lib.hid hk1'
  have HB1 := Lib.hid hb1
  have HT := Lib.hid hT
  clear hb1 hk1 hk1' hT
  unfold maxLen at hk hr
  go_enter Tryz.func58, Tryz.ntmps58
  go_wp2_with fail
  refine hch.mono ?_
  rintro e w2 ⟨rfl, hb2⟩
  have hk2 := HK1.out.below hb2 HK1.out.lt
  have HK2 := Lib.hid hk2
  have HB2 := Lib.hid (HB1.out.trans (hb2.mono HB1.out.size))
  have HT2 := Lib.hid (HT.out.below HB2.out)
  clear hk2 hb2 hch HK1 HB1 HT hld hw1
  by_cases h0 : chk r = 0
  rotate_left
  · have q0 : (((chk r : Nat) : Int) != 0) = true := bne_t (by omega)
    go_wp2
    go_ret2
    exact ⟨none, 0, by rw [enc_bad h0]; rfl, Lib.hid (by rw [enc_bad h0]; exact own_nil _ _), HB2⟩
  obtain ⟨k1, k2, k3, k4⟩ := chk_ok h0
  obtain ⟨s1, s2, hkd⟩ := form_ok k4
  have HE := Lib.hid (enc_good h0)
  have HC := Lib.hid h0
  have HF := Lib.hid k4
  rw [h0]
  clear h0 k4
  obtain ⟨k, s, key, val⟩ := r
  simp only at k1 k2 k3 s1 s2 hkd hk hr HK2 ⊢
  obtain ⟨n, rfl⟩ : ∃ n : Nat, s = (n : Int) := ⟨s.toNat, by omega⟩
  have c0 : w2.cell? ⟨w.heap.size, 0, none⟩ = some (.int .i64 k) := HK2.out.cell rfl
  have c1 : w2.cell? ⟨w.heap.size, 1, none⟩ = some (.int .i64 n) := HK2.out.cell rfl
  have hgl := HK2.out.lt
  have hU : U64 (n : Int) := ⟨by omega, by omega⟩
  have HU := Lib.hid hU
  clear hU
  rcases hkd with rfl | ⟨rfl, hv0⟩
  · have HS := Lib.hid (sofar_one w2 1)
    have hn3 := vput_short (n := n) (by omega)
    have hl5 := vtext_length (strB key) (by rw [strB_length]; omega)
    rw [strB_length] at hl5
    have hbK : bodyK ⟨1, n, key, val⟩ = [1] ++ vput n ++ vtext (strB key) := rfl
    have hkl := (bodyK_len HC.out).1
    go_wp2_with fail
    refine (S2.put_any n _ HU.out).mono ?_
    rintro e w3 ⟨v3, rfl, ho3, hb3⟩
    obtain ⟨sp3, cap3, rfl, _, _⟩ := ownsRow_slice ho3
    have HI3 := Lib.hid (isBytes_own (vput_lt _) ho3)
    have HS3 := Lib.hid (HS.out.below hb3)
    rw [Int.toNat_natCast] at HI3 ⊢
    clear ho3 hb3 HS
    go_wp2_with (at_builtin; refine wpList_append_bytes rfl (.tmp 15) (.tmp 19) rfl w2.heap.size _ _ _ rfl HS3.out.1 _ (vput n) rfl HI3.out (by simp only [List.length_singleton]; omega) HS3.out.2.size ?_; intro v4 w4 hown hgr; have HS4 := Lib.hid (HS3.out.app hown hgr); clear hown hgr; obtain ⟨sp4, N4, cap4, rfl, HN4⟩ := HS4.out.open; have c2 : w4.cell? ⟨w.heap.size, 2, none⟩ = some (.string key) := (HK2.out.below HS4.out.2 hgl).cell rfl; clear HS3 HI3 c0 c1)
    refine (S2.text_any key _ (by omega)).mono ?_
    rintro e w5 ⟨v5, rfl, ho5, hb5⟩
    obtain ⟨sp5, cap5, rfl, _, _⟩ := ownsRow_slice ho5
    have HI5 := Lib.hid (isBytes_own (vtext_lt (strB_lt _)) ho5)
    have HS5 := Lib.hid (HS4.out.below hb5)
    clear ho5 hb5 HS4 c2
    have hl7 := vtext_length (strB val) (by rw [strB_length]; omega)
    rw [strB_length] at hl7
    have hbd : body ⟨1, n, key, val⟩ = bodyK ⟨1, n, key, val⟩ ++ vtext (strB val) := rfl
    go_wp2_with (at_builtin; refine wpList_append_bytes rfl (.tmp 21) (.tmp 24) rfl w2.heap.size _ _ _ rfl HS5.out.1 _ (vtext (strB key)) rfl HI5.out (by rw [List.length_append, List.length_singleton]; omega) HS5.out.2.size ?_; intro v6 w6 hown hgr; have HS6 := Lib.hid (HS5.out.app hown hgr); clear hown hgr; obtain ⟨sp6, N6, cap6, rfl, HN6⟩ := HS6.out.open; rw [← hbK] at HS6; have c0 : w6.cell? ⟨w.heap.size, 0, none⟩ = some (.int .i64 1) := (HK2.out.below HS6.out.2 hgl).cell rfl; have c3 : w6.cell? ⟨w.heap.size, 3, none⟩ = some (.string val) := (HK2.out.below HS6.out.2 hgl).cell rfl; clear HS5 HI5 hbK HN4)
    refine (S2.text_any val _ (by omega)).mono ?_
    rintro e w7 ⟨v7, rfl, ho7, hb7⟩
    obtain ⟨sp7, cap7, rfl, _, _⟩ := ownsRow_slice ho7
    have HI7 := Lib.hid (isBytes_own (vtext_lt (strB_lt _)) ho7)
    have HS7 := Lib.hid (HS6.out.below hb7)
    clear ho7 hb7 HS6 c3 c0
    go_wp2_with (at_builtin; refine wpList_append_bytes rfl (.tmp 29) (.tmp 32) rfl w2.heap.size _ _ _ rfl HS7.out.1 _ (vtext (strB val)) rfl HI7.out (by omega) HS7.out.2.size ?_; intro v8 w8 hown hgr; have HS8 := Lib.hid (HS7.out.app hown hgr); clear hown hgr; obtain ⟨sp8, N8, cap8, rfl, HN8⟩ := HS8.out.open; rw [← hbd] at HS8; clear HS7 HI7 hbd HN6)
    have hlt : ∀ x ∈ body ⟨1, n, key, val⟩, x < 256 := body_lt (kind_lt HF.out)
    refine (S3.seal_any _ (body ⟨1, n, key, val⟩) w8 (HT2.out.below HS8.out.2) (HS8.out.is hlt) (by have := (body_len HC.out).1; omega)).mono ?_
    intro e w9 h9
    obtain ⟨sp9, cap9, rfl, ho9, hb9⟩ := h9.s
    have HO9 := Lib.hid ho9
    have HB9 := Lib.hid (HB2.out.trans ((HS8.out.2.trans (hb9.mono HS8.out.2.size)).mono HB2.out.size))
    have hsz := Nat.le_trans HB2.out.size HS8.out.2.size
    have hen := HE.out
    clear h9 ho9 hb9
    go_wp2
    go_ret2
    exact ⟨sp9, cap9, by rw [hen, HC.out]; rfl, Lib.hid (by rw [hen]; exact own_base HO9.out hsz), HB9⟩
  · have HS := Lib.hid (sofar_one w2 0)
    have hn3 := vput_short (n := n) (by omega)
    have hl5 := vtext_length (strB key) (by rw [strB_length]; omega)
    rw [strB_length] at hl5
    have hbK : bodyK ⟨0, n, key, val⟩ = [0] ++ vput n ++ vtext (strB key) := rfl
    have hkl := (bodyK_len HC.out).1
    go_wp2_with fail
    refine (S2.put_any n _ HU.out).mono ?_
    rintro e w3 ⟨v3, rfl, ho3, hb3⟩
    obtain ⟨sp3, cap3, rfl, _, _⟩ := ownsRow_slice ho3
    have HI3 := Lib.hid (isBytes_own (vput_lt _) ho3)
    have HS3 := Lib.hid (HS.out.below hb3)
    rw [Int.toNat_natCast] at HI3 ⊢
    clear ho3 hb3 HS
    go_wp2_with (at_builtin; refine wpList_append_bytes rfl (.tmp 15) (.tmp 19) rfl w2.heap.size _ _ _ rfl HS3.out.1 _ (vput n) rfl HI3.out (by simp only [List.length_singleton]; omega) HS3.out.2.size ?_; intro v4 w4 hown hgr; have HS4 := Lib.hid (HS3.out.app hown hgr); clear hown hgr; obtain ⟨sp4, N4, cap4, rfl, HN4⟩ := HS4.out.open; have c2 : w4.cell? ⟨w.heap.size, 2, none⟩ = some (.string key) := (HK2.out.below HS4.out.2 hgl).cell rfl; clear HS3 HI3 c0 c1)
    refine (S2.text_any key _ (by omega)).mono ?_
    rintro e w5 ⟨v5, rfl, ho5, hb5⟩
    obtain ⟨sp5, cap5, rfl, _, _⟩ := ownsRow_slice ho5
    have HI5 := Lib.hid (isBytes_own (vtext_lt (strB_lt _)) ho5)
    have HS5 := Lib.hid (HS4.out.below hb5)
    clear ho5 hb5 HS4 c2
    have hbd : body ⟨0, n, key, val⟩ = bodyK ⟨0, n, key, val⟩ := rfl
    go_wp2_with (at_builtin; refine wpList_append_bytes rfl (.tmp 21) (.tmp 24) rfl w2.heap.size _ _ _ rfl HS5.out.1 _ (vtext (strB key)) rfl HI5.out (by rw [List.length_append, List.length_singleton]; omega) HS5.out.2.size ?_; intro v6 w6 hown hgr; have HS6 := Lib.hid (HS5.out.app hown hgr); clear hown hgr; obtain ⟨sp6, N6, cap6, rfl, HN6⟩ := HS6.out.open; rw [← hbK, ← hbd] at HS6; have c0 : w6.cell? ⟨w.heap.size, 0, none⟩ = some (.int .i64 0) := (HK2.out.below HS6.out.2 hgl).cell rfl; clear HS5 HI5 hbK hbd HN4)
    have hlt : ∀ x ∈ body ⟨0, n, key, val⟩, x < 256 := body_lt (kind_lt HF.out)
    refine (S3.seal_any _ (body ⟨0, n, key, val⟩) w6 (HT2.out.below HS6.out.2) (HS6.out.is hlt) (by have := (body_len HC.out).1; omega)).mono ?_
    intro e w9 h9
    obtain ⟨sp9, cap9, rfl, ho9, hb9⟩ := h9.s
    have HO9 := Lib.hid ho9
    have HB9 := Lib.hid (HB2.out.trans ((HS6.out.2.trans (hb9.mono HS6.out.2.size)).mono HB2.out.size))
    have hsz := Nat.le_trans HB2.out.size HS6.out.2.size
    have hen := HE.out
    clear h9 ho9 hb9
    go_wp2
    go_ret2
    exact ⟨sp9, cap9, by rw [hen, HC.out]; rfl, Lib.hid (by rw [hen]; exact own_base HO9.out hsz), HB9⟩
end Go.Proofs.YtdjkkohckfndkaaGreatDoor.S14
namespace Go.Proofs.YtdjkkohckfndkaaGreatDoor.S14
open Go.RowKit S2.Pl S3.Pl S3
attribute [local go_sem ↓] loadR_eq
theorem sofar_at {w0 W : World} {k : Nat} (h : From w0 W) : Sofar w0 (W.alloc (.cells #[.int .u8 k] 5)) (.slice (some ⟨W.heap.size, 0, none⟩) 1 1) [k] :=
  ⟨own_new W (u8s [k]) 5 h.size (by simp [u8s, maxLen]), (Below.alloc h h.size _)⟩
set_option maxHeartbeats 8000000 in
theorem refEncode_any (r : RT) (w : World) (hk : r.key.size ≤ maxLen) (hr : r.val.size ≤ maxLen) : Calls Tryz.prog 12 #[.agg #[.int .i64 r.kind, .int .i64 r.seq, .string r.key, .string r.val]] w (MadePost (enc r) w) := by
  have hb1 := agg_zero w r
  have hk1 := Blk.new w 32 (recL r)
  obtain ⟨w1, hw1⟩ : ∃ w1, w.alloc (.cells #[.int .i64 r.kind, .int .i64 r.seq, .string r.key, .string r.val] 32) = w1 := ⟨_, rfl⟩
  rw [hw1] at hb1
  have hk1' : Blk w1 w.heap.size 32 (recL r) := by rw [← hw1]; exact hk1
  have hld := run_loadR_blk hk1'
  have hch := refCheck_any r w1 hk hr
  have HK1 := Lib.hid hk1'
  have HB1 := Lib.hid hb1
  clear hb1 hk1 hk1'
  unfold maxLen at hk hr
  go_enter Tryz.func12, Tryz.ntmps12
  go_wp2_with fail
  refine hch.mono ?_
  rintro e w2 ⟨rfl, hb2⟩
  have hk2 := HK1.out.below hb2 HK1.out.lt
  have HK2 := Lib.hid hk2
  have HB2 := Lib.hid (HB1.out.trans (hb2.mono HB1.out.size))
  clear hk2 hb2 hch HK1 HB1 hld hw1
  by_cases h0 : chk r = 0
  rotate_left
  · have q0 : (((chk r : Nat) : Int) != 0) = true := bne_t (by omega)
    go_wp2
    go_ret
    exact ⟨_, rfl, by rw [enc_bad h0]; exact own_nil _ _, HB2.out⟩
  obtain ⟨k1, k2, k3, k4⟩ := chk_ok h0
  obtain ⟨s1, s2, hkd⟩ := form_ok k4
  have HE := Lib.hid (enc_good h0)
  have HC := Lib.hid h0
  have HF := Lib.hid k4
  rw [h0]
  clear h0 k4
  obtain ⟨k, s, key, val⟩ := r
  simp only at k1 k2 k3 s1 s2 hkd hk hr HK2 ⊢
  obtain ⟨n, rfl⟩ : ∃ n : Nat, s = (n : Int) := ⟨s.toNat, by omega⟩
  have c0 : w2.cell? ⟨w.heap.size, 0, none⟩ = some (.int .i64 k) := HK2.out.cell rfl
  have c1 : w2.cell? ⟨w.heap.size, 1, none⟩ = some (.int .i64 n) := HK2.out.cell rfl
  have hgl := HK2.out.lt
  have hU : U64 (n : Int) := ⟨by omega, by omega⟩
  have HU := Lib.hid hU
  clear hU
  rcases hkd with rfl | ⟨rfl, hv0⟩
  · have d0 : ∀ W, From w2 W → W.cell? ⟨w.heap.size, 0, none⟩ = some (.int .i64 1) := fun W h => (Below.cell (p := ⟨w.heap.size, 0, none⟩) h hgl).trans c0
    have d1 : ∀ W, From w2 W → W.cell? ⟨w.heap.size, 1, none⟩ = some (.int .i64 n) := fun W h => (Below.cell (p := ⟨w.heap.size, 1, none⟩) h hgl).trans c1
    have hn3 := vput_short (n := n) (by omega)
    go_wp2_with fail
    have hwn : IntKind.u64.wrap (n : Int) = n := by rw [IntKind.wrap_u64]; omega
    have hw8 : IntKind.u8.wrap 1 = 1 := rfl
    refine wp_region_noPanic ?_
    have hHeld : From w2 w2.drew := (Below.refl _ _).drew
    refine wpAnyH_start (n := 10) (l := #[false, false, false, false, false, false, false, false, false, false]) (S := From w2) (by kernel_rfl) (hHeld) (by kernel_rfl) (by kernel_rfl) ?_
    refine wpAnyH_take (i := 0) (oi := _) (v := ?_) rfl (by kernel_rfl) (by kernel_rfl) (by kernel_rfl) (fun _ _ _ h => h) (Or.inl ⟨by rfl, ?_⟩) (by assumption) ?_
    rotate_left
    · intro wq hSw; go_simp; try with_reducible rfl
    simp only [Act.put, List.setIfInBounds_toArray, List.set_cons_zero, List.set_cons_succ, List.getElem_toArray, List.getElem_cons_zero, List.getElem_cons_succ]
    refine wpAnyH_take (i := 1) (oi := _) (v := ?_) rfl (by kernel_rfl) (by kernel_rfl) (by kernel_rfl) (fun _ _ _ h => h) (Or.inl ⟨by rfl, ?_⟩) (by assumption) ?_
    rotate_left
    · intro wq hSw; go_simp; try with_reducible rfl
    simp only [Act.put, List.setIfInBounds_toArray, List.set_cons_zero, List.set_cons_succ, List.getElem_toArray, List.getElem_cons_zero, List.getElem_cons_succ]
    refine wpAnyH_take (i := 2) (oi := _) (v := ?_) rfl (by kernel_rfl) (by kernel_rfl) (by kernel_rfl) (fun _ _ _ h => h) (Or.inl ⟨by rfl, ?_⟩) (by assumption) ?_
    rotate_left
    · intro wq hSw; go_simp; try with_reducible rfl
    simp only [Act.put, List.setIfInBounds_toArray, List.set_cons_zero, List.set_cons_succ, List.getElem_toArray, List.getElem_cons_zero, List.getElem_cons_succ]
    refine wpAnyH_take (i := 4) (oi := _) (v := ?_) rfl (by kernel_rfl) (by kernel_rfl) (by kernel_rfl) (fun _ _ _ h => h) (Or.inl ⟨by rfl, ?_⟩) (by assumption) ?_
    rotate_left
    · intro wq hSw; go_simp; try with_reducible rfl
    simp only [Act.put, List.setIfInBounds_toArray, List.set_cons_zero, List.set_cons_succ, List.getElem_toArray, List.getElem_cons_zero, List.getElem_cons_succ]
    refine wpAnyH_take (i := 5) (oi := _) (v := ?_) rfl (by kernel_rfl) (by kernel_rfl) (by kernel_rfl) (fun _ _ _ h => h) (Or.inl ⟨by rfl, ?_⟩) (by assumption) ?_
    rotate_left
    · intro wq hSw; go_simp; try with_reducible rfl
    simp only [Act.put, List.setIfInBounds_toArray, List.set_cons_zero, List.set_cons_succ, List.getElem_toArray, List.getElem_cons_zero, List.getElem_cons_succ]
    refine wpAnyH_take (i := 6) (oi := _) (v := ?_) rfl (by kernel_rfl) (by kernel_rfl) (by kernel_rfl) (fun _ _ _ h => h) (Or.inl ⟨by rfl, ?_⟩) (by assumption) ?_
    rotate_left
    · intro wq hSw; go_simp; try with_reducible rfl
    simp only [Act.put, List.setIfInBounds_toArray, List.set_cons_zero, List.set_cons_succ, List.getElem_toArray, List.getElem_cons_zero, List.getElem_cons_succ]
    clear d0 d1 c0 c1
    refine wpAnyH_ready (rs := [3, 7]) (by kernel_rfl) (by simp) ?_
    refine AllReadyH.cons (o := _) rfl (fun K hK => ?_) (AllReadyH.cons (o := _) rfl (fun K hK => ?_) AllReadyH.nil)
    all_goals simp only [List.getElem_toArray, List.getElem_cons_zero, List.getElem_cons_succ]
    all_goals go_simp
    have hS3 : Sofar w2 (w2.alloc (.cells #[.int .u8 1] 5)).drew _ _ := (sofar_one w2 1).below (Below.refl _ _).drew
    obtain ⟨w3, hw3⟩ : ∃ w3, (w2.alloc (.cells #[.int .u8 1] 5)).drew = w3 := ⟨_, rfl⟩
    rw [hw3]
    have hS3' : Sofar w2 w3 (.slice (some ⟨w2.heap.size, 0, none⟩) 1 1) [1] := by rw [← hw3]; exact hS3
    have HS3 := Lib.hid hS3'
    clear hS3 hS3' hw3
    refine hK.out _ _ (HS3.out.2) (fun _ => ?_)
    clear hK K hHeld
    have hHeld := HS3.out.2
    simp only [Act.put, List.setIfInBounds_toArray, List.set_cons_zero, List.set_cons_succ, List.getElem_toArray, List.getElem_cons_zero, List.getElem_cons_succ]
    refine wpAnyH_ready (rs := [7]) (by kernel_rfl) (by simp) ?_
    refine AllReadyH.cons (o := _) rfl (fun K hK => ?_) AllReadyH.nil
    simp only [List.getElem_toArray, List.getElem_cons_zero, List.getElem_cons_succ]
    go_simp
    refine (S2.refPut_any n _ HU.out).mono ?_
    rintro e w4 ⟨v4, rfl, ho4, hb4⟩
    obtain ⟨sp4, cap4, rfl, _, _⟩ := ownsRow_slice ho4
    have HI4 := Lib.hid (isBytes_own (vput_lt _) ho4)
    rw [Int.toNat_natCast] at HI4 ⊢
    have HS4 := Lib.hid (HS3.out.below hb4)
    clear ho4 hb4 HS3
    refine hK.out _ _ (HS4.out.2) (fun _ => ?_)
    clear hK K hHeld
    have hHeld := HS4.out.2
    simp only [Act.put, List.setIfInBounds_toArray, List.set_cons_zero, List.set_cons_succ, List.getElem_toArray, List.getElem_cons_zero, List.getElem_cons_succ]
    rotate_left
    refine (S2.refPut_any n _ HU.out).mono ?_
    rintro e w3 ⟨v3, rfl, ho3, hb3⟩
    obtain ⟨sp3, cap3, rfl, _, _⟩ := ownsRow_slice ho3
    have HI3 := Lib.hid (isBytes_own (vput_lt _) ho3)
    rw [Int.toNat_natCast] at HI3 ⊢
    have hE3 : From w2 w3 := (hHeld : From w2 w2.drew).trans hb3
    have HB3 : Hid (True ∧ From w2 w3) := Lib.hid ⟨trivial, hE3⟩
    clear ho3 hb3 hE3
    refine hK.out _ _ (HB3.out.2) (fun _ => ?_)
    clear hK K hHeld
    have hHeld := HB3.out.2
    simp only [Act.put, List.setIfInBounds_toArray, List.set_cons_zero, List.set_cons_succ, List.getElem_toArray, List.getElem_cons_zero, List.getElem_cons_succ]
    refine wpAnyH_ready (rs := [3]) (by kernel_rfl) (by simp) ?_
    refine AllReadyH.cons (o := _) rfl (fun K hK => ?_) AllReadyH.nil
    simp only [List.getElem_toArray, List.getElem_cons_zero, List.getElem_cons_succ]
    go_simp
    have HS4 := Lib.hid (sofar_at (k := 1) HB3.out.2)
    have HI4 : Hid (IsBytes _ (.slice sp3 (vput n).length cap3) (vput n)) := Lib.hid (HI3.out.below ((Below.refl _ _).alloc (Nat.le_refl _) (.cells #[.int .u8 1] 5)))
    obtain ⟨w4, hw4⟩ : ∃ w4, w3.alloc (.cells #[.int .u8 1] 5) = w4 := ⟨_, rfl⟩
    have hcast : (((1 : Nat) : Int)) = 1 := rfl
    rw [hcast, hw4] at HS4
    rw [hw4] at HI4 ⊢
    clear hw4 hcast HB3 HI3
    refine hK.out _ _ (HS4.out.2) (fun _ => ?_)
    clear hK K hHeld
    have hHeld := HS4.out.2
    simp only [Act.put, List.setIfInBounds_toArray, List.set_cons_zero, List.set_cons_succ, List.getElem_toArray, List.getElem_cons_zero, List.getElem_cons_succ]
    all_goals
      refine wpAnyH_ready (rs := [8]) (by kernel_rfl) (by simp) ?_
      refine AllReadyH.cons (o := _) rfl (fun K hK => ?_) AllReadyH.nil
      simp only [List.getElem_toArray, List.getElem_cons_zero, List.getElem_cons_succ]
      refine wp_append_bytes1 (.tmp 10) (.tmp 14) rfl w2.heap.size _ _ _ rfl HS4.out.1 _ (vput n) rfl HI4.out (by have := (vput_on n []).2.2.2.2; omega) (by rw [List.length_singleton]; omega) HS4.out.2.size ?_
      intro v5 w5 hown hgr
      have HS5 := Lib.hid (HS4.out.app hown hgr)
      obtain ⟨sp5, N5, cap5, rfl, HN5⟩ := HS5.out.open
      clear hown hgr HS4 HI4
      refine hK.out _ _ (HS5.out.2) (fun _ => ?_)
      clear hK K hHeld
      have hHeld := HS5.out.2
      simp only [Act.put, List.setIfInBounds_toArray, List.set_cons_zero, List.set_cons_succ, List.getElem_toArray, List.getElem_cons_zero, List.getElem_cons_succ]
      refine wpAnyH_take (i := 9) (oi := _) (v := ?_) rfl (by kernel_rfl) (by kernel_rfl) (by kernel_rfl) (fun _ _ _ h => h) (Or.inl ⟨by rfl, ?_⟩) (by assumption) ?_
      rotate_left
      · intro wq hSw; go_simp; try with_reducible rfl
      simp only [Act.put, List.setIfInBounds_toArray, List.set_cons_zero, List.set_cons_succ, List.getElem_toArray, List.getElem_cons_zero, List.getElem_cons_succ]
      refine wpAnyH_done (by kernel_rfl) ?_ _
      refine NoPanic.normal ?_
      have c2 : w5.cell? ⟨w.heap.size, 2, none⟩ = some (.string key) := (HK2.out.below HS5.out.2 hgl).cell rfl
      clear hHeld
      have hbK : bodyK ⟨1, n, key, val⟩ = [1] ++ vput n ++ vtext (strB key) := rfl
      have hkl := (bodyK_len HC.out).1
      have hl6 := vtext_length (strB key) (by rw [strB_length]; omega)
      rw [strB_length] at hl6
      go_wp2_with fail
      refine (S2.refText_any key _ (by omega)).mono ?_
      rintro e w6 ⟨v6, rfl, ho6, hb6⟩
      obtain ⟨sp6, cap6, rfl, _, _⟩ := ownsRow_slice ho6
      have HI6 := Lib.hid (isBytes_own (vtext_lt (strB_lt _)) ho6)
      have HS6 := Lib.hid (HS5.out.below hb6)
      clear ho6 hb6 HS5 c2
      have hl7 := vtext_length (strB val) (by rw [strB_length]; omega)
      rw [strB_length] at hl7
      have hbd : body ⟨1, n, key, val⟩ = bodyK ⟨1, n, key, val⟩ ++ vtext (strB val) := rfl
      go_wp2_with (at_builtin; refine wpList_append_bytes rfl (.tmp 16) (.tmp 19) rfl w2.heap.size _ _ _ rfl HS6.out.1 _ (vtext (strB key)) rfl HI6.out (by rw [List.length_append, List.length_singleton]; omega) HS6.out.2.size ?_; intro v7 w7 hown hgr; have HS7 := Lib.hid (HS6.out.app hown hgr); clear hown hgr; obtain ⟨sp7, N7, cap7, rfl, HN7⟩ := HS7.out.open; rw [← hbK] at HS7; have c0 : w7.cell? ⟨w.heap.size, 0, none⟩ = some (.int .i64 1) := (HK2.out.below HS7.out.2 hgl).cell rfl; have c3 : w7.cell? ⟨w.heap.size, 3, none⟩ = some (.string val) := (HK2.out.below HS7.out.2 hgl).cell rfl; clear HS6 HI6 hbK HN5)
      refine (S2.refText_any val _ (by omega)).mono ?_
      rintro e w8 ⟨v8, rfl, ho8, hb8⟩
      obtain ⟨sp8, cap8, rfl, _, _⟩ := ownsRow_slice ho8
      have HI8 := Lib.hid (isBytes_own (vtext_lt (strB_lt _)) ho8)
      have HS8 := Lib.hid (HS7.out.below hb8)
      clear ho8 hb8 HS7 c0 c3
      go_wp2_with (at_builtin; refine wpList_append_bytes rfl (.tmp 24) (.tmp 27) rfl w2.heap.size _ _ _ rfl HS8.out.1 _ (vtext (strB val)) rfl HI8.out (by omega) HS8.out.2.size ?_; intro v9 w9 hown hgr; have HS9 := Lib.hid (HS8.out.app hown hgr); clear hown hgr; obtain ⟨sp9, N9, cap9, rfl, HN9⟩ := HS9.out.open; rw [← hbd] at HS9; clear HS8 HI8 hbd HN7)
      have hlt : ∀ x ∈ body ⟨1, n, key, val⟩, x < 256 := body_lt (kind_lt HF.out)
      refine (S3.refSeal_any _ (body ⟨1, n, key, val⟩) w9 (HS9.out.is hlt) (by have := (body_len HC.out).1; omega)).mono ?_
      rintro e w10 ⟨v10, rfl, ho10, hb10⟩
      have HO10 := Lib.hid ho10
      have HB10 := Lib.hid (HB2.out.trans ((HS9.out.2.trans (hb10.mono HS9.out.2.size)).mono HB2.out.size))
      have hsz := Nat.le_trans HB2.out.size HS9.out.2.size
      have hen := HE.out
      clear ho10 hb10
      go_wp2
      go_ret
      exact ⟨_, rfl, by rw [hen]; exact own_base HO10.out hsz, HB10.out⟩
  · have d0 : ∀ W, From w2 W → W.cell? ⟨w.heap.size, 0, none⟩ = some (.int .i64 0) := fun W h => (Below.cell (p := ⟨w.heap.size, 0, none⟩) h hgl).trans c0
    have d1 : ∀ W, From w2 W → W.cell? ⟨w.heap.size, 1, none⟩ = some (.int .i64 n) := fun W h => (Below.cell (p := ⟨w.heap.size, 1, none⟩) h hgl).trans c1
    have hn3 := vput_short (n := n) (by omega)
    go_wp2_with fail
    have hwn : IntKind.u64.wrap (n : Int) = n := by rw [IntKind.wrap_u64]; omega
    have hw8 : IntKind.u8.wrap 0 = 0 := rfl
    refine wp_region_noPanic ?_
    have hHeld : From w2 w2.drew := (Below.refl _ _).drew
    refine wpAnyH_start (n := 10) (l := #[false, false, false, false, false, false, false, false, false, false]) (S := From w2) (by kernel_rfl) (hHeld) (by kernel_rfl) (by kernel_rfl) ?_
    refine wpAnyH_take (i := 0) (oi := _) (v := ?_) rfl (by kernel_rfl) (by kernel_rfl) (by kernel_rfl) (fun _ _ _ h => h) (Or.inl ⟨by rfl, ?_⟩) (by assumption) ?_
    rotate_left
    · intro wq hSw; go_simp; try with_reducible rfl
    simp only [Act.put, List.setIfInBounds_toArray, List.set_cons_zero, List.set_cons_succ, List.getElem_toArray, List.getElem_cons_zero, List.getElem_cons_succ]
    refine wpAnyH_take (i := 1) (oi := _) (v := ?_) rfl (by kernel_rfl) (by kernel_rfl) (by kernel_rfl) (fun _ _ _ h => h) (Or.inl ⟨by rfl, ?_⟩) (by assumption) ?_
    rotate_left
    · intro wq hSw; go_simp; try with_reducible rfl
    simp only [Act.put, List.setIfInBounds_toArray, List.set_cons_zero, List.set_cons_succ, List.getElem_toArray, List.getElem_cons_zero, List.getElem_cons_succ]
    refine wpAnyH_take (i := 2) (oi := _) (v := ?_) rfl (by kernel_rfl) (by kernel_rfl) (by kernel_rfl) (fun _ _ _ h => h) (Or.inl ⟨by rfl, ?_⟩) (by assumption) ?_
    rotate_left
    · intro wq hSw; go_simp; try with_reducible rfl
    simp only [Act.put, List.setIfInBounds_toArray, List.set_cons_zero, List.set_cons_succ, List.getElem_toArray, List.getElem_cons_zero, List.getElem_cons_succ]
    refine wpAnyH_take (i := 4) (oi := _) (v := ?_) rfl (by kernel_rfl) (by kernel_rfl) (by kernel_rfl) (fun _ _ _ h => h) (Or.inl ⟨by rfl, ?_⟩) (by assumption) ?_
    rotate_left
    · intro wq hSw; go_simp; try with_reducible rfl
    simp only [Act.put, List.setIfInBounds_toArray, List.set_cons_zero, List.set_cons_succ, List.getElem_toArray, List.getElem_cons_zero, List.getElem_cons_succ]
    refine wpAnyH_take (i := 5) (oi := _) (v := ?_) rfl (by kernel_rfl) (by kernel_rfl) (by kernel_rfl) (fun _ _ _ h => h) (Or.inl ⟨by rfl, ?_⟩) (by assumption) ?_
    rotate_left
    · intro wq hSw; go_simp; try with_reducible rfl
    simp only [Act.put, List.setIfInBounds_toArray, List.set_cons_zero, List.set_cons_succ, List.getElem_toArray, List.getElem_cons_zero, List.getElem_cons_succ]
    refine wpAnyH_take (i := 6) (oi := _) (v := ?_) rfl (by kernel_rfl) (by kernel_rfl) (by kernel_rfl) (fun _ _ _ h => h) (Or.inl ⟨by rfl, ?_⟩) (by assumption) ?_
    rotate_left
    · intro wq hSw; go_simp; try with_reducible rfl
    simp only [Act.put, List.setIfInBounds_toArray, List.set_cons_zero, List.set_cons_succ, List.getElem_toArray, List.getElem_cons_zero, List.getElem_cons_succ]
    clear d0 d1 c0 c1
    refine wpAnyH_ready (rs := [3, 7]) (by kernel_rfl) (by simp) ?_
    refine AllReadyH.cons (o := _) rfl (fun K hK => ?_) (AllReadyH.cons (o := _) rfl (fun K hK => ?_) AllReadyH.nil)
    all_goals simp only [List.getElem_toArray, List.getElem_cons_zero, List.getElem_cons_succ]
    all_goals go_simp
    have hS3 : Sofar w2 (w2.alloc (.cells #[.int .u8 0] 5)).drew _ _ := (sofar_one w2 0).below (Below.refl _ _).drew
    obtain ⟨w3, hw3⟩ : ∃ w3, (w2.alloc (.cells #[.int .u8 0] 5)).drew = w3 := ⟨_, rfl⟩
    rw [hw3]
    have hS3' : Sofar w2 w3 (.slice (some ⟨w2.heap.size, 0, none⟩) 1 1) [0] := by rw [← hw3]; exact hS3
    have HS3 := Lib.hid hS3'
    clear hS3 hS3' hw3
    refine hK.out _ _ (HS3.out.2) (fun _ => ?_)
    clear hK K hHeld
    have hHeld := HS3.out.2
    simp only [Act.put, List.setIfInBounds_toArray, List.set_cons_zero, List.set_cons_succ, List.getElem_toArray, List.getElem_cons_zero, List.getElem_cons_succ]
    refine wpAnyH_ready (rs := [7]) (by kernel_rfl) (by simp) ?_
    refine AllReadyH.cons (o := _) rfl (fun K hK => ?_) AllReadyH.nil
    simp only [List.getElem_toArray, List.getElem_cons_zero, List.getElem_cons_succ]
    go_simp
    refine (S2.refPut_any n _ HU.out).mono ?_
    rintro e w4 ⟨v4, rfl, ho4, hb4⟩
    obtain ⟨sp4, cap4, rfl, _, _⟩ := ownsRow_slice ho4
    have HI4 := Lib.hid (isBytes_own (vput_lt _) ho4)
    rw [Int.toNat_natCast] at HI4 ⊢
    have HS4 := Lib.hid (HS3.out.below hb4)
    clear ho4 hb4 HS3
    refine hK.out _ _ (HS4.out.2) (fun _ => ?_)
    clear hK K hHeld
    have hHeld := HS4.out.2
    simp only [Act.put, List.setIfInBounds_toArray, List.set_cons_zero, List.set_cons_succ, List.getElem_toArray, List.getElem_cons_zero, List.getElem_cons_succ]
    rotate_left
    refine (S2.refPut_any n _ HU.out).mono ?_
    rintro e w3 ⟨v3, rfl, ho3, hb3⟩
    obtain ⟨sp3, cap3, rfl, _, _⟩ := ownsRow_slice ho3
    have HI3 := Lib.hid (isBytes_own (vput_lt _) ho3)
    rw [Int.toNat_natCast] at HI3 ⊢
    have hE3 : From w2 w3 := (hHeld : From w2 w2.drew).trans hb3
    have HB3 : Hid (True ∧ From w2 w3) := Lib.hid ⟨trivial, hE3⟩
    clear ho3 hb3 hE3
    refine hK.out _ _ (HB3.out.2) (fun _ => ?_)
    clear hK K hHeld
    have hHeld := HB3.out.2
    simp only [Act.put, List.setIfInBounds_toArray, List.set_cons_zero, List.set_cons_succ, List.getElem_toArray, List.getElem_cons_zero, List.getElem_cons_succ]
    refine wpAnyH_ready (rs := [3]) (by kernel_rfl) (by simp) ?_
    refine AllReadyH.cons (o := _) rfl (fun K hK => ?_) AllReadyH.nil
    simp only [List.getElem_toArray, List.getElem_cons_zero, List.getElem_cons_succ]
    go_simp
    have HS4 := Lib.hid (sofar_at (k := 0) HB3.out.2)
    have HI4 : Hid (IsBytes _ (.slice sp3 (vput n).length cap3) (vput n)) := Lib.hid (HI3.out.below ((Below.refl _ _).alloc (Nat.le_refl _) (.cells #[.int .u8 0] 5)))
    obtain ⟨w4, hw4⟩ : ∃ w4, w3.alloc (.cells #[.int .u8 0] 5) = w4 := ⟨_, rfl⟩
    have hcast : (((0 : Nat) : Int)) = 0 := rfl
    rw [hcast, hw4] at HS4
    rw [hw4] at HI4 ⊢
    clear hw4 hcast HB3 HI3
    refine hK.out _ _ (HS4.out.2) (fun _ => ?_)
    clear hK K hHeld
    have hHeld := HS4.out.2
    simp only [Act.put, List.setIfInBounds_toArray, List.set_cons_zero, List.set_cons_succ, List.getElem_toArray, List.getElem_cons_zero, List.getElem_cons_succ]
    all_goals
      refine wpAnyH_ready (rs := [8]) (by kernel_rfl) (by simp) ?_
      refine AllReadyH.cons (o := _) rfl (fun K hK => ?_) AllReadyH.nil
      simp only [List.getElem_toArray, List.getElem_cons_zero, List.getElem_cons_succ]
      refine wp_append_bytes1 (.tmp 10) (.tmp 14) rfl w2.heap.size _ _ _ rfl HS4.out.1 _ (vput n) rfl HI4.out (by have := (vput_on n []).2.2.2.2; omega) (by rw [List.length_singleton]; omega) HS4.out.2.size ?_
      intro v5 w5 hown hgr
      have HS5 := Lib.hid (HS4.out.app hown hgr)
      obtain ⟨sp5, N5, cap5, rfl, HN5⟩ := HS5.out.open
      clear hown hgr HS4 HI4
      refine hK.out _ _ (HS5.out.2) (fun _ => ?_)
      clear hK K hHeld
      have hHeld := HS5.out.2
      simp only [Act.put, List.setIfInBounds_toArray, List.set_cons_zero, List.set_cons_succ, List.getElem_toArray, List.getElem_cons_zero, List.getElem_cons_succ]
      refine wpAnyH_take (i := 9) (oi := _) (v := ?_) rfl (by kernel_rfl) (by kernel_rfl) (by kernel_rfl) (fun _ _ _ h => h) (Or.inl ⟨by rfl, ?_⟩) (by assumption) ?_
      rotate_left
      · intro wq hSw; go_simp; try with_reducible rfl
      simp only [Act.put, List.setIfInBounds_toArray, List.set_cons_zero, List.set_cons_succ, List.getElem_toArray, List.getElem_cons_zero, List.getElem_cons_succ]
      refine wpAnyH_done (by kernel_rfl) ?_ _
      refine NoPanic.normal ?_
      have c2 : w5.cell? ⟨w.heap.size, 2, none⟩ = some (.string key) := (HK2.out.below HS5.out.2 hgl).cell rfl
      clear hHeld
      have hbK : bodyK ⟨0, n, key, val⟩ = [0] ++ vput n ++ vtext (strB key) := rfl
      have hkl := (bodyK_len HC.out).1
      have hl6 := vtext_length (strB key) (by rw [strB_length]; omega)
      rw [strB_length] at hl6
      go_wp2_with fail
      refine (S2.refText_any key _ (by omega)).mono ?_
      rintro e w6 ⟨v6, rfl, ho6, hb6⟩
      obtain ⟨sp6, cap6, rfl, _, _⟩ := ownsRow_slice ho6
      have HI6 := Lib.hid (isBytes_own (vtext_lt (strB_lt _)) ho6)
      have HS6 := Lib.hid (HS5.out.below hb6)
      clear ho6 hb6 HS5 c2
      have hbd : body ⟨0, n, key, val⟩ = bodyK ⟨0, n, key, val⟩ := rfl
      go_wp2_with (at_builtin; refine wpList_append_bytes rfl (.tmp 16) (.tmp 19) rfl w2.heap.size _ _ _ rfl HS6.out.1 _ (vtext (strB key)) rfl HI6.out (by rw [List.length_append, List.length_singleton]; omega) HS6.out.2.size ?_; intro v7 w7 hown hgr; have HS7 := Lib.hid (HS6.out.app hown hgr); clear hown hgr; obtain ⟨sp7, N7, cap7, rfl, HN7⟩ := HS7.out.open; rw [← hbK, ← hbd] at HS7; have c0 : w7.cell? ⟨w.heap.size, 0, none⟩ = some (.int .i64 0) := (HK2.out.below HS7.out.2 hgl).cell rfl; clear HS6 HI6 hbK hbd HN5)
      have hlt : ∀ x ∈ body ⟨0, n, key, val⟩, x < 256 := body_lt (kind_lt HF.out)
      refine (S3.refSeal_any _ (body ⟨0, n, key, val⟩) w7 (HS7.out.is hlt) (by have := (body_len HC.out).1; omega)).mono ?_
      rintro e w10 ⟨v10, rfl, ho10, hb10⟩
      have HO10 := Lib.hid ho10
      have HB10 := Lib.hid (HB2.out.trans ((HS7.out.2.trans (hb10.mono HS7.out.2.size)).mono HB2.out.size))
      have hsz := Nat.le_trans HB2.out.size HS7.out.2.size
      have hen := HE.out
      clear ho10 hb10
      go_wp2
      go_ret
      exact ⟨_, rfl, by rw [hen]; exact own_base HO10.out hsz, HB10.out⟩

end Go.Proofs.YtdjkkohckfndkaaGreatDoor.S14

/- Texts put together: RcC, RcD. -/
import Derived.Test.YtdjkkohckfndkaaDoorEg6
import Derived.Test.YtdjkkohckfndkaaDoorEg31
set_option linter.unusedSimpArgs false
set_option linter.unusedVariables false
set_option maxRecDepth 100000
namespace Go.Proofs.YtdjkkohckfndkaaDoor.S14
open Go.RowKit S2.Pl S3.Pl S3
attribute [local go_sem ↓] loadR_eq
def EncPost (r : RT) (w : World) (e : Ending) (w' : World) : Prop :=
  ∃ sp cap, e = .returned (.tuple #[.slice sp (enc r).length cap, .int .i64 (chk r : Nat)]) ∧ Hid (w'.ownsRow w.heap.size 5 1 (.slice sp (enc r).length cap) (enc r).length (u8s (enc r))) ∧ Hid (Below w.heap.size w w')
def Sofar (w0 W : World) (v : Value) (B : List Nat) : Prop := W.ownsRow w0.heap.size 5 1 v B.length (u8s B) ∧ Below w0.heap.size w0 W
theorem Sofar.below {w0 W W' : World} {v : Value} {B : List Nat} (h : Sofar w0 W v B) (hb : Below W.heap.size W W') : Sofar w0 W' v B := ⟨own_below h.1 hb, h.2.trans (hb.mono h.2.size)⟩
theorem Sofar.app {w0 W W' : World} {v v' : Value} {B C : List Nat} (h : Sofar w0 W v B) (ho : W'.ownsRow w0.heap.size 5 1 v' (B.length + C.length) (u8s B ++ u8s C)) (hg : W.grownBy W' v.ownBlock) : Sofar w0 W' v' (B ++ C) :=
  ⟨by rw [List.length_append, u8s_append]; exact ho, h.2.grown hg h.2.size (own_lt h.1)⟩
theorem Sofar.is {w0 W : World} {sp : Option Addr} {n cap : Nat} {B : List Nat} (h : Sofar w0 W (.slice sp n cap) B) (hx : ∀ x ∈ B, x < 256) : IsBytes W (.slice sp n cap) B := by
  obtain ⟨_, _, he, _⟩ := ownsRow_slice h.1
  simp at he
  obtain ⟨rfl, rfl, rfl⟩ := he
  exact isBytes_own hx h.1
theorem Sofar.open {w0 W : World} {v : Value} {B : List Nat} (h : Sofar w0 W v B) : ∃ sp N cap, v = .slice sp N cap ∧ Hid (N = B.length) := by
  obtain ⟨sp, cap, he, _⟩ := ownsRow_slice h.1
  exact ⟨sp, B.length, cap, he, Lib.hid rfl⟩
theorem sofar_one (w0 : World) (k : Nat) : Sofar w0 (w0.alloc (.cells #[.int .u8 k] 5)) (.slice (some ⟨w0.heap.size, 0, none⟩) 1 1) [k] :=
  ⟨own_new w0 (u8s [k]) 5 (Nat.le_refl _) (by simp [u8s, maxLen]), (Below.refl _ _).alloc (Nat.le_refl _) _⟩
theorem enc_bad {r : RT} (h : chk r ≠ 0) : enc r = [] := by unfold enc; rw [if_neg h]
theorem enc_good {r : RT} (h : chk r = 0) : enc r = pseal (body r) := by unfold enc; rw [if_pos h]
set_option maxHeartbeats 4000000 in
theorem encode_any (r : RT) (w : World) (hT : Tab w) (hk : r.key.size ≤ maxLen) (hr : r.val.size ≤ maxLen) : Calls Tryd.prog 31 #[.agg #[.int .i64 r.kind, .int .i64 r.seq, .string r.key, .string r.val]] w (EncPost r w) := by
  have hb1 := agg_zero w r
  have hk1 := Blk.new w 34 (recL r)
  obtain ⟨w1, hw1⟩ : ∃ w1, w.alloc (.cells #[.int .i64 r.kind, .int .i64 r.seq, .string r.key, .string r.val] 34) = w1 := ⟨_, rfl⟩
  rw [hw1] at hb1
  have hk1' : Blk w1 w.heap.size 34 (recL r) := by rw [← hw1]; exact hk1
  have hld := run_loadR_blk hk1'
  have hch := check_any r w1 hk hr
  have HK1 := Lib.hid hk1'
  have HB1 := Lib.hid hb1
  have HT := Lib.hid hT
  clear hb1 hk1 hk1' hT
  unfold maxLen at hk hr
  go_enter Tryd.func31, Tryd.ntmps31
  go_wp2_with fail
  refine hch.mono ?_
  rintro e w2 ⟨rfl, hb2⟩
  have hk2 := HK1.out.below hb2 HK1.out.lt
  have HK2 := Lib.hid hk2
  have HB2 := Lib.hid (HB1.out.trans (hb2.mono HB1.out.size))
  have HT2 := Lib.hid (HT.out.below HB2.out)
  clear hk2 hb2 hch HK1 HB1 HT hld hw1
  by_cases h0 : chk r = 0
  rotate_left
  · have q0 : (((chk r : Nat) : Int) != 0) = true := bne_t (by omega)
    go_wp2
    go_ret2
    exact ⟨none, 0, by rw [enc_bad h0]; rfl, Lib.hid (by rw [enc_bad h0]; exact own_nil _ _), HB2⟩
  obtain ⟨k1, k2, k3, k4⟩ := chk_ok h0
  obtain ⟨s1, s2, hkd⟩ := form_ok k4
  have HE := Lib.hid (enc_good h0)
  have HC := Lib.hid h0
  have HF := Lib.hid k4
  rw [h0]
  clear h0 k4
  obtain ⟨k, s, key, val⟩ := r
  simp only at k1 k2 k3 s1 s2 hkd hk hr HK2 ⊢
  obtain ⟨n, rfl⟩ : ∃ n : Nat, s = (n : Int) := ⟨s.toNat, by omega⟩
  have c0 : w2.cell? ⟨w.heap.size, 0, none⟩ = some (.int .i64 k) := HK2.out.cell rfl
  have c1 : w2.cell? ⟨w.heap.size, 1, none⟩ = some (.int .i64 n) := HK2.out.cell rfl
  have hgl := HK2.out.lt
  have hU : U64 (n : Int) := ⟨by omega, by omega⟩
  have HU := Lib.hid hU
  clear hU
  rcases hkd with rfl | ⟨rfl, hv0⟩
  · have HS := Lib.hid (sofar_one w2 1)
    have hn3 := vput_short (n := n) (by omega)
    have hl5 := vtext_length (strB key) (by rw [strB_length]; omega)
    rw [strB_length] at hl5
    have hbK : bodyK ⟨1, n, key, val⟩ = [1] ++ vput n ++ vtext (strB key) := rfl
    have hkl := (bodyK_len HC.out).1
    go_wp2_with fail
    refine (S2.put_any n _ HU.out).mono ?_
    rintro e w3 ⟨v3, rfl, ho3, hb3⟩
    obtain ⟨sp3, cap3, rfl, _, _⟩ := ownsRow_slice ho3
    have HI3 := Lib.hid (isBytes_own (vput_lt _) ho3)
    have HS3 := Lib.hid (HS.out.below hb3)
    rw [Int.toNat_natCast] at HI3 ⊢
    clear ho3 hb3 HS
    go_wp2_with (at_builtin; refine wpList_append_bytes rfl (.tmp 15) (.tmp 19) rfl w2.heap.size _ _ _ rfl HS3.out.1 _ (vput n) rfl HI3.out (by simp only [List.length_singleton]; omega) HS3.out.2.size ?_; intro v4 w4 hown hgr; have HS4 := Lib.hid (HS3.out.app hown hgr); clear hown hgr; obtain ⟨sp4, N4, cap4, rfl, HN4⟩ := HS4.out.open; have c2 : w4.cell? ⟨w.heap.size, 2, none⟩ = some (.string key) := (HK2.out.below HS4.out.2 hgl).cell rfl; clear HS3 HI3 c0 c1)
    refine (S2.text_any key _ (by omega)).mono ?_
    rintro e w5 ⟨v5, rfl, ho5, hb5⟩
    obtain ⟨sp5, cap5, rfl, _, _⟩ := ownsRow_slice ho5
    have HI5 := Lib.hid (isBytes_own (vtext_lt (strB_lt _)) ho5)
    have HS5 := Lib.hid (HS4.out.below hb5)
    clear ho5 hb5 HS4 c2
    have hl7 := vtext_length (strB val) (by rw [strB_length]; omega)
    rw [strB_length] at hl7
    have hbd : body ⟨1, n, key, val⟩ = bodyK ⟨1, n, key, val⟩ ++ vtext (strB val) := rfl
    go_wp2_with (at_builtin; refine wpList_append_bytes rfl (.tmp 21) (.tmp 24) rfl w2.heap.size _ _ _ rfl HS5.out.1 _ (vtext (strB key)) rfl HI5.out (by rw [List.length_append, List.length_singleton]; omega) HS5.out.2.size ?_; intro v6 w6 hown hgr; have HS6 := Lib.hid (HS5.out.app hown hgr); clear hown hgr; obtain ⟨sp6, N6, cap6, rfl, HN6⟩ := HS6.out.open; rw [← hbK] at HS6; have c0 : w6.cell? ⟨w.heap.size, 0, none⟩ = some (.int .i64 1) := (HK2.out.below HS6.out.2 hgl).cell rfl; have c3 : w6.cell? ⟨w.heap.size, 3, none⟩ = some (.string val) := (HK2.out.below HS6.out.2 hgl).cell rfl; clear HS5 HI5 hbK HN4)
    refine (S2.text_any val _ (by omega)).mono ?_
    rintro e w7 ⟨v7, rfl, ho7, hb7⟩
    obtain ⟨sp7, cap7, rfl, _, _⟩ := ownsRow_slice ho7
    have HI7 := Lib.hid (isBytes_own (vtext_lt (strB_lt _)) ho7)
    have HS7 := Lib.hid (HS6.out.below hb7)
    clear ho7 hb7 HS6 c3 c0
    go_wp2_with (at_builtin; refine wpList_append_bytes rfl (.tmp 29) (.tmp 32) rfl w2.heap.size _ _ _ rfl HS7.out.1 _ (vtext (strB val)) rfl HI7.out (by omega) HS7.out.2.size ?_; intro v8 w8 hown hgr; have HS8 := Lib.hid (HS7.out.app hown hgr); clear hown hgr; obtain ⟨sp8, N8, cap8, rfl, HN8⟩ := HS8.out.open; rw [← hbd] at HS8; clear HS7 HI7 hbd HN6)
    have hlt : ∀ x ∈ body ⟨1, n, key, val⟩, x < 256 := body_lt (kind_lt HF.out)
    refine (S3.seal_any _ (body ⟨1, n, key, val⟩) w8 (HT2.out.below HS8.out.2) (HS8.out.is hlt) (by have := (body_len HC.out).1; omega)).mono ?_
    intro e w9 h9
    obtain ⟨sp9, cap9, rfl, ho9, hb9⟩ := h9.s
    have HO9 := Lib.hid ho9
    have HB9 := Lib.hid (HB2.out.trans ((HS8.out.2.trans (hb9.mono HS8.out.2.size)).mono HB2.out.size))
    have hsz := Nat.le_trans HB2.out.size HS8.out.2.size
    have hen := HE.out
    clear h9 ho9 hb9
    go_wp2
    go_ret2
    exact ⟨sp9, cap9, by rw [hen, HC.out]; rfl, Lib.hid (by rw [hen]; exact own_base HO9.out hsz), HB9⟩
  · have HS := Lib.hid (sofar_one w2 0)
    have hn3 := vput_short (n := n) (by omega)
    have hl5 := vtext_length (strB key) (by rw [strB_length]; omega)
    rw [strB_length] at hl5
    have hbK : bodyK ⟨0, n, key, val⟩ = [0] ++ vput n ++ vtext (strB key) := rfl
    have hkl := (bodyK_len HC.out).1
    go_wp2_with fail
    refine (S2.put_any n _ HU.out).mono ?_
    rintro e w3 ⟨v3, rfl, ho3, hb3⟩
    obtain ⟨sp3, cap3, rfl, _, _⟩ := ownsRow_slice ho3
    have HI3 := Lib.hid (isBytes_own (vput_lt _) ho3)
    have HS3 := Lib.hid (HS.out.below hb3)
    rw [Int.toNat_natCast] at HI3 ⊢
    clear ho3 hb3 HS
    go_wp2_with (at_builtin; refine wpList_append_bytes rfl (.tmp 15) (.tmp 19) rfl w2.heap.size _ _ _ rfl HS3.out.1 _ (vput n) rfl HI3.out (by simp only [List.length_singleton]; omega) HS3.out.2.size ?_; intro v4 w4 hown hgr; have HS4 := Lib.hid (HS3.out.app hown hgr); clear hown hgr; obtain ⟨sp4, N4, cap4, rfl, HN4⟩ := HS4.out.open; have c2 : w4.cell? ⟨w.heap.size, 2, none⟩ = some (.string key) := (HK2.out.below HS4.out.2 hgl).cell rfl; clear HS3 HI3 c0 c1)
    refine (S2.text_any key _ (by omega)).mono ?_
    rintro e w5 ⟨v5, rfl, ho5, hb5⟩
    obtain ⟨sp5, cap5, rfl, _, _⟩ := ownsRow_slice ho5
    have HI5 := Lib.hid (isBytes_own (vtext_lt (strB_lt _)) ho5)
    have HS5 := Lib.hid (HS4.out.below hb5)
    clear ho5 hb5 HS4 c2
    have hbd : body ⟨0, n, key, val⟩ = bodyK ⟨0, n, key, val⟩ := rfl
    go_wp2_with (at_builtin; refine wpList_append_bytes rfl (.tmp 21) (.tmp 24) rfl w2.heap.size _ _ _ rfl HS5.out.1 _ (vtext (strB key)) rfl HI5.out (by rw [List.length_append, List.length_singleton]; omega) HS5.out.2.size ?_; intro v6 w6 hown hgr; have HS6 := Lib.hid (HS5.out.app hown hgr); clear hown hgr; obtain ⟨sp6, N6, cap6, rfl, HN6⟩ := HS6.out.open; rw [← hbK, ← hbd] at HS6; have c0 : w6.cell? ⟨w.heap.size, 0, none⟩ = some (.int .i64 0) := (HK2.out.below HS6.out.2 hgl).cell rfl; clear HS5 HI5 hbK hbd HN4)
    have hlt : ∀ x ∈ body ⟨0, n, key, val⟩, x < 256 := body_lt (kind_lt HF.out)
    refine (S3.seal_any _ (body ⟨0, n, key, val⟩) w6 (HT2.out.below HS6.out.2) (HS6.out.is hlt) (by have := (body_len HC.out).1; omega)).mono ?_
    intro e w9 h9
    obtain ⟨sp9, cap9, rfl, ho9, hb9⟩ := h9.s
    have HO9 := Lib.hid ho9
    have HB9 := Lib.hid (HB2.out.trans ((HS6.out.2.trans (hb9.mono HS6.out.2.size)).mono HB2.out.size))
    have hsz := Nat.le_trans HB2.out.size HS6.out.2.size
    have hen := HE.out
    clear h9 ho9 hb9
    go_wp2
    go_ret2
    exact ⟨sp9, cap9, by rw [hen, HC.out]; rfl, Lib.hid (by rw [hen]; exact own_base HO9.out hsz), HB9⟩
end Go.Proofs.YtdjkkohckfndkaaDoor.S14
namespace Go.Proofs.YtdjkkohckfndkaaDoor.S14
open Go.RowKit S2.Pl S3.Pl S3
attribute [local go_sem ↓] loadR_eq
end Go.Proofs.YtdjkkohckfndkaaDoor.S14

/- Texts put together: RawI, RawJ. -/
import Derived.Test.YtdjkkohckfndkaaGreatDoorEg42
set_option linter.unusedSimpArgs false
set_option linter.unusedVariables false
set_option maxRecDepth 100000
namespace Go.Proofs.YtdjkkohckfndkaaGreatDoor.S15
open Go.RowKit S13 S13.Dk S14 S3 S2.Pl S3.Pl
def st1 (room : Nat) (nm : Nm) (B : List Nat) (y c : Nat) (last : Dir) (pend : List Chg) : St := ⟨room, [(B, y)], [(nm, 0)], last, pend, c, none⟩
theorem new_create (r : Int) (nm : Nm) (h : isNm nm = true) : create (new r) nm = (st1 (clampN r) nm [] 0 1 [] [([], nm, some 0)], 0) := by
  have e : create (new r) nm = if isNm nm = false then (({ new r with calls := 1 } : St), 10) else (st1 (clampN r) nm [] 0 1 [] [([], nm, some 0)], 0) := rfl
  rw [e, if_neg (by rw [h]; simp)]
theorem st1_get (nm : Nm) : dget [(nm, 0)] nm = some 0 := by simp [dget]
theorem st1_used (room : Nat) (nm : Nm) (B : List Nat) (y c : Nat) (last : Dir) (pend : List Chg) : (st1 room nm B y c last pend).used = B.length := by simp [St.used, st1, St.file]
theorem st1_app (room : Nat) (nm : Nm) (B X : List Nat) (y c : Nat) (last : Dir) (pend : List Chg) : append (st1 room nm B y c last pend) nm X = if B.length + X.length > room then (st1 room nm B y (c + 1) last pend, 4) else (st1 room nm (B ++ X) y (c + 1) last pend, 0) := by
  have hb : beg (st1 room nm B y c last pend) = (st1 room nm B y (c + 1) last pend, false) := rfl
  have hu := st1_used room nm B y (c + 1) last pend
  unfold append withF withB
  rw [hb]
  simp only [Bool.false_eq_true, if_false]
  rw [show (st1 room nm B y (c + 1) last pend).now = [(nm, 0)] from rfl, st1_get]
  simp only [hu]
  rfl
theorem st1_read (room : Nat) (nm : Nm) (B : List Nat) (y c : Nat) (last : Dir) (pend : List Chg) : readF (st1 room nm B y c last pend) nm = some B := by
  unfold readF
  rw [show (st1 room nm B y c last pend).now = [(nm, 0)] from rfl, st1_get]
  rfl
theorem lastI_endL (G : List RT) (i : Nat) : lastI (endL G i) = ((encs (G.take i)).length : Int) := by
  unfold lastI
  rw [endL_length]
  by_cases h : i = 0
  · subst h; simp [encs]
  · rw [if_neg h, endL_get G (by omega), show i - 1 + 1 = i by omega]
theorem endL_take {G H : List RT} {i : Nat} (h : G.take i = H.take i) : endL G i = endL H i := by
  unfold endL
  refine List.map_congr_left fun j hj => ?_
  have hj := List.mem_range.1 hj
  have e : G.take (j + 1) = H.take (j + 1) := by
    have := congrArg (List.take (j + 1)) h
    rw [List.take_take, List.take_take, Nat.min_eq_left (by omega)] at this
    exact this
  rw [e]
theorem endL_snoc {G : List RT} {r : RT} (hr : chk r = 0) : endL G G.length ++ [lastI (endL G G.length) + ((enc r).length : Nat)] = endL (G ++ [r]) (G ++ [r]).length := by
  rw [List.length_append, List.length_singleton, endL_succ, lastI_endL, List.take_length]
  have e1 : endL (G ++ [r]) G.length = endL G G.length := endL_take (by rw [List.take_append_of_le_length (Nat.le_refl _)])
  have e2 : (G ++ [r]).take (G.length + 1) = G ++ [r] := List.take_of_length_le (by simp)
  rw [e1, e2, encs_append]
  have e3 : encs [r] = enc r := by rw [enc_good hr]; simp [encs]
  rw [e3, List.length_append]
  simp
theorem encs_one {r : RT} (hr : chk r = 0) : encs [r] = enc r := by rw [enc_good hr]; simp [encs]
theorem encs_snoc' {G : List RT} {r : RT} (hr : chk r = 0) : encs (G ++ [r]) = encs G ++ enc r := by rw [encs_append, encs_one hr]
theorem cut_held {G : List RT} (hG : ∀ r ∈ G, chk r = 0) (T : List Nat) {k : Nat} (hk : k < G.length) : cutV (some (encs G ++ T)) (encs (G.take k)).length (encs (G.take (k + 1))).length = (G.getD k zR, 0) := by
  have hs := encs_step hG hk
  have hc : chk (G.getD k zR) = 0 := hG _ (by simp [List.getD, hk])
  have hsp : encs G = encs (G.take (k + 1)) ++ encs (G.drop (k + 1)) := by rw [← encs_append, List.take_append_drop]
  have e1 : ((encs G ++ T).drop (encs (G.take k)).length).take ((encs (G.take (k + 1))).length - (encs (G.take k)).length) = enc (G.getD k zR) := by
    rw [hsp, hs, List.length_append, Nat.add_sub_cancel_left, List.append_assoc, List.append_assoc, List.drop_left, List.take_left]
  have e2 : (encs (G.take (k + 1))).length - (encs (G.take k)).length = (enc (G.getD k zR)).length := by rw [hs, List.length_append]; omega
  unfold cutV
  simp only
  rw [if_neg (by rw [hsp]; simp only [List.length_append]; omega), e1, e2, scan_one hc]
  simp
section
variable {w0 w : World} {p q : Nat} {S S' : St} {n : ByteArray} {G : List RT}
theorem append_held (r : RT) (h : InS w0 p S q n (endL G G.length) w) (hT : Tab w) (hr : chk r = 0) (hn : n.size ≤ maxLen) (hc : S.calls ≤ 1099511627776) (hG : ∀ r ∈ G, chk r = 0) (hE : G.length ≤ 100000) (ha : append S n.data.toList (enc r) = (S', 0)) :
    Calls Tryz.prog 20 #[pP q, .agg #[.int .i64 r.kind, .int .i64 r.seq, .string r.key, .string r.val]] w fun e w' => e = .returned (.tuple #[.int .i64 (G.length : Nat), .int .i64 0]) ∧ InS w0 p S' q n (endL (G ++ [r]) (G ++ [r]).length) w' := by
  obtain ⟨k1, k2, k3, _⟩ := chk_ok hr
  have hl := encs_len hG
  refine (append_any r h hT (by unfold maxLen; omega) (by unfold maxLen; omega) hn hc (by rw [endL_length]; omega) (by rw [lastI_endL]; omega) (by rw [lastI_endL, List.take_length]; omega)).mono ?_
  intro e w' hp
  unfold AppPost at hp
  rw [hr, if_neg (by simp), ha, if_neg (by simp), endL_length, endL_snoc hr] at hp
  exact hp
theorem get_held (k : Nat) (T : List Nat) (h : InS w0 p S q n (endL G G.length) w) (hT : Tab w) (hk : k < G.length) (hn : n.size ≤ maxLen) (hG : ∀ r ∈ G, chk r = 0) (hr : readF S n.data.toList = some (encs G ++ T)) :
    Calls Tryz.prog 34 #[pP q, .int .i64 k] w (GetPost (G.getD k zR, 0) w) := by
  have hg := get_at h hT k (encs (G.take k)).length (encs (G.take (k + 1))).length (by rw [endL_length]; exact hk) (endL_get G hk) (by
    by_cases h0 : k = 0
    · subst h0; simp [encs]
    · rw [if_neg h0, endL_get G (by omega), show k - 1 + 1 = k by omega]) (by rw [encs_step hG hk, List.length_append]; omega) hn
  rw [hr, cut_held hG T hk] at hg
  exact hg
theorem get_out (k : Int) (h : InS w0 p S q n (endL G G.length) w) (hk : k < 0 ∨ (G.length : Int) ≤ k) : Calls Tryz.prog 34 #[pP q, .int .i64 k] w (GetPost (zR, 7) w) := get_range h k (by rw [endL_length]; exact hk)
theorem len_held (h : InS w0 p S q n (endL G G.length) w) : Calls Tryz.prog 35 #[pP q] w fun e w' => e = .returned (.int .i64 (G.length : Nat)) ∧ w' = w := by
  have := len_any h
  rw [endL_length] at this
  exact this
theorem size_held (h : InS w0 p S q n (endL G G.length) w) : Calls Tryz.prog 57 #[pP q] w fun e w' => e = .returned (.int .i64 ((encs G).length : Nat)) ∧ Below w.heap.size w w' := by
  have := size_any h
  rw [lastI_endL, List.take_length] at this
  exact this
theorem create_held {num : Int} {d : ByteArray} (h : InH w0 p S w) (hf : FmtOk num d) (hd : d.size ≤ 100) (hc : S.calls ≤ 1099511627776) (h1 : 1 ≤ num) (h2 : num ≤ 1125899906842624) (hcr : create S (d ++ rawE).data.toList = (S', 0)) :
    Calls Tryz.prog 33 #[pP p, .int .i64 num] w fun e w' => ∃ q, e = .returned (.tuple #[pP q, .int .i64 0]) ∧ InS w0 p S' q (d ++ rawE) (endL [] 0) w' := by
  refine (create_any h hf hd hc).mono ?_
  intro e w' hp
  unfold CreatePost at hp
  rw [if_neg (by omega), hcr, if_pos (by rfl)] at hp
  exact hp
end
end Go.Proofs.YtdjkkohckfndkaaGreatDoor.S15
namespace Go.Proofs.YtdjkkohckfndkaaGreatDoor.S15
open Go.RowKit S13 S13.Dk S14 S3 S2.Pl S3.Pl
theorem nm3 : digS 3 ++ rawE = ⟨#[51, 46, 114, 97, 119]⟩ := by decide
theorem fmt3 : FmtOk 3 (digS 3) := fmt_dig 3 (by decide)
def r1KV : RT := ⟨1, 1, ⟨#[107]⟩, ⟨#[118]⟩⟩
theorem chk_1KV : chk r1KV = 0 := by decide
theorem lay_rec (q : RT) (w : World) : ∃ W2, (storeR (.pointer (some ⟨w.heap.size, 0, none⟩)) (.agg #[.int .i64 q.kind, .int .i64 q.seq, .string q.key, .string q.val])).run Tryz.prog (w.alloc (.cells #[.int .i64 0, .int .i64 0, .string ⟨#[]⟩, .string ⟨#[]⟩] 32)) = .ok () W2 ∧ Hid (Blk W2 w.heap.size 32 (recL q)) ∧ Hid (Below w.heap.size w W2) := by
  obtain ⟨W2, h, h2, h3⟩ := back_rec (w := w) q (Blk.new w 32 (recL zR)) ((Below.refl _ _).alloc (Nat.le_refl _) _) (Nat.le_refl _)
  exact ⟨W2, h, h2, h3⟩
attribute [local go_sem ↓] loadR_eq storeR_eq buildR_eq sliceU8_eq
attribute [local go_sem] run_buildR run_buildR4
set_option maxHeartbeats 16000000 in
theorem begun_any (w : World) (hT : Tab w) : Calls Tryz.prog 8 #[] w fun e w' => e = .returned (.bool true) ∧ Below w.heap.size w w' := by
  have HT : Hid (∀ W, Below w.heap.size w W → Tab W) := Lib.hid fun W hW => hT.below hW
  have hnew := new_n 10000 w
  clear hT
  go_enter Tryz.func8, Tryz.ntmps8
  go_wp2_with fail
  refine hnew.mono ?_
  rintro e w1 ⟨p, rfl, hI1⟩
  have hcr := create_held (d := digS 3) hI1 fmt3 (by decide) (by decide) (by decide) (by decide) (new_create 10000 _ (by rw [nm3]; decide))
  rw [show clampN 10000 = 10000 by decide] at hcr
  obtain ⟨nm, hnm⟩ : ∃ nm, digS 3 ++ rawE = nm := ⟨_, rfl⟩
  have hnz : nm.size ≤ maxLen := by rw [← hnm]; exact raw_size (by decide)
  have HNM3 := Lib.hid (name_any 3 (digS 3) fmt3 (by decide))
  rw [hnm] at hcr HNM3
  have HNM : Hid (nm = ⟨#[51, 46, 114, 97, 119]⟩) := Lib.hid (by rw [← hnm]; exact nm3)
  obtain ⟨S1, hS1⟩ : ∃ S1, st1 10000 nm.data.toList [] 0 1 [] [([], nm.data.toList, some 0)] = S1 := ⟨_, rfl⟩
  rw [hS1] at hcr
  clear hnew hI1 hnm
  go_wp2_with fail
  refine hcr.mono ?_
  rintro e w2 ⟨q, rfl, hI2⟩
  have hel := enc_len r1KV
  have hap := append_held (G := []) r1KV hI2 (HT.out w2 hI2.bel) chk_1KV hnz (by rw [← hS1]; show (1 : Nat) ≤ 1099511627776; decide) (by simp) (by decide) (by rw [← hS1]; rw [st1_app, if_neg (by simp; omega)])
  obtain ⟨S2, hS2⟩ : ∃ S2, st1 10000 nm.data.toList ([] ++ enc r1KV) 0 (1 + 1) [] [([], nm.data.toList, some 0)] = S2 := ⟨_, rfl⟩
  rw [hS2] at hap
  have hrd : readF S2 nm.data.toList = some (encs [r1KV] ++ []) := by rw [← hS2, st1_read, encs_one chk_1KV, List.append_nil, List.nil_append]
  simp only [r1KV] at hap
  have HRD := Lib.hid hrd
  clear hcr hI2 hel hS1 hS2 hrd
  go_wp2_with fail
  refine hap.mono ?_
  rintro e w3 ⟨rfl, hI3⟩
  have HI3 : Hid (InS w p S2 q nm (endL [r1KV] [r1KV].length) w3) := Lib.hid hI3
  have hg0 := get_held (G := [r1KV]) 0 [] HI3.out (HT.out w3 HI3.out.bel) (by decide) hnz (by simp [chk_1KV]) HRD.out
  unfold GetPost at hg0
  have hg0 : Calls Tryz.prog 34 #[pP q, .int .i64 0] w3 fun e w' => e = .returned (.tuple #[.agg #[.int .i64 1, .int .i64 1, .string ⟨#[107]⟩, .string ⟨#[118]⟩], .int .i64 0]) ∧ Hid (Below w3.heap.size w3 w') := hg0
  have hl0 : ((([] : List RT).length : Nat) : Int) = 0 := rfl
  rw [hl0]
  clear hap hI3 hl0
  go_wp2_with fail
  refine hg0.mono ?_
  rintro e w4 ⟨rfl, hb4⟩
  have HI4 := Lib.hid (HI3.out.below hb4.out)
  obtain ⟨w5, hst5, HR5, HG5⟩ := lay_rec r1KV w4
  simp only [r1KV] at hst5
  have HI5 := Lib.hid (HI4.out.below HG5.out)
  have hg1 := get_out (G := [r1KV]) 1 HI5.out (by decide)
  unfold GetPost at hg1
  have hg1 : Calls Tryz.prog 34 #[pP q, .int .i64 1] w5 fun e w' => e = .returned (.tuple #[.agg #[.int .i64 0, .int .i64 0, .string ⟨#[]⟩, .string ⟨#[]⟩], .int .i64 7]) ∧ Hid (Below w5.heap.size w5 w') := hg1
  clear hg0 hb4
  go_wp2_with fail
  refine hg1.mono ?_
  rintro e w6 ⟨rfl, hb6⟩
  have HI6 := Lib.hid (HI5.out.below hb6.out)
  have HR6 := Lib.hid (HR5.out.below hb6.out HR5.out.lt)
  obtain ⟨w7, hst7, HR7, HG7⟩ := lay_rec zR w6
  simp only [zR] at hst7
  have HI7 := Lib.hid (HI6.out.below HG7.out)
  have hc3 : w7.cell? ⟨w4.heap.size, 3, none⟩ = some (.string ⟨#[118]⟩) := (HR6.out.below HG7.out HR6.out.lt).cell (o := 3) rfl
  have hln := len_held (G := [r1KV]) HI7.out
  have hln : Calls Tryz.prog 35 #[pP q] w7 fun e w' => e = .returned (.int .i64 1) ∧ w' = w7 := hln
  clear hg1 hb6 hst5
  go_wp2_with fail
  refine hln.mono ?_
  rintro e w8 ⟨rfl, rfl⟩
  have hn3 := HNM3.out w8
  rw [HNM.out] at hn3
  clear hln
  go_wp2_with fail
  refine hn3.mono ?_
  rintro e w9 ⟨rfl, rfl⟩
  clear hn3
  go_wp2_with fail
  go_ret
  exact ⟨rfl, HI7.out.bel⟩
end Go.Proofs.YtdjkkohckfndkaaGreatDoor.S15

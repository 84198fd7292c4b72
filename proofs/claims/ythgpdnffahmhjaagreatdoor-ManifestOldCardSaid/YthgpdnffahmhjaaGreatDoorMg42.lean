/- Texts put together: MaN, MaE. -/
import Derived.Test.YthgpdnffahmhjaaGreatDoorMg31
import Derived.Test.YthgpdnffahmhjaaGreatDoorMg41
set_option linter.unusedSimpArgs false
set_option linter.unusedVariables false
set_option maxRecDepth 100000
namespace Go.Proofs.YthgpdnffahmhjaaGreatDoor.S19
open Go.RowKit S13 S13.Dk S15
abbrev Fl := List Nat × Nat
def stM (room : Nat) (nm : Nm) (P : List Fl) (B : List Nat) (y c : Nat) (last : Dir) (pend : List Chg) : St := ⟨room, P ++ [(B, y)], [(nm, P.length)], last, pend, c, none⟩
section
variable (room : Nat) (nm : Nm) (P : List Fl) (B : List Nat) (y c : Nat) (last : Dir) (pend : List Chg)
theorem one_get (i : Nat) : dget [(nm, i)] nm = some i := by simp [dget]
theorem stM_file : (stM room nm P B y c last pend).file P.length = (B, y) := by simp [St.file, stM]
theorem stM_used : (stM room nm P B y c last pend).used = B.length := by
  have h := stM_file room nm P B y c last pend
  have e : (stM room nm P B y c last pend).used = [((stM room nm P B y c last pend).file P.length).1.length].sum := rfl
  rw [e, h]
  simp
theorem stM_put (x : Fl) : (stM room nm P B y c last pend).put P.length x = stM room nm P x.1 x.2 c last pend := by
  simp [St.put, stM]
theorem stM_beg : beg (stM room nm P B y c last pend) = (stM room nm P B y (c + 1) last pend, false) := rfl
theorem stM_withF (f : St → Nat → St × Nat) : withF (stM room nm P B y c last pend) nm f = f (stM room nm P B y (c + 1) last pend) P.length := by
  unfold withF withB
  rw [stM_beg]
  simp only [Bool.false_eq_true, if_false]
  rw [show (stM room nm P B y (c + 1) last pend).now = [(nm, P.length)] from rfl, one_get]
theorem stM_app (X : List Nat) : append (stM room nm P B y c last pend) nm X = if B.length + X.length > room then (stM room nm P B y (c + 1) last pend, 4) else (stM room nm P (B ++ X) y (c + 1) last pend, 0) := by
  unfold append
  rw [stM_withF]
  simp only [stM_used, stM_file, stM_put]
  rfl
theorem stM_sync : sync (stM room nm P B y c last pend) nm = (stM room nm P B B.length (c + 1) last pend, 0) := by
  unfold sync
  rw [stM_withF]
  simp only [stM_file, stM_put]
theorem stM_syncDir : syncDir (stM room nm P B y c last pend) = (stM room nm P B y (c + 1) [(nm, P.length)] [], 0) := rfl
theorem stM_read : readF (stM room nm P B y c last pend) nm = some B := by
  unfold readF
  rw [show (stM room nm P B y c last pend).now = [(nm, P.length)] from rfl, one_get, Option.map_some, stM_file]
theorem stM_crash (ts : List Int) (ht : ts = []) : crash (stM room nm P B B.length c [(nm, P.length)] []) 0 ts = stM room nm [] B B.length 0 [(nm, 0)] [] := by
  subst ht
  have e : crash (stM room nm P B B.length c [(nm, P.length)] []) 0 [] = ⟨room, [tornF ((stM room nm P B B.length c [(nm, P.length)] []).file P.length) 0], [(nm, 0)], [(nm, 0)], [], 0, none⟩ := rfl
  rw [e, stM_file]
  unfold tornF stM
  simp
end
section
variable {room : Nat} {nm sp : Nm} {P : List Fl} {B C : List Nat} {y c z : Nat} {last : Dir} {pend : List Chg}
end
section
variable {room : Nat} {nm : Nm} {P : List Fl} {B E : List Nat} {y c : Nat} {last : Dir} {pend : List Chg}
theorem extd_stM (h : B.length + E.length ≤ room) : extd (stM room nm P B y c last pend) nm E = (stM room nm P (B ++ E) (B ++ E).length (c + 2) last pend, 0) := by
  unfold extd
  have ha : append (stM room nm P B y c last pend) nm E = (stM room nm P (B ++ E) y (c + 1) last pend, 0) := by rw [stM_app, if_neg (by omega)]
  rw [ha]
  simp only [ne_eq, not_true_eq_false, if_false]
  unfold twiceS
  simp only [stM_sync]
  simp
end
def nM : Nm := [77, 65, 78, 73, 70, 69, 83, 84]
def nN : Nm := [78, 69, 87]
theorem rewr_new {n : Int} {C : List Nat} (hr : C.length ≤ clampN n) : rewr (new n) nN nM C = (stM (clampN n) nM [] C C.length 5 [(nM, 0)] [], 0) := by
  have h1 : create (new n) nN = (stM (clampN n) nN [] [] 0 1 [] [([], nN, some 0)], 0) := rfl
  have h2 : append (stM (clampN n) nN [] [] 0 1 [] [([], nN, some 0)]) nN C = (stM (clampN n) nN [] C 0 2 [] [([], nN, some 0)], 0) := by
    rw [stM_app, if_neg (by simp; omega)]; simp
  have hw : wrt (new n) nN C = (stM (clampN n) nN [] C C.length 3 [] [([], nN, some 0)], 0) := by
    unfold wrt
    rw [h1]
    simp only [ne_eq, not_true_eq_false, if_false]
    unfold extd
    rw [h2]
    simp only [ne_eq, not_true_eq_false, if_false]
    unfold twiceS
    simp only [stM_sync]
    simp
  have h4 : rename (stM (clampN n) nN [] C C.length 3 [] [([], nN, some 0)]) nN nM = (stM (clampN n) nM [] C C.length 4 [] [([], nN, some 0), (nN, nM, some 0)], 0) := by
    unfold rename
    rw [stM_withF]
    rfl
  unfold rewr rewr1
  rw [hw]
  simp only [if_true, ne_eq, not_true_eq_false, if_false]
  rw [h4]
  simp only [if_true, ne_eq, not_true_eq_false, if_false]
  unfold twiceS
  simp only [stM_syncDir]
  simp
end Go.Proofs.YthgpdnffahmhjaaGreatDoor.S19
namespace Go.Proofs.YthgpdnffahmhjaaGreatDoor.S19
open Go.RowKit Go.Maps Go.Shelf Go.Sort S18 S13 S13.Dk S15 S3 S2.Pl S3.Pl
theorem nmM_is : nmM.data.toList = nM := rfl
theorem nmN_is : nmN.data.toList = nN := rfl
def R20 : Nat := clampN 1048576
theorem R20_is : R20 = 1048576 := by decide
def E1 : ED := wholeM MS1
theorem fine_1 : Fine E1 := whole_ok mok_1
def e5 : ED := ⟨5, 0, [⟨3, false, 0, 0, 0, 0⟩], [], [], []⟩
theorem fine_5 : Fine e5 := ⟨by decide, by simp [e5, EdW, sumW]⟩
def M5 : MS := ⟨5, 1, [⟨3, false, 0, 0, 0, 0⟩], []⟩
theorem app_5 : applyM MS1 e5 false = some M5 := rfl
theorem encs_1 : encE E1 = encs [E1] := by rw [encE_fine fine_1]; simp [encs]
theorem enc_add (G : List ED) {e : ED} (h : Fine e) : encs G ++ encE e = encs (G ++ [e]) := by rw [encE_fine h, encs_snoc]
theorem row_nil (k : IntKind) (w : World) : IsRow k w none 0 0 [] := .inl ⟨rfl, rfl, rfl, rfl⟩
theorem run_buildE02 (w : World) (n : Int) (a : Option Addr) (m c : Nat) : (buildE #[(0, .int .i64 n), (2, .slice a m c)]).run Tryz.prog w = .ok (.agg #[.int .i64 n, .int .i64 0, .slice a m c, .slice none 0 0, .slice none 0 0, .slice none 0 0]) w := by kernel_rfl
theorem run_buildE00 (w : World) (n : Int) : (buildE #[(0, .int .i64 n)]).run Tryz.prog w = .ok (.agg #[.int .i64 n, .int .i64 0, .slice none 0 0, .slice none 0 0, .slice none 0 0, .slice none 0 0]) w := by kernel_rfl
theorem run_buildS1 (w : World) (n : Int) : (buildS #[(0, .int .i64 n)]).run Tryz.prog w = .ok (.agg #[.int .i64 n, .bool false, .int .i64 0, .int .i64 0, .int .i64 0, .int .u32 0]) w := by kernel_rfl
theorem one_seg (w : World) (s : SG) (hs : sumW s.sum) : IsSegs (fun b => b = w.heap.size) (w.alloc (.cells (segL s).toArray 40)) (.slice (some ⟨w.heap.size, 0, none⟩) 1 1) [s] := by
  have hb := Blk.new w 40 (segL s)
  refine ⟨_, _, rfl, Nat.le_refl _, by unfold maxLen; omega, (fun e => by cases e), fun h0 => ⟨w.heap.size, 0, rfl, rfl, hb.lt, fun i x hx => ?_⟩⟩
  have hi : i = 0 := by have := (List.getElem?_eq_some_iff.1 hx).1; simp at this; exact this
  subst hi
  simp at hx
  subst hx
  exact ⟨segL s, ⟨rfl, hs⟩, fun j u hj => by rw [Nat.zero_mul, Nat.zero_add]; simpa using hb.cell hj⟩
attribute [local go_sem ↓] buildE_eq buildS_eq
attribute [local go_sem] run_buildE02 run_buildS1
set_option maxHeartbeats 16000000 in
theorem begun_any (w : World) (hT : Tab w) : Calls Tryz.prog 4 #[] w fun e w' => e = .returned (.bool true) ∧ Below w.heap.size w w' := by
  have hn := new_n 1048576 w
  have HT := Lib.hid hT
  have hlen1 : (encE E1).length ≤ 20012 := encE_len fine_1.2
  have hlen5 : (encE e5).length ≤ 20012 := encE_len fine_5.2
  have hR : rewr (new 1048576) nN nM (encE E1) = (stM R20 nM [] (encE E1) (encE E1).length 5 [(nM, 0)] [], 0) := rewr_new (by show _ ≤ R20; rw [R20_is]; omega)
  have hX : extd (stM R20 nM [] (encE E1) (encE E1).length 5 [(nM, 0)] []) nM (encE e5) = (stM R20 nM [] (encE E1 ++ encE e5) (encE E1 ++ encE e5).length 7 [(nM, 0)] [], 0) := extd_stM (by rw [R20_is]; omega)
  have hB2 : encE E1 ++ encE e5 = encs [E1, e5] := by rw [encs_1, enc_add _ fine_5]; rfl
  have HL : Hid ((encs [E1, e5]).length ≤ 1000000) := Lib.hid (by rw [← hB2, List.length_append]; omega)
  have HS : Hid (scanE (encs [E1, e5]) = ([E1, e5], (encs [E1, e5]).length, true)) := Lib.hid (scanE_all (by simp [fine_1, fine_5]))
  have HA : Hid (loadA (encs [E1, e5]) = some M5) := Lib.hid (by unfold loadA; rw [scanE_all (by simp [fine_1, fine_5])]; rfl)
  rw [hB2] at hX
  have HR := Lib.hid hR
  have HX := Lib.hid hX
  clear hlen1 hlen5 hR hX hB2 hT
  go_enter Tryz.func4, Tryz.ntmps4
  go_wp2_with fail
  refine hn.mono ?_
  rintro r w1 ⟨p, rfl, hI1⟩
  have hcr := create_ok (S := new 1048576) w1 hI1 HT.out (by simp [new]) (by simp [new]) (by simp [new]) (by rw [nmM_is, nmN_is]; show (rewr _ nN nM (encE E1)).2 = 0; rw [HR.out])
  rw [nmM_is, nmN_is] at hcr
  simp only [show wholeM MS1 = E1 from rfl, HR.out] at hcr
  clear hn hI1
  go_wp2_with fail
  refine hcr.mono ?_
  rintro r w2 ⟨q, sv, pv, D, rfl, hI2⟩
  obtain ⟨w3, hw3⟩ : ∃ w3, w2.alloc (.cells #[.int .i64 3, .bool false, .int .i64 0, .int .i64 0, .int .i64 0, .int .u32 0] 40) = w3 := ⟨_, rfl⟩
  have hs3 : IsSegs (fun b => b = w2.heap.size) w3 (.slice (some ⟨w2.heap.size, 0, none⟩) 1 1) [⟨3, false, 0, 0, 0, 0⟩] := by rw [← hw3]; exact one_seg w2 ⟨3, false, 0, 0, 0, 0⟩ (by simp [sumW])
  have hb3 : Below w2.heap.size w2 w3 := by rw [← hw3]; exact (Below.refl _ _).alloc (Nat.le_refl _) _
  have hz3 : w2.heap.size < w3.heap.size := by rw [← hw3]; simp
  have hI3 := hI2.out.toY.below hb3
  have hco : Calls Tryz.prog 8 #[pP q, .agg #[.int .i64 5, .int .i64 0, .slice (some ⟨w2.heap.size, 0, none⟩) 1 1, .slice none 0 0, .slice none 0 0, .slice none 0 0]] w3 (ComPost w p (stM R20 nM [] (encs [E1, e5]) (encs [E1, e5]).length 7 [(nM, 0)] []) q M5 (fun _ => False) w3) := by
    have := commit_ok (De := fun b => b = w2.heap.size) e5 ⟨some ⟨w2.heap.size, 0, none⟩, 1, none, 0, none, 0, none, 0⟩ hI3 HT.out ⟨hs3, RowD.nil, RowD.nil, RowD.nil⟩ fine_5.1 (fun b hb => by rw [hb]; exact hz3) (by show 5 ≤ _; omega) app_5 (by rw [nmM_is, HX.out])
    rw [nmM_is, HX.out] at this
    exact this
  clear hcr hs3 hz3 hI3 hb3 hI2
  go_wp2_with fail
  refine hco.mono ?_
  rintro r w4 ⟨rfl, sv4, pv4, D4, hI4, _⟩
  have hcr4 := crash_new 0 none 0 0 [] hI4.out.fs.toH (row_nil .i64 w4) (by show 7 ≤ _; omega)
  rw [show ([] : List Int).take 0 = [] from rfl, show crash (stM R20 nM [] (encs [E1, e5]) (encs [E1, e5]).length 7 [(nM, 0)] []) 0 [] = stM R20 nM [] (encs [E1, e5]) (encs [E1, e5]).length 0 [(nM, 0)] [] from stM_crash R20 nM [] _ 7 [] rfl] at hcr4
  clear hco
  go_wp2_with fail
  refine hcr4.mono ?_
  rintro r w5 ⟨p5, rfl, hI5⟩
  have hb45 := hI5.bel
  have hT4 : Tab w4 := HT.out.below hI4.out.bel
  have hld := load_any (encs [E1, e5]) w5 hI5 hT4 (stM_read R20 nM [] _ _ _ _ _) HL.out (by show 0 ≤ _; omega) (fun M _ _ h => by rw [HS.out] at h; exact absurd h (Nat.lt_irrefl _))
  unfold LoadPost at hld
  rw [HA.out] at hld
  simp only [HS.out, Nat.lt_irrefl, if_false] at hld
  have HI4 := Lib.hid (hI4.out.below hb45)
  have H45 := Lib.hid hb45
  clear hcr4 hI5 hT4 hb45
  go_wp2_with fail
  refine hld.mono ?_
  rintro r w6 ⟨q6, sv6, pv6, D6, rfl, hI6⟩
  have hb46 := hI6.out.fs.bel
  have HI6 := Lib.hid (hI4.out.below hb46)
  have hcx := create_exists w6 HI6.out.fs.toH (by show 1 ≤ 150; omega) (by show nM ∈ [nM]; simp)
  clear hld hb46
  go_wp2_with fail
  refine hcx.mono ?_
  rintro r w7 ⟨rfl, hb7⟩
  have hn7 := new_n 100 w7
  have HJ7 := Lib.hid (hI6.out.below hb7)
  have HB7 : Hid (Below w.heap.size w w7) := Lib.hid ((HI6.out.below hb7).bel)
  clear hcx hb7
  go_wp2_with fail
  refine hn7.mono ?_
  rintro r w8 ⟨p8, rfl, hI8⟩
  have hl8 := load_none w8 hI8 (by simp [new, readF, dget])
  unfold nilT at hl8
  have HJ8 := Lib.hid (HJ7.out.below hI8.bel)
  have HB8 : Hid (Below w.heap.size w w8) := Lib.hid (HB7.out.trans (hI8.bel.mono HB7.out.size))
  clear hn7 hI8
  go_wp2_with fail
  refine hl8.mono ?_
  rintro r w9 ⟨rfl, hb9⟩
  have HJ9 := Lib.hid (HJ8.out.below hb9)
  have HB9 : Hid (Below w.heap.size w w9) := Lib.hid (HB8.out.trans (hb9.mono HB8.out.size))
  have hsg := segs_any HJ9.out.toY
  simp only [show M5.segs.length = 1 from rfl] at hsg
  clear hl8 hb9
  go_wp2_with fail
  refine hsg.mono ?_
  rintro r w10 ⟨a10, c10, rfl, _, hb10⟩
  have HB10 : Hid (Below w.heap.size w w10) := Lib.hid (HB9.out.trans (hb10.mono HB9.out.size))
  have hnx := next_any (HJ9.out.below hb10).toY
  rw [show M5.next = 5 from rfl] at hnx
  clear hsg hb10
  go_wp2_with fail
  refine hnx.mono ?_
  rintro r w11 ⟨rfl, rfl⟩
  clear hnx
  go_wp2_with fail
  go_ret
  exact ⟨rfl, HB10.out⟩
end Go.Proofs.YthgpdnffahmhjaaGreatDoor.S19

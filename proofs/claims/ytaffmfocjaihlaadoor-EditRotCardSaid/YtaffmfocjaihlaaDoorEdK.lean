/- The law's begun; EditAny, walked. -/
import Derived.Test.YtaffmfocjaihlaaDoorEdQ
import Derived.Test.YtaffmfocjaihlaaDoorEdH
import Derived.Test.YtaffmfocjaihlaaDoorCutB
import Derived.Test.YtaffmfocjaihlaaDoorLaid
set_option linter.unusedSimpArgs false
set_option linter.unusedVariables false
set_option maxRecDepth 100000
namespace Go.Proofs.YtaffmfocjaihlaaDoor.S18
open Go.RowKit S2.Pl S3 S3.Pl
attribute [local go_sem ↓] loadS_eq storeS_eq loadP_eq storeP_eq loadE_eq storeE_eq buildE_eq buildS_eq
def s9 : SG := ⟨3, true, 0, 0, 9, 0⟩
def e5 : ED := ⟨5, 0, [s9], [], [], []⟩
theorem run_buildS3 (w : World) (a d : Int) (b : Bool) : (buildS #[(0, .int .i64 a), (1, .bool b), (4, .int .i64 d)]).run Tryd.prog w = .ok (.agg #[.int .i64 a, .bool b, .int .i64 0, .int .i64 0, .int .i64 d, .int .u32 0]) w := by kernel_rfl
theorem run_buildE2 (w : World) (n : Int) (a1 : Option Addr) (n1 c1 : Nat) : (buildE #[(0, .int .i64 n), (2, .slice a1 n1 c1)]).run Tryd.prog w = .ok (.agg #[.int .i64 n, .int .i64 0, .slice a1 n1 c1, .slice none 0 0, .slice none 0 0, .slice none 0 0]) w := by kernel_rfl
attribute [local go_sem] run_buildS3 run_buildE2
theorem e5_fine : Fine e5 := ⟨by decide, by intro s hs; simp [e5] at hs; subst hs; exact ⟨by decide, by decide⟩, by intro p hp; simp [e5] at hp⟩
/-- a row of one segment, made just ahead -/
theorem segs_new (w : World) (s : SG) (hs : sumW s.sum) : IsSegs (fun b => b = w.heap.size) (w.alloc (.cells (segL s).toArray 45)) (.slice (some ⟨w.heap.size, 0, none⟩) 1 1) [s] := by
  have hb := Blk.new w 45 (segL s)
  refine ⟨_, _, rfl, Nat.le_refl _, by unfold maxLen; omega, (fun e => by cases e), fun h0 => ⟨w.heap.size, 0, rfl, rfl, hb.lt, fun i x hx => ?_⟩⟩
  have hi : i = 0 := by have := (List.getElem?_eq_some_iff.1 hx).1; simp at this; exact this
  subst hi
  simp at hx
  subst hx
  exact ⟨segL s, ⟨rfl, hs⟩, fun j u hj => by rw [Nat.zero_mul, Nat.zero_add]; first | exact hb.cell hj | (rw [Nat.zero_add]; exact hb.cell hj)⟩
/-- the cells of an edit in a row -/
theorem eds_cells {D : Nat → Prop} {w : World} {a : Option Addr} {n cap : Nat} {L : List ED} (h : IsEds D w (.slice a n cap) L) {i : Nat} {e : ED} (hi : L[i]? = some e) :
    ∃ b off a1 c1 a2 c2 a3 c3 a4 c4, a = some ⟨b, off, none⟩ ∧ b < w.heap.size ∧ (∀ j u, (edL e a1 c1 a2 c2 a3 c3 a4 c4)[j]? = some u → w.cell? ⟨b, off + i * 6 + j, none⟩ = some u) ∧ EdIn D w e a1 c1 a2 c2 a3 c3 a4 c4 := by
  obtain ⟨b, off, x, c, rfl, _, hb, hx, ⟨a1, c1, a2, c2, a3, c3, a4, c4, rfl, hI⟩, hu⟩ := RowD.at h (List.getElem?_eq_some_iff.1 hi).1
  rw [hi] at hx
  cases hx
  exact ⟨b, off, a1, c1, a2, c2, a3, c3, a4, c4, rfl, hb, hu, hI⟩
theorem seg_cells {D : Nat → Prop} {w : World} {a : Option Addr} {n cap : Nat} {L : List SG} (h : IsSegs D w (.slice a n cap) L) {i : Nat} {s : SG} (hi : L[i]? = some s) :
    ∃ b off, a = some ⟨b, off, none⟩ ∧ b < w.heap.size ∧ ∀ j u, (segL s)[j]? = some u → w.cell? ⟨b, off + i * 6 + j, none⟩ = some u := by
  obtain ⟨b, off, x, c, rfl, _, hb, hx, ⟨rfl, _⟩, hu⟩ := RowD.at h (List.getElem?_eq_some_iff.1 hi).1
  rw [hi] at hx
  cases hx
  exact ⟨b, off, rfl, hb, hu⟩
set_option maxHeartbeats 8000000 in
theorem begun_any (w : World) (hT : Tab w) : Calls Tryd.prog 8 #[] w fun e w' => e = .returned (.bool true) ∧ Below w.heap.size w w' := by
  have hb1 : Below w.heap.size w (w.alloc (.cells #[.int .i64 3, .bool true, .int .i64 0, .int .i64 0, .int .i64 9, .int .u32 0] 45)) := (Below.refl _ _).alloc (Nat.le_refl _) _
  have hs1 := segs_new w s9 ⟨by decide, by decide⟩
  obtain ⟨w1, hw1⟩ : ∃ w1, w.alloc (.cells #[.int .i64 3, .bool true, .int .i64 0, .int .i64 0, .int .i64 9, .int .u32 0] 45) = w1 := ⟨_, rfl⟩
  rw [hw1] at hb1
  have hs1' : IsSegs (fun b => b = w.heap.size) w1 (.slice (some ⟨w.heap.size, 0, none⟩) 1 1) [s9] := by rw [← hw1]; exact hs1
  have hen := encode_any e5 (some ⟨w.heap.size, 0, none⟩) 1 none 0 none 0 none 0 w1 (hT.below hb1) (D := fun b => b = w.heap.size) ⟨hs1', RowD.nil, RowD.nil, RowD.nil⟩
  have HT := Lib.hid hT
  have HB1 := Lib.hid hb1
  simp only [e5, List.length_singleton, List.length_nil] at hen
  clear hb1 hs1 hs1' hT
  go_enter Tryd.func8, Tryd.ntmps8
  go_wp2_with fail
  refine hen.mono ?_
  rintro r w2 ⟨sp, n, cap, rfl, hn, ho2, hb2⟩
  have HN : Hid ((encE e5).length = n) := Lib.hid hn
  have ho2' : w2.ownsRow w1.heap.size 5 1 (.slice sp n cap) n (u8s (encE e5)) := ho2.out
  have hIB : IsBytes w2 (.slice sp n cap) (encE e5) := by
    have := ho2'
    rw [← HN.out] at this ⊢
    exact isBytes_own (encE_lt e5) this
  have HB2 := Lib.hid (HB1.out.trans (hb2.out.mono HB1.out.size))
  have hnl : n ≤ 20012 := by rw [← HN.out]; exact encE_len e5_fine.2
  have hsc := scan_any (.slice sp n cap) (encE e5) w2 (HT.out.below HB2.out) hIB (by rw [HN.out]; omega)
  unfold ScanPost at hsc
  rw [scan_one e5_fine, HN.out] at hsc
  have HSC := Lib.hid hsc
  have hck : chkE ⟨5, 0, [s9], [], [], []⟩ = 0 := by decide
  rw [hck]
  clear hen hn ho2 hb2 ho2' hIB hsc hck
  go_wp2_with fail
  refine HSC.out.mono ?_
  rintro r w3 ⟨sq, cq, rfl, ho3, hb3⟩
  obtain ⟨b, off, a1, c1, a2, c2, a3, c3, a4, c4, rfl, hbl, hu, hI⟩ := eds_cells (OwnEds.row ho3.out) (i := 0) (e := e5) rfl
  obtain ⟨b1, o1, rfl, _, hu1⟩ := seg_cells hI.adds (i := 0) (s := s9) rfl
  have q0 : w3.cell? ⟨b, off, none⟩ = some (.int .i64 5) := hu 0 _ rfl
  have q2 : w3.cell? ⟨b, off + 2, none⟩ = some (.slice (some ⟨b1, o1, none⟩) 1 c1) := hu 2 _ rfl
  have q1 : w3.cell? ⟨b1, o1 + 1, none⟩ = some (.bool true) := hu1 1 _ rfl
  have HB3 := Lib.hid (HB2.out.trans (hb3.out.mono HB2.out.size))
  clear HSC ho3 hb3 hu hI hu1
  go_wp2
  go_ret
  exact ⟨rfl, HB3.out⟩
attribute [local go_sem ↓] sliceU8_eq
set_option maxHeartbeats 8000000 in
theorem editAny_walk (a : Option Addr) (len cap : Nat) (zs : List Int) (w : World) (hT : Tab w) (h : IsRow .u8 w a len cap zs) :
    Calls Tryd.prog 5 #[.slice a len cap] w fun e w' => e = .returned (.bool true) ∧ Below w.heap.size w w' := by
  obtain ⟨hv, hl⟩ := isBytes_row h
  have HV := Lib.hid hv
  have HBEG := Lib.hid (begun_any w hT)
  have HT := Lib.hid hT
  have HL := Lib.hid hl
  clear hT h hv hl
  go_enter Tryd.func5, Tryd.ntmps5
  go_wp2_with fail
  refine HBEG.out.mono ?_
  rintro e w1 ⟨rfl, hb1⟩
  have HB1 := Lib.hid hb1
  have hsh := short_any (.slice a len cap) (bytesZ zs len) 200 w1 (HV.out.below hb1) (by decide)
  clear hb1
  go_wp2_with fail
  refine hsh.mono ?_
  rintro e w2 ⟨v2, rfl, hv2, rfl⟩
  obtain ⟨B, hB⟩ : ∃ B, (bytesZ zs len).take 200 = B := ⟨_, rfl⟩
  have hBl : B.length ≤ 200 := by rw [← hB, List.length_take]; omega
  rw [hB] at hv2
  have hsc := scan_any v2 B w1 (HT.out.below HB1.out) hv2 (by omega)
  obtain ⟨a2, cap2, rfl, _, _⟩ := hv2.slice
  obtain ⟨f1, f2, f3⟩ := scanE_any B
  unfold ScanPost at hsc
  obtain ⟨E, hE⟩ : ∃ E, (scanE B).1 = E := ⟨_, rfl⟩
  obtain ⟨n, hn⟩ : ∃ n, (scanE B).2.1 = n := ⟨_, rfl⟩
  obtain ⟨ok, hok⟩ : ∃ n, (scanE B).2.2 = n := ⟨_, rfl⟩
  rw [hE, hn, hok] at hsc
  rw [hn] at f1
  rw [hE, hn] at f2
  rw [hok] at f3
  obtain ⟨m, hm⟩ : ∃ m, B.length = m := ⟨_, rfl⟩
  obtain ⟨el, hel⟩ : ∃ m, E.length = m := ⟨_, rfl⟩
  rw [hm] at f1 f3 hsc hBl ⊢
  rw [hel] at hsc
  have f2' : el = 0 → n = 0 := fun h => f2 (List.eq_nil_of_length_eq_zero (by omega))
  have HSC := Lib.hid hsc
  clear hsh hv2 hB hE hn hok hm hel hsc f2
  go_wp2_with fail
  refine HSC.out.mono ?_
  rintro e w3 ⟨sp, cp, rfl, _, hb3⟩
  have HB3 := Lib.hid (HB1.out.trans (hb3.out.mono HB1.out.size))
  clear hb3 HSC
  have q1 : decide ((n : Int) ≤ (m : Int)) = true := decide_eq_true (by omega)
  have q1' : decide (n ≤ m) = true := decide_eq_true f1
  have fin : ∀ b : Bool, (ok = true ∨ b = true) → (if ok = true then true else b) = true := fun b h => by
    rcases h with h | h
    · rw [h]; rfl
    · split
      · rfl
      · exact h
  by_cases h0 : el = 0
  · have hn0 := f2' h0
    subst h0 hn0
    clear f2'
    cases ok with
    | true =>
      go_wp2
      go_ret
      exact ⟨rfl, HB3.out⟩
    | false =>
      have f4 := f3 rfl
      have q2 : decide ((12 : Int) ≤ (m : Int)) = true := decide_eq_true (by omega)
      have q2' : decide (12 ≤ m) = true := decide_eq_true f4
      go_wp2
      go_ret
      exact ⟨rfl, HB3.out⟩
  · have q3 : decide ((0 : Int) < (el : Int)) = true := decide_eq_true (by omega)
    have q3' : decide (0 < el) = true := decide_eq_true (by omega)
    clear f2'
    cases ok with
    | true =>
      go_wp2
      go_ret
      exact ⟨rfl, HB3.out⟩
    | false =>
      have f4 := f3 rfl
      have q2 : decide ((12 : Int) ≤ (m : Int)) = true := decide_eq_true (by omega)
      have q2' : decide (12 ≤ m) = true := decide_eq_true f4
      go_wp2
      go_ret
      exact ⟨rfl, HB3.out⟩
end Go.Proofs.YtaffmfocjaihlaaDoor.S18

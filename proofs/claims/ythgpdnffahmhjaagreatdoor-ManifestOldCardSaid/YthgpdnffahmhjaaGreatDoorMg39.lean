/- Texts put together: MaU, MaV, MaX. -/
import Derived.Test.YthgpdnffahmhjaaGreatDoorMg2
import Derived.Test.YthgpdnffahmhjaaGreatDoorMg20
import Derived.Test.YthgpdnffahmhjaaGreatDoorMg38
set_option linter.unusedSimpArgs false
set_option linter.unusedVariables false
set_option maxRecDepth 100000
namespace Go.Proofs.YthgpdnffahmhjaaGreatDoor.S19
open Go.RowKit Go.Maps Go.Shelf Go.Sort S18 S13 S13.Dk S15 S3
abbrev Nms := List (List UInt8)
def IsStrs (w : World) (v : Value) (L : Nms) : Prop := ∃ a cap, v = .slice a L.length cap ∧ L.length ≤ 1000000 ∧ ∀ i s, L[i]? = some s → ∃ b off, a = some ⟨b, off, none⟩ ∧ b < w.heap.size ∧ w.cell? ⟨b, off + i, none⟩ = some (encStr s)
theorem IsStrs.below {w w' : World} {v : Value} {L : Nms} (h : IsStrs w v L) (hb : Below w.heap.size w w') : IsStrs w' v L := by
  obtain ⟨a, cap, rfl, hl, hc⟩ := h
  refine ⟨a, cap, rfl, hl, fun i s hs => ?_⟩
  obtain ⟨b, off, rfl, h1, h2⟩ := hc i s hs
  exact ⟨b, off, rfl, Nat.lt_of_lt_of_le h1 hb.size, (hb.cell (p := ⟨b, off + i, none⟩) h1).trans h2⟩
theorem isStrs_own {w : World} {base : Nat} {v : Value} {L : Nms} (h : w.ownsRow base 9 1 v L.length (L.map encStr)) (hl : L.length ≤ 1000000) : IsStrs w v L := by
  obtain ⟨a, cap, rfl, _⟩ := ownsRow_slice h
  refine ⟨a, cap, rfl, hl, fun i s hs => ?_⟩
  have hi := (List.getElem?_eq_some_iff.1 hs).1
  obtain ⟨_, ⟨he, h0⟩ | ⟨g, cap', cur, hv, hg, hh, h1, h2, h3, ht⟩⟩ := h
  · omega
  · simp at hv
    obtain ⟨rfl, rfl⟩ := hv
    refine ⟨g, 0, rfl, (Array.getElem?_eq_some_iff.1 hh).1, ?_⟩
    have hg2 : (cur.toList.take (L.length * 1))[i]? = some (encStr s) := by
      have : (L.map encStr)[i]? = some (encStr s) := by simp [hs]
      rw [← this]
      congr 1
    rw [List.getElem?_take_of_lt (by omega)] at hg2
    simp [World.cell?, hh]
    simpa using hg2
set_option maxHeartbeats 4000000 in
theorem index_any (v : Value) (L : Nms) (n : ByteArray) (w : World) (hv : IsStrs w v L) :
    Calls Tryz.prog 35 #[v, .string n] w fun e w' => (∃ r : Int, e = .returned (.int .i64 r) ∧ (0 ≤ r ↔ n.data.toList ∈ L)) ∧ Below w.heap.size w w' := by
  obtain ⟨a, cap, rfl, hl, hc⟩ := hv
  obtain ⟨m, hm⟩ : ∃ m, L.length = m := ⟨_, rfl⟩
  have HN := Lib.hid hm
  have HC := Lib.hid hc
  rw [hm] at hl ⊢
  clear hc hm
  go_enter Tryz.func35, Tryz.ntmps35
  go_wp2_with fail
  go_loopw [8] (fun y wr => ∃ (i : Nat), i ≤ m ∧ y = .int .i64 i ∧ Hid (n.data.toList ∉ L.take i) ∧ Hid (Below w.heap.size w wr)) (fun y _ => m - (intOf y).toNat)
  case atStart => exact ⟨0, by omega, rfl, Lib.hid (by simp), Lib.hid (Below.refl _ _)⟩
  case round =>
    obtain ⟨i, hi, rfl, hn, hb⟩ := hrel
    by_cases hlt : i < m
    · obtain ⟨s, hs⟩ : ∃ s, L[i]? = some s := ⟨_, List.getElem?_eq_getElem (by rw [HN.out]; exact hlt)⟩
      obtain ⟨b, off, rfl, h1, h2⟩ := HC.out i s hs
      have c0 : wr.cell? ⟨b, off + i, none⟩ = some (encStr s) := (hb.out.cell (p := ⟨b, off + i, none⟩) h1).trans h2
      unfold encStr at c0
      have HS := Lib.hid hs
      have htk : L.take (i + 1) = L.take i ++ [s] := by
        rw [List.take_add_one]
        simp [hs]
      have HTK := Lib.hid htk
      clear hs h2 htk
      by_cases he : n.data.toList = s
      · have hq : (n.toList == s) = true := by rw [ByteArray.toList_eq]; simpa using he
        have HE : Hid (n.data.toList ∈ L) := Lib.hid (by rw [he]; exact List.mem_of_getElem? HS.out)
        clear he
        go_wp2_with fail
        go_ret
        exact ⟨⟨i, rfl, ⟨fun _ => HE.out, fun _ => by omega⟩⟩, hb.out⟩
      · have hq : (n.toList == s) = false := by rw [ByteArray.toList_eq]; simpa using he
        have HE : Hid (n.data.toList ∉ L.take (i + 1)) := Lib.hid (by
          rw [HTK.out, List.mem_append, List.mem_singleton]
          exact fun h => h.elim hn.out he)
        clear he
        go_wp2_with fail
        go_roundw
        case rel => exact ⟨i + 1, by omega, by first | rfl | go_num, HE, hb⟩
        case measure => simp only [intOf_i]; omega
    · have : m = i := by omega
      subst this
      have HE : Hid (n.data.toList ∉ L) := Lib.hid (by
        have := hn.out
        rwa [List.take_of_length_le (by rw [HN.out]; exact Nat.le_refl _)] at this)
      go_wp2_with fail
      go_ret
      exact ⟨⟨-1, rfl, ⟨fun h => absurd h (by omega), fun h => absurd h HE.out⟩⟩, hb.out⟩
theorem contains_any (v : Value) (L : Nms) (n : ByteArray) (w : World) (hv : IsStrs w v L) :
    Calls Tryz.prog 15 #[v, .string n] w fun e w' => e = .returned (.bool (decide (n.data.toList ∈ L))) ∧ Below w.heap.size w w' := by
  have hi := index_any v L n w hv
  obtain ⟨a, cap, rfl, hl, hc⟩ := hv
  clear hc
  obtain ⟨m, hm⟩ : ∃ m, L.length = m := ⟨_, rfl⟩
  rw [hm] at hi ⊢
  clear hl hm
  go_enter Tryz.func15, Tryz.ntmps15
  go_wp2_with fail
  refine hi.mono ?_
  rintro e w' ⟨⟨r, rfl, hr⟩, hb⟩
  have HR := Lib.hid hr
  have HB := Lib.hid hb
  by_cases h0 : 0 ≤ r
  · have q1 : decide (0 ≤ r) = true := decide_eq_true h0
    have HE : Hid (decide (n.data.toList ∈ L) = true) := Lib.hid (decide_eq_true (hr.1 h0))
    clear hi hr hb
    go_wp2_with fail
    go_ret
    exact ⟨by rw [HE.out]; rfl, HB.out⟩
  · have q1 : decide (0 ≤ r) = false := decide_eq_false h0
    have HE : Hid (decide (n.data.toList ∈ L) = false) := Lib.hid (decide_eq_false fun h => h0 (hr.2 h))
    clear hi hr hb
    go_wp2_with fail
    go_ret
    exact ⟨by rw [HE.out]; rfl, HB.out⟩
end Go.Proofs.YthgpdnffahmhjaaGreatDoor.S19
namespace Go.Proofs.YthgpdnffahmhjaaGreatDoor.S19
open Go.RowKit Go.Maps Go.Shelf Go.Sort S18 S13 S13.Dk S15 S3
def manL (p : Nat) (M : MS) (sv pv : Option Nat) (cl : Bool) : List Value := [.pointer (some ⟨p, 0, none⟩), .int .i64 M.next, .int .i64 M.seq, .map sv, .map pv, .bool cl]
def zM (q : Nat) (sv pv : Option Nat) (D : Nat → Prop) (b : Nat) : Prop := b = q ∨ sv = some b ∨ pv = some b ∨ D b
structure InM (w0 : World) (p : Nat) (S : St) (q : Nat) (M : MS) (w : World) (sv pv : Option Nat) (D : Nat → Prop) : Prop where
  fs : InZ w0 p S (zM q sv pv D) w
  blk : Blk w q 68 (manL p M sv pv false)
  segs : MapO SG.num 6 segC w sv M.segs
  pars : MapO PT.group 5 (parC D w) w pv M.pars
  base : ∀ b, zM q sv pv D b → w0.heap.size ≤ b
  D : ∀ b, D b → b ≠ q ∧ sv ≠ some b ∧ pv ≠ some b
  ok : MOk M
theorem InZ.ltM {w0 w : World} {p : Nat} {S : St} {Z : Nat → Prop} (h : InZ w0 p S Z w) : ∀ b, Z b → b < w.heap.size := by
  obtain ⟨l, _, _, _, _, hz⟩ := h
  exact fun b hb => (hz b hb).1
theorem InM.below {w0 w w' : World} {p q : Nat} {S : St} {M : MS} {sv pv : Option Nat} {D : Nat → Prop} (h : InM w0 p S q M w sv pv D) (hb : Below w.heap.size w w') : InM w0 p S q M w' sv pv D :=
  ⟨h.fs.below hb, h.blk.below hb h.blk.lt, h.segs.keep (fun b hs => hb.block b (h.segs.lt b hs)) (fun _ _ h => h), h.pars.keep (fun b hs => hb.block b (h.pars.lt b hs)) (fun _ _ h => h.keep (keep_below hb)), h.base, h.D, h.ok⟩
theorem InM.op {w0 w w' : World} {p q : Nat} {S S' : St} {M : MS} {sv pv : Option Nat} {D : Nat → Prop} (h : InM w0 p S q M w sv pv D) (hz : InZ w0 p S' (zM q sv pv D) w') (hk : ∀ b, zM q sv pv D b → w'.heap[b]? = w.heap[b]?) : InM w0 p S' q M w' sv pv D :=
  ⟨hz, (hk q (.inl rfl)).trans h.blk, h.segs.keep (fun b hs => hk b (.inr (.inl hs))) (fun _ _ h => h), h.pars.keep (fun b hs => hk b (.inr (.inr (.inl hs)))) (fun _ _ h => h.keep fun b hb _ => ⟨hb, hk b (.inr (.inr (.inr hb)))⟩), h.base, h.D, h.ok⟩
def buildQ (v : Array (Nat × Value)) : Sem Value := Instr.build 68 v
theorem buildQ_eq (v : Array (Nat × Value)) : Instr.build 68 v = buildQ v := rfl
theorem run_buildQ2 (w : World) (a : Option Addr) (n s : Int) (x y : Option Nat) : (buildQ #[(0, .pointer a), (1, .agg #[.int .i64 n, .int .i64 s, .map x, .map y])]).run Tryz.prog w = .ok (.agg #[.pointer a, .int .i64 n, .int .i64 s, .map x, .map y, .bool false]) w := by kernel_rfl
attribute [local go_sem ↓] loadT_eq storeT_eq buildT_eq buildQ_eq
attribute [local go_sem] run_buildQ2 run_buildT2
set_option maxHeartbeats 4000000 in
theorem rewritten_ok {D : Nat → Prop} {w0 : World} {p : Nat} {S : St} (M : MS) (sv pv : Option Nat) (w : World) (h : InZ w0 p S (fun b => sv = some b ∨ pv = some b ∨ D b) w) (hT : Tab w0) (hs : MapO SG.num 6 segC w sv M.segs) (hp : MapO PT.group 5 (parC D w) w pv M.pars) (hM : MOk M)
    (hz : ∀ b, (sv = some b ∨ pv = some b ∨ D b) → w0.heap.size ≤ b) (hD : ∀ b, D b → sv ≠ some b ∧ pv ≠ some b) (hc : S.calls ≤ 1099511627000) (hl : (encE (wholeM M)).length ≤ 1000000) (h0 : (rewr S nmN.data.toList nmM.data.toList (encE (wholeM M))).2 = 0) :
    Calls Tryz.prog 17 #[pP p, .agg #[.int .i64 M.next, .int .i64 M.seq, .map sv, .map pv]] w fun r w' => ∃ q, r = .returned (.tuple #[pP q, .int .i64 0]) ∧ Hid (InM w0 p (rewr S nmN.data.toList nmM.data.toList (encE (wholeM M))).1 q M w' sv pv D) := by
  obtain ⟨w1, hw1⟩ : ∃ w1, w.alloc (.cells #[.int .i64 M.next, .int .i64 M.seq, .map sv, .map pv] 58) = w1 := ⟨_, rfl⟩
  have hk1 : Blk w1 w.heap.size 58 (stL M sv pv) := by rw [← hw1]; exact Blk.new w _ _
  have hb1 : Below w.heap.size w w1 := by rw [← hw1]; exact (Below.refl _ _).alloc (Nat.le_refl _) _
  have hs1 : w1.heap.size = w.heap.size + 1 := by rw [← hw1]; simp
  have hlt := InZ.ltM h
  have hld := run_loadT_blk M hk1
  have hI1 : InZ w0 p S (fun b => (sv = some b ∨ pv = some b ∨ D b) ∨ b = w.heap.size) w1 := h.more hb1 fun b hb => by
    rcases hb with hb | rfl
    · exact .inl hb
    · exact .inr ⟨Nat.le_refl _, hk1.lt⟩
  have hs' := hs.keep (w' := w1) (fun b h => hb1.block b (hs.lt b h)) (fun _ _ h => h)
  have hp' := hp.keep (w' := w1) (fun b h => hb1.block b (hp.lt b h)) (fun _ _ h => h.keep (keep_below hb1))
  have hrw := rewriteM_any (D := D) M sv pv w1 hI1 hT hs' hp' hM (fun b hb => Nat.lt_of_lt_of_le (hlt b (.inr (.inr hb))) hb1.size) hc hl
  obtain ⟨rr, hrr⟩ : ∃ rr, rewr S nmN.data.toList nmM.data.toList (encE (wholeM M)) = rr := ⟨_, rfl⟩
  rw [hrr] at hrw h0 ⊢
  obtain ⟨S2, c2⟩ := rr
  simp only at h0 ⊢
  subst h0
  obtain ⟨g, hg⟩ : ∃ g, w.heap.size = g := ⟨_, rfl⟩
  rw [hg] at hI1 hrw hk1 hld
  have HS1 := Lib.hid hs'
  have HP1 := Lib.hid hp'
  have HK1 := Lib.hid hk1
  have HZ := Lib.hid hz
  have HD := Lib.hid hD
  have HM := Lib.hid hM
  have HBL := Lib.hid h.bel.size
  have HLT := Lib.hid hlt
  have HG := Lib.hid hg
  have HB1 := Lib.hid hb1
  obtain ⟨nx, hnx⟩ : ∃ nx, M.next = nx := ⟨_, rfl⟩
  obtain ⟨sq, hsq⟩ : ∃ sq, M.seq = sq := ⟨_, rfl⟩
  have HNX := Lib.hid hnx
  have HSQ := Lib.hid hsq
  rw [hnx, hsq] at hld hrw hw1 ⊢
  clear hk1 hb1 hs' hp' hs hp hM hz hD h hT hl hc hI1 hlt hnx hsq hrr
  go_enter Tryz.func17, Tryz.ntmps17
  go_wp2_with fail
  refine hrw.mono ?_
  rintro r w2 ⟨rfl, hz2, hh2⟩
  unfold errV
  have hk2 : Blk w2 g 58 (stL M sv pv) := (hh2 g (.inr rfl)).trans HK1.out
  have hld2 := run_loadT_blk M hk2
  rw [HNX.out, HSQ.out] at hld2
  have hlt2 := InZ.ltM hz2
  obtain ⟨w3, hw3⟩ : ∃ w3, w2.alloc (.cells #[.pointer (some ⟨p, 0, none⟩), .int .i64 nx, .int .i64 sq, .map sv, .map pv, .bool false] 68) = w3 := ⟨_, rfl⟩
  have hk3 : Blk w3 w2.heap.size 68 (manL p M sv pv false) := by rw [← hw3]; unfold manL; rw [HNX.out, HSQ.out]; exact Blk.new w2 _ _
  have hb3 : Below w2.heap.size w2 w3 := by rw [← hw3]; exact (Below.refl _ _).alloc (Nat.le_refl _) _
  have hIM : InM w0 p S2 w2.heap.size M w3 sv pv D := by
    have hz3 : InZ w0 p S2 (zM w2.heap.size sv pv D) w3 := InZ.more hz2 hb3 fun b hb => by
      rcases hb with rfl | hb
      · exact .inr ⟨Nat.le_refl _, hk3.lt⟩
      · exact .inl (.inl hb)
    have hkk : ∀ b, (sv = some b ∨ pv = some b ∨ D b) → w3.heap[b]? = w1.heap[b]? := fun b hb => (hb3.block b (hlt2 b (.inl hb))).trans (hh2 b (.inl hb))
    refine ⟨hz3, hk3, HS1.out.keep (fun b hb => hkk b (.inl hb)) (fun _ _ h => h), HP1.out.keep (fun b hb => hkk b (.inr (.inl hb))) (fun _ _ h => h.keep fun b hb _ => ⟨hb, hkk b (.inr (.inr hb))⟩), ?_, ?_, HM.out⟩
    · rintro b (rfl | hb)
      · have := HBL.out
        have := hlt2 g (.inr rfl)
        have := HG.out
        omega
      · exact HZ.out b hb
    · intro b hb
      refine ⟨?_, HD.out b hb⟩
      have := hlt2 b (.inl (.inr (.inr hb)))
      omega
  have HIM := Lib.hid hIM
  clear hrw hz2 hh2 hk2 hlt2 hk3 hb3 hIM hld
  go_wp2_with fail
  go_ret2
  exact ⟨_, rfl, HIM⟩
end Go.Proofs.YthgpdnffahmhjaaGreatDoor.S19
namespace Go.Proofs.YthgpdnffahmhjaaGreatDoor.S19
open Go.RowKit Go.Maps Go.Shelf Go.Sort S18 S13 S13.Dk S15 S3 S2.Pl S3.Pl
theorem names_strs {w w' : World} {base : Nat} {v : Value} {L : Dir} (h : IsNames w base v L) (hl : L.length ≤ 150) : IsStrs w v (L.map (·.1)) := by
  unfold IsNames at h
  exact isStrs_own (base := base) (by rw [List.length_map]; exact h) (by rw [List.length_map]; omega)
def MS1 : MS := ⟨1, 1, [], []⟩
theorem mok_1 : MOk MS1 := ⟨rfl, rfl, by simp [MS1], by simp [MS1], by simp [MS1], by simp [MS1], by simp [MS1, KS], by simp [MS1, KS]⟩
attribute [local go_sem ↓] loadT_eq storeT_eq buildT_eq buildQ_eq
attribute [local go_sem] run_buildQ2 run_buildT2 run_buildT0
set_option maxHeartbeats 4000000 in
theorem create_exists {w0 : World} {p : Nat} {S : St} (w : World) (h : InH w0 p S w) (hl : S.now.length ≤ 150) (hn : nmM.data.toList ∈ S.now.map (·.1)) :
    Calls Tryz.prog 6 #[pP p] w fun r w' => r = .returned (.tuple #[.pointer none, .int .i64 8]) ∧ Below w.heap.size w w' := by
  have hnm := names_h h
  have HN := Lib.hid hn
  clear h hn
  go_enter Tryz.func6, Tryz.ntmps6
  go_wp2_with fail
  refine hnm.mono ?_
  rintro r w1 ⟨v, rfl, hv, hb1⟩
  have hco := contains_any v _ nmM w1 (names_strs (w' := w1) hv hl)
  rw [decide_eq_true HN.out] at hco
  unfold nmM at hco
  have HB1 := Lib.hid hb1
  clear hnm hv hb1
  go_wp2_with fail
  refine hco.mono ?_
  rintro r w2 ⟨rfl, hb2⟩
  have HB2 : Hid (Below w.heap.size w w2) := Lib.hid (HB1.out.trans (hb2.mono HB1.out.size))
  clear hco hb2
  go_wp2_with fail
  go_ret2
  exact ⟨rfl, HB2.out⟩
set_option maxHeartbeats 4000000 in
theorem create_ok {w0 : World} {p : Nat} {S : St} (w : World) (h : InH w0 p S w) (hT : Tab w0) (hl : S.now.length ≤ 150) (hn : nmM.data.toList ∉ S.now.map (·.1)) (hc : S.calls ≤ 1099511627000) (h0 : (rewr S nmN.data.toList nmM.data.toList (encE (wholeM MS1))).2 = 0) :
    Calls Tryz.prog 6 #[pP p] w fun r w' => ∃ q sv pv D, r = .returned (.tuple #[pP q, .int .i64 0]) ∧ Hid (InM w0 p (rewr S nmN.data.toList nmM.data.toList (encE (wholeM MS1))).1 q MS1 w' sv pv D) := by
  have hnm := names_h h
  have HN := Lib.hid hn
  have H := Lib.hid h
  have HT := Lib.hid hT
  have H0 := Lib.hid h0
  clear h hn hT h0
  go_enter Tryz.func6, Tryz.ntmps6
  go_wp2_with fail
  refine hnm.mono ?_
  rintro r w1 ⟨v, rfl, hv, hb1⟩
  have hco := contains_any v _ nmM w1 (names_strs (w' := w1) hv hl)
  rw [decide_eq_false HN.out] at hco
  unfold nmM at hco
  have HB1 := Lib.hid hb1
  clear hnm hv hb1
  go_wp2_with fail
  refine hco.mono ?_
  rintro r w2 ⟨rfl, hb2⟩
  have hB2 : Below w.heap.size w w2 := HB1.out.trans (hb2.mono HB1.out.size)
  have hrt := rewritten_ok (D := fun _ => False) MS1 none none w2 ((H.out.toZ0.below hB2).fewer fun b hb => by simp at hb) HT.out (.inl ⟨rfl, rfl⟩) (.inl ⟨rfl, rfl⟩) mok_1 (fun b hb => by simp at hb) (fun b hb => hb.elim) hc (Nat.le_trans (encE_len (whole_ok mok_1).2) (by omega)) H0.out
  simp only [MS1] at hrt
  clear hco hb2 hB2
  go_wp2_with fail
  refine hrt.mono ?_
  rintro r w3 ⟨q, rfl, hI⟩
  clear hrt
  go_wp2_with fail
  go_ret2
  exact ⟨q, none, none, _, rfl, hI⟩
def loadA (B : List Nat) : Option MS := if (scanE B).2.2 = false ∨ (scanE B).1 = [] then none else applyA z0 true (scanE B).1
theorem scanLE_edB : ∀ L : List (List Nat), ∀ e ∈ (scanLE L).1, edB e = true
  | [] => by simp [scanLE]
  | T :: L => by
    have ih := scanLE_edB L
    by_cases h : (oneE T).2 = true
    · have h1 := one_true h
      rw [scanLE, if_pos h]
      generalize (oneE T).1 = x at h1 ⊢
      generalize scanLE L = y at ih ⊢
      intro e he
      simp only [List.mem_cons] at he
      rcases he with rfl | he
      · exact h1
      · exact ih e he
    · rw [scanLE, if_neg h]
      simp
theorem scan_edB (B : List Nat) : ∀ e ∈ (scanE B).1, edB e = true := scanLE_edB (pscan B).1
theorem scan_len (B : List Nat) : (scanE B).1.length ≤ B.length ∧ (scanE B).2.1 ≤ B.length := by
  obtain ⟨h1, _, h3, _⟩ := pscan_facts B
  have h4 := tot_len (pscan B).1
  have h5 : (scanLE (pscan B).1).1.length ≤ (pscan B).1.length := by
    generalize (pscan B).1 = L
    induction L with
    | nil => simp [scanLE]
    | cons T L ih =>
      unfold scanLE
      split
      · simp only [List.length_cons]; omega
      · simp
  have h6 := (tot_scan (pscan B).1).1
  unfold scanE
  exact ⟨by show (scanLE (pscan B).1).1.length ≤ _; omega, by show (scanLE (pscan B).1).2.1 ≤ _; omega⟩
def nilT (c : Int) : Ending := .returned (.tuple #[.pointer none, .int .i64 c])
def LoadPost (w0 : World) (p : Nat) (S : St) (B : List Nat) (w : World) (r : Ending) (w' : World) : Prop :=
  match loadA B with
  | none => r = nilT 6 ∧ Below w.heap.size w w'
  | some M => ∃ q sv pv D, r = .returned (.tuple #[pP q, .int .i64 0]) ∧ Hid (InM w0 p (if (scanE B).2.1 < B.length then (rewr S nmN.data.toList nmM.data.toList (encE (wholeM M))).1 else S) q M w' sv pv D)
theorem load_bad {w0 w w' : World} {p : Nat} {S : St} {B : List Nat} (h : loadA B = none) (hb : Below w.heap.size w w') : LoadPost w0 p S B w (nilT 6) w' := by
  unfold LoadPost
  rw [h]
  exact ⟨rfl, hb⟩
theorem load_good {w0 w w' : World} {p q : Nat} {S S' : St} {B : List Nat} {M : MS} {sv pv : Option Nat} {D : Nat → Prop} (h : loadA B = some M) (hS : (if (scanE B).2.1 < B.length then (rewr S nmN.data.toList nmM.data.toList (encE (wholeM M))).1 else S) = S') (hI : InM w0 p S' q M w' sv pv D) : LoadPost w0 p S B w (.returned (.tuple #[pP q, .int .i64 0])) w' := by
  unfold LoadPost
  rw [h]
  simp only
  rw [hS]
  exact ⟨q, sv, pv, D, rfl, Lib.hid hI⟩
set_option maxHeartbeats 4000000 in
theorem load_none {w0 : World} {p : Nat} {S : St} (w : World) (h : InH w0 p S w) (hr : readF S nmM.data.toList = none) :
    Calls Tryz.prog 10 #[pP p] w fun r w' => r = nilT 3 ∧ Below w.heap.size w w' := by
  have hrd := read_h nmM h (by decide)
  rw [hr] at hrd
  unfold nmM ReadPost errV at hrd
  clear h hr
  go_enter Tryz.func10, Tryz.ntmps10
  go_wp2_with fail
  refine hrd.mono ?_
  rintro r w1 ⟨hb, rfl⟩
  clear hrd
  go_wp2_with fail
  go_ret2
  exact ⟨rfl, hb.out⟩
end Go.Proofs.YthgpdnffahmhjaaGreatDoor.S19

/- An index: Put, Del, Move, Hold, Free, Keys, New: contracts. -/
import Derived.Test.YthgpdnffahmhjaaIxD
import Derived.Laws.StructEq
import Derived.Maps.Ext
set_option linter.unusedSimpArgs false
set_option linter.unusedVariables false
set_option linter.unusedSectionVars false
set_option maxRecDepth 100000
namespace Go.Proofs.Ythgpdnffahmhjaa.S20
open Go.RowKit Go.Maps Go.Shelf
/-- what Put, Del and Move leave -/
def put1 (S : IX) (k : ByteArray) (x : LT) : IX := place1 { S with gone := fdel S.gone k } k x
def del1 (S : IX) (k : ByteArray) (q : Int) : IX := { drop1 S k with gone := fput (drop1 S k).gone k q }
def mayMove (S : IX) (k : ByteArray) (x y : LT) : Bool := match S.loc k with
  | some z => decide (z = x ∧ y.seq = x.seq)
  | none => false
abbrev lV (x : LT) : Value := .agg #[.int .i64 x.seg, .int .i64 x.pos, .int .i64 x.seq]
theorem Gone.more {w w' : World} {l : IL} {S' : IX} {N N' : Nat} (h : Gone w l S' N w') (hN : N ≤ N') : Gone w l S' N' w' := by
  obtain ⟨l2, e, hi, hs⟩ := h
  exact ⟨l2, e, Lib.hid (hi.out.more hN), hs⟩
theorem before_lt : ∀ a b : List UInt8, bytesBefore a b = true ↔ a < b
  | [], [] => by simp [bytesBefore]
  | [], _ :: _ => by simp [bytesBefore]
  | _ :: _, [] => by simp [bytesBefore]
  | a :: r, b :: s => by
    simp only [bytesBefore, Bool.or_eq_true, Bool.and_eq_true, decide_eq_true_eq, beq_iff_eq, List.cons_lt_cons_iff, before_lt r s]
/-- the keys that have a location, rising -/
structure KeysT (S : IX) (ss : List (List UInt8)) : Prop where
  len : ss.length = S.n
  up : ss.Pairwise (· < ·)
  mem : ∀ s, s ∈ ss ↔ (S.loc ⟨s.toArray⟩).isSome
theorem keysT_nil {S : IX} (h0 : S.n = 0) (h : ∀ k, vloc S.loc k = none) : KeysT S [] := ⟨h0.symm, List.Pairwise.nil, fun s => by
  have := h ⟨s.toArray⟩
  unfold vloc at this
  simp at this
  simp [this]⟩
theorem keysT_some {w : World} {b n : Nat} {D : DataW Value} {S : IX} (h : w.ownsMap Try.prog 9 heldR b n D) (hs : Maps.size D = S.n) (hD : ∀ k, Maps.has D (klit k) = (vloc S.loc k).isSome ∧ ∀ z v, vloc S.loc k = some v → D.atKey (klit k) z = .held v) {ss : List (List UInt8)} (hp : ss.Perm (strKeys D)) :
    ss.mergeSort (fun x y => decide (x ≤ y)) = strKeys D ∧ KeysT S (strKeys D) := by
  obtain ⟨es, rfl, hup, _⟩ := World.ownsMap.canon h lawS
  obtain ⟨es', hD', hko⟩ := h.keysOf
  obtain rfl : es = es' := by simpa using hD'
  have hstr : ∀ p ∈ es, ∃ x, p.1 = .string x := fun p hp => by obtain ⟨v, hv⟩ := hko p hp; obtain ⟨x, _, hx, _⟩ := Maps.keyOf_str Try.underlying9 hv; exact ⟨x, hx⟩
  have hlt : (strKeys (.map es)).Pairwise (· < ·) := by
    show (es.map fun p => strOf p.1).Pairwise (· < ·)
    refine List.pairwise_map.2 (hup.imp_of_mem fun {p q} hp hq hb => ?_)
    obtain ⟨a, ha⟩ := hstr p hp
    obtain ⟨c, hc⟩ := hstr q hq
    rw [ha, hc] at hb ⊢
    exact (before_lt _ _).1 hb
  refine ⟨?_, ?_, hlt, fun s => ?_⟩
  · rw [show ss.mergeSort (fun x y => decide (x ≤ y)) = _ from mergeSort_of_perm hp]
    refine List.mergeSort_of_pairwise (hlt.imp fun {p q} hpq => ?_)
    simp only [decide_eq_true_eq]
    exact List.le_of_lt hpq
  · rw [← hs]; simp [strKeys, Maps.size]
  · have h1 := (hD ⟨s.toArray⟩).1
    rw [show klit ⟨s.toArray⟩ = .string s from rfl, has_eq] at h1
    have h2 : (vloc S.loc ⟨s.toArray⟩).isSome = (S.loc ⟨s.toArray⟩).isSome := by unfold vloc; simp
    rw [← h2, ← h1, List.any_eq_true]
    show s ∈ es.map (fun p => strOf p.1) ↔ _
    rw [List.mem_map]
    constructor
    · rintro ⟨p, hp, rfl⟩
      obtain ⟨a, ha⟩ := hstr p hp
      exact ⟨p, hp, by rw [ha]; simp [Lit.sameKey, strOf]⟩
    · rintro ⟨p, hp, he⟩
      obtain ⟨a, ha⟩ := hstr p hp
      rw [ha] at he
      exact ⟨p, hp, by rw [ha]; simpa [Lit.sameKey, strOf] using he⟩
theorem sorts (m : Nat) : AnyZ.SortsIn Try.prog lySorted_ren Fence.wide m :=
  ⟨fun blk off cap ss W hH hblk hsz => callsIn_wide.2 (AnyM.slices_Sort_string lySort blk off cap ss W hH hblk hsz),
   fun p cap W => callsIn_wide.2 (AnyM.slices_Sort_string_none lySort p cap W)⟩
theorem keys_c (mb : Option Nat) (W : World) : Calls Try.prog 28 #[.map mb] W fun e w' => e = .returned (.func (.func 34) #[] #[.pointer (some ⟨W.heap.size, 0, none⟩)]) ∧ w' = W.alloc (.cells #[.map mb] 46) :=
  (callsIn_wide (n := 5)).1 (AnyZ.keys_in lyKeysL Fence.wide 5 trivial rfl mb W)
set_option maxHeartbeats 1000000 in
theorem sorted_c (mb : Option Nat) (w : World) (S : IX) (h : MF klit w 9 mb S.n (vloc S.loc)) (hL : S.n ≤ 1000000000) :
    Calls Try.prog 27 #[.func (.func 34) #[] #[.pointer (some ⟨w.heap.size, 0, none⟩)]] (w.alloc (.cells #[.map mb] 46)) fun e w' => ∃ v ss, e = .returned v ∧
      w'.ownsRow w.heap.size 9 1 v ss.length (ss.map encStr) ∧ KeysT S ss ∧ Below w.heap.size w w' := by
  obtain ⟨rfl, hn, hf⟩ | ⟨b, D, rfl, hown, hs, hD⟩ := h
  · have hseq : SeqGives Fence.wide 2 Try.prog 34 #[.pointer (some ⟨w.heap.size, 0, none⟩)] encStr (fun ss : List (List UInt8) => ss = []) 0 (w.alloc (.cells #[.map none] 46)) :=
      AnyZ.keys_gives_nil (ρ := lyKeysL_ren) { lyKeysL with } Fence.wide _ trivial rfl w.heap.size _ (by simp) (by simp)
    refine ((callsIn_wide (n := 5)).1 (AnyZ.sorted_in lySorted Fence.wide 5 trivial trivial trivial trivial rfl (by omega) (sorts _) (enters_of Try.func33 (by kernel_rfl) rfl) 34 #[.pointer (some ⟨w.heap.size, 0, none⟩)] trivial (enters_of Try.func34 (by kernel_rfl) rfl) _ 0 (Nat.zero_le _) (by omega) _ hseq)).mono ?_
    rintro e w' ⟨v, ss, rfl, hS, hrow, hnil, hb⟩
    subst hS
    rw [List.mergeSort_nil] at hrow
    exact ⟨v, [], rfl, ownsRow_base_a hrow (by simp), keysT_nil hn hf, ((Below.refl _ w).alloc (Nat.le_refl _) _).trans (hb.mono (by simp))⟩
  · have hbl := hown.lt
    have hseq : SeqGives Fence.wide 2 Try.prog 34 #[.pointer (some ⟨w.heap.size, 0, none⟩)] encStr (fun ss => ss.Perm (strKeys D)) (Maps.size D) (w.alloc (.cells #[.map (some b)] 46)) :=
      AnyZ.keys_gives (ρ := lyKeysL_ren) { lyKeysL with } Fence.wide _ trivial rfl (by omega) w.heap.size b S.n D _ (by simp) (by simp) (by
        obtain ⟨es, clock, hb, Ft, hs, hD⟩ := hown
        exact ⟨es, clock, (Below.heap_alloc _ _ b hbl).trans hb, Ft, hs, hD⟩)
    refine ((callsIn_wide (n := 5)).1 (AnyZ.sorted_in lySorted Fence.wide 5 trivial trivial trivial trivial rfl (by omega) (sorts _) (enters_of Try.func33 (by kernel_rfl) rfl) 34 #[.pointer (some ⟨w.heap.size, 0, none⟩)] trivial (enters_of Try.func34 (by kernel_rfl) rfl) _ _ (by rw [hs]; unfold maxLen; omega) (by rw [hs]; omega) _ hseq)).mono ?_
    rintro e w' ⟨v, ss, rfl, hS, hrow, hnil, hb⟩
    obtain ⟨h1, h2⟩ := keysT_some hown hs hD hS
    have hl : ss.length = (strKeys D).length := hS.length_eq
    rw [h1, hl] at hrow
    exact ⟨v, _, rfl, ownsRow_base_a hrow (by simp), h2, ((Below.refl _ w).alloc (Nat.le_refl _) _).trans (hb.mono (by simp))⟩
set_option maxHeartbeats 4000000 in
theorem keys_any (l : IL) (S : IX) (N : Nat) (w : World) (h : IsIX w l S N) (hN : N ≤ 99999980) :
    Calls Try.prog 16 #[pI l.p] w fun e w' => ∃ v ss, e = .returned v ∧ w'.ownsRow w.heap.size 9 1 v ss.length (ss.map encStr) ∧ KeysT S ss ∧ Below w.heap.size w w' := by
  obtain ⟨c1, _, _, _⟩ := h.cells
  have hkc := keys_c l.m1 w
  have hso := sorted_c l.m1 w S h.loc (by have := h.nN; omega)
  clear h
  go_enter Try.func16, Try.ntmps16
  go_wp2_with fail
  refine hkc.mono ?_
  rintro e w1 ⟨rfl, rfl⟩
  clear hkc
  go_wp2_with fail
  refine hso.mono ?_
  rintro e w2 ⟨v, ss, rfl, h1, h2, h3⟩
  clear hso
  go_wp2_with fail
  go_ret
  exact ⟨v, ss, rfl, h1, h2, h3⟩
theorem run_neqL (z x : LT) (w : World) : (binOp .neq 30 (.agg #[.int .i64 z.seg, .int .i64 z.pos, .int .i64 z.seq]) (.agg #[.int .i64 x.seg, .int .i64 x.pos, .int .i64 x.seq])).run Try.prog w = .ok (.bool (!decide (z = x))) w := by
  obtain ⟨a, b, c⟩ := z
  obtain ⟨d, e, f⟩ := x
  have hf : (Try.prog.fieldsOf 30).toList = (Try.prog.fieldsOf 30).toList := rfl
  by_cases h1 : a = d
  · by_cases h2 : b = e
    · by_cases h3 : c = f
      · subst h1; subst h2; subst h3
        go_simp
      · have q3 : (c == f) = false := beq_f h3
        subst h1; subst h2
        have q : decide ((⟨a, b, c⟩ : LT) = ⟨a, b, f⟩) = false := decide_eq_false (by intro e; cases e; exact h3 rfl)
        rw [q]
        clear q
        go_simp
    · have q3 : (b == e) = false := beq_f h2
      subst h1
      have q : decide ((⟨a, b, c⟩ : LT) = ⟨a, e, f⟩) = false := decide_eq_false (by intro e; cases e; exact h2 rfl)
      rw [q]
      clear q
      go_simp
  · have q3 : (a == d) = false := beq_f h1
    have q : decide ((⟨a, b, c⟩ : LT) = ⟨d, e, f⟩) = false := decide_eq_false (by intro e; cases e; exact h1 rfl)
    rw [q]
    clear q
    go_simp
attribute [local go_sem ↓] loadL_eq storeL_eq
set_option maxHeartbeats 4000000 in
theorem put_any (l : IL) (S : IX) (N : Nat) (k : ByteArray) (x : LT) (w : World) (h : IsIX w l S N) (hN : N ≤ 99999980) (hk : k.size ≤ 1000000) (hx : (Lit.int .i64 x.seg).wf = true) (hw : LOk S) :
    Calls Try.prog 11 #[pI l.p, .string k, .agg #[.int .i64 x.seg, .int .i64 x.pos, .int .i64 x.seq]] w fun e w' => e = .returned (.bool (newsB S k x.seq)) ∧ Gone w l (if newsB S k x.seq then put1 S k x else S) (N + 3) w' := by
  obtain ⟨w1, hw1⟩ : ∃ w1, w.alloc (.cells #[.int .i64 x.seg, .int .i64 x.pos, .int .i64 x.seq] 30) = w1 := ⟨_, rfl⟩
  have hk1 : Blk w1 w.heap.size 30 (locC x) := by rw [← hw1]; exact Blk.new w _ _
  have hb1 : Below w.heap.size w w1 := by rw [← hw1]; exact (Below.refl _ _).alloc (Nat.le_refl _) _
  have c1 : w1.cell? ⟨w.heap.size, 2, none⟩ = some (.int .i64 x.seq) := hk1.cell rfl
  have h1 := h.below hb1
  have hnw := isNews_any l S N k x.seq w1 h1 (by unfold maxLen; omega)
  have HLT := Lib.hid h.lt
  have H1 := Lib.hid h1
  have HB1 := Lib.hid hb1
  have HK1 := Lib.hid hk1
  have HW := Lib.hid hw
  clear h h1 hb1 hk1 hw
  cases hB : newsB S k x.seq with
  | false =>
    rw [hB] at hnw
    clear hB
    go_enter Try.func11, Try.ntmps11
    go_wp2_with fail
    refine hnw.mono ?_
    rintro e w2 ⟨rfl, hb2⟩
    have HB2 := Lib.hid hb2
    clear hnw hb2
    go_wp2_with fail
    go_ret
    exact ⟨rfl, l, rfl, Lib.hid ((H1.out.below HB2.out).more (by omega)), Lib.hid (Step.ofBelow (HB1.out.trans (HB2.out.mono HB1.out.size)) _)⟩
  | true =>
    rw [hB] at hnw
    clear hB
    go_enter Try.func11, Try.ntmps11
    go_wp2_with fail
    refine hnw.mono ?_
    rintro e w2 ⟨rfl, hb2⟩
    have h2 := H1.out.below hb2
    obtain ⟨_, d1, _, _⟩ := h2.cells
    obtain ⟨n, hn, hm2⟩ := h2.gone
    obtain ⟨w3, hd, hm3, hg3⟩ := MF.del klit_inj hm2 lawS (t := 47) Try.underlying47 (key_str (by unfold maxLen; omega : k.size ≤ maxLen))
    rw [vint_del] at hm3
    obtain ⟨h3, hs3⟩ := IsIX.cut2 _ h2 hm3 (Nat.le_trans (ndel_le _ _ _) hn) hg3
    have hk3 : Blk w3 w.heap.size 30 (locC x) := (HK1.out.below hb2 HK1.out.lt).grown hg3 (fun e => by have := HLT.out _ (.inr (.inr (.inl e.symm))); omega)
    have hld := run_loadL_blk hk3
    have hpl := place_any l _ N k x w3 h3 (by omega) hk hx HW.out
    have HS := Lib.hid ((Step.ofBelow (HB1.out.trans (hb2.mono HB1.out.size)) l.at).trans hs3)
    clear hnw hb2 h2 hm2 hm3 hg3 h3 hs3 hk3 hn
    go_wp2_with fail
    refine hpl.mono ?_
    rintro e w4 ⟨rfl, hG⟩
    clear hpl
    go_wp2_with fail
    go_ret
    exact ⟨rfl, Gone.trans (l' := l) rfl HS.out hG⟩
set_option maxHeartbeats 4000000 in
theorem del_any (l : IL) (S : IX) (N : Nat) (k : ByteArray) (q : Int) (w : World) (h : IsIX w l S N) (hN : N ≤ 99999980) (hk : k.size ≤ 1000000) (hw : LOk S) :
    Calls Try.prog 10 #[pI l.p, .string k, .int .i64 q] w fun e w' => e = .returned (.bool (newsB S k q)) ∧ Gone w l (if newsB S k q then del1 S k q else S) (N + 3) w' := by
  have hnw := isNews_any l S N k q w h (by unfold maxLen; omega)
  have H1 := Lib.hid h
  have HW := Lib.hid hw
  clear h hw
  cases hB : newsB S k q with
  | false =>
    rw [hB] at hnw
    clear hB
    go_enter Try.func10, Try.ntmps10
    go_wp2_with fail
    refine hnw.mono ?_
    rintro e w2 ⟨rfl, hb2⟩
    have HB2 := Lib.hid hb2
    clear hnw hb2
    go_wp2_with fail
    go_ret
    exact ⟨rfl, l, rfl, Lib.hid ((H1.out.below HB2.out).more (by omega)), Lib.hid (Step.ofBelow HB2.out _)⟩
  | true =>
    rw [hB] at hnw
    clear hB
    unfold del1
    go_enter Try.func10, Try.ntmps10
    go_wp2_with fail
    refine hnw.mono ?_
    rintro e w1 ⟨rfl, hb1⟩
    have h1 := H1.out.below hb1
    have hdp := displace_any l S N k w1 h1 (by omega) (by unfold maxLen; omega) HW.out
    obtain ⟨S1, hS1⟩ : ∃ S1, drop1 S k = S1 := ⟨_, rfl⟩
    rw [hS1] at hdp
    have HS1 := Lib.hid hS1
    have HB1 := Lib.hid hb1
    clear hnw hb1 h1 hS1
    go_wp2_with fail
    refine hdp.mono ?_
    rintro e w2 ⟨rfl, l2, hp2, hi2, hs2⟩
    have hcl := cloneS_any k w2.drew (by omega)
    rw [← hp2]
    have HP2 := Lib.hid hp2
    have hHeld : True := trivial
    clear hdp hp2
    go_wp2_with fail
    refine wp_region_noPanic ?_
    refine wpAnyH_start (n := 7) (l := #[false, false, false, false, false, false, false]) (S := fun W => True) (by kernel_rfl) (trivial) (by kernel_rfl) (by kernel_rfl) ?_
    refine wpAnyH_take (i := 0) (oi := _) (v := ?_) rfl (by kernel_rfl) (by kernel_rfl) (by kernel_rfl) (fun _ _ _ h => h) (Or.inl ⟨by rfl, ?_⟩) (trivial) ?_
    rotate_left
    · intro wq hSw; go_simp; try with_reducible rfl
    simp only [Act.put, List.setIfInBounds_toArray, List.set_cons_zero, List.set_cons_succ, List.getElem_toArray, List.getElem_cons_zero, List.getElem_cons_succ]
    refine wpAnyH_take (i := 1) (oi := _) (v := ?_) rfl (by kernel_rfl) (by kernel_rfl) (by kernel_rfl) (fun _ _ _ h => h) (Or.inl ⟨by rfl, ?_⟩) (trivial) ?_
    rotate_left
    · intro wq hSw; go_simp; try with_reducible rfl
    simp only [Act.put, List.setIfInBounds_toArray, List.set_cons_zero, List.set_cons_succ, List.getElem_toArray, List.getElem_cons_zero, List.getElem_cons_succ]
    refine wpAnyH_take (i := 2) (oi := _) (v := ?_) rfl (by kernel_rfl) (by kernel_rfl) (by kernel_rfl) (fun _ _ _ h => h) (Or.inl ⟨by rfl, ?_⟩) (trivial) ?_
    rotate_left
    · intro wq hSw; go_simp; try with_reducible rfl
    simp only [Act.put, List.setIfInBounds_toArray, List.set_cons_zero, List.set_cons_succ, List.getElem_toArray, List.getElem_cons_zero, List.getElem_cons_succ]
    refine wpAnyH_take (i := 3) (oi := _) (v := ?_) rfl (by kernel_rfl) (by kernel_rfl) (by kernel_rfl) (fun _ _ _ h => h) (Or.inl ⟨by rfl, ?_⟩) (trivial) ?_
    rotate_left
    · intro wq hSw; go_simp; try with_reducible rfl
    simp only [Act.put, List.setIfInBounds_toArray, List.set_cons_zero, List.set_cons_succ, List.getElem_toArray, List.getElem_cons_zero, List.getElem_cons_succ]
    refine wpAnyH_take (i := 5) (oi := _) (v := ?_) rfl (by kernel_rfl) (by kernel_rfl) (by kernel_rfl) (fun _ _ _ h => h) (Or.inl ⟨by rfl, ?_⟩) (trivial) ?_
    rotate_left
    · intro wq hSw; go_simp; try with_reducible rfl
    simp only [Act.put, List.setIfInBounds_toArray, List.set_cons_zero, List.set_cons_succ, List.getElem_toArray, List.getElem_cons_zero, List.getElem_cons_succ]
    refine wpAnyH_ready (rs := [4]) (by kernel_rfl) (by simp) ?_
    refine AllReadyH.cons (o := _) rfl (fun K hK => ?_) AllReadyH.nil
    simp only [List.getElem_toArray, List.getElem_cons_zero, List.getElem_cons_succ]
    go_simp
    refine hcl.mono ?_; rintro r w3 ⟨rfl, hb3⟩
    refine hK.out _ _ (trivial) (fun _ => ?_)
    clear hK K
    have HB3 := Lib.hid hb3
    have hi3 := (hi2.out.drew).below hb3
    obtain ⟨n, hn, hmg⟩ := hi3.gone
    have hst := set_gone l2.p 1 l2.cs l2.m2 n _ k q w3 hi3.blk rfl hmg (by omega) (by unfold maxLen; omega)
    have HI3 := Lib.hid hi3
    clear hb3 hi3 hcl hmg
    simp only [Act.put, List.setIfInBounds_toArray, List.set_cons_zero, List.set_cons_succ, List.getElem_toArray, List.getElem_cons_zero, List.getElem_cons_succ]
    refine wpAnyH_ready (rs := [6]) (by kernel_rfl) (by simp) ?_
    refine AllReadyH.cons (o := _) rfl (fun K hK => ?_) AllReadyH.nil
    simp only [List.getElem_toArray, List.getElem_cons_zero, List.getElem_cons_succ]
    go_simp
    refine hst.mono ?_; rintro r w4 ⟨rfl, b, hb, hk4, hm4, hs4⟩
    refine hK.out _ _ (trivial) (fun _ => ?_)
    clear hK K
    simp only [Act.put, List.setIfInBounds_toArray, List.set_cons_zero, List.set_cons_succ, List.getElem_toArray, List.getElem_cons_zero, List.getElem_cons_succ]
    refine wpAnyH_done (by kernel_rfl) ?_ _
    refine NoPanic.normal ?_
    have hG := HI3.out.slot2 (fput S1.gone k q) hb hk4.out (by have := hm4.out; rw [show fput (vint S1.gone) k (.int .i64 q) = _ from vint_put S1.gone k q] at this; exact this) (Nat.le_trans (nput_le _ _ _) (by omega)) hs4.out
    have HST : Hid (Step w w3 l.at l2.at) := Lib.hid ((Step.ofBelow HB1.out l.at).trans (hs2.out.trans (Step.ofBelow (show Below w2.heap.size w2 w3 from ⟨HB3.out.os, HB3.out.tape, HB3.out.output, HB3.out.size, HB3.out.block⟩) _)))
    clear hst hb hk4 hm4 hs4
    go_wp2_with fail
    go_ret
    rw [HS1.out]
    exact ⟨rfl, (Gone.trans HP2.out HST.out hG).more (by omega)⟩
set_option maxHeartbeats 4000000 in
theorem hold_any (l : IL) (S : IX) (N : Nat) (a : Int) (w : World) (h : IsIX w l S N) (hN : N ≤ 99999980) (ha : (Lit.int .i64 a).wf = true) :
    Calls Try.prog 13 #[pI l.p, .int .i64 a] w fun e w' => e = .returned (.tuple #[]) ∧ Gone w l { S with rd := cadd S.rd a 1 } (N + 1) w' := by
  have had := add4u l S N a w h (by omega) ha
  clear h
  go_enter Try.func13, Try.ntmps13
  go_wp2_with fail
  refine had.mono ?_
  rintro e w1 ⟨rfl, hG⟩
  clear had
  go_wp2_with fail
  go_end0
  exact ⟨rfl, hG⟩
set_option maxHeartbeats 4000000 in
theorem free_any (l : IL) (S : IX) (N : Nat) (a : Int) (w : World) (h : IsIX w l S N) (hN : N ≤ 99999980) (ha : (Lit.int .i64 a).wf = true) :
    Calls Try.prog 18 #[pI l.p, .int .i64 a] w fun e w' => e = .returned (.bool (if S.rd a = 0 then false else decide (S.rd a = 1))) ∧ Gone w l (if S.rd a = 0 then S else { S with rd := cadd S.rd a (-1) }) (N + 1) w' := by
  have hhd := held_any l S N a w h ha
  have H1 := Lib.hid h
  by_cases hz : S.rd a = 0
  · rw [if_pos hz, if_pos hz]
    rw [hz] at hhd
    clear h hz
    go_enter Try.func18, Try.ntmps18
    go_wp2_with fail
    refine hhd.mono ?_
    rintro e w1 ⟨rfl, rfl⟩
    clear hhd
    go_wp2_with fail
    go_ret
    exact ⟨rfl, l, rfl, Lib.hid (H1.out.more (by omega)), Lib.hid (Step.refl _ _)⟩
  · rw [if_neg hz, if_neg hz]
    have had := add4d l S N a w h (by omega) ha
    obtain ⟨c, hc⟩ : ∃ c, S.rd a = c := ⟨_, rfl⟩
    have HC := Lib.hid hc
    rw [hc] at hhd hz ⊢
    have q1 : (c == 0) = false := beq_f hz
    clear h hc
    by_cases h1 : c = 1
    · have q2 : decide (c = 1) = true := decide_eq_true h1
      rw [q2]
      subst h1
      clear q2 hz q1
      go_enter Try.func18, Try.ntmps18
      go_wp2_with fail
      refine hhd.mono ?_
      rintro e w1 ⟨rfl, rfl⟩
      clear hhd
      go_wp2_with fail
      refine had.mono ?_
      rintro e w2 ⟨rfl, l2, hp2, hi2, hs2⟩
      have hh2 := held_any l2 _ (N + 1) a w2 hi2.out ha
      rw [hp2] at hh2
      have hv : (cadd S.rd a (-1)) a = 0 := by unfold cadd; rw [if_pos rfl, HC.out]; rfl
      simp only [hv] at hh2
      have HP2 := Lib.hid hp2
      clear had hv hp2
      go_wp2_with fail
      refine hh2.mono ?_
      rintro e w3 ⟨rfl, rfl⟩
      clear hh2
      go_wp2_with fail
      go_ret
      exact ⟨rfl, l2, HP2.out, hi2, hs2⟩
    · have q2 : decide (c = 1) = false := decide_eq_false h1
      rw [q2]
      have q3 : (c + -1 == 0) = false := beq_f (by omega)
      clear q2
      go_enter Try.func18, Try.ntmps18
      go_wp2_with fail
      refine hhd.mono ?_
      rintro e w1 ⟨rfl, rfl⟩
      clear hhd
      go_wp2_with fail
      refine had.mono ?_
      rintro e w2 ⟨rfl, l2, hp2, hi2, hs2⟩
      have hh2 := held_any l2 _ (N + 1) a w2 hi2.out ha
      rw [hp2] at hh2
      have hv : (cadd S.rd a (-1)) a = c + -1 := by unfold cadd; rw [if_pos rfl, HC.out]
      simp only [hv] at hh2
      have HP2 := Lib.hid hp2
      clear had hv hp2
      go_wp2_with fail
      refine hh2.mono ?_
      rintro e w3 ⟨rfl, rfl⟩
      clear hh2
      go_wp2_with fail
      go_ret
      exact ⟨rfl, l2, HP2.out, hi2, hs2⟩
set_option maxHeartbeats 4000000 in
theorem move_any (l : IL) (S : IX) (N : Nat) (k : ByteArray) (x y : LT) (w : World) (h : IsIX w l S N) (hN : N ≤ 99999980) (hk : k.size ≤ 1000000) (hy : (Lit.int .i64 y.seg).wf = true) (hw : LOk S) :
    Calls Try.prog 14 #[pI l.p, .string k, .agg #[.int .i64 x.seg, .int .i64 x.pos, .int .i64 x.seq], .agg #[.int .i64 y.seg, .int .i64 y.pos, .int .i64 y.seq]] w fun e w' => e = .returned (.bool (mayMove S k x y)) ∧ Gone w l (if mayMove S k x y then place1 S k y else S) (N + 3) w' := by
  obtain ⟨w1, hw1⟩ : ∃ w1, w.alloc (.cells #[.int .i64 x.seg, .int .i64 x.pos, .int .i64 x.seq] 30) = w1 := ⟨_, rfl⟩
  have hk1 : Blk w1 w.heap.size 30 (locC x) := by rw [← hw1]; exact Blk.new w _ _
  have hb1 : Below w.heap.size w w1 := by rw [← hw1]; exact (Below.refl _ _).alloc (Nat.le_refl _) _
  obtain ⟨w2, hw2⟩ : ∃ w2, w1.alloc (.cells #[.int .i64 y.seg, .int .i64 y.pos, .int .i64 y.seq] 30) = w2 := ⟨_, rfl⟩
  have hk2 : Blk w2 w1.heap.size 30 (locC y) := by rw [← hw2]; exact Blk.new w1 _ _
  have hb2 : Below w1.heap.size w1 w2 := by rw [← hw2]; exact (Below.refl _ _).alloc (Nat.le_refl _) _
  have hb02 : Below w.heap.size w w2 := hb1.trans (hb2.mono hb1.size)
  have h2 := h.below hb02
  have hgt := get_any l S N k w2 h2 (by unfold maxLen; omega)
  have H2 := Lib.hid h2
  have HB := Lib.hid hb02
  have HKX := Lib.hid (hk1.below hb2 hk1.lt)
  have HKY := Lib.hid hk2
  have HW := Lib.hid hw
  obtain ⟨gy, hgy⟩ : ∃ gy, w1.heap.size = gy := ⟨_, rfl⟩
  obtain ⟨gx, hgx⟩ : ∃ gx, w.heap.size = gx := ⟨_, rfl⟩
  rw [hgx] at HKX
  rw [hgy] at HKY
  clear h h2 hw hk1 hk2 hb1 hb2 hb02
  obtain ⟨mm, hmm⟩ : ∃ mm, mayMove S k x y = mm := ⟨_, rfl⟩
  rw [hmm]
  unfold mayMove at hmm
  cases hL : S.loc k with
  | none =>
    rw [hL] at hgt hmm
    simp only [Option.getD_none, Option.isSome_none, locV] at hgt hmm
    subst hmm
    clear hL
    go_enter Try.func14, Try.ntmps14
    go_wp2_with fail
    refine hgt.mono ?_
    rintro e w3 ⟨rfl, hb3⟩
    obtain ⟨w4, w5, hw4, hst, hk5, hb5⟩ := own_loc w3 ⟨0, 0, 0⟩
    unfold locV at hst
    have HB5 := Lib.hid (hb3.trans (hb5.mono hb3.size))
    clear hgt hb3 hk5 hb5
    go_wp2_with fail
    go_ret
    exact ⟨rfl, l, rfl, Lib.hid ((H2.out.below HB5.out).more (by omega)), Lib.hid (Step.ofBelow (HB.out.trans (HB5.out.mono HB.out.size)) _)⟩
  | some z =>
    rw [hL] at hgt hmm
    simp only [Option.getD_some, Option.isSome_some, locV] at hgt hmm
    clear hL
    have hnq := run_neqL z x
    have hpl := fun (W : World) (hW : IsIX W l S N) => place_any l S N k y W hW (by omega) hk hy HW.out
    have HPL := Lib.hid hpl
    obtain ⟨c, hc⟩ : ∃ c, decide (z = x) = c := ⟨_, rfl⟩
    have hcc : decide (z = x ∧ y.seq = x.seq) = (c && decide (y.seq = x.seq)) := by rw [← hc]; by_cases e : z = x <;> simp [e]
    rw [hc] at hnq
    rw [hcc] at hmm
    clear hcc hpl
    cases c with
    | false =>
      simp only [Bool.not_false, Bool.false_and] at hnq hmm
      subst hmm
      clear hc
      go_enter Try.func14, Try.ntmps14
      go_wp2_with fail
      refine hgt.mono ?_
      rintro e w3 ⟨rfl, hb3⟩
      obtain ⟨w4, w5, hw4, hst, hk5, hb5⟩ := own_loc w3 z
      unfold locV at hst
      have hb35 := hb3.trans (hb5.mono hb3.size)
      have hl1 := run_loadL_blk hk5
      have hl2 := run_loadL_blk (HKX.out.below hb35 HKX.out.lt)
      have HB5 := Lib.hid hb35
      clear hgt hb3 hk5 hb5 hb35
      go_wp2_with fail
      go_ret
      exact ⟨rfl, l, rfl, Lib.hid ((H2.out.below HB5.out).more (by omega)), Lib.hid (Step.ofBelow (HB.out.trans (HB5.out.mono HB.out.size)) _)⟩
    | true =>
      obtain rfl : z = x := of_decide_eq_true hc
      simp only [Bool.not_true, Bool.true_and] at hnq hmm
      clear hc
      by_cases hs : y.seq = z.seq
      · have q1 : decide (y.seq = z.seq) = true := decide_eq_true hs
        have q2 : (y.seq != z.seq) = false := by simp [hs]
        have q3 : (y.seq == z.seq) = true := by simp [hs]
        rw [q1] at hmm
        subst hmm
        clear q1 hs
        go_enter Try.func14, Try.ntmps14
        go_wp2_with fail
        refine hgt.mono ?_
        rintro e w3 ⟨rfl, hb3⟩
        obtain ⟨w4, w5, hw4, hst, hk5, hb5⟩ := own_loc w3 z
        unfold locV at hst
        have hb35 := hb3.trans (hb5.mono hb3.size)
        have hl1 := run_loadL_blk hk5
        have hX5 := HKX.out.below hb35 HKX.out.lt
        have hY5 := HKY.out.below hb35 HKY.out.lt
        have hl2 := run_loadL_blk hX5
        have hl3 := run_loadL_blk hY5
        have c1 : w5.cell? ⟨gx, 2, none⟩ = some (.int .i64 z.seq) := hX5.cell rfl
        have c2 : w5.cell? ⟨gy, 2, none⟩ = some (.int .i64 y.seq) := hY5.cell rfl
        have hpl := HPL.out w5 (H2.out.below hb35)
        have HB5 := Lib.hid hb35
        clear hgt hb3 hk5 hb5 hb35 hX5 hY5
        go_wp2_with fail
        refine hpl.mono ?_
        rintro e w6 ⟨rfl, hG⟩
        clear hpl
        go_wp2_with fail
        go_ret
        exact ⟨rfl, Gone.trans (l' := l) rfl (Step.ofBelow (HB.out.trans (HB5.out.mono HB.out.size)) l.at) hG⟩
      · have q1 : decide (y.seq = z.seq) = false := decide_eq_false hs
        have q2 : (y.seq != z.seq) = true := by simp [hs]
        have q3 : (y.seq == z.seq) = false := beq_f hs
        rw [q1] at hmm
        subst hmm
        clear q1
        go_enter Try.func14, Try.ntmps14
        go_wp2_with fail
        refine hgt.mono ?_
        rintro e w3 ⟨rfl, hb3⟩
        obtain ⟨w4, w5, hw4, hst, hk5, hb5⟩ := own_loc w3 z
        unfold locV at hst
        have hb35 := hb3.trans (hb5.mono hb3.size)
        have hl1 := run_loadL_blk hk5
        have hX5 := HKX.out.below hb35 HKX.out.lt
        have hY5 := HKY.out.below hb35 HKY.out.lt
        have hl2 := run_loadL_blk hX5
        have c1 : w5.cell? ⟨gx, 2, none⟩ = some (.int .i64 z.seq) := hX5.cell rfl
        have c2 : w5.cell? ⟨gy, 2, none⟩ = some (.int .i64 y.seq) := hY5.cell rfl
        have HB5 := Lib.hid hb35
        clear hgt hb3 hk5 hb5 hb35 hX5 hY5
        go_wp2_with fail
        go_ret
        exact ⟨rfl, l, rfl, Lib.hid ((H2.out.below HB5.out).more (by omega)), Lib.hid (Step.ofBelow (HB.out.trans (HB5.out.mono HB.out.size)) _)⟩
end Go.Proofs.Ythgpdnffahmhjaa.S20

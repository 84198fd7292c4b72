/- codes.Read: a contract. -/
import Derived.Test.YtijjpbpoekbekaaCodD
set_option linter.unusedSimpArgs false
set_option linter.unusedVariables false
namespace Go.Proofs.Ytijjpbpoekbekaa
open Go.RowKit Pl
def lenOfV : Value → Nat
  | .slice _ n _ => n
  | _ => 0
theorem lenOfV_slice (a : Option Addr) (n c : Nat) : lenOfV (.slice a n c) = n := rfl
theorem own_type {w : World} {base n k : Nat} {e t : TypeId} {v : Value} {xs cs : List Value} (h : w.ownsRow base e 1 v n xs) (hv : v.ownBlock = some k) (hb : Blk w k t cs) : t = e := by
  apply Classical.byContradiction
  intro hne
  exact own_other h hb hne hv
theorem rd_append {w w1 w' : World} {base b at_ bl n : Nat} {B : List Nat} {v : Value} {xs : List Value} (h : Rd w base b B at_) (ho : w.ownsRow bl 3 1 v n xs) (o : Obj) (hg : (w.alloc o).grownBy w' v.ownBlock) : Rd w' base b B at_ :=
  (h.alloc o).row hg fun k t cs e hk _ => by
    have := own_type (ho.alloc o) e hk
    subst this
    exact ⟨by decide, by decide⟩
theorem gr_append {w w1 w' : World} {b n : Nat} {e : TypeId} {v : Value} {xs : List Value} (h : Gr w w1 b) (ho : w1.ownsRow w.heap.size e 1 v n xs) (o : Obj) (hg : (w1.alloc o).grownBy w' v.ownBlock) : Gr w w' b :=
  ⟨hg.os.trans h.os, hg.tape.trans h.tape, hg.output.trans h.output, by have := hg.size; have := h.size; simp at *; omega, fun i hi hne => by
    have h1 := h.block i hi hne
    have hs := h.size
    rw [hg.block i (by simp; omega) (fun e => by have := own_lt ho i e.symm; omega), Below.heap_alloc w1 o i (by omega)]
    exact h1⟩
def RdcPost (F : List Int) (en most : Int) (b base : Nat) (B : List Nat) (at_ : Nat) (w : World) (e : Ending) (w' : World) : Prop :=
  Gr w w' b ∧ ((¬ okL F ∧ e = .returned (.tuple #[.slice none 0 0, .int .i64 10]) ∧ Rd w' base b B at_) ∨
    (okL F ∧ ∃ L r n sp cap, rdF F en most.toNat ((bitsB B).drop at_) [] 0 = (L, r, n) ∧ e = .returned (.tuple #[.slice sp L.length cap, .int .i64 r]) ∧ w'.ownsRow w.heap.size 3 1 (.slice sp L.length cap) L.length (i64s L) ∧
      ∃ m, Rd w' base b B (at_ + m) ∧ (r = 0 → m = n)))
theorem rdcPost_err {F : List Int} {en most : Int} {b base : Nat} {B : List Nat} {at_ m : Nat} {w w' : World} {r : Int} (hok : okL F) (hg : Gr w w' b) (hr : Rd w' base b B (at_ + m)) (h : rdF F en most.toNat ((bitsB B).drop at_) [] 0 = ([], r, 0)) (h0 : r ≠ 0) :
    RdcPost F en most b base B at_ w (.returned (.tuple #[.slice none 0 0, .int .i64 r])) w' :=
  ⟨hg, .inr ⟨hok, [], r, 0, none, 0, h, rfl, own_nilI _ _ _, m, hr, fun e => absurd e h0⟩⟩
set_option maxHeartbeats 8000000 in
theorem read_codes (v : Value) (F : List Int) (en most : Int) (b base : Nat) (B : List Nat) (at_ : Nat) (w : World) (hv : IsInts w v F) (hF : F.length ≤ 17179869184) (hB : B.length ≤ 1000000000) (hr : Rd w base b B at_)
    (hm : -9223372036854775808 ≤ most ∧ most < 9223372036854775808) :
    Calls Try.prog 21 #[.pointer (some ⟨b, 0, none⟩), v, .int .i64 en, .int .i64 most] w (RdcPost F en most b base B at_ w) := by
  have htab := tableOf_any v F w hv hF
  obtain ⟨a, cap, rfl, hcap, hmax⟩ := hv.slice
  have HR := Lib.hid hr
  clear hv hr
  by_cases hok : okL F
  · have HOK := Lib.hid hok
    clear hok
    go_enter Try.func21, Try.ntmps21
    go_wp2_with fail
    refine htab.mono ?_
    rintro e w1 ⟨hb1, ⟨_, g, vs, rfl, ht⟩ | ⟨hn, _⟩⟩
    rotate_left
    · exact absurd HOK.out hn
    have HT1 := Lib.hid ht
    have HB1 := Lib.hid hb1
    have HR1 := Lib.hid (HR.out.below hb1)
    obtain ⟨cs, hcs⟩ := HR1.out.blk
    have HCS := Lib.hid hcs
    obtain ⟨M, hM⟩ : ∃ M, M = (bitsB B).drop at_ := ⟨_, rfl⟩
    have HM := Lib.hid hM
    have hal := HR1.out.2.1
    clear ht hb1 htab hcs hM
    go_wp2_with fail
    go_loopw [12] (fun x wr => ∃ (A : List Int) (at1 : Nat) (sp : Option Addr) (cp : Nat), x = .slice sp A.length cp ∧ A.length ≤ cp ∧ cp ≤ maxLen ∧ wr.ownsRow w1.heap.size 3 1 (.slice sp A.length cp) A.length (i64s A) ∧ A.length ≤ at1 ∧ at_ + at1 ≤ 8 * B.length ∧
      rdF F en (most - A.length).toNat M A at1 = rdF F en most.toNat M [] 0 ∧ Rd wr base b B (at_ + at1) ∧ Gr w1 wr b) (fun x _ => 8 * B.length + 1 - lenOfV x)
    case atStart => exact ⟨[], 0, none, 0, rfl, Nat.le_refl _, by unfold maxLen; omega, own_nilI _ _ _, by simp, by omega, by simp, HR1.out, Gr.refl _ _⟩
    case round =>
      obtain ⟨A, at1, sp, cp, rfl, hcp1, hcp2, ho, hA, hat, he, hr, hg⟩ := hrel
      have HO := Lib.hid ho
      have HE := Lib.hid he
      have HRk := Lib.hid hr
      have HG := Lib.hid hg
      have hsz : w1.heap.size ≤ wr.heap.size := hg.size
      clear ho he hr hg
      obtain ⟨N, hN⟩ : ∃ N, N = A.length := ⟨_, rfl⟩
      rw [← hN] at hcp1 HO hA HE ⊢
      have HN := Lib.hid hN
      clear hN
      by_cases hlt : (N : Int) < most
      · have hTk := HT1.out.gr HG.out HCS.out (by decide) (by decide)
        have hnext := next_any F HOK.out w.heap.size g vs b base B (at_ + at1) wr hTk HRk.out
        unfold NextPost at hnext
        rw [← List.drop_drop, ← HM.out] at hnext
        obtain ⟨m, hm2⟩ : ∃ m, (most - (N : Int)).toNat = m + 1 := ⟨(most - (N : Int)).toNat - 1, by omega⟩
        have hm3 : (most - ((N + 1 : Nat) : Int)).toNat = m := by omega
        rw [hm2] at HE
        have HM3 := Lib.hid hm3
        clear hTk hm2 hm3
        go_wp2_with fail
        refine hnext.mono ?_
        rintro e w2 ⟨hg2, ⟨s, n, hst, rfl, hr2⟩ | ⟨hst, rfl, n, hr2⟩⟩
        · have HG2 := Lib.hid hg2
          have HR2 := Lib.hid hr2
          have HST := Lib.hid hst
          obtain ⟨cs2, hcs2⟩ := HRk.out.blk
          have HO2 := Lib.hid (own_gr HO.out hg2 hcs2 (by decide))
          have hn0 := stepL_some hst
          rw [List.length_drop, HM.out, List.length_drop, bitsB_length] at hn0
          have hn1 := hn0.1
          have hn3 := hn0.2.2.1
          have hsz2 : w1.heap.size ≤ w2.heap.size := Nat.le_trans hsz hg2.size
          have hNI : N + 1 ≤ 17592186044416 := by omega
          clear hnext hg2 hr2 hst hcs2 hn0
          by_cases hse : s = en
          · subst hse
            go_wp2_with (at_builtin; refine wpList_append_j rfl (.tmp 34) (.tmp 36) rfl w1.heap.size (.slice sp N cp) N _ s rfl HO2.out _ rfl rfl hNI hsz2 ?_; intro v' w3 hown hgr; obtain ⟨sp', cp', rfl, hcp3, hcp4⟩ := ownsRow_slice hown)
            go_ret2
            have hlen : (A ++ [s]).length = N + 1 := by rw [List.length_append, List.length_singleton, HN.out]
            refine ⟨Gr.trans (Gr.ofBelow HB1.out) (gr_append (Gr.trans HG.out HG2.out) HO2.out _ hgr), .inr ⟨HOK.out, A ++ [s], 0, at1 + n, sp', cp', ?_, by rw [hlen]; rfl, by rw [hlen]; exact own_base hown HB1.out.size, at1 + n, ?_, fun _ => rfl⟩⟩
            · rw [← HM.out, ← HE.out]; exact rdF_end HST.out
            · rw [← Nat.add_assoc]; exact rd_append (w1 := w1) HR2.out HO2.out _ hgr
          · go_wp2_with (at_builtin; refine wpList_append_j rfl (.tmp 34) (.tmp 36) rfl w1.heap.size (.slice sp N cp) N _ s rfl HO2.out _ rfl rfl hNI hsz2 ?_; intro v' w3 hown hgr; obtain ⟨sp', cp', rfl, hcp3, hcp4⟩ := ownsRow_slice hown)
            have hlen : (A ++ [s]).length = N + 1 := by rw [List.length_append, List.length_singleton, HN.out]
            refine ⟨⟨A ++ [s], at1 + n, sp', cp', by rw [hlen], by rw [hlen]; exact hcp3, hcp4, by rw [hlen]; exact hown, by rw [hlen]; omega, by omega, ?_, ?_, gr_append (Gr.trans HG.out HG2.out) HO2.out _ hgr⟩, ?_⟩
            · rw [hlen, HM3.out, ← HE.out]; exact (rdF_more HST.out hse).symm
            · rw [← Nat.add_assoc]; exact rd_append (w1 := w1) HR2.out HO2.out _ hgr
            · simp only [lenOfV_slice]; omega
        · have HG2 := Lib.hid hg2
          have HR2 := Lib.hid hr2
          have HST := Lib.hid hst
          clear hnext hg2 hr2 hst
          go_wp2_with fail
          go_ret2
          refine rdcPost_err HOK.out ?_ (m := at1 + n) (by rw [← Nat.add_assoc]; exact HR2.out) ?_ (by decide)
          · exact (Gr.ofBelow HB1.out).trans (HG.out.trans HG2.out)
          · rw [← HM.out, ← HE.out]; exact rdF_none HST.out
      · have hm0 : (most - (N : Int)).toNat = 0 := by omega
        rw [hm0] at HE
        clear hm0
        go_wp2_with fail
        go_ret2
        exact rdcPost_err HOK.out ((Gr.ofBelow HB1.out).trans HG.out) HRk.out (by rw [← HM.out, ← HE.out]; rfl) (by decide)
  · have HN := Lib.hid hok
    clear hok
    go_enter Try.func21, Try.ntmps21
    go_wp2_with fail
    refine htab.mono ?_
    rintro e w' ⟨hb, ⟨h, _⟩ | ⟨_, rfl⟩⟩
    · exact absurd h HN.out
    clear htab
    go_wp2
    go_ret2
    exact ⟨Gr.ofBelow hb, .inl ⟨HN.out, rfl, HR.out.below hb⟩⟩
end Go.Proofs.Ytijjpbpoekbekaa

/- codes.Write and its test: contracts. -/
import Derived.Test.YtijjpbpoekbekaaCodF
import Derived.StillTailTactics
set_option linter.unusedSimpArgs false
set_option linter.unusedVariables false
namespace Go.Proofs.Ytijjpbpoekbekaa
open Go.RowKit Pl
namespace Pl
/-- has the symbol no code? -/
def noCd (F : List Int) (x : Int) : Bool := decide (x < 0 ∨ (F.length : Int) ≤ x ∨ F.getD x.toNat 0 = 0)
/-- the bits of a symbol's code -/
def codeB (F : List Int) (x : Int) : List Bool := bitsOf (codeN F x.toNat) (F.getD x.toNat 0).toNat
def codeBs (F : List Int) (L : List Int) : List Bool := L.flatMap (codeB F)
theorem noCd_neg {F : List Int} {x : Int} (h : x < 0) : noCd F x = true := decide_eq_true (.inl h)
theorem noCd_big {F : List Int} {x : Int} (h : (F.length : Int) ≤ x) : noCd F x = true := decide_eq_true (.inr (.inl h))
theorem noCd_at {F : List Int} {i : Nat} (h : i < F.length) : noCd F (i : Int) = decide (F.getD i 0 = 0) := by
  unfold noCd
  rw [Int.toNat_natCast]
  by_cases h0 : F.getD i 0 = 0
  · rw [decide_eq_true h0]; exact decide_eq_true (.inr (.inr h0))
  · rw [decide_eq_false h0]; exact decide_eq_false (by omega)
theorem noCd_false {F : List Int} {x : Int} (h : noCd F x = false) : ∃ i : Nat, x = i ∧ i < F.length ∧ F.getD i 0 ≠ 0 := by
  unfold noCd at h
  have h := of_decide_eq_false h
  refine ⟨x.toNat, by omega, by omega, ?_⟩
  exact fun e => h (.inr (.inr e))
theorem codeB_length {F : List Int} {i n : Nat} (h : F.getD i 0 = n) : (codeB F (i : Int)).length = n := by
  unfold codeB
  rw [bitsOf_length, Int.toNat_natCast, h, Int.toNat_natCast]
theorem codeBs_length {F : List Int} (h : inB F) (L : List Int) : (codeBs F L).length ≤ 15 * L.length := by
  unfold codeBs
  induction L with
  | nil => simp
  | cons x L ih =>
    rw [List.flatMap_cons, List.length_append, List.length_cons]
    have : (codeB F x).length ≤ 15 := by
      unfold codeB
      rw [bitsOf_length]
      have := Pl.getD_in h x.toNat
      omega
    omega
theorem codeBs_snoc (F L : List Int) (x : Int) : codeBs F (L ++ [x]) = codeBs F L ++ codeB F x := by simp [codeBs]
theorem take_next {L : List Int} {i : Nat} (h : i < L.length) : L.take (i + 1) = L.take i ++ [L.getD i 0] := by
  rw [List.take_succ_eq_append_getElem h]; simp [List.getD, h]
end Pl
set_option maxHeartbeats 4000000 in
theorem noCode_any (F : List Int) (hin : inB F) (hl : F.length ≤ 300) (x : Int) (bx c : Nat) (w : World) (hb : Blk w bx 25 [.slice (some ⟨c, 0, none⟩) F.length F.length]) (hc : Blk w c 34 (cdVs (codesL F))) :
    Calls Try.prog 30 #[.int .i64 x, .pointer (some ⟨bx, 0, none⟩)] w fun e w' => e = .returned (.bool (noCd F x)) ∧ w = w' := by
  have c0 := hb.cell (o := 0) rfl
  by_cases h1 : x < 0
  · rw [noCd_neg h1]
    go_enter Try.func30, Try.ntmps30
    go_wp2
    go_ret
    exact ⟨rfl, rfl⟩
  · by_cases h2 : (F.length : Int) ≤ x
    · rw [noCd_big h2]
      go_enter Try.func30, Try.ntmps30
      go_wp2
      go_ret
      exact ⟨rfl, rfl⟩
    · obtain ⟨i, rfl⟩ : ∃ i : Nat, x = i := ⟨x.toNat, by omega⟩
      have hi : i < F.length := by omega
      have hg := cdVs_get (codesL F) i (by rw [codesL_length]; exact hi)
      rw [codesL_len hin hi] at hg
      have d1 := hc.cell hg.2
      have hiI : (i : Int) < (F.length : Int) := by omega
      rw [noCd_at hi]
      generalize F.getD i 0 = y at *
      clear hg hb hc hin
      by_cases h0 : y = 0
      · subst h0
        go_enter Try.func30, Try.ntmps30
        go_wp2
        go_ret
        exact ⟨rfl, rfl⟩
      · have hf := beq_f h0
        rw [decide_eq_false h0]
        go_enter Try.func30, Try.ntmps30
        go_wp2
        go_ret
        exact ⟨rfl, rfl⟩
def WritePost (F L : List Int) (b : Nat) (K : List Bool) (w : World) (e : Ending) (w' : World) : Prop :=
  (¬ okL F ∧ e = .returned (.int .i64 10) ∧ Below w.heap.size w w') ∨ (okL F ∧ L.any (noCd F) = true ∧ e = .returned (.int .i64 7) ∧ Below w.heap.size w w') ∨
    (okL F ∧ L.any (noCd F) = false ∧ e = .returned (.int .i64 0) ∧ Wr w' b (K ++ codeBs F L) ∧ Gr w w' b)
set_option maxHeartbeats 8000000 in
theorem write_any (v u : Value) (F L : List Int) (b : Nat) (K : List Bool) (w : World) (hv : IsInts w v F) (hF : F.length ≤ 17179869184) (hu : IsInts w u L) (hL : L.length ≤ 1000000) (hw : Wr w b K) (hK : K.length ≤ 1000000) (hne : 0 < L.length → ∀ ad m c, u = .slice (some ad) m c → ad.block ≠ b) :
    Calls Try.prog 14 #[.pointer (some ⟨b, 0, none⟩), v, u] w (WritePost F L b K w) := by
  have hof := of_any v F w hv hF
  obtain ⟨a, cap, rfl, hcap, hmax⟩ := hv.slice
  obtain ⟨a2, cap2, rfl, hcap2, hmax2⟩ := hu.slice
  have HU := Lib.hid hu
  have HW := Lib.hid hw
  have hbw := hw.lt
  clear hv hu hw
  have hmf : ∀ (fn : Fn) (first cap : Array Value) (w : World), (Instr.makeFunc fn first cap).run Try.prog w = .ok (.func fn first cap) w := fun _ _ _ _ => rfl
  by_cases hok : okL F
  rotate_left
  · have HN := Lib.hid hok
    clear hok
    go_enter Try.func14, Try.ntmps14
    go_wp2_with fail
    refine hof.mono ?_
    rintro e w1 ⟨hb1, ⟨h, _⟩ | ⟨_, rfl⟩⟩
    · exact absurd h HN.out
    have HB1 := Lib.hid hb1
    clear hof hb1
    go_wp2
    go_ret
    exact .inl ⟨HN.out, rfl, HB1.out.alloc HB1.out.size _⟩
  have HOK := Lib.hid hok
  have hl := hok.1
  clear hok
  go_enter Try.func14, Try.ntmps14
  go_wp2_with fail
  refine hof.mono ?_
  rintro e w1 ⟨hb1, ⟨_, c, rfl, hcw, hc⟩ | ⟨hn, _⟩⟩
  rotate_left
  · exact absurd HOK.out hn
  have HB1 := Lib.hid hb1
  have HC := Lib.hid hc
  clear hof hb1 hc
  go_wp2_with fail
  have hbx := Blk.new w1 25 [.slice (some ⟨c, 0, none⟩) F.length F.length]
  have hc2 := HC.out.alloc (.cells #[.slice (some ⟨c, 0, none⟩) F.length F.length] 25)
  have hb2 : Below w.heap.size w (w1.alloc (.cells #[.slice (some ⟨c, 0, none⟩) F.length F.length] 25)) := HB1.out.alloc HB1.out.size _
  have hs2 : (w1.alloc (.cells #[.slice (some ⟨c, 0, none⟩) F.length F.length] 25)).heap.size = w1.heap.size + 1 := by simp
  have hbxw : w.heap.size ≤ w1.heap.size := HB1.out.size
  change Blk (w1.alloc (.cells #[.slice (some ⟨c, 0, none⟩) F.length F.length] 25)) _ _ _ at hbx
  generalize (w1.alloc (.cells #[.slice (some ⟨c, 0, none⟩) F.length F.length] 25)) = w2 at *
  generalize w1.heap.size = bx at *
  have HBX := Lib.hid hbx
  have HC2 := Lib.hid hc2
  have HB2 := Lib.hid hb2
  have HU2 := Lib.hid (HU.out.below hb2)
  have HW2 := Lib.hid (HW.out.below hb2)
  clear hbx hc2 hb2 HC HB1 hs2
  refine (contains_cl bx (noCd F) _ L w2 HU2.out (by omega) fun x _ => noCode_any F HOK.out.2.1 hl x bx c w2 HBX.out HC2.out).mono ?_
  rintro e w' ⟨rfl, rfl⟩
  cases hno : L.any (noCd F) with
  | true =>
    have HNO := Lib.hid hno
    clear hno
    go_wp2
    go_ret
    exact .inr (.inl ⟨HOK.out, HNO.out, rfl, HB2.out⟩)
  | false =>
    have HNO := Lib.hid hno
    clear hno
    have HNE : Hid (0 < L.length → ∀ ad, a2 = some ad → ad.block ≠ b) := Lib.hid fun h0 ad h => hne h0 ad _ _ (by rw [h])
    clear hne
    go_wp2_with fail
    go_loopw [26] (fun y wr => ∃ (i : Nat), i ≤ L.length ∧ y = .int .i64 i ∧ Wr wr b (K ++ codeBs F (L.take i)) ∧ Gr w2 wr b) (fun y _ => L.length - (intOf y).toNat)
    case atStart => exact ⟨0, by omega, rfl, by simpa [codeBs] using HW2.out, Gr.refl _ _⟩
    case round =>
      obtain ⟨i, hi, rfl, hw, hg⟩ := hrel
      have HWk := Lib.hid hw
      have HG := Lib.hid hg
      clear hw hg
      obtain ⟨cs, hcs⟩ := HW2.out.blk
      have HCS := Lib.hid hcs
      clear hcs
      by_cases hlt : i < L.length
      · have hir : IsInts wr (.slice a2 L.length cap2) L := HU2.out.row HG.out fun ad m c h _ => by
          simp at h
          have := HNE.out (by omega) ad h.1
          simpa using this
        obtain ⟨bb, off, cap', hs, _, _, _, hcc⟩ := hir.cells (by omega)
        simp at hs
        obtain ⟨rfl, rfl⟩ := hs
        have c0 := hcc i hlt
        have hxm : L.getD i 0 ∈ L := by rw [List.getD_eq_getElem?_getD, List.getElem?_eq_getElem hlt]; exact List.getElem_mem hlt
        have hxn : noCd F (L.getD i 0) = false := by
          have := List.any_eq_false.1 HNO.out _ hxm
          simpa using this
        obtain ⟨j, hx, hj, hj0⟩ := noCd_false hxn
        obtain ⟨n, hn, hn15⟩ : ∃ n : Nat, F.getD j 0 = n ∧ n ≤ 15 := ⟨(F.getD j 0).toNat, by have := Pl.getD_in HOK.out.2.1 j; omega, by have := Pl.getD_in HOK.out.2.1 j; omega⟩
        have hn0 : 0 < n := by omega
        have hcl := code_lt HOK.out.2.2 hj hn hn0 hn15
        have hp15 : 2 ^ n ≤ 2 ^ 15 := Nat.pow_le_pow_right (by omega) hn15
        rw [pw15] at hp15
        have hget := cdVs_get (codesL F) j (by rw [codesL_length]; exact hj)
        rw [codesL_get hj, if_pos (by omega), hn] at hget
        have HCk := Lib.hid (HC2.out.grown HG.out (by have := HC2.out.ne HCS.out (by decide); simpa using this))
        have HBXk := Lib.hid (HBX.out.grown HG.out (by have := HBX.out.ne HCS.out (by decide); simpa using this))
        have e0 := HCk.out.cell hget.1
        have e1 := HCk.out.cell hget.2
        have e2 := HBXk.out.cell (o := 0) rfl
        have hlen : (K ++ codeBs F (L.take i)).length < 17179869120 := by
          have h1 := codeBs_length HOK.out.2.1 (L.take i)
          rw [List.length_take] at h1
          rw [List.length_append]
          omega
        have hnext : codeBs F (L.take (i + 1)) = codeBs F (L.take i) ++ bitsOf (codeN F j) n := by
          rw [take_next hlt, codeBs_snoc, hx]
          unfold codeB
          rw [Int.toNat_natCast, hn, Int.toNat_natCast]
        rw [hx] at c0
        have HNX := Lib.hid hnext
        have HLEN := Lib.hid hlen
        have hjI : (j : Int) < (F.length : Int) := by omega
        have hjN := hj
        generalize codeN F j = X at *
        have hX : X ≤ 32768 := by omega
        clear hcc hir hxm hxn hx hj hj0 hn hp15 hget hnext hlen hcl
        have hU : U64 (X : Int) := U64.small (by omega) (by omega)
        have hnI : (n : Int) ≤ 64 := by omega
        go_wp2_with fail
        go_still_tail 12, (by kernel_rfl)
        change wpList _ _ _ _ _ wr.drew
        have hxw : IntKind.u64.wrap (X : Int) = X := by rw [IntKind.wrap_u64]; omega
        rw [hxw]
        have HWd := Lib.hid HWk.out.drew
        have HGd := Lib.hid (Gr.drew HG.out)
        clear e0 e1 e2 c0
        generalize wr.drew = wd at *
        go_wp2_with fail
        refine (put_any b _ (X : Int) n wd hU HWd.out (by have := HLEN.out; omega) (by omega)).mono ?_
        rintro e w3 ⟨rfl, hw3, hg3⟩
        rw [Int.toNat_natCast, List.append_assoc, ← HNX.out] at hw3
        have HW3 := Lib.hid hw3
        have HG3 := Lib.hid hg3
        clear hw3 hg3
        go_wp2_with fail
        refine ⟨⟨i + 1, by omega, by first | rfl | go_num, HW3.out, Gr.trans HGd.out HG3.out⟩, ?_⟩
        simp only [intOf_int]; omega
      · obtain rfl : i = L.length := by omega
        rw [List.take_length] at HWk
        go_wp2
        go_ret
        exact .inr (.inr ⟨HOK.out, HNO.out, rfl, HWk.out, Gr.trans (Gr.ofBelow HB2.out) HG.out⟩)
end Go.Proofs.Ytijjpbpoekbekaa

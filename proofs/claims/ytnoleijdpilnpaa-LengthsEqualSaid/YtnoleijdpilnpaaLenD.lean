/- lengths.withPairs: a contract. -/
import Derived.Test.YtnoleijdpilnpaaSrtB
import Derived.Test.YtnoleijdpilnpaaPkgA
import Derived.OwnWalk
set_option linter.unusedSimpArgs false
set_option linter.unusedVariables false
namespace Go.Proofs.Ytnoleijdpilnpaa
open Go.RowKit Pl
def lenOfV : Value → Nat
  | .slice _ n _ => n
  | _ => 0
theorem intOf_i (x : Int) : intOf (.int .i64 x) = x := rfl
/-- append within the room: one coin, whose own block was made just ahead -/
theorem wpList_fits_c {w : World} {ops : Array Oper} {rest : List Oper} {o : Oper} {a : Act} {Q : Exit → Act → World → Prop} (hgd : o.guard = none) (s x : Operand)
    (ho : o.op = .call { callee := .builtin .append, args := #[s, x], argTypes := #[38, 38] })
    (base g n cap : Nat) (L : List Coin) (c : Coin) (hs : a.eval s = .slice (some ⟨g, 0, none⟩) n cap) (hown : w.ownsRow base 41 2 (.slice (some ⟨g, 0, none⟩) n cap) n (coinVs L))
    (b : Nat) (hb : b = w.heap.size) (hx : a.eval x = .slice (some ⟨b, 0, none⟩) 1 1) (hroom : n + 1 ≤ cap)
    (h : ∀ w', w'.ownsRow base 41 2 (.slice (some ⟨g, 0, none⟩) (n + 1) cap) (n + 1) (coinVs (L ++ [c])) → (w.alloc (.cells #[.int .i64 c.1, .int .i64 c.2] 41 (0, 0))).grownBy w' (some g) → wpList Try.prog ops Q rest (a.put o.dst (.slice (some ⟨g, 0, none⟩) (n + 1) cap)) w') : wpList Try.prog ops Q (o :: rest) a (w.alloc (.cells #[.int .i64 c.1, .int .i64 c.2] 41 (0, 0))) := by
  subst hb
  obtain ⟨i0, hi, hz0, hz1, hz2⟩ := infoC_parts infoC
  refine wpList_append_fits _ hgd s x _ ho base 41 i0 2 Try.underlying38 hi hz1 g n cap _ hs (hown.alloc _) ⟨w.heap.size, 0, none⟩ 1 1 [.int .i64 c.1, .int .i64 c.2] hx rfl ?_ (by intro u hu; simp at hu; rcases hu with rfl | rfl <;> rfl) hroom fun w' h2 h3 => h w' (by rw [coinVs_snoc]; exact h2) h3
  intro j u hu
  have hb := Blk.new w 41 [.int .i64 c.1, .int .i64 c.2]
  rw [add_none, Nat.zero_add]
  exact hb.cell hu
theorem wpList_fits_cs {w : World} {ops : Array Oper} {rest : List Oper} {o : Oper} {a : Act} {Q : Exit → Act → World → Prop} (hgd : o.guard = none) (s x : Operand)
    (ho : o.op = .call { callee := .builtin .append, args := #[s, x], argTypes := #[38, 38] })
    (base g n cap : Nat) (L : List Coin) (hs : a.eval s = .slice (some ⟨g, 0, none⟩) n cap) (hown : w.ownsRow base 41 2 (.slice (some ⟨g, 0, none⟩) n cap) n (coinVs L))
    (sp : Option Addr) (m c : Nat) (M : List Coin) (hx : a.eval x = .slice sp m c) (hm : m = M.length) (hsrc : IsCoins w (.slice sp m c) M) (hroom : n + m ≤ cap)
    (h : ∀ w', w'.ownsRow base 41 2 (.slice (some ⟨g, 0, none⟩) (n + m) cap) (n + m) (coinVs (L ++ M)) → w.grownBy w' (some g) → wpList Try.prog ops Q rest (a.put o.dst (.slice (some ⟨g, 0, none⟩) (n + m) cap)) w') : wpList Try.prog ops Q (o :: rest) a w := by
  obtain ⟨i0, hi, hz0, hz1, hz2⟩ := infoC_parts infoC
  subst hm
  refine wpList_append_fits_any w hgd s x _ ho base 41 i0 2 Try.underlying38 hi hz1 g n cap _ hs hown sp M.length c (coinVs M) hx (coinVs_length M) ?_ ?_ (coinVs_one M) hroom fun w' h2 h3 => h w' (by rw [coinVs_append]; exact h2) h3
  · rintro rfl
    obtain ⟨he, h0, hm⟩ | ⟨ad, cap', he, h1, h2, hc⟩ := hsrc
    · simp at he; exact ⟨h0, he.2⟩
    · simp at he
  · rintro ad rfl
    obtain ⟨he, h0, hm⟩ | ⟨ad', cap', he, h1, h2, hc⟩ := hsrc
    · simp at he
    · simp at he
      obtain ⟨rfl, rfl⟩ := he
      exact hc
/-! l[k:], l[:k] of coins as one closed step -/
def sliceC (x : Value) (lo hi mx : Option Value) : Sem Value := Instr.sliceAt 38 x lo hi mx
theorem sliceC_eq (x : Value) (lo hi mx : Option Value) : Instr.sliceAt 38 x lo hi mx = sliceC x lo hi mx := rfl
theorem elem_coins : Try.prog.elem 38 = 41 := by kernel_rfl
theorem und_coins : Try.prog.underlying 38 = some (.slice (Try.prog.elem 38)) := by rw [elem_coins]; exact Try.underlying38
theorem run_size_c (w : World) : (sizeOf (Try.prog.elem 38)).run Try.prog w = .ok 2 w := by
  rw [elem_coins]; exact Try.sizeOf41 w
theorem run_fromC {w : World} {a : Option Addr} {n cap : Nat} {C : List Coin} (hv : IsCoins w (.slice a n cap) C) (hn : C.length = n) (hcap : n ≤ cap) (hmax : cap ≤ maxLen) (k : Nat) (hk : k ≤ n) (K : Int) (hK : K = k) :
    ∃ a1, (∀ W, (sliceC (.slice a n cap) (some (.int .i64 K)) none none).run Try.prog W = .ok (.slice a1 (n - k) (cap - k)) W) ∧ IsCoins w (.slice a1 (n - k) (cap - k)) (C.drop k) := by
  subst hK
  refine ⟨if cap = k then a else a.map (·.add (k * 2)), ?_, ?_⟩
  rotate_left
  · by_cases e : cap = k
    · rw [if_pos e]
      have hnil : C.drop k = [] := List.drop_eq_nil_of_le (by omega)
      rw [hnil, show n - k = 0 by omega, show cap - k = 0 by omega]
      obtain ⟨he, h0, hm⟩ | ⟨ad, cap', he, h1, h2, hc⟩ := hv
      · simp at he; rw [he.1]; exact isCells_nil w
      · simp at he; rw [he.1]; exact isCells_zero w _ _ (by simp) (by unfold maxLen; omega)
    · rw [if_neg e]
      exact hv.drop hn k hk
  · intro W
    unfold sliceC
    rw [run_sliceAt_slice _ _ _ _ _ _ und_coins, run_slice_l _ _ _ _ _ und_coins _ _ (by omega) (by omega), run_size_c, Int.toNat_natCast]
    rfl
theorem run_uptoC {w : World} {a : Option Addr} {n cap : Nat} {C : List Coin} (hv : IsCoins w (.slice a n cap) C) (hn : C.length = n) (hcap : n ≤ cap) (k : Nat) (hk : k ≤ n) (K : Int) (hK : K = k) :
    ∃ a1, (∀ W, (sliceC (.slice a n cap) none (some (.int .i64 K)) none).run Try.prog W = .ok (.slice a1 k cap) W) ∧ IsCoins w (.slice a1 k cap) (C.take k) := by
  subst hK
  refine ⟨if cap = 0 then a else a.map (·.add (0 * 2)), ?_, ?_⟩
  rotate_left
  · have := hv.take hn k hk
    split
    · exact this
    · cases a with
      | none => exact this
      | some x => simpa only [Nat.zero_mul, Option.map_some, addr_zero] using this
  · intro W
    unfold sliceC
    rw [run_sliceAt_slice _ _ _ _ _ _ und_coins, run_slice_h _ _ _ _ _ und_coins _ _ (by omega) (by omega), run_size_c, Int.toNat_natCast]
    simp only [Result.andThen, sliced, Nat.sub_zero]
/-- a coin laid into a block of its own -/
theorem store_new (w : World) (c : Coin) : ∃ w2, (storeC (.pointer (some ⟨w.heap.size, 0, none⟩)) (.agg #[.int .i64 c.1, .int .i64 c.2])).run Try.prog (w.alloc (.cells #[.int .i64 0, .int .i64 0] 41 (0, 0))) = .ok () w2 ∧ Blk w2 w.heap.size 41 [.int .i64 c.1, .int .i64 c.2] ∧ Below w.heap.size w w2 := by
  have hb := Blk.new w 41 [.int .i64 0, .int .i64 0]
  have hH : Go.Sort.Holds id (w.alloc (.cells #[.int .i64 0, .int .i64 0] 41 (0, 0))) w.heap.size 0 #[.int .i64 0, .int .i64 0] := by
    intro j hj
    have hj : j < 2 := hj
    rw [Nat.zero_add]
    rcases (show j = 0 ∨ j = 1 by omega) with rfl | rfl
    · exact ⟨hb.cell rfl, hb.frozen 0⟩
    · exact ⟨hb.cell rfl, hb.frozen 1⟩
  have hs := stores_of_holds Try.prog hH 0 (encC c) (by simp [encC]) (oneC c)
  refine ⟨_, run_storeC hs, ?_, ?_⟩
  · have := (hb.set 0 (.int .i64 c.1)).set 1 (.int .i64 c.2)
    exact this
  · exact (((Below.refl _ w).alloc (Nat.le_refl _) _).setCell (p := ⟨w.heap.size, 0, none⟩) (Nat.le_refl _) (.int .i64 c.1)).setCell (p := ⟨w.heap.size, 1, none⟩) (Nat.le_refl _) (.int .i64 c.2)
namespace Pl
theorem dropC_cons {L : List Coin} {i : Nat} (h : i < L.length) : L.drop i = L.getD i (0, 0) :: L.drop (i + 1) := by
  rw [List.drop_eq_getElem_cons h]; simp [List.getD, h]
theorem pairs_step {B : List Coin} {k : Nat} (h : k + 1 < B.length) : pairsOf (B.drop k) = ((B.getD k (0, 0)).1 + (B.getD (k + 1) (0, 0)).1, -1) :: pairsOf (B.drop (k + 2)) := by
  rw [dropC_cons (by omega), dropC_cons (i := k + 1) h]; rfl
theorem pairs_end {B : List Coin} {k : Nat} (h : ¬ k + 1 < B.length) : pairsOf (B.drop k) = [] := by
  have : (B.drop k).length ≤ 1 := by rw [List.length_drop]; omega
  match hB : B.drop k with
  | [] => rfl
  | [_] => rfl
  | _ :: _ :: _ => rw [hB] at this; simp at this
theorem merge_in {S : List Coin} {j : Nat} {p : Coin} {PS : List Coin} (h : j < S.length) (hle : (S.getD j (0, 0)).1 ≤ p.1) : mergeC (S.drop j) (p :: PS) = S.getD j (0, 0) :: mergeC (S.drop (j + 1)) (p :: PS) := by
  rw [dropC_cons h, merge_le _ _ hle]
theorem merge_out {S : List Coin} {j : Nat} {p : Coin} {PS : List Coin} (hle : j < S.length → ¬ (S.getD j (0, 0)).1 ≤ p.1) : mergeC (S.drop j) (p :: PS) = p :: mergeC (S.drop j) PS := by
  by_cases h : j < S.length
  · rw [dropC_cons h, merge_gt _ _ (hle h)]
  · rw [List.drop_eq_nil_of_le (by omega), merge_nil, merge_nil]
end Pl
attribute [local go_sem ↓] loadC_eq storeC_eq sliceC_eq
def PairsPost (S B : List Coin) (w : World) (e : Ending) (w' : World) : Prop :=
  ∃ n cap, e = .returned (.slice (some ⟨w.heap.size, 0, none⟩) n cap) ∧ n = (mergeC S (pairsOf B)).length ∧ n ≤ cap ∧ cap ≤ maxLen ∧ w.heap.size < w'.heap.size ∧ IsCoins w' (.slice (some ⟨w.heap.size, 0, none⟩) n cap) (mergeC S (pairsOf B)) ∧ Below w.heap.size w w'
set_option maxHeartbeats 16000000 in
set_option maxRecDepth 100000 in
theorem withPairs_any (a : Option Addr) (n cap : Nat) (u : Value) (S B : List Coin) (w : World) (hS : IsCoins w (.slice a n cap) S) (hn : S.length = n) (hcap : n ≤ cap) (hmax : cap ≤ maxLen) (hB : IsCoins w u B) (hB1 : B.length ≤ 1000000) (hS1 : n ≤ 1000000)
    (hw : ∀ c ∈ B, 0 ≤ c.1 ∧ c.1 ≤ 1152921504606846976) :
    Calls Try.prog 30 #[.slice a n cap, u] w (PairsPost S B w) := by
  obtain ⟨a2, cap2, rfl, hcap2, hmax2⟩ := hB.slice
  obtain ⟨i0, hi0, hz0, hz1, hz2⟩ := infoC_parts infoC
  have mixed := mixedP
  have HI := Lib.hid hi0
  have HSS := Lib.hid hS
  have HBB := Lib.hid hB
  have HW := Lib.hid hw
  have HZ := Lib.hid (And.intro hz0 (And.intro hz1 hz2))
  have HN := Lib.hid hn
  have hn1 : S.length ≤ n := by omega
  have hn2 : n ≤ S.length := by omega
  clear hi0 hS hB hw hz0 hz1 hz2 hn
  go_enter Try.func30, Try.ntmps30
  go_wp2_with (at_make; refine wpList_make_own _ rfl _ _ 38 rfl w.heap.size 41 i0 (.agg #[.int .i64 0, .int .i64 0]) 2 Try.underlying38 HI.out HZ.out.1 HZ.out.2.1 .i64 .i64 _ (n + B.length / 2) rfl rfl (by omega) (by rw [HZ.out.2.2]; omega) (by unfold maxLen; omega) (Nat.le_refl _) ?_; intro w1 hown hgr)
  have HB1 := Lib.hid ((Below.refl _ w).grown hgr (Nat.le_refl _) (by simp))
  have HO1 := Lib.hid hown
  clear hown hgr
  go_loopw [0, 5, 6] (fun x0 x5 x6 wr => ∃ (acc : List Coin) (j k : Nat) (aj : Option Addr) (nj cj : Nat), x0 = .slice aj nj cj ∧ x5 = .slice (some ⟨w.heap.size, 0, none⟩) acc.length (n + B.length / 2) ∧ x6 = .int .i64 ((k : Int) + 1) ∧ j ≤ n ∧ nj + j ≤ n ∧ n ≤ nj + j ∧ nj ≤ cj ∧ cj ≤ maxLen ∧ k ≤ B.length ∧ acc.length + (n - j) + (B.length - k) / 2 ≤ n + B.length / 2 ∧ IsCoins w (.slice aj nj cj) (S.drop j) ∧
    wr.ownsRow w.heap.size 41 2 (.slice (some ⟨w.heap.size, 0, none⟩) acc.length (n + B.length / 2)) acc.length (coinVs acc) ∧ acc ++ mergeC (S.drop j) (pairsOf (B.drop k)) = mergeC S (pairsOf B) ∧ Below w.heap.size w wr) (fun _ _ x6 _ => B.length + 2 - (intOf x6).toNat)
  case atStart => exact ⟨[], 0, 0, a, n, cap, rfl, rfl, rfl, by omega, by omega, by omega, hcap, hmax, by omega, by simp, HSS.out, HO1.out, by simp, HB1.out⟩
  case round =>
    obtain ⟨acc, j, k, aj, nj, cj, rfl, rfl, rfl, hj, hnj1, hnj2, hcj, hmj, hk, hroom, hsj, ho, he, hb⟩ := hrel
    have HE := Lib.hid he
    have HO := Lib.hid ho
    have HB := Lib.hid hb
    have HSJ := Lib.hid hsj
    have hsz := hb.size
    have hgw : w.heap.size < wr.heap.size := by
      obtain ⟨_, ⟨he, h0⟩ | ⟨g', cap', cur, hv, hg, hh, _⟩⟩ := ho
      · simp at he
      · simp at hv; obtain ⟨rfl, rfl⟩ := hv; exact (Array.getElem?_eq_some_iff.1 hh).1
    clear he ho hb hsj HB1 HO1
    by_cases hlt : k + 1 < B.length
    · have hltz : (k : Int) + 1 < (B.length : Int) := by omega
      obtain ⟨bb, off, cap', hs, _, _, hbl, hc⟩ := HBB.out.cells (by omega)
      simp at hs
      obtain ⟨rfl, rfl⟩ := hs
      have c0 : ∀ m, (wr.drewN m).cell? ⟨bb, off + k * 2, none⟩ = some (.int .i64 (B.getD k (0, 0)).1) := fun m => (HB.out.cell (p := ⟨bb, off + k * 2, none⟩) hbl).trans (hc k (by omega)).1
      have c1 : ∀ m, (wr.drewN m).cell? ⟨bb, off + (k + 1) * 2, none⟩ = some (.int .i64 (B.getD (k + 1) (0, 0)).1) := fun m => (HB.out.cell (p := ⟨bb, off + (k + 1) * 2, none⟩) hbl).trans (hc (k + 1) hlt).1
      have hw0 := HW.out (B.getD k (0, 0)) (by rw [List.getD_eq_getElem?_getD, List.getElem?_eq_getElem (show k < B.length by omega)]; exact List.getElem_mem _)
      have hw1 := HW.out (B.getD (k + 1) (0, 0)) (by rw [List.getD_eq_getElem?_getD, List.getElem?_eq_getElem hlt]; exact List.getElem_mem _)
      rw [pairs_step hlt] at HE
      generalize (B.getD k (0, 0)).1 = x at *
      generalize (B.getD (k + 1) (0, 0)).1 = y at *
      have e1 : ((k : Int) + 1).toNat = k + 1 := by omega
      have e2 : wrap64 (x + y) = x + y := by unfold wrap64; omega
      have c0' : wr.drew.cell? ⟨bb, off + k * 2, none⟩ = some (.int .i64 x) := c0 1
      have c1' : wr.drew.cell? ⟨bb, off + (k + 1) * 2, none⟩ = some (.int .i64 y) := c1 1
      have hkl : k < B.length := by omega
      have hklz : (k : Int) < (B.length : Int) := by omega
      have c0a : ((wr.alloc (.cells #[.int .i64 0, .int .i64 0] 41 (0, 0))).drew).cell? ⟨bb, off + k * 2, none⟩ = some (.int .i64 x) := Lib.cell?_alloc_some _ (c0 1)
      have c1a : ((wr.alloc (.cells #[.int .i64 0, .int .i64 0] 41 (0, 0))).drew).cell? ⟨bb, off + (k + 1) * 2, none⟩ = some (.int .i64 y) := Lib.cell?_alloc_some _ (c1 1)
      have rk : IntKind.i64.wrap (k : Int) = k := by rw [IntKind.wrap_i64]; omega
      have rk1 : IntKind.i64.wrap ((k : Int) + 1) = (k : Int) + 1 := by rw [IntKind.wrap_i64]; omega
      obtain ⟨w2, hst, hblk, hbel⟩ := store_new wr.drew (x + y, -1)
      have hst' : (storeC (.pointer (some ⟨wr.heap.size, 0, none⟩)) (.agg #[.int .i64 (x + y), .int .i64 (-1)])).run Try.prog (wr.drew.alloc (.cells #[.int .i64 0, .int .i64 0] 41 (0, 0))) = .ok () w2 := hst
      have hst'' : (storeC (.pointer (some ⟨wr.heap.size, 0, none⟩)) (.agg #[.int .i64 (x + y), .int .i64 (-1)])).run Try.prog ((wr.alloc (.cells #[.int .i64 0, .int .i64 0] 41 (0, 0))).drew) = .ok () w2 := hst
      have HB2 := Lib.hid (HB.out.drew.trans (hbel.mono hsz))
      have HO2 := Lib.hid (own_below (w := wr) (w' := w2) HO.out (show Below wr.heap.size wr w2 from ⟨hbel.os, hbel.tape, hbel.output, hbel.size, hbel.block⟩))
      have HK2 := Lib.hid hblk
      have hsz2 : wr.heap.size < w2.heap.size := hblk.lt
      clear hc c0 c1 hst hblk hbel HO HB
      go_wp2_with fail
      go_region
      have HPS : Hid (pairsOf (B.drop (k + 2)) = pairsOf (B.drop (k + 2))) := rfl
      generalize hPS : pairsOf (B.drop (k + 2)) = PS at HE
      have HPSE := Lib.hid hPS
      obtain ⟨pw, hpw⟩ : ∃ pw, x + y = pw := ⟨_, rfl⟩
      have hHK : Blk w2 wr.heap.size 41 [.int .i64 pw, .int .i64 (-1)] := by rw [← hpw]; exact HK2.out
      have HK3 := Lib.hid hHK
      rw [hpw] at HE ⊢
      have hpb : w.heap.size < wr.heap.size := hgw
      generalize wr.heap.size = pb at *
      clear hst' hst'' HK2 hHK c0' c1' c0a c1a hw0 hw1 e2 hpw hPS HPS rk rk1
      go_wp2_with fail
      go_loopw [0, 5] (fun x0 x5 wr => ∃ (acc : List Coin) (j : Nat) (aj : Option Addr) (nj cj : Nat), x0 = .slice aj nj cj ∧ x5 = .slice (some ⟨w.heap.size, 0, none⟩) acc.length (n + B.length / 2) ∧ j ≤ n ∧ nj + j ≤ n ∧ n ≤ nj + j ∧ nj ≤ cj ∧ cj ≤ maxLen ∧ acc.length + (n - j) + 1 + (B.length - (k + 2)) / 2 ≤ n + B.length / 2 ∧ IsCoins w (.slice aj nj cj) (S.drop j) ∧
        wr.ownsRow w.heap.size 41 2 (.slice (some ⟨w.heap.size, 0, none⟩) acc.length (n + B.length / 2)) acc.length (coinVs acc) ∧ acc ++ mergeC (S.drop j) ((pw, -1) :: PS) = mergeC S (pairsOf B) ∧ Below w.heap.size w wr ∧ Blk wr pb 41 [.int .i64 pw, .int .i64 (-1)]) (fun x0 _ _ => lenOfV x0)
      case atStart => exact ⟨acc, j, aj, nj, cj, rfl, rfl, hj, hnj1, hnj2, hcj, hmj, by omega, HSJ.out, HO2.out, HE.out, HB2.out, HK3.out⟩
      case round =>
        clear HE HO2 HB2 HK3 HSJ hroom hj hnj1 hnj2 hcj hmj
        obtain ⟨acc, j, aj, nj, cj, rfl, rfl, hj, hnj1, hnj2, hcj, hmj, hroom, hsj, ho, he, hb, hblk⟩ := hrel
        have HE := Lib.hid he
        have HB := Lib.hid hb
        have HSJ := Lib.hid hsj
        have hsz := hb.size
        have hpl : pb < wr.heap.size := hblk.lt
        have hO : ∀ m, (wr.drewN m).ownsRow w.heap.size 41 2 (.slice (some ⟨w.heap.size, 0, none⟩) acc.length (n + B.length / 2)) acc.length (coinVs acc) := fun _ => ho
        have HO := Lib.hid hO
        have HK := Lib.hid hblk
        have hlen : (S.drop j).length = nj := by rw [List.length_drop]; omega
        have HLen := Lib.hid hlen
        have b0 : ∀ m, (wr.drewN m).cell? ⟨pb, 0, none⟩ = some (.int .i64 pw) := fun m => hblk.cell rfl
        have b1 : ∀ m, (wr.drewN m).cell? ⟨pb, 1, none⟩ = some (.int .i64 (-1)) := fun m => hblk.cell rfl
        have lb : ∀ m, (loadC (.pointer (some ⟨pb, 0, none⟩))).run Try.prog (wr.drewN m) = .ok (.agg #[.int .i64 pw, .int .i64 (-1)]) (wr.drewN m) := fun m => run_loadC (c := (pw, -1)) (b0 m) (b1 m)
        clear he hb hsj ho hO hblk hlen b1
        have leave : (j < S.length → ¬ (S.getD j (0, 0)).1 ≤ pw) → Hid (acc ++ [(pw, -1)] ++ mergeC (S.drop j) (pairsOf (B.drop (k + 2))) = mergeC S (pairsOf B)) := fun hle => by
          have := HE.out
          rw [merge_out hle] at this
          rw [HPSE.out, List.append_assoc]
          exact this
        have LEAVE := Lib.hid leave
        clear leave
        by_cases h0 : 0 < nj
        · obtain ⟨bs, offs, caps, hs, _, _, hbl2, hc⟩ := HSJ.out.cells (by rw [HLen.out]; exact h0)
          have hjl : j < S.length := by omega
          have e0 : (S.drop j).getD 0 (0, 0) = S.getD j (0, 0) := by simp [List.getD]
          have hc := hc 0 (by rw [HLen.out]; exact h0)
          rw [e0, Nat.zero_mul, Nat.add_zero] at hc
          rw [HLen.out] at hs
          simp at hs
          obtain ⟨rfl, rfl⟩ := hs
          have s0 : ∀ m, (wr.drewN m).cell? ⟨bs, offs, none⟩ = some (.int .i64 (S.getD j (0, 0)).1) := fun m => (HB.out.cell (p := ⟨bs, offs, none⟩) hbl2).trans hc.1
          have s1 : ∀ m, (wr.drewN m).cell? ⟨bs, offs + 1, none⟩ = some (.int .i64 (S.getD j (0, 0)).2) := fun m => (HB.out.cell (p := ⟨bs, offs + 1, none⟩) hbl2).trans hc.2
          have ls : ∀ m, (loadC (.pointer (some ⟨bs, offs, none⟩))).run Try.prog (wr.drewN m) = .ok (.agg #[.int .i64 (S.getD j (0, 0)).1, .int .i64 (S.getD j (0, 0)).2]) (wr.drewN m) := fun m => run_loadC (s0 m) (s1 m)
          have hin : (S.getD j (0, 0)).1 ≤ pw → Hid (acc ++ [S.getD j (0, 0)] ++ mergeC (S.drop (j + 1)) ((pw, -1) :: PS) = mergeC S (pairsOf B)) := fun hle => by
            have := HE.out
            rw [merge_in hjl hle] at this
            rw [List.append_assoc]
            exact this
          have HIN := Lib.hid hin
          obtain ⟨aj2, hsl, hIs⟩ := run_fromC HSJ.out HLen.out hcj hmj 1 (by omega) 1 rfl
          have HIS := Lib.hid hIs
          clear hc s1 hin hIs e0
          have hd : decide ((nj : Int) > 0) = true := decide_eq_true (by omega)
          have hd' : decide (0 < (nj : Int)) = true := decide_eq_true (by omega)
          have h0z : (0 : Int) < (nj : Int) := by omega
          have hsl' : ∀ W, (sliceC (.slice (some ⟨bs, offs, none⟩) nj cj) (some (.int .i64 1)) none none).run Try.prog W = .ok (.slice aj2 (nj - 1) (cj - 1)) W := hsl
          clear hsl
          generalize S.getD j (0, 0) = sc at *
          by_cases hle : sc.1 ≤ pw
          · have hd2 : decide (sc.1 ≤ pw) = true := decide_eq_true hle
            go_wp2_with fail
            go_quiet (fail)
            go_wp2_with (at_builtin; refine wpList_fits_c rfl (.tmp 46) (.tmp 50) rfl w.heap.size w.heap.size acc.length (n + B.length / 2) acc sc rfl (HO.out _) _ rfl rfl (by omega) ?_; intro w4 hown hgr)
            go_roundw
            case rel => exact ⟨acc ++ [sc], j + 1, aj2, nj - 1, cj - 1, rfl, by simp, by omega, by omega, by omega, by omega, by omega, by simp; omega, (by have := HIS.out; rwa [List.drop_drop] at this), by simpa using hown, (HIN.out hle).out, (((bel_drewN HB.out _).alloc hsz _).grown hgr (by simp; omega) (by simp)), ((HK.out.drewN _).alloc _).grown hgr (by simp; omega)⟩
            case measure => simp [lenOfV]; omega
          · have hd2 : decide (sc.1 ≤ pw) = false := decide_eq_false hle
            go_wp2_with fail
            go_quiet (fail)
            go_wp2_with (at_builtin; refine wpList_fits_c rfl (.tmp 54) (.tmp 56) rfl w.heap.size w.heap.size acc.length (n + B.length / 2) acc (pw, -1) rfl (HO.out _) _ rfl rfl (by omega) ?_; intro w4 hown hgr)
            go_roundw
            case rel => exact ⟨acc ++ [(pw, -1)], j, k + 2, _, nj, cj, rfl, by simp, by first | rfl | go_num | (congr 1; omega), hj, hnj1, hnj2, hcj, hmj, by omega, by simp; omega, HSJ.out, by simpa using hown, (LEAVE.out (fun _ => hle)).out, (((bel_drewN HB.out _).alloc hsz _).grown hgr (by simp; omega) (by simp))⟩
            case measure => simp [intOf]; omega
        · obtain rfl : nj = 0 := by omega
          have hjl : ¬ j < S.length := by omega
          have hd : decide (((0 : Nat) : Int) > 0) = false := decide_eq_false (by omega)
          have hd' : decide (0 < ((0 : Nat) : Int)) = false := decide_eq_false (by omega)
          go_wp2_with fail
          go_quiet (fail)
          go_wp2_with (at_builtin; refine wpList_fits_c rfl (.tmp 54) (.tmp 56) rfl w.heap.size w.heap.size acc.length (n + B.length / 2) acc (pw, -1) rfl (HO.out _) _ rfl rfl (by omega) ?_; intro w4 hown hgr)
          go_roundw
          case rel => exact ⟨acc ++ [(pw, -1)], j, k + 2, _, 0, cj, rfl, by simp, by first | rfl | go_num | (congr 1; omega), hj, hnj1, hnj2, hcj, hmj, by omega, by simp; omega, HSJ.out, by simpa using hown, (LEAVE.out (fun h => absurd h hjl)).out, (((bel_drewN HB.out _).alloc hsz _).grown hgr (by simp; omega) (by simp))⟩
          case measure => simp [intOf]; omega
    · rw [pairs_end hlt, merge_nil'] at HE
      have hltz : ¬ (k : Int) + 1 < (B.length : Int) := by omega
      have hlen : (S.drop j).length = nj := by rw [List.length_drop]; omega
      have hsrc : IsCoins wr (.slice aj nj cj) (S.drop j) := by
        have := HSJ.out
        exact this.below (HB.out.mono (Nat.le_refl _))
      have HSR := Lib.hid hsrc
      have HLen := Lib.hid hlen
      clear hsrc hlen
      go_wp2_with (at_builtin; refine wpList_fits_cs rfl (.tmp 58) (.tmp 59) rfl w.heap.size w.heap.size acc.length (n + B.length / 2) acc rfl HO.out aj nj cj (S.drop j) rfl HLen.out.symm HSR.out (by omega) ?_; intro w2 hown hgr)
      go_ret
      have hfin := HE.out
      have hl : acc.length + nj = (mergeC S (pairsOf B)).length := by rw [← hfin, List.length_append, HLen.out]
      rw [hfin] at hown
      have hs2 := hgr.size
      exact ⟨_, _, rfl, hl, by omega, by unfold maxLen; omega, by omega, isCoins_own hl hown, HB.out.grown hgr hsz (by simp)⟩
end Go.Proofs.Ytnoleijdpilnpaa

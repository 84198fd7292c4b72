/- lengths.singleCoins: a contract. -/
import Derived.Test.YtnoleijdpilnpaaLenB
import Derived.Test.YtnoleijdpilnpaaSrtF
import Derived.Test.YtnoleijdpilnpaaPkgA
set_option linter.unusedSimpArgs false
set_option linter.unusedVariables false
namespace Go.Proofs.Ytnoleijdpilnpaa
open Go.Shelf Go.RowKit Go.Lib Go.Sort Pl
namespace Pl
/-- the symbols that occur, with their frequencies -/
def coinsFrom (i : Nat) : List Int → List Coin
  | [] => []
  | f :: F => if 0 < f then (f, (i : Int)) :: coinsFrom (i + 1) F else coinsFrom (i + 1) F
theorem coins_step {F : List Int} {i : Nat} (h : i < F.length) (h0 : 0 < F.getD i 0) : coinsFrom i (F.drop i) = (F.getD i 0, (i : Int)) :: coinsFrom (i + 1) (F.drop (i + 1)) := by
  rw [drop_cons h, coinsFrom, if_pos h0]
theorem coins_skip {F : List Int} {i : Nat} (h : i < F.length) (h0 : ¬ 0 < F.getD i 0) : coinsFrom i (F.drop i) = coinsFrom (i + 1) (F.drop (i + 1)) := by
  rw [drop_cons h, coinsFrom, if_neg h0]
theorem coins_len (i : Nat) (F : List Int) : (coinsFrom i F).length ≤ F.length := by
  induction F generalizing i with
  | nil => simp [coinsFrom]
  | cons f F ih =>
    have := ih (i + 1)
    rw [coinsFrom]
    split
    · simp; exact this
    · simp; omega
theorem perm_list {n : Nat} {d d' : Array Coin} (hn : n = d.size) (h : PermIn 0 n d d') : d'.toList.Perm d.toList := by
  have h1 := h.2.2
  have e1 : d.extract 0 n = d := by rw [hn]; simp
  have e2 : d'.extract 0 n = d' := by rw [hn, ← h.1]; simp
  rwa [e1, e2] at h1
theorem asc_list {n : Nat} {d : Array Coin} (hn : n = d.size) (h : Srt keyC 0 n d) : Asc d.toList := by
  refine List.pairwise_iff_getElem.2 fun i j hi hj hij => ?_
  have hi' : i < d.size := by simpa using hi
  have hj' : j < d.size := by simpa using hj
  have := h i j (Nat.zero_le _) hij (by omega)
  rw [getElem!_pos d i hi', getElem!_pos d j hj'] at this
  simpa using this
end Pl
theorem swk_gr {w0 W : World} {blk off : Nat} {d : Array Coin} (S : SWK encC 2 w0 blk off d W) : Gr w0 W blk := by
  obtain ⟨n, os, rfl⟩ := S
  refine ⟨rfl, rfl, rfl, by unfold sortWorldK; rw [size_grow, size_putRowK]; show w0.heap.size ≤ w0.heap.size + _; omega, fun k hk hne => ?_⟩
  unfold sortWorldK
  rw [heap_grow_old _ _ (by rw [size_putRowK]; exact hk)]
  have : blk ≠ k := fun e => hne (by rw [e])
  simp [putRowK, putRow, mapBlock, Sort.ahead, Array.getElem?_modify, this]
theorem coin_at (L : List Coin) (i : Nat) (h : i < L.length) : L.toArray[i]! = L.getD i (0, 0) := by
  simp [List.getD, h]
theorem holds_coins {w : World} {base g cap n : Nat} {e : TypeId} {L : List Coin} (hn : n = L.length) (h : w.ownsRow base e 2 (.slice (some ⟨g, 0, none⟩) n cap) n (coinVs L)) : HoldsK encC 2 w g 0 L.toArray := by
  intro t ht
  have ht : t < L.length * 2 := by simpa using ht
  have hc : w.cell? ⟨g, t, none⟩ = (coinVs L)[t]? := h.cellAt t (by omega)
  have hget := coinVs_get L (t / 2) (by omega)
  rw [get_flatK _ _ _ _ (by simpa using ht), coin_at L (t / 2) (by omega), Nat.zero_add]
  have hfr : w.frozen? ⟨g, t, none⟩ = false := by
    obtain ⟨_, ⟨he, _⟩ | ⟨g', cap', cur, hv, _, hh, _⟩⟩ := h
    · simp at he
    · simp at hv
      obtain ⟨rfl, rfl⟩ := hv
      simp [World.frozen?, hh]
  refine ⟨?_, hfr⟩
  rw [hc]
  rcases (show t % 2 = 0 ∨ t % 2 = 1 by omega) with h2 | h2
  · have e : t / 2 * 2 = t := by omega
    rw [e] at hget
    rw [hget.1, h2]
    rfl
  · have e : t / 2 * 2 + 1 = t := by omega
    rw [e] at hget
    rw [hget.2, h2]
    rfl
theorem isCoins_swk {w0 W : World} {blk n cap : Nat} {d0 d : Array Coin} (S : SWK encC 2 w0 blk 0 d W) (R : RowK encC 2 w0 blk 0 d0) (hs : d.size = d0.size) (hn : n = d.size) (hcap : n ≤ cap) (hmax : cap ≤ maxLen) : IsCoins W (.slice (some ⟨blk, 0, none⟩) n cap) d.toList := by
  refine .inr ⟨⟨blk, 0, none⟩, cap, by simp [hn], by simp; omega, hmax, fun i u hu => ?_⟩
  rw [add_none]
  have hi := (List.getElem?_eq_some_iff.1 hu).1
  rw [coinVs_length] at hi
  have hx : i / 2 < d.size := by simp at hi; omega
  have hc := swk_cells S R hs (i / 2) hx
  have hget := coinVs_get d.toList (i / 2) (by simpa using hx)
  have e0 : d.toList.getD (i / 2) (0, 0) = d[i / 2]! := by rw [← coin_at d.toList (i / 2) (by simpa using hx)]
  rw [e0] at hget
  rcases (show i % 2 = 0 ∨ i % 2 = 1 by omega) with h2 | h2
  · have e : i / 2 * 2 = i := by omega
    rw [e] at hget hc
    rw [hget.1] at hu
    rw [hc.1]; exact hu
  · have e : i / 2 * 2 + 1 = i := by omega
    have e' : 0 + i / 2 * 2 + 1 = 0 + i := by omega
    rw [e] at hget
    rw [e'] at hc
    rw [hget.2] at hu
    rw [hc.2.1]; exact hu
def SingPost (F : List Int) (w : World) (e : Ending) (w' : World) : Prop :=
  ∃ a n cap S, e = .returned (.slice a n cap) ∧ n = S.length ∧ S.Perm (coinsFrom 0 F) ∧ Asc S ∧ IsCoins w' (.slice a n cap) S ∧ Below w.heap.size w w'
set_option maxHeartbeats 8000000 in
theorem singles_any (v : Value) (F : List Int) (w : World) (hv : IsInts w v F) (hF : F.length ≤ 1000000) :
    Calls Try.prog 20 #[v] w (SingPost F w) := by
  obtain ⟨a, cap, rfl, hcap, hmax⟩ := hv.slice
  have HV := Lib.hid hv
  clear hv
  go_enter Try.func20, Try.ntmps20
  go_wp2
  go_loopw [3, 8] (fun x y wr => ∃ (B : List Coin) (i : Nat), i ≤ F.length ∧ B.length ≤ i ∧ y = .int .i64 i ∧ wr.ownsRow w.heap.size 41 2 x B.length (coinVs B) ∧ B ++ coinsFrom i (F.drop i) = coinsFrom 0 F ∧ Below w.heap.size w wr) (fun _ y _ => F.length - (intOf y).toNat)
  case atStart => exact ⟨[], 0, by omega, by simp, rfl, own_nilC _ _ _, by simp, Below.refl _ _⟩
  case round =>
    obtain ⟨B, i, hi, hB, rfl, ho, he, hb⟩ := hrel
    obtain ⟨sp, cp, rfl, hcp, hcm⟩ := ownsRow_slice ho
    have HE := Lib.hid he
    have HO := Lib.hid ho
    have HB := Lib.hid hb
    have hsz := hb.size
    clear he ho hb
    by_cases hlt : i < F.length
    · obtain ⟨bb, off, cap', hs, _, _, hbl, hc⟩ := HV.out.cells (by omega)
      simp at hs
      obtain ⟨rfl, rfl⟩ := hs
      have c0 : wr.cell? ⟨bb, off + i, none⟩ = some (.int .i64 (F.getD i 0)) := (HB.out.cell (p := ⟨bb, off + i, none⟩) hbl).trans (hc i hlt)
      by_cases h0 : 0 < F.getD i 0
      · rw [coins_step hlt h0] at HE
        generalize F.getD i 0 = x at *
        clear hc
        go_wp2_with (at_builtin; refine wpList_append_c rfl (.tmp 15) (.tmp 19) rfl w.heap.size (.slice sp B.length cp) B.length B (x, (i : Int)) rfl HO.out _ rfl rfl (by omega) hsz ?_; intro v' w' hown' hgr)
        go_roundw
        case rel => exact ⟨B ++ [(x, (i : Int))], i + 1, by omega, by simp; omega, by first | rfl | go_num, by simpa using hown', by rw [List.append_assoc]; exact HE.out, bel_append HB.out _ HO.out hgr hsz⟩
        case measure => simp [intOf]; omega
      · rw [coins_skip hlt h0] at HE
        generalize F.getD i 0 = x at *
        clear hc
        go_wp2
        go_roundw
        case rel => exact ⟨B, i + 1, by omega, by omega, by first | rfl | go_num, HO.out, HE.out, HB.out⟩
        case measure => simp [intOf]; omega
    · rw [show F.drop i = [] from List.drop_eq_nil_of_le (by omega)] at HE
      have hBF : B = coinsFrom 0 F := by have := HE.out; simpa [coinsFrom] using this
      cases sp with
      | none =>
        have hnil : B.length = 0 ∧ cp = 0 := by
          obtain ⟨_, ⟨he, h0⟩ | ⟨g', cap', cur, hv, _⟩⟩ := HO.out
          · simp at he; exact ⟨h0, he.2⟩
          · simp at hv
        obtain ⟨h0, rfl⟩ := hnil
        have hBn := List.eq_nil_of_length_eq_zero h0
        rw [hBn] at hBF HO ⊢
        have HBF := Lib.hid hBF
        clear hBF hBn h0 HE
        have hs := fun W => sortStable_none W
        simp only [List.length_nil] at *
        go_wp2_with fail
        refine (hs _).mono ?_
        rintro e w' ⟨rfl, rfl⟩
        go_wp2
        go_ret
        exact ⟨none, 0, 0, [], rfl, rfl, by rw [← HBF.out], List.Pairwise.nil, isCells_nil _, HB.out⟩
      | some g0 =>
        have hg : ∃ g, g0 = ⟨g, 0, none⟩ ∧ w.heap.size ≤ g ∧ g < wr.heap.size := by
          obtain ⟨_, ⟨he, h0⟩ | ⟨g', cap', cur, hv, hg, hh, _⟩⟩ := HO.out
          · simp at he
          · simp at hv
            exact ⟨g', hv.1, hg, (Array.getElem?_eq_some_iff.1 hh).1⟩
        obtain ⟨g, rfl, hg1, hg2⟩ := hg
        have hR : RowK encC 2 wr g 0 B.toArray := ⟨lenC, oneC, holds_coins rfl HO.out, hg2⟩
        have hs := sortStable_any g 0 cp B.length B.toArray wr hR (by simp) (by simp; omega)
        have HR := Lib.hid hR
        have HBF := Lib.hid hBF
        clear hR hBF HE
        go_wp2_with fail
        refine hs.mono ?_
        rintro e w' ⟨rfl, d', hp, hq, hS⟩
        have HP := Lib.hid hp
        have HQ := Lib.hid hq
        have HS := Lib.hid hS
        clear hp hq hS hs
        go_wp2
        go_ret
        have hsz' : d'.size = B.toArray.size := HP.out.1
        refine ⟨some ⟨g, 0, none⟩, B.length, cp, d'.toList, rfl, by simp [hsz'], ?_, ?_, ?_, ?_⟩
        · have := perm_list rfl HP.out
          rw [← HBF.out]; simpa using this
        · have := HQ.out
          exact asc_list hsz'.symm this
        · exact isCoins_swk HS.out HR.out hsz' (by simp [hsz']) hcp hcm
        · exact HB.out.trans ((swk_gr HS.out).below hsz hg1)
end Go.Proofs.Ytnoleijdpilnpaa

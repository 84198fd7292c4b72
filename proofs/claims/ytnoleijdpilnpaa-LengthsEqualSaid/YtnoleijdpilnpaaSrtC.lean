/- slices.symMergeCmpFunc: a contract. -/
import Derived.Test.YtnoleijdpilnpaaSrtB
set_option linter.unusedSimpArgs false
set_option linter.unusedVariables false
namespace Go.Proofs.Ytnoleijdpilnpaa
open Go.Shelf Go.RowKit Go.Lib Go.Sort Pl
abbrev keyC : Coin → Int := Prod.fst
attribute [local go_sem ↓] loadC_eq storeC_eq
/-- a world of the sort's in which a coin is read, whatever was drawn and laid behind it -/
theorem swk_ld {w0 W : World} {blk off : Nat} {d0 dk : Array Coin} (S : SWK encC 2 w0 blk off dk W) (R : RowK encC 2 w0 blk off d0) (hs : dk.size = d0.size) (x : Nat) (hx : x < dk.size) (n : Nat) (os : Array Obj) :
    (loadC (.pointer (some ⟨blk, off + x * 2, none⟩))).run Try.prog (grow (W.drewN n) os) = .ok (.agg #[.int .i64 dk[x]!.1, .int .i64 dk[x]!.2]) (grow (W.drewN n) os) :=
  have h := swk_cells (S.grown n os) R hs x hx
  run_loadC h.1 h.2.1
theorem swk_cmp (W : World) (x y : Coin) (n : Nat) (os : Array Obj) :
    Calls Try.prog 27 #[.agg #[.int .i64 x.1, .int .i64 x.2], .agg #[.int .i64 y.1, .int .i64 y.2]] (grow (W.drewN n) os) fun e w' => e = .returned (.int .i64 (cfC x y)) ∧ ∃ q os', w' = grow ((grow (W.drewN n) os).drewN q) os' :=
  closure_any x y _
def SymPost (a b blk off : Nat) (w0 : World) (d : Array Coin) (e : Ending) (w' : World) : Prop := e = .returned (.tuple #[]) ∧ ∃ d', PermIn a b d d' ∧ Srt keyC a b d' ∧ SWK encC 2 w0 blk off d' w'
set_option maxHeartbeats 16000000 in
set_option maxRecDepth 1000000 in
theorem sym_first (blk off cap a m b : Nat) (d0 d : Array Coin) (w0 w : World) (R : RowK encC 2 w0 blk off d0) (hs : d0.size = d.size) (S : SWK encC 2 w0 blk off d w) (hm : m ≤ a + 1) (hm' : a + 1 ≤ m) (hmb : m < b) (hb : b ≤ d.size) (hsz : d.size ≤ 1000000) (h2 : Srt keyC m b d) :
    Calls Try.prog 36 #[.slice (some ⟨blk, off, none⟩) d.size cap, .int .i64 a, .int .i64 m, .int .i64 b, fvC] w (SymPost a b blk off w0 d) := by
  have S0 : Aside (SWK encC 2 w0 blk off d w) := S
  have H2 : Aside (Srt keyC (a + 1) b d) := h2.sub hm (Nat.le_refl _)
  clear S h2
  have mixed := mixedP
  have z1 : (m : Int) - (a : Int) = 1 := by omega
  go_enter Try.func36, Try.ntmps36
  go_wp2
  go_loopg [10, 11] (b - m) (fun kx s10 s11 wr => ∃ (i j : Nat), s10 = .int .i64 i ∧ s11 = .int .i64 j ∧ m ≤ i ∧ i ≤ j ∧ j ≤ b ∧ j - i ≤ kx ∧ Aside (SWK encC 2 w0 blk off d wr) ∧ Aside (i = a + 1 ∨ d[i - 1]!.1 ≤ d[a]!.1) ∧ Aside (j = b ∨ d[a]!.1 ≤ d[j]!.1))
  case atStart => exact ⟨m, b, rfl, rfl, by omega, by omega, by omega, by omega, S0, (show _ ∨ _ from .inl (by omega)), (show _ ∨ _ from .inl rfl)⟩
  case round =>
    clear S0
    obtain ⟨i, j, rfl, rfl, hi1, hij, hjb, hkx, S1, HL, HG⟩ := hrel
    by_cases hlt : i < j
    · have hltz : (i : Int) < (j : Int) := by omega
      have e8 : ((i : Int) + (j : Int)) / 2 = (((i + j) / 2 : Nat) : Int) := by omega
      obtain ⟨h, hh⟩ : ∃ h, (i + j) / 2 = h := ⟨_, rfl⟩
      have hh1 : i ≤ h := by omega
      have hh2 : h < j := by omega
      rw [hh] at e8
      have ea9 : ((h : Int)).toNat = h := by omega
      have pa9 : (0 : Int) ≤ (h : Int) := by omega
      have qa9 : (h : Int) < (d.size : Int) := by omega
      have ra9 : IntKind.i64.wrap ((h : Int)) = (h : Int) := by rw [IntKind.wrap_i64]; omega
      have eb9 : ((a : Int)).toNat = a := by omega
      have pb9 : (0 : Int) ≤ (a : Int) := by omega
      have qb9 : (a : Int) < (d.size : Int) := by omega
      have rb9 : IntKind.i64.wrap ((a : Int)) = (a : Int) := by rw [IntKind.wrap_i64]; omega
      have l9a := swk_ld S1.out R (by omega) (h) (by omega)
      have l9b := swk_ld S1.out R (by omega) (a) (by omega)
      have hc9 := swk_cmp wr d[h]! d[a]!
      have hk9 := cfC_lt d[h]! d[a]!
      obtain ⟨xa, hxa⟩ : ∃ x, x = d[h]! := ⟨_, rfl⟩
      obtain ⟨xb, hxb⟩ : ∃ x, x = d[a]! := ⟨_, rfl⟩
      rw [← hxa] at l9a
      rw [← hxb] at l9b
      rw [← hxa, ← hxb] at hc9 hk9
      have HXA : Aside (xa = d[h]!) := hxa
      have HXB : Aside (xb = d[a]!) := hxb
      clear hxa hxb
      by_cases hv9 : cfC xa xb < 0
      · have hw9 : xa.1 < xb.1 := hk9.1 hv9
        have hd9 : decide (cfC xa xb < 0) = true := decide_eq_true hv9
        have HW9 : Aside _ := hw9
        clear hw9 hk9
        go_wp2_with fail
        go_quiet_grown (first | (refine Calls.grown_of (hc9 _ _)))
        have S2 : Aside (SWK encC 2 w0 blk off d (grow (wr.drewN nq) osq)) := S1.out.grown nq osq
        clear l9a l9b hc9 S1
        generalize grow (wr.drewN nq) osq = w2 at S2 ⊢
        clear nq osq
        have hw9 := HW9.out
        rw [HXA.out, HXB.out] at hw9
        have HW9 : Aside _ := hw9
        clear hw9
        go_wp2
        go_roundg (j - (h + 1))
        case measure => omega
        case rel => exact ⟨h + 1, j, by first | rfl | go_num | (congr 1; omega), rfl, by omega, by omega, hjb, Nat.le_refl _, S2, (show _ ∨ _ from .inr (by rw [Nat.add_sub_cancel]; exact Int.le_of_lt HW9.out)), HG⟩
      · have hw9 : ¬ xa.1 < xb.1 := fun h => hv9 (hk9.2 h)
        have hd9 : decide (cfC xa xb < 0) = false := decide_eq_false hv9
        have HW9 : Aside _ := hw9
        clear hw9 hk9
        go_wp2_with fail
        go_quiet_grown (first | (refine Calls.grown_of (hc9 _ _)))
        have S2 : Aside (SWK encC 2 w0 blk off d (grow (wr.drewN nq) osq)) := S1.out.grown nq osq
        clear l9a l9b hc9 S1
        generalize grow (wr.drewN nq) osq = w2 at S2 ⊢
        clear nq osq
        have hw9 := HW9.out
        rw [HXA.out, HXB.out] at hw9
        have HW9 : Aside _ := hw9
        clear hw9
        go_wp2
        go_roundg (h - i)
        case measure => omega
        case rel => exact ⟨i, h, rfl, by first | rfl | go_num | (congr 1; omega), by omega, by omega, by omega, Nat.le_refl _, S2, HL, (show _ ∨ _ from .inr (Int.not_lt.1 HW9.out))⟩
    · obtain rfl : i = j := by omega
      have hdone : Aside _ := fun d' => @ins_first Coin _ keyC a i b d d' H2.out (by omega) hjb HL.out HG.out
      have HA0 : Aside (Arr d (rotF a (a + 1) (a + 1) fun x => d[x]!)) := by show Arr d _; rw [rotF_none2]; exact arr_self d
      have zi : (i : Int) - 1 = ((i - 1 : Nat) : Int) := by omega
      go_wp2
      clear HL HG H2
      go_loopg [13] (i - 1 - a) (fun kx s13 wr => ∃ (k : Nat) (dk : Array Coin), s13 = .int .i64 k ∧ a ≤ k ∧ k ≤ i - 1 ∧ i - 1 - k ≤ kx ∧ dk.size = d.size ∧ Aside (SWK encC 2 w0 blk off dk wr) ∧ Aside (PermIn a b d dk) ∧ Aside (Arr dk (rotF a (a + 1) (k + 1) fun x => d[x]!)))
      case atStart => exact ⟨a, d, rfl, by omega, by omega, by omega, rfl, S1, permIn_refl _ _ _, HA0⟩
      case round =>
        clear S1 HA0
        rename_i wr0
        obtain ⟨k, dk, rfl, hk1, hk2, hkx2, hds, S1, HP, HA⟩ := hrel
        by_cases hk : k < i - 1
        · have hkz : (k : Int) < ((i - 1 : Nat) : Int) := by omega
          have hkz2 : (k : Int) < (i : Int) - 1 := by omega
          go_wp2_with fail
          have ea4 : ((k : Int)).toNat = k := by omega
          have pa4 : (0 : Int) ≤ (k : Int) := by omega
          have qa4 : (k : Int) < (d.size : Int) := by omega
          have ra4 : IntKind.i64.wrap ((k : Int)) = (k : Int) := by rw [IntKind.wrap_i64]; omega
          have eb4 : ((k : Int) + 1).toNat = k + 1 := by omega
          have pb4 : (0 : Int) ≤ (k : Int) + 1 := by omega
          have qb4 : (k : Int) + 1 < (d.size : Int) := by omega
          have rb4 : IntKind.i64.wrap ((k : Int) + 1) = (k : Int) + 1 := by rw [IntKind.wrap_i64]; omega
          have hca := swk_cells S1.out.drew R (by omega) (k) (by omega)
          have hcb := swk_cells S1.out.drew R (by omega) (k + 1) (by omega)
          have l44a := run_loadC hca.1 hca.2.1
          have l44b := run_loadC hcb.1 hcb.2.1
          have s44a := run_storeC (S1.out.st1 R (by omega) Try.prog (k) (by omega) dk[k + 1]!)
          have s44b := run_storeC (S1.out.st2 R (by omega) Try.prog (k) (k + 1) (by omega) (by omega) dk[k + 1]! dk[k]!)
          have S2 : Aside (SWK encC 2 w0 blk off (swp dk (k) (k + 1)) ((wr.drew.setCells blk (off + (k) * 2) (encC dk[k + 1]!)).setCells blk (off + (k + 1) * 2) (encC dk[k]!))) := S1.out.swapped R (k) (k + 1) (by omega) (by omega)
          generalize wr.drew.setCells blk (off + (k) * 2) (encC dk[k + 1]!) = w1 at *
          generalize w1.setCells blk (off + (k + 1) * 2) (encC dk[k]!) = w2 at *
          generalize dk[k]! = xa at *
          generalize dk[k + 1]! = xb at *
          clear S1 hca hcb
          go_wp2_with fail
          go_big_region_o
          clear l44a l44b s44a s44b
          go_wp2
          go_roundg (i - 1 - (k + 1))
          case measure => omega
          case rel =>
            exact ⟨k + 1, swp dk k (k + 1), by first | rfl | go_num | simp, by omega, by omega, Nat.le_refl _, by rw [size_swp]; exact hds, S2, permIn_trans _ _ _ _ _ HP.out (swp_permIn _ _ _ _ _ (by omega) (by omega) (by omega) (by omega) (by omega)), rot_right (by omega) HA.out (by omega)⟩
        · have hkz : ¬ (k : Int) < ((i - 1 : Nat) : Int) := by omega
          have hkz2 : ¬ (k : Int) < (i : Int) - 1 := by omega
          go_wp2
          go_end0
          have hA := HA.out
          rw [show k + 1 = i by omega] at hA
          exact ⟨rfl, dk, HP.out, hdone.out dk hA, S1.out⟩
set_option maxHeartbeats 16000000 in
set_option maxRecDepth 1000000 in
theorem sym_last (blk off cap a m b : Nat) (d0 d : Array Coin) (w0 w : World) (R : RowK encC 2 w0 blk off d0) (hs : d0.size = d.size) (S : SWK encC 2 w0 blk off d w) (ham : a + 1 < m) (hmb : b ≤ m + 1) (hmb' : m + 1 ≤ b) (hb : b ≤ d.size) (hsz : d.size ≤ 1000000) (h1 : Srt keyC a m d) :
    Calls Try.prog 36 #[.slice (some ⟨blk, off, none⟩) d.size cap, .int .i64 a, .int .i64 m, .int .i64 b, fvC] w (SymPost a b blk off w0 d) := by
  have S0 : Aside (SWK encC 2 w0 blk off d w) := S
  have H1 : Aside (Srt keyC a m d) := h1
  clear S h1
  have mixed := mixedP
  have z1 : ((m : Int) - (a : Int) == 1) = false := beq_f (by omega)
  have z2 : (b : Int) - (m : Int) = 1 := by omega
  go_enter Try.func36, Try.ntmps36
  go_wp2
  go_loopg [14, 15] (m - a) (fun kx s10 s11 wr => ∃ (i j : Nat), s10 = .int .i64 i ∧ s11 = .int .i64 j ∧ a ≤ i ∧ i ≤ j ∧ j ≤ m ∧ j - i ≤ kx ∧ Aside (SWK encC 2 w0 blk off d wr) ∧ Aside (i = a ∨ d[i - 1]!.1 ≤ d[m]!.1) ∧ Aside (j = m ∨ d[m]!.1 ≤ d[j]!.1))
  case atStart => exact ⟨a, m, rfl, rfl, by omega, by omega, by omega, by omega, S0, (show _ ∨ _ from .inl rfl), (show _ ∨ _ from .inl rfl)⟩
  case round =>
    clear S0
    obtain ⟨i, j, rfl, rfl, hi1, hij, hjm, hkx, S1, HL, HG⟩ := hrel
    by_cases hlt : i < j
    · have hltz : (i : Int) < (j : Int) := by omega
      have e8 : ((i : Int) + (j : Int)) / 2 = (((i + j) / 2 : Nat) : Int) := by omega
      obtain ⟨h, hh⟩ : ∃ h, (i + j) / 2 = h := ⟨_, rfl⟩
      have hh1 : i ≤ h := by omega
      have hh2 : h < j := by omega
      rw [hh] at e8
      have ea9 : ((m : Int)).toNat = m := by omega
      have pa9 : (0 : Int) ≤ (m : Int) := by omega
      have qa9 : (m : Int) < (d.size : Int) := by omega
      have ra9 : IntKind.i64.wrap ((m : Int)) = (m : Int) := by rw [IntKind.wrap_i64]; omega
      have eb9 : ((h : Int)).toNat = h := by omega
      have pb9 : (0 : Int) ≤ (h : Int) := by omega
      have qb9 : (h : Int) < (d.size : Int) := by omega
      have rb9 : IntKind.i64.wrap ((h : Int)) = (h : Int) := by rw [IntKind.wrap_i64]; omega
      have l9a := swk_ld S1.out R (by omega) (m) (by omega)
      have l9b := swk_ld S1.out R (by omega) (h) (by omega)
      have hc9 := swk_cmp wr d[m]! d[h]!
      have hk9 := cfC_lt d[m]! d[h]!
      obtain ⟨xa, hxa⟩ : ∃ x, x = d[m]! := ⟨_, rfl⟩
      obtain ⟨xb, hxb⟩ : ∃ x, x = d[h]! := ⟨_, rfl⟩
      rw [← hxa] at l9a
      rw [← hxb] at l9b
      rw [← hxa, ← hxb] at hc9 hk9
      have HXA : Aside (xa = d[m]!) := hxa
      have HXB : Aside (xb = d[h]!) := hxb
      clear hxa hxb
      by_cases hv9 : cfC xa xb < 0
      · have hw9 : xa.1 < xb.1 := hk9.1 hv9
        have hd9 : decide (cfC xa xb < 0) = true := decide_eq_true hv9
        have HW9 : Aside _ := hw9
        clear hw9 hk9
        go_wp2_with fail
        go_quiet_grown (first | (refine Calls.grown_of (hc9 _ _)))
        have S2 : Aside (SWK encC 2 w0 blk off d (grow (wr.drewN nq) osq)) := S1.out.grown nq osq
        clear l9a l9b hc9 S1
        generalize grow (wr.drewN nq) osq = w2 at S2 ⊢
        clear nq osq
        have hw9 := HW9.out
        rw [HXA.out, HXB.out] at hw9
        have HW9 : Aside _ := hw9
        clear hw9
        go_wp2
        go_roundg (h - i)
        case measure => omega
        case rel => exact ⟨i, h, rfl, by first | rfl | go_num | (congr 1; omega), by omega, by omega, by omega, Nat.le_refl _, S2, HL, (show _ ∨ _ from .inr (Int.le_of_lt HW9.out))⟩
      · have hw9 : ¬ xa.1 < xb.1 := fun h => hv9 (hk9.2 h)
        have hd9 : decide (cfC xa xb < 0) = false := decide_eq_false hv9
        have HW9 : Aside _ := hw9
        clear hw9 hk9
        go_wp2_with fail
        go_quiet_grown (first | (refine Calls.grown_of (hc9 _ _)))
        have S2 : Aside (SWK encC 2 w0 blk off d (grow (wr.drewN nq) osq)) := S1.out.grown nq osq
        clear l9a l9b hc9 S1
        generalize grow (wr.drewN nq) osq = w2 at S2 ⊢
        clear nq osq
        have hw9 := HW9.out
        rw [HXA.out, HXB.out] at hw9
        have HW9 : Aside _ := hw9
        clear hw9
        go_wp2
        go_roundg (j - (h + 1))
        case measure => omega
        case rel => exact ⟨h + 1, j, by first | rfl | go_num | (congr 1; omega), rfl, by omega, by omega, hjm, Nat.le_refl _, S2, (show _ ∨ _ from .inr (by rw [Nat.add_sub_cancel]; exact Int.not_lt.1 HW9.out)), HG⟩
    · obtain rfl : i = j := by omega
      have hdone : Aside _ := fun d' => @ins_last Coin _ keyC a i m d d' H1.out (by omega) hjm HL.out HG.out
      have HA0 : Aside (Arr d (rotF m m (m + 1) fun x => d[x]!)) := by show Arr d _; rw [rotF_none1]; exact arr_self d
      go_wp2
      clear HL HG H1
      go_loopg [17] (m - i) (fun kx s13 wr => ∃ (k : Nat) (dk : Array Coin), s13 = .int .i64 k ∧ i ≤ k ∧ k ≤ m ∧ k - i ≤ kx ∧ dk.size = d.size ∧ Aside (SWK encC 2 w0 blk off dk wr) ∧ Aside (PermIn a b d dk) ∧ Aside (Arr dk (rotF k m (m + 1) fun x => d[x]!)))
      case atStart => exact ⟨m, d, rfl, by omega, by omega, by omega, rfl, S1, permIn_refl _ _ _, HA0⟩
      case round =>
        clear S1 HA0
        rename_i wr0
        obtain ⟨k, dk, rfl, hk1, hk2, hkx2, hds, S1, HP, HA⟩ := hrel
        by_cases hk : i < k
        · obtain ⟨k, rfl⟩ : ∃ k', k = k' + 1 := ⟨k - 1, by omega⟩
          have hkz : (i : Int) < ((k + 1 : Nat) : Int) := by omega
          have hkz2 : (i : Int) < (k : Int) + 1 := by omega
          go_wp2_with fail
          have ea4 : ((k : Int) + 1).toNat = k + 1 := by omega
          have pa4 : (0 : Int) ≤ (k : Int) + 1 := by omega
          have qa4 : (k : Int) + 1 < (d.size : Int) := by omega
          have ra4 : IntKind.i64.wrap ((k : Int) + 1) = (k : Int) + 1 := by rw [IntKind.wrap_i64]; omega
          have eb4 : ((k : Int)).toNat = k := by omega
          have pb4 : (0 : Int) ≤ (k : Int) := by omega
          have qb4 : (k : Int) < (d.size : Int) := by omega
          have rb4 : IntKind.i64.wrap ((k : Int)) = (k : Int) := by rw [IntKind.wrap_i64]; omega
          have hca := swk_cells S1.out.drew R (by omega) (k + 1) (by omega)
          have hcb := swk_cells S1.out.drew R (by omega) (k) (by omega)
          have l44a := run_loadC hca.1 hca.2.1
          have l44b := run_loadC hcb.1 hcb.2.1
          have s44a := run_storeC (S1.out.st1 R (by omega) Try.prog (k + 1) (by omega) dk[k]!)
          have s44b := run_storeC (S1.out.st2 R (by omega) Try.prog (k + 1) (k) (by omega) (by omega) dk[k]! dk[k + 1]!)
          have S2 : Aside (SWK encC 2 w0 blk off (swp dk (k + 1) (k)) ((wr.drew.setCells blk (off + (k + 1) * 2) (encC dk[k]!)).setCells blk (off + (k) * 2) (encC dk[k + 1]!))) := S1.out.swapped R (k + 1) (k) (by omega) (by omega)
          generalize wr.drew.setCells blk (off + (k + 1) * 2) (encC dk[k]!) = w1 at *
          generalize w1.setCells blk (off + (k) * 2) (encC dk[k + 1]!) = w2 at *
          generalize dk[k + 1]! = xa at *
          generalize dk[k]! = xb at *
          clear S1 hca hcb
          go_wp2_with fail
          go_big_region_o
          clear l44a l44b s44a s44b
          go_wp2
          go_roundg (k - i)
          case measure => omega
          case rel =>
            exact ⟨k, swp dk (k + 1) k, by first | rfl | go_num | simp, by omega, by omega, Nat.le_refl _, by rw [size_swp]; exact hds, S2, permIn_trans _ _ _ _ _ HP.out (swp_permIn _ _ _ _ _ (by omega) (by omega) (by omega) (by omega) (by omega)), rot_left (by omega) HA.out (by omega)⟩
        · have hkz : ¬ (i : Int) < (k : Int) := by omega
          go_wp2
          go_end0
          have hA := HA.out
          rw [show k = i by omega] at hA
          have hD := hdone.out dk hA
          have hD := hD.sub (Nat.le_refl a) hmb
          exact ⟨rfl, dk, HP.out, hD, S1.out⟩
end Go.Proofs.Ytnoleijdpilnpaa

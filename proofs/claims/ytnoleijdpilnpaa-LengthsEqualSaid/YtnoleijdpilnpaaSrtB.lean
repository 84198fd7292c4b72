/- The comparison of two coins, slices.swapRangeCmpFunc, slices.rotateCmpFunc: contracts. -/
import Derived.Test.YtnoleijdpilnpaaSrtA
import Derived.Shelf.SlSortCmp.KitK
import Derived.Sort.WalkB2
import Derived.Sort.WalkB12
set_option linter.unusedSimpArgs false
set_option linter.unusedVariables false
namespace Go.Proofs.Ytnoleijdpilnpaa
open Go.Shelf Go.RowKit Go.Lib Go.Sort Pl
/-- what the comparison answers -/
def cfC (x y : Coin) : Int := if x.1 < y.1 then -1 else if y.1 < x.1 then 1 else 0
theorem cfC_lt (x y : Coin) : cfC x y < 0 ↔ x.1 < y.1 := by
  unfold cfC
  by_cases h1 : x.1 < y.1
  · rw [if_pos h1]; omega
  · rw [if_neg h1]
    by_cases h2 : y.1 < x.1
    · rw [if_pos h2]; omega
    · rw [if_neg h2]; omega
theorem mixedP : Try.prog.follows .mixedOrders = true := by kernel_rfl
set_option maxHeartbeats 1000000 in
theorem isNaN_any (x : Int) (w : World) : Calls Try.prog 33 #[.int .i64 x] w fun e w' => e = .returned (.bool false) ∧ w = w' := by
  go_enter Try.func33, Try.ntmps33
  have h := bne_f (rfl : x = x)
  go_wp2
  go_ret
  exact ⟨rfl, rfl⟩
set_option maxHeartbeats 1000000 in
theorem compare_any (x y : Int) (w : World) : Calls Try.prog 28 #[.int .i64 x, .int .i64 y] w fun e w' => e = .returned (.int .i64 (if x < y then -1 else if y < x then 1 else 0)) ∧ w = w' := by
  have h1 := fun W => isNaN_any x W
  have h2 := fun W => isNaN_any y W
  by_cases c1 : x < y
  · rw [if_pos c1]
    go_enter Try.func28, Try.ntmps28
    go_wp2_with fail
    refine (h1 _).mono ?_
    rintro e w' ⟨rfl, rfl⟩
    go_wp2_with fail
    refine (h2 _).mono ?_
    rintro e w' ⟨rfl, rfl⟩
    go_wp2
    go_ret
    exact ⟨rfl, rfl⟩
  · rw [if_neg c1]
    by_cases c2 : y < x
    · rw [if_pos c2]
      go_enter Try.func28, Try.ntmps28
      go_wp2_with fail
      refine (h1 _).mono ?_
      rintro e w' ⟨rfl, rfl⟩
      go_wp2_with fail
      refine (h2 _).mono ?_
      rintro e w' ⟨rfl, rfl⟩
      go_wp2
      go_ret
      exact ⟨rfl, rfl⟩
    · rw [if_neg c2]
      go_enter Try.func28, Try.ntmps28
      go_wp2_with fail
      refine (h1 _).mono ?_
      rintro e w' ⟨rfl, rfl⟩
      go_wp2_with fail
      refine (h2 _).mono ?_
      rintro e w' ⟨rfl, rfl⟩
      go_wp2
      go_ret
      exact ⟨rfl, rfl⟩
set_option maxHeartbeats 1000000 in
theorem closure_any (x y : Coin) (W : World) : Calls Try.prog 27 #[.agg #[.int .i64 x.1, .int .i64 x.2], .agg #[.int .i64 y.1, .int .i64 y.2]] W fun e w' => e = .returned (.int .i64 (cfC x y)) ∧ ∃ q os', w' = grow (W.drewN q) os' := by
  have hcon := fun W' => compare_any x.1 y.1 W'
  unfold cfC
  generalize (if x.1 < y.1 then (-1 : Int) else if y.1 < x.1 then 1 else 0) = r at hcon ⊢
  go_enter Try.func27, Try.ntmps27
  go_wp2_with fail
  refine (hcon _).mono ?_
  rintro e w' ⟨rfl, rfl⟩
  go_wp2
  go_ret
  exact ⟨rfl, 0, _, by rw [alloc_eq_grow, alloc_eq_grow, grow_grow]; rfl⟩
theorem cmpLaysC (blk off size : Nat) (w : World) : CmpLays Try.prog 27 #[] encC 2 cfC blk off size w :=
  fun _ _ _ _ x y => closure_any x y _
abbrev fvC : Value := .func (.func 27) #[] #[]
theorem lenC : ∀ x, (encC x).length = 2 := fun _ => rfl
theorem oneC : ∀ x, ∀ v ∈ encC x, v.oneCell' = true := fun x v hv => by simp [encC] at hv; rcases hv with rfl | rfl <;> rfl
/-! a coin loaded and stored whole -/
def loadC (v : Value) : Sem Value := Instr.loadAt 41 v
theorem loadC_eq (v : Value) : Instr.loadAt 41 v = loadC v := rfl
def storeC (p v : Value) : Sem Unit := Instr.storeAt 41 p v
theorem storeC_eq (p v : Value) : Instr.storeAt 41 p v = storeC p v := rfl
def coinV (c : Coin) : Value := .agg #[.int .i64 c.1, .int .i64 c.2]
theorem run_loadC {w : World} {b o : Nat} {c : Coin} (h1 : w.cell? ⟨b, o, none⟩ = some (.int .i64 c.1)) (h2 : w.cell? ⟨b, o + 1, none⟩ = some (.int .i64 c.2)) :
    (loadC (.pointer (some ⟨b, o, none⟩))).run Try.prog w = .ok (.agg #[.int .i64 c.1, .int .i64 c.2]) w := by
  simp only [loadC, Instr.loadAt, Instr.sureAddr, loadVar, loadCells, Sem.run_bind, Sem.run_pure, Result.andThen_ok, Try.isAgg41, Try.sizeOf41, if_true]
  have := run_loadCellsFrom_list Try.prog w ⟨b, o, none⟩ (encC c) 2 rfl (fun j v hj => by
    rw [add_none]
    match j, hj with
    | 0, hj => simp [encC] at hj; subst hj; exact h1
    | 1, hj => simp [encC] at hj; subst hj; exact h2)
  rw [this]
  rfl
theorem run_storeC {w w' : World} {b o : Nat} {c : Coin} (h : Sem.run Try.prog (storeCells ⟨b, o, none⟩ (encC c) 0) w = .ok () w') :
    (storeC (.pointer (some ⟨b, o, none⟩)) (.agg #[.int .i64 c.1, .int .i64 c.2])).run Try.prog w = .ok () w' := by
  simp only [storeC, Instr.storeAt, Instr.sureAddr, storeVar, Sem.run_bind, Sem.run_pure, Result.andThen_ok, Try.sizeOf41]
  rw [if_neg (by simp [Value.cells])]
  exact h
theorem swk_cells {w0 W : World} {blk off : Nat} {d0 dk : Array Coin} (S : SWK encC 2 w0 blk off dk W) (R : RowK encC 2 w0 blk off d0) (hs : dk.size = d0.size) (x : Nat) (hx : x < dk.size) :
    W.cell? ⟨blk, off + x * 2, none⟩ = some (.int .i64 dk[x]!.1) ∧ W.cell? ⟨blk, off + x * 2 + 1, none⟩ = some (.int .i64 dk[x]!.2) ∧ W.frozen? ⟨blk, off + x * 2, none⟩ = false ∧ W.frozen? ⟨blk, off + x * 2 + 1, none⟩ = false := by
  have h : Holds id W blk off (flatK encC 2 dk) := S.holds R.hblk R.hH hs
  have h1 := h (x * 2) (by simp; omega)
  have h2 := h (x * 2 + 1) (by simp; omega)
  rw [get_flatK _ _ _ _ (by omega)] at h1 h2
  rw [show x * 2 / 2 = x by omega, show x * 2 % 2 = 0 by omega] at h1
  rw [show (x * 2 + 1) / 2 = x by omega, show (x * 2 + 1) % 2 = 1 by omega, ← Nat.add_assoc] at h2
  exact ⟨h1.1, h2.1, h1.2, h2.2⟩
/-- the world behind an exchange, cell by cell -/
def swapW (W : World) (blk pa pb : Nat) (x y : Coin) : World := (((W.setCell ⟨blk, pa, none⟩ (.int .i64 y.1)).setCell ⟨blk, pa + 1, none⟩ (.int .i64 y.2)).setCell ⟨blk, pb, none⟩ (.int .i64 x.1)).setCell ⟨blk, pb + 1, none⟩ (.int .i64 x.2)
theorem swk_swap {w0 W : World} {blk off : Nat} {d0 dk : Array Coin} (S : SWK encC 2 w0 blk off dk W) (R : RowK encC 2 w0 blk off d0) (i j : Nat) (hi : i < dk.size) (hj : j < dk.size) :
    SWK encC 2 w0 blk off (swp dk i j) (swapW W.drew blk (off + i * 2) (off + j * 2) dk[i]! dk[j]!) := S.swapped R i j hi hj
attribute [local go_sem ↓] loadC_eq storeC_eq
set_option maxHeartbeats 4000000 in
set_option maxRecDepth 1000000 in
theorem swapRange_any (blk off cap a b n : Nat) (d0 d : Array Coin) (w0 w : World) (R : RowK encC 2 w0 blk off d0) (hs : d0.size = d.size) (S : SWK encC 2 w0 blk off d w) (hab : a + n ≤ b) (hb : b + n ≤ d.size) (hsz : d.size ≤ 1000000) :
    Calls Try.prog 38 #[.slice (some ⟨blk, off, none⟩) d.size cap, .int .i64 a, .int .i64 b, .int .i64 n, fvC] w fun e w' =>
      e = .returned (.tuple #[]) ∧ ∃ d', PermIn a (b + n) d d' ∧ Arr d' (swapF a b n fun x => d[x]!) ∧ SWK encC 2 w0 blk off d' w' := by
  have S0 : Aside (SWK encC 2 w0 blk off d w) := S
  clear S
  have mixed := mixedP
  have aE := Try.isAgg41
  have zE := Try.sizeOf41
  have HA0 : Aside (Arr d (swapF a b 0 fun x => d[x]!)) := by show Arr d _; rw [swapF_zero]; exact arr_self d
  go_enter Try.func38, Try.ntmps38
  go_wp2
  go_loopg [10] n (fun kx s10 wr => ∃ (i : Nat) (dk : Array Coin), s10 = .int .i64 i ∧ i ≤ n ∧ n - i ≤ kx ∧ dk.size = d.size ∧ Aside (SWK encC 2 w0 blk off dk wr) ∧ Aside (PermIn a (b + n) d dk) ∧ Aside (Arr dk (swapF a b i fun x => d[x]!)))
  case atStart => exact ⟨0, d, rfl, by omega, by omega, rfl, S0, permIn_refl _ _ _, HA0⟩
  case round =>
    clear S0 HA0
    obtain ⟨i, dk, rfl, hin, hkx, hds, S1, HP, HA⟩ := hrel
    by_cases hlt : i < n
    · have hltz : (i : Int) < (n : Int) := by omega
      go_wp2_with fail
      have ea44 : ((a : Int) + (i : Int)).toNat = a + i := by omega
      have pa44 : (0 : Int) ≤ (a : Int) + (i : Int) := by omega
      have ba44 : (a : Int) + (i : Int) < (d.size : Int) := by omega
      have ra44 : IntKind.i64.wrap ((a : Int) + (i : Int)) = (a : Int) + (i : Int) := by rw [IntKind.wrap_i64]; omega
      have ec44 : ((b : Int) + (i : Int)).toNat = b + i := by omega
      have pc44 : (0 : Int) ≤ (b : Int) + (i : Int) := by omega
      have bc44 : (b : Int) + (i : Int) < (d.size : Int) := by omega
      have rc44 : IntKind.i64.wrap ((b : Int) + (i : Int)) = (b : Int) + (i : Int) := by rw [IntKind.wrap_i64]; omega
      have hca := swk_cells S1.out.drew R (by omega) (a + i) (by omega)
      have hcb := swk_cells S1.out.drew R (by omega) (b + i) (by omega)
      have l44a := run_loadC hca.1 hca.2.1
      have l44b := run_loadC hcb.1 hcb.2.1
      have s44a := run_storeC (S1.out.st1 R (by omega) Try.prog (a + i) (by omega) dk[b + i]!)
      have s44b := run_storeC (S1.out.st2 R (by omega) Try.prog (a + i) (b + i) (by omega) (by omega) dk[b + i]! dk[a + i]!)
      have S2 : Aside (SWK encC 2 w0 blk off (swp dk (a + i) (b + i)) ((wr.drew.setCells blk (off + (a + i) * 2) (encC dk[b + i]!)).setCells blk (off + (b + i) * 2) (encC dk[a + i]!))) := S1.out.swapped R (a + i) (b + i) (by omega) (by omega)
      generalize wr.drew.setCells blk (off + (a + i) * 2) (encC dk[b + i]!) = w1 at *
      generalize w1.setCells blk (off + (b + i) * 2) (encC dk[a + i]!) = w2 at *
      generalize dk[a + i]! = xa at *
      generalize dk[b + i]! = xb at *
      clear S1 hca hcb
      go_wp2_with fail
      go_big_region_o
      clear l44a l44b s44a s44b
      go_wp2
      go_roundg (n - (i + 1))
      case measure => omega
      case rel =>
        exact ⟨i + 1, swp dk (a + i) (b + i), by first | rfl | go_num | simp, by omega, Nat.le_refl _, by rw [size_swp]; exact hds, S2, permIn_trans _ _ _ _ _ HP.out (swp_permIn _ _ _ _ _ (by omega) (by omega) (by omega) (by omega) (by omega)), swapF_step (by omega) HA.out (by omega)⟩
    · obtain rfl : i = n := by omega
      go_wp2
      go_end0
      exact ⟨rfl, dk, HP.out, HA.out, S1.out⟩
set_option maxHeartbeats 4000000 in
set_option maxRecDepth 1000000 in
theorem rotate_any (blk off cap a m b : Nat) (d0 d : Array Coin) (w0 w : World) (R : RowK encC 2 w0 blk off d0) (hs : d0.size = d.size) (S : SWK encC 2 w0 blk off d w) (ham : a < m) (hmb : m < b) (hb : b ≤ d.size) (hsz : d.size ≤ 1000000) :
    Calls Try.prog 37 #[.slice (some ⟨blk, off, none⟩) d.size cap, .int .i64 a, .int .i64 m, .int .i64 b, fvC] w fun e w' =>
      e = .returned (.tuple #[]) ∧ ∃ d', PermIn a b d d' ∧ Arr d' (rotF a m b fun x => d[x]!) ∧ SWK encC 2 w0 blk off d' w' := by
  have S0 : Aside (SWK encC 2 w0 blk off d w) := S
  clear S
  have z1 : (m : Int) - (a : Int) = ((m - a : Nat) : Int) := by omega
  have z2 : (b : Int) - (m : Int) = ((b - m : Nat) : Int) := by omega
  go_enter Try.func37, Try.ntmps37
  go_wp2
  clear z1 z2
  go_loopg [10, 11] (m - a + (b - m)) (fun kx s10 s11 wr => ∃ (i j : Nat) (dk : Array Coin), s10 = .int .i64 i ∧ s11 = .int .i64 j ∧ 1 ≤ i ∧ i ≤ m - a ∧ 1 ≤ j ∧ j ≤ b - m ∧ i + j ≤ kx ∧ dk.size = d.size ∧ Aside (SWK encC 2 w0 blk off dk wr) ∧ Aside (PermIn a b d dk) ∧ Aside (rotF (m - i) m (m + j) (fun x => dk[x]!) = rotF a m b fun x => d[x]!))
  case atStart => exact ⟨m - a, b - m, d, by first | rfl | (congr 1; omega), by first | rfl | (congr 1; omega), by omega, by omega, by omega, by omega, by omega, rfl, S0, permIn_refl _ _ _, by show _ = _; rw [show m - (m - a) = a by omega, show m + (b - m) = b by omega]⟩
  case round =>
    clear S0
    obtain ⟨i, j, dk, rfl, rfl, hi1, hi2, hj1, hj2, hkx, hds, S1, HP, HR⟩ := hrel
    by_cases hij : i = j
    · subst hij
      have hne : ((i : Int) != (i : Int)) = false := bne_f rfl
      have e1 : (m : Int) - (i : Int) = ((m - i : Nat) : Int) := by omega
      have hc := swapRange_any blk off cap (m - i) m i d0 dk w0 wr R (by omega) S1.out (by omega) (by omega) (by omega)
      rw [hds] at hc
      go_wp2_with fail
      refine hc.mono ?_
      rintro e w' ⟨rfl, d', hp, ha, hS⟩
      go_wp2
      go_end0
      refine ⟨rfl, d', permIn_trans _ _ _ _ _ HP.out (permIn_mono _ _ _ _ _ _ (by omega) (by omega) (by omega) hp), ?_, hS⟩
      rw [rot_end (by omega), HR.out] at ha
      exact ha
    · have hne : ((i : Int) != (j : Int)) = true := bne_t (by omega)
      by_cases hlt : j < i
      · have hltz : (j : Int) < (i : Int) := by omega
        have e1 : (m : Int) - (i : Int) = ((m - i : Nat) : Int) := by omega
        have e2 : (i : Int) - (j : Int) = ((i - j : Nat) : Int) := by omega
        have hc := swapRange_any blk off cap (m - i) m j d0 dk w0 wr R (by omega) S1.out (by omega) (by omega) (by omega)
        rw [hds] at hc
        go_wp2_with fail
        refine hc.mono ?_
        rintro e w' ⟨rfl, d', hp, ha, hS⟩
        have HP2 : Aside (PermIn a b d d') := permIn_trans _ _ _ _ _ HP.out (permIn_mono _ _ _ _ _ _ (by omega) (by omega) (by omega) hp)
        have HS2 : Aside _ := hS
        have hd2 : d'.size = d.size := by rw [hp.1, hds]
        have HR2 : Aside (rotF (m - (i - j)) m (m + j) (fun x => d'[x]!) = rotF a m b fun x => d[x]!) := by
          show _ = _
          rw [show (fun x => d'[x]!) = swapF (m - i) m j (fun x => dk[x]!) from funext ha, rot_step1 (by omega) hlt]
          exact HR.out
        clear hp ha hS hc
        go_wp2
        go_roundg (i - j + j)
        case measure => omega
        case rel => exact ⟨i - j, j, d', by first | rfl | go_num | (congr 1; omega), rfl, by omega, by omega, hj1, hj2, by omega, hd2, HS2, HP2, HR2⟩
      · have hltz : ¬ (j : Int) < (i : Int) := by omega
        have e1 : (m : Int) - (i : Int) = ((m - i : Nat) : Int) := by omega
        have e2 : (m : Int) + (j : Int) - (i : Int) = ((m + j - i : Nat) : Int) := by omega
        have e3 : (j : Int) - (i : Int) = ((j - i : Nat) : Int) := by omega
        have hc := swapRange_any blk off cap (m - i) (m + j - i) i d0 dk w0 wr R (by omega) S1.out (by omega) (by omega) (by omega)
        rw [hds] at hc
        go_wp2_with fail
        refine hc.mono ?_
        rintro e w' ⟨rfl, d', hp, ha, hS⟩
        have HP2 : Aside (PermIn a b d d') := permIn_trans _ _ _ _ _ HP.out (permIn_mono _ _ _ _ _ _ (by omega) (by omega) (by omega) hp)
        have HS2 : Aside _ := hS
        have hd2 : d'.size = d.size := by rw [hp.1, hds]
        have HR2 : Aside (rotF (m - i) m (m + (j - i)) (fun x => d'[x]!) = rotF a m b fun x => d[x]!) := by
          show _ = _
          rw [show (fun x => d'[x]!) = swapF (m - i) (m + j - i) i (fun x => dk[x]!) from funext ha, rot_step2 (by omega) (by omega)]
          exact HR.out
        clear hp ha hS hc
        go_wp2
        go_roundg (i + (j - i))
        case measure => omega
        case rel => exact ⟨i, j - i, d', rfl, by first | rfl | go_num | (congr 1; omega), hi1, hi2, by omega, by omega, by omega, hd2, HS2, HP2, HR2⟩
end Go.Proofs.Ytnoleijdpilnpaa

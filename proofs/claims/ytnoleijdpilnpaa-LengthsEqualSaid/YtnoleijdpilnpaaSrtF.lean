/- slices.stableCmpFunc, slices.SortStableFunc: contracts. -/
import Derived.Test.YtnoleijdpilnpaaSrtD
import Derived.Test.YtnoleijdpilnpaaSrtE
set_option linter.unusedSimpArgs false
set_option linter.unusedVariables false
namespace Go.Proofs.Ytnoleijdpilnpaa
open Go.Shelf Go.RowKit Go.Lib Go.Sort Pl
namespace Pl
theorem rest_runs {bs t a n : Nat} {d : Array Coin} (ha : a = t * (2 * bs)) (h : Rest keyC bs a n d) : (∀ e, e ≤ a + bs → e ≤ n → Srt keyC a e d) ∧ (∀ e, e ≤ a + 2 * bs → e ≤ n → Srt keyC (a + bs) e d) := by
  obtain ⟨e1, e2, e3⟩ := two_mul_run t bs
  constructor
  · intro e h1 h2
    have := h.run (2 * t) (b := e) (by omega) (by omega) h2
    rwa [e1, ← ha] at this
  · intro e h1 h2
    have := h.run (2 * t + 1) (b := e) (by omega) (by omega) h2
    rwa [e2, ← ha] at this
theorem next_mul {a b M t : Nat} (ha : a = t * M) (hb : b = a + M) : b = (t + 1) * M := by rw [hb, ha, Nat.add_mul, Nat.one_mul]
end Pl
def StablePost (blk off : Nat) (w0 : World) (d : Array Coin) (e : Ending) (w' : World) : Prop := e = .returned (.tuple #[]) ∧ ∃ d', PermIn 0 d.size d d' ∧ Srt keyC 0 d.size d' ∧ SWK encC 2 w0 blk off d' w'
set_option maxHeartbeats 16000000 in
set_option maxRecDepth 1000000 in
theorem stable_any (blk off cap n : Nat) (d : Array Coin) (w : World) (R : RowK encC 2 w blk off d) (hn : n = d.size) (hsz : d.size ≤ 1000000) :
    Calls Try.prog 32 #[.slice (some ⟨blk, off, none⟩) n cap, .int .i64 n, fvC] w (StablePost blk off w d) := by
  have S0 : Aside (SWK encC 2 w blk off d w) := SWK.start R.hH
  have HN : Aside (n = d.size) := hn
  have hn1 : n ≤ d.size := by omega
  have hn2 : d.size ≤ n := by omega
  clear hn
  go_enter Try.func32, Try.ntmps32
  go_wp2
  go_loopg [7, 8] n (fun kx s7 s8 wr => ∃ (a b t : Nat) (dk : Array Coin), s7 = .int .i64 a ∧ s8 = .int .i64 b ∧ Aside (a = t * 20) ∧ b ≤ a + 20 ∧ a + 20 ≤ b ∧ a ≤ n ∧ n - a ≤ kx ∧ Aside (dk.size = n) ∧ Aside (SWK encC 2 w blk off dk wr) ∧ Aside (PermIn 0 n d dk) ∧ Aside (Done keyC 20 a n dk))
  case atStart => exact ⟨0, 20, 0, d, rfl, rfl, (show _ = _ from rfl), by omega, by omega, by omega, by omega, HN.out.symm, S0, permIn_refl _ _ _, Done.zero _ _ _⟩
  case round =>
    clear S0
    obtain ⟨a, b, t, dk, rfl, rfl, hat, hb1, hb2, han, hkx, HSZ, S1, HP, HD⟩ := hrel
    by_cases hbn : b ≤ n
    · have hbz : (b : Int) ≤ (n : Int) := by omega
      have hc := insertion_any blk off cap a b d dk w wr R (by rw [HSZ.out, HN.out]) S1.out (by omega) (by rw [HSZ.out]; exact hbn) (by rw [HSZ.out]; omega)
      rw [HSZ.out] at hc
      go_wp2_with fail
      refine hc.mono ?_
      rintro e9 w2 ⟨rfl, d2, hp, hq, hS⟩
      have HSZ2 : Aside (d2.size = n) := hp.1.trans HSZ.out
      have HP2 : Aside (PermIn 0 n d d2) := perm_in HP.out hbn hn1 hp
      have HD2 : Aside (Done keyC 20 b n d2) := HD.out.step hat.out (by omega) hbn (fun x hx => hp.2.1 x (.inl hx)) hq
      have HT2 : Aside (b = (t + 1) * 20) := next_mul hat.out (by omega)
      have S2 : Aside _ := hS
      clear hc hp hq hS S1 HP HD HSZ
      go_wp2
      go_roundg (n - b)
      case measure => omega
      case rel => exact ⟨b, b + 20, t + 1, d2, rfl, by first | rfl | go_num | simp, HT2, by omega, by omega, hbn, Nat.le_refl _, HSZ2, S2, HP2, HD2⟩
    · have hbz : ¬ (b : Int) ≤ (n : Int) := by omega
      have hc := insertion_any blk off cap a n d dk w wr R (by rw [HSZ.out, HN.out]) S1.out han (by rw [HSZ.out]; omega) (by rw [HSZ.out]; omega)
      rw [HSZ.out] at hc
      go_wp2_with fail
      refine hc.mono ?_
      rintro e9 w2 ⟨rfl, d2, hp, hq, hS⟩
      have HSZ2 : Aside (d2.size = n) := hp.1.trans HSZ.out
      have HP2 : Aside (PermIn 0 n d d2) := perm_in HP.out (Nat.le_refl _) hn1 hp
      have HD2 : Aside (Pl.Rest keyC 20 0 n d2) := (HD.out.step hat.out (by omega) (Nat.le_refl _) (fun x hx => hp.2.1 x (.inl hx)) hq).rest
      have S2 : Aside _ := hS
      clear hc hp hq hS S1 HP HD HSZ hat
      go_wp2
      go_loopg [6, 7, 8, 9] n (fun kx s6 s7 s8 s9 wr => ∃ (bs : Nat) (dk : Array Coin), s6 = .int .i64 bs ∧ 20 ≤ bs ∧ n - bs ≤ kx ∧ Aside (dk.size = n) ∧ Aside (SWK encC 2 w blk off dk wr) ∧ Aside (PermIn 0 n d dk) ∧ Aside (Pl.Rest keyC bs 0 n dk))
      case atStart => exact ⟨20, d2, rfl, by omega, by omega, HSZ2, S2, HP2, HD2⟩
      case round =>
        clear S2 HSZ2 HP2 HD2
        obtain ⟨bs, dk, rfl, hbs, hkx2, HSZ, S1, HP, HR⟩ := hrel
        by_cases hlt : bs < n
        · have hltz : (bs : Int) < (n : Int) := by omega
          go_wp2
          go_loopg [7, 8] n (fun kx s7 s8 wr => ∃ (a b t : Nat) (dk : Array Coin), s7 = .int .i64 a ∧ s8 = .int .i64 b ∧ Aside (a = t * (2 * bs)) ∧ b ≤ a + 2 * bs ∧ a + 2 * bs ≤ b ∧ a ≤ n ∧ n - a ≤ kx ∧ Aside (dk.size = n) ∧ Aside (SWK encC 2 w blk off dk wr) ∧ Aside (PermIn 0 n d dk) ∧ Aside (Done keyC (2 * bs) a n dk) ∧ Aside (Pl.Rest keyC bs a n dk))
          case atStart => exact ⟨0, 2 * bs, 0, dk, rfl, by first | rfl | go_num | simp, (show 0 = 0 * (2 * bs) by omega), by omega, by omega, by omega, by omega, HSZ, S1, HP, Done.zero _ _ _, HR⟩
          case round =>
            clear S1 HP HR HSZ
            obtain ⟨a, b, t, dk, rfl, rfl, hat, hb1, hb2, han, hkx3, HSZ, S1, HP, HD, HR⟩ := hrel
            by_cases hbn : b ≤ n
            · have hbz : (b : Int) ≤ (n : Int) := by omega
              have hruns := rest_runs hat.out HR.out
              have hc := symMerge_any blk off cap d w R (b - a) a (a + bs) b dk wr (by rw [HSZ.out, HN.out]) S1.out rfl (by omega) (by omega) (by rw [HSZ.out]; exact hbn) (by rw [HSZ.out]; omega) (hruns.1 _ (Nat.le_refl _) (by omega)) (hruns.2 _ hb1 hbn)
              rw [HSZ.out] at hc
              rw [show ((a + bs : Nat) : Int) = (a : Int) + (bs : Int) by omega] at hc
              clear hruns
              go_wp2_with fail
              refine hc.mono ?_
              rintro e9 w2 ⟨rfl, d2, hp, hq, hS⟩
              have HSZ2 : Aside (d2.size = n) := hp.1.trans HSZ.out
              have HP2 : Aside (PermIn 0 n d d2) := perm_in HP.out hbn hn1 hp
              have HD2 : Aside (Done keyC (2 * bs) b n d2) := HD.out.step hat.out hb1 hbn (fun x hx => hp.2.1 x (.inl hx)) hq
              have HR2 : Aside (Pl.Rest keyC bs b n d2) := HR.out.sub (by omega) (fun x hx => hp.2.1 x (.inr hx))
              have HT2 : Aside (b = (t + 1) * (2 * bs)) := next_mul hat.out (by omega)
              have S2 : Aside _ := hS
              clear hc hp hq hS S1 HP HD HSZ HR
              go_wp2
              go_roundg (n - b)
              case measure => omega
              case rel => exact ⟨b, b + 2 * bs, t + 1, d2, rfl, by first | rfl | go_num | (congr 1; omega), HT2, by omega, by omega, hbn, Nat.le_refl _, HSZ2, S2, HP2, HD2, HR2⟩
            · have hbz : ¬ (b : Int) ≤ (n : Int) := by omega
              have hruns := rest_runs hat.out HR.out
              by_cases hmn : a + bs < n
              · have hc := symMerge_any blk off cap d w R (n - a) a (a + bs) n dk wr (by rw [HSZ.out, HN.out]) S1.out rfl (by omega) hmn (by rw [HSZ.out]; omega) (by rw [HSZ.out]; omega) (hruns.1 _ (Nat.le_refl _) (by omega)) (hruns.2 _ (by omega) (Nat.le_refl _))
                rw [HSZ.out] at hc
                rw [show ((a + bs : Nat) : Int) = (a : Int) + (bs : Int) by omega] at hc
                have hmz2 : (a : Int) + (bs : Int) < (n : Int) := by omega
                clear hruns
                go_wp2_with fail
                refine hc.mono ?_
                rintro e9 w2 ⟨rfl, d2, hp, hq, hS⟩
                have HSZ2 : Aside (d2.size = n) := hp.1.trans HSZ.out
                have HP2 : Aside (PermIn 0 n d d2) := perm_in HP.out (Nat.le_refl _) hn1 hp
                have HD2 : Aside (Pl.Rest keyC (2 * bs) 0 n d2) := (HD.out.step hat.out (by omega) (Nat.le_refl _) (fun x hx => hp.2.1 x (.inl hx)) hq).rest
                have S2 : Aside _ := hS
                clear hc hp hq hS S1 HP HD HSZ HR hat
                go_wp2
                go_roundg (n - 2 * bs)
                case measure => omega
                case rel => exact ⟨2 * bs, d2, by first | rfl | go_num | (congr 1; omega), by omega, Nat.le_refl _, HSZ2, S2, HP2, HD2⟩
              · have hmz2 : ¬ (a : Int) + (bs : Int) < (n : Int) := by omega
                have HD2 : Aside (Pl.Rest keyC (2 * bs) 0 n dk) := (HD.out.step hat.out (by omega) (Nat.le_refl _) (fun x hx => rfl) (hruns.1 n (by omega) (Nat.le_refl _))).rest
                clear hruns HD HR hat
                go_wp2
                go_roundg (n - 2 * bs)
                case measure => omega
                case rel => exact ⟨2 * bs, dk, by first | rfl | go_num | (congr 1; omega), by omega, Nat.le_refl _, HSZ, S1, HP, HD2⟩
        · have hltz : ¬ (bs : Int) < (n : Int) := by omega
          have hfin : Srt keyC 0 n dk := HR.out.sorted (by omega)
          have HF : Aside _ := hfin
          clear hfin HR
          go_wp2
          go_end0
          refine ⟨rfl, dk, ?_, ?_, S1.out⟩
          · rw [← HN.out]; exact HP.out
          · rw [← HN.out]; exact HF.out
set_option maxHeartbeats 4000000 in
theorem sortStable_any (blk off cap n : Nat) (d : Array Coin) (w : World) (R : RowK encC 2 w blk off d) (hn : n = d.size) (hsz : d.size ≤ 1000000) :
    Calls Try.prog 26 #[.slice (some ⟨blk, off, none⟩) n cap, fvC] w (StablePost blk off w d) := by
  have hc := stable_any blk off cap n d w R hn hsz
  clear hn
  go_enter Try.func26, Try.ntmps26
  go_wp2_with fail
  refine hc.mono ?_
  rintro e w' ⟨rfl, h⟩
  go_wp2
  go_end0
  exact ⟨rfl, h⟩
set_option maxHeartbeats 4000000 in
theorem insertion_none (w : World) : Calls Try.prog 35 #[.slice none 0 0, .int .i64 0, .int .i64 0, fvC] w fun e w' => e = .returned (.tuple #[]) ∧ w = w' := by
  go_enter Try.func35, Try.ntmps35
  go_wp2
  refine wp_loop_rounds 1 ?_
  rw [rounds_succ]
  go_wp2
  go_end0
  exact ⟨rfl, rfl⟩
set_option maxHeartbeats 4000000 in
theorem stable_none (w : World) : Calls Try.prog 32 #[.slice none 0 0, .int .i64 0, fvC] w fun e w' => e = .returned (.tuple #[]) ∧ w = w' := by
  have hc := insertion_none w
  go_enter Try.func32, Try.ntmps32
  go_wp2
  refine wp_loop_rounds 1 ?_
  rw [rounds_succ]
  go_wp2_with fail
  refine hc.mono ?_
  rintro e w' ⟨rfl, rfl⟩
  go_wp2
  refine wp_loop_rounds 1 ?_
  rw [rounds_succ]
  go_wp2
  go_end0
  exact ⟨rfl, rfl⟩
set_option maxHeartbeats 4000000 in
theorem sortStable_none (w : World) : Calls Try.prog 26 #[.slice none 0 0, fvC] w fun e w' => e = .returned (.tuple #[]) ∧ w = w' := by
  have hc := stable_none w
  go_enter Try.func26, Try.ntmps26
  go_wp2_with fail
  refine hc.mono ?_
  rintro e w' ⟨rfl, rfl⟩
  go_wp2
  go_end0
  exact ⟨rfl, rfl⟩
end Go.Proofs.Ytnoleijdpilnpaa

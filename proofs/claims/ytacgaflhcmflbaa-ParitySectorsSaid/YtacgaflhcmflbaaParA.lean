/- bytes.Clone; parity.stripes, add, Make; the verifier's Parity: contracts. -/
import Derived.Test.YtacgaflhcmflbaaParP
import Derived.Test.YtacgaflhcmflbaaBlobs
import Derived.Test.YtacgaflhcmflbaaPart
import Derived.Lib.SliceRun
set_option linter.unusedSimpArgs false
set_option linter.unusedVariables false
namespace Go.Proofs.Ytacgaflhcmflbaa
open Go.RowKit Pl
theorem clone_any (v : Value) (B : List Nat) (w : World) (hv : IsBytes w v B) (hl : B.length ≤ 4294967296) : Calls Try.prog 26 #[v] w (MadePost B w) := by
  obtain ⟨a, cap, rfl, hcap, hmax⟩ := hv.slice
  unfold maxLen at hmax
  have HV := Lib.hid hv
  cases a with
  | none =>
    have hB : B = [] := by
      obtain ⟨_, ⟨_, hB⟩ | ⟨x, c, he, _⟩⟩ := hv
      · exact hB
      · simp at he
    subst hB
    have hc : cap = 0 := by
      obtain ⟨_, ⟨he, _⟩ | ⟨x, c, he, _⟩⟩ := hv
      · simpa using he
      · simp at he
    subst hc
    clear hv HV
    have he : ∀ w : World, (binOp .eql 23 (.slice none 0 0) (.slice none 0 0)).run Try.prog w = .ok (.bool true) w := fun _ => rfl
    go_enter Try.func26, Try.ntmps26
    go_wp2_with fail
    go_ret
    exact ⟨_, rfl, own_nil _ _, Below.refl _ _⟩
  | some x =>
    clear hv
    have he : ∀ w : World, (binOp .eql 23 (.slice (some x) B.length cap) (.slice none 0 0)).run Try.prog w = .ok (.bool false) w := fun _ => rfl
    go_enter Try.func26, Try.ntmps26
    have hA : Below w.heap.size w (w.alloc (.cells #[] 5)) := (Below.refl _ _).alloc (Nat.le_refl _) _
    have HA := Lib.hid hA
    have hsz := hA.size
    have hO : (w.alloc (.cells #[] 5)).ownsRow w.heap.size 5 1 (.slice (some ⟨w.heap.size, 0, none⟩) 0 0) 0 [] := own_new w [] 5 (Nat.le_refl _) (by unfold maxLen; simp)
    have HO := Lib.hid hO
    have HV1 := Lib.hid (HV.out.below hA)
    clear hA hO HV
    go_wp2_with (at_builtin; refine wpList_append_bytes rfl (.tmp 5) (.tmp 6) rfl w.heap.size _ 0 [] rfl HO.out _ B rfl HV1.out (by omega) hsz ?_; intro v' w1 hown hgr)
    go_ret
    exact ⟨v', rfl, by simpa using hown, HA.out.grown hgr hsz (own_lt HO.out)⟩
set_option maxHeartbeats 400000 in
theorem stripes_any (n : Nat) (w : World) (hn : n ≤ 4611686018427387904) : Calls Try.prog 23 #[.int .i64 n] w fun e w' => e = .returned (.int .i64 ((n + 63) / 64 : Nat)) ∧ w = w' := by
  go_enter Try.func23, Try.ntmps23
  go_wp2
  go_ret
  refine ⟨ret_int ?_, rfl⟩
  omega
set_option maxHeartbeats 1000000 in
theorem add_any (vs vb : Value) (S B : List Nat) (w : World) (hs : w.ownsRow 0 5 1 vs S.length (u8s S)) (hb : IsBytes w vb B) (hl : B.length ≤ S.length) (hS : ∀ x ∈ S, x < 256) (hm : S.length ≤ 1000000)
    (hne : ∀ a m c, vb = .slice (some a) m c → 0 < B.length → some a.block ≠ vs.ownBlock) :
    Calls Try.prog 18 #[vs, vb] w fun e w' => e = .returned (.tuple #[]) ∧ w'.ownsRow 0 5 1 vs S.length (u8s (addP S B)) ∧ w.grownBy w' vs.ownBlock := by
  obtain ⟨sp, scap, rfl, hsc, hsm⟩ := ownsRow_slice hs
  obtain ⟨a, cap, rfl, hcap, hmax⟩ := hb.slice
  unfold maxLen at hmax hsm
  obtain ⟨N, hN⟩ : ∃ N, S.length = N := ⟨_, rfl⟩
  obtain ⟨n, hn⟩ : ∃ n, B.length = n := ⟨_, rfl⟩
  rw [hN] at hs hl hm hsc hne ⊢
  rw [hn] at hl hcap hne ⊢
  have hb' : IsBytes w (.slice a n cap) B := by rw [← hn]; exact hb
  have HN := Lib.hid hN
  have Hn := Lib.hid hn
  have HS := Lib.hid hs
  have HB := Lib.hid hb'
  have HX := Lib.hid hS
  have HNE := Lib.hid hne
  clear hN hn hs hb hb' hS hne
  go_enter Try.func18, Try.ntmps18
  go_wp2
  go_loopw [8] (fun x wr => ∃ i : Nat, i ≤ n ∧ x = .int .i64 i ∧ wr.ownsRow 0 5 1 (.slice sp N scap) N (u8s (addU S B i)) ∧ w.grownBy wr (Value.slice sp N scap).ownBlock) (fun x _ => n - (intOf x).toNat)
  case atStart => exact ⟨0, by omega, rfl, by rw [addU_zero]; exact HS.out, grownBy_refl _ _⟩
  case round =>
    obtain ⟨i, hi, rfl, ho, hg⟩ := hrel
    have HO := Lib.hid ho
    have HG := Lib.hid hg
    clear ho hg
    by_cases hlt : i < n
    · obtain ⟨g, cap2, hsp, _, _, _, _⟩ := own_open HO.out (by omega)
      simp at hsp
      obtain ⟨rfl, rfl⟩ := hsp
      have hB2 : IsBytes wr (.slice a n cap) B := HB.out.row HG.out (fun a' m c he h0 => HNE.out a' m c he (by rw [← Hn.out]; exact h0))
      obtain ⟨b, off, cap', hs2, _, _, _, hc⟩ := hB2.cells (by rw [Hn.out]; omega)
      rw [Hn.out] at hs2
      simp at hs2
      obtain ⟨rfl, rfl⟩ := hs2
      have c0 := hc i (by rw [Hn.out]; exact hlt)
      have c1 := own_cell HO.out (i := i) (by omega)
      rw [addU_get S B (by rw [HN.out]; omega)] at c1
      have f1 := World.ownsRow.frozenAt HO.out i
      have hx := getD_lt hB2.1 i
      have hy := getD_lt HX.out i
      have HST := Lib.hid (addU_step S B (i := i))
      generalize B.getD i 0 = x at *
      generalize S.getD i 0 = y at *
      have e1 : bits BinOp.xor IntKind.u8 (y : Int) (x : Int) = ((y ^^^ x : Nat) : Int) := u8_xor_nat _ _ hy hx
      have hiN : i < N := by omega
      clear hB2 hc hx hy
      generalize y ^^^ x = z at *
      go_wp2
      go_roundw
      case rel =>
        refine ⟨i + 1, by omega, by go_num, ?_, ?_⟩
        · have := (World.ownsRow.stored HO.out i (.int .u8 z)).1
          rw [u8s_set, HST.out] at this
          exact this
        · exact grownBy_trans HG.out (World.ownsRow.stored HO.out i (.int .u8 z)).2
      case measure => simp [intOf]; omega
    · obtain rfl : i = n := by omega
      go_wp2
      go_end0
      refine ⟨rfl, ?_, HG.out⟩
      have := HO.out
      rw [← Hn.out, addU_all] at this
      exact this
end Go.Proofs.Ytacgaflhcmflbaa

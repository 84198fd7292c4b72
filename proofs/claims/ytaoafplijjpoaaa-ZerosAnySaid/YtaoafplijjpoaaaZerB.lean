/- zeros.zeroBytes: a contract: its deferred closure finds no panic. -/
import Derived.Test.YtaoafplijjpoaaaInts
import Derived.Test.YtaoafplijjpoaaaPart
import Derived.Tactics
import Derived.Tactics2
import Derived.Defers
import Derived.Recover
import Derived.Laws.Pointers
set_option linter.unusedSimpArgs false
set_option linter.unusedVariables false
namespace Go.Proofs.Ytaoafplijjpoaaa
open Go.RowKit Pl

theorem caught_none (p : Addr) (x : Bool) (w : World) (hc : w.cell? p = some (.bool x)) (hz : w.frozen? p = false) :
    CallsD Try.prog 17 #[.pointer (some p)] .returning w fun e u' w' =>
      e = .returned (.tuple #[]) ∧ u' = .returning ∧ w' = w.setCell p (.bool true) := by
  refine callsD_of_wpS Try.func17 rfl fun c₀ cs hu => ?_
  apply wpS_region
  simp [wpOpsS, go_sem, recoverD, hu, Try.ntmps17, Exit.thenS, hc, hz]
  cases c₀
  simp_all [bodyPostS, results, Try.results17]

set_option maxHeartbeats 1000000 in
theorem zeroBytes_any (n : Nat) (w : World) (hn : n ≤ 4294967296) :
    Calls Try.prog 14 #[.int .i64 n] w fun e w' => ∃ g, e = .returned (.tuple #[.slice (some ⟨g, 0, none⟩) n n, .bool true]) ∧ w.heap.size ≤ g ∧ Blk w' g 5 (u8s (List.replicate n 0)) ∧ Below w.heap.size w w' := by
  have hmf : ∀ (fn : Fn) (first cap : Array Value) (w : World), (Instr.makeFunc fn first cap).run Try.prog w = .ok (.func fn first cap) w := fun _ _ _ _ => rfl
  obtain ⟨i0, hi, hz0, hz1, hz2⟩ := info_parts info5
  have Hi := Lib.hid hi
  have Hz0 := Lib.hid hz0
  have Hz1 := Lib.hid hz1
  have Hz2 := Lib.hid hz2
  clear hi hz0 hz1 hz2
  go_enter_defers Try.func14, Try.ntmps14
  go_wp2_with (at_make; refine wpList_make_full _ rfl _ _ 24 rfl w.heap.size 5 i0 (.int .u8 0) 1 Try.underlying24 Hi.out Hz0.out Hz1.out .i64 .i64 _ _ n rfl rfl rfl rfl (by rw [Hz2.out]; omega) (by unfold maxLen; omega) (by simp) ?_; intro w1 hown hgr; have HBk : Hid (Blk w1 w.heap.size 4 [.bool false]) := Lib.hid ((Blk.new w _ _).grown hgr (by simp)); have c0 : w1.cell? ⟨w.heap.size, 0, none⟩ = some (.bool false) := HBk.out.cell (by rfl); have f0 := HBk.out.frozen 0)
  refine leaves_cons (f := 17) (args := #[.pointer (some ⟨w.heap.size, 0, none⟩)]) (by simp) (by simp [go_sem]) ?_
  have hB2 := HBk.out.set 0 (.bool true)
  refine (caught_none ⟨w.heap.size, 0, none⟩ true _ (hB2.cell (by rfl)) (hB2.frozen 0)).mono ?_
  rintro e u' w'' ⟨rfl, rfl, rfl⟩
  have hB3 := hB2.set 0 (.bool true)
  have c3 := hB3.cell (o := 0) (by rfl)
  simp [Leaves, settle, results, Try.results14, go_sem]
  rw [c3]
  have hsz : (w.alloc (.cells #[.bool false] 4)).heap.size = w.heap.size + 1 := by simp
  rw [made_list, hsz] at hown
  have h1 := own_gr hown ((Gr.refl _ _).setCell 0 (.bool true)) HBk.out (by decide)
  have h2 := own_gr h1 ((Gr.refl _ _).setCell 0 (.bool true)) hB2 (by decide)
  refine ⟨_, rfl, _, rfl, by omega, ?_, ?_⟩
  · simpa [u8s] using made_blk h2
  · have hb1 : Below w.heap.size w w1 := ((Below.refl _ _).alloc (Nat.le_refl _) _).grown hgr (by simp) (by simp)
    exact (hb1.setCell (Nat.le_refl _) _).setCell (Nat.le_refl _) _
end Go.Proofs.Ytaoafplijjpoaaa

/- foliolaw13.do; slices of operations in memory. -/
import Derived.Test.YtdjcblboibbefaaDkX
set_option linter.unusedSimpArgs false
set_option linter.unusedVariables false
set_option maxRecDepth 100000
namespace Go.Proofs.Ytdjcblboibbefaa.S13
open Go.RowKit Go.Maps Go.Shelf Dk
/-- an operation -/
structure OpT where
  kind : Int
  n : Int
  name : ByteArray
  to' : ByteArray
  B : List Nat
  x : Nat
def doF (S : St) (o : OpT) : St × Nat :=
  if o.kind = 0 then create S o.name.data.toList else if o.kind = 1 then append S o.name.data.toList o.B else if o.kind = 2 then sync S o.name.data.toList
  else if o.kind = 3 then syncDir S else if o.kind = 4 then rename S o.name.data.toList o.to'.data.toList else if o.kind = 5 then remove S o.name.data.toList else rot S o.name.data.toList o.n o.x
def opL (o : OpT) (bv tv : Value) : List Value := [.int .i64 o.kind, .int .i64 o.n, .string o.name, .string o.to', bv, tv, .int .u8 (o.x : Nat)]
structure OpOk (w : World) (o : OpT) (bv : Value) : Prop where
  kind : (Lit.int .i64 o.kind).wf = true
  n : (Lit.int .i64 o.n).wf = true
  name : o.name.size ≤ maxLen
  to' : o.to'.size ≤ maxLen
  B : IsBytes w bv o.B
  x : o.x < 256
theorem OpPost.of {w w1 w' : World} {l : Lay} {S : St} {r : St × Nat} {e : Ending} (hb : Below w.heap.size w w1) (h : OpPost l S r w1 e w') : OpPost l S r w e w' := by
  obtain ⟨he, l', hp, hI, hS⟩ := h
  exact ⟨he, l', hp, hI, Lib.hid ((Step.ofBelow hb _).trans hS.out)⟩
set_option maxHeartbeats 32000000 in
theorem do_any (l : Lay) (S : St) (o : OpT) (a t : Option Addr) (N cap tl tc : Nat) (w : World) (h : IsFS w l S) (hc : S.calls ≤ 1099511627776) (ho : OpOk w o (.slice a N cap)) (hB : o.B.length ≤ 1000000) :
    Calls Try.prog 25 #[fsP l, .agg (opL o (.slice a N cap) (.slice t tl tc)).toArray] w (OpPost l S (doF S o) w) := by
  obtain ⟨w1, hw1⟩ : ∃ w1, w.alloc (.cells (opL o (.slice a N cap) (.slice t tl tc)).toArray 42) = w1 := ⟨_, rfl⟩
  have hb1 : Below w.heap.size w w1 := by rw [← hw1]; exact (Below.refl _ _).alloc (Nat.le_refl _) _
  have hk1 : Blk w1 w.heap.size 42 (opL o (.slice a N cap) (.slice t tl tc)) := by rw [← hw1]; exact Blk.new w _ _
  have hI := h.below hb1
  have hB1 := ho.B.below hb1
  have c0 : w1.cell? ⟨w.heap.size, 0, none⟩ = some (.int .i64 o.kind) := hk1.cell rfl
  have c1 : w1.cell? ⟨w.heap.size, 1, none⟩ = some (.int .i64 o.n) := hk1.cell rfl
  have c2 : w1.cell? ⟨w.heap.size, 2, none⟩ = some (.string o.name) := hk1.cell rfl
  have c3 : w1.cell? ⟨w.heap.size, 3, none⟩ = some (.string o.to') := hk1.cell rfl
  have c4 : w1.cell? ⟨w.heap.size, 4, none⟩ = some (.slice a N cap) := hk1.cell rfl
  have c6 : w1.cell? ⟨w.heap.size, 6, none⟩ = some (.int .u8 (o.x : Nat)) := hk1.cell rfl
  obtain ⟨kind, n, name, to', B, x⟩ := o
  simp only [opL] at hw1 c0 c1 c2 c3 c4 c6 ⊢
  simp only at hB hB1
  have hnm := ho.name
  have hto := ho.to'
  have hnw := ho.n
  have hx := ho.x
  simp only at hnm hto hnw hx
  have HB1 := Lib.hid hb1
  have HI := Lib.hid hI
  have HBB := Lib.hid hB1
  clear h ho hb1 hk1 hI hB1
  by_cases k0 : kind = 0
  · subst k0
    have hres : doF S ⟨0, n, name, to', B, x⟩ = create S name.data.toList := by unfold doF; simp
    rw [hres]
    have hcall := create_any l S name w1 HI.out hnm hc
    clear HI HBB hres
    go_enter Try.func25, Try.ntmps25
    go_wp2_with fail
    refine hcall.mono ?_
    rintro e w2 ⟨rfl, hg⟩
    have HG := Lib.hid hg
    clear hcall hg hw1
    unfold errV
    go_wp2_with fail
    go_ret
    exact OpPost.of HB1.out ⟨rfl, HG.out⟩
  by_cases k1 : kind = 1
  · subst k1
    have hres : doF S ⟨1, n, name, to', B, x⟩ = Dk.append S name.data.toList B := by unfold doF; simp
    rw [hres]
    have hcall := append_any l S name (.slice a N cap) B w1 HI.out hnm hc HBB.out hB (fs_bytes HI.out HBB.out)
    clear HI HBB hres
    go_enter Try.func25, Try.ntmps25
    go_wp2_with fail
    refine hcall.mono ?_
    rintro e w2 ⟨rfl, hg⟩
    have HG := Lib.hid hg
    clear hcall hg hw1
    unfold errV
    go_wp2_with fail
    go_ret
    exact OpPost.of HB1.out ⟨rfl, HG.out⟩
  by_cases k2 : kind = 2
  · subst k2
    have hres : doF S ⟨2, n, name, to', B, x⟩ = sync S name.data.toList := by unfold doF; simp
    rw [hres]
    have hcall := sync_any l S name w1 HI.out hnm hc
    clear HI HBB hres
    go_enter Try.func25, Try.ntmps25
    go_wp2_with fail
    refine hcall.mono ?_
    rintro e w2 ⟨rfl, hg⟩
    have HG := Lib.hid hg
    clear hcall hg hw1
    unfold errV
    go_wp2_with fail
    go_ret
    exact OpPost.of HB1.out ⟨rfl, HG.out⟩
  by_cases k3 : kind = 3
  · subst k3
    have hres : doF S ⟨3, n, name, to', B, x⟩ = syncDir S := by unfold doF; simp
    rw [hres]
    have hcall := syncDir_any l S w1 HI.out hc
    clear HI HBB hres
    go_enter Try.func25, Try.ntmps25
    go_wp2_with fail
    refine hcall.mono ?_
    rintro e w2 ⟨rfl, hg⟩
    have HG := Lib.hid hg
    clear hcall hg hw1
    unfold errV
    go_wp2_with fail
    go_ret
    exact OpPost.of HB1.out ⟨rfl, HG.out⟩
  by_cases k4 : kind = 4
  · subst k4
    have hres : doF S ⟨4, n, name, to', B, x⟩ = rename S name.data.toList to'.data.toList := by unfold doF; simp
    rw [hres]
    have hcall := rename_any l S name to' w1 HI.out hnm hto hc
    clear HI HBB hres
    go_enter Try.func25, Try.ntmps25
    go_wp2_with fail
    refine hcall.mono ?_
    rintro e w2 ⟨rfl, hg⟩
    have HG := Lib.hid hg
    clear hcall hg hw1
    unfold errV
    go_wp2_with fail
    go_ret
    exact OpPost.of HB1.out ⟨rfl, HG.out⟩
  by_cases k5 : kind = 5
  · subst k5
    have hres : doF S ⟨5, n, name, to', B, x⟩ = remove S name.data.toList := by unfold doF; simp
    rw [hres]
    have hcall := remove_any l S name w1 HI.out hnm hc
    clear HI HBB hres
    go_enter Try.func25, Try.ntmps25
    go_wp2_with fail
    refine hcall.mono ?_
    rintro e w2 ⟨rfl, hg⟩
    have HG := Lib.hid hg
    clear hcall hg hw1
    unfold errV
    go_wp2_with fail
    go_ret
    exact OpPost.of HB1.out ⟨rfl, HG.out⟩
  have hres : doF S ⟨kind, n, name, to', B, x⟩ = rot S name.data.toList n x := by unfold doF; simp only [k0, k1, k2, k3, k4, k5, if_false]
  have q0 : (kind == 0) = false := beq_f k0
  have q1 : (kind == 1) = false := beq_f k1
  have q2 : (kind == 2) = false := beq_f k2
  have q3 : (kind == 3) = false := beq_f k3
  have q4 : (kind == 4) = false := beq_f k4
  have q5 : (kind == 5) = false := beq_f k5
  rw [hres]
  have hcall := rot_any l S name n x w1 HI.out hnm hx hnw
  clear HI HBB hres
  go_enter Try.func25, Try.ntmps25
  go_wp2_with fail
  refine hcall.mono ?_
  rintro e w2 ⟨rfl, hg⟩
  have HG := Lib.hid hg
  clear hcall hg hw1
  unfold errV
  go_wp2_with fail
  go_ret
  exact OpPost.of HB1.out ⟨rfl, HG.out⟩
end Go.Proofs.Ytdjcblboibbefaa.S13

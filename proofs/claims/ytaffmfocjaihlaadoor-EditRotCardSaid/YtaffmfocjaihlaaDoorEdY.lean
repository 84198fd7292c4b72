/- EditRot: what it has put together, and what a scan tells of it; lemmas without a walk. -/
import Derived.Test.YtaffmfocjaihlaaDoorEdR
import Derived.Test.YtaffmfocjaihlaaDoorEdK
set_option linter.unusedSimpArgs false
set_option linter.unusedVariables false
set_option maxRecDepth 100000
namespace Go.Proofs.YtaffmfocjaihlaaDoor.S18
open Go.RowKit S2.Pl S3 S3.Pl
def endsF (G : List ED) : List Int := (List.range G.length).map fun k => ((encs (G.take (k + 1))).length : Int)
theorem endsF_length (G : List ED) : (endsF G).length = G.length := by simp [endsF]
theorem endsF_snoc (G : List ED) (e : ED) : endsF (G ++ [e]) = endsF G ++ [((encs (G ++ [e])).length : Int)] := by
  unfold endsF
  rw [List.length_append, List.length_singleton, List.range_succ, List.map_append]
  congr 1
  · apply List.map_congr_left
    intro k hk
    rw [List.mem_range] at hk
    rw [List.take_append_of_le_length (by omega)]
  · simp only [List.map_cons, List.map_nil]
    rw [List.take_of_length_le (by simp)]
theorem endsF_getD {G : List ED} {k : Nat} (h : k < G.length) : (endsF G).getD k 0 = ((encs (G.take (k + 1))).length : Int) := by
  unfold endsF
  simp [List.getD, h]
/-- what a scan of the bytes tells, for the number that fits -/
def Got (G : List ED) (C : Nat) (B : List Nat) (s : Bool) (z : Int) : Prop := ∀ k, k ≤ G.length → (encs (G.take k)).length ≤ C → (s = true → ((encs (G.take k)).length : Int) ≤ z) → (k < G.length → C < (encs (G.take (k + 1))).length ∨ (s = true ∧ z < ((encs (G.take (k + 1))).length : Int))) → ∃ o, scanE B = (G.take k, (encs (G.take k)).length, o) ∧ (s = false → o = true)
theorem Got.cut {G : List ED} (hG : ∀ e ∈ G, Fine e) {C : Nat} (hC : C ≤ (encs G).length) (z : Int) : Got G C ((encs G).take C) false z := fun k _ h1 _ h3 =>
  ⟨true, cut_scan hG hC h1 (fun h => by
    rcases h3 h with h | ⟨h, _⟩
    · exact h
    · cases h), fun _ => rfl⟩
theorem Got.rot {G : List ED} (hG : ∀ e ∈ G, Fine e) {C i y : Nat} (hC : C ≤ (encs G).length) (hi : i < C) (hy : y < 256) (hne : y ≠ ((encs G).take C).getD i 0) : Got G C (((encs G).take C).set i y) true (i : Nat) := fun k _ h1 h2 h3 => by
  obtain ⟨o, ho⟩ := rot_scan hG (k := k) hC hi (by have := h2 rfl; omega) (fun h => by have := h3 h; omega) hy hne
  exact ⟨o, ho, fun h => by cases h⟩
theorem take_getD {B : List Nat} {C i : Nat} (h : i < C) : (B.take C).getD i 0 = B.getD i 0 := by
  rw [List.getD_eq_getElem?_getD, List.getElem?_take_of_lt h, ← List.getD_eq_getElem?_getD]
theorem run_uptoO {w : World} {sp : Option Addr} {N cap : Nat} {B : List Nat} (hv : IsBytes w (.slice sp N cap) B) {n : Nat} (hn : n ≤ N) (W : World) :
    (sliceU8 (.slice sp N cap) none (some (.int .i64 n)) none).run Tryd.prog W = .ok (.slice sp n cap) W := by
  obtain ⟨a, c, he, hcap, hmax⟩ := hv.slice
  simp at he
  obtain ⟨rfl, rfl, rfl⟩ := he
  unfold sliceU8
  rw [run_sliceAt_slice _ _ _ _ _ _ und_u8s, run_slice_h _ _ _ _ _ und_u8s _ _ (by omega) (by omega), run_size_u8, Int.toNat_natCast]
  simp only [Result.andThen, sliced, Nat.sub_zero]
  have : (if cap = 0 then sp else sp.map (·.add (0 * 1))) = sp := by
    split
    · rfl
    · cases sp with
      | none => rfl
      | some x => simp [addr_zero]
  rw [this]
theorem own_tyG {base : Nat} {w : World} {e : TypeId} {k : Nat} {v : Value} {n : Nat} {xs : List Value} (h : w.ownsRow base e k v n xs) : ∀ b, v.ownBlock = some b → ∃ c, Blk w b e c := by
  obtain ⟨_, ⟨rfl, _⟩ | ⟨g, cap, cur, rfl, _, hh, _⟩⟩ := h
  · intro b hb; cases hb
  · intro b hb
    simp [Value.ownBlock] at hb
    subst hb
    exact ⟨cur.toList, by unfold Blk; simpa using hh⟩
theorem cd_keep {B0 base : Nat} {w w' : World} {r : Option Nat} (hg : w.grownBy w' r) (hr : ∀ g, r = some g → B0 ≤ g ∧ ∃ t c, t ≠ 49 ∧ Blk w g t c) : Keep (CD B0 base w) (CD B0 base w') w w' := by
  intro b hb hl
  rcases hb with hb | hb
  · exact ⟨.inl hb, hg.block b hl fun e => by have := (hr b e.symm).1; omega⟩
  · obtain ⟨h1, h2⟩ := keep_ty hg (fun g e => by obtain ⟨_, t, c, ht, hk⟩ := hr g e; exact .inr ⟨t, c, by simpa using ht, hk⟩) b hb hl
    exact ⟨.inr h1, h2⟩
theorem cd_low {B0 base base' : Nat} {w : World} (h : base' ≤ base) : Keep (CD B0 base w) (CD B0 base' w) w w := keep_weak fun b hb hl => by
  rcases hb with hb | ⟨h1, h2⟩
  · exact .inl hb
  · exact .inr ⟨Nat.le_trans h h1, h2⟩
theorem cd_below {B0 base : Nat} {w w' : World} (hb : Below w.heap.size w w') : Keep (CD B0 base w) (CD B0 base w') w w' := cd_keep (gr_below hb) (by simp)
/-- the three rows that EditRot puts together -/
structure Rot3 (B0 : Nat) (w1 W : World) (vb ve vm : Value) (B : List Nat) (E : List Int) (M : List ED) : Prop where
  bytes : Sofar w1 W vb B
  ends : OwnD w1.heap.size 3 1 numC W ve E
  mm : OwnD w1.heap.size 26 6 (edC (CD B0 w1.heap.size W) W) W vm M
theorem Rot3.start (B0 : Nat) (w1 : World) : Rot3 B0 w1 w1 (.slice none 0 0) (.slice none 0 0) (.slice none 0 0) [] [] [] :=
  ⟨⟨World.ownsRow_nil _ _ _ _, Below.refl _ _⟩, OwnD.nil _ _ _ _ _, OwnD.nil _ _ _ _ _⟩
theorem Rot3.below {B0 : Nat} {w1 W W' : World} {vb ve vm : Value} {B : List Nat} {E : List Int} {M : List ED} (h : Rot3 B0 w1 W vb ve vm B E M) (hb : Below W.heap.size W W') : Rot3 B0 w1 W' vb ve vm B E M :=
  ⟨h.bytes.below hb, OwnD.below h.ends hb fun _ _ h => h, OwnD.below h.mm hb fun x c h => edC.keep h (cd_below hb)⟩
theorem Rot3.appB {B0 : Nat} {w1 W W' : World} {vb ve vm v' : Value} {B C : List Nat} {E : List Int} {M : List ED} (h : Rot3 B0 w1 W vb ve vm B E M) (h0 : B0 ≤ w1.heap.size) (ho : W'.ownsRow w1.heap.size 5 1 v' (B.length + C.length) (u8s B ++ u8s C)) (hg : W.grownBy W' vb.ownBlock) : Rot3 B0 w1 W' v' ve vm (B ++ C) E M :=
  ⟨h.bytes.app ho hg,
   OwnD.keep h.ends hg (fun b hb e => by
     obtain ⟨c1, k1⟩ := own_tyG h.bytes.1 b e
     obtain ⟨c2, k2⟩ := OwnD.ty h.ends b hb
     exact k1.ne k2 (by decide) rfl) fun _ _ h => h,
   OwnD.keep h.mm hg (fun b hb e => by
     obtain ⟨c1, k1⟩ := own_tyG h.bytes.1 b e
     obtain ⟨c2, k2⟩ := OwnD.ty h.mm b hb
     exact k1.ne k2 (by decide) rfl) fun x c q => edC.keep q (cd_keep hg fun g e => by
     obtain ⟨c1, k1⟩ := own_tyG h.bytes.1 g e
     exact ⟨Nat.le_trans h0 (World.ownsRow.lt h.bytes.1 g e).1, _, c1, by decide, k1⟩)⟩
theorem Rot3.appE {B0 : Nat} {w1 W W' : World} {vb ve vm v' : Value} {B : List Nat} {E E' : List Int} {M : List ED} {o : Obj} (h : Rot3 B0 w1 W vb ve vm B E M) (h0 : B0 ≤ w1.heap.size) (ho : OwnD w1.heap.size 3 1 numC W' v' E') (hg : (W.alloc o).grownBy W' ve.ownBlock) : Rot3 B0 w1 W' vb v' vm B E' M := by
  have hA := h.below ((Below.refl W.heap.size W).alloc (Nat.le_refl _) o)
  exact ⟨⟨own_keepD hA.bytes.1 hg (fun b hb e => by
     obtain ⟨c1, k1⟩ := own_tyG hA.bytes.1 b hb
     obtain ⟨c2, k2⟩ := OwnD.ty hA.ends b e
     exact k1.ne k2 (by decide) rfl), hA.bytes.2.grown hg hA.bytes.2.size fun k hk => (OwnD.lt hA.ends k hk).1⟩, ho,
   OwnD.keep hA.mm hg (fun b hb e => by
     obtain ⟨c1, k1⟩ := OwnD.ty hA.ends b e
     obtain ⟨c2, k2⟩ := OwnD.ty hA.mm b hb
     exact k1.ne k2 (by decide) rfl) fun x c q => edC.keep q (cd_keep hg fun g e => by
     obtain ⟨c1, k1⟩ := OwnD.ty hA.ends g e
     exact ⟨Nat.le_trans h0 (OwnD.lt hA.ends g e).1, _, c1, by decide, k1⟩)⟩
theorem Rot3.appM {B0 : Nat} {w1 W W' : World} {vb ve vm v' : Value} {B : List Nat} {E : List Int} {M M' : List ED} {o : Obj} (h : Rot3 B0 w1 W vb ve vm B E M) (h0 : B0 ≤ w1.heap.size) (ho : OwnD w1.heap.size 26 6 (edC (CD B0 w1.heap.size W) W) W' v' M') (hg : (W.alloc o).grownBy W' vm.ownBlock) : Rot3 B0 w1 W' vb ve v' B E M' := by
  have hB := (Below.refl W.heap.size W).alloc (Nat.le_refl _) o
  have hA := h.below hB
  exact ⟨⟨own_keepD hA.bytes.1 hg (fun b hb e => by
     obtain ⟨c1, k1⟩ := own_tyG hA.bytes.1 b hb
     obtain ⟨c2, k2⟩ := OwnD.ty hA.mm b e
     exact k1.ne k2 (by decide) rfl), hA.bytes.2.grown hg hA.bytes.2.size fun k hk => (OwnD.lt hA.mm k hk).1⟩,
   OwnD.keep hA.ends hg (fun b hb e => by
     obtain ⟨c1, k1⟩ := OwnD.ty hA.mm b e
     obtain ⟨c2, k2⟩ := OwnD.ty hA.ends b hb
     exact k1.ne k2 (by decide) rfl) fun _ _ h => h,
   OwnD.map ho fun x c q => edC.keep (edC.keep q (cd_below hB)) (cd_keep hg fun g e => by
     obtain ⟨c1, k1⟩ := OwnD.ty hA.mm g e
     exact ⟨Nat.le_trans h0 (OwnD.lt hA.mm g e).1, _, c1, by decide, k1⟩)⟩
theorem Rot3.sizes {B0 : Nat} {w1 W : World} {vb ve vm : Value} {B : List Nat} {E : List Int} {M : List ED} (h : Rot3 B0 w1 W vb ve vm B E M) :
    ∃ sb cb se ce sm cm, vb = .slice sb B.length cb ∧ ve = .slice se E.length ce ∧ vm = .slice sm M.length cm := by
  obtain ⟨sb, cb, h1, _, _⟩ := ownsRow_slice h.bytes.1
  obtain ⟨se, ce, h2, _, _⟩ := OwnD.slice h.ends
  obtain ⟨sm, cm, h3, _, _⟩ := OwnD.slice h.mm
  exact ⟨sb, cb, se, ce, sm, cm, h1, h2, h3⟩
/-- what is read of them afterwards -/
structure Rd3 (W : World) (vb ve vm : Value) (B : List Nat) (E : List Int) (M : List ED) : Prop where
  bytes : IsBytes W vb B
  ends : IsNums (fun _ => True) W ve E
  mm : IsEds (fun _ => True) W vm M
theorem Rd3.below {W W' : World} {vb ve vm : Value} {B : List Nat} {E : List Int} {M : List ED} (h : Rd3 W vb ve vm B E M) (hb : Below W.heap.size W W') : Rd3 W' vb ve vm B E M :=
  ⟨h.bytes.below hb, h.ends.keep' (keep_below hb), RowD.keep h.mm (keep_below hb) fun x c q => edC.keep q (keep_below hb)⟩
theorem Rot3.rd {B0 : Nat} {w1 W : World} {sb : Option Addr} {n cb : Nat} {ve vm : Value} {B : List Nat} {E : List Int} {M : List ED} (h : Rot3 B0 w1 W (.slice sb n cb) ve vm B E M) (hx : ∀ x ∈ B, x < 256) : Rd3 W (.slice sb n cb) ve vm B E M :=
  ⟨h.bytes.is hx, OwnD.row h.ends fun _ _ _ _ => trivial, RowD.keep (OwnD.row h.mm (D := fun _ => True) fun _ _ _ _ => trivial) (keep_weak fun _ _ _ => trivial) fun x c q => edC.keep q (keep_weak fun _ _ _ => trivial)⟩
theorem is_take {W : World} {sb : Option Addr} {n cb C : Nat} {B : List Nat} (h : IsBytes W (.slice sb n cb) B) (hC : C ≤ n) : IsBytes W (.slice sb C cb) (B.take C) := by
  obtain ⟨a, c, he, _, _⟩ := h.slice
  simp at he
  obtain ⟨rfl, rfl, rfl⟩ := he
  exact h.take C hC
theorem Rd3.cut {W : World} {sb : Option Addr} {n cb C : Nat} {ve vm : Value} {B : List Nat} {E : List Int} {M : List ED} (h : Rd3 W (.slice sb n cb) ve vm B E M) (hC : C ≤ n) : Rd3 W (.slice sb C cb) ve vm (B.take C) E M := ⟨is_take h.bytes hC, h.ends, h.mm⟩
/-- one byte is put -/
theorem Rot3.put {B0 : Nat} {w1 W : World} {sb : Option Addr} {n cb : Nat} {ve vm : Value} {B : List Nat} {E : List Int} {M : List ED} (h : Rot3 B0 w1 W (.slice sb n cb) ve vm B E M) (h0 : B0 ≤ w1.heap.size) {i : Nat} (hi : i < n) (y : Nat) :
    ∃ g, sb = some ⟨g, 0, none⟩ ∧ W.cell? ⟨g, i, none⟩ = some (.int .u8 (B.getD i 0 : Nat)) ∧ W.frozen? ⟨g, i, none⟩ = false ∧ Rot3 B0 w1 (W.setCell ⟨g, i, none⟩ (.int .u8 (y : Nat))) (.slice sb n cb) ve vm (B.set i y) E M := by
  obtain ⟨a, c, he, _, _⟩ := ownsRow_slice h.bytes.1
  simp at he
  obtain ⟨rfl, hn, rfl⟩ := he
  have hb := h.bytes.1
  rw [← hn] at hb
  obtain ⟨g, cp3, hge, hg, hgl, hnc, hcm⟩ := own_open hb (by omega)
  simp at hge
  obtain ⟨rfl, rfl⟩ := hge
  have c0 := own_cell hb hi
  have f0 := hb.frozenAt i
  have hst := hb.stored i (.int .u8 (y : Nat))
  rw [u8s_set] at hst
  have hk := own_tyG hb g (by simp [Value.ownBlock])
  obtain ⟨ck, hk⟩ := hk
  refine ⟨g, rfl, c0, f0, ⟨by rw [List.length_set, ← hn]; exact hst.1, h.bytes.2.grown hst.2 h.bytes.2.size (by intro k hk; simp at hk; omega)⟩, ?_, ?_⟩
  · exact OwnD.keep h.ends hst.2 (fun b hb2 e => by
      simp at e
      subst e
      obtain ⟨c2, k2⟩ := OwnD.ty h.ends _ hb2
      exact hk.ne k2 (by decide) rfl) fun _ _ h => h
  · exact OwnD.keep h.mm hst.2 (fun b hb2 e => by
      simp at e
      subst e
      obtain ⟨c2, k2⟩ := OwnD.ty h.mm _ hb2
      exact hk.ne k2 (by decide) rfl) fun x c q => edC.keep q (cd_keep hst.2 fun g' e => by
      simp at e
      subst e
      exact ⟨Nat.le_trans h0 hg, _, ck, by decide, hk⟩)
theorem infoJ : (Tryd.prog.info? 3).map (fun i => (i.zero, i.size, i.bytes)) = some (some (.int .i64 0), 1, 8) := by kernel_rfl
end Go.Proofs.YtaffmfocjaihlaaDoor.S18

/- Bytes that came in, cut short; owned bytes; a reader's and a writer's bytes (as Short, behind Cel). -/
import Derived.Test.YtijjpbpoekbekaaCel
namespace Go.Proofs.Ytijjpbpoekbekaa
open Go.RowKit Pl

def bytesZ (zs : List Int) (n : Nat) : List Nat := (zs.take n).map Int.toNat
theorem u8_wf {x : Int} (h : (Lit.int .u8 x).wf = true) : 0 ≤ x ∧ x < 256 := by
  simp [Lit.wf, IntKind.min, IntKind.max, IntKind.signed, IntKind.bits] at h
  omega
theorem isBytes_row {w : World} {a : Option Addr} {len cap : Nat} {zs : List Int} (h : IsRow .u8 w a len cap zs) : IsBytes w (.slice a len cap) (bytesZ zs len) ∧ (bytesZ zs len).length = len := by
  rcases h with ⟨rfl, rfl, rfl, rfl⟩ | ⟨x, rfl, h1, h2, h3, hc, hw⟩
  · exact ⟨⟨by simp [bytesZ], .inl ⟨rfl, rfl⟩⟩, rfl⟩
  · have hl : (bytesZ zs len).length = len := by simp [bytesZ]; omega
    refine ⟨⟨?_, .inr ⟨x, cap, by rw [hl], by omega, h2, ?_⟩⟩, hl⟩
    · intro y hy
      simp only [bytesZ, List.map_take] at hy
      have hy := List.mem_of_mem_take hy
      simp only [List.mem_map] at hy
      obtain ⟨z, hz, rfl⟩ := hy
      have := u8_wf (hw z hz)
      omega
    · intro i u hu
      have hi : i < len := by
        have := (List.getElem?_eq_some_iff.1 hu).1
        rw [u8s_length, hl] at this; exact this
      rw [hc i (by omega)]
      rw [u8s_get _ _ (by rw [hl]; exact hi)] at hu
      rw [← hu]
      have hz : zs.getD i 0 ∈ zs := by rw [List.getD_eq_getElem?_getD, List.getElem?_eq_getElem (by omega)]; exact List.getElem_mem _
      have hb := u8_wf (hw _ hz)
      have e : (bytesZ zs len).getD i 0 = (zs.getD i 0).toNat := by
        simp only [bytesZ, List.getD_eq_getElem?_getD, List.getElem?_map, List.getElem?_take_of_lt hi]
        rw [List.getElem?_eq_getElem (by omega)]
        simp
      rw [e, Int.toNat_of_nonneg hb.1]
theorem isBytes_own {w : World} {base : Nat} {sp : Option Addr} {cap : Nat} {B : List Nat} (hx : ∀ x ∈ B, x < 256) (h : w.ownsRow base 5 1 (.slice sp B.length cap) B.length (u8s B)) : IsBytes w (.slice sp B.length cap) B := by
  refine ⟨hx, ?_⟩
  obtain ⟨hl, ⟨he, h0⟩ | ⟨g, cap', cur, hv, _, hh, hn, hm, hs, ht⟩⟩ := h
  · have hB : B = [] := List.eq_nil_of_length_eq_zero h0
    subst hB
    exact .inl ⟨he, rfl⟩
  · simp at hv
    obtain ⟨rfl, rfl⟩ := hv
    refine .inr ⟨⟨g, 0, none⟩, cap, rfl, hn, hm, fun i u hu => ?_⟩
    have hadd : (⟨g, 0, none⟩ : Addr).add i = ⟨g, i, none⟩ := by unfold Addr.add; split <;> simp_all
    rw [hadd]
    have hi := (List.getElem?_eq_some_iff.1 hu).1
    rw [u8s_length] at hi
    rw [← ht, List.getElem?_take_of_lt (by omega)] at hu
    simp [World.cell?, hh]
    simpa using hu
theorem IsBytes.slice {w : World} {v : Value} {B : List Nat} (h : IsBytes w v B) : ∃ a cap, v = .slice a B.length cap ∧ B.length ≤ cap ∧ cap ≤ maxLen := by
  obtain ⟨_, ⟨rfl, rfl⟩ | ⟨a, cap, rfl, h1, h2, _⟩⟩ := h
  · exact ⟨none, 0, rfl, Nat.le_refl _, by unfold maxLen; omega⟩
  · exact ⟨some a, cap, rfl, h1, h2⟩
theorem IsBytes.take {w : World} {a : Option Addr} {cap : Nat} {B : List Nat} (h : IsBytes w (.slice a B.length cap) B) (n : Nat) (hn : n ≤ B.length) : IsBytes w (.slice a n cap) (B.take n) := by
  have hl : (B.take n).length = n := by rw [List.length_take]; omega
  obtain ⟨hx, ⟨he, rfl⟩ | ⟨x, c, he, h1, h2, hc⟩⟩ := h
  · simp at he hn
    obtain ⟨rfl, rfl⟩ := he
    subst hn
    exact ⟨by simp, .inl ⟨rfl, rfl⟩⟩
  · simp at he
    obtain ⟨rfl, rfl⟩ := he
    refine ⟨fun y hy => hx y (List.mem_of_mem_take hy), .inr ⟨x, cap, by rw [hl], by omega, h2, fun i u hu => hc i u ?_⟩⟩
    have hi := (List.getElem?_eq_some_iff.1 hu).1
    rw [u8s_length, hl] at hi
    simp only [u8s, List.map_take] at hu ⊢
    rwa [List.getElem?_take_of_lt hi] at hu

def ShortPost (B : List Nat) (n : Nat) (w : World) (e : Ending) (w' : World) : Prop := ∃ v', e = .returned v' ∧ IsBytes w v' (B.take n) ∧ w = w'
theorem short_any (v : Value) (B : List Nat) (n : Nat) (w : World) (hv : IsBytes w v B) (hn : n ≤ 4294967296) :
    Calls Try.prog 23 #[v, .int .i64 n] w (ShortPost B n w) := by
  obtain ⟨a, cap, rfl, hcap, hmax⟩ := hv.slice
  unfold maxLen at hmax
  have HV := Lib.hid hv
  clear hv
  by_cases h : n < B.length
  · have h1 : (n : Int) ≤ (cap : Int) := by omega
    go_enter Try.func23, Try.ntmps23
    go_wp2
    go_ret
    exact ⟨_, rfl, HV.out.take n (by omega), rfl⟩
  · go_enter Try.func23, Try.ntmps23
    go_wp2
    go_ret
    exact ⟨_, rfl, by rw [List.take_of_length_le (by omega)]; exact HV.out, rfl⟩

theorem getD_lt {B : List Nat} (hx : ∀ x ∈ B, x < 256) (i : Nat) : B.getD i 0 < 256 := by
  by_cases h : i < B.length
  · exact hx _ (by rw [List.getD_eq_getElem?_getD, List.getElem?_eq_getElem h]; exact List.getElem_mem h)
  · rw [List.getD_eq_getElem?_getD, List.getElem?_eq_none (by omega)]; simp
theorem take_byte (B : List Nat) (j : Nat) (hj : j < B.length) (hx : ∀ x ∈ B, x < 256) : Go.Proofs.Ytijjpbpoekbekaa.take B (8 * j) 8 = B.getD j 0 := by
  have h := read_step B (8 * j) 8 (by omega) (by omega)
  unfold Go.Proofs.Ytijjpbpoekbekaa.take
  rw [← h]
  have hb := getD_lt hx j
  rw [show 8 * j / 8 = j by omega, show 8 - 8 * j % 8 - 8 = 0 by omega, Nat.shiftRight_zero, Nat.mod_eq_of_lt (by omega)]
theorem bytesOf_bitsB (B : List Nat) (hx : ∀ x ∈ B, x < 256) : bytesOf (bitsB B) = B := by
  apply List.ext_getElem?
  intro i
  by_cases h : i < B.length
  · have e : byteAt (bitsB B) i = B[i] := by
      apply Nat.eq_of_testBit_eq
      intro k
      rw [byteAt_testBit]
      by_cases hk : k < 8
      · have h1 := bitsB_get B i (7 - k) h (by omega)
        simp only [List.getD, h1, hk, decide_true, Bool.true_and]
        rw [show 7 - (7 - k) = k by omega]
        simp [h]
      · have hb : B[i] < 2 ^ k := Nat.lt_of_lt_of_le (hx _ (List.getElem_mem h)) (by
          have : (2 : Nat) ^ 8 ≤ 2 ^ k := Nat.pow_le_pow_right (by omega) (by omega)
          simpa using this)
        rw [Nat.testBit_lt_two_pow hb]
        simp [hk]
    have hl : i < (bytesOf (bitsB B)).length := by rw [bytesOf_length, bitsB_length]; omega
    rw [List.getElem?_eq_getElem hl, List.getElem?_eq_getElem h]
    congr 1
    simp [bytesOf, e]
  · rw [List.getElem?_eq_none (by rw [bytesOf_length, bitsB_length]; omega), List.getElem?_eq_none (by omega)]
theorem bitsB_take_succ (B : List Nat) (k : Nat) (h : k < B.length) : bitsB (B.take (k + 1)) = bitsB (B.take k) ++ bitsOf (B.getD k 0) 8 := by
  rw [List.take_succ_eq_append_getElem h]
  unfold bitsB
  rw [List.flatMap_append, List.flatMap_cons, List.flatMap_nil, List.append_nil, List.getD_eq_getElem?_getD, List.getElem?_eq_getElem h]
  rfl

/-- append(own, src...) of bytes, whatever the source: nil or not -/
theorem wpList_append_bytes {w : World} {ops : Array Oper} {rest : List Oper} {o : Oper} {a : Act} {Q : Exit → Act → World → Prop} (hgd : o.guard = none) (s x : Operand)
    (ho : o.op = .call { callee := .builtin .append, args := #[s, x], argTypes := #[47, 47] })
    (base : Nat) (v : Value) (n : Nat) (xs : List Value) (hs : a.eval s = v) (hown : w.ownsRow base 5 1 v n xs)
    (src : Value) (B : List Nat) (hx : a.eval x = src) (hsrc : IsBytes w src B)
    (hbytes : n + B.length ≤ 140737488355328) (hbase : base ≤ w.heap.size)
    (h : ∀ v' w', w'.ownsRow base 5 1 v' (n + B.length) (xs ++ u8s B) → w.grownBy w' v.ownBlock → wpList Try.prog ops Q rest (a.put o.dst v') w') : wpList Try.prog ops Q (o :: rest) a w := by
  obtain ⟨i0, hi, hz0, hz1, hz2⟩ := info_parts info5
  obtain ⟨_, ⟨rfl, rfl⟩ | ⟨ad, cap, rfl, h1, h2, hc⟩⟩ := hsrc
  · refine wpList_append_own_none hgd s x _ ho base 5 i0 1 Try.underlying47 hi v n xs hs hown hx ?_
    exact h v w (by simpa [u8s] using hown) (grownBy_refl _ _)
  · refine wpList_append_own w hgd s x _ ho base 5 i0 (.int .u8 0) 1 1 Try.underlying47 hi hz0 hz1 hz2 rfl (by decide) v n xs hs hown ad B.length cap (u8s B) hx (by rw [u8s_length, Nat.mul_one]) hc (u8s_one B) (by unfold maxLen; omega) (by omega) hbase ?_
    exact fun v' w' h3 h4 _ => h v' w' h3 h4

theorem rd_gr {w w' : World} {base b at_ r : Nat} {B : List Nat} {t : TypeId} {cs : List Value} (h : Rd w base b B at_) (hg : Gr w w' r) (hb : Blk w r t cs) (h1 : t ≠ 5) (h2 : t ≠ 77) : Rd w' base b B at_ :=
  h.row hg fun k t' cs' e hk _ => by
    simp at e
    subst e
    have := blk_ty hb hk
    subst this
    exact ⟨h1, h2⟩
theorem Wr.blk {w : World} {b : Nat} {L : List Bool} (h : Wr w b L) : ∃ cs, Blk w b 41 cs := by obtain ⟨fo, hb, _⟩ := h; exact ⟨_, hb⟩
theorem Rd.blk {w : World} {base b at_ : Nat} {B : List Nat} (h : Rd w base b B at_) : ∃ cs, Blk w b 77 cs := by obtain ⟨_, _, _, _, sp, cap, hb, _⟩ := h; exact ⟨_, hb⟩
theorem own_blk {w : World} {base e g n cap : Nat} {xs : List Value} (h : w.ownsRow base e 1 (.slice (some ⟨g, 0, none⟩) n cap) n xs) : ∃ cs, Blk w g e cs := by
  obtain ⟨hl, ⟨he, h0⟩ | ⟨g', cap', cur, hv, _, hh, hn, hm, hs, ht⟩⟩ := h
  · simp at he
  · simp at hv
    obtain ⟨rfl, rfl⟩ := hv
    exact ⟨cur.toList, by unfold Blk; simpa using hh⟩
theorem rd_low {w w' : World} {base b at_ g : Nat} {B : List Nat} (h : Rd w base b B at_) (hg : Gr w w' g) (hb : g < base) : Rd w' base b B at_ :=
  h.row hg fun k t' cs' e hk hbk => by
    simp at e
    omega
/-- the blocks from lo up to hi are as they were -/
def SameIn (lo hi : Nat) (w w' : World) : Prop := ∀ k, lo ≤ k → k < hi → w'.heap[k]? = w.heap[k]?
theorem SameIn.refl (lo hi : Nat) (w : World) : SameIn lo hi w w := fun _ _ _ => rfl
theorem SameIn.gr {lo hi r : Nat} {w w' w'' : World} (h : SameIn lo hi w w') (hg : Gr w' w'' r) (hs : hi ≤ w'.heap.size) (hr : r < lo ∨ hi ≤ r) : SameIn lo hi w w'' :=
  fun k h1 h2 => (hg.block k (by omega) (by simp; omega)).trans (h k h1 h2)
theorem SameIn.below {lo hi : Nat} {w w' w'' : World} (h : SameIn lo hi w w') (hb : Below w'.heap.size w' w'') (hs : hi ≤ w'.heap.size) : SameIn lo hi w w'' :=
  fun k h1 h2 => (hb.block k (by omega)).trans (h k h1 h2)
theorem Rd.frame {w w' : World} {base b at_ : Nat} {B : List Nat} (h : Rd w base b B at_) {hi : Nat} (hh : hi = w.heap.size) (hs : SameIn base hi w w') : Rd w' base b B at_ := by
  subst hh
  obtain ⟨h1, h2, h3, h4, sp, cap, hb, ho⟩ := h
  refine ⟨h1, h2, h3, h4, sp, cap, ?_, ?_⟩
  · have := hb.lt
    unfold Blk at hb ⊢
    rw [hs b h1 this]; exact hb
  · obtain ⟨hl, h | ⟨g, cap', cur, hv, hg, hh, hrest⟩⟩ := ho
    · exact ⟨hl, .inl h⟩
    · have := (Array.getElem?_eq_some_iff.1 hh).1
      exact ⟨hl, .inr ⟨g, cap', cur, hv, hg, by rw [hs g hg this]; exact hh, hrest⟩⟩
end Go.Proofs.Ytijjpbpoekbekaa

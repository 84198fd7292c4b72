/- Texts put together: RcK, RcQ, RcR. -/
import Derived.Test.YtdjkkohckfndkaaGreatDoorEg2
import Derived.Test.YtdjkkohckfndkaaGreatDoorEg32
import Derived.Test.YtdjkkohckfndkaaGreatDoorEg36
set_option linter.unusedSimpArgs false
set_option linter.unusedVariables false
set_option maxRecDepth 100000
namespace Go.Proofs.YtdjkkohckfndkaaGreatDoor.S14
open Go.RowKit S2.Pl S3 S3.Pl
attribute [local go_sem ↓] loadR_eq storeR_eq buildR_eq sliceU8_eq
theorem enc_lt (r : RT) : ∀ x ∈ enc r, x < 256 := by
  unfold enc
  split
  · rename_i h
    exact pseal_lt (body_lt (kind_lt (chk_ok h).2.2.2))
  · simp
theorem enc_len (r : RT) : (enc r).length ≤ 4143 := by
  unfold enc
  split
  · rename_i h
    rw [pseal_length]
    have := (body_len h).1
    omega
  · simp
theorem scan_one {r : RT} (h : chk r = 0) : scanR (enc r) = ([r], (enc r).length, true) := by
  rw [enc_good h]
  have hp := pscan_one (body r) (body_lt (kind_lt (chk_ok h).2.2.2)) (by have := (body_len h).1; omega)
  have hl := scanL_ok (l := [r]) (by simpa using h)
  simp only [List.map_cons, List.map_nil] at hl
  unfold scanR
  rw [hp]
  simp only [hl, encs, List.append_nil, Bool.and_self]
theorem run_buildR4 (w : World) (k s : Int) (b c : ByteArray) : (buildR #[(0, .int .i64 k), (1, .int .i64 s), (2, .string b), (3, .string c)]).run Tryz.prog w = .ok (.agg #[.int .i64 k, .int .i64 s, .string b, .string c]) w := by kernel_rfl
attribute [local go_sem] run_buildR run_buildR4
theorem RecsAt.cell {w : World} {a : Option Addr} {n cap : Nat} {L : List RT} (h : RecsAt w (.slice a n cap) L) (h0 : 0 < L.length) : ∃ b off, a = some ⟨b, off, none⟩ ∧ b < w.heap.size ∧ ∀ i, i < L.length → ∀ j u, (recL (L.getD i zR))[j]? = some u → w.cell? ⟨b, off + i * 4 + j, none⟩ = some u := by
  obtain ⟨a', cap', he, h1, h2, h3⟩ := h
  simp at he
  obtain ⟨rfl, rfl, rfl⟩ := he
  exact h3 h0
end Go.Proofs.YtdjkkohckfndkaaGreatDoor.S14
namespace Go.Proofs.YtdjkkohckfndkaaGreatDoor.S14
open Go.RowKit S2.Pl S3 S3.Pl
def endL (G : List RT) (i : Nat) : List Int := (List.range i).map fun j => ((encs (G.take (j + 1))).length : Int)
theorem endL_length (G : List RT) (i : Nat) : (endL G i).length = i := by simp [endL]
theorem endL_succ (G : List RT) (i : Nat) : endL G (i + 1) = endL G i ++ [((encs (G.take (i + 1))).length : Int)] := by simp [endL, List.range_succ]
theorem endL_get (G : List RT) {i j : Nat} (h : j < i) : (endL G i).getD j 0 = ((encs (G.take (j + 1))).length : Int) := by simp [endL, List.getD, h]
theorem encs_append (A B : List RT) : encs (A ++ B) = encs A ++ encs B := by rw [encs_cat, encs_cat, encs_cat, List.map_append, pcat_append]
theorem encs_step {G : List RT} (hG : ∀ r ∈ G, chk r = 0) {i : Nat} (hi : i < G.length) : encs (G.take (i + 1)) = encs (G.take i) ++ enc (G.getD i zR) := by
  have e : G.take (i + 1) = G.take i ++ [G.getD i zR] := by rw [List.take_add_one, List.getElem?_eq_getElem hi]; simp [List.getD, hi]
  rw [e, encs_snoc, enc_good (hG _ (by simp [List.getD, hi]))]
theorem encs_len {G : List RT} (hG : ∀ r ∈ G, chk r = 0) : (encs G).length ≤ 4143 * G.length := by
  induction G with
  | nil => exact Nat.le_refl _
  | cons r G ih =>
    have h1 := (body_len (hG r (by simp))).1
    have h2 := ih fun x hx => hG x (by simp [hx])
    rw [encs, List.length_append, pseal_length, List.length_cons]
    omega
theorem many_scan {G : List RT} (hG : ∀ r ∈ G, chk r = 0) {k C : Nat} (h1 : (encs (G.take k)).length ≤ C) (h2 : (k = G.length ∧ C ≤ (encs G).length) ∨ k < G.length ∧ C < (encs (G.take (k + 1))).length) :
    scanR ((encs G).take C) = (G.take k, (encs (G.take k)).length, true) := by
  have hGk : ∀ r ∈ G.take k, chk r = 0 := fun r hr => hG r (List.mem_of_mem_take hr)
  have hp : pscan ((encs G).take C) = ((G.take k).map body, (encs (G.take k)).length, true) := by
    have hcat := fun T => pscan_cat ((G.take k).map body) T (fun P hP => by
      simp only [List.mem_map] at hP
      obtain ⟨r, hr, rfl⟩ := hP
      exact body_lt (kind_lt (chk_ok (hGk r hr)).2.2.2)) (fun P hP => by
      simp only [List.mem_map] at hP
      obtain ⟨r, hr, rfl⟩ := hP
      have := (body_len (hGk r hr)).1
      omega)
    rw [← encs_cat] at hcat
    rcases h2 with ⟨rfl, hC⟩ | ⟨hk, hC⟩
    · rw [List.take_length] at h1 hcat ⊢
      have : C = (encs G).length := by omega
      rw [this, List.take_length]
      have := hcat []
      rw [List.append_nil, pscan_short (B := []) (by simp)] at this
      rw [this]
      simp
    · have hk0 := hG (G.getD k zR) (by simp [List.getD, hk])
      have es := encs_step hG hk
      have e : encs G = encs (G.take k) ++ (pseal (body (G.getD k zR)) ++ encs (G.drop (k + 1))) := by
        have : encs G = encs (G.take (k + 1)) ++ encs (G.drop (k + 1)) := by rw [← encs_append, List.take_append_drop]
        rw [this, es, enc_good hk0, List.append_assoc]
      rw [es, enc_good hk0, List.length_append, pseal_length] at hC
      have hb := (body_len hk0).1
      rw [e, List.take_append, List.take_of_length_le h1, hcat, pscan_part _ _ (by omega) _ (by omega)]
      simp
  unfold scanR
  rw [hp]
  simp only [scanL_ok hGk, Bool.and_self]
def sliceRc (x : Value) (lo hi mx : Option Value) : Sem Value := Instr.sliceAt 22 x lo hi mx
theorem elem_rcs : Tryz.prog.elem 22 = 32 := by kernel_rfl
theorem und_rcs : Tryz.prog.underlying 22 = some (.slice (Tryz.prog.elem 22)) := by rw [elem_rcs]; exact Tryz.underlying22
theorem run_size_rc (w : World) : (sizeOf (Tryz.prog.elem 22)).run Tryz.prog w = .ok 4 w := by
  obtain ⟨i0, hi, hz0, hz1, hz2⟩ := info_parts infoRecS
  rw [elem_rcs]
  simp [sizeOf, typeInfo, hi, hz1]
theorem RecsAt.upto {w : World} {v : Value} {L : List RT} (h : RecsAt w v L) (n : Nat) (hn : n ≤ L.length) : ∃ sp cap, (∀ W, (sliceRc v none (some (.int .i64 n)) none).run Tryz.prog W = .ok (.slice sp n cap) W) ∧ Hid (RecsAt w (.slice sp n cap) (L.take n)) := by
  obtain ⟨a, cap, rfl, h1, h2, h3⟩ := h
  have hl : (L.take n).length = n := by rw [List.length_take]; omega
  refine ⟨if cap = 0 then a else a.map (·.add (0 * 4)), cap, ?_, Lib.hid ⟨_, cap, by rw [hl], by rw [hl]; omega, h2, fun h0 => ?_⟩⟩
  · intro W
    unfold sliceRc
    rw [run_sliceAt_slice _ _ _ _ _ _ und_rcs, run_slice_h _ _ _ _ _ und_rcs _ _ (by omega) (by omega), run_size_rc, Int.toNat_natCast]
    simp only [Result.andThen, sliced, Nat.sub_zero]
  · rw [hl] at h0
    obtain ⟨b, off, rfl, hb, hc⟩ := h3 (by omega)
    refine ⟨b, off, ?_, hb, fun i hi j u hu => ?_⟩
    · have : (⟨b, off, none⟩ : Addr).add (0 * 4) = ⟨b, off, none⟩ := by unfold Addr.add; simp
      split
      · rfl
      · rw [Option.map_some, this]
    · rw [hl] at hi
      refine hc i (by omega) j u ?_
      have e : (L.take n).getD i zR = L.getD i zR := by simp [List.getD, List.getElem?_take_of_lt hi]
      rw [← e]; exact hu
end Go.Proofs.YtdjkkohckfndkaaGreatDoor.S14
namespace Go.Proofs.YtdjkkohckfndkaaGreatDoor.S14
open Go.RowKit S2.Pl S3 S3.Pl
def Front (base : Nat) (w : World) (v : Value) (B : List Nat) : Prop := IsBytes w v B ∧ (0 < B.length → ∃ g cs cap, v = .slice (some ⟨g, 0, none⟩) B.length cap ∧ B.length ≤ cap ∧ cap ≤ maxLen ∧ base ≤ g ∧ Blk w g 5 cs ∧ cs.take B.length = u8s B)
theorem front_mk {base : Nat} {w : World} {g cap : Nat} {B : List Nat} {cs : List Value} (hx : ∀ x ∈ B, x < 256) (h1 : B.length ≤ cap) (h2 : cap ≤ maxLen) (hb : base ≤ g) (hk : Blk w g 5 cs) (ht : cs.take B.length = u8s B) : Front base w (.slice (some ⟨g, 0, none⟩) B.length cap) B := by
  refine ⟨⟨hx, .inr ⟨_, cap, rfl, h1, h2, fun i u hu => ?_⟩⟩, fun _ => ⟨g, cs, cap, rfl, h1, h2, hb, hk, ht⟩⟩
  have hadd : (⟨g, 0, none⟩ : Addr).add i = ⟨g, i, none⟩ := by unfold Addr.add; split <;> simp_all
  rw [hadd]
  have hi := (List.getElem?_eq_some_iff.1 hu).1
  rw [u8s_length] at hi
  rw [← ht, List.getElem?_take_of_lt hi] at hu
  exact hk.cell hu
theorem Sofar.front {w0 W : World} {v : Value} {B : List Nat} (h : Sofar w0 W v B) (hx : ∀ x ∈ B, x < 256) : Front w0.heap.size W v B := by
  obtain ⟨sp, N, cap, rfl, hN⟩ := h.open
  have hN := hN.out
  subst hN
  refine ⟨h.is hx, fun h0 => ?_⟩
  obtain ⟨⟨hl, ⟨he, h3⟩ | ⟨g, cap', cur, he, hb, hh, hn, hm, hs, ht⟩⟩, _⟩ := h
  · omega
  · simp at he
    obtain ⟨rfl, rfl⟩ := he
    exact ⟨g, cur.toList, cap, rfl, hn, hm, hb, by unfold Blk; simpa using hh, by rw [← ht, Nat.mul_one]⟩
theorem Front.upto {base : Nat} {w : World} {v : Value} {B : List Nat} (h : Front base w v B) (n : Nat) (hn : n ≤ B.length) : ∃ sp cap, (∀ W, (sliceU8 v none (some (.int .i64 n)) none).run Tryz.prog W = .ok (.slice sp n cap) W) ∧ Hid (Front base w (.slice sp n cap) (B.take n)) := by
  obtain ⟨hv, h3⟩ := h
  obtain ⟨a, cap, rfl, hcap, hmax⟩ := hv.slice
  refine ⟨if cap = 0 then a else a.map (·.add (0 * 1)), cap, ?_, Lib.hid ⟨?_, fun h0 => ?_⟩⟩
  · intro W
    unfold sliceU8
    rw [run_sliceAt_slice _ _ _ _ _ _ und_u8s, run_slice_h _ _ _ _ _ und_u8s _ _ (by omega) (by omega), run_size_u8, Int.toNat_natCast]
    simp only [Result.andThen, sliced, Nat.sub_zero]
  · have := isBytes_sliced hv 0 n (by omega)
    unfold sliced at this
    simp only [Nat.zero_add, Nat.sub_zero, List.drop_zero] at this
    exact this
  · have hl : (B.take n).length = n := by rw [List.length_take]; omega
    rw [hl] at h0 ⊢
    obtain ⟨g, cs, cap', he, h1, h2, hb, hk, ht⟩ := h3 (by omega)
    simp at he
    obtain ⟨rfl, rfl⟩ := he
    refine ⟨g, cs, cap, ?_, by omega, h2, hb, hk, ?_⟩
    · have : (⟨g, 0, none⟩ : Addr).add (0 * 1) = ⟨g, 0, none⟩ := by unfold Addr.add; simp
      split
      · rfl
      · rw [Option.map_some, this]
    · have e : cs.take n = (cs.take B.length).take n := by rw [List.take_take, Nat.min_eq_left hn]
      rw [e, ht]
      simp [u8s]
theorem Front.put {base : Nat} {w : World} {v : Value} {B : List Nat} (h : Front base w v B) (i y : Nat) (hi : i < B.length) (hy : y < 256) : ∃ g cap, v = .slice (some ⟨g, 0, none⟩) B.length cap ∧ base ≤ g ∧ g < w.heap.size ∧ w.cell? ⟨g, i, none⟩ = some (.int .u8 (B.getD i 0 : Nat)) ∧ w.frozen? ⟨g, i, none⟩ = false ∧ Hid (Front base (w.setCell ⟨g, i, none⟩ (.int .u8 (y : Nat))) (.slice (some ⟨g, 0, none⟩) B.length cap) (B.set i y)) := by
  obtain ⟨hv, h3⟩ := h
  obtain ⟨g, cs, cap, rfl, h1, h2, hb, hk, ht⟩ := h3 (by omega)
  have hg := u8s_get B i hi
  have hg' := hg
  rw [← ht, List.getElem?_take_of_lt hi] at hg
  refine ⟨g, cap, rfl, hb, hk.lt, hk.cell hg, hk.frozen i, Lib.hid ?_⟩
  have hx : ∀ x ∈ B.set i y, x < 256 := fun x hx => (List.mem_or_eq_of_mem_set hx).elim (hv.1 x) (fun h => by omega)
  have := front_mk (base := base) (cap := cap) hx (by rw [List.length_set]; exact h1) h2 hb (hk.set i (.int .u8 (y : Nat))) (by rw [List.length_set, List.take_set, ht, u8s_set])
  rw [List.length_set] at this
  exact this
end Go.Proofs.YtdjkkohckfndkaaGreatDoor.S14

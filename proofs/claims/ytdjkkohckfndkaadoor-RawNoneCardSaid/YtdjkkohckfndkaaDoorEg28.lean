/- Texts put together: DkR, DkS, DkIz. -/
import Derived.Test.YtdjkkohckfndkaaDoorEg27
set_option linter.unusedSimpArgs false
set_option linter.unusedVariables false
set_option maxRecDepth 100000
namespace Go.Proofs.YtdjkkohckfndkaaDoor.S13
open Go.RowKit Go.Maps Go.Shelf Dk
theorem run_tail_u8 (W : World) (g N cap k : Nat) (hk : k < N) (hn : N ≤ cap) (hm : cap ≤ maxLen) : (sliceU8 (.slice (some ⟨g, 0, none⟩) N cap) (some (.int .i64 k)) none none).run Tryd.prog W = .ok (.slice (some ⟨g, k, none⟩) (N - k) (cap - k)) W := by
  unfold sliceU8
  rw [run_sliceAt_slice _ _ _ _ _ _ und_u8s, run_slice_l _ _ _ _ _ und_u8s _ _ (by omega) (by omega), run_size_u8, Int.toNat_natCast]
  have hne : ¬ cap = k := by omega
  simp only [Result.andThen, sliced, if_neg hne, Option.map_some, Nat.mul_one]
  rw [addr_at, Nat.zero_add]
def rotI (X : List Nat) (k x i : Nat) : List Nat := X.mapIdx fun j y => if k * 64 ≤ j ∧ j < k * 64 + i then y ^^^ ((x + (j - k * 64)) % 256) else y
theorem rotI_length (X : List Nat) (k x i : Nat) : (rotI X k x i).length = X.length := by simp [rotI]
theorem rotI_0 (X : List Nat) (k x : Nat) : rotI X k x 0 = X := by
  apply List.ext_getElem?
  intro j
  simp only [rotI, List.getElem?_mapIdx]
  cases X[j]? with
  | none => rfl
  | some y => simp; omega
theorem rotI_get (X : List Nat) (k x i : Nat) : (rotI X k x i).getD (k * 64 + i) 0 = X.getD (k * 64 + i) 0 := by
  simp only [rotI, List.getD_eq_getElem?_getD, List.getElem?_mapIdx]
  cases X[k * 64 + i]? with
  | none => rfl
  | some y => simp
theorem rotI_step (X : List Nat) (k x i : Nat) (h : k * 64 + i < X.length) : (rotI X k x i).set (k * 64 + i) (X.getD (k * 64 + i) 0 ^^^ ((x + i) % 256)) = rotI X k x (i + 1) := by
  apply List.ext_getElem?
  intro j
  rw [List.getElem?_set]
  by_cases hj : k * 64 + i = j
  · subst hj
    rw [if_pos rfl, if_pos (by rw [rotI_length]; exact h)]
    simp only [rotI, List.getElem?_mapIdx, List.getElem?_eq_getElem h, Option.map_some, List.getD_eq_getElem?_getD, Option.getD_some]
    rw [if_pos (by omega), show k * 64 + i - k * 64 = i by omega]
  · rw [if_neg hj]
    simp only [rotI, List.getElem?_mapIdx]
    cases X[j]? with
    | none => rfl
    | some y =>
      simp only [Option.map_some]
      by_cases h1 : k * 64 ≤ j ∧ j < k * 64 + i
      · rw [if_pos h1, if_pos (by omega)]
      · rw [if_neg h1, if_neg (by omega)]
theorem rotI_end (X : List Nat) (k x m : Nat) (hm : m = 64 ∨ X.length ≤ k * 64 + m) (h64 : m ≤ 64) : rotI X k x m = rotB X k x := by
  apply List.ext_getElem?
  intro j
  simp only [rotI, rotB, List.getElem?_mapIdx]
  by_cases hl : j < X.length
  · rw [List.getElem?_eq_getElem hl]
    simp only [Option.map_some]
    by_cases h1 : j / 64 = k
    · rw [if_pos h1, if_pos (by omega), show j - k * 64 = j % 64 by omega]
    · rw [if_neg h1, if_neg (by omega)]
  · rw [List.getElem?_eq_none (by omega)]; rfl
theorem rotB_lt {X : List Nat} (h : ∀ y ∈ X, y < 256) (k x : Nat) : ∀ y ∈ rotB X k x, y < 256 := by
  intro y hy
  obtain ⟨i, hi, rfl⟩ := List.getElem_of_mem hy
  simp only [rotB, List.getElem_mapIdx]
  have := h _ (List.getElem_mem (by simpa [rotB] using hi))
  split
  · exact Nat.xor_lt_two_pow (n := 8) this (by omega)
  · exact this
theorem rotB_length (X : List Nat) (k x : Nat) : (rotB X k x).length = X.length := by simp [rotB]
attribute [local go_sem ↓] minN_eq sliceU8_eq
set_option maxHeartbeats 16000000 in
theorem rot_any (l : Lay) (S : St) (n : ByteArray) (sector : Int) (x : Nat) (w : World) (h : IsFS w l S) (hn : n.size ≤ maxLen) (hx : x < 256) (hsw : (Lit.int .i64 sector).wf = true) :
    Calls Tryd.prog 13 #[fsP l, .string n, .int .i64 sector, .int .u8 x] w (OpPost l S (rot S n.data.toList sector x) w) := by
  have hf := find_any l S n w h hn
  cases hd : dget S.now n.data.toList with
  | none =>
    have e : rot S n.data.toList sector x = (S, 3) := by unfold rot; rw [hd]
    rw [hd] at hf
    rw [e]
    simp only [Option.map_none, ptrO] at hf
    have H := Lib.hid h
    clear h
    go_enter Tryd.func13, Tryd.ntmps13
    go_wp2_with fail
    refine hf.mono ?_
    rintro e w1 ⟨rfl, rfl⟩
    clear hf
    go_wp2_with fail
    go_ret
    exact ⟨rfl, l, rfl, H, Lib.hid (Step.refl _ _)⟩
  | some i =>
    rw [hd] at hf
    simp only [Option.map_some, ptrO] at hf
    have hi := h.ok.now _ (dget_mem hd)
    have hfi := h.file i hi
    have hfo := file_ok h.ok i
    obtain ⟨sp, cap, hv, hcap, hmax⟩ := hfi.bytes.slice
    have c0 : w.cell? ⟨l.β i, 0, none⟩ = some (l.ν i) := hfi.1.cell rfl
    rw [hv] at c0
    obtain ⟨N, hN⟩ : ∃ N, (S.file i).1.length = N := ⟨_, rfl⟩
    have hl4 := hfo.2.2
    rw [hN] at c0 hcap hl4
    obtain ⟨Q, hQ⟩ : ∃ Q, (N + 63) / 64 = Q := ⟨_, rfl⟩
    have hQI : ((N : Int) + 63) / 64 = (Q : Nat) := by omega
    by_cases hrange : sector < 0 ∨ (Q : Int) ≤ sector
    · have e : rot S n.data.toList sector x = (S, 7) := by
        unfold rot
        rw [hd]
        simp only
        rw [if_pos (by rw [hN]; omega)]
      rw [e]
      have H := Lib.hid h
      have HQ := Lib.hid hQ
      clear h hfi hfo hv hN hQ e
      rcases hrange with hlt | hge
      · have h1 : decide (sector < 0) = true := by simpa using hlt
        go_enter Tryd.func13, Tryd.ntmps13
        go_wp2_with fail
        refine hf.mono ?_
        rintro e w1 ⟨rfl, rfl⟩
        clear hf
        go_wp2_with fail
        go_ret
        exact ⟨rfl, l, rfl, H, Lib.hid (Step.refl _ _)⟩
      · have h1 : decide (sector < 0) = false := by simp; omega
        have h2 : decide ((Q : Int) ≤ sector) = true := by simpa using hge
        go_enter Tryd.func13, Tryd.ntmps13
        go_wp2_with fail
        refine hf.mono ?_
        rintro e w1 ⟨rfl, rfl⟩
        clear hf
        go_wp2_with fail
        go_ret
        exact ⟨rfl, l, rfl, H, Lib.hid (Step.refl _ _)⟩
    · obtain ⟨k, rfl⟩ : ∃ k : Nat, sector = (k : Int) := ⟨sector.toNat, by omega⟩
      have hkQ : k < Q := by omega
      have e : rot S n.data.toList (k : Int) x = (S.put i (rotB (S.file i).1 k x, (S.file i).2), 0) := by
        unfold rot
        rw [hd]
        simp only
        rw [if_neg (by rw [hN]; omega), Int.toNat_natCast]
      rw [e]
      obtain ⟨o, ho⟩ : ∃ o, k * 64 = o := ⟨_, rfl⟩
      have hoN : o < N := by omega
      have hko : (k : Int) * 64 = (o : Int) := by omega
      obtain ⟨R, hR⟩ : ∃ R, N - o = R := ⟨_, rfl⟩
      obtain ⟨m, hm⟩ : ∃ m, min 64 R = m := ⟨_, rfl⟩
      have hmn : ∀ ats ty W, (minN ats ty (.int .i64 64) (.int .i64 (R : Nat))).run Tryd.prog W = .ok (.int .i64 (m : Nat)) W := fun ats ty W => by
        rw [run_minN ats ty 64 (R : Nat) W, show (min (64 : Int) (R : Nat)) = (m : Nat) by omega]
      have hsp : ∃ g, sp = some ⟨g, 0, none⟩ := by
        have h0 := hfi.2.1
        rw [hv, hN] at h0
        obtain ⟨g, _, he, _⟩ := own_open h0 (by omega)
        simp at he
        exact ⟨g, he.1⟩
      obtain ⟨g, rfl⟩ := hsp
      have hsl := fun W => run_tail_u8 W g N cap o hoN hcap hmax
      rw [hR] at hsl
      have hown : w.ownsRow 0 5 1 (.slice (some ⟨g, 0, none⟩) N cap) N (u8s (S.file i).1) := by
        have h0 := hfi.2.1
        rw [hv, hN] at h0
        exact h0
      have h1 : decide ((k : Int) < 0) = false := by simp
      have h2 : decide ((Q : Int) ≤ (k : Int)) = false := by simp; omega
      have h3 : decide (Q ≤ k) = false := by simp; omega
      have hmR : m ≤ R ∧ m ≤ 64 ∧ (m = 64 ∨ N ≤ o + m) := by omega
      have H := Lib.hid h
      have HO := Lib.hid ho
      have HV := Lib.hid hv
      have HN := Lib.hid hN
      have HX := Lib.hid hfo.1
      have HOWN := Lib.hid hown
      have HFI := Lib.hid hfi
      have HR := Lib.hid hR
      have hRN : o + R = N := by omega
      clear h hfi hfo hv hN hQ e hrange hown ho hm hR
      go_enter Tryd.func13, Tryd.ntmps13
      go_wp2_with fail
      refine hf.mono ?_
      rintro e w1 ⟨rfl, rfl⟩
      clear hf
      go_wp2_with fail
      clear c0 hsl hmn h1 h2 h3
      go_loopw [43] (fun v wr => ∃ j : Nat, j ≤ m ∧ v = .int .i64 j ∧ wr.ownsRow 0 5 1 (.slice (some ⟨g, 0, none⟩) N cap) N (u8s (rotI (S.file i).1 k x j)) ∧ w1.grownBy wr (some g)) (fun v _ => m - (intOf v).toNat)
      case atStart => exact ⟨0, by omega, rfl, by rw [rotI_0]; exact HOWN.out, grownBy_refl _ _⟩
      case round =>
        obtain ⟨j, hj, rfl, ho, hg⟩ := hrel
        have HO2 := Lib.hid ho
        have HG := Lib.hid hg
        clear ho hg
        by_cases hlt : j < m
        · have hc := own_cell HO2.out (i := o + j) (by omega)
          have hfz := HO2.out.frozenAt (o + j)
          have hgd := rotI_get (S.file i).1 k x j
          rw [HO.out] at hgd
          rw [hgd] at hc
          have hy := getD_lt HX.out (o + j)
          have hst := rotI_step (S.file i).1 k x j (by rw [HN.out, HO.out]; omega)
          rw [HO.out] at hst
          obtain ⟨y, hyy⟩ : ∃ y, (S.file i).1.getD (o + j) 0 = y := ⟨_, rfl⟩
          rw [hyy] at hc hy hst
          obtain ⟨z, hz⟩ : ∃ z, (x + j) % 256 = z := ⟨_, rfl⟩
          have hzI : ((x : Int) + (j : Int)) % 256 = (z : Nat) := by omega
          have hz8 : z < 256 := by omega
          rw [hz] at hst
          obtain ⟨q, hq⟩ : ∃ q, y ^^^ z = q := ⟨_, rfl⟩
          have hxe : bits BinOp.xor IntKind.u8 (y : Int) (z : Int) = (q : Int) := by rw [u8_xor_nat y z hy hz8, hq]
          rw [hq] at hst
          have HST := Lib.hid hst
          clear hst hyy hz hq hgd
          go_wp2_with fail
          refine ⟨⟨j + 1, by omega, by go_num, ?_, HG.out.trans ((Gr.refl wr g).setCell (o + j) _)⟩, by simp [intOf]; omega⟩
          have hs := HO2.out.stored (o + j) (.int .u8 (q : Nat))
          rw [u8s_set, HST.out] at hs
          exact hs.1
        · obtain rfl : j = m := by omega
          go_wp2_with fail
          go_ret
          have hend := rotI_end (S.file i).1 k x j (by rw [HN.out, HO.out]; exact hmR.2.2) hmR.2.1
          have ho := HO2.out
          rw [hend] at ho
          have hgb : (l.ν i).ownBlock = some g := by rw [HV.out]; rfl
          have hgβ : l.β i ≠ g := fun e => blk_own_ne HFI.out.1 HFI.out.2.1 (by decide) (by rw [hgb, e])
          have hfo := file_ok H.out.ok i
          have hfin := H.out.putFile hi (v' := l.ν i) (x := (rotB (S.file i).1 k x, (S.file i).2)) (V := wr) HG.out.os HG.out.tape HG.out.output HG.out.size
            (fun b hb h1 h2 => HG.out.block b hb (fun e => h2 (by rw [hgb]; exact e.symm))) ?_ (fun b hb => .inl hb) (put_ok H.out.ok ⟨rotB_lt hfo.1 k x, by show _ ≤ (rotB _ k x).length; rw [rotB_length]; exact hfo.2.1, by show (rotB _ k x).length ≤ _; rw [rotB_length]; exact hfo.2.2⟩)
          · refine ⟨rfl, { l with ν := upd l.ν i (l.ν i) }, rfl, Lib.hid hfin.1, Lib.hid ?_⟩
            have e : (S.put i (rotB (S.file i).1 k x, (S.file i).2)).F.length = S.F.length := by simp [St.put]
            rw [e]
            exact hfin.2
          · refine ⟨HFI.out.1.grown HG.out (by simpa using hgβ), ?_, rotB_lt hfo.1 k x⟩
            show wr.ownsRow 0 _ 1 (l.ν i) (rotB (S.file i).1 k x).length _
            rw [rotB_length, HV.out, HN.out]
            exact ho
end Go.Proofs.YtdjkkohckfndkaaDoor.S13
namespace Go.Proofs.YtdjkkohckfndkaaDoor.S13
open Go.RowKit Go.Maps Go.Shelf Dk
abbrev pP (p : Nat) : Value := .pointer (some ⟨p, 0, none⟩)
def InH (w0 : World) (p : Nat) (S : St) (w : World) : Prop := ∃ l, l.p = p ∧ IsFS w l S ∧ (∀ b, l.at S.F.length b → w0.heap.size ≤ b) ∧ Below w0.heap.size w0 w
namespace InH
variable {w0 w w' : World} {p : Nat} {S : St}
theorem bel (h : InH w0 p S w) : Below w0.heap.size w0 w := by obtain ⟨_, _, _, _, h⟩ := h; exact h
theorem ok (h : InH w0 p S w) : S.Ok := by obtain ⟨_, _, h, _⟩ := h; exact h.ok
theorem below (h : InH w0 p S w) (hb : Below w.heap.size w w') : InH w0 p S w' := by
  obtain ⟨l, hp, hI, ha, hw⟩ := h
  exact ⟨l, hp, hI.below hb, ha, hw.trans (hb.mono hw.size)⟩
theorem gone {l : Lay} {S' : St} (hp : l.p = p) (hw : Below w0.heap.size w0 w) (ha : ∀ b, l.at S.F.length b → w0.heap.size ≤ b) (h : Gone w l S S' w') : InH w0 p S' w' := by
  obtain ⟨l', hp', hI, hS⟩ := h
  exact ⟨l', hp'.trans hp, hI.out, hS.out.base hw.size ha, hw.trans (hS.out.below hw.size ha)⟩
theorem same {l : Lay} {S' : St} (hp : l.p = p) (hw : Below w0.heap.size w0 w) (ha : ∀ b, l.at S.F.length b → w0.heap.size ≤ b) (h : Same w l S S' w') (hF : S'.F.length = S.F.length) : InH w0 p S' w' := gone hp hw ha (h.gone hF)
end InH
theorem fs_bytes {w : World} {l : Lay} {S : St} {v : Value} {B : List Nat} (h : IsFS w l S) (hv : IsBytes w v B) : ∀ a m c, v = .slice (some a) m c → 0 < B.length → a.block ≠ l.p := by
  intro a m c he h0 hb
  obtain ⟨b, off, cap, he2, _, _, _, hc⟩ := hv.cells h0
  rw [he] at he2
  simp at he2
  obtain ⟨rfl, _⟩ := he2
  simp only at hb
  subst hb
  have h1 := hc 0 h0
  obtain ⟨wt, _, hk, _⟩ := h.cells
  obtain ⟨sp, cp, hpv, _, _⟩ := ownsRow_slice h.pend
  have h2 : w.cell? ⟨l.p, off + 0, none⟩ = (fsC l S wt)[off + 0]? := by
    unfold Blk at hk
    simp [World.cell?, hk]
  rw [h2] at h1
  unfold fsC at h1
  rw [hpv] at h1
  match off, h1 with
  | 0, h1 => simp at h1
  | 1, h1 => simp at h1
  | 2, h1 => simp at h1
  | 3, h1 => simp at h1
  | 4, h1 => simp at h1
  | 5, h1 => simp at h1
  | 6, h1 => simp at h1
  | n + 7, h1 => simp at h1
def HPost (w0 : World) (p : Nat) (r : St × Nat) (e : Ending) (w' : World) : Prop := e = .returned (errV r.2) ∧ InH w0 p r.1 w'
section
variable {w0 w : World} {p : Nat} {S : St}
theorem op_h {l : Lay} {r : St × Nat} {e : Ending} {w' : World} (hp : l.p = p) (hw : Below w0.heap.size w0 w) (ha : ∀ b, l.at S.F.length b → w0.heap.size ≤ b) (h : OpPost l S r w e w') : HPost w0 p r e w' := ⟨h.1, InH.gone hp hw ha h.2⟩
theorem create_h (n : ByteArray) (h : InH w0 p S w) (hn : n.size ≤ maxLen) (hc : S.calls ≤ 1099511627776) : Calls Tryd.prog 30 #[pP p, .string n] w (HPost w0 p (create S n.data.toList)) := by
  obtain ⟨l, rfl, hI, ha, hw⟩ := h
  exact (create_any l S n w hI hn hc).mono fun e w' h => op_h rfl hw ha h
theorem used_h (h : InH w0 p S w) : Calls Tryd.prog 24 #[pP p] w fun e w' => e = .returned (.int .i64 (S.used : Nat)) ∧ Below w.heap.size w w' := by
  obtain ⟨l, rfl, hI, ha, hw⟩ := h
  exact used_any l S w hI
theorem read_h (n : ByteArray) (h : InH w0 p S w) (hn : n.size ≤ maxLen) : Calls Tryd.prog 12 #[pP p, .string n] w (ReadPost (readF S n.data.toList) w) := by
  obtain ⟨l, rfl, hI, ha, hw⟩ := h
  exact read_any l S n w hI hn
end
section
variable (w : World)
set_option maxHeartbeats 2000000
theorem begin_nil : Calls Tryd.prog 44 #[.pointer none] w fun e w' => e = .returned (errV 3) ∧ w' = w := by
  go_enter Tryd.func44, Tryd.ntmps44
  go_wp2_with fail
  go_ret
  exact ⟨rfl, rfl⟩
theorem beginWith_nil (v : Value) : Calls Tryd.prog 56 #[.pointer none, v] w fun e w' => e = .returned (.tuple #[.pointer none, .int .i64 3]) ∧ w' = w := by
  have hb := begin_nil w
  unfold errV at hb
  go_enter Tryd.func56, Tryd.ntmps56
  go_wp2_with fail
  refine hb.mono ?_
  rintro e w' ⟨rfl, rfl⟩
  go_wp2_with fail
  go_ret2
  exact ⟨rfl, rfl⟩
theorem append_nil (v u : Value) : Calls Tryd.prog 32 #[.pointer none, v, u] w fun e w' => e = .returned (errV 3) ∧ w' = w := by
  have hb := beginWith_nil w v
  go_enter Tryd.func32, Tryd.ntmps32
  go_wp2_with fail
  refine hb.mono ?_
  rintro e w' ⟨rfl, rfl⟩
  go_wp2_with fail
  go_ret
  exact ⟨rfl, rfl⟩
theorem sync_nil (v : Value) : Calls Tryd.prog 43 #[.pointer none, v] w fun e w' => e = .returned (errV 3) ∧ w' = w := by
  have hb := beginWith_nil w v
  go_enter Tryd.func43, Tryd.ntmps43
  go_wp2_with fail
  refine hb.mono ?_
  rintro e w' ⟨rfl, rfl⟩
  go_wp2_with fail
  go_ret
  exact ⟨rfl, rfl⟩
end
end Go.Proofs.YtdjkkohckfndkaaDoor.S13
namespace Go.Proofs.YtdjkkohckfndkaaDoor.S13
open Go.RowKit Go.Maps Go.Shelf Dk
def InZ (w0 : World) (p : Nat) (S : St) (Z : Nat → Prop) (w : World) : Prop :=
  ∃ l, l.p = p ∧ IsFS w l S ∧ (∀ b, l.at S.F.length b → w0.heap.size ≤ b) ∧ Below w0.heap.size w0 w ∧ ∀ b, Z b → b < w.heap.size ∧ ¬ l.at S.F.length b
def ZPost (w0 : World) (p : Nat) (r : St × Nat) (Z : Nat → Prop) (w : World) (e : Ending) (w' : World) : Prop :=
  e = .returned (errV r.2) ∧ InZ w0 p r.1 Z w' ∧ ∀ b, Z b → w'.heap[b]? = w.heap[b]?
section
variable {w0 w w' : World} {p : Nat} {S : St} {Z : Nat → Prop}
theorem InH.toZ (h : InH w0 p S w) (hb : Below w.heap.size w w') (hZ : ∀ b, Z b → w.heap.size ≤ b ∧ b < w'.heap.size) : InZ w0 p S Z w' := by
  obtain ⟨l, hp, hI, ha, hw⟩ := h
  exact ⟨l, hp, hI.below hb, ha, hw.trans (hb.mono hw.size), fun b hz => ⟨(hZ b hz).2, fun h' => by have := hI.lt b h'; have := (hZ b hz).1; omega⟩⟩
theorem InZ.toH (h : InZ w0 p S Z w) : InH w0 p S w := by
  obtain ⟨l, hp, hI, ha, hw, _⟩ := h
  exact ⟨l, hp, hI, ha, hw⟩
theorem InZ.below (h : InZ w0 p S Z w) (hb : Below w.heap.size w w') : InZ w0 p S Z w' := by
  obtain ⟨l, hp, hI, ha, hw, hz⟩ := h
  exact ⟨l, hp, hI.below hb, ha, hw.trans (hb.mono hw.size), fun b h => ⟨Nat.lt_of_lt_of_le (hz b h).1 hb.size, (hz b h).2⟩⟩
theorem op_z {l : Lay} {r : St × Nat} {e : Ending} (hp : l.p = p) (hw : Below w0.heap.size w0 w) (ha : ∀ b, l.at S.F.length b → w0.heap.size ≤ b) (hz : ∀ b, Z b → b < w.heap.size ∧ ¬ l.at S.F.length b) (h : OpPost l S r w e w') : ZPost w0 p r Z w e w' := by
  obtain ⟨he, l', hp', hI, hS⟩ := h
  exact ⟨he, ⟨l', hp'.trans hp, hI.out, hS.out.base hw.size ha, hw.trans (hS.out.below hw.size ha), fun b hb => ⟨Nat.lt_of_lt_of_le (hz b hb).1 hS.out.size, fun h' => (hS.out.more b h').elim (hz b hb).2 (fun h2 => by have := (hz b hb).1; omega)⟩⟩, fun b hb => hS.out.block b (hz b hb).1 (hz b hb).2⟩
theorem create_z (n : ByteArray) (h : InZ w0 p S Z w) (hn : n.size ≤ maxLen) (hc : S.calls ≤ 1099511627776) : Calls Tryd.prog 30 #[pP p, .string n] w (ZPost w0 p (create S n.data.toList) Z w) := by
  obtain ⟨l, rfl, hI, ha, hw, hz⟩ := h
  exact (create_any l S n w hI hn hc).mono fun e w' h => op_z rfl hw ha hz h
theorem append_z (n : ByteArray) (v : Value) (B : List Nat) (h : InZ w0 p S Z w) (hn : n.size ≤ maxLen) (hc : S.calls ≤ 1099511627776) (hv : IsBytes w v B) (hB : B.length ≤ 1000000) : Calls Tryd.prog 32 #[pP p, .string n, v] w (ZPost w0 p (append S n.data.toList B) Z w) := by
  obtain ⟨l, rfl, hI, ha, hw, hz⟩ := h
  exact (append_any l S n v B w hI hn hc hv hB (fs_bytes hI hv)).mono fun e w' h => op_z rfl hw ha hz h
theorem sync_z (n : ByteArray) (h : InZ w0 p S Z w) (hn : n.size ≤ maxLen) (hc : S.calls ≤ 1099511627776) : Calls Tryd.prog 43 #[pP p, .string n] w (ZPost w0 p (sync S n.data.toList) Z w) := by
  obtain ⟨l, rfl, hI, ha, hw, hz⟩ := h
  exact (sync_any l S n w hI hn hc).mono fun e w' h => op_z rfl hw ha hz h
theorem syncDir_z (h : InZ w0 p S Z w) (hc : S.calls ≤ 1099511627776) : Calls Tryd.prog 22 #[pP p] w (ZPost w0 p (syncDir S) Z w) := by
  obtain ⟨l, rfl, hI, ha, hw, hz⟩ := h
  exact (syncDir_any l S w hI hc).mono fun e w' h => op_z rfl hw ha hz h
theorem rename_z (a n : ByteArray) (h : InZ w0 p S Z w) (ha' : a.size ≤ maxLen) (hn : n.size ≤ maxLen) (hc : S.calls ≤ 1099511627776) : Calls Tryd.prog 60 #[pP p, .string a, .string n] w (ZPost w0 p (rename S a.data.toList n.data.toList) Z w) := by
  obtain ⟨l, rfl, hI, ha, hw, hz⟩ := h
  exact (rename_any l S a n w hI ha' hn hc).mono fun e w' h => op_z rfl hw ha hz h
theorem remove_z (n : ByteArray) (h : InZ w0 p S Z w) (hn : n.size ≤ maxLen) (hc : S.calls ≤ 1099511627776) : Calls Tryd.prog 61 #[pP p, .string n] w (ZPost w0 p (remove S n.data.toList) Z w) := by
  obtain ⟨l, rfl, hI, ha, hw, hz⟩ := h
  exact (remove_any l S n w hI hn hc).mono fun e w' h => op_z rfl hw ha hz h
theorem rot_z (n : ByteArray) (sector : Int) (x : Nat) (h : InZ w0 p S Z w) (hn : n.size ≤ maxLen) (hx : x < 256) (hsw : (Lit.int .i64 sector).wf = true) : Calls Tryd.prog 13 #[pP p, .string n, .int .i64 sector, .int .u8 x] w (ZPost w0 p (rot S n.data.toList sector x) Z w) := by
  obtain ⟨l, rfl, hI, ha, hw, hz⟩ := h
  exact (rot_any l S n sector x w hI hn hx hsw).mono fun e w' h => op_z rfl hw ha hz h
end
theorem InZ.more {w0 w w' : World} {p : Nat} {S : St} {Z Z' : Nat → Prop} (h : InZ w0 p S Z w) (hb : Below w.heap.size w w') (hZ : ∀ b, Z' b → Z b ∨ w.heap.size ≤ b ∧ b < w'.heap.size) : InZ w0 p S Z' w' := by
  obtain ⟨l, hp, hI, ha, hw, hz⟩ := h
  refine ⟨l, hp, hI.below hb, ha, hw.trans (hb.mono hw.size), fun b h => ?_⟩
  rcases hZ b h with h1 | h1
  · exact ⟨Nat.lt_of_lt_of_le (hz b h1).1 hb.size, (hz b h1).2⟩
  · exact ⟨h1.2, fun h' => by have := hI.lt b h'; omega⟩
theorem InZ.fewer {w0 w : World} {p : Nat} {S : St} {Z Z' : Nat → Prop} (h : InZ w0 p S Z w) (hZ : ∀ b, Z' b → Z b) : InZ w0 p S Z' w := by
  obtain ⟨l, hp, hI, ha, hw, hz⟩ := h
  exact ⟨l, hp, hI, ha, hw, fun b h => hz b (hZ b h)⟩
theorem InH.toZ0 {w0 w : World} {p : Nat} {S : St} (h : InH w0 p S w) : InZ w0 p S (fun _ => False) w := by
  obtain ⟨l, hp, hI, ha, hw⟩ := h
  exact ⟨l, hp, hI, ha, hw, fun b h => h.elim⟩
theorem InZ.turn {w0 w w' : World} {p : Nat} {S : St} {Z : Nat → Prop} (h : InZ w0 p S Z w) {k : Nat} (hk : Z k) (hk0 : w0.heap.size ≤ k) (hg : w.grownBy w' (some k)) : InZ w0 p S Z w' := by
  obtain ⟨l, hp, hI, ha, hw, hz⟩ := h
  exact ⟨l, hp, hI.keep fun b hb => hg.block b (hI.lt b hb) (fun e => (hz k hk).2 (by cases e; exact hb)), ha, hw.grown hg hw.size (fun j hj => by cases hj; exact hk0), fun b h => ⟨Nat.lt_of_lt_of_le (hz b h).1 hg.size, (hz b h).2⟩⟩
theorem InZ.bel {w0 w : World} {p : Nat} {S : St} {Z : Nat → Prop} (h : InZ w0 p S Z w) : Below w0.heap.size w0 w := h.toH.bel
theorem crash_new {w0 w : World} {p : Nat} {S : St} (n : Int) (a : Option Addr) (len cap : Nat) (zs : List Int) (h : InH w0 p S w) (hr : IsRow .i64 w a len cap zs) (hc : S.calls ≤ 1099511627776) :
    Calls Tryd.prog 23 #[pP p, .int .i64 n, .slice a len cap] w fun e w' => ∃ q, e = .returned (pP q) ∧ InH w q (crash S n (zs.take len)) w' := by
  obtain ⟨l, rfl, hI, ha, hw⟩ := h
  refine (crash_any l S n a len cap zs w hI hr hc).mono ?_
  rintro e w' ⟨l', rfl, hI', ha', hb⟩
  exact ⟨l'.p, rfl, ⟨l', rfl, hI'.out, ha', hb.out⟩⟩
theorem new_n (n : Int) (w : World) : Calls Tryd.prog 9 #[.int .i64 n] w fun e w' => ∃ p, e = .returned (pP p) ∧ InH w p (new n) w' := by
  refine (new_any n w).mono ?_
  rintro e w' ⟨l, rfl, hI, ha, hb⟩
  exact ⟨l.p, rfl, ⟨l, rfl, hI.out, ha, hb.out⟩⟩
end Go.Proofs.YtdjkkohckfndkaaDoor.S13

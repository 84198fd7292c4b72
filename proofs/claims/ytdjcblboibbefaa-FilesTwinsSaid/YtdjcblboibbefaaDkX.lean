/- disk: a file system in hand beside blocks that it leaves alone; foliolaw13.FilesRot: the walk. -/
import Derived.Test.YtdjcblboibbefaaDkW
set_option linter.unusedSimpArgs false
set_option linter.unusedVariables false
set_option maxRecDepth 100000
namespace Go.Proofs.Ytdjcblboibbefaa.S13
open Go.RowKit Go.Maps Go.Shelf Dk
/-- .. and it lies apart from the blocks Z -/
def InZ (w0 : World) (p : Nat) (S : St) (Z : Nat → Prop) (w : World) : Prop :=
  ∃ l, l.p = p ∧ IsFS w l S ∧ (∀ b, l.at S.F.length b → w0.heap.size ≤ b) ∧ Below w0.heap.size w0 w ∧ ∀ b, Z b → b < w.heap.size ∧ ¬ l.at S.F.length b
def ZPost (w0 : World) (p : Nat) (r : St × Nat) (Z : Nat → Prop) (w : World) (e : Ending) (w' : World) : Prop :=
  e = .returned (errV r.2) ∧ InZ w0 p r.1 Z w' ∧ ∀ b, Z b → w'.heap[b]? = w.heap[b]?
section
variable {w0 w w' : World} {p : Nat} {S : St} {Z : Nat → Prop}
theorem InH.toZ (h : InH w0 p S w) (hb : Below w.heap.size w w') (hZ : ∀ b, Z b → w.heap.size ≤ b ∧ b < w'.heap.size) : InZ w0 p S Z w' := by
  obtain ⟨l, hp, hI, ha, hw⟩ := h
  exact ⟨l, hp, hI.below hb, ha, hw.trans (hb.mono hw.size), fun b hz => ⟨(hZ b hz).2, fun h' => by have := hI.lt b h'; have := (hZ b hz).1; omega⟩⟩
theorem InZ.toH (h : InZ w0 p S Z w) : InH w0 p S w := by
  obtain ⟨l, hp, hI, ha, hw, _⟩ := h
  exact ⟨l, hp, hI, ha, hw⟩
theorem InZ.below (h : InZ w0 p S Z w) (hb : Below w.heap.size w w') : InZ w0 p S Z w' := by
  obtain ⟨l, hp, hI, ha, hw, hz⟩ := h
  exact ⟨l, hp, hI.below hb, ha, hw.trans (hb.mono hw.size), fun b h => ⟨Nat.lt_of_lt_of_le (hz b h).1 hb.size, (hz b h).2⟩⟩
theorem op_z {l : Lay} {r : St × Nat} {e : Ending} (hp : l.p = p) (hw : Below w0.heap.size w0 w) (ha : ∀ b, l.at S.F.length b → w0.heap.size ≤ b) (hz : ∀ b, Z b → b < w.heap.size ∧ ¬ l.at S.F.length b) (h : OpPost l S r w e w') : ZPost w0 p r Z w e w' := by
  obtain ⟨he, l', hp', hI, hS⟩ := h
  exact ⟨he, ⟨l', hp'.trans hp, hI.out, hS.out.base hw.size ha, hw.trans (hS.out.below hw.size ha), fun b hb => ⟨Nat.lt_of_lt_of_le (hz b hb).1 hS.out.size, fun h' => (hS.out.more b h').elim (hz b hb).2 (fun h2 => by have := (hz b hb).1; omega)⟩⟩, fun b hb => hS.out.block b (hz b hb).1 (hz b hb).2⟩
theorem create_z (n : ByteArray) (h : InZ w0 p S Z w) (hn : n.size ≤ maxLen) (hc : S.calls ≤ 1099511627776) : Calls Try.prog 13 #[pP p, .string n] w (ZPost w0 p (create S n.data.toList) Z w) := by
  obtain ⟨l, rfl, hI, ha, hw, hz⟩ := h
  exact (create_any l S n w hI hn hc).mono fun e w' h => op_z rfl hw ha hz h
theorem append_z (n : ByteArray) (v : Value) (B : List Nat) (h : InZ w0 p S Z w) (hn : n.size ≤ maxLen) (hc : S.calls ≤ 1099511627776) (hv : IsBytes w v B) (hB : B.length ≤ 1000000) : Calls Try.prog 14 #[pP p, .string n, v] w (ZPost w0 p (append S n.data.toList B) Z w) := by
  obtain ⟨l, rfl, hI, ha, hw, hz⟩ := h
  exact (append_any l S n v B w hI hn hc hv hB (fs_bytes hI hv)).mono fun e w' h => op_z rfl hw ha hz h
theorem sync_z (n : ByteArray) (h : InZ w0 p S Z w) (hn : n.size ≤ maxLen) (hc : S.calls ≤ 1099511627776) : Calls Try.prog 15 #[pP p, .string n] w (ZPost w0 p (sync S n.data.toList) Z w) := by
  obtain ⟨l, rfl, hI, ha, hw, hz⟩ := h
  exact (sync_any l S n w hI hn hc).mono fun e w' h => op_z rfl hw ha hz h
theorem syncDir_z (h : InZ w0 p S Z w) (hc : S.calls ≤ 1099511627776) : Calls Try.prog 16 #[pP p] w (ZPost w0 p (syncDir S) Z w) := by
  obtain ⟨l, rfl, hI, ha, hw, hz⟩ := h
  exact (syncDir_any l S w hI hc).mono fun e w' h => op_z rfl hw ha hz h
theorem rename_z (a n : ByteArray) (h : InZ w0 p S Z w) (ha' : a.size ≤ maxLen) (hn : n.size ≤ maxLen) (hc : S.calls ≤ 1099511627776) : Calls Try.prog 17 #[pP p, .string a, .string n] w (ZPost w0 p (rename S a.data.toList n.data.toList) Z w) := by
  obtain ⟨l, rfl, hI, ha, hw, hz⟩ := h
  exact (rename_any l S a n w hI ha' hn hc).mono fun e w' h => op_z rfl hw ha hz h
theorem remove_z (n : ByteArray) (h : InZ w0 p S Z w) (hn : n.size ≤ maxLen) (hc : S.calls ≤ 1099511627776) : Calls Try.prog 18 #[pP p, .string n] w (ZPost w0 p (remove S n.data.toList) Z w) := by
  obtain ⟨l, rfl, hI, ha, hw, hz⟩ := h
  exact (remove_any l S n w hI hn hc).mono fun e w' h => op_z rfl hw ha hz h
theorem rot_z (n : ByteArray) (sector : Int) (x : Nat) (h : InZ w0 p S Z w) (hn : n.size ≤ maxLen) (hx : x < 256) (hsw : (Lit.int .i64 sector).wf = true) : Calls Try.prog 23 #[pP p, .string n, .int .i64 sector, .int .u8 x] w (ZPost w0 p (rot S n.data.toList sector x) Z w) := by
  obtain ⟨l, rfl, hI, ha, hw, hz⟩ := h
  exact (rot_any l S n sector x w hI hn hx hsw).mono fun e w' h => op_z rfl hw ha hz h
end
theorem own_same {w w' : World} {base e s n g cap : Nat} {xs : List Value} (h : w.ownsRow base e s (.slice (some ⟨g, 0, none⟩) n cap) n xs) (hs : w'.heap[g]? = w.heap[g]?) : w'.ownsRow base e s (.slice (some ⟨g, 0, none⟩) n cap) n xs := by
  obtain ⟨hl, ⟨he, h0⟩ | ⟨g', cap', cur, hv, hg, hh, r⟩⟩ := h
  · simp at he
  · simp at hv
    obtain ⟨rfl, rfl⟩ := hv
    exact ⟨hl, .inr ⟨g, cap, cur, rfl, hg, hs.trans hh, r⟩⟩
/-- the bytes that are written: 0, 3, 6 .. -/
def byB (n i : Nat) : List Nat := (List.range n).map fun j => if j < i then j * 3 % 256 else 0
theorem byB_length (n i : Nat) : (byB n i).length = n := by simp [byB]
theorem byB_lt (n i : Nat) : ∀ x ∈ byB n i, x < 256 := by
  intro x hx
  obtain ⟨j, _, rfl⟩ := List.mem_map.1 hx
  split <;> omega
theorem byB_0 (n : Nat) : byB n 0 = List.replicate n 0 := by
  apply List.ext_getElem?
  intro j
  simp only [byB, List.getElem?_map, List.getElem?_replicate]
  by_cases h : j < n
  · rw [List.getElem?_range h]; simp [h]
  · rw [List.getElem?_eq_none (by simp; omega)]; simp [h]
theorem byB_step {n i : Nat} (h : i < n) : (byB n i).set i (i * 3 % 256) = byB n (i + 1) := by
  apply List.ext_getElem?
  intro j
  rw [List.getElem?_set, byB_length]
  simp only [byB, List.getElem?_map]
  by_cases hj : i = j
  · subst hj
    rw [if_pos rfl, if_pos h, List.getElem?_range h]
    simp
  · rw [if_neg hj]
    by_cases h2 : j < n
    · rw [List.getElem?_range h2]
      simp only [Option.map_some]
      by_cases h3 : j < i
      · rw [if_pos h3, if_pos (by omega)]
      · rw [if_neg h3, if_neg (by omega)]
    · rw [List.getElem?_eq_none (by simp; omega)]; rfl
theorem rotB_twice {X : List Nat} (k x : Nat) : rotB (rotB X k x) k x = X := by
  apply List.ext_getElem?
  intro j
  simp only [rotB, List.getElem?_mapIdx]
  cases X[j]? with
  | none => rfl
  | some y =>
    simp only [Option.map_some]
    split
    · rw [Nat.xor_assoc, Nat.xor_self, Nat.xor_zero]
    · rfl
theorem rotB_get (X : List Nat) (k x j : Nat) (h : j < X.length) : (rotB X k x).getD j 0 = if j / 64 = k then X.getD j 0 ^^^ ((x + j % 64) % 256) else X.getD j 0 := by
  simp only [rotB, List.getD_eq_getElem?_getD, List.getElem?_mapIdx, List.getElem?_eq_getElem h, Option.map_some, Option.getD_some]
theorem stF_rot_no (B : List Nat) (c : Nat) (k : Int) (x : Nat) (h : k < 0 ∨ (B.length : Int) ≤ k * 64) : rot (stF B c none) [97] k x = (stF B c none, 7) := by
  have e : rot (stF B c none) [97] k x = if k < 0 ∨ (B.length : Int) ≤ k * 64 then (stF B c none, 7) else (stF (rotB B k.toNat x) c none, 0) := rfl
  rw [e, if_pos h]
theorem stF_rot (B : List Nat) (c k x : Nat) (h : k * 64 < B.length) : rot (stF B c none) [97] (k : Int) x = (stF (rotB B k x) c none, 0) := by
  have e : rot (stF B c none) [97] (k : Int) x = if (k : Int) < 0 ∨ (B.length : Int) ≤ (k : Int) * 64 then (stF B c none, 7) else (stF (rotB B (k : Int).toNat x) c none, 0) := rfl
  rw [e, if_neg (by omega), Int.toNat_natCast]
attribute [local go_sem ↓] conv_eq
set_option maxHeartbeats 32000000 in
theorem filesRot_walk (n sector x : Int) (w : World) (hn : (Lit.int .i64 n).wf = true) (hs : (Lit.int .i64 sector).wf = true) (hx : (Lit.int .u8 x).wf = true) :
    Calls Try.prog 8 #[.int .i64 n, .int .i64 sector, .int .u8 x] w fun e w' => e = .returned (.bool true) ∧ Below w.heap.size w w' := by
  have hbeg := begun_any w
  by_cases h1 : n < 0
  · have d1 : decide (n < 0) = true := by simpa using h1
    go_enter Try.func8, Try.ntmps8
    go_wp2_with fail
    refine hbeg.mono ?_
    rintro e w1 ⟨rfl, hb⟩
    have HB := Lib.hid hb
    clear hbeg hb
    go_wp2_with fail
    go_ret
    exact ⟨rfl, HB.out⟩
  by_cases h2 : 400 < n
  · have d1 : decide (n < 0) = false := by simp; omega
    have d2 : decide (400 < n) = true := by simpa using h2
    go_enter Try.func8, Try.ntmps8
    go_wp2_with fail
    refine hbeg.mono ?_
    rintro e w1 ⟨rfl, hb⟩
    have HB := Lib.hid hb
    clear hbeg hb
    go_wp2_with fail
    go_ret
    exact ⟨rfl, HB.out⟩
  have d1 : decide (n < 0) = false := by simp; omega
  have d2 : decide (400 < n) = false := by simp; omega
  obtain ⟨n, rfl⟩ : ∃ m : Nat, n = (m : Int) := ⟨n.toNat, by omega⟩
  have hx8 := u8_wf hx
  obtain ⟨x, rfl⟩ : ∃ m : Nat, x = (m : Int) := ⟨x.toNat, by omega⟩
  have hx256 : x < 256 := by omega
  have hn4 : n ≤ 400 := by omega
  have e2 : decide (400 < n) = false := by simp; omega
  have hmk := fun W => run_makeB n (by omega) W
  clear h1 h2 hx hx8
  go_enter Try.func8, Try.ntmps8
  go_wp2_with fail
  refine hbeg.mono ?_
  rintro e w1 ⟨rfl, hb⟩
  have hnew := new_h (w0 := w) 1000 hb
  clear hbeg hb
  go_wp2_with fail
  refine hnew.mono ?_
  rintro e w6 ⟨p, rfl, hI, _⟩
  have HI := Lib.hid hI
  have HA : Hid (World.ownsRow (w6.alloc (.cells (u8s (List.replicate n 0)).toArray 5)) w6.heap.size 5 1 (.slice (some ⟨w6.heap.size, 0, none⟩) n n) n (u8s (byB n 0))) := Lib.hid (by
    have := own_new w6 (u8s (List.replicate n 0)) 5 (Nat.le_refl _) (by rw [u8s_length, List.length_replicate]; unfold maxLen; omega)
    rw [u8s_length, List.length_replicate] at this
    rw [byB_0]; exact this)
  have HB0 : Hid (Below w6.heap.size w6 (w6.alloc (.cells (u8s (List.replicate n 0)).toArray 5))) := Lib.hid ((Below.refl _ _).alloc (Nat.le_refl _) _)
  clear hnew hI d1 d2 e2
  go_wp2_with fail
  obtain ⟨w7, hw7⟩ : ∃ w7, w6.alloc (.cells (u8s (List.replicate n 0)).toArray 5) = w7 := ⟨_, rfl⟩
  rw [hw7] at HA HB0 ⊢
  clear hw7 hmk
  go_loopw [10] (fun v wr => ∃ i : Nat, i ≤ n ∧ v = .int .i64 i ∧ wr.ownsRow w6.heap.size 5 1 (.slice (some ⟨w6.heap.size, 0, none⟩) n n) n (u8s (byB n i)) ∧ Below w6.heap.size w6 wr) (fun v _ => n - (intOf v).toNat)
  case atStart => exact ⟨0, by omega, rfl, HA.out, HB0.out⟩
  case round =>
    obtain ⟨i, hi, rfl, ho, hb⟩ := hrel
    have HO := Lib.hid ho
    have HB := Lib.hid hb
    clear ho hb HA HB0
    by_cases hlt : i < n
    · have hc := own_cell HO.out (i := i) (by omega)
      have hfz := HO.out.frozenAt i
      obtain ⟨z, hz⟩ : ∃ z, i * 3 % 256 = z := ⟨_, rfl⟩
      have hzI : ((i : Int) * 3) % 256 = (z : Nat) := by omega
      have hst := HO.out.stored i (.int .u8 (z : Nat))
      have hbs := byB_step hlt
      rw [hz] at hbs
      rw [u8s_set, hbs] at hst
      have HST := Lib.hid hst
      clear hst hbs hz
      go_wp2_with fail
      refine ⟨⟨i + 1, by omega, by go_num, HST.out.1, HB.out.trans (((Gr.refl wr w6.heap.size).setCell i _).below HB.out.size (Nat.le_refl _))⟩, by simp [intOf]; omega⟩
    · obtain rfl : i = n := by omega
      have hwg : w6.heap.size < wr.heap.size := by
        have := HO.out.lt w6.heap.size rfl
        exact this.2
      have hI7 : InZ w p (new 1000) (fun b => b = w6.heap.size) wr := HI.out.toZ HB.out (fun b hb => by subst hb; exact ⟨Nat.le_refl _, hwg⟩)
      have hcall := create_z ⟨#[97]⟩ hI7 (by decide) (by decide)
      change Calls _ _ _ _ (ZPost w p (create (new 1000) [97]) (fun b => b = w6.heap.size) wr) at hcall
      rw [stF_new] at hcall
      clear hI7 HI HB
      go_wp2_with fail
      refine hcall.mono ?_
      rintro e w8 ⟨rfl, hI8, hz8⟩
      have ho8 := own_same HO.out (hz8 _ rfl)
      clear hcall HO hz8
      unfold errV
      have hbt : IsBytes w8 (.slice (some ⟨w6.heap.size, 0, none⟩) i i) (byB i i) := by
        have := isBytes_own (B := byB i i) (byB_lt i i) (sp := some ⟨w6.heap.size, 0, none⟩) (cap := i) (base := w6.heap.size) (w := w8) (by rw [byB_length]; exact ho8)
        rw [byB_length] at this
        exact this
      have hcall := append_z ⟨#[97]⟩ _ (byB i i) hI8 (by decide) (by decide) hbt (by rw [byB_length]; omega)
      change Calls _ _ _ _ (ZPost w p (append (stF [] 1 none) [97] (byB i i)) (fun b => b = w6.heap.size) w8) at hcall
      rw [stF_app_ok [] (byB i i) 1 (by rw [byB_length]; simp; omega), List.nil_append] at hcall
      have HO8 := Lib.hid ho8
      clear hI8 hbt ho8
      go_wp2_with fail
      refine hcall.mono ?_
      rintro e w9 ⟨rfl, hI9, hz9⟩
      have HO9 := Lib.hid (own_same HO8.out (hz9 _ rfl))
      clear hcall HO8 hz9
      unfold errV
      by_cases hrange : sector < 0 ∨ (i : Int) ≤ sector * 64
      · have hcall := rot_z ⟨#[97]⟩ sector x hI9 (by decide) hx256 hs
        change Calls _ _ _ _ (ZPost w p (rot (stF (byB i i) 2 none) [97] sector x) (fun b => b = w6.heap.size) w9) at hcall
        rw [stF_rot_no _ _ _ _ (by rw [byB_length]; exact hrange)] at hcall
        clear hI9
        go_wp2_with fail
        refine hcall.mono ?_
        rintro e w10 ⟨rfl, hI10, _⟩
        have HBE := Lib.hid hI10.toH.bel
        clear hcall hI10
        unfold errV
        by_cases g1 : sector < 0
        · have q1 : decide (sector < 0) = true := by simpa using g1
          go_wp2_with fail
          go_ret
          exact ⟨rfl, HBE.out⟩
        · have q1 : decide (sector < 0) = false := by simpa using g1
          by_cases g2 : 10 < sector
          · have q2 : decide (10 < sector) = true := by simpa using g2
            go_wp2_with fail
            go_ret
            exact ⟨rfl, HBE.out⟩
          · have q2 : decide (10 < sector) = false := by simpa using g2
            obtain ⟨y, hy⟩ : ∃ y : Int, sector * 64 = y := ⟨_, rfl⟩
            have hyw : wrap64 (sector * 64) = y := by unfold wrap64; omega
            have hyi : IntKind.i64.wrap (sector * 64) = y := by rw [IntKind.wrap_i64]; omega
            have q3 : decide ((i : Int) ≤ y) = true := by simp; omega
            clear hy
            go_wp2_with fail
            go_ret
            exact ⟨rfl, HBE.out⟩
      · obtain ⟨k, rfl⟩ : ∃ k : Nat, sector = (k : Int) := ⟨sector.toNat, by omega⟩
        have hki : k * 64 < i := by omega
        have hcall := rot_z ⟨#[97]⟩ (k : Int) x hI9 (by decide) hx256 hs
        change Calls _ _ _ _ (ZPost w p (rot (stF (byB i i) 2 none) [97] (k : Int) x) (fun b => b = w6.heap.size) w9) at hcall
        rw [stF_rot _ _ _ _ (by rw [byB_length]; exact hki)] at hcall
        clear hI9
        go_wp2_with fail
        refine hcall.mono ?_
        rintro e w10 ⟨rfl, hI10, hz10⟩
        have HO10 := Lib.hid (own_same HO9.out (hz10 _ rfl))
        clear hcall HO9 hz10
        unfold errV
        have hcall := read_h ⟨#[97]⟩ hI10.toH (by decide)
        change Calls _ _ _ _ (ReadPost (readF (stF (rotB (byB i i) k x) 2 none) [97]) w10) at hcall
        rw [stF_read] at hcall
        unfold ReadPost at hcall
        simp only [rotB_length, byB_length] at hcall
        have HI10 := Lib.hid hI10
        have q1 : decide ((k : Int) < 0) = false := by simp
        have q2 : decide ((10 : Int) < (k : Int)) = false := by simp; omega
        have q2' : decide (10 < k) = false := by simp; omega
        obtain ⟨y, hy⟩ : ∃ y : Nat, k * 64 = y := ⟨_, rfl⟩
        have hyI : (k : Int) * 64 = (y : Int) := by omega
        have hyi : y < i := by omega
        have q3 : decide ((i : Int) ≤ (y : Int)) = false := by simp; omega
        have q3' : decide (i ≤ y) = false := by simp; omega
        have HY := Lib.hid hy
        clear hI10 hrange hy
        go_wp2_with fail
        refine hcall.mono ?_
        rintro e w11 ⟨hb11, sp, cp, rfl, ho11, hx11⟩
        have HO11 : Hid (w11.ownsRow w6.heap.size 5 1 (.slice (some ⟨w6.heap.size, 0, none⟩) i i) i (u8s (byB i i))) := Lib.hid (own_below HO10.out hb11.out)
        have HI11 := Lib.hid (HI10.out.below hb11.out)
        clear hcall hb11 HO10 HI10
        unfold errV
        go_wp2_with fail
        clear hyI q1 q2 q2' q3 q3'
        go_loopw [14] (fun v wr => ∃ j : Nat, j ≤ i ∧ v = .int .i64 j ∧ wr = w11) (fun v _ => i - (intOf v).toNat)
        case atStart => exact ⟨0, by omega, rfl, rfl⟩
        case round =>
          obtain ⟨j, hj, rfl, hwr⟩ := hrel
          have HOb : Hid (wr.ownsRow w6.heap.size 5 1 (.slice (some ⟨w6.heap.size, 0, none⟩) i i) i (u8s (byB i i))) := Lib.hid (by rw [hwr]; exact HO11.out)
          have HOc : Hid (wr.ownsRow w10.heap.size 5 1 (.slice sp i cp) i (u8s (rotB (byB i i) k x))) := Lib.hid (by rw [hwr]; exact ho11.out)
          have HIr : Hid (InZ w p (stF (rotB (byB i i) k x) 2 none) (fun b => b = w6.heap.size) wr) := Lib.hid (by rw [hwr]; exact HI11.out)
          have HWR := Lib.hid hwr
          clear hwr
          by_cases hlt2 : j < i
          · obtain ⟨g, _, he, _⟩ := own_open HOc.out (by omega)
            simp at he
            obtain ⟨rfl, rfl⟩ := he
            have hc1 := own_cell HOb.out hlt2
            have hc2 := own_cell HOc.out hlt2
            rw [rotB_get _ _ _ _ (by rw [byB_length]; exact hlt2)] at hc2
            have hb8 := getD_lt (byB_lt i i) j
            obtain ⟨bv, hbv⟩ : ∃ bv, (byB i i).getD j 0 = bv := ⟨_, rfl⟩
            rw [hbv] at hc1 hc2 hb8
            obtain ⟨d, hd⟩ : ∃ d, j / 64 = d := ⟨_, rfl⟩
            have hdI : (j : Int) / 64 = (d : Nat) := by omega
            rw [hd] at hc2
            by_cases hdk : d = k
            · rw [if_pos hdk] at hc2
              obtain ⟨r, hr⟩ : ∃ r, j % 64 = r := ⟨_, rfl⟩
              have hrI : (j : Int) % 64 = (r : Nat) := by omega
              have hr6 : (r : Int) % 256 = (r : Nat) := by omega
              obtain ⟨z, hz⟩ : ∃ z, (x + r) % 256 = z := ⟨_, rfl⟩
              have hzI : ((x : Int) + (r : Int)) % 256 = (z : Nat) := by omega
              have hz8 : z < 256 := by omega
              rw [hr, hz] at hc2
              obtain ⟨u, hu⟩ : ∃ u, bv ^^^ z = u := ⟨_, rfl⟩
              have hxe : bits BinOp.xor IntKind.u8 (bv : Int) (z : Int) = (u : Int) := by rw [u8_xor_nat bv z hb8 hz8, hu]
              rw [hu] at hc2
              have q7 : ((d : Int) == (k : Int)) = true := beq_t (by omega)
              have q8 : ((u : Int) != (u : Int)) = false := bne_f rfl
              clear hbv hd hr hz hu hdk
              go_wp2_with fail
              go_roundw
              case rel => exact ⟨j + 1, by omega, by go_num, HWR.out⟩
              case measure => simp [intOf]; omega
            · rw [if_neg hdk] at hc2
              have q7 : ((d : Int) == (k : Int)) = false := beq_f (by omega)
              have q8 : ((bv : Int) != (bv : Int)) = false := bne_f rfl
              clear hbv hd hdk
              go_wp2_with fail
              go_roundw
              case rel => exact ⟨j + 1, by omega, by go_num, HWR.out⟩
              case measure => simp [intOf]; omega
          · obtain rfl : j = i := by omega
            have hcall := rot_z ⟨#[97]⟩ (k : Int) x HIr.out (by decide) hx256 hs
            change Calls _ _ _ _ (ZPost w p (rot (stF (rotB (byB j j) k x) 2 none) [97] (k : Int) x) (fun b => b = w6.heap.size) wr) at hcall
            rw [stF_rot _ _ _ _ (by rw [rotB_length, byB_length]; exact hki), rotB_twice] at hcall
            clear HIr HOc
            go_wp2_with fail
            refine hcall.mono ?_
            rintro e w12 ⟨rfl, hI12, hz12⟩
            have HO12 := Lib.hid (own_same HOb.out (hz12 _ rfl))
            have hcall := read_h ⟨#[97]⟩ hI12.toH (by decide)
            change Calls _ _ _ _ (ReadPost (readF (stF (byB j j) 2 none) [97]) w12) at hcall
            rw [stF_read] at hcall
            unfold ReadPost at hcall
            simp only [byB_length] at hcall
            have HBE := Lib.hid hI12.toH.bel
            clear hI12 hz12 HOb
            unfold errV
            go_wp2_with fail
            refine hcall.mono ?_
            rintro e w13 ⟨hb13, sp2, cp2, rfl, ho13, hx13⟩
            have HB13 := Lib.hid (HBE.out.trans (hb13.out.mono HBE.out.size))
            have ho14 : w13.ownsRow w6.heap.size 5 1 (.slice (some ⟨w6.heap.size, 0, none⟩) j j) j (u8s (byB j j)) := own_below HO12.out hb13.out
            have hcv1 := run_conv (isBytes_own (B := byB j j) hx13.out (sp := sp2) (cap := cp2) (by rw [byB_length]; exact ho13.out))
            have hcv2 := run_conv (isBytes_own (B := byB j j) hx13.out (sp := some ⟨w6.heap.size, 0, none⟩) (cap := j) (by rw [byB_length]; exact ho14))
            simp only [byB_length] at hcv1 hcv2
            clear hcall hb13 ho13 hx13 ho14 HBE
            generalize str (byB j j) = SS at hcv1 hcv2
            unfold errV
            go_wp2_with fail
            go_ret
            exact ⟨by simp, HB13.out⟩
end Go.Proofs.Ytdjcblboibbefaa.S13

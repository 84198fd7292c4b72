/- Texts put together: DkA. -/
import Derived.Test.YthgpdnffahmhjaaGreatDoorMg2
import Derived.Test.YthgpdnffahmhjaaGreatDoorMg22
import Derived.Test.YthgpdnffahmhjaaGreatDoorDkL
import Derived.Maps.OwnSet
import Derived.Maps.RangeWalk
set_option linter.unusedSimpArgs false
set_option linter.unusedVariables false
set_option maxRecDepth 100000
namespace Go.Proofs.YthgpdnffahmhjaaGreatDoor.S13
open Go.RowKit Go.Maps Go.Shelf Go.Sort Dk

def ptrO : Option Nat → Value
  | some b => .pointer (some ⟨b, 0, none⟩)
  | none => .pointer none
def ptrE : Value → Option (DataW Unit × List MemPlace)
  | .pointer (some ⟨b, 0, none⟩) => some (.lit (.int .i64 (b : Nat)), [])
  | .pointer none => some (.nil, [])
  | _ => none
theorem ptrE_inv {v : Value} {z : DataW Unit × List MemPlace} (h : ptrE v = some z) : ∃ o, v = ptrO o ∧ z = (match o with | some b => .lit (.int .i64 (b : Nat)) | none => .nil, []) := by
  unfold ptrE at h
  split at h
  · cases h; exact ⟨some _, rfl, rfl⟩
  · cases h; exact ⟨none, rfl, rfl⟩
  · cases h
theorem ptrE_mk (b : Nat) : ptrE (ptrO (some b)) = some (.lit (.int .i64 (b : Nat)), []) := rfl
theorem law : Keyed Tryz.prog 9 := string_keyed Tryz.underlying9
theorem zeroP (w : World) : (zeroValue 61).run Tryz.prog w = .ok (.pointer none) w := by kernel_rfl
theorem own_tight {w : World} {b n : Nat} {D : DataW Unit} {k : TypeId} {R : Value → Option (DataW Unit × List MemPlace)} (h : w.ownsMap Tryz.prog k R b n D) : w.ownsMap Tryz.prog k R b (Maps.size D) D := by
  obtain ⟨es, clock, hb, F, hs, rfl⟩ := h
  exact ⟨es, clock, hb, F, by simp [Maps.size, length_sorted], rfl⟩
def IsDir (w : World) (mv : Option Nat) (β : Nat → Nat) (L : Dir) : Prop :=
  (mv = none ∧ L = []) ∨ ∃ b, mv = some b ∧ w.ownsMap Tryz.prog 9 ptrE b L.length (dD β L)
namespace IsDir
variable {w w' : World} {mv : Option Nat} {β β' : Nat → Nat} {L : Dir}
theorem own {b : Nat} (h : IsDir w (some b) β L) : w.ownsMap Tryz.prog 9 ptrE b L.length (dD β L) := by
  obtain ⟨h, _⟩ | ⟨b', hb, h⟩ := h
  · cases h
  · cases hb; exact h
theorem of_own {b n : Nat} (h : w.ownsMap Tryz.prog 9 ptrE b n (dD β L)) : IsDir w (some b) β L := .inr ⟨b, rfl, by rw [← dD_size β L]; exact own_tight h⟩
theorem lt (h : IsDir w mv β L) : ∀ b, mv = some b → b < w.heap.size := by
  intro b hb; subst hb; exact h.own.lt
theorem keep (h : IsDir w mv β L) (hk : ∀ b, mv = some b → w'.heap[b]? = w.heap[b]?) : IsDir w' mv β L := by
  obtain ⟨rfl, rfl⟩ | ⟨b, rfl, h⟩ := h
  · exact .inl ⟨rfl, rfl⟩
  · obtain ⟨es, clock, hb, F, hs, hD⟩ := h
    exact .inr ⟨b, rfl, es, clock, (hk b rfl).trans hb, F, hs, hD⟩
theorem congr (h : IsDir w mv β L) (hc : ∀ p ∈ L, β p.2 = β' p.2) : IsDir w mv β' L := by
  obtain ⟨rfl, rfl⟩ | ⟨b, rfl, h⟩ := h
  · exact .inl ⟨rfl, rfl⟩
  · exact .inr ⟨b, rfl, by rw [← dD_congr hc]; exact h⟩
theorem srt (h : IsDir w mv β L) : Srt L := by
  obtain ⟨rfl, rfl⟩ | ⟨b, rfl, h⟩ := h
  · exact List.Pairwise.nil
  · exact srt_of_canon (h.canon law)
theorem made (w : World) (β : Nat → Nat) : IsDir (w.alloc (.map #[] 0)) (some w.heap.size) β [] := .inr ⟨_, rfl, World.ownsMap_made w _ _ _⟩
end IsDir
theorem dir_look {w : World} {mv : Option Nat} {β : Nat → Nat} {L : Dir} (h : IsDir w mv β L) {s : ByteArray} (hs : s.size ≤ maxLen) :
    (Instr.lookup 49 (.map mv) (.string s) false).run Tryz.prog w = .ok (ptrO ((dget L s.data.toList).map β)) w := by
  have hkey := WideMaps.keyOf_string_mk (P := Tryz.prog) Tryz.underlying9 hs
  obtain ⟨rfl, rfl⟩ | ⟨b, rfl, h⟩ := h
  · exact Maps.look_nil false law Tryz.underlying49 (zeroP w) hkey
  · obtain ⟨v, ps, hr, hv⟩ := h.lookup law Tryz.underlying49 (zeroP w) (zd := .nil) (zp := []) rfl hkey
    rw [hr]
    obtain ⟨o, rfl, hz⟩ := ptrE_inv hv
    rw [dD_get] at hz
    cases hd : dget L s.data.toList with
    | none => rw [hd] at hz; cases o <;> simp at hz ⊢
    | some i =>
      rw [hd] at hz
      cases o with
      | none => simp at hz
      | some b' =>
        simp at hz
        obtain ⟨hz, _⟩ := hz
        have : β i = b' := by omega
        simp [this]
theorem dir_len {w : World} {mv : Option Nat} {β : Nat → Nat} {L : Dir} (h : IsDir w mv β L) (ty : TypeId) : (Builtin.len_ #[49] ty #[.map mv]).run Tryz.prog w = .ok (.int .i64 (L.length : Nat)) w := by
  obtain ⟨rfl, rfl⟩ | ⟨b, rfl, h⟩ := h
  · exact Maps.len_nil Tryz.underlying49 ty
  · rw [h.len Tryz.underlying49 ty, dD_size]
theorem dir_store {w : World} {b : Nat} {β : Nat → Nat} {L : Dir} (h : IsDir w (some b) β L) {s : ByteArray} (hs : s.size ≤ maxLen) (hL : L.length ≤ 1000000) (i : Nat) :
    ∃ w', (Instr.mapUpdate 49 (.map (some b)) (.string s) (ptrO (some (β i)))).run Tryz.prog w = .ok () w' ∧ IsDir w' (some b) β (dput L s.data.toList i) ∧ w.grownBy w' (some b) := by
  have hkey := WideMaps.keyOf_string_mk (P := Tryz.prog) Tryz.underlying9 hs
  obtain ⟨w', hr, h1, h2⟩ := h.own.update law Tryz.underlying49 (by unfold maxLen; omega) hkey (ptrE_mk (β i))
  rw [← dD_put] at h1
  exact ⟨w', hr, IsDir.of_own h1, h2⟩
theorem dir_del {w : World} {b : Nat} {β : Nat → Nat} {L : Dir} (h : IsDir w (some b) β L) {s : ByteArray} (hs : s.size ≤ maxLen) (ty : TypeId) :
    ∃ w', (Builtin.delete_ #[49, 9] ty #[.map (some b), .string s]).run Tryz.prog w = .ok (.tuple #[]) w' ∧ IsDir w' (some b) β (ddel L s.data.toList) ∧ w.grownBy w' (some b) := by
  have hkey := WideMaps.keyOf_string_mk (P := Tryz.prog) Tryz.underlying9 hs
  obtain ⟨w', hr, h1, h2⟩ := h.own.drop law Tryz.underlying49 hkey ty
  rw [← dD_del] at h1
  exact ⟨w', hr, IsDir.of_own h1, h2.grown⟩
theorem sorts (m : Nat) : AnyZ.SortsIn Tryz.prog lySorted_ren Fence.wide m :=
  ⟨fun blk off cap ss W hH hblk hsz => callsIn_wide.2 (AnyM.slices_Sort_string lySort blk off cap ss W hH hblk hsz),
   fun p cap W => callsIn_wide.2 (AnyM.slices_Sort_string_none lySort p cap W)⟩
theorem keys_in (mb : Option Nat) (W : World) : CallsIn Fence.wide 5 Tryz.prog 63 #[.map mb] W fun e w' => e = .returned (.func (.func 96) #[] #[.pointer (some ⟨W.heap.size, 0, none⟩)]) ∧ w' = W.alloc (.cells #[.map mb] 49) :=
  AnyZ.keys_in lyKeys Fence.wide 5 trivial rfl mb W
set_option maxHeartbeats 1000000 in
theorem sorted_in {H : Type} (b nn : Nat) (D0 : DataW H) (R : Value → Option (DataW H × List MemPlace)) (w : World) (hown : w.ownsMap Tryz.prog 9 R b nn D0) (hmax : Maps.size D0 ≤ maxLen) (hbytes : Maps.size D0 * 16 ≤ 140737488355328) :
    CallsIn Fence.wide 5 Tryz.prog 62 #[.func (.func 96) #[] #[.pointer (some ⟨w.heap.size, 0, none⟩)]] (w.alloc (.cells #[.map (some b)] 49)) fun e w' => ∃ (v : Value) (ss : List (List UInt8)), e = .returned v ∧ ss.Perm (strKeys D0) ∧
      w'.ownsRow (w.alloc (.cells #[.map (some b)] 49)).heap.size 9 1 v ss.length ((ss.mergeSort (fun x y => decide (x ≤ y))).map encStr) ∧ (v = .slice none 0 0 ↔ ss = []) ∧ Below (w.alloc (.cells #[.map (some b)] 49)).heap.size (w.alloc (.cells #[.map (some b)] 49)) w' := by
  have hbl := hown.lt
  have hseq : SeqGives Fence.wide 2 Tryz.prog 96 #[.pointer (some ⟨w.heap.size, 0, none⟩)] encStr (fun ss => ss.Perm (strKeys D0)) (Maps.size D0) (w.alloc (.cells #[.map (some b)] 49)) :=
    AnyZ.keys_gives (ρ := lyKeys_ren) { lyKeys with } Fence.wide _ trivial rfl (by omega) w.heap.size b nn D0 _ (by simp) (by simp) (by
      obtain ⟨es, clock, hb, Ft, hs, hD⟩ := hown
      exact ⟨es, clock, (Below.heap_alloc _ _ b hbl).trans hb, Ft, hs, hD⟩)
  exact AnyZ.sorted_in lySorted Fence.wide 5 trivial trivial trivial trivial rfl (by omega) (sorts _) (enters_of Tryz.func95 (by kernel_rfl) rfl) 96 #[.pointer (some ⟨w.heap.size, 0, none⟩)] trivial (enters_of Tryz.func96 (by kernel_rfl) rfl) _ _ hmax hbytes _ hseq
set_option maxHeartbeats 1000000 in
theorem sorted_nil_in (w : World) :
    CallsIn Fence.wide 5 Tryz.prog 62 #[.func (.func 96) #[] #[.pointer (some ⟨w.heap.size, 0, none⟩)]] (w.alloc (.cells #[.map none] 49)) fun e w' => ∃ (v : Value) (ss : List (List UInt8)), e = .returned v ∧ ss = [] ∧
      w'.ownsRow (w.alloc (.cells #[.map none] 49)).heap.size 9 1 v ss.length ((ss.mergeSort (fun x y => decide (x ≤ y))).map encStr) ∧ (v = .slice none 0 0 ↔ ss = []) ∧ Below (w.alloc (.cells #[.map none] 49)).heap.size (w.alloc (.cells #[.map none] 49)) w' := by
  have hseq : SeqGives Fence.wide 2 Tryz.prog 96 #[.pointer (some ⟨w.heap.size, 0, none⟩)] encStr (fun ss : List (List UInt8) => ss = []) 0 (w.alloc (.cells #[.map none] 49)) :=
    AnyZ.keys_gives_nil (ρ := lyKeys_ren) { lyKeys with } Fence.wide _ trivial rfl w.heap.size _ (by simp) (by simp)
  exact AnyZ.sorted_in lySorted Fence.wide 5 trivial trivial trivial trivial rfl (by omega) (sorts _) (enters_of Tryz.func95 (by kernel_rfl) rfl) 96 #[.pointer (some ⟨w.heap.size, 0, none⟩)] trivial (enters_of Tryz.func96 (by kernel_rfl) rfl) _ 0 (Nat.zero_le _) (by omega) _ hseq
def IsNames (w : World) (base : Nat) (v : Value) (L : Dir) : Prop := w.ownsRow base 9 1 v L.length ((L.map (·.1)).map encStr)
set_option maxHeartbeats 1000000 in
theorem names_any (mv : Option Nat) (β : Nat → Nat) (L : Dir) (w : World) (h : IsDir w mv β L) (hL : L.length ≤ 1000000) :
    Calls Tryz.prog 31 #[.map mv] w fun e w' => ∃ v, e = .returned v ∧ IsNames w' w.heap.size v L ∧ Below w.heap.size w w' := by
  have hsrt := h.srt
  refine (callsIn_wide (n := 6)).1 ?_
  have hfK : Fence.wide.fn 63 := trivial
  have hfS : Fence.wide.fn 62 := trivial
  refine callsIn_of_wp Tryz.func31 rfl trivial ?_ rfl
  simp only [Tryz.ntmps31, List.size_toArray, List.length_cons, List.length_nil, Nat.reduceAdd, Nat.reduceSub, Array.replicate_succ, Array.replicate_zero, List.push_toArray, List.append_toArray, List.nil_append, List.cons_append]
  obtain ⟨rfl, rfl⟩ | ⟨b, rfl, h⟩ := h
  · gi_wp2_with (first
      | (gi_at_call 63; refine (keys_in _ _).mono ?_; rintro e w' ⟨rfl, rfl⟩)
      | (gi_at_call 62; refine (sorted_nil_in w).mono ?_; rintro e w' ⟨v, ss, rfl, hS, hrow, hnil, hb⟩))
    go_ret
    subst hS
    rw [List.mergeSort_nil] at hrow
    exact ⟨v, rfl, ownsRow_base_a hrow (by simp), ((Below.refl _ w).alloc (Nat.le_refl _) _).trans (hb.mono (by simp))⟩
  · have hown := Lib.hid h
    clear h
    gi_wp2_with (first
      | (gi_at_call 63; refine (keys_in _ _).mono ?_; rintro e w' ⟨rfl, rfl⟩)
      | (gi_at_call 62; refine (sorted_in b L.length (dD β L) ptrE w hown.out (by rw [dD_size]; unfold maxLen; omega) (by rw [dD_size]; omega)).mono ?_; rintro e w' ⟨v, ss, rfl, hS, hrow, hnil, hb⟩))
    go_ret
    rw [dD_keys] at hS
    have hl : ss.length = L.length := by rw [hS.length_eq, List.length_map]
    rw [srt_sorted hsrt hS, hl] at hrow
    exact ⟨v, rfl, ownsRow_base_a hrow (by simp), ((Below.refl _ w).alloc (Nat.le_refl _) _).trans (hb.mono (by simp))⟩
theorem cloneM_any (mv : Option Nat) (β : Nat → Nat) (L : Dir) (w : World) (h : IsDir w mv β L) :
    Calls Tryz.prog 33 #[.map mv] w fun e w' => ∃ mv', e = .returned (.map mv') ∧ IsDir w' mv' β L ∧ (∀ b, mv' = some b → w.heap.size ≤ b) ∧ Below w.heap.size w w' := by
  obtain ⟨rfl, rfl⟩ | ⟨b, rfl, h⟩ := h
  · refine (show Calls Tryz.prog 33 _ _ _ from AnyW.maps_Clone_nil lyCloneM w).mono ?_
    rintro e w' ⟨rfl, rfl⟩
    exact ⟨none, rfl, .inl ⟨rfl, rfl⟩, (fun b hb => by cases hb), Below.refl _ _⟩
  · refine (show Calls Tryz.prog 33 _ _ _ from AnyW.maps_Clone_owns lyCloneM 9 ptrE b L.length (dD β L) w h).mono ?_
    rintro e w' ⟨rfl, h1, _, hb⟩
    exact ⟨some w.heap.size, rfl, .inr ⟨_, rfl, h1⟩, (fun b hb => by cases hb; exact Nat.le_refl _), hb⟩
theorem merge_empty {w : World} {b n : Nat} {D : DataW Unit} (h : w.ownsMap Tryz.prog 9 ptrE b n D) (h0 : CanonK (KeysOf Tryz.prog 9) (.map [] : DataW Unit)) : Lib.mergeD (.map []) D = D := by
  refine (merged_eq law.one (left := fun _ => false) ⟨fun k => ?_, fun k z => ?_⟩ (fun _ => rfl) (h.canon law) h0 (h.canonK law)).symm
  · cases Maps.has D k <;> rfl
  · cases hk : Maps.has D k
    · rw [atKey_of_not_has hk]; rfl
    · rfl
theorem copyM_any (b : Nat) (mv : Option Nat) (β : Nat → Nat) (L : Dir) (w : World) (h0 : IsDir w (some b) β []) (h : IsDir w mv β L) (hne : mv ≠ some b) (hL : L.length ≤ 1000000) :
    Calls Tryz.prog 61 #[.map (some b), .map mv] w fun e w' => e = .returned (.tuple #[]) ∧ IsDir w' (some b) β L ∧ w.grownBy w' (some b) := by
  have h0' := h0.own
  obtain ⟨rfl, rfl⟩ | ⟨b2, rfl, h⟩ := h
  · refine (show Calls Tryz.prog 61 _ _ _ from AnyX.maps_Copy_nil lyCopyM (some b) w).mono ?_
    rintro e w' ⟨rfl, rfl⟩
    exact ⟨rfl, .inr ⟨b, rfl, h0'.alloc _⟩, World.grownBy_alloc _ _ _⟩
  · refine (show Calls Tryz.prog 61 _ _ _ from AnyX.maps_Copy lyCopyM law ptrE b b2 0 L.length (.map []) (dD β L) w h0' h (fun e => hne (by rw [e])) (by rw [dD_size]; unfold maxLen; omega)).mono ?_
    rintro e w' ⟨rfl, h1, _, h3⟩
    rw [merge_empty h (h0'.canonK law)] at h1
    exact ⟨rfl, IsDir.of_own h1, h3⟩
def chgV (β : Nat → Nat) (g n : ByteArray) (fo : Option Nat) : Value := .agg #[.string g, .string n, ptrO (fo.map β)]
set_option maxHeartbeats 4000000 in
theorem apply_any (b : Nat) (β : Nat → Nat) (L : Dir) (g n : ByteArray) (fo : Option Nat) (w : World) (h : IsDir w (some b) β L) (hL : L.length ≤ 100000) (hg : g.size ≤ maxLen) (hn : n.size ≤ maxLen) :
    Calls Tryz.prog 38 #[.map (some b), chgV β g n fo] w fun e w' => e = .returned (.tuple #[]) ∧ IsDir w' (some b) β (app1 L (g.data.toList, n.data.toList, fo)) ∧ w.grownBy w' (some b) := by
  have hk1 := Blk.new w 66 [.string g, .string n, ptrO (fo.map β)]
  have hg1 : w.grownBy (w.alloc (.cells #[.string g, .string n, ptrO (fo.map β)] 66)) none := World.grownBy_alloc _ _ _
  obtain ⟨w1, hw1⟩ : ∃ w1, w.alloc (.cells #[.string g, .string n, ptrO (fo.map β)] 66) = w1 := ⟨_, rfl⟩
  have hk : Blk w1 w.heap.size 66 [.string g, .string n, ptrO (fo.map β)] := by rw [← hw1]; exact hk1
  rw [hw1] at hg1
  have hbl := h.lt b rfl
  have h1 : IsDir w1 (some b) β L := h.keep fun b' hb' => hg1.block b' (h.lt b' hb') (by simp)
  obtain ⟨w2, hd, h2, g2⟩ := dir_del h1 hg 0
  have hd2 : ∀ ty, (Builtin.delete_ #[49, 9] ty #[.map (some b), .string g]).run Tryz.prog w1 = .ok (.tuple #[]) w2 := fun ty => by
    have : Builtin.delete_ #[49, 9] ty #[.map (some b), .string g] = Builtin.delete_ #[49, 9] 0 #[.map (some b), .string g] := rfl
    rw [this]; exact hd
  have hkb := hk.grown g2 (by simp; omega)
  have hk2 : Blk w2 w.heap.size 66 [.string g, .string n, ptrO (fo.map β)] := hkb
  have c0 : w1.cell? ⟨w.heap.size, 0, none⟩ = some (.string g) := hk.cell rfl
  have c1 : w2.cell? ⟨w.heap.size, 1, none⟩ = some (.string n) := hk2.cell rfl
  have c2 : w2.cell? ⟨w.heap.size, 2, none⟩ = some (ptrO (fo.map β)) := hk2.cell rfl
  obtain ⟨w3, hs, h3, g3⟩ := dir_store h2 hn (Nat.le_trans (ddel_length _ _) (Nat.le_trans hL (by omega))) (fo.getD 0)
  have G2 := Lib.hid g2
  have G1 := Lib.hid hg1
  have G3 := Lib.hid g3
  have H2 := Lib.hid h2
  have H3 := Lib.hid h3
  clear g2 g3 h2 h3 hd hk hk1 hk2 hkb h1 h hg1
  unfold chgV
  cases fo with
  | none =>
    clear hs G3 H3
    simp only [Option.map_none, ptrO] at c2 hw1 ⊢
    go_enter Tryz.func38, Tryz.ntmps38
    go_wp2_with fail
    go_end0
    exact ⟨rfl, H2.out, (G1.out.but _).andThen G2.out (fun j hj => .inr hj)⟩
  | some i =>
    simp only [Option.map_some, Option.getD_some, ptrO] at c2 hw1 hs ⊢
    go_enter Tryz.func38, Tryz.ntmps38
    go_wp2_with fail
    go_end0
    exact ⟨rfl, H3.out, ((G1.out.but _).andThen G2.out (fun j hj => .inr hj)).andThen G3.out (fun j hj => .inr hj)⟩
end Go.Proofs.YthgpdnffahmhjaaGreatDoor.S13

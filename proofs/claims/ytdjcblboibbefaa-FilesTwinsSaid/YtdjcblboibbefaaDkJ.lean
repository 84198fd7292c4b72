/- disk: SyncDir, Remove, Rename, Create: contracts. -/
import Derived.Test.YtdjcblboibbefaaDkI
import Derived.Test.YtdjcblboibbefaaDkG
set_option linter.unusedSimpArgs false
set_option linter.unusedVariables false
set_option maxRecDepth 100000
namespace Go.Proofs.Ytdjcblboibbefaa.S13
open Go.RowKit Go.Maps Go.Shelf Dk
theorem syncDir_ok {S : St} (h : S.Ok) : St.Ok { S with last := S.now, pend := [] } where
  room := h.room
  byte := h.byte
  now := h.now
  last := h.now
  pend := by simp
  eq := rfl
  len := by
    intro k hk
    simp at hk
    subst hk
    exact now_le h
  names := by simp
  short := by simp
  nl := ⟨h.nl.1, h.nl.1⟩
theorem IsFS.syncDir {w W V : World} {l : Lay} {S : St} (h : IsFS w l S) {mv : Option Nat} (hb : Below w.heap.size w W) (hd : IsDir W mv l.β S.now) (hn : ∀ b, mv = some b → w.heap.size ≤ b)
    (hV : V = (W.setCell ⟨l.p, 2, none⟩ (.map mv)).setCell ⟨l.p, 3, none⟩ (.slice none 0 0)) :
    IsFS V { l with lv := mv, pv := .slice none 0 0 } { S with last := S.now, pend := [] } ∧ Step w V (l.at S.F.length) (Lay.at { l with lv := mv, pv := .slice none 0 0 } S.F.length) := by
  subst hV
  have hW := h.below hb
  obtain ⟨wt, hw, hk, _⟩ := hW.cells
  obtain ⟨n1, n2, n3, n4⟩ := hW.p_ne
  have hp := h.lt _ (.inl rfl)
  have hsame : ∀ b, b ≠ l.p → ((W.setCell ⟨l.p, 2, none⟩ (.map mv)).setCell ⟨l.p, 3, none⟩ (.slice none 0 0)).heap[b]? = W.heap[b]? := fun b hne => by
    rw [Below.heap_setCell _ _ _ b hne, Below.heap_setCell _ _ _ b hne]
  refine ⟨⟨⟨wt, ?_, hw⟩, ?_, ?_, ?_, World.ownsRow_nil _ _ _ _, ?_, h.inj, h.apart, syncDir_ok h.ok⟩, ?_⟩
  · have := (hk.set 2 (.map mv)).set 3 (.slice none 0 0)
    simpa [fsC] using this
  · exact hW.now.keep fun b e => hsame b (fun e' => n1 (by rw [e, e']))
  · exact hd.keep fun b e => hsame b (fun e' => by have := hn b e; omega)
  · intro b e e2
    have := hn b e2
    have := h.lt b (.inr (.inl e))
    omega
  · intro i hi
    exact (hW.file i hi).keep (hsame _ (fun e => (n4 i hi).1 e.symm)) (fun g e => hsame g (fun e' => (n4 i hi).2 (by rw [e, e'])))
  · refine ⟨hb.os, hb.tape, hb.output, by have := hb.size; simpa using this, fun b hb' hn' => ?_, fun b hb' => ?_⟩
    · rw [hsame b (fun e => hn' (.inl e))]
      exact hb.block b hb'
    · rcases hb' with e | e | e | e | e
      · exact .inl (.inl e)
      · exact .inl (.inr (.inl e))
      · exact .inr (hn b e)
      · cases e
      · exact .inl (.inr (.inr (.inr (.inr e))))
set_option maxHeartbeats 8000000 in
theorem syncDir_any (l : Lay) (S : St) (w : World) (h : IsFS w l S) (hc : S.calls ≤ 1099511627776) :
    Calls Try.prog 16 #[fsP l] w (OpPost l S (syncDir S) w) := by
  have hb := begin_any l S w h hc
  unfold begE at hb
  have hFF := beg_F S
  obtain ⟨b, hbb⟩ : ∃ b, (beg S).2 = b := ⟨_, rfl⟩
  rw [hbb] at hb
  clear h
  cases b with
  | true =>
    have hr : syncDir S = ((beg S).1, 5) := by simp [syncDir, withB, hbb]
    rw [hr]
    go_enter Try.func16, Try.ntmps16
    go_wp2_with fail
    refine hb.mono ?_
    rintro e w1 ⟨rfl, hs⟩
    simp only [if_true]
    clear hb
    go_wp2_with fail
    go_ret
    exact ⟨rfl, hs.gone (by rw [hFF])⟩
  | false =>
    have hr : syncDir S = ({ (beg S).1 with last := (beg S).1.now, pend := [] }, 0) := by simp [syncDir, withB, hbb]
    rw [hr]
    go_enter Try.func16, Try.ntmps16
    go_wp2_with fail
    refine hb.mono ?_
    rintro e w1 ⟨rfl, hs⟩
    clear hb
    obtain ⟨wt, _, hk, _, c1, _⟩ := hs.1.out.cells
    have hcl := cloneM_any l.nv l.β (beg S).1.now w1 hs.1.out.now
    have HS := Lib.hid hs
    have HK := Lib.hid hk
    clear hs hk
    simp only [Bool.false_eq_true, if_false]
    go_wp2_with fail
    refine hcl.mono ?_
    rintro e w2 ⟨mv, rfl, hd, hn, hb2⟩
    have hk2 := HK.out.below hb2 HK.out.lt
    have c2 := hk2.cell (o := 2) rfl
    have f2 := hk2.frozen 2
    have c3 := hk2.cell (o := 3) rfl
    have f3 := hk2.frozen 3
    have HD := Lib.hid hd
    have HB2 := Lib.hid hb2
    clear hcl hd hb2 hk2 c1
    go_wp2_with fail
    go_ret
    have hfin := HS.out.1.out.syncDir HB2.out HD.out hn rfl
    exact ⟨rfl, Gone.trans HS.out (by rw [hFF]) ⟨{ l with lv := mv, pv := .slice none 0 0 }, rfl, Lib.hid hfin.1, Lib.hid hfin.2⟩⟩
theorem rem_len {L : Dir} {n : Nm} {i : Nat} (h : dget L n = some i) (hL : L.length ≤ 150) : (app1 L (n, [], none)).length ≤ 150 := by
  have := ddel_length L n
  show (ddel L n).length ≤ 150
  omega
theorem ren_len {L : Dir} {a b : Nm} {i j : Nat} (h : dget L a = some i) (hL : L.length ≤ 150) : (app1 L (a, b, some j)).length ≤ 150 := by
  have h1 := ddel_lt h
  have h2 := ddel_length (ddel L a) b
  show (dput (ddel L a) b j).length ≤ 150
  unfold dput
  rw [dins_length]
  omega
theorem isNm_size {s : ByteArray} (h : isNm s.data.toList = true) : s.size ≤ 20 := by
  simp only [isNm, Bool.and_eq_true, decide_eq_true_eq, Array.length_toList] at h
  exact h.1.2
/-- the names in a directory are names -/
def Named (S : St) : Prop := ∀ p ∈ S.now, isNm p.1 = true
set_option maxHeartbeats 8000000 in
theorem remove_any (l : Lay) (S : St) (n : ByteArray) (w : World) (h : IsFS w l S) (hn : n.size ≤ maxLen) (hc : S.calls ≤ 1099511627776) :
    Calls Try.prog 18 #[fsP l, .string n] w (OpPost l S (remove S n.data.toList) w) := by
  have hb := beginWith_any l S n w h hn hc
  unfold WithPost at hb
  have hok := h.ok
  have hFF := beg_F S
  obtain ⟨hx, hr⟩ | ⟨hx, hd, hr⟩ | ⟨i, hx, hd, hr⟩ := withF_cases (S := S) (n := n.data.toList) (f := fun T i => (T.chg (n.data.toList, [], none), 0))
  · change remove S n.data.toList = _ at hr
    rw [hr]
    rw [hx] at hb
    simp only [if_true, errV] at hb
    clear h
    go_enter Try.func18, Try.ntmps18
    go_wp2_with fail
    refine hb.mono ?_
    rintro e w1 ⟨hs, rfl⟩
    clear hb
    go_wp2_with fail
    go_ret
    exact ⟨rfl, hs.gone (by rw [hFF])⟩
  · change remove S n.data.toList = _ at hr
    rw [hr]
    rw [hx, hd] at hb
    simp only [Bool.false_eq_true, if_false, Option.map_none, Option.isNone_none, if_true, errV, ptrO] at hb
    clear h
    go_enter Try.func18, Try.ntmps18
    go_wp2_with fail
    refine hb.mono ?_
    rintro e w1 ⟨hs, rfl⟩
    clear hb
    go_wp2_with fail
    go_ret
    exact ⟨rfl, hs.gone (by rw [hFF])⟩
  · change remove S n.data.toList = _ at hr
    rw [hr]
    rw [hx, hd] at hb
    simp only [Bool.false_eq_true, if_false, Option.map_some, Option.isNone_some, errV, ptrO] at hb
    have hn5 : n.size ≤ 100000 := by have := hok.nl.1 _ (dget_mem hd); simpa using this
    have hl : (app1 (beg S).1.now (n.data.toList, [], none)).length ≤ 150 := by rw [beg_now]; exact rem_len hd (now_le hok)
    have hch : ∀ w1, IsFS w1 l (beg S).1 → _ := fun w1 h1 => change_any l (beg S).1 n ⟨#[]⟩ none w1 h1 hn5 (by decide) (by intro i hi; cases hi) hl (by rw [beg_pend, beg_calls]; have := hok.names; omega) (by rw [beg_calls]; omega)
    unfold chgV at hch
    simp only [Option.map_none, ptrO] at hch
    have HCH := Lib.hid hch
    clear h hch
    go_enter Try.func18, Try.ntmps18
    go_wp2_with fail
    refine hb.mono ?_
    rintro e w1 ⟨hs, rfl⟩
    have hch := HCH.out w1 hs.1.out
    have HS := Lib.hid hs
    clear hb hs HCH
    go_wp2_with fail
    refine hch.mono ?_
    rintro e w2 ⟨rfl, hg⟩
    have HG := Lib.hid hg
    clear hch hg
    go_wp2_with fail
    go_ret
    exact ⟨rfl, Gone.trans HS.out (by rw [hFF]) HG.out⟩
set_option maxHeartbeats 8000000 in
theorem rename_any (l : Lay) (S : St) (a n : ByteArray) (w : World) (h : IsFS w l S) (ha : a.size ≤ maxLen) (hn : n.size ≤ maxLen) (hc : S.calls ≤ 1099511627776) :
    Calls Try.prog 17 #[fsP l, .string a, .string n] w (OpPost l S (rename S a.data.toList n.data.toList) w) := by
  have hb := beginWith_any l S a w h ha hc
  unfold WithPost at hb
  have hok := h.ok
  have hFF := beg_F S
  obtain ⟨hx, hr⟩ | ⟨hx, hd, hr⟩ | ⟨i, hx, hd, hr⟩ := withF_cases (S := S) (n := a.data.toList) (f := fun T i => if isNm n.data.toList = false then (T, 10) else (T.chg (a.data.toList, n.data.toList, some i), 0))
  · change rename S a.data.toList n.data.toList = _ at hr
    rw [hr]
    rw [hx] at hb
    simp only [if_true, errV] at hb
    clear h
    go_enter Try.func17, Try.ntmps17
    go_wp2_with fail
    refine hb.mono ?_
    rintro e w1 ⟨hs, rfl⟩
    clear hb
    go_wp2_with fail
    go_ret
    exact ⟨rfl, hs.gone (by rw [hFF])⟩
  · change rename S a.data.toList n.data.toList = _ at hr
    rw [hr]
    rw [hx, hd] at hb
    simp only [Bool.false_eq_true, if_false, Option.map_none, Option.isNone_none, if_true, errV, ptrO] at hb
    clear h
    go_enter Try.func17, Try.ntmps17
    go_wp2_with fail
    refine hb.mono ?_
    rintro e w1 ⟨hs, rfl⟩
    clear hb
    go_wp2_with fail
    go_ret
    exact ⟨rfl, hs.gone (by rw [hFF])⟩
  · change rename S a.data.toList n.data.toList = _ at hr
    rw [hr]
    rw [hx, hd] at hb
    simp only [Bool.false_eq_true, if_false, Option.map_some, Option.isNone_some, errV, ptrO] at hb
    have hnm := fun w1 => isName_any n w1
    cases hq : isNm n.data.toList with
    | false =>
      rw [hq] at hnm
      simp only [if_true]
      clear h
      go_enter Try.func17, Try.ntmps17
      go_wp2_with fail
      refine hb.mono ?_
      rintro e w1 ⟨hs, rfl⟩
      have HS := Lib.hid hs
      clear hb hs
      go_wp2_with fail
      refine (hnm _).mono ?_
      rintro e w2 ⟨rfl, rfl⟩
      go_wp2_with fail
      go_ret
      exact ⟨rfl, HS.out.gone (by rw [hFF])⟩
    | true =>
      rw [hq] at hnm
      simp only [Bool.true_eq_false, if_false]
      have ha5 : a.size ≤ 100000 := by have := hok.nl.1 _ (dget_mem hd); simpa using this
      have hl : (app1 (beg S).1.now (a.data.toList, n.data.toList, some i)).length ≤ 150 := by rw [beg_now]; exact ren_len hd (now_le hok)
      have hsz := isNm_size hq
      have hch : ∀ w1, IsFS w1 l (beg S).1 → _ := fun w1 h1 => change_any l (beg S).1 a n (some i) w1 h1 ha5 (by omega) (by intro j hj; cases hj; rw [beg_F]; exact hok.now _ (dget_mem hd)) hl (by rw [beg_pend, beg_calls]; have := hok.names; omega) (by rw [beg_calls]; omega)
      unfold chgV at hch
      simp only [Option.map_some, ptrO] at hch
      have HCH := Lib.hid hch
      clear h hch
      go_enter Try.func17, Try.ntmps17
      go_wp2_with fail
      refine hb.mono ?_
      rintro e w1 ⟨hs, rfl⟩
      have hch := HCH.out w1 hs.1.out
      have HS := Lib.hid hs
      clear hb hs HCH
      go_wp2_with fail
      refine (hnm _).mono ?_
      rintro e w2 ⟨rfl, rfl⟩
      go_wp2_with fail
      refine hch.mono ?_
      rintro e w2 ⟨rfl, hg⟩
      have HG := Lib.hid hg
      clear hch hg
      go_wp2_with fail
      go_ret
      exact ⟨rfl, Gone.trans HS.out (by rw [hFF]) HG.out⟩
end Go.Proofs.Ytdjcblboibbefaa.S13

/- Texts put together: DkO. -/
import Derived.Test.YtdjkkohckfndkaaGreatDoorEg26
import Derived.Deep.RegionHeld3
set_option linter.unusedSimpArgs false
set_option linter.unusedVariables false
set_option maxRecDepth 100000
namespace Go.Proofs.YtdjkkohckfndkaaGreatDoor.S13
open Go.RowKit Go.Maps Go.Shelf Dk
structure TornS (w wr : World) (k : Nat) (bf : Nat → Nat) (vf : Nat → Value) (tf : Nat → List Nat × Nat) : Prop where
  file : ∀ j, j < k → IsFile wr (bf j) (vf j) (tf j)
  new : ∀ j, j < k → w.heap.size ≤ bf j ∧ ∀ g, (vf j).ownBlock = some g → w.heap.size ≤ g
  inj : ∀ i j, i < k → j < k → bf i = bf j → i = j
  apart : ∀ i j g, i < k → j < k → (vf i).ownBlock = some g → (vf j).ownBlock = some g → i = j
theorem TornS.below {w wr w' : World} {k : Nat} {bf : Nat → Nat} {vf : Nat → Value} {tf : Nat → List Nat × Nat} (h : TornS w wr k bf vf tf) (hb : Below wr.heap.size wr w') : TornS w w' k bf vf tf :=
  ⟨fun j hj => (h.file j hj).keep (hb.block _ (h.file j hj).lt.1) (fun g hg => hb.block g ((h.file j hj).lt.2 g hg)), h.new, h.inj, h.apart⟩
theorem TornS.map {w wr w' : World} {k b : Nat} {bf : Nat → Nat} {vf : Nat → Value} {tf : Nat → List Nat × Nat} {β : Nat → Nat} {L : Dir} (h : TornS w wr k bf vf tf) (hd : IsDir wr (some b) β L) (hg : wr.grownBy w' (some b)) : TornS w w' k bf vf tf :=
  ⟨fun j hj => (h.file j hj).keep (hg.block _ (h.file j hj).lt.1 (fun e => blk_map_ne (h.file j hj).1 hd (by simpa using e))) (fun g hgg => hg.block g ((h.file j hj).lt.2 g hgg) (fun e => own_map_ne (h.file j hj).2.1 hd (by rw [hgg]; exact e))), h.new, h.inj, h.apart⟩
theorem TornS.step {w wr w' : World} {k b' : Nat} {v' : Value} {bf : Nat → Nat} {vf : Nat → Value} {tf : Nat → List Nat × Nat} (h : TornS w wr k bf vf tf) (hw : w.heap.size ≤ wr.heap.size) (hb : Below wr.heap.size wr w') (hf : IsFile w' b' v' (tf k)) (h1 : wr.heap.size ≤ b') (h2 : ∀ g, v'.ownBlock = some g → wr.heap.size ≤ g) :
    TornS w w' (k + 1) (upd bf k b') (upd vf k v') tf := by
  have hB := h.below hb
  refine ⟨fun j hj => ?_, fun j hj => ?_, fun i j hi hj e => ?_, fun i j g hi hj gi gj => ?_⟩
  · by_cases e : j = k
    · rw [e, upd_same, upd_same]; exact hf
    · rw [upd_ne _ _ e, upd_ne _ _ e]; exact hB.file j (by omega)
  · by_cases e : j = k
    · rw [e, upd_same, upd_same]; exact ⟨by omega, fun g hg => by have := h2 g hg; omega⟩
    · rw [upd_ne _ _ e, upd_ne _ _ e]; exact h.new j (by omega)
  · have hlt : ∀ j, j < k → bf j < wr.heap.size := fun j hj => (h.file j hj).lt.1
    by_cases ei : i = k <;> by_cases ej : j = k
    · rw [ei, ej]
    · rw [ei, upd_same, upd_ne _ _ ej] at e; have := hlt j (by omega); omega
    · rw [ej, upd_same, upd_ne _ _ ei] at e; have := hlt i (by omega); omega
    · rw [upd_ne _ _ ei, upd_ne _ _ ej] at e; exact h.inj i j (by omega) (by omega) e
  · have hlt : ∀ j, j < k → ∀ g, (vf j).ownBlock = some g → g < wr.heap.size := fun j hj g hg => (h.file j hj).lt.2 g hg
    by_cases ei : i = k <;> by_cases ej : j = k
    · rw [ei, ej]
    · rw [ei, upd_same] at gi; rw [upd_ne _ _ ej] at gj
      have := hlt j (by omega) g gj; have := h2 g gi; omega
    · rw [ej, upd_same] at gj; rw [upd_ne _ _ ei] at gi
      have := hlt i (by omega) g gi; have := h2 g gj; omega
    · rw [upd_ne _ _ ei] at gi; rw [upd_ne _ _ ej] at gj
      exact h.apart i j g (by omega) (by omega) gi gj
def bmix (β : Nat → Nat) (N : Nat) (bf : Nat → Nat) : Nat → Nat := fun i => if i < N then β i else bf (i - N)
theorem bmix_old {β : Nat → Nat} {N : Nat} {bf : Nat → Nat} {i : Nat} (h : i < N) : bmix β N bf i = β i := by simp [bmix, h]
theorem bmix_new {β : Nat → Nat} {N : Nat} {bf : Nat → Nat} (j : Nat) : bmix β N bf (N + j) = bf j := by unfold bmix; rw [if_neg (by omega), Nat.add_sub_cancel_left]
theorem lay_ids {L : Dir} {N k : Nat} (h : ∀ p ∈ L, p.2 < N) : ∀ p ∈ lay L N k, p.2 < N + k := by
  intro p hp
  obtain ⟨i, hi, rfl⟩ := List.getElem_of_mem hp
  simp [lay] at hi ⊢
  split
  · omega
  · have := h _ (List.getElem_mem hi); omega
theorem bmix_upd {β : Nat → Nat} {N k b' : Nat} {bf : Nat → Nat} {i : Nat} (h : i < N + k) : bmix β N bf i = bmix β N (upd bf k b') i := by
  unfold bmix
  split
  · rfl
  · rw [upd_ne _ _ (by omega)]
theorem crash_fs {w V : World} {S : St} (hok : S.Ok) (n : Int) (tails : List Int) {L : Dir} (hL : L = S.after (crashN S n)) {p b : Nat} {lv : Option Nat} {β bf : Nat → Nat} {vf : Nat → Value}
    (hp : w.heap.size ≤ p) (hk : Blk V p 77 [.int .i64 (S.room : Nat), .map (some b), .map lv, .slice none 0 0, .int .i64 0, .bool false, .int .i64 0])
    (hd : IsDir V (some b) (bmix β S.F.length bf) (lay L S.F.length L.length)) (hl : IsDir V lv (bmix β S.F.length bf) (lay L S.F.length L.length)) (hne : lv ≠ some b) (hb : w.heap.size ≤ b) (hlb : ∀ g, lv = some g → w.heap.size ≤ g)
    (ht : TornS w V L.length bf vf (fun j => tornF (S.file (L.getD j ([], 0)).2) (tails.getD j 0))) :
    IsFS V ⟨p, some b, lv, .slice none 0 0, bf, vf⟩ (crash S n tails) ∧ ∀ g, Lay.at ⟨p, some b, lv, .slice none 0 0, bf, vf⟩ (crash S n tails).F.length g → w.heap.size ≤ g := by
  have hF : (crash S n tails).F.length = L.length := by rw [hL]; simp [crash]
  have hnow : (crash S n tails).now = fresh L := by rw [hL]; rfl
  have hlast : (crash S n tails).last = fresh L := by rw [hL]; rfl
  have hdir : ∀ mv, IsDir V mv (bmix β S.F.length bf) (lay L S.F.length L.length) → IsDir V mv bf (fresh L) := fun mv h => by
    obtain ⟨rfl, e⟩ | ⟨b', rfl, h⟩ := h
    · refine .inl ⟨rfl, ?_⟩
      have := congrArg List.length e
      rw [lay_length] at this
      exact List.eq_nil_of_length_eq_zero (by rw [fresh_length]; simpa using this)
    · refine .inr ⟨b', rfl, ?_⟩
      have e := dD_fresh L S.F.length (bmix β S.F.length bf) bf (fun j _ => bmix_new j)
      rw [lay_length] at h
      rw [← e, fresh_length]
      exact h
  refine ⟨⟨⟨0, ?_, ?_⟩, ?_, ?_, ?_, World.ownsRow_nil _ _ _ _, ?_, ?_, ?_, crash_ok hok n tails⟩, ?_⟩
  · exact hk
  · intro k hk'; cases hk'
  · rw [hnow]; exact hdir _ hd
  · rw [hlast]; exact hdir _ hl
  · intro g e e2; cases e; exact hne e2
  · rw [hF]
    intro j hj
    have hfj : (crash S n tails).file j = tornF (S.file (L.getD j ([], 0)).2) (tails.getD j 0) := by
      change List.getD (crash S n tails).F j ([], 0) = _
      simp only [crash, ← hL, List.getD_eq_getElem?_getD, List.getElem?_mapIdx, List.getElem?_eq_getElem hj, Option.map_some, Option.getD_some]
    rw [hfj]
    exact ht.file j hj
  · rw [hF]; exact ht.inj
  · rw [hF]; exact ht.apart
  · rw [hF]
    intro g hg
    rcases hg with e | e | e | e | ⟨j, hj, e | e⟩
    · change g = p at e; omega
    · change some b = some g at e; cases e; exact hb
    · exact hlb g e
    · cases e
    · change g = bf j at e; have := (ht.new j hj).1; omega
    · exact (ht.new j hj).2 g e
def CrashPost (S : St) (n : Int) (tails : List Int) (w : World) (e : Ending) (w' : World) : Prop :=
  ∃ l', e = .returned (fsP l') ∧ Hid (IsFS w' l' (crash S n tails)) ∧ (∀ b, l'.at (crash S n tails).F.length b → w.heap.size ≤ b) ∧ Hid (Below w.heap.size w w')
attribute [local go_sem ↓] minN_eq maxN_eq
set_option maxHeartbeats 16000000 in
theorem crash_any (l : Lay) (S : St) (n : Int) (a : Option Addr) (len cap : Nat) (zs : List Int) (w : World) (h : IsFS w l S) (hr : IsRow .i64 w a len cap zs) (hc : S.calls ≤ 1099511627776) :
    Calls Tryz.prog 22 #[fsP l, .int .i64 n, .slice a len cap] w (CrashPost S n (zs.take len) w) := by
  obtain ⟨wt, _, hk, c0, _, _, c3, _⟩ := h.cells
  obtain ⟨sp, cp, hpe, _, _⟩ := ownsRow_slice h.pend
  rw [hpe] at c3
  have hpl := h.lt _ (.inl rfl)
  have hlm := hr.len_le
  obtain ⟨M, hM⟩ : ∃ M, S.pend.length = M := ⟨_, rfl⟩
  obtain ⟨K, hK⟩ : ∃ K, crashN S n = K := ⟨_, rfl⟩
  have hmn := fun ats ty W => run_minN ats ty n (M : Nat) W
  obtain ⟨q, hq⟩ : ∃ q : Int, min n (M : Nat) = q := ⟨_, rfl⟩
  have hmx := fun ats ty W => run_maxN ats ty 0 q W
  have hKq : max 0 q = (K : Nat) := by rw [← hK]; unfold crashN; rw [hM, hq]; omega
  rw [hq] at hmn
  rw [hKq] at hmx
  rw [hM] at c3
  have hKM : K ≤ S.pend.length := by rw [← hK]; unfold crashN; omega
  have haf := after_any l S K w h hKM hc
  obtain ⟨L, hL⟩ : ∃ L, S.after K = L := ⟨_, rfl⟩
  rw [hL] at haf
  have hL150 : L.length ≤ 150 := by rw [← hL]; exact h.ok.len K hKM
  have hids : ∀ p ∈ L, p.2 < S.F.length := by
    rw [← hL]
    have : ∀ (C : List Chg) (D : Dir), (∀ p ∈ D, p.2 < S.F.length) → (∀ c ∈ C, ∀ i, c.2.2 = some i → i < S.F.length) → ∀ p ∈ C.foldl app1 D, p.2 < S.F.length := by
      intro C
      induction C with
      | nil => intro D hD _; exact hD
      | cons c r ih => intro D hD hC; exact ih _ (app1_mem hD (hC c (by simp))) (fun d hd => hC d (by simp [hd]))
    exact this _ _ h.ok.last (fun c hc => h.ok.pend c (List.mem_of_mem_take hc))
  have H := Lib.hid h
  have HR := Lib.hid hr
  have HIDS := Lib.hid hids
  have HLE : Hid (L = S.after (crashN S n)) := Lib.hid (by rw [hK, hL])
  clear h hk hpe hq hKq hM hK hL hids hr hKM
  go_enter Tryz.func22, Tryz.ntmps22
  go_wp2_with fail
  refine haf.mono ?_
  rintro e w1 ⟨mb, rfl, hmb, hd1, hb1⟩
  have hnm := names_any (some mb) l.β L w1 hd1 (by omega)
  have HSRT := Lib.hid hd1.srt
  have HD1 := Lib.hid hd1
  have HB1 := Lib.hid hb1
  clear haf hd1 hb1 c3 hmn hmx
  go_wp2_with fail
  refine hnm.mono ?_
  rintro e w2 ⟨nv, rfl, hnv, hb2⟩
  obtain ⟨sn, cn, rfl, _, _⟩ := ownsRow_slice hnv
  obtain ⟨ln, hln⟩ : ∃ ln, L.length = ln := ⟨_, rfl⟩
  have hd2 : IsDir w2 (some mb) l.β L := HD1.out.keep fun b e => hb2.block b (HD1.out.lt b e)
  have hB2 : Below w.heap.size w w2 := HB1.out.trans (hb2.mono HB1.out.size)
  have HD2 := Lib.hid hd2
  have HB2 := Lib.hid hB2
  have HNV := Lib.hid hnv
  rw [hln] at hL150
  have HLN := Lib.hid hln
  clear hnm hnv hb2 hd2 hB2 HD1 HB1
  rw [HLN.out]
  go_wp2_with fail
  go_loopw [26] (fun v wr => ∃ (k : Nat) (bf : Nat → Nat) (vf : Nat → Value), k ≤ ln ∧ v = .int .i64 k ∧ IsDir wr (some mb) (bmix l.β S.F.length bf) (lay L S.F.length k) ∧
    TornS w wr k bf vf (fun j => tornF (S.file (L.getD j ([], 0)).2) ((zs.take len).getD j 0)) ∧ Below w.heap.size w wr ∧ IsNames wr 0 (.slice sn ln cn) L) (fun v _ => ln - (intOf v).toNat)
  case atStart =>
    refine ⟨0, fun _ => 0, fun _ => .slice none 0 0, by omega, rfl, ?_, ⟨fun j hj => by omega, fun j hj => by omega, fun i j hi => by omega, fun i j g hi => by omega⟩, HB2.out, ?_⟩
    · rw [lay_0]
      exact HD2.out.congr fun p hp => (bmix_old (HIDS.out p hp)).symm
    · have := HNV.out
      rw [HLN.out] at this
      obtain ⟨hl', hq⟩ := this
      refine ⟨hl', ?_⟩
      obtain hq | ⟨g, cap, cur, hv, hg0, r⟩ := hq
      · exact .inl hq
      · exact .inr ⟨g, cap, cur, hv, Nat.zero_le _, r⟩
  case round =>
    obtain ⟨k, bf, vf, hk, rfl, hd, ht, hb, hnn⟩ := hrel
    have HD := Lib.hid hd
    have HT := Lib.hid ht
    have HB := Lib.hid hb
    have HNN := Lib.hid hnn
    clear hd ht hb hnn
    by_cases hlt : k < ln
    · obtain ⟨pp, hpp⟩ : ∃ pp, L[k]? = some pp := ⟨_, List.getElem?_eq_getElem (by rw [HLN.out]; exact hlt)⟩
      have hmem := List.mem_of_getElem? hpp
      have hid := HIDS.out pp hmem
      have hnl : pp.1.length ≤ maxLen := by
        have := strKeys_le HD.out.own Tryz.underlying9
        rw [dD_keys, lay_names] at this
        exact this _ (List.mem_map.2 ⟨pp, hmem, rfl⟩)
      have hsz : (⟨pp.1.toArray⟩ : ByteArray).size ≤ maxLen := by simpa [ByteArray.size] using hnl
      have hnc : ∃ g, sn = some ⟨g, 0, none⟩ ∧ wr.cell? ⟨g, k, none⟩ = some (.string ⟨pp.1.toArray⟩) := by
        have h0 := HNN.out
        unfold IsNames at h0
        rw [HLN.out] at h0
        obtain ⟨g, _, he, _, _, _, _⟩ := own_open h0 (by omega)
        simp at he
        obtain ⟨rfl, rfl⟩ := he
        refine ⟨g, rfl, ?_⟩
        rw [h0.cellAt k (by omega)]
        simp [hpp, encStr]
      obtain ⟨g, rfl, hnc⟩ := hnc
      have hlay := List.mem_of_getElem? (lay_at (N := S.F.length) (k := k) hpp)
      rw [if_neg (Nat.lt_irrefl _)] at hlay
      have hget := dget_of_mem (lay_srt S.F.length k HSRT.out) hlay
      have hlk := dir_look HD.out hsz
      rw [show (⟨pp.1.toArray⟩ : ByteArray).data.toList = pp.1 from rfl, hget] at hlk
      simp only [Option.map_some, bmix_old hid, ptrO] at hlk
      have hfr := (H.out.below HB.out).file pp.2 hid
      have hfo := file_ok H.out.ok pp.2
      have HTO := Lib.hid (fun t => torn_any (l.β pp.2) (l.ν pp.2) (S.file pp.2) t wr hfr hfo.2.1 hfo.2.2)
      have hstep := lay_step HSRT.out S.F.length k hpp
      have htk : ∀ t, (zs.take len).getD k 0 = t → tornF (S.file (L.getD k ([], 0)).2) ((zs.take len).getD k 0) = tornF (S.file pp.2) t := fun t ht => by
        rw [ht, List.getD_eq_getElem?_getD, hpp]; rfl
      have HTK := Lib.hid htk
      have HSTEP := Lib.hid hstep
      clear hmem hlay hget hfr hfo hnl htk hstep hpp
      by_cases hkl : k < len
      · obtain ⟨tb, to', rfl, htb, hzl, _, htc, _⟩ := HR.out.cells (by omega)
        have htc := htc k hkl
        rw [← HB.out.cell (p := ⟨tb, to' + k, none⟩) htb] at htc
        have hto := HTO.out (zs.getD k 0)
        have htt : (zs.take len).getD k 0 = zs.getD k 0 := by
          simp only [List.getD_eq_getElem?_getD, List.getElem?_take_of_lt hkl]
        have HTT := Lib.hid (HTK.out _ htt)
        generalize zs.getD k 0 = t at *
        clear HTK HTO htt
        go_wp2_with fail
        refine hto.mono ?_
        rintro e w3 ⟨b', v', rfl, hb', hf', hg', hbb⟩
        have hbb := hbb.out
        have hd3 : IsDir w3 (some mb) (bmix l.β S.F.length (upd bf k b')) (lay L S.F.length k) :=
          (HD.out.keep fun b e => hbb.block b (HD.out.lt b e)).congr fun p hp => bmix_upd (lay_ids HIDS.out p hp)
        obtain ⟨w4, hst, hd4, hg4⟩ := dir_store hd3 hsz (by rw [lay_length]; have := HLN.out; omega) (S.F.length + k)
        rw [bmix_new, upd_same] at hst
        simp only [ptrO] at hst
        rw [show (⟨pp.1.toArray⟩ : ByteArray).data.toList = pp.1 from rfl, HSTEP.out] at hd4
        have ht3 := HT.out.step HB.out.size hbb (by have := hf'.out; rw [← HTT.out] at this; exact this) hb' hg'
        have ht4 := ht3.map hd3 hg4
        have hb4 : Below w.heap.size w w4 := (HB.out.trans (hbb.mono HB.out.size)).grown hg4 (by have := HB.out.size; have := hbb.size; omega) (fun j hj => by cases hj; exact hmb)
        have hnm4 : IsNames w4 0 (.slice (some ⟨g, 0, none⟩) ln cn) L := by
          have h0 := HNN.out
          have h3 : IsNames w3 0 (.slice (some ⟨g, 0, none⟩) ln cn) L := own_below h0 hbb
          exact h3.kept hg4 (.inr (fun e => own_map_ne h3 hd3 (by rw [← e])))
        have HD4 := Lib.hid hd4
        have HT4 := Lib.hid ht4
        have HB4 := Lib.hid hb4
        have HN4 := Lib.hid hnm4
        clear hto hd3 hd4 ht3 ht4 hb4 hnm4 hg4 hf' hg' hbb hb'
        go_wp2_with fail
        go_roundw
        case rel => exact ⟨k + 1, upd bf k b', upd vf k v', by omega, by go_num, HD4.out, HT4.out, HB4.out, HN4.out⟩
        case measure => simp [intOf]; omega
      · have hto := HTO.out 0
        have htt : (zs.take len).getD k 0 = 0 := by
          rw [List.getD_eq_getElem?_getD, List.getElem?_eq_none (by rw [List.length_take]; omega)]; rfl
        have HTT := Lib.hid (HTK.out _ htt)
        clear HTK HTO htt
        go_wp2_with fail
        refine hto.mono ?_
        rintro e w3 ⟨b', v', rfl, hb', hf', hg', hbb⟩
        have hbb := hbb.out
        have hd3 : IsDir w3 (some mb) (bmix l.β S.F.length (upd bf k b')) (lay L S.F.length k) :=
          (HD.out.keep fun b e => hbb.block b (HD.out.lt b e)).congr fun p hp => bmix_upd (lay_ids HIDS.out p hp)
        obtain ⟨w4, hst, hd4, hg4⟩ := dir_store hd3 hsz (by rw [lay_length]; have := HLN.out; omega) (S.F.length + k)
        rw [bmix_new, upd_same] at hst
        simp only [ptrO] at hst
        rw [show (⟨pp.1.toArray⟩ : ByteArray).data.toList = pp.1 from rfl, HSTEP.out] at hd4
        have ht3 := HT.out.step HB.out.size hbb (by have := hf'.out; rw [← HTT.out] at this; exact this) hb' hg'
        have ht4 := ht3.map hd3 hg4
        have hb4 : Below w.heap.size w w4 := (HB.out.trans (hbb.mono HB.out.size)).grown hg4 (by have := HB.out.size; have := hbb.size; omega) (fun j hj => by cases hj; exact hmb)
        have hnm4 : IsNames w4 0 (.slice (some ⟨g, 0, none⟩) ln cn) L := by
          have h0 := HNN.out
          have h3 : IsNames w3 0 (.slice (some ⟨g, 0, none⟩) ln cn) L := own_below h0 hbb
          exact h3.kept hg4 (.inr (fun e => own_map_ne h3 hd3 (by rw [← e])))
        have HD4 := Lib.hid hd4
        have HT4 := Lib.hid ht4
        have HB4 := Lib.hid hb4
        have HN4 := Lib.hid hnm4
        clear hto hd3 hd4 ht3 ht4 hb4 hnm4 hg4 hf' hg' hbb hb'
        go_wp2_with fail
        go_roundw
        case rel => exact ⟨k + 1, upd bf k b', upd vf k v', by omega, by go_num, HD4.out, HT4.out, HB4.out, HN4.out⟩
        case measure => simp [intOf]; omega
    · obtain rfl : k = ln := by omega
      have c0' : ∀ W, From wr W → W.cell? ⟨l.p, 0, none⟩ = some (.int .i64 (S.room : Nat)) := fun W hW => by
        have h1 := HB.out.trans (Below.mono hW HB.out.size)
        exact (h1.cell (p := ⟨l.p, 0, none⟩) hpl).trans c0
      obtain ⟨R, hR⟩ : ∃ R, S.room = R := ⟨_, rfl⟩
      rw [hR] at c0'
      have HRM := Lib.hid hR
      have HC0 := Lib.hid c0'
      have hcl : ∀ W, From wr W → Calls Tryz.prog 49 #[.map (some mb)] W fun e w' => ∃ mv', e = .returned (.map mv') ∧ IsDir w' mv' (bmix l.β S.F.length bf) (lay L S.F.length k) ∧ (∀ b, mv' = some b → W.heap.size ≤ b) ∧ Below W.heap.size W w' := fun W hW =>
        cloneM_any (some mb) _ _ W (HD.out.keep fun b e => hW.block b (HD.out.lt b e))
      have HCL := Lib.hid hcl
      clear hcl c0 c0' hR
      go_wp2_with fail
      refine wp_region_noPanic ?_
      have hHeld : From wr wr.drew := (Below.refl _ _).drew
      refine wpAnyH_start (n := 10) (l := #[false, false, false, false, false, false, false, false, false, false]) (S := From wr) (by kernel_rfl) (hHeld) (by kernel_rfl) (by kernel_rfl) ?_
      refine wpAnyH_take (i := 0) (oi := _) (v := ?_) rfl (by kernel_rfl) (by kernel_rfl) (by kernel_rfl) (fun _ _ _ h => h) (Or.inl ⟨by rfl, ?_⟩) (by assumption) ?_
      rotate_left
      · intro wq hSw; go_simp; try with_reducible rfl
      simp only [Act.put, List.setIfInBounds_toArray, List.set_cons_zero, List.set_cons_succ, List.getElem_toArray, List.getElem_cons_zero, List.getElem_cons_succ]
      refine wpAnyH_take (i := 1) (oi := _) (v := ?_) rfl (by kernel_rfl) (by kernel_rfl) (by kernel_rfl) (fun _ _ _ h => h) (Or.inl ⟨by rfl, ?_⟩) (by assumption) ?_
      rotate_left
      · intro wq hSw; go_simp; try with_reducible rfl
      simp only [Act.put, List.setIfInBounds_toArray, List.set_cons_zero, List.set_cons_succ, List.getElem_toArray, List.getElem_cons_zero, List.getElem_cons_succ]
      refine wpAnyH_take (i := 2) (oi := _) (v := ?_) rfl (by kernel_rfl) (by kernel_rfl) (by kernel_rfl) (fun _ _ _ h => h) (Or.inl ⟨by rfl, ?_⟩) (by assumption) ?_
      rotate_left
      · intro wq hSw; go_simp; try with_reducible rfl
      simp only [Act.put, List.setIfInBounds_toArray, List.set_cons_zero, List.set_cons_succ, List.getElem_toArray, List.getElem_cons_zero, List.getElem_cons_succ]
      refine wpAnyH_take (i := 3) (oi := _) (v := ?_) rfl (by kernel_rfl) (by kernel_rfl) (by kernel_rfl) (fun _ _ _ h => h) (Or.inl ⟨by rfl, ?_⟩) (by assumption) ?_
      rotate_left
      · intro wq hSw; have d0 := HC0.out wq hSw; go_simp; try with_reducible rfl
      simp only [Act.put, List.setIfInBounds_toArray, List.set_cons_zero, List.set_cons_succ, List.getElem_toArray, List.getElem_cons_zero, List.getElem_cons_succ]
      refine wpAnyH_take (i := 4) (oi := _) (v := ?_) rfl (by kernel_rfl) (by kernel_rfl) (by kernel_rfl) (fun _ _ _ h => h) (Or.inl ⟨by rfl, ?_⟩) (by assumption) ?_
      rotate_left
      · intro wq hSw; go_simp; try with_reducible rfl
      simp only [Act.put, List.setIfInBounds_toArray, List.set_cons_zero, List.set_cons_succ, List.getElem_toArray, List.getElem_cons_zero, List.getElem_cons_succ]
      refine wpAnyH_take (i := 5) (oi := _) (v := ?_) rfl (by kernel_rfl) (by kernel_rfl) (by kernel_rfl) (fun _ _ _ h => h) (Or.inl ⟨by rfl, ?_⟩) (by assumption) ?_
      rotate_left
      · intro wq hSw; go_simp; try with_reducible rfl
      simp only [Act.put, List.setIfInBounds_toArray, List.set_cons_zero, List.set_cons_succ, List.getElem_toArray, List.getElem_cons_zero, List.getElem_cons_succ]
      refine wpAnyH_ready (rs := [6]) (by kernel_rfl) (by simp) ?_
      refine AllReadyH.cons (o := _) rfl (fun K hK => ?_) AllReadyH.nil
      simp only [List.getElem_toArray, List.getElem_cons_zero, List.getElem_cons_succ]
      go_simp
      refine (HCL.out _ hHeld).mono ?_
      rintro e w3 ⟨mv, rfl, hd3, hn3, hb3⟩
      have hE3 : From wr w3 := From.trans hHeld hb3
      refine hK.out _ _ hE3 (fun _ => ?_)
      clear hK K
      simp only [Act.put, List.setIfInBounds_toArray, List.set_cons_zero, List.set_cons_succ, List.getElem_toArray, List.getElem_cons_zero, List.getElem_cons_succ]
      refine wpAnyH_take (i := 7) (oi := _) (v := ?_) rfl (by kernel_rfl) (by kernel_rfl) (by kernel_rfl) (fun _ _ _ h => h) (Or.inl ⟨by rfl, ?_⟩) (by assumption) ?_
      rotate_left
      · intro wq hSw; go_simp; try with_reducible rfl
      simp only [Act.put, List.setIfInBounds_toArray, List.set_cons_zero, List.set_cons_succ, List.getElem_toArray, List.getElem_cons_zero, List.getElem_cons_succ]
      refine wpAnyH_ready (rs := [8]) (by kernel_rfl) (by simp) ?_
      refine AllReadyH.cons (o := _) rfl (fun K hK => ?_) AllReadyH.nil
      simp only [List.getElem_toArray, List.getElem_cons_zero, List.getElem_cons_succ]
      go_simp
      have hE4 : From wr (w3.alloc (.cells #[.int .i64 (R : Nat), .map (some mb), .map mv, .slice none 0 0, .int .i64 0, .bool false, .int .i64 0] 77)) := hE3.alloc hE3.size _
      refine hK.out _ _ hE4 (fun _ => ?_)
      clear hK K
      simp only [Act.put, List.setIfInBounds_toArray, List.set_cons_zero, List.set_cons_succ, List.getElem_toArray, List.getElem_cons_zero, List.getElem_cons_succ]
      refine wpAnyH_take (i := 9) (oi := _) (v := ?_) rfl (by kernel_rfl) (by kernel_rfl) (by kernel_rfl) (fun _ _ _ h => h) (Or.inl ⟨by rfl, ?_⟩) (by assumption) ?_
      rotate_left
      · intro wq hSw; go_simp; try with_reducible rfl
      simp only [Act.put, List.setIfInBounds_toArray, List.set_cons_zero, List.set_cons_succ, List.getElem_toArray, List.getElem_cons_zero, List.getElem_cons_succ]
      refine wpAnyH_done (by kernel_rfl) ?_ _
      refine NoPanic.normal ?_
      obtain ⟨wF, hwF⟩ : ∃ wF, w3.alloc (.cells #[.int .i64 (R : Nat), .map (some mb), .map mv, .slice none 0 0, .int .i64 0, .bool false, .int .i64 0] 77) = wF := ⟨_, rfl⟩
      have hkF : Blk wF w3.heap.size 77 [.int .i64 (S.room : Nat), .map (some mb), .map mv, .slice none 0 0, .int .i64 0, .bool false, .int .i64 0] := by
        rw [← hwF, HRM.out]
        exact Blk.new w3 77 [.int .i64 (R : Nat), .map (some mb), .map mv, .slice none 0 0, .int .i64 0, .bool false, .int .i64 0]
      rw [hwF] at hE4 ⊢
      have h3F : Below w3.heap.size w3 wF := by rw [← hwF]; exact (Below.refl _ _).alloc (Nat.le_refl _) _
      have hdF : IsDir wF (some mb) (bmix l.β S.F.length bf) (lay L S.F.length L.length) := by
        rw [HLN.out]
        exact HD.out.keep fun b e => hE4.block b (HD.out.lt b e)
      have hlF : IsDir wF mv (bmix l.β S.F.length bf) (lay L S.F.length L.length) := by
        rw [HLN.out]
        exact hd3.keep fun b e => h3F.block b (hd3.lt b e)
      have htF := HT.out.below hE4
      rw [← HLN.out] at htF
      have hszr : w.heap.size ≤ wr.heap.size := HB.out.size
      have hszd : wr.drew.heap.size = wr.heap.size := rfl
      have hsz3 : wr.heap.size ≤ w3.heap.size := hE3.size
      have hmbr := HD.out.lt mb rfl
      have hfin := crash_fs (w := w) H.out.ok n (zs.take len) HLE.out (by omega) hkF hdF hlF (fun e => by have := hn3 mb e; omega) hmb (fun g e => by have := hn3 g e; omega) htF
      have HFIN := Lib.hid hfin
      have HBF : Hid (Below w.heap.size w wF) := Lib.hid (HB.out.trans (Below.mono hE4 hszr))
      clear hkF h3F hdF hlF htF hfin hd3 hn3 hb3 hE3 hE4 hwF hHeld HC0 HCL
      go_wp2_with fail
      go_ret
      exact ⟨_, rfl, Lib.hid HFIN.out.1, HFIN.out.2, HBF⟩
end Go.Proofs.YtdjkkohckfndkaaGreatDoor.S13

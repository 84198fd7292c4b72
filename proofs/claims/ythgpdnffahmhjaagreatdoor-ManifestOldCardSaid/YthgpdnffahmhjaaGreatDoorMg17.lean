/- Texts put together: EdJ, EdQ. -/
import Derived.Test.YthgpdnffahmhjaaGreatDoorMg4
import Derived.Test.YthgpdnffahmhjaaGreatDoorMg8
import Derived.Test.YthgpdnffahmhjaaGreatDoorMg16
set_option linter.unusedSimpArgs false
set_option linter.unusedVariables false
set_option maxRecDepth 100000
namespace Go.Proofs.YthgpdnffahmhjaaGreatDoor.S18
open Go.RowKit S2.Pl S2 S3.Pl S3
attribute [local go_sem ↓] loadS_eq storeS_eq loadP_eq storeP_eq loadE_eq storeE_eq
def numW (x : Int) : Prop := 0 ≤ x ∧ x < 9223372036854775808
theorem flat_le {α : Type} {f : α → List Int} {k : Nat} : ∀ {L : List α}, (∀ x ∈ L, (f x).length ≤ k) → (L.flatMap f).length ≤ k * L.length
  | [], _ => by simp
  | x :: L, h => by
    have h1 := h x (by simp)
    have h2 := flat_le (L := L) fun y hy => h y (by simp [hy])
    rw [List.flatMap_cons, List.length_append, List.length_cons, Nat.mul_succ]
    omega
theorem rowE_len {e : ED} (h : edB e = true) : (rowE e).length ≤ 2000 := by
  rw [edB_iff] at h
  obtain ⟨_, _, h3, h4, h5, h6⟩ := h
  rw [allB_iff] at h3 h4 h5 h6
  have e1 := flat_le (f := segN) (k := 6) (L := e.adds) fun x _ => Nat.le_refl _
  have e2 := flat_le (f := parN) (k := 10) (L := e.pars) fun x hx => by
    have := h5.2 x hx
    rw [parB_iff] at this
    obtain ⟨_, _, _, q1, q2, _⟩ := this
    simp [parN]
    omega
  simp only [rowE, List.length_cons, List.length_append]
  omega
theorem inB_w {m n x : Int} (h : inB m n x = true) (hm : 0 ≤ m) (hn : n < 9223372036854775808) : numW x := by
  rw [inB_iff] at h
  exact ⟨by omega, by omega⟩
theorem nat_w {n : Nat} (h : n ≤ 1000) : numW (n : Int) := ⟨by omega, by omega⟩
theorem rowE_w {e : ED} (h : edB e = true) (hw : EdW e) : ∀ x ∈ rowE e, numW x := by
  rw [edB_iff] at h
  obtain ⟨h1, h2, h3, h4, h5, h6⟩ := h
  rw [allB_iff] at h3 h4 h5 h6
  intro x hx
  simp only [rowE, List.mem_cons, List.mem_append, List.mem_flatMap] at hx
  rcases hx with rfl | rfl | rfl | ⟨s, hs, hx⟩ | rfl | hx | rfl | ⟨p, hp, hx⟩ | rfl | hx
  · exact inB_w h1 (by omega) (by omega)
  · exact inB_w h2 (by omega) (by omega)
  · exact nat_w (by omega)
  · have hb := h3.2 s hs
    have hu := hw.1 s hs
    unfold segB at hb
    simp only [Bool.and_eq_true] at hb
    obtain ⟨⟨⟨b1, b2⟩, b3⟩, b4⟩ := hb
    simp only [segN, List.mem_cons, List.not_mem_nil, or_false] at hx
    rcases hx with rfl | rfl | rfl | rfl | rfl | rfl
    · exact inB_w b1 (by omega) (by omega)
    · unfold dig; split <;> exact ⟨by omega, by omega⟩
    · exact inB_w b2 (by omega) (by omega)
    · exact inB_w b3 (by omega) (by omega)
    · exact inB_w b4 (by omega) (by omega)
    · exact ⟨hu.1, by have := hu.2; omega⟩
  · exact nat_w (by omega)
  · exact inB_w (h4.2 x hx) (by omega) (by omega)
  · exact nat_w (by omega)
  · have hb := h5.2 p hp
    have hu := hw.2 p hp
    rw [parB_iff] at hb
    obtain ⟨b1, b2, b3, b4, b5, b6⟩ := hb
    simp only [parN, List.mem_cons, List.mem_append, List.not_mem_nil, or_false] at hx
    rcases hx with rfl | rfl | hx | hx | rfl | rfl
    · exact inB_w b1 (by omega) (by omega)
    · exact nat_w (by omega)
    · exact inB_w (parK_nums b6 x hx) (by omega) (by omega)
    · exact inB_w (parK_sizes b5 b6 x hx) (by omega) (by omega)
    · exact inB_w b2 (by omega) (by omega)
    · exact ⟨hu.1, by have := hu.2; omega⟩
  · exact nat_w (by omega)
  · exact inB_w (h6.2 x hx) (by omega) (by omega)
theorem flat_takeN {R : List Int} {i : Nat} {x : Int} (hx : R[i]? = some x) : (R.take (i + 1)).flatMap putN = (R.take i).flatMap putN ++ putN x := by
  rw [List.take_add_one, hx]
  simp
theorem putR_take {R : List Int} {i : Nat} {x : Int} (hx : R[i]? = some x) : putR (R.take (i + 1)) = putR (R.take i) ++ putN x := flat_takeN hx
theorem putR_len' {R : List Int} (h : ∀ x ∈ R, numW x) (i : Nat) : (putR (R.take i)).length ≤ 10 * R.length := by
  have := putR_len (L := R.take i) fun x hx => by have := (h x (List.mem_of_mem_take hx)).2; omega
  have h2 : (R.take i).length ≤ R.length := List.length_take_le' _ _
  omega
def Sofar (w0 W : World) (v : Value) (B : List Nat) : Prop := W.ownsRow w0.heap.size 5 1 v B.length (u8s B) ∧ Below w0.heap.size w0 W
theorem Sofar.below {w0 W W' : World} {v : Value} {B : List Nat} (h : Sofar w0 W v B) (hb : Below W.heap.size W W') : Sofar w0 W' v B := ⟨own_keepD h.1 (gr_below hb) (by simp), h.2.trans (hb.mono h.2.size)⟩
theorem Sofar.app {w0 W W' : World} {v v' : Value} {B C : List Nat} (h : Sofar w0 W v B) (ho : W'.ownsRow w0.heap.size 5 1 v' (B.length + C.length) (u8s B ++ u8s C)) (hg : W.grownBy W' v.ownBlock) : Sofar w0 W' v' (B ++ C) :=
  ⟨by rw [List.length_append, u8s_append]; exact ho, h.2.grown hg h.2.size fun k hk => (World.ownsRow.lt h.1 k hk).1⟩
theorem Sofar.is {w0 W : World} {sp : Option Addr} {n cap : Nat} {B : List Nat} (h : Sofar w0 W (.slice sp n cap) B) (hx : ∀ x ∈ B, x < 256) : IsBytes W (.slice sp n cap) B := by
  obtain ⟨_, _, he, _⟩ := ownsRow_slice h.1
  simp at he
  obtain ⟨rfl, rfl, rfl⟩ := he
  exact isBytes_own hx h.1
theorem Sofar.open {w0 W : World} {v : Value} {B : List Nat} (h : Sofar w0 W v B) : ∃ sp N cap, v = .slice sp N cap ∧ Hid (N = B.length) := by
  obtain ⟨sp, cap, he, _⟩ := ownsRow_slice h.1
  exact ⟨sp, B.length, cap, he, Lib.hid rfl⟩
def EncPost (e : ED) (w : World) (r : Ending) (w' : World) : Prop :=
  ∃ sp n cap, r = .returned (.tuple #[.slice sp n cap, .int .i64 (chkE e : Nat)]) ∧ (encE e).length = n ∧ Hid (w'.ownsRow w.heap.size 5 1 (.slice sp n cap) n (u8s (encE e))) ∧ Hid (Below w.heap.size w w')
theorem enc_bad {e : ED} (h : edB e = false) : encE e = [] ∧ chkE e = 10 := by unfold encE chkE; rw [h]; exact ⟨rfl, rfl⟩
theorem enc_good {e : ED} (h : edB e = true) : encE e = pseal (bodyE e) ∧ chkE e = 0 := by unfold encE chkE; rw [h]; exact ⟨rfl, rfl⟩
set_option maxHeartbeats 8000000 in
theorem encode_any {D : Nat → Prop} (e : ED) (a1 : Option Addr) (c1 : Nat) (a2 : Option Addr) (c2 : Nat) (a3 : Option Addr) (c3 : Nat) (a4 : Option Addr) (c4 : Nat) (w : World) (hT : Tab w) (he : EdIn D w e a1 c1 a2 c2 a3 c3 a4 c4) : Calls Tryz.prog 21 #[.agg #[.int .i64 e.next, .int .i64 e.seq, .slice a1 e.adds.length c1, .slice a2 e.dels.length c2, .slice a3 e.pars.length c3, .slice a4 e.drops.length c4]] w (EncPost e w) := by
  have hb1 : Below w.heap.size w (w.alloc (.cells #[.int .i64 e.next, .int .i64 e.seq, .slice a1 e.adds.length c1, .slice a2 e.dels.length c2, .slice a3 e.pars.length c3, .slice a4 e.drops.length c4] 34)) := (Below.refl _ _).alloc (Nat.le_refl _) _
  have hk1 := Blk.new w 34 (edL e a1 c1 a2 c2 a3 c3 a4 c4)
  obtain ⟨w1, hw1⟩ : ∃ w1, w.alloc (.cells #[.int .i64 e.next, .int .i64 e.seq, .slice a1 e.adds.length c1, .slice a2 e.dels.length c2, .slice a3 e.pars.length c3, .slice a4 e.drops.length c4] 34) = w1 := ⟨_, rfl⟩
  rw [hw1] at hb1
  have hk1' : Blk w1 w.heap.size 34 (edL e a1 c1 a2 c2 a3 c3 a4 c4) := by rw [← hw1]; exact hk1
  have hld := run_loadE_blk _ hk1'
  have he1 := he.keep (keep_below hb1)
  have hch := check_any e a1 c1 a2 c2 a3 c3 a4 c4 w1 he1
  have HK1 := Lib.hid hk1'
  have HB1 := Lib.hid hb1
  have HT := Lib.hid hT
  have HE1 := Lib.hid he1
  clear hb1 hk1 hk1' hT he he1
  go_enter Tryz.func21, Tryz.ntmps21
  go_wp2_with fail
  refine hch.mono ?_
  rintro r w2 ⟨rfl, hb2⟩
  have HK2 := Lib.hid (HK1.out.below hb2 HK1.out.lt)
  have HE2 := Lib.hid (HE1.out.keep (keep_below hb2))
  have HB2 := Lib.hid (HB1.out.trans (hb2.mono HB1.out.size))
  have HT2 := Lib.hid (HT.out.below HB2.out)
  clear hb2 hch HK1 HB1 HT HE1 hld hw1
  cases hed : edB e with
  | false =>
    obtain ⟨hb, hc⟩ := enc_bad hed
    have HBD := Lib.hid hb
    have HCD := Lib.hid hc
    rw [hc]
    clear hed hb hc
    go_wp2
    go_ret2
    exact ⟨none, 0, 0, by rw [HCD.out]; rfl, by rw [HBD.out]; rfl, by rw [HBD.out]; exact Lib.hid (own_nil _ _), HB2⟩
  | true =>
    obtain ⟨hb, hc⟩ := enc_good hed
    have HBD := Lib.hid hb
    have HCD := Lib.hid hc
    rw [hc]
    have hld := run_loadE_blk _ HK2.out
    have hnum := numbers_any e a1 c1 a2 c2 a3 c3 a4 c4 w2 HE2.out hed
    have HRW := Lib.hid (rowE_w hed HE2.out.w)
    have hrl := rowE_len hed
    obtain ⟨R, hR⟩ : ∃ R, rowE e = R := ⟨_, rfl⟩
    rw [hR] at hnum HRW hrl
    have HR := Lib.hid hR
    clear hed hb hc hR
    go_wp2_with fail
    refine hnum.mono ?_
    rintro r w3 ⟨sr, nr, cr, rfl, hnr, HOR, HB3'⟩
    have hnr2 : nr ≤ 2000 := by rw [← hnr]; exact hrl
    have HN := Lib.hid hnr
    have HT3 := Lib.hid (HT2.out.below HB3'.out)
    have HB3 := Lib.hid (HB2.out.trans (HB3'.out.mono HB2.out.size))
    have HIR : Hid (IsNums (fun b => True) w3 (.slice sr nr cr) R) := Lib.hid (OwnD.row (ownD_nums hnr.symm HOR.out) (D := fun _ => True) fun _ _ _ _ => trivial)
    clear hnum hnr hld hrl HOR HB3' HB2 HT2
    go_wp2_with fail
    go_loopw [5, 16] (fun v y wr => ∃ i : Nat, i ≤ nr ∧ y = .int .i64 i ∧ Sofar w3 wr v (putR (R.take i))) (fun _ y _ => nr - (intOf y).toNat)
    case atStart => exact ⟨0, by omega, rfl, own_nil _ _, Below.refl _ _⟩
    case round =>
      obtain ⟨i, hi, rfl, hs⟩ := hrel
      have HS := Lib.hid hs
      obtain ⟨sp, N, cp, rfl, HNN⟩ := hs.open
      clear hs
      have hpl := putR_len' HRW.out i
      rw [HN.out, ← HNN.out] at hpl
      by_cases hlt : i < nr
      · obtain ⟨b, off, rfl, _, _, hc⟩ := IsNums.cell (HIR.out.keep' (keep_below HS.out.2)) (i := i) (by rw [HN.out]; exact hlt)
        have hiR : i < R.length := by rw [HN.out]; exact hlt
        have hx : R[i]? = some (R.getD i 0) := by simp [List.getD, hiR]
        clear hiR
        obtain ⟨x, hxx⟩ : ∃ x, R.getD i 0 = x := ⟨_, rfl⟩
        rw [hxx] at hc hx
        have hxw := HRW.out x (List.mem_of_getElem? hx)
        have HX := Lib.hid (putR_take hx)
        have hwr : IntKind.u64.wrap x = x := by rw [IntKind.wrap_u64]; have := hxw.1; have := hxw.2; omega
        have hput := S2.put_any x wr ⟨hxw.1, by have := hxw.2; omega⟩
        have hpn : (putN x).length ≤ 10 := putN_len (by have := hxw.2; omega)
        have hpe : vput x.toNat = putN x := rfl
        rw [hpe] at hput
        clear hx hxx hxw hpe
        go_wp2_with fail
        refine hput.mono ?_
        rintro r w4 ⟨v4, rfl, ho4, hb4⟩
        obtain ⟨sp4, cap4, rfl, _, _⟩ := ownsRow_slice ho4
        have HI4 := Lib.hid (isBytes_own (vput_lt _) ho4)
        have HS4 := Lib.hid (HS.out.below hb4)
        have hown4 := HS4.out.1
        rw [← HNN.out] at hown4
        have HO4 := Lib.hid hown4
        clear ho4 hb4 hput HS hown4
        go_wp2_with (at_builtin; refine wpList_append_bytes rfl (.tmp 20) (.tmp 23) rfl w3.heap.size (.slice sp N cp) N (u8s (putR (R.take i))) rfl HO4.out (.slice sp4 (putN x).length cap4) (putN x) rfl HI4.out (by omega) HS4.out.2.size ?_; intro v5 w5 hown hgr; have HS5 : Hid (Sofar w3 w5 v5 (putR (R.take (i + 1)))) := Lib.hid (by rw [HX.out]; exact HS4.out.app (by rw [← HNN.out]; exact hown) hgr); clear hown hgr)
        go_roundw
        case rel => exact ⟨i + 1, hlt, by go_num, HS5.out⟩
        case measure => simp [intOf]; omega
      · obtain rfl : i = nr := by omega
        have hall : putR (R.take i) = bodyE e := by rw [List.take_of_length_le (by rw [HN.out]; exact Nat.le_refl _)]; unfold bodyE; rw [HR.out]
        have hs := HS.out
        rw [hall] at hs
        have HS := Lib.hid hs
        have hl : (bodyE e).length ≤ 20000 := by rw [← hall, ← HNN.out]; omega
        have hsl := S3.seal_any (.slice sp N cp) (bodyE e) wr (HT3.out.below HS.out.2) (HS.out.is (bodyE_lt e)) (by omega)
        clear hs hall
        go_wp2_with fail
        refine hsl.mono ?_
        intro r w9 h9
        obtain ⟨sp9, cap9, rfl, ho9, hb9⟩ := h9.s
        obtain ⟨n9, hn9⟩ : ∃ n, (pseal (bodyE e)).length = n := ⟨_, rfl⟩
        rw [hn9] at ho9 ⊢
        have HN9 := Lib.hid hn9
        have HO9 := Lib.hid ho9
        have HB9 := Lib.hid (HB3.out.trans ((HS.out.2.trans (hb9.mono HS.out.2.size)).mono HB3.out.size))
        have hsz := Nat.le_trans HB3.out.size HS.out.2.size
        clear h9 ho9 hb9 hsl hn9
        go_wp2
        go_ret2
        exact ⟨sp9, n9, cap9, by rw [HCD.out]; rfl, by rw [HBD.out]; exact HN9.out, by rw [HBD.out]; exact Lib.hid (own_base HO9.out hsz), HB9⟩
end Go.Proofs.YthgpdnffahmhjaaGreatDoor.S18
namespace Go.Proofs.YthgpdnffahmhjaaGreatDoor.S18
open Go.RowKit S2.Pl S3.Pl
def Fine (e : ED) : Prop := edB e = true ∧ EdW e
theorem bodyE_len {e : ED} (h : Fine e) : (bodyE e).length ≤ 20000 := by
  have h1 := rowE_len h.1
  have h2 := putR_len' (rowE_w h.1 h.2) (rowE e).length
  rw [List.take_length] at h2
  unfold bodyE
  omega
theorem encE_fine {e : ED} (h : Fine e) : encE e = pseal (bodyE e) := (enc_good h.1).1
theorem encE_len {e : ED} (h : EdW e) : (encE e).length ≤ 20012 := by
  cases hb : edB e with
  | false => rw [(enc_bad hb).1]; simp
  | true =>
    have := bodyE_len ⟨hb, h⟩
    rw [(enc_good hb).1, pseal_length]
    omega
theorem encE_lt (e : ED) : ∀ x ∈ encE e, x < 256 := by
  cases hb : edB e with
  | false => rw [(enc_bad hb).1]; simp
  | true => rw [(enc_good hb).1]; exact pseal_lt (bodyE_lt e)
def encs : List ED → List Nat
  | [] => []
  | e :: l => pseal (bodyE e) ++ encs l
theorem encs_cat (l : List ED) : encs l = pcat (l.map bodyE) := by
  induction l with
  | nil => rfl
  | cons r l ih => simp [encs, pcat, ih]
theorem encs_append (A B : List ED) : encs (A ++ B) = encs A ++ encs B := by rw [encs_cat, encs_cat, encs_cat, List.map_append, pcat_append]
theorem encs_snoc (l : List ED) (e : ED) : encs (l ++ [e]) = encs l ++ pseal (bodyE e) := by rw [encs_append]; simp [encs]
theorem scanLE_ok {l : List ED} (h : ∀ e ∈ l, Fine e) : scanLE (l.map bodyE) = (l, (encs l).length, true) := by
  induction l with
  | nil => rfl
  | cons r l ih =>
    have hr := h r (by simp)
    have h1 := one_bodyE hr.1 hr.2
    rw [List.map_cons, scanLE, h1, ih fun x hx => h x (by simp [hx])]
    simp only [encs, List.length_append, pseal_length, if_true]
theorem fine_lt {G : List ED} (hG : ∀ e ∈ G, Fine e) : (∀ P ∈ G.map bodyE, ∀ x ∈ P, x < 256) ∧ ∀ P ∈ G.map bodyE, P.length < 4294967296 := by
  refine ⟨fun P hP => ?_, fun P hP => ?_⟩
  · simp only [List.mem_map] at hP
    obtain ⟨e, _, rfl⟩ := hP
    exact bodyE_lt e
  · simp only [List.mem_map] at hP
    obtain ⟨e, he, rfl⟩ := hP
    have := bodyE_len (hG e he)
    omega
theorem scanE_cat {G : List ED} (hG : ∀ e ∈ G, Fine e) {R : List Nat} {o : Bool} (hR : pscan R = ([], 0, o)) : scanE (encs G ++ R) = (G, (encs G).length, o) := by
  obtain ⟨h1, h2⟩ := fine_lt hG
  have hp := pscan_cat (G.map bodyE) R h1 h2
  rw [← encs_cat, hR] at hp
  unfold scanE
  rw [hp, List.append_nil, scanLE_ok hG]
  simp
theorem pscan_nil : pscan [] = ([], 0, true) := pscan_short (by simp)
theorem scanE_all {G : List ED} (hG : ∀ e ∈ G, Fine e) : scanE (encs G) = (G, (encs G).length, true) := by
  have := scanE_cat hG pscan_nil
  rwa [List.append_nil] at this
end Go.Proofs.YthgpdnffahmhjaaGreatDoor.S18

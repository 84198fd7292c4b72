/- Texts put together: MaOp, MaOq, MaOr. -/
import Derived.Test.YthgpdnffahmhjaaGreatDoorMg45
set_option linter.unusedSimpArgs false
set_option linter.unusedVariables false
set_option maxRecDepth 100000
namespace Go.Proofs.YthgpdnffahmhjaaGreatDoor.S19
open Go.RowKit Go.Maps Go.Shelf Go.Sort S18 S13 S13.Dk S15 S3
def NearG (w : World) (v v' : Value) : Prop := ∀ g, v'.ownBlock = some g → v.ownBlock = some g ∨ w.heap.size ≤ g
theorem own_baseG {w : World} {base base' n s : Nat} {e : TypeId} {v : Value} {xs : List Value} (h : w.ownsRow base e s v n xs) (hb : base' ≤ base) : w.ownsRow base' e s v n xs := by
  obtain ⟨hl, h | ⟨g, cap, cur, hv, hg, hrest⟩⟩ := h
  · exact ⟨hl, .inl h⟩
  · exact ⟨hl, .inr ⟨g, cap, cur, hv, Nat.le_trans hb hg, hrest⟩⟩
theorem run_append_nearG {w : World} (base : Nat) (t ty e : TypeId) (i : TypeInfo) (z : Value) (size bytes : Nat) (ht : Tryz.prog.underlying t = some (.slice e)) (hi : Tryz.prog.info? e = some i) (hz : i.zero = some z)
    (hsize : i.size = size) (hby : i.bytes = bytes) (hzs : z.cells.size = size) (hsz : 0 < size)
    (v : Value) (n : Nat) (xs : List Value) (hown : w.ownsRow base e size v n xs)
    (a : Addr) (m c : Nat) (news : List Value) (hl : news.length = m * size) (hnews : ∀ j u, news[j]? = some u → w.cell? (a.add j) = some u) (h1 : ∀ u ∈ news, u.oneCell' = true)
    (h63 : n + m ≤ maxLen) (hbytes : (n + m) * bytes ≤ 140737488355328) (hbase : base ≤ w.heap.size) :
    ∃ v' w', (Builtin.append_ #[t, t] ty #[v, .slice (some a) m c]).run Tryz.prog w = .ok v' w' ∧ w'.ownsRow base e size v' (n + m) (xs ++ news) ∧ w.grownBy w' v.ownBlock ∧ NearG w v v' := by
  rcases hown.2 with ⟨rfl, rfl⟩ | ⟨g, cp, cur, rfl, hbg, hg, hnc, hcm, hcs, htake⟩
  · have hA : xs = [] := List.eq_nil_of_length_eq_zero (by simpa using hown.1)
    subst hA
    obtain ⟨v', w', hr, r1, r2, _⟩ := run_append_own (P := Tryz.prog) w w.heap.size t ty e i z size bytes ht hi hz hsize hby hzs hsz (.slice none 0 0) 0 [] (World.ownsRow_nil _ _ _ _) a m c news hl hnews h1 h63 hbytes (Nat.le_refl _)
    exact ⟨v', w', hr, own_baseG r1 hbase, r2, fun g hg => .inr ((r1.lt g hg).1)⟩
  · obtain ⟨v', w', hr', r1, r2, _⟩ := run_append_own (P := Tryz.prog) w base t ty e i z size bytes ht hi hz hsize hby hzs hsz (.slice (some ⟨g, 0, none⟩) n cp) n xs hown a m c news hl hnews h1 h63 hbytes hbase
    by_cases hroom : n + m ≤ cp
    · have hm2 : (n + m) * size ≤ cp * size := Nat.mul_le_mul_right _ hroom
      have hfit : n * i.size + news.length ≤ cur.size := by rw [hsize, hl, hcs, ← Nat.add_mul]; exact hm2
      have hr := run_append_room (P := Tryz.prog) w t ty e i ht hi g n cp cur hg a m c news (by rw [hsize]; exact hl) hnews h1 hroom hfit
      rw [hr] at hr'
      cases hr'
      exact ⟨_, _, hr, r1, r2, fun g' hg' => .inl (by simpa [Value.ownBlock] using hg')⟩
    · obtain ⟨v2, w2, hr, q1, q2⟩ := run_append_arg_grows (P := Tryz.prog) (w := w) t ty e i z size bytes ht hi hz hsize hby hzs hsz ⟨g, 0, none⟩ n cp xs hown.1 (hown.cells (g := g) rfl) a m c news hl hnews (by omega) h63 hbytes
      rw [hr] at hr'
      cases hr'
      exact ⟨_, _, hr, r1, r2, fun g' hg' => .inr ((q1.lt g' hg').1)⟩
theorem InY.app {w0 w w' : World} {p q : Nat} {S : St} {M : MS} {sv pv : Option Nat} {D Y Y' : Nat → Prop} (h : InY w0 p S q M w sv pv D Y) {row : Option Nat} (hr : ∀ k, row = some k → Y k ∧ w0.heap.size ≤ k) (hg : w.grownBy w' row) (hY : ∀ b, Y' b → (Y b ∨ w.heap.size ≤ b) ∧ b < w'.heap.size) : InY w0 p S q M w' sv pv D Y' := by
  have hlt := InZ.ltM h.fs
  have hne : ∀ b, zM q sv pv D b → w'.heap[b]? = w.heap[b]? := fun b hb => hg.block b (hlt b (.inl hb)) (fun e => h.apart b (hr b e.symm).1 hb)
  refine ⟨?_, (hne q (.inl rfl)).trans h.blk, h.segs.keep (fun b hs => hne b (.inr (.inl hs))) (fun _ _ h => h), h.pars.keep (fun b hs => hne b (.inr (.inr (.inl hs)))) (fun _ _ h2 => h2.keep fun b hb _ => ⟨hb, hne b (.inr (.inr (.inr hb)))⟩), h.base, h.dj, h.ok, fun b hb hz => ?_⟩
  · obtain ⟨l, hp, hI, ha, hw, hz⟩ := h.fs
    refine ⟨l, hp, hI.keep fun b hb => hg.block b (hI.lt b hb) (fun e => (hz b (.inr (hr b e.symm).1)).2 hb), ha, hw.grown hg hw.size (fun j hj => (hr j hj).2), fun b hb => ?_⟩
    rcases hb with hb | hb
    · exact ⟨Nat.lt_of_lt_of_le (hz b (.inl hb)).1 hg.size, (hz b (.inl hb)).2⟩
    · refine ⟨(hY b hb).2, ?_⟩
      rcases (hY b hb).1 with hy | hge
      · exact (hz b (.inr hy)).2
      · exact fun hl => by have := hI.lt b hl; omega
  · rcases (hY b hb).1 with hy | hge
    · exact h.apart b hy hz
    · have := hlt b (.inl hz); omega
def sD (B : List Nat) (y m c : Nat) (pend : List Chg) (now : Dir) : St := ⟨R20, (B, y) :: List.replicate m ([], 0), now, [(nM, 0)], pend, c, none⟩
theorem ddel_none {L : Dir} (h : ∀ p ∈ L, p.1 ≠ []) : ddel L [] = L := List.filter_eq_self.2 fun p hp => by simp [h p hp]
theorem sD_create {B : List Nat} {y m c : Nat} {pend : List Chg} {now : Dir} {n : Nm} (hn : isNm n = true) (hl : now.length < 150) (h : ∀ p ∈ now, p.1 ≠ []) : create (sD B y m c pend now) n = (sD B y (m + 1) (c + 1) (pend ++ [([], n, some (m + 1))]) (dput now n (m + 1)), 0) := by
  unfold create withB
  rw [show beg (sD B y m c pend now) = (sD B y m (c + 1) pend now, false) from rfl]
  simp only [Bool.false_eq_true, if_false, hn]
  rw [if_neg (by simp), if_neg (by
    have h0 : decide (150 ≤ now.length) = false := decide_eq_false (by omega)
    show ¬ (((dget now n).isNone && decide (150 ≤ now.length)) = true)
    rw [h0, Bool.and_false]
    decide)]
  simp [sD, St.chg, app1, ddel_none h, List.replicate_succ']
def rwN (k : Nat) : Nm := [UInt8.ofNat (49 + k), 46, 114, 97, 119]
def sgN (k : Nat) : Nm := [UInt8.ofNat (49 + k), 46, 115, 101, 103]
def nS : Nm := [115, 116, 114, 97, 121]
def dirO (k : Nat) : Dir := (List.range k).flatMap (fun j => [(rwN j, 2 * j + 1), (sgN j, 2 * j + 2)]) ++ [(nM, 0)]
def dirH (k : Nat) : Dir := dput (dirO k) (rwN k) (2 * k + 1)
theorem all10 (p : Nat → Bool) (h : (List.range 10).all p = true) (i : Nat) (hi : i < 10) : p i = true := List.all_eq_true.1 h i (List.mem_range.2 hi)
theorem dir_nm (k : Nat) (hk : k < 9) : isNm (rwN k) = true ∧ isNm (sgN k) = true := by
  have := all10 (fun k => decide (k = 9) || isNm (rwN k) && isNm (sgN k)) (by decide +kernel) k (by omega)
  have h9 : decide (k = 9) = false := decide_eq_false (by omega)
  rw [h9] at this
  simpa using this
theorem dir_len (k : Nat) (hk : k < 10) : (dirO k).length < 150 ∧ (dirH k).length < 150 := by
  have := all10 (fun k => decide ((dirO k).length < 150) && decide ((dirH k).length < 150)) (by decide +kernel) k hk
  simpa using this
theorem dir_ne (k : Nat) (hk : k < 10) : (∀ p ∈ dirO k, p.1 ≠ []) ∧ ∀ p ∈ dirH k, p.1 ≠ [] := by
  have := all10 (fun k => (dirO k).all (fun p => !p.1.isEmpty) && (dirH k).all (fun p => !p.1.isEmpty)) (by decide +kernel) k hk
  simp only [Bool.and_eq_true, List.all_eq_true] at this
  exact ⟨fun p hp e => (by have h2 := this.1 p hp; rw [e] at h2; exact Bool.noConfusion h2), fun p hp e => (by have h2 := this.2 p hp; rw [e] at h2; exact Bool.noConfusion h2)⟩
theorem dir_step (k : Nat) (hk : k < 10) : dput (dirH k) (sgN k) (2 * k + 2) = dirO (k + 1) := by
  have := all10 (fun k => decide (dput (dirH k) (sgN k) (2 * k + 2) = dirO (k + 1))) (by decide +kernel) k hk
  simpa using this
theorem dir_stray (k : Nat) (hk : k < 10) : dput (dirO k) nS (2 * k + 1) = dirO k ++ [(nS, 2 * k + 1)] := by
  have := all10 (fun k => decide (dput (dirO k) nS (2 * k + 1) = dirO k ++ [(nS, 2 * k + 1)])) (by decide +kernel) k hk
  simpa using this
theorem dir_get (k : Nat) (hk : k < 10) : dget (dirO k ++ [(nS, 2 * k + 1)]) nM = some 0 := by
  have := all10 (fun k => decide (dget (dirO k ++ [(nS, 2 * k + 1)]) nM = some 0)) (by decide +kernel) k hk
  simpa using this
theorem dir_zero (k : Nat) (hk : k < 10) : (dirO k ++ [(nS, 2 * k + 1)]).countP (fun p => decide (p.2 = 0)) = 1 := by
  have := all10 (fun k => decide ((dirO k ++ [(nS, 2 * k + 1)]).countP (fun p => decide (p.2 = 0)) = 1)) (by decide +kernel) k hk
  simpa using this
theorem sD_file (B : List Nat) (y m c : Nat) (pend : List Chg) (now : Dir) (i : Nat) : ((sD B y m c pend now).file i).1.length = if i = 0 then B.length else 0 := by
  unfold St.file sD
  cases i with
  | zero => rfl
  | succ i =>
    simp only [List.getD_cons_succ, Nat.add_one_ne_zero, if_false]
    by_cases h : i < m
    · simp [List.getD, h]
    · simp [List.getD, Nat.le_of_not_lt h]
theorem sum_count (b : Nat) : ∀ L : Dir, (L.map fun p => if p.2 = 0 then b else 0).sum = L.countP (fun p => decide (p.2 = 0)) * b
  | [] => by simp
  | p :: L => by
    rw [List.map_cons, List.sum_cons, sum_count b L, List.countP_cons]
    by_cases h : p.2 = 0 <;> simp [h, Nat.add_mul, Nat.add_comm]
theorem sD_used (B : List Nat) (y m c : Nat) (pend : List Chg) (now : Dir) : (sD B y m c pend now).used = now.countP (fun p => decide (p.2 = 0)) * B.length := by
  unfold St.used
  rw [← sum_count]
  congr 1
  exact List.map_congr_left fun p _ => sD_file B y m c pend now p.2
theorem sD_withF {B : List Nat} {y m c : Nat} {pend : List Chg} {now : Dir} (h : dget now nM = some 0) (f : St → Nat → St × Nat) : withF (sD B y m c pend now) nM f = f (sD B y m (c + 1) pend now) 0 := by
  unfold withF withB
  rw [show beg (sD B y m c pend now) = (sD B y m (c + 1) pend now, false) from rfl]
  simp only [Bool.false_eq_true, if_false]
  rw [show (sD B y m (c + 1) pend now).now = now from rfl, h]
theorem sD_extd {B E : List Nat} {y m c : Nat} {pend : List Chg} {now : Dir} (hg : dget now nM = some 0) (h1 : now.countP (fun p => decide (p.2 = 0)) = 1) (h : B.length + E.length ≤ R20) : extd (sD B y m c pend now) nM E = (sD (B ++ E) (B ++ E).length m (c + 2) pend now, 0) := by
  unfold extd
  have ha : append (sD B y m c pend now) nM E = (sD (B ++ E) y m (c + 1) pend now, 0) := by
    unfold append
    rw [sD_withF hg]
    simp only [sD_used, h1, Nat.one_mul]
    rw [if_neg (by show ¬ (B.length + E.length > R20); omega)]
    rfl
  have hs : sync (sD (B ++ E) y m (c + 1) pend now) nM = (sD (B ++ E) (B ++ E).length m (c + 2) pend now, 0) := by
    unfold sync
    rw [sD_withF hg]
    rfl
  rw [ha]
  simp only [ne_eq, not_true_eq_false, if_false]
  unfold twiceS
  simp only [hs]
  simp
section
variable (r s : Nat → Bool)
def sO (j : Nat) : SG := ⟨(j : Int) + 1, s j, 0, 0, 0, 0⟩
def aO : Nat → List SG
  | 0 => []
  | k + 1 => aO k ++ (if r k then [sO s k] else [])
def wO : Nat → Nms
  | 0 => []
  | k + 1 => wO k ++ (if !r k || s k then [rwN k] else []) ++ (if !r k || !s k then [sgN k] else [])
theorem aO_mem {x : SG} : ∀ {k : Nat}, x ∈ aO r s k ↔ ∃ j, j < k ∧ r j = true ∧ x = sO s j
  | 0 => by simp [aO]
  | k + 1 => by
    rw [aO, List.mem_append, aO_mem]
    constructor
    · rintro (⟨j, hj, h⟩ | h)
      · exact ⟨j, by omega, h⟩
      · cases hr : r k with
        | true => rw [hr] at h; simp at h; exact ⟨k, by omega, hr, h⟩
        | false => rw [hr] at h; simp at h
    · rintro ⟨j, hj, h1, h2⟩
      by_cases e : j = k
      · subst e; right; rw [h1]; simpa using h2
      · left; exact ⟨j, by omega, h1, h2⟩
theorem aO_len : ∀ k, (aO r s k).length ≤ k
  | 0 => by simp [aO]
  | k + 1 => by
    have := aO_len k
    rw [aO, List.length_append]
    split <;> simp <;> omega
theorem aO_ks : ∀ k, KS SG.num (aO r s k)
  | 0 => by simp [aO, KS]
  | k + 1 => by
    rw [aO]
    unfold KS
    rw [List.pairwise_append]
    refine ⟨aO_ks k, by split <;> simp, fun a ha b hb => ?_⟩
    obtain ⟨j, hj, _, rfl⟩ := (aO_mem r s).1 ha
    cases hr : r k with
    | true => rw [hr] at hb; simp at hb; subst hb; show (j : Int) + 1 < (k : Int) + 1; omega
    | false => rw [hr] at hb; simp at hb
end
theorem kins_last {L : List SG} {x : SG} (h : ∀ y ∈ L, y.num < x.num) : kins SG.num x L = L ++ [x] := by
  induction L with
  | nil => rfl
  | cons y L ih =>
    unfold kins
    rw [if_neg (by have := h y (by simp); omega), ih fun z hz => h z (by simp [hz])]
    rfl
theorem kput_last {L : List SG} {x : SG} (h : ∀ y ∈ L, y.num < x.num) : kget SG.num L x.num = none ∧ kput SG.num L x = L ++ [x] := by
  have hn : kget SG.num L x.num = none := List.find?_eq_none.2 fun y hy => by have := h y hy; simp; omega
  refine ⟨hn, ?_⟩
  unfold kput
  rw [kdel_none _ hn, kins_last h]
theorem addK_rise {lim : Int} : ∀ (r L : List SG), KS SG.num (L ++ r) → (∀ x ∈ r, x.num < lim) → (L ++ r).length ≤ 60 → addK SG.num lim L r = some (L ++ r)
  | [], L, _, _, hl => by rw [addK, List.append_nil, if_pos (by simpa using hl)]
  | x :: r, L, hk, hx, hl => by
    have hlt : ∀ y ∈ L, y.num < x.num := fun y hy => by
      unfold KS at hk
      exact (List.pairwise_append.1 hk).2.2 y hy x (by simp)
    obtain ⟨h1, h2⟩ := kput_last hlt
    rw [addK, if_neg (by rw [h1]; have := hx x (by simp); simp; omega), h2]
    have e : L ++ x :: r = (L ++ [x]) ++ r := by simp
    rw [e] at hk hl ⊢
    exact addK_rise r (L ++ [x]) hk (fun y hy => hx y (by simp [hy])) hl
end Go.Proofs.YthgpdnffahmhjaaGreatDoor.S19
namespace Go.Proofs.YthgpdnffahmhjaaGreatDoor.S19
open Go.RowKit Go.Maps Go.Shelf Go.Sort S18 S13 S13.Dk S15 S3
theorem wpList_append_DN {α : Type} {w : World} {ops : Array Oper} {rest : List Oper} {o : Oper} {a : Act} {Q : Exit → Act → World → Prop} (ts t : TypeId) (k : Nat) (z : Value) (bytes : Nat) (hu : Tryz.prog.underlying ts = some (.slice t)) (hinfo : (Tryz.prog.info? t).map (fun i => (i.zero, i.size, i.bytes)) = some (some z, k, bytes)) (hzs : z.cells.size = k) (hk : 0 < k) (hby : bytes ≤ 1000)
    (hgd : o.guard = none) (s x : Operand) (ho : o.op = .call { callee := .builtin .append, args := #[s, x], argTypes := #[ts, ts] })
    (base : Nat) (R : α → List Value → Prop) (v : Value) (L : List α) (hs : a.eval s = v) (hown : OwnD base t k R w v L) (y : α) (c : List Value) (hy : R y c) (hc : c.length = k) (h1 : ∀ u ∈ c, u.oneCell' = true)
    (hx : a.eval x = .slice (some ⟨w.heap.size, 0, none⟩) 1 1) (hl : L.length + 1 ≤ 4294967296) (hbase : base ≤ w.heap.size)
    (h : ∀ v' w', OwnD base t k R w' v' (L ++ [y]) → (w.alloc (.cells c.toArray t (0, 0))).grownBy w' v.ownBlock → NearG (w.alloc (.cells c.toArray t (0, 0))) v v' → wpList Tryz.prog ops Q rest (a.put o.dst v') w') :
    wpList Tryz.prog ops Q (o :: rest) a (w.alloc (.cells c.toArray t (0, 0))) := by
  refine wpList_plain hgd fun _ hK => ?_
  obtain ⟨i0, hi, hz0, hz1, hz2⟩ : ∃ i, Tryz.prog.info? t = some i ∧ i.zero = some z ∧ i.size = k ∧ i.bytes = bytes := by
    cases hq : Tryz.prog.info? t with
    | none => rw [hq] at hinfo; cases hinfo
    | some i => rw [hq] at hinfo; simp at hinfo; exact ⟨i, rfl, hinfo.1, hinfo.2.1, hinfo.2.2⟩
  have hA : Below w.heap.size w (w.alloc (.cells c.toArray t (0, 0))) := (Below.refl _ _).alloc (Nat.le_refl _) _
  obtain ⟨cs, hcl, ho', h3⟩ := hown.below (R' := R) hA fun _ _ h => h
  have hblk := Blk.new w t c
  have hb2 : (L.length + 1) * bytes ≤ 140737488355328 := Nat.le_trans (Nat.mul_le_mul hl hby) (by omega)
  obtain ⟨v', w', hr, h4, h5, h6⟩ := run_append_nearG (w := w.alloc (.cells c.toArray t (0, 0))) base ts o.type t i0 z k bytes hu hi hz0 hz1 hz2 hzs hk v L.length cs.flatten ho' ⟨w.heap.size, 0, none⟩ 1 1 c (by omega) (fun j u hj => by rw [S18.addr_at, Nat.zero_add]; exact hblk.cell hj) h1 (by unfold maxLen; omega) hb2 (by simp; omega)
  unfold Oper.wp execOp
  simp only [ho, resolve, invoke, builtin, Sem.run_bind, Sem.run_pure, Result.andThen_ok, List.map_toArray, List.map_cons, List.map_nil, hs, hx, hr]
  refine hK _ _ (h v' w' ⟨cs ++ [c], by simp [hcl], ?_, fun i x d hx hd => ?_⟩ h5 h6)
  · rw [List.length_append, List.flatten_append]
    simpa using h4
  · by_cases hi : i < L.length
    · rw [List.getElem?_append_left hi] at hx
      rw [List.getElem?_append_left (by omega)] at hd
      exact h3 i x d hx hd
    · rw [List.getElem?_append_right (by omega)] at hx
      rw [List.getElem?_append_right (by omega)] at hd
      have hlt := (List.getElem?_eq_some_iff.1 hx).1
      have e1 : i - L.length = 0 := by simp at hlt; omega
      have e2 : i - cs.length = 0 := by omega
      rw [e1] at hx
      rw [e2] at hd
      simp at hx hd
      subst hx; subst hd
      exact ⟨hy, hc⟩
theorem own_blk {α : Type} {base : Nat} {t t' : TypeId} {k : Nat} {R : α → List Value → Prop} {w : World} {v : Value} {L : List α} {g : Nat} {c : List Value} (h : OwnD base t k R w v L) (hb : Blk w g t' c) (ht : t' ≠ t) : some g ≠ v.ownBlock := by
  obtain ⟨cs, _, ⟨_, ⟨rfl, _⟩ | ⟨g', cap, cur, rfl, _, hh, _⟩⟩, _⟩ := h
  · simp [Value.ownBlock]
  · intro e
    simp [Value.ownBlock] at e
    subst e
    have : Blk w g t cur.toList := by unfold Blk; simpa using hh
    exact ht (blk_ty hb this)
theorem own_own {α β : Type} {base : Nat} {t t' : TypeId} {k k' : Nat} {R : α → List Value → Prop} {R' : β → List Value → Prop} {w : World} {v v' : Value} {L : List α} {L' : List β} (h : OwnD base t k R w v L) (h' : OwnD base t' k' R' w v' L') (ht : t' ≠ t) : ∀ b, v'.ownBlock = some b → v.ownBlock ≠ some b := by
  intro b hb
  obtain ⟨cs, _, ⟨_, ⟨rfl, _⟩ | ⟨g', cap, cur, rfl, _, hh, _⟩⟩, _⟩ := h'
  · simp [Value.ownBlock] at hb
  · simp [Value.ownBlock] at hb
    subst hb
    have : Blk w g' t' cur.toList := by unfold Blk; simpa using hh
    exact (own_blk h this ht).symm
theorem OwnD.heapK {α : Type} {base : Nat} {t : TypeId} {k : Nat} {R : α → List Value → Prop} {w w' : World} {v : Value} {L : List α} (h : OwnD base t k R w v L) (hk : ∀ b, v.ownBlock = some b → w'.heap[b]? = w.heap[b]?) : OwnD base t k R w' v L := by
  obtain ⟨cs, h1, ⟨hl, h2 | ⟨g, cap, cur, rfl, hg, hh, hrest⟩⟩, h3⟩ := h
  · exact ⟨cs, h1, ⟨hl, .inl h2⟩, h3⟩
  · exact ⟨cs, h1, ⟨hl, .inr ⟨g, cap, cur, rfl, hg, (hk g rfl).trans hh, hrest⟩⟩, h3⟩
def YO (xb : Nat) (av wv : Value) (b : Nat) : Prop := b = xb ∨ av.ownBlock = some b ∨ wv.ownBlock = some b
def eO (A : List SG) : ED := ⟨50, 0, A, [], [], []⟩
structure OW (w0 : World) (p : Nat) (S : St) (q : Nat) (M : MS) (W : World) (sv pv : Option Nat) (D : Nat → Prop) (xb : Nat) (a1 : Option Addr) (c1 : Nat) (A : List SG) (wv : Value) (L : Nms) : Prop where
  y : InY w0 p S q M W sv pv D (YO xb (.slice a1 A.length c1) wv)
  x : Blk W xb 34 (edL (eO A) a1 c1 none 0 none 0 none 0)
  a : OwnD w0.heap.size 40 6 segC W (.slice a1 A.length c1) A
  l : OwnD w0.heap.size 9 1 strC W wv L
  b : w0.heap.size ≤ xb
section
variable {w0 W W' : World} {p q xb c1 : Nat} {S S' : St} {M : MS} {sv pv : Option Nat} {D : Nat → Prop} {a1 : Option Addr} {A : List SG} {wv : Value} {L : Nms}
theorem OW.below (h : OW w0 p S q M W sv pv D xb a1 c1 A wv L) (hb : Below W.heap.size W W') : OW w0 p S q M W' sv pv D xb a1 c1 A wv L :=
  ⟨h.y.below hb, h.x.below hb h.x.lt, OwnD.below h.a hb fun _ _ h => h, OwnD.below h.l hb fun _ _ h => h, h.b⟩
theorem OW.op (h : OW w0 p S q M W sv pv D xb a1 c1 A wv L) (hz : InZ w0 p S' (fun b => zM q sv pv D b ∨ YO xb (.slice a1 A.length c1) wv b) W') (hk : ∀ b, (zM q sv pv D b ∨ YO xb (.slice a1 A.length c1) wv b) → W'.heap[b]? = W.heap[b]?) : OW w0 p S' q M W' sv pv D xb a1 c1 A wv L :=
  ⟨h.y.op hz hk, (hk xb (.inr (.inl rfl))).trans h.x, OwnD.heapK h.a fun b hb => hk b (.inr (.inr (.inl hb))), OwnD.heapK h.l fun b hb => hk b (.inr (.inr (.inr hb))), h.b⟩
theorem OW.want (h : OW w0 p S q M W sv pv D xb a1 c1 A wv L) {o : Obj} {v' : Value} {s : List UInt8} (ho : OwnD w0.heap.size 9 1 strC W' v' (L ++ [s])) (hg : (W.alloc o).grownBy W' wv.ownBlock) (hn : NearG (W.alloc o) wv v') : OW w0 p S q M W' sv pv D xb a1 c1 A v' (L ++ [s]) := by
  have hgw : W.grownBy W' wv.ownBlock := ((World.grownBy_alloc W o none).but _).andThen hg (fun j hj => .inr hj)
  have hxw := own_blk h.l h.x (by decide)
  have haw := own_own h.l h.a (by decide)
  refine ⟨InY.app h.y (fun k hk => ⟨.inr (.inr hk), (h.l.lt k hk).1⟩) hgw fun b hb => ?_, h.x.grown hgw hxw, OwnD.keep h.a hgw (fun b hb => fun e => haw b hb e) fun _ _ h => h, ho, h.b⟩
  rcases hb with rfl | hb | hb
  · exact ⟨.inl (.inl rfl), Nat.lt_of_lt_of_le h.x.lt hgw.size⟩
  · exact ⟨.inl (.inr (.inl hb)), Nat.lt_of_lt_of_le (h.a.lt b hb).2 hgw.size⟩
  · refine ⟨?_, (ho.lt b hb).2⟩
    rcases hn b hb with h1 | h1
    · exact .inl (.inr (.inr h1))
    · refine .inr ?_
      simp at h1
      omega
theorem OW.adds (h : OW w0 p S q M W sv pv D xb a1 c1 A wv L) {o : Obj} {a2 : Option Addr} {c2 : Nat} {s : SG} (ho : OwnD w0.heap.size 40 6 segC W' (.slice a2 (A ++ [s]).length c2) (A ++ [s])) (hg : (W.alloc o).grownBy W' (Value.slice a1 A.length c1).ownBlock) (hn : NearG (W.alloc o) (.slice a1 A.length c1) (.slice a2 (A ++ [s]).length c2)) :
    Blk W' xb 34 (edL (eO A) a1 c1 none 0 none 0 none 0) ∧ OW w0 p S q M (W'.setCell ⟨xb, 2, none⟩ (.slice a2 (A ++ [s]).length c2)) sv pv D xb a2 c2 (A ++ [s]) wv L := by
  have hgw : W.grownBy W' (Value.slice a1 A.length c1).ownBlock := ((World.grownBy_alloc W o none).but _).andThen hg (fun j hj => .inr hj)
  have hxa := own_blk h.a h.x (by decide)
  have hwa := own_own h.a h.l (by decide)
  have hx := h.x.grown hgw hxa
  have hl := OwnD.keep (R' := strC) h.l hgw (fun b hb => fun e => hwa b hb e) fun _ _ h => h
  have hy : InY w0 p S q M W' sv pv D (YO xb (.slice a2 (A ++ [s]).length c2) wv) := InY.app h.y (fun k hk => ⟨.inr (.inl hk), (h.a.lt k hk).1⟩) hgw fun b hb => by
    rcases hb with rfl | hb | hb
    · exact ⟨.inl (.inl rfl), Nat.lt_of_lt_of_le h.x.lt hgw.size⟩
    · refine ⟨?_, (ho.lt b hb).2⟩
      rcases hn b hb with h1 | h1
      · exact .inl (.inr (.inl h1))
      · refine .inr ?_
        simp at h1
        omega
    · exact ⟨.inl (.inr (.inr hb)), Nat.lt_of_lt_of_le (h.l.lt b hb).2 hgw.size⟩
  have hs : W'.grownBy (W'.setCell ⟨xb, 2, none⟩ (.slice a2 (A ++ [s]).length c2)) (some xb) := Gr.setCell (Gr.refl _ _) _ _
  refine ⟨hx, InY.turn hy (.inl rfl) h.b hs, hx.set 2 _, OwnD.keep ho hs (fun b hb => fun e => own_blk ho hx (by decide) (e.trans hb.symm |> fun e => ?_)) fun _ _ h => h, OwnD.keep hl hs (fun b hb => fun e => own_blk hl hx (by decide) ?_) fun _ _ h => h, h.b⟩
  · exact e
  · exact e.trans hb.symm
end
end Go.Proofs.YthgpdnffahmhjaaGreatDoor.S19
namespace Go.Proofs.YthgpdnffahmhjaaGreatDoor.S19
open Go.RowKit Go.Maps Go.Shelf Go.Sort S18 S13 S13.Dk S15 S3
def PO (num : Int) (d : ByteArray) : Prop := d = digB num.toNat
theorem nmB_O (s : Nat → Bool) (j : Nat) : nmB (digB ((j : Int) + 1).toNat) (sO s j) = if s j then sgN j else rwN j := by
  have e : ((j : Int) + 1).toNat = j + 1 := by omega
  rw [e]
  unfold nmB digB sO rwN sgN
  rw [show 48 + (j + 1) = 49 + j by omega]
  cases s j <;> simp [segE, rawB, ByteArray.data_append]
theorem head_inj (i j : Nat) (hi : i < 9) (hj : j < 9) (h : UInt8.ofNat i = UInt8.ofNat j) : i = j := by
  have := congrArg UInt8.toNat h
  simp [UInt8.toNat_ofNat'] at this
  omega
section
variable {r s : Nat → Bool} {K : Nat} {L : Nms}
theorem raw_mem (hK : K ≤ 9) (h : NameIn PO (aO r s K) L) {j : Nat} (hj : j < K) : rwN j ∈ L ↔ (r j = true ∧ s j = false) := by
  obtain ⟨h1, h2, h3⟩ := h
  constructor
  · intro hm
    rcases h2 _ hm with e | ⟨x, hx, d, hd, e⟩
    · simp [rwN, nM] at e
    · obtain ⟨i, hi, hr, rfl⟩ := (aO_mem r s).1 hx
      unfold PO at hd
      subst hd
      rw [show (sO s i).num = (i : Int) + 1 from rfl, nmB_O] at e
      cases hs : s i with
      | true => rw [hs] at e; simp [rwN, sgN] at e
      | false =>
        rw [hs] at e
        simp [rwN] at e
        have := head_inj j i (by omega) (by omega) e
        subst this
        exact ⟨hr, hs⟩
  · rintro ⟨hr, hs⟩
    obtain ⟨d, hd, hm⟩ := h3 (sO s j) ((aO_mem r s).2 ⟨j, hj, hr, rfl⟩)
    unfold PO at hd
    subst hd
    rw [show (sO s j).num = (j : Int) + 1 from rfl, nmB_O, hs] at hm
    exact hm
theorem seg_mem (hK : K ≤ 9) (h : NameIn PO (aO r s K) L) {j : Nat} (hj : j < K) : sgN j ∈ L ↔ (r j = true ∧ s j = true) := by
  obtain ⟨h1, h2, h3⟩ := h
  constructor
  · intro hm
    rcases h2 _ hm with e | ⟨x, hx, d, hd, e⟩
    · simp [sgN, nM] at e
    · obtain ⟨i, hi, hr, rfl⟩ := (aO_mem r s).1 hx
      unfold PO at hd
      subst hd
      rw [show (sO s i).num = (i : Int) + 1 from rfl, nmB_O] at e
      cases hs : s i with
      | false => rw [hs] at e; simp [rwN, sgN] at e
      | true =>
        rw [hs] at e
        simp [sgN] at e
        have := head_inj j i (by omega) (by omega) e
        subst this
        exact ⟨hr, hs⟩
  · rintro ⟨hr, hs⟩
    obtain ⟨d, hd, hm⟩ := h3 (sO s j) ((aO_mem r s).2 ⟨j, hj, hr, rfl⟩)
    unfold PO at hd
    subst hd
    rw [show (sO s j).num = (j : Int) + 1 from rfl, nmB_O, hs] at hm
    exact hm
theorem stray_mem (h : NameIn PO (aO r s K) L) : nS ∉ L := by
  obtain ⟨h1, h2, h3⟩ := h
  intro hm
  rcases h2 _ hm with e | ⟨x, hx, d, hd, e⟩
  · simp [nS, nM] at e
  · obtain ⟨i, hi, hr, rfl⟩ := (aO_mem r s).1 hx
    unfold PO at hd
    subst hd
    rw [show (sO s i).num = (i : Int) + 1 from rfl, nmB_O] at e
    cases hs : s i <;> rw [hs] at e <;> simp [rwN, sgN, nS] at e
theorem filter_pairs (hK : K ≤ 9) (h : NameIn PO (aO r s K) L) : ∀ k, k ≤ K → (((List.range k).flatMap (fun j => [(rwN j, 2 * j + 1), (sgN j, 2 * j + 2)])).map (·.1)).filter (fun x => !decide (x ∈ L)) = wO r s k
  | 0, _ => rfl
  | k + 1, hk => by
    have ih := filter_pairs hK h k (by omega)
    rw [List.range_succ, List.flatMap_append, List.map_append, List.filter_append, ih, wO, List.append_assoc]
    congr 1
    have m1 := raw_mem hK h (show k < K by omega)
    have m2 := seg_mem hK h (show k < K by omega)
    cases hr : r k <;> cases hs : s k <;> simp [hr, hs] at m1 m2 <;> simp [m1, m2, hr, hs]
theorem filter_old (hK : K ≤ 9) (h : NameIn PO (aO r s K) L) : ((dirO K ++ [(nS, 2 * K + 1)]).map (·.1)).filter (fun x => !decide (x ∈ L)) = wO r s K ++ [nS] := by
  have hp := filter_pairs hK h K (Nat.le_refl _)
  have hM := h.1
  have hS := stray_mem h
  unfold dirO
  rw [List.map_append, List.map_append, List.filter_append, List.filter_append, hp]
  simp [hM, hS]
def MO (r s : Nat → Bool) (K : Nat) : MS := ⟨50, 1, aO r s K, []⟩
theorem app_O (hK : K ≤ 9) : applyM MS1 (eO (aO r s K)) false = some (MO r s K) := by
  have hl := aO_len r s K
  have h3 : addK SG.num 50 [] (aO r s K) = some (aO r s K) := by
    have := addK_rise (lim := 50) (aO r s K) [] (by simpa using aO_ks r s K) (fun x hx => by
      obtain ⟨j, hj, _, rfl⟩ := (aO_mem r s).1 hx
      show (j : Int) + 1 < 50
      omega) (by simp; omega)
    simpa using this
  exact ap_ok (s := MS1) (e := eO (aO r s K)) (f := false) (A := []) (A' := aO r s K) (B := []) (B' := []) rfl rfl rfl rfl h3 rfl (.inr rfl)
theorem fine_O (hK : K ≤ 9) : Fine (eO (aO r s K)) := by
  have hl := aO_len r s K
  have hs : ∀ x ∈ aO r s K, segB x = true ∧ sumW x.sum := fun x hx => by
    obtain ⟨j, hj, _, rfl⟩ := (aO_mem r s).1 hx
    refine ⟨?_, by simp [sO, sumW]⟩
    unfold segB
    simp only [Bool.and_eq_true]
    refine ⟨⟨⟨?_, rfl⟩, rfl⟩, rfl⟩
    show numB ((j : Int) + 1) = true
    unfold numB
    rw [inB_iff]
    omega
  refine ⟨?_, ?_⟩
  · rw [edB_iff]
    refine ⟨rfl, rfl, ?_, rfl, rfl, rfl⟩
    rw [allB_iff]
    exact ⟨by show (aO r s K).length ≤ 60; omega, fun x hx => (hs x hx).1⟩
  · refine ⟨fun x hx => (hs x hx).2, fun x hx => by simp [eO] at hx⟩
end
end Go.Proofs.YthgpdnffahmhjaaGreatDoor.S19

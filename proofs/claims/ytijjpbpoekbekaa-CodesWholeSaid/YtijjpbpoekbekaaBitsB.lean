/- The walks of the bit writer's methods: each method's contract. -/
import Derived.Test.YtijjpbpoekbekaaProg
import Derived.Test.YtijjpbpoekbekaaBitsA
namespace Go.Proofs.Ytijjpbpoekbekaa
open Go.RowKit Pl

theorem fill_sum {n m c : Nat} {x y : Int} (h : x = c) : (n : Int) + x = (n : Int) + (c : Int) := by rw [h]

set_option maxHeartbeats 400000 in
theorem fill_a (b : Nat) (fo : Option Addr) (L : List Bool) (v : Int) (m n : Nat) (w : World) (hn : Hid (n = L.length)) (hv : U64 v)
    (hb : Blk w b 41 (wcells fo L)) (hch : Chain w L (L.length / 2048) fo)
    (hnb : n < 17179869184) (hm : m ≤ 64) (hm0 : 0 < m) (hcm : 8 - n % 8 ≤ m) (hx : (n + (8 - n % 8)) % 2048 ≠ 0) :
    Calls Try.prog 29 #[.pointer (some ⟨b, 0, none⟩), .int .u64 v, .int .i64 m] w (FillPost b L v m w) := by
  have hn' := hn.out
  have c0 := hb.cell (wcells_0 fo L)
  have c1 := hb.cell (wcells_j fo L (n / 8 % 256) (by omega))
  have c2 := hb.cell (wcells_n fo L)
  have hf := hb.frozen
  rw [← hn'] at c2
  have e1 : 256 * (L.length / 2048) + n / 8 % 256 = n / 8 := by rw [← hn']; exact div_mod_2048 n
  rw [e1] at c1
  obtain ⟨T, hT⟩ : ∃ T, T = byteAt L (n / 8) := ⟨_, rfl⟩
  rw [← hT] at c1
  have HT := Lib.hid hT
  have HB := Lib.hid hb
  have HC := Lib.hid hch
  have HV := Lib.hid hv
  clear hT hb hch hn' e1 hv
  have hd : ¬ ((m : Int) < 8 - (n : Int) % 8) := by omega
  go_enter Try.func29, Try.ntmps29
  go_wp2
  go_quiet (fail)
  go_wp2
  go_region
  go_wp2
  go_ret
  have e : (8 : Int) - (n : Int) % 8 = ((8 - n % 8 : Nat) : Int) := by omega
  refine fill_end_a (c := 8 - n % 8) hn.out HB.out HC.out (by omega) hcm (by omega) hx e (by rw [e]) ?_
  have hb' := fill_byte (L := L) (v := v) (m := m) (c := 8 - n % 8) HV.out (by rw [← hn.out]; omega)
  rw [← hn.out] at hb'
  rw [← hn.out, ← hb', HT.out]
  simp

set_option maxHeartbeats 400000 in
theorem fill_b (b : Nat) (fo : Option Addr) (L : List Bool) (v : Int) (m n : Nat) (w : World) (hn : Hid (n = L.length)) (hv : U64 v)
    (hb : Blk w b 41 (wcells fo L)) (hch : Chain w L (L.length / 2048) fo)
    (hnb : n < 17179869184) (hm0 : 0 < m) (hcm : m < 8 - n % 8) :
    Calls Try.prog 29 #[.pointer (some ⟨b, 0, none⟩), .int .u64 v, .int .i64 m] w (FillPost b L v m w) := by
  have hn' := hn.out
  have c0 := hb.cell (wcells_0 fo L)
  have c1 := hb.cell (wcells_j fo L (n / 8 % 256) (by omega))
  have c2 := hb.cell (wcells_n fo L)
  have hf := hb.frozen
  rw [← hn'] at c2
  have e1 : 256 * (L.length / 2048) + n / 8 % 256 = n / 8 := by rw [← hn']; exact div_mod_2048 n
  rw [e1] at c1
  obtain ⟨T, hT⟩ : ∃ T, T = byteAt L (n / 8) := ⟨_, rfl⟩
  rw [← hT] at c1
  have HT := Lib.hid hT
  have HB := Lib.hid hb
  have HC := Lib.hid hch
  have HV := Lib.hid hv
  clear hT hb hch hn' e1 hv
  have hd : (m : Int) < 8 - (n : Int) % 8 := by omega
  go_enter Try.func29, Try.ntmps29
  go_wp2
  go_quiet (fail)
  go_wp2
  go_region
  go_wp2
  go_ret
  refine fill_end_a (c := m) hn.out HB.out HC.out (by omega) (Nat.le_refl _) (by omega) (by omega) rfl rfl ?_
  have hb' := fill_byte (L := L) (v := v) (m := m) (c := m) HV.out (by rw [← hn.out]; omega)
  rw [← hn.out] at hb'
  rw [← hn.out, ← hb', HT.out]
  simp
theorem run_loadVar_mid (w : World) (b : Nat) (h : Wide w b 258) : (loadVar 39 ⟨b, 1, none⟩).run Try.prog w = .ok (.agg (chunkAt w b)) w := by
  obtain ⟨t, c, h, hn⟩ := h
  have hl : (loadCells ⟨b, 1, none⟩ (c.toList.drop 1 |>.take 256).length).run Try.prog w = .ok (c.toList.drop 1 |>.take 256).toArray w :=
    run_loadCells_list (P := Try.prog) w ⟨b, 1, none⟩ _ (fun j v hv => by
      have hadd : (⟨b, 1, none⟩ : Addr).add j = ⟨b, 1 + j, none⟩ := by unfold Addr.add; split <;> simp_all
      rw [hadd, cell_of_row w b (1 + j) c t (0, 0) h]
      have hj : j < 256 := by
        have := (List.getElem?_eq_some_iff.1 hv).1
        simp at this; omega
      rw [List.getElem?_take_of_lt hj, List.getElem?_drop] at hv
      simpa using hv)
  have hlen : (c.toList.drop 1 |>.take 256).length = 256 := by simp [hn]
  rw [hlen] at hl
  have hi : (Try.prog.info? 39).map (·.size) = some 256 := by kernel_rfl
  have hagg : (isAgg 39).run Try.prog w = .ok true w := by
    unfold isAgg
    rw [Sem.run_bind, run_underlying Try.underlying39 w]
    rfl
  cases hq : Try.prog.info? 39 with
  | none => simp [hq] at hi
  | some i =>
    have hs : i.size = 256 := by simpa [hq] using hi
    have e : (c.toList.drop 1 |>.take 256).toArray = chunkAt w b := by
      simp [chunkAt, h]
      apply Array.ext'
      simp
    simp [loadVar, Sem.run_bind, hagg, sizeOf, typeInfo, hq, hs, hl]
    rw [← e]; simp

theorem zero55 (w : World) : (zeroValue 74).run Try.prog w = .ok (.agg ((Value.pointer none :: zeros256).toArray)) w := by kernel_rfl
theorem size25 (w : World) : (sizeOf 37).run Try.prog w = .ok 1 w := by kernel_rfl
theorem size27 (w : World) : (sizeOf 39).run Try.prog w = .ok 256 w := by kernel_rfl
set_option maxRecDepth 100000 in
theorem run_build_link (w : World) (x : Option Addr) (A : Array Value) (hA : A.size = 256) :
    (Instr.build 74 #[(0, .pointer x), (1, .agg A)]).run Try.prog w = .ok (.agg ((Value.pointer x :: A.toList).toArray)) w := by
  unfold Instr.build
  have h1 : Instr.fill (fun i => #[(0, 1), (1, 256)][i]?) (Value.pointer none :: zeros256).toArray [(0, .pointer x), (1, .agg A)] = some (Value.pointer x :: A.toList).toArray := by
    rw [fill_part (off := 0) (size := 1) _ _ _ _ _ rfl rfl (by simp), fill_part (off := 1) (size := 256) _ _ _ _ _ rfl (by simpa [Value.cells] using hA) (by simp [Value.cells, zeros256_length])]
    simp [Instr.fill, Value.cells, zeros256_length]
  simp only [Sem.run_bind, zero55, Result.andThen_ok, run_underlying Try.underlying74, Value.cells]
  have hp : ∀ K : Array (Nat × Nat) → World → Result Value, Result.andThen (Sem.run Try.prog (Array.mapM (fun (f : Field) => do let d ← sizeOf f.type; pure (f.offset, d)) #[{ name := "before", type := 37, offset := 0, embedded := false, tag := "", pkgPath := "folio/bits", byteOffset := 0 }, { name := "bytes", type := 39, offset := 1, embedded := false, tag := "", pkgPath := "folio/bits", byteOffset := 8 }]) w) K = K #[(0, 1), (1, 256)] w := fun K => by kernel_rfl
  refine (hp _).trans ?_
  show Sem.run Try.prog (match Instr.fill (fun i => #[(0, 1), (1, 256)][i]?) (Value.pointer none :: zeros256).toArray [(0, .pointer x), (1, .agg A)] with | some cells => pure (Value.agg cells) | x => stuck "build: no such field, or a part of the wrong size") w = _
  rw [h1]
  rfl

def load27S (v : Value) : Sem Value := Instr.loadAt 39 v
theorem load27_eq (v : Value) : Instr.loadAt 39 v = load27S v := rfl
theorem run_load27 (w : World) (b : Nat) (h : Wide w b 258) : (load27S (.pointer (some ⟨b, 1, none⟩))).run Try.prog w = .ok (.agg (chunkAt w b)) w := by
  simp only [load27S, Instr.loadAt, Instr.sureAddr, Sem.run_bind, Sem.run_pure, Result.andThen_ok, run_loadVar_mid w b h]
def build55S (v : Array (Nat × Value)) : Sem Value := Instr.build 74 v
theorem build55_eq (v : Array (Nat × Value)) : Instr.build 74 v = build55S v := rfl
theorem run_build55 (w : World) (x : Option Addr) (A : Array Value) (hA : A.size = 256) :
    (build55S #[(0, .pointer x), (1, .agg A)]).run Try.prog w = .ok (.agg ((Value.pointer x :: A.toList).toArray)) w := run_build_link w x A hA
def store27S (p v : Value) : Sem Unit := Instr.storeAt 39 p v
theorem store27_eq (p v : Value) : Instr.storeAt 39 p v = store27S p v := rfl
theorem run_store27 (w : World) (b : Nat) (h : Wide w b 258) : (store27S (.pointer (some ⟨b, 1, none⟩)) (.agg zeros256.toArray)).run Try.prog w = .ok () (wipe w b) := by
  obtain ⟨t, c, h, hn⟩ := h
  have hs := run_storeCells_cells (P := Try.prog) b 1 zeros256 0 w
    (fun j hj => by rw [zeros256_length] at hj; rw [cell_of_row w b _ c t (0, 0) h]; simp; omega)
    (fun j hj => frozen_of_row w b _ c t h)
    (fun v hv => by unfold zeros256 at hv; rw [List.mem_replicate] at hv; rw [hv.2]; rfl)
  have hz : zeros256.toArray.size = 256 := by simp [zeros256_length]
  simp only [store27S, Instr.storeAt, Instr.sureAddr, Sem.run_bind, Sem.run_pure, Result.andThen_ok, storeVar, size27, Value.cells, hz]
  exact hs
def build27S (v : Array (Nat × Value)) : Sem Value := Instr.build 39 v
theorem build27_eq (v : Array (Nat × Value)) : Instr.build 39 v = build27S v := rfl
theorem run_build27 (w : World) : (build27S #[]).run Try.prog w = .ok (.agg zeros256.toArray) w := by kernel_rfl
attribute [local go_sem ↓] load27_eq build55_eq store27_eq build27_eq
attribute [local go_sem] wide_alloc run_store27 run_build27
attribute [local go_sem] run_load27 run_build55 chunkAt_sizeE
attribute [local go_sem] wide_setCell wide_drew wide_drewN
set_option maxHeartbeats 400000 in
theorem fill_c (b : Nat) (fo : Option Addr) (L : List Bool) (v : Int) (m n : Nat) (w : World) (hn : Hid (n = L.length)) (hv : U64 v)
    (hb : Blk w b 41 (wcells fo L)) (hch : Chain w L (L.length / 2048) fo)
    (hnb : n < 17179869184) (hm : m ≤ 64) (hm0 : 0 < m) (hcm : 8 - n % 8 ≤ m) (hx : Hid ((n + (8 - n % 8)) % 2048 = 0)) :
    Calls Try.prog 29 #[.pointer (some ⟨b, 0, none⟩), .int .u64 v, .int .i64 m] w (FillPost b L v m w) := by
  have hn' := hn.out
  have c0 := hb.cell (wcells_0 fo L)
  have c1 := hb.cell (wcells_j fo L (n / 8 % 256) (by omega))
  have c2 := hb.cell (wcells_n fo L)
  have hf := hb.frozen
  have hlt := hb.lt
  have hW : Wide w b 258 := by have := Wide.of hb; rwa [wcells_length] at this
  rw [← hn'] at c2
  have e1 : 256 * (L.length / 2048) + n / 8 % 256 = n / 8 := by rw [← hn']; exact div_mod_2048 n
  rw [e1] at c1
  obtain ⟨T, hT⟩ : ∃ T, T = byteAt L (n / 8) := ⟨_, rfl⟩
  rw [← hT] at c1
  have HT := Lib.hid hT
  have HB := Lib.hid hb
  have HC := Lib.hid hch
  have HV := Lib.hid hv
  clear hT hb hch hn' e1 hv
  have hd : ¬ ((m : Int) < 8 - (n : Int) % 8) := by omega
  have hx' : (((n : Int) + (8 - (n : Int) % 8)) % 2048 == 0) = true := by rw [beq_iff_eq]; have := hx.out; omega
  go_enter Try.func29, Try.ntmps29
  go_wp2
  go_quiet (fail)
  go_wp2
  go_region
  go_wp2
  go_region
  all_goals
    go_wp2
    go_ret
    have e : (8 : Int) - (n : Int) % 8 = ((8 - n % 8 : Nat) : Int) := by omega
    refine fill_end_c (c := 8 - n % 8) hn.out HB.out HC.out (by omega) hcm (by omega) hx.out e (by rw [e]) ?_
    have hb' := fill_byte (L := L) (v := v) (m := m) (c := 8 - n % 8) HV.out (by rw [← hn.out]; omega)
    rw [← hn.out] at hb'
    rw [← hn.out, ← hb', HT.out]
    simp
end Go.Proofs.Ytijjpbpoekbekaa

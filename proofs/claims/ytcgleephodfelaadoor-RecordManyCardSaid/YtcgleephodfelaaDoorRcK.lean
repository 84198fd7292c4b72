/- The laws' own opening. -/
import Derived.Test.YtcgleephodfelaaDoorRcJ
import Derived.Test.YtcgleephodfelaaDoorRcD
set_option linter.unusedSimpArgs false
set_option linter.unusedVariables false
set_option maxRecDepth 100000
namespace Go.Proofs.YtcgleephodfelaaDoor.S14
open Go.RowKit S2.Pl S3 S3.Pl
attribute [local go_sem ↓] loadR_eq storeR_eq buildR_eq sliceU8_eq
theorem enc_lt (r : RT) : ∀ x ∈ enc r, x < 256 := by
  unfold enc
  split
  · rename_i h
    exact pseal_lt (body_lt (kind_lt (chk_ok h).2.2.2))
  · simp
theorem enc_len (r : RT) : (enc r).length ≤ 4143 := by
  unfold enc
  split
  · rename_i h
    rw [pseal_length]
    have := (body_len h).1
    omega
  · simp
theorem scan_one {r : RT} (h : chk r = 0) : scanR (enc r) = ([r], (enc r).length, true) := by
  rw [enc_good h]
  have hp := pscan_one (body r) (body_lt (kind_lt (chk_ok h).2.2.2)) (by have := (body_len h).1; omega)
  have hl := scanL_ok (l := [r]) (by simpa using h)
  simp only [List.map_cons, List.map_nil] at hl
  unfold scanR
  rw [hp]
  simp only [hl, encs, List.append_nil, Bool.and_self]
theorem encPost_is {r : RT} {w w' : World} {sp : Option Addr} {cap : Nat} (h : w'.ownsRow w.heap.size 5 1 (.slice sp (enc r).length cap) (enc r).length (u8s (enc r))) : IsBytes w' (.slice sp (enc r).length cap) (enc r) := isBytes_own (enc_lt r) h
def rKV : RT := ⟨1, 3, ⟨#[107]⟩, ⟨#[118]⟩⟩
theorem chk_KV : chk rKV = 0 := by decide
theorem run_buildR4 (w : World) (k s : Int) (b c : ByteArray) : (buildR #[(0, .int .i64 k), (1, .int .i64 s), (2, .string b), (3, .string c)]).run Tryd.prog w = .ok (.agg #[.int .i64 k, .int .i64 s, .string b, .string c]) w := by kernel_rfl
attribute [local go_sem] run_buildR run_buildR4
theorem RecsAt.cell {w : World} {a : Option Addr} {n cap : Nat} {L : List RT} (h : RecsAt w (.slice a n cap) L) (h0 : 0 < L.length) : ∃ b off, a = some ⟨b, off, none⟩ ∧ b < w.heap.size ∧ ∀ i, i < L.length → ∀ j u, (recL (L.getD i zR))[j]? = some u → w.cell? ⟨b, off + i * 4 + j, none⟩ = some u := by
  obtain ⟨a', cap', he, h1, h2, h3⟩ := h
  simp at he
  obtain ⟨rfl, rfl, rfl⟩ := he
  exact h3 h0
set_option maxHeartbeats 8000000 in
theorem begun_any (w : World) (hT : Tab w) : Calls Tryd.prog 6 #[] w fun e w' => e = .returned (.bool true) ∧ Below w.heap.size w w' := by
  have HT := Lib.hid hT
  have henc := encode_any rKV w hT (by decide) (by decide)
  simp only [rKV] at henc
  obtain ⟨r, hr⟩ : ∃ r, (⟨1, 3, ⟨#[107]⟩, ⟨#[118]⟩⟩ : RT) = r := ⟨_, rfl⟩
  rw [hr] at henc
  have hch : chk r = 0 := by rw [← hr]; exact chk_KV
  have hv : r.val = ⟨#[118]⟩ := by rw [← hr]
  unfold EncPost at henc
  rw [hch] at henc
  have HCH := Lib.hid hch
  have HENC := Lib.hid henc
  have HVL := Lib.hid hv
  clear hT henc hr hch hv
  go_enter Tryd.func6, Tryd.ntmps6
  go_wp2_with fail
  refine HENC.out.mono ?_
  rintro e w1 ⟨sp1, cap1, rfl, ho1, hb1⟩
  have HI1 := Lib.hid (encPost_is ho1.out)
  have hsc := rscan_any _ (enc r) w1 (HT.out.below hb1.out) HI1.out (by have := enc_len r; omega)
  unfold RScanPost at hsc
  rw [scan_one HCH.out] at hsc
  obtain ⟨N, hN⟩ : ∃ N, (enc r).length = N := ⟨_, rfl⟩
  rw [hN] at hsc ⊢
  have hNb : N ≤ 4143 := by rw [← hN]; exact enc_len r
  have HSC := Lib.hid hsc
  have HB1 := hb1
  clear hsc ho1 hb1 hN HENC HI1
  go_wp2_with fail
  refine HSC.out.mono ?_
  rintro e w2 ⟨sp2, cap2, rfl, ho2, hb2⟩
  obtain ⟨b, off, rfl, hbl, hc⟩ := ho2.out.at.cell (by simp)
  have c3 : w2.cell? ⟨b, off + 3, none⟩ = some (.string ⟨#[118]⟩) := by
    have := hc 0 (by simp) 3 (.string ⟨#[118]⟩) (by simp [recL, HVL.out])
    simpa using this
  have HB2 := Lib.hid (HB1.out.trans (hb2.out.mono HB1.out.size))
  have hck := check_any zR w2 (by decide) (by decide)
  simp only [zR] at hck
  have hq1 : ((N : Int) == (N : Int)) = true := beq_t rfl
  clear ho2 hb2 hc HSC HB1
  go_wp2_with fail
  refine hck.mono ?_
  rintro e w3 ⟨rfl, hb3⟩
  have HB3 := Lib.hid (HB2.out.trans (hb3.mono HB2.out.size))
  rw [show chk ⟨0, 0, ⟨#[]⟩, ⟨#[]⟩⟩ = 1 from by decide]
  clear hck hb3
  go_wp2_with fail
  go_ret
  exact ⟨rfl, HB3.out⟩
end Go.Proofs.YtcgleephodfelaaDoor.S14

/- NumbersMany, walked. -/
import Derived.Test.YtpibbepojjicgaaNumI
import Derived.Test.YtpibbepojjicgaaSlice
namespace Go.Proofs.Ytpibbepojjicgaa
open Go.RowKit Pl

attribute [local go_sem ↓] sliceU8_eq
set_option maxHeartbeats 2000000 in
set_option maxRecDepth 100000 in
theorem numbersMany_walk (a : Option Addr) (len cap : Nat) (z : List Int) (ad : Option Addr) (ls caps : Nat) (ss : List ByteArray) (w : World) (hr : IsRow .i64 w a len cap z) (hs : IsStrs w ad ls ss) :
    Calls Try.prog 6 #[.slice a len cap, .slice ad ls caps] w fun e w' => e = .returned (.bool true) ∧ Below w.heap.size w w' := by
  have hlen := hr.len_le
  have hlens := hs.1
  unfold maxLen at hlen hlens
  have HR := Lib.hid hr
  have HS := Lib.hid hs
  clear hr hs
  obtain ⟨m, hm⟩ : ∃ m, m = min len 20 := ⟨_, rfl⟩
  have hm20 : m ≤ 20 := by omega
  have hml : m ≤ len := by omega
  have HM := Lib.hid hm
  clear hm
  go_enter Try.func6, Try.ntmps6
  go_wp2_with fail
  refine (begun_any _).mono ?_
  rintro e w1 ⟨rfl, hb1⟩
  have HB1 := Lib.hid hb1
  clear hb1
  go_wp2_with fail
  go_loopw [6, 7] (fun v x wr => ∃ i : Nat, i ≤ m ∧ x = .int .i64 i ∧ wr.ownsRow w.heap.size 5 1 v (upTo z ss ls i).length (u8s (upTo z ss ls i)) ∧ Below w.heap.size w wr) (fun _ x _ => m - (intOf x).toNat)
  case atStart => exact ⟨0, by omega, rfl, own_nil _ _, HB1.out⟩
  case round =>
    obtain ⟨i, hi, rfl, ho, hb⟩ := hrel
    have HB := Lib.hid hb
    have hsz := hb.size
    obtain ⟨sp, cp, rfl, _, _⟩ := ownsRow_slice ho
    have HO := Lib.hid ho
    have hle := upTo_len z ss ls i
    clear ho hb HB1
    by_cases hlt : i < m
    · have hil : i < len := by omega
      have hd20 : decide ((i : Int) < 20) = true := by simp; omega
      obtain ⟨b, off, rfl, hbl, _, _, hc, _⟩ := HR.out.cells (by omega)
      have c0 := (HB.out.cell (p := ⟨b, off + i, none⟩) hbl).trans (hc i hil)
      obtain ⟨N, hN, hN2⟩ := wrap64 (z.getD i 0)
      have HP : Hid (piece z ss ls i = vput N ++ if i < ls then vtext (strB (cutS (ss.getD i ByteArray.empty) 30)) else []) := Lib.hid (by unfold piece; rw [hN]; rfl)
      have HU := upTo_succ z ss ls i
      have HSU := Lib.hid HU
      have HN2 : Hid (U64 (N : Int)) := Lib.hid ⟨by omega, by omega⟩
      have hpl := (vput_len64 N hN2).1
      clear hc hN2 HU
      obtain ⟨xi, hxi⟩ : ∃ xi, xi = z.getD i 0 := ⟨_, rfl⟩
      rw [← hxi] at c0 hN
      clear hxi
      have hput := fun (W : World) => put_any (N : Int) W HN2.out
      rw [Int.toNat_natCast] at hput
      have HPut := Lib.hid hput
      clear hput
      by_cases hls : i < ls
      · obtain ⟨bs, offs, rfl, hbsl, hcs⟩ := HS.out.cells (by omega)
        have hcs2 := hcs i hls
        have HCS := Lib.hid hcs2.1
        have HS2 : Hid ((ss.getD i ByteArray.empty).size ≤ maxLen) := Lib.hid hcs2.2
        have s0 := (HB.out.cell (p := ⟨bs, offs + i, none⟩) hbsl).trans hcs2.1
        clear hcs hcs2
        obtain ⟨s, hse⟩ : ∃ s, s = ss.getD i ByteArray.empty := ⟨_, rfl⟩
        rw [← hse] at s0 HS2 HP HCS
        clear hse
        rw [if_pos hls] at HP
        have hvl := (vtext_len s).1
        go_wp2_with fail
        refine (HPut.out _).mono ?_
        rintro e w2 ⟨v2, rfl, ho2, hb2⟩
        obtain ⟨sp2, cp2, rfl, _, _⟩ := ownsRow_slice ho2
        have HI2 := Lib.hid (isBytes_own (vput_lt _) ho2)
        have HB2 := Lib.hid (HB.out.trans (hb2.mono HB.out.size))
        have HO2 := Lib.hid (own_below HO.out hb2)
        have hsz2 := HB2.out.size
        clear ho2 hb2 HO HB
        go_wp2_with (at_builtin; refine wpList_append_bytes rfl (.tmp 26) (.tmp 32) rfl w.heap.size (.slice sp (upTo z ss ls i).length cp) (upTo z ss ls i).length _ rfl HO2.out _ (vput N) rfl HI2.out (by omega) hsz2 ?_; intro v3 w3 hown hgr; obtain ⟨sp3, cp3, rfl, _, _⟩ := ownsRow_slice hown; have HO3 := Lib.hid hown; have HB3 := Lib.hid (HB2.out.grown hgr hsz2 (own_lt HO2.out)); have hsz3 := HB3.out.size; have s3 := (HB3.out.cell (p := ⟨bs, offs + i, none⟩) hbsl).trans HCS.out; clear hown hgr)
        refine (cut_any s 30 _ HS2.out (by omega)).mono ?_
        rintro e w4 ⟨rfl, rfl⟩
        go_wp2_with fail
        refine (text_any (cutS s 30) _ (by have := cutS_size s 30; omega)).mono ?_
        rintro e w4 ⟨v4, rfl, ho4, hb4⟩
        obtain ⟨sp4, cp4, rfl, _, _⟩ := ownsRow_slice ho4
        have HI4 := Lib.hid (isBytes_own (vtext_lt _ (strB_lt _)) ho4)
        have HB4 := Lib.hid (HB3.out.trans (hb4.mono HB3.out.size))
        have HO4 := Lib.hid (own_below HO3.out hb4)
        have hsz4 := HB4.out.size
        clear ho4 hb4 HO3 HB3
        go_wp2_with (at_builtin; refine wpList_append_bytes rfl (.tmp 38) (.tmp 44) rfl w.heap.size (.slice sp3 ((upTo z ss ls i).length + (vput N).length) cp3) ((upTo z ss ls i).length + (vput N).length) _ rfl HO4.out _ (vtext (strB (cutS s 30))) rfl HI4.out (by omega) hsz4 ?_; intro v5 w5 hown hgr)
        go_roundw
        case rel =>
          refine ⟨i + 1, by omega, by go_num, ?_, HB4.out.grown hgr hsz4 (own_lt HO4.out)⟩
          rw [← u8s_append, ← u8s_append, List.append_assoc, ← HP.out, ← HSU.out] at hown
          have e : (upTo z ss ls i).length + (vput N).length + (vtext (strB (cutS s 30))).length = (upTo z ss ls (i + 1)).length := by rw [HSU.out, HP.out]; simp; omega
          rw [e] at hown
          exact hown
        case measure => simp [intOf]; omega
      · rw [if_neg hls, List.append_nil] at HP
        go_wp2_with fail
        refine (HPut.out _).mono ?_
        rintro e w2 ⟨v2, rfl, ho2, hb2⟩
        obtain ⟨sp2, cp2, rfl, _, _⟩ := ownsRow_slice ho2
        have HI2 := Lib.hid (isBytes_own (vput_lt _) ho2)
        have HB2 := Lib.hid (HB.out.trans (hb2.mono HB.out.size))
        have HO2 := Lib.hid (own_below HO.out hb2)
        have hsz2 := HB2.out.size
        clear ho2 hb2 HO HB
        go_wp2_with (at_builtin; refine wpList_append_bytes rfl (.tmp 26) (.tmp 32) rfl w.heap.size (.slice sp (upTo z ss ls i).length cp) (upTo z ss ls i).length _ rfl HO2.out _ (vput N) rfl HI2.out (by omega) hsz2 ?_; intro v3 w3 hown hgr; obtain ⟨sp3, cp3, rfl, _, _⟩ := ownsRow_slice hown; have HO3 := Lib.hid hown; have HB3 := Lib.hid (HB2.out.grown hgr hsz2 (own_lt HO2.out)); have hsz3 := HB3.out.size; clear hown hgr)
        go_roundw
        case rel =>
          refine ⟨i + 1, by omega, by go_num, ?_, HB3.out⟩
          have h3 := HO3.out
          have e2 : upTo z ss ls (i + 1) = upTo z ss ls i ++ vput N := by rw [HSU.out, HP.out]
          rw [← u8s_append, ← List.length_append, ← e2] at h3
          rw [← List.length_append, ← e2]
          exact h3
        case measure => simp [intOf]; omega
    · obtain rfl : i = m := by omega
      have hend : (len : Int) ≤ i ∨ ((i : Int) < len ∧ (20 : Int) ≤ i) := by have := HM.out; omega
      have HI := Lib.hid (isBytes_own (upTo_lt z ss ls i) HO.out)
      rw [← from_zero] at HI ⊢
      clear hlt hi HO hle
      rcases hend with h | ⟨h, h2⟩
      all_goals
        go_wp2_with fail
        go_loop [6, 8] (fun v x => ∃ q : Nat, q ≤ i ∧ x = .int .i64 q ∧ IsBytes wr v (from_ z ss ls i q)) (fun _ x => i - (intOf x).toNat)
        case atStart => exact ⟨0, by omega, rfl, HI.out⟩
        case round =>
          obtain ⟨q, hq, rfl, hI⟩ := hrel
          clear HI
          obtain ⟨ap, cp, rfl, hcap, hmax⟩ := hI.slice
          unfold maxLen at hmax
          by_cases hlt : q < i
          · have hql : q < len := by omega
            have hd20 : decide ((q : Int) < 20) = true := by simp; omega
            obtain ⟨b, off, rfl, hbl, _, _, hc, _⟩ := HR.out.cells (by omega)
            have c0 := (HB.out.cell (p := ⟨b, off + q, none⟩) hbl).trans (hc q hql)
            obtain ⟨N, hN, hN2⟩ := wrap64 (z.getD q 0)
            have hg := vget_any _ _ wr hI
            have hdr := rest_drop z ss ls i q hlt hN
            unfold VGetPost at hg
            rw [rest_num z ss ls i q hlt hN hN2] at hg
            have HG := Lib.hid hg
            have hkl : (vput N).length ≤ (from_ z ss ls i q).length := by
              have := vget_le (from_ z ss ls i q)
              rw [rest_num z ss ls i q hlt hN hN2] at this
              exact this.2.1
            have hk0 : 0 < (vput N).length := (vput_len64 N hN2).2
            have hk10 : (vput N).length ≤ 10 := (vput_len64 N hN2).1
            obtain ⟨a1, c1, hsl, hI1⟩ := run_from hI (vput N).length hkl
            rw [hdr] at hI1
            have HI1 := Lib.hid hI1
            obtain ⟨xi, hxi⟩ : ∃ xi, xi = z.getD q 0 := ⟨_, rfl⟩
            rw [← hxi] at c0 hN
            clear hc hg hN2 hI1 hxi hI hdr
            obtain ⟨K, hK⟩ : ∃ K, K = (vput N).length := ⟨_, rfl⟩
            obtain ⟨L, hL⟩ : ∃ L, L = (from_ z ss ls i q).length := ⟨_, rfl⟩
            rw [← hK, ← hL] at hsl hkl HI1
            rw [← hL] at HG hcap ⊢
            rw [← hK] at HG hk0 hk10
            clear hK hL
            have hkb : ((K : Int) == 0) = false := by simp; omega
            by_cases hls : q < ls
            · obtain ⟨bs, offs, rfl, hbsl, hcs⟩ := HS.out.cells (by omega)
              have hcs2 := hcs q hls
              have HS2 : Hid ((ss.getD q ByteArray.empty).size ≤ maxLen) := Lib.hid hcs2.2
              have s0 := (HB.out.cell (p := ⟨bs, offs + q, none⟩) hbsl).trans hcs2.1
              clear hcs hcs2
              obtain ⟨s, hse⟩ : ∃ s, s = ss.getD q ByteArray.empty := ⟨_, rfl⟩
              rw [← hse] at s0 HS2 HI1
              clear hse
              rw [if_pos hls] at HI1
              obtain ⟨_, _, hs1, _⟩ := HI1.out.slice
              simp only [Value.slice.injEq] at hs1
              have hLK := hs1.2.1
              have HLK := Lib.hid hLK
              clear hs1 hLK
              have ht := getText_any _ _ wr HI1.out
              unfold TextPost at ht
              rw [rest_text, str_strB] at ht
              have HT := Lib.hid ht
              have hv0 := (vtext_len s).2
              have hv40 := (vtext_len s).1
              obtain ⟨a2, c2, hsl2, hI2⟩ := run_from HI1.out (vtext (strB (cutS s 30))).length (by rw [List.length_append]; omega)
              rw [List.drop_left] at hI2
              have HI2 := Lib.hid hI2
              rw [← HLK.out] at hsl2 HI2
              clear ht hI2
              have hkl2 : (vtext (strB (cutS s 30))).length ≤ L - K := by rw [HLK.out, List.length_append]; omega
              obtain ⟨T, hT⟩ : ∃ T, T = (vtext (strB (cutS s 30))).length := ⟨_, rfl⟩
              rw [← hT] at HT hv0 hv40 hsl2 HI2 hkl2
              clear hT
              have htb : ((T : Int) == 0) = false := by simp; omega
              go_wp2_with fail
              refine HG.out.mono ?_
              rintro e w4 ⟨rfl, rfl⟩
              go_wp2_with fail
              refine HT.out.mono ?_
              rintro e w4 ⟨rfl, rfl⟩
              go_wp2_with fail
              refine (cut_any s 30 _ HS2.out (by omega)).mono ?_
              rintro e w4 ⟨rfl, rfl⟩
              go_wp2_with fail
              go_round
              case rel => exact ⟨q + 1, by omega, by go_num, HI2.out⟩
              case measure => simp [intOf]; omega
            · rw [if_neg hls, List.nil_append] at HI1
              go_wp2_with fail
              refine HG.out.mono ?_
              rintro e w4 ⟨rfl, rfl⟩
              go_wp2_with fail
              go_round
              case rel => exact ⟨q + 1, by omega, by go_num, HI1.out⟩
              case measure => simp [intOf]; omega
          · obtain rfl : q = i := by omega
            rw [from_end] at hI hcap ⊢
            clear hlt
            go_wp2_with fail
            go_ret
            exact ⟨rfl, HB.out⟩
end Go.Proofs.Ytpibbepojjicgaa

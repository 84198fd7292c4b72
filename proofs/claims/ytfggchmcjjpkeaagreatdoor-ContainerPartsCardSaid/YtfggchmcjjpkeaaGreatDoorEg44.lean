/- Texts put together: ConN. -/
import Derived.Test.YtfggchmcjjpkeaaGreatDoorEg42
set_option linter.unusedSimpArgs false
set_option linter.unusedVariables false
set_option maxRecDepth 100000
namespace Go.Proofs.YtfggchmcjjpkeaaGreatDoor.S11
open Go.RowKit Pl S3 S3.Pl
theorem str_append (A B:List Nat):str A ++ str B = str (A ++ B):=by
  apply ByteArray.ext
  simp [str,ByteArray.data_append]
theorem str_size (A:List Nat):(str A).size = A.length:=by simp [str,ByteArray.size]
theorem take_more (B:List Nat) {t s k n:Nat} (hn:B.length = n) (hk:min s (n - t) = k) (ht:t ≤ n):B.take t ++ (B.drop t).take k = B.take (t + s):=by
  rw [← hk,List.take_add]
  congr 1
  by_cases h:s ≤ n - t
  · rw [Nat.min_eq_left h]
  · rw [Nat.min_eq_right (by omega),List.take_of_length_le (by rw [List.length_drop];omega),List.take_of_length_le (by rw [List.length_drop];omega)]
attribute [local go_sem ↓] conv_eq minN_eq
set_option maxHeartbeats 16000000 in
theorem containerParts_walk (a:Option Addr) (len cap:Nat) (z:List Int) (n0 s0:Int) (w:World) (hT:Tab w) (hr:IsRow .u8 w a len cap z) (hn0:(Lit.int .i64 n0).wf = true) (hs0:(Lit.int .i64 s0).wf = true) :
    Calls Tryz.prog 5 #[.slice a len cap,.int .i64 n0,.int .i64 s0] w fun e w'=>e = .returned (.bool true) ∧ Below w.heap.size w w':=by
  obtain ⟨hV,hlen⟩:=isBytes_row hr
  have HV:=Lib.hid hV
  have HT:=Lib.hid hT
  clear hr hV hT hn0 hs0
  have hways:n0 < 0 ∨ (¬ n0 < 0 ∧ 3000 < n0) ∨ (¬ n0 < 0 ∧ ¬ 3000 < n0 ∧ s0 < 1) ∨ (¬ n0 < 0 ∧ ¬ 3000 < n0 ∧ ¬ s0 < 1 ∧ 1500 < s0) ∨ (∃ n s:Nat,n0 = n ∧ s0 = s ∧ n ≤ 3000 ∧ 1 ≤ s ∧ s ≤ 1500):=by
    by_cases h1:n0 < 0
    · exact .inl h1
    by_cases h2:3000 < n0
    · exact .inr (.inl ⟨h1,h2⟩)
    by_cases h3:s0 < 1
    · exact .inr (.inr (.inl ⟨h1,h2,h3⟩))
    by_cases h4:1500 < s0
    · exact .inr (.inr (.inr (.inl ⟨h1,h2,h3,h4⟩)))
    · exact .inr (.inr (.inr (.inr ⟨n0.toNat,s0.toNat,by omega,by omega,by omega,by omega,by omega⟩)))
  rcases hways with h1 | ⟨h1,h2⟩ | ⟨h1,h2,h3⟩ | ⟨h1,h2,h3,h4⟩ | ⟨n,s,rfl,rfl,hn,hs1,hs2⟩
  · go_enter Tryz.func5, Tryz.ntmps5
    go_wp2_with fail
    refine (begun11_any w HT.out).mono ?_
    rintro e w0 ⟨rfl,hb0⟩
    have HB0:=Lib.hid hb0
    clear hb0
    go_wp2
    go_ret
    exact ⟨rfl,HB0.out⟩
  · go_enter Tryz.func5, Tryz.ntmps5
    go_wp2_with fail
    refine (begun11_any w HT.out).mono ?_
    rintro e w0 ⟨rfl,hb0⟩
    have HB0:=Lib.hid hb0
    clear hb0
    go_wp2
    go_ret
    exact ⟨rfl,HB0.out⟩
  · go_enter Tryz.func5, Tryz.ntmps5
    go_wp2_with fail
    refine (begun11_any w HT.out).mono ?_
    rintro e w0 ⟨rfl,hb0⟩
    have HB0:=Lib.hid hb0
    clear hb0
    go_wp2
    go_ret
    exact ⟨rfl,HB0.out⟩
  · go_enter Tryz.func5, Tryz.ntmps5
    go_wp2_with fail
    refine (begun11_any w HT.out).mono ?_
    rintro e w0 ⟨rfl,hb0⟩
    have HB0:=Lib.hid hb0
    clear hb0
    go_wp2
    go_ret
    exact ⟨rfl,HB0.out⟩
  · have g1:¬ 3000 < (n:Int):=by omega
    have g2:¬ (s:Int) < 1:=by omega
    have g3:¬ 1500 < (s:Int):=by omega
    go_enter Tryz.func5, Tryz.ntmps5
    go_wp2_with fail
    refine (begun11_any w HT.out).mono ?_
    rintro e w0 ⟨rfl,hb0⟩
    have HV0:=Lib.hid (HV.out.below hb0)
    have HB0:=Lib.hid hb0
    have HT0:=Lib.hid (HT.out.below hb0)
    clear hb0 HV HT
    go_wp2_with fail
    refine (short_any _ _ 40 _ HV0.out (by omega)).mono ?_
    rintro e w0' ⟨v1,rfl,hi1,rfl⟩
    have HF:=Lib.hid hi1
    have HFL:Hid (((bytesZ z len).take 40).length ≤ 1000000):=Lib.hid (by rw [List.length_take];omega)
    clear hi1 hlen HV0
    go_wp2_with fail
    refine (filled_any v1 _ n w0 HF.out HFL.out (by omega)).mono ?_
    rintro e w1 ⟨g1',B,rfl,HL,hi1,hb1⟩
    have HB1:=Lib.hid (HB0.out.trans (hb1.out.mono HB0.out.size))
    have HT1:=Lib.hid (HT0.out.below hb1.out)
    clear hb1 HB0 HT0 HF HFL
    go_wp2_with fail
    refine (packed_any _ B w1 HT1.out hi1.out (by rw [HL.out];omega)).mono ?_
    rintro e w2 ⟨g,m,cp,rfl,hg,hm,ho,hi2,hb2⟩
    have hsz:=packP_size B
    rw [← hm,HL.out] at hsz
    have HH:Hid (Holds B (packP B)):=Lib.hid (pack_holds B hi1.out.1 (by rw [HL.out];omega))
    have HML:Hid ((packP B).length ≤ 1000000):=Lib.hid (by rw [← hm];unfold cnt at hsz;omega)
    have HB2:=Lib.hid (HB1.out.trans (hb2.out.mono HB1.out.size))
    have HT2:=Lib.hid (HT1.out.below hb2.out)
    have HX2:=Lib.hid (hi1.out.below hb2.out)
    have HC2:=Lib.hid hi2.out
    clear hg hm ho hb2 hsz hi1 hi2 HB1 HT1
    go_wp2_with fail
    go_loopw [10,11] (fun s10 s11 wr=>∃ (t:Nat),s11 = .int .i64 t ∧ t ≤ 4500 ∧ s10 = .string (str (B.take t)) ∧ Hid (Below w2.heap.size w2 wr)) (fun _ s11 _=>4500 - (intOf s11).toNat)
    case atStart=>exact ⟨0,rfl,by omega,rfl,Lib.hid (Below.refl _ _)⟩
    case round =>
      obtain ⟨t,rfl,ht9,rfl,HBW⟩:=hrel
      have HTr:=Lib.hid (HT2.out.below HBW.out)
      have HCr:=Lib.hid (HC2.out.below HBW.out)
      have HXr:=Lib.hid (HX2.out.below HBW.out)
      have HBr:=Lib.hid (HB2.out.trans (HBW.out.mono HB2.out.size))
      by_cases hlt:t < n
      · have hltz:(t:Int) < (n:Int):=by omega
        obtain ⟨k,hk⟩:∃ k,min s (n - t) = k:=⟨_,rfl⟩
        have e1:(n:Int) - (t:Int) = ((n - t:Nat):Int):=by omega
        have hmn:∀ ats ty (W:World),(minN ats ty (.int .i64 (s:Nat)) (.int .i64 ((n - t:Nat):Int))).run Tryz.prog W = .ok (.int .i64 (k:Nat)) W:=fun ats ty W=>by
          rw [run_minN,show min (s:Int) ((n - t:Nat):Int) = (k:Nat) by omega]
        have hcat:=take_more B HL.out hk (Nat.le_of_lt hlt)
        have htk:t + k ≤ n:=by omega
        have HCAT:=Lib.hid hcat
        clear hk hcat
        go_wp2_with fail
        refine (part_ok HH.out HL.out htk (by omega) _ _ HTr.out HCr.out HML.out).mono ?_
        rintro e w3 ⟨sp3,cp3,rfl,hi3,hb3⟩
        have k1:=run_conv hi3.out
        have hkk:((k:Int) != (k:Int)) = false:=by simp
        have HB3:=Lib.hid (HBW.out.trans (hb3.out.mono HBW.out.size))
        have hst:=str_append (B.take t) ((B.drop t).take k)
        rw [HCAT.out] at hst
        have hz1:¬ (str (B.take t)).size + (str ((B.drop t).take k)).size > 9223372036854775807:=by
          rw [str_size,str_size,List.length_take,List.length_take,List.length_drop,HL.out];omega
        have hz2:¬ 9223372036854775807 < (str (B.take t)).size + (str ((B.drop t).take k)).size:=hz1
        have hz3:(str (B.take t)).size + (str ((B.drop t).take k)).size ≤ 9223372036854775807:=by omega
        clear hi3 hb3 HBW HBr HTr HCr HXr hz1 hz2
        go_wp2_with fail
        exact ⟨⟨t + s,by first | rfl | go_num,by omega,rfl,HB3⟩,by simp [intOf];omega⟩
      · have hltz:¬ (t:Int) < (n:Int):=by omega
        have htB:B.take t = B:=List.take_of_length_le (by rw [HL.out];omega)
        rw [htB]
        have k1:=run_conv HXr.out
        generalize str B = sx at *
        clear htB HXr HCr HTr HX2 HC2 HT2 HBW HH HML
        go_wp2
        go_ret
        exact ⟨rfl,HBr.out⟩
end Go.Proofs.YtfggchmcjjpkeaaGreatDoor.S11

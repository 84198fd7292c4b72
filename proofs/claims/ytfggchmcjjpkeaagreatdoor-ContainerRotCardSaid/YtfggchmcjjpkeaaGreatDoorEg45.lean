/- Texts put together: ConQ. -/
import Derived.Test.YtfggchmcjjpkeaaGreatDoorEg42
set_option linter.unusedSimpArgs false
set_option linter.unusedVariables false
set_option maxRecDepth 100000
namespace Go.Proofs.YtfggchmcjjpkeaaGreatDoor.S11
open Go.RowKit Pl S3 S3.Pl
theorem xor_ne0 {a x:Nat} (hx:x ≠ 0):a ^^^ x ≠ a:=by
  intro h
  have:a ^^^ x = a ^^^ 0:=by rw [h,Nat.xor_zero]
  exact hx (xor_cancel_left this)
attribute [local go_sem ↓] conv_eq sliceU8_eq
set_option maxHeartbeats 40000000 in
theorem containerRot_walk (a:Option Addr) (len cap:Nat) (z:List Int) (n0 t0 x0 F P:Int) (w:World) (hT:Tab w) (hr:IsRow .u8 w a len cap z) (hn0:(Lit.int .i64 n0).wf = true) (ht0:(Lit.int .i64 t0).wf = true) (hx0:(Lit.int .u8 x0).wf = true) (hF:(Lit.int .i64 F).wf = true) (hP:(Lit.int .i64 P).wf = true) :
    Calls Tryz.prog 3 #[.slice a len cap,.int .i64 n0,.int .i64 t0,.int .u8 x0,.int .i64 F,.int .i64 P] w fun e w'=>e = .returned (.bool true) ∧ Below w.heap.size w w':=by
  obtain ⟨hV,hlen⟩:=isBytes_row hr
  have HV:=Lib.hid hV
  have HT:=Lib.hid hT
  have hx:=S10.u8_wf hx0
  have hF':=S10.i64_wf' hF
  have hP':=S10.i64_wf' hP
  have ht':=S10.i64_wf' ht0
  clear hr hV hT hn0 hx0 hF hP ht0
  have hways:n0 < 0 ∨ (¬ n0 < 0 ∧ 2500 < n0) ∨ (¬ n0 < 0 ∧ ¬ 2500 < n0 ∧ t0 < 0) ∨ (¬ n0 < 0 ∧ ¬ 2500 < n0 ∧ ¬ t0 < 0 ∧ x0 = 0) ∨ (∃ n t x:Nat,n0 = n ∧ t0 = t ∧ x0 = x ∧ n ≤ 2500 ∧ x ≠ 0 ∧ x < 256):=by
    by_cases h1:n0 < 0
    · exact .inl h1
    by_cases h2:2500 < n0
    · exact .inr (.inl ⟨h1,h2⟩)
    by_cases h3:t0 < 0
    · exact .inr (.inr (.inl ⟨h1,h2,h3⟩))
    by_cases h4:x0 = 0
    · exact .inr (.inr (.inr (.inl ⟨h1,h2,h3,h4⟩)))
    · exact .inr (.inr (.inr (.inr ⟨n0.toNat,t0.toNat,x0.toNat,by omega,by omega,by omega,by omega,by omega,by omega⟩)))
  rcases hways with h1 | ⟨h1,h2⟩ | ⟨h1,h2,h3⟩ | ⟨h1,h2,h3,rfl⟩ | ⟨n,t,x,rfl,rfl,rfl,hn,hx0,hx8⟩
  · go_enter Tryz.func3, Tryz.ntmps3
    go_wp2_with fail
    refine (begun11_any w HT.out).mono ?_
    rintro e w0 ⟨rfl,hb0⟩
    have HB0:=Lib.hid hb0
    clear hb0
    go_wp2
    go_ret
    exact ⟨rfl,HB0.out⟩
  · go_enter Tryz.func3, Tryz.ntmps3
    go_wp2_with fail
    refine (begun11_any w HT.out).mono ?_
    rintro e w0 ⟨rfl,hb0⟩
    have HB0:=Lib.hid hb0
    clear hb0
    go_wp2
    go_ret
    exact ⟨rfl,HB0.out⟩
  · go_enter Tryz.func3, Tryz.ntmps3
    go_wp2_with fail
    refine (begun11_any w HT.out).mono ?_
    rintro e w0 ⟨rfl,hb0⟩
    have HB0:=Lib.hid hb0
    clear hb0
    go_wp2
    go_ret
    exact ⟨rfl,HB0.out⟩
  · go_enter Tryz.func3, Tryz.ntmps3
    go_wp2_with fail
    refine (begun11_any w HT.out).mono ?_
    rintro e w0 ⟨rfl,hb0⟩
    have HB0:=Lib.hid hb0
    clear hb0
    go_wp2
    go_ret
    exact ⟨rfl,HB0.out⟩
  · have g1:¬ 2500 < (n:Int):=by omega
    have g2:((x:Int) == 0) = false:=beq_f (by omega)
    go_enter Tryz.func3, Tryz.ntmps3
    go_wp2_with fail
    refine (begun11_any w HT.out).mono ?_
    rintro e w0 ⟨rfl,hb0⟩
    have HV0:=Lib.hid (HV.out.below hb0)
    have HB0:=Lib.hid hb0
    have HT0:=Lib.hid (HT.out.below hb0)
    clear hb0 HV HT
    go_wp2_with fail
    refine (short_any _ _ 60 _ HV0.out (by omega)).mono ?_
    rintro e w0' ⟨v1,rfl,hi1,rfl⟩
    have HF:=Lib.hid hi1
    have HFL:Hid (((bytesZ z len).take 60).length ≤ 1000000):=Lib.hid (by rw [List.length_take];omega)
    clear hi1 hlen HV0
    go_wp2_with fail
    refine (filled_any v1 _ n w0 HF.out HFL.out (by omega)).mono ?_
    rintro e w1 ⟨gb,B,rfl,HL,hi1,hb1⟩
    have HB1:=Lib.hid (HB0.out.trans (hb1.out.mono HB0.out.size))
    have HT1:=Lib.hid (HT0.out.below hb1.out)
    clear hb1 HB0 HT0 HF HFL
    go_wp2_with fail
    refine (packed_any _ B w1 HT1.out hi1.out (by rw [HL.out];omega)).mono ?_
    rintro e w2 ⟨g,m,cp,rfl,hg,hm,ho,hi2,hb2⟩
    have hsz:=packP_size B
    have hpos:=packP_pos B
    rw [← hm] at hpos
    rw [← hm,HL.out] at hsz
    obtain ⟨p0,hp0⟩:∃ p,t % m = p:=⟨_,rfl⟩
    have hpm0:p0 < m:=by rw [← hp0];exact Nat.mod_lt _ (by omega)
    have hpz:(t:Int) % (m:Int) = (p0:Int):=by rw [← hp0];omega
    have hpt:(t:Int).tmod (m:Int) = (p0:Int):=by rw [← hp0];rfl
    have hm0:((m:Int) == 0) = false:=beq_f (by omega)
    have hm0z:(0:Int) < (m:Int):=by omega
    have hm9:m ≤ 1000000:=by unfold cnt at hsz;omega
    obtain ⟨y,hyq⟩:∃ y,(packP B).getD p0 0 = y:=⟨_,rfl⟩
    have hy8:y < 256:=by rw [← hyq];exact getD_lt hi2.out.1 p0
    obtain ⟨q,hq⟩:∃ q,y ^^^ x = q:=⟨_,rfl⟩
    have hq8:q < 256:=by rw [← hq];exact Nat.xor_lt_two_pow (n:=8) hy8 hx8
    have hqy:q ≠ y:=by rw [← hq];exact xor_ne0 hx0
    have hxe:bits BinOp.xor IntKind.u8 (y:Int) (x:Int) = (q:Int):=by rw [u8_xor_nat y x hy8 hx8,hq]
    have c0:w2.cell? ⟨g,p0,none⟩ = some (.int .u8 (y:Nat)):=by rw [← hyq];exact own_cell ho.out hpm0
    have f0:=ho.out.frozenAt p0
    have hst:=ho.out.stored p0 (.int .u8 (q:Nat))
    rw [u8s_set] at hst
    have HH:Hid (Tells B ((packP B).set p0 q)):=Lib.hid (rot_tells B hi1.out.1 (by rw [HL.out];omega) (by rw [← hm];exact hpm0) hq8 (by rw [hyq];exact hqy))
    have hcl:((packP B).set p0 q).length = m:=by rw [List.length_set];exact hm.symm
    have hcx:∀ k ∈ (packP B).set p0 q,k < 256:=fun k hk=>by
      rcases List.mem_or_eq_of_mem_set hk with h | h
      · exact hi2.out.1 k h
      · omega
    obtain ⟨C,hC⟩:∃ C,(packP B).set p0 q = C:=⟨_,rfl⟩
    rw [hC] at hst HH hcl hcx
    have HML:Hid (C.length ≤ 1000000):=Lib.hid (by rw [hcl];exact hm9)
    have hb23:Below w1.heap.size w1 (w2.setCell ⟨g,p0,none⟩ (.int .u8 (q:Nat))):=hb2.out.setCell (p:=⟨g,p0,none⟩) hg _
    have HB3:=Lib.hid (HB1.out.trans (hb23.mono HB1.out.size))
    have HT3:=Lib.hid (HT1.out.below hb23)
    have HX3:=Lib.hid (hi1.out.below hb23)
    have HC3:=Lib.hid (isBytes_ownS hcx hcl.symm (by rw [hcl];exact hst.1))
    obtain ⟨w3,hw3⟩:∃ w3,w2.setCell ⟨g,p0,none⟩ (.int .u8 (q:Nat)) = w3:=⟨_,rfl⟩
    rw [hw3] at HB3 HT3 HX3 HC3
    clear hst hcl hcx hC hb23 hg hm ho hb2 hsz hi1 hi2 HB1 HT1 hyq hq hp0 hqy hpos
    go_wp2_with fail
    clear hw3 c0 f0 hxe hpz hpt
    refine (unpack_some HH.out HL.out _ _ HT3.out HC3.out HML.out).mono ?_
    rintro e w4 ⟨sp4,n4,cp4,r4,rfl,hcase,hb4⟩
    have HB4:=Lib.hid (HB3.out.trans (hb4.out.mono HB3.out.size))
    have HT4:=Lib.hid (HT3.out.below hb4.out)
    have HC4:=Lib.hid (HC3.out.below hb4.out)
    have HX4:=Lib.hid (HX3.out.below hb4.out)
    clear hb4 HB3 HT3 HC3 HX3
    rcases hcase with ⟨rfl,hn4,hi4⟩ | ⟨rfl | rfl,rfl⟩
    · rw [hn4]
      clear hn4
      have k1:=run_conv hi4.out
      have k2:=run_conv HX4.out
      have qs:∀ s:ByteArray,(s.toList != s.toList) = false:=fun s=>by simp
      have qs1:=qs (str B)
      clear qs hi4
      generalize str B = sx at *
      by_cases f1:F < 0
      · clear HH HT4 HC4 HX4
        go_wp2
        go_ret
        exact ⟨rfl,HB4.out⟩
      by_cases f2:P < 0
      · clear HH HT4 HC4 HX4
        go_wp2
        go_ret
        exact ⟨rfl,HB4.out⟩
      by_cases f3:(n:Int) < F
      · clear HH HT4 HC4 HX4
        go_wp2
        go_ret
        exact ⟨rfl,HB4.out⟩
      by_cases f4:(n:Int) - F < P
      · clear HH HT4 HC4 HX4
        go_wp2
        go_ret
        exact ⟨rfl,HB4.out⟩
      obtain ⟨p,rfl⟩:∃ p:Nat,F = p:=⟨F.toNat,by omega⟩
      obtain ⟨m',rfl⟩:∃ m:Nat,P = m:=⟨P.toNat,by omega⟩
      have hpm:p + m' ≤ n:=by omega
      clear hF' hP'
      go_wp2_with fail
      refine (part_some HH.out HL.out hpm (by omega) _ _ HT4.out HC4.out HML.out).mono ?_
      rintro e w5 ⟨sp5,n5,cp5,r5,rfl,⟨rfl,rfl,hi5⟩ | ⟨h5,rfl⟩,hb5⟩
      · have HB5:=Lib.hid (HB4.out.trans (hb5.out.mono HB4.out.size))
        have HX5:IsBytes w5 (.slice (some ⟨gb,0,none⟩) B.length n) B:=by rw [HL.out];exact HX4.out.below hb5.out
        obtain ⟨asl,csl,hsl,hsi⟩:=run_between HX5 p n5 (by rw [HL.out];exact hpm) ((p:Int) + (n5:Int)) rfl
        rw [HL.out] at hsl
        have j1:∀ q,(convS (.slice sp5 n5 cp5)).run Tryz.prog (w5.drewN q) = .ok (.string (str ((B.drop p).take n5))) (w5.drewN q):=fun q=>run_conv (hi5.out.drew q)
        have j2:∀ q,(convS (.slice asl n5 csl)).run Tryz.prog (w5.drewN q) = .ok (.string (str ((B.drop p).take n5))) (w5.drewN q):=fun q=>run_conv (hsi.drew q)
        generalize str ((B.drop p).take n5) = sy at *
        clear hi5 hb5 hsi HX5 HH HT4 HC4 HX4 HB4
        go_wp2_with fail
        go_quiet (fail)
        go_wp2
        go_ret
        exact ⟨rfl,bel_drewN HB5.out _⟩
      · have HB5:=Lib.hid (HB4.out.trans (hb5.out.mono HB4.out.size))
        have y1:(r5 == 0) = false:=beq_f (by omega)
        have y2:(r5 != 0) = true:=bne_t (by omega)
        clear hb5 h5 HH HT4 HC4 HX4 HB4
        go_wp2_with fail
        go_quiet (fail)
        go_wp2
        go_ret
        exact ⟨rfl,bel_drewN HB5.out _⟩
    · by_cases f1:F < 0
      · clear HH HT4 HC4 HX4
        go_wp2
        go_ret
        exact ⟨rfl,HB4.out⟩
      by_cases f2:P < 0
      · clear HH HT4 HC4 HX4
        go_wp2
        go_ret
        exact ⟨rfl,HB4.out⟩
      by_cases f3:(n:Int) < F
      · clear HH HT4 HC4 HX4
        go_wp2
        go_ret
        exact ⟨rfl,HB4.out⟩
      by_cases f4:(n:Int) - F < P
      · clear HH HT4 HC4 HX4
        go_wp2
        go_ret
        exact ⟨rfl,HB4.out⟩
      obtain ⟨p,rfl⟩:∃ p:Nat,F = p:=⟨F.toNat,by omega⟩
      obtain ⟨m',rfl⟩:∃ m:Nat,P = m:=⟨P.toNat,by omega⟩
      have hpm:p + m' ≤ n:=by omega
      clear hF' hP'
      go_wp2_with fail
      refine (part_some HH.out HL.out hpm (by omega) _ _ HT4.out HC4.out HML.out).mono ?_
      rintro e w5 ⟨sp5,n5,cp5,r5,rfl,⟨rfl,rfl,hi5⟩ | ⟨h5,rfl⟩,hb5⟩
      · have HB5:=Lib.hid (HB4.out.trans (hb5.out.mono HB4.out.size))
        have HX5:IsBytes w5 (.slice (some ⟨gb,0,none⟩) B.length n) B:=by rw [HL.out];exact HX4.out.below hb5.out
        obtain ⟨asl,csl,hsl,hsi⟩:=run_between HX5 p n5 (by rw [HL.out];exact hpm) ((p:Int) + (n5:Int)) rfl
        rw [HL.out] at hsl
        have j1:∀ q,(convS (.slice sp5 n5 cp5)).run Tryz.prog (w5.drewN q) = .ok (.string (str ((B.drop p).take n5))) (w5.drewN q):=fun q=>run_conv (hi5.out.drew q)
        have j2:∀ q,(convS (.slice asl n5 csl)).run Tryz.prog (w5.drewN q) = .ok (.string (str ((B.drop p).take n5))) (w5.drewN q):=fun q=>run_conv (hsi.drew q)
        generalize str ((B.drop p).take n5) = sy at *
        clear hi5 hb5 hsi HX5 HH HT4 HC4 HX4 HB4
        go_wp2_with fail
        go_quiet (fail)
        go_wp2
        go_ret
        exact ⟨rfl,bel_drewN HB5.out _⟩
      · have HB5:=Lib.hid (HB4.out.trans (hb5.out.mono HB4.out.size))
        have y1:(r5 == 0) = false:=beq_f (by omega)
        have y2:(r5 != 0) = true:=bne_t (by omega)
        clear hb5 h5 HH HT4 HC4 HX4 HB4
        go_wp2_with fail
        go_quiet (fail)
        go_wp2
        go_ret
        exact ⟨rfl,bel_drewN HB5.out _⟩
    · by_cases f1:F < 0
      · clear HH HT4 HC4 HX4
        go_wp2
        go_ret
        exact ⟨rfl,HB4.out⟩
      by_cases f2:P < 0
      · clear HH HT4 HC4 HX4
        go_wp2
        go_ret
        exact ⟨rfl,HB4.out⟩
      by_cases f3:(n:Int) < F
      · clear HH HT4 HC4 HX4
        go_wp2
        go_ret
        exact ⟨rfl,HB4.out⟩
      by_cases f4:(n:Int) - F < P
      · clear HH HT4 HC4 HX4
        go_wp2
        go_ret
        exact ⟨rfl,HB4.out⟩
      obtain ⟨p,rfl⟩:∃ p:Nat,F = p:=⟨F.toNat,by omega⟩
      obtain ⟨m',rfl⟩:∃ m:Nat,P = m:=⟨P.toNat,by omega⟩
      have hpm:p + m' ≤ n:=by omega
      clear hF' hP'
      go_wp2_with fail
      refine (part_some HH.out HL.out hpm (by omega) _ _ HT4.out HC4.out HML.out).mono ?_
      rintro e w5 ⟨sp5,n5,cp5,r5,rfl,⟨rfl,rfl,hi5⟩ | ⟨h5,rfl⟩,hb5⟩
      · have HB5:=Lib.hid (HB4.out.trans (hb5.out.mono HB4.out.size))
        have HX5:IsBytes w5 (.slice (some ⟨gb,0,none⟩) B.length n) B:=by rw [HL.out];exact HX4.out.below hb5.out
        obtain ⟨asl,csl,hsl,hsi⟩:=run_between HX5 p n5 (by rw [HL.out];exact hpm) ((p:Int) + (n5:Int)) rfl
        rw [HL.out] at hsl
        have j1:∀ q,(convS (.slice sp5 n5 cp5)).run Tryz.prog (w5.drewN q) = .ok (.string (str ((B.drop p).take n5))) (w5.drewN q):=fun q=>run_conv (hi5.out.drew q)
        have j2:∀ q,(convS (.slice asl n5 csl)).run Tryz.prog (w5.drewN q) = .ok (.string (str ((B.drop p).take n5))) (w5.drewN q):=fun q=>run_conv (hsi.drew q)
        generalize str ((B.drop p).take n5) = sy at *
        clear hi5 hb5 hsi HX5 HH HT4 HC4 HX4 HB4
        go_wp2_with fail
        go_quiet (fail)
        go_wp2
        go_ret
        exact ⟨rfl,bel_drewN HB5.out _⟩
      · have HB5:=Lib.hid (HB4.out.trans (hb5.out.mono HB4.out.size))
        have y1:(r5 == 0) = false:=beq_f (by omega)
        have y2:(r5 != 0) = true:=bne_t (by omega)
        clear hb5 h5 HH HT4 HC4 HX4 HB4
        go_wp2_with fail
        go_quiet (fail)
        go_wp2
        go_ret
        exact ⟨rfl,bel_drewN HB5.out _⟩
end Go.Proofs.YtfggchmcjjpkeaaGreatDoor.S11

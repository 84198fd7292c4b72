/- Texts put together: ConM. -/
import Derived.Test.YtfggchmcjjpkeaaGreatDoorEg42
set_option linter.unusedSimpArgs false
set_option linter.unusedVariables false
set_option maxRecDepth 100000
namespace Go.Proofs.YtfggchmcjjpkeaaGreatDoor.S11
open Go.RowKit Pl S3 S3.Pl
theorem u32_wf {x:Int} (h:(Lit.int .u32 x).wf = true):0 ≤ x ∧ x < 4294967296:=by
  simp [Lit.wf,IntKind.min,IntKind.max,IntKind.signed,IntKind.bits] at h
  exact ⟨h.1,by omega⟩
attribute [local go_sem ↓] conv_eq
set_option maxHeartbeats 16000000 in
theorem containerPoor_walk (s0 n0:Int) (w:World) (hT:Tab w) (hs0:(Lit.int .u32 s0).wf = true) (hn0:(Lit.int .i64 n0).wf = true) :
    Calls Tryz.prog 6 #[.int .u32 s0,.int .i64 n0] w fun e w'=>e = .returned (.bool true) ∧ Below w.heap.size w w':=by
  have hs:=u32_wf hs0
  have hw:=S10.i64_wf' hn0
  have HT:=Lib.hid hT
  clear hs0 hn0 hT
  by_cases hout:n0 < 0 ∨ 2500 < n0
  · rcases hout with h | h
    · go_enter Tryz.func6, Tryz.ntmps6
      go_wp2_with fail
      refine (begun11_any w HT.out).mono ?_
      rintro e w0 ⟨rfl,hb0⟩
      have HB0:=Lib.hid hb0
      clear hb0
      go_wp2
      go_ret
      exact ⟨rfl,HB0.out⟩
    · have h2:¬ n0 < 0:=by omega
      go_enter Tryz.func6, Tryz.ntmps6
      go_wp2_with fail
      refine (begun11_any w HT.out).mono ?_
      rintro e w0 ⟨rfl,hb0⟩
      have HB0:=Lib.hid hb0
      clear hb0
      go_wp2
      go_ret
      exact ⟨rfl,HB0.out⟩
  obtain ⟨n,rfl⟩:∃ n:Nat,n0 = n:=⟨n0.toNat,by omega⟩
  have hn9:n ≤ 2500:=by omega
  have hn9z:¬ 2500 < (n:Int):=by omega
  obtain ⟨i0,hi,hz0,hz1,hz2⟩:=info_parts info5
  have HI:=Lib.hid hi
  have HZ:=Lib.hid (And.intro hz0 (And.intro hz1 hz2))
  clear hi hz0 hz1 hz2 hw hout
  go_enter Tryz.func6, Tryz.ntmps6
  go_wp2_with fail
  refine (begun11_any w HT.out).mono ?_
  rintro e w0 ⟨rfl,hb0⟩
  have HB0:=Lib.hid hb0
  have HT0:=Lib.hid (HT.out.below hb0)
  clear hb0 HT
  go_wp2_with (at_make;refine wpList_make_full _ rfl _ _ 22 rfl w0.heap.size 5 i0 (.int .u8 0) 1 Tryz.underlying22 HI.out HZ.out.1 HZ.out.2.1 .i64 .i64 _ _ n rfl rfl rfl rfl (by rw [HZ.out.2.2];omega) (by unfold maxLen;omega) (Nat.le_refl _) ?_;intro w1 hown hgr)
  have hk1:=made_zero hown
  have HK:=Lib.hid hk1
  have HB:=Lib.hid ((Below.refl w0.heap.size w0).grown hgr (Nat.le_refl _) (by simp))
  clear hown hgr hk1 HI HZ
  go_loopw [7,8] (fun s6 s7 wr=>∃ (i:Nat) (X:List Nat) (x:Int),s7 = .int .i64 i ∧ i ≤ n ∧ s6 = .int .u32 x ∧ 0 ≤ x ∧ x < 4294967296 ∧ Hid (X.length = n) ∧ Hid (∀ y ∈ X,y < 256) ∧ Hid (Blk wr w0.heap.size 5 (u8s X)) ∧ Hid (Below w0.heap.size w0 wr)) (fun _ s7 _=>n - (intOf s7).toNat)
  case atStart=>exact ⟨0,List.replicate n 0,s0,rfl,Nat.zero_le _,rfl,hs.1,hs.2,Lib.hid (by simp),Lib.hid (by intro y hy;rw [List.eq_of_mem_replicate hy];omega),HK,HB⟩
  case round =>
    obtain ⟨i,X,x,rfl,hin,rfl,hx0,hx1,HL,HX,HBK,HBW⟩:=hrel
    clear HK HB
    by_cases hlt:i < n
    · have hltz:(i:Int) < (n:Int):=by omega
      have hil:i < X.length:=by rw [HL.out];exact hlt
      have c1:wr.cell? ⟨w0.heap.size,i,none⟩ = some (.int .u8 (X.getD i 0:Nat)):=HBK.out.cell (u8s_get X i hil)
      have c2:=HBK.out.frozen i
      generalize ((X.getD i 0:Nat):Int) = old at c1
      clear hil
      obtain ⟨y,hyE,hy⟩:∃ y:Nat,(x * 1664525 + 1013904223) % 4294967296 / 16777216 = (y:Int) ∧ y < 256:=⟨((x * 1664525 + 1013904223) % 4294967296 / 16777216).toNat,by omega,by omega⟩
      have hfin:Hid ((X.set i y).length = n) ∧ Hid (∀ z ∈ X.set i y,z < 256) ∧ Hid (Blk (wr.setCell ⟨w0.heap.size,i,none⟩ (.int .u8 (y:Nat))) w0.heap.size 5 (u8s (X.set i y))) ∧ Hid (Below w0.heap.size w0 (wr.setCell ⟨w0.heap.size,i,none⟩ (.int .u8 (y:Nat)))):=
        ⟨Lib.hid (by rw [List.length_set];exact HL.out),Lib.hid (set_lt8 HX.out hy),Lib.hid (by rw [← u8s_set];exact HBK.out.set i _),Lib.hid (HBW.out.setCell (p:=⟨w0.heap.size,i,none⟩) (Nat.le_refl _) _)⟩
      have HFN:=Lib.hid hfin
      clear hfin
      go_wp2_with fail
      obtain ⟨f1,f2,f3,f4⟩:=HFN.out
      exact ⟨⟨i + 1,X.set i y,_,by first | rfl | go_num,by omega,rfl,by omega,by omega,f1,f2,f3,f4⟩,by simp [intOf];omega⟩
    · obtain rfl:i = n:=by omega
      have hltz:¬ (i:Int) < (i:Int):=by omega
      have HIX:=Lib.hid (blk_bytes HBK.out HX.out HL.out (by unfold maxLen;omega))
      have HTr:=Lib.hid (HT0.out.below HBW.out)
      have HBr:=Lib.hid (HB0.out.trans (HBW.out.mono HB0.out.size))
      clear HBK HBW HB0 HT0 HX
      go_wp2_with fail
      refine (packed_any _ X wr HTr.out HIX.out (by rw [HL.out];omega)).mono ?_
      rintro e w2 ⟨g,m,cap,rfl,hg,hm,ho,hi2,hb2⟩
      have hsz:=packP_size X
      rw [← hm,HL.out] at hsz
      have HH:Hid (Holds X (packP X)):=Lib.hid (pack_holds X HIX.out.1 (by rw [HL.out];omega))
      have HML:Hid ((packP X).length ≤ 1000000):=Lib.hid (by rw [← hm];unfold cnt at hsz;omega)
      have HB2:=Lib.hid (HBr.out.trans (hb2.out.mono HBr.out.size))
      have HT2:=Lib.hid (HTr.out.below hb2.out)
      have HX2:=Lib.hid (HIX.out.below hb2.out)
      obtain ⟨cn,hcn⟩:∃ cn,cnt i = cn:=⟨_,rfl⟩
      rw [hcn] at hsz
      have hcz:((i:Int) + 999) / 1000 = (cn:Int):=by rw [← hcn];unfold cnt;omega
      have hle:(m:Int) ≤ (i:Int) + 16 * (cn:Int) + 32:=by omega
      have hcn9:cn ≤ 100:=by rw [← hcn];unfold cnt;omega
      clear hg hm ho hb2 HBr HTr HIX hcn
      go_wp2_with fail
      refine (unpack_ok HH.out HL.out _ _ w2 HT2.out hi2.out HML.out (Int.le_refl _)).mono ?_
      rintro e w3 ⟨sp3,cp3,rfl,hi3,hb3⟩
      have HB3:=Lib.hid (HB2.out.trans (hb3.out.mono HB2.out.size))
      have k1:=run_conv hi3.out
      have k2:=run_conv (HX2.out.below hb3.out)
      generalize str X = sx at *
      clear hi3 hi2 hb3 HB2 HT2 HX2 HH
      go_wp2
      go_ret
      exact ⟨rfl,HB3.out⟩
end Go.Proofs.YtfggchmcjjpkeaaGreatDoor.S11

/- Texts put together: ConI. -/
import Derived.Test.YtfggchmcjjpkeaaGreatDoorEg40
set_option linter.unusedSimpArgs false
set_option linter.unusedVariables false
set_option maxRecDepth 100000
namespace Go.Proofs.YtfggchmcjjpkeaaGreatDoor.S11
open Go.RowKit Pl S3 S3.Pl
def AnyS (R:Nat → Prop) (w:World) (e:Ending) (w':World):Prop:=
  ∃ sp n cap r,e = .returned (.tuple #[.slice sp n cap,.int .i64 r]) ∧ ((r = 0 ∧ R n) ∨ (r ≠ 0 ∧ n = 0)) ∧ Hid (Below w.heap.size w w')
theorem unpack_anyS (v:Value) (C:List Nat) (w:World) (hT:Tab w) (hv:IsBytes w v C) (hl:C.length ≤ 1000000):Calls Tryz.prog 11 #[v,.int .i64 1000] w (AnyS (fun n=>n ≤ 1000) w):=by
  refine (unpack_any v C 1000 w hT hv hl).mono ?_
  rintro e w' (⟨hb,⟨_,rfl⟩ | ⟨_,_,rfl⟩⟩ | ⟨_,h1,hb,⟨sp,cap,X,rfl,_,_,_⟩ | ⟨rfl,_⟩⟩)
  · exact ⟨none,0,0,6,rfl,.inr ⟨by omega,rfl⟩,Lib.hid hb⟩
  · exact ⟨none,0,0,2,rfl,.inr ⟨by omega,rfl⟩,Lib.hid hb⟩
  · exact ⟨sp,_,cap,0,rfl,.inl ⟨rfl,by omega⟩,Lib.hid hb⟩
  · exact ⟨none,0,0,6,rfl,.inr ⟨by omega,rfl⟩,Lib.hid hb⟩
theorem part_anyS (v:Value) (C:List Nat) (a n:Int) (w:World) (hT:Tab w) (hv:IsBytes w v C) (hl:C.length ≤ 1000000) (ha:(Lit.int .i64 a).wf = true) (hn:(Lit.int .i64 n).wf = true):Calls Tryz.prog 12 #[v,.int .i64 a,.int .i64 n] w (AnyS (fun m=>n = (m:Nat)) w):=by
  refine (part_any v C a n w hT hv hl ha hn).mono ?_
  rintro e w' (⟨hb,⟨_,rfl⟩ | ⟨_,_,rfl⟩⟩ | ⟨_,p,m,_,hm,_,hb,⟨sp,cap,X,rfl,_,_,_⟩ | ⟨rfl,_⟩⟩)
  · exact ⟨none,0,0,6,rfl,.inr ⟨by omega,rfl⟩,Lib.hid hb⟩
  · exact ⟨none,0,0,7,rfl,.inr ⟨by omega,rfl⟩,Lib.hid hb⟩
  · exact ⟨sp,_,cap,0,rfl,.inl ⟨rfl,by rw [Nat.add_sub_cancel_left];exact hm⟩,Lib.hid hb⟩
  · exact ⟨none,0,0,6,rfl,.inr ⟨by omega,rfl⟩,Lib.hid hb⟩
theorem blocks_anyS (v:Value) (C:List Nat) (w:World) (hT:Tab w) (hv:IsBytes w v C) (hl:C.length ≤ 1000000):Calls Tryz.prog 13 #[v] w (AnyS (fun _=>True) w):=by
  refine (blocks_any v C w hT hv hl).mono ?_
  rintro e w' ⟨hb,⟨rfl,_⟩ | ⟨_,g,rfl,_⟩⟩
  · exact ⟨none,0,0,6,rfl,.inr ⟨by omega,rfl⟩,Lib.hid hb⟩
  · exact ⟨_,_,_,0,rfl,.inl ⟨rfl,trivial⟩,Lib.hid hb⟩
set_option maxHeartbeats 16000000 in
theorem containerAny_walk (a:Option Addr) (len cap:Nat) (z:List Int) (F P:Int) (w:World) (hT:Tab w) (hr:IsRow .u8 w a len cap z) (hF:(Lit.int .i64 F).wf = true) (hP:(Lit.int .i64 P).wf = true) :
    Calls Tryz.prog 4 #[.slice a len cap,.int .i64 F,.int .i64 P] w fun e w'=>e = .returned (.bool true) ∧ Below w.heap.size w w':=by
  obtain ⟨hV,hlen⟩:=isBytes_row hr
  have HV:=Lib.hid hV
  have HT:=Lib.hid hT
  have HF:=Lib.hid hF
  have HP:=Lib.hid hP
  clear hr hV hT hF hP
  go_enter Tryz.func4, Tryz.ntmps4
  go_wp2_with fail
  refine (begun11_any w HT.out).mono ?_
  rintro e w0 ⟨rfl,hb0⟩
  have HV0:=Lib.hid (HV.out.below hb0)
  have HT0:=Lib.hid (HT.out.below hb0)
  have HB0:=Lib.hid hb0
  clear hb0 HV HT
  go_wp2_with fail
  refine (short_any _ _ 200 _ HV0.out (by omega)).mono ?_
  rintro e w0' ⟨v1,rfl,hi1,rfl⟩
  obtain ⟨C,hC⟩:∃ S,S = (bytesZ z len).take 200:=⟨_,rfl⟩
  have hCl:C.length ≤ 1000000:=by rw [hC,List.length_take];omega
  rw [← hC] at hi1
  have HI:=Lib.hid hi1
  clear hi1 hC hlen HV0
  go_wp2_with fail
  refine (unpack_anyS v1 C w0 HT0.out HI.out hCl).mono ?_
  rintro e w1 ⟨sp1,n1,cp1,r1,rfl,h1,hb1⟩
  have HB1:=Lib.hid (HB0.out.trans (hb1.out.mono HB0.out.size))
  have HT1:=Lib.hid (HT0.out.below hb1.out)
  have HI1:=Lib.hid (HI.out.below hb1.out)
  have H1:=Lib.hid h1
  clear h1 hb1 HB0 HT0 HI
  go_wp2_with fail
  refine (part_anyS v1 C F P w1 HT1.out HI1.out hCl HF.out HP.out).mono ?_
  rintro e w2 ⟨sp2,n2,cp2,r2,rfl,h2,hb2⟩
  have HB2:=Lib.hid (HB1.out.trans (hb2.out.mono HB1.out.size))
  have HT2:=Lib.hid (HT1.out.below hb2.out)
  have HI2:=Lib.hid (HI1.out.below hb2.out)
  have H2:=Lib.hid h2
  clear h2 hb2 HB1 HT1 HI1
  go_wp2_with fail
  refine (blocks_anyS v1 C w2 HT2.out HI2.out hCl).mono ?_
  rintro e w3 ⟨sp3,n3,cp3,r3,rfl,h3,hb3⟩
  have HB3:=Lib.hid (HB2.out.trans (hb3.out.mono HB2.out.size))
  clear hb3 HB2 HT2 HI2
  have h1:=H1.out
  have h2:=H2.out
  clear H1 H2
  rcases h1 with ⟨rfl,h1⟩ | ⟨h1,rfl⟩ <;> rcases h2 with ⟨rfl,rfl⟩ | ⟨h2,rfl⟩ <;> rcases h3 with ⟨rfl,_⟩ | ⟨h3,rfl⟩
  all_goals (
    first | (have z1:(r1 == 0) = false:=beq_f h1) | skip
    first | (have y1:(r1 != 0) = true:=bne_t h1) | skip
    first | (have z2:(r2 == 0) = false:=beq_f h2) | skip
    first | (have y2:(r2 != 0) = true:=bne_t h2) | skip
    first | (have z3:(r3 == 0) = false:=beq_f h3) | skip
    first | (have y3:(r3 != 0) = true:=bne_t h3) | skip
    first | (have x1:(n1:Int) ≤ 1000:=by omega) | skip
    go_wp2
    go_ret
    exact ⟨rfl,HB3.out⟩)
end Go.Proofs.YtfggchmcjjpkeaaGreatDoor.S11

/- Texts put together: SealA. -/
import Derived.Test.YtmjpnbadfmgimaaGreatDoorEg2
import Derived.Test.YtmjpnbadfmgimaaGreatDoorEg46
set_option linter.unusedSimpArgs false
set_option linter.unusedVariables false
set_option maxRecDepth 100000
namespace Go.Proofs.YtmjpnbadfmgimaaGreatDoor.S16
open Go.RowKit Pl S3 S3.Pl S14
attribute [local go_sem ↓] loadR_eq storeR_eq
set_option maxHeartbeats 16000000 in
theorem sealedAny_walk (a:Option Addr) (len cap:Nat) (z:List Int) (s:ByteArray) (w:World) (hT:Tab w) (hr:IsRow .u8 w a len cap z) (hs:s.size≤maxLen):
  Calls Tryz.prog 6 #[.slice a len cap,.string s] w fun e w'=>e=.returned (.bool true)∧Below w.heap.size w w':=by
 obtain ⟨hV,hlen⟩:=isBytes_row hr
 have HV:=Lib.hid hV
 have HT:=Lib.hid hT
 clear hr hV hT
 go_enter Tryz.func6,Tryz.ntmps6
 go_wp2_with fail
 refine (begun16_any w HT.out).mono ?_
 rintro e w0 ⟨rfl,HB0⟩
 have HV0:=Lib.hid (HV.out.below HB0.out)
 clear HV
 go_wp2_with fail
 refine (short_any _ _ 300 _ HV0.out (by omega)).mono ?_
 rintro e w0' ⟨v1,rfl,hi1,rfl⟩
 obtain ⟨C,hC⟩:∃ S,S=(bytesZ z len).take 300:=⟨_,rfl⟩
 have hCl:C.length≤1000000:=by rw [hC,List.length_take];omega
 rw [← hC] at hi1
 have HI:=Lib.hid hi1
 clear hi1 hC hlen HV0
 go_wp2_with fail
 refine (open_seg v1 C w0 (HT.out.below HB0.out) HI.out hCl).mono ?_
 rintro e w1 ⟨HB1,⟨_,rfl⟩ | ⟨L,V,g,_,rfl,HS⟩⟩
 ·have HBB:=Lib.hid (HB0.out.trans (HB1.out.mono HB0.out.size))
  clear HB1 HB0 HI
  go_wp2_with fail
  go_ret
  exact ⟨rfl,HBB.out⟩
 have HBB:=Lib.hid (HB0.out.trans (HB1.out.mono HB0.out.size))
 have HLE:=Lib.hid (len_seg g L V w1 HS.out)
 obtain ⟨_,_,_,_,_,_,_,_,_,_,_,hLL,_⟩:=HS.out
 obtain ⟨K,hK⟩:∃ K,L.length=K:=⟨_,rfl⟩
 rw [hK] at HLE hLL
 have HK:=Lib.hid hK
 clear HB1 HB0 HI hK
 go_wp2_with fail
 refine HLE.out.mono ?_
 rintro e w' ⟨rfl,rfl⟩
 clear HLE
 go_wp2_with fail
 go_loopw [9] (fun x wr=>∃ i:Nat,i≤K∧x=.int .i64 i∧Hid (Below w1.heap.size w1 wr)) (fun x _=>K-(intOf x).toNat)
 case atStart=>exact ⟨0,by omega,rfl,Lib.hid (Below.refl _ _)⟩
 case round=>
  obtain ⟨i,hi,rfl,HBr⟩:=hrel
  have HSr:=Lib.hid (HS.out.below HBr.out)
  have HBBr:=Lib.hid (HBB.out.trans (HBr.out.mono HBB.out.size))
  by_cases hgo:i<K∧i<20
  ·obtain ⟨hlt,h20⟩:=hgo
   have HGE:=Lib.hid (get_seg g L V i wr (HT.out.below HBBr.out) HSr.out (by rw [HK.out];exact hlt))
   have hi1:decide ((i:Int)<(K:Int))=true:=by simp;omega
   have hi2:decide ((i:Int)<20)=true:=by simp;omega
   have hi3:decide (i<K)=true:=by simp;omega
   have hi4:decide (i<20)=true:=by simp;omega
   go_wp2_with fail
   refine HGE.out.mono ?_
   rintro e w2 (⟨X,_,_,rfl,HB2⟩ | ⟨_,rfl,HB2⟩)
   ·obtain ⟨r,hr⟩:∃ r,putV (L.getD i zP).1 (str X)=r:=⟨_,rfl⟩
    rw [hr]
    obtain ⟨w3,hst3,HK3,HB3⟩:=back_rec (w:=w2) r (Blk.new w2 26 (recL zR)) ((Below.refl _ _).alloc (Nat.le_refl _) _) (Nat.le_refl _)
    simp only [recL,zR] at hst3
    have HB3':=Lib.hid (HBr.out.trans ((HB2.out.trans (HB3.out.mono HB2.out.size)).mono HBr.out.size))
    clear HB2 HB3 HGE hr HSr HBBr
    go_wp2_with fail
    go_roundw
    case rel=>exact ⟨i+1,by omega,by go_num,HB3'⟩
    case measure=>simp [intOf];omega
   ·obtain ⟨w3,hst3,HK3,HB3⟩:=back_zr (w:=w2) (Blk.new w2 26 (recL zR)) ((Below.refl _ _).alloc (Nat.le_refl _) _) (Nat.le_refl _)
    simp only [recL,zR] at hst3 ⊢
    have c2:w3.cell? ⟨w2.heap.size,2,none⟩=some (.string ⟨#[]⟩):=HK3.out.cell rfl
    obtain ⟨q1,q2⟩:=strL_t (rfl:(⟨#[]⟩:ByteArray)=⟨#[]⟩)
    have HB3':=Lib.hid (HBr.out.trans ((HB2.out.trans (HB3.out.mono HB2.out.size)).mono HBr.out.size))
    clear HB2 HB3 HGE HSr HBBr
    go_wp2_with fail
    go_roundw
    case rel=>exact ⟨i+1,by omega,by go_num,HB3'⟩
    case measure=>simp [intOf];omega
  ·have HFI:=Lib.hid (find_seg g L V s wr HSr.out hs)
   obtain ⟨o,ho⟩:∃ o,lastN L s L.length=o:=⟨_,rfl⟩
   have hol:∀ j,o=some j→j<K:=fun j h=>by rw [← HK.out];exact (lastN_lt L s _ j (ho.trans h)).1
   rw [ho] at HFI
   have hway:(decide ((i:Int)<(K:Int))=false∧decide (i<K)=false∧True∧True)∨(decide ((i:Int)<(K:Int))=true∧decide (i<K)=true∧decide ((i:Int)<20)=false∧decide (i<20)=false):=by
    by_cases h:i<K
    ·have:¬ i<20:=fun h2=>hgo ⟨h,h2⟩
     exact .inr ⟨by simp;omega,by simp;omega,by simp;omega,by simp;omega⟩
    ·exact .inl ⟨by simp;omega,by simp;omega,trivial,trivial⟩
   clear ho HSr hgo
   rcases hway with ⟨q1,q2,q3,q4⟩ | ⟨q1,q2,q3,q4⟩
   all_goals
    go_wp2_with fail
    refine HFI.out.mono ?_
    rintro e w' ⟨rfl,rfl⟩
    clear HFI
    cases o with
    | none=>
      simp only [Option.getD_none,Option.isSome_none,Int.natCast_zero]
      go_wp2
      go_ret
      exact ⟨rfl,HBBr.out⟩
    | some j=>
      have hj:=hol j rfl
      simp only [Option.getD_some,Option.isSome_some]
      have q5:decide ((j:Int)<(K:Int))=true:=by simp;omega
      have q6:decide ((j:Int)≥0)=true:=by simp
      clear hol
      go_wp2
      go_ret
      exact ⟨rfl,HBBr.out⟩
end Go.Proofs.YtmjpnbadfmgimaaGreatDoor.S16

/- Texts put together: SealN. -/
import Derived.Test.YtmjpnbadfmgimaaGreatDoorEg46
set_option linter.unusedSimpArgs false
set_option linter.unusedVariables false
set_option maxRecDepth 100000
namespace Go.Proofs.YtmjpnbadfmgimaaGreatDoor.S16
open Go.RowKit Pl S3 S3.Pl S14
theorem recs_nil (w:World):RecsAt w (.slice none 0 0) []:=⟨none,0,rfl,Nat.le_refl _,Nat.zero_le _,fun h=>by simp at h⟩
theorem open_empty:openP []=none:=open_none (dir_no (by decide))
attribute [local go_sem ↓] loadR_eq storeR_eq
set_option maxHeartbeats 16000000 in
theorem sealedNone_walk (w:World) (hT:Tab w):Calls Tryz.prog 5 #[] w fun e w'=>e=.returned (.bool true)∧Below w.heap.size w w':=by
 have HT:=Lib.hid hT
 clear hT
 go_enter Tryz.func5,Tryz.ntmps5
 go_wp2_with fail
 refine (get_none 0 w).mono ?_
 rintro e w1 ⟨rfl,HB1⟩
 obtain ⟨w2,hst2,HK2,HB2⟩:=back_zr (w:=w1) (Blk.new w1 26 (recL zR)) ((Below.refl _ _).alloc (Nat.le_refl _) _) (Nat.le_refl _)
 simp only [recL,zR] at hst2 ⊢
 have HBB2:=Lib.hid (HB1.out.trans (HB2.out.mono HB1.out.size))
 clear HB1 HB2 HK2
 go_wp2_with fail
 refine (all_none w2).mono ?_
 rintro e w' ⟨rfl,rfl⟩
 clear hst2
 go_wp2_with fail
 refine (find_none ⟨#[107]⟩ w2).mono ?_
 rintro e w' ⟨rfl,rfl⟩
 go_wp2_with fail
 refine (open_seg (.slice none 0 0) [] w2 (HT.out.below HBB2.out) (isBytes_nil w2) (by simp)).mono ?_
 rintro e w3 ⟨HB3,⟨_,rfl⟩ | ⟨L,V,g,h1,_⟩⟩
 rotate_left
 ·rw [open_empty] at h1;cases h1
 have HBB3:=Lib.hid (HBB2.out.trans (HB3.out.mono HBB2.out.size))
 clear HB3 HBB2
 go_wp2_with fail
 refine (build_any (.slice none 0 0) [] w3 (HT.out.below HBB3.out) (recs_nil w3) (by simp) (by simp) (by simp [valsE])).mono ?_
 rintro e w4 ⟨HB4,⟨_,sp,n,cap,rfl,HN,HI⟩ | ⟨c,h1,h2,_⟩⟩
 rotate_left
 ·exact absurd h1.symm h2
 have HBB4:=Lib.hid (HBB3.out.trans (HB4.out.mono HBB3.out.size))
 clear HB4 HBB3
 go_wp2_with fail
 refine (open_built (l:=[]) (by simp) (by simp) _ _ w4 (HT.out.below HBB4.out) HI.out rfl (buildP_len (by simp [rowsE]) (by simp [valsE]))).mono ?_
 rintro e w5 ⟨g,rfl,HS5,HB5⟩
 have HBB5:=Lib.hid (HBB4.out.trans (HB5.out.mono HBB4.out.size))
 clear HB5 HBB4 HI HN
 go_wp2_with fail
 refine (begun16_any w5 (HT.out.below HBB5.out)).mono ?_
 rintro e w6 ⟨rfl,HB6⟩
 have HBB6:=Lib.hid (HBB5.out.trans (HB6.out.mono HBB5.out.size))
 have HLE:=Lib.hid (len_seg g _ _ w6 (HS5.out.below HB6.out))
 have HL0:=Lib.hid (len_none w6)
 clear HB6 HBB5 HS5
 go_wp2_with fail
 refine HL0.out.mono ?_
 rintro e w' ⟨rfl,rfl⟩
 go_wp2_with fail
 refine HLE.out.mono ?_
 rintro e w' ⟨rfl,rfl⟩
 rw [rowsOf_length]
 go_wp2
 go_ret
 exact ⟨rfl,HBB6.out⟩
end Go.Proofs.YtmjpnbadfmgimaaGreatDoor.S16

/- Texts put together: SeaK, SeaO. -/
import Derived.Test.YtmjpnbadfmgimaaGreatDoorFg42
import Derived.Test.YtmjpnbadfmgimaaGreatDoorFg45
set_option linter.unusedSimpArgs false
set_option linter.unusedVariables false
set_option maxRecDepth 100000
set_option maxHeartbeats 32000000
namespace Go.Proofs.YtmjpnbadfmgimaaGreatDoor.S16
open Go.RowKit Pl S3 S3.Pl S14 Go.Maps
theorem rowsOf_length (l:List RT):(rowsOf l).length=l.length:=by simp [rowsOf]
theorem vals_at:∀ (l:List RT) (i:Nat),i<l.length→((valsE l).drop (total ((rowsOf l).take i))).take (l.getD i zR).val.size=strB (l.getD i zR).val
 | [],i,h=>by simp at h
 | r::l,0,_=>by
   show ((strB r.val++valsE l).drop (total [])).take r.val.size=strB r.val
   rw [show total []=0 from rfl,List.drop_zero]
   exact List.take_left' (strB_length _)
 | r::l,i+1,h=>by
   have ih:=vals_at l i (by simpa using h)
   have e:(r::l).getD (i+1) zR=l.getD i zR:=by simp
   have e2:(rowsOf (r::l)).take (i+1)=(noV r,r.val.size)::(rowsOf l).take i:=rfl
   rw [e,e2]
   show ((strB r.val++valsE l).drop (r.val.size+total ((rowsOf l).take i))).take _=_
   rw [← List.drop_drop,List.drop_left' (strB_length _)]
   exact ih
theorem put_no (r:RT):putV (noV r) (str (strB r.val))=r:=by
 rw [str_strB];rfl
section
variable {l:List RT} (hok:∀ r∈l,chk r=0) (hl:l.length≤1000)
include hok hl
theorem built_holds:S11.Holds (valsE l) (S11.packP (valsE l)):=by
 have:=valsE_len hok
 exact S11.pack_holds _ (valsE_lt l) (by omega)
theorem spoilt_no {z:Nat} (hz:z≤total (rowsOf l)):¬ Spoilt (S11.packP (valsE l)) z:=by
 rintro ⟨k,h1,h2⟩
 rw [total_rows] at hz
 rw [(built_holds hok hl).2.2 k (by unfold S11.cnt;omega)] at h2
 cases h2
theorem built_reads {a m:Nat} {X:List Nat} (hr:S11.Reads (S11.blk (S11.hd (S11.packP (valsE l))) (S11.rst (S11.packP (valsE l)))) a X) (hX:X.length=m) (ham:a+m≤total (rowsOf l)):X=((valsE l).drop a).take m:=by
 rw [total_rows] at ham
 exact S11.reads_text hr hX ham fun k hk=>.inl ((built_holds hok hl).2.2 k hk)
theorem get_built (g i:Nat) (w:World) (hT:Tab w) (h:IsSeg w g (rowsOf l) (S11.packP (valsE l))) (hi:i<l.length):Calls Tryz.prog 15 #[.pointer (some ⟨g,0,none⟩),.int .i64 i] w (GetOut (l.getD i zR) 0 w):=by
 refine (get_seg g _ _ i w hT h (by rw [rowsOf_length];exact hi)).mono ?_
 obtain ⟨h1,h2⟩:=total_take (rowsOf l) i (by rw [rowsOf_length];exact hi)
 rintro e w' (⟨X,HX,HR,ho⟩ | ⟨HS,_⟩)
 ·have hx:=HX.out
  rw [rowsOf_get l hi] at hx ho h1
  have h3:=built_reads hok hl HR.out hx (by simp only at h1;omega)
  have h4:=vals_at l i hi
  simp only at h3 ho
  rw [h3,h4,put_no] at ho
  exact ho
 ·exact absurd HS.out (spoilt_no hok hl h2)
theorem all_built (g:Nat) (w:World) (hT:Tab w) (h:IsSeg w g (rowsOf l) (S11.packP (valsE l))):Calls Tryz.prog 19 #[.pointer (some ⟨g,0,none⟩)] w fun e w'=>∃ v,e=.returned (.tuple #[v,.int .i64 0])∧Hid (RecsAt w' v l)∧Hid (Below w.heap.size w w'):=by
 refine (all_seg g _ _ w hT h (by rw [rowsOf_length];omega)).mono ?_
 rintro e w' ⟨hb,⟨X,v,HX,HR,rfl,HRA⟩ | ⟨HS,_⟩⟩
 ·have h3:=built_reads hok hl HR.out HX.out (by omega)
  rw [total_rows,List.drop_zero,List.take_length] at h3
  have e:allR (rowsOf l) X=l:=by
   have hlen:(allR (rowsOf l) X).length=l.length:=by unfold allR;simp [rowsOf_length]
   apply List.ext_getElem hlen
   intro i h1 h2
   have:=allR_get (rowsOf l) X (j:=i) (by rw [rowsOf_length];exact h2)
   rw [getD_of h1] at this
   rw [this]
   unfold allF
   rw [rowsOf_get l h2,h3]
   show putV (noV (l.getD i zR)) (str (((valsE l).drop (total ((rowsOf l).take i))).take (l.getD i zR).val.size))=l[i]
   rw [vals_at l i h2,put_no,getD_of h2]
  rw [e] at HRA
  exact ⟨v,rfl,HRA,hb⟩
 ·exact absurd HS.out (spoilt_no hok hl (Nat.le_refl _))
theorem open_built (v:Value) (b:List Nat) (w:World) (hT:Tab w) (hv:IsBytes w v b) (hb:b=buildP l) (hlen:b.length≤1000000):Calls Tryz.prog 12 #[v] w fun e w'=>∃ g,e=.returned (.tuple #[.pointer (some ⟨g,0,none⟩),.int .i64 0])∧Hid (IsSeg w' g (rowsOf l) (S11.packP (valsE l)))∧Hid (Below w.heap.size w w'):=by
 refine (open_seg v b w hT hv hlen).mono ?_
 rintro e w' ⟨hbl,⟨h1,_⟩ | ⟨L,V,g,h1,rfl,hs⟩⟩
 ·rw [hb,openP_build hok hl] at h1;cases h1
 ·rw [hb,openP_build hok hl] at h1
  simp only [Option.some.injEq,Prod.mk.injEq] at h1
  obtain ⟨rfl,rfl⟩:=h1
  exact ⟨g,rfl,hs,hbl⟩
end
theorem buildP_len {l:List RT} (h:(rowsE l).length≤100000) (h2:(valsE l).length≤100000):(buildP l).length≤1000000:=by
 unfold buildP
 rw [List.length_append,pseal_length]
 have:=pack_le h
 have:=pack_le h2
 omega
def r1:RT:=⟨1,1,⟨#[107]⟩,⟨#[118]⟩⟩
theorem r1_ok:∀ r∈[r1],chk r=0:=by
 intro r hr
 rw [List.mem_singleton] at hr
 subst hr
 decide
theorem recs_new (w:World) (r:RT):RecsAt (w.alloc (.cells #[.int .i64 r.kind,.int .i64 r.seq,.string r.key,.string r.val] 26 (0,0))) (.slice (some ⟨w.heap.size,0,none⟩) 1 1) [r]:=by
 refine ⟨_,1,rfl,Nat.le_refl _,by decide,fun _=>⟨w.heap.size,0,rfl,by simp,fun i hi j u hu=>?_⟩⟩
 obtain rfl:i=0:=by simp at hi;omega
 have hk:=Blk.new w 26 (recL r)
 rw [show 0+0*4+j=j by omega]
 exact hk.cell hu
attribute [local go_sem ↓] loadR_eq storeR_eq
theorem begun16_any (w:World) (hT:Tab w):Calls Tryz.prog 9 #[] w fun e w'=>e=.returned (.bool true)∧Hid (Below w.heap.size w w'):=by
 have HT:=Lib.hid hT
 obtain ⟨w1,hw1⟩:∃ w1,w.alloc (.cells #[.int .i64 1,.int .i64 1,.string ⟨#[107]⟩,.string ⟨#[118]⟩] 26 (0,0))=w1:=⟨_,rfl⟩
 have HB1:Hid (Below w.heap.size w w1):=Lib.hid (by rw [← hw1];exact (Below.refl _ _).alloc (Nat.le_refl _) _)
 have HR1:Hid (RecsAt w1 (.slice (some ⟨w.heap.size,0,none⟩) 1 1) [r1]):=Lib.hid (by rw [← hw1];exact recs_new w r1)
 have HBu:=Lib.hid (build_any _ [r1] w1 (HT.out.below HB1.out) HR1.out (by simp) (by intro r hr;rw [List.mem_singleton] at hr;subst hr;decide) (by decide))
 clear hT
 go_enter Tryz.func9,Tryz.ntmps9
 go_wp2_with fail
 refine HBu.out.mono ?_
 rintro e w2 ⟨HB2,⟨_,sp,n,cap,rfl,HN,HI⟩ | ⟨c,h1,h2,_⟩⟩
 rotate_left
 ·exact absurd (h1.symm.trans (bad_ok r1_ok)) h2
 have HBB2:=Lib.hid (HB1.out.trans (HB2.out.mono HB1.out.size))
 have HOp:=Lib.hid (open_built r1_ok (by simp) _ _ w2 (HT.out.below HBB2.out) HI.out rfl (buildP_len (by have:=rowsE_len r1_ok;simp at this;omega) (by have:=valsE_len r1_ok;simp at this;omega)))
 clear HB2 HBu HR1 hw1
 go_wp2_with fail
 refine HOp.out.mono ?_
 rintro e w3 ⟨g,rfl,HS3,HB3⟩
 have HBB3:=Lib.hid (HBB2.out.trans (HB3.out.mono HBB2.out.size))
 clear HB3 HOp HI HN
 go_wp2_with fail
 refine (get_built r1_ok (by simp) g 0 w3 (HT.out.below HBB3.out) HS3.out (by simp)).mono ?_
 rintro e w4 ⟨rfl,HB4⟩
 obtain ⟨w5,hst5,HK5,HB5⟩:=back_rec (w:=w4) r1 (Blk.new w4 26 (recL zR)) ((Below.refl _ _).alloc (Nat.le_refl _) _) (Nat.le_refl _)
 simp only [recL,zR] at hst5
 have hg0:[r1].getD 0 zR=r1:=rfl
 rw [hg0]
 have HBB5:=Lib.hid (HBB3.out.trans ((HB4.out.trans (HB5.out.mono HB4.out.size)).mono HBB3.out.size))
 have HS5:=Lib.hid ((HS3.out.below HB4.out).below HB5.out)
 clear HB4 HS3 HBB3 hg0
 go_wp2_with fail
 refine (find_seg g _ _ ⟨#[107]⟩ w5 HS5.out (by decide)).mono ?_
 rintro e w' ⟨rfl,rfl⟩
 have hla:lastN (rowsOf [r1]) ⟨#[107]⟩ (rowsOf [r1]).length=some 0:=rfl
 rw [hla]
 simp only [Option.getD_some,Option.isSome_some,Int.natCast_zero]
 clear hla hst5
 go_wp2_with fail
 refine (get_range g _ _ 1 w5 HS5.out (.inr (by rw [rowsOf_length];simp))).mono ?_
 rintro e w6 ⟨rfl,HB6⟩
 obtain ⟨w7,hst7,HK7,HB7⟩:=back_zr (w:=w6) (Blk.new w6 26 (recL zR)) ((Below.refl _ _).alloc (Nat.le_refl _) _) (Nat.le_refl _)
 simp only [recL,zR] at hst7 ⊢
 have hB57:=HB6.out.trans (HB7.out.mono HB6.out.size)
 have HBB7:=Lib.hid (HBB5.out.trans (hB57.mono HBB5.out.size))
 have HS7:=Lib.hid (HS5.out.below hB57)
 have c3:w7.cell? ⟨w4.heap.size,3,none⟩=some (.string ⟨#[118]⟩):=(HK5.out.below hB57 HK5.out.lt).cell rfl
 have hss:((⟨#[118]⟩:ByteArray).toList==(⟨#[118]⟩:ByteArray).toList)=true:=by simp
 have HLE:=Lib.hid (len_seg g _ _ w7 HS7.out)
 clear HB6 HB7 hB57 HS5 HBB5 HK5
 go_wp2_with fail
 refine HLE.out.mono ?_
 rintro e w' ⟨rfl,rfl⟩
 rw [rowsOf_length]
 go_wp2
 go_ret
 exact ⟨rfl,HBB7⟩
end Go.Proofs.YtmjpnbadfmgimaaGreatDoor.S16
namespace Go.Proofs.YtmjpnbadfmgimaaGreatDoor.S16
open Go.RowKit Go.ChangeShapes Go.WideShapes S14
end Go.Proofs.YtmjpnbadfmgimaaGreatDoor.S16

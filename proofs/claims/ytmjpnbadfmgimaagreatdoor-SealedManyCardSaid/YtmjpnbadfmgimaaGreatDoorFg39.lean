/- Texts put together: ConF, ConG, ConH. -/
import Derived.Test.YtmjpnbadfmgimaaGreatDoorFg2
import Derived.Test.YtmjpnbadfmgimaaGreatDoorFg32
import Derived.Test.YtmjpnbadfmgimaaGreatDoorFg36
import Derived.Test.YtmjpnbadfmgimaaGreatDoorFg37
import Derived.Test.YtmjpnbadfmgimaaGreatDoorFg38
import Derived.Lib.SlBytesConst
set_option linter.unusedSimpArgs false
set_option linter.unusedVariables false
set_option maxRecDepth 100000
set_option maxHeartbeats 32000000
namespace Go.Proofs.YtmjpnbadfmgimaaGreatDoor.S11
open Go.RowKit Pl S3 S3.Pl
theorem blk_len {C:List Nat} (h:opOk C):∀ k,k<cnt (getFour (hd C))→(blk (hd C) (rst C) k).1=min 1000 (getFour (hd C)-1000*k):=fun k _=>rfl
theorem op_small {C:List Nat} (h:opOk C) (hl:C.length≤1000000):getFour (hd C)≤1000000000:=by
 have h1:=h.2.1.2
 have h2:(hd C).length≤C.length:=by unfold hd;rw [List.length_drop,List.length_take];omega
 have:=cnt_mul (getFour (hd C))
 omega
def UnPost (C:List Nat) (most:Int) (w:World) (e:Ending) (w':World):Prop:=
 (Below w.heap.size w w'∧((¬ opOk C∧e=.returned (.tuple #[.slice none 0 0,.int .i64 6]))∨(opOk C∧most<getFour (hd C)∧e=.returned (.tuple #[.slice none 0 0,.int .i64 2]))))∨
 (opOk C∧(getFour (hd C):Int)≤most∧JoinPost (blk (hd C) (rst C)) 0 (getFour (hd C)) w e w')
theorem join_from {f:Nat→BkT} {a z:Nat} {w w1 w':World} {e:Ending} (hb:Below w.heap.size w w1) (h:JoinPost f a z w1 e w'):JoinPost f a z w e w':=⟨hb.trans (h.1.mono hb.size),h.2⟩
theorem unpack_any (v:Value) (C:List Nat) (most:Int) (w:World) (hT:Tab w) (hv:IsBytes w v C) (hl:C.length≤1000000):Calls Tryz.prog 45 #[v,.int .i64 most] w (UnPost C most w):=by
 have hc:=opened_any v C w hT hv hl
 have HT:=Lib.hid hT
 clear hv hT
 go_enter Tryz.func45,Tryz.ntmps45
 go_wp2_with fail
 refine hc.mono ?_
 rintro e w1 ⟨hb,⟨hno,v1,s1,rfl⟩ | ⟨hok,v1,rfl,hbk⟩⟩
 ·have HB:=Lib.hid hb
  have HNO:=Lib.hid hno
  clear hc hb hno
  go_wp2
  go_ret2
  exact .inl ⟨HB.out,.inl ⟨HNO.out,rfl⟩⟩
 ·have hsm:=op_small hok hl
  have hj:=joined_any v1 (cnt (getFour (hd C))) (getFour (hd C)) 0 (getFour (hd C)) (blk (hd C) (rst C)) w1 (HT.out.below hb) hbk rfl hsm (Nat.le_refl _) (Nat.zero_le _) (blk_len hok) (fun k hk=>blk_small (hok.2.2.1 k hk))
  have HB:=Lib.hid hb
  have HOK:=Lib.hid hok
  obtain ⟨S,hS⟩:∃ S,getFour (hd C)=S:=⟨_,rfl⟩
  rw [hS] at hj hsm ⊢
  have HS:=Lib.hid hS
  have HJ:=Lib.hid hj
  clear hc hb hok hbk hj hS
  by_cases hm:most<(S:Int)
  ·go_wp2
   go_ret2
   exact .inl ⟨HB.out,.inr ⟨HOK.out,by rw [HS.out];exact hm,rfl⟩⟩
  ·have hm2:(S:Int)≤most:=by omega
   go_wp2_with fail
   refine HJ.out.mono ?_
   rintro e w2 ⟨hb2,⟨sp,cap,X,rfl,h1,h2,h3⟩ | ⟨rfl,h1⟩⟩
   ·have HJ2:Hid (JoinPost (blk (hd C) (rst C)) 0 S w1 (.returned (.tuple #[.slice sp (S-0) cap,.int .i64 0])) w2):=Lib.hid ⟨hb2,.inl ⟨sp,cap,X,rfl,h1,h2,h3⟩⟩
    clear hb2 h1 h2 h3
    rw [Nat.sub_zero] at HJ2 ⊢
    go_wp2
    go_ret2
    exact .inr ⟨HOK.out,by rw [HS.out];exact hm2,by rw [HS.out];exact join_from HB.out HJ2.out⟩
   ·have HJ2:Hid (JoinPost (blk (hd C) (rst C)) 0 S w1 (.returned (.tuple #[.slice none 0 0,.int .i64 6])) w2):=Lib.hid ⟨hb2,.inr ⟨rfl,h1⟩⟩
    clear hb2 h1
    go_wp2
    go_ret2
    exact .inr ⟨HOK.out,by rw [HS.out];exact hm2,by rw [HS.out];exact join_from HB.out HJ2.out⟩
def PartPost (C:List Nat) (a n:Int) (w:World) (e:Ending) (w':World):Prop:=
 (Below w.heap.size w w'∧((¬ opOk C∧e=.returned (.tuple #[.slice none 0 0,.int .i64 6]))∨(opOk C∧(a<0∨n<0∨(getFour (hd C):Int)-a<n)∧e=.returned (.tuple #[.slice none 0 0,.int .i64 7]))))∨
 (opOk C∧∃ p m:Nat,a=p∧n=m∧p+m≤getFour (hd C)∧JoinPost (blk (hd C) (rst C)) p (p+m) w e w')
theorem part_any (v:Value) (C:List Nat) (a n:Int) (w:World) (hT:Tab w) (hv:IsBytes w v C) (hl:C.length≤1000000) (ha:(Lit.int .i64 a).wf=true) (hn:(Lit.int .i64 n).wf=true):Calls Tryz.prog 47 #[v,.int .i64 a,.int .i64 n] w (PartPost C a n w):=by
 have hc:=opened_any v C w hT hv hl
 have ha':=S10.i64_wf' ha
 have hn':=S10.i64_wf' hn
 have HT:=Lib.hid hT
 clear hv hT ha hn
 go_enter Tryz.func47,Tryz.ntmps47
 go_wp2_with fail
 refine hc.mono ?_
 rintro e w1 ⟨hb,⟨hno,v1,s1,rfl⟩ | ⟨hok,v1,rfl,hbk⟩⟩
 ·have HB:=Lib.hid hb
  have HNO:=Lib.hid hno
  clear hc hb hno
  go_wp2
  go_ret2
  exact .inl ⟨HB.out,.inl ⟨HNO.out,rfl⟩⟩
 ·have hsm:=op_small hok hl
  have hjj:=fun (p z:Nat) (h1:p≤z) (h2:z≤getFour (hd C))=>joined_any v1 (cnt (getFour (hd C))) (getFour (hd C)) p z (blk (hd C) (rst C)) w1 (HT.out.below hb) hbk rfl hsm h2 h1 (blk_len hok) (fun k hk=>blk_small (hok.2.2.1 k hk))
  have HB:=Lib.hid hb
  have HOK:=Lib.hid hok
  obtain ⟨S,hS⟩:∃ S,getFour (hd C)=S:=⟨_,rfl⟩
  rw [hS] at hjj hsm ⊢
  have HS:=Lib.hid hS
  have HJ:=Lib.hid hjj
  clear hc hb hok hbk hjj hS
  by_cases hr:a<0
  ·go_wp2
   go_ret2
   exact .inl ⟨HB.out,.inr ⟨HOK.out,.inl hr,rfl⟩⟩
  by_cases hr2:n<0
  ·go_wp2
   go_ret2
   exact .inl ⟨HB.out,.inr ⟨HOK.out,.inr (.inl hr2),rfl⟩⟩
  by_cases hr3:(S:Int)-a<n
  ·go_wp2
   go_ret2
   exact .inl ⟨HB.out,.inr ⟨HOK.out,.inr (.inr (by rw [HS.out];exact hr3)),rfl⟩⟩
  obtain ⟨p,rfl⟩:∃ p:Nat,a=p:=⟨a.toNat,by omega⟩
  obtain ⟨m,rfl⟩:∃ m:Nat,n=m:=⟨n.toNat,by omega⟩
  have hpm:p+m≤S:=by omega
  obtain ⟨z,hz⟩:∃ z,p+m=z:=⟨_,rfl⟩
  have hzI:(p:Int)+(m:Int)=(z:Int):=by omega
  have hj:=HJ.out p z (by omega) (by omega)
  have HJ1:=Lib.hid hj
  have HZ:=Lib.hid hz
  clear hj HJ hz ha' hn'
  go_wp2_with fail
  refine HJ1.out.mono ?_
  rintro e w2 ⟨hb2,⟨sp,cap,X,rfl,h1,h2,h3⟩ | ⟨rfl,h1⟩⟩
  ·have HJ2:Hid (JoinPost (blk (hd C) (rst C)) p z w1 (.returned (.tuple #[.slice sp (z-p) cap,.int .i64 0])) w2):=Lib.hid ⟨hb2,.inl ⟨sp,cap,X,rfl,h1,h2,h3⟩⟩
   clear hb2 h1 h2 h3
   go_wp2
   go_ret2
   exact .inr ⟨HOK.out,p,m,rfl,rfl,by rw [HS.out];exact hpm,by rw [HZ.out];exact join_from HB.out HJ2.out⟩
  ·have HJ2:Hid (JoinPost (blk (hd C) (rst C)) p z w1 (.returned (.tuple #[.slice none 0 0,.int .i64 6])) w2):=Lib.hid ⟨hb2,.inr ⟨rfl,h1⟩⟩
   clear hb2 h1
   go_wp2
   go_ret2
   exact .inr ⟨HOK.out,p,m,rfl,rfl,by rw [HS.out];exact hpm,by rw [HZ.out];exact join_from HB.out HJ2.out⟩
attribute [local go_sem ↓] loadB_eq
end Go.Proofs.YtmjpnbadfmgimaaGreatDoor.S11
namespace Go.Proofs.YtmjpnbadfmgimaaGreatDoor.S11
open Go.RowKit Pl S3 S3.Pl
theorem list_eq_getD {A B:List Nat} (hl:A.length=B.length) (h:∀ i,i<A.length→A.getD i 0=B.getD i 0):A=B:=by
 apply List.ext_getElem hl
 intro i h1 h2
 have:=h i h1
 rw [List.getD_eq_getElem?_getD,List.getD_eq_getElem?_getD,List.getElem?_eq_getElem h1,List.getElem?_eq_getElem h2] at this
 simpa using this
theorem reads_text {f:Nat→BkT} {B X:List Nat} {a m:Nat} (hr:Reads f a X) (hX:X.length=m) (ham:a+m≤B.length) (h:∀ k,k<cnt B.length→txB (f k)=(true,chk B k)∨(txB (f k)).1=false):X=(B.drop a).take m:=by
 apply list_eq_getD
 ·rw [List.length_take,List.length_drop];omega
 ·intro i hi
  obtain ⟨h1,h2⟩:=hr i hi
  have hk:(a+i)/1000<cnt B.length:=by unfold cnt;omega
  rcases h _ hk with h3 | h3
  ·rw [h2,h3,chk_get B (Nat.mod_lt _ (by omega)),show 1000*((a+i)/1000)+(a+i)%1000=a+i by omega]
   rw [List.getD_eq_getElem?_getD (l:=List.take m (List.drop a B)),List.getElem?_take_of_lt (by omega),List.getElem?_drop,← List.getD_eq_getElem?_getD]
  ·rw [h1] at h3;cases h3
theorem wf_nat {n:Nat} (h:n<9223372036854775808):(Lit.int .i64 (n:Nat)).wf=true:=by
 simp [Lit.wf,IntKind.min,IntKind.max,IntKind.signed,IntKind.bits]
 omega
def Packed (B:List Nat) (w:World) (e:Ending) (w':World):Prop:=
 ∃ g n cap,e=.returned (.slice (some ⟨g,0,none⟩) n cap)∧w.heap.size≤g∧n=(packP B).length∧Hid (w'.ownsRow w.heap.size 5 1 (.slice (some ⟨g,0,none⟩) n cap) n (u8s (packP B)))∧Hid (IsBytes w' (.slice (some ⟨g,0,none⟩) n cap) (packP B))∧Hid (Below w.heap.size w w')
theorem packed_any (v:Value) (B:List Nat) (w:World) (hT:Tab w) (hv:IsBytes w v B) (hB:B.length≤100000):Calls Tryz.prog 28 #[v] w (Packed B w):=by
 refine (pack_any v B w hT hv hB).mono ?_
 rintro e w' ⟨v',rfl,ho,hb⟩
 obtain ⟨g,cap,rfl,hg,_,_,_⟩:=own_open ho (by have:=packP_pos B;omega)
 exact ⟨g,_,cap,rfl,hg,rfl,Lib.hid ho,Lib.hid (isBytes_own (packP_lt hv.1) ho),Lib.hid hb⟩
attribute [local go_sem ↓] conv_eq
end Go.Proofs.YtmjpnbadfmgimaaGreatDoor.S11

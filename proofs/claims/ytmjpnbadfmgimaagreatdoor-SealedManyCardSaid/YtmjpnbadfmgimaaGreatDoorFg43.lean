/- Texts put together: SeaL. -/
import Derived.Test.YtmjpnbadfmgimaaGreatDoorFg40
import Derived.Test.YtmjpnbadfmgimaaGreatDoorFg41
import Derived.Deep.QuietTactic
set_option linter.unusedSimpArgs false
set_option linter.unusedVariables false
set_option maxRecDepth 100000
set_option maxHeartbeats 32000000
namespace Go.Proofs.YtmjpnbadfmgimaaGreatDoor.S16
open Go.RowKit S2.Pl S3.Pl S14
theorem strL_t {a b:ByteArray} (h:a=b):(a.toList==b.toList)=true∧(a.toList != b.toList)=false:=by subst h;simp
theorem strL_f {a b:ByteArray} (h:a≠b):(a.toList==b.toList)=false∧(a.toList != b.toList)=true:=by
 have:a.toList≠b.toList:=fun e=>h (ByteArray.ext (Array.toList_inj.1 (by rw [← ByteArray.toList_eq,← ByteArray.toList_eq];exact e)))
 exact ⟨by simpa using this,by simpa using this⟩
theorem getD_of {L:List RT} {i:Nat} (h:i<L.length):L.getD i zR=L[i]:=by simp [List.getD,h]
def lastI:Option Nat→Int
 | some i=>(i:Nat)
 | none=>-1
theorem rowsOf_get (L:List RT) {i:Nat} (hi:i<L.length):(rowsOf L).getD i zP=(noV (L.getD i zR),(L.getD i zR).val.size):=by
 unfold rowsOf
 simp [List.getD,hi]
theorem RecsAt.cell {w:World} {a:Option Addr} {n cap:Nat} {L:List RT} (h:RecsAt w (.slice a n cap) L) {i:Nat} (hi:i<L.length):∃ b off,a=some ⟨b,off,none⟩∧w.cell? ⟨b,off+i*4,none⟩=some (.int .i64 (L.getD i zR).kind)∧w.cell? ⟨b,off+i*4+1,none⟩=some (.int .i64 (L.getD i zR).seq)∧w.cell? ⟨b,off+i*4+2,none⟩=some (.string (L.getD i zR).key)∧w.cell? ⟨b,off+i*4+3,none⟩=some (.string (L.getD i zR).val):=by
 obtain ⟨a',cap',he,h1,h2,h3⟩:=h
 simp at he
 obtain ⟨rfl,rfl,rfl⟩:=he
 obtain ⟨b,off,rfl,hb,hc⟩:=h3 (by omega)
 exact ⟨b,off,rfl,hc i hi 0 _ rfl,hc i hi 1 _ rfl,hc i hi 2 _ rfl,hc i hi 3 _ rfl⟩
theorem last_any (v:Value) (L:List RT) (s:ByteArray) (w:World) (h:RecsAt w v L):Calls Tryz.prog 18 #[v,.string s] w fun e w'=>e=.returned (.int .i64 (lastI (lastN (rowsOf L) s L.length)))∧w=w':=by
 have HR:=Lib.hid h
 obtain ⟨a,cap,rfl,hc1,hm1,_⟩:=h
 unfold maxLen at hm1
 obtain ⟨Z,hZ⟩:∃ Z,lastI (lastN (rowsOf L) s L.length)=Z:=⟨_,rfl⟩
 have HZ:=Lib.hid hZ
 rw [hZ]
 clear hZ
 go_enter Tryz.func18,Tryz.ntmps18
 go_wp2_with fail
 go_loopw [5] (fun x wr=>∃ (j:Nat) (y:Int),j≤L.length∧x=.int .i64 y∧Hid (y=(j:Int)-1)∧Hid (lastI (lastN (rowsOf L) s j)=Z)∧Hid (wr=w)) (fun x _=>(intOf x+1).toNat)
 case atStart=>exact ⟨L.length,_,Nat.le_refl _,rfl,Lib.hid rfl,HZ,Lib.hid rfl⟩
 case round=>
  obtain ⟨j,y,hj,rfl,HY,HL,HW⟩:=hrel
  have hw:=HW.out
  subst hw
  cases j with
  | zero=>
    have hy:y=-1:=by have:=HY.out;omega
    subst hy
    have hz:Z=-1:=by rw [← HL.out];rfl
    have HZ2:=Lib.hid hz
    clear hz HZ HL HY HW
    go_wp2_with fail
    go_ret
    exact ⟨by rw [HZ2.out];rfl,rfl⟩
  | succ i=>
    have hy:y=(i:Int):=by have:=HY.out;omega
    subst hy
    obtain ⟨b,off,rfl,_,_,c2,_⟩:=RecsAt.cell HR.out (show i<L.length by omega)
    have hiL:(i:Int)<(L.length:Int):=by omega
    have hg:decide ((i:Int)≥0)=true:=by simp
    obtain ⟨K,hK⟩:∃ K,(L.getD i zR).key=K:=⟨_,rfl⟩
    rw [hK] at c2
    have hkey:((rowsOf L).getD i zP).1.key=K:=by rw [rowsOf_get L (by omega)];exact hK
    have HKK:=Lib.hid hkey
    clear hK hkey
    by_cases e:K=s
    ·obtain ⟨q1,q2⟩:=strL_t e
     have hz:Z=(i:Nat):=by rw [← HL.out,lastN,if_pos (HKK.out.trans e)];rfl
     have HZ2:=Lib.hid hz
     clear hz HZ HL HY HW HKK e
     go_wp2_with fail
     go_ret
     exact ⟨by rw [HZ2.out];rfl,rfl⟩
    ·obtain ⟨q1,q2⟩:=strL_f e
     have hz:lastI (lastN (rowsOf L) s i)=Z:=by rw [← HL.out,lastN,if_neg fun h=>e (HKK.out.symm.trans h)]
     have HZ2:=Lib.hid hz
     clear hz HL HY HW HKK e
     go_wp2_with fail
     go_roundw
     case rel=>exact ⟨i,_,by omega,rfl,Lib.hid (by trivial),HZ2,Lib.hid (by trivial)⟩
     case measure=>simp [intOf]
def encT:List RT→Nat
 | []=>0
 | r::l=>(enc r).length+encT l
theorem encT_take (L:List RT):∀ i,i<L.length→encT (L.take (i+1))=encT (L.take i)+(enc (L.getD i zR)).length:=by
 induction L with
 | nil=>intro i hi;simp at hi
 | cons x l ih=>
   intro i hi
   cases i with
   | zero=>simp [encT]
   | succ i=>
     have h1:=ih i (by simpa using hi)
     have e:(x::l).getD (i+1) zR=l.getD i zR:=by simp
     simp only [List.take_succ_cons,encT]
     rw [e,h1];omega
theorem enc_le {r:RT}:(enc r).length≤5000:=by
 unfold enc
 split
 ·rename_i h
  have:=(body_len h).1
  rw [pseal_length];omega
 ·simp
theorem encT_le (L:List RT):encT L≤5000*L.length:=by
 induction L with
 | nil=>simp [encT]
 | cons r l ih=>have:=enc_le (r:=r);rw [encT,List.length_cons];omega
attribute [local go_sem ↓] loadR_eq
theorem bytes_any (v:Value) (L:List RT) (w:World) (h:RecsAt w v L) (hL:L.length≤1000000) (hs:∀ r∈L,r.key.size≤maxLen∧r.val.size≤maxLen):Calls Tryz.prog 14 #[v] w fun e w'=>e=.returned (.int .i64 (encT L:Nat))∧Hid (Below w.heap.size w w'):=by
 have HR:=Lib.hid h
 have HS:=Lib.hid hs
 obtain ⟨a,cap,rfl,hc1,hm1,_⟩:=h
 unfold maxLen at hm1
 clear hs
 go_enter Tryz.func14,Tryz.ntmps14
 go_wp2_with fail
 go_loopw [3,4] (fun x y wr=>∃ (i n:Nat),i≤L.length∧y=.int .i64 i∧x=.int .i64 n∧Hid (n=encT (L.take i))∧n≤5000*i∧Hid (Below w.heap.size w wr)) (fun _ y _=>L.length-(intOf y).toNat)
 case atStart=>exact ⟨0,0,by omega,rfl,rfl,Lib.hid rfl,by omega,Lib.hid (Below.refl _ _)⟩
 case round=>
  obtain ⟨i,n,hi,rfl,rfl,HN,hn,HB⟩:=hrel
  by_cases hlt:i<L.length
  ·obtain ⟨b,off,rfl,hld1⟩:=(HR.out.below HB.out).load (W:=wr) hlt
   have hld:=hld1 wr (Below.refl _ _)
   have hi1:(i:Int)<(L.length:Int):=by omega
   have hst:=encT_take L i hlt
   obtain ⟨r,hr⟩:∃ r,L.getD i zR=r:=⟨_,rfl⟩
   have hmem:r∈L:=by rw [← hr,getD_of hlt];exact List.getElem_mem hlt
   rw [hr] at hld hst
   obtain ⟨z1,z2⟩:=HS.out r hmem
   have HE:=Lib.hid (refEncode_any r wr z1 z2)
   have hle:=enc_le (r:=r)
   obtain ⟨m,hm⟩:∃ m,(enc r).length=m:=⟨_,rfl⟩
   rw [hm] at hst hle
   have HM:=Lib.hid hm
   have HST:Hid (n+m=encT (L.take (i+1))):=Lib.hid (by rw [hst,HN.out])
   clear hld1 hr hmem z1 z2 hst hm HN
   go_wp2_with fail
   refine HE.out.mono ?_
   intro e w2 h2
   obtain ⟨sp,cp,rfl,ho,hb⟩:=h2.s
   rw [HM.out]
   have HB2:=Lib.hid (HB.out.trans (hb.mono HB.out.size))
   clear h2 ho hb HE hld
   go_wp2_with fail
   go_roundw
   case rel=>exact ⟨i+1,n+m,by omega,by go_num,by go_num,HST,by omega,HB2⟩
   case measure=>simp [intOf];omega
  ·obtain rfl:i=L.length:=by omega
   have hf:n=encT L:=by have:=HN.out;rwa [List.take_length] at this
   have HF:=Lib.hid hf
   clear hf HN
   go_wp2_with fail
   go_ret
   exact ⟨by rw [HF.out];rfl,HB⟩
end Go.Proofs.YtmjpnbadfmgimaaGreatDoor.S16

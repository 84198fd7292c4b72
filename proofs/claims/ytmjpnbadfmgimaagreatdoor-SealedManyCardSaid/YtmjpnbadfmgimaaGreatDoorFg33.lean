/- Texts put together: ConP. -/
import Derived.Test.YtmjpnbadfmgimaaGreatDoorFg3
import Derived.Test.YtmjpnbadfmgimaaGreatDoorFg32
set_option linter.unusedSimpArgs false
set_option linter.unusedVariables false
set_option maxRecDepth 100000
namespace Go.Proofs.YtmjpnbadfmgimaaGreatDoor.S11
open Pl S3 S3.Pl
def saOf (B:List Nat):List Nat:=(List.range B.length).mergeSort fun i j=>!S8.Pl.lexB (B.drop j) (B.drop i)
theorem lex_le_trans {a b c:List Nat} (h1:S8.Pl.lexB b a=false) (h2:S8.Pl.lexB c b=false):S8.Pl.lexB c a=false:=by
 cases h:S8.Pl.lexB c a with
 | false=>rfl
 | true=>
   by_cases hbc:b=c
   ·subst hbc;rw [h] at h1;cases h1
   ·rcases S8.Pl.lexB_total b c hbc with h3 | h3
    ·rw [S8.Pl.lexB_trans _ _ _ h3 h] at h1;cases h1
    ·rw [h3] at h2;cases h2
theorem saOf_ok (B:List Nat):S8.Pl.IsSA B (saOf B):=by
 have hp:(saOf B).Perm (List.range B.length):=List.mergeSort_perm _ _
 have hm:∀ i,i∈saOf B↔i<B.length:=fun i=>by rw [hp.mem_iff,List.mem_range]
 refine ⟨?_,hm⟩
 have h:=List.pairwise_mergeSort (le:=fun i j:Nat=>!S8.Pl.lexB (B.drop j) (B.drop i)) (fun a b c h1 h2=>by
  simp only [Bool.not_eq_true'] at h1 h2 ⊢
  exact lex_le_trans h1 h2) (fun a b=>by
  cases hh:S8.Pl.lexB (B.drop b) (B.drop a) with
  | false=>simp
  | true=>simp [S8.Pl.lexB_asymm _ _ hh]) (List.range B.length)
 have hn:(saOf B).Nodup:=(hp.nodup_iff).2 List.nodup_range
 have h2:=(List.pairwise_and_iff.2 ⟨h,hn⟩)
 refine (List.Pairwise.imp_of_mem ?_ h2)
 intro i j hi hj hij
 have h1:=hij.1
 simp only [Bool.not_eq_true'] at h1
 have hi':=(hm i).1 hi
 have hj':=(hm j).1 hj
 rcases S8.Pl.suf_total (B:=B) (Nat.le_of_lt hi') (Nat.le_of_lt hj') hij.2 with h3 | h3
 ·exact h3
 ·unfold S8.Pl.sufB at h3;rw [h1] at h3;cases h3
def eC (B:List Nat):List Nat:=S10.encE B (saOf B)
theorem eC_of {B R:List Nat} (h:S8.Pl.IsSA B R):S10.encE B R=eC B:=by rw [S8.Pl.sa_unique h (saOf_ok B)];rfl
theorem eC_lt (B:List Nat):∀ x∈eC B,x<256:=S10.pack_lt _ _
theorem dec_eC {B:List Nat} (hB:∀ x∈B,x<256) (hn:B.length≤1000000):S10.decF (eC B) B.length=(0,B):=by
 have:=S10.dec_enc (saOf_ok B) hB hn B.length
 rw [if_pos (Nat.le_refl _)] at this
 exact this
def stB (B:List Nat):List Nat:=if (eC B).length<B.length then eC B else B
theorem stB_le (B:List Nat):(stB B).length≤B.length:=by unfold stB;split <;> omega
theorem stB_lt {B:List Nat} (hB:∀ x∈B,x<256):∀ x∈stB B,x<256:=by
 unfold stB;split
 ·exact eC_lt B
 ·exact hB
def txB (t:Nat×List Nat×Nat):Bool×List Nat:=
 if csum t.2.1≠t.2.2 then (false,[])
 else if t.2.1.length=t.1 then (decide (t.1≤(eC t.2.1).length),t.2.1)
 else ((decide ((S10.decF t.2.1 t.1).1=0)&&decide ((S10.decF t.2.1 t.1).2.length=t.1)),(S10.decF t.2.1 t.1).2)
theorem tx_len {t:Nat×List Nat×Nat} (h:(txB t).1=true):(txB t).2.length=t.1:=by
 unfold txB at h ⊢
 split
 ·rename_i h1;rw [if_pos h1] at h;cases h
 ·rename_i h1
  rw [if_neg h1] at h
  split
  ·rename_i h2;exact h2
  ·rename_i h2
   rw [if_neg h2] at h
   simp at h
   exact h.2
theorem tx_bad {t:Nat×List Nat×Nat} (h:csum t.2.1≠t.2.2):txB t=(false,[]):=by unfold txB;rw [if_pos h]
theorem tx_st {B:List Nat} (hB:∀ x∈B,x<256) (hn:B.length≤1000000):txB (B.length,stB B,csum (stB B))=(true,B):=by
 unfold txB
 simp only [ne_eq,not_true,if_false]
 by_cases h:(eC B).length<B.length
 ·have e:stB B=eC B:=by unfold stB;rw [if_pos h]
  rw [e,if_neg (by omega),dec_eC hB hn]
  simp
 ·have e:stB B=B:=by unfold stB;rw [if_neg h]
  rw [e,if_pos rfl]
  simp;omega
def cnt (n:Nat):Nat:=(n+999)/1000
def chk (B:List Nat) (k:Nat):List Nat:=(B.drop (1000*k)).take 1000
theorem chk_length (B:List Nat) (k:Nat):(chk B k).length=min 1000 (B.length-1000*k):=by unfold chk;rw [List.length_take,List.length_drop]
theorem chk_lt {B:List Nat} (hB:∀ x∈B,x<256) (k:Nat):∀ x∈chk B k,x<256:=fun x hx=>hB x (List.mem_of_mem_drop (List.mem_of_mem_take hx))
theorem chk_get (B:List Nat) {k r:Nat} (h:r<1000):(chk B k).getD r 0=B.getD (1000*k+r) 0:=by
 unfold chk
 rw [List.getD_eq_getElem?_getD,List.getElem?_take_of_lt h,List.getElem?_drop,← List.getD_eq_getElem?_getD]
def rowsP (B:List Nat):Nat→List Nat
 | 0=>[]
 | k+1=>rowsP B k++(four (stB (chk B k)).length++four (csum (stB (chk B k))))
def bodP (B:List Nat):Nat→List Nat
 | 0=>[]
 | k+1=>bodP B k++stB (chk B k)
def hdP (B:List Nat) (k:Nat):List Nat:=four B.length++rowsP B k
def packP (B:List Nat):List Nat:=pseal (hdP B (cnt B.length))++bodP B (cnt B.length)
theorem rowsP_length (B:List Nat):∀ k,(rowsP B k).length=8*k
 | 0=>rfl
 | k+1=>by
   rw [rowsP,List.length_append,List.length_append,rowsP_length B k,four_length,four_length];omega
theorem hdP_length (B:List Nat) (k:Nat):(hdP B k).length=4+8*k:=by
 unfold hdP;rw [List.length_append,four_length,rowsP_length]
theorem hdP_zero (B:List Nat):hdP B 0=four B.length:=by simp [hdP,rowsP]
theorem hdP_succ (B:List Nat) (k:Nat):hdP B (k+1)=hdP B k++four (stB (chk B k)).length++four (csum (stB (chk B k))):=by simp [hdP,rowsP]
theorem hdP_lt (B:List Nat) (k:Nat):∀ x∈hdP B k,x<256:=by
 induction k with
 | zero=>rw [hdP_zero];exact four_lt _
 | succ k ih=>
   rw [hdP_succ]
   intro x hx
   rcases List.mem_append.1 hx with hx | hx
   ·rcases List.mem_append.1 hx with hx | hx
    ·exact ih x hx
    ·exact four_lt _ x hx
   ·exact four_lt _ x hx
theorem bodP_le (B:List Nat):∀ k,(bodP B k).length≤min (1000*k) B.length
 | 0=>by simp [bodP]
 | k+1=>by
   have h:=bodP_le B k
   have h2:=stB_le (chk B k)
   rw [chk_length] at h2
   rw [bodP,List.length_append]
   have h3:(bodP B k).length≤1000*k:=by omega
   by_cases h4:1000*k≤B.length
   ·omega
   ·have:B.length-1000*k=0:=by omega
    omega
theorem bodP_lt {B:List Nat} (hB:∀ x∈B,x<256):∀ k,∀ x∈bodP B k,x<256
 | 0=>by simp [bodP]
 | k+1=>by
   rw [bodP]
   intro x hx
   rcases List.mem_append.1 hx with hx | hx
   ·exact bodP_lt hB k x hx
   ·exact stB_lt (chk_lt hB k) x hx
theorem packP_length (B:List Nat):(packP B).length=16+8*cnt B.length+(bodP B (cnt B.length)).length:=by
 unfold packP;rw [List.length_append,pseal_length,hdP_length];omega
theorem packP_pos (B:List Nat):16≤(packP B).length:=by rw [packP_length];omega
theorem packP_lt {B:List Nat} (hB:∀ x∈B,x<256):∀ x∈packP B,x<256:=by
 unfold packP
 intro x hx
 rcases List.mem_append.1 hx with hx | hx
 ·exact pseal_lt (hdP_lt _ _) x hx
 ·exact bodP_lt hB _ x hx
def e0 (C:List Nat):Nat:=12+getFour C
def hd (C:List Nat):List Nat:=(C.take (e0 C)).drop 12
def rst (C:List Nat):List Nat:=C.drop (e0 C)
def sl (H:List Nat) (k:Nat):Nat:=getFour (H.drop (4+8*k))
def sm (H:List Nat) (k:Nat):Nat:=getFour (H.drop (8+8*k))
def ln (H:List Nat) (k:Nat):Nat:=min 1000 (getFour H-1000*k)
def off (H:List Nat):Nat→Nat
 | 0=>0
 | k+1=>off H k+sl H k
def blk (H R:List Nat) (k:Nat):Nat×List Nat×Nat:=(ln H k,(R.drop (off H k)).take (sl H k),sm H k)
def fits (H R:List Nat) (k:Nat):Prop:=sl H k≤ln H k∧off H k+sl H k≤R.length
def hdOk (H:List Nat):Prop:=4≤H.length∧H.length=4+8*cnt (getFour H)
def opOk (C:List Nat):Prop:=openOk (C.take (e0 C))=true∧hdOk (hd C)∧(∀ k,k<cnt (getFour (hd C))→fits (hd C) (rst C) k)∧off (hd C) (cnt (getFour (hd C)))=(rst C).length
theorem blk_length {H R:List Nat} {k:Nat} (h:fits H R k):(blk H R k).2.1.length=sl H k:=by
 unfold blk;simp only [List.length_take,List.length_drop];have:=h.2;omega
theorem blk_small {H R:List Nat} {k:Nat} (h:fits H R k):(blk H R k).2.1.length≤1000:=by
 rw [blk_length h];have:=h.1;unfold ln at this;omega
theorem open_seal (P Q:List Nat) (hP:∀ x∈P,x<256) (hl:P.length<4294967296):e0 (pseal P++Q)=12+P.length∧(pseal P++Q).take (12+P.length)=pseal P∧openOk (pseal P)=true∧hd (pseal P++Q)=P∧rst (pseal P++Q)=Q:=by
 have h0:e0 (pseal P++Q)=12+P.length:=by
  unfold e0 pseal
  simp only [List.append_assoc]
  rw [getFour_four _ hl]
 have h1:(pseal P++Q).take (12+P.length)=pseal P:=List.take_left' (pseal_length P)
 have hcl:csum (four P.length)<4294967296:=csum_lt (four_lt _)
 have hcp:csum P<4294967296:=csum_lt hP
 have d4:(pseal P).drop 4=four (csum (four P.length))++(four (csum P)++P):=by
  unfold pseal;simp only [List.append_assoc];exact List.drop_left' (four_length _)
 have t4:(pseal P).take 4=four P.length:=by
  unfold pseal;simp only [List.append_assoc];exact List.take_left' (four_length _)
 have d8:(pseal P).drop 8=four (csum P)++P:=by
  unfold pseal
  rw [show four P.length++four (csum (four P.length))++four (csum P)++P=(four P.length++four (csum (four P.length)))++(four (csum P)++P) by simp]
  exact List.drop_left' (by simp [four_length])
 have d12:(pseal P).drop 12=P:=by
  unfold pseal
  exact List.drop_left' (by simp [four_length])
 have h2:openOk (pseal P)=true:=by
  have he:endOk (pseal P)=true:=by
   unfold endOk
   rw [d4,t4,getFour_four _ hcl]
   simp [pseal_length]
  have ha:endAt (pseal P)=(pseal P).length:=by
   unfold endAt
   rw [if_pos he,pseal_length]
   unfold pseal
   simp only [List.append_assoc]
   rw [getFour_four _ hl]
  have hb:bodyOk (pseal P)=true:=by
   unfold bodyOk
   rw [d8,d12,getFour_four _ hcp]
   simp
  unfold openOk
  rw [he,ha,hb];simp
 refine ⟨h0,h1,h2,?_,?_⟩
 ·unfold hd;rw [h0,h1,d12]
 ·unfold rst;rw [h0];exact List.drop_left' (pseal_length P)
theorem hdP_split (B:List Nat) {k m:Nat} (h:k<m):∃ R,hdP B m=hdP B k++(four (stB (chk B k)).length++(four (csum (stB (chk B k)))++R)):=by
 induction m with
 | zero=>omega
 | succ m ih=>
   by_cases e:k=m
   ·subst e
    exact ⟨[],by rw [hdP_succ];simp⟩
   ·obtain ⟨R,hR⟩:=ih (by omega)
    exact ⟨R++(four (stB (chk B m)).length++four (csum (stB (chk B m)))),by rw [hdP_succ,hR];simp⟩
theorem bodP_split (B:List Nat) {k m:Nat} (h:k<m):∃ R,bodP B m=bodP B k++(stB (chk B k)++R):=by
 induction m with
 | zero=>omega
 | succ m ih=>
   by_cases e:k=m
   ·subst e
    exact ⟨[],by rw [bodP];simp⟩
   ·obtain ⟨R,hR⟩:=ih (by omega)
    exact ⟨R++stB (chk B m),by rw [bodP,hR];simp⟩
theorem hdP_four (B:List Nat) (m:Nat) (hn:B.length<4294967296):getFour (hdP B m)=B.length:=by
 unfold hdP;exact getFour_four _ hn _
theorem hdP_sl (B:List Nat) {k m:Nat} (h:k<m) (hn:B.length<4294967296):sl (hdP B m) k=(stB (chk B k)).length:=by
 obtain ⟨R,hR⟩:=hdP_split B h
 unfold sl
 rw [hR,List.drop_left' (hdP_length B k),getFour_four]
 have h1:=stB_le (chk B k)
 rw [chk_length] at h1
 omega
theorem hdP_sm (B:List Nat) {k m:Nat} (h:k<m) (hB:∀ x∈B,x<256):sm (hdP B m) k=csum (stB (chk B k)):=by
 obtain ⟨R,hR⟩:=hdP_split B h
 unfold sm
 rw [hR,show hdP B k++(four (stB (chk B k)).length++(four (csum (stB (chk B k)))++R))=(hdP B k++four (stB (chk B k)).length)++(four (csum (stB (chk B k)))++R) by simp,
  List.drop_left' (by rw [List.length_append,hdP_length,four_length];omega),getFour_four _ (csum_lt (stB_lt (chk_lt hB k)))]
theorem hdP_off (B:List Nat) {m:Nat} (hn:B.length<4294967296):∀ k,k≤m→off (hdP B m) k=(bodP B k).length
 | 0,_=>rfl
 | k+1,h=>by
   rw [off,hdP_off B hn k (by omega),hdP_sl B (by omega) hn,bodP,List.length_append]
theorem blk_pack (B:List Nat) (hB:∀ x∈B,x<256) (hn:B.length<4294967296) {k m:Nat} (h:k<m):blk (hdP B m) (bodP B m) k=((chk B k).length,stB (chk B k),csum (stB (chk B k))):=by
 obtain ⟨R,hR⟩:=bodP_split B h
 unfold blk
 rw [hdP_sl B h hn,hdP_sm B h hB,hdP_off B hn k (by omega),hR,List.drop_left' rfl,List.take_left' rfl,ln,hdP_four B m hn,chk_length]
theorem fits_pack (B:List Nat) (hn:B.length<4294967296) {k m:Nat} (h:k<m):fits (hdP B m) (bodP B m) k:=by
 obtain ⟨R,hR⟩:=bodP_split B h
 have h1:=stB_le (chk B k)
 rw [chk_length] at h1
 unfold fits
 rw [hdP_sl B h hn,hdP_off B hn k (by omega),ln,hdP_four B m hn,hR,List.length_append,List.length_append]
 omega
theorem cnt_mul (n:Nat):n≤1000*cnt n:=by unfold cnt;omega
def Holds (B:List Nat) (C:List Nat):Prop:=opOk C∧getFour (hd C)=B.length∧∀ k,k<cnt B.length→txB (blk (hd C) (rst C) k)=(true,chk B k)
theorem pack_parts (B:List Nat) (hl:B.length≤1000000000):hd (packP B)=hdP B (cnt B.length)∧rst (packP B)=bodP B (cnt B.length)∧e0 (packP B)=16+8*cnt B.length∧openOk ((packP B).take (e0 (packP B)))=true:=by
 obtain ⟨h0,h1,h2,h3,h4⟩:=open_seal (hdP B (cnt B.length)) (bodP B (cnt B.length)) (hdP_lt _ _) (by rw [hdP_length];unfold cnt;omega)
 refine ⟨h3,h4,?_,?_⟩
 ·unfold packP;rw [h0,hdP_length];omega
 ·unfold packP;rw [h0,h1];exact h2
theorem pack_holds (B:List Nat) (hB:∀ x∈B,x<256) (hl:B.length≤1000000000):Holds B (packP B):=by
 obtain ⟨h1,h2,h3,h4⟩:=pack_parts B hl
 unfold Holds opOk
 rw [h1,h2,hdP_four B _ (by omega)]
 refine ⟨⟨h4,⟨by rw [hdP_length];omega,by rw [hdP_four B _ (by omega),hdP_length]⟩,fun k hk=>fits_pack B (by omega) hk,hdP_off B (by omega) _ (Nat.le_refl _)⟩,rfl,fun k hk=>?_⟩
 rw [blk_pack B hB (by omega) hk]
 have:=chk_length B k
 exact tx_st (chk_lt hB k) (by omega)
end Go.Proofs.YtmjpnbadfmgimaaGreatDoor.S11

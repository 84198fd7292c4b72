/- Texts put together: EntP, EntQ, EntR. -/
import Derived.Test.YtmjpnbadfmgimaaGreatDoorFg6
import Derived.Test.YtmjpnbadfmgimaaGreatDoorFg7
import Derived.Test.YtmjpnbadfmgimaaGreatDoorFg12
import Derived.Test.YtmjpnbadfmgimaaGreatDoorFg14
import Derived.Test.YtmjpnbadfmgimaaGreatDoorFg29
set_option linter.unusedSimpArgs false
set_option linter.unusedVariables false
set_option maxRecDepth 100000
namespace Go.Proofs.YtmjpnbadfmgimaaGreatDoor.S10
open S5.Pl
theorem ans_dig_much (n:Nat) (R:List Int) (acc:List Nat) (p left:Nat) (h:left<n*2^p):ans (dig n++R) acc p left=(2,[]):=by
 induction n using Nat.strongRecOn generalizing acc p left with
 | ind n ih=>
   by_cases h0:n=0
   ·subst h0;simp at h
   ·rw [dig_pos (by omega),List.cons_append]
    have e:n=((1-((n%2:Nat):Int)).toNat+1)+2*((n-1)/2):=by omega
    have hm:n*2^p=((1-((n%2:Nat):Int)).toNat+1)*2^p+(n-1)/2*2^(p+1):=by
     conv=>lhs;rw [e]
     rw [Nat.add_mul,Nat.pow_succ,Nat.mul_comm 2 ((n-1)/2),Nat.mul_assoc,Nat.mul_comm 2 (2^p)]
    by_cases c:((1-((n%2:Nat):Int)).toNat+1)*2^p≤left
    ·rw [ans_digit _ _ _ (by omega) (by omega) c]
     exact ih ((n-1)/2) (by omega) _ _ _ (by omega)
    ·exact ans_much _ _ _ (by omega) (by omega) (by omega)
theorem ans_enc:∀ (M:List Nat) (r:Nat) (acc:List Nat) (left:Nat),(∀ x∈M,x<256)→ans (enc M r) acc 0 left=if r+M.length≤left then (0,acc++List.replicate r 0++M) else (2,[])
 | [],r,acc,left,_=>by
   rw [enc_nil]
   by_cases c:r≤left
   ·rw [if_pos (by simpa using c),ans_dig _ _ _ _ _ (by simpa using c),ans_end];simp
   ·rw [if_neg (by simpa using c),ans_dig_much _ _ _ _ _ (by simp;omega)]
 | x::M,r,acc,left,hx=>by
   have ih:=fun r acc left=>ans_enc M r acc left fun y hy=>hx y (by simp [hy])
   by_cases h0:x=0
   ·subst h0
    rw [enc_zero,ih]
    simp only [List.length_cons]
    by_cases c:r+1+M.length≤left
    ·rw [if_pos c,if_pos (by omega),List.replicate_succ'];simp
    ·rw [if_neg c,if_neg (by omega)]
   ·have hx256:=hx x (by simp)
    rw [enc_byte h0]
    simp only [List.length_cons]
    by_cases c:r≤left
    ·rw [ans_dig _ _ _ _ _ (by simpa using c)]
     simp only [Nat.pow_zero,Nat.mul_one]
     by_cases c2:left-r=0
     ·rw [c2,ans_full _ _ (by omega) (by omega),if_neg (by omega)]
     ·rw [ans_byte _ _ _ (by omega) (by omega) (by omega),ih]
      by_cases c3:0+M.length≤left-r-1
      ·rw [if_pos c3,if_pos (by omega)];simp
      ·rw [if_neg c3,if_neg (by omega)]
    ·rw [ans_dig_much _ _ _ _ _ (by simp;omega),if_neg (by omega)]
theorem dig_mem (n:Nat):∀ x∈dig n,0≤x∧x≤1:=by
 induction n using Nat.strongRecOn with
 | ind n ih=>
   by_cases h:n=0
   ·subst h;simp [dig_zero]
   ·rw [dig_pos (by omega)]
    intro x hx
    rcases List.mem_cons.1 hx with rfl | hx
    ·omega
    ·exact ih _ (by omega) x hx
theorem enc_sym:∀ (M:List Nat) (r:Nat),∃ T,enc M r=T++[257]∧∀ x∈T,(0≤x∧x≤1)∨∃ c∈M,c≠0∧x=(c:Int)+1
 | [],r=>⟨dig r,rfl,fun x hx=>.inl (dig_mem r x hx)⟩
 | y::M,r=>by
   by_cases h:y=0
   ·subst h
    obtain ⟨T,h1,h2⟩:=enc_sym M (r+1)
    refine ⟨T,by rw [enc_zero,h1],fun x hx=>?_⟩
    rcases h2 x hx with h | ⟨c,hc,h0,e⟩
    ·exact .inl h
    ·exact .inr ⟨c,by simp [hc],h0,e⟩
   ·obtain ⟨T,h1,h2⟩:=enc_sym M 0
    refine ⟨dig r++((y:Int)+1)::T,by rw [enc_byte h,h1];simp,fun x hx=>?_⟩
    rcases List.mem_append.1 hx with hx | hx
    ·exact .inl (dig_mem r x hx)
    ·rcases List.mem_cons.1 hx with rfl | hx
     ·exact .inr ⟨y,by simp,h,rfl⟩
     ·rcases h2 x hx with h | ⟨c,hc,h0,e⟩
      ·exact .inl h
      ·exact .inr ⟨c,by simp [hc],h0,e⟩
open S7.Pl
theorem rd_all {F:List Int} (hok:okL F) (en:Int) (R:List Bool):∀ (T:List Int) (mo:Nat) (P:List Bool) (acc:List Int),(∀ x∈T,x≠en)→(T++[en]).any (noCd F)=false→
  rdF F en mo (P++(codeBs F (T++[en])++R)) acc P.length=if mo<T.length+1 then ([],2,0) else (acc++(T++[en]),0,P.length+(codeBs F (T++[en])).length):=by
 have one:∀ (x:Int) (L:List Int) (P:List Bool),noCd F x=false→∃ m,(codeB F x).length=m∧stepL F ((P++(codeBs F (x::L)++R)).drop P.length)=some (x,m):=by
  intro x L P hx
  obtain ⟨j,rfl,hj,hj0⟩:=noCd_false hx
  have hin:=S7.Pl.getD_in hok.2.1 j
  obtain ⟨m,hm⟩:∃ m:Nat,F.getD j 0=m:=⟨(F.getD j 0).toNat,by omega⟩
  have hcb:codeB F (j:Int)=bitsOf (codeN F j) m:=by unfold codeB;rw [Int.toNat_natCast,hm,Int.toNat_natCast]
  refine ⟨m,by rw [hcb,bitsOf_length],?_⟩
  rw [List.drop_left]
  unfold codeBs
  rw [List.flatMap_cons,hcb,List.append_assoc]
  exact stepL_code hok.2.2 hj hm (by omega) (by omega) _
 intro T
 induction T with
 | nil=>
   intro mo P acc _ hno
   rw [List.nil_append,List.any_cons,Bool.or_eq_false_iff] at hno
   cases mo with
   | zero=>rw [if_pos (by simp)];rfl
   | succ mo=>
     obtain ⟨m,hm,hst⟩:=one en [] P hno.1
     rw [List.nil_append,rdF_end hst,if_neg (by simp)]
     simp [codeBs,hm]
 | cons x T ih=>
   intro mo P acc hne hno
   rw [List.cons_append,List.any_cons,Bool.or_eq_false_iff] at hno
   cases mo with
   | zero=>rw [if_pos (by simp)];rfl
   | succ mo=>
     obtain ⟨m,hm,hst⟩:=one x (T++[en]) P hno.1
     rw [List.cons_append,rdF_more hst (hne x (by simp))]
     have e1:P++(codeBs F (x::(T++[en]))++R)=(P++codeB F x)++(codeBs F (T++[en])++R):=by
      unfold codeBs
      rw [List.flatMap_cons]
      simp
     have e2:P.length+m=(P++codeB F x).length:=by rw [List.length_append,hm]
     rw [e1,e2,ih mo (P++codeB F x) (acc++[x]) (fun y hy=>hne y (by simp [hy])) hno.2]
     by_cases hlt:mo<T.length+1
     ·rw [if_pos hlt,if_pos (by simp;omega)]
     ·rw [if_neg hlt,if_neg (by simp;omega)]
      simp [codeBs,Nat.add_assoc]
open S6.Pl
theorem kr_cons (n:Int) (l:List Int) (k:Nat):kr (n::l) (k+1)=(if 1≤n∧n≤15 then 2^(15-n.toNat) else 0)+kr l k:=by
 induction k with
 | zero=>simp [kr]
 | succ k ih=>
   rw [kr,ih,kr]
   have e:(n::l).getD (k+1) 0=l.getD k 0:=by simp [List.getD]
   rw [e]
   omega
theorem kr_kraft:∀ L:List Int,((kr L L.length:Nat):Int)=kraftP L
 | []=>rfl
 | n::l=>by
   rw [List.length_cons,kr_cons,kraftP,← kr_kraft l]
   split
   ·have e:(15-n).toNat=15-n.toNat:=by omega
    rw [e]
    simp
   ·simp
theorem lens_ok {F L:List Int} {S:List S6.Coin} (h:LensOk F L S) (h3:F.length≤300):okL L:=by
 have hl:=h.len
 have hb:∀ x,x<F.length→0≤L.getD x 0∧L.getD x 0≤15:=fun x hx=>by
  by_cases h0:0<F.getD x 0
  ·have:=len_pos h h3 hx h0;omega
  ·rw [len_zero h hx h0];omega
 refine ⟨by omega,fun v hv=>?_,?_⟩
 ·obtain ⟨i,hi,rfl⟩:=List.mem_iff_getElem.1 hv
  have:=hb i (by omega)
  rwa [List.getD,List.getElem?_eq_getElem hi] at this
 ·have k1:=kraft_val h h3
  rw [kraftW_eq L 0 (by omega) (by omega),← kr_kraft] at k1
  split at k1
  ·omega
  ·split at k1 <;> omega
end Go.Proofs.YtmjpnbadfmgimaaGreatDoor.S10
namespace Go.Proofs.YtmjpnbadfmgimaaGreatDoor.S10
section
open S6 S6.Pl
def sngl (F:List Int):List Coin:=(coinsFrom 0 F).mergeSort fun a b=>decide (keyC a≤keyC b)
def lensF (F:List Int):List Int:=(List.range F.length).map fun x=>finLen (sngl F) x
theorem sngl_perm (F:List Int):(sngl F).Perm (coinsFrom 0 F):=List.mergeSort_perm _ _
theorem sngl_lex (F:List Int):LexK (sngl F):=by
 have h:=List.pairwise_mergeSort (le:=fun a b:Coin=>decide (keyC a≤keyC b)) (fun a b c h1 h2=>by simp at h1 h2 ⊢;omega) (fun a b=>by simp;omega) (coinsFrom 0 F)
 exact h.imp fun h=>by simpa using h
theorem lensF_lens {F:List Int} (hF:F.length≤1000000):LensOk F (lensF F) (sngl F):=by
 refine ⟨sngl_perm F,good_of (sngl_perm F) (asc_lex (sngl_perm F) hF (sngl_lex F)),by simp [lensF],fun x hx=>?_,sngl_lex F⟩
 simp [lensF,List.getD,hx]
theorem lensF_one {F L:List Int} {S:List Coin} (h:LensOk F L S) (hF:F.length≤1000000):L=lensF F:=h.one (lensF_lens hF) hF
theorem lensF_length (F:List Int):(lensF F).length=F.length:=by simp [lensF]
def frq (S:List Int):List Int:=(List.range 258).map fun (s:Nat)=>((S.count (s:Int):Nat):Int)
theorem frq_length (S:List Int):(frq S).length=258:=by simp [frq]
theorem frq_get (S:List Int) {i:Nat} (h:i<258):(frq S).getD i 0=((S.count (i:Int):Nat):Int):=by simp [frq,List.getD,h]
theorem frq_in (S:List Int):∀ v∈frq S,0≤v∧v≤S.length:=by
 intro v hv
 obtain ⟨s,_,rfl⟩:=List.mem_map.1 hv
 have:=List.count_le_length (a:=(s:Int)) (l:=S)
 omega
def lenS (S:List Int):List Int:=lensF (frq S)
theorem lenS_length (S:List Int):(lenS S).length=258:=by rw [lenS,lensF_length,frq_length]
theorem lenS_lens (S:List Int):LensOk (frq S) (lenS S) (sngl (frq S)):=lensF_lens (by rw [frq_length];omega)
theorem lenS_ok (S:List Int):S7.Pl.okL (lenS S):=lens_ok (lenS_lens S) (by rw [frq_length];omega)
theorem lenS_has {S:List Int} (h:∀ x∈S,0≤x∧x<258):S.any (S7.Pl.noCd (lenS S))=false:=by
 rw [List.any_eq_false]
 intro x hx
 have hr:=h x hx
 obtain ⟨i,rfl⟩:∃ i:Nat,x=i:=⟨x.toNat,by omega⟩
 have hc:0<S.count (i:Int):=List.count_pos_iff.2 hx
 have hp:=len_pos (lenS_lens S) (by rw [frq_length];omega) (x:=i) (by rw [frq_length];omega) (by rw [frq_get S (by omega)];omega)
 rw [S7.Pl.noCd_at (by rw [lenS_length];omega),decide_eq_true_eq]
 omega
end
section
open S7.Pl
def lolF:List Int:=(List.range 258).map fun (s:Nat)=>if s=257 then 5 else if s<14 then 4 else if s<17 then 5 else 0
theorem lol_ok:okL lolF:=by unfold okL inB;decide +kernel
theorem lol_length:lolF.length=258:=by simp [lolF]
theorem lol_get {i:Nat} (h:i<258):lolF.getD i 0=if i=257 then 5 else if i<14 then 4 else if i<17 then 5 else 0:=by simp [lolF,List.getD,h]
theorem lol_has {x:Int} (h:(0≤x∧x≤16)∨x=257):noCd lolF x=false:=by
 obtain ⟨i,rfl⟩:∃ i:Nat,x=i:=⟨x.toNat,by omega⟩
 rw [noCd_at (by rw [lol_length];omega),lol_get (by omega),decide_eq_false_iff_not]
 split
 ·decide
 ·split
  ·decide
  ·rw [if_pos (by omega)];decide
theorem lol_short (L:List Int):(codeBs lolF L).length≤5*L.length:=by
 induction L with
 | nil=>simp [codeBs]
 | cons x L ih=>
   have e:(codeB lolF x).length≤5:=by
    unfold codeB
    rw [bitsOf_length]
    by_cases h:x.toNat<258
    ·rw [lol_get h]
     repeat' split
     all_goals decide
    ·have:lolF.getD x.toNat 0=0:=by rw [List.getD,List.getElem?_eq_none (by rw [lol_length];omega)];rfl
     rw [this];decide
   have e2:codeBs lolF (x::L)=codeB lolF x++codeBs lolF L:=by simp [codeBs]
   rw [e2,List.length_append,List.length_cons]
   omega
def tabS (S:List Int):List Int:=S5.Pl.enc ((lenS S).map Int.toNat) 0
theorem tab_sym (S:List Int):∃ T,tabS S=T++[257]∧(∀ x∈T,0≤x∧x≤16):=by
 obtain ⟨T,h1,h2⟩:=enc_sym ((lenS S).map Int.toNat) 0
 refine ⟨T,h1,fun x hx=>?_⟩
 rcases h2 x hx with h | ⟨c,hc,h0,rfl⟩
 ·omega
 ·obtain ⟨v,hv,rfl⟩:=List.mem_map.1 hc
  have:=(lenS_ok S).2.1 v hv
  omega
theorem tab_has (S:List Int):(tabS S).any (noCd lolF)=false:=by
 obtain ⟨T,h1,h2⟩:=tab_sym S
 rw [h1,List.any_eq_false]
 intro x hx
 rw [lol_has]
 ·simp
 ·rcases List.mem_append.1 hx with hx | hx
  ·exact .inl (h2 x hx)
  ·simp at hx;exact .inr hx
theorem tab_length (S:List Int):(tabS S).length≤259:=by
 have:=S5.Pl.enc_length ((lenS S).map Int.toNat) 0
 rw [List.length_map,lenS_length] at this
 exact this
abbrev bl (n:Nat):Nat:=Lib.bitLen n
def bitsE (a:Nat) (S:List Int):List Bool:=bitsOf (bl a) 6++(bitsOf a (bl a)++(codeBs lolF (tabS S)++codeBs (lenS S) S))
def packE (a:Nat) (S:List Int):List Nat:=bytesOf (bitsE a S)
end
section
open S7.Pl
instance okLD (F:List Int):Decidable (okL F):=by unfold okL inB;infer_instance
def rdP (M:List Bool):Option (Nat×Nat):=if 6≤M.length∧6+val (M.take 6)≤M.length then some (val ((M.drop 6).take (val (M.take 6))),6+val (M.take 6)) else none
def rdL (M:List Bool):Option (List Int×Nat):=
 if (rdF lolF 257 259 M [] 0).2.1=0 then
  if (S5.Pl.ans (rdF lolF 257 259 M [] 0).1 [] 0 258).1=0 then some ((S5.Pl.ans (rdF lolF 257 259 M [] 0).1 [] 0 258).2.map fun (c:Nat)=>(c:Int),(rdF lolF 257 259 M [] 0).2.2) else none
 else none
def unP (B:List Nat) (most:Nat):Int×Nat×List Int:=
 match rdP (bitsB B) with
 | none=>(6,0,[])
 | some (a,p)=>match rdL ((bitsB B).drop p) with
   | none=>(6,0,[])
   | some (F,n)=>
     if okL F then
      let t:=rdF F 257 (min most (8*B.length-(p+n))+1) ((bitsB B).drop (p+n)) [] 0
      if t.2.1=2 then (2,0,[]) else if t.2.1≠0 then (6,0,[]) else if packE a t.1=B then (0,a,t.1) else (6,0,[])
     else (6,0,[])
def decF (B:List Nat) (most:Nat):Int×List Nat:=
 if (unP B most).1≠0 then ((unP B most).1,[]) else
  if (S5.Pl.ans (unP B most).2.2 [] 0 most).1≠0 then ((S5.Pl.ans (unP B most).2.2 [] 0 most).1,[]) else
   if (unP B most).2.1≤(S5.Pl.ans (unP B most).2.2 [] 0 most).2.length∧S8.Pl.okW (S4.Pl.dec (S5.Pl.ans (unP B most).2.2 [] 0 most).2) (unP B most).2.1=true then
    (0,S8.Pl.bk (S4.Pl.dec (S5.Pl.ans (unP B most).2.2 [] 0 most).2) (unP B most).2.1)
   else (6,[])
end
def encE (B R:List Nat):List Nat:=packE (S8.Pl.fwAt (B.length::R)) (S5.Pl.enc (S4.Pl.enc (S8.Pl.fwL B (B.length::R))) 0)
end Go.Proofs.YtmjpnbadfmgimaaGreatDoor.S10
namespace Go.Proofs.YtmjpnbadfmgimaaGreatDoor.S10
theorem bitLen_lt:∀ (f x:Nat),x<2^f→x<2^Lib.bitLenAux f x
 | 0,x,h=>by simpa [Lib.bitLenAux] using h
 | f+1,x,h=>by
   rw [Lib.bitLenAux]
   split
   ·omega
   ·have:=bitLen_lt f (x/2) (by rw [Nat.pow_succ] at h;omega)
    rw [Nat.add_comm,Nat.pow_succ];omega
theorem bitLen_le:∀ (f k x:Nat),x<2^k→Lib.bitLenAux f x≤k
 | 0,k,x,h=>by simp [Lib.bitLenAux]
 | f+1,k,x,h=>by
   rw [Lib.bitLenAux]
   split
   ·omega
   ·cases k with
    | zero=>simp at h;omega
    | succ k=>
      have:=bitLen_le f k (x/2) (by rw [Nat.pow_succ] at h;omega)
      omega
theorem bl_lt {a:Nat} (h:a<2^64):a<2^bl a:=bitLen_lt 64 a h
theorem bl_le {a k:Nat} (h:a<2^k):bl a≤k:=bitLen_le 64 k a h
section
open S7.Pl
theorem codeBs_ge {F:List Int} (hin:inB F):∀ L:List Int,L.any (noCd F)=false→L.length≤(codeBs F L).length
 | [],_=>by simp
 | x::L,h=>by
   rw [List.any_cons,Bool.or_eq_false_iff] at h
   have ih:=codeBs_ge hin L h.2
   obtain ⟨j,rfl,hj,h0⟩:=noCd_false h.1
   have e:codeBs F ((j:Int)::L)=codeB F (j:Int)++codeBs F L:=by simp [codeBs]
   have hg:=S7.Pl.getD_in hin j
   have e2:=codeB_length (F:=F) (i:=j) (n:=(F.getD j 0).toNat) (by omega)
   rw [e,List.length_append,e2,List.length_cons]
   omega
theorem lens_nat (S:List Int):((lenS S).map Int.toNat).map (fun (c:Nat)=>(c:Int))=lenS S:=by
 rw [List.map_map]
 conv=>rhs;rw [← List.map_id (lenS S)]
 refine List.map_congr_left fun v hv=>?_
 have:=(lenS_ok S).2.1 v hv
 simp only [Function.comp_apply,id]
 omega
theorem lens_nat_lt (S:List Int):∀ x∈(lenS S).map Int.toNat,x<256:=by
 intro x hx
 obtain ⟨v,hv,rfl⟩:=List.mem_map.1 hx
 have:=(lenS_ok S).2.1 v hv
 omega
theorem unP_write {a:Nat} {S T:List Int} (ha:a<2^63) (hS:S=T++[257]) (hT:∀ x∈T,0≤x∧x<257) (most:Nat):
  unP (packE a S) most=if most+1<S.length then (2,0,[]) else (0,a,S):=by
 have hb:bl a≤63:=bl_le ha
 have hsym:∀ x∈S,0≤x∧x<258:=by
  intro x hx
  rw [hS] at hx
  rcases List.mem_append.1 hx with hx | hx
  ·have:=hT x hx;omega
  ·simp at hx;omega
 have hno:=lenS_has hsym
 have hok:=lenS_ok S
 obtain ⟨Tt,ht1,ht2⟩:=tab_sym S
 have htn:=tab_has S
 have htl:=tab_length S
 obtain ⟨Z,hZ⟩:∃ Z,bitsB (packE a S)=bitsE a S++Z:=⟨_,bitsB_bytesOf _⟩
 have hM:bitsB (packE a S)=bitsOf (bl a) 6++(bitsOf a (bl a)++(codeBs lolF (tabS S)++(codeBs (lenS S) S++Z))):=by
  rw [hZ]
  unfold bitsE
  simp only [List.append_assoc]
 have hlen:8*(packE a S).length=6+bl a+(codeBs lolF (tabS S)).length+((codeBs (lenS S) S).length+Z.length):=by
  rw [← bitsB_length,hM]
  simp only [List.length_append,bitsOf_length]
  omega
 have hge:=codeBs_ge hok.2.1 S hno
 have d1:∀ X:List Bool,(bitsOf (bl a) 6++X).drop 6=X:=fun X=>List.drop_left' (bitsOf_length _ _)
 have t1:∀ X:List Bool,(bitsOf (bl a) 6++X).take 6=bitsOf (bl a) 6:=fun X=>List.take_left' (bitsOf_length _ _)
 have v1:val (bitsOf (bl a) 6)=bl a:=by rw [val_bitsOf];exact Nat.mod_eq_of_lt (by omega)
 have hP:rdP (bitsB (packE a S))=some (a,6+bl a):=by
  rw [hM]
  unfold rdP
  rw [t1,d1,v1,if_pos (by simp only [List.length_append,bitsOf_length];omega),List.take_left' (bitsOf_length _ _),val_bitsOf,Nat.mod_eq_of_lt (bl_lt (by omega))]
 have hD:(bitsB (packE a S)).drop (6+bl a)=codeBs lolF (tabS S)++(codeBs (lenS S) S++Z):=by
  rw [hM,← List.drop_drop,d1,List.drop_left' (bitsOf_length _ _)]
 have hD2:(bitsB (packE a S)).drop (6+bl a+(codeBs lolF (tabS S)).length)=codeBs (lenS S) S++Z:=by
  rw [← List.drop_drop,hD,List.drop_left]
 have hR:rdF lolF 257 259 (codeBs lolF (tabS S)++(codeBs (lenS S) S++Z)) [] 0=(tabS S,0,(codeBs lolF (tabS S)).length):=by
  have:=rd_all lol_ok 257 (codeBs (lenS S) S++Z) Tt 259 [] [] (fun x hx=>by have:=ht2 x hx;omega) (by rw [← ht1];exact htn)
  rw [← ht1,if_neg (by rw [ht1] at htl;simp at htl;omega)] at this
  simpa using this
 have hA:S5.Pl.ans (tabS S) [] 0 258=(0,(lenS S).map Int.toNat):=by
  unfold tabS
  rw [ans_enc _ _ _ _ (lens_nat_lt S),if_pos (by rw [List.length_map,lenS_length];omega)]
  simp
 have hL:rdL ((bitsB (packE a S)).drop (6+bl a))=some (lenS S,(codeBs lolF (tabS S)).length):=by
  rw [hD]
  unfold rdL
  rw [hR]
  simp only [hA,if_true,lens_nat]
 have hF:=rd_all hok 257 Z T (min most (8*(packE a S).length-(6+bl a+(codeBs lolF (tabS S)).length))+1) [] [] (fun x hx=>by have:=hT x hx;omega) (by rw [← hS];exact hno)
 rw [← hS] at hF
 simp only [List.nil_append,List.length_nil,Nat.zero_add] at hF
 unfold unP
 rw [hP]
 simp only
 rw [hL]
 simp only
 rw [if_pos hok,hD2,hF]
 have hSl:S.length=T.length+1:=by rw [hS];simp
 by_cases c:most+1<S.length
 ·have hlt:min most (8*(packE a S).length-(6+bl a+(codeBs lolF (tabS S)).length))+1<T.length+1:=by omega
  rw [if_pos c,if_pos hlt]
  simp
 ·have hlt:¬ min most (8*(packE a S).length-(6+bl a+(codeBs lolF (tabS S)).length))+1<T.length+1:=by omega
  rw [if_neg c,if_neg hlt]
  simp
end
theorem enc_syms {M:List Nat} (h:∀ x∈M,x<256):∃ T,S5.Pl.enc M 0=T++[257]∧∀ x∈T,0≤x∧x<257:=by
 obtain ⟨T,h1,h2⟩:=enc_sym M 0
 refine ⟨T,h1,fun x hx=>?_⟩
 rcases h2 x hx with h | ⟨c,hc,h0,rfl⟩
 ·omega
 ·have:=h c hc;omega
theorem getD_lt {B:List Nat} (h:∀ x∈B,x<256) (i:Nat):B.getD i 0<256:=by
 rw [List.getD]
 cases hq:B[i]? with
 | none=>simp
 | some z=>exact h z (List.mem_of_getElem? hq)
theorem fwL_lt {B:List Nat} (h:∀ x∈B,x<256) (O:List Nat):∀ x∈S8.Pl.fwL B O,x<256:=by
 intro x hx
 unfold S8.Pl.fwL at hx
 obtain ⟨o,_,rfl⟩:=List.mem_map.1 hx
 exact getD_lt h _
theorem dec_enc {B R:List Nat} (hR:S8.Pl.IsSA B R) (hB:∀ x∈B,x<256) (hn:B.length≤1000000) (most:Nat):
  decF (encE B R) most=if B.length≤most then (0,B) else (2,[]):=by
 obtain ⟨ha,hok,hbk⟩:=S8.Pl.fw_ok hR rfl rfl
 have hll:=S8.Pl.fw_length hR
 have hlt:=fwL_lt hB (B.length::R)
 unfold encE
 generalize S8.Pl.fwL B (B.length::R)=L at*
 generalize S8.Pl.fwAt (B.length::R)=a at*
 have hMl:=S4.Pl.enc_length L
 have hMx:=S4.Pl.enc_lt hlt
 have hde:=S4.Pl.dec_enc hlt
 generalize S4.Pl.enc L=M at*
 obtain ⟨T,hS,hT⟩:=enc_syms hMx
 have hSl:=S5.Pl.enc_length M 0
 have hans:=ans_enc M 0 [] most hMx
 have hU:=unP_write (a:=a) (by have:(1000000:Nat)<2^63:=by decide
                               omega) hS hT most
 generalize S5.Pl.enc M 0=S at*
 unfold decF
 rw [hU]
 by_cases c:most+1<S.length
 ·have k:¬ B.length≤most:=by omega
  rw [if_pos c,if_neg k]
  simp
 ·rw [if_neg c]
  simp only [ne_eq,not_true_eq_false,if_false]
  rw [hans]
  by_cases c2:B.length≤most
  ·have k:0+M.length≤most:=by omega
   have k2:a≤M.length:=by omega
   rw [if_pos k,if_pos c2]
   simp [hde,hok,hbk,k2]
  ·have k:¬ 0+M.length≤most:=by omega
   rw [if_neg k,if_neg c2]
   simp
section
open S6.Pl S7.Pl
theorem costP_inc:∀ (F L:List Int) (i:Nat),i<F.length→F.length=L.length→costP (F.set i (F.getD i 0+1)) L=costP F L+L.getD i 0
 | [],_,_,h,_=>by simp at h
 | _::_,[],_,_,h=>by simp at h
 | f::F,l::L,0,_,_=>by simp [costP,List.getD,Int.add_mul];omega
 | f::F,l::L,i+1,h,hl=>by
   have ih:=costP_inc F L i (by simpa using h) (by simpa using hl)
   have e1:(f::F).getD (i+1) 0=F.getD i 0:=by simp [List.getD]
   have e2:(l::L).getD (i+1) 0=L.getD i 0:=by simp [List.getD]
   rw [e1,e2,List.set_cons_succ,costP,ih,costP]
   omega
theorem costP_zero (n:Nat):∀ L:List Int,costP (List.replicate n 0) L=0:=by
 induction n with
 | zero=>intro L;simp [costP]
 | succ n ih=>
   intro L
   cases L with
   | nil=>simp [costP,List.replicate_succ]
   | cons l L=>rw [List.replicate_succ,costP,ih];omega
theorem frq_nil:frq []=List.replicate 258 0:=by decide +kernel
theorem frq_cons {x:Int} (S:List Int) (h:0≤x∧x<258):frq (x::S)=(frq S).set x.toNat ((frq S).getD x.toNat 0+1):=by
 apply List.ext_getElem
 ·simp [frq]
 ·intro i h1 h2
  have hi:i<258:=by rw [frq_length] at h1;exact h1
  have e:∀ (T:List Int) (hT:i<(frq T).length),(frq T)[i]'hT=((T.count (i:Int):Nat):Int):=fun T hT=>by simp [frq]
  rw [List.getElem_set]
  refine (e _ h1).trans ?_
  rw [List.count_cons]
  by_cases c:x.toNat=i
  ·rw [if_pos c,if_pos (by simp;omega),c,frq_get S hi]
   omega
  ·rw [if_neg c,if_neg (by simp;omega)]
   exact (e S _).symm
def sumL (L:List Int):List Int→Int
 | []=>0
 | x::S=>L.getD x.toNat 0+sumL L S
theorem costP_frq {L:List Int} (hL:L.length=258):∀ S:List Int,(∀ x∈S,0≤x∧x<258)→costP (frq S) L=sumL L S
 | [],_=>by rw [frq_nil,costP_zero];rfl
 | x::S,h=>by
   have hx:=h x (by simp)
   rw [frq_cons S hx,costP_inc _ _ _ (by rw [frq_length];omega) (by rw [frq_length,hL]),costP_frq hL S fun y hy=>h y (by simp [hy]),sumL]
   omega
theorem sumL_const {L:List Int} {c:Int} (h:∀ i,i<258→L.getD i 0=c):∀ S:List Int,(∀ x∈S,0≤x∧x<258)→sumL L S=c*S.length
 | [],_=>by simp [sumL]
 | x::S,hS=>by
   have hx:=hS x (by simp)
   rw [sumL,h _ (by omega),sumL_const h S fun y hy=>hS y (by simp [hy]),List.length_cons]
   rw [show ((S.length+1:Nat):Int)=(S.length:Int)+1 by omega,Int.mul_add]
   omega
theorem codeBs_sum {F:List Int} (hin:inB F):∀ L:List Int,(((codeBs F L).length:Nat):Int)=sumL F L
 | []=>rfl
 | x::L=>by
   have e:codeBs F (x::L)=codeB F x++codeBs F L:=by simp [codeBs]
   have hg:=S7.Pl.getD_in hin x.toNat
   have e2:(codeB F x).length=(F.getD x.toNat 0).toNat:=by unfold codeB;rw [bitsOf_length]
   rw [e,List.length_append,sumL,← codeBs_sum hin L,e2]
   omega
theorem cost_nine {S:List Int} (h:∀ x∈S,0≤x∧x<258):(codeBs (lenS S) S).length≤9*S.length:=by
 have hl:=lenS_lens S
 have h3:(frq S).length≤300:=by rw [frq_length];omega
 have hnn:∀ v∈frq S,0≤v:=fun v hv=>(frq_in S v hv).1
 have h1:costP (frq S) (lenS S)=sumL (lenS S) S:=costP_frq (lenS_length S) S h
 have h2:costP (frq S) (List.replicate 258 9)=9*S.length:=by
  rw [costP_frq (by simp) S h,sumL_const (c:=9) (fun i hi=>by simp only [List.getD,List.getElem?_replicate,hi,if_true,Option.getD_some]) S h]
 have O:=(optA hl.good (S_len hl h3)).perm hl.perm
 have hC:=coins_len 0 (frq S)
 have k1:=O.opt (fun _=>9) (fun _ _=>by decide) (by
  rw [sm_const]
  rw [frq_length] at hC
  have e:((2^(15-9):Nat):Int)=64:=by decide
  rw [e];omega)
 rw [← cost_of hl hnn,h1] at k1
 have k2:sm (fun s=>s.1*((9:Nat):Int)) (coinsFrom 0 (frq S))=costP (frq S) (List.replicate 258 9):=by
  rw [costP_coins (frq S) _ 0 hnn]
  refine sm_congr fun c hc=>?_
  have:=coins_mem (frq S) 0 c hc
  rw [frq_length] at this
  have e:(List.replicate 258 (9:Int)).getD (c.2.toNat-0) 0=9:=by
   have:c.2.toNat-0<258:=by omega
   simp only [List.getD,List.getElem?_replicate,this,if_true,Option.getD_some]
  rw [e];rfl
 rw [k2,h2,← codeBs_sum (lenS_ok S).2.1] at k1
 omega
theorem pack_len {a:Nat} {S:List Int} (ha:a≤1000000):(packE a S).length≤(6+20+1295+(codeBs (lenS S) S).length+7)/8:=by
 unfold packE
 rw [bytesOf_length]
 have h1:bl a≤20:=bl_le (by have:(1000000:Nat)<2^20:=by decide
                            omega)
 have h2:=lol_short (tabS S)
 have h3:=tab_length S
 unfold bitsE
 simp only [List.length_append,bitsOf_length]
 omega
end
theorem enc_size {B R:List Nat} (hR:S8.Pl.IsSA B R) (hB:∀ x∈B,x<256) (hn:B.length≤1000000):(encE B R).length≤B.length+B.length/8+400:=by
 obtain ⟨ha,_,_⟩:=S8.Pl.fw_ok hR rfl rfl
 have hll:=S8.Pl.fw_length hR
 have hlt:=fwL_lt hB (B.length::R)
 unfold encE
 generalize S8.Pl.fwL B (B.length::R)=L at*
 generalize S8.Pl.fwAt (B.length::R)=a at*
 have hMl:=S4.Pl.enc_length L
 have hMx:=S4.Pl.enc_lt hlt
 generalize S4.Pl.enc L=M at*
 obtain ⟨T,hS,hT⟩:=enc_syms hMx
 have hSl:=S5.Pl.enc_length M 0
 generalize S5.Pl.enc M 0=S at*
 have h9:=cost_nine (S:=S) (fun x hx=>by
  rw [hS] at hx
  rcases List.mem_append.1 hx with hx | hx
  ·have:=hT x hx;omega
  ·simp at hx;omega)
 have:=pack_len (a:=a) (S:=S) (by omega)
 omega
end Go.Proofs.YtmjpnbadfmgimaaGreatDoor.S10

/- Texts put together: ConL, ConB. -/
import Derived.Test.YtmjpnbadfmgimaaGreatDoorFg1
import Derived.Test.YtmjpnbadfmgimaaGreatDoorFg34
import Derived.Test.YtmjpnbadfmgimaaGreatDoorFg35
import Derived.OwnWalkIn
import Derived.ArgAppend
set_option linter.unusedSimpArgs false
set_option linter.unusedVariables false
set_option maxRecDepth 100000
set_option maxHeartbeats 32000000
namespace Go.Proofs.YtmjpnbadfmgimaaGreatDoor.S11
open Go.RowKit
def Near (w:World) (v v':Value):Prop:=∀ g,v'.ownBlock=some g→v.ownBlock=some g∨w.heap.size≤g
theorem run_append_near {w:World} (ty:TypeId) (base:Nat) (v:Value) (n:Nat) (A:List Nat) (hown:w.ownsRow base 5 1 v n (u8s A)) (src:Value) (B:List Nat) (hsrc:IsBytes w src B) (hb:n+B.length≤140737488355328) (h63:n+B.length≤maxLen) (hbase:base≤w.heap.size):
  ∃ v' w',(Builtin.append_ #[27,27] ty #[v,src]).run Tryz.prog w=.ok v' w'∧w'.ownsRow base 5 1 v' (n+B.length) (u8s (A++B))∧w.grownBy w' v.ownBlock∧Near w v v':=by
 obtain ⟨i0,hi,hz0,hz1,hz2⟩:=info_parts info5
 rw [u8s_append]
 obtain ⟨_,⟨rfl,rfl⟩ | ⟨ad,cap,rfl,h1,h2,hc⟩⟩:=hsrc
 ·have hr:=run_append_owned_none (P:=Tryz.prog) (w:=w) base 27 ty 5 i0 1 Tryz.underlying27 hi v n (u8s A) hown
  exact ⟨v,w,hr,by simpa [u8s] using hown,grownBy_refl _ _,fun g hg=>.inl hg⟩
 ·have hnl:(u8s B).length=B.length*1:=by rw [u8s_length,Nat.mul_one]
  rcases hown.2 with ⟨rfl,rfl⟩ | ⟨g,cp,cur,rfl,hbg,hg,hnc,hcm,hcs,htake⟩
  ·have hA:u8s A=[]:=List.eq_nil_of_length_eq_zero (by simpa using hown.1)
   obtain ⟨v',w',hr,r1,r2,_⟩:=run_append_own (P:=Tryz.prog) w w.heap.size 27 ty 5 i0 (.int .u8 0) 1 1 Tryz.underlying27 hi hz0 hz1 hz2 rfl (by decide) (.slice none 0 0) 0 [] (World.ownsRow_nil _ _ _ _) ad B.length cap (u8s B) hnl hc (u8s_one B) (by omega) (by omega) (Nat.le_refl _)
   rw [hA]
   exact ⟨v',w',hr,own_base r1 hbase,r2,fun g hg=>.inr ((r1.lt g hg).1)⟩
  ·by_cases hroom:n+B.length≤cp
   ·have hfit:n*i0.size+(u8s B).length≤cur.size:=by rw [hz1,hnl,hcs];omega
    have hr:=run_append_room (P:=Tryz.prog) w 27 ty 5 i0 Tryz.underlying27 hi g n cp cur hg ad B.length cap (u8s B) (by rw [hz1];exact hnl) hc (u8s_one B) hroom hfit
    obtain ⟨v',w',hr',r1,r2,_⟩:=run_append_own (P:=Tryz.prog) w base 27 ty 5 i0 (.int .u8 0) 1 1 Tryz.underlying27 hi hz0 hz1 hz2 rfl (by decide) (.slice (some ⟨g,0,none⟩) n cp) n (u8s A) hown ad B.length cap (u8s B) hnl hc (u8s_one B) h63 (by omega) hbase
    rw [hr] at hr'
    cases hr'
    exact ⟨_,_,hr,r1,r2,fun g' hg'=>.inl (by simpa [Value.ownBlock] using hg')⟩
   ·obtain ⟨v',w',hr,r1,r2⟩:=run_append_arg_grows (P:=Tryz.prog) (w:=w) 27 ty 5 i0 (.int .u8 0) 1 1 Tryz.underlying27 hi hz0 hz1 hz2 rfl (by decide) ⟨g,0,none⟩ n cp (u8s A) hown.1 (hown.cells (g:=g) rfl) ad B.length cap (u8s B) hnl hc (by omega) h63 (by omega)
    exact ⟨v',w',hr,own_base r1 hbase,⟨r2.os,r2.tape,r2.output,r2.size,fun k hk _=>r2.block k hk (by simp)⟩,fun g' hg'=>.inr ((r1.lt g' hg').1)⟩
theorem wp_append_near {w:World} {o:Oper} {a:Act} {K:Act→World→Prop} {Q:Exit→Act→World→Prop} (s x:Operand)
  (ho:o.op=.call { callee:=.builtin .append,args:=#[s,x],argTypes:=#[27,27] })
  (base:Nat) (v:Value) (n:Nat) (A:List Nat) (hs:a.eval s=v) (hown:w.ownsRow base 5 1 v n (u8s A)) (src:Value) (B:List Nat) (hx:a.eval x=src) (hsrc:IsBytes w src B)
  (hb:n+B.length≤4294967296) (hbase:base≤w.heap.size)
  (h:∀ v' w',w'.ownsRow base 5 1 v' (n+B.length) (u8s (A++B))→w.grownBy w' v.ownBlock→Near w v v'→K (a.put o.dst v') w'):o.wp Tryz.prog a w K Q:=by
 obtain ⟨v',w',hr,h2,h3,h4⟩:=run_append_near o.type base v n A hown src B hsrc (by omega) (by unfold maxLen;omega) hbase
 unfold Oper.wp execOp
 simp only [ho,resolve,invoke,builtin,Sem.run_bind,Sem.run_pure,Result.andThen_ok,List.map_toArray,List.map_cons,List.map_nil,hs,hx,hr]
 exact h v' w' h2 h3 h4
theorem wpListIn_append_near {F:Fence} {d:Nat} {w:World} {ops:Array Oper} {rest:List Oper} {o:Oper} {a:Act} {Q:Exit→Act→World→Prop} (hgd:o.guard=none) (s x:Operand)
  (ho:o.op=.call { callee:=.builtin .append,args:=#[s,x],argTypes:=#[27,27] })
  (base:Nat) (v:Value) (n:Nat) (A:List Nat) (hs:a.eval s=v) (hown:w.ownsRow base 5 1 v n (u8s A)) (src:Value) (B:List Nat) (hx:a.eval x=src) (hsrc:IsBytes w src B)
  (hb:n+B.length≤4294967296) (hbase:base≤w.heap.size)
  (h:∀ v' w',w'.ownsRow base 5 1 v' (n+B.length) (u8s (A++B))→w.grownBy w' v.ownBlock→Near w v v'→wpListIn F d Tryz.prog ops Q rest (a.put o.dst v') w'):wpListIn F d Tryz.prog ops Q (o::rest) a w:=by
 refine wpListIn_plain hgd fun K hK'=>?_
 obtain ⟨v',w',hrun,r1,r2,r3⟩:=run_append_near o.type base v n A hown src B hsrc (by omega) (by unfold maxLen;omega) hbase
 unfold Oper.wpIn
 refine ⟨?_,?_⟩
 ·simp [Oper.about,ho,resolve,Target.leads,Sem.run_pure]
 ·rw [Oper.semAt_plain F _ _ (by rw [ho];intro c hc';cases hc')]
  simp [execOp,ho,resolve,invoke,builtin,hs,hx,hrun,Result.andThen]
  exact hK' _ _ (h v' w' r1 r2 r3)
theorem own_kept {w w':World} {base n:Nat} {e:TypeId} {v u:Value} {xs:List Value} (h:w.ownsRow base e 1 v n xs) (hg:w.grownBy w' u.ownBlock) (hne:∀ g,v.ownBlock=some g→u.ownBlock≠some g):w'.ownsRow base e 1 v n xs:=
 h.kept hg (by
  cases hv:v.ownBlock with
  | none=>exact .inl rfl
  | some g=>exact .inr fun e=>hne g hv e.symm)
end Go.Proofs.YtmjpnbadfmgimaaGreatDoor.S11
namespace Go.Proofs.YtmjpnbadfmgimaaGreatDoor.S11
open Go.RowKit Pl S3 S3.Pl
def Reads (f:Nat→BkT) (a:Nat) (X:List Nat):Prop:=∀ i,i<X.length→(txB (f ((a+i)/1000))).1=true∧X.getD i 0=(txB (f ((a+i)/1000))).2.getD ((a+i)%1000) 0
theorem reads_nil (f:Nat→BkT) (a:Nat):Reads f a []:=by intro i hi;simp at hi
theorem reads_more {f:Nat→BkT} {a k r m:Nat} {X T:List Nat} (h:Reads f a X) (hat:a+X.length=1000*k+r) (hr:r<1000) (hm:m≤1000) (hmT:m≤T.length) (hok:(txB (f k)).1=true) (hT:T=(txB (f k)).2):Reads f a (X++(T.drop r).take (m-r)):=by
 intro i hi
 by_cases h1:i<X.length
 ·rw [List.getD_eq_getElem?_getD,List.getElem?_append_left h1,← List.getD_eq_getElem?_getD]
  exact h i h1
 ·have hl:((T.drop r).take (m-r)).length=m-r:=by rw [List.length_take,List.length_drop];omega
  rw [List.length_append,hl] at hi
  have e1:(a+i)/1000=k:=by omega
  have e2:(a+i)%1000=r+(i-X.length):=by omega
  rw [e1,e2]
  refine ⟨hok,?_⟩
  rw [List.getD_eq_getElem?_getD,List.getElem?_append_right (by omega),List.getElem?_take_of_lt (by omega),List.getElem?_drop,← List.getD_eq_getElem?_getD,hT]
def JoinPost (f:Nat→BkT) (a z:Nat) (w:World) (e:Ending) (w':World):Prop:=
 Below w.heap.size w w'∧((∃ sp cap X,e=.returned (.tuple #[.slice sp (z-a) cap,.int .i64 0])∧X.length=z-a∧IsBytes w' (.slice sp (z-a) cap) X∧Reads f a X)∨
  (e=.returned (.tuple #[.slice none 0 0,.int .i64 6])∧∃ k,a<z∧a/1000≤k∧k*1000<z∧(txB (f k)).1=false))
attribute [local go_sem ↓] sliceU8_eq minN_eq loadB_eq storeB_eq
theorem joined_any (v:Value) (n N a z:Nat) (f:Nat→BkT) (w:World) (hT:Tab w) (hv:IsBlks w v n f) (hn:n=cnt N) (hN:N≤1000000000) (hz:z≤N) (ha:a≤z) (hf:∀ k,k<n→(f k).1=min 1000 (N-1000*k)) (hs:∀ k,k<n→(f k).2.1.length≤1000):
  Calls Tryz.prog 59 #[v,.int .i64 a,.int .i64 z] w (JoinPost f a z w):=by
 obtain ⟨g,rfl,hg,hnm,hc⟩:=hv
 obtain ⟨i0,hi,hz0,hz1,hz2⟩:=info_parts info5
 have HI:=Lib.hid hi
 have HZ:=Lib.hid (And.intro hz0 (And.intro hz1 hz2))
 have HT:=Lib.hid hT
 have HC:=Lib.hid hc
 have HF:=Lib.hid hf
 have HS:=Lib.hid hs
 have HN:=Lib.hid hn
 clear hi hz0 hz1 hz2 hT hc hf hs hn
 have hza:(0:Int)≤(z:Int)-(a:Int):=by omega
 have eza:(z:Int)-(a:Int)=((z-a:Nat):Int):=by omega
 go_enter Tryz.func59,Tryz.ntmps59
 go_wp2_with (at_make;refine wpList_make_own _ rfl _ _ 27 rfl w.heap.size 5 i0 (.int .u8 0) 1 Tryz.underlying27 HI.out HZ.out.1 HZ.out.2.1 .i64 .i64 _ (z-a) rfl rfl (by omega) (by rw [HZ.out.2.2];omega) (by unfold maxLen;omega) (Nat.le_refl _) ?_;intro w1 hown hgr)
 have HO0:Hid (w1.ownsRow w.heap.size 5 1 (.slice (some ⟨w.heap.size,0,none⟩) 0 (z-a)) 0 (u8s [])):=Lib.hid hown
 have HB0:=Lib.hid ((Below.refl _ w).grown hgr (Nat.le_refl _) (by simp))
 clear hown hgr HI HZ hza eza
 go_loopw [8,9] (fun s8 s9 wr=>∃ (X:List Nat) (t l:Nat),s9=.int .i64 t∧a≤t∧t≤z∧l=t-a∧Hid (X.length=l)∧Hid (∀ x∈X,x<256)∧Hid (Reads f a X)∧Hid (wr.ownsRow w.heap.size 5 1 s8 l (u8s X))∧Hid (Below w.heap.size w wr)) (fun _ s9 _=>z-(intOf s9).toNat)
 case atStart=>exact ⟨[],a,0,rfl,Nat.le_refl _,ha,by omega,Lib.hid rfl,Lib.hid (by simp),Lib.hid (reads_nil _ _),HO0,HB0⟩
 case round=>
  obtain ⟨X,t,l,rfl,h1,h2,h3,HL,HX,HR,HO,HB⟩:=hrel
  clear HO0 HB0
  obtain ⟨sp,cp,rfl,hcp,hcm⟩:=ownsRow_slice HO.out
  have hsz:=HB.out.size
  by_cases hlt:t<z
  ·have hltz:(t:Int)<(z:Int):=by omega
   obtain ⟨k,r,hk,hr⟩:∃ k r,t=1000*k+r∧r<1000:=⟨t/1000,t%1000,by omega,by omega⟩
   have hkn:k<n:=by rw [HN.out];unfold cnt;omega
   have hkn':(k:Int)<(n:Int):=by omega
   obtain ⟨ba,bc,c0,c1,c2,hbi⟩:=HC.out k hkn
   have hF:=HF.out k hkn
   have hS:=HS.out k hkn
   obtain ⟨L,hLe⟩:∃ L,(f k).1=L:=⟨_,rfl⟩
   obtain ⟨q,hq⟩:∃ q,(f k).2.1.length=q:=⟨_,rfl⟩
   have ct:=fun W hTw hiw=>text_any (f k).1 (f k).2.2 (f k).2.1 ba bc W hTw hiw (by omega) (by omega)
   rw [show ((f k).1,(f k).2.1,(f k).2.2)=f k from rfl] at ct
   rw [hLe] at c0 hF ct
   rw [hq] at c1 hbi hS ct
   have CT:=Lib.hid ct
   have HT2:=Lib.hid (HT.out.below HB.out)
   have HBI:=Lib.hid (hbi.below HB.out)
   have hld:=run_loadB (w:=wr) (g:=g) (o:=k*3) ((HB.out.cell (p:=⟨g,k*3,none⟩) hg).trans c0) ((HB.out.cell (p:=⟨g,k*3+1,none⟩) hg).trans c1) ((HB.out.cell (p:=⟨g,k*3+2,none⟩) hg).trans c2)
   have hdv:(t:Int)/1000=(k:Int):=by omega
   have HLE:=Lib.hid hLe
   have HK:=Lib.hid hk
   have HFL:=Lib.hid hF
   have H3:=Lib.hid h3
   have hk1:1000*k≤t:=by omega
   have hk2:t<1000*k+1000:=by omega
   have ht9:t<1000000000:=by omega
   have hlw:l≤1000000000:=by omega
   clear c0 c1 c2 hbi ct hLe hq hk hF h3
   go_wp2_with fail
   refine (CT.out wr HT2.out HBI.out).mono ?_
   rintro e w2 ⟨hb2,sp2,cp2,T,rfl,hi2,hT2⟩
   have HB2:=Lib.hid (HB.out.trans (hb2.mono hsz))
   have HO2:=Lib.hid (own_below HO.out hb2)
   have hsz2:=HB2.out.size
   clear hb2 CT HT2 HBI hld HB HO hS HC HS HF
   by_cases hok:(txB (f k)).1=true
   ·have hTe:=hT2 hok
    have hTL:T.length=L:=by rw [hTe,tx_len hok];exact HLE.out
    have HTE:=Lib.hid hTe
    have HOK:=Lib.hid hok
    have HTL:=Lib.hid hTL
    rw [hok]
    rw [hTL] at hi2 ⊢
    have hL1000:L≤1000:=by rw [HFL.out];omega
    obtain ⟨m,hm⟩:∃ m,min (z-1000*k) L=m:=⟨_,rfl⟩
    have hrt:t=1000*k+r:=HK.out
    have hLN:L=min 1000 (N-1000*k):=HFL.out
    have hrm:r<m:=by omega
    have hmL:m≤L:=by omega
    have hzm:1000*k+m≤z:=by omega
    obtain ⟨p,hp⟩:∃ p,m-r=p:=⟨_,rfl⟩
    have hi2':IsBytes w2 (.slice sp2 T.length cp2) T:=by rw [hTL];exact hi2
    obtain ⟨a',c',hsl,hIP⟩:=run_between hi2' r p (by omega) (m:Nat) (by omega)
    rw [hTL] at hsl
    obtain ⟨P,hP⟩:∃ P,(T.drop r).take p=P:=⟨_,rfl⟩
    have hPl:P.length=p:=by rw [← hP,List.length_take,List.length_drop];omega
    rw [hP] at hIP
    have hRd:Reads f a (X++P):=by
     rw [← hP,← hp]
     exact reads_more HR.out (by rw [HL.out,H3.out];omega) hr (by omega) (by omega) hok hTe
    have hPx:=hIP.1
    have HRD:=Lib.hid hRd
    have HPL:=Lib.hid hPl
    have HIP:=Lib.hid hIP
    have e0:(t:Int)-(k:Int)*1000=(r:Int):=by omega
    have e1:(z:Int)-(k:Int)*1000=((z-1000*k:Nat):Int):=by omega
    have hmn:∀ ats ty (W:World),(minN ats ty (.int .i64 ((z-1000*k:Nat):Int)) (.int .i64 (L:Nat))).run Tryz.prog W=.ok (.int .i64 (m:Nat)) W:=fun ats ty W=>by
     rw [run_minN,show min ((z-1000*k:Nat):Int) (L:Nat)=(m:Nat) by omega]
    have htp:t+p=1000*k+m:=by omega
    have hp1:p≤1000:=by omega
    have hp0:0<p:=by omega
    have HTP:t+p≤z:=by omega
    have HXP:Hid (∀ x∈X++P,x<256):=Lib.hid fun x hx=>by
     rcases List.mem_append.1 hx with h | h
     ·exact HX.out x h
     ·exact hPx x h
    have hlen:Hid ((X++P).length=l+p):=Lib.hid (by rw [List.length_append,HL.out,hPl])
    have h3':l=t-a:=H3.out
    have hlp:Hid (l+p=t+p-a):=Lib.hid (by omega)
    clear hTe hok hi2 hi2' hTL hm hrt hLN hIP hP hPl hRd hPx hp htp h3' HR HX HTE HTL HOK HFL HLE
    have hsl':∀ W:World,(sliceU8 (.slice sp2 L cp2) (some (.int .i64 (r:Nat))) (some (.int .i64 (m:Nat))) none).run Tryz.prog W=.ok (.slice a' p c') W:=hsl
    clear hsl
    go_wp2_with (at_builtin;refine wpList_append_bytes rfl (.tmp 48) (.tmp 49) rfl w.heap.size _ l _ rfl HO2.out _ P rfl HIP.out (by rw [HPL.out];omega) hsz2 ?_;intro v' w3 hown hgr)
    have HO3:Hid (w3.ownsRow w.heap.size 5 1 v' (l+p) (u8s (X++P))):=Lib.hid (by rw [u8s_append,← HPL.out];exact hown)
    have HB3:=Lib.hid (HB2.out.grown hgr hsz2 (own_lt HO2.out))
    clear hown hgr HO2 HB2
    go_wp2
    go_roundw
    case rel=>exact ⟨X++P,t+p,l+p,by first | rfl | go_num,by omega,HTP,hlp.out,hlen,HXP,HRD,HO3,HB3⟩
    case measure=>simp [intOf];omega
   ·have hok':(txB (f k)).1=false:=by simpa using hok
    have HOK:=Lib.hid hok'
    rw [hok']
    clear hok hok' hT2
    go_wp2
    go_ret2
    exact ⟨HB2.out,.inr ⟨rfl,k,by omega,by omega,by omega,HOK.out⟩⟩
  ·obtain rfl:t=z:=by omega
   have hltz:¬ (t:Int)<(t:Int):=by omega
   have H3:=Lib.hid h3
   clear h3
   go_wp2
   go_ret2
   have h3:l=t-a:=H3.out
   subst h3
   exact ⟨HB.out,.inl ⟨sp,cp,X,rfl,HL.out,isBytes_ownS HX.out HL.out.symm (by rw [HL.out];exact HO.out),HR.out⟩⟩
end Go.Proofs.YtmjpnbadfmgimaaGreatDoor.S11

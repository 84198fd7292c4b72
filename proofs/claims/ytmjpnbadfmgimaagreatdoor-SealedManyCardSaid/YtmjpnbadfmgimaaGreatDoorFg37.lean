/- Texts put together: ConO. -/
import Derived.Test.YtmjpnbadfmgimaaGreatDoorFg34
import Derived.Test.YtmjpnbadfmgimaaGreatDoorFg35
set_option linter.unusedSimpArgs false
set_option linter.unusedVariables false
set_option maxRecDepth 100000
set_option maxHeartbeats 32000000
namespace Go.Proofs.YtmjpnbadfmgimaaGreatDoor.S11
open Go.RowKit Pl S3 S3.Pl
theorem put3_length {cs:List Value} {o:Nat} {x y z:Value} (h:o+3≤cs.length):(cs.take o++([x,y,z]:List Value)++cs.drop (o+3)).length=cs.length:=by simp;omega
theorem put3_low {cs:List Value} {o i:Nat} {x y z:Value} (h:o+3≤cs.length) (hi:i<o):(cs.take o++([x,y,z]:List Value)++cs.drop (o+3))[i]? = cs[i]? := by
 rw [List.append_assoc,List.getElem?_append_left (by simp;omega),List.getElem?_take_of_lt hi]
theorem put3_at {cs:List Value} {o j:Nat} {x y z:Value} (h:o+3≤cs.length) (hj:j<3):(cs.take o++([x,y,z]:List Value)++cs.drop (o+3))[o+j]? = ([x,y,z]:List Value)[j]? := by
 have hl:(cs.take o).length=o:=by simp;omega
 rw [List.append_assoc,List.getElem?_append_right (by omega),hl,Nat.add_sub_cancel_left,List.getElem?_append_left (by simpa using hj)]
def LaidB (f:Nat→BkT) (w:World) (cs:List Value) (k:Nat):Prop:=
 ∀ j,j<k→∃ a c,cs[j*3]? = some (.int .i64 ((f j).1:Nat))∧cs[j*3+1]? = some (.slice a (f j).2.1.length c)∧cs[j*3+2]? = some (.int .u32 ((f j).2.2:Nat))∧IsBytes w (.slice a (f j).2.1.length c) (f j).2.1
theorem laidB_next {f:Nat→BkT} {w:World} {cs:List Value} {k q c L s:Nat} {a:Option Addr} (h:LaidB f w cs k) (hl:k*3+3≤cs.length) (h1:(f k).1=L) (h2:(f k).2.1.length=q) (h3:(f k).2.2=s) (hi:IsBytes w (.slice a q c) (f k).2.1):
  LaidB f w (cs.take (k*3)++([.int .i64 (L:Nat),.slice a q c,.int .u32 (s:Nat)]:List Value)++cs.drop (k*3+3)) (k+1):=by
 intro j hj
 by_cases e:j=k
 ·subst e
  subst h1 h2 h3
  exact ⟨a,c,put3_at hl (j:=0) (by omega),put3_at hl (j:=1) (by omega),put3_at hl (j:=2) (by omega),hi⟩
 ·obtain ⟨a',c',c0,c1,c2,hb⟩:=h j (by omega)
  exact ⟨a',c',by rw [put3_low hl (by omega)];exact c0,by rw [put3_low hl (by omega)];exact c1,by rw [put3_low hl (by omega)];exact c2,hb⟩
theorem laidB_done {f:Nat→BkT} {w w':World} {cs:List Value} {g n:Nat} {t:TypeId} (h:LaidB f w cs n) (hb:Blk w' g t cs) (hw:Below w.heap.size w w') (hn:n≤maxLen):IsBlks w' (.slice (some ⟨g,0,none⟩) n n) n f:=by
 refine ⟨g,rfl,hb.lt,hn,fun k hk=>?_⟩
 obtain ⟨a,c,c0,c1,c2,hi⟩:=h k hk
 exact ⟨a,c,hb.cell c0,hb.cell c1,hb.cell c2,hi.below hw⟩
theorem infoBk:(Tryz.prog.info? 121).map (fun i=>(i.zero,i.size,i.bytes))=some (some (.agg #[.int .i64 0,.slice none 0 0,.int .u32 0]),3,40):=by kernel_rfl
theorem infoBk_parts {o:Option TypeInfo} (h:o.map (fun i=>(i.zero,i.size,i.bytes))=some (some (Value.agg #[.int .i64 0,.slice none 0 0,.int .u32 0]),3,40)):∃ i,o=some i∧i.zero=some (.agg #[.int .i64 0,.slice none 0 0,.int .u32 0])∧i.size=3∧i.bytes=40:=by
 cases o with
 | none=>simp at h
 | some i=>simp at h;exact ⟨i,rfl,h.1,h.2.1,h.2.2⟩
theorem made_blk3 {w:World} {base g n:Nat} {e:TypeId} {xs:List Value} (h:w.ownsRow base e 3 (.slice (some ⟨g,0,none⟩) n n) n xs):Blk w g e xs∧xs.length=n*3:=by
 obtain ⟨hl,h | ⟨g',cap,cur,hv,_,hh,hn,_,hs,ht⟩⟩:=h
 ·simp at h
 ·simp at hv
  obtain ⟨rfl,rfl⟩:=hv
  have:cur.toList=xs:=by rw [← ht,List.take_of_length_le (by simp [hs])]
  refine ⟨?_,hl⟩
  unfold Blk
  rw [hh,← this]
theorem open_ends {C:List Nat} (h:openOk (C.take (e0 C))=true):e0 C≤C.length:=by
 unfold openOk at h
 simp only [Bool.and_eq_true,beq_iff_eq] at h
 obtain ⟨⟨h1,h2⟩,_⟩:=h
 have h12:12≤(C.take (e0 C)).length:=by
  unfold endOk at h1
  simp at h1
  simp
  exact h1.1
 unfold endAt at h2
 rw [if_pos h1] at h2
 have hl:(C.take (e0 C)).length=min (e0 C) C.length:=List.length_take
 have hg:getFour (C.take (e0 C))=getFour C:=by
  unfold getFour
  have e4:∀ i,i<4→(C.take (e0 C)).getD i 0=C.getD i 0:=fun i hi=>by
   rw [List.getD_eq_getElem?_getD,List.getElem?_take_of_lt (by omega),← List.getD_eq_getElem?_getD]
  rw [if_neg (by omega),if_neg (by omega),e4 0 (by omega),e4 1 (by omega),e4 2 (by omega),e4 3 (by omega)]
 rw [hg] at h2
 have:e0 C=12+getFour C:=rfl
 omega
theorem hd_take (C:List Nat):(C.take (min (e0 C) C.length))=C.take (e0 C):=by
 by_cases h:e0 C≤C.length
 ·rw [Nat.min_eq_left h]
 ·rw [Nat.min_eq_right (by omega),List.take_of_length_le (Nat.le_refl _),List.take_of_length_le (by omega)]
def OpenedPost (C:List Nat) (w:World) (e:Ending) (w':World):Prop:=
 Below w.heap.size w w'∧((¬ opOk C∧∃ v s,e=.returned (.tuple #[v,.int .i64 s,.bool false]))∨
  (opOk C∧∃ v,e=.returned (.tuple #[v,.int .i64 (getFour (hd C):Nat),.bool true])∧IsBlks w' v (cnt (getFour (hd C))) (blk (hd C) (rst C))))
attribute [local go_sem ↓] sliceU8_eq minN_eq loadB_eq storeB_eq
theorem opened_any (v:Value) (C:List Nat) (w:World) (hT:Tab w) (hv:IsBytes w v C) (hl:C.length≤1000000):Calls Tryz.prog 58 #[v] w (OpenedPost C w):=by
 obtain ⟨N,hN⟩:∃ N,C.length=N:=⟨_,rfl⟩
 obtain ⟨va,vcap,rfl,hcap,hmax⟩:=hv.slice
 have hgl:=getFour_lt hv.1
 obtain ⟨E,hE⟩:∃ E,e0 C=E:=⟨_,rfl⟩
 obtain ⟨F,hF⟩:∃ F,getFour C=F:=⟨_,rfl⟩
 have hFE:E=12+F:=by rw [← hE,← hF];rfl
 obtain ⟨M,hM⟩:∃ M,min E N=M:=⟨_,rfl⟩
 obtain ⟨a1,c1,hs1,hi1⟩:=run_upto hv M (by omega)
 have hq:=getFour_quiet _ C w 0 hv
 have ht:C.take M=C.take (e0 C):=by rw [← hM,← hN,← hE];exact hd_take C
 rw [ht] at hi1
 rw [hF] at hgl hq
 rw [hN] at hcap hl hs1 hq ⊢
 have hfe:(12:Int)+(F:Int)=(E:Int):=by omega
 have hmn:∀ ats ty (W:World),(minN ats ty (.int .i64 (E:Nat)) (.int .i64 (N:Nat))).run Tryz.prog W=.ok (.int .i64 (M:Nat)) W:=fun ats ty W=>by
  rw [run_minN,show min (E:Int) (N:Int)=(M:Nat) by omega]
 have hs1':∀ W,(sliceU8 (.slice va N vcap) none (some (.int .i64 M)) none).run Tryz.prog W=.ok (.slice a1 M c1) W:=hs1
 have HV:=Lib.hid hv
 have HT:=Lib.hid hT
 have HI1:=Lib.hid hi1
 have HQ:=Lib.hid hq
 have HE:=Lib.hid hE
 have HN:=Lib.hid hN
 have HFE:=Lib.hid hFE
 have HM:=Lib.hid hM
 clear hv hT hi1 hs1 hq hE hN hFE hM hF ht
 go_enter Tryz.func58,Tryz.ntmps58
 go_wp2_with fail
 refine HQ.out.mono ?_
 rintro e w1 ⟨rfl,m1,rfl⟩
 have hE45:E<4294967308:=by rw [HFE.out];omega
 go_wp2_with fail
 refine (open_any _ (C.take (e0 C)) _ (HT.out.drew m1) (HI1.out.drew m1) (by rw [List.length_take,HN.out];omega)).mono ?_
 rintro e w2 ⟨v2,rfl,hb2,hi2⟩
 have HB2:=Lib.hid (Below.trans (bel_drewN (Below.refl w.heap.size w) m1) hb2)
 have HC2:=Lib.hid ((HV.out.drew m1).below hb2)
 have HV0:=Lib.hid HV.out.1
 clear hb2 HQ hs1' hmn HI1 HV HT
 by_cases hop:openOk (C.take (e0 C))=true
 rotate_left
 ·have hop':openOk (C.take (e0 C))=false:=by simpa using hop
  have HNO:Hid (¬ opOk C):=Lib.hid fun h=>hop h.1
  rw [hop'] at hi2 ⊢
  obtain ⟨a2,c2,rfl,_,_⟩:=hi2.slice
  clear hop hop' hi2
  go_wp2
  go_ret3
  exact ⟨HB2.out,.inl ⟨HNO.out,_,_,rfl⟩⟩
 have hend:=open_ends hop
 rw [HE.out,HN.out] at hend
 rw [hop] at hi2 ⊢
 rw [if_pos rfl] at hi2
 obtain ⟨H,hH⟩:∃ H,hd C=H:=⟨_,rfl⟩
 have hi2':IsBytes w2 v2 H:=by rw [← hH];exact hi2
 obtain ⟨a2,c2,rfl,hc2,hm2⟩:=hi2'.slice
 obtain ⟨h,hh⟩:∃ h,H.length=h:=⟨_,rfl⟩
 rw [hh] at hc2 ⊢
 have HH:=Lib.hid hH
 have Hh:=Lib.hid hh
 have HI2:=Lib.hid hi2'
 have HOP:=Lib.hid hop
 clear hop hi2 hi2' hH hh
 by_cases h4:h<4
 ·have HNO:Hid (¬ opOk C):=Lib.hid fun hh=>by have:=hh.2.1.1;rw [HH.out,Hh.out] at this;omega
  have h4z:(h:Int)<4:=by omega
  go_wp2
  go_ret3
  exact ⟨HB2.out,.inl ⟨HNO.out,_,_,rfl⟩⟩
 have h4z:¬ (h:Int)<4:=by omega
 obtain ⟨S,hS⟩:∃ S,getFour H=S:=⟨_,rfl⟩
 have hSl:=getFour_lt HI2.out.1
 have hqs:=getFour_quiet _ H w2 0 HI2.out
 obtain ⟨ar,cr,hsr,hir⟩:=run_from HI2.out 4 (by rw [Hh.out];omega)
 obtain ⟨at_,ct,hst,hit⟩:=run_from HC2.out E (by rw [HN.out];omega)
 obtain ⟨R,hR⟩:∃ R,rst C=R:=⟨_,rfl⟩
 have hR':C.drop E=R:=by rw [← hR,← HE.out];rfl
 rw [hR'] at hit
 obtain ⟨T,hT⟩:∃ T,R.length=T:=⟨_,rfl⟩
 have hTN:N-E=T:=by rw [← hT,← hR',List.length_drop,HN.out]
 rw [hS] at hSl hqs
 rw [Hh.out] at hsr hir hqs
 rw [HN.out,hTN] at hst hit
 have hqs':∀ q,Calls Tryz.prog 29 #[.slice a2 h c2] (w2.drewN q) fun e w''=>e=.returned (.int .u32 (S:Nat))∧∃ m,w''=w2.drewN m:=fun q=>by
  have:=getFour_quiet _ H w2 q HI2.out
  rw [hS,Hh.out] at this
  exact this
 have HQS:=Lib.hid hqs'
 have HIR:=Lib.hid hir
 have HIT:=Lib.hid hit
 have HR:=Lib.hid hR
 have HTT:=Lib.hid hT
 have HSS:=Lib.hid hS
 obtain ⟨rl,hrl⟩:∃ rl,h-4=rl:=⟨_,rfl⟩
 rw [hrl] at HIR
 have hsr':∀ W,(sliceU8 (.slice a2 h c2) (some (.int .i64 4)) none none).run Tryz.prog W=.ok (.slice ar rl cr) W:=by rw [← hrl];exact hsr
 have hst':∀ W,(sliceU8 (.slice va N vcap) (some (.int .i64 (E:Nat))) none none).run Tryz.prog W=.ok (.slice at_ T ct) W:=hst
 have hTle:T≤1000000:=by omega
 have hrle:h≤1000000:=by rw [← Hh.out,← HH.out];unfold hd;rw [List.length_drop,List.length_take,HN.out];omega
 have Hrl:=Lib.hid hrl
 clear hqs hqs' hir hit hR hR' hT hTN hS hsr hst hrl
 go_wp2_with fail
 go_quiet (first | (go_at_call 29;refine HQS.out _))
 obtain ⟨w3,hw3⟩:∃ w3,w2.drewN nq=w3:=⟨_,rfl⟩
 have HB3:Hid (Below w.heap.size w w3):=Lib.hid (by rw [← hw3];exact bel_drewN HB2.out nq)
 have HR3:Hid (IsBytes w3 (.slice ar rl cr) (H.drop 4)):=Lib.hid (by rw [← hw3];exact HIR.out.drew nq)
 have HT3:Hid (IsBytes w3 (.slice at_ T ct) R):=Lib.hid (by rw [← hw3];exact HIT.out.drew nq)
 rw [hw3]
 clear hw3 HB2 HC2 HI2 HIR HIT HQS hsr' hst'
 obtain ⟨n,hn⟩:∃ n,cnt S=n:=⟨_,rfl⟩
 have hcn:((S:Int)+1000-1)/1000=(n:Int):=by rw [← hn];unfold cnt;omega
 have hn9:n≤4294968:=by rw [← hn];unfold cnt;omega
 have HNn:=Lib.hid hn
 clear hn
 by_cases hrn:rl=n*8
 rotate_left
 ·have HNO:Hid (¬ opOk C):=Lib.hid fun hh=>by
   have:=hh.2.1.2;rw [HH.out,Hh.out,HSS.out,HNn.out] at this
   have h2:=Hrl.out
   omega
  have hne:((rl:Int) != (n:Int)*8)=true:=bne_t (by omega)
  clear hrn
  go_wp2
  go_ret3
  exact ⟨HB3.out,.inl ⟨HNO.out,_,_,rfl⟩⟩
 have hne:((rl:Int) != (n:Int)*8)=false:=bne_f (by omega)
 have HRN:=Lib.hid hrn
 have hnle:n≤125000:=by have:=Hrl.out;omega
 have HDO:Hid (hdOk H):=Lib.hid (by
  unfold hdOk
  rw [Hh.out,HSS.out,HNn.out]
  have:=Hrl.out
  omega)
 clear hrn
 obtain ⟨i0,hi,hz0,hz1,hz2⟩:=infoBk_parts infoBk
 have HI:=Lib.hid hi
 have HZ:=Lib.hid (And.intro hz0 (And.intro hz1 hz2))
 clear hi hz0 hz1 hz2
 go_wp2_with (at_make;refine wpList_make_full _ rfl _ _ 91 rfl w3.heap.size 121 i0 (.agg #[.int .i64 0,.slice none 0 0,.int .u32 0]) 3 Tryz.underlying91 HI.out HZ.out.1 HZ.out.2.1 .i64 .i64 _ _ n rfl rfl hcn hcn (by rw [HZ.out.2.2];omega) (by unfold maxLen;omega) (Nat.le_refl _) ?_;intro w4 hown hgr)
 obtain ⟨hk4,hl4⟩:=made_blk3 hown
 have hb4:Below w3.heap.size w3 w4:=(Below.refl _ _).grown hgr (Nat.le_refl _) (by simp)
 obtain ⟨cs0,hcs0⟩:∃ cs0,(madeCells (Value.agg #[.int .i64 0,.slice none 0 0,.int .u32 0]).cells (n*3)).toList=cs0:=⟨_,rfl⟩
 rw [hcs0] at hk4 hl4
 have HK4:=Lib.hid hk4
 have HL4:=Lib.hid hl4
 have HB4:=Lib.hid hb4
 clear hown hgr hk4 hl4 hb4 hcs0 HI HZ
 go_loopw [10,59] (fun s10 s59 wr=>∃ (k:Nat) (cs:List Value) (a:Option Addr) (tl c:Nat),s59=.int .i64 k∧k≤n∧s10=.slice a tl c∧Hid (tl=T-off H k)∧Hid (off H k≤T)∧Hid (IsBytes w3 (.slice a tl c) (R.drop (off H k)))∧Hid (∀ j,j<k→fits H R j)∧Hid (LaidB (blk H R) w3 cs k)∧Hid (cs.length=n*3)∧Hid (Blk wr w3.heap.size 121 cs)∧Hid (Below w3.heap.size w3 wr)) (fun _ s59 _=>n-(intOf s59).toNat)
 case atStart=>exact ⟨0,cs0,at_,T,ct,rfl,Nat.zero_le _,rfl,Lib.hid rfl,Lib.hid (Nat.zero_le _),Lib.hid (by simpa [off] using HT3.out),Lib.hid (by intro j hj;omega),Lib.hid (by intro j hj;omega),HL4,HK4,HB4⟩
 case round=>
  obtain ⟨k,cs,ta,tl,tc,rfl,hkn,rfl,HTL,HOF,HTA,HFI,HLA,HCL,HBK,HBW⟩:=hrel
  clear HK4 HL4 HB4 HT3
  have hsz:=HBW.out.size
  by_cases hlt:k<n
  ·have hltz:(k:Int)<(n:Int):=by omega
   have hkn':(k:Int)<(n:Int):=by omega
   have hkS:1000*k<S:=by have:=HNn.out;unfold cnt at this;omega
   obtain ⟨L,hL⟩:∃ L,ln H k=L:=⟨_,rfl⟩
   have hL':L=min 1000 (S-1000*k):=by rw [← hL];unfold ln;rw [HSS.out]
   have e1:(S:Int)-(k:Int)*1000=((S-1000*k:Nat):Int):=by omega
   have hmn1:∀ ats ty (W:World),(minN ats ty (.int .i64 1000) (.int .i64 ((S-1000*k:Nat):Int))).run Tryz.prog W=.ok (.int .i64 (L:Nat)) W:=fun ats ty W=>by
    rw [run_minN,show min (1000:Int) ((S-1000*k:Nat):Int)=(L:Nat) by omega]
   have hd4:(H.drop 4).length=rl:=by rw [List.length_drop,Hh.out];exact Hrl.out
   have hrn8:rl=n*8:=HRN.out
   obtain ⟨aw,cw,hsw,hiw⟩:=run_from HR3.out (k*8) (by rw [hd4];omega)
   obtain ⟨rw_,hrw⟩:∃ rw_,rl-k*8=rw_:=⟨_,rfl⟩
   rw [hd4,hrw,List.drop_drop] at hiw
   rw [hd4,hrw] at hsw
   have hlw:(H.drop (4+k*8)).length=rw_:=by rw [List.length_drop,Hh.out];have:=Hrl.out;omega
   obtain ⟨ax,cx,hsx,hix⟩:=run_from hiw 4 (by rw [hlw];omega)
   rw [hlw,List.drop_drop] at hix
   rw [hlw] at hsx
   obtain ⟨rx,hrx⟩:∃ rx,rw_-4=rx:=⟨_,rfl⟩
   rw [hrx] at hix hsx
   have hsw':∀ W,(sliceU8 (.slice ar rl cr) (some (.int .i64 ((k:Int)*8))) none none).run Tryz.prog W=.ok (.slice aw rw_ cw) W:=fun W=>by rw [show (k:Int)*8=((k*8:Nat):Int) by omega];exact hsw W
   have hsx':∀ W,(sliceU8 (.slice aw rw_ cw) (some (.int .i64 4)) none none).run Tryz.prog W=.ok (.slice ax rx cx) W:=hsx
   obtain ⟨q,hq⟩:∃ q,sl H k=q:=⟨_,rfl⟩
   have hq':getFour (H.drop (4+k*8))=q:=by rw [← hq];unfold sl;rw [Nat.mul_comm 8 k]
   have hs':getFour (H.drop (4+k*8+4))=sm H k:=by unfold sm;congr 2;omega
   have hkr:(k:Int)*8≤(rl:Int):=by omega
   have hk0:(0:Int)≤(k:Int)*8:=by omega
   have hq4:q<4294967296:=by rw [← hq'];exact getFour_lt hiw.1
   have HRW:=Lib.hid hiw
   have HRW4:=Lib.hid hix
   have HQ':=Lib.hid hq'
   have HQ:=Lib.hid hq
   have HS':=Lib.hid hs'
   have HL:=Lib.hid hL
   have HL':=Lib.hid hL'
   have hL1000:L≤1000:=by omega
   obtain ⟨mm,hmm⟩:∃ mm,min L tl=mm:=⟨_,rfl⟩
   have hmn2:∀ ats ty (W:World),(minN ats ty (.int .i64 (L:Nat)) (.int .i64 (tl:Nat))).run Tryz.prog W=.ok (.int .i64 (mm:Nat)) W:=fun ats ty W=>by
    rw [run_minN,show min (L:Int) (tl:Int)=(mm:Nat) by omega]
   have HMM:=Lib.hid hmm
   clear hiw hix hsw hsx hq hq' hs' hL hL' hmm hd4 hrn8 hrw hlw hrx
   go_wp2_with fail
   refine (getFour_any _ _ _ (HRW.out.below HBW.out)).mono ?_
   rintro e w5 ⟨rfl,m5,hw5⟩
   have HBK5:Hid (Blk w5 w3.heap.size 121 cs):=Lib.hid (by rw [← hw5];exact HBK.out.drewN m5)
   have HBW5:Hid (Below w3.heap.size w3 w5):=Lib.hid (by rw [← hw5];exact bel_drewN HBW.out m5)
   rw [HQ'.out]
   clear hw5 HBK HBW
   by_cases hfit:q≤mm
   rotate_left
   ·have HNO:Hid (¬ opOk C):=Lib.hid fun hh=>by
     have:=hh.2.2.1 k (by rw [HH.out,HSS.out,HNn.out];exact hlt)
     rw [HH.out,HR.out] at this
     unfold fits at this
     rw [HQ.out,HL.out,HTT.out] at this
     have h1:=HMM.out
     have h2:=HTL.out
     omega
    have hqz:(mm:Int)<(q:Int):=by omega
    clear hfit
    go_wp2
    go_ret3
    exact ⟨HB3.out.trans (HBW5.out.mono HB3.out.size),.inl ⟨HNO.out,_,_,rfl⟩⟩
   have hqz:¬ (mm:Int)<(q:Int):=by omega
   have hqL:q≤L:=by have:=HMM.out;omega
   have hqt:q≤tl:=by have:=HMM.out;omega
   have hRl:(R.drop (off H k)).length=tl:=by rw [List.length_drop,HTT.out];exact HTL.out.symm
   obtain ⟨ba,bc,hsb,hib⟩:=run_upto HTA.out q (by rw [hRl];exact hqt)
   obtain ⟨na,nc,hsn,hin⟩:=run_from HTA.out q (by rw [hRl];exact hqt)
   rw [hRl] at hin hsn
   rw [List.drop_drop] at hin
   have hsb':∀ W,(sliceU8 (.slice ta tl tc) none (some (.int .i64 (q:Nat))) none).run Tryz.prog W=.ok (.slice ba q bc) W:=hsb
   have hsn':∀ W,(sliceU8 (.slice ta tl tc) (some (.int .i64 (q:Nat))) none none).run Tryz.prog W=.ok (.slice na (tl-q) nc) W:=hsn
   have HIB:=Lib.hid hib
   have HIN:=Lib.hid hin
   have HBL:Hid (((R.drop (off H k)).take q).length=q):=Lib.hid (by rw [List.length_take,hRl];omega)
   have HFT:Hid (fits H R k):=Lib.hid (by
    unfold fits
    rw [HQ.out,HL.out,HTT.out]
    have:=HTL.out
    have:=HOF.out
    omega)
   clear hib hin hsb hsn hRl hfit hmn1 hsw'
   go_wp2_with fail
   clear hmn2
   have hHeld:From w3 w5.drew:=HBW5.out.drew
   have HBK6:=HBK5
   refine wp_region_noPanic ?_
   refine wpAnyH_start (n:=12) (l:=#[false,false,false,false,false,false,false,false,false,false,false,false]) (S:=From w3) (by kernel_rfl) (hHeld) (by kernel_rfl) (by kernel_rfl) ?_
   refine wpAnyH_take (i:=0) (oi:=_) (v:=?_) rfl (by kernel_rfl) (by kernel_rfl) (by kernel_rfl) (fun _ _ _ h=>h) (Or.inl ⟨by rfl,?_⟩) (by assumption) ?_
   rotate_left
   ·intro wq hSw;go_simp;try with_reducible rfl
   simp only [Act.put,List.setIfInBounds_toArray,List.set_cons_zero,List.set_cons_succ,List.getElem_toArray,List.getElem_cons_zero,List.getElem_cons_succ]
   refine wpAnyH_take (i:=1) (oi:=_) (v:=?_) rfl (by kernel_rfl) (by kernel_rfl) (by kernel_rfl) (fun _ _ _ h=>h) (Or.inl ⟨by rfl,?_⟩) (by assumption) ?_
   rotate_left
   ·intro wq hSw;go_simp;try with_reducible rfl
   simp only [Act.put,List.setIfInBounds_toArray,List.set_cons_zero,List.set_cons_succ,List.getElem_toArray,List.getElem_cons_zero,List.getElem_cons_succ]
   refine wpAnyH_take (i:=2) (oi:=_) (v:=?_) rfl (by kernel_rfl) (by kernel_rfl) (by kernel_rfl) (fun _ _ _ h=>h) (Or.inl ⟨by rfl,?_⟩) (by assumption) ?_
   rotate_left
   ·intro wq hSw;go_simp;try with_reducible rfl
   simp only [Act.put,List.setIfInBounds_toArray,List.set_cons_zero,List.set_cons_succ,List.getElem_toArray,List.getElem_cons_zero,List.getElem_cons_succ]
   refine wpAnyH_take (i:=3) (oi:=_) (v:=?_) rfl (by kernel_rfl) (by kernel_rfl) (by kernel_rfl) (fun _ _ _ h=>h) (Or.inl ⟨by rfl,?_⟩) (by assumption) ?_
   rotate_left
   ·intro wq hSw;go_simp;try with_reducible rfl
   simp only [Act.put,List.setIfInBounds_toArray,List.set_cons_zero,List.set_cons_succ,List.getElem_toArray,List.getElem_cons_zero,List.getElem_cons_succ]
   refine wpAnyH_take (i:=4) (oi:=_) (v:=?_) rfl (by kernel_rfl) (by kernel_rfl) (by kernel_rfl) (fun _ _ _ h=>h) (Or.inl ⟨by rfl,?_⟩) (by assumption) ?_
   rotate_left
   ·intro wq hSw;go_simp;try with_reducible rfl
   simp only [Act.put,List.setIfInBounds_toArray,List.set_cons_zero,List.set_cons_succ,List.getElem_toArray,List.getElem_cons_zero,List.getElem_cons_succ]
   refine wpAnyH_take (i:=5) (oi:=_) (v:=?_) rfl (by kernel_rfl) (by kernel_rfl) (by kernel_rfl) (fun _ _ _ h=>h) (Or.inl ⟨by rfl,?_⟩) (by assumption) ?_
   rotate_left
   ·intro wq hSw;go_simp;try with_reducible rfl
   simp only [Act.put,List.setIfInBounds_toArray,List.set_cons_zero,List.set_cons_succ,List.getElem_toArray,List.getElem_cons_zero,List.getElem_cons_succ]
   refine wpAnyH_take (i:=6) (oi:=_) (v:=?_) rfl (by kernel_rfl) (by kernel_rfl) (by kernel_rfl) (fun _ _ _ h=>h) (Or.inl ⟨by rfl,?_⟩) (by assumption) ?_
   rotate_left
   ·intro wq hSw;go_simp;try with_reducible rfl
   simp only [Act.put,List.setIfInBounds_toArray,List.set_cons_zero,List.set_cons_succ,List.getElem_toArray,List.getElem_cons_zero,List.getElem_cons_succ]
   refine wpAnyH_take (i:=7) (oi:=_) (v:=?_) rfl (by kernel_rfl) (by kernel_rfl) (by kernel_rfl) (fun _ _ _ h=>h) (Or.inl ⟨by rfl,?_⟩) (by assumption) ?_
   rotate_left
   ·intro wq hSw;go_simp;try with_reducible rfl
   simp only [Act.put,List.setIfInBounds_toArray,List.set_cons_zero,List.set_cons_succ,List.getElem_toArray,List.getElem_cons_zero,List.getElem_cons_succ]
   refine wpAnyH_ready (rs:=[8]) (by kernel_rfl) (by simp) ?_
   refine AllReadyH.cons (o:=_) rfl (fun K hK=>?_) AllReadyH.nil
   simp only [List.getElem_toArray,List.getElem_cons_zero,List.getElem_cons_succ]
   go_simp
   refine (getFour_any _ _ _ (HRW4.out.below hHeld)).mono ?_;rintro e w7 ⟨rfl,qd,hw7⟩;have hE7:From w3 w7:=by rw [← hw7];exact bel_drewN hHeld qd
   refine hK.out _ _ (hE7) (fun _=>?_)
   clear hK K hHeld
   refine wpAnyH_mono (S':=From w3) (fun w' h=>h) ?_
   have hHeld:=hE7
   have HBK7:Hid (Blk w7 w3.heap.size 121 cs):=Lib.hid (by rw [← hw7];exact (HBK6.out.drew).drewN qd)
   clear hw7
   simp only [Act.put,List.setIfInBounds_toArray,List.set_cons_zero,List.set_cons_succ,List.getElem_toArray,List.getElem_cons_zero,List.getElem_cons_succ]
   refine wpAnyH_take (i:=9) (oi:=_) (v:=?_) rfl (by kernel_rfl) (by kernel_rfl) (by kernel_rfl) (fun _ _ _ h=>h) (Or.inl ⟨by rfl,?_⟩) (by assumption) ?_
   rotate_left
   ·intro wq hSw;go_simp;try with_reducible rfl
   simp only [Act.put,List.setIfInBounds_toArray,List.set_cons_zero,List.set_cons_succ,List.getElem_toArray,List.getElem_cons_zero,List.getElem_cons_succ]
   refine wpAnyH_take (i:=10) (oi:=_) (v:=?_) rfl (by kernel_rfl) (by kernel_rfl) (by kernel_rfl) (fun _ _ _ h=>h) (Or.inl ⟨by rfl,?_⟩) (by assumption) ?_
   rotate_left
   ·intro wq hSw;go_simp;try with_reducible rfl
   simp only [Act.put,List.setIfInBounds_toArray,List.set_cons_zero,List.set_cons_succ,List.getElem_toArray,List.getElem_cons_zero,List.getElem_cons_succ]
   refine wpAnyH_ready (rs:=[11]) (by kernel_rfl) (by simp) ?_
   refine AllReadyH.cons (o:=_) rfl (fun K hK=>?_) AllReadyH.nil
   simp only [List.getElem_toArray,List.getElem_cons_zero,List.getElem_cons_succ]
   have hstr:=run_storeB (a:=ba) (c:=bc) (m:=q) (n:=(L:Nat)) (s:=(getFour (H.drop (4+k*8+4)):Nat)) HBK7.out (o:=k*3) (by rw [HCL.out];omega)
   have hkl:k*3+3≤cs.length:=by rw [HCL.out];omega
   have hla:=laidB_next (k:=k) (L:=L) (q:=q) (s:=getFour (H.drop (4+k*8+4))) (a:=ba) (c:=bc) HLA.out hkl HL.out (by show ((R.drop (off H k)).take (sl H k)).length=q;rw [HQ.out];exact HBL.out) (by rw [HS'.out];rfl) (by show IsBytes w3 _ ((R.drop (off H k)).take (sl H k));rw [HQ.out];exact HIB.out)
   have hcl8:=put3_length (x:=.int .i64 (L:Nat)) (y:=.slice ba q bc) (z:=.int .u32 (getFour (H.drop (4+k*8+4)):Nat)) hkl
   have hbk8:=HBK7.out.setRow (cs.take (k*3)++([.int .i64 (L:Nat),.slice ba q bc,.int .u32 (getFour (H.drop (4+k*8+4)):Nat)]:List Value)++cs.drop (k*3+3))
   have hbw8:=below_setRow hE7 (Nat.le_refl _) (cs.take (k*3)++([.int .i64 (L:Nat),.slice ba q bc,.int .u32 (getFour (H.drop (4+k*8+4)):Nat)]:List Value)++cs.drop (k*3+3)).toArray
   generalize (cs.take (k*3)++([.int .i64 (L:Nat),.slice ba q bc,.int .u32 (getFour (H.drop (4+k*8+4)):Nat)]:List Value)++cs.drop (k*3+3))=cs8 at*
   go_simp
   generalize w7.setRow w3.heap.size cs8.toArray=w8 at*
   refine hK.out _ _ hbw8 (fun _=>?_)
   clear hK K
   simp only [Act.put,List.setIfInBounds_toArray,List.set_cons_zero,List.set_cons_succ,List.getElem_toArray,List.getElem_cons_zero,List.getElem_cons_succ]
   refine wpAnyH_done (by kernel_rfl) ?_ _
   refine NoPanic.normal ?_
   have HLA8:=Lib.hid hla
   have HCL8:Hid (cs8.length=n*3):=Lib.hid (hcl8.trans HCL.out)
   have HBK8:=Lib.hid hbk8
   have HBW8:=Lib.hid hbw8
   have HTL8:Hid (tl-q=T-off H (k+1)):=Lib.hid (by rw [off,HQ.out];have:=HTL.out;omega)
   have HOF8:Hid (off H (k+1)≤T):=Lib.hid (by rw [off,HQ.out];have:=HTL.out;have:=HOF.out;omega)
   have HTA8:Hid (IsBytes w3 (.slice na (tl-q) nc) (R.drop (off H (k+1)))):=Lib.hid (by rw [off,HQ.out];exact HIN.out)
   have HFI8:Hid (∀ j,j<k+1→fits H R j):=Lib.hid fun j hj=>by
    by_cases e:j=k
    ·subst e;exact HFT.out
    ·exact HFI.out j (by omega)
   clear hla hcl8 hbk8 hbw8 hkl hstr HBK5 HBK6 HBK7 HBW5 hHeld hE7 HLA HCL HIB HIN HBL HFT HTA HOF HTL HFI HRW HRW4 hsb' hsx'
   go_wp2
   go_roundw
   case rel=>exact ⟨k+1,cs8,na,tl-q,nc,by first | rfl | go_num,by omega,rfl,HTL8,HOF8,HTA8,HFI8,HLA8,HCL8,HBK8,HBW8⟩
   case measure=>simp [intOf];omega
  ·obtain rfl:k=n:=by omega
   have hltz:¬ (k:Int)<(k:Int):=by omega
   by_cases h0:tl=0
   ·have HYES:Hid (opOk C):=Lib.hid (by
     refine ⟨HOP.out,by rw [HH.out];exact HDO.out,fun j hj=>?_,?_⟩
     ·rw [HH.out,HSS.out,HNn.out] at hj
      rw [HH.out,HR.out]
      exact HFI.out j hj
     ·rw [HH.out,HSS.out,HNn.out,HR.out,HTT.out]
      have:=HTL.out
      have:=HOF.out
      omega)
    subst h0
    clear HTL HTA HFI
    go_wp2
    go_ret3
    refine ⟨HB3.out.trans (HBW.out.mono HB3.out.size),.inr ⟨HYES.out,.slice (some ⟨w3.heap.size,0,none⟩) k k,?_,?_⟩⟩
    ·rw [HH.out,HSS.out];rfl
    ·rw [HH.out,HSS.out,HNn.out,HR.out]
     exact laidB_done HLA.out HBK.out HBW.out (by unfold maxLen;omega)
   ·have HNO:Hid (¬ opOk C):=Lib.hid fun hh=>by
     have:=hh.2.2.2
     rw [HH.out,HSS.out,HNn.out,HR.out,HTT.out] at this
     have:=HTL.out
     omega
    have h0z:((tl:Int)==0)=false:=beq_f (by omega)
    clear h0
    go_wp2
    go_ret3
    exact ⟨HB3.out.trans (HBW.out.mono HB3.out.size),.inl ⟨HNO.out,.slice (some ⟨w3.heap.size,0,none⟩) k k,(S:Nat),rfl⟩⟩
end Go.Proofs.YtmjpnbadfmgimaaGreatDoor.S11

/- Texts put together: SufLi. -/
import Derived.Test.YtmjpnbadfmgimaaGreatDoorFg18
import Derived.Test.YtmjpnbadfmgimaaGreatDoorFg20
set_option linter.unusedSimpArgs false
set_option linter.unusedVariables false
set_option maxRecDepth 100000
set_option maxHeartbeats 32000000
namespace Go.Proofs.YtmjpnbadfmgimaaGreatDoor.Pl
end Go.Proofs.YtmjpnbadfmgimaaGreatDoor.Pl
namespace Go.Proofs.YtmjpnbadfmgimaaGreatDoor.S8.Pl
end Go.Proofs.YtmjpnbadfmgimaaGreatDoor.S8.Pl
namespace Go.Proofs.YtmjpnbadfmgimaaGreatDoor.S8
open Go.RowKit _root_.Go.Proofs.YtmjpnbadfmgimaaGreatDoor.Pl _root_.Go.Proofs.YtmjpnbadfmgimaaGreatDoor.S8.Pl
def IndPost_i (T C:List Nat) (w:World) (e:Ending) (w':World):Prop:=
 ∃ (g:Nat) (O:List Int),e=.returned (.slice (some ⟨g,0,none⟩) T.length T.length)∧w.heap.size≤g∧OwnI w' g T.length T.length O∧O.length=T.length∧(∀ i,i<T.length→O.getD (pos T C i) 0=(i:Int))∧Below w.heap.size w w'
structure IndInv_i (T C:List Nat) (K B N m g h cap2 rb sb ox ex:Nat) (lv cv:Value) (w:World) (k:Nat) (W:World):Prop where
 rows:∃ O E:List Int,IInv T C K (m-k) O E∧OwnI W g N N O∧OwnI W h K cap2 E
 txt:TxI W B T K lv rb sb
 cuts:IsInts W cv (nI C)
 bx:Blk W w.heap.size 171 [lv,.slice (some ⟨rb,0,none⟩) N N,.slice (some ⟨sb,0,none⟩) (K+1) (K+1)]
 ox:Blk W ox 88 [.slice (some ⟨g,0,none⟩) N N]
 exx:Blk W ex 88 [.slice (some ⟨h,0,none⟩) K cap2]
 sx:Blk W (ex+1) 88 [cv]
 bel:Below w.heap.size w W
theorem indInv_own_i {T C:List Nat} {K B N m g h cap2 rb sb ox ex:Nat} {lv cv:Value} {w:World} (hB:B≤w.heap.size) (hg:g<ex) (ho:ox<ex) (he:w.heap.size≤ex) (hh:h<ex) (hcv:∀ a n c,cv=.slice (some a) n c→0<(nI C).length→a.block<w.heap.size):OwnFrom (ex+2) (IndInv_i T C K B N m g h cap2 rb sb ox ex lv cv w):=by
 intro k W W' row hs hgr hr
 have hlt:=hs.sx.lt
 have hb:Below (ex+2) W W':=below_of_grown hgr (fun r e=>(hr r e).1) (by omega)
 obtain ⟨O,E,h1,h2,h3⟩:=hs.rows
 exact ⟨⟨O,E,h1,h2.belowB hb (by omega),h3.belowB hb (by omega)⟩,hs.txt.belowB hb (by omega),isInts_belowB hs.cuts hb (fun a n c e h0=>by have:=hcv a n c e h0;omega),hs.bx.below hb (by omega),hs.ox.below hb (by omega),hs.exx.below hb (by omega),hs.sx.below hb (by omega),Below.trans hs.bel (Below.mono hb (by omega))⟩
attribute [local go_sem] Oper.semAt_some
attribute [local go_sem ↓] sliceI_eq loadU_eq
theorem induced_i (T C:List Nat) (K B rb sb:Nat) (lv cv:Value) (w:World) (hC:IsCuts T C) (hCm:C.length≤1000000) (ht:TxI w B T K lv rb sb) (hK0:0<K) (hcv:IsInts w cv (nI C)):
  Calls Tryz.prog 118 #[txV lv rb T.length sb (K+1),cv] w (IndPost_i T C w):=by
 have hrb:=ht.rb
 have hsb:=ht.sb
 have hlen:=ht.len
 have hlenK:=ht.lenK
 have htop:=ht.top
 obtain ⟨la,lcap,rfl,hlc⟩:=ht.ltr.at
 have hcvb:∀ a n c,cv=.slice (some a) n c→0<(nI C).length→a.block<w.heap.size:=fun a n c e h0=>by
  obtain ⟨b,off,cp,e2,_,_,hb,_⟩:=hcv.cells h0
  rw [e] at e2
  simp at e2
  rw [e2.1];exact hb
 obtain ⟨ca,ccap,hcve,hcc,hccm⟩:=hcv.slice
 rw [nI_length] at hcve hcc
 obtain ⟨m,hm⟩:∃ m,C.length=m:=⟨_,rfl⟩
 have hcvc:0<m→∃ b off,ca=some ⟨b,off,none⟩∧b<w.heap.size∧∀ W,IsInts W cv (nI C)→∀ i,i<m→W.cell? ⟨b,off+i,none⟩=some (.int .i64 (C.getD i 0:Nat)):=fun h0=>by
  obtain ⟨b,off,cp,e2,_,_,hb,_⟩:=hcv.cells (by rw [nI_length];omega)
  rw [hcve] at e2
  simp at e2
  refine ⟨b,off,e2.1,hb,fun W hW i hi=>?_⟩
  obtain ⟨b',off',cp',e3,_,_,_,hx⟩:=hW.cells (by rw [nI_length];omega)
  rw [hcve] at e3
  simp at e3
  have e4:=e2.1.symm.trans e3.1
  simp at e4
  obtain ⟨rfl,rfl⟩:=e4
  rw [hx i (by rw [nI_length];omega),nI_get]
 rw [hm] at hCm hcve hcc
 subst hcve
 obtain ⟨N,hN⟩:∃ N,T.length=N:=⟨_,rfl⟩
 have HN:=Lib.hid hN
 have HM:=Lib.hid hm
 rw [hN] at hlen ⊢
 obtain ⟨wa,hwa⟩:∃ wa,(w.alloc (.cells #[.slice la N lcap,.slice (some ⟨rb,0,none⟩) N N,.slice (some ⟨sb,0,none⟩) (K+1) (K+1)] 171)).alloc (.cells #[.int .i64 (-1)] 3)=wa:=⟨_,rfl⟩
 have hba:Below w.heap.size w wa:=by rw [← hwa];exact ((Below.refl _ _).alloc (Nat.le_refl _) _).alloc (by simp) _
 have hsza:wa.heap.size=w.heap.size+2:=by rw [← hwa];simp
 have hba0:Blk wa w.heap.size 171 [.slice la N lcap,.slice (some ⟨rb,0,none⟩) N N,.slice (some ⟨sb,0,none⟩) (K+1) (K+1)]:=by rw [← hwa];exact (Blk.new w _ _).alloc _
 have hba1:Blk wa (w.heap.size+1) 3 [.int .i64 (-1)]:=by
  rw [← hwa]
  have:=Blk.new (w.alloc (.cells #[.slice la N lcap,.slice (some ⟨rb,0,none⟩) N N,.slice (some ⟨sb,0,none⟩) (K+1) (K+1)] 171)) 3 [.int .i64 (-1)]
  rw [World.size_alloc] at this
  exact this
 have hrep:=repeat_any (-1) (w.heap.size+1) N wa hba1 hlen
 have HT:=Lib.hid ht
 have HC:=Lib.hid hC
 have HCV:=Lib.hid hcv
 have HCVB:=Lib.hid hcvb
 have HCVC:=Lib.hid hcvc
 have HBA:=Lib.hid hba
 have HBA0:=Lib.hid hba0
 unfold txV
 clear ht hC hcv hcvb hcvc hba hba0 hba1 hN hm hlc
 refine (callsIn_wide (n:=4)).1 ?_
 refine callsIn_of_wp_marks Tryz.func118 rfl trivial ?_ rfl
 simp only [Tryz.ntmps118,List.size_toArray,List.length_cons,List.length_nil,Nat.reduceAdd,Nat.reduceSub,Array.replicate_succ,Array.replicate_zero,List.push_toArray,List.append_toArray,List.nil_append,List.cons_append]
 have cl0:wa.cell? ⟨w.heap.size,0,none⟩=some (.slice la N lcap):=HBA0.out.cell (o:=0) rfl
 gi_wp2_with fail
 refine ⟨trivial,?_⟩
 refine ((callsIn_wide (n:=3)).2 hrep).mono ?_
 rintro e w1 ⟨rfl,hO,hb1⟩
 clear hrep cl0 hwa
 obtain ⟨g,hg⟩:∃ g,wa.heap.size=g:=⟨_,rfl⟩
 rw [hg] at hO hb1 ⊢
 have hsz1:=hb1.size
 have hgw1:=hO.lt
 obtain ⟨wb,hwb⟩:∃ wb,w1.alloc (.cells #[.slice (some ⟨g,0,none⟩) N N] 88)=wb:=⟨_,rfl⟩
 have hszb:wb.heap.size=w1.heap.size+1:=by rw [← hwb];simp
 have hbb:Below w1.heap.size w1 wb:=by rw [← hwb];exact (Below.refl _ _).alloc (Nat.le_refl _) _
 have hoxb:Blk wb w1.heap.size 88 [.slice (some ⟨g,0,none⟩) N N]:=by rw [← hwb];exact Blk.new w1 _ _
 have hbab:Below g wa wb:=Below.trans hb1 (Below.mono hbb (by omega))
 have hbwb:Below w.heap.size w wb:=Below.trans HBA.out (Below.mono hbab (by omega))
 have hbxb:=HBA0.out.below hbab (by omega)
 have hOb:=hO.belowB hbb hgw1
 have hTb:=HT.out.belowB hbwb htop
 have hst:=(blk_ownI hTb.sts (stsL_length T K) (by unfold maxLen;omega)).ints
 have hs1:∀ W:World,(sliceI (.slice (some ⟨sb,0,none⟩) (K+1) (K+1)) (some (.int .i64 1)) none none).run Tryz.prog W=.ok (.slice (some ⟨sb,1,none⟩) (K+1-1) (K+1-1)) W:=fun W=>run_fromB (g:=sb) (n:=K+1) (cap:=K+1) 1 (by omega) (by omega) (Nat.le_refl _) W
 have hdrop:IsInts wb (.slice (some ⟨sb,1,none⟩) (K+1-1) (K+1-1)) ((stsL T K).drop 1):=by
  obtain ⟨a1,r1,r2⟩:=run_fromI hst (stsL_length T K) (by omega) 1 (by omega)
  have e:=r1 wb
  have e3:=hs1 wb
  have e:=e.symm.trans e3
  simp at e
  subst e
  refine .inr ⟨⟨sb,1,none⟩,_,by rw [List.length_drop,stsL_length],by rw [List.length_drop,stsL_length];omega,by unfold maxLen;omega,r2⟩
 have hcl:=cloneI_any _ _ wb hdrop (by rw [List.length_drop,stsL_length];omega)
 have hdl:((stsL T K).drop 1).length=K:=by rw [List.length_drop,stsL_length];omega
 have hdg:∀ l,l<K→((stsL T K).drop 1).getD l 0=(bst T (l+1):Int):=fun l hl=>by
  have:=stsL_get T K (l+1) (by omega)
  rw [← this]
  simp only [List.getD_eq_getElem?_getD,List.getElem?_drop]
  rw [Nat.add_comm]
 have hKK:K+1-1=K:=by omega
 rw [hKK] at hcl hs1
 have HDL:=Lib.hid hdl
 have HDG:=Lib.hid hdg
 have c2:wb.cell? ⟨w.heap.size,2,none⟩=some (.slice (some ⟨sb,0,none⟩) (K+1) (K+1)):=hbxb.cell (o:=2) rfl
 have HOB:=Lib.hid hOb
 have HBXB:=Lib.hid hbxb
 have HOXB:=Lib.hid hoxb
 have HBWB:=Lib.hid hbwb
 clear hO hb1 hbb hoxb hbab hbwb hbxb hOb hTb hst hdrop hdl hdg hKK
 generalize (stsL T K).drop 1=E0 at*
 gi_wp2_with fail
 refine ⟨trivial,?_⟩
 refine ((callsIn_wide (n:=3)).2 hcl).mono ?_
 rintro e w2 ⟨v',rfl,hown,hb2⟩
 clear hcl hwb
 rw [HDL.out] at hown
 obtain ⟨h,cap2,rfl,hbase,hS⟩:=ownI_of hown hK0
 have hsz2:=hb2.size
 have hhl:=hS.lt
 obtain ⟨wc,hwc⟩:∃ wc,w2.alloc (.cells #[.slice (some ⟨h,0,none⟩) K cap2] 88)=wc:=⟨_,rfl⟩
 have hszc:wc.heap.size=w2.heap.size+1:=by rw [← hwc];simp
 have hbc:Below w2.heap.size w2 wc:=by rw [← hwc];exact (Below.refl _ _).alloc (Nat.le_refl _) _
 have hexc:Blk wc w2.heap.size 88 [.slice (some ⟨h,0,none⟩) K cap2]:=by rw [← hwc];exact Blk.new w2 _ _
 have hbbc:Below wb.heap.size wb wc:=Below.trans hb2 (Below.mono hbc (by omega))
 have HBBC:=Lib.hid hbbc
 have HEXC:=Lib.hid hexc
 have HSC:=Lib.hid (hS.belowB hbc hhl)
 clear hown hS hb2 hbc hexc hbbc c2 hs1
 gi_wp2_with fail
 refine ⟨trivial,?_⟩
 refine (backwardI_any Fence.wide _ trivial rfl _ _ _ _).mono ?_
 rintro e w' ⟨rfl,rfl⟩
 obtain ⟨W0,hW0⟩:∃ W0,wc.alloc (.cells #[.slice ca m ccap] 88)=W0:=⟨_,rfl⟩
 have hsz0:W0.heap.size=w2.heap.size+2:=by rw [← hW0];simp [hszc]
 have hb0:Below wc.heap.size wc W0:=by rw [← hW0];exact (Below.refl _ _).alloc (Nat.le_refl _) _
 have hb0b:Below wb.heap.size wb W0:=Below.trans HBBC.out (Below.mono hb0 (by omega))
 have hbw:Below w.heap.size w W0:=Below.trans HBWB.out (Below.mono hb0b (by omega))
 have hinv0:IndInv_i T C K B N m g h cap2 rb sb w1.heap.size w2.heap.size (.slice la N lcap) (.slice ca m ccap) w 0 W0:=by
  refine ⟨⟨List.replicate N (-1),E0,?_,?_,?_⟩,?_,?_,?_,?_,?_,?_,hbw⟩
  ·rw [Nat.sub_zero,← HM.out]
   exact cuts_start HC.out (by rw [List.length_replicate,HN.out]) HDL.out HDG.out (fun p hp=>by rw [HN.out] at hp;simp [List.getD,hp])
  ·exact HOB.out.belowB hb0b (by omega)
  ·exact HSC.out.belowB hb0 (by omega)
  ·rw [← HN.out];exact HT.out.belowB hbw htop
  ·exact isInts_belowB HCV.out hbw HCVB.out
  ·exact HBXB.out.below hb0b (by omega)
  ·exact HOXB.out.below hb0b (by omega)
  ·exact HEXC.out.below hb0 (by omega)
  ·rw [← hW0,← hszc];exact Blk.new wc _ _
 have HI0:=Lib.hid hinv0
 clear hinv0 hb0 hb0b hbw
 rw [hW0]
 clear hW0 hwc
 have howf:=indInv_own_i (T:=T) (C:=C) (K:=K) (B:=B) (N:=N) (m:=m) (g:=g) (h:=h) (cap2:=cap2) (rb:=rb) (sb:=sb) (ox:=w1.heap.size) (ex:=w2.heap.size) (lv:=.slice la N lcap) (cv:=.slice ca m ccap) (w:=w) htop (by omega) (by omega) (by omega) hhl HCVB.out
 have HOWF:=Lib.hid howf
 clear howf
 gi_wp2_with fail
 refine range_rounds rfl (by omega) (gf:=140) (lb:=#[.pointer (some ⟨w2.heap.size+1,0,none⟩)]) rfl trivial (enters_of Tryz.func140 (by kernel_rfl) rfl) m
  (fun k=>#[.int .i64 ((m-1-k:Nat):Int),.int .i64 (cutAt C (m-1-k):Nat)]) (fun _=>rfl) (IndInv_i T C K B N m g h cap2 rb sb w1.heap.size w2.heap.size (.slice la N lcap) (.slice ca m ccap) w) (by rw [hsz0];exact HOWF.out) HI0.out
  (fun l J W hJI hY h0=>by
   by_cases hm0:m=0
   ·exact back_ints Fence.wide 3 trivial rfl (by omega) l (w2.heap.size+1) m ccap 0 0 ca (fun p=>(cutAt C p:Nat)) hCm (fun h=>absurd hm0 (by omega)) J (fun k W hJ=>(hJI k W hJ).sx.cell rfl) (fun k W hk hJ=>by omega) hY W h0
   ·obtain ⟨b,off,e,hbw,hx⟩:=HCVC.out (by omega)
    exact back_ints Fence.wide 3 trivial rfl (by omega) l (w2.heap.size+1) m ccap b off ca (fun p=>(cutAt C p:Nat)) hCm (fun _=>e) J (fun k W hJ=>(hJI k W hJ).sx.cell rfl) (fun k W hk hJ=>hx W (hJI k W hJ).cuts _ (by omega)) hY W h0)
  ?a1 ?assign ?body ?done
 case assign=>
  intro l k W K hK
  gi_wp2
  exact hK
 case done=>
  intro D W hD hI hW
  have HII:=Lib.hid hI
  obtain ⟨O,E,h1,h2,h3⟩:=hI.rows
  rw [Nat.sub_self] at h1
  have b0:Blk W w.heap.size 171 [.slice la N lcap,.slice (some ⟨rb,0,none⟩) N N,.slice (some ⟨sb,0,none⟩) (K+1) (K+1)]:=HII.out.bx
  have hl1:=run_loadU b0
  have c1:W.cell? ⟨w1.heap.size,0,none⟩=some (.slice (some ⟨g,0,none⟩) N N):=HII.out.ox.cell rfl
  have hBg:B≤g:=by omega
  have hfa:=falling_i T C K B rb sb g N (.slice la N lcap) O E W HC.out HII.out.txt hBg (by rw [HN.out];exact h2) h1
  rw [HN.out] at hfa
  unfold txV at hfa
  have HD:=Lib.hid hD
  have HW:=Lib.hid hW
  clear hI h1 h2 h3 hD hW
  gi_wp2_with fail
  refine ⟨trivial,?_⟩
  refine ((callsIn_wide (n:=3)).2 hfa).mono ?_
  rintro e W3 ⟨rfl,hgr3,O3,ho3,hl3,hf3⟩
  clear hfa hl1 c1 b0
  have htx3:=HII.out.txt.keep hgr3 hBg
  have hri:=rising_i T C K B rb sb g N (.slice la N lcap) O3 W3 HC.out htx3 hK0 hBg (by rw [HN.out];rw [HN.out] at ho3;exact ho3) hf3
  rw [HN.out] at hri
  unfold txV at hri
  have b3:=blk_gr hgr3 (by omega) HII.out.bx
  have hl3':=run_loadU b3
  have c3:W3.cell? ⟨w1.heap.size,0,none⟩=some (.slice (some ⟨g,0,none⟩) N N):=(blk_gr hgr3 (by omega) HII.out.ox).cell rfl
  have HGR3:=Lib.hid hgr3
  clear hgr3 ho3 hl3 hf3 htx3 b3
  gi_wp2_with fail
  refine ⟨trivial,?_⟩
  refine ((callsIn_wide (n:=3)).2 hri).mono ?_
  rintro e W4 ⟨rfl,hgr4,O4,ho4,hl4,hf4⟩
  clear hri hl3' c3
  have HGR4:=Lib.hid hgr4
  have HO4:=Lib.hid ho4
  have HL4:=Lib.hid hl4
  have HF4:=Lib.hid hf4
  have c4:W4.cell? ⟨w1.heap.size,0,none⟩=some (.slice (some ⟨g,0,none⟩) N N):=(blk_gr hgr4 (by omega) (blk_gr HGR3.out (by omega) HII.out.ox)).cell rfl
  clear hgr4 ho4 hl4 hf4
  gi_wp2_with fail
  have hDl:=(Array.getElem?_eq_some_iff.1 HW.out).1
  have hDg:D≠g:=by have:=HD.out;omega
  have hW3:W3.heap[D]? = some (.deferred (some [])):=(HGR3.out.block D hDl (by simp;exact hDg)).trans HW.out
  have hW4:W4.heap[D]? = some (.deferred (some [])):=(HGR4.out.block D (by have:=HGR3.out.size;omega) (by simp;exact hDg)).trans hW3
  have hs3:=HGR3.out.size
  have hs4:=HGR4.out.size
  have hput:Below (w2.heap.size+2) W4 (W4.putObj D (.deferred none)):=below_of_grown (grownBy_putObj' W4 D (.deferred none)) (fun r e=>by cases e;have:=HD.out;omega) (by have:=HD.out;omega)
  refine ⟨by simp,.inl ⟨_,_,rfl,run_takeDeferred hW4,?_⟩⟩
  refine ⟨_,results_tmp rfl _ _ _,g,O4,by rw [HN.out];rfl,by omega,by rw [HN.out];rw [HN.out] at HO4;exact HO4.out.belowB hput (by omega),HL4.out,HF4.out,?_⟩
  have hbA:=HII.out.bel
  have hsA:=hbA.size
  exact Below.trans hbA (Below.trans (Gr.below HGR3.out hsA (by omega)) (Below.trans (Gr.below HGR4.out (by omega) (by omega)) (Below.mono hput (by omega))))
 case body=>
  intro l k W hk hI
  obtain ⟨p,hp⟩:∃ p,m-1-k=p:=⟨_,rfl⟩
  have hpm:p<m:=by omega
  obtain ⟨O,E,h1,h2,h3⟩:=hI.rows
  rw [show m-k=p+1 by omega] at h1
  rw [hp]
  have hk1:m-(k+1)=p:=by omega
  have hKc:T.getD (C.getD p 0) 0<K:=by
   have hcm:=getD_mem C 0 (show p<C.length by rw [HM.out];exact hpm)
   have hcc:=(HC.out.2 _).1 hcm
   exact getD_kind HT.out.kind (by have:=(isc_parts hcc).2.2.2;omega)
  obtain ⟨q0,q1,q2,q3⟩:=cuts_put HC.out h1 (by rw [HM.out];exact hpm) hKc
  have hcl:=(isc_parts q0).2.2.2
  rw [HN.out] at hcl q2
  obtain ⟨lb,lo,rfl⟩:∃ lb lo,la=some ⟨lb,lo,none⟩:=by
   obtain ⟨a,c,e,hx⟩:=HT.out.ltr.at
   obtain ⟨b,off,rfl,_⟩:=hx (by rw [HN.out];omega)
   simp at e
   exact ⟨b,off,e.1⟩
  have htx:=hI.txt.ltr
  rw [← HN.out] at htx
  obtain ⟨hlbB,cl⟩:=htx.cell (i:=C.getD p 0) (by rw [HN.out];omega)
  have ce:=h3.cell hKc
  rw [q1] at ce
  have fe:=h3.frozen (T.getD (C.getD p 0) 0)
  have hOL:=h2
  have HK1:=Lib.hid hk1
  have HP3:=Lib.hid q3
  have hcN:C.getD p 0<N:=by omega
  have hca:C.getD p 0=cutAt C p:=rfl
  rw [hca] at q1 q2 q3 hcl cl ce fe hcN hKc HP3
  clear hca q0
  generalize cutAt C p=c at*
  generalize qc T C c=P at*
  generalize T.getD c 0=y at*
  have b0:W.cell? ⟨w.heap.size,0,none⟩=some (.slice (some ⟨lb,lo,none⟩) N lcap):=hI.bx.cell (o:=0) rfl
  have b3:W.cell? ⟨w2.heap.size,0,none⟩=some (.slice (some ⟨h,0,none⟩) K cap2):=hI.exx.cell rfl
  have hgh:g≠h:=by omega
  have hhg:h≠g:=by omega
  have hex:w2.heap.size≠h:=by omega
  have hexg:w2.heap.size≠g:=by omega
  have hox:w1.heap.size≠h:=by omega
  have hoxg:w1.heap.size≠g:=by omega
  have hbx:w.heap.size≠h:=by omega
  have hbxg:w.heap.size≠g:=by omega
  have hwsz:=hI.bel.size
  obtain ⟨W1,hW1⟩:∃ W1,W.setCell ⟨h,y,none⟩ (.int .i64 P)=W1:=⟨_,rfl⟩
  have hKO:KeepsOthers W W1:=by rw [← hW1];exact KeepsOthers.setCell _ _ _
  have hHE1:OwnI W1 h K cap2 (E.set y P):=by rw [← hW1];exact h3.set y P
  have hHO1:OwnI W1 g N N O:=by rw [← hW1];exact h2.setOther hgh _
  have hT1:TxI W1 B T K (.slice (some ⟨lb,lo,none⟩) N lcap) rb sb:=by rw [← hW1];exact hI.txt.keep ((Gr.refl W h).setCell y (.int .i64 P)) (by omega)
  have hB1:Blk W1 w.heap.size 171 [.slice (some ⟨lb,lo,none⟩) N lcap,.slice (some ⟨rb,0,none⟩) N N,.slice (some ⟨sb,0,none⟩) (K+1) (K+1)]:=by rw [← hW1];exact hI.bx.setOther hbx _
  have hX1:Blk W1 w1.heap.size 88 [.slice (some ⟨g,0,none⟩) N N]:=by rw [← hW1];exact hI.ox.setOther hox _
  have hEX1:Blk W1 w2.heap.size 88 [.slice (some ⟨h,0,none⟩) K cap2]:=by rw [← hW1];exact hI.exx.setOther hex _
  have hSX1:Blk W1 (w2.heap.size+1) 88 [.slice ca m ccap]:=by rw [← hW1];exact hI.sx.setOther (by simp;omega) _
  have hBL1:Below w.heap.size w W1:=by rw [← hW1];exact hI.bel.setCell (by simp;omega) _
  have hCV1:IsInts W1 (.slice ca m ccap) (nI C):=isInts_belowB HCV.out hBL1 HCVB.out
  have d2:W1.cell? ⟨w1.heap.size,0,none⟩=some (.slice (some ⟨g,0,none⟩) N N):=hX1.cell rfl
  have d3:W1.cell? ⟨w2.heap.size,0,none⟩=some (.slice (some ⟨h,0,none⟩) K cap2):=hEX1.cell rfl
  have de:=hHE1.cell hKc
  rw [set_getD,if_pos ⟨rfl,by rw [h3.length];exact hKc⟩] at de
  have dg:=hHO1.cell q2
  have dfg:=hHO1.frozen P
  generalize O.getD P 0=old2 at*
  have HO3:=Lib.hid (OwnI.set (w:=W1.drew) hHO1 P c)
  have HE3:=Lib.hid (OwnI.setOther (w:=W1.drew) (p:=⟨g,P,none⟩) hHE1 hhg (.int .i64 c))
  have HT3:=Lib.hid (hT1.keep (W:=W1.drew.setCell ⟨g,P,none⟩ (.int .i64 c)) (((Gr.refl W1 g).drew).setCell P (.int .i64 c)) (by omega))
  have HB3:=Lib.hid (Blk.setOther (w:=W1.drew) (p:=⟨g,P,none⟩) hB1 hbxg (.int .i64 c))
  have HX3:=Lib.hid (Blk.setOther (w:=W1.drew) (p:=⟨g,P,none⟩) hX1 hoxg (.int .i64 c))
  have HEX3:=Lib.hid (Blk.setOther (w:=W1.drew) (p:=⟨g,P,none⟩) hEX1 hexg (.int .i64 c))
  have HSX3:=Lib.hid (Blk.setOther (w:=W1.drew) (p:=⟨g,P,none⟩) hSX1 (by simp;omega) (.int .i64 c))
  have hBL3:Below w.heap.size w (W1.drew.setCell ⟨g,P,none⟩ (.int .i64 c)):=Below.setCell (w:=W1.drew) hBL1.drew (by simp;omega) _
  have HBL3:=Lib.hid hBL3
  have HCV3:=Lib.hid (isInts_belowB HCV.out hBL3 HCVB.out)
  have HKF:Hid (KeepsFrom (w2.heap.size+2) W (W1.drew.setCell ⟨g,P,none⟩ (.int .i64 c))):=Lib.hid (((hKO.from _).trans ((KeepsOthers.drew _).from _)).trans ((KeepsOthers.setCell _ _ _).from _))
  clear q1 q3 hKO hHE1 hHO1 hT1 hB1 hX1 hEX1 hSX1 hBL1 hCV1 hBL3 h1 h2 h3 hI htx hOL hk1 hp
  gi_wp2_with fail
  clear hW1 b0 b3 cl ce fe
  gi_region
  all_goals
   try gi_wp2_with fail
   exact ⟨HKF.out,⟨_,_,by rw [HK1.out];exact HP3.out,HO3.out,HE3.out⟩,HT3.out,HCV3.out,HB3.out,HX3.out,HEX3.out,HSX3.out,HBL3.out⟩
end Go.Proofs.YtmjpnbadfmgimaaGreatDoor.S8

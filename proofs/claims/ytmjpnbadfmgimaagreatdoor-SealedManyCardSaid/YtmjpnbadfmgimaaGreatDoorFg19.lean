/- Texts put together: SufKb. -/
import Derived.Test.YtmjpnbadfmgimaaGreatDoorFg18
import Derived.WalkMore
import Derived.Shelf.Abstract
import Derived.BigRegionIn
set_option linter.unusedSimpArgs false
set_option linter.unusedVariables false
set_option maxRecDepth 100000
set_option maxHeartbeats 32000000
namespace Go.Proofs.YtmjpnbadfmgimaaGreatDoor.Pl
end Go.Proofs.YtmjpnbadfmgimaaGreatDoor.Pl
namespace Go.Proofs.YtmjpnbadfmgimaaGreatDoor.S8.Pl
end Go.Proofs.YtmjpnbadfmgimaaGreatDoor.S8.Pl
namespace Go.Proofs.YtmjpnbadfmgimaaGreatDoor.S8
open Go.RowKit _root_.Go.Proofs.YtmjpnbadfmgimaaGreatDoor.Pl _root_.Go.Proofs.YtmjpnbadfmgimaaGreatDoor.S8.Pl
def RisePost_b (T C:List Nat) (g cap:Nat) (w:World) (e:Ending) (w':World):Prop:=
 e=.returned (.tuple #[])∧Gr w w' g∧∃ O:List Int,OwnI w' g T.length cap O∧O.length=T.length∧∀ i,i<T.length→O.getD (pos T C i) 0=(i:Int)
structure RsInv_b (T C:List Nat) (K B N g cap h cap2 rb sb ex:Nat) (lv:Value) (w:World) (k:Nat) (W:World):Prop where
 rows:∃ O E:List Int,RInv T C K (N-k) O E∧OwnI W g N cap O∧OwnI W h K cap2 E
 txt:TxB W B T K lv rb sb
 bx:Blk W w.heap.size 144 [lv,.slice (some ⟨rb,0,none⟩) N N,.slice (some ⟨sb,0,none⟩) (K+1) (K+1)]
 ox:Blk W (w.heap.size+1) 88 [.slice (some ⟨g,0,none⟩) N cap]
 exx:Blk W ex 88 [.slice (some ⟨h,0,none⟩) K cap2]
 sx:Blk W (ex+1) 88 [.slice (some ⟨g,0,none⟩) N cap]
 gr:Gr w W g
theorem rsInv_own_b {T C:List Nat} {K B N g cap h cap2 rb sb ex:Nat} {lv:Value} {w:World} (hB:B≤w.heap.size) (hg:g<w.heap.size) (he:w.heap.size+2≤ex) (hh:h<ex):OwnFrom (ex+2) (RsInv_b T C K B N g cap h cap2 rb sb ex lv w):=by
 intro k W W' row hs hgr hr
 have hlt:=hs.sx.lt
 have hb:Below (ex+2) W W':=below_of_grown hgr (fun r e=>(hr r e).1) (by omega)
 obtain ⟨O,E,h1,h2,h3⟩:=hs.rows
 exact ⟨⟨O,E,h1,h2.belowB hb (by omega),h3.belowB hb (by omega)⟩,hs.txt.belowB hb (by omega),hs.bx.below hb (by omega),hs.ox.below hb (by omega),hs.exx.below hb (by omega),hs.sx.below hb (by omega),gr_belowB hs.gr hb (by omega)⟩
attribute [local go_sem] Oper.semAt_some
attribute [local go_sem ↓] sliceI_eq
theorem rising_b (T C:List Nat) (K B rb sb g cap:Nat) (lv:Value) (O0:List Int) (w:World) (hC:IsCuts T C) (ht:TxB w B T K lv rb sb) (hK0:0<K) (hBg:B≤g) (ho:OwnI w g T.length cap O0) (hf:∀ i,i<T.length→ris T i=false→O0.getD (pos T C i) 0=(i:Int)):
  Calls Tryz.prog 115 #[txV lv rb T.length sb (K+1),.slice (some ⟨g,0,none⟩) T.length cap] w (RisePost_b T C g cap w):=by
 have hgl:=ho.lt
 have hO0l:=ho.length
 have hrb:=ht.rb
 have hsb:=ht.sb
 have hlen:=ht.len
 have hlenK:=ht.lenK
 have htop:=ht.top
 obtain ⟨la,lcap,rfl,hlc⟩:=ht.ltr.at
 obtain ⟨wa,hwa⟩:∃ wa,(w.alloc (.cells #[.slice la T.length lcap,.slice (some ⟨rb,0,none⟩) T.length T.length,.slice (some ⟨sb,0,none⟩) (K+1) (K+1)] 144)).alloc (.cells #[.slice (some ⟨g,0,none⟩) T.length cap] 88)=wa:=⟨_,rfl⟩
 have hba:Below w.heap.size w wa:=by rw [← hwa];exact ((Below.refl _ _).alloc (Nat.le_refl _) _).alloc (by simp) _
 have hsza:wa.heap.size=w.heap.size+2:=by rw [← hwa];simp
 have hba0:Blk wa w.heap.size 144 [.slice la T.length lcap,.slice (some ⟨rb,0,none⟩) T.length T.length,.slice (some ⟨sb,0,none⟩) (K+1) (K+1)]:=by rw [← hwa];exact (Blk.new w _ _).alloc _
 have hba1:Blk wa (w.heap.size+1) 88 [.slice (some ⟨g,0,none⟩) T.length cap]:=by
  rw [← hwa]
  have:=Blk.new (w.alloc (.cells #[.slice la T.length lcap,.slice (some ⟨rb,0,none⟩) T.length T.length,.slice (some ⟨sb,0,none⟩) (K+1) (K+1)] 144)) 88 [.slice (some ⟨g,0,none⟩) T.length cap]
  rw [World.size_alloc] at this
  exact this
 have hst:=((blk_ownI ht.sts (stsL_length T K) (by unfold maxLen;omega)).belowB hba (by omega)).ints
 have hs1:∀ W:World,(sliceI (.slice (some ⟨sb,0,none⟩) (K+1) (K+1)) (some (.int .i64 1)) none none).run Tryz.prog W=.ok (.slice (some ⟨sb,1,none⟩) (K+1-1) (K+1-1)) W:=fun W=>run_fromB (g:=sb) (n:=K+1) (cap:=K+1) 1 (by omega) (by omega) (Nat.le_refl _) W
 have hdrop:IsInts wa (.slice (some ⟨sb,1,none⟩) (K+1-1) (K+1-1)) ((stsL T K).drop 1):=by
  obtain ⟨a1,r1,r2⟩:=run_fromI hst (stsL_length T K) (by omega) 1 (by omega)
  have e:=r1 wa
  have e3:=hs1 wa
  have e:=e.symm.trans e3
  simp at e
  subst e
  refine .inr ⟨⟨sb,1,none⟩,_,by rw [List.length_drop,stsL_length],by rw [List.length_drop,stsL_length];omega,by unfold maxLen;omega,r2⟩
 have hcl:=cloneI_any _ _ wa hdrop (by rw [List.length_drop,stsL_length];omega)
 have hdl:((stsL T K).drop 1).length=K:=by rw [List.length_drop,stsL_length];omega
 have hdg:∀ l,l<K→((stsL T K).drop 1).getD l 0=(bst T (l+1):Int):=fun l hl=>by
  have:=stsL_get T K (l+1) (by omega)
  rw [← this]
  simp only [List.getD_eq_getElem?_getD,List.getElem?_drop]
  rw [Nat.add_comm]
 have hKK:K+1-1=K:=by omega
 rw [hKK] at hcl hs1
 have HT:=Lib.hid ht
 have HO0:=Lib.hid ho
 have HF:=Lib.hid hf
 have HC:=Lib.hid hC
 have HDL:=Lib.hid hdl
 have HDG:=Lib.hid hdg
 have HBA:=Lib.hid hba
 have HBA0:=Lib.hid hba0
 have HBA1:=Lib.hid hba1
 have HO0L:=Lib.hid hO0l
 clear ht ho hf hC hdl hdg hba hba0 hba1 hst hdrop hKK hlc hO0l
 generalize (stsL T K).drop 1=E0 at*
 obtain ⟨N,hN⟩:∃ N,T.length=N:=⟨_,rfl⟩
 rw [hN] at hlen hwa HO0 HBA0 HBA1 ⊢
 have HN:=Lib.hid hN
 unfold txV
 clear hN
 refine (callsIn_wide (n:=4)).1 ?_
 refine callsIn_of_wp_marks Tryz.func115 rfl trivial ?_ rfl
 simp only [Tryz.ntmps115,List.size_toArray,List.length_cons,List.length_nil,Nat.reduceAdd,Nat.reduceSub,Array.replicate_succ,Array.replicate_zero,List.push_toArray,List.append_toArray,List.nil_append,List.cons_append]
 gi_wp2_with fail
 refine wpIn_wide.2 (wp_scope_straight ((wpIn_wide (n:=4)).1 ?_))
 have cs2:wa.cell? ⟨w.heap.size,2,none⟩=some (.slice (some ⟨sb,0,none⟩) (K+1) (K+1)):=HBA0.out.cell (o:=2) rfl
 have co:wa.cell? ⟨w.heap.size+1,0,none⟩=some (.slice (some ⟨g,0,none⟩) N cap):=HBA1.out.cell (o:=0) rfl
 gi_wp2_with fail
 refine ⟨trivial,?_⟩
 refine ((callsIn_wide (n:=3)).2 hcl).mono ?_
 rintro e w1 ⟨v',rfl,hown,hb1⟩
 clear hcl
 rw [HDL.out] at hown
 obtain ⟨h,cap2,rfl,hbase,hS⟩:=ownI_of hown hK0
 have HS0:=Lib.hid hS
 have HB1:=Lib.hid hb1
 have hsz1:=hb1.size
 have hhl:=hS.lt
 clear hown hS hb1 cs2 co
 obtain ⟨wb,hwb⟩:∃ wb,w1.alloc (.cells #[.slice (some ⟨h,0,none⟩) K cap2] 88)=wb:=⟨_,rfl⟩
 have hszb:wb.heap.size=w1.heap.size+1:=by rw [← hwb];simp
 have hbb:Below w1.heap.size w1 wb:=by rw [← hwb];exact (Below.refl _ _).alloc (Nat.le_refl _) _
 have hebb:Blk wb w1.heap.size 88 [.slice (some ⟨h,0,none⟩) K cap2]:=by rw [← hwb];exact Blk.new w1 _ _
 have HBB:Hid (Below w.heap.size w wb):=Lib.hid (Below.trans HBA.out (Below.mono (Below.trans HB1.out (Below.mono hbb hsz1)) (by omega)))
 have HBAB:Hid (Below wa.heap.size wa wb):=Lib.hid (Below.trans HB1.out (Below.mono hbb hsz1))
 have HE:=Lib.hid hebb
 have co:wb.cell? ⟨w.heap.size+1,0,none⟩=some (.slice (some ⟨g,0,none⟩) N cap):=(HBA1.out.below HBAB.out (by omega)).cell (o:=0) rfl
 have HSb:=Lib.hid (HS0.out.belowB hbb hhl)
 clear hbb hebb
 gi_wp2_with fail
 refine wpIn_label ?_
 gi_wp2_with fail
 refine ⟨trivial,?_⟩
 refine (backwardI_any Fence.wide _ trivial rfl _ _ _ _).mono ?_
 rintro e w' ⟨rfl,rfl⟩
 obtain ⟨W0,hW0⟩:∃ W0,wb.alloc (.cells #[.slice (some ⟨g,0,none⟩) N cap] 88)=W0:=⟨_,rfl⟩
 have hsz0:W0.heap.size=w1.heap.size+2:=by rw [← hW0];simp [hszb]
 have hb0:Below wb.heap.size wb W0:=by rw [← hW0];exact (Below.refl _ _).alloc (Nat.le_refl _) _
 have hbw:Below w.heap.size w W0:=Below.trans HBB.out (Below.mono hb0 (by omega))
 have hinv0:RsInv_b T C K B N g cap h cap2 rb sb w1.heap.size (.slice la N lcap) w 0 W0:=by
  refine ⟨⟨O0,E0,?_,?_,?_⟩,?_,?_,?_,?_,?_,Gr.ofBelow hbw⟩
  ·rw [Nat.sub_zero,← HN.out];exact rise_start HO0L.out HDL.out HDG.out HF.out
  ·exact HO0.out.belowB hbw hgl
  ·exact HSb.out.belowB hb0 (by omega)
  ·rw [← HN.out];exact HT.out.belowB hbw htop
  ·exact (HBA0.out.below HBAB.out (by omega)).below hb0 (by omega)
  ·exact (HBA1.out.below HBAB.out (by omega)).below hb0 (by omega)
  ·exact HE.out.below hb0 (by omega)
  ·rw [← hW0,← hszb];exact Blk.new wb _ _
 have HI0:=Lib.hid hinv0
 clear hinv0 hb0 hbw
 rw [hW0]
 clear hW0 hwb hwa co hs1
 gi_wp2_with fail
 refine range_rounds rfl (by omega) (gf:=140) (lb:=#[.pointer (some ⟨w1.heap.size+1,0,none⟩)]) rfl trivial (enters_of Tryz.func140 (by kernel_rfl) rfl) N
  (fun k=>#[.int .i64 ((N-1-k:Nat):Int),.int .i64 (inv T C (N-1-k):Nat)]) (fun _=>rfl) (RsInv_b T C K B N g cap h cap2 rb sb w1.heap.size (.slice la N lcap) w) (by rw [hsz0];exact rsInv_own_b htop hgl (by omega) hhl) HI0.out
  (fun l J W hJI hY h0=>back_ints Fence.wide 3 trivial rfl (by omega) l (w1.heap.size+1) N cap g 0 (some ⟨g,0,none⟩) (fun p=>(inv T C p:Int)) hlen (fun _=>rfl) J (fun k W hJ=>(hJI k W hJ).sx.cell rfl) (fun k W hk hJ=>by
   obtain ⟨O,E,h1,h2,_⟩:=(hJI k W hJ).rows
   rw [Nat.zero_add,h2.cell (by omega)]
   have:=inv_at (k:=N-1-k) HC.out (by rw [show N-1-k+1=N-k by omega];exact h1) (by rw [HN.out];omega)
   rw [this]) hY W h0)
  ?a1 ?assign ?body ?done
 case assign=>
  intro l k W K hK
  gi_wp2
  exact hK
 case done=>
  intro D W hD hI hW
  gi_wp2
  try simp only [Exit.noGoto_normal]
  refine ⟨by simp,.inl ⟨_,_,rfl,run_takeDeferred hW,?_⟩⟩
  have hfin:=(rsInv_own_b (T:=T) (C:=C) (K:=K) (N:=N) (cap:=cap) (cap2:=cap2) (rb:=rb) (sb:=sb) (lv:=.slice la N lcap) htop hgl (by omega) hhl).putObj (.deferred none) hI (by omega) hW rfl
  obtain ⟨O,E,h1,h2,h3⟩:=hfin.rows
  rw [Nat.sub_self] at h1
  exact ⟨_,results_none rfl _ _ _,rfl,hfin.gr,O,by rw [HN.out];exact h2,h1.lenO,rise_end h1⟩
 case body=>
  intro l k W hk hI
  obtain ⟨p,hp⟩:∃ p,N-1-k=p:=⟨_,rfl⟩
  have hpN:p<N:=by omega
  obtain ⟨O,E,h1,h2,h3⟩:=hI.rows
  rw [show N-k=p+1 by omega] at h1
  have hpT:p<T.length:=by rw [HN.out];exact hpN
  obtain ⟨hj1,hj2⟩:=inv_spec HC.out hpT
  rw [hp]
  have hk1:N-(k+1)=p:=by omega
  have HR:=Lib.hid h1
  have HO:=Lib.hid h2
  have HEE:=Lib.hid h3
  have HI:=Lib.hid hI
  have HJ2:=Lib.hid hj2
  have HK1:=Lib.hid hk1
  clear h1 h2 h3 hI hj2 hk1 hp
  rw [HN.out] at hj1
  generalize inv T C p=j at*
  have b0:W.cell? ⟨w.heap.size,0,none⟩=some (.slice la N lcap):=HI.out.bx.cell (o:=0) rfl
  have b1:W.cell? ⟨w.heap.size,1,none⟩=some (.slice (some ⟨rb,0,none⟩) N N):=HI.out.bx.cell (o:=1) rfl
  have b2:W.cell? ⟨w.heap.size+1,0,none⟩=some (.slice (some ⟨g,0,none⟩) N cap):=HI.out.ox.cell rfl
  have b3:W.cell? ⟨w1.heap.size,0,none⟩=some (.slice (some ⟨h,0,none⟩) K cap2):=HI.out.exx.cell rfl
  rcases j with _ | i
  ·have hR2:=Lib.hid (rise_skip HC.out HR.out (j:=0) (by rw [HN.out];omega) HJ2.out (fun i e=>by omega))
   clear b2 b3
   gi_wp2_with fail
   exact ⟨KeepsFrom.refl _ _,⟨O,E,by rw [HK1.out];exact hR2.out,HO.out,HEE.out⟩,HI.out.txt,HI.out.bx,HI.out.ox,HI.out.exx,HI.out.sx,HI.out.gr⟩
  ·have hiN:i<N:=by omega
   have hiT:i<T.length:=by rw [HN.out];exact hiN
   have hj1T:i+1<T.length:=by rw [HN.out];exact hj1
   have cr:=HI.out.txt.rise.cell (bls_get (risL T) i (by rw [risL_length];exact hiT))
   rw [risL_get T i hiT] at cr
   have e1:((i+1:Nat):Int)-1=(i:Int):=by omega
   cases hris:ris T i with
   | false=>
     have hR2:=Lib.hid (rise_skip HC.out HR.out hj1T HJ2.out (fun x e=>by obtain rfl:x=i:=by omega
                                                                          exact hris))
     rw [hris] at cr
     clear b2 b3 hris
     gi_wp2_with fail
     exact ⟨KeepsFrom.refl _ _,⟨O,E,by rw [HK1.out];exact hR2.out,HO.out,HEE.out⟩,HI.out.txt,HI.out.bx,HI.out.ox,HI.out.exx,HI.out.sx,HI.out.gr⟩
   | true=>
     rw [hris] at cr
     have hyK:=getD_kind HT.out.kind hiT
     obtain ⟨p1,p2,p3⟩:=rise_put HC.out HR.out hj1T HJ2.out hris hyK
     obtain ⟨lb,lo,rfl⟩:∃ lb lo,la=some ⟨lb,lo,none⟩:=by
      obtain ⟨a,c,e,h2⟩:=HT.out.ltr.at
      obtain ⟨b,off,rfl,_⟩:=h2 (by omega)
      simp at e
      exact ⟨b,off,e.1⟩
     have htx:=HI.out.txt.ltr
     rw [← HN.out] at htx
     obtain ⟨hlbB,cl⟩:=htx.cell hiT
     have ce:=HEE.out.cell (i:=T.getD i 0) hyK
     rw [p1] at ce
     rw [HN.out] at p2
     have fe:=HEE.out.frozen (T.getD i 0)
     have cg:=HO.out.cell p2
     have fg:=HO.out.frozen (pos T C i)
     have HP3:=Lib.hid p3
     generalize O.getD (pos T C i) 0=old at*
     generalize pos T C i=P at*
     generalize T.getD i 0=y at*
     have hgh:g≠h:=by omega
     have hhg:h≠g:=by omega
     have hex:w1.heap.size≠h:=by omega
     have hexg:w1.heap.size≠g:=by omega
     have hox:w.heap.size+1≠h:=by omega
     have hoxg:w.heap.size+1≠g:=by omega
     have hbx:w.heap.size≠h:=by omega
     have hbxg:w.heap.size≠g:=by omega
     have hwsz:=HI.out.gr.size
     obtain ⟨W1,hW1⟩:∃ W1,W.setCell ⟨h,y,none⟩ (.int .i64 P)=W1:=⟨_,rfl⟩
     have hKO:KeepsOthers W W1:=by rw [← hW1];exact KeepsOthers.setCell _ _ _
     have hHE1:OwnI W1 h K cap2 (E.set y P):=by rw [← hW1];exact HEE.out.set y P
     have hHO1:OwnI W1 g N cap O:=by rw [← hW1];exact HO.out.setOther hgh _
     have hT1:TxB W1 B T K (.slice (some ⟨lb,lo,none⟩) N lcap) rb sb:=by rw [← hW1];exact HI.out.txt.keep ((Gr.refl W h).setCell y (.int .i64 P)) (by omega)
     have hB1:Blk W1 w.heap.size 144 [.slice (some ⟨lb,lo,none⟩) N lcap,.slice (some ⟨rb,0,none⟩) N N,.slice (some ⟨sb,0,none⟩) (K+1) (K+1)]:=by rw [← hW1];exact HI.out.bx.setOther hbx _
     have hX1:Blk W1 (w.heap.size+1) 88 [.slice (some ⟨g,0,none⟩) N cap]:=by rw [← hW1];exact HI.out.ox.setOther hox _
     have hEX1:Blk W1 w1.heap.size 88 [.slice (some ⟨h,0,none⟩) K cap2]:=by rw [← hW1];exact HI.out.exx.setOther hex _
     have hSX1:Blk W1 (w1.heap.size+1) 88 [.slice (some ⟨g,0,none⟩) N cap]:=by rw [← hW1];exact HI.out.sx.setOther (by simp;omega) _
     have hGR1:Gr w W1 g:=by
      have h1:=HI.out.gr
      rw [← hW1]
      refine ⟨h1.os,h1.tape,h1.output,by simpa using h1.size,fun x hx hn=>?_⟩
      rw [Below.heap_setCell _ ⟨h,y,none⟩ _ x (by simp;omega)]
      exact h1.block x hx hn
     have d2:W1.cell? ⟨w.heap.size+1,0,none⟩=some (.slice (some ⟨g,0,none⟩) N cap):=hX1.cell rfl
     have d3:W1.cell? ⟨w1.heap.size,0,none⟩=some (.slice (some ⟨h,0,none⟩) K cap2):=hEX1.cell rfl
     have de:=hHE1.cell hyK
     rw [set_getD,if_pos ⟨rfl,by rw [HEE.out.length];exact hyK⟩] at de
     have dg:=hHO1.cell p2
     have dfg:=hHO1.frozen P
     generalize O.getD P 0=old2 at*
     have HGR3:=Lib.hid ((Gr.drew hGR1).setCell P (.int .i64 i))
     have HO3:=Lib.hid (OwnI.set (w:=W1.drew) hHO1 P i)
     have HE3:=Lib.hid (OwnI.setOther (w:=W1.drew) (p:=⟨g,P,none⟩) hHE1 hhg (.int .i64 i))
     have HT3:=Lib.hid (hT1.keep (W:=W1.drew.setCell ⟨g,P,none⟩ (.int .i64 i)) (((Gr.refl W1 g).drew).setCell P (.int .i64 i)) hBg)
     have HB3:=Lib.hid (Blk.setOther (w:=W1.drew) (p:=⟨g,P,none⟩) hB1 hbxg (.int .i64 i))
     have HX3:=Lib.hid (Blk.setOther (w:=W1.drew) (p:=⟨g,P,none⟩) hX1 hoxg (.int .i64 i))
     have HEX3:=Lib.hid (Blk.setOther (w:=W1.drew) (p:=⟨g,P,none⟩) hEX1 hexg (.int .i64 i))
     have HSX3:=Lib.hid (Blk.setOther (w:=W1.drew) (p:=⟨g,P,none⟩) hSX1 (by simp;omega) (.int .i64 i))
     have HKF:Hid (KeepsFrom (w1.heap.size+2) W (W1.drew.setCell ⟨g,P,none⟩ (.int .i64 i))):=Lib.hid (((hKO.from _).trans ((KeepsOthers.drew _).from _)).trans ((KeepsOthers.setCell _ _ _).from _))
     clear p1 p3 hris HR HJ2 hKO hHE1 hHO1 hT1 hB1 hX1 hEX1 hSX1 hGR1
     gi_wp2_with fail
     clear hW1 b0 b1 b2 b3 cr cl ce fe cg fg
     gi_region
     all_goals
      try gi_wp2_with fail
      exact ⟨HKF.out,⟨_,_,by rw [HK1.out];exact HP3.out,HO3.out,HE3.out⟩,HT3.out,HB3.out,HX3.out,HEX3.out,HSX3.out,HGR3.out⟩
end Go.Proofs.YtmjpnbadfmgimaaGreatDoor.S8

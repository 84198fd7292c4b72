/- Texts put together: SufOi. -/
import Derived.Test.YtmjpnbadfmgimaaGreatDoorFg15
import Derived.Test.YtmjpnbadfmgimaaGreatDoorFg16
import Derived.Test.YtmjpnbadfmgimaaGreatDoorFg18
import Derived.Test.YtmjpnbadfmgimaaGreatDoorFg23
set_option linter.unusedSimpArgs false
set_option linter.unusedVariables false
set_option maxRecDepth 100000
set_option maxHeartbeats 32000000
namespace Go.Proofs.YtmjpnbadfmgimaaGreatDoor.Pl
end Go.Proofs.YtmjpnbadfmgimaaGreatDoor.Pl
namespace Go.Proofs.YtmjpnbadfmgimaaGreatDoor.S8.Pl
end Go.Proofs.YtmjpnbadfmgimaaGreatDoor.S8.Pl
namespace Go.Proofs.YtmjpnbadfmgimaaGreatDoor.S8
open Go.RowKit _root_.Go.Proofs.YtmjpnbadfmgimaaGreatDoor.Pl _root_.Go.Proofs.YtmjpnbadfmgimaaGreatDoor.S8.Pl
def NamPost_i (T F:List Nat) (w:World) (e:Ending) (w':World):Prop:=
 ∃ sp cp,e=.returned (.tuple #[.slice sp (cutsOf T).length cp,.int .i64 (ds T F F.length:Nat)])∧w'.ownsRow w.heap.size 3 1 (.slice sp (cutsOf T).length cp) (cutsOf T).length (i64s (nI (nameOf T F)))∧Below w.heap.size w w'
attribute [local go_sem ↓] loadU_eq maxI_eq
theorem named_i (T F:List Nat) (K B rb sb:Nat) (lv cv ov:Value) (w:World) (ht:TxI w B T K lv rb sb) (hF:Ordered T F) (hFm:F.length≤1000000) (hCm:(cutsOf T).length≤1000000) (hcv:IsInts w cv (nI (cutsOf T))) (hov:IsInts w ov (nI F)):
  Calls Tryz.prog 120 #[txV lv rb T.length sb (K+1),cv,ov] w (NamPost_i T F w):=by
 have hlen:=ht.len
 have htop:=ht.top
 obtain ⟨la,lcap,rfl,hlc⟩:=ht.ltr.at
 obtain ⟨ca,ccap,rfl,hcc1,hcc2⟩:=hcv.slice
 obtain ⟨oa,ocap,rfl,hoc1,hoc2⟩:=hov.slice
 have hcvc:∀ i,i<(cutsOf T).length→∃ b off,ca=some ⟨b,off,none⟩∧b<w.heap.size∧w.cell? ⟨b,off+i,none⟩=some (.int .i64 ((cutsOf T).getD i 0:Nat)):=fun i hi=>by
  obtain ⟨b,off,c,e,_,_,hb,hx⟩:=hcv.cells (by rw [nI_length];omega)
  simp at e
  exact ⟨b,off,e.1,hb,by rw [hx i (by rw [nI_length];exact hi),nI_get]⟩
 have hovc:∀ i,i<F.length→∃ b off,oa=some ⟨b,off,none⟩∧b<w.heap.size∧w.cell? ⟨b,off+i,none⟩=some (.int .i64 (F.getD i 0:Nat)):=fun i hi=>by
  obtain ⟨b,off,c,e,_,_,hb,hx⟩:=hov.cells (by rw [nI_length];omega)
  simp at e
  exact ⟨b,off,e.1,hb,by rw [hx i (by rw [nI_length];exact hi),nI_get]⟩
 rw [nI_length] at hcc1 hoc1 ⊢
 obtain ⟨i0,hi,hz0,hz1,hz2⟩:=infoI_parts infoI
 have Hi:=Lib.hid hi
 have Hz0:=Lib.hid hz0
 have Hz1:=Lib.hid hz1
 have Hz2:=Lib.hid hz2
 have HT:=Lib.hid ht
 have HLC:=Lib.hid hlc
 have HF:=Lib.hid hF
 have HCV:=Lib.hid hcvc
 have HOV:=Lib.hid hovc
 obtain ⟨N,hN⟩:∃ N,T.length=N:=⟨_,rfl⟩
 obtain ⟨M,hM⟩:∃ M,F.length=M:=⟨_,rfl⟩
 obtain ⟨m,hm⟩:∃ m,(cutsOf T).length=m:=⟨_,rfl⟩
 have hBXn:=Blk.new w 171 [.slice la N lcap,.slice (some ⟨rb,0,none⟩) N N,.slice (some ⟨sb,0,none⟩) (K+1) (K+1)]
 have HBXn:=Lib.hid hBXn
 rw [nI_length,hN,hM,hm]
 rw [hN] at hlen
 rw [hM] at hFm hoc1
 rw [hm] at hCm hcc1
 have HN:=Lib.hid hN
 have HM:=Lib.hid hM
 have Hm:=Lib.hid hm
 unfold txV
 clear ht hlc hF hcv hov hcvc hovc hN hM hm hi hz0 hz1 hz2 hBXn
 go_enter Tryz.func120,Tryz.ntmps120
 go_wp2_with fail
 go_step3
 go_wp2_with (at_make;refine wpList_make_full _ rfl _ _ 88 rfl w.heap.size 3 i0 (.int .i64 0) 1 Tryz.underlying88 Hi.out Hz0.out Hz1.out .i64 .i64 _ _ (N/2+1) rfl rfl (by first | rfl | omega) (by first | rfl | omega) (by rw [Hz2.out];omega) (by unfold maxLen;omega) (by simp) ?_;intro w1 hown hgr;have b0:w1.cell? ⟨w.heap.size,0,none⟩=some (.slice la N lcap):=(Blk.grown HBXn.out hgr (by simp)).cell (o:=0) rfl)
 have HG0:Hid (Blk w1 (w.heap.size+1) 3 (i64s (List.replicate (N/2+1) 0))):=Lib.hid (by
  have:=made_blk hown
  rw [madeI] at this
  simpa using this)
 have HX0:Hid (Blk w1 w.heap.size 171 [.slice la N lcap,.slice (some ⟨rb,0,none⟩) N N,.slice (some ⟨sb,0,none⟩) (K+1) (K+1)]):=Lib.hid (Blk.grown HBXn.out hgr (by simp))
 have HB0:Hid (Below w.heap.size w w1):=Lib.hid (((Below.refl _ w).alloc (Nat.le_refl _) _).grown hgr (by simp) (by simp))
 clear hown hgr HBXn b0
 go_step3
 go_wp2_with fail
 go_loopw [7,9,27] (fun y z x wr=>∃ (i:Nat) (Q:List Int) (bf:Nat),i≤M∧x=.int .i64 i∧y=.int .i64 (ds T F i:Nat)∧z=.int .i64 bf∧bf=(if i=0 then N else F.getD (i-1) 0)∧NumInv T F Q i∧Blk wr (w.heap.size+1) 3 (i64s Q)∧Blk wr w.heap.size 171 [.slice la N lcap,.slice (some ⟨rb,0,none⟩) N N,.slice (some ⟨sb,0,none⟩) (K+1) (K+1)]∧Below w.heap.size w wr) (fun _ _ x _=>M-(intOf x).toNat)
 case atStart=>exact ⟨0,_,N,Nat.zero_le _,rfl,rfl,rfl,rfl,by have:=num_start T F;rwa [HN.out] at this,HG0.out,HX0.out,HB0.out⟩
 case round=>
  obtain ⟨i,Q,bf,hiM,rfl,rfl,rfl,hbf,hnum,hq,hbx,hbel⟩:=hrel
  have HNUM:=Lib.hid hnum
  have HQ:=Lib.hid hq
  have HBX:=Lib.hid hbx
  have HBE:=Lib.hid hbel
  have hsz:=hbel.size
  have hlq:=hq.lt
  have hdsi:=ds_le (T:=T) (F:=F) i
  have b0:wr.cell? ⟨w.heap.size,0,none⟩=some (.slice la N lcap):=hbx.cell (o:=0) rfl
  clear hnum hq hbx hbel HG0 HX0 HB0
  by_cases hlt:i<M
  ·have hiF:i<F.length:=by rw [HM.out];exact hlt
   have hcut:=(HF.out.cuts.2 _).1 (getD_mem F 0 hiF)
   obtain ⟨b,off,rfl,hbw,co⟩:=HOV.out i hiF
   rw [← HBE.out.cell (p:=⟨b,off+i,none⟩) hbw] at co
   have hatT:=(isc_parts hcut).2.2.2
   have hput:=num_put HF.out.cuts HNUM.out hiF
   have HPUT:=Lib.hid hput
   have hatL:F.getD i 0/2<Q.length:=by rw [HNUM.out.1];omega
   have hbf1:bf≤N∧(i=0→bf=N)∧(0<i→bf<N∧bf≠F.getD i 0∧bf<T.length∧bf=F.getD (i-1) 0):=by
    by_cases h0:i=0
    ·subst h0;rw [if_pos rfl] at hbf;exact ⟨by omega,fun _=>hbf,fun h=>by omega⟩
    ·rw [if_neg h0] at hbf
     have hc2:=(HF.out.cuts.2 _).1 (getD_mem F 0 (by omega:i-1<F.length))
     have h2:=(isc_parts hc2).2.2.2
     have hne:F.getD (i-1) 0≠F.getD i 0:=fun e=>by
      have a1:=idx_of HF.out.cuts (by omega:i-1<F.length)
      have a2:=idx_of HF.out.cuts hiF
      rw [e,a2] at a1;omega
     rw [← hbf] at h2 hne
     rw [HN.out] at h2
     exact ⟨by omega,fun h=>absurd h h0,fun _=>⟨by omega,hne,by rw [HN.out];omega,hbf⟩⟩
   have hdf:∀ k,CmpInv T (F.getD i 0) bf k→(N≤Nat.max (F.getD i 0) bf+k∨(F.getD i 0+k<N∧bf+k<N∧T.getD (F.getD i 0+k) 0≠T.getD (bf+k) 0))→df T F i=true:=fun k hk hd=>by
    rcases i with _ | i
    ·rfl
    ·obtain ⟨h1,h2,h3,h4⟩:=hbf1.2.2 (by omega)
     simp only [Nat.add_sub_cancel] at h4
     refine df_diff ?_
     rw [← h4]
     refine cmp_diff (by omega) h3 (fun e=>h2 e.symm) hk ?_
     rw [HN.out]
     rcases hd with hd | hd
     ·rcases Nat.le_total (F.getD (i+1) 0) bf with h | h
      ·rw [show Nat.max (F.getD (i+1) 0) bf=bf from Nat.max_eq_right h] at hd;omega
      ·rw [show Nat.max (F.getD (i+1) 0) bf=F.getD (i+1) 0 from Nat.max_eq_left h] at hd;omega
     ·exact .inr (.inr hd.2.2)
   have hds:∀ k,CmpInv T (F.getD i 0) bf k→0<k→T.getD (F.getD i 0+k) 0=T.getD (bf+k) 0→isc T (F.getD i 0+k)=true→isc T (bf+k)=true→df T F i=false:=fun k hk h0 he c1 c2=>by
    rcases i with _ | i
    ·have:=(isc_parts c2).2.2.2
     have h5:=hbf1.2.1 rfl
     rw [HN.out] at this;omega
    ·obtain ⟨h1,h2,h3,h4⟩:=hbf1.2.2 (by omega)
     simp only [Nat.add_sub_cancel] at h4
     have:=cmp_same hk h0 he c1 c2
     rw [h4] at this
     exact df_same this
   have HDF:=Lib.hid hdf
   have HDS:=Lib.hid hds
   have HSAME:=Lib.hid (@ds_same T F i)
   have HDIFF:=Lib.hid (@ds_diff T F i)
   have hds1:=ds_one T F i
   have hbfN:=hbf1.1
   have hbfi:bf=(if i+1=0 then N else F.getD (i+1-1) 0)∨True:=.inr trivial
   have HATF:Hid (F.getD i 0=F.getD (i+1-1) 0):=Lib.hid (by rw [Nat.add_sub_cancel])
   rw [HN.out] at hatT
   clear hput hdf hds hbf1 hbf hbfi hiF
   generalize F.getD i 0=at0 at*
   have hq3:0≤(at0:Int)/2:=by omega
   have hq4:(at0:Int)/2<(N:Int)/2+1:=by omega
   have hq5:((at0:Int)/2).toNat=at0/2:=by omega
   have hatn:at0/2<N/2+1:=by omega
   have cq:=HQ.out.cell (i64s_get Q (at0/2) hatL)
   have fq:=HQ.out.frozen (at0/2)
   have hmx:=fun ats ty W=>run_maxI ats ty at0 bf W
   have hmx1:at0≤Nat.max at0 bf:=Nat.le_max_left _ _
   have hmx2:bf≤Nat.max at0 bf:=Nat.le_max_right _ _
   have hmx3:Nat.max at0 bf≤N:=Nat.max_le.2 ⟨by omega,hbfN⟩
   generalize Nat.max at0 bf=mx at*
   generalize Q.getD (at0/2) 0=qv at*
   go_wp2_with fail
   go_step3
   go_wp2_with fail
   go_step3
   go_wp2_with fail
   have CQ:=Lib.hid cq
   obtain ⟨wo,hwo⟩:∃ wo:World,wo=wr:=⟨_,rfl⟩
   subst hwo
   go_loopw [13] (fun x wr=>∃ (k:Nat),k≤N∧x=.int .i64 k∧CmpInv T at0 bf k∧Below wo.heap.size wo wr) (fun x _=>N-(intOf x).toNat)
   case atStart=>exact ⟨0,Nat.zero_le _,rfl,cmp_zero _ _,Below.refl _ _⟩
   case round=>
    obtain ⟨k,hkN,rfl,hcmp,hbi⟩:=hrel
    have HCMP:=Lib.hid hcmp
    have HBI:=Lib.hid hbi
    have hsi:=hbi.size
    have HQi:=Lib.hid (HQ.out.below hbi (by omega))
    have HBXi:=Lib.hid (HBX.out.below hbi (by omega))
    have HBEi:=Lib.hid (Below.trans HBE.out (Below.mono hbi hsz))
    have b0i:wr.cell? ⟨w.heap.size,0,none⟩=some (.slice la N lcap):=HBXi.out.cell (o:=0) rfl
    have fqi:=HQi.out.frozen (at0/2)
    have cqi:wr.cell? ⟨w.heap.size+1,at0/2,none⟩=some (.int .i64 qv):=by rw [hbi.cell (p:=⟨w.heap.size+1,at0/2,none⟩) (by simp;omega)];exact cq
    clear hcmp hbi b0 cq fq
    have hexit:df T F i=true→True:=fun _=>trivial
    by_cases hend:mx+k<N
    ·have hak:at0+k<N:=by omega
     have hbk:bf+k<N:=by omega
     obtain ⟨lb,lo,rfl⟩:∃ lb lo,la=some ⟨lb,lo,none⟩:=by
      obtain ⟨b,off,rfl,_⟩:=HLC.out (by rw [HN.out];omega)
      exact ⟨b,off,rfl⟩
     have htx:=HT.out.belowB HBEi.out htop
     obtain ⟨hlb,cA⟩:=htx.ltr.cell (i:=at0+k) (by rw [HN.out];exact hak)
     obtain ⟨_,cB⟩:=htx.ltr.cell (i:=bf+k) (by rw [HN.out];exact hbk)
     have HTX:=Lib.hid htx
     clear htx
     by_cases hle:T.getD (at0+k) 0=T.getD (bf+k) 0
     ·have HSTEP:=Lib.hid (cmp_step HCMP.out hle)
      have HSM:=Lib.hid (HDS.out k HCMP.out)
      have hle':Hid (T.getD (at0+k) 0=T.getD (bf+k) 0):=Lib.hid hle
      rw [hle] at cA
      generalize T.getD (bf+k) 0=y at*
      have hbn:((y:Int) != (y:Int))=false:=bne_f rfl
      by_cases hk0:k=0
      ·subst hk0
       rw [Nat.add_zero] at cA cB hak hbk
       have HC1:=Lib.hid (HSTEP.out (fun h=>by omega))
       go_wp2_with fail
       go_quiet (fail)
       go_wp2_with fail
       refine ⟨⟨0+1,by omega,by first | rfl | go_num,HC1.out,bel_drewN HBI.out _⟩,?_⟩
       simp only [intOf_i];omega
      ·have hkp:0<k:=by omega
       have hc1:=isCut_i T (.slice (some ⟨lb,lo,none⟩) N lcap) (.slice (some ⟨sb,0,none⟩) (K+1) (K+1)) rb (at0+k)
       have hc2:=isCut_i T (.slice (some ⟨lb,lo,none⟩) N lcap) (.slice (some ⟨sb,0,none⟩) (K+1) (K+1)) rb (bf+k)
       rw [HN.out] at hc1 hc2
       have HCA:=Lib.hid hc1
       have HCB:=Lib.hid hc2
       have hld:=fun (W:World) (hW:Below wo.heap.size wo W)=>run_loadU (HBX.out.below hW (by omega))
       have HLD:=Lib.hid hld
       have HRI:=fun (W:World) (hW:Below wo.heap.size wo W)=>(HT.out.belowB (Below.trans HBE.out (Below.mono hW hsz)) htop).rise
       clear hc1 hc2 hld
       have hbnE:=fun q=>bel_drewN HBI.out q
       go_wp2_with fail
       go_quiet (fail)
       rename_i nq
       have hbn1:=hbnE nq
       generalize wr.drewN nq=wn at*
       have hl1:=HLD.out wn hbn1
       have hcA:=HCA.out wn (HRI wn hbn1) hak hlen
       clear hbnE
       go_wp2_with fail
       refine hcA.mono ?_
       rintro e w3 ⟨rfl,hb3⟩
       clear hcA hl1
       have hbn3:Below wo.heap.size wo w3:=Below.trans hbn1 (Below.mono hb3 hbn1.size)
       have hl3:=HLD.out w3 hbn3
       have hcB:=HCB.out w3 (HRI w3 hbn3) hbk hlen
       cases hi1:isc T (at0+k) with
       | false=>
         have HC1:=Lib.hid (HSTEP.out (fun _ hh=>by rw [hi1] at hh;simp at hh))
         clear hcB hl3
         go_wp2_with fail
         refine ⟨⟨k+1,by omega,by first | rfl | go_num,HC1.out,hbn3⟩,?_⟩
         simp only [intOf_i];omega
       | true=>
         go_wp2_with fail
         refine hcB.mono ?_
         rintro e w4 ⟨rfl,hb4⟩
         clear hcB hl3
         have hbn4:Below wo.heap.size wo w4:=Below.trans hbn3 (Below.mono hb4 hbn3.size)
         have HBN4:=Lib.hid hbn4
         cases hi2:isc T (bf+k) with
         | false=>
           have HC1:=Lib.hid (HSTEP.out (fun _ hh=>by rw [hi2] at hh;simp at hh))
           clear hi1 hi2
           go_wp2_with fail
           refine ⟨⟨k+1,by omega,by first | rfl | go_num,HC1.out,HBN4.out⟩,?_⟩
           simp only [intOf_i];omega
         | true=>
           have hdf:=HSM.out hkp hle'.out hi1 hi2
           have hdq:=HSAME.out hdf
           have HQ4:=Lib.hid (HQ.out.below hbn4 (by omega))
           have f4:=HQ4.out.frozen (at0/2)
           have c4:w4.cell? ⟨w.heap.size+1,at0/2,none⟩=some (.int .i64 qv):=by
            have:=hbn4.cell (p:=⟨w.heap.size+1,at0/2,none⟩) (by simp;omega)
            rw [this]
            exact CQ.out
           have hv:((ds T F (i+1)-1:Nat):Int)=(ds T F i:Int)-1:=by omega
           have hset:=HQ4.out.set (at0/2) (.int .i64 ((ds T F i:Int)-1))
           rw [i64s_set] at hset
           have HSET:=Lib.hid hset
           have hP:=HPUT.out
           rw [hv] at hP
           have HP:=Lib.hid hP
           have HX4:=Lib.hid (HBX.out.below hbn4 (by omega))
           have hB4:Below w.heap.size w (w4.setCell ⟨w.heap.size+1,at0/2,none⟩ (.int .i64 ((ds T F i:Int)-1))):=(Below.trans HBE.out (Below.mono hbn4 hsz)).setCell (by simp) _
           have HB4:=Lib.hid hB4
           have HX5:=Lib.hid (HX4.out.setOther (p:=⟨w.heap.size+1,at0/2,none⟩) (by simp) (.int .i64 ((ds T F i:Int)-1)))
           have HDQ:=Lib.hid hdq
           clear hi1 hi2 hdf hset hB4 hbn4 hb4 hb3 hdq hv hP
           go_wp2_with fail
           simp only [Exit.noGoto_exit]
           go_wp2_with fail
           refine ⟨⟨i+1,_,at0,by omega,by first | rfl | go_num,by rw [HDQ.out],rfl,by rw [if_neg (by omega)];exact HATF.out,HP.out,HSET.out,HX5.out,HB4.out⟩,?_⟩
           simp only [intOf_i];omega
     ·have hdf:=HDF.out k HCMP.out (.inr ⟨hak,hbk,hle⟩)
      have hbnE:=fun q=>bel_drewN HBI.out q
      have hne:((T.getD (at0+k) 0:Nat):Int)≠((T.getD (bf+k) 0:Nat):Int):=by omega
      generalize T.getD (at0+k) 0=y1 at*
      generalize T.getD (bf+k) 0=y2 at*
      have hbn:((y1:Int) != (y2:Int))=true:=bne_t hne
      by_cases hk0:k=0
      ·subst hk0
       rw [Nat.add_zero] at cA cB hak hbk
       go_wp2_with fail
       go_quiet (fail)
       rename_i nq
       have hbn1:=hbnE nq
       generalize wr.drewN nq=wn at*
       clear hbnE cqi fqi b0i
       have HDQ:=Lib.hid (HDIFF.out hdf)
       have hv:((ds T F (i+1)-1:Nat):Int)=(ds T F i:Int):=by have:=HDQ.out;omega
       have hset:=(HQ.out.below hbn1 (by omega)).set (at0/2) (.int .i64 (ds T F i:Int))
       rw [i64s_set] at hset
       have HSET:=Lib.hid hset
       have f4:=(HQ.out.below hbn1 (by omega)).frozen (at0/2)
       have c4:wn.cell? ⟨w.heap.size+1,at0/2,none⟩=some (.int .i64 qv):=by
        have:=hbn1.cell (p:=⟨w.heap.size+1,at0/2,none⟩) (by simp;omega)
        rw [this]
        exact CQ.out
       have hP:=HPUT.out
       rw [hv] at hP
       have HP:=Lib.hid hP
       have HX5:=Lib.hid ((HBX.out.below hbn1 (by omega)).setOther (p:=⟨w.heap.size+1,at0/2,none⟩) (by simp) (.int .i64 (ds T F i:Int)))
       have hB4:Below w.heap.size w (wn.setCell ⟨w.heap.size+1,at0/2,none⟩ (.int .i64 (ds T F i:Int))):=(Below.trans HBE.out (Below.mono hbn1 hsz)).setCell (by simp) _
       have HB4:=Lib.hid hB4
       clear hdf hset hB4 hbn1 hv hP
       go_wp2_with fail
       simp only [Exit.noGoto_normal]
       go_wp2_with fail
       refine ⟨⟨i+1,_,at0,by omega,by first | rfl | go_num,by rw [HDQ.out];first | rfl | go_num,rfl,by rw [if_neg (by omega)];exact HATF.out,HP.out,HSET.out,HX5.out,HB4.out⟩,?_⟩
       simp only [intOf_i];omega
      ·have hkp:0<k:=by omega
       go_wp2_with fail
       go_quiet (fail)
       rename_i nq
       have hbn1:=hbnE nq
       generalize wr.drewN nq=wn at*
       clear hbnE cqi fqi b0i
       have HDQ:=Lib.hid (HDIFF.out hdf)
       have hv:((ds T F (i+1)-1:Nat):Int)=(ds T F i:Int):=by have:=HDQ.out;omega
       have hset:=(HQ.out.below hbn1 (by omega)).set (at0/2) (.int .i64 (ds T F i:Int))
       rw [i64s_set] at hset
       have HSET:=Lib.hid hset
       have f4:=(HQ.out.below hbn1 (by omega)).frozen (at0/2)
       have c4:wn.cell? ⟨w.heap.size+1,at0/2,none⟩=some (.int .i64 qv):=by
        have:=hbn1.cell (p:=⟨w.heap.size+1,at0/2,none⟩) (by simp;omega)
        rw [this]
        exact CQ.out
       have hP:=HPUT.out
       rw [hv] at hP
       have HP:=Lib.hid hP
       have HX5:=Lib.hid ((HBX.out.below hbn1 (by omega)).setOther (p:=⟨w.heap.size+1,at0/2,none⟩) (by simp) (.int .i64 (ds T F i:Int)))
       have hB4:Below w.heap.size w (wn.setCell ⟨w.heap.size+1,at0/2,none⟩ (.int .i64 (ds T F i:Int))):=(Below.trans HBE.out (Below.mono hbn1 hsz)).setCell (by simp) _
       have HB4:=Lib.hid hB4
       clear hdf hset hB4 hbn1 hv hP
       go_wp2_with fail
       simp only [Exit.noGoto_normal]
       go_wp2_with fail
       refine ⟨⟨i+1,_,at0,by omega,by first | rfl | go_num,by rw [HDQ.out];first | rfl | go_num,rfl,by rw [if_neg (by omega)];exact HATF.out,HP.out,HSET.out,HX5.out,HB4.out⟩,?_⟩
       simp only [intOf_i];omega
    ·have hdf:=HDF.out k HCMP.out (.inl (by omega))
     have hbn1:=HBI.out
     have HDQ:=Lib.hid (HDIFF.out hdf)
     have hv:((ds T F (i+1)-1:Nat):Int)=(ds T F i:Int):=by have:=HDQ.out;omega
     have hset:=(HQ.out.below hbn1 (by omega)).set (at0/2) (.int .i64 (ds T F i:Int))
     rw [i64s_set] at hset
     have HSET:=Lib.hid hset
     have f4:=(HQ.out.below hbn1 (by omega)).frozen (at0/2)
     have c4:wr.cell? ⟨w.heap.size+1,at0/2,none⟩=some (.int .i64 qv):=by
      have:=hbn1.cell (p:=⟨w.heap.size+1,at0/2,none⟩) (by simp;omega)
      rw [this]
      exact CQ.out
     have hP:=HPUT.out
     rw [hv] at hP
     have HP:=Lib.hid hP
     have HX5:=Lib.hid ((HBX.out.below hbn1 (by omega)).setOther (p:=⟨w.heap.size+1,at0/2,none⟩) (by simp) (.int .i64 (ds T F i:Int)))
     have hB4:Below w.heap.size w (wr.setCell ⟨w.heap.size+1,at0/2,none⟩ (.int .i64 (ds T F i:Int))):=(Below.trans HBE.out (Below.mono hbn1 hsz)).setCell (by simp) _
     have HB4:=Lib.hid hB4
     clear hdf hset hB4 hbn1 hv hP
     go_wp2_with fail
     simp only [Exit.noGoto_normal]
     go_wp2_with fail
     refine ⟨⟨i+1,_,at0,by omega,by first | rfl | go_num,by rw [HDQ.out];first | rfl | go_num,rfl,by rw [if_neg (by omega)];exact HATF.out,HP.out,HSET.out,HX5.out,HB4.out⟩,?_⟩
     simp only [intOf_i];omega
  ·obtain rfl:i=M:=by omega
   have HNE:=Lib.hid (show ∀ c,isc T c=true→Q.getD (c/2) 0=(num T F c:Int) from fun c hc=>num_end HF.out.cuts (by rw [HM.out];exact HNUM.out) hc)
   have HNI:=Lib.hid (show ∀ c,isc T c=true→num T F c<ds T F F.length from fun c hc=>num_in HF.out hc)
   have hdsm:=ds_le (T:=T) (F:=F) i
   have hQl:=HNUM.out.1
   have HQL:=Lib.hid hQl
   rw [← HM.out] at hdsi
   clear HNUM hbf hQl b0
   obtain ⟨wo,hwo⟩:∃ wo:World,wo=wr:=⟨_,rfl⟩
   subst hwo
   go_wp2_with (at_make;refine wpList_make_full _ rfl _ _ 88 rfl w.heap.size 3 i0 (.int .i64 0) 1 Tryz.underlying88 Hi.out Hz0.out Hz1.out .i64 .i64 _ _ m rfl rfl (by first | rfl | omega) (by first | rfl | omega) (by rw [Hz2.out];omega) (by unfold maxLen;omega) hsz ?_;intro w2 hown hgr)
   have HG2:Hid (Blk w2 wo.heap.size 3 (i64s (List.replicate m 0))):=Lib.hid (by
    have:=made_blk hown
    rw [madeI] at this
    exact this)
   have HQ2:Hid (Blk w2 (w.heap.size+1) 3 (i64s Q)):=Lib.hid (Blk.grown HQ.out hgr (by simp))
   have HB2:Hid (Below w.heap.size w w2):=Lib.hid (HBE.out.grown hgr hsz (by simp))
   have HBO:Hid (Below wo.heap.size wo w2):=Lib.hid ((Below.refl _ wo).grown hgr (Nat.le_refl _) (by simp))
   clear hown hgr HQ HBX
   go_wp2_with fail
   go_loopw [96] (fun x wr=>∃ (a:Nat) (L:List Int),a≤m∧x=.int .i64 a∧NamInv T F L a∧Blk wr wo.heap.size 3 (i64s L)∧Gr w2 wr wo.heap.size) (fun x _=>m-(intOf x).toNat)
   case atStart=>exact ⟨0,_,Nat.zero_le _,rfl,by have:=nam_start T F;rwa [Hm.out] at this,HG2.out,Gr.refl _ _⟩
   case round=>
    obtain ⟨a,L,ham,rfl,hL,hb,hg⟩:=hrel
    have HL:=Lib.hid hL
    have HBL:=Lib.hid hb
    have HGL:=Lib.hid hg
    have HQ3:=Lib.hid (blk_gr hg (by omega) HQ2.out)
    have HBW:=Lib.hid (Below.trans HB2.out (Gr.below hg HB2.out.size (by omega)))
    clear hL hb hg
    by_cases hlt2:a<m
    ·have haC:a<(cutsOf T).length:=by rw [Hm.out];exact hlt2
     obtain ⟨b,off,rfl,hbw,cc⟩:=HCV.out a haC
     rw [← HBW.out.cell (p:=⟨b,off+a,none⟩) hbw] at cc
     have hcut:=((cutsOf_is T).2 _).1 (getD_mem (cutsOf T) 0 haC)
     have hcT:=(isc_parts hcut).2.2.2
     rw [HN.out] at hcT
     have hne:=HNE.out _ hcut
     have HPUT:=Lib.hid (nam_put HL.out haC)
     have cq:=HQ3.out.cell (i64s_get Q ((cutsOf T).getD a 0/2) (by rw [HQL.out,HN.out];omega))
     rw [hne] at cq
     have cl:=HBL.out.cell (i64s_get L a (by rw [HL.out.1];exact haC))
     have fl:=HBL.out.frozen a
     have hset:=HBL.out.set a (.int .i64 (num T F ((cutsOf T).getD a 0):Nat))
     rw [i64s_set] at hset
     have HSET:=Lib.hid hset
     have HGS:=Lib.hid (HGL.out.setCell a (.int .i64 (num T F ((cutsOf T).getD a 0):Nat)))
     clear hset hne
     generalize (cutsOf T).getD a 0=c at*
     generalize num T F c=v at*
     generalize L.getD a 0=old at*
     have hq3:0≤(c:Int)/2:=by omega
     have hq4:(c:Int)/2<(N:Int)/2+1:=by omega
     have hq5:((c:Int)/2).toNat=c/2:=by omega
     go_wp2_with fail
     refine ⟨⟨a+1,_,by omega,by first | rfl | go_num,HPUT.out,HSET.out,HGS.out⟩,?_⟩
     simp only [intOf_i];omega
    ·obtain rfl:a=m:=by omega
     have hL2:L=nI (nameOf T F):=nam_end (by rw [Hm.out];exact HL.out)
     have hLl:L.length=a:=by have:=HL.out.1;rw [Hm.out] at this;exact this
     have HOWN:Hid (wr.ownsRow w.heap.size 3 1 (.slice (some ⟨wo.heap.size,0,none⟩) a a) a (i64s (nI (nameOf T F)))):=Lib.hid (by
      rw [← hL2]
      exact ⟨by rw [i64s_length];omega,.inr ⟨wo.heap.size,a,(i64s L).toArray,rfl,hsz,HBL.out,Nat.le_refl _,by unfold maxLen;omega,by simp [i64s,hLl],by rw [Nat.mul_one];exact List.take_of_length_le (by rw [i64s_length];omega)⟩⟩)
     clear hL2 hLl HL HBL
     go_wp2_with fail
     try simp only [Exit.noGoto_ret]
     go_ret2
     exact ⟨_,_,by rw [Hm.out,HM.out];rfl,by rw [Hm.out];exact HOWN.out,HBW.out⟩
end Go.Proofs.YtmjpnbadfmgimaaGreatDoor.S8

/- Texts put together: SealR. -/
import Derived.Test.YtmjpnbadfmgimaaGreatDoorEg49
set_option linter.unusedSimpArgs false
set_option linter.unusedVariables false
set_option maxRecDepth 100000
namespace Go.Proofs.YtmjpnbadfmgimaaGreatDoor.S16
open Go.RowKit Pl S3 S3.Pl S14
attribute [local go_sem ↓] loadR_eq storeR_eq sliceQc_eq
set_option maxHeartbeats 16000000 in
theorem sealedRaw_walk (a:Option Addr) (len cap:Nat) (w:World) (hT:Tab w) (h:IsRecs [.int .i64,.int .i64,.str,.str] w a len∧(a=none→len=0∧cap=0)∧len≤cap∧cap≤maxLen):
  Calls Tryz.prog 4 #[.slice a len cap] w fun e w'=>e=.returned (.bool true)∧Below w.heap.size w w':=by
 obtain ⟨L,hLl,hR,hRI⟩:=recs_in h.1 h.2.2.1 h.2.2.2
 have hlm:=h.2.2.1
 have hcm:=h.2.2.2
 unfold maxLen at hcm
 have HT:=Lib.hid hT
 have HR:=Lib.hid hR
 have HRI:=Lib.hid hRI
 have HLl:=Lib.hid hLl
 clear hT h hR hRI hLl
 go_enter Tryz.func4,Tryz.ntmps4
 go_wp2_with fail
 refine (begun16_any w HT.out).mono ?_
 rintro e w0 ⟨rfl,HB0⟩
 have HR0:=Lib.hid (HR.out.below HB0.out)
 clear HR
 by_cases h20:20<len
 focus
  obtain ⟨sp,cp,hsl,HG⟩:=recs_upto HR0.out 20 (by rw [HLl.out];omega)
  obtain ⟨N,hNe⟩:∃ N:Nat,N=20:=⟨_,rfl⟩
  obtain ⟨G,hG⟩:∃ G,L.take 20=G:=⟨_,rfl⟩
  have hsl:∀ W,(sliceQc (.slice a len cap) none (some (.int .i64 20)) none).run Tryz.prog W=.ok (.slice sp N cp) W:=by rw [hNe];exact hsl
  rw [hG] at HG
  have HG:Hid (RecsAt w0 (.slice sp N cp) G):=Lib.hid (by rw [hNe];exact HG.out)
  have HGI:Hid (∀ r∈G,RIn r):=Lib.hid fun r hr=>HRI.out r (List.mem_of_mem_take (by rw [hG];exact hr))
  have HGl:Hid (G.length=N):=Lib.hid (by rw [← hG,List.length_take,HLl.out];omega)
  have q1:decide ((20:Int)<(len:Int))=true:=by simp;omega
  have hN:N≤20:=by omega
  clear hNe hG HR0 HRI HLl
  go_wp2_with fail
  clear hsl q1 h20 hlm hcm
 rotate_left
 focus
  have hN:len≤20:=by omega
  have q1:decide ((20:Int)<(len:Int))=false:=by simp;omega
  have q2:decide (20<len)=false:=by simp;omega
  go_wp2_with fail
  clear q1 q2 h20 hlm hcm
  obtain ⟨sp,rfl⟩:∃ sp,sp=a:=⟨_,rfl⟩
  obtain ⟨N,rfl⟩:∃ N,N=len:=⟨_,rfl⟩
  obtain ⟨cp,rfl⟩:∃ cp,cp=cap:=⟨_,rfl⟩
  obtain ⟨G,rfl⟩:∃ G,G=L:=⟨_,rfl⟩
  have HG:=HR0
  have HGI:=HRI
  have HGl:=HLl
  clear HR0 HRI HLl
 rotate_left
 all_goals
  go_loopw [4,5,6] (fun x y z wr=>∃ (i:Nat) (M:List RT) (c:Nat),i≤N∧z=.int .i64 i∧y=.int .i64 c∧Hid (M.length=i)∧Hid (badF M=c)∧Hid (∀ r∈M,r.key.size≤110∧r.val.size≤300)∧Hid (OwnRecs w0.heap.size wr x M)∧Hid (Below w0.heap.size w0 wr)) (fun _ _ z _=>N-(intOf z).toNat)
  case atStart=>exact ⟨0,[],0,by omega,rfl,rfl,Lib.hid rfl,Lib.hid rfl,Lib.hid (by simp),Lib.hid (ownRecs_nil _ _),Lib.hid (Below.refl _ _)⟩
  case round=>
   obtain ⟨i,M,c,hi,rfl,rfl,HMi,HBD,HSZ,HO,HB⟩:=hrel
   obtain ⟨so,co,rfl,-,-⟩:=HO.out.slice
   obtain ⟨Mn,hMn⟩:∃ Mn,M.length=Mn:=⟨_,rfl⟩
   have hMn20:Mn≤20:=by have:=HMi.out;omega
   rw [hMn] at HO ⊢
   have HMN:=Lib.hid hMn
   clear hMn
   have HBW:=Lib.hid (HB0.out.trans (HB.out.mono HB0.out.size))
   by_cases hlt:i<N
   ·obtain ⟨b,off,rfl,hld1⟩:=(HG.out.below HB.out).load (W:=wr) (i:=i) (by rw [HGl.out];exact hlt)
    have hld:=hld1 wr (Below.refl _ _)
    obtain ⟨r,hr⟩:∃ r,G.getD i zR=r:=⟨_,rfl⟩
    have hmem:r∈G:=by rw [← hr,getD_of (by rw [HGl.out];exact hlt)];exact List.getElem_mem _
    rw [hr] at hld
    have hri:=HGI.out r hmem
    have hi1:(i:Int)<(N:Int):=by omega
    have HCUT:=Lib.hid (cut_rec r wr hri.key hri.val)
    have hsz1:=cutS_size r.key 110
    have hsz2:=cutS_size r.val 300
    obtain ⟨q,hq⟩:∃ q,cutR r=q:=⟨_,rfl⟩
    have hq1:q.key.size≤110:=by rw [← hq];exact hsz1
    have hq2:q.val.size≤300:=by rw [← hq];exact hsz2
    rw [hq] at HCUT
    clear hld1 hr hmem hri hsz1 hsz2 hq
    go_wp2_with fail
    refine HCUT.out.mono ?_
    rintro e w2 ⟨rfl,hb2⟩
    obtain ⟨w3,hst,HR3,HG3⟩:=back_rec (w:=w2) q (Blk.new w2 26 (recL zR)) ((Below.refl _ _).alloc (Nat.le_refl _) _) (Nat.le_refl _)
    simp only [recL,zR] at hst
    have hb3:Below wr.heap.size wr w3:=hb2.out.trans (HG3.out.mono hb2.out.size)
    have HO3:=Lib.hid (HO.out.below hb3)
    have HB3:Hid (Below w0.heap.size w0 w3):=Lib.hid (HB.out.trans (hb3.mono HB.out.size))
    have hld3:=run_loadR_blk HR3.out
    have hsz3:=HB3.out.size
    have HSZ':Hid (∀ r∈M++[q],r.key.size≤110∧r.val.size≤300):=Lib.hid (by intro x hx;rw [List.mem_append,List.mem_singleton] at hx;exact hx.elim (HSZ.out x) (fun h=>by rw [h];exact ⟨hq1,hq2⟩))
    have hob:∀ k,(Value.slice so Mn co).ownBlock=some k→k<w2.heap.size:=fun k hk=>Nat.lt_of_lt_of_le (World.ownsRow.lt HO.out k hk).2 hb2.out.size
    clear hb2 hb3 HO HB HCUT hld HG3
    by_cases h0:c=0
    ·subst h0
     go_wp2_with (at_builtin;refine wpList_append_rec rfl (.tmp 29) (.tmp 31) rfl w0.heap.size _ M rfl HO3.out q rfl (by rw [HMN.out];omega) hsz3 ?_;intro v' w5 hown hgr;have HO5:=Lib.hid hown;have HR5:=Lib.hid ((HR3.out.below ((Below.refl _ _).alloc (Nat.le_refl _) _) HR3.out.lt).grown hgr (fun e=>by have:=hob _ e.symm;omega));have HB5:=Lib.hid ((HB3.out.alloc hsz3 _).grown hgr (by simp;omega) HO3.out.lt);clear hown hgr;have hld5:=run_loadR_blk HR5.out)
     have HCK:=Lib.hid (refCheck_any q w5 (by unfold maxLen;omega) (by unfold maxLen;omega))
     obtain ⟨d,hd⟩:∃ d,chk q=d:=⟨_,rfl⟩
     rw [hd] at HCK
     have HBD':Hid (badF (M++[q])=d):=Lib.hid (by rw [bad_snoc,if_pos HBD.out,hd])
     clear hd
     go_wp2_with fail
     refine HCK.out.mono ?_
     rintro e w6 ⟨rfl,hb6⟩
     have HO6:=Lib.hid (OwnRecs.below HO5.out hb6)
     have HB6:=Lib.hid (HB5.out.trans (hb6.mono HB5.out.size))
     clear hb6 HCK hld5 hld3 hst
     go_wp2_with fail
     go_roundw
     case rel=>exact ⟨i+1,M++[q],d,by omega,by go_num,rfl,Lib.hid (by simp;exact HMi.out),HBD',HSZ',HO6,HB6⟩
     case measure=>simp [intOf];omega
    ·have q0:((c:Int)==0)=false:=beq_f (by omega)
     have HBD':Hid (badF (M++[q])=c):=Lib.hid (by rw [bad_snoc,if_neg (by rw [HBD.out];exact h0),HBD.out])
     clear h0
     go_wp2_with (at_builtin;refine wpList_append_rec rfl (.tmp 29) (.tmp 31) rfl w0.heap.size _ M rfl HO3.out q rfl (by rw [HMN.out];omega) hsz3 ?_;intro v' w5 hown hgr;have HO5:=Lib.hid hown;have HR5:=Lib.hid ((HR3.out.below ((Below.refl _ _).alloc (Nat.le_refl _) _) HR3.out.lt).grown hgr (fun e=>by have:=hob _ e.symm;omega));have HB5:=Lib.hid ((HB3.out.alloc hsz3 _).grown hgr (by simp;omega) HO3.out.lt);clear hown hgr;have hld5:=run_loadR_blk HR5.out)
     clear hld5 hld3 hst
     go_roundw
     case rel=>exact ⟨i+1,M++[q],c,by omega,by go_num,rfl,Lib.hid (by simp;exact HMi.out),HBD',HSZ',HO5,HB5⟩
     case measure=>simp [intOf];omega
   ·have HRM:=HO.out.at
    have hvm:=vals_few fun r hr=>(HSZ.out r hr).2
    rw [HMN.out] at hvm
    have HBu:=Lib.hid (build_any _ M wr (HT.out.below HBW.out) HRM (by rw [HMN.out];omega) (fun r hr=>by have:=HSZ.out r hr;unfold maxLen;omega) (by omega))
    clear HRM hvm
    go_wp2_with fail
    refine HBu.out.mono ?_
    rintro e w6 ⟨HB6,⟨h1,sp6,n6,cp6,rfl,HN6,HI6⟩ | ⟨d,h1,h2,rfl⟩⟩
    ·have hc:c=0:=by have:=HBD.out;omega
     subst hc
     have HBF:=Lib.hid (HBW.out.trans (HB6.out.mono HBW.out.size))
     clear HBu h1
     go_wp2
     go_ret
     exact ⟨rfl,HBF.out⟩
    ·have hc:c=d:=by have:=HBD.out;omega
     subst hc
     have q1:((c:Int)==(c:Int))=true:=beq_t rfl
     have q2:((c:Int)==0)=false:=beq_f (by omega)
     have HBF:=Lib.hid (HBW.out.trans (HB6.out.mono HBW.out.size))
     clear HBu h1 h2
     go_wp2
     go_ret
     exact ⟨rfl,HBF.out⟩
end Go.Proofs.YtmjpnbadfmgimaaGreatDoor.S16

/- Texts put together: SufSi, SufT. -/
import Derived.Test.YtmjpnbadfmgimaaGreatDoorFg18
import Derived.Test.YtmjpnbadfmgimaaGreatDoorFg22
import Derived.Test.YtmjpnbadfmgimaaGreatDoorFg24
import Derived.Test.YtmjpnbadfmgimaaGreatDoorFg26
import Derived.Test.YtmjpnbadfmgimaaGreatDoorFg27
set_option linter.unusedSimpArgs false
set_option linter.unusedVariables false
set_option maxRecDepth 100000
set_option maxHeartbeats 32000000
namespace Go.Proofs.YtmjpnbadfmgimaaGreatDoor.Pl
end Go.Proofs.YtmjpnbadfmgimaaGreatDoor.Pl
namespace Go.Proofs.YtmjpnbadfmgimaaGreatDoor.S8.Pl
end Go.Proofs.YtmjpnbadfmgimaaGreatDoor.S8.Pl
namespace Go.Proofs.YtmjpnbadfmgimaaGreatDoor.S8
open Go.RowKit _root_.Go.Proofs.YtmjpnbadfmgimaaGreatDoor.Pl _root_.Go.Proofs.YtmjpnbadfmgimaaGreatDoor.S8.Pl
attribute [local go_sem ↓] loadU_eq
theorem sorted_i (T:List Nat) (K:Nat) (lv:Value) (w:World) (hl:LetI w w.heap.size lv T) (hk:∀ x∈T,x<K) (hK0:0<K) (hlen:T.length≤1000000) (hlenK:K≤1000000)
  (hrec:∀ (U:List Nat) (D:Nat) (uv:Value) (w1:World),U.length<T.length→LetI w1 w1.heap.size uv U→(∀ x∈U,x<D)→0<D→D≤1000000→Calls Tryz.prog 99 #[uv,.int .i64 D] w1 (SortPost U w1)):
  Calls Tryz.prog 99 #[lv,.int .i64 K] w (SortPost T w):=by
 have htx:=textOf_i T K lv w hl hk hlen hlenK
 obtain ⟨la,lcap,rfl,_⟩:=hl.at
 have HL:=Lib.hid hl
 have HREC:=Lib.hid hrec
 obtain ⟨N,hN⟩:∃ N,T.length=N:=⟨_,rfl⟩
 have HN:=Lib.hid hN
 rw [hN] at hlen htx ⊢
 clear hl hk hrec hN
 go_enter Tryz.func99,Tryz.ntmps99
 go_wp2_with fail
 refine htx.mono ?_
 rintro e w1 ⟨rb,sb,rfl,htx1,hb1⟩
 clear htx
 rw [HN.out]
 unfold txV
 have hw1:=hb1.size
 obtain ⟨tb,htb⟩:∃ tb,w1.heap.size=tb:=⟨_,rfl⟩
 obtain ⟨wb,hwb⟩:∃ wb,w1.alloc (.cells #[.slice la N lcap,.slice (some ⟨rb,0,none⟩) N N,.slice (some ⟨sb,0,none⟩) (K+1) (K+1)] 171)=wb:=⟨_,rfl⟩
 have hszb:wb.heap.size=tb+1:=by rw [← hwb];simp [htb]
 have hbb:Below w1.heap.size w1 wb:=by rw [← hwb];exact (Below.refl _ _).alloc (Nat.le_refl _) _
 have htbb:Blk wb tb 171 [.slice la N lcap,.slice (some ⟨rb,0,none⟩) N N,.slice (some ⟨sb,0,none⟩) (K+1) (K+1)]:=by rw [← hwb,← htb];exact Blk.new w1 _ _
 have htxb:=htx1.below hbb
 rw [htb] at htxb
 have HTX:=Lib.hid htxb
 have HTB:=Lib.hid htbb
 have HBB:=Lib.hid (Below.trans hb1 (Below.mono hbb hw1))
 have hrbt:=htxb.rb
 have hsbt:=htxb.sb
 have HN':=HN.out
 clear htx1 hb1 hbb htbb htxb
 have htl:tb<wb.heap.size:=by omega
 obtain ⟨i0,hi,hz0,hz1,hz2⟩:=infoI_parts infoI
 clear hi hz0 hz1 hz2
 go_wp2_with fail
 go_loopw [6,18] (fun x y wr=>∃ (i:Nat) (sp:Option Addr) (n cap:Nat),i≤N∧y=.int .i64 i∧x=.slice sp n cap∧n=(cutsTo T i).length∧n≤i∧wr.ownsRow wb.heap.size 3 1 (.slice sp n cap) n (i64s (nI (cutsTo T i)))∧Below wb.heap.size wb wr) (fun _ y _=>N-(intOf y).toNat)
 case atStart=>exact ⟨0,none,0,0,Nat.zero_le _,rfl,rfl,rfl,Nat.zero_le _,own_nilI _ _,Below.refl _ _⟩
 case round=>
  obtain ⟨i,sp,n,cap,hiN,rfl,rfl,hn,hni,ho,hb⟩:=hrel
  have HNN:=Lib.hid hn
  have HO:=Lib.hid ho
  have HB:=Lib.hid hb
  have hszr:=hb.size
  have HTBr:=Lib.hid (HTB.out.below hb htl)
  have HTXr:=Lib.hid (HTX.out.belowB hb (by omega))
  have hld:=run_loadU HTBr.out
  clear hn ho hb
  by_cases hlt:i<N
  ·have hc:=isCut_i T (.slice la N lcap) (.slice (some ⟨sb,0,none⟩) (K+1) (K+1)) rb i wr HTXr.out.rise (by rw [HN.out];exact hlt) (by rw [HN.out];exact hlen)
   rw [HN.out] at hc
   cases hci:isc T i with
   | false=>
     rw [hci] at hc
     have HNO:=Lib.hid (cutsTo_no hci)
     clear hci
     go_wp2_with fail
     refine hc.mono ?_
     rintro e w2 ⟨rfl,hb2⟩
     have HO2:=Lib.hid (own_below HO.out hb2)
     have HB2:=Lib.hid (Below.trans HB.out (Below.mono hb2 hszr))
     clear hb2 hc hld
     go_wp2_with fail
     refine ⟨⟨i+1,sp,n,cap,by omega,by first | rfl | go_num,rfl,by rw [HNO.out];exact HNN.out,by omega,by rw [HNO.out];exact HO2.out,HB2.out⟩,?_⟩
     simp only [intOf_i];omega
   | true=>
     rw [hci] at hc
     have HYES:=Lib.hid (cutsTo_yes hci)
     clear hci
     go_wp2_with fail
     refine hc.mono ?_
     rintro e w2 ⟨rfl,hb2⟩
     have HO2:=Lib.hid (own_below HO.out hb2)
     have HB2:=Lib.hid (Below.trans HB.out (Below.mono hb2 hszr))
     have hsz2:=HB2.out.size
     clear hb2 hc hld
     go_wp2_with (at_builtin;refine wpList_append_int rfl (.tmp 24) (.tmp 26) rfl wb.heap.size (.slice sp n cap) n (nI (cutsTo T i)) (i:Int) rfl HO2.out _ rfl rfl (by omega) hsz2 ?_;intro v' w3 hown hgr)
     have hB3:Below wb.heap.size wb w3:=bel_append HB2.out _ HO2.out hgr hsz2
     obtain ⟨sp3,cap3,rfl,_,_⟩:=ownsRow_slice hown
     have HO3:=Lib.hid hown
     have HB3:=Lib.hid hB3
     clear hown hgr hB3
     go_wp2_with fail
     refine ⟨⟨i+1,sp3,n+1,cap3,by omega,by first | rfl | go_num,rfl,by rw [HYES.out,List.length_append,← HNN.out];rfl,by omega,by rw [HYES.out,nI_snoc];exact HO3.out,HB3.out⟩,?_⟩
     simp only [intOf_i];omega
  ·obtain rfl:i=N:=by omega
   have hcz:cutsTo T i=cutsOf T:=by rw [← HN.out];exact cutsTo_all
   rw [hcz] at HO HNN
   clear hcz
   have hTN:=HN.out
   have hcv:=isInts_ownA HO.out
   have hin:=induced_i T (cutsOf T) K tb rb sb (.slice la i lcap) (.slice sp n cap) wr (cutsOf_is T) (by rw [← HNN.out];omega) (by have:=HTXr.out;exact this) hK0 hcv
   unfold txV at hin
   rw [HN.out] at hin
   have HCV:=Lib.hid hcv
   clear hcv hTN
   go_wp2_with fail
   refine hin.mono ?_
   rintro e w2 ⟨g,O,rfl,hgw,hO,hOl,hOp,hb2⟩
   clear hin hld
   rw [HN.out] at hO
   obtain ⟨R0,rfl,hR0l,hR0p,hR0m⟩:=order_of (cutsOf_is T) hOl hOp
   obtain ⟨hF,hFg⟩:=ordered_filter (cutsOf_is T) hR0p hR0m
   have hFl:(R0.filter (isc T)).length=n:=by rw [HNN.out];exact cuts_length hF.cuts (cutsOf_is T)
   have hTB2:=HTBr.out.below hb2 (by omega)
   have hTX2:=HTXr.out.belowB hb2 (by omega)
   have hdel:=delete_i T (.slice la i lcap) (.slice (some ⟨sb,0,none⟩) (K+1) (K+1)) rb tb g i R0 w2 (by rw [hR0l,HN.out];exact hO) ⟨by rw [HN.out];exact hTB2,hTX2.rise⟩ (by omega) (by omega) (fun x hx=>(hR0m x).1 hx) (by rw [HN.out];exact hlen) (by rw [hR0l,HN.out];exact hlen)
   rw [hR0l,HN.out,hFl] at hdel
   have HF:=Lib.hid hF
   have HFG:=Lib.hid hFg
   have HFL:=Lib.hid hFl
   have HTB2:=Lib.hid hTB2
   have HTX2:=Lib.hid hTX2
   have HB2:=Lib.hid hb2
   have hsz2:=hb2.size
   have hmf:(Instr.makeFunc (.func 119) #[] #[.pointer (some ⟨tb,0,none⟩)]).run Tryz.prog w2=.ok (.func (.func 119) #[] #[.pointer (some ⟨tb,0,none⟩)]) w2:=rfl
   clear hF hFg hFl hTB2 hTX2 hb2 hO hOl hOp hR0p hR0m HTBr HTXr hR0l
   go_wp2_with fail
   refine hdel.mono ?_
   rintro e w3 ⟨rfl,hO3,hgr3⟩
   clear hdel hmf
   have hgwr:wr.heap.size≤g:=hgw
   have hBW3:Below wr.heap.size wr w3:=Below.trans HB2.out (Gr.below hgr3 hsz2 hgwr)
   have hcv3:=isInts_belowB HCV.out hBW3 (fun a x c e h0=>by
    obtain ⟨b,off,cp,e2,_,_,hb,_⟩:=HCV.out.cells h0
    rw [e] at e2
    simp at e2
    rw [e2.1];exact hb)
   have hTB3:=blk_gr hgr3 (by omega) HTB2.out
   have hTX3:=HTX2.out.keep hgr3 (by omega)
   have hld3:=run_loadU hTB3
   have hov3:=hO3.ints
   generalize R0.filter (isc T)=F at*
   have hnam:=named_i T F K tb rb sb (.slice la i lcap) (.slice sp n cap) (.slice (some ⟨g,0,none⟩) n i) w3 hTX3 HF.out (by rw [HFL.out];omega) (by rw [← HNN.out];omega) hcv3 hov3
   unfold txV at hnam
   rw [HN.out] at hnam
   have HCV3:=Lib.hid hcv3
   have HOV3:=Lib.hid hov3
   have HTB3:=Lib.hid hTB3
   have HTX3:=Lib.hid hTX3
   have HBW3:=Lib.hid hBW3
   have hsz3:=hBW3.size
   have hg3:=hO3.lt
   clear hcv3 hov3 hTB3 hTX3 hBW3 hO3 hgr3
   go_wp2_with fail
   refine hnam.mono ?_
   rintro e w4 ⟨sp4,cp4,rfl,hown4,hb4⟩
   clear hnam hld3
   rw [← HNN.out] at hown4 ⊢
   rw [HFL.out]
   have HOV4:=Lib.hid (HOV3.out.below hb4)
   have HCV4:=Lib.hid (HCV3.out.below hb4)
   have htb3:tb<w3.heap.size:=HTB3.out.lt
   have HTB4:=Lib.hid (HTB3.out.below hb4 htb3)
   have HTX4:=Lib.hid (HTX3.out.below hb4)
   have hsz4:=hb4.size
   have HBW4:=Lib.hid (Below.trans (Below.trans HBB.out (Below.mono HB.out (by omega))) (Below.mono (Below.trans HBW3.out (Below.mono hb4 hsz3)) (by omega)))
   have hdle:=ds_le (T:=T) (F:=F) n
   have HNAM:=Lib.hid (isInts_ownA hown4)
   clear hown4 hb4 HCV3 HOV3 HTB3 HTX3 HBW3
   obtain ⟨D,hD⟩:∃ D,ds T F n=D:=⟨_,rfl⟩
   rw [hD] at hdle ⊢
   have HD:=Lib.hid hD
   clear hD
   by_cases hDn:D<n
   ·have hUl:(nameOf T F).length=n:=by unfold nameOf;rw [List.length_map,← HNN.out]
    have hD0:0<D:=by
     have:=ds_one T F (n-1)
     rw [show n-1+1=n by omega,HD.out] at this
     omega
    have hUk:∀ x∈nameOf T F,x<D:=fun x hx=>by
     unfold nameOf at hx
     obtain ⟨c,hc,rfl⟩:=List.mem_map.1 hx
     have:=num_in HF.out (((cutsOf_is T).2 c).1 hc)
     rwa [HFL.out,HD.out] at this
    have hlt2:(nameOf T F).length<T.length:=by
     unfold nameOf
     rw [List.length_map]
     exact cutsOf_lt (by rw [HN.out];omega)
    have hre:=HREC.out (nameOf T F) D _ w4 hlt2 (letI_of HNAM.out) hUk hD0 (by omega)
    unfold SortPost at hre
    rw [hUl] at hre
    clear hUk hlt2
    go_wp2_with fail
    refine hre.mono ?_
    rintro e w5 ⟨g5,R5,rfl,hg5,hO5,hR5,hb5⟩
    clear hre
    have hR5l:R5.length=n:=by rw [sa_length hR5,hUl]
    have HR5L:=Lib.hid hR5l
    have HR5:=Lib.hid hR5
    have HO5:=Lib.hid hO5
    have hg5l:=hO5.lt
    have HCV5:=Lib.hid (HCV4.out.below hb5)
    have HTB5:=Lib.hid (HTB4.out.below hb5 (by omega))
    have HTX5:=Lib.hid (HTX4.out.below hb5)
    have HBW5:=Lib.hid (Below.trans HBW4.out (Below.mono hb5 HBW4.out.size))
    have hsz5:=hb5.size
    have hw45:w.heap.size≤w4.heap.size:=HBW4.out.size
    obtain ⟨cb,coff,rfl,hcb,hcc⟩:∃ cb coff,sp=some ⟨cb,coff,none⟩∧cb<w4.heap.size∧∀ x,x<n→w5.cell? ⟨cb,coff+x,none⟩=some (.int .i64 ((cutsOf T).getD x 0:Nat)):=by
     obtain ⟨b,off,cp,e,_,_,hb,hx⟩:=HCV4.out.cells (by rw [nI_length,← HNN.out];omega)
     simp at e
     refine ⟨b,off,e.1,hb,fun x hx2=>?_⟩
     rw [hb5.cell (p:=⟨b,off+x,none⟩) hb,hx x (by rw [nI_length,← HNN.out];exact hx2),nI_get]
    have HCC:=Lib.hid hcc
    clear hcc hO5 hR5 hb5 hR5l HNAM
    go_wp2_with fail
    go_loopw [50] (fun y wr=>∃ (k:Nat) (L:List Int),k≤n∧y=.int .i64 k∧MapInv (cutsOf T) R5 L k∧OwnI wr g5 n n L∧Gr w5 wr g5) (fun y _=>n-(intOf y).toNat)
    case atStart=>exact ⟨0,_,Nat.zero_le _,rfl,map_start _ _,HO5.out,Gr.refl _ _⟩
    case round=>
     obtain ⟨k,L,hkn,rfl,hm,ho,hg⟩:=hrel
     have HMI:=Lib.hid hm
     have HOk:=Lib.hid ho
     have HGk:=Lib.hid hg
     clear hm ho hg HO5
     by_cases hkl:k<n
     ·have hkR:k<R5.length:=by rw [HR5L.out];exact hkl
      have c1:=HOk.out.cell hkl
      rw [HMI.out.2 k hkR,if_neg (by omega)] at c1
      have hrn:R5.getD k 0<n:=by
       have:=(HR5.out.2 _).1 (getD_mem R5 0 hkR)
       rwa [hUl] at this
      have c2:=HCC.out (R5.getD k 0) hrn
      have c2:=gr_cell HGk.out (p:=⟨cb,coff+R5.getD k 0,none⟩) (by simp;omega) c2
      have f1:=HOk.out.frozen k
      have HPUT:=Lib.hid (map_put HMI.out hkR)
      have HOS:=Lib.hid (HOk.out.set k ((cutsOf T).getD (R5.getD k 0) 0:Nat))
      have HGS:=Lib.hid (HGk.out.setCell k (.int .i64 ((cutsOf T).getD (R5.getD k 0) 0:Nat)))
      generalize (cutsOf T).getD (R5.getD k 0) 0=v at*
      generalize R5.getD k 0=q at*
      go_wp2_with fail
      refine ⟨⟨k+1,_,by omega,by first | rfl | go_num,HPUT.out,HOS.out,HGS.out⟩,?_⟩
      simp only [intOf_i];omega
     ·obtain rfl:k=n:=by omega
      have hmi:=HMI.out
      rw [← HR5L.out] at hmi
      have hL:=map_end hmi
      subst hL
      obtain ⟨hcu,hri⟩:=cuts_by_names HF.out HR5.out
      have HCUT:=Lib.hid hcu
      have HRISE:=Lib.hid hri
      have hml:(R5.map fun a=>(cutsOf T).getD a 0).length=k:=by rw [List.length_map,HR5L.out]
      have htb6:=blk_gr HGk.out (by omega) HTB5.out
      have htx6:=HTX5.out.keep HGk.out (by omega)
      have hcv6:IsInts wr (.slice (some ⟨g5,0,none⟩) k k) (nI (R5.map fun a=>(cutsOf T).getD a 0)):=HOk.out.ints
      have HBW:Hid (Below w.heap.size w wr):=Lib.hid (Below.trans HBW5.out (Gr.below HGk.out HBW5.out.size (by omega)))
      have hwsz:=HBW.out.size
      have hld7:=run_loadU htb6
      have hin7:=induced_i T _ K tb rb sb (.slice la i lcap) (.slice (some ⟨g5,0,none⟩) k k) wr HCUT.out (by rw [hml];omega) htx6 hK0 hcv6
      unfold txV at hin7
      rw [HN.out] at hin7
      clear hmi hcu hri hml htb6 htx6 hcv6 HMI
      go_wp2_with fail
      refine hin7.mono ?_
      rintro e w7 ⟨g7,O7,rfl,hgw7,hO7,hOl7,hOp7,hb7⟩
      clear hin7 hld7
      obtain ⟨R7,rfl,hR7⟩:=sa_of HCUT.out HRISE.out hOl7 hOp7
      have hfin:SortPost T w (.returned (.slice (some ⟨g7,0,none⟩) T.length T.length)) w7:=⟨g7,R7,rfl,by omega,hO7,hR7,Below.trans HBW.out (Below.mono hb7 (by omega))⟩
      have HFIN:=Lib.hid hfin
      clear hO7 hOl7 hOp7 hb7 hR7 hfin hgw7
      go_wp2_with fail
      go_ret
      have:=HFIN.out
      rw [HN.out] at this
      exact this
   ·have hDn2:D=n:=by omega
    have HCUT:=Lib.hid HF.out.cuts
    have HRISE:=Lib.hid (all_different HF.out HFG.out (by rw [HFL.out,HD.out];exact hDn2))
    have hld7:=run_loadU HTB4.out
    have hin7:=induced_i T F K tb rb sb (.slice la i lcap) (.slice (some ⟨g,0,none⟩) n i) w4 HCUT.out (by rw [HFL.out];omega) HTX4.out hK0 HOV4.out
    unfold txV at hin7
    rw [HN.out] at hin7
    have HBW:=HBW4
    have hwsz:=HBW.out.size
    go_wp2_with fail
    refine hin7.mono ?_
    rintro e w7 ⟨g7,O7,rfl,hgw7,hO7,hOl7,hOp7,hb7⟩
    clear hin7 hld7
    obtain ⟨R7,rfl,hR7⟩:=sa_of HCUT.out HRISE.out hOl7 hOp7
    have hfin:SortPost T w (.returned (.slice (some ⟨g7,0,none⟩) T.length T.length)) w7:=⟨g7,R7,rfl,by omega,hO7,hR7,Below.trans HBW.out (Below.mono hb7 (by omega))⟩
    have HFIN:=Lib.hid hfin
    clear hO7 hOl7 hOp7 hb7 hR7 hfin hgw7
    go_wp2_with fail
    go_ret
    have:=HFIN.out
    rw [HN.out] at this
    exact this
end Go.Proofs.YtmjpnbadfmgimaaGreatDoor.S8
namespace Go.Proofs.YtmjpnbadfmgimaaGreatDoor.S8
open Go.RowKit _root_.Go.Proofs.YtmjpnbadfmgimaaGreatDoor.Pl _root_.Go.Proofs.YtmjpnbadfmgimaaGreatDoor.S8.Pl
theorem sortedInt_any:∀ (n:Nat) (T:List Nat) (K:Nat) (lv:Value) (w:World),T.length≤n→LetI w w.heap.size lv T→(∀ x∈T,x<K)→0<K→K≤1000000→T.length≤1000000→
  Calls Tryz.prog 99 #[lv,.int .i64 K] w (SortPost T w):=by
 intro n
 induction n with
 | zero=>
   intro T K lv w hn hl hk hK0 hKm hlen
   exact sorted_i T K lv w hl hk hK0 hlen hKm fun U D uv w1 hU=>by omega
 | succ n ih=>
   intro T K lv w hn hl hk hK0 hKm hlen
   exact sorted_i T K lv w hl hk hK0 hlen hKm fun U D uv w1 hU hl1 hk1 h0 hm=>ih U D uv w1 (by omega) hl1 hk1 h0 hm (by omega)
theorem sort_any (v:Value) (B:List Nat) (w:World) (hv:IsBytes w v B) (hB:B.length≤1000000):
  Calls Tryz.prog 65 #[v] w (SortPost B w):=by
 have hs:=sorted_b B 256 v w (letB_of hv) hv.1 (by omega) hB (by omega) fun U D uv w1 hU hl1 hk1 h0 hm=>sortedInt_any U.length U D uv w1 (Nat.le_refl _) hl1 hk1 h0 hm (by omega)
 clear hv
 go_enter Tryz.func65,Tryz.ntmps65
 go_wp2_with fail
 refine hs.mono ?_
 rintro e w1 ⟨g,R,rfl,h1,h2,h3,h4⟩
 have H:Hid (SortPost B w (.returned (.slice (some ⟨g,0,none⟩) B.length B.length)) w1):=Lib.hid ⟨g,R,rfl,h1,h2,h3,h4⟩
 clear hs h1 h2 h3 h4
 go_wp2
 go_ret
 exact H.out
end Go.Proofs.YtmjpnbadfmgimaaGreatDoor.S8

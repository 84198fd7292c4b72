/- Texts put together: SealT. -/
import Derived.Test.YtmjpnbadfmgimaaGreatDoorEg49
set_option linter.unusedSimpArgs false
set_option linter.unusedVariables false
set_option maxRecDepth 100000
namespace Go.Proofs.YtmjpnbadfmgimaaGreatDoor.S16
open Go.RowKit Pl S3 S3.Pl S14
theorem rcells_len (L:List RT):(rcells L).length=L.length*4:=by
 induction L with
 | nil=>rfl
 | cons r L ih=>simp only [rcells,List.flatMap_cons,List.length_append,recL_length,List.length_cons] at ih ⊢;omega
theorem pack_inj {A B:List Nat} (hA:∀ x∈A,x<256) (hB:∀ x∈B,x<256) (hl:A.length≤1000000000) (hl2:B.length≤1000000000) (h:S11.packP A=S11.packP B):A=B:=by
 have h1:=unp_holds (S11.pack_holds A hA hl)
 rw [h,unp_holds (S11.pack_holds B hB hl2)] at h1
 simpa using h1.symm
theorem rows_vals_inj:∀ {l m:List RT},rowsOf l=rowsOf m→valsE l=valsE m→l=m
 | [],[],_,_=>rfl
 | [],y::m,h,_=>by simp [rowsOf] at h
 | x::l,[],h,_=>by simp [rowsOf] at h
 | x::l,y::m,h,h2=>by
   have h':(noV x,x.val.size)::rowsOf l=(noV y,y.val.size)::rowsOf m:=h
   rw [List.cons.injEq,Prod.mk.injEq] at h'
   obtain ⟨⟨h3,h4⟩,h5⟩:=h'
   have h6:strB x.val++valsE l=strB y.val++valsE m:=h2
   obtain ⟨h7,h8⟩:=List.append_inj h6 (by rw [strB_length,strB_length];exact h4)
   rw [rows_vals_inj h5 h8]
   congr 1
   obtain ⟨k,s,key,val⟩:=x
   obtain ⟨k',s',key',val'⟩:=y
   simp only [noV,RT.mk.injEq] at h3 h7
   have:val=val':=by rw [← str_strB val,h7,str_strB]
   obtain ⟨rfl,rfl,rfl,_⟩:=h3
   rw [this]
theorem build_inj {l m:List RT} (h:∀ r∈l,chk r=0) (h2:∀ r∈m,chk r=0) (hl:l.length≤1000) (hm:m.length≤1000) (he:buildP l=buildP m):l=m:=by
 have h3:=openP_build h hl
 rw [he,openP_build h2 hm,Option.some.injEq,Prod.mk.injEq] at h3
 have:=valsE_len h
 have:=valsE_len h2
 exact rows_vals_inj h3.1.symm (pack_inj (valsE_lt l) (valsE_lt m) (by omega) (by omega) h3.2.symm)
theorem wpList_copy_recs {w:World} {ops:Array Oper} {rest:List Oper} {o:Oper} {a:Act} {Q:Exit→Act→World→Prop} (hgd:o.guard=none) (s x:Operand)
  (ho:o.op=.call { callee:=.builtin .append,args:=#[s,x],argTypes:=#[22,22] })
  (sa:Option Addr) (na ca:Nat) (G:List RT) (hs:a.eval s=.slice none 0 0) (hx:a.eval x=.slice sa na ca) (hR:RecsAt w (.slice sa na ca) G) (hnone:sa=none→na=0∧ca=0) (hsz:na≤100000)
  (h:∀ sb cb w',RecsAt w' (.slice sb na cb) G→Below w.heap.size w w'→wpList Tryz.prog ops Q rest (a.put o.dst (.slice sb na cb)) w'):wpList Tryz.prog ops Q (o::rest) a w:=by
 obtain ⟨i0,hi,hz0,hz1,hz2⟩:=info_parts infoRecS
 have hR':=hR
 obtain ⟨a',cap',he,h1,h2,h3⟩:=hR
 simp only [Value.slice.injEq] at he
 obtain ⟨rfl,rfl,rfl⟩:=he
 cases sa with
 | none=>
   obtain ⟨h4,rfl⟩:=hnone rfl
   rw [h4] at hx
   refine wpList_append_own_none hgd s x _ ho w.heap.size 26 i0 4 Tryz.underlying22 hi (.slice none 0 0) 0 [] hs (World.ownsRow_nil _ _ _ _) hx ?_
   have:=h none 0 w (by rw [h4] at hR' ⊢;exact hR') (Below.refl _ _)
   rwa [h4] at this
 | some ad=>
   have hc:∀ j u,(rcells G)[j]? = some u→w.cell? (ad.add j)=some u:=by
    intro j u hu
    have hj:j<G.length*4:=by rw [← rcells_len];exact (List.getElem?_eq_some_iff.1 hu).1
    obtain ⟨b,off,hb,_,hcell⟩:=h3 (by omega)
    cases hb
    have hm:j%4<(recL (G.getD (j/4) zR)).length:=by rw [recL_length];omega
    have h5:=rcells_get (L:=G) (i:=j/4) (j:=j%4) (by omega) (List.getElem?_eq_getElem hm)
    rw [show j/4*4+j%4=j by omega,hu] at h5
    have h6:=hcell (j/4) (by omega) (j%4) _ (List.getElem?_eq_getElem hm)
    rw [addr_at,show off+j=off+j/4*4+j%4 by omega,h6,h5]
   refine wpList_append_own _ hgd s x _ ho w.heap.size 26 i0 (.agg (recL zR).toArray) 4 48 Tryz.underlying22 hi hz0 hz1 hz2 rfl (by decide) (.slice none 0 0) 0 [] hs (World.ownsRow_nil _ _ _ _) ad G.length ca (rcells G) hx (by rw [rcells_len]) hc (by intro u hu;unfold rcells at hu;rw [List.mem_flatMap] at hu;obtain ⟨r,_,h⟩:=hu;exact recL_one r u h) (by unfold maxLen;omega) (by omega) (Nat.le_refl _) fun v' w' h4 h5 _=>?_
   rw [Nat.zero_add,List.nil_append] at h4
   obtain ⟨sb,cb,rfl,_,_⟩:=ownsRow_slice h4
   exact h sb cb w' (OwnRecs.at h4) ((Below.refl w.heap.size w).grown h5 (Nat.le_refl _) (by intro k hk;cases hk))
def BuildG (L:List RT) (w:World) (e:Ending) (w':World):Prop:=∃ sp n cap c,e=.returned (.tuple #[.slice sp n cap,.int .i64 (c:Nat)])∧Hid (Below w.heap.size w w')∧Hid (c=badF L)∧Hid (c=0→IsBytes w' (.slice sp n cap) (buildP L))
theorem build_gen (v:Value) (L:List RT) (w:World) (hT:Tab w) (hv:RecsAt w v L) (hL:L.length≤12) (hs:∀ r∈L,RIn r∧r.val.size≤500):Calls Tryz.prog 11 #[v] w (BuildG L w):=by
 have hvl:=vals_few fun r hr=>(hs r hr).2
 refine (build_any v L w hT hv (by omega) (fun r hr=>⟨(hs r hr).1.key,(hs r hr).1.val⟩) (by omega)).mono ?_
 rintro e w' ⟨hb,⟨h1,sp,n,cap,rfl,hn,hi⟩ | ⟨c,h1,h2,rfl⟩⟩
 ·exact ⟨sp,n,cap,0,rfl,hb,Lib.hid h1.symm,Lib.hid fun _=>hi.out⟩
 ·exact ⟨none,0,0,c,rfl,hb,Lib.hid h1.symm,Lib.hid fun h=>absurd h h2⟩
theorem ok_bad:∀ {L:List RT},badF L=0→∀ r∈L,chk r=0
 | [],_=>by simp
 | r::l,h=>by
   unfold badF at h
   split at h
   ·rename_i h0
    intro x hx
    rcases List.mem_cons.1 hx with rfl | hx
    ·exact h0
    ·exact ok_bad h x hx
   ·rename_i h0;exact absurd h h0
theorem twin_d {A B:List RT} (hA:∀ r∈A,chk r=0) (hB:∀ r∈B,chk r=0) (hl:A.length≤1000) (hm:B.length≤1000) (h1:∀ x∈buildP A,x<256) (h2:∀ x∈buildP B,x<256):∃ d:Bool,((str (buildP A)).toList==(str (buildP B)).toList)=d∧∀ b:Bool,(b=true↔A=B)→b=d:=by
 by_cases h:A=B
 ·subst h
  exact ⟨true,(strL_t rfl).1,fun b hb=>hb.2 rfl⟩
 ·refine ⟨false,(strL_f fun e=>h (build_inj hA hB hl hm (str_inj h1 h2 e))).1,fun b hb=>?_⟩
  cases b with
  | false=>rfl
  | true=>exact absurd (hb.1 rfl) h
attribute [local go_sem ↓] loadR_eq storeR_eq conv_eq sliceQc_eq
set_option maxHeartbeats 32000000 in
theorem sealedTwins_walk (a:Option Addr) (len cap:Nat) (a2:Option Addr) (len2 cap2:Nat) (w:World) (hT:Tab w) (h:IsRecs [.int .i64,.int .i64,.str,.str] w a len∧(a=none→len=0∧cap=0)∧len≤cap∧cap≤maxLen) (h':IsRecs [.int .i64,.int .i64,.str,.str] w a2 len2∧(a2=none→len2=0∧cap2=0)∧len2≤cap2∧cap2≤maxLen):
  Calls Tryz.prog 7 #[.slice a len cap,.slice a2 len2 cap2] w fun e w'=>e=.returned (.bool true)∧Below w.heap.size w w':=by
 obtain ⟨A,hAl,hA,hAI⟩:=recs_in h.1 h.2.2.1 h.2.2.2
 obtain ⟨B,hBl,hB,hBI⟩:=recs_in h'.1 h'.2.2.1 h'.2.2.2
 have hlm:=h.2.2.1
 have hcm:=h.2.2.2
 have hlm2:=h'.2.2.1
 have hcm2:=h'.2.2.2
 unfold maxLen at hcm hcm2
 have HNA:=Lib.hid h.2.1
 have HNB:=Lib.hid h'.2.1
 have HT:=Lib.hid hT
 have HA:=Lib.hid hA
 have HB:=Lib.hid hB
 have HAI:=Lib.hid hAI
 have HBI:=Lib.hid hBI
 have HAl:=Lib.hid hAl
 have HBl:=Lib.hid hBl
 clear hT h h' hA hB hAI hBI hAl hBl
 go_enter Tryz.func7,Tryz.ntmps7
 go_wp2_with fail
 refine (begun16_any w HT.out).mono ?_
 rintro e w0 ⟨rfl,HB0⟩
 have HA0:=Lib.hid (HA.out.below HB0.out)
 have HBB0:=Lib.hid (HB.out.below HB0.out)
 clear HA HB
 go_wp2_with fail
 go_loopw [6] (fun x wr=>∃ i:Nat,i≤len+len2∧x=.int .i64 i∧Hid (wr=w0)∧Hid (∀ k,k<i→(k<len→(A.getD k zR).val.size≤500)∧(k<len2→(B.getD k zR).val.size≤500))) (fun x _=>len+len2+1-(intOf x).toNat)
 case atStart=>exact ⟨0,by omega,rfl,Lib.hid rfl,Lib.hid (fun k hk=>by omega)⟩
 case round=>
  obtain ⟨i,hi,rfl,HW,HV⟩:=hrel
  have hw:=HW.out
  subst hw
  have hA3:∀ hlt:i<len,∃ b off,a=some ⟨b,off,none⟩∧wr.cell? ⟨b,off+i*4+3,none⟩=some (.string (A.getD i zR).val):=fun hlt=>by
   obtain ⟨b,off,h1,-,-,-,h2⟩:=RecsAt.cell HA0.out (i:=i) (by rw [HAl.out];exact hlt)
   exact ⟨b,off,h1,h2⟩
  have hB3:∀ hlt:i<len2,∃ b off,a2=some ⟨b,off,none⟩∧wr.cell? ⟨b,off+i*4+3,none⟩=some (.string (B.getD i zR).val):=fun hlt=>by
   obtain ⟨b,off,h1,-,-,-,h2⟩:=RecsAt.cell HBB0.out (i:=i) (by rw [HBl.out];exact hlt)
   exact ⟨b,off,h1,h2⟩
  obtain ⟨va,hva⟩:∃ va,(A.getD i zR).val=va:=⟨_,rfl⟩
  obtain ⟨vb,hvb⟩:∃ vb,(B.getD i zR).val=vb:=⟨_,rfl⟩
  rw [hva] at hA3
  rw [hvb] at hB3
  have HVA:=Lib.hid hva
  have HVB:=Lib.hid hvb
  have HA3:=Lib.hid hA3
  have HB3:=Lib.hid hB3
  clear hva hvb hA3 hB3 HW
  by_cases h1:i<len
  ·obtain ⟨b,off,rfl,c3⟩:=HA3.out h1
   have p1:decide ((i:Int)<(len:Int))=true:=by simp;omega
   have p2:(i:Int)<(len:Int):=by omega
   by_cases h2:500<va.size
   ·have p3:decide ((500:Int)<(va.size:Int))=true:=by simp;omega
    clear HA3 HB3 HV
    go_wp2_with fail
    go_ret
    exact ⟨rfl,HB0.out⟩
   have p3:decide ((500:Int)<(va.size:Int))=false:=by simp;omega
   have p4:decide (500<va.size)=false:=by simp;omega
   by_cases h3:i<len2
   ·obtain ⟨b2,off2,rfl,d3⟩:=HB3.out h3
    have p5:decide ((i:Int)<(len2:Int))=true:=by simp;omega
    have p6:(i:Int)<(len2:Int):=by omega
    by_cases h4:500<vb.size
    ·have p7:decide ((500:Int)<(vb.size:Int))=true:=by simp;omega
     clear HA3 HB3 HV
     go_wp2_with fail
     go_ret
     exact ⟨rfl,HB0.out⟩
    have p7:decide ((500:Int)<(vb.size:Int))=false:=by simp;omega
    have p8:decide (500<vb.size)=false:=by simp;omega
    have HV':Hid (∀ k,k<i+1→(k<len→(A.getD k zR).val.size≤500)∧(k<len2→(B.getD k zR).val.size≤500)):=Lib.hid fun k hk=>by
     by_cases e:k=i
     ·subst e;exact ⟨fun _=>by rw [HVA.out];omega,fun _=>by rw [HVB.out];omega⟩
     ·exact HV.out k (by omega)
    clear HA3 HB3 HV
    go_wp2_with fail
    go_roundw
    case rel=>exact ⟨i+1,by omega,by go_num,Lib.hid (by trivial),HV'⟩
    case measure=>simp [intOf];omega
   ·have p5:decide ((i:Int)<(len2:Int))=false:=by simp;omega
    have p6:decide (i<len2)=false:=by simp;omega
    have HV':Hid (∀ k,k<i+1→(k<len→(A.getD k zR).val.size≤500)∧(k<len2→(B.getD k zR).val.size≤500)):=Lib.hid fun k hk=>by
     by_cases e:k=i
     ·subst e;exact ⟨fun _=>by rw [HVA.out];omega,fun h=>absurd h h3⟩
     ·exact HV.out k (by omega)
    clear HA3 HB3 HV
    go_wp2_with fail
    go_roundw
    case rel=>exact ⟨i+1,by omega,by go_num,Lib.hid (by trivial),HV'⟩
    case measure=>simp [intOf];omega
  ·have p1:decide ((i:Int)<(len:Int))=false:=by simp;omega
   have p2:decide (i<len)=false:=by simp;omega
   by_cases h3:i<len2
   ·obtain ⟨b2,off2,rfl,d3⟩:=HB3.out h3
    have p5:decide ((i:Int)<(len2:Int))=true:=by simp;omega
    have p6:(i:Int)<(len2:Int):=by omega
    by_cases h4:500<vb.size
    ·have p7:decide ((500:Int)<(vb.size:Int))=true:=by simp;omega
     clear HA3 HB3 HV
     go_wp2_with fail
     go_ret
     exact ⟨rfl,HB0.out⟩
    have p7:decide ((500:Int)<(vb.size:Int))=false:=by simp;omega
    have p8:decide (500<vb.size)=false:=by simp;omega
    have HV':Hid (∀ k,k<i+1→(k<len→(A.getD k zR).val.size≤500)∧(k<len2→(B.getD k zR).val.size≤500)):=Lib.hid fun k hk=>by
     by_cases e:k=i
     ·subst e;exact ⟨fun h=>absurd h h1,fun _=>by rw [HVB.out];omega⟩
     ·exact HV.out k (by omega)
    clear HA3 HB3 HV
    go_wp2_with fail
    go_roundw
    case rel=>exact ⟨i+1,by omega,by go_num,Lib.hid (by trivial),HV'⟩
    case measure=>simp [intOf];omega
   ·have p5:decide ((i:Int)<(len2:Int))=false:=by simp;omega
    have p6:decide (i<len2)=false:=by simp;omega
    have HAV:Hid (∀ r∈A,RIn r∧r.val.size≤500):=Lib.hid fun r hr=>by
     obtain ⟨k,hk,rfl⟩:=List.mem_iff_getElem.1 hr
     refine ⟨HAI.out _ hr,?_⟩
     have hk':=hk
     rw [HAl.out] at hk'
     have:=(HV.out k (by omega)).1 hk'
     rwa [getD_of hk] at this
    have HBV:Hid (∀ r∈B,RIn r∧r.val.size≤500):=Lib.hid fun r hr=>by
     obtain ⟨k,hk,rfl⟩:=List.mem_iff_getElem.1 hr
     refine ⟨HBI.out _ hr,?_⟩
     have hk':=hk
     rw [HBl.out] at hk'
     have:=(HV.out k (by omega)).2 hk'
     rwa [getD_of hk] at this
    clear HA3 HB3 HV HVA HVB h1 h3 HAI HBI
    by_cases hA12:12<len
    all_goals by_cases hB12:12<len2
    focus
     obtain ⟨sa,ca,hslA,HGA⟩:=recs_upto HA0.out 12 (by rw [HAl.out];omega)
     obtain ⟨na,hNeA⟩:∃ N:Nat,N=12:=⟨_,rfl⟩
     obtain ⟨GA,hGA⟩:∃ G,A.take 12=G:=⟨_,rfl⟩
     have hslA:∀ W,(sliceQc (.slice a len cap) none (some (.int .i64 12)) none).run Tryz.prog W=.ok (.slice sa na ca) W:=by rw [hNeA];exact hslA
     rw [hGA] at HGA
     have HRA:Hid (RecsAt wr (.slice sa na ca) GA):=Lib.hid (by rw [hNeA];exact HGA.out)
     have HAW:Hid (∀ r∈GA,RIn r∧r.val.size≤500):=Lib.hid fun r hr=>HAV.out r (List.mem_of_mem_take (by rw [hGA];exact hr))
     have HGAl:Hid (GA.length=na):=Lib.hid (by rw [← hGA,List.length_take,HAl.out];omega)
     have HGAn:Hid (sa=none→na=0∧ca=0):=Lib.hid fun h=>by
      obtain ⟨b,off,hb,_⟩:=RecsAt.cell HRA.out (i:=0) (by rw [HGAl.out];omega)
      rw [h] at hb;cases hb
     have q1A:decide ((12:Int)<(len:Int))=true:=by simp;omega
     have q2A:decide (12<len)=true:=by simp;omega
     have hNA:na≤12:=by omega
     clear hNeA hGA HA0 HAV HAl HNA
     obtain ⟨sb,cb,hslB,HGB⟩:=recs_upto HBB0.out 12 (by rw [HBl.out];omega)
     obtain ⟨nb,hNeB⟩:∃ N:Nat,N=12:=⟨_,rfl⟩
     obtain ⟨GB,hGB⟩:∃ G,B.take 12=G:=⟨_,rfl⟩
     have hslB:∀ W,(sliceQc (.slice a2 len2 cap2) none (some (.int .i64 12)) none).run Tryz.prog W=.ok (.slice sb nb cb) W:=by rw [hNeB];exact hslB
     rw [hGB] at HGB
     have HRB:Hid (RecsAt wr (.slice sb nb cb) GB):=Lib.hid (by rw [hNeB];exact HGB.out)
     have HBW:Hid (∀ r∈GB,RIn r∧r.val.size≤500):=Lib.hid fun r hr=>HBV.out r (List.mem_of_mem_take (by rw [hGB];exact hr))
     have HGBl:Hid (GB.length=nb):=Lib.hid (by rw [← hGB,List.length_take,HBl.out];omega)
     have HGBn:Hid (sb=none→nb=0∧cb=0):=Lib.hid fun h=>by
      obtain ⟨b,off,hb,_⟩:=RecsAt.cell HRB.out (i:=0) (by rw [HGBl.out];omega)
      rw [h] at hb;cases hb
     have q1B:decide ((12:Int)<(len2:Int))=true:=by simp;omega
     have q2B:decide (12<len2)=true:=by simp;omega
     have hNB:nb≤12:=by omega
     clear hNeB hGB HBB0 HBV HBl HNB
     go_wp2_with fail
     clear hA12 hB12 hlm hcm hlm2 hcm2
     clear hslA q1A q2A HGA
     clear hslB q1B q2B HGB
    rotate_left
    focus
     obtain ⟨sa,ca,hslA,HGA⟩:=recs_upto HA0.out 12 (by rw [HAl.out];omega)
     obtain ⟨na,hNeA⟩:∃ N:Nat,N=12:=⟨_,rfl⟩
     obtain ⟨GA,hGA⟩:∃ G,A.take 12=G:=⟨_,rfl⟩
     have hslA:∀ W,(sliceQc (.slice a len cap) none (some (.int .i64 12)) none).run Tryz.prog W=.ok (.slice sa na ca) W:=by rw [hNeA];exact hslA
     rw [hGA] at HGA
     have HRA:Hid (RecsAt wr (.slice sa na ca) GA):=Lib.hid (by rw [hNeA];exact HGA.out)
     have HAW:Hid (∀ r∈GA,RIn r∧r.val.size≤500):=Lib.hid fun r hr=>HAV.out r (List.mem_of_mem_take (by rw [hGA];exact hr))
     have HGAl:Hid (GA.length=na):=Lib.hid (by rw [← hGA,List.length_take,HAl.out];omega)
     have HGAn:Hid (sa=none→na=0∧ca=0):=Lib.hid fun h=>by
      obtain ⟨b,off,hb,_⟩:=RecsAt.cell HRA.out (i:=0) (by rw [HGAl.out];omega)
      rw [h] at hb;cases hb
     have q1A:decide ((12:Int)<(len:Int))=true:=by simp;omega
     have q2A:decide (12<len)=true:=by simp;omega
     have hNA:na≤12:=by omega
     clear hNeA hGA HA0 HAV HAl HNA
     have hNB:len2≤12:=by omega
     have q1B:decide ((12:Int)<(len2:Int))=false:=by simp;omega
     have q2B:decide (12<len2)=false:=by simp;omega
     go_wp2_with fail
     clear hA12 hB12 hlm hcm hlm2 hcm2
     clear hslA q1A q2A HGA
     clear q1B q2B
     obtain ⟨sb,rfl⟩:∃ s,s=a2:=⟨_,rfl⟩
     obtain ⟨nb,rfl⟩:∃ s,s=len2:=⟨_,rfl⟩
     obtain ⟨cb,rfl⟩:∃ s,s=cap2:=⟨_,rfl⟩
     obtain ⟨GB,rfl⟩:∃ s,s=B:=⟨_,rfl⟩
     have HRB:=HBB0
     have HBW:=HBV
     have HGBl:=HBl
     have HGBn:=HNB
     clear HBB0 HBV HBl HNB
    rotate_left
    focus
     have hNA:len≤12:=by omega
     have q1A:decide ((12:Int)<(len:Int))=false:=by simp;omega
     have q2A:decide (12<len)=false:=by simp;omega
     obtain ⟨sb,cb,hslB,HGB⟩:=recs_upto HBB0.out 12 (by rw [HBl.out];omega)
     obtain ⟨nb,hNeB⟩:∃ N:Nat,N=12:=⟨_,rfl⟩
     obtain ⟨GB,hGB⟩:∃ G,B.take 12=G:=⟨_,rfl⟩
     have hslB:∀ W,(sliceQc (.slice a2 len2 cap2) none (some (.int .i64 12)) none).run Tryz.prog W=.ok (.slice sb nb cb) W:=by rw [hNeB];exact hslB
     rw [hGB] at HGB
     have HRB:Hid (RecsAt wr (.slice sb nb cb) GB):=Lib.hid (by rw [hNeB];exact HGB.out)
     have HBW:Hid (∀ r∈GB,RIn r∧r.val.size≤500):=Lib.hid fun r hr=>HBV.out r (List.mem_of_mem_take (by rw [hGB];exact hr))
     have HGBl:Hid (GB.length=nb):=Lib.hid (by rw [← hGB,List.length_take,HBl.out];omega)
     have HGBn:Hid (sb=none→nb=0∧cb=0):=Lib.hid fun h=>by
      obtain ⟨b,off,hb,_⟩:=RecsAt.cell HRB.out (i:=0) (by rw [HGBl.out];omega)
      rw [h] at hb;cases hb
     have q1B:decide ((12:Int)<(len2:Int))=true:=by simp;omega
     have q2B:decide (12<len2)=true:=by simp;omega
     have hNB:nb≤12:=by omega
     clear hNeB hGB HBB0 HBV HBl HNB
     go_wp2_with fail
     clear hA12 hB12 hlm hcm hlm2 hcm2
     clear q1A q2A
     obtain ⟨sa,rfl⟩:∃ s,s=a:=⟨_,rfl⟩
     obtain ⟨na,rfl⟩:∃ s,s=len:=⟨_,rfl⟩
     obtain ⟨ca,rfl⟩:∃ s,s=cap:=⟨_,rfl⟩
     obtain ⟨GA,rfl⟩:∃ s,s=A:=⟨_,rfl⟩
     have HRA:=HA0
     have HAW:=HAV
     have HGAl:=HAl
     have HGAn:=HNA
     clear HA0 HAV HAl HNA
     clear hslB q1B q2B HGB
    rotate_left
    focus
     have hNA:len≤12:=by omega
     have q1A:decide ((12:Int)<(len:Int))=false:=by simp;omega
     have q2A:decide (12<len)=false:=by simp;omega
     have hNB:len2≤12:=by omega
     have q1B:decide ((12:Int)<(len2:Int))=false:=by simp;omega
     have q2B:decide (12<len2)=false:=by simp;omega
     go_wp2_with fail
     clear hA12 hB12 hlm hcm hlm2 hcm2
     clear q1A q2A
     obtain ⟨sa,rfl⟩:∃ s,s=a:=⟨_,rfl⟩
     obtain ⟨na,rfl⟩:∃ s,s=len:=⟨_,rfl⟩
     obtain ⟨ca,rfl⟩:∃ s,s=cap:=⟨_,rfl⟩
     obtain ⟨GA,rfl⟩:∃ s,s=A:=⟨_,rfl⟩
     have HRA:=HA0
     have HAW:=HAV
     have HGAl:=HAl
     have HGAn:=HNA
     clear HA0 HAV HAl HNA
     clear q1B q2B
     obtain ⟨sb,rfl⟩:∃ s,s=a2:=⟨_,rfl⟩
     obtain ⟨nb,rfl⟩:∃ s,s=len2:=⟨_,rfl⟩
     obtain ⟨cb,rfl⟩:∃ s,s=cap2:=⟨_,rfl⟩
     obtain ⟨GB,rfl⟩:∃ s,s=B:=⟨_,rfl⟩
     have HRB:=HBB0
     have HBW:=HBV
     have HGBl:=HBl
     have HGBn:=HNB
     clear HBB0 HBV HBl HNB
    rotate_left
    all_goals
     have HBa:=Lib.hid (build_gen _ GA wr (HT.out.below HB0.out) HRA.out (by rw [HGAl.out];exact hNA) HAW.out)
     go_wp2_with fail
     refine HBa.out.mono ?_
     rintro e w7 ⟨sx,nx,cx,e1,rfl,HB7,HE1,HX⟩
     have HBB7:=Lib.hid (HB0.out.trans (HB7.out.mono HB0.out.size))
     have HRA7:=Lib.hid (HRA.out.below HB7.out)
     have HRB7:=Lib.hid (HRB.out.below HB7.out)
     have HBb:=Lib.hid (build_gen _ GB w7 (HT.out.below HBB7.out) HRB7.out (by rw [HGBl.out];exact hNB) HBW.out)
     clear HBa HB7 HRA HRB
     go_wp2_with fail
     refine HBb.out.mono ?_
     rintro e w8 ⟨sy,ny,cy,e2,rfl,HB8,HE2,HY⟩
     have HBB8:=Lib.hid (HBB7.out.trans (HB8.out.mono HBB7.out.size))
     have HRA8:=Lib.hid (HRA7.out.below HB8.out)
     have HRB8:=Lib.hid (HRB7.out.below HB8.out)
     have HX8:Hid (e1=0→IsBytes w8 (.slice sx nx cx) (buildP GA)):=Lib.hid fun h=>(HX.out h).below HB8.out
     clear HBb HB8 HRA7 HRB7 HX HBB7
     go_wp2_with (at_builtin;refine wpList_copy_recs rfl (.const (.slice none 0 0)) (.tmp 77) rfl sa na ca GA rfl rfl HRA8.out HGAn.out (by omega) ?_;intro sc cc w8' hrc hbc;have HRC:=Lib.hid hrc;have HBC:=Lib.hid hbc;clear hrc hbc)
     have HBB8':=Lib.hid (HBB8.out.trans (HBC.out.mono HBB8.out.size))
     have HBc:=Lib.hid (build_gen _ GA w8' (HT.out.below HBB8'.out) HRC.out (by rw [HGAl.out];exact hNA) HAW.out)
     refine HBc.out.mono ?_
     rintro e w9 ⟨sz,nz,cz,e3,rfl,HB9,HE3,HZ⟩
     have HBB9:=Lib.hid (HBB8'.out.trans (HB9.out.mono HBB8'.out.size))
     have HRA9:=Lib.hid ((HRA8.out.below HBC.out).below HB9.out)
     have HRB9:=Lib.hid ((HRB8.out.below HBC.out).below HB9.out)
     have HX9:Hid (e1=0→IsBytes w9 (.slice sx nx cx) (buildP GA)):=Lib.hid fun h=>((HX8.out h).below HBC.out).below HB9.out
     have HY9:Hid (e2=0→IsBytes w9 (.slice sy ny cy) (buildP GB)):=Lib.hid fun h=>((HY.out h).below HBC.out).below HB9.out
     obtain rfl:e1=e3:=HE1.out.trans HE3.out.symm
     have q3:((e1:Int)==(e1:Int))=true:=beq_t rfl
     clear HBc HB9 HBC HRA8 HRB8 HX8 HY HRC HBB8 HBB8'
     by_cases g1:e1=e2
     rotate_left
     ·have q1:((e1:Int) != (e2:Int))=true:=bne_t (by omega)
      clear HX9 HY9 HZ
      go_wp2_with fail
      go_ret
      exact ⟨rfl,HBB9.out⟩
     subst g1
     have q1:((e1:Int) != (e1:Int))=false:=bne_f rfl
     by_cases g2:e1=0
     rotate_left
     ·have q2:((e1:Int) != 0)=true:=bne_t (by omega)
      clear HX9 HY9 HZ
      go_wp2_with fail
      go_ret
      exact ⟨rfl,HBB9.out⟩
     subst g2
     have HXX:=Lib.hid (HX9.out rfl)
     have HYY:=Lib.hid (HY9.out rfl)
     have HZZ:=Lib.hid (HZ.out rfl)
     obtain ⟨d,hd1,hd2⟩:=twin_d (ok_bad HE1.out.symm) (ok_bad HE2.out.symm) (by rw [HGAl.out];omega) (by rw [HGBl.out];omega) HXX.out.1 HYY.out.1
     obtain ⟨P,hP⟩:∃ P,str (buildP GA)=P:=⟨_,rfl⟩
     obtain ⟨R,hR⟩:∃ R,str (buildP GB)=R:=⟨_,rfl⟩
     rw [hP,hR] at hd1
     have hcv1:∀ W,From w9 W→(convS (.slice sx nx cx)).run Tryz.prog W=.ok (.string P) W:=fun W hW=>by rw [← hP];exact run_conv (HXX.out.below hW)
     have hcv2:∀ W,From w9 W→(convS (.slice sy ny cy)).run Tryz.prog W=.ok (.string R) W:=fun W hW=>by rw [← hR];exact run_conv (HYY.out.below hW)
     have hcv3:∀ W,From w9 W→(convS (.slice sz nz cz)).run Tryz.prog W=.ok (.string P) W:=fun W hW=>by rw [← hP];exact run_conv (HZZ.out.below hW)
     have hpp:(P.toList==P.toList)=true:=(strL_t rfl).1
     have HD:=Lib.hid hd2
     clear HX9 HY9 HZ hP hR hd2 HXX HYY HZZ HE1 HE2 HE3 HAW HBW
     go_wp2_with fail
     have hHeld:From w9 w9.drew:=(Below.refl _ _).drew
     refine wp_region_noPanic ?_
     refine wpAnyH_start (n:=17) (l:=#[false,false,false,false,false,false,false,false,false,false,false,false,false,false,false,false,false]) (S:=From w9) (by kernel_rfl) (hHeld) (by kernel_rfl) (by kernel_rfl) ?_
     refine wpAnyH_take (i:=0) (oi:=_) (v:=?_) rfl (by kernel_rfl) (by kernel_rfl) (by kernel_rfl) (fun _ _ _ h=>h) (Or.inl ⟨by rfl,?_⟩) (by assumption) ?_
     rotate_left
     ·intro wq hSw;go_simp;try with_reducible rfl
     simp only [Act.put,List.setIfInBounds_toArray,List.set_cons_zero,List.set_cons_succ,List.getElem_toArray,List.getElem_cons_zero,List.getElem_cons_succ]
     refine wpAnyH_take (i:=1) (oi:=_) (v:=?_) rfl (by kernel_rfl) (by kernel_rfl) (by kernel_rfl) (fun _ _ _ h=>h) (Or.inl ⟨by rfl,?_⟩) (by assumption) ?_
     rotate_left
     ·intro wq hSw;have hl:=hcv1 wq hSw;go_simp;try with_reducible rfl
     simp only [Act.put,List.setIfInBounds_toArray,List.set_cons_zero,List.set_cons_succ,List.getElem_toArray,List.getElem_cons_zero,List.getElem_cons_succ]
     refine wpAnyH_take (i:=2) (oi:=_) (v:=?_) rfl (by kernel_rfl) (by kernel_rfl) (by kernel_rfl) (fun _ _ _ h=>h) (Or.inl ⟨by rfl,?_⟩) (by assumption) ?_
     rotate_left
     ·intro wq hSw;go_simp;try with_reducible rfl
     simp only [Act.put,List.setIfInBounds_toArray,List.set_cons_zero,List.set_cons_succ,List.getElem_toArray,List.getElem_cons_zero,List.getElem_cons_succ]
     refine wpAnyH_take (i:=3) (oi:=_) (v:=?_) rfl (by kernel_rfl) (by kernel_rfl) (by kernel_rfl) (fun _ _ _ h=>h) (Or.inl ⟨by rfl,?_⟩) (by assumption) ?_
     rotate_left
     ·intro wq hSw;have hl:=hcv3 wq hSw;go_simp;try with_reducible rfl
     simp only [Act.put,List.setIfInBounds_toArray,List.set_cons_zero,List.set_cons_succ,List.getElem_toArray,List.getElem_cons_zero,List.getElem_cons_succ]
     refine wpAnyH_take (i:=4) (oi:=_) (v:=?_) rfl (by kernel_rfl) (by kernel_rfl) (by kernel_rfl) (fun _ _ _ h=>h) (Or.inl ⟨by rfl,?_⟩) (by assumption) ?_
     rotate_left
     ·intro wq hSw;go_simp;try with_reducible rfl
     simp only [Act.put,List.setIfInBounds_toArray,List.set_cons_zero,List.set_cons_succ,List.getElem_toArray,List.getElem_cons_zero,List.getElem_cons_succ]
     refine wpAnyH_take (i:=5) (oi:=_) (v:=?_) rfl (by kernel_rfl) (by kernel_rfl) (by kernel_rfl) (fun _ _ _ h=>h) (Or.inl ⟨by rfl,?_⟩) (by assumption) ?_
     rotate_left
     ·intro wq hSw;go_simp;try with_reducible rfl
     simp only [Act.put,List.setIfInBounds_toArray,List.set_cons_zero,List.set_cons_succ,List.getElem_toArray,List.getElem_cons_zero,List.getElem_cons_succ]
     refine wpAnyH_take (i:=6) (oi:=_) (v:=?_) rfl (by kernel_rfl) (by kernel_rfl) (by kernel_rfl) (fun _ _ _ h=>h) (Or.inl ⟨by rfl,?_⟩) (by assumption) ?_
     rotate_left
     ·intro wq hSw;go_simp;try with_reducible rfl
     simp only [Act.put,List.setIfInBounds_toArray,List.set_cons_zero,List.set_cons_succ,List.getElem_toArray,List.getElem_cons_zero,List.getElem_cons_succ]
     refine wpAnyH_take (i:=7) (oi:=_) (v:=?_) rfl (by kernel_rfl) (by kernel_rfl) (by kernel_rfl) (fun _ _ _ h=>h) (Or.inl ⟨by rfl,?_⟩) (by assumption) ?_
     rotate_left
     ·intro wq hSw;have hl:=hcv1 wq hSw;go_simp;try with_reducible rfl
     simp only [Act.put,List.setIfInBounds_toArray,List.set_cons_zero,List.set_cons_succ,List.getElem_toArray,List.getElem_cons_zero,List.getElem_cons_succ]
     refine wpAnyH_take (i:=8) (oi:=_) (v:=?_) rfl (by kernel_rfl) (by kernel_rfl) (by kernel_rfl) (fun _ _ _ h=>h) (Or.inl ⟨by rfl,?_⟩) (by assumption) ?_
     rotate_left
     ·intro wq hSw;go_simp;try with_reducible rfl
     simp only [Act.put,List.setIfInBounds_toArray,List.set_cons_zero,List.set_cons_succ,List.getElem_toArray,List.getElem_cons_zero,List.getElem_cons_succ]
     refine wpAnyH_take (i:=9) (oi:=_) (v:=?_) rfl (by kernel_rfl) (by kernel_rfl) (by kernel_rfl) (fun _ _ _ h=>h) (Or.inl ⟨by rfl,?_⟩) (by assumption) ?_
     rotate_left
     ·intro wq hSw;have hl:=hcv2 wq hSw;go_simp;try with_reducible rfl
     simp only [Act.put,List.setIfInBounds_toArray,List.set_cons_zero,List.set_cons_succ,List.getElem_toArray,List.getElem_cons_zero,List.getElem_cons_succ]
     refine wpAnyH_take (i:=10) (oi:=_) (v:=?_) rfl (by kernel_rfl) (by kernel_rfl) (by kernel_rfl) (fun _ _ _ h=>h) (Or.inl ⟨by rfl,?_⟩) (by assumption) ?_
     rotate_left
     ·intro wq hSw;go_simp;try with_reducible rfl
     simp only [Act.put,List.setIfInBounds_toArray,List.set_cons_zero,List.set_cons_succ,List.getElem_toArray,List.getElem_cons_zero,List.getElem_cons_succ]
     refine wpAnyH_take (i:=11) (oi:=_) (v:=?_) rfl (by kernel_rfl) (by kernel_rfl) (by kernel_rfl) (fun _ _ _ h=>h) (Or.inl ⟨by rfl,?_⟩) (by assumption) ?_
     rotate_left
     ·intro wq hSw;go_simp;try with_reducible rfl
     simp only [Act.put,List.setIfInBounds_toArray,List.set_cons_zero,List.set_cons_succ,List.getElem_toArray,List.getElem_cons_zero,List.getElem_cons_succ]
     refine wpAnyH_take (i:=12) (oi:=_) (v:=?_) rfl (by kernel_rfl) (by kernel_rfl) (by kernel_rfl) (fun _ _ _ h=>h) (Or.inl ⟨by rfl,?_⟩) (by assumption) ?_
     rotate_left
     ·intro wq hSw;go_simp;try with_reducible rfl
     simp only [Act.put,List.setIfInBounds_toArray,List.set_cons_zero,List.set_cons_succ,List.getElem_toArray,List.getElem_cons_zero,List.getElem_cons_succ]
     refine wpAnyH_ready (rs:=[13]) (by kernel_rfl) (by simp) ?_
     refine AllReadyH.cons (o:=_) rfl (fun K hK=>?_) AllReadyH.nil
     simp only [List.getElem_toArray,List.getElem_cons_zero,List.getElem_cons_succ]
     go_simp
     refine (alike_any _ _ GA GB _ (HRA9.out.below hHeld) (HRB9.out.below hHeld)).mono ?_;rintro e wB ⟨b,rfl,hb,HBB⟩;have HEB:=Lib.hid (From.trans hHeld HBB.out);obtain rfl:b=d:=HD.out b hb.out
     refine hK.out _ _ (HEB.out) (fun _=>?_)
     clear hK K
     clear hHeld
     have hHeld:=HEB.out
     simp only [Act.put,List.setIfInBounds_toArray,List.set_cons_zero,List.set_cons_succ,List.getElem_toArray,List.getElem_cons_zero,List.getElem_cons_succ]
     refine wpAnyH_take (i:=14) (oi:=_) (v:=?_) rfl (by kernel_rfl) (by kernel_rfl) (by kernel_rfl) (fun _ _ _ h=>h) (Or.inl ⟨by rfl,?_⟩) (by assumption) ?_
     rotate_left
     ·intro wq hSw;go_simp;try with_reducible rfl
     simp only [Act.put,List.setIfInBounds_toArray,List.set_cons_zero,List.set_cons_succ,List.getElem_toArray,List.getElem_cons_zero,List.getElem_cons_succ]
     refine wpAnyH_take (i:=15) (oi:=_) (v:=?_) rfl (by kernel_rfl) (by kernel_rfl) (by kernel_rfl) (fun _ _ _ h=>h) (Or.inl ⟨by rfl,?_⟩) (by assumption) ?_
     rotate_left
     ·intro wq hSw;go_simp;try with_reducible rfl
     simp only [Act.put,List.setIfInBounds_toArray,List.set_cons_zero,List.set_cons_succ,List.getElem_toArray,List.getElem_cons_zero,List.getElem_cons_succ]
     refine wpAnyH_take (i:=16) (oi:=_) (v:=?_) rfl (by kernel_rfl) (by kernel_rfl) (by kernel_rfl) (fun _ _ _ h=>h) (Or.inl ⟨by rfl,?_⟩) (by assumption) ?_
     rotate_left
     ·intro wq hSw;go_simp;try with_reducible rfl
     simp only [Act.put,List.setIfInBounds_toArray,List.set_cons_zero,List.set_cons_succ,List.getElem_toArray,List.getElem_cons_zero,List.getElem_cons_succ]
     refine wpAnyH_done (by kernel_rfl) ?_ _
     refine NoPanic.normal ?_
     clear hHeld hcv1 hcv2 hcv3
     have HBF:=Lib.hid (HBB9.out.trans (HEB.out.mono HBB9.out.size))
     go_wp2_with fail
     go_ret
     exact ⟨by simp,HBF.out⟩
end Go.Proofs.YtmjpnbadfmgimaaGreatDoor.S16

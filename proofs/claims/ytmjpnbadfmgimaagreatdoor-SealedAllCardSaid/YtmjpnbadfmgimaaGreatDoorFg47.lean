/- Texts put together: SealW. -/
import Derived.Test.YtmjpnbadfmgimaaGreatDoorFg46
set_option linter.unusedSimpArgs false
set_option linter.unusedVariables false
set_option maxRecDepth 100000
set_option maxHeartbeats 32000000
namespace Go.Proofs.YtmjpnbadfmgimaaGreatDoor.S16
open Go.RowKit Pl S3 S3.Pl S14
theorem size_ok {l:List RT} (h:∀ r∈l,chk r=0):(buildP l).length≤encT l+40*l.length+200:=by
 have h1:(rowsE l).length+(valsE l).length+11*l.length≤encT l:=by
  induction l with
  | nil=>simp [rowsE,valsE,encT]
  | cons r l ih=>
    have ih:=ih fun x hx=>h x (by simp [hx])
    have hr:=h r (by simp)
    obtain ⟨k0,k1,k2,k3⟩:=chk_ok hr
    obtain ⟨_,_,hk⟩:=form_ok k3
    obtain ⟨q1,q2⟩:=kind_nat hr
    have hd:(S2.Pl.vput r.kind.toNat).length=1:=by rw [S2.Pl.vput_small (by omega)];rfl
    have hb:(rowB r).length+r.val.size≤(body r).length+1:=by
     unfold rowB body bodyK
     split
     ·simp only [List.length_append,List.length_singleton,hd]
      unfold S2.Pl.vtext
      simp only [List.length_append,strB_length]
      omega
     ·have hv:r.val.size=0:=by rcases hk with hk | hk <;> omega
      have hz:(S2.Pl.vput 0).length=1:=by rw [S2.Pl.vput_small (by omega)];rfl
      rw [hv]
      simp only [List.length_append,List.length_singleton,hd,hz]
      omega
    have he:(enc r).length=12+(body r).length:=by rw [enc_good hr,pseal_length]
    rw [rowsE,valsE,encT,List.length_append,List.length_append,strB_length,List.length_cons,he]
    omega
 have h2:=pack_len (rowsE l)
 have h3:=pack_len (valsE l)
 have h4:=valsE_len h
 have h5:=rowsE_len h
 unfold buildP
 rw [List.length_append,pseal_length]
 unfold S11.cnt at h2 h3
 omega
theorem recs_bel {w w':World} {a:Option Addr} {len:Nat} (h:IsRecs recF w a len) (hb:Below w.heap.size w w'):IsRecs recF w' a len:=by
 obtain ⟨hm,h | ⟨x,rfl,hc⟩⟩:=h
 ·exact ⟨hm,.inl h⟩
 ·refine ⟨hm,.inr ⟨x,rfl,fun i hi j fk hj=>?_⟩⟩
  obtain ⟨v,hv,hf⟩:=hc i hi j fk hj
  refine ⟨v,(hb.cell (p:=x.add (i*recF.length+j)) (World.block_lt_of_cell? w _ hv)).trans hv,?_⟩
  match j,hj with
  | 0,hj=>simp [recF] at hj;subst hj;exact hf
  | 1,hj=>simp [recF] at hj;subst hj;exact hf
  | 2,hj=>simp [recF] at hj;subst hj;exact hf
  | 3,hj=>simp [recF] at hj;subst hj;exact hf
  | n+4,hj=>simp [recF] at hj
theorem run_makeB (n:Nat) (hn:n≤100000) (w:World):(Instr.makeSlice 27 (.int .i64 (n:Int)) (.int .i64 (n:Int))).run Tryz.prog w=.ok (.slice (some ⟨w.heap.size,0,none⟩) n n) (w.alloc (.cells (u8s (List.replicate n 0)).toArray 5)):=by
 have h:=run_make_row' (P:=Tryz.prog) 27 5 (.int .u8 0) 1 Tryz.underlying27 info5 rfl .i64 .i64 n (by omega) (by omega) w
 have e:madeCells #[Value.int .u8 0] n=(u8s (List.replicate n 0)).toArray:=by
  apply Array.toList_inj.1
  have:=made_list n
  rw [Nat.mul_one] at this
  rw [show (#[Value.int .u8 0]:Array Value)=(Value.int .u8 0).cells from rfl,this]
  simp [u8s]
 rw [e] at h
 exact h
theorem own4_open {w:World} {base n:Nat} {e:TypeId} {v:Value} {xs:List Value} (h:w.ownsRow base e 4 v n xs) (h0:0<n):∃ g cap cs,v=.slice (some ⟨g,0,none⟩) n cap∧base≤g∧Blk w g e cs∧cs.take xs.length=xs∧n≤cap∧cap≤maxLen:=by
 obtain ⟨hl,⟨rfl,rfl⟩ | ⟨g,cap,cur,rfl,hb,hh,hn,hm,hs,ht⟩⟩:=h
 ·omega
 ·exact ⟨g,cap,cur.toList,rfl,hb,by unfold Blk;rw [hh],by rw [hl];exact ht,hn,hm⟩
theorem recs_set {w:World} {g cap:Nat} {t:TypeId} {cs:List Value} {G:List RT} {N:Nat} (hk:Blk w g t cs) (ht:cs.take (rcells G).length=rcells G) (hN:G.length=N) (h0:0<N) (hc:N≤cap) (hm:cap≤maxLen) (s:ByteArray):
  RecsAt (w.setCell ⟨g,3,none⟩ (.string s)) (.slice (some ⟨g,0,none⟩) N cap) (G.set 0 (putV (G.getD 0 zR) s)):=by
 have hk':=hk.set 3 (.string s)
 refine ⟨_,cap,by rw [List.length_set,hN],by rw [List.length_set,hN];exact hc,hm,fun _=>⟨g,0,rfl,hk'.lt,fun i hi j u hu=>?_⟩⟩
 rw [List.length_set,hN] at hi
 have hj:j<4:=(List.getElem?_eq_some_iff.1 hu).1
 rw [Nat.zero_add]
 refine hk'.cell ?_
 have hcell:∀ v,(recL (G.getD i zR))[j]? = some v→cs[i*4+j]? = some v:=fun v hv=>by
  have h1:=rcells_get (L:=G) (i:=i) (j:=j) (by omega) hv
  rw [← ht] at h1
  rw [List.getElem?_take_of_lt] at h1
  ·exact h1
  ·rw [rcells_length,hN];omega
 by_cases e:i=0
 ·subst e
  have e2:(G.set 0 (putV (G.getD 0 zR) s)).getD 0 zR=putV (G.getD 0 zR) s:=by
   simp [List.getD,hN,h0]
  rw [e2] at hu
  by_cases e3:j=3
  ·subst e3
   have:u=.string s:=by simpa [recL,putV] using hu.symm
   subst this
   have hlt:3<cs.length:=by
    have:=hcell (.string (G.getD 0 zR).val) rfl
    have:=(List.getElem?_eq_some_iff.1 this).1
    omega
   rw [show 0*4+3=3 by omega,List.getElem?_set_self hlt]
  ·rw [List.getElem?_set_ne (by omega)]
   refine hcell u ?_
   have:j=0∨j=1∨j=2:=by omega
   rcases this with rfl | rfl | rfl <;> exact hu
 ·have e2:(G.set 0 (putV (G.getD 0 zR) s)).getD i zR=G.getD i zR:=by
   simp only [List.getD]
   rw [List.getElem?_set_ne (by omega)]
  rw [e2] at hu
  rw [List.getElem?_set_ne (by omega)]
  exact hcell u hu
theorem put_chk {r:RT} {s:ByteArray} (h:chk r=0) (hk:r.kind=1) (hs:s.size≤4000):chk (putV r s)=0:=by
 obtain ⟨k0,k1,k2,k3⟩:=chk_ok h
 obtain ⟨f1,f2,_⟩:=form_ok k3
 have hf:formR (putV r s)=true:=by
  unfold formR putV
  simp only [Bool.and_eq_true,Bool.or_eq_true,decide_eq_true_eq]
  exact ⟨⟨f1,f2⟩,.inl hk⟩
 unfold chk
 rw [if_neg (show ¬ (putV r s).key.size=0 by show ¬ r.key.size=0;omega),if_neg (show ¬ (100<(putV r s).key.size∨4000<(putV r s).val.size) by show ¬ (100<r.key.size∨4000<s.size);omega),if_pos hf]
attribute [local go_sem ↓] loadR_eq storeR_eq conv_eq
theorem sealedAll_walk (a:Option Addr) (len cap:Nat) (s:ByteArray) (more:Int) (w:World) (hT:Tab w) (h0:IsRecs [.int .i64,.int .i64,.str,.str] w a len) (hs:s.size≤maxLen) (_:(Lit.int .i64 more).wf=true):
  Calls Tryz.prog 3 #[.slice a len cap,.string s,.int .i64 more] w fun e w'=>e=.returned (.bool true)∧Below w.heap.size w w':=by
 have HT:=Lib.hid hT
 have HR:=Lib.hid (show IsRecs recF w a len from h0)
 clear hT h0
 go_enter Tryz.func3,Tryz.ntmps3
 go_wp2_with fail
 refine (begun16_any w HT.out).mono ?_
 rintro e w0 ⟨rfl,HB0⟩
 have HG0:=Lib.hid (good_any a len cap 25 w0 (recs_bel HR.out HB0.out) (by omega))
 clear HR
 go_wp2_with fail
 refine HG0.out.mono ?_
 rintro e w2 ⟨G,sp,cp,rfl,hg,hG25⟩
 have HOK:=Lib.hid hg.out.1
 have HOW:=Lib.hid hg.out.2.1
 have HB2:=Lib.hid (HB0.out.trans (hg.out.2.2.mono HB0.out.size))
 obtain ⟨N,hN⟩:∃ N,G.length=N:=⟨_,rfl⟩
 rw [hN] at hG25 HOW ⊢
 have HGN:=Lib.hid hN
 have HRG:=Lib.hid (OwnRecs.at (L:=G) (by have:=HOW.out;rw [← hN] at this;exact this))
 rw [hN] at HRG
 clear hg hN HG0
 by_cases m1:0<more
 rotate_left
 focus
  have q1:decide ((0:Int)<more)=false:=by simp;omega
  go_wp2_with fail
  clear q1 m1
  obtain ⟨w5,rfl⟩:∃ w5,w5=w2:=⟨_,rfl⟩
  obtain ⟨l,rfl⟩:∃ l,l=G:=⟨_,rfl⟩
  have HRL:=HRG
  have HOKl:=HOK
  have HLN:=HGN
  have HB5:=HB2
  clear HRG HOK HGN HB2 HOW
 rotate_right
 by_cases m2:more<3000
 rotate_left
 focus
  have q1:decide ((0:Int)<more)=true:=by simp;omega
  have q2:decide (more<3000)=false:=by simp;omega
  go_wp2_with fail
  clear q1 q2 m1 m2
  obtain ⟨w5,rfl⟩:∃ w5,w5=w2:=⟨_,rfl⟩
  obtain ⟨l,rfl⟩:∃ l,l=G:=⟨_,rfl⟩
  have HRL:=HRG
  have HOKl:=HOK
  have HLN:=HGN
  have HB5:=HB2
  clear HRG HOK HGN HB2 HOW
 rotate_right
 by_cases m3:0<N
 rotate_left
 focus
  have q1:decide ((0:Int)<more)=true:=by simp;omega
  have q2:decide (more<3000)=true:=by simp;omega
  have q3:decide ((0:Int)<(N:Int))=false:=by simp;omega
  have q4:decide (0<N)=false:=by simp;omega
  go_wp2_with fail
  clear q1 q2 q3 q4 m1 m2 m3
  obtain ⟨w5,rfl⟩:∃ w5,w5=w2:=⟨_,rfl⟩
  obtain ⟨l,rfl⟩:∃ l,l=G:=⟨_,rfl⟩
  have HRL:=HRG
  have HOKl:=HOK
  have HLN:=HGN
  have HB5:=HB2
  clear HRG HOK HGN HB2 HOW
 rotate_right
 obtain ⟨g,cpg,cs,hsp,hgb,hkG,htk,hNc,hcm⟩:=own4_open HOW.out (by rw [HGN.out];exact m3)
 rw [HGN.out] at hNc
 simp at hsp
 obtain ⟨rfl,-,rfl⟩:=hsp
 obtain ⟨r0,hr0⟩:∃ r0,G.getD 0 zR=r0:=⟨_,rfl⟩
 obtain ⟨b',off',hb',c0,-,-,-⟩:=RecsAt.cell HRG.out (i:=0) (by rw [HGN.out];exact m3)
 simp at hb'
 obtain ⟨rfl,rfl⟩:=hb'
 rw [hr0] at c0
 simp only [Nat.zero_mul,Nat.add_zero] at c0
 have HR0:=Lib.hid hr0
 clear hr0
 by_cases m4:r0.kind=1
 rotate_left
 focus
  have q1:decide ((0:Int)<more)=true:=by simp;omega
  have q2:decide (more<3000)=true:=by simp;omega
  have q3:decide ((0:Int)<(N:Int))=true:=by simp;omega
  have q4:decide (0<N)=true:=by simp;omega
  have q5:(r0.kind==1)=false:=beq_f m4
  have hN0:(0:Int)<(N:Int):=by omega
  go_wp2_with fail
  clear q1 q2 q3 q4 q5 m1 m2 m4 c0 hN0 hgb hkG htk hNc hcm
  obtain ⟨w5,rfl⟩:∃ w5,w5=w2:=⟨_,rfl⟩
  obtain ⟨l,rfl⟩:∃ l,l=G:=⟨_,rfl⟩
  have HRL:=HRG
  have HOKl:=HOK
  have HLN:=HGN
  have HB5:=HB2
  clear HRG HOK HGN HB2 HOW
  obtain ⟨sp,hsp⟩:∃ sp,sp=some (⟨g,0,none⟩:Addr):=⟨_,rfl⟩
  rw [← hsp] at HRL ⊢
  clear hsp HR0 m3
 rotate_right
 focus
  have q1:decide ((0:Int)<more)=true:=by simp;omega
  have q2:decide (more<3000)=true:=by simp;omega
  have q3:decide ((0:Int)<(N:Int))=true:=by simp;omega
  have q4:decide (0<N)=true:=by simp;omega
  have q5:(r0.kind==1)=true:=beq_t m4
  have hN0:(0:Int)<(N:Int):=by omega
  obtain ⟨mn,rfl⟩:∃ mn:Nat,more=(mn:Int):=⟨more.toNat,by omega⟩
  obtain ⟨i0,hi0,hz0,hz1,hz2⟩:=info_parts infoRecS
  have HI0:=Lib.hid hi0
  have HZ0:=Lib.hid (And.intro hz0 (And.intro hz1 hz2))
  have HCE:Hid (∀ j u,(rcells G)[j]? = some u→w2.cell? ((⟨g,0,none⟩:Addr).add j)=some u):=Lib.hid (World.ownsRow.cells HOW.out (g:=g) rfl)
  have HON:Hid (∀ u∈rcells G,u.oneCell'=true):=Lib.hid (by intro u hu;unfold rcells at hu;rw [List.mem_flatMap] at hu;obtain ⟨r,_,h⟩:=hu;exact recL_one r u h)
  have HRL0:Hid (0<N):=Lib.hid m3
  have hok0:chk r0=0:=by rw [← HR0.out];exact HOK.out _ (by rw [getD_of (by rw [HGN.out];exact m3)];exact List.getElem_mem _)
  have HOK0:=Lib.hid hok0
  have HM4:=Lib.hid m4
  clear hi0 hz0 hz1 hz2 hgb hkG htk hNc hcm hok0 m4 m3
  go_wp2_with (at_builtin;refine wpList_append_own _ rfl (.const (.slice none 0 0)) (.tmp 44) _ rfl w2.heap.size 26 i0 (.agg (recL zR).toArray) 4 48 Tryz.underlying22 HI0.out HZ0.out.1 HZ0.out.2.1 HZ0.out.2.2 rfl (by decide) (.slice none 0 0) 0 [] rfl (World.ownsRow_nil _ _ _ _) ⟨g,0,none⟩ N cp (rcells G) rfl (by rw [rcells_length,HGN.out]) HCE.out HON.out (by unfold maxLen;omega) (by omega) (Nat.le_refl _) ?_;intro v3 w3 ho3 hg3 _;rw [Nat.zero_add,List.nil_append] at ho3;obtain ⟨g3,cp3,cs3,rfl,hgb3,hk3,htk3,hNc3,hcm3⟩:=own4_open ho3 HRL0.out;have HB3:=Lib.hid (HB2.out.trans (((Below.refl w2.heap.size w2).grown hg3 (Nat.le_refl _) (by intro k hk;cases hk)).mono HB2.out.size));have hmk:=run_makeB mn (by omega) w3;have hal:Below w3.heap.size w3 (w3.alloc (.cells (u8s (List.replicate mn 0)).toArray 5)):=(Below.refl _ _).alloc (Nat.le_refl _) _;have hk4:=hk3.below hal hk3.lt;have hi4:=isBytes_mark w3 (List.replicate mn 0) (0,0) (by intro x hx;rw [List.mem_replicate] at hx;omega) (by rw [List.length_replicate];unfold maxLen;omega);rw [List.length_replicate] at hi4;have hcv:=run_conv hi4;obtain ⟨S,hS⟩:∃ S,str (List.replicate mn 0)=S:=⟨_,rfl⟩;have hSl:S.size≤3000:=(by rw [← hS,str_sz,List.length_replicate];omega);rw [hS] at hcv;obtain ⟨w4,hw4⟩:∃ w4,w3.alloc (.cells (u8s (List.replicate mn 0)).toArray 5)=w4:=⟨_,rfl⟩;have hcv:(convS (.slice (some ⟨w3.heap.size,0,none⟩) mn mn)).run Tryz.prog w4=.ok (.string S) w4:=(by rw [← hw4];exact hcv);rw [hw4] at hmk hal hk4;have HRS:=Lib.hid (recs_set hk4 htk3 HGN.out HRL0.out hNc3 hcm3 S);rw [HR0.out] at HRS;have f3:w4.frozen? ⟨g3,3,none⟩=false:=hk4.frozen 3;have c3:w4.cell? ⟨g3,3,none⟩=some (.string r0.val):=hk4.cell (by have h1:=rcells_get (L:=G) (i:=0) (j:=3) (u:=.string r0.val) (by rw [HGN.out];exact HRL0.out) (by rw [HR0.out];rfl);rw [← htk3,List.getElem?_take_of_lt (by rw [rcells_length,HGN.out];have:=HRL0.out;omega)] at h1;exact h1);obtain ⟨w5,hw5⟩:∃ w5,w4.setCell ⟨g3,3,none⟩ (.string S)=w5:=⟨_,rfl⟩;rw [hw5] at HRS;have HB5:Hid (Below w.heap.size w w5):=Lib.hid (by rw [← hw5];exact (HB3.out.trans (hal.mono HB3.out.size)).setCell (p:=⟨g3,3,none⟩) (Nat.le_trans HB2.out.size hgb3) _);clear ho3 hg3 hgb3 hk3 htk3 hal hk4 hi4 hS HB3 hNc3 hcm3)
  have HOKl:Hid (∀ r∈G.set 0 (putV r0 S),chk r=0):=Lib.hid fun r hr=>by
   rcases List.mem_or_eq_of_mem_set hr with h | h
   ·exact HOK.out r h
   ·rw [h];exact put_chk HOK0.out HM4.out (by omega)
  have HLN:Hid ((G.set 0 (putV r0 S)).length=N):=Lib.hid (by rw [List.length_set];exact HGN.out)
  obtain ⟨l,hl⟩:∃ l,G.set 0 (putV r0 S)=l:=⟨_,rfl⟩
  rw [hl] at HOKl HLN HRS
  have HRL:=HRS
  obtain ⟨sp,hsp⟩:∃ sp,sp=some (⟨g3,0,none⟩:Addr):=⟨_,rfl⟩
  rw [← hsp] at HRL ⊢
  obtain ⟨cp,rfl⟩:∃ c,c=cp3:=⟨_,rfl⟩
  clear q1 q2 q3 q4 q5 m1 m2 c0 hN0 HI0 HZ0 HCE HON HRL0 HOK0 HM4 HR0 HRG HOK HGN HB2 HOW hmk hcv hSl f3 c3 hw4 hw5 hl hsp HRS
 all_goals
  have hrows:=rowsE_len HOKl.out
  have hvals:=valsE_len HOKl.out
  have hsz:=size_ok HOKl.out
  rw [HLN.out] at hrows hvals hsz
  have HBL:=Lib.hid (buildP_len (l:=l) (by omega) (by omega))
  have HMX:Hid (∀ r∈l,r.key.size≤maxLen∧r.val.size≤maxLen):=Lib.hid fun r hr=>by have:=chk_ok (HOKl.out r hr);unfold maxLen;omega
  have HBu:=Lib.hid (build_any _ l w5 (HT.out.below HB5.out) HRL.out (by rw [HLN.out];omega) HMX.out (by omega))
  have HSZ:=Lib.hid hsz
  have HL7:Hid (l.length≤1000):=Lib.hid (by rw [HLN.out];omega)
  clear hrows hvals hsz
  go_wp2_with fail
  refine HBu.out.mono ?_
  rintro e w6 ⟨HB6,⟨_,sb,nb,cb,rfl,HNB,HI6⟩ | ⟨c,h1,h2,_⟩⟩
  rotate_left
  ·exact absurd (h1.symm.trans (bad_ok HOKl.out)) h2
  have HBB6:=Lib.hid (HB5.out.trans (HB6.out.mono HB5.out.size))
  have HRL6:=Lib.hid (HRL.out.below HB6.out)
  have HOp:=Lib.hid (open_built HOKl.out HL7.out _ _ w6 (HT.out.below HBB6.out) HI6.out rfl HBL.out)
  clear HB6 HBu HRL HB5
  go_wp2_with fail
  refine HOp.out.mono ?_
  rintro e w7 ⟨gs,rfl,HS7,HB7⟩
  have HBB7:=Lib.hid (HBB6.out.trans (HB7.out.mono HBB6.out.size))
  have HRL7:=Lib.hid (HRL6.out.below HB7.out)
  have HLE:=Lib.hid (len_seg gs _ _ w7 HS7.out)
  rw [rowsOf_length,HLN.out] at HLE
  clear HB7 HOp HI6 HRL6 HBB6
  go_wp2_with fail
  refine HLE.out.mono ?_
  rintro e w' ⟨rfl,rfl⟩
  have q1:((N:Int) != (N:Int))=false:=bne_f rfl
  have HBY:=Lib.hid (bytes_any _ l w7 HRL7.out (by rw [HLN.out];omega) HMX.out)
  have hET:=encT_le l
  rw [HLN.out] at hET
  obtain ⟨T,hT⟩:∃ T,encT l=T:=⟨_,rfl⟩
  rw [hT] at HBY hET HSZ
  have hnb:nb≤T+40*N+200:=by rw [HNB.out];exact HSZ.out
  clear hT HLE HSZ HNB
  go_wp2_with fail
  refine HBY.out.mono ?_
  rintro e w8 ⟨rfl,HB8⟩
  have HBB8:=Lib.hid (HBB7.out.trans (HB8.out.mono HBB7.out.size))
  have HRL8:=Lib.hid (HRL7.out.below HB8.out)
  have HS8:=Lib.hid (HS7.out.below HB8.out)
  have q2:decide ((T:Int)+40*(N:Int)+200<(nb:Int))=false:=by simp;omega
  clear HB8 HBY HRL7 HS7 HBB7
  go_wp2_with fail
  go_loopw [12] (fun x wr=>∃ i:Nat,i≤N∧x=.int .i64 i∧Hid (Below w8.heap.size w8 wr)) (fun x _=>N-(intOf x).toNat)
  case atStart=>exact ⟨0,by omega,rfl,Lib.hid (Below.refl _ _)⟩
  case round=>
   obtain ⟨i,hi,rfl,HBr⟩:=hrel
   have HBBr:=Lib.hid (HBB8.out.trans (HBr.out.mono HBB8.out.size))
   have HSr:=Lib.hid (HS8.out.below HBr.out)
   have HRr:=Lib.hid (HRL8.out.below HBr.out)
   by_cases hlt:i<N
   ·have hltl:i<l.length:=by rw [HLN.out];exact hlt
    have HGE:=Lib.hid (get_built HOKl.out HL7.out gs i wr (HT.out.below HBBr.out) HSr.out hltl)
    have hmem:l.getD i zR∈l:=by rw [getD_of hltl];exact List.getElem_mem _
    have hksm:=(HMX.out _ hmem).1
    obtain ⟨j,hj,_⟩:=lastN_some (rowsOf l) (s:=(l.getD i zR).key) l.length i hltl (by rw [rowsOf_get l hltl];rfl)
    obtain ⟨r,hr⟩:∃ r,l.getD i zR=r:=⟨_,rfl⟩
    rw [hr] at HGE hksm hj
    have HRI:=Lib.hid hr
    have HJ:=Lib.hid hj
    have hi1:(i:Int)<(N:Int):=by omega
    clear hltl hmem hr hj
    go_wp2_with fail
    refine HGE.out.mono ?_
    rintro e w9 ⟨rfl,HB9⟩
    obtain ⟨wA,hstA,HKA,HBA⟩:=back_rec (w:=w9) r (Blk.new w9 26 (recL zR)) ((Below.refl _ _).alloc (Nat.le_refl _) _) (Nat.le_refl _)
    simp only [recL,zR] at hstA
    have HB9A:=Lib.hid (HB9.out.trans (HBA.out.mono HB9.out.size))
    have HSA:=Lib.hid (HSr.out.below HB9A.out)
    have HRA:=Lib.hid (HRr.out.below HB9A.out)
    obtain ⟨b,off,rfl,-,-,c2,-⟩:=RecsAt.cell HRA.out (i:=i) (by rw [HLN.out];exact hlt)
    obtain ⟨b',off',hb',hld2⟩:=RecsAt.load (W:=wA) HRA.out (i:=i) (by rw [HLN.out];exact hlt)
    simp only [Option.some.injEq,Addr.mk.injEq] at hb'
    obtain ⟨rfl,rfl,-⟩:=hb'
    rw [HRI.out] at c2 hld2
    have hbl:b<wA.heap.size:=World.block_lt_of_cell? wA _ c2
    have HFI:=Lib.hid (find_seg gs _ _ r.key wA HSA.out hksm)
    rw [rowsOf_length,HJ.out] at HFI
    have hLD1:∀ W,From wA W→(loadR (.pointer (some ⟨w9.heap.size,0,none⟩))).run Tryz.prog W=.ok (.agg #[.int .i64 r.kind,.int .i64 r.seq,.string r.key,.string r.val]) W:=fun W hW=>run_loadR_blk (HKA.out.below hW HKA.out.lt)
    have hC2:∀ W,From wA W→W.cell? ⟨b,off+i*4+2,none⟩=some (.string r.key):=fun W hW=>(Below.cell (p:=⟨b,off+i*4+2,none⟩) hW hbl).trans c2
    have hLA:∀ W,From wA W→Calls Tryz.prog 18 #[.slice (some ⟨b,off,none⟩) N cp,.string r.key] W fun e w'=>e=.returned (.int .i64 (j:Nat))∧W=w':=fun W hW=>(last_any _ l r.key W (HRA.out.below hW)).mono fun e w' h=>by
     obtain ⟨h1,h2⟩:=h
     rw [HJ.out] at h1
     exact ⟨h1,h2⟩
    have q5:((j:Int) != (j:Int))=false:=bne_f rfl
    have hLD2:=hld2
    have HBrA:=Lib.hid (HBr.out.trans (HB9A.out.mono HBr.out.size))
    clear HGE HB9 HBA hksm hbl hld2 HRI
    go_wp2_with fail
    refine HFI.out.mono ?_
    rintro e w' ⟨rfl,rfl⟩
    simp only [Option.getD_some,Option.isSome_some]
    clear HFI hstA
    go_wp2_with fail
    have hHeld:From wA wA.drew:=(Below.refl _ _).drew
    refine wp_region_noPanic ?_
    refine wpAnyH_start (n:=26) (l:=#[false,false,false,false,false,false,false,false,false,false,false,false,false,false,false,false,false,false,false,false,false,false,false,false,false,false]) (S:=From wA) (by kernel_rfl) (hHeld) (by kernel_rfl) (by kernel_rfl) ?_
    refine wpAnyH_take (i:=0) (oi:=_) (v:=?_) rfl (by kernel_rfl) (by kernel_rfl) (by kernel_rfl) (fun _ _ _ h=>h) (Or.inl ⟨by rfl,?_⟩) (by assumption) ?_
    rotate_left
    ·intro wq hSw;go_simp;try with_reducible rfl
    simp only [Act.put,List.setIfInBounds_toArray,List.set_cons_zero,List.set_cons_succ,List.getElem_toArray,List.getElem_cons_zero,List.getElem_cons_succ]
    refine wpAnyH_take (i:=1) (oi:=_) (v:=?_) rfl (by kernel_rfl) (by kernel_rfl) (by kernel_rfl) (fun _ _ _ h=>h) (Or.inl ⟨by rfl,?_⟩) (by assumption) ?_
    rotate_left
    ·intro wq hSw;go_simp;try with_reducible rfl
    simp only [Act.put,List.setIfInBounds_toArray,List.set_cons_zero,List.set_cons_succ,List.getElem_toArray,List.getElem_cons_zero,List.getElem_cons_succ]
    refine wpAnyH_take (i:=2) (oi:=_) (v:=?_) rfl (by kernel_rfl) (by kernel_rfl) (by kernel_rfl) (fun _ _ _ h=>h) (Or.inl ⟨by rfl,?_⟩) (by assumption) ?_
    rotate_left
    ·intro wq hSw;go_simp;try with_reducible rfl
    simp only [Act.put,List.setIfInBounds_toArray,List.set_cons_zero,List.set_cons_succ,List.getElem_toArray,List.getElem_cons_zero,List.getElem_cons_succ]
    refine wpAnyH_take (i:=3) (oi:=_) (v:=?_) rfl (by kernel_rfl) (by kernel_rfl) (by kernel_rfl) (fun _ _ _ h=>h) (Or.inl ⟨by rfl,?_⟩) (by assumption) ?_
    rotate_left
    ·intro wq hSw;have hl:=hLD1 wq hSw;go_simp;try with_reducible rfl
    simp only [Act.put,List.setIfInBounds_toArray,List.set_cons_zero,List.set_cons_succ,List.getElem_toArray,List.getElem_cons_zero,List.getElem_cons_succ]
    refine wpAnyH_take (i:=4) (oi:=_) (v:=?_) rfl (by kernel_rfl) (by kernel_rfl) (by kernel_rfl) (fun _ _ _ h=>h) (Or.inl ⟨by rfl,?_⟩) (by assumption) ?_
    rotate_left
    ·intro wq hSw;go_simp;try with_reducible rfl
    simp only [Act.put,List.setIfInBounds_toArray,List.set_cons_zero,List.set_cons_succ,List.getElem_toArray,List.getElem_cons_zero,List.getElem_cons_succ]
    refine wpAnyH_take (i:=5) (oi:=_) (v:=?_) rfl (by kernel_rfl) (by kernel_rfl) (by kernel_rfl) (fun _ _ _ h=>h) (Or.inl ⟨by rfl,?_⟩) (by assumption) ?_
    rotate_left
    ·intro wq hSw;go_simp;try with_reducible rfl
    simp only [Act.put,List.setIfInBounds_toArray,List.set_cons_zero,List.set_cons_succ,List.getElem_toArray,List.getElem_cons_zero,List.getElem_cons_succ]
    refine wpAnyH_take (i:=6) (oi:=_) (v:=?_) rfl (by kernel_rfl) (by kernel_rfl) (by kernel_rfl) (fun _ _ _ h=>h) (Or.inl ⟨by rfl,?_⟩) (by assumption) ?_
    rotate_left
    ·intro wq hSw;go_simp;try with_reducible rfl
    simp only [Act.put,List.setIfInBounds_toArray,List.set_cons_zero,List.set_cons_succ,List.getElem_toArray,List.getElem_cons_zero,List.getElem_cons_succ]
    refine wpAnyH_take (i:=7) (oi:=_) (v:=?_) rfl (by kernel_rfl) (by kernel_rfl) (by kernel_rfl) (fun _ _ _ h=>h) (Or.inl ⟨by rfl,?_⟩) (by assumption) ?_
    rotate_left
    ·intro wq hSw;have hl:=hLD2 wq hSw;go_simp;try with_reducible rfl
    simp only [Act.put,List.setIfInBounds_toArray,List.set_cons_zero,List.set_cons_succ,List.getElem_toArray,List.getElem_cons_zero,List.getElem_cons_succ]
    refine wpAnyH_ready (rs:=[8]) (by kernel_rfl) (by simp) ?_
    refine AllReadyH.cons (o:=_) rfl (fun K hK=>?_) AllReadyH.nil
    simp only [List.getElem_toArray,List.getElem_cons_zero,List.getElem_cons_succ]
    go_simp
    refine (eq_same r _).mono ?_;rintro e wB ⟨rfl,HBB⟩;have HEB:=Lib.hid (From.trans hHeld HBB.out)
    refine hK.out _ _ (HEB.out) (fun _=>?_)
    clear hK K
    clear hHeld
    have hHeld:=HEB.out
    simp only [Act.put,List.setIfInBounds_toArray,List.set_cons_zero,List.set_cons_succ,List.getElem_toArray,List.getElem_cons_zero,List.getElem_cons_succ]
    refine wpAnyH_take (i:=9) (oi:=_) (v:=?_) rfl (by kernel_rfl) (by kernel_rfl) (by kernel_rfl) (fun _ _ _ h=>h) (Or.inl ⟨by rfl,?_⟩) (by assumption) ?_
    rotate_left
    ·intro wq hSw;go_simp;try with_reducible rfl
    simp only [Act.put,List.setIfInBounds_toArray,List.set_cons_zero,List.set_cons_succ,List.getElem_toArray,List.getElem_cons_zero,List.getElem_cons_succ]
    refine wpAnyH_take (i:=10) (oi:=_) (v:=?_) rfl (by kernel_rfl) (by kernel_rfl) (by kernel_rfl) (fun _ _ _ h=>h) (Or.inl ⟨by rfl,?_⟩) (by assumption) ?_
    rotate_left
    ·intro wq hSw;go_simp;try with_reducible rfl
    simp only [Act.put,List.setIfInBounds_toArray,List.set_cons_zero,List.set_cons_succ,List.getElem_toArray,List.getElem_cons_zero,List.getElem_cons_succ]
    refine wpAnyH_take (i:=11) (oi:=_) (v:=?_) rfl (by kernel_rfl) (by kernel_rfl) (by kernel_rfl) (fun _ _ _ h=>h) (Or.inl ⟨by rfl,?_⟩) (by assumption) ?_
    rotate_left
    ·intro wq hSw;go_simp;try with_reducible rfl
    simp only [Act.put,List.setIfInBounds_toArray,List.set_cons_zero,List.set_cons_succ,List.getElem_toArray,List.getElem_cons_zero,List.getElem_cons_succ]
    refine wpAnyH_take (i:=12) (oi:=_) (v:=?_) rfl (by kernel_rfl) (by kernel_rfl) (by kernel_rfl) (fun _ _ _ h=>h) (Or.inl ⟨by rfl,?_⟩) (by assumption) ?_
    rotate_left
    ·intro wq hSw;go_simp;try with_reducible rfl
    simp only [Act.put,List.setIfInBounds_toArray,List.set_cons_zero,List.set_cons_succ,List.getElem_toArray,List.getElem_cons_zero,List.getElem_cons_succ]
    refine wpAnyH_take (i:=13) (oi:=_) (v:=?_) rfl (by kernel_rfl) (by kernel_rfl) (by kernel_rfl) (fun _ _ _ h=>h) (Or.inl ⟨by rfl,?_⟩) (by assumption) ?_
    rotate_left
    ·intro wq hSw;go_simp;try with_reducible rfl
    simp only [Act.put,List.setIfInBounds_toArray,List.set_cons_zero,List.set_cons_succ,List.getElem_toArray,List.getElem_cons_zero,List.getElem_cons_succ]
    refine wpAnyH_take (i:=14) (oi:=_) (v:=?_) rfl (by kernel_rfl) (by kernel_rfl) (by kernel_rfl) (fun _ _ _ h=>h) (Or.inl ⟨by rfl,?_⟩) (by assumption) ?_
    rotate_left
    ·intro wq hSw;go_simp;try with_reducible rfl
    simp only [Act.put,List.setIfInBounds_toArray,List.set_cons_zero,List.set_cons_succ,List.getElem_toArray,List.getElem_cons_zero,List.getElem_cons_succ]
    refine wpAnyH_take (i:=15) (oi:=_) (v:=?_) rfl (by kernel_rfl) (by kernel_rfl) (by kernel_rfl) (fun _ _ _ h=>h) (Or.inl ⟨by rfl,?_⟩) (by assumption) ?_
    rotate_left
    ·intro wq hSw;go_simp;try with_reducible rfl
    simp only [Act.put,List.setIfInBounds_toArray,List.set_cons_zero,List.set_cons_succ,List.getElem_toArray,List.getElem_cons_zero,List.getElem_cons_succ]
    refine wpAnyH_take (i:=16) (oi:=_) (v:=?_) rfl (by kernel_rfl) (by kernel_rfl) (by kernel_rfl) (fun _ _ _ h=>h) (Or.inl ⟨by rfl,?_⟩) (by assumption) ?_
    rotate_left
    ·intro wq hSw;go_simp;try with_reducible rfl
    simp only [Act.put,List.setIfInBounds_toArray,List.set_cons_zero,List.set_cons_succ,List.getElem_toArray,List.getElem_cons_zero,List.getElem_cons_succ]
    refine wpAnyH_take (i:=17) (oi:=_) (v:=?_) rfl (by kernel_rfl) (by kernel_rfl) (by kernel_rfl) (fun _ _ _ h=>h) (Or.inl ⟨by rfl,?_⟩) (by assumption) ?_
    rotate_left
    ·intro wq hSw;go_simp;try with_reducible rfl
    simp only [Act.put,List.setIfInBounds_toArray,List.set_cons_zero,List.set_cons_succ,List.getElem_toArray,List.getElem_cons_zero,List.getElem_cons_succ]
    refine wpAnyH_take (i:=18) (oi:=_) (v:=?_) rfl (by kernel_rfl) (by kernel_rfl) (by kernel_rfl) (fun _ _ _ h=>h) (Or.inl ⟨by rfl,?_⟩) (by assumption) ?_
    rotate_left
    ·intro wq hSw;go_simp;try with_reducible rfl
    simp only [Act.put,List.setIfInBounds_toArray,List.set_cons_zero,List.set_cons_succ,List.getElem_toArray,List.getElem_cons_zero,List.getElem_cons_succ]
    refine wpAnyH_take (i:=19) (oi:=_) (v:=?_) rfl (by kernel_rfl) (by kernel_rfl) (by kernel_rfl) (fun _ _ _ h=>h) (Or.inl ⟨by rfl,?_⟩) (by assumption) ?_
    rotate_left
    ·intro wq hSw;go_simp;try with_reducible rfl
    simp only [Act.put,List.setIfInBounds_toArray,List.set_cons_zero,List.set_cons_succ,List.getElem_toArray,List.getElem_cons_zero,List.getElem_cons_succ]
    refine wpAnyH_take (i:=20) (oi:=_) (v:=?_) rfl (by kernel_rfl) (by kernel_rfl) (by kernel_rfl) (fun _ _ _ h=>h) (Or.inl ⟨by rfl,?_⟩) (by assumption) ?_
    rotate_left
    ·intro wq hSw;go_simp;try with_reducible rfl
    simp only [Act.put,List.setIfInBounds_toArray,List.set_cons_zero,List.set_cons_succ,List.getElem_toArray,List.getElem_cons_zero,List.getElem_cons_succ]
    refine wpAnyH_take (i:=21) (oi:=_) (v:=?_) rfl (by kernel_rfl) (by kernel_rfl) (by kernel_rfl) (fun _ _ _ h=>h) (Or.inl ⟨by rfl,?_⟩) (by assumption) ?_
    rotate_left
    ·intro wq hSw;go_simp;try with_reducible rfl
    simp only [Act.put,List.setIfInBounds_toArray,List.set_cons_zero,List.set_cons_succ,List.getElem_toArray,List.getElem_cons_zero,List.getElem_cons_succ]
    refine wpAnyH_take (i:=22) (oi:=_) (v:=?_) rfl (by kernel_rfl) (by kernel_rfl) (by kernel_rfl) (fun _ _ _ h=>h) (Or.inl ⟨by rfl,?_⟩) (by assumption) ?_
    rotate_left
    ·intro wq hSw;have hl:=hC2 wq hSw;go_simp;try with_reducible rfl
    simp only [Act.put,List.setIfInBounds_toArray,List.set_cons_zero,List.set_cons_succ,List.getElem_toArray,List.getElem_cons_zero,List.getElem_cons_succ]
    refine wpAnyH_ready (rs:=[23]) (by kernel_rfl) (by simp) ?_
    refine AllReadyH.cons (o:=_) rfl (fun K hK=>?_) AllReadyH.nil
    simp only [List.getElem_toArray,List.getElem_cons_zero,List.getElem_cons_succ]
    go_simp
    refine (hLA _ hHeld).mono ?_;rintro e w' ⟨rfl,rfl⟩
    refine hK.out _ _ (hHeld) (fun _=>?_)
    clear hK K
    simp only [Act.put,List.setIfInBounds_toArray,List.set_cons_zero,List.set_cons_succ,List.getElem_toArray,List.getElem_cons_zero,List.getElem_cons_succ]
    refine wpAnyH_take (i:=24) (oi:=_) (v:=?_) rfl (by kernel_rfl) (by kernel_rfl) (by kernel_rfl) (fun _ _ _ h=>h) (Or.inl ⟨by rfl,?_⟩) (by assumption) ?_
    rotate_left
    ·intro wq hSw;go_simp;try with_reducible rfl
    simp only [Act.put,List.setIfInBounds_toArray,List.set_cons_zero,List.set_cons_succ,List.getElem_toArray,List.getElem_cons_zero,List.getElem_cons_succ]
    refine wpAnyH_take (i:=25) (oi:=_) (v:=?_) rfl (by kernel_rfl) (by kernel_rfl) (by kernel_rfl) (fun _ _ _ h=>h) (Or.inl ⟨by rfl,?_⟩) (by assumption) ?_
    rotate_left
    ·intro wq hSw;go_simp;try with_reducible rfl
    simp only [Act.put,List.setIfInBounds_toArray,List.set_cons_zero,List.set_cons_succ,List.getElem_toArray,List.getElem_cons_zero,List.getElem_cons_succ]
    refine wpAnyH_done (by kernel_rfl) ?_ _
    refine NoPanic.normal ?_
    clear hHeld hLD1 hLD2 hC2 hLA
    go_wp2_with fail
    go_roundw
    case rel=>exact ⟨i+1,by omega,by go_num,Lib.hid (HBrA.out.trans (HEB.out.mono HBrA.out.size))⟩
    case measure=>simp [intOf];omega
   ·obtain rfl:i=N:=by omega
    have HAL:=Lib.hid (all_built HOKl.out HL7.out gs wr (HT.out.below HBBr.out) HSr.out)
    go_wp2_with fail
    refine HAL.out.mono ?_
    rintro e wC ⟨vA,rfl,HVA,HBC⟩
    have HBBC:=Lib.hid (HBBr.out.trans (HBC.out.mono HBBr.out.size))
    have HRC:=Lib.hid (HRr.out.below HBC.out)
    have HFI:=Lib.hid (find_seg gs _ _ s wC (HSr.out.below HBC.out) hs)
    have HLA:=Lib.hid (last_any _ l s wC HRC.out)
    have HEQ:=Lib.hid (eqAll_same vA _ l wC HVA.out HRC.out)
    rw [rowsOf_length] at HFI
    obtain ⟨o,ho⟩:∃ o,lastN (rowsOf l) s l.length=o:=⟨_,rfl⟩
    rw [ho] at HFI HLA
    clear HAL HBC ho HRr HSr HBBr
    go_wp2_with fail
    refine HFI.out.mono ?_
    rintro e w' ⟨rfl,rfl⟩
    clear HFI
    go_wp2_with fail
    refine HLA.out.mono ?_
    rintro e w' ⟨rfl,rfl⟩
    clear HLA
    cases o with
    | none=>
      simp only [Option.getD_none,Option.isSome_none,Int.natCast_zero,lastI]
      go_wp2_with fail
      refine HEQ.out.mono ?_
      rintro e wD ⟨rfl,HBD⟩
      have HBF:=Lib.hid (HBBC.out.trans (HBD.out.mono HBBC.out.size))
      clear HEQ HBD
      go_wp2
      go_ret
      exact ⟨rfl,HBF.out⟩
    | some j=>
      simp only [Option.getD_some,Option.isSome_some,lastI]
      have q6:((j:Int)==(j:Int))=true:=beq_t rfl
      have q7:decide ((j:Int)≥0)=true:=by simp
      go_wp2_with fail
      refine HEQ.out.mono ?_
      rintro e wD ⟨rfl,HBD⟩
      have HBF:=Lib.hid (HBBC.out.trans (HBD.out.mono HBBC.out.size))
      clear HEQ HBD
      go_wp2
      go_ret
      exact ⟨rfl,HBF.out⟩
end Go.Proofs.YtmjpnbadfmgimaaGreatDoor.S16

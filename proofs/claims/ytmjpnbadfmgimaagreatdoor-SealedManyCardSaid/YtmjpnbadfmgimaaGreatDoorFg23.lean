/- Texts put together: SufMx, SufNb. -/
import Derived.Test.YtmjpnbadfmgimaaGreatDoorFg15
import Derived.Test.YtmjpnbadfmgimaaGreatDoorFg16
import Derived.Test.YtmjpnbadfmgimaaGreatDoorFg18
import Derived.Deep.OwnRows
import Derived.BigRegion
set_option linter.unusedSimpArgs false
set_option linter.unusedVariables false
set_option maxRecDepth 100000
set_option maxHeartbeats 32000000
namespace Go.Proofs.YtmjpnbadfmgimaaGreatDoor.Pl
end Go.Proofs.YtmjpnbadfmgimaaGreatDoor.Pl
namespace Go.Proofs.YtmjpnbadfmgimaaGreatDoor.S8.Pl
end Go.Proofs.YtmjpnbadfmgimaaGreatDoor.S8.Pl
namespace Go.Proofs.YtmjpnbadfmgimaaGreatDoor.S8
open Go.RowKit _root_.Go.Proofs.YtmjpnbadfmgimaaGreatDoor.Pl _root_.Go.Proofs.YtmjpnbadfmgimaaGreatDoor.S8.Pl
def maxI (ats:Array TypeId) (ty:TypeId) (v u:Value):Sem Value:=Builtin.max_ ats ty #[v,u]
theorem maxI_eq (ats:Array TypeId) (ty:TypeId) (v u:Value):Builtin.max_ ats ty #[v,u]=maxI ats ty v u:=rfl
theorem run_maxI (ats:Array TypeId) (ty:TypeId) (a b:Nat) (w:World):(maxI ats ty (.int .i64 a) (.int .i64 b)).run Tryz.prog w=.ok (.int .i64 (Nat.max a b:Nat)) w:=by
 unfold maxI Builtin.max_
 rcases Nat.le_total a b with h | h
 ·rw [show Nat.max a b=b from Nat.max_eq_right h]
  by_cases h2:a<b
  ·have h3:(a:Int)<(b:Int):=by omega
   simp [Builtin.max2,h2,h3]
  ·obtain rfl:a=b:=by omega
   simp [Builtin.max2]
 ·rw [show Nat.max a b=a from Nat.max_eq_left h]
  have h3:¬ (a:Int)<(b:Int):=by omega
  have h2:¬ a<b:=by omega
  simp [Builtin.max2,h2,h3]
def TextPost_b (T:List Nat) (K:Nat) (lv:Value) (w:World) (e:Ending) (w':World):Prop:=
 ∃ rb sb:Nat,e=.returned (txV lv rb T.length sb (K+1))∧TxB w' w'.heap.size T K lv rb sb∧Below w.heap.size w w'
structure Made3_b (la:Option Addr) (lcap N K rb sb tb:Nat) (w W:World):Prop where
 r:Blk W rb 4 (bls (List.replicate N false))
 s:Blk W sb 3 (i64s (List.replicate (K+1) 0))
 t:Blk W tb 144 [.slice la N lcap,.slice (some ⟨rb,0,none⟩) N N,.slice (some ⟨sb,0,none⟩) (K+1) (K+1)]
 z:Blk W w.heap.size 144 [.slice none 0 0,.slice none 0 0,.slice none 0 0]
 rs:rb≠sb
 rt:rb≠tb
 st:sb≠tb
 r0:w.heap.size<rb
 s0:w.heap.size<sb
 t0:w.heap.size<tb
 bel:Below w.heap.size w W
theorem heap_of3_b (w:World) (o0 o1 o2 o3:Obj):let W:=((((w.alloc o0).alloc o1).alloc o2).alloc o3);W.heap[w.heap.size]? = some o0∧W.heap[w.heap.size+1]? = some o1∧W.heap[w.heap.size+1+1]? = some o2∧W.heap[w.heap.size+1+1+1]? = some o3:=by
 intro W
 have s1:(w.alloc o0).heap.size=w.heap.size+1:=by simp
 have s2:((w.alloc o0).alloc o1).heap.size=w.heap.size+1+1:=by simp
 have s3:(((w.alloc o0).alloc o1).alloc o2).heap.size=w.heap.size+1+1+1:=by simp
 have h0:=heap_alloc_new w o0
 have h1:=heap_alloc_new (w.alloc o0) o1
 have h2:=heap_alloc_new ((w.alloc o0).alloc o1) o2
 have h3:=heap_alloc_new (((w.alloc o0).alloc o1).alloc o2) o3
 rw [s1] at h1
 rw [s2] at h2
 rw [s3] at h3
 refine ⟨?_,?_,?_,h3⟩
 ·rw [Below.heap_alloc _ _ _ (by omega),Below.heap_alloc _ _ _ (by omega),Below.heap_alloc _ _ _ (by omega)];exact h0
 ·rw [Below.heap_alloc _ _ _ (by omega),Below.heap_alloc _ _ _ (by omega)];exact h1
 ·rw [Below.heap_alloc _ _ _ (by omega)];exact h2
theorem sizeT_b:(Tryz.prog.info? 144).map (·.size)=some 3:=by kernel_rfl
theorem infoZ_b:(Tryz.prog.info? 4).map (fun i=>(i.zero,i.size,i.bytes))=some (some (.bool false),1,1):=by kernel_rfl
theorem textOf_b (T:List Nat) (K:Nat) (lv:Value) (w:World) (hl:LetB w w.heap.size lv T) (hk:∀ x∈T,x<K) (hlen:T.length≤1000000) (hlenK:K≤1000000):
  Calls Tryz.prog 93 #[lv,.int .i64 K] w (TextPost_b T K lv w):=by
 obtain ⟨la,lcap,rfl,hlc⟩:=hl.at
 have hmk1:=run_make_row' (P:=Tryz.prog) 142 4 (.bool false) 1 Tryz.underlying142 infoZ_b rfl .i64 .i64 T.length (by omega) (by omega)
 have hmk2:=run_make_row' (P:=Tryz.prog) 88 3 (.int .i64 0) 8 Tryz.underlying88 infoI rfl .i64 .i64 (K+1) (by omega) (by omega)
 have ec:((K+1:Nat):Int)=(K:Int)+1:=by omega
 rw [ec] at hmk2
 have HL:=Lib.hid hl
 have HLC:=Lib.hid hlc
 have HK:=Lib.hid hk
 obtain ⟨N,hN⟩:∃ N,T.length=N:=⟨_,rfl⟩
 rw [hN] at hlen hmk1 ⊢
 have HN:=Lib.hid hN
 clear hN hl hlc hk ec
 have e1:madeCells #[Value.bool false] N=(bls (List.replicate N false)).toArray:=by
  rw [← Array.toList_inj,toList_madeCells_one];simp [bls]
 have e2:madeCells #[Value.int IntKind.i64 0] (K+1)=(i64s (List.replicate (K+1) 0)).toArray:=by
  rw [← Array.toList_inj,toList_madeCells_one];simp [i64s]
 rw [e1] at hmk1
 rw [e2] at hmk2
 generalize hm1:bls (List.replicate N false)=m1 at*
 generalize hm2:i64s (List.replicate (K+1) 0)=m2 at*
 have HM1:=Lib.hid hm1
 have HM2:=Lib.hid hm2
 clear e1 e2 hm1 hm2
 go_enter Tryz.func93,Tryz.ntmps93
 go_wp2_with fail
 refine wp_mono (Q:=fun e a W=>e=.normal∧∃ rb sb tb,a={ tmps:=#[.slice la N lcap,.int .i64 K,undef,undef,.pointer (some ⟨w.heap.size,0,none⟩),.pointer (some ⟨tb,0,none⟩),undef,undef,undef,undef,undef,undef,.slice la N lcap,.slice la N lcap,.int .i64 N,.slice (some ⟨rb,0,none⟩) N N,.int .i64 K,.int .i64 ((K:Int)+1),.slice (some ⟨sb,0,none⟩) (K+1) (K+1),.agg #[.slice la N lcap,.slice (some ⟨rb,0,none⟩) N N,.slice (some ⟨sb,0,none⟩) (K+1) (K+1)],undef,undef,undef,undef,undef,undef,undef,undef,undef,undef,undef,undef,undef,undef,undef,undef,undef,undef,undef,undef,undef,undef,undef,undef,undef,undef,undef,undef,undef,undef,undef,undef,undef,undef,undef,undef,undef,undef,undef,undef,undef,undef,undef,undef,undef,undef,undef,undef,undef,undef,undef,undef,undef,undef,undef,undef,undef,undef,undef,undef,undef,undef,undef,undef,undef,undef,undef,undef,undef,undef,undef],defers:=[] }∧Made3_b la lcap N K rb sb tb w W) ?_ ?_
 ·go_region
  all_goals
   refine ⟨rfl,_,_,_,rfl,?_⟩
   have h3:=heap_of3_b w (.cells #[.slice none 0 0,.slice none 0 0,.slice none 0 0] 144)
   refine ⟨?_,?_,?_,(h3 _ _ _).1,by omega,by omega,by omega,by omega,by omega,by omega,?_⟩
   ·rw [HM1.out];first | exact (h3 _ _ _).2.1 | exact (h3 _ _ _).2.2.1 | exact (h3 _ _ _).2.2.2
   ·rw [HM2.out];first | exact (h3 _ _ _).2.1 | exact (h3 _ _ _).2.2.1 | exact (h3 _ _ _).2.2.2
   ·first | exact (h3 _ _ _).2.1 | exact (h3 _ _ _).2.2.1 | exact (h3 _ _ _).2.2.2
   ·exact (((((Below.refl _ w).alloc (Nat.le_refl _) _).alloc (by simp) _).alloc (by simp;omega) _).alloc (by simp;omega) _).drew
 ·rintro e a W ⟨rfl,rb,sb,tb,rfl,hM⟩
  clear hmk1 hmk2
  have HM:=Lib.hid hM
  obtain ⟨_,_,_,_,hrs,hrt,hst,hr0,hs0,ht0,hbel⟩:=hM
  have hsr:=hrs.symm
  have htr:=hrt.symm
  have hts:=hst.symm
  have hwb:=hbel.size
  have hlr:=HM.out.r.lt
  clear hbel
  have HR0:Hid (∃ a:Nat,(((N:Int)-2=(a:Int)-1)∨((N:Int)-2=-2∧a=0))∧(a=0∨a<N)∧RisInv T (List.replicate N false) a):=Lib.hid (by
   rcases N with _ | n
   ·exact ⟨0,.inr ⟨by omega,rfl⟩,.inl rfl,by have:=ris_start T 0 (by rw [HN.out];omega);rwa [HN.out] at this⟩
   ·exact ⟨n,.inl (by omega),by omega,by have:=ris_start T n (by rw [HN.out];omega);rwa [HN.out] at this⟩)
  go_wp2_with fail
  go_loopw [6] (fun x wr=>∃ (z:Int) (a:Nat) (R:List Bool),x=.int .i64 z∧((z=(a:Int)-1)∨(z=-2∧a=0))∧(a=0∨a<N)∧RisInv T R a∧Blk wr rb 4 (bls R)∧Gr W wr rb) (fun x _=>(intOf x+1).toNat)
  case atStart=>
   obtain ⟨a,h1,h2,h3⟩:=HR0.out
   exact ⟨_,a,_,rfl,h1,h2,h3,HM.out.r,Gr.refl _ _⟩
  case round=>
   obtain ⟨z,a,R,rfl,hz,ha,hR,hb,hg⟩:=hrel
   have HR:=Lib.hid hR
   have HB:=Lib.hid hb
   have HG:=Lib.hid hg
   have HT:=Lib.hid (blk_gr hg htr HM.out.t)
   clear hR hb hg
   have bb0:wr.cell? ⟨tb,0,none⟩=some (.slice la N lcap):=HT.out.cell (o:=0) rfl
   have bb1:wr.cell? ⟨tb,1,none⟩=some (.slice (some ⟨rb,0,none⟩) N N):=HT.out.cell (o:=1) rfl
   have bb2:wr.cell? ⟨tb,2,none⟩=some (.slice (some ⟨sb,0,none⟩) (K+1) (K+1)):=HT.out.cell (o:=2) rfl
   by_cases hz0:0≤z
   ·obtain ⟨i,rfl⟩:∃ i,a=i+1:=⟨a-1,by omega⟩
    have hzi:z=(i:Int):=by omega
    subst hzi
    have hi1:i+1<N:=by omega
    have hi0:i<N:=by omega
    have hiT:i+1<T.length:=by rw [HN.out];exact hi1
    obtain ⟨lb,lo,rfl⟩:∃ lb lo,la=some ⟨lb,lo,none⟩:=by
     obtain ⟨b,off,rfl,_⟩:=HLC.out (by omega)
     exact ⟨b,off,rfl⟩
    obtain ⟨hlb,cA⟩:=HL.out.cell (i:=i) (by omega)
    obtain ⟨_,cB⟩:=HL.out.cell (i:=i+1) hiT
    have hbw:Below w.heap.size w wr:=Below.trans HM.out.bel (Gr.below HG.out (by omega) (by omega))
    rw [← hbw.cell (p:=⟨lb,lo+i,none⟩) hlb] at cA
    rw [← hbw.cell (p:=⟨lb,lo+(i+1),none⟩) hlb] at cB
    have hstep:=ris_step hiT
    have cN:=HB.out.cell (bls_get R (i+1) (by rw [HR.out.1];exact hiT))
    rw [HR.out.2 (i+1) (Nat.le_refl _) hiT] at cN
    have cO:=HB.out.cell (bls_get R i (by rw [HR.out.1];omega))
    have fO:=HB.out.frozen i
    have hset:=HB.out.set i (.bool (ris T i))
    rw [bls_set] at hset
    have HSET:=Lib.hid hset
    have HPUT:=Lib.hid (ris_put HR.out hiT)
    have HGS:=Lib.hid (HG.out.setCell i (.bool (ris T i)))
    have ez:(((i+1:Nat):Int))=(i:Int)+1:=by omega
    generalize ris T i=r0 at*
    generalize ris T (i+1)=r1 at*
    generalize T.getD i 0=x at*
    generalize T.getD (i+1) 0=y at*
    clear hset hbw hz
    generalize R.getD i false=ro at*
    rcases Nat.lt_trichotomy x y with hxy | hxy | hxy
    ·obtain rfl:r0=true:=by rw [hstep,decide_eq_true hxy];rfl
     clear hstep cN
     go_wp2_with fail
     go_quiet (fail)
     go_wp2_with fail
     go_region
     all_goals
      go_wp2_with fail
      refine ⟨⟨(i:Int)-1,i,_,by first | rfl | go_num,.inl rfl,by omega,HPUT.out,HSET.out,(Gr.drewN HG.out _).setCell _ _⟩,?_⟩
      simp only [intOf_i];omega
    ·subst hxy
     obtain rfl:r0=r1:=by rw [hstep];simp
     clear hstep
     go_wp2_with fail
     go_quiet (fail)
     go_wp2_with fail
     go_region
     all_goals
      go_wp2_with fail
      refine ⟨⟨(i:Int)-1,i,_,by first | rfl | go_num,.inl rfl,by omega,HPUT.out,HSET.out,(Gr.drewN HG.out _).setCell _ _⟩,?_⟩
      simp only [intOf_i];omega
    ·have hne:((x:Int)==(y:Int))=false:=beq_f (by omega)
     have hneN:(x==y)=false:=beq_eq_false_iff_ne.2 (by omega)
     have hneP:¬ x=y:=by omega
     have hltN:¬ x<y:=by omega
     have hltI:¬ (x:Int)<(y:Int):=by omega
     have hleI:(y:Int)≤(x:Int):=by omega
     obtain rfl:r0=false:=by rw [hstep,decide_eq_false (by omega),decide_eq_false (by omega)];rfl
     clear hstep cN
     go_wp2_with fail
     go_quiet (fail)
     go_wp2_with fail
     go_region
     all_goals
      go_wp2_with fail
      refine ⟨⟨(i:Int)-1,i,_,by first | rfl | go_num,.inl rfl,by omega,HPUT.out,HSET.out,(Gr.drewN HG.out _).setCell _ _⟩,?_⟩
      simp only [intOf_i];omega
   ·have hR1:RisInv T R 0:=by
     rcases hz with h | ⟨_,rfl⟩
     ·obtain rfl:a=0:=by omega
      exact HR.out
     ·exact HR.out
    have hRL:R=risL T:=list_ext false (by rw [hR1.1,risL_length]) fun i hi=>by rw [hR1.2 i (Nat.zero_le _) (by rw [← hR1.1];exact hi),risL_get T i (by rw [← hR1.1];exact hi)]
    subst hRL
    have HSB:=Lib.hid (blk_gr HG.out hsr HM.out.s)
    have HZB:=Lib.hid (blk_gr HG.out (by omega) HM.out.z)
    have HBEL:=Lib.hid (Below.trans HM.out.bel (Gr.below HG.out (by omega) (by omega)))
    have hsw:=HG.out.size
    clear HR hR1 HR0 HG hz ha
    have hzn:z<0:=by omega
    obtain ⟨wo,hwo⟩:∃ wo:World,wo=wr:=⟨_,rfl⟩
    subst hwo
    clear bb0 bb1 bb2
    go_wp2_with fail
    go_loopw [58] (fun y wr=>∃ (i:Nat) (S:List Int),i≤N∧y=.int .i64 i∧CntInv T K S i∧Blk wr sb 3 (i64s S)∧Gr wo wr sb) (fun y _=>N-(intOf y).toNat)
    case atStart=>exact ⟨0,_,Nat.zero_le _,rfl,cnt_start T K,HSB.out,Gr.refl _ _⟩
    case round=>
     obtain ⟨i,S,hi,rfl,hS,hb,hg⟩:=hrel
     have HS:=Lib.hid hS
     have HBs:=Lib.hid hb
     have HGs:=Lib.hid hg
     have HTs:=Lib.hid (blk_gr hg hts HT.out)
     clear hS hb hg
     by_cases hiN:i<N
     ·have hiT:i<T.length:=by rw [HN.out];exact hiN
      obtain ⟨lb,lo,rfl⟩:∃ lb lo,la=some ⟨lb,lo,none⟩:=by
       obtain ⟨b,off,rfl,_⟩:=HLC.out (by omega)
       exact ⟨b,off,rfl⟩
      obtain ⟨hlb,cA⟩:=HL.out.cell hiT
      have hbw:Below w.heap.size w wr:=Below.trans HBEL.out (Gr.below HGs.out (by omega) (by omega))
      rw [← hbw.cell (p:=⟨lb,lo+i,none⟩) hlb] at cA
      have bb2:wr.cell? ⟨tb,2,none⟩=some (.slice (some ⟨sb,0,none⟩) (K+1) (K+1)):=HTs.out.cell (o:=2) rfl
      have hyK:=getD_kind HK.out hiT
      have HPUT:=Lib.hid (cnt_put HS.out hyK)
      have hbd:=cnt_le' HS.out (l:=T.getD i 0+1) (by omega)
      obtain ⟨hbd1,hbd2⟩:=hbd
      have cS:=HBs.out.cell (i64s_get S (T.getD i 0+1) (by rw [HS.out.1];omega))
      have fS:=HBs.out.frozen (T.getD i 0+1)
      have hset:=HBs.out.set (T.getD i 0+1) (.int .i64 (S.getD (T.getD i 0+1) 0+1))
      rw [i64s_set] at hset
      have HSET:=Lib.hid hset
      have HGS:=Lib.hid (HGs.out.setCell (T.getD i 0+1) (.int .i64 (S.getD (T.getD i 0+1) 0+1)))
      clear hset hbw HLC
      generalize T.getD i 0=y at*
      generalize S.getD (y+1) 0=v at*
      go_wp2_with fail
      refine ⟨⟨i+1,_,by omega,by first | rfl | go_num,HPUT.out,HSET.out,HGS.out⟩,?_⟩
      simp only [intOf_i];omega
     ·obtain rfl:i=N:=by omega
      have hS0:=HS.out
      rw [← HN.out] at hS0
      have HS1:=Lib.hid (sum_start hS0)
      clear hS0 HS
      obtain ⟨wq,hwq⟩:∃ wq:World,wq=wr:=⟨_,rfl⟩
      subst hwq
      have hszq:=HGs.out.size
      have HRq:=Lib.hid (blk_gr HGs.out hrs HB.out)
      have HZq:=Lib.hid (blk_gr HGs.out (by omega) HZB.out)
      have HBq:=Lib.hid (Below.trans HBEL.out (Gr.below HGs.out (by omega) (by omega)))
      go_wp2_with fail
      go_loopw [73] (fun y wr=>∃ (k:Nat) (S:List Int),k≤K∧y=.int .i64 k∧SumInv T K S k∧Blk wr sb 3 (i64s S)∧Gr wq wr sb) (fun y _=>K-(intOf y).toNat)
      case atStart=>exact ⟨0,_,Nat.zero_le _,rfl,HS1.out,HBs.out,Gr.refl _ _⟩
      case round=>
       obtain ⟨k,S2,hk,rfl,hS,hb,hg⟩:=hrel
       have HS:=Lib.hid hS
       have HBk:=Lib.hid hb
       have HGk:=Lib.hid hg
       have HTk:=Lib.hid (blk_gr hg hts HTs.out)
       clear hS hb hg
       by_cases hkK:k<K
       ·have bb2:wr.cell? ⟨tb,2,none⟩=some (.slice (some ⟨sb,0,none⟩) (K+1) (K+1)):=HTk.out.cell (o:=2) rfl
        obtain ⟨hsum,hput⟩:=sum_put HS.out hkK
        have hbst:=bst_le T (k+1)
        rw [HN.out] at hbst
        have HPUT:=Lib.hid hput
        have cS1:=HBk.out.cell (i64s_get S2 (k+1) (by rw [HS.out.1];omega))
        have cS0:=HBk.out.cell (i64s_get S2 k (by rw [HS.out.1];omega))
        have fS:=HBk.out.frozen (k+1)
        have hset:=HBk.out.set (k+1) (.int .i64 (bst T (k+1):Nat))
        rw [i64s_set] at hset
        have HSET:=Lib.hid hset
        have HGS:=Lib.hid (HGk.out.drew.setCell (k+1) (.int .i64 (bst T (k+1):Nat)))
        clear hset hput
        generalize bst T (k+1)=v at*
        generalize S2.getD (k+1) 0=v1 at*
        generalize S2.getD k 0=v0 at*
        have hwr:wrap64 (v1+v0)=(v:Int):=by rw [hsum];unfold wrap64;omega
        go_wp2_with fail
        go_region
        all_goals
         go_wp2_with fail
         refine ⟨⟨k+1,_,by omega,by first | rfl | go_num,HPUT.out,HSET.out,HGS.out⟩,?_⟩
         simp only [intOf_i];omega
       ·obtain rfl:k=K:=by omega
        have hSL:S2=stsL T k:=list_ext 0 (by rw [HS.out.1,stsL_length]) fun i hi=>by
         rw [HS.out.1] at hi
         rw [HS.out.2.1 i (by omega) hi,stsL_get T k i hi]
        subst hSL
        have hszk:=HGk.out.size
        have HRk:=Lib.hid (blk_gr HGk.out hrs HRq.out)
        have HZk:=Lib.hid (blk_gr HGk.out (by omega) HZq.out)
        have HBk2:=Lib.hid (Below.trans HBq.out (Gr.below HGk.out (by omega) (by omega)))
        have bb0:wr.cell? ⟨tb,0,none⟩=some (.slice la i lcap):=HTk.out.cell (o:=0) rfl
        have bb1:wr.cell? ⟨tb,1,none⟩=some (.slice (some ⟨rb,0,none⟩) i i):=HTk.out.cell (o:=1) rfl
        have bb2:wr.cell? ⟨tb,2,none⟩=some (.slice (some ⟨sb,0,none⟩) (k+1) (k+1)):=HTk.out.cell (o:=2) rfl
        have z0:wr.cell? ⟨w.heap.size,0,none⟩=some (.slice none 0 0):=HZk.out.cell (o:=0) rfl
        have z1:wr.cell? ⟨w.heap.size,1,none⟩=some (.slice none 0 0):=HZk.out.cell (o:=1) rfl
        have z2:wr.cell? ⟨w.heap.size,2,none⟩=some (.slice none 0 0):=HZk.out.cell (o:=2) rfl
        have f0:=HZk.out.frozen 0
        have f1:=HZk.out.frozen 1
        have f2:=HZk.out.frozen 2
        have hsz0:w.heap.size≤wr.heap.size:=HBk2.out.size
        obtain ⟨WF,hWF⟩:∃ WF,(((wr.setCell ⟨w.heap.size,0,none⟩ (.slice la i lcap)).setCell ⟨w.heap.size,1,none⟩ (.slice (some ⟨rb,0,none⟩) i i)).setCell ⟨w.heap.size,2,none⟩ (.slice (some ⟨sb,0,none⟩) (k+1) (k+1)))=WF:=⟨_,rfl⟩
        have hZF:Blk WF w.heap.size 144 [.slice la i lcap,.slice (some ⟨rb,0,none⟩) i i,.slice (some ⟨sb,0,none⟩) (k+1) (k+1)]:=by
         rw [← hWF]
         exact ((HZk.out.set 0 (.slice la i lcap)).set 1 (.slice (some ⟨rb,0,none⟩) i i)).set 2 (.slice (some ⟨sb,0,none⟩) (k+1) (k+1))
        have hRF:Blk WF rb 4 (bls (risL T)):=by
         rw [← hWF]
         exact ((HRk.out.setOther (by simp;omega) _).setOther (by simp;omega) _).setOther (by simp;omega) _
        have hSF:Blk WF sb 3 (i64s (stsL T k)):=by
         rw [← hWF]
         exact ((HBk.out.setOther (by simp;omega) _).setOther (by simp;omega) _).setOther (by simp;omega) _
        have hBF:Below w.heap.size w WF:=by
         rw [← hWF]
         exact ((HBk2.out.setCell (by simp) _).setCell (by simp) _).setCell (by simp) _
        have HZF:=Lib.hid hZF
        have HRF:=Lib.hid hRF
        have HSF:=Lib.hid hSF
        have HBF:=Lib.hid hBF
        clear hZF hRF hSF hBF
        go_wp2_with fail
        refine bodyPost_ret (v:=.agg #[.slice la i lcap,.slice (some ⟨rb,0,none⟩) i i,.slice (some ⟨sb,0,none⟩) (k+1) (k+1)]) ?_ rfl ?_
        ·refine results_cell_row rfl _ _ w.heap.size 144 #[.slice la i lcap,.slice (some ⟨rb,0,none⟩) i i,.slice (some ⟨sb,0,none⟩) (k+1) (k+1)] (0,0) _ (by simp) ?_ Tryz.underlying144 rfl sizeT_b
         first | exact HZF.out | (rw [hWF];exact HZF.out)
        ·have hTx:TxB WF WF.heap.size T k (.slice la i lcap) rb sb:=by
          have hl:=HL.out.belowB HBF.out (Nat.le_refl _)
          rw [HN.out] at hl
          exact ⟨⟨hl.1,fun a n c e h0=>by have:=hl.2 a n c e h0;have:=HBF.out.size;omega⟩,HRF.out,HSF.out,HRF.out.lt,HSF.out.lt,Nat.le_refl _,HK.out,by rw [HN.out];exact hlen,hlenK⟩
         refine ⟨rb,sb,by rw [HN.out];rfl,?_,?_⟩
         ·first | exact hTx | (rw [hWF];exact hTx)
         ·first | exact HBF.out | (rw [hWF];exact HBF.out)
end Go.Proofs.YtmjpnbadfmgimaaGreatDoor.S8

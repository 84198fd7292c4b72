/- Texts put together: ConA. -/
import Derived.Test.YtmjpnbadfmgimaaGreatDoorFg32
import Derived.Test.YtmjpnbadfmgimaaGreatDoorFg33
set_option linter.unusedSimpArgs false
set_option linter.unusedVariables false
set_option maxRecDepth 100000
set_option maxHeartbeats 32000000
namespace Go.Proofs.YtmjpnbadfmgimaaGreatDoor.S11
open Go.RowKit Pl S3 S3.Pl
abbrev BkT:=Nat×List Nat×Nat
def loadB (v:Value):Sem Value:=Instr.loadAt 121 v
theorem loadB_eq (v:Value):Instr.loadAt 121 v=loadB v:=rfl
def storeB (p v:Value):Sem Unit:=Instr.storeAt 121 p v
theorem storeB_eq (p v:Value):Instr.storeAt 121 p v=storeB p v:=rfl
theorem addr_off (g o j:Nat):(⟨g,o,none⟩:Addr).add j=⟨g,o+j,none⟩:=by unfold Addr.add;split <;> simp_all
theorem run_loadB {w:World} {g o m c:Nat} {a:Option Addr} {n s:Int} (h0:w.cell? ⟨g,o,none⟩=some (.int .i64 n)) (h1:w.cell? ⟨g,o+1,none⟩=some (.slice a m c)) (h2:w.cell? ⟨g,o+2,none⟩=some (.int .u32 s)):
  (loadB (.pointer (some ⟨g,o,none⟩))).run Tryz.prog w=.ok (.agg #[.int .i64 n,.slice a m c,.int .u32 s]) w:=by
 simp only [loadB,Instr.loadAt,Instr.sureAddr,loadVar,loadCells,Sem.run_bind,Sem.run_pure,Result.andThen_ok,Tryz.isAgg121,Tryz.sizeOf121,if_true]
 have:=run_loadCellsFrom_list Tryz.prog w ⟨g,o,none⟩ [.int .i64 n,.slice a m c,.int .u32 s] 3 rfl (fun j v hj=>by
  rw [addr_off]
  match j,hj with
  | 0,hj=>simp at hj;subst hj;exact h0
  | 1,hj=>simp at hj;subst hj;exact h1
  | 2,hj=>simp at hj;subst hj;exact h2)
 rw [this]
 rfl
theorem run_storeB {w:World} {g o m c:Nat} {t:TypeId} {cs:List Value} {a:Option Addr} {n s:Int} (h:Blk w g t cs) (ho:o+3≤cs.length):
  (storeB (.pointer (some ⟨g,o,none⟩)) (.agg #[.int .i64 n,.slice a m c,.int .u32 s])).run Tryz.prog w=.ok () (w.setRow g (cs.take o++([.int .i64 n,.slice a m c,.int .u32 s]:List Value)++cs.drop (o+3)).toArray):=by
 simp only [storeB,Instr.storeAt,Instr.sureAddr,storeVar,Sem.run_bind,Sem.run_pure,Result.andThen_ok,Tryz.sizeOf121]
 rw [if_neg (by simp [Value.cells])]
 have:=run_storeCells_at (P:=Tryz.prog) g o t [.int .i64 n,.slice a m c,.int .u32 s] 0 cs.toArray w h (by simpa using ho) (by intro v hv;simp at hv;rcases hv with rfl | rfl | rfl <;> rfl)
 simpa [Value.cells] using this
def IsBlks (w:World) (v:Value) (n:Nat) (f:Nat→BkT):Prop:=
 ∃ g,v=.slice (some ⟨g,0,none⟩) n n∧g<w.heap.size∧n≤maxLen∧∀ k,k<n→∃ a c,w.cell? ⟨g,k*3,none⟩=some (.int .i64 ((f k).1:Nat))∧w.cell? ⟨g,k*3+1,none⟩=some (.slice a (f k).2.1.length c)∧w.cell? ⟨g,k*3+2,none⟩=some (.int .u32 ((f k).2.2:Nat))∧IsBytes w (.slice a (f k).2.1.length c) (f k).2.1
theorem IsBlks.below {w w':World} {v:Value} {n:Nat} {f:Nat→BkT} (h:IsBlks w v n f) (hb:Below w.heap.size w w'):IsBlks w' v n f:=by
 obtain ⟨g,rfl,hg,hn,hc⟩:=h
 refine ⟨g,rfl,Nat.lt_of_lt_of_le hg hb.size,hn,fun k hk=>?_⟩
 obtain ⟨a,c,c0,c1,c2,hi⟩:=hc k hk
 exact ⟨a,c,(hb.cell (p:=⟨g,k*3,none⟩) hg).trans c0,(hb.cell (p:=⟨g,k*3+1,none⟩) hg).trans c1,(hb.cell (p:=⟨g,k*3+2,none⟩) hg).trans c2,hi.below hb⟩
def GotC (B:List Nat) (w:World) (e:Ending) (w':World):Prop:=
 ∃ g n,e=.returned (.slice (some ⟨g,0,none⟩) n n)∧n=(eC B).length∧w.heap.size≤g∧Hid (IsBytes w' (.slice (some ⟨g,0,none⟩) n n) (eC B))∧Hid (Below w.heap.size w w')
theorem encC_any (v:Value) (B:List Nat) (w:World) (hv:IsBytes w v B) (hB:B.length≤900000):Calls Tryz.prog 43 #[v] w (GotC B w):=by
 refine (S10.enc_got v B w hv hB).mono ?_
 rintro e w' ⟨R,g,C,n,hE,rfl,_,hg,_,hi,hb⟩
 obtain ⟨h1,h2,h3,_⟩:=hE.out
 have hC:C=eC B:=by rw [← h2];exact eC_of h1
 subst hC
 exact ⟨g,n,rfl,h3.symm,hg,hi,hb⟩
def TextPost (t:BkT) (w:World) (e:Ending) (w':World):Prop:=
 Below w.heap.size w w'∧∃ sp cap X,e=.returned (.tuple #[.slice sp X.length cap,.bool (txB t).1])∧IsBytes w' (.slice sp X.length cap) X∧((txB t).1=true→X=(txB t).2)
theorem tx_1 {t:BkT} (h:csum t.2.1≠t.2.2):(txB t).1=false:=by rw [tx_bad h]
theorem tx_2 {n s:Nat} {S:List Nat} (h:csum S=s) (h2:S.length=n):txB (n,S,s)=(decide (n≤(eC S).length),S):=by
 unfold txB;rw [if_neg (by simpa using h),if_pos h2]
theorem tx_3 {n s:Nat} {S:List Nat} (h:csum S=s) (h2:S.length≠n):txB (n,S,s)=((decide ((S10.decF S n).1=0)&&decide ((S10.decF S n).2.length=n)),(S10.decF S n).2):=by
 unfold txB;rw [if_neg (by simpa using h),if_neg h2]
theorem text_any (n s:Nat) (S:List Nat) (a:Option Addr) (c:Nat) (w:World) (hT:Tab w) (hv:IsBytes w (.slice a S.length c) S) (hn:n≤900000) (hS:S.length≤900000):
  Calls Tryz.prog 78 #[.agg #[.int .i64 n,.slice a S.length c,.int .u32 s]] w (TextPost (n,S,s) w):=by
 obtain ⟨N,hN⟩:∃ N,S.length=N:=⟨_,rfl⟩
 rw [hN] at hv hS ⊢
 have hb1:Below w.heap.size w (w.alloc (.cells #[.int .i64 n,.slice a N c,.int .u32 s] 121)):=(Below.refl _ _).alloc (Nat.le_refl _) _
 have hk1:=Blk.new w 121 [.int .i64 n,.slice a N c,.int .u32 s]
 obtain ⟨w1,hw1⟩:∃ w1,w.alloc (.cells #[.int .i64 n,.slice a N c,.int .u32 s] 121)=w1:=⟨_,rfl⟩
 rw [hw1] at hb1
 have hk1':Blk w1 w.heap.size 121 [.int .i64 n,.slice a N c,.int .u32 s]:=by rw [← hw1];exact hk1
 have HT:=Lib.hid (hT.below hb1)
 have HV:=Lib.hid (hv.below hb1)
 have HB1:=Lib.hid hb1
 have HN:=Lib.hid hN
 have HX:=Lib.hid hv.1
 have c0:w1.cell? ⟨w.heap.size,0,none⟩=some (.int .i64 n):=hk1'.cell rfl
 have c1:w1.cell? ⟨w.heap.size,1,none⟩=some (.slice a N c):=hk1'.cell rfl
 have c2:w1.cell? ⟨w.heap.size,2,none⟩=some (.int .u32 s):=hk1'.cell rfl
 have hgl:w.heap.size<w1.heap.size:=hk1'.lt
 clear hT hv hb1 hk1 hk1' hN
 by_cases h1:csum S=s
 rotate_left
 ·have hne:(((csum S:Nat):Int) != (s:Int))=true:=bne_t (by omega)
  have HT1:=Lib.hid (tx_1 (t:=(n,S,s)) h1)
  clear h1
  go_enter Tryz.func78,Tryz.ntmps78
  go_wp2_with fail
  clear hw1
  go_quiet (first | (go_at_call 41;refine sum_quiet _ _ _ _ HT.out HV.out))
  go_wp2
  go_ret2
  exact ⟨bel_drewN HB1.out _,none,0,[],by rw [HT1.out];rfl,isBytes_nil _,fun h=>by rw [HT1.out] at h;cases h⟩
 have hne:(((csum S:Nat):Int) != (s:Int))=false:=bne_f (by omega)
 by_cases h2:N=n
 ·subst h2
  have heq:((N:Int)==(N:Int))=true:=beq_t rfl
  have HX2:=Lib.hid (tx_2 h1 HN.out)
  clear h1
  go_enter Tryz.func78,Tryz.ntmps78
  go_wp2_with fail
  clear hw1
  go_quiet (first | (go_at_call 41;refine sum_quiet _ _ _ _ HT.out HV.out))
  go_wp2_with fail
  obtain ⟨w2,hw2⟩:∃ w2,w1.drewN nq=w2:=⟨_,rfl⟩
  have HB2:Hid (Below w.heap.size w w2):=Lib.hid (by rw [← hw2];exact bel_drewN HB1.out _)
  have HV2:Hid (IsBytes w2 (.slice a N c) S):=Lib.hid (by rw [← hw2];exact HV.out.drew _)
  have hgl2:w.heap.size<w2.heap.size:=by rw [← hw2];exact hgl
  have d0:∀ W,From w2 W→W.cell? ⟨w.heap.size,0,none⟩=some (.int .i64 N):=fun W h=>(Below.cell (p:=⟨w.heap.size,0,none⟩) h hgl2).trans (by rw [← hw2];exact c0)
  have d1:∀ W,From w2 W→W.cell? ⟨w.heap.size,1,none⟩=some (.slice a N c):=fun W h=>(Below.cell (p:=⟨w.heap.size,1,none⟩) h hgl2).trans (by rw [← hw2];exact c1)
  rw [hw2]
  clear HB1 HV HT c0 c1 c2 hgl hw2
  refine wp_region_noPanic ?_
  have hHeld:From w2 w2.drew:=(Below.refl _ _).drew
  refine wpAnyH_start (n:=11) (l:=#[false,false,false,false,false,false,false,false,false,false,false]) (S:=From w2) (by kernel_rfl) (hHeld) (by kernel_rfl) (by kernel_rfl) ?_
  refine wpAnyH_take (i:=0) (oi:=_) (v:=?_) rfl (by kernel_rfl) (by kernel_rfl) (by kernel_rfl) (fun _ _ _ h=>h) (Or.inl ⟨by rfl,?_⟩) (by assumption) ?_
  rotate_left
  ·intro wq hSw;go_simp;try with_reducible rfl
  simp only [Act.put,List.setIfInBounds_toArray,List.set_cons_zero,List.set_cons_succ,List.getElem_toArray,List.getElem_cons_zero,List.getElem_cons_succ]
  refine wpAnyH_take (i:=1) (oi:=_) (v:=?_) rfl (by kernel_rfl) (by kernel_rfl) (by kernel_rfl) (fun _ _ _ h=>h) (Or.inl ⟨by rfl,?_⟩) (by assumption) ?_
  rotate_left
  ·intro wq hSw;go_simp;try with_reducible rfl
  simp only [Act.put,List.setIfInBounds_toArray,List.set_cons_zero,List.set_cons_succ,List.getElem_toArray,List.getElem_cons_zero,List.getElem_cons_succ]
  refine wpAnyH_take (i:=2) (oi:=_) (v:=?_) rfl (by kernel_rfl) (by kernel_rfl) (by kernel_rfl) (fun _ _ _ h=>h) (Or.inl ⟨by rfl,?_⟩) (by assumption) ?_
  rotate_left
  ·intro wq hSw;go_simp;try with_reducible rfl
  simp only [Act.put,List.setIfInBounds_toArray,List.set_cons_zero,List.set_cons_succ,List.getElem_toArray,List.getElem_cons_zero,List.getElem_cons_succ]
  refine wpAnyH_take (i:=3) (oi:=_) (v:=?_) rfl (by kernel_rfl) (by kernel_rfl) (by kernel_rfl) (fun _ _ _ h=>h) (Or.inl ⟨by rfl,?_⟩) (by assumption) ?_
  rotate_left
  ·intro wq hSw;go_simp;try with_reducible rfl
  simp only [Act.put,List.setIfInBounds_toArray,List.set_cons_zero,List.set_cons_succ,List.getElem_toArray,List.getElem_cons_zero,List.getElem_cons_succ]
  refine wpAnyH_take (i:=6) (oi:=_) (v:=?_) rfl (by kernel_rfl) (by kernel_rfl) (by kernel_rfl) (fun _ _ _ h=>h) (Or.inl ⟨by rfl,?_⟩) (by assumption) ?_
  rotate_left
  ·intro wq hSw;go_simp;try with_reducible rfl
  simp only [Act.put,List.setIfInBounds_toArray,List.set_cons_zero,List.set_cons_succ,List.getElem_toArray,List.getElem_cons_zero,List.getElem_cons_succ]
  refine wpAnyH_take (i:=7) (oi:=_) (v:=?_) rfl (by kernel_rfl) (by kernel_rfl) (by kernel_rfl) (fun _ _ _ h=>h) (Or.inl ⟨by rfl,?_⟩) (by assumption) ?_
  rotate_left
  ·intro wq hSw;go_simp;try with_reducible rfl
  simp only [Act.put,List.setIfInBounds_toArray,List.set_cons_zero,List.set_cons_succ,List.getElem_toArray,List.getElem_cons_zero,List.getElem_cons_succ]
  refine wpAnyH_ready (rs:=[4]) (by kernel_rfl) (by simp) ?_
  refine AllReadyH.cons (o:=_) rfl (fun K hK=>?_) AllReadyH.nil
  simp only [List.getElem_toArray,List.getElem_cons_zero,List.getElem_cons_succ]
  go_simp
  refine (encC_any _ S _ (HV2.out.below hHeld) (by rw [HN.out];omega)).mono ?_;rintro e w4 ⟨g4,n4,rfl,hn4,_,h4,hb4⟩;have hE4:=Lib.hid (From.trans hHeld hb4.out)
  refine hK.out _ _ (hE4.out) (fun _=>?_)
  clear hK K hHeld
  refine wpAnyH_mono (S':=From w4) (fun w' h=>From.trans hE4.out h) ?_
  have hHeld:=From.refl w4
  clear h4 hb4
  simp only [Act.put,List.setIfInBounds_toArray,List.set_cons_zero,List.set_cons_succ,List.getElem_toArray,List.getElem_cons_zero,List.getElem_cons_succ]
  refine wpAnyH_take (i:=5) (oi:=_) (v:=?_) rfl (by kernel_rfl) (by kernel_rfl) (by kernel_rfl) (fun _ _ _ h=>h) (Or.inl ⟨by rfl,?_⟩) (by assumption) ?_
  rotate_left
  ·intro wq hSw;go_simp;try with_reducible rfl
  simp only [Act.put,List.setIfInBounds_toArray,List.set_cons_zero,List.set_cons_succ,List.getElem_toArray,List.getElem_cons_zero,List.getElem_cons_succ]
  refine wpAnyH_take (i:=8) (oi:=_) (v:=?_) rfl (by kernel_rfl) (by kernel_rfl) (by kernel_rfl) (fun _ _ _ h=>h) (Or.inl ⟨by rfl,?_⟩) (by assumption) ?_
  rotate_left
  ·intro wq hSw;go_simp;try with_reducible rfl
  simp only [Act.put,List.setIfInBounds_toArray,List.set_cons_zero,List.set_cons_succ,List.getElem_toArray,List.getElem_cons_zero,List.getElem_cons_succ]
  refine wpAnyH_take (i:=9) (oi:=_) (v:=?_) rfl (by kernel_rfl) (by kernel_rfl) (by kernel_rfl) (fun _ _ _ h=>h) (Or.inl ⟨by rfl,?_⟩) (by assumption) ?_
  rotate_left
  ·intro wq hSw;go_simp;try with_reducible rfl
  simp only [Act.put,List.setIfInBounds_toArray,List.set_cons_zero,List.set_cons_succ,List.getElem_toArray,List.getElem_cons_zero,List.getElem_cons_succ]
  refine wpAnyH_take (i:=10) (oi:=_) (v:=?_) rfl (by kernel_rfl) (by kernel_rfl) (by kernel_rfl) (fun _ _ _ h=>h) (Or.inl ⟨by rfl,?_⟩) (by assumption) ?_
  rotate_left
  ·intro wq hSw;go_simp;try with_reducible rfl
  simp only [Act.put,List.setIfInBounds_toArray,List.set_cons_zero,List.set_cons_succ,List.getElem_toArray,List.getElem_cons_zero,List.getElem_cons_succ]

  refine wpAnyH_done (by kernel_rfl) ?_ _
  refine NoPanic.normal ?_
  go_wp2
  go_ret2
  exact ⟨HB2.out.trans (Below.mono hE4.out HB2.out.size),a,c,S,by rw [HX2.out,HN.out];rfl,by rw [HN.out];exact HV2.out.below hE4.out,fun _=>by rw [HX2.out]⟩
 ·have heq:((N:Int)==(n:Int))=false:=beq_f (by omega)
  have HX3:=Lib.hid (tx_3 h1 (show S.length≠n by rw [HN.out];exact h2))
  clear h1 h2
  go_enter Tryz.func78,Tryz.ntmps78
  go_wp2_with fail
  clear hw1
  go_quiet (first | (go_at_call 41;refine sum_quiet _ _ _ _ HT.out HV.out))
  obtain ⟨w2,hw2⟩:∃ w2,w1.drewN nq=w2:=⟨_,rfl⟩
  have HB2:Hid (Below w.heap.size w w2):=Lib.hid (by rw [← hw2];exact bel_drewN HB1.out _)
  have HV2:Hid (IsBytes w2 (.slice a N c) S):=Lib.hid (by rw [← hw2];exact HV.out.drew _)
  have hgl2:w.heap.size<w2.heap.size:=by rw [← hw2];exact hgl
  have d0:w2.cell? ⟨w.heap.size,0,none⟩=some (.int .i64 n):=by rw [← hw2];exact c0
  have d1:w2.cell? ⟨w.heap.size,1,none⟩=some (.slice a N c):=by rw [← hw2];exact c1
  have d0':∀ W,From w2 W→W.cell? ⟨w.heap.size,0,none⟩=some (.int .i64 n):=fun W h=>(Below.cell (p:=⟨w.heap.size,0,none⟩) h hgl2).trans d0
  rw [hw2]
  clear HB1 HV HT c0 c1 c2 hgl hw2
  go_wp2_with fail
  refine (S10.decode_any _ S n w2 HV2.out (by rw [HN.out];omega) hn).mono ?_
  rintro e w3 ⟨hb3,sp,cap,rfl,hi3⟩
  obtain ⟨D,hD⟩:∃ D,S10.decF S n=D:=⟨_,rfl⟩
  rw [hD] at hi3 ⊢
  have HX4:Hid (txB (n,S,s)=((decide (D.1=0)&&decide (D.2.length=n)),D.2)):=Lib.hid (by rw [HX3.out,hD])
  have c3:=d0' w3 hb3
  have HI3:=Lib.hid hi3
  have HB3:=Lib.hid (HB2.out.trans (hb3.mono HB2.out.size))
  clear hb3 hi3 hD HX3 HB2 HV2 d0 d1 d0'
  obtain ⟨r,X⟩:=D
  simp only at HX4 HI3 ⊢
  by_cases hr:r=0
  ·subst hr
   by_cases hl:X.length=n
   ·have HX5:Hid (txB (n,S,s)=(true,X)):=Lib.hid (by rw [HX4.out];simp [hl])
    obtain ⟨L,hL⟩:∃ L,X.length=L:=⟨_,rfl⟩
    rw [hL] at hl HI3 ⊢
    subst hl
    have heq2:((L:Int)==(L:Int))=true:=beq_t rfl
    have HL:=Lib.hid hL
    clear hL HX4
    go_wp2_with fail
    go_quiet (fail)
    go_wp2
    go_ret2
    exact ⟨bel_drewN HB3.out _,sp,cap,X,by rw [HX5.out,HL.out];rfl,by rw [HL.out];exact HI3.out,fun _=>by rw [HX5.out]⟩
   ·have HX5:Hid ((txB (n,S,s)).1=false):=Lib.hid (by rw [HX4.out];simp [hl])
    obtain ⟨L,hL⟩:∃ L,X.length=L:=⟨_,rfl⟩
    rw [hL] at hl HI3 ⊢
    have heq2:((L:Int)==(n:Int))=false:=beq_f (by omega)
    have HL:=Lib.hid hL
    clear hL HX4 hl
    go_wp2_with fail
    go_quiet (fail)
    go_wp2
    go_ret2
    exact ⟨bel_drewN HB3.out _,sp,cap,X,by rw [HX5.out,HL.out];rfl,by rw [HL.out];exact HI3.out,fun h=>by rw [HX5.out] at h;cases h⟩
  ·have HX5:Hid ((txB (n,S,s)).1=false):=Lib.hid (by rw [HX4.out];simp [hr])
   have hrz:(r==0)=false:=beq_f hr
   clear HX4 hr
   go_wp2_with fail
   go_quiet (fail)
   go_wp2
   go_ret2
   exact ⟨bel_drewN HB3.out _,sp,cap,X,by rw [HX5.out];rfl,HI3.out,fun h=>by rw [HX5.out] at h;cases h⟩
end Go.Proofs.YtmjpnbadfmgimaaGreatDoor.S11

/- Texts put together: Rng, LenF, LenG, LenI, LeaA, PkgE, PkgF, PkgG, PkgH. -/
import Derived.Test.YtmjpnbadfmgimaaGreatDoorFg8
import Derived.Test.YtmjpnbadfmgimaaGreatDoorFg11
import Derived.RangeFuncNested
import Derived.RangeFuncBound
import Derived.RangeFuncCalls
import Derived.RangeFuncLeaves
import Derived.RangeFuncWrites
import Derived.OwnWalkIn
import Derived.TacticsInMore
import Derived.LoopNIn
import Derived.LoopIn
set_option linter.unusedSimpArgs false
set_option linter.unusedVariables false
set_option maxRecDepth 100000
set_option maxHeartbeats 32000000
namespace Go.Proofs.YtmjpnbadfmgimaaGreatDoor.Pl
end Go.Proofs.YtmjpnbadfmgimaaGreatDoor.Pl
namespace Go.Proofs.YtmjpnbadfmgimaaGreatDoor.S6.Pl
end Go.Proofs.YtmjpnbadfmgimaaGreatDoor.S6.Pl
namespace Go.Proofs.YtmjpnbadfmgimaaGreatDoor.S6
open Go.RowKit Go.Shelf _root_.Go.Proofs.YtmjpnbadfmgimaaGreatDoor.Pl _root_.Go.Proofs.YtmjpnbadfmgimaaGreatDoor.S6.Pl
theorem range_rounds {F:Fence} {n:Nat} {P:Program} {g:Operand} {ps:Array Tmp} {assign body:Code} {Q:Exit→Act→World→Prop} {a:Act} {w:World}
  (hro:F.round=none) (h1:1≤n) {gf:Nat} {lb:Array Value} (hg:a.eval g=.func (.func gf) #[] lb) (hFg:F.fn gf) (eg:∀ args w,(callFunc gf args).run P w=.ok (.enter gf args) w)
  (N:Nat) (encs:Nat→Array Value) (hps:∀ k,(encs k).size=ps.size) (I:Nat→World→Prop) (hI:OwnFrom w.heap.size I) (h0:I 0 w)
  (hit:∀ (l:Nat) (J:Nat→World→Prop) (W:World),(∀ k W,J k W→I k W)→
   (∀ k W,k<N→J k W→YieldAt F (n-1-1) P l (encs k) W fun e W'=>e=.returned (.bool true)∧J (k+1) W')→J 0 W→
   CallsIn F (n-1) P gf (#[.func (.yield l) #[] #[]]++lb) W fun e W'=>(∃ v,e=.returned v)∧J N W')
  (a₁:Nat→Act)
  (hassign:∀ (l k:Nat) (W:World) (K:Act→World→Prop),K (a₁ k) W→
   assign.wpIn (F.inRound l) (n-1-1) P (Exit.then K (fun _ _ _=>False)) { tmps:=(ps.zip (encs k)).foldl (fun t (p,v)=>t.setIfInBounds p v) a.tmps,defers:=[] } W)
  (hbody:∀ (l k:Nat) (W:World),k<N→I k W→body.wpIn (F.inRound l) (n-1-1) P (fun e _ W'=>e=.normal∧KeepsFrom w.heap.size W W'∧I (k+1) W') (a₁ k) W)
  (hdone:∀ (D:Nat) (W:World),w.heap.size≤D→I N W→W.heap[D]? = some (.deferred (some []))→Q .normal { a with defers:={ target:=.collected D,args:=#[] }::a.defers } W):
  (Code.rangeFunc g ps assign body).wpIn F n P Q a w:=by
 refine wpIn_rangeFunc fun fn hfn=>?_
 rw [hro]
 let r0:Loop:={ state:=.ready,pending:=none,fn,tmps:=a.tmps,params:=ps,assign,body,defers:=w.heap.size }
 let w1:=(w.alloc (.deferred (some []))).alloc (.loop r0)
 have s1:w1.heap.size=w.heap.size+2:=by simp [w1]
 have b1:w1.heap[w.heap.size+1]? = some (.loop r0):=by
  have:=World.alloc_heap_new (w.alloc (.deferred (some []))) (.loop r0)
  rwa [World.size_alloc] at this
 have b0:w1.heap[w.heap.size]? = some (.deferred (some [])):=
  (Below.heap_alloc _ _ _ (by simp)).trans (World.alloc_heap_new w _)
 let J:Nat→World→Prop:=fun k W=>I k W∧W.heap[w.heap.size+1]? = some (.loop r0)∧W.heap[w.heap.size]? = some (.deferred (some []))
 refine ⟨w.heap.size+1,[{ target:=.collected w.heap.size,args:=#[] }],w1,{ target:=.fn (.func gf) lb,args:=#[.func (.yield (w.heap.size+1)) #[] #[]] },w1,gf,#[.func (.yield (w.heap.size+1)) #[] #[]]++lb,w1,
  run_enterLoop_outer _ _ _ _ _,?_,?_,?_,fun _=>h1,?_⟩
 ·simp only [resolve,hg]
  simp [go_sem]
 ·intro f' hf'
  simp [Target.leads] at hf'
  subst hf'
  exact hFg
 ·simp [invoke,go_sem,eg]
 refine (hit (w.heap.size+1) J w1 (fun k W h=>h.1) ?_ ⟨hI.alloc _ (hI.alloc _ h0),b1,b0⟩).mono ?_
 ·rintro k W hk ⟨hi,hl,hd⟩
  have hlt:=(Array.getElem?_eq_some_iff.1 hl).1
  refine ⟨fn,_,assign,body,run_yield (args:=encs k) hl (hps k),roundIn_of_wpIn hfn (hassign _ k W _ ⟨_,run_beginRound hl rfl,?_⟩)⟩
  have hl2:(W.putObj (w.heap.size+1) (.loop { r0 with state:=.busy })).heap[w.heap.size+1]? = some (.loop { r0 with state:=.busy }):=World.putObj_heap_same hlt
  have hd2:(W.putObj (w.heap.size+1) (.loop { r0 with state:=.busy })).heap[w.heap.size]? = some (.deferred (some [])):=(World.putObj_heap_other (by omega)).trans hd
  refine wpIn_mono (hbody _ k _ hk (hI.putObj _ hi (by omega) hl rfl)) ?_
  rintro e a3 W3 ⟨rfl,hk3,hi3⟩
  have hl3:=hk3.same _ _ (by omega) hl2 rfl
  have hd3:=hk3.same _ _ (Nat.le_refl _) hd2 rfl
  have hlt3:=(Array.getElem?_eq_some_iff.1 hl3).1
  exact ⟨_,_,run_endRound none hl3,rfl,hI.putObj _ hi3 (by omega) hl3 rfl,World.putObj_heap_same hlt3,(World.putObj_heap_other (by omega)).trans hd3⟩
 ·rintro e W2 ⟨⟨v,rfl⟩,hi,hl,hd⟩
  exact ⟨none,_,run_endLoop hl (by simp [r0]),hdone _ _ (Nat.le_refl _) (hI.putObj _ hi (by omega) hl rfl) ((World.putObj_heap_other (by omega)).trans hd)⟩

attribute [local go_sem] Oper.semAt_some
theorem back_rounds (F:Fence) (n:Nat) (hF:F.fn 146) (hro:F.round=none) (hn:1≤n) (l Bs Br:Nat) (vs:List Value) (hvs:vs.length=15) (hsl:AllSl vs) (J:Nat→World→Prop)
  (hread:∀ k W,J k W→W.cell? ⟨Bs,0,none⟩=some (.slice (some ⟨Br,0,none⟩) 15 15)∧∀ i,i<15→W.cell? ⟨Br,i,none⟩=some (vs.getD i (.slice none 0 0)))
  (hY:∀ k W,k<15→J k W→YieldAt F (n-1) Tryz.prog l #[.int .i64 ((14-k:Nat):Int),vs.getD (14-k) (.slice none 0 0)] W fun e W'=>e=.returned (.bool true)∧J (k+1) W') (W:World) (h0:J 0 W):
  CallsIn F n Tryz.prog 146 #[.func (.yield l) #[] #[],.pointer (some ⟨Bs,0,none⟩)] W fun e W'=>(∃ v,e=.returned v)∧J 15 W':=by
 refine callsIn_of_wp Tryz.func146 rfl hF ?_ hro
 simp only [Tryz.ntmps146,List.size_toArray,List.length_cons,List.length_nil,Nat.reduceAdd,Nat.reduceSub,Array.replicate_succ,Array.replicate_zero,List.push_toArray,List.append_toArray,List.nil_append,List.cons_append]
 have hb:=(hread 0 W h0).1
 gi_wp2
 clear hb
 gi_loopw [3] (fun i wr=>∃ k:Nat,k≤15∧i=.int .i64 (14-(k:Int))∧J k wr) (fun i _=>(intOf i+1).toNat)
 case atStart=>exact ⟨0,Nat.zero_le _,rfl,h0⟩
 case round=>
  obtain ⟨k,hk,rfl,hJ⟩:=hrel
  by_cases hlt:k<15
  ·have hb:=(hread k wr hJ).1
   have hc:=(hread k wr hJ).2 (14-k) (by omega)
   obtain ⟨fn,tmps,assign,body,hy,hR⟩:=hY k wr hlt hJ
   obtain ⟨m,hm⟩:∃ m:Nat,14-k=m:=⟨_,rfl⟩
   have e1:14-(k:Int)=(m:Int):=by omega
   have hm15:m<15:=by omega
   rw [hm] at hc hy
   rw [e1]
   have hv:∃ a n c,vs.getD m (.slice none 0 0)=.slice a n c:=hsl _ (by rw [List.getD_eq_getElem?_getD,List.getElem?_eq_getElem (by omega)];exact List.getElem_mem _)
   obtain ⟨av,nv,cv,hv⟩:=hv
   rw [hv] at hc hy
   gi_wp2
   refine hR.mono ?_
   rintro e W3 ⟨rfl,hJ3⟩
   gi_wp2
   go_roundw
   case rel=>exact ⟨k+1,by omega,by first | rfl | (congr 1;omega),hJ3⟩
   case measure=>(simp [intOf];try omega)
  ·obtain rfl:k=15:=by omega
   gi_wp2
   go_end0
   exact ⟨⟨_,rfl⟩,hJ⟩
theorem backward_any (F:Fence) (n:Nat) (hF:F.fn 126) (hro:F.round=none) (a:Option Addr) (len cap:Nat) (w:World):
  CallsIn F n Tryz.prog 126 #[.slice a len cap] w fun e w'=>e=.returned (.func (.func 146) #[] #[.pointer (some ⟨w.heap.size,0,none⟩)])∧w'=w.alloc (.cells #[.slice a len cap] 181):=by
 refine callsIn_of_wp Tryz.func126 rfl hF ?_ hro
 simp only [Tryz.ntmps126,List.size_toArray,List.length_cons,List.length_nil,Nat.reduceAdd,Nat.reduceSub,Array.replicate_succ,Array.replicate_zero,List.push_toArray,List.append_toArray,List.nil_append,List.cons_append]
 gi_wp2
 go_ret
 exact ⟨rfl,rfl⟩
end Go.Proofs.YtmjpnbadfmgimaaGreatDoor.S6
namespace Go.Proofs.YtmjpnbadfmgimaaGreatDoor.S6
open Go.RowKit Go.Shelf _root_.Go.Proofs.YtmjpnbadfmgimaaGreatDoor.Pl _root_.Go.Proofs.YtmjpnbadfmgimaaGreatDoor.S6.Pl
namespace Pl
theorem take_snoc {L:List Coin} {i:Nat} (h:i<L.length):L.take (i+1)=L.take i++[L.getD i (0,0)]:=by
 rw [List.take_succ_eq_append_getElem h];simp [List.getD,h]
theorem bump_pair {l:List Int} {T:List Coin} {i:Nat} (h:i<T.length) (hp:(T.getD i (0,0)).2=-1):bump l (T.take (i+1))=bump l (T.take i)∧cntS (-1) (T.take (i+1))=cntS (-1) (T.take i)+1:=by
 refine ⟨?_,?_⟩
 ·rw [take_snoc h,bump_append];simp only [bump,if_pos hp]
 ·rw [take_snoc h,cntS_append];simp only [cntS,if_pos hp]
theorem bump_sym {l:List Int} {T:List Coin} {i:Nat} (h:i<T.length) (hp:(T.getD i (0,0)).2≠-1):bump l (T.take (i+1))=(bump l (T.take i)).set (T.getD i (0,0)).2.toNat ((bump l (T.take i)).getD (T.getD i (0,0)).2.toNat 0+1)∧cntS (-1) (T.take (i+1))=cntS (-1) (T.take i):=by
 refine ⟨?_,?_⟩
 ·rw [take_snoc h,bump_append];simp only [bump,if_neg hp]
 ·rw [take_snoc h,cntS_append];simp only [cntS,if_neg hp];omega
theorem cnt_le (x:Int) (T:List Coin):cntS x T≤T.length:=by
 induction T with
 | nil=>simp [cntS]
 | cons c T ih=>simp only [cntS,List.length_cons];split <;> omega
end Pl
theorem run_uptoB {w:World} {b n cap:Nat} (k:Nat) (hk:k≤n) (hcap:n≤cap) (K:Int) (hK:K=k):(sliceC (.slice (some ⟨b,0,none⟩) n cap) none (some (.int .i64 K)) none).run Tryz.prog w=.ok (.slice (some ⟨b,0,none⟩) k cap) w:=by
 subst hK
 unfold sliceC
 rw [run_sliceAt_slice _ _ _ _ _ _ und_coins,run_slice_h _ _ _ _ _ und_coins _ _ (by omega) (by omega),run_size_c,Int.toNat_natCast]
 simp only [Result.andThen,sliced,Nat.sub_zero]
 split <;> simp [addr_zero]
theorem blk_keep {W W':World} {b:Nat} {t:TypeId} {vs:List Value} {row:Option Nat} (h:Blk W b t vs) (hg:W.grownBy W' row) (hr:∀ r,row=some r→∃ o:Obj,W.heap[r]? = some o∧o.isCells=false):Blk W' b t vs:=by
 refine h.grown hg fun e=>?_
 obtain ⟨o,ho,hc⟩:=hr b e.symm
 unfold Blk at h
 rw [h] at ho
 cases ho
 cases hc
theorem coins_keep {W W':World} {v:Value} {C:List Coin} {row:Option Nat} (h:IsCoins W v C) (hg:W.grownBy W' row) (hr:∀ r,row=some r→∃ o:Obj,W.heap[r]? = some o∧o.isCells=false):IsCoins W' v C:=by
 obtain h | ⟨a,cap,rfl,h1,h2,hc⟩:=h
 ·exact .inl h
 ·exact .inr ⟨a,cap,rfl,h1,h2,fun i u hu=>cell_kept (hc i u hu) hg hr⟩
structure SpInv (S:List Coin) (vs:List Value) (l0:List Int) (c0 g lo m2:Nat) (w:World) (k:Nat) (W:World):Prop where
 lens:Blk W g 3 (i64s (st S l0 c0 k).1)
 box:Blk W w.heap.size 88 [.slice (some ⟨g,0,none⟩) l0.length m2]
 arr:Blk W (w.heap.size+1) 156 vs
 cnt:Blk W (w.heap.size+2) 3 [.int .i64 (st S l0 c0 k).2]
 sl:Blk W (w.heap.size+3) 181 [.slice (some ⟨w.heap.size+1,0,none⟩) 15 15]
 rows:RowsAre S lo w.heap.size W vs 15
 gr:Gr w W g
theorem spInv_own {S:List Coin} {vs:List Value} {l0:List Int} {c0 g lo m2:Nat} {w:World} {B:Nat} (hB:w.heap.size≤B):OwnFrom B (SpInv S vs l0 c0 g lo m2 w):=by
 intro k W W' row h hg hr
 have hr':∀ r,row=some r→∃ o:Obj,W.heap[r]? = some o∧o.isCells=false:=fun r e=>(hr r e).2
 refine ⟨blk_keep h.lens hg hr',blk_keep h.box hg hr',blk_keep h.arr hg hr',blk_keep h.cnt hg hr',blk_keep h.sl hg hr',⟨h.rows.1,fun i hi=>?_⟩,?_⟩
 ·obtain ⟨b,n,c,e1,e2,e3,e4,e5,e6,e7⟩:=h.rows.2 i hi
  exact ⟨b,n,c,e1,e2,e3,e4,coins_keep e5 hg hr',e6,e7⟩
 ·refine ⟨hg.os.trans h.gr.os,hg.tape.trans h.gr.tape,hg.output.trans h.gr.output,Nat.le_trans h.gr.size hg.size,fun i hi hne=>?_⟩
  rw [hg.block i (Nat.lt_of_lt_of_le hi h.gr.size) (fun e=>by have:=(hr i e.symm).1;omega)]
  exact h.gr.block i hi hne
attribute [local go_sem] Oper.semAt_some
attribute [local go_sem ↓] loadC_eq storeC_eq sliceC_eq
theorem elem_rows:Tryz.prog.elem 156=151:=by kernel_rfl
theorem len_rows:Tryz.prog.arrayLen 156=15:=by kernel_rfl
theorem spend_any (S:List Coin) (vs:List Value) (l0:List Int) (c0 g lo m2:Nat) (w:World) (G:Pl.Good S) (hS:S.length≤300) (hsym:∀ c∈S,0≤c.2∧c.2<l0.length) (hl0:∀ v∈l0,v=0) (hm:l0.length≤1000000)
  (hc0:c0≤(rowC S 14).length) (hL:Blk w g 3 (i64s l0)) (hR:RowsAre S lo w.heap.size w vs 15) (hA:AllSl vs) (hlo:g<lo):
  Calls Tryz.prog 102 #[.slice (some ⟨g,0,none⟩) l0.length m2,.agg vs.toArray,.int .i64 c0] w fun e w'=>e=.returned (.tuple #[])∧Blk w' g 3 (i64s (st S l0 c0 15).1)∧Gr w w' g:=by
 have hg:=hL.lt
 have h15:vs.length=15:=hR.1
 have HL:=Lib.hid hL
 have HR:=Lib.hid hR
 have HG:=Lib.hid G
 have HSY:=Lib.hid hsym
 clear hL hR G hsym
 refine (callsIn_wide (n:=4)).1 ?_
 refine callsIn_of_wp_marks Tryz.func102 rfl trivial ?_ rfl
 simp only [Tryz.ntmps102,List.size_toArray,List.length_cons,List.length_nil,Nat.reduceAdd,Nat.reduceSub,Array.replicate_succ,Array.replicate_zero,List.push_toArray,List.append_toArray,List.nil_append,List.cons_append]
 have har:∀ W:World,(Instr.sliceAt 156 (.pointer (some ⟨w.heap.size+1,0,none⟩)) none none none).run Tryz.prog W=.ok (.slice (some ⟨w.heap.size+1,0,none⟩) 15 15) W:=fun W=>by
  rw [run_sliceAt_array_all _ _ _ (by rw [len_rows,elem_rows];exact Tryz.underlying156),len_rows,elem_rows,Tryz.sizeOf151]
  simp [Result.andThen,slicedAt,addr_zero]
 gi_wp2_with fail
 refine ⟨trivial,?_⟩
 refine (backward_any Fence.wide _ trivial rfl _ _ _ _).mono ?_
 rintro e w' ⟨rfl,rfl⟩
 clear har
 obtain ⟨W0,hW0⟩:∃ W0,((((w.alloc (.cells #[.slice (some ⟨g,0,none⟩) l0.length m2] 88)).alloc (.cells vs.toArray 156)).alloc (.cells #[.int .i64 c0] 3)).alloc (.cells #[.slice (some ⟨w.heap.size+1,0,none⟩) 15 15] 181))=W0:=⟨_,rfl⟩
 have hsz:W0.heap.size=w.heap.size+4:=by rw [← hW0];simp
 have hB0:Below w.heap.size w W0:=by rw [← hW0];exact ((((Below.refl _ w).alloc (Nat.le_refl _) _).alloc (by simp) _).alloc (by simp;omega) _).alloc (by simp;omega) _
 have hinv0:SpInv S vs l0 c0 g lo m2 w 0 W0:=by
  refine ⟨HL.out.below hB0 hg,?_,?_,?_,?_,⟨h15,fun i hi=>?_⟩,Gr.ofBelow hB0⟩
  ·rw [← hW0];exact (((Blk.new w 88 [.slice (some ⟨g,0,none⟩) l0.length m2]).alloc _).alloc _).alloc _
  ·rw [← hW0]
   have:=Blk.new (w.alloc (.cells #[.slice (some ⟨g,0,none⟩) l0.length m2] 88)) 156 vs
   rw [World.size_alloc] at this
   exact (this.alloc _).alloc _
  ·rw [← hW0]
   have:=Blk.new ((w.alloc (.cells #[.slice (some ⟨g,0,none⟩) l0.length m2] 88)).alloc (.cells vs.toArray 156)) 3 [.int .i64 c0]
   rw [World.size_alloc,World.size_alloc] at this
   exact this.alloc _
  ·rw [← hW0]
   have:=Blk.new (((w.alloc (.cells #[.slice (some ⟨g,0,none⟩) l0.length m2] 88)).alloc (.cells vs.toArray 156)).alloc (.cells #[.int .i64 c0] 3)) 181 [.slice (some ⟨w.heap.size+1,0,none⟩) 15 15]
   rw [World.size_alloc,World.size_alloc,World.size_alloc] at this
   exact this
  ·obtain ⟨b,n,c,e1,e2,e3,e4,e5,e6,e7⟩:=HR.out.2 i hi
   exact ⟨b,n,c,e1,e2,e3,e4,e5.below hB0,e6,e7⟩
 have HI0:=Lib.hid hinv0
 clear hinv0 hB0
 simp only [World.size_alloc] at*
 rw [hW0]
 clear hW0
 gi_wp2_with fail
 refine range_rounds rfl (by omega) (gf:=146) (lb:=#[.pointer (some ⟨w.heap.size+3,0,none⟩)]) rfl trivial (enters_of Tryz.func146 (by kernel_rfl) rfl) 15
  (fun k=>#[.int .i64 ((14-k:Nat):Int),vs.getD (14-k) (.slice none 0 0)]) (fun _=>rfl) (SpInv S vs l0 c0 g lo m2 w) (spInv_own (by omega)) HI0.out
  (fun l J W hJI hY h0=>back_rounds Fence.wide 3 trivial rfl (by omega) l (w.heap.size+3) (w.heap.size+1) vs h15 hA J (fun k W hJ=>⟨(hJI k W hJ).sl.cell rfl,fun i hi=>(hJI k W hJ).arr.cell (by rw [List.getD_eq_getElem?_getD,List.getElem?_eq_getElem (by omega)];rfl)⟩) hY W h0)
  (fun k=>{ tmps:=#[.slice (some ⟨g,0,none⟩) l0.length m2,.agg vs.toArray,.int .i64 c0,.pointer (some ⟨w.heap.size,0,none⟩),.pointer (some ⟨w.heap.size+1,0,none⟩),.pointer (some ⟨w.heap.size+2,0,none⟩),undef,vs.getD (14-k) (.slice none 0 0),undef,undef,undef,.slice (some ⟨w.heap.size+1,0,none⟩) 15 15,.func (.func 146) #[] #[.pointer (some ⟨w.heap.size+3,0,none⟩)],.int .i64 ((14-k:Nat):Int),vs.getD (14-k) (.slice none 0 0),undef,undef,undef,undef,undef,undef,undef,undef,undef,undef,undef,undef,undef,undef,undef,undef,undef,undef,undef,undef,undef,undef,undef],defers:=[] }) ?assign ?body ?done
 case assign=>
  intro l k W K hK
  gi_wp2
  exact hK
 case done=>
  intro D W hD hI hW
  gi_wp2
  refine ⟨by simp,.inl ⟨_,_,rfl,run_takeDeferred hW,?_⟩⟩
  have hfin:=(spInv_own (S:=S) (vs:=vs) (l0:=l0) (c0:=c0) (g:=g) (lo:=lo) (m2:=m2) (w:=w) (B:=W0.heap.size) (by omega)).putObj (.deferred none) hI hD hW rfl
  exact ⟨_,results_none rfl _ _ _,rfl,hfin.lens,hfin.gr⟩
 case body=>
  intro l k W hk hI
  have hcnt:=st_count HG.out l0 c0 hc0 k (by omega)
  have hsmall:=st_small hS l0 c0 hl0 k
  have hll:=st_length S l0 c0 k
  obtain ⟨b,n,cp,e1,e2,e3,e4,e5,e6,e7⟩:=hI.rows.2 (14-k) (by omega)
  have hrow:=row_ok HSY.out (14-k) (st S l0 c0 k).2
  have hvk:vs.getD (14-k) (.slice none 0 0)=.slice (some ⟨b,0,none⟩) n cp:=by rw [List.getD_eq_getElem?_getD,e1];rfl
  have hstk:st S l0 c0 (k+1)=(bump (st S l0 c0 k).1 ((rowC S (14-k)).take (st S l0 c0 k).2),2*cntS (-1) ((rowC S (14-k)).take (st S l0 c0 k).2)):=rfl
  rw [hvk]
  have hcn:(st S l0 c0 k).2≤n:=by omega
  have hn600:n≤600:=by have:=row_small S (14-k);omega
  obtain ⟨L,hLL⟩:∃ L,(st S l0 c0 k).1=L:=⟨_,rfl⟩
  obtain ⟨c,hcc⟩:∃ c,(st S l0 c0 k).2=c:=⟨_,rfl⟩
  obtain ⟨T,hT⟩:∃ T,(rowC S (14-k)).take c=T:=⟨_,rfl⟩
  rw [hLL,hcc,hT] at hstk
  rw [hLL] at hsmall hll
  rw [hcc] at hrow hcn
  rw [hT] at hrow
  have hTl:T.length=c:=by rw [← hT,List.length_take];omega
  have hTc:IsCoins W (.slice (some ⟨b,0,none⟩) c cp) T:=by rw [← hT];exact e5.take e2.symm c hcn
  have hlens:Blk W g 3 (i64s L):=by rw [← hLL];exact hI.lens
  have hbc:Blk W (w.heap.size+2) 3 [.int .i64 c]:=by rw [← hcc];exact hI.cnt
  have HI:=Lib.hid hI
  have HT:=Lib.hid hTc
  have HLn:=Lib.hid hlens
  have HST:=Lib.hid hstk
  have HRW:=Lib.hid hrow
  have HSM:=Lib.hid hsmall
  have hwg:w.heap.size+4≤W.heap.size:=by have:=hI.sl.lt;omega
  have hne:b≠g:=by omega
  have hsl:=run_uptoB (w:=W) (b:=b) (n:=n) (cap:=cp) c hcn e3 c rfl
  have c5:W.cell? ⟨w.heap.size+2,0,none⟩=some (.int .i64 c):=hbc.cell rfl
  have c3:W.cell? ⟨w.heap.size,0,none⟩=some (.slice (some ⟨g,0,none⟩) l0.length m2):=hI.box.cell rfl
  clear hcnt hI e1 e2 e4 e5 hvk hrow hstk hLL hcc hT hTc hlens hsmall hbc
  gi_wp2
  gi_loopw [8,19] (fun x8 x19 wr=>∃ i:Nat,i≤c∧x8=.int .i64 (cntS (-1) (T.take i):Nat)∧x19=.int .i64 i∧Blk wr g 3 (i64s (bump L (T.take i)))∧Gr W wr g) (fun _ x _=>c-(intOf x).toNat)
  case atStart=>exact ⟨0,by omega,rfl,rfl,by simpa [bump] using HLn.out,Gr.refl _ _⟩
  case round=>
   obtain ⟨i,hi,rfl,rfl,hb,hgr⟩:=hrel
   have HB:=Lib.hid hb
   have HGR:=Lib.hid hgr
   have hsz2:=hgr.size
   clear hb hgr
   by_cases hlt:i<c
   ·have hTi:IsCoins wr (.slice (some ⟨b,0,none⟩) c cp) T:=IsCells.row HT.out (r:=some g) HGR.out fun a m c' e h0 e2=>by
     simp at e
     obtain ⟨rfl,_,_⟩:=e
     simp at e2
     exact hne e2
    obtain ⟨b',off',cap',hs,_,_,hbl,hc⟩:=hTi.cells (by omega)
    simp at hs
    obtain ⟨⟨rfl,rfl⟩,hx1,hx2⟩:=hs
    clear hx1 hx2
    have hci:=hc i (by omega)
    rw [Nat.zero_add] at hci
    have hld:=run_loadC hci.1 hci.2
    obtain ⟨w2,hst,hblk,hbel⟩:=store_new wr (T.getD i (0,0))
    have hp1:=@bump_pair L T i (by omega)
    have hp2:=@bump_sym L T i (by omega)
    have hok:=HRW.out (T.getD i (0,0)) (by rw [List.getD_eq_getElem?_getD,List.getElem?_eq_getElem (by omega)];exact List.getElem_mem _)
    have hbb:=bump_bound L (T.take i) (600*(k:Int)) (by omega) HSM.out
    have hbl2:=bump_length L (T.take i)
    have hcl:=cnt_le (-1) (T.take i)
    rw [List.length_take] at hcl
    have hlt2:=hblk.lt
    have HB2:=Lib.hid (HB.out.below hbel HB.out.lt)
    have HGR2:=Lib.hid (Gr.trans HGR.out (Gr.ofBelow hbel))
    have c3':w2.cell? ⟨w.heap.size,0,none⟩=some (.slice (some ⟨g,0,none⟩) l0.length m2):=((Blk.grown (HI.out.box) HGR2.out (by simp;omega))).cell rfl
    have cs:w2.cell? ⟨wr.heap.size,1,none⟩=some (.int .i64 (T.getD i (0,0)).2):=hblk.cell rfl
    have P1:=Lib.hid hp1
    have P2:=Lib.hid hp2
    have BB:=Lib.hid hbb
    have HOK:=Lib.hid hok
    have hcl2:cntS (-1) (T.take i)≤i:=by omega
    clear hp1 hp2 hbb hc hci hTi hblk hbel HB hok hcl
    generalize T.getD i (0,0)=t at*
    generalize cntS (-1) (T.take i)=pc at*
    generalize bump L (T.take i)=Li at*
    by_cases hsym:t.2=-1
    ·have q:=P1.out hsym
     obtain ⟨t1,t2⟩:=t
     simp only at hsym
     subst hsym
     have Q:=Lib.hid q
     simp only at hld hst cs
     clear q P1 P2 HOK
     gi_wp2
     go_roundw
     case rel=>exact ⟨i+1,by omega,by rw [Q.out.2];first | rfl | (congr 1;omega),by first | rfl | go_num,by rw [Q.out.1];exact HB2.out,HGR2.out⟩
     case measure=>simp [intOf];omega
    ·have hok':=HOK.out.resolve_left hsym
     obtain ⟨y,hy⟩:∃ y:Nat,t.2=y:=⟨t.2.toNat,by omega⟩
     have q:=P2.out hsym
     have hy2:t.2.toNat=y:=by omega
     rw [hy2] at q
     have hyl:y<Li.length:=by rw [hbl2,hll];omega
     have hne1:(t.2==-1)=false:=beq_f hsym
     have cl:w2.cell? ⟨g,y,none⟩=some (.int .i64 (Li.getD y 0)):=HB2.out.cell (i64s_get Li y hyl)
     have fl:=HB2.out.frozen y
     have hv:=BB.out (Li.getD y 0) (by rw [List.getD_eq_getElem?_getD,List.getElem?_eq_getElem hyl];exact List.getElem_mem _)
     have hset:=HB2.out.set y (.int .i64 (Li.getD y 0+1))
     rw [i64s_set] at hset
     have HSET:=Lib.hid hset
     have hTl2:((T.take i).length:Int)≤600:=by rw [List.length_take];omega
     have hyl0:(y:Int)<(l0.length:Int):=by omega
     obtain ⟨t1,t2⟩:=t
     have Q:=Lib.hid q
     simp only at hy hne1 hok' hsym cs hy2 hst hld
     clear q P1 P2 HOK hy2
     subst hy
     generalize Li.getD y 0=z at*
     have hz:wrap64 (z+1)=z+1:=by unfold wrap64;omega
     clear hset
     gi_wp2
     go_roundw
     case rel=>exact ⟨i+1,by omega,by rw [Q.out.2],by first | rfl | go_num,by rw [Q.out.1];exact HSET.out,HGR2.out.setCell _ _⟩
     case measure=>simp [intOf];omega
   ·obtain rfl:i=c:=by omega
    have hT2:T.take i=T:=List.take_of_length_le (by omega)
    rw [hT2] at HB ⊢
    have hcl:=cnt_le (-1) T
    have hb5:=Blk.grown HI.out.cnt HGR.out (by simp;omega)
    have c5':wr.cell? ⟨w.heap.size+2,0,none⟩=some (.int .i64 (st S l0 c0 k).2):=hb5.cell rfl
    have f5':=hb5.frozen 0
    have hset:=hb5.set 0 (.int .i64 ((2*cntS (-1) T:Nat):Int))
    have HSET:=Lib.hid hset
    have HST1:=Lib.hid (congrArg Prod.fst HST.out)
    have HST2:=Lib.hid (congrArg Prod.snd HST.out)
    clear hset hb5
    generalize hq:cntS (-1) T=q at*
    have HQ:=Lib.hid hq
    have hq2:q≤600:=by omega
    have hgW:g<W0.heap.size:=by omega
    clear hq
    gi_wp2
    have hgr3:Gr w (wr.setCell ⟨w.heap.size+2,0,none⟩ (.int .i64 (2*(q:Int)))) g:=by
     have h1:=Gr.trans HI.out.gr HGR.out
     refine ⟨h1.os,h1.tape,h1.output,by simpa using h1.size,fun i hi hne=>?_⟩
     rw [Below.heap_setCell _ _ _ _ (by simp;omega)]
     exact h1.block i hi hne
    have e2q:((2*q:Nat):Int)=2*(q:Int):=by omega
    have hset:=HSET.out
    rw [e2q] at hset
    refine ⟨(KeepsFrom.of_grownBy (row:=some g) HGR.out (fun j e=>by cases e;omega)).trans ((KeepsOthers.setCell _ _ _).from _),?_⟩
    refine ⟨?_,?_,?_,?_,?_,⟨HI.out.rows.1,fun i hi=>?_⟩,hgr3⟩
    ·rw [HST1.out];exact HB.out.setOther (by simp;omega) _
    ·exact (Blk.grown HI.out.box HGR.out (by simp;omega)).setOther (by simp) _
    ·exact (Blk.grown HI.out.arr HGR.out (by simp;omega)).setOther (by simp) _
    ·rw [HST2.out,e2q];exact hset
    ·exact (Blk.grown HI.out.sl HGR.out (by simp;omega)).setOther (by simp) _
    ·obtain ⟨b',n',c',e1,e2,e3,e4,e5,e6,e7⟩:=HI.out.rows.2 i hi
     refine ⟨b',n',c',e1,e2,e3,e4,?_,e6,e7⟩
     have h1:IsCoins wr (.slice (some ⟨b',0,none⟩) n' c') (rowC S i):=IsCells.row e5 (r:=some g) HGR.out fun a m c' e h0 e2=>by
      simp at e
      obtain ⟨rfl,_,_⟩:=e
      simp at e2
      omega
     exact IsCells.row h1 (r:=some (w.heap.size+2)) (Gr.setCell (Gr.refl _ _) _ _) fun a m c' e h0 e2=>by
      simp at e
      obtain ⟨rfl,_,_⟩:=e
      simp at e2
      omega
end Go.Proofs.YtmjpnbadfmgimaaGreatDoor.S6
namespace Go.Proofs.YtmjpnbadfmgimaaGreatDoor.S6
open Go.RowKit Go.Shelf _root_.Go.Proofs.YtmjpnbadfmgimaaGreatDoor.Pl _root_.Go.Proofs.YtmjpnbadfmgimaaGreatDoor.S6.Pl
namespace Pl
theorem coins_mem (F:List Int):∀ (i:Nat),∀ c∈coinsFrom i F,0<c.1∧(i:Int)≤c.2∧c.2<(i+F.length:Nat)∧c.1∈F:=by
 induction F with
 | nil=>intro i c hc;simp [coinsFrom] at hc
 | cons f F ih=>
   intro i c hc
   rw [coinsFrom] at hc
   split at hc
   ·rcases List.mem_cons.1 hc with rfl | hc
    ·refine ⟨by assumption,Int.le_refl _,by simp only [List.length_cons];omega,by simp⟩
    ·have:=ih (i+1) c hc
     exact ⟨this.1,by omega,by simp only [List.length_cons];omega,by simp [this.2.2.2]⟩
   ·have:=ih (i+1) c hc
    exact ⟨this.1,by omega,by simp only [List.length_cons];omega,by simp [this.2.2.2]⟩
theorem coins_nodup (F:List Int):∀ i,(coinsFrom i F).Pairwise fun a b=>a.2≠b.2:=by
 induction F with
 | nil=>intro i;exact List.Pairwise.nil
 | cons f F ih=>
   intro i
   rw [coinsFrom]
   split
   ·refine List.pairwise_cons.2 ⟨fun c hc=>?_,ih _⟩
    have:=(coins_mem F (i+1) c hc).2.1
    simp only
    omega
   ·exact ih _
theorem good_of {F:List Int} {S:List Coin} (hp:S.Perm (coinsFrom 0 F)) (ha:Asc S):Good S:=
 ⟨ha,fun c hc=>(coins_mem F 0 c (hp.mem_iff.1 hc)).1,fun c hc=>by have:=(coins_mem F 0 c (hp.mem_iff.1 hc)).2.1;omega,hp.symm.pairwise (coins_nodup F 0) (fun h=>Ne.symm h)⟩
def finLen (S:List Coin) (x:Nat):Int:=
 match S with
 | []=>0
 | [s]=>if s.2=x then 1 else 0
 | S=>lenOf S x
theorem finLen_many {S:List Coin} (h:2≤S.length) (x:Nat):finLen S x=lenOf S x:=by
 rcases S with _ | ⟨a,_ | ⟨b,R⟩⟩
 ·simp at h
 ·simp at h
 ·rw [finLen]
  all_goals (intros;first | (intro h;simp at h) | simp_all)
structure LensOk (F L:List Int) (S:List Coin):Prop where
 perm:S.Perm (coinsFrom 0 F)
 good:Good S
 len:L.length=F.length
 val:∀ x,x<F.length→L.getD x 0=finLen S x
 lex:LexK S
theorem LensOk.one {F L L':List Int} {S S':List Coin} (h:LensOk F L S) (h':LensOk F L' S') (hF:F.length≤1000000):L=L':=by
 have e:S=S':=lex_one (h.perm.trans h'.perm.symm) h.lex h'.lex fun c hc=>by
  have:=coins_in F 0 c (h.perm.mem_iff.1 hc)
  omega
 subst e
 apply List.ext_getElem
 ·rw [h.len,h'.len]
 ·intro i h1 h2
  have k1:=h.val i (by rw [← h.len];exact h1)
  have k2:=h'.val i (by rw [← h'.len];exact h2)
  simp only [List.getD,List.getElem?_eq_getElem h1,List.getElem?_eq_getElem h2,Option.getD_some] at k1 k2
  rw [k1,k2]
end Pl
theorem made_blk {w:World} {base:Nat} {e:TypeId} {g n:Nat} {xs:List Value} (h:w.ownsRow base e 1 (.slice (some ⟨g,0,none⟩) n n) n xs):Blk w g e xs:=by
 obtain ⟨hl,h | ⟨g',cap,cur,hv,_,hh,hn,_,hs,ht⟩⟩:=h
 ·simp at h
 ·simp at hv
  obtain ⟨rfl,rfl⟩:=hv
  unfold Blk
  rw [hh]
  have:cur.toList=xs:=by rw [← ht,List.take_of_length_le (by simp [hs])]
  rw [← this]
theorem made_ints (n:Nat):(madeCells (Value.int .i64 0).cells (n*1)).toList=i64s (List.replicate n 0):=by
 apply List.ext_getElem?
 intro i
 by_cases h:i<n
 ·simp [madeCells,Value.cells,h,Nat.mod_one,i64s]
 ·simp [madeCells,Value.cells,h,i64s]
def OfPost (F:List Int) (w:World) (e:Ending) (w':World):Prop:=
 (¬ (F.length≤300∧allOk F)∧e=.returned (.tuple #[.slice none 0 0,.int .i64 7])∧w=w')∨
 ((F.length≤300∧allOk F)∧∃ g L S,e=.returned (.tuple #[.slice (some ⟨g,0,none⟩) F.length F.length,.int .i64 0])∧w.heap.size≤g∧Blk w' g 3 (i64s L)∧LensOk F L S∧Below w.heap.size w w')
theorem of_any (v:Value) (F:List Int) (w:World) (hv:IsInts w v F) (hF:F.length≤1000000):
  Calls Tryz.prog 86 #[v] w (OfPost F w):=by
 have hir:=inRange_any v F w hv hF
 obtain ⟨a,cap,rfl,hcap,hmax⟩:=hv.slice
 have HV:=Lib.hid hv
 clear hv
 by_cases hok:F.length≤300∧allOk F
 rotate_left
 ·go_enter Tryz.func86,Tryz.ntmps86
  go_wp2_with fail
  refine hir.mono ?_
  rintro e w' ⟨⟨b,rfl,hb⟩,rfl⟩
  obtain rfl:b=false:=by
   cases b
   ·rfl
   ·exact absurd (hb.1 rfl) hok
  have H:=Lib.hid hok
  clear hb hir hok
  go_wp2
  go_ret2
  exact .inl ⟨H.out,rfl,rfl⟩
 obtain ⟨i0,hi,hz0,hz1,hz2⟩:=infoI_parts infoI
 have HI:=Lib.hid hi
 have HZ:=Lib.hid (And.intro hz0 (And.intro hz1 hz2))
 have hF3:=hok.1
 have HOK:=Lib.hid hok
 clear hi hz0 hz1 hz2 hok
 go_enter Tryz.func86,Tryz.ntmps86
 go_wp2_with fail
 refine hir.mono ?_
 rintro e w' ⟨⟨b,rfl,hb⟩,rfl⟩
 obtain rfl:b=true:=hb.2 HOK.out
 clear hb hir
 go_wp2_with (at_make;refine wpList_make_full _ rfl _ _ 88 rfl w.heap.size 3 i0 (.int .i64 0) 1 Tryz.underlying88 HI.out HZ.out.1 HZ.out.2.1 .i64 .i64 _ _ F.length rfl rfl rfl rfl (by rw [HZ.out.2.2];omega) (by unfold maxLen;omega) (Nat.le_refl _) ?_;intro w1 hown hgr)
 rw [made_ints] at hown
 have hL:=made_blk hown
 have hB1:Below w.heap.size w w1:=(Below.refl _ w).grown hgr (Nat.le_refl _) (by simp)
 have hs1:=hL.lt
 have hv1:IsInts w1 (.slice a F.length cap) F:=HV.out.below hB1
 refine (singles_any _ F w1 hv1 hF).mono ?_
 rintro e w2 ⟨sa,n,sc,S,rfl,hn,hp,hx,hI,hB2⟩
 have hG:=good_of hp (asc_lex hp hF hx)
 have HLX:=Lib.hid hx
 obtain ⟨sa',sc',hse,hsc1,hsc2⟩:=hI.slice
 simp at hse
 obtain ⟨rfl,hse2,rfl⟩:=hse
 have hL2:=hL.below hB2 hs1
 have hB12:=hB1.trans (hB2.mono hB1.size)
 have hSl:n≤300:=by
  have:=hp.length_eq
  have:=coins_len 0 F
  omega
 have HP:=Lib.hid hp
 have HG:=Lib.hid hG
 have HIC:=Lib.hid hI
 have HN:=Lib.hid hn
 have HL2:=Lib.hid hL2
 have HB:=Lib.hid hB12
 have hscn:n≤sc:=by omega
 have HSC:=Lib.hid (And.intro hscn hsc2)
 clear hown hgr hL hB1 hv1 hB2 hG hI hL2 hB12 hp hx hn hse2 hsc1 hsc2 hscn HI HZ
 have hlx:w.heap.size<w2.heap.size:=HL2.out.lt
 by_cases h0:n=0
 ·subst h0
  go_wp2
  go_ret2
  have hS:S=[]:=List.eq_nil_of_length_eq_zero HN.out.symm
  refine .inr ⟨HOK.out,w.heap.size,List.replicate F.length 0,S,rfl,Nat.le_refl _,HL2.out,⟨HP.out,HG.out,by simp,fun x hx=>?_,HLX.out⟩,HB.out⟩
  rw [hS]
  simp [finLen,List.getD,hx]
 have h0z:((n:Int)==0)=false:=beq_f (by omega)
 by_cases h1:n=1
 ·have hS1:∃ s,S=[s]:=by
   match S,HN.out with
   | [s],_=>exact ⟨s,rfl⟩
   | [],h=>simp at h;omega
   | _::_::_,h=>simp at h;omega
  obtain ⟨s,hS⟩:=hS1
  obtain ⟨bs,offs,caps,hse,_,_,hbs,hc⟩:=HIC.out.cells (by rw [hS];simp)
  simp at hse
  obtain ⟨rfl,hx1,hx2⟩:=hse
  have hc0:=hc 0 (by rw [hS];simp)
  have e0:S.getD 0 (0,0)=s:=by rw [hS];rfl
  rw [e0,Nat.zero_mul,Nat.add_zero] at hc0
  have hm:=coins_mem F 0 s (HP.out.mem_iff.1 (by rw [hS];simp))
  obtain ⟨y,hy⟩:∃ y:Nat,s.2=y:=⟨s.2.toNat,by omega⟩
  have hyF:y<F.length:=by have:=hm.2.2.1;omega
  have c1:w2.cell? ⟨bs,offs+1,none⟩=some (.int .i64 y):=by rw [← hy];exact hc0.2
  have cl:w2.cell? ⟨w.heap.size,y,none⟩=some (.int .i64 0):=HL2.out.cell (by have:=i64s_get (List.replicate F.length 0) y (by simpa using hyF);rw [this];simp [List.getD,hyF])
  have fl:=HL2.out.frozen y
  have hset:=HL2.out.set y (.int .i64 1)
  rw [i64s_set] at hset
  have HSET:=Lib.hid hset
  have HS:=Lib.hid hS
  have HY:=Lib.hid hy
  have h1z:((n:Int)==1)=true:=beq_t (by omega)
  have hn0:0<n:=by omega
  have hyFz:(y:Int)<(F.length:Int):=by omega
  clear hset hS hy hm hc0 hc e0 hx1 hx2 h0
  go_wp2
  go_ret2
  refine .inr ⟨HOK.out,w.heap.size,(List.replicate F.length 0).set y 1,S,rfl,Nat.le_refl _,HSET.out,⟨HP.out,HG.out,by simp,fun x hx=>?_,HLX.out⟩,HB.out.setCell (Nat.le_refl _) _⟩
  rw [getD_set_int _ _ _ _ (by simpa using hyF),HS.out]
  simp only [finLen,HY.out]
  by_cases e:x=y
  ·subst e;simp
  ·rw [if_neg e,if_neg (by omega)]
   simp [List.getD,hx]
 have h1z:((n:Int)==1)=false:=beq_f (by omega)
 have hsym:∀ c∈S,0≤c.2∧c.2<F.length:=fun c hc=>by
  have:=coins_mem F 0 c (HP.out.mem_iff.1 hc)
  exact ⟨by omega,by omega⟩
 have hwt:∀ c∈S,0<c.1∧c.1≤1073741824:=fun c hc=>by
  have:=coins_mem F 0 c (HP.out.mem_iff.1 hc)
  exact ⟨this.1,(HOK.out.2 _ this.2.2.2).2⟩
 have HSY:=Lib.hid hsym
 have hro:=rowsOf_any sa n sc S w2 HIC.out HN.out.symm HSC.out.1 HSC.out.2 (by omega) hwt
 clear hsym hwt
 go_wp2_with fail
 refine hro.mono ?_
 rintro e w3 ⟨vs,rfl,hR,hA,hB3⟩
 have hL3:=HL2.out.below hB3 hlx
 have hsp:=spend_any S vs (List.replicate F.length 0) (2*n-2) w.heap.size w2.heap.size F.length w3 HG.out (by rw [← HN.out];exact hSl) (by simpa using HSY.out) (fun v hv=>List.eq_of_mem_replicate hv) (by simpa using hF) (by rw [HN.out];exact row_big (by rw [← HN.out];exact hSl)) hL3 hR hA hlx
 rw [List.length_replicate,show ((2*n-2:Nat):Int)=2*(n:Int)-2 by omega] at hsp
 have HSP:=Lib.hid hB3
 have HCALL:=Lib.hid hsp
 clear hro hR hA hB3 hL3 hsp
 go_wp2_with fail
 refine HCALL.out.mono ?_
 rintro e w4 ⟨rfl,hL4,hgr4⟩
 have HL4:=Lib.hid hL4
 have HG4:=Lib.hid hgr4
 clear HCALL hL4 hgr4
 go_wp2
 go_ret2
 refine .inr ⟨HOK.out,w.heap.size,_,S,rfl,Nat.le_refl _,HL4.out,⟨HP.out,HG.out,by rw [st_length];simp,fun x hx=>?_,HLX.out⟩,(HB.out.trans (HSP.out.mono HB.out.size)).trans (HG4.out.below (Nat.le_trans HB.out.size HSP.out.size) (Nat.le_refl _))⟩
 rw [HN.out,st_lens (by simpa using HSY.out) x hx]
 exact (finLen_many (by rw [← HN.out];omega) x).symm
namespace Pl
end Pl
end Go.Proofs.YtmjpnbadfmgimaaGreatDoor.S6
namespace Go.Proofs.YtmjpnbadfmgimaaGreatDoor.S6
open Go.RowKit _root_.Go.Proofs.YtmjpnbadfmgimaaGreatDoor.Pl _root_.Go.Proofs.YtmjpnbadfmgimaaGreatDoor.S6.Pl
namespace Pl
def SrtI (L:List Int):Prop:=L.Pairwise (· ≤ ·)
end Pl
def PutPost (n base:Nat) (L:List Int) (x:Int) (w:World) (e:Ending) (w':World):Prop:=
 ∃ sp cp L',e=.returned (.slice sp (n+1) cp)∧w'.ownsRow base 2 1 (.slice sp (n+1) cp) (n+1) (i64s L')∧L'.Perm (x::L)∧SrtI L'∧Below base w w'
end Go.Proofs.YtmjpnbadfmgimaaGreatDoor.S6
namespace Go.Proofs.YtmjpnbadfmgimaaGreatDoor.S6
open Go.RowKit
namespace Pl
def costP:List Int→List Int→Int
 | a::f,b::l=>a*b+costP f l
 | _,_=>0
theorem wrap_ok {x:Int} (h0:0≤x) (h1:x<9223372036854775808):wrap64 x=x:=by unfold wrap64;omega
theorem costP_coins:∀ (F L:List Int) (i:Nat),(∀ v∈F,0≤v)→costP F L=sm (fun c=>c.1*L.getD (c.2.toNat-i) 0) (coinsFrom i F)
 | [],L,i,_=>by simp [costP,coinsFrom,sm]
 | f::F,[],i,_=>by
   have:sm (fun c:Coin=>c.1*([]:List Int).getD (c.2.toNat-i) 0) (coinsFrom i (f::F))=sm (fun _=>0) (coinsFrom i (f::F)):=sm_congr fun c _=>by simp [List.getD]
   rw [this,sm_const];simp [costP]
 | f::F,b::L,i,h=>by
   have ih:=costP_coins F L (i+1) fun v hv=>h v (by simp [hv])
   have e:sm (fun c=>c.1*(b::L).getD (c.2.toNat-i) 0) (coinsFrom (i+1) F)=sm (fun c=>c.1*L.getD (c.2.toNat-(i+1)) 0) (coinsFrom (i+1) F):=sm_congr fun c hc=>by
    have:=(coins_mem F (i+1) c hc).2.1
    rw [show c.2.toNat-i=(c.2.toNat-(i+1))+1 by omega]
    simp [List.getD]
   rw [costP,ih,coinsFrom]
   by_cases h0:0<f
   ·rw [if_pos h0,sm,e]
    simp [List.getD]
   ·rw [if_neg h0,e]
    have:=h f (by simp)
    rw [show f=0 by omega]
    simp
def lenA (S:List Coin) (x:Int):Nat:=(finLen S x.toNat).toNat
structure OptA (S:List Coin) (l:Int→Nat):Prop where
 ok:∀ s∈S,1≤l s.2∧l s.2≤15
 kraft:sm (fun s=>((2^(15-l s.2):Nat):Int)) S≤32768
 opt:∀ m:Int→Nat,(∀ s∈S,1≤m s.2∧m s.2≤15)→sm (fun s=>((2^(15-m s.2):Nat):Int)) S≤32768→sm (fun s=>s.1*(l s.2:Nat)) S≤sm (fun s=>s.1*(m s.2:Nat)) S
theorem OptA.perm {S S':List Coin} {l:Int→Nat} (h:OptA S l) (p:S.Perm S'):OptA S' l:=
 ⟨fun s hs=>h.ok s (p.mem_iff.2 hs),by rw [← sm_perm p];exact h.kraft,fun m h15 hk=>by
  rw [← sm_perm p,← sm_perm p]
  exact h.opt m (fun s hs=>h15 s (p.mem_iff.1 hs)) (by rw [sm_perm p];exact hk)⟩
theorem lenA_many {S:List Coin} (G:Good S) (h2:2≤S.length) {s:Coin} (hs:s∈S):lenA S s.2=lenOf S s.2:=by
 have:=G.sym s hs
 rw [lenA,finLen_many h2,show ((s.2.toNat:Nat):Int)=s.2 by omega]
 simp
theorem optA {S:List Coin} (G:Good S) (h3:S.length≤300):OptA S (lenA S):=by
 by_cases h2:2≤S.length
 ·have O:=optLen G h2 h3
  have e:=fun s (hs:s∈S)=>lenA_many G h2 hs
  refine ⟨fun s hs=>by rw [e s hs];exact O.ok s hs,?_,fun m hm hk=>?_⟩
  ·rw [sm_congr (h:=fun s=>((2^(15-lenOf S s.2):Nat):Int)) fun s hs=>by rw [e s hs]]
   exact O.kraft
  ·rw [sm_congr (h:=fun s=>s.1*((lenOf S s.2:Nat):Int)) fun s hs=>by rw [e s hs]]
   exact O.opt m (fun s hs=>(hm s hs).2) hk
 ·rcases S with _ | ⟨s,_ | ⟨b,R⟩⟩
  ·exact ⟨by simp,by simp [sm],by simp [sm]⟩
  ·have hs:=G.sym s (by simp)
   have h1:lenA [s] s.2=1:=by
    rw [lenA,finLen,if_pos (by omega)]
    rfl
   refine ⟨fun x hx=>by simp at hx;subst hx;omega,by simp [sm,h1],fun m hm _=>?_⟩
   have:=(hm s (by simp)).1
   have hw:=G.pos s (by simp)
   simp only [sm,h1]
   have:=Int.mul_le_mul_of_nonneg_left (show (1:Int)≤((m s.2:Nat):Int) by omega) (Int.le_of_lt hw)
   simp at this ⊢
   exact this
  ·simp at h2
theorem finLen_nonneg (S:List Coin) (x:Nat):0≤finLen S x:=by
 rcases S with _ | ⟨s,_ | ⟨b,R⟩⟩
 ·simp [finLen]
 ·rw [finLen];split <;> omega
 ·rw [finLen_many (by simp)];omega
theorem cost_of {F L:List Int} {S:List Coin} (h:LensOk F L S) (hF:∀ v∈F,0≤v):costP F L=sm (fun s=>s.1*(lenA S s.2:Nat)) (coinsFrom 0 F):=by
 rw [costP_coins F L 0 hF]
 refine sm_congr fun c hc=>?_
 have hm:=coins_mem F 0 c hc
 rw [Nat.sub_zero,h.val _ (by omega),lenA,Int.toNat_of_nonneg (finLen_nonneg _ _)]
theorem S_len {F L:List Int} {S:List Coin} (h:LensOk F L S) (h3:F.length≤300):S.length≤300:=by
 rw [h.perm.length_eq];have:=coins_len 0 F;omega
end Pl
end Go.Proofs.YtmjpnbadfmgimaaGreatDoor.S6
namespace Go.Proofs.YtmjpnbadfmgimaaGreatDoor.S6
end Go.Proofs.YtmjpnbadfmgimaaGreatDoor.S6
namespace Go.Proofs.YtmjpnbadfmgimaaGreatDoor.S6
namespace Pl
theorem coin_in:∀ (F:List Int) (i x:Nat),x<F.length→0<F.getD x 0→(F.getD x 0,((i+x:Nat):Int))∈coinsFrom i F
 | [],_,_,h,_=>by simp at h
 | f::F,i,0,_,h=>by
   have h':0<f:=by simpa [List.getD] using h
   rw [coinsFrom,if_pos h']
   simp [List.getD]
 | f::F,i,x+1,hx,h=>by
   have e:(f::F).getD (x+1) 0=F.getD x 0:=by simp [List.getD]
   rw [e] at h ⊢
   have ih:=coin_in F (i+1) x (by simpa using hx) h
   rw [show i+(x+1)=i+1+x by omega,coinsFrom]
   split
   ·exact List.mem_cons_of_mem _ ih
   ·exact ih
theorem lenA_val {F L:List Int} {S:List Coin} (h:LensOk F L S) {x:Nat} (hx:x<F.length):L.getD x 0=(lenA S (x:Int):Nat):=by
 rw [h.val x hx,lenA,Int.toNat_natCast,Int.toNat_of_nonneg (finLen_nonneg _ _)]
theorem len_pos {F L:List Int} {S:List Coin} (h:LensOk F L S) (h3:F.length≤300) {x:Nat} (hx:x<F.length) (h0:0<F.getD x 0):1≤L.getD x 0∧L.getD x 0≤15:=by
 have O:=(optA h.good (S_len h h3)).perm h.perm
 have hc:=coin_in F 0 x hx h0
 have:=O.ok _ hc
 simp only [Nat.zero_add] at this
 rw [lenA_val h hx]
 omega
theorem sm_point {C:List Coin} (hn:C.Pairwise fun a b=>a.2≠b.2) {a:Coin} (ha:a∈C) {g g':Coin→Int} (he:∀ c∈C,c.2≠a.2→g' c=g c):sm g' C=sm g C+(g' a-g a):=by
 induction C with
 | nil=>simp at ha
 | cons c C ih=>
   have hp:=List.pairwise_cons.1 hn
   simp only [sm]
   rcases List.mem_cons.1 ha with rfl | ha
   ·rw [sm_congr (g:=g') (h:=g) fun x hx=>he x (by simp [hx]) (Ne.symm (hp.1 x hx))]
    omega
   ·rw [ih hp.2 ha fun x hx=>he x (by simp [hx]),he c (by simp) (hp.1 a ha)]
    omega
end Pl
end Go.Proofs.YtmjpnbadfmgimaaGreatDoor.S6
namespace Go.Proofs.YtmjpnbadfmgimaaGreatDoor.S6
open Go.RowKit
namespace Pl
theorem max_len (l:Int→Nat):∀ (C:List Coin),C≠[]→∃ s∈C,∀ c∈C,l c.2≤l s.2
 | [],h=>absurd rfl h
 | [s],_=>⟨s,by simp,by simp⟩
 | s::t::C,_=>by
   obtain ⟨m,hm,h⟩:=max_len l (t::C) (by simp)
   by_cases e:l m.2≤l s.2
   ·exact ⟨s,by simp,fun c hc=>by
     rcases List.mem_cons.1 hc with rfl | hc
     ·exact Nat.le_refl _
     ·exact Nat.le_trans (h c hc) e⟩
   ·exact ⟨m,by simp [List.mem_cons.1 hm],fun c hc=>by
     rcases List.mem_cons.1 hc with rfl | hc
     ·omega
     ·exact h c hc⟩
theorem kraft_mult (l:Int→Nat) (lm:Nat) (hlm:lm≤15):∀ (C:List Coin),(∀ c∈C,l c.2≤lm)→∃ q:Int,sm (fun s=>((2^(15-l s.2):Nat):Int)) C=((2^(15-lm):Nat):Int)*q
 | [],_=>⟨0,by simp [sm]⟩
 | s::C,h=>by
   obtain ⟨q,hq⟩:=kraft_mult l lm hlm C fun c hc=>h c (by simp [hc])
   have hs:=h s (by simp)
   refine ⟨((2^(lm-l s.2):Nat):Int)+q,?_⟩
   have e:(2:Nat)^(15-l s.2)=2^(15-lm)*2^(lm-l s.2):=by rw [← Nat.pow_add];congr 1;omega
   rw [sm,hq,e,Int.mul_add]
   push_cast
   rfl
theorem tight {C:List Coin} (hn:C.Pairwise fun a b=>a.2≠b.2) (hp:Pos C) {l:Int→Nat} (O:OptA C l) (h2:2≤C.length):sm (fun s=>((2^(15-l s.2):Nat):Int)) C=32768:=by
 apply Classical.byContradiction
 intro hne
 have hK:=O.kraft
 obtain ⟨s0,hs0,hmax⟩:=max_len l C (by intro e;rw [e] at h2;simp at h2)
 have ok0:=O.ok s0 hs0
 obtain ⟨q,hq⟩:=kraft_mult l (l s0.2) ok0.2 C hmax
 obtain ⟨lm,hlm⟩:∃ lm,l s0.2=lm:=⟨_,rfl⟩
 rw [hlm] at hq ok0 hmax
 have hu:((2^(15-lm):Nat):Int)*((2^lm:Nat):Int)=32768:=by
  have e:(2:Nat)^(15-lm)*2^lm=2^15:=by rw [← Nat.pow_add];congr 1;omega
  have e2:(2:Nat)^15=32768:=by decide
  rw [← Int.natCast_mul,e,e2]
  rfl
 have hu1:1≤(2^(15-lm):Nat):=Nat.one_le_two_pow
 by_cases h1:lm=1
 ·have e:sm (fun s=>((2^(15-l s.2):Nat):Int)) C=sm (fun _=>16384) C:=sm_congr fun s hs=>by
   have a1:=(O.ok s hs).1
   have a2:=hmax s hs
   rw [show l s.2=1 by omega]
   rfl
  rw [e,sm_const] at hK hne
  omega
 ·have hq2:q<((2^lm:Nat):Int):=by
   apply Classical.byContradiction
   intro hge
   have:=Int.mul_le_mul_of_nonneg_left (show ((2^lm:Nat):Int)≤q by omega) (show (0:Int)≤((2^(15-lm):Nat):Int) by omega)
   omega
  have hq3:=Int.mul_le_mul_of_nonneg_left (show q+1≤((2^lm:Nat):Int) by omega) (show (0:Int)≤((2^(15-lm):Nat):Int) by omega)
  rw [Int.mul_add,Int.mul_one,hu] at hq3
  have hm:∀ x:Int,(if x=s0.2 then lm-1 else l x)=(fun x:Int=>if x=s0.2 then lm-1 else l x) x:=fun _=>rfl
  generalize (fun x:Int=>if x=s0.2 then lm-1 else l x)=m at hm
  have m0:m s0.2=lm-1:=by rw [← hm];simp
  have mo:∀ x,x≠s0.2→m x=l x:=fun x h=>by rw [← hm,if_neg h]
  have k1:=sm_point hn hs0 (g:=fun s=>((2^(15-l s.2):Nat):Int)) (g':=fun s=>((2^(15-m s.2):Nat):Int)) fun c _ h=>by simp only [mo _ h]
  have k2:=sm_point hn hs0 (g:=fun s=>s.1*((l s.2:Nat):Int)) (g':=fun s=>s.1*((m s.2:Nat):Int)) fun c _ h=>by simp only [mo _ h]
  simp only [m0,hlm] at k1 k2
  have ed:(2:Nat)^(15-(lm-1))=2^(15-lm)*2:=by rw [show 15-(lm-1)=(15-lm)+1 by omega,Nat.pow_succ]
  rw [ed] at k1
  have ho:=O.opt m (fun s hs=>by
   by_cases e:s.2=s0.2
   ·rw [e,m0];omega
   ·rw [mo _ e];exact O.ok s hs) (by rw [k1,hq];push_cast at hq3 ⊢;omega)
  rw [k2] at ho
  have hw:=hp s0 hs0
  have e3:s0.1*(((lm-1:Nat)):Int)=s0.1*(lm:Int)-s0.1:=by
   rw [show (((lm-1:Nat)):Int)=(lm:Int)-1 by omega,Int.mul_sub,Int.mul_one]
  rw [e3] at ho
  omega
def kraftP:List Int→Int
 | []=>0
 | n::l=>(if 1≤n∧n≤15 then 2^(15-n).toNat else 0)+kraftP l
theorem pow_small (n:Int) (h:1≤n∧n≤15):0≤(2:Int)^(15-n).toNat∧(2:Int)^(15-n).toNat≤16384:=by
 have h1:2^(15-n).toNat≤2^14:=Nat.pow_le_pow_right (by omega) (by omega)
 have e:(2:Int)^(15-n).toNat=((2^(15-n).toNat:Nat):Int):=by simp
 have e2:(2:Nat)^14=16384:=by decide
 rw [e2] at h1
 rw [e]
 exact ⟨Int.natCast_nonneg _,Int.ofNat_le.2 h1⟩
theorem kraftW_eq:∀ (L:List Int) (s:Int),0≤s→s+16384*L.length<9223372036854775808→kraftW s L=s+kraftP L
 | [],s,_,_=>by simp [kraftW,kraftP]
 | n::L,s,h0,h1=>by
   rw [List.length_cons] at h1
   push_cast at h1
   by_cases h:1≤n∧n≤15
   ·have hp:=pow_small n h
    rw [kraft_in h,kraftP,if_pos h,wrap_ok (by omega) (by omega),kraftW_eq L _ (by omega) (by omega)]
    omega
   ·rw [kraft_out h,kraftP,if_neg h,kraftW_eq L s h0 (by omega)]
    omega
theorem kraftP_coins:∀ (F L:List Int) (i:Nat),L.length=F.length→(∀ x,x<F.length→(0<F.getD x 0→1≤L.getD x 0∧L.getD x 0≤15)∧(¬ 0<F.getD x 0→L.getD x 0=0))→kraftP L=sm (fun c=>((2^(15-(L.getD (c.2.toNat-i) 0).toNat):Nat):Int)) (coinsFrom i F)
 | [],[],i,_,_=>by simp [kraftP,coinsFrom,sm]
 | [],_::_,_,h,_=>by simp at h
 | _::_,[],_,h,_=>by simp at h
 | f::F,b::L,i,hl,h=>by
   have ih:=kraftP_coins F L (i+1) (by simpa using hl) fun x hx=>by
    have:=h (x+1) (by simp only [List.length_cons];omega)
    simpa [List.getD] using this
   have e:sm (fun c=>((2^(15-((b::L).getD (c.2.toNat-i) 0).toNat):Nat):Int)) (coinsFrom (i+1) F)=sm (fun c=>((2^(15-(L.getD (c.2.toNat-(i+1)) 0).toNat):Nat):Int)) (coinsFrom (i+1) F):=sm_congr fun c hc=>by
    have:=(coins_mem F (i+1) c hc).2.1
    rw [show c.2.toNat-i=(c.2.toNat-(i+1))+1 by omega]
    simp [List.getD]
   have h0:=h 0 (by simp)
   simp only [List.getD_cons_zero] at h0
   rw [kraftP,ih,coinsFrom]
   by_cases hf:0<f
   ·have hb:=h0.1 hf
    rw [if_pos hf,sm,e,if_pos hb]
    congr 1
    simp only [Int.toNat_natCast,Nat.sub_self,List.getD_cons_zero]
    rw [show (15-b).toNat=15-b.toNat by omega]
    simp
   ·have hb:=h0.2 hf
    rw [if_neg hf,e,if_neg (by omega)]
    omega
theorem len_zero {F L:List Int} {S:List Coin} (h:LensOk F L S) {x:Nat} (hx:x<F.length) (h0:¬ 0<F.getD x 0):L.getD x 0=0:=by
 have hno:∀ s∈S,s.2≠(x:Int):=fun s hs e=>by
  have hc:=h.perm.mem_iff.1 hs
  have key:∀ (F:List Int) (i:Nat) (c:Coin),c∈coinsFrom i F→c.1=F.getD (c.2.toNat-i) 0:=by
   intro F
   induction F with
   | nil=>intro i c hc;simp [coinsFrom] at hc
   | cons f F ih=>
     intro i c hc
     rw [coinsFrom] at hc
     have tl:c∈coinsFrom (i+1) F→c.1=(f::F).getD (c.2.toNat-i) 0:=fun hc=>by
      have:=(coins_mem F (i+1) c hc).2.1
      rw [show c.2.toNat-i=(c.2.toNat-(i+1))+1 by omega,ih (i+1) c hc]
      simp [List.getD]
     split at hc
     ·rcases List.mem_cons.1 hc with rfl | hc
      ·simp [List.getD]
      ·exact tl hc
     ·exact tl hc
  have h1:=key F 0 s hc
  rw [e,Int.toNat_natCast,Nat.sub_zero] at h1
  have:=(coins_mem F 0 s hc).1
  omega
 rw [h.val x hx]
 rcases S with _ | ⟨s,_ | ⟨b,R⟩⟩
 ·rfl
 ·rw [finLen,if_neg (hno s (by simp))]
 ·rw [finLen_many (by simp),lenOf,lenK_zero (by omega) hno]
  rfl
theorem kraft_val {F L:List Int} {S:List Coin} (h:LensOk F L S) (h3:F.length≤300):kraftW 0 L=if S.length=0 then 0 else if S.length=1 then 16384 else 32768:=by
 have hl:=h.len
 rw [kraftW_eq L 0 (by omega) (by omega),Int.zero_add,kraftP_coins F L 0 hl fun x hx=>⟨fun h0=>len_pos h h3 hx h0,fun h0=>len_zero h hx h0⟩]
 have e:sm (fun c=>((2^(15-(L.getD (c.2.toNat-0) 0).toNat):Nat):Int)) (coinsFrom 0 F)=sm (fun c=>((2^(15-lenA S c.2):Nat):Int)) S:=by
  rw [sm_perm h.perm]
  refine sm_congr fun c hc=>?_
  have hm:=coins_mem F 0 c hc
  rw [Nat.sub_zero,lenA_val h (by omega),Int.toNat_natCast,Int.toNat_of_nonneg (by omega)]
 rw [e]
 have hS:=S_len h h3
 by_cases h2:2≤S.length
 ·rw [if_neg (by omega),if_neg (by omega)]
  exact tight h.good.nodup h.good.pos (optA h.good hS) h2
 ·have hg:=h.good
  rcases S with _ | ⟨s,_ | ⟨b,R⟩⟩
  ·simp [sm]
  ·have hs:=hg.sym s (by simp)
   have h1:lenA [s] s.2=1:=by
    rw [lenA,finLen,if_pos (by omega)]
    rfl
   simp [sm,h1]
  ·simp at h2
end Pl
end Go.Proofs.YtmjpnbadfmgimaaGreatDoor.S6

/- Texts put together: SufF. -/
import Derived.Test.YtmjpnbadfmgimaaGreatDoorFg16
import Derived.RangeFuncNested
import Derived.RangeFuncBound
import Derived.RangeFuncCalls
import Derived.RangeFuncLeaves
import Derived.RangeFuncWrites
import Derived.OwnWalkIn
import Derived.TacticsInMore
import Derived.LoopNIn
import Derived.LoopIn
set_option linter.unusedSimpArgs false
set_option linter.unusedVariables false
set_option maxRecDepth 100000
set_option maxHeartbeats 32000000
namespace Go.Proofs.YtmjpnbadfmgimaaGreatDoor.Pl
end Go.Proofs.YtmjpnbadfmgimaaGreatDoor.Pl
namespace Go.Proofs.YtmjpnbadfmgimaaGreatDoor.S8.Pl
end Go.Proofs.YtmjpnbadfmgimaaGreatDoor.S8.Pl
namespace Go.Proofs.YtmjpnbadfmgimaaGreatDoor.S8
open Go.RowKit _root_.Go.Proofs.YtmjpnbadfmgimaaGreatDoor.Pl _root_.Go.Proofs.YtmjpnbadfmgimaaGreatDoor.S8.Pl
theorem range_rounds {F:Fence} {n:Nat} {P:Program} {g:Operand} {ps:Array Tmp} {assign body:Code} {Q:Exit→Act→World→Prop} {a:Act} {w:World}
  (hro:F.round=none) (h1:1≤n) {gf:Nat} {lb:Array Value} (hg:a.eval g=.func (.func gf) #[] lb) (hFg:F.fn gf) (eg:∀ args w,(callFunc gf args).run P w=.ok (.enter gf args) w)
  (N:Nat) (encs:Nat→Array Value) (hps:∀ k,(encs k).size=ps.size) (I:Nat→World→Prop) (hI:OwnFrom w.heap.size I) (h0:I 0 w)
  (hit:∀ (l:Nat) (J:Nat→World→Prop) (W:World),(∀ k W,J k W→I k W)→
   (∀ k W,k<N→J k W→YieldAt F (n-1-1) P l (encs k) W fun e W'=>e=.returned (.bool true)∧J (k+1) W')→J 0 W→
   CallsIn F (n-1) P gf (#[.func (.yield l) #[] #[]]++lb) W fun e W'=>(∃ v,e=.returned v)∧J N W')
  (a₁:Nat→Act)
  (hassign:∀ (l k:Nat) (W:World) (K:Act→World→Prop),K (a₁ k) W→
   assign.wpIn (F.inRound l) (n-1-1) P (Exit.then K (fun _ _ _=>False)) { tmps:=(ps.zip (encs k)).foldl (fun t (p,v)=>t.setIfInBounds p v) a.tmps,defers:=[] } W)
  (hbody:∀ (l k:Nat) (W:World),k<N→I k W→body.wpIn (F.inRound l) (n-1-1) P (fun e _ W'=>e=.normal∧KeepsFrom w.heap.size W W'∧I (k+1) W') (a₁ k) W)
  (hdone:∀ (D:Nat) (W:World),w.heap.size≤D→I N W→W.heap[D]? = some (.deferred (some []))→Q .normal { a with defers:={ target:=.collected D,args:=#[] }::a.defers } W):
  (Code.rangeFunc g ps assign body).wpIn F n P Q a w:=by
 refine wpIn_rangeFunc fun fn hfn=>?_
 rw [hro]
 let r0:Loop:={ state:=.ready,pending:=none,fn,tmps:=a.tmps,params:=ps,assign,body,defers:=w.heap.size }
 let w1:=(w.alloc (.deferred (some []))).alloc (.loop r0)
 have s1:w1.heap.size=w.heap.size+2:=by simp [w1]
 have b1:w1.heap[w.heap.size+1]? = some (.loop r0):=by
  have:=World.alloc_heap_new (w.alloc (.deferred (some []))) (.loop r0)
  rwa [World.size_alloc] at this
 have b0:w1.heap[w.heap.size]? = some (.deferred (some [])):=
  (Below.heap_alloc _ _ _ (by simp)).trans (World.alloc_heap_new w _)
 let J:Nat→World→Prop:=fun k W=>I k W∧W.heap[w.heap.size+1]? = some (.loop r0)∧W.heap[w.heap.size]? = some (.deferred (some []))
 refine ⟨w.heap.size+1,[{ target:=.collected w.heap.size,args:=#[] }],w1,{ target:=.fn (.func gf) lb,args:=#[.func (.yield (w.heap.size+1)) #[] #[]] },w1,gf,#[.func (.yield (w.heap.size+1)) #[] #[]]++lb,w1,
  run_enterLoop_outer _ _ _ _ _,?_,?_,?_,fun _=>h1,?_⟩
 ·simp only [resolve,hg]
  simp [go_sem]
 ·intro f' hf'
  simp [Target.leads] at hf'
  subst hf'
  exact hFg
 ·simp [invoke,go_sem,eg]
 refine (hit (w.heap.size+1) J w1 (fun k W h=>h.1) ?_ ⟨hI.alloc _ (hI.alloc _ h0),b1,b0⟩).mono ?_
 ·rintro k W hk ⟨hi,hl,hd⟩
  have hlt:=(Array.getElem?_eq_some_iff.1 hl).1
  refine ⟨fn,_,assign,body,run_yield (args:=encs k) hl (hps k),roundIn_of_wpIn hfn (hassign _ k W _ ⟨_,run_beginRound hl rfl,?_⟩)⟩
  have hl2:(W.putObj (w.heap.size+1) (.loop { r0 with state:=.busy })).heap[w.heap.size+1]? = some (.loop { r0 with state:=.busy }):=World.putObj_heap_same hlt
  have hd2:(W.putObj (w.heap.size+1) (.loop { r0 with state:=.busy })).heap[w.heap.size]? = some (.deferred (some [])):=(World.putObj_heap_other (by omega)).trans hd
  refine wpIn_mono (hbody _ k _ hk (hI.putObj _ hi (by omega) hl rfl)) ?_
  rintro e a3 W3 ⟨rfl,hk3,hi3⟩
  have hl3:=hk3.same _ _ (by omega) hl2 rfl
  have hd3:=hk3.same _ _ (Nat.le_refl _) hd2 rfl
  have hlt3:=(Array.getElem?_eq_some_iff.1 hl3).1
  exact ⟨_,_,run_endRound none hl3,rfl,hI.putObj _ hi3 (by omega) hl3 rfl,World.putObj_heap_same hlt3,(World.putObj_heap_other (by omega)).trans hd3⟩
 ·rintro e W2 ⟨⟨v,rfl⟩,hi,hl,hd⟩
  exact ⟨none,_,run_endLoop hl (by simp [r0]),hdone _ _ (Nat.le_refl _) (hI.putObj _ hi (by omega) hl rfl) ((World.putObj_heap_other (by omega)).trans hd)⟩

attribute [local go_sem] Oper.semAt_some
theorem back_ints (F:Fence) (n:Nat) (hF:F.fn 140) (hro:F.round=none) (hn:1≤n) (l Bs N cap b off:Nat) (a:Option Addr) (xs:Nat→Int) (hN:N≤1000000) (ha:0<N→a=some ⟨b,off,none⟩) (J:Nat→World→Prop)
  (hhead:∀ k W,J k W→W.cell? ⟨Bs,0,none⟩=some (.slice a N cap))
  (hread:∀ k W,k<N→J k W→W.cell? ⟨b,off+(N-1-k),none⟩=some (.int .i64 (xs (N-1-k))))
  (hY:∀ k W,k<N→J k W→YieldAt F (n-1) Tryz.prog l #[.int .i64 ((N-1-k:Nat):Int),.int .i64 (xs (N-1-k))] W fun e W'=>e=.returned (.bool true)∧J (k+1) W') (W:World) (h0:J 0 W):
  CallsIn F n Tryz.prog 140 #[.func (.yield l) #[] #[],.pointer (some ⟨Bs,0,none⟩)] W fun e W'=>(∃ v,e=.returned v)∧J N W':=by
 refine callsIn_of_wp Tryz.func140 rfl hF ?_ hro
 simp only [Tryz.ntmps140,List.size_toArray,List.length_cons,List.length_nil,Nat.reduceAdd,Nat.reduceSub,Array.replicate_succ,Array.replicate_zero,List.push_toArray,List.append_toArray,List.nil_append,List.cons_append]
 have hb:=hhead 0 W h0
 by_cases hN0:N=0
 ·subst hN0
  gi_wp2
  clear hb
  gi_loopw [3] (fun i wr=>i=.int .i64 (-1)∧J 0 wr) (fun i _=>(intOf i+1).toNat)
  case atStart=>exact ⟨rfl,h0⟩
  case round=>
   obtain ⟨rfl,hJ⟩:=hrel
   gi_wp2
   go_end0
   exact ⟨⟨_,rfl⟩,hJ⟩
 have haa:=ha (by omega)
 subst haa
 gi_wp2
 clear hb ha
 gi_loopw [3] (fun i wr=>∃ k:Nat,k≤N∧i=.int .i64 ((N:Int)-1-(k:Int))∧J k wr) (fun i _=>(intOf i+1).toNat)
 case atStart=>exact ⟨0,Nat.zero_le _,by congr 1;omega,h0⟩
 case round=>
  obtain ⟨k,hk,rfl,hJ⟩:=hrel
  by_cases hlt:k<N
  ·have hb:=hhead k wr hJ
   have hc:=hread k wr hlt hJ
   obtain ⟨fn,tmps,assign,body,hy,hR⟩:=hY k wr hlt hJ
   obtain ⟨m,hm⟩:∃ m:Nat,N-1-k=m:=⟨_,rfl⟩
   have e1:(N:Int)-1-(k:Int)=(m:Int):=by omega
   have hmN:m<N:=by omega
   rw [hm] at hc hy
   rw [e1]
   generalize xs m=x at*
   gi_wp2
   refine hR.mono ?_
   rintro e W3 ⟨rfl,hJ3⟩
   gi_wp2
   go_roundw
   case rel=>exact ⟨k+1,by omega,by congr 1;omega,hJ3⟩
   case measure=>(simp [intOf];try omega)
  ·obtain rfl:k=N:=by omega
   have e1:(k:Int)-1-(k:Int)=-1:=by omega
   rw [e1]
   gi_wp2
   go_end0
   exact ⟨⟨_,rfl⟩,hJ⟩
theorem backwardI_any (F:Fence) (n:Nat) (hF:F.fn 113) (hro:F.round=none) (a:Option Addr) (len cap:Nat) (w:World):
  CallsIn F n Tryz.prog 113 #[.slice a len cap] w fun e w'=>e=.returned (.func (.func 140) #[] #[.pointer (some ⟨w.heap.size,0,none⟩)])∧w'=w.alloc (.cells #[.slice a len cap] 88):=by
 refine callsIn_of_wp Tryz.func113 rfl hF ?_ hro
 simp only [Tryz.ntmps113,List.size_toArray,List.length_cons,List.length_nil,Nat.reduceAdd,Nat.reduceSub,Array.replicate_succ,Array.replicate_zero,List.push_toArray,List.append_toArray,List.nil_append,List.cons_append]
 gi_wp2
 go_ret
 exact ⟨rfl,rfl⟩
end Go.Proofs.YtmjpnbadfmgimaaGreatDoor.S8

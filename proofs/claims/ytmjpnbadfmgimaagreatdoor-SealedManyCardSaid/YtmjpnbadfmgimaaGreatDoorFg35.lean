/- Texts put together: ConR, ConC. -/
import Derived.Test.YtmjpnbadfmgimaaGreatDoorFg1
import Derived.Test.YtmjpnbadfmgimaaGreatDoorFg2
import Derived.Test.YtmjpnbadfmgimaaGreatDoorFg12
import Derived.RangeFuncCalls
import Derived.TacticsInMore
import Derived.OrdersIn
import Derived.OrdersHeld
import Derived.Sort.QuietIn
set_option linter.unusedSimpArgs false
set_option linter.unusedVariables false
set_option maxRecDepth 100000
set_option maxHeartbeats 32000000
namespace Go.Proofs.YtmjpnbadfmgimaaGreatDoor.S11
open Go.RowKit
def OnlyN (Q:Exit→Act→World→Prop):Exit→Act→World→Prop
 | .normal,a,w=>Q .normal a w
 | _,_,_=>False
theorem onlyN_out {Q:Exit→Act→World→Prop}:¬ LetsOut (OnlyN Q):=fun ⟨_,_,h⟩=>h
def isDefer:Op→Bool
 | .defer _=>true
 | _=>false
theorem oper_round {P:Program} {o:Oper} {a:Act} {w:World} {K:Act→World→Prop} {Q:Exit→Act→World→Prop} {l n:Nat} (hd:isDefer o.op=false) (h:o.wp P a w K (OnlyN Q)):o.wpIn (Fence.wide.inRound l) n P a w K (OnlyN Q):=by
 have hd':∀ c,o.op≠.defer c:=fun c e=>by rw [e] at hd;cases hd
 unfold Oper.wp at h
 refine ⟨fun _ _=>trivial,?_⟩
 rw [Fence.inRound_round,Oper.semAt_some _ _ _ hd']
 generalize (execOp a.eval o).run P w=r at h ⊢
 cases r with
 | ok x w'=>
   cases x with
   | value v=>exact h
   | skip=>exact h
   | defer d=>exact h
   | enter f args=>exact ⟨fun h=>by simp [Fence.inRound,Fence.wide] at h,CallsIn.inRound l ((callsIn_wide (n:=n-1)).2 h)⟩
   | row r args=>
     refine ⟨fun h=>by simp [Fence.inRound,Fence.wide] at h,fun c cs _=>?_⟩
     obtain ⟨v,w2,h1,h2⟩:=h c cs
     exact ⟨v,w2,h1,stepsIn_wide.2 h2⟩
   | _=>exact h.elim
 | halt x w'=>cases x <;> first | exact h | exact h.elim
theorem any_round {P:Program} {md:Region.Mode} {ops:Array Oper} {Q:Exit→Act→World→Prop} {l n:Nat} (hd:ops.all (fun o=>!isDefer o.op)=true):∀ (fuel:Nat) (listed:Array Bool) (a:Act) (w:World),wpAny P md ops (OnlyN Q) fuel listed a w→wpAnyIn (Fence.wide.inRound l) n P md ops (OnlyN Q) fuel listed a w
 | 0,_,_,_,h=>h
 | fuel+1,listed,a,w,h=>⟨h.1,fun i hi=>by
   have h2:=h.2 i hi
   unfold wpOp at h2
   unfold wpOpIn
   cases ho:ops[i]? with
   | none=>rw [ho] at h2;exact any_round hd fuel _ _ _ h2
   | some o=>
     rw [ho] at h2
     simp only at h2 ⊢
     have hdo:isDefer o.op=false:=by
      have hm:o∈ops:=Array.mem_of_getElem? ho
      have:=(Array.all_eq_true_iff_forall_mem.1 hd) o hm
      simpa using this
     by_cases hw:Region.wanted o (yielded ops a.tmps)=true
     ·rw [if_pos hw] at h2 ⊢
      rcases h2 with h2 | ⟨_,h2⟩
      ·exact oper_round hdo (Oper.wp_mono (fun a w h=>any_round hd fuel _ a w h) h2)
      ·exact absurd h2 onlyN_out
     ·rw [if_neg hw] at h2 ⊢
      exact ⟨fun _ _=>trivial,any_round hd fuel _ _ _ h2⟩⟩
theorem region_round {P:Program} {id:Nat} {ops:Array Oper} {Q:Exit→Act→World→Prop} {S:World→Prop} {a:Act} {w:World} {l n k:Nat} {ls:Array Bool} (hm:P.follows .mixedOrders=true) (hd:ops.all (fun o=>!isDefer o.op)=true) (hn:ops.size=k) (hl:Array.replicate k false=ls)
  (h:wpAnyH P .any ops (OnlyN Q) S k ls a w.drew):(Code.region id ops true).wpIn (Fence.wide.inRound l) n P Q a w:=by
 refine wpIn_mono (wpIn_region_any hm (any_round hd _ _ _ _ ?_)) fun e a w h=>by cases e <;> first | exact h | exact h.elim
 rw [hn,hl]
 exact wpAny_of_held _ _ _ _ h
end Go.Proofs.YtmjpnbadfmgimaaGreatDoor.S11
namespace Go.Proofs.YtmjpnbadfmgimaaGreatDoor.S11
open Go.RowKit Go.Shelf Pl
theorem rounds_drew {F:Fence} {n:Nat} {P:Program} {g:Operand} {ps:Array Tmp} {assign body:Code} {Q:Exit→Act→World→Prop} {a:Act} {w:World}
  (hro:F.round=none) (h1:1≤n) {gf:Nat} {lb:Array Value} (hg:a.eval g=.func (.func gf) #[] lb) (hFg:F.fn gf) (eg:∀ args w,(callFunc gf args).run P w=.ok (.enter gf args) w)
  (N:Nat) (encs:Nat→Array Value) (hps:∀ k,(encs k).size=ps.size) (I:Nat→World→Prop) (hI:OwnFrom w.heap.size I) (h0:I 0 w)
  (hit:∀ (l:Nat) (J:Nat→World→Prop) (W:World),(∀ k W,J k W→I k W)→(∀ k W q,J k W→J k (W.drewN q))→
   (∀ k W,k<N→J k W→YieldAt F (n-1-1) P l (encs k) W fun e W'=>e=.returned (.bool true)∧J (k+1) W')→J 0 W→
   CallsIn F (n-1) P gf (#[.func (.yield l) #[] #[]]++lb) W fun e W'=>(∃ v,e=.returned v)∧J N W')
  (a₁:Nat→Act)
  (hassign:∀ (l k:Nat) (W:World) (K:Act→World→Prop),K (a₁ k) W→
   assign.wpIn (F.inRound l) (n-1-1) P (Exit.then K (fun _ _ _=>False)) { tmps:=(ps.zip (encs k)).foldl (fun t (p,v)=>t.setIfInBounds p v) a.tmps,defers:=[] } W)
  (hbody:∀ (l k:Nat) (W:World),k<N→I k W→body.wpIn (F.inRound l) (n-1-1) P (fun e _ W'=>e=.normal∧KeepsFrom w.heap.size W W'∧I (k+1) W') (a₁ k) W)
  (hdone:∀ (D:Nat) (W:World),w.heap.size≤D→I N W→W.heap[D]? = some (.deferred (some []))→Q .normal { a with defers:={ target:=.collected D,args:=#[] }::a.defers } W):
  (Code.rangeFunc g ps assign body).wpIn F n P Q a w:=by
 refine wpIn_rangeFunc fun fn hfn=>?_
 rw [hro]
 let r0:Loop:={ state:=.ready,pending:=none,fn,tmps:=a.tmps,params:=ps,assign,body,defers:=w.heap.size }
 let w1:=(w.alloc (.deferred (some []))).alloc (.loop r0)
 have s1:w1.heap.size=w.heap.size+2:=by simp [w1]
 have b1:w1.heap[w.heap.size+1]? = some (.loop r0):=by
  have:=World.alloc_heap_new (w.alloc (.deferred (some []))) (.loop r0)
  rwa [World.size_alloc] at this
 have b0:w1.heap[w.heap.size]? = some (.deferred (some [])):=
  (Below.heap_alloc _ _ _ (by simp)).trans (World.alloc_heap_new w _)
 let J:Nat→World→Prop:=fun k W=>I k W∧W.heap[w.heap.size+1]? = some (.loop r0)∧W.heap[w.heap.size]? = some (.deferred (some []))
 refine ⟨w.heap.size+1,[{ target:=.collected w.heap.size,args:=#[] }],w1,{ target:=.fn (.func gf) lb,args:=#[.func (.yield (w.heap.size+1)) #[] #[]] },w1,gf,#[.func (.yield (w.heap.size+1)) #[] #[]]++lb,w1,
  run_enterLoop_outer _ _ _ _ _,?_,?_,?_,fun _=>h1,?_⟩
 ·simp only [resolve,hg]
  simp [go_sem]
 ·intro f' hf'
  simp [Target.leads] at hf'
  subst hf'
  exact hFg
 ·simp [invoke,go_sem,eg]
 refine (hit (w.heap.size+1) J w1 (fun k W h=>h.1) (fun k W q h=>⟨hI k W (W.drewN q) none h.1 ⟨rfl,rfl,rfl,Nat.le_refl _,fun _ _ _=>rfl⟩ (by simp),h.2⟩) ?_ ⟨hI.alloc _ (hI.alloc _ h0),b1,b0⟩).mono ?_
 ·rintro k W hk ⟨hi,hl,hd⟩
  have hlt:=(Array.getElem?_eq_some_iff.1 hl).1
  refine ⟨fn,_,assign,body,run_yield (args:=encs k) hl (hps k),roundIn_of_wpIn hfn (hassign _ k W _ ⟨_,run_beginRound hl rfl,?_⟩)⟩
  have hl2:(W.putObj (w.heap.size+1) (.loop { r0 with state:=.busy })).heap[w.heap.size+1]? = some (.loop { r0 with state:=.busy }):=World.putObj_heap_same hlt
  have hd2:(W.putObj (w.heap.size+1) (.loop { r0 with state:=.busy })).heap[w.heap.size]? = some (.deferred (some [])):=(World.putObj_heap_other (by omega)).trans hd
  refine wpIn_mono (hbody _ k _ hk (hI.putObj _ hi (by omega) hl rfl)) ?_
  rintro e a3 W3 ⟨rfl,hk3,hi3⟩
  have hl3:=hk3.same _ _ (by omega) hl2 rfl
  have hd3:=hk3.same _ _ (Nat.le_refl _) hd2 rfl
  have hlt3:=(Array.getElem?_eq_some_iff.1 hl3).1
  exact ⟨_,_,run_endRound none hl3,rfl,hI.putObj _ hi3 (by omega) hl3 rfl,World.putObj_heap_same hlt3,(World.putObj_heap_other (by omega)).trans hd3⟩
 ·rintro e W2 ⟨⟨v,rfl⟩,hi,hl,hd⟩
  exact ⟨none,_,run_endLoop hl (by simp [r0]),hdone _ _ (Nat.le_refl _) (hI.putObj _ hi (by omega) hl rfl) ((World.putObj_heap_other (by omega)).trans hd)⟩
def minN (ats:Array TypeId) (ty:TypeId) (v u:Value):Sem Value:=Builtin.min_ ats ty #[v,u]
theorem minN_eq (ats:Array TypeId) (ty:TypeId) (v u:Value):Builtin.min_ ats ty #[v,u]=minN ats ty v u:=rfl
theorem run_minN (ats:Array TypeId) (ty:TypeId) (m n:Int) (w:World):(minN ats ty (.int .i64 m) (.int .i64 n)).run Tryz.prog w=.ok (.int .i64 (min m n)) w:=by
 unfold minN Builtin.min_
 by_cases h:n<m
 ·have e:min m n=n:=by omega
  rw [e]
  simp [Builtin.min2,h]
 ·have e:min m n=m:=by omega
  rw [e]
  simp [Builtin.min2,h]
def pcs (n:Nat):Nat:=(n+999)/1000
def pcV (a:Option Addr) (N k:Nat):Value:=.slice (a.map (·.add (k*1000*1))) (min 1000 (N-k*1000)) (min 1000 (N-k*1000))
theorem run_piece {a:Option Addr} {N cap k m:Nat} (hc:N≤cap) (hm:m=min 1000 (N-k*1000)) (hk:k*1000<N) (lo hi mx:Int) (h1:lo=(k*1000:Nat)) (h2:hi=(k*1000+m:Nat)) (h3:mx=(k*1000+m:Nat)) (W:World):
  (sliceU8 (.slice a N cap) (some (.int .i64 lo)) (some (.int .i64 hi)) (some (.int .i64 mx))).run Tryz.prog W=.ok (pcV a N k) W:=by
 unfold sliceU8
 rw [run_sliceAt_slice _ _ _ _ _ _ und_u8s,run_slice_lhm _ _ _ _ _ und_u8s _ _ _ _ _ _ (by omega) (by omega) (by omega) (by omega),run_size_u8]
 subst h1 h2 h3
 simp only [Result.andThen,sliced,Int.toNat_natCast,Nat.add_sub_cancel_left,pcV,← hm]
 rw [if_neg (by omega)]
theorem isBytes_piece {w:World} {a:Option Addr} {N cap k:Nat} {B:List Nat} (h:IsBytes w (.slice a N cap) B) (hN:B.length=N) (hk:k*1000<N):IsBytes w (pcV a N k) ((B.drop (1000*k)).take 1000):=by
 subst hN
 have h2:=h.sub (k*1000) (min 1000 (B.length-k*1000)) (by omega)
 rw [show 1000*k=k*1000 by omega]
 have hl:((B.drop (k*1000)).take (min 1000 (B.length-k*1000)))=(B.drop (k*1000)).take 1000:=by
  by_cases hh:1000≤B.length-k*1000
  ·rw [Nat.min_eq_left hh]
  ·rw [Nat.min_eq_right (by omega),List.take_of_length_le (by rw [List.length_drop];omega),List.take_of_length_le (by rw [List.length_drop];omega)]
 rw [hl] at h2
 obtain ⟨hx,⟨he,h0⟩ | ⟨x,c,he,h1,h3,hc⟩⟩:=h2
 ·have:((B.drop (k*1000)).take 1000).length=0:=by rw [h0];rfl
  rw [List.length_take,List.length_drop] at this
  omega
 ·simp at he
  refine ⟨hx,.inr ⟨x,min 1000 (B.length-k*1000),?_,by rw [List.length_take,List.length_drop];omega,by unfold maxLen;omega,hc⟩⟩
  unfold pcV
  rw [Nat.mul_one,List.length_take,List.length_drop]
  simp only [Value.slice.injEq,and_true]
  simpa using he.1
attribute [local go_sem] Oper.semAt_some
attribute [local go_sem ↓] sliceU8_eq minN_eq
theorem chunk_rounds (n:Nat) (hn:1≤n) (l Bs N cap:Nat) (a:Option Addr) (hN:N≤1000000000) (hcap:N≤cap) (J:Nat→World→Prop) (hJd:∀ k W q,J k W→J k (W.drewN q))
  (hread:∀ k W,J k W→W.cell? ⟨Bs,0,none⟩=some (.slice a N cap)∧W.cell? ⟨Bs+1,0,none⟩=some (.int .i64 1000))
  (hY:∀ k W,k<pcs N→J k W→YieldAt Fence.wide (n-1) Tryz.prog l #[pcV a N k] W fun e W'=>e=.returned (.bool true)∧J (k+1) W') (W:World) (h0:J 0 W):
  CallsIn Fence.wide n Tryz.prog 51 #[.func (.yield l) #[] #[],.pointer (some ⟨Bs,0,none⟩),.pointer (some ⟨Bs+1,0,none⟩)] W fun e W'=>(∃ v,e=.returned v)∧J (pcs N) W':=by
 refine callsIn_of_wp Tryz.func51 rfl trivial ?_ rfl
 simp only [Tryz.ntmps51,List.size_toArray,List.length_cons,List.length_nil,Nat.reduceAdd,Nat.reduceSub,Array.replicate_succ,Array.replicate_zero,List.push_toArray,List.append_toArray,List.nil_append,List.cons_append]
 gi_wp2
 gi_loopw [4] (fun i wr=>∃ k:Nat,k≤pcs N∧i=.int .i64 ((k*1000:Nat):Int)∧J k wr) (fun i _=>(N+1000-(intOf i).toNat))
 case atStart=>exact ⟨0,Nat.zero_le _,rfl,h0⟩
 case round=>
  obtain ⟨k,hk,rfl,hJ⟩:=hrel
  have hb:=(hread k wr hJ).1
  have hb1:=(hread k wr hJ).2
  by_cases hlt:k*1000<N
  ·have hltz:((k*1000:Nat):Int)<(N:Int):=by omega
   obtain ⟨i,hi⟩:∃ i,k*1000=i:=⟨_,rfl⟩
   obtain ⟨m,hm⟩:∃ m,min 1000 (N-i)=m:=⟨_,rfl⟩
   have hp:=run_piece (a:=a) (k:=k) (m:=m) hcap (by omega) hlt (i:Nat) ((i:Int)+(m:Int)) ((i:Int)+(m:Int)) (by omega) (by omega) (by omega)
   obtain ⟨a',c',hs⟩:∃ a' c',∀ W:World,(sliceU8 (.slice a N cap) (some (.int .i64 (i:Nat))) none none).run Tryz.prog W=.ok (.slice a' (N-i) c') W:=by
    refine ⟨if cap=i then a else a.map (·.add (i*1)),cap-i,fun W=>?_⟩
    unfold sliceU8
    rw [run_sliceAt_slice _ _ _ _ _ _ und_u8s,run_slice_l _ _ _ _ _ und_u8s _ _ (by omega) (by omega),run_size_u8,Int.toNat_natCast]
    rfl
   have hmn:∀ ats ty (W:World),(minN ats ty (.int .i64 1000) (.int .i64 ((N-i:Nat):Int))).run Tryz.prog W=.ok (.int .i64 (m:Nat)) W:=fun ats ty W=>by
    rw [run_minN,show min (1000:Int) ((N-i:Nat):Int)=(m:Nat) by omega]
   rw [hi] at hltz ⊢
   gi_wp2_with fail
   gi_quiet (fail)
   obtain ⟨fn,tmps,assign,body,hy,hR⟩:=hY k (wr.drewN nq) (by unfold pcs;omega) (hJd k wr nq hJ)
   gi_wp2_with fail
   refine hR.mono ?_
   rintro e W3 ⟨rfl,hJ3⟩
   have hb3:=(hread _ _ hJ3).2
   have hi9:i<1000000000:=by omega
   clear hb hb1 hp hs hmn hy hR hJ
   gi_wp2
   go_roundw
   case rel=>exact ⟨k+1,by unfold pcs;omega,by first | rfl | (congr 1;omega),hJ3⟩
   case measure=>(simp [intOf];try omega)
  ·obtain rfl:k=pcs N:=by unfold pcs at hk ⊢;omega
   have hltz:¬ ((pcs N*1000:Nat):Int)<(N:Int):=by omega
   gi_wp2
   go_end0
   exact ⟨⟨_,rfl⟩,hJ⟩
theorem chunk_any (F:Fence) (n:Nat) (hF:F.fn 42) (hro:F.round=none) (a:Option Addr) (len cap:Nat) (w:World):
  CallsIn F n Tryz.prog 42 #[.slice a len cap,.int .i64 1000] w fun e w'=>e=.returned (.func (.func 51) #[] #[.pointer (some ⟨w.heap.size,0,none⟩),.pointer (some ⟨w.heap.size+1,0,none⟩)])∧w'=(w.alloc (.cells #[.slice a len cap] 27)).alloc (.cells #[.int .i64 1000] 3):=by
 refine callsIn_of_wp Tryz.func42 rfl hF ?_ hro
 simp only [Tryz.ntmps42,List.size_toArray,List.length_cons,List.length_nil,Nat.reduceAdd,Nat.reduceSub,Array.replicate_succ,Array.replicate_zero,List.push_toArray,List.append_toArray,List.nil_append,List.cons_append]
 gi_wp2
 go_ret
 exact ⟨rfl,rfl⟩
end Go.Proofs.YtmjpnbadfmgimaaGreatDoor.S11

/- Texts put together: Arr, ApI, BwtP, BwtQ, BwtA, BwtB, BwtC. -/
import Derived.Test.YtmjpnbadfmgimaaGreatDoorFg2
import Derived.Test.YtmjpnbadfmgimaaGreatDoorFg15
import Derived.Test.YtmjpnbadfmgimaaGreatDoorFg16
import Derived.Test.YtmjpnbadfmgimaaGreatDoorFg28
import Derived.Deep.WholeRow
set_option linter.unusedSimpArgs false
set_option linter.unusedVariables false
set_option maxRecDepth 100000
set_option maxHeartbeats 32000000
namespace Go.Proofs.YtmjpnbadfmgimaaGreatDoor.Pl
end Go.Proofs.YtmjpnbadfmgimaaGreatDoor.Pl
namespace Go.Proofs.YtmjpnbadfmgimaaGreatDoor.S8.Pl
end Go.Proofs.YtmjpnbadfmgimaaGreatDoor.S8.Pl
namespace Go.Proofs.YtmjpnbadfmgimaaGreatDoor.S8
open Go.RowKit _root_.Go.Proofs.YtmjpnbadfmgimaaGreatDoor.Pl _root_.Go.Proofs.YtmjpnbadfmgimaaGreatDoor.S8.Pl
namespace Pl
def fnL (n:Nat) (f:Nat→Nat):List Int:=(List.range n).map fun x=>(f x:Int)
theorem fnL_length (n:Nat) (f:Nat→Nat):(fnL n f).length=n:=by simp [fnL]
theorem fnL_get {n:Nat} (f:Nat→Nat) {x:Nat} (h:x<n):(fnL n f).getD x 0=(f x:Int):=by simp [fnL,List.getD,h]
theorem fnL_congr {n:Nat} {f g:Nat→Nat} (h:∀ x,x<n→f x=g x):fnL n f=fnL n g:=by
 unfold fnL
 exact List.map_congr_left fun x hx=>by rw [h x (List.mem_range.1 hx)]
theorem fnL_set {n:Nat} {f g:Nat→Nat} {x:Nat} {v:Int} (hv:x<n→v=(g x:Int)) (h:∀ y,y<n→y≠x→g y=f y):(fnL n f).set x v=fnL n g:=by
 refine List.ext_getElem (by simp [fnL]) fun i h1 h2=>?_
 rw [fnL_length] at h2
 rw [List.getElem_set]
 simp only [fnL,List.getElem_map,List.getElem_range]
 split
 ·rename_i e;subst e;exact hv h2
 ·rename_i e;rw [h i h2 (fun q=>e q.symm)]
theorem fnL_zero (n:Nat):fnL n (fun _=>0)=List.replicate n 0:=by
 refine List.ext_getElem (by simp [fnL]) fun i h1 h2=>?_
 simp [fnL]
end Pl
def zArr:List Value:=i64s (fnL 256 fun _=>0)
theorem zero_arr (w:World):(zeroValue 204).run Tryz.prog w=.ok (.agg zArr.toArray) w:=by kernel_rfl
theorem size_arr:(Tryz.prog.info? 204).map (·.size)=some 256:=by kernel_rfl
def loadArr (v:Value):Sem Value:=Instr.loadAt 204 v
theorem loadArr_eq (v:Value):Instr.loadAt 204 v=loadArr v:=rfl
def allocArr (b:Bool) (v:Value):Sem Value:=Instr.alloc 204 b v
theorem allocArr_eq (b:Bool) (v:Value):Instr.alloc 204 b v=allocArr b v:=rfl
theorem run_allocArr (w:World) (v:Value):(allocArr true v).run Tryz.prog w=.ok (.pointer (some ⟨w.heap.size,0,none⟩)) (w.alloc (.cells zArr.toArray 204)):=by
 unfold allocArr Instr.alloc
 rw [Sem.run_bind,zero_arr]
 cases v <;> rfl
theorem run_loadArr {w:World} {b:Nat} {L:List Int} (h:Blk w b 204 (i64s L)) (hl:L.length=256):(loadArr (.pointer (some ⟨b,0,none⟩))).run Tryz.prog w=.ok (.agg (i64s L).toArray) w:=by
 simp only [loadArr,Instr.loadAt,Instr.sureAddr,Sem.run_bind,Sem.run_pure,Result.andThen_ok]
 exact run_loadVar_row w b _ _ _ (0,0) _ h Tryz.underlying204 rfl (by rw [size_arr];simp [hl,i64s_length])
def idxArr (x i:Value):Sem Value:=Instr.index 204 x i
theorem idxArr_eq (x i:Value):Instr.index 204 x i=idxArr x i:=rfl
theorem run_idxArr (w:World) {L:List Int} (hl:L.length=256) {i:Nat} (hi:i<256):(idxArr (.agg (i64s L).toArray) (.int .i64 i)).run Tryz.prog w=.ok (.int .i64 (L.getD i 0)) w:=by
 have hg:=i64s_get L i (by omega)
 have ha:(asIntOf (.int .i64 (i:Int))).run Tryz.prog w=.ok (.i64,(i:Int)) w:=rfl
 have h1:(0:Int)≤(i:Int)∧(i:Int)<((256:Nat):Int):=by omega
 have hag:(isAgg 3).run Tryz.prog w=.ok false w:=by kernel_rfl
 have hsz:(sizeOf 3).run Tryz.prog w=.ok 1 w:=by kernel_rfl
 unfold idxArr Instr.index
 simp only [Sem.run_bind,ha,Result.andThen_ok,run_underlying Tryz.underlying204]
 rw [if_pos h1]
 simp only [Sem.run_bind,hsz,Result.andThen_ok,part,hag,Int.toNat_natCast,Nat.mul_one]
 simp [hg]
theorem arr_new (w:World):Blk (w.alloc (.cells zArr.toArray 204)) w.heap.size 204 (i64s (fnL 256 fun _=>0)):=Blk.new w _ _
theorem made_ints {w:World} {base g n:Nat} (h:w.ownsRow base 3 1 (.slice (some ⟨g,0,none⟩) n n) n (madeCells (Value.int .i64 0).cells (n*1)).toList):Blk w g 3 (i64s (fnL n fun _=>0)):=by
 have h1:=made_blk h
 have e:(madeCells (Value.int .i64 0).cells (n*1)).toList=i64s (fnL n fun _=>0):=by
  rw [fnL_zero]
  apply List.ext_getElem?
  intro i
  by_cases h:i<n
  ·simp [madeCells,Value.cells,i64s,h,Nat.mod_one]
  ·simp [madeCells,Value.cells,i64s,h]
 rw [e] at h1
 exact h1
theorem i64s_setA (L:List Int) (i:Nat) (c:Int):(i64s L).set i (.int .i64 c)=i64s (L.set i c):=by simp [i64s,List.map_set]
theorem zeroCells_i64 (n:Nat):(Builtin.zeroCells (Value.int .i64 0).cells n).toList=i64s (List.replicate n 0):=by
 have e:Builtin.zeroCells (Value.int .i64 0).cells n=madeCells (Value.int .i64 0).cells (n*1):=rfl
 rw [e,Pl.madeI]
theorem run_append_grow0 {w:World} (ty:TypeId) (g cap m:Nat) (hroom:cap<m) (hbytes:m≤4294967296):
  ∃ c' w',(Builtin.append_ #[88,3] ty #[.slice (some ⟨g,0,none⟩) 0 cap,.int .i64 m]).run Tryz.prog w=.ok (.slice (some ⟨w.heap.size,0,none⟩) m c') w'∧m≤c'∧c'≤maxLen∧Blk w' w.heap.size 3 (i64s (List.replicate c' 0))∧w.grownBy w' none:=by
 obtain ⟨i0,hi,hz0,hz1,hz2⟩:=infoI_parts infoI
 have hw:IntKind.i64.wrap (m:Int)=m:=by
  rw [IntKind.wrap_i64];omega
 have ha:∀ W:World,(asInt (.int .i64 (m:Int))).run Tryz.prog W=.ok (m:Int) W:=fun _=>rfl
 have h0:¬ ((m:Int)<0):=by omega
 have hm8:¬ ((281474976710656:Int)<(m:Int)*8):=by omega
 have hm8':¬ ((281474976710656:Int)<8*(m:Int)):=by omega
 have hge:=grownCap_ge w (0+m) cap 3
 have hcm:grownCap w (0+m) cap 3≤maxLen:=grownCap_le_maxLen w (0+m) cap 3 (by unfold maxLen;omega)
 rw [Nat.zero_add] at hge hcm
 refine ⟨grownCap w m cap 3,w.drew.alloc (.cells ((#[]:Array Value)++Builtin.zeroCells (Value.int .i64 0).cells m++Builtin.zeroCells (Value.int .i64 0).cells (grownCap w m cap 3-m)) 3),?_,hge,hcm,?_,⟨rfl,rfl,rfl,by simp,fun k hk _=>Below.heap_alloc w.drew _ k hk⟩⟩
 ·have hfo:=run_firstCells_some (P:=Tryz.prog) w.drew 1 0 ⟨g,0,none⟩ 0 cap [] (by simp) (fun j u hu=>by simp at hu)
  have hm0:¬ ((m:Int)≤0):=by omega
  have hm1:¬ m=0:=by omega
  have hm63:¬ (9223372036854775807<(m:Int)):=by omega
  have hnr:¬ m≤cap:=by omega
  have hnx:¬ (281474976710656<Builtin.nextslicecap m cap*8):=by
   have:=growslice_fits (need:=m) (old:=cap) (bytes:=8) (by omega) (by omega)
   omega
  simp [Builtin.append_,run_underlying Tryz.underlying88,run_underlying Tryz.underlying3,sizeOf,typeInfo,zeroValue,hi,hz0,hz1,hz2,ha,hw,h0,hm8,hm8',hnr,hm0,hm1,hm63,hnx,Question.forced,hfo,newRow,grownCap]
 ·unfold Blk
  have hh:=heap_alloc_new w.drew (.cells ((#[]:Array Value)++Builtin.zeroCells (Value.int .i64 0).cells m++Builtin.zeroCells (Value.int .i64 0).cells (grownCap w m cap 3-m)) 3)
  have hc:((#[]:Array Value)++Builtin.zeroCells (Value.int .i64 0).cells m++Builtin.zeroCells (Value.int .i64 0).cells (grownCap w m cap 3-m))=(i64s (List.replicate (grownCap w m cap 3) 0)).toArray:=by
   apply Array.toList_inj.1
   simp only [Array.toList_append,zeroCells_i64,List.nil_append]
   rw [← i64s_append,List.replicate_append_replicate,Nat.add_sub_cancel' hge]
  rw [hc] at hh
  rw [hc]
  exact hh
theorem wpList_append_grow0 {w:World} {ops:Array Oper} {rest:List Oper} {o:Oper} {a:Act} {Q:Exit→Act→World→Prop} (hgd:o.guard=none) (s x:Operand)
  (ho:o.op=.call { callee:=.builtin .append,args:=#[s,x],argTypes:=#[88,3] })
  (g cap m:Nat) (C:Int) (hs:a.eval s=.slice (some ⟨g,0,none⟩) 0 cap) (hx:a.eval x=.int .i64 C) (hC:C=(m:Int)) (hroom:cap<m) (hbytes:m≤4294967296)
  (h:∀ c' w',m≤c'→c'≤maxLen→Blk w' w.heap.size 3 (i64s (List.replicate c' 0))→w.grownBy w' none→wpList Tryz.prog ops Q rest (a.put o.dst (.slice (some ⟨w.heap.size,0,none⟩) m c')) w'):wpList Tryz.prog ops Q (o::rest) a w:=by
 subst hC
 obtain ⟨c',w',hr,h1,h2,h3,h4⟩:=run_append_grow0 (w:=w) o.type g cap m hroom hbytes
 refine wpList_plain hgd fun _ hK=>?_
 unfold Oper.wp execOp
 simp only [ho,resolve,invoke,builtin,Sem.run_bind,Sem.run_pure,Result.andThen_ok,List.map_toArray,List.map_cons,List.map_nil,hs,hx,hr]
 exact hK _ _ (h c' w' h1 h2 h3 h4)
theorem run_from0 {g n cap:Nat} (hcap:n≤cap) (W:World):(sliceI (.slice (some ⟨g,0,none⟩) n cap) (some (.int .i64 0)) none none).run Tryz.prog W=.ok (.slice (some ⟨g,0,none⟩) n cap) W:=by
 have h:=run_slice_l (P:=Tryz.prog) W
 unfold sliceI
 have e:(Value.int .i64 0)=.int .i64 ((0:Nat):Int):=rfl
 rw [e,run_sliceAt_slice _ _ _ _ _ _ und_i64s,run_slice_l _ _ _ _ _ und_i64s _ _ (by omega) (by omega),run_size_i,Int.toNat_natCast]
 simp only [Result.andThen,sliced,Nat.sub_zero]
 split <;> simp [add_none]
theorem copy_one (x:Int) (n c g b:Nat) (L:List Int) (W:World) (hg:Blk W g 3 (i64s L)) (hl:1≤L.length) (hn:1≤n) (hb:Blk W b 3 [.int .i64 x]):
  ∃ W',(Builtin.copy_ #[88,88] 3 #[.slice (some ⟨g,0,none⟩) n c,.slice (some ⟨b,0,none⟩) 1 1]).run Tryz.prog W=.ok (.int .i64 1) W'∧Blk W' g 3 (i64s (L.set 0 x))∧Gr W W' g:=by
 have hm:Nat.min 1 n=1:=Nat.min_eq_left hn
 have hrun:=run_copy_row (P:=Tryz.prog) W 88 88 3 3 g 0 n c ⟨b,0,none⟩ 1 1 (i64s L).toArray 3 (i64s [x]) Tryz.underlying88 sizeI hg (by rw [hm];rfl) (fun j v hj=>by
  have hj2:=(List.getElem?_eq_some_iff.1 hj).1
  rw [i64s_length,List.length_singleton] at hj2
  obtain rfl:j=0:=by omega
  rw [add_none]
  exact hb.cell hj) (by rw [List.size_toArray,i64s_length,i64s_length,List.length_singleton];omega) (i64s_one _)
 refine ⟨W.setRow g (splice (i64s L) 0 (i64s [x])).toArray,hrun,?_,⟨rfl,rfl,rfl,by simp,fun k hk hne=>setRow_other W g k _ (fun e=>hne (by rw [e]))⟩⟩
 unfold Blk
 rw [setRow_heap W g (i64s L).toArray _ 3 _ hg]
 have:splice (i64s L) 0 (i64s [x])=i64s (L.set 0 x):=by
  cases L with
  | nil=>simp at hl
  | cons y L=>simp [splice,i64s]
 rw [this]
namespace Pl
theorem ins_splice {x:Int} {R:List Int} {c:Nat} (hc:R.length+1≤c):splice (i64s ((List.replicate c (0:Int)).set 0 x)) 1 (i64s R)=i64s (x::R++List.replicate (c-(R.length+1)) 0):=by
 obtain ⟨d,rfl⟩:∃ d,c=R.length+1+d:=⟨c-(R.length+1),by omega⟩
 have e:R.length+1+d=(R.length+d)+1:=by omega
 rw [Nat.add_sub_cancel_left,e,List.replicate_succ,List.set_cons_zero]
 unfold splice i64s
 simp [List.map_append]
 rw [Nat.add_comm 1 R.length,List.drop_succ_cons,List.drop_replicate,Nat.add_sub_cancel_left]
end Pl
def InsPost (base n:Nat) (L:List Int) (w:World) (e:Ending) (w':World):Prop:=
 ∃ sp c,e=.returned (.slice sp n c)∧IsInts w' (.slice sp n c) L∧Below base w w'
attribute [local go_sem ↓] sliceI_eq
theorem insert_any (g b n base:Nat) (x:Int) (R:List Int) (w:World) (hs:OwnI w g n n R) (hb:Blk w b 3 [.int .i64 x]) (hn:n≤1000000) (hB:base≤g) (hne:g≠b):
  Calls Tryz.prog 64 #[.slice (some ⟨g,0,none⟩) n n,.int .i64 0,.slice (some ⟨b,0,none⟩) 1 1] w (InsPost base (n+1) (x::R) w):=by
 have hgl:=hs.lt
 have hbl:=hb.lt
 have s0:=fun W=>run_from0 (g:=g) (n:=n) (cap:=n) (Nat.le_refl _) W
 by_cases h0:n=0
 ·subst h0
  have hRl:=hs.length
  obtain rfl:R=[]:=List.eq_nil_of_length_eq_zero hRl
  have HO:Hid (w.ownsRow base 3 1 (.slice (some ⟨g,0,none⟩) 0 0) 0 (i64s [])):=Lib.hid (by
   obtain ⟨hl,⟨he,_⟩ | ⟨g',cap',cur,hv,_,hh,hn,hm,hs,ht⟩⟩:=hs
   ·simp at he
   ·simp at hv
    obtain ⟨rfl,rfl⟩:=hv
    exact ⟨hl,.inr ⟨g,0,cur,rfl,hB,hh,hn,hm,hs,ht⟩⟩)
  have HI:Hid (IsInts w (.slice (some ⟨b,0,none⟩) 1 1) [x]):=Lib.hid (.inr ⟨⟨b,0,none⟩,1,rfl,by simp,by simp [maxLen],fun i u hu=>by
   rw [add_none,Nat.zero_add];exact hb.cell hu⟩)
  clear hs hb
  go_enter Tryz.func64,Tryz.ntmps64
  go_wp2_with (at_builtin;refine wpList_append_ints rfl (.tmp 23) (.tmp 24) rfl base _ 0 [] rfl HO.out _ [x] rfl HI.out (by simp) (by omega) ?_;intro v6 w6 hown hgr;have HO6:=Lib.hid hown;have HB6:Hid (Below base w w6):=Lib.hid ((Below.refl _ _).grown hgr (by omega) (own_lt HO.out));obtain ⟨sp6,cp6,rfl,_,_⟩:=ownsRow_slice hown;clear hown hgr)
  go_wp2
  go_ret
  exact ⟨sp6,cp6,rfl,isInts_own rfl HO6.out,HB6.out⟩
 ·have hbeq:((0:Int)==(n:Int))=false:=beq_f (by omega)
  have s1:=fun W=>by simpa using run_uptoN (g:=g) (n:=n) (cap:=n) 0 (by omega) (Nat.le_refl _) W
  have HS:=Lib.hid hs
  have HBx:=Lib.hid hb
  clear hs hb
  go_enter Tryz.func64,Tryz.ntmps64
  have hgI:(0:Int)≤(n:Int):=by omega
  go_wp2_with (at_builtin;refine wpList_append_grow0 rfl (.tmp 34) (.tmp 39) rfl g n (n+1) _ rfl rfl (by omega) (by omega) (by omega) ?_;intro c w2 hc1 hc2 hblk hgr;obtain ⟨w3,hcp,hb3,hg3⟩:=copy_one x (n+1) c w.heap.size b _ w2 hblk (by rw [List.length_replicate];omega) (by omega) (HBx.out.grown hgr (by simp));have s2:=fun W=>run_from0 (g:=w.heap.size) (n:=n+1) (cap:=c) hc1 W;have HB2:Hid (Below w.heap.size w w2):=Lib.hid ((Below.refl _ _).grown hgr (Nat.le_refl _) (by simp)))
  have HS3:Hid (OwnI w3 g n n R):=Lib.hid ((HS.out.below HB2.out).gr hg3 (by omega))
  have HG3:=Lib.hid hb3
  have HB3:Hid (Below w.heap.size w w3):=Lib.hid (HB2.out.trans (hg3.below HB2.out.size (Nat.le_refl _)))
  have s3:∀ W,(sliceI (.slice (some ⟨w.heap.size,0,none⟩) (n+1) c) (some (.int .i64 1)) none none).run Tryz.prog W=.ok (.slice (some ⟨w.heap.size,1,none⟩) n (c-1)) W:=fun W=>by
   have:=run_fromB (g:=w.heap.size) (n:=n+1) (cap:=c) 1 (by omega) (by omega) hc1 W
   simpa using this
  have hRl:=HS3.out.length
  have F1:Hid ((i64s R).length=Nat.min n n):=Lib.hid (by rw [i64s_length,hRl];exact (Nat.min_self n).symm)
  have F2:CSrc w3 (i64s R) (some ⟨w.heap.size,1,none⟩) w.heap.size 1 (some ⟨g,0,none⟩):=fun _=>⟨rfl,_,rfl,fun j v hj=>by
   have hj2:=(List.getElem?_eq_some_iff.1 hj).1
   rw [i64s_length,hRl] at hj2
   rw [add_none,Nat.zero_add,HS3.out.cell hj2,← hj,i64s_get _ _ (by rw [hRl];exact hj2)]⟩
  have F3:Hid (1+(i64s R).length≤(i64s ((List.replicate c (0:Int)).set 0 x)).length):=Lib.hid (by rw [i64s_length,i64s_length,List.length_set,List.length_replicate,hRl];omega)
  have F4:Hid (∀ v∈i64s R,v.oneCell'=true):=Lib.hid (i64s_one _)
  clear hblk hgr hb3 hg3 HS
  go_wp2_with fail
  clear hcp s2
  have hw1:IntKind.i64.wrap 1=1:=by decide +kernel
  go_region_law (refine step_copy_splice rfl (.tmp 50) (.tmp 53) 88 88 rfl 3 Tryz.underlying88 sizeI (some ⟨w.heap.size,1,none⟩) (some ⟨g,0,none⟩) n (c-1) n n (by simp [Act.eval,Act.put]) (by simp [Act.eval,Act.put]) w.heap.size 1 _ 3 HG3.out (i64s R) F1.out F2 F3.out F4.out w.heap.size w HB3.out.drew (Nat.le_refl _) ?_;intro w4 hG4 hB4)
  have HW:Hid (IsInts w4 (.slice (some ⟨w.heap.size,0,none⟩) (n+1) c) (x::R)):=Lib.hid (by
   have:=hG4.out
   rw [ins_splice (by omega)] at this
   refine .inr ⟨⟨w.heap.size,0,none⟩,c,by simp [hRl],by simp [hRl];exact hc1,hc2,fun i u hu=>?_⟩
   have hi:=(List.getElem?_eq_some_iff.1 hu).1
   rw [add_none,Nat.zero_add]
   refine Blk.cell (c:=i64s (x::R++List.replicate (c-(R.length+1)) 0)) this ?_
   rw [i64s_append,List.getElem?_append_left hi]
   exact hu)
  have HF:=Lib.hid hB4
  clear F1 F2 F3 F4 hG4 hB4 s0 s1 s3 HS3 HG3 HB3 HB2 HBx
  go_wp2_with fail
  go_ret
  exact ⟨_,_,rfl,HW.out,⟨HF.out.os,HF.out.tape,HF.out.output,HF.out.size,fun k hk=>HF.out.block k (by omega)⟩⟩
end Go.Proofs.YtmjpnbadfmgimaaGreatDoor.S8
namespace Go.Proofs.YtmjpnbadfmgimaaGreatDoor.S8.Pl
def fwL (B O:List Nat):List Nat:=(O.filter (fun o=>o != 0)).map (fun o=>B.getD (o-1) 0)
def fwAt (O:List Nat):Nat:=O.idxOf 0
def lt2 (l:List Nat) (k j:Nat):Bool:=decide (l.getD j 0<l.getD k 0)||(decide (l.getD j 0=l.getD k 0)&&decide (j<k))
def lf (l:List Nat) (k:Nat):Nat:=1+cnt l.length (lt2 l k)
def plc (a r:Nat):Nat:=if a<r then r-1 else r
def wr (l:List Nat) (a:Nat):Nat→Nat
 | 0=>0
 | i+1=>lf l (plc a (wr l a i))
def okW (l:List Nat) (a:Nat):Bool:=(List.range l.length).all fun i=>wr l a i != a
def bk (l:List Nat) (a:Nat):List Nat:=(List.range l.length).map fun p=>l.getD (plc a (wr l a (l.length-1-p))) 0
theorem lt2_iff {l:List Nat} {k j:Nat}:lt2 l k j=true↔l.getD j 0<l.getD k 0∨(l.getD j 0=l.getD k 0∧j<k):=by unfold lt2;simp
theorem lt2_irrefl (l:List Nat) (k:Nat):lt2 l k k=false:=by unfold lt2;simp
theorem lf_range {l:List Nat} {k:Nat} (hk:k<l.length):1≤lf l k∧lf l k≤l.length:=by
 unfold lf
 have h1:=cnt_lt (n:=l.length) (p:=lt2 l k) (q:=fun _=>true) hk (lt2_irrefl l k) rfl fun _ _ _=>rfl
 rw [cnt_all (p:=fun _=>true) fun _ _=>rfl] at h1
 omega
theorem plc_lt {a r n:Nat} (ha:a≤n) (hr:r≤n) (hne:r≠a):plc a r<n:=by unfold plc;split <;> omega
def unp (a k:Nat):Nat:=if k<a then k else k+1
theorem plc_unp (a k:Nat):plc a (unp a k)=k:=by
 unfold plc unp
 split <;> split <;> omega
theorem unp_plc {a r:Nat} (h:r≠a):unp a (plc a r)=r:=by
 unfold plc unp
 split <;> split <;> omega
theorem unp_ne (a k:Nat):unp a k≠a:=by unfold unp;split <;> omega
theorem unp_le {a k n:Nat} (hk:k<n):unp a k≤n:=by unfold unp;split <;> omega
theorem okW_iff {l:List Nat} {a:Nat}:okW l a=true↔∀ i,i<l.length→wr l a i≠a:=by
 unfold okW
 rw [List.all_eq_true]
 simp
theorem bk_length (l:List Nat) (a:Nat):(bk l a).length=l.length:=by simp [bk]
theorem bk_get {l:List Nat} {a p:Nat} (hp:p<l.length):(bk l a).getD p 0=l.getD (plc a (wr l a (l.length-1-p))) 0:=by simp [bk,List.getD,hp]
theorem ord_get_zero (n:Nat) (R:List Nat):(n::R).getD 0 0=n:=rfl
section
variable {B R:List Nat}
theorem ord_le (h:IsSA B R) {r:Nat} (hr:r≤B.length):(B.length::R).getD r 0≤B.length:=by
 cases r with
 | zero=>exact Nat.le_refl _
 | succ r=>have:=sa_lt h (k:=r) (by rw [sa_length h];omega);show R.getD r 0≤_;omega
theorem ord_lt (h:IsSA B R) {r s:Nat} (hrs:r<s) (hs:s≤B.length):sufB B ((B.length::R).getD r 0) ((B.length::R).getD s 0)=true:=by
 obtain ⟨s,rfl⟩:∃ t,s=t+1:=⟨s-1,by omega⟩
 have hsl:=sa_lt h (k:=s) (by rw [sa_length h];omega)
 cases r with
 | zero=>exact suf_in (Nat.le_refl _) hsl
 | succ r=>exact pair_at h.1 0 (by omega:r<s) (by rw [sa_length h];omega)
theorem ord_inj (h:IsSA B R) {r s:Nat} (hr:r≤B.length) (hs:s≤B.length) (e:(B.length::R).getD r 0=(B.length::R).getD s 0):r=s:=by
 apply Classical.byContradiction
 intro hne
 rcases Nat.lt_or_gt_of_ne hne with h1 | h1
 ·have:=ord_lt h h1 hs;rw [e,suf_irrefl] at this;simp at this
 ·have:=ord_lt h h1 hr;rw [e,suf_irrefl] at this;simp at this
theorem ord_of_lt (h:IsSA B R) {r s:Nat} (hr:r≤B.length) (hs:s≤B.length) (hb:sufB B ((B.length::R).getD r 0) ((B.length::R).getD s 0)=true):r<s:=by
 apply Classical.byContradiction
 intro hne
 by_cases e:r=s
 ·subst e;rw [suf_irrefl] at hb;simp at hb
 ·have:=ord_lt h (by omega:s<r) hr;rw [suf_asymm this] at hb;simp at hb
theorem ord_idx (h:IsSA B R) {p:Nat} (hp:p≤B.length):∃ r,r≤B.length∧(B.length::R).getD r 0=p:=by
 by_cases e:p=B.length
 ·exact ⟨0,by omega,e.symm⟩
 ·obtain ⟨k,hk,he⟩:=sa_idx h (i:=p) (by omega)
  rw [sa_length h] at hk
  exact ⟨k+1,by omega,he⟩
end
theorem filt_erase:∀ (O:List Nat) (a:Nat),a<O.length→(∀ r,r<O.length→(O.getD r 0=0↔r=a))→O.filter (fun o=>o != 0)=O.eraseIdx a:=by
 intro O
 induction O with
 | nil=>intro a ha;simp at ha
 | cons x O ih=>
   intro a ha h
   cases a with
   | zero=>
     have h0:x=0:=by have:=(h 0 (by simp)).2 rfl;simpa using this
     subst h0
     have hrest:∀ o∈O,(o != 0)=true:=fun o ho=>by
      obtain ⟨i,hi,rfl⟩:=List.mem_iff_getElem.1 ho
      have:=h (i+1) (by simp;omega)
      rw [bne_iff_ne]
      intro e
      have h2:(0::O).getD (i+1) 0=O[i]:=by simp [List.getD,hi]
      rw [h2] at this
      have:=this.1 e
      omega
     rw [List.filter_cons]
     simp [List.filter_eq_self.2 hrest]
   | succ a=>
     have h0:x≠0:=fun e=>by
      have:=(h 0 (by simp)).1 (by simpa using e)
      omega
     have hb:(x != 0)=true:=by rw [bne_iff_ne];exact h0
     rw [List.filter_cons,if_pos hb,List.eraseIdx_cons_succ,ih a (by simpa using ha) fun r hr=>by
      have:=h (r+1) (by simp;omega)
      have h2:(x::O).getD (r+1) 0=O.getD r 0:=by simp [List.getD]
      rw [h2] at this
      omega]
section
variable {B R:List Nat}
theorem at_ex (h:IsSA B R):∃ a,a≤B.length∧(B.length::R).getD a 0=0∧fwAt (B.length::R)=a:=by
 obtain ⟨a,ha,he⟩:=ord_idx h (p:=0) (by omega)
 refine ⟨a,ha,he,?_⟩
 have hl:(B.length::R).length=B.length+1:=by simp [sa_length h]
 have hm:0∈(B.length::R):=by rw [← he];exact getD_mem _ 0 (by rw [hl];omega)
 have h1:=List.idxOf_lt_length_iff.2 hm
 have h2:=List.getElem_idxOf h1
 rw [← getD_get _ 0 h1] at h2
 unfold fwAt
 rw [hl] at h1
 exact ord_inj h (by omega) ha (by rw [h2,he])
theorem fw_length (h:IsSA B R):(fwL B (B.length::R)).length=B.length:=by
 obtain ⟨a,ha,he,_⟩:=at_ex h
 have hl:(B.length::R).length=B.length+1:=by simp [sa_length h]
 unfold fwL
 rw [List.length_map,filt_erase _ a (by rw [hl];omega) fun r hr=>⟨fun e=>ord_inj h (by omega) ha (by rw [e,he]),fun e=>by rw [e];exact he⟩,List.length_eraseIdx_of_lt (by rw [hl];omega),hl]
 omega
theorem fw_get (h:IsSA B R) {a r:Nat} (ha:a≤B.length) (he:(B.length::R).getD a 0=0) (hr:r≤B.length) (hne:r≠a):(fwL B (B.length::R)).getD (plc a r) 0=B.getD ((B.length::R).getD r 0-1) 0:=by
 have hl:(B.length::R).length=B.length+1:=by simp [sa_length h]
 have hp:=plc_lt ha hr hne
 have hf:=filt_erase (B.length::R) a (by rw [hl];omega) fun r hr=>⟨fun e=>ord_inj h (by omega) ha (by rw [e,he]),fun e=>by rw [e];exact he⟩
 have e2:(fwL B (B.length::R))=((B.length::R).eraseIdx a).map (fun o=>B.getD (o-1) 0):=by unfold fwL;rw [hf]
 have hel:((B.length::R).eraseIdx a).length=B.length:=by rw [List.length_eraseIdx_of_lt (by rw [hl];omega),hl];omega
 have e3:((B.length::R).eraseIdx a).getD (plc a r) 0=(B.length::R).getD r 0:=by
  rw [getD_get _ 0 (by rw [hel];exact hp),getD_get _ 0 (by rw [hl];omega),List.getElem_eraseIdx]
  unfold plc
  split <;> split <;> first | omega | rfl | (congr 1;omega)
 rw [e2,getD_get _ 0 (by rw [List.length_map,hel];exact hp),List.getElem_map,← getD_get _ 0 (by rw [hel];exact hp),e3]
theorem pickf {p:Nat→Nat→Prop} (h:∀ k,∃ y,p k y):∃ f:Nat→Nat,∀ k,p k (f k):=⟨fun k=>Classical.choose (h k),fun k=>Classical.choose_spec (h k)⟩
theorem cnt_below {n:Nat} {f:Nat→Nat} (hf:∀ i,i<n→f i<n) (hi:∀ i j,i<n→j<n→f i=f j→i=j):∀ m,m≤n→cnt n (fun j=>decide (f j<m))=m:=by
 intro m
 induction m with
 | zero=>intro _;exact cnt_zero fun i _=>by simp
 | succ m ih=>
   intro hm
   obtain ⟨i,hin,he⟩:=inj_onto hf hi m (by omega)
   rw [cnt_more (q:=fun j=>decide (f j<m)) hin (by simp [he]) (by simp [he]) fun j hj hne=>?_,ih (by omega)]
   have:f j≠m:=fun e=>hne (hi j i hj hin (by rw [e,he]))
   rw [decide_eq_decide]
   omega
theorem lf_ord (h:IsSA B R) {a:Nat} (ha:a≤B.length) (he:(B.length::R).getD a 0=0) {l:List Nat} (hl:fwL B (B.length::R)=l) {r:Nat} (hr:r≤B.length) (hne:r≠a):
  (B.length::R).getD (lf l (plc a r)) 0=(B.length::R).getD r 0-1:=by
 have hll:l.length=B.length:=by rw [← hl];exact fw_length h
 obtain ⟨g,hg⟩:∃ g:Nat→Nat,∀ k,k<B.length→g k+1≤B.length∧(B.length::R).getD (g k+1) 0=(B.length::R).getD (unp a k) 0-1:=by
  refine pickf (p:=fun k y=>k<B.length→y+1≤B.length∧(B.length::R).getD (y+1) 0=(B.length::R).getD (unp a k) 0-1) fun k=>?_
  by_cases hk:k<B.length
  ·have hu:=ord_le h (unp_le (a:=a) hk)
   have h0:(B.length::R).getD (unp a k) 0≠0:=fun e=>unp_ne a k (ord_inj h (unp_le hk) ha (by rw [e,he]))
   obtain ⟨q,hq,hqe⟩:=ord_idx h (p:=(B.length::R).getD (unp a k) 0-1) (by omega)
   have hq0:q≠0:=fun e=>by subst e;rw [ord_get_zero] at hqe;omega
   exact ⟨q-1,fun _=>⟨by omega,by rw [show q-1+1=q by omega];exact hqe⟩⟩
  ·exact ⟨0,fun hh=>absurd hh hk⟩
 have hlet:∀ k,k<B.length→l.getD k 0=B.getD ((B.length::R).getD (unp a k) 0-1) 0:=fun k hk=>by
  have:=fw_get h ha he (unp_le (a:=a) hk) (unp_ne a k)
  rw [plc_unp,hl] at this
  exact this
 have hpos:∀ k,k<B.length→0<(B.length::R).getD (unp a k) 0∧(B.length::R).getD (unp a k) 0≤B.length:=fun k hk=>by
  have h1:=ord_le h (unp_le (a:=a) hk)
  have h0:(B.length::R).getD (unp a k) 0≠0:=fun e=>unp_ne a k (ord_inj h (unp_le hk) ha (by rw [e,he]))
  omega
 have hmono:∀ j k,j<B.length→k<B.length→lt2 l k j=true→g j<g k:=fun j k hj hk hlt=>by
  have h1:=hg j hj
  have h2:=hg k hk
  have p1:=hpos j hj
  have p2:=hpos k hk
  have:g j+1<g k+1:=by
   refine ord_of_lt h h1.1 h2.1 ?_
   rw [h1.2,h2.2]
   rw [lt2_iff,hlet j hj,hlet k hk] at hlt
   rcases hlt with hlt | ⟨heq,hjk⟩
   ·exact suf_lt (by omega) (by omega) hlt
   ·rw [suf_same (by omega) (by omega) heq,Nat.sub_add_cancel p1.1,Nat.sub_add_cancel p2.1]
    refine ord_lt h ?_ (unp_le hk)
    unfold unp
    split <;> split <;> omega
  omega
 have hinj:∀ j k,j<B.length→k<B.length→g j=g k→j=k:=fun j k hj hk e=>by
  apply Classical.byContradiction
  intro hne
  have:lt2 l k j=true∨lt2 l j k=true:=by rw [lt2_iff,lt2_iff];omega
  rcases this with h1 | h1
  ·have:=hmono j k hj hk h1;omega
  ·have:=hmono k j hk hj h1;omega
 have hk:=plc_lt ha hr hne
 have hc:=cnt_below (n:=B.length) (f:=g) (fun i hi=>by have:=hg i hi;omega) hinj (g (plc a r)) (by have:=hg _ hk;omega)
 have hcc:cnt B.length (lt2 l (plc a r))=cnt B.length (fun j=>decide (g j<g (plc a r))):=cnt_congr fun j hj=>by
  rw [Bool.eq_iff_iff,decide_eq_true_eq]
  refine ⟨hmono j _ hj hk,fun hlt=>?_⟩
  apply Classical.byContradiction
  intro hn
  have hne2:j≠plc a r:=fun e=>by subst e;omega
  have:lt2 l j (plc a r)=true:=by rw [lt2_iff] at *;omega
  have:=hmono _ j hk hj this
  omega
 unfold lf
 rw [hll,hcc,hc,Nat.add_comm,(hg _ hk).2,unp_plc hne]
theorem fw_walk (h:IsSA B R) {a:Nat} (ha:a≤B.length) (he:(B.length::R).getD a 0=0) {l:List Nat} (hl:fwL B (B.length::R)=l):∀ i,i≤B.length→wr l a i≤B.length∧(B.length::R).getD (wr l a i) 0=B.length-i:=by
 have hll:l.length=B.length:=by rw [← hl];exact fw_length h
 intro i
 induction i with
 | zero=>intro _;exact ⟨by unfold wr;omega,rfl⟩
 | succ i ih=>
   intro hi
   obtain ⟨h1,h2⟩:=ih (by omega)
   have hne:wr l a i≠a:=fun e=>by rw [e,he] at h2;omega
   have h3:=lf_ord h ha he hl h1 hne
   have h4:=lf_range (l:=l) (k:=plc a (wr l a i)) (by rw [hll];exact plc_lt ha h1 hne)
   unfold wr
   exact ⟨by omega,by rw [h3,h2];omega⟩
theorem fw_ok (h:IsSA B R) {l:List Nat} {a:Nat} (hl:fwL B (B.length::R)=l) (hat:fwAt (B.length::R)=a):a≤l.length∧okW l a=true∧bk l a=B:=by
 obtain ⟨a',ha,he,hat'⟩:=at_ex h
 obtain rfl:a'=a:=by rw [← hat,← hat']
 have hll:l.length=B.length:=by rw [← hl];exact fw_length h
 have hw:=fw_walk h ha he hl
 have hne:∀ i,i<B.length→wr l a' i≠a':=fun i hi e=>by
  have:=(hw i (by omega)).2
  rw [e,he] at this
  omega
 refine ⟨by omega,okW_iff.2 fun i hi=>hne i (by omega),?_⟩
 refine List.ext_getElem (by rw [bk_length,hll]) fun p h1 h2=>?_
 rw [← getD_get _ 0 h1,← getD_get _ 0 h2,bk_get (by omega)]
 have h3:=hw (l.length-1-p) (by omega)
 have h4:=fw_get h ha he h3.1 (hne _ (by omega))
 rw [hl] at h4
 rw [h4,h3.2]
 congr 1
 omega
end
section
variable {l:List Nat} {a:Nat}
end
end Go.Proofs.YtmjpnbadfmgimaaGreatDoor.S8.Pl
namespace Go.Proofs.YtmjpnbadfmgimaaGreatDoor.S8.Pl
def cN (l:List Nat) (i x:Nat):Nat:=cnt i fun j=>decide (l.getD j 0=x)
def stN (l:List Nat) (x:Nat):Nat:=1+cnt l.length fun j=>decide (l.getD j 0<x)
theorem cN_same (l:List Nat) (i:Nat):cN l (i+1) (l.getD i 0)=cN l i (l.getD i 0)+1:=by
 show cnt i _+(decide (l.getD i 0=l.getD i 0)).toNat=_
 simp [cN]
theorem cN_other (l:List Nat) {i x:Nat} (h:x≠l.getD i 0):cN l (i+1) x=cN l i x:=by
 show cnt i _+(decide (l.getD i 0=x)).toNat=_
 have:decide (l.getD i 0=x)=false:=by simpa using fun e:l.getD i 0=x=>h e.symm
 rw [this]
 simp [cN]
theorem cN_le (l:List Nat) (i x:Nat):cN l i x≤i:=cnt_le _ _
theorem stN_zero (l:List Nat):stN l 0=1:=by unfold stN;rw [cnt_zero fun i _=>by simp]
theorem stN_succ (l:List Nat) (x:Nat):stN l (x+1)=stN l x+cN l l.length x:=by
 unfold stN cN
 rw [cnt_or (n:=l.length) (p:=fun j=>decide (l.getD j 0<x+1)) (q:=fun j=>decide (l.getD j 0<x)) (r:=fun j=>decide (l.getD j 0=x))]
 ·omega
 ·intro i _
  rw [Bool.eq_iff_iff]
  simp
  omega
 ·intro i _ h
  simp at h
  simp
  omega
theorem stN_le (l:List Nat) (x:Nat):stN l x≤l.length+1:=by unfold stN;have:=cnt_le l.length fun j=>decide (l.getD j 0<x);omega
theorem cnt_front {n k:Nat} {p:Nat→Bool} (hk:k≤n) (h:∀ i,k≤i→i<n→p i=false):cnt n p=cnt k p:=by
 induction n with
 | zero=>rw [show k=0 by omega]
 | succ n ih=>
   by_cases e:k=n+1
   ·rw [e]
   ·show cnt n p+(p n).toNat=_
    rw [h n (by omega) (by omega),ih (by omega) fun i h1 h2=>h i h1 (by omega)]
    rfl
theorem lf_split {l:List Nat} {k:Nat} (hk:k<l.length):lf l k=stN l (l.getD k 0)+cN l k (l.getD k 0):=by
 unfold lf stN cN
 have h1:=cnt_or (n:=l.length) (p:=lt2 l k) (q:=fun j=>decide (l.getD j 0<l.getD k 0)) (r:=fun j=>decide (l.getD j 0=l.getD k 0)&&decide (j<k)) (fun i _=>rfl) fun i _ h=>by
  simp at h
  simp
  omega
 have h2:=cnt_front (n:=l.length) (k:=k) (p:=fun j=>decide (l.getD j 0=l.getD k 0)&&decide (j<k)) (by omega) fun i h _=>by simp;omega
 have h3:=cnt_congr (n:=k) (p:=fun j=>decide (l.getD j 0=l.getD k 0)&&decide (j<k)) (q:=fun j=>decide (l.getD j 0=l.getD k 0)) fun i h=>by simp [h]
 omega
end Go.Proofs.YtmjpnbadfmgimaaGreatDoor.S8.Pl
namespace Go.Proofs.YtmjpnbadfmgimaaGreatDoor.S8
open Go.RowKit _root_.Go.Proofs.YtmjpnbadfmgimaaGreatDoor.Pl _root_.Go.Proofs.YtmjpnbadfmgimaaGreatDoor.S8.Pl
attribute [local go_sem ↓] loadArr_eq allocArr_eq idxArr_eq
attribute [local go_sem] run_allocArr
theorem longer_any (v:Value) (B:List Nat) (w:World) (hv:IsBytes w v B) (N:Nat) (hN:B.length=N) (hB:N≤1000000):
  Calls Tryz.prog 138 #[v] w fun e w'=>∃ g,e=.returned (.slice (some ⟨g,0,none⟩) N N)∧w.heap.size≤g∧Blk w' g 3 (i64s (fnL N (lf B)))∧Below w.heap.size w w':=by
 obtain ⟨a,cap,rfl,hcap,hmax⟩:=hv.slice
 have HX:=Lib.hid hv.1
 rw [hN] at hv hcap ⊢
 have HV:=Lib.hid hv
 have HN:=Lib.hid hN
 clear hv hN
 obtain ⟨i0,hi,hz0,hz1,hz2⟩:=infoI_parts infoI
 have Hi:=Lib.hid hi
 have Hz0:=Lib.hid hz0
 have Hz1:=Lib.hid hz1
 have Hz2:=Lib.hid hz2
 clear hi hz0 hz1 hz2
 go_enter Tryz.func138,Tryz.ntmps138
 go_wp2_with fail
 have HA0:=Lib.hid (arr_new w)
 have HB0:Hid (Below w.heap.size w (w.alloc (.cells zArr.toArray 204))):=Lib.hid ((Below.refl _ _).alloc (Nat.le_refl _) _)
 go_loopw [15] (fun x wr=>∃ i:Nat,i≤N∧x=.int .i64 i∧Blk wr w.heap.size 204 (i64s (fnL 256 (cN B i)))∧Below w.heap.size w wr) (fun x _=>N-(intOf x).toNat)
 case atStart=>exact ⟨0,by omega,rfl,HA0.out,HB0.out⟩
 case round=>
  obtain ⟨i,hi,rfl,hb,hbe⟩:=hrel
  have HK:=Lib.hid hb
  have HB:=Lib.hid hbe
  clear hb hbe HA0 HB0
  by_cases hlt:i<N
  ·obtain ⟨b1,o1,q1,e1,-,-,-,hx1⟩:=(HV.out.below HB.out).cells (by rw [HN.out];omega)
   simp only [Value.slice.injEq,Option.some.injEq] at e1
   obtain ⟨rfl,-,rfl⟩:=e1
   have d1:=hx1 i (by rw [HN.out];exact hlt)
   have hx:=getD_lt HX.out i
   have HS:=Lib.hid (cN_same B i)
   have HO:=Lib.hid (fun x=>@cN_other B i x)
   generalize B.getD i 0=x at*
   have c0:=HK.out.cell (i64s_get (fnL 256 (cN B i)) x (by rw [fnL_length];exact hx))
   rw [fnL_get _ hx] at c0
   have f0:=HK.out.frozen x
   have hcl:=cN_le B i x
   have hset:=HK.out.set x (.int .i64 ((cN B i x:Int)+1))
   rw [i64s_setA,fnL_set (g:=cN B (i+1)) (fun _=>by rw [HS.out];omega) (fun y _ hne=>HO.out y hne)] at hset
   have HSET:=Lib.hid hset
   have HBS:=Lib.hid (HB.out.setCell (p:=⟨w.heap.size,x,none⟩) (by simp) (.int .i64 ((cN B i x:Int)+1)))
   generalize cN B i x=c at*
   clear hx1 hset
   go_wp2_with fail
   go_roundw
   case rel=>exact ⟨i+1,by omega,by go_num,HSET.out,HBS.out⟩
   case measure=>simp [intOf];omega
  ·obtain rfl:i=N:=by omega
   obtain ⟨wo,hwo⟩:∃ wo:World,wo=wr:=⟨_,rfl⟩
   subst hwo
   have hl0:=HK.out.lt
   obtain ⟨K,hK⟩:∃ K,K=fnL 256 (cN B i):=⟨_,rfl⟩
   rw [← hK] at HK
   have HKL:Hid (K.length=256):=Lib.hid (by rw [hK,fnL_length])
   have HKG:Hid (∀ x,x<256→K.getD x 0=(cN B i x:Int)):=Lib.hid fun x h=>by rw [hK,fnL_get _ h]
   clear hK
   have hload:=run_loadArr (HK.out.alloc (.cells zArr.toArray 204)) HKL.out
   have HA1:Hid (Blk (wo.alloc (.cells zArr.toArray 204)) wo.heap.size 204 (i64s (fnL 256 fun y=>if y<0 then stN B y else 0))):=Lib.hid (arr_new wo)
   have HB1:Hid (Below w.heap.size w (wo.alloc (.cells zArr.toArray 204))):=Lib.hid (HB.out.alloc (by omega) _)
   clear HK
   go_wp2_with fail
   clear hload
   go_loopw [7,26] (fun f x wr=>∃ k:Nat,k≤256∧x=.int .i64 k∧f=.int .i64 (stN B k)∧Blk wr wo.heap.size 204 (i64s (fnL 256 fun y=>if y<k then stN B y else 0))∧Below w.heap.size w wr) (fun _ x _=>256-(intOf x).toNat)
   case atStart=>exact ⟨0,by omega,rfl,by rw [stN_zero];rfl,HA1.out,HB1.out⟩
   case round=>
    obtain ⟨k,hk,rfl,rfl,hb,hbe⟩:=hrel
    have HK:=Lib.hid hb
    have HB2:=Lib.hid hbe
    clear hb hbe HA1 HB1
    by_cases hlt2:k<256
    ·have hix:=fun w=>run_idxArr w HKL.out hlt2
     rw [HKG.out k hlt2] at hix
     have HS:Hid (stN B (k+1)=stN B k+cN B i k):=Lib.hid (by rw [stN_succ,HN.out])
     have hs1:=stN_le B k
     have hs2:=cN_le B i k
     rw [HN.out] at hs1
     have c0:=HK.out.cell (i64s_get (fnL 256 fun y=>if y<k then stN B y else 0) k (by rw [fnL_length];exact hlt2))
     have f0:=HK.out.frozen k
     have hset:=HK.out.set k (.int .i64 (stN B k:Int))
     rw [i64s_setA,fnL_set (g:=fun y=>if y<k+1 then stN B y else 0) (fun _=>by rw [if_pos (by omega)]) (fun y _ hne=>by
      by_cases e:y<k
      ·rw [if_pos e,if_pos (by omega)]
      ·rw [if_neg e,if_neg (by omega)])] at hset
     have HSET:=Lib.hid hset
     have HBS:=Lib.hid (HB2.out.setCell (p:=⟨wo.heap.size,k,none⟩) (by simp;omega) (.int .i64 (stN B k:Int)))
     generalize (fnL 256 fun y=>if y<k then stN B y else 0).getD k 0=z at*
     generalize stN B k=s at*
     generalize cN B i k=c at*
     clear hset
     go_wp2_with fail
     go_roundw
     case rel=>exact ⟨k+1,by omega,by go_num,by rw [HS.out];go_num,HSET.out,HBS.out⟩
     case measure=>simp [intOf];omega
    ·have hk256:k=256:=by omega
     obtain ⟨wp,hwp⟩:∃ wp:World,wp=wr:=⟨_,rfl⟩
     subst hwp
     have HK2:Hid (Blk wp wo.heap.size 204 (i64s (fnL 256 fun y=>stN B y+cN B 0 y))):=Lib.hid (by
      have:=HK.out
      rw [fnL_congr (g:=fun y=>stN B y+cN B 0 y) fun y hy=>by rw [if_pos (by omega)];rfl] at this
      exact this)
     have hl1:=HK.out.lt
     clear HK
     go_wp2_with (at_make;refine wpList_make_full _ rfl _ _ 88 rfl wp.heap.size 3 i0 (.int .i64 0) 1 Tryz.underlying88 Hi.out Hz0.out Hz1.out .i64 .i64 _ _ i rfl rfl (by first | rfl | (simp;done) | omega) (by first | rfl | (simp;done) | omega) (by rw [Hz2.out];omega) (by unfold maxLen;omega) (Nat.le_refl _) ?_;intro w4 hown hgr)
     have HG4:Hid (Blk w4 wp.heap.size 3 (i64s (fnL i fun j=>if j<0 then lf B j else 0))):=Lib.hid (made_ints hown)
     have HB4:Hid (Below w.heap.size w w4):=Lib.hid (HB2.out.grown hgr HB2.out.size (by simp))
     have HK4:Hid (Blk w4 wo.heap.size 204 (i64s (fnL 256 fun y=>stN B y+cN B 0 y))):=Lib.hid (HK2.out.grown hgr (by simp))
     have hsz:=HB2.out.size
     clear hown hgr HK2 HB2
     go_wp2_with fail
     go_loopw [42] (fun x wr=>∃ j:Nat,j≤i∧x=.int .i64 j∧Blk wr wp.heap.size 3 (i64s (fnL i fun y=>if y<j then lf B y else 0))∧Blk wr wo.heap.size 204 (i64s (fnL 256 fun y=>stN B y+cN B j y))∧Below w.heap.size w wr) (fun x _=>i-(intOf x).toNat)
     case atStart=>exact ⟨0,by omega,rfl,HG4.out,HK4.out,HB4.out⟩
     case round=>
      obtain ⟨j,hj,rfl,hb,hb2,hbe⟩:=hrel
      have HG:=Lib.hid hb
      have HK:=Lib.hid hb2
      have HB5:=Lib.hid hbe
      clear hb hb2 hbe HG4 HK4 HB4
      by_cases hlt3:j<i
      ·obtain ⟨b1,o1,q1,e1,-,-,-,hx1⟩:=(HV.out.below HB5.out).cells (by rw [HN.out];omega)
       simp only [Value.slice.injEq,Option.some.injEq] at e1
       obtain ⟨rfl,-,rfl⟩:=e1
       have d1:=hx1 j (by rw [HN.out];exact hlt3)
       have hx:=getD_lt HX.out j
       have HS:=Lib.hid (cN_same B j)
       have HO:=Lib.hid (fun x=>@cN_other B j x)
       have hsp:=lf_split (l:=B) (k:=j) (by rw [HN.out];exact hlt3)
       generalize B.getD j 0=x at*
       have c0:=HK.out.cell (i64s_get (fnL 256 fun y=>stN B y+cN B j y) x (by rw [fnL_length];exact hx))
       rw [fnL_get _ hx,← hsp] at c0
       have f0:=HK.out.frozen x
       have c1:=HG.out.cell (i64s_get (fnL i fun y=>if y<j then lf B y else 0) j (by rw [fnL_length];exact hlt3))
       have f1:=HG.out.frozen j
       have hlr:=(lf_range (l:=B) (k:=j) (by rw [HN.out];exact hlt3)).2
       rw [HN.out] at hlr
       have hne:wp.heap.size≠wo.heap.size:=by omega
       have hset:=(HG.out.set j (.int .i64 (lf B j:Int))).setOther (p:=⟨wo.heap.size,x,none⟩) hne (.int .i64 ((lf B j:Int)+1))
       rw [i64s_setA,fnL_set (g:=fun y=>if y<j+1 then lf B y else 0) (fun _=>by rw [if_pos (by omega)]) (fun y _ hne=>by
        by_cases e:y<j
        ·rw [if_pos e,if_pos (by omega)]
        ·rw [if_neg e,if_neg (by omega)])] at hset
       have hset2:=(HK.out.setOther (p:=⟨wp.heap.size,j,none⟩) (fun e=>hne e.symm) (.int .i64 (lf B j:Int))).set x (.int .i64 ((lf B j:Int)+1))
       rw [i64s_setA,fnL_set (g:=fun y=>stN B y+cN B (j+1) y) (fun _=>by rw [HS.out,hsp];omega) (fun y _ hne=>by rw [HO.out y hne])] at hset2
       have HSET:=Lib.hid hset
       have HSET2:=Lib.hid hset2
       have HBS:=Lib.hid ((HB5.out.setCell (p:=⟨wp.heap.size,j,none⟩) (by simp;omega) (.int .i64 (lf B j:Int))).setCell (p:=⟨wo.heap.size,x,none⟩) (by simp;omega) (.int .i64 ((lf B j:Int)+1)))
       generalize (fnL i fun y=>if y<j then lf B y else 0).getD j 0=z at*
       generalize lf B j=f at*
       clear hx1 hset hset2 hsp
       go_wp2_with fail
       go_roundw
       case rel=>exact ⟨j+1,by omega,by go_num,HSET.out,HSET2.out,HBS.out⟩
       case measure=>simp [intOf];omega
      ·obtain rfl:j=i:=by omega
       have HG5:Hid (Blk wr wp.heap.size 3 (i64s (fnL j (lf B)))):=Lib.hid (by
        have:=HG.out
        rw [fnL_congr (g:=lf B) fun y hy=>if_pos hy] at this
        exact this)
       clear HG HK
       go_wp2_with fail
       go_ret
       exact ⟨_,rfl,hsz,HG5.out,HB5.out⟩
end Go.Proofs.YtmjpnbadfmgimaaGreatDoor.S8
namespace Go.Proofs.YtmjpnbadfmgimaaGreatDoor.S8
open Go.RowKit _root_.Go.Proofs.YtmjpnbadfmgimaaGreatDoor.Pl _root_.Go.Proofs.YtmjpnbadfmgimaaGreatDoor.S8.Pl
namespace Pl
def fnN (n:Nat) (f:Nat→Nat):List Nat:=(List.range n).map f
theorem fnN_length (n:Nat) (f:Nat→Nat):(fnN n f).length=n:=by simp [fnN]
theorem fnN_congr {n:Nat} {f g:Nat→Nat} (h:∀ x,x<n→f x=g x):fnN n f=fnN n g:=by
 unfold fnN
 exact List.map_congr_left fun x hx=>by rw [h x (List.mem_range.1 hx)]
theorem fnN_set {n:Nat} {f g:Nat→Nat} {x v:Nat} (hv:x<n→v=g x) (h:∀ y,y<n→y≠x→g y=f y):(fnN n f).set x v=fnN n g:=by
 refine List.ext_getElem (by simp [fnN]) fun i h1 h2=>?_
 rw [fnN_length] at h2
 rw [List.getElem_set]
 simp only [fnN,List.getElem_map,List.getElem_range]
 split
 ·rename_i e;subst e;exact hv h2
 ·rename_i e;rw [h i h2 (fun q=>e q.symm)]
theorem fnN_zero (n:Nat):fnN n (fun _=>0)=List.replicate n 0:=by
 refine List.ext_getElem (by simp [fnN]) fun i h1 h2=>?_
 simp [fnN]
theorem fnN_self (L:List Nat):fnN L.length (fun i=>L.getD i 0)=L:=by
 refine List.ext_getElem (by simp [fnN]) fun i h1 h2=>?_
 simp [fnN,h2]
theorem wr_leP {l:List Nat} {a:Nat} (ha:a≤l.length):∀ i,i≤l.length→(∀ j,j<i→wr l a j≠a)→wr l a i≤l.length:=by
 intro i
 induction i with
 | zero=>intro _ _;unfold wr;omega
 | succ i ih=>
   intro hi h
   exact (lf_range (plc_lt ha (ih (by omega) fun j hj=>h j (by omega)) (h i (by omega)))).2
def bkP (l:List Nat) (a i:Nat):List Nat:=fnN l.length fun p=>if l.length-i≤p then (bk l a).getD p 0 else 0
theorem bkP_length (l:List Nat) (a i:Nat):(bkP l a i).length=l.length:=fnN_length _ _
theorem bkP_zero (l:List Nat) (a:Nat):bkP l a 0=List.replicate l.length 0:=by
 rw [← fnN_zero]
 exact fnN_congr fun x hx=>if_neg (by omega)
theorem bkP_all (l:List Nat) (a:Nat):bkP l a l.length=bk l a:=by
 have h:=fnN_self (bk l a)
 rw [bk_length] at h
 unfold bkP
 rw [fnN_congr (g:=fun p=>(bk l a).getD p 0) fun x _=>if_pos (by omega)]
 exact h
theorem bkP_set {l:List Nat} {a i:Nat} (hi:i<l.length):(bkP l a i).set (l.length-1-i) (l.getD (plc a (wr l a i)) 0)=bkP l a (i+1):=by
 unfold bkP
 refine fnN_set (fun _=>?_) fun y hy hne=>?_
 ·rw [if_pos (by omega),bk_get (by omega),show l.length-1-(l.length-1-i)=i by omega]
 ·by_cases e:l.length-i≤y
  ·rw [if_pos e,if_pos (by omega)]
  ·rw [if_neg e,if_neg (by omega)]
end Pl
def BackPost (l:List Nat) (a N:Nat) (w:World) (e:Ending) (w':World):Prop:=
 Below w.heap.size w w'∧((okW l a=true∧∃ g,w.heap.size≤g∧e=.returned (.tuple #[.slice (some ⟨g,0,none⟩) N N,.int .i64 0])∧Blk w' g 5 (u8s (bk l a)))∨(okW l a=false∧e=.returned (.tuple #[.slice none 0 0,.int .i64 6])))
theorem back_out (v:Value) (l:List Nat) (a:Int) (w:World) (hv:IsBytes w v l) (ha:a<0∨(l.length:Int)<a):
  Calls Tryz.prog 108 #[v,.int .i64 a] w fun e w'=>e=.returned (.tuple #[.slice none 0 0,.int .i64 6])∧w=w':=by
 obtain ⟨b,cap,rfl,hcap,hmax⟩:=hv.slice
 clear hv
 generalize l.length=N at*
 have hways:a<0∨(¬ a<0∧(N:Int)<a):=by omega
 clear ha
 rcases hways with h1 | ⟨h1,h2⟩
 all_goals
  go_enter Tryz.func108,Tryz.ntmps108
  go_wp2_with fail
  go_ret2
  exact ⟨rfl,rfl⟩
attribute [local go_sem ↓] loadArr_eq allocArr_eq idxArr_eq
theorem back_any (v:Value) (l:List Nat) (a N:Nat) (w:World) (hv:IsBytes w v l) (hN:l.length=N) (hB:N≤1000000) (ha:a≤N):
  Calls Tryz.prog 108 #[v,.int .i64 a] w (BackPost l a N w):=by
 obtain ⟨ad,cap,rfl,hcap,hmax⟩:=hv.slice
 have hlong:=fun w' hb=>longer_any _ l w' (hv.below hb) N hN hB
 rw [hN] at hv hcap ⊢
 have HV:=Lib.hid hv
 have HN:=Lib.hid hN
 have HL:=Lib.hid (hlong w (Below.refl _ _))
 clear hv hN hlong
 have hn1:¬ (a:Int)<0:=by omega
 have hn2:¬ (N:Int)<(a:Int):=by omega
 obtain ⟨i0,hi,hz0,hz1,hz2⟩:=info_parts info5
 have Hi:=Lib.hid hi
 have Hz0:=Lib.hid hz0
 have Hz1:=Lib.hid hz1
 have Hz2:=Lib.hid hz2
 clear hi hz0 hz1 hz2
 go_enter Tryz.func108,Tryz.ntmps108
 go_wp2_with fail
 rw [HN.out] at HL
 refine HL.out.mono ?_
 rintro e w1 ⟨g,rfl,hg,hblk,hbe⟩
 have HG:=Lib.hid hblk
 have HB:=Lib.hid hbe
 clear hblk hbe HL
 have hlt1:=HG.out.lt
 go_wp2_with (at_make;refine wpList_make_full _ rfl _ _ 27 rfl w1.heap.size 5 i0 (.int .u8 0) 1 Tryz.underlying27 Hi.out Hz0.out Hz1.out .i64 .i64 _ _ N rfl rfl (by first | rfl | (simp;done) | omega) (by first | rfl | (simp;done) | omega) (by rw [Hz2.out];omega) (by unfold maxLen;omega) (Nat.le_refl _) ?_;intro w2 hown hgr)
 have HR2:Hid (Blk w2 w1.heap.size 5 (u8s (bkP l a 0))):=Lib.hid (by
  have:=made_blk hown
  rw [made_list] at this
  rw [bkP_zero,HN.out]
  simpa [u8s] using this)
 have HB2:Hid (Below w.heap.size w w2):=Lib.hid (HB.out.grown hgr HB.out.size (by simp))
 have HG2:Hid (Blk w2 g 3 (i64s (fnL N (lf l)))):=Lib.hid (HG.out.grown hgr (by simp))
 have hsz:=HB.out.size
 clear hown hgr HG HB
 go_wp2_with fail
 go_loopw [8,9] (fun r k wr=>∃ i:Nat,i≤N∧k=.int .i64 ((N:Int)-1-i)∧r=.int .i64 (Pl.wr l a i)∧(∀ j,j<i→Pl.wr l a j≠a)∧Blk wr w1.heap.size 5 (u8s (bkP l a i))∧Blk wr g 3 (i64s (fnL N (lf l)))∧Below w.heap.size w wr) (fun _ k _=>(intOf k+1).toNat)
 case atStart=>exact ⟨0,by omega,by simp,rfl,fun j hj=>by omega,HR2.out,HG2.out,HB2.out⟩
 case round=>
  obtain ⟨i,hi,rfl,rfl,hne,hb,hb2,hbe⟩:=hrel
  have HNE:=Lib.hid hne
  have HR:=Lib.hid hb
  have HG:=Lib.hid hb2
  have HB:=Lib.hid hbe
  have hrow:=wr_leP (l:=l) (a:=a) (by rw [HN.out];exact ha) i (by rw [HN.out];exact hi) hne
  rw [HN.out] at hrow
  clear hne hb hb2 hbe HR2 HG2 HB2
  by_cases hlt:i<N
  ·obtain ⟨k,hk⟩:∃ k,k=N-1-i:=⟨_,rfl⟩
   have hkI:(N:Int)-1-(i:Int)=(k:Int):=by omega
   rw [hkI]
   have HKN:Hid (k=N-1-i):=Lib.hid hk
   have hkN:k<N:=by omega
   have hk1:(k:Int)-1=(N:Int)-1-((i+1:Nat):Int):=by omega
   have HK1:=Lib.hid hk1
   clear hk hkI hk1
   by_cases hat:Pl.wr l a i=a
   ·have HBAD:Hid (okW l a=false):=Lib.hid (by
     cases h:okW l a with
     | false=>rfl
     | true=>exact absurd hat (okW_iff.1 h i (by rw [HN.out];exact hlt)))
    rw [hat]
    have heq:((a:Int)==(a:Int))=true:=beq_t rfl
    clear hat
    go_wp2_with fail
    go_ret2
    exact ⟨HB.out,.inr ⟨HBAD.out,rfl⟩⟩
   ·have hp:=plc_lt ha hrow hat
    obtain ⟨b1,o1,q1,e1,-,-,-,hx1⟩:=(HV.out.below HB.out).cells (by rw [HN.out];omega)
    simp only [Value.slice.injEq,Option.some.injEq] at e1
    obtain ⟨rfl,-,rfl⟩:=e1
    have d1:=hx1 (plc a (Pl.wr l a i)) (by rw [HN.out];exact hp)
    have c1:=HG.out.cell (i64s_get (fnL N (lf l)) (plc a (Pl.wr l a i)) (by rw [fnL_length];exact hp))
    rw [fnL_get _ hp] at c1
    have c0:=HR.out.cell (u8s_get (bkP l a i) k (by rw [bkP_length,HN.out];exact hkN))
    have f0:=HR.out.frozen k
    have hset:=HR.out.set k (.int .u8 (l.getD (plc a (Pl.wr l a i)) 0:Nat))
    rw [u8s_set] at hset
    have hst:=bkP_set (l:=l) (a:=a) (i:=i) (by rw [HN.out];exact hlt)
    rw [HN.out,← HKN.out] at hst
    rw [hst] at hset
    have HSET:=Lib.hid hset
    have HNX:Hid (Pl.wr l a (i+1)=lf l (plc a (Pl.wr l a i))):=Lib.hid rfl
    have HBS:=Lib.hid (HB.out.setCell (p:=⟨w1.heap.size,k,none⟩) (by simp;omega) (.int .u8 (l.getD (plc a (Pl.wr l a i)) 0:Nat)))
    have HGS:=Lib.hid (HG.out.setOther (p:=⟨w1.heap.size,k,none⟩) (by simp;omega) (.int .u8 (l.getD (plc a (Pl.wr l a i)) 0:Nat)))
    have hlr:=(lf_range (l:=l) (k:=plc a (Pl.wr l a i)) (by rw [HN.out];exact hp)).2
    rw [HN.out] at hlr
    have HNE2:Hid (∀ j,j<i+1→Pl.wr l a j≠a):=Lib.hid fun j hj=>by
     by_cases e:j=i
     ·subst e;exact hat
     ·exact HNE.out j (by omega)
    have hdef:plc a (Pl.wr l a i)=(if a<Pl.wr l a i then Pl.wr l a i-1 else Pl.wr l a i):=rfl
    generalize plc a (Pl.wr l a i)=q at*
    generalize Pl.wr l a i=r at*
    generalize l.getD q 0=x at*
    generalize lf l q=f at*
    generalize (bkP l a i).getD k 0=y at*
    have heq:((r:Int)==(a:Int))=false:=beq_f (by omega)
    clear hx1 hset hst
    have hways:(r<a∧q=r)∨(a<r∧r=q+1):=by
     by_cases e:a<r
     ·rw [if_pos e] at hdef;omega
     ·rw [if_neg e] at hdef;omega
    clear hdef
    rcases hways with ⟨h1,rfl⟩ | ⟨h1,h2⟩
    ·have hgt:¬ (a:Int)<(q:Int):=by omega
     go_wp2_with fail
     refine ⟨⟨i+1,by omega,by rw [HK1.out],by rw [HNX.out],HNE2.out,HSET.out,HGS.out,HBS.out⟩,?_⟩
     simp only [intOf_i];have:=HK1.out;omega
    ·have hgt:(a:Int)<(r:Int):=by omega
     have hq1:(r:Int)-1=(q:Int):=by omega
     have HH2:=Lib.hid h2
     clear h2
     go_wp2_with fail
     refine ⟨⟨i+1,by omega,by rw [HK1.out],by rw [HNX.out],HNE2.out,HSET.out,HGS.out,HBS.out⟩,?_⟩
     simp only [intOf_i];have:=HK1.out;omega
  ·obtain rfl:i=N:=by omega
   have hkI:(i:Int)-1-(i:Int)=-1:=by omega
   rw [hkI]
   have HOK:Hid (okW l a=true):=Lib.hid (okW_iff.2 fun j hj=>HNE.out j (by rw [← HN.out];exact hj))
   have HR3:Hid (Blk wr w1.heap.size 5 (u8s (bk l a))):=Lib.hid (by
    have:=HR.out
    rw [← HN.out,bkP_all] at this
    exact this)
   clear HR hkI
   go_wp2_with fail
   go_ret2
   exact ⟨HB.out,.inl ⟨HOK.out,_,hsz,rfl,HR3.out⟩⟩
end Go.Proofs.YtmjpnbadfmgimaaGreatDoor.S8
namespace Go.Proofs.YtmjpnbadfmgimaaGreatDoor.S8
open Go.RowKit _root_.Go.Proofs.YtmjpnbadfmgimaaGreatDoor.Pl _root_.Go.Proofs.YtmjpnbadfmgimaaGreatDoor.S8.Pl
namespace Pl
theorem fwL_zero (B L:List Nat):fwL B (L++[0])=fwL B L:=by simp [fwL]
theorem fwL_snoc (B L:List Nat) {x:Nat} (h:x≠0):fwL B (L++[x])=fwL B L++[B.getD (x-1) 0]:=by
 have:(x != 0)=true:=by rw [bne_iff_ne];exact h
 simp [fwL,this]
theorem fwL_lt {B:List Nat} (h:∀ x∈B,x<256) (O:List Nat):∀ x∈fwL B O,x<256:=by
 intro x hx
 unfold fwL at hx
 obtain ⟨o,_,rfl⟩:=List.mem_map.1 hx
 exact getD_lt h _
theorem take_snocF (L:List Nat) (k:Nat) (h:k<L.length):L.take (k+1)=L.take k++[L.getD k 0]:=by
 rw [List.take_add_one,List.getElem?_eq_getElem h,getD_get L 0 h];rfl
end Pl
def FwdPost (B:List Nat) (N:Nat) (w:World) (e:Ending) (w':World):Prop:=
 ∃ (R:List Nat) (sp:Option Addr) (cap a:Nat),e=.returned (.tuple #[.slice sp N cap,.int .i64 a])∧IsSA B R∧fwAt (N::R)=a∧IsBytes w' (.slice sp N cap) (fwL B (N::R))∧Below w.heap.size w w'
theorem forward_any (v:Value) (B:List Nat) (N:Nat) (w:World) (hv:IsBytes w v B) (hN:B.length=N) (hB:N≤900000):
  Calls Tryz.prog 52 #[v] w (FwdPost B N w):=by
 have hsort:=sort_any v B w hv (by omega)
 obtain ⟨a,cap,rfl,hcap,hmax⟩:=hv.slice
 have HX:=Lib.hid hv.1
 rw [hN] at hv hcap hsort ⊢
 have HV:=Lib.hid hv
 have HN:=Lib.hid hN
 have HSORT:=Lib.hid hsort
 clear hv hN hsort
 obtain ⟨i0,hi,hz0,hz1,hz2⟩:=info_parts info5
 have Hi:=Lib.hid hi
 have Hz0:=Lib.hid hz0
 have Hz1:=Lib.hid hz1
 have Hz2:=Lib.hid hz2
 clear hi hz0 hz1 hz2
 go_enter Tryz.func52,Tryz.ntmps52
 go_wp2_with fail
 refine HSORT.out.mono ?_
 rintro e w1 ⟨g,R,rfl,hg,hown,hR,hb1⟩
 rw [HN.out] at hown ⊢
 have HR:=Lib.hid hR
 have HO:=Lib.hid hown
 have HB1:=Lib.hid hb1
 have hg1:=hown.lt
 clear hR hown hb1 HSORT
 have hins:=insert_any g w1.heap.size N w.heap.size N (nI R) (w1.alloc (.cells #[.int .i64 (N:Int)] 3)) (HO.out.below ((Below.refl _ _).alloc (Nat.le_refl _) _)) (Blk.new w1 _ [.int .i64 (N:Int)]) (by omega) hg (by omega)
 rw [show (N:Int)::nI R=nI (N::R) from (nI_cons N R).symm] at hins
 have HINS:=Lib.hid hins
 clear hins
 go_wp2_with fail
 refine HINS.out.mono ?_
 rintro e w2 ⟨sp2,c2,rfl,hi2,hb2⟩
 have HI2:=Lib.hid hi2
 have HB2:Hid (Below w.heap.size w w2):=Lib.hid ((HB1.out.alloc HB1.out.size _).trans hb2)
 clear hi2 hb2 HINS HO HB1
 obtain ⟨O,hO⟩:∃ O,O=N::R:=⟨_,rfl⟩
 have hOl:O.length=N+1:=by rw [hO,List.length_cons,sa_length HR.out,HN.out]
 obtain ⟨p,hp1,hp2,hp3⟩:=at_ex HR.out
 have HFW:=Lib.hid (fw_length HR.out)
 have HINJ:Hid (∀ r,r≤N→O.getD r 0=0→r=p):=Lib.hid fun r hr h=>ord_inj HR.out (by rw [HN.out];exact hr) hp1 (by rw [hp2,HN.out,← hO];exact h)
 have HLE:Hid (∀ r,r≤N→O.getD r 0≤N):=Lib.hid fun r hr=>by
  have:=ord_le HR.out (r:=r) (by rw [HN.out];exact hr)
  rw [HN.out,← hO] at this
  exact this
 rw [HN.out] at hp1 hp2 hp3 HFW
 rw [← hO] at hp2 hp3 HFW HI2
 have HOE:=Lib.hid hO
 have HOL:=Lib.hid hOl
 have HP2:=Lib.hid hp2
 have HP3:=Lib.hid hp3
 clear hO hOl hp2 hp3
 obtain ⟨M,hM⟩:∃ M,M=N+1:=⟨_,rfl⟩
 rw [← hM] at HOL HI2 ⊢
 have HM:=Lib.hid hM
 have hML:M≤900001:=by omega
 have hpM:p<M:=by omega
 clear hM
 go_wp2_with (at_make;refine wpList_make_own _ rfl _ _ 27 rfl w2.heap.size 5 i0 (.int .u8 0) 1 Tryz.underlying27 Hi.out Hz0.out Hz1.out .i64 .i64 _ N rfl rfl (by first | rfl | (simp;done) | omega) (by rw [Hz2.out];omega) (by unfold maxLen;omega) (Nat.le_refl _) ?_;intro w3 hown hgr)
 have HO3:Hid (w3.ownsRow w2.heap.size 5 1 (.slice (some ⟨w2.heap.size,0,none⟩) 0 N) 0 (u8s (fwL B (O.take 0)))):=Lib.hid (by simpa [fwL,u8s] using hown)
 have HB3:Hid (Below w2.heap.size w2 w3):=Lib.hid ((Below.refl _ _).grown hgr (Nat.le_refl _) (by simp))
 clear hown hgr
 go_wp2_with fail
 go_loopw [5,6,20] (fun l y z wr=>∃ (k n wh:Nat) (sp:Option Addr) (cp:Nat),k≤M∧n≤k∧z=.int .i64 k∧y=.int .i64 wh∧wh=(if p<k then p else 0)∧l=.slice sp n cp∧(fwL B (O.take k)).length=n∧wr.ownsRow w2.heap.size 5 1 (.slice sp n cp) n (u8s (fwL B (O.take k)))∧Below w2.heap.size w2 wr) (fun _ _ z _=>M-(intOf z).toNat)
 case atStart=>exact ⟨0,0,0,_,_,by omega,by omega,rfl,rfl,by simp,rfl,by simp [fwL],HO3.out,HB3.out⟩
 case round=>
  obtain ⟨k,n,wh,sp,cp,hk,hnk,rfl,rfl,hwh,rfl,hln,ho,hbe⟩:=hrel
  have HWH:=Lib.hid hwh
  have HLN:=Lib.hid hln
  have HO:=Lib.hid ho
  have HI:=Lib.hid (HI2.out.below hbe)
  have HB:=Lib.hid hbe
  have hsz:=hbe.size
  clear hwh hln ho hbe HO3 HB3
  by_cases hlt:k<M
  ·obtain ⟨b1,o1,q1,e1,-,-,-,hx1⟩:=HI.out.cells (by rw [nI_length,HOL.out];omega)
   rw [nI_length,HOL.out] at e1 hx1
   simp only [Value.slice.injEq,Option.some.injEq] at e1
   obtain ⟨rfl,-,rfl⟩:=e1
   have d1:=hx1 k hlt
   rw [nI_get] at d1
   have hxle:=HLE.out k (by have:=HM.out;omega)
   have HTK:=Lib.hid (take_snocF O k (by rw [HOL.out];exact hlt))
   have HIN:=Lib.hid (HINJ.out k (by have:=HM.out;omega))
   have HPK:Hid (k=p→O.getD k 0=0):=Lib.hid fun e=>by rw [e];exact HP2.out
   generalize O.getD k 0=x at*
   clear hx1
   by_cases hx0:x=0
   ·subst hx0
    obtain rfl:=HIN.out rfl
    have HTK:Hid (fwL B (O.take (k+1))=fwL B (O.take k)):=Lib.hid (by rw [HTK.out,fwL_zero])
    have hz:((0:Int)==(0:Int))=true:=rfl
    go_wp2_with fail
    refine ⟨⟨k+1,n,k,sp,cp,by omega,by omega,by first | rfl | go_num,by first | rfl | go_num,by rw [if_pos (by omega)],rfl,by rw [HTK.out];exact HLN.out,by rw [HTK.out];exact HO.out,HB.out⟩,?_⟩
    simp only [intOf_i];omega
   ·have hz:((x:Int)==(0:Int))=false:=beq_f (by omega)
    have hkp:k≠p:=fun e=>hx0 (HPK.out e)
    have HFS:=Lib.hid (fwL_snoc B (O.take k) hx0)
    obtain ⟨b3,o3,q3,e3,-,-,-,hx3⟩:=(HV.out.below (HB2.out.trans (HB.out.mono HB2.out.size))).cells (by rw [HN.out];omega)
    simp only [Value.slice.injEq,Option.some.injEq] at e3
    obtain ⟨rfl,-,rfl⟩:=e3
    obtain ⟨y,hy⟩:∃ y,y=x-1:=⟨_,rfl⟩
    rw [← hy] at HFS
    have d2:=hx3 y (by rw [HN.out];omega)
    have hyI:(x:Int)-1=(y:Int):=by omega
    have hyN:y<N:=by omega
    generalize B.getD y 0=c at*
    have HSN:Hid (fwL B (O.take (k+1))=fwL B (O.take k)++[c]):=Lib.hid (by rw [HTK.out,HFS.out])
    clear hx3 hy
    go_wp2_with (at_builtin;refine wpList_append_byte_at rfl (.tmp 28) (.tmp 34) rfl w2.heap.size _ n _ (c:Int) rfl HO.out _ rfl rfl (by omega) hsz ?_;intro v6 w6 hown hgr;rw [← u8s_snoc,← HSN.out] at hown;have HO6:=Lib.hid hown;have HB6:=Lib.hid (bel_append HB.out _ HO.out hgr hsz);obtain ⟨sp6,cp6,rfl,_,_⟩:=ownsRow_slice hown;clear hown hgr)
    refine ⟨⟨k+1,n+1,wh,sp6,cp6,by omega,by omega,by first | rfl | go_num,rfl,?_,rfl,by rw [HSN.out,List.length_append,HLN.out];rfl,HO6.out,HB6.out⟩,?_⟩
    ·rw [HWH.out]
     by_cases e:p<k
     ·rw [if_pos e,if_pos (by omega)]
     ·rw [if_neg e,if_neg (by omega)]
    ·simp only [intOf_i];omega
  ·obtain rfl:k=M:=by omega
   obtain rfl:wh=p:=by rw [HWH.out,if_pos hpM]
   rw [List.take_of_length_le (by rw [HOL.out];exact Nat.le_refl _)] at HLN HO
   obtain rfl:n=N:=by rw [← HLN.out,HFW.out]
   go_wp2_with fail
   go_ret2
   exact ⟨R,sp,cp,wh,rfl,HR.out,by rw [← HOE.out];exact HP3.out,by rw [← HOE.out];exact isBytes_ownS (fwL_lt HX.out O) HLN.out.symm (by rw [HLN.out];exact HO.out),HB2.out.trans (HB.out.mono HB2.out.size)⟩
end Go.Proofs.YtmjpnbadfmgimaaGreatDoor.S8

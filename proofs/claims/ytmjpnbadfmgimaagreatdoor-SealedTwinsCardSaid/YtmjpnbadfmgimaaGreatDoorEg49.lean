/- Texts put together: SeaO. -/
import Derived.Test.YtmjpnbadfmgimaaGreatDoorEg46
set_option linter.unusedSimpArgs false
set_option linter.unusedVariables false
set_option maxRecDepth 100000
namespace Go.Proofs.YtmjpnbadfmgimaaGreatDoor.S16
open Go.RowKit Go.ChangeShapes Go.WideShapes S14
theorem open_cap {H:Type} {enc:TypeId×Value→H} {P:Program} {w:World} {held:Bool} {t e:TypeId} {fuel:Nat} {a:Option Addr} {len cap:Nat} {x:DataW H×List MemPlace} (ht:P.underlying t=some (.slice e))
  (h:DataW.trod enc P w 0 (fun _=>true) held fuel t [.slice a len cap]=some x):(a=none→len=0∧cap=0)∧len≤cap∧cap≤maxLen:=by
 rcases Go.Deep.open_slice ht h with ⟨hcs,_⟩ | ⟨b,l,c,m,n,D,Pl,hcs,_,hl,hm,_,_,_⟩
 ·simp at hcs
  obtain ⟨rfl,rfl,rfl⟩:=hcs
  exact ⟨fun _=>⟨rfl,rfl⟩,Nat.le_refl _,Nat.zero_le _⟩
 ·simp at hcs
  obtain ⟨rfl,rfl,rfl⟩:=hcs
  exact ⟨(fun h=>by cases h),hl,hm⟩
theorem recs_in {w:World} {a:Option Addr} {len cap:Nat} (h:IsRecs recF w a len) (hc:len≤cap) (hm:cap≤maxLen):∃ L:List RT,L.length=len∧RecsAt w (.slice a len cap) L∧∀ r∈L,RIn r:=by
 by_cases h0:len=0
 ·subst h0
  exact ⟨[],rfl,⟨a,cap,rfl,hc,hm,fun h=>by simp at h⟩,by simp⟩
 ·obtain ⟨b,off,rfl,hb,hcs⟩:=recF_get h (by omega)
  obtain ⟨f,hf⟩:∃ f:Nat→RT,∀ i,i<len→RIn (f i)∧∀ j u,(recL (f i))[j]? = some u→w.cell? ⟨b,off+i*4+j,none⟩=some u:=by
   refine ⟨fun i=>if hi:i<len then Classical.choose (hcs i hi) else zR,fun i hi=>?_⟩
   have:=Classical.choose_spec (hcs i hi)
   simp only [hi,dif_pos]
   exact this
  have hl:((List.range len).map f).length=len:=by simp
  refine ⟨(List.range len).map f,hl,⟨_,cap,by rw [hl],by rw [hl];exact hc,hm,fun _=>⟨b,off,rfl,hb,fun i hi j u hu=>?_⟩⟩,fun r hr=>?_⟩
  ·rw [hl] at hi
   have e:((List.range len).map f).getD i zR=f i:=by simp [List.getD,hi]
   rw [e] at hu
   exact (hf i hi).2 j u hu
  ·simp only [List.mem_map,List.mem_range] at hr
   obtain ⟨i,hi,rfl⟩:=hr
   exact (hf i hi).1
def sliceQc (x:Value) (lo hi mx:Option Value):Sem Value:=Instr.sliceAt 22 x lo hi mx
theorem sliceQc_eq (x:Value) (lo hi mx:Option Value):Instr.sliceAt 22 x lo hi mx=sliceQc x lo hi mx:=rfl
theorem elem_qc:Tryz.prog.elem 22=26:=by kernel_rfl
theorem und_qc:Tryz.prog.underlying 22=some (.slice (Tryz.prog.elem 22)):=by rw [elem_qc];exact Tryz.underlying22
theorem run_size_qc (w:World):(sizeOf (Tryz.prog.elem 22)).run Tryz.prog w=.ok 4 w:=by
 obtain ⟨i0,hi,hz0,hz1,hz2⟩:=info_parts infoRecS
 rw [elem_qc]
 simp [sizeOf,typeInfo,hi,hz1]
theorem recs_upto {w:World} {v:Value} {L:List RT} (h:RecsAt w v L) (n:Nat) (hn:n≤L.length):∃ sp cap,(∀ W,(sliceQc v none (some (.int .i64 n)) none).run Tryz.prog W=.ok (.slice sp n cap) W)∧Hid (RecsAt w (.slice sp n cap) (L.take n)):=by
 obtain ⟨a,cap,rfl,h1,h2,h3⟩:=h
 have hl:(L.take n).length=n:=by rw [List.length_take];omega
 refine ⟨if cap=0 then a else a.map (·.add (0*4)),cap,?_,Lib.hid ⟨_,cap,by rw [hl],by rw [hl];omega,h2,fun h0=>?_⟩⟩
 ·intro W
  unfold sliceQc
  rw [run_sliceAt_slice _ _ _ _ _ _ und_qc,run_slice_h _ _ _ _ _ und_qc _ _ (by omega) (by omega),run_size_qc,Int.toNat_natCast]
  simp only [Result.andThen,sliced,Nat.sub_zero]
 ·rw [hl] at h0
  obtain ⟨b,off,rfl,hb,hc⟩:=h3 (by omega)
  refine ⟨b,off,?_,hb,fun i hi j u hu=>?_⟩
  ·have:(⟨b,off,none⟩:Addr).add (0*4)=⟨b,off,none⟩:=by unfold Addr.add;simp
   split
   ·rfl
   ·rw [Option.map_some,this]
  ·rw [hl] at hi
   refine hc i (by omega) j u ?_
   have e:(L.take n).getD i zR=L.getD i zR:=by simp [List.getD,List.getElem?_take_of_lt hi]
   rw [← e];exact hu
theorem bad_snoc (M:List RT) (q:RT):badF (M++[q])=if badF M=0 then chk q else badF M:=by
 induction M with
 | nil=>
   have e:badF ([]++[q])=chk q:=by
    show (if chk q=0 then 0 else chk q)=chk q
    split <;> omega
   rw [e]
   simp [badF]
 | cons r l ih=>
   rw [List.cons_append,badF,badF]
   by_cases h:chk r=0
   ·rw [if_pos h,if_pos h];exact ih
   ·rw [if_neg h,if_neg h,if_neg h]
theorem vals_few {M:List RT} {k:Nat} (h:∀ r∈M,r.val.size≤k):(valsE M).length≤k*M.length:=by
 induction M with
 | nil=>simp [valsE]
 | cons r l ih=>
   have h1:=h r (by simp)
   have h2:=ih fun x hx=>h x (by simp [hx])
   rw [valsE,List.length_append,strB_length,List.length_cons,Nat.mul_add]
   omega
end Go.Proofs.YtmjpnbadfmgimaaGreatDoor.S16

/- Texts put together: SeaJ. -/
import Derived.Test.YtmjpnbadfmgimaaGreatDoorFg44
import Derived.OwnWalk
set_option linter.unusedSimpArgs false
set_option linter.unusedVariables false
set_option maxRecDepth 100000
set_option maxHeartbeats 32000000
namespace Go.Proofs.YtmjpnbadfmgimaaGreatDoor.S16
open Go.RowKit Pl S3 S3.Pl S14 Go.Maps
def GB (g:Nat) (w W:World):Prop:=w.grownBy W (some g)
theorem GB.trans {g:Nat} {a b c:World} (h:GB g a b) (k:b.grownBy c (some g)):GB g a c:=grownBy_trans h k
theorem GB.below {g:Nat} {a b c:World} (h:GB g a b) (k:Below b.heap.size b c):GB g a c:=h.trans ⟨k.os,k.tape,k.output,k.size,fun j hj _=>k.block j hj⟩
theorem GB.start (g:Nat) (w:World):GB g w w.drew:=⟨rfl,rfl,rfl,Nat.le_refl _,fun _ _ _=>rfl⟩
theorem put4_length {cs ds:List Value} {o:Nat} (hd:ds.length=4) (h:o+4≤cs.length):(cs.take o++ds++cs.drop (o+4)).length=cs.length:=by simp [hd];omega
theorem put4_low {cs ds:List Value} {o i:Nat} (hd:ds.length=4) (h:o+4≤cs.length) (hi:i<o):(cs.take o++ds++cs.drop (o+4))[i]? = cs[i]? := by
 rw [List.append_assoc,List.getElem?_append_left (by simp;omega),List.getElem?_take_of_lt hi]
theorem put4_at {cs ds:List Value} {o j:Nat} (hd:ds.length=4) (h:o+4≤cs.length) (hj:j<4):(cs.take o++ds++cs.drop (o+4))[o+j]? = ds[j]? := by
 have hl:(cs.take o).length=o:=by simp;omega
 rw [List.append_assoc,List.getElem?_append_right (by omega),hl,Nat.add_sub_cancel_left,List.getElem?_append_left (by omega)]
theorem put_rec {w:World} {g o:Nat} {t:TypeId} {cs:List Value} (q:RT) (h:Blk w g t cs) (ho:o+4≤cs.length):
  ∃ W2,(storeR (.pointer (some ⟨g,o,none⟩)) (.agg #[.int .i64 q.kind,.int .i64 q.seq,.string q.key,.string q.val])).run Tryz.prog w=.ok () W2∧Hid (Blk W2 g t (cs.take o++recL q++cs.drop (o+4)))∧Hid (w.grownBy W2 (some g)):=by
 refine ⟨w.setRow g (cs.take o++recL q++cs.drop (o+4)).toArray,?_,Lib.hid (h.setRow _),Lib.hid ⟨rfl,rfl,rfl,by simp,fun k _ hk=>setRow_other _ _ _ _ (fun e=>hk (by rw [e]))⟩⟩
 simp only [storeR,Instr.storeAt,Instr.sureAddr,storeVar,Sem.run_bind,Sem.run_pure,Result.andThen_ok,Tryz.sizeOf26]
 rw [if_neg (by simp [Value.cells])]
 have:=run_storeCells_at (P:=Tryz.prog) g o t (recL q) 0 cs.toArray w h (by rw [recL_length];simpa using ho) (recL_one q)
 simpa [Value.cells,recL] using this
def LaidR (f:Nat→RT) (cs:List Value) (k:Nat):Prop:=∀ j,j<k→∀ m u,(recL (f j))[m]? = some u→cs[j*4+m]? = some u
theorem laidR_next {f:Nat→RT} {cs:List Value} {k:Nat} {q:RT} (h:LaidR f cs k) (hl:k*4+4≤cs.length) (hq:f k=q):LaidR f (cs.take (k*4)++recL q++cs.drop (k*4+4)) (k+1):=by
 intro j hj m u hu
 have hm:m<4:=(List.getElem?_eq_some_iff.1 hu).1
 by_cases e:j=k
 ·subst e
  rw [hq] at hu
  rw [put4_at rfl hl hm];exact hu
 ·rw [put4_low rfl hl (by omega)];exact h j (by omega) m u hu
theorem made_blk4 {w:World} {base g n:Nat} {e:TypeId} {xs:List Value} (h:w.ownsRow base e 4 (.slice (some ⟨g,0,none⟩) n n) n xs):Blk w g e xs∧xs.length=n*4:=by
 obtain ⟨hl,h | ⟨g',cap,cur,hv,_,hh,hn,_,hs,ht⟩⟩:=h
 ·simp at h
 ·simp at hv
  obtain ⟨rfl,rfl⟩:=hv
  have:cur.toList=xs:=by rw [← ht,List.take_of_length_le (by simp [hs])]
  refine ⟨?_,hl⟩
  unfold Blk
  rw [hh,← this]
def allF (L:List (RT×Nat)) (X:List Nat) (j:Nat):RT:=putV (L.getD j zP).1 (str ((X.drop (total (L.take j))).take (L.getD j zP).2))
def allR (L:List (RT×Nat)) (X:List Nat):List RT:=(List.range L.length).map (allF L X)
theorem allR_get (L:List (RT×Nat)) (X:List Nat) {j:Nat} (h:j<L.length):(allR L X).getD j zR=allF L X j:=by
 unfold allR
 simp [List.getD,h]
theorem laidR_done {L:List (RT×Nat)} {X:List Nat} {w:World} {g K:Nat} {t:TypeId} {cs:List Value} (h:LaidR (allF L X) cs K) (hK:L.length=K) (hb:Blk w g t cs) (hm:K≤maxLen):RecsAt w (.slice (some ⟨g,0,none⟩) K K) (allR L X):=by
 have hl:(allR L X).length=K:=by unfold allR;simp [hK]
 refine ⟨some ⟨g,0,none⟩,K,by rw [hl],by omega,hm,fun _=>⟨g,0,rfl,hb.lt,fun i hi j u hu=>?_⟩⟩
 rw [allR_get L X (by omega)] at hu
 have:=h i (by omega) j u hu
 rw [Nat.zero_add]
 exact hb.cell this
def AllPost (L:List (RT×Nat)) (V:List Nat) (w:World) (e:Ending) (w':World):Prop:=
 Hid (Below w.heap.size w w')∧((∃ X v,Hid (X.length=total L)∧Hid (S11.Reads (S11.blk (S11.hd V) (S11.rst V)) 0 X)∧e=.returned (.tuple #[v,.int .i64 0])∧Hid (RecsAt w' v (allR L X)))∨(Hid (Spoilt V (total L))∧e=.returned (.tuple #[.slice none 0 0,.int .i64 6])))
attribute [local go_sem ↓] loadR_eq storeR_eq buildR_eq loadQ_eq storeQ_eq buildQ_eq sliceU8_eq
theorem all_seg (g:Nat) (L:List (RT×Nat)) (V:List Nat) (w:World) (hT:Tab w) (h:IsSeg w g L V) (hL:L.length≤100000):Calls Tryz.prog 19 #[.pointer (some ⟨g,0,none⟩)] w (AllPost L V w):=by
 have HG:=Lib.hid h
 have HT:=Lib.hid hT
 obtain ⟨a,cap,mb,vv,h1,hq,_,_,_,_,hrows,_,_⟩:=h
 have c0:w.cell? ⟨g,0,none⟩=some (.slice a L.length cap):=h1.cell rfl
 have HQ:=Lib.hid hq
 have hTl:=total_le hrows
 obtain ⟨K,hK⟩:∃ K,L.length=K:=⟨_,rfl⟩
 obtain ⟨T,hTT⟩:∃ T,total L=T:=⟨_,rfl⟩
 rw [hK] at c0 HQ hL hTl
 rw [hTT] at hTl
 have HK:=Lib.hid hK
 have HTT:=Lib.hid hTT
 clear hT h1 hq hrows hK hTT
 go_enter Tryz.func19,Tryz.ntmps19
 go_wp2_with fail
 go_loopw [4,19] (fun x y wr=>∃ i p:Nat,i≤K∧y=.int .i64 i∧x=.int .i64 p∧Hid (p=total (L.take i))∧p≤T∧Hid (Below w.heap.size w wr)) (fun _ y _=>K-(intOf y).toNat)
 case atStart=>exact ⟨0,0,by omega,rfl,rfl,Lib.hid rfl,by omega,Lib.hid (Below.refl _ _)⟩
 case round=>
  obtain ⟨i,p,hi,rfl,rfl,HP,hpT,HB⟩:=hrel
  by_cases hlt:i<K
  ·obtain ⟨b',off,rfl,hld1⟩:=(HQ.out.below HB.out).load (W:=wr) (i:=i) (by rw [qOf_length,HK.out];exact hlt)
   have hld:=hld1 wr (Below.refl _ _)
   obtain ⟨htk,hto⟩:=total_take L i (by rw [HK.out];exact hlt)
   rw [qOf_get L i 0 (by rw [HK.out];exact hlt)] at hld
   obtain ⟨r,hr⟩:∃ r,(L.getD i zP).1=r:=⟨_,rfl⟩
   obtain ⟨z,hz⟩:∃ z,(L.getD i zP).2=z:=⟨_,rfl⟩
   obtain ⟨f,hf⟩:∃ f,0+total (L.take i)=f:=⟨_,rfl⟩
   rw [hr,hz,hf] at hld
   rw [hz,← HP.out] at htk
   rw [htk,HTT.out] at hto
   have HTK:=Lib.hid htk
   have hi1:(i:Int)<(K:Int):=by omega
   obtain ⟨w4,hst4,HK4,HB4⟩:=back_q (w:=wr) (r,f,z) (Blk.new wr 62 (qL zQ)) ((Below.refl _ _).alloc (Nat.le_refl _) _) (Nat.le_refl _)
   simp only [qL,zQ,zR,Int.natCast_zero] at hst4
   have c5:w4.cell? ⟨wr.heap.size,5,none⟩=some (.int .i64 z):=HK4.out.cell rfl
   have HB4':=Lib.hid (HB.out.trans (HB4.out.mono HB.out.size))
   clear hld1 htk hr hz hf HP
   go_wp2_with fail
   go_roundw
   case rel=>exact ⟨i+1,p+z,by omega,by go_num,by go_num,Lib.hid HTK.out.symm,hto,HB4'⟩
   case measure=>simp [intOf];omega
  ·obtain rfl:i=K:=by omega
   have hp:p=T:=by have:=HP.out;rw [← HK.out,List.take_length,HTT.out] at this;exact this
   subst hp
   have HG1:=Lib.hid (HG.out.below HB.out)
   have HPA:=Lib.hid (part_seg g L V 0 p wr (HT.out.below HB.out) HG1.out (by rw [HTT.out];omega))
   clear HP hpT
   go_wp2_with fail
   refine HPA.out.mono ?_
   rintro e w5 ⟨HB5,⟨X,sv,cv,rfl,HX,HI,HRd⟩ | ⟨rfl,HS⟩⟩
   rotate_left
   ·have HBf:=Lib.hid (HB.out.trans (HB5.out.mono HB.out.size))
    have HSF:Hid (Spoilt V (total L)):=Lib.hid (by have:=HS.out;rw [Nat.zero_add] at this;rw [HTT.out];exact this)
    clear HPA HS
    go_wp2_with fail
    go_ret2
    exact ⟨HBf,.inr ⟨HSF,rfl⟩⟩
   have HBB5:=Lib.hid (HB.out.trans (HB5.out.mono HB.out.size))
   have c05:w5.cell? ⟨g,0,none⟩=some (.slice a i cap):=(HBB5.out.cell (p:=⟨g,0,none⟩) HG.out.lt).trans c0
   obtain ⟨i0,hi0,hz0,hz1,hz2⟩:=info_parts infoRec
   have HI0:=Lib.hid hi0
   have HZ0:=Lib.hid (And.intro hz0 (And.intro hz1 hz2))
   clear hi0 hz0 hz1 hz2 HPA
   go_wp2_with (at_make;refine wpList_make_full _ rfl _ _ 22 rfl w5.heap.size 26 i0 (.agg (recL zR).toArray) 4 Tryz.underlying22 HI0.out HZ0.out.1 HZ0.out.2.1 .i64 .i64 _ _ i rfl rfl rfl rfl (by rw [HZ0.out.2.2];omega) (by unfold maxLen;omega) (Nat.le_refl _) ?_;intro w6 hown hgr;obtain ⟨hk6,hl6⟩:=made_blk4 hown;have HB6:=Lib.hid ((Below.refl w5.heap.size w5).grown hgr (Nat.le_refl _) (by simp));have HK6:=Lib.hid hk6;have HL6:=Lib.hid hl6;clear hown hgr hk6 hl6;have c06:w6.cell? ⟨g,0,none⟩=some (.slice a i cap):=(HB6.out.cell (p:=⟨g,0,none⟩) (Nat.lt_of_lt_of_le HG.out.lt HBB5.out.size)).trans c05;clear c05)
   obtain ⟨gA,hgA⟩:∃ gA,w5.heap.size=gA:=⟨_,rfl⟩
   rw [hgA] at HB6 HK6 ⊢
   have HGA:=Lib.hid hgA
   obtain ⟨cs0,hcs0⟩:∃ cs0,(madeCells (Value.agg (recL zR).toArray).cells (i*4)).toList=cs0:=⟨_,rfl⟩
   rw [hcs0] at HK6 HL6
   clear hgA hcs0 HI0 HZ0
   go_loopw [48] (fun x wq=>∃ (j:Nat) (cs:List Value),j≤i∧x=.int .i64 j∧Hid (cs.length=i*4)∧Hid (LaidR (allF L X) cs j)∧Hid (Blk wq gA 26 cs)∧Hid (Below gA w5 wq)) (fun x _=>i-(intOf x).toNat)
   case atStart=>exact ⟨0,cs0,by omega,rfl,HL6,Lib.hid (by intro j hj;omega),HK6,HB6⟩
   case round=>
    obtain ⟨j,cs,hj,rfl,HCL,HLD,HKA,HBA⟩:=hrel
    clear HK6 HL6 HB6
    have HBW:Hid (Below w.heap.size w wr):=Lib.hid (HBB5.out.trans (HBA.out.mono (by rw [← HGA.out];exact HBB5.out.size)))
    by_cases hlt:j<i
    ·obtain ⟨b',off,rfl,hld1⟩:=(HQ.out.below HBW.out).load (W:=wr) (i:=j) (by rw [qOf_length,HK.out];exact hlt)
     have hld:=hld1 wr (Below.refl _ _)
     obtain ⟨htk,hto⟩:=total_take L j (by rw [HK.out];exact hlt)
     rw [qOf_get L j 0 (by rw [HK.out];exact hlt),Nat.zero_add] at hld
     obtain ⟨r,hr⟩:∃ r,(L.getD j zP).1=r:=⟨_,rfl⟩
     obtain ⟨z,hz⟩:∃ z,(L.getD j zP).2=z:=⟨_,rfl⟩
     obtain ⟨f,hf⟩:∃ f,total (L.take j)=f:=⟨_,rfl⟩
     rw [hr,hz,hf] at hld
     rw [hz,hf] at htk
     rw [htk,HTT.out] at hto
     obtain ⟨Y,hY⟩:∃ Y,(X.drop f).take z=Y:=⟨_,rfl⟩
     have HF:Hid (allF L X j=putV r (str Y)):=Lib.hid (by unfold allF;rw [hr,hz,hf,hY])
     obtain ⟨fz,hfz⟩:∃ fz,f+z=fz:=⟨_,rfl⟩
     have hwz:IntKind.i64.wrap ((f:Int)+(z:Int))=(fz:Int):=by rw [← hfz];simp [IntKind.wrap,IntKind.signed,IntKind.bits];omega
     obtain ⟨a3,c3,hs3,hi3⟩:=run_between HI.out f z (by rw [HX.out];exact hto) (fz:Int) (by omega)
     rw [hY] at hi3
     have HI3:=Lib.hid hi3
     have hj1:(j:Int)<(i:Int):=by omega
     obtain ⟨w4,hst4,HK4,HB4⟩:=back_q (w:=wr) (r,f,z) (Blk.new wr 62 (qL zQ)) ((Below.refl _ _).alloc (Nat.le_refl _) _) (Nat.le_refl _)
     simp only [qL,zQ,zR,Int.natCast_zero] at hst4
     have hgl:=HKA.out.lt
     have hne:some gA≠some wr.heap.size:=by simp;omega
     have hLQ:∀ W,GB gA w4 W→(loadQ (.pointer (some ⟨wr.heap.size,0,none⟩))).run Tryz.prog W=.ok (.agg #[.int .i64 r.kind,.int .i64 r.seq,.string r.key,.string r.val,.int .i64 f,.int .i64 z]) W:=fun W hW=>run_loadQ_blk (x:=(r,f,z)) (HK4.out.grown hW (fun e=>hne e.symm))
     have hC4:∀ W,GB gA w4 W→W.cell? ⟨wr.heap.size,4,none⟩=some (.int .i64 f):=fun W hW=>(HK4.out.grown hW (fun e=>hne e.symm)).cell rfl
     have hC5:∀ W,GB gA w4 W→W.cell? ⟨wr.heap.size,5,none⟩=some (.int .i64 z):=fun W hW=>(HK4.out.grown hW (fun e=>hne e.symm)).cell rfl
     have HBA4:Hid (Below gA w5 w4):=Lib.hid (HBA.out.trans (HB4.out.mono (Nat.le_of_lt hgl)))
     have HIY:Hid (IsBytes w4 (.slice a3 z c3) Y):=Lib.hid (HI3.out.below (by rw [HGA.out];exact HBA4.out))
     have HIYd:Hid (IsBytes w4.drew (.slice a3 z c3) Y):=Lib.hid (by exact HIY.out)
     have HKAd:Hid (Blk w4.drew gA 26 cs):=Lib.hid ((HKA.out.below HB4.out hgl).drew)
     have hcl:j*4+4≤cs.length:=by rw [HCL.out];omega
     have hgA4:gA≤w4.heap.size:=HBA4.out.size |> fun h=>by have:=HGA.out;omega
     clear hld1 htk hr hz hf hY hi3 hgl HB4 HK4 HKA HIY hfz
     go_wp2_with fail
     have hHeld:GB gA w4 w4.drew:=GB.start gA w4
     refine wp_region_noPanic ?_
     refine wpAnyH_start (n:=15) (l:=#[false,false,false,false,false,false,false,false,false,false,false,false,false,false,false]) (S:=GB gA w4) (by kernel_rfl) (hHeld) (by kernel_rfl) (by kernel_rfl) ?_
     refine wpAnyH_take (i:=0) (oi:=_) (v:=?_) rfl (by kernel_rfl) (by kernel_rfl) (by kernel_rfl) (fun _ _ _ h=>h) (Or.inl ⟨by rfl,?_⟩) (by assumption) ?_
     rotate_left
     ·intro wq hSw;go_simp;try with_reducible rfl
     simp only [Act.put,List.setIfInBounds_toArray,List.set_cons_zero,List.set_cons_succ,List.getElem_toArray,List.getElem_cons_zero,List.getElem_cons_succ]
     refine wpAnyH_take (i:=1) (oi:=_) (v:=?_) rfl (by kernel_rfl) (by kernel_rfl) (by kernel_rfl) (fun _ _ _ h=>h) (Or.inl ⟨by rfl,?_⟩) (by assumption) ?_
     rotate_left
     ·intro wq hSw;go_simp;try with_reducible rfl
     simp only [Act.put,List.setIfInBounds_toArray,List.set_cons_zero,List.set_cons_succ,List.getElem_toArray,List.getElem_cons_zero,List.getElem_cons_succ]
     refine wpAnyH_take (i:=2) (oi:=_) (v:=?_) rfl (by kernel_rfl) (by kernel_rfl) (by kernel_rfl) (fun _ _ _ h=>h) (Or.inl ⟨by rfl,?_⟩) (by assumption) ?_
     rotate_left
     ·intro wq hSw;have hl:=hLQ wq hSw;go_simp;try with_reducible rfl
     simp only [Act.put,List.setIfInBounds_toArray,List.set_cons_zero,List.set_cons_succ,List.getElem_toArray,List.getElem_cons_zero,List.getElem_cons_succ]
     refine wpAnyH_take (i:=3) (oi:=_) (v:=?_) rfl (by kernel_rfl) (by kernel_rfl) (by kernel_rfl) (fun _ _ _ h=>h) (Or.inl ⟨by rfl,?_⟩) (by assumption) ?_
     rotate_left
     ·intro wq hSw;go_simp;try with_reducible rfl
     simp only [Act.put,List.setIfInBounds_toArray,List.set_cons_zero,List.set_cons_succ,List.getElem_toArray,List.getElem_cons_zero,List.getElem_cons_succ]
     refine wpAnyH_take (i:=4) (oi:=_) (v:=?_) rfl (by kernel_rfl) (by kernel_rfl) (by kernel_rfl) (fun _ _ _ h=>h) (Or.inl ⟨by rfl,?_⟩) (by assumption) ?_
     rotate_left
     ·intro wq hSw;go_simp;try with_reducible rfl
     simp only [Act.put,List.setIfInBounds_toArray,List.set_cons_zero,List.set_cons_succ,List.getElem_toArray,List.getElem_cons_zero,List.getElem_cons_succ]
     refine wpAnyH_take (i:=5) (oi:=_) (v:=?_) rfl (by kernel_rfl) (by kernel_rfl) (by kernel_rfl) (fun _ _ _ h=>h) (Or.inl ⟨by rfl,?_⟩) (by assumption) ?_
     rotate_left
     ·intro wq hSw;have hl:=hC4 wq hSw;go_simp;try with_reducible rfl
     simp only [Act.put,List.setIfInBounds_toArray,List.set_cons_zero,List.set_cons_succ,List.getElem_toArray,List.getElem_cons_zero,List.getElem_cons_succ]
     refine wpAnyH_take (i:=6) (oi:=_) (v:=?_) rfl (by kernel_rfl) (by kernel_rfl) (by kernel_rfl) (fun _ _ _ h=>h) (Or.inl ⟨by rfl,?_⟩) (by assumption) ?_
     rotate_left
     ·intro wq hSw;go_simp;try with_reducible rfl
     simp only [Act.put,List.setIfInBounds_toArray,List.set_cons_zero,List.set_cons_succ,List.getElem_toArray,List.getElem_cons_zero,List.getElem_cons_succ]
     refine wpAnyH_take (i:=7) (oi:=_) (v:=?_) rfl (by kernel_rfl) (by kernel_rfl) (by kernel_rfl) (fun _ _ _ h=>h) (Or.inl ⟨by rfl,?_⟩) (by assumption) ?_
     rotate_left
     ·intro wq hSw;have hl:=hC4 wq hSw;go_simp;try with_reducible rfl
     simp only [Act.put,List.setIfInBounds_toArray,List.set_cons_zero,List.set_cons_succ,List.getElem_toArray,List.getElem_cons_zero,List.getElem_cons_succ]
     refine wpAnyH_take (i:=8) (oi:=_) (v:=?_) rfl (by kernel_rfl) (by kernel_rfl) (by kernel_rfl) (fun _ _ _ h=>h) (Or.inl ⟨by rfl,?_⟩) (by assumption) ?_
     rotate_left
     ·intro wq hSw;go_simp;try with_reducible rfl
     simp only [Act.put,List.setIfInBounds_toArray,List.set_cons_zero,List.set_cons_succ,List.getElem_toArray,List.getElem_cons_zero,List.getElem_cons_succ]
     refine wpAnyH_take (i:=9) (oi:=_) (v:=?_) rfl (by kernel_rfl) (by kernel_rfl) (by kernel_rfl) (fun _ _ _ h=>h) (Or.inl ⟨by rfl,?_⟩) (by assumption) ?_
     rotate_left
     ·intro wq hSw;have hl:=hC5 wq hSw;go_simp;try with_reducible rfl
     simp only [Act.put,List.setIfInBounds_toArray,List.set_cons_zero,List.set_cons_succ,List.getElem_toArray,List.getElem_cons_zero,List.getElem_cons_succ]
     refine wpAnyH_take (i:=10) (oi:=_) (v:=?_) rfl (by kernel_rfl) (by kernel_rfl) (by kernel_rfl) (fun _ _ _ h=>h) (Or.inl ⟨by rfl,?_⟩) (by assumption) ?_
     rotate_left
     ·intro wq hSw;go_simp;try with_reducible rfl
     simp only [Act.put,List.setIfInBounds_toArray,List.set_cons_zero,List.set_cons_succ,List.getElem_toArray,List.getElem_cons_zero,List.getElem_cons_succ]
     refine wpAnyH_take (i:=11) (oi:=_) (v:=?_) rfl (by kernel_rfl) (by kernel_rfl) (by kernel_rfl) (fun _ _ _ h=>h) (Or.inl ⟨by rfl,?_⟩) (by assumption) ?_
     rotate_left
     ·intro wq hSw;go_simp;try with_reducible rfl
     simp only [Act.put,List.setIfInBounds_toArray,List.set_cons_zero,List.set_cons_succ,List.getElem_toArray,List.getElem_cons_zero,List.getElem_cons_succ]
     refine wpAnyH_ready (rs:=[12]) (by kernel_rfl) (by simp) ?_
     refine AllReadyH.cons (o:=_) rfl (fun K hK=>?_) AllReadyH.nil
     simp only [List.getElem_toArray,List.getElem_cons_zero,List.getElem_cons_succ]
     go_simp
     refine (with_any r f z (.slice a3 z c3) Y _ HIYd.out).mono ?_;rintro e w6 ⟨rfl,HB6⟩;have HG6:=Lib.hid (GB.below hHeld HB6.out)
     refine hK.out _ _ (HG6.out) (fun _=>?_)
     clear hK K
     clear hHeld
     have hHeld:=HG6.out
     have HKA6:=Lib.hid (HKAd.out.below HB6.out HKAd.out.lt)
     obtain ⟨w7,hst7,HK7,HG7⟩:=put_rec (o:=j*4) (putV r (str Y)) HKA6.out hcl
     have HG7':=Lib.hid (GB.trans hHeld HG7.out)
     simp only [Act.put,List.setIfInBounds_toArray,List.set_cons_zero,List.set_cons_succ,List.getElem_toArray,List.getElem_cons_zero,List.getElem_cons_succ]
     refine wpAnyH_take (i:=13) (oi:=_) (v:=?_) rfl (by kernel_rfl) (by kernel_rfl) (by kernel_rfl) (fun _ _ _ h=>h) (Or.inl ⟨by rfl,?_⟩) (by assumption) ?_
     rotate_left
     ·intro wq hSw;go_simp;try with_reducible rfl
     simp only [Act.put,List.setIfInBounds_toArray,List.set_cons_zero,List.set_cons_succ,List.getElem_toArray,List.getElem_cons_zero,List.getElem_cons_succ]
     refine wpAnyH_ready (rs:=[14]) (by kernel_rfl) (by simp) ?_
     refine AllReadyH.cons (o:=_) rfl (fun K hK=>?_) AllReadyH.nil
     simp only [List.getElem_toArray,List.getElem_cons_zero,List.getElem_cons_succ]
     go_simp
     refine hK.out _ _ (HG7'.out) (fun _=>?_)
     clear hK K
     simp only [Act.put,List.setIfInBounds_toArray,List.set_cons_zero,List.set_cons_succ,List.getElem_toArray,List.getElem_cons_zero,List.getElem_cons_succ]
     refine wpAnyH_done (by kernel_rfl) ?_ _
     refine NoPanic.normal ?_

     clear hHeld
     have HLD7:Hid (LaidR (allF L X) (cs.take (j*4)++recL (putV r (str Y))++cs.drop (j*4+4)) (j+1)):=Lib.hid (laidR_next HLD.out hcl HF.out)
     have HB7:Hid (Below gA w5 w7):=Lib.hid (HBA4.out.grown HG7'.out hgA4 (fun k hk=>by cases hk;exact Nat.le_refl _))
     have HCL7:Hid ((cs.take (j*4)++recL (putV r (str Y))++cs.drop (j*4+4)).length=i*4):=Lib.hid (by rw [put4_length rfl hcl];exact HCL.out)
     go_wp2_with fail
     go_roundw
     case rel=>exact ⟨j+1,_,by omega,by go_num,HCL7,HLD7,HK7,HB7⟩
     case measure=>simp [intOf];omega
    ·obtain rfl:j=i:=by omega
     have HRA:=Lib.hid (laidR_done HLD.out HK.out HKA.out (by unfold maxLen;omega))
     clear HLD HCL HKA
     go_wp2_with fail
     go_ret2
     exact ⟨HBW,.inl ⟨X,_,Lib.hid (by rw [HTT.out];exact HX.out),HRd,rfl,HRA⟩⟩
end Go.Proofs.YtmjpnbadfmgimaaGreatDoor.S16

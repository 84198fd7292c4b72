/- Texts put together: EntB, EntC, EntD, EntE, EntF, EntG, EntH. -/
import Derived.Test.YtmjpnbadfmgimaaGreatDoorFg2
import Derived.Test.YtmjpnbadfmgimaaGreatDoorFg6
import Derived.Test.YtmjpnbadfmgimaaGreatDoorFg7
import Derived.Test.YtmjpnbadfmgimaaGreatDoorFg12
import Derived.Test.YtmjpnbadfmgimaaGreatDoorFg13
import Derived.Test.YtmjpnbadfmgimaaGreatDoorFg14
import Derived.Test.YtmjpnbadfmgimaaGreatDoorFg29
import Derived.Test.YtmjpnbadfmgimaaGreatDoorFg30
import Derived.Test.YtmjpnbadfmgimaaGreatDoorFg31
import Derived.Lib.SlBytesConst
set_option linter.unusedSimpArgs false
set_option linter.unusedVariables false
set_option maxRecDepth 100000
set_option maxHeartbeats 32000000
namespace Go.Proofs.YtmjpnbadfmgimaaGreatDoor.S10
open Go.RowKit Pl
theorem ints6 {w:World} {v:Value} {L:List Int} (h:IsInts w v L):S6.IsInts w v L:=by
 rcases h with ⟨rfl,rfl⟩ | h
 ·exact .inl ⟨rfl,rfl,rfl⟩
 ·exact .inr h
theorem ints7 {w:World} {v:Value} {L:List Int} (h:IsInts w v L):S7.IsInts w v L:=by
 rcases h with ⟨rfl,rfl⟩ | h
 ·exact .inl ⟨rfl,rfl,rfl⟩
 ·exact .inr h
theorem ints_blk {w:World} {g n:Nat} {t:TypeId} {L:List Int} (h:Blk w g t (i64s L)) (hn:n=L.length) (hm:n≤maxLen):IsInts w (.slice (some ⟨g,0,none⟩) n n) L:=by
 subst hn
 refine .inr ⟨⟨g,0,none⟩,L.length,rfl,Nat.le_refl _,hm,fun i u hu=>?_⟩
 rw [S7.add_none,Nat.zero_add]
 exact h.cell hu
theorem i64s_set (B:List Int) (i:Nat) (c:Int):(i64s B).set i (.int .i64 c)=i64s (B.set i c):=by simp [i64s,List.map_set]
def partI (X:List Int) (i:Nat):List Int:=X.take i++List.replicate (X.length-i) 0
theorem partI_zero (X:List Int):partI X 0=List.replicate X.length 0:=by simp [partI]
theorem partI_all (X:List Int):partI X X.length=X:=by simp [partI]
theorem partI_length (X:List Int) (i:Nat):(partI X i).length=X.length:=by simp [partI];omega
theorem partI_step (X:List Int) (i:Nat) (h:i<X.length):(partI X i).set i (X.getD i 0)=partI X (i+1):=by
 unfold partI
 have e:X.length-i=(X.length-(i+1))+1:=by omega
 rw [e,List.replicate_succ,List.take_add_one,List.getElem?_eq_getElem h]
 have hl:(X.take i).length=i:=by rw [List.length_take];omega
 rw [List.set_append_right _ _ (by omega),hl,Nat.sub_self,List.set_cons_zero,show X.getD i 0=X[i] by simp [List.getD,h]]
 simp only [Option.toList_some,List.append_assoc,List.singleton_append]
def MkI (t:TypeId) (L:List Int) (w:World) (e:Ending) (w':World):Prop:=
 ∃ g,e=.returned (.slice (some ⟨g,0,none⟩) L.length L.length)∧w.heap.size≤g∧Blk w' g t (i64s L)∧Below w.heap.size w w'
def lo17:List Int:=(List.range 258).map fun (s:Nat)=>if s<14 then 4 else if s<17 then 5 else 0
theorem lo17_length:lo17.length=258:=by simp [lo17]
theorem lo17_get {i:Nat} (h:i<258):lo17.getD i 0=if i<14 then 4 else if i<17 then 5 else 0:=by simp [lo17,List.getD,h]
theorem lo17_all:(partI lo17 17).set 257 5=lolF:=by decide +kernel
theorem lol_any (w:World):Calls Tryz.prog 71 #[] w (MkI 3 lolF w):=by
 obtain ⟨i0,hi,hz0,hz1,hz2⟩:=infoI_parts infoI
 have HI:=Lib.hid hi
 have HZ:=Lib.hid (And.intro hz0 (And.intro hz1 hz2))
 clear hi hz0 hz1 hz2
 go_enter Tryz.func71,Tryz.ntmps71
 go_wp2_with (at_make;refine wpList_make_full _ rfl _ _ 88 rfl w.heap.size 3 i0 (.int .i64 0) 1 Tryz.underlying88 HI.out HZ.out.1 HZ.out.2.1 .i64 .i64 _ _ 258 rfl rfl rfl rfl (by rw [HZ.out.2.2];omega) (by unfold maxLen;omega) (Nat.le_refl _) ?_;intro w1 hown hgr)
 rw [S6.made_ints] at hown
 have hL:=S6.made_blk hown
 have hB1:Below w.heap.size w w1:=(Below.refl _ w).grown hgr (Nat.le_refl _) (by simp)
 have HL:Hid (Blk w1 w.heap.size 3 (i64s (partI lo17 0))):=Lib.hid (by rw [partI_zero,lo17_length];exact hL)
 have HB:=Lib.hid hB1
 clear hown hgr hL hB1 HI HZ
 go_loopw [4] (fun x wr=>∃ i:Nat,i≤17∧x=.int .i64 i∧Blk wr w.heap.size 3 (i64s (partI lo17 i))∧Below w.heap.size w wr) (fun x _=>17-(intOf x).toNat)
 case atStart=>exact ⟨0,by omega,rfl,HL.out,HB.out⟩
 case round=>
  obtain ⟨i,hi,rfl,hL,hB⟩:=hrel
  clear HL HB
  have hl:=partI_length lo17 i
  rw [lo17_length] at hl
  by_cases hlt:i<17
  ·have hst:=partI_step lo17 i (by rw [lo17_length];omega)
   rw [lo17_get (by omega)] at hst
   have c1:wr.cell? ⟨w.heap.size,i,none⟩=some (.int .i64 ((partI lo17 i).getD i 0)):=hL.cell (i64s_get _ i (by omega))
   have f1:=hL.frozen i
   have hs1:=hL.set i (.int .i64 4)
   have hB1:=hB.setCell (p:=⟨w.heap.size,i,none⟩) (Nat.le_refl _) (.int .i64 4)
   rw [i64s_set] at hs1
   by_cases h14:i<14
   ·rw [if_pos h14] at hst
    rw [hst] at hs1
    have HS:=Lib.hid hs1
    have HB1:=Lib.hid hB1
    generalize (partI lo17 i).getD i 0=y at*
    clear hst hl hL hB hs1 hB1
    go_wp2
    go_roundw
    case rel=>exact ⟨i+1,by omega,by first | rfl | go_num,HS.out,HB1.out⟩
    case measure=>simp [intOf];omega
   ·rw [if_neg h14,if_pos hlt] at hst
    have c2:(wr.setCell ⟨w.heap.size,i,none⟩ (.int .i64 4)).cell? ⟨w.heap.size,i,none⟩=some (.int .i64 (((partI lo17 i).set i 4).getD i 0)):=hs1.cell (i64s_get _ i (by simp;omega))
    have f2:=hs1.frozen i
    have hs2:=hs1.set i (.int .i64 5)
    have hB2:=hB1.setCell (p:=⟨w.heap.size,i,none⟩) (Nat.le_refl _) (.int .i64 5)
    rw [i64s_set,List.set_set,hst] at hs2
    have HS:=Lib.hid hs2
    have HB2:=Lib.hid hB2
    generalize (partI lo17 i).getD i 0=y at*
    generalize ((partI lo17 i).set i 4).getD i 0=z at*
    clear hst hl hL hB hs1 hB1 hs2 hB2
    go_wp2
    go_roundw
    case rel=>exact ⟨i+1,by omega,by first | rfl | go_num,HS.out,HB2.out⟩
    case measure=>simp [intOf];omega
  ·obtain rfl:i=17:=by omega
   have c1:wr.cell? ⟨w.heap.size,257,none⟩=some (.int .i64 ((partI lo17 17).getD 257 0)):=hL.cell (i64s_get _ 257 (by omega))
   have f1:=hL.frozen 257
   have hs1:=hL.set 257 (.int .i64 5)
   rw [i64s_set,lo17_all] at hs1
   have HS:=Lib.hid hs1
   have HB1:=Lib.hid (hB.setCell (p:=⟨w.heap.size,257,none⟩) (Nat.le_refl _) (.int .i64 5))
   generalize (partI lo17 17).getD 257 0=y at*
   clear hl hL hB hs1
   go_wp2
   go_ret
   refine ⟨w.heap.size,?_,Nat.le_refl _,HS.out,HB1.out⟩
   rw [lol_length]
   rfl
def MkB (B:List Nat) (w:World) (e:Ending) (w':World):Prop:=
 ∃ g,e=.returned (.slice (some ⟨g,0,none⟩) B.length B.length)∧w.heap.size≤g∧Blk w' g 5 (u8s B)∧Below w.heap.size w w'
theorem asBytes_any (v:Value) (L:List Int) (w:World) (hv:IsInts w v L) (hL:∀ x∈L,0≤x∧x<256) (hl:L.length≤1000000):
  Calls Tryz.prog 72 #[v] w (MkB (L.map Int.toNat) w):=by
 obtain ⟨a,cap,rfl,hcap,hmax⟩:=hv.slice
 obtain ⟨i0,hi,hz0,hz1,hz2⟩:=info_parts info5
 have HI:=Lib.hid hi
 have HZ:=Lib.hid (And.intro hz0 (And.intro hz1 hz2))
 have HV:=Lib.hid hv
 have HX:=Lib.hid hL
 obtain ⟨X,hX⟩:∃ X,L.map Int.toNat=X:=⟨_,rfl⟩
 have hXl:X.length=L.length:=by rw [← hX];simp
 have HXL:=Lib.hid hXl
 have HXE:=Lib.hid hX
 rw [hX]
 clear hi hz0 hz1 hz2 hv hL hXl hX
 go_enter Tryz.func72,Tryz.ntmps72
 go_wp2_with (at_make;refine wpList_make_full _ rfl _ _ 27 rfl w.heap.size 5 i0 (.int .u8 0) 1 Tryz.underlying27 HI.out HZ.out.1 HZ.out.2.1 .i64 .i64 _ _ L.length rfl rfl rfl rfl (by rw [HZ.out.2.2];omega) (by unfold maxLen;omega) (Nat.le_refl _) ?_;intro w1 hown hgr)
 have HL:Hid (Blk w1 w.heap.size 5 (u8s (partly X 0))):=Lib.hid (by rw [partly_zero,HXL.out];exact made_zero hown)
 have HB:=Lib.hid ((Below.refl _ w).grown hgr (Nat.le_refl _) (by simp))
 clear hown hgr HI HZ
 go_loopw [11] (fun x wr=>∃ i:Nat,i≤L.length∧x=.int .i64 i∧Blk wr w.heap.size 5 (u8s (partly X i))∧Below w.heap.size w wr) (fun x _=>L.length-(intOf x).toNat)
 case atStart=>exact ⟨0,by omega,rfl,HL.out,HB.out⟩
 case round=>
  obtain ⟨i,hi,rfl,hL,hB⟩:=hrel
  clear HL HB
  by_cases hlt:i<L.length
  ·obtain ⟨bb,off,cap',hs,_,_,hbl,hc⟩:=HV.out.cells (by omega)
   simp at hs
   obtain ⟨rfl,rfl⟩:=hs
   have c0:wr.cell? ⟨bb,off+i,none⟩=some (.int .i64 (L.getD i 0)):=(hB.cell (p:=⟨bb,off+i,none⟩) hbl).trans (hc i hlt)
   have hx:=HX.out (L.getD i 0) (by rw [List.getD,List.getElem?_eq_getElem hlt];exact List.getElem_mem _)
   have hst:=partly_step X i (by rw [HXL.out];exact hlt)
   have e:X.getD i 0=(L.getD i 0).toNat:=by rw [← HXE.out];simp [List.getD,hlt]
   rw [e] at hst
   have c1:=hL.cell (u8s_get (partly X i) i (by rw [partly_length,HXL.out];exact hlt))
   have f1:=hL.frozen i
   have hs1:=hL.set i (.int .u8 ((L.getD i 0).toNat:Nat))
   rw [u8s_set,hst] at hs1
   generalize L.getD i 0=x at*
   have hm:x%256=x:=by omega
   have hm2:((x.toNat:Nat):Int)=x:=by omega
   rw [hm2] at hs1
   have HS:=Lib.hid hs1
   have HB1:=Lib.hid (hB.setCell (p:=⟨w.heap.size,i,none⟩) (Nat.le_refl _) (.int .u8 x))
   generalize (partly X i).getD i 0=y at*
   clear hst e hL hB hs1 hc hm2
   go_wp2
   go_roundw
   case rel=>exact ⟨i+1,by omega,by first | rfl | go_num,HS.out,HB1.out⟩
   case measure=>simp [intOf];omega
  ·obtain rfl:i=L.length:=by omega
   have e:partly X L.length=X:=by rw [← HXL.out,partly_all]
   rw [e] at hL
   have HS:=Lib.hid hL
   have HB1:=Lib.hid hB
   clear e hL hB
   go_wp2
   go_ret
   refine ⟨w.heap.size,?_,Nat.le_refl _,HS.out,HB1.out⟩
   rw [HXL.out]
   rfl
theorem info64:(Tryz.prog.info? 2).map (fun i=>(i.zero,i.size,i.bytes))=some (some (.int .i64 0),1,8):=by kernel_rfl
theorem frq_snoc (T:List Int) {x:Int} (h:0≤x∧x<258):frq (T++[x])=(frq T).set x.toNat ((frq T).getD x.toNat 0+1):=by
 rw [← frq_cons T h]
 unfold frq
 refine List.map_congr_left fun s _=>?_
 rw [List.count_append,List.count_cons,List.count_cons,List.count_nil]
 omega
theorem take_nextI {L:List Int} {i:Nat} (h:i<L.length):L.take (i+1)=L.take i++[L.getD i 0]:=by
 rw [List.take_add_one,List.getElem?_eq_getElem h]
 simp [List.getD,h]
theorem freqsOf_any (v:Value) (L:List Int) (w:World) (hv:IsInts w v L) (hL:∀ x∈L,0≤x∧x<258) (hl:L.length≤1000000):
  Calls Tryz.prog 69 #[v] w (MkI 2 (frq L) w):=by
 obtain ⟨a,cap,rfl,hcap,hmax⟩:=hv.slice
 obtain ⟨i0,hi,hz0,hz1,hz2⟩:=infoI_parts info64
 have HI:=Lib.hid hi
 have HZ:=Lib.hid (And.intro hz0 (And.intro hz1 hz2))
 have HV:=Lib.hid hv
 have HX:=Lib.hid hL
 clear hi hz0 hz1 hz2 hv hL
 go_enter Tryz.func69,Tryz.ntmps69
 go_wp2_with (at_make;refine wpList_make_full _ rfl _ _ 108 rfl w.heap.size 2 i0 (.int .i64 0) 1 Tryz.underlying108 HI.out HZ.out.1 HZ.out.2.1 .i64 .i64 _ _ 258 rfl rfl rfl rfl (by rw [HZ.out.2.2];omega) (by unfold maxLen;omega) (Nat.le_refl _) ?_;intro w1 hown hgr)
 rw [S6.made_ints] at hown
 have hL:=S6.made_blk hown
 have HL:Hid (Blk w1 w.heap.size 2 (i64s (frq (L.take 0)))):=Lib.hid (by rw [List.take_zero,frq_nil];exact hL)
 have HB:=Lib.hid ((Below.refl _ w).grown hgr (Nat.le_refl _) (by simp))
 clear hown hgr hL HI HZ
 go_loopw [9] (fun x wr=>∃ i:Nat,i≤L.length∧x=.int .i64 i∧Blk wr w.heap.size 2 (i64s (frq (L.take i)))∧Below w.heap.size w wr) (fun x _=>L.length-(intOf x).toNat)
 case atStart=>exact ⟨0,by omega,rfl,HL.out,HB.out⟩
 case round=>
  obtain ⟨i,hi,rfl,hL,hB⟩:=hrel
  clear HL HB
  by_cases hlt:i<L.length
  ·obtain ⟨bb,off,cap',hs,_,_,hbl,hc⟩:=HV.out.cells (by omega)
   simp at hs
   obtain ⟨rfl,rfl⟩:=hs
   have c0:wr.cell? ⟨bb,off+i,none⟩=some (.int .i64 (L.getD i 0)):=(hB.cell (p:=⟨bb,off+i,none⟩) hbl).trans (hc i hlt)
   have hx:=HX.out (L.getD i 0) (by rw [List.getD,List.getElem?_eq_getElem hlt];exact List.getElem_mem _)
   have hsn:=frq_snoc (L.take i) hx
   rw [← take_nextI hlt] at hsn
   obtain ⟨y,hy⟩:∃ y:Nat,L.getD i 0=y:=⟨(L.getD i 0).toNat,by omega⟩
   rw [hy] at c0 hx hsn
   rw [Int.toNat_natCast] at hsn
   have hy2:y<258:=by omega
   have c1:wr.cell? ⟨w.heap.size,y,none⟩=some (.int .i64 ((frq (L.take i)).getD y 0)):=hL.cell (i64s_get _ y (by rw [frq_length];exact hy2))
   have f1:=hL.frozen y
   have hs1:=hL.set y (.int .i64 ((frq (L.take i)).getD y 0+1))
   rw [i64s_set,← hsn] at hs1
   have hb:=frq_in (L.take i) ((frq (L.take i)).getD y 0) (by rw [List.getD,List.getElem?_eq_getElem (by rw [frq_length];exact hy2)];exact List.getElem_mem _)
   have hb2:((L.take i).length:Int)≤1000000:=by rw [List.length_take];omega
   generalize (frq (L.take i)).getD y 0=z at*
   have hz:wrap64 (z+1)=z+1:=by unfold wrap64;omega
   have hyz:(y:Int)<258:=by omega
   have HS:=Lib.hid hs1
   have HB1:=Lib.hid (hB.setCell (p:=⟨w.heap.size,y,none⟩) (Nat.le_refl _) (.int .i64 (z+1)))
   clear hsn hy hL hB hs1 hc hb hb2 hx
   go_wp2
   go_roundw
   case rel=>exact ⟨i+1,by omega,by first | rfl | go_num,HS.out,HB1.out⟩
   case measure=>simp [intOf];omega
  ·obtain rfl:i=L.length:=by omega
   rw [List.take_of_length_le (Nat.le_refl _)] at hL
   have HS:=Lib.hid hL
   have HB1:=Lib.hid hB
   clear hL hB
   go_wp2
   go_ret
   refine ⟨w.heap.size,?_,Nat.le_refl _,HS.out,HB1.out⟩
   rw [frq_length]
   rfl
def minC (ats:Array TypeId) (ty:TypeId) (v u:Value):Sem Value:=Builtin.min_ ats ty #[v,u]
theorem minC_eq (ats:Array TypeId) (ty:TypeId) (v u:Value):Builtin.min_ ats ty #[v,u]=minC ats ty v u:=rfl
theorem run_minC (ats:Array TypeId) (ty:TypeId) (m n:Int) (w:World):(minC ats ty (.int .i64 m) (.int .i64 n)).run Tryz.prog w=.ok (.int .i64 (min m n)) w:=by
 unfold minC Builtin.min_
 by_cases h:n<m
 ·have e:min m n=n:=by omega
  rw [e]
  simp [Builtin.min2,h]
 ·have e:min m n=m:=by omega
  rw [e]
  simp [Builtin.min2,h]
attribute [local go_sem ↓] minC_eq
theorem lensOf_any (v:Value) (F:List Int) (w:World) (hv:IsInts w v F) (hF:S6.Pl.allOk F) (hl:F.length≤300):
  Calls Tryz.prog 68 #[v] w (MkI 3 (lensF F) w):=by
 obtain ⟨a,cap,rfl,hcap,hmax⟩:=hv.slice
 obtain ⟨i0,hi,hz0,hz1,hz2⟩:=infoI_parts info64
 have HI:=Lib.hid hi
 have HZ:=Lib.hid (And.intro hz0 (And.intro hz1 hz2))
 have HV:=Lib.hid hv
 have HX:=Lib.hid hF
 clear hi hz0 hz1 hz2 hv hF
 go_enter Tryz.func68,Tryz.ntmps68
 go_wp2_with (at_make;refine wpList_make_full _ rfl _ _ 108 rfl w.heap.size 2 i0 (.int .i64 0) 1 Tryz.underlying108 HI.out HZ.out.1 HZ.out.2.1 .i64 .i64 _ _ F.length rfl rfl rfl rfl (by rw [HZ.out.2.2];omega) (by unfold maxLen;omega) (Nat.le_refl _) ?_;intro w1 hown hgr)
 rw [S6.made_ints] at hown
 have hL:=S6.made_blk hown
 have HL:Hid (Blk w1 w.heap.size 2 (i64s (partI F 0))):=Lib.hid (by rw [partI_zero];exact hL)
 have HB:=Lib.hid ((Below.refl _ w).grown hgr (Nat.le_refl _) (by simp))
 clear hown hgr hL HI HZ
 go_loopw [13] (fun x wr=>∃ i:Nat,i≤F.length∧x=.int .i64 i∧Blk wr w.heap.size 2 (i64s (partI F i))∧Below w.heap.size w wr) (fun x _=>F.length-(intOf x).toNat)
 case atStart=>exact ⟨0,by omega,rfl,HL.out,HB.out⟩
 case round=>
  obtain ⟨i,hi,rfl,hL,hB⟩:=hrel
  clear HL HB
  by_cases hlt:i<F.length
  ·obtain ⟨bb,off,cap',hs,_,_,hbl,hc⟩:=HV.out.cells (by omega)
   simp at hs
   obtain ⟨rfl,rfl⟩:=hs
   have c0:wr.cell? ⟨bb,off+i,none⟩=some (.int .i64 (F.getD i 0)):=(hB.cell (p:=⟨bb,off+i,none⟩) hbl).trans (hc i hlt)
   have hx:=HX.out (F.getD i 0) (by rw [List.getD,List.getElem?_eq_getElem hlt];exact List.getElem_mem _)
   have hst:=partI_step F i hlt
   have c1:=hL.cell (i64s_get (partI F i) i (by rw [partI_length];exact hlt))
   have f1:=hL.frozen i
   have hs1:=hL.set i (.int .i64 (F.getD i 0))
   rw [i64s_set,hst] at hs1
   generalize F.getD i 0=x at*
   have hm:min x 1073741824=x:=by omega
   have hrm:=fun (ats:Array TypeId) (ty:TypeId) (W:World)=>run_minC ats ty x 1073741824 W
   rw [hm] at hrm
   have HS:=Lib.hid hs1
   have HB1:=Lib.hid (hB.setCell (p:=⟨w.heap.size,i,none⟩) (Nat.le_refl _) (.int .i64 x))
   generalize (partI F i).getD i 0=y at*
   clear hst hL hB hs1 hc hm hx
   go_wp2
   go_roundw
   case rel=>exact ⟨i+1,by omega,by first | rfl | go_num,HS.out,HB1.out⟩
   case measure=>simp [intOf];omega
  ·obtain rfl:i=F.length:=by omega
   rw [partI_all] at hL
   have hI:IsInts wr (.slice (some ⟨w.heap.size,0,none⟩) F.length F.length) F:=ints_blk hL rfl (by unfold maxLen;omega)
   have HB1:=Lib.hid hB
   have hcall:=S6.of_any _ F wr (ints6 hI) (by omega)
   clear hL hB hI
   go_wp2_with fail
   refine hcall.mono ?_
   rintro e w' (⟨hno,_⟩ | ⟨_,g,L,S,rfl,hg,hblk,hok,hbel⟩)
   ·exact absurd ⟨hl,HX.out⟩ hno
   have HE:=Lib.hid (lensF_one hok (by omega))
   have HK:=Lib.hid (And.intro hg (And.intro hblk hbel))
   clear hg hblk hok hbel hcall
   go_wp2
   go_ret
   refine ⟨g,?_,Nat.le_trans HB1.out.size HK.out.1,by rw [← HE.out];exact HK.out.2.1,HB1.out.trans (HK.out.2.2.mono HB1.out.size)⟩
   rw [lensF_length]
   rfl
end Go.Proofs.YtmjpnbadfmgimaaGreatDoor.S10
namespace Go.Proofs.YtmjpnbadfmgimaaGreatDoor.S10
open Go.RowKit Pl
theorem u8_bytes {w:World} {g n:Nat} {B:List Nat} (hx:∀ x∈B,x<256) (h:Blk w g 5 (u8s B)) (hn:B.length=n) (hm:n≤maxLen):IsBytes w (.slice (some ⟨g,0,none⟩) n n) B:=
 S5.blk_bytes h hx hn hm
theorem pack_lt (a:Nat) (S:List Int):∀ x∈packE a S,x<256:=by
 intro x hx
 unfold packE S7.Pl.bytesOf at hx
 obtain ⟨i,_,rfl⟩:=List.mem_map.1 hx
 exact S7.Pl.byteAt_lt _ _
theorem bl64 {a:Nat} (h:a<9223372036854775808):bl a≤63:=bl_le (k:=63) (by simpa using h)
theorem packed_any (a:Nat) (v:Value) (S:List Int) (w:World) (hv:IsInts w v S) (ha:a<9223372036854775808) (hS:∀ x∈S,0≤x∧x<258) (hl:S.length≤1000000):
  Calls Tryz.prog 53 #[.int .i64 a,v] w (MkB (packE a S) w):=by
 have hb63:=bl64 ha
 obtain ⟨n,hn⟩:∃ n,bl a=n:=⟨_,rfl⟩
 rw [hn] at hb63
 have hlen:=fun W=>len_any (a:Int) W (by omega) (by omega)
 rw [Int.toNat_natCast,show Lib.bitLen a=n from hn] at hlen
 have hfr:S6.Pl.allOk (frq S):=fun x hx=>by have:=frq_in S x hx;omega
 obtain ⟨va,vcap,rfl,hcap,hmax⟩:=hv.slice
 have hne:0<S.length→∀ ad m c,Value.slice va S.length vcap=.slice (some ad) m c→ad.block<w.heap.size:=fun h0 ad m c e=>by
  obtain ⟨b,off,cap',hs,_,_,hbl,_⟩:=hv.cells h0
  rw [hs] at e
  simp at e
  rw [← e.1]
  exact hbl
 have HNE:=Lib.hid hne
 have HV:=Lib.hid hv
 have HS:=Lib.hid hS
 have HFR:=Lib.hid hfr
 have HN:=Lib.hid hn
 have HLEN:=Lib.hid hlen
 have HA:=Lib.hid ha
 have hm1:(a:Int)%18446744073709551616=a:=by omega
 have hm2:(n:Int)%18446744073709551616=n:=by omega
 clear hv hS hfr hn hlen hne
 go_enter Tryz.func53,Tryz.ntmps53
 go_wp2_with fail
 obtain ⟨g,hg⟩:∃ g,g=w.heap.size:=⟨_,rfl⟩
 have hW0:S7.Wr (w.alloc (.cells (S7.wcells none []).toArray 104)) g []:=by rw [hg];exact S7.Wr.fresh w
 have hB0:Below w.heap.size w (w.alloc (.cells (S7.wcells none []).toArray 104)):=(Below.refl _ _).alloc (Nat.le_refl _) _
 have HG:=Lib.hid hg
 have e47:(Obj.cells Tryz.zeroCells104 104)=.cells (S7.wcells none []).toArray 104:=by kernel_rfl
 have hgs:w.heap.size≤g:=by rw [hg];exact Nat.le_refl _
 rw [← hg,e47]
 clear hg e47
 generalize w.alloc (.cells (S7.wcells none []).toArray 104)=w1 at*
 have HW:=Lib.hid hW0
 have HB:=Lib.hid hB0
 clear hW0 hB0
 refine (HLEN.out _).mono ?_
 rintro e w2 ⟨rfl,rfl⟩
 clear HLEN
 go_wp2_with fail
 refine (S7.put_any g [] n 6 _ (S7.U64.small (by omega) (by omega)) HW.out (by decide) (by omega)).mono ?_
 rintro e w3 ⟨rfl,hw3,hg3⟩
 rw [List.nil_append,Int.toNat_natCast] at hw3
 have HB3:=Lib.hid (HB.out.trans (hg3.below HB.out.size hgs))
 have HW3:=Lib.hid hw3
 clear hw3 hg3 HB HW
 go_wp2_with fail
 refine (S7.put_any g _ a n _ ⟨by omega,by omega⟩ HW3.out (by rw [S7.Pl.bitsOf_length];omega) (by omega)).mono ?_
 rintro e w4 ⟨rfl,hw4,hg4⟩
 rw [Int.toNat_natCast] at hw4
 have HB4:=Lib.hid (HB3.out.trans (hg4.below HB3.out.size hgs))
 have HW4:=Lib.hid hw4
 have HV4:=Lib.hid (HV.out.below HB4.out)
 clear hw4 hg4 HB3 HW3
 go_wp2_with fail
 refine (freqsOf_any _ S w4 HV4.out HS.out hl).mono ?_
 rintro e w5 ⟨g5,rfl,hge5,hk5,hb5⟩
 have HB5:=Lib.hid (HB4.out.trans (hb5.mono HB4.out.size))
 have HW5:=Lib.hid (HW4.out.below hb5)
 have HF5:Hid (IsInts w5 (.slice (some ⟨g5,0,none⟩) (frq S).length (frq S).length) (frq S)):=Lib.hid (ints_blk hk5 rfl (by rw [frq_length];unfold maxLen;omega))
 clear hge5 hk5 hb5 HB4 HW4 HV4
 go_wp2_with fail
 refine (lensOf_any _ (frq S) w5 HF5.out HFR.out (by rw [frq_length];omega)).mono ?_
 rintro e w6 ⟨g6,rfl,hge6,hk6,hb6⟩
 have HB6:=Lib.hid (HB5.out.trans (hb6.mono HB5.out.size))
 have HW6:=Lib.hid (HW5.out.below hb6)
 have hL6:Blk w6 g6 3 (i64s (lenS S)):=hk6
 have hll:(lensF (frq S)).length=258:=lenS_length S
 rw [hll]
 have hg6:g<g6:=Nat.lt_of_lt_of_le HW5.out.lt hge6
 have HL6:=Lib.hid hL6
 clear hge6 hk6 hb6 HB5 HW5 HF5 hL6 hll
 go_wp2_with fail
 refine (lol_any w6).mono ?_
 rintro e w7 ⟨g7,rfl,hge7,hk7,hb7⟩
 rw [lol_length]
 have hlt6:=HL6.out.lt
 have HB7:=Lib.hid (HB6.out.trans (hb7.mono HB6.out.size))
 have HW7:=Lib.hid (HW6.out.below hb7)
 have HL7:=Lib.hid (HL6.out.below hb7 hlt6)
 have HO7:=Lib.hid hk7
 have hg7:g<g7:=Nat.lt_of_lt_of_le HW6.out.lt hge7
 clear hge7 hk7 hb7 HB6 HW6 HL6 hlt6
 go_wp2_with fail
 refine (asBytes_any _ (lenS S) w7 (ints_blk HL7.out (lenS_length S).symm (by unfold maxLen;omega)) (fun x hx=>by have:=(lenS_ok S).2.1 x hx;omega) (by rw [lenS_length];omega)).mono ?_
 rintro e w8 ⟨g8,rfl,hge8,hk8,hb8⟩
 have hll:((lenS S).map Int.toNat).length=258:=by rw [List.length_map,lenS_length]
 rw [hll]
 have hlt7:=HL7.out.lt
 have hlo7:=HO7.out.lt
 have HB8:=Lib.hid (HB7.out.trans (hb8.mono HB7.out.size))
 have HW8:=Lib.hid (HW7.out.below hb8)
 have HL8:=Lib.hid (HL7.out.below hb8 hlt7)
 have HO8:=Lib.hid (HO7.out.below hb8 hlo7)
 have HY8:=Lib.hid (u8_bytes (lens_nat_lt S) hk8 hll (by unfold maxLen;omega))
 clear hge8 hk8 hb8 HB7 HW7 HL7 HO7 hlt7 hlo7 hll
 go_wp2_with fail
 refine (S5.encode_any _ _ w8 HY8.out (by rw [List.length_map,lenS_length];omega)).mono ?_
 rintro e w9 ⟨sp,k,cp,rfl,hk,ho9,hb9⟩
 have hlt8:=HL8.out.lt
 have hlo8:=HO8.out.lt
 have hwl8:=HW8.out.lt
 have HB9:=Lib.hid (HB8.out.trans (hb9.mono HB8.out.size))
 have HW9:=Lib.hid (HW8.out.below hb9)
 have HL9:=Lib.hid (HL8.out.below hb9 hlt8)
 have HO9:=Lib.hid (HO8.out.below hb9 hlo8)
 have hT9:IsInts w9 (.slice sp k cp) (tabS S):=isInts_own hk.symm ho9
 have hT9n:∀ ad m c,Value.slice sp k cp=.slice (some ad) m c→ad.block≠g:=fun ad m c e=>by
  simp at e
  obtain ⟨rfl,_,_⟩:=e
  have:=(ho9.lt ad.block rfl).1
  omega
 have HT9:=Lib.hid hT9
 have HT9N:=Lib.hid hT9n
 clear ho9 hb9 HB8 HW8 HL8 HO8 HY8 hlt8 hlo8 hT9 hT9n hk
 go_wp2_with fail
 refine (S7.write_any _ _ lolF (tabS S) g _ w9 (ints7 (ints_blk HO9.out lol_length.symm (by unfold maxLen;omega))) (by rw [lol_length];omega) (ints7 HT9.out) (by have:=tab_length S;omega) HW9.out (by rw [List.length_append,S7.Pl.bitsOf_length,S7.Pl.bitsOf_length];omega) (fun _=>HT9N.out)).mono ?_
 rintro e w10 (⟨hno,_⟩ | ⟨_,hno,_⟩ | ⟨_,_,rfl,hw10,hg10⟩)
 ·exact absurd lol_ok hno
 ·rw [tab_has S] at hno;exact absurd hno (by decide)
 have HB10:=Lib.hid (HB9.out.trans (hg10.below HB9.out.size hgs))
 have HW10:=Lib.hid hw10
 have HL10:=Lib.hid (HL9.out.grown hg10 (by intro e;simp at e;omega))
 have HV10:=Lib.hid (HV.out.below HB10.out)
 clear hw10 hg10 HB9 HW9 HL9 HO9 HT9 HT9N hwl8
 go_wp2_with fail
 refine (S7.write_any _ _ (lenS S) S g _ w10 (ints7 (ints_blk HL10.out (lenS_length S).symm (by unfold maxLen;omega))) (by rw [lenS_length];omega) (ints7 HV10.out) hl HW10.out (by
  have h1:=lol_short (tabS S)
  have h2:=tab_length S
  simp only [List.length_append,S7.Pl.bitsOf_length];omega) (fun h0 ad m c e=>by have:=HNE.out h0 ad m c e;omega)).mono ?_
 rintro e w11 (⟨hno,_⟩ | ⟨_,hno,_⟩ | ⟨_,_,rfl,hw11,hg11⟩)
 ·exact absurd (lenS_ok S) hno
 ·rw [lenS_has HS.out] at hno;exact absurd hno (by decide)
 have HB11:=Lib.hid (HB10.out.trans (hg11.below HB10.out.size hgs))
 have hK:S7.Pl.bitsOf n 6++S7.Pl.bitsOf a n++S7.Pl.codeBs lolF (tabS S)++S7.Pl.codeBs (lenS S) S=bitsE a S:=by
  unfold bitsE
  rw [HN.out]
  simp only [List.append_assoc]
 rw [hK] at hw11
 have hKl:(bitsE a S).length≤20000000:=by
  rw [← hK]
  have h1:=lol_short (tabS S)
  have h2:=tab_length S
  have h3:=S7.Pl.codeBs_length (lenS_ok S).2.1 S
  simp only [List.length_append,S7.Pl.bitsOf_length];omega
 have HW11:=Lib.hid hw11
 clear hw11 hg11 HB10 HW10 HL10 HV10 hK
 go_wp2_with fail
 refine (S7.bytes_any g _ w11 HW11.out (by omega)).mono ?_
 rintro e w12 ⟨rfl,hk12,hb12⟩
 have HB12:=Lib.hid (HB11.out.trans (hb12.mono HB11.out.size))
 have HK12:=Lib.hid hk12
 have hgg:w.heap.size≤w11.heap.size:=HB11.out.size
 have hpl:(packE a S).length=((bitsE a S).length+7)/8:=S7.Pl.bytesOf_length _
 have HPL:=Lib.hid hpl
 clear hk12 hb12 HB11 HW11 hpl hKl
 go_wp2
 go_ret
 refine ⟨w11.heap.size,?_,hgg,HK12.out,HB12.out⟩
 rw [HPL.out]
 rfl
attribute [local go_sem ↓] conv_eq
theorem equal_any (v u:Value) (A B:List Nat) (w:World) (hv:IsBytes w v A) (hu:IsBytes w u B):
  Calls Tryz.prog 134 #[v,u] w fun e w'=>e=.returned (.bool (decide (A=B)))∧w'=w:=by
 have s1:=run_conv hv
 have s2:=run_conv hu
 have q:=str_eqb hv.1 hu.1
 obtain ⟨a1,c1,rfl,_,_⟩:=hv.slice
 obtain ⟨a2,c2,rfl,_,_⟩:=hu.slice
 generalize decide (A=B)=d at*
 generalize str A=sa at*
 generalize str B=sb at*
 clear hv hu
 go_enter Tryz.func134,Tryz.ntmps134
 go_wp2
 go_ret
 exact ⟨rfl,rfl⟩
theorem rd_drew {w:World} {base b at_:Nat} {B:List Nat} (h:S7.Rd w base b B at_) (k:Nat):S7.Rd (w.drewN k) base b B at_:=h
theorem rdP_none {B:List Nat} (h:¬ 6≤8*B.length):rdP (S7.Pl.bitsB B)=none:=by
 unfold rdP
 rw [if_neg (by rw [S7.Pl.bitsB_length];omega)]
theorem rdP_short {B:List Nat} (h:¬ 6+S7.take B 0 6≤8*B.length):rdP (S7.Pl.bitsB B)=none:=by
 unfold rdP
 rw [if_neg]
 rw [S7.Pl.bitsB_length]
 intro hc
 exact h hc.2
theorem rdP_some {B:List Nat} (h6:6≤8*B.length) (h:6+S7.take B 0 6≤8*B.length):rdP (S7.Pl.bitsB B)=some (S7.take B 6 (S7.take B 0 6),6+S7.take B 0 6):=by
 unfold rdP
 rw [if_pos (by rw [S7.Pl.bitsB_length];exact ⟨h6,h⟩)]
 rfl
def PlacePost (b base:Nat) (B:List Nat) (w:World) (e:Ending) (w':World):Prop:=
 (∃ a p,rdP (S7.Pl.bitsB B)=some (a,p)∧a<9223372036854775808∧e=.returned (.tuple #[.int .i64 a,.bool true])∧S7.Rd w' base b B p∧Gr w w' b)∨
  (rdP (S7.Pl.bitsB B)=none∧∃ x m,e=.returned (.tuple #[.int .i64 x,.bool false])∧S7.Rd w' base b B m∧Gr w w' b)
theorem readPlace_any (b base:Nat) (B:List Nat) (w:World) (hr:S7.Rd w base b B 0):
  Calls Tryz.prog 130 #[.pointer (some ⟨b,0,none⟩)] w (PlacePost b base B w):=by
 by_cases h6:6≤8*B.length
 rotate_left
 ·have hc:=S7.get_bad b base B 0 6 w hr (.inr (.inr (by omega)))
  have HN:=Lib.hid (rdP_none h6)
  have HR:=Lib.hid hr
  clear hr h6
  go_enter Tryz.func130,Tryz.ntmps130
  go_wp2_with fail
  refine hc.mono ?_
  rintro e w1 ⟨rfl,k,rfl⟩
  clear hc
  go_wp2
  go_ret2
  exact .inr ⟨HN.out,0,0,rfl,rd_drew HR.out k,(Gr.refl _ _).drewN k⟩
 have hc:=S7.get_any b base B 0 6 w hr (by omega) (by omega)
 have hs64:=S7.take_lt B 0 6
 have HP:=Lib.hid (@rdP_some B h6)
 have HQ:=Lib.hid (@rdP_short B)
 unfold S7.GetPost at hc
 rw [show ((6:Nat):Int)=6 from rfl] at hc
 obtain ⟨n,hn⟩:∃ n,S7.take B 0 6=n:=⟨_,rfl⟩
 rw [hn] at hc hs64 HP HQ
 have hs:n<64:=by simpa using hs64
 have hm:(n:Int)%18446744073709551616=n:=by omega
 clear hn hr hs64
 go_enter Tryz.func130,Tryz.ntmps130
 go_wp2_with fail
 refine hc.mono ?_
 rintro e w1 ⟨rfl,hr1,hg1⟩
 rw [Nat.zero_add] at hr1
 have HR:=Lib.hid hr1
 have HG:=Lib.hid hg1
 clear hc hr1 hg1
 by_cases hle:6+n≤8*B.length
 ·have hc2:=fun W (hr:S7.Rd W base b B 6)=>S7.get_any b base B 6 n W hr (by omega) hle
  unfold S7.GetPost at hc2
  have hlt:=S7.take_lt B 6 n
  have HP1:=Lib.hid (HP.out hle)
  have h63:(2:Nat)^n≤2^63:=Nat.pow_le_pow_right (by omega) (by omega)
  have h63':(2:Nat)^63=9223372036854775808:=by decide
  generalize S7.take B 6 n=a at*
  have hlt2:a<9223372036854775808:=by omega
  have hwr:wrap64 (a:Int)=a:=by unfold wrap64;omega
  have HC2:=Lib.hid hc2
  clear hc2 hlt h63 h63' HP HQ
  go_wp2_with fail
  refine (HC2.out _ HR.out).mono ?_
  rintro e w2 ⟨rfl,hr2,hg2⟩
  have HR2:=Lib.hid hr2
  have HG2:=Lib.hid (HG.out.trans hg2)
  clear hr2 hg2 HC2 HR HG
  go_wp2
  go_ret2
  exact .inl ⟨a,6+n,HP1.out,hlt2,rfl,HR2.out,HG2.out⟩
 ·have hc2:=fun W (hr:S7.Rd W base b B 6)=>S7.get_bad b base B 6 n W hr (.inr (.inr (by omega)))
  have HN:=Lib.hid (HQ.out hle)
  have HC2:=Lib.hid hc2
  clear hc2 HP HQ
  go_wp2_with fail
  refine (HC2.out _ HR.out).mono ?_
  rintro e w2 ⟨rfl,k,rfl⟩
  clear HC2
  go_wp2
  go_ret2
  exact .inr ⟨HN.out,0,6,rfl,rd_drew HR.out k,HG.out.drewN k⟩
theorem rdF_len {F:List Int} {en:Int}:∀ (mo:Nat) (M:List Bool) (acc:List Int) (at_:Nat),(S7.Pl.rdF F en mo M acc at_).1.length≤acc.length+mo
 | 0,_,_,_=>by simp [S7.Pl.rdF]
 | m+1,M,acc,at_=>by
   rcases h:S7.Pl.stepL F (M.drop at_) with _ | ⟨s,n⟩
   ·rw [S7.Pl.rdF_none h];simp
   ·by_cases e:s=en
    ·subst e;rw [S7.Pl.rdF_end h];simp <;> omega
    ·rw [S7.Pl.rdF_more h e]
     have:=rdF_len m M (acc++[s]) (at_+n) (F:=F) (en:=en)
     simp at this;omega
theorem rdF_mem {F:List Int} {en:Int}:∀ (mo:Nat) (M:List Bool) (acc:List Int) (at_:Nat),(∀ x∈acc,0≤x∧x<F.length)→∀ x∈(S7.Pl.rdF F en mo M acc at_).1,0≤x∧x<F.length
 | 0,_,_,_,_=>by simp [S7.Pl.rdF]
 | m+1,M,acc,at_,ha=>by
   rcases h:S7.Pl.stepL F (M.drop at_) with _ | ⟨s,n⟩
   ·rw [S7.Pl.rdF_none h];simp
   ·obtain ⟨_,_,_,i,rfl,hi,_⟩:=S7.Pl.stepL_some h
    have ha2:∀ x∈acc++[(i:Int)],0≤x∧x<F.length:=fun x hx=>by
     rcases List.mem_append.1 hx with hx | hx
     ·exact ha x hx
     ·simp at hx;omega
    by_cases e:(i:Int)=en
    ·subst e;rw [S7.Pl.rdF_end h];exact ha2
    ·rw [S7.Pl.rdF_more h e]
     exact rdF_mem m M _ _ ha2
def LensPost (b base:Nat) (B:List Nat) (at_:Nat) (w:World) (e:Ending) (w':World):Prop:=
 (∃ F n g,rdL ((S7.Pl.bitsB B).drop at_)=some (F,n)∧F.length≤258∧e=.returned (.tuple #[.slice (some ⟨g,0,none⟩) F.length F.length,.bool true])∧w.heap.size≤g∧Blk w' g 3 (i64s F)∧S7.Rd w' base b B (at_+n)∧Gr w w' b)∨
  (rdL ((S7.Pl.bitsB B).drop at_)=none∧e=.returned (.tuple #[.slice none 0 0,.bool false])∧∃ m,S7.Rd w' base b B m∧Gr w w' b)
theorem readLens_any (b base:Nat) (B:List Nat) (at_:Nat) (w:World) (hr:S7.Rd w base b B at_) (hB:B.length≤1000000):
  Calls Tryz.prog 131 #[.pointer (some ⟨b,0,none⟩)] w (LensPost b base B at_ w):=by
 obtain ⟨M,hM⟩:∃ M,(S7.Pl.bitsB B).drop at_=M:=⟨_,rfl⟩
 have hlen:=rdF_len (F:=lolF) (en:=257) 259 M [] 0
 have HLEN:=Lib.hid hlen
 have HM:=Lib.hid hM
 have HR:=Lib.hid hr
 have hblt:=hr.lt
 clear hr hM hlen
 unfold LensPost
 rw [HM.out]
 go_enter Tryz.func131,Tryz.ntmps131
 go_wp2_with fail
 refine (lol_any w).mono ?_
 rintro e w1 ⟨g1,rfl,hge1,hk1,hb1⟩
 rw [lol_length]
 have HG1:=Lib.hid (Gr.ofBelow (b:=b) hb1)
 have HR1:=Lib.hid (HR.out.below hb1)
 have HI1:=Lib.hid (ints7 (ints_blk hk1 lol_length.symm (by unfold maxLen;omega)))
 clear hge1 hk1 hb1 HR
 go_wp2_with fail
 refine (S7.read_codes _ lolF 257 259 b base B at_ w1 HI1.out (by rw [lol_length];omega) (by omega) HR1.out (by omega)).mono ?_
 rintro e w2 ⟨hg2,⟨hno,_⟩ | ⟨_,L,r,n,sp,cap,hrd,rfl,ho2,m,hr2,hrm⟩⟩
 ·exact absurd lol_ok hno
 rw [HM.out] at hrd
 have hrd':S7.Pl.rdF lolF 257 259 M [] 0=(L,r,n):=hrd
 have HG2:=Lib.hid (HG1.out.trans hg2)
 have HR2:=Lib.hid hr2
 have HRM:=Lib.hid hrm
 have hLl:L.length≤259:=by
  have:=HLEN.out
  rw [hrd'] at this
  simpa using this
 have hI2:=isInts_own rfl ho2
 have HI2:=Lib.hid hI2
 have HRD:=Lib.hid hrd'
 clear hg2 hr2 hrm hrd hrd' ho2 hI2 HG1 HR1 HI1
 by_cases h0:r=0
 rotate_left
 ·have hz:(r != 0)=true:=by simpa using h0
  have HNO:Hid (rdL M=none):=Lib.hid (by unfold rdL;rw [HRD.out];simp [h0])
  clear h0
  go_wp2
  go_ret2
  exact .inr ⟨HNO.out,rfl,_,HR2.out,HG2.out⟩
 subst h0
 have hmn:=HRM.out rfl
 have HMN:=Lib.hid hmn
 clear hmn HRM
 obtain ⟨E,hE⟩:∃ E,S5.Pl.ans L [] 0 258=E:=⟨_,rfl⟩
 go_wp2_with fail
 refine (S5.decode_any _ L 258 w2 HI2.out (by omega) (by omega)).mono ?_
 rintro e w3 ⟨dv,rfl,hx3,hb3⟩
 have e258:(258:Int).toNat=258:=rfl
 rw [e258,hE] at hx3 ⊢
 obtain ⟨er,X⟩:=E
 simp only at hx3 ⊢
 have HG3:=Lib.hid (HG2.out.trans (Gr.ofBelow hb3))
 have HR3:=Lib.hid (HR2.out.below hb3)
 have HX3:=Lib.hid hx3
 have HE:=Lib.hid hE
 clear e258 hb3 HG2 HR2 HI2 hE
 by_cases h0:er=0
 rotate_left
 ·have hz:(er != 0)=true:=by simpa using h0
  have HNO:Hid (rdL M=none):=Lib.hid (by unfold rdL;rw [HRD.out];simp [HE.out,h0])
  obtain ⟨da,dc,hd,_,_⟩:=hx3.slice
  subst hd
  clear h0 hx3
  go_wp2
  go_ret2
  exact .inr ⟨HNO.out,rfl,_,HR3.out,HG3.out⟩
 subst h0
 obtain ⟨da,dcap,rfl,hdc,hdm⟩:=hx3.slice
 have hXl:X.length≤258:=by
  obtain ⟨R,hR,hl⟩:=S5.Pl.ans_ok HE.out
  simp at hR;subst hR;exact hl
 have HYES:Hid (rdL M=some (X.map fun (c:Nat)=>(c:Int),n)):=Lib.hid (by unfold rdL;rw [HRD.out];simp [HE.out])
 obtain ⟨F,hF⟩:∃ F:List Int,(X.map fun (c:Nat)=>(c:Int))=F:=⟨_,rfl⟩
 have hFl:F.length=X.length:=by rw [← hF];simp
 rw [hF] at HYES
 have HF:=Lib.hid hF
 have HFL:=Lib.hid hFl
 have hw3:w.heap.size≤w3.heap.size:=HG3.out.size
 obtain ⟨i0,hi,hz0,hz1,hz2⟩:=infoI_parts infoI
 have HI:=Lib.hid hi
 have HZ:=Lib.hid (And.intro hz0 (And.intro hz1 hz2))
 clear hx3 hF hFl hi hz0 hz1 hz2 HRD HE
 go_wp2_with (at_make;refine wpList_make_full _ rfl _ _ 88 rfl w3.heap.size 3 i0 (.int .i64 0) 1 Tryz.underlying88 HI.out HZ.out.1 HZ.out.2.1 .i64 .i64 _ _ X.length rfl rfl rfl rfl (by rw [HZ.out.2.2];omega) (by unfold maxLen;omega) (Nat.le_refl _) ?_;intro w4 hown hgr)
 rw [S6.made_ints] at hown
 have hL:=S6.made_blk hown
 have HL:Hid (Blk w4 w3.heap.size 3 (i64s (partI F 0))):=Lib.hid (by rw [partI_zero,HFL.out];exact hL)
 have HB:=Lib.hid ((Below.refl _ w3).grown hgr (Nat.le_refl _) (by simp))
 clear hown hgr hL HI HZ
 go_loopw [30] (fun x wr=>∃ i:Nat,i≤X.length∧x=.int .i64 i∧Blk wr w3.heap.size 3 (i64s (partI F i))∧Below w3.heap.size w3 wr) (fun x _=>X.length-(intOf x).toNat)
 case atStart=>exact ⟨0,by omega,rfl,HL.out,HB.out⟩
 case round=>
  obtain ⟨i,hi,rfl,hL,hB⟩:=hrel
  clear HL HB
  by_cases hlt:i<X.length
  ·obtain ⟨bb,off,cap',hs,_,_,hbl,hc⟩:=HX3.out.cells (by omega)
   simp at hs
   obtain ⟨rfl,rfl⟩:=hs
   have c0:wr.cell? ⟨bb,off+i,none⟩=some (.int .u8 (X.getD i 0:Nat)):=(hB.cell (p:=⟨bb,off+i,none⟩) hbl).trans (hc i hlt)
   have hx:=getD_lt HX3.out.1 i
   have hst:=partI_step F i (by rw [HFL.out];exact hlt)
   have e:F.getD i 0=((X.getD i 0:Nat):Int):=by rw [← HF.out];simp [List.getD,hlt]
   rw [e] at hst
   have c1:=hL.cell (i64s_get (partI F i) i (by rw [partI_length,HFL.out];exact hlt))
   have f1:=hL.frozen i
   have hs1:=hL.set i (.int .i64 (X.getD i 0:Nat))
   rw [i64s_set,hst] at hs1
   generalize X.getD i 0=x at*
   have HS:=Lib.hid hs1
   have HB1:=Lib.hid (hB.setCell (p:=⟨w3.heap.size,i,none⟩) (Nat.le_refl _) (.int .i64 x))
   generalize (partI F i).getD i 0=y at*
   clear hst e hL hB hs1 hc
   go_wp2
   go_roundw
   case rel=>exact ⟨i+1,by omega,by first | rfl | go_num,HS.out,HB1.out⟩
   case measure=>simp [intOf];omega
  ·obtain rfl:i=X.length:=by omega
   have e:partI F X.length=F:=by rw [← HFL.out,partI_all]
   rw [e] at hL
   have HS:=Lib.hid hL
   have HB1:=Lib.hid hB
   clear e hL hB
   go_wp2
   go_ret2
   refine .inl ⟨F,n,w3.heap.size,HYES.out,by rw [HFL.out];exact hXl,?_,hw3,HS.out,?_,HG3.out.trans (Gr.ofBelow HB1.out)⟩
   ·rw [HFL.out];rfl
   ·have:=HR3.out.below HB1.out
    rwa [HMN.out] at this
end Go.Proofs.YtmjpnbadfmgimaaGreatDoor.S10
namespace Go.Proofs.YtmjpnbadfmgimaaGreatDoor.S10
open Go.RowKit Pl
attribute [local go_sem ↓] minC_eq
def UnPost (U:Int×Nat×List Int) (w:World) (e:Ending) (w':World):Prop:=
 Below w.heap.size w w'∧((U.1≠0∧e=.returned (.tuple #[.int .i64 0,.slice none 0 0,.int .i64 U.1]))∨
  (U.1=0∧∃ sp cap,e=.returned (.tuple #[.int .i64 U.2.1,.slice sp U.2.2.length cap,.int .i64 0])∧IsInts w' (.slice sp U.2.2.length cap) U.2.2∧U.2.1<9223372036854775808∧U.2.2.length≤900001))
theorem unP_none1 {B:List Nat} {most:Nat} (h:rdP (S7.Pl.bitsB B)=none):unP B most=(6,0,[]):=by unfold unP;rw [h]
theorem unP_none2 {B:List Nat} {most a p:Nat} (h:rdP (S7.Pl.bitsB B)=some (a,p)) (h2:rdL ((S7.Pl.bitsB B).drop p)=none):unP B most=(6,0,[]):=by unfold unP;rw [h];simp only;rw [h2]
theorem unP_some {B:List Nat} {most a p n:Nat} {F:List Int} (h:rdP (S7.Pl.bitsB B)=some (a,p)) (h2:rdL ((S7.Pl.bitsB B).drop p)=some (F,n)):
  unP B most=if S7.Pl.okL F then
      (let t:=S7.Pl.rdF F 257 (min most (8*B.length-(p+n))+1) ((S7.Pl.bitsB B).drop (p+n)) [] 0
       if t.2.1=2 then (2,0,[]) else if t.2.1≠0 then (6,0,[]) else if packE a t.1=B then (0,a,t.1) else (6,0,[]))
   else (6,0,[]):=by unfold unP;rw [h];simp only;rw [h2]
theorem unpacked_any (v:Value) (B:List Nat) (most:Nat) (w:World) (hv:IsBytes w v B) (hB:B.length≤1000000) (hm:most≤900000):
  Calls Tryz.prog 106 #[v,.int .i64 most] w (UnPost (unP B most) w):=by
 have hx:=hv.1
 obtain ⟨va,vcap,rfl,hcap,hmax⟩:=hv.slice
 have HV:=Lib.hid hv
 obtain ⟨U,hU⟩:∃ U,unP B most=U:=⟨_,rfl⟩
 rw [hU]
 have HU:=Lib.hid hU
 clear hv hU hx
 go_enter Tryz.func106,Tryz.ntmps106
 go_wp2_with fail
 refine (S7.read_any _ B w HV.out (by omega)).mono ?_
 rintro e w1 ⟨b,rfl,hr1,hb1⟩
 have hge:w.heap.size≤b:=hr1.1
 obtain ⟨base,hbase⟩:∃ base,w.heap.size=base:=⟨_,rfl⟩
 rw [hbase] at hr1
 have HBA:=Lib.hid hbase
 have HR1:=Lib.hid hr1
 have HB1:=Lib.hid hb1
 clear hr1 hb1 hbase
 go_wp2_with fail
 refine (readPlace_any b base B w1 HR1.out).mono ?_
 rintro e w2 (⟨a,p,hP,ha,rfl,hr2,hg2⟩ | ⟨hP,x,m,rfl,hr2,hg2⟩)
 rotate_left
 ·have HB2:=Lib.hid (HB1.out.trans (hg2.below HB1.out.size hge))
  have HR2:=Lib.hid hr2
  have HNO:Hid (U=(6,0,[])):=Lib.hid (by rw [← HU.out];exact unP_none1 hP)
  clear hP hr2 hg2 HB1 HR1
  go_wp2_with fail
  refine (readLens_any b base B m w2 HR2.out hB).mono ?_
  rintro e w3 (⟨F,n,g,_,_,rfl,_,_,_,hg3⟩ | ⟨_,rfl,m2,_,hg3⟩)
  ·have HB3:=Lib.hid (HB2.out.trans (hg3.below HB2.out.size hge))
   clear hg3 HB2 HR2
   go_wp2
   go_ret3
   rw [HNO.out]
   exact ⟨HB3.out,.inl ⟨by decide,rfl⟩⟩
  ·have HB3:=Lib.hid (HB2.out.trans (hg3.below HB2.out.size hge))
   clear hg3 HB2 HR2
   go_wp2
   go_ret3
   rw [HNO.out]
   exact ⟨HB3.out,.inl ⟨by decide,rfl⟩⟩
 have HB2:=Lib.hid (HB1.out.trans (hg2.below HB1.out.size hge))
 have HR2:=Lib.hid hr2
 have HP:=Lib.hid hP
 clear hP hr2 hg2 HB1 HR1
 go_wp2_with fail
 refine (readLens_any b base B p w2 HR2.out hB).mono ?_
 rintro e w3 (⟨F,n,g,hL,hFl,rfl,hg,hblk,hr3,hg3⟩ | ⟨hL,rfl,m2,_,hg3⟩)
 rotate_left
 ·have HB3:=Lib.hid (HB2.out.trans (hg3.below HB2.out.size hge))
  have HNO:Hid (U=(6,0,[])):=Lib.hid (by rw [← HU.out];exact unP_none2 HP.out hL)
  clear hL hg3 HB2 HR2
  go_wp2
  go_ret3
  rw [HNO.out]
  exact ⟨HB3.out,.inl ⟨by decide,rfl⟩⟩
 have HB3:=Lib.hid (HB2.out.trans (hg3.below HB2.out.size hge))
 have HR3:=Lib.hid hr3
 have hU2:=HU.out
 rw [unP_some HP.out hL] at hU2
 have HU2:=Lib.hid hU2
 have HI3:=Lib.hid (ints7 (ints_blk hblk rfl (by unfold maxLen;omega)))
 obtain ⟨q,hq⟩:∃ q,p+n=q:=⟨_,rfl⟩
 rw [hq] at HR3 HU2
 have hqB:q≤8*B.length:=HR3.out.2.1
 have HL:=Lib.hid hL
 clear hU2 hL hr3 hg3 hg hblk HB2 HR2 hq
 have hlf:=fun W (h:S7.Rd W base b B q)=>S7.left_any b base B q W h
 obtain ⟨lf,hlfe⟩:∃ lf,8*B.length-q=lf:=⟨_,rfl⟩
 have e1:8*(B.length:Int)-(q:Int)=((lf:Nat):Int):=by omega
 rw [e1] at hlf
 rw [hlfe] at HU2
 have HLF:=Lib.hid hlf
 obtain ⟨mn,hmn⟩:∃ mn,min most lf=mn:=⟨_,rfl⟩
 have hmn1:mn≤900000:=by omega
 have hmi:min (most:Int) (lf:Int)=(mn:Int):=by omega
 have hrm:=fun (ats:Array TypeId) (ty:TypeId) (W:World)=>run_minC ats ty most lf W
 rw [hmi] at hrm
 rw [hmn] at HU2
 clear hlf hlfe e1 hmn hmi
 go_wp2_with fail
 refine (HLF.out _ HR3.out).mono ?_
 rintro e w4 ⟨rfl,k4,rfl⟩
 have HR4:=Lib.hid (rd_drew HR3.out k4)
 have HB4:=Lib.hid (bel_drewN HB3.out k4)
 have HI4:Hid (S7.IsInts (w3.drewN k4) (.slice (some ⟨g,0,none⟩) F.length F.length) F):=Lib.hid HI3.out
 generalize w3.drewN k4=w4 at*
 clear HLF HR3 HB3 HI3
 go_wp2_with fail
 refine (S7.read_codes _ F 257 ((mn:Int)+1) b base B q w4 HI4.out (by omega) (by omega) HR4.out (by omega)).mono ?_
 rintro e w5 ⟨hg5,⟨hno,rfl,_⟩ | ⟨hok,L,r,n5,sp,cap,hrd,rfl,ho5,m5,_,_⟩⟩
 ·have HB5:=Lib.hid (HB4.out.trans (hg5.below HB4.out.size hge))
  have HNO:Hid (U=(6,0,[])):=Lib.hid (by rw [← HU2.out,if_neg hno])
  clear hno hg5 HB4 HR4 HI4 hrm
  go_wp2
  go_ret3
  rw [HNO.out]
  exact ⟨HB5.out,.inl ⟨by decide,rfl⟩⟩
 have et:((mn:Int)+1).toNat=mn+1:=by omega
 rw [et] at hrd
 have HB5:=Lib.hid (HB4.out.trans (hg5.below HB4.out.size hge))
 have hU3:=HU2.out
 rw [if_pos hok,hrd] at hU3
 simp only at hU3
 have HU3:=Lib.hid hU3
 have hLl:L.length≤900001:=by
  have:=rdF_len (F:=F) (en:=257) (mn+1) ((S7.Pl.bitsB B).drop q) [] 0
  rw [hrd] at this
  simp at this;omega
 have hLm:∀ x∈L,0≤x∧x<258:=fun x hx=>by
  have:=rdF_mem (F:=F) (en:=257) (mn+1) ((S7.Pl.bitsB B).drop q) [] 0 (by simp) x (by rw [hrd];exact hx)
  omega
 have HLM:=Lib.hid hLm
 have HI5:=Lib.hid (isInts_own rfl ho5)
 clear hok hrd hg5 ho5 hLm hU3 et HB4 HR4 HI4 HU2 hrm
 by_cases h2:r=2
 ·subst h2
  have HNO:Hid (U=(2,0,[])):=Lib.hid (by rw [← HU3.out];simp)
  clear HU3 HI5 HLM
  go_wp2
  go_ret3
  rw [HNO.out]
  exact ⟨HB5.out,.inl ⟨by decide,rfl⟩⟩
 have z2:(r==2)=false:=beq_f h2
 by_cases h0:r=0
 rotate_left
 ·have z0:(r != 0)=true:=bne_t h0
  have HNO:Hid (U=(6,0,[])):=Lib.hid (by rw [← HU3.out,if_neg h2,if_pos h0])
  clear HU3 HI5 HLM h0 h2
  go_wp2
  go_ret3
  rw [HNO.out]
  exact ⟨HB5.out,.inl ⟨by decide,rfl⟩⟩
 subst h0
 clear h2 z2
 go_wp2_with fail
 refine (packed_any a _ L w5 HI5.out ha HLM.out (by omega)).mono ?_
 rintro e w6 ⟨g6,rfl,hge6,hk6,hb6⟩
 have HB6:=Lib.hid (HB5.out.trans (hb6.mono HB5.out.size))
 have HI6:=Lib.hid (HI5.out.below hb6)
 have hpl:(packE a L).length≤maxLen:=by
  have h1:=S7.Pl.codeBs_length (lenS_ok L).2.1 L
  have h2:=lol_short (tabS L)
  have h3:=tab_length L
  have h4:=bl64 ha
  unfold packE
  rw [S7.Pl.bytesOf_length]
  unfold bitsE
  simp only [List.length_append,S7.Pl.bitsOf_length]
  unfold maxLen
  omega
 have HY6:=Lib.hid (u8_bytes (pack_lt a L) hk6 rfl hpl)
 have HV6:=Lib.hid (HV.out.below HB6.out)
 obtain ⟨Y,hY⟩:∃ Y,packE a L=Y:=⟨_,rfl⟩
 rw [hY] at HY6 HU3 ⊢
 clear hge6 hk6 hb6 hpl hY HB5 HI5
 go_wp2_with fail
 refine (equal_any _ _ Y B w6 HY6.out HV6.out).mono ?_
 rintro e w7 ⟨rfl,rfl⟩
 clear HY6 HV6
 by_cases heq:Y=B
 ·have HYES:Hid (U=(0,a,L)):=Lib.hid (by rw [← HU3.out];simp [heq])
  have hd:decide (Y=B)=true:=decide_eq_true heq
  clear HU3 heq
  generalize decide (Y=B)=d at*
  subst hd
  go_wp2
  go_ret3
  rw [HYES.out]
  exact ⟨HB6.out,.inr ⟨rfl,sp,cap,rfl,HI6.out,ha,hLl⟩⟩
 ·have HNO:Hid (U=(6,0,[])):=Lib.hid (by rw [← HU3.out];simp [heq])
  have hd:decide (Y=B)=false:=decide_eq_false heq
  clear HU3 heq
  generalize decide (Y=B)=d at*
  subst hd
  go_wp2
  go_ret3
  rw [HNO.out]
  exact ⟨HB6.out,.inl ⟨by decide,rfl⟩⟩
end Go.Proofs.YtmjpnbadfmgimaaGreatDoor.S10
namespace Go.Proofs.YtmjpnbadfmgimaaGreatDoor.S10
open Go.RowKit Pl
def EncPost (B:List Nat) (w:World) (e:Ending) (w':World):Prop:=
 ∃ R g C,S8.Pl.IsSA B R∧encE B R=C∧e=.returned (.slice (some ⟨g,0,none⟩) C.length C.length)∧w.heap.size≤g∧Blk w' g 5 (u8s C)∧Below w.heap.size w w'
theorem encode_any (v:Value) (B:List Nat) (w:World) (hv:IsBytes w v B) (hB:B.length≤900000):
  Calls Tryz.prog 43 #[v] w (EncPost B w):=by
 have hx:=hv.1
 obtain ⟨N,hN⟩:∃ N,B.length=N:=⟨_,rfl⟩
 have hc:=S8.forward_any v B N w hv hN (by omega)
 obtain ⟨va,vcap,rfl,hcap,hmax⟩:=hv.slice
 have HX:=Lib.hid hx
 have HN:=Lib.hid hN
 rw [hN] at hc hcap hB ⊢
 clear hv hx hN
 go_enter Tryz.func43,Tryz.ntmps43
 go_wp2_with fail
 refine hc.mono ?_
 rintro e w1 ⟨R,sp1,c1,a,rfl,hR,hat,hi1,hb1⟩
 have HR:=Lib.hid hR
 have hR':=hR
 have hle:=(S8.Pl.fw_ok hR rfl rfl).1
 have hll:=S8.Pl.fw_length hR
 rw [HN.out] at hle hll
 rw [hat] at hle
 have HAT:=Lib.hid hat
 obtain ⟨L,hL⟩:∃ L,S8.Pl.fwL B (N::R)=L:=⟨_,rfl⟩
 rw [hL] at hi1 hle hll
 have HLE:=Lib.hid hL
 have HI1:=Lib.hid hi1
 have HB1:=Lib.hid hb1
 have haN:a≤900000:=by omega
 clear hR hR' hat hi1 hb1 hL hc hle
 go_wp2_with fail
 refine (S4.encode_any _ L w1 HI1.out (by omega)).mono ?_
 rintro e w2 h2
 have hMx:=S4.Pl.enc_lt HI1.out.1
 have hMl:=S4.Pl.enc_length L
 obtain ⟨M,hM⟩:∃ M,S4.Pl.enc L=M:=⟨_,rfl⟩
 rw [hM] at h2 hMx hMl
 obtain ⟨sp2,c2,rfl,hi2,hf2⟩:=h2.i hMx (hMl.trans hll)
 obtain ⟨v2,hv2,_,hb2⟩:=h2
 have HI2:Hid (IsBytes w2 (.slice sp2 N c2) M):=hi2
 have HB2:=Lib.hid (HB1.out.trans (hb2.mono HB1.out.size))
 have HME:=Lib.hid hM
 have HMX:=Lib.hid hMx
 have HMN:Hid (M.length=N):=Lib.hid (hMl.trans hll)
 clear hv2 hb2 hf2 hi2 hM hMx HB1 HI1 hMl hll
 go_wp2_with fail
 refine (S5.encode_any _ M w2 HI2.out (by rw [HMN.out];omega)).mono ?_
 rintro e w3 ⟨sp3,k,cp,rfl,hk,ho3,hb3⟩
 have hSl:=S5.Pl.enc_length M 0
 rw [HMN.out] at hSl
 obtain ⟨S,hS⟩:∃ S,S5.Pl.enc M 0=S:=⟨_,rfl⟩
 have hSm:∀ x∈S,0≤x∧x<258:=by
  obtain ⟨T,h1,h2⟩:=enc_syms HMX.out
  rw [hS] at h1
  intro x hx
  rw [h1] at hx
  rcases List.mem_append.1 hx with hx | hx
  ·have:=h2 x hx;omega
  ·simp at hx;omega
 rw [hS] at hk ho3 hSl
 have HI3:=Lib.hid (isInts_own hk.symm ho3)
 have HB3:=Lib.hid (HB2.out.trans (hb3.mono HB2.out.size))
 have HSM:=Lib.hid hSm
 have HSE:=Lib.hid hS
 clear ho3 hb3 hSm hS HB2 HI2 hk
 go_wp2_with fail
 refine (packed_any a _ S w3 HI3.out (by omega) HSM.out (by omega)).mono ?_
 rintro e w4 ⟨g,rfl,hg,hk4,hb4⟩
 have HB4:=Lib.hid (HB3.out.trans (hb4.mono HB3.out.size))
 have HK4:=Lib.hid hk4
 have hgw:w.heap.size≤g:=Nat.le_trans HB3.out.size hg
 have HE:Hid (encE B R=packE a S):=Lib.hid (by
  unfold encE
  rw [HN.out,HAT.out,HLE.out,HME.out,HSE.out])
 obtain ⟨C,hC⟩:∃ C,packE a S=C:=⟨_,rfl⟩
 rw [hC] at HK4 HE ⊢
 clear hg hk4 hb4 hC HB3 HI3
 go_wp2
 go_ret
 exact ⟨R,g,C,HR.out,HE.out,rfl,hgw,HK4.out,HB4.out⟩
def DecodePost (C:List Nat) (most:Nat) (w:World) (e:Ending) (w':World):Prop:=
 Below w.heap.size w w'∧∃ sp cap,e=.returned (.tuple #[.slice sp (decF C most).2.length cap,.int .i64 (decF C most).1])∧IsBytes w' (.slice sp (decF C most).2.length cap) (decF C most).2
theorem decF_1 {C:List Nat} {most:Nat} {U:Int×Nat×List Int} (hU:unP C most=U) (h:U.1≠0):decF C most=(U.1,[]):=by
 unfold decF;rw [hU,if_pos h]
theorem decF_2 {C X:List Nat} {most:Nat} {U:Int×Nat×List Int} {r:Int} (hU:unP C most=U) (h:U.1=0) (hX:S5.Pl.ans U.2.2 [] 0 most=(r,X)) (hr:r≠0):decF C most=(r,[]):=by
 unfold decF;rw [hU,if_neg (by simpa using h),hX,if_pos hr]
theorem decF_3 {C X:List Nat} {most:Nat} {U:Int×Nat×List Int} (hU:unP C most=U) (h:U.1=0) (hX:S5.Pl.ans U.2.2 [] 0 most=(0,X)):
  decF C most=if U.2.1≤X.length∧S8.Pl.okW (S4.Pl.dec X) U.2.1=true then (0,S8.Pl.bk (S4.Pl.dec X) U.2.1) else (6,[]):=by
 unfold decF;rw [hU,if_neg (by simpa using h),hX,if_neg (by simp)]
theorem decode_any (v:Value) (C:List Nat) (most:Nat) (w:World) (hv:IsBytes w v C) (hC:C.length≤1000000) (hm:most≤900000):
  Calls Tryz.prog 91 #[v,.int .i64 most] w (DecodePost C most w):=by
 have hc:=unpacked_any v C most w hv hC hm
 obtain ⟨va,vcap,rfl,hcap,hmax⟩:=hv.slice
 obtain ⟨U,hU⟩:∃ U,unP C most=U:=⟨_,rfl⟩
 rw [hU] at hc
 obtain ⟨D,hD⟩:∃ D,decF C most=D:=⟨_,rfl⟩
 unfold DecodePost
 rw [hD]
 have HU:=Lib.hid hU
 have HD:=Lib.hid hD
 clear hv hU hD
 go_enter Tryz.func91,Tryz.ntmps91
 go_wp2_with fail
 refine hc.mono ?_
 rintro e w1 ⟨hb1,⟨h0,rfl⟩ | ⟨h0,sp,cap,rfl,hi1,ha,hSl⟩⟩
 ·have hE:D=(U.1,[]):=by rw [← HD.out];exact decF_1 HU.out h0
  have HE:=Lib.hid hE
  have HB1:=Lib.hid hb1
  generalize U.1=r at*
  have z0:(r != 0)=true:=bne_t h0
  clear hc hb1 h0 hE
  go_wp2
  go_ret2
  rw [HE.out]
  exact ⟨HB1.out,none,0,rfl,isBytes_nil _⟩
 have HB1:=Lib.hid hb1
 obtain ⟨u1,a,S⟩:=U
 simp only at h0 hi1 ha hSl ⊢
 have HI1:=Lib.hid hi1
 subst h0
 clear hc hb1 hi1
 go_wp2_with fail
 refine (S5.decode_any _ S most w1 HI1.out (by omega) (by omega)).mono ?_
 rintro e w2 ⟨dv,rfl,hx2,hb2⟩
 rw [Int.toNat_natCast] at hx2 ⊢
 obtain ⟨E,hE⟩:∃ E,S5.Pl.ans S [] 0 most=E:=⟨_,rfl⟩
 rw [hE] at hx2 ⊢
 obtain ⟨r,X⟩:=E
 simp only at hx2 ⊢
 obtain ⟨da,dcap,rfl,hdc,hdm⟩:=hx2.slice
 have HB2:=Lib.hid (HB1.out.trans (hb2.mono HB1.out.size))
 have HX2:=Lib.hid hx2
 have HE:=Lib.hid hE
 clear hb2 hx2 hE HB1 HI1
 by_cases h0:r=0
 rotate_left
 ·have hF:D=(r,[]):=by rw [← HD.out];exact decF_2 HU.out rfl HE.out h0
  have HF:=Lib.hid hF
  have z0:(r != 0)=true:=bne_t h0
  clear h0 hF
  go_wp2
  go_ret2
  rw [HF.out]
  exact ⟨HB2.out,none,0,rfl,isBytes_nil _⟩
 subst h0
 have hXl:X.length≤900000:=by
  obtain ⟨R,hR,hl⟩:=S5.Pl.ans_ok HE.out
  simp at hR;subst hR;omega
 have hD3:=decF_3 HU.out rfl HE.out
 rw [HD.out] at hD3
 simp only at hD3
 have HD3:=Lib.hid hD3
 clear hD3
 go_wp2_with fail
 refine (S4.decode_any _ X w2 HX2.out (by omega)).mono ?_
 rintro e w3 h3
 have hLx:=S4.Pl.dec_lt HX2.out.1
 have hLl:=S4.Pl.dec_length X
 obtain ⟨L,hL⟩:∃ L,S4.Pl.dec X=L:=⟨_,rfl⟩
 rw [hL] at h3 hLx hLl HD3
 obtain ⟨sp3,c3,rfl,hi3,hf3⟩:=h3.i hLx rfl
 obtain ⟨v3,hv3,_,hb3⟩:=h3
 have HI3:Hid (IsBytes w3 (.slice sp3 L.length c3) L):=hi3
 have HB3:=Lib.hid (HB2.out.trans (hb3.mono HB2.out.size))
 have HLX:=Lib.hid hLx
 rw [← hLl] at hXl HD3
 clear hv3 hb3 hf3 hi3 hL hLx hLl HB2
 obtain ⟨N,hN⟩:∃ N,L.length=N:=⟨_,rfl⟩
 have HN:=Lib.hid hN
 rw [hN] at HI3 hXl HD3 ⊢
 clear hN
 by_cases haN:a≤N
 rotate_left
 ·have hF:D=(6,[]):=by rw [HD3.out,if_neg (fun h=>haN h.1)]
  have HF:=Lib.hid hF
  clear hF HD3
  go_wp2_with fail
  refine (S8.back_out _ L a w3 HI3.out (.inr (by rw [HN.out];omega))).mono ?_
  rintro e w4 ⟨rfl,rfl⟩
  go_wp2
  go_ret2
  rw [HF.out]
  exact ⟨HB3.out,none,0,rfl,isBytes_nil _⟩
 go_wp2_with fail
 refine (S8.back_any _ L a N w3 HI3.out HN.out (by omega) haN).mono ?_
 rintro e w4 ⟨hb4,⟨hok,g,hg,rfl,hk4⟩ | ⟨hok,rfl⟩⟩
 ·have hF:D=(0,S8.Pl.bk L a):=by rw [HD3.out,if_pos ⟨haN,hok⟩]
  have hbl:(S8.Pl.bk L a).length=N:=by rw [S8.Pl.bk_length,HN.out]
  have hbx:∀ x∈S8.Pl.bk L a,x<256:=by
   intro x hx
   unfold S8.Pl.bk at hx
   obtain ⟨q,_,rfl⟩:=List.mem_map.1 hx
   exact getD_lt HLX.out _
  have HY:=Lib.hid (u8_bytes hbx hk4 hbl (by unfold maxLen;omega))
  have HBL:=Lib.hid hbl
  have HF:=Lib.hid hF
  have HB4:=Lib.hid (HB3.out.trans (hb4.mono HB3.out.size))
  clear hF hbl hbx hk4 hb4 hg hok HD3 HB3
  go_wp2
  go_ret2
  rw [HF.out]
  exact ⟨HB4.out,some ⟨g,0,none⟩,N,by rw [HBL.out];rfl,by rw [HBL.out];exact HY.out⟩
 ·have hF:D=(6,[]):=by rw [HD3.out,if_neg (fun h=>by rw [hok] at h;exact absurd h.2 (by decide))]
  have HF:=Lib.hid hF
  have HB4:=Lib.hid (HB3.out.trans (hb4.mono HB3.out.size))
  clear hF hb4 hok HD3 HB3
  go_wp2
  go_ret2
  rw [HF.out]
  exact ⟨HB4.out,none,0,rfl,isBytes_nil _⟩
def IsEnc (B R C:List Nat) (n:Nat):Prop:=S8.Pl.IsSA B R∧encE B R=C∧C.length=n∧(∀ x∈B,x<256)∧B.length≤900000
def GotE (B:List Nat) (w:World) (e:Ending) (w':World):Prop:=
 ∃ R g C n,Hid (IsEnc B R C n)∧e=.returned (.slice (some ⟨g,0,none⟩) n n)∧n≤B.length+B.length/8+400∧w.heap.size≤g∧Hid (Blk w' g 5 (u8s C))∧Hid (IsBytes w' (.slice (some ⟨g,0,none⟩) n n) C)∧Hid (Below w.heap.size w w')
theorem enc_got (v:Value) (B:List Nat) (w:World) (hv:IsBytes w v B) (hB:B.length≤900000):Calls Tryz.prog 43 #[v] w (GotE B w):=by
 refine (encode_any v B w hv hB).mono ?_
 rintro e w' ⟨R,g,C,hR,hC,rfl,hg,hk,hb⟩
 have hsz:=enc_size hR hv.1 (by omega)
 rw [hC] at hsz
 refine ⟨R,g,C,C.length,Lib.hid ⟨hR,hC,rfl,hv.1,hB⟩,rfl,hsz,hg,Lib.hid hk,Lib.hid (u8_bytes ?_ hk rfl (by unfold maxLen;omega)),Lib.hid hb⟩
 rw [← hC]
 exact pack_lt _ _
theorem IsEnc.dec {B R C:List Nat} {n:Nat} (h:IsEnc B R C n) (most:Nat):decF C most=if B.length≤most then (0,B) else (2,[]):=by
 obtain ⟨h1,h2,_,h4,h5⟩:=h
 rw [← h2]
 exact dec_enc h1 h4 (by omega) most
attribute [local go_sem ↓] conv_eq
theorem i64_wf' {x:Int} (h:(Lit.int .i64 x).wf=true):-9223372036854775808≤x∧x<9223372036854775808:=by
 simp [Lit.wf,IntKind.min,IntKind.max,IntKind.signed,IntKind.bits] at h
 omega
end Go.Proofs.YtmjpnbadfmgimaaGreatDoor.S10

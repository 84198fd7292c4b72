/- Texts put together: SeaP, SeaA, SeaM, SeaB, SeaD. -/
import Derived.Test.YtmjpnbadfmgimaaGreatDoorFg40
import Derived.Maps.OwnSet
import Derived.Maps.OwnOps
set_option linter.unusedSimpArgs false
set_option linter.unusedVariables false
set_option maxRecDepth 100000
set_option maxHeartbeats 32000000
namespace Go.Proofs.YtmjpnbadfmgimaaGreatDoor.S16
open Go.RowKit S2.Pl S3.Pl S14
def noV (r:RT):RT:=⟨r.kind,r.seq,r.key,⟨#[]⟩⟩
def putV (r:RT) (v:ByteArray):RT:=⟨r.kind,r.seq,r.key,v⟩
def rowB (r:RT):List Nat:=vput r.kind.toNat++(vput r.seq.toNat++(vtext (strB r.key)++vput r.val.size))
def rowsE:List RT→List Nat
 | []=>[]
 | r::l=>rowB r++rowsE l
def valsE:List RT→List Nat
 | []=>[]
 | r::l=>strB r.val++valsE l
theorem rowsE_snoc (l:List RT) (r:RT):rowsE (l++[r])=rowsE l++rowB r:=by
 induction l with
 | nil=>simp [rowsE]
 | cons x l ih=>simp [rowsE,ih]
theorem valsE_snoc (l:List RT) (r:RT):valsE (l++[r])=valsE l++strB r.val:=by
 induction l with
 | nil=>simp [valsE]
 | cons x l ih=>simp [valsE,ih]
theorem rowB_lt (r:RT):∀ x∈rowB r,x<256:=by
 intro x hx
 unfold rowB at hx
 simp only [List.mem_append] at hx
 rcases hx with hx | hx | hx | hx
 ·exact vput_lt _ x hx
 ·exact vput_lt _ x hx
 ·exact vtext_lt (strB_lt _) x hx
 ·exact vput_lt _ x hx
theorem rowsE_lt (l:List RT):∀ x∈rowsE l,x<256:=by
 induction l with
 | nil=>simp [rowsE]
 | cons r l ih=>
   intro x hx
   rw [rowsE,List.mem_append] at hx
   exact hx.elim (rowB_lt r x) (ih x)
theorem valsE_lt (l:List RT):∀ x∈valsE l,x<256:=by
 induction l with
 | nil=>simp [valsE]
 | cons r l ih=>
   intro x hx
   rw [valsE,List.mem_append] at hx
   exact hx.elim (strB_lt _ x) (ih x)
theorem kind_nat {r:RT} (h:chk r=0):r.kind.toNat≤1∧((r.kind.toNat:Nat):Int)=r.kind:=by
 obtain ⟨_,_,_,h3⟩:=chk_ok h
 obtain ⟨_,_,h4 | h4⟩:=form_ok h3 <;> omega
theorem rowB_len {r:RT} (h:chk r=0):(rowB r).length≤131∧4≤(rowB r).length:=by
 obtain ⟨h0,h1,h2,h3⟩:=chk_ok h
 obtain ⟨h4,h5,_⟩:=form_ok h3
 obtain ⟨hk,_⟩:=kind_nat h
 have a:=vput_len64 r.seq.toNat (by omega)
 have b:=vtext_length (strB r.key) (by rw [strB_length];omega)
 have c:=vput_len64 r.val.size (by omega)
 have d:(vput r.kind.toNat).length=1:=by rw [vput_small (by omega)];rfl
 have e:0<(vtext (strB r.key)).length:=by
  have:=(vput_len64 (strB r.key).length (by rw [strB_length];omega)).2
  unfold vtext;rw [List.length_append];omega
 rw [strB_length] at b
 unfold rowB
 simp only [List.length_append]
 omega
theorem rowsE_len {l:List RT} (h:∀ r∈l,chk r=0):(rowsE l).length≤131*l.length:=by
 induction l with
 | nil=>simp [rowsE]
 | cons r l ih=>
   have:=(rowB_len (h r (by simp))).1
   have:=ih fun x hx=>h x (by simp [hx])
   rw [rowsE,List.length_append,List.length_cons];omega
theorem valsE_len {l:List RT} (h:∀ r∈l,chk r=0):(valsE l).length≤4000*l.length:=by
 induction l with
 | nil=>simp [valsE]
 | cons r l ih=>
   have:=(chk_ok (h r (by simp))).2.2.1
   have:=ih fun x hx=>h x (by simp [hx])
   rw [valsE,List.length_append,List.length_cons,strB_length];omega
def decV (B:List Nat):Option (RT×Nat×Nat):=
 if (vget B).2=0∨(vget (B.drop (vget B).2)).2=0∨(vgetText (B.drop ((vget B).2+(vget (B.drop (vget B).2)).2))).2=0∨(vget (B.drop ((vget B).2+(vget (B.drop (vget B).2)).2+(vgetText (B.drop ((vget B).2+(vget (B.drop (vget B).2)).2))).2))).2=0 then none
 else if chk ⟨sq (vget B).1,sq (vget (B.drop (vget B).2)).1,str (vgetText (B.drop ((vget B).2+(vget (B.drop (vget B).2)).2))).1,⟨#[]⟩⟩=0∧(vget (B.drop ((vget B).2+(vget (B.drop (vget B).2)).2+(vgetText (B.drop ((vget B).2+(vget (B.drop (vget B).2)).2))).2))).1≤4000∧¬ (sq (vget B).1=0∧0<(vget (B.drop ((vget B).2+(vget (B.drop (vget B).2)).2+(vgetText (B.drop ((vget B).2+(vget (B.drop (vget B).2)).2))).2))).1) then
  some (⟨sq (vget B).1,sq (vget (B.drop (vget B).2)).1,str (vgetText (B.drop ((vget B).2+(vget (B.drop (vget B).2)).2))).1,⟨#[]⟩⟩,(vget (B.drop ((vget B).2+(vget (B.drop (vget B).2)).2+(vgetText (B.drop ((vget B).2+(vget (B.drop (vget B).2)).2))).2))).1,(vget B).2+(vget (B.drop (vget B).2)).2+(vgetText (B.drop ((vget B).2+(vget (B.drop (vget B).2)).2))).2+(vget (B.drop ((vget B).2+(vget (B.drop (vget B).2)).2+(vgetText (B.drop ((vget B).2+(vget (B.drop (vget B).2)).2))).2))).2)
 else none
theorem decV_of {B:List Nat} {k n1 s n2 n3 z n4:Nat} {S:List Nat} (h1:vget B=(k,n1)) (h2:vget (B.drop n1)=(s,n2)) (h3:vgetText (B.drop (n1+n2))=(S,n3)) (h4:vget (B.drop (n1+n2+n3))=(z,n4)):
  decV B=if n1=0∨n2=0∨n3=0∨n4=0 then none else if chk ⟨sq k,sq s,str S,⟨#[]⟩⟩=0∧z≤4000∧¬ (sq k=0∧0<z) then some (⟨sq k,sq s,str S,⟨#[]⟩⟩,z,n1+n2+n3+n4) else none:=by
 unfold decV
 simp only [h1,h2,h3,h4]
theorem vtext_le (B:List Nat):(vgetText B).2≤B.length:=by
 have:=vget_le B
 unfold vgetText
 split
 ·simp
 ·show (vget B).2+(vget B).1≤_
  omega
theorem decV_some {B:List Nat} {r:RT} {z e:Nat} (h:decV B=some (r,z,e)):chk r=0∧r.val=⟨#[]⟩∧z≤4000∧(r.kind=0→z=0)∧4≤e∧e≤B.length:=by
 have g1:=(vget_le B).2.1
 have g2:=(vget_le (B.drop (vget B).2)).2.1
 have g3:=vtext_le (B.drop ((vget B).2+(vget (B.drop (vget B).2)).2))
 have g4:=(vget_le (B.drop ((vget B).2+(vget (B.drop (vget B).2)).2+(vgetText (B.drop ((vget B).2+(vget (B.drop (vget B).2)).2))).2))).2.1
 simp only [List.length_drop] at g2 g3 g4
 unfold decV at h
 split at h
 ·cases h
 ·split at h
  ·rename_i h1 h2
   simp only [Option.some.injEq,Prod.mk.injEq] at h
   obtain ⟨rfl,rfl,rfl⟩:=h
   refine ⟨h2.1,rfl,h2.2.1,fun h0=>?_,by omega,by omega⟩
   have:=h2.2.2
   have h0':sq (vget B).1=0:=h0
   omega
  ·cases h
theorem decV_row {r:RT} (h:chk r=0) (T:List Nat):decV (rowB r++T)=some (noV r,r.val.size,(rowB r).length):=by
 obtain ⟨k1,k2,k3,k4⟩:=chk_ok h
 obtain ⟨s1,s2,hk⟩:=form_ok k4
 obtain ⟨hk1,hk2⟩:=kind_nat h
 have e1:rowB r++T=vput r.kind.toNat++(vput r.seq.toNat++(vtext (strB r.key)++(vput r.val.size++T))):=by unfold rowB;simp
 have g1:vget (rowB r++T)=(r.kind.toNat,(vput r.kind.toNat).length):=by rw [e1];exact vget_vput _ (by omega) _
 have d1:(rowB r++T).drop (vput r.kind.toNat).length=vput r.seq.toNat++(vtext (strB r.key)++(vput r.val.size++T)):=by rw [e1];exact List.drop_left
 have g2:vget ((rowB r++T).drop (vput r.kind.toNat).length)=(r.seq.toNat,(vput r.seq.toNat).length):=by rw [d1];exact vget_vput _ (by omega) _
 have d2:(rowB r++T).drop ((vput r.kind.toNat).length+(vput r.seq.toNat).length)=vtext (strB r.key)++(vput r.val.size++T):=by rw [← List.drop_drop,d1];exact List.drop_left
 have g3:vgetText ((rowB r++T).drop ((vput r.kind.toNat).length+(vput r.seq.toNat).length))=(strB r.key,(vtext (strB r.key)).length):=by rw [d2];exact vgetText_vtext _ _ (by rw [strB_length];omega)
 have d3:(rowB r++T).drop ((vput r.kind.toNat).length+(vput r.seq.toNat).length+(vtext (strB r.key)).length)=vput r.val.size++T:=by rw [← List.drop_drop,d2];exact List.drop_left
 have g4:vget ((rowB r++T).drop ((vput r.kind.toNat).length+(vput r.seq.toNat).length+(vtext (strB r.key)).length))=(r.val.size,(vput r.val.size).length):=by rw [d3];exact vget_vput _ (by omega) _
 have p1:=(vput_len64 r.kind.toNat (by omega)).2
 have p2:=(vput_len64 r.seq.toNat (by omega)).2
 have p4:=(vput_len64 r.val.size (by omega)).2
 have p3:0<(vtext (strB r.key)).length:=by
  have:=(vput_len64 (strB r.key).length (by rw [strB_length];omega)).2
  unfold vtext;rw [List.length_append];omega
 have q1:sq r.kind.toNat=r.kind:=by rw [sq_small (by omega)];exact hk2
 have q2:sq r.seq.toNat=r.seq:=by rw [sq_small (by omega)];omega
 have hr:(⟨sq r.kind.toNat,sq r.seq.toNat,str (strB r.key),⟨#[]⟩⟩:RT)=noV r:=by rw [q1,q2,str_strB];rfl
 have e0:ByteArray.size ⟨#[]⟩=0:=rfl
 have n1:¬ (100<r.key.size∨4000<ByteArray.size ⟨#[]⟩):=by omega
 have hc:chk (noV r)=0:=by
  have hf:formR (noV r)=true:=by
   unfold formR noV
   simp only [Bool.and_eq_true,Bool.or_eq_true,decide_eq_true_eq]
   exact ⟨⟨s1,s2⟩,hk.imp id fun h=>⟨h.1,rfl⟩⟩
  unfold chk
  rw [if_neg (show ¬ (noV r).key.size=0 by show ¬ r.key.size=0;omega),if_neg (show ¬ (100<(noV r).key.size∨4000<(noV r).val.size) from n1),if_pos hf]
 have hz:¬ (sq r.kind.toNat=0∧0<r.val.size):=by rw [q1];rcases hk with hk | hk <;> omega
 rw [decV_of g1 g2 g3 g4,hr,if_neg (by omega),if_pos ⟨hc,k3,hz⟩]
 have:(rowB r).length=(vput r.kind.toNat).length+(vput r.seq.toNat).length+(vtext (strB r.key)).length+(vput r.val.size).length:=by unfold rowB;simp only [List.length_append];omega
 rw [this]
def dirN:Nat→List Nat→Option (List (RT×Nat))
 | 0,B=>if B.length=0 then some [] else none
 | f+1,B=>if B.length=0 then some [] else match decV B with
   | none=>none
   | some (r,z,e)=>(dirN f (B.drop e)).map ((r,z)::·)
def dirF (B:List Nat):Option (List (RT×Nat)):=dirN B.length B
theorem dirN_more (f:Nat):∀ (B:List Nat),B.length≤f→dirN f B=dirN B.length B:=by
 induction f using Nat.strongRecOn with
 | ind f ih=>
   intro B hB
   cases f with
   | zero=>rw [show B.length=0 by omega]
   | succ f=>
     by_cases h0:B.length=0
     ·rw [h0];simp [dirN,h0]
     ·obtain ⟨m,hm⟩:∃ m,B.length=m+1:=⟨B.length-1,by omega⟩
      rw [hm,dirN,dirN,if_neg h0,if_neg h0]
      cases hd:decV B with
      | none=>rfl
      | some t=>
        obtain ⟨r,z,e⟩:=t
        have he:=(decV_some hd).2.2.2.2
        have hl:(B.drop e).length=B.length-e:=List.length_drop ..
        show Option.map _ (dirN f (B.drop e))=Option.map _ (dirN m (B.drop e))
        rw [ih f (by omega) (B.drop e) (by omega),ih m (by omega) (B.drop e) (by omega)]
theorem dirF_zero {B:List Nat} (h:B.length=0):dirF B=some []:=by rw [List.eq_nil_of_length_eq_zero h];rfl
theorem dirF_bad {B:List Nat} (h0:B.length≠0) (h:decV B=none):dirF B=none:=by
 obtain ⟨m,hm⟩:∃ m,B.length=m+1:=⟨B.length-1,by omega⟩
 unfold dirF
 rw [hm,dirN,if_neg h0,h]
theorem dirF_more {B:List Nat} {r:RT} {z e:Nat} (h:decV B=some (r,z,e)):dirF B=(dirF (B.drop e)).map ((r,z)::·):=by
 have he:=(decV_some h).2.2.2.2
 have hl:(B.drop e).length=B.length-e:=List.length_drop ..
 obtain ⟨m,hm⟩:∃ m,B.length=m+1:=⟨B.length-1,by omega⟩
 unfold dirF
 rw [hm,dirN,if_neg (by omega),h]
 show Option.map _ (dirN m (B.drop e))=_
 rw [dirN_more m (B.drop e) (by omega)]
def rowsOf (l:List RT):List (RT×Nat):=l.map fun r=>(noV r,r.val.size)
def total:List (RT×Nat)→Nat
 | []=>0
 | x::l=>x.2+total l
theorem total_snoc (l:List (RT×Nat)) (x:RT×Nat):total (l++[x])=total l+x.2:=by
 induction l with
 | nil=>simp [total]
 | cons y l ih=>simp [total,ih];omega
theorem total_rows (l:List RT):total (rowsOf l)=(valsE l).length:=by
 induction l with
 | nil=>rfl
 | cons r l ih=>
   show r.val.size+total (rowsOf l)=_
   rw [ih,valsE,List.length_append,strB_length]
theorem dirF_rows {l:List RT} (h:∀ r∈l,chk r=0):dirF (rowsE l)=some (rowsOf l):=by
 induction l with
 | nil=>rfl
 | cons r l ih=>
   have h1:=decV_row (h r (by simp)) (rowsE l)
   have e:rowsE (r::l)=rowB r++rowsE l:=rfl
   rw [← e] at h1
   rw [dirF_more h1,e,List.drop_left,ih fun x hx=>h x (by simp [hx])]
   rfl
def DTo (B:List Nat) (p:Nat) (F:List (RT×Nat)):Prop:=dirF B=(dirF (B.drop p)).map (F++·)
theorem DTo.start (B:List Nat):DTo B 0 []:=by unfold DTo;simp
theorem DTo.step {B:List Nat} {p:Nat} {F:List (RT×Nat)} {r:RT} {z e:Nat} (h:DTo B p F) (hd:decV (B.drop p)=some (r,z,e)):DTo B (p+e) (F++[(r,z)]):=by
 unfold DTo at h ⊢
 rw [h,dirF_more hd,List.drop_drop]
 cases dirF (B.drop (p+e)) <;> simp
theorem DTo.bad {B:List Nat} {p:Nat} {F:List (RT×Nat)} (h:DTo B p F) (h0:(B.drop p).length≠0) (hd:decV (B.drop p)=none):dirF B=none:=by
 unfold DTo at h
 rw [h,dirF_bad h0 hd];rfl
theorem DTo.done {B:List Nat} {p:Nat} {F:List (RT×Nat)} (h:DTo B p F) (h0:(B.drop p).length=0):dirF B=some F:=by
 unfold DTo at h
 rw [h,dirF_zero h0];simp
def RowOk (x:RT×Nat):Prop:=chk x.1=0∧x.1.val=⟨#[]⟩∧x.2≤4000
theorem total_le {l:List (RT×Nat)} (h:∀ x∈l,RowOk x):total l≤4000*l.length:=by
 induction l with
 | nil=>simp [total]
 | cons x l ih=>
   have:=(h x (by simp)).2.2
   have:=ih fun y hy=>h y (by simp [hy])
   rw [total,List.length_cons];omega
end Go.Proofs.YtmjpnbadfmgimaaGreatDoor.S16
namespace Go.Proofs.YtmjpnbadfmgimaaGreatDoor.S16
open Go.RowKit S14
abbrev RW:=RT×Nat×Nat
def zQ:RW:=(zR,0,0)
def qL (x:RW):List Value:=[.int .i64 x.1.kind,.int .i64 x.1.seq,.string x.1.key,.string x.1.val,.int .i64 (x.2.1:Nat),.int .i64 (x.2.2:Nat)]
theorem qL_length (x:RW):(qL x).length=6:=rfl
theorem qL_one (x:RW):∀ u∈qL x,u.oneCell'=true:=by
 intro u hu
 simp [qL] at hu
 rcases hu with rfl | rfl | rfl | rfl | rfl | rfl <;> rfl
def loadQ (v:Value):Sem Value:=Instr.loadAt 62 v
theorem loadQ_eq (v:Value):Instr.loadAt 62 v=loadQ v:=rfl
theorem run_loadQ {w:World} {g o:Nat} {cs:List Value} (hl:cs.length=6) (h:∀ j u,cs[j]? = some u→w.cell? ⟨g,o+j,none⟩=some u):
  (loadQ (.pointer (some ⟨g,o,none⟩))).run Tryz.prog w=.ok (.agg cs.toArray) w:=by
 simp only [loadQ,Instr.loadAt,Instr.sureAddr,loadVar,loadCells,Sem.run_bind,Sem.run_pure,Result.andThen_ok,Tryz.isAgg62,Tryz.sizeOf62,if_true]
 have:=run_loadCellsFrom_list Tryz.prog w ⟨g,o,none⟩ cs 6 hl (fun j v hj=>by
  rw [addr_at]
  exact h j v hj)
 rw [this]
 rfl
theorem run_loadQ_blk {w:World} {g:Nat} {t:TypeId} {x:RW} (h:Blk w g t (qL x)):(loadQ (.pointer (some ⟨g,0,none⟩))).run Tryz.prog w=.ok (.agg #[.int .i64 x.1.kind,.int .i64 x.1.seq,.string x.1.key,.string x.1.val,.int .i64 (x.2.1:Nat),.int .i64 (x.2.2:Nat)]) w:=
 run_loadQ (cs:=qL x) rfl fun j u hj=>by rw [Nat.zero_add];exact h.cell hj
def storeQ (p v:Value):Sem Unit:=Instr.storeAt 62 p v
theorem storeQ_eq (p v:Value):Instr.storeAt 62 p v=storeQ p v:=rfl
theorem run_storeQ {w:World} {g:Nat} {t:TypeId} {cs ds:List Value} (h:Blk w g t cs) (ho:cs.length=6) (hd:ds.length=6) (h1:∀ u∈ds,u.oneCell'=true):
  (storeQ (.pointer (some ⟨g,0,none⟩)) (.agg ds.toArray)).run Tryz.prog w=.ok () (w.setRow g ds.toArray):=by
 simp only [storeQ,Instr.storeAt,Instr.sureAddr,storeVar,Sem.run_bind,Sem.run_pure,Result.andThen_ok,Tryz.sizeOf62]
 rw [if_neg (by simp [Value.cells,hd])]
 have:=run_storeCells_at (P:=Tryz.prog) g 0 t ds 0 cs.toArray w h (by simp [ho,hd]) h1
 have e:cs.drop 6=[]:=List.drop_of_length_le (by omega)
 simpa [Value.cells,e,hd] using this
theorem back_q {w W:World} {g:Nat} {t:TypeId} {x:RW} (y:RW) (hk:Blk W g t (qL x)) (hb:Below w.heap.size w W) (hg:w.heap.size≤g):
  ∃ W2,(storeQ (.pointer (some ⟨g,0,none⟩)) (.agg #[.int .i64 y.1.kind,.int .i64 y.1.seq,.string y.1.key,.string y.1.val,.int .i64 (y.2.1:Nat),.int .i64 (y.2.2:Nat)])).run Tryz.prog W=.ok () W2∧Hid (Blk W2 g t (qL y))∧Hid (Below w.heap.size w W2):=
 ⟨_,run_storeQ (ds:=qL y) hk rfl rfl (qL_one y),Lib.hid (hk.setRow (qL y)),Lib.hid (bel_setRow hb hg _)⟩
def buildQ (v:Array (Nat×Value)):Sem Value:=Instr.build 62 v
theorem buildQ_eq (v:Array (Nat×Value)):Instr.build 62 v=buildQ v:=rfl
theorem run_buildQ (w:World):(buildQ #[]).run Tryz.prog w=.ok (.agg #[.int .i64 0,.int .i64 0,.string ⟨#[]⟩,.string ⟨#[]⟩,.int .i64 0,.int .i64 0]) w:=by kernel_rfl
theorem run_buildQ2 (w:World) (k s z:Int) (b c:ByteArray):(buildQ #[(0,.agg #[.int .i64 k,.int .i64 s,.string b,.string c]),(2,.int .i64 z)]).run Tryz.prog w=.ok (.agg #[.int .i64 k,.int .i64 s,.string b,.string c,.int .i64 0,.int .i64 z]) w:=by kernel_rfl
def qcells (L:List RW):List Value:=L.flatMap qL
theorem qcells_append (A B:List RW):qcells (A++B)=qcells A++qcells B:=by simp [qcells]
theorem qcells_get {L:List RW} {i j:Nat} {u:Value} (hi:i<L.length) (hu:(qL (L.getD i zQ))[j]? = some u):(qcells L)[i*6+j]? = some u:=by
 have hj:j<6:=(List.getElem?_eq_some_iff.1 hu).1
 induction L generalizing i with
 | nil=>simp at hi
 | cons r L ih=>
   have e:qcells (r::L)=qL r++qcells L:=by simp [qcells]
   rw [e]
   cases i with
   | zero=>
     rw [List.getElem?_append_left (by rw [qL_length];omega)]
     simpa using hu
   | succ i=>
     rw [List.getElem?_append_right (by rw [qL_length];omega),qL_length,show (i+1)*6+j-6=i*6+j by omega]
     exact ih (by simpa using hi) (by simpa using hu)
def QAt (w:World) (v:Value) (L:List RW):Prop:=
 ∃ a cap,v=.slice a L.length cap∧L.length≤cap∧cap≤maxLen∧(0<L.length→∃ b off,a=some ⟨b,off,none⟩∧b<w.heap.size∧∀ i,i<L.length→∀ j u,(qL (L.getD i zQ))[j]? = some u→w.cell? ⟨b,off+i*6+j,none⟩=some u)
theorem QAt.below {w w':World} {v:Value} {L:List RW} (h:QAt w v L) (hb:Below w.heap.size w w'):QAt w' v L:=by
 obtain ⟨a,cap,rfl,h1,h2,h3⟩:=h
 refine ⟨a,cap,rfl,h1,h2,fun h0=>?_⟩
 obtain ⟨b,off,rfl,hbl,hc⟩:=h3 h0
 exact ⟨b,off,rfl,Nat.lt_of_lt_of_le hbl hb.size,fun i hi j u hu=>(hb.cell (p:=⟨b,_,none⟩) hbl).trans (hc i hi j u hu)⟩
theorem QAt.load {w W:World} {a:Option Addr} {n cap:Nat} {L:List RW} (h:QAt w (.slice a n cap) L) {i:Nat} (hi:i<L.length):∃ b off,a=some ⟨b,off,none⟩∧∀ W,From w W→(loadQ (.pointer (some ⟨b,off+i*6,none⟩))).run Tryz.prog W=.ok (.agg #[.int .i64 (L.getD i zQ).1.kind,.int .i64 (L.getD i zQ).1.seq,.string (L.getD i zQ).1.key,.string (L.getD i zQ).1.val,.int .i64 ((L.getD i zQ).2.1:Nat),.int .i64 ((L.getD i zQ).2.2:Nat)]) W:=by
 obtain ⟨a',cap',he,h1,h2,h3⟩:=h
 simp at he
 obtain ⟨rfl,rfl,rfl⟩:=he
 obtain ⟨b,off,rfl,hb,hc⟩:=h3 (by omega)
 exact ⟨b,off,rfl,fun W hW=>run_loadQ (cs:=qL (L.getD i zQ)) rfl fun j u hj=>(Below.cell (p:=⟨b,_,none⟩) hW hb).trans (hc i hi j u hj)⟩
def OwnQ (base:Nat) (w:World) (v:Value) (L:List RW):Prop:=w.ownsRow base 62 6 v L.length (qcells L)
theorem ownQ_nil (base:Nat) (w:World):OwnQ base w (.slice none 0 0) []:=World.ownsRow_nil _ _ _ _
theorem OwnQ.slice {base:Nat} {w:World} {v:Value} {L:List RW} (h:OwnQ base w v L):∃ sp cap,v=.slice sp L.length cap∧L.length≤cap∧cap≤maxLen:=ownsRow_slice h
theorem OwnQ.below {base:Nat} {w w':World} {v:Value} {L:List RW} (h:OwnQ base w v L) (hb:Below w.heap.size w w'):OwnQ base w' v L:=
 ownsRow_row h (r:=none) ⟨hb.os,hb.tape,hb.output,hb.size,fun k hk _=>hb.block k hk⟩ (by simp)
theorem OwnQ.lt {base:Nat} {w:World} {v:Value} {L:List RW} (h:OwnQ base w v L):∀ k,v.ownBlock=some k→base≤k:=fun k hk=>(World.ownsRow.lt h k hk).1
theorem OwnQ.at {base:Nat} {w:World} {v:Value} {L:List RW} (h:OwnQ base w v L):QAt w v L:=by
 obtain ⟨sp,cap,rfl,h1,h2⟩:=h.slice
 refine ⟨sp,cap,rfl,h1,h2,fun h0=>?_⟩
 obtain ⟨hl,⟨he,h3⟩ | ⟨g,cap',cur,he,_,hh,hn,hm,hs,ht⟩⟩:=h
 ·omega
 ·simp at he
  obtain ⟨rfl,rfl⟩:=he
  refine ⟨g,0,rfl,(Array.getElem?_eq_some_iff.1 hh).1,fun i hi j u hu=>?_⟩
  have hj:j<6:=(List.getElem?_eq_some_iff.1 hu).1
  have hg:=qcells_get hi hu
  rw [← ht,List.getElem?_take_of_lt (by omega)] at hg
  simp [World.cell?,hh]
  simpa using hg
theorem infoQ:(Tryz.prog.info? 62).map (fun i=>(i.zero,i.size,i.bytes))=some (some (.agg (qL zQ).toArray),6,64):=by kernel_rfl
theorem wpList_append_q {w:World} {ops:Array Oper} {rest:List Oper} {o:Oper} {a:Act} {Q:Exit→Act→World→Prop} (hgd:o.guard=none) (s x:Operand)
  (ho:o.op=.call { callee:=.builtin .append,args:=#[s,x],argTypes:=#[56,56] })
  (base:Nat) (v:Value) (L:List RW) (hs:a.eval s=v) (hown:OwnQ base w v L) (r:RT) (f z:Nat)
  (hx:a.eval x=.slice (some ⟨w.heap.size,0,none⟩) 1 1)
  (hbytes:L.length+1≤4294967296) (hbase:base≤w.heap.size)
  (h:∀ v' w',OwnQ base w' v' (L++[(r,f,z)])→(w.alloc (.cells #[.int .i64 r.kind,.int .i64 r.seq,.string r.key,.string r.val,.int .i64 f,.int .i64 z] 62 (0,0))).grownBy w' v.ownBlock→wpList Tryz.prog ops Q rest (a.put o.dst v') w'):
  wpList Tryz.prog ops Q (o::rest) a (w.alloc (.cells #[.int .i64 r.kind,.int .i64 r.seq,.string r.key,.string r.val,.int .i64 f,.int .i64 z] 62 (0,0))):=by
 obtain ⟨i0,hi,hz0,hz1,hz2⟩:=info_parts infoQ
 have hA:Below w.heap.size w (w.alloc (.cells #[.int .i64 r.kind,.int .i64 r.seq,.string r.key,.string r.val,.int .i64 f,.int .i64 z] 62 (0,0))):=(Below.refl _ _).alloc (Nat.le_refl _) _
 have hk:=Blk.new w 62 (qL (r,f,z))
 refine wpList_append_own _ hgd s x _ ho base 62 i0 (.agg (qL zQ).toArray) 6 64 Tryz.underlying56 hi hz0 hz1 hz2 rfl (by decide) v L.length (qcells L) hs (hown.below hA) ⟨w.heap.size,0,none⟩ 1 1 (qL (r,f,z)) hx rfl (fun j u hj=>?_) (qL_one _) (by unfold maxLen;omega) (by omega) (by simp;omega) fun v' w' h3 h4 _=>h v' w' ?_ h4
 ·have hadd:(⟨w.heap.size,0,none⟩:Addr).add j=⟨w.heap.size,j,none⟩:=by unfold Addr.add;split <;> simp_all
  rw [hadd]
  exact hk.cell hj
 ·unfold OwnQ
  rw [List.length_append,qcells_append]
  have e:qcells [(r,f,z)]=qL (r,f,z):=by simp [qcells]
  rw [e]
  exact h3
def qOf:List (RT×Nat)→Nat→List RW
 | [],_=>[]
 | x::l,f=>(x.1,f,x.2)::qOf l (f+x.2)
theorem qOf_length (l:List (RT×Nat)):∀ f,(qOf l f).length=l.length:=by
 induction l with
 | nil=>intro f;rfl
 | cons x l ih=>intro f;rw [qOf,List.length_cons,List.length_cons,ih]
theorem qOf_snoc (l:List (RT×Nat)) (x:RT×Nat):∀ f,qOf (l++[x]) f=qOf l f++[(x.1,f+total l,x.2)]:=by
 induction l with
 | nil=>intro f;simp [qOf,total]
 | cons y l ih=>intro f;rw [List.cons_append,qOf,ih,qOf,total,List.cons_append,Nat.add_assoc]
def zP:RT×Nat:=(zR,0)
theorem total_take (l:List (RT×Nat)):∀ i,i<l.length→total (l.take (i+1))=total (l.take i)+(l.getD i zP).2∧total (l.take (i+1))≤total l:=by
 induction l with
 | nil=>intro i hi;simp at hi
 | cons x l ih=>
   intro i hi
   cases i with
   | zero=>simp [total]
   | succ i=>
     obtain ⟨h1,h2⟩:=ih i (by simpa using hi)
     simp only [List.take_succ_cons,total] at h1 h2 ⊢
     have e:(x::l).getD (i+1) zP=l.getD i zP:=by simp
     rw [e]
     omega
theorem qOf_get (l:List (RT×Nat)):∀ i f,i<l.length→(qOf l f).getD i zQ=((l.getD i zP).1,f+total (l.take i),(l.getD i zP).2):=by
 induction l with
 | nil=>intro i f hi;simp at hi
 | cons x l ih=>
   intro i f hi
   cases i with
   | zero=>simp [qOf,total]
   | succ i=>
     have h:=ih i (f+x.2) (by simpa using hi)
     have e:(x::l).getD (i+1) zP=l.getD i zP:=by simp
     have e2:(qOf (x::l) f).getD (i+1) zQ=(qOf l (f+x.2)).getD i zQ:=by simp [qOf]
     rw [e,e2,h,List.take_succ_cons,total,Nat.add_assoc]
end Go.Proofs.YtmjpnbadfmgimaaGreatDoor.S16
namespace Go.Proofs.YtmjpnbadfmgimaaGreatDoor.S16
open Go.RowKit S14 Go.Maps
theorem law:Keyed Tryz.prog 9:=string_keyed Tryz.underlying9
theorem zeroI (w:World):(zeroValue 3).run Tryz.prog w=.ok (.int .i64 0) w:=by kernel_rfl
def lastN (L:List (RT×Nat)) (s:ByteArray):Nat→Option Nat
 | 0=>none
 | n+1=>if (L.getD n zP).1.key=s then some n else lastN L s n
theorem lastN_some (L:List (RT×Nat)) {s:ByteArray}:∀ n i,i<n→(L.getD i zP).1.key=s→∃ j,lastN L s n=some j∧i≤j:=by
 intro n
 induction n with
 | zero=>intro i h;omega
 | succ n ih=>
   intro i hi hk
   unfold lastN
   split
   ·exact ⟨n,rfl,by omega⟩
   ·rename_i hne
    by_cases e:i=n
    ·subst e;exact absurd hk hne
    ·exact ih i (by omega) hk
def klit (s:ByteArray):Lit:=.string s.data.toList
theorem klit_inj {s t:ByteArray} (h:klit s=klit t):s=t:=by
 unfold klit at h
 rw [Lit.string.injEq] at h
 exact ByteArray.ext (Array.toList_inj.1 h)
theorem klit_key (s:ByteArray):WideAt.IsKeyLit (klit s):=by trivial
def IsLast (w:World) (b:Nat) (L:List (RT×Nat)) (n:Nat):Prop:=
 ∃ D:DataW Unit,w.ownsMap Tryz.prog 9 (plainElem Tryz.prog 3) b n D∧∀ s,Maps.has D (klit s)=(lastN L s n).isSome∧D.atKey (klit s) (.lit (.int .i64 0))=.lit (.int .i64 ((lastN L s n).getD 0:Nat))
theorem last_made (w:World) (L:List (RT×Nat)):IsLast (w.alloc (.map #[] 0)) w.heap.size L 0:=⟨.map [],World.ownsMap_made _ _ _ _,fun s=>⟨rfl,rfl⟩⟩
theorem IsLast.lt {w:World} {b n:Nat} {L:List (RT×Nat)} (h:IsLast w b L n):b<w.heap.size:=by
 obtain ⟨D,h,_⟩:=h;exact h.lt
theorem IsLast.keep {w w':World} {b n:Nat} {L:List (RT×Nat)} (h:IsLast w b L n) (hk:w'.heap[b]? = w.heap[b]?):IsLast w' b L n:=by
 obtain ⟨D,⟨es,clock,hb,F,hs,hD⟩,h2⟩:=h
 exact ⟨D,⟨es,clock,hk.trans hb,F,hs,hD⟩,h2⟩
theorem IsLast.below {w w':World} {b n:Nat} {L:List (RT×Nat)} (h:IsLast w b L n) (hb:Below w.heap.size w w'):IsLast w' b L n:=h.keep (hb.block b h.lt)
theorem last_step {w:World} {b n:Nat} {L:List (RT×Nat)} {D:DataW Unit} (hm:Maps.IsMap D) (hD:∀ s,Maps.has D (klit s)=(lastN L s n).isSome∧D.atKey (klit s) (.lit (.int .i64 0))=.lit (.int .i64 ((lastN L s n).getD 0:Nat))) (h:w.ownsMap Tryz.prog 9 (plainElem Tryz.prog 3) b (n+1) (D.put (klit (L.getD n zP).1.key) (.lit (.int .i64 n)))):IsLast w b L (n+1):=by
 refine ⟨_,h,fun s=>?_⟩
 obtain ⟨h1,h2⟩:=hD s
 by_cases e:(L.getD n zP).1.key=s
 ·rw [show lastN L s (n+1)=some n by unfold lastN;rw [if_pos e],← e,has_put_same hm (klit_key _),atKey_put_same hm (klit_key _)]
  exact ⟨rfl,rfl⟩
 ·have hne:klit s≠klit (L.getD n zP).1.key:=fun h=>e (klit_inj h).symm
  rw [show lastN L s (n+1)=lastN L s n by rw [lastN,if_neg e],has_put_other hne,atKey_put_other hne]
  exact ⟨h1,h2⟩
end Go.Proofs.YtmjpnbadfmgimaaGreatDoor.S16
namespace Go.Proofs.YtmjpnbadfmgimaaGreatDoor.S16
open Go.RowKit S2.Pl S3.Pl S14
attribute [local go_sem ↓] loadR_eq storeR_eq buildR_eq loadQ_eq storeQ_eq buildQ_eq conv_eq
theorem encoded_any (r:RT) (w:World) (h:chk r=0):Calls Tryz.prog 26 #[.agg #[.int .i64 r.kind,.int .i64 r.seq,.string r.key,.string r.val]] w (MadePost (rowB r) w):=by
 obtain ⟨k1,k2,k3,k4⟩:=chk_ok h
 obtain ⟨s1,s2,_⟩:=form_ok k4
 obtain ⟨q1,q2⟩:=kind_nat h
 have hlen:=(rowB_len h).1
 have hb1:=agg_zero w r
 have hk1:=Blk.new w 26 (recL r)
 obtain ⟨w1,hw1⟩:∃ w1,w.alloc (.cells #[.int .i64 r.kind,.int .i64 r.seq,.string r.key,.string r.val] 26)=w1:=⟨_,rfl⟩
 have HB1:Hid (Below w.heap.size w w1):=Lib.hid (by rw [← hw1];exact hb1)
 have HK1:Hid (Blk w1 w.heap.size 26 (recL r)):=Lib.hid (by rw [← hw1];exact hk1)
 clear hb1 hk1 k4 h
 obtain ⟨k,s,key,val⟩:=r
 simp only at k1 k2 k3 s1 s2 q1 q2 hw1 ⊢
 obtain ⟨kn,rfl⟩:∃ kn:Nat,k=(kn:Int):=⟨k.toNat,q2.symm⟩
 obtain ⟨n,rfl⟩:∃ n:Nat,s=(n:Int):=⟨s.toNat,by omega⟩
 have c0:w1.cell? ⟨w.heap.size,0,none⟩=some (.int .i64 kn):=HK1.out.cell rfl
 have hgl:=HK1.out.lt
 have hbd:rowB ⟨kn,n,key,val⟩=vput kn++vput n++vtext (strB key)++vput val.size:=by unfold rowB;simp
 rw [hbd] at hlen
 simp only [List.length_append] at hlen
 have HBD:=Lib.hid hbd
 have HU0:Hid (U64 (kn:Int)):=Lib.hid ⟨by omega,by omega⟩
 have HU1:Hid (U64 (n:Int)):=Lib.hid ⟨by omega,by omega⟩
 have HU2:Hid (U64 (val.size:Int)):=Lib.hid ⟨by omega,by omega⟩
 clear hbd q2 
 simp only [Int.toNat_natCast] at q1
 go_enter Tryz.func26,Tryz.ntmps26
 go_wp2_with fail
 refine (S2.put_any kn _ HU0.out).mono ?_
 rintro e w2 ⟨v2,rfl,ho2,hb2⟩
 rw [Int.toNat_natCast] at ho2
 have HS2:Hid (Sofar w1 w2 v2 (vput kn)):=Lib.hid ⟨ho2,hb2⟩
 have c1:w2.cell? ⟨w.heap.size,1,none⟩=some (.int .i64 n):=(HK1.out.below hb2 hgl).cell rfl
 clear ho2 hb2 c0 hw1
 obtain ⟨sp2,N2,cap2,rfl,HN2⟩:=HS2.out.open
 go_wp2_with fail
 refine (S2.put_any n _ HU1.out).mono ?_
 rintro e w3 ⟨v3,rfl,ho3,hb3⟩
 rw [Int.toNat_natCast] at ho3
 obtain ⟨sp3,cap3,rfl,_,_⟩:=ownsRow_slice ho3
 have HI3:=Lib.hid (isBytes_own (vput_lt _) ho3)
 have HS3:=Lib.hid (HS2.out.below hb3)
 clear ho3 hb3 HS2 c1
 go_wp2_with (at_builtin;refine wpList_append_bytes rfl (.tmp 8) (.tmp 12) rfl w1.heap.size _ _ _ rfl HS3.out.1 _ (vput n) rfl HI3.out (by omega) HS3.out.2.size ?_;intro v4 w4 hown hgr;have HS4:=Lib.hid (HS3.out.app hown hgr);clear hown hgr;obtain ⟨sp4,N4,cap4,rfl,HN4⟩:=HS4.out.open;have c2:w4.cell? ⟨w.heap.size,2,none⟩=some (.string key):=(HK1.out.below HS4.out.2 hgl).cell rfl;clear HS3 HI3)
 refine (S2.text_any key _ (by omega)).mono ?_
 rintro e w5 ⟨v5,rfl,ho5,hb5⟩
 obtain ⟨sp5,cap5,rfl,_,_⟩:=ownsRow_slice ho5
 have HI5:=Lib.hid (isBytes_own (vtext_lt (strB_lt _)) ho5)
 have HS5:=Lib.hid (HS4.out.below hb5)
 clear ho5 hb5 HS4 c2
 go_wp2_with (at_builtin;refine wpList_append_bytes rfl (.tmp 14) (.tmp 17) rfl w1.heap.size _ _ _ rfl HS5.out.1 _ (vtext (strB key)) rfl HI5.out (by rw [List.length_append];omega) HS5.out.2.size ?_;intro v6 w6 hown hgr;have HS6:=Lib.hid (HS5.out.app hown hgr);clear hown hgr;obtain ⟨sp6,N6,cap6,rfl,HN6⟩:=HS6.out.open;have c3:w6.cell? ⟨w.heap.size,3,none⟩=some (.string val):=(HK1.out.below HS6.out.2 hgl).cell rfl;clear HS5 HI5)
 refine (S2.put_any val.size _ HU2.out).mono ?_
 rintro e w7 ⟨v7,rfl,ho7,hb7⟩
 rw [Int.toNat_natCast] at ho7
 obtain ⟨sp7,cap7,rfl,_,_⟩:=ownsRow_slice ho7
 have HI7:=Lib.hid (isBytes_own (vput_lt _) ho7)
 have HS7:=Lib.hid (HS6.out.below hb7)
 clear ho7 hb7 HS6 c3
 go_wp2_with (at_builtin;refine wpList_append_bytes rfl (.tmp 19) (.tmp 24) rfl w1.heap.size _ _ _ rfl HS7.out.1 _ (vput val.size) rfl HI7.out (by simp only [List.length_append];omega) HS7.out.2.size ?_;intro v8 w8 hown hgr;have HS8:=Lib.hid (HS7.out.app hown hgr);clear hown hgr HS7 HI7)
 go_ret
 refine ⟨v8,rfl,?_,HB1.out.trans (HS8.out.2.mono HB1.out.size)⟩
 rw [HBD.out]
 exact own_base HS8.out.1 HB1.out.size

theorem with_any (r:RT) (f z:Nat) (v:Value) (B:List Nat) (w:World) (hv:IsBytes w v B):Calls Tryz.prog 35 #[.agg #[.int .i64 r.kind,.int .i64 r.seq,.string r.key,.string r.val,.int .i64 f,.int .i64 z],v] w (RetRec (putV r (str B)) w):=by
 have hk1:=Blk.new w 62 (qL (r,f,z))
 have hb1:Below w.heap.size w (w.alloc (.cells #[.int .i64 r.kind,.int .i64 r.seq,.string r.key,.string r.val,.int .i64 f,.int .i64 z] 62)):=(Below.refl _ _).alloc (Nat.le_refl _) _
 obtain ⟨w1,hw1⟩:∃ w1,w.alloc (.cells #[.int .i64 r.kind,.int .i64 r.seq,.string r.key,.string r.val,.int .i64 f,.int .i64 z] 62)=w1:=⟨_,rfl⟩
 have hb1:Below w.heap.size w w1:=by rw [← hw1];exact hb1
 have hk1:Blk w1 w.heap.size 62 (qL (r,f,z)):=by rw [← hw1];exact hk1
 have hb2:=(Below.refl w1.heap.size w1).alloc (Nat.le_refl _) (.cells #[.int .i64 0,.int .i64 0,.string ⟨#[]⟩,.string ⟨#[]⟩] 26)
 have hk2:=Blk.new w1 26 (recL zR)
 obtain ⟨w2,hw2⟩:∃ w2,w1.alloc (.cells #[.int .i64 0,.int .i64 0,.string ⟨#[]⟩,.string ⟨#[]⟩] 26)=w2:=⟨_,rfl⟩
 have HZ2:Hid (Blk w2 w1.heap.size 26 (recL zR)):=Lib.hid (by rw [← hw2];exact hk2)
 rw [hw2] at hb2
 have HQ2:Hid (Blk w2 w.heap.size 62 (qL (r,f,z))):=Lib.hid (hk1.below hb2 hk1.lt)
 have hlt:=hk1.lt
 have HB2:=Lib.hid (hb1.trans (hb2.mono hb1.size))
 have HV2:=Lib.hid (hv.below HB2.out)
 have hld:(loadR (.pointer (some ⟨w.heap.size,0,none⟩))).run Tryz.prog w2=.ok (.agg #[.int .i64 r.kind,.int .i64 r.seq,.string r.key,.string r.val]) w2:=run_loadR (cs:=recL r) rfl fun j u hj=>by
  rw [Nat.zero_add]
  refine HQ2.out.cell ?_
  have hj4:j<4:=(List.getElem?_eq_some_iff.1 hj).1
  have:(qL (r,f,z))[j]? = (recL r)[j]? := by
   rw [show qL (r,f,z)=recL r++[.int .i64 f,.int .i64 z] from rfl,List.getElem?_append_left (by rw [recL_length];exact hj4)]
  rw [this];exact hj
 obtain ⟨w3,hst3,HR3,HB3⟩:=back_rec (w:=w2) r (Blk.new w2 26 (recL zR)) ((Below.refl _ _).alloc (Nat.le_refl _) _) (Nat.le_refl _)
 simp only [recL,zR] at hst3
 have HV3:=Lib.hid (HV2.out.below HB3.out)
 have f3:w3.frozen? ⟨w2.heap.size,3,none⟩=false:=HR3.out.frozen 3
 have c3:w3.cell? ⟨w2.heap.size,3,none⟩=some (.string r.val):=HR3.out.cell rfl
 have hcv:=run_conv HV3.out
 have hsz2:w1.heap.size<w2.heap.size:=HZ2.out.lt
 have HZ3:=Lib.hid (HZ2.out.below HB3.out hsz2)
 have HB3':=Lib.hid (HB2.out.trans (HB3.out.mono HB2.out.size))
 obtain ⟨w4,hw4⟩:∃ w4,w3.setCell ⟨w2.heap.size,3,none⟩ (.string (str B))=w4:=⟨_,rfl⟩
 have HR4:Hid (Blk w4 w2.heap.size 26 (recL (putV r (str B)))):=Lib.hid (by rw [← hw4];exact HR3.out.set 3 (.string (str B)))
 have HG4:Hid (Below w2.heap.size w2 w4):=Lib.hid (by rw [← hw4];exact HB3.out.trans (((Gr.refl w3 w2.heap.size).setCell 3 _).below HB3.out.size (Nat.le_refl _)))
 have HZ4:=Lib.hid (HZ2.out.below HG4.out hsz2)
 have HB4:=Lib.hid (HB2.out.trans (HG4.out.mono HB2.out.size))
 have hld4:=run_loadR_blk HR4.out
 obtain ⟨w5,hst5,HZ5,HB5⟩:=back_rec (w:=w) (putV r (str B)) HZ4.out HB4.out (by omega)
 simp only [putV] at hld4 hst5
 clear hv hb1 hk1 hb2 hk2
 clear HZ3 HB3' HZ4 HR4 HG4 HB4 HV3 HR3 HB3 HZ2 HQ2 HB2 HV2
 go_enter Tryz.func35,Tryz.ntmps35
 go_wp2
 exact ret_rec1 (r:=putV r (str B)) rfl rfl rfl HZ5.out HB5
end Go.Proofs.YtmjpnbadfmgimaaGreatDoor.S16
namespace Go.Proofs.YtmjpnbadfmgimaaGreatDoor.S16
open Go.RowKit S2.Pl S3.Pl S14
theorem results_cell_tmp2 {fn:Func} {p u u2:Tmp} {ty:TypeId} (h:fn.results=#[.cell p ty,.tmp u,.tmp u2]) (tmps:Array Value) (P:Program) (w:World):
  (results fn tmps).run P w=
   ((asAddr (tmps.getD p undef)).run P w).andThen fun a w₁=>((loadVar ty a).run P w₁).andThen fun v w₂=>.ok (.tuple #[v,tmps.getD u undef,tmps.getD u2 undef]) w₂:=by
 simp only [results,h]
 simp [Sem.run_bind,Result.andThen]
theorem ret_q {fn:Func} {p u u2:Tmp} (h:fn.results=#[.cell p 62,.tmp u,.tmp u2]) (tmps:Array Value) {w:World} {g:Nat} {t:TypeId} {x:RW} {n:Int} {b:Bool} (hp:tmps.getD p undef=.pointer (some ⟨g,0,none⟩)) (hu:tmps.getD u undef=.int .i64 n) (hu2:tmps.getD u2 undef=.bool b) (hk:Blk w g t (qL x)):
  (results fn tmps).run Tryz.prog w=.ok (.tuple #[.agg #[.int .i64 x.1.kind,.int .i64 x.1.seq,.string x.1.key,.string x.1.val,.int .i64 (x.2.1:Nat),.int .i64 (x.2.2:Nat)],.int .i64 n,.bool b]) w:=by
 have hl:=run_loadQ_blk hk
 simp only [loadQ,Instr.loadAt,Instr.sureAddr,Sem.run_bind,Sem.run_pure,Result.andThen_ok] at hl
 rw [results_cell_tmp2 h,hp,hu,hu2]
 simp only [asAddr,Sem.run_pure,Result.andThen_ok]
 rw [hl]
 rfl
def dec3 (B:List Nat):RW×Nat×Bool:=match decV B with
 | none=>(zQ,0,false)
 | some t=>((t.1,0,t.2.1),t.2.2,true)
def DecPost (B:List Nat) (w:World) (e:Ending) (w':World):Prop:=
 ∃ x n b,dec3 B=(x,n,b)∧e=.returned (.tuple #[.agg #[.int .i64 x.1.kind,.int .i64 x.1.seq,.string x.1.key,.string x.1.val,.int .i64 (x.2.1:Nat),.int .i64 (x.2.2:Nat)],.int .i64 (n:Nat),.bool b])∧Hid (Below w.heap.size w w')
theorem q_end {B:List Nat} {w W:World} {g:Nat} {t:TypeId} {x:RW} {n:Int} {m:Nat} {b:Bool} {fn:Func} {p u u2:Tmp} {a:Act} (h:fn.results=#[.cell p 62,.tmp u,.tmp u2]) (hd:a.defers=[]) (hp:a.tmps.getD p undef=.pointer (some ⟨g,0,none⟩)) (hu:a.tmps.getD u undef=.int .i64 n) (hu2:a.tmps.getD u2 undef=.bool b) (hk:Blk W g t (qL x)) (hO:dec3 B=(x,m,b)) (hn:n=m) (hb:Hid (Below w.heap.size w W)):
  bodyPost Tryz.prog fn (DecPost B w) Exit.ret a W:=
 bodyPost_ret (ret_q h _ hp hu hu2 hk) hd ⟨x,m,b,hO,by rw [hn],hb⟩
theorem from_i {w:World} {v:Value} {B:List Nat} (hv:IsBytes w v B) (k:Nat) (K:Int) (hK:K=k) (hk:k≤B.length):
  ∃ a n c,Hid (n=(B.drop k).length)∧(∀ W,(sliceU8 v (some (.int .i64 K)) none none).run Tryz.prog W=.ok (.slice a n c) W)∧Hid (IsBytes w (.slice a n c) (B.drop k)):=by
 subst hK;exact from' hv k hk
theorem back_zq {w W:World} {g:Nat} {t:TypeId} {x:RW} (hk:Blk W g t (qL x)) (hb:Below w.heap.size w W) (hg:w.heap.size≤g):
  ∃ W2,(storeQ (.pointer (some ⟨g,0,none⟩)) (.agg #[.int .i64 0,.int .i64 0,.string ⟨#[]⟩,.string ⟨#[]⟩,.int .i64 0,.int .i64 0])).run Tryz.prog W=.ok () W2∧Hid (Blk W2 g t (qL zQ))∧Hid (Below w.heap.size w W2):=back_q zQ hk hb hg
theorem dec_bad {B:List Nat} (h:decV B=none):dec3 B=(zQ,0,false):=by unfold dec3;rw [h]
theorem dec_good {B:List Nat} {r:RT} {z e:Nat} (h:decV B=some (r,z,e)):dec3 B=((r,0,z),e,true):=by unfold dec3;rw [h]
attribute [local go_sem ↓] loadR_eq storeR_eq buildR_eq loadQ_eq storeQ_eq buildQ_eq sliceU8_eq
attribute [local go_sem] run_buildR3 run_buildQ run_buildQ2
theorem decoded_any (v:Value) (B:List Nat) (w:World) (hv:IsBytes w v B) (hl:B.length≤1000000000):Calls Tryz.prog 46 #[v] w (DecPost B w):=by
 have hb1:Below w.heap.size w (w.alloc (.cells #[.int .i64 0,.int .i64 0,.string ⟨#[]⟩,.string ⟨#[]⟩,.int .i64 0,.int .i64 0] 62)):=(Below.refl _ _).alloc (Nat.le_refl _) _
 have hk1:=Blk.new w 62 (qL zQ)
 obtain ⟨w1,hw1⟩:∃ w1,w.alloc (.cells #[.int .i64 0,.int .i64 0,.string ⟨#[]⟩,.string ⟨#[]⟩,.int .i64 0,.int .i64 0] 62)=w1:=⟨_,rfl⟩
 have hb1:Below w.heap.size w w1:=by rw [← hw1];exact hb1
 have HK1:Hid (Blk w1 w.heap.size 62 (qL zQ)):=Lib.hid (by rw [← hw1];exact hk1)
 have HV1:=Lib.hid (hv.below hb1)
 have hx:=hv.1
 obtain ⟨a,cap,rfl,hcap,hmax⟩:=hv.slice
 have HB1:=Lib.hid hb1
 clear hv hb1 hk1
 obtain ⟨kv,n1,h1⟩:∃ kv n1,vget B=(kv,n1):=⟨_,_,rfl⟩
 obtain ⟨e1,l1,_⟩:=vget_le B
 rw [h1] at e1 l1
 obtain ⟨a1,m1,c1,_,hs1,HI1⟩:=from_i HV1.out n1 (n1:Int) rfl l1
 obtain ⟨sv,n2,h2⟩:∃ sv n2,vget (B.drop n1)=(sv,n2):=⟨_,_,rfl⟩
 obtain ⟨e2,l2,_⟩:=vget_le (B.drop n1)
 rw [h2,List.length_drop] at l2
 rw [h2] at e2
 have hg1:=S2.vget_any _ B w1 HV1.out
 have hg2:=S2.vget_any _ (B.drop n1) w1 HI1.out
 unfold S2.VGetPost at hg1 hg2
 rw [h1] at hg1
 rw [h2] at hg2
 obtain ⟨a2,m2,c2,_,hs2,HI2⟩:=from_i HV1.out (n1+n2) ((n1:Int)+(n2:Int)) (by omega) (by omega)
 obtain ⟨T,n3,h3⟩:∃ T n3,vgetText (B.drop (n1+n2))=(T,n3):=⟨_,_,rfl⟩
 have l3:=vtext_le (B.drop (n1+n2))
 have t3:=vgetText_len (B.drop (n1+n2))
 rw [h3,List.length_drop] at l3 t3
 have hg3:=S2.getText_any _ (B.drop (n1+n2)) w1 HI2.out
 unfold S2.TextPost at hg3
 rw [h3] at hg3
 obtain ⟨a3,m3,c3,_,hs3,HI3⟩:=from_i HV1.out (n1+n2+n3) ((n1:Int)+(n2:Int)+(n3:Int)) (by omega) (by omega)
 obtain ⟨z,n4,h4⟩:∃ z n4,vget (B.drop (n1+n2+n3))=(z,n4):=⟨_,_,rfl⟩
 obtain ⟨e4,l4,_⟩:=vget_le (B.drop (n1+n2+n3))
 rw [h4,List.length_drop] at l4
 rw [h4] at e4
 have hg4:=S2.vget_any _ (B.drop (n1+n2+n3)) w1 HI3.out
 unfold S2.VGetPost at hg4
 rw [h4] at hg4
 have HD:=Lib.hid (decV_of h1 h2 h3 h4)
 obtain ⟨S,hS⟩:∃ S,str T=S:=⟨_,rfl⟩
 have hSs:S.size≤maxLen:=by rw [← hS,str_sz];unfold maxLen;simp only at t3;omega
 rw [hS] at HD
 simp only [hS] at hg3
 have HG1:=Lib.hid hg1
 have HG2:=Lib.hid hg2
 have HG3:=Lib.hid hg3
 have HG4:=Lib.hid hg4
 simp only at l1 l2 l3 l4 e1 e2 e4
 clear h1 h2 h3 h4 hg1 hg2 hg3 hg4 hS t3 HI1 HI2 HI3 HV1 hx
 go_enter Tryz.func46,Tryz.ntmps46
 go_wp2_with fail
 refine HG1.out.mono ?_
 rintro e w' ⟨rfl,rfl⟩
 go_wp2_with fail
 refine HG2.out.mono ?_
 rintro e w' ⟨rfl,rfl⟩
 go_wp2_with fail
 refine HG3.out.mono ?_
 rintro e w' ⟨rfl,rfl⟩
 go_wp2_with fail
 refine HG4.out.mono ?_
 rintro e w' ⟨rfl,rfl⟩
 clear HG1 HG2 HG3 HG4 hs1 hs2 hs3
 obtain ⟨wz,hstz,HKz,HBz⟩:=back_zq HK1.out HB1.out (Nat.le_refl _)
 by_cases g1:n1=0
 ·have HO:=Lib.hid (dec_bad (HD.out.trans (if_pos (.inl g1))))
  have b1:((n1:Int)==0)=true:=beq_t (by omega)
  clear HD g1
  go_wp2
  exact q_end rfl rfl rfl rfl rfl HKz.out HO.out rfl HBz
 have b1:((n1:Int)==0)=false:=beq_f (by omega)
 by_cases g2:n2=0
 ·have HO:=Lib.hid (dec_bad (HD.out.trans (if_pos (.inr (.inl g2)))))
  have b2:((n2:Int)==0)=true:=beq_t (by omega)
  clear HD g2
  go_wp2
  exact q_end rfl rfl rfl rfl rfl HKz.out HO.out rfl HBz
 have b2:((n2:Int)==0)=false:=beq_f (by omega)
 by_cases g3:n3=0
 ·have HO:=Lib.hid (dec_bad (HD.out.trans (if_pos (.inr (.inr (.inl g3))))))
  have b3:((n3:Int)==0)=true:=beq_t (by omega)
  clear HD g3
  go_wp2
  exact q_end rfl rfl rfl rfl rfl HKz.out HO.out rfl HBz
 have b3:((n3:Int)==0)=false:=beq_f (by omega)
 by_cases g4:n4=0
 ·have HO:=Lib.hid (dec_bad (HD.out.trans (if_pos (.inr (.inr (.inr g4))))))
  have b4:((n4:Int)==0)=true:=beq_t (by omega)
  clear HD g4
  go_wp2
  exact q_end rfl rfl rfl rfl rfl HKz.out HO.out rfl HBz
 have b4:((n4:Int)==0)=false:=beq_f (by omega)
 have HD2:=Lib.hid (HD.out.trans (if_neg (by omega)))
 clear HD g1 g2 g3 g4 hstz HKz HBz
 obtain ⟨kk,hkk⟩:∃ kk,IntKind.i64.wrap (kv:Int)=kk:=⟨_,rfl⟩
 obtain ⟨ss,hss⟩:∃ ss,IntKind.i64.wrap (sv:Int)=ss:=⟨_,rfl⟩
 have e5:sq kv=kk:=hkk
 have e6:sq sv=ss:=hss
 rw [e5,e6] at HD2
 obtain ⟨w3,hst3,HR3,HB3⟩:=back_rec (w:=w1) ⟨kk,ss,S,⟨#[]⟩⟩ (Blk.new w1 26 (recL zR)) ((Below.refl _ _).alloc (Nat.le_refl _) _) (Nat.le_refl _)
 simp only [recL,zR] at hst3
 have HK3:=Lib.hid (HK1.out.below HB3.out HK1.out.lt)
 have HBB3:=Lib.hid (HB1.out.trans (HB3.out.mono HB1.out.size))
 have hch:=check_any ⟨kk,ss,S,⟨#[]⟩⟩ w3 hSs (by unfold maxLen;simp [ByteArray.size])
 obtain ⟨c,hc⟩:∃ c,chk ⟨kk,ss,S,⟨#[]⟩⟩=c:=⟨_,rfl⟩
 rw [hc] at hch HD2
 have HCH:=Lib.hid hch
 have hld:=run_loadR_blk HR3.out
 simp only at hld
 clear hch hc e5 e6 HK1 HB1
 go_wp2_with fail
 refine HCH.out.mono ?_
 rintro e w4 ⟨rfl,hb4⟩
 have HR4:=Lib.hid (HR3.out.below hb4 HR3.out.lt)
 have HK4:=Lib.hid (HK3.out.below hb4 HK3.out.lt)
 have HB4:=Lib.hid (HBB3.out.trans (hb4.mono HBB3.out.size))
 clear HCH hb4 HR3 HB3 HK3 HBB3 hld hst3
 obtain ⟨wz,hstz,HKz,HBz⟩:=back_zq HK4.out HB4.out (Nat.le_refl _)
 by_cases g1:c=0
 rotate_left
 ·have HO:=Lib.hid (dec_bad (HD2.out.trans (if_neg fun h=>g1 h.1)))
  have q1:((c:Int) != 0)=true:=bne_t (by omega)
  clear HD2 g1
  go_wp2
  exact q_end rfl rfl rfl rfl rfl HKz.out HO.out rfl HBz
 have q1:((c:Int) != 0)=false:=bne_f (by omega)
 by_cases g2:4000<z
 ·have HO:=Lib.hid (dec_bad (HD2.out.trans (if_neg fun h=>by omega)))
  have q2:decide ((4000:Int)<(z:Int))=true:=by simp;omega
  clear HD2 g1
  go_wp2
  exact q_end rfl rfl rfl rfl rfl HKz.out HO.out rfl HBz
 have q2:decide ((4000:Int)<(z:Int))=false:=by simp;omega
 have q3:decide (4000<z)=false:=by simp;omega
 have c0:w4.cell? ⟨w1.heap.size,0,none⟩=some (.int .i64 kk):=HR4.out.cell rfl
 have hld4:=run_loadR_blk HR4.out
 obtain ⟨w5,hst5,HK5,HB5⟩:=back_q (⟨kk,ss,S,⟨#[]⟩⟩,0,z) HK4.out HB4.out (Nat.le_refl _)
 simp only [Int.natCast_zero] at hld4 hst5
 have hz:IntKind.i64.wrap (z:Int)=z:=by simp [IntKind.wrap,IntKind.signed,IntKind.bits];omega
 by_cases g3:kk=0
 ·have q4:(kk==0)=true:=beq_t g3
  by_cases g4:0<z
  ·have HO:=Lib.hid (dec_bad (HD2.out.trans (if_neg fun h=>h.2.2 ⟨g3,g4⟩)))
   have q5:decide ((0:Int)<(z:Int))=true:=by simp;omega
   clear HD2 g1 g3 hst5 HK5 HB5 hld4
   go_wp2
   exact q_end rfl rfl rfl rfl rfl HKz.out HO.out rfl HBz
  ·have HO:=Lib.hid (dec_good (HD2.out.trans (if_pos ⟨g1,by omega,fun h=>g4 h.2⟩)))
   have q5:decide ((0:Int)<(z:Int))=false:=by simp;omega
   have q6:decide (0<z)=false:=by simp;omega
   clear HD2 g1 g3 g4 hstz HKz HBz
   go_wp2
   exact q_end rfl rfl rfl rfl rfl HK5.out HO.out (by omega) HB5
 ·have q4:(kk==0)=false:=beq_f g3
  have HO:=Lib.hid (dec_good (HD2.out.trans (if_pos ⟨g1,by omega,fun h=>g3 h.1⟩)))
  clear HD2 g1 g3 hstz HKz HBz
  go_wp2
  exact q_end rfl rfl rfl rfl rfl HK5.out HO.out (by omega) HB5
end Go.Proofs.YtmjpnbadfmgimaaGreatDoor.S16

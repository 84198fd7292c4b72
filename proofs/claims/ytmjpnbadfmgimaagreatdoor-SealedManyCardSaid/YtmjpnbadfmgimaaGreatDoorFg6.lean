/- Texts put together: MtfP, MtfA, MtfB, MtfC, MtfD. -/
import Derived.Test.YtmjpnbadfmgimaaGreatDoorFg2
import Derived.Deep.WholeRow
import Derived.Lib.BytesEntry
import Derived.Laws.Externs
set_option linter.unusedSimpArgs false
set_option linter.unusedVariables false
set_option maxRecDepth 100000
set_option maxHeartbeats 32000000
namespace Go.Proofs.YtmjpnbadfmgimaaGreatDoor.S4.Pl

def mv (L:List Nat) (k:Nat):List Nat:=L.getD k 0::(L.take k++L.drop (k+1))
def asc:List Nat:=List.range 256
def penc:List Nat→List Nat→List Nat
 | _,[]=>[]
 | L,x::B=>L.idxOf x::penc (mv L (L.idxOf x)) B
def lenc:List Nat→List Nat→List Nat
 | L,[]=>L
 | L,x::B=>lenc (mv L (L.idxOf x)) B
def pdec:List Nat→List Nat→List Nat
 | _,[]=>[]
 | L,k::B=>L.getD k 0::pdec (mv L k) B
def ldec:List Nat→List Nat→List Nat
 | L,[]=>L
 | L,k::B=>ldec (mv L k) B

theorem penc_length (L B:List Nat):(penc L B).length=B.length:=by
 induction B generalizing L with
 | nil=>rfl
 | cons x B ih=>simp [penc,ih]
theorem pdec_length (L B:List Nat):(pdec L B).length=B.length:=by
 induction B generalizing L with
 | nil=>rfl
 | cons x B ih=>simp [pdec,ih]
theorem penc_append (L A B:List Nat):penc L (A++B)=penc L A++penc (lenc L A) B:=by
 induction A generalizing L with
 | nil=>rfl
 | cons x A ih=>simp [penc,lenc,ih]
theorem lenc_append (L A B:List Nat):lenc L (A++B)=lenc (lenc L A) B:=by
 induction A generalizing L with
 | nil=>rfl
 | cons x A ih=>simp [lenc,ih]
theorem pdec_append (L A B:List Nat):pdec L (A++B)=pdec L A++pdec (ldec L A) B:=by
 induction A generalizing L with
 | nil=>rfl
 | cons x A ih=>simp [pdec,ldec,ih]
theorem ldec_append (L A B:List Nat):ldec L (A++B)=ldec (ldec L A) B:=by
 induction A generalizing L with
 | nil=>rfl
 | cons x A ih=>simp [ldec,ih]

structure Perm (L:List Nat):Prop where
 len:L.length=256
 nodup:L.Nodup
 lt:∀ x∈L,x<256
 all:∀ x,x<256→x∈L
theorem perm_asc:Perm asc:=⟨by simp [asc],List.nodup_range,by intro x hx;simpa [asc] using hx,by intro x hx;simpa [asc] using hx⟩
theorem mid_eq {L:List Nat} {k:Nat} (h:k<L.length):L.take k++L.getD k 0::L.drop (k+1)=L:=by
 rw [List.getD_eq_getElem?_getD,List.getElem?_eq_getElem h,Option.getD_some,← List.drop_eq_getElem_cons h,List.take_append_drop]
theorem mv_perm {L:List Nat} {k:Nat} (h:k<L.length):(mv L k).Perm L:=by
 have p:(L.getD k 0::(L.take k++L.drop (k+1))).Perm (L.take k++L.getD k 0::L.drop (k+1)):=List.perm_middle.symm
 rw [mid_eq h] at p
 exact p
theorem Perm.mv {L:List Nat} (h:Perm L) {k:Nat} (hk:k<256):Perm (mv L k):=by
 have p:=mv_perm (L:=L) (k:=k) (by rw [h.len];exact hk)
 exact ⟨p.length_eq.trans h.len,p.nodup_iff.2 h.nodup,fun x hx=>h.lt x (p.mem_iff.1 hx),fun x hx=>p.mem_iff.2 (h.all x hx)⟩
theorem Perm.mem {L:List Nat} (h:Perm L) {x:Nat} (hx:x<256):x∈L:=h.all x hx
theorem Perm.idx_lt {L:List Nat} (h:Perm L) {x:Nat} (hx:x<256):L.idxOf x<256:=by
 have:=List.idxOf_lt_length_of_mem (h.mem hx)
 rw [h.len] at this
 exact this
theorem getD_idxOf {L:List Nat} {x:Nat} (h:x∈L):L.getD (L.idxOf x) 0=x:=by
 have hl:=List.idxOf_lt_length_of_mem h
 rw [List.getD_eq_getElem?_getD,List.getElem?_eq_getElem hl,Option.getD_some]
 exact List.getElem_idxOf hl
theorem Perm.lenc {L B:List Nat} (h:Perm L) (hB:∀ x∈B,x<256):Perm (lenc L B):=by
 induction B generalizing L with
 | nil=>exact h
 | cons x B ih=>exact ih (h.mv (h.idx_lt (hB x (by simp)))) fun y hy=>hB y (by simp [hy])
theorem Perm.ldec {L B:List Nat} (h:Perm L) (hB:∀ x∈B,x<256):Perm (ldec L B):=by
 induction B generalizing L with
 | nil=>exact h
 | cons x B ih=>exact ih (h.mv (hB x (by simp))) fun y hy=>hB y (by simp [hy])
theorem penc_lt {L B:List Nat} (h:Perm L) (hB:∀ x∈B,x<256):∀ x∈penc L B,x<256:=by
 induction B generalizing L with
 | nil=>intro x hx;simp [penc] at hx
 | cons x B ih=>
   intro y hy
   simp only [penc,List.mem_cons] at hy
   have hk:=h.idx_lt (hB x (by simp))
   rcases hy with rfl | hy
   ·exact hk
   ·exact ih (h.mv hk) (fun z hz=>hB z (by simp [hz])) y hy
theorem Perm.getD_lt {L:List Nat} (h:Perm L) (k:Nat):L.getD k 0<256:=by
 by_cases hk:k<L.length
 ·rw [List.getD_eq_getElem?_getD,List.getElem?_eq_getElem hk];exact h.lt _ (List.getElem_mem hk)
 ·rw [List.getD_eq_getElem?_getD,List.getElem?_eq_none (by omega)];simp
theorem pdec_lt {L B:List Nat} (h:Perm L) (hB:∀ x∈B,x<256):∀ x∈pdec L B,x<256:=by
 induction B generalizing L with
 | nil=>intro x hx;simp [pdec] at hx
 | cons x B ih=>
   intro y hy
   simp only [pdec,List.mem_cons] at hy
   rcases hy with rfl | hy
   ·exact h.getD_lt x
   ·exact ih (h.mv (hB x (by simp))) (fun z hz=>hB z (by simp [hz])) y hy
theorem pdec_penc {L B:List Nat} (h:Perm L) (hB:∀ x∈B,x<256):pdec L (penc L B)=B:=by
 induction B generalizing L with
 | nil=>rfl
 | cons x B ih=>
   have hx:=hB x (by simp)
   simp only [penc,pdec,getD_idxOf (h.mem hx)]
   rw [ih (h.mv (h.idx_lt hx)) fun z hz=>hB z (by simp [hz])]
theorem take_more {B:List Nat} {i:Nat} (h:i<B.length):B.take (i+1)=B.take i++[B.getD i 0]:=by
 rw [List.take_add_one,List.getElem?_eq_getElem h,Option.toList_some]
 simp [List.getD,h]
theorem take_lt' {B:List Nat} (h:∀ x∈B,x<256) (n:Nat):∀ x∈B.take n,x<256:=fun x hx=>h x (List.mem_of_mem_take hx)
def lat (B:List Nat) (i:Nat):List Nat:=lenc asc (B.take i)
def datl (B:List Nat) (i:Nat):List Nat:=ldec asc (B.take i)
theorem lat_perm {B:List Nat} (h:∀ x∈B,x<256) (i:Nat):Perm (lat B i):=perm_asc.lenc (take_lt' h i)
theorem datl_perm {B:List Nat} (h:∀ x∈B,x<256) (i:Nat):Perm (datl B i):=perm_asc.ldec (take_lt' h i)
theorem lat_succ {B:List Nat} {i:Nat} (h:i<B.length):lat B (i+1)=mv (lat B i) ((lat B i).idxOf (B.getD i 0)):=by
 unfold lat;rw [take_more h,lenc_append];rfl
theorem datl_succ {B:List Nat} {i:Nat} (h:i<B.length):datl B (i+1)=mv (datl B i) (B.getD i 0):=by
 unfold datl;rw [take_more h,ldec_append];rfl
def enc (B:List Nat):List Nat:=penc asc B
def dec (B:List Nat):List Nat:=pdec asc B
theorem enc_length (B:List Nat):(enc B).length=B.length:=penc_length _ _
theorem dec_length (B:List Nat):(dec B).length=B.length:=pdec_length _ _
theorem enc_lt {B:List Nat} (h:∀ x∈B,x<256):∀ x∈enc B,x<256:=penc_lt perm_asc h
theorem dec_lt {B:List Nat} (h:∀ x∈B,x<256):∀ x∈dec B,x<256:=pdec_lt perm_asc h
theorem dec_enc {B:List Nat} (h:∀ x∈B,x<256):dec (enc B)=B:=pdec_penc perm_asc h
theorem getD_mid (A B:List Nat) (x:Nat):(A++x::B).getD A.length 0=x:=by
 rw [List.getD_eq_getElem?_getD,List.getElem?_append_right (Nat.le_refl _)];simp
theorem enc_get {B:List Nat} {i:Nat} (h:i<B.length):(enc B).getD i 0=(lat B i).idxOf (B.getD i 0):=by
 have e:enc B=penc asc (B.take i)++penc (lat B i) (B.getD i 0::B.drop (i+1)):=by
  unfold enc lat
  rw [← penc_append,mid_eq h]
 have hl:(penc asc (B.take i)).length=i:=by rw [penc_length,List.length_take];omega
 rw [e]
 have:=getD_mid (penc asc (B.take i)) (penc (mv (lat B i) ((lat B i).idxOf (B.getD i 0))) (B.drop (i+1))) ((lat B i).idxOf (B.getD i 0))
 rwa [hl] at this
theorem dec_get {B:List Nat} {i:Nat} (h:i<B.length):(dec B).getD i 0=(datl B i).getD (B.getD i 0) 0:=by
 have e:dec B=pdec asc (B.take i)++pdec (datl B i) (B.getD i 0::B.drop (i+1)):=by
  unfold dec datl
  rw [← pdec_append,mid_eq h]
 have hl:(pdec asc (B.take i)).length=i:=by rw [pdec_length,List.length_take];omega
 rw [e]
 have:=getD_mid (pdec asc (B.take i)) (pdec (mv (datl B i) (B.getD i 0)) (B.drop (i+1))) ((datl B i).getD (B.getD i 0) 0)
 rwa [hl] at this
end Go.Proofs.YtmjpnbadfmgimaaGreatDoor.S4.Pl
namespace Go.Proofs.YtmjpnbadfmgimaaGreatDoor.Pl
end Go.Proofs.YtmjpnbadfmgimaaGreatDoor.Pl
namespace Go.Proofs.YtmjpnbadfmgimaaGreatDoor.S4.Pl
end Go.Proofs.YtmjpnbadfmgimaaGreatDoor.S4.Pl
namespace Go.Proofs.YtmjpnbadfmgimaaGreatDoor.S4
open Go.RowKit _root_.Go.Proofs.YtmjpnbadfmgimaaGreatDoor.Pl _root_.Go.Proofs.YtmjpnbadfmgimaaGreatDoor.S4.Pl

namespace Pl
def ascAt (i:Nat):List Nat:=List.range i++List.replicate (256-i) 0
theorem ascAt_length (i:Nat) (h:i≤256):(ascAt i).length=256:=by simp [ascAt];omega
theorem ascAt_all:ascAt 256=asc:=by simp [ascAt,asc]
theorem ascAt_set (i:Nat) (h:i<256):(ascAt i).set i i=ascAt (i+1):=by
 unfold ascAt
 rw [List.set_append_right _ _ (by simp),List.length_range,Nat.sub_self,List.range_succ,show 256-i=(256-(i+1))+1 by omega,List.replicate_succ]
 simp
theorem asc_length:asc.length=256:=by simp [asc]
end Pl

def zeroCells:List Value:=u8s (ascAt 0)
theorem u8s_all_one (B:List Nat):(u8s B).toArray.all (·.oneCell')=true:=by
 rw [List.all_toArray,List.all_eq_true];exact u8s_one B
theorem zero_order (w:World):(zeroValue 116).run Tryz.prog w=.ok (.agg zeroCells.toArray) w:=by kernel_rfl
theorem size_order:(Tryz.prog.info? 116).map (·.size)=some 256:=by kernel_rfl
def loadOrd (v:Value):Sem Value:=Instr.loadAt 116 v
theorem loadOrd_eq (v:Value):Instr.loadAt 116 v=loadOrd v:=rfl
def storeOrd (p v:Value):Sem Unit:=Instr.storeAt 116 p v
theorem storeOrd_eq (p v:Value):Instr.storeAt 116 p v=storeOrd p v:=rfl
def allocOrd (b:Bool) (v:Value):Sem Value:=Instr.alloc 116 b v
theorem allocOrd_eq (b:Bool) (v:Value):Instr.alloc 116 b v=allocOrd b v:=rfl
theorem run_allocOrd (w:World) (v:Value):(allocOrd true v).run Tryz.prog w=.ok (.pointer (some ⟨w.heap.size,0,none⟩)) (w.alloc (.cells zeroCells.toArray 116)):=by
 unfold allocOrd Instr.alloc
 rw [Sem.run_bind,zero_order]
 cases v <;> rfl
theorem run_loadOrd {w:World} {b:Nat} {L:List Nat} (h:Blk w b 116 (u8s L)) (hl:L.length=256):(loadOrd (.pointer (some ⟨b,0,none⟩))).run Tryz.prog w=.ok (.agg (u8s L).toArray) w:=by
 simp only [loadOrd,Instr.loadAt,Instr.sureAddr,Sem.run_bind,Sem.run_pure,Result.andThen_ok]
 exact run_loadVar_row w b _ _ _ (0,0) _ h Tryz.underlying116 rfl (by rw [size_order];simp [hl,u8s_length])
theorem run_storeOrd {w:World} {b:Nat} {K L:List Nat} (h:Blk w b 116 (u8s K)) (hk:K.length=256) (hl:L.length=256):(storeOrd (.pointer (some ⟨b,0,none⟩)) (.agg (u8s L).toArray)).run Tryz.prog w=.ok () (w.setRow b (u8s L).toArray):=by
 simp only [storeOrd,Instr.storeAt,Instr.sureAddr,Sem.run_bind,Sem.run_pure,Result.andThen_ok]
 exact run_storeVar_row w b _ _ _ _ h (by rw [size_order];simp [hl,u8s_length]) (by simp [hk,hl,u8s_length]) (u8s_all_one L)
def AscPost (w:World) (e:Ending) (w':World):Prop:=e=.returned (.agg (u8s asc).toArray)∧Below w.heap.size w w'

attribute [local go_sem ↓] loadOrd_eq storeOrd_eq allocOrd_eq
attribute [local go_sem] run_allocOrd
theorem ascending_any (w:World):Calls Tryz.prog 75 #[] w (AscPost w):=by
 go_enter Tryz.func75,Tryz.ntmps75
 go_wp2
 have hb0:Below w.heap.size w ((w.alloc (.cells zeroCells.toArray 116)).alloc (.cells zeroCells.toArray 116)):=((Below.refl _ _).alloc (Nat.le_refl _) _).alloc (by simp) _
 have hA0:=(Blk.new w 116 zeroCells).alloc (.cells zeroCells.toArray 116)
 have hA1:Blk ((w.alloc (.cells zeroCells.toArray 116)).alloc (.cells zeroCells.toArray 116)) (w.heap.size+1) 116 zeroCells:=by
  have:=Blk.new (w.alloc (.cells zeroCells.toArray 116)) 116 zeroCells
  simpa using this
 have HB0:=Lib.hid hb0
 have HA0:=Lib.hid hA0
 have HA1:=Lib.hid hA1
 clear hb0 hA0 hA1
 go_loopw [3] (fun x wr=>∃ i:Nat,i≤256∧x=.int .i64 i∧Blk wr w.heap.size 116 zeroCells∧Blk wr (w.heap.size+1) 116 (u8s (ascAt i))∧Below w.heap.size w wr) (fun x _=>256-(intOf x).toNat)
 case atStart=>exact ⟨0,by omega,rfl,HA0.out,HA1.out,HB0.out⟩
 case round=>
  obtain ⟨i,hi,rfl,h0,h1,hb⟩:=hrel
  have H0:=Lib.hid h0
  have H1:=Lib.hid h1
  have HB:=Lib.hid hb
  clear HB0 HA0 HA1 h0 h1 hb
  by_cases hlt:i<256
  ·have c0:=H1.out.cell (u8s_get (ascAt i) i (by rw [ascAt_length i hi];exact hlt))
   have f0:=H1.out.frozen i
   generalize (ascAt i).getD i 0=y at*
   have hm:(i:Int)%256=i:=by omega
   go_wp2
   go_roundw
   case rel=>exact ⟨i+1,by omega,by go_num,H0.out.setOther (by simp) _,by
    have:=H1.out.set i (.int .u8 i)
    rw [u8s_set,ascAt_set i hlt] at this
    exact this,HB.out.setCell (by simp) _⟩
   case measure=>simp [intOf];omega
  ·obtain rfl:i=256:=by omega
   have hl:=run_loadOrd H1.out (ascAt_length 256 hi)
   have hs:=run_storeOrd H0.out (ascAt_length 0 (by omega)) (ascAt_length 256 hi)
   have HE:Hid (Blk (wr.setRow w.heap.size (u8s (ascAt 256)).toArray) w.heap.size 116 (u8s asc)):=Lib.hid (by have:=H0.out.setRow (u8s (ascAt 256));rwa [ascAt_all] at this ⊢)
   have HF:=Lib.hid (below_setRow HB.out (Nat.le_refl _) (u8s (ascAt 256)).toArray)
   generalize ascAt 256=A at*
   go_wp2
   refine bodyPost_ret (v:=.agg (u8s asc).toArray) ?_ rfl ⟨rfl,HF.out⟩
   refine results_cell_row rfl _ _ w.heap.size 116 (u8s asc).toArray (0,0) _ (by simp) HE.out Tryz.underlying116 rfl (by rw [size_order];simp [asc_length,u8s_length])
end Go.Proofs.YtmjpnbadfmgimaaGreatDoor.S4
namespace Go.Proofs.YtmjpnbadfmgimaaGreatDoor.S4
open Go.RowKit _root_.Go.Proofs.YtmjpnbadfmgimaaGreatDoor.Pl _root_.Go.Proofs.YtmjpnbadfmgimaaGreatDoor.S4.Pl

theorem u8s_take (B:List Nat) (n:Nat):(u8s B).take n=u8s (B.take n):=by simp [u8s,List.map_take]
theorem u8s_drop (B:List Nat) (n:Nat):(u8s B).drop n=u8s (B.drop n):=by simp [u8s,List.map_drop]
theorem splice_mv {L:List Nat} (hl:L.length=256) (k:Nat) (hk:k<256):(splice (u8s L) 1 (u8s (L.take k))).set 0 (.int .u8 (L.getD k 0:Nat))=u8s (mv L k):=by
 have hkl:(u8s (L.take k)).length=k:=by rw [u8s_length,List.length_take];omega
 unfold splice mv
 rw [hkl,u8s_take,u8s_drop,← u8s_append,← u8s_append,u8s_set,Nat.add_comm 1 k]
 congr 1
 cases L with
 | nil=>simp at hl
 | cons a r=>simp

def TakePost (b:Nat) (L:List Nat) (k:Nat) (w:World) (e:Ending) (w':World):Prop:=
 e=.returned (.int .u8 (L.getD k 0:Nat))∧Blk w' b 116 (u8s (mv L k))∧Below b w w'
theorem take_end {b:Nat} {L:List Nat} {k:Nat} {w w2:World} (hl:L.length=256) (hk:k<256)
  (h:w2.heap[b]? = some (.cells (splice (u8s L) 1 (u8s (L.take k))).toArray 116 (0,0))) (hb:Below b w w2):
  TakePost b L k w (.returned (.int .u8 (L.getD k 0:Nat))) (w2.setCell ⟨b,0,none⟩ (.int .u8 (L.getD k 0:Nat))):=by
 refine ⟨rfl,?_,hb.setCell (Nat.le_refl _) _⟩
 have:=Blk.set (show Blk w2 b 116 _ from h) 0 (.int .u8 (L.getD k 0:Nat))
 rwa [splice_mv hl k hk] at this

theorem take_any (b:Nat) (L:List Nat) (k:Nat) (w:World) (hb:Blk w b 116 (u8s L)) (hl:L.length=256) (hk:k<256):
  Calls Tryz.prog 77 #[.pointer (some ⟨b,0,none⟩),.int .u8 k] w (TakePost b L k w):=by
 have HB:=Lib.hid hb
 have HL:=Lib.hid hl
 have c0:=hb.cell (u8s_get L k (by omega))
 have hx:(L.getD k 0)=(L.getD k 0):=rfl
 obtain ⟨x,hx⟩:∃ x,x=L.getD k 0:=⟨_,rfl⟩
 rw [← hx] at c0
 have HX:=Lib.hid hx
 clear hb hl hx
 go_enter Tryz.func77,Tryz.ntmps77
 go_wp2
 have hk1:(k:Int)≤256:=by omega
 have F1:Hid ((u8s (L.take k)).length=Nat.min k 255):=Lib.hid (by rw [u8s_length,List.length_take];show min k L.length=min k 255;have:=HL.out;omega)
 have F2:CSrc w (u8s (L.take k)) (some ⟨b,1,none⟩) b 1 (some ⟨b,0,none⟩):=fun _=>⟨rfl,_,rfl,fun j v hj=>by
  have hadd:(⟨b,0,none⟩:Addr).add j=⟨b,j,none⟩:=by unfold Addr.add;split <;> simp_all
  rw [hadd]
  have hjl:=(List.getElem?_eq_some_iff.1 hj).1
  rw [u8s_length,List.length_take] at hjl
  refine HB.out.cell ?_
  rw [← u8s_take,List.getElem?_take_of_lt (by omega)] at hj
  exact hj⟩
 have F3:Hid (1+(u8s (L.take k)).length≤(u8s L).length):=Lib.hid (by rw [u8s_length,u8s_length,List.length_take];have:=HL.out;omega)
 have F4:Hid (∀ v∈u8s (L.take k),v.oneCell'=true):=Lib.hid (u8s_one _)
 go_region_law (refine step_copy_splice rfl (.tmp 13) (.tmp 17) 27 27 rfl 5 Tryz.underlying27 size5 (some ⟨b,1,none⟩) (some ⟨b,0,none⟩) 255 255 k 256 (by simp [Act.eval,Act.put]) (by simp [Act.eval,Act.put]) b 1 _ 116 HB.out (u8s (L.take k)) F1.out F2 F3.out F4.out b w (Below.refl _ _).drew (Nat.le_refl _) ?_;intro w2 hG2 hB2)
 all_goals
  have HW:Hid (Blk w2 b 116 (splice (u8s L) 1 (u8s (L.take k)))):=Lib.hid hG2.out
  have HF:=Lib.hid hB2
  obtain ⟨y,d0⟩:∃ y,w2.cell? ⟨b,0,none⟩=some y:=by
   obtain ⟨y,hy⟩:∃ y,(splice (u8s L) 1 (u8s (L.take k)))[0]? = some y:=⟨_,List.getElem?_eq_getElem (by rw [length_splice _ _ _ F3.out,u8s_length,HL.out];omega)⟩
   exact ⟨y,HW.out.cell hy⟩
  have f0:=HW.out.frozen 0
  clear F1 F2 F3 F4 hG2 hB2 c0
  generalize (((u8s (L.take k)).length:Nat):Int)=leny
  go_wp2
  go_ret
  have:=take_end HL.out hk HW.out HF.out
  rw [← HX.out] at this
  exact this

theorem indexByte_idx {x:Nat} (hx:x<256):∀ {L:List Nat},(∀ y∈L,y<256)→x∈L→Lib.indexByte (Lib.bytesOf (L.map Int.ofNat)) (Int.toNat (x:Int)).toUInt8=(L.idxOf x:Nat)
 | [],_,h=>by simp at h
 | y::L,hL,h=>by
   have hy:=hL y (by simp)
   show (if (UInt8.ofNat (Int.ofNat y).toNat==(Int.toNat (x:Int)).toUInt8) then (0:Int) else _)=_
   have e0:(UInt8.ofNat (Int.ofNat y).toNat==(Int.toNat (x:Int)).toUInt8)=(y==x):=by
    have e1:(Int.ofNat y).toNat=y:=rfl
    have e2:(Int.toNat (x:Int))=x:=rfl
    rw [e1,e2]
    by_cases h:y=x
    ·subst h;simp
    ·have:¬ (UInt8.ofNat y=x.toUInt8):=by
      intro e
      have:=congrArg UInt8.toNat e
      simp at this
      omega
     rw [beq_eq_false_iff_ne.2 this,beq_eq_false_iff_ne.2 h]
   rw [e0,List.idxOf_cons]
   by_cases he:y=x
   ·subst he;simp
   ·have hb:(y==x)=false:=by simpa using he
    have hm:x∈L:=by
     rcases List.mem_cons.1 h with h | h
     ·exact absurd h.symm he
     ·exact h
    have ih:=indexByte_idx hx (fun z hz=>hL z (by simp [hz])) hm
    show (if (y==x)=true then (0:Int) else if Lib.indexByte (Lib.bytesOf (L.map Int.ofNat)) (Int.toNat (x:Int)).toUInt8==-1 then -1 else Lib.indexByte (Lib.bytesOf (L.map Int.ofNat)) (Int.toNat (x:Int)).toUInt8+1)=_
    rw [ih,hb]
    have h1:(((L.idxOf x:Nat):Int)==-1)=false:=by
     rw [beq_eq_false_iff_ne];omega
    rw [h1]
    simp

theorem index_any (b:Nat) (L:List Nat) (x:Nat) (w:World) (hb:Blk w b 116 (u8s L)) (hp:Perm L) (hx:x<256):
  Calls Tryz.prog 76 #[.slice (some ⟨b,0,none⟩) 256 256,.int .u8 x] w fun e w'=>e=.returned (.int .i64 (L.idxOf x:Nat))∧w=w':=by
 have hc:∀ i,i<256→w.cell? ⟨b,0+i,none⟩=some (.int .u8 ((L.map Int.ofNat).getD i 0)):=fun i hi=>by
  rw [Nat.zero_add]
  have:=hb.cell (u8s_get L i (by rw [hp.len];exact hi))
  rw [this]
  congr 2
  simp [List.getD_eq_getElem?_getD,List.getElem?_eq_getElem (show i<L.length by rw [hp.len];exact hi)]
 have hrun:=Lib.run_indexByteSlice (P:=Tryz.prog) w b 0 256 256 (L.map Int.ofNat) (by simp [hp.len]) hc x
 rw [indexByte_idx hx hp.lt (hp.mem hx)] at hrun
 have HR:=Lib.hid hrun
 clear hrun hc hb
 go_enter Tryz.func76,Tryz.ntmps76
 go_wp2
 rw [run_callFunc_extern Tryz.func90 (by kernel_rfl) (by kernel_rfl) (by kernel_rfl) (e:=Extern.BytealgIndexByte.indexByte) (by kernel_rfl),HR.out]
 simp only [Result.andThen]
 rw [Oper.upon_value]
 go_wp2
 go_ret
 exact ⟨rfl,rfl⟩

attribute [local go_sem ↓] loadOrd_eq storeOrd_eq allocOrd_eq
attribute [local go_sem] run_allocOrd
theorem encode_any (v:Value) (B:List Nat) (w:World) (hv:IsBytes w v B) (hB:B.length≤4294967296):
  Calls Tryz.prog 55 #[v] w (MadePost (enc B) w):=by
 obtain ⟨a,cap,rfl,hcap,hmax⟩:=hv.slice
 unfold maxLen at hmax
 by_cases h0:B.length=0
 ·obtain rfl:B=[]:=List.eq_nil_of_length_eq_zero h0
  have HV:=Lib.hid hv
  clear hv
  go_enter Tryz.func55,Tryz.ntmps55
  go_wp2
  go_ret
  exact ⟨_,rfl,⟨rfl,.inl ⟨rfl,rfl⟩⟩,Below.refl _ _⟩
 have hn0:0<B.length:=by omega
 have hd0:(((B.length:Nat):Int)==0)=false:=by rw [beq_eq_false_iff_ne];omega
 have HV:=Lib.hid hv
 clear hv h0
 obtain ⟨i0,hi,hz0,hz1,hz2⟩:=info_parts info5
 have Hi:=Lib.hid hi
 have Hz0:=Lib.hid hz0
 have Hz1:=Lib.hid hz1
 have Hz2:=Lib.hid hz2
 clear hi hz0 hz1 hz2
 have HE:=Lib.hid (enc_length B)
 go_enter Tryz.func55,Tryz.ntmps55
 go_wp2_with (at_make;refine wpList_make_full _ rfl _ _ 27 rfl w.heap.size 5 i0 (.int .u8 0) 1 Tryz.underlying27 Hi.out Hz0.out Hz1.out .i64 .i64 _ _ B.length rfl rfl rfl rfl (by rw [Hz2.out];omega) (by unfold maxLen;omega) (Nat.le_refl _) ?_;intro w1 hown hgr)
 have HG1:Hid (Blk w1 w.heap.size 5 (u8s (partly (enc B) 0))):=Lib.hid (by rw [partly_zero,HE.out];exact made_zero hown)
 have HB1:Hid (Below w.heap.size w w1):=Lib.hid ((Below.refl _ _).grown hgr (Nat.le_refl _) (by simp))
 clear hown hgr
 refine (ascending_any _).mono ?_
 intro e w2 h2
 obtain ⟨rfl,hb2⟩:=h2
 have hlt1:=HG1.out.lt
 have HG2:=Lib.hid (HG1.out.below hb2 hlt1)
 have HB2:=Lib.hid (HB1.out.trans (hb2.mono (by omega)))
 have hlt2:=HG2.out.lt
 have hs:=run_storeOrd (Blk.new w2 116 zeroCells) (ascAt_length 0 (by omega)) asc_length
 clear hb2 HG1 HB1
 go_wp2_with fail
 have hb3:Below w.heap.size w ((w2.alloc (.cells zeroCells.toArray 116)).setRow w2.heap.size (u8s asc).toArray):=below_setRow (HB2.out.alloc (by omega) _) (by omega) _
 have hL3:Blk ((w2.alloc (.cells zeroCells.toArray 116)).setRow w2.heap.size (u8s asc).toArray) w2.heap.size 116 (u8s asc):=(Blk.new w2 _ _).setRow _
 have hG3:Blk ((w2.alloc (.cells zeroCells.toArray 116)).setRow w2.heap.size (u8s asc).toArray) w.heap.size 5 (u8s (partly (enc B) 0)):=(HG2.out.alloc _).setRowOther (by omega) _
 have HB3:=Lib.hid hb3
 have HL3:=Lib.hid hL3
 have HG3:=Lib.hid hG3
 clear hb3 hL3 hG3 hs HG2 HB2
 go_loopw [17] (fun x wr=>∃ i:Nat,i≤B.length∧x=.int .i64 i∧Blk wr w2.heap.size 116 (u8s (lat B i))∧Blk wr w.heap.size 5 (u8s (partly (enc B) i))∧Below w.heap.size w wr) (fun x _=>B.length-(intOf x).toNat)
 case atStart=>exact ⟨0,by omega,rfl,HL3.out,HG3.out,HB3.out⟩
 case round=>
  obtain ⟨i,hi,rfl,hL,hG,hb⟩:=hrel
  obtain ⟨wo,hwo⟩:∃ wo,wo=wr:=⟨_,rfl⟩
  subst hwo
  have HL:=Lib.hid hL
  have HG:=Lib.hid hG
  have HB:=Lib.hid hb
  clear HB3 HL3 HG3 hL hG hb
  by_cases hlt:i<B.length
  ·have HVr:=Lib.hid (HV.out.below HB.out)
   obtain ⟨bb,off,cap',hs,_,_,_,hc⟩:=HVr.out.cells (by omega)
   simp at hs
   obtain ⟨rfl,rfl⟩:=hs
   have c0:=hc i hlt
   have hx:=getD_lt HV.out.1 i
   have HS:=Lib.hid (lat_succ hlt)
   have HGt:=Lib.hid (enc_get hlt)
   have HP:=Lib.hid (lat_perm HV.out.1 i)
   generalize B.getD i 0=x at*
   clear hc
   go_wp2_with fail
   refine (index_any _ _ x _ HL.out HP.out hx).mono ?_
   rintro e w4 ⟨rfl,rfl⟩
   have hk:=HP.out.idx_lt hx
   generalize (lat B i).idxOf x=k at*
   have hm:(k:Int)%256=k:=by omega
   have c1:=HG.out.cell (u8s_get (partly (enc B) i) i (by rw [partly_length,HE.out];exact hlt))
   have f1:=HG.out.frozen i
   generalize (partly (enc B) i).getD i 0=y at*
   go_wp2_with fail
   refine (take_any _ (lat B i) k _ (HL.out.setOther (p:=⟨w.heap.size,i,none⟩) (by simp;omega) _) HP.out.len hk).mono ?_
   intro e w5 h5
   obtain ⟨rfl,hL5,hb5⟩:=h5
   have HL5:Hid (Blk w5 w2.heap.size 116 (u8s (lat B (i+1)))):=Lib.hid (by rw [HS.out];exact hL5)
   have HG5:Hid (Blk w5 w.heap.size 5 (u8s (partly (enc B) (i+1)))):=Lib.hid (by
    have:=HG.out.set i (.int .u8 k)
    rw [u8s_set,← HGt.out,partly_step _ i (by rw [HE.out];exact hlt)] at this
    rw [← HGt.out] at hb5
    exact this.below hb5 hlt2)
   have h4:Below w.heap.size w (wo.setCell ⟨w.heap.size,i,none⟩ (.int .u8 k)):=HB.out.setCell (Nat.le_refl _) _
   have HB5:=Lib.hid (h4.trans (hb5.mono (Nat.le_of_lt hlt2)))
   clear h4
   clear hL5 hb5 HL HG HB
   go_wp2_with fail
   go_roundw
   case rel=>exact ⟨i+1,by omega,by go_num,HL5.out,HG5.out,HB5.out⟩
   case measure=>simp [intOf];omega
  ·obtain rfl:i=B.length:=by omega
   go_wp2_with fail
   go_ret
   exact made_done HG.out HE.out rfl (by unfold maxLen;omega) HB.out
end Go.Proofs.YtmjpnbadfmgimaaGreatDoor.S4
namespace Go.Proofs.YtmjpnbadfmgimaaGreatDoor.S4
open Go.RowKit _root_.Go.Proofs.YtmjpnbadfmgimaaGreatDoor.Pl _root_.Go.Proofs.YtmjpnbadfmgimaaGreatDoor.S4.Pl

attribute [local go_sem ↓] loadOrd_eq storeOrd_eq allocOrd_eq
attribute [local go_sem] run_allocOrd
theorem decode_any (v:Value) (B:List Nat) (w:World) (hv:IsBytes w v B) (hB:B.length≤4294967296):
  Calls Tryz.prog 109 #[v] w (MadePost (dec B) w):=by
 obtain ⟨a,cap,rfl,hcap,hmax⟩:=hv.slice
 unfold maxLen at hmax
 by_cases h0:B.length=0
 ·obtain rfl:B=[]:=List.eq_nil_of_length_eq_zero h0
  have HV:=Lib.hid hv
  clear hv
  go_enter Tryz.func109,Tryz.ntmps109
  go_wp2
  go_ret
  exact ⟨_,rfl,⟨rfl,.inl ⟨rfl,rfl⟩⟩,Below.refl _ _⟩
 have hn0:0<B.length:=by omega
 have hd0:(((B.length:Nat):Int)==0)=false:=by rw [beq_eq_false_iff_ne];omega
 have HV:=Lib.hid hv
 clear hv h0
 obtain ⟨i0,hi,hz0,hz1,hz2⟩:=info_parts info5
 have Hi:=Lib.hid hi
 have Hz0:=Lib.hid hz0
 have Hz1:=Lib.hid hz1
 have Hz2:=Lib.hid hz2
 clear hi hz0 hz1 hz2
 have HE:=Lib.hid (dec_length B)
 go_enter Tryz.func109,Tryz.ntmps109
 go_wp2_with (at_make;refine wpList_make_full _ rfl _ _ 27 rfl w.heap.size 5 i0 (.int .u8 0) 1 Tryz.underlying27 Hi.out Hz0.out Hz1.out .i64 .i64 _ _ B.length rfl rfl rfl rfl (by rw [Hz2.out];omega) (by unfold maxLen;omega) (Nat.le_refl _) ?_;intro w1 hown hgr)
 have HG1:Hid (Blk w1 w.heap.size 5 (u8s (partly (dec B) 0))):=Lib.hid (by rw [partly_zero,HE.out];exact made_zero hown)
 have HB1:Hid (Below w.heap.size w w1):=Lib.hid ((Below.refl _ _).grown hgr (Nat.le_refl _) (by simp))
 clear hown hgr
 refine (ascending_any _).mono ?_
 intro e w2 h2
 obtain ⟨rfl,hb2⟩:=h2
 have hlt1:=HG1.out.lt
 have HG2:=Lib.hid (HG1.out.below hb2 hlt1)
 have HB2:=Lib.hid (HB1.out.trans (hb2.mono (by omega)))
 have hlt2:=HG2.out.lt
 have hs:=run_storeOrd (Blk.new w2 116 zeroCells) (ascAt_length 0 (by omega)) asc_length
 clear hb2 HG1 HB1
 go_wp2_with fail
 have hb3:Below w.heap.size w ((w2.alloc (.cells zeroCells.toArray 116)).setRow w2.heap.size (u8s asc).toArray):=below_setRow (HB2.out.alloc (by omega) _) (by omega) _
 have hL3:Blk ((w2.alloc (.cells zeroCells.toArray 116)).setRow w2.heap.size (u8s asc).toArray) w2.heap.size 116 (u8s asc):=(Blk.new w2 _ _).setRow _
 have hG3:Blk ((w2.alloc (.cells zeroCells.toArray 116)).setRow w2.heap.size (u8s asc).toArray) w.heap.size 5 (u8s (partly (dec B) 0)):=(HG2.out.alloc _).setRowOther (by omega) _
 have HB3:=Lib.hid hb3
 have HL3:=Lib.hid hL3
 have HG3:=Lib.hid hG3
 clear hb3 hL3 hG3 hs HG2 HB2
 go_loopw [16] (fun x wr=>∃ i:Nat,i≤B.length∧x=.int .i64 i∧Blk wr w2.heap.size 116 (u8s (datl B i))∧Blk wr w.heap.size 5 (u8s (partly (dec B) i))∧Below w.heap.size w wr) (fun x _=>B.length-(intOf x).toNat)
 case atStart=>exact ⟨0,by omega,rfl,HL3.out,HG3.out,HB3.out⟩
 case round=>
  obtain ⟨i,hi,rfl,hL,hG,hb⟩:=hrel
  obtain ⟨wo,hwo⟩:∃ wo,wo=wr:=⟨_,rfl⟩
  subst hwo
  have HL:=Lib.hid hL
  have HG:=Lib.hid hG
  have HB:=Lib.hid hb
  clear HB3 HL3 HG3 hL hG hb
  by_cases hlt:i<B.length
  ·have HVr:=Lib.hid (HV.out.below HB.out)
   obtain ⟨bb,off,cap',hs,_,_,_,hc⟩:=HVr.out.cells (by omega)
   simp at hs
   obtain ⟨rfl,rfl⟩:=hs
   have c0:=hc i hlt
   have hx:=getD_lt HV.out.1 i
   have HS:=Lib.hid (datl_succ hlt)
   have HGt:=Lib.hid (dec_get hlt)
   have HP:=Lib.hid (datl_perm HV.out.1 i)
   generalize B.getD i 0=x at*
   clear hc
   go_wp2_with fail
   refine (take_any _ (datl B i) x _ HL.out HP.out.len hx).mono ?_
   intro e w5 h5
   obtain ⟨rfl,hL5,hb5⟩:=h5
   have HL5:Hid (Blk w5 w2.heap.size 116 (u8s (datl B (i+1)))):=Lib.hid (by rw [HS.out];exact hL5)
   have HG5:=Lib.hid (HG.out.below hb5 hlt2)
   have HB5:=Lib.hid (HB.out.trans (hb5.mono (Nat.le_of_lt hlt2)))
   clear hL5 hb5 HL HG HB
   have c1:=HG5.out.cell (u8s_get (partly (dec B) i) i (by rw [partly_length,HE.out];exact hlt))
   have f1:=HG5.out.frozen i
   have hst:=HG5.out.set i (.int .u8 ((dec B).getD i 0:Nat))
   rw [u8s_set,partly_step _ i (by rw [HE.out];exact hlt),HGt.out] at hst
   have HST:=Lib.hid hst
   clear hst
   generalize (partly (dec B) i).getD i 0=y at*
   generalize (datl B i).getD x 0=z at*
   go_wp2_with fail
   go_roundw
   case rel=>exact ⟨i+1,by omega,by go_num,HL5.out.setOther (by simp;omega) _,HST.out,HB5.out.setCell (Nat.le_refl _) _⟩
   case measure=>simp [intOf];omega
  ·obtain rfl:i=B.length:=by omega
   go_wp2_with fail
   go_ret
   exact made_done HG.out HE.out rfl (by unfold maxLen;omega) HB.out
end Go.Proofs.YtmjpnbadfmgimaaGreatDoor.S4

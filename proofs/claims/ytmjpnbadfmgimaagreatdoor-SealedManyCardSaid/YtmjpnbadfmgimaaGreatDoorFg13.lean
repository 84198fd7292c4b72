/- Texts put together: Plain, BitsA, BitsB, BitsC, BitsD, BitsE, BitsF, Conv. -/
import Derived.Test.YtmjpnbadfmgimaaGreatDoorFg1
import Derived.Test.YtmjpnbadfmgimaaGreatDoorProg
import Derived.Lib.SliceRun
import Derived.Deep.RegionWith
set_option linter.unusedSimpArgs false
set_option linter.unusedVariables false
set_option maxRecDepth 100000
set_option maxHeartbeats 32000000
namespace Go.Proofs.YtmjpnbadfmgimaaGreatDoor.S7.Pl

def val (M:List Bool):Nat:=M.foldl (fun a b=>a*2+b.toNat) 0
def bitsOf (v n:Nat):List Bool:=(List.range n).map fun i=>v.testBit (n-1-i)
def byteAt (L:List Bool) (i:Nat):Nat:=val ((List.range 8).map fun j=>L.getD (8*i+j) false)

theorem val_snoc (M:List Bool) (b:Bool):val (M++[b])=val M*2+b.toNat:=by simp [val,List.foldl_append]
theorem val_nil:val []=0:=rfl

theorem snoc_cases {α:Type} (M:List α):M=[]∨∃ A b,M=A++[b]:=by
 cases h:M.reverse with
 | nil=>left;simpa using h
 | cons b A=>right;exact ⟨A.reverse,b,by have:=congrArg List.reverse h;simpa using this⟩

theorem val_lt (M:List Bool):val M<2^M.length:=by
 induction hn:M.length generalizing M with
 | zero=>have:M=[]:=List.eq_nil_of_length_eq_zero hn;subst this;simp [val]
 | succ n ih=>
   rcases snoc_cases M with rfl | ⟨A,b,rfl⟩
   ·simp at hn
   ·have hA:A.length=n:=by simpa using hn
    have:=ih A hA
    rw [val_snoc,Nat.pow_succ]
    cases b <;> simp <;> omega

theorem val_testBit (M:List Bool) (k:Nat):(val M).testBit k=(decide (k<M.length)&&M.getD (M.length-1-k) false):=by
 induction k generalizing M with
 | zero=>
   rcases snoc_cases M with rfl | ⟨A,b,rfl⟩
   ·simp [val]
   ·rw [val_snoc,Nat.testBit_zero]
    have e:(val A*2+b.toNat)%2=b.toNat:=by cases b <;> simp <;> omega
    rw [e]
    simp
 | succ k ih=>
   rcases snoc_cases M with rfl | ⟨A,b,rfl⟩
   ·simp [val]
   ·rw [val_snoc,Nat.testBit_succ]
    have e:(val A*2+b.toNat)/2=val A:=by cases b <;> simp <;> omega
    rw [e,ih]
    by_cases hk:k<A.length
    ·have h1:k+1<A.length+1:=by omega
     have h2:A.length+1-1-(k+1)<A.length:=by omega
     have h3:A.length+1-1-(k+1)=A.length-1-k:=by omega
     have h4:A.length-(k+1)=A.length-1-k:=by omega
     simp [List.getD,hk,h4]
     rw [List.getElem?_append_left (by omega)]
    ·simp [hk]

theorem val_append (A M:List Bool):val (A++M)=val A*2^M.length+val M:=by
 induction hn:M.length generalizing M with
 | zero=>have:M=[]:=List.eq_nil_of_length_eq_zero hn;subst this;simp [val_nil]
 | succ n ih=>
   rcases snoc_cases M with rfl | ⟨B,b,rfl⟩
   ·simp at hn
   ·have hB:B.length=n:=by simpa using hn
    have h:=ih B hB
    rw [← List.append_assoc,val_snoc,val_snoc,h,Nat.pow_succ]
    have:val A*(2^n*2)=val A*2^n*2:=(Nat.mul_assoc _ _ _).symm
    omega

theorem bitsOf_length (v n:Nat):(bitsOf v n).length=n:=by simp [bitsOf]
theorem bitsOf_zero (v:Nat):bitsOf v 0=[]:=by simp [bitsOf]

theorem val_bitsOf (v n:Nat):val (bitsOf v n)=v%2^n:=by
 apply Nat.eq_of_testBit_eq
 intro k
 rw [val_testBit,Nat.testBit_mod_two_pow,bitsOf_length]
 by_cases hk:k<n
 ·have h1:n-1-k<n:=by omega
  have h2:n-1-(n-1-k)=k:=by omega
  simp [bitsOf,hk,List.getD,h1,h2]
 ·simp [hk]

theorem bitsOf_split (v n c:Nat) (h:c≤n):bitsOf v n=bitsOf (v >>> (n-c)) c++bitsOf v (n-c):=by
 apply List.ext_getElem
 ·simp [bitsOf_length];omega
 ·intro i h1 h2
  rw [bitsOf_length] at h1
  by_cases hi:i<c
  ·rw [List.getElem_append_left (by simpa [bitsOf_length] using hi)]
   simp [bitsOf,Nat.testBit_shiftRight]
   congr 1;omega
  ·rw [List.getElem_append_right (by simp [bitsOf_length];omega)]
   simp [bitsOf,bitsOf_length]
   congr 1;omega

theorem byteAt_lt (L:List Bool) (i:Nat):byteAt L i<256:=by
 have:=val_lt ((List.range 8).map fun j=>L.getD (8*i+j) false)
 simpa [byteAt] using this

theorem byteAt_testBit (L:List Bool) (i k:Nat):(byteAt L i).testBit k=(decide (k<8)&&L.getD (8*i+(7-k)) false):=by
 rw [byteAt,val_testBit]
 by_cases hk:k<8
 ·have h1:8-1-k<8:=by omega
  have h2:8-1-k=7-k:=by omega
  have h3:7-k<8:=by omega
  simp [hk,List.getD,h2,h3]
 ·simp [hk]

theorem byteAt_beyond (L:List Bool) (i:Nat) (h:L.length≤8*i):byteAt L i=0:=by
 apply Nat.eq_of_testBit_eq
 intro k
 rw [byteAt_testBit]
 have:L[8*i+(7-k)]? = none:=List.getElem?_eq_none (by omega)
 simp [List.getD,this]

theorem byteAt_append_old (L M:List Bool) (i:Nat) (h:8*i+8≤L.length):byteAt (L++M) i=byteAt L i:=by
 apply Nat.eq_of_testBit_eq
 intro k
 rw [byteAt_testBit,byteAt_testBit]
 have:(L++M).getD (8*i+(7-k)) false=L.getD (8*i+(7-k)) false:=by
  simp only [List.getD];rw [List.getElem?_append_left (by omega)]
 rw [this]

theorem byteAt_append_far (L M:List Bool) (i:Nat) (h:L.length+M.length≤8*i):byteAt (L++M) i=0:=
 byteAt_beyond _ _ (by simpa using h)

theorem byteAt_fill (L M:List Bool) (h:L.length%8+M.length≤8):
  byteAt (L++M) (L.length/8)=byteAt L (L.length/8) ||| (val M*2^(8-L.length%8-M.length)):=by
 apply Nat.eq_of_testBit_eq
 intro k
 rw [Nat.testBit_or,byteAt_testBit,byteAt_testBit,Nat.mul_comm (val M),Nat.testBit_two_pow_mul,val_testBit]
 have hq:8*(L.length/8)=L.length-L.length%8:=by omega
 have hp:L.length%8≤L.length:=Nat.mod_le _ _
 by_cases hk:k<8
 ·simp only [hk,decide_true,Bool.true_and]
  simp only [List.getD]
  by_cases h1:8*(L.length/8)+(7-k)<L.length
  ·rw [List.getElem?_append_left h1]
   have:¬ k-(8-L.length%8-M.length)<M.length∨¬ k≥8-L.length%8-M.length:=by omega
   rcases this with e | e <;> simp [e]
  ·rw [List.getElem?_append_right (by omega),List.getElem?_eq_none (l:=L) (by omega)]
   by_cases h2:k≥8-L.length%8-M.length
   ·have h3:k-(8-L.length%8-M.length)<M.length:=by omega
    have h4:8*(L.length/8)+(7-k)-L.length=M.length-1-(k-(8-L.length%8-M.length)):=by omega
    simp [h2,h3,h4]
   ·have h3:M.length≤8*(L.length/8)+(7-k)-L.length:=by omega
    simp [h2,List.getElem?_eq_none h3]
 ·have:¬ k-(8-L.length%8-M.length)<M.length:=by omega
  simp [hk,this]

def bitsB (B:List Nat):List Bool:=B.flatMap fun x=>bitsOf x 8
theorem bitsB_length (B:List Nat):(bitsB B).length=8*B.length:=by
 induction B with
 | nil=>rfl
 | cons x r ih=>simp only [bitsB,List.flatMap_cons,List.length_append,bitsOf_length,List.length_cons] at ih ⊢;omega
theorem bitsB_get (B:List Nat) (i j:Nat) (hi:i<B.length) (hj:j<8):(bitsB B)[8*i+j]? = some ((B.getD i 0).testBit (7-j)):=by
 induction B generalizing i with
 | nil=>simp at hi
 | cons x r ih=>
   simp only [bitsB,List.flatMap_cons]
   cases i with
   | zero=>
     rw [List.getElem?_append_left (by rw [bitsOf_length];omega)]
     simp [bitsOf,hj]
   | succ i=>
     rw [List.getElem?_append_right (by rw [bitsOf_length];omega),bitsOf_length]
     have e:8*(i+1)+j-8=8*i+j:=by omega
     rw [e]
     have:=ih i (by simpa using hi)
     simpa [bitsB] using this

def bytesOf (L:List Bool):List Nat:=(List.range ((L.length+7)/8)).map (byteAt L)
theorem bytesOf_length (L:List Bool):(bytesOf L).length=(L.length+7)/8:=by simp [bytesOf]
theorem bitsB_bytesOf (L:List Bool):bitsB (bytesOf L)=L++List.replicate (8*((L.length+7)/8)-L.length) false:=by
 apply List.ext_getElem?
 intro k
 by_cases hk:k<8*((L.length+7)/8)
 ·have hd:k=8*(k/8)+k%8:=by omega
  have hl:k/8<(bytesOf L).length:=by rw [bytesOf_length];omega
  have h1:=bitsB_get (bytesOf L) (k/8) (k%8) hl (Nat.mod_lt _ (by omega))
  rw [← hd] at h1
  rw [h1]
  have h2:(bytesOf L).getD (k/8) 0=byteAt L (k/8):=by
   rw [bytesOf_length] at hl
   simp [bytesOf,List.getD,hl]
  rw [h2,byteAt_testBit]
  have hm:k%8<8:=Nat.mod_lt _ (by omega)
  have h3:8*(k/8)+(7-(7-k%8))=k:=by omega
  have h4:7-k%8<8:=by omega
  rw [h3]
  simp only [h4,decide_true,Bool.true_and]
  by_cases hkl:k<L.length
  ·rw [List.getElem?_append_left hkl];simp [List.getD,hkl]
  ·rw [List.getElem?_append_right (by omega),List.getElem?_replicate,if_pos (by omega)]
   have hn:L[k]? = none:=List.getElem?_eq_none (by omega)
   simp [List.getD,hn]
 ·rw [List.getElem?_eq_none (by rw [bitsB_length,bytesOf_length];omega),List.getElem?_eq_none (by simp;omega)]

theorem read_step (B:List Nat) (at_ c:Nat) (hB:at_/8<B.length) (hc:c≤8-at_%8):
  (B.getD (at_/8) 0 >>> (8-at_%8-c))%2^c=val (((bitsB B).drop at_).take c):=by
 have e:((bitsB B).drop at_).take c=bitsOf (B.getD (at_/8) 0 >>> (8-at_%8-c)) c:=by
  apply List.ext_getElem?
  intro k
  by_cases hk:k<c
  ·rw [List.getElem?_take_of_lt hk,List.getElem?_drop]
   have h1:at_+k=8*(at_/8)+(at_%8+k):=by omega
   rw [h1,bitsB_get B _ _ hB (by omega)]
   simp [bitsOf,hk,Nat.testBit_shiftRight]
   congr 1;omega
  ·rw [List.getElem?_eq_none (by simp;omega),List.getElem?_eq_none (by simp [bitsOf_length];omega)]
 rw [e,val_bitsOf]
end Go.Proofs.YtmjpnbadfmgimaaGreatDoor.S7.Pl
namespace Go.Proofs.YtmjpnbadfmgimaaGreatDoor.Pl
end Go.Proofs.YtmjpnbadfmgimaaGreatDoor.Pl
namespace Go.Proofs.YtmjpnbadfmgimaaGreatDoor.S7.Pl
end Go.Proofs.YtmjpnbadfmgimaaGreatDoor.S7.Pl
namespace Go.Proofs.YtmjpnbadfmgimaaGreatDoor.S7
open Go.RowKit _root_.Go.Proofs.YtmjpnbadfmgimaaGreatDoor.Pl _root_.Go.Proofs.YtmjpnbadfmgimaaGreatDoor.S7.Pl

def U64 (v:Int):Prop:=0≤v∧v<18446744073709551616
theorem U64.nn {v:Int} (h:U64 v):0≤v:=h.1
theorem U64.wf {v:Int} (h:U64 v):(Lit.int .u64 v).wf=true:=by
 obtain ⟨h1,h2⟩:=h
 simp [Lit.wf,IntKind.min,IntKind.max,IntKind.signed,IntKind.bits]
 exact ⟨h1,by omega⟩
theorem U64.small {v:Int} (h:0≤v) (h2:v<4294967296):U64 v:=⟨h,by omega⟩

theorem pow8 {c:Nat} (h:c≤8):(2:Int)^c≤256∧1≤(2:Int)^c:=by
 rcases (show c=0∨c=1∨c=2∨c=3∨c=4∨c=5∨c=6∨c=7∨c=8 by omega) with h | h | h | h | h | h | h | h | h <;> subst h <;> decide

theorem mask_int {c:Nat} (h:c≤8):IntKind.u64.wrap (IntKind.u64.wrap (2^c)-1)=((2^c-1:Nat):Int):=by
 have:=pow8 h
 rw [IntKind.wrap_u64,IntKind.wrap_u64]
 have e:((2^c-1:Nat):Int)=(2:Int)^c-1:=by
  rw [Int.ofNat_sub Nat.one_le_two_pow];simp
 rw [e]
 omega

theorem mask_low (v:Int) (c:Nat) (hv:U64 v) (hc:c≤8):
  bits BinOp.and IntKind.u64 v (IntKind.u64.wrap (IntKind.u64.wrap (2^c)-1))=((v.toNat%2^c:Nat):Int):=by
 have h2:2^c≤256:=Nat.pow_le_pow_right (n:=2) (by omega) hc
 have h1:1≤2^c:=Nat.one_le_two_pow
 rw [mask_int hc,u64_and _ _ hv.1 hv.2 (by omega) (by omega)]
 congr 1
 rw [Int.toNat_natCast,Nat.and_two_pow_sub_one_eq_mod]

theorem shr_int (v:Int) (k:Nat) (hv:0≤v):v/2^k=((v.toNat >>> k:Nat):Int):=by
 obtain ⟨n,rfl⟩:=Int.eq_ofNat_of_zero_le hv
 rw [Int.toNat_natCast,Nat.shiftRight_eq_div_pow]
 simp

theorem U64.shr {v:Int} (h:U64 v) (k:Nat):U64 (v/2^k):=by
 obtain ⟨h1,h2⟩:=h
 rw [shr_int v k h1]
 have:=Nat.shiftRight_le v.toNat k
 generalize v.toNat >>> k=q at*
 exact ⟨by omega,by omega⟩

theorem piece_int (v:Int) (m c:Nat) (hv:U64 v) (hc:c≤8):
  bits BinOp.and IntKind.u64 (v/2^(m-c)) (IntKind.u64.wrap (IntKind.u64.wrap (2^c)-1))=((val (bitsOf (v.toNat >>> (m-c)) c):Nat):Int):=by
 rw [mask_low _ c (hv.shr _) hc,val_bitsOf,shr_int v _ hv.1,Int.toNat_natCast]

theorem or_byte (T p s:Nat) (hT:T<256) (hp:p*2^s<256):
  bits BinOp.or IntKind.u8 (T:Int) (IntKind.u64.wrap ((p:Int)*2^s)%256)=((T ||| p*2^s:Nat):Int):=by
 have e:IntKind.u64.wrap ((p:Int)*2^s)%256=((p*2^s:Nat):Int):=by
  rw [IntKind.wrap_u64]
  have:((p*2^s:Nat):Int)=(p:Int)*2^s:=by simp
  rw [← this];omega
 rw [e,u8_or_nat _ _ hT hp]

theorem val_shift_lt (M:List Bool) (s:Nat) (h:M.length+s≤8):val M*2^s<256:=by
 have h1:=val_lt M
 have h2:2^(M.length+s)≤2^8:=Nat.pow_le_pow_right (by omega) h
 rw [Nat.pow_add] at h2
 have h3:val M*2^s<2^M.length*2^s:=(Nat.mul_lt_mul_right (Nat.two_pow_pos s)).2 h1
 omega

def chunkCells (L:List Bool) (k:Nat):List Value:=(List.range 256).map fun j=>.int .u8 (byteAt L (256*k+j))
theorem chunkCells_length (L:List Bool) (k:Nat):(chunkCells L k).length=256:=by simp [chunkCells]
theorem chunkCells_get (L:List Bool) (k j:Nat) (h:j<256):(chunkCells L k)[j]? = some (.int .u8 (byteAt L (256*k+j))):=by simp [chunkCells,h]

def wcells (fo:Option Addr) (L:List Bool):List Value:=.pointer fo::(chunkCells L (L.length/2048)++[.int .i64 L.length])
theorem wcells_length (fo:Option Addr) (L:List Bool):(wcells fo L).length=258:=by simp [wcells,chunkCells_length]
theorem wcells_0 (fo:Option Addr) (L:List Bool):(wcells fo L)[0]? = some (.pointer fo):=rfl
theorem wcells_n (fo:Option Addr) (L:List Bool):(wcells fo L)[257]? = some (.int .i64 L.length):=by
 simp only [wcells,List.getElem?_cons_succ]
 rw [List.getElem?_append_right (by rw [chunkCells_length];omega),chunkCells_length]
 rfl
theorem wcells_j (fo:Option Addr) (L:List Bool) (j:Nat) (h:j<256):(wcells fo L)[1+j]? = some (.int .u8 (byteAt L (256*(L.length/2048)+j))):=by
 rw [Nat.add_comm]
 simp only [wcells,List.getElem?_cons_succ]
 rw [List.getElem?_append_left (by rw [chunkCells_length];omega),chunkCells_get L _ j h]

def Chain (w:World) (L:List Bool):Nat→Option Addr→Prop
 | 0,fo=>fo=none
 | k+1,fo=>∃ (c:Nat) (fo':Option Addr),fo=some ⟨c,0,none⟩∧Blk w c 140 (.pointer fo'::chunkCells L k)∧Chain w L k fo'

def Wr (w:World) (b:Nat) (L:List Bool):Prop:=
 ∃ fo,Blk w b 104 (wcells fo L)∧Chain w L (L.length/2048) fo

theorem Chain.kept {w w':World} {L:List Bool} (hk:∀ c cs,Blk w c 140 cs→Blk w' c 140 cs):
  ∀ {k:Nat} {fo:Option Addr},Chain w L k fo→Chain w' L k fo
 | 0,_,h=>h
 | _+1,_,⟨c,fo',e,hb,hr⟩=>⟨c,fo',e,hk _ _ hb,Chain.kept hk hr⟩

theorem Chain.more {w:World} {L:List Bool} (M:List Bool):
  ∀ {k:Nat} {fo:Option Addr},2048*k≤L.length→Chain w L k fo→Chain w (L++M) k fo
 | 0,_,_,h=>h
 | k+1,_,hk,⟨c,fo',e,hb,hr⟩=>by
   refine ⟨c,fo',e,?_,Chain.more M (by omega) hr⟩
   have:chunkCells (L++M) k=chunkCells L k:=by
    apply List.map_congr_left
    intro j hj
    simp only [List.mem_range] at hj
    rw [byteAt_append_old _ _ _ (by omega)]
   rw [this];exact hb

namespace Wr
variable {w w':World} {b:Nat} {L:List Bool}
theorem lt (h:Wr w b L):b<w.heap.size:=by obtain ⟨fo,hb,_⟩:=h;exact hb.lt
theorem kept (h:Wr w b L) (hk:∀ c t cs,(t=140∨t=104∧c=b)→Blk w c t cs→Blk w' c t cs):Wr w' b L:=by
 obtain ⟨fo,hb,hc⟩:=h
 exact ⟨fo,hk _ _ _ (.inr ⟨rfl,rfl⟩) hb,hc.kept fun c cs hx=>hk _ _ _ (.inl rfl) hx⟩
theorem alloc (h:Wr w b L) (o:Obj):Wr (w.alloc o) b L:=h.kept fun _ _ _ _ hx=>hx.alloc o
theorem drew (h:Wr w b L):Wr w.drew b L:=h.kept fun _ _ _ _ hx=>hx
theorem drewN (h:Wr w b L) (n:Nat):Wr (w.drewN n) b L:=h.kept fun _ _ _ _ hx=>hx
theorem below (h:Wr w b L) (hg:Below w.heap.size w w'):Wr w' b L:=h.kept fun _ _ _ _ hx=>hx.below hg hx.lt
theorem grown (h:Wr w b L) {r:Nat} {t:TypeId} {cs:List Value} (hg:Gr w w' r) (hr:Blk w r t cs) (h1:t≠140) (h2:t≠104):Wr w' b L:=
 h.kept fun _ t' _ ht hx=>hx.grown hg (by
  intro e
  simp at e
  subst e
  rcases ht with rfl | ⟨rfl,_⟩
  ·exact hx.ne hr (Ne.symm h1) rfl
  ·exact hx.ne hr (Ne.symm h2) rfl)
theorem row (h:Wr w b L) {r:Option Nat} (hg:w.grownBy w' r) (h2:∀ k t cs,r=some k→Blk w k t cs→t≠140∧t≠104):Wr w' b L:=
 h.kept fun c t' cs ht hx=>hx.grown hg (by
  intro e
  have:=h2 c t' cs e.symm hx
  rcases ht with rfl | ⟨rfl,_⟩
  ·exact this.1 rfl
  ·exact this.2 rfl)
theorem fresh (w:World):Wr (w.alloc (.cells (wcells none []).toArray 104)) w.heap.size []:=
 ⟨none,Blk.new _ _ _,rfl⟩
end Wr

theorem div_mod_2048 (n:Nat):256*(n/2048)+n/8%256=n/8:=by omega

theorem wcells_fill (fo:Option Addr) (L M:List Bool) (h0:0<M.length) (h:L.length%8+M.length≤8) (hx:(L.length+M.length)%2048≠0):
  ((wcells fo L).set (1+L.length/8%256) (.int .u8 (byteAt (L++M) (L.length/8)))).set 257 (.int .i64 ((L.length:Int)+(M.length:Int)))=wcells fo (L++M):=by
 have hq:(L++M).length/2048=L.length/2048:=by rw [List.length_append];omega
 apply List.ext_getElem?
 intro k
 by_cases h257:k=257
 ·subst h257
  rw [wcells_n,List.getElem?_set_self (by simp [wcells_length])]
  simp
 ·rw [List.getElem?_set_ne (by omega)]
  by_cases hk:k=1+L.length/8%256
  ·subst hk
   rw [List.getElem?_set_self (by rw [wcells_length];omega),wcells_j _ _ _ (by omega),hq,div_mod_2048]
  ·rw [List.getElem?_set_ne (by omega)]
   by_cases h258:258≤k
   ·rw [List.getElem?_eq_none (by rw [wcells_length];omega),List.getElem?_eq_none (by rw [wcells_length];omega)]
   ·cases k with
    | zero=>rw [wcells_0,wcells_0]
    | succ j=>
      rw [Nat.add_comm j 1,wcells_j _ _ _ (by omega),wcells_j _ _ _ (by omega),hq]
      have hj:j≠L.length/8%256:=by omega
      by_cases hlo:256*(L.length/2048)+j<L.length/8
      ·rw [byteAt_append_old _ _ _ (by omega)]
      ·have hhi:L.length/8<256*(L.length/2048)+j:=by have:=div_mod_2048 L.length;omega
       rw [byteAt_append_far _ _ _ (by omega),byteAt_beyond _ _ (by omega)]

def FillPost (b:Nat) (L:List Bool) (v:Int) (m:Nat) (w:World) (e:Ending) (w':World):Prop:=
 ∃ c:Nat,0<c∧c≤m∧e=.returned (.int .i64 c)∧Wr w' b (L++bitsOf (v.toNat >>> (m-c)) c)∧Gr w w' b

theorem fill_end_a {b:Nat} {fo:Option Addr} {L:List Bool} {v:Int} {m c n:Nat} {w:World} {nq:Nat} {x y z:Int} (hn:n=L.length)
  (hb:Blk w b 104 (wcells fo L)) (hch:Chain w L (L.length/2048) fo) (h0:0<c) (hcm:c≤m) (hc:n%8+c≤8) (hx:(n+c)%2048≠0)
  (hxc:x=c) (hz:z=(n:Int)+(c:Int)) (hy:y=byteAt (L++bitsOf (v.toNat >>> (m-c)) c) (L.length/8)):
  FillPost b L v m w (.returned (.int .i64 x)) (((w.drewN nq).setCell ⟨b,1+n/8%256,none⟩ (.int .u8 y)).setCell ⟨b,257,none⟩ (.int .i64 z)):=by
 subst hn hxc hy hz
 refine ⟨c,h0,hcm,rfl,⟨fo,?_,?_⟩,(((Gr.refl w b).drewN nq).setCell _ _).setCell _ _⟩
 ·have h1:=((hb.drewN nq).set (1+L.length/8%256) (.int .u8 (byteAt (L++bitsOf (v.toNat >>> (m-c)) c) (L.length/8)))).set 257 (.int .i64 ((L.length:Int)+(c:Int)))
  have h2:=wcells_fill fo L (bitsOf (v.toNat >>> (m-c)) c) (by rw [bitsOf_length];exact h0) (by rw [bitsOf_length];exact hc) (by rw [bitsOf_length];exact hx)
  rw [bitsOf_length] at h2
  rw [h2] at h1
  exact h1
 ·have hq:(L++bitsOf (v.toNat >>> (m-c)) c).length/2048=L.length/2048:=by rw [List.length_append,bitsOf_length];omega
  rw [hq]
  have h1:=hch.more (bitsOf (v.toNat >>> (m-c)) c) (by omega)
  refine h1.kept fun d cs hd=>?_
  have hne:d≠b:=hd.ne hb (by decide)
  exact ((hd.drewN nq).setOther (p:=⟨b,_,none⟩) hne _).setOther (p:=⟨b,_,none⟩) hne _

theorem fill_byte {L:List Bool} {v:Int} {m c:Nat} (hv:U64 v) (hc:L.length%8+c≤8):
  bits BinOp.or IntKind.u8 ((byteAt L (L.length/8):Nat):Int) (IntKind.u64.wrap (bits BinOp.and IntKind.u64 (v/2^(m-c)) (IntKind.u64.wrap (IntKind.u64.wrap (2^c)-1))*2^(8-L.length%8-c))%256)
   = ((byteAt (L++bitsOf (v.toNat >>> (m-c)) c) (L.length/8):Nat):Int):=by
 have hl:=bitsOf_length (v.toNat >>> (m-c)) c
 rw [piece_int v m c hv (by omega),or_byte _ _ _ (byteAt_lt _ _) (val_shift_lt _ _ (by rw [hl];omega)),byteAt_fill _ _ (by rw [hl];omega),hl]
def chunkAt (w:World) (b:Nat):Array Value:=match w.heap[b]? with
 | some (.cells c _ _)=>c.extract 1 257
 | _=>#[]
def Wide (w:World) (b n:Nat):Prop:=∃ t c,w.heap[b]? = some (.cells c t (0,0))∧c.size=n
theorem Wide.of {w:World} {b:Nat} {t:TypeId} {c:List Value} (h:Blk w b t c):Wide w b c.length:=⟨t,c.toArray,h,by simp⟩
@[simp] theorem wide_setCell (w:World) (p:Addr) (v:Value) (b n:Nat):Wide (w.setCell p v) b n=Wide w b n:=by
 apply propext
 unfold Wide
 simp only [World.setCell,Array.getElem?_modify]
 by_cases h:p.block=b
 ·subst h
  simp only [if_true]
  constructor
  ·rintro ⟨t,c,h,hn⟩
   cases hx:w.heap[p.block]? with
   | none=>simp [hx] at h
   | some o=>
     cases o with
     | cells c0 t0 fr0=>
       simp [hx] at h
       refine ⟨t0,c0,by rw [← h.2.2],?_⟩
       rw [← hn,← h.1];split <;> simp
     | _=>simp [hx] at h
  ·rintro ⟨t,c,h,hn⟩
   refine ⟨t,(if p.spot.isSome then c else c.setIfInBounds p.off v),by simp [h],?_⟩
   split <;> simpa using hn
 ·simp [h]
@[simp] theorem wide_drew (w:World) (b n:Nat):Wide w.drew b n=Wide w b n:=propext ⟨fun h=>h,fun h=>h⟩
@[simp] theorem wide_drewN (w:World) (b n k:Nat):Wide (w.drewN k) b n=Wide w b n:=propext ⟨fun h=>h,fun h=>h⟩

theorem chunkAt_size {w:World} {b:Nat} (h:Wide w b 258):(chunkAt w b).size=256:=by
 obtain ⟨t,c,h,hn⟩:=h
 simp [chunkAt,h,hn]

theorem fill_fold (off:Nat):∀ (l:List Value) (k:Nat) (cells:Array Value),off+k+l.length≤cells.size→
  ((l.zipIdx k).foldl (fun cs (x:Value×Nat)=>cs.setIfInBounds (off+x.2) x.1) cells)=(cells.toList.take (off+k)++l++cells.toList.drop (off+k+l.length)).toArray
 | [],k,cells,h=>by simp
 | v::r,k,cells,h=>by
   simp only [List.zipIdx_cons,List.foldl_cons]
   simp only [List.length_cons] at h
   rw [fill_fold off r (k+1) _ (by simp;omega)]
   have hl:off+k<cells.toList.length:=by simp;omega
   have e1:(cells.toList.set (off+k) v)=cells.toList.take (off+k)++v::cells.toList.drop (off+k+1):=List.set_eq_take_append_cons_drop.trans (if_pos hl)
   have hm:(cells.toList.take (off+k)).length=off+k:=by rw [List.length_take];omega
   have h1:(cells.toList.set (off+k) v).take (off+(k+1))=cells.toList.take (off+k)++[v]:=by
    rw [e1,List.take_append,List.take_of_length_le (by omega),hm,show off+(k+1)-(off+k)=1 by omega]
    simp
   have h2:(cells.toList.set (off+k) v).drop (off+(k+1)+r.length)=cells.toList.drop (off+k+(v::r).length):=by
    rw [e1,List.drop_append,List.drop_eq_nil_of_le (by omega),hm,show off+(k+1)+r.length-(off+k)=r.length+1 by omega]
    simp only [List.drop_succ_cons,List.drop_drop,List.nil_append,List.length_cons]
    congr 1;omega
   simp only [Array.toList_setIfInBounds]
   rw [h1,h2]
   simp

theorem fill_part (place:Nat→Option (Nat×Nat)) (cells:Array Value) (i off size:Nat) (v:Value) (rest:List (Nat×Value)) (hp:place i=some (off,size)) (hs:v.cells.size=size) (hf:off+size≤cells.size):
  Instr.fill place cells ((i,v)::rest)=Instr.fill place (cells.toList.take off++v.cells.toList++cells.toList.drop (off+size)).toArray rest:=by
 have hg:¬ (v.cells.size≠size∨off+v.cells.size>cells.size):=by omega
 have hz:v.cells.zipIdx.foldl (fun cs (c,j)=>cs.setIfInBounds (off+j) c) cells=(cells.toList.take off++v.cells.toList++cells.toList.drop (off+size)).toArray:=by
  have:=fill_fold off v.cells.toList 0 cells (by simp;omega)
  rw [← Array.foldl_toList]
  simp only [Array.toList_zipIdx]
  rw [this]
  simp [hs]
 simp only [Instr.fill,hp]
 rw [if_neg (by simpa using hg)]
 rw [← hz]
def zeros256:List Value:=List.replicate 256 (.int .u8 0)
theorem zeros256_length:zeros256.length=256:=by unfold zeros256;rw [List.length_replicate]
def wipe (w:World) (b:Nat):World:=w.setCells b 1 zeros256
theorem wide_alloc (w:World) (o:Obj) (b n:Nat) (h:b<w.heap.size):Wide (w.alloc o) b n=Wide w b n:=by
 unfold Wide;rw [Below.heap_alloc w o b h]
theorem chunkAt_sizeE (w:World) (b:Nat) (h:Wide w b 258):((chunkAt w b).size=256)=True:=by simp [chunkAt_size h]

theorem _root_.Go.Proofs.YtmjpnbadfmgimaaGreatDoor.Blk.setCells {b:Nat} {t:TypeId}:∀ (vs:List Value) (o:Nat) (w:World) (c:List Value),Blk w b t c→o+vs.length≤c.length→
  Blk (w.setCells b o vs) b t (c.take o++vs++c.drop (o+vs.length))
 | [],o,w,c,h,hl=>by simpa [World.setCells] using h
 | v::r,o,w,c,h,hl=>by
   simp only [List.length_cons] at hl
   have ih:=Blk.setCells r (o+1) _ _ (h.set o v) (by simp;omega)
   have e1:c.set o v=c.take o++v::c.drop (o+1):=List.set_eq_take_append_cons_drop.trans (if_pos (by omega))
   have hm:(c.take o).length=o:=by rw [List.length_take];omega
   have h1:(c.set o v).take (o+1)=c.take o++[v]:=by
    rw [e1,List.take_append,List.take_of_length_le (by omega),hm,show o+1-o=1 by omega]
    simp
   have h2:(c.set o v).drop (o+1+r.length)=c.drop (o+(v::r).length):=by
    rw [e1,List.drop_append,List.drop_eq_nil_of_le (by omega),hm,show o+1+r.length-o=r.length+1 by omega]
    simp only [List.drop_succ_cons,List.drop_drop,List.nil_append,List.length_cons]
    congr 1;omega
   rw [h1,h2] at ih
   simpa [World.setCells] using ih
theorem _root_.Go.Proofs.YtmjpnbadfmgimaaGreatDoor.Gr.setCells {b:Nat}:∀ (vs:List Value) (o:Nat) {w w':World},Gr w w' b→Gr w (w'.setCells b o vs) b
 | [],_,_,_,h=>h
 | v::r,o,_,_,h=>Gr.setCells r (o+1) (h.setCell o v)

theorem chunkCells_fill (fo:Option Addr) (L M:List Bool) (z:Value) (h0:0<M.length) (h:L.length%8+M.length≤8):
  ((((wcells fo L).set (1+L.length/8%256) (.int .u8 (byteAt (L++M) (L.length/8)))).set 257 z).drop 1).take 256=chunkCells (L++M) (L.length/2048):=by
 apply List.ext_getElem?
 intro j
 by_cases hj:j<256
 ·rw [List.getElem?_take_of_lt hj,List.getElem?_drop,chunkCells_get _ _ _ hj,List.getElem?_set_ne (by omega)]
  by_cases hk:j=L.length/8%256
  ·subst hk
   rw [List.getElem?_set_self (by rw [wcells_length];omega),div_mod_2048]
  ·rw [List.getElem?_set_ne (by omega),wcells_j _ _ _ hj]
   by_cases hlo:256*(L.length/2048)+j<L.length/8
   ·rw [byteAt_append_old _ _ _ (by omega)]
   ·have hhi:L.length/8<256*(L.length/2048)+j:=by have:=div_mod_2048 L.length;omega
    rw [byteAt_append_far _ _ _ (by omega),byteAt_beyond _ _ (by omega)]
 ·rw [List.getElem?_eq_none (by simp;omega),List.getElem?_eq_none (by rw [chunkCells_length];omega)]

theorem chunkCells_zero (L:List Bool) (h:L.length%2048=0):chunkCells L (L.length/2048)=zeros256:=by
 apply List.ext_getElem?
 intro j
 by_cases hj:j<256
 ·rw [chunkCells_get _ _ _ hj,byteAt_beyond _ _ (by omega)]
  rw [zeros256,List.getElem?_replicate,if_pos hj];rfl
 ·rw [List.getElem?_eq_none (by rw [chunkCells_length];omega),List.getElem?_eq_none (by rw [zeros256_length];omega)]

theorem fill_end_c {b:Nat} {fo:Option Addr} {L:List Bool} {v:Int} {m c n:Nat} {w:World} {nq:Nat} {x y z:Int} (hn:n=L.length)
  (hb:Blk w b 104 (wcells fo L)) (hch:Chain w L (L.length/2048) fo) (h0:0<c) (hcm:c≤m) (hc:n%8+c≤8) (hx:(n+c)%2048=0)
  (hxc:x=c) (hz:z=(n:Int)+(c:Int)) (hy:y=byteAt (L++bitsOf (v.toNat >>> (m-c)) c) (L.length/8)):
  FillPost b L v m w (.returned (.int .i64 x)) (wipe ((((((w.drewN nq).setCell ⟨b,1+n/8%256,none⟩ (.int .u8 y)).setCell ⟨b,257,none⟩ (.int .i64 z)).setCell ⟨b,0,none⟩ (.pointer (some ⟨w.heap.size,0,none⟩))).alloc
   (.cells (.pointer fo::(chunkAt (((w.drewN nq).setCell ⟨b,1+n/8%256,none⟩ (.int .u8 y)).setCell ⟨b,257,none⟩ (.int .i64 z)).drew b).toList).toArray 140)).drew) b):=by
 subst hn hxc hy hz
 generalize hM:bitsOf (v.toNat >>> (m-c)) c=M
 have hMl:M.length=c:=by rw [← hM];exact bitsOf_length _ _
 have h1:=((hb.drewN nq).set (1+L.length/8%256) (.int .u8 (byteAt (L++M) (L.length/8)))).set 257 (.int .i64 ((L.length:Int)+(c:Int)))
 have hk:=chunkCells_fill fo L M (.int .i64 ((L.length:Int)+(c:Int))) (by omega) (by omega)
 generalize hcs:((wcells fo L).set (1+L.length/8%256) (.int .u8 (byteAt (L++M) (L.length/8)))).set 257 (.int .i64 ((L.length:Int)+(c:Int)))=cs at*
 have hcl:cs.length=258:=by rw [← hcs];simp [wcells_length]
 have h257:cs[257]? = some (.int .i64 ((L.length:Int)+(c:Int))):=by rw [← hcs];exact List.getElem?_set_self (by simp [wcells_length])
 have g1:Gr w (((w.drewN nq).setCell ⟨b,1+L.length/8%256,none⟩ (.int .u8 (byteAt (L++M) (L.length/8)))).setCell ⟨b,257,none⟩ (.int .i64 ((L.length:Int)+(c:Int)))) b:=(((Gr.refl w b).drewN nq).setCell _ _).setCell _ _
 have hs1:∀ W:World,W=((w.drewN nq).setCell ⟨b,1+L.length/8%256,none⟩ (.int .u8 (byteAt (L++M) (L.length/8)))).setCell ⟨b,257,none⟩ (.int .i64 ((L.length:Int)+(c:Int)))→W.heap.size=w.heap.size:=by
  rintro W rfl;simp [World.drewN]
 have hs:=hs1 _ rfl
 generalize ((w.drewN nq).setCell ⟨b,1+L.length/8%256,none⟩ (.int .u8 (byteAt (L++M) (L.length/8)))).setCell ⟨b,257,none⟩ (.int .i64 ((L.length:Int)+(c:Int)))=W1 at*
 have hchunk:(chunkAt W1.drew b).toList=chunkCells (L++M) (L.length/2048):=by
  have h1':W1.drew.heap[b]? = some (.cells cs.toArray 104 (0,0)):=h1
  simp only [chunkAt,h1']
  rw [← hk]
  simp
 rw [hchunk]
 have h2:=h1.set 0 (.pointer (some ⟨w.heap.size,0,none⟩))
 have h3:=h2.alloc (.cells (.pointer fo::chunkCells (L++M) (L.length/2048)).toArray 140)
 have g3:=((g1.setCell 0 (.pointer (some ⟨w.heap.size,0,none⟩))).alloc (.cells (.pointer fo::chunkCells (L++M) (L.length/2048)).toArray 140)).drew
 have hnew:=Blk.new (W1.setCell ⟨b,0,none⟩ (.pointer (some ⟨w.heap.size,0,none⟩))) 140 (.pointer fo::chunkCells (L++M) (L.length/2048))
 have hsz:(W1.setCell ⟨b,0,none⟩ (.pointer (some ⟨w.heap.size,0,none⟩))).heap.size=w.heap.size:=by simpa using hs
 rw [hsz] at hnew
 have hnb:w.heap.size≠b:=by have:=hb.lt;omega
 have hq:(L++M).length/2048=L.length/2048+1:=by rw [List.length_append,hMl];omega
 refine ⟨c,h0,hcm,rfl,?_,Gr.setCells zeros256 1 g3⟩
 rw [hM]
 refine ⟨some ⟨w.heap.size,0,none⟩,?_,?_⟩
 ·have h4:=Blk.setCells zeros256 1 _ _ (h3.drew) (by simp [hcl,zeros256_length])
  have e:(cs.set 0 (.pointer (some ⟨w.heap.size,0,none⟩))).take 1++zeros256++(cs.set 0 (.pointer (some ⟨w.heap.size,0,none⟩))).drop (1+zeros256.length)=wcells (some ⟨w.heap.size,0,none⟩) (L++M):=by
   rw [zeros256_length]
   unfold wcells
   rw [chunkCells_zero (L++M) (by rw [List.length_append,hMl];exact hx)]
   cases cs with
   | nil=>simp at hcl
   | cons a r=>
     simp only [List.length_cons] at hcl
     have hr:r.drop 256=[.int .i64 ((L++M).length:Nat)]:=by
      apply List.ext_getElem?
      intro j
      rw [List.getElem?_drop]
      cases j with
      | zero=>simp only [List.getElem?_cons_succ] at h257;rw [Nat.add_zero,h257];simp [hMl]
      | succ j=>rw [List.getElem?_eq_none (by omega)];simp
     simp only [List.set_cons_zero,List.take_succ_cons,List.take_zero,List.cons_append,List.nil_append,Nat.add_comm 1 256,List.drop_succ_cons,hr]
  rw [e] at h4
  exact h4
 ·rw [hq]
  refine ⟨w.heap.size,fo,rfl,?_,?_⟩
  ·exact hnew.drew.grown (Gr.setCells zeros256 1 (Gr.refl _ b)) (by simpa using hnb)
  ·have h5:=hch.more M (by omega)
   refine h5.kept fun d ds hd=>?_
   have hne:d≠b:=hd.ne hb (by decide)
   exact hd.grown (Gr.setCells zeros256 1 g3) (by simpa using hne)
end Go.Proofs.YtmjpnbadfmgimaaGreatDoor.S7
namespace Go.Proofs.YtmjpnbadfmgimaaGreatDoor.S7
open Go.RowKit _root_.Go.Proofs.YtmjpnbadfmgimaaGreatDoor.Pl _root_.Go.Proofs.YtmjpnbadfmgimaaGreatDoor.S7.Pl

theorem fill_a (b:Nat) (fo:Option Addr) (L:List Bool) (v:Int) (m n:Nat) (w:World) (hn:Hid (n=L.length)) (hv:U64 v)
  (hb:Blk w b 104 (wcells fo L)) (hch:Chain w L (L.length/2048) fo)
  (hnb:n<17179869184) (hm:m≤64) (hm0:0<m) (hcm:8-n%8≤m) (hx:(n+(8-n%8))%2048≠0):
  Calls Tryz.prog 85 #[.pointer (some ⟨b,0,none⟩),.int .u64 v,.int .i64 m] w (FillPost b L v m w):=by
 have hn':=hn.out
 have c0:=hb.cell (wcells_0 fo L)
 have c1:=hb.cell (wcells_j fo L (n/8%256) (by omega))
 have c2:=hb.cell (wcells_n fo L)
 have hf:=hb.frozen
 rw [← hn'] at c2
 have e1:256*(L.length/2048)+n/8%256=n/8:=by rw [← hn'];exact div_mod_2048 n
 rw [e1] at c1
 obtain ⟨T,hT⟩:∃ T,T=byteAt L (n/8):=⟨_,rfl⟩
 rw [← hT] at c1
 have HT:=Lib.hid hT
 have HB:=Lib.hid hb
 have HC:=Lib.hid hch
 have HV:=Lib.hid hv
 clear hT hb hch hn' e1 hv
 have hd:¬ ((m:Int)<8-(n:Int)%8):=by omega
 go_enter Tryz.func85,Tryz.ntmps85
 go_wp2
 go_quiet (fail)
 go_wp2
 go_region
 go_wp2
 go_ret
 have e:(8:Int)-(n:Int)%8=((8-n%8:Nat):Int):=by omega
 refine fill_end_a (c:=8-n%8) hn.out HB.out HC.out (by omega) hcm (by omega) hx e (by rw [e]) ?_
 have hb':=fill_byte (L:=L) (v:=v) (m:=m) (c:=8-n%8) HV.out (by rw [← hn.out];omega)
 rw [← hn.out] at hb'
 rw [← hn.out,← hb',HT.out]
 simp

theorem fill_b (b:Nat) (fo:Option Addr) (L:List Bool) (v:Int) (m n:Nat) (w:World) (hn:Hid (n=L.length)) (hv:U64 v)
  (hb:Blk w b 104 (wcells fo L)) (hch:Chain w L (L.length/2048) fo)
  (hnb:n<17179869184) (hm0:0<m) (hcm:m<8-n%8):
  Calls Tryz.prog 85 #[.pointer (some ⟨b,0,none⟩),.int .u64 v,.int .i64 m] w (FillPost b L v m w):=by
 have hn':=hn.out
 have c0:=hb.cell (wcells_0 fo L)
 have c1:=hb.cell (wcells_j fo L (n/8%256) (by omega))
 have c2:=hb.cell (wcells_n fo L)
 have hf:=hb.frozen
 rw [← hn'] at c2
 have e1:256*(L.length/2048)+n/8%256=n/8:=by rw [← hn'];exact div_mod_2048 n
 rw [e1] at c1
 obtain ⟨T,hT⟩:∃ T,T=byteAt L (n/8):=⟨_,rfl⟩
 rw [← hT] at c1
 have HT:=Lib.hid hT
 have HB:=Lib.hid hb
 have HC:=Lib.hid hch
 have HV:=Lib.hid hv
 clear hT hb hch hn' e1 hv
 have hd:(m:Int)<8-(n:Int)%8:=by omega
 go_enter Tryz.func85,Tryz.ntmps85
 go_wp2
 go_quiet (fail)
 go_wp2
 go_region
 go_wp2
 go_ret
 refine fill_end_a (c:=m) hn.out HB.out HC.out (by omega) (Nat.le_refl _) (by omega) (by omega) rfl rfl ?_
 have hb':=fill_byte (L:=L) (v:=v) (m:=m) (c:=m) HV.out (by rw [← hn.out];omega)
 rw [← hn.out] at hb'
 rw [← hn.out,← hb',HT.out]
 simp
theorem run_loadVar_mid (w:World) (b:Nat) (h:Wide w b 258):(loadVar 102 ⟨b,1,none⟩).run Tryz.prog w=.ok (.agg (chunkAt w b)) w:=by
 obtain ⟨t,c,h,hn⟩:=h
 have hl:(loadCells ⟨b,1,none⟩ (c.toList.drop 1 |>.take 256).length).run Tryz.prog w=.ok (c.toList.drop 1 |>.take 256).toArray w:=
  run_loadCells_list (P:=Tryz.prog) w ⟨b,1,none⟩ _ (fun j v hv=>by
   have hadd:(⟨b,1,none⟩:Addr).add j=⟨b,1+j,none⟩:=by unfold Addr.add;split <;> simp_all
   rw [hadd,cell_of_row w b (1+j) c t (0,0) h]
   have hj:j<256:=by
    have:=(List.getElem?_eq_some_iff.1 hv).1
    simp at this;omega
   rw [List.getElem?_take_of_lt hj,List.getElem?_drop] at hv
   simpa using hv)
 have hlen:(c.toList.drop 1 |>.take 256).length=256:=by simp [hn]
 rw [hlen] at hl
 have hi:(Tryz.prog.info? 102).map (·.size)=some 256:=by kernel_rfl
 have hagg:(isAgg 102).run Tryz.prog w=.ok true w:=by
  unfold isAgg
  rw [Sem.run_bind,run_underlying Tryz.underlying102 w]
  rfl
 cases hq:Tryz.prog.info? 102 with
 | none=>simp [hq] at hi
 | some i=>
   have hs:i.size=256:=by simpa [hq] using hi
   have e:(c.toList.drop 1 |>.take 256).toArray=chunkAt w b:=by
    simp [chunkAt,h]
    apply Array.ext'
    simp
   simp [loadVar,Sem.run_bind,hagg,sizeOf,typeInfo,hq,hs,hl]
   rw [← e];simp

theorem zero55 (w:World):(zeroValue 140).run Tryz.prog w=.ok (.agg ((Value.pointer none::zeros256).toArray)) w:=by kernel_rfl
theorem size27 (w:World):(sizeOf 102).run Tryz.prog w=.ok 256 w:=by kernel_rfl
theorem run_build_link (w:World) (x:Option Addr) (A:Array Value) (hA:A.size=256):
  (Instr.build 140 #[(0,.pointer x),(1,.agg A)]).run Tryz.prog w=.ok (.agg ((Value.pointer x::A.toList).toArray)) w:=by
 unfold Instr.build
 have h1:Instr.fill (fun i=>#[(0,1),(1,256)][i]?) (Value.pointer none::zeros256).toArray [(0,.pointer x),(1,.agg A)]=some (Value.pointer x::A.toList).toArray:=by
  rw [fill_part (off:=0) (size:=1) _ _ _ _ _ rfl rfl (by simp),fill_part (off:=1) (size:=256) _ _ _ _ _ rfl (by simpa [Value.cells] using hA) (by simp [Value.cells,zeros256_length])]
  simp [Instr.fill,Value.cells,zeros256_length]
 simp only [Sem.run_bind,zero55,Result.andThen_ok,run_underlying Tryz.underlying140,Value.cells]
 have hp:∀ K:Array (Nat×Nat)→World→Result Value,Result.andThen (Sem.run Tryz.prog (Array.mapM (fun (f:Field)=>do let d ← sizeOf f.type;pure (f.offset,d)) #[{ name:="before",type:=100,offset:=0,embedded:=false,tag:="",pkgPath:="folio/bits",byteOffset:=0 },{ name:="bytes",type:=102,offset:=1,embedded:=false,tag:="",pkgPath:="folio/bits",byteOffset:=8 }]) w) K=K #[(0,1),(1,256)] w:=fun K=>by kernel_rfl
 refine (hp _).trans ?_
 show Sem.run Tryz.prog (match Instr.fill (fun i=>#[(0,1),(1,256)][i]?) (Value.pointer none::zeros256).toArray [(0,.pointer x),(1,.agg A)] with | some cells=>pure (Value.agg cells) | x=>stuck "build: no such field, or a part of the wrong size") w=_
 rw [h1]
 rfl

def load27S (v:Value):Sem Value:=Instr.loadAt 102 v
theorem load27_eq (v:Value):Instr.loadAt 102 v=load27S v:=rfl
theorem run_load27 (w:World) (b:Nat) (h:Wide w b 258):(load27S (.pointer (some ⟨b,1,none⟩))).run Tryz.prog w=.ok (.agg (chunkAt w b)) w:=by
 simp only [load27S,Instr.loadAt,Instr.sureAddr,Sem.run_bind,Sem.run_pure,Result.andThen_ok,run_loadVar_mid w b h]
def build55S (v:Array (Nat×Value)):Sem Value:=Instr.build 140 v
theorem build55_eq (v:Array (Nat×Value)):Instr.build 140 v=build55S v:=rfl
theorem run_build55 (w:World) (x:Option Addr) (A:Array Value) (hA:A.size=256):
  (build55S #[(0,.pointer x),(1,.agg A)]).run Tryz.prog w=.ok (.agg ((Value.pointer x::A.toList).toArray)) w:=run_build_link w x A hA
def store27S (p v:Value):Sem Unit:=Instr.storeAt 102 p v
theorem store27_eq (p v:Value):Instr.storeAt 102 p v=store27S p v:=rfl
theorem run_store27 (w:World) (b:Nat) (h:Wide w b 258):(store27S (.pointer (some ⟨b,1,none⟩)) (.agg zeros256.toArray)).run Tryz.prog w=.ok () (wipe w b):=by
 obtain ⟨t,c,h,hn⟩:=h
 have hs:=run_storeCells_cells (P:=Tryz.prog) b 1 zeros256 0 w
  (fun j hj=>by rw [zeros256_length] at hj;rw [cell_of_row w b _ c t (0,0) h];simp;omega)
  (fun j hj=>frozen_of_row w b _ c t h)
  (fun v hv=>by unfold zeros256 at hv;rw [List.mem_replicate] at hv;rw [hv.2];rfl)
 have hz:zeros256.toArray.size=256:=by simp [zeros256_length]
 simp only [store27S,Instr.storeAt,Instr.sureAddr,Sem.run_bind,Sem.run_pure,Result.andThen_ok,storeVar,size27,Value.cells,hz]
 exact hs
def build27S (v:Array (Nat×Value)):Sem Value:=Instr.build 102 v
theorem build27_eq (v:Array (Nat×Value)):Instr.build 102 v=build27S v:=rfl
theorem run_build27 (w:World):(build27S #[]).run Tryz.prog w=.ok (.agg zeros256.toArray) w:=by kernel_rfl
attribute [local go_sem ↓] load27_eq build55_eq store27_eq build27_eq
attribute [local go_sem] wide_alloc run_store27 run_build27
attribute [local go_sem] run_load27 run_build55 chunkAt_sizeE
attribute [local go_sem] wide_setCell wide_drew wide_drewN
theorem fill_c (b:Nat) (fo:Option Addr) (L:List Bool) (v:Int) (m n:Nat) (w:World) (hn:Hid (n=L.length)) (hv:U64 v)
  (hb:Blk w b 104 (wcells fo L)) (hch:Chain w L (L.length/2048) fo)
  (hnb:n<17179869184) (hm:m≤64) (hm0:0<m) (hcm:8-n%8≤m) (hx:Hid ((n+(8-n%8))%2048=0)):
  Calls Tryz.prog 85 #[.pointer (some ⟨b,0,none⟩),.int .u64 v,.int .i64 m] w (FillPost b L v m w):=by
 have hn':=hn.out
 have c0:=hb.cell (wcells_0 fo L)
 have c1:=hb.cell (wcells_j fo L (n/8%256) (by omega))
 have c2:=hb.cell (wcells_n fo L)
 have hf:=hb.frozen
 have hlt:=hb.lt
 have hW:Wide w b 258:=by have:=Wide.of hb;rwa [wcells_length] at this
 rw [← hn'] at c2
 have e1:256*(L.length/2048)+n/8%256=n/8:=by rw [← hn'];exact div_mod_2048 n
 rw [e1] at c1
 obtain ⟨T,hT⟩:∃ T,T=byteAt L (n/8):=⟨_,rfl⟩
 rw [← hT] at c1
 have HT:=Lib.hid hT
 have HB:=Lib.hid hb
 have HC:=Lib.hid hch
 have HV:=Lib.hid hv
 clear hT hb hch hn' e1 hv
 have hd:¬ ((m:Int)<8-(n:Int)%8):=by omega
 have hx':(((n:Int)+(8-(n:Int)%8))%2048==0)=true:=by rw [beq_iff_eq];have:=hx.out;omega
 go_enter Tryz.func85,Tryz.ntmps85
 go_wp2
 go_quiet (fail)
 go_wp2
 go_region
 go_wp2
 go_region
 all_goals
  go_wp2
  go_ret
  have e:(8:Int)-(n:Int)%8=((8-n%8:Nat):Int):=by omega
  refine fill_end_c (c:=8-n%8) hn.out HB.out HC.out (by omega) hcm (by omega) hx.out e (by rw [e]) ?_
  have hb':=fill_byte (L:=L) (v:=v) (m:=m) (c:=8-n%8) HV.out (by rw [← hn.out];omega)
  rw [← hn.out] at hb'
  rw [← hn.out,← hb',HT.out]
  simp
end Go.Proofs.YtmjpnbadfmgimaaGreatDoor.S7
namespace Go.Proofs.YtmjpnbadfmgimaaGreatDoor.S7
open Go.RowKit _root_.Go.Proofs.YtmjpnbadfmgimaaGreatDoor.Pl _root_.Go.Proofs.YtmjpnbadfmgimaaGreatDoor.S7.Pl

theorem fill_any (b:Nat) (L:List Bool) (v:Int) (m:Nat) (w:World) (hv:U64 v) (hw:Wr w b L) (hL:L.length<17179869184) (hm0:0<m) (hm:m≤64):
  Calls Tryz.prog 85 #[.pointer (some ⟨b,0,none⟩),.int .u64 v,.int .i64 m] w (FillPost b L v m w):=by
 obtain ⟨fo,hb,hch⟩:=hw
 by_cases h1:m<8-L.length%8
 ·exact fill_b b fo L v m L.length w (Lib.hid rfl) hv hb hch hL hm0 h1
 ·by_cases h2:(L.length+(8-L.length%8))%2048=0
  ·exact fill_c b fo L v m L.length w (Lib.hid rfl) hv hb hch hL hm hm0 (by omega) (Lib.hid h2)
  ·exact fill_a b fo L v m L.length w (Lib.hid rfl) hv hb hch hL hm hm0 (by omega) h2

def PutPost (b:Nat) (L:List Bool) (v:Int) (n:Nat) (w:World) (e:Ending) (w':World):Prop:=
 e=.returned (.bool true)∧Wr w' b (L++bitsOf v.toNat n)∧Gr w w' b
def PutRel (b:Nat) (L:List Bool) (v:Int) (n:Nat) (w:World) (m:Nat) (wr:World):Prop:=
 m≤n∧∃ L',Wr wr b L'∧L'++bitsOf v.toNat m=L++bitsOf v.toNat n∧Gr w wr b
theorem PutRel.lens {b:Nat} {L:List Bool} {v:Int} {n:Nat} {w:World} {m:Nat} {wr:World} {L':List Bool} (h:L'++bitsOf v.toNat m=L++bitsOf v.toNat n):L'.length+m=L.length+n:=by
 have:=congrArg List.length h
 simpa [bitsOf_length] using this
theorem PutRel.start {b:Nat} {L:List Bool} {v:Int} {n:Nat} {w:World} (hw:Wr w b L):PutRel b L v n w n w:=⟨Nat.le_refl _,L,hw,rfl,Gr.refl _ _⟩
theorem PutRel.step {b:Nat} {L:List Bool} {v:Int} {n:Nat} {w:World} {m c:Nat} {wr w':World} {L':List Bool} (hm:m≤n) (he:L'++bitsOf v.toNat m=L++bitsOf v.toNat n) (hg:Gr w wr b)
  (hcm:c≤m) (hw:Wr w' b (L'++bitsOf (v.toNat >>> (m-c)) c)) (hg':Gr wr w' b):PutRel b L v n w (m-c) w':=
 ⟨by omega,_,hw,by rw [List.append_assoc,← bitsOf_split _ _ _ hcm,he],hg.trans hg'⟩
theorem PutRel.done {b:Nat} {L:List Bool} {v:Int} {n:Nat} {w wr:World} (h:PutRel b L v n w 0 wr):PutPost b L v n w (.returned (.bool true)) wr:=by
 obtain ⟨_,L',hw,he,hg⟩:=h
 rw [bitsOf_zero,List.append_nil] at he
 rw [he] at hw
 exact ⟨rfl,hw,hg⟩

theorem put_any (b:Nat) (L:List Bool) (v:Int) (n:Nat) (w:World) (hv:U64 v) (hw:Wr w b L) (hL:L.length+n<17179869184) (hn:n≤64):
  Calls Tryz.prog 67 #[.pointer (some ⟨b,0,none⟩),.int .u64 v,.int .i64 n] w (PutPost b L v n w):=by
 have HS:=Lib.hid (PutRel.start (v:=v) (n:=n) hw)
 have HV:=Lib.hid hv
 clear hw hv
 go_enter Tryz.func67,Tryz.ntmps67
 go_wp2
 go_loopw [2] (fun x wr=>∃ m:Nat,m≤64∧x=.int .i64 m∧PutRel b L v n w m wr) (fun x _=>(intOf x).toNat)
 case atStart=>exact ⟨n,hn,rfl,HS.out⟩
 case round=>
  obtain ⟨m,hm,rfl,hr⟩:=hrel
  by_cases h0:0<m
  ·obtain ⟨hmn,L',hw',he,hg⟩:=hr
   have hl:=PutRel.lens (b:=b) (w:=w) (wr:=wr) he
   have HE:=Lib.hid he
   have HL:Hid (L'.length<17179869184):=Lib.hid (by omega)
   have HW:=Lib.hid hw'
   clear he hl hw' HS
   go_wp2_with (go_at_call 85;refine (fill_any b L' v m _ HV.out HW.out HL.out h0 hm).mono ?_;rintro e w' ⟨c,hc0,hcm,rfl,hw2,hg2⟩)
   go_roundw
   case rel=>exact ⟨m-c,by omega,by congr 1;omega,PutRel.step hmn HE.out hg hcm hw2 hg2⟩
   case measure=>simp [intOf];omega
  ·obtain rfl:m=0:=by omega
   have HR:=Lib.hid hr
   clear hr
   go_wp2
   go_ret
   exact HR.out.done


theorem info5:(Tryz.prog.info? 5).map (fun i=>(i.zero,i.size,i.bytes))=some (some (.int .u8 0),1,1):=by kernel_rfl
theorem size5:(Tryz.prog.info? 5).map (·.size)=some 1:=by kernel_rfl

theorem made_blk {w:World} {base:Nat} {e:TypeId} {g n:Nat} {xs:List Value} (h:w.ownsRow base e 1 (.slice (some ⟨g,0,none⟩) n n) n xs):Blk w g e xs:=by
 obtain ⟨hl,h | ⟨g',cap,cur,hv,_,hh,hn,_,hs,ht⟩⟩:=h
 ·simp at h
 ·simp at hv
  obtain ⟨rfl,rfl⟩:=hv
  unfold Blk
  rw [hh]
  have:cur.toList=xs:=by rw [← ht,List.take_of_length_le (by simp [hs])]
  rw [← this]

theorem made_list (n:Nat):(madeCells (Value.int .u8 0).cells (n*1)).toList=List.replicate n (.int .u8 0):=by
 apply List.ext_getElem?
 intro i
 by_cases h:i<n
 ·simp [madeCells,Value.cells,h,Nat.mod_one]
 ·simp [madeCells,Value.cells,h]
def CSrc (w:World) (cs:List Value) (dp:Option Addr) (g off:Nat) (sp:Option Addr):Prop:=
 0<cs.length→dp=some ⟨g,off,none⟩∧∃ ad,sp=some ad∧∀ j v,cs[j]? = some v→w.cell? (ad.add j)=some v
def outCells (L:List Bool) (k N:Nat):List Value:=(List.range N).map fun i=>.int .u8 (if i<256*k then 0 else byteAt L i)
theorem outCells_length (L:List Bool) (k N:Nat):(outCells L k N).length=N:=by simp [outCells]
theorem outCells_get (L:List Bool) (k N i:Nat) (h:i<N):(outCells L k N)[i]? = some (.int .u8 (if i<256*k then 0 else byteAt L i)):=by simp [outCells,h]

theorem splice_get {α:Type} (l:List α) (off:Nat) (cs:List α) (h:off+cs.length≤l.length) (i:Nat):
  (splice l off cs)[i]? = if i<off then l[i]? else if i<off+cs.length then cs[i-off]? else l[i]? := by
 have hm:(l.take off).length=off:=by rw [List.length_take];omega
 unfold splice
 by_cases h1:i<off
 ·rw [if_pos h1,List.getElem?_append_left (by omega),List.getElem?_take_of_lt h1]
 ·rw [if_neg h1,List.getElem?_append_right (by omega),hm]
  by_cases h2:i<off+cs.length
  ·rw [if_pos h2,List.getElem?_append_left (by omega)]
  ·rw [if_neg h2,List.getElem?_append_right (by omega),List.getElem?_drop]
   congr 1;omega

theorem splice_last (L:List Bool) (N:Nat) (hN:N=(L.length+7)/8):
  splice (List.replicate N (.int .u8 0)) (256*(L.length/2048)) ((chunkCells L (L.length/2048)).take (N-256*(L.length/2048)))=outCells L (L.length/2048) N:=by
 have hq:N-256*(L.length/2048)≤256:=by omega
 have hq2:256*(L.length/2048)≤N:=by omega
 have hl:((chunkCells L (L.length/2048)).take (N-256*(L.length/2048))).length=N-256*(L.length/2048):=by rw [List.length_take,chunkCells_length];omega
 apply List.ext_getElem?
 intro i
 rw [splice_get _ _ _ (by rw [hl,List.length_replicate];omega),hl]
 by_cases h:i<N
 ·rw [outCells_get _ _ _ _ h]
  by_cases h1:i<256*(L.length/2048)
  ·rw [if_pos h1,if_pos h1,List.getElem?_replicate,if_pos h]
  ·rw [if_neg h1,if_neg h1,if_pos (by omega),List.getElem?_take_of_lt (by omega),chunkCells_get _ _ _ (by omega),show 256*(L.length/2048)+(i-256*(L.length/2048))=i by omega]
 ·rw [List.getElem?_eq_none (l:=outCells _ _ _) (by rw [outCells_length];omega),if_neg (by omega),if_neg (by omega),List.getElem?_replicate,if_neg h]

theorem splice_link (L:List Bool) (k N:Nat) (hN:256*(k+1)≤N):
  splice (outCells L (k+1) N) (256*k) (chunkCells L k)=outCells L k N:=by
 apply List.ext_getElem?
 intro i
 rw [splice_get _ _ _ (by rw [chunkCells_length,outCells_length];omega),chunkCells_length]
 by_cases h:i<N
 ·rw [outCells_get _ _ _ _ h,outCells_get _ _ _ _ h]
  by_cases h1:i<256*k
  ·rw [if_pos h1,if_pos h1,if_pos (by omega)]
  ·rw [if_neg h1,if_neg h1]
   by_cases h2:i<256*k+256
   ·rw [if_pos h2,chunkCells_get _ _ _ (by omega)]
    congr 3;congr 1;congr 1;omega
   ·rw [if_neg h2,if_neg (by omega)]
 ·rw [List.getElem?_eq_none (l:=outCells _ _ _) (by rw [outCells_length];omega),List.getElem?_eq_none (l:=outCells _ _ _) (by rw [outCells_length];omega),if_neg (by omega),if_neg (by omega)]

def u8s (B:List Nat):List Value:=B.map fun (x:Nat)=>.int .u8 x
theorem outCells_all (L:List Bool):outCells L 0 ((L.length+7)/8)=u8s (bytesOf L):=by
 simp [outCells,u8s,bytesOf]

def BytesPost (L:List Bool) (w:World) (e:Ending) (w':World):Prop:=
 e=.returned (.slice (some ⟨w.heap.size,0,none⟩) ((L.length+7)/8) ((L.length+7)/8))∧Blk w' w.heap.size 5 (u8s (bytesOf L))∧Below w.heap.size w w'
def BRel (L:List Bool) (N:Nat) (w:World) (k:Nat) (fo:Option Addr) (wr:World):Prop:=
 256*k≤N∧Chain w L k fo∧Blk wr w.heap.size 5 (outCells L k N)∧Below w.heap.size w wr
theorem chunkCells_one (L:List Bool) (k:Nat):∀ v∈chunkCells L k,v.oneCell'=true:=by
 intro v hv
 simp only [chunkCells,List.mem_map] at hv
 obtain ⟨j,_,rfl⟩:=hv
 rfl

theorem copy_src {w:World} {b n d:Nat} {fo:Option Addr} {L:List Bool} (hb:Blk w b 104 (wcells fo L)) (hn:n=L.length) (j:Nat) (v:Value)
  (h:((chunkCells L (n/2048)).take d)[j]? = some v):w.cell? ((⟨b,1,none⟩:Addr).add j)=some v:=by
 subst hn
 have hj:=(List.getElem?_eq_some_iff.1 h).1
 rw [List.length_take,chunkCells_length] at hj
 rw [List.getElem?_take_of_lt (by omega),chunkCells_get _ _ _ (by omega)] at h
 have hadd:(⟨b,1,none⟩:Addr).add j=⟨b,1+j,none⟩:=by unfold Addr.add;split <;> simp_all
 rw [hadd,hb.cell (wcells_j fo L j (by omega)),h]

theorem brel_start {L:List Bool} {n:Nat} {w w2:World} {fo:Option Addr} (hn:n=L.length) (hc:Chain w L (L.length/2048) fo)
  (hg:w2.heap[w.heap.size]? = some (.cells (splice (List.replicate ((n+7)/8) (Value.int .u8 0)) (n/2048*256) ((chunkCells L (n/2048)).take ((n+7)/8-n/2048*256))).toArray 5 (0,0)))
  (hb:Below w.heap.size w w2):BRel L ((n+7)/8) w (n/2048) fo w2:=by
 subst hn
 refine ⟨by omega,hc,?_,hb⟩
 have:=splice_last L _ rfl
 rw [Nat.mul_comm 256] at this
 rw [this] at hg
 exact hg
theorem brel_done {L:List Bool} {n N:Nat} {w wr:World} {fo:Option Addr} (hN:N=(n+7)/8) (hn:n=L.length) (h:BRel L N w 0 fo wr):
  BytesPost L w (.returned (.slice (some ⟨w.heap.size,0,none⟩) N N)) wr:=by
 subst hn hN
 obtain ⟨_,_,hg,hb⟩:=h
 rw [outCells_all] at hg
 exact ⟨rfl,hg,hb⟩

theorem bytes_any (b:Nat) (L:List Bool) (w:World) (hw:Wr w b L) (hL:L.length<17179869184):
  Calls Tryz.prog 73 #[.pointer (some ⟨b,0,none⟩)] w (BytesPost L w):=by
 obtain ⟨fo,hb,hch⟩:=hw
 have c0:=hb.cell (wcells_0 fo L)
 have c2:=hb.cell (wcells_n fo L)
 have hlt:=hb.lt
 have HB:=Lib.hid hb
 have HC:=Lib.hid hch
 obtain ⟨n,hn⟩:∃ n,n=L.length:=⟨_,rfl⟩
 rw [← hn] at c2 hL
 have HN:=Lib.hid hn
 clear hb hch hn
 obtain ⟨i0,hi,hz0,hz1,hz2⟩:=info_parts info5
 have Hi:=Lib.hid hi
 have Hz0:=Lib.hid hz0
 have Hz1:=Lib.hid hz1
 have Hz2:=Lib.hid hz2
 clear hi hz0 hz1 hz2
 go_enter Tryz.func73,Tryz.ntmps73
 go_wp2_with (at_make;refine wpList_make_full _ rfl _ _ 27 rfl w.heap.size 5 i0 (.int .u8 0) 1 Tryz.underlying27 Hi.out Hz0.out Hz1.out .i64 .i64 _ _ ((n+7)/8) rfl rfl (by omega) (by omega) (by rw [Hz2.out];omega) (by unfold maxLen;omega) (Nat.le_refl _) ?_;intro w1 hown hgr;have c0':=hgr.cell c0 (by simp);have c2':=hgr.cell c2 (by simp))
 have HB1:Hid (Blk w1 b 104 (wcells fo L)):=Lib.hid (HB.out.grown hgr (by simp))
 have HG1:Hid (Blk w1 w.heap.size 5 (List.replicate ((n+7)/8) (.int .u8 0))):=Lib.hid (by have:=made_blk hown;rw [made_list] at this;simpa using this)
 have HBel:Hid (Below w.heap.size w w1):=Lib.hid ((Below.refl _ _).grown hgr (Nat.le_refl _) (by simp))
 have HC1:Hid (Chain w1 L (L.length/2048) fo):=Lib.hid (HC.out.kept fun c cs hx=>hx.grown hgr (by simp))
 clear hown c0 c2
 have hc1:(0:Int)≤(n:Int)/2048*256:=by omega
 have hc2:(n:Int)/2048*256≤((n:Int)+7)/8:=by omega
 have hc3:((n:Int)/2048*256).toNat=n/2048*256:=by omega
 have hd:(n+7)/8-n/2048*256≤256:=by omega
 have F1:Hid (((chunkCells L (n/2048)).take ((n+7)/8-n/2048*256)).length=Nat.min 256 ((n+7)/8-n/2048*256)):=Lib.hid (by rw [List.length_take,chunkCells_length,Nat.min_comm])
 have F2:Hid (0<((chunkCells L (n/2048)).take ((n+7)/8-n/2048*256)).length→(if (n+7)/8=n/2048*256 then some ⟨w.heap.size,0,none⟩ else some ⟨w.heap.size,n/2048*256,none⟩:Option Addr)=some ⟨w.heap.size,n/2048*256,none⟩∧∃ ad,(some ⟨b,1,none⟩:Option Addr)=some ad∧∀ j v,((chunkCells L (n/2048)).take ((n+7)/8-n/2048*256))[j]? = some v→w1.cell? (ad.add j)=some v):=
  Lib.hid fun h=>by
   rw [F1.out] at h
   have h':0<(n+7)/8-n/2048*256:=Nat.lt_of_lt_of_le h (Nat.min_le_right _ _)
   exact ⟨if_neg (by omega),_,rfl,copy_src HB1.out HN.out⟩
 have F3:Hid (n/2048*256+((chunkCells L (n/2048)).take ((n+7)/8-n/2048*256)).length≤(List.replicate ((n+7)/8) (Value.int .u8 0)).length):=Lib.hid (by rw [F1.out,List.length_replicate];have:Nat.min 256 ((n+7)/8-n/2048*256)≤(n+7)/8-n/2048*256:=Nat.min_le_right _ _;omega)
 have F4:Hid (∀ v∈(chunkCells L (n/2048)).take ((n+7)/8-n/2048*256),v.oneCell'=true):=Lib.hid fun v hv=>chunkCells_one L _ v (List.mem_of_mem_take hv)
 go_region_law (refine step_copy_splice rfl (.tmp 23) (.tmp 27) 27 27 rfl 5 Tryz.underlying27 size5 (if (n+7)/8=n/2048*256 then some ⟨w.heap.size,0,none⟩ else some ⟨w.heap.size,n/2048*256,none⟩) (some ⟨b,1,none⟩) ((n+7)/8-n/2048*256) ((n+7)/8-n/2048*256) 256 256 (by simp [Act.eval,Act.put]) (by simp [Act.eval,Act.put]) w.heap.size (n/2048*256) _ 5 HG1.out ((chunkCells L (n/2048)).take ((n+7)/8-n/2048*256)) F1.out F2.out F3.out F4.out w.heap.size w HBel.out.drew (Nat.le_refl _) ?_;intro w2 hG2 hB2)
 all_goals
  have hR:Hid (BRel L ((n+7)/8) w (n/2048) fo w2):=Lib.hid (brel_start HN.out HC.out hG2.out hB2)
  have d0:w2.cell? ⟨b,0,none⟩=some (.pointer fo):=(hB2.cell (p:=⟨b,0,none⟩) hlt).trans (HB.out.cell (wcells_0 fo L))
  clear hd F1 F2 F3 F4 HB1 HG1 HBel HC1 hgr c0' c2' hG2 hB2
  generalize (if (n+7)/8=n/2048*256 then (some ⟨w.heap.size,0,none⟩:Option Addr) else some ⟨w.heap.size,n/2048*256,none⟩)=adx
  generalize ((((chunkCells L (n/2048)).take ((n+7)/8-n/2048*256)).length:Nat):Int)=lenx
  go_wp2
  clear hc1 hc2 hc3
  obtain ⟨N,hN⟩:∃ N,N=(n+7)/8:=⟨_,rfl⟩
  rw [← hN] at hR ⊢
  have HNN:=Lib.hid hN
  have hNb:N<2147483649:=by omega
  clear hN
  go_loopw [4,5] (fun x y wr=>∃ (k:Nat) (fo:Option Addr),256*k≤N∧x=.int .i64 ((k:Int)*256)∧y=.pointer fo∧BRel L N w k fo wr) (fun x _ _=>(intOf x).toNat)
  case atStart=>exact ⟨n/2048,fo,hR.out.1,by congr 1,rfl,hR.out⟩
  case round=>
   obtain ⟨k,fo',hk,rfl,rfl,hr⟩:=hrel
   have HR:=Lib.hid hr
   clear hr hR
   cases k with
   | zero=>
     obtain rfl:fo'=none:=HR.out.2.1
     go_wp2
     go_ret
     exact brel_done HNN.out HN.out HR.out
   | succ k=>
     obtain ⟨c,fo2,rfl,hcb,hch⟩:=HR.out.2.1
     have hclt:=hcb.lt
     have l0:wr.cell? ⟨c,0,none⟩=some (.pointer fo2):=(HR.out.2.2.2.cell (p:=⟨c,0,none⟩) hclt).trans (hcb.cell (o:=0) rfl)
     have HCB:=Lib.hid hcb
     have HCH:=Lib.hid hch
     clear hcb hch
     have hk1:256*k+256≤N:=by omega
     have e1:(0:Int)≤((k:Int)+1)*256-256:=by omega
     have e2:((k:Int)+1)*256-256≤(N:Int):=by omega
     have e5:(256:Int)≤((k:Int)+1)*256:=by omega
     have e3:(((k:Int)+1)*256-256).toNat=256*k:=by omega
     have e4:¬ (N=256*k):=by omega
     have F1:Hid ((chunkCells L k).length=Nat.min 256 (N-256*k)):=Lib.hid (by rw [chunkCells_length];show 256=min 256 (N-256*k);omega)
     have F2:CSrc wr (chunkCells L k) (some ⟨w.heap.size,256*k,none⟩) w.heap.size (256*k) (some ⟨c,1,none⟩):=
      fun _=>⟨rfl,_,rfl,fun j v hj=>by
       have hadd:(⟨c,1,none⟩:Addr).add j=⟨c,1+j,none⟩:=by unfold Addr.add;split <;> simp_all
       rw [hadd,HR.out.2.2.2.cell (p:=⟨c,1+j,none⟩) hclt]
       exact HCB.out.cell (by rw [Nat.add_comm];exact hj)⟩
     have F3:Hid (256*k+(chunkCells L k).length≤(outCells L (k+1) N).length):=Lib.hid (by rw [chunkCells_length,outCells_length];exact hk1)
     go_wp2
     go_region_law (refine step_copy_splice rfl (.tmp 43) (.tmp 47) 27 27 rfl 5 Tryz.underlying27 size5 (some ⟨w.heap.size,256*k,none⟩) (some ⟨c,1,none⟩) (N-256*k) (N-256*k) 256 256 (by simp [Act.eval,Act.put]) (by simp [Act.eval,Act.put]) w.heap.size (256*k) _ 5 HR.out.2.2.1 (chunkCells L k) F1.out F2 F3.out (chunkCells_one L k) w.heap.size w HR.out.2.2.2.drew (Nat.le_refl _) ?_;intro w3 hG3 hB3)
     all_goals
      have l1:w3.cell? ⟨c,0,none⟩=some (.pointer fo2):=(hB3.cell (p:=⟨c,0,none⟩) hclt).trans (HCB.out.cell (o:=0) rfl)
      have HR3:Hid (BRel L N w k fo2 w3):=Lib.hid ⟨by omega,HCH.out,by have:=hG3.out;rw [splice_link _ _ _ (by omega)] at this;exact this,hB3⟩
      clear F1 F2 F3 HR l0 hG3 hB3 HCB HCH
      generalize (((chunkCells L k).length:Nat):Int)=leny
      go_wp2
      go_roundw
      case rel=>exact ⟨k,fo2,by omega,by congr 1;omega,rfl,HR3.out⟩
      case measure=>simp [intOf];omega

def IsBytes (w:World) (v:Value) (B:List Nat):Prop:=
 (∀ x∈B,x<256)∧((v=.slice none 0 0∧B=[])∨∃ a cap,v=.slice (some a) B.length cap∧B.length≤cap∧cap≤maxLen∧∀ i u,(u8s B)[i]? = some u→w.cell? (a.add i)=some u)
theorem u8s_length (B:List Nat):(u8s B).length=B.length:=by simp [u8s]
theorem u8s_get (B:List Nat) (i:Nat) (h:i<B.length):(u8s B)[i]? = some (.int .u8 (B.getD i 0:Nat)):=by simp [u8s,h,List.getD]
theorem u8s_one (B:List Nat):∀ v∈u8s B,v.oneCell'=true:=by
 intro v hv;simp only [u8s,List.mem_map] at hv;obtain ⟨x,_,rfl⟩:=hv;rfl

def ClonePost (v:Value) (B:List Nat) (w:World) (e:Ending) (w':World):Prop:=
 ∃ v',e=.returned v'∧w'.ownsRow w.heap.size 5 1 v' B.length (u8s B)∧Below w.heap.size w w'

theorem clone_any (v:Value) (B:List Nat) (w:World) (hv:IsBytes w v B) (hB:B.length≤140737488351232):
  Calls Tryz.prog 32 #[v] w (ClonePost v B w):=by
 have qT:∀ (w:World) (a:Option Addr) (n c n' c':Nat),(binOp .eql 27 (.slice a n c) (.slice none n' c')).run Tryz.prog w=.ok (.bool a.isNone) w:=fun w a n c n' c'=>Lib.run_eql_slice_nil w 27 5 a n c n' c' Tryz.underlying27
 obtain ⟨_,⟨rfl,rfl⟩ | ⟨a,cap,rfl,hcap,hmax,hc⟩⟩:=hv
 ·go_enter Tryz.func32,Tryz.ntmps32
  go_wp2
  go_ret
  exact ⟨_,rfl,World.ownsRow_nil _ _ _ _,Below.refl _ _⟩
 ·obtain ⟨i0,hi,hz0,hz1,hz2⟩:=info_parts info5
  have Hi:=Lib.hid hi
  have Hz0:=Lib.hid hz0
  have Hz1:=Lib.hid hz1
  have Hz2:=Lib.hid hz2
  clear hi hz0 hz1 hz2
  have HC:=Lib.hid hc
  clear hc
  have H0:Hid ((w.alloc (.cells #[] 5)).ownsRow w.heap.size 5 1 (.slice (some ⟨w.heap.size,0,none⟩) 0 0) 0 []):=Lib.hid (World.ownsRow_made w #[] 0 (Nat.le_refl _) (by unfold maxLen;omega) rfl)
  have HS:Hid (∀ (j:Nat) (u:Value),(u8s B)[j]? = some u→(w.alloc (.cells #[] 5)).cell? (a.add j)=some u):=Lib.hid fun j u hu=>by
   have h:=HC.out j u hu
   rw [World.cell?_alloc_lt]
   ·exact h
   ·exact World.block_lt_of_cell? w _ h
  go_enter Tryz.func32,Tryz.ntmps32
  go_wp2_with (at_builtin;refine wpList_append_own _ rfl (.tmp 5) (.tmp 6) 27 rfl w.heap.size 5 i0 (.int .u8 0) 1 1 Tryz.underlying27 Hi.out Hz0.out Hz1.out Hz2.out rfl (by decide) _ _ _ rfl H0.out a B.length cap (u8s B) rfl (by rw [u8s_length,Nat.mul_one]) HS.out (u8s_one B) (by unfold maxLen;omega) (by omega) (by simp) ?_;intro v' w1 hown hgr _)
  go_ret
  have hsz:(w.alloc (.cells #[] 5)).heap.size=w.heap.size+1:=by simp
  refine ⟨v',rfl,by simpa using hown,?_⟩
  exact (((Below.refl _ _).alloc (Nat.le_refl _) _).grown hgr (by simp) (by intro k hk;have hk':some w.heap.size=some k:=hk;simp at hk';omega))

theorem ownsRow_slice {w:World} {base:Nat} {e:TypeId} {size:Nat} {v:Value} {n:Nat} {xs:List Value} (h:w.ownsRow base e size v n xs):∃ sp cap,v=.slice sp n cap∧n≤cap∧cap≤maxLen:=by
 obtain ⟨_,⟨rfl,rfl⟩ | ⟨g,cap,cur,rfl,_,_,h1,h2,_⟩⟩:=h
 ·exact ⟨none,0,rfl,Nat.le_refl _,by unfold maxLen;omega⟩
 ·exact ⟨_,cap,rfl,h1,h2⟩
theorem ownsRow_row {w w':World} {base:Nat} {e:TypeId} {size:Nat} {v:Value} {n:Nat} {xs:List Value} {r:Option Nat} (h:w.ownsRow base e size v n xs) (hg:w.grownBy w' r)
  (hr:∀ k t cs,r=some k→Blk w k t cs→base≤k→t≠e):w'.ownsRow base e size v n xs:=by
 refine h.kept hg ?_
 obtain ⟨_,⟨rfl,rfl⟩ | ⟨g,cap,cur,rfl,hb,hh,h1,h2,_⟩⟩:=h
 ·exact .inl rfl
 ·refine .inr fun e'=>?_
  have e2:r=some g:=e'.symm
  exact hr g e cur.toList e2 (by unfold Blk;simpa using hh) hb rfl

def Rd (w:World) (base b:Nat) (B:List Nat) (at_:Nat):Prop:=
 base≤b∧at_≤8*B.length∧B.length≤140737488351232∧(∀ x∈B,x<256)∧∃ sp cap,Blk w b 201 [.slice sp B.length cap,.int .i64 at_]∧w.ownsRow base 5 1 (.slice sp B.length cap) B.length (u8s B)
namespace Rd
variable {w w':World} {base b at_:Nat} {B:List Nat}
theorem lt (h:Rd w base b B at_):b<w.heap.size:=by obtain ⟨_,_,_,_,sp,cap,hb,_⟩:=h;exact hb.lt
theorem row (h:Rd w base b B at_) {r:Option Nat} (hg:w.grownBy w' r) (hr:∀ k t cs,r=some k→Blk w k t cs→base≤k→t≠5∧t≠201):Rd w' base b B at_:=by
 obtain ⟨h1,h2,h3,h4,sp,cap,hb,ho⟩:=h
 refine ⟨h1,h2,h3,h4,sp,cap,hb.grown hg ?_,ownsRow_row ho hg fun k t cs e hk hbk=>(hr k t cs e hk hbk).1⟩
 intro e
 exact (hr b _ _ e.symm hb h1).2 rfl
theorem drew (h:Rd w base b B at_):Rd w.drew base b B at_:=h
theorem alloc (h:Rd w base b B at_) (o:Obj):Rd (w.alloc o) base b B at_:=h.row (World.grownBy_alloc w o none) (by simp)
theorem below (h:Rd w base b B at_) (hb:Below w.heap.size w w'):Rd w' base b B at_:=h.row (r:=none) ⟨hb.os,hb.tape,hb.output,hb.size,fun k hk _=>hb.block k hk⟩ (by simp)
end Rd

def ReadPost (B:List Nat) (w:World) (e:Ending) (w':World):Prop:=
 ∃ b,e=.returned (.pointer (some ⟨b,0,none⟩))∧Rd w' w.heap.size b B 0∧Below w.heap.size w w'

theorem read_any (v:Value) (B:List Nat) (w:World) (hv:IsBytes w v B) (hB:B.length≤140737488351232):
  Calls Tryz.prog 129 #[v] w (ReadPost B w):=by
 have hx:=hv.1
 have HX:=Lib.hid hx
 have HV:=Lib.hid hv
 clear hx hv
 go_enter Tryz.func129,Tryz.ntmps129
 go_wp2_with (go_at_call 32;refine (clone_any v B _ HV.out hB).mono ?_;rintro e w1 ⟨v1,rfl,hown,hbel⟩;obtain ⟨sp,cap,rfl,hcap,hmx⟩:=ownsRow_slice hown)
 go_ret
 refine ⟨_,rfl,⟨hbel.size,by omega,hB,HX.out,sp,cap,Blk.new _ _ _,hown.alloc _⟩,?_⟩
 exact hbel.alloc hbel.size _

theorem left_any (b base:Nat) (B:List Nat) (at_:Nat) (w:World) (hr:Rd w base b B at_):
  Calls Tryz.prog 133 #[.pointer (some ⟨b,0,none⟩)] w fun e w'=>e=.returned (.int .i64 (8*(B.length:Int)-(at_:Int)))∧∃ k,w.drewN k=w':=by
 obtain ⟨_,h2,h3,_,sp,cap,hb,_⟩:=hr
 have c0:=hb.cell (o:=0) rfl
 have c1:=hb.cell (o:=1) rfl
 clear hb
 go_enter Tryz.func133,Tryz.ntmps133
 go_wp2
 go_quiet (fail)
 go_wp2
 go_ret
 exact ⟨rfl,_,rfl⟩
theorem get_bad (b base:Nat) (B:List Nat) (at_:Nat) (n:Int) (w:World) (hr:Rd w base b B at_) (h:n<0∨64<n∨8*(B.length:Int)-(at_:Int)<n):
  Calls Tryz.prog 147 #[.pointer (some ⟨b,0,none⟩),.int .i64 n] w fun e w'=>e=.returned (.tuple #[.int .u64 0,.bool false])∧∃ k,w.drewN k=w':=by
 have h2:=hr.2.1
 have h3:=hr.2.2.1
 have HR:=Lib.hid hr
 clear hr
 by_cases c1:n<0
 ·clear h
  go_enter Tryz.func147,Tryz.ntmps147
  go_wp2
  go_ret2
  exact ⟨rfl,0,rfl⟩
 ·by_cases c2:64<n
  ·clear h
   go_enter Tryz.func147,Tryz.ntmps147
   go_wp2
   go_ret2
   exact ⟨rfl,0,rfl⟩
  ·have c3:8*(B.length:Int)-(at_:Int)<n:=by omega
   clear h
   go_enter Tryz.func147,Tryz.ntmps147
   go_wp2_with (go_at_call 133;refine (left_any b base B at_ _ HR.out).mono ?_;rintro e w' ⟨rfl,k,rfl⟩)
   go_ret2
   exact ⟨rfl,_,rfl⟩
end Go.Proofs.YtmjpnbadfmgimaaGreatDoor.S7
namespace Go.Proofs.YtmjpnbadfmgimaaGreatDoor.S7
open Go.RowKit _root_.Go.Proofs.YtmjpnbadfmgimaaGreatDoor.Pl _root_.Go.Proofs.YtmjpnbadfmgimaaGreatDoor.S7.Pl

def take (B:List Nat) (at_ n:Nat):Nat:=val (((bitsB B).drop at_).take n)
theorem take_zero (B:List Nat) (at_:Nat):take B at_ 0=0:=by simp [take,val_nil]
theorem take_lt (B:List Nat) (at_ n:Nat):take B at_ n<2^n:=by
 have h1:=val_lt (((bitsB B).drop at_).take n)
 have h2:(((bitsB B).drop at_).take n).length≤n:=List.length_take_le _ _
 have h3:2^(((bitsB B).drop at_).take n).length≤2^n:=Nat.pow_le_pow_right (by omega) h2
 unfold take;omega
theorem take_add (B:List Nat) (at_ n c:Nat) (h:at_+n+c≤8*B.length):take B at_ (n+c)=take B at_ n*2^c+take B (at_+n) c:=by
 unfold take
 rw [List.take_add,List.drop_drop,val_append]
 congr 3
 rw [List.length_take,List.length_drop,bitsB_length];omega

theorem get_join (B:List Nat) (at_ d c m:Nat) (x:Int) (h:at_+d+c≤8*B.length) (hc:c≤8) (hx:x=take B (at_+d) c) (hm:d+c≤64):
  bits BinOp.or IntKind.u64 (IntKind.u64.wrap ((take B at_ d:Nat)*2^c)) x=((take B at_ (d+c):Nat):Int):=by
 subst hx
 have h1:=take_lt B at_ d
 have h2:=take_lt B (at_+d) c
 have h3:(2:Nat)^(d+c)≤2^64:=Nat.pow_le_pow_right (by omega) hm
 have h5:take B at_ d*2^c+2^c≤2^(d+c):=by
  rw [Nat.pow_add,← Nat.succ_mul];exact Nat.mul_le_mul_right _ h1
 have h6:(2:Nat)^64=18446744073709551616:=by decide
 have e1:IntKind.u64.wrap (((take B at_ d:Nat):Int)*2^c)=((take B at_ d*2^c:Nat):Int):=by
  rw [IntKind.wrap_u64]
  have:((take B at_ d*2^c:Nat):Int)=((take B at_ d:Nat):Int)*2^c:=by simp
  rw [← this];omega
 rw [e1,u64_or_nat _ _ (by omega) (by omega),nat_join c _ _ (Nat.mul_mod_left _ _) h2,take_add _ _ _ _ h]

theorem get_piece (B:List Nat) (p c k:Nat) (hB:p/8<B.length) (hx:∀ x∈B,x<256) (hc:c≤8-p%8) (hk:k=8-p%8-c):
  bits BinOp.and IntKind.u64 (((B.getD (p/8) 0:Nat):Int)/2^k) (IntKind.u64.wrap (IntKind.u64.wrap (2^c)-1))=((take B p c:Nat):Int):=by
 subst hk
 have hb:B.getD (p/8) 0<256:=hx _ (by rw [List.getD_eq_getElem?_getD,List.getElem?_eq_getElem hB];exact List.getElem_mem hB)
 have hU:U64 ((B.getD (p/8) 0:Nat):Int):=⟨by omega,by omega⟩
 rw [mask_low _ c (hU.shr _) (by omega),shr_int _ _ (by omega),Int.toNat_natCast,Int.toNat_natCast,read_step B p c hB hc]
 rfl

def GetPost (b base:Nat) (B:List Nat) (at_ n:Nat) (w:World) (e:Ending) (w':World):Prop:=
 e=.returned (.tuple #[.int .u64 (take B at_ n:Nat),.bool true])∧Rd w' base b B (at_+n)∧Gr w w' b
def GRel (b base:Nat) (B:List Nat) (at_ n:Nat) (w:World) (m:Nat) (wr:World):Prop:=m≤n∧Rd wr base b B (at_+(n-m))∧Gr w wr b

theorem row_cell {w:World} {base:Nat} {sp:Option Addr} {cap:Nat} {B:List Nat} (h:w.ownsRow base 5 1 (.slice sp B.length cap) B.length (u8s B)) {i:Nat} (hi:i<B.length):
  ∃ g,sp=some ⟨g,0,none⟩∧w.cell? ⟨g,i,none⟩=some (.int .u8 (B.getD i 0:Nat)):=by
 obtain ⟨hl,⟨he,h0⟩ | ⟨g,cap',cur,hv,_,hh,hn,_,hs,ht⟩⟩:=h
 ·omega
 ·simp at hv
  refine ⟨g,hv.1,?_⟩
  have h2:=u8s_get B i hi
  rw [← ht,List.getElem?_take_of_lt (by omega)] at h2
  simp [World.cell?,hh]
  simpa using h2

theorem grel_step {b base:Nat} {B:List Nat} {at_ n:Nat} {w:World} {m c p X:Nat} {wr:World} {y z x1:Int} {nq:Nat} (h:GRel b base B at_ n w m wr) (hp:p=at_+(n-m)) (hX:X=B.getD (p/8) 0) (hp8:p+m≤8*B.length)
  (hc0:0<c) (hcm:c≤m) (hc8:c≤8-p%8) (hn:n≤64) (hx:∀ x∈B,x<256) (hy:y=(m:Int)-(c:Int)) (hz:z=(p:Int)+(c:Int))
  (h1:x1=bits BinOp.or IntKind.u64 (IntKind.u64.wrap ((take B at_ (n-m):Nat)*2^c)) (bits BinOp.and IntKind.u64 ((X:Int)/2^(8-p%8-c)) (IntKind.u64.wrap (IntKind.u64.wrap (2^c)-1)))):
  ∃ m':Nat,m'≤n∧Value.int .i64 y=.int .i64 m'∧Value.int .u64 x1=.int .u64 (take B at_ (n-m'):Nat)∧GRel b base B at_ n w m' ((wr.drewN nq).setCell ⟨b,1,none⟩ (.int .i64 z)):=by
 obtain ⟨hmn,⟨r1,r2,r3,r4,sp,cap,hb,ho⟩,hg⟩:=h
 have e:n-(m-c)=n-m+c:=by omega
 refine ⟨m-c,by omega,by congr 1;omega,?_,by omega,⟨r1,by omega,r3,r4,sp,cap,?_,?_⟩,(hg.drewN _).setCell _ _⟩
 ·rw [e,h1,hX,get_piece B p c _ (by omega) hx hc8 rfl]
  congr 1
  exact get_join B at_ (n-m) c m _ (by omega) (by omega) (by rw [hp]) (by omega)
 ·have:=(hb.drewN nq).set 1 (.int .i64 z)
  rw [e]
  have ez:z=((at_+(n-m+c):Nat):Int):=by omega
  rw [← ez]
  exact this
 ·refine ownsRow_row (r:=some b) (w:=wr) ho ((Gr.refl wr b).drewN nq |>.setCell 1 _) fun k t cs e' hk _=>?_
  simp at e'
  subst e'
  intro ht
  subst ht
  exact hk.ne hb (by decide) rfl

theorem get_any (b base:Nat) (B:List Nat) (at_ n:Nat) (w:World) (hr:Rd w base b B at_) (hn:n≤64) (hl:at_+n≤8*B.length):
  Calls Tryz.prog 147 #[.pointer (some ⟨b,0,none⟩),.int .i64 n] w (GetPost b base B at_ n w):=by
 have h3:=hr.2.2.1
 have hl':(n:Int)≤8*(B.length:Int)-(at_:Int):=by omega
 have HR:=Lib.hid hr
 clear hr
 go_enter Tryz.func147,Tryz.ntmps147
 go_wp2_with (go_at_call 133;refine (left_any b base B at_ _ HR.out).mono ?_;rintro e w' ⟨rfl,kk,rfl⟩)
 go_loopw [1,6] (fun x y wr=>∃ m:Nat,m≤n∧x=.int .i64 m∧y=.int .u64 (take B at_ (n-m):Nat)∧GRel b base B at_ n w m wr) (fun x _ _=>(intOf x).toNat)
 case atStart=>exact ⟨n,Nat.le_refl _,rfl,by rw [Nat.sub_self,take_zero];rfl,Nat.le_refl _,by rw [Nat.sub_self];exact HR.out,(Gr.refl _ _).drewN _⟩
 case round=>
  obtain ⟨m,hm,rfl,rfl,hrel⟩:=hrel
  have HG:=Lib.hid hrel
  clear hrel
  by_cases h0:0<m
  ·obtain ⟨_,_,_,_,sp,cap,hb,ho⟩:=HG.out.2.1
   have c0:=hb.cell (o:=0) rfl
   have c1:=hb.cell (o:=1) rfl
   have hf:=hb.frozen
   obtain ⟨p,hp⟩:∃ p,p=at_+(n-m):=⟨_,rfl⟩
   rw [← hp] at c1
   have hp8:p+m≤8*B.length:=by omega
   have HP:=Lib.hid hp
   clear hp hb
   have HO:=Lib.hid ho
   clear ho
   have hp1:p/8<B.length:=by omega
   have hidx:(p:Int)/8<(B.length:Int):=by omega
   obtain ⟨g,rfl,cb⟩:=row_cell HO.out hp1
   have hb256:B.getD (p/8) 0<256:=by
    have:=HG.out.2.1.2.2.2.1
    exact this _ (by rw [List.getD_eq_getElem?_getD,List.getElem?_eq_getElem hp1];exact List.getElem_mem hp1)
   have HX:Hid (∀ x∈B,x<256):=Lib.hid HG.out.2.1.2.2.2.1
   obtain ⟨X,hX⟩:∃ X,X=B.getD (p/8) 0:=⟨_,rfl⟩
   rw [← hX] at cb hb256
   have HXX:=Lib.hid hX
   clear hX
   by_cases hd:(m:Int)<8-(p:Int)%8
   ·go_wp2
    go_quiet (fail)
    go_wp2
    go_roundw
    case rel=>refine grel_step HG.out HP.out (c:=m) HXX.out hp8 h0 (Nat.le_refl _) (by omega) hn HX.out ?_ ?_ ?_ <;> first | omega | rfl | simp
    case measure=>simp [intOf];omega
   ·go_wp2
    go_quiet (fail)
    go_wp2
    go_roundw
    case rel=>refine grel_step HG.out HP.out (c:=8-p%8) HXX.out hp8 (by omega) (by omega) (Nat.le_refl _) hn HX.out ?_ ?_ ?_ <;> first | omega | rfl | simp
    case measure=>simp [intOf];omega
  ·obtain rfl:m=0:=by omega
   go_wp2
   go_ret2
   exact ⟨rfl,by have:=HG.out.2.1;simpa using this,HG.out.2.2⟩

def str (B:List Nat):ByteArray:=⟨(B.map UInt8.ofNat).toArray⟩
def convS (v:Value):Sem Value:=convert 27 9 v
theorem conv_eq (v:Value):convert 27 9 v=convS v:=rfl
theorem str_inj {A B:List Nat} (hA:∀ x∈A,x<256) (hB:∀ x∈B,x<256) (h:str A=str B):A=B:=by
 have h1:A.map UInt8.ofNat=B.map UInt8.ofNat:=by
  have:=congrArg (fun s:ByteArray=>s.data.toList) h
  simpa [str] using this
 have h2:=congrArg (List.map UInt8.toNat) h1
 rw [List.map_map,List.map_map] at h2
 have e:∀ l:List Nat,(∀ x∈l,x<256)→l.map (UInt8.toNat ∘ UInt8.ofNat)=l:=by
  intro l hl
  refine (List.map_congr_left (g:=id) fun x hx=>?_).trans (List.map_id l)
  have:=hl x hx
  simp only [Function.comp,id]
  rw [UInt8.toNat_ofNat',Nat.mod_eq_of_lt (by simpa using this)]
 rw [e A hA,e B hB] at h2
 exact h2
theorem run_conv {w:World} {v:Value} {B:List Nat} (hv:IsBytes w v B):(convS v).run Tryz.prog w=.ok (.string (str B)) w:=by
 obtain ⟨hx,⟨rfl,rfl⟩ | ⟨a,cap,rfl,_,_,hc⟩⟩:=hv
 ·exact run_convert_bytes_nil w _ _ Tryz.underlying27 Tryz.underlying5 0 0 _ Tryz.underlying9
 ·have h:=run_convert_bytes_back (P:=Tryz.prog) w 27 9 5 a cap (B.map UInt8.ofNat) Tryz.underlying27 Tryz.underlying5 Tryz.underlying9 (by
   intro j hj
   rw [List.length_map] at hj
   rw [hc j (.int .u8 (B.getD j 0:Nat)) (u8s_get B j hj)]
   have hb:B[j]<256:=hx _ (List.getElem_mem hj)
   simp [List.getD,hj]
   omega)
  rw [List.length_map] at h
  exact h
theorem IsBytes.below {w w':World} {v:Value} {B:List Nat} (h:IsBytes w v B) (hb:Below w.heap.size w w'):IsBytes w' v B:=by
 obtain ⟨hx,h | ⟨a,cap,rfl,h1,h2,hc⟩⟩:=h
 ·exact ⟨hx,.inl h⟩
 ·refine ⟨hx,.inr ⟨a,cap,rfl,h1,h2,fun i u hu=>?_⟩⟩
  have:=hc i u hu
  rw [hb.cell (p:=a.add i) (World.block_lt_of_cell? w _ this)]
  exact this
theorem IsBytes.row {w w':World} {v:Value} {B:List Nat} (h:IsBytes w v B) {r:Option Nat} (hg:w.grownBy w' r) (hr:∀ a n c,v=.slice (some a) n c→0<B.length→some a.block≠r):IsBytes w' v B:=by
 obtain ⟨hx,h | ⟨a,cap,rfl,h1,h2,hc⟩⟩:=h
 ·exact ⟨hx,.inl h⟩
 ·refine ⟨hx,.inr ⟨a,cap,rfl,h1,h2,fun i u hu=>?_⟩⟩
  have:=hc i u hu
  have hl:i<B.length:=by have:=(List.getElem?_eq_some_iff.1 hu).1;rwa [u8s_length] at this
  have hblk:(a.add i).block=a.block:=by unfold Addr.add;split <;> rfl
  exact hg.cell this (by rw [hblk];exact hr a _ _ rfl (by omega))
end Go.Proofs.YtmjpnbadfmgimaaGreatDoor.S7

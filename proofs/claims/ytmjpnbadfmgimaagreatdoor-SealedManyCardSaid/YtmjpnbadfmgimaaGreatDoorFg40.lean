/- Texts put together: RcP, RcA, RcB, RcC, RcD, RcE, RcF, RcG, RcH, RcI, RcJ, RcK, RcQ, RcR. -/
import Derived.Test.YtmjpnbadfmgimaaGreatDoorFg2
import Derived.Test.YtmjpnbadfmgimaaGreatDoorFg3
import Derived.Test.YtmjpnbadfmgimaaGreatDoorFg4
import Derived.Test.YtmjpnbadfmgimaaGreatDoorFg5
import Derived.Laws.ResultCell
import Derived.Shelf.SlicesQ.Load
import Derived.Laws.CopyRow
import Derived.Deep.QuietTactic
set_option linter.unusedSimpArgs false
set_option linter.unusedVariables false
set_option maxRecDepth 100000
set_option maxHeartbeats 32000000
namespace Go.Proofs.YtmjpnbadfmgimaaGreatDoor.S14
open Go.RowKit S2.Pl S3.Pl
structure RT where
 kind:Int
 seq:Int
 key:ByteArray
 val:ByteArray
def zR:RT:=⟨0,0,⟨#[]⟩,⟨#[]⟩⟩
def formR (r:RT):Bool:=decide (1≤r.seq)&&decide (r.seq≤1125899906842624)&&(decide (r.kind=1)||(decide (r.kind=0)&&decide (r.val.size=0)))
def chk (r:RT):Nat:=if r.key.size=0 then 1 else if 100<r.key.size∨4000<r.val.size then 2 else if formR r then 0 else 10
theorem chk_1 {r:RT} (h:r.key.size=0):chk r=1:=by unfold chk;rw [if_pos h]
theorem chk_2 {r:RT} (h:r.key.size≠0) (h2:100<r.key.size∨4000<r.val.size):chk r=2:=by unfold chk;rw [if_neg h,if_pos h2]
theorem chk_3 {r:RT} (h:r.key.size≠0) (h2:r.key.size≤100) (h3:r.val.size≤4000):chk r=if formR r then 0 else 10:=by unfold chk;rw [if_neg h,if_neg (by omega)]
theorem chk_ok {r:RT} (h:chk r=0):0<r.key.size∧r.key.size≤100∧r.val.size≤4000∧formR r=true:=by
 unfold chk at h
 split at h
 ·cases h
 ·split at h
  ·cases h
  ·split at h
   ·exact ⟨by omega,by omega,by omega,by assumption⟩
   ·cases h
theorem form_ok {r:RT} (h:formR r=true):1≤r.seq∧r.seq≤1125899906842624∧(r.kind=1∨r.kind=0∧r.val.size=0):=by
 unfold formR at h
 simp only [Bool.and_eq_true,Bool.or_eq_true,decide_eq_true_eq] at h
 exact ⟨h.1.1,h.1.2,h.2⟩
def bodyK (r:RT):List Nat:=[r.kind.toNat]++vput r.seq.toNat++vtext (strB r.key)
def body (r:RT):List Nat:=if r.kind=1 then bodyK r++vtext (strB r.val) else bodyK r
def enc (r:RT):List Nat:=if chk r=0 then pseal (body r) else []
theorem vtext_lt {S:List Nat} (h:∀ x∈S,x<256):∀ x∈vtext S,x<256:=by
 intro x hx
 unfold vtext at hx
 rw [List.mem_append] at hx
 exact hx.elim (vput_lt _ x) (h x)
theorem bodyK_lt {r:RT} (h:r.kind.toNat<256):∀ x∈bodyK r,x<256:=by
 intro x hx
 unfold bodyK at hx
 simp only [List.mem_append,List.mem_singleton] at hx
 rcases hx with (rfl | hx) | hx
 ·exact h
 ·exact vput_lt _ x hx
 ·exact vtext_lt (strB_lt _) x hx
theorem body_lt {r:RT} (h:r.kind.toNat<256):∀ x∈body r,x<256:=by
 unfold body
 split
 ·intro x hx
  rw [List.mem_append] at hx
  exact hx.elim (bodyK_lt h x) (vtext_lt (strB_lt _) x)
 ·exact bodyK_lt h
theorem kind_lt {r:RT} (h:formR r=true):r.kind.toNat<256:=by
 obtain ⟨_,_,h | h⟩:=form_ok h <;> omega
theorem vput_short {n:Nat} (h:n<18446744073709551616):(vput n).length≤10:=(vput_len64 n h).1
theorem vtext_length (S:List Nat) (h:S.length<18446744073709551616):(vtext S).length≤S.length+10:=by
 unfold vtext
 have:=vput_short h
 rw [List.length_append];omega
theorem bodyK_len {r:RT} (h:chk r=0):(bodyK r).length≤121∧0<(bodyK r).length:=by
 obtain ⟨_,h1,_,h3⟩:=chk_ok h
 obtain ⟨h4,h5,_⟩:=form_ok h3
 have a:=vput_short (n:=r.seq.toNat) (by omega)
 have b:=vtext_length (strB r.key) (by rw [strB_length];omega)
 rw [strB_length] at b
 unfold bodyK
 simp only [List.length_append,List.length_singleton]
 omega
theorem body_len {r:RT} (h:chk r=0):(body r).length≤4131∧0<(body r).length:=by
 obtain ⟨_,_,h2,_⟩:=chk_ok h
 have a:=bodyK_len h
 have b:=vtext_length (strB r.val) (by rw [strB_length];omega)
 rw [strB_length] at b
 unfold body
 split
 ·rw [List.length_append];omega
 ·omega

def B1 (B:List Nat):List Nat:=B.drop 1
def B2 (B:List Nat):List Nat:=(B1 B).drop (vget (B1 B)).2
def B3 (B:List Nat):List Nat:=(B2 B).drop (vgetText (B2 B)).2
def B4 (B:List Nat):List Nat:=(B3 B).drop (vgetText (B3 B)).2
def sq (n:Nat):Int:=IntKind.i64.wrap n
def rec0 (B:List Nat):RT:=⟨B.getD 0 0,sq (vget (B1 B)).1,str (vgetText (B2 B)).1,⟨#[]⟩⟩
def rec1 (B:List Nat):RT:=⟨B.getD 0 0,sq (vget (B1 B)).1,str (vgetText (B2 B)).1,str (vgetText (B3 B)).1⟩
def oneV (B:List Nat):RT×Bool:=
 if B.length=0 then (zR,false) else if (vget (B1 B)).2=0 then (zR,false) else if (vgetText (B2 B)).2=0 then (zR,false)
 else if B.getD 0 0=1 then (if (vgetText (B3 B)).2=0 then (zR,false) else if (B4 B).length=0∧chk (rec1 B)=0 then (rec1 B,true) else (zR,false))
 else if (B3 B).length=0∧chk (rec0 B)=0 then (rec0 B,true) else (zR,false)
theorem sq_small {n:Nat} (h:n≤1125899906842624):sq n=n:=by
 unfold sq IntKind.wrap
 simp [IntKind.signed,IntKind.bits]
 omega
def scanL:List (List Nat)→List RT×Nat×Bool
 | []=>([],0,true)
 | T::L=>if (oneV T).2=true then ((oneV T).1::(scanL L).1,12+T.length+(scanL L).2.1,(scanL L).2.2) else ([],0,false)
def RTo (L:List (List Nat)) (i n:Nat) (F:List RT):Prop:=scanL L=(F++(scanL (L.drop i)).1,n+(scanL (L.drop i)).2.1,(scanL (L.drop i)).2.2)
theorem RTo.start (L:List (List Nat)):RTo L 0 0 []:=by unfold RTo;simp
theorem RTo.step {L:List (List Nat)} {i n:Nat} {F:List RT} (h:RTo L i n F) (hi:i<L.length) (ho:(oneV (L.getD i [])).2=true):RTo L (i+1) (n+(12+(L.getD i []).length)) (F++[(oneV (L.getD i [])).1]):=by
 unfold RTo at h ⊢
 have e:L.drop i=L.getD i []::L.drop (i+1):=by rw [List.drop_eq_getElem_cons hi];simp [List.getD,hi]
 rw [e,scanL,if_pos ho] at h
 rw [h]
 simp [Nat.add_assoc]
theorem RTo.bad {L:List (List Nat)} {i n:Nat} {F:List RT} (h:RTo L i n F) (hi:i<L.length) (ho:(oneV (L.getD i [])).2=false):scanL L=(F,n,false):=by
 unfold RTo at h
 have e:L.drop i=L.getD i []::L.drop (i+1):=by rw [List.drop_eq_getElem_cons hi];simp [List.getD,hi]
 rw [e,scanL,if_neg (by rw [ho];simp)] at h
 simpa using h
theorem RTo.done {L:List (List Nat)} {n:Nat} {F:List RT} (h:RTo L L.length n F):scanL L=(F,n,true):=by
 unfold RTo at h
 rw [List.drop_length] at h
 simpa [scanL] using h
def tot:List (List Nat)→Nat
 | []=>0
 | T::L=>12+T.length+tot L
theorem tot_scan (L:List (List Nat)):(scanL L).2.1≤tot L:=by
 induction L with
 | nil=>exact Nat.le_refl _
 | cons T L ih=>
   unfold scanL tot
   split
   ·show 12+T.length+_≤_
    omega
   ·exact Nat.zero_le _
theorem RTo.le {L:List (List Nat)} {i n:Nat} {F:List RT} (h:RTo L i n F):n≤tot L:=by
 have:=tot_scan L
 unfold RTo at h
 rw [h] at this
 have h2:n+(scanL (L.drop i)).2.1≤tot L:=this
 omega
def encs:List RT→List Nat
 | []=>[]
 | r::l=>pseal (body r)++encs l
end Go.Proofs.YtmjpnbadfmgimaaGreatDoor.S14
namespace Go.Proofs.YtmjpnbadfmgimaaGreatDoor.S14
open Go.RowKit
def recL (r:RT):List Value:=[.int .i64 r.kind,.int .i64 r.seq,.string r.key,.string r.val]
theorem recL_length (r:RT):(recL r).length=4:=rfl
theorem recL_one (r:RT):∀ u∈recL r,u.oneCell'=true:=by
 intro u hu
 simp [recL] at hu
 rcases hu with rfl | rfl | rfl | rfl <;> rfl
structure RIn (r:RT):Prop where
 kind:(Lit.int .i64 r.kind).wf=true
 seq:(Lit.int .i64 r.seq).wf=true
 key:r.key.size≤maxLen
 val:r.val.size≤maxLen
theorem addr_at (g o j:Nat):(⟨g,o,none⟩:Addr).add j=⟨g,o+j,none⟩:=by unfold Addr.add;split <;> simp_all
def loadR (v:Value):Sem Value:=Instr.loadAt 26 v
theorem loadR_eq (v:Value):Instr.loadAt 26 v=loadR v:=rfl
theorem run_loadR {w:World} {g o:Nat} {cs:List Value} (hl:cs.length=4) (h:∀ j u,cs[j]? = some u→w.cell? ⟨g,o+j,none⟩=some u):
  (loadR (.pointer (some ⟨g,o,none⟩))).run Tryz.prog w=.ok (.agg cs.toArray) w:=by
 simp only [loadR,Instr.loadAt,Instr.sureAddr,loadVar,loadCells,Sem.run_bind,Sem.run_pure,Result.andThen_ok,Tryz.isAgg26,Tryz.sizeOf26,if_true]
 have:=run_loadCellsFrom_list Tryz.prog w ⟨g,o,none⟩ cs 4 hl (fun j v hj=>by
  rw [addr_at]
  exact h j v hj)
 rw [this]
 rfl
theorem run_loadR_blk {w:World} {g:Nat} {t:TypeId} {r:RT} (h:Blk w g t (recL r)):(loadR (.pointer (some ⟨g,0,none⟩))).run Tryz.prog w=.ok (.agg #[.int .i64 r.kind,.int .i64 r.seq,.string r.key,.string r.val]) w:=
 run_loadR (cs:=recL r) rfl fun j u hj=>by rw [Nat.zero_add];exact h.cell hj
def storeR (p v:Value):Sem Unit:=Instr.storeAt 26 p v
theorem storeR_eq (p v:Value):Instr.storeAt 26 p v=storeR p v:=rfl
theorem run_storeR {w:World} {g:Nat} {t:TypeId} {cs ds:List Value} (h:Blk w g t cs) (ho:cs.length=4) (hd:ds.length=4) (h1:∀ u∈ds,u.oneCell'=true):
  (storeR (.pointer (some ⟨g,0,none⟩)) (.agg ds.toArray)).run Tryz.prog w=.ok () (w.setRow g ds.toArray):=by
 simp only [storeR,Instr.storeAt,Instr.sureAddr,storeVar,Sem.run_bind,Sem.run_pure,Result.andThen_ok,Tryz.sizeOf26]
 rw [if_neg (by simp [Value.cells,hd])]
 have:=run_storeCells_at (P:=Tryz.prog) g 0 t ds 0 cs.toArray w h (by simp [ho,hd]) h1
 have e:cs.drop 4=[]:=List.drop_of_length_le (by omega)
 simpa [Value.cells,e,hd] using this
theorem infoRec:(Tryz.prog.info? 26).map (fun i=>(i.zero,i.size,i.bytes))=some (some (.agg (recL zR).toArray),4,48):=by kernel_rfl
theorem empty_eq (s:ByteArray):s.toList.isEmpty=decide (s.size=0):=by
 rw [ByteArray.toList_eq]
 rcases s with ⟨⟨l⟩⟩
 cases l with
 | nil=>rfl
 | cons a t=>simp [ByteArray.size]
attribute [local go_sem ↓] loadR_eq
theorem hasForm_any (r:RT) (w:World) (hr:r.val.size≤maxLen):Calls Tryz.prog 37 #[.agg #[.int .i64 r.kind,.int .i64 r.seq,.string r.key,.string r.val]] w fun e w'=>e=.returned (.bool (formR r))∧Below w.heap.size w w':=by
 obtain ⟨k,s,key,val⟩:=r
 by_cases h1:s<1
 ·have hf:formR ⟨k,s,key,val⟩=false:=by unfold formR;simp;omega
  rw [hf]
  clear hf
  go_enter Tryz.func37,Tryz.ntmps37
  go_wp2
  go_ret
  exact ⟨rfl,(Below.refl _ _).alloc (Nat.le_refl _) _⟩
 ·by_cases h2:1125899906842624<s
  ·have hf:formR ⟨k,s,key,val⟩=false:=by unfold formR;simp;omega
   rw [hf]
   clear hf
   go_enter Tryz.func37,Tryz.ntmps37
   go_wp2
   go_ret
   exact ⟨rfl,(Below.refl _ _).alloc (Nat.le_refl _) _⟩
  ·by_cases h3:k=1
   ·have hf:formR ⟨k,s,key,val⟩=true:=by unfold formR;simp;omega
    rw [hf]
    clear hf
    subst h3
    go_enter Tryz.func37,Tryz.ntmps37
    go_wp2
    go_ret
    exact ⟨rfl,(Below.refl _ _).alloc (Nat.le_refl _) _⟩
   ·have q3:(k==1)=false:=beq_f h3
    by_cases h4:k=0
    ·subst h4
     go_enter Tryz.func37,Tryz.ntmps37
     go_wp2
     go_ret
     refine ⟨?_,(Below.refl _ _).alloc (Nat.le_refl _) _⟩
     show Ending.returned (.bool val.toList.isEmpty)=_
     rw [empty_eq]
     unfold formR
     simp [h1,h2]
    ·have q4:(k==0)=false:=beq_f h4
     have hf:formR ⟨k,s,key,val⟩=false:=by unfold formR;simp [h3,h4]
     rw [hf]
     clear hf
     go_enter Tryz.func37,Tryz.ntmps37
     go_wp2
     go_ret
     exact ⟨rfl,(Below.refl _ _).alloc (Nat.le_refl _) _⟩
theorem agg_zero (w:World) (r:RT):Below w.heap.size w (w.alloc (.cells #[.int .i64 r.kind,.int .i64 r.seq,.string r.key,.string r.val] 26)):=(Below.refl _ _).alloc (Nat.le_refl _) _
theorem check_any (r:RT) (w:World) (hk:r.key.size≤maxLen) (hr:r.val.size≤maxLen):Calls Tryz.prog 25 #[.agg #[.int .i64 r.kind,.int .i64 r.seq,.string r.key,.string r.val]] w fun e w'=>e=.returned (.int .i64 (chk r:Nat))∧Below w.heap.size w w':=by
 have hb1:=agg_zero w r
 have hk1:=Blk.new w 26 (recL r)
 obtain ⟨w1,hw1⟩:∃ w1,w.alloc (.cells #[.int .i64 r.kind,.int .i64 r.seq,.string r.key,.string r.val] 26)=w1:=⟨_,rfl⟩
 rw [hw1] at hb1
 have hk1':Blk w1 w.heap.size 26 (recL r):=by rw [← hw1];exact hk1
 have c2:w1.cell? ⟨w.heap.size,2,none⟩=some (.string r.key):=hk1'.cell rfl
 have c3:w1.cell? ⟨w.heap.size,3,none⟩=some (.string r.val):=hk1'.cell rfl
 have hld:=run_loadR_blk hk1'
 have HB:=Lib.hid hb1
 clear hb1 hk1 hk1'
 unfold maxLen at hk hr
 have e1:=empty_eq r.key
 by_cases h1:r.key.size=0
 ·have q1:r.key.toList.isEmpty=true:=by rw [e1];simp [h1]
  rw [chk_1 h1]
  clear e1 h1 hk hr hld
  go_enter Tryz.func25,Tryz.ntmps25
  go_wp2
  go_ret
  exact ⟨rfl,HB.out⟩
 ·have q1:r.key.toList.isEmpty=false:=by rw [e1];simp [h1]
  by_cases h2:100<r.key.size
  ·have HC:=Lib.hid (chk_2 h1 (.inl h2))
   clear e1 hld
   go_enter Tryz.func25,Tryz.ntmps25
   go_wp2
   go_ret
   exact ⟨by rw [HC.out];rfl,HB.out⟩
  ·by_cases h3:4000<r.val.size
   ·have HC:=Lib.hid (chk_2 h1 (.inr h3))
    clear e1 hld
    go_enter Tryz.func25,Tryz.ntmps25
    go_wp2
    go_ret
    exact ⟨by rw [HC.out];rfl,HB.out⟩
   ·have HC:=Lib.hid (chk_3 h1 (by omega) (by omega))
    have hf:=hasForm_any r w1 (by unfold maxLen;omega)
    clear e1
    go_enter Tryz.func25,Tryz.ntmps25
    go_wp2_with fail
    refine hf.mono ?_
    rintro e w2 ⟨rfl,hb2⟩
    have HB2:=Lib.hid (HB.out.trans (hb2.mono HB.out.size))
    clear hb2 hf
    obtain ⟨b,hb⟩:∃ b,formR r=b:=⟨_,rfl⟩
    rw [hb] at HC ⊢
    cases b with
    | true=>
      go_wp2
      go_ret
      exact ⟨by rw [HC.out];rfl,HB2.out⟩
    | false=>
      go_wp2
      go_ret
      exact ⟨by rw [HC.out];rfl,HB2.out⟩
end Go.Proofs.YtmjpnbadfmgimaaGreatDoor.S14
namespace Go.Proofs.YtmjpnbadfmgimaaGreatDoor.S14
open Go.RowKit
attribute [local go_sem ↓] loadR_eq
theorem form_no {r:RT} (h:¬ (r.kind=1∨r.kind=0∧r.val.size=0)∨r.seq<1∨1125899906842624<r.seq):formR r=false:=by
 cases hf:formR r with
 | false=>rfl
 | true=>
   obtain ⟨a,b,c⟩:=form_ok hf
   rcases h with h | h | h
   ·exact absurd c h
   ·omega
   ·omega
theorem form_yes {r:RT} (h:r.kind=1∨r.kind=0∧r.val.size=0) (h1:1≤r.seq) (h2:r.seq≤1125899906842624):formR r=true:=by
 unfold formR
 simp only [Bool.and_eq_true,Bool.or_eq_true,decide_eq_true_eq]
 exact ⟨⟨h1,h2⟩,h⟩
theorem refCheck_any (r:RT) (w:World) (hk:r.key.size≤maxLen) (hr:r.val.size≤maxLen):Calls Tryz.prog 22 #[.agg #[.int .i64 r.kind,.int .i64 r.seq,.string r.key,.string r.val]] w fun e w'=>e=.returned (.int .i64 (chk r:Nat))∧Below w.heap.size w w':=by
 obtain ⟨k,s,key,val⟩:=r
 have HB:=Lib.hid (agg_zero w ⟨k,s,key,val⟩)
 simp only at hk hr HB ⊢
 unfold maxLen at hk hr
 have e1:=empty_eq key
 have e2:=empty_eq val
 by_cases h1:key.size=0
 ·have q1:key.toList.isEmpty=true:=by rw [e1];simp [h1]
  rw [chk_1 h1]
  clear e1 e2 h1 hk hr
  go_enter Tryz.func22,Tryz.ntmps22
  go_wp2
  go_ret
  exact ⟨rfl,HB.out⟩
 have q1:key.toList.isEmpty=false:=by rw [e1];simp [h1]
 by_cases h2:100<key.size
 ·have HC:=Lib.hid (chk_2 (r:=⟨k,s,key,val⟩) h1 (.inl h2))
  clear e1 e2
  go_enter Tryz.func22,Tryz.ntmps22
  go_wp2
  go_ret
  exact ⟨by rw [HC.out];rfl,HB.out⟩
 by_cases h3:4000<val.size
 ·have HC:=Lib.hid (chk_2 (r:=⟨k,s,key,val⟩) h1 (.inr h3))
  clear e1 e2
  go_enter Tryz.func22,Tryz.ntmps22
  go_wp2
  go_ret
  exact ⟨by rw [HC.out];rfl,HB.out⟩
 have hc:=chk_3 (r:=⟨k,s,key,val⟩) h1 (by simp only;omega) (by simp only;omega)
 clear e1
 by_cases h4:k=1
 ·subst h4
  by_cases h6:s<1
  ·rw [form_no (.inr (.inl h6))] at hc
   have HC:=Lib.hid hc
   clear hc e2
   go_enter Tryz.func22,Tryz.ntmps22
   go_wp2
   go_ret
   exact ⟨by rw [HC.out];rfl,HB.out⟩
  by_cases h7:1125899906842624<s
  ·rw [form_no (.inr (.inr h7))] at hc
   have HC:=Lib.hid hc
   clear hc e2
   go_enter Tryz.func22,Tryz.ntmps22
   go_wp2
   go_ret
   exact ⟨by rw [HC.out];rfl,HB.out⟩
  rw [form_yes (.inl rfl) (by simp only;omega) (by simp only;omega)] at hc
  have HC:=Lib.hid hc
  clear hc e2
  go_enter Tryz.func22,Tryz.ntmps22
  go_wp2
  go_ret
  exact ⟨by rw [HC.out];rfl,HB.out⟩
 have q4:(k==1)=false:=beq_f h4
 have q5:(k != 1)=true:=bne_t h4
 by_cases h5:k=0
 ·subst h5
  by_cases h8:val.size=0
  ·have q8:val.toList.isEmpty=true:=by rw [e2];simp [h8]
   by_cases h6:s<1
   ·rw [form_no (.inr (.inl h6))] at hc
    have HC:=Lib.hid hc
    clear hc e2
    go_enter Tryz.func22,Tryz.ntmps22
    go_wp2
    go_ret
    exact ⟨by rw [HC.out];rfl,HB.out⟩
   by_cases h7:1125899906842624<s
   ·rw [form_no (.inr (.inr h7))] at hc
    have HC:=Lib.hid hc
    clear hc e2
    go_enter Tryz.func22,Tryz.ntmps22
    go_wp2
    go_ret
    exact ⟨by rw [HC.out];rfl,HB.out⟩
   rw [form_yes (.inr ⟨rfl,h8⟩) (by simp only;omega) (by simp only;omega)] at hc
   have HC:=Lib.hid hc
   clear hc e2
   go_enter Tryz.func22,Tryz.ntmps22
   go_wp2
   go_ret
   exact ⟨by rw [HC.out];rfl,HB.out⟩
  ·have q8:val.toList.isEmpty=false:=by rw [e2];simp [h8]
   rw [form_no (.inl fun h=>h.elim (fun h=>h4 h) fun h=>h8 h.2)] at hc
   have HC:=Lib.hid hc
   clear hc e2
   go_enter Tryz.func22,Tryz.ntmps22
   go_wp2
   go_ret
   exact ⟨by rw [HC.out];rfl,HB.out⟩
 have q6:(k==0)=false:=beq_f h5
 have q7:(k != 0)=true:=bne_t h5
 rw [form_no (.inl fun h=>h.elim (fun h=>h4 h) fun h=>h5 h.1)] at hc
 have HC:=Lib.hid hc
 clear hc e2
 go_enter Tryz.func22,Tryz.ntmps22
 go_wp2
 go_ret
 exact ⟨by rw [HC.out];rfl,HB.out⟩
end Go.Proofs.YtmjpnbadfmgimaaGreatDoor.S14
namespace Go.Proofs.YtmjpnbadfmgimaaGreatDoor.S14
open Go.RowKit S2.Pl S3.Pl S3
attribute [local go_sem ↓] loadR_eq
theorem wp_append_bytes1 {w:World} {o:Oper} {a:Act} {K:Act→World→Prop} {Q:Exit→Act→World→Prop} (s x:Operand)
  (ho:o.op=.call { callee:=.builtin .append,args:=#[s,x],argTypes:=#[27,27] })
  (base:Nat) (v:Value) (n:Nat) (xs:List Value) (hs:a.eval s=v) (hown:w.ownsRow base 5 1 v n xs)
  (src:Value) (B:List Nat) (hx:a.eval x=src) (hsrc:IsBytes w src B) (h0:0<B.length)
  (hbytes:n+B.length≤140737488355328) (hbase:base≤w.heap.size)
  (h:∀ v' w',w'.ownsRow base 5 1 v' (n+B.length) (xs++u8s B)→w.grownBy w' v.ownBlock→K (a.put o.dst v') w'):o.wp Tryz.prog a w K Q:=by
 obtain ⟨i0,hi,hz0,hz1,hz2⟩:=info_parts info5
 obtain ⟨_,⟨rfl,rfl⟩ | ⟨ad,cap,rfl,h1,h2,hc⟩⟩:=hsrc
 ·simp at h0
 ·exact wp_append_own _ s x _ ho base 5 i0 (.int .u8 0) 1 1 Tryz.underlying27 hi hz0 hz1 hz2 rfl (by decide) v n xs hs hown ad B.length cap (u8s B) hx (by rw [u8s_length,Nat.mul_one]) hc (u8s_one B) (by unfold maxLen;omega) (by omega) hbase fun v' w' h3 h4 _=>h v' w' h3 h4
def EncPost (r:RT) (w:World) (e:Ending) (w':World):Prop:=
 ∃ sp cap,e=.returned (.tuple #[.slice sp (enc r).length cap,.int .i64 (chk r:Nat)])∧Hid (w'.ownsRow w.heap.size 5 1 (.slice sp (enc r).length cap) (enc r).length (u8s (enc r)))∧Hid (Below w.heap.size w w')
def Sofar (w0 W:World) (v:Value) (B:List Nat):Prop:=W.ownsRow w0.heap.size 5 1 v B.length (u8s B)∧Below w0.heap.size w0 W
theorem Sofar.below {w0 W W':World} {v:Value} {B:List Nat} (h:Sofar w0 W v B) (hb:Below W.heap.size W W'):Sofar w0 W' v B:=⟨own_below h.1 hb,h.2.trans (hb.mono h.2.size)⟩
theorem Sofar.app {w0 W W':World} {v v':Value} {B C:List Nat} (h:Sofar w0 W v B) (ho:W'.ownsRow w0.heap.size 5 1 v' (B.length+C.length) (u8s B++u8s C)) (hg:W.grownBy W' v.ownBlock):Sofar w0 W' v' (B++C):=
 ⟨by rw [List.length_append,u8s_append];exact ho,h.2.grown hg h.2.size (own_lt h.1)⟩
theorem Sofar.is {w0 W:World} {sp:Option Addr} {n cap:Nat} {B:List Nat} (h:Sofar w0 W (.slice sp n cap) B) (hx:∀ x∈B,x<256):IsBytes W (.slice sp n cap) B:=by
 obtain ⟨_,_,he,_⟩:=ownsRow_slice h.1
 simp at he
 obtain ⟨rfl,rfl,rfl⟩:=he
 exact isBytes_own hx h.1
theorem Sofar.open {w0 W:World} {v:Value} {B:List Nat} (h:Sofar w0 W v B):∃ sp N cap,v=.slice sp N cap∧Hid (N=B.length):=by
 obtain ⟨sp,cap,he,_⟩:=ownsRow_slice h.1
 exact ⟨sp,B.length,cap,he,Lib.hid rfl⟩
theorem sofar_one (w0:World) (k:Nat):Sofar w0 (w0.alloc (.cells #[.int .u8 k] 5)) (.slice (some ⟨w0.heap.size,0,none⟩) 1 1) [k]:=
 ⟨own_new w0 (u8s [k]) 5 (Nat.le_refl _) (by simp [u8s,maxLen]),(Below.refl _ _).alloc (Nat.le_refl _) _⟩
theorem enc_bad {r:RT} (h:chk r≠0):enc r=[]:=by unfold enc;rw [if_neg h]
theorem enc_good {r:RT} (h:chk r=0):enc r=pseal (body r):=by unfold enc;rw [if_pos h]
end Go.Proofs.YtmjpnbadfmgimaaGreatDoor.S14
namespace Go.Proofs.YtmjpnbadfmgimaaGreatDoor.S14
open Go.RowKit S2.Pl S3.Pl S3
attribute [local go_sem ↓] loadR_eq
theorem sofar_at {w0 W:World} {k:Nat} (h:From w0 W):Sofar w0 (W.alloc (.cells #[.int .u8 k] 5)) (.slice (some ⟨W.heap.size,0,none⟩) 1 1) [k]:=
 ⟨own_new W (u8s [k]) 5 h.size (by simp [u8s,maxLen]),(Below.alloc h h.size _)⟩
theorem refEncode_any (r:RT) (w:World) (hk:r.key.size≤maxLen) (hr:r.val.size≤maxLen):Calls Tryz.prog 33 #[.agg #[.int .i64 r.kind,.int .i64 r.seq,.string r.key,.string r.val]] w (MadePost (enc r) w):=by
 have hb1:=agg_zero w r
 have hk1:=Blk.new w 26 (recL r)
 obtain ⟨w1,hw1⟩:∃ w1,w.alloc (.cells #[.int .i64 r.kind,.int .i64 r.seq,.string r.key,.string r.val] 26)=w1:=⟨_,rfl⟩
 rw [hw1] at hb1
 have hk1':Blk w1 w.heap.size 26 (recL r):=by rw [← hw1];exact hk1
 have hld:=run_loadR_blk hk1'
 have hch:=refCheck_any r w1 hk hr
 have HK1:=Lib.hid hk1'
 have HB1:=Lib.hid hb1
 clear hb1 hk1 hk1'
 unfold maxLen at hk hr
 go_enter Tryz.func33,Tryz.ntmps33
 go_wp2_with fail
 refine hch.mono ?_
 rintro e w2 ⟨rfl,hb2⟩
 have hk2:=HK1.out.below hb2 HK1.out.lt
 have HK2:=Lib.hid hk2
 have HB2:=Lib.hid (HB1.out.trans (hb2.mono HB1.out.size))
 clear hk2 hb2 hch HK1 HB1 hld hw1
 by_cases h0:chk r=0
 rotate_left
 ·have q0:(((chk r:Nat):Int) != 0)=true:=bne_t (by omega)
  go_wp2
  go_ret
  exact ⟨_,rfl,by rw [enc_bad h0];exact own_nil _ _,HB2.out⟩
 obtain ⟨k1,k2,k3,k4⟩:=chk_ok h0
 obtain ⟨s1,s2,hkd⟩:=form_ok k4
 have HE:=Lib.hid (enc_good h0)
 have HC:=Lib.hid h0
 have HF:=Lib.hid k4
 rw [h0]
 clear h0 k4
 obtain ⟨k,s,key,val⟩:=r
 simp only at k1 k2 k3 s1 s2 hkd hk hr HK2 ⊢
 obtain ⟨n,rfl⟩:∃ n:Nat,s=(n:Int):=⟨s.toNat,by omega⟩
 have c0:w2.cell? ⟨w.heap.size,0,none⟩=some (.int .i64 k):=HK2.out.cell rfl
 have c1:w2.cell? ⟨w.heap.size,1,none⟩=some (.int .i64 n):=HK2.out.cell rfl
 have hgl:=HK2.out.lt
 have hU:U64 (n:Int):=⟨by omega,by omega⟩
 have HU:=Lib.hid hU
 clear hU
 rcases hkd with rfl | ⟨rfl,hv0⟩
 ·have d0:∀ W,From w2 W→W.cell? ⟨w.heap.size,0,none⟩=some (.int .i64 1):=fun W h=>(Below.cell (p:=⟨w.heap.size,0,none⟩) h hgl).trans c0
  have d1:∀ W,From w2 W→W.cell? ⟨w.heap.size,1,none⟩=some (.int .i64 n):=fun W h=>(Below.cell (p:=⟨w.heap.size,1,none⟩) h hgl).trans c1
  have hn3:=vput_short (n:=n) (by omega)
  go_wp2_with fail
  have hwn:IntKind.u64.wrap (n:Int)=n:=by rw [IntKind.wrap_u64];omega
  have hw8:IntKind.u8.wrap 1=1:=rfl
  refine wp_region_noPanic ?_
  have hHeld:From w2 w2.drew:=(Below.refl _ _).drew
  refine wpAnyH_start (n:=10) (l:=#[false,false,false,false,false,false,false,false,false,false]) (S:=From w2) (by kernel_rfl) (hHeld) (by kernel_rfl) (by kernel_rfl) ?_
  refine wpAnyH_take (i:=0) (oi:=_) (v:=?_) rfl (by kernel_rfl) (by kernel_rfl) (by kernel_rfl) (fun _ _ _ h=>h) (Or.inl ⟨by rfl,?_⟩) (by assumption) ?_
  rotate_left
  ·intro wq hSw;go_simp;try with_reducible rfl
  simp only [Act.put,List.setIfInBounds_toArray,List.set_cons_zero,List.set_cons_succ,List.getElem_toArray,List.getElem_cons_zero,List.getElem_cons_succ]
  refine wpAnyH_take (i:=1) (oi:=_) (v:=?_) rfl (by kernel_rfl) (by kernel_rfl) (by kernel_rfl) (fun _ _ _ h=>h) (Or.inl ⟨by rfl,?_⟩) (by assumption) ?_
  rotate_left
  ·intro wq hSw;go_simp;try with_reducible rfl
  simp only [Act.put,List.setIfInBounds_toArray,List.set_cons_zero,List.set_cons_succ,List.getElem_toArray,List.getElem_cons_zero,List.getElem_cons_succ]
  refine wpAnyH_take (i:=2) (oi:=_) (v:=?_) rfl (by kernel_rfl) (by kernel_rfl) (by kernel_rfl) (fun _ _ _ h=>h) (Or.inl ⟨by rfl,?_⟩) (by assumption) ?_
  rotate_left
  ·intro wq hSw;go_simp;try with_reducible rfl
  simp only [Act.put,List.setIfInBounds_toArray,List.set_cons_zero,List.set_cons_succ,List.getElem_toArray,List.getElem_cons_zero,List.getElem_cons_succ]
  refine wpAnyH_take (i:=4) (oi:=_) (v:=?_) rfl (by kernel_rfl) (by kernel_rfl) (by kernel_rfl) (fun _ _ _ h=>h) (Or.inl ⟨by rfl,?_⟩) (by assumption) ?_
  rotate_left
  ·intro wq hSw;go_simp;try with_reducible rfl
  simp only [Act.put,List.setIfInBounds_toArray,List.set_cons_zero,List.set_cons_succ,List.getElem_toArray,List.getElem_cons_zero,List.getElem_cons_succ]
  refine wpAnyH_take (i:=5) (oi:=_) (v:=?_) rfl (by kernel_rfl) (by kernel_rfl) (by kernel_rfl) (fun _ _ _ h=>h) (Or.inl ⟨by rfl,?_⟩) (by assumption) ?_
  rotate_left
  ·intro wq hSw;go_simp;try with_reducible rfl
  simp only [Act.put,List.setIfInBounds_toArray,List.set_cons_zero,List.set_cons_succ,List.getElem_toArray,List.getElem_cons_zero,List.getElem_cons_succ]
  refine wpAnyH_take (i:=6) (oi:=_) (v:=?_) rfl (by kernel_rfl) (by kernel_rfl) (by kernel_rfl) (fun _ _ _ h=>h) (Or.inl ⟨by rfl,?_⟩) (by assumption) ?_
  rotate_left
  ·intro wq hSw;go_simp;try with_reducible rfl
  simp only [Act.put,List.setIfInBounds_toArray,List.set_cons_zero,List.set_cons_succ,List.getElem_toArray,List.getElem_cons_zero,List.getElem_cons_succ]
  clear d0 d1 c0 c1
  refine wpAnyH_ready (rs:=[3,7]) (by kernel_rfl) (by simp) ?_
  refine AllReadyH.cons (o:=_) rfl (fun K hK=>?_) (AllReadyH.cons (o:=_) rfl (fun K hK=>?_) AllReadyH.nil)
  all_goals simp only [List.getElem_toArray,List.getElem_cons_zero,List.getElem_cons_succ]
  all_goals go_simp
  have hS3:Sofar w2 (w2.alloc (.cells #[.int .u8 1] 5)).drew _ _:=(sofar_one w2 1).below (Below.refl _ _).drew
  obtain ⟨w3,hw3⟩:∃ w3,(w2.alloc (.cells #[.int .u8 1] 5)).drew=w3:=⟨_,rfl⟩
  rw [hw3]
  have hS3':Sofar w2 w3 (.slice (some ⟨w2.heap.size,0,none⟩) 1 1) [1]:=by rw [← hw3];exact hS3
  have HS3:=Lib.hid hS3'
  clear hS3 hS3' hw3
  refine hK.out _ _ (HS3.out.2) (fun _=>?_)
  clear hK K hHeld
  have hHeld:=HS3.out.2
  simp only [Act.put,List.setIfInBounds_toArray,List.set_cons_zero,List.set_cons_succ,List.getElem_toArray,List.getElem_cons_zero,List.getElem_cons_succ]
  refine wpAnyH_ready (rs:=[7]) (by kernel_rfl) (by simp) ?_
  refine AllReadyH.cons (o:=_) rfl (fun K hK=>?_) AllReadyH.nil
  simp only [List.getElem_toArray,List.getElem_cons_zero,List.getElem_cons_succ]
  go_simp
  refine (S2.refPut_any n _ HU.out).mono ?_
  rintro e w4 ⟨v4,rfl,ho4,hb4⟩
  obtain ⟨sp4,cap4,rfl,_,_⟩:=ownsRow_slice ho4
  have HI4:=Lib.hid (isBytes_own (vput_lt _) ho4)
  rw [Int.toNat_natCast] at HI4 ⊢
  have HS4:=Lib.hid (HS3.out.below hb4)
  clear ho4 hb4 HS3
  refine hK.out _ _ (HS4.out.2) (fun _=>?_)
  clear hK K hHeld
  have hHeld:=HS4.out.2
  simp only [Act.put,List.setIfInBounds_toArray,List.set_cons_zero,List.set_cons_succ,List.getElem_toArray,List.getElem_cons_zero,List.getElem_cons_succ]
  rotate_left
  refine (S2.refPut_any n _ HU.out).mono ?_
  rintro e w3 ⟨v3,rfl,ho3,hb3⟩
  obtain ⟨sp3,cap3,rfl,_,_⟩:=ownsRow_slice ho3
  have HI3:=Lib.hid (isBytes_own (vput_lt _) ho3)
  rw [Int.toNat_natCast] at HI3 ⊢
  have hE3:From w2 w3:=(hHeld:From w2 w2.drew).trans hb3
  have HB3:Hid (True∧From w2 w3):=Lib.hid ⟨trivial,hE3⟩
  clear ho3 hb3 hE3
  refine hK.out _ _ (HB3.out.2) (fun _=>?_)
  clear hK K hHeld
  have hHeld:=HB3.out.2
  simp only [Act.put,List.setIfInBounds_toArray,List.set_cons_zero,List.set_cons_succ,List.getElem_toArray,List.getElem_cons_zero,List.getElem_cons_succ]
  refine wpAnyH_ready (rs:=[3]) (by kernel_rfl) (by simp) ?_
  refine AllReadyH.cons (o:=_) rfl (fun K hK=>?_) AllReadyH.nil
  simp only [List.getElem_toArray,List.getElem_cons_zero,List.getElem_cons_succ]
  go_simp
  have HS4:=Lib.hid (sofar_at (k:=1) HB3.out.2)
  have HI4:Hid (IsBytes _ (.slice sp3 (vput n).length cap3) (vput n)):=Lib.hid (HI3.out.below ((Below.refl _ _).alloc (Nat.le_refl _) (.cells #[.int .u8 1] 5)))
  obtain ⟨w4,hw4⟩:∃ w4,w3.alloc (.cells #[.int .u8 1] 5)=w4:=⟨_,rfl⟩
  have hcast:(((1:Nat):Int))=1:=rfl
  rw [hcast,hw4] at HS4
  rw [hw4] at HI4 ⊢
  clear hw4 hcast HB3 HI3
  refine hK.out _ _ (HS4.out.2) (fun _=>?_)
  clear hK K hHeld
  have hHeld:=HS4.out.2
  simp only [Act.put,List.setIfInBounds_toArray,List.set_cons_zero,List.set_cons_succ,List.getElem_toArray,List.getElem_cons_zero,List.getElem_cons_succ]
  all_goals
   refine wpAnyH_ready (rs:=[8]) (by kernel_rfl) (by simp) ?_
   refine AllReadyH.cons (o:=_) rfl (fun K hK=>?_) AllReadyH.nil
   simp only [List.getElem_toArray,List.getElem_cons_zero,List.getElem_cons_succ]
   refine wp_append_bytes1 (.tmp 10) (.tmp 14) rfl w2.heap.size _ _ _ rfl HS4.out.1 _ (vput n) rfl HI4.out (by have:=(vput_on n []).2.2.2.2;omega) (by rw [List.length_singleton];omega) HS4.out.2.size ?_
   intro v5 w5 hown hgr
   have HS5:=Lib.hid (HS4.out.app hown hgr)
   obtain ⟨sp5,N5,cap5,rfl,HN5⟩:=HS5.out.open
   clear hown hgr HS4 HI4
   refine hK.out _ _ (HS5.out.2) (fun _=>?_)
   clear hK K hHeld
   have hHeld:=HS5.out.2
   simp only [Act.put,List.setIfInBounds_toArray,List.set_cons_zero,List.set_cons_succ,List.getElem_toArray,List.getElem_cons_zero,List.getElem_cons_succ]
   refine wpAnyH_take (i:=9) (oi:=_) (v:=?_) rfl (by kernel_rfl) (by kernel_rfl) (by kernel_rfl) (fun _ _ _ h=>h) (Or.inl ⟨by rfl,?_⟩) (by assumption) ?_
   rotate_left
   ·intro wq hSw;go_simp;try with_reducible rfl
   simp only [Act.put,List.setIfInBounds_toArray,List.set_cons_zero,List.set_cons_succ,List.getElem_toArray,List.getElem_cons_zero,List.getElem_cons_succ]
   refine wpAnyH_done (by kernel_rfl) ?_ _
   refine NoPanic.normal ?_
   have c2:w5.cell? ⟨w.heap.size,2,none⟩=some (.string key):=(HK2.out.below HS5.out.2 hgl).cell rfl
   clear hHeld
   have hbK:bodyK ⟨1,n,key,val⟩=[1]++vput n++vtext (strB key):=rfl
   have hkl:=(bodyK_len HC.out).1
   have hl6:=vtext_length (strB key) (by rw [strB_length];omega)
   rw [strB_length] at hl6
   go_wp2_with fail
   refine (S2.refText_any key _ (by omega)).mono ?_
   rintro e w6 ⟨v6,rfl,ho6,hb6⟩
   obtain ⟨sp6,cap6,rfl,_,_⟩:=ownsRow_slice ho6
   have HI6:=Lib.hid (isBytes_own (vtext_lt (strB_lt _)) ho6)
   have HS6:=Lib.hid (HS5.out.below hb6)
   clear ho6 hb6 HS5 c2
   have hl7:=vtext_length (strB val) (by rw [strB_length];omega)
   rw [strB_length] at hl7
   have hbd:body ⟨1,n,key,val⟩=bodyK ⟨1,n,key,val⟩++vtext (strB val):=rfl
   go_wp2_with (at_builtin;refine wpList_append_bytes rfl (.tmp 16) (.tmp 19) rfl w2.heap.size _ _ _ rfl HS6.out.1 _ (vtext (strB key)) rfl HI6.out (by rw [List.length_append,List.length_singleton];omega) HS6.out.2.size ?_;intro v7 w7 hown hgr;have HS7:=Lib.hid (HS6.out.app hown hgr);clear hown hgr;obtain ⟨sp7,N7,cap7,rfl,HN7⟩:=HS7.out.open;rw [← hbK] at HS7;have c0:w7.cell? ⟨w.heap.size,0,none⟩=some (.int .i64 1):=(HK2.out.below HS7.out.2 hgl).cell rfl;have c3:w7.cell? ⟨w.heap.size,3,none⟩=some (.string val):=(HK2.out.below HS7.out.2 hgl).cell rfl;clear HS6 HI6 hbK HN5)
   refine (S2.refText_any val _ (by omega)).mono ?_
   rintro e w8 ⟨v8,rfl,ho8,hb8⟩
   obtain ⟨sp8,cap8,rfl,_,_⟩:=ownsRow_slice ho8
   have HI8:=Lib.hid (isBytes_own (vtext_lt (strB_lt _)) ho8)
   have HS8:=Lib.hid (HS7.out.below hb8)
   clear ho8 hb8 HS7 c0 c3
   go_wp2_with (at_builtin;refine wpList_append_bytes rfl (.tmp 24) (.tmp 27) rfl w2.heap.size _ _ _ rfl HS8.out.1 _ (vtext (strB val)) rfl HI8.out (by omega) HS8.out.2.size ?_;intro v9 w9 hown hgr;have HS9:=Lib.hid (HS8.out.app hown hgr);clear hown hgr;obtain ⟨sp9,N9,cap9,rfl,HN9⟩:=HS9.out.open;rw [← hbd] at HS9;clear HS8 HI8 hbd HN7)
   have hlt:∀ x∈body ⟨1,n,key,val⟩,x<256:=body_lt (kind_lt HF.out)
   refine (S3.refSeal_any _ (body ⟨1,n,key,val⟩) w9 (HS9.out.is hlt) (by have:=(body_len HC.out).1;omega)).mono ?_
   rintro e w10 ⟨v10,rfl,ho10,hb10⟩
   have HO10:=Lib.hid ho10
   have HB10:=Lib.hid (HB2.out.trans ((HS9.out.2.trans (hb10.mono HS9.out.2.size)).mono HB2.out.size))
   have hsz:=Nat.le_trans HB2.out.size HS9.out.2.size
   have hen:=HE.out
   clear ho10 hb10
   go_wp2
   go_ret
   exact ⟨_,rfl,by rw [hen];exact own_base HO10.out hsz,HB10.out⟩
 ·have d0:∀ W,From w2 W→W.cell? ⟨w.heap.size,0,none⟩=some (.int .i64 0):=fun W h=>(Below.cell (p:=⟨w.heap.size,0,none⟩) h hgl).trans c0
  have d1:∀ W,From w2 W→W.cell? ⟨w.heap.size,1,none⟩=some (.int .i64 n):=fun W h=>(Below.cell (p:=⟨w.heap.size,1,none⟩) h hgl).trans c1
  have hn3:=vput_short (n:=n) (by omega)
  go_wp2_with fail
  have hwn:IntKind.u64.wrap (n:Int)=n:=by rw [IntKind.wrap_u64];omega
  have hw8:IntKind.u8.wrap 0=0:=rfl
  refine wp_region_noPanic ?_
  have hHeld:From w2 w2.drew:=(Below.refl _ _).drew
  refine wpAnyH_start (n:=10) (l:=#[false,false,false,false,false,false,false,false,false,false]) (S:=From w2) (by kernel_rfl) (hHeld) (by kernel_rfl) (by kernel_rfl) ?_
  refine wpAnyH_take (i:=0) (oi:=_) (v:=?_) rfl (by kernel_rfl) (by kernel_rfl) (by kernel_rfl) (fun _ _ _ h=>h) (Or.inl ⟨by rfl,?_⟩) (by assumption) ?_
  rotate_left
  ·intro wq hSw;go_simp;try with_reducible rfl
  simp only [Act.put,List.setIfInBounds_toArray,List.set_cons_zero,List.set_cons_succ,List.getElem_toArray,List.getElem_cons_zero,List.getElem_cons_succ]
  refine wpAnyH_take (i:=1) (oi:=_) (v:=?_) rfl (by kernel_rfl) (by kernel_rfl) (by kernel_rfl) (fun _ _ _ h=>h) (Or.inl ⟨by rfl,?_⟩) (by assumption) ?_
  rotate_left
  ·intro wq hSw;go_simp;try with_reducible rfl
  simp only [Act.put,List.setIfInBounds_toArray,List.set_cons_zero,List.set_cons_succ,List.getElem_toArray,List.getElem_cons_zero,List.getElem_cons_succ]
  refine wpAnyH_take (i:=2) (oi:=_) (v:=?_) rfl (by kernel_rfl) (by kernel_rfl) (by kernel_rfl) (fun _ _ _ h=>h) (Or.inl ⟨by rfl,?_⟩) (by assumption) ?_
  rotate_left
  ·intro wq hSw;go_simp;try with_reducible rfl
  simp only [Act.put,List.setIfInBounds_toArray,List.set_cons_zero,List.set_cons_succ,List.getElem_toArray,List.getElem_cons_zero,List.getElem_cons_succ]
  refine wpAnyH_take (i:=4) (oi:=_) (v:=?_) rfl (by kernel_rfl) (by kernel_rfl) (by kernel_rfl) (fun _ _ _ h=>h) (Or.inl ⟨by rfl,?_⟩) (by assumption) ?_
  rotate_left
  ·intro wq hSw;go_simp;try with_reducible rfl
  simp only [Act.put,List.setIfInBounds_toArray,List.set_cons_zero,List.set_cons_succ,List.getElem_toArray,List.getElem_cons_zero,List.getElem_cons_succ]
  refine wpAnyH_take (i:=5) (oi:=_) (v:=?_) rfl (by kernel_rfl) (by kernel_rfl) (by kernel_rfl) (fun _ _ _ h=>h) (Or.inl ⟨by rfl,?_⟩) (by assumption) ?_
  rotate_left
  ·intro wq hSw;go_simp;try with_reducible rfl
  simp only [Act.put,List.setIfInBounds_toArray,List.set_cons_zero,List.set_cons_succ,List.getElem_toArray,List.getElem_cons_zero,List.getElem_cons_succ]
  refine wpAnyH_take (i:=6) (oi:=_) (v:=?_) rfl (by kernel_rfl) (by kernel_rfl) (by kernel_rfl) (fun _ _ _ h=>h) (Or.inl ⟨by rfl,?_⟩) (by assumption) ?_
  rotate_left
  ·intro wq hSw;go_simp;try with_reducible rfl
  simp only [Act.put,List.setIfInBounds_toArray,List.set_cons_zero,List.set_cons_succ,List.getElem_toArray,List.getElem_cons_zero,List.getElem_cons_succ]
  clear d0 d1 c0 c1
  refine wpAnyH_ready (rs:=[3,7]) (by kernel_rfl) (by simp) ?_
  refine AllReadyH.cons (o:=_) rfl (fun K hK=>?_) (AllReadyH.cons (o:=_) rfl (fun K hK=>?_) AllReadyH.nil)
  all_goals simp only [List.getElem_toArray,List.getElem_cons_zero,List.getElem_cons_succ]
  all_goals go_simp
  have hS3:Sofar w2 (w2.alloc (.cells #[.int .u8 0] 5)).drew _ _:=(sofar_one w2 0).below (Below.refl _ _).drew
  obtain ⟨w3,hw3⟩:∃ w3,(w2.alloc (.cells #[.int .u8 0] 5)).drew=w3:=⟨_,rfl⟩
  rw [hw3]
  have hS3':Sofar w2 w3 (.slice (some ⟨w2.heap.size,0,none⟩) 1 1) [0]:=by rw [← hw3];exact hS3
  have HS3:=Lib.hid hS3'
  clear hS3 hS3' hw3
  refine hK.out _ _ (HS3.out.2) (fun _=>?_)
  clear hK K hHeld
  have hHeld:=HS3.out.2
  simp only [Act.put,List.setIfInBounds_toArray,List.set_cons_zero,List.set_cons_succ,List.getElem_toArray,List.getElem_cons_zero,List.getElem_cons_succ]
  refine wpAnyH_ready (rs:=[7]) (by kernel_rfl) (by simp) ?_
  refine AllReadyH.cons (o:=_) rfl (fun K hK=>?_) AllReadyH.nil
  simp only [List.getElem_toArray,List.getElem_cons_zero,List.getElem_cons_succ]
  go_simp
  refine (S2.refPut_any n _ HU.out).mono ?_
  rintro e w4 ⟨v4,rfl,ho4,hb4⟩
  obtain ⟨sp4,cap4,rfl,_,_⟩:=ownsRow_slice ho4
  have HI4:=Lib.hid (isBytes_own (vput_lt _) ho4)
  rw [Int.toNat_natCast] at HI4 ⊢
  have HS4:=Lib.hid (HS3.out.below hb4)
  clear ho4 hb4 HS3
  refine hK.out _ _ (HS4.out.2) (fun _=>?_)
  clear hK K hHeld
  have hHeld:=HS4.out.2
  simp only [Act.put,List.setIfInBounds_toArray,List.set_cons_zero,List.set_cons_succ,List.getElem_toArray,List.getElem_cons_zero,List.getElem_cons_succ]
  rotate_left
  refine (S2.refPut_any n _ HU.out).mono ?_
  rintro e w3 ⟨v3,rfl,ho3,hb3⟩
  obtain ⟨sp3,cap3,rfl,_,_⟩:=ownsRow_slice ho3
  have HI3:=Lib.hid (isBytes_own (vput_lt _) ho3)
  rw [Int.toNat_natCast] at HI3 ⊢
  have hE3:From w2 w3:=(hHeld:From w2 w2.drew).trans hb3
  have HB3:Hid (True∧From w2 w3):=Lib.hid ⟨trivial,hE3⟩
  clear ho3 hb3 hE3
  refine hK.out _ _ (HB3.out.2) (fun _=>?_)
  clear hK K hHeld
  have hHeld:=HB3.out.2
  simp only [Act.put,List.setIfInBounds_toArray,List.set_cons_zero,List.set_cons_succ,List.getElem_toArray,List.getElem_cons_zero,List.getElem_cons_succ]
  refine wpAnyH_ready (rs:=[3]) (by kernel_rfl) (by simp) ?_
  refine AllReadyH.cons (o:=_) rfl (fun K hK=>?_) AllReadyH.nil
  simp only [List.getElem_toArray,List.getElem_cons_zero,List.getElem_cons_succ]
  go_simp
  have HS4:=Lib.hid (sofar_at (k:=0) HB3.out.2)
  have HI4:Hid (IsBytes _ (.slice sp3 (vput n).length cap3) (vput n)):=Lib.hid (HI3.out.below ((Below.refl _ _).alloc (Nat.le_refl _) (.cells #[.int .u8 0] 5)))
  obtain ⟨w4,hw4⟩:∃ w4,w3.alloc (.cells #[.int .u8 0] 5)=w4:=⟨_,rfl⟩
  have hcast:(((0:Nat):Int))=0:=rfl
  rw [hcast,hw4] at HS4
  rw [hw4] at HI4 ⊢
  clear hw4 hcast HB3 HI3
  refine hK.out _ _ (HS4.out.2) (fun _=>?_)
  clear hK K hHeld
  have hHeld:=HS4.out.2
  simp only [Act.put,List.setIfInBounds_toArray,List.set_cons_zero,List.set_cons_succ,List.getElem_toArray,List.getElem_cons_zero,List.getElem_cons_succ]
  all_goals
   refine wpAnyH_ready (rs:=[8]) (by kernel_rfl) (by simp) ?_
   refine AllReadyH.cons (o:=_) rfl (fun K hK=>?_) AllReadyH.nil
   simp only [List.getElem_toArray,List.getElem_cons_zero,List.getElem_cons_succ]
   refine wp_append_bytes1 (.tmp 10) (.tmp 14) rfl w2.heap.size _ _ _ rfl HS4.out.1 _ (vput n) rfl HI4.out (by have:=(vput_on n []).2.2.2.2;omega) (by rw [List.length_singleton];omega) HS4.out.2.size ?_
   intro v5 w5 hown hgr
   have HS5:=Lib.hid (HS4.out.app hown hgr)
   obtain ⟨sp5,N5,cap5,rfl,HN5⟩:=HS5.out.open
   clear hown hgr HS4 HI4
   refine hK.out _ _ (HS5.out.2) (fun _=>?_)
   clear hK K hHeld
   have hHeld:=HS5.out.2
   simp only [Act.put,List.setIfInBounds_toArray,List.set_cons_zero,List.set_cons_succ,List.getElem_toArray,List.getElem_cons_zero,List.getElem_cons_succ]
   refine wpAnyH_take (i:=9) (oi:=_) (v:=?_) rfl (by kernel_rfl) (by kernel_rfl) (by kernel_rfl) (fun _ _ _ h=>h) (Or.inl ⟨by rfl,?_⟩) (by assumption) ?_
   rotate_left
   ·intro wq hSw;go_simp;try with_reducible rfl
   simp only [Act.put,List.setIfInBounds_toArray,List.set_cons_zero,List.set_cons_succ,List.getElem_toArray,List.getElem_cons_zero,List.getElem_cons_succ]
   refine wpAnyH_done (by kernel_rfl) ?_ _
   refine NoPanic.normal ?_
   have c2:w5.cell? ⟨w.heap.size,2,none⟩=some (.string key):=(HK2.out.below HS5.out.2 hgl).cell rfl
   clear hHeld
   have hbK:bodyK ⟨0,n,key,val⟩=[0]++vput n++vtext (strB key):=rfl
   have hkl:=(bodyK_len HC.out).1
   have hl6:=vtext_length (strB key) (by rw [strB_length];omega)
   rw [strB_length] at hl6
   go_wp2_with fail
   refine (S2.refText_any key _ (by omega)).mono ?_
   rintro e w6 ⟨v6,rfl,ho6,hb6⟩
   obtain ⟨sp6,cap6,rfl,_,_⟩:=ownsRow_slice ho6
   have HI6:=Lib.hid (isBytes_own (vtext_lt (strB_lt _)) ho6)
   have HS6:=Lib.hid (HS5.out.below hb6)
   clear ho6 hb6 HS5 c2
   have hbd:body ⟨0,n,key,val⟩=bodyK ⟨0,n,key,val⟩:=rfl
   go_wp2_with (at_builtin;refine wpList_append_bytes rfl (.tmp 16) (.tmp 19) rfl w2.heap.size _ _ _ rfl HS6.out.1 _ (vtext (strB key)) rfl HI6.out (by rw [List.length_append,List.length_singleton];omega) HS6.out.2.size ?_;intro v7 w7 hown hgr;have HS7:=Lib.hid (HS6.out.app hown hgr);clear hown hgr;obtain ⟨sp7,N7,cap7,rfl,HN7⟩:=HS7.out.open;rw [← hbK,← hbd] at HS7;have c0:w7.cell? ⟨w.heap.size,0,none⟩=some (.int .i64 0):=(HK2.out.below HS7.out.2 hgl).cell rfl;clear HS6 HI6 hbK hbd HN5)
   have hlt:∀ x∈body ⟨0,n,key,val⟩,x<256:=body_lt (kind_lt HF.out)
   refine (S3.refSeal_any _ (body ⟨0,n,key,val⟩) w7 (HS7.out.is hlt) (by have:=(body_len HC.out).1;omega)).mono ?_
   rintro e w10 ⟨v10,rfl,ho10,hb10⟩
   have HO10:=Lib.hid ho10
   have HB10:=Lib.hid (HB2.out.trans ((HS7.out.2.trans (hb10.mono HS7.out.2.size)).mono HB2.out.size))
   have hsz:=Nat.le_trans HB2.out.size HS7.out.2.size
   have hen:=HE.out
   clear ho10 hb10
   go_wp2
   go_ret
   exact ⟨_,rfl,by rw [hen];exact own_base HO10.out hsz,HB10.out⟩

end Go.Proofs.YtmjpnbadfmgimaaGreatDoor.S14
namespace Go.Proofs.YtmjpnbadfmgimaaGreatDoor.S14
open Go.RowKit S2.Pl
theorem from' {w:World} {v:Value} {B:List Nat} (hv:IsBytes w v B) (k:Nat) (hk:k≤B.length):
  ∃ a n c,Hid (n=(B.drop k).length)∧(∀ W,(sliceU8 v (some (.int .i64 k)) none none).run Tryz.prog W=.ok (.slice a n c) W)∧Hid (IsBytes w (.slice a n c) (B.drop k)):=by
 obtain ⟨a,c,h1,h2⟩:=run_from hv k hk
 exact ⟨a,B.length-k,c,Lib.hid (by simp),h1,Lib.hid h2⟩
theorem vgetText_len (B:List Nat):(vgetText B).1.length≤B.length:=by
 unfold vgetText
 split
 ·simp
 ·simp only [List.length_take,List.length_drop];omega
theorem str_sz (L:List Nat):(str L).size=L.length:=by simp [str,ByteArray.size]
def buildR (v:Array (Nat×Value)):Sem Value:=Instr.build 26 v
theorem buildR_eq (v:Array (Nat×Value)):Instr.build 26 v=buildR v:=rfl
theorem run_buildR (w:World):(buildR #[]).run Tryz.prog w=.ok (.agg #[.int .i64 0,.int .i64 0,.string ⟨#[]⟩,.string ⟨#[]⟩]) w:=by kernel_rfl
theorem run_buildR3 (w:World) (k s:Int) (b:ByteArray):(buildR #[(0,.int .i64 k),(1,.int .i64 s),(2,.string b)]).run Tryz.prog w=.ok (.agg #[.int .i64 k,.int .i64 s,.string b,.string ⟨#[]⟩]) w:=by kernel_rfl
theorem run_buildR1 (w:World) (k:Int):(buildR #[(0,.int .i64 k)]).run Tryz.prog w=.ok (.agg #[.int .i64 k,.int .i64 0,.string ⟨#[]⟩,.string ⟨#[]⟩]) w:=by kernel_rfl
theorem blk_set {w:World} {g:Nat} {t:TypeId} {r q:RT} (h:Blk w g t (recL r)):Blk (w.setRow g #[.int .i64 q.kind,.int .i64 q.seq,.string q.key,.string q.val]) g t (recL q):=h.setRow (recL q)
theorem bel_setRow {B:Nat} {a w:World} (h:Below B a w) {g:Nat} (hg:B≤g) (c:Array Value):Below B a (w.setRow g c):=
 h.trans ⟨rfl,rfl,rfl,by simp,fun k hk=>setRow_other _ _ _ _ (by omega)⟩
theorem run_store_rec {w:World} {g:Nat} {t:TypeId} {r q:RT} (h:Blk w g t (recL r)):(storeR (.pointer (some ⟨g,0,none⟩)) (.agg #[.int .i64 q.kind,.int .i64 q.seq,.string q.key,.string q.val])).run Tryz.prog w=.ok () (w.setRow g #[.int .i64 q.kind,.int .i64 q.seq,.string q.key,.string q.val]):=
 run_storeR (ds:=recL q) h rfl rfl (recL_one q)
theorem back_rec {w W:World} {g:Nat} {t:TypeId} {r:RT} (q:RT) (hk:Blk W g t (recL r)) (hb:Below w.heap.size w W) (hg:w.heap.size≤g):
  ∃ W2,(storeR (.pointer (some ⟨g,0,none⟩)) (.agg #[.int .i64 q.kind,.int .i64 q.seq,.string q.key,.string q.val])).run Tryz.prog W=.ok () W2∧Hid (Blk W2 g t (recL q))∧Hid (Below w.heap.size w W2):=
 ⟨_,run_store_rec hk,Lib.hid (blk_set hk),Lib.hid (bel_setRow hb hg _)⟩
attribute [local go_sem ↓] loadR_eq storeR_eq buildR_eq sliceU8_eq
attribute [local go_sem] run_buildR run_buildR3
end Go.Proofs.YtmjpnbadfmgimaaGreatDoor.S14
namespace Go.Proofs.YtmjpnbadfmgimaaGreatDoor.S14
open Go.RowKit S2.Pl
attribute [local go_sem ↓] loadR_eq storeR_eq buildR_eq sliceU8_eq
attribute [local go_sem] run_buildR run_buildR1
end Go.Proofs.YtmjpnbadfmgimaaGreatDoor.S14
namespace Go.Proofs.YtmjpnbadfmgimaaGreatDoor.S14
open Go.RowKit S2.Pl S3 S3.Pl
def rcells (L:List RT):List Value:=L.flatMap recL
theorem rcells_append (A B:List RT):rcells (A++B)=rcells A++rcells B:=by simp [rcells]
theorem rcells_length (L:List RT):(rcells L).length=L.length*4:=by
 induction L with
 | nil=>rfl
 | cons r L ih=>simp only [rcells,List.flatMap_cons,List.length_append,recL_length,List.length_cons] at ih ⊢;omega
theorem rcells_get {L:List RT} {i j:Nat} {u:Value} (hi:i<L.length) (hu:(recL (L.getD i zR))[j]? = some u):(rcells L)[i*4+j]? = some u:=by
 have hj:j<4:=(List.getElem?_eq_some_iff.1 hu).1
 induction L generalizing i with
 | nil=>simp at hi
 | cons r L ih=>
   have e:rcells (r::L)=recL r++rcells L:=by simp [rcells]
   rw [e]
   cases i with
   | zero=>
     rw [List.getElem?_append_left (by rw [recL_length];omega)]
     simpa using hu
   | succ i=>
     rw [List.getElem?_append_right (by rw [recL_length];omega),recL_length,show (i+1)*4+j-4=i*4+j by omega]
     exact ih (by simpa using hi) (by simpa using hu)
def RecsAt (w:World) (v:Value) (L:List RT):Prop:=
 ∃ a cap,v=.slice a L.length cap∧L.length≤cap∧cap≤maxLen∧(0<L.length→∃ b off,a=some ⟨b,off,none⟩∧b<w.heap.size∧∀ i,i<L.length→∀ j u,(recL (L.getD i zR))[j]? = some u→w.cell? ⟨b,off+i*4+j,none⟩=some u)
theorem RecsAt.below {w w':World} {v:Value} {L:List RT} (h:RecsAt w v L) (hb:Below w.heap.size w w'):RecsAt w' v L:=by
 obtain ⟨a,cap,rfl,h1,h2,h3⟩:=h
 refine ⟨a,cap,rfl,h1,h2,fun h0=>?_⟩
 obtain ⟨b,off,rfl,hbl,hc⟩:=h3 h0
 exact ⟨b,off,rfl,Nat.lt_of_lt_of_le hbl hb.size,fun i hi j u hu=>(hb.cell (p:=⟨b,_,none⟩) hbl).trans (hc i hi j u hu)⟩
def OwnRecs (base:Nat) (w:World) (v:Value) (L:List RT):Prop:=w.ownsRow base 26 4 v L.length (rcells L)
theorem ownRecs_nil (base:Nat) (w:World):OwnRecs base w (.slice none 0 0) []:=World.ownsRow_nil _ _ _ _
theorem OwnRecs.slice {base:Nat} {w:World} {v:Value} {L:List RT} (h:OwnRecs base w v L):∃ sp cap,v=.slice sp L.length cap∧L.length≤cap∧cap≤maxLen:=ownsRow_slice h
theorem OwnRecs.below {base:Nat} {w w':World} {v:Value} {L:List RT} (h:OwnRecs base w v L) (hb:Below w.heap.size w w'):OwnRecs base w' v L:=
 ownsRow_row h (r:=none) ⟨hb.os,hb.tape,hb.output,hb.size,fun k hk _=>hb.block k hk⟩ (by simp)
theorem OwnRecs.base {base base':Nat} {w:World} {v:Value} {L:List RT} (h:OwnRecs base w v L) (hb:base'≤base):OwnRecs base' w v L:=by
 obtain ⟨hl,h | ⟨g,cap,cur,hv,hg,hrest⟩⟩:=h
 ·exact ⟨hl,.inl h⟩
 ·exact ⟨hl,.inr ⟨g,cap,cur,hv,by omega,hrest⟩⟩
theorem OwnRecs.lt {base:Nat} {w:World} {v:Value} {L:List RT} (h:OwnRecs base w v L):∀ k,v.ownBlock=some k→base≤k:=fun k hk=>(World.ownsRow.lt h k hk).1
theorem OwnRecs.at {base:Nat} {w:World} {v:Value} {L:List RT} (h:OwnRecs base w v L):RecsAt w v L:=by
 obtain ⟨sp,cap,rfl,h1,h2⟩:=h.slice
 refine ⟨sp,cap,rfl,h1,h2,fun h0=>?_⟩
 obtain ⟨hl,⟨he,h3⟩ | ⟨g,cap',cur,he,_,hh,hn,hm,hs,ht⟩⟩:=h
 ·omega
 ·simp at he
  obtain ⟨rfl,rfl⟩:=he
  refine ⟨g,0,rfl,(Array.getElem?_eq_some_iff.1 hh).1,fun i hi j u hu=>?_⟩
  have hj:j<4:=(List.getElem?_eq_some_iff.1 hu).1
  have hg:=rcells_get hi hu
  rw [← ht,List.getElem?_take_of_lt (by omega)] at hg
  simp [World.cell?,hh]
  simpa using hg
theorem infoRecS:(Tryz.prog.info? 26).map (fun i=>(i.zero,i.size,i.bytes))=some (some (.agg (recL zR).toArray),4,48):=by kernel_rfl
theorem wpList_append_rec {w:World} {ops:Array Oper} {rest:List Oper} {o:Oper} {a:Act} {Q:Exit→Act→World→Prop} (hgd:o.guard=none) (s x:Operand)
  (ho:o.op=.call { callee:=.builtin .append,args:=#[s,x],argTypes:=#[22,22] })
  (base:Nat) (v:Value) (L:List RT) (hs:a.eval s=v) (hown:OwnRecs base w v L) (r:RT)
  (hx:a.eval x=.slice (some ⟨w.heap.size,0,none⟩) 1 1)
  (hbytes:L.length+1≤4294967296) (hbase:base≤w.heap.size)
  (h:∀ v' w',OwnRecs base w' v' (L++[r])→(w.alloc (.cells #[.int .i64 r.kind,.int .i64 r.seq,.string r.key,.string r.val] 26 (0,0))).grownBy w' v.ownBlock→wpList Tryz.prog ops Q rest (a.put o.dst v') w'):
  wpList Tryz.prog ops Q (o::rest) a (w.alloc (.cells #[.int .i64 r.kind,.int .i64 r.seq,.string r.key,.string r.val] 26 (0,0))):=by
 obtain ⟨i0,hi,hz0,hz1,hz2⟩:=info_parts infoRecS
 have hA:Below w.heap.size w (w.alloc (.cells #[.int .i64 r.kind,.int .i64 r.seq,.string r.key,.string r.val] 26 (0,0))):=(Below.refl _ _).alloc (Nat.le_refl _) _
 have hk:=Blk.new w 26 (recL r)
 refine wpList_append_own _ hgd s x _ ho base 26 i0 (.agg (recL zR).toArray) 4 48 Tryz.underlying22 hi hz0 hz1 hz2 rfl (by decide) v L.length (rcells L) hs (hown.below hA) ⟨w.heap.size,0,none⟩ 1 1 (recL r) hx rfl (fun j u hj=>?_) (recL_one r) (by unfold maxLen;omega) (by omega) (by simp;omega) fun v' w' h3 h4 _=>h v' w' ?_ h4
 ·have hadd:(⟨w.heap.size,0,none⟩:Addr).add j=⟨w.heap.size,j,none⟩:=by unfold Addr.add;split <;> simp_all
  rw [hadd]
  exact hk.cell hj
 ·unfold OwnRecs
  rw [List.length_append,rcells_append]
  have e:rcells [r]=recL r:=by simp [rcells]
  rw [e]
  exact h3
attribute [local go_sem ↓] loadR_eq storeR_eq buildR_eq sliceU8_eq
end Go.Proofs.YtmjpnbadfmgimaaGreatDoor.S14
namespace Go.Proofs.YtmjpnbadfmgimaaGreatDoor.S14
open Go.RowKit S2.Pl S3 S3.Pl
attribute [local go_sem ↓] loadR_eq storeR_eq buildR_eq sliceU8_eq
end Go.Proofs.YtmjpnbadfmgimaaGreatDoor.S14
namespace Go.Proofs.YtmjpnbadfmgimaaGreatDoor.S14
open Go.RowKit S2.Pl S3 S3.Pl
attribute [local go_sem ↓] loadR_eq storeR_eq buildR_eq sliceU8_eq
theorem eq_same (r:RT) (w:World):Calls Tryz.prog 17 #[.agg #[.int .i64 r.kind,.int .i64 r.seq,.string r.key,.string r.val],.agg #[.int .i64 r.kind,.int .i64 r.seq,.string r.key,.string r.val]] w fun e w'=>e=.returned (.bool true)∧Hid (Below w.heap.size w w'):=by
 obtain ⟨k,s,key,val⟩:=r
 have hB:Below w.heap.size w ((w.alloc (.cells #[.int .i64 k,.int .i64 s,.string key,.string val] 26)).alloc (.cells #[.int .i64 k,.int .i64 s,.string key,.string val] 26)):=((Below.refl _ _).alloc (Nat.le_refl _) _).alloc (by simp) _
 have HB:=Lib.hid hB
 have e1:(k==k)=true:=beq_t rfl
 have e2:(s==s)=true:=beq_t rfl
 have e3:(key.toList==key.toList)=true:=by simp
 have e4:(val.toList==val.toList)=true:=by simp
 clear hB
 go_enter Tryz.func17,Tryz.ntmps17
 go_wp2
 go_ret
 exact ⟨rfl,HB⟩
theorem RecsAt.load {w W:World} {a:Option Addr} {n cap:Nat} {L:List RT} (h:RecsAt w (.slice a n cap) L) {i:Nat} (hi:i<L.length):∃ b off,a=some ⟨b,off,none⟩∧∀ W,From w W→(loadR (.pointer (some ⟨b,off+i*4,none⟩))).run Tryz.prog W=.ok (.agg #[.int .i64 (L.getD i zR).kind,.int .i64 (L.getD i zR).seq,.string (L.getD i zR).key,.string (L.getD i zR).val]) W:=by
 obtain ⟨a',cap',he,h1,h2,h3⟩:=h
 simp at he
 obtain ⟨rfl,rfl,rfl⟩:=he
 obtain ⟨b,off,rfl,hb,hc⟩:=h3 (by omega)
 exact ⟨b,off,rfl,fun W hW=>run_loadR (cs:=recL (L.getD i zR)) rfl fun j u hj=>(Below.cell (p:=⟨b,_,none⟩) hW hb).trans (hc i hi j u hj)⟩
theorem eqAll_same (v v2:Value) (L:List RT) (w:World) (h:RecsAt w v L) (h2:RecsAt w v2 L):Calls Tryz.prog 20 #[v,v2] w fun e w'=>e=.returned (.bool true)∧Hid (Below w.heap.size w w'):=by
 have HA:=Lib.hid h
 have HC:=Lib.hid h2
 obtain ⟨a,cap,rfl,hc1,hm1,_⟩:=h
 obtain ⟨a2,cap2,rfl,hc2,hm2,_⟩:=h2
 unfold maxLen at hm1 hm2
 have hne:((L.length:Int) != (L.length:Int))=false:=bne_f rfl
 go_enter Tryz.func20,Tryz.ntmps20
 go_wp2_with fail
 go_loopw [5] (fun x wr=>∃ i:Nat,i≤L.length∧x=.int .i64 i∧Below w.heap.size w wr) (fun x _=>L.length-(intOf x).toNat)
 case atStart=>exact ⟨0,by omega,rfl,Below.refl _ _⟩
 case round=>
  obtain ⟨i,hi,rfl,hb⟩:=hrel
  have HB:=Lib.hid hb
  clear hb
  by_cases hlt:i<L.length
  ·obtain ⟨b,off,rfl,hld1⟩:=(HA.out.below HB.out).load (W:=wr) hlt
   obtain ⟨b2,off2,rfl,hld2⟩:=(HC.out.below HB.out).load (W:=wr) hlt
   have hi1:(i:Int)<(L.length:Int):=by omega
   obtain ⟨r,hr⟩:∃ r,L.getD i zR=r:=⟨_,rfl⟩
   rw [hr] at hld1 hld2
   clear hr
   go_wp2_with fail
   refine wp_region_noPanic ?_
   have hHeld:From wr wr.drew:=(Below.refl _ _).drew
   refine wpAnyH_start (n:=10) (l:=#[false,false,false,false,false,false,false,false,false,false]) (S:=From wr) (by kernel_rfl) (hHeld) (by kernel_rfl) (by kernel_rfl) ?_
   refine wpAnyH_take (i:=0) (oi:=_) (v:=?_) rfl (by kernel_rfl) (by kernel_rfl) (by kernel_rfl) (fun _ _ _ h=>h) (Or.inl ⟨by rfl,?_⟩) (by assumption) ?_
   rotate_left
   ·intro wq hSw;go_simp;try with_reducible rfl
   simp only [Act.put,List.setIfInBounds_toArray,List.set_cons_zero,List.set_cons_succ,List.getElem_toArray,List.getElem_cons_zero,List.getElem_cons_succ]
   refine wpAnyH_take (i:=1) (oi:=_) (v:=?_) rfl (by kernel_rfl) (by kernel_rfl) (by kernel_rfl) (fun _ _ _ h=>h) (Or.inl ⟨by rfl,?_⟩) (by assumption) ?_
   rotate_left
   ·intro wq hSw;go_simp;try with_reducible rfl
   simp only [Act.put,List.setIfInBounds_toArray,List.set_cons_zero,List.set_cons_succ,List.getElem_toArray,List.getElem_cons_zero,List.getElem_cons_succ]
   refine wpAnyH_take (i:=2) (oi:=_) (v:=?_) rfl (by kernel_rfl) (by kernel_rfl) (by kernel_rfl) (fun _ _ _ h=>h) (Or.inl ⟨by rfl,?_⟩) (by assumption) ?_
   rotate_left
   ·intro wq hSw;go_simp;try with_reducible rfl
   simp only [Act.put,List.setIfInBounds_toArray,List.set_cons_zero,List.set_cons_succ,List.getElem_toArray,List.getElem_cons_zero,List.getElem_cons_succ]
   refine wpAnyH_take (i:=3) (oi:=_) (v:=?_) rfl (by kernel_rfl) (by kernel_rfl) (by kernel_rfl) (fun _ _ _ h=>h) (Or.inl ⟨by rfl,?_⟩) (by assumption) ?_
   rotate_left
   ·intro wq hSw;go_simp;try with_reducible rfl
   simp only [Act.put,List.setIfInBounds_toArray,List.set_cons_zero,List.set_cons_succ,List.getElem_toArray,List.getElem_cons_zero,List.getElem_cons_succ]
   refine wpAnyH_take (i:=4) (oi:=_) (v:=?_) rfl (by kernel_rfl) (by kernel_rfl) (by kernel_rfl) (fun _ _ _ h=>h) (Or.inl ⟨by rfl,?_⟩) (by assumption) ?_
   rotate_left
   ·intro wq hSw;go_simp;try with_reducible rfl
   simp only [Act.put,List.setIfInBounds_toArray,List.set_cons_zero,List.set_cons_succ,List.getElem_toArray,List.getElem_cons_zero,List.getElem_cons_succ]
   refine wpAnyH_take (i:=5) (oi:=_) (v:=?_) rfl (by kernel_rfl) (by kernel_rfl) (by kernel_rfl) (fun _ _ _ h=>h) (Or.inl ⟨by rfl,?_⟩) (by assumption) ?_
   rotate_left
   ·intro wq hSw;go_simp;try with_reducible rfl
   simp only [Act.put,List.setIfInBounds_toArray,List.set_cons_zero,List.set_cons_succ,List.getElem_toArray,List.getElem_cons_zero,List.getElem_cons_succ]
   refine wpAnyH_take (i:=6) (oi:=_) (v:=?_) rfl (by kernel_rfl) (by kernel_rfl) (by kernel_rfl) (fun _ _ _ h=>h) (Or.inl ⟨by rfl,?_⟩) (by assumption) ?_
   rotate_left
   ·intro wq hSw;go_simp;try with_reducible rfl
   simp only [Act.put,List.setIfInBounds_toArray,List.set_cons_zero,List.set_cons_succ,List.getElem_toArray,List.getElem_cons_zero,List.getElem_cons_succ]
   refine wpAnyH_take (i:=7) (oi:=_) (v:=?_) rfl (by kernel_rfl) (by kernel_rfl) (by kernel_rfl) (fun _ _ _ h=>h) (Or.inl ⟨by rfl,?_⟩) (by assumption) ?_
   rotate_left
   ·intro wq hSw;go_simp;try with_reducible rfl
   simp only [Act.put,List.setIfInBounds_toArray,List.set_cons_zero,List.set_cons_succ,List.getElem_toArray,List.getElem_cons_zero,List.getElem_cons_succ]
   refine wpAnyH_ready (rs:=[8]) (by kernel_rfl) (by simp) ?_
   refine AllReadyH.cons (o:=_) rfl (fun K hK=>?_) AllReadyH.nil
   simp only [List.getElem_toArray,List.getElem_cons_zero,List.getElem_cons_succ]
   go_simp
   refine (eq_same r _).mono ?_
   rintro e w2 ⟨rfl,hb2⟩
   have HE:=Lib.hid (From.trans hHeld hb2.out)
   refine hK.out _ _ (HE.out) (fun _=>?_)
   clear hK K hHeld hb2 hld1 hld2
   have hHeld:=HE.out
   simp only [Act.put,List.setIfInBounds_toArray,List.set_cons_zero,List.set_cons_succ,List.getElem_toArray,List.getElem_cons_zero,List.getElem_cons_succ]
   refine wpAnyH_take (i:=9) (oi:=_) (v:=?_) rfl (by kernel_rfl) (by kernel_rfl) (by kernel_rfl) (fun _ _ _ h=>h) (Or.inl ⟨by rfl,?_⟩) (by assumption) ?_
   rotate_left
   ·intro wq hSw;go_simp;try with_reducible rfl
   simp only [Act.put,List.setIfInBounds_toArray,List.set_cons_zero,List.set_cons_succ,List.getElem_toArray,List.getElem_cons_zero,List.getElem_cons_succ]
   refine wpAnyH_done (by kernel_rfl) ?_ _
   refine NoPanic.normal ?_
   go_wp2_with fail
   go_roundw
   case rel=>exact ⟨i+1,by omega,by go_num,HB.out.trans (HE.out.mono HB.out.size)⟩
   case measure=>simp [intOf];omega
  ·obtain rfl:i=L.length:=by omega
   go_wp2_with fail
   go_ret
   exact ⟨rfl,HB⟩
end Go.Proofs.YtmjpnbadfmgimaaGreatDoor.S14
namespace Go.Proofs.YtmjpnbadfmgimaaGreatDoor.S14
open Go.RowKit S2.Pl S3 S3.Pl
attribute [local go_sem ↓] loadR_eq storeR_eq buildR_eq sliceU8_eq
def cutR (r:RT):RT:=⟨r.kind,r.seq,cutS r.key 110,cutS r.val 300⟩
def RetRec (r:RT) (w:World) (e:Ending) (w':World):Prop:=e=.returned (.agg #[.int .i64 r.kind,.int .i64 r.seq,.string r.key,.string r.val])∧Hid (Below w.heap.size w w')
theorem ret_rec1 {fn:Func} {p:Tmp} {a:Act} {w0 w:World} {g:Nat} {t:TypeId} {r:RT} (h:fn.results=#[.cell p 26]) (hd:a.defers=[]) (hp:a.tmps.getD p undef=.pointer (some ⟨g,0,none⟩)) (hk:Blk w g t (recL r)) (hb:Hid (Below w0.heap.size w0 w)):
  bodyPost Tryz.prog fn (RetRec r w0) Exit.ret a w:=by
 refine bodyPost_ret (v:=.agg #[.int .i64 r.kind,.int .i64 r.seq,.string r.key,.string r.val]) ?_ hd ⟨rfl,hb⟩
 exact results_cell_row h _ _ g t (recL r).toArray (0,0) _ hp hk Tryz.underlying26 rfl (by kernel_rfl)
theorem cut_rec (r:RT) (w:World) (hk:r.key.size≤maxLen) (hr:r.val.size≤maxLen):Calls Tryz.prog 21 #[.agg #[.int .i64 r.kind,.int .i64 r.seq,.string r.key,.string r.val]] w (RetRec (cutR r) w):=by
 have hb1:=agg_zero w r
 have hk1:=Blk.new w 26 (recL r)
 obtain ⟨w1,hw1⟩:∃ w1,w.alloc (.cells #[.int .i64 r.kind,.int .i64 r.seq,.string r.key,.string r.val] 26)=w1:=⟨_,rfl⟩
 have hb1:Below w.heap.size w w1:=by rw [← hw1];exact hb1
 have hk1:Blk w1 w.heap.size 26 (recL r):=by rw [← hw1];exact hk1
 have hb2:=(Below.refl w1.heap.size w1).alloc (Nat.le_refl _) (.cells #[.int .i64 0,.int .i64 0,.string ⟨#[]⟩,.string ⟨#[]⟩] 26)
 have hk2:=Blk.new w1 26 (recL zR)
 obtain ⟨w2,hw2⟩:∃ w2,w1.alloc (.cells #[.int .i64 0,.int .i64 0,.string ⟨#[]⟩,.string ⟨#[]⟩] 26)=w2:=⟨_,rfl⟩
 have hk2:Blk w2 w1.heap.size 26 (recL zR):=by rw [← hw2];exact hk2
 rw [hw2] at hb2
 have HR2:Hid (Blk w2 w.heap.size 26 (recL r)):=Lib.hid (hk1.below hb2 hk1.lt)
 have HZ2:=Lib.hid hk2
 have hlt:=hk1.lt
 have HB2:=Lib.hid (hb1.trans (hb2.mono hb1.size))
 have c2:w2.cell? ⟨w.heap.size,2,none⟩=some (.string r.key):=HR2.out.cell rfl
 have c3:w2.cell? ⟨w.heap.size,3,none⟩=some (.string r.val):=HR2.out.cell rfl
 have f2:w2.frozen? ⟨w.heap.size,2,none⟩=false:=HR2.out.frozen 2
 have f3:w2.frozen? ⟨w.heap.size,3,none⟩=false:=HR2.out.frozen 3
 obtain ⟨K1,hK1⟩:∃ K1,r.key=K1:=⟨_,rfl⟩
 obtain ⟨V1,hV1⟩:∃ V1,r.val=V1:=⟨_,rfl⟩
 rw [hK1] at hk hw1 c2 ⊢
 rw [hV1] at hr hw1 c3 ⊢
 have HK1:=Lib.hid hK1
 have HV1:=Lib.hid hV1
 clear hb1 hk1 hb2 hk2 hK1 hV1
 have HE:=Lib.hid (show cutR r=⟨r.kind,r.seq,cutS K1 110,cutS V1 300⟩ by unfold cutR;rw [HK1.out,HV1.out])
 go_enter Tryz.func21,Tryz.ntmps21
 go_wp2_with fail
 go_region_with (first | (go_at_call_of 36 K1;refine (cut_any K1 110 _ hk (by decide)).mono ?_;rintro e w' ⟨rfl,rfl⟩) | (go_at_call_of 36 V1;refine (cut_any V1 300 _ hr (by decide)).mono ?_;rintro e w' ⟨rfl,rfl⟩))
 all_goals
  obtain ⟨w3,hw3⟩:∃ w3,((w2.setCell ⟨w.heap.size,2,none⟩ (.string (cutS K1 110))).setCell ⟨w.heap.size,3,none⟩ (.string (cutS V1 300))).drew=w3:=⟨_,rfl⟩
  have HK3:Hid (Blk w3 w.heap.size 26 (recL ⟨r.kind,r.seq,cutS K1 110,cutS V1 300⟩)):=Lib.hid (by rw [← hw3];exact ((HR2.out.set 2 _).set 3 _).drew)
  have HB3:Hid (Below w.heap.size w w3):=Lib.hid (by rw [← hw3];exact HB2.out.trans ((((Gr.refl w2 w.heap.size).setCell 2 _).setCell 3 _).drew.below HB2.out.size (Nat.le_refl _)))
  have HZ3:Hid (Blk w3 w1.heap.size 26 (recL zR)):=Lib.hid (by rw [← hw3];exact ((HZ2.out.setOther (by show w1.heap.size≠w.heap.size;omega) _).setOther (by show w1.heap.size≠w.heap.size;omega) _).drew)
  rw [hw3]
  have hld:=run_loadR_blk HK3.out
  obtain ⟨w4,hst,HZ4,HB4⟩:=back_rec (w:=w) ⟨r.kind,r.seq,cutS K1 110,cutS V1 300⟩ HZ3.out HB3.out (by omega)
  simp only at hst hld
  clear hw3 c2 c3 f2 f3 hw2 hw1
  go_wp2
  exact ret_rec1 (r:=cutR r) rfl rfl rfl (by rw [HE.out];exact HZ4.out) HB4
def recF:List FK:=[.int .i64,.int .i64,.str,.str]
theorem recF_get {w:World} {a:Option Addr} {len:Nat} (h:IsRecs recF w a len) (hl:0<len):∃ b off,a=some ⟨b,off,none⟩∧b<w.heap.size∧∀ i,i<len→
  ∃ r:RT,RIn r∧∀ j u,(recL r)[j]? = some u→w.cell? ⟨b,off+i*4+j,none⟩=some u:=by
 obtain ⟨b,off,ha,hb,hc⟩:=h.cells hl (by decide)
 refine ⟨b,off,ha,hb,fun i hi=>?_⟩
 obtain ⟨v0,c0,z0,rfl,k0⟩:=hc i hi 0 _ rfl
 obtain ⟨v1,c1,z1,rfl,k1⟩:=hc i hi 1 _ rfl
 obtain ⟨v2,c2,s2,rfl,k2⟩:=hc i hi 2 _ rfl
 obtain ⟨v3,c3,s3,rfl,k3⟩:=hc i hi 3 _ rfl
 refine ⟨⟨z0,z1,s2,s3⟩,⟨k0,k1,k2,k3⟩,fun j u hj=>?_⟩
 have e4:recF.length=4:=rfl
 rw [e4] at c0 c1 c2 c3
 rw [Nat.add_assoc]
 match j,hj with
 | 0,hj=>simp [recL] at hj;subst hj;exact c0
 | 1,hj=>simp [recL] at hj;subst hj;exact c1
 | 2,hj=>simp [recL] at hj;subst hj;exact c2
 | 3,hj=>simp [recL] at hj;subst hj;exact c3
 | n+4,hj=>simp [recL] at hj
def GoodPost (n:Nat) (w:World) (e:Ending) (w':World):Prop:=
 ∃ G sp cap,e=.returned (.slice sp G.length cap)∧Hid ((∀ r∈G,chk r=0)∧OwnRecs w.heap.size w' (.slice sp G.length cap) G∧Below w.heap.size w w')∧G.length≤n
theorem good_any (a:Option Addr) (len cap n:Nat) (w:World) (h:IsRecs recF w a len) (hn:n≤1000):Calls Tryz.prog 10 #[.slice a len cap,.int .i64 n] w (GoodPost n w):=by
 have hlm:len≤maxLen:=h.1
 unfold maxLen at hlm
 have HR:=Lib.hid h
 clear h
 go_enter Tryz.func10,Tryz.ntmps10
 go_wp2_with fail
 go_loopw [5,6] (fun v x wr=>∃ i:Nat,i≤len∧x=.int .i64 i∧∃ G:List RT,G.length≤n∧(∀ r∈G,chk r=0)∧OwnRecs w.heap.size wr v G∧Below w.heap.size w wr) (fun _ x _=>len-(intOf x).toNat)
 case atStart=>exact ⟨0,by omega,rfl,[],by simp,by simp,ownRecs_nil _ _,Below.refl _ _⟩
 case round=>
  obtain ⟨i,hi,rfl,G,hG,hok,ho,hb⟩:=hrel
  have HO:=Lib.hid ho
  have HB:=Lib.hid hb
  have HOK:=Lib.hid hok
  obtain ⟨sp,cp,rfl,hcp,hcm⟩:=ho.slice
  clear ho hb hok
  by_cases hlt:i<len
  ·by_cases hfew:G.length<n
   ·obtain ⟨b,off,rfl,hbl,hcs⟩:=recF_get HR.out (by omega)
    obtain ⟨r,hr,hcell⟩:=hcs i hlt
    have hld:=run_loadR (w:=wr) (g:=b) (o:=off+i*4) (cs:=recL r) rfl (fun j u hj=>(HB.out.cell (p:=⟨b,_,none⟩) hbl).trans (hcell j u hj))
    simp only [recL] at hld
    have hcut:=cut_rec r wr hr.key hr.val
    have hsz1:=cutS_size r.key 110
    have hsz2:=cutS_size r.val 300
    obtain ⟨q,hq⟩:∃ q,cutR r=q:=⟨_,rfl⟩
    have hq1:q.key.size≤110:=by rw [← hq];exact hsz1
    have hq2:q.val.size≤300:=by rw [← hq];exact hsz2
    rw [hq] at hcut
    have HCUT:=Lib.hid hcut
    clear hcs hcell hcut hsz1 hsz2 hq hr hbl
    go_wp2_with fail
    refine HCUT.out.mono ?_
    rintro e w2 ⟨rfl,hb2⟩
    obtain ⟨w3,hst,HR3,HG3⟩:=back_rec (w:=w2) q (Blk.new w2 26 (recL zR)) ((Below.refl _ _).alloc (Nat.le_refl _) _) (Nat.le_refl _)
    simp only [recL,zR] at hst
    have hb3:Below wr.heap.size wr w3:=hb2.out.trans (HG3.out.mono hb2.out.size)
    have HO3:=Lib.hid (HO.out.below hb3)
    have HB3:Hid (Below w.heap.size w w3):=Lib.hid (HB.out.trans (hb3.mono HB.out.size))
    have hld3:=run_loadR_blk HR3.out
    have hck:=refCheck_any q w3 (by unfold maxLen;omega) (by unfold maxLen;omega)
    obtain ⟨c,hc⟩:∃ c,chk q=c:=⟨_,rfl⟩
    rw [hc] at hck
    have HC:=Lib.hid hc
    have HCK:=Lib.hid hck
    clear hb2 hb3 HO HB HCUT hld hck hc
    go_wp2_with fail
    refine HCK.out.mono ?_
    rintro e w4 ⟨rfl,hb4⟩
    have HO4:=Lib.hid (HO3.out.below hb4)
    have HB4:=Lib.hid (HB3.out.trans (hb4.mono HB3.out.size))
    have HR4:=Lib.hid (HR3.out.below hb4 HR3.out.lt)
    have hgl:=HR3.out.lt
    clear hld3 hb4 HO3 HB3 HCK hst
    by_cases h0:c=0
    ·subst h0
     have hld4:=run_loadR_blk HR4.out
     have hsz4:=HB4.out.size
     go_wp2_with (at_builtin;refine wpList_append_rec rfl (.tmp 28) (.tmp 30) rfl w.heap.size _ G rfl HO4.out q rfl (by omega) hsz4 ?_;intro v' w5 hown hgr)
     go_roundw
     case rel=>exact ⟨i+1,hlt,by go_num,G++[q],by simp;omega,by intro x hx;rw [List.mem_append,List.mem_singleton] at hx;exact hx.elim (HOK.out x) (fun h=>by rw [h];exact HC.out),hown,(HB4.out.alloc hsz4 _).grown hgr (by simp;omega) HO4.out.lt⟩
     case measure=>simp [intOf];omega
    ·have hne:((c:Int)==0)=false:=beq_f (by omega)
     go_wp2_with fail
     go_roundw
     case rel=>exact ⟨i+1,hlt,by go_num,G,hG,HOK.out,HO4.out,HB4.out⟩
     case measure=>simp [intOf];omega
   ·have hgn:G.length=n:=by omega
    have hd:decide ((G.length:Int)<(n:Int))=false:=by simp;omega
    have hd2:decide (G.length<n)=false:=by simp;omega
    go_wp2_with fail
    go_ret
    exact ⟨G,sp,cp,rfl,Lib.hid ⟨HOK.out,HO.out,HB.out⟩,hG⟩
  ·obtain rfl:i=len:=by omega
   go_wp2_with fail
   go_ret
   exact ⟨G,sp,cp,rfl,Lib.hid ⟨HOK.out,HO.out,HB.out⟩,hG⟩
end Go.Proofs.YtmjpnbadfmgimaaGreatDoor.S14
namespace Go.Proofs.YtmjpnbadfmgimaaGreatDoor.S14
open Go.RowKit S2.Pl S3 S3.Pl
attribute [local go_sem ↓] loadR_eq storeR_eq buildR_eq sliceU8_eq
theorem enc_lt (r:RT):∀ x∈enc r,x<256:=by
 unfold enc
 split
 ·rename_i h
  exact pseal_lt (body_lt (kind_lt (chk_ok h).2.2.2))
 ·simp
theorem run_buildR4 (w:World) (k s:Int) (b c:ByteArray):(buildR #[(0,.int .i64 k),(1,.int .i64 s),(2,.string b),(3,.string c)]).run Tryz.prog w=.ok (.agg #[.int .i64 k,.int .i64 s,.string b,.string c]) w:=by kernel_rfl
attribute [local go_sem] run_buildR run_buildR4
theorem RecsAt.cell {w:World} {a:Option Addr} {n cap:Nat} {L:List RT} (h:RecsAt w (.slice a n cap) L) (h0:0<L.length):∃ b off,a=some ⟨b,off,none⟩∧b<w.heap.size∧∀ i,i<L.length→∀ j u,(recL (L.getD i zR))[j]? = some u→w.cell? ⟨b,off+i*4+j,none⟩=some u:=by
 obtain ⟨a',cap',he,h1,h2,h3⟩:=h
 simp at he
 obtain ⟨rfl,rfl,rfl⟩:=he
 exact h3 h0
end Go.Proofs.YtmjpnbadfmgimaaGreatDoor.S14
namespace Go.Proofs.YtmjpnbadfmgimaaGreatDoor.S14
open Go.RowKit S2.Pl S3 S3.Pl
theorem own_apart {w:World} {b1 b2 n1 n2:Nat} {v1 v2:Value} {x1 x2:List Value} (h1:w.ownsRow b1 3 1 v1 n1 x1) (h2:w.ownsRow b2 5 1 v2 n2 x2):v1.ownBlock=none∨v1.ownBlock≠v2.ownBlock:=by
 obtain ⟨_,⟨rfl,_⟩ | ⟨g,cap,cur,rfl,_,hh,_⟩⟩:=h1
 ·exact .inl rfl
 ·obtain ⟨_,⟨rfl,_⟩ | ⟨g2,cap2,cur2,rfl,_,hh2,_⟩⟩:=h2
  ·right;simp [Value.ownBlock]
  ·right
   simp only [Value.ownBlock]
   intro e
   simp only [Option.some.injEq] at e
   subst e
   rw [hh] at hh2
   simp at hh2
def Front (base:Nat) (w:World) (v:Value) (B:List Nat):Prop:=IsBytes w v B∧(0<B.length→∃ g cs cap,v=.slice (some ⟨g,0,none⟩) B.length cap∧B.length≤cap∧cap≤maxLen∧base≤g∧Blk w g 5 cs∧cs.take B.length=u8s B)
theorem front_mk {base:Nat} {w:World} {g cap:Nat} {B:List Nat} {cs:List Value} (hx:∀ x∈B,x<256) (h1:B.length≤cap) (h2:cap≤maxLen) (hb:base≤g) (hk:Blk w g 5 cs) (ht:cs.take B.length=u8s B):Front base w (.slice (some ⟨g,0,none⟩) B.length cap) B:=by
 refine ⟨⟨hx,.inr ⟨_,cap,rfl,h1,h2,fun i u hu=>?_⟩⟩,fun _=>⟨g,cs,cap,rfl,h1,h2,hb,hk,ht⟩⟩
 have hadd:(⟨g,0,none⟩:Addr).add i=⟨g,i,none⟩:=by unfold Addr.add;split <;> simp_all
 rw [hadd]
 have hi:=(List.getElem?_eq_some_iff.1 hu).1
 rw [u8s_length] at hi
 rw [← ht,List.getElem?_take_of_lt hi] at hu
 exact hk.cell hu
theorem Front.put {base:Nat} {w:World} {v:Value} {B:List Nat} (h:Front base w v B) (i y:Nat) (hi:i<B.length) (hy:y<256):∃ g cap,v=.slice (some ⟨g,0,none⟩) B.length cap∧base≤g∧g<w.heap.size∧w.cell? ⟨g,i,none⟩=some (.int .u8 (B.getD i 0:Nat))∧w.frozen? ⟨g,i,none⟩=false∧Hid (Front base (w.setCell ⟨g,i,none⟩ (.int .u8 (y:Nat))) (.slice (some ⟨g,0,none⟩) B.length cap) (B.set i y)):=by
 obtain ⟨hv,h3⟩:=h
 obtain ⟨g,cs,cap,rfl,h1,h2,hb,hk,ht⟩:=h3 (by omega)
 have hg:=u8s_get B i hi
 have hg':=hg
 rw [← ht,List.getElem?_take_of_lt hi] at hg
 refine ⟨g,cap,rfl,hb,hk.lt,hk.cell hg,hk.frozen i,Lib.hid ?_⟩
 have hx:∀ x∈B.set i y,x<256:=fun x hx=>(List.mem_or_eq_of_mem_set hx).elim (hv.1 x) (fun h=>by omega)
 have:=front_mk (base:=base) (cap:=cap) hx (by rw [List.length_set];exact h1) h2 hb (hk.set i (.int .u8 (y:Nat))) (by rw [List.length_set,List.take_set,ht,u8s_set])
 rw [List.length_set] at this
 exact this
end Go.Proofs.YtmjpnbadfmgimaaGreatDoor.S14

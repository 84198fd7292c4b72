/- Texts put together: Cel, ShB, RefB, CodP, CodA, CodB, CodC, CodD, CodE, CodF, CodG, CodH, CodI, CodL, CodN. -/
import Derived.Test.YtmjpnbadfmgimaaGreatDoorFg13
import Derived.Lib.SliceRun
import Derived.Laws.OwnMore
import Derived.Deep.RegionWith
import Derived.StillTailTactics
set_option linter.unusedSimpArgs false
set_option linter.unusedVariables false
set_option maxRecDepth 100000
set_option maxHeartbeats 32000000
namespace Go.Proofs.YtmjpnbadfmgimaaGreatDoor.Pl
end Go.Proofs.YtmjpnbadfmgimaaGreatDoor.Pl
namespace Go.Proofs.YtmjpnbadfmgimaaGreatDoor.S7.Pl
end Go.Proofs.YtmjpnbadfmgimaaGreatDoor.S7.Pl
namespace Go.Proofs.YtmjpnbadfmgimaaGreatDoor.S7
open Go.RowKit _root_.Go.Proofs.YtmjpnbadfmgimaaGreatDoor.Pl _root_.Go.Proofs.YtmjpnbadfmgimaaGreatDoor.S7.Pl

theorem beq_t {a b:Int} (h:a=b):(a==b)=true:=by subst h;simp
theorem beq_f {a b:Int} (h:a≠b):(a==b)=false:=by simpa using h
theorem bne_t {a b:Int} (h:a≠b):(a != b)=true:=by simpa using h
theorem bne_f {a b:Int} (h:a=b):(a != b)=false:=by subst h;simp
theorem grownBy_trans {w w' w'':World} {r:Option Nat} (h:w.grownBy w' r) (k:w'.grownBy w'' r):w.grownBy w'' r:=
 ⟨k.os.trans h.os,k.tape.trans h.tape,k.output.trans h.output,Nat.le_trans h.size k.size,
  fun i hi hn=>(k.block i (Nat.lt_of_lt_of_le hi h.size) hn).trans (h.block i hi hn)⟩
theorem grownBy_refl (w:World) (r:Option Nat):w.grownBy w r:=⟨rfl,rfl,rfl,Nat.le_refl _,fun _ _ _=>rfl⟩
theorem blk_ty {w:World} {b:Nat} {t t2:TypeId} {c c2:List Value} (h:Blk w b t c) (h2:Blk w b t2 c2):t=t2:=by
 apply Classical.byContradiction
 intro hne
 exact h.ne h2 hne rfl
theorem own_gr {w w':World} {base n r size:Nat} {e t:TypeId} {v:Value} {xs cs:List Value} (h:w.ownsRow base e size v n xs) (hg:Gr w w' r) (hb:Blk w r t cs) (h1:t≠e):w'.ownsRow base e size v n xs:=
 ownsRow_row h hg fun k t' cs' e' hk _=>by
  simp at e'
  subst e'
  have:=blk_ty hb hk
  subst this
  exact h1
theorem own_below {w w':World} {base n size:Nat} {e:TypeId} {v:Value} {xs:List Value} (h:w.ownsRow base e size v n xs) (hb:Below w.heap.size w w'):w'.ownsRow base e size v n xs:=
 ownsRow_row h (r:=none) ⟨hb.os,hb.tape,hb.output,hb.size,fun k hk _=>hb.block k hk⟩ (by simp)
theorem own_lt {w:World} {base n size:Nat} {e:TypeId} {v:Value} {xs:List Value} (h:w.ownsRow base e size v n xs):∀ k,v.ownBlock=some k→base≤k:=fun k hk=>(h.lt k hk).1
theorem bel_append {w w1 w2:World} {base n size:Nat} {e:TypeId} {v:Value} {xs:List Value} (hb:Below base w w1) (o:Obj) (h:w1.ownsRow base e size v n xs) (hg:(w1.alloc o).grownBy w2 v.ownBlock) (hbase:base≤w1.heap.size):Below base w w2:=
 (hb.alloc hbase o).grown hg (by simp;omega) (own_lt h)
theorem own_open {w:World} {base n size:Nat} {e:TypeId} {v:Value} {xs:List Value} (h:w.ownsRow base e size v n xs) (h0:0<n):∃ g cap,v=.slice (some ⟨g,0,none⟩) n cap∧base≤g∧g<w.heap.size∧n≤cap∧cap≤maxLen:=by
 obtain ⟨hl,⟨rfl,rfl⟩ | ⟨g,cap,cur,rfl,hb,hh,hn,hm,_⟩⟩:=h
 ·omega
 ·exact ⟨g,cap,rfl,hb,(Array.getElem?_eq_some_iff.1 hh).1,hn,hm⟩
theorem own_base {w:World} {base base' n size:Nat} {e:TypeId} {v:Value} {xs:List Value} (h:w.ownsRow base e size v n xs) (hb:base'≤base):w.ownsRow base' e size v n xs:=by
 obtain ⟨hl,h | ⟨g,cap,cur,hv,hg,hrest⟩⟩:=h
 ·exact ⟨hl,.inl h⟩
 ·exact ⟨hl,.inr ⟨g,cap,cur,hv,by omega,hrest⟩⟩

def IsCells (w:World) (v:Value) (n:Nat) (vs:List Value):Prop:=
 (v=.slice none 0 0∧n=0∧vs=[])∨∃ a cap,v=.slice (some a) n cap∧n≤cap∧cap≤maxLen∧∀ i u,vs[i]? = some u→w.cell? (a.add i)=some u
theorem isCells_nil (w:World):IsCells w (.slice none 0 0) 0 []:=.inl ⟨rfl,rfl,rfl⟩
theorem IsCells.below {w w':World} {v:Value} {n:Nat} {vs:List Value} (h:IsCells w v n vs) (hb:Below w.heap.size w w'):IsCells w' v n vs:=by
 obtain h | ⟨a,cap,rfl,h1,h2,hc⟩:=h
 ·exact .inl h
 ·refine .inr ⟨a,cap,rfl,h1,h2,fun i u hu=>?_⟩
  have:=hc i u hu
  rw [hb.cell (p:=a.add i) (World.block_lt_of_cell? w _ this)]
  exact this
theorem add_block (a:Addr) (i:Nat):(a.add i).block=a.block:=by unfold Addr.add;split <;> rfl
theorem IsCells.row {w w':World} {v:Value} {n:Nat} {vs:List Value} (h:IsCells w v n vs) {r:Option Nat} (hg:w.grownBy w' r) (hr:∀ a m c,v=.slice (some a) m c→0<vs.length→some a.block≠r):IsCells w' v n vs:=by
 obtain h | ⟨a,cap,rfl,h1,h2,hc⟩:=h
 ·exact .inl h
 ·refine .inr ⟨a,cap,rfl,h1,h2,fun i u hu=>?_⟩
  have:=hc i u hu
  have hl:i<vs.length:=(List.getElem?_eq_some_iff.1 hu).1
  exact hg.cell this (by rw [add_block];exact hr a _ _ rfl (by omega))
theorem IsCells.slice {w:World} {v:Value} {n:Nat} {vs:List Value} (h:IsCells w v n vs):∃ a cap,v=.slice a n cap∧n≤cap∧cap≤maxLen:=by
 obtain ⟨rfl,rfl,rfl⟩ | ⟨a,cap,rfl,h1,h2,_⟩:=h
 ·exact ⟨none,0,rfl,Nat.le_refl _,by unfold maxLen;omega⟩
 ·exact ⟨some a,cap,rfl,h1,h2⟩
theorem add_none (b off i:Nat):(⟨b,off,none⟩:Addr).add i=⟨b,off+i,none⟩:=by unfold Addr.add;split <;> simp_all
theorem IsCells.cells {w:World} {v:Value} {n:Nat} {vs:List Value} (h:IsCells w v n vs) (h0:0<vs.length):∃ b off cap,v=.slice (some ⟨b,off,none⟩) n cap∧n≤cap∧cap≤maxLen∧b<w.heap.size∧(∀ i u,vs[i]? = some u→w.cell? ⟨b,off+i,none⟩=some u):=by
 obtain ⟨rfl,rfl,rfl⟩ | ⟨a,cap,rfl,h1,h2,hc⟩:=h
 ·simp at h0
 ·obtain ⟨b,off,spot⟩:=a
  have hc0:=hc 0 vs[0] (by simp [h0])
  have hspot:spot=none:=by simpa [Addr.add] using World.cell?_spot hc0
  subst hspot
  refine ⟨b,off,cap,rfl,h1,h2,World.block_lt_of_cell? w _ hc0,fun i u hu=>?_⟩
  have:=hc i u hu
  rwa [add_none] at this
theorem isCells_own {w:World} {base n size:Nat} {e:TypeId} {v:Value} {xs:List Value} (h:w.ownsRow base e size v n xs):IsCells w v n xs:=by
 have h':=h
 obtain ⟨hl,⟨he,h0⟩ | ⟨g,cap',cur,hv,_,hh,hn,hm,hs,ht⟩⟩:=h
 ·subst h0
  exact .inl ⟨he,rfl,List.eq_nil_of_length_eq_zero (by omega)⟩
 ·subst hv
  refine .inr ⟨⟨g,0,none⟩,cap',rfl,hn,hm,fun i u hu=>?_⟩
  exact h'.cells (g:=g) rfl i u hu
theorem IsCells.take {w:World} {a:Option Addr} {n cap:Nat} {vs:List Value} (h:IsCells w (.slice a n cap) n vs) (m j:Nat) (hm:m≤n):IsCells w (.slice a m cap) m (vs.take j):=by
 obtain ⟨he,h0,rfl⟩ | ⟨x,c,he,h1,h2,hc⟩:=h
 ·simp at he
  obtain ⟨rfl,rfl,rfl⟩:=he
  have:m=0:=by omega
  subst this
  exact .inl ⟨rfl,rfl,by simp⟩
 ·simp at he
  obtain ⟨rfl,rfl⟩:=he
  refine .inr ⟨x,cap,rfl,by omega,h2,fun i u hu=>hc i u ?_⟩
  have hi:=(List.getElem?_eq_some_iff.1 hu).1
  rw [List.length_take] at hi
  rwa [List.getElem?_take_of_lt (by omega)] at hu
theorem IsCells.drop {w:World} {a:Option Addr} {n cap:Nat} {vs:List Value} (h:IsCells w (.slice a n cap) n vs) (m j:Nat) (hm:m≤n):IsCells w (.slice (a.map fun x=>x.add j) (n-m) (cap-m)) (n-m) (vs.drop j):=by
 obtain ⟨he,h0,rfl⟩ | ⟨x,c,he,h1,h2,hc⟩:=h
 ·simp at he
  obtain ⟨rfl,rfl,rfl⟩:=he
  exact .inl ⟨by simp,by omega,by simp⟩
 ·simp at he
  obtain ⟨rfl,rfl⟩:=he
  refine .inr ⟨x.add j,cap-m,rfl,by omega,by omega,fun i u hu=>?_⟩
  rw [List.getElem?_drop] at hu
  have hcell:=hc (j+i) u hu
  rw [Addr.add_add];exact hcell
theorem isCells_zero (w:World) (a:Option Addr) (cap:Nat) (h:a=none→cap=0) (hc:cap≤maxLen):IsCells w (.slice a 0 cap) 0 []:=by
 cases a with
 | none=>rw [h rfl];exact isCells_nil w
 | some x=>exact .inr ⟨x,cap,rfl,Nat.zero_le _,hc,by simp⟩
theorem addr_zero (a:Addr):a.add 0=a:=by
 obtain ⟨b,o,s⟩:=a
 unfold Addr.add
 cases s <;> simp

def i64s (L:List Int):List Value:=L.map fun x=>.int .i64 x
theorem i64s_length (L:List Int):(i64s L).length=L.length:=by simp [i64s]
theorem i64s_get (L:List Int) (i:Nat) (h:i<L.length):(i64s L)[i]? = some (.int .i64 (L.getD i 0)):=by simp [i64s,h,List.getD]
theorem i64s_append (A B:List Int):i64s (A++B)=i64s A++i64s B:=by simp [i64s]
theorem i64s_snoc (A:List Int) (c:Int):i64s (A++[c])=i64s A++[.int .i64 c]:=by simp [i64s]
theorem i64s_set (B:List Int) (i:Nat) (c:Int):(i64s B).set i (.int .i64 c)=i64s (B.set i c):=by simp [i64s,List.map_set]
theorem i64s_one (L:List Int):∀ v∈i64s L,v.oneCell'=true:=by
 intro v hv;simp only [i64s,List.mem_map] at hv;obtain ⟨x,_,rfl⟩:=hv;rfl
def IsInts (w:World) (v:Value) (L:List Int):Prop:=IsCells w v L.length (i64s L)
theorem IsInts.below {w w':World} {v:Value} {L:List Int} (h:IsInts w v L) (hb:Below w.heap.size w w'):IsInts w' v L:=IsCells.below h hb
theorem IsInts.slice {w:World} {v:Value} {L:List Int} (h:IsInts w v L):∃ a cap,v=.slice a L.length cap∧L.length≤cap∧cap≤maxLen:=IsCells.slice h
theorem IsInts.cells {w:World} {v:Value} {L:List Int} (h:IsInts w v L) (h0:0<L.length):∃ b off cap,v=.slice (some ⟨b,off,none⟩) L.length cap∧L.length≤cap∧cap≤maxLen∧b<w.heap.size∧(∀ i,i<L.length→w.cell? ⟨b,off+i,none⟩=some (.int .i64 (L.getD i 0))):=by
 obtain ⟨b,off,cap,h1,h2,h3,h4,h5⟩:=IsCells.cells h (by rw [i64s_length];exact h0)
 exact ⟨b,off,cap,h1,h2,h3,h4,fun i hi=>h5 i _ (i64s_get L i hi)⟩
theorem isInts_own {w:World} {base:Nat} {e:TypeId} {v:Value} {n:Nat} {L:List Int} (hn:n=L.length) (h:w.ownsRow base e 1 v n (i64s L)):IsInts w v L:=by
 subst hn;exact isCells_own h
theorem own_nilI (w:World) (base:Nat) (e:TypeId):w.ownsRow base e 1 (.slice none 0 0) 0 (i64s []):=World.ownsRow_nil _ _ _ _
theorem infoI:(Tryz.prog.info? 3).map (fun i=>(i.zero,i.size,i.bytes))=some (some (.int .i64 0),1,8):=by kernel_rfl
theorem infoI_parts {o:Option TypeInfo} (h:o.map (fun i=>(i.zero,i.size,i.bytes))=some (some (Value.int .i64 0),1,8)):∃ i,o=some i∧i.zero=some (.int .i64 0)∧i.size=1∧i.bytes=8:=by
 cases o with
 | none=>cases h
 | some i=>simp at h;exact ⟨i,rfl,h.1,h.2.1,h.2.2⟩
theorem wpList_append_j {w:World} {ops:Array Oper} {rest:List Oper} {o:Oper} {a:Act} {Q:Exit→Act→World→Prop} (hgd:o.guard=none) (s x:Operand)
  (ho:o.op=.call { callee:=.builtin .append,args:=#[s,x],argTypes:=#[88,88] })
  (base:Nat) (v:Value) (n:Nat) (L:List Int) (c:Int) (hs:a.eval s=v) (hown:w.ownsRow base 3 1 v n (i64s L))
  (b:Nat) (hb:b=w.heap.size) (hx:a.eval x=.slice (some ⟨b,0,none⟩) 1 1)
  (hbytes:n+1≤17592186044416) (hbase:base≤w.heap.size)
  (h:∀ v' w',w'.ownsRow base 3 1 v' (n+1) (i64s (L++[c]))→(w.alloc (.cells #[.int .i64 c] 3 (0,0))).grownBy w' v.ownBlock→wpList Tryz.prog ops Q rest (a.put o.dst v') w'):wpList Tryz.prog ops Q (o::rest) a (w.alloc (.cells #[.int .i64 c] 3 (0,0))):=by
 subst hb
 obtain ⟨i0,hi,hz0,hz1,hz2⟩:=infoI_parts infoI
 exact wpList_append_own _ hgd s x _ ho base 3 i0 (.int .i64 0) 1 8 Tryz.underlying88 hi hz0 hz1 hz2 rfl (by decide) v n _ hs (hown.alloc _) ⟨w.heap.size,0,none⟩ 1 1 [.int .i64 c] hx rfl (cell_one_new _ _ _) (by intro u hu;simp at hu;subst hu;rfl) (by unfold maxLen;omega) (by omega) (by simp;omega) fun v' w' h2 h3 _=>h v' w' (by rw [i64s_snoc];exact h2) h3

theorem isBytes_own {w:World} {base:Nat} {sp:Option Addr} {cap:Nat} {B:List Nat} (hx:∀ x∈B,x<256) (h:w.ownsRow base 5 1 (.slice sp B.length cap) B.length (u8s B)):IsBytes w (.slice sp B.length cap) B:=by
 refine ⟨hx,?_⟩
 obtain ⟨hl,⟨he,h0⟩ | ⟨g,cap',cur,hv,_,hh,hn,hm,hs,ht⟩⟩:=h
 ·have hB:B=[]:=List.eq_nil_of_length_eq_zero h0
  subst hB
  exact .inl ⟨he,rfl⟩
 ·simp at hv
  obtain ⟨rfl,rfl⟩:=hv
  refine .inr ⟨⟨g,0,none⟩,cap,rfl,hn,hm,fun i u hu=>?_⟩
  have hadd:(⟨g,0,none⟩:Addr).add i=⟨g,i,none⟩:=by unfold Addr.add;split <;> simp_all
  rw [hadd]
  have hi:=(List.getElem?_eq_some_iff.1 hu).1
  rw [u8s_length] at hi
  rw [← ht,List.getElem?_take_of_lt (by omega)] at hu
  simp [World.cell?,hh]
  simpa using hu
theorem IsBytes.slice {w:World} {v:Value} {B:List Nat} (h:IsBytes w v B):∃ a cap,v=.slice a B.length cap∧B.length≤cap∧cap≤maxLen:=by
 obtain ⟨_,⟨rfl,rfl⟩ | ⟨a,cap,rfl,h1,h2,_⟩⟩:=h
 ·exact ⟨none,0,rfl,Nat.le_refl _,by unfold maxLen;omega⟩
 ·exact ⟨some a,cap,rfl,h1,h2⟩
theorem IsBytes.take {w:World} {a:Option Addr} {cap:Nat} {B:List Nat} (h:IsBytes w (.slice a B.length cap) B) (n:Nat) (hn:n≤B.length):IsBytes w (.slice a n cap) (B.take n):=by
 have hl:(B.take n).length=n:=by rw [List.length_take];omega
 obtain ⟨hx,⟨he,rfl⟩ | ⟨x,c,he,h1,h2,hc⟩⟩:=h
 ·simp at he hn
  obtain ⟨rfl,rfl⟩:=he
  subst hn
  exact ⟨by simp,.inl ⟨rfl,rfl⟩⟩
 ·simp at he
  obtain ⟨rfl,rfl⟩:=he
  refine ⟨fun y hy=>hx y (List.mem_of_mem_take hy),.inr ⟨x,cap,by rw [hl],by omega,h2,fun i u hu=>hc i u ?_⟩⟩
  have hi:=(List.getElem?_eq_some_iff.1 hu).1
  rw [u8s_length,hl] at hi
  simp only [u8s,List.map_take] at hu ⊢
  rwa [List.getElem?_take_of_lt hi] at hu

theorem getD_lt {B:List Nat} (hx:∀ x∈B,x<256) (i:Nat):B.getD i 0<256:=by
 by_cases h:i<B.length
 ·exact hx _ (by rw [List.getD_eq_getElem?_getD,List.getElem?_eq_getElem h];exact List.getElem_mem h)
 ·rw [List.getD_eq_getElem?_getD,List.getElem?_eq_none (by omega)];simp
theorem wpList_append_bytes {w:World} {ops:Array Oper} {rest:List Oper} {o:Oper} {a:Act} {Q:Exit→Act→World→Prop} (hgd:o.guard=none) (s x:Operand)
  (ho:o.op=.call { callee:=.builtin .append,args:=#[s,x],argTypes:=#[27,27] })
  (base:Nat) (v:Value) (n:Nat) (xs:List Value) (hs:a.eval s=v) (hown:w.ownsRow base 5 1 v n xs)
  (src:Value) (B:List Nat) (hx:a.eval x=src) (hsrc:IsBytes w src B)
  (hbytes:n+B.length≤140737488355328) (hbase:base≤w.heap.size)
  (h:∀ v' w',w'.ownsRow base 5 1 v' (n+B.length) (xs++u8s B)→w.grownBy w' v.ownBlock→wpList Tryz.prog ops Q rest (a.put o.dst v') w'):wpList Tryz.prog ops Q (o::rest) a w:=by
 obtain ⟨i0,hi,hz0,hz1,hz2⟩:=info_parts info5
 obtain ⟨_,⟨rfl,rfl⟩ | ⟨ad,cap,rfl,h1,h2,hc⟩⟩:=hsrc
 ·refine wpList_append_own_none hgd s x _ ho base 5 i0 1 Tryz.underlying27 hi v n xs hs hown hx ?_
  exact h v w (by simpa [u8s] using hown) (grownBy_refl _ _)
 ·refine wpList_append_own w hgd s x _ ho base 5 i0 (.int .u8 0) 1 1 Tryz.underlying27 hi hz0 hz1 hz2 rfl (by decide) v n xs hs hown ad B.length cap (u8s B) hx (by rw [u8s_length,Nat.mul_one]) hc (u8s_one B) (by unfold maxLen;omega) (by omega) hbase ?_
  exact fun v' w' h3 h4 _=>h v' w' h3 h4

theorem Wr.blk {w:World} {b:Nat} {L:List Bool} (h:Wr w b L):∃ cs,Blk w b 104 cs:=by obtain ⟨fo,hb,_⟩:=h;exact ⟨_,hb⟩
theorem Rd.blk {w:World} {base b at_:Nat} {B:List Nat} (h:Rd w base b B at_):∃ cs,Blk w b 201 cs:=by obtain ⟨_,_,_,_,sp,cap,hb,_⟩:=h;exact ⟨_,hb⟩
def SameIn (lo hi:Nat) (w w':World):Prop:=∀ k,lo≤k→k<hi→w'.heap[k]? = w.heap[k]?
theorem SameIn.refl (lo hi:Nat) (w:World):SameIn lo hi w w:=fun _ _ _=>rfl
theorem SameIn.gr {lo hi r:Nat} {w w' w'':World} (h:SameIn lo hi w w') (hg:Gr w' w'' r) (hs:hi≤w'.heap.size) (hr:r<lo∨hi≤r):SameIn lo hi w w'':=
 fun k h1 h2=>(hg.block k (by omega) (by simp;omega)).trans (h k h1 h2)
theorem SameIn.below {lo hi:Nat} {w w' w'':World} (h:SameIn lo hi w w') (hb:Below w'.heap.size w' w'') (hs:hi≤w'.heap.size):SameIn lo hi w w'':=
 fun k h1 h2=>(hb.block k (by omega)).trans (h k h1 h2)

def bools (L:List Bool):List Value:=L.map Value.bool
def BoolsAt (w:World) (sp:Option Addr) (cap:Nat) (M:List Bool):Prop:=
 M.length≤cap∧cap≤maxLen∧((sp=none∧M=[]∧cap=0)∨∃ g off cs,sp=some ⟨g,off,none⟩∧Blk w g 4 cs∧∀ (i:Nat) (u:Value),(bools M)[i]? = some u→cs[off+i]? = some u)
theorem BoolsAt.gr {w w':World} {sp:Option Addr} {cap r:Nat} {M:List Bool} {t:TypeId} {ds:List Value} (h:BoolsAt w sp cap M) (hg:Gr w w' r) (hr:Blk w r t ds) (ht:t≠4):BoolsAt w' sp cap M:=by
 obtain ⟨h1,h2,h | ⟨g,off,cs,rfl,hb,hc⟩⟩:=h
 ·exact ⟨h1,h2,.inl h⟩
 ·have:=hb.ne hr (Ne.symm ht)
  exact ⟨h1,h2,.inr ⟨g,off,cs,rfl,hb.grown hg (by simpa using this),hc⟩⟩
theorem BoolsAt.cell {w:World} {sp:Option Addr} {cap k:Nat} {M:List Bool} (h:BoolsAt w sp cap M) (hk:k<M.length):∃ g off,sp=some ⟨g,off,none⟩∧w.cell? ⟨g,off+k,none⟩=some (.bool (M.getD k false)):=by
 obtain ⟨h1,h2,⟨_,rfl,_⟩ | ⟨g,off,cs,rfl,hb,hc⟩⟩:=h
 ·simp at hk
 ·exact ⟨g,off,rfl,hb.cell (hc k _ (by simp [bools,hk,List.getD]))⟩
theorem BoolsAt.drop {w:World} {g off cap n:Nat} {M:List Bool} (h:BoolsAt w (some ⟨g,off,none⟩) cap M) (hn:n≤M.length):BoolsAt w (some ⟨g,off+n,none⟩) (cap-n) (M.drop n):=by
 obtain ⟨h1,h2,⟨he,_⟩ | ⟨g',off',cs,he,hb,hc⟩⟩:=h
 ·simp at he
 ·simp at he
  obtain ⟨rfl,rfl⟩:=he
  refine ⟨by rw [List.length_drop];omega,by omega,.inr ⟨g,off+n,cs,rfl,hb,fun i u hu=>?_⟩⟩
  rw [Nat.add_assoc]
  apply hc
  simp only [bools,List.map_drop,List.getElem?_drop] at hu ⊢
  exact hu
theorem BoolsAt.nil {w:World} {cap:Nat} {M:List Bool} (h:BoolsAt w none cap M):M=[]∧cap=0:=by
 obtain ⟨h1,h2,⟨_,h3,h4⟩ | ⟨g',off',cs,hx,hb,hc⟩⟩:=h
 ·exact ⟨h3,h4⟩
 ·simp at hx

def part (L:List Bool) (k:Nat):List Nat:=(List.range ((L.length+7)/8)).map (byteAt (L.take k))
theorem shr128 {s:Nat} (h:s<8):(128:Int)/2^s=((2^(7-s):Nat):Int):=by
 rcases (show s=0∨s=1∨s=2∨s=3∨s=4∨s=5∨s=6∨s=7 by omega) with h | h | h | h | h | h | h | h <;> subst h <;> decide
theorem or128 (T s:Nat) (hT:T<256) (h:s<8):bits BinOp.or IntKind.u8 (T:Int) ((128:Int)/2^s)=((T ||| 2^(7-s):Nat):Int):=by
 have:2^(7-s)≤2^7:=Nat.pow_le_pow_right (by omega) (by omega)
 rw [shr128 h,u8_or_nat _ _ hT (by omega)]

def build29S (v:Array (Nat×Value)):Sem Value:=Instr.build 104 v
theorem build29_eq (v:Array (Nat×Value)):Instr.build 104 v=build29S v:=rfl
theorem run_build29 (w:World):(build29S #[]).run Tryz.prog w=.ok (.agg (wcells none []).toArray) w:=by kernel_rfl
end Go.Proofs.YtmjpnbadfmgimaaGreatDoor.S7
namespace Go.Proofs.YtmjpnbadfmgimaaGreatDoor.S7.Pl

def symK (lens:List Int) (n:Nat):Nat→List Int
 | 0=>[]
 | k+1=>if lens.getD k 0=n then symK lens n k++[(k:Int)] else symK lens n k
def row (lens:List Int) (n:Nat):List Int:=symK lens n lens.length
def nx (lens:List Int):Nat→Nat
 | 0=>0
 | n+1=>2*nx lens n+(row lens (n+1)).length
def kr (lens:List Int):Nat→Nat
 | 0=>0
 | k+1=>kr lens k+(if 1≤lens.getD k 0∧lens.getD k 0≤15 then 2^(15-(lens.getD k 0).toNat) else 0)
def upT (lens:List Int) (k:Nat):Nat→Nat
 | 0=>0
 | n+1=>upT lens k n+(symK lens (n+1) k).length*2^(14-n)
def inB (lens:List Int):Prop:=∀ x∈lens,0≤x∧x≤15
def okL (lens:List Int):Prop:=lens.length≤300∧inB lens∧kr lens lens.length≤32768
def codeN (lens:List Int) (i:Nat):Nat:=2*nx lens ((lens.getD i 0).toNat-1)+(symK lens (lens.getD i 0).toNat i).length

theorem getD_in {lens:List Int} (h:inB lens) (k:Nat):0≤lens.getD k 0∧lens.getD k 0≤15:=by
 by_cases hk:k<lens.length
 ·rw [List.getD_eq_getElem?_getD,List.getElem?_eq_getElem hk];exact h _ (List.getElem_mem hk)
 ·rw [List.getD_eq_getElem?_getD,List.getElem?_eq_none (by omega)];simp
theorem symK_le (lens:List Int) (n k:Nat):(symK lens n k).length≤k:=by
 induction k with
 | zero=>simp [symK]
 | succ k ih=>
   simp only [symK]
   split
   ·rw [List.length_append,List.length_singleton];omega
   ·omega
theorem symK_mono (lens:List Int) (n:Nat) {k m:Nat} (h:k≤m):∃ T,symK lens n m=symK lens n k++T:=by
 induction m with
 | zero=>obtain rfl:k=0:=by omega
         exact ⟨[],by simp⟩
 | succ m ih=>
   by_cases hk:k=m+1
   ·subst hk;exact ⟨[],by simp⟩
   ·obtain ⟨T,hT⟩:=ih (by omega)
    simp only [symK]
    split
    ·exact ⟨T++[(m:Int)],by rw [hT,List.append_assoc]⟩
    ·exact ⟨T,hT⟩
theorem symK_at {lens:List Int} {n i:Nat} (h:lens.getD i 0=n) {m:Nat} (hm:i<m):(symK lens n i).length<(symK lens n m).length∧(symK lens n m)[(symK lens n i).length]? = some (i:Int):=by
 obtain ⟨T,hT⟩:=symK_mono lens n (show i+1≤m by omega)
 have e:symK lens n (i+1)=symK lens n i++[(i:Int)]:=by simp only [symK,if_pos h]
 rw [e] at hT
 rw [hT]
 constructor
 ·simp only [List.length_append,List.length_cons,List.length_nil];omega
 ·rw [List.append_assoc,List.getElem?_append_right (Nat.le_refl _),Nat.sub_self];rfl
theorem symK_mem {lens:List Int} {n:Nat} {k:Nat} {r:Nat} {x:Int} (h:(symK lens n k)[r]? = some x):∃ i:Nat,x=i∧i<k∧lens.getD i 0=n∧(symK lens n i).length=r:=by
 induction k with
 | zero=>simp [symK] at h
 | succ k ih=>
   simp only [symK] at h
   split at h
   ·rename_i hk
    by_cases hr:r<(symK lens n k).length
    ·rw [List.getElem?_append_left hr] at h
     obtain ⟨i,h1,h2,h3⟩:=ih h
     exact ⟨i,h1,by omega,h3⟩
    ·rw [List.getElem?_append_right (by omega)] at h
     have hr0:r-(symK lens n k).length=0:=by
      cases hq:r-(symK lens n k).length with
      | zero=>rfl
      | succ q=>rw [hq] at h;simp at h
     rw [hr0] at h
     simp at h
     exact ⟨k,h.symm,by omega,hk,by omega⟩
   ·obtain ⟨i,h1,h2,h3⟩:=ih h
    exact ⟨i,h1,by omega,h3⟩
theorem row_len (lens:List Int) (n:Nat):(row lens n).length≤lens.length:=symK_le _ _ _

theorem upT_succ (lens:List Int) (k n:Nat) (hn:n≤15):upT lens (k+1) n=upT lens k n+(if 1≤lens.getD k 0∧lens.getD k 0≤n then 2^(15-(lens.getD k 0).toNat) else 0):=by
 induction n with
 | zero=>simp only [upT];split <;> omega
 | succ n ih=>
   simp only [upT]
   rw [ih (by omega)]
   simp only [symK]
   by_cases h:lens.getD k 0=((n+1:Nat):Int)
   ·rw [if_pos h,if_neg (by omega),if_pos (by omega),h]
    simp only [List.length_append,List.length_singleton,Nat.add_mul]
    rw [show 15-((n+1:Nat):Int).toNat=14-n by omega]
    omega
   ·rw [if_neg h]
    by_cases h2:1≤lens.getD k 0∧lens.getD k 0≤(n:Int)
    ·rw [if_pos h2,if_pos (by omega)];omega
    ·rw [if_neg h2,if_neg (by omega)];omega
theorem upT_zero (lens:List Int) (n:Nat):upT lens 0 n=0:=by
 induction n with
 | zero=>rfl
 | succ n ih=>simp [upT,ih,symK]
theorem pw15:(2:Nat)^15=32768:=by decide
theorem kr_upT (lens:List Int) (k:Nat):kr lens k=upT lens k 15:=by
 induction k with
 | zero=>simp [kr,upT_zero]
 | succ k ih=>rw [upT_succ _ _ _ (by omega),← ih];rfl
theorem kr_le (lens:List Int) (k:Nat):kr lens k≤k*16384:=by
 induction k with
 | zero=>simp [kr]
 | succ k ih=>
   simp only [kr]
   split
   ·rename_i h
    have h1:2^(15-(lens.getD k 0).toNat)≤2^14:=Nat.pow_le_pow_right (by omega) (by omega)
    have h2:(2:Nat)^14=16384:=by decide
    rw [h2] at h1
    rw [Nat.add_mul,Nat.one_mul]
    exact Nat.add_le_add ih h1
   ·rw [Nat.add_mul,Nat.one_mul]
    exact Nat.le_trans ih (Nat.le_add_right _ _)
theorem upT_mono (lens:List Int) (k:Nat) {n m:Nat} (h:n≤m):upT lens k n≤upT lens k m:=by
 induction m with
 | zero=>obtain rfl:n=0:=by omega
         exact Nat.le_refl _
 | succ m ih=>
   by_cases e:n=m+1
   ·subst e;exact Nat.le_refl _
   ·have:=ih (by omega)
    simp only [upT];omega
theorem nx_up (lens:List Int) {n:Nat} (hn:n≤15):nx lens n*2^(15-n)=upT lens lens.length n:=by
 induction n with
 | zero=>simp [nx,upT]
 | succ n ih=>
   simp only [nx,upT,row]
   rw [← ih (by omega),show 15-(n+1)=14-n by omega,show 15-n=(14-n)+1 by omega,Nat.pow_succ,Nat.add_mul,Nat.mul_comm 2,Nat.mul_assoc,Nat.mul_comm 2]
theorem pow_split {a b:Nat} (h:a≤b):(2:Nat)^b=2^a*2^(b-a):=by rw [← Nat.pow_add];congr 1;omega
theorem nx_le {lens:List Int} (h:kr lens lens.length≤32768) {n:Nat} (hn:n≤15):nx lens n≤2^n:=by
 have h1:=nx_up lens hn
 have h2:=upT_mono lens lens.length hn
 rw [kr_upT] at h
 have h3:nx lens n*2^(15-n)≤2^n*2^(15-n):=by rw [h1,← pow_split hn,pw15];omega
 exact Nat.le_of_mul_le_mul_right h3 (Nat.two_pow_pos _)
theorem nx_small {lens:List Int} (h:kr lens lens.length≤32768) {n:Nat} (hn:n≤15):nx lens n≤32768:=
 Nat.le_trans (nx_le h hn) (by rw [← pw15];exact Nat.pow_le_pow_right (n:=2) (by omega) hn)
theorem code_lo {lens:List Int} {i n:Nat} (hn:lens.getD i 0=n) (h0:0<n) (h15:n≤15):upT lens lens.length (n-1)≤codeN lens i*2^(15-n):=by
 rw [← nx_up lens (show n-1≤15 by omega),show 15-(n-1)=(15-n)+1 by omega,Nat.pow_succ,← Nat.mul_assoc,Nat.mul_comm _ 2,← Nat.mul_assoc]
 apply Nat.mul_le_mul_right
 unfold codeN
 rw [hn]
 simp
theorem code_hi {lens:List Int} {i n:Nat} (hi:i<lens.length) (hn:lens.getD i 0=n) (h0:0<n) (h15:n≤15):(codeN lens i+1)*2^(15-n)≤upT lens lens.length n:=by
 rw [← nx_up lens h15]
 apply Nat.mul_le_mul_right
 unfold codeN
 rw [hn]
 have h1:=(symK_at hn hi).1
 obtain ⟨m,rfl⟩:∃ m,n=m+1:=⟨n-1,by omega⟩
 simp only [nx,row,Int.toNat_natCast,Nat.add_sub_cancel]
 omega
theorem code_lt_nx {lens:List Int} {i n:Nat} (hi:i<lens.length) (hn:lens.getD i 0=n) (h0:0<n) (h15:n≤15):codeN lens i<nx lens n:=by
 have h:=code_hi hi hn h0 h15
 rw [← nx_up lens h15] at h
 exact Nat.lt_of_succ_le (Nat.le_of_mul_le_mul_right h (Nat.two_pow_pos _))
theorem code_lt {lens:List Int} (hk:kr lens lens.length≤32768) {i n:Nat} (hi:i<lens.length) (hn:lens.getD i 0=n) (h0:0<n) (h15:n≤15):codeN lens i<2^n:=
 Nat.lt_of_lt_of_le (code_lt_nx hi hn h0 h15) (nx_le hk h15)
def stepF (lens:List Int) (M:List Bool):Nat→Nat→Option (Int×Nat)
 | 0,_=>none
 | f+1,n=>if M.length≤n then none else if val (M.take (n+1))<nx lens (n+1) then some ((row lens (n+1)).getD (val (M.take (n+1))-2*nx lens n) 0,n+1) else stepF lens M f (n+1)
def stepL (lens:List Int) (M:List Bool):Option (Int×Nat):=stepF lens M 15 0
theorem val_take_succ (M:List Bool) (n:Nat) (h:n<M.length):val (M.take (n+1))=2*val (M.take n)+(M.getD n false).toNat:=by
 rw [List.take_succ_eq_append_getElem h,val_snoc]
 simp [List.getD,h,Nat.mul_comm]
theorem stepF_some {lens:List Int} {M:List Bool}:∀ (f n:Nat) {s:Int} {m:Nat},nx lens n≤val (M.take n)→n+f=15→stepF lens M f n=some (s,m)→
  n<m∧m≤15∧m≤M.length∧∃ i:Nat,s=i∧i<lens.length∧lens.getD i 0=m∧codeN lens i=val (M.take m):=by
 intro f
 induction f with
 | zero=>intro n s m _ _ h;simp [stepF] at h
 | succ f ih=>
   intro n s m hv hf h
   simp only [stepF] at h
   split at h
   ·simp at h
   ·rename_i hl
    have e:=val_take_succ M n (by omega)
    split at h
    ·rename_i hlt
     simp only [Option.some.injEq,Prod.mk.injEq] at h
     obtain ⟨h1,h2⟩:=h
     refine ⟨by omega,by omega,by omega,?_⟩
     have hr:val (M.take (n+1))-2*nx lens n<(row lens (n+1)).length:=by simp only [nx] at hlt;omega
     have hg:(row lens (n+1))[val (M.take (n+1))-2*nx lens n]? = some s:=by
      rw [← h1,List.getD_eq_getElem?_getD,List.getElem?_eq_getElem hr];rfl
     obtain ⟨i,hi1,hi2,hi3,hi4⟩:=symK_mem hg
     refine ⟨i,hi1,hi2,by rw [← h2];exact hi3,?_⟩
     unfold codeN
     rw [hi3,← h2]
     simp only [Int.toNat_natCast,Nat.add_sub_cancel]
     omega
    ·rename_i hge
     obtain ⟨h1,h2⟩:=ih (n+1) (by omega) (by omega) h
     exact ⟨by omega,h2⟩
theorem stepL_some {lens:List Int} {M:List Bool} {s:Int} {m:Nat} (h:stepL lens M=some (s,m)):
  0<m∧m≤15∧m≤M.length∧∃ i:Nat,s=i∧i<lens.length∧lens.getD i 0=m∧codeN lens i=val (M.take m):=
 stepF_some 15 0 (by simp [nx]) rfl h
theorem stepF_code {lens:List Int} {M:List Bool} {i m:Nat} (hi:i<lens.length) (hm:lens.getD i 0=m) (h15:m≤15) (hl:m≤M.length) (hc:codeN lens i=val (M.take m)):
  ∀ (f n:Nat),n<m→n+f=15→(∀ j,j≤m→codeN lens i/2^(m-j)=val (M.take j))→stepF lens M f n=some ((i:Int),m):=by
 intro f
 induction f with
 | zero=>intro n h1 h2;omega
 | succ f ih=>
   intro n hn hf hj
   simp only [stepF]
   rw [if_neg (by omega),← hj (n+1) (by omega)]
   by_cases h:n+1=m
   ·have e:codeN lens i/2^(m-(n+1))=codeN lens i:=by rw [h,Nat.sub_self];simp
    rw [e,h,if_pos (code_lt_nx hi hm (by omega) h15)]
    congr 2
    have e2:codeN lens i-2*nx lens n=(symK lens m i).length:=by
     unfold codeN
     rw [hm]
     simp only [Int.toNat_natCast]
     rw [show m-1=n by omega]
     omega
    rw [e2]
    have:=(symK_at hm hi).2
    unfold row
    rw [List.getD_eq_getElem?_getD,this];rfl
   ·have hlo:=code_lo hm (by omega) h15
    have h2:=upT_mono lens lens.length (show n+1≤m-1 by omega)
    rw [← nx_up lens (show n+1≤15 by omega)] at h2
    have h3:nx lens (n+1)*2^(m-(n+1))*2^(15-m)≤codeN lens i*2^(15-m):=by
     rw [Nat.mul_assoc,← Nat.pow_add,show m-(n+1)+(15-m)=15-(n+1) by omega];omega
    have h4:=Nat.le_of_mul_le_mul_right h3 (Nat.two_pow_pos _)
    have h5:nx lens (n+1)≤codeN lens i/2^(m-(n+1)):=(Nat.le_div_iff_mul_le (Nat.two_pow_pos _)).2 h4
    rw [if_neg (by omega)]
    exact ih (n+1) (by omega) (by omega) hj
theorem stepL_code {lens:List Int} (hk:kr lens lens.length≤32768) {i m:Nat} (hi:i<lens.length) (hm:lens.getD i 0=m) (h0:0<m) (h15:m≤15) (R:List Bool):
  stepL lens (bitsOf (codeN lens i) m++R)=some ((i:Int),m):=by
 have hlt:=code_lt hk hi hm h0 h15
 have hj:∀ j,j≤m→codeN lens i/2^(m-j)=val ((bitsOf (codeN lens i) m++R).take j):=by
  intro j hj
  rw [bitsOf_split _ m j hj,List.append_assoc,List.take_append_of_le_length (by rw [bitsOf_length];omega),List.take_of_length_le (by rw [bitsOf_length];omega),val_bitsOf,Nat.shiftRight_eq_div_pow,Nat.mod_eq_of_lt]
  apply Nat.div_lt_of_lt_mul
  rw [← Nat.pow_add,show m-j+j=m by omega];exact hlt
 have e:codeN lens i=val ((bitsOf (codeN lens i) m++R).take m):=by
  have:=hj m (Nat.le_refl _)
  rw [Nat.sub_self] at this
  simpa using this
 exact stepF_code hi hm h15 (by simp [bitsOf_length]) e 15 0 h0 rfl hj
def rdF (lens:List Int) (en:Int):Nat→List Bool→List Int→Nat→List Int×Int×Nat
 | 0,_,_,_=>([],2,0)
 | m+1,M,acc,at_=>match stepL lens (M.drop at_) with
   | none=>([],6,0)
   | some (s,n)=>if s=en then (acc++[s],0,at_+n) else rdF lens en m M (acc++[s]) (at_+n)
theorem rdF_none {lens:List Int} {en:Int} {m:Nat} {M:List Bool} {acc:List Int} {at_:Nat} (h:stepL lens (M.drop at_)=none):rdF lens en (m+1) M acc at_=([],6,0):=by
 simp only [rdF,h]
theorem rdF_end {lens:List Int} {en:Int} {m:Nat} {M:List Bool} {acc:List Int} {at_:Nat} {n:Nat} (h:stepL lens (M.drop at_)=some (en,n)):rdF lens en (m+1) M acc at_=(acc++[en],0,at_+n):=by
 simp [rdF,h]
theorem rdF_more {lens:List Int} {en:Int} {m:Nat} {M:List Bool} {acc:List Int} {at_:Nat} {s:Int} {n:Nat} (h:stepL lens (M.drop at_)=some (s,n)) (hs:s≠en):rdF lens en (m+1) M acc at_=rdF lens en m M (acc++[s]) (at_+n):=by
 simp [rdF,h,hs]
end Go.Proofs.YtmjpnbadfmgimaaGreatDoor.S7.Pl
namespace Go.Proofs.YtmjpnbadfmgimaaGreatDoor.S7
open Go.RowKit _root_.Go.Proofs.YtmjpnbadfmgimaaGreatDoor.Pl _root_.Go.Proofs.YtmjpnbadfmgimaaGreatDoor.S7.Pl
theorem intOf_int (x:Int):intOf (.int .i64 x)=x:=rfl
namespace Pl
theorem drop_cons {L:List Int} {i:Nat} (h:i<L.length):L.drop i=L.getD i 0::L.drop (i+1):=by
 rw [List.drop_eq_getElem_cons h];simp [List.getD,h]
theorem any_step {L:List Int} {i:Nat} (p:Int→Bool) (h:i<L.length) (h0:p (L.getD i 0)=false):(L.drop i).any p=(L.drop (i+1)).any p:=by
 rw [drop_cons h,List.any_cons,h0,Bool.false_or]
theorem any_here {L:List Int} {i:Nat} (p:Int→Bool) (h:i<L.length) (h0:p (L.getD i 0)=true):(L.drop i).any p=true:=by
 rw [drop_cons h,List.any_cons,h0,Bool.true_or]
def noLen (x:Int):Bool:=decide (x<0∨15<x)
theorem noLen_any (L:List Int):L.any noLen=false↔inB L:=by
 unfold inB noLen
 rw [List.any_eq_false]
 constructor
 ·intro h x hx;have:=h x hx;simp at this;omega
 ·intro h x hx;have:=h x hx;simp;omega
end Pl
theorem noLength_any (x:Int) (w:World):Calls Tryz.prog 128 #[.int .i64 x] w fun e w'=>e=.returned (.bool (noLen x))∧w=w':=by
 unfold noLen
 by_cases h1:x<0
 ·have e:decide (x<0∨15<x)=true:=decide_eq_true (.inl h1)
  rw [e]
  go_enter Tryz.func128,Tryz.ntmps128
  go_wp2
  go_ret
  exact ⟨rfl,rfl⟩
 ·by_cases h2:15<x
  ·have e:decide (x<0∨15<x)=true:=decide_eq_true (.inr h2)
   rw [e]
   go_enter Tryz.func128,Tryz.ntmps128
   go_wp2
   go_ret
   exact ⟨rfl,rfl⟩
  ·have e:decide (x<0∨15<x)=false:=decide_eq_false (by omega)
   rw [e]
   go_enter Tryz.func128,Tryz.ntmps128
   go_wp2
   go_ret
   exact ⟨rfl,rfl⟩
theorem index_no (p:Int→Bool) (v:Value) (F:List Int) (w:World) (hv:IsInts w v F) (hF:F.length≤17179869184)
  (hp:∀ x∈F,Calls Tryz.prog 128 #[.int .i64 x] w fun e w'=>e=.returned (.bool (p x))∧w=w'):
  Calls Tryz.prog 105 #[v,.func (.func 128) #[] #[]] w fun e w'=>(∃ r,e=.returned (.int .i64 r)∧(F.any p=true↔0≤r))∧w=w':=by
 obtain ⟨a,cap,rfl,hcap,hmax⟩:=hv.slice
 have HV:=Lib.hid hv
 have HP:=Lib.hid hp
 clear hv hp
 go_enter Tryz.func105,Tryz.ntmps105
 go_wp2
 go_loopw [8] (fun y wr=>∃ (i:Nat),i≤F.length∧y=.int .i64 i∧(F.drop i).any p=F.any p∧wr=w) (fun y _=>F.length-(intOf y).toNat)
 case atStart=>exact ⟨0,by omega,rfl,rfl,rfl⟩
 case round=>
  obtain ⟨i,hi,rfl,he,rfl⟩:=hrel
  have HE:=Lib.hid he
  clear he
  by_cases hlt:i<F.length
  ·obtain ⟨bb,off,cap',hs,_,_,_,hc⟩:=HV.out.cells (by omega)
   simp at hs
   obtain ⟨rfl,rfl⟩:=hs
   have c0:=hc i hlt
   have hm:F.getD i 0∈F:=by rw [List.getD_eq_getElem?_getD,List.getElem?_eq_getElem hlt];exact List.getElem_mem hlt
   have hcl:=HP.out _ hm
   have H1:=Lib.hid (@any_step F i p hlt)
   have H2:=Lib.hid (@any_here F i p hlt)
   clear hm
   generalize F.getD i 0=x at*
   clear hc
   cases hx:p x with
   | false=>
     rw [hx] at hcl
     go_wp2_with fail
     refine hcl.mono ?_
     rintro e w' ⟨rfl,rfl⟩
     go_wp2
     refine ⟨⟨i+1,by omega,by first | rfl | go_num,(H1.out hx).symm.trans HE.out,by first | trivial | rfl⟩,?_⟩
     simp only [intOf_int];omega
   | true=>
     rw [hx] at hcl
     go_wp2_with fail
     refine hcl.mono ?_
     rintro e w' ⟨rfl,rfl⟩
     go_wp2
     go_ret
     exact ⟨⟨_,rfl,by rw [← HE.out,H2.out hx];exact ⟨fun _=>by omega,fun _=>rfl⟩⟩,rfl⟩
  ·have e:F.drop i=[]:=List.drop_eq_nil_of_le (by omega)
   rw [e] at HE
   clear e
   go_wp2
   go_ret
   exact ⟨⟨_,rfl,by rw [← HE.out];exact ⟨fun h=>by simp at h,fun h=>by omega⟩⟩,rfl⟩
theorem contains_no (p:Int→Bool) (v:Value) (F:List Int) (w:World) (hv:IsInts w v F) (hF:F.length≤17179869184)
  (hp:∀ x∈F,Calls Tryz.prog 128 #[.int .i64 x] w fun e w'=>e=.returned (.bool (p x))∧w=w'):
  Calls Tryz.prog 89 #[v,.func (.func 128) #[] #[]] w fun e w'=>e=.returned (.bool (F.any p))∧w=w':=by
 have hc:=index_no p v F w hv hF hp
 go_enter Tryz.func89,Tryz.ntmps89
 go_wp2_with fail
 refine hc.mono ?_
 rintro e w' ⟨⟨r,rfl,hr⟩,rfl⟩
 have H:Hid (decide (0≤r)=F.any p):=Lib.hid (by cases h:F.any p <;> simp_all)
 clear hr hc
 go_wp2
 go_ret
 exact ⟨by rw [← H.out];rfl,rfl⟩
theorem index_cl (b:Nat) (p:Int→Bool) (v:Value) (F:List Int) (w:World) (hv:IsInts w v F) (hF:F.length≤17179869184)
  (hp:∀ x∈F,Calls Tryz.prog 88 #[.int .i64 x,.pointer (some ⟨b,0,none⟩)] w fun e w'=>e=.returned (.bool (p x))∧w=w'):
  Calls Tryz.prog 105 #[v,.func (.func 88) #[] #[.pointer (some ⟨b,0,none⟩)]] w fun e w'=>(∃ r,e=.returned (.int .i64 r)∧(F.any p=true↔0≤r))∧w=w':=by
 obtain ⟨a,cap,rfl,hcap,hmax⟩:=hv.slice
 have HV:=Lib.hid hv
 have HP:=Lib.hid hp
 clear hv hp
 go_enter Tryz.func105,Tryz.ntmps105
 go_wp2
 go_loopw [8] (fun y wr=>∃ (i:Nat),i≤F.length∧y=.int .i64 i∧(F.drop i).any p=F.any p∧wr=w) (fun y _=>F.length-(intOf y).toNat)
 case atStart=>exact ⟨0,by omega,rfl,rfl,rfl⟩
 case round=>
  obtain ⟨i,hi,rfl,he,rfl⟩:=hrel
  have HE:=Lib.hid he
  clear he
  by_cases hlt:i<F.length
  ·obtain ⟨bb,off,cap',hs,_,_,_,hc⟩:=HV.out.cells (by omega)
   simp at hs
   obtain ⟨rfl,rfl⟩:=hs
   have c0:=hc i hlt
   have hm:F.getD i 0∈F:=by rw [List.getD_eq_getElem?_getD,List.getElem?_eq_getElem hlt];exact List.getElem_mem hlt
   have hcl:=HP.out _ hm
   have H1:=Lib.hid (@any_step F i p hlt)
   have H2:=Lib.hid (@any_here F i p hlt)
   clear hm
   generalize F.getD i 0=x at*
   clear hc
   cases hx:p x with
   | false=>
     rw [hx] at hcl
     go_wp2_with fail
     refine hcl.mono ?_
     rintro e w' ⟨rfl,rfl⟩
     go_wp2
     refine ⟨⟨i+1,by omega,by first | rfl | go_num,(H1.out hx).symm.trans HE.out,by first | trivial | rfl⟩,?_⟩
     simp only [intOf_int];omega
   | true=>
     rw [hx] at hcl
     go_wp2_with fail
     refine hcl.mono ?_
     rintro e w' ⟨rfl,rfl⟩
     go_wp2
     go_ret
     exact ⟨⟨_,rfl,by rw [← HE.out,H2.out hx];exact ⟨fun _=>by omega,fun _=>rfl⟩⟩,rfl⟩
  ·have e:F.drop i=[]:=List.drop_eq_nil_of_le (by omega)
   rw [e] at HE
   clear e
   go_wp2
   go_ret
   exact ⟨⟨_,rfl,by rw [← HE.out];exact ⟨fun h=>by simp at h,fun h=>by omega⟩⟩,rfl⟩
theorem contains_cl (b:Nat) (p:Int→Bool) (v:Value) (F:List Int) (w:World) (hv:IsInts w v F) (hF:F.length≤17179869184)
  (hp:∀ x∈F,Calls Tryz.prog 88 #[.int .i64 x,.pointer (some ⟨b,0,none⟩)] w fun e w'=>e=.returned (.bool (p x))∧w=w'):
  Calls Tryz.prog 89 #[v,.func (.func 88) #[] #[.pointer (some ⟨b,0,none⟩)]] w fun e w'=>e=.returned (.bool (F.any p))∧w=w':=by
 have hc:=index_cl b p v F w hv hF hp
 go_enter Tryz.func89,Tryz.ntmps89
 go_wp2_with fail
 refine hc.mono ?_
 rintro e w' ⟨⟨r,rfl,hr⟩,rfl⟩
 have H:Hid (decide (0≤r)=F.any p):=Lib.hid (by cases h:F.any p <;> simp_all)
 clear hr hc
 go_wp2
 go_ret
 exact ⟨by rw [← H.out];rfl,rfl⟩
theorem badLens_any (v:Value) (F:List Int) (w:World) (hv:IsInts w v F) (hF:F.length≤17179869184):
  Calls Tryz.prog 89 #[v,.func (.func 128) #[] #[]] w fun e w'=>e=.returned (.bool (F.any noLen))∧w=w':=
 contains_no noLen v F w hv hF fun x _=>noLength_any x w
theorem infoT:(Tryz.prog.info? 88).map (fun i=>(i.zero,i.size,i.bytes))=some (some (.slice none 0 0),1,24):=by kernel_rfl
theorem infoT_parts {o:Option TypeInfo} (h:o.map (fun i=>(i.zero,i.size,i.bytes))=some (some (Value.slice none 0 0),1,24)):∃ i,o=some i∧i.zero=some (.slice none 0 0)∧i.size=1∧i.bytes=24:=by
 cases o with
 | none=>cases h
 | some i=>simp at h;exact ⟨i,rfl,h.1,h.2.1,h.2.2⟩
theorem pow_wrap:∀ p,p<15→wrap64 (2^p)=2^p:=by decide +kernel
def nilRows:List Value:=List.replicate 15 (.slice none 0 0)
theorem made_rows:(madeCells (Value.slice none 0 0).cells (15*1)).toList=nilRows:=by kernel_rfl
def Tab (base:Nat) (w:World) (g:Nat) (vs:List Value) (R:Nat→List Int):Prop:=
 base≤g∧Blk w g 88 vs∧vs.length=15∧∀ i,i<15→∃ u,vs[i]? = some u∧w.ownsRow base 3 1 u (R i).length (i64s (R i))∧(R i=[]→u=.slice none 0 0)
theorem Tab.below {base:Nat} {w w':World} {g:Nat} {vs:List Value} {R:Nat→List Int} (h:Tab base w g vs R) (hb:Below w.heap.size w w'):Tab base w' g vs R:=by
 obtain ⟨h1,h2,h3,h4⟩:=h
 refine ⟨h1,h2.below hb h2.lt,h3,fun i hi=>?_⟩
 obtain ⟨u,a,b,c⟩:=h4 i hi
 exact ⟨u,a,own_below b hb,c⟩
theorem Tab.gr {base:Nat} {w w':World} {g r:Nat} {vs cs:List Value} {t:TypeId} {R:Nat→List Int} (h:Tab base w g vs R) (hg:Gr w w' r) (hr:Blk w r t cs) (h1:t≠88) (h2:t≠3):Tab base w' g vs R:=by
 obtain ⟨a1,a2,a3,a4⟩:=h
 have hne:=a2.ne hr (Ne.symm h1)
 refine ⟨a1,a2.grown hg (by simpa using hne),a3,fun i hi=>?_⟩
 obtain ⟨u,a,b,c⟩:=a4 i hi
 exact ⟨u,a,own_gr b hg hr h2,c⟩
theorem own_apart {w:World} {base:Nat} {e:TypeId} {v1 v2:Value} {A B:List Int} {g:Nat} (h1:w.ownsRow base e 1 v1 A.length (i64s A)) (h2:w.ownsRow base e 1 v2 B.length (i64s B))
  (ha:0<A.length) (hb:0<B.length) (hne:A.getD 0 0≠B.getD 0 0) (hg:v1.ownBlock=some g):v2.ownBlock≠some g:=by
 intro hg2
 obtain ⟨g1,c1,rfl,_,_,_⟩:=own_open h1 ha
 obtain ⟨g2,c2,rfl,_,_,_⟩:=own_open h2 hb
 have e1:some g1=some g:=hg
 have e2:some g2=some g:=hg2
 simp at e1 e2
 subst e1
 subst e2
 have k1:=h1.cells (g:=g2) rfl 0 _ (i64s_get A 0 ha)
 have k2:=h2.cells (g:=g2) rfl 0 _ (i64s_get B 0 hb)
 rw [k1] at k2
 simp at k2
 exact hne k2
def tabR (lens:List Int) (k:Nat):Nat→List Int:=fun i=>symK lens (i+1) k
theorem tabR_apart {lens:List Int} {k i j:Nat} (hij:i≠j) (hi:0<(tabR lens k i).length) (hj:0<(tabR lens k j).length):(tabR lens k i).getD 0 0≠(tabR lens k j).getD 0 0:=by
 unfold tabR at*
 intro e
 obtain ⟨x,hx1,_,hx2,_⟩:=symK_mem (r:=0) (x:=(symK lens (i+1) k).getD 0 0) (by rw [List.getD_eq_getElem?_getD,List.getElem?_eq_getElem hi];rfl)
 obtain ⟨y,hy1,_,hy2,_⟩:=symK_mem (r:=0) (x:=(symK lens (j+1) k).getD 0 0) (by rw [List.getD_eq_getElem?_getD,List.getElem?_eq_getElem hj];rfl)
 have:x=y:=by omega
 subst this
 omega
theorem own_other {w:World} {base n g:Nat} {e t:TypeId} {v:Value} {xs cs:List Value} (h:w.ownsRow base e 1 v n xs) (hb:Blk w g t cs) (ht:t≠e):v.ownBlock≠some g:=by
 obtain ⟨_,⟨rfl,rfl⟩ | ⟨g',cap,cur,rfl,_,hh,_⟩⟩:=h
 ·simp [Value.ownBlock]
 ·intro e'
  have e2:some g'=some g:=e'
  simp at e2
  subst e2
  have hb2:Blk w g' e cur.toList:=by unfold Blk;simpa using hh
  exact ht (blk_ty hb hb2)
theorem tab_blk {w w1:World} {base n g:Nat} {u:Value} {vs xs:List Value} {o:Obj} (hb:Blk w g 88 vs) (ho:w.ownsRow base 3 1 u n xs) (hgr:(w.alloc o).grownBy w1 u.ownBlock):Blk w1 g 88 vs:=
 (hb.alloc o).grown hgr (Ne.symm (own_other ho hb (by decide)))
theorem tab_step {lens:List Int} {k q:Nat} {base:Nat} {w w1:World} {g:Nat} {vs:List Value} {u v':Value} {o:Obj} (hq:q<15) (hk:lens.getD k 0=((q+1:Nat):Int)) (ht:Tab base w g vs (tabR lens k)) (hu:vs[q]? = some u)
  (hown:w1.ownsRow base 3 1 v' ((tabR lens k q).length+1) (i64s (tabR lens k q++[(k:Int)]))) (hgr:(w.alloc o).grownBy w1 u.ownBlock):
  Tab base (w1.setCell ⟨g,q,none⟩ v') g (vs.set q v') (tabR lens (k+1)):=by
 obtain ⟨a1,a2,a3,a4⟩:=ht
 have hG:Gr w1 (w1.setCell ⟨g,q,none⟩ v') g:=Gr.setCell (Gr.refl _ _) q v'
 obtain ⟨uq,hq1,hq2,hq3⟩:=a4 q hq
 rw [hu] at hq1
 simp at hq1
 subst hq1
 have hgb:Blk w1 g 88 vs:=tab_blk a2 hq2 hgr
 refine ⟨a1,hgb.set q v',by simpa using a3,fun i hi=>?_⟩
 by_cases hiq:i=q
 ·subst hiq
  have e:tabR lens (k+1) i=tabR lens k i++[(k:Int)]:=by unfold tabR;rw [symK,if_pos hk]
  refine ⟨v',by rw [List.getElem?_set_self (by omega)],?_,by rw [e];simp⟩
  rw [e,List.length_append,List.length_singleton]
  exact own_gr hown hG hgb (by decide)
 ·have e:tabR lens (k+1) i=tabR lens k i:=by unfold tabR;rw [symK,if_neg (by omega)]
  obtain ⟨ui,b1,b2,b3⟩:=a4 i hi
  refine ⟨ui,by rw [List.getElem?_set_ne (Ne.symm hiq)];exact b1,?_,by rw [e];exact b3⟩
  rw [e]
  refine own_gr ?_ hG hgb (by decide)
  refine (b2.alloc o).kept hgr ?_
  cases hv:ui.ownBlock with
  | none=>exact .inl rfl
  | some gi=>
    right
    by_cases h1:0<(tabR lens k i).length
    ·by_cases h2:0<(tabR lens k q).length
     ·exact Ne.symm (own_apart b2 hq2 h1 h2 (tabR_apart hiq h1 h2) hv)
     ·have:=hq3 (List.eq_nil_of_length_eq_zero (by omega))
      subst this
      simp [Value.ownBlock]
    ·have:=b3 (List.eq_nil_of_length_eq_zero (by omega))
     subst this
     simp [Value.ownBlock] at hv
theorem kr_next (K p:Nat) (h:K≤4915200) (hp:p≤14):wrap64 ((K:Int)+2^p)=((K+2^p:Nat):Int):=by
 have h1:2^p≤2^14:=Nat.pow_le_pow_right (by omega) hp
 have h2:(2:Nat)^14=16384:=by decide
 rw [h2] at h1
 rw [show ((2:Int)^p)=((2^p:Nat):Int) by rw [Int.natCast_pow];rfl]
 generalize 2^p=P at*
 unfold wrap64;omega
theorem tabR_zero {lens:List Int} {k:Nat} (h:lens.getD k 0=0):tabR lens (k+1)=tabR lens k:=by
 funext i;unfold tabR;rw [symK,if_neg (by omega)]
def TabPost (lens:List Int) (w:World) (e:Ending) (w':World):Prop:=
 Below w.heap.size w w'∧((okL lens∧∃ g vs,e=.returned (.tuple #[.slice (some ⟨g,0,none⟩) 15 15,.bool true])∧Tab w.heap.size w' g vs (tabR lens lens.length))∨
  (¬ okL lens∧e=.returned (.tuple #[.slice none 0 0,.bool false])))
theorem tab_start (lens:List Int) {base:Nat} {w:World} {g:Nat} (hg:base≤g) (h:Blk w g 88 nilRows):Tab base w g nilRows (tabR lens 0):=by
 refine ⟨hg,h,List.length_replicate ..,fun i hi=>⟨.slice none 0 0,by unfold nilRows;rw [List.getElem?_replicate,if_pos hi],?_,fun _=>rfl⟩⟩
 exact World.ownsRow_nil _ _ _ _
theorem tableOf_any (v:Value) (F:List Int) (w:World) (hv:IsInts w v F) (hF:F.length≤17179869184):
  Calls Tryz.prog 104 #[v] w (TabPost F w):=by
 have hc:=badLens_any v F w hv hF
 obtain ⟨a,cap,rfl,hcap,hmax⟩:=hv.slice
 have HV:=Lib.hid hv
 clear hv
 by_cases hl:F.length≤300
 ·cases hb:F.any noLen with
  | true=>
    rw [hb] at hc
    have hn:¬ okL F:=fun h=>by have:=(noLen_any F).2 h.2.1;rw [hb] at this;simp at this
    have HN:=Lib.hid hn
    clear hn hb
    go_enter Tryz.func104,Tryz.ntmps104
    go_wp2_with fail
    refine hc.mono ?_
    rintro e w' ⟨rfl,rfl⟩
    go_wp2
    go_ret2
    exact ⟨Below.refl _ _,.inr ⟨HN.out,rfl⟩⟩
  | false=>
    rw [hb] at hc
    have HIN:=Lib.hid ((noLen_any F).1 hb)
    clear hb
    obtain ⟨iT,hiT,hzT0,hzT1,hzT2⟩:=infoT_parts infoT
    have HiT:=Lib.hid hiT
    have HzT0:=Lib.hid hzT0
    have HzT1:=Lib.hid hzT1
    have HzT2:=Lib.hid hzT2
    clear hiT hzT0 hzT1 hzT2
    obtain ⟨i0,hi,hz0,hz1,hz2⟩:=infoI_parts infoI
    have Hi:=Lib.hid hi
    have Hz0:=Lib.hid hz0
    have Hz1:=Lib.hid hz1
    have Hz2:=Lib.hid hz2
    clear hi hz0 hz1 hz2
    go_enter Tryz.func104,Tryz.ntmps104
    go_wp2_with fail
    refine hc.mono ?_
    rintro e w' ⟨rfl,rfl⟩
    clear hc
    go_wp2_with (at_make;refine wpList_make_full _ rfl _ _ 159 rfl w.heap.size 88 iT (.slice none 0 0) 1 Tryz.underlying159 HiT.out HzT0.out HzT1.out .i64 .i64 _ _ 15 rfl rfl (by omega) (by omega) (by rw [HzT2.out];omega) (by unfold maxLen;omega) (Nat.le_refl _) ?_;intro w1 hown hgr)
    rw [made_rows] at hown
    have hL:=made_blk hown
    have hB1:Below w.heap.size w w1:=(Below.refl _ w).grown hgr (Nat.le_refl _) (by simp)
    have HT1:=Lib.hid (tab_start F (Nat.le_refl w.heap.size) hL)
    have HB1:=Lib.hid hB1
    clear hown hgr hL hB1
    go_loopw [5,18] (fun x y wr=>∃ (i:Nat) (vs:List Value),i≤F.length∧x=.int .i64 (kr F i:Nat)∧y=.int .i64 i∧Tab w.heap.size wr w.heap.size vs (tabR F i)∧Below w.heap.size w wr) (fun _ y _=>F.length-(intOf y).toNat)
    case atStart=>exact ⟨0,nilRows,by omega,rfl,rfl,HT1.out,HB1.out⟩
    case round=>
     obtain ⟨i,vs,hi,rfl,rfl,ht,hb⟩:=hrel
     have HT:=Lib.hid ht
     have HB:=Lib.hid hb
     have hsz:=hb.size
     clear ht hb HT1 HB1
     have hkr:=kr_le F i
     by_cases hlt:i<F.length
     ·obtain ⟨bb,off,cap',hs,_,_,hbb,hc⟩:=HV.out.cells (by omega)
      simp at hs
      obtain ⟨rfl,rfl⟩:=hs
      have c0:wr.cell? ⟨bb,off+i,none⟩=some (.int .i64 (F.getD i 0)):=(HB.out.cell (p:=⟨bb,off+i,none⟩) hbb).trans (hc i hlt)
      have hin:=Pl.getD_in HIN.out i
      clear hc
      have HKS:Hid (kr F (i+1)=kr F i+(if 1≤F.getD i 0∧F.getD i 0≤15 then 2^(15-(F.getD i 0).toNat) else 0)):=Lib.hid rfl
      obtain ⟨x,hx⟩:∃ x,x=F.getD i 0:=⟨_,rfl⟩
      rw [← hx] at c0 hin HKS
      have HX:=Lib.hid hx
      clear hx
      obtain ⟨K,hK⟩:∃ K,K=kr F i:=⟨_,rfl⟩
      rw [← hK] at hkr HKS ⊢
      clear hK
      by_cases h1:0<x
      ·obtain ⟨p,rfl⟩:∃ p:Nat,x=15-p:=⟨(15-x).toNat,by omega⟩
       have hp:p≤14:=by omega
       obtain ⟨q,hq⟩:∃ q:Nat,q=14-p:=⟨_,rfl⟩
       have e2:wrap64 (15-(15-(p:Int)))=p:=by unfold wrap64;omega
       have e4:wrap64 (2^p)=2^p:=pow_wrap p (by omega)
       have e3:wrap64 (2^min p 64)=2^p:=by rw [Nat.min_eq_left (by omega)];exact e4
       have e5:IntKind.u64.wrap (15-(15-(p:Int)))=(p:Int):=by rw [IntKind.wrap_u64];omega
       have e6:(15-(15-(p:Int)))=p:=by omega
       have e7:wrap64 (15-(p:Int)-1)=q:=by unfold wrap64;omega
       have e8:(15-(p:Int)-1)=q:=by omega
       have hq15:q<15:=by omega
       have HQ:=Lib.hid hq
       have hqI:(q:Int)<15:=by omega
       obtain ⟨u,hu,ho,_⟩:=HT.out.2.2.2 q hq15
       obtain ⟨sp,cp,rfl,hcp1,hcp2⟩:=ownsRow_slice ho
       have d0:=HT.out.2.1.cell hu
       have f0:=HT.out.2.1.frozen
       have hlen:(tabR F i q).length≤i:=symK_le _ _ _
       have HO:=Lib.hid ho
       have HU:=Lib.hid hu
       obtain ⟨N,hN⟩:∃ N,N=(tabR F i q).length:=⟨_,rfl⟩
       rw [← hN] at d0 hcp1 hlen HO HU
       have HNN:=Lib.hid hN
       clear hu ho hN hq
       have hNI:N+1≤17592186044416:=by omega
       go_wp2_with (at_builtin;refine wpList_append_j rfl (.tmp 32) (.tmp 34) rfl w.heap.size (.slice sp N cp) N _ (i:Int) rfl HO.out _ rfl rfl hNI hsz ?_;intro v' w2 hown hgr;obtain ⟨sp',cp',rfl,hcp3,hcp4⟩:=ownsRow_slice hown;have hgb:=tab_blk HT.out.2.1 HO.out hgr;have d2:=hgb.cell HU.out;have f2:=hgb.frozen)
       have HX2:F.getD i 0=((q+1:Nat):Int):=by rw [← HX.out,HQ.out];omega
       have hst:=tab_step hq15 HX2 HT.out HU.out (by rw [← HNN.out];exact hown) hgr
       have hkn:kr F (i+1)=K+2^p:=by rw [HKS.out,if_pos (by omega),show 15-(15-(p:Int)).toNat=p by omega]
       refine ⟨⟨i+1,_,by omega,by rw [kr_next K p (by omega) hp,hkn],by first | rfl | go_num,hst,?_⟩,?_⟩
       ·exact (bel_append HB.out _ HO.out hgr hsz).setCell (Nat.le_refl _) _
       ·simp only [intOf_int];omega
      ·obtain rfl:x=0:=by omega
       have HX2:F.getD i 0=0:=HX.out.symm
       go_wp2
       have hkn:kr F (i+1)=K:=by rw [HKS.out,if_neg (by omega)];rfl
       refine ⟨⟨i+1,vs,by omega,by rw [hkn],by first | rfl | go_num,by rw [tabR_zero HX2];exact HT.out,HB.out⟩,?_⟩
       simp only [intOf_int];omega
     ·obtain rfl:i=F.length:=by omega
      by_cases hk:kr F F.length≤32768
      ·have hok:okL F:=⟨hl,HIN.out,hk⟩
       have HOK:=Lib.hid hok
       generalize kr F F.length=K at hk hkr ⊢
       clear hok
       go_wp2
       go_ret2
       exact ⟨HB.out,.inl ⟨HOK.out,_,_,rfl,HT.out⟩⟩
      ·have hok:¬ okL F:=fun h=>hk h.2.2
       have HOK:=Lib.hid hok
       generalize kr F F.length=K at hk hkr ⊢
       clear hok
       go_wp2
       go_ret2
       exact ⟨HB.out,.inr ⟨HOK.out,rfl⟩⟩
 ·have hn:¬ okL F:=fun h=>hl h.1
  have HN:=Lib.hid hn
  clear hn hc
  go_enter Tryz.func104,Tryz.ntmps104
  go_wp2
  go_ret2
  exact ⟨Below.refl _ _,.inr ⟨HN.out,rfl⟩⟩
namespace Pl
abbrev Cd:=Int×Int
def codeP (lens:List Int) (k r:Nat):List Cd:=(List.range lens.length).map fun i=>if 1≤lens.getD i 0∧(lens.getD i 0<((k+1:Nat):Int)∨(lens.getD i 0=((k+1:Nat):Int)∧(symK lens (k+1) i).length<r)) then ((codeN lens i:Int),lens.getD i 0) else (0,0)
def codesL (lens:List Int):List Cd:=(List.range lens.length).map fun i=>if 1≤lens.getD i 0 then ((codeN lens i:Int),lens.getD i 0) else (0,0)
theorem codeP_length (lens:List Int) (k r:Nat):(codeP lens k r).length=lens.length:=by simp [codeP]
theorem codesL_length (lens:List Int):(codesL lens).length=lens.length:=by simp [codesL]
theorem codesL_get {lens:List Int} {i:Nat} (hi:i<lens.length):(codesL lens).getD i (0,0)=if 1≤lens.getD i 0 then ((codeN lens i:Int),lens.getD i 0) else (0,0):=by
 unfold codesL;rw [List.getD_eq_getElem?_getD,List.getElem?_map,List.getElem?_range hi];rfl
theorem codesL_len {lens:List Int} (h:inB lens) {i:Nat} (hi:i<lens.length):((codesL lens).getD i (0,0)).2=lens.getD i 0:=by
 rw [codesL_get hi]
 have:=Pl.getD_in h i
 split
 ·rfl
 ·show (0:Int)=_;omega
theorem codeP_zero (lens:List Int):codeP lens 0 0=List.replicate lens.length (0,0):=by
 apply List.ext_getElem?
 intro i
 unfold codeP
 rw [List.getElem?_map,List.getElem?_replicate]
 by_cases h:i<lens.length
 ·rw [List.getElem?_range h,if_pos h,Option.map_some,if_neg (by omega)]
 ·rw [List.getElem?_eq_none (by simpa using h),if_neg h];rfl
theorem codeP_next (lens:List Int) (k:Nat):codeP lens k (row lens (k+1)).length=codeP lens (k+1) 0:=by
 apply List.map_congr_left
 intro i hi
 have hi:i<lens.length:=by simpa using hi
 have:lens.getD i 0=((k+1:Nat):Int)→(symK lens (k+1) i).length<(row lens (k+1)).length:=fun h=>(symK_at h hi).1
 by_cases h:lens.getD i 0=((k+1:Nat):Int)
 ·rw [if_pos ⟨by omega,.inr ⟨h,this h⟩⟩,if_pos ⟨by omega,.inl (by omega)⟩]
 ·by_cases h2:1≤lens.getD i 0∧lens.getD i 0<((k+1:Nat):Int)
  ·rw [if_pos ⟨h2.1,.inl h2.2⟩,if_pos ⟨h2.1,.inl (by omega)⟩]
  ·rw [if_neg (by omega),if_neg (by omega)]
theorem codeP_set {lens:List Int} {k r i:Nat} (hi:i<lens.length) (hk:lens.getD i 0=((k+1:Nat):Int)) (hr:(symK lens (k+1) i).length=r):
  (codeP lens k r).set i ((codeN lens i:Int),((k+1:Nat):Int))=codeP lens k (r+1):=by
 apply List.ext_getElem?
 intro j
 by_cases hj:j<lens.length
 ·by_cases hij:i=j
  ·subst hij
   rw [List.getElem?_set_self (by rw [codeP_length];exact hj)]
   unfold codeP
   rw [List.getElem?_map,List.getElem?_range hj,Option.map_some,if_pos ⟨by omega,.inr ⟨hk,by omega⟩⟩,hk]
  ·rw [List.getElem?_set_ne hij]
   unfold codeP
   rw [List.getElem?_map,List.getElem?_map,List.getElem?_range hj,Option.map_some,Option.map_some]
   congr 1
   have:lens.getD j 0=((k+1:Nat):Int)→(symK lens (k+1) j).length≠r:=fun h e=>by
    have h1:=(symK_at h hj).2
    have h2:=(symK_at hk hi).2
    rw [e] at h1
    rw [hr,h1] at h2
    simp at h2
    omega
   by_cases h:1≤lens.getD j 0∧(lens.getD j 0<((k+1:Nat):Int)∨(lens.getD j 0=((k+1:Nat):Int)∧(symK lens (k+1) j).length<r))
   ·rw [if_pos h,if_pos ⟨h.1,h.2.imp id fun h=>⟨h.1,by omega⟩⟩]
   ·rw [if_neg h,if_neg]
    intro h'
    apply h
    refine ⟨h'.1,h'.2.imp id fun h2=>⟨h2.1,?_⟩⟩
    have:=this h2.1
    omega
 ·rw [List.getElem?_eq_none (by simp [codeP_length];omega),List.getElem?_eq_none (by rw [codeP_length];omega)]
theorem codeP_all {lens:List Int} (h:inB lens):codeP lens 15 0=codesL lens:=by
 apply List.map_congr_left
 intro i _
 have:=Pl.getD_in h i
 by_cases h1:1≤lens.getD i 0
 ·rw [if_pos ⟨h1,.inl (by omega)⟩,if_pos h1]
 ·rw [if_neg (fun h=>h1 h.1),if_neg h1]
end Pl
def encD (c:Cd):List Value:=[.int .u32 c.1,.int .i64 c.2]
def cdVs (C:List Cd):List Value:=C.flatMap encD
theorem cdVs_cons (c:Cd) (C:List Cd):cdVs (c::C)=.int .u32 c.1::.int .i64 c.2::cdVs C:=by simp [cdVs,encD]
theorem cdVs_length (C:List Cd):(cdVs C).length=C.length*2:=by
 induction C with
 | nil=>rfl
 | cons c C ih=>rw [cdVs_cons];simp [ih];omega
theorem cdVs_get (C:List Cd) (i:Nat) (h:i<C.length):(cdVs C)[i*2]? = some (.int .u32 (C.getD i (0,0)).1)∧(cdVs C)[i*2+1]? = some (.int .i64 (C.getD i (0,0)).2):=by
 induction C generalizing i with
 | nil=>simp at h
 | cons c C ih=>
   rw [cdVs_cons]
   cases i with
   | zero=>exact ⟨rfl,rfl⟩
   | succ i=>
     have:=ih i (by simpa using h)
     rw [show (i+1)*2=i*2+1+1 by omega]
     simpa using this
theorem cdVs_set (C:List Cd) (i:Nat) (c:Cd):((cdVs C).set (i*2) (.int .u32 c.1)).set (i*2+1) (.int .i64 c.2)=cdVs (C.set i c):=by
 induction C generalizing i with
 | nil=>simp [cdVs]
 | cons d C ih=>
   rw [cdVs_cons]
   cases i with
   | zero=>simp [cdVs_cons]
   | succ i=>
     rw [show (i+1)*2=i*2+1+1 by omega]
     simp only [List.set_cons_succ,cdVs_cons]
     rw [ih i]
theorem cdVs_zero (n:Nat):(madeCells (Value.agg #[.int .u32 0,.int .i64 0]).cells (n*2)).toList=cdVs (List.replicate n (0,0)):=by
 apply List.ext_getElem?
 intro i
 have hz:∀ j,j<n→(List.replicate n ((0,0):Cd)).getD j (0,0)=(0,0):=fun j hj=>by simp [List.getD,hj]
 by_cases h:i<n*2
 ·have h0:(cdVs (List.replicate n (0,0)))[i]? = some (if i%2=0 then .int .u32 0 else .int .i64 0):=by
   have hj:i/2<n:=by omega
   have h1:=cdVs_get (List.replicate n ((0,0):Cd)) (i/2) (by simpa using hj)
   rw [hz _ hj] at h1
   by_cases h2:i%2=0
   ·rw [if_pos h2,← h1.1];congr 1;omega
   ·rw [if_neg h2,← h1.2];congr 1;omega
  rw [h0]
  simp only [madeCells,Value.cells]
  have:i%2=0∨i%2=1:=by omega
  rcases this with h2 | h2 <;> simp [h,h2]
 ·rw [List.getElem?_eq_none (by simp [madeCells];omega),List.getElem?_eq_none (by rw [cdVs_length];simp;omega)]
theorem infoD:(Tryz.prog.info? 136).map (fun i=>(i.zero,i.size,i.bytes))=some (some (.agg #[.int .u32 0,.int .i64 0]),2,16):=by kernel_rfl
theorem infoD_parts {o:Option TypeInfo} (h:o.map (fun i=>(i.zero,i.size,i.bytes))=some (some (.agg #[.int .u32 0,.int .i64 0]),2,16)):∃ i,o=some i∧i.zero=some (.agg #[.int .u32 0,.int .i64 0])∧i.size=2∧i.bytes=16:=by
 cases o with
 | none=>cases h
 | some i=>simp at h;exact ⟨i,rfl,h.1,h.2.1,h.2.2⟩
theorem made_blk2 {w:World} {base:Nat} {e:TypeId} {g n:Nat} {xs:List Value} (h:w.ownsRow base e 2 (.slice (some ⟨g,0,none⟩) n n) n xs):Blk w g e xs:=by
 obtain ⟨hl,⟨he,h0⟩ | ⟨g',cap',cur,hv,_,hh,hn,hm,hs,ht⟩⟩:=h
 ·simp at he
 ·simp at hv
  obtain ⟨rfl,rfl⟩:=hv
  have:xs=cur.toList:=by rw [← ht,List.take_of_length_le (by simp [hs])]
  unfold Blk
  rw [hh,this]
def OfPost (lens:List Int) (w:World) (e:Ending) (w':World):Prop:=
 Below w.heap.size w w'∧((okL lens∧∃ c,e=.returned (.tuple #[.slice (some ⟨c,0,none⟩) lens.length lens.length,.int .i64 0])∧w.heap.size≤c∧Blk w' c 136 (cdVs (codesL lens)))∨
  (¬ okL lens∧e=.returned (.tuple #[.slice none 0 0,.int .i64 10])))
theorem of_any (v:Value) (F:List Int) (w:World) (hv:IsInts w v F) (hF:F.length≤17179869184):
  Calls Tryz.prog 87 #[v] w (OfPost F w):=by
 have htab:=tableOf_any v F w hv hF
 obtain ⟨a,cap,rfl,hcap,hmax⟩:=hv.slice
 have HV:=Lib.hid hv
 clear hv
 by_cases hok:okL F
 ·obtain ⟨i0,hi,hz0,hz1,hz2⟩:=infoD_parts infoD
  have Hi:=Lib.hid hi
  have Hz0:=Lib.hid hz0
  have Hz1:=Lib.hid hz1
  have Hz2:=Lib.hid hz2
  have hl:=hok.1
  have HOK:=Lib.hid hok
  clear hi hz0 hz1 hz2 hok
  go_enter Tryz.func87,Tryz.ntmps87
  go_wp2_with fail
  refine htab.mono ?_
  rintro e w1 ⟨hb1,⟨_,g,vs,rfl,ht⟩ | ⟨hn,_⟩⟩
  rotate_left
  ·exact absurd HOK.out hn
  have HT1:=Lib.hid ht
  have HB1:=Lib.hid hb1
  clear ht hb1 htab
  go_wp2_with (at_make;refine wpList_make_full _ rfl _ _ 132 rfl w1.heap.size 136 i0 (.agg #[.int .u32 0,.int .i64 0]) 2 Tryz.underlying132 Hi.out Hz0.out Hz1.out .i64 .i64 _ _ F.length rfl rfl rfl rfl (by rw [Hz2.out];omega) (by unfold maxLen;omega) (Nat.le_refl _) ?_;intro w2 hown hgr)
  rw [cdVs_zero] at hown
  have hL:=made_blk2 hown
  have hB2:Below w1.heap.size w1 w2:=(Below.refl _ w1).grown hgr (Nat.le_refl _) (by simp)
  have HT2:=Lib.hid (HT1.out.below hB2)
  have HB2:=Lib.hid (HB1.out.trans (hB2.mono HB1.out.size))
  obtain ⟨c,hc⟩:∃ c,c=w1.heap.size:=⟨_,rfl⟩
  rw [← hc] at hL ⊢
  have hcw:w.heap.size≤c:=by have:=HB1.out.size;omega
  rw [← codeP_zero] at hL
  have HL:=Lib.hid hL
  clear hown hgr hL hB2 hc HT1 HB1
  go_loopw [7,24] (fun x y wr=>∃ (k:Nat),k≤15∧x=.int .u32 (nx F k:Nat)∧y=.int .i64 k∧Gr w2 wr c∧Blk wr c 136 (cdVs (codeP F k 0))) (fun _ y _=>15-(intOf y).toNat)
  case atStart=>exact ⟨0,by omega,rfl,rfl,Gr.refl _ _,HL.out⟩
  case round=>
   obtain ⟨k,hk,rfl,rfl,hg,hb⟩:=hrel
   have HG:=Lib.hid hg
   have HB:=Lib.hid hb
   clear hg hb
   by_cases hlt:k<15
   ·have hkI:(k:Int)<15:=by omega
    obtain ⟨u,hu,ho,_⟩:=HT2.out.2.2.2 k hlt
    obtain ⟨sp,cp,rfl,hcp1,hcp2⟩:=ownsRow_slice ho
    have HI:Hid (∀ W,Gr w2 W c→IsInts W (.slice sp (tabR F F.length k).length cp) (tabR F F.length k)):=Lib.hid fun W hW=>isInts_own rfl (own_gr ho hW HL.out (by decide))
    have d0:=(HT2.out.gr HG.out HL.out (by decide) (by decide)).2.1.cell hu
    have hNle:(tabR F F.length k).length≤F.length:=symK_le _ _ _
    have hnx:nx F (k+1)=2*nx F k+(tabR F F.length k).length:=rfl
    have hnxs:=nx_small HOK.out.2.2 (show k+1≤15 by omega)
    obtain ⟨M,hM⟩:∃ M,M=nx F k:=⟨_,rfl⟩
    rw [← hM] at hnx ⊢
    have HM:=Lib.hid hM
    obtain ⟨N,hN⟩:∃ N,N=(tabR F F.length k).length:=⟨_,rfl⟩
    rw [← hN] at d0 hcp1 HI hNle hnx
    have HN:=Lib.hid hN
    have HNX:=Lib.hid hnx
    have hM2:2*M+N≤32768:=by omega
    clear hu ho hN hM hnx
    obtain ⟨wo,hwo⟩:∃ wo:World,wo=wr:=⟨_,rfl⟩
    subst hwo
    go_wp2_with fail
    go_loopw [7,33] (fun x y wi=>∃ (r:Nat),r≤N∧x=.int .u32 ((M:Int)*2+r)∧y=.int .i64 r∧Gr w2 wi c∧Blk wi c 136 (cdVs (codeP F k r))) (fun _ y _=>N-(intOf y).toNat)
    case atStart=>exact ⟨0,by omega,by simp,rfl,HG.out,HB.out⟩
    case round=>
     obtain ⟨r,hr,rfl,rfl,hg,hb⟩:=hrel
     have HGi:=Lib.hid hg
     have HBi:=Lib.hid hb
     clear hg hb
     by_cases hlr:r<N
     ·have hI:=HI.out _ HGi.out
      have hrl:r<(tabR F F.length k).length:=by rw [← HN.out];exact hlr
      obtain ⟨bb,off,cap',hs,_,_,hbb,hc⟩:=IsInts.cells hI (by omega)
      rw [← HN.out] at hs
      simp at hs
      obtain ⟨rfl,rfl⟩:=hs
      have c0:=hc r hrl
      obtain ⟨i,hx,hi1,hi2,hi3⟩:=symK_mem (lens:=F) (n:=k+1) (k:=F.length) (r:=r) (x:=(tabR F F.length k).getD r 0) (by rw [List.getD_eq_getElem?_getD,List.getElem?_eq_getElem hrl];exact List.getElem?_eq_getElem hrl)
      rw [hx] at c0
      have hget:=cdVs_get (codeP F k r) i (by rw [codeP_length];exact hi1)
      have e0:=HBi.out.cell hget.1
      have e1:=HBi.out.cell hget.2
      have f0:=HBi.out.frozen
      have hcn:codeN F i=M*2+r:=by unfold codeN;rw [hi2,HM.out];simp only [Int.toNat_natCast,Nat.add_sub_cancel];omega
      have HST:=Lib.hid (codeP_set hi1 hi2 hi3)
      have HCN:=Lib.hid hcn
      have hiI:(i:Int)<(F.length:Int):=by omega
      have hu1:(0:Int)≤(M:Int)*2+r:=by omega
      have hu2:(M:Int)*2+r<32768:=by omega
      clear hc hx hrl hI hget hi2 hi3 hcn
      go_wp2_with fail
      refine ⟨⟨r+1,by omega,by simp [Int.add_assoc],by first | rfl | go_num,(HGi.out.setCell _ _).setCell _ _,?_⟩,?_⟩
      ·have h1:=(HBi.out.set (i*2) (.int .u32 ((M:Int)*2+r))).set (i*2+1) (.int .i64 ((k:Int)+1))
       have h2:=cdVs_set (codeP F k r) i ((M:Int)*2+r,(k:Int)+1)
       rw [h2] at h1
       have h3:=HST.out
       rw [HCN.out] at h3
       have e:(((M*2+r:Nat):Int),((k+1:Nat):Int))=((M:Int)*2+r,(k:Int)+1):=by simp
       rw [e] at h3
       rw [h3] at h1
       exact h1
      ·simp only [intOf_int];omega
     ·obtain rfl:r=N:=by omega
      have hnn:(M:Int)*2+(r:Int)=(nx F (k+1):Nat):=by rw [HNX.out];omega
      have HNN:=Lib.hid hnn
      clear hnn
      go_wp2_with fail
      refine ⟨⟨k+1,by omega,by rw [HNN.out],by first | rfl | go_num,HGi.out,?_⟩,?_⟩
      ·have:=HBi.out
       rw [HN.out] at this
       rw [← codeP_next];exact this
      ·simp only [intOf_int];omega
   ·obtain rfl:k=15:=by omega
    go_wp2_with fail
    go_ret2
    refine ⟨HB2.out.trans (HG.out.below HB2.out.size hcw),.inl ⟨HOK.out,c,rfl,hcw,?_⟩⟩
    rw [← codeP_all HOK.out.2.1];exact HB.out
 ·have HN:=Lib.hid hok
  go_enter Tryz.func87,Tryz.ntmps87
  go_wp2_with fail
  refine htab.mono ?_
  rintro e w' ⟨hb,⟨h,_⟩ | ⟨_,rfl⟩⟩
  ·exact absurd h HN.out
  clear htab hok
  go_wp2
  go_ret2
  exact ⟨hb,.inr ⟨HN.out,rfl⟩⟩
theorem i64_or_nat (a b:Nat) (ha:a<9223372036854775808) (hb:b<9223372036854775808):bits .or .i64 (a:Int) (b:Int)=((a ||| b:Nat):Int):=by
 have hx:a ||| b<2^63:=Nat.or_lt_two_pow (by omega) (by omega)
 show IntKind.i64.wrap ((BitVec.ofInt 64 (a:Int) ||| BitVec.ofInt 64 (b:Int)).toNat:Int)=_
 rw [BitVec.toNat_or,ofInt_u64 a (by omega),ofInt_u64 b (by omega),IntKind.wrap_i64]
 omega
theorem or_bit (A c:Nat) (hA:A<1000000) (hc:c<2):bits .or .i64 ((A:Int)*2) (c:Int)=((2*A+c:Nat):Int):=by
 have e:((A:Int)*2)=((2*A:Nat):Int):=by omega
 rw [e,i64_or_nat _ _ (by omega) (by omega),nat_join1 _ _ (by omega) hc]
theorem take_one (B:List Nat) (at_ k:Nat):take B (at_+k) 1=(((bitsB B).drop at_).getD k false).toNat:=by
 unfold take
 rw [← List.drop_drop]
 generalize (bitsB B).drop at_=M
 by_cases h:k<M.length
 ·rw [List.drop_eq_getElem_cons h,List.take_succ_cons,List.take_zero]
  simp [val,List.getD,h]
 ·rw [List.drop_eq_nil_of_le (by omega),List.getD_eq_getElem?_getD,List.getElem?_eq_none (by omega)]
  rfl
theorem stepF_out {lens:List Int} {M:List Bool} {f n:Nat} (h:M.length≤n):stepF lens M (f+1) n=none:=by simp only [stepF,if_pos h]
theorem stepF_hit {lens:List Int} {M:List Bool} {f n:Nat} (h:n<M.length) (hv:val (M.take (n+1))<nx lens (n+1)):stepF lens M (f+1) n=some ((row lens (n+1)).getD (val (M.take (n+1))-2*nx lens n) 0,n+1):=by
 simp only [stepF];rw [if_neg (by omega),if_pos hv]
theorem stepF_miss {lens:List Int} {M:List Bool} {f n:Nat} (h:n<M.length) (hv:¬ val (M.take (n+1))<nx lens (n+1)):stepF lens M (f+1) n=stepF lens M f (n+1):=by
 simp only [stepF];rw [if_neg (by omega),if_neg hv]
def NextPost (lens:List Int) (b base:Nat) (B:List Nat) (at_:Nat) (w:World) (e:Ending) (w':World):Prop:=
 Gr w w' b∧((∃ s n,stepL lens ((bitsB B).drop at_)=some (s,n)∧e=.returned (.tuple #[.int .i64 s,.bool true])∧Rd w' base b B (at_+n))∨
  (stepL lens ((bitsB B).drop at_)=none∧e=.returned (.tuple #[.int .i64 0,.bool false])∧∃ n,Rd w' base b B (at_+n)))
theorem next_any (lens:List Int) (hok:okL lens) (bt g:Nat) (vs:List Value) (b base:Nat) (B:List Nat) (at_:Nat) (w:World) (ht:Tab bt w g vs (tabR lens lens.length)) (hr:Rd w base b B at_):
  Calls Tryz.prog 148 #[.slice (some ⟨g,0,none⟩) 15 15,.pointer (some ⟨b,0,none⟩)] w (NextPost lens b base B at_ w):=by
 have hl:=hok.1
 have HOK:=Lib.hid hok
 have HT:=Lib.hid ht
 have HR:=Lib.hid hr
 obtain ⟨cs,hcs⟩:=hr.blk
 have HCS:=Lib.hid hcs
 clear hok ht hr hcs
 obtain ⟨M,hM⟩:∃ M,M=(bitsB B).drop at_:=⟨_,rfl⟩
 have hMl:M.length=8*B.length-at_:=by rw [hM,List.length_drop,bitsB_length]
 have hal:=HR.out.2.1
 have HMl:=Lib.hid hMl
 have HM:=Lib.hid hM
 unfold NextPost
 rw [← hM]
 clear hM hMl
 go_enter Tryz.func148,Tryz.ntmps148
 go_wp2_with fail
 go_loopw [6,7,15] (fun x y z wr=>∃ (k:Nat),k≤15∧x=.int .i64 (val (M.take k):Nat)∧y=.int .i64 (nx lens k:Nat)∧z=.int .i64 k∧k≤M.length∧nx lens k≤val (M.take k)∧stepF lens M (15-k) k=stepL lens M∧Rd wr base b B (at_+k)∧Gr w wr b) (fun _ _ z _=>15-(intOf z).toNat)
 case atStart=>exact ⟨0,by omega,rfl,rfl,rfl,by omega,by simp [nx],rfl,HR.out,Gr.refl _ _⟩
 case round=>
  obtain ⟨k,hk,rfl,rfl,rfl,hkM,hv,hst,hr,hg⟩:=hrel
  have HRk:=Lib.hid hr
  have HG:=Lib.hid hg
  have HST:=Lib.hid hst
  clear hr hg hst
  by_cases hlt:k<15
  ·have hkI:(k:Int)<15:=by omega
   have HTk:=Lib.hid (HT.out.gr HG.out HCS.out (by decide) (by decide))
   obtain ⟨u,hu,ho,_⟩:=HTk.out.2.2.2 k hlt
   obtain ⟨sp,cp,rfl,hcp1,hcp2⟩:=ownsRow_slice ho
   have d0:=HTk.out.2.1.cell hu
   have HI:Hid (∀ W,Gr wr W b→IsInts W (.slice sp (tabR lens lens.length k).length cp) (tabR lens lens.length k)):=Lib.hid fun W hW=>by
    obtain ⟨cs',hcs'⟩:=HRk.out.blk
    exact isInts_own rfl (own_gr ho hW hcs' (by decide))
   have hNle:(tabR lens lens.length k).length≤lens.length:=symK_le _ _ _
   have hnx:nx lens (k+1)=2*nx lens k+(tabR lens lens.length k).length:=rfl
   have hnxs:=nx_small HOK.out.2.2 (show k+1≤15 by omega)
   have hvl:=val_lt (M.take k)
   rw [List.length_take,Nat.min_eq_left hkM] at hvl
   have hp15:2^k≤2^15:=Nat.pow_le_pow_right (by omega) hk
   rw [pw15] at hp15
   obtain ⟨N,hN⟩:∃ N,N=(tabR lens lens.length k).length:=⟨_,rfl⟩
   rw [← hN] at d0 hcp1 HI hNle hnx
   have HN:=Lib.hid hN
   have hf:15-k=(14-k)+1:=by omega
   rw [hf] at HST
   clear hu ho hN hf
   by_cases hin:k<M.length
   ·have hvs:=val_take_succ M k hin
    have h1:=@stepF_hit lens M (14-k) k hin
    have h2:=@stepF_miss lens M (14-k) k hin
    have hget:=get_any b base B (at_+k) 1 wr HRk.out (by omega) (by rw [HMl.out] at hin;omega)
    have htk:=take_one B at_ k
    rw [← HM.out] at htk
    unfold GetPost at hget
    rw [htk] at hget
    obtain ⟨c,hc⟩:∃ c,c=(M.getD k false).toNat:=⟨_,rfl⟩
    have hc2:c<2:=by rw [hc];cases M.getD k false <;> simp
    rw [← hc] at hvs hget
    have hob:=or_bit (val (M.take k)) c (by omega) hc2
    rw [← hvs] at hob
    have H1:=Lib.hid h1
    have H2:=Lib.hid h2
    have hv2:2*nx lens k≤val (M.take (k+1)):=by omega
    have hv3:val (M.take (k+1))<131072:=by omega
    have hv4:val (M.take k)<65536:=by omega
    have hc3:c≤1:=by omega
    generalize hV2:val (M.take (k+1))=V2 at*
    have HV2:=Lib.hid hV2
    generalize val (M.take k)=V at*
    have HNX:=Lib.hid hnx
    generalize hX2:nx lens (k+1)=X2 at*
    have HX2:=Lib.hid hX2
    generalize nx lens k=X at*
    have hcw:IntKind.i64.wrap (c:Int)=c:=by rw [IntKind.wrap_i64];omega
    obtain ⟨q,hq⟩:∃ q,q=V2-2*X:=⟨_,rfl⟩
    have hs1:(V2:Int)-(X:Int)*2=(q:Int):=by omega
    have hs2:wrap64 ((V2:Int)-(X:Int)*2)=(q:Int):=by unfold wrap64;omega
    have HVS:=Lib.hid hvs
    have HQ:=Lib.hid hq
    have hqs:q<131072:=by omega
    have hX:X≤65536:=by omega
    clear h1 h2 htk hc hvs hnx hvl hv hv2 hq hV2 hX2
    go_wp2_with fail
    refine hget.mono ?_
    rintro e w1 ⟨rfl,hr1,hg1⟩
    have HR1:=Lib.hid hr1
    have HG1:=Lib.hid hg1
    clear hr1 hg1 hget
    by_cases hqN:q<N
    ·have hI:=HI.out _ HG1.out
     have hql:q<(tabR lens lens.length k).length:=by rw [← HN.out];exact hqN
     obtain ⟨bb,off,cap',hs,_,_,hbb,hcc⟩:=IsInts.cells hI (by omega)
     rw [← HN.out] at hs
     simp at hs
     obtain ⟨rfl,rfl⟩:=hs
     have c0:=hcc q hql
     have hlt2:V2<X2:=by rw [HNX.out];have:=HQ.out;omega
     have HS:=Lib.hid (H1.out hlt2)
     have hqI:(q:Int)<(N:Int):=by omega
     clear hcc hI hql hlt2
     go_wp2_with fail
     go_ret2
     refine ⟨Gr.trans HG.out HG1.out,.inl ⟨_,k+1,by rw [← HST.out,HS.out],?_,HR1.out⟩⟩
     rw [← HQ.out];rfl
    ·have hge:¬ V2<X2:=by rw [HNX.out];have:=HQ.out;omega
     have HS:=Lib.hid (H2.out hge)
     have hqI:¬ (q:Int)<(N:Int):=by omega
     clear hge
     go_wp2_with fail
     refine ⟨⟨k+1,by omega,by rw [HV2.out],by rw [HX2.out,HNX.out];congr 1;omega,by first | rfl | go_num,by omega,by rw [HX2.out,HV2.out,HNX.out];have:=HQ.out;omega,?_,HR1.out,Gr.trans HG.out HG1.out⟩,?_⟩
     ·rw [show 15-(k+1)=14-k by omega,← HS.out,HST.out]
     ·simp only [intOf_int];omega
   ·have hbad:=get_bad b base B (at_+k) 1 wr HRk.out (by have:=HMl.out;omega)
    have hnone:stepL lens M=none:=by rw [← HST.out];exact stepF_out (by omega)
    have HN2:=Lib.hid hnone
    clear hnone
    go_wp2_with fail
    refine hbad.mono ?_
    rintro e w1 ⟨rfl,n,rfl⟩
    clear hbad
    go_wp2
    go_ret2
    exact ⟨HG.out.drewN n,.inr ⟨HN2.out,rfl,k,HRk.out⟩⟩
  ·obtain rfl:k=15:=by omega
   go_wp2
   go_ret2
   exact ⟨HG.out,.inr ⟨HST.out.symm,rfl,15,HRk.out⟩⟩
def lenOfV:Value→Nat
 | .slice _ n _=>n
 | _=>0
theorem lenOfV_slice (a:Option Addr) (n c:Nat):lenOfV (.slice a n c)=n:=rfl
theorem own_type {w:World} {base n k:Nat} {e t:TypeId} {v:Value} {xs cs:List Value} (h:w.ownsRow base e 1 v n xs) (hv:v.ownBlock=some k) (hb:Blk w k t cs):t=e:=by
 apply Classical.byContradiction
 intro hne
 exact own_other h hb hne hv
theorem rd_append {w w1 w':World} {base b at_ bl n:Nat} {B:List Nat} {v:Value} {xs:List Value} (h:Rd w base b B at_) (ho:w.ownsRow bl 3 1 v n xs) (o:Obj) (hg:(w.alloc o).grownBy w' v.ownBlock):Rd w' base b B at_:=
 (h.alloc o).row hg fun k t cs e hk _=>by
  have:=own_type (ho.alloc o) e hk
  subst this
  exact ⟨by decide,by decide⟩
theorem gr_append {w w1 w':World} {b n:Nat} {e:TypeId} {v:Value} {xs:List Value} (h:Gr w w1 b) (ho:w1.ownsRow w.heap.size e 1 v n xs) (o:Obj) (hg:(w1.alloc o).grownBy w' v.ownBlock):Gr w w' b:=
 ⟨hg.os.trans h.os,hg.tape.trans h.tape,hg.output.trans h.output,by have:=hg.size;have:=h.size;simp at *;omega,fun i hi hne=>by
  have h1:=h.block i hi hne
  have hs:=h.size
  rw [hg.block i (by simp;omega) (fun e=>by have:=own_lt ho i e.symm;omega),Below.heap_alloc w1 o i (by omega)]
  exact h1⟩
def RdcPost (F:List Int) (en most:Int) (b base:Nat) (B:List Nat) (at_:Nat) (w:World) (e:Ending) (w':World):Prop:=
 Gr w w' b∧((¬ okL F∧e=.returned (.tuple #[.slice none 0 0,.int .i64 10])∧Rd w' base b B at_)∨
  (okL F∧∃ L r n sp cap,rdF F en most.toNat ((bitsB B).drop at_) [] 0=(L,r,n)∧e=.returned (.tuple #[.slice sp L.length cap,.int .i64 r])∧w'.ownsRow w.heap.size 3 1 (.slice sp L.length cap) L.length (i64s L)∧
   ∃ m,Rd w' base b B (at_+m)∧(r=0→m=n)))
theorem rdcPost_err {F:List Int} {en most:Int} {b base:Nat} {B:List Nat} {at_ m:Nat} {w w':World} {r:Int} (hok:okL F) (hg:Gr w w' b) (hr:Rd w' base b B (at_+m)) (h:rdF F en most.toNat ((bitsB B).drop at_) [] 0=([],r,0)) (h0:r≠0):
  RdcPost F en most b base B at_ w (.returned (.tuple #[.slice none 0 0,.int .i64 r])) w':=
 ⟨hg,.inr ⟨hok,[],r,0,none,0,h,rfl,own_nilI _ _ _,m,hr,fun e=>absurd e h0⟩⟩
theorem read_codes (v:Value) (F:List Int) (en most:Int) (b base:Nat) (B:List Nat) (at_:Nat) (w:World) (hv:IsInts w v F) (hF:F.length≤17179869184) (hB:B.length≤1000000000) (hr:Rd w base b B at_)
  (hm:-9223372036854775808≤most∧most<9223372036854775808):
  Calls Tryz.prog 132 #[.pointer (some ⟨b,0,none⟩),v,.int .i64 en,.int .i64 most] w (RdcPost F en most b base B at_ w):=by
 have htab:=tableOf_any v F w hv hF
 obtain ⟨a,cap,rfl,hcap,hmax⟩:=hv.slice
 have HR:=Lib.hid hr
 clear hv hr
 by_cases hok:okL F
 ·have HOK:=Lib.hid hok
  clear hok
  go_enter Tryz.func132,Tryz.ntmps132
  go_wp2_with fail
  refine htab.mono ?_
  rintro e w1 ⟨hb1,⟨_,g,vs,rfl,ht⟩ | ⟨hn,_⟩⟩
  rotate_left
  ·exact absurd HOK.out hn
  have HT1:=Lib.hid ht
  have HB1:=Lib.hid hb1
  have HR1:=Lib.hid (HR.out.below hb1)
  obtain ⟨cs,hcs⟩:=HR1.out.blk
  have HCS:=Lib.hid hcs
  obtain ⟨M,hM⟩:∃ M,M=(bitsB B).drop at_:=⟨_,rfl⟩
  have HM:=Lib.hid hM
  have hal:=HR1.out.2.1
  clear ht hb1 htab hcs hM
  go_wp2_with fail
  go_loopw [12] (fun x wr=>∃ (A:List Int) (at1:Nat) (sp:Option Addr) (cp:Nat),x=.slice sp A.length cp∧A.length≤cp∧cp≤maxLen∧wr.ownsRow w1.heap.size 3 1 (.slice sp A.length cp) A.length (i64s A)∧A.length≤at1∧at_+at1≤8*B.length∧
   rdF F en (most-A.length).toNat M A at1=rdF F en most.toNat M [] 0∧Rd wr base b B (at_+at1)∧Gr w1 wr b) (fun x _=>8*B.length+1-lenOfV x)
  case atStart=>exact ⟨[],0,none,0,rfl,Nat.le_refl _,by unfold maxLen;omega,own_nilI _ _ _,by simp,by omega,by simp,HR1.out,Gr.refl _ _⟩
  case round=>
   obtain ⟨A,at1,sp,cp,rfl,hcp1,hcp2,ho,hA,hat,he,hr,hg⟩:=hrel
   have HO:=Lib.hid ho
   have HE:=Lib.hid he
   have HRk:=Lib.hid hr
   have HG:=Lib.hid hg
   have hsz:w1.heap.size≤wr.heap.size:=hg.size
   clear ho he hr hg
   obtain ⟨N,hN⟩:∃ N,N=A.length:=⟨_,rfl⟩
   rw [← hN] at hcp1 HO hA HE ⊢
   have HN:=Lib.hid hN
   clear hN
   by_cases hlt:(N:Int)<most
   ·have hTk:=HT1.out.gr HG.out HCS.out (by decide) (by decide)
    have hnext:=next_any F HOK.out w.heap.size g vs b base B (at_+at1) wr hTk HRk.out
    unfold NextPost at hnext
    rw [← List.drop_drop,← HM.out] at hnext
    obtain ⟨m,hm2⟩:∃ m,(most-(N:Int)).toNat=m+1:=⟨(most-(N:Int)).toNat-1,by omega⟩
    have hm3:(most-((N+1:Nat):Int)).toNat=m:=by omega
    rw [hm2] at HE
    have HM3:=Lib.hid hm3
    clear hTk hm2 hm3
    go_wp2_with fail
    refine hnext.mono ?_
    rintro e w2 ⟨hg2,⟨s,n,hst,rfl,hr2⟩ | ⟨hst,rfl,n,hr2⟩⟩
    ·have HG2:=Lib.hid hg2
     have HR2:=Lib.hid hr2
     have HST:=Lib.hid hst
     obtain ⟨cs2,hcs2⟩:=HRk.out.blk
     have HO2:=Lib.hid (own_gr HO.out hg2 hcs2 (by decide))
     have hn0:=stepL_some hst
     rw [List.length_drop,HM.out,List.length_drop,bitsB_length] at hn0
     have hn1:=hn0.1
     have hn3:=hn0.2.2.1
     have hsz2:w1.heap.size≤w2.heap.size:=Nat.le_trans hsz hg2.size
     have hNI:N+1≤17592186044416:=by omega
     clear hnext hg2 hr2 hst hcs2 hn0
     by_cases hse:s=en
     ·subst hse
      go_wp2_with (at_builtin;refine wpList_append_j rfl (.tmp 34) (.tmp 36) rfl w1.heap.size (.slice sp N cp) N _ s rfl HO2.out _ rfl rfl hNI hsz2 ?_;intro v' w3 hown hgr;obtain ⟨sp',cp',rfl,hcp3,hcp4⟩:=ownsRow_slice hown)
      go_ret2
      have hlen:(A++[s]).length=N+1:=by rw [List.length_append,List.length_singleton,HN.out]
      refine ⟨Gr.trans (Gr.ofBelow HB1.out) (gr_append (Gr.trans HG.out HG2.out) HO2.out _ hgr),.inr ⟨HOK.out,A++[s],0,at1+n,sp',cp',?_,by rw [hlen];rfl,by rw [hlen];exact own_base hown HB1.out.size,at1+n,?_,fun _=>rfl⟩⟩
      ·rw [← HM.out,← HE.out];exact rdF_end HST.out
      ·rw [← Nat.add_assoc];exact rd_append (w1:=w1) HR2.out HO2.out _ hgr
     ·go_wp2_with (at_builtin;refine wpList_append_j rfl (.tmp 34) (.tmp 36) rfl w1.heap.size (.slice sp N cp) N _ s rfl HO2.out _ rfl rfl hNI hsz2 ?_;intro v' w3 hown hgr;obtain ⟨sp',cp',rfl,hcp3,hcp4⟩:=ownsRow_slice hown)
      have hlen:(A++[s]).length=N+1:=by rw [List.length_append,List.length_singleton,HN.out]
      refine ⟨⟨A++[s],at1+n,sp',cp',by rw [hlen],by rw [hlen];exact hcp3,hcp4,by rw [hlen];exact hown,by rw [hlen];omega,by omega,?_,?_,gr_append (Gr.trans HG.out HG2.out) HO2.out _ hgr⟩,?_⟩
      ·rw [hlen,HM3.out,← HE.out];exact (rdF_more HST.out hse).symm
      ·rw [← Nat.add_assoc];exact rd_append (w1:=w1) HR2.out HO2.out _ hgr
      ·simp only [lenOfV_slice];omega
    ·have HG2:=Lib.hid hg2
     have HR2:=Lib.hid hr2
     have HST:=Lib.hid hst
     clear hnext hg2 hr2 hst
     go_wp2_with fail
     go_ret2
     refine rdcPost_err HOK.out ?_ (m:=at1+n) (by rw [← Nat.add_assoc];exact HR2.out) ?_ (by decide)
     ·exact (Gr.ofBelow HB1.out).trans (HG.out.trans HG2.out)
     ·rw [← HM.out,← HE.out];exact rdF_none HST.out
   ·have hm0:(most-(N:Int)).toNat=0:=by omega
    rw [hm0] at HE
    clear hm0
    go_wp2_with fail
    go_ret2
    exact rdcPost_err HOK.out ((Gr.ofBelow HB1.out).trans HG.out) HRk.out (by rw [← HM.out,← HE.out];rfl) (by decide)
 ·have HN:=Lib.hid hok
  clear hok
  go_enter Tryz.func132,Tryz.ntmps132
  go_wp2_with fail
  refine htab.mono ?_
  rintro e w' ⟨hb,⟨h,_⟩ | ⟨_,rfl⟩⟩
  ·exact absurd h HN.out
  clear htab
  go_wp2
  go_ret2
  exact ⟨Gr.ofBelow hb,.inl ⟨HN.out,rfl,HR.out.below hb⟩⟩
namespace Pl
def noCd (F:List Int) (x:Int):Bool:=decide (x<0∨(F.length:Int)≤x∨F.getD x.toNat 0=0)
def codeB (F:List Int) (x:Int):List Bool:=bitsOf (codeN F x.toNat) (F.getD x.toNat 0).toNat
def codeBs (F:List Int) (L:List Int):List Bool:=L.flatMap (codeB F)
theorem noCd_neg {F:List Int} {x:Int} (h:x<0):noCd F x=true:=decide_eq_true (.inl h)
theorem noCd_big {F:List Int} {x:Int} (h:(F.length:Int)≤x):noCd F x=true:=decide_eq_true (.inr (.inl h))
theorem noCd_at {F:List Int} {i:Nat} (h:i<F.length):noCd F (i:Int)=decide (F.getD i 0=0):=by
 unfold noCd
 rw [Int.toNat_natCast]
 by_cases h0:F.getD i 0=0
 ·rw [decide_eq_true h0];exact decide_eq_true (.inr (.inr h0))
 ·rw [decide_eq_false h0];exact decide_eq_false (by omega)
theorem noCd_false {F:List Int} {x:Int} (h:noCd F x=false):∃ i:Nat,x=i∧i<F.length∧F.getD i 0≠0:=by
 unfold noCd at h
 have h:=of_decide_eq_false h
 refine ⟨x.toNat,by omega,by omega,?_⟩
 exact fun e=>h (.inr (.inr e))
theorem codeB_length {F:List Int} {i n:Nat} (h:F.getD i 0=n):(codeB F (i:Int)).length=n:=by
 unfold codeB
 rw [bitsOf_length,Int.toNat_natCast,h,Int.toNat_natCast]
theorem codeBs_length {F:List Int} (h:inB F) (L:List Int):(codeBs F L).length≤15*L.length:=by
 unfold codeBs
 induction L with
 | nil=>simp
 | cons x L ih=>
   rw [List.flatMap_cons,List.length_append,List.length_cons]
   have:(codeB F x).length≤15:=by
    unfold codeB
    rw [bitsOf_length]
    have:=Pl.getD_in h x.toNat
    omega
   omega
theorem codeBs_snoc (F L:List Int) (x:Int):codeBs F (L++[x])=codeBs F L++codeB F x:=by simp [codeBs]
theorem take_next {L:List Int} {i:Nat} (h:i<L.length):L.take (i+1)=L.take i++[L.getD i 0]:=by
 rw [List.take_succ_eq_append_getElem h];simp [List.getD,h]
end Pl
theorem noCode_any (F:List Int) (hin:inB F) (hl:F.length≤300) (x:Int) (bx c:Nat) (w:World) (hb:Blk w bx 132 [.slice (some ⟨c,0,none⟩) F.length F.length]) (hc:Blk w c 136 (cdVs (codesL F))):
  Calls Tryz.prog 88 #[.int .i64 x,.pointer (some ⟨bx,0,none⟩)] w fun e w'=>e=.returned (.bool (noCd F x))∧w=w':=by
 have c0:=hb.cell (o:=0) rfl
 by_cases h1:x<0
 ·rw [noCd_neg h1]
  go_enter Tryz.func88,Tryz.ntmps88
  go_wp2
  go_ret
  exact ⟨rfl,rfl⟩
 ·by_cases h2:(F.length:Int)≤x
  ·rw [noCd_big h2]
   go_enter Tryz.func88,Tryz.ntmps88
   go_wp2
   go_ret
   exact ⟨rfl,rfl⟩
  ·obtain ⟨i,rfl⟩:∃ i:Nat,x=i:=⟨x.toNat,by omega⟩
   have hi:i<F.length:=by omega
   have hg:=cdVs_get (codesL F) i (by rw [codesL_length];exact hi)
   rw [codesL_len hin hi] at hg
   have d1:=hc.cell hg.2
   have hiI:(i:Int)<(F.length:Int):=by omega
   rw [noCd_at hi]
   generalize F.getD i 0=y at*
   clear hg hb hc hin
   by_cases h0:y=0
   ·subst h0
    go_enter Tryz.func88,Tryz.ntmps88
    go_wp2
    go_ret
    exact ⟨rfl,rfl⟩
   ·have hf:=beq_f h0
    rw [decide_eq_false h0]
    go_enter Tryz.func88,Tryz.ntmps88
    go_wp2
    go_ret
    exact ⟨rfl,rfl⟩
def WritePost (F L:List Int) (b:Nat) (K:List Bool) (w:World) (e:Ending) (w':World):Prop:=
 (¬ okL F∧e=.returned (.int .i64 10)∧Below w.heap.size w w')∨(okL F∧L.any (noCd F)=true∧e=.returned (.int .i64 7)∧Below w.heap.size w w')∨
  (okL F∧L.any (noCd F)=false∧e=.returned (.int .i64 0)∧Wr w' b (K++codeBs F L)∧Gr w w' b)
theorem write_any (v u:Value) (F L:List Int) (b:Nat) (K:List Bool) (w:World) (hv:IsInts w v F) (hF:F.length≤17179869184) (hu:IsInts w u L) (hL:L.length≤1000000) (hw:Wr w b K) (hK:K.length≤1000000) (hne:0<L.length→∀ ad m c,u=.slice (some ad) m c→ad.block≠b):
  Calls Tryz.prog 70 #[.pointer (some ⟨b,0,none⟩),v,u] w (WritePost F L b K w):=by
 have hof:=of_any v F w hv hF
 obtain ⟨a,cap,rfl,hcap,hmax⟩:=hv.slice
 obtain ⟨a2,cap2,rfl,hcap2,hmax2⟩:=hu.slice
 have HU:=Lib.hid hu
 have HW:=Lib.hid hw
 have hbw:=hw.lt
 clear hv hu hw
 have hmf:∀ (fn:Fn) (first cap:Array Value) (w:World),(Instr.makeFunc fn first cap).run Tryz.prog w=.ok (.func fn first cap) w:=fun _ _ _ _=>rfl
 by_cases hok:okL F
 rotate_left
 ·have HN:=Lib.hid hok
  clear hok
  go_enter Tryz.func70,Tryz.ntmps70
  go_wp2_with fail
  refine hof.mono ?_
  rintro e w1 ⟨hb1,⟨h,_⟩ | ⟨_,rfl⟩⟩
  ·exact absurd h HN.out
  have HB1:=Lib.hid hb1
  clear hof hb1
  go_wp2
  go_ret
  exact .inl ⟨HN.out,rfl,HB1.out.alloc HB1.out.size _⟩
 have HOK:=Lib.hid hok
 have hl:=hok.1
 clear hok
 go_enter Tryz.func70,Tryz.ntmps70
 go_wp2_with fail
 refine hof.mono ?_
 rintro e w1 ⟨hb1,⟨_,c,rfl,hcw,hc⟩ | ⟨hn,_⟩⟩
 rotate_left
 ·exact absurd HOK.out hn
 have HB1:=Lib.hid hb1
 have HC:=Lib.hid hc
 clear hof hb1 hc
 go_wp2_with fail
 have hbx:=Blk.new w1 132 [.slice (some ⟨c,0,none⟩) F.length F.length]
 have hc2:=HC.out.alloc (.cells #[.slice (some ⟨c,0,none⟩) F.length F.length] 132)
 have hb2:Below w.heap.size w (w1.alloc (.cells #[.slice (some ⟨c,0,none⟩) F.length F.length] 132)):=HB1.out.alloc HB1.out.size _
 have hs2:(w1.alloc (.cells #[.slice (some ⟨c,0,none⟩) F.length F.length] 132)).heap.size=w1.heap.size+1:=by simp
 have hbxw:w.heap.size≤w1.heap.size:=HB1.out.size
 change Blk (w1.alloc (.cells #[.slice (some ⟨c,0,none⟩) F.length F.length] 132)) _ _ _ at hbx
 generalize (w1.alloc (.cells #[.slice (some ⟨c,0,none⟩) F.length F.length] 132))=w2 at*
 generalize w1.heap.size=bx at*
 have HBX:=Lib.hid hbx
 have HC2:=Lib.hid hc2
 have HB2:=Lib.hid hb2
 have HU2:=Lib.hid (HU.out.below hb2)
 have HW2:=Lib.hid (HW.out.below hb2)
 clear hbx hc2 hb2 HC HB1 hs2
 refine (contains_cl bx (noCd F) _ L w2 HU2.out (by omega) fun x _=>noCode_any F HOK.out.2.1 hl x bx c w2 HBX.out HC2.out).mono ?_
 rintro e w' ⟨rfl,rfl⟩
 cases hno:L.any (noCd F) with
 | true=>
   have HNO:=Lib.hid hno
   clear hno
   go_wp2
   go_ret
   exact .inr (.inl ⟨HOK.out,HNO.out,rfl,HB2.out⟩)
 | false=>
   have HNO:=Lib.hid hno
   clear hno
   have HNE:Hid (0<L.length→∀ ad,a2=some ad→ad.block≠b):=Lib.hid fun h0 ad h=>hne h0 ad _ _ (by rw [h])
   clear hne
   go_wp2_with fail
   go_loopw [26] (fun y wr=>∃ (i:Nat),i≤L.length∧y=.int .i64 i∧Wr wr b (K++codeBs F (L.take i))∧Gr w2 wr b) (fun y _=>L.length-(intOf y).toNat)
   case atStart=>exact ⟨0,by omega,rfl,by simpa [codeBs] using HW2.out,Gr.refl _ _⟩
   case round=>
    obtain ⟨i,hi,rfl,hw,hg⟩:=hrel
    have HWk:=Lib.hid hw
    have HG:=Lib.hid hg
    clear hw hg
    obtain ⟨cs,hcs⟩:=HW2.out.blk
    have HCS:=Lib.hid hcs
    clear hcs
    by_cases hlt:i<L.length
    ·have hir:IsInts wr (.slice a2 L.length cap2) L:=HU2.out.row HG.out fun ad m c h _=>by
      simp at h
      have:=HNE.out (by omega) ad h.1
      simpa using this
     obtain ⟨bb,off,cap',hs,_,_,_,hcc⟩:=hir.cells (by omega)
     simp at hs
     obtain ⟨rfl,rfl⟩:=hs
     have c0:=hcc i hlt
     have hxm:L.getD i 0∈L:=by rw [List.getD_eq_getElem?_getD,List.getElem?_eq_getElem hlt];exact List.getElem_mem hlt
     have hxn:noCd F (L.getD i 0)=false:=by
      have:=List.any_eq_false.1 HNO.out _ hxm
      simpa using this
     obtain ⟨j,hx,hj,hj0⟩:=noCd_false hxn
     obtain ⟨n,hn,hn15⟩:∃ n:Nat,F.getD j 0=n∧n≤15:=⟨(F.getD j 0).toNat,by have:=Pl.getD_in HOK.out.2.1 j;omega,by have:=Pl.getD_in HOK.out.2.1 j;omega⟩
     have hn0:0<n:=by omega
     have hcl:=code_lt HOK.out.2.2 hj hn hn0 hn15
     have hp15:2^n≤2^15:=Nat.pow_le_pow_right (by omega) hn15
     rw [pw15] at hp15
     have hget:=cdVs_get (codesL F) j (by rw [codesL_length];exact hj)
     rw [codesL_get hj,if_pos (by omega),hn] at hget
     have HCk:=Lib.hid (HC2.out.grown HG.out (by have:=HC2.out.ne HCS.out (by decide);simpa using this))
     have HBXk:=Lib.hid (HBX.out.grown HG.out (by have:=HBX.out.ne HCS.out (by decide);simpa using this))
     have e0:=HCk.out.cell hget.1
     have e1:=HCk.out.cell hget.2
     have e2:=HBXk.out.cell (o:=0) rfl
     have hlen:(K++codeBs F (L.take i)).length<17179869120:=by
      have h1:=codeBs_length HOK.out.2.1 (L.take i)
      rw [List.length_take] at h1
      rw [List.length_append]
      omega
     have hnext:codeBs F (L.take (i+1))=codeBs F (L.take i)++bitsOf (codeN F j) n:=by
      rw [take_next hlt,codeBs_snoc,hx]
      unfold codeB
      rw [Int.toNat_natCast,hn,Int.toNat_natCast]
     rw [hx] at c0
     have HNX:=Lib.hid hnext
     have HLEN:=Lib.hid hlen
     have hjI:(j:Int)<(F.length:Int):=by omega
     have hjN:=hj
     generalize codeN F j=X at*
     have hX:X≤32768:=by omega
     clear hcc hir hxm hxn hx hj hj0 hn hp15 hget hnext hlen hcl
     have hU:U64 (X:Int):=U64.small (by omega) (by omega)
     have hnI:(n:Int)≤64:=by omega
     go_wp2_with fail
     go_still_tail 12,(by kernel_rfl)
     change wpList _ _ _ _ _ wr.drew
     have hxw:IntKind.u64.wrap (X:Int)=X:=by rw [IntKind.wrap_u64];omega
     rw [hxw]
     have HWd:=Lib.hid HWk.out.drew
     have HGd:=Lib.hid (Gr.drew HG.out)
     clear e0 e1 e2 c0
     generalize wr.drew=wd at*
     go_wp2_with fail
     refine (put_any b _ (X:Int) n wd hU HWd.out (by have:=HLEN.out;omega) (by omega)).mono ?_
     rintro e w3 ⟨rfl,hw3,hg3⟩
     rw [Int.toNat_natCast,List.append_assoc,← HNX.out] at hw3
     have HW3:=Lib.hid hw3
     have HG3:=Lib.hid hg3
     clear hw3 hg3
     go_wp2_with fail
     refine ⟨⟨i+1,by omega,by first | rfl | go_num,HW3.out,Gr.trans HGd.out HG3.out⟩,?_⟩
     simp only [intOf_int];omega
    ·obtain rfl:i=L.length:=by omega
     rw [List.take_length] at HWk
     go_wp2
     go_ret
     exact .inr (.inr ⟨HOK.out,HNO.out,rfl,HWk.out,Gr.trans (Gr.ofBelow HB2.out) HG.out⟩)
attribute [local go_sem ↓] build29_eq
attribute [local go_sem] run_build29
end Go.Proofs.YtmjpnbadfmgimaaGreatDoor.S7
namespace Go.Proofs.YtmjpnbadfmgimaaGreatDoor.S7
open Go.RowKit _root_.Go.Proofs.YtmjpnbadfmgimaaGreatDoor.Pl _root_.Go.Proofs.YtmjpnbadfmgimaaGreatDoor.S7.Pl
theorem BoolsAt.below {w w':World} {sp:Option Addr} {cap:Nat} {M:List Bool} (h:BoolsAt w sp cap M) (hb:Below w.heap.size w w'):BoolsAt w' sp cap M:=by
 obtain ⟨h1,h2,h | ⟨g,off,cs,rfl,hc,ho⟩⟩:=h
 ·exact ⟨h1,h2,.inl h⟩
 ·exact ⟨h1,h2,.inr ⟨g,off,cs,rfl,hc.below hb hc.lt,ho⟩⟩
theorem own_new (w:World) (c:List Value) (t:TypeId) {base:Nat} (hb:base≤w.heap.size) (hl:c.length≤maxLen):(w.alloc (.cells c.toArray t)).ownsRow base t 1 (.slice (some ⟨w.heap.size,0,none⟩) c.length c.length) c.length c:=
 ⟨by omega,.inr ⟨w.heap.size,c.length,c.toArray,rfl,hb,heap_alloc_new w _,Nat.le_refl _,hl,by simp,by simp⟩⟩
namespace Pl
end Pl
end Go.Proofs.YtmjpnbadfmgimaaGreatDoor.S7

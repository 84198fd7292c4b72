/- Texts put together: Row, LenA, LenB, SrtA, SrtB, SrtC, SrtE. -/
import Derived.Test.YtmjpnbadfmgimaaGreatDoorFg1
import Derived.Test.YtmjpnbadfmgimaaGreatDoorProg
import Derived.Lib.SliceRun
import Derived.Laws.OwnMore
import Derived.Deep.RegionWith
import Derived.Shelf.Abstract
import Derived.Sort.LotA
import Derived.Shelf.SlSortCmp.KitK
import Derived.Sort.WalkB2
import Derived.Sort.WalkB12
import Derived.Shelf.SlSortCmp.InsertionK
set_option linter.unusedSimpArgs false
set_option linter.unusedVariables false
set_option maxRecDepth 100000
set_option maxHeartbeats 32000000
namespace Go.Proofs.YtmjpnbadfmgimaaGreatDoor.S6
open Go.RowKit

theorem beq_t {a b:Int} (h:a=b):(a==b)=true:=by subst h;simp
theorem beq_f {a b:Int} (h:a≠b):(a==b)=false:=by simpa using h
theorem bne_t {a b:Int} (h:a≠b):(a != b)=true:=by simpa using h
theorem bne_f {a b:Int} (h:a=b):(a != b)=false:=by subst h;simp
theorem ownsRow_slice {w:World} {base:Nat} {e:TypeId} {size:Nat} {v:Value} {n:Nat} {xs:List Value} (h:w.ownsRow base e size v n xs):∃ sp cap,v=.slice sp n cap∧n≤cap∧cap≤maxLen:=by
 obtain ⟨_,⟨rfl,rfl⟩ | ⟨g,cap,cur,rfl,_,_,h1,h2,_⟩⟩:=h
 ·exact ⟨none,0,rfl,Nat.le_refl _,by unfold maxLen;omega⟩
 ·exact ⟨_,cap,rfl,h1,h2⟩
theorem ownsRow_row {w w':World} {base:Nat} {e:TypeId} {size:Nat} {v:Value} {n:Nat} {xs:List Value} {r:Option Nat} (h:w.ownsRow base e size v n xs) (hg:w.grownBy w' r)
  (hr:∀ k t cs,r=some k→Blk w k t cs→base≤k→t≠e):w'.ownsRow base e size v n xs:=by
 refine h.kept hg ?_
 obtain ⟨_,⟨rfl,rfl⟩ | ⟨g,cap,cur,rfl,hb,hh,h1,h2,_⟩⟩:=h
 ·exact .inl rfl
 ·refine .inr fun e'=>?_
  have e2:r=some g:=e'.symm
  exact hr g e cur.toList e2 (by unfold Blk;simpa using hh) hb rfl
theorem grownBy_trans {w w' w'':World} {r:Option Nat} (h:w.grownBy w' r) (k:w'.grownBy w'' r):w.grownBy w'' r:=
 ⟨k.os.trans h.os,k.tape.trans h.tape,k.output.trans h.output,Nat.le_trans h.size k.size,
  fun i hi hn=>(k.block i (Nat.lt_of_lt_of_le hi h.size) hn).trans (h.block i hi hn)⟩
theorem grownBy_refl (w:World) (r:Option Nat):w.grownBy w r:=⟨rfl,rfl,rfl,Nat.le_refl _,fun _ _ _=>rfl⟩
theorem blk_ty {w:World} {b:Nat} {t t2:TypeId} {c c2:List Value} (h:Blk w b t c) (h2:Blk w b t2 c2):t=t2:=by
 apply Classical.byContradiction
 intro hne
 exact h.ne h2 hne rfl
theorem own_gr {w w':World} {base n r size:Nat} {e t:TypeId} {v:Value} {xs cs:List Value} (h:w.ownsRow base e size v n xs) (hg:Gr w w' r) (hb:Blk w r t cs) (h1:t≠e):w'.ownsRow base e size v n xs:=
 ownsRow_row h hg fun k t' cs' e' hk _=>by
  simp at e'
  subst e'
  have:=blk_ty hb hk
  subst this
  exact h1
theorem own_below {w w':World} {base n size:Nat} {e:TypeId} {v:Value} {xs:List Value} (h:w.ownsRow base e size v n xs) (hb:Below w.heap.size w w'):w'.ownsRow base e size v n xs:=
 ownsRow_row h (r:=none) ⟨hb.os,hb.tape,hb.output,hb.size,fun k hk _=>hb.block k hk⟩ (by simp)
theorem own_lt {w:World} {base n size:Nat} {e:TypeId} {v:Value} {xs:List Value} (h:w.ownsRow base e size v n xs):∀ k,v.ownBlock=some k→base≤k:=fun k hk=>(h.lt k hk).1
theorem bel_append {w w1 w2:World} {base n size:Nat} {e:TypeId} {v:Value} {xs:List Value} (hb:Below base w w1) (o:Obj) (h:w1.ownsRow base e size v n xs) (hg:(w1.alloc o).grownBy w2 v.ownBlock) (hbase:base≤w1.heap.size):Below base w w2:=
 (hb.alloc hbase o).grown hg (by simp;omega) (own_lt h)
theorem own_open {w:World} {base n size:Nat} {e:TypeId} {v:Value} {xs:List Value} (h:w.ownsRow base e size v n xs) (h0:0<n):∃ g cap,v=.slice (some ⟨g,0,none⟩) n cap∧base≤g∧g<w.heap.size∧n≤cap∧cap≤maxLen:=by
 obtain ⟨hl,⟨rfl,rfl⟩ | ⟨g,cap,cur,rfl,hb,hh,hn,hm,_⟩⟩:=h
 ·omega
 ·exact ⟨g,cap,rfl,hb,(Array.getElem?_eq_some_iff.1 hh).1,hn,hm⟩
theorem own_base {w:World} {base base' n size:Nat} {e:TypeId} {v:Value} {xs:List Value} (h:w.ownsRow base e size v n xs) (hb:base'≤base):w.ownsRow base' e size v n xs:=by
 obtain ⟨hl,h | ⟨g,cap,cur,hv,hg,hrest⟩⟩:=h
 ·exact ⟨hl,.inl h⟩
 ·exact ⟨hl,.inr ⟨g,cap,cur,hv,by omega,hrest⟩⟩

def IsCells (w:World) (v:Value) (n:Nat) (vs:List Value):Prop:=
 (v=.slice none 0 0∧n=0∧vs=[])∨∃ a cap,v=.slice (some a) n cap∧n≤cap∧cap≤maxLen∧∀ i u,vs[i]? = some u→w.cell? (a.add i)=some u
theorem isCells_nil (w:World):IsCells w (.slice none 0 0) 0 []:=.inl ⟨rfl,rfl,rfl⟩
theorem IsCells.below {w w':World} {v:Value} {n:Nat} {vs:List Value} (h:IsCells w v n vs) (hb:Below w.heap.size w w'):IsCells w' v n vs:=by
 obtain h | ⟨a,cap,rfl,h1,h2,hc⟩:=h
 ·exact .inl h
 ·refine .inr ⟨a,cap,rfl,h1,h2,fun i u hu=>?_⟩
  have:=hc i u hu
  rw [hb.cell (p:=a.add i) (World.block_lt_of_cell? w _ this)]
  exact this
theorem add_block (a:Addr) (i:Nat):(a.add i).block=a.block:=by unfold Addr.add;split <;> rfl
theorem IsCells.row {w w':World} {v:Value} {n:Nat} {vs:List Value} (h:IsCells w v n vs) {r:Option Nat} (hg:w.grownBy w' r) (hr:∀ a m c,v=.slice (some a) m c→0<vs.length→some a.block≠r):IsCells w' v n vs:=by
 obtain h | ⟨a,cap,rfl,h1,h2,hc⟩:=h
 ·exact .inl h
 ·refine .inr ⟨a,cap,rfl,h1,h2,fun i u hu=>?_⟩
  have:=hc i u hu
  have hl:i<vs.length:=(List.getElem?_eq_some_iff.1 hu).1
  exact hg.cell this (by rw [add_block];exact hr a _ _ rfl (by omega))
theorem IsCells.slice {w:World} {v:Value} {n:Nat} {vs:List Value} (h:IsCells w v n vs):∃ a cap,v=.slice a n cap∧n≤cap∧cap≤maxLen:=by
 obtain ⟨rfl,rfl,rfl⟩ | ⟨a,cap,rfl,h1,h2,_⟩:=h
 ·exact ⟨none,0,rfl,Nat.le_refl _,by unfold maxLen;omega⟩
 ·exact ⟨some a,cap,rfl,h1,h2⟩
theorem add_none (b off i:Nat):(⟨b,off,none⟩:Addr).add i=⟨b,off+i,none⟩:=by unfold Addr.add;split <;> simp_all
theorem IsCells.cells {w:World} {v:Value} {n:Nat} {vs:List Value} (h:IsCells w v n vs) (h0:0<vs.length):∃ b off cap,v=.slice (some ⟨b,off,none⟩) n cap∧n≤cap∧cap≤maxLen∧b<w.heap.size∧(∀ i u,vs[i]? = some u→w.cell? ⟨b,off+i,none⟩=some u):=by
 obtain ⟨rfl,rfl,rfl⟩ | ⟨a,cap,rfl,h1,h2,hc⟩:=h
 ·simp at h0
 ·obtain ⟨b,off,spot⟩:=a
  have hc0:=hc 0 vs[0] (by simp [h0])
  have hspot:spot=none:=by simpa [Addr.add] using World.cell?_spot hc0
  subst hspot
  refine ⟨b,off,cap,rfl,h1,h2,World.block_lt_of_cell? w _ hc0,fun i u hu=>?_⟩
  have:=hc i u hu
  rwa [add_none] at this
theorem isCells_own {w:World} {base n size:Nat} {e:TypeId} {v:Value} {xs:List Value} (h:w.ownsRow base e size v n xs):IsCells w v n xs:=by
 have h':=h
 obtain ⟨hl,⟨he,h0⟩ | ⟨g,cap',cur,hv,_,hh,hn,hm,hs,ht⟩⟩:=h
 ·subst h0
  exact .inl ⟨he,rfl,List.eq_nil_of_length_eq_zero (by omega)⟩
 ·subst hv
  refine .inr ⟨⟨g,0,none⟩,cap',rfl,hn,hm,fun i u hu=>?_⟩
  exact h'.cells (g:=g) rfl i u hu
theorem IsCells.take {w:World} {a:Option Addr} {n cap:Nat} {vs:List Value} (h:IsCells w (.slice a n cap) n vs) (m j:Nat) (hm:m≤n):IsCells w (.slice a m cap) m (vs.take j):=by
 obtain ⟨he,h0,rfl⟩ | ⟨x,c,he,h1,h2,hc⟩:=h
 ·simp at he
  obtain ⟨rfl,rfl,rfl⟩:=he
  have:m=0:=by omega
  subst this
  exact .inl ⟨rfl,rfl,by simp⟩
 ·simp at he
  obtain ⟨rfl,rfl⟩:=he
  refine .inr ⟨x,cap,rfl,by omega,h2,fun i u hu=>hc i u ?_⟩
  have hi:=(List.getElem?_eq_some_iff.1 hu).1
  rw [List.length_take] at hi
  rwa [List.getElem?_take_of_lt (by omega)] at hu
theorem IsCells.drop {w:World} {a:Option Addr} {n cap:Nat} {vs:List Value} (h:IsCells w (.slice a n cap) n vs) (m j:Nat) (hm:m≤n):IsCells w (.slice (a.map fun x=>x.add j) (n-m) (cap-m)) (n-m) (vs.drop j):=by
 obtain ⟨he,h0,rfl⟩ | ⟨x,c,he,h1,h2,hc⟩:=h
 ·simp at he
  obtain ⟨rfl,rfl,rfl⟩:=he
  exact .inl ⟨by simp,by omega,by simp⟩
 ·simp at he
  obtain ⟨rfl,rfl⟩:=he
  refine .inr ⟨x.add j,cap-m,rfl,by omega,by omega,fun i u hu=>?_⟩
  rw [List.getElem?_drop] at hu
  have hcell:=hc (j+i) u hu
  rw [Addr.add_add];exact hcell
theorem isCells_zero (w:World) (a:Option Addr) (cap:Nat) (h:a=none→cap=0) (hc:cap≤maxLen):IsCells w (.slice a 0 cap) 0 []:=by
 cases a with
 | none=>rw [h rfl];exact isCells_nil w
 | some x=>exact .inr ⟨x,cap,rfl,Nat.zero_le _,hc,by simp⟩
theorem addr_zero (a:Addr):a.add 0=a:=by
 obtain ⟨b,o,s⟩:=a
 unfold Addr.add
 cases s <;> simp

def i64s (L:List Int):List Value:=L.map fun x=>.int .i64 x
theorem i64s_length (L:List Int):(i64s L).length=L.length:=by simp [i64s]
theorem i64s_get (L:List Int) (i:Nat) (h:i<L.length):(i64s L)[i]? = some (.int .i64 (L.getD i 0)):=by simp [i64s,h,List.getD]
theorem i64s_append (A B:List Int):i64s (A++B)=i64s A++i64s B:=by simp [i64s]
theorem i64s_snoc (A:List Int) (c:Int):i64s (A++[c])=i64s A++[.int .i64 c]:=by simp [i64s]
theorem i64s_set (B:List Int) (i:Nat) (c:Int):(i64s B).set i (.int .i64 c)=i64s (B.set i c):=by simp [i64s,List.map_set]
theorem i64s_one (L:List Int):∀ v∈i64s L,v.oneCell'=true:=by
 intro v hv;simp only [i64s,List.mem_map] at hv;obtain ⟨x,_,rfl⟩:=hv;rfl
def IsInts (w:World) (v:Value) (L:List Int):Prop:=IsCells w v L.length (i64s L)
theorem IsInts.below {w w':World} {v:Value} {L:List Int} (h:IsInts w v L) (hb:Below w.heap.size w w'):IsInts w' v L:=IsCells.below h hb
theorem IsInts.slice {w:World} {v:Value} {L:List Int} (h:IsInts w v L):∃ a cap,v=.slice a L.length cap∧L.length≤cap∧cap≤maxLen:=IsCells.slice h
theorem IsInts.cells {w:World} {v:Value} {L:List Int} (h:IsInts w v L) (h0:0<L.length):∃ b off cap,v=.slice (some ⟨b,off,none⟩) L.length cap∧L.length≤cap∧cap≤maxLen∧b<w.heap.size∧(∀ i,i<L.length→w.cell? ⟨b,off+i,none⟩=some (.int .i64 (L.getD i 0))):=by
 obtain ⟨b,off,cap,h1,h2,h3,h4,h5⟩:=IsCells.cells h (by rw [i64s_length];exact h0)
 exact ⟨b,off,cap,h1,h2,h3,h4,fun i hi=>h5 i _ (i64s_get L i hi)⟩
theorem isInts_own {w:World} {base:Nat} {e:TypeId} {v:Value} {n:Nat} {L:List Int} (hn:n=L.length) (h:w.ownsRow base e 1 v n (i64s L)):IsInts w v L:=by
 subst hn;exact isCells_own h
theorem own_nilI (w:World) (base:Nat) (e:TypeId):w.ownsRow base e 1 (.slice none 0 0) 0 (i64s []):=World.ownsRow_nil _ _ _ _
theorem infoI:(Tryz.prog.info? 3).map (fun i=>(i.zero,i.size,i.bytes))=some (some (.int .i64 0),1,8):=by kernel_rfl
theorem infoJ:(Tryz.prog.info? 2).map (fun i=>(i.zero,i.size,i.bytes))=some (some (.int .i64 0),1,8):=by kernel_rfl
theorem infoI_parts {o:Option TypeInfo} (h:o.map (fun i=>(i.zero,i.size,i.bytes))=some (some (Value.int .i64 0),1,8)):∃ i,o=some i∧i.zero=some (.int .i64 0)∧i.size=1∧i.bytes=8:=by
 cases o with
 | none=>cases h
 | some i=>simp at h;exact ⟨i,rfl,h.1,h.2.1,h.2.2⟩
theorem wpList_append_j {w:World} {ops:Array Oper} {rest:List Oper} {o:Oper} {a:Act} {Q:Exit→Act→World→Prop} (hgd:o.guard=none) (s x:Operand)
  (ho:o.op=.call { callee:=.builtin .append,args:=#[s,x],argTypes:=#[108,108] })
  (base:Nat) (v:Value) (n:Nat) (L:List Int) (c:Int) (hs:a.eval s=v) (hown:w.ownsRow base 2 1 v n (i64s L))
  (b:Nat) (hb:b=w.heap.size) (hx:a.eval x=.slice (some ⟨b,0,none⟩) 1 1)
  (hbytes:n+1≤17592186044416) (hbase:base≤w.heap.size)
  (h:∀ v' w',w'.ownsRow base 2 1 v' (n+1) (i64s (L++[c]))→(w.alloc (.cells #[.int .i64 c] 2 (0,0))).grownBy w' v.ownBlock→wpList Tryz.prog ops Q rest (a.put o.dst v') w'):wpList Tryz.prog ops Q (o::rest) a (w.alloc (.cells #[.int .i64 c] 2 (0,0))):=by
 subst hb
 obtain ⟨i0,hi,hz0,hz1,hz2⟩:=infoI_parts infoJ
 exact wpList_append_own _ hgd s x _ ho base 2 i0 (.int .i64 0) 1 8 Tryz.underlying108 hi hz0 hz1 hz2 rfl (by decide) v n _ hs (hown.alloc _) ⟨w.heap.size,0,none⟩ 1 1 [.int .i64 c] hx rfl (cell_one_new _ _ _) (by intro u hu;simp at hu;subst hu;rfl) (by unfold maxLen;omega) (by omega) (by simp;omega) fun v' w' h2 h3 _=>h v' w' (by rw [i64s_snoc];exact h2) h3
abbrev Coin:=Int×Int
def encC (c:Coin):List Value:=[.int .i64 c.1,.int .i64 c.2]
def coinVs (C:List Coin):List Value:=C.flatMap encC
theorem coinVs_cons (c:Coin) (C:List Coin):coinVs (c::C)=.int .i64 c.1::.int .i64 c.2::coinVs C:=by simp [coinVs,encC]
theorem coinVs_length (C:List Coin):(coinVs C).length=C.length*2:=by
 induction C with
 | nil=>rfl
 | cons c C ih=>rw [coinVs_cons];simp [ih];omega
theorem coinVs_append (A B:List Coin):coinVs (A++B)=coinVs A++coinVs B:=by simp [coinVs]
theorem coinVs_snoc (A:List Coin) (c:Coin):coinVs (A++[c])=coinVs A++[.int .i64 c.1,.int .i64 c.2]:=by simp [coinVs,encC]
theorem coinVs_one (C:List Coin):∀ v∈coinVs C,v.oneCell'=true:=by
 intro v hv;simp only [coinVs,List.mem_flatMap,encC] at hv;obtain ⟨x,_,hx⟩:=hv;simp at hx;rcases hx with rfl | rfl <;> rfl
theorem coinVs_get (C:List Coin) (i:Nat) (h:i<C.length):(coinVs C)[i*2]? = some (.int .i64 (C.getD i (0,0)).1)∧(coinVs C)[i*2+1]? = some (.int .i64 (C.getD i (0,0)).2):=by
 induction C generalizing i with
 | nil=>simp at h
 | cons c C ih=>
   rw [coinVs_cons]
   cases i with
   | zero=>exact ⟨rfl,rfl⟩
   | succ i=>
     have:=ih i (by simpa using h)
     rw [show (i+1)*2=i*2+1+1 by omega]
     simpa using this
theorem coinVs_drop (C:List Coin) (i:Nat):(coinVs C).drop (i*2)=coinVs (C.drop i):=by
 induction C generalizing i with
 | nil=>simp [coinVs]
 | cons c C ih=>
   cases i with
   | zero=>rfl
   | succ i=>rw [coinVs_cons,show (i+1)*2=i*2+1+1 by omega];simpa using ih i
theorem coinVs_take (C:List Coin) (i:Nat):(coinVs C).take (i*2)=coinVs (C.take i):=by
 induction C generalizing i with
 | nil=>simp [coinVs]
 | cons c C ih=>
   cases i with
   | zero=>rfl
   | succ i=>rw [coinVs_cons,show (i+1)*2=i*2+1+1 by omega];simp [coinVs_cons,ih i]
def IsCoins (w:World) (v:Value) (C:List Coin):Prop:=IsCells w v C.length (coinVs C)
theorem IsCoins.below {w w':World} {v:Value} {C:List Coin} (h:IsCoins w v C) (hb:Below w.heap.size w w'):IsCoins w' v C:=IsCells.below h hb
theorem IsCoins.slice {w:World} {v:Value} {C:List Coin} (h:IsCoins w v C):∃ a cap,v=.slice a C.length cap∧C.length≤cap∧cap≤maxLen:=IsCells.slice h
theorem IsCoins.cells {w:World} {v:Value} {C:List Coin} (h:IsCoins w v C) (h0:0<C.length):∃ b off cap,v=.slice (some ⟨b,off,none⟩) C.length cap∧C.length≤cap∧cap≤maxLen∧b<w.heap.size∧
  (∀ i,i<C.length→w.cell? ⟨b,off+i*2,none⟩=some (.int .i64 (C.getD i (0,0)).1)∧w.cell? ⟨b,off+i*2+1,none⟩=some (.int .i64 (C.getD i (0,0)).2)):=by
 obtain ⟨b,off,cap,h1,h2,h3,h4,h5⟩:=IsCells.cells h (by rw [coinVs_length];omega)
 refine ⟨b,off,cap,h1,h2,h3,h4,fun i hi=>?_⟩
 have:=coinVs_get C i hi
 exact ⟨h5 _ _ this.1,by rw [Nat.add_assoc];exact h5 _ _ this.2⟩
theorem IsCoins.take {w:World} {a:Option Addr} {n cap:Nat} {C:List Coin} (h:IsCoins w (.slice a n cap) C) (hn:C.length=n) (m:Nat) (hm:m≤n):IsCoins w (.slice a m cap) (C.take m):=by
 subst hn
 have:=IsCells.take h m (m*2) hm
 rw [coinVs_take] at this
 unfold IsCoins
 rw [List.length_take,Nat.min_eq_left hm]
 exact this
theorem IsCoins.drop {w:World} {a:Option Addr} {n cap:Nat} {C:List Coin} (h:IsCoins w (.slice a n cap) C) (hn:C.length=n) (m:Nat) (hm:m≤n):IsCoins w (.slice (a.map fun x=>x.add (m*2)) (n-m) (cap-m)) (C.drop m):=by
 subst hn
 have:=IsCells.drop h m (m*2) hm
 rw [coinVs_drop] at this
 unfold IsCoins
 rw [List.length_drop]
 exact this
theorem isCoins_own {w:World} {base:Nat} {e:TypeId} {v:Value} {n:Nat} {C:List Coin} (hn:n=C.length) (h:w.ownsRow base e 2 v n (coinVs C)):IsCoins w v C:=by
 subst hn;exact isCells_own h
theorem own_nilC (w:World) (base:Nat) (e:TypeId):w.ownsRow base e 2 (.slice none 0 0) 0 (coinVs []):=World.ownsRow_nil _ _ _ _
theorem infoC:(Tryz.prog.info? 154).map (fun i=>(i.zero,i.size,i.bytes))=some (some (.agg #[.int .i64 0,.int .i64 0]),2,16):=by kernel_rfl
theorem infoC_parts {o:Option TypeInfo} (h:o.map (fun i=>(i.zero,i.size,i.bytes))=some (some (.agg #[.int .i64 0,.int .i64 0]),2,16)):∃ i,o=some i∧i.zero=some (.agg #[.int .i64 0,.int .i64 0])∧i.size=2∧i.bytes=16:=by
 cases o with
 | none=>cases h
 | some i=>simp at h;exact ⟨i,rfl,h.1,h.2.1,h.2.2⟩
theorem wpList_append_c {w:World} {ops:Array Oper} {rest:List Oper} {o:Oper} {a:Act} {Q:Exit→Act→World→Prop} (hgd:o.guard=none) (s x:Operand)
  (ho:o.op=.call { callee:=.builtin .append,args:=#[s,x],argTypes:=#[151,151] })
  (base:Nat) (v:Value) (n:Nat) (L:List Coin) (c:Coin) (hs:a.eval s=v) (hown:w.ownsRow base 154 2 v n (coinVs L))
  (b:Nat) (hb:b=w.heap.size) (hx:a.eval x=.slice (some ⟨b,0,none⟩) 1 1)
  (hbytes:n+1≤8796093022208) (hbase:base≤w.heap.size)
  (h:∀ v' w',w'.ownsRow base 154 2 v' (n+1) (coinVs (L++[c]))→(w.alloc (.cells #[.int .i64 c.1,.int .i64 c.2] 154 (0,0))).grownBy w' v.ownBlock→wpList Tryz.prog ops Q rest (a.put o.dst v') w'):wpList Tryz.prog ops Q (o::rest) a (w.alloc (.cells #[.int .i64 c.1,.int .i64 c.2] 154 (0,0))):=by
 subst hb
 obtain ⟨i0,hi,hz0,hz1,hz2⟩:=infoC_parts infoC
 refine wpList_append_own _ hgd s x _ ho base 154 i0 _ 2 16 Tryz.underlying151 hi hz0 hz1 hz2 rfl (by decide) v n _ hs (hown.alloc _) ⟨w.heap.size,0,none⟩ 1 1 [.int .i64 c.1,.int .i64 c.2] hx rfl ?_ (by intro u hu;simp at hu;rcases hu with rfl | rfl <;> rfl) (by unfold maxLen;omega) (by omega) (by simp;omega) fun v' w' h2 h3 _=>h v' w' (by rw [coinVs_snoc];exact h2) h3
 intro j u hu
 have hb:=Blk.new w 154 [.int .i64 c.1,.int .i64 c.2]
 rw [add_none,Nat.zero_add]
 exact hb.cell hu
end Go.Proofs.YtmjpnbadfmgimaaGreatDoor.S6
namespace Go.Proofs.YtmjpnbadfmgimaaGreatDoor.Pl
end Go.Proofs.YtmjpnbadfmgimaaGreatDoor.Pl
namespace Go.Proofs.YtmjpnbadfmgimaaGreatDoor.S6.Pl
end Go.Proofs.YtmjpnbadfmgimaaGreatDoor.S6.Pl
namespace Go.Proofs.YtmjpnbadfmgimaaGreatDoor.S6
open Go.RowKit
namespace Pl
def kraftW:Int→List Int→Int
 | s,n::l=>kraftW (if 1≤n∧n≤15 then wrap64 (s+2^(15-n).toNat) else s) l
 | s,[]=>s
theorem drop_cons {L:List Int} {i:Nat} (h:i<L.length):L.drop i=L.getD i 0::L.drop (i+1):=by
 rw [List.drop_eq_getElem_cons h];simp [List.getD,h]
theorem kraft_in {s n:Int} {l:List Int} (h:1≤n∧n≤15):kraftW s (n::l)=kraftW (wrap64 (s+2^(15-n).toNat)) l:=by
 simp [kraftW,h]
theorem kraft_out {s n:Int} {l:List Int} (h:¬ (1≤n∧n≤15)):kraftW s (n::l)=kraftW s l:=by
 simp only [kraftW,if_neg h]
end Pl
open _root_.Go.Proofs.YtmjpnbadfmgimaaGreatDoor.Pl _root_.Go.Proofs.YtmjpnbadfmgimaaGreatDoor.S6.Pl
theorem intOf_int (x:Int):intOf (.int .i64 x)=x:=rfl
theorem pow_wrap:∀ p,p<15→wrap64 (2^p)=2^p:=by decide +kernel
def minN (ats:Array TypeId) (ty:TypeId) (u v:Value):Sem Value:=Builtin.min_ ats ty #[u,v]
theorem minN_eq (ats:Array TypeId) (ty:TypeId) (u v:Value):Builtin.min_ ats ty #[u,v]=minN ats ty u v:=rfl
theorem run_minN (ats:Array TypeId) (ty:TypeId) (m n:Nat) (w:World):(minN ats ty (.int .i64 m) (.int .i64 n)).run Tryz.prog w=.ok (.int .i64 ((min m n:Nat):Int)) w:=by
 unfold minN Builtin.min_
 by_cases h:m<n
 ·have e:min m n=m:=by omega
  have h':(m:Int)<n:=by omega
  rw [e]
  simp [Builtin.min2,h,h']
  try omega
 ·have e:min m n=n:=by omega
  have h':¬ (m:Int)<n:=by omega
  rw [e]
  simp [Builtin.min2,h,h']
  try omega
attribute [local go_sem ↓] minN_eq
end Go.Proofs.YtmjpnbadfmgimaaGreatDoor.S6
namespace Go.Proofs.YtmjpnbadfmgimaaGreatDoor.S6
open Go.RowKit _root_.Go.Proofs.YtmjpnbadfmgimaaGreatDoor.Pl _root_.Go.Proofs.YtmjpnbadfmgimaaGreatDoor.S6.Pl
namespace Pl
def allOk (F:List Int):Prop:=∀ x∈F,0≤x∧x≤1073741824
theorem allOk_cons {x:Int} {F:List Int}:allOk (x::F)↔(0≤x∧x≤1073741824)∧allOk F:=by simp [allOk]
theorem allOk_nil:allOk []:=by simp [allOk]
theorem allOk_drop {F:List Int} {i:Nat} (h:i<F.length) (h0:0≤F.getD i 0) (h1:F.getD i 0≤1073741824):allOk (F.drop i)↔allOk (F.drop (i+1)):=by
 rw [drop_cons h,allOk_cons];exact ⟨fun h=>h.2,fun h=>⟨⟨h0,h1⟩,h⟩⟩
theorem allOk_not {F:List Int} {i:Nat} (h:i<F.length) (h0:¬ (0≤F.getD i 0∧F.getD i 0≤1073741824)):¬ allOk (F.drop i):=by
 rw [drop_cons h,allOk_cons];exact fun h=>h0 h.1
end Pl
theorem outside_any (x:Int) (w:World):Calls Tryz.prog 121 #[.int .i64 x] w fun e w'=>e=.returned (.bool (decide (x<0∨1073741824<x)))∧w=w':=by
 by_cases h1:x<0
 ·have e:decide (x<0∨1073741824<x)=true:=decide_eq_true (.inl h1)
  rw [e]
  go_enter Tryz.func121,Tryz.ntmps121
  go_wp2
  go_ret
  exact ⟨rfl,rfl⟩
 ·by_cases h2:1073741824<x
  ·have e:decide (x<0∨1073741824<x)=true:=decide_eq_true (.inr h2)
   rw [e]
   go_enter Tryz.func121,Tryz.ntmps121
   go_wp2
   go_ret
   exact ⟨rfl,rfl⟩
  ·have e:decide (x<0∨1073741824<x)=false:=decide_eq_false (by omega)
   rw [e]
   go_enter Tryz.func121,Tryz.ntmps121
   go_wp2
   go_ret
   exact ⟨rfl,rfl⟩
theorem index_any (v:Value) (F:List Int) (w:World) (hv:IsInts w v F) (hF:F.length≤1000000):
  Calls Tryz.prog 143 #[v,.func (.func 121) #[] #[]] w fun e w'=>(∃ r,e=.returned (.int .i64 r)∧(0≤r↔¬ allOk F))∧w=w':=by
 obtain ⟨a,cap,rfl,hcap,hmax⟩:=hv.slice
 have HV:=Lib.hid hv
 clear hv
 go_enter Tryz.func143,Tryz.ntmps143
 go_wp2
 go_loopw [8] (fun y wr=>∃ (i:Nat),i≤F.length∧y=.int .i64 i∧(allOk (F.drop i)↔allOk F)∧wr=w) (fun y _=>F.length-(intOf y).toNat)
 case atStart=>exact ⟨0,by omega,rfl,Iff.rfl,rfl⟩
 case round=>
  obtain ⟨i,hi,rfl,he,rfl⟩:=hrel
  have HE:=Lib.hid he
  clear he
  by_cases hlt:i<F.length
  ·obtain ⟨bb,off,cap',hs,_,_,_,hc⟩:=HV.out.cells (by omega)
   simp at hs
   obtain ⟨rfl,rfl⟩:=hs
   have c0:=hc i hlt
   have h1:=@allOk_drop F i hlt
   have h2:=@allOk_not F i hlt
   have H1:=Lib.hid h1
   have H2:=Lib.hid h2
   clear h1 h2
   generalize F.getD i 0=x at*
   clear hc
   have hcl:=outside_any x wr
   by_cases hx:0≤x∧x≤1073741824
   ·have e:decide (x<0∨1073741824<x)=false:=decide_eq_false (by omega)
    rw [e] at hcl
    clear e
    go_wp2_with fail
    refine hcl.mono ?_
    rintro e w' ⟨rfl,rfl⟩
    go_wp2
    refine ⟨⟨i+1,by omega,by first | rfl | go_num,(H1.out hx.1 hx.2).symm.trans HE.out,by first | trivial | rfl⟩,?_⟩
    simp only [intOf_int];omega
   ·have e:decide (x<0∨1073741824<x)=true:=decide_eq_true (by omega)
    rw [e] at hcl
    clear e
    go_wp2_with fail
    refine hcl.mono ?_
    rintro e w' ⟨rfl,rfl⟩
    go_wp2
    go_ret
    exact ⟨⟨_,rfl,by rw [← HE.out];exact ⟨fun _=>H2.out hx,fun _=>by omega⟩⟩,rfl⟩
  ·have e:F.drop i=[]:=List.drop_eq_nil_of_le (by omega)
   rw [e] at HE
   clear e
   go_wp2
   go_ret
   exact ⟨⟨_,rfl,by rw [← HE.out];exact ⟨fun h=>by omega,fun h=>absurd allOk_nil h⟩⟩,rfl⟩
theorem contains_any (v:Value) (F:List Int) (w:World) (hv:IsInts w v F) (hF:F.length≤1000000):
  Calls Tryz.prog 122 #[v,.func (.func 121) #[] #[]] w fun e w'=>(∃ b,e=.returned (.bool b)∧(b=true↔¬ allOk F))∧w=w':=by
 have hc:=index_any v F w hv hF
 go_enter Tryz.func122,Tryz.ntmps122
 go_wp2_with fail
 refine hc.mono ?_
 rintro e w' ⟨⟨r,rfl,hr⟩,rfl⟩
 have H:=Lib.hid hr
 clear hr hc
 go_wp2
 go_ret
 exact ⟨⟨decide (0≤r),rfl,by rw [decide_eq_true_iff];exact H.out⟩,rfl⟩
theorem inRange_any (v:Value) (F:List Int) (w:World) (hv:IsInts w v F) (hF:F.length≤1000000):
  Calls Tryz.prog 100 #[v] w fun e w'=>(∃ b,e=.returned (.bool b)∧(b=true↔F.length≤300∧allOk F))∧w=w':=by
 have hc:=contains_any v F w hv hF
 obtain ⟨a,cap,rfl,hcap,hmax⟩:=hv.slice
 by_cases hl:F.length≤300
 ·go_enter Tryz.func100,Tryz.ntmps100
  go_wp2_with fail
  refine hc.mono ?_
  rintro e w' ⟨⟨b,rfl,hb⟩,rfl⟩
  have HB:=Lib.hid hb
  clear hb hc
  go_wp2
  go_ret
  refine ⟨⟨!b,rfl,?_⟩,rfl⟩
  have:=HB.out
  cases b <;> simp_all
 ·go_enter Tryz.func100,Tryz.ntmps100
  go_wp2
  go_ret
  exact ⟨rfl,rfl⟩
end Go.Proofs.YtmjpnbadfmgimaaGreatDoor.S6
namespace Go.Proofs.YtmjpnbadfmgimaaGreatDoor.S6
open Go.Sort
namespace Pl
variable {α:Type}
def rotF (a m b:Nat) (f:Nat→α) (x:Nat):α:=if a≤x∧x<a+(b-m) then f (x+(m-a)) else if a+(b-m)≤x∧x<b then f (x-(b-m)) else f x
def swapF (a b n:Nat) (f:Nat→α) (x:Nat):α:=if a≤x∧x<a+n then f (x+(b-a)) else if b≤x∧x<b+n then f (x-(b-a)) else f x
theorem swapF_zero (a b:Nat) (f:Nat→α):swapF a b 0 f=f:=by
 funext x;unfold swapF;repeat' split
 all_goals first | rfl | (exfalso;omega)
theorem rot_step1 {m i j:Nat} (hi:i≤m) (hj:j<i) (f:Nat→α):rotF (m-(i-j)) m (m+j) (swapF (m-i) m j f)=rotF (m-i) m (m+j) f:=by
 funext x
 unfold rotF swapF
 repeat' split
 all_goals first | rfl | (exfalso;omega) | (congr 1;omega)
theorem rot_step2 {m i j:Nat} (hi:i≤m) (hj:i<j) (f:Nat→α):rotF (m-i) m (m+(j-i)) (swapF (m-i) (m+j-i) i f)=rotF (m-i) m (m+j) f:=by
 funext x
 unfold rotF swapF
 repeat' split
 all_goals first | rfl | (exfalso;omega) | (congr 1;omega)
theorem rot_end {m i:Nat} (hi:i≤m) (f:Nat→α):swapF (m-i) m i f=rotF (m-i) m (m+i) f:=by
 funext x
 unfold rotF swapF
 repeat' split
 all_goals first | rfl | (exfalso;omega) | (congr 1;omega)
theorem rotF_none1 (a b:Nat) (f:Nat→α):rotF a a b f=f:=by
 funext x;unfold rotF;repeat' split
 all_goals first | rfl | (exfalso;omega) | (congr 1;omega)
theorem rotF_none2 (a b:Nat) (f:Nat→α):rotF a b b f=f:=by
 funext x;unfold rotF;repeat' split
 all_goals first | rfl | (exfalso;omega) | (congr 1;omega)
variable [Inhabited α]
def Arr (d:Array α) (f:Nat→α):Prop:=∀ x,d[x]! = f x
theorem arr_self (d:Array α):Arr d (fun x=>d[x]!):=fun _=>rfl
theorem swapF_step {a b i:Nat} (h:a+i<b) {d:Array α} {f:Nat→α} (hd:Arr d (swapF a b i f)) (hb:b+i<d.size):Arr (swp d (a+i) (b+i)) (swapF a b (i+1) f):=by
 intro x
 rw [swp_get d (by omega) hb,hd,hd,hd]
 unfold swapF
 repeat' split
 all_goals first | rfl | (exfalso;omega) | (congr 1;omega)
theorem rot_right {a k:Nat} (h:a≤k) {d:Array α} {f:Nat→α} (hd:Arr d (rotF a (a+1) (k+1) f)) (hk:k+1<d.size):Arr (swp d k (k+1)) (rotF a (a+1) (k+2) f):=by
 intro x
 rw [swp_get d (by omega) hk,hd,hd,hd]
 unfold rotF
 repeat' split
 all_goals first | rfl | (exfalso;omega) | (congr 1;omega)
theorem rot_left {k m:Nat} (h:k<m) {d:Array α} {f:Nat→α} (hd:Arr d (rotF (k+1) m (m+1) f)) (hm:m<d.size):Arr (swp d (k+1) k) (rotF k m (m+1) f):=by
 intro x
 rw [swp_get d (by omega) (by omega),hd,hd,hd]
 unfold rotF
 repeat' split
 all_goals first | rfl | (exfalso;omega) | (congr 1;omega)

variable (key:α→Int)
def Srt (a b:Nat) (d:Array α):Prop:=∀ i j,a≤i→i<j→j<b→key d[i]! ≤ key d[j]!
variable {key}
theorem Srt.le {a b:Nat} {d:Array α} (h:Srt key a b d) {i j:Nat} (hi:a≤i) (hij:i≤j) (hj:j<b):key d[i]! ≤ key d[j]! := by
 rcases Nat.lt_or_eq_of_le hij with h1 | h1
 ·exact h i j hi h1 hj
 ·subst h1;exact Int.le_refl _
theorem Srt.congr {a b:Nat} {d d':Array α} (h:Srt key a b d) (he:∀ x,a≤x→x<b→d'[x]! = d[x]!):Srt key a b d':=by
 intro i j h1 h2 h3
 rw [he i h1 (by omega),he j (by omega) h3]
 exact h i j h1 h2 h3
theorem Srt.sub {a b a' b':Nat} {d:Array α} (h:Srt key a b d) (ha:a≤a') (hb:b'≤b):Srt key a' b' d:=fun i j h1 h2 h3=>h i j (by omega) h2 (by omega)
theorem Srt.small {a b:Nat} (d:Array α) (h:b≤a+1):Srt key a b d:=fun i j h1 h2 h3=>by omega
theorem Srt.join {a m b:Nat} {d:Array α} (h1:Srt key a m d) (h2:Srt key m b d) (hx:∀ i j,a≤i→i<m→m≤j→j<b→key d[i]! ≤ key d[j]!):Srt key a b d:=by
 intro i j hi hij hj
 by_cases hjm:j<m
 ·exact h1 i j hi hij hjm
 ·by_cases him:i<m
  ·exact hx i j hi him (by omega) hj
  ·exact h2 i j (by omega) hij hj
theorem ins_first {a i b:Nat} {d d':Array α} (h2:Srt key (a+1) b d) (hi:a+1≤i) (hib:i≤b) (hl:i=a+1∨key d[i-1]! ≤ key d[a]!) (hr:i=b∨key d[a]! ≤ key d[i]!) (hd:Arr d' (rotF a (a+1) i fun x=>d[x]!)):Srt key a b d':=by
 intro p q h1 h3 h4
 rw [hd p,hd q]
 have hlow:∀ x,a+1≤x→x<i→key d[x]! ≤ key d[a]! := fun x hx hxi=>by
  rcases hl with e | e
  ·omega
  ·exact Int.le_trans (h2.le hx (by omega) (by omega)) e
 have hhigh:∀ x,i≤x→x<b→key d[a]! ≤ key d[x]! := fun x hx hxb=>by
  rcases hr with e | e
  ·omega
  ·exact Int.le_trans e (h2.le (by omega) hx hxb)
 unfold rotF
 by_cases c1:q<i-1
 ·rw [if_pos (by omega),if_pos (by omega)]
  exact h2.le (by omega) (by omega) (by omega)
 ·by_cases c2:q=i-1
  ·rw [if_pos (by omega),if_neg (by omega),if_pos (by omega)]
   rw [show q-(i-(a+1))=a by omega]
   exact hlow _ (by omega) (by omega)
  ·rw [if_neg (c:=a≤q∧_) (by omega),if_neg (c:=a+(i-(a+1))≤q∧_) (by omega)]
   by_cases c3:p<i-1
   ·rw [if_pos (by omega)]
    exact Int.le_trans (hlow _ (by omega) (by omega)) (hhigh q (by omega) h4)
   ·by_cases c4:p=i-1
    ·rw [if_neg (by omega),if_pos (by omega),show p-(i-(a+1))=a by omega]
     exact hhigh q (by omega) h4
    ·rw [if_neg (by omega),if_neg (by omega)]
     exact h2.le (by omega) (by omega) h4
theorem ins_last {a i m:Nat} {d d':Array α} (h1:Srt key a m d) (hai:a≤i) (him:i≤m) (hl:i=a∨key d[i-1]! ≤ key d[m]!) (hr:i=m∨key d[m]! ≤ key d[i]!) (hd:Arr d' (rotF i m (m+1) fun x=>d[x]!)):Srt key a (m+1) d':=by
 intro p q h2 h3 h4
 rw [hd p,hd q]
 have hlow:∀ x,a≤x→x<i→key d[x]! ≤ key d[m]! := fun x hx hxi=>by
  rcases hl with e | e
  ·omega
  ·exact Int.le_trans (h1.le hx (by omega) (by omega)) e
 have hhigh:∀ x,i≤x→x<m→key d[m]! ≤ key d[x]! := fun x hx hxb=>by
  rcases hr with e | e
  ·omega
  ·exact Int.le_trans e (h1.le (by omega) hx hxb)
 unfold rotF
 by_cases c1:q<i
 ·rw [if_neg (by omega),if_neg (by omega),if_neg (by omega),if_neg (by omega)]
  exact h1.le h2 (by omega) (by omega)
 ·by_cases c2:q=i
  ·rw [if_neg (by omega),if_neg (by omega),if_pos (by omega)]
   rw [show q+(m-i)=m by omega]
   exact hlow _ h2 (by omega)
  ·rw [if_neg (c:=i≤q∧_) (by omega),if_pos (c:=i+(m+1-m)≤q∧_) (by omega)]
   by_cases c3:p<i
   ·rw [if_neg (by omega),if_neg (by omega)]
    exact h1.le h2 (by omega) (by omega)
   ·by_cases c4:p=i
    ·rw [if_pos (by omega),show p+(m-i)=m by omega]
     exact hhigh _ (by omega) (by omega)
    ·rw [if_neg (by omega),if_pos (by omega)]
     exact h1.le (by omega) (by omega) (by omega)
structure Cut (key:α→Int) (a m b mid s e:Nat) (d:Array α):Prop where
 ge:a≤s
 sm:s≤m
 me:m≤e
 eb:e≤b
 sum:s+e=mid+m
 low:∀ i j,a≤i→i<s→e≤j→j<b→key d[i]! ≤ key d[j]!
 high:∀ i j,s≤i→i<m→m≤j→j<e→key d[j]! ≤ key d[i]!
theorem cut_of {a m b s0 r0 s:Nat} {d:Array α} (h1:Srt key a m d) (h2:Srt key m b d) (ham:a<m) (hmb:m<b)
  (hs0:((a+b)/2<m∧s0=(a+b)/2+m-b∧r0=(a+b)/2)∨(m≤(a+b)/2∧s0=a∧r0=m)) (hs:s0≤s) (hr:s≤r0)
  (hl:s=s0∨key d[s-1]! ≤ key d[(a+b)/2+m-1-(s-1)]!) (hg:s=r0∨key d[(a+b)/2+m-1-s]! ≤ key d[s]!):
  Cut key a m b ((a+b)/2) s ((a+b)/2+m-s) d:=by
 refine ⟨by omega,by omega,by omega,by omega,by omega,fun i j hi his hj hjb=>?_,fun i j hi him hj hje=>?_⟩
 ·rcases hl with e | e
  ·omega
  ·rw [show (a+b)/2+m-1-(s-1)=(a+b)/2+m-s by omega] at e
   exact Int.le_trans (h1.le hi (show i≤s-1 by omega) (by omega)) (Int.le_trans e (h2.le (by omega) hj hjb))
 ·rcases hg with e | e
  ·omega
  ·exact Int.le_trans (h2.le hj (show j≤(a+b)/2+m-1-s by omega) (by omega)) (Int.le_trans e (h1.le (by omega) hi him))
section
variable {a m b mid s e:Nat} {d d1:Array α} (h1:Srt key a m d) (h2:Srt key m b d) (C:Cut key a m b mid s e d) (hd:Arr d1 (rotF s m e fun x=>d[x]!))
include h1 h2 C hd
theorem cut_runs:Srt key a s d1∧Srt key s mid d1∧Srt key mid e d1∧Srt key e b d1:=by
 obtain ⟨ge,sm,me,eb,sum,low,high⟩:=C
 refine ⟨h1.sub (Nat.le_refl _) sm |>.congr fun x hx hxs=>?_,fun i j hi hij hj=>?_,fun i j hi hij hj=>?_,(h2.sub me (Nat.le_refl _)).congr fun x hx hxs=>?_⟩
 ·rw [hd x];unfold rotF;rw [if_neg (by omega),if_neg (by omega)]
 ·rw [hd i,hd j];unfold rotF;rw [if_pos (by omega),if_pos (by omega)]
  exact h2.le (by omega) (by omega) (by omega)
 ·rw [hd i,hd j];unfold rotF;rw [if_neg (by omega),if_pos (by omega),if_neg (by omega),if_pos (by omega)]
  exact h1.le (by omega) (by omega) (by omega)
 ·rw [hd x];unfold rotF;rw [if_neg (by omega),if_neg (by omega)]
theorem cut_cross:∀ i j,a≤i→i<mid→mid≤j→j<b→key d1[i]! ≤ key d1[j]! := by
 obtain ⟨ge,sm,me,eb,sum,low,high⟩:=C
 intro i j hi him hj hjb
 rw [hd i,hd j]
 unfold rotF
 by_cases c1:i<s
 ·rw [if_neg (c:=s≤i∧_) (by omega),if_neg (c:=s+(e-m)≤i∧_) (by omega)]
  by_cases c2:j<e
  ·rw [if_neg (by omega),if_pos (by omega)]
   exact h1.le hi (by omega) (by omega)
  ·rw [if_neg (by omega),if_neg (by omega)]
   exact low i j hi c1 (by omega) hjb
 ·rw [if_pos (c:=s≤i∧_) (by omega)]
  by_cases c2:j<e
  ·rw [if_neg (by omega),if_pos (by omega)]
   exact high _ _ (by omega) (by omega) (by omega) (by omega)
  ·rw [if_neg (by omega),if_neg (by omega)]
   exact h2.le (by omega) (by omega) hjb
theorem cut_done {d2 d3:Array α} (hs:d1.size=d.size) (hb:b≤d.size) (ham:a≤mid) (hmb:mid≤b) (p2:PermIn a mid d1 d2) (s2:Srt key a mid d2) (p3:PermIn mid b d2 d3) (s3:Srt key mid b d3):Srt key a b d3:=by
 have hx:=cut_cross h1 h2 C hd
 refine Srt.join (m:=mid) (s2.congr fun x hx1 hx2=>p3.2.1 x (.inl hx2)) s3 fun i j hi him hj hjb=>?_
 rw [p3.2.1 i (.inl him)]
 have hsz2:d2.size=d1.size:=p2.1
 refine permIn_all d2 d3 mid b (fun y=>key d2[i]! ≤ key y) (by omega) p3 (fun j hj hjb=>?_) j hj hjb
 rw [p2.2.1 j (.inr hj)]
 exact permIn_all d1 d2 a mid (fun y=>key y≤key d1[j]!) (by omega) p2 (fun i hi him=>hx i j hi him hj hjb) i hi him
end
def Done (key:α→Int) (M a n:Nat) (d:Array α):Prop:=∀ i j k,i<j→j<a→j<n→k*M≤i→j<(k+1)*M→key d[i]! ≤ key d[j]!
def Rest (key:α→Int) (M a n:Nat) (d:Array α):Prop:=∀ i j k,a≤i→i<j→j<n→k*M≤i→j<(k+1)*M→key d[i]! ≤ key d[j]!
theorem mul_next {k t M:Nat} (h:k*M<t*M):(k+1)*M≤t*M:=by
 apply Nat.mul_le_mul_right
 apply Nat.succ_le_of_lt
 exact Nat.lt_of_mul_lt_mul_right h
theorem Done.step {M t a b n:Nat} {d d':Array α} (h:Done key M a n d) (ha:a=t*M) (hab:b≤a+M) (hn:b≤n) (he:∀ x,x<a→d'[x]! = d[x]!) (hs:Srt key a b d'):Done key M b n d':=by
 intro i j k hij hj hjn hk hk2
 by_cases c1:j<a
 ·rw [he i (by omega),he j c1]
  exact h i j k hij c1 hjn hk hk2
 ·by_cases c2:a≤i
  ·exact hs i j c2 hij hj
  ·have:=mul_next (show k*M<t*M by omega)
   omega
theorem Done.zero (M n:Nat) (d:Array α):Done key M 0 n d:=fun i j k h1 h2=>by omega
theorem Done.rest {M n:Nat} {d:Array α} (h:Done key M n n d):Rest key M 0 n d:=fun i j k _ h1 h2 h3 h4=>h i j k h1 h2 h2 h3 h4
theorem Rest.sorted {M n:Nat} {d:Array α} (h:Rest key M 0 n d) (hM:n≤M):Srt key 0 n d:=fun i j h1 h2 h3=>h i j 0 h1 h2 h3 (by omega) (by omega)
theorem Rest.run {M a b n:Nat} {d:Array α} (h:Rest key M a n d) (k:Nat) (ha:a≤k*M) (hb:b≤(k+1)*M) (hn:b≤n):Srt key (k*M) b d:=fun i j h1 h2 h3=>h i j k (by omega) h2 (by omega) h1 (by omega)
theorem Rest.sub {M a b n:Nat} {d d':Array α} (h:Rest key M a n d) (hab:a≤b) (he:∀ x,b≤x→d'[x]! = d[x]!):Rest key M b n d':=fun i j k h1 h2 h3 h4 h5=>by
 rw [he i h1,he j (by omega)]
 exact h i j k (by omega) h2 h3 h4 h5
theorem two_mul_run (t M:Nat):(2*t)*M=t*(2*M)∧(2*t+1)*M=t*(2*M)+M∧(2*t+1+1)*M=t*(2*M)+2*M:=by
 have e:(2*t)*M=t*(2*M):=by rw [Nat.mul_comm 2 t,Nat.mul_assoc]
 refine ⟨e,by rw [Nat.add_mul,Nat.one_mul,e],?_⟩
 rw [Nat.add_mul,Nat.one_mul,Nat.add_mul,Nat.one_mul,e]
 omega
theorem perm_in {a b n:Nat} {d0 d d':Array α} (h:PermIn 0 n d0 d) (hb:b≤n) (hn:n≤d0.size) (p:PermIn a b d d'):PermIn 0 n d0 d':=
 permIn_trans _ _ _ _ _ h (permIn_mono _ _ _ _ _ _ (Nat.zero_le _) hb (by rw [h.1];exact hn) p)
end Pl
end Go.Proofs.YtmjpnbadfmgimaaGreatDoor.S6
namespace Go.Proofs.YtmjpnbadfmgimaaGreatDoor.S6
open Go.Shelf Go.RowKit Go.Lib Go.Sort _root_.Go.Proofs.YtmjpnbadfmgimaaGreatDoor.Pl _root_.Go.Proofs.YtmjpnbadfmgimaaGreatDoor.S6.Pl
def cfC (x y:Coin):Int:=if x.1<y.1 then -1 else if y.1<x.1 then 1 else 0
theorem cfC_lt (x y:Coin):cfC x y<0↔x.1<y.1:=by
 unfold cfC
 by_cases h1:x.1<y.1
 ·rw [if_pos h1];omega
 ·rw [if_neg h1]
  by_cases h2:y.1<x.1
  ·rw [if_pos h2];omega
  ·rw [if_neg h2];omega
theorem mixedP:Tryz.prog.follows .mixedOrders=true:=by kernel_rfl
theorem isNaN_any (x:Int) (w:World):Calls Tryz.prog 145 #[.int .i64 x] w fun e w'=>e=.returned (.bool false)∧w=w':=by
 go_enter Tryz.func145,Tryz.ntmps145
 have h:=bne_f (rfl:x=x)
 go_wp2
 go_ret
 exact ⟨rfl,rfl⟩
theorem compare_any (x y:Int) (w:World):Calls Tryz.prog 125 #[.int .i64 x,.int .i64 y] w fun e w'=>e=.returned (.int .i64 (if x<y then -1 else if y<x then 1 else 0))∧w=w':=by
 have h1:=fun W=>isNaN_any x W
 have h2:=fun W=>isNaN_any y W
 by_cases c1:x<y
 ·rw [if_pos c1]
  go_enter Tryz.func125,Tryz.ntmps125
  go_wp2_with fail
  refine (h1 _).mono ?_
  rintro e w' ⟨rfl,rfl⟩
  go_wp2_with fail
  refine (h2 _).mono ?_
  rintro e w' ⟨rfl,rfl⟩
  go_wp2
  go_ret
  exact ⟨rfl,rfl⟩
 ·rw [if_neg c1]
  by_cases c2:y<x
  ·rw [if_pos c2]
   go_enter Tryz.func125,Tryz.ntmps125
   go_wp2_with fail
   refine (h1 _).mono ?_
   rintro e w' ⟨rfl,rfl⟩
   go_wp2_with fail
   refine (h2 _).mono ?_
   rintro e w' ⟨rfl,rfl⟩
   go_wp2
   go_ret
   exact ⟨rfl,rfl⟩
  ·rw [if_neg c2]
   go_enter Tryz.func125,Tryz.ntmps125
   go_wp2_with fail
   refine (h1 _).mono ?_
   rintro e w' ⟨rfl,rfl⟩
   go_wp2_with fail
   refine (h2 _).mono ?_
   rintro e w' ⟨rfl,rfl⟩
   go_wp2
   go_ret
   exact ⟨rfl,rfl⟩
theorem closure_any (x y:Coin) (W:World):Calls Tryz.prog 124 #[.agg #[.int .i64 x.1,.int .i64 x.2],.agg #[.int .i64 y.1,.int .i64 y.2]] W fun e w'=>e=.returned (.int .i64 (cfC x y))∧∃ q os',w'=grow (W.drewN q) os':=by
 have hcon:=fun W'=>compare_any x.1 y.1 W'
 unfold cfC
 generalize (if x.1<y.1 then (-1:Int) else if y.1<x.1 then 1 else 0)=r at hcon ⊢
 go_enter Tryz.func124,Tryz.ntmps124
 go_wp2_with fail
 refine (hcon _).mono ?_
 rintro e w' ⟨rfl,rfl⟩
 go_wp2
 go_ret
 exact ⟨rfl,0,_,by rw [alloc_eq_grow,alloc_eq_grow,grow_grow];rfl⟩
abbrev fvC:Value:=.func (.func 124) #[] #[]
theorem lenC:∀ x,(encC x).length=2:=fun _=>rfl
theorem oneC:∀ x,∀ v∈encC x,v.oneCell'=true:=fun x v hv=>by simp [encC] at hv;rcases hv with rfl | rfl <;> rfl
def loadC (v:Value):Sem Value:=Instr.loadAt 154 v
theorem loadC_eq (v:Value):Instr.loadAt 154 v=loadC v:=rfl
def storeC (p v:Value):Sem Unit:=Instr.storeAt 154 p v
theorem storeC_eq (p v:Value):Instr.storeAt 154 p v=storeC p v:=rfl
theorem run_loadC {w:World} {b o:Nat} {c:Coin} (h1:w.cell? ⟨b,o,none⟩=some (.int .i64 c.1)) (h2:w.cell? ⟨b,o+1,none⟩=some (.int .i64 c.2)):
  (loadC (.pointer (some ⟨b,o,none⟩))).run Tryz.prog w=.ok (.agg #[.int .i64 c.1,.int .i64 c.2]) w:=by
 simp only [loadC,Instr.loadAt,Instr.sureAddr,loadVar,loadCells,Sem.run_bind,Sem.run_pure,Result.andThen_ok,Tryz.isAgg154,Tryz.sizeOf154,if_true]
 have:=run_loadCellsFrom_list Tryz.prog w ⟨b,o,none⟩ (encC c) 2 rfl (fun j v hj=>by
  rw [add_none]
  match j,hj with
  | 0,hj=>simp [encC] at hj;subst hj;exact h1
  | 1,hj=>simp [encC] at hj;subst hj;exact h2)
 rw [this]
 rfl
theorem run_storeC {w w':World} {b o:Nat} {c:Coin} (h:Sem.run Tryz.prog (storeCells ⟨b,o,none⟩ (encC c) 0) w=.ok () w'):
  (storeC (.pointer (some ⟨b,o,none⟩)) (.agg #[.int .i64 c.1,.int .i64 c.2])).run Tryz.prog w=.ok () w':=by
 simp only [storeC,Instr.storeAt,Instr.sureAddr,storeVar,Sem.run_bind,Sem.run_pure,Result.andThen_ok,Tryz.sizeOf154]
 rw [if_neg (by simp [Value.cells])]
 exact h
theorem swk_cells {w0 W:World} {blk off:Nat} {d0 dk:Array Coin} (S:SWK encC 2 w0 blk off dk W) (R:RowK encC 2 w0 blk off d0) (hs:dk.size=d0.size) (x:Nat) (hx:x<dk.size):
  W.cell? ⟨blk,off+x*2,none⟩=some (.int .i64 dk[x]!.1)∧W.cell? ⟨blk,off+x*2+1,none⟩=some (.int .i64 dk[x]!.2)∧W.frozen? ⟨blk,off+x*2,none⟩=false∧W.frozen? ⟨blk,off+x*2+1,none⟩=false:=by
 have h:Holds id W blk off (flatK encC 2 dk):=S.holds R.hblk R.hH hs
 have h1:=h (x*2) (by simp;omega)
 have h2:=h (x*2+1) (by simp;omega)
 rw [get_flatK _ _ _ _ (by omega)] at h1 h2
 rw [show x*2/2=x by omega,show x*2%2=0 by omega] at h1
 rw [show (x*2+1)/2=x by omega,show (x*2+1)%2=1 by omega,← Nat.add_assoc] at h2
 exact ⟨h1.1,h2.1,h1.2,h2.2⟩
attribute [local go_sem ↓] loadC_eq storeC_eq
set_option maxRecDepth 1000000 in
theorem swapRange_any (blk off cap a b n:Nat) (d0 d:Array Coin) (w0 w:World) (R:RowK encC 2 w0 blk off d0) (hs:d0.size=d.size) (S:SWK encC 2 w0 blk off d w) (hab:a+n≤b) (hb:b+n≤d.size) (hsz:d.size≤1000000):
  Calls Tryz.prog 155 #[.slice (some ⟨blk,off,none⟩) d.size cap,.int .i64 a,.int .i64 b,.int .i64 n,fvC] w fun e w'=>
   e=.returned (.tuple #[])∧∃ d',PermIn a (b+n) d d'∧Arr d' (swapF a b n fun x=>d[x]!)∧SWK encC 2 w0 blk off d' w':=by
 have S0:Aside (SWK encC 2 w0 blk off d w):=S
 clear S
 have mixed:=mixedP
 have aE:=Tryz.isAgg154
 have zE:=Tryz.sizeOf154
 have HA0:Aside (Arr d (swapF a b 0 fun x=>d[x]!)):=by show Arr d _;rw [swapF_zero];exact arr_self d
 go_enter Tryz.func155,Tryz.ntmps155
 go_wp2
 go_loopg [10] n (fun kx s10 wr=>∃ (i:Nat) (dk:Array Coin),s10=.int .i64 i∧i≤n∧n-i≤kx∧dk.size=d.size∧Aside (SWK encC 2 w0 blk off dk wr)∧Aside (PermIn a (b+n) d dk)∧Aside (Arr dk (swapF a b i fun x=>d[x]!)))
 case atStart=>exact ⟨0,d,rfl,by omega,by omega,rfl,S0,permIn_refl _ _ _,HA0⟩
 case round=>
  clear S0 HA0
  obtain ⟨i,dk,rfl,hin,hkx,hds,S1,HP,HA⟩:=hrel
  by_cases hlt:i<n
  ·have hltz:(i:Int)<(n:Int):=by omega
   go_wp2_with fail
   have ea44:((a:Int)+(i:Int)).toNat=a+i:=by omega
   have pa44:(0:Int)≤(a:Int)+(i:Int):=by omega
   have ba44:(a:Int)+(i:Int)<(d.size:Int):=by omega
   have ra44:IntKind.i64.wrap ((a:Int)+(i:Int))=(a:Int)+(i:Int):=by rw [IntKind.wrap_i64];omega
   have ec44:((b:Int)+(i:Int)).toNat=b+i:=by omega
   have pc44:(0:Int)≤(b:Int)+(i:Int):=by omega
   have bc44:(b:Int)+(i:Int)<(d.size:Int):=by omega
   have rc44:IntKind.i64.wrap ((b:Int)+(i:Int))=(b:Int)+(i:Int):=by rw [IntKind.wrap_i64];omega
   have hca:=swk_cells S1.out.drew R (by omega) (a+i) (by omega)
   have hcb:=swk_cells S1.out.drew R (by omega) (b+i) (by omega)
   have l44a:=run_loadC hca.1 hca.2.1
   have l44b:=run_loadC hcb.1 hcb.2.1
   have s44a:=run_storeC (S1.out.st1 R (by omega) Tryz.prog (a+i) (by omega) dk[b+i]!)
   have s44b:=run_storeC (S1.out.st2 R (by omega) Tryz.prog (a+i) (b+i) (by omega) (by omega) dk[b+i]! dk[a+i]!)
   have S2:Aside (SWK encC 2 w0 blk off (swp dk (a+i) (b+i)) ((wr.drew.setCells blk (off+(a+i)*2) (encC dk[b+i]!)).setCells blk (off+(b+i)*2) (encC dk[a+i]!))):=S1.out.swapped R (a+i) (b+i) (by omega) (by omega)
   generalize wr.drew.setCells blk (off+(a+i)*2) (encC dk[b+i]!)=w1 at*
   generalize w1.setCells blk (off+(b+i)*2) (encC dk[a+i]!)=w2 at*
   generalize dk[a+i]! = xa at*
   generalize dk[b+i]! = xb at*
   clear S1 hca hcb
   go_wp2_with fail
   go_big_region_o
   clear l44a l44b s44a s44b
   go_wp2
   go_roundg (n-(i+1))
   case measure=>omega
   case rel=>
    exact ⟨i+1,swp dk (a+i) (b+i),by first | rfl | go_num | simp,by omega,Nat.le_refl _,by rw [size_swp];exact hds,S2,permIn_trans _ _ _ _ _ HP.out (swp_permIn _ _ _ _ _ (by omega) (by omega) (by omega) (by omega) (by omega)),swapF_step (by omega) HA.out (by omega)⟩
  ·obtain rfl:i=n:=by omega
   go_wp2
   go_end0
   exact ⟨rfl,dk,HP.out,HA.out,S1.out⟩
set_option maxRecDepth 1000000 in
theorem rotate_any (blk off cap a m b:Nat) (d0 d:Array Coin) (w0 w:World) (R:RowK encC 2 w0 blk off d0) (hs:d0.size=d.size) (S:SWK encC 2 w0 blk off d w) (ham:a<m) (hmb:m<b) (hb:b≤d.size) (hsz:d.size≤1000000):
  Calls Tryz.prog 154 #[.slice (some ⟨blk,off,none⟩) d.size cap,.int .i64 a,.int .i64 m,.int .i64 b,fvC] w fun e w'=>
   e=.returned (.tuple #[])∧∃ d',PermIn a b d d'∧Arr d' (rotF a m b fun x=>d[x]!)∧SWK encC 2 w0 blk off d' w':=by
 have S0:Aside (SWK encC 2 w0 blk off d w):=S
 clear S
 have z1:(m:Int)-(a:Int)=((m-a:Nat):Int):=by omega
 have z2:(b:Int)-(m:Int)=((b-m:Nat):Int):=by omega
 go_enter Tryz.func154,Tryz.ntmps154
 go_wp2
 clear z1 z2
 go_loopg [10,11] (m-a+(b-m)) (fun kx s10 s11 wr=>∃ (i j:Nat) (dk:Array Coin),s10=.int .i64 i∧s11=.int .i64 j∧1≤i∧i≤m-a∧1≤j∧j≤b-m∧i+j≤kx∧dk.size=d.size∧Aside (SWK encC 2 w0 blk off dk wr)∧Aside (PermIn a b d dk)∧Aside (rotF (m-i) m (m+j) (fun x=>dk[x]!)=rotF a m b fun x=>d[x]!))
 case atStart=>exact ⟨m-a,b-m,d,by first | rfl | (congr 1;omega),by first | rfl | (congr 1;omega),by omega,by omega,by omega,by omega,by omega,rfl,S0,permIn_refl _ _ _,by show _=_;rw [show m-(m-a)=a by omega,show m+(b-m)=b by omega]⟩
 case round=>
  clear S0
  obtain ⟨i,j,dk,rfl,rfl,hi1,hi2,hj1,hj2,hkx,hds,S1,HP,HR⟩:=hrel
  by_cases hij:i=j
  ·subst hij
   have hne:((i:Int) != (i:Int))=false:=bne_f rfl
   have e1:(m:Int)-(i:Int)=((m-i:Nat):Int):=by omega
   have hc:=swapRange_any blk off cap (m-i) m i d0 dk w0 wr R (by omega) S1.out (by omega) (by omega) (by omega)
   rw [hds] at hc
   go_wp2_with fail
   refine hc.mono ?_
   rintro e w' ⟨rfl,d',hp,ha,hS⟩
   go_wp2
   go_end0
   refine ⟨rfl,d',permIn_trans _ _ _ _ _ HP.out (permIn_mono _ _ _ _ _ _ (by omega) (by omega) (by omega) hp),?_,hS⟩
   rw [rot_end (by omega),HR.out] at ha
   exact ha
  ·have hne:((i:Int) != (j:Int))=true:=bne_t (by omega)
   by_cases hlt:j<i
   ·have hltz:(j:Int)<(i:Int):=by omega
    have e1:(m:Int)-(i:Int)=((m-i:Nat):Int):=by omega
    have e2:(i:Int)-(j:Int)=((i-j:Nat):Int):=by omega
    have hc:=swapRange_any blk off cap (m-i) m j d0 dk w0 wr R (by omega) S1.out (by omega) (by omega) (by omega)
    rw [hds] at hc
    go_wp2_with fail
    refine hc.mono ?_
    rintro e w' ⟨rfl,d',hp,ha,hS⟩
    have HP2:Aside (PermIn a b d d'):=permIn_trans _ _ _ _ _ HP.out (permIn_mono _ _ _ _ _ _ (by omega) (by omega) (by omega) hp)
    have HS2:Aside _:=hS
    have hd2:d'.size=d.size:=by rw [hp.1,hds]
    have HR2:Aside (rotF (m-(i-j)) m (m+j) (fun x=>d'[x]!)=rotF a m b fun x=>d[x]!):=by
     show _=_
     rw [show (fun x=>d'[x]!)=swapF (m-i) m j (fun x=>dk[x]!) from funext ha,rot_step1 (by omega) hlt]
     exact HR.out
    clear hp ha hS hc
    go_wp2
    go_roundg (i-j+j)
    case measure=>omega
    case rel=>exact ⟨i-j,j,d',by first | rfl | go_num | (congr 1;omega),rfl,by omega,by omega,hj1,hj2,by omega,hd2,HS2,HP2,HR2⟩
   ·have hltz:¬ (j:Int)<(i:Int):=by omega
    have e1:(m:Int)-(i:Int)=((m-i:Nat):Int):=by omega
    have e2:(m:Int)+(j:Int)-(i:Int)=((m+j-i:Nat):Int):=by omega
    have e3:(j:Int)-(i:Int)=((j-i:Nat):Int):=by omega
    have hc:=swapRange_any blk off cap (m-i) (m+j-i) i d0 dk w0 wr R (by omega) S1.out (by omega) (by omega) (by omega)
    rw [hds] at hc
    go_wp2_with fail
    refine hc.mono ?_
    rintro e w' ⟨rfl,d',hp,ha,hS⟩
    have HP2:Aside (PermIn a b d d'):=permIn_trans _ _ _ _ _ HP.out (permIn_mono _ _ _ _ _ _ (by omega) (by omega) (by omega) hp)
    have HS2:Aside _:=hS
    have hd2:d'.size=d.size:=by rw [hp.1,hds]
    have HR2:Aside (rotF (m-i) m (m+(j-i)) (fun x=>d'[x]!)=rotF a m b fun x=>d[x]!):=by
     show _=_
     rw [show (fun x=>d'[x]!)=swapF (m-i) (m+j-i) i (fun x=>dk[x]!) from funext ha,rot_step2 (by omega) (by omega)]
     exact HR.out
    clear hp ha hS hc
    go_wp2
    go_roundg (i+(j-i))
    case measure=>omega
    case rel=>exact ⟨i,j-i,d',rfl,by first | rfl | go_num | (congr 1;omega),hi1,hi2,by omega,by omega,by omega,hd2,HS2,HP2,HR2⟩
end Go.Proofs.YtmjpnbadfmgimaaGreatDoor.S6
namespace Go.Proofs.YtmjpnbadfmgimaaGreatDoor.S6
open Go.Shelf Go.RowKit Go.Lib Go.Sort _root_.Go.Proofs.YtmjpnbadfmgimaaGreatDoor.Pl _root_.Go.Proofs.YtmjpnbadfmgimaaGreatDoor.S6.Pl
def keyC (c:Coin):Int:=c.1*1048576+c.2
def Crs (a m b:Nat) (d:Array Coin):Prop:=∀ i j,a≤i→i<m→m≤j→j<b→d[i]!.2<d[j]!.2∧0≤d[i]!.2∧d[j]!.2<1048576
theorem Crs.congr {a m b:Nat} {d d':Array Coin} (h:Crs a m b d) (he:∀ x,a≤x→d'[x]! = d[x]!):Crs a m b d':=fun i j h1 h2 h3 h4=>by
 rw [he i h1,he j (by omega)]
 exact h i j h1 h2 h3 h4
theorem cfC_key {x y:Coin} (h:y.2<x.2∧0≤y.2∧x.2<1048576):cfC x y<0↔keyC x<keyC y:=by
 rw [cfC_lt];unfold keyC;omega
theorem cut_crs {a m b mid s e:Nat} {d d1:Array Coin} (C:Cut keyC a m b mid s e d) (X:Crs a m b d) (hd:Arr d1 (rotF s m e fun x=>d[x]!)):Crs a s mid d1∧Crs mid e b d1:=by
 obtain ⟨ge,sm,me,eb,sum,low,high⟩:=C
 refine ⟨fun i j h1 h2 h3 h4=>?_,fun i j h1 h2 h3 h4=>?_⟩
 ·rw [hd i,hd j]
  unfold rotF
  rw [if_neg (c:=s≤i∧_) (by omega),if_neg (c:=s+(e-m)≤i∧_) (by omega),if_pos (by omega)]
  exact X i _ h1 (by omega) (by omega) (by omega)
 ·rw [hd i,hd j]
  unfold rotF
  rw [if_neg (c:=s≤i∧i<s+(e-m)) (by omega),if_pos (c:=s+(e-m)≤i∧_) (by omega),if_neg (c:=s≤j∧_) (by omega),if_neg (c:=s+(e-m)≤j∧_) (by omega)]
  exact X _ j (by omega) (by omega) (by omega) h4
attribute [local go_sem ↓] loadC_eq storeC_eq
theorem swk_ld {w0 W:World} {blk off:Nat} {d0 dk:Array Coin} (S:SWK encC 2 w0 blk off dk W) (R:RowK encC 2 w0 blk off d0) (hs:dk.size=d0.size) (x:Nat) (hx:x<dk.size) (n:Nat) (os:Array Obj):
  (loadC (.pointer (some ⟨blk,off+x*2,none⟩))).run Tryz.prog (grow (W.drewN n) os)=.ok (.agg #[.int .i64 dk[x]!.1,.int .i64 dk[x]!.2]) (grow (W.drewN n) os):=
 have h:=swk_cells (S.grown n os) R hs x hx
 run_loadC h.1 h.2.1
theorem swk_cmp (W:World) (x y:Coin) (n:Nat) (os:Array Obj):
  Calls Tryz.prog 124 #[.agg #[.int .i64 x.1,.int .i64 x.2],.agg #[.int .i64 y.1,.int .i64 y.2]] (grow (W.drewN n) os) fun e w'=>e=.returned (.int .i64 (cfC x y))∧∃ q os',w'=grow ((grow (W.drewN n) os).drewN q) os':=
 closure_any x y _
def SymPost (a b blk off:Nat) (w0:World) (d:Array Coin) (e:Ending) (w':World):Prop:=e=.returned (.tuple #[])∧∃ d',PermIn a b d d'∧Srt keyC a b d'∧SWK encC 2 w0 blk off d' w'
set_option maxRecDepth 1000000 in
theorem sym_first (blk off cap a m b:Nat) (d0 d:Array Coin) (w0 w:World) (R:RowK encC 2 w0 blk off d0) (hs:d0.size=d.size) (S:SWK encC 2 w0 blk off d w) (hm:m≤a+1) (hm':a+1≤m) (hmb:m<b) (hb:b≤d.size) (hsz:d.size≤1000000) (h2:Srt keyC m b d) (hX:Crs a m b d):
  Calls Tryz.prog 153 #[.slice (some ⟨blk,off,none⟩) d.size cap,.int .i64 a,.int .i64 m,.int .i64 b,fvC] w (SymPost a b blk off w0 d):=by
 have S0:Aside (SWK encC 2 w0 blk off d w):=S
 have H2:Aside (Srt keyC (a+1) b d):=h2.sub hm (Nat.le_refl _)
 have HX:Aside (Crs a m b d):=hX
 clear S h2 hX
 have mixed:=mixedP
 have z1:(m:Int)-(a:Int)=1:=by omega
 go_enter Tryz.func153,Tryz.ntmps153
 go_wp2
 go_loopg [10,11] (b-m) (fun kx s10 s11 wr=>∃ (i j:Nat),s10=.int .i64 i∧s11=.int .i64 j∧m≤i∧i≤j∧j≤b∧j-i≤kx∧Aside (SWK encC 2 w0 blk off d wr)∧Aside (i=a+1∨keyC d[i-1]! ≤ keyC d[a]!)∧Aside (j=b∨keyC d[a]! ≤ keyC d[j]!))
 case atStart=>exact ⟨m,b,rfl,rfl,by omega,by omega,by omega,by omega,S0,(show _∨_ from .inl (by omega)),(show _∨_ from .inl rfl)⟩
 case round=>
  clear S0
  obtain ⟨i,j,rfl,rfl,hi1,hij,hjb,hkx,S1,HL,HG⟩:=hrel
  by_cases hlt:i<j
  ·have hltz:(i:Int)<(j:Int):=by omega
   have e8:((i:Int)+(j:Int))/2=(((i+j)/2:Nat):Int):=by omega
   obtain ⟨h,hh⟩:∃ h,(i+j)/2=h:=⟨_,rfl⟩
   have hh1:i≤h:=by omega
   have hh2:h<j:=by omega
   rw [hh] at e8
   have ea9:((h:Int)).toNat=h:=by omega
   have pa9:(0:Int)≤(h:Int):=by omega
   have qa9:(h:Int)<(d.size:Int):=by omega
   have ra9:IntKind.i64.wrap ((h:Int))=(h:Int):=by rw [IntKind.wrap_i64];omega
   have eb9:((a:Int)).toNat=a:=by omega
   have pb9:(0:Int)≤(a:Int):=by omega
   have qb9:(a:Int)<(d.size:Int):=by omega
   have rb9:IntKind.i64.wrap ((a:Int))=(a:Int):=by rw [IntKind.wrap_i64];omega
   have l9a:=swk_ld S1.out R (by omega) (h) (by omega)
   have l9b:=swk_ld S1.out R (by omega) (a) (by omega)
   have hc9:=swk_cmp wr d[h]! d[a]!
   have hk9:=cfC_key (HX.out a h (by omega) (by omega) (by omega) (by omega))
   obtain ⟨xa,hxa⟩:∃ x,x=d[h]! := ⟨_,rfl⟩
   obtain ⟨xb,hxb⟩:∃ x,x=d[a]! := ⟨_,rfl⟩
   rw [← hxa] at l9a
   rw [← hxb] at l9b
   rw [← hxa,← hxb] at hc9 hk9
   have HXA:Aside (xa=d[h]!):=hxa
   have HXB:Aside (xb=d[a]!):=hxb
   clear hxa hxb
   by_cases hv9:cfC xa xb<0
   ·have hw9:keyC xa<keyC xb:=hk9.1 hv9
    have hd9:decide (cfC xa xb<0)=true:=decide_eq_true hv9
    have HW9:Aside _:=hw9
    clear hw9 hk9
    go_wp2_with fail
    go_quiet_grown (first | (refine Calls.grown_of (hc9 _ _)))
    have S2:Aside (SWK encC 2 w0 blk off d (grow (wr.drewN nq) osq)):=S1.out.grown nq osq
    clear l9a l9b hc9 S1
    generalize grow (wr.drewN nq) osq=w2 at S2 ⊢
    clear nq osq
    have hw9:=HW9.out
    rw [HXA.out,HXB.out] at hw9
    have HW9:Aside _:=hw9
    clear hw9
    go_wp2
    go_roundg (j-(h+1))
    case measure=>omega
    case rel=>exact ⟨h+1,j,by first | rfl | go_num | (congr 1;omega),rfl,by omega,by omega,hjb,Nat.le_refl _,S2,(show _∨_ from .inr (by rw [Nat.add_sub_cancel];exact Int.le_of_lt HW9.out)),HG⟩
   ·have hw9:¬ keyC xa<keyC xb:=fun h=>hv9 (hk9.2 h)
    have hd9:decide (cfC xa xb<0)=false:=decide_eq_false hv9
    have HW9:Aside _:=hw9
    clear hw9 hk9
    go_wp2_with fail
    go_quiet_grown (first | (refine Calls.grown_of (hc9 _ _)))
    have S2:Aside (SWK encC 2 w0 blk off d (grow (wr.drewN nq) osq)):=S1.out.grown nq osq
    clear l9a l9b hc9 S1
    generalize grow (wr.drewN nq) osq=w2 at S2 ⊢
    clear nq osq
    have hw9:=HW9.out
    rw [HXA.out,HXB.out] at hw9
    have HW9:Aside _:=hw9
    clear hw9
    go_wp2
    go_roundg (h-i)
    case measure=>omega
    case rel=>exact ⟨i,h,rfl,by first | rfl | go_num | (congr 1;omega),by omega,by omega,by omega,Nat.le_refl _,S2,HL,(show _∨_ from .inr (Int.not_lt.1 HW9.out))⟩
  ·obtain rfl:i=j:=by omega
   have hdone:Aside _:=fun d'=>@ins_first Coin _ keyC a i b d d' H2.out (by omega) hjb HL.out HG.out
   have HA0:Aside (Arr d (rotF a (a+1) (a+1) fun x=>d[x]!)):=by show Arr d _;rw [rotF_none2];exact arr_self d
   have zi:(i:Int)-1=((i-1:Nat):Int):=by omega
   go_wp2
   clear HL HG H2
   go_loopg [13] (i-1-a) (fun kx s13 wr=>∃ (k:Nat) (dk:Array Coin),s13=.int .i64 k∧a≤k∧k≤i-1∧i-1-k≤kx∧dk.size=d.size∧Aside (SWK encC 2 w0 blk off dk wr)∧Aside (PermIn a b d dk)∧Aside (Arr dk (rotF a (a+1) (k+1) fun x=>d[x]!)))
   case atStart=>exact ⟨a,d,rfl,by omega,by omega,by omega,rfl,S1,permIn_refl _ _ _,HA0⟩
   case round=>
    clear S1 HA0
    rename_i wr0
    obtain ⟨k,dk,rfl,hk1,hk2,hkx2,hds,S1,HP,HA⟩:=hrel
    by_cases hk:k<i-1
    ·have hkz:(k:Int)<((i-1:Nat):Int):=by omega
     have hkz2:(k:Int)<(i:Int)-1:=by omega
     go_wp2_with fail
     have ea4:((k:Int)).toNat=k:=by omega
     have pa4:(0:Int)≤(k:Int):=by omega
     have qa4:(k:Int)<(d.size:Int):=by omega
     have ra4:IntKind.i64.wrap ((k:Int))=(k:Int):=by rw [IntKind.wrap_i64];omega
     have eb4:((k:Int)+1).toNat=k+1:=by omega
     have pb4:(0:Int)≤(k:Int)+1:=by omega
     have qb4:(k:Int)+1<(d.size:Int):=by omega
     have rb4:IntKind.i64.wrap ((k:Int)+1)=(k:Int)+1:=by rw [IntKind.wrap_i64];omega
     have hca:=swk_cells S1.out.drew R (by omega) (k) (by omega)
     have hcb:=swk_cells S1.out.drew R (by omega) (k+1) (by omega)
     have l44a:=run_loadC hca.1 hca.2.1
     have l44b:=run_loadC hcb.1 hcb.2.1
     have s44a:=run_storeC (S1.out.st1 R (by omega) Tryz.prog (k) (by omega) dk[k+1]!)
     have s44b:=run_storeC (S1.out.st2 R (by omega) Tryz.prog (k) (k+1) (by omega) (by omega) dk[k+1]! dk[k]!)
     have S2:Aside (SWK encC 2 w0 blk off (swp dk (k) (k+1)) ((wr.drew.setCells blk (off+(k)*2) (encC dk[k+1]!)).setCells blk (off+(k+1)*2) (encC dk[k]!))):=S1.out.swapped R (k) (k+1) (by omega) (by omega)
     generalize wr.drew.setCells blk (off+(k)*2) (encC dk[k+1]!)=w1 at*
     generalize w1.setCells blk (off+(k+1)*2) (encC dk[k]!)=w2 at*
     generalize dk[k]! = xa at*
     generalize dk[k+1]! = xb at*
     clear S1 hca hcb
     go_wp2_with fail
     go_big_region_o
     clear l44a l44b s44a s44b
     go_wp2
     go_roundg (i-1-(k+1))
     case measure=>omega
     case rel=>
      exact ⟨k+1,swp dk k (k+1),by first | rfl | go_num | simp,by omega,by omega,Nat.le_refl _,by rw [size_swp];exact hds,S2,permIn_trans _ _ _ _ _ HP.out (swp_permIn _ _ _ _ _ (by omega) (by omega) (by omega) (by omega) (by omega)),rot_right (by omega) HA.out (by omega)⟩
    ·have hkz:¬ (k:Int)<((i-1:Nat):Int):=by omega
     have hkz2:¬ (k:Int)<(i:Int)-1:=by omega
     go_wp2
     go_end0
     have hA:=HA.out
     rw [show k+1=i by omega] at hA
     exact ⟨rfl,dk,HP.out,hdone.out dk hA,S1.out⟩
set_option maxRecDepth 1000000 in
theorem sym_last (blk off cap a m b:Nat) (d0 d:Array Coin) (w0 w:World) (R:RowK encC 2 w0 blk off d0) (hs:d0.size=d.size) (S:SWK encC 2 w0 blk off d w) (ham:a+1<m) (hmb:b≤m+1) (hmb':m+1≤b) (hb:b≤d.size) (hsz:d.size≤1000000) (h1:Srt keyC a m d) (hX:Crs a m b d):
  Calls Tryz.prog 153 #[.slice (some ⟨blk,off,none⟩) d.size cap,.int .i64 a,.int .i64 m,.int .i64 b,fvC] w (SymPost a b blk off w0 d):=by
 have S0:Aside (SWK encC 2 w0 blk off d w):=S
 have H1:Aside (Srt keyC a m d):=h1
 have HX:Aside (Crs a m b d):=hX
 clear S h1 hX
 have mixed:=mixedP
 have z1:((m:Int)-(a:Int)==1)=false:=beq_f (by omega)
 have z2:(b:Int)-(m:Int)=1:=by omega
 go_enter Tryz.func153,Tryz.ntmps153
 go_wp2
 go_loopg [14,15] (m-a) (fun kx s10 s11 wr=>∃ (i j:Nat),s10=.int .i64 i∧s11=.int .i64 j∧a≤i∧i≤j∧j≤m∧j-i≤kx∧Aside (SWK encC 2 w0 blk off d wr)∧Aside (i=a∨keyC d[i-1]! ≤ keyC d[m]!)∧Aside (j=m∨keyC d[m]! ≤ keyC d[j]!))
 case atStart=>exact ⟨a,m,rfl,rfl,by omega,by omega,by omega,by omega,S0,(show _∨_ from .inl rfl),(show _∨_ from .inl rfl)⟩
 case round=>
  clear S0
  obtain ⟨i,j,rfl,rfl,hi1,hij,hjm,hkx,S1,HL,HG⟩:=hrel
  by_cases hlt:i<j
  ·have hltz:(i:Int)<(j:Int):=by omega
   have e8:((i:Int)+(j:Int))/2=(((i+j)/2:Nat):Int):=by omega
   obtain ⟨h,hh⟩:∃ h,(i+j)/2=h:=⟨_,rfl⟩
   have hh1:i≤h:=by omega
   have hh2:h<j:=by omega
   rw [hh] at e8
   have ea9:((m:Int)).toNat=m:=by omega
   have pa9:(0:Int)≤(m:Int):=by omega
   have qa9:(m:Int)<(d.size:Int):=by omega
   have ra9:IntKind.i64.wrap ((m:Int))=(m:Int):=by rw [IntKind.wrap_i64];omega
   have eb9:((h:Int)).toNat=h:=by omega
   have pb9:(0:Int)≤(h:Int):=by omega
   have qb9:(h:Int)<(d.size:Int):=by omega
   have rb9:IntKind.i64.wrap ((h:Int))=(h:Int):=by rw [IntKind.wrap_i64];omega
   have l9a:=swk_ld S1.out R (by omega) (m) (by omega)
   have l9b:=swk_ld S1.out R (by omega) (h) (by omega)
   have hc9:=swk_cmp wr d[m]! d[h]!
   have hk9:=cfC_key (HX.out h m (by omega) (by omega) (by omega) (by omega))
   obtain ⟨xa,hxa⟩:∃ x,x=d[m]! := ⟨_,rfl⟩
   obtain ⟨xb,hxb⟩:∃ x,x=d[h]! := ⟨_,rfl⟩
   rw [← hxa] at l9a
   rw [← hxb] at l9b
   rw [← hxa,← hxb] at hc9 hk9
   have HXA:Aside (xa=d[m]!):=hxa
   have HXB:Aside (xb=d[h]!):=hxb
   clear hxa hxb
   by_cases hv9:cfC xa xb<0
   ·have hw9:keyC xa<keyC xb:=hk9.1 hv9
    have hd9:decide (cfC xa xb<0)=true:=decide_eq_true hv9
    have HW9:Aside _:=hw9
    clear hw9 hk9
    go_wp2_with fail
    go_quiet_grown (first | (refine Calls.grown_of (hc9 _ _)))
    have S2:Aside (SWK encC 2 w0 blk off d (grow (wr.drewN nq) osq)):=S1.out.grown nq osq
    clear l9a l9b hc9 S1
    generalize grow (wr.drewN nq) osq=w2 at S2 ⊢
    clear nq osq
    have hw9:=HW9.out
    rw [HXA.out,HXB.out] at hw9
    have HW9:Aside _:=hw9
    clear hw9
    go_wp2
    go_roundg (h-i)
    case measure=>omega
    case rel=>exact ⟨i,h,rfl,by first | rfl | go_num | (congr 1;omega),by omega,by omega,by omega,Nat.le_refl _,S2,HL,(show _∨_ from .inr (Int.le_of_lt HW9.out))⟩
   ·have hw9:¬ keyC xa<keyC xb:=fun h=>hv9 (hk9.2 h)
    have hd9:decide (cfC xa xb<0)=false:=decide_eq_false hv9
    have HW9:Aside _:=hw9
    clear hw9 hk9
    go_wp2_with fail
    go_quiet_grown (first | (refine Calls.grown_of (hc9 _ _)))
    have S2:Aside (SWK encC 2 w0 blk off d (grow (wr.drewN nq) osq)):=S1.out.grown nq osq
    clear l9a l9b hc9 S1
    generalize grow (wr.drewN nq) osq=w2 at S2 ⊢
    clear nq osq
    have hw9:=HW9.out
    rw [HXA.out,HXB.out] at hw9
    have HW9:Aside _:=hw9
    clear hw9
    go_wp2
    go_roundg (j-(h+1))
    case measure=>omega
    case rel=>exact ⟨h+1,j,by first | rfl | go_num | (congr 1;omega),rfl,by omega,by omega,hjm,Nat.le_refl _,S2,(show _∨_ from .inr (by rw [Nat.add_sub_cancel];exact Int.not_lt.1 HW9.out)),HG⟩
  ·obtain rfl:i=j:=by omega
   have hdone:Aside _:=fun d'=>@ins_last Coin _ keyC a i m d d' H1.out (by omega) hjm HL.out HG.out
   have HA0:Aside (Arr d (rotF m m (m+1) fun x=>d[x]!)):=by show Arr d _;rw [rotF_none1];exact arr_self d
   go_wp2
   clear HL HG H1
   go_loopg [17] (m-i) (fun kx s13 wr=>∃ (k:Nat) (dk:Array Coin),s13=.int .i64 k∧i≤k∧k≤m∧k-i≤kx∧dk.size=d.size∧Aside (SWK encC 2 w0 blk off dk wr)∧Aside (PermIn a b d dk)∧Aside (Arr dk (rotF k m (m+1) fun x=>d[x]!)))
   case atStart=>exact ⟨m,d,rfl,by omega,by omega,by omega,rfl,S1,permIn_refl _ _ _,HA0⟩
   case round=>
    clear S1 HA0
    rename_i wr0
    obtain ⟨k,dk,rfl,hk1,hk2,hkx2,hds,S1,HP,HA⟩:=hrel
    by_cases hk:i<k
    ·obtain ⟨k,rfl⟩:∃ k',k=k'+1:=⟨k-1,by omega⟩
     have hkz:(i:Int)<((k+1:Nat):Int):=by omega
     have hkz2:(i:Int)<(k:Int)+1:=by omega
     go_wp2_with fail
     have ea4:((k:Int)+1).toNat=k+1:=by omega
     have pa4:(0:Int)≤(k:Int)+1:=by omega
     have qa4:(k:Int)+1<(d.size:Int):=by omega
     have ra4:IntKind.i64.wrap ((k:Int)+1)=(k:Int)+1:=by rw [IntKind.wrap_i64];omega
     have eb4:((k:Int)).toNat=k:=by omega
     have pb4:(0:Int)≤(k:Int):=by omega
     have qb4:(k:Int)<(d.size:Int):=by omega
     have rb4:IntKind.i64.wrap ((k:Int))=(k:Int):=by rw [IntKind.wrap_i64];omega
     have hca:=swk_cells S1.out.drew R (by omega) (k+1) (by omega)
     have hcb:=swk_cells S1.out.drew R (by omega) (k) (by omega)
     have l44a:=run_loadC hca.1 hca.2.1
     have l44b:=run_loadC hcb.1 hcb.2.1
     have s44a:=run_storeC (S1.out.st1 R (by omega) Tryz.prog (k+1) (by omega) dk[k]!)
     have s44b:=run_storeC (S1.out.st2 R (by omega) Tryz.prog (k+1) (k) (by omega) (by omega) dk[k]! dk[k+1]!)
     have S2:Aside (SWK encC 2 w0 blk off (swp dk (k+1) (k)) ((wr.drew.setCells blk (off+(k+1)*2) (encC dk[k]!)).setCells blk (off+(k)*2) (encC dk[k+1]!))):=S1.out.swapped R (k+1) (k) (by omega) (by omega)
     generalize wr.drew.setCells blk (off+(k+1)*2) (encC dk[k]!)=w1 at*
     generalize w1.setCells blk (off+(k)*2) (encC dk[k+1]!)=w2 at*
     generalize dk[k+1]! = xa at*
     generalize dk[k]! = xb at*
     clear S1 hca hcb
     go_wp2_with fail
     go_big_region_o
     clear l44a l44b s44a s44b
     go_wp2
     go_roundg (k-i)
     case measure=>omega
     case rel=>
      exact ⟨k,swp dk (k+1) k,by first | rfl | go_num | simp,by omega,by omega,Nat.le_refl _,by rw [size_swp];exact hds,S2,permIn_trans _ _ _ _ _ HP.out (swp_permIn _ _ _ _ _ (by omega) (by omega) (by omega) (by omega) (by omega)),rot_left (by omega) HA.out (by omega)⟩
    ·have hkz:¬ (i:Int)<(k:Int):=by omega
     go_wp2
     go_end0
     have hA:=HA.out
     rw [show k=i by omega] at hA
     have hD:=hdone.out dk hA
     have hD:=hD.sub (Nat.le_refl a) hmb
     exact ⟨rfl,dk,HP.out,hD,S1.out⟩
end Go.Proofs.YtmjpnbadfmgimaaGreatDoor.S6
namespace Go.Proofs.YtmjpnbadfmgimaaGreatDoor.S6
open Go.Shelf Go.RowKit Go.Lib Go.Sort _root_.Go.Proofs.YtmjpnbadfmgimaaGreatDoor.Pl _root_.Go.Proofs.YtmjpnbadfmgimaaGreatDoor.S6.Pl
attribute [local go_sem ↓] loadC_eq storeC_eq
def cfK (x y:Coin):Int:=keyC x-keyC y
theorem cfK_lt (x y:Coin):cfK x y<0↔keyC x<keyC y:=by unfold cfK;omega
theorem swoK:SWO (ltOf cfK):=by
 have e:∀ x y,ltOf cfK x y=decide (keyC x<keyC y):=fun x y=>by
  unfold ltOf
  by_cases h:keyC x<keyC y
  ·rw [decide_eq_true h,decide_eq_true ((cfK_lt x y).2 h)]
  ·rw [decide_eq_false h,decide_eq_false fun h2=>h ((cfK_lt x y).1 h2)]
 refine ⟨?_,?_,?_⟩
 all_goals (intros;simp only [e,decide_eq_true_eq,decide_eq_false_iff_not] at *;omega)
theorem srt_of {a b:Nat} {d:Array Coin} (h:SortedIn (ltOf cfK) a b d):Srt keyC a b d:=by
 intro i j h1 h2 h3
 have:=h i j h1 h2 h3
 have h4:¬ cfK d[j]! d[i]! < 0:=of_decide_eq_false this
 have:=mt (cfK_lt d[j]! d[i]!).2 h4
 omega
def Asy (a b:Nat) (d:Array Coin):Prop:=∀ i j,a≤i→i<j→j<b→d[i]!.2<d[j]!.2∧0≤d[i]!.2∧d[j]!.2<1048576
def Asf (a b i:Nat) (d:Array Coin):Prop:=∀ x k,a≤x→x<k→i≤k→k<b→d[x]!.2<d[k]!.2∧0≤d[x]!.2∧d[k]!.2<1048576
theorem lt_same {x y:Coin} (h:y.2<x.2∧0≤y.2∧x.2<1048576):ltOf cfC x y=ltOf cfK x y:=by
 have h1:=cfC_key h
 have h2:=cfK_lt x y
 unfold ltOf
 by_cases c:keyC x<keyC y
 ·rw [decide_eq_true (h1.2 c),decide_eq_true (h2.2 c)]
 ·rw [decide_eq_false (mt h1.1 c),decide_eq_false (mt h2.1 c)]
theorem inner_same (a:Nat):∀ (j:Nat) (d:Array Coin),j<d.size→(∀ x,a≤x→x<j→d[x]!.2<d[j]!.2∧0≤d[x]!.2∧d[j]!.2<1048576)→insInner (ltOf cfC) a j d=insInner (ltOf cfK) a j d∧PermIn a (j+1) d (insInner (ltOf cfK) a j d)
 | 0,d,_,_=>⟨rfl,permIn_refl _ _ _⟩
 | j+1,d,hj,h=>by
   rw [insInner,insInner]
   by_cases c:j+1>a
   ·have e:=lt_same (h j (by omega) (by omega))
    rw [e]
    by_cases c2:ltOf cfK d[j+1]! d[j]! = true
    ·simp only [c,c2,decide_true,Bool.and_self,if_true]
     have g1:(swp d (j+1) j)[j]! = d[j+1]! := swp_right d _ _ (by omega)
     have hi:=inner_same a j (swp d (j+1) j) (by rw [size_swp];omega) (fun x hx hxj=>by
      rw [g1,swp_other d _ _ x (by omega) (by omega)]
      exact h x hx (by omega))
     refine ⟨hi.1,permIn_trans _ _ _ _ _ (swp_permIn _ _ _ _ _ (by omega) (by omega) (by omega) (by omega) (by omega)) (permIn_mono _ _ _ _ _ _ (Nat.le_refl _) (by omega) (by rw [size_swp];omega) hi.2)⟩
    ·simp only [c2,Bool.and_false]
     exact ⟨rfl,permIn_refl _ _ _⟩
   ·simp only [c,decide_false,Bool.false_and]
    exact ⟨rfl,permIn_refl _ _ _⟩
theorem outer_same (a b:Nat):∀ (n i:Nat) (d:Array Coin),b-i=n→a≤i→b≤d.size→Asf a b i d→insOuter (ltOf cfC) a b i d=insOuter (ltOf cfK) a b i d:=by
 intro n
 induction n with
 | zero=>
   intro i d hn _ _ _
   rw [insOuter_stop _ _ _ _ _ (by omega),insOuter_stop _ _ _ _ _ (by omega)]
 | succ n ih=>
   intro i d hn hai hb h
   rw [insOuter_go (ltOf cfC) a b i d (by omega),insOuter_go (ltOf cfK) a b i d (by omega)]
   obtain ⟨e,hp⟩:=inner_same a i d (by omega) (fun x hx hxi=>h x i hx hxi (Nat.le_refl _) (by omega))
   rw [e]
   refine ih (i+1) _ (by omega) (by omega) (by rw [hp.1];exact hb) fun x k hx hxk hik hkb=>?_
   rw [hp.2.1 k (.inr (by omega))]
   by_cases c:x<i+1
   ·exact permIn_all d _ a (i+1) (fun y=>y.2<d[k]!.2∧0≤y.2∧d[k]!.2<1048576) (by omega) hp (fun y hy hyi=>h y k hy (by omega) (by omega) hkb) x hx c
   ·rw [hp.2.1 x (.inr (by omega))]
    exact h x k hx hxk (by omega) hkb
set_option maxRecDepth 1000000 in
theorem insertion_any (blk off cap a b:Nat) (d0 d:Array Coin) (w0 w:World) (R:RowK encC 2 w0 blk off d0) (hs:d0.size=d.size) (S:SWK encC 2 w0 blk off d w) (hab:a≤b) (hb:b≤d.size) (hsz:d.size≤1000000) (hX:Asy a b d):
  Calls Tryz.prog 152 #[.slice (some ⟨blk,off,none⟩) d.size cap,.int .i64 a,.int .i64 b,fvC] w (SymPost a b blk off w0 d):=by
 have S0:Aside (SWK encC 2 w0 blk off d w):=S
 have HX:Aside (Asy a b d):=hX
 clear S hX
 have mixed:=mixedP
 go_enter Tryz.func152,Tryz.ntmps152
 go_wp2
 go_loopg [8] (b-a) (fun g1 vi wr=>∃ (i:Nat) (dk:Array Coin),vi=.int .i64 i∧a<i∧i≤b+1∧b+1-i≤g1+1∧dk.size=d.size∧Aside (SWK encC 2 w0 blk off dk wr)∧Hid (insOuter (ltOf cfC) a b i dk=insOuter (ltOf cfC) a b (a+1) d))
 case atStart=>exact ⟨a+1,d,by go_num,by omega,by omega,by omega,rfl,S0,rfl⟩
 case round=>
  clear S0
  obtain ⟨i,dk,rfl,hai,hib,hg1,hsk,S1,HO⟩:=hrel
  by_cases hlt:i<b
  ·have hltz:(i:Int)<(b:Int):=by omega
   go_wp2
   go_loopg [9] i (fun g2 vj wr2=>∃ (j:Nat) (dj:Array Coin),vj=.int .i64 j∧a≤j∧j≤i∧j≤g2∧dj.size=d.size∧Aside (SWK encC 2 w0 blk off dj wr2)∧Hid (insInner (ltOf cfC) a j dj=insInner (ltOf cfC) a i dk))
   case atStart=>exact ⟨i,dk,rfl,by omega,Nat.le_refl _,Nat.le_refl _,hsk,S1,rfl⟩
   case round=>
    clear S1
    obtain ⟨j,dj,rfl,haj,hji,hg2,hsj,S1,HI⟩:=hrel
    have out:(j≤a∨ltOf cfC dj[j]! dj[j-1]! = false)→Hid (insOuter (ltOf cfC) a b (i+1) dj=insOuter (ltOf cfC) a b (a+1) d):=fun hs=>by
     show _=_
     rw [← HO.out,insOuter_go _ _ _ _ _ hlt,← HI.out,insInner_stop _ _ _ _ hs]
    have OUT:Aside _:=out
    clear out
    by_cases hja:a<j
    ·have hjaz:(a:Int)<(j:Int):=by omega
     obtain ⟨jp,rfl⟩:∃ jp,j=jp+1:=⟨j-1,by omega⟩
     have hjaz':(a:Int)<(jp:Int)+1:=by omega
     have hjd:decide ((jp:Int)+1>(a:Int))=true:=decide_eq_true (by omega)
     have hjd2:decide ((a:Int)<(jp:Int)+1)=true:=decide_eq_true (by omega)
     have ea9:((jp:Int)+1).toNat=jp+1:=by omega
     have pa9:(0:Int)≤(jp:Int)+1:=by omega
     have qa9:(jp:Int)+1<(d.size:Int):=by omega
     have ra9:IntKind.i64.wrap ((jp:Int)+1)=(jp:Int)+1:=by rw [IntKind.wrap_i64];omega
     have eb9:((jp:Int)).toNat=jp:=by omega
     have pb9:(0:Int)≤(jp:Int):=by omega
     have qb9:(jp:Int)<(d.size:Int):=by omega
     have rb9:IntKind.i64.wrap ((jp:Int))=(jp:Int):=by rw [IntKind.wrap_i64];omega
     have l9a:=swk_ld S1.out R (by omega) (jp+1) (by omega)
     have l9b:=swk_ld S1.out R (by omega) (jp) (by omega)
     have hc9:=swk_cmp wr dj[jp+1]! dj[jp]!
     have hk9:=cfC_lt dj[jp+1]! dj[jp]!
     obtain ⟨xa,hxa⟩:∃ x,x=dj[jp+1]! := ⟨_,rfl⟩
     obtain ⟨xb,hxb⟩:∃ x,x=dj[jp]! := ⟨_,rfl⟩
     rw [← hxa] at l9a
     rw [← hxb] at l9b
     rw [← hxa,← hxb] at hc9 hk9
     have HXA:Aside (xa=dj[jp+1]!):=hxa
     have HXB:Aside (xb=dj[jp]!):=hxb
     clear hxa hxb
     by_cases hv9:cfC xa xb<0
     ·have hw9:xa.1<xb.1:=hk9.1 hv9
      have hd9:decide (cfC xa xb<0)=true:=decide_eq_true hv9
      have HW9:Aside _:=hw9
      clear hw9 hk9
      go_wp2_with fail
      go_quiet_grown (first | (refine Calls.grown_of (hc9 _ _)))
      have S2:Aside (SWK encC 2 w0 blk off dj (grow (wr.drewN nq) osq)):=S1.out.grown nq osq
      clear l9a l9b hc9 S1
      generalize grow (wr.drewN nq) osq=w2 at S2 ⊢
      clear nq osq
      have hw9:=HW9.out
      rw [HXA.out,HXB.out] at hw9
      have HW9:Aside _:=hw9
      clear hw9
      clear HXA HXB
      have hin:insInner (ltOf cfC) a jp (swp dj (jp+1) jp)=insInner (ltOf cfC) a i dk:=by
       have:=insInner_go (ltOf cfC) a (jp+1) dj hja (by simp only [Nat.add_sub_cancel];exact decide_eq_true ((cfC_lt _ _).2 HW9.out))
       simp only [Nat.add_sub_cancel] at this
       rw [← HI.out,this]
      have HIN:Aside _:=hin
      clear hin HW9
      go_wp2_with fail
      have S3:Aside (SWK encC 2 w0 blk off dj w2):=S2
      clear S2
      have ea4:((jp:Int)+1).toNat=jp+1:=by omega
      have pa4:(0:Int)≤(jp:Int)+1:=by omega
      have qa4:(jp:Int)+1<(d.size:Int):=by omega
      have ra4:IntKind.i64.wrap ((jp:Int)+1)=(jp:Int)+1:=by rw [IntKind.wrap_i64];omega
      have eb4:((jp:Int)).toNat=jp:=by omega
      have pb4:(0:Int)≤(jp:Int):=by omega
      have qb4:(jp:Int)<(d.size:Int):=by omega
      have rb4:IntKind.i64.wrap ((jp:Int))=(jp:Int):=by rw [IntKind.wrap_i64];omega
      have hca:=swk_cells S3.out.drew R (by omega) (jp+1) (by omega)
      have hcb:=swk_cells S3.out.drew R (by omega) (jp) (by omega)
      have l44a:=run_loadC hca.1 hca.2.1
      have l44b:=run_loadC hcb.1 hcb.2.1
      have s44a:=run_storeC (S3.out.st1 R (by omega) Tryz.prog (jp+1) (by omega) dj[jp]!)
      have s44b:=run_storeC (S3.out.st2 R (by omega) Tryz.prog (jp+1) (jp) (by omega) (by omega) dj[jp]! dj[jp+1]!)
      have S2:Aside (SWK encC 2 w0 blk off (swp dj (jp+1) (jp)) ((w2.drew.setCells blk (off+(jp+1)*2) (encC dj[jp]!)).setCells blk (off+(jp)*2) (encC dj[jp+1]!))):=S3.out.swapped R (jp+1) (jp) (by omega) (by omega)
      generalize w2.drew.setCells blk (off+(jp+1)*2) (encC dj[jp]!)=w8 at*
      generalize w8.setCells blk (off+(jp)*2) (encC dj[jp+1]!)=w9 at*
      generalize dj[jp+1]! = xa at*
      generalize dj[jp]! = xb at*
      clear S3 hca hcb
      go_wp2_with fail
      go_big_region_o
      clear l44a l44b s44a s44b
      go_wp2
      go_roundg jp
      case measure=>omega
      case rel=>
       exact ⟨jp,swp dj (jp+1) jp,by first | rfl | go_num | (congr 1;omega),by omega,by omega,Nat.le_refl _,by rw [size_swp];exact hsj,S2,(show Hid _ from HIN.out)⟩
     ·have hw9:¬ xa.1<xb.1:=fun h=>hv9 (hk9.2 h)
      have hd9:decide (cfC xa xb<0)=false:=decide_eq_false hv9
      have HW9:Aside _:=hw9
      clear hw9 hk9
      go_wp2_with fail
      go_quiet_grown (first | (refine Calls.grown_of (hc9 _ _)))
      have S2:Aside (SWK encC 2 w0 blk off dj (grow (wr.drewN nq) osq)):=S1.out.grown nq osq
      clear l9a l9b hc9 S1
      generalize grow (wr.drewN nq) osq=w2 at S2 ⊢
      clear nq osq
      have hw9:=HW9.out
      rw [HXA.out,HXB.out] at hw9
      have HW9:Aside _:=hw9
      clear hw9
      go_wp2
      go_roundg (b-(i+1))
      case measure=>omega
      case rel=>exact ⟨i+1,dj,by go_num,by omega,by omega,by omega,hsj,S2,OUT.out (Or.inr (by simp only [Nat.add_sub_cancel];exact decide_eq_false fun h=>HW9.out ((cfC_lt _ _).1 h)))⟩
    ·have hjaz:decide ((j:Int)>(a:Int))=false:=decide_eq_false (by omega)
     have hjaz':¬ (a:Int)<(j:Int):=by omega
     have S2:Aside (SWK encC 2 w0 blk off dj wr.drew):=S1.out.drew
     clear S1
     go_wp2_with fail
     go_big_region_o
     generalize wr.drew=w2 at S2 ⊢
     all_goals go_wp2
     go_roundg (b-(i+1))
     case measure=>omega
     case rel=>exact ⟨i+1,dj,by go_num,by omega,by omega,by omega,hsj,S2,OUT.out (Or.inl (by omega))⟩
  ·have hltz:¬ (i:Int)<(b:Int):=by omega
   go_wp2
   go_end0
   have hO:=HO.out
   rw [insOuter_stop _ _ _ _ _ hlt] at hO
   have hh:=insertionSort_holds swoK d a b hab hb
   unfold Sort.insertionSort at hh
   rw [← outer_same a b _ (a+1) d rfl (by omega) hb (fun x k h1 h2 h3 h4=>HX.out x k h1 h2 h4),← hO] at hh
   exact ⟨rfl,dk,hh.1,srt_of hh.2,S1.out⟩
end Go.Proofs.YtmjpnbadfmgimaaGreatDoor.S6

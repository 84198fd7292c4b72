/- Texts put together: SufR, SufDb, SufDi, SufE. -/
import Derived.Test.YtmjpnbadfmgimaaGreatDoorFg15
import Derived.Deep.WholeRow
import Derived.Lib.SliceRun
import Derived.Laws.CopyOwn
set_option linter.unusedSimpArgs false
set_option linter.unusedVariables false
set_option maxRecDepth 100000
set_option maxHeartbeats 32000000
namespace Go.Proofs.YtmjpnbadfmgimaaGreatDoor.Pl
end Go.Proofs.YtmjpnbadfmgimaaGreatDoor.Pl
namespace Go.Proofs.YtmjpnbadfmgimaaGreatDoor.S8.Pl
end Go.Proofs.YtmjpnbadfmgimaaGreatDoor.S8.Pl
namespace Go.Proofs.YtmjpnbadfmgimaaGreatDoor.S8
open Go.RowKit _root_.Go.Proofs.YtmjpnbadfmgimaaGreatDoor.Pl _root_.Go.Proofs.YtmjpnbadfmgimaaGreatDoor.S8.Pl

theorem add_none (b off i:Nat):(⟨b,off,none⟩:Addr).add i=⟨b,off+i,none⟩:=by unfold Addr.add;split <;> simp_all
theorem i64s_set (B:List Int) (i:Nat) (c:Int):(i64s B).set i (.int .i64 c)=i64s (B.set i c):=by simp [i64s,List.map_set]
def bls (L:List Bool):List Value:=L.map Value.bool
theorem bls_get (L:List Bool) (i:Nat) (h:i<L.length):(bls L)[i]? = some (.bool (L.getD i false)):=by simp [bls,h,List.getD]
theorem bls_set (B:List Bool) (i:Nat) (c:Bool):(bls B).set i (.bool c)=bls (B.set i c):=by simp [bls,List.map_set]
namespace Pl
def risL (T:List Nat):List Bool:=(List.range T.length).map (ris T)
theorem risL_length (T:List Nat):(risL T).length=T.length:=by simp [risL]
theorem risL_get (T:List Nat) (i:Nat) (h:i<T.length):(risL T).getD i false=ris T i:=by simp [risL,List.getD,h]
def stsL (T:List Nat) (K:Nat):List Int:=(List.range (K+1)).map fun l=>(bst T l:Int)
theorem stsL_length (T:List Nat) (K:Nat):(stsL T K).length=K+1:=by simp [stsL]
theorem stsL_get (T:List Nat) (K l:Nat) (h:l<K+1):(stsL T K).getD l 0=(bst T l:Int):=by simp [stsL,List.getD,h]
end Pl
theorem gr_cell {w W:World} {g:Nat} (h:Gr w W g) {p:Addr} {u:Value} (hp:p.block≠g) (hc:w.cell? p=some u):W.cell? p=some u:=
 World.grownBy.cell h hc (by simp;exact hp)
theorem blk_gr {w W:World} {g b:Nat} {t:TypeId} {c:List Value} (h:Gr w W g) (hb:b≠g) (k:Blk w b t c):Blk W b t c:=Blk.grown k h (by simp;exact hb)
def loadT (v:Value):Sem Value:=Instr.loadAt 144 v
theorem loadT_eq (v:Value):Instr.loadAt 144 v=loadT v:=rfl
theorem run_loadT {w:World} {b:Nat} {t:TypeId} {x y z:Value} (h:Blk w b t [x,y,z]):
  (loadT (.pointer (some ⟨b,0,none⟩))).run Tryz.prog w=.ok (.agg #[x,y,z]) w:=by
 simp only [loadT,Instr.loadAt,Instr.sureAddr,loadVar,Sem.run_bind,Sem.run_pure,Result.andThen_ok,Tryz.isAgg144,Tryz.sizeOf144,if_true]
 have:=run_loadCells_list (P:=Tryz.prog) w ⟨b,0,none⟩ [x,y,z] (fun j v hj=>by
  rw [add_none,Nat.zero_add]
  exact h.cell hj)
 simp only [List.length_cons,List.length_nil,Nat.reduceAdd] at this
 rw [this]
 rfl
def loadU (v:Value):Sem Value:=Instr.loadAt 171 v
theorem loadU_eq (v:Value):Instr.loadAt 171 v=loadU v:=rfl
theorem run_loadU {w:World} {b:Nat} {t:TypeId} {x y z:Value} (h:Blk w b t [x,y,z]):
  (loadU (.pointer (some ⟨b,0,none⟩))).run Tryz.prog w=.ok (.agg #[x,y,z]) w:=by
 simp only [loadU,Instr.loadAt,Instr.sureAddr,loadVar,Sem.run_bind,Sem.run_pure,Result.andThen_ok,Tryz.isAgg171,Tryz.sizeOf171,if_true]
 have:=run_loadCells_list (P:=Tryz.prog) w ⟨b,0,none⟩ [x,y,z] (fun j v hj=>by
  rw [add_none,Nat.zero_add]
  exact h.cell hj)
 simp only [List.length_cons,List.length_nil,Nat.reduceAdd] at this
 rw [this]
 rfl
def LetB (w:World) (B:Nat) (lv:Value) (T:List Nat):Prop:=IsBytes w lv T∧∀ a n c,lv=.slice (some a) n c→0<T.length→a.block<B
def LetI (w:World) (B:Nat) (lv:Value) (T:List Nat):Prop:=IsInts w lv (nI T)∧∀ a n c,lv=.slice (some a) n c→0<T.length→a.block<B
theorem LetB.keep {w W:World} {B g:Nat} {lv:Value} {T:List Nat} (h:LetB w B lv T) (hg:Gr w W g) (hB:B≤g):LetB W B lv T:=
 ⟨h.1.row hg fun a n c e h0 e2=>by have:=h.2 a n c e h0;simp at e2;omega,h.2⟩
theorem isInts_rowG {w w':World} {v:Value} {L:List Int} (h:IsInts w v L) {r:Option Nat} (hg:w.grownBy w' r) (hr:∀ a n c,v=.slice (some a) n c→0<L.length→some a.block≠r):IsInts w' v L:=by
 obtain h | ⟨a,cap,rfl,h1,h2,hc⟩:=h
 ·exact .inl h
 ·refine .inr ⟨a,cap,rfl,h1,h2,fun i u hu=>?_⟩
  have:=hc i u hu
  have hl:i<L.length:=by have:=(List.getElem?_eq_some_iff.1 hu).1;rwa [i64s_length] at this
  have hblk:(a.add i).block=a.block:=by unfold Addr.add;split <;> rfl
  exact hg.cell this (by rw [hblk];exact hr a _ _ rfl (by omega))
theorem LetI.keep {w W:World} {B g:Nat} {lv:Value} {T:List Nat} (h:LetI w B lv T) (hg:Gr w W g) (hB:B≤g):LetI W B lv T:=
 ⟨isInts_rowG h.1 hg fun a n c e h0 e2=>by have:=h.2 a n c e (by rw [nI_length] at h0;exact h0);simp at e2;omega,h.2⟩
theorem LetB.at {w:World} {B:Nat} {lv:Value} {T:List Nat} (h:LetB w B lv T):∃ a cap,lv=.slice a T.length cap∧(0<T.length→∃ b off,a=some ⟨b,off,none⟩∧b<B∧∀ i,i<T.length→w.cell? ⟨b,off+i,none⟩=some (.int .u8 (T.getD i 0:Nat))):=by
 obtain ⟨a,cap,rfl,_,_,hc⟩:=bytes_cell h.1
 refine ⟨a,cap,rfl,fun h0=>?_⟩
 obtain ⟨b,off,rfl,_,hx⟩:=hc h0
 exact ⟨b,off,rfl,h.2 _ _ _ rfl h0,hx⟩
theorem LetI.at {w:World} {B:Nat} {lv:Value} {T:List Nat} (h:LetI w B lv T):∃ a cap,lv=.slice a T.length cap∧(0<T.length→∃ b off,a=some ⟨b,off,none⟩∧b<B∧∀ i,i<T.length→w.cell? ⟨b,off+i,none⟩=some (.int .i64 (T.getD i 0:Nat))):=by
 obtain ⟨a,cap,rfl,_,_⟩:=h.1.slice
 rw [nI_length]
 refine ⟨a,cap,rfl,fun h0=>?_⟩
 obtain ⟨b,off,c,e,_,_,_,hx⟩:=h.1.cells (by rw [nI_length];exact h0)
 simp at e
 obtain ⟨⟨rfl,_⟩,_⟩:=e
 refine ⟨b,off,rfl,h.2 _ _ _ rfl h0,fun i hi=>?_⟩
 have:=hx i (by rw [nI_length];exact hi)
 rwa [nI_get] at this
theorem LetB.cell {w:World} {B lb lo n cap:Nat} {T:List Nat} (h:LetB w B (.slice (some ⟨lb,lo,none⟩) n cap) T) {i:Nat} (hi:i<T.length):lb<B∧w.cell? ⟨lb,lo+i,none⟩=some (.int .u8 (T.getD i 0:Nat)):=by
 obtain ⟨a,c,e,h2⟩:=h.at
 obtain ⟨b,off,rfl,h3,h4⟩:=h2 (by omega)
 simp at e
 obtain ⟨⟨rfl,rfl⟩,_⟩:=e
 exact ⟨h3,h4 i hi⟩
theorem LetI.cell {w:World} {B lb lo n cap:Nat} {T:List Nat} (h:LetI w B (.slice (some ⟨lb,lo,none⟩) n cap) T) {i:Nat} (hi:i<T.length):lb<B∧w.cell? ⟨lb,lo+i,none⟩=some (.int .i64 (T.getD i 0:Nat)):=by
 obtain ⟨a,c,e,h2⟩:=h.at
 obtain ⟨b,off,rfl,h3,h4⟩:=h2 (by omega)
 simp at e
 obtain ⟨⟨rfl,rfl⟩,_⟩:=e
 exact ⟨h3,h4 i hi⟩
structure TxB (w:World) (B:Nat) (T:List Nat) (K:Nat) (lv:Value) (rb sb:Nat):Prop where
 ltr:LetB w B lv T
 rise:Blk w rb 4 (bls (risL T))
 sts:Blk w sb 3 (i64s (stsL T K))
 rb:rb<B
 sb:sb<B
 top:B≤w.heap.size
 kind:∀ x∈T,x<K
 len:T.length≤1000000
 lenK:K≤1000000
structure TxI (w:World) (B:Nat) (T:List Nat) (K:Nat) (lv:Value) (rb sb:Nat):Prop where
 ltr:LetI w B lv T
 rise:Blk w rb 4 (bls (risL T))
 sts:Blk w sb 3 (i64s (stsL T K))
 rb:rb<B
 sb:sb<B
 top:B≤w.heap.size
 kind:∀ x∈T,x<K
 len:T.length≤1000000
 lenK:K≤1000000
theorem TxB.keep {w W:World} {B g K rb sb:Nat} {lv:Value} {T:List Nat} (h:TxB w B T K lv rb sb) (hg:Gr w W g) (hB:B≤g):TxB W B T K lv rb sb:=by
 have h1:=h.rb
 have h2:=h.sb
 exact ⟨h.ltr.keep hg hB,blk_gr hg (by omega) h.rise,blk_gr hg (by omega) h.sts,h1,h2,Nat.le_trans h.top hg.size,h.kind,h.len,h.lenK⟩
theorem TxI.keep {w W:World} {B g K rb sb:Nat} {lv:Value} {T:List Nat} (h:TxI w B T K lv rb sb) (hg:Gr w W g) (hB:B≤g):TxI W B T K lv rb sb:=by
 have h1:=h.rb
 have h2:=h.sb
 exact ⟨h.ltr.keep hg hB,blk_gr hg (by omega) h.rise,blk_gr hg (by omega) h.sts,h1,h2,Nat.le_trans h.top hg.size,h.kind,h.len,h.lenK⟩
def txV (lv:Value) (rb n sb k:Nat):Value:=.agg #[lv,.slice (some ⟨rb,0,none⟩) n n,.slice (some ⟨sb,0,none⟩) k k]
theorem gr_below {w W:World} (h:Below w.heap.size w W) (g:Nat):Gr w W g:=Gr.ofBelow h
theorem TxB.below {w W:World} {B K rb sb:Nat} {lv:Value} {T:List Nat} (h:TxB w B T K lv rb sb) (hb:Below w.heap.size w W):TxB W B T K lv rb sb:=h.keep (gr_below hb B) (Nat.le_refl _)
theorem TxI.below {w W:World} {B K rb sb:Nat} {lv:Value} {T:List Nat} (h:TxI w B T K lv rb sb) (hb:Below w.heap.size w W):TxI W B T K lv rb sb:=h.keep (gr_below hb B) (Nat.le_refl _)
theorem getD_kind {T:List Nat} {K i:Nat} (h:∀ x∈T,x<K) (hi:i<T.length):T.getD i 0<K:=h _ (getD_mem T 0 hi)
theorem isCut_b (T:List Nat) (lv sv:Value) (rb i:Nat) (w:World) (hr:Blk w rb 4 (bls (risL T))) (hi:i<T.length) (hn:T.length≤1000000):
  Calls Tryz.prog 94 #[.agg #[lv,.slice (some ⟨rb,0,none⟩) T.length T.length,sv],.int .i64 i] w fun e w'=>e=.returned (.bool (isc T i))∧Below w.heap.size w w':=by
 have hrb:=hr.lt
 have c0:=hr.cell (bls_get (risL T) i (by rw [risL_length];exact hi))
 rw [risL_get T i hi] at c0
 have c1:0<i→Blk w rb 4 (bls (risL T))→w.cell? ⟨rb,i-1,none⟩=some (.bool (ris T (i-1))):=fun h h2=>by
  have:=h2.cell (bls_get (risL T) (i-1) (by rw [risL_length];omega))
  rwa [risL_get T (i-1) (by omega)] at this
 obtain ⟨N,hN⟩:∃ N,N=T.length:=⟨_,rfl⟩
 rw [← hN] at hi hn ⊢
 by_cases h0:i=0
 ·subst h0
  have e:isc T 0=false:=rfl
  rw [e]
  go_enter Tryz.func94,Tryz.ntmps94
  go_wp2_with fail
  go_ret
  exact ⟨rfl,(Below.refl _ _).alloc (Nat.le_refl _) _⟩
 ·have c1:=c1 (by omega) hr
  obtain ⟨j,rfl⟩:∃ j,i=j+1:=⟨i-1,by omega⟩
  rw [isc_succ]
  simp only [Nat.add_sub_cancel] at c1
  generalize ris T (j+1)=r1 at*
  generalize ris T j=r0 at*
  clear hr
  cases r1 with
  | false=>
    go_enter Tryz.func94,Tryz.ntmps94
    go_wp2_with fail
    go_ret
    exact ⟨rfl,(Below.refl _ _).alloc (Nat.le_refl _) _⟩
  | true=>
    go_enter Tryz.func94,Tryz.ntmps94
    go_wp2_with fail
    go_ret
    exact ⟨by cases r0 <;> rfl,(Below.refl _ _).alloc (Nat.le_refl _) _⟩
theorem isCut_i (T:List Nat) (lv sv:Value) (rb i:Nat) (w:World) (hr:Blk w rb 4 (bls (risL T))) (hi:i<T.length) (hn:T.length≤1000000):
  Calls Tryz.prog 117 #[.agg #[lv,.slice (some ⟨rb,0,none⟩) T.length T.length,sv],.int .i64 i] w fun e w'=>e=.returned (.bool (isc T i))∧Below w.heap.size w w':=by
 have hrb:=hr.lt
 have c0:=hr.cell (bls_get (risL T) i (by rw [risL_length];exact hi))
 rw [risL_get T i hi] at c0
 have c1:0<i→Blk w rb 4 (bls (risL T))→w.cell? ⟨rb,i-1,none⟩=some (.bool (ris T (i-1))):=fun h h2=>by
  have:=h2.cell (bls_get (risL T) (i-1) (by rw [risL_length];omega))
  rwa [risL_get T (i-1) (by omega)] at this
 obtain ⟨N,hN⟩:∃ N,N=T.length:=⟨_,rfl⟩
 rw [← hN] at hi hn ⊢
 by_cases h0:i=0
 ·subst h0
  have e:isc T 0=false:=rfl
  rw [e]
  go_enter Tryz.func117,Tryz.ntmps117
  go_wp2_with fail
  go_ret
  exact ⟨rfl,(Below.refl _ _).alloc (Nat.le_refl _) _⟩
 ·have c1:=c1 (by omega) hr
  obtain ⟨j,rfl⟩:∃ j,i=j+1:=⟨i-1,by omega⟩
  rw [isc_succ]
  simp only [Nat.add_sub_cancel] at c1
  generalize ris T (j+1)=r1 at*
  generalize ris T j=r0 at*
  clear hr
  cases r1 with
  | false=>
    go_enter Tryz.func117,Tryz.ntmps117
    go_wp2_with fail
    go_ret
    exact ⟨rfl,(Below.refl _ _).alloc (Nat.le_refl _) _⟩
  | true=>
    go_enter Tryz.func117,Tryz.ntmps117
    go_wp2_with fail
    go_ret
    exact ⟨by cases r0 <;> rfl,(Below.refl _ _).alloc (Nat.le_refl _) _⟩

def OwnI (w:World) (g n cap:Nat) (L:List Int):Prop:=w.ownsRow 0 3 1 (.slice (some ⟨g,0,none⟩) n cap) n (i64s L)
namespace OwnI
variable {w W:World} {g n cap:Nat} {L:List Int}
theorem length (h:OwnI w g n cap L):L.length=n:=by have:=h.1;rw [i64s_length] at this;omega
theorem cell (h:OwnI w g n cap L) {i:Nat} (hi:i<n):w.cell? ⟨g,i,none⟩=some (.int .i64 (L.getD i 0)):=by
 have:=h.length
 unfold OwnI at h
 rw [h.cellAt i (by omega)]
 exact i64s_get L i (by omega)
theorem frozen (h:OwnI w g n cap L) (i:Nat):w.frozen? ⟨g,i,none⟩=false:=World.ownsRow.frozenAt h i
theorem set (h:OwnI w g n cap L) (i:Nat) (c:Int):OwnI (w.setCell ⟨g,i,none⟩ (.int .i64 c)) g n cap (L.set i c):=by
 have:=(World.ownsRow.stored h i (.int .i64 c)).1
 rw [i64s_set] at this
 exact this
theorem setOther (h:OwnI w g n cap L) {p:Addr} (hp:g≠p.block) (v:Value):OwnI (w.setCell p v) g n cap L:=
 ownsRow_setCell_other h (by intro e;simp [Value.ownBlock] at e;exact hp e) v
theorem gr (h:OwnI w g n cap L) {r:Nat} (hg:Gr w W r) (hr:g≠r):OwnI W g n cap L:=
 World.ownsRow.kept h hg (.inr (by simp [Value.ownBlock];exact hr))
theorem below (h:OwnI w g n cap L) (hb:Below w.heap.size w W):OwnI W g n cap L:=own_below h hb
theorem lt (h:OwnI w g n cap L):g<w.heap.size:=(World.ownsRow.lt h g rfl).2
theorem caps (h:OwnI w g n cap L):n≤cap∧cap≤maxLen:=by
 obtain ⟨sp,c,e,h1,h2⟩:=ownsRow_slice h
 simp at e
 rw [e.2]
 exact ⟨h1,h2⟩
theorem ints (h:OwnI w g n cap L):IsInts w (.slice (some ⟨g,0,none⟩) n cap) L:=isInts_own h.length.symm h
end OwnI
theorem ownI_of {w:World} {base n:Nat} {v:Value} {L:List Int} (h:w.ownsRow base 3 1 v n (i64s L)) (h0:0<n):∃ g cap,v=.slice (some ⟨g,0,none⟩) n cap∧base≤g∧OwnI w g n cap L:=by
 obtain ⟨g,cap,rfl,hb,_⟩:=own_open h h0
 exact ⟨g,cap,rfl,hb,own_base h (Nat.zero_le _)⟩
theorem run_fromB {g n cap:Nat} (k:Nat) (hk:k≤n) (hc:k<cap) (hcap:n≤cap) (W:World):(sliceI (.slice (some ⟨g,0,none⟩) n cap) (some (.int .i64 k)) none none).run Tryz.prog W=.ok (.slice (some ⟨g,k,none⟩) (n-k) (cap-k)) W:=by
 unfold sliceI
 rw [run_sliceAt_slice _ _ _ _ _ _ und_i64s,run_slice_l _ _ _ _ _ und_i64s _ _ (by omega) (by omega),run_size_i,Int.toNat_natCast]
 simp only [Result.andThen,sliced]
 rw [if_neg (by omega)]
 simp [add_none]
theorem run_uptoN {g n cap:Nat} (k:Nat) (hk:k≤n) (hcap:n≤cap) (W:World):(sliceI (.slice (some ⟨g,0,none⟩) n cap) none (some (.int .i64 k)) none).run Tryz.prog W=.ok (.slice (some ⟨g,0,none⟩) k cap) W:=by
 unfold sliceI
 rw [run_sliceAt_slice _ _ _ _ _ _ und_i64s,run_slice_h _ _ _ _ _ und_i64s _ _ (by omega) (by omega),run_size_i,Int.toNat_natCast]
 simp only [Result.andThen,sliced,Nat.sub_zero]
 split <;> simp [add_none]

def CloneI (L:List Int) (w:World) (e:Ending) (w':World):Prop:=
 ∃ v',e=.returned v'∧w'.ownsRow w.heap.size 3 1 v' L.length (i64s L)∧Below w.heap.size w w'
theorem cloneI_any (v:Value) (L:List Int) (w:World) (hv:IsInts w v L) (hB:L.length≤17592186044416):
  Calls Tryz.prog 112 #[v] w (CloneI L w):=by
 have qT:∀ (w:World) (a:Option Addr) (n c n' c':Nat),(binOp .eql 88 (.slice a n c) (.slice none n' c')).run Tryz.prog w=.ok (.bool a.isNone) w:=fun w a n c n' c'=>Lib.run_eql_slice_nil w 88 3 a n c n' c' Tryz.underlying88
 obtain ⟨rfl,rfl⟩ | ⟨a,cap,rfl,hcap,hmax,hc⟩:=hv
 ·go_enter Tryz.func112,Tryz.ntmps112
  go_wp2
  go_ret
  exact ⟨_,rfl,World.ownsRow_nil _ _ _ _,Below.refl _ _⟩
 ·obtain ⟨i0,hi,hz0,hz1,hz2⟩:=infoI_parts infoI
  have Hi:=Lib.hid hi
  have Hz0:=Lib.hid hz0
  have Hz1:=Lib.hid hz1
  have Hz2:=Lib.hid hz2
  clear hi hz0 hz1 hz2
  have HC:=Lib.hid hc
  clear hc
  have H0:Hid ((w.alloc (.cells #[] 3)).ownsRow w.heap.size 3 1 (.slice (some ⟨w.heap.size,0,none⟩) 0 0) 0 []):=Lib.hid (World.ownsRow_made w #[] 0 (Nat.le_refl _) (by unfold maxLen;omega) rfl)
  have HS:Hid (∀ (j:Nat) (u:Value),(i64s L)[j]? = some u→(w.alloc (.cells #[] 3)).cell? (a.add j)=some u):=Lib.hid fun j u hu=>by
   have h:=HC.out j u hu
   rw [World.cell?_alloc_lt]
   ·exact h
   ·exact World.block_lt_of_cell? w _ h
  go_enter Tryz.func112,Tryz.ntmps112
  go_wp2_with (at_builtin;refine wpList_append_own _ rfl (.tmp 5) (.tmp 6) 88 rfl w.heap.size 3 i0 (.int .i64 0) 1 8 Tryz.underlying88 Hi.out Hz0.out Hz1.out Hz2.out rfl (by decide) _ _ _ rfl H0.out a L.length cap (i64s L) rfl (by rw [i64s_length,Nat.mul_one]) HS.out (i64s_one L) (by unfold maxLen;omega) (by omega) (by simp) ?_;intro v' w1 hown hgr _)
  go_ret
  have hsz:(w.alloc (.cells #[] 3)).heap.size=w.heap.size+1:=by simp
  refine ⟨v',rfl,by simpa using hown,?_⟩
  exact (((Below.refl _ _).alloc (Nat.le_refl _) _).grown hgr (by simp) (by intro k hk;have hk':some w.heap.size=some k:=hk;simp at hk';omega))
theorem and_low (n:Nat) (h:n<4294967296):bits BinOp.and IntKind.u64 (n:Int) 4294967295=(n:Int):=by
 have:=u64_and (n:Int) 4294967295 (by omega) (by omega) (by omega) (by omega)
 rw [this]
 have e:(4294967295:Int).toNat=2^32-1:=by decide
 rw [e,Int.toNat_natCast,Nat.and_two_pow_sub_one_eq_mod]
 omega
theorem mul64_one (n:Nat) (w:World) (hn:n<4294967296):Calls Tryz.prog 151 #[.int .u64 1,.int .u64 n] w fun e w'=>e=.returned (.tuple #[.int .u64 0,.int .u64 n])∧w=w':=by
 have h1:=and_low n hn
 have h2:(n:Int)/4294967296=0:=by omega
 have h3:bits BinOp.and IntKind.u64 1 4294967295=1:=by decide +kernel
 have h4:bits BinOp.and IntKind.u64 0 4294967295=0:=by decide +kernel
 have h5:IntKind.u64.wrap (n:Int)=(n:Int):=by rw [IntKind.wrap_u64];omega
 go_enter Tryz.func151,Tryz.ntmps151
 go_wp2
 go_ret2
 exact ⟨rfl,rfl⟩
theorem mul_one_any (n:Nat) (w:World) (hn:n<4294967296):Calls Tryz.prog 139 #[.int .u64 1,.int .u64 n] w fun e w'=>e=.returned (.tuple #[.int .u64 0,.int .u64 n])∧w=w':=by
 have hm:=mul64_one n w hn
 go_enter Tryz.func139,Tryz.ntmps139
 go_wp2_with fail
 refine hm.mono ?_
 rintro e w' ⟨rfl,rfl⟩
 go_wp2
 go_ret2
 exact ⟨rfl,rfl⟩
namespace Pl
def repL (x:Int) (n c:Nat):List Int:=List.replicate c x++List.replicate (n-c) 0
theorem repL_length (x:Int) {n c:Nat} (h:c≤n):(repL x n c).length=n:=by simp [repL];omega
theorem repL_all (x:Int) (n:Nat):repL x n n=List.replicate n x:=by simp [repL]
theorem repL_get (x:Int) {n c i:Nat} (h:i<c):(repL x n c)[i]? = some x:=by
 unfold repL
 rw [List.getElem?_append_left (by simpa using h)]
 simp [h]
theorem repL_splice (x:Int) {n c d:Nat} (h:c+d≤n):splice (i64s (repL x n c)) c (i64s (List.replicate d x))=i64s (repL x n (c+d)):=by
 apply List.ext_getElem?
 intro i
 have hl:(i64s (repL x n c)).length=n:=by rw [i64s_length,repL_length x (by omega)]
 rw [splice_get _ _ _ (by rw [hl,i64s_length,List.length_replicate];exact h)]
 simp only [i64s_length,List.length_replicate]
 simp only [i64s,List.getElem?_map]
 split
 ·rw [repL_get x (by omega),repL_get x (by omega)]
 ·split
  ·rw [repL_get x (by omega),List.getElem?_replicate,if_pos (by omega)]
  ·unfold repL
   rw [List.getElem?_append_right (by simp;omega),List.getElem?_append_right (by simp;omega)]
   simp only [List.length_replicate,List.getElem?_replicate]
   congr 1
   by_cases hi:i<n
   ·rw [if_pos (by omega),if_pos (by omega)]
   ·rw [if_neg (by omega),if_neg (by omega)]
theorem madeI (n:Nat):(madeCells (Value.int .i64 0).cells (n*1)).toList=i64s (List.replicate n 0):=by
 apply List.ext_getElem?
 intro i
 by_cases h:i<n
 ·simp [madeCells,Value.cells,i64s,h,Nat.mod_one]
 ·simp [madeCells,Value.cells,i64s,h]
end Pl
theorem sizeI:(Tryz.prog.info? 3).map (·.size)=some 1:=by
 obtain ⟨i0,hi,hz0,hz1,hz2⟩:=infoI_parts infoI
 rw [hi];simp [hz1]
theorem blk_ownI {w:World} {g n:Nat} {L:List Int} (h:Blk w g 3 (i64s L)) (hn:L.length=n) (hm:n≤maxLen):OwnI w g n n L:=by
 subst hn
 exact ⟨by rw [i64s_length];omega,.inr ⟨g,L.length,(i64s L).toArray,rfl,Nat.zero_le _,h,Nat.le_refl _,hm,by simp [i64s],by rw [Nat.mul_one];exact List.take_of_length_le (by rw [i64s_length];exact Nat.le_refl _)⟩⟩
def RepPost (x:Int) (n:Nat) (w:World) (e:Ending) (w':World):Prop:=
 e=.returned (.slice (some ⟨w.heap.size,0,none⟩) n n)∧OwnI w' w.heap.size n n (List.replicate n x)∧Below w.heap.size w w'
theorem copy_first (x:Int) (n g b:Nat) (W:World) (hg:Blk W g 3 (i64s (repL x n 0))) (hb:Blk W b 3 [.int .i64 x]):
  ∃ W',(Builtin.copy_ #[88,88] 3 #[.slice (some ⟨g,0,none⟩) n n,.slice (some ⟨b,0,none⟩) 1 1]).run Tryz.prog W=.ok (.int .i64 (Nat.min 1 n:Nat)) W'∧Blk W' g 3 (i64s (repL x n (Nat.min 1 n)))∧Below g W W':=by
 by_cases h0:n=0
 ·subst h0
  exact ⟨W,run_copy_none W _ _ _ 3 _ _ _ _ _ _ Tryz.underlying88 sizeI rfl,hg,Below.refl _ _⟩
 ·have hm:Nat.min 1 n=1:=Nat.min_eq_left (by omega)
  rw [hm]
  have hl:(i64s (repL x n 0)).length=n:=by rw [i64s_length,repL_length x (Nat.zero_le _)]
  have hrun:=run_copy_row (P:=Tryz.prog) W 88 88 3 3 g 0 n n ⟨b,0,none⟩ 1 1 (i64s (repL x n 0)).toArray 3 (i64s (List.replicate 1 x)) Tryz.underlying88 sizeI hg (by rw [hm];rfl) (fun j v hj=>by
   have hj2:=(List.getElem?_eq_some_iff.1 hj).1
   rw [i64s_length,List.length_replicate] at hj2
   obtain rfl:j=0:=by omega
   rw [add_none]
   exact hb.cell hj) (by rw [List.size_toArray,hl,i64s_length,List.length_replicate];omega) (i64s_one _)
  refine ⟨W.setRow g (splice (i64s (repL x n 0)) 0 (i64s (List.replicate 1 x))).toArray,hrun,?_,below_setRow (Below.refl _ _) (Nat.le_refl _) _⟩
  unfold Blk
  rw [setRow_heap W g (i64s (repL x n 0)).toArray _ 3 _ hg,repL_splice x (by omega)]
attribute [local go_sem ↓] sliceI_eq
theorem repeat_any (x:Int) (b n:Nat) (w:World) (hb:Blk w b 3 [.int .i64 x]) (hn:n≤1000000):
  Calls Tryz.prog 111 #[.slice (some ⟨b,0,none⟩) 1 1,.int .i64 n] w (RepPost x n w):=by
 have hm:=mul_one_any n w (by omega)
 have hw1:IntKind.u64.wrap (n:Int)=(n:Int):=by rw [IntKind.wrap_u64];omega
 have hw2:IntKind.i64.wrap (n:Int)=(n:Int):=by first | (rw [IntKind.wrap_i64];omega) | (unfold IntKind.wrap;simp [IntKind.signed,IntKind.bits];omega)
 have hblt:=hb.lt
 have HBx:=Lib.hid hb
 clear hb
 obtain ⟨i0,hi,hz0,hz1,hz2⟩:=infoI_parts infoI
 have Hi:=Lib.hid hi
 have Hz0:=Lib.hid hz0
 have Hz1:=Lib.hid hz1
 have Hz2:=Lib.hid hz2
 clear hi hz0 hz1 hz2
 go_enter Tryz.func111,Tryz.ntmps111
 go_wp2_with fail
 refine hm.mono ?_
 rintro e w' ⟨rfl,rfl⟩
 clear hm
 have HC:Hid (∀ W,W.ownsRow w.heap.size 3 1 (.slice (some ⟨w.heap.size,0,none⟩) n n) n (madeCells (Value.int .i64 0).cells (n*1)).toList→w.grownBy W none→∃ W',(Builtin.copy_ #[88,88] 3 #[.slice (some ⟨w.heap.size,0,none⟩) n n,.slice (some ⟨b,0,none⟩) 1 1]).run Tryz.prog W=.ok (.int .i64 (Nat.min 1 n:Nat)) W'∧Blk W' w.heap.size 3 (i64s (repL x n (Nat.min 1 n)))∧Below w.heap.size w W'):=Lib.hid fun W h hg=>by
  have h1:=made_blk h
  rw [madeI] at h1
  obtain ⟨W',r1,r2,r3⟩:=copy_first x n w.heap.size b W h1 (Blk.grown HBx.out hg (by simp))
  exact ⟨W',r1,r2,Below.trans ((Below.refl _ _).grown hg (Nat.le_refl _) (by simp)) r3⟩
 have hmin:Nat.min 1 n≤n:=Nat.min_le_right _ _
 have hmin2:n=0∨1≤Nat.min 1 n:=by
  by_cases h0:n=0
  ·exact .inl h0
  ·exact .inr (Nat.le_min.2 ⟨Nat.le_refl _,by omega⟩)
 generalize Nat.min 1 n=k0 at*
 go_wp2_with (at_make;refine wpList_make_full _ rfl _ _ 88 rfl w.heap.size 3 i0 (.int .i64 0) 1 Tryz.underlying88 Hi.out Hz0.out Hz1.out .i64 .i64 _ _ n rfl rfl (by first | rfl | (simp;done) | omega) (by first | rfl | (simp;done) | omega) (by rw [Hz2.out];omega) (by unfold maxLen;omega) (Nat.le_refl _) ?_;intro w1 hown hgr;obtain ⟨w2,hcp,hb2,hbel2⟩:=HC.out w1 hown hgr)
 have HB2:=Lib.hid hb2
 have HBEL2:=Lib.hid hbel2
 clear hcp hb2 hbel2 hown hgr HC
 go_loopw [8] (fun y wr=>∃ c:Nat,c≤n∧(n=0∨1≤c)∧y=.int .i64 c∧Blk wr w.heap.size 3 (i64s (repL x n c))∧Below w.heap.size w wr) (fun y _=>n-(intOf y).toNat)
 case atStart=>exact ⟨k0,hmin,hmin2,rfl,HB2.out,HBEL2.out⟩
 case round=>
  obtain ⟨c,hc,hc1,rfl,hb,hbel⟩:=hrel
  have HB:=Lib.hid hb
  have HBEL:=Lib.hid hbel
  clear hb hbel HB2 HBEL2
  by_cases hlt:c<n
  ·have s1:=fun W=>run_fromB (g:=w.heap.size) (n:=n) (cap:=n) c (by omega) hlt (Nat.le_refl _) W
   have s2:=fun W=>run_uptoN (g:=w.heap.size) (n:=n) (cap:=n) c (by omega) (Nat.le_refl _) W
   obtain ⟨d,hd⟩:∃ d,Nat.min c (n-c)=d:=⟨_,rfl⟩
   have hd1:d≤n-c:=by rw [← hd];exact Nat.min_le_right _ _
   have hd2:1≤d:=by rw [← hd];exact Nat.le_min.2 ⟨by omega,by omega⟩
   have hd3:d≤c:=by rw [← hd];exact Nat.min_le_left _ _
   have F1:Hid ((i64s (List.replicate d x)).length=Nat.min c (n-c)):=Lib.hid (by rw [i64s_length,List.length_replicate,hd])
   have F2:CSrc wr (i64s (List.replicate d x)) (some ⟨w.heap.size,c,none⟩) w.heap.size c (some ⟨w.heap.size,0,none⟩):=fun _=>⟨rfl,_,rfl,fun j v hj=>by
    have hj2:=(List.getElem?_eq_some_iff.1 hj).1
    rw [i64s_length,List.length_replicate] at hj2
    rw [add_none,Nat.zero_add]
    refine HB.out.cell ?_
    rw [← hj]
    simp only [i64s,List.getElem?_map]
    rw [repL_get x (by omega),List.getElem?_replicate,if_pos hj2]⟩
   have F3:Hid (c+(i64s (List.replicate d x)).length≤(i64s (repL x n c)).length):=Lib.hid (by rw [i64s_length,i64s_length,List.length_replicate,repL_length x hc];omega)
   have F4:Hid (∀ v∈i64s (List.replicate d x),v.oneCell'=true):=Lib.hid (i64s_one _)
   have F5:Hid ((i64s (List.replicate d x)).length=d):=Lib.hid (by rw [i64s_length,List.length_replicate])
   clear hd
   go_wp2_with fail
   go_region_law (refine step_copy_splice rfl (.tmp 41) (.tmp 44) 88 88 rfl 3 Tryz.underlying88 sizeI (some ⟨w.heap.size,c,none⟩) (some ⟨w.heap.size,0,none⟩) (n-c) (n-c) c n (by simp [Act.eval,Act.put]) (by simp [Act.eval,Act.put]) w.heap.size c _ 3 HB.out (i64s (List.replicate d x)) F1.out F2 F3.out F4.out w.heap.size w HBEL.out.drew (Nat.le_refl _) ?_;intro w2 hG2 hB2)
   have HW:Hid (Blk w2 w.heap.size 3 (i64s (repL x n (c+d)))):=Lib.hid (by
    have:=hG2.out
    rw [repL_splice x (by omega)] at this
    exact this)
   have HF:=Lib.hid hB2
   rw [F5.out]
   have hdc:(c:Int)+(d:Int)≤1000000:=by omega
   clear F1 F2 F3 F4 F5 hG2 hB2 s1 s2
   go_wp2_with fail
   have hwr:IntKind.i64.wrap ((c:Int)+(d:Int))=((c+d:Nat):Int):=by first | (rw [IntKind.wrap_i64];omega) | (unfold IntKind.wrap;simp [IntKind.signed,IntKind.bits];omega)
   simp [Act.put]
   rw [hwr]
   refine ⟨⟨c+d,by omega,by omega,rfl,HW.out,HF.out⟩,?_⟩
   simp only [intOf_i];omega
  ·obtain rfl:c=n:=by omega
   go_wp2_with fail
   go_ret
   rw [repL_all] at HB
   exact ⟨rfl,blk_ownI HB.out (by simp) (by unfold maxLen;omega),HBEL.out⟩
end Go.Proofs.YtmjpnbadfmgimaaGreatDoor.S8

/- Texts put together: PkgA, PkgB, PkgC, PkgD, LenC, LenD, LenE. -/
import Derived.Test.YtmjpnbadfmgimaaGreatDoorFg8
import Derived.Test.YtmjpnbadfmgimaaGreatDoorFg10
import Derived.OwnWalk
import Derived.Deep.WholeRow
set_option linter.unusedSimpArgs false
set_option linter.unusedVariables false
set_option maxRecDepth 100000
set_option maxHeartbeats 32000000
namespace Go.Proofs.YtmjpnbadfmgimaaGreatDoor.S6
namespace Pl
def sm (g:Coin→Int):List Coin→Int
 | []=>0
 | c::L=>g c+sm g L
theorem sm_append (g:Coin→Int) (A B:List Coin):sm g (A++B)=sm g A+sm g B:=by
 induction A with
 | nil=>simp [sm]
 | cons a A ih=>simp only [List.cons_append,sm,ih];omega
theorem sm_perm {g:Coin→Int} {A B:List Coin} (h:A.Perm B):sm g A=sm g B:=by
 induction h with
 | nil=>rfl
 | cons x _ ih=>simp only [sm,ih]
 | swap x y l=>simp only [sm];omega
 | trans _ _ h1 h2=>rw [h1,h2]
theorem sm_congr {g h:Coin→Int} {A:List Coin} (e:∀ c∈A,g c=h c):sm g A=sm h A:=by
 induction A with
 | nil=>rfl
 | cons a A ih=>simp only [sm];rw [e a (by simp),ih fun c hc=>e c (by simp [hc])]
theorem sm_le {g h:Coin→Int} {A:List Coin} (e:∀ c∈A,g c≤h c):sm g A≤sm h A:=by
 induction A with
 | nil=>exact Int.le_refl _
 | cons a A ih=>simp only [sm];have:=e a (by simp);have:=ih fun c hc=>e c (by simp [hc]);omega
theorem sm_add (g h:Coin→Int) (A:List Coin):sm (fun c=>g c+h c) A=sm g A+sm h A:=by
 induction A with
 | nil=>rfl
 | cons a A ih=>simp only [sm,ih];omega
theorem sm_mul (k:Int) (g:Coin→Int) (A:List Coin):sm (fun c=>k*g c) A=k*sm g A:=by
 induction A with
 | nil=>simp [sm]
 | cons a A ih=>simp only [sm,ih,Int.mul_add]
theorem sm_const (k:Int) (A:List Coin):sm (fun _=>k) A=k*A.length:=by
 induction A with
 | nil=>simp [sm]
 | cons a A ih=>simp only [sm,ih,List.length_cons];push_cast;rw [Int.mul_add];omega
theorem sm_nonneg {g:Coin→Int} {A:List Coin} (e:∀ c∈A,0≤g c):0≤sm g A:=by
 have:=sm_le (g:=fun _=>0) (h:=g) (A:=A) e
 rw [sm_const] at this;omega
def wt (L:List Coin):Int:=sm Prod.fst L
theorem wt_cons (c:Coin) (L:List Coin):wt (c::L)=c.1+wt L:=rfl
theorem wt_append (A B:List Coin):wt (A++B)=wt A+wt B:=sm_append _ _ _
theorem wt_nil:wt []=0:=rfl
def Asc (L:List Coin):Prop:=L.Pairwise fun a b=>a.1≤b.1
def Pos (L:List Coin):Prop:=∀ c∈L,0<c.1
theorem Pos.nonneg {L:List Coin} (h:Pos L):0≤wt L:=sm_nonneg fun c hc=>Int.le_of_lt (h c hc)
theorem Pos.take {L:List Coin} (h:Pos L) (n:Nat):Pos (L.take n):=fun c hc=>h c (List.mem_of_mem_take hc)
theorem Pos.tail {c:Coin} {L:List Coin} (h:Pos (c::L)):Pos L:=fun x hx=>h x (by simp [hx])
theorem wt_take_le {L:List Coin} (h:Pos L) (n:Nat):wt (L.take n)≤wt L:=by
 have e:wt L=wt (L.take n)+wt (L.drop n):=by rw [← wt_append,List.take_append_drop]
 have:0≤wt (L.drop n):=Pos.nonneg fun c hc=>h c (List.mem_of_mem_drop hc)
 omega
def pairsOf:List Coin→List Coin
 | a::b::r=>(a.1+b.1,-1)::pairsOf r
 | _=>[]
def mergeC:List Coin→List Coin→List Coin
 | [],ps=>ps
 | s::ss,[]=>s::ss
 | s::ss,p::ps=>if s.1≤p.1 then s::mergeC ss (p::ps) else p::mergeC (s::ss) ps
termination_by a b=>a.length+b.length
theorem merge_nil (ps:List Coin):mergeC [] ps=ps:=by rw [mergeC]
theorem merge_nil' (ss:List Coin):mergeC ss []=ss:=by cases ss <;> rw [mergeC]
theorem merge_le {s p:Coin} (ss ps:List Coin) (h:s.1≤p.1):mergeC (s::ss) (p::ps)=s::mergeC ss (p::ps):=by rw [mergeC,if_pos h]
theorem merge_gt {s p:Coin} (ss ps:List Coin) (h:¬ s.1≤p.1):mergeC (s::ss) (p::ps)=p::mergeC (s::ss) ps:=by rw [mergeC,if_neg h]
theorem merge_ind {M:List Coin→List Coin→Prop} (h1:∀ ps,M [] ps) (h2:∀ ss,M ss []) (h3:∀ s ss p ps,s.1≤p.1→M ss (p::ps)→M (s::ss) (p::ps)) (h4:∀ s ss p ps,¬ s.1≤p.1→M (s::ss) ps→M (s::ss) (p::ps)):∀ ss ps,M ss ps:=by
 intro ss
 induction ss with
 | nil=>exact h1
 | cons s ss ih=>
   intro ps
   induction ps with
   | nil=>exact h2 _
   | cons p ps ih2=>
     by_cases h:s.1≤p.1
     ·exact h3 s ss p ps h (ih _)
     ·exact h4 s ss p ps h ih2
theorem merge_perm (ss ps:List Coin):(mergeC ss ps).Perm (ss++ps):=by
 refine merge_ind (M:=fun ss ps=>(mergeC ss ps).Perm (ss++ps)) (fun ps=>by rw [merge_nil];exact List.Perm.refl _) (fun ss=>by rw [merge_nil'];simp) (fun s ss p ps h ih=>?_) (fun s ss p ps h ih=>?_) ss ps
 ·rw [merge_le _ _ h];exact List.Perm.cons _ ih
 ·rw [merge_gt _ _ h]
  exact (List.Perm.cons _ ih).trans List.perm_middle.symm
theorem merge_length (ss ps:List Coin):(mergeC ss ps).length=ss.length+ps.length:=by
 rw [(merge_perm ss ps).length_eq,List.length_append]
theorem mem_merge {ss ps:List Coin} {c:Coin}:c∈mergeC ss ps↔c∈ss∨c∈ps:=by
 rw [(merge_perm ss ps).mem_iff,List.mem_append]
theorem merge_asc {ss ps:List Coin}:Asc ss→Asc ps→Asc (mergeC ss ps):=by
 refine merge_ind (M:=fun ss ps=>Asc ss→Asc ps→Asc (mergeC ss ps)) (fun ps _ h=>by rw [merge_nil];exact h) (fun ss h _=>by rw [merge_nil'];exact h) (fun s ss p ps h ih h1 h2=>?_) (fun s ss p ps h ih h1 h2=>?_) ss ps
 ·rw [merge_le _ _ h]
  have a:=List.pairwise_cons.1 h1
  have b:=List.pairwise_cons.1 h2
  refine List.pairwise_cons.2 ⟨fun c hc=>?_,ih a.2 h2⟩
  rcases mem_merge.1 hc with hc | hc
  ·exact a.1 c hc
  ·rcases List.mem_cons.1 hc with rfl | hc
   ·exact h
   ·exact Int.le_trans h (b.1 c hc)
 ·rw [merge_gt _ _ h]
  have a:=List.pairwise_cons.1 h1
  have b:=List.pairwise_cons.1 h2
  refine List.pairwise_cons.2 ⟨fun c hc=>?_,ih h1 b.2⟩
  rcases mem_merge.1 hc with hc | hc
  ·rcases List.mem_cons.1 hc with rfl | hc
   ·omega
   ·have:=a.1 c hc;omega
  ·exact b.1 c hc
theorem merge_take (ss ps:List Coin):∀ c,c≤ss.length+ps.length→∃ s p,s+p=c∧s≤ss.length∧p≤ps.length∧((mergeC ss ps).take c).Perm (ss.take s++ps.take p):=by
 refine merge_ind (M:=fun ss ps=>∀ c,c≤ss.length+ps.length→∃ s p,s+p=c∧s≤ss.length∧p≤ps.length∧((mergeC ss ps).take c).Perm (ss.take s++ps.take p)) (fun ps c hc=>?_) (fun ss c hc=>?_) (fun s ss p ps h ih c hc=>?_) (fun s ss p ps h ih c hc=>?_) ss ps
 ·exact ⟨0,c,by omega,by simp,by simpa using hc,by rw [merge_nil];simp⟩
 ·exact ⟨c,0,by omega,by simpa using hc,by simp,by rw [merge_nil'];simp⟩
 ·cases c with
  | zero=>exact ⟨0,0,rfl,by simp,by simp,by simp⟩
  | succ c=>
    obtain ⟨s',p',h1,h2,h3,h4⟩:=ih c (by simp at hc ⊢;omega)
    refine ⟨s'+1,p',by omega,by simp;omega,h3,?_⟩
    rw [merge_le _ _ h,List.take_succ_cons,List.take_succ_cons,List.cons_append]
    exact List.Perm.cons _ h4
 ·cases c with
  | zero=>exact ⟨0,0,rfl,by simp,by simp,by simp⟩
  | succ c=>
    obtain ⟨s',p',h1,h2,h3,h4⟩:=ih c (by simp at hc ⊢;omega)
    refine ⟨s',p'+1,by omega,h2,by simp;omega,?_⟩
    rw [merge_gt _ _ h,List.take_succ_cons,List.take_succ_cons]
    exact (List.Perm.cons _ h4).trans List.perm_middle.symm
theorem wt_first {x:Int} {L:List Coin} (hL:∀ c∈L,x≤c.1):∀ n,n<L.length→x+wt (L.take n)≤wt (L.take (n+1)):=by
 intro n hn
 rw [List.take_succ_eq_append_getElem hn,wt_append,wt_cons,wt_nil]
 have:=hL L[n] (List.getElem_mem hn)
 omega
theorem merge_least (ss ps:List Coin):Asc ss→Asc ps→Pos ss→Pos ps→∀ a q c,a≤ss.length→q≤ps.length→c≤a+q→wt ((mergeC ss ps).take c)≤wt (ss.take a)+wt (ps.take q):=by
 refine merge_ind (M:=fun ss ps=>Asc ss→Asc ps→Pos ss→Pos ps→∀ a q c,a≤ss.length→q≤ps.length→c≤a+q→wt ((mergeC ss ps).take c)≤wt (ss.take a)+wt (ps.take q)) (fun ps _ _ _ hp a q c ha hq hc=>?_) (fun ss _ _ hs _ a q c ha hq hc=>?_) (fun s ss p ps h ih h1 h2 h3 h4 a q c ha hq hc=>?_) (fun s ss p ps h ih h1 h2 h3 h4 a q c ha hq hc=>?_) ss ps
 ·rw [merge_nil]
  have:a=0:=by simpa using ha
  subst this
  have e:(ps.take c)=(ps.take q).take c:=by rw [List.take_take,Nat.min_eq_left (by omega)]
  rw [e]
  have:=wt_take_le (hp.take q) c
  simp [wt_nil];exact this
 ·rw [merge_nil']
  have:q=0:=by simpa using hq
  subst this
  have e:(ss.take c)=(ss.take a).take c:=by rw [List.take_take,Nat.min_eq_left (by omega)]
  rw [e]
  have:=wt_take_le (hs.take a) c
  simp [wt_nil];exact this
 ·have A:=List.pairwise_cons.1 h1
  have B:=List.pairwise_cons.1 h2
  cases c with
  | zero=>
    have:=(h3.take a).nonneg
    have:=(h4.take q).nonneg
    simp only [List.take_zero,wt_nil];omega
  | succ c=>
    rw [merge_le _ _ h,List.take_succ_cons,wt_cons]
    cases a with
    | succ a=>
      have:=ih A.2 h2 h3.tail h4 a q c (by simpa using ha) hq (by omega)
      rw [List.take_succ_cons,wt_cons];omega
    | zero=>
      cases q with
      | zero=>omega
      | succ q=>
        have e1:=ih A.2 h2 h3.tail h4 0 q c (by simp) (by omega) (by omega)
        have e2:=wt_first (x:=s.1) (L:=p::ps) (fun c hc=>by
         rcases List.mem_cons.1 hc with rfl | hc
         ·exact h
         ·exact Int.le_trans h (B.1 c hc)) q (by omega)
        simp only [List.take_zero,wt_nil] at e1 ⊢
        omega
 ·have A:=List.pairwise_cons.1 h1
  have B:=List.pairwise_cons.1 h2
  cases c with
  | zero=>
    have:=(h3.take a).nonneg
    have:=(h4.take q).nonneg
    simp only [List.take_zero,wt_nil];omega
  | succ c=>
    rw [merge_gt _ _ h,List.take_succ_cons,wt_cons]
    cases q with
    | succ q=>
      have:=ih h1 B.2 h3 h4.tail a q c ha (by simpa using hq) (by omega)
      rw [show (p::ps).take (q+1)=p::ps.take q from rfl,wt_cons];omega
    | zero=>
      cases a with
      | zero=>omega
      | succ a=>
        have e1:=ih h1 B.2 h3 h4.tail a 0 c (by omega) (by simp) (by omega)
        have e2:=wt_first (x:=p.1) (L:=s::ss) (fun c hc=>by
         rcases List.mem_cons.1 hc with rfl | hc
         ·omega
         ·have:=A.1 c hc;omega) a (by omega)
        simp only [List.take_zero,wt_nil] at e1 ⊢
        omega
theorem pairs_length:∀ L:List Coin,(pairsOf L).length=L.length/2
 | []=>rfl
 | [_]=>by simp [pairsOf]
 | a::b::r=>by simp only [pairsOf,List.length_cons,pairs_length r];omega
theorem pairs_sym:∀ L:List Coin,∀ c∈pairsOf L,c.2=-1
 | [],c,h=>by simp [pairsOf] at h
 | [_],c,h=>by simp [pairsOf] at h
 | a::b::r,c,h=>by
   simp only [pairsOf,List.mem_cons] at h
   rcases h with rfl | h
   ·rfl
   ·exact pairs_sym r c h
theorem pairs_le (m:Int):∀ L:List Coin,(∀ c∈L,c.1≤m)→∀ c∈pairsOf L,c.1≤2*m
 | [],_,c,h=>by simp [pairsOf] at h
 | [_],_,c,h=>by simp [pairsOf] at h
 | a::b::r,hm,c,h=>by
   simp only [pairsOf,List.mem_cons] at h
   rcases h with rfl | h
   ·have:=hm a (by simp);have:=hm b (by simp);simp only;omega
   ·exact pairs_le m r (fun c hc=>hm c (by simp [hc])) c h
theorem pairs_ge (m:Int):∀ L:List Coin,(∀ c∈L,m≤c.1)→∀ c∈pairsOf L,2*m≤c.1
 | [],_,c,h=>by simp [pairsOf] at h
 | [_],_,c,h=>by simp [pairsOf] at h
 | a::b::r,hm,c,h=>by
   simp only [pairsOf,List.mem_cons] at h
   rcases h with rfl | h
   ·have:=hm a (by simp);have:=hm b (by simp);simp only;omega
   ·exact pairs_ge m r (fun c hc=>hm c (by simp [hc])) c h
theorem pairs_pos {L:List Coin} (h:Pos L):Pos (pairsOf L):=fun c hc=>by
 have:=pairs_ge 1 L (fun c hc=>by have:=h c hc;omega) c hc;omega
theorem pairs_asc:∀ L:List Coin,Asc L→Asc (pairsOf L)
 | [],_=>List.Pairwise.nil
 | [_],_=>List.Pairwise.nil
 | a::b::r,h=>by
   have h1:=List.pairwise_cons.1 h
   have h2:=List.pairwise_cons.1 h1.2
   refine List.pairwise_cons.2 ⟨fun c hc=>?_,pairs_asc r h2.2⟩
   have h3:=pairs_ge b.1 r h2.1 c hc
   have:=h1.1 b (by simp)
   simp only;omega
theorem pairs_wt:∀ (L:List Coin) (p:Nat),p≤(pairsOf L).length→wt ((pairsOf L).take p)=wt (L.take (2*p))
 | [],p,_=>by simp [pairsOf]
 | [x],p,h=>by
   have:p=0:=by simpa [pairsOf] using h
   subst this;simp
 | a::b::r,0,_=>by simp
 | a::b::r,p+1,h=>by
   rw [pairsOf,List.take_succ_cons,show 2*(p+1)=2*p+1+1 by omega,List.take_succ_cons,List.take_succ_cons,wt_cons,wt_cons,wt_cons,pairs_wt r p (by simpa [pairsOf] using h)]
   omega
def rowC (S:List Coin):Nat→List Coin
 | 0=>S
 | k+1=>mergeC S (pairsOf (rowC S k))
theorem row_len (S:List Coin) (k:Nat):(rowC S (k+1)).length=S.length+(rowC S k).length/2:=by
 rw [rowC,merge_length,pairs_length]
theorem row_asc {S:List Coin} (h:Asc S):∀ k,Asc (rowC S k)
 | 0=>h
 | k+1=>merge_asc h (pairs_asc _ (row_asc h k))
theorem row_pos {S:List Coin} (h:Pos S):∀ k,Pos (rowC S k)
 | 0=>h
 | k+1=>fun c hc=>by
   rcases mem_merge.1 hc with hc | hc
   ·exact h c hc
   ·exact pairs_pos (row_pos h k) c hc
theorem row_sym {S:List Coin}:∀ k,∀ c∈rowC S k,c∈S∨c.2=-1
 | 0,c,hc=>.inl hc
 | k+1,c,hc=>by
   rcases mem_merge.1 hc with hc | hc
   ·exact .inl hc
   ·exact .inr (pairs_sym _ c hc)
theorem row_le {S:List Coin} {m:Int} (hm:0≤m) (h:∀ c∈S,c.1≤m):∀ k,∀ c∈rowC S k,c.1≤2^k*m
 | 0,c,hc=>by simpa using h c hc
 | k+1,c,hc=>by
   have e:(2:Int)^(k+1)*m=2*(2^k*m):=by rw [Int.pow_succ];rw [Int.mul_comm (2^k) 2,Int.mul_assoc]
   rw [e]
   rcases mem_merge.1 hc with hc | hc
   ·have h1:=h c hc
    have h2:m≤2^k*m:=by
     have:(1:Int)≤2^k:=by
      have e:(2:Int)^k=((2^k:Nat):Int):=by simp
      have:=Nat.one_le_two_pow (n:=k)
      rw [e];omega
     have:=Int.mul_le_mul_of_nonneg_right this hm
     omega
    omega
   ·exact pairs_le _ _ (row_le hm h k) c hc
theorem row_more {S:List Coin} {k D D':Nat} (h:2*S.length-2≤(rowC S k).length+D) (hD:D≤2*D'+2):2*S.length-2≤(rowC S (k+1)).length+D':=by
 rw [row_len];omega
theorem row_big {S:List Coin} (h3:S.length≤300):2*S.length-2≤(rowC S 14).length:=by
 have l0:2*S.length-2≤(rowC S 0).length+298:=by rw [rowC];omega
 have l1:=row_more (D':=148) l0 (by decide)
 have l2:=row_more (D':=73) l1 (by decide)
 have l3:=row_more (D':=36) l2 (by decide)
 have l4:=row_more (D':=17) l3 (by decide)
 have l5:=row_more (D':=8) l4 (by decide)
 have l6:=row_more (D':=3) l5 (by decide)
 have l7:=row_more (D':=1) l6 (by decide)
 have l8:=row_more (D':=0) l7 (by decide)
 have l9:=row_more (D':=0) l8 (by decide)
 have l10:=row_more (D':=0) l9 (by decide)
 have l11:=row_more (D':=0) l10 (by decide)
 have l12:=row_more (D':=0) l11 (by decide)
 have l13:=row_more (D':=0) l12 (by decide)
 have l14:=row_more (D':=0) l13 (by decide)
 simpa using l14
theorem row_small (S:List Coin) (k:Nat):(rowC S k).length≤2*S.length:=by
 induction k with
 | zero=>simp [rowC];omega
 | succ k ih=>rw [row_len];omega
end Pl
namespace Pl
def cntS (x:Int):List Coin→Nat
 | []=>0
 | c::L=>(if c.2=x then 1 else 0)+cntS x L
theorem cntS_append (x:Int) (A B:List Coin):cntS x (A++B)=cntS x A+cntS x B:=by
 induction A with
 | nil=>simp [cntS]
 | cons a A ih=>simp only [List.cons_append,cntS,ih];omega
theorem cntS_perm {x:Int} {A B:List Coin} (h:A.Perm B):cntS x A=cntS x B:=by
 induction h with
 | nil=>rfl
 | cons x _ ih=>simp only [cntS,ih]
 | swap x y l=>simp only [cntS];omega
 | trans _ _ h1 h2=>rw [h1,h2]
theorem cntS_none {x:Int} {L:List Coin} (h:∀ c∈L,c.2≠x):cntS x L=0:=by
 induction L with
 | nil=>rfl
 | cons a L ih=>simp only [cntS];rw [if_neg (h a (by simp)),ih fun c hc=>h c (by simp [hc])]
theorem cntS_all {x:Int} {L:List Coin} (h:∀ c∈L,c.2=x):cntS x L=L.length:=by
 induction L with
 | nil=>rfl
 | cons a L ih=>simp only [cntS,List.length_cons];rw [if_pos (h a (by simp)),ih fun c hc=>h c (by simp [hc])];omega
def lenK (S:List Coin):Nat→Nat→Int→Nat
 | 0,c,x=>cntS x (S.take c)
 | k+1,c,x=>cntS x ((rowC S (k+1)).take c)+lenK S k (2*cntS (-1) ((rowC S (k+1)).take c)) x
def worK (S:List Coin):Nat→Nat→Int→Nat
 | 0,c,x=>cntS x (S.take c)
 | k+1,c,x=>2^(k+1)*cntS x ((rowC S (k+1)).take c)+worK S k (2*cntS (-1) ((rowC S (k+1)).take c)) x
structure Good (S:List Coin):Prop where
 asc:Asc S
 pos:Pos S
 sym:∀ c∈S,0≤c.2
 nodup:S.Pairwise fun a b=>a.2≠b.2
theorem take_parts {S:List Coin} (G:Good S) (k c:Nat) (hc:c≤(rowC S (k+1)).length):∃ s p,s+p=c∧s≤S.length∧2*p≤(rowC S k).length∧cntS (-1) ((rowC S (k+1)).take c)=p∧
  (∀ x,0≤x→cntS x ((rowC S (k+1)).take c)=cntS x (S.take s))∧wt ((rowC S (k+1)).take c)=wt (S.take s)+wt ((rowC S k).take (2*p)):=by
 rw [rowC,merge_length] at hc
 obtain ⟨s,p,h1,h2,h3,h4⟩:=merge_take S (pairsOf (rowC S k)) c hc
 have h5:2*p≤(rowC S k).length:=by rw [pairs_length] at h3;omega
 have hall:∀ q∈(pairsOf (rowC S k)).take p,q.2=-1:=fun q hq=>pairs_sym _ q (List.mem_of_mem_take hq)
 refine ⟨s,p,h1,h2,h5,?_,fun x hx=>?_,?_⟩
 ·rw [rowC,cntS_perm h4,cntS_append,cntS_none fun q hq=>by have:=G.sym q (List.mem_of_mem_take hq);omega,cntS_all hall,List.length_take]
  omega
 ·rw [rowC,cntS_perm h4,cntS_append,cntS_none (L:=(pairsOf (rowC S k)).take p) fun q hq=>by have:=hall q hq;omega]
  rfl
 ·rw [rowC]
  show sm _ _=_
  rw [sm_perm h4,sm_append]
  show wt _+wt _=_
  rw [pairs_wt _ _ h3]
theorem sm_cnt (g:Coin→Int):∀ (S:List Coin),(S.Pairwise fun a b=>a.2≠b.2)→∀ i,sm (fun c=>g c*cntS c.2 (S.take i)) S=sm g (S.take i)
 | [],_,i=>by simp [sm]
 | s::S,h,0=>by
   have:sm (fun c=>g c*(cntS c.2 ((s::S).take 0):Nat)) (s::S)=sm (fun _=>0) (s::S):=sm_congr fun c _=>by simp [cntS]
   rw [this,sm_const];simp [sm]
 | s::S,h,i+1=>by
   have hp:=List.pairwise_cons.1 h
   simp only [List.take_succ_cons,sm]
   have h1:cntS s.2 (S.take i)=0:=cntS_none fun c hc=>Ne.symm (hp.1 c (List.mem_of_mem_take hc))
   have h2:sm (fun c=>g c*(cntS c.2 (s::S.take i):Nat)) S=sm (fun c=>g c*(cntS c.2 (S.take i):Nat)) S:=sm_congr fun c hc=>by
    simp only [cntS];rw [if_neg (hp.1 c hc)];simp
   rw [h2,sm_cnt g S hp.2 i]
   simp only [cntS]
   rw [if_pos trivial,h1]
   simp
theorem cost_row {S:List Coin} (G:Good S):∀ k c,c≤(rowC S k).length→sm (fun s=>s.1*lenK S k c s.2) S=wt ((rowC S k).take c)
 | 0,c,_=>sm_cnt Prod.fst S G.nodup c
 | k+1,c,hc=>by
   obtain ⟨s,p,h1,h2,h3,h4,h5,h6⟩:=take_parts G k c hc
   rw [h6,← cost_row G k (2*p) h3]
   show _=sm Prod.fst (S.take s)+_
   rw [← sm_cnt Prod.fst S G.nodup s,← sm_add]
   refine sm_congr fun x hx=>?_
   simp only [lenK,h4]
   rw [h5 x.2 (G.sym x hx)]
   push_cast
   rw [Int.mul_add]
theorem worth_row {S:List Coin} (G:Good S):∀ k c,c≤(rowC S k).length→sm (fun s=>(worK S k c s.2:Nat)) S=c*2^k
 | 0,c,hc=>by
   have h:=sm_cnt (fun _=>1) S G.nodup c
   have e:sm (fun s=>((worK S 0 c s.2:Nat):Int)) S=sm (fun s=>1*((cntS s.2 (S.take c):Nat):Int)) S:=sm_congr fun x _=>by simp [worK]
   rw [e,h,sm_const]
   simp only [rowC] at hc
   rw [List.length_take,Nat.min_eq_left hc]
   simp
 | k+1,c,hc=>by
   obtain ⟨s,p,h1,h2,h3,h4,h5,h6⟩:=take_parts G k c hc
   have e:sm (fun x=>((worK S (k+1) c x.2:Nat):Int)) S=sm (fun x=>(2^(k+1):Int)*((fun _=>(1:Int)) x*((cntS x.2 (S.take s):Nat):Int))+((worK S k (2*p) x.2:Nat):Int)) S:=sm_congr fun x hx=>by
    simp only [worK,h4]
    rw [h5 x.2 (G.sym x hx)]
    push_cast
    rw [Int.one_mul]
   rw [e,sm_add,sm_mul,sm_cnt _ S G.nodup s,sm_const,worth_row G k (2*p) h3,List.length_take,Nat.min_eq_left h2,← h1,Int.pow_succ]
   push_cast
   rw [Int.one_mul,Int.add_mul,Int.mul_comm (2^k*2:Int) (s:Int)]
   congr 1
   rw [Int.mul_comm 2 (p:Int),Int.mul_assoc,Int.mul_comm 2 (2^k:Int)]
theorem cnt_one {S:List Coin} (h:S.Pairwise fun a b=>a.2≠b.2) (x:Int):cntS x S≤1:=by
 induction S with
 | nil=>simp [cntS]
 | cons s S ih=>
   have hp:=List.pairwise_cons.1 h
   simp only [cntS]
   by_cases e:s.2=x
   ·rw [if_pos e,cntS_none fun c hc=>by rw [← e];exact Ne.symm (hp.1 c hc)]
    omega
   ·rw [if_neg e];have:=ih hp.2;omega
theorem wor_le {S:List Coin} (G:Good S) (x:Int) (hx:0≤x):∀ k c,c≤(rowC S k).length→lenK S k c x≤k+1∧worK S k c x+2^(k+1-lenK S k c x)≤2^(k+1)
 | 0,c,_=>by
   have h:=cnt_one (G.nodup.sublist (List.take_sublist c S)) x
   simp only [lenK,worK]
   generalize cntS x (S.take c)=a at*
   rcases (show a=0∨a=1 by omega) with rfl | rfl <;> simp
 | k+1,c,hc=>by
   obtain ⟨s,p,h1,h2,h3,h4,h5,h6⟩:=take_parts G k c hc
   have h:=cnt_one (G.nodup.sublist (List.take_sublist s S)) x
   obtain ⟨i1,i2⟩:=wor_le G x hx k (2*p) h3
   simp only [lenK,worK,h4,h5 x hx]
   generalize cntS x (S.take s)=a at*
   generalize lenK S k (2*p) x=L at*
   generalize worK S k (2*p) x=W at*
   have e2:2^(k+1+1)=2*2^(k+1):=by rw [Nat.pow_succ,Nat.mul_comm]
   rcases (show a=0∨a=1 by omega) with rfl | rfl
   ·have e:k+1+1-(0+L)=(k+1-L)+1:=by omega
    have hm:2^(k+1-L)≤2^(k+1):=Nat.pow_le_pow_right (by omega) (by omega)
    rw [e,Nat.pow_succ,e2]
    refine ⟨by omega,?_⟩
    rw [Nat.mul_zero]
    omega
   ·have e:k+1+1-(1+L)=k+1-L:=by omega
    rw [e,e2,Nat.mul_one]
    exact ⟨by omega,by omega⟩
theorem sm_drop {g:Coin→Int} {M:Int} (hM:0≤M) {S:List Coin} {s0:Coin} (h0:s0∈S) (h1:g s0≤0) (h2:∀ c∈S,g c≤M):sm g S≤M*((S.length:Int)-1):=by
 induction S with
 | nil=>simp at h0
 | cons s S ih=>
   have e:M*(((s::S).length:Nat)-1:Int)=M*S.length:=by simp
   rw [e]
   simp only [sm]
   rcases List.mem_cons.1 h0 with rfl | h0
   ·have:sm g S≤sm (fun _=>M) S:=sm_le fun c hc=>h2 c (by simp [hc])
    rw [sm_const] at this
    omega
   ·have h3:=ih h0 fun c hc=>h2 c (by simp [hc])
    have h4:=h2 s (by simp)
    rw [Int.mul_sub,Int.mul_one] at h3
    omega
def lenOf (S:List Coin) (x:Int):Nat:=lenK S 14 (2*S.length-2) x
def leastOf (S:List Coin):Int:=wt ((rowC S 14).take (2*S.length-2))
theorem lenOf_cost {S:List Coin} (G:Good S) (h300:S.length≤300):sm (fun s=>s.1*lenOf S s.2) S=leastOf S:=cost_row G 14 _ (row_big h300)
theorem lenOf_le {S:List Coin} (G:Good S) (h300:S.length≤300) (x:Int) (hx:0≤x):lenOf S x≤15:=(wor_le G x hx 14 _ (row_big h300)).1
theorem lenOf_kraft {S:List Coin} (G:Good S) (h2:2≤S.length) (h300:S.length≤300):sm (fun s=>((2^(15-lenOf S s.2):Nat):Int)) S≤32768:=by
 have h1:=worth_row G 14 _ (row_big h300)
 have h3:sm (fun s=>((worK S 14 (2*S.length-2) s.2:Nat):Int)+((2^(15-lenOf S s.2):Nat):Int)) S≤sm (fun _=>32768) S:=sm_le fun s hs=>by
  have:=(wor_le G s.2 (G.sym s hs) 14 _ (row_big h300)).2
  unfold lenOf
  simp only [Nat.reduceAdd] at this
  have e:(2:Nat)^15=32768:=by decide
  omega
 rw [sm_add,h1,sm_const] at h3
 have e:(((2*S.length-2:Nat):Int))*2^14=32768*S.length-32768:=by
  have e14:(2:Int)^14=16384:=by decide
  rw [e14];omega
 rw [e] at h3
 omega
theorem lenOf_pos {S:List Coin} (G:Good S) (h2:2≤S.length) (h300:S.length≤300) {s:Coin} (hs:s∈S):1≤lenOf S s.2:=by
 apply Classical.byContradiction
 intro hn
 have h0:lenOf S s.2=0:=by omega
 have hb:=fun c (hc:c∈S)=>wor_le G c.2 (G.sym c hc) 14 _ (row_big h300)
 have hw:((worK S 14 (2*S.length-2) s.2:Nat):Int)≤0:=by
  have:=(hb s hs).2
  unfold lenOf at h0
  rw [h0] at this
  simp only [Nat.reduceAdd,Nat.sub_zero] at this
  omega
 have h:=sm_drop (g:=fun c=>((worK S 14 (2*S.length-2) c.2:Nat):Int)) (M:=32767) (by omega) hs hw fun c hc=>by
  have h1:=(hb c hc).2
  have h2:1≤2^(14+1-lenK S 14 (2*S.length-2) c.2):=Nat.one_le_two_pow
  have e:(2:Nat)^(14+1)=32768:=by decide
  omega
 rw [worth_row G 14 _ (row_big h300)] at h
 have e14:(2:Int)^14=16384:=by decide
 rw [e14] at h
 omega
def vK:Nat→Nat→Nat
 | 0,m=>if 15≤m then 1 else 0
 | k+1,m=>2^(k+1)*(if 15≤m+(k+1) then 1 else 0)+vK k m
def nK:Nat→Nat→Nat
 | 0,m=>if 15≤m then 1 else 0
 | k+1,m=>(if 15≤m+(k+1) then 1 else 0)+nK k m
theorem vK_all:∀ m,m<16→vK 14 m+2^(15-m)=32768:=by decide
theorem nK_all:∀ m,m<16→nK 14 m=m:=by decide
theorem sub_least {X S:List Coin} (h:X.Sublist S):Asc S→Pos S→wt (S.take X.length)≤wt X:=by
 induction h with
 | slnil=>intro _ _;exact Int.le_refl _
 | @cons X S s h ih=>
   intro ha hp
   have hc:=List.pairwise_cons.1 ha
   have h1:=ih hc.2 hp.tail
   cases hX:X.length with
   | zero=>rw [List.length_eq_zero_iff] at hX;subst hX;simp
   | succ n=>
     have hl:=h.length_le
     have h2:=wt_first (x:=s.1) (L:=S) hc.1 n (by omega)
     rw [hX] at h1
     rw [List.take_succ_cons,wt_cons]
     omega
 | @cons_cons X S s h ih=>
   intro ha hp
   have hc:=List.pairwise_cons.1 ha
   have:=ih hc.2 hp.tail
   rw [List.length_cons,List.take_succ_cons,wt_cons,wt_cons]
   omega
theorem sm_pick (p:Coin→Bool) (g:Coin→Int) (S:List Coin):sm (fun c=>g c*(if p c then 1 else 0)) S=sm g (S.filter p):=by
 induction S with
 | nil=>rfl
 | cons s S ih=>
   simp only [sm,ih]
   cases h:p s with
   | true=>rw [List.filter_cons_of_pos h];simp [sm]
   | false=>rw [List.filter_cons_of_neg (by simp [h])];simp
theorem opt_row {S:List Coin} (G:Good S) (m:Int→Nat):∀ (k q:Nat),(q:Int)*2^k≤sm (fun s=>((vK k (m s.2):Nat):Int)) S→q≤(rowC S k).length∧wt ((rowC S k).take q)≤sm (fun s=>s.1*((nK k (m s.2):Nat):Int)) S
 | 0,q,h=>by
   have e1:sm (fun s=>((vK 0 (m s.2):Nat):Int)) S=sm (fun s=>(1:Int)*(if decide (15≤m s.2) then 1 else 0)) S:=sm_congr fun s _=>by by_cases c:15≤m s.2 <;> simp [vK,c]
   have e2:sm (fun s=>s.1*((nK 0 (m s.2):Nat):Int)) S=sm (fun s=>s.1*(if decide (15≤m s.2) then 1 else 0)) S:=sm_congr fun s _=>by by_cases c:15≤m s.2 <;> simp [nK,c]
   have f1:=sm_pick (fun s:Coin=>decide (15≤m s.2)) (fun _=>1) S
   have f2:=sm_pick (fun s:Coin=>decide (15≤m s.2)) Prod.fst S
   rw [e1,f1,sm_const] at h
   rw [e2,f2]
   have hsub:=List.filter_sublist (p:=fun s:Coin=>decide (15≤m s.2)) (l:=S)
   generalize S.filter (fun s:Coin=>decide (15≤m s.2))=X at*
   have hl:=hsub.length_le
   have hq:q≤X.length:=by simp at h;omega
   refine ⟨by rw [rowC];omega,?_⟩
   rw [rowC,show S.take q=(S.take X.length).take q by rw [List.take_take,Nat.min_eq_left hq]]
   exact Int.le_trans (wt_take_le (G.pos.take _) _) (sub_least hsub G.asc G.pos)
 | k+1,q,h=>by
   have e1:sm (fun s=>((vK (k+1) (m s.2):Nat):Int)) S=sm (fun s=>(2^(k+1):Int)*((1:Int)*(if decide (15≤m s.2+(k+1)) then 1 else 0))+((vK k (m s.2):Nat):Int)) S:=sm_congr fun s _=>by
    simp only [vK];push_cast;by_cases c:15≤m s.2+(k+1) <;> simp [c]
   have e2:sm (fun s=>s.1*((nK (k+1) (m s.2):Nat):Int)) S=sm (fun s=>s.1*(if decide (15≤m s.2+(k+1)) then 1 else 0)+s.1*((nK k (m s.2):Nat):Int)) S:=sm_congr fun s _=>by
    simp only [nK];push_cast;rw [← Int.mul_add];by_cases c:15≤m s.2+(k+1) <;> simp [c]
   have f1:=sm_pick (fun s:Coin=>decide (15≤m s.2+(k+1))) (fun _=>1) S
   have f2:=sm_pick (fun s:Coin=>decide (15≤m s.2+(k+1))) Prod.fst S
   rw [e1,sm_add,sm_mul,f1,sm_const] at h
   rw [e2,sm_add,f2]
   have hsub:=List.filter_sublist (p:=fun s:Coin=>decide (15≤m s.2+(k+1))) (l:=S)
   generalize S.filter (fun s:Coin=>decide (15≤m s.2+(k+1)))=X at*
   have hl:=hsub.length_le
   have hih:=opt_row G m k (2*(q-X.length)) (by
    by_cases c:q≤X.length
    ·rw [Nat.sub_eq_zero_of_le c]
     have:0≤sm (fun s=>((vK k (m s.2):Nat):Int)) S:=sm_nonneg fun s _=>by omega
     simpa using this
    ·have e:(((2*(q-X.length):Nat)):Int)*2^k=(q:Int)*2^(k+1)-2^(k+1)*(X.length:Int):=by
      rw [show (((2*(q-X.length):Nat)):Int)=2*((q:Int)-X.length) by omega,Int.pow_succ,Int.mul_comm ((2:Int)^k*2) (X.length:Int),← Int.sub_mul,Int.mul_comm (2^k) 2,← Int.mul_assoc,Int.mul_comm 2]
     rw [e,Int.one_mul] at*
     omega)
   have hp:q-X.length≤(pairsOf (rowC S k)).length:=by rw [pairs_length];omega
   have hm:=merge_least S (pairsOf (rowC S k)) G.asc (pairs_asc _ (row_asc G.asc k)) G.pos (pairs_pos (row_pos G.pos k)) X.length (q-X.length) q hl hp (by omega)
   rw [pairs_wt _ _ hp] at hm
   have hx:=sub_least hsub G.asc G.pos
   have hx':wt (S.take X.length)≤sm Prod.fst X:=hx
   refine ⟨by rw [rowC,merge_length];omega,?_⟩
   rw [rowC]
   omega
theorem optimal {S:List Coin} (G:Good S) (m:Int→Nat) (h15:∀ s∈S,m s.2≤15) (hk:sm (fun s=>((2^(15-m s.2):Nat):Int)) S≤32768) (h2:1≤S.length):leastOf S≤sm (fun s=>s.1*(m s.2:Nat)) S:=by
 have e1:sm (fun s=>((vK 14 (m s.2):Nat):Int)) S+sm (fun s=>((2^(15-m s.2):Nat):Int)) S=32768*S.length:=by
  rw [← sm_add,← sm_const]
  refine sm_congr fun s hs=>?_
  have:=vK_all (m s.2) (by have:=h15 s hs;omega)
  omega
 have e2:sm (fun s=>s.1*((nK 14 (m s.2):Nat):Int)) S=sm (fun s=>s.1*(m s.2:Nat)) S:=sm_congr fun s hs=>by
  rw [nK_all (m s.2) (by have:=h15 s hs;omega)]
 rw [← e2]
 refine (opt_row G m 14 (2*S.length-2) ?_).2
 have e14:(2:Int)^14=16384:=by decide
 rw [e14]
 omega
end Pl
namespace Pl
def bump:List Int→List Coin→List Int
 | l,[]=>l
 | l,c::T=>bump (if c.2=-1 then l else l.set c.2.toNat (l.getD c.2.toNat 0+1)) T
theorem bump_append (l:List Int) (A B:List Coin):bump l (A++B)=bump (bump l A) B:=by
 induction A generalizing l with
 | nil=>rfl
 | cons a A ih=>exact ih _
theorem bump_length (l:List Int) (T:List Coin):(bump l T).length=l.length:=by
 induction T generalizing l with
 | nil=>rfl
 | cons c T ih=>
   rw [bump,ih]
   split
   ·rfl
   ·simp
def SymOk (m:Nat) (T:List Coin):Prop:=∀ c∈T,c.2=-1∨(0≤c.2∧c.2<m)
theorem getD_set_int (l:List Int) (i j:Nat) (v:Int) (hi:i<l.length):(l.set i v).getD j 0=if j=i then v else l.getD j 0:=by
 simp only [List.getD_eq_getElem?_getD,List.getElem?_set]
 by_cases e:j=i
 ·subst e;simp [hi]
 ·rw [if_neg (Ne.symm e),if_neg e]
theorem bump_get (l:List Int) (T:List Coin) (h:SymOk l.length T) (x:Nat) (hx:x<l.length):(bump l T).getD x 0=l.getD x 0+cntS x T:=by
 induction T generalizing l with
 | nil=>simp [bump,cntS]
 | cons c T ih=>
   rw [bump,cntS]
   have hc:=h c (by simp)
   by_cases e:c.2=-1
   ·rw [if_pos e,ih l (fun c hc=>h c (by simp [hc])) hx,if_neg (by omega)]
    simp
   ·rw [if_neg e]
    have hc':=hc.resolve_left e
    rw [ih _ (fun c hc=>by rw [List.length_set];exact h c (by simp [hc])) (by simpa using hx),getD_set_int _ _ _ _ (by omega)]
    by_cases e2:c.2=(x:Int)
    ·rw [if_pos (by omega),if_pos e2]
     rw [show c.2.toNat=x by omega]
     push_cast;omega
    ·rw [if_neg (by omega),if_neg e2]
     simp
theorem bump_bound (l:List Int) (T:List Coin) (M:Int) (hM:0≤M) (h:∀ v∈l,0≤v∧v≤M):∀ v∈bump l T,0≤v∧v≤M+T.length:=by
 induction T generalizing l M with
 | nil=>intro v hv;have:=h v hv;simp;exact this
 | cons c T ih=>
   intro v hv
   rw [bump] at hv
   have:=ih _ (M+1) (by omega) (fun v hv=>?_) v hv
   ·simp only [List.length_cons];push_cast;omega
   ·split at hv
    ·have:=h v hv;omega
    ·rcases List.mem_or_eq_of_mem_set hv with hv | rfl
     ·have:=h v hv;omega
     ·by_cases e:c.2.toNat<l.length
      ·have:=h (l.getD c.2.toNat 0) (by rw [List.getD_eq_getElem?_getD,List.getElem?_eq_getElem e];exact List.getElem_mem _)
       omega
      ·rw [List.getD_eq_getElem?_getD,List.getElem?_eq_none (by omega)]
       simp;omega
def st (S:List Coin) (l0:List Int) (c0:Nat):Nat→List Int×Nat
 | 0=>(l0,c0)
 | k+1=>(bump (st S l0 c0 k).1 ((rowC S (14-k)).take (st S l0 c0 k).2),2*cntS (-1) ((rowC S (14-k)).take (st S l0 c0 k).2))
theorem st_length (S:List Coin) (l0:List Int) (c0:Nat):∀ k,(st S l0 c0 k).1.length=l0.length
 | 0=>rfl
 | k+1=>by rw [st,bump_length,st_length S l0 c0 k]
theorem row_ok {S:List Coin} {m:Nat} (h:∀ c∈S,0≤c.2∧c.2<m) (k c:Nat):SymOk m ((rowC S k).take c):=fun x hx=>by
 rcases row_sym k x (List.mem_of_mem_take hx) with h1 | h1
 ·exact .inr (h x h1)
 ·exact .inl h1
theorem st_count {S:List Coin} (G:Good S) (l0:List Int) (c0:Nat) (h0:c0≤(rowC S 14).length):∀ k,k≤14→(st S l0 c0 k).2≤(rowC S (14-k)).length
 | 0,_=>h0
 | k+1,hk=>by
   have ih:=st_count G l0 c0 h0 k (by omega)
   rw [st]
   obtain ⟨j,hj⟩:∃ j,14-k=j+1:=⟨14-k-1,by omega⟩
   rw [hj] at ih ⊢
   obtain ⟨s,p,h1,h2,h3,h4,_⟩:=take_parts G j _ ih
   rw [h4,show 14-(k+1)=j by omega]
   exact h3
theorem st_small {S:List Coin} (hS:S.length≤300) (l0:List Int) (c0:Nat) (h:∀ v∈l0,v=0):∀ k,∀ v∈(st S l0 c0 k).1,0≤v∧v≤600*(k:Int)
 | 0=>fun v hv=>by have:=h v hv;omega
 | k+1=>fun v hv=>by
   have:=bump_bound _ ((rowC S (14-k)).take (st S l0 c0 k).2) (600*(k:Int)) (by omega) (st_small hS l0 c0 h k) v hv
   have h2:((rowC S (14-k)).take (st S l0 c0 k).2).length≤600:=by
    have:=row_small S (14-k)
    rw [List.length_take];omega
   push_cast
   omega
theorem st_final {S:List Coin} {m:Nat} (hs:∀ c∈S,0≤c.2∧c.2<m) (l0:List Int) (hm:l0.length=m) (c0 x:Nat) (hx:x<m):∀ j,j≤14→(st S l0 c0 15).1.getD x 0=(st S l0 c0 (14-j)).1.getD x 0+lenK S j (st S l0 c0 (14-j)).2 x
 | 0,_=>by
   show (st S l0 c0 (14+1)).1.getD x 0=_
   rw [st,bump_get _ _ (by rw [st_length,hm];exact row_ok hs _ _) x (by rw [st_length,hm];exact hx)]
   rfl
 | j+1,hj=>by
   have ih:=st_final hs l0 hm c0 x hx j (by omega)
   rw [ih]
   obtain ⟨k,hk⟩:∃ k,14-(j+1)=k:=⟨_,rfl⟩
   rw [show 14-j=k+1 by omega,hk,st,bump_get _ _ (by rw [st_length,hm];exact row_ok hs _ _) x (by rw [st_length,hm];exact hx),lenK,show 14-k=j+1 by omega]
   push_cast
   omega
theorem st_lens {S:List Coin} {m:Nat} (hs:∀ c∈S,0≤c.2∧c.2<m) (x:Nat) (hx:x<m):(st S (List.replicate m 0) (2*S.length-2) 15).1.getD x 0=lenOf S x:=by
 have:=st_final hs (List.replicate m 0) (by simp) (2*S.length-2) x hx 14 (by omega)
 rw [this,show 14-14=0 from rfl]
 simp only [st,lenOf]
 have e:(List.replicate m (0:Int)).getD x 0=0:=by simp [List.getD,hx]
 rw [e];omega
end Pl
namespace Pl
theorem lenK_zero {S:List Coin} {x:Int} (hx:0≤x) (h:∀ s∈S,s.2≠x):∀ k c,lenK S k c x=0
 | 0,c=>cntS_none fun s hs=>h s (List.mem_of_mem_take hs)
 | k+1,c=>by
   rw [lenK,lenK_zero hx h k,cntS_none fun s hs=>?_]
   rcases row_sym (k+1) s (List.mem_of_mem_take hs) with h1 | h1
   ·exact h s h1
   ·omega
structure OptLen (S:List Coin) (l:Int→Nat):Prop where
 ok:∀ s∈S,1≤l s.2∧l s.2≤15
 kraft:sm (fun s=>((2^(15-l s.2):Nat):Int)) S≤32768
 opt:∀ m:Int→Nat,(∀ s∈S,m s.2≤15)→sm (fun s=>((2^(15-m s.2):Nat):Int)) S≤32768→sm (fun s=>s.1*(l s.2:Nat)) S≤sm (fun s=>s.1*(m s.2:Nat)) S
theorem optLen {S:List Coin} (G:Good S) (h2:2≤S.length) (h3:S.length≤300):OptLen S (fun x=>lenOf S x):=
 ⟨fun s hs=>⟨lenOf_pos G h2 h3 hs,lenOf_le G h3 _ (G.sym s hs)⟩,lenOf_kraft G h2 h3,fun m h15 hk=>by rw [lenOf_cost G h3];exact optimal G m h15 hk (by omega)⟩
theorem OptLen.perm {S S':List Coin} {l:Int→Nat} (h:OptLen S l) (p:S.Perm S'):OptLen S' l:=
 ⟨fun s hs=>h.ok s (p.mem_iff.2 hs),by rw [← sm_perm p];exact h.kraft,fun m h15 hk=>by
  rw [← sm_perm p,← sm_perm p]
  exact h.opt m (fun s hs=>h15 s (p.mem_iff.1 hs)) (by rw [sm_perm p];exact hk)⟩
end Pl
end Go.Proofs.YtmjpnbadfmgimaaGreatDoor.S6
namespace Go.Proofs.YtmjpnbadfmgimaaGreatDoor.Pl
end Go.Proofs.YtmjpnbadfmgimaaGreatDoor.Pl
namespace Go.Proofs.YtmjpnbadfmgimaaGreatDoor.S6.Pl
end Go.Proofs.YtmjpnbadfmgimaaGreatDoor.S6.Pl
namespace Go.Proofs.YtmjpnbadfmgimaaGreatDoor.S6
open Go.Shelf Go.RowKit Go.Lib Go.Sort _root_.Go.Proofs.YtmjpnbadfmgimaaGreatDoor.Pl _root_.Go.Proofs.YtmjpnbadfmgimaaGreatDoor.S6.Pl
namespace Pl
def coinsFrom (i:Nat):List Int→List Coin
 | []=>[]
 | f::F=>if 0<f then (f,(i:Int))::coinsFrom (i+1) F else coinsFrom (i+1) F
theorem coins_step {F:List Int} {i:Nat} (h:i<F.length) (h0:0<F.getD i 0):coinsFrom i (F.drop i)=(F.getD i 0,(i:Int))::coinsFrom (i+1) (F.drop (i+1)):=by
 rw [drop_cons h,coinsFrom,if_pos h0]
theorem coins_skip {F:List Int} {i:Nat} (h:i<F.length) (h0:¬ 0<F.getD i 0):coinsFrom i (F.drop i)=coinsFrom (i+1) (F.drop (i+1)):=by
 rw [drop_cons h,coinsFrom,if_neg h0]
theorem coins_len (i:Nat) (F:List Int):(coinsFrom i F).length≤F.length:=by
 induction F generalizing i with
 | nil=>simp [coinsFrom]
 | cons f F ih=>
   have:=ih (i+1)
   rw [coinsFrom]
   split
   ·simp;exact this
   ·simp;omega
theorem perm_list {n:Nat} {d d':Array Coin} (hn:n=d.size) (h:PermIn 0 n d d'):d'.toList.Perm d.toList:=by
 have h1:=h.2.2
 have e1:d.extract 0 n=d:=by rw [hn];simp
 have e2:d'.extract 0 n=d':=by rw [hn,← h.1];simp
 rwa [e1,e2] at h1
theorem coins_in (F:List Int):∀ (i:Nat),∀ c∈coinsFrom i F,(i:Int)≤c.2∧c.2<(i+F.length:Nat):=by
 induction F with
 | nil=>intro i c hc;simp [coinsFrom] at hc
 | cons f F ih=>
   intro i c hc
   rw [coinsFrom] at hc
   split at hc
   ·rcases List.mem_cons.1 hc with rfl | hc
    ·exact ⟨Int.le_refl _,by simp only [List.length_cons];omega⟩
    ·have:=ih (i+1) c hc
     exact ⟨by omega,by simp only [List.length_cons];omega⟩
   ·have:=ih (i+1) c hc
    exact ⟨by omega,by simp only [List.length_cons];omega⟩
theorem coins_rise (F:List Int):∀ i,(coinsFrom i F).Pairwise fun a b=>a.2<b.2:=by
 induction F with
 | nil=>intro i;exact List.Pairwise.nil
 | cons f F ih=>
   intro i
   rw [coinsFrom]
   split
   ·refine List.pairwise_cons.2 ⟨fun c hc=>?_,ih _⟩
    have:=(coins_in F (i+1) c hc).1
    simp only
    omega
   ·exact ih _
theorem coins_asy {F:List Int} {n:Nat} {B:List Coin} (hB:B=coinsFrom 0 F) (hn:n=B.length) (hF:F.length≤1000000):Asy 0 n B.toArray:=by
 subst hB hn
 intro i j _ hij hj
 rw [getElem!_pos _ i (by simp;omega),getElem!_pos _ j (by simpa using hj)]
 simp only [List.getElem_toArray]
 have h1:=coins_in F 0 _ (List.getElem_mem (show i<(coinsFrom 0 F).length by omega))
 have h2:=coins_in F 0 _ (List.getElem_mem hj)
 have h3:=List.pairwise_iff_getElem.1 (coins_rise F 0) i j (by omega) hj hij
 exact ⟨h3,by omega,by omega⟩
def LexK (L:List Coin):Prop:=L.Pairwise fun a b=>keyC a≤keyC b
theorem lex_list {n:Nat} {d:Array Coin} (hn:n=d.size) (h:Srt keyC 0 n d):LexK d.toList:=by
 refine List.pairwise_iff_getElem.2 fun i j hi hj hij=>?_
 have hi':i<d.size:=by simpa using hi
 have hj':j<d.size:=by simpa using hj
 have:=h i j (Nat.zero_le _) hij (by omega)
 rw [getElem!_pos d i hi',getElem!_pos d j hj'] at this
 simpa using this
theorem asc_lex {F:List Int} {S:List Coin} (hp:S.Perm (coinsFrom 0 F)) (hF:F.length≤1000000) (h:LexK S):Asc S:=by
 refine List.Pairwise.imp_of_mem (fun {a b} ha hb hab=>?_) h
 have h1:=coins_in F 0 a (hp.mem_iff.1 ha)
 have h2:=coins_in F 0 b (hp.mem_iff.1 hb)
 unfold keyC at hab
 omega
theorem lex_one:∀ {S T:List Coin},S.Perm T→LexK S→LexK T→(∀ c∈S,0≤c.2∧c.2<1048576)→S=T
 | [],T,hp,_,_,_=>(hp.symm.eq_nil).symm
 | a::S,T,hp,h1,h2,hb=>by
   cases T with
   | nil=>exact absurd hp.eq_nil (by simp)
   | cons b T=>
     have hab:a=b:=by
      rcases List.mem_cons.1 (hp.mem_iff.1 (List.mem_cons_self (a:=a) (l:=S))) with e | ha
      ·exact e
      ·rcases List.mem_cons.1 (hp.mem_iff.2 (List.mem_cons_self (a:=b) (l:=T))) with e | hb'
       ·exact e.symm
       ·have k1:=List.rel_of_pairwise_cons h1 hb'
        have k2:=List.rel_of_pairwise_cons h2 ha
        have b1:=hb a (by simp)
        have b2:=hb b (by simp [hb'])
        unfold keyC at k1 k2
        exact Prod.ext (by omega) (by omega)
     subst hab
     rw [lex_one ((List.perm_cons a).1 hp) (List.Pairwise.of_cons h1) (List.Pairwise.of_cons h2) (fun c hc=>hb c (by simp [hc]))]
end Pl
theorem swk_gr {w0 W:World} {blk off:Nat} {d:Array Coin} (S:SWK encC 2 w0 blk off d W):Gr w0 W blk:=by
 obtain ⟨n,os,rfl⟩:=S
 refine ⟨rfl,rfl,rfl,by unfold sortWorldK;rw [size_grow,size_putRowK];show w0.heap.size≤w0.heap.size+_;omega,fun k hk hne=>?_⟩
 unfold sortWorldK
 rw [heap_grow_old _ _ (by rw [size_putRowK];exact hk)]
 have:blk≠k:=fun e=>hne (by rw [e])
 simp [putRowK,putRow,mapBlock,Sort.ahead,Array.getElem?_modify,this]
theorem coin_at (L:List Coin) (i:Nat) (h:i<L.length):L.toArray[i]! = L.getD i (0,0):=by
 simp [List.getD,h]
theorem holds_coins {w:World} {base g cap n:Nat} {e:TypeId} {L:List Coin} (hn:n=L.length) (h:w.ownsRow base e 2 (.slice (some ⟨g,0,none⟩) n cap) n (coinVs L)):HoldsK encC 2 w g 0 L.toArray:=by
 intro t ht
 have ht:t<L.length*2:=by simpa using ht
 have hc:w.cell? ⟨g,t,none⟩=(coinVs L)[t]? := h.cellAt t (by omega)
 have hget:=coinVs_get L (t/2) (by omega)
 rw [get_flatK _ _ _ _ (by simpa using ht),coin_at L (t/2) (by omega),Nat.zero_add]
 have hfr:w.frozen? ⟨g,t,none⟩=false:=by
  obtain ⟨_,⟨he,_⟩ | ⟨g',cap',cur,hv,_,hh,_⟩⟩:=h
  ·simp at he
  ·simp at hv
   obtain ⟨rfl,rfl⟩:=hv
   simp [World.frozen?,hh]
 refine ⟨?_,hfr⟩
 rw [hc]
 rcases (show t%2=0∨t%2=1 by omega) with h2 | h2
 ·have e:t/2*2=t:=by omega
  rw [e] at hget
  rw [hget.1,h2]
  rfl
 ·have e:t/2*2+1=t:=by omega
  rw [e] at hget
  rw [hget.2,h2]
  rfl
theorem isCoins_swk {w0 W:World} {blk n cap:Nat} {d0 d:Array Coin} (S:SWK encC 2 w0 blk 0 d W) (R:RowK encC 2 w0 blk 0 d0) (hs:d.size=d0.size) (hn:n=d.size) (hcap:n≤cap) (hmax:cap≤maxLen):IsCoins W (.slice (some ⟨blk,0,none⟩) n cap) d.toList:=by
 refine .inr ⟨⟨blk,0,none⟩,cap,by simp [hn],by simp;omega,hmax,fun i u hu=>?_⟩
 rw [add_none]
 have hi:=(List.getElem?_eq_some_iff.1 hu).1
 rw [coinVs_length] at hi
 have hx:i/2<d.size:=by simp at hi;omega
 have hc:=swk_cells S R hs (i/2) hx
 have hget:=coinVs_get d.toList (i/2) (by simpa using hx)
 have e0:d.toList.getD (i/2) (0,0)=d[i/2]! := by rw [← coin_at d.toList (i/2) (by simpa using hx)]
 rw [e0] at hget
 rcases (show i%2=0∨i%2=1 by omega) with h2 | h2
 ·have e:i/2*2=i:=by omega
  rw [e] at hget hc
  rw [hget.1] at hu
  rw [hc.1];exact hu
 ·have e:i/2*2+1=i:=by omega
  have e':0+i/2*2+1=0+i:=by omega
  rw [e] at hget
  rw [e'] at hc
  rw [hget.2] at hu
  rw [hc.2.1];exact hu
def SingPost (F:List Int) (w:World) (e:Ending) (w':World):Prop:=
 ∃ a n cap S,e=.returned (.slice a n cap)∧n=S.length∧S.Perm (coinsFrom 0 F)∧LexK S∧IsCoins w' (.slice a n cap) S∧Below w.heap.size w w'
theorem singles_any (v:Value) (F:List Int) (w:World) (hv:IsInts w v F) (hF:F.length≤1000000):
  Calls Tryz.prog 101 #[v] w (SingPost F w):=by
 obtain ⟨a,cap,rfl,hcap,hmax⟩:=hv.slice
 have HV:=Lib.hid hv
 clear hv
 go_enter Tryz.func101,Tryz.ntmps101
 go_wp2
 go_loopw [3,8] (fun x y wr=>∃ (B:List Coin) (i:Nat),i≤F.length∧B.length≤i∧y=.int .i64 i∧wr.ownsRow w.heap.size 154 2 x B.length (coinVs B)∧B++coinsFrom i (F.drop i)=coinsFrom 0 F∧Below w.heap.size w wr) (fun _ y _=>F.length-(intOf y).toNat)
 case atStart=>exact ⟨[],0,by omega,by simp,rfl,own_nilC _ _ _,by simp,Below.refl _ _⟩
 case round=>
  obtain ⟨B,i,hi,hB,rfl,ho,he,hb⟩:=hrel
  obtain ⟨sp,cp,rfl,hcp,hcm⟩:=ownsRow_slice ho
  have HE:=Lib.hid he
  have HO:=Lib.hid ho
  have HB:=Lib.hid hb
  have hsz:=hb.size
  clear he ho hb
  by_cases hlt:i<F.length
  ·obtain ⟨bb,off,cap',hs,_,_,hbl,hc⟩:=HV.out.cells (by omega)
   simp at hs
   obtain ⟨rfl,rfl⟩:=hs
   have c0:wr.cell? ⟨bb,off+i,none⟩=some (.int .i64 (F.getD i 0)):=(HB.out.cell (p:=⟨bb,off+i,none⟩) hbl).trans (hc i hlt)
   by_cases h0:0<F.getD i 0
   ·rw [coins_step hlt h0] at HE
    generalize F.getD i 0=x at*
    clear hc
    go_wp2_with (at_builtin;refine wpList_append_c rfl (.tmp 15) (.tmp 19) rfl w.heap.size (.slice sp B.length cp) B.length B (x,(i:Int)) rfl HO.out _ rfl rfl (by omega) hsz ?_;intro v' w' hown' hgr)
    go_roundw
    case rel=>exact ⟨B++[(x,(i:Int))],i+1,by omega,by simp;omega,by first | rfl | go_num,by simpa using hown',by rw [List.append_assoc];exact HE.out,bel_append HB.out _ HO.out hgr hsz⟩
    case measure=>simp [intOf];omega
   ·rw [coins_skip hlt h0] at HE
    generalize F.getD i 0=x at*
    clear hc
    go_wp2
    go_roundw
    case rel=>exact ⟨B,i+1,by omega,by omega,by first | rfl | go_num,HO.out,HE.out,HB.out⟩
    case measure=>simp [intOf];omega
  ·rw [show F.drop i=[] from List.drop_eq_nil_of_le (by omega)] at HE
   have hBF:B=coinsFrom 0 F:=by have:=HE.out;simpa [coinsFrom] using this
   cases sp with
   | none=>
     have hnil:B.length=0∧cp=0:=by
      obtain ⟨_,⟨he,h0⟩ | ⟨g',cap',cur,hv,_⟩⟩:=HO.out
      ·simp at he;exact ⟨h0,he.2⟩
      ·simp at hv
     obtain ⟨h0,rfl⟩:=hnil
     have hBn:=List.eq_nil_of_length_eq_zero h0
     rw [hBn] at hBF HO ⊢
     have HBF:=Lib.hid hBF
     clear hBF hBn h0 HE
     have hs:=fun W=>sortStable_none W
     simp only [List.length_nil] at*
     go_wp2_with fail
     refine (hs _).mono ?_
     rintro e w' ⟨rfl,rfl⟩
     go_wp2
     go_ret
     exact ⟨none,0,0,[],rfl,rfl,by rw [← HBF.out],List.Pairwise.nil,isCells_nil _,HB.out⟩
   | some g0=>
     have hg:∃ g,g0=⟨g,0,none⟩∧w.heap.size≤g∧g<wr.heap.size:=by
      obtain ⟨_,⟨he,h0⟩ | ⟨g',cap',cur,hv,hg,hh,_⟩⟩:=HO.out
      ·simp at he
      ·simp at hv
       exact ⟨g',hv.1,hg,(Array.getElem?_eq_some_iff.1 hh).1⟩
     obtain ⟨g,rfl,hg1,hg2⟩:=hg
     have hR:RowK encC 2 wr g 0 B.toArray:=⟨lenC,oneC,holds_coins rfl HO.out,hg2⟩
     have hs:=sortStable_any g 0 cp B.length B.toArray wr hR (by simp) (by simp;omega) (coins_asy hBF rfl hF)
     have HR:=Lib.hid hR
     have HBF:=Lib.hid hBF
     clear hR hBF HE
     go_wp2_with fail
     refine hs.mono ?_
     rintro e w' ⟨rfl,d',hp,hq,hS⟩
     have HP:=Lib.hid hp
     have HQ:=Lib.hid hq
     have HS:=Lib.hid hS
     clear hp hq hS hs
     go_wp2
     go_ret
     have hsz':d'.size=B.toArray.size:=HP.out.1
     refine ⟨some ⟨g,0,none⟩,B.length,cp,d'.toList,rfl,by simp [hsz'],?_,?_,?_,?_⟩
     ·have:=perm_list rfl HP.out
      rw [← HBF.out];simpa using this
     ·have:=HQ.out
      exact lex_list hsz'.symm this
     ·exact isCoins_swk HS.out HR.out hsz' (by simp [hsz']) hcp hcm
     ·exact HB.out.trans ((swk_gr HS.out).below hsz hg1)
end Go.Proofs.YtmjpnbadfmgimaaGreatDoor.S6
namespace Go.Proofs.YtmjpnbadfmgimaaGreatDoor.S6
open Go.RowKit _root_.Go.Proofs.YtmjpnbadfmgimaaGreatDoor.Pl _root_.Go.Proofs.YtmjpnbadfmgimaaGreatDoor.S6.Pl
def lenOfV:Value→Nat
 | .slice _ n _=>n
 | _=>0
theorem intOf_i (x:Int):intOf (.int .i64 x)=x:=rfl
theorem wpList_fits_c {w:World} {ops:Array Oper} {rest:List Oper} {o:Oper} {a:Act} {Q:Exit→Act→World→Prop} (hgd:o.guard=none) (s x:Operand)
  (ho:o.op=.call { callee:=.builtin .append,args:=#[s,x],argTypes:=#[151,151] })
  (base g n cap:Nat) (L:List Coin) (c:Coin) (hs:a.eval s=.slice (some ⟨g,0,none⟩) n cap) (hown:w.ownsRow base 154 2 (.slice (some ⟨g,0,none⟩) n cap) n (coinVs L))
  (b:Nat) (hb:b=w.heap.size) (hx:a.eval x=.slice (some ⟨b,0,none⟩) 1 1) (hroom:n+1≤cap)
  (h:∀ w',w'.ownsRow base 154 2 (.slice (some ⟨g,0,none⟩) (n+1) cap) (n+1) (coinVs (L++[c]))→(w.alloc (.cells #[.int .i64 c.1,.int .i64 c.2] 154 (0,0))).grownBy w' (some g)→wpList Tryz.prog ops Q rest (a.put o.dst (.slice (some ⟨g,0,none⟩) (n+1) cap)) w'):wpList Tryz.prog ops Q (o::rest) a (w.alloc (.cells #[.int .i64 c.1,.int .i64 c.2] 154 (0,0))):=by
 subst hb
 obtain ⟨i0,hi,hz0,hz1,hz2⟩:=infoC_parts infoC
 refine wpList_append_fits _ hgd s x _ ho base 154 i0 2 Tryz.underlying151 hi hz1 g n cap _ hs (hown.alloc _) ⟨w.heap.size,0,none⟩ 1 1 [.int .i64 c.1,.int .i64 c.2] hx rfl ?_ (by intro u hu;simp at hu;rcases hu with rfl | rfl <;> rfl) hroom fun w' h2 h3=>h w' (by rw [coinVs_snoc];exact h2) h3
 intro j u hu
 have hb:=Blk.new w 154 [.int .i64 c.1,.int .i64 c.2]
 rw [add_none,Nat.zero_add]
 exact hb.cell hu
theorem wpList_fits_cs {w:World} {ops:Array Oper} {rest:List Oper} {o:Oper} {a:Act} {Q:Exit→Act→World→Prop} (hgd:o.guard=none) (s x:Operand)
  (ho:o.op=.call { callee:=.builtin .append,args:=#[s,x],argTypes:=#[151,151] })
  (base g n cap:Nat) (L:List Coin) (hs:a.eval s=.slice (some ⟨g,0,none⟩) n cap) (hown:w.ownsRow base 154 2 (.slice (some ⟨g,0,none⟩) n cap) n (coinVs L))
  (sp:Option Addr) (m c:Nat) (M:List Coin) (hx:a.eval x=.slice sp m c) (hm:m=M.length) (hsrc:IsCoins w (.slice sp m c) M) (hroom:n+m≤cap)
  (h:∀ w',w'.ownsRow base 154 2 (.slice (some ⟨g,0,none⟩) (n+m) cap) (n+m) (coinVs (L++M))→w.grownBy w' (some g)→wpList Tryz.prog ops Q rest (a.put o.dst (.slice (some ⟨g,0,none⟩) (n+m) cap)) w'):wpList Tryz.prog ops Q (o::rest) a w:=by
 obtain ⟨i0,hi,hz0,hz1,hz2⟩:=infoC_parts infoC
 subst hm
 refine wpList_append_fits_any w hgd s x _ ho base 154 i0 2 Tryz.underlying151 hi hz1 g n cap _ hs hown sp M.length c (coinVs M) hx (coinVs_length M) ?_ ?_ (coinVs_one M) hroom fun w' h2 h3=>h w' (by rw [coinVs_append];exact h2) h3
 ·rintro rfl
  obtain ⟨he,h0,hm⟩ | ⟨ad,cap',he,h1,h2,hc⟩:=hsrc
  ·simp at he;exact ⟨h0,he.2⟩
  ·simp at he
 ·rintro ad rfl
  obtain ⟨he,h0,hm⟩ | ⟨ad',cap',he,h1,h2,hc⟩:=hsrc
  ·simp at he
  ·simp at he
   obtain ⟨rfl,rfl⟩:=he
   exact hc
def sliceC (x:Value) (lo hi mx:Option Value):Sem Value:=Instr.sliceAt 151 x lo hi mx
theorem sliceC_eq (x:Value) (lo hi mx:Option Value):Instr.sliceAt 151 x lo hi mx=sliceC x lo hi mx:=rfl
theorem elem_coins:Tryz.prog.elem 151=154:=by kernel_rfl
theorem und_coins:Tryz.prog.underlying 151=some (.slice (Tryz.prog.elem 151)):=by rw [elem_coins];exact Tryz.underlying151
theorem run_size_c (w:World):(sizeOf (Tryz.prog.elem 151)).run Tryz.prog w=.ok 2 w:=by
 rw [elem_coins];exact Tryz.sizeOf154 w
theorem run_fromC {w:World} {a:Option Addr} {n cap:Nat} {C:List Coin} (hv:IsCoins w (.slice a n cap) C) (hn:C.length=n) (hcap:n≤cap) (hmax:cap≤maxLen) (k:Nat) (hk:k≤n) (K:Int) (hK:K=k):
  ∃ a1,(∀ W,(sliceC (.slice a n cap) (some (.int .i64 K)) none none).run Tryz.prog W=.ok (.slice a1 (n-k) (cap-k)) W)∧IsCoins w (.slice a1 (n-k) (cap-k)) (C.drop k):=by
 subst hK
 refine ⟨if cap=k then a else a.map (·.add (k*2)),?_,?_⟩
 rotate_left
 ·by_cases e:cap=k
  ·rw [if_pos e]
   have hnil:C.drop k=[]:=List.drop_eq_nil_of_le (by omega)
   rw [hnil,show n-k=0 by omega,show cap-k=0 by omega]
   obtain ⟨he,h0,hm⟩ | ⟨ad,cap',he,h1,h2,hc⟩:=hv
   ·simp at he;rw [he.1];exact isCells_nil w
   ·simp at he;rw [he.1];exact isCells_zero w _ _ (by simp) (by unfold maxLen;omega)
  ·rw [if_neg e]
   exact hv.drop hn k hk
 ·intro W
  unfold sliceC
  rw [run_sliceAt_slice _ _ _ _ _ _ und_coins,run_slice_l _ _ _ _ _ und_coins _ _ (by omega) (by omega),run_size_c,Int.toNat_natCast]
  rfl
theorem store_new (w:World) (c:Coin):∃ w2,(storeC (.pointer (some ⟨w.heap.size,0,none⟩)) (.agg #[.int .i64 c.1,.int .i64 c.2])).run Tryz.prog (w.alloc (.cells #[.int .i64 0,.int .i64 0] 154 (0,0)))=.ok () w2∧Blk w2 w.heap.size 154 [.int .i64 c.1,.int .i64 c.2]∧Below w.heap.size w w2:=by
 have hb:=Blk.new w 154 [.int .i64 0,.int .i64 0]
 have hH:Go.Sort.Holds id (w.alloc (.cells #[.int .i64 0,.int .i64 0] 154 (0,0))) w.heap.size 0 #[.int .i64 0,.int .i64 0]:=by
  intro j hj
  have hj:j<2:=hj
  rw [Nat.zero_add]
  rcases (show j=0∨j=1 by omega) with rfl | rfl
  ·exact ⟨hb.cell rfl,hb.frozen 0⟩
  ·exact ⟨hb.cell rfl,hb.frozen 1⟩
 have hs:=stores_of_holds Tryz.prog hH 0 (encC c) (by simp [encC]) (oneC c)
 refine ⟨_,run_storeC hs,?_,?_⟩
 ·have:=(hb.set 0 (.int .i64 c.1)).set 1 (.int .i64 c.2)
  exact this
 ·exact (((Below.refl _ w).alloc (Nat.le_refl _) _).setCell (p:=⟨w.heap.size,0,none⟩) (Nat.le_refl _) (.int .i64 c.1)).setCell (p:=⟨w.heap.size,1,none⟩) (Nat.le_refl _) (.int .i64 c.2)
namespace Pl
theorem dropC_cons {L:List Coin} {i:Nat} (h:i<L.length):L.drop i=L.getD i (0,0)::L.drop (i+1):=by
 rw [List.drop_eq_getElem_cons h];simp [List.getD,h]
theorem pairs_step {B:List Coin} {k:Nat} (h:k+1<B.length):pairsOf (B.drop k)=((B.getD k (0,0)).1+(B.getD (k+1) (0,0)).1,-1)::pairsOf (B.drop (k+2)):=by
 rw [dropC_cons (by omega),dropC_cons (i:=k+1) h];rfl
theorem pairs_end {B:List Coin} {k:Nat} (h:¬ k+1<B.length):pairsOf (B.drop k)=[]:=by
 have:(B.drop k).length≤1:=by rw [List.length_drop];omega
 match hB:B.drop k with
 | []=>rfl
 | [_]=>rfl
 | _::_::_=>rw [hB] at this;simp at this
theorem merge_in {S:List Coin} {j:Nat} {p:Coin} {PS:List Coin} (h:j<S.length) (hle:(S.getD j (0,0)).1≤p.1):mergeC (S.drop j) (p::PS)=S.getD j (0,0)::mergeC (S.drop (j+1)) (p::PS):=by
 rw [dropC_cons h,merge_le _ _ hle]
theorem merge_out {S:List Coin} {j:Nat} {p:Coin} {PS:List Coin} (hle:j<S.length→¬ (S.getD j (0,0)).1≤p.1):mergeC (S.drop j) (p::PS)=p::mergeC (S.drop j) PS:=by
 by_cases h:j<S.length
 ·rw [dropC_cons h,merge_gt _ _ (hle h)]
 ·rw [List.drop_eq_nil_of_le (by omega),merge_nil,merge_nil]
end Pl
attribute [local go_sem ↓] loadC_eq storeC_eq sliceC_eq
def PairsPost (S B:List Coin) (w:World) (e:Ending) (w':World):Prop:=
 ∃ n cap,e=.returned (.slice (some ⟨w.heap.size,0,none⟩) n cap)∧n=(mergeC S (pairsOf B)).length∧n≤cap∧cap≤maxLen∧w.heap.size<w'.heap.size∧IsCoins w' (.slice (some ⟨w.heap.size,0,none⟩) n cap) (mergeC S (pairsOf B))∧Below w.heap.size w w'
theorem withPairs_any (a:Option Addr) (n cap:Nat) (u:Value) (S B:List Coin) (w:World) (hS:IsCoins w (.slice a n cap) S) (hn:S.length=n) (hcap:n≤cap) (hmax:cap≤maxLen) (hB:IsCoins w u B) (hB1:B.length≤1000000) (hS1:n≤1000000)
  (hw:∀ c∈B,0≤c.1∧c.1≤1152921504606846976):
  Calls Tryz.prog 127 #[.slice a n cap,u] w (PairsPost S B w):=by
 obtain ⟨a2,cap2,rfl,hcap2,hmax2⟩:=hB.slice
 obtain ⟨i0,hi0,hz0,hz1,hz2⟩:=infoC_parts infoC
 have mixed:=mixedP
 have HI:=Lib.hid hi0
 have HSS:=Lib.hid hS
 have HBB:=Lib.hid hB
 have HW:=Lib.hid hw
 have HZ:=Lib.hid (And.intro hz0 (And.intro hz1 hz2))
 have HN:=Lib.hid hn
 have hn1:S.length≤n:=by omega
 have hn2:n≤S.length:=by omega
 clear hi0 hS hB hw hz0 hz1 hz2 hn
 go_enter Tryz.func127,Tryz.ntmps127
 go_wp2_with (at_make;refine wpList_make_own _ rfl _ _ 151 rfl w.heap.size 154 i0 (.agg #[.int .i64 0,.int .i64 0]) 2 Tryz.underlying151 HI.out HZ.out.1 HZ.out.2.1 .i64 .i64 _ (n+B.length/2) rfl rfl (by omega) (by rw [HZ.out.2.2];omega) (by unfold maxLen;omega) (Nat.le_refl _) ?_;intro w1 hown hgr)
 have HB1:=Lib.hid ((Below.refl _ w).grown hgr (Nat.le_refl _) (by simp))
 have HO1:=Lib.hid hown
 clear hown hgr
 go_loopw [0,5,6] (fun x0 x5 x6 wr=>∃ (acc:List Coin) (j k:Nat) (aj:Option Addr) (nj cj:Nat),x0=.slice aj nj cj∧x5=.slice (some ⟨w.heap.size,0,none⟩) acc.length (n+B.length/2)∧x6=.int .i64 ((k:Int)+1)∧j≤n∧nj+j≤n∧n≤nj+j∧nj≤cj∧cj≤maxLen∧k≤B.length∧acc.length+(n-j)+(B.length-k)/2≤n+B.length/2∧IsCoins w (.slice aj nj cj) (S.drop j)∧
  wr.ownsRow w.heap.size 154 2 (.slice (some ⟨w.heap.size,0,none⟩) acc.length (n+B.length/2)) acc.length (coinVs acc)∧acc++mergeC (S.drop j) (pairsOf (B.drop k))=mergeC S (pairsOf B)∧Below w.heap.size w wr) (fun _ _ x6 _=>B.length+2-(intOf x6).toNat)
 case atStart=>exact ⟨[],0,0,a,n,cap,rfl,rfl,rfl,by omega,by omega,by omega,hcap,hmax,by omega,by simp,HSS.out,HO1.out,by simp,HB1.out⟩
 case round=>
  obtain ⟨acc,j,k,aj,nj,cj,rfl,rfl,rfl,hj,hnj1,hnj2,hcj,hmj,hk,hroom,hsj,ho,he,hb⟩:=hrel
  have HE:=Lib.hid he
  have HO:=Lib.hid ho
  have HB:=Lib.hid hb
  have HSJ:=Lib.hid hsj
  have hsz:=hb.size
  have hgw:w.heap.size<wr.heap.size:=by
   obtain ⟨_,⟨he,h0⟩ | ⟨g',cap',cur,hv,hg,hh,_⟩⟩:=ho
   ·simp at he
   ·simp at hv;obtain ⟨rfl,rfl⟩:=hv;exact (Array.getElem?_eq_some_iff.1 hh).1
  clear he ho hb hsj HB1 HO1
  by_cases hlt:k+1<B.length
  ·have hltz:(k:Int)+1<(B.length:Int):=by omega
   obtain ⟨bb,off,cap',hs,_,_,hbl,hc⟩:=HBB.out.cells (by omega)
   simp at hs
   obtain ⟨rfl,rfl⟩:=hs
   have c0:∀ m,(wr.drewN m).cell? ⟨bb,off+k*2,none⟩=some (.int .i64 (B.getD k (0,0)).1):=fun m=>(HB.out.cell (p:=⟨bb,off+k*2,none⟩) hbl).trans (hc k (by omega)).1
   have c1:∀ m,(wr.drewN m).cell? ⟨bb,off+(k+1)*2,none⟩=some (.int .i64 (B.getD (k+1) (0,0)).1):=fun m=>(HB.out.cell (p:=⟨bb,off+(k+1)*2,none⟩) hbl).trans (hc (k+1) hlt).1
   have hw0:=HW.out (B.getD k (0,0)) (by rw [List.getD_eq_getElem?_getD,List.getElem?_eq_getElem (show k<B.length by omega)];exact List.getElem_mem _)
   have hw1:=HW.out (B.getD (k+1) (0,0)) (by rw [List.getD_eq_getElem?_getD,List.getElem?_eq_getElem hlt];exact List.getElem_mem _)
   rw [pairs_step hlt] at HE
   generalize (B.getD k (0,0)).1=x at*
   generalize (B.getD (k+1) (0,0)).1=y at*
   have e1:((k:Int)+1).toNat=k+1:=by omega
   have e2:wrap64 (x+y)=x+y:=by unfold wrap64;omega
   have c0':wr.drew.cell? ⟨bb,off+k*2,none⟩=some (.int .i64 x):=c0 1
   have c1':wr.drew.cell? ⟨bb,off+(k+1)*2,none⟩=some (.int .i64 y):=c1 1
   have hkl:k<B.length:=by omega
   have hklz:(k:Int)<(B.length:Int):=by omega
   have c0a:((wr.alloc (.cells #[.int .i64 0,.int .i64 0] 154 (0,0))).drew).cell? ⟨bb,off+k*2,none⟩=some (.int .i64 x):=Lib.cell?_alloc_some _ (c0 1)
   have c1a:((wr.alloc (.cells #[.int .i64 0,.int .i64 0] 154 (0,0))).drew).cell? ⟨bb,off+(k+1)*2,none⟩=some (.int .i64 y):=Lib.cell?_alloc_some _ (c1 1)
   have rk:IntKind.i64.wrap (k:Int)=k:=by rw [IntKind.wrap_i64];omega
   have rk1:IntKind.i64.wrap ((k:Int)+1)=(k:Int)+1:=by rw [IntKind.wrap_i64];omega
   obtain ⟨w2,hst,hblk,hbel⟩:=store_new wr.drew (x+y,-1)
   have hst':(storeC (.pointer (some ⟨wr.heap.size,0,none⟩)) (.agg #[.int .i64 (x+y),.int .i64 (-1)])).run Tryz.prog (wr.drew.alloc (.cells #[.int .i64 0,.int .i64 0] 154 (0,0)))=.ok () w2:=hst
   have hst'':(storeC (.pointer (some ⟨wr.heap.size,0,none⟩)) (.agg #[.int .i64 (x+y),.int .i64 (-1)])).run Tryz.prog ((wr.alloc (.cells #[.int .i64 0,.int .i64 0] 154 (0,0))).drew)=.ok () w2:=hst
   have HB2:=Lib.hid (HB.out.drew.trans (hbel.mono hsz))
   have HO2:=Lib.hid (own_below (w:=wr) (w':=w2) HO.out (show Below wr.heap.size wr w2 from ⟨hbel.os,hbel.tape,hbel.output,hbel.size,hbel.block⟩))
   have HK2:=Lib.hid hblk
   have hsz2:wr.heap.size<w2.heap.size:=hblk.lt
   clear hc c0 c1 hst hblk hbel HO HB
   go_wp2_with fail
   go_region
   have HPS:Hid (pairsOf (B.drop (k+2))=pairsOf (B.drop (k+2))):=rfl
   generalize hPS:pairsOf (B.drop (k+2))=PS at HE
   have HPSE:=Lib.hid hPS
   obtain ⟨pw,hpw⟩:∃ pw,x+y=pw:=⟨_,rfl⟩
   have hHK:Blk w2 wr.heap.size 154 [.int .i64 pw,.int .i64 (-1)]:=by rw [← hpw];exact HK2.out
   have HK3:=Lib.hid hHK
   rw [hpw] at HE ⊢
   have hpb:w.heap.size<wr.heap.size:=hgw
   generalize wr.heap.size=pb at*
   clear hst' hst'' HK2 hHK c0' c1' c0a c1a hw0 hw1 e2 hpw hPS HPS rk rk1
   go_wp2_with fail
   go_loopw [0,5] (fun x0 x5 wr=>∃ (acc:List Coin) (j:Nat) (aj:Option Addr) (nj cj:Nat),x0=.slice aj nj cj∧x5=.slice (some ⟨w.heap.size,0,none⟩) acc.length (n+B.length/2)∧j≤n∧nj+j≤n∧n≤nj+j∧nj≤cj∧cj≤maxLen∧acc.length+(n-j)+1+(B.length-(k+2))/2≤n+B.length/2∧IsCoins w (.slice aj nj cj) (S.drop j)∧
    wr.ownsRow w.heap.size 154 2 (.slice (some ⟨w.heap.size,0,none⟩) acc.length (n+B.length/2)) acc.length (coinVs acc)∧acc++mergeC (S.drop j) ((pw,-1)::PS)=mergeC S (pairsOf B)∧Below w.heap.size w wr∧Blk wr pb 154 [.int .i64 pw,.int .i64 (-1)]) (fun x0 _ _=>lenOfV x0)
   case atStart=>exact ⟨acc,j,aj,nj,cj,rfl,rfl,hj,hnj1,hnj2,hcj,hmj,by omega,HSJ.out,HO2.out,HE.out,HB2.out,HK3.out⟩
   case round=>
    clear HE HO2 HB2 HK3 HSJ hroom hj hnj1 hnj2 hcj hmj
    obtain ⟨acc,j,aj,nj,cj,rfl,rfl,hj,hnj1,hnj2,hcj,hmj,hroom,hsj,ho,he,hb,hblk⟩:=hrel
    have HE:=Lib.hid he
    have HB:=Lib.hid hb
    have HSJ:=Lib.hid hsj
    have hsz:=hb.size
    have hpl:pb<wr.heap.size:=hblk.lt
    have hO:∀ m,(wr.drewN m).ownsRow w.heap.size 154 2 (.slice (some ⟨w.heap.size,0,none⟩) acc.length (n+B.length/2)) acc.length (coinVs acc):=fun _=>ho
    have HO:=Lib.hid hO
    have HK:=Lib.hid hblk
    have hlen:(S.drop j).length=nj:=by rw [List.length_drop];omega
    have HLen:=Lib.hid hlen
    have b0:∀ m,(wr.drewN m).cell? ⟨pb,0,none⟩=some (.int .i64 pw):=fun m=>hblk.cell rfl
    have b1:∀ m,(wr.drewN m).cell? ⟨pb,1,none⟩=some (.int .i64 (-1)):=fun m=>hblk.cell rfl
    have lb:∀ m,(loadC (.pointer (some ⟨pb,0,none⟩))).run Tryz.prog (wr.drewN m)=.ok (.agg #[.int .i64 pw,.int .i64 (-1)]) (wr.drewN m):=fun m=>run_loadC (c:=(pw,-1)) (b0 m) (b1 m)
    clear he hb hsj ho hO hblk hlen b1
    have leave:(j<S.length→¬ (S.getD j (0,0)).1≤pw)→Hid (acc++[(pw,-1)]++mergeC (S.drop j) (pairsOf (B.drop (k+2)))=mergeC S (pairsOf B)):=fun hle=>by
     have:=HE.out
     rw [merge_out hle] at this
     rw [HPSE.out,List.append_assoc]
     exact this
    have LEAVE:=Lib.hid leave
    clear leave
    by_cases h0:0<nj
    ·obtain ⟨bs,offs,caps,hs,_,_,hbl2,hc⟩:=HSJ.out.cells (by rw [HLen.out];exact h0)
     have hjl:j<S.length:=by omega
     have e0:(S.drop j).getD 0 (0,0)=S.getD j (0,0):=by simp [List.getD]
     have hc:=hc 0 (by rw [HLen.out];exact h0)
     rw [e0,Nat.zero_mul,Nat.add_zero] at hc
     rw [HLen.out] at hs
     simp at hs
     obtain ⟨rfl,rfl⟩:=hs
     have s0:∀ m,(wr.drewN m).cell? ⟨bs,offs,none⟩=some (.int .i64 (S.getD j (0,0)).1):=fun m=>(HB.out.cell (p:=⟨bs,offs,none⟩) hbl2).trans hc.1
     have s1:∀ m,(wr.drewN m).cell? ⟨bs,offs+1,none⟩=some (.int .i64 (S.getD j (0,0)).2):=fun m=>(HB.out.cell (p:=⟨bs,offs+1,none⟩) hbl2).trans hc.2
     have ls:∀ m,(loadC (.pointer (some ⟨bs,offs,none⟩))).run Tryz.prog (wr.drewN m)=.ok (.agg #[.int .i64 (S.getD j (0,0)).1,.int .i64 (S.getD j (0,0)).2]) (wr.drewN m):=fun m=>run_loadC (s0 m) (s1 m)
     have hin:(S.getD j (0,0)).1≤pw→Hid (acc++[S.getD j (0,0)]++mergeC (S.drop (j+1)) ((pw,-1)::PS)=mergeC S (pairsOf B)):=fun hle=>by
      have:=HE.out
      rw [merge_in hjl hle] at this
      rw [List.append_assoc]
      exact this
     have HIN:=Lib.hid hin
     obtain ⟨aj2,hsl,hIs⟩:=run_fromC HSJ.out HLen.out hcj hmj 1 (by omega) 1 rfl
     have HIS:=Lib.hid hIs
     clear hc s1 hin hIs e0
     have hd:decide ((nj:Int)>0)=true:=decide_eq_true (by omega)
     have hd':decide (0<(nj:Int))=true:=decide_eq_true (by omega)
     have h0z:(0:Int)<(nj:Int):=by omega
     have hsl':∀ W,(sliceC (.slice (some ⟨bs,offs,none⟩) nj cj) (some (.int .i64 1)) none none).run Tryz.prog W=.ok (.slice aj2 (nj-1) (cj-1)) W:=hsl
     clear hsl
     generalize S.getD j (0,0)=sc at*
     by_cases hle:sc.1≤pw
     ·have hd2:decide (sc.1≤pw)=true:=decide_eq_true hle
      go_wp2_with fail
      go_quiet (fail)
      go_wp2_with (at_builtin;refine wpList_fits_c rfl (.tmp 46) (.tmp 50) rfl w.heap.size w.heap.size acc.length (n+B.length/2) acc sc rfl (HO.out _) _ rfl rfl (by omega) ?_;intro w4 hown hgr)
      go_roundw
      case rel=>exact ⟨acc++[sc],j+1,aj2,nj-1,cj-1,rfl,by simp,by omega,by omega,by omega,by omega,by omega,by simp;omega,(by have:=HIS.out;rwa [List.drop_drop] at this),by simpa using hown,(HIN.out hle).out,(((bel_drewN HB.out _).alloc hsz _).grown hgr (by simp;omega) (by simp)),((HK.out.drewN _).alloc _).grown hgr (by simp;omega)⟩
      case measure=>simp [lenOfV];omega
     ·have hd2:decide (sc.1≤pw)=false:=decide_eq_false hle
      go_wp2_with fail
      go_quiet (fail)
      go_wp2_with (at_builtin;refine wpList_fits_c rfl (.tmp 54) (.tmp 56) rfl w.heap.size w.heap.size acc.length (n+B.length/2) acc (pw,-1) rfl (HO.out _) _ rfl rfl (by omega) ?_;intro w4 hown hgr)
      go_roundw
      case rel=>exact ⟨acc++[(pw,-1)],j,k+2,_,nj,cj,rfl,by simp,by first | rfl | go_num | (congr 1;omega),hj,hnj1,hnj2,hcj,hmj,by omega,by simp;omega,HSJ.out,by simpa using hown,(LEAVE.out (fun _=>hle)).out,(((bel_drewN HB.out _).alloc hsz _).grown hgr (by simp;omega) (by simp))⟩
      case measure=>simp [intOf];omega
    ·obtain rfl:nj=0:=by omega
     have hjl:¬ j<S.length:=by omega
     have hd:decide (((0:Nat):Int)>0)=false:=decide_eq_false (by omega)
     have hd':decide (0<((0:Nat):Int))=false:=decide_eq_false (by omega)
     go_wp2_with fail
     go_quiet (fail)
     go_wp2_with (at_builtin;refine wpList_fits_c rfl (.tmp 54) (.tmp 56) rfl w.heap.size w.heap.size acc.length (n+B.length/2) acc (pw,-1) rfl (HO.out _) _ rfl rfl (by omega) ?_;intro w4 hown hgr)
     go_roundw
     case rel=>exact ⟨acc++[(pw,-1)],j,k+2,_,0,cj,rfl,by simp,by first | rfl | go_num | (congr 1;omega),hj,hnj1,hnj2,hcj,hmj,by omega,by simp;omega,HSJ.out,by simpa using hown,(LEAVE.out (fun h=>absurd h hjl)).out,(((bel_drewN HB.out _).alloc hsz _).grown hgr (by simp;omega) (by simp))⟩
     case measure=>simp [intOf];omega
  ·rw [pairs_end hlt,merge_nil'] at HE
   have hltz:¬ (k:Int)+1<(B.length:Int):=by omega
   have hlen:(S.drop j).length=nj:=by rw [List.length_drop];omega
   have hsrc:IsCoins wr (.slice aj nj cj) (S.drop j):=by
    have:=HSJ.out
    exact this.below (HB.out.mono (Nat.le_refl _))
   have HSR:=Lib.hid hsrc
   have HLen:=Lib.hid hlen
   clear hsrc hlen
   go_wp2_with (at_builtin;refine wpList_fits_cs rfl (.tmp 58) (.tmp 59) rfl w.heap.size w.heap.size acc.length (n+B.length/2) acc rfl HO.out aj nj cj (S.drop j) rfl HLen.out.symm HSR.out (by omega) ?_;intro w2 hown hgr)
   go_ret
   have hfin:=HE.out
   have hl:acc.length+nj=(mergeC S (pairsOf B)).length:=by rw [← hfin,List.length_append,HLen.out]
   rw [hfin] at hown
   have hs2:=hgr.size
   exact ⟨_,_,rfl,hl,by omega,by unfold maxLen;omega,by omega,isCoins_own hl hown,HB.out.grown hgr hsz (by simp)⟩
end Go.Proofs.YtmjpnbadfmgimaaGreatDoor.S6
namespace Go.Proofs.YtmjpnbadfmgimaaGreatDoor.S6
open Go.RowKit _root_.Go.Proofs.YtmjpnbadfmgimaaGreatDoor.Pl _root_.Go.Proofs.YtmjpnbadfmgimaaGreatDoor.S6.Pl
namespace Pl
def prevRow (S:List Coin):Nat→List Coin
 | 0=>[]
 | k+1=>rowC S k
theorem prev_row (S:List Coin) (k:Nat):mergeC S (pairsOf (prevRow S k))=rowC S k:=by
 cases k with
 | zero=>rw [prevRow,pairsOf,merge_nil',rowC];exact fun _ _ _ h=>by simp at h
 | succ k=>rfl
end Pl
def AllSl (vs:List Value):Prop:=∀ x∈vs,∃ a n c,x=.slice a n c
def zeroRows:List Value:=List.replicate 15 (.slice none 0 0)
theorem allSl_zero:AllSl zeroRows:=fun x hx=>⟨none,0,0,List.eq_of_mem_replicate hx⟩
theorem allSl_set {vs:List Value} (h:AllSl vs) (i:Nat) (a:Option Addr) (n c:Nat):AllSl (vs.set i (.slice a n c)):=fun x hx=>by
 rcases List.mem_or_eq_of_mem_set hx with hx | rfl
 ·exact h x hx
 ·exact ⟨a,n,c,rfl⟩
theorem allSl_one {vs:List Value} (h:AllSl vs):vs.toArray.all (·.oneCell')=true:=by
 rw [List.all_toArray,List.all_eq_true]
 intro x hx
 obtain ⟨a,n,c,rfl⟩:=h x hx
 rfl
theorem coins_ne {w:World} {v:Value} {C:List Coin} {b:Nat} {t:TypeId} {vs:List Value} (h:IsCoins w v C) (hb:Blk w b t vs) (hs:AllSl vs):∀ a m c,v=.slice (some a) m c→0<(coinVs C).length→a.block≠b:=by
 rintro a m c rfl h0 rfl
 obtain ⟨he,h1,h2⟩ | ⟨x,cap,he,h1,h2,hc⟩:=h
 ·simp at he
 ·simp at he
  obtain ⟨rfl,rfl,rfl⟩:=he
  have hC:0<C.length:=by rw [coinVs_length] at h0;omega
  have hcell:=hc 0 _ (by have:=(coinVs_get C 0 hC).1;simpa using this)
  obtain ⟨bb,off,sp⟩:=a
  have hsp:sp=none:=by simpa [Addr.add] using World.cell?_spot hcell
  subst hsp
  rw [add_none] at hcell
  unfold Blk at hb
  simp only at hb
  have:(vs.toArray[off+0]?)=some (.int .i64 (C.getD 0 (0,0)).1):=by
   simpa [World.cell?,hb] using hcell
  have hm:=List.mem_of_getElem? (by simpa using this)
  obtain ⟨a',n',c',e⟩:=hs _ hm
  cases e
theorem IsCoins.setCell {w:World} {v:Value} {C:List Coin} {b:Nat} {t:TypeId} {vs:List Value} (h:IsCoins w v C) (hb:Blk w b t vs) (hs:AllSl vs) (o:Nat) (x:Value):IsCoins (w.setCell ⟨b,o,none⟩ x) v C:=
 IsCells.row h (r:=some b) (Gr.setCell (Gr.refl w b) o x) fun a m c e h0 e2=>coins_ne h hb hs a m c e h0 (by simpa using e2)
theorem IsCoins.gr {w w':World} {v:Value} {C:List Coin} {b:Nat} {t:TypeId} {vs:List Value} (h:IsCoins w v C) (hb:Blk w b t vs) (hs:AllSl vs) (hg:Gr w w' b):IsCoins w' v C:=
 IsCells.row h (r:=some b) hg fun a m c e h0 e2=>coins_ne h hb hs a m c e h0 (by simpa using e2)
def RowsAre (S:List Coin) (lo hi:Nat) (w:World) (vs:List Value) (k:Nat):Prop:=vs.length=15∧∀ i,i<k→∃ b n c,vs[i]? = some (.slice (some ⟨b,0,none⟩) n c)∧n=(rowC S i).length∧n≤c∧c≤maxLen∧IsCoins w (.slice (some ⟨b,0,none⟩) n c) (rowC S i)∧lo≤b∧b<hi
theorem zero_rows (w:World):(zeroValue 156).run Tryz.prog w=.ok (.agg zeroRows.toArray) w:=by kernel_rfl
theorem size_rows:(Tryz.prog.info? 156).map (·.size)=some 15:=by kernel_rfl
def loadR (v:Value):Sem Value:=Instr.loadAt 156 v
theorem loadR_eq (v:Value):Instr.loadAt 156 v=loadR v:=rfl
def storeR (p v:Value):Sem Unit:=Instr.storeAt 156 p v
theorem storeR_eq (p v:Value):Instr.storeAt 156 p v=storeR p v:=rfl
def allocR (b:Bool) (v:Value):Sem Value:=Instr.alloc 156 b v
theorem allocR_eq (b:Bool) (v:Value):Instr.alloc 156 b v=allocR b v:=rfl
theorem run_allocR (w:World) (v:Value):(allocR true v).run Tryz.prog w=.ok (.pointer (some ⟨w.heap.size,0,none⟩)) (w.alloc (.cells zeroRows.toArray 156)):=by
 unfold allocR Instr.alloc
 rw [Sem.run_bind,zero_rows]
 cases v <;> rfl
theorem run_loadR {w:World} {b:Nat} {L:List Value} (h:Blk w b 156 L) (hl:L.length=15):(loadR (.pointer (some ⟨b,0,none⟩))).run Tryz.prog w=.ok (.agg L.toArray) w:=by
 simp only [loadR,Instr.loadAt,Instr.sureAddr,Sem.run_bind,Sem.run_pure,Result.andThen_ok]
 exact run_loadVar_row w b _ _ _ (0,0) _ h Tryz.underlying156 rfl (by rw [size_rows];simp [hl])
theorem run_storeR {w:World} {b:Nat} {K L:List Value} (h:Blk w b 156 K) (hk:K.length=15) (hl:L.length=15) (hs:AllSl L):(storeR (.pointer (some ⟨b,0,none⟩)) (.agg L.toArray)).run Tryz.prog w=.ok () (w.setRow b L.toArray):=by
 simp only [storeR,Instr.storeAt,Instr.sureAddr,Sem.run_bind,Sem.run_pure,Result.andThen_ok]
 exact run_storeVar_row w b _ _ _ _ h (by rw [size_rows];simp [hl]) (by simp [hk,hl]) (allSl_one hs)
theorem gr_setRow (w:World) (b:Nat) (c:Array Value):Gr w (w.setRow b c) b:=
 ⟨rfl,rfl,rfl,by simp,fun k hk hne=>setRow_other w b k _ (fun e=>hne (by simp [e]))⟩
def RowsPost (S:List Coin) (w:World) (e:Ending) (w':World):Prop:=∃ vs,e=.returned (.agg vs.toArray)∧RowsAre S w.heap.size w'.heap.size w' vs 15∧AllSl vs∧Below w.heap.size w w'
attribute [local go_sem ↓] loadR_eq storeR_eq allocR_eq
attribute [local go_sem] run_allocR
theorem rowsOf_any (a:Option Addr) (n cap:Nat) (S:List Coin) (w:World) (hS:IsCoins w (.slice a n cap) S) (hn:S.length=n) (hcap:n≤cap) (hmax:cap≤maxLen) (hS1:n≤400)
  (hw:∀ c∈S,0<c.1∧c.1≤1073741824):
  Calls Tryz.prog 103 #[.slice a n cap] w (RowsPost S w):=by
 have HSS:=Lib.hid hS
 have HN:=Lib.hid hn
 have hprev:∀ k,k≤15→(prevRow S k).length≤1000000∧∀ c∈prevRow S k,0≤c.1∧c.1≤1152921504606846976:=fun k hk=>by
  cases k with
  | zero=>exact ⟨by simp [prevRow],by simp [prevRow]⟩
  | succ k=>
    refine ⟨by have:=row_small S k;simp only [prevRow];omega,fun c hc=>?_⟩
    have h1:=row_pos (fun c hc=>(hw c hc).1) k c hc
    have h2:=row_le (m:=1073741824) (by omega) (fun c hc=>(hw c hc).2) k c hc
    have h3:(2:Int)^k≤1073741824:=by
     have:2^k≤2^30:=Nat.pow_le_pow_right (by omega) (by omega)
     have e:(2:Int)^k=((2^k:Nat):Int):=by simp
     rw [e]
     have e2:(2:Nat)^30=1073741824:=by decide
     omega
    have h4:=Int.mul_le_mul_of_nonneg_right h3 (show (0:Int)≤1073741824 by omega)
    omega
 have HPV:=Lib.hid hprev
 clear hprev hS hn hw
 go_enter Tryz.func103,Tryz.ntmps103
 go_wp2
 have hb0:Below w.heap.size w ((w.alloc (.cells zeroRows.toArray 156)).alloc (.cells zeroRows.toArray 156)):=((Below.refl _ _).alloc (Nat.le_refl _) _).alloc (by simp) _
 have hA0:=(Blk.new w 156 zeroRows).alloc (.cells zeroRows.toArray 156)
 have hA1:Blk ((w.alloc (.cells zeroRows.toArray 156)).alloc (.cells zeroRows.toArray 156)) (w.heap.size+1) 156 zeroRows:=by
  have:=Blk.new (w.alloc (.cells zeroRows.toArray 156)) 156 zeroRows
  simpa using this
 have HB0:=Lib.hid hb0
 have HA0:=Lib.hid hA0
 have HA1:=Lib.hid hA1
 clear hb0 hA0 hA1
 go_loopw [4,6] (fun x4 x6 wr=>∃ (k:Nat) (vs:List Value) (ap:Option Addr) (np cp:Nat),k≤15∧x6=.int .i64 k∧x4=.slice ap np cp∧np=(prevRow S k).length∧IsCoins wr (.slice ap np cp) (prevRow S k)∧Blk wr w.heap.size 156 zeroRows∧Blk wr (w.heap.size+1) 156 vs∧AllSl vs∧RowsAre S w.heap.size wr.heap.size wr vs k∧Below w.heap.size w wr) (fun _ x _=>15-(intOf x).toNat)
 case atStart=>exact ⟨0,zeroRows,none,0,0,by omega,rfl,rfl,rfl,isCells_nil _,HA0.out,HA1.out,allSl_zero,⟨by simp [zeroRows],by intro i hi;omega⟩,HB0.out⟩
 case round=>
  obtain ⟨k,vs,ap,np,cp,hk,rfl,rfl,hnp,hP,h0,h1,hsl,hR,hb⟩:=hrel
  have H0:=Lib.hid h0
  have H1:=Lib.hid h1
  have HB:=Lib.hid hb
  have HP:=Lib.hid hP
  have HSL:=Lib.hid hsl
  have HR:=Lib.hid hR
  have HNP:=Lib.hid hnp
  have hlt1:=h1.lt
  clear HB0 HA0 HA1 h0 h1 hb hP hsl hR hnp
  by_cases hlt:k<15
  ·have hS2:IsCoins wr (.slice a n cap) S:=HSS.out.below (HB.out.mono (Nat.le_refl _))
   have hc:=withPairs_any a n cap (.slice ap np cp) S (prevRow S k) wr hS2 HN.out hcap hmax HP.out (HPV.out k hk).1 (by omega) (HPV.out k hk).2
   clear hS2
   go_wp2_with fail
   refine hc.mono ?_
   rintro e w2 ⟨nr,cr,rfl,hnr,hcr,hmr,hsw2,hI,hB2⟩
   rw [prev_row] at hnr hI
   have H0':=Lib.hid (H0.out.below hB2 (by omega))
   have H1':=Lib.hid (H1.out.below hB2 hlt1)
   have HB':=Lib.hid (HB.out.trans (hB2.mono HB.out.size))
   have hR2:RowsAre S w.heap.size w2.heap.size w2 vs k:=⟨HR.out.1,fun i hi=>by
    obtain ⟨a',n',c',e1,e2,e3,e4,e5,e6,e7⟩:=HR.out.2 i hi
    exact ⟨a',n',c',e1,e2,e3,e4,e5.below hB2,e6,by omega⟩⟩
   have hsw:w.heap.size≤wr.heap.size:=HB.out.size
   have HR':=Lib.hid hR2
   have HI:=Lib.hid hI
   have HNR:=Lib.hid hnr
   have hl15:vs.length=15:=HR.out.1
   have c0:w2.cell? ⟨w.heap.size+1,k,none⟩=some vs[k]:=H1'.out.cell (List.getElem?_eq_getElem (by omega))
   have hvk:∃ a n c,vs[k]=.slice a n c:=HSL.out _ (List.getElem_mem (by omega))
   obtain ⟨a9,n9,c9,hvk⟩:=hvk
   rw [hvk] at c0
   have f0:=H1'.out.frozen k
   have hset:=H1'.out.set k (.slice (some ⟨wr.heap.size,0,none⟩) nr cr)
   have c1:=hset.cell (o:=k) (v:=.slice (some ⟨wr.heap.size,0,none⟩) nr cr) (by simp [hl15,hlt])
   have HSET:=Lib.hid hset
   clear hc hI hB2 hR2 HR H0 H1 HB HP HNP hnr hvk hset hlt1 hl15
   go_wp2
   go_roundw
   case rel=>
    refine ⟨k+1,vs.set k (.slice (some ⟨wr.heap.size,0,none⟩) nr cr),_,nr,cr,by omega,by first | rfl | go_num,rfl,HNR.out,?_,H0'.out.setOther (by simp) _,HSET.out,allSl_set HSL.out _ _ _ _,⟨by rw [List.length_set];exact HR'.out.1,fun i hi=>?_⟩,HB'.out.setCell (by simp) _⟩
    ·exact IsCoins.setCell HI.out H1'.out HSL.out _ _
    ·by_cases e:i=k
     ·subst e
      exact ⟨wr.heap.size,nr,cr,by rw [List.getElem?_set_self (by rw [HR'.out.1];exact hlt)],HNR.out,hcr,hmr,IsCoins.setCell HI.out H1'.out HSL.out _ _,hsw,by simpa using hsw2⟩
     ·obtain ⟨a',n',c',e1,e2,e3,e4,e5,e6,e7⟩:=HR'.out.2 i (by omega)
      exact ⟨a',n',c',by rw [List.getElem?_set_ne (Ne.symm e)];exact e1,e2,e3,e4,IsCoins.setCell e5 H1'.out HSL.out _ _,e6,by simpa using e7⟩
   case measure=>simp [intOf];omega
  ·obtain rfl:k=15:=by omega
   have hl:=run_loadR H1.out HR.out.1
   have hs:=run_storeR H0.out (by simp [zeroRows]) HR.out.1 HSL.out
   have HE:Hid (Blk (wr.setRow w.heap.size vs.toArray) w.heap.size 156 vs):=H0.out.setRow vs
   have HF:=Lib.hid (below_setRow HB.out (Nat.le_refl _) vs.toArray)
   have HR2:Hid (RowsAre S w.heap.size (wr.setRow w.heap.size vs.toArray).heap.size (wr.setRow w.heap.size vs.toArray) vs 15):=⟨HR.out.1,fun i hi=>by
    obtain ⟨a',n',c',e1,e2,e3,e4,e5,e6,e7⟩:=HR.out.2 i hi
    exact ⟨a',n',c',e1,e2,e3,e4,e5.gr H0.out allSl_zero (gr_setRow _ _ _),e6,Nat.lt_of_lt_of_le e7 (gr_setRow wr w.heap.size vs.toArray).size⟩⟩
   have hl15:vs.length=15:=HR.out.1
   have HL:=Lib.hid hl15
   clear hl15
   go_wp2
   refine bodyPost_ret (v:=.agg vs.toArray) ?_ rfl ⟨vs,rfl,HR2.out,HSL.out,HF.out⟩
   refine results_cell_row rfl _ _ w.heap.size 156 vs.toArray (0,0) _ (by simp) HE.out Tryz.underlying156 rfl (by rw [size_rows];simp [HL.out])
end Go.Proofs.YtmjpnbadfmgimaaGreatDoor.S6

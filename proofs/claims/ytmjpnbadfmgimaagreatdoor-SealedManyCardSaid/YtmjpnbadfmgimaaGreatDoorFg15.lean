/- Texts put together: SufP, SufA, SufB, SaA, SaB, SaC, SaD, SaE, SaF, SaG, SaH. -/
import Derived.Test.YtmjpnbadfmgimaaGreatDoorFg2
import Derived.ArgAppend
set_option linter.unusedSimpArgs false
set_option linter.unusedVariables false
set_option maxRecDepth 100000
namespace Go.Proofs.YtmjpnbadfmgimaaGreatDoor.S8.Pl
def lexB:List Nat→List Nat→Bool
 | [],[]=>false
 | [],_::_=>true
 | _::_,[]=>false
 | a::ax,b::bs=>if a<b then true else if b<a then false else lexB ax bs
theorem lexB_cons_nil (a:Nat) (ax:List Nat):lexB (a::ax) []=false:=rfl
theorem lexB_nil (ax:List Nat):lexB ax []=false:=by cases ax <;> rfl
theorem lexB_same (a:Nat) (ax bs:List Nat):lexB (a::ax) (a::bs)=lexB ax bs:=by simp [lexB]
theorem lexB_lt {a b:Nat} (h:a<b) (ax bs:List Nat):lexB (a::ax) (b::bs)=true:=by simp [lexB,h]
theorem lexB_gt {a b:Nat} (h:b<a) (ax bs:List Nat):lexB (a::ax) (b::bs)=false:=by simp only [lexB];rw [if_neg (by omega),if_pos h]
theorem lexB_irrefl (ax:List Nat):lexB ax ax=false:=by
 induction ax with
 | nil=>rfl
 | cons a ax ih=>rw [lexB_same];exact ih
theorem lexB_asymm (ax:List Nat):∀ bs,lexB ax bs=true→lexB bs ax=false:=by
 induction ax with
 | nil=>intro bs _;exact lexB_nil bs
 | cons a ax ih=>
   intro bs h
   cases bs with
   | nil=>rw [lexB_cons_nil] at h;simp at h
   | cons b bs=>
     rcases Nat.lt_trichotomy a b with h1 | rfl | h1
     ·exact lexB_gt h1 bs ax
     ·rw [lexB_same] at h ⊢;exact ih bs h
     ·rw [lexB_gt h1] at h;simp at h
theorem lexB_trans (ax:List Nat):∀ bs cs,lexB ax bs=true→lexB bs cs=true→lexB ax cs=true:=by
 induction ax with
 | nil=>
   intro bs cs h1 h2
   cases cs with
   | nil=>rw [lexB_nil] at h2;simp at h2
   | cons c cs=>rfl
 | cons a ax ih=>
   intro bs cs h1 h2
   cases bs with
   | nil=>rw [lexB_cons_nil] at h1;simp at h1
   | cons b bs=>
     cases cs with
     | nil=>rw [lexB_cons_nil] at h2;simp at h2
     | cons c cs=>
       rcases Nat.lt_trichotomy a b with h3 | rfl | h3
       ·rcases Nat.lt_trichotomy b c with h4 | rfl | h4
        ·exact lexB_lt (by omega) ax cs
        ·exact lexB_lt h3 ax cs
        ·rw [lexB_gt h4] at h2;simp at h2
       ·rcases Nat.lt_trichotomy a c with h4 | rfl | h4
        ·exact lexB_lt h4 ax cs
        ·rw [lexB_same] at h1 h2 ⊢;exact ih bs cs h1 h2
        ·rw [lexB_gt h4] at h2;simp at h2
       ·rw [lexB_gt h3] at h1;simp at h1
theorem lexB_total (ax:List Nat):∀ bs,ax≠bs→lexB ax bs=true∨lexB bs ax=true:=by
 induction ax with
 | nil=>
   intro bs h
   cases bs with
   | nil=>exact absurd rfl h
   | cons b bs=>exact .inl rfl
 | cons a ax ih=>
   intro bs h
   cases bs with
   | nil=>exact .inr rfl
   | cons b bs=>
     rcases Nat.lt_trichotomy a b with h1 | rfl | h1
     ·exact .inl (lexB_lt h1 ax bs)
     ·rw [lexB_same,lexB_same];exact ih bs (fun e=>h (by rw [e]))
     ·exact .inr (lexB_lt h1 bs ax)
def sufB (B:List Nat) (i j:Nat):Bool:=lexB (B.drop i) (B.drop j)
theorem suf_irrefl (B:List Nat) (i:Nat):sufB B i i=false:=lexB_irrefl _
theorem suf_asymm {B:List Nat} {i j:Nat} (h:sufB B i j=true):sufB B j i=false:=lexB_asymm _ _ h
theorem suf_total {B:List Nat} {i j:Nat} (hi:i≤B.length) (hj:j≤B.length) (h:i≠j):sufB B i j=true∨sufB B j i=true:=
 lexB_total _ _ fun e=>h (by have:=congrArg List.length e;rw [List.length_drop,List.length_drop] at this;omega)
theorem suf_drop (B:List Nat) {i:Nat} (h:i<B.length):B.drop i=B.getD i 0::B.drop (i+1):=by
 rw [List.drop_eq_getElem_cons h];simp [List.getD,h]
theorem suf_out {B:List Nat} {i j:Nat} (hj:B.length≤j):sufB B i j=false:=by
 unfold sufB;rw [List.drop_eq_nil_of_le hj];exact lexB_nil _
theorem suf_in {B:List Nat} {i j:Nat} (hi:B.length≤i) (hj:j<B.length):sufB B i j=true:=by
 unfold sufB;rw [List.drop_eq_nil_of_le hi,suf_drop B hj];rfl
theorem suf_same {B:List Nat} {i j:Nat} (hi:i<B.length) (hj:j<B.length) (h:B.getD i 0=B.getD j 0):sufB B i j=sufB B (i+1) (j+1):=by
 unfold sufB;rw [suf_drop B hi,suf_drop B hj,h,lexB_same]
theorem suf_lt {B:List Nat} {i j:Nat} (hi:i<B.length) (hj:j<B.length) (h:B.getD i 0<B.getD j 0):sufB B i j=true:=by
 unfold sufB;rw [suf_drop B hi,suf_drop B hj];exact lexB_lt h _ _
theorem suf_gt {B:List Nat} {i j:Nat} (hi:i<B.length) (hj:j<B.length) (h:B.getD j 0<B.getD i 0):sufB B i j=false:=by
 unfold sufB;rw [suf_drop B hi,suf_drop B hj];exact lexB_gt h _ _
theorem suf_le {B:List Nat} {i j:Nat} (hi:i<B.length) (hj:j<B.length) (h:sufB B i j=true):B.getD i 0≤B.getD j 0:=by
 apply Classical.byContradiction
 intro h2
 rw [suf_gt hi hj (by omega)] at h
 simp at h

theorem rise_unique {r:Nat→Nat→Bool} (hi:∀ i,r i i=false) (ha:∀ i j,r i j=true→r j i=false):∀ (L M:List Nat),L.Pairwise (fun i j=>r i j=true)→M.Pairwise (fun i j=>r i j=true)→(∀ i,i∈L↔i∈M)→L=M:=by
 intro L
 induction L with
 | nil=>
   intro M _ _ h
   cases M with
   | nil=>rfl
   | cons y M=>have:=(h y).2 (by simp);simp at this
 | cons x L ih=>
   intro M h1 h2 h
   cases M with
   | nil=>have:=(h x).1 (by simp);simp at this
   | cons y M=>
     rw [List.pairwise_cons] at h1 h2
     have e:x=y:=by
      apply Classical.byContradiction
      intro hne
      have hx:x∈M:=by have:=(h x).1 (by simp);simpa [hne] using this
      have hy:y∈L:=by have:=(h y).2 (by simp);simpa [Ne.symm hne] using this
      have a1:=h1.1 y hy
      have a2:=h2.1 x hx
      rw [ha _ _ a1] at a2
      simp at a2
     subst e
     have hnx:x ∉ L:=fun hm=>by have:=h1.1 x hm;rw [hi] at this;simp at this
     have hny:x ∉ M:=fun hm=>by have:=h2.1 x hm;rw [hi] at this;simp at this
     rw [ih M h1.2 h2.2 fun i=>by
      constructor
      ·intro hm
       have:=(h i).1 (by simp [hm])
       rcases List.mem_cons.1 this with e | e
       ·subst e;exact absurd hm hnx
       ·exact e
      ·intro hm
       have:=(h i).2 (by simp [hm])
       rcases List.mem_cons.1 this with e | e
       ·subst e;exact absurd hm hny
       ·exact e]
def Rises (B:List Nat) (L:List Nat):Prop:=L.Pairwise fun i j=>sufB B i j=true
def IsSA (B:List Nat) (L:List Nat):Prop:=Rises B L∧∀ i,i∈L↔i<B.length
theorem sa_unique {B L M:List Nat} (h:IsSA B L) (k:IsSA B M):L=M:=
 rise_unique (suf_irrefl B) (fun _ _=>suf_asymm) L M h.1 k.1 fun i=>(h.2 i).trans (k.2 i).symm
theorem rises_nodup {B L:List Nat} (h:Rises B L):L.Nodup:=
 List.Pairwise.imp (fun {i j} hij e=>by subst e;rw [suf_irrefl] at hij;simp at hij) h
theorem sa_perm {B L:List Nat} (h:IsSA B L):L.Perm (List.range B.length):=
 (List.perm_ext_iff_of_nodup (rises_nodup h.1) List.nodup_range).2 fun i=>by rw [h.2 i,List.mem_range]
theorem sa_length {B L:List Nat} (h:IsSA B L):L.length=B.length:=by have:=(sa_perm h).length_eq;simpa using this
def lcp:List Nat→List Nat→Nat
 | a::ax,b::bs=>if a=b then lcp ax bs+1 else 0
 | _,_=>0
def lcpAt (B:List Nat) (i j:Nat):Nat:=lcp (B.drop i) (B.drop j)
end Go.Proofs.YtmjpnbadfmgimaaGreatDoor.S8.Pl
namespace Go.Proofs.YtmjpnbadfmgimaaGreatDoor.Pl
end Go.Proofs.YtmjpnbadfmgimaaGreatDoor.Pl
namespace Go.Proofs.YtmjpnbadfmgimaaGreatDoor.S8.Pl
end Go.Proofs.YtmjpnbadfmgimaaGreatDoor.S8.Pl
namespace Go.Proofs.YtmjpnbadfmgimaaGreatDoor.S8
open Go.RowKit _root_.Go.Proofs.YtmjpnbadfmgimaaGreatDoor.Pl _root_.Go.Proofs.YtmjpnbadfmgimaaGreatDoor.S8.Pl
theorem intOf_i (x:Int):intOf (.int .i64 x)=x:=rfl
theorem bytes_cell {w:World} {v:Value} {B:List Nat} (h:IsBytes w v B):∃ a cap,v=.slice a B.length cap∧B.length≤cap∧cap≤maxLen∧(0<B.length→∃ b off,a=some ⟨b,off,none⟩∧b<w.heap.size∧∀ i,i<B.length→w.cell? ⟨b,off+i,none⟩=some (.int .u8 (B.getD i 0:Nat))):=by
 obtain ⟨hx,⟨rfl,rfl⟩ | ⟨⟨b,off,spot⟩,cap,rfl,h1,h2,hc⟩⟩:=h
 ·exact ⟨none,0,rfl,Nat.le_refl _,by unfold maxLen;omega,fun h=>by simp at h⟩
 ·refine ⟨_,cap,rfl,h1,h2,fun h0=>?_⟩
  have hc0:=hc 0 _ (u8s_get B 0 h0)
  have hspot:spot=none:=by simpa [Addr.add] using World.cell?_spot hc0
  subst hspot
  refine ⟨b,off,rfl,World.block_lt_of_cell? w _ hc0,fun i hi=>?_⟩
  have:=hc i _ (u8s_get B i hi)
  have hadd:(⟨b,off,none⟩:Addr).add i=⟨b,off+i,none⟩:=by unfold Addr.add;split <;> simp_all
  rwa [hadd] at this
theorem run_fromI {w:World} {a:Option Addr} {len cap:Nat} {L:List Int} (hv:IsInts w (.slice a len cap) L) (hl:L.length=len) (h0:0<len) (k:Nat) (hk:k≤len):
  ∃ a1,(∀ W,(sliceI (.slice a len cap) (some (.int .i64 k)) none none).run Tryz.prog W=.ok (.slice (some a1) (len-k) (cap-k)) W)∧(∀ j u,(i64s (L.drop k))[j]? = some u→w.cell? (a1.add j)=some u):=by
 subst hl
 obtain ⟨he,rfl⟩ | ⟨x,c,he,hcap,hmax,hc⟩:=hv
 ·simp at h0
 simp at he
 obtain ⟨rfl,rfl⟩:=he
 refine ⟨if cap=k then x else x.add (k*1),?_,?_⟩
 ·intro W
  unfold sliceI
  rw [run_sliceAt_slice _ _ _ _ _ _ und_i64s,run_slice_l _ _ _ _ _ und_i64s _ _ (by omega) (by omega),run_size_i,Int.toNat_natCast]
  simp only [Result.andThen,sliced]
  by_cases e:cap=k <;> simp [e]
 ·intro j u hu
  have hj:=(List.getElem?_eq_some_iff.1 hu).1
  rw [i64s_length,List.length_drop] at hj
  rw [if_neg (by omega),Nat.mul_one,Addr.add_add]
  refine hc (k+j) u ?_
  simp only [i64s,List.map_drop,List.getElem?_drop] at hu ⊢
  exact hu
def nI (L:List Nat):List Int:=L.map fun (i:Nat)=>(i:Int)
theorem nI_length (L:List Nat):(nI L).length=L.length:=by simp [nI]
theorem nI_get (L:List Nat) (i:Nat):(nI L).getD i 0=(L.getD i 0:Nat):=by
 unfold nI
 by_cases h:i<L.length
 ·simp [List.getD,h]
 ·simp [List.getD,Nat.le_of_not_lt h]
theorem nI_cons (x:Nat) (L:List Nat):nI (x::L)=(x:Int)::nI L:=by simp [nI]
end Go.Proofs.YtmjpnbadfmgimaaGreatDoor.S8
namespace Go.Proofs.YtmjpnbadfmgimaaGreatDoor.S8.Pl
def ris (T:List Nat) (i:Nat):Bool:=sufB T i (i+1)
theorem ris_step {T:List Nat} {i:Nat} (h:i+1<T.length):ris T i=(decide (T.getD i 0<T.getD (i+1) 0)||(decide (T.getD i 0=T.getD (i+1) 0)&&ris T (i+1))):=by
 unfold ris
 rcases Nat.lt_trichotomy (T.getD i 0) (T.getD (i+1) 0) with h1 | h1 | h1
 ·rw [suf_lt (by omega) h h1,decide_eq_true h1];rfl
 ·rw [suf_same (by omega) h h1,decide_eq_true h1,decide_eq_false (by omega)];simp
 ·rw [suf_gt (by omega) h h1,decide_eq_false (by omega),decide_eq_false (by omega)];rfl
theorem ris_last {T:List Nat} {i:Nat} (h:T.length≤i+1):ris T i=false:=suf_out h
theorem ris_in {T:List Nat} {i:Nat} (h:ris T i=true):i+1<T.length:=by
 apply Classical.byContradiction
 intro h2
 rw [ris_last (by omega)] at h
 simp at h
theorem ris_le {T:List Nat} {i:Nat} (h:ris T i=true):T.getD i 0≤T.getD (i+1) 0:=by
 have:=ris_in h
 exact suf_le (by omega) this h
theorem fall_le {T:List Nat} {i:Nat} (hi:i+1<T.length) (h:ris T i=false):T.getD (i+1) 0≤T.getD i 0:=by
 apply Classical.byContradiction
 intro h2
 unfold ris at h
 rw [suf_lt (by omega) hi (by omega)] at h
 simp at h
theorem ris_eq {T:List Nat} {i:Nat} (hi:i+1<T.length) (h:T.getD i 0=T.getD (i+1) 0):ris T i=ris T (i+1):=suf_same (by omega) hi h
def isc (T:List Nat) (i:Nat):Bool:=decide (0<i)&&ris T i&&!ris T (i-1)
theorem isc_parts {T:List Nat} {i:Nat} (h:isc T i=true):0<i∧ris T i=true∧ris T (i-1)=false∧i+1<T.length:=by
 unfold isc at h
 simp only [Bool.and_eq_true,decide_eq_true_eq,Bool.not_eq_true'] at h
 exact ⟨h.1.1,h.1.2,h.2,ris_in h.1.2⟩
theorem isc_succ (T:List Nat) (i:Nat):isc T (i+1)=(ris T (i+1)&&!ris T i):=by
 unfold isc;simp
theorem isc_not {T:List Nat} {i:Nat} (h:ris T i=false):isc T i=false:=by unfold isc;rw [h];simp
theorem isc_after {T:List Nat} {i:Nat} (h:ris T i=true):isc T (i+1)=false:=by rw [isc_succ,h];simp
theorem fall_rise (T:List Nat):∀ m i j,T.length-i=m→i<T.length→j<T.length→T.getD i 0=T.getD j 0→ris T i=false→ris T j=true→sufB T i j=true:=by
 intro m
 induction m with
 | zero=>intro i j h1 h2;omega
 | succ m ih=>
   intro i j hm hi hj he h1 h2
   have hj2:=ris_in h2
   have hj3:=ris_le h2
   rw [suf_same hi hj he]
   by_cases hi2:i+1<T.length
   ·have hi3:=fall_le hi2 h1
    by_cases hlt:T.getD (i+1) 0<T.getD (j+1) 0
    ·exact suf_lt hi2 hj2 hlt
    ·refine ih (i+1) (j+1) (by omega) hi2 hj2 (by omega) ?_ ?_
     ·rw [← ris_eq hi2 (by omega)];exact h1
     ·rw [← ris_eq hj2 (by omega)];exact h2
   ·exact suf_in (by omega) hj2
def W (T:List Nat) (i:Nat):Nat:=2*T.getD i 0+(ris T i).toNat+1
theorem W_eq {T:List Nat} {i j:Nat} (h:W T i=W T j):T.getD i 0=T.getD j 0∧ris T i=ris T j:=by
 unfold W at h
 have h1:=Bool.toNat_le (ris T i)
 have h2:=Bool.toNat_le (ris T j)
 refine ⟨by omega,?_⟩
 have h3:(ris T i).toNat=(ris T j).toNat:=by omega
 cases h4:ris T i <;> cases h5:ris T j <;> simp_all
theorem W_of {T:List Nat} {i j:Nat} (h:T.getD i 0=T.getD j 0) (h2:ris T i=ris T j):W T i=W T j:=by unfold W;rw [h,h2]
theorem W_lt {T:List Nat} {i j:Nat} (h:W T i<W T j):T.getD i 0<T.getD j 0∨(T.getD i 0=T.getD j 0∧ris T i=false∧ris T j=true):=by
 unfold W at h
 have h1:=Bool.toNat_le (ris T i)
 have h2:=Bool.toNat_le (ris T j)
 by_cases h3:T.getD i 0<T.getD j 0
 ·exact .inl h3
 ·refine .inr ?_
  cases h4:ris T i <;> cases h5:ris T j <;> rw [h4,h5] at h <;> simp only [Bool.toNat_false,Bool.toNat_true] at h <;> first | exact ⟨by omega,rfl,rfl⟩ | (exfalso;omega)
theorem W_letter {T:List Nat} {i j:Nat} (h:T.getD i 0<T.getD j 0):W T i<W T j:=by
 unfold W
 have h1:=Bool.toNat_le (ris T i)
 omega
theorem W_kind {T:List Nat} {i j:Nat} (h:T.getD i 0=T.getD j 0) (h1:ris T i=false) (h2:ris T j=true):W T i<W T j:=by
 unfold W
 rw [h,h1,h2]
 simp
theorem suf_W {T:List Nat} {i j:Nat} (hi:i<T.length) (hj:j<T.length) (h:W T i<W T j):sufB T i j=true:=by
 rcases W_lt h with h | ⟨h1,h2,h3⟩
 ·exact suf_lt hi hj h
 ·exact fall_rise T _ i j rfl hi hj h1 h2 h3
theorem W_pos (T:List Nat) (i:Nat):0<W T i:=by unfold W;omega
def kf (T:List Nat) (h:Nat→List Nat):Nat→Nat→List Nat
 | 0,_=>[0]
 | m+1,i=>W T i::(if isc T i then h i else kf T h m (i+1))
def key (T:List Nat) (h:Nat→List Nat) (i:Nat):List Nat:=kf T h (T.length-i) i
def keyG (T:List Nat) (h:Nat→List Nat) (i:Nat):List Nat:=W T i::key T h (i+1)
theorem key_end {T:List Nat} {i:Nat} (h:Nat→List Nat) (hi:T.length≤i):key T h i=[0]:=by
 unfold key
 rw [Nat.sub_eq_zero_of_le hi]
 rfl
theorem key_in {T:List Nat} {i:Nat} (h:Nat→List Nat) (hi:i<T.length):key T h i=W T i::(if isc T i then h i else key T h (i+1)):=by
 unfold key
 obtain ⟨m,hm⟩:∃ m,T.length-i=m+1:=⟨T.length-i-1,by omega⟩
 rw [hm,show T.length-(i+1)=m by omega]
 rfl
theorem key_no {T:List Nat} {i:Nat} (h:Nat→List Nat) (hi:i<T.length) (hc:isc T i=false):key T h i=keyG T h i:=by
 rw [key_in h hi,hc];rfl
theorem lexB_pre (P A B:List Nat):lexB (P++A) (P++B)=lexB A B:=by
 induction P with
 | nil=>rfl
 | cons p P ih=>rw [List.cons_append,List.cons_append,lexB_same];exact ih
def Meet (T:List Nat) (i j d:Nat):Prop:=(∀ e,e≤d→W T (i+e)=W T (j+e))∧isc T (i+d)=true∧isc T (j+d)=true∧∀ e,e<d→isc T (i+e)=false∧isc T (j+e)=false
theorem meet_succ {T:List Nat} {i j d:Nat} (h0:W T i=W T j) (h1:isc T i=false) (h2:isc T j=false) (h:Meet T (i+1) (j+1) d):Meet T i j (d+1):=by
 obtain ⟨a,b,c,e⟩:=h
 refine ⟨fun x hx=>?_,by rw [← b];congr 1;omega,by rw [← c];congr 1;omega,fun x hx=>?_⟩
 ·rcases x with _ | x
  ·exact h0
  ·have:=a x (by omega)
   rwa [show i+(x+1)=i+1+x by omega,show j+(x+1)=j+1+x by omega]
 ·rcases x with _ | x
  ·exact ⟨h1,h2⟩
  ·have:=e x (by omega)
   rwa [show i+(x+1)=i+1+x by omega,show j+(x+1)=j+1+x by omega]
def Met (T:List Nat) (i j d:Nat):Prop:=Meet T i j d∧(∃ P,∀ h,key T h i=P++h (i+d)∧key T h j=P++h (j+d))∧sufB T i j=sufB T (i+d) (j+d)∧sufB T j i=sufB T (j+d) (i+d)
theorem key_cmp (T:List Nat):∀ m i j,T.length-i=m→i≤T.length→j≤T.length→i≠j→(i<T.length→j<T.length→W T i=W T j→isc T i=isc T j)→
  (∃ d,Met T i j d)∨((∀ h h',lexB (key T h i) (key T h' j)=true)∧sufB T i j=true)∨((∀ h h',lexB (key T h' j) (key T h i)=true)∧sufB T j i=true):=by
 intro m
 induction m with
 | zero=>
   intro i j hm hi hj hne _
   refine .inr (.inl ⟨fun h h'=>?_,suf_in (by omega) (by omega)⟩)
   rw [key_end h (by omega),key_in h' (by omega)]
   exact lexB_lt (W_pos _ _) _ _
 | succ m ih=>
   intro i j hm hi hj hne hc
   have hi':i<T.length:=by omega
   by_cases hj':j<T.length
   ·rcases Nat.lt_trichotomy (W T i) (W T j) with hw | hw | hw
    ·refine .inr (.inl ⟨fun h h'=>?_,suf_W hi' hj' hw⟩)
     rw [key_in h hi',key_in h' hj']
     exact lexB_lt hw _ _
    ·obtain ⟨h1,h2⟩:=W_eq hw
     have hc':=hc hi' hj' hw
     cases hci:isc T i with
     | true=>
       rw [hci] at hc'
       refine .inl ⟨0,⟨fun e he=>by obtain rfl:e=0:=by omega
                                    exact hw,hci,hc'.symm,fun e he=>by omega⟩,⟨[W T i],fun h=>?_⟩,rfl,rfl⟩
       rw [key_in h hi',key_in h hj',hci,← hc',hw]
       simp
     | false=>
       rw [hci] at hc'
       have hs1:=suf_same hi' hj' h1
       have hs2:=suf_same hj' hi' h1.symm
       have hk:∀ h,key T h i=W T i::key T h (i+1):=fun h=>key_no h hi' hci
       have hk2:∀ h,key T h j=W T j::key T h (j+1):=fun h=>key_no h hj' hc'.symm
       rcases ih (i+1) (j+1) (by omega) (by omega) (by omega) (by omega) (fun _ _ hw2=>by rw [isc_succ,isc_succ,h2,(W_eq hw2).2]) with ⟨d,hm1,⟨P,hP⟩,hm3,hm4⟩ | ⟨ha,hb⟩ | ⟨ha,hb⟩
       ·refine .inl ⟨d+1,meet_succ hw hci hc'.symm hm1,⟨W T i::P,fun h=>?_⟩,?_,?_⟩
        ·rw [hk,hk2,(hP h).1,(hP h).2,hw,show i+1+d=i+(d+1) by omega,show j+1+d=j+(d+1) by omega]
         simp
        ·rw [hs1,hm3,show i+1+d=i+(d+1) by omega,show j+1+d=j+(d+1) by omega]
        ·rw [hs2,hm4,show i+1+d=i+(d+1) by omega,show j+1+d=j+(d+1) by omega]
       ·refine .inr (.inl ⟨fun h h'=>?_,by rw [hs1];exact hb⟩)
        rw [hk,hk2,hw,lexB_same];exact ha h h'
       ·refine .inr (.inr ⟨fun h h'=>?_,by rw [hs2];exact hb⟩)
        rw [hk,hk2,hw,lexB_same];exact ha h h'
    ·refine .inr (.inr ⟨fun h h'=>?_,suf_W hj' hi' hw⟩)
     rw [key_in h hi',key_in h' hj']
     exact lexB_lt hw _ _
   ·refine .inr (.inr ⟨fun h h'=>?_,suf_in (by omega) hi'⟩)
    rw [key_in h hi',key_end h' (by omega)]
    exact lexB_lt (W_pos _ _) _ _
def Same (T:List Nat) (i j:Nat):Prop:=W T i=W T j∧∃ d,Met T (i+1) (j+1) d
theorem keyG_cmp (T:List Nat) {i j:Nat} (hi:i<T.length) (hj:j<T.length) (hne:i≠j):
  Same T i j∨((∀ h h',lexB (keyG T h i) (keyG T h' j)=true)∧sufB T i j=true)∨((∀ h h',lexB (keyG T h' j) (keyG T h i)=true)∧sufB T j i=true):=by
 rcases Nat.lt_trichotomy (W T i) (W T j) with hw | hw | hw
 ·exact .inr (.inl ⟨fun h h'=>lexB_lt hw _ _,suf_W hi hj hw⟩)
 ·obtain ⟨h1,h2⟩:=W_eq hw
  rcases key_cmp T _ (i+1) (j+1) rfl (by omega) (by omega) (by omega) (fun _ _ hw2=>by rw [isc_succ,isc_succ,h2,(W_eq hw2).2]) with ⟨d,hd⟩ | ⟨ha,hb⟩ | ⟨ha,hb⟩
  ·exact .inl ⟨hw,d,hd⟩
  ·refine .inr (.inl ⟨fun h h'=>?_,by rw [suf_same hi hj h1];exact hb⟩)
   unfold keyG;rw [hw,lexB_same];exact ha h h'
  ·refine .inr (.inr ⟨fun h h'=>?_,by rw [suf_same hj hi h1.symm];exact hb⟩)
   unfold keyG;rw [hw,lexB_same];exact ha h h'
 ·exact .inr (.inr ⟨fun h h'=>lexB_lt hw _ _,suf_W hj hi hw⟩)
theorem same_suf {T:List Nat} {i j:Nat} (hi:i<T.length) (hj:j<T.length) (h:Same T i j):∃ d,Meet T (i+1) (j+1) d∧(∃ P,∀ h,keyG T h i=P++h (i+1+d)∧keyG T h j=P++h (j+1+d))∧sufB T i j=sufB T (i+1+d) (j+1+d):=by
 obtain ⟨hw,d,h1,⟨P,hP⟩,h3,_⟩:=h
 refine ⟨d,h1,⟨W T i::P,fun h=>?_⟩,by rw [suf_same hi hj (W_eq hw).1,h3]⟩
 unfold keyG
 rw [(hP h).1,(hP h).2,hw]
 simp
def cnt:Nat→(Nat→Bool)→Nat
 | 0,_=>0
 | n+1,p=>cnt n p+(p n).toNat
theorem cnt_congr {n:Nat} {p q:Nat→Bool} (h:∀ i,i<n→p i=q i):cnt n p=cnt n q:=by
 induction n with
 | zero=>rfl
 | succ n ih=>unfold cnt;rw [ih fun i hi=>h i (by omega),h n (by omega)]
theorem cnt_mono {n:Nat} {p q:Nat→Bool} (h:∀ i,i<n→p i=true→q i=true):cnt n p≤cnt n q:=by
 induction n with
 | zero=>exact Nat.le_refl _
 | succ n ih=>
   unfold cnt
   have h1:=ih fun i hi=>h i (by omega)
   have h2:=h n (by omega)
   have h3:=Bool.toNat_le (p n)
   cases hp:p n with
   | false=>simp;omega
   | true=>rw [h2 hp];omega
theorem cnt_or {n:Nat} {p q r:Nat→Bool} (h:∀ i,i<n→p i=(q i||r i)) (hd:∀ i,i<n→q i=true→r i=false):cnt n p=cnt n q+cnt n r:=by
 induction n with
 | zero=>rfl
 | succ n ih=>
   unfold cnt
   rw [ih (fun i hi=>h i (by omega)) (fun i hi=>hd i (by omega)),h n (by omega)]
   have h2:=hd n (by omega)
   cases hq:q n with
   | false=>simp;omega
   | true=>rw [h2 hq];simp;omega
theorem cnt_zero {n:Nat} {p:Nat→Bool} (h:∀ i,i<n→p i=false):cnt n p=0:=by
 induction n with
 | zero=>rfl
 | succ n ih=>unfold cnt;rw [ih fun i hi=>h i (by omega),h n (by omega)];rfl
theorem cnt_le (n:Nat) (p:Nat→Bool):cnt n p≤n:=by
 induction n with
 | zero=>exact Nat.le_refl _
 | succ n ih=>unfold cnt;have:=Bool.toNat_le (p n);omega
theorem cnt_all {n:Nat} {p:Nat→Bool} (h:∀ i,i<n→p i=true):cnt n p=n:=by
 induction n with
 | zero=>rfl
 | succ n ih=>unfold cnt;rw [ih fun i hi=>h i (by omega),h n (by omega)];rfl
theorem cnt_one {n i:Nat} (hi:i<n):cnt n (fun j=>j==i)=1:=by
 induction n with
 | zero=>omega
 | succ n ih=>
   unfold cnt
   by_cases h:i=n
   ·subst h
    rw [cnt_zero fun j hj=>by simp;omega]
    simp
   ·rw [ih (by omega)]
    have:(n==i)=false:=by simp;omega
    show 1+(n==i).toNat=1
    rw [this];rfl
theorem cnt_more {n i:Nat} {p q:Nat→Bool} (hi:i<n) (hp:p i=true) (hq:q i=false) (h:∀ j,j<n→j≠i→p j=q j):cnt n p=cnt n q+1:=by
 rw [cnt_or (p:=p) (q:=q) (r:=fun j=>j==i),cnt_one hi]
 ·intro j hj
  by_cases hji:j=i
  ·subst hji;rw [hp,hq];simp
  ·rw [h j hj hji];simp [hji]
 ·intro j hj hqj
  have:j≠i:=fun e=>by rw [e,hq] at hqj;simp at hqj
  simp [this]
theorem cnt_lt {n i:Nat} {p q:Nat→Bool} (hi:i<n) (hp:p i=false) (hq:q i=true) (h:∀ j,j<n→p j=true→q j=true):cnt n p<cnt n q:=by
 have h1:cnt n (fun j=>p j||j==i)=cnt n p+1:=cnt_more hi (by simp) hp fun j _ hne=>by simp [hne]
 have h2:cnt n (fun j=>p j||j==i)≤cnt n q:=cnt_mono fun j hj hh=>by
  simp only [Bool.or_eq_true,beq_iff_eq] at hh
  rcases hh with hh | hh
  ·exact h j hj hh
  ·rw [hh];exact hq
 omega
theorem no_inj:∀ (m n:Nat) (f:Nat→Nat),m<n→(∀ i,i<n→f i<m)→¬ ∀ i j,i<n→j<n→f i=f j→i=j:=by
 intro m
 induction m with
 | zero=>intro n f hn hf _;have:=hf 0 hn;omega
 | succ m ih=>
   intro n f hn hf hi
   obtain ⟨k,rfl⟩:∃ k,n=k+1:=⟨n-1,by omega⟩
   refine ih k (fun i=>if f k<f i then f i-1 else f i) (by omega) ?_ ?_
   ·intro i hik
    have h1:=hf i (by omega)
    have h2:=hf k (by omega)
    have h3:f i≠f k:=fun e=>by have:=hi i k (by omega) (by omega) e;omega
    show (if f k<f i then f i-1 else f i)<m
    split <;> omega
   ·intro i j hik hjk he
    have h3:f i≠f k:=fun e=>by have:=hi i k (by omega) (by omega) e;omega
    have h4:f j≠f k:=fun e=>by have:=hi j k (by omega) (by omega) e;omega
    refine hi i j (by omega) (by omega) ?_
    revert he
    show (if f k<f i then f i-1 else f i)=(if f k<f j then f j-1 else f j)→f i=f j
    split <;> split <;> intro he <;> omega
theorem inj_onto {n:Nat} {f:Nat→Nat} (hf:∀ i,i<n→f i<n) (hi:∀ i j,i<n→j<n→f i=f j→i=j):∀ k,k<n→∃ i,i<n∧f i=k:=by
 intro k hk
 apply Classical.byContradiction
 intro hno
 have hno':∀ i,i<n→f i≠k:=fun i hin e=>hno ⟨i,hin,e⟩
 refine no_inj (n-1) n (fun i=>if k<f i then f i-1 else f i) (by omega) ?_ ?_
 ·intro i hin
  have h1:=hf i hin
  have h2:=hno' i hin
  show (if k<f i then f i-1 else f i)<n-1
  split <;> omega
 ·intro i j hin hjn he
  have h1:=hno' i hin
  have h2:=hno' j hjn
  refine hi i j hin hjn ?_
  revert he
  show (if k<f i then f i-1 else f i)=(if k<f j then f j-1 else f j)→f i=f j
  split <;> split <;> intro he <;> omega
def IsCuts (T C:List Nat):Prop:=C.Nodup∧∀ c,c∈C↔isc T c=true
def ix (C:List Nat) (c:Nat):List Nat:=[C.idxOf c]
def gl (T C:List Nat) (i j:Nat):Bool:=lexB (keyG T (ix C) i) (keyG T (ix C) j)
def fl (T C:List Nat) (i j:Nat):Bool:=lexB (key T (ix C) i) (key T (ix C) j)
theorem idx_inj {C:List Nat} {c c':Nat} (h:c∈C) (h':c'∈C) (e:C.idxOf c=C.idxOf c'):c=c':=by
 have h1:=List.getElem_idxOf (List.idxOf_lt_length_iff.2 h)
 have h2:=List.getElem_idxOf (List.idxOf_lt_length_iff.2 h')
 rw [← h1,← h2]
 congr 1
theorem lexB_single (a b:Nat):lexB [a] [b]=decide (a<b):=by
 rcases Nat.lt_trichotomy a b with h | h | h
 ·rw [lexB_lt h];simp [h]
 ·subst h;rw [lexB_same];simp [lexB]
 ·rw [lexB_gt h];simp;omega
section
variable {T C:List Nat}
theorem gl_total (hC:IsCuts T C) {i j:Nat} (hi:i<T.length) (hj:j<T.length) (hne:i≠j):gl T C i j=true∨gl T C j i=true:=by
 rcases keyG_cmp T hi hj hne with h | ⟨h,_⟩ | ⟨h,_⟩
 ·obtain ⟨d,h1,⟨P,hP⟩,_⟩:=same_suf hi hj h
  have hc1:=(hC.2 _).2 h1.2.1
  have hc2:=(hC.2 _).2 h1.2.2.1
  unfold gl
  rw [(hP (ix C)).1,(hP (ix C)).2,lexB_pre,lexB_pre]
  unfold ix
  rw [lexB_single,lexB_single]
  have:C.idxOf (i+1+d)≠C.idxOf (j+1+d):=fun e=>by have:=idx_inj hc1 hc2 e;omega
  simp only [decide_eq_true_eq]
  omega
 ·exact .inl (h _ _)
 ·exact .inr (h _ _)
theorem gl_irrefl (i:Nat):gl T C i i=false:=lexB_irrefl _
theorem gl_asymm {i j:Nat} (h:gl T C i j=true):gl T C j i=false:=lexB_asymm _ _ h
theorem gl_trans {i j k:Nat} (h:gl T C i j=true) (h2:gl T C j k=true):gl T C i k=true:=lexB_trans _ _ _ h h2
theorem gl_letter {i j:Nat} (h:T.getD i 0<T.getD j 0):gl T C i j=true:=lexB_lt (W_letter h) _ _
theorem gl_kind {i j:Nat} (h:T.getD i 0=T.getD j 0) (h1:ris T i=false) (h2:ris T j=true):gl T C i j=true:=lexB_lt (W_kind h h1 h2) _ _
theorem gl_rise {i j:Nat} (h:T.getD i 0=T.getD j 0) (h1:ris T i=true) (h2:ris T j=true):gl T C i j=gl T C (i+1) (j+1):=by
 unfold gl
 have e1:keyG T (ix C) i=W T i::keyG T (ix C) (i+1):=by
  show W T i::key T (ix C) (i+1)=_
  rw [key_no _ (ris_in h1) (isc_after h1)]
 have e2:keyG T (ix C) j=W T j::keyG T (ix C) (j+1):=by
  show W T j::key T (ix C) (j+1)=_
  rw [key_no _ (ris_in h2) (isc_after h2)]
 rw [e1,e2,W_of h (by rw [h1,h2]),lexB_same]
theorem gl_fall {i j:Nat} (h:T.getD i 0=T.getD j 0) (h1:ris T i=false) (h2:ris T j=false):gl T C i j=fl T C (i+1) (j+1):=by
 unfold gl fl keyG
 rw [W_of h (by rw [h1,h2]),lexB_same]
theorem gl_next:∀ m i,T.length-i=m→ris T i=true→gl T C i (i+1)=true:=by
 intro m
 induction m with
 | zero=>intro i hm h;have:=ris_in h;omega
 | succ m ih=>
   intro i hm h
   have h1:=ris_in h
   have h2:=ris_le h
   by_cases h3:T.getD i 0<T.getD (i+1) 0
   ·exact gl_letter h3
   ·have h4:ris T (i+1)=true:=by rw [← ris_eq h1 (by omega)];exact h
    rw [gl_rise (by omega) h h4]
    exact ih (i+1) (by omega) h4
theorem fl_next:∀ m i,T.length-i=m→i<T.length→ris T i=false→fl T C (i+1) i=true:=by
 intro m
 induction m with
 | zero=>intro i hm h;omega
 | succ m ih=>
   intro i hm hi h
   unfold fl
   rw [key_in _ hi]
   by_cases h1:i+1<T.length
   ·have h2:=fall_le h1 h
    rw [key_in _ h1]
    by_cases h3:T.getD (i+1) 0<T.getD i 0
    ·exact lexB_lt (W_letter h3) _ _
    ·have h4:ris T (i+1)=false:=by rw [← ris_eq h1 (by omega)];exact h
     have h5:=ih (i+1) (by omega) h1 h4
     unfold fl at h5
     rw [isc_not h,isc_not h4,W_of (j:=i) (by omega) (by rw [h4,h]),lexB_same]
     rw [key_in _ h1,isc_not h4,W_of (j:=i) (by omega) (by rw [h4,h])] at h5
     exact h5
   ·rw [key_end _ (by omega)]
    exact lexB_lt (W_pos _ _) _ _
theorem fl_fall {i j:Nat} (hi:i<T.length) (hj:j<T.length) (h1:ris T i=false) (h2:ris T j=false):fl T C i j=gl T C i j:=by
 unfold fl gl
 rw [key_no _ hi (isc_not h1),key_no _ hj (isc_not h2)]
def pos (T C:List Nat) (i:Nat):Nat:=cnt T.length fun j=>gl T C j i
theorem pos_mono {i j:Nat} (hi:i<T.length) (h:gl T C i j=true):pos T C i<pos T C j:=
 cnt_lt hi (gl_irrefl i) h fun _ _ hk=>gl_trans hk h
theorem pos_lt {i:Nat} (hi:i<T.length):pos T C i<T.length:=by
 have:=cnt_lt (p:=fun j=>gl T C j i) (q:=fun _=>true) hi (gl_irrefl i) rfl fun _ _ _=>rfl
 rw [cnt_all (p:=fun _=>true) fun _ _=>rfl] at this
 exact this
theorem pos_inj (hC:IsCuts T C) {i j:Nat} (hi:i<T.length) (hj:j<T.length) (h:pos T C i=pos T C j):i=j:=by
 apply Classical.byContradiction
 intro hne
 rcases gl_total hC hi hj hne with h1 | h1
 ·have:=pos_mono hi h1;omega
 ·have:=pos_mono hj h1;omega
theorem pos_iff (hC:IsCuts T C) {i j:Nat} (hi:i<T.length) (hj:j<T.length):gl T C i j=decide (pos T C i<pos T C j):=by
 cases h:gl T C i j with
 | true=>simp [pos_mono hi h]
 | false=>
   by_cases hne:i=j
   ·subst hne;simp
   ·rcases gl_total hC hi hj hne with h1 | h1
    ·rw [h] at h1;simp at h1
    ·have:=pos_mono hj h1
     simp;omega
theorem pos_onto (hC:IsCuts T C) {k:Nat} (hk:k<T.length):∃ i,i<T.length∧pos T C i=k:=
 inj_onto (fun _ hi=>pos_lt hi) (fun _ _ hi hj h=>pos_inj hC hi hj h) k hk
def bst (T:List Nat) (l:Nat):Nat:=cnt T.length fun j=>decide (T.getD j 0<l)
def nF (T:List Nat) (l:Nat):Nat:=cnt T.length fun j=>!ris T j&&T.getD j 0==l
def nR (T:List Nat) (l:Nat):Nat:=cnt T.length fun j=>ris T j&&T.getD j 0==l
theorem bst_succ (T:List Nat) (l:Nat):bst T (l+1)=bst T l+nF T l+nR T l:=by
 have h1:bst T (l+1)=bst T l+cnt T.length (fun j=>T.getD j 0==l):=cnt_or (fun i _=>by
  by_cases h:T.getD i 0<l
  ·simp only [h,decide_true,Bool.true_or,decide_eq_true_eq];omega
  ·by_cases h2:T.getD i 0=l
   ·rw [h2];simp
   ·rw [decide_eq_false (by omega),decide_eq_false (by omega),beq_eq_false_iff_ne.2 h2];rfl) (fun i _ h=>by
  simp only [decide_eq_true_eq] at h
  exact beq_eq_false_iff_ne.2 (by omega))
 have h2:cnt T.length (fun j=>T.getD j 0==l)=nF T l+nR T l:=cnt_or (fun i _=>by cases ris T i <;> simp) (fun i _ h=>by
  simp only [Bool.and_eq_true,Bool.not_eq_true'] at h
  rw [h.1];rfl)
 omega
theorem bst_mono (T:List Nat) {l m:Nat} (h:l≤m):bst T l≤bst T m:=cnt_mono fun i _ hi=>by
 simp only [decide_eq_true_eq] at hi ⊢;omega
theorem bst_le (T:List Nat) (l:Nat):bst T l≤T.length:=cnt_le _ _
theorem pos_fall {i:Nat} (h:ris T i=false):pos T C i=bst T (T.getD i 0)+cnt T.length (fun j=>!ris T j&&T.getD j 0==T.getD i 0&&gl T C j i):=
 cnt_or (fun j _=>by
  rcases Nat.lt_trichotomy (T.getD j 0) (T.getD i 0) with h1 | h1 | h1
  ·rw [gl_letter h1,decide_eq_true h1];rfl
  ·cases h2:ris T j with
   | false=>rw [h1];simp
   | true=>rw [gl_asymm (gl_kind h1.symm h h2),decide_eq_false (by omega)];rfl
  ·rw [gl_asymm (gl_letter h1),decide_eq_false (by omega)];simp) (fun j _ h1=>by
  simp only [decide_eq_true_eq] at h1
  rw [beq_eq_false_iff_ne.2 (by omega)];simp)
theorem pos_rise (hC:IsCuts T C) {i:Nat} (hi:i<T.length) (h:ris T i=true):bst T (T.getD i 0+1)=pos T C i+1+cnt T.length (fun j=>ris T j&&T.getD j 0==T.getD i 0&&gl T C i j):=by
 have h0:cnt T.length (fun j=>gl T C j i||j==i)=pos T C i+1:=cnt_more hi (by simp) (gl_irrefl i) fun j _ hne=>by simp [hne]
 rw [← h0]
 exact cnt_or (fun j hj=>by
  rcases Nat.lt_trichotomy (T.getD j 0) (T.getD i 0) with h1 | h1 | h1
  ·rw [gl_letter h1,decide_eq_true (by omega)];rfl
  ·rw [decide_eq_true (by omega)]
   by_cases hne:j=i
   ·subst hne;simp
   ·rcases gl_total hC hj hi hne with h2 | h2
    ·rw [h2];rfl
    ·cases h3:ris T j with
     | true=>rw [h2,h1];simp
     | false=>rw [gl_kind h1 h3 h] ; rfl
  ·rw [decide_eq_false (by omega),gl_asymm (gl_letter h1),beq_eq_false_iff_ne.2 (by omega:T.getD j 0≠T.getD i 0)]
   have:j≠i:=fun e=>by rw [e] at h1;omega
   simp [this]) (fun j _ h1=>by
  simp only [Bool.or_eq_true,beq_iff_eq] at h1
  rcases h1 with h1 | h1
  ·rw [gl_asymm h1];simp
  ·subst h1;rw [gl_irrefl];simp)
end
end Go.Proofs.YtmjpnbadfmgimaaGreatDoor.S8.Pl
namespace Go.Proofs.YtmjpnbadfmgimaaGreatDoor.S8.Pl
theorem set_getD (O:List Int) (q p:Nat) (v:Int):(O.set q v).getD p 0=if p=q∧q<O.length then v else O.getD p 0:=by
 by_cases h:p=q
 ·subst h
  by_cases h2:p<O.length
  ·simp [List.getD,h2]
  ·simp [List.getD,h2]
 ·simp [List.getD,h,List.getElem?_set_ne (Ne.symm h)]
section
variable {T C:List Nat}
def qAt (T C:List Nat) (l a:Nat):Nat:=cnt T.length fun c=>isc T c&&T.getD c 0==l&&decide (a≤C.idxOf c)
def qc (T C:List Nat) (c:Nat):Nat:=bst T (T.getD c 0+1)-qAt T C (T.getD c 0) (C.idxOf c)
def pf (T C:List Nat) (j:Nat):Nat:=if ris T j then qc T C j else pos T C j
def p1 (T C:List Nat) (j:Nat):Nat:=if j=T.length then 0 else pf T C j+1
def Dom (T:List Nat) (j:Nat):Prop:=isc T j=true∨ris T j=false
theorem qAt_le (l a:Nat):qAt T C l a≤nR T l:=cnt_mono fun i _ h=>by
 simp only [Bool.and_eq_true,beq_iff_eq] at h
 rw [(isc_parts h.1.1).2.1,h.1.2];simp
theorem qAt_pos {c:Nat} (hc:isc T c=true):0<qAt T C (T.getD c 0) (C.idxOf c):=by
 have h:=(isc_parts hc).2.2.2
 have:=cnt_lt (n:=T.length) (i:=c) (p:=fun _=>false) (q:=fun c'=>isc T c'&&T.getD c' 0==T.getD c 0&&decide (C.idxOf c≤C.idxOf c')) (by omega) rfl (by simp [hc]) (fun _ _ h=>by simp at h)
 unfold qAt
 omega
theorem pf_lo {j:Nat} (hd:Dom T j):bst T (T.getD j 0)≤pf T C j:=by
 unfold pf
 cases h:ris T j with
 | false=>simp only [Bool.false_eq_true,if_false];rw [pos_fall h];omega
 | true=>
   simp only [if_true]
   unfold qc
   have h1:=bst_succ T (T.getD j 0)
   have h2:=qAt_le (T:=T) (C:=C) (T.getD j 0) (C.idxOf j)
   omega
theorem fall_hi {j:Nat} (hj:j<T.length) (h:ris T j=false):pos T C j<bst T (T.getD j 0)+nF T (T.getD j 0):=by
 rw [pos_fall h]
 have:cnt T.length (fun i=>!ris T i&&T.getD i 0==T.getD j 0&&gl T C i j)<nF T (T.getD j 0):=cnt_lt hj (by rw [gl_irrefl];simp) (by simp [h]) fun i _ h=>by
  rw [Bool.and_eq_true] at h;exact h.1
 omega
theorem pf_hi {j:Nat} (hj:j<T.length) (hd:Dom T j):pf T C j<bst T (T.getD j 0+1):=by
 unfold pf
 have h1:=bst_succ T (T.getD j 0)
 cases h:ris T j with
 | false=>simp only [Bool.false_eq_true,if_false];have:=fall_hi (C:=C) hj h;omega
 | true=>
   simp only [if_true]
   have hc:isc T j=true:=by rcases hd with hd | hd;exact hd;rw [h] at hd;simp at hd
   unfold qc
   have h2:=qAt_le (T:=T) (C:=C) (T.getD j 0) (C.idxOf j)
   have h3:=qAt_pos (C:=C) hc
   omega
theorem pf_lt {j:Nat} (hj:j<T.length) (hd:Dom T j):pf T C j<T.length:=
 Nat.lt_of_lt_of_le (pf_hi hj hd) (bst_le _ _)
theorem fl_total (hC:IsCuts T C) {i j:Nat} (hi:i<T.length) (hj:j<T.length) (di:Dom T i) (dj:Dom T j) (hne:i≠j):fl T C i j=true∨fl T C j i=true:=by
 rcases Nat.lt_trichotomy (W T i) (W T j) with hw | hw | hw
 ·left;unfold fl;rw [key_in _ hi,key_in _ hj];exact lexB_lt hw _ _
 ·obtain ⟨h1,h2⟩:=W_eq hw
  cases hr:ris T i with
  | false=>
    rw [fl_fall hi hj hr (by rw [← h2,hr]),fl_fall hj hi (by rw [← h2,hr]) hr]
    exact gl_total hC hi hj hne
  | true=>
    have c1:isc T i=true:=by rcases di with d | d;exact d;rw [hr] at d;simp at d
    have c2:isc T j=true:=by rcases dj with d | d;exact d;rw [← h2,hr] at d;simp at d
    unfold fl
    rw [key_in _ hi,key_in _ hj,c1,c2,hw,lexB_same,lexB_same]
    simp only [if_true,ix,lexB_single,decide_eq_true_eq]
    have:C.idxOf i≠C.idxOf j:=fun e=>hne (idx_inj ((hC.2 _).2 c1) ((hC.2 _).2 c2) e)
    omega
 ·right;unfold fl;rw [key_in _ hi,key_in _ hj];exact lexB_lt hw _ _
theorem pf_mono (hC:IsCuts T C) {i j:Nat} (hi:i<T.length) (hj:j<T.length) (di:Dom T i) (dj:Dom T j) (h:fl T C i j=true):pf T C i<pf T C j:=by
 rcases Nat.lt_trichotomy (W T i) (W T j) with hw | hw | hw
 ·rcases W_lt hw with h1 | ⟨h1,h2,h3⟩
  ·have a:=pf_hi (C:=C) hi di
   have b:=pf_lo (C:=C) dj
   have c:=bst_mono T (l:=T.getD i 0+1) (m:=T.getD j 0) (by omega)
   omega
  ·have a:=fall_hi (C:=C) hi h2
   unfold pf
   rw [h2,h3]
   simp only [Bool.false_eq_true,if_false,if_true]
   unfold qc
   have b:=bst_succ T (T.getD j 0)
   have c:=qAt_le (T:=T) (C:=C) (T.getD j 0) (C.idxOf j)
   rw [h1] at a
   omega
 ·obtain ⟨h1,h2⟩:=W_eq hw
  cases hr:ris T i with
  | false=>
    rw [fl_fall hi hj hr (by rw [← h2,hr])] at h
    unfold pf
    rw [← h2,hr]
    simp only [Bool.false_eq_true,if_false]
    exact pos_mono hi h
  | true=>
    have c1:isc T i=true:=by rcases di with d | d;exact d;rw [hr] at d;simp at d
    have c2:isc T j=true:=by rcases dj with d | d;exact d;rw [← h2,hr] at d;simp at d
    unfold fl at h
    rw [key_in _ hi,key_in _ hj,c1,c2,hw,lexB_same] at h
    simp only [if_true,ix,lexB_single,decide_eq_true_eq] at h
    unfold pf
    rw [← h2,hr]
    simp only [if_true]
    unfold qc
    rw [h1]
    have a:=bst_succ T (T.getD j 0)
    have b:=qAt_le (T:=T) (C:=C) (T.getD j 0) (C.idxOf i)
    have c:qAt T C (T.getD j 0) (C.idxOf j)<qAt T C (T.getD j 0) (C.idxOf i):=cnt_lt hi (by
     rw [c1,h1,decide_eq_false (by omega)];simp) (by rw [c1,h1];simp) (fun k _ hk=>by
     simp only [Bool.and_eq_true,decide_eq_true_eq] at hk ⊢
     exact ⟨hk.1,by omega⟩)
    omega
 ·unfold fl at h
  rw [key_in _ hi,key_in _ hj,lexB_gt hw] at h
  simp at h
theorem p1_end:p1 T C T.length=0:=by unfold p1;simp
theorem p1_in {j:Nat} (hj:j<T.length):p1 T C j=pf T C j+1:=by unfold p1;rw [if_neg (by omega)]
theorem p1_iff (hC:IsCuts T C) {i j:Nat} (hi:i≤T.length) (hj:j≤T.length) (di:i=T.length∨Dom T i) (dj:j=T.length∨Dom T j):fl T C i j=decide (p1 T C i<p1 T C j):=by
 by_cases hi':i=T.length
 ·subst hi'
  rw [p1_end]
  by_cases hj':j=T.length
  ·subst hj';rw [p1_end];exact lexB_irrefl _
  ·rw [p1_in (by omega)]
   unfold fl
   rw [key_end _ (Nat.le_refl _),key_in _ (by omega),lexB_lt (W_pos _ _)]
   simp
 ·have hi2:i<T.length:=by omega
  have di2:Dom T i:=by rcases di with d | d;omega;exact d
  rw [p1_in hi2]
  by_cases hj':j=T.length
  ·subst hj'
   rw [p1_end]
   unfold fl
   rw [key_end _ (Nat.le_refl _),key_in _ (by omega),lexB_gt (W_pos _ _)]
   simp
  ·have hj2:j<T.length:=by omega
   have dj2:Dom T j:=by rcases dj with d | d;omega;exact d
   rw [p1_in hj2]
   cases h:fl T C i j with
   | true=>have:=pf_mono hC hi2 hj2 di2 dj2 h;rw [decide_eq_true (by omega)]
   | false=>
     by_cases hne:i=j
     ·subst hne;simp
     ·rcases fl_total hC hi2 hj2 di2 dj2 hne with h1 | h1
      ·rw [h] at h1;simp at h1
      ·have:=pf_mono hC hj2 hi2 dj2 di2 h1;rw [decide_eq_false (by omega)]
theorem p1_inj (hC:IsCuts T C) {i j:Nat} (hi:i≤T.length) (hj:j≤T.length) (di:i=T.length∨Dom T i) (dj:j=T.length∨Dom T j) (h:p1 T C i=p1 T C j):i=j:=by
 apply Classical.byContradiction
 intro hne
 by_cases hi':i=T.length
 ·rw [hi',p1_end,p1_in (by omega)] at h;omega
 ·by_cases hj':j=T.length
  ·rw [hj',p1_end,p1_in (by omega)] at h;omega
  ·have di2:Dom T i:=by rcases di with d | d;omega;exact d
   have dj2:Dom T j:=by rcases dj with d | d;omega;exact d
   rw [p1_in (by omega),p1_in (by omega)] at h
   rcases fl_total hC (by omega) (by omega) di2 dj2 hne with h1 | h1
   ·have:=pf_mono hC (by omega) (by omega) di2 dj2 h1;omega
   ·have:=pf_mono hC (by omega) (by omega) dj2 di2 h1;omega
theorem dom_next {i:Nat} (hi:i<T.length) (h:ris T i=false):i+1=T.length∨Dom T (i+1):=by
 by_cases h1:i+1=T.length
 ·exact .inl h1
 ·refine .inr ?_
  unfold Dom
  rw [isc_succ,h]
  cases ris T (i+1) <;> simp
structure FInv (T C:List Nat) (K k:Nat) (O S:List Int):Prop where
 lenO:O.length=T.length
 lenS:S.length=K+1
 starts:∀ l,l<K→S.getD l 0=((bst T l+cnt T.length fun i=>!ris T i&&T.getD i 0==l&&decide (p1 T C (i+1)<k):Nat):Int)
 put:∀ j,j<T.length→(isc T j=true∨(ris T j=false∧p1 T C (j+1)<k))→O.getD (pf T C j) 0=(j:Int)
 rest:∀ p,p<T.length→(∀ j,j<T.length→Dom T j→pf T C j≠p)→O.getD p 0=-1
def FAt (T C:List Nat) (k:Nat) (later:Int):Prop:=
 (∃ j:Nat,j≤T.length∧(j=T.length∨Dom T j)∧p1 T C j=k∧later=(j:Int))∨((∀ j,j≤T.length→(j=T.length∨Dom T j)→p1 T C j≠k)∧later=-1)
theorem fAt_first (hT:T.length=T.length):FAt T C 0 (T.length:Int):=.inl ⟨T.length,Nat.le_refl _,.inl rfl,p1_end,rfl⟩
theorem fAt_next {K k:Nat} {O S:List Int} (hC:IsCuts T C) (h:FInv T C K (k+1) O S) (hk:k<T.length):FAt T C (k+1) (O.getD k 0):=by
 by_cases he:∃ j,j<T.length∧Dom T j∧pf T C j=k
 ·obtain ⟨j,hj,hd,hp⟩:=he
  refine .inl ⟨j,by omega,.inr hd,by rw [p1_in hj,hp],?_⟩
  rw [← hp]
  refine h.put j hj ?_
  rcases hd with hd | hd
  ·exact .inl hd
  ·refine .inr ⟨hd,?_⟩
   have h1:=fl_next (C:=C) _ j rfl hj hd
   rw [p1_iff hC (by omega) (by omega) (dom_next hj hd) (.inr (.inr hd))] at h1
   simp only [decide_eq_true_eq] at h1
   rw [p1_in hj,hp] at h1
   exact h1
 ·refine .inr ⟨fun j hj hd hp=>?_,h.rest k hk fun j hj hd hp=>he ⟨j,hj,hd,hp⟩⟩
  by_cases hj':j=T.length
  ·rw [hj',p1_end] at hp;omega
  ·rw [p1_in (by omega)] at hp
   refine he ⟨j,by omega,?_,by omega⟩
   rcases hd with d | d
   ·omega
   ·exact d
theorem fAt_range {k:Nat} {later:Int} (h:FAt T C k later):-1≤later∧later≤T.length:=by
 rcases h with ⟨j,h1,_,_,rfl⟩ | ⟨_,rfl⟩ <;> omega
theorem fall_put (hC:IsCuts T C) {K k:Nat} {O S:List Int} (h:FInv T C K k O S) {i:Nat} (ha:FAt T C k ((i+1:Nat):Int)) (hr:ris T i=false) (hK:T.getD i 0<K):
  i<T.length∧S.getD (T.getD i 0) 0=(pos T C i:Int)∧pos T C i<T.length∧FInv T C K (k+1) (O.set (pos T C i) i) (S.set (T.getD i 0) ((pos T C i:Int)+1)):=by
 obtain ⟨hj,hd,hp⟩:i+1≤T.length∧(i+1=T.length∨Dom T (i+1))∧p1 T C (i+1)=k:=by
  rcases ha with ⟨j,h1,h2,h3,h4⟩ | ⟨_,h4⟩
  ·obtain rfl:j=i+1:=by omega
   exact ⟨h1,h2,h3⟩
  ·omega
 have hi:i<T.length:=by omega
 have hpl:=pos_lt (C:=C) hi
 have hpf:pf T C i=pos T C i:=by unfold pf;rw [hr];rfl
 have hS:S.getD (T.getD i 0) 0=(pos T C i:Int):=by
  rw [h.starts _ hK,pos_fall hr]
  congr 2
  refine cnt_congr fun j hj=>?_
  cases hrj:ris T j with
  | true=>rfl
  | false=>
    by_cases hl:T.getD j 0=T.getD i 0
    ·rw [gl_fall hl hrj hr,p1_iff hC (by omega) (by omega) (dom_next hj hrj) hd,hp]
    ·rw [beq_eq_false_iff_ne.2 hl];rfl
 refine ⟨hi,hS,hpl,⟨by rw [List.length_set];exact h.lenO,by rw [List.length_set];exact h.lenS,fun l hl=>?_,fun j hj2 hc=>?_,fun p hp2 hn=>?_⟩⟩
 ·rw [set_getD,h.lenS]
  by_cases hli:l=T.getD i 0
  ·subst hli
   rw [if_pos ⟨rfl,by omega⟩,← hS,h.starts _ hl]
   have:cnt T.length (fun j=>!ris T j&&T.getD j 0==T.getD i 0&&decide (p1 T C (j+1)<k+1))=cnt T.length (fun j=>!ris T j&&T.getD j 0==T.getD i 0&&decide (p1 T C (j+1)<k))+1:=cnt_more hi (by simp [hr,hp]) (by simp [hp]) fun j hj2 hne=>by
    cases hrj:ris T j with
    | true=>rfl
    | false=>
      congr 1
      have:p1 T C (j+1)≠k:=fun e=>hne (by have:=p1_inj hC (by omega) hj (dom_next hj2 hrj) hd (by rw [e,hp]);omega)
      simp only [decide_eq_decide]
      omega
   rw [this]
   omega
  ·rw [if_neg (fun e=>hli e.1),h.starts _ hl]
   congr 2
   refine cnt_congr fun j hj2=>?_
   cases hrj:ris T j with
   | true=>rfl
   | false=>
     by_cases hlj:T.getD j 0=l
     ·congr 1
      have:p1 T C (j+1)≠k:=fun e=>by
       have:=p1_inj hC (by omega) hj (dom_next hj2 hrj) hd (by rw [e,hp])
       obtain rfl:j=i:=by omega
       exact hli hlj.symm
      simp only [decide_eq_decide]
      omega
     ·rw [beq_eq_false_iff_ne.2 hlj];rfl
 ·rw [set_getD,h.lenO]
  by_cases hji:j=i
  ·subst hji
   rw [if_pos ⟨hpf,by omega⟩]
  ·have hdj:Dom T j:=by rcases hc with hc | hc;exact .inl hc;exact .inr hc.1
   have hne:pf T C j≠pos T C i:=fun e=>hji (p1_inj hC (by omega) (by omega) (.inr hdj) (.inr (.inr hr)) (by rw [p1_in hj2,p1_in hi,e,hpf]))
   rw [if_neg (fun e=>hne e.1)]
   refine h.put j hj2 ?_
   rcases hc with hc | hc
   ·exact .inl hc
   ·refine .inr ⟨hc.1,?_⟩
    have:p1 T C (j+1)≠k:=fun e=>hji (by have:=p1_inj hC (by omega) hj (dom_next hj2 hc.1) hd (by rw [e,hp]);omega)
    omega
 ·rw [set_getD,if_neg (fun e=>hn i hi (.inr hr) (by rw [hpf];exact e.1.symm))]
  exact h.rest p hp2 hn
theorem fall_skip {K k:Nat} {O S:List Int} (hC:IsCuts T C) (h:FInv T C K k O S) {later:Int} (ha:FAt T C k later) (hno:∀ i:Nat,later=((i+1:Nat):Int)→ris T i=true):FInv T C K (k+1) O S:=by
 have hne:∀ j,j<T.length→ris T j=false→p1 T C (j+1)≠k:=by
  intro j hj hr e
  rcases ha with ⟨x,h1,h2,h3,h4⟩ | ⟨h1,_⟩
  ·have:=p1_inj hC (by omega) h1 (dom_next hj hr) h2 (by rw [e,h3])
   have:=hno j (by rw [h4,← this])
   rw [hr] at this
   simp at this
  ·exact h1 (j+1) (by omega) (dom_next hj hr) e
 refine ⟨h.lenO,h.lenS,fun l hl=>?_,fun j hj hc=>h.put j hj ?_,h.rest⟩
 ·rw [h.starts l hl]
  congr 2
  refine cnt_congr fun j hj=>?_
  cases hrj:ris T j with
  | true=>rfl
  | false=>
    congr 1
    have:=hne j hj hrj
    simp only [decide_eq_decide]
    omega
 ·rcases hc with hc | hc
  ·exact .inl hc
  ·have:=hne j hj hc.1
   exact .inr ⟨hc.1,by omega⟩
theorem fall_end {K:Nat} {O S:List Int} (h:FInv T C K (T.length+1) O S):∀ i,i<T.length→ris T i=false→O.getD (pos T C i) 0=(i:Int):=by
 intro i hi hr
 have hpf:pf T C i=pos T C i:=by unfold pf;rw [hr];rfl
 rw [← hpf]
 refine h.put i hi (.inr ⟨hr,?_⟩)
 by_cases h1:i+1=T.length
 ·rw [h1,p1_end];omega
 ·rw [p1_in (by omega)]
  have hd:Dom T (i+1):=by rcases dom_next hi hr with d | d;omega;exact d
  have:=pf_lt (C:=C) (by omega:i+1<T.length) hd
  omega
structure RInv (T C:List Nat) (K k:Nat) (O E:List Int):Prop where
 lenO:O.length=T.length
 lenE:E.length=K
 ends:∀ l,l<K→E.getD l 0=(bst T (l+1):Int)-(cnt T.length fun i=>ris T i&&T.getD i 0==l&&decide (k≤pos T C (i+1)):Nat)
 put:∀ i,i<T.length→(ris T i=false∨k≤pos T C (i+1))→O.getD (pos T C i) 0=(i:Int)
theorem rise_start {K:Nat} {O E:List Int} (hO:O.length=T.length) (hE:E.length=K) (hs:∀ l,l<K→E.getD l 0=(bst T (l+1):Int)) (hf:∀ i,i<T.length→ris T i=false→O.getD (pos T C i) 0=(i:Int)):RInv T C K T.length O E:=by
 refine ⟨hO,hE,fun l hl=>?_,fun i hi h=>hf i hi ?_⟩
 ·rw [hs l hl,cnt_zero]
  ·simp
  ·intro i _
   cases hr:ris T i with
   | false=>rfl
   | true=>
     have:=pos_lt (C:=C) (ris_in hr)
     rw [decide_eq_false (by omega)];simp
 ·rcases h with h | h
  ·exact h
  ·cases hr:ris T i with
   | false=>rfl
   | true=>have:=pos_lt (C:=C) (ris_in hr);omega
theorem rise_at (hC:IsCuts T C) {K k:Nat} {O E:List Int} (h:RInv T C K (k+1) O E) (hk:k<T.length):∃ j,j<T.length∧pos T C j=k∧O.getD k 0=(j:Int):=by
 obtain ⟨j,hj,hp⟩:=pos_onto hC hk
 refine ⟨j,hj,hp,?_⟩
 rw [← hp]
 refine h.put j hj ?_
 cases hr:ris T j with
 | false=>exact .inl rfl
 | true=>
   have:=pos_mono hj (gl_next (C:=C) _ j rfl hr)
   exact .inr (by omega)
theorem rise_skip (hC:IsCuts T C) {K k:Nat} {O E:List Int} (h:RInv T C K (k+1) O E) {j:Nat} (hj:j<T.length) (hp:pos T C j=k) (hno:∀ i,j=i+1→ris T i=false):RInv T C K k O E:=by
 have hne:∀ i,i<T.length→ris T i=true→pos T C (i+1)≠k:=by
  intro i hi hr e
  have:=hno i (pos_inj hC hj (ris_in hr) (by rw [e,hp]))
  rw [hr] at this
  simp at this
 refine ⟨h.lenO,h.lenE,fun l hl=>?_,fun i hi hc=>h.put i hi ?_⟩
 ·rw [h.ends l hl]
  congr 2
  refine cnt_congr fun i hi=>?_
  cases hr:ris T i with
  | false=>rfl
  | true=>
    congr 1
    have:=hne i hi hr
    simp only [decide_eq_decide]
    omega
 ·rcases hc with hc | hc
  ·exact .inl hc
  ·cases hr:ris T i with
   | false=>exact .inl rfl
   | true=>have:=hne i hi hr;exact .inr (by omega)
theorem rise_put (hC:IsCuts T C) {K k:Nat} {O E:List Int} (h:RInv T C K (k+1) O E) {i:Nat} (hj:i+1<T.length) (hp:pos T C (i+1)=k) (hr:ris T i=true) (hK:T.getD i 0<K):
  E.getD (T.getD i 0) 0=(pos T C i:Int)+1∧pos T C i<T.length∧RInv T C K k (O.set (pos T C i) i) (E.set (T.getD i 0) (pos T C i:Int)):=by
 have hi:i<T.length:=by omega
 have hpl:=pos_lt (C:=C) hi
 have hE:E.getD (T.getD i 0) 0=(pos T C i:Int)+1:=by
  rw [h.ends _ hK,pos_rise hC hi hr]
  have:cnt T.length (fun j=>ris T j&&T.getD j 0==T.getD i 0&&decide (k+1≤pos T C (j+1)))=cnt T.length (fun j=>ris T j&&T.getD j 0==T.getD i 0&&gl T C i j):=cnt_congr fun j hj2=>by
   cases hrj:ris T j with
   | false=>rfl
   | true=>
     by_cases hl:T.getD j 0=T.getD i 0
     ·rw [gl_rise hl.symm hr hrj,pos_iff hC hj (ris_in hrj),hp]
      congr 1
     ·rw [beq_eq_false_iff_ne.2 hl];rfl
  rw [this]
  omega
 refine ⟨hE,hpl,⟨by rw [List.length_set];exact h.lenO,by rw [List.length_set];exact h.lenE,fun l hl=>?_,fun x hx hc=>?_⟩⟩
 ·rw [set_getD,h.lenE]
  by_cases hli:l=T.getD i 0
  ·subst hli
   rw [if_pos ⟨rfl,by omega⟩]
   have h1:=h.ends _ hl
   rw [hE] at h1
   have:cnt T.length (fun j=>ris T j&&T.getD j 0==T.getD i 0&&decide (k≤pos T C (j+1)))=cnt T.length (fun j=>ris T j&&T.getD j 0==T.getD i 0&&decide (k+1≤pos T C (j+1)))+1:=cnt_more hi (by simp [hr,hp]) (by simp [hp]) fun j hj2 hne=>by
    cases hrj:ris T j with
    | false=>rfl
    | true=>
      congr 1
      have:pos T C (j+1)≠k:=fun e=>hne (by have:=pos_inj hC (ris_in hrj) hj (by rw [e,hp]);omega)
      simp only [decide_eq_decide]
      omega
   rw [this]
   omega
  ·rw [if_neg (fun e=>hli e.1),h.ends _ hl]
   congr 2
   refine cnt_congr fun j hj2=>?_
   cases hrj:ris T j with
   | false=>rfl
   | true=>
     by_cases hlj:T.getD j 0=l
     ·congr 1
      have:pos T C (j+1)≠k:=fun e=>by
       have:=pos_inj hC (ris_in hrj) hj (by rw [e,hp])
       obtain rfl:j=i:=by omega
       exact hli hlj.symm
      simp only [decide_eq_decide]
      omega
     ·rw [beq_eq_false_iff_ne.2 hlj];rfl
 ·rw [set_getD,h.lenO]
  by_cases hxi:x=i
  ·subst hxi;rw [if_pos ⟨rfl,by omega⟩]
  ·rw [if_neg (fun e=>hxi (pos_inj hC hx hi e.1))]
   refine h.put x hx ?_
   rcases hc with hc | hc
   ·exact .inl hc
   ·cases hrx:ris T x with
    | false=>exact .inl rfl
    | true=>
      have:pos T C (x+1)≠k:=fun e=>hxi (by have:=pos_inj hC (ris_in hrx) hj (by rw [e,hp]);omega)
      exact .inr (by omega)
theorem rise_end {K:Nat} {O E:List Int} (h:RInv T C K 0 O E):∀ i,i<T.length→O.getD (pos T C i) 0=(i:Int):=
 fun i hi=>h.put i hi (.inr (Nat.zero_le _))
structure IInv (T C:List Nat) (K a:Nat) (O E:List Int):Prop where
 lenO:O.length=T.length
 lenE:E.length=K
 ends:∀ l,l<K→E.getD l 0=(bst T (l+1):Int)-(qAt T C l a:Nat)
 put:∀ c,isc T c=true→a≤C.idxOf c→O.getD (qc T C c) 0=(c:Int)
 rest:∀ p,p<T.length→(∀ c,isc T c=true→a≤C.idxOf c→qc T C c≠p)→O.getD p 0=-1
theorem cuts_start {K:Nat} {O E:List Int} (hC:IsCuts T C) (hO:O.length=T.length) (hE:E.length=K) (hs:∀ l,l<K→E.getD l 0=(bst T (l+1):Int)) (hn:∀ p,p<T.length→O.getD p 0=-1):IInv T C K C.length O E:=by
 have hlt:∀ c,isc T c=true→C.idxOf c<C.length:=fun c hc=>List.idxOf_lt_length_iff.2 ((hC.2 c).2 hc)
 refine ⟨hO,hE,fun l hl=>?_,fun c hc h=>by have:=hlt c hc;omega,fun p hp _=>hn p hp⟩
 have:qAt T C l C.length=0:=cnt_zero fun i _=>by
  cases hi:isc T i with
  | false=>rfl
  | true=>have:=hlt i hi;rw [decide_eq_false (by omega)];simp
 rw [hs l hl,this]
 simp
theorem idx_of {a:Nat} (hC:IsCuts T C) (ha:a<C.length):C.idxOf (C.getD a 0)=a:=by
 rw [List.getD_eq_getElem?_getD,List.getElem?_eq_getElem ha,Option.getD_some]
 exact List.Nodup.idxOf_getElem hC.1 a ha
theorem cuts_put (hC:IsCuts T C) {K a:Nat} {O E:List Int} (h:IInv T C K (a+1) O E) (ha:a<C.length) (hK:T.getD (C.getD a 0) 0<K):
  isc T (C.getD a 0)=true∧E.getD (T.getD (C.getD a 0) 0) 0=(qc T C (C.getD a 0):Int)+1∧qc T C (C.getD a 0)<T.length∧IInv T C K a (O.set (qc T C (C.getD a 0)) (C.getD a 0:Nat)) (E.set (T.getD (C.getD a 0) 0) (qc T C (C.getD a 0):Int)):=by
 have hidx:=idx_of hC ha
 have hcm:C.getD a 0∈C:=by rw [List.getD_eq_getElem?_getD,List.getElem?_eq_getElem ha];exact List.getElem_mem ha
 generalize C.getD a 0=c at*
 have hc:=(hC.2 c).1 hcm
 have hcl:=(isc_parts hc).2.2.2
 have hcr:=(isc_parts hc).2.1
 have hpf:pf T C c=qc T C c:=by unfold pf;rw [hcr];rfl
 have hqn:=pf_lt (C:=C) (by omega:c<T.length) (.inl hc)
 rw [hpf] at hqn
 have hmore:qAt T C (T.getD c 0) a=qAt T C (T.getD c 0) (a+1)+1:=cnt_more (by omega:c<T.length) (by simp [hc,hidx]) (by simp [hidx]) fun j _ hne=>by
  cases hj:isc T j with
  | false=>rfl
  | true=>
    congr 1
    have:C.idxOf j≠a:=fun e=>hne (idx_inj ((hC.2 j).2 hj) hcm (by rw [e,hidx]))
    simp only [decide_eq_decide]
    omega
 have hle:=qAt_le (T:=T) (C:=C) (T.getD c 0) a
 have hbs:=bst_succ T (T.getD c 0)
 have hE:E.getD (T.getD c 0) 0=(qc T C c:Int)+1:=by
  rw [h.ends _ hK]
  unfold qc
  rw [hidx]
  omega
 refine ⟨hc,hE,hqn,⟨by rw [List.length_set];exact h.lenO,by rw [List.length_set];exact h.lenE,fun l hl=>?_,fun j hj hja=>?_,fun p hp hn=>?_⟩⟩
 ·rw [set_getD,h.lenE]
  by_cases hli:l=T.getD c 0
  ·subst hli
   rw [if_pos ⟨rfl,by omega⟩]
   unfold qc
   rw [hidx]
   omega
  ·rw [if_neg (fun e=>hli e.1),h.ends _ hl]
   congr 2
   refine cnt_congr fun j _=>?_
   cases hj:isc T j with
   | false=>rfl
   | true=>
     by_cases hlj:T.getD j 0=l
     ·congr 1
      have:C.idxOf j≠a:=fun e=>by
       have:=idx_inj ((hC.2 j).2 hj) hcm (by rw [e,hidx])
       rw [this] at hlj
       exact hli hlj.symm
      simp only [decide_eq_decide]
      omega
     ·rw [beq_eq_false_iff_ne.2 hlj];rfl
 ·rw [set_getD,h.lenO]
  by_cases hjc:j=c
  ·subst hjc;rw [if_pos ⟨rfl,by omega⟩]
  ·have hjl:=(isc_parts hj).2.2.2
   have hpj:pf T C j=qc T C j:=by unfold pf;rw [(isc_parts hj).2.1];rfl
   rw [if_neg (fun e=>hjc (p1_inj hC (by omega) (by omega) (.inr (.inl hj)) (.inr (.inl hc)) (by rw [p1_in (by omega),p1_in (by omega),hpj,hpf,e.1])))]
   refine h.put j hj ?_
   have:C.idxOf j≠a:=fun e=>hjc (idx_inj ((hC.2 j).2 hj) hcm (by rw [e,hidx]))
   omega
 ·rw [set_getD,if_neg (fun e=>hn c hc (by omega) e.1.symm)]
  exact h.rest p hp fun j hj hja=>hn j hj (by omega)
theorem fall_start {K:Nat} {O E S:List Int} (h:IInv T C K 0 O E) (hS:S.length=K+1) (hs:∀ l,l<K→S.getD l 0=(bst T l:Int)):FInv T C K 0 O S:=by
 refine ⟨h.lenO,hS,fun l hl=>?_,fun j hj hc=>?_,fun p hp hn=>h.rest p hp fun c hc _ e=>?_⟩
 ·rw [hs l hl,cnt_zero fun i _=>by simp]
  simp
 ·have hc:isc T j=true:=by rcases hc with hc | hc;exact hc;omega
  have hpj:pf T C j=qc T C j:=by unfold pf;rw [(isc_parts hc).2.1];rfl
  rw [hpj]
  exact h.put j hc (Nat.zero_le _)
 ·have hpj:pf T C c=qc T C c:=by unfold pf;rw [(isc_parts hc).2.1];rfl
  exact hn c (by have:=(isc_parts hc).2.2.2;omega) (.inl hc) (by rw [hpj,e])
end
end Go.Proofs.YtmjpnbadfmgimaaGreatDoor.S8.Pl
namespace Go.Proofs.YtmjpnbadfmgimaaGreatDoor.S8.Pl
theorem getD_get {α:Type} (L:List α) (d:α) {i:Nat} (h:i<L.length):L.getD i d=L[i]:=by simp [List.getD,h]
theorem getD_mem {α:Type} (L:List α) (d:α) {i:Nat} (h:i<L.length):L.getD i d∈L:=by rw [getD_get L d h];exact List.getElem_mem h
theorem getD_idx {L:List Nat} {c:Nat} (h:c∈L):L.getD (L.idxOf c) 0=c:=by
 rw [getD_get L 0 (List.idxOf_lt_length_iff.2 h)];exact List.getElem_idxOf _
theorem pair_at {α:Type} {r:α→α→Prop} {L:List α} (h:L.Pairwise r) (d:α) {a b:Nat} (hab:a<b) (hb:b<L.length):r (L.getD a d) (L.getD b d):=by
 rw [getD_get L d (by omega),getD_get L d hb]
 exact List.pairwise_iff_getElem.1 h a b (by omega) hb hab
section
variable {T C:List Nat}
theorem gl_suf (hC:IsCuts T C) (hs:Rises T C) {i j:Nat} (hi:i<T.length) (hj:j<T.length) (hne:i≠j):gl T C i j=sufB T i j:=by
 rcases keyG_cmp T hi hj hne with h | ⟨h,h2⟩ | ⟨h,h2⟩
 ·obtain ⟨d,h1,⟨P,hP⟩,h3⟩:=same_suf hi hj h
  have hc1:=(hC.2 _).2 h1.2.1
  have hc2:=(hC.2 _).2 h1.2.2.1
  have hq:C.idxOf (i+1+d)≠C.idxOf (j+1+d):=fun e=>by have:=idx_inj hc1 hc2 e;omega
  have l1:=List.idxOf_lt_length_iff.2 hc1
  have l2:=List.idxOf_lt_length_iff.2 hc2
  unfold gl
  rw [(hP (ix C)).1,(hP (ix C)).2,lexB_pre,h3]
  unfold ix
  rw [lexB_single]
  by_cases hlt:C.idxOf (i+1+d)<C.idxOf (j+1+d)
  ·have:=pair_at hs 0 hlt l2
   rw [getD_idx hc1,getD_idx hc2] at this
   rw [this,decide_eq_true hlt]
  ·have:=pair_at hs 0 (by omega:C.idxOf (j+1+d)<C.idxOf (i+1+d)) l1
   rw [getD_idx hc1,getD_idx hc2] at this
   rw [suf_asymm this,decide_eq_false hlt]
 ·rw [h2];exact h _ _
 ·rw [suf_asymm h2];exact lexB_asymm _ _ (h _ _)
theorem order_of (hC:IsCuts T C) {O:List Int} (hO:O.length=T.length) (h:∀ i,i<T.length→O.getD (pos T C i) 0=(i:Int)):
  ∃ R:List Nat,O=R.map (fun (i:Nat)=>(i:Int))∧R.length=T.length∧R.Pairwise (fun i j=>gl T C i j=true)∧∀ i,i∈R↔i<T.length:=by
 have hat:∀ p,p<T.length→∃ i,i<T.length∧pos T C i=p∧O.getD p 0=(i:Int):=fun p hp=>by
  obtain ⟨i,hi,rfl⟩:=pos_onto hC hp
  exact ⟨i,hi,rfl,h i hi⟩
 have hget:∀ p (hp:p<(O.map Int.toNat).length),(O.map Int.toNat)[p]=(O.getD p 0).toNat:=fun p hp=>by
  rw [List.length_map] at hp
  rw [List.getElem_map,getD_get O 0 hp]
 refine ⟨O.map Int.toNat,?_,by rw [List.length_map];exact hO,?_,fun i=>⟨fun hm=>?_,fun hi=>?_⟩⟩
 ·refine List.ext_getElem (by simp) fun p hp _=>?_
  obtain ⟨i,_,_,h3⟩:=hat p (by omega)
  rw [getD_get O 0 hp] at h3
  simp [h3]
 ·rw [List.pairwise_iff_getElem]
  intro a b ha hb hab
  rw [hget a ha,hget b hb]
  rw [List.length_map] at ha hb
  obtain ⟨i,hi,h1,h2⟩:=hat a (by omega)
  obtain ⟨j,hj,h3,h4⟩:=hat b (by omega)
  rw [h2,h4,Int.toNat_natCast,Int.toNat_natCast,pos_iff hC hi hj]
  simp;omega
 ·obtain ⟨p,hp,rfl⟩:=List.mem_iff_getElem.1 hm
  rw [hget p hp]
  rw [List.length_map] at hp
  obtain ⟨i,hi,_,h2⟩:=hat p (by omega)
  rw [h2];exact hi
 ·have hp:=pos_lt (C:=C) hi
  refine List.mem_iff_getElem.2 ⟨pos T C i,by rw [List.length_map];omega,?_⟩
  rw [hget,h i hi]
  rfl
theorem sa_of (hC:IsCuts T C) (hs:Rises T C) {O:List Int} (hO:O.length=T.length) (h:∀ i,i<T.length→O.getD (pos T C i) 0=(i:Int)):
  ∃ R:List Nat,O=R.map (fun (i:Nat)=>(i:Int))∧IsSA T R:=by
 obtain ⟨R,h1,h2,h3,h4⟩:=order_of hC hO h
 refine ⟨R,h1,?_,h4⟩
 unfold Rises
 rw [List.pairwise_iff_getElem] at h3 ⊢
 intro a b ha hb hab
 have:=h3 a b ha hb hab
 rwa [gl_suf hC hs ((h4 _).1 (List.getElem_mem ha)) ((h4 _).1 (List.getElem_mem hb)) (fun e=>by rw [e,gl_irrefl] at this;simp at this)] at this
def cutsOf (T:List Nat):List Nat:=(List.range T.length).filter (isc T)
theorem cutsOf_rise (T:List Nat):(cutsOf T).Pairwise (· < ·):=List.Pairwise.filter _ List.pairwise_lt_range
theorem cutsOf_is (T:List Nat):IsCuts T (cutsOf T):=⟨List.Pairwise.imp (fun {a b} (h:a<b)=>by omega) (cutsOf_rise T),fun c=>by
 unfold cutsOf
 rw [List.mem_filter,List.mem_range]
 exact ⟨fun h=>h.2,fun h=>⟨by have:=(isc_parts h).2.2.2;omega,h⟩⟩⟩
def kp (T:List Nat) (i:Nat):List Nat:=keyG T (fun _=>[]) i
theorem kp_same {i j:Nat} (hi:i<T.length) (hj:j<T.length) (hne:i≠j):kp T i=kp T j↔Same T i j:=by
 constructor
 ·intro h
  rcases keyG_cmp T hi hj hne with h1 | ⟨h1,_⟩ | ⟨h1,_⟩
  ·exact h1
  ·have:=h1 (fun _=>[]) (fun _=>[])
   unfold kp at h
   rw [h,lexB_irrefl] at this;simp at this
  ·have:=h1 (fun _=>[]) (fun _=>[])
   unfold kp at h
   rw [h,lexB_irrefl] at this;simp at this
 ·intro h
  obtain ⟨d,_,⟨P,hP⟩,_⟩:=same_suf hi hj h
  unfold kp
  rw [(hP _).1,(hP _).2]
theorem kp_le {i j:Nat} (hi:i<T.length) (hj:j<T.length) (h:gl T C i j=true):lexB (kp T j) (kp T i)=false:=by
 by_cases hne:i=j
 ·subst hne;exact lexB_irrefl _
 ·rcases keyG_cmp T hi hj hne with h1 | ⟨h1,_⟩ | ⟨h1,_⟩
  ·rw [(kp_same hi hj hne).2 h1];exact lexB_irrefl _
  ·exact lexB_asymm _ _ (h1 _ _)
  ·have:=lexB_asymm _ _ h
   rw [h1] at this;simp at this
theorem kp_suf {i j:Nat} (hi:i<T.length) (hj:j<T.length) (hne:kp T i≠kp T j):sufB T i j=lexB (kp T i) (kp T j):=by
 have hij:i≠j:=fun e=>hne (by rw [e])
 rcases keyG_cmp T hi hj hij with h1 | ⟨h1,h2⟩ | ⟨h1,h2⟩
 ·exact absurd ((kp_same hi hj hij).2 h1) hne
 ·rw [h2];exact (h1 _ _).symm
 ·rw [suf_asymm h2];exact (lexB_asymm _ _ (h1 _ _)).symm
def df (T F:List Nat) (z:Nat):Bool:=z==0||!decide (kp T (F.getD (z-1) 0)=kp T (F.getD z 0))
def ds (T F:List Nat) (x:Nat):Nat:=cnt x (df T F)
theorem ds_succ (T F:List Nat) (x:Nat):ds T F (x+1)=ds T F x+(df T F x).toNat:=rfl
theorem ds_mono (T F:List Nat) {x y:Nat} (h:x≤y):ds T F x≤ds T F y:=by
 induction y with
 | zero=>rw [Nat.le_zero.1 h];exact Nat.le_refl _
 | succ y ih=>
   by_cases hxy:x=y+1
   ·subst hxy;exact Nat.le_refl _
   ·have:=ih (by omega);rw [ds_succ];omega
theorem ds_one (T F:List Nat) (x:Nat):1≤ds T F (x+1):=by
 have h:ds T F 1=1:=rfl
 have:=ds_mono T F (x:=1) (y:=x+1) (by omega)
 omega
structure Ordered (T F:List Nat):Prop where
 cuts:IsCuts T F
 le:∀ x y,x≤y→y<F.length→lexB (kp T (F.getD y 0)) (kp T (F.getD x 0))=false
theorem ordered_filter (hC:IsCuts T C) {R:List Nat} (h:R.Pairwise (fun i j=>gl T C i j=true)) (hm:∀ i,i∈R↔i<T.length):Ordered T (R.filter (isc T))∧(R.filter (isc T)).Pairwise (fun i j=>gl T C i j=true):=by
 have hp:(R.filter (isc T)).Pairwise (fun i j=>gl T C i j=true):=List.Pairwise.filter _ h
 have hmem:∀ c,c∈R.filter (isc T)↔isc T c=true:=fun c=>by
  rw [List.mem_filter,hm]
  exact ⟨fun h=>h.2,fun h=>⟨by have:=(isc_parts h).2.2.2;omega,h⟩⟩
 have hlt:∀ x,x<(R.filter (isc T)).length→(R.filter (isc T)).getD x 0<T.length:=fun x hx=>by
  have:=(isc_parts ((hmem _).1 (getD_mem _ 0 hx))).2.2.2;omega
 refine ⟨⟨⟨List.Pairwise.imp (fun {a b} hab e=>by rw [e,gl_irrefl] at hab;simp at hab) hp,hmem⟩,fun x y hxy hy=>?_⟩,hp⟩
 by_cases he:x=y
 ·subst he;exact lexB_irrefl _
 ·exact kp_le (C:=C) (hlt x (by omega)) (hlt y hy) (pair_at hp 0 (by omega) hy)
variable {F:List Nat}
theorem lexB_anti {A B:List Nat} (h:lexB A B=false) (h2:lexB B A=false):A=B:=by
 apply Classical.byContradiction
 intro hne
 rcases lexB_total A B hne with h3 | h3
 ·rw [h3] at h;simp at h
 ·rw [h3] at h2;simp at h2
theorem ds_eq (hF:Ordered T F) {x y:Nat} (hxy:x≤y) (hy:y<F.length):(ds T F (x+1)=ds T F (y+1)↔kp T (F.getD x 0)=kp T (F.getD y 0)):=by
 induction y with
 | zero=>obtain rfl:x=0:=by omega
         simp
 | succ y ih=>
   by_cases he:x=y+1
   ·subst he;simp
   ·have h1:=ih (by omega) (by omega)
    have hm:=ds_mono T F (x:=x+1) (y:=y+1) (by omega)
    have hs:=ds_succ T F (y+1)
    have hd:df T F (y+1)=!decide (kp T (F.getD y 0)=kp T (F.getD (y+1) 0)):=by unfold df;simp
    by_cases hk:kp T (F.getD y 0)=kp T (F.getD (y+1) 0)
    ·rw [hd,decide_eq_true hk] at hs
     rw [hs,← hk,← h1];simp
    ·rw [hd,decide_eq_false hk] at hs
     simp only [Bool.not_false,Bool.toNat_true] at hs
     constructor
     ·intro e;omega
     ·intro e
      refine absurd (lexB_anti ?_ (hF.le y (y+1) (by omega) hy)) hk
      rw [← e]
      exact hF.le x y (by omega) (by omega)
theorem ds_le (x:Nat):ds T F x≤x:=cnt_le _ _
def num (T F:List Nat) (c:Nat):Nat:=ds T F (F.idxOf c+1)-1
theorem num_eq (hF:Ordered T F) {c c':Nat} (hc:isc T c=true) (hc':isc T c'=true):num T F c=num T F c'↔kp T c=kp T c':=by
 have m1:=(hF.cuts.2 c).2 hc
 have m2:=(hF.cuts.2 c').2 hc'
 have l1:=List.idxOf_lt_length_iff.2 m1
 have l2:=List.idxOf_lt_length_iff.2 m2
 have a:=ds_one T F (F.idxOf c)
 have b:=ds_one T F (F.idxOf c')
 unfold num
 rcases Nat.le_total (F.idxOf c) (F.idxOf c') with h | h
 ·have:=ds_eq hF h l2
  rw [getD_idx m1,getD_idx m2] at this
  rw [← this];omega
 ·have:=ds_eq hF h l1
  rw [getD_idx m1,getD_idx m2] at this
  rw [eq_comm (a:=kp T c),← this];omega
theorem num_lt (hF:Ordered T F) {c c':Nat} (hc:isc T c=true) (hc':isc T c'=true) (h:num T F c<num T F c'):lexB (kp T c) (kp T c')=true:=by
 have m1:=(hF.cuts.2 c).2 hc
 have m2:=(hF.cuts.2 c').2 hc'
 have l1:=List.idxOf_lt_length_iff.2 m1
 have l2:=List.idxOf_lt_length_iff.2 m2
 have hne:kp T c≠kp T c':=fun e=>by have:=(num_eq hF hc hc').2 e;omega
 have hle:F.idxOf c≤F.idxOf c':=by
  apply Classical.byContradiction
  intro hh
  have:=ds_mono T F (x:=F.idxOf c'+1) (y:=F.idxOf c+1) (by omega)
  unfold num at h
  omega
 have:=hF.le _ _ hle l2
 rw [getD_idx m1,getD_idx m2] at this
 rcases lexB_total _ _ hne with h1 | h1
 ·exact h1
 ·rw [h1] at this;simp at this
theorem num_in (hF:Ordered T F) {c:Nat} (hc:isc T c=true):num T F c<ds T F F.length:=by
 have m1:=(hF.cuts.2 c).2 hc
 have l1:=List.idxOf_lt_length_iff.2 m1
 have a:=ds_one T F (F.idxOf c)
 have:=ds_mono T F (x:=F.idxOf c+1) (y:=F.length) (by omega)
 unfold num
 omega
theorem all_different (hF:Ordered T F) (hg:F.Pairwise (fun i j=>gl T C i j=true)) (hd:ds T F F.length=F.length):Rises T F:=by
 have hdf:∀ z,z<F.length→df T F z=true:=fun z hz=>by
  apply Classical.byContradiction
  intro h
  have:=cnt_lt (n:=F.length) (i:=z) (p:=df T F) (q:=fun _=>true) hz (by simpa using h) rfl fun _ _ _=>rfl
  rw [cnt_all (p:=fun _=>true) fun _ _=>rfl] at this
  unfold ds at hd
  omega
 have hlt:∀ x,x<F.length→F.getD x 0<T.length:=fun x hx=>by
  have:=(isc_parts ((hF.cuts.2 _).1 (getD_mem _ 0 hx))).2.2.2;omega
 unfold Rises
 rw [List.pairwise_iff_getElem] at hg ⊢
 intro a b ha hb hab
 have h1:=hg a b ha hb hab
 have h2:=hdf b hb
 have hne:kp T (F.getD a 0)≠kp T (F.getD b 0):=fun e=>by
  unfold df at h2
  have h3:=hF.le a (b-1) (by omega) (by omega)
  have h4:=hF.le (b-1) b (by omega) hb
  rw [e] at h3
  rw [lexB_anti h4 h3] at h2
  simp at h2
  omega
 have h3:=hF.le a b (by omega) hb
 have h5:=kp_suf (hlt a ha) (hlt b hb) hne
 rw [getD_get F 0 ha,getD_get F 0 hb] at hne h3 h5
 rw [h5]
 rcases lexB_total _ _ hne with h4 | h4
 ·exact h4
 ·rw [h4] at h3;simp at h3
theorem next_cut {a d:Nat} (ha:a<(cutsOf T).length) {j:Nat} (h:Meet T ((cutsOf T).getD a 0+1) j d):a+1<(cutsOf T).length∧(cutsOf T).getD (a+1) 0=(cutsOf T).getD a 0+1+d:=by
 obtain ⟨_,h1,_,h2⟩:=h
 have hm:=((cutsOf_is T).2 _).2 h1
 obtain ⟨x,hx,he⟩:=List.mem_iff_getElem.1 hm
 rw [← getD_get _ 0 hx] at he
 have hxa:a<x:=by
  apply Classical.byContradiction
  intro hh
  by_cases hxe:x=a
  ·subst hxe;omega
  ·have:=pair_at (cutsOf_rise T) 0 (by omega:x<a) ha
   omega
 refine ⟨by omega,?_⟩
 by_cases hxe:x=a+1
 ·rw [← hxe];exact he
 ·have h3:=pair_at (cutsOf_rise T) 0 (by omega:a<a+1) (by omega)
  have h4:=pair_at (cutsOf_rise T) 0 (by omega:a+1<x) hx
  have h5:=((cutsOf_is T).2 _).1 (getD_mem (cutsOf T) 0 (by omega:a+1<(cutsOf T).length))
  have h6:=(h2 ((cutsOf T).getD (a+1) 0-((cutsOf T).getD a 0+1)) (by omega)).1
  rw [show (cutsOf T).getD a 0+1+((cutsOf T).getD (a+1) 0-((cutsOf T).getD a 0+1))=(cutsOf T).getD (a+1) 0 by omega,h5] at h6
  simp at h6
def nameOf (T F:List Nat):List Nat:=(cutsOf T).map (num T F)
theorem nameOf_get {a:Nat} (ha:a<(cutsOf T).length):(nameOf T F).getD a 0=num T F ((cutsOf T).getD a 0):=by
 unfold nameOf
 rw [getD_get _ 0 (by rw [List.length_map];exact ha),List.getElem_map,getD_get _ 0 ha]
theorem sub_suf (hF:Ordered T F):∀ m a b,(cutsOf T).length-a=m→a<(cutsOf T).length→b<(cutsOf T).length→a≠b→
  sufB (nameOf T F) a b=sufB T ((cutsOf T).getD a 0) ((cutsOf T).getD b 0):=by
 intro m
 induction m with
 | zero=>intro a b hm ha;omega
 | succ m ih=>
   intro a b hm ha hb hne
   have hl:(nameOf T F).length=(cutsOf T).length:=by unfold nameOf;rw [List.length_map]
   have c1:=((cutsOf_is T).2 _).1 (getD_mem (cutsOf T) 0 ha)
   have c2:=((cutsOf_is T).2 _).1 (getD_mem (cutsOf T) 0 hb)
   have b1:=(isc_parts c1).2.2.2
   have b2:=(isc_parts c2).2.2.2
   have hcne:(cutsOf T).getD a 0≠(cutsOf T).getD b 0:=fun e=>by
    rcases Nat.lt_or_gt_of_ne hne with h | h
    ·have:=pair_at (cutsOf_rise T) 0 h hb;omega
    ·have:=pair_at (cutsOf_rise T) 0 h ha;omega
   rcases Nat.lt_trichotomy ((nameOf T F).getD a 0) ((nameOf T F).getD b 0) with h | h | h
   ·rw [suf_lt (by omega) (by omega) h]
    rw [nameOf_get ha,nameOf_get hb] at h
    have:=num_lt hF c1 c2 h
    rw [kp_suf (by omega) (by omega) (fun e=>by have:=(num_eq hF c1 c2).2 e;omega),this]
   ·rw [suf_same (by omega) (by omega) h]
    rw [nameOf_get ha,nameOf_get hb] at h
    have h1:=(num_eq hF c1 c2).1 h
    obtain ⟨d,h2,_,h3⟩:=same_suf (by omega) (by omega) ((kp_same (by omega) (by omega) hcne).1 h1)
    obtain ⟨n1,n2⟩:=next_cut ha h2
    obtain ⟨x1,x2,x3,x4⟩:=h2
    obtain ⟨n3,n4⟩:=next_cut (d:=d) hb (j:=(cutsOf T).getD a 0+1) ⟨fun e he=>(x1 e he).symm,x3,x2,fun e he=>⟨(x4 e he).2,(x4 e he).1⟩⟩
    rw [ih (a+1) (b+1) (by omega) n1 n3 (by omega),n2,n4,h3]
   ·rw [suf_gt (by omega) (by omega) h]
    rw [nameOf_get ha,nameOf_get hb] at h
    have:=num_lt hF c2 c1 h
    rw [kp_suf (by omega) (by omega) (fun e=>by have:=(num_eq hF c1 c2).2 e;omega),lexB_asymm _ _ this]
theorem cuts_by_names (hF:Ordered T F) {R:List Nat} (hR:IsSA (nameOf T F) R):IsCuts T (R.map fun a=>(cutsOf T).getD a 0)∧Rises T (R.map fun a=>(cutsOf T).getD a 0):=by
 have hl:(nameOf T F).length=(cutsOf T).length:=by unfold nameOf;rw [List.length_map]
 have hr:Rises T (R.map fun a=>(cutsOf T).getD a 0):=by
  unfold Rises
  rw [List.pairwise_map]
  have h:=hR.1
  unfold Rises at h
  rw [List.pairwise_iff_getElem] at h ⊢
  intro a b ha hb hab
  have h1:=h a b ha hb hab
  have m1:=(hR.2 _).1 (List.getElem_mem ha)
  have m2:=(hR.2 _).1 (List.getElem_mem hb)
  rw [hl] at m1 m2
  rwa [sub_suf hF _ _ _ rfl m1 m2 (fun e=>by rw [e,suf_irrefl] at h1;simp at h1)] at h1
 refine ⟨⟨rises_nodup hr,fun c=>?_⟩,hr⟩
 rw [List.mem_map]
 constructor
 ·rintro ⟨a,ha,rfl⟩
  have:=(hR.2 a).1 ha
  exact ((cutsOf_is T).2 _).1 (getD_mem (cutsOf T) 0 (by omega))
 ·intro hc
  have hm:=((cutsOf_is T).2 c).2 hc
  exact ⟨(cutsOf T).idxOf c,(hR.2 _).2 (by rw [hl];exact List.idxOf_lt_length_iff.2 hm),getD_idx hm⟩
end
end Go.Proofs.YtmjpnbadfmgimaaGreatDoor.S8.Pl
namespace Go.Proofs.YtmjpnbadfmgimaaGreatDoor.S8.Pl
theorem set_getB (O:List Bool) (q p:Nat) (v:Bool):(O.set q v).getD p false=if p=q∧q<O.length then v else O.getD p false:=by
 by_cases h:p=q
 ·subst h
  by_cases h2:p<O.length
  ·simp [List.getD,h2]
  ·simp [List.getD,h2]
 ·simp [List.getD,h,List.getElem?_set_ne (Ne.symm h)]
def RisInv (T:List Nat) (R:List Bool) (a:Nat):Prop:=R.length=T.length∧∀ i,a≤i→i<T.length→R.getD i false=ris T i
theorem ris_start (T:List Nat) (a:Nat) (ha:T.length≤a+1):RisInv T (List.replicate T.length false) a:=
 ⟨by simp,fun i h1 h2=>by rw [ris_last (by omega)];simp [List.getD,h2]⟩
theorem ris_put {T:List Nat} {R:List Bool} {a:Nat} (h:RisInv T R (a+1)) (ha:a+1<T.length):RisInv T (R.set a (ris T a)) a:=
 ⟨by rw [List.length_set];exact h.1,fun i h1 h2=>by
  rw [set_getB,h.1]
  by_cases e:i=a
  ·subst e;rw [if_pos ⟨rfl,h2⟩]
  ·rw [if_neg (fun x=>e x.1)];exact h.2 i (by omega) h2⟩
def occ (T:List Nat) (l:Nat):Nat→Nat
 | 0=>0
 | i+1=>occ T l i+(if T.getD i 0=l then 1 else 0)
def CntInv (T:List Nat) (K:Nat) (S:List Int) (i:Nat):Prop:=S.length=K+1∧S.getD 0 0=0∧∀ l,l<K→S.getD (l+1) 0=(occ T l i:Int)
theorem cnt_start (T:List Nat) (K:Nat):CntInv T K (List.replicate (K+1) 0) 0:=
 ⟨by simp,by simp [List.getD],fun l hl=>by simp [List.getD,hl,occ]⟩
theorem cnt_put {T:List Nat} {K i:Nat} {S:List Int} (h:CntInv T K S i) (hK:T.getD i 0<K):CntInv T K (S.set (T.getD i 0+1) (S.getD (T.getD i 0+1) 0+1)) (i+1):=by
 obtain ⟨h1,h2,h3⟩:=h
 refine ⟨by rw [List.length_set];exact h1,by rw [set_getD,if_neg (by omega)];exact h2,fun l hl=>?_⟩
 rw [set_getD,h1]
 unfold occ
 by_cases e:T.getD i 0=l
 ·subst e
  rw [if_pos ⟨rfl,by omega⟩,h3 _ hK,if_pos rfl];omega
 ·rw [if_neg (fun x=>e (by omega)),h3 l hl,if_neg e];rfl
theorem occ_le (T:List Nat) (l i:Nat):occ T l i≤i:=by
 induction i with
 | zero=>exact Nat.le_refl _
 | succ i ih=>unfold occ;split <;> omega
theorem cnt_le' {T:List Nat} {K i l:Nat} {S:List Int} (h:CntInv T K S i) (hl:l<K+1):0≤S.getD l 0∧S.getD l 0≤i:=by
 rcases l with _ | l
 ·rw [h.2.1];omega
 ·rw [h.2.2 l (by omega)];have:=occ_le T l i;omega
theorem occ_cnt (T:List Nat) (l n:Nat):occ T l n=cnt n fun j=>T.getD j 0==l:=by
 induction n with
 | zero=>rfl
 | succ n ih=>
   unfold occ cnt
   rw [ih]
   by_cases h:T.getD n 0=l
   ·show _=_+(T.getD n 0==l).toNat
    rw [if_pos h,h];simp
   ·show _=_+(T.getD n 0==l).toNat
    rw [if_neg h,beq_eq_false_iff_ne.2 h];rfl
def SumInv (T:List Nat) (K:Nat) (S:List Int) (k:Nat):Prop:=S.length=K+1∧(∀ l,l≤k→l<K+1→S.getD l 0=(bst T l:Int))∧∀ l,k≤l→l<K→S.getD (l+1) 0=(occ T l T.length:Int)
theorem bst_zero (T:List Nat):bst T 0=0:=cnt_zero fun i _=>by simp
theorem bst_occ (T:List Nat) (l:Nat):bst T (l+1)=bst T l+occ T l T.length:=by
 rw [occ_cnt]
 exact cnt_or (fun i _=>by
  by_cases h:T.getD i 0<l
  ·simp only [h,decide_true,Bool.true_or,decide_eq_true_eq];omega
  ·by_cases h2:T.getD i 0=l
   ·rw [h2];simp
   ·rw [decide_eq_false (by omega),decide_eq_false (by omega),beq_eq_false_iff_ne.2 h2];rfl) (fun i _ h=>by
  simp only [decide_eq_true_eq] at h
  exact beq_eq_false_iff_ne.2 (by omega))
theorem sum_start {T:List Nat} {K:Nat} {S:List Int} (h:CntInv T K S T.length):SumInv T K S 0:=
 ⟨h.1,fun l h1 h2=>by obtain rfl:l=0:=by omega
                      rw [h.2.1,bst_zero];rfl,fun l _ h2=>h.2.2 l h2⟩
theorem sum_put {T:List Nat} {K k:Nat} {S:List Int} (h:SumInv T K S k) (hk:k<K):S.getD (k+1) 0+S.getD k 0=(bst T (k+1):Int)∧SumInv T K (S.set (k+1) (bst T (k+1):Int)) (k+1):=by
 obtain ⟨h1,h2,h3⟩:=h
 refine ⟨by rw [h2 k (Nat.le_refl _) (by omega),h3 k (Nat.le_refl _) hk,bst_occ];omega,by rw [List.length_set];exact h1,fun l hl hl2=>?_,fun l hl hl2=>?_⟩
 ·rw [set_getD,h1]
  by_cases e:l=k+1
  ·subst e;rw [if_pos ⟨rfl,by omega⟩]
  ·rw [if_neg (fun x=>e x.1)];exact h2 l (by omega) hl2
 ·rw [set_getD,if_neg (by omega)]
  exact h3 l (by omega) hl2
theorem list_ext {α:Type} {A B:List α} (d:α) (hl:A.length=B.length) (h:∀ i,i<A.length→A.getD i d=B.getD i d):A=B:=by
 refine List.ext_getElem hl fun i h1 h2=>?_
 have:=h i h1
 rwa [getD_get A d h1,getD_get B d h2] at this
section
variable {T F:List Nat}
theorem meet_key:∀ d i j,Meet T i j d→∃ P,∀ h,key T h i=P++h (i+d)∧key T h j=P++h (j+d):=by
 intro d
 induction d with
 | zero=>
   intro i j hm
   obtain ⟨h1,h2,h3,_⟩:=hm
   have l1:=(isc_parts h2).2.2.2
   have l2:=(isc_parts h3).2.2.2
   rw [Nat.add_zero] at h2 h3 l1 l2
   refine ⟨[W T i],fun h=>?_⟩
   have:=h1 0 (Nat.le_refl _)
   rw [key_in h (by omega:i<T.length),key_in h (by omega:j<T.length),h2,h3]
   rw [Nat.add_zero,Nat.add_zero] at this ⊢
   rw [this]
   simp
 | succ d ih=>
   intro i j hm
   obtain ⟨h1,h2,h3,h4⟩:=hm
   have l1:=(isc_parts h2).2.2.2
   have l2:=(isc_parts h3).2.2.2
   obtain ⟨c1,c2⟩:=h4 0 (by omega)
   have h0:=h1 0 (by omega)
   rw [Nat.add_zero] at c1 c2 h0
   rw [Nat.add_zero] at h0
   have hm2:Meet T (i+1) (j+1) d:=by
    refine ⟨fun e he=>?_,?_,?_,fun e he=>?_⟩
    ·have:=h1 (e+1) (by omega)
     rwa [show i+(e+1)=i+1+e by omega,show j+(e+1)=j+1+e by omega] at this
    ·rwa [show i+(d+1)=i+1+d by omega] at h2
    ·rwa [show j+(d+1)=j+1+d by omega] at h3
    ·have:=h4 (e+1) (by omega)
     rwa [show i+(e+1)=i+1+e by omega,show j+(e+1)=j+1+e by omega] at this
   obtain ⟨P,hP⟩:=ih (i+1) (j+1) hm2
   refine ⟨W T i::P,fun h=>?_⟩
   rw [key_no h (by omega) c1,key_no h (by omega) c2]
   unfold keyG
   rw [(hP h).1,(hP h).2,h0,show i+1+d=i+(d+1) by omega,show j+1+d=j+(d+1) by omega]
   simp
def CmpInv (T:List Nat) (i j k:Nat):Prop:=(∀ e,e<k→T.getD (i+e) 0=T.getD (j+e) 0)∧∀ e,0<e→e<k→¬ (isc T (i+e)=true∧isc T (j+e)=true)
theorem cmp_zero (i j:Nat):CmpInv T i j 0:=⟨fun e h=>by omega,fun e _ h=>by omega⟩
theorem cmp_step {i j k:Nat} (h:CmpInv T i j k) (he:T.getD (i+k) 0=T.getD (j+k) 0) (hn:0<k→¬ (isc T (i+k)=true∧isc T (j+k)=true)):CmpInv T i j (k+1):=
 ⟨fun e h1=>by
  by_cases h2:e=k
  ·subst h2;exact he
  ·exact h.1 e (by omega),fun e h0 h1=>by
  by_cases h2:e=k
  ·subst h2;exact hn h0
  ·exact h.2 e h0 (by omega)⟩
theorem cmp_same {i j k:Nat} (h:CmpInv T i j k) (hk:0<k) (he:T.getD (i+k) 0=T.getD (j+k) 0) (h1:isc T (i+k)=true) (h2:isc T (j+k)=true):kp T i=kp T j:=by
 have l1:=(isc_parts h1).2.2.2
 have l2:=(isc_parts h2).2.2.2
 have hlet:∀ e,e≤k→T.getD (i+e) 0=T.getD (j+e) 0:=fun e hek=>by
  by_cases h3:e=k
  ·subst h3;exact he
  ·exact h.1 e (by omega)
 have hty:∀ q e,e+q=k→ris T (i+e)=ris T (j+e):=by
  intro q
  induction q with
  | zero=>intro e hq;obtain rfl:e=k:=by omega
          rw [(isc_parts h1).2.1,(isc_parts h2).2.1]
  | succ q ih=>
    intro e hq
    have:=ih (e+1) (by omega)
    rw [ris_step (T:=T) (i:=i+e) (by omega),ris_step (T:=T) (i:=j+e) (by omega),hlet e (by omega)]
    have h5:=hlet (e+1) (by omega)
    rw [show i+e+1=i+(e+1) by omega,show j+e+1=j+(e+1) by omega,h5,this]
 have hW:∀ e,e≤k→W T (i+e)=W T (j+e):=fun e hek=>W_of (hlet e hek) (hty (k-e) e (by omega))
 have hcut:∀ e,0<e→e≤k→isc T (i+e)=isc T (j+e):=fun e h0 hek=>by
  obtain ⟨x,rfl⟩:∃ x,e=x+1:=⟨e-1,by omega⟩
  have a:=hty (k-(x+1)) (x+1) (by omega)
  have b:=hty (k-x) x (by omega)
  rw [show i+(x+1)=i+x+1 by omega,show j+(x+1)=j+x+1 by omega] at*
  rw [isc_succ,isc_succ,a,b]
 obtain ⟨d,rfl⟩:∃ d,k=d+1:=⟨k-1,by omega⟩
 have hm:Meet T (i+1) (j+1) d:=by
  refine ⟨fun e hed=>?_,?_,?_,fun e hed=>?_⟩
  ·have:=hW (e+1) (by omega)
   rwa [show i+(e+1)=i+1+e by omega,show j+(e+1)=j+1+e by omega] at this
  ·rwa [show i+(d+1)=i+1+d by omega] at h1
  ·rwa [show j+(d+1)=j+1+d by omega] at h2
  ·have a:=hcut (e+1) (by omega) (by omega)
   have b:=h.2 (e+1) (by omega) (by omega)
   rw [show i+(e+1)=i+1+e by omega,show j+(e+1)=j+1+e by omega] at a b
   rw [a] at b ⊢
   cases hx:isc T (j+1+e) with
   | false=>exact ⟨rfl,rfl⟩
   | true=>rw [hx] at b;exact absurd ⟨rfl,rfl⟩ b
 obtain ⟨P,hP⟩:=meet_key d (i+1) (j+1) hm
 unfold kp keyG
 rw [(hP _).1,(hP _).2]
 have:=hW 0 (by omega)
 rw [Nat.add_zero,Nat.add_zero] at this
 rw [this]
theorem cmp_diff {i j k:Nat} (hi:i<T.length) (hj:j<T.length) (hne:i≠j) (h:CmpInv T i j k) (hd:T.length≤i+k∨T.length≤j+k∨T.getD (i+k) 0≠T.getD (j+k) 0):kp T i≠kp T j:=by
 intro e
 obtain ⟨hw,d,⟨m1,m2,m3,m4⟩,_⟩:=(kp_same hi hj hne).1 e
 have l1:=(isc_parts m2).2.2.2
 have l2:=(isc_parts m3).2.2.2
 by_cases hk:k≤d+1
 ·have hl:T.getD (i+k) 0=T.getD (j+k) 0:=by
   rcases k with _ | k
   ·exact (W_eq hw).1
   ·have:=(W_eq (m1 k (by omega))).1
    rwa [show i+1+k=i+(k+1) by omega,show j+1+k=j+(k+1) by omega] at this
  rcases hd with hd | hd | hd
  ·omega
  ·omega
  ·exact hd hl
 ·refine h.2 (d+1) (by omega) (by omega) ⟨?_,?_⟩
  ·rwa [show i+(d+1)=i+1+d by omega]
  ·rwa [show j+(d+1)=j+1+d by omega]
def NumInv (T F:List Nat) (Q:List Int) (x:Nat):Prop:=Q.length=T.length/2+1∧∀ y,y<x→Q.getD (F.getD y 0/2) 0=((ds T F (y+1)-1:Nat):Int)
theorem num_start (T F:List Nat):NumInv T F (List.replicate (T.length/2+1) 0) 0:=⟨by simp,fun y h=>by omega⟩
theorem cuts_apart {c c':Nat} (h:isc T c=true) (h':isc T c'=true) (he:c/2=c'/2):c=c':=by
 apply Classical.byContradiction
 intro hne
 rcases Nat.lt_or_gt_of_ne hne with hlt | hlt
 ·obtain rfl:c'=c+1:=by omega
  rw [isc_after (isc_parts h).2.1] at h'
  simp at h'
 ·obtain rfl:c=c'+1:=by omega
  rw [isc_after (isc_parts h').2.1] at h
  simp at h
theorem num_put {Q:List Int} {x:Nat} (hF:IsCuts T F) (h:NumInv T F Q x) (hx:x<F.length):NumInv T F (Q.set (F.getD x 0/2) ((ds T F (x+1)-1:Nat):Int)) (x+1):=by
 refine ⟨by rw [List.length_set];exact h.1,fun y hy=>?_⟩
 have cx:=(hF.2 _).1 (getD_mem F 0 hx)
 have lx:=(isc_parts cx).2.2.2
 rw [set_getD,h.1]
 by_cases e:y=x
 ·subst e;rw [if_pos ⟨rfl,by omega⟩]
 ·have cy:=(hF.2 _).1 (getD_mem F 0 (by omega:y<F.length))
  rw [if_neg (fun q=>e ?_)]
  ·exact h.2 y (by omega)
  ·have:=cuts_apart cy cx q.1
   have i1:=idx_of hF (by omega:y<F.length)
   have i2:=idx_of hF hx
   rw [← i1,← i2,this]
theorem num_end {Q:List Int} (hF:IsCuts T F) (h:NumInv T F Q F.length) {c:Nat} (hc:isc T c=true):Q.getD (c/2) 0=(num T F c:Int):=by
 have hm:=(hF.2 c).2 hc
 have:=h.2 (F.idxOf c) (List.idxOf_lt_length_iff.2 hm)
 rw [getD_idx hm] at this
 exact this
theorem df_same {x:Nat} (h:kp T (F.getD (x+1) 0)=kp T (F.getD x 0)):df T F (x+1)=false:=by
 unfold df
 simp only [Nat.add_sub_cancel]
 rw [decide_eq_true h.symm]
 simp
theorem df_diff {x:Nat} (h:kp T (F.getD (x+1) 0)≠kp T (F.getD x 0)):df T F (x+1)=true:=by
 unfold df
 simp only [Nat.add_sub_cancel]
 rw [decide_eq_false (fun e=>h e.symm)]
 simp
theorem ds_same {x:Nat} (h:df T F x=false):ds T F (x+1)=ds T F x:=by rw [ds_succ,h];rfl
theorem ds_diff {x:Nat} (h:df T F x=true):ds T F (x+1)=ds T F x+1:=by rw [ds_succ,h];rfl
def NamInv (T F:List Nat) (L:List Int) (a:Nat):Prop:=L.length=(cutsOf T).length∧∀ b,b<a→L.getD b 0=(num T F ((cutsOf T).getD b 0):Int)
theorem nam_start (T F:List Nat):NamInv T F (List.replicate (cutsOf T).length 0) 0:=⟨by simp,fun b h=>by omega⟩
theorem nam_put {L:List Int} {a:Nat} (h:NamInv T F L a) (ha:a<(cutsOf T).length):NamInv T F (L.set a (num T F ((cutsOf T).getD a 0):Int)) (a+1):=
 ⟨by rw [List.length_set];exact h.1,fun b hb=>by
  rw [set_getD,h.1]
  by_cases e:b=a
  ·subst e;rw [if_pos ⟨rfl,ha⟩]
  ·rw [if_neg (fun q=>e q.1)];exact h.2 b (by omega)⟩
theorem nam_end {L:List Int} (h:NamInv T F L (cutsOf T).length):L=(nameOf T F).map (fun (x:Nat)=>(x:Int)):=by
 refine List.ext_getElem (by rw [h.1];simp [nameOf]) fun i h1 h2=>?_
 rw [h.1] at h1
 have e:=h.2 i h1
 rw [← nameOf_get (F:=F) h1] at e
 have hl:i<(nameOf T F).length:=by simpa using h2
 rw [getD_get L 0 (by rw [h.1];exact h1),getD_get (nameOf T F) 0 hl] at e
 rw [e,List.getElem_map]
end
end Go.Proofs.YtmjpnbadfmgimaaGreatDoor.S8.Pl
namespace Go.Proofs.YtmjpnbadfmgimaaGreatDoor.S8.Pl
section
variable {T:List Nat}
def cutsTo (T:List Nat) (i:Nat):List Nat:=(List.range i).filter (isc T)
theorem cutsTo_zero:cutsTo T 0=[]:=rfl
theorem cutsTo_all:cutsTo T T.length=cutsOf T:=rfl
theorem cutsTo_yes {i:Nat} (h:isc T i=true):cutsTo T (i+1)=cutsTo T i++[i]:=by
 unfold cutsTo
 rw [List.range_succ,List.filter_append,List.filter_cons,h]
 simp
theorem cutsTo_no {i:Nat} (h:isc T i=false):cutsTo T (i+1)=cutsTo T i:=by
 unfold cutsTo
 rw [List.range_succ,List.filter_append,List.filter_cons,h]
 simp
theorem cutsOf_lt (h:0<T.length):(cutsOf T).length<T.length:=by
 have hs:∀ n,(cutsTo T (n+1)).length≤n:=by
  intro n
  induction n with
  | zero=>rw [cutsTo_no (by unfold isc;rfl)];simp [cutsTo_zero]
  | succ n ih=>
    cases hc:isc T (n+1) with
    | true=>rw [cutsTo_yes hc,List.length_append];simp;omega
    | false=>rw [cutsTo_no hc];omega
 have:=hs (T.length-1)
 rw [show T.length-1+1=T.length by omega,cutsTo_all] at this
 omega
theorem cuts_length {A B:List Nat} (hA:IsCuts T A) (hB:IsCuts T B):A.length=B.length:=
 ((List.perm_ext_iff_of_nodup hA.1 hB.1).2 fun c=>(hA.2 c).trans (hB.2 c).symm).length_eq
def MapInv (C R:List Nat) (L:List Int) (k:Nat):Prop:=L.length=R.length∧∀ x,x<R.length→L.getD x 0=if x<k then ((C.getD (R.getD x 0) 0:Nat):Int) else ((R.getD x 0:Nat):Int)
theorem map_start (C R:List Nat):MapInv C R (R.map fun (x:Nat)=>(x:Int)) 0:=
 ⟨by simp,fun x hx=>by rw [if_neg (by omega)];simp [List.getD,hx]⟩
theorem map_put {C R:List Nat} {L:List Int} {k:Nat} (h:MapInv C R L k) (hk:k<R.length):MapInv C R (L.set k ((C.getD (R.getD k 0) 0:Nat):Int)) (k+1):=
 ⟨by rw [List.length_set];exact h.1,fun x hx=>by
  rw [set_getD,h.1]
  by_cases e:x=k
  ·subst e;rw [if_pos ⟨rfl,hk⟩,if_pos (by omega)]
  ·rw [if_neg (fun q=>e q.1),h.2 x hx]
   by_cases h2:x<k
   ·rw [if_pos h2,if_pos (by omega)]
   ·rw [if_neg h2,if_neg (by omega)]⟩
theorem map_end {C R:List Nat} {L:List Int} (h:MapInv C R L R.length):L=(R.map fun a=>C.getD a 0).map fun (x:Nat)=>(x:Int):=by
 refine List.ext_getElem (by rw [h.1];simp) fun i h1 h2=>?_
 rw [h.1] at h1
 have:=h.2 i h1
 rw [if_pos h1,getD_get L 0 (by rw [h.1];exact h1),getD_get R 0 h1] at this
 rw [this]
 simp
end
end Go.Proofs.YtmjpnbadfmgimaaGreatDoor.S8.Pl
namespace Go.Proofs.YtmjpnbadfmgimaaGreatDoor.S8.Pl
section
variable {B R:List Nat}
theorem sa_lt (h:IsSA B R) {k:Nat} (hk:k<R.length):R.getD k 0<B.length:=(h.2 _).1 (getD_mem R 0 hk)
theorem sa_idx (h:IsSA B R) {i:Nat} (hi:i<B.length):∃ k,k<R.length∧R.getD k 0=i:=by
 obtain ⟨k,hk,he⟩:=List.mem_iff_getElem.1 ((h.2 i).2 hi)
 exact ⟨k,hk,by rw [getD_get R 0 hk];exact he⟩
def comV (B R:List Nat) (k:Nat):Nat:=if k=0 then 0 else lcpAt B (R.getD (k-1) 0) (R.getD k 0)
structure KInv (B R:List Nat) (P:List Int) (L:List Int) (i cur:Nat):Prop where
 len:L.length=R.length
 small:cur≤B.length
 low:i<B.length→∀ k,R.getD (k+1) 0=i→k+1<R.length→cur≤lcpAt B (R.getD k 0) i
 zero:0<R.length→L.getD 0 0=0
 done:∀ k,k<R.length→R.getD k 0<i→L.getD k 0=(comV B R k:Int)
end
end Go.Proofs.YtmjpnbadfmgimaaGreatDoor.S8.Pl

/- Texts put together: SealM on the pruned base. -/
import Derived.Test.YtmjpnbadfmgimaaGreatDoorFg46
set_option linter.unusedSimpArgs false
set_option linter.unusedVariables false
set_option maxRecDepth 100000
namespace Go.Proofs.YtmjpnbadfmgimaaGreatDoor.S16
open Go.RowKit Pl S3 S3.Pl S14
theorem strB_str {B:List Nat} (h:∀ x∈B,x<256):strB (str B)=B:=by
 apply str_inj (strB_lt _) h
 rw [str_strB]
theorem vals_few {M:List RT} {k:Nat} (h:∀ r∈M,r.val.size≤k):(valsE M).length≤k*M.length:=by
 induction M with
 | nil=>simp [valsE]
 | cons r l ih=>
   have h1:=h r (by simp)
   have h2:=ih fun x hx=>h x (by simp [hx])
   rw [valsE,List.length_append,strB_length,List.length_cons,Nat.mul_add]
   omega
theorem lastQ_some (L:List (RT×Nat)) {s:ByteArray}:∀ n i,i<n→(L.getD i zP).1.key=s→∃ j,lastN L s n=some j∧i≤j:=by
 intro n
 induction n with
 | zero=>intro i h;omega
 | succ n ih=>
   intro i hi hk
   unfold lastN
   split
   ·exact ⟨n,rfl,by omega⟩
   ·rename_i hne
    by_cases e:i=n
    ·subst e;exact absurd hk hne
    ·exact ih i (by omega) hk
theorem lastN_lt (L:List (RT×Nat)) (s:ByteArray):∀ n i,lastN L s n=some i→i<n∧(L.getD i zP).1.key=s:=by
 intro n
 induction n with
 | zero=>intro i h;cases h
 | succ n ih=>
   intro i h
   unfold lastN at h
   split at h
   ·cases h;exact ⟨by omega,by assumption⟩
   ·obtain ⟨h1,h2⟩:=ih i h
    exact ⟨by omega,h2⟩
def GO (r:Option Nat) (w W:World):Prop:=w.grownBy W r
theorem GO.refl (r:Option Nat) (w:World):GO r w w:=grownBy_refl _ _
theorem GO.start (r:Option Nat) (w:World):GO r w w.drew:=⟨rfl,rfl,rfl,Nat.le_refl _,fun _ _ _=>rfl⟩
theorem GO.trans {r:Option Nat} {a b c:World} (h:GO r a b) (k:GO r b c):GO r a c:=grownBy_trans h k
theorem GO.alloc {r:Option Nat} {a b:World} (h:GO r a b) (o:Obj):GO r a (b.alloc o):=h.trans ⟨rfl,rfl,rfl,by simp,fun k hk _=>Below.heap_alloc _ _ k hk⟩
theorem run_makeB (n:Nat) (hn:n≤100000) (w:World):(Instr.makeSlice 27 (.int .i64 (n:Int)) (.int .i64 (n:Int))).run Tryz.prog w=.ok (.slice (some ⟨w.heap.size,0,none⟩) n n) (w.alloc (.cells (u8s (List.replicate n 0)).toArray 5)):=by
 have h:=run_make_row' (P:=Tryz.prog) 27 5 (.int .u8 0) 1 Tryz.underlying27 info5 rfl .i64 .i64 n (by omega) (by omega) w
 have e:madeCells #[Value.int .u8 0] n=(u8s (List.replicate n 0)).toArray:=by
  apply Array.toList_inj.1
  have:=made_list n
  rw [Nat.mul_one] at this
  rw [show (#[Value.int .u8 0]:Array Value)=(Value.int .u8 0).cells from rfl,this]
  simp [u8s]
 rw [e] at h
 exact h
def keyM (m:Nat):ByteArray:=(⟨#[107]⟩:ByteArray)++str [97+m]
theorem keyM_inj {a b:Nat} (ha:a<150) (hb:b<150) (h:keyM a=keyM b):a=b:=by
 unfold keyM at h
 have h2:=congrArg (fun s:ByteArray=>strB s) h
 have e:∀ m,m<150→strB ((⟨#[107]⟩:ByteArray)++str [97+m])=[107,97+m]:=fun m hm=>by
  have e1:((⟨#[107]⟩:ByteArray)++str [97+m])=str [107,97+m]:=by
   apply ByteArray.ext
   simp [str,ByteArray.data_append]
  rw [e1,strB_str]
  intro x hx
  simp at hx
  omega
 simp only [e a ha,e b hb] at h2
 simp at h2
 omega
theorem keyM_size (m:Nat):(keyM m).size=2:=by
 unfold keyM
 rw [ByteArray.size_append]
 simp [str,ByteArray.size]
def recM (keys size i:Nat):RT:=⟨1,(i:Int)+1,keyM (i%keys),str (List.replicate size 0)⟩
def listM (keys size n:Nat):List RT:=(List.range n).map (recM keys size)
theorem listM_length (keys size n:Nat):(listM keys size n).length=n:=by simp [listM]
theorem listM_succ (keys size n:Nat):listM keys size (n+1)=listM keys size n++[recM keys size n]:=by simp [listM,List.range_succ]
theorem listM_get (keys size:Nat) {n i:Nat} (h:i<n):(listM keys size n).getD i zR=recM keys size i:=by simp [listM,List.getD,h]
theorem str_len (n:Nat):(str (List.replicate n 0)).size=n:=by rw [str_sz,List.length_replicate]
theorem recM_ok {keys size i:Nat} (hs:size≤120) (hi:i<60):chk (recM keys size i)=0:=by
 unfold chk recM
 simp only [keyM_size,str_len]
 rw [if_neg (by omega),if_neg (by omega),if_pos]
 unfold formR
 simp
 omega
theorem listM_ok {keys size n:Nat} (hs:size≤120) (hn:n≤60):∀ r∈listM keys size n,chk r=0:=by
 intro r hr
 simp only [listM,List.mem_map,List.mem_range] at hr
 obtain ⟨i,hi,rfl⟩:=hr
 exact recM_ok hs (by omega)
theorem listM_vals {keys size n:Nat} (hs:size≤120) (hn:n≤60):(valsE (listM keys size n)).length≤7200:=by
 have h:=vals_few (M:=listM keys size n) (k:=120) (by
  intro r hr
  simp only [listM,List.mem_map,List.mem_range] at hr
  obtain ⟨i,hi,rfl⟩:=hr
  show (str (List.replicate size 0)).size≤120
  rw [str_len];exact hs)
 rw [listM_length] at h
 omega
theorem lastM {keys size n k:Nat} (hk:0<keys) (hk20:keys≤20) (hkk:k<keys) (hn:n≤60):
  (k<n→∃ j,lastN (rowsOf (listM keys size n)) (keyM k) n=some j∧j<n∧n≤j+keys∧j%keys=k)∧(¬ k<n→lastN (rowsOf (listM keys size n)) (keyM k) n=none):=by
 have hkey:∀ i,i<n→((rowsOf (listM keys size n)).getD i zP).1.key=keyM (i%keys):=fun i hi=>by
  rw [rowsOf_get _ (by rw [listM_length];exact hi),listM_get _ _ hi];rfl
 have hm:∀ i,i%keys<20:=fun i=>Nat.lt_of_lt_of_le (Nat.mod_lt _ hk) hk20
 constructor
 ·intro h
  obtain ⟨j,hj,hle⟩:=lastQ_some (rowsOf (listM keys size n)) (s:=keyM k) n k h (by rw [hkey k h,Nat.mod_eq_of_lt hkk])
  obtain ⟨h1,h2⟩:=lastN_lt _ _ n j hj
  rw [hkey j h1] at h2
  have hjm:=keyM_inj (by have:=hm j;omega) (by omega) h2
  refine ⟨j,hj,h1,?_,hjm⟩
  by_cases hc:j+keys<n
  ·obtain ⟨j2,hj2,hle2⟩:=lastQ_some (rowsOf (listM keys size n)) (s:=keyM k) n (j+keys) hc (by rw [hkey _ hc,Nat.add_mod_right,hjm])
   rw [hj] at hj2
   cases hj2
   omega
  ·omega
 ·intro h
  cases hl:lastN (rowsOf (listM keys size n)) (keyM k) n with
  | none=>rfl
  | some j=>
    obtain ⟨h1,h2⟩:=lastN_lt _ _ n j hl
    rw [hkey j h1] at h2
    have hjm:=keyM_inj (by have:=hm j;omega) (by omega) h2
    have:=Nat.mod_le j keys
    omega
theorem isBytesM {w:World} {g:Nat} {B:List Nat} (h:w.heap[g]? = some (.cells (u8s B).toArray 5 (0,0))) (hB:∀ x∈B,x<256) (hl:B.length≤maxLen):IsBytes w (.slice (some ⟨g,0,none⟩) B.length B.length) B:=by
 refine ⟨hB,.inr ⟨⟨g,0,none⟩,B.length,rfl,Nat.le_refl _,hl,fun i u hu=>?_⟩⟩
 have hadd:(⟨g,0,none⟩:Addr).add i=⟨g,i,none⟩:=by unfold Addr.add;split <;> simp_all
 rw [hadd]
 exact Blk.cell (c:=u8s B) h hu
theorem convM {r:Option Nat} {w V:World} {B:List Nat} (hB:∀ x∈B,x<256) (hl:B.length≤maxLen) (hr:∀ k,r=some k→k<w.heap.size) (h:GO r (w.alloc (.cells (u8s B).toArray 5)) V):
  (convS (.slice (some ⟨w.heap.size,0,none⟩) B.length B.length)).run Tryz.prog V=.ok (.string (str B)) V:=
 run_conv ((isBytesM (w:=w.alloc (.cells (u8s B).toArray 5)) (g:=w.heap.size) (Blk.new w 5 (u8s B)) hB hl).row h (fun a n c e _ e2=>by
  cases e
  have:=hr _ e2.symm
  simp at this))
theorem conv_byteM {r:Option Nat} {w V:World} {c:Nat} (hc:c<256) (hr:∀ k,r=some k→k<w.heap.size) (h:GO r (w.alloc (.cells #[.int .u8 (c:Int)] 5)) V):
  (convS (.slice (some ⟨w.heap.size,0,none⟩) 1 1)).run Tryz.prog V=.ok (.string (str [c])) V:=
 convM (B:=[c]) (by simpa using hc) (by unfold maxLen;simp) hr h
theorem conv_zerosM {r:Option Nat} {w V:World} {n:Nat} (hn:n≤100000) (hr:∀ k,r=some k→k<w.heap.size) (h:GO r (w.alloc (.cells (u8s (List.replicate n 0)).toArray 5)) V):
  (convS (.slice (some ⟨w.heap.size,0,none⟩) n n)).run Tryz.prog V=.ok (.string (str (List.replicate n 0))) V:=by
 have h2:=convM (B:=List.replicate n 0) (V:=V) (by intro x hx;have:=List.eq_of_mem_replicate hx;omega) (by unfold maxLen;simp;omega) hr h
 rwa [List.length_replicate] at h2
theorem wp_append_recM {w:World} {o:Oper} {a:Act} {K:Act→World→Prop} {Q:Exit→Act→World→Prop} (s x:Operand)
  (ho:o.op=.call { callee:=.builtin .append,args:=#[s,x],argTypes:=#[22,22] })
  (base:Nat) (v:Value) (L:List RT) (hs:a.eval s=v) (hown:OwnRecs base w v L) {kk ss:Int} {kb vb:ByteArray}
  (hx:a.eval x=.slice (some ⟨w.heap.size,0,none⟩) 1 1)
  (hbytes:L.length+1≤4294967296) (hbase:base≤w.heap.size)
  (h:∀ v' w',OwnRecs base w' v' (L++[⟨kk,ss,kb,vb⟩])→(w.alloc (.cells #[.int .i64 kk,.int .i64 ss,.string kb,.string vb] 26 (0,0))).grownBy w' v.ownBlock→K (a.put o.dst v') w'):
  o.wp Tryz.prog a (w.alloc (.cells #[.int .i64 kk,.int .i64 ss,.string kb,.string vb] 26 (0,0))) K Q:=by
 obtain ⟨i0,hi,hz0,hz1,hz2⟩:=info_parts infoRecS
 have hA:Below w.heap.size w (w.alloc (.cells #[.int .i64 kk,.int .i64 ss,.string kb,.string vb] 26 (0,0))):=(Below.refl _ _).alloc (Nat.le_refl _) _
 have hk:=Blk.new w 26 (recL (⟨kk,ss,kb,vb⟩:RT))
 refine wp_append_own _ s x _ ho base 26 i0 (.agg (recL zR).toArray) 4 48 Tryz.underlying22 hi hz0 hz1 hz2 rfl (by decide) v L.length (rcells L) hs (hown.below hA) ⟨w.heap.size,0,none⟩ 1 1 (recL (⟨kk,ss,kb,vb⟩:RT)) hx rfl (fun j u hj=>?_) (recL_one _) (by unfold maxLen;omega) (by omega) (by simp;omega) fun v' w' h3 h4 _=>h v' w' ?_ h4
 ·have hadd:(⟨w.heap.size,0,none⟩:Addr).add j=⟨w.heap.size,j,none⟩:=by unfold Addr.add;split <;> simp_all
  rw [hadd]
  exact hk.cell hj
 ·unfold OwnRecs
  rw [List.length_append,rcells_append]
  have e:rcells [(⟨kk,ss,kb,vb⟩:RT)]=recL (⟨kk,ss,kb,vb⟩:RT):=by simp [rcells]
  rw [e]
  exact h3
theorem run_buildRM (w:World) (k s:Int) (b c:ByteArray):(buildR #[(0,.int .i64 k),(1,.int .i64 s),(2,.string b),(3,.string c)]).run Tryz.prog w=.ok (.agg #[.int .i64 k,.int .i64 s,.string b,.string c]) w:=by kernel_rfl
attribute [local go_sem] run_buildRM
attribute [local go_sem ↓] loadR_eq storeR_eq conv_eq buildR_eq
set_option maxHeartbeats 32000000 in
theorem sealedMany_walk (n keys size:Int) (w:World) (hT:Tab w) (_:(Lit.int .i64 n).wf=true) (_:(Lit.int .i64 keys).wf=true) (_:(Lit.int .i64 size).wf=true):
  Calls Tryz.prog 8 #[.int .i64 n,.int .i64 keys,.int .i64 size] w fun e w'=>e=.returned (.bool true)∧Below w.heap.size w w':=by
 have HT:=Lib.hid hT
 clear hT
 go_enter Tryz.func8,Tryz.ntmps8
 go_wp2_with fail
 refine (begun16_any w HT.out).mono ?_
 rintro e w0 ⟨rfl,HB0⟩
 by_cases m1:n<0
 ·go_wp2
  go_ret
  exact ⟨rfl,HB0.out⟩
 by_cases m2:60<n
 ·go_wp2
  go_ret
  exact ⟨rfl,HB0.out⟩
 by_cases m3:keys<1
 ·go_wp2
  go_ret
  exact ⟨rfl,HB0.out⟩
 by_cases m4:20<keys
 ·go_wp2
  go_ret
  exact ⟨rfl,HB0.out⟩
 by_cases m5:size<0
 ·go_wp2
  go_ret
  exact ⟨rfl,HB0.out⟩
 by_cases m6:120<size
 ·go_wp2
  go_ret
  exact ⟨rfl,HB0.out⟩
 obtain ⟨N,rfl⟩:∃ N:Nat,n=(N:Int):=⟨n.toNat,by omega⟩
 obtain ⟨Q,rfl⟩:∃ N:Nat,keys=(N:Int):=⟨keys.toNat,by omega⟩
 obtain ⟨Z,rfl⟩:∃ N:Nat,size=(N:Int):=⟨size.toNat,by omega⟩
 have hN:N≤60:=by omega
 have hQ:Q≤20:=by omega
 have hQ0:0<Q:=by omega
 have hZ:Z≤120:=by omega
 go_wp2_with fail
 clear m1 m2 m3 m4 m5 m6
 go_loopw [8,9] (fun x y wr=>∃ i:Nat,i≤N∧y=.int .i64 i∧Hid (OwnRecs w0.heap.size wr x (listM Q Z i))∧Hid (Below w0.heap.size w0 wr)) (fun _ y _=>N-(intOf y).toNat)
 case atStart=>exact ⟨0,by omega,rfl,Lib.hid (ownRecs_nil _ _),Lib.hid (Below.refl _ _)⟩
 case round=>
  obtain ⟨i,hi,rfl,HO,HB⟩:=hrel
  have HBW:=Lib.hid (HB0.out.trans (HB.out.mono HB0.out.size))
  obtain ⟨so,co,rfl,-,-⟩:=HO.out.slice
  rw [listM_length] at HO ⊢
  by_cases hlt:i<N
  ·obtain ⟨m,hm⟩:∃ m,i%Q=m:=⟨_,rfl⟩
   have hmQ:m<Q:=by rw [← hm];exact Nat.mod_lt _ hQ0
   have hmod:(i:Int)%(Q:Int)=(m:Int):=by rw [← hm];exact (Int.natCast_emod i Q).symm
   have hmod2:(i:Int).tmod (Q:Int)=(m:Int):=by rw [Int.tmod_eq_emod_of_nonneg (by omega)];exact hmod
   obtain ⟨c,hc⟩:∃ c,97+m=c:=⟨_,rfl⟩
   have hc256:c<256:=by omega
   have hci:(97:Int)+(m:Int)=(c:Int):=by omega
   have hcw:IntKind.u8.wrap (c:Int)=(c:Int):=by simp [IntKind.wrap,IntKind.signed,IntKind.bits];omega
   have hcw0:IntKind.i64.wrap (c:Int)=(c:Int):=by simp [IntKind.wrap,IntKind.signed,IntKind.bits];omega
   have hcm:(c:Int)%256=(c:Int):=by omega
   have hi1:(i:Int)<(N:Int):=by omega
   have hQi:(Q:Int)≠0:=by omega
   have hQn:¬ Q=0:=by omega
   have hsz:¬ 9223372036854775807<1+(str [c]).size:=by rw [str_sz];simp
   have hrec:listM Q Z i++[(⟨1,IntKind.i64.wrap ((i:Int)+1),(⟨#[107]⟩:ByteArray)++str [c],str (List.replicate Z 0)⟩:RT)]=listM Q Z (i+1):=by rw [listM_succ,show IntKind.i64.wrap ((i:Int)+1)=(i:Int)+1 by simp [IntKind.wrap,IntKind.signed,IntKind.bits];omega];congr 2;unfold recM keyM;rw [hm,hc]
   obtain ⟨r,hr⟩:∃ r,(Value.slice so i co).ownBlock=r:=⟨_,rfl⟩
   have hrl:∀ k,r=some k→k<wr.heap.size:=fun k hk=>by
    have:=(World.ownsRow.lt HO.out k (by rw [hr];exact hk)).2
    exact this
   go_wp2_with fail
   have hHeld:GO r wr wr.drew:=GO.start r wr
   refine wp_region_noPanic ?_
   refine wpAnyH_start (n:=18) (l:=#[false,false,false,false,false,false,false,false,false,false,false,false,false,false,false,false,false,false]) (S:=GO r wr) (by kernel_rfl) (hHeld) (by kernel_rfl) (by kernel_rfl) ?_
   refine wpAnyH_take (i:=0) (oi:=_) (v:=?_) rfl (by kernel_rfl) (by kernel_rfl) (by kernel_rfl) (fun _ _ _ h=>h) (Or.inl ⟨by rfl,?_⟩) (by assumption) ?_
   rotate_left
   ·intro wq hSw;go_simp;try with_reducible rfl
   simp only [Act.put,List.setIfInBounds_toArray,List.set_cons_zero,List.set_cons_succ,List.getElem_toArray,List.getElem_cons_zero,List.getElem_cons_succ]
   refine wpAnyH_take (i:=1) (oi:=_) (v:=?_) rfl (by kernel_rfl) (by kernel_rfl) (by kernel_rfl) (fun _ _ _ h=>h) (Or.inl ⟨by rfl,?_⟩) (by assumption) ?_
   rotate_left
   ·intro wq hSw;go_simp;try with_reducible rfl
   simp only [Act.put,List.setIfInBounds_toArray,List.set_cons_zero,List.set_cons_succ,List.getElem_toArray,List.getElem_cons_zero,List.getElem_cons_succ]
   refine wpAnyH_take (i:=2) (oi:=_) (v:=?_) rfl (by kernel_rfl) (by kernel_rfl) (by kernel_rfl) (fun _ _ _ h=>h) (Or.inl ⟨by rfl,?_⟩) (by assumption) ?_
   rotate_left
   ·intro wq hSw;go_simp;try with_reducible rfl
   simp only [Act.put,List.setIfInBounds_toArray,List.set_cons_zero,List.set_cons_succ,List.getElem_toArray,List.getElem_cons_zero,List.getElem_cons_succ]
   refine wpAnyH_take (i:=3) (oi:=_) (v:=?_) rfl (by kernel_rfl) (by kernel_rfl) (by kernel_rfl) (fun _ _ _ h=>h) (Or.inl ⟨by rfl,?_⟩) (by assumption) ?_
   rotate_left
   ·intro wq hSw;go_simp;try with_reducible rfl
   simp only [Act.put,List.setIfInBounds_toArray,List.set_cons_zero,List.set_cons_succ,List.getElem_toArray,List.getElem_cons_zero,List.getElem_cons_succ]
   refine wpAnyH_take (i:=4) (oi:=_) (v:=?_) rfl (by kernel_rfl) (by kernel_rfl) (by kernel_rfl) (fun _ _ _ h=>h) (Or.inl ⟨by rfl,?_⟩) (by assumption) ?_
   rotate_left
   ·intro wq hSw;go_simp;try with_reducible rfl
   simp only [Act.put,List.setIfInBounds_toArray,List.set_cons_zero,List.set_cons_succ,List.getElem_toArray,List.getElem_cons_zero,List.getElem_cons_succ]
   refine wpAnyH_take (i:=5) (oi:=_) (v:=?_) rfl (by kernel_rfl) (by kernel_rfl) (by kernel_rfl) (fun _ _ _ h=>h) (Or.inl ⟨by rfl,?_⟩) (by assumption) ?_
   rotate_left
   ·intro wq hSw;go_simp;try with_reducible rfl
   simp only [Act.put,List.setIfInBounds_toArray,List.set_cons_zero,List.set_cons_succ,List.getElem_toArray,List.getElem_cons_zero,List.getElem_cons_succ]
   refine wpAnyH_take (i:=6) (oi:=_) (v:=?_) rfl (by kernel_rfl) (by kernel_rfl) (by kernel_rfl) (fun _ _ _ h=>h) (Or.inl ⟨by rfl,?_⟩) (by assumption) ?_
   rotate_left
   ·intro wq hSw;go_simp;try with_reducible rfl
   simp only [Act.put,List.setIfInBounds_toArray,List.set_cons_zero,List.set_cons_succ,List.getElem_toArray,List.getElem_cons_zero,List.getElem_cons_succ]
   refine wpAnyH_take (i:=7) (oi:=_) (v:=?_) rfl (by kernel_rfl) (by kernel_rfl) (by kernel_rfl) (fun _ _ _ h=>h) (Or.inl ⟨by rfl,?_⟩) (by assumption) ?_
   rotate_left
   ·intro wq hSw;go_simp;try with_reducible rfl
   simp only [Act.put,List.setIfInBounds_toArray,List.set_cons_zero,List.set_cons_succ,List.getElem_toArray,List.getElem_cons_zero,List.getElem_cons_succ]
   refine wpAnyH_take (i:=11) (oi:=_) (v:=?_) rfl (by kernel_rfl) (by kernel_rfl) (by kernel_rfl) (fun _ _ _ h=>h) (Or.inl ⟨by rfl,?_⟩) (by assumption) ?_
   rotate_left
   ·intro wq hSw;go_simp;try with_reducible rfl
   simp only [Act.put,List.setIfInBounds_toArray,List.set_cons_zero,List.set_cons_succ,List.getElem_toArray,List.getElem_cons_zero,List.getElem_cons_succ]
   refine wpAnyH_ready (rs:=[8,12]) (by kernel_rfl) (by simp) ?_
   refine AllReadyH.cons (o:=_) rfl (fun K hK=>?_) (AllReadyH.cons (o:=_) rfl (fun K hK=>?_) AllReadyH.nil)
   ·simp only [List.getElem_toArray,List.getElem_cons_zero,List.getElem_cons_succ]
    go_simp
    refine hK.out _ _ (((GO.refl r wr).alloc _).trans (GO.start r _)) (fun _=>?_)
    clear hK K
    obtain ⟨w1,ew1⟩:∃ w1,(wr.alloc (.cells #[.int .u8 (c:Int)] 5)).drew=w1:=⟨_,rfl⟩
    rw [ew1]
    have hGw1:GO r wr w1:=by rw [← ew1];exact ((GO.refl r wr).alloc _).trans (GO.start r _)
    have hHw1:GO r wr w1:=by rw [← ew1];exact ((GO.refl r wr).alloc _).trans (GO.start r _)
    have hSw1:Hid (w1.heap.size=wr.heap.size+1):=Lib.hid (by rw [← ew1];exact Array.size_push _)
    have hBw1:Below wr.heap.size wr w1:=by rw [← ew1];exact ((Below.refl _ _).alloc (Nat.le_refl _) _).drew
    have hCw1:=fun V (hV:GO r w1 V)=>conv_byteM (w:=wr) hc256 hrl (GO.trans (GO.start r _) (by rw [ew1];exact hV))
    clear ew1
    refine wpAnyH_mono (S':=GO r w1) (fun V hV=>hHw1.trans hV) ?_
    clear hHeld
    have hHeld:=GO.refl r w1
    simp only [Act.put,List.setIfInBounds_toArray,List.set_cons_zero,List.set_cons_succ,List.getElem_toArray,List.getElem_cons_zero,List.getElem_cons_succ]
    refine wpAnyH_take (i:=9) (oi:=_) (v:=?_) rfl (by kernel_rfl) (by kernel_rfl) (by kernel_rfl) (fun _ _ _ h=>h) (Or.inl ⟨by rfl,?_⟩) (by assumption) ?_
    rotate_left
    ·intro wq hSw;have hl:=hCw1 wq hSw;go_simp;try with_reducible rfl
    simp only [Act.put,List.setIfInBounds_toArray,List.set_cons_zero,List.set_cons_succ,List.getElem_toArray,List.getElem_cons_zero,List.getElem_cons_succ]
    refine wpAnyH_take (i:=10) (oi:=_) (v:=?_) rfl (by kernel_rfl) (by kernel_rfl) (by kernel_rfl) (fun _ _ _ h=>h) (Or.inl ⟨by rfl,?_⟩) (by assumption) ?_
    rotate_left
    ·intro wq hSw;go_simp;try with_reducible rfl
    simp only [Act.put,List.setIfInBounds_toArray,List.set_cons_zero,List.set_cons_succ,List.getElem_toArray,List.getElem_cons_zero,List.getElem_cons_succ]
    refine wpAnyH_ready (rs:=[12]) (by kernel_rfl) (by simp) ?_
    refine AllReadyH.cons (o:=_) rfl (fun K hK=>?_) AllReadyH.nil
    simp only [List.getElem_toArray,List.getElem_cons_zero,List.getElem_cons_succ]
    have hmk:=run_makeB Z (by omega) w1
    go_simp
    refine hK.out _ _ ((GO.refl r w1).alloc _) (fun _=>?_)
    clear hK K hmk
    obtain ⟨w2,ew2⟩:∃ w2,w1.alloc (.cells (u8s (List.replicate Z 0)).toArray 5)=w2:=⟨_,rfl⟩
    rw [ew2]
    have hGw2:GO r wr w2:=by rw [← ew2];exact hGw1.trans ((GO.refl r w1).alloc _)
    have hHw2:GO r w1 w2:=by rw [← ew2];exact (GO.refl r w1).alloc _
    have hSw2:Hid (w2.heap.size=w1.heap.size+1):=Lib.hid (by rw [← ew2];exact Array.size_push _)
    have hBw2:Below wr.heap.size wr w2:=by rw [← ew2];exact hBw1.alloc (by have:=hSw1.out;omega) _
    have hCw2:=fun V (hV:GO r w2 V)=>conv_zerosM (w:=w1) (n:=Z) (by omega) (fun k hk=>by have:=hrl k hk;have:=hSw1.out;omega) (by rw [ew2];exact hV)
    clear ew2
    refine wpAnyH_mono (S':=GO r w2) (fun V hV=>hHw2.trans hV) ?_
    clear hHeld
    have hHeld:=GO.refl r w2
    simp only [Act.put,List.setIfInBounds_toArray,List.set_cons_zero,List.set_cons_succ,List.getElem_toArray,List.getElem_cons_zero,List.getElem_cons_succ]
    refine wpAnyH_take (i:=13) (oi:=_) (v:=?_) rfl (by kernel_rfl) (by kernel_rfl) (by kernel_rfl) (fun _ _ _ h=>h) (Or.inl ⟨by rfl,?_⟩) (by assumption) ?_
    rotate_left
    ·intro wq hSw;have hl:=hCw2 wq hSw;go_simp;try with_reducible rfl
    simp only [Act.put,List.setIfInBounds_toArray,List.set_cons_zero,List.set_cons_succ,List.getElem_toArray,List.getElem_cons_zero,List.getElem_cons_succ]
    refine wpAnyH_take (i:=14) (oi:=_) (v:=?_) rfl (by kernel_rfl) (by kernel_rfl) (by kernel_rfl) (fun _ _ _ h=>h) (Or.inl ⟨by rfl,?_⟩) (by assumption) ?_
    rotate_left
    ·intro wq hSw;go_simp;try with_reducible rfl
    simp only [Act.put,List.setIfInBounds_toArray,List.set_cons_zero,List.set_cons_succ,List.getElem_toArray,List.getElem_cons_zero,List.getElem_cons_succ]
    refine wpAnyH_ready (rs:=[15]) (by kernel_rfl) (by simp) ?_
    refine AllReadyH.cons (o:=_) rfl (fun K hK=>?_) AllReadyH.nil
    simp only [List.getElem_toArray,List.getElem_cons_zero,List.getElem_cons_succ]
    go_simp
    refine hK.out _ _ (hHeld.alloc _) (fun _=>?_)
    clear hK K
    simp only [Act.put,List.setIfInBounds_toArray,List.set_cons_zero,List.set_cons_succ,List.getElem_toArray,List.getElem_cons_zero,List.getElem_cons_succ]
    refine wpAnyH_ready (rs:=[16]) (by kernel_rfl) (by simp) ?_
    refine AllReadyH.cons (o:=_) rfl (fun K hK=>?_) AllReadyH.nil
    simp only [List.getElem_toArray,List.getElem_cons_zero,List.getElem_cons_succ]
    rw [if_pos (by rfl)]
    refine wp_append_recM (w:=w2) (.tmp 49) (.tmp 64) rfl w0.heap.size (.slice so i co) (listM Q Z i) rfl (HO.out.below hBw2) rfl (by rw [listM_length];omega) (by have:=HB.out.size;have:=hSw1.out;have:=hSw2.out;omega) (fun v5 w5 ho5 hgr5=>?_)
    rw [hr] at hgr5
    rw [hrec] at ho5
    have HO5:=Lib.hid ho5
    have HB5:Hid (Below w0.heap.size w0 w5):=Lib.hid (((HB.out.trans (hBw2.mono HB.out.size)).alloc (by have:=HB.out.size;have:=hSw1.out;have:=hSw2.out;omega) _).grown hgr5 (by simp;have:=HB.out.size;have:=hSw1.out;have:=hSw2.out;omega) (by rw [← hr];exact HO.out.lt))
    refine hK.out _ _ ((GO.refl r w2).alloc _ |>.trans hgr5) (fun _=>?_)
    clear hK K
    simp only [Act.put,List.setIfInBounds_toArray,List.set_cons_zero,List.set_cons_succ,List.getElem_toArray,List.getElem_cons_zero,List.getElem_cons_succ]
    have hHeld2:GO r w2 w5:=(GO.refl r w2).alloc _ |>.trans hgr5
    clear hHeld;have hHeld:=hHeld2
    refine wpAnyH_take (i:=17) (oi:=_) (v:=?_) rfl (by kernel_rfl) (by kernel_rfl) (by kernel_rfl) (fun _ _ _ h=>h) (Or.inl ⟨by rfl,?_⟩) (by assumption) ?_
    rotate_left
    ·intro wq hSw;go_simp;try with_reducible rfl
    simp only [Act.put,List.setIfInBounds_toArray,List.set_cons_zero,List.set_cons_succ,List.getElem_toArray,List.getElem_cons_zero,List.getElem_cons_succ]
    refine wpAnyH_done (by kernel_rfl) ?_ _
    refine NoPanic.normal ?_
    clear hHeld hHeld2 hgr5 ho5 hCw1 hCw2 hGw1 hGw2 hHw1 hHw2 hBw1 hBw2 hSw1 hSw2
    go_wp2_with fail
    go_roundw
    case rel=>exact ⟨i+1,by omega,by go_num,HO5,HB5⟩
    case measure=>simp [intOf];omega
   ·simp only [List.getElem_toArray,List.getElem_cons_zero,List.getElem_cons_succ]
    have hmk:=run_makeB Z (by omega) wr.drew
    go_simp
    refine hK.out _ _ (((GO.refl r wr).alloc _).trans (GO.start r _)) (fun _=>?_)
    clear hK K hmk
    obtain ⟨w1,ew1⟩:∃ w1,(wr.alloc (.cells (u8s (List.replicate Z 0)).toArray 5)).drew=w1:=⟨_,rfl⟩
    rw [ew1]
    have hGw1:GO r wr w1:=by rw [← ew1];exact ((GO.refl r wr).alloc _).trans (GO.start r _)
    have hHw1:GO r wr w1:=by rw [← ew1];exact ((GO.refl r wr).alloc _).trans (GO.start r _)
    have hSw1:Hid (w1.heap.size=wr.heap.size+1):=Lib.hid (by rw [← ew1];exact Array.size_push _)
    have hBw1:Below wr.heap.size wr w1:=by rw [← ew1];exact ((Below.refl _ _).alloc (Nat.le_refl _) _).drew
    have hCw1:=fun V (hV:GO r w1 V)=>conv_zerosM (w:=wr) (n:=Z) (by omega) hrl (GO.trans (GO.start r _) (by rw [ew1];exact hV))
    clear ew1
    refine wpAnyH_mono (S':=GO r w1) (fun V hV=>hHw1.trans hV) ?_
    clear hHeld
    have hHeld:=GO.refl r w1
    simp only [Act.put,List.setIfInBounds_toArray,List.set_cons_zero,List.set_cons_succ,List.getElem_toArray,List.getElem_cons_zero,List.getElem_cons_succ]
    refine wpAnyH_take (i:=13) (oi:=_) (v:=?_) rfl (by kernel_rfl) (by kernel_rfl) (by kernel_rfl) (fun _ _ _ h=>h) (Or.inl ⟨by rfl,?_⟩) (by assumption) ?_
    rotate_left
    ·intro wq hSw;have hl:=hCw1 wq hSw;go_simp;try with_reducible rfl
    simp only [Act.put,List.setIfInBounds_toArray,List.set_cons_zero,List.set_cons_succ,List.getElem_toArray,List.getElem_cons_zero,List.getElem_cons_succ]
    refine wpAnyH_ready (rs:=[8]) (by kernel_rfl) (by simp) ?_
    refine AllReadyH.cons (o:=_) rfl (fun K hK=>?_) AllReadyH.nil
    simp only [List.getElem_toArray,List.getElem_cons_zero,List.getElem_cons_succ]
    go_simp
    refine hK.out _ _ ((GO.refl r w1).alloc _) (fun _=>?_)
    clear hK K
    obtain ⟨w2,ew2⟩:∃ w2,w1.alloc (.cells #[.int .u8 (c:Int)] 5)=w2:=⟨_,rfl⟩
    rw [ew2]
    have hGw2:GO r wr w2:=by rw [← ew2];exact hGw1.trans ((GO.refl r w1).alloc _)
    have hHw2:GO r w1 w2:=by rw [← ew2];exact (GO.refl r w1).alloc _
    have hSw2:Hid (w2.heap.size=w1.heap.size+1):=Lib.hid (by rw [← ew2];exact Array.size_push _)
    have hBw2:Below wr.heap.size wr w2:=by rw [← ew2];exact hBw1.alloc (by have:=hSw1.out;omega) _
    have hCw2:=fun V (hV:GO r w2 V)=>conv_byteM (w:=w1) hc256 (fun k hk=>by have:=hrl k hk;have:=hSw1.out;omega) (by rw [ew2];exact hV)
    clear ew2
    refine wpAnyH_mono (S':=GO r w2) (fun V hV=>hHw2.trans hV) ?_
    clear hHeld
    have hHeld:=GO.refl r w2
    simp only [Act.put,List.setIfInBounds_toArray,List.set_cons_zero,List.set_cons_succ,List.getElem_toArray,List.getElem_cons_zero,List.getElem_cons_succ]
    refine wpAnyH_take (i:=9) (oi:=_) (v:=?_) rfl (by kernel_rfl) (by kernel_rfl) (by kernel_rfl) (fun _ _ _ h=>h) (Or.inl ⟨by rfl,?_⟩) (by assumption) ?_
    rotate_left
    ·intro wq hSw;have hl:=hCw2 wq hSw;go_simp;try with_reducible rfl
    simp only [Act.put,List.setIfInBounds_toArray,List.set_cons_zero,List.set_cons_succ,List.getElem_toArray,List.getElem_cons_zero,List.getElem_cons_succ]
    refine wpAnyH_take (i:=10) (oi:=_) (v:=?_) rfl (by kernel_rfl) (by kernel_rfl) (by kernel_rfl) (fun _ _ _ h=>h) (Or.inl ⟨by rfl,?_⟩) (by assumption) ?_
    rotate_left
    ·intro wq hSw;go_simp;try with_reducible rfl
    simp only [Act.put,List.setIfInBounds_toArray,List.set_cons_zero,List.set_cons_succ,List.getElem_toArray,List.getElem_cons_zero,List.getElem_cons_succ]
    refine wpAnyH_take (i:=14) (oi:=_) (v:=?_) rfl (by kernel_rfl) (by kernel_rfl) (by kernel_rfl) (fun _ _ _ h=>h) (Or.inl ⟨by rfl,?_⟩) (by assumption) ?_
    rotate_left
    ·intro wq hSw;go_simp;try with_reducible rfl
    simp only [Act.put,List.setIfInBounds_toArray,List.set_cons_zero,List.set_cons_succ,List.getElem_toArray,List.getElem_cons_zero,List.getElem_cons_succ]
    refine wpAnyH_ready (rs:=[15]) (by kernel_rfl) (by simp) ?_
    refine AllReadyH.cons (o:=_) rfl (fun K hK=>?_) AllReadyH.nil
    simp only [List.getElem_toArray,List.getElem_cons_zero,List.getElem_cons_succ]
    go_simp
    refine hK.out _ _ (hHeld.alloc _) (fun _=>?_)
    clear hK K
    simp only [Act.put,List.setIfInBounds_toArray,List.set_cons_zero,List.set_cons_succ,List.getElem_toArray,List.getElem_cons_zero,List.getElem_cons_succ]
    refine wpAnyH_ready (rs:=[16]) (by kernel_rfl) (by simp) ?_
    refine AllReadyH.cons (o:=_) rfl (fun K hK=>?_) AllReadyH.nil
    simp only [List.getElem_toArray,List.getElem_cons_zero,List.getElem_cons_succ]
    rw [if_pos (by rfl)]
    refine wp_append_recM (w:=w2) (.tmp 49) (.tmp 64) rfl w0.heap.size (.slice so i co) (listM Q Z i) rfl (HO.out.below hBw2) rfl (by rw [listM_length];omega) (by have:=HB.out.size;have:=hSw1.out;have:=hSw2.out;omega) (fun v5 w5 ho5 hgr5=>?_)
    rw [hr] at hgr5
    rw [hrec] at ho5
    have HO5:=Lib.hid ho5
    have HB5:Hid (Below w0.heap.size w0 w5):=Lib.hid (((HB.out.trans (hBw2.mono HB.out.size)).alloc (by have:=HB.out.size;have:=hSw1.out;have:=hSw2.out;omega) _).grown hgr5 (by simp;have:=HB.out.size;have:=hSw1.out;have:=hSw2.out;omega) (by rw [← hr];exact HO.out.lt))
    refine hK.out _ _ ((GO.refl r w2).alloc _ |>.trans hgr5) (fun _=>?_)
    clear hK K
    simp only [Act.put,List.setIfInBounds_toArray,List.set_cons_zero,List.set_cons_succ,List.getElem_toArray,List.getElem_cons_zero,List.getElem_cons_succ]
    have hHeld2:GO r w2 w5:=(GO.refl r w2).alloc _ |>.trans hgr5
    clear hHeld;have hHeld:=hHeld2
    refine wpAnyH_take (i:=17) (oi:=_) (v:=?_) rfl (by kernel_rfl) (by kernel_rfl) (by kernel_rfl) (fun _ _ _ h=>h) (Or.inl ⟨by rfl,?_⟩) (by assumption) ?_
    rotate_left
    ·intro wq hSw;go_simp;try with_reducible rfl
    simp only [Act.put,List.setIfInBounds_toArray,List.set_cons_zero,List.set_cons_succ,List.getElem_toArray,List.getElem_cons_zero,List.getElem_cons_succ]
    refine wpAnyH_done (by kernel_rfl) ?_ _
    refine NoPanic.normal ?_
    clear hHeld hHeld2 hgr5 ho5 hCw1 hCw2 hGw1 hGw2 hHw1 hHw2 hBw1 hBw2 hSw1 hSw2
    go_wp2_with fail
    go_roundw
    case rel=>exact ⟨i+1,by omega,by go_num,HO5,HB5⟩
    case measure=>simp [intOf];omega
  ·have hiN:N=i:=by omega
   subst hiN
   have HRL:=Lib.hid HO.out.at
   have HOKl:=Lib.hid (listM_ok (keys:=Q) (size:=Z) (n:=N) hZ hN)
   have HVL:=listM_vals (keys:=Q) (size:=Z) (n:=N) hZ hN
   have HLN:Hid ((listM Q Z N).length=N):=Lib.hid (listM_length _ _ _)
   have HLA:=Lib.hid (fun k hkk=>lastM (size:=Z) (n:=N) (k:=k) hQ0 hQ hkk hN)
   have HSQ:Hid (∀ j,j<N→((listM Q Z N).getD j zR).seq=(j:Int)+1):=Lib.hid fun j hj=>by rw [listM_get _ _ hj];rfl
   obtain ⟨l,hl⟩:∃ l,listM Q Z N=l:=⟨_,rfl⟩
   rw [hl] at HRL HOKl HVL HLN HSQ
   have HLA:Hid (∀ k,k<Q→(k<N→∃ j,lastN (rowsOf l) (keyM k) l.length=some j∧j<N∧N≤j+Q∧j%Q=k)∧(¬ k<N→lastN (rowsOf l) (keyM k) l.length=none)):=Lib.hid (by rw [HLN.out,← hl];exact HLA.out)
   have hrows:=rowsE_len HOKl.out
   rw [HLN.out] at hrows
   have HBL:=Lib.hid (buildP_len (l:=l) (by omega) (by omega))
   have HMX:Hid (∀ r∈l,r.key.size≤maxLen∧r.val.size≤maxLen):=Lib.hid fun r hr=>by have:=chk_ok (HOKl.out r hr);unfold maxLen;omega
   have HBB:=Lib.hid (HB0.out.trans (HB.out.mono HB0.out.size))
   have HBu:=Lib.hid (build_any _ l wr (HT.out.below HBB.out) HRL.out (by rw [HLN.out];omega) HMX.out (by omega))
   have HL7:Hid (l.length≤1000):=Lib.hid (by rw [HLN.out];omega)
   clear hrows HVL hl hlt hi HMX HO
   go_wp2_with fail
   refine HBu.out.mono ?_
   rintro e w6 ⟨HB6,⟨_,sb,nb,cb,rfl,HNB,HI6⟩ | ⟨c,h1,h2,_⟩⟩
   rotate_left
   ·exact absurd (h1.symm.trans (bad_ok HOKl.out)) h2
   have HBB6:=Lib.hid (HBB.out.trans (HB6.out.mono HBB.out.size))
   have HOp:=Lib.hid (open_built HOKl.out HL7.out _ _ w6 (HT.out.below HBB6.out) HI6.out rfl HBL.out)
   clear HB6 HBu HRL HNB HB HBB
   go_wp2_with fail
   refine HOp.out.mono ?_
   rintro e w7 ⟨gs,rfl,HS7,HB7⟩
   have HBB7:=Lib.hid (HBB6.out.trans (HB7.out.mono HBB6.out.size))
   have HLE:=Lib.hid (len_seg gs _ _ w7 HS7.out)
   rw [rowsOf_length,HLN.out] at HLE
   clear HB7 HOp HI6 HBB6 HBL
   go_wp2_with fail
   refine HLE.out.mono ?_
   rintro e w' ⟨rfl,rfl⟩
   have q1:((N:Int) != (N:Int))=false:=bne_f rfl
   clear HLE
   go_wp2_with fail
   go_loopw [14] (fun x wr=>∃ k:Nat,k≤Q∧x=.int .i64 k∧Hid (Below w7.heap.size w7 wr)) (fun x _=>Q-(intOf x).toNat)
   case atStart=>exact ⟨0,by omega,rfl,Lib.hid (Below.refl _ _)⟩
   case round=>
    obtain ⟨k,hk,rfl,HBr⟩:=hrel
    have HBBr:=Lib.hid (HBB7.out.trans (HBr.out.mono HBB7.out.size))
    have HSr:=Lib.hid (HS7.out.below HBr.out)
    by_cases hlt:k<Q
    ·obtain ⟨c,hc⟩:∃ c,97+k=c:=⟨_,rfl⟩
     have hc256:c<256:=by omega
     have hci:(97:Int)+(k:Int)=(c:Int):=by omega
     have hcw:IntKind.u8.wrap (c:Int)=(c:Int):=by simp [IntKind.wrap,IntKind.signed,IntKind.bits];omega
     have hcw0:IntKind.i64.wrap (c:Int)=(c:Int):=by simp [IntKind.wrap,IntKind.signed,IntKind.bits];omega
     have hsz:¬ 9223372036854775807<1+(str [c]).size:=by rw [str_sz];simp
     have hk1:(k:Int)<(Q:Int):=by omega
     have HKY:Hid ((⟨#[107]⟩:ByteArray)++str [c]=keyM k):=Lib.hid (by unfold keyM;rw [hc])
     have hcv:=conv_byteM (r:=none) (w:=wr) hc256 (fun _ h=>by cases h) (GO.refl _ _)
     go_wp2_with fail
     rw [HKY.out]
     obtain ⟨wX,hwX⟩:∃ wX,wr.alloc (.cells #[.int .u8 (c:Int)] 5)=wX:=⟨_,rfl⟩
     rw [hwX]
     have HBX:Hid (Below wr.heap.size wr wX):=Lib.hid (by rw [← hwX];exact (Below.refl _ _).alloc (Nat.le_refl _) _)
     have HBXr:=Lib.hid (HBr.out.trans (HBX.out.mono HBr.out.size))
     have HBBX:=Lib.hid (HBB7.out.trans (HBXr.out.mono HBB7.out.size))
     have HSX:=Lib.hid (HSr.out.below HBX.out)
     have HFI:=Lib.hid (find_seg gs _ _ (keyM k) wX HSX.out (by rw [keyM_size];unfold maxLen;omega))
     rw [rowsOf_length] at HFI
     obtain ⟨o,ho⟩:∃ o,lastN (rowsOf l) (keyM k) l.length=o:=⟨_,rfl⟩
     rw [ho] at HFI
     have HO:=Lib.hid ho
     clear ho hwX hcv HBX HBr HBBr HSr hcw hcw0 hci hsz
     refine HFI.out.mono ?_
     rintro e w' ⟨rfl,rfl⟩
     clear HFI
     by_cases hkn:k<N
     ·obtain ⟨j,hj,hjN,hjQ,hjm⟩:=(HLA.out k hlt).1 hkn
      rw [HO.out] at hj
      subst hj
      simp only [Option.getD_some,Option.isSome_some]
      have q2:decide ((k:Int)<(N:Int))=true:=by simp;omega
      have q2':decide (k<N)=true:=by simp;omega
      have q2n:(k:Int)<(N:Int):=by omega
      have hgs:=HSQ.out j hjN
      have HGE:=Lib.hid (get_built HOKl.out HL7.out gs j wX (HT.out.below HBBX.out) HSX.out (by rw [HLN.out];exact hjN))
      obtain ⟨r,hr⟩:∃ r,l.getD j zR=r:=⟨_,rfl⟩
      rw [hr] at HGE hgs
      have HR:=Lib.hid hr
      clear hr
      go_wp2_with fail
      refine HGE.out.mono ?_
      rintro e w9 ⟨rfl,HB9⟩
      have HB9r:=Lib.hid (HBXr.out.trans (HB9.out.mono HBXr.out.size))
      have HBB9:=Lib.hid (HBBX.out.trans (HB9.out.mono HBBX.out.size))
      have q3:decide ((j:Int)+(Q:Int)<(N:Int))=false:=by simp;omega
      have q3n:¬ (j:Int)+(Q:Int)<(N:Int):=by omega
      have q3w:IntKind.i64.wrap ((j:Int)+(Q:Int))=(j:Int)+(Q:Int):=by simp [IntKind.wrap,IntKind.signed,IntKind.bits];omega
      have q4:(j:Int)%(Q:Int)=(k:Int):=by rw [← hjm];exact (Int.natCast_emod j Q).symm
      have q4t:(j:Int).tmod (Q:Int)=(k:Int):=by rw [Int.tmod_eq_emod_of_nonneg (by omega)];exact q4
      have q5:((k:Int) != (k:Int))=false:=bne_f rfl
      have hQi:(Q:Int)≠0:=by omega
      have hQn:¬ Q=0:=by omega
      have q6w:IntKind.i64.wrap ((j:Int)+1)=(j:Int)+1:=by simp [IntKind.wrap,IntKind.signed,IntKind.bits];omega
      have q7:(((j:Int)+1) != ((j:Int)+1))=false:=bne_f rfl
      clear HGE HB9 q2 q2' q2n hkn hjm
      obtain ⟨wA,hstA,HKA,HBA⟩:=back_rec (w:=w9) r (Blk.new w9 26 (recL zR)) ((Below.refl _ _).alloc (Nat.le_refl _) _) (Nat.le_refl _)
      simp only [recL,zR,hgs] at hstA
      have HBAr:=Lib.hid (HB9r.out.trans (HBA.out.mono HB9r.out.size))
      have hcA:wA.cell? ⟨w9.heap.size,1,none⟩=some (.int .i64 ((j:Int)+1)):=by rw [← hgs];exact HKA.out.cell rfl
      have hblA:=World.block_lt_of_cell? wA _ hcA
      clear HKA HBA HB9r
      go_wp2_with fail
      go_roundw
      case rel=>exact ⟨k+1,by omega,by go_num,HBAr⟩
      case measure=>simp [intOf];omega
     ·obtain hj:=(HLA.out k hlt).2 hkn
      rw [HO.out] at hj
      subst hj
      simp only [Option.getD_none,Option.isSome_none,Int.natCast_zero]
      have q2:decide ((k:Int)<(N:Int))=false:=by simp;omega
      have q2':decide (k<N)=false:=by simp;omega
      have q2n:¬ (k:Int)<(N:Int):=by omega
      go_wp2_with fail
      go_roundw
      case rel=>exact ⟨k+1,by omega,by go_num,HBXr⟩
      case measure=>simp [intOf];omega
    ·obtain rfl:k=Q:=by omega
     clear hlt
     go_wp2_with fail
     go_ret
     exact ⟨rfl,HBBr.out⟩
end Go.Proofs.YtmjpnbadfmgimaaGreatDoor.S16

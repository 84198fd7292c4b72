/- Texts put together: SeaH, SeaI. -/
import Derived.Test.YtmjpnbadfmgimaaGreatDoorFg41
import Derived.Test.YtmjpnbadfmgimaaGreatDoorFg42
import Derived.Test.YtmjpnbadfmgimaaGreatDoorFg43
set_option linter.unusedSimpArgs false
set_option linter.unusedVariables false
set_option maxRecDepth 100000
set_option maxHeartbeats 32000000
namespace Go.Proofs.YtmjpnbadfmgimaaGreatDoor.S16
open Go.RowKit Pl S3 S3.Pl S14 Go.Maps
theorem len_seg (g:Nat) (L:List (RT×Nat)) (V:List Nat) (w:World) (h:IsSeg w g L V):Calls Tryz.prog 13 #[.pointer (some ⟨g,0,none⟩)] w fun e w'=>e=.returned (.int .i64 (L.length:Nat))∧w=w':=by
 obtain ⟨a,cap,mb,vv,h1,_⟩:=h
 have c0:w.cell? ⟨g,0,none⟩=some (.slice a L.length cap):=h1.cell rfl
 clear h1
 go_enter Tryz.func13,Tryz.ntmps13
 go_wp2
 go_ret
 exact ⟨rfl,rfl⟩
def Spoilt (V:List Nat) (z:Nat):Prop:=∃ k,k*1000<z∧(S11.txB (S11.blk (S11.hd V) (S11.rst V) k)).1=false
def PaPost (V:List Nat) (p n:Nat) (w:World) (e:Ending) (w':World):Prop:=
 Hid (Below w.heap.size w w')∧((∃ X sp cap,e=.returned (.tuple #[.slice sp n cap,.int .i64 0])∧Hid (X.length=n)∧Hid (IsBytes w' (.slice sp n cap) X)∧Hid (S11.Reads (S11.blk (S11.hd V) (S11.rst V)) p X))∨(e=.returned (.tuple #[.slice none 0 0,.int .i64 6])∧Hid (Spoilt V (p+n))))
theorem part_seg (g:Nat) (L:List (RT×Nat)) (V:List Nat) (p n:Nat) (w:World) (hT:Tab w) (h:IsSeg w g L V) (hpn:p+n≤total L):Calls Tryz.prog 34 #[.pointer (some ⟨g,0,none⟩),.int .i64 p,.int .i64 n] w (PaPost V p n w):=by
 obtain ⟨a,cap,mb,vv,h1,_,_,hi,hop,hsz,_,_,hVl⟩:=h
 have c2:w.cell? ⟨g,2,none⟩=some vv:=h1.cell rfl
 have hsm:=S11.op_small hop hVl
 have HP:=Lib.hid (S11.part_any vv V p n w hT hi hVl (S11.wf_nat (by omega)) (S11.wf_nat (by omega)))
 obtain ⟨va,vcap,rfl,_,_⟩:=hi.slice
 have HO:=Lib.hid hop
 have HS:=Lib.hid hsz
 have HPN:Hid (p+n≤getFour (S11.hd V)):=Lib.hid (by rw [hsz];exact hpn)
 by_cases h0:n=0
 ·subst h0
  clear h1 hi hop hsz HP
  go_enter Tryz.func34,Tryz.ntmps34
  go_wp2
  go_ret2
  exact ⟨Lib.hid (Below.refl _ _),.inl ⟨[],none,0,rfl,Lib.hid rfl,Lib.hid (isBytes_nil w),Lib.hid (S11.reads_nil _ _)⟩⟩
 ·have q0:((n:Int)==0)=false:=beq_f (by omega)
  clear h1 hi hop hsz h0 hpn hsm
  go_enter Tryz.func34,Tryz.ntmps34
  go_wp2_with fail
  refine HP.out.mono ?_
  rintro e w' (⟨hb,⟨k1,rfl⟩ | ⟨_,k2,rfl⟩⟩ | ⟨k1,p',n',hp,hq,k2,hb,⟨sp,cp,X,rfl,k3,k4,k5⟩ | ⟨rfl,k,_,_,k3,k4⟩⟩)
  ·exact absurd HO.out k1
  ·have:=HPN.out
   omega
  ·obtain rfl:p=p':=by omega
   obtain rfl:n=n':=by omega
   rw [Nat.add_sub_cancel_left] at k3 k4 ⊢
   have HB:=Lib.hid hb
   have H3:=Lib.hid k3
   have H4:=Lib.hid k4
   have H5:=Lib.hid k5
   clear hb k3 k4 k5 k1 k2 hp hq HP
   go_wp2_with fail
   go_ret2
   exact ⟨HB,.inl ⟨X,sp,cp,rfl,H3,H4,H5⟩⟩
  ·obtain rfl:p=p':=by omega
   obtain rfl:n=n':=by omega
   have HB:=Lib.hid hb
   have HSP:Hid (Spoilt V (p+n)):=Lib.hid ⟨k,k3,k4⟩
   clear hb k3 k4 k1 k2 hp hq HP
   go_wp2_with fail
   go_ret2
   exact ⟨HB,.inr ⟨rfl,HSP⟩⟩
theorem find_seg (g:Nat) (L:List (RT×Nat)) (V:List Nat) (s:ByteArray) (w:World) (h:IsSeg w g L V) (hs:s.size≤maxLen):Calls Tryz.prog 16 #[.pointer (some ⟨g,0,none⟩),.string s] w fun e w'=>e=.returned (.tuple #[.int .i64 ((lastN L s L.length).getD 0:Nat),.bool (lastN L s L.length).isSome])∧w=w':=by
 obtain ⟨a,cap,mb,vv,h1,_,⟨D,hown,hD⟩,_⟩:=h
 have c1:w.cell? ⟨g,1,none⟩=some (.map (some mb)):=h1.cell rfl
 obtain ⟨hD1,hD2⟩:=hD s
 have HKK:=Lib.hid (WideMaps.keyOf_string_mk (P:=Tryz.prog) Tryz.underlying9 hs)
 have HOW:=Lib.hid hown
 have H1:=Lib.hid hD1
 have H2:=Lib.hid hD2
 clear h1 hown hD hD1 hD2
 go_enter Tryz.func16,Tryz.ntmps16
 go_wp2_with (at_lookup;refine wpList_lookup_own_ok_int _ rfl _ _ 60 rfl 9 3 .i64 law Tryz.underlying60 Tryz.underlying3 (zeroI _) mb L.length D rfl HOW.out _ _ rfl HKK.out ?_;intro c hat hwc;have HAT:=Lib.hid hat;clear hat hwc)
 go_ret2
 have he:=HAT.out
 have he2:=H2.out
 unfold klit at he2
 rw [he2] at he
 have hc:c=((lastN L s L.length).getD 0:Nat):=by simpa using he.symm
 have hb:Maps.has D (.string s.data.toList)=(lastN L s L.length).isSome:=H1.out
 exact ⟨by rw [hc,hb];rfl,rfl⟩
theorem ret_reci {fn:Func} {p u:Tmp} (h:fn.results=#[.cell p 26,.tmp u]) (tmps:Array Value) {w:World} {g:Nat} {t:TypeId} {r:RT} {b:Int} (hp:tmps.getD p undef=.pointer (some ⟨g,0,none⟩)) (hu:tmps.getD u undef=.int .i64 b) (hk:Blk w g t (recL r)):
  (results fn tmps).run Tryz.prog w=.ok (.tuple #[.agg #[.int .i64 r.kind,.int .i64 r.seq,.string r.key,.string r.val],.int .i64 b]) w:=by
 have hl:=run_loadR_blk hk
 simp only [loadR,Instr.loadAt,Instr.sureAddr,Sem.run_bind,Sem.run_pure,Result.andThen_ok] at hl
 rw [results_cell_tmp h,hp,hu]
 simp only [asAddr,Sem.run_pure,Result.andThen_ok]
 rw [hl]
 rfl
def GetOut (r:RT) (c:Int) (w:World) (e:Ending) (w':World):Prop:=e=.returned (.tuple #[.agg #[.int .i64 r.kind,.int .i64 r.seq,.string r.key,.string r.val],.int .i64 c])∧Hid (Below w.heap.size w w')
theorem get_end {w W:World} {g:Nat} {t:TypeId} {r:RT} {c:Int} {fn:Func} {p u:Tmp} {a:Act} {Q:Ending→World→Prop} (h:fn.results=#[.cell p 26,.tmp u]) (hd:a.defers=[]) (hp:a.tmps.getD p undef=.pointer (some ⟨g,0,none⟩)) (hu:a.tmps.getD u undef=.int .i64 c) (hk:Blk W g t (recL r)) (hb:Hid (Below w.heap.size w W)) (hq:∀ e,GetOut r c w e W→Q e W):
  bodyPost Tryz.prog fn Q Exit.ret a W:=
 bodyPost_ret (ret_reci h _ hp hu hk) hd (hq _ ⟨rfl,hb⟩)
theorem back_zr {w W:World} {g:Nat} {t:TypeId} {r:RT} (hk:Blk W g t (recL r)) (hb:Below w.heap.size w W) (hg:w.heap.size≤g):
  ∃ W2,(storeR (.pointer (some ⟨g,0,none⟩)) (.agg #[.int .i64 0,.int .i64 0,.string ⟨#[]⟩,.string ⟨#[]⟩])).run Tryz.prog W=.ok () W2∧Hid (Blk W2 g t (recL zR))∧Hid (Below w.heap.size w W2):=back_rec zR hk hb hg
attribute [local go_sem ↓] loadR_eq storeR_eq buildR_eq loadQ_eq storeQ_eq buildQ_eq
attribute [local go_sem] run_buildR
theorem get_range (g:Nat) (L:List (RT×Nat)) (V:List Nat) (i:Int) (w:World) (h:IsSeg w g L V) (hi:i<0∨(L.length:Int)≤i):Calls Tryz.prog 15 #[.pointer (some ⟨g,0,none⟩),.int .i64 i] w (GetOut zR 7 w):=by
 have hk1:=Blk.new w 26 (recL zR)
 have hb1:Below w.heap.size w (w.alloc (.cells #[.int .i64 0,.int .i64 0,.string ⟨#[]⟩,.string ⟨#[]⟩] 26)):=(Below.refl _ _).alloc (Nat.le_refl _) _
 obtain ⟨w1,hw1⟩:∃ w1,w.alloc (.cells #[.int .i64 0,.int .i64 0,.string ⟨#[]⟩,.string ⟨#[]⟩] 26)=w1:=⟨_,rfl⟩
 have HK1:Hid (Blk w1 w.heap.size 26 (recL zR)):=Lib.hid (by rw [← hw1];exact hk1)
 have HB1:Hid (Below w.heap.size w w1):=Lib.hid (by rw [← hw1];exact hb1)
 obtain ⟨w2,hst,HK2,HB2⟩:=back_zr HK1.out HB1.out (Nat.le_refl _)
 obtain ⟨a,cap,mb,vv,h1,_⟩:=h.below HB1.out
 have c0:w1.cell? ⟨g,0,none⟩=some (.slice a L.length cap):=h1.cell rfl
 clear hk1 hb1 h1 h
 by_cases h0:i<0
 ·clear hi
  go_enter Tryz.func15,Tryz.ntmps15
  go_wp2
  exact get_end rfl rfl rfl rfl HK2.out HB2 fun _ h=>h
 ·have hi1:(L.length:Int)≤i:=by omega
  have hge:decide (i≥(L.length:Int))=true:=by simpa using hi1
  clear hi
  go_enter Tryz.func15,Tryz.ntmps15
  go_wp2
  exact get_end rfl rfl rfl rfl HK2.out HB2 fun _ h=>h
def GetPost (L:List (RT×Nat)) (V:List Nat) (i:Nat) (w:World) (e:Ending) (w':World):Prop:=
 (∃ X,Hid (X.length=(L.getD i zP).2)∧Hid (S11.Reads (S11.blk (S11.hd V) (S11.rst V)) (total (L.take i)) X)∧GetOut (putV (L.getD i zP).1 (str X)) 0 w e w')∨(Hid (Spoilt V (total (L.take (i+1))))∧GetOut zR 6 w e w')
theorem get_seg (g:Nat) (L:List (RT×Nat)) (V:List Nat) (i:Nat) (w:World) (hT:Tab w) (h:IsSeg w g L V) (hi:i<L.length):Calls Tryz.prog 15 #[.pointer (some ⟨g,0,none⟩),.int .i64 i] w (GetPost L V i w):=by
 have hk1:=Blk.new w 26 (recL zR)
 have hb1:Below w.heap.size w (w.alloc (.cells #[.int .i64 0,.int .i64 0,.string ⟨#[]⟩,.string ⟨#[]⟩] 26)):=(Below.refl _ _).alloc (Nat.le_refl _) _
 obtain ⟨w1,hw1⟩:∃ w1,w.alloc (.cells #[.int .i64 0,.int .i64 0,.string ⟨#[]⟩,.string ⟨#[]⟩] 26)=w1:=⟨_,rfl⟩
 have HK1:Hid (Blk w1 w.heap.size 26 (recL zR)):=Lib.hid (by rw [← hw1];exact hk1)
 have HB1:Hid (Below w.heap.size w w1):=Lib.hid (by rw [← hw1];exact hb1)
 have HG1:=Lib.hid (h.below HB1.out)
 obtain ⟨a,cap,mb,vv,h1,hq,_,_,_,_,_,hll,_⟩:=HG1.out
 have c0:w1.cell? ⟨g,0,none⟩=some (.slice a L.length cap):=h1.cell rfl
 obtain ⟨K,hK⟩:∃ K,L.length=K:=⟨_,rfl⟩
 obtain ⟨b',off,rfl,hld1⟩:=hq.load (W:=w1) (i:=i) (by rw [qOf_length];exact hi)
 have hld:=hld1 w1 (Below.refl _ _)
 obtain ⟨htk,hto⟩:=total_take L i hi
 rw [qOf_get L i 0 hi,Nat.zero_add] at hld
 obtain ⟨r,hr⟩:∃ r,(L.getD i zP).1=r:=⟨_,rfl⟩
 obtain ⟨z,hz⟩:∃ z,(L.getD i zP).2=z:=⟨_,rfl⟩
 obtain ⟨p,hp⟩:∃ p,total (L.take i)=p:=⟨_,rfl⟩
 rw [hz,hp] at htk
 rw [hr,hz,hp] at hld
 rw [htk] at hto
 have HR:=Lib.hid hr
 have HZ:=Lib.hid hz
 have HP:=Lib.hid hp
 have HTK:=Lib.hid htk
 have HTO:=Lib.hid hto
 rw [hK] at hi hll c0
 have hi1:(i:Int)<(K:Int):=by omega
 have hge:decide ((i:Int)≥(K:Int))=false:=by simp;omega
 have hi0:decide ((i:Int)<0)=false:=by simp
 obtain ⟨w3,hst3,HQ3,HB3⟩:=back_q (w:=w1) (r,p,z) (Blk.new w1 62 (qL zQ)) ((Below.refl _ _).alloc (Nat.le_refl _) _) (Nat.le_refl _)
 simp only [qL,zQ,zR,Int.natCast_zero] at hst3
 have c1:w3.cell? ⟨w1.heap.size,4,none⟩=some (.int .i64 p):=HQ3.out.cell rfl
 have c2:w3.cell? ⟨w1.heap.size,5,none⟩=some (.int .i64 z):=HQ3.out.cell rfl
 have HG3:=Lib.hid (HG1.out.below HB3.out)
 have HBB3:=Lib.hid (HB1.out.trans (HB3.out.mono HB1.out.size))
 have HT3:=Lib.hid (hT.below HBB3.out)
 have HK3:=Lib.hid (HK1.out.below HB3.out HK1.out.lt)
 have HPA:=Lib.hid (part_seg g L V p z w3 HT3.out HG3.out HTO.out)
 clear hk1 hb1 h1 h hq hld1 htk hto hr hz hp hT HG1 HK1
 go_enter Tryz.func15,Tryz.ntmps15
 go_wp2_with fail
 refine HPA.out.mono ?_
 rintro e w4 ⟨HB4,⟨X,sp,cp,rfl,HX,HI,HRd⟩ | ⟨rfl,HS⟩⟩
 ·have HQ4:=Lib.hid (HQ3.out.below HB4.out HQ3.out.lt)
  have HK4:=Lib.hid (HK3.out.below HB4.out HK3.out.lt)
  have HBB4:=Lib.hid (HBB3.out.trans (HB4.out.mono HBB3.out.size))
  have hld4:=run_loadQ_blk HQ4.out
  have HWI:=Lib.hid (with_any r p z (.slice sp z cp) X w4 HI.out)
  clear HB4 HPA hst3 c1 c2 hld HG3
  go_wp2_with fail
  refine HWI.out.mono ?_
  rintro e w5 ⟨rfl,HB5⟩
  have HK5:=Lib.hid (HK4.out.below HB5.out HK4.out.lt)
  have HBB5:=Lib.hid (HBB4.out.trans (HB5.out.mono HBB4.out.size))
  obtain ⟨w6,hst6,HK6,HB6⟩:=back_rec (w:=w) (putV r (str X)) HK5.out HBB5.out (Nat.le_refl _)
  clear HWI HQ4 hld4 HB5
  go_wp2
  exact get_end rfl rfl rfl rfl HK6.out HB6 fun _ h=>.inl ⟨X,Lib.hid (by rw [HZ.out];exact HX.out),Lib.hid (by rw [HP.out];exact HRd.out),by rw [HR.out];exact h⟩
 ·have HK4:=Lib.hid (HK3.out.below HB4.out HK3.out.lt)
  have HBB4:=Lib.hid (HBB3.out.trans (HB4.out.mono HBB3.out.size))
  obtain ⟨w6,hst6,HK6,HB6⟩:=back_zr HK4.out HBB4.out (Nat.le_refl _)
  clear HB4 HPA hst3 c1 c2 hld HG3
  go_wp2
  exact get_end rfl rfl rfl rfl HK6.out HB6 fun _ h=>.inr ⟨Lib.hid (by rw [HTK.out];exact HS.out),h⟩
end Go.Proofs.YtmjpnbadfmgimaaGreatDoor.S16

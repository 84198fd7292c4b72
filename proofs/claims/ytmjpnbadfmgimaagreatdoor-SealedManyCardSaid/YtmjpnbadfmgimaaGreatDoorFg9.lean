/- Texts put together: SrtD. -/
import Derived.Test.YtmjpnbadfmgimaaGreatDoorFg8
set_option linter.unusedSimpArgs false
set_option linter.unusedVariables false
set_option maxRecDepth 100000
set_option maxHeartbeats 32000000
namespace Go.Proofs.YtmjpnbadfmgimaaGreatDoor.Pl
end Go.Proofs.YtmjpnbadfmgimaaGreatDoor.Pl
namespace Go.Proofs.YtmjpnbadfmgimaaGreatDoor.S6.Pl
end Go.Proofs.YtmjpnbadfmgimaaGreatDoor.S6.Pl
namespace Go.Proofs.YtmjpnbadfmgimaaGreatDoor.S6
open Go.Shelf Go.RowKit Go.Lib Go.Sort _root_.Go.Proofs.YtmjpnbadfmgimaaGreatDoor.Pl _root_.Go.Proofs.YtmjpnbadfmgimaaGreatDoor.S6.Pl
attribute [local go_sem ↓] loadC_eq storeC_eq
theorem perm_abb {a b mid:Nat} {d d1 d2 d3:Array Coin} (hb:b≤d.size) (p1:PermIn a b d d1) (p2:PermIn a mid d1 d2) (p3:PermIn mid b d2 d3) (ham:a≤mid) (hmb:mid≤b):PermIn a b d d3:=
 permIn_trans _ _ _ _ _ p1 (permIn_trans _ _ _ _ _ (permIn_mono _ _ _ _ _ _ (Nat.le_refl _) hmb (by rw [p1.1];exact hb) p2) (permIn_mono _ _ _ _ _ _ ham (Nat.le_refl _) (by rw [p2.1,p1.1];exact hb) p3))
set_option maxRecDepth 1000000 in
theorem sym_up (blk off cap:Nat) (d0:Array Coin) (w0:World) (R:RowK encC 2 w0 blk off d0) (G:Nat)
  (ih:∀ g,g<G→∀ (a m b:Nat) (d:Array Coin) (w:World),d0.size=d.size→SWK encC 2 w0 blk off d w→b-a=g→a<m→m<b→b≤d.size→d.size≤1000000→Srt keyC a m d→Srt keyC m b d→Crs a m b d→
   Calls Tryz.prog 153 #[.slice (some ⟨blk,off,none⟩) d.size cap,.int .i64 a,.int .i64 m,.int .i64 b,fvC] w (SymPost a b blk off w0 d))
  (a m b:Nat) (d:Array Coin) (w:World) (hs:d0.size=d.size) (S:SWK encC 2 w0 blk off d w) (hG:b-a=G) (ham:a+1<m) (hmb:m+1<b) (hb:b≤d.size) (hsz:d.size≤1000000) (h1:Srt keyC a m d) (h2:Srt keyC m b d) (hX:Crs a m b d) (hmid:(a+b)/2<m):
  Calls Tryz.prog 153 #[.slice (some ⟨blk,off,none⟩) d.size cap,.int .i64 a,.int .i64 m,.int .i64 b,fvC] w (SymPost a b blk off w0 d):=by
 have S0:Aside (SWK encC 2 w0 blk off d w):=S
 have H1:Aside (Srt keyC a m d):=h1
 have H2:Aside (Srt keyC m b d):=h2
 have HX:Aside (Crs a m b d):=hX
 clear S h1 h2 hX
 have mixed:=mixedP
 obtain ⟨mid,hm⟩:∃ mid,(a+b)/2=mid:=⟨_,rfl⟩
 have HCut:Aside _:=fun s h3 h4 h5 h6=>@cut_of Coin _ keyC a m b ((a+b)/2+m-b) ((a+b)/2) s d H1.out H2.out (by omega) (by omega) (by omega) h3 h4 h5 h6
 rw [hm] at hmid HCut
 have z1:((m:Int)-(a:Int)==1)=false:=beq_f (by omega)
 have z2:((b:Int)-(m:Int)==1)=false:=beq_f (by omega)
 have z3:((a:Int)+(b:Int))/2=(mid:Int):=by omega
 have z4:(mid:Int)<(m:Int):=by omega
 go_enter Tryz.func153,Tryz.ntmps153
 go_wp2
 clear z1 z2 z3
 go_loopg [20,21] (b-a) (fun kx s20 s21 wr=>∃ (s r:Nat),s20=.int .i64 s∧s21=.int .i64 r∧mid+m-b≤s∧s≤r∧r≤mid∧r-s≤kx∧Aside (SWK encC 2 w0 blk off d wr)∧Aside (s=mid+m-b∨keyC d[s-1]! ≤ keyC d[mid+m-1-(s-1)]!)∧Aside (r=mid∨keyC d[mid+m-1-r]! ≤ keyC d[r]!))
 case atStart=>exact ⟨mid+m-b,mid,by first | rfl | (congr 1;omega),by first | rfl | (congr 1;omega),by omega,by omega,by omega,by omega,S0,(show _∨_ from .inl rfl),(show _∨_ from .inl rfl)⟩
 case round=>
  clear S0
  obtain ⟨s,r,rfl,rfl,hs1,hsr,hr1,hkx,S1,HL,HG⟩:=hrel
  by_cases hlt:s<r
  ·have hltz:(s:Int)<(r:Int):=by omega
   have e8:((s:Int)+(r:Int))/2=(((s+r)/2:Nat):Int):=by omega
   obtain ⟨h,hh⟩:∃ h,(s+r)/2=h:=⟨_,rfl⟩
   have hh1:s≤h:=by omega
   have hh2:h<r:=by omega
   rw [hh] at e8
   obtain ⟨q,hq⟩:∃ q,mid+m-1-h=q:=⟨_,rfl⟩
   have z5:(mid:Int)+(m:Int)-1-(h:Int)=(q:Int):=by omega
   have ea9:((q:Int)).toNat=q:=by omega
   have pa9:(0:Int)≤(q:Int):=by omega
   have qa9:(q:Int)<(d.size:Int):=by omega
   have ra9:IntKind.i64.wrap ((q:Int))=(q:Int):=by rw [IntKind.wrap_i64];omega
   have eb9:((h:Int)).toNat=h:=by omega
   have pb9:(0:Int)≤(h:Int):=by omega
   have qb9:(h:Int)<(d.size:Int):=by omega
   have rb9:IntKind.i64.wrap ((h:Int))=(h:Int):=by rw [IntKind.wrap_i64];omega
   have l9a:=swk_ld S1.out R (by omega) (q) (by omega)
   have l9b:=swk_ld S1.out R (by omega) (h) (by omega)
   have hc9:=swk_cmp wr d[q]! d[h]!
   have hk9:=cfC_key (HX.out h q (by omega) (by omega) (by omega) (by omega))
   obtain ⟨xa,hxa⟩:∃ x,x=d[q]! := ⟨_,rfl⟩
   obtain ⟨xb,hxb⟩:∃ x,x=d[h]! := ⟨_,rfl⟩
   rw [← hxa] at l9a
   rw [← hxb] at l9b
   rw [← hxa,← hxb] at hc9 hk9
   have HXA:Aside (xa=d[q]!):=hxa
   have HXB:Aside (xb=d[h]!):=hxb
   clear hxa hxb
   by_cases hv9:cfC xa xb<0
   ·have hw9:keyC xa<keyC xb:=hk9.1 hv9
    have hd9:decide (cfC xa xb<0)=true:=decide_eq_true hv9
    have HW9:Aside _:=hw9
    clear hw9 hk9
    go_wp2_with fail
    go_quiet_grown (first | (refine Calls.grown_of (hc9 _ _)))
    have S2:Aside (SWK encC 2 w0 blk off d (grow (wr.drewN nq) osq)):=S1.out.grown nq osq
    clear l9a l9b hc9 S1
    generalize grow (wr.drewN nq) osq=w2 at S2 ⊢
    clear nq osq
    have hw9:=HW9.out
    rw [HXA.out,HXB.out] at hw9
    have HW9:Aside _:=hw9
    clear hw9
    go_wp2
    go_roundg (h-s)
    case measure=>omega
    case rel=>exact ⟨s,h,rfl,by first | rfl | go_num | (congr 1;omega),by omega,by omega,by omega,Nat.le_refl _,S2,HL,(show _∨_ from .inr (by rw [hq];exact Int.le_of_lt HW9.out))⟩
   ·have hw9:¬ keyC xa<keyC xb:=fun h=>hv9 (hk9.2 h)
    have hd9:decide (cfC xa xb<0)=false:=decide_eq_false hv9
    have HW9:Aside _:=hw9
    clear hw9 hk9
    go_wp2_with fail
    go_quiet_grown (first | (refine Calls.grown_of (hc9 _ _)))
    have S2:Aside (SWK encC 2 w0 blk off d (grow (wr.drewN nq) osq)):=S1.out.grown nq osq
    clear l9a l9b hc9 S1
    generalize grow (wr.drewN nq) osq=w2 at S2 ⊢
    clear nq osq
    have hw9:=HW9.out
    rw [HXA.out,HXB.out] at hw9
    have HW9:Aside _:=hw9
    clear hw9
    go_wp2
    go_roundg (r-(h+1))
    case measure=>omega
    case rel=>exact ⟨h+1,r,by first | rfl | go_num | (congr 1;omega),rfl,by omega,by omega,by omega,Nat.le_refl _,S2,(show _∨_ from .inr (by rw [Nat.add_sub_cancel,hq];exact Int.not_lt.1 HW9.out)),HG⟩
  ·obtain rfl:s=r:=by omega
   have hC:=HCut.out s (by omega) (by omega) HL.out HG.out
   obtain ⟨e,he⟩:∃ e,mid+m-s=e:=⟨_,rfl⟩
   rw [he] at hC
   have HC:Aside _:=hC
   have k1:=hC.ge
   have k2:=hC.sm
   have k3:=hC.me
   have k4:=hC.eb
   have k5:=hC.sum
   have z6:(mid:Int)+(m:Int)-(s:Int)=(e:Int):=by omega
   have hltz:¬ (s:Int)<(s:Int):=by omega
   clear HL HG HCut hC
   rcases (show (s<m∧m<e)∨(¬ s<m)∨(s<m∧¬ m<e) by omega) with ⟨c1,c2⟩ | c1 | ⟨c1,c2⟩
   focus
    have c1z:(s:Int)<(m:Int):=by omega
    have c2z:(m:Int)<(e:Int):=by omega
    have hc:=rotate_any blk off cap s m e d0 d w0 wr R hs S1.out c1 c2 (by omega) hsz
    go_wp2_with fail
    refine hc.mono ?_
    rintro e9 w1 ⟨rfl,d1,hp1,ha1,hS1⟩
    have HP1:Aside (PermIn a b d d1):=permIn_mono _ _ _ _ _ _ (by omega) (by omega) hb hp1
    have HA1:Aside _:=ha1
    have S1:Aside _:=hS1
    clear hc hp1 ha1 hS1
    have hr:=cut_runs H1.out H2.out HC.out HA1.out
    have hsz1:d1.size=d.size:=HP1.out.1
    have HR:Aside _:=hr
    clear hr
   rotate_left
   focus
    have c1z:¬ (s:Int)<(m:Int):=by omega
    obtain ⟨d1,hd1⟩:∃ d1,d1=d:=⟨_,rfl⟩
    obtain ⟨w1,hw1⟩:∃ w1,w1=wr:=⟨_,rfl⟩
    rw [← hw1]
    have HP1:Aside (PermIn a b d d1):=by subst hd1;exact permIn_refl _ _ _
    have HA1:Aside (Arr d1 (rotF s m e fun x=>d[x]!)):=by subst hd1;show Arr d1 _;rw [show s=m by omega,rotF_none1];exact arr_self _
    have S1:Aside (SWK encC 2 w0 blk off d1 w1):=by subst hd1 hw1;exact S1
    clear hd1 hw1
    have hr:=cut_runs H1.out H2.out HC.out HA1.out
    have hsz1:d1.size=d.size:=HP1.out.1
    have HR:Aside _:=hr
    clear hr
   rotate_left
   focus
    have c1z:(s:Int)<(m:Int):=by omega
    have c2z:¬ (m:Int)<(e:Int):=by omega
    obtain ⟨d1,hd1⟩:∃ d1,d1=d:=⟨_,rfl⟩
    obtain ⟨w1,hw1⟩:∃ w1,w1=wr:=⟨_,rfl⟩
    rw [← hw1]
    have HP1:Aside (PermIn a b d d1):=by subst hd1;exact permIn_refl _ _ _
    have HA1:Aside (Arr d1 (rotF s m e fun x=>d[x]!)):=by subst hd1;show Arr d1 _;rw [show m=e by omega,rotF_none2];exact arr_self _
    have S1:Aside (SWK encC 2 w0 blk off d1 w1):=by subst hd1 hw1;exact S1
    clear hd1 hw1
    have hr:=cut_runs H1.out H2.out HC.out HA1.out
    have hsz1:d1.size=d.size:=HP1.out.1
    have HR:Aside _:=hr
    clear hr
   rotate_left
   all_goals
    rcases (show (a<s∧s<mid)∨(¬ a<s)∨(a<s∧¬ s<mid) by omega) with ⟨c5,c6⟩ | c5 | ⟨c5,c6⟩
    focus
     have c5z:(a:Int)<(s:Int):=by omega
     have c6z:(s:Int)<(mid:Int):=by omega
     have hc:=ih (mid-a) (by omega) a s mid d1 w1 (by omega) S1.out rfl c5 c6 (by omega) (by omega) HR.out.1 HR.out.2.1 (cut_crs HC.out HX.out HA1.out).1
     rw [hsz1] at hc
     go_wp2_with fail
     refine hc.mono ?_
     rintro e9 w2 ⟨rfl,d2,hp2,hq2,hS2⟩
     have hsz2:d2.size=d.size:=by rw [hp2.1,hsz1]
     have HP2:Aside _:=hp2
     have HQ2:Aside _:=hq2
     have S2:Aside _:=hS2
     clear hc hp2 hq2 hS2 S1
     have hr3:Srt keyC mid e d2∧Srt keyC e b d2:=⟨HR.out.2.2.1.congr fun x hx _=>HP2.out.2.1 x (.inr hx),HR.out.2.2.2.congr fun x hx _=>HP2.out.2.1 x (.inr (by omega))⟩
     have HR3:Aside _:=hr3
     clear hr3
    rotate_left
    focus
     have c5z:¬ (a:Int)<(s:Int):=by omega
     obtain ⟨d2,hd2⟩:∃ d2,d2=d1:=⟨_,rfl⟩
     obtain ⟨w2,hw2⟩:∃ w2,w2=w1:=⟨_,rfl⟩
     rw [← hw2]
     have HP2:Aside (PermIn a mid d1 d2):=by subst hd2;exact permIn_refl _ _ _
     have HQ2:Aside (Srt keyC a mid d2):=by subst hd2;have:=HR.out.2.1;rwa [show s=a by omega] at this
     have S2:Aside (SWK encC 2 w0 blk off d2 w2):=by subst hd2 hw2;exact S1
     have hsz2:d2.size=d.size:=by rw [hd2,hsz1]
     clear hd2 hw2 S1
     have hr3:Srt keyC mid e d2∧Srt keyC e b d2:=⟨HR.out.2.2.1.congr fun x hx _=>HP2.out.2.1 x (.inr hx),HR.out.2.2.2.congr fun x hx _=>HP2.out.2.1 x (.inr (by omega))⟩
     have HR3:Aside _:=hr3
     clear hr3
    rotate_left
    focus
     have c5z:(a:Int)<(s:Int):=by omega
     have c6z:¬ (s:Int)<(mid:Int):=by omega
     obtain ⟨d2,hd2⟩:∃ d2,d2=d1:=⟨_,rfl⟩
     obtain ⟨w2,hw2⟩:∃ w2,w2=w1:=⟨_,rfl⟩
     rw [← hw2]
     have HP2:Aside (PermIn a mid d1 d2):=by subst hd2;exact permIn_refl _ _ _
     have HQ2:Aside (Srt keyC a mid d2):=by subst hd2;have:=HR.out.1;rwa [show s=mid by omega] at this
     have S2:Aside (SWK encC 2 w0 blk off d2 w2):=by subst hd2 hw2;exact S1
     have hsz2:d2.size=d.size:=by rw [hd2,hsz1]
     clear hd2 hw2 S1
     have hr3:Srt keyC mid e d2∧Srt keyC e b d2:=⟨HR.out.2.2.1.congr fun x hx _=>HP2.out.2.1 x (.inr hx),HR.out.2.2.2.congr fun x hx _=>HP2.out.2.1 x (.inr (by omega))⟩
     have HR3:Aside _:=hr3
     clear hr3
    rotate_left
    all_goals
     rcases (show (mid<e∧e<b)∨(¬ mid<e)∨(mid<e∧¬ e<b) by omega) with ⟨c3,c4⟩ | c3 | ⟨c3,c4⟩
     ·have c3z:(mid:Int)<(e:Int):=by omega
      have c4z:(e:Int)<(b:Int):=by omega
      have hc:=ih (b-mid) (by omega) mid e b d2 w2 (by omega) S2.out rfl c3 c4 (by omega) (by omega) HR3.out.1 HR3.out.2 ((cut_crs HC.out HX.out HA1.out).2.congr fun x hx=>HP2.out.2.1 x (.inr hx))
      rw [hsz2] at hc
      go_wp2_with fail
      refine hc.mono ?_
      rintro e9 w3 ⟨rfl,d3,hp3,hq3,hS3⟩
      have HP3:Aside _:=hp3
      have HQ3:Aside _:=hq3
      have S3:Aside _:=hS3
      clear hc hp3 hq3 hS3
      go_wp2
      go_end0
      exact ⟨rfl,d3,perm_abb hb HP1.out HP2.out HP3.out (by omega) (by omega),cut_done H1.out H2.out HC.out HA1.out HP1.out.1 hb (by omega) (by omega) HP2.out HQ2.out HP3.out HQ3.out,S3.out⟩
     ·have c3z:¬ (mid:Int)<(e:Int):=by omega
      obtain ⟨d3,hd3⟩:∃ d3,d3=d2:=⟨_,rfl⟩
      have HP3:Aside (PermIn mid b d2 d3):=by subst hd3;exact permIn_refl _ _ _
      have HQ3:Aside (Srt keyC mid b d3):=by subst hd3;have:=HR3.out.2;rwa [show e=mid by omega] at this
      have S3:Aside (SWK encC 2 w0 blk off d3 w2):=by subst hd3;exact S2
      go_wp2
      go_end0
      exact ⟨rfl,d3,perm_abb hb HP1.out HP2.out HP3.out (by omega) (by omega),cut_done H1.out H2.out HC.out HA1.out HP1.out.1 hb (by omega) (by omega) HP2.out HQ2.out HP3.out HQ3.out,S3.out⟩
     ·have c3z:(mid:Int)<(e:Int):=by omega
      have c4z:¬ (e:Int)<(b:Int):=by omega
      obtain ⟨d3,hd3⟩:∃ d3,d3=d2:=⟨_,rfl⟩
      have HP3:Aside (PermIn mid b d2 d3):=by subst hd3;exact permIn_refl _ _ _
      have HQ3:Aside (Srt keyC mid b d3):=by subst hd3;have:=HR3.out.1;rwa [show e=b by omega] at this
      have S3:Aside (SWK encC 2 w0 blk off d3 w2):=by subst hd3;exact S2
      go_wp2
      go_end0
      exact ⟨rfl,d3,perm_abb hb HP1.out HP2.out HP3.out (by omega) (by omega),cut_done H1.out H2.out HC.out HA1.out HP1.out.1 hb (by omega) (by omega) HP2.out HQ2.out HP3.out HQ3.out,S3.out⟩
set_option maxRecDepth 1000000 in
theorem sym_down (blk off cap:Nat) (d0:Array Coin) (w0:World) (R:RowK encC 2 w0 blk off d0) (G:Nat)
  (ih:∀ g,g<G→∀ (a m b:Nat) (d:Array Coin) (w:World),d0.size=d.size→SWK encC 2 w0 blk off d w→b-a=g→a<m→m<b→b≤d.size→d.size≤1000000→Srt keyC a m d→Srt keyC m b d→Crs a m b d→
   Calls Tryz.prog 153 #[.slice (some ⟨blk,off,none⟩) d.size cap,.int .i64 a,.int .i64 m,.int .i64 b,fvC] w (SymPost a b blk off w0 d))
  (a m b:Nat) (d:Array Coin) (w:World) (hs:d0.size=d.size) (S:SWK encC 2 w0 blk off d w) (hG:b-a=G) (ham:a+1<m) (hmb:m+1<b) (hb:b≤d.size) (hsz:d.size≤1000000) (h1:Srt keyC a m d) (h2:Srt keyC m b d) (hX:Crs a m b d) (hmid:m≤(a+b)/2):
  Calls Tryz.prog 153 #[.slice (some ⟨blk,off,none⟩) d.size cap,.int .i64 a,.int .i64 m,.int .i64 b,fvC] w (SymPost a b blk off w0 d):=by
 have S0:Aside (SWK encC 2 w0 blk off d w):=S
 have H1:Aside (Srt keyC a m d):=h1
 have H2:Aside (Srt keyC m b d):=h2
 have HX:Aside (Crs a m b d):=hX
 clear S h1 h2 hX
 have mixed:=mixedP
 obtain ⟨mid,hm⟩:∃ mid,(a+b)/2=mid:=⟨_,rfl⟩
 have HCut:Aside _:=fun s h3 h4 h5 h6=>@cut_of Coin _ keyC a m b (a) (m) s d H1.out H2.out (by omega) (by omega) (by omega) h3 h4 h5 h6
 rw [hm] at hmid HCut
 have z1:((m:Int)-(a:Int)==1)=false:=beq_f (by omega)
 have z2:((b:Int)-(m:Int)==1)=false:=beq_f (by omega)
 have z3:((a:Int)+(b:Int))/2=(mid:Int):=by omega
 have z4:¬ (mid:Int)<(m:Int):=by omega
 go_enter Tryz.func153,Tryz.ntmps153
 go_wp2
 clear z1 z2 z3
 go_loopg [20,21] (b-a) (fun kx s20 s21 wr=>∃ (s r:Nat),s20=.int .i64 s∧s21=.int .i64 r∧a≤s∧s≤r∧r≤m∧r-s≤kx∧Aside (SWK encC 2 w0 blk off d wr)∧Aside (s=a∨keyC d[s-1]! ≤ keyC d[mid+m-1-(s-1)]!)∧Aside (r=m∨keyC d[mid+m-1-r]! ≤ keyC d[r]!))
 case atStart=>exact ⟨a,m,by first | rfl | (congr 1;omega),by first | rfl | (congr 1;omega),by omega,by omega,by omega,by omega,S0,(show _∨_ from .inl rfl),(show _∨_ from .inl rfl)⟩
 case round=>
  clear S0
  obtain ⟨s,r,rfl,rfl,hs1,hsr,hr1,hkx,S1,HL,HG⟩:=hrel
  by_cases hlt:s<r
  ·have hltz:(s:Int)<(r:Int):=by omega
   have e8:((s:Int)+(r:Int))/2=(((s+r)/2:Nat):Int):=by omega
   obtain ⟨h,hh⟩:∃ h,(s+r)/2=h:=⟨_,rfl⟩
   have hh1:s≤h:=by omega
   have hh2:h<r:=by omega
   rw [hh] at e8
   obtain ⟨q,hq⟩:∃ q,mid+m-1-h=q:=⟨_,rfl⟩
   have z5:(mid:Int)+(m:Int)-1-(h:Int)=(q:Int):=by omega
   have ea9:((q:Int)).toNat=q:=by omega
   have pa9:(0:Int)≤(q:Int):=by omega
   have qa9:(q:Int)<(d.size:Int):=by omega
   have ra9:IntKind.i64.wrap ((q:Int))=(q:Int):=by rw [IntKind.wrap_i64];omega
   have eb9:((h:Int)).toNat=h:=by omega
   have pb9:(0:Int)≤(h:Int):=by omega
   have qb9:(h:Int)<(d.size:Int):=by omega
   have rb9:IntKind.i64.wrap ((h:Int))=(h:Int):=by rw [IntKind.wrap_i64];omega
   have l9a:=swk_ld S1.out R (by omega) (q) (by omega)
   have l9b:=swk_ld S1.out R (by omega) (h) (by omega)
   have hc9:=swk_cmp wr d[q]! d[h]!
   have hk9:=cfC_key (HX.out h q (by omega) (by omega) (by omega) (by omega))
   obtain ⟨xa,hxa⟩:∃ x,x=d[q]! := ⟨_,rfl⟩
   obtain ⟨xb,hxb⟩:∃ x,x=d[h]! := ⟨_,rfl⟩
   rw [← hxa] at l9a
   rw [← hxb] at l9b
   rw [← hxa,← hxb] at hc9 hk9
   have HXA:Aside (xa=d[q]!):=hxa
   have HXB:Aside (xb=d[h]!):=hxb
   clear hxa hxb
   by_cases hv9:cfC xa xb<0
   ·have hw9:keyC xa<keyC xb:=hk9.1 hv9
    have hd9:decide (cfC xa xb<0)=true:=decide_eq_true hv9
    have HW9:Aside _:=hw9
    clear hw9 hk9
    go_wp2_with fail
    go_quiet_grown (first | (refine Calls.grown_of (hc9 _ _)))
    have S2:Aside (SWK encC 2 w0 blk off d (grow (wr.drewN nq) osq)):=S1.out.grown nq osq
    clear l9a l9b hc9 S1
    generalize grow (wr.drewN nq) osq=w2 at S2 ⊢
    clear nq osq
    have hw9:=HW9.out
    rw [HXA.out,HXB.out] at hw9
    have HW9:Aside _:=hw9
    clear hw9
    go_wp2
    go_roundg (h-s)
    case measure=>omega
    case rel=>exact ⟨s,h,rfl,by first | rfl | go_num | (congr 1;omega),by omega,by omega,by omega,Nat.le_refl _,S2,HL,(show _∨_ from .inr (by rw [hq];exact Int.le_of_lt HW9.out))⟩
   ·have hw9:¬ keyC xa<keyC xb:=fun h=>hv9 (hk9.2 h)
    have hd9:decide (cfC xa xb<0)=false:=decide_eq_false hv9
    have HW9:Aside _:=hw9
    clear hw9 hk9
    go_wp2_with fail
    go_quiet_grown (first | (refine Calls.grown_of (hc9 _ _)))
    have S2:Aside (SWK encC 2 w0 blk off d (grow (wr.drewN nq) osq)):=S1.out.grown nq osq
    clear l9a l9b hc9 S1
    generalize grow (wr.drewN nq) osq=w2 at S2 ⊢
    clear nq osq
    have hw9:=HW9.out
    rw [HXA.out,HXB.out] at hw9
    have HW9:Aside _:=hw9
    clear hw9
    go_wp2
    go_roundg (r-(h+1))
    case measure=>omega
    case rel=>exact ⟨h+1,r,by first | rfl | go_num | (congr 1;omega),rfl,by omega,by omega,by omega,Nat.le_refl _,S2,(show _∨_ from .inr (by rw [Nat.add_sub_cancel,hq];exact Int.not_lt.1 HW9.out)),HG⟩
  ·obtain rfl:s=r:=by omega
   have hC:=HCut.out s (by omega) (by omega) HL.out HG.out
   obtain ⟨e,he⟩:∃ e,mid+m-s=e:=⟨_,rfl⟩
   rw [he] at hC
   have HC:Aside _:=hC
   have k1:=hC.ge
   have k2:=hC.sm
   have k3:=hC.me
   have k4:=hC.eb
   have k5:=hC.sum
   have z6:(mid:Int)+(m:Int)-(s:Int)=(e:Int):=by omega
   have hltz:¬ (s:Int)<(s:Int):=by omega
   clear HL HG HCut hC
   rcases (show (s<m∧m<e)∨(¬ s<m)∨(s<m∧¬ m<e) by omega) with ⟨c1,c2⟩ | c1 | ⟨c1,c2⟩
   focus
    have c1z:(s:Int)<(m:Int):=by omega
    have c2z:(m:Int)<(e:Int):=by omega
    have hc:=rotate_any blk off cap s m e d0 d w0 wr R hs S1.out c1 c2 (by omega) hsz
    go_wp2_with fail
    refine hc.mono ?_
    rintro e9 w1 ⟨rfl,d1,hp1,ha1,hS1⟩
    have HP1:Aside (PermIn a b d d1):=permIn_mono _ _ _ _ _ _ (by omega) (by omega) hb hp1
    have HA1:Aside _:=ha1
    have S1:Aside _:=hS1
    clear hc hp1 ha1 hS1
    have hr:=cut_runs H1.out H2.out HC.out HA1.out
    have hsz1:d1.size=d.size:=HP1.out.1
    have HR:Aside _:=hr
    clear hr
   rotate_left
   focus
    have c1z:¬ (s:Int)<(m:Int):=by omega
    obtain ⟨d1,hd1⟩:∃ d1,d1=d:=⟨_,rfl⟩
    obtain ⟨w1,hw1⟩:∃ w1,w1=wr:=⟨_,rfl⟩
    rw [← hw1]
    have HP1:Aside (PermIn a b d d1):=by subst hd1;exact permIn_refl _ _ _
    have HA1:Aside (Arr d1 (rotF s m e fun x=>d[x]!)):=by subst hd1;show Arr d1 _;rw [show s=m by omega,rotF_none1];exact arr_self _
    have S1:Aside (SWK encC 2 w0 blk off d1 w1):=by subst hd1 hw1;exact S1
    clear hd1 hw1
    have hr:=cut_runs H1.out H2.out HC.out HA1.out
    have hsz1:d1.size=d.size:=HP1.out.1
    have HR:Aside _:=hr
    clear hr
   rotate_left
   focus
    have c1z:(s:Int)<(m:Int):=by omega
    have c2z:¬ (m:Int)<(e:Int):=by omega
    obtain ⟨d1,hd1⟩:∃ d1,d1=d:=⟨_,rfl⟩
    obtain ⟨w1,hw1⟩:∃ w1,w1=wr:=⟨_,rfl⟩
    rw [← hw1]
    have HP1:Aside (PermIn a b d d1):=by subst hd1;exact permIn_refl _ _ _
    have HA1:Aside (Arr d1 (rotF s m e fun x=>d[x]!)):=by subst hd1;show Arr d1 _;rw [show m=e by omega,rotF_none2];exact arr_self _
    have S1:Aside (SWK encC 2 w0 blk off d1 w1):=by subst hd1 hw1;exact S1
    clear hd1 hw1
    have hr:=cut_runs H1.out H2.out HC.out HA1.out
    have hsz1:d1.size=d.size:=HP1.out.1
    have HR:Aside _:=hr
    clear hr
   rotate_left
   all_goals
    rcases (show (a<s∧s<mid)∨(¬ a<s)∨(a<s∧¬ s<mid) by omega) with ⟨c5,c6⟩ | c5 | ⟨c5,c6⟩
    focus
     have c5z:(a:Int)<(s:Int):=by omega
     have c6z:(s:Int)<(mid:Int):=by omega
     have hc:=ih (mid-a) (by omega) a s mid d1 w1 (by omega) S1.out rfl c5 c6 (by omega) (by omega) HR.out.1 HR.out.2.1 (cut_crs HC.out HX.out HA1.out).1
     rw [hsz1] at hc
     go_wp2_with fail
     refine hc.mono ?_
     rintro e9 w2 ⟨rfl,d2,hp2,hq2,hS2⟩
     have hsz2:d2.size=d.size:=by rw [hp2.1,hsz1]
     have HP2:Aside _:=hp2
     have HQ2:Aside _:=hq2
     have S2:Aside _:=hS2
     clear hc hp2 hq2 hS2 S1
     have hr3:Srt keyC mid e d2∧Srt keyC e b d2:=⟨HR.out.2.2.1.congr fun x hx _=>HP2.out.2.1 x (.inr hx),HR.out.2.2.2.congr fun x hx _=>HP2.out.2.1 x (.inr (by omega))⟩
     have HR3:Aside _:=hr3
     clear hr3
    rotate_left
    focus
     have c5z:¬ (a:Int)<(s:Int):=by omega
     obtain ⟨d2,hd2⟩:∃ d2,d2=d1:=⟨_,rfl⟩
     obtain ⟨w2,hw2⟩:∃ w2,w2=w1:=⟨_,rfl⟩
     rw [← hw2]
     have HP2:Aside (PermIn a mid d1 d2):=by subst hd2;exact permIn_refl _ _ _
     have HQ2:Aside (Srt keyC a mid d2):=by subst hd2;have:=HR.out.2.1;rwa [show s=a by omega] at this
     have S2:Aside (SWK encC 2 w0 blk off d2 w2):=by subst hd2 hw2;exact S1
     have hsz2:d2.size=d.size:=by rw [hd2,hsz1]
     clear hd2 hw2 S1
     have hr3:Srt keyC mid e d2∧Srt keyC e b d2:=⟨HR.out.2.2.1.congr fun x hx _=>HP2.out.2.1 x (.inr hx),HR.out.2.2.2.congr fun x hx _=>HP2.out.2.1 x (.inr (by omega))⟩
     have HR3:Aside _:=hr3
     clear hr3
    rotate_left
    focus
     have c5z:(a:Int)<(s:Int):=by omega
     have c6z:¬ (s:Int)<(mid:Int):=by omega
     obtain ⟨d2,hd2⟩:∃ d2,d2=d1:=⟨_,rfl⟩
     obtain ⟨w2,hw2⟩:∃ w2,w2=w1:=⟨_,rfl⟩
     rw [← hw2]
     have HP2:Aside (PermIn a mid d1 d2):=by subst hd2;exact permIn_refl _ _ _
     have HQ2:Aside (Srt keyC a mid d2):=by subst hd2;have:=HR.out.1;rwa [show s=mid by omega] at this
     have S2:Aside (SWK encC 2 w0 blk off d2 w2):=by subst hd2 hw2;exact S1
     have hsz2:d2.size=d.size:=by rw [hd2,hsz1]
     clear hd2 hw2 S1
     have hr3:Srt keyC mid e d2∧Srt keyC e b d2:=⟨HR.out.2.2.1.congr fun x hx _=>HP2.out.2.1 x (.inr hx),HR.out.2.2.2.congr fun x hx _=>HP2.out.2.1 x (.inr (by omega))⟩
     have HR3:Aside _:=hr3
     clear hr3
    rotate_left
    all_goals
     rcases (show (mid<e∧e<b)∨(¬ mid<e)∨(mid<e∧¬ e<b) by omega) with ⟨c3,c4⟩ | c3 | ⟨c3,c4⟩
     ·have c3z:(mid:Int)<(e:Int):=by omega
      have c4z:(e:Int)<(b:Int):=by omega
      have hc:=ih (b-mid) (by omega) mid e b d2 w2 (by omega) S2.out rfl c3 c4 (by omega) (by omega) HR3.out.1 HR3.out.2 ((cut_crs HC.out HX.out HA1.out).2.congr fun x hx=>HP2.out.2.1 x (.inr hx))
      rw [hsz2] at hc
      go_wp2_with fail
      refine hc.mono ?_
      rintro e9 w3 ⟨rfl,d3,hp3,hq3,hS3⟩
      have HP3:Aside _:=hp3
      have HQ3:Aside _:=hq3
      have S3:Aside _:=hS3
      clear hc hp3 hq3 hS3
      go_wp2
      go_end0
      exact ⟨rfl,d3,perm_abb hb HP1.out HP2.out HP3.out (by omega) (by omega),cut_done H1.out H2.out HC.out HA1.out HP1.out.1 hb (by omega) (by omega) HP2.out HQ2.out HP3.out HQ3.out,S3.out⟩
     ·have c3z:¬ (mid:Int)<(e:Int):=by omega
      obtain ⟨d3,hd3⟩:∃ d3,d3=d2:=⟨_,rfl⟩
      have HP3:Aside (PermIn mid b d2 d3):=by subst hd3;exact permIn_refl _ _ _
      have HQ3:Aside (Srt keyC mid b d3):=by subst hd3;have:=HR3.out.2;rwa [show e=mid by omega] at this
      have S3:Aside (SWK encC 2 w0 blk off d3 w2):=by subst hd3;exact S2
      go_wp2
      go_end0
      exact ⟨rfl,d3,perm_abb hb HP1.out HP2.out HP3.out (by omega) (by omega),cut_done H1.out H2.out HC.out HA1.out HP1.out.1 hb (by omega) (by omega) HP2.out HQ2.out HP3.out HQ3.out,S3.out⟩
     ·have c3z:(mid:Int)<(e:Int):=by omega
      have c4z:¬ (e:Int)<(b:Int):=by omega
      obtain ⟨d3,hd3⟩:∃ d3,d3=d2:=⟨_,rfl⟩
      have HP3:Aside (PermIn mid b d2 d3):=by subst hd3;exact permIn_refl _ _ _
      have HQ3:Aside (Srt keyC mid b d3):=by subst hd3;have:=HR3.out.1;rwa [show e=b by omega] at this
      have S3:Aside (SWK encC 2 w0 blk off d3 w2):=by subst hd3;exact S2
      go_wp2
      go_end0
      exact ⟨rfl,d3,perm_abb hb HP1.out HP2.out HP3.out (by omega) (by omega),cut_done H1.out H2.out HC.out HA1.out HP1.out.1 hb (by omega) (by omega) HP2.out HQ2.out HP3.out HQ3.out,S3.out⟩
theorem symMerge_any (blk off cap:Nat) (d0:Array Coin) (w0:World) (R:RowK encC 2 w0 blk off d0) (G:Nat):∀ (a m b:Nat) (d:Array Coin) (w:World),d0.size=d.size→SWK encC 2 w0 blk off d w→b-a=G→a<m→m<b→b≤d.size→d.size≤1000000→Srt keyC a m d→Srt keyC m b d→Crs a m b d→
   Calls Tryz.prog 153 #[.slice (some ⟨blk,off,none⟩) d.size cap,.int .i64 a,.int .i64 m,.int .i64 b,fvC] w (SymPost a b blk off w0 d):=by
 induction G using Nat.strongRecOn with
 | ind G ih=>
   intro a m b d w hs S hG ham hmb hb hsz h1 h2 hX
   by_cases c1:m=a+1
   ·exact sym_first blk off cap a m b d0 d w0 w R hs S (by omega) (by omega) hmb hb hsz h2 hX
   ·by_cases c2:b=m+1
    ·exact sym_last blk off cap a m b d0 d w0 w R hs S (by omega) (by omega) (by omega) hb hsz h1 hX
    ·by_cases c3:(a+b)/2<m
     ·exact sym_up blk off cap d0 w0 R G ih a m b d w hs S hG (by omega) (by omega) hb hsz h1 h2 hX c3
     ·exact sym_down blk off cap d0 w0 R G ih a m b d w hs S hG (by omega) (by omega) hb hsz h1 h2 hX (by omega)
end Go.Proofs.YtmjpnbadfmgimaaGreatDoor.S6

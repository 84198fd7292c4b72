/- Texts put together: SrtF. -/
import Derived.Test.YtmjpnbadfmgimaaGreatDoorFg8
import Derived.Test.YtmjpnbadfmgimaaGreatDoorFg9
set_option linter.unusedSimpArgs false
set_option linter.unusedVariables false
set_option maxRecDepth 100000
set_option maxHeartbeats 32000000
namespace Go.Proofs.YtmjpnbadfmgimaaGreatDoor.Pl
end Go.Proofs.YtmjpnbadfmgimaaGreatDoor.Pl
namespace Go.Proofs.YtmjpnbadfmgimaaGreatDoor.S6.Pl
end Go.Proofs.YtmjpnbadfmgimaaGreatDoor.S6.Pl
namespace Go.Proofs.YtmjpnbadfmgimaaGreatDoor.S6
open Go.Shelf Go.RowKit Go.Lib Go.Sort _root_.Go.Proofs.YtmjpnbadfmgimaaGreatDoor.Pl _root_.Go.Proofs.YtmjpnbadfmgimaaGreatDoor.S6.Pl
namespace Pl
theorem rest_runs {bs t a n:Nat} {d:Array Coin} (ha:a=t*(2*bs)) (h:Rest keyC bs a n d):(∀ e,e≤a+bs→e≤n→Srt keyC a e d)∧(∀ e,e≤a+2*bs→e≤n→Srt keyC (a+bs) e d):=by
 obtain ⟨e1,e2,e3⟩:=two_mul_run t bs
 constructor
 ·intro e h1 h2
  have:=h.run (2*t) (b:=e) (by omega) (by omega) h2
  rwa [e1,← ha] at this
 ·intro e h1 h2
  have:=h.run (2*t+1) (b:=e) (by omega) (by omega) h2
  rwa [e2,← ha] at this
theorem next_mul {a b M t:Nat} (ha:a=t*M) (hb:b=a+M):b=(t+1)*M:=by rw [hb,ha,Nat.add_mul,Nat.one_mul]
def Bdy (M a n:Nat) (d:Array Coin):Prop:=∀ k,a≤k*M→Crs 0 (k*M) n d
theorem Bdy.perm {M a n x y:Nat} {d d':Array Coin} (h:Bdy M a n d) (hp:PermIn x y d d') (hyn:y≤n) (hn:n≤d.size) (hk:∀ k,a≤k*M→k*M≤x∨y≤k*M∨n≤k*M):Bdy M a n d':=by
 have hy:y≤d.size:=Nat.le_trans hyn hn
 intro k hak i j h1 h2 h3 h4
 rcases hk k hak with c | c | c
 ·rw [hp.2.1 i (.inl (by omega))]
  by_cases hj:x≤j∧j<y
  ·exact permIn_all d d' x y (fun z=>d[i]!.2<z.2∧0≤d[i]!.2∧z.2<1048576) hy hp (fun q hq hqy=>h k hak i q h1 h2 (by omega) (by omega)) j hj.1 hj.2
  ·rw [hp.2.1 j (by omega)]
   exact h k hak i j h1 h2 h3 h4
 ·rw [hp.2.1 j (.inr (by omega))]
  by_cases hi:x≤i∧i<y
  ·exact permIn_all d d' x y (fun z=>z.2<d[j]!.2∧0≤z.2∧d[j]!.2<1048576) hy hp (fun q hq hqy=>h k hak q j (by omega) (by omega) h3 h4) i hi.1 hi.2
  ·rw [hp.2.1 i (by omega)]
   exact h k hak i j h1 h2 h3 h4
 ·omega
theorem Bdy.twice {M n:Nat} {d:Array Coin} (h:Bdy M 0 n d):Bdy (2*M) 0 n d:=fun k _=>by
 have:=h (2*k) (Nat.zero_le _)
 rwa [show 2*k*M=k*(2*M) by rw [Nat.mul_comm 2 k,Nat.mul_assoc]] at this
theorem Bdy.from {M a b n:Nat} {d:Array Coin} (h:Bdy M a n d) (hab:a≤b):Bdy M b n d:=fun k hk=>h k (by omega)
theorem bdy_out {M t a b n:Nat} (ha:a=t*M) (hb:b≤a+M) (h:b=a+M∨b=n) (k:Nat):k*M≤a∨b≤k*M∨n≤k*M:=by
 by_cases c:k≤t
 ·have:=Nat.mul_le_mul_right M c
  omega
 ·have:=Nat.mul_le_mul_right M (show t+1≤k by omega)
  rw [Nat.add_mul,Nat.one_mul] at this
  omega
theorem bdy_mid {bs t a b n:Nat} {d:Array Coin} (ha:a=t*(2*bs)) (h:Bdy bs a n d) (hb:b≤n):Crs a (a+bs) b d:=by
 obtain ⟨_,e2,_⟩:=two_mul_run t bs
 have:=h (2*t+1) (by omega)
 rw [e2,← ha] at this
 exact fun i j h1 h2 h3 h4=>this i j (Nat.zero_le _) h2 h3 (by omega)
theorem bdy_first {n M:Nat} {d:Array Coin} (h:Asy 0 n d):Bdy M 0 n d:=fun k _ i j h1 h2 h3 h4=>h i j h1 (by omega) h4
end Pl
def StablePost (blk off:Nat) (w0:World) (d:Array Coin) (e:Ending) (w':World):Prop:=e=.returned (.tuple #[])∧∃ d',PermIn 0 d.size d d'∧Srt keyC 0 d.size d'∧SWK encC 2 w0 blk off d' w'
set_option maxRecDepth 1000000 in
theorem stable_any (blk off cap n:Nat) (d:Array Coin) (w:World) (R:RowK encC 2 w blk off d) (hn:n=d.size) (hsz:d.size≤1000000) (hX:Asy 0 n d):
  Calls Tryz.prog 144 #[.slice (some ⟨blk,off,none⟩) n cap,.int .i64 n,fvC] w (StablePost blk off w d):=by
 have S0:Aside (SWK encC 2 w blk off d w):=SWK.start R.hH
 have HN:Aside (n=d.size):=hn
 have hn1:n≤d.size:=by omega
 have hn2:d.size≤n:=by omega
 have HX:Aside (Asy 0 n d):=hX
 clear hn hX
 go_enter Tryz.func144,Tryz.ntmps144
 go_wp2
 go_loopg [7,8] n (fun kx s7 s8 wr=>∃ (a b t:Nat) (dk:Array Coin),s7=.int .i64 a∧s8=.int .i64 b∧Aside (a=t*20)∧b≤a+20∧a+20≤b∧a≤n∧n-a≤kx∧Aside (dk.size=n)∧Aside (SWK encC 2 w blk off dk wr)∧Aside (PermIn 0 n d dk)∧Aside (Done keyC 20 a n dk)∧Aside (Bdy 20 0 n dk∧∀ x,a≤x→dk[x]! = d[x]!))
 case atStart=>exact ⟨0,20,0,d,rfl,rfl,(show _=_ from rfl),by omega,by omega,by omega,by omega,HN.out.symm,S0,permIn_refl _ _ _,Done.zero _ _ _,(show _∧_ from ⟨bdy_first HX.out,fun _ _=>rfl⟩)⟩
 case round=>
  clear S0
  obtain ⟨a,b,t,dk,rfl,rfl,hat,hb1,hb2,han,hkx,HSZ,S1,HP,HD,HB⟩:=hrel
  by_cases hbn:b≤n
  ·have hbz:(b:Int)≤(n:Int):=by omega
   have hc:=insertion_any blk off cap a b d dk w wr R (by rw [HSZ.out,HN.out]) S1.out (by omega) (by rw [HSZ.out];exact hbn) (by rw [HSZ.out];omega) (fun i j h1 h2 h3=>by rw [HB.out.2 i h1,HB.out.2 j (by omega)];exact HX.out i j (Nat.zero_le _) h2 (by omega))
   rw [HSZ.out] at hc
   go_wp2_with fail
   refine hc.mono ?_
   rintro e9 w2 ⟨rfl,d2,hp,hq,hS⟩
   have HSZ2:Aside (d2.size=n):=hp.1.trans HSZ.out
   have HP2:Aside (PermIn 0 n d d2):=perm_in HP.out hbn hn1 hp
   have HD2:Aside (Done keyC 20 b n d2):=HD.out.step hat.out (by omega) hbn (fun x hx=>hp.2.1 x (.inl hx)) hq
   have HT2:Aside (b=(t+1)*20):=next_mul hat.out (by omega)
   have HB2:Aside (Bdy 20 0 n d2∧∀ x,b≤x→d2[x]! = d[x]!):=⟨HB.out.1.perm hp hbn (by rw [HSZ.out];exact Nat.le_refl _) (fun k _=>bdy_out hat.out hb1 (.inl (by omega)) k),fun x hx=>by rw [hp.2.1 x (.inr hx)];exact HB.out.2 x (by omega)⟩
   have S2:Aside _:=hS
   clear hc hp hq hS S1 HP HD HSZ HB
   go_wp2
   go_roundg (n-b)
   case measure=>omega
   case rel=>exact ⟨b,b+20,t+1,d2,rfl,by first | rfl | go_num | simp,HT2,by omega,by omega,hbn,Nat.le_refl _,HSZ2,S2,HP2,HD2,HB2⟩
  ·have hbz:¬ (b:Int)≤(n:Int):=by omega
   have hc:=insertion_any blk off cap a n d dk w wr R (by rw [HSZ.out,HN.out]) S1.out han (by rw [HSZ.out];omega) (by rw [HSZ.out];omega) (fun i j h1 h2 h3=>by rw [HB.out.2 i h1,HB.out.2 j (by omega)];exact HX.out i j (Nat.zero_le _) h2 (by omega))
   rw [HSZ.out] at hc
   go_wp2_with fail
   refine hc.mono ?_
   rintro e9 w2 ⟨rfl,d2,hp,hq,hS⟩
   have HSZ2:Aside (d2.size=n):=hp.1.trans HSZ.out
   have HP2:Aside (PermIn 0 n d d2):=perm_in HP.out (Nat.le_refl _) hn1 hp
   have HD2:Aside (Pl.Rest keyC 20 0 n d2):=(HD.out.step hat.out (by omega) (Nat.le_refl _) (fun x hx=>hp.2.1 x (.inl hx)) hq).rest
   have HB2:Aside (Bdy 20 0 n d2):=HB.out.1.perm hp (Nat.le_refl _) (by rw [HSZ.out];exact Nat.le_refl _) (fun k _=>bdy_out hat.out (by omega) (.inr rfl) k)
   have S2:Aside _:=hS
   clear hc hp hq hS S1 HP HD HSZ hat HB
   go_wp2
   go_loopg [6,7,8,9] n (fun kx s6 s7 s8 s9 wr=>∃ (bs:Nat) (dk:Array Coin),s6=.int .i64 bs∧20≤bs∧n-bs≤kx∧Aside (dk.size=n)∧Aside (SWK encC 2 w blk off dk wr)∧Aside (PermIn 0 n d dk)∧Aside (Pl.Rest keyC bs 0 n dk)∧Aside (Bdy bs 0 n dk))
   case atStart=>exact ⟨20,d2,rfl,by omega,by omega,HSZ2,S2,HP2,HD2,HB2⟩
   case round=>
    clear S2 HSZ2 HP2 HD2 HB2
    obtain ⟨bs,dk,rfl,hbs,hkx2,HSZ,S1,HP,HR,HB⟩:=hrel
    by_cases hlt:bs<n
    ·have hltz:(bs:Int)<(n:Int):=by omega
     go_wp2
     go_loopg [7,8] n (fun kx s7 s8 wr=>∃ (a b t:Nat) (dk:Array Coin),s7=.int .i64 a∧s8=.int .i64 b∧Aside (a=t*(2*bs))∧b≤a+2*bs∧a+2*bs≤b∧a≤n∧n-a≤kx∧Aside (dk.size=n)∧Aside (SWK encC 2 w blk off dk wr)∧Aside (PermIn 0 n d dk)∧Aside (Done keyC (2*bs) a n dk)∧Aside (Pl.Rest keyC bs a n dk)∧Aside (Bdy (2*bs) 0 n dk∧Bdy bs a n dk))
     case atStart=>exact ⟨0,2*bs,0,dk,rfl,by first | rfl | go_num | simp,(show 0=0*(2*bs) by omega),by omega,by omega,by omega,by omega,HSZ,S1,HP,Done.zero _ _ _,HR,(show _∧_ from ⟨HB.out.twice,HB.out⟩)⟩
     case round=>
      clear S1 HP HR HSZ HB
      obtain ⟨a,b,t,dk,rfl,rfl,hat,hb1,hb2,han,hkx3,HSZ,S1,HP,HD,HR,HB⟩:=hrel
      by_cases hbn:b≤n
      ·have hbz:(b:Int)≤(n:Int):=by omega
       have hruns:=rest_runs hat.out HR.out
       have hc:=symMerge_any blk off cap d w R (b-a) a (a+bs) b dk wr (by rw [HSZ.out,HN.out]) S1.out rfl (by omega) (by omega) (by rw [HSZ.out];exact hbn) (by rw [HSZ.out];omega) (hruns.1 _ (Nat.le_refl _) (by omega)) (hruns.2 _ hb1 hbn) (bdy_mid hat.out HB.out.2 hbn)
       rw [HSZ.out] at hc
       rw [show ((a+bs:Nat):Int)=(a:Int)+(bs:Int) by omega] at hc
       clear hruns
       go_wp2_with fail
       refine hc.mono ?_
       rintro e9 w2 ⟨rfl,d2,hp,hq,hS⟩
       have HSZ2:Aside (d2.size=n):=hp.1.trans HSZ.out
       have HP2:Aside (PermIn 0 n d d2):=perm_in HP.out hbn hn1 hp
       have HD2:Aside (Done keyC (2*bs) b n d2):=HD.out.step hat.out hb1 hbn (fun x hx=>hp.2.1 x (.inl hx)) hq
       have HR2:Aside (Pl.Rest keyC bs b n d2):=HR.out.sub (by omega) (fun x hx=>hp.2.1 x (.inr hx))
       have HT2:Aside (b=(t+1)*(2*bs)):=next_mul hat.out (by omega)
       have HB2:Aside (Bdy (2*bs) 0 n d2∧Bdy bs b n d2):=⟨HB.out.1.perm hp hbn (by rw [HSZ.out];exact Nat.le_refl _) (fun k _=>bdy_out hat.out hb1 (.inl (by omega)) k),(HB.out.2.from (by omega)).perm hp hbn (by rw [HSZ.out];exact Nat.le_refl _) (fun k hk=>.inr (.inl hk))⟩
       have S2:Aside _:=hS
       clear hc hp hq hS S1 HP HD HSZ HR HB
       go_wp2
       go_roundg (n-b)
       case measure=>omega
       case rel=>exact ⟨b,b+2*bs,t+1,d2,rfl,by first | rfl | go_num | (congr 1;omega),HT2,by omega,by omega,hbn,Nat.le_refl _,HSZ2,S2,HP2,HD2,HR2,HB2⟩
      ·have hbz:¬ (b:Int)≤(n:Int):=by omega
       have hruns:=rest_runs hat.out HR.out
       by_cases hmn:a+bs<n
       ·have hc:=symMerge_any blk off cap d w R (n-a) a (a+bs) n dk wr (by rw [HSZ.out,HN.out]) S1.out rfl (by omega) hmn (by rw [HSZ.out];omega) (by rw [HSZ.out];omega) (hruns.1 _ (Nat.le_refl _) (by omega)) (hruns.2 _ (by omega) (Nat.le_refl _)) (bdy_mid hat.out HB.out.2 (Nat.le_refl _))
        rw [HSZ.out] at hc
        rw [show ((a+bs:Nat):Int)=(a:Int)+(bs:Int) by omega] at hc
        have hmz2:(a:Int)+(bs:Int)<(n:Int):=by omega
        clear hruns
        go_wp2_with fail
        refine hc.mono ?_
        rintro e9 w2 ⟨rfl,d2,hp,hq,hS⟩
        have HSZ2:Aside (d2.size=n):=hp.1.trans HSZ.out
        have HP2:Aside (PermIn 0 n d d2):=perm_in HP.out (Nat.le_refl _) hn1 hp
        have HD2:Aside (Pl.Rest keyC (2*bs) 0 n d2):=(HD.out.step hat.out (by omega) (Nat.le_refl _) (fun x hx=>hp.2.1 x (.inl hx)) hq).rest
        have HB2:Aside (Bdy (2*bs) 0 n d2):=HB.out.1.perm hp (Nat.le_refl _) (by rw [HSZ.out];exact Nat.le_refl _) (fun k _=>bdy_out hat.out (by omega) (.inr rfl) k)
        have S2:Aside _:=hS
        clear hc hp hq hS S1 HP HD HSZ HR hat HB
        go_wp2
        go_roundg (n-2*bs)
        case measure=>omega
        case rel=>exact ⟨2*bs,d2,by first | rfl | go_num | (congr 1;omega),by omega,Nat.le_refl _,HSZ2,S2,HP2,HD2,HB2⟩
       ·have hmz2:¬ (a:Int)+(bs:Int)<(n:Int):=by omega
        have HD2:Aside (Pl.Rest keyC (2*bs) 0 n dk):=(HD.out.step hat.out (by omega) (Nat.le_refl _) (fun x hx=>rfl) (hruns.1 n (by omega) (Nat.le_refl _))).rest
        have HB2:Aside (Bdy (2*bs) 0 n dk):=HB.out.1
        clear hruns HD HR hat HB
        go_wp2
        go_roundg (n-2*bs)
        case measure=>omega
        case rel=>exact ⟨2*bs,dk,by first | rfl | go_num | (congr 1;omega),by omega,Nat.le_refl _,HSZ,S1,HP,HD2,HB2⟩
    ·have hltz:¬ (bs:Int)<(n:Int):=by omega
     have hfin:Srt keyC 0 n dk:=HR.out.sorted (by omega)
     have HF:Aside _:=hfin
     clear hfin HR HB
     go_wp2
     go_end0
     refine ⟨rfl,dk,?_,?_,S1.out⟩
     ·rw [← HN.out];exact HP.out
     ·rw [← HN.out];exact HF.out
theorem sortStable_any (blk off cap n:Nat) (d:Array Coin) (w:World) (R:RowK encC 2 w blk off d) (hn:n=d.size) (hsz:d.size≤1000000) (hX:Asy 0 n d):
  Calls Tryz.prog 123 #[.slice (some ⟨blk,off,none⟩) n cap,fvC] w (StablePost blk off w d):=by
 have hc:=stable_any blk off cap n d w R hn hsz hX
 clear hn hX
 go_enter Tryz.func123,Tryz.ntmps123
 go_wp2_with fail
 refine hc.mono ?_
 rintro e w' ⟨rfl,h⟩
 go_wp2
 go_end0
 exact ⟨rfl,h⟩
theorem insertion_none (w:World):Calls Tryz.prog 152 #[.slice none 0 0,.int .i64 0,.int .i64 0,fvC] w fun e w'=>e=.returned (.tuple #[])∧w=w':=by
 go_enter Tryz.func152,Tryz.ntmps152
 go_wp2
 refine wp_loop_rounds 1 ?_
 rw [rounds_succ]
 go_wp2
 go_end0
 exact ⟨rfl,rfl⟩
theorem stable_none (w:World):Calls Tryz.prog 144 #[.slice none 0 0,.int .i64 0,fvC] w fun e w'=>e=.returned (.tuple #[])∧w=w':=by
 have hc:=insertion_none w
 go_enter Tryz.func144,Tryz.ntmps144
 go_wp2
 refine wp_loop_rounds 1 ?_
 rw [rounds_succ]
 go_wp2_with fail
 refine hc.mono ?_
 rintro e w' ⟨rfl,rfl⟩
 go_wp2
 refine wp_loop_rounds 1 ?_
 rw [rounds_succ]
 go_wp2
 go_end0
 exact ⟨rfl,rfl⟩
theorem sortStable_none (w:World):Calls Tryz.prog 123 #[.slice none 0 0,fvC] w fun e w'=>e=.returned (.tuple #[])∧w=w':=by
 have hc:=stable_none w
 go_enter Tryz.func123,Tryz.ntmps123
 go_wp2_with fail
 refine hc.mono ?_
 rintro e w' ⟨rfl,rfl⟩
 go_wp2
 go_end0
 exact ⟨rfl,rfl⟩
end Go.Proofs.YtmjpnbadfmgimaaGreatDoor.S6

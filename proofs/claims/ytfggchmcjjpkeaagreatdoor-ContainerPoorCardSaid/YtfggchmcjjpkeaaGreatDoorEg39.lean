/- Texts put together: ConF, ConG. -/
import Derived.Test.YtfggchmcjjpkeaaGreatDoorEg30
import Derived.Test.YtfggchmcjjpkeaaGreatDoorEg35
import Derived.Test.YtfggchmcjjpkeaaGreatDoorEg36
set_option linter.unusedSimpArgs false
set_option linter.unusedVariables false
set_option maxRecDepth 100000
namespace Go.Proofs.YtfggchmcjjpkeaaGreatDoor.S11
open Go.RowKit Pl S3 S3.Pl
theorem blk_len {C:List Nat} (h:opOk C):∀ k,k < cnt (getFour (hd C)) → (blk (hd C) (rst C) k).1 = min 1000 (getFour (hd C) - 1000 * k):=fun k _=>rfl
theorem op_small {C:List Nat} (h:opOk C) (hl:C.length ≤ 1000000):getFour (hd C) ≤ 1000000000:=by
  have h1:=h.2.1.2
  have h2:(hd C).length ≤ C.length:=by unfold hd;rw [List.length_drop,List.length_take];omega
  have:=cnt_mul (getFour (hd C))
  omega
def UnPost (C:List Nat) (most:Int) (w:World) (e:Ending) (w':World):Prop:=
  (Below w.heap.size w w' ∧ ((¬ opOk C ∧ e = .returned (.tuple #[.slice none 0 0,.int .i64 6])) ∨ (opOk C ∧ most < getFour (hd C) ∧ e = .returned (.tuple #[.slice none 0 0,.int .i64 2])))) ∨
  (opOk C ∧ (getFour (hd C):Int) ≤ most ∧ JoinPost (blk (hd C) (rst C)) 0 (getFour (hd C)) w e w')
theorem join_from {f:Nat → BkT} {a z:Nat} {w w1 w':World} {e:Ending} (hb:Below w.heap.size w w1) (h:JoinPost f a z w1 e w'):JoinPost f a z w e w':=⟨hb.trans (h.1.mono hb.size),h.2⟩
set_option maxHeartbeats 4000000 in
theorem unpack_any (v:Value) (C:List Nat) (most:Int) (w:World) (hT:Tab w) (hv:IsBytes w v C) (hl:C.length ≤ 1000000):Calls Tryz.prog 11 #[v,.int .i64 most] w (UnPost C most w):=by
  have hc:=opened_any v C w hT hv hl
  have HT:=Lib.hid hT
  clear hv hT
  go_enter Tryz.func11, Tryz.ntmps11
  go_wp2_with fail
  refine hc.mono ?_
  rintro e w1 ⟨hb,⟨hno,v1,s1,rfl⟩ | ⟨hok,v1,rfl,hbk⟩⟩
  · have HB:=Lib.hid hb
    have HNO:=Lib.hid hno
    clear hc hb hno
    go_wp2
    go_ret2
    exact .inl ⟨HB.out,.inl ⟨HNO.out,rfl⟩⟩
  · have hsm:=op_small hok hl
    have hj:=joined_any v1 (cnt (getFour (hd C))) (getFour (hd C)) 0 (getFour (hd C)) (blk (hd C) (rst C)) w1 (HT.out.below hb) hbk rfl hsm (Nat.le_refl _) (Nat.zero_le _) (blk_len hok) (fun k hk=>blk_small (hok.2.2.1 k hk))
    have HB:=Lib.hid hb
    have HOK:=Lib.hid hok
    obtain ⟨S,hS⟩:∃ S,getFour (hd C) = S:=⟨_,rfl⟩
    rw [hS] at hj hsm ⊢
    have HS:=Lib.hid hS
    have HJ:=Lib.hid hj
    clear hc hb hok hbk hj hS
    by_cases hm:most < (S:Int)
    · go_wp2
      go_ret2
      exact .inl ⟨HB.out,.inr ⟨HOK.out,by rw [HS.out];exact hm,rfl⟩⟩
    · have hm2:(S:Int) ≤ most:=by omega
      go_wp2_with fail
      refine HJ.out.mono ?_
      rintro e w2 ⟨hb2,⟨sp,cap,X,rfl,h1,h2,h3⟩ | ⟨rfl,h1⟩⟩
      · have HJ2:Hid (JoinPost (blk (hd C) (rst C)) 0 S w1 (.returned (.tuple #[.slice sp (S - 0) cap,.int .i64 0])) w2):=Lib.hid ⟨hb2,.inl ⟨sp,cap,X,rfl,h1,h2,h3⟩⟩
        clear hb2 h1 h2 h3
        rw [Nat.sub_zero] at HJ2 ⊢
        go_wp2
        go_ret2
        exact .inr ⟨HOK.out,by rw [HS.out];exact hm2,by rw [HS.out];exact join_from HB.out HJ2.out⟩
      · have HJ2:Hid (JoinPost (blk (hd C) (rst C)) 0 S w1 (.returned (.tuple #[.slice none 0 0,.int .i64 6])) w2):=Lib.hid ⟨hb2,.inr ⟨rfl,h1⟩⟩
        clear hb2 h1
        go_wp2
        go_ret2
        exact .inr ⟨HOK.out,by rw [HS.out];exact hm2,by rw [HS.out];exact join_from HB.out HJ2.out⟩
def PartPost (C:List Nat) (a n:Int) (w:World) (e:Ending) (w':World):Prop:=
  (Below w.heap.size w w' ∧ ((¬ opOk C ∧ e = .returned (.tuple #[.slice none 0 0,.int .i64 6])) ∨ (opOk C ∧ (a < 0 ∨ n < 0 ∨ (getFour (hd C):Int) - a < n) ∧ e = .returned (.tuple #[.slice none 0 0,.int .i64 7])))) ∨
  (opOk C ∧ ∃ p m:Nat,a = p ∧ n = m ∧ p + m ≤ getFour (hd C) ∧ JoinPost (blk (hd C) (rst C)) p (p + m) w e w')
set_option maxHeartbeats 8000000 in
theorem part_any (v:Value) (C:List Nat) (a n:Int) (w:World) (hT:Tab w) (hv:IsBytes w v C) (hl:C.length ≤ 1000000) (ha:(Lit.int .i64 a).wf = true) (hn:(Lit.int .i64 n).wf = true):Calls Tryz.prog 12 #[v,.int .i64 a,.int .i64 n] w (PartPost C a n w):=by
  have hc:=opened_any v C w hT hv hl
  have ha':=S10.i64_wf' ha
  have hn':=S10.i64_wf' hn
  have HT:=Lib.hid hT
  clear hv hT ha hn
  go_enter Tryz.func12, Tryz.ntmps12
  go_wp2_with fail
  refine hc.mono ?_
  rintro e w1 ⟨hb,⟨hno,v1,s1,rfl⟩ | ⟨hok,v1,rfl,hbk⟩⟩
  · have HB:=Lib.hid hb
    have HNO:=Lib.hid hno
    clear hc hb hno
    go_wp2
    go_ret2
    exact .inl ⟨HB.out,.inl ⟨HNO.out,rfl⟩⟩
  · have hsm:=op_small hok hl
    have hjj:=fun (p z:Nat) (h1:p ≤ z) (h2:z ≤ getFour (hd C))=>joined_any v1 (cnt (getFour (hd C))) (getFour (hd C)) p z (blk (hd C) (rst C)) w1 (HT.out.below hb) hbk rfl hsm h2 h1 (blk_len hok) (fun k hk=>blk_small (hok.2.2.1 k hk))
    have HB:=Lib.hid hb
    have HOK:=Lib.hid hok
    obtain ⟨S,hS⟩:∃ S,getFour (hd C) = S:=⟨_,rfl⟩
    rw [hS] at hjj hsm ⊢
    have HS:=Lib.hid hS
    have HJ:=Lib.hid hjj
    clear hc hb hok hbk hjj hS
    by_cases hr:a < 0
    · go_wp2
      go_ret2
      exact .inl ⟨HB.out,.inr ⟨HOK.out,.inl hr,rfl⟩⟩
    by_cases hr2:n < 0
    · go_wp2
      go_ret2
      exact .inl ⟨HB.out,.inr ⟨HOK.out,.inr (.inl hr2),rfl⟩⟩
    by_cases hr3:(S:Int) - a < n
    · go_wp2
      go_ret2
      exact .inl ⟨HB.out,.inr ⟨HOK.out,.inr (.inr (by rw [HS.out];exact hr3)),rfl⟩⟩
    obtain ⟨p,rfl⟩:∃ p:Nat,a = p:=⟨a.toNat,by omega⟩
    obtain ⟨m,rfl⟩:∃ m:Nat,n = m:=⟨n.toNat,by omega⟩
    have hpm:p + m ≤ S:=by omega
    obtain ⟨z,hz⟩:∃ z,p + m = z:=⟨_,rfl⟩
    have hzI:(p:Int) + (m:Int) = (z:Int):=by omega
    have hj:=HJ.out p z (by omega) (by omega)
    have HJ1:=Lib.hid hj
    have HZ:=Lib.hid hz
    clear hj HJ hz ha' hn'
    go_wp2_with fail
    refine HJ1.out.mono ?_
    rintro e w2 ⟨hb2,⟨sp,cap,X,rfl,h1,h2,h3⟩ | ⟨rfl,h1⟩⟩
    · have HJ2:Hid (JoinPost (blk (hd C) (rst C)) p z w1 (.returned (.tuple #[.slice sp (z - p) cap,.int .i64 0])) w2):=Lib.hid ⟨hb2,.inl ⟨sp,cap,X,rfl,h1,h2,h3⟩⟩
      clear hb2 h1 h2 h3
      go_wp2
      go_ret2
      exact .inr ⟨HOK.out,p,m,rfl,rfl,by rw [HS.out];exact hpm,by rw [HZ.out];exact join_from HB.out HJ2.out⟩
    · have HJ2:Hid (JoinPost (blk (hd C) (rst C)) p z w1 (.returned (.tuple #[.slice none 0 0,.int .i64 6])) w2):=Lib.hid ⟨hb2,.inr ⟨rfl,h1⟩⟩
      clear hb2 h1
      go_wp2
      go_ret2
      exact .inr ⟨HOK.out,p,m,rfl,rfl,by rw [HS.out];exact hpm,by rw [HZ.out];exact join_from HB.out HJ2.out⟩
end Go.Proofs.YtfggchmcjjpkeaaGreatDoor.S11
namespace Go.Proofs.YtfggchmcjjpkeaaGreatDoor.S11
open Go.RowKit Pl S3 S3.Pl
def BlocksPost (C:List Nat) (w:World) (e:Ending) (w':World):Prop:=
  Below w.heap.size w w' ∧ ((e = .returned (.tuple #[.slice none 0 0,.int .i64 6]) ∧ (¬ opOk C ∨ ∃ k,k * 1000 < getFour (hd C) ∧ (txB (blk (hd C) (rst C) k)).1 = false)) ∨
    (opOk C ∧ ∃ g,e = .returned (.tuple #[.slice (some ⟨g,0,none⟩) (cnt (getFour (hd C))) (cnt (getFour (hd C))),.int .i64 0]) ∧ ∀ k,k < cnt (getFour (hd C)) → w'.cell? ⟨g,k,none⟩ = some (.int .i64 ((blk (hd C) (rst C) k).1:Nat))))
attribute [local go_sem ↓] loadB_eq
set_option maxHeartbeats 8000000 in
theorem blocks_any (v:Value) (C:List Nat) (w:World) (hT:Tab w) (hv:IsBytes w v C) (hl:C.length ≤ 1000000):Calls Tryz.prog 13 #[v] w (BlocksPost C w):=by
  have hc:=opened_any v C w hT hv hl
  obtain ⟨i0,hi,hz0,hz1,hz2⟩:=infoI_parts infoI
  have HI:=Lib.hid hi
  have HZ:=Lib.hid (And.intro hz0 (And.intro hz1 hz2))
  have HT:=Lib.hid hT
  clear hv hT hi hz0 hz1 hz2
  go_enter Tryz.func13, Tryz.ntmps13
  go_wp2_with fail
  refine hc.mono ?_
  rintro e w1 ⟨hb,⟨hno,v1,s1,rfl⟩ | ⟨hok,v1,rfl,hbk⟩⟩
  · have HB:=Lib.hid hb
    have HNO:=Lib.hid hno
    clear hc hb hno
    go_wp2
    go_ret2
    exact ⟨HB.out,.inl ⟨rfl,.inl HNO.out⟩⟩
  · have hsm:=op_small hok hl
    have hj:=joined_any v1 (cnt (getFour (hd C))) (getFour (hd C)) 0 (getFour (hd C)) (blk (hd C) (rst C)) w1 (HT.out.below hb) hbk rfl hsm (Nat.le_refl _) (Nat.zero_le _) (blk_len hok) (fun k hk=>blk_small (hok.2.2.1 k hk))
    have HB:=Lib.hid hb
    have HOK:=Lib.hid hok
    obtain ⟨S,hS⟩:∃ S,getFour (hd C) = S:=⟨_,rfl⟩
    obtain ⟨n,hn⟩:∃ n,cnt S = n:=⟨_,rfl⟩
    obtain ⟨f,hf⟩:∃ f,blk (hd C) (rst C) = f:=⟨_,rfl⟩
    rw [hS,hf] at hj
    rw [hS,hn,hf] at hbk
    rw [hS] at hsm ⊢
    have hn9:n ≤ 1000000:=by rw [← hn];unfold cnt;omega
    have HS:=Lib.hid hS
    have HN:=Lib.hid hn
    have HF:=Lib.hid hf
    have HJ:=Lib.hid hj
    have HK:=Lib.hid hbk
    obtain ⟨g,rfl,hg,_,_⟩:=hbk
    clear hc hb hok hj hS hn hf
    go_wp2_with fail
    refine HJ.out.mono ?_
    rintro e w2 ⟨hb2,⟨sp,cap,X,rfl,_,_,_⟩ | ⟨rfl,k,h1,h2,h3,h4⟩⟩
    rotate_left
    · have HB2:=Lib.hid (HB.out.trans (hb2.mono HB.out.size))
      have H3:=Lib.hid h3
      have H4:=Lib.hid h4
      clear hb2 h1 h2 h3 h4 HJ HK
      go_wp2
      go_ret2
      exact ⟨HB2.out,.inl ⟨rfl,.inr ⟨k,by rw [HS.out];exact H3.out,by rw [HF.out];exact H4.out⟩⟩⟩
    · have HB2:=Lib.hid (HB.out.trans (hb2.mono HB.out.size))
      have HK2:=Lib.hid (HK.out.below hb2)
      have hg2:=Nat.lt_of_lt_of_le hg hb2.size
      clear hb2 HJ HK
      go_wp2_with (at_make;refine wpList_make_full _ rfl _ _ 31 rfl w2.heap.size 3 i0 (.int .i64 0) 1 Tryz.underlying31 HI.out HZ.out.1 HZ.out.2.1 .i64 .i64 _ _ n rfl rfl rfl rfl (by rw [HZ.out.2.2];omega) (by unfold maxLen;omega) (Nat.le_refl _) ?_;intro w3 hown hgr)
      have hk3:=made_blk hown
      have hl3:=hown.1
      obtain ⟨cs0,hcs0⟩:∃ cs0,(madeCells (Value.int .i64 0).cells (n * 1)).toList = cs0:=⟨_,rfl⟩
      rw [hcs0] at hk3 hl3
      have HK3:=Lib.hid hk3
      have HL3:Hid (cs0.length = n):=Lib.hid (by omega)
      have HB3:=Lib.hid ((Below.refl w2.heap.size w2).grown hgr (Nat.le_refl _) (by simp))
      clear hown hgr hk3 hl3 hcs0 HI HZ
      go_loopw [34] (fun s34 wr=>∃ (k:Nat) (cs:List Value),s34 = .int .i64 k ∧ k ≤ n ∧ Hid (cs.length = n) ∧ Hid (∀ j,j < k → cs[j]? = some (.int .i64 ((f j).1:Nat))) ∧ Hid (Blk wr w2.heap.size 3 cs) ∧ Hid (Below w2.heap.size w2 wr)) (fun s34 _=>n - (intOf s34).toNat)
      case atStart=>exact ⟨0,cs0,rfl,Nat.zero_le _,HL3,Lib.hid (by intro j hj;omega),HK3,HB3⟩
      case round =>
        obtain ⟨k,cs,rfl,hkn,HL,HC,HBK,HBW⟩:=hrel
        clear HK3 HL3 HB3
        by_cases hlt:k < n
        · have hltz:(k:Int) < (n:Int):=by omega
          obtain ⟨g',he,_,_,hcc⟩:=HK2.out
          simp at he
          subst he
          obtain ⟨a,c,c0,c1,c2,_⟩:=hcc k hlt
          have hld:=run_loadB (w:=wr) (g:=g) (o:=k * 3) ((HBW.out.cell (p:=⟨g,k * 3,none⟩) hg2).trans c0) ((HBW.out.cell (p:=⟨g,k * 3 + 1,none⟩) hg2).trans c1) ((HBW.out.cell (p:=⟨g,k * 3 + 2,none⟩) hg2).trans c2)
          obtain ⟨L,hL⟩:∃ L,(f k).1 = L:=⟨_,rfl⟩
          rw [hL] at hld
          have HLE:=Lib.hid hL
          obtain ⟨q,hq⟩:∃ q,(f k).2.1.length = q:=⟨_,rfl⟩
          obtain ⟨s,hs⟩:∃ s,(f k).2.2 = s:=⟨_,rfl⟩
          rw [hq,hs] at hld
          clear hcc c0 c1 c2 hL hq hs
          have hnew:=Blk.new wr 48 [.int .i64 L,.slice a q c,.int .u32 s]
          have e0:=hnew.cell (o:=0) rfl
          have hbn:=HBK.out.alloc (.cells #[.int .i64 L,.slice a q c,.int .u32 s] 48)
          have hkl:k < cs.length:=by rw [HL.out];exact hlt
          have e1:=hbn.cell (o:=k) (List.getElem?_eq_getElem hkl)
          have e2:=hbn.frozen k
          have hbw:Below w2.heap.size w2 (wr.alloc (.cells #[.int .i64 L,.slice a q c,.int .u32 s] 48)):=HBW.out.alloc HBW.out.size _
          have hset:=hbn.set k (.int .i64 L)
          have hbw2:=hbw.setCell (p:=⟨w2.heap.size,k,none⟩) (Nat.le_refl _) (.int .i64 L)
          have HSET:=Lib.hid hset
          have HBW2:=Lib.hid hbw2
          generalize cs[k] = old at e1
          clear hnew hbn hbw hset hbw2
          have HC2:Hid (∀ j,j < k + 1 → (cs.set k (.int .i64 L))[j]? = some (.int .i64 ((f j).1:Nat))):=Lib.hid fun j hj=>by
            by_cases e:j = k
            · subst e
              rw [List.getElem?_set_self hkl,HLE.out]
            · rw [List.getElem?_set_ne (fun h=>e h.symm)]
              exact HC.out j (by omega)
          have HL2:Hid ((cs.set k (.int .i64 L)).length = n):=Lib.hid (by rw [List.length_set];exact HL.out)
          go_wp2
          go_roundw
          case rel=>exact ⟨k + 1,_,by first | rfl | go_num,by omega,HL2,HC2,HSET,HBW2⟩
          case measure=>simp [intOf];omega
        · obtain rfl:k = n:=by omega
          have hltz:¬ (k:Int) < (k:Int):=by omega
          go_wp2
          go_ret2
          refine ⟨HB2.out.trans (HBW.out.mono HB2.out.size),.inr ⟨HOK.out,w2.heap.size,?_,?_⟩⟩
          · rw [HS.out,HN.out];rfl
          · rw [HS.out,HN.out,HF.out]
            exact fun j hj=>HBK.out.cell (HC.out j hj)
end Go.Proofs.YtfggchmcjjpkeaaGreatDoor.S11

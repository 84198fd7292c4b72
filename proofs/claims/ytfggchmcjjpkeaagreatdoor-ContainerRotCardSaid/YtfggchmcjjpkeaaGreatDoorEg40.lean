/- Texts put together: ConH. -/
import Derived.Test.YtfggchmcjjpkeaaGreatDoorEg1
import Derived.Test.YtfggchmcjjpkeaaGreatDoorEg38
import Derived.Test.YtfggchmcjjpkeaaGreatDoorEg39
import Derived.Lib.SlBytesConst
set_option linter.unusedSimpArgs false
set_option linter.unusedVariables false
set_option maxRecDepth 100000
namespace Go.Proofs.YtfggchmcjjpkeaaGreatDoor.S11
open Go.RowKit Pl S3 S3.Pl
theorem list_eq_getD {A B:List Nat} (hl:A.length = B.length) (h:∀ i,i < A.length → A.getD i 0 = B.getD i 0):A = B:=by
  apply List.ext_getElem hl
  intro i h1 h2
  have:=h i h1
  rw [List.getD_eq_getElem?_getD,List.getD_eq_getElem?_getD,List.getElem?_eq_getElem h1,List.getElem?_eq_getElem h2] at this
  simpa using this
theorem reads_text {f:Nat → BkT} {B X:List Nat} {a m:Nat} (hr:Reads f a X) (hX:X.length = m) (ham:a + m ≤ B.length) (h:∀ k,k < cnt B.length → txB (f k) = (true,chk B k) ∨ (txB (f k)).1 = false):X = (B.drop a).take m:=by
  apply list_eq_getD
  · rw [List.length_take,List.length_drop];omega
  · intro i hi
    obtain ⟨h1,h2⟩:=hr i hi
    have hk:(a + i) / 1000 < cnt B.length:=by unfold cnt;omega
    rcases h _ hk with h3 | h3
    · rw [h2,h3,chk_get B (Nat.mod_lt _ (by omega)),show 1000 * ((a + i) / 1000) + (a + i) % 1000 = a + i by omega]
      rw [List.getD_eq_getElem?_getD (l:=List.take m (List.drop a B)),List.getElem?_take_of_lt (by omega),List.getElem?_drop,← List.getD_eq_getElem?_getD]
    · rw [h1] at h3;cases h3
def Says (B:List Nat) (m:Nat) (R:Int → Prop) (w:World) (e:Ending) (w':World):Prop:=
  ∃ sp n cap r,e = .returned (.tuple #[.slice sp n cap,.int .i64 r]) ∧ ((r = 0 ∧ n = m ∧ Hid (IsBytes w' (.slice sp m cap) B)) ∨ (R r ∧ n = 0)) ∧ Hid (Below w.heap.size w w')
theorem join_says {B C:List Nat} {a z:Nat} {w w':World} {e:Ending} (hop:opOk C) (ht:Tells B C) (hz:z ≤ B.length) (ha:a ≤ z) (h:JoinPost (blk (hd C) (rst C)) a z w e w'):Says ((B.drop a).take (z - a)) (z - a) (fun r=>r = 6) w e w':=by
  obtain ⟨hb,⟨sp,cap,X,rfl,h1,h2,h3⟩ | ⟨rfl,_⟩⟩:=h
  · have:=reads_text h3 h1 (by omega) (ht hop).2
    subst this
    exact ⟨sp,_,cap,0,rfl,.inl ⟨rfl,rfl,Lib.hid h2⟩,Lib.hid hb⟩
  · exact ⟨none,0,0,6,rfl,.inr ⟨rfl,rfl⟩,Lib.hid hb⟩
theorem join_holds {B C:List Nat} {a z:Nat} {w w':World} {e:Ending} (hh:Holds B C) (hz:z ≤ B.length) (ha:a ≤ z) (h:JoinPost (blk (hd C) (rst C)) a z w e w'):Says ((B.drop a).take (z - a)) (z - a) (fun _=>False) w e w':=by
  obtain ⟨hb,⟨sp,cap,X,rfl,h1,h2,h3⟩ | ⟨rfl,k,h1,h2,h3,h4⟩⟩:=h
  · have:=reads_text h3 h1 (by omega) (hh.tells hh.1).2
    subst this
    exact ⟨sp,_,cap,0,rfl,.inl ⟨rfl,rfl,Lib.hid h2⟩,Lib.hid hb⟩
  · rw [hh.2.2 k (by unfold cnt;omega)] at h4;cases h4
theorem unpack_ok {B C:List Nat} {N:Nat} (hh:Holds B C) (hN:B.length = N) (v:Value) (most:Int) (w:World) (hT:Tab w) (hv:IsBytes w v C) (hl:C.length ≤ 1000000) (hm:(N:Int) ≤ most) :
    Calls Tryz.prog 11 #[v,.int .i64 most] w fun e w'=>∃ sp cap,e = .returned (.tuple #[.slice sp N cap,.int .i64 0]) ∧ Hid (IsBytes w' (.slice sp N cap) B) ∧ Hid (Below w.heap.size w w'):=by
  refine (unpack_any v C most w hT hv hl).mono ?_
  rintro e w' (⟨_,⟨h1,_⟩ | ⟨_,h1,_⟩⟩ | ⟨_,_,hj⟩)
  · exact absurd hh.1 h1
  · rw [hh.2.1,hN] at h1;omega
  · rw [hh.2.1,hN] at hj
    obtain ⟨sp,n,cap,r,rfl,⟨rfl,rfl,h2⟩ | ⟨h2,_⟩,hb⟩:=join_holds hh (by omega) (Nat.zero_le _) hj
    · rw [List.drop_zero,Nat.sub_zero,List.take_of_length_le (by omega)] at h2
      exact ⟨sp,cap,rfl,h2,hb⟩
    · exact h2.elim
theorem unpack_some {B C:List Nat} {N:Nat} (hh:Tells B C) (hN:B.length = N) (v:Value) (w:World) (hT:Tab w) (hv:IsBytes w v C) (hl:C.length ≤ 1000000) :
    Calls Tryz.prog 11 #[v,.int .i64 N] w (Says B N (fun r=>r = 6 ∨ r = 2) w):=by
  refine (unpack_any v C N w hT hv hl).mono ?_
  rintro e w' (⟨hb,⟨_,rfl⟩ | ⟨_,_,rfl⟩⟩ | ⟨hop,_,hj⟩)
  · exact ⟨none,0,0,6,rfl,.inr ⟨.inl rfl,rfl⟩,Lib.hid hb⟩
  · exact ⟨none,0,0,2,rfl,.inr ⟨.inr rfl,rfl⟩,Lib.hid hb⟩
  · rw [(hh hop).1,hN] at hj
    obtain ⟨sp,n,cap,r,rfl,⟨rfl,rfl,h2⟩ | ⟨h2,rfl⟩,hb⟩:=join_says hop hh (by omega) (Nat.zero_le _) hj
    · rw [List.drop_zero,Nat.sub_zero,List.take_of_length_le (by omega)] at h2
      exact ⟨sp,_,cap,0,rfl,.inl ⟨rfl,rfl,h2⟩,hb⟩
    · exact ⟨sp,0,cap,r,rfl,.inr ⟨.inl h2,rfl⟩,hb⟩
theorem wf_nat {n:Nat} (h:n < 9223372036854775808):(Lit.int .i64 (n:Nat)).wf = true:=by
  simp [Lit.wf,IntKind.min,IntKind.max,IntKind.signed,IntKind.bits]
  omega
theorem part_ok {B C:List Nat} {N p m:Nat} (hh:Holds B C) (hN:B.length = N) (hpm:p + m ≤ N) (hN9:N ≤ 1000000) (v:Value) (w:World) (hT:Tab w) (hv:IsBytes w v C) (hl:C.length ≤ 1000000) :
    Calls Tryz.prog 12 #[v,.int .i64 p,.int .i64 m] w fun e w'=>∃ sp cap,e = .returned (.tuple #[.slice sp m cap,.int .i64 0]) ∧ Hid (IsBytes w' (.slice sp m cap) ((B.drop p).take m)) ∧ Hid (Below w.heap.size w w'):=by
  refine (part_any v C p m w hT hv hl (wf_nat (by omega)) (wf_nat (by omega))).mono ?_
  rintro e w' (⟨_,⟨h1,_⟩ | ⟨_,h1,_⟩⟩ | ⟨_,p',m',hp,hm,_,hj⟩)
  · exact absurd hh.1 h1
  · rw [hh.2.1,hN] at h1;omega
  · obtain rfl:p = p':=by omega
    obtain rfl:m = m':=by omega
    obtain ⟨sp,n,cap,r,rfl,⟨rfl,rfl,h2⟩ | ⟨h2,_⟩,hb⟩:=join_holds hh (by omega) (by omega) hj
    · rw [Nat.add_sub_cancel_left] at h2 ⊢
      exact ⟨sp,cap,rfl,h2,hb⟩
    · exact h2.elim
theorem part_some {B C:List Nat} {N p m:Nat} (hh:Tells B C) (hN:B.length = N) (hpm:p + m ≤ N) (hN9:N ≤ 1000000) (v:Value) (w:World) (hT:Tab w) (hv:IsBytes w v C) (hl:C.length ≤ 1000000) :
    Calls Tryz.prog 12 #[v,.int .i64 p,.int .i64 m] w (Says ((B.drop p).take m) m (fun r=>r = 6 ∨ r = 7) w):=by
  refine (part_any v C p m w hT hv hl (wf_nat (by omega)) (wf_nat (by omega))).mono ?_
  rintro e w' (⟨hb,⟨_,rfl⟩ | ⟨_,_,rfl⟩⟩ | ⟨hop,p',m',hp,hm,_,hj⟩)
  · exact ⟨none,0,0,6,rfl,.inr ⟨.inl rfl,rfl⟩,Lib.hid hb⟩
  · exact ⟨none,0,0,7,rfl,.inr ⟨.inr rfl,rfl⟩,Lib.hid hb⟩
  · obtain rfl:p = p':=by omega
    obtain rfl:m = m':=by omega
    obtain ⟨sp,n,cap,r,rfl,⟨rfl,rfl,h2⟩ | ⟨h2,rfl⟩,hb⟩:=join_says hop hh (by omega) (by omega) hj
    · rw [Nat.add_sub_cancel_left] at h2 ⊢
      exact ⟨sp,_,cap,0,rfl,.inl ⟨rfl,rfl,h2⟩,hb⟩
    · exact ⟨sp,0,cap,r,rfl,.inr ⟨.inl h2,rfl⟩,hb⟩
theorem part_out {B C:List Nat} {N p m:Nat} (hh:Holds B C) (hN:B.length = N) (hpm:N < p + m) (hp9:p ≤ 1000000) (hm9:m ≤ 1000000) (v:Value) (w:World) (hT:Tab w) (hv:IsBytes w v C) (hl:C.length ≤ 1000000) :
    Calls Tryz.prog 12 #[v,.int .i64 p,.int .i64 m] w fun e w'=>e = .returned (.tuple #[.slice none 0 0,.int .i64 7]) ∧ Hid (Below w.heap.size w w'):=by
  refine (part_any v C p m w hT hv hl (wf_nat (by omega)) (wf_nat (by omega))).mono ?_
  rintro e w' (⟨hb,⟨h1,_⟩ | ⟨_,_,rfl⟩⟩ | ⟨_,p',m',hp,hm,h3,_⟩)
  · exact absurd hh.1 h1
  · exact ⟨rfl,Lib.hid hb⟩
  · rw [hh.2.1,hN] at h3;omega
theorem blocks_ok {B C:List Nat} (hh:Holds B C) (v:Value) (w:World) (hT:Tab w) (hv:IsBytes w v C) (hl:C.length ≤ 1000000) :
    Calls Tryz.prog 13 #[v] w fun e w'=>∃ g,e = .returned (.tuple #[.slice (some ⟨g,0,none⟩) (cnt B.length) (cnt B.length),.int .i64 0]) ∧ (∀ k,k < cnt B.length → w'.cell? ⟨g,k,none⟩ = some (.int .i64 (min 1000 (B.length - 1000 * k):Nat))) ∧ Hid (Below w.heap.size w w'):=by
  refine (blocks_any v C w hT hv hl).mono ?_
  rintro e w' ⟨hb,⟨rfl,h1 | ⟨k,h1,h2⟩⟩ | ⟨_,g,rfl,hc⟩⟩
  · exact absurd hh.1 h1
  · rw [hh.2.1] at h1
    rw [hh.2.2 k (by unfold cnt;omega)] at h2
    cases h2
  · rw [hh.2.1] at hc ⊢
    refine ⟨g,rfl,fun k hk=>?_,Lib.hid hb⟩
    rw [hc k hk,blk_len hh.1 k (by rw [hh.2.1];exact hk),hh.2.1]
def Packed (B:List Nat) (w:World) (e:Ending) (w':World):Prop:=
  ∃ g n cap,e = .returned (.slice (some ⟨g,0,none⟩) n cap) ∧ w.heap.size ≤ g ∧ n = (packP B).length ∧ Hid (w'.ownsRow w.heap.size 5 1 (.slice (some ⟨g,0,none⟩) n cap) n (u8s (packP B))) ∧ Hid (IsBytes w' (.slice (some ⟨g,0,none⟩) n cap) (packP B)) ∧ Hid (Below w.heap.size w w')
theorem packed_any (v:Value) (B:List Nat) (w:World) (hT:Tab w) (hv:IsBytes w v B) (hB:B.length ≤ 100000):Calls Tryz.prog 10 #[v] w (Packed B w):=by
  refine (pack_any v B w hT hv hB).mono ?_
  rintro e w' ⟨v',rfl,ho,hb⟩
  obtain ⟨g,cap,rfl,hg,_,_,_⟩:=own_open ho (by have:=packP_pos B;omega)
  exact ⟨g,_,cap,rfl,hg,rfl,Lib.hid ho,Lib.hid (isBytes_own (packP_lt hv.1) ho),Lib.hid hb⟩
theorem Tab.fwd {w w':World} (h:Tab w) (hb:Below w.heap.size w w'):Tab w':=h.below hb
attribute [local go_sem ↓] conv_eq
set_option maxHeartbeats 16000000 in
theorem begun11_any (w:World) (hT:Tab w):Calls Tryz.prog 7 #[] w fun e w'=>e = .returned (.bool true) ∧ Below w.heap.size w w':=by
  have kc:=fun (w:World) (C:Array Value) (n c:Nat)=>Lib.run_convert_bytes_const (P:=Tryz.prog) w 22 5 C n c Tryz.underlying22 Tryz.underlying5
  have HI0:Hid (IsBytes (w.alloc (.cells #[.int .u8 98,.int .u8 97,.int .u8 110,.int .u8 97,.int .u8 110,.int .u8 97] 5 (6,7))) (.slice (some ⟨w.heap.size,0,none⟩) 6 6) [98,97,110,97,110,97]):=Lib.hid (isBytes_mark w [98,97,110,97,110,97] _ (by simp) (by simp [maxLen]))
  have HA:Hid (Below w.heap.size w (w.alloc (.cells #[.int .u8 98,.int .u8 97,.int .u8 110,.int .u8 97,.int .u8 110,.int .u8 97] 5 (6,7)))):=Lib.hid ((Below.refl _ _).alloc (Nat.le_refl _) _)
  have HT:=Lib.hid hT
  have HH:Hid (Holds [98,97,110,97,110,97] (packP [98,97,110,97,110,97])):=Lib.hid (pack_holds _ (by simp) (by simp))
  have HL:Hid ((packP [98,97,110,97,110,97]).length ≤ 1000000):=Lib.hid (by have:=packP_size [98,97,110,97,110,97];simp [cnt] at this;omega)
  clear hT
  go_enter Tryz.func7, Tryz.ntmps7
  go_wp2_with fail
  refine (packed_any _ _ _ (HT.out.below HA.out) HI0.out (by simp)).mono ?_
  rintro e w1 ⟨g,n,cap,rfl,_,hn,_,hi,hb1⟩
  obtain ⟨P,hP⟩:∃ P,packP [98,97,110,97,110,97] = P:=⟨_,rfl⟩
  rw [hP] at HH HL hi
  have HB1:=Lib.hid (HA.out.trans (hb1.out.mono (by simp)))
  have HT1:=Lib.hid (HT.out.below HB1.out)
  clear hn hP hb1 HI0 HA
  go_wp2_with fail
  refine (unpack_ok (N:=6) HH.out rfl _ 10 _ HT1.out hi.out HL.out (by omega)).mono ?_
  rintro e w2 ⟨sp2,cp2,rfl,hi2,hb2⟩
  have HB2:=Lib.hid (HB1.out.trans (hb2.out.mono HB1.out.size))
  have HT2:=Lib.hid (HT1.out.below hb2.out)
  have HI2:=Lib.hid (hi.out.below hb2.out)
  clear hb2 hi HB1 HT1
  go_wp2_with fail
  refine (part_ok (N:=6) (p:=2) (m:=3) HH.out rfl (by omega) (by omega) _ _ HT2.out HI2.out HL.out).mono ?_
  rintro e w3 ⟨sp3,cp3,rfl,hi3,hb3⟩
  have HB3:=Lib.hid (HB2.out.trans (hb3.out.mono HB2.out.size))
  have HT3:=Lib.hid (HT2.out.below hb3.out)
  have HI3:=Lib.hid (HI2.out.below hb3.out)
  have HY3:=Lib.hid (hi2.out.below hb3.out)
  clear hb3 hi2 HB2 HT2 HI2
  go_wp2_with fail
  refine (blocks_ok HH.out _ _ HT3.out HI3.out HL.out).mono ?_
  rintro e w4 ⟨g4,rfl,hc4,hb4⟩
  have HB4:=Lib.hid (HB3.out.trans (hb4.out.mono HB3.out.size))
  have HT4:=Lib.hid (HT3.out.below hb4.out)
  have HI4:=Lib.hid (HI3.out.below hb4.out)
  have HY4:=Lib.hid (HY3.out.below hb4.out)
  have HZ4:=Lib.hid (hi3.out.below hb4.out)
  have hc40:=hc4 0 (by simp [cnt])
  have hg4:=World.block_lt_of_cell? w4 _ hc40
  rw [show cnt ([98,97,110,97,110,97]:List Nat).length = 1 from rfl]
  clear hb4 hi3 hc4 HB3 HT3 HI3 HY3
  go_wp2_with fail
  refine (part_out (N:=6) (p:=5) (m:=2) HH.out rfl (by omega) (by omega) (by omega) _ _ HT4.out HI4.out HL.out).mono ?_
  rintro e w5 ⟨rfl,hb5⟩
  have HB5:=Lib.hid (HB4.out.trans (hb5.out.mono HB4.out.size))
  have hk1:=run_conv (HY4.out.below hb5.out)
  have hk2:=run_conv (HZ4.out.below hb5.out)
  have hc5:w5.cell? ⟨g4,0,none⟩ = some (.int .i64 6):=(hb5.out.cell (p:=⟨g4,0,none⟩) hg4).trans hc40
  rw [show str [98,97,110,97,110,97] = { data:=#[98,97,110,97,110,97] } from rfl] at hk1
  rw [show str ((([98,97,110,97,110,97]:List Nat).drop 2).take 3) = { data:=#[110,97,110] } from rfl] at hk2
  clear hb5 hc40 HB4 HT4 HI4 HY4 HZ4
  go_wp2
  go_ret
  exact ⟨rfl,HB5.out⟩
end Go.Proofs.YtfggchmcjjpkeaaGreatDoor.S11

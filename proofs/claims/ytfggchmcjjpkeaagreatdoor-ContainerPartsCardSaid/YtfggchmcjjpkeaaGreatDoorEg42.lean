/- Texts put together: ConJ. -/
import Derived.Test.YtfggchmcjjpkeaaGreatDoorEg40
set_option linter.unusedSimpArgs false
set_option linter.unusedVariables false
set_option maxRecDepth 100000
namespace Go.Proofs.YtfggchmcjjpkeaaGreatDoor.S11
open Go.RowKit Pl S3 S3.Pl
theorem u8_wrap (x:Int):∃ y:Nat,IntKind.u8.wrap x = (y:Nat) ∧ y < 256:=by
  refine ⟨(x % 256).toNat,?_,by omega⟩
  rw [show IntKind.u8.wrap x = x % 256 from rfl]
  omega
theorem u32_wrap (x:Int):0 ≤ IntKind.u32.wrap x ∧ IntKind.u32.wrap x < 4294967296:=by
  rw [IntKind.wrap_u32'];omega
def FillPost (n:Nat) (w:World) (e:Ending) (w':World):Prop:=
  ∃ g X,e = .returned (.slice (some ⟨g,0,none⟩) n n) ∧ Hid (X.length = n) ∧ Hid (IsBytes w' (.slice (some ⟨g,0,none⟩) n n) X) ∧ Hid (Below w.heap.size w w')
theorem blk_bytes {w:World} {g n:Nat} {X:List Nat} (h:Blk w g 5 (u8s X)) (hx:∀ x ∈ X,x < 256) (hn:X.length = n) (hm:n ≤ maxLen):IsBytes w (.slice (some ⟨g,0,none⟩) n n) X:=by
  subst hn
  exact isBytes_own hx (blk_own h (Nat.zero_le _) (u8s_length X) hm)
theorem set_lt8 {A:List Nat} (hA:∀ x ∈ A,x < 256) {i y:Nat} (hy:y < 256):∀ x ∈ A.set i y,x < 256:=by
  intro x hx
  rcases List.mem_or_eq_of_mem_set hx with h | h
  · exact hA x h
  · omega
set_option maxHeartbeats 8000000 in
theorem filled_any (v:Value) (B:List Nat) (n:Nat) (w:World) (hv:IsBytes w v B) (hB:B.length ≤ 1000000) (hn:n ≤ 100000):Calls Tryz.prog 8 #[v,.int .i64 n] w (FillPost n w):=by
  obtain ⟨i0,hi,hz0,hz1,hz2⟩:=info_parts info5
  have HI:=Lib.hid hi
  have HZ:=Lib.hid (And.intro hz0 (And.intro hz1 hz2))
  obtain ⟨N,hN⟩:∃ N,B.length = N:=⟨_,rfl⟩
  have HV:=Lib.hid hv
  have HN:=Lib.hid hN
  obtain ⟨va,vcap,rfl,hcap,hmax⟩:=hv.slice
  rw [hN] at hcap hB HV ⊢
  clear hv hi hz0 hz1 hz2 hN
  go_enter Tryz.func8, Tryz.ntmps8
  go_wp2_with (at_make;refine wpList_make_full _ rfl _ _ 22 rfl w.heap.size 5 i0 (.int .u8 0) 1 Tryz.underlying22 HI.out HZ.out.1 HZ.out.2.1 .i64 .i64 _ _ n rfl rfl rfl rfl (by rw [HZ.out.2.2];omega) (by unfold maxLen;omega) (Nat.le_refl _) ?_;intro w1 hown hgr)
  have hk1:=made_zero hown
  have HK:=Lib.hid hk1
  have HB:=Lib.hid ((Below.refl w.heap.size w).grown hgr (Nat.le_refl _) (by simp))
  clear hown hgr hk1 HI HZ
  go_loopw [6,7] (fun s6 s7 wr=>∃ (i:Nat) (X:List Nat) (x:Int),s7 = .int .i64 i ∧ i ≤ n ∧ s6 = .int .u32 x ∧ 0 ≤ x ∧ x < 4294967296 ∧ Hid (X.length = n) ∧ Hid (∀ y ∈ X,y < 256) ∧ Hid (Blk wr w.heap.size 5 (u8s X)) ∧ Hid (Below w.heap.size w wr)) (fun _ s7 _=>n - (intOf s7).toNat)
  case atStart=>exact ⟨0,List.replicate n 0,7,rfl,Nat.zero_le _,rfl,by omega,by omega,Lib.hid (by simp),Lib.hid (by intro y hy;rw [List.eq_of_mem_replicate hy];omega),HK,HB⟩
  case round =>
    obtain ⟨i,X,x,rfl,hin,rfl,hx0,hx1,HL,HX,HBK,HBW⟩:=hrel
    clear HK HB
    by_cases hlt:i < n
    · have hltz:(i:Int) < (n:Int):=by omega
      have hil:i < X.length:=by rw [HL.out];exact hlt
      have c1:wr.cell? ⟨w.heap.size,i,none⟩ = some (.int .u8 (X.getD i 0:Nat)):=HBK.out.cell (u8s_get X i hil)
      have c2:=HBK.out.frozen i
      generalize ((X.getD i 0:Nat):Int) = old at c1
      clear hil
      obtain ⟨y,hyE,hy⟩:∃ y:Nat,(x * 1103515245 + 12345) % 4294967296 / 1048576 % 256 = (y:Int) ∧ y < 256:=⟨((x * 1103515245 + 12345) % 4294967296 / 1048576 % 256).toNat,by omega,by omega⟩
      have hfin:∀ y:Nat,y < 256 → Hid ((X.set i y).length = n) ∧ Hid (∀ z ∈ X.set i y,z < 256) ∧ Hid (Blk (wr.setCell ⟨w.heap.size,i,none⟩ (.int .u8 (y:Nat))) w.heap.size 5 (u8s (X.set i y))) ∧ Hid (Below w.heap.size w (wr.setCell ⟨w.heap.size,i,none⟩ (.int .u8 (y:Nat)))):=fun y hy =>
        ⟨Lib.hid (by rw [List.length_set];exact HL.out),Lib.hid (set_lt8 HX.out hy),Lib.hid (by rw [← u8s_set];exact HBK.out.set i _),Lib.hid (HBW.out.setCell (p:=⟨w.heap.size,i,none⟩) (Nat.le_refl _) _)⟩
      have HFN:=Lib.hid hfin
      clear hfin
      by_cases h0:N = 0
      · subst h0
        go_wp2_with fail
        all_goals (
          obtain ⟨f1,f2,f3,f4⟩:=HFN.out y hy
          exact ⟨⟨i + 1,X.set i y,_,by first | rfl | go_num,by omega,rfl,by omega,by omega,f1,f2,f3,f4⟩,by simp [intOf];omega⟩)
      · have h0z:(0:Int) < (N:Int):=by omega
        obtain ⟨bb,off,cap',hsv,_,_,hbl,hcc⟩:=HV.out.cells (by rw [HN.out];omega)
        simp at hsv
        obtain ⟨hva,-,-⟩:=hsv
        subst hva
        obtain ⟨p,hp⟩:∃ p,i % N = p:=⟨_,rfl⟩
        have hpN:p < N:=by rw [← hp];exact Nat.mod_lt _ (by omega)
        have hpz:(i:Int) % (N:Int) = (p:Int):=by rw [← hp];omega
        have hpN':(p:Int) < (N:Int):=by omega
        have c3:wr.cell? ⟨bb,off + p,none⟩ = some (.int .u8 (B.getD p 0:Nat)):=(HBW.out.cell (p:=⟨bb,off + p,none⟩) hbl).trans (hcc p (by rw [HN.out];exact hpN))
        have hy2:B.getD p 0 < 256:=getD_lt HV.out.1 p
        generalize B.getD p 0 = y2 at *
        clear hcc hp
        go_wp2_with fail
        all_goals (
          first
          | (obtain ⟨f1, f2, f3, f4⟩ := HFN.out y hy
             exact ⟨⟨i + 1,X.set i y,_,by first | rfl | go_num,by omega,rfl,by omega,by omega,f1,f2,f3,f4⟩,by simp [intOf];omega⟩)
          | (obtain ⟨f1, f2, f3, f4⟩ := HFN.out y2 hy2
             exact ⟨⟨i + 1,X.set i y2,_,by first | rfl | go_num,by omega,rfl,by omega,by omega,f1,f2,f3,f4⟩,by simp [intOf];omega⟩))
    · obtain rfl:i = n:=by omega
      have hltz:¬ (i:Int) < (i:Int):=by omega
      go_wp2
      go_ret
      exact ⟨w.heap.size,X,rfl,HL,Lib.hid (blk_bytes HBK.out HX.out HL.out (by unfold maxLen;omega)),HBW⟩
end Go.Proofs.YtfggchmcjjpkeaaGreatDoor.S11

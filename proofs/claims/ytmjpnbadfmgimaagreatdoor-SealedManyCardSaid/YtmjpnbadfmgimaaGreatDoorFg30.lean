/- Texts put together: EntA. -/
import Derived.Test.YtmjpnbadfmgimaaGreatDoorProg
import Derived.Lib.Strings
import Derived.Lib.Slices
import Derived.Lib.Small
import Derived.Lib.Walk
import Derived.Lib.BitFns
set_option linter.unusedSimpArgs false
set_option linter.unusedVariables false
set_option maxRecDepth 100000
set_option maxHeartbeats 32000000
namespace Go.Proofs.YtmjpnbadfmgimaaGreatDoor.S10
open Go
theorem len_arm {x y:Int} {k:Nat} (s:Nat) (h0:0≤x) (h1:x≤18446744073709551615) (hy:y.toNat=x.toNat/2^s) (hy0:0≤y) (hb:y≤255) (hs:s=0∨2^s≤x.toNat):Lib.len8 y+(s:Int)=(Lib.bitLen x.toNat:Int)∧Lib.bitLen y.toNat≤8∧Lib.len8 y=(Lib.bitLen y.toNat:Int):=by
 have e:=Lib.len8_of y hy0 hb
 have l:=Lib.bitLen_le8' y hy0 hb
 refine ⟨?_,l,e⟩
 rw [e,hy]
 rcases hs with rfl | hs
 ·simp
 ·rw [Lib.bitLen_shift s x.toNat hs (by omega)]
  omega
theorem len64_any (x:Int) (w:World) (h0:0≤x) (h1:x≤18446744073709551615):
  Calls Tryz.prog 84 #[.int .u64 x] w fun e w'=>e=.returned (.int .i64 (Lib.bitLen x.toNat))∧w'=w:=by
 go_enter Tryz.func84,Tryz.ntmps84
 go_wp2
 all_goals (go_ret;refine ⟨congrArg Ending.returned (congrArg (Value.int IntKind.i64) ?_),rfl⟩)
 all_goals first
  | (obtain ⟨a,b,c⟩:=len_arm (y:=x%256) (k:=0) 0 h0 h1 (by omega) (by omega) (by omega) (.inl rfl);omega)
  | (obtain ⟨a,b,c⟩:=len_arm (y:=x/256%256) (k:=0) 8 h0 h1 (by omega) (by omega) (by omega) (.inr (by omega));omega)
  | (obtain ⟨a,b,c⟩:=len_arm (y:=x/65536%256) (k:=0) 16 h0 h1 (by omega) (by omega) (by omega) (.inr (by omega));omega)
  | (obtain ⟨a,b,c⟩:=len_arm (y:=x/65536/256%256) (k:=0) 24 h0 h1 (by omega) (by omega) (by omega) (.inr (by omega));omega)
  | (obtain ⟨a,b,c⟩:=len_arm (y:=x/4294967296%256) (k:=0) 32 h0 h1 (by omega) (by omega) (by omega) (.inr (by omega));omega)
  | (obtain ⟨a,b,c⟩:=len_arm (y:=x/4294967296/256%256) (k:=0) 40 h0 h1 (by omega) (by omega) (by omega) (.inr (by omega));omega)
  | (obtain ⟨a,b,c⟩:=len_arm (y:=x/4294967296/65536%256) (k:=0) 48 h0 h1 (by omega) (by omega) (by omega) (.inr (by omega));omega)
  | (obtain ⟨a,b,c⟩:=len_arm (y:=x/4294967296/65536/256%256) (k:=0) 56 h0 h1 (by omega) (by omega) (by omega) (.inr (by omega));omega)
theorem len_any (x:Int) (w:World) (h0:0≤x) (h1:x≤18446744073709551615):
  Calls Tryz.prog 66 #[.int .u64 x] w fun e w'=>e=.returned (.int .i64 (Lib.bitLen x.toNat))∧w'=w:=by
 have hc:=fun W=>len64_any x W h0 h1
 go_enter Tryz.func66,Tryz.ntmps66
 go_wp2_with fail
 refine (hc _).mono ?_
 rintro e w' ⟨rfl,rfl⟩
 go_wp2
 go_ret
 exact ⟨rfl,rfl⟩
end Go.Proofs.YtmjpnbadfmgimaaGreatDoor.S10

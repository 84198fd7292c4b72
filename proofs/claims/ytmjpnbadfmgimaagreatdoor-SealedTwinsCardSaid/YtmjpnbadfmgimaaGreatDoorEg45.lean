/- Texts put together: SeaJ. -/
import Derived.Test.YtmjpnbadfmgimaaGreatDoorEg44
import Derived.OwnWalk
set_option linter.unusedSimpArgs false
set_option linter.unusedVariables false
set_option maxRecDepth 100000
namespace Go.Proofs.YtmjpnbadfmgimaaGreatDoor.S16
open Go.RowKit Pl S3 S3.Pl S14 Go.Maps
set_option maxHeartbeats 1000000 in
theorem all_none (w:World):Calls Tryz.prog 19 #[.pointer none] w fun e w'=>e=.returned (.tuple #[.slice none 0 0,.int .i64 9])∧w=w':=by
 go_enter Tryz.func19,Tryz.ntmps19
 go_wp2
 go_ret2
 exact ⟨rfl,rfl⟩
def GB (g:Nat) (w W:World):Prop:=w.grownBy W (some g)
theorem GB.trans {g:Nat} {a b c:World} (h:GB g a b) (k:b.grownBy c (some g)):GB g a c:=grownBy_trans h k
theorem GB.below {g:Nat} {a b c:World} (h:GB g a b) (k:Below b.heap.size b c):GB g a c:=h.trans ⟨k.os,k.tape,k.output,k.size,fun j hj _=>k.block j hj⟩
theorem GB.start (g:Nat) (w:World):GB g w w.drew:=⟨rfl,rfl,rfl,Nat.le_refl _,fun _ _ _=>rfl⟩
attribute [local go_sem ↓] loadR_eq storeR_eq buildR_eq loadQ_eq storeQ_eq buildQ_eq sliceU8_eq
end Go.Proofs.YtmjpnbadfmgimaaGreatDoor.S16

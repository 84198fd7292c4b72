/- Texts put together: CrcD, CrcE, CrcF, CrcG, CrcH, CrcJ, CrcN, Laid. -/
import Derived.Test.YtmjpnbadfmgimaaGreatDoorFg2
import Derived.Test.YtmjpnbadfmgimaaGreatDoorFg3
import Derived.Lib.SlBytesConst
import Derived.Test.YtmjpnbadfmgimaaGreatDoorRows
import Derived.LaidMore
import Derived.Lib.LaidTab
import Derived.Stop.Joined
import Derived.ProofKit
set_option linter.unusedSimpArgs false
set_option linter.unusedVariables false
set_option maxRecDepth 100000
namespace Go.Proofs.YtmjpnbadfmgimaaGreatDoor.Pl
end Go.Proofs.YtmjpnbadfmgimaaGreatDoor.Pl
namespace Go.Proofs.YtmjpnbadfmgimaaGreatDoor.S3.Pl
end Go.Proofs.YtmjpnbadfmgimaaGreatDoor.S3.Pl
namespace Go.Proofs.YtmjpnbadfmgimaaGreatDoor.S3
open Go.RowKit _root_.Go.Proofs.YtmjpnbadfmgimaaGreatDoor.Pl _root_.Go.Proofs.YtmjpnbadfmgimaaGreatDoor.S3.Pl

namespace Pl
theorem endAt_ok {B:List Nat} (h:endOk B=true):endAt B=12+getFour B:=by unfold endAt;rw [if_pos h]
theorem endOk_len {B:List Nat} (h:endOk B=true):12≤B.length:=by
 unfold endOk at h
 simp at h
 exact h.1
def pscan (B:List Nat):List (List Nat)×Nat×Bool:=
 if B.length<12 then ([],0,true)
 else if endOk B then
  if B.length<12+getFour B then ([],0,true)
  else if bodyOk (B.take (12+getFour B)) then
   ((B.drop 12).take (getFour B)::(pscan (B.drop (12+getFour B))).1,12+getFour B+(pscan (B.drop (12+getFour B))).2.1,(pscan (B.drop (12+getFour B))).2.2)
  else ([],0,false)
 else ([],0,false)
termination_by B.length
decreasing_by all_goals (rw [List.length_drop];omega)
theorem pscan_more {B:List Nat} (h2:endOk B=true) (h3:endAt B≤B.length) (h4:bodyOk (B.take (endAt B))=true):
  pscan B=((B.drop 12).take (endAt B-12)::(pscan (B.drop (endAt B))).1,endAt B+(pscan (B.drop (endAt B))).2.1,(pscan (B.drop (endAt B))).2.2):=by
 have:=endOk_len h2
 rw [endAt_ok h2] at h3 h4 ⊢
 rw [pscan,if_neg (by omega),h2,if_pos rfl,if_neg (by omega),h4,if_pos rfl,Nat.add_sub_cancel_left]
def ScanTo (B:List Nat) (n:Nat) (F:List (List Nat)):Prop:=pscan B=(F++(pscan (B.drop n)).1,n+(pscan (B.drop n)).2.1,(pscan (B.drop n)).2.2)
theorem ScanTo.start (B:List Nat):ScanTo B 0 []:=by unfold ScanTo;simp
theorem ScanTo.step {B:List Nat} {n:Nat} {F:List (List Nat)} (h:ScanTo B n F) (h2:endOk (B.drop n)=true) (h3:endAt (B.drop n)≤(B.drop n).length) (h4:bodyOk ((B.drop n).take (endAt (B.drop n)))=true):
  ScanTo B (n+endAt (B.drop n)) (F++[((B.drop n).drop 12).take (endAt (B.drop n)-12)]):=by
 unfold ScanTo at h ⊢
 rw [pscan_more h2 h3 h4] at h
 rw [List.drop_drop] at h
 rw [h]
 simp [Nat.add_assoc]
theorem ScanTo.done {B:List Nat} {n:Nat} {F:List (List Nat)} (h:ScanTo B n F) {o:Bool} (h2:pscan (B.drop n)=([],0,o)):pscan B=(F,n,o):=by
 unfold ScanTo at h
 rw [h2] at h
 simpa using h
end Pl
attribute [local go_sem ↓] sliceU8_eq
end Go.Proofs.YtmjpnbadfmgimaaGreatDoor.S3
namespace Go.Proofs.YtmjpnbadfmgimaaGreatDoor.S3
open Go.RowKit _root_.Go.Proofs.YtmjpnbadfmgimaaGreatDoor.Pl _root_.Go.Proofs.YtmjpnbadfmgimaaGreatDoor.S3.Pl

namespace Pl
theorem take_lt {B:List Nat} (h:∀ x∈B,x<256) (n:Nat):∀ x∈B.take n,x<256:=fun x hx=>h x (List.mem_of_mem_take hx)
end Pl
attribute [local go_sem ↓] sliceU8_eq conv_eq
end Go.Proofs.YtmjpnbadfmgimaaGreatDoor.S3
namespace Go.Proofs.YtmjpnbadfmgimaaGreatDoor.S3
open Go.RowKit _root_.Go.Proofs.YtmjpnbadfmgimaaGreatDoor.Pl _root_.Go.Proofs.YtmjpnbadfmgimaaGreatDoor.S3.Pl

namespace Pl
end Pl
attribute [local go_sem ↓] conv_eq
end Go.Proofs.YtmjpnbadfmgimaaGreatDoor.S3
namespace Go.Proofs.YtmjpnbadfmgimaaGreatDoor.S3
open Go.RowKit _root_.Go.Proofs.YtmjpnbadfmgimaaGreatDoor.Pl _root_.Go.Proofs.YtmjpnbadfmgimaaGreatDoor.S3.Pl

namespace Pl
theorem seal_take4 (B R:List Nat):(pseal B++R).take 4=four B.length:=rfl
theorem seal_drop4 (B R:List Nat):(pseal B++R).drop 4=four (csum (four B.length))++(four (csum B)++(B++R)):=rfl
theorem seal_drop8 (B R:List Nat):(pseal B++R).drop 8=four (csum B)++(B++R):=rfl
theorem seal_drop12 (B R:List Nat):(pseal B++R).drop 12=B++R:=rfl
theorem seal_getFour (B R:List Nat) (h:B.length<4294967296):getFour (pseal B++R)=B.length:=by
 have:=getFour_four B.length h (four (csum (four B.length))++(four (csum B)++(B++R)))
 exact this
theorem seal_endOk (B R:List Nat):endOk (pseal B++R)=true:=by
 unfold endOk
 rw [seal_drop4,seal_take4,getFour_four _ (csum_lt (four_lt _))]
 simp [pseal_length]
 omega
theorem seal_endAt (B R:List Nat) (h:B.length<4294967296):endAt (pseal B++R)=12+B.length:=by
 rw [endAt_ok (seal_endOk B R),seal_getFour B R h]
theorem seal_bodyOk (B:List Nat) (hB:∀ x∈B,x<256):bodyOk (pseal B)=true:=by
 have h8:=seal_drop8 B []
 have h12:=seal_drop12 B []
 simp only [List.append_nil] at h8 h12
 unfold bodyOk
 rw [h8,h12,getFour_four _ (csum_lt hB)]
 simp
theorem open_seal (B:List Nat) (hB:∀ x∈B,x<256) (h:B.length<4294967296):(endOk (pseal B)&&(endAt (pseal B)==(pseal B).length)&&bodyOk (pseal B))=true:=by
 have h1:=seal_endOk B []
 have h2:=seal_endAt B [] h
 rw [List.append_nil] at h1 h2
 rw [h1,h2,seal_bodyOk B hB,pseal_length]
 simp
end Pl
theorem isBytes_mark (w:World) (B:List Nat) (r:Nat×Nat) (hB:∀ x∈B,x<256) (hl:B.length≤maxLen):IsBytes (w.alloc (.cells (u8s B).toArray 5 r)) (.slice (some ⟨w.heap.size,0,none⟩) B.length B.length) B:=by
 refine ⟨hB,.inr ⟨⟨w.heap.size,0,none⟩,B.length,rfl,Nat.le_refl _,hl,fun i u hu=>?_⟩⟩
 have hadd:(⟨w.heap.size,0,none⟩:Addr).add i=⟨w.heap.size,i,none⟩:=by unfold Addr.add;split <;> simp_all
 rw [hadd]
 have hh:(w.alloc (.cells (u8s B).toArray 5 r)).heap[w.heap.size]? = some (.cells (u8s B).toArray 5 r):=heap_alloc_new w _
 unfold World.cell?
 rw [hh]
 simpa using hu
attribute [local go_sem ↓] conv_eq
end Go.Proofs.YtmjpnbadfmgimaaGreatDoor.S3
namespace Go.Proofs.YtmjpnbadfmgimaaGreatDoor.S3
open Go.RowKit _root_.Go.Proofs.YtmjpnbadfmgimaaGreatDoor.Pl _root_.Go.Proofs.YtmjpnbadfmgimaaGreatDoor.S3.Pl






attribute [local go_sem ↓] sliceU8_eq
end Go.Proofs.YtmjpnbadfmgimaaGreatDoor.S3
namespace Go.Proofs.YtmjpnbadfmgimaaGreatDoor.S3
open Go.RowKit _root_.Go.Proofs.YtmjpnbadfmgimaaGreatDoor.Pl _root_.Go.Proofs.YtmjpnbadfmgimaaGreatDoor.S3.Pl

def laidSteps:List (String×DataW Unit):=[("folio/crc.steps",Rows.laid_folio_crc_steps)]
def stepsZ:List Int:=[0,498536548,997073096,651767980,1994146192,1802195444,1303535960,1342533948,3988292384,4027552580,3604390888,3412177804,2607071920,2262029012,2685067896,3183342108]
theorem gSteps:Tryz.prog.globalNamed "folio/crc.steps"=some 0:=by kernel_rfl
theorem tSteps:(Tryz.prog.globals[0]?).map (·.type)=some 83:=by kernel_rfl
theorem door_met (os:Os) (args:Array Value):laidMetH Tryz.prog laidSteps ((World.doorLaid Tryz.prog 400 os).forCall (fun _ _=>0) ⟨#[],args,[]⟩).memory:=
 laidMetH_of_parts3 (fuel:=8) (laidMet_of_run' 8 (by kernel_rfl) (by kernel_rfl)) (by kernel_rfl) (by kernel_rfl)
theorem of_laid {W:World} (h:laidMetH Tryz.prog laidSteps W):Tab W:=by
 rw [MakeChecks.laidMetH_plain _ _ _ (by kernel_rfl)] at h
 have hT:Lib.TabIs Tryz.prog W "folio/crc.steps" .u32 stepsZ:=Lib.tabIs_of_head gSteps tSteps Tryz.underlying83 Tryz.underlying54 (by kernel_rfl) (by kernel_rfl) h
 have hc:=fun i hi=>hT.cell gSteps i hi
 refine ⟨World.block_lt_of_cell? W ⟨0,0,none⟩ (hc 0 (by decide)),fun i hi=>?_⟩
 rw [hc i hi]
 have:∀ k:Fin 16,stepsZ.getD k.val 0=((tabAt k.val:Nat):Int):=by decide
 have e:=this ⟨i,hi⟩
 simp only at e
 rw [e]
end Go.Proofs.YtmjpnbadfmgimaaGreatDoor.S3

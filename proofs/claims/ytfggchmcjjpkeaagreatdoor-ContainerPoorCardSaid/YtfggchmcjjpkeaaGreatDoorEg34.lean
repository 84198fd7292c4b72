/- Texts put together: ConL. -/
import Derived.Test.YtfggchmcjjpkeaaGreatDoorEg1
import Derived.OwnWalkIn
import Derived.ArgAppend
set_option linter.unusedSimpArgs false
set_option linter.unusedVariables false
set_option maxRecDepth 100000
namespace Go.Proofs.YtfggchmcjjpkeaaGreatDoor.S11
open Go.RowKit
def Near (w:World) (v v':Value):Prop:=∀ g,v'.ownBlock = some g → v.ownBlock = some g ∨ w.heap.size ≤ g
theorem run_append_near {w:World} (ty:TypeId) (base:Nat) (v:Value) (n:Nat) (A:List Nat) (hown:w.ownsRow base 5 1 v n (u8s A)) (src:Value) (B:List Nat) (hsrc:IsBytes w src B) (hb:n + B.length ≤ 140737488355328) (h63:n + B.length ≤ maxLen) (hbase:base ≤ w.heap.size) :
    ∃ v' w',(Builtin.append_ #[22, 22] ty #[v,src]).run Tryz.prog w = .ok v' w' ∧ w'.ownsRow base 5 1 v' (n + B.length) (u8s (A ++ B)) ∧ w.grownBy w' v.ownBlock ∧ Near w v v':=by
  obtain ⟨i0,hi,hz0,hz1,hz2⟩:=info_parts info5
  rw [u8s_append]
  obtain ⟨_,⟨rfl,rfl⟩ | ⟨ad,cap,rfl,h1,h2,hc⟩⟩:=hsrc
  · have hr:=run_append_owned_none (P:=Tryz.prog) (w:=w) base 22 ty 5 i0 1 Tryz.underlying22 hi v n (u8s A) hown
    exact ⟨v,w,hr,by simpa [u8s] using hown,grownBy_refl _ _,fun g hg=>.inl hg⟩
  · have hnl:(u8s B).length = B.length * 1:=by rw [u8s_length,Nat.mul_one]
    rcases hown.2 with ⟨rfl,rfl⟩ | ⟨g,cp,cur,rfl,hbg,hg,hnc,hcm,hcs,htake⟩
    · have hA:u8s A = []:=List.eq_nil_of_length_eq_zero (by simpa using hown.1)
      obtain ⟨v',w',hr,r1,r2,_⟩:=run_append_own (P:=Tryz.prog) w w.heap.size 22 ty 5 i0 (.int .u8 0) 1 1 Tryz.underlying22 hi hz0 hz1 hz2 rfl (by decide) (.slice none 0 0) 0 [] (World.ownsRow_nil _ _ _ _) ad B.length cap (u8s B) hnl hc (u8s_one B) (by omega) (by omega) (Nat.le_refl _)
      rw [hA]
      exact ⟨v',w',hr,own_base r1 hbase,r2,fun g hg=>.inr ((r1.lt g hg).1)⟩
    · by_cases hroom:n + B.length ≤ cp
      · have hfit:n * i0.size + (u8s B).length ≤ cur.size:=by rw [hz1,hnl,hcs];omega
        have hr:=run_append_room (P:=Tryz.prog) w 22 ty 5 i0 Tryz.underlying22 hi g n cp cur hg ad B.length cap (u8s B) (by rw [hz1];exact hnl) hc (u8s_one B) hroom hfit
        obtain ⟨v',w',hr',r1,r2,_⟩:=run_append_own (P:=Tryz.prog) w base 22 ty 5 i0 (.int .u8 0) 1 1 Tryz.underlying22 hi hz0 hz1 hz2 rfl (by decide) (.slice (some ⟨g,0,none⟩) n cp) n (u8s A) hown ad B.length cap (u8s B) hnl hc (u8s_one B) h63 (by omega) hbase
        rw [hr] at hr'
        cases hr'
        exact ⟨_,_,hr,r1,r2,fun g' hg'=>.inl (by simpa [Value.ownBlock] using hg')⟩
      · obtain ⟨v',w',hr,r1,r2⟩:=run_append_arg_grows (P:=Tryz.prog) (w:=w) 22 ty 5 i0 (.int .u8 0) 1 1 Tryz.underlying22 hi hz0 hz1 hz2 rfl (by decide) ⟨g,0,none⟩ n cp (u8s A) hown.1 (hown.cells (g:=g) rfl) ad B.length cap (u8s B) hnl hc (by omega) h63 (by omega)
        exact ⟨v',w',hr,own_base r1 hbase,⟨r2.os,r2.tape,r2.output,r2.size,fun k hk _=>r2.block k hk (by simp)⟩,fun g' hg'=>.inr ((r1.lt g' hg').1)⟩
theorem wp_append_near {w : World} {o : Oper} {a : Act} {K : Act → World → Prop} {Q : Exit → Act → World → Prop} (s x : Operand)
    (ho:o.op = .call { callee:=.builtin .append,args:=#[s,x],argTypes:=#[22, 22] })
    (base:Nat) (v:Value) (n:Nat) (A:List Nat) (hs:a.eval s = v) (hown:w.ownsRow base 5 1 v n (u8s A)) (src:Value) (B:List Nat) (hx:a.eval x = src) (hsrc:IsBytes w src B)
    (hb:n + B.length ≤ 4294967296) (hbase:base ≤ w.heap.size)
    (h:∀ v' w',w'.ownsRow base 5 1 v' (n + B.length) (u8s (A ++ B)) → w.grownBy w' v.ownBlock → Near w v v' → K (a.put o.dst v') w'):o.wp Tryz.prog a w K Q:=by
  obtain ⟨v',w',hr,h2,h3,h4⟩:=run_append_near o.type base v n A hown src B hsrc (by omega) (by unfold maxLen;omega) hbase
  unfold Oper.wp execOp
  simp only [ho,resolve,invoke,builtin,Sem.run_bind,Sem.run_pure,Result.andThen_ok,List.map_toArray,List.map_cons,List.map_nil,hs,hx,hr]
  exact h v' w' h2 h3 h4
theorem wpListIn_append_near {F : Fence} {d : Nat} {w : World} {ops : Array Oper} {rest : List Oper} {o : Oper} {a : Act} {Q : Exit → Act → World → Prop} (hgd : o.guard = none) (s x : Operand)
    (ho:o.op = .call { callee:=.builtin .append,args:=#[s,x],argTypes:=#[22, 22] })
    (base:Nat) (v:Value) (n:Nat) (A:List Nat) (hs:a.eval s = v) (hown:w.ownsRow base 5 1 v n (u8s A)) (src:Value) (B:List Nat) (hx:a.eval x = src) (hsrc:IsBytes w src B)
    (hb:n + B.length ≤ 4294967296) (hbase:base ≤ w.heap.size)
    (h:∀ v' w',w'.ownsRow base 5 1 v' (n + B.length) (u8s (A ++ B)) → w.grownBy w' v.ownBlock → Near w v v' → wpListIn F d Tryz.prog ops Q rest (a.put o.dst v') w'):wpListIn F d Tryz.prog ops Q (o :: rest) a w:=by
  refine wpListIn_plain hgd fun K hK'=>?_
  obtain ⟨v',w',hrun,r1,r2,r3⟩:=run_append_near o.type base v n A hown src B hsrc (by omega) (by unfold maxLen;omega) hbase
  unfold Oper.wpIn
  refine ⟨?_,?_⟩
  · simp [Oper.about,ho,resolve,Target.leads,Sem.run_pure]
  · rw [Oper.semAt_plain F _ _ (by rw [ho];intro c hc';cases hc')]
    simp [execOp,ho,resolve,invoke,builtin,hs,hx,hrun,Result.andThen]
    exact hK' _ _ (h v' w' r1 r2 r3)
theorem own_kept {w w':World} {base n:Nat} {e:TypeId} {v u:Value} {xs:List Value} (h:w.ownsRow base e 1 v n xs) (hg:w.grownBy w' u.ownBlock) (hne:∀ g,v.ownBlock = some g → u.ownBlock ≠ some g):w'.ownsRow base e 1 v n xs:=
  h.kept hg (by
    cases hv:v.ownBlock with
    | none=>exact .inl rfl
    | some g=>exact .inr fun e=>hne g hv e.symm)
end Go.Proofs.YtfggchmcjjpkeaaGreatDoor.S11

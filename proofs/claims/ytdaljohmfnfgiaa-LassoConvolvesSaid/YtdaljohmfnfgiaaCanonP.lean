/- What the proof of this claim is made of. No condition. -/
import Derived.Test.YtdaljohmfnfgiaaCanonO
namespace Go.Proofs.Ytdaljohmfnfgiaa.Canon
open Go Go.RowKit
noncomputable section
section
variable {P : Program}
theorem zBH {fr fr1 : Frame} {cs cs1 : List Frame} {w w1 : World} (hm : fr.mode = .run)
    (h : (stepG.exec P true true fr cs none w).bare = .go { frame := fr1,callers := cs1,status := .running,dying := none } w1) : step P (lone fr cs w) = .next (lone fr1 cs1 w1) :=
  step_lone_go (by simp only [stepG,hm]; exact h)
theorem Goes.one {N : Kp} {φ : Phi} {w : World} {fr' : Frame} {cs' : List Frame} {s : St} {ψ : Phi} {fr1' : Frame} {cs1' : List Frame} {w1 : World} (h1 : φ.le ψ) (h2 : FrR ψ s.1 fr1') (h3 : CL ψ s.2.1 cs1') (h4 : Sim N ψ s.2.2 w1) (h5 : Kept N w w1)
    (h6 : ∀ base,step P (lone fr' (cs' ++ base) w) = .next (lone fr1' (cs1' ++ base) w1)) : Goes P N φ w fr' cs' s :=
  fun base => ⟨ψ,fr1',cs1',w1,h1,h2,h3,h4,h5,.one (h6 base)⟩
def isRet : Option Code → Bool
  | none => true
  | some .ret => true
  | _ => false
theorem leave_sound {N : Kp} {φ : Phi} {A : AHeap} {w : World} {jump : Option Code} {fr fr' : Frame} {cs cs' : List Frame} {s : St} (h : aleave P jump fr cs A = some s) (hf : FrR φ fr fr') (hcs : CL φ cs cs') (hs : Sim N φ A w) (hN : KOK N w)
    (hm : fr'.mode = .run)
    (hex : ∀ cs,(stepG.exec P true true fr' cs none w).bare = (match fr'.roundOf with
      | none => if isRet jump = true then GStep.go { frame := { fr' with mode := .returning },callers := cs,status := .running,dying := none } w else .ended (.stuck "exit, goto: no such block or label" (fr'.pos P)) w
      | some l => match (Instr.endRound l jump).run P w with
        | .ok v w => (doReturn P true fr' cs none v w).bare
        | .halt _ w => .ended (.stuck "range over a function: no such loop" (fr'.pos P)) w : GStep)) : Goes P N φ w fr' cs' s := by
  unfold aleave at h
  have hro := hf.round
  cases hr : fr.roundOf with
  | none =>
    rw [hr] at h hro
    simp only [RR] at hro
    have fin : s = ({ fr with mode := .returning },cs,A) → isRet jump = true → Goes P N φ w fr' cs' s := by
      rintro rfl hj
      refine Goes.one (fr1' := { fr' with mode := .returning }) (Phi.le_refl _) ⟨hf.fn,hf.tmps,hf.todo,hf.defers,rfl,hf.kind,hf.kind',hf.round⟩ hcs hs (Kept.refl _ _) fun base => zBH hm ?_
      rw [hex,hro]
      simp only [hj,if_true]
    simp only at h
    split at h
    · cases h; exact fin (by rw [hr]) rfl
    · cases h; exact fin (by rw [hr]) rfl
    · cases h
  | some l =>
    rw [hr] at h hro
    obtain ⟨e,he,hr'⟩ := hro
    simp only at h
    split at h
    · rename_i v A1 c cs1 hrun
      cases h
      obtain ⟨ψ,v',w1,g1,g2,g3,g4,g5⟩ := Q.endRound (P := P) he jump N A w v A1 hs hN hrun
      cases hcs with
      | cons hc ht =>
        rename_i c' l'
        refine Goes.one (cs1' := l') g1 ((hc.mono g1).finish g2) (ht.mono g1) g3 g5 fun base => zBH hm ?_
        rw [hex,hr']
        simp only [g4]
        simp [doReturn,hf.kind']
    · cases h
theorem apply_value {fr fr1 : Frame} {cs : List Frame} {w w1 : World} {s : Sem Next} {x : Next} {v : Value} (h : s.run P w = .ok x w1) (hx : x = .value v ∨ (x = .skip ∧ v = undef)) (hf : fr1 = fr.finish v) :
    (stepG.apply P true fr cs none s w).bare = .go { frame := fr1,callers := cs,status := .running,dying := none } w1 := by
  subst hf
  rcases hx with rfl | ⟨rfl,rfl⟩ <;> simp [stepG.apply,h]
theorem apply_call {fr fr1 : Frame} {cs : List Frame} {w : World} {s : Sem Next} (hk : ∃ x k,fr.todo = x :: k ∧ ∀ d b r s,x ≠ .call d b r s)
    (h : (∃ g xs,fr1 = Frame.enter P g xs .normal ∧ s.run P w = .ok (.enter g xs) w) ∨ (∃ l g tmps asg body,fr1 = Frame.round l g tmps asg body .normal ∧ s.run P w = .ok (.round l g tmps asg body) w)) :
    (stepG.apply P true fr cs none s w).bare = .go { frame := fr1,callers := fr :: cs,status := .running,dying := none } w := by
  obtain ⟨x,k,ht,hx⟩ := hk
  rcases h with ⟨g,xs,rfl,h⟩ | ⟨l,g,tmps,asg,body,rfl,h⟩ <;> cases x <;> first | exact absurd rfl (hx _ _ _ _) | simp [stepG.apply,h,ht]
theorem oper_exec {fr : Frame} {cs : List Frame} {w : World} {ops : Array Oper} {i : Nat} {rest : List Nat} {k : List Item} {o : Oper} (ht : fr.todo = .inRegion ops (i :: rest) :: k) (ho : ops[i]? = some o) (hw : Region.wanted o (yielded ops fr.tmps) = true)
    (hnd : ∀ c,o.op ≠ .defer c) : stepG.exec P true true fr cs none w = stepG.apply P true fr cs none (execOp fr.eval o) w := by
  simp only [stepG.exec,ht,ho,Option.map_some,Option.getD_some,hw,if_true]
  simp only [stepG.oper,Frame.oper?,ht,ho]
  split
  · rename_i c _ hop; exact absurd hop (hnd c)
  · rfl
theorem oper_skip {fr : Frame} {cs : List Frame} {w : World} {ops : Array Oper} {i : Nat} {rest : List Nat} {k : List Item} {o : Oper} (ht : fr.todo = .inRegion ops (i :: rest) :: k) (ho : ops[i]? = some o) (hw : Region.wanted o (yielded ops fr.tmps) = false) :
    (stepG.exec P true true fr cs none w).bare = .go { frame := fr.finish undef,callers := cs,status := .running,dying := none } w := by
  simp [stepG.exec,ht,ho,hw]
theorem oper_sound (hc : zAJ P) {N : Kp} {φ : Phi} {A : AHeap} {w : World} {ops : Array Oper} {i : Nat} {rest : List Nat} {k : List Item} {fr fr' : Frame} {cs cs' : List Frame} {s : St} (h : aoper P ops i fr cs A = some s) (hf : FrR φ fr fr') (hcs : CL φ cs cs') (hs : Sim N φ A w)
    (hN : KOK N w) (hm : fr'.mode = .run) (ht : fr'.todo = .inRegion ops (i :: rest) :: k) : Goes P N φ w fr' cs' s := by
  unfold aoper at h
  cases ho : ops[i]? with
  | none => rw [ho] at h; cases h
  | some o =>
    rw [ho] at h
    simp only at h
    have hwe := wanted_eq hf.tmps ops o
    cases hw : Region.wanted o (yielded ops fr.tmps) with
    | false =>
      rw [hw] at h hwe
      cases h
      exact Goes.one (Phi.le_refl _) (hf.finish (V.undef φ)) hcs hs (Kept.refl _ _) fun base => zBH hm (oper_skip ht ho hwe)
    | true =>
      rw [hw] at h hwe
      simp only at h
      have plain : (∀ c,o.op ≠ .defer c) → (match zAE P fr.eval o A with | some (v,A1) => some (fr.finish v,cs,A1) | none => none) = some s → Goes P N φ w fr' cs' s := by
        intro hnd h
        cases hx : zAE P fr.eval o A with
        | none => rw [hx] at h; cases h
        | some p =>
          rw [hx] at h
          cases h
          obtain ⟨ψ,x,w1,g1,g2,g3,g4,g5⟩ := Q.exec o hf.eval N A w p.1 p.2 hs hN hx
          rcases g2 with ⟨v',rfl,hv⟩ | ⟨rfl,hv⟩
          · exact Goes.one g1 ((hf.mono g1).finish hv) (hcs.mono g1) g3 g5 fun base => zBH hm (by rw [oper_exec ht ho hwe hnd]; exact apply_value g4 (.inl rfl) rfl)
          · rw [hv]
            exact Goes.one g1 ((hf.mono g1).finish (V.undef ψ)) (hcs.mono g1) g3 g5 fun base => zBH hm (by rw [oper_exec ht ho hwe hnd]; exact apply_value g4 (.inr ⟨rfl,rfl⟩) rfl)
      split at h
      · rename_i f args ats hop
        split at h
        · rename_i hf1 hf2
          have hargs : AR φ (args.map fr.eval) (args.map fr'.eval) := hf.eval.map fun x hx => by
            rw [List.all_eq_true] at hf2; exact hf2 x (by simpa using hx)
          obtain ⟨fr1',k1,k2,k3,k4⟩ := acall_sound hc h hs (hf.eval f hf1) hargs
          have hexec : execOp fr'.eval o = (do let d ← Deferred.ofValue (fr'.eval f) (args.map fr'.eval); invoke d.target d.args) := by
            unfold execOp
            rw [hop]
            rfl
          rw [← hexec] at k4
          refine Goes.one (cs1' := fr' :: cs') (Phi.le_refl _) k1 (by rw [k2]; exact .cons hf hcs) (by rw [k3]; exact hs) (Kept.refl _ _) fun base => zBH hm ?_
          rw [oper_exec ht ho hwe (by rw [hop]; simp)]
          exact apply_call ⟨_,_,ht,by simp⟩ k4
        · cases h
      · rename_i hno
        refine plain (fun c hd => ?_) h
        unfold zAE at h
        rw [hd] at h
        cases hall : (Op.defer c).operands.toList.all zAC <;> rw [hall] at h <;> cases h
theorem zCB {φ : Phi} {N : Kp} {A : AHeap} {w : World} {fr fr' : Frame} {cs cs' : List Frame} {k k' : List Item} (hf : FrR φ fr fr') (hcs : CL φ cs cs') (hs : Sim N φ A w) (hm : fr'.mode = .run) (hk : IL φ k k')
    (hex : ∀ cs,(stepG.exec P true true fr' cs none w).bare = GStep.go { frame := { fr' with todo := k' },callers := cs,status := .running,dying := none } w) : Goes P N φ w fr' cs' ({ fr with todo := k },cs,A) :=
  Goes.one (fr1' := { fr' with todo := k' }) (Phi.le_refl _) ⟨hf.fn,hf.tmps,hk,hf.defers,hf.mode,hf.kind,hf.kind',hf.round⟩ hcs hs (Kept.refl _ _) fun _ => zBH hm (hex _)
theorem return_sound {N : Kp} {φ : Phi} {A : AHeap} {w : World} {fr fr' : Frame} {cs cs' : List Frame} {s : St} (hmode : fr.mode = .returning)
    (h : (match fr.defers with
      | { target := .collected b,.. } :: ds => match arun P (Instr.takeDeferred b) A with
        | some (calls,A1) => some ({ fr with defers := calls ++ ds },cs,A1)
        | none => none
      | [] => match P.funcs[fr.fn]?,cs with
        | some fn,c :: cs => match arun P (results fn fr.tmps) A with
          | some (v,A1) => some (c.finish v,cs,A1)
          | none => none
        | _,_ => none
      | _ => none : Option St) = some s) (hf : FrR φ fr fr') (hcs : CL φ cs cs') (hs : Sim N φ A w) (hN : KOK N w) : Goes P N φ w fr' cs' s := by
  have hm' : fr'.mode = .returning := hf.mode.trans hmode
  have hd := hf.defers
  split at h
  · rename_i b args ds hdef
    rw [hdef] at hd
    split at h
    · rename_i calls A1 hrun
      cases h
      cases hdl : fr'.defers with
      | nil => rw [hdl] at hd; cases hd
      | cons d l =>
        rw [hdl] at hd
        cases hd with
        | cons he t =>
          obtain ⟨ψ,c',w1,g1,⟨g2,g2'⟩,g3,g4,g5⟩ := Q.takeDeferred (P := P) he N A w calls A1 hs hN hrun
          subst g2 g2'
          refine Goes.one (fr1' := { fr' with defers := [] ++ l }) g1 ⟨hf.fn,hf.tmps.mono g1,hf.todo.mono g1,t.mono g1,hf.mode,hf.kind,hf.kind',hf.round.mono g1⟩ (hcs.mono g1) g3 g5 fun _ => step_lone_go ?_
          simp [stepG,hm',unwind,hdl,g4]
    · cases h
  · rename_i hdef
    rw [hdef] at hd
    have hdl : fr'.defers = [] := by
      cases hdl : fr'.defers with
      | nil => rfl
      | cons d l => rw [hdl] at hd; cases hd
    split at h
    · rename_i fn c cs1 hfn
      split at h
      · rename_i v A1 hrun
        cases h
        obtain ⟨ψ,v',w1,g1,g2,g3,g4,g5⟩ := Q.results fn hf.tmps N A w v A1 hs hN hrun
        cases hcs with
        | cons hc ht =>
          rename_i c' l'
          refine Goes.one (cs1' := l') g1 ((hc.mono g1).finish g2) (ht.mono g1) g3 g5 fun base => step_lone_go ?_
          have hfn' : P.funcs[fr'.fn]? = some fn := by rw [hf.fn]; exact hfn
          simp [stepG,hm',unwind,hdl,hfn',g4,doReturn,hf.kind']
      · cases h
    · cases h
  · cases h
set_option maxHeartbeats 1000000 in
theorem step_sound (hc : zAJ P) {N : Kp} {φ : Phi} {A : AHeap} {w : World} {fr fr' : Frame} {cs cs' : List Frame} {s : St} (h : zDQ P fr cs A = some s) (hf : FrR φ fr fr') (hcs : CL φ cs cs') (hs : Sim N φ A w) (hN : KOK N w) : Goes P N φ w fr' cs' s := by
  unfold zDQ at h
  split at h
  · rename_i hmode
    have hm : fr'.mode = .run := hf.mode.trans hmode
    have htd := hf.todo
    split at h
    · rename_i hnil
      rw [hnil] at htd
      have ht : fr'.todo = [] := by cases htl : fr'.todo with | nil => rfl | cons a b => rw [htl] at htd; cases htd
      refine leave_sound h hf hcs hs hN hm fun cs => ?_
      simp only [stepG.exec,ht]
      cases fr'.roundOf with
      | none => simp [isRet]
      | some l0 => simp only [Sem.runT_eq,GStep.bare_after]; cases (Instr.endRound l0 none).run P w <;> rfl
    · rename_i c k hcode
      rw [hcode] at htd
      obtain ⟨k',ht,hk⟩ : ∃ k',fr'.todo = .code c :: k' ∧ IL φ k k' := by
        cases htl : fr'.todo with
        | nil => rw [htl] at htd; cases htd
        | cons a b => rw [htl] at htd; cases htd with | code _ t => exact ⟨b,rfl,t⟩
      cases c <;> (try simp only at h)
      case ret =>
        refine leave_sound h hf hcs hs hN hm fun cs => ?_
        simp only [stepG.exec,ht]
        cases fr'.roundOf with
        | none => simp [isRet]
        | some l0 => simp only [Sem.runT_eq,GStep.bare_after]; cases (Instr.endRound l0 (some .ret)).run P w <;> rfl
      case skip => cases h; exact zCB hf hcs hs hm hk fun cs => by simp [stepG.exec,ht]
      case label l => cases h; exact zCB hf hcs hs hm hk fun cs => by simp [stepG.exec,ht]
      case seq a b => cases h; exact zCB hf hcs hs hm (.code a (.code b hk)) fun cs => by simp [stepG.exec,ht]
      case cond c a b =>
        split at h
        · rename_i hok hev
          cases h
          have hv := hf.eval c hok
          rw [hev] at hv
          have hev' : fr'.eval c = .bool true := by cases hx : fr'.eval c <;> rw [hx] at hv <;> cases hv; rfl
          exact zCB hf hcs hs hm (.code a hk) fun cs => by simp [stepG.exec,ht,hev']
        · rename_i hok hev
          cases h
          have hv := hf.eval c hok
          rw [hev] at hv
          have hev' : fr'.eval c = .bool false := by cases hx : fr'.eval c <;> rw [hx] at hv <;> cases hv; rfl
          exact zCB hf hcs hs hm (.code b hk) fun cs => by simp [stepG.exec,ht,hev']
        · cases h
      case block id c => cases h; exact zCB hf hcs hs hm (.code c (.inBlock id hk)) fun cs => by simp [stepG.exec,ht]
      case loop c => cases h; exact zCB hf hcs hs hm (.code c (.inLoop c hk)) fun cs => by simp [stepG.exec,ht]
      case scope c => cases h; exact zCB hf hcs hs hm (.code c (.inScope c hk)) fun cs => by simp [stepG.exec,ht]
      case exit id =>
        split at h
        · rename_i k1 hx
          cases h
          obtain ⟨k1',hx',hk1⟩ := exitTo_rel id hk k1 hx
          exact zCB hf hcs hs hm hk1 fun cs => by simp [stepG.exec,ht,hx']
        · rename_i hx
          have hx' := exitTo_none id hk hx
          refine leave_sound h hf hcs hs hN hm fun cs => ?_
          simp only [stepG.exec,ht,hx',Option.elim_none]
          cases fr'.roundOf with
          | none => simp [isRet]
          | some l0 => simp only [Sem.runT_eq,GStep.bare_after]; cases (Instr.endRound l0 (some (.exit id))).run P w <;> rfl
      case goto l =>
        split at h
        · rename_i k1 hx
          cases h
          obtain ⟨k1',hx',hk1⟩ := gotoIn_rel l hk k1 hx
          exact zCB hf hcs hs hm hk1 fun cs => by simp [stepG.exec,ht,hx']
        · rename_i hx
          have hx' := gotoIn_none l hk hx
          refine leave_sound h hf hcs hs hN hm fun cs => ?_
          simp only [stepG.exec,ht,hx',Option.elim_none]
          cases fr'.roundOf with
          | none => simp [isRet]
          | some l0 => simp only [Sem.runT_eq,GStep.bare_after]; cases (Instr.endRound l0 (some (.goto l))).run P w <;> rfl
      case rangeFunc f ps asg body =>
        split at h
        · rename_i l mk A1 hok hrun
          split at h
          · rename_i g first captured hev
            have hv := hf.eval f hok
            rw [hev] at hv
            obtain ⟨ψ,p',w1,g1,⟨⟨e,he,hp1⟩,hp2⟩,g3,g4,g5⟩ := Q.enterLoop (P := P) fr.fn hf.tmps ps asg body hf.round N A w (l,mk) A1 hs hN hrun
            obtain ⟨l',mk'⟩ := p'
            simp only at hp1 hp2 he
            subst hp1
            have hf1 : FrR ψ { fr with todo := .inRangeFunc l :: k,defers := mk ++ fr.defers } { fr' with todo := .inRangeFunc e.blk :: k',defers := mk' ++ fr'.defers } :=
              ⟨hf.fn,hf.tmps.mono g1,.inRange he (hk.mono g1),hp2.append (hf.defers.mono g1),hf.mode,hf.kind,hf.kind',hf.round.mono g1⟩
            obtain ⟨fr1',k1,k2,k3,k4⟩ := acall_sound hc h g3 (hv.mono g1) (args' := #[.func (.yield e.blk) #[] #[]]) (AR.single (.yield he))
            refine Goes.one (cs1' := { fr' with todo := .inRangeFunc e.blk :: k',defers := mk' ++ fr'.defers } :: cs') g1 k1 (by rw [k2]; exact .cons hf1 (hcs.mono g1)) (by rw [k3]; exact g3) g5 fun base => zBH hm ?_
            have hfn : fr'.fn = fr.fn := hf.fn
            rw [← hfn] at g4
            simp only [stepG.exec,ht,Sem.runT_eq,GStep.bare_after,g4]
            refine apply_call ⟨_,_,rfl,by simp⟩ ?_
            have hres : (do let d ← resolve ({ fr' with todo := .inRangeFunc e.blk :: k',defers := mk' ++ fr'.defers } : Frame).eval { callee := .value f,args := #[.const (.func (.yield e.blk) #[] #[])],argTypes := #[] } 0; invoke d.target d.args : Sem Next) =
                (do let d ← Deferred.ofValue (fr'.eval f) #[.func (.yield e.blk) #[] #[]]; invoke d.target d.args) := by
              simp only [resolve,List.map_toArray,List.map_cons,List.map_nil,Frame.eval]
            rw [hres]
            exact k4
          · cases h
        · cases h
      case region id ops draw =>
        cases draw
        · cases h; exact zCB hf hcs hs hm (.inRegion ops (List.range ops.size) hk) fun cs => by simp [stepG.exec,ht]
        · cases h
      all_goals cases h
    · rename_i i k hcode
      rw [hcode] at htd
      obtain ⟨k',ht,hk⟩ : ∃ k',fr'.todo = .inBlock i :: k' ∧ IL φ k k' := by
        cases htl : fr'.todo with
        | nil => rw [htl] at htd; cases htd
        | cons a b => rw [htl] at htd; cases htd with | inBlock _ t => exact ⟨b,rfl,t⟩
      cases h; exact zCB hf hcs hs hm hk fun cs => by simp [stepG.exec,ht]
    · rename_i c k hcode
      rw [hcode] at htd
      obtain ⟨k',ht,hk⟩ : ∃ k',fr'.todo = .inScope c :: k' ∧ IL φ k k' := by
        cases htl : fr'.todo with
        | nil => rw [htl] at htd; cases htd
        | cons a b => rw [htl] at htd; cases htd with | inScope _ t => exact ⟨b,rfl,t⟩
      cases h; exact zCB hf hcs hs hm hk fun cs => by simp [stepG.exec,ht]
    · rename_i c k hcode
      rw [hcode] at htd
      obtain ⟨k',ht,hk⟩ : ∃ k',fr'.todo = .inLoop c :: k' ∧ IL φ k k' := by
        cases htl : fr'.todo with
        | nil => rw [htl] at htd; cases htd
        | cons a b => rw [htl] at htd; cases htd with | inLoop _ t => exact ⟨b,rfl,t⟩
      cases h; exact zCB hf hcs hs hm (.code c (.inLoop c hk)) fun cs => by simp [stepG.exec,ht]
    · rename_i ops k hcode
      rw [hcode] at htd
      obtain ⟨k',ht,hk⟩ : ∃ k',fr'.todo = .inRegion ops [] :: k' ∧ IL φ k k' := by
        cases htl : fr'.todo with
        | nil => rw [htl] at htd; cases htd
        | cons a b => rw [htl] at htd; cases htd with | inRegion _ _ t => exact ⟨b,rfl,t⟩
      cases h; exact zCB hf hcs hs hm hk fun cs => by simp [stepG.exec,ht]
    · rename_i ops i rest k hcode
      rw [hcode] at htd
      obtain ⟨k',ht,hk⟩ : ∃ k',fr'.todo = .inRegion ops (i :: rest) :: k' ∧ IL φ k k' := by
        cases htl : fr'.todo with
        | nil => rw [htl] at htd; cases htd
        | cons a b => rw [htl] at htd; cases htd with | inRegion _ _ t => exact ⟨b,rfl,t⟩
      exact oper_sound hc h hf hcs hs hN hm ht
    · rename_i k hcode
      rw [hcode] at htd
      obtain ⟨k',ht,hk⟩ : ∃ k',fr'.todo = .beginRound :: k' ∧ IL φ k k' := by
        cases htl : fr'.todo with
        | nil => rw [htl] at htd; cases htd
        | cons a b => rw [htl] at htd; cases htd with | beginRound t => exact ⟨b,rfl,t⟩
      have hro := hf.round
      split at h
      · rename_i l hr
        rw [hr] at hro
        obtain ⟨e,he,hr'⟩ := hro
        split at h
        · rename_i u A1 hrun
          cases h
          obtain ⟨ψ,v',w1,g1,g2,g3,g4,g5⟩ := Q.beginRound (P := P) he N A w u A1 hs hN hrun
          refine Goes.one g1 ((hf.mono g1).finish (V.undef ψ)) (hcs.mono g1) g3 g5 fun base => zBH hm ?_
          simp only [stepG.exec,ht]
          refine apply_value (x := .skip) ?_ (.inr ⟨rfl,rfl⟩) rfl
          rw [hr']
          simp [Option.elim,g4]
        · cases h
      · cases h
    · rename_i l k hcode
      rw [hcode] at htd
      obtain ⟨e,k',he,ht,hk⟩ : ∃ e k',φ l = some e ∧ fr'.todo = .endRangeFunc e.blk :: k' ∧ IL φ k k' := by
        cases htl : fr'.todo with
        | nil => rw [htl] at htd; cases htd
        | cons a b => rw [htl] at htd; cases htd with | endRange he t => exact ⟨_,b,he,rfl,t⟩
      split at h
      · rename_i jump A1 hrun
        cases h
        obtain ⟨ψ,v',w1,g1,g2,g3,g4,g5⟩ := Q.endLoop (P := P) he N A w jump A1 hs hN hrun
        cases g2
        have hil : IL ψ ((jump.map Item.code).toList ++ k) ((jump.map Item.code).toList ++ k') := by
          cases jump with
          | none => exact hk.mono g1
          | some c => exact .code c (hk.mono g1)
        refine Goes.one (fr1' := { fr' with todo := (jump.map Item.code).toList ++ k' }) g1 ⟨hf.fn,hf.tmps.mono g1,hil,hf.defers.mono g1,hf.mode,hf.kind,hf.kind',hf.round.mono g1⟩ (hcs.mono g1) g3 g5 fun base => zBH hm ?_
        simp [stepG.exec,ht,g4]
      · cases h
    · cases h
  · rename_i hmode
    exact return_sound hmode h hf hcs hs hN
  · cases h
end
end
end Go.Proofs.Ytdaljohmfnfgiaa.Canon

/- What the proof of this claim is made of. No condition. -/
import Derived.Test.YtdaljohmfnfgiaaCanonN
namespace Go.Proofs.Ytdaljohmfnfgiaa.Canon
open Go Go.RowKit
noncomputable section
section
variable {P : Program}
abbrev St := Frame × List Frame × AHeap
def aleave (P : Program) (jump : Option Code) (fr : Frame) (cs : List Frame) (A : AHeap) : Option St :=
  match fr.roundOf with
  | none => match jump with
    | none => some ({ fr with mode := .returning },cs,A)
    | some .ret => some ({ fr with mode := .returning },cs,A)
    | _ => none
  | some l => match arun P (Instr.endRound l jump) A,cs with
    | some (v,A1),c :: cs => some (c.finish v,cs,A1)
    | _,_ => none
def acall (P : Program) (fr : Frame) (cs : List Frame) (A : AHeap) (f : Value) (args : Array Value) : Option St :=
  match f with
  | .func (.func g) first captured => match P.funcs[g]? with
    | some fn => match fn.body.isSome with
      | true => some (Frame.enter P g (first ++ args ++ captured) .normal,fr :: cs,A)
      | false => none
    | none => none
  | .func (.yield l) _ _ => match A.obj l with
    | some (.loop r) => match Nat.beq args.size r.params.size with
      | true => some (Frame.round l r.fn ((r.params.zip args).foldl (fun tmps (t,a) => tmps.setIfInBounds t a) r.tmps) r.assign r.body .normal,fr :: cs,A)
      | false => none
    | _ => none
  | _ => none
def aoper (P : Program) (ops : Array Oper) (i : Nat) (fr : Frame) (cs : List Frame) (A : AHeap) : Option St :=
  match ops[i]? with
  | none => none
  | some o => match Region.wanted o (yielded ops fr.tmps) with
    | false => some (fr.finish undef,cs,A)
    | true => match o.op with
      | .call ⟨.value f,args,_⟩ => match zAC f,args.toList.all zAC with
        | true,true => acall P fr cs A (fr.eval f) (args.map fr.eval)
        | _,_ => none
      | _ => match zAE P fr.eval o A with
        | some (v,A1) => some (fr.finish v,cs,A1)
        | none => none
def zDQ (P : Program) (fr : Frame) (cs : List Frame) (A : AHeap) : Option St :=
  match fr.mode with
  | .run => match fr.todo with
    | [] => aleave P none fr cs A
    | .code c :: k => match c with
      | .ret => aleave P (some .ret) fr cs A
      | .skip => some ({ fr with todo := k },cs,A)
      | .label _ => some ({ fr with todo := k },cs,A)
      | .seq a b => some ({ fr with todo := .code a :: .code b :: k },cs,A)
      | .cond c a b => match zAC c,fr.eval c with
        | true,.bool true => some ({ fr with todo := .code a :: k },cs,A)
        | true,.bool false => some ({ fr with todo := .code b :: k },cs,A)
        | _,_ => none
      | .block id c => some ({ fr with todo := .code c :: .inBlock id :: k },cs,A)
      | .loop c => some ({ fr with todo := .code c :: .inLoop c :: k },cs,A)
      | .scope c => some ({ fr with todo := .code c :: .inScope c :: k },cs,A)
      | .exit id => match exitTo id k with
        | some k' => some ({ fr with todo := k' },cs,A)
        | none => aleave P (some (.exit id)) fr cs A
      | .goto l => match gotoIn l k with
        | some k' => some ({ fr with todo := k' },cs,A)
        | none => aleave P (some (.goto l)) fr cs A
      | .rangeFunc f ps asg body => match zAC f,arun P (Instr.enterLoop fr.fn fr.tmps ps asg body fr.roundOf) A with
        | true,some ((l,mk),A1) => match fr.eval f with
          | .func (.func g) first captured => acall P { fr with todo := .inRangeFunc l :: k,defers := mk ++ fr.defers } cs A1 (.func (.func g) first captured) #[.func (.yield l) #[] #[]]
          | _ => none
        | _,_ => none
      | .region _ ops false => some ({ fr with todo := .inRegion ops (List.range ops.size) :: k },cs,A)
      | _ => none
    | .inBlock _ :: k => some ({ fr with todo := k },cs,A)
    | .inScope _ :: k => some ({ fr with todo := k },cs,A)
    | .inLoop c :: k => some ({ fr with todo := .code c :: .inLoop c :: k },cs,A)
    | .inRegion _ [] :: k => some ({ fr with todo := k },cs,A)
    | .inRegion ops (i :: _) :: _ => aoper P ops i fr cs A
    | .beginRound :: _ => match fr.roundOf with
      | some l => match arun P (Instr.beginRound l) A with
        | some (_,A1) => some (fr.finish undef,cs,A1)
        | none => none
      | none => none
    | .endRangeFunc l :: k => match arun P (Instr.endLoop l) A with
      | some (jump,A1) => some ({ fr with todo := (jump.map Item.code).toList ++ k },cs,A1)
      | none => none
    | _ => none
  | .returning => match fr.defers with
    | { target := .collected b,.. } :: ds => match arun P (Instr.takeDeferred b) A with
      | some (calls,A1) => some ({ fr with defers := calls ++ ds },cs,A1)
      | none => none
    | [] => match P.funcs[fr.fn]?,cs with
      | some fn,c :: cs => match arun P (results fn fr.tmps) A with
        | some (v,A1) => some (c.finish v,cs,A1)
        | none => none
      | _,_ => none
    | _ => none
  | _ => none
def zAJ (P : Program) : Prop := ∀ (g : Nat) (fn : Func),P.funcs[g]? = some fn → fn.body.isSome = true → (fn.name == "runtime.NumGoroutine") = false
def Goes (P : Program) (N : Kp) (φ : Phi) (w : World) (fr' : Frame) (cs' : List Frame) (s : St) : Prop :=
  ∀ base,∃ ψ fr1' cs1' w1,φ.le ψ ∧ FrR ψ s.1 fr1' ∧ CL ψ s.2.1 cs1' ∧ Sim N ψ s.2.2 w1 ∧ Kept N w w1 ∧ Steps P (lone fr' (cs' ++ base) w) (lone fr1' (cs1' ++ base) w1)
theorem run_callFunc (hc : zAJ P) {g : Nat} {fn : Func} (hf : P.funcs[g]? = some fn) (hb : fn.body.isSome = true) (args : Array Value) (w : World) : (callFunc g args).run P w = .ok (.enter g args) w := by
  have h1 : ¬ fn.name = "runtime.NumGoroutine" := by simpa using hc g fn hf hb
  have h2 : ¬ fn.body = none := fun h => by simp [h] at hb
  simp [callFunc,hf,h1,h2]
theorem AR.params {φ : Phi} (ps : Array Tmp) {args args' tmps tmps' : Array Value} (ha : AR φ args args') (ht : AR φ tmps tmps') :
    AR φ ((ps.zip args).foldl (fun tmps (t,a) => tmps.setIfInBounds t a) tmps) ((ps.zip args').foldl (fun tmps (t,a) => tmps.setIfInBounds t a) tmps') := by
  rw [← Array.foldl_toList,← Array.foldl_toList,Array.toList_zip,Array.toList_zip]
  have hl := ha.list
  revert ht
  generalize ps.toList = l
  generalize args.toList = a at hl
  generalize args'.toList = a' at hl
  revert tmps tmps'
  induction l generalizing a a' with
  | nil => intro tmps tmps' ht; simpa using ht
  | cons p l ih =>
    intro tmps tmps' ht
    cases hl with
    | nil => simpa using ht
    | cons hv t =>
      simp only [List.zip_cons_cons,List.foldl_cons]
      exact ih _ _ t (ht.set hv p)
theorem acall_sound (hc : zAJ P) {N : Kp} {φ : Phi} {w : World} {A : AHeap} {fr : Frame} {cs : List Frame} {f f' : Value} {args args' : Array Value} {s : St}
    (h : acall P fr cs A f args = some s) (hs : Sim N φ A w) (hv : V φ f f') (ha : AR φ args args') :
    ∃ fr1',FrR φ s.1 fr1' ∧ s.2.1 = fr :: cs ∧ s.2.2 = A ∧
      ((∃ g xs,fr1' = Frame.enter P g xs .normal ∧ (do let d ← Deferred.ofValue f' args'; invoke d.target d.args : Sem Next).run P w = .ok (.enter g xs) w) ∨
       (∃ l g tmps asg body,fr1' = Frame.round l g tmps asg body .normal ∧ (do let d ← Deferred.ofValue f' args'; invoke d.target d.args : Sem Next).run P w = .ok (.round l g tmps asg body) w)) := by
  cases hv <;> simp only [acall] at h <;> try (cases h; done)
  case func g xs ys xs' ys' hx hy hx' hy' =>
    split at h
    · rename_i fn hfn
      split at h
      · rename_i hb
        cases h
        have hargs : AR φ (xs ++ args ++ ys) (xs' ++ args' ++ ys') := (AR.append ⟨hx,hx'⟩ ha).append ⟨hy,hy'⟩
        refine ⟨Frame.enter P g (xs' ++ args' ++ ys') .normal,?_,rfl,rfl,.inl ⟨g,_,rfl,?_⟩⟩
        · refine ⟨rfl,?_,.code _ .nil,.nil,rfl,rfl,rfl,rfl⟩
          simp only [Frame.enter]
          rw [← hargs.1]
          refine hargs.append ?_
          exact .of rfl fun i v hv => ⟨v,hv,by
            have := Array.mem_of_getElem? hv
            simp at this
            rw [this.2]; exact .undef φ⟩
        · simp [Deferred.ofValue,invoke,run_callFunc hc hfn hb]
      · cases h
    · cases h
  case yield l e he =>
    split at h
    · rename_i r hr
      split at h
      · rename_i hsz
        cases h
        obtain ⟨o',h1,h2,hrow,hoff⟩ := hs.getObj he hr
        cases o' <;> simp only [OR] at h2
        rename_i r'
        obtain ⟨g1,g2,g3,g4,g5,g6,g7,g8⟩ := h2
        have hsz : args.size = r.params.size := Nat.eq_of_beq_eq_true hsz
        have hsz' : ¬ args'.size ≠ r'.params.size := by rw [← ha.1,← g5]; simpa using hsz
        refine ⟨Frame.round e.blk r'.fn ((r'.params.zip args').foldl (fun tmps (t,a) => tmps.setIfInBounds t a) r'.tmps) r'.assign r'.body .normal,?_,rfl,rfl,.inr ⟨_,_,_,_,_,rfl,?_⟩⟩
        · refine ⟨g3.symm,?_,?_,.nil,rfl,rfl,rfl,e,he,rfl⟩
          · rw [← g5]; exact AR.params _ ha g4
          · rw [← g6,← g7]; exact .code _ (.beginRound (.code _ .nil))
        · have hg : (getObj e.blk).run P w = .ok (.loop r') w := by simp [getObj,Sem.run,h1]
          simp only [Deferred.ofValue,pure_bind,invoke,Instr.yield,Instr.getLoop,Sem.run_bind,hg,Result.andThen_ok,Array.empty_append,Sem.run_pure,hsz',if_false]
      · cases h
    · cases h
end
end
end Go.Proofs.Ytdaljohmfnfgiaa.Canon

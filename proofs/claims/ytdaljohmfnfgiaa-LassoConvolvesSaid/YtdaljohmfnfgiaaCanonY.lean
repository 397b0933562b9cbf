/- What the proof of this claim is made of. No condition. -/
import Derived.Test.YtdaljohmfnfgiaaCanonX
namespace Go.Proofs.Ytdaljohmfnfgiaa.Canon
open Go Go.RowKit
noncomputable section
variable (P : Program)
def sfin (fr : FF) (v : Value) : Option FF := match fr with
  | ⟨fn,s,todo,ds,.run,ro⟩ => match todo with
    | .inRegion ops (i :: rest) :: k => match nth ops.toList i with
      | some o => some ⟨fn,sput s o.dst v,.inRegion ops rest :: k,ds,.run,ro⟩
      | none => none
    | .inRangeFunc l :: k => some ⟨fn,s,.endRangeFunc l :: k,ds,.run,ro⟩
    | .beginRound :: k => some ⟨fn,s,k,ds,.run,ro⟩
    | _ => none
  | _ => none
theorem sfin_eq {fr fr1 : FF} {v : Value} (h : sfin fr v = some fr1) : fr.abs.finish v = fr1.abs := by
  unfold sfin at h
  split at h
  · split at h
    · split at h
      · rename_i o ho
        cases h
        rw [zCX] at ho
        simp only [FF.abs,Frame.finish,ho,Option.bind_some,zCA,fput_eq]
        cases o.dst <;> rfl
      · cases h
    · cases h; rfl
    · cases h; rfl
    · cases h
  · cases h
def senter (g : FuncId) (xs : Array Value) : Option FF := match nth P.funcs.toList g with
  | some fn => match fn.body with
    | some c => match Nat.ble xs.size fn.ntmps with
      | true => some ⟨g,⟨fn.ntmps,zDZ xs.toList 0 .leaf⟩,[.code c],[],.run,none⟩
      | false => none
    | none => none
  | none => none
variable {P}
theorem senter_eq {g : FuncId} {xs : Array Value} {fr : FF} (h : senter P g xs = some fr) : enterF P g xs = fr.abs ∧ Frame.enter P g xs .normal = fr.abs ∧ ∃ fn,P.funcs[g]? = some fn ∧ fn.body.isSome = true := by
  unfold senter at h
  split at h
  · rename_i fn hfn
    split at h
    · rename_i c hb
      split at h
      · rename_i hle
        cases h
        have e : enterF P g xs = FF.abs ⟨g,⟨fn.ntmps,zDZ xs.toList 0 .leaf⟩,[.code c],[],.run,none⟩ := by
          unfold enterF
          simp only [hfn,hb,FF.abs,sargs_abs (Nat.le_of_ble_eq_true hle)]
        refine ⟨e,by rw [← enterF_eq,e],fn,by rw [← zCX]; exact hfn,by rw [hb]; rfl⟩
      · cases h
    · cases h
  · cases h
variable (P)
def sleave (jump : Option Code) (fr : FF) (cs : List FF) (A : AHeap) : Option SSt :=
  match fr with
  | ⟨fn,T,td,ds,_,none⟩ => match jump with
    | none => some (⟨fn,T,td,ds,.returning,none⟩,cs,A)
    | some .ret => some (⟨fn,T,td,ds,.returning,none⟩,cs,A)
    | _ => none
  | ⟨_,_,_,_,_,some l⟩ => match arun P (Instr.endRound l jump) A,cs with
    | some (v,A1),c :: cs => match sfin c v with
      | some c => some (c,cs,A1)
      | none => none
    | _,_ => none
def scall (fr : FF) (cs : List FF) (A : AHeap) (f : Value) (args : Array Value) : Option SSt :=
  match f with
  | .func (.func g) first captured => match senter P g (first ++ args ++ captured) with
    | some f1 => some (f1,fr :: cs,A)
    | none => none
  | .func (.yield l) _ _ => match A.obj l with
    | some (.loop r) => match Nat.beq args.size r.params.size with
      | true => match (r.params.zip args).foldl (fun tmps (t,a) => tmps.setIfInBounds t a) r.tmps with
        | xs => some (⟨r.fn,⟨xs.size,zDZ xs.toList 0 .leaf⟩,[.code r.assign,.beginRound,.code r.body],[],.run,some l⟩,fr :: cs,A)
      | false => none
    | _ => none
  | _ => none
def sdone (fr : FF) (cs : List FF) (v : Value) (A : AHeap) : Option SSt := match sfin fr v with
  | some fr => some (fr,cs,A)
  | none => none
def soper (ops : Array Oper) (i : Nat) (fr : FF) (cs : List FF) (A : AHeap) : Option SSt :=
  match nth ops.toList i with
  | none => none
  | some o => match Region.wanted o (syielded ops fr.s) with
    | false => sdone fr cs undef A
    | true => match o.op with
      | .call ⟨.value f,args,_⟩ => match zAC f,args.toList.all zAC with
        | true,true => scall P fr cs A (zBP fr.s f) (args.map (zBP fr.s))
        | _,_ => none
      | _ => match zAE P (zBP fr.s) o A with
        | some (v,A1) => sdone fr cs v A1
        | none => none
variable {P}
theorem sleave_eq {jump : Option Code} {fr : FF} {cs : List FF} {A : AHeap} {s : SSt} (h : sleave P jump fr cs A = some s) : aleave P jump fr.abs (cs.map FF.abs) A = some (SSt.abs s) := by
  unfold sleave at h
  unfold aleave
  split at h
  · split at h
    · cases h; rfl
    · cases h; rfl
    · cases h
  · split at h
    · rename_i l _ _ v A1 c cs' hrun
      split at h
      · rename_i c1 hc
        cases h
        simp only [FF.abs,List.map_cons,hrun]
        have := sfin_eq hc
        simp only [FF.abs] at this
        rw [this]
        rfl
      · cases h
    · cases h
theorem scall_eq {fr : FF} {cs : List FF} {A : AHeap} {f : Value} {args : Array Value} {s : SSt} (h : scall P fr cs A f args = some s) : acall P fr.abs (cs.map FF.abs) A f args = some (SSt.abs s) := by
  unfold scall at h
  unfold acall
  split at h
  · split at h
    · rename_i f1 hf
      cases h
      obtain ⟨_,h2,fn,h3,h4⟩ := senter_eq hf
      simp only [h3,h4,h2]
      rfl
    · cases h
  · split at h
    · rename_i r hr
      split at h
      · rename_i hb
        cases h
        simp only [hr,hb]
        simp only [Frame.round,SSt.abs,FF.abs,List.map_cons]
        rw [sargs_abs (Nat.le_refl _)]
        simp
      · cases h
    · cases h
  · cases h
theorem soper_eq {ops : Array Oper} {i : Nat} {fr : FF} {cs : List FF} {A : AHeap} {s : SSt} (h : soper P ops i fr cs A = some s) : aoper P ops i fr.abs (cs.map FF.abs) A = some (SSt.abs s) := by
  have done : ∀ {v : Value} {A1 : AHeap},sdone fr cs v A1 = some s → some (fr.abs.finish v,cs.map FF.abs,A1) = some (SSt.abs s) := by
    intro v A1 hd
    unfold sdone at hd
    split at hd
    · rename_i hf; cases hd; rw [sfin_eq hf]; rfl
    · cases hd
  have hev : zBP fr.s = fr.abs.eval := by rw [zCY,← feval_eq]; rfl
  unfold soper at h
  unfold aoper
  rw [zCX] at h
  cases ho : ops[i]? with
  | none => rw [ho] at h; cases h
  | some o =>
    rw [ho] at h
    simp only [syielded_eq] at h
    simp only
    have hw : Region.wanted o (yielded ops fr.abs.tmps) = Region.wanted o (yielded ops (sabs fr.s)) := rfl
    rw [hw]
    split at h
    · rename_i hf; rw [hf]; exact done h
    · rename_i ht
      rw [ht]
      simp only
      split at h
      · rename_i hop
        rw [hop]
        simp only
        split at h
        · rename_i h1 h2
          simp only [h1,h2]
          rw [← hev]
          exact scall_eq h
        · cases h
      · rename_i hno
        split
        · rename_i hop; exact absurd hop (hno _ _ _)
        · rw [← hev]
          split at h
          · rename_i hx; rw [hx]; exact done h
          · cases h
end
end Go.Proofs.Ytdaljohmfnfgiaa.Canon

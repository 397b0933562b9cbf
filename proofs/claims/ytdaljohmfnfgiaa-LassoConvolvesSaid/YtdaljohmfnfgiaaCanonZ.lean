/- What the proof of this claim is made of. No condition. -/
import Derived.Test.YtdaljohmfnfgiaaCanonY
namespace Go.Proofs.Ytdaljohmfnfgiaa.Canon
open Go Go.RowKit
noncomputable section
variable (P : Program)
def scode (c : Code) (k : List Item) (fr : FF) (cs : List FF) (A : AHeap) : Option SSt := match fr with
  | ⟨fn,T,td,ds,m,ro⟩ => match c with
    | .ret => sleave P (some .ret) ⟨fn,T,td,ds,m,ro⟩ cs A
    | .skip => some (⟨fn,T,k,ds,m,ro⟩,cs,A)
    | .label _ => some (⟨fn,T,k,ds,m,ro⟩,cs,A)
    | .seq a b => some (⟨fn,T,.code a :: .code b :: k,ds,m,ro⟩,cs,A)
    | .cond c a b => match zAC c,zBP T c with
      | true,.bool true => some (⟨fn,T,.code a :: k,ds,m,ro⟩,cs,A)
      | true,.bool false => some (⟨fn,T,.code b :: k,ds,m,ro⟩,cs,A)
      | _,_ => none
    | .block id c => some (⟨fn,T,.code c :: .inBlock id :: k,ds,m,ro⟩,cs,A)
    | .loop c => some (⟨fn,T,.code c :: .inLoop c :: k,ds,m,ro⟩,cs,A)
    | .scope c => some (⟨fn,T,.code c :: .inScope c :: k,ds,m,ro⟩,cs,A)
    | .exit id => match exitTo id k with
      | some k' => some (⟨fn,T,k',ds,m,ro⟩,cs,A)
      | none => sleave P (some (.exit id)) ⟨fn,T,td,ds,m,ro⟩ cs A
    | .goto l => match gotoIn l k with
      | some k' => some (⟨fn,T,k',ds,m,ro⟩,cs,A)
      | none => sleave P (some (.goto l)) ⟨fn,T,td,ds,m,ro⟩ cs A
    | .rangeFunc f ps asg body => match zAC f,arun P (Instr.enterLoop fn (sabs T) ps asg body ro) A with
      | true,some ((l,mk),A1) => match zBP T f with
        | .func (.func g) first captured => scall P ⟨fn,T,.inRangeFunc l :: k,mk ++ ds,m,ro⟩ cs A1 (.func (.func g) first captured) #[.func (.yield l) #[] #[]]
        | _ => none
      | _,_ => none
    | .region _ ops false => some (⟨fn,T,.inRegion ops (List.range ops.size) :: k,ds,m,ro⟩,cs,A)
    | _ => none
def sitem (it : Item) (k : List Item) (fr : FF) (cs : List FF) (A : AHeap) : Option SSt := match it with
  | .code c => scode P c k fr cs A
  | .inRegion ops l => match l with
    | [] => match fr with
      | ⟨fn,T,_,ds,m,ro⟩ => some (⟨fn,T,k,ds,m,ro⟩,cs,A)
    | i :: _ => soper P ops i fr cs A
  | .inBlock _ => match fr with
    | ⟨fn,T,_,ds,m,ro⟩ => some (⟨fn,T,k,ds,m,ro⟩,cs,A)
  | .inScope _ => match fr with
    | ⟨fn,T,_,ds,m,ro⟩ => some (⟨fn,T,k,ds,m,ro⟩,cs,A)
  | .inLoop c => match fr with
    | ⟨fn,T,_,ds,m,ro⟩ => some (⟨fn,T,.code c :: .inLoop c :: k,ds,m,ro⟩,cs,A)
  | .beginRound => match fr.ro with
    | some l => match arun P (Instr.beginRound l) A with
      | some (_,A1) => sdone fr cs undef A1
      | none => none
    | none => none
  | .endRangeFunc l => match arun P (Instr.endLoop l) A with
    | some (jump,A1) => match fr with
      | ⟨fn,T,_,ds,m,ro⟩ => some (⟨fn,T,(jump.map Item.code).toList ++ k,ds,m,ro⟩,cs,A1)
    | none => none
  | _ => none
def zCK (f : Func) (s : Slots) (A : AHeap) : Option (Value × AHeap) := match f.results.toList with
  | [r] => match r with
    | .tmp t => some (sget s t,A)
    | _ => arun P (results f (sabs s)) A
  | _ => arun P (results f (sabs s)) A
def sreturn (fr : FF) (cs : List FF) (A : AHeap) : Option SSt := match fr.defers with
  | [] => match nth P.funcs.toList fr.fn,cs with
    | some f,c :: cs => match zCK P f fr.s A with
      | some (v,A1) => sdone c cs v A1
      | none => none
    | _,_ => none
  | { target := .collected b,.. } :: ds => match arun P (Instr.takeDeferred b) A with
    | some (calls,A1) => match fr with
      | ⟨fn,T,td,_,m,ro⟩ => some (⟨fn,T,td,calls ++ ds,m,ro⟩,cs,A1)
    | none => none
  | _ => none
def sStep (fr : FF) (cs : List FF) (A : AHeap) : Option SSt := match fr.mode with
  | .run => match fr.todo with
    | it :: k => sitem P it k fr cs A
    | [] => sleave P none fr cs A
  | .returning => sreturn P fr cs A
  | _ => none
variable {P}
theorem sget_getD (s : Slots) (t : Nat) : (sabs s).getD t undef = sget s t := by
  have := congrFun (zCY s) (.tmp t)
  simp only [zBP,feval,zCX] at this
  rw [this,Array.getD_eq_getD_getElem?]
theorem sresults_eq (f : Func) (s : Slots) (A : AHeap) : zCK P f s A = arun P (results f (sabs s)) A := by
  unfold zCK
  split
  · rename_i r hr
    split
    · rename_i t
      have : f.results = #[.tmp t] := by rw [← Array.toArray_toList (xs := f.results),hr]
      have h2 := sget_getD s t
      rw [Array.getD_eq_getD_getElem?] at h2
      simp [results,this,h2,arun]
    · rfl
  · rfl
theorem sdone_eq {fr : FF} {cs : List FF} {v : Value} {A1 : AHeap} {s : SSt} (hd : sdone fr cs v A1 = some s) : some (fr.abs.finish v,cs.map FF.abs,A1) = some (SSt.abs s) := by
  unfold sdone at hd
  split at hd
  · rename_i hf; cases hd; rw [sfin_eq hf]; rfl
  · cases hd
theorem sStep_eq {fr : FF} {cs : List FF} {A : AHeap} {s : SSt} (h : sStep P fr cs A = some s) : zDQ P fr.abs (cs.map FF.abs) A = some (SSt.abs s) := by
  obtain ⟨fn,T,td,ds,m,ro⟩ := fr
  have hev : zBP T = (FF.abs ⟨fn,T,td,ds,m,ro⟩).eval := by rw [zCY,← feval_eq]; rfl
  cases m with
  | run =>
    cases td with
    | nil =>
      have h : sleave P none ⟨fn,T,[],ds,.run,ro⟩ cs A = some s := h
      unfold zDQ
      simp only [FF.abs]
      exact sleave_eq h
    | cons it k =>
      cases it <;> simp only [sStep,sitem] at h <;> try (cases h; done)
      case code c =>
        cases c <;> simp only [scode] at h <;> try (cases h; done)
        case ret => exact sleave_eq h
        case skip => cases h; rfl
        case label => cases h; rfl
        case seq => cases h; rfl
        case block => cases h; rfl
        case loop => cases h; rfl
        case scope => cases h; rfl
        case cond c a b =>
          rw [hev] at h
          unfold zDQ
          simp only [FF.abs] at h ⊢
          split at h
          · rename_i h1 h2; cases h; simp only [h1,h2]; rfl
          · rename_i h1 h2; cases h; simp only [h1,h2]; rfl
          · cases h
        case exit id =>
          unfold zDQ
          simp only [FF.abs]
          split at h
          · rename_i he; cases h; simp only [he]; rfl
          · rename_i he; simp only [he]; exact sleave_eq h
        case goto l =>
          unfold zDQ
          simp only [FF.abs]
          split at h
          · rename_i he; cases h; simp only [he]; rfl
          · rename_i he; simp only [he]; exact sleave_eq h
        case rangeFunc f ps asg body =>
          rw [hev] at h
          unfold zDQ
          simp only [FF.abs] at h ⊢
          split at h
          · rename_i h1 h2
            split at h
            · rename_i h3
              simp only [h1,h2,h3]
              exact scall_eq h
            · cases h
          · cases h
        case region id ops draw =>
          cases draw
          · cases h; rfl
          · cases h
      case inRegion ops l =>
        cases l with
        | nil => cases h; rfl
        | cons i rest => exact soper_eq h
      case inBlock => cases h; rfl
      case inScope => cases h; rfl
      case inLoop => cases h; rfl
      case beginRound =>
        unfold zDQ
        simp only [FF.abs]
        split at h
        · simp only
          split at h
          · rename_i hr; simp only [hr]; exact sdone_eq h
          · cases h
        · cases h
      case endRangeFunc l =>
        unfold zDQ
        simp only [FF.abs]
        split at h
        · rename_i hr; cases h; simp only [hr]; rfl
        · cases h
  | returning =>
    simp only [sStep,sreturn] at h
    unfold zDQ
    simp only [FF.abs]
    split at h
    · split at h
      · rename_i f c cs' hf
        rw [zCX] at hf
        rw [sresults_eq] at h
        split at h
        · rename_i v A1 hr
          simp only [hf,List.map_cons,hr]
          exact sdone_eq h
        · cases h
      · cases h
    · split at h
      · rename_i hr; cases h; simp only [hr]; rfl
      · cases h
    · cases h
  | panicking c => cases h
end
end Go.Proofs.Ytdaljohmfnfgiaa.Canon

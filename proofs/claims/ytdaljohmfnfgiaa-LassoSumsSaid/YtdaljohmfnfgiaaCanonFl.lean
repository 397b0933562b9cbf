/- What the proof of this claim is made of. No condition. -/
import Derived.Test.YtdaljohmfnfgiaaCanonFk
namespace Go.Proofs.Ytdaljohmfnfgiaa.Canon
open Go Go.RowKit
noncomputable section
variable {P : Program}
section
variable {fn : FuncId} {td : List Item} {s : Slots} {ds : List Deferred} {A : AHeap} {Q : Post}
theorem Rn.label (hc : zAG P) {ro : Option Nat} {l : Nat} (h : Rn P fn ro td s ds A Q) : Rn P fn ro (.code (.label l) :: td) s ds A Q := h.step hc fun _ _ => rfl
theorem Rn.range (hc : zAG P) {f : Operand} {ps : Array Tmp} {asg body : Code} {g : FuncId} {first captured : Array Value} (hof : zBZ f = true) (hf : zBJ s f = .func (.func g) first captured)
    (h : Con P g (first.toList ++ [.func (.yield (A.next + 1)) #[] #[]] ++ captured.toList) ((A.push (.deferred (some []))).push (.loop { state := .ready,pending := none,fn,tmps := sabs s,params := ps,assign := asg,body,defers := A.next }))
      (fun _ A2 => ∃ j A3,arun P (Instr.endLoop (A.next + 1)) A2 = some (j,A3) ∧ Rn P fn none ((j.map Item.code).toList ++ td) s ({ target := .collected A.next,args := #[] } :: ds) A3 Q)) :
    Rn P fn none (.code (.rangeFunc f ps asg body) :: td) s ds A Q := by
  obtain ⟨v,A2,h1,j,A3,h2,h3⟩ := h
  have hen : arun P (Instr.enterLoop fn (sabs s) ps asg body none) A = some ((A.next + 1,[{ target := .collected A.next,args := #[] }]),(A.push (.deferred (some []))).push (.loop { state := .ready,pending := none,fn,tmps := sabs s,params := ps,assign := asg,body,defers := A.next })) := by
    simp [Instr.enterLoop,newObj,arun,AHeap.push]
  refine h3.leads fun N k cs => ?_
  obtain ⟨s1,g1,g2⟩ := (orc1_ok h1 N).call (orc1_yes (fi := first) (args := #[.func (.yield (A.next + 1)) #[] #[]]) (ca := captured) (by simp)) (FF.abs ⟨fn,s,.inRangeFunc (A.next + 1) :: (td ++ k),{ target := .collected A.next,args := #[] } :: ds,.run,none⟩) cs
  have hfin : (FF.abs ⟨fn,s,.inRangeFunc (A.next + 1) :: (td ++ k),{ target := .collected A.next,args := #[] } :: ds,.run,none⟩).finish v = FF.abs ⟨fn,s,.endRangeFunc (A.next + 1) :: (td ++ k),{ target := .collected A.next,args := #[] } :: ds,.run,none⟩ := sfin_eq rfl
  rw [hfin] at g2
  refine (zAA.step hc ?_).trans (g2.trans ?_)
  · have hev : zBJ s = (FF.abs ⟨fn,s,.code (.rangeFunc f ps asg body) :: (td ++ k),ds,.run,none⟩).eval := by rw [zCU,← feval_eq]; rfl
    rw [hev] at hf
    unfold zDY
    simp only [FF.abs] at hf g1 ⊢
    simp only [List.cons_append,hof,hen,hf]
    exact g1
  · have := lift_leads (P := P) (N := N) (s1 := ⟨fn,s,.endRangeFunc (A.next + 1) :: (td ++ k),{ target := .collected A.next,args := #[] } :: ds,.run,none⟩) (s2 := ⟨fn,s,(j.map Item.code).toList ++ (td ++ k),{ target := .collected A.next,args := #[] } :: ds,.run,none⟩) (A := A2) (A' := A3) (zAA.sstep hc (by simp [sStep,sitem,h2])) cs
    simpa [List.append_assoc] using this
end
end
end Go.Proofs.Ytdaljohmfnfgiaa.Canon

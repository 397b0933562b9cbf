/- What the proof of this claim is made of. No condition. -/
import Derived.Test.YtdaljohmfnfgiaaCanonFk
namespace Go.Proofs.Ytdaljohmfnfgiaa.Canon
open Go Go.RowKit
noncomputable section
variable {P : Program}
def YRet (P : Program) (l : Nat) (args : List Value) (A : AHeap) (v : Value) (A1 : AHeap) : Prop := ∀ (N : Kp) (fr : Frame) (cs : List Frame) (a b : Array Value),∃ s1,acall P fr cs A (.func (.yield l) a b) ⟨args⟩ = some s1 ∧ zAB P N (.any N) s1 (fr.finish v,cs,A1)
def YCon (P : Program) (l : Nat) (args : List Value) (A : AHeap) (Q : Value → AHeap → Prop) : Prop := ∃ v A1,YRet P l args A v A1 ∧ Q v A1
theorem YCon.mono {l : Nat} {args : List Value} {A : AHeap} {Q Q' : Value → AHeap → Prop} (h : YCon P l args A Q) (hQ : ∀ v A1,Q v A1 → Q' v A1) : YCon P l args A Q' := by
  obtain ⟨v,A1,h1,h2⟩ := h
  exact ⟨v,A1,h1,hQ _ _ h2⟩
section
variable {fn : FuncId} {td : List Item} {s : Slots} {ds : List Deferred} {A : AHeap} {Q : Post}
theorem Rn.label (hc : zAJ P) {ro : Option Nat} {l : Nat} (h : Rn P fn ro td s ds A Q) : Rn P fn ro (.code (.label l) :: td) s ds A Q := h.step hc fun _ _ => rfl
end
end
end Go.Proofs.Ytdaljohmfnfgiaa.Canon

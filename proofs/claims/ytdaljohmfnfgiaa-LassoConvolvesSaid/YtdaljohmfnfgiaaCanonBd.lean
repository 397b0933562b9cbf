/- What the proof of this claim is made of. No condition. -/
import Derived.Test.YtdaljohmfnfgiaaCanonBc
namespace Go.Proofs.Ytdaljohmfnfgiaa.Canon
open Go Go.RowKit
noncomputable section
variable {P : Program}
def GoesAt (P : Program) (N : Kp) (base : List Frame) (φ : Phi) (w : World) (fr' : Frame) (cs' : List Frame) (s : St) : Prop :=
  ∃ ψ fr1' cs1' w1,φ.le ψ ∧ FrR ψ s.1 fr1' ∧ CL ψ s.2.1 cs1' ∧ Sim N ψ s.2.2 w1 ∧ Kept N w w1 ∧ Steps P (lone fr' (cs' ++ base) w) (lone fr1' (cs1' ++ base) w1)
theorem Goes.at {N : Kp} {φ : Phi} {w : World} {fr' : Frame} {cs' : List Frame} {s : St} (h : Goes P N φ w fr' cs' s) (base : List Frame) : GoesAt P N base φ w fr' cs' s := by
  exact h base
theorem undef_eq {φ : Phi} {v : Value} (h : V φ undef v) : v = undef := by
  have e : undef = Value.tuple #[] := rfl
  rw [e] at h
  cases h
  rename_i xs' hx hx'
  have : xs' = #[] := by
    apply Array.eq_empty_of_size_eq_zero
    rw [← hx]; rfl
  rw [this]; rfl
theorem enter_rel {φ : Phi} {g : FuncId} {xs xs' : Array Value} (h : AR φ xs xs') : FrR φ (Frame.enter P g xs .normal) (Frame.enter P g xs' .normal) := by
  refine ⟨rfl,?_,.code _ .nil,.nil,rfl,rfl,rfl,rfl⟩
  simp only [Frame.enter]
  rw [← h.1]
  refine h.append ?_
  exact .of rfl fun i v hv => ⟨v,hv,by
    have := Array.mem_of_getElem? hv
    simp at this
    rw [this.2]; exact .undef φ⟩
theorem IL.one {φ : Phi} {c : Code} {l : List Item} (h : IL φ [.code c] l) : l = [.code c] := by
  cases h
  rename_i l' t
  cases t
  rfl
section
variable (P) (X : Oper → XF) (R : DR) (m n : Nat) (g : FuncId) (t : Tmp) (S0 : Slots) (A0 : AHeap) (R0 cond rest : Code) (ops : Array Oper) (o0 o1 : Oper) (arg : Operand)
end
end
end Go.Proofs.Ytdaljohmfnfgiaa.Canon

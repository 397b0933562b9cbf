/- What the proof of this claim is made of. No condition. -/
import Derived.Test.YtdaljohmfnfgiaaCanonP
namespace Go.Proofs.Ytdaljohmfnfgiaa.Canon
open Go Go.RowKit
noncomputable section
section
def nth {α : Type} : List α → Nat → Option α
  | [],_ => none
  | x :: _,0 => some x
  | _ :: l,n + 1 => nth l n
theorem nth_eq {α : Type} : ∀ (l : List α) (n : Nat),nth l n = l[n]?
  | [],_ => rfl
  | _ :: _,0 => rfl
  | _ :: l,n + 1 => by simp [nth,nth_eq l n]
theorem zCX {α : Type} (xs : Array α) (n : Nat) : nth xs.toList n = xs[n]? := by rw [nth_eq]; simp
def fput (T : Array Value) (d : Option Tmp) (v : Value) : Array Value := match d with
  | some d => ⟨T.toList.set d v⟩
  | none => T
theorem fput_eq (T : Array Value) (d : Option Tmp) (v : Value) : fput T d v = (match d with | some d => T.setIfInBounds d v | none => T) := by
  cases d with
  | none => rfl
  | some d => exact Array.ext' (by simp [fput])
def feval (T : Array Value) : Operand → Value
  | .tmp t => (nth T.toList t).getD undef
  | .const v => v
  | .global g => .pointer (some ⟨g,0,none⟩)
  | .func f => .func (.func f) #[] #[]
theorem feval_eq (fr : Frame) : feval fr.tmps = fr.eval := by
  funext x
  cases x <;> simp [feval,Frame.eval,zCX]
def fyielded (ops : Array Oper) (T : Array Value) (j : Nat) : Option Bool :=
  match ((nth ops.toList j).bind (·.dst)).bind (nth T.toList ·) with
  | some (.bool b) => some b
  | _ => none
theorem fyielded_eq (ops : Array Oper) (T : Array Value) : fyielded ops T = yielded ops T := by
  funext j
  simp only [fyielded,yielded,zCX]
  rfl
variable (P : Program)
end
end
end Go.Proofs.Ytdaljohmfnfgiaa.Canon

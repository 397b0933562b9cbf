/- What the proof of this claim is made of. No condition. -/
import Derived.Test.YtdaljohmfnfgiaaCanonFm
namespace Go.Proofs.Ytdaljohmfnfgiaa.Canon
open Go Go.RowKit
noncomputable section
variable {P : Program}
section
variable {ρ : Operand → Value} {d : Option Tmp} {ty : TypeId} {pos : String} {af : Array Edge} {gu : Option (Nat × Bool)} {A : AHeap}
def mxd (P : Program) (ats : Array TypeId) (ty : TypeId) (x y : Value) (A : AHeap) : Option (Value × AHeap) := match [x,y].all isNum with
  | true => arun P (Builtin.max_ ats ty #[x,y]) A
  | false => none
theorem mxd_int {ats : Array TypeId} {k : IntKind} {a b : Int} : mxd P ats ty (.int k a) (.int k b) A = some (.int k (max a b),A) := by
  have : (if a < b then b else a) = max a b := by by_cases hh : a < b <;> simp [hh] <;> omega
  simp [mxd,isNum,Builtin.max_,Builtin.max2,this]
end
end
end Go.Proofs.Ytdaljohmfnfgiaa.Canon

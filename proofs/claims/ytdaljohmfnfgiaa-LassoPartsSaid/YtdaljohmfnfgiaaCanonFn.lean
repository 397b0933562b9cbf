/- Shifts, bits, checks for nil, and conversions, in short. No condition. -/
import Derived.Test.YtdaljohmfnfgiaaCanonFm
namespace Go.Proofs.Ytdaljohmfnfgiaa.Canon
open Go Go.RowKit
noncomputable section
variable {P : Program}
section
variable {ρ : Operand → Value} {d : Option Tmp} {ty : TypeId} {pos : String} {af : Array Edge} {gu : Option (Nat × Bool)} {A : AHeap}
def mxd (P : Program) (ats : Array TypeId) (ty : TypeId) (x y : Value) (A : AHeap) : Option (Value × AHeap) := match [x, y].all isNum with
  | true => arun P (Builtin.max_ ats ty #[x, y]) A
  | false => none
theorem mxd_int {ats : Array TypeId} {k : IntKind} {a b : Int} : mxd P ats ty (.int k a) (.int k b) A = some (.int k (max a b), A) := by
  have : (if a < b then b else a) = max a b := by by_cases hh : a < b <;> simp [hh] <;> omega
  simp [mxd, isNum, Builtin.max_, Builtin.max2, this]
theorem ae_mxd {k : IntKind} {n : Int} {y : Tmp} {ats : Array TypeId} {s : Slots} : aexec P (seval s) ⟨d, .call ⟨.builtin .max, #[.const (.int k n), .tmp y], ats⟩, ty, pos, af, gu⟩ A = mxd P ats ty (.int k n) (sget s y) A := by
  have hcl : closedV (.int k n) = true := rfl
  simp only [aexec, Op.operands, Call.operands]
  simp [opnOK, hcl, abuiltin, mxd, sev_tmp, sev_const]
  rfl
end
end
end Go.Proofs.Ytdaljohmfnfgiaa.Canon

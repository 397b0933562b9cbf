/- What the proof of this claim is made of. No condition. -/
import Derived.Test.YtdaljohmfnfgiaaCanonFm
namespace Go.Proofs.Ytdaljohmfnfgiaa.Canon
open Go Go.RowKit
noncomputable section
variable {P : Program}
def shlI (k : IntKind) (a b : Int) : Int := k.wrap (a * 2 ^ (min b.toNat k.bits))
def shrI (k : IntKind) (a b : Int) : Int := a.fdiv (2 ^ (min b.toNat k.bits))
def xorI (k : IntKind) (a b : Int) : Int := k.wrap ((BitVec.ofInt k.bits a ^^^ BitVec.ofInt k.bits b).toNat : Nat)
theorem bin_shl (t : TypeId) (k yk : IntKind) (a b : Int) (h : 0 ≤ b) (A : AHeap) : bin P .shl t (.int k a) (.int yk b) A = some (.int k (shlI k a b),A) := by
  have : ¬ b < 0 := by omega
  simp [bin,zCL,binOp,Op.shift,this,shlI]
theorem bin_shr (t : TypeId) (k yk : IntKind) (a b : Int) (h : 0 ≤ b) (A : AHeap) : bin P .shr t (.int k a) (.int yk b) A = some (.int k (shrI k a b),A) := by
  have : ¬ b < 0 := by omega
  simp [bin,zCL,binOp,Op.shift,this,shrI]
theorem bin_xor (t : TypeId) (k : IntKind) (a b : Int) (A : AHeap) : bin P .xor t (.int k a) (.int k b) A = some (.int k (xorI k a b),A) := by
  simp [bin,zCL,binOp,Op.intBits,xorI]
theorem u64_rng (n : Int) : 0 ≤ IntKind.u64.wrap n ∧ IntKind.u64.wrap n ≤ 18446744073709551615 := by
  simp [IntKind.wrap,IntKind.bits,IntKind.signed]
  omega
theorem shrI_rng {a : Int} (h : 0 ≤ a) (b : Int) : 0 ≤ shrI .u64 a b ∧ shrI .u64 a b ≤ a := by
  unfold shrI
  rw [Int.fdiv_eq_ediv_of_nonneg _ (Int.le_of_lt (Int.pow_pos (by omega)))]
  exact ⟨Int.ediv_nonneg h (Int.le_of_lt (Int.pow_pos (by omega))),Int.ediv_le_self _ h⟩
section
variable {ρ : Operand → Value} {d : Option Tmp} {ty : TypeId} {pos : String} {af : Array Edge} {gu : Option (Nat × Bool)} {A : AHeap}
theorem zDU {x : Tmp} (h : anil (ρ (.tmp x)) = true) : zAL P ρ ⟨d,.nilCheck (.tmp x),ty,pos,af,gu⟩ A = some (ρ (.tmp x),A) := ae_nilCheck rfl h
theorem ae_cv {src dst : TypeId} {x : Tmp} : zAL P ρ ⟨d,.convert src dst (.tmp x),ty,pos,af,gu⟩ A = zCR P src dst (ρ (.tmp x)) A := by
  simp [zAL,Op.operands,zAF]
theorem cv_int {src dst : TypeId} {sd : TypeDesc} {k k0 : IntKind} {n : Int} (hs : P.underlying src = some sd) (hd : P.underlying dst = some (.int k)) : zCR P src dst (.int k0 n) A = some (.int k (k.wrap n),A) := by
  simp [zCR,hd,convert,Go.underlying,hs,Conv.intToInt]
def mxd (P : Program) (ats : Array TypeId) (ty : TypeId) (x y : Value) (A : AHeap) : Option (Value × AHeap) := match [x,y].all isNum with
  | true => arun P (Builtin.max_ ats ty #[x,y]) A
  | false => none
theorem mxd_int {ats : Array TypeId} {k : IntKind} {a b : Int} : mxd P ats ty (.int k a) (.int k b) A = some (.int k (max a b),A) := by
  have : (if a < b then b else a) = max a b := by by_cases hh : a < b <;> simp [hh] <;> omega
  simp [mxd,isNum,Builtin.max_,Builtin.max2,this]
theorem ae_mxd {k : IntKind} {n : Int} {y : Tmp} {ats : Array TypeId} {s : Slots} : zAL P (zBU s) ⟨d,.call ⟨.builtin .max,#[.const (.int k n),.tmp y],ats⟩,ty,pos,af,gu⟩ A = mxd P ats ty (.int k n) (sget s y) A := by
  have hcl : zCK (.int k n) = true := rfl
  simp only [zAL,Op.operands,Call.operands]
  simp [zAF,hcl,zDT,mxd,zAY,zAS]
  rfl
end
end
end Go.Proofs.Ytdaljohmfnfgiaa.Canon

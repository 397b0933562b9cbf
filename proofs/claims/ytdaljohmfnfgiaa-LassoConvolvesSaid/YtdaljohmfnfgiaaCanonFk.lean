/- What the proof of this claim is made of. No condition. -/
import Derived.Test.YtdaljohmfnfgiaaCanonFj
namespace Go.Proofs.Ytdaljohmfnfgiaa.Canon
open Go Go.RowKit
noncomputable section
variable {P : Program}
def cpd (P : Program) (t u ty : TypeId) (x y : Value) (A : AHeap) : Option (Value × AHeap) := arun P (Builtin.copy_ #[t,u] ty #[x,y]) A
theorem ae_cpd {ρ : Operand → Value} {d : Option Tmp} {ty : TypeId} {pos : String} {af : Array Edge} {gu : Option (Nat × Bool)} {A : AHeap} {t u : TypeId} {x y : Tmp} :
    zAE P ρ ⟨d,.call ⟨.builtin .copy,#[.tmp x,.tmp y],#[t,u]⟩,ty,pos,af,gu⟩ A = cpd P t u ty (ρ (.tmp x)) (ρ (.tmp y)) A := by
  simp [zAE,Op.operands,Call.operands,zAC,zDR,cpd]
theorem cpd_row {A : AHeap} {t u ty e : TypeId} {by' : Nat} (hel : elB P t = some (e,1,by')) {b o dl dc : Nat} {a : Option Addr} {sn sc : Nat} {l : List Value} (hl : l.length = Nat.min sn dl) (hr : Row A a l) (hn : a = none → sn = 0) {c : Array Value} {tt : TypeId} {f : Nat × Nat} {g : Bool} {z : Nat}
    (hd : look A.objs b = some ⟨.cells c tt f,g,z⟩) (hro : isRO g z = false) (hsz : o + l.length ≤ c.size) (hcell : l.all zBY = true) :
    ∃ A1 c',cpd P t u ty (.slice (some ⟨b,o,none⟩) dl dc) (.slice a sn sc) A = some (.int .i64 ((Nat.min sn dl : Nat) : Int),A1) ∧ Upd A b c' A1 ∧ c'.size = c.size ∧ ∀ i,c'[i]? = if o ≤ i ∧ i < o + l.length then l[i - o]? else c[i]? := by
  obtain ⟨hu,i,zz,hi,hzk,hzz,hzs,h1,rfl⟩ := elB_eq hel
  obtain ⟨A1,c',q1,q2,q3,q4⟩ := zCV hd hro hsz hcell
  refine ⟨A1,c',?_,q2,q3,q4⟩
  have hst : arun P (Go.storeCells ⟨b,o,none⟩ l) A = some ((),A1) := sts_run (i := 0) q1
  have hld : arun P (Builtin.firstCells 1 (Nat.min sn dl) (.slice a sn sc)) A = some (⟨l⟩,A) := by
    cases a with
    | none =>
      have h0 := hn rfl
      subst h0
      have : l = [] := List.length_eq_zero_iff.1 (by rw [hl]; exact Nat.zero_min _)
      subst this
      simp [Builtin.firstCells]
    | some x =>
      simp only [Builtin.firstCells,Nat.mul_one]
      rcases hr with h0 | ⟨b2,o2,e2,h2⟩
      · subst h0
        rw [← hl]
        simp [Go.loadCells,Go.loadCellsFrom]
      · cases e2
        have := zBB (P := P) (A := A) (a := ⟨b2,o2,none⟩) l.length 0 #[] l rfl (fun j hj => by
          rw [List.getElem?_eq_getElem hj,← h2 j hj]
          show A.cell _ = A.cell _
          congr 1
          unfold Addr.add
          by_cases hz : 0 + j = 0
          · have : j = 0 := by omega
            subst this
            simp
          · simp only [hz,if_false]
            simp)
        rw [← hl]
        simpa [Go.loadCells] using this
  unfold cpd Builtin.copy_
  simp [Go.underlying,hu,Builtin.lenOf,Go.sizeOf,Go.typeInfo,hi,h1,hld,hst,goInt]
end
end Go.Proofs.Ytdaljohmfnfgiaa.Canon

/- What the proof of this claim is made of. No condition. -/
import Derived.Test.YtdaljohmfnfgiaaCanonFn
namespace Go.Proofs.Ytdaljohmfnfgiaa.Canon
open Go Go.RowKit
noncomputable section
variable {P : Program}
theorem Rn.slots {fn : FuncId} {ro : Option Nat} {td : List Item} {s : Slots} {ds : List Deferred} {A : AHeap} {Q : Post} {I : Slots → Prop} (h0 : I s) (h : ∀ s,I s → Rn P fn ro td s ds A Q) : Rn P fn ro td s ds A Q := h s h0
end
end Go.Proofs.Ytdaljohmfnfgiaa.Canon

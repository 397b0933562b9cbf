/- Drawn regions that read, and write once at their end. No condition. -/
import Derived.Test.YtdaljohmfnfgiaaCanonFn
namespace Go.Proofs.Ytdaljohmfnfgiaa.Canon
open Go Go.RowKit
noncomputable section
variable {P : Program}
/-- What is known of the slots, and no more. -/
theorem Rn.slots {fn : FuncId} {ro : Option Nat} {td : List Item} {s : Slots} {ds : List Deferred} {A : AHeap} {Q : Post} {I : Slots → Prop} (h0 : I s) (h : ∀ s, I s → Rn P fn ro td s ds A Q) : Rn P fn ro td s ds A Q := h s h0
end
end Go.Proofs.Ytdaljohmfnfgiaa.Canon

/- Closed calls, run whole over slots that are kept in a tree. No condition. -/
import Derived.Test.YtdaljohmfnfgiaaCanonZ
namespace Go.Proofs.Ytdaljohmfnfgiaa.Canon
open Go Go.RowKit

noncomputable section
variable (P : Program)
abbrev Go2 := FF → List FF → AHeap → Option (FF × AHeap)

variable {P}

def Same (ih : Go2) (ih' : Go1) : Prop := ∀ fr cs A fr1 A1, ih fr cs A = some (fr1, A1) → ih' fr.abs (cs.map FF.abs) A = some (fr1.abs, A1)

end
end Go.Proofs.Ytdaljohmfnfgiaa.Canon

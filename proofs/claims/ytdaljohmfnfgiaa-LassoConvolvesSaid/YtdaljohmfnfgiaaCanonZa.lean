/- What the proof of this claim is made of. No condition. -/
import Derived.Test.YtdaljohmfnfgiaaCanonZ
namespace Go.Proofs.Ytdaljohmfnfgiaa.Canon
open Go Go.RowKit
noncomputable section
variable (P : Program)
variable {P}
end
end Go.Proofs.Ytdaljohmfnfgiaa.Canon

/- Closed calls, run whole over slots that are kept in a tree. No condition. -/
import Derived.Test.YtdaljohmfnfgiaaCanonZ
namespace Go.Proofs.Ytdaljohmfnfgiaa.Canon
open Go Go.RowKit

noncomputable section
variable (P : Program)
variable {P}

end
end Go.Proofs.Ytdaljohmfnfgiaa.Canon

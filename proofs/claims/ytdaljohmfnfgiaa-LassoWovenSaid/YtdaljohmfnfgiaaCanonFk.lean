/- What is copied into a row. No condition. -/
import Derived.Test.YtdaljohmfnfgiaaCanonFj
namespace Go.Proofs.Ytdaljohmfnfgiaa.Canon
open Go Go.RowKit
noncomputable section
variable {P : Program}
end
end Go.Proofs.Ytdaljohmfnfgiaa.Canon

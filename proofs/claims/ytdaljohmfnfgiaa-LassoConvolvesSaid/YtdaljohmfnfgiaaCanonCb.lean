/- What the proof of this claim is made of. No condition. -/
import Derived.Test.YtdaljohmfnfgiaaCanonCa
namespace Go.Proofs.Ytdaljohmfnfgiaa.Canon
open Go Go.RowKit
noncomputable section
variable {P : Program}
theorem RetOK.leads {N : Kp} {g : FuncId} {xs : Array Value} {A A1 : AHeap} {v : Value} (h : RetOK P N g xs A v A1) (fr : Frame) (cs : List Frame) : zAB P N (.any N) (Frame.enter P g xs .normal,fr :: cs,A) (fr.finish v,cs,A1) := by
  intro φ w fr' cs' _ h1 h2 h3 h4 base
  cases h2 with
  | cons hfr hcs =>
    rename_i c' l'
    obtain ⟨ψ,v',w1,k1,k2,k3,k4,k5⟩ := h φ w fr' h1 h3 h4 c' (l' ++ base)
    exact ⟨ψ,c'.finish v',l',w1,k1,(hfr.mono k1).finish k2,hcs.mono k1,k3,k4,k5⟩
end
end Go.Proofs.Ytdaljohmfnfgiaa.Canon

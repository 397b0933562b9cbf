/- What the proof of this claim is made of. No condition. -/
import Derived.Test.YtdaljohmfnfgiaaCanonCc
namespace Go.Proofs.Ytdaljohmfnfgiaa.Canon
open Go Go.RowKit
noncomputable section
variable {P : Program}
theorem ret_of_calls {g : FuncId} {xs : List Value} {A A1 : AHeap} {v : Value}
    (h : ∀ (N : Kp) (φ : Phi) (w : World) (xs' : Array Value),AR φ ⟨xs⟩ xs' → Sim N φ A w → KOK N w → Calls P g xs' w fun en w' => ∃ ψ v',en = .returned v' ∧ φ.le ψ ∧ V ψ v v' ∧ Sim N ψ A1 w' ∧ Kept N w w') (N : Kp) : RetOK P N g ⟨xs⟩ A v A1 := by
  intro φ w fr' hf hs hN c base
  obtain ⟨xs',hx,rfl⟩ := enter_inv hf
  obtain ⟨en,w',fr,⟨ψ,v',rfl,k1,k2,k3,k4⟩,hs',_,hl⟩ := h N φ w xs' hx hs hN (c :: base)
  exact ⟨ψ,v',w',k1,k2,k3,k4,Steps.trans hs' (.one (step_leave_returned hl))⟩
theorem Sim.below {N : Kp} {φ : Phi} {A : AHeap} {w w' : World} (hs : Sim N φ A w) (hb : Below w.heap.size w w') : Sim N φ A w' where
  fresh := hs.fresh
  base := fun b x e hx he => ⟨(hs.base b x e hx he).1,Nat.lt_of_lt_of_le (hs.base b x e hx he).2 hb.size⟩
  alive := fun b x hx => by
    obtain ⟨e,h1,h2,h3,h4⟩ := hs.alive b x hx
    exact ⟨e,h1,h2,h3,h4.mono (Phi.le_refl _) (hb.block _ (hs.base b x e hx h1).2)⟩
  inj := hs.inj
  res := hs.res
end
end Go.Proofs.Ytdaljohmfnfgiaa.Canon

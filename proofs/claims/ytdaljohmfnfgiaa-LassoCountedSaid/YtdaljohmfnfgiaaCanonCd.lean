/- Calls that a rule answers, and what is known from elsewhere of such a call. No condition. -/
import Derived.Test.YtdaljohmfnfgiaaCanonCc
namespace Go.Proofs.Ytdaljohmfnfgiaa.Canon
open Go Go.RowKit
noncomputable section
variable {P : Program}

/-- What answers some calls. -/
abbrev Rule := FuncId → List Value → AHeap → VR
def RuleOK (P : Program) (r : Rule) : Prop := ∀ {g : FuncId} {xs : List Value} {A : AHeap} {v : Value} {A1 : AHeap}, r g xs A = .yes v A1 → (∃ fn, P.funcs[g]? = some fn ∧ fn.body.isSome = true) ∧ ∀ N, RetOK P N g ⟨xs⟩ A v A1
/-- Two rules, one ahead of the other. -/
def rule2 (r s : Rule) : Rule := fun g xs A => match r g xs A with
  | .yes v A1 => .yes v A1
  | .no => s g xs A
theorem rule2_ok {r s : Rule} (hr : RuleOK P r) (hs : RuleOK P s) : RuleOK P (rule2 r s) := fun {g xs A v A1} h => by
  unfold rule2 at h
  split at h
  · rename_i v1 A2 h1
    cases h
    exact hr h1
  · exact hs h

def rul (r : Rule) (D : Orc) : Orc := fun f args A => match f with
  | .func fn first captured => match fn with
    | .func g => match r g (appR first.toList (appR args.toList captured.toList)) A with
      | .yes v A1 => .yes v A1
      | .no => D f args A
    | _ => D f args A
  | _ => D f args A
theorem rul_ok {N : Kp} {r : Rule} (hr : RuleOK P r) {D : Orc} (hD : OrcOK P N D) : OrcOK P N (rul r D) := by
  have rows : ∀ (first args captured : Array Value), (⟨appR first.toList (appR args.toList captured.toList)⟩ : Array Value) = first ++ args ++ captured := fun first args captured => by
    refine Array.ext' ?_
    simp [appR_eq]
  refine ⟨fun {g first xs captured A v A1} h => ?_, fun {f args A v A1} h fr cs => ?_⟩
  · unfold rul at h
    simp only at h
    split at h
    · rename_i v1 A2 ht
      cases h
      have := (hr ht).2 N
      rw [rows] at this
      exact this
    · exact hD.fn h
  · unfold rul at h
    split at h
    · rename_i fn first captured
      split at h
      · rename_i g
        split at h
        · rename_i v1 A2 ht
          cases h
          obtain ⟨⟨fn, g1, g2⟩, h2⟩ := hr ht
          have := h2 N
          rw [rows] at this
          exact ⟨_, by simp only [acall, g1, g2], this.leads fr cs⟩
        · exact hD.call h fr cs
      · exact hD.call h fr cs
    · exact hD.call h fr cs

/-- Calls are answered by a rule, by the table, or run by their parts. -/
def torcR (P : Program) (X : Oper → XF) (R : DR) (m : Nat) (r : Rule) (T : List TE) (n : Nat) : Orc := Nat.rec (motive := fun _ => Orc) bno (fun _ D => rul r (tab T (bstep P X R m D))) n
theorem torcR_ok (hc : NoCount P) (hx : P.follows .mixedOrders = true) {X : Oper → XF} {R : DR} (hX : XOK P X) (hR : DROK P R) {m : Nat} {r : Rule} (hr : RuleOK P r) {T : List TE} (hT : ∀ e ∈ T, EntOK P e) : ∀ n (N : Kp), OrcOK P N (torcR P X R m r T n) := by
  intro n
  induction n with
  | zero => intro N; exact ⟨fun h => (by cases h), fun h => (by cases h)⟩
  | succ n ih => intro N; exact rul_ok hr (tab_ok hT (bstep_ok hc hx ih hX hR))
theorem entOK_tabR (hc : NoCount P) (hx : P.follows .mixedOrders = true) {X : Oper → XF} {R : DR} (hX : XOK P X) (hR : DROK P R) {m n : Nat} {r : Rule} (hr : RuleOK P r) {T : List TE} (hT : ∀ e ∈ T, EntOK P e) {e : TE} (h : entB P X R m (torcR P X R m r T n) e = true) : EntOK P e := entOK_of hc hx hX hR (torcR_ok hc hx hX hR hr hT n) h
theorem calls_of_tabR (hc : NoCount P) (hx : P.follows .mixedOrders = true) {X : Oper → XF} {R : DR} (hX : XOK P X) (hR : DROK P R) {m n g : Nat} {r : Rule} (hr : RuleOK P r) {T : List TE} (hT : ∀ e ∈ T, EntOK P e) (h : btellsD P X R m (torcR P X R m r T n) g = true) (w : World) : Calls P g #[] w (fun e w' => e = .returned (.bool true) ∧ Below w.heap.size w w') := calls_of_btellsD hc hx hX hR (torcR_ok hc hx hX hR hr hT n) h w

/-- A call of which enough is known over any world. -/
theorem ret_of_calls {g : FuncId} {xs : List Value} {A A1 : AHeap} {v : Value}
    (h : ∀ (N : Kp) (φ : Phi) (w : World) (xs' : Array Value), AR φ ⟨xs⟩ xs' → Sim N φ A w → KOK N w → Calls P g xs' w fun en w' => ∃ ψ v', en = .returned v' ∧ φ.le ψ ∧ V ψ v v' ∧ Sim N ψ A1 w' ∧ Kept N w w') (N : Kp) : RetOK P N g ⟨xs⟩ A v A1 := by
  intro φ w fr' hf hs hN c base
  obtain ⟨xs', hx, rfl⟩ := enter_inv hf
  obtain ⟨en, w', fr, ⟨ψ, v', rfl, k1, k2, k3, k4⟩, hs', _, hl⟩ := h N φ w xs' hx hs hN (c :: base)
  exact ⟨ψ, v', w', k1, k2, k3, k4, Steps.trans hs' (.one (step_leave_returned hl))⟩

theorem Sim.below {N : Kp} {φ : Phi} {A : AHeap} {w w' : World} (hs : Sim N φ A w) (hb : Below w.heap.size w w') : Sim N φ A w' where
  fresh := hs.fresh
  base := fun b x e hx he => ⟨(hs.base b x e hx he).1, Nat.lt_of_lt_of_le (hs.base b x e hx he).2 hb.size⟩
  alive := fun b x hx => by
    obtain ⟨e, h1, h2, h3, h4⟩ := hs.alive b x hx
    exact ⟨e, h1, h2, h3, h4.mono (Phi.le_refl _) (hb.block _ (hs.base b x e hx h1).2)⟩
  inj := hs.inj
  res := hs.res

end
end Go.Proofs.Ytdaljohmfnfgiaa.Canon

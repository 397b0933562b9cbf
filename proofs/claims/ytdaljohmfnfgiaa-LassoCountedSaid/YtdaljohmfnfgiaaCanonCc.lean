/- Calls that a table answers may be known from elsewhere: from what is said of them over any world. No condition. -/
import Derived.Test.YtdaljohmfnfgiaaCanonCb
namespace Go.Proofs.Ytdaljohmfnfgiaa.Canon
open Go Go.RowKit
noncomputable section
variable {P : Program}

/-- The frame of a call that stands for one of the reckoned memory is that of arguments that stand for its. -/
theorem enter_inv {φ : Phi} {g : FuncId} {xs : Array Value} {fr' : Frame} (h : FrR φ (Frame.enter P g xs .normal) fr') : ∃ xs', AR φ xs xs' ∧ fr' = Frame.enter P g xs' .normal := by
  obtain ⟨fn', tm', td', ds', m', kd', ro'⟩ := fr'
  obtain ⟨h1, h2, h3, h4, h5, h6, h7, h8⟩ := h
  simp only [Frame.enter] at h1 h2 h3 h4 h5 h6 h7 h8
  subst h1 h5 h7
  have hro : ro' = none := h8
  have hds : ds' = [] := by cases h4; rfl
  have htd := IL.one h3
  subst hro hds htd
  generalize hn : ((P.funcs[fn']?).map (·.ntmps)).getD 0 - xs.size = n at h2
  have hsz : xs.size + n = tm'.size := by
    have := h2.1
    simpa using this
  refine ⟨tm'.extract 0 xs.size, .of (by simp; omega) fun i v hv => ?_, ?_⟩
  · have hi : i < xs.size := (Array.getElem?_eq_some_iff.1 hv).1
    obtain ⟨v', g1, g2⟩ := h2.get (i := i) (v := v) (by rw [Array.getElem?_append_left hi]; exact hv)
    refine ⟨v', ?_, g2⟩
    rw [Array.getElem?_extract]
    simp only [Nat.zero_add, Nat.sub_zero]
    rw [if_pos (by omega)]
    exact g1
  · have hes : (tm'.extract 0 xs.size).size = xs.size := by simp; omega
    simp only [Frame.enter, hes, hn]
    congr 1
    refine Array.ext_getElem? fun i => ?_
    by_cases hi : i < xs.size
    · rw [Array.getElem?_append_left (by omega), Array.getElem?_extract]
      simp only [Nat.zero_add, Nat.sub_zero]
      rw [if_pos (by omega)]
    · rw [Array.getElem?_append_right (by omega), hes, Array.getElem?_replicate]
      by_cases hi2 : i - xs.size < n
      · rw [if_pos hi2]
        obtain ⟨v', g1, g2⟩ := h2.get (i := i) (v := undef) (by
          rw [Array.getElem?_append_right (by omega), Array.getElem?_replicate, if_pos hi2])
        rw [g1, undef_eq g2]
      · rw [if_neg hi2]
        exact Array.getElem?_eq_none_iff.2 (by omega)

/-- A call of which enough is known over any world. -/
theorem entOK_calls {e : TE} {A1 : AHeap} (hb : ∃ fn, P.funcs[e.g]? = some fn ∧ fn.body.isSome = true)
    (h : ∀ (N : Kp) (φ : Phi) (w : World) (xs' : Array Value), AR φ ⟨e.xs⟩ xs' → Sim N φ e.mem w → KOK N w → Calls P e.g xs' w fun en w' => ∃ ψ v', en = .returned v' ∧ φ.le ψ ∧ V ψ e.v v' ∧ Sim N ψ A1 w' ∧ Kept N w w')
    (h1 : A1.next = e.n1) (h2 : e.objs.length ≤ e.n1) (h3 : ∀ k x, (k, x) ∈ e.outs → look A1.objs k = some x)
    (h4 : ∀ k x, look e.mem.objs k = some x → k ∉ e.gone → (∀ y, (k, y) ∉ e.outs) → look A1.objs k = some x) : EntOK P e := by
  refine ⟨hb, fun N => ⟨A1, ?_, h1, h2, h3, h4⟩⟩
  intro φ w fr' hf hs hN c base
  obtain ⟨xs', hx, rfl⟩ := enter_inv hf
  obtain ⟨en, w', fr, ⟨ψ, v', rfl, k1, k2, k3, k4⟩, hs', _, hl⟩ := h N φ w xs' hx hs hN (c :: base)
  exact ⟨ψ, v', w', k1, k2, k3, k4, Steps.trans hs' (.one (step_leave_returned hl))⟩

theorem closed1_only {φ : Phi} {v v' : Value} (h : closed1 v = true) (hv : V φ v v') : v' = v := by
  unfold closed1 at h
  split at h
  all_goals first
    | (cases h; done)
    | (cases hv; rfl)
theorem closed_only {φ : Phi} {xs : List Value} {xs' : Array Value} (h : xs.all closed1 = true) (hx : AR φ ⟨xs⟩ xs') : xs' = ⟨xs⟩ := by
  refine Array.ext_getElem? fun i => ?_
  cases hv : (⟨xs⟩ : Array Value)[i]? with
  | none => exact hx.get_none hv
  | some v =>
    obtain ⟨v', h1, h2⟩ := hx.get hv
    rw [h1, closed1_only ?_ h2]
    rw [List.all_eq_true] at h
    exact h v (List.mem_of_getElem? (by simpa using hv))
/-- A call without memory of which enough is known over any world. -/
theorem entOK_scalar {g : FuncId} {xs : List Value} {v : Value} (hb : ∃ fn, P.funcs[g]? = some fn ∧ fn.body.isSome = true) (hx : xs.all closed1 = true) (hv : closedV v = true)
    (h : ∀ w : World, Calls P g ⟨xs⟩ w fun e w' => e = .returned v ∧ Below w.heap.size w w') : EntOK P ⟨g, xs, [], v, 0, [], []⟩ := by
  refine entOK_calls (A1 := ⟨0, .leaf⟩) hb (fun N φ w xs' hr hs hN => ?_) rfl (Nat.le_refl _) (fun k x h => by cases h) (fun k x h => by
    rw [TE.look_mem] at h
    simp at h)
  rw [closed_only hx hr]
  refine (h w).mono fun e w' ⟨he, hbw⟩ => ⟨φ, v, he, Phi.le_refl _, closedV_V φ hv, ?_, hbw.os, hbw.tape, hbw.output, hbw.size, fun k hk => hbw.block k (hN k hk)⟩
  exact {
    fresh := hs.fresh
    base := fun b x e hb => by cases hb
    alive := fun b x hb => by cases hb
    inj := fun b b' x x' e e' _ hb => by cases hb
    res := hs.res }

end
end Go.Proofs.Ytdaljohmfnfgiaa.Canon

/- What is cut out of a slice, made with a length, copied, and cleared. No condition. -/
import Derived.Test.YtdaljohmfnfgiaaCanonFg
namespace Go.Proofs.Ytdaljohmfnfgiaa.Canon
open Go Go.RowKit
noncomputable section
variable {P : Program}

/-- A row of which some cells are written: its cells are others, and nothing else is. -/
structure Upd (A : AHeap) (b : Nat) (c' : Array Value) (A1 : AHeap) : Prop where
  next : A1.next = A.next
  at' : ∃ c t f g e, look A.objs b = some ⟨.cells c t f, g, e⟩ ∧ look A1.objs b = some ⟨.cells c' t f, g, e⟩ ∧ isRO g e = false
  off : ∀ b', b' ≠ b → look A1.objs b' = look A.objs b'
theorem Upd.cl {A A1 : AHeap} {b : Nat} {c' : Array Value} (h : Upd A b c' A1) (o : Nat) : Canon.cl A1 b o = c'[o]? := by
  obtain ⟨c, t, f, g, e, _, h2, h3⟩ := h.at'
  exact cl_of h2 h3
theorem Upd.nx {A A1 : AHeap} {b n : Nat} {c' : Array Value} (h : Upd A b c' A1) (hw : WF A) (hb : n ≤ b) : Nx n A A1 := by
  refine ⟨by rw [h.next]; exact Nat.le_refl _, fun b' x hx => ?_, fun b' hb' => h.off b' (by omega)⟩
  rw [h.next]
  by_cases hbb : b' = b
  · subst hbb
    obtain ⟨c, t, f, g, e, h1, _, _⟩ := h.at'
    exact hw _ _ h1
  · exact hw _ _ (by rw [← h.off b' hbb]; exact hx)
theorem st1_upd {A : AHeap} {b o : Nat} {v : Value} {c : Array Value} {t : TypeId} {f : Nat × Nat} {g : Bool} {e : Nat} (h : look A.objs b = some ⟨.cells c t f, g, e⟩) (hr : isRO g e = false) (ho : o < c.size) (hv : isCell v = true) :
    ∃ A1, st1 A b o v = some A1 ∧ Upd A b (c.setIfInBounds o v) A1 := by
  refine ⟨_, st1_of h hr ho hv, rfl, ⟨c, t, f, g, e, h, ?_, hr⟩, fun b' hb' => ?_⟩
  · rw [look_put, if_pos rfl, h]; rfl
  · rw [look_put, if_neg (fun hh => hb' hh.symm)]
/-- Several cells are written. -/
theorem sts_upd {b : Nat} {t : TypeId} {f : Nat × Nat} {g : Bool} {e : Nat} : ∀ {l : List Value} {A : AHeap} {o : Nat} {c : Array Value}, look A.objs b = some ⟨.cells c t f, g, e⟩ → isRO g e = false → o + l.length ≤ c.size → l.all isCell = true →
    ∃ A1 c', sts A b o l = some A1 ∧ Upd A b c' A1 ∧ c'.size = c.size ∧ ∀ i, c'[i]? = if o ≤ i ∧ i < o + l.length then l[i - o]? else c[i]? := by
  intro l
  induction l with
  | nil =>
    intro A o c h hr _ _
    refine ⟨A, c, rfl, ⟨rfl, ⟨c, t, f, g, e, h, h, hr⟩, fun _ _ => rfl⟩, rfl, fun i => ?_⟩
    rw [if_neg (by simp only [List.length_nil]; omega)]
  | cons v l ih =>
    intro A o c h hr hle hall
    simp only [List.length_cons] at hle
    simp only [List.all_cons, Bool.and_eq_true] at hall
    obtain ⟨A1, h1, hu⟩ := st1_upd (o := o) h hr (by omega) hall.1
    obtain ⟨c1, t1, f1, g1, e1, k1, k2, k3⟩ := hu.at'
    rw [h] at k1
    cases k1
    obtain ⟨A2, c2, q1, q2, q3, q4⟩ := ih (o := o + 1) k2 hr (by simp; omega) hall.2
    refine ⟨A2, c2, by simp only [sts, h1, q1], ⟨q2.next.trans hu.next, ?_, fun b' hb' => (q2.off b' hb').trans (hu.off b' hb')⟩, by rw [q3]; simp, fun i => ?_⟩
    · obtain ⟨c3, t3, f3, g3, e3, r1, r2, r3⟩ := q2.at'
      rw [k2] at r1
      cases r1
      exact ⟨c, t, f, g, e, h, r2, hr⟩
    · rw [q4 i]
      simp only [List.length_cons]
      by_cases a : i = o
      · subst a
        rw [if_neg (by omega), if_pos (by omega), Array.getElem?_setIfInBounds, if_pos rfl, if_pos (by omega)]
        simp
      · by_cases a2 : o + 1 ≤ i ∧ i < o + 1 + l.length
        · rw [if_pos a2, if_pos (by omega)]
          obtain ⟨k, rfl⟩ : ∃ k, i = o + 1 + k := ⟨i - (o + 1), by omega⟩
          rw [show o + 1 + k - (o + 1) = k by omega, show o + 1 + k - o = k + 1 by omega]
          simp
        · rw [if_neg a2, if_neg (by omega), Array.getElem?_setIfInBounds, if_neg (fun hh => a hh.symm)]

section
variable {ρ : Operand → Value} {d : Option Tmp} {ty : TypeId} {pos : String} {af : Array Edge} {gu : Option (Nat × Bool)} {A : AHeap}
end
end
end Go.Proofs.Ytdaljohmfnfgiaa.Canon

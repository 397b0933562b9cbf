/- What the proof of this claim is made of. No condition. -/
import Derived.Test.YtdaljohmfnfgiaaCanonFc
namespace Go.Proofs.Ytdaljohmfnfgiaa.Canon
open Go Go.RowKit
noncomputable section
variable {P : Program}
theorem Rn.zDY (hc : zAJ P) {fn : FuncId} {ro : Option Nat} {td : List Item} {ds : List Deferred} {c : Code} {Q : Post} {I : Nat → Slots → AHeap → Prop} {n : Nat} {s : Slots} {A : AHeap} (h0 : I n s A)
    (step : ∀ n s A,I n s A → (∀ m s' A',m < n → I m s' A' → Rn P fn ro (.inLoop c :: td) s' ds A' Q) → Rn P fn ro (.code c :: .inLoop c :: td) s ds A Q) : Rn P fn ro (.code (.loop c) :: td) s ds A Q := by
  refine Rn.loop hc ?_
  induction n using Nat.strongRecOn generalizing s A with
  | ind n ih => exact step n s A h0 fun m s' A' hm hI => Rn.inLoop hc (ih m hm hI)
def WF (A : AHeap) : Prop := ∀ b x,look A.objs b = some x → b < A.next
structure Nx (n : Nat) (A A' : AHeap) : Prop where
  next : A.next ≤ A'.next
  wf : WF A'
  keep : ∀ b,b < n → look A'.objs b = look A.objs b
theorem Nx.refl {A : AHeap} (h : WF A) (n : Nat) : Nx n A A := ⟨Nat.le_refl _,h,fun _ _ => rfl⟩
theorem Nx.trans {n : Nat} {A B C : AHeap} (h : Nx n A B) (k : Nx n B C) : Nx n A C := ⟨Nat.le_trans h.next k.next,k.wf,fun b hb => (k.keep b hb).trans (h.keep b hb)⟩
theorem Nx.le {n m : Nat} {A B : AHeap} (h : Nx n A B) (hm : m ≤ n) : Nx m A B := ⟨h.next,h.wf,fun b hb => h.keep b (Nat.lt_of_lt_of_le hb hm)⟩
theorem WF.none {A : AHeap} (h : WF A) {b : Nat} (hb : A.next ≤ b) : look A.objs b = none := by
  cases hl : look A.objs b with
  | none => rfl
  | some x => exact absurd (h b x hl) (Nat.not_lt_of_le hb)
theorem WF.push {A : AHeap} (h : WF A) (o : Obj) : WF (A.push o) := fun b x hx => by
  rw [look_push] at hx
  rw [push_next]
  split at hx
  · omega
  · exact Nat.lt_succ_of_lt (h b x hx)
theorem Nx.push {n : Nat} {A B : AHeap} (h : Nx n A B) (hn : n ≤ A.next) (o : Obj) : Nx n A (B.push o) :=
  ⟨Nat.le_succ_of_le h.next,h.wf.push o,fun b hb => by rw [look_push_ne (by have := h.next; omega)]; exact h.keep b hb⟩
theorem look_put {A : AHeap} {b : Nat} {o : Obj} {b' : Nat} {N : Nat} : look (⟨N,putO A.objs b o⟩ : AHeap).objs b' = if b = b' then (look A.objs b).map (fun x => { x with o := o }) else look A.objs b' := look_putO _ _ _ _
theorem Nx.cl {n : Nat} {A B : AHeap} (h : Nx n A B) {b : Nat} (hb : b < n) (o : Nat) : cl B b o = cl A b o := zBW (h.keep b hb)
theorem zAQ {k : IntKind} {j n : Nat} (h : j < n) : nlen (.int k (j : Int)) n = some j := by
  simp only [nlen]
  rw [if_pos ⟨by omega,by omega⟩]
  simp
theorem zAR (b o : Nat) : adr (.pointer (some ⟨b,o,none⟩)) = some (b,o) := rfl
theorem zBZ {k : Nat} (h : k < 9223372036854775807) : IntKind.i64.wrap ((k : Int) + 1) = ((k + 1 : Nat) : Int) := by
  rw [IntWalk.i64_in _ (by omega)]
  omega
theorem arow_of {A : AHeap} {b o : Nat} {l : List Value} (h : ∀ i (h : i < l.length),cl A b (o + i) = some l[i]) : arow A ⟨b,o,none⟩ l.length = some l := by
  cases hl : l with
  | nil => rfl
  | cons v m =>
    rw [← hl]
    have hpos : 0 < l.length := by rw [hl]; simp
    obtain ⟨n,hn⟩ : ∃ n,l.length = n + 1 := ⟨l.length - 1,by omega⟩
    have h0 := h 0 hpos
    obtain ⟨_,c,t,f,g,e,hlk,hc0,_⟩ := AHeap.cell_eq h0
    have hall : ∀ i (hi : i < l.length),c[o + i]? = some l[i] ∧ (isRO g e = true → roV e l[i] = true) := fun i hi => by
      obtain ⟨_,c',t',f',g',e',hlk',hc',hr'⟩ := AHeap.cell_eq (h i hi)
      simp only at hlk hlk'
      rw [hlk] at hlk'
      cases hlk'
      exact ⟨hc',hr'⟩
    have hsz : o + l.length ≤ c.size := by
      have := (hall n (by omega)).1
      have := (Array.getElem?_eq_some_iff.1 this).1
      omega
    have hrow : takeQ (n + 1) (dropQ o c.toList) = l := by
      rw [rowQ_eq]
      refine List.ext_getElem? fun i => ?_
      simp only [Array.getElem?_toList,Array.getElem?_extract]
      by_cases hi : i < l.length
      · rw [if_pos (by omega),(hall i hi).1,List.getElem?_eq_getElem hi]
      · rw [if_neg (by omega)]
        exact (List.getElem?_eq_none_iff.2 (by omega)).symm
    rw [hn]
    simp only at hlk
    have hble : Nat.ble (o + (n + 1)) c.size = true := Nat.ble_eq_true_of_le (by omega)
    simp only [arow,hlk,hble,hrow]
    cases hr : isRO g e with
    | false => rfl
    | true =>
      have : l.all (roV e) = true := by
        rw [List.all_eq_true]
        intro x hx
        obtain ⟨i,hi,rfl⟩ := List.mem_iff_getElem.1 hx
        exact (hall i hi).2 hr
      simp only [this]
end
end Go.Proofs.Ytdaljohmfnfgiaa.Canon

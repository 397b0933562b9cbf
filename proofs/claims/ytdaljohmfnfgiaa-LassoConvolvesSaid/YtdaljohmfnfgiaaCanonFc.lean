/- What the proof of this claim is made of. No condition. -/
import Derived.Test.YtdaljohmfnfgiaaCanonFb
namespace Go.Proofs.Ytdaljohmfnfgiaa.Canon
open Go Go.RowKit
noncomputable section
variable {P : Program}
def fx (P : Program) (ρ : Operand → Value) (o : Oper) (A : AHeap) : Option (Value × AHeap) := match o.op with
  | .move x => some (ρ x,A)
  | .assign x => some (ρ x,A)
  | .pick c a b => pck (ρ c) (ρ a) (ρ b) A
  | .box t x => some (.pointer (some ⟨A.next,0,none⟩),A.push (.cells (ρ x).cells t))
  | .alloc t => match zCG P t with
    | some z => some (.pointer (some ⟨A.next,0,none⟩),A.push (.cells z.cells t))
    | none => none
  | .load t x => ld P t (ρ x) A
  | .store t p x => str P t (ρ p) (ρ x) A
  | .fieldAddr t x f => fad P t (ρ x) f A
  | .indexAddr t x i => idx P t (ρ x) (ρ i) A
  | .binOp op t x y _ => bin P op t (ρ x) (ρ y) A
  | .extract x i => ext (ρ x) i A
  | .call ⟨.builtin .len,⟨[x]⟩,⟨[t]⟩⟩ => lng P t (ρ x) A
  | _ => zAE P ρ o A
def opsOK (l : List Oper) : Bool := l.all fun o => o.op.operands.toList.all zAC
theorem fx_ok {ρ : Operand → Value} {o : Oper} {A : AHeap} {r : Value × AHeap} (hop : o.op.operands.toList.all zAC = true) (h : fx P ρ o A = some r) : zAE P ρ o A = some r := by
  obtain ⟨d,op,ty,pos,af,gu⟩ := o
  unfold fx at h
  simp only at h hop
  split at h
  · simp only [Op.operands,List.all_cons,List.all_nil,Bool.and_true] at hop; rw [ae_move hop]; exact h
  · simp only [Op.operands,List.all_cons,List.all_nil,Bool.and_true] at hop; rw [ae_assign hop]; exact h
  · simp only [Op.operands,List.all_cons,List.all_nil,Bool.and_true,Bool.and_eq_true] at hop; rw [ae_pick hop]; exact h
  · simp only [Op.operands,List.all_cons,List.all_nil,Bool.and_true] at hop; rw [ae_box hop]; exact h
  · split at h
    · rename_i z hz; rw [ae_alloc hz]; exact h
    · cases h
  · simp only [Op.operands,List.all_cons,List.all_nil,Bool.and_true] at hop; exact ae_load hop h
  · simp only [Op.operands,List.all_cons,List.all_nil,Bool.and_true,Bool.and_eq_true] at hop; exact ae_store hop h
  · simp only [Op.operands,List.all_cons,List.all_nil,Bool.and_true] at hop; exact ae_field hop h
  · simp only [Op.operands,List.all_cons,List.all_nil,Bool.and_true,Bool.and_eq_true] at hop; exact ae_index hop h
  · simp only [Op.operands,List.all_cons,List.all_nil,Bool.and_true,Bool.and_eq_true] at hop; rw [ae_bin hop]; exact h
  · simp only [Op.operands,List.all_cons,List.all_nil,Bool.and_true] at hop; exact ae_extract hop h
  · simp only [Op.operands,Call.operands,List.all_cons,List.all_nil,Bool.and_true] at hop
    exact ae_len (by simpa using hop) h
  · exact h
theorem aexec_call {ρ : Operand → Value} {o : Oper} {A : AHeap} {f : Operand} {args : Array Operand} {ats : Array TypeId} {r : Value × AHeap} (e : o.op = .call ⟨.value f,args,ats⟩) (h : zAE P ρ o A = some r) : False := by
  unfold zAE at h
  rw [e] at h
  simp only at h
  split at h <;> cases h
def rops (P : Program) (ops : Array Oper) : List Oper → Slots → AHeap → Option (Slots × AHeap)
  | [],s,A => some (s,A)
  | o :: l,s,A => match zCM (gd ops o) s with
    | false => rops P ops l (sput s o.dst undef) A
    | true => match fx P (zBP s) o A with
      | some (v,A1) => rops P ops l (sput s o.dst v) A1
      | none => none
theorem Wo.rops (hc : zAJ P) {ops : Array Oper} {K : Slots → AHeap → Prop} : ∀ (l : List Oper) (i : Nat) (s : Slots) (A : AHeap) (s1 : Slots) (A1 : AHeap),(ops.toList.drop i).take l.length = l → opsOK l = true → rops P ops l s A = some (s1,A1) → Wo P ops (i + l.length) s1 A1 K → Wo P ops i s A K := by
  intro l
  induction l with
  | nil => intro i s A s1 A1 _ _ h h2; cases h; exact h2
  | cons o l ih =>
    intro i s A s1 A1 hl hok h h2
    have hok' : o.op.operands.toList.all zAC = true ∧ opsOK l = true := by simpa [opsOK] using hok
    have ho : nth ops.toList i = some o := by
      rw [nth_eq]
      have := congrArg (·[0]?) hl
      simp [List.getElem?_take] at this
      simpa using this
    have hl' : (ops.toList.drop (i + 1)).take l.length = l := by
      have := congrArg List.tail hl
      rw [List.tail_cons] at this
      rw [← this]
      cases hd : ops.toList.drop i with
      | nil =>
        rw [hd] at hl
        simp at hl
      | cons a m =>
        have : ops.toList.drop (i + 1) = m := by
          have := congrArg List.tail hd
          simpa using this
        rw [this]
        simp
    have h2' : Wo P ops (i + 1 + l.length) s1 A1 K := by
      rw [show i + 1 + l.length = i + (o :: l).length by simp; omega]
      exact h2
    simp only [Canon.rops] at h
    split at h
    · rename_i hw
      exact Wo.op hc bno_ok ho (.inl ⟨hw,rfl,rfl⟩) (ih _ _ _ _ _ hl' hok'.2 h h2')
    · rename_i hw
      split at h
      · rename_i v A2 hx
        have hx := fx_ok hok'.1 hx
        exact Wo.op hc bno_ok ho (.inr ⟨hw,.inr ⟨fun f args ats e => aexec_call e hx,hx⟩⟩) (ih _ _ _ _ _ hl' hok'.2 h h2')
      · cases h
theorem Wo.run (hc : zAJ P) (n : Nat) {ops : Array Oper} {i : Nat} {s : Slots} {A : AHeap} {K : Slots → AHeap → Prop} {l : List Oper} (hl : (ops.toList.drop i).take n = l) (hn : l.length = n) (hok : opsOK l = true)
    (h : ∃ p,Canon.rops P ops l s A = some p ∧ Wo P ops (i + n) p.1 p.2 K) : Wo P ops i s A K := by
  obtain ⟨⟨s1,A1⟩,h1,h2⟩ := h
  subst hn
  exact Wo.rops hc l i s A s1 A1 hl hok h1 h2
theorem Rn.reg (hc : zAJ P) {fn : FuncId} {ro : Option Nat} {td : List Item} {s : Slots} {ds : List Deferred} {A : AHeap} {Q : Post} {id : Nat} {l : List Oper} (hok : opsOK l = true)
    (h : ∃ p,Canon.rops P ⟨l⟩ l s A = some p ∧ Rn P fn ro td p.1 ds p.2 Q) : Rn P fn ro (.code (.region id ⟨l⟩ false) :: td) s ds A Q := by
  obtain ⟨⟨s1,A1⟩,h1,h2⟩ := h
  refine Rn.region hc fun K hK => ?_
  exact Wo.rops hc l 0 s A s1 A1 (by simp) hok h1 (Wo.done hc (by simp) (hK _ _ h2))
end
end Go.Proofs.Ytdaljohmfnfgiaa.Canon

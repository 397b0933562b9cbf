/- What the proof of this claim is made of. No condition. -/
import Derived.Test.YtdaljohmfnfgiaaCanonL
namespace Go.Proofs.Ytdaljohmfnfgiaa.Canon
open Go Go.RowKit
noncomputable section
section
variable {P : Program}
set_option maxHeartbeats 2000000 in
theorem Q.exec {φ : Phi} {ρ ρ' : Operand → Value} (o : Oper) (h : OpR φ ρ ρ') : Q P NR (zAE P ρ o) φ (execOp ρ' o) := by
  unfold zAE
  cases hops : o.op.operands.toList.all zAC with
  | false => exact Q.nope
  | true =>
    have hok : ∀ x ∈ o.op.operands,zAC x = true := by
      rw [List.all_eq_true] at hops
      exact fun x hx => hops x (by simpa using hx)
    clear hops
    obtain ⟨dst,op,ty,pos,after,guard⟩ := o
    simp only at hok ⊢
    unfold execOp
    cases op <;> simp only [Op.operands] at hok ⊢ <;> try exact Q.nope
    case move x => exact Q.same (h x (hok x (by simp)))
    case assign x => exact Q.same (h x (hok x (by simp)))
    case pick c a b =>
      have hc := h c (hok c (by simp))
      have ha := h a (hok a (by simp))
      have hb := h b (hok b (by simp))
      cases hv : ρ c <;> try exact Q.nope
      case bool t =>
        rw [hv] at hc
        cases hcc : ρ' c <;> rw [hcc] at hc <;> cases hc
        cases t
        · exact Q.same hb
        · exact Q.same ha
    case alloc t =>
      cases hz : zok P t with
      | false => exact Q.nope
      | true => exact Q.value (Q.alloc hz)
    case box t x => exact Q.value (Q.box (h x (hok x (by simp))) t)
    case build t ps =>
      cases hz : zok P t with
      | false => exact Q.nope
      | true => exact Q.value (Q.build hz (h.parts fun p hp => hok p.2 (by simp; exact ⟨p.1,hp⟩)))
    case buildSlice t n ps =>
      cases hu : P.underlying t with
      | none => exact Q.nope
      | some d =>
        cases d <;> try exact Q.nope
        case slice e =>
          cases hz : zok P e with
          | false => simp only [hz]; exact Q.nope
          | true => simp only [hz]; exact Q.value (Q.buildSlice hu hz n (h.parts fun p hp => hok p.2 (by simp; exact ⟨p.1,hp⟩)))
    case load t a => exact Q.value (Q.loadAt (h a (hok a (by simp))) t)
    case store t a x => exact Q.skip (Q.storeAt (h a (hok a (by simp))) (h x (hok x (by simp))) t)
    case nilCheck x =>
      have hx := h x (hok x (by simp))
      cases ha : anil (ρ x) with
      | false => exact Q.nope
      | true =>
        cases hv : ρ x <;> rw [hv] at ha hx <;> try (simp [anil] at ha)
        case pointer a =>
          cases a with
          | none => simp at ha
          | some a => cases hx' : ρ' x <;> rw [hx'] at hx <;> cases hx <;> exact Q.same (.ptr (by assumption))
        case func fn xs ys =>
          cases hx' : ρ' x <;> rw [hx'] at hx <;> cases hx
          · exact Q.same (.func _ (by assumption) (by assumption) (by assumption) (by assumption))
          · exact Q.same (.yield (by assumption))
    case binOp op t x y yt =>
      have hx := h x (hok x (by simp))
      have hy := h y (hok y (by simp))
      cases hp : zCF (ρ x) (ρ y) with
      | true =>
        refine Q.value ?_
        have hguard : ∀ w,(eqGuard op t x y (ρ' x) (ρ' y)).run P w = .ok () w := fun w => by
          cases hv : ρ x <;> cases hw : ρ y <;> rw [hv,hw] at hp <;> simp [zCF] at hp
          all_goals
            rw [hv] at hx
            rw [hw] at hy
            cases hv' : ρ' x <;> rw [hv'] at hx <;> cases hx
            cases hw' : ρ' y <;> rw [hw'] at hy <;> cases hy
            cases op <;> rfl
        intro N A w v A1 hs hN he
        obtain ⟨ψ,b,w1,g1,g2,g3,g4,g5⟩ := Q.binPlain op t hx hy hp N A w v A1 hs hN he
        exact ⟨ψ,b,w1,g1,g2,g3,by simp only [Sem.run_bind,hguard,Result.andThen_ok]; exact g4,g5⟩
      | false =>
        cases op <;> try exact Q.nope
        case eql =>
          refine Q.value ?_
          intro N A w v A1 hs hN he
          change ((aeql P t (ρ x) (ρ y)).map fun b => (Value.bool b,A)) = _ at he
          cases hq : aeql P t (ρ x) (ρ y) with
          | none => rw [hq] at he; cases he
          | some b =>
            rw [hq] at he
            cases he
            exact ⟨φ,_,w,Phi.le_refl _,.bool _,hs,aeql_run (.inl rfl) hq hx hy w,Kept.refl _ _⟩
        case neq =>
          refine Q.value ?_
          intro N A w v A1 hs hN he
          change ((aeql P t (ρ x) (ρ y)).map fun b => (Value.bool !b,A)) = _ at he
          cases hq : aeql P t (ρ x) (ρ y) with
          | none => rw [hq] at he; cases he
          | some b =>
            rw [hq] at he
            cases he
            exact ⟨φ,_,w,Phi.le_refl _,.bool _,hs,aeql_run (.inr rfl) hq hx hy w,Kept.refl _ _⟩
    case unOp op t x => exact Q.value (Q.unary op (h x (hok x (by simp))))
    case convert src dst x => exact Q.value (Q.conv src dst (h x (hok x (by simp))))
    case sliceToArrayPointer t x => exact Q.value (Q.arr t (h x (hok x (by simp))))
    case makeFunc fn first captured =>
      cases fn <;> try exact Q.nope
      case func f => exact Q.same (V.ofFunc f (h.map fun x hx => hok x (by simp [hx])) (h.map fun x hx => hok x (by simp [hx])))
    case makeMap t r =>
      cases r with
      | some r => exact Q.nope
      | none => exact Q.value (Q.makeMap t)
    case makeSlice t l c =>
      cases hu : P.underlying t with
      | none => exact Q.nope
      | some d =>
        cases d <;> try exact Q.nope
        case slice e =>
          cases hz : zok P e with
          | false => simp only [hz]; exact Q.nope
          | true => simp only [hz]; exact Q.value (Q.makeSlice hu hz (h l (hok l (by simp))) (h c (hok c (by simp))))
    case slice t x lo hi mx =>
      exact Q.value (Q.slice t (h x (hok x (by simp))) (h.opt fun y hy => hok y (by cases hy; simp)) (h.opt fun y hy => hok y (by cases hy; simp)) (h.opt fun y hy => hok y (by cases hy; simp)))
    case fieldAddr s x f => exact Q.value (Q.fieldAt (h x (hok x (by simp))) s f)
    case field t x f => exact Q.value (Q.field (h x (hok x (by simp))) t f)
    case indexAddr t x i => exact Q.value (Q.indexAt (h x (hok x (by simp))) (h i (hok i (by simp))) t)
    case index t x i => exact Q.value (Q.index (h x (hok x (by simp))) (h i (hok i (by simp))) t)
    case lookup t x i ok => exact Q.value (Q.get ok (h x (hok x (by simp))) (h i (hok i (by simp))))
    case mapUpdate t m k x => exact Q.skip (Q.put (h m (hok m (by simp))) (h k (hok k (by simp))) (h x (hok x (by simp))))
    case insert t m k x => exact Q.skip (Q.put (h m (hok m (by simp))) (h k (hok k (by simp))) (h x (hok x (by simp))))
    case mapEntry t m k => exact Q.value (Q.mentry (h m (hok m (by simp))) (h k (hok k (by simp))))
    case entryStore t m s x => exact Q.skip (Q.estore (h m (hok m (by simp))) (h s (hok s (by simp))) (h x (hok x (by simp))))
    case range t x => exact Q.value (Q.range t (h x (hok x (by simp))))
    case next it s =>
      cases s with
      | false => exact Q.nope
      | true => exact Q.value (Q.next ty (h it (hok it (by simp))))
    case extract t i => exact Q.value (Q.extract (h t (hok t (by simp))) i)
    case call c =>
      cases hc : c.callee with
      | value f => exact Q.nope
      | invoke r m => exact Q.nope
      | builtin b =>
        have hargs : AR φ (c.args.map ρ) (c.args.map ρ') := h.map fun x hx => hok x (by simp [Call.operands,hc,hx])
        have := Q.builtin (P := P) b c.argTypes ty (c.args.map fun | .const _ => true | _ => false) hargs
        simp only [resolve,hc,pure_bind,invoke]
        exact this
end
end
end Go.Proofs.Ytdaljohmfnfgiaa.Canon

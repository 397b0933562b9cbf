/- What the proof of this claim is made of. No condition. -/
import Derived.Test.YtdaljohmfnfgiaaCanonQ
import Derived.Orders
namespace Go.Proofs.Ytdaljohmfnfgiaa.Canon
open Go Go.RowKit
noncomputable section
section
variable {α β : Type} {P : Program}
def arunR (P : Program) : Sem α → AHeap → Option α
  | .pure a,_ => some a
  | .load _ a k,A => match A.cell a with
    | some v => arunR P (k v) A
    | none => none
  | .getObj r k,A => match A.obj r with
    | some o => arunR P (k o) A
    | none => none
  | .program k,A => arunR P (k P) A
  | .mark _ k,A => arunR P k A
  | _,_ => none
theorem zBM (s : Sem α) : ∀ (A : AHeap) (a : α),arunR P s A = some a → arun P s A = some (a,A) := by
  induction s with
  | pure a => intro A b h; simp only [arunR,zOi] at h; subst h; rfl
  | load m a k ih =>
    intro A b h
    simp only [arunR] at h
    simp only [arun]
    split at h
    · rename_i v hv; rw [hv]; exact ih v A b h
    · cases h
  | getObj r k ih =>
    intro A b h
    simp only [arunR] at h
    simp only [arun]
    split at h
    · rename_i v hv; rw [hv]; exact ih v A b h
    · cases h
  | program k ih => intro A b h; exact ih P A b h
  | mark m k ih => intro A b h; exact ih A b h
  | _ => intro A b h; simp [arunR] at h
theorem asl_same {t : TypeId} {x : Value} {lo hi mx : Option Value} {A : AHeap} {p : Value × AHeap} (h : asl P t x lo hi mx A = some p) : p = (p.1,A) := by
  unfold asl at h
  repeat' (split at h)
  all_goals first
    | (cases h; done)
    | (cases h; rfl)
theorem aget_same {t : TypeId} {m k : Value} {ok : Bool} {A : AHeap} {p : Value × AHeap} (h : aget P t m k ok A = some p) : p = (p.1,A) := by
  unfold aget at h
  repeat' (split at h)
  all_goals first
    | (cases h; done)
    | (cases h; rfl)
theorem aarr_same {t : TypeId} {v : Value} {A : AHeap} {p : Value × AHeap} (h : aarr P t v A = some p) : p = (p.1,A) := by
  unfold aarr at h
  repeat' (split at h)
  all_goals first
    | (cases h; done)
    | (cases h; rfl)
theorem acap_same {ats : Array TypeId} {xs : Array Value} {A : AHeap} {p : Value × AHeap} (h : acap P ats xs A = some p) : p = (p.1,A) := by
  unfold acap at h
  repeat' (split at h)
  all_goals first
    | (cases h; done)
    | (cases h; rfl)
def rconvert (P : Program) (src dst : TypeId) (x : Value) (A : AHeap) : Option Value :=
  match x with
  | .int _ _ => match P.underlying dst with
    | some (.int _) => arunR P (convert src dst x) A
    | some .string => arunR P (convert src dst x) A
    | _ => none
  | .string _ => match P.underlying dst with
    | some .string => arunR P (convert src dst x) A
    | _ => none
  | .slice _ _ _ => match P.underlying src,P.underlying dst with
    | some (.slice e),some .string => match P.underlying e with
      | some (.int .u8) => arunR P (convert src dst x) A
      | _ => none
    | _,_ => none
  | _ => none
theorem rconvert_ok {src dst : TypeId} {x : Value} {A : AHeap} {v : Value} (h : rconvert P src dst x A = some v) : aconvert P src dst x A = some (v,A) := by
  unfold rconvert at h
  unfold aconvert
  split at h
  · split at h
    · rename_i hd; simp only [hd]; exact zBM _ _ _ h
    · rename_i hd; simp only [hd]; exact zBM _ _ _ h
    · cases h
  · split at h
    · rename_i hd; simp only [hd]; exact zBM _ _ _ h
    · cases h
  · split at h
    · rename_i e hs hd
      split at h
      · rename_i he; simp only [hs,hd,he]; exact zBM _ _ _ h
      · cases h
    · cases h
  · cases h
def roexec (P : Program) (ρ : Operand → Value) (o : Oper) (A : AHeap) : Option Value :=
  match o.op.operands.toList.all zAC with
  | false => none
  | true => match o.op with
    | .move x => some (ρ x)
    | .assign x => some (ρ x)
    | .pick c a b => match ρ c with
      | .bool true => some (ρ a)
      | .bool false => some (ρ b)
      | _ => none
    | .build t ps => match zok P t with
      | true => arunR P (Instr.build t (ps.map fun (i,x) => (i,ρ x))) A
      | false => none
    | .load t a => arunR P (Instr.loadAt t (ρ a)) A
    | .nilCheck x => match anil (ρ x) with
      | true => some (ρ x)
      | false => none
    | .convert src dst x => rconvert P src dst (ρ x) A
    | .sliceToArrayPointer t x => (aarr P t (ρ x) A).map (·.1)
    | .binOp op t x y _ => match zCF (ρ x) (ρ y) with
      | true => arunR P (binOp op t (ρ x) (ρ y)) A
      | false => match op with
        | .eql => (aeql P t (ρ x) (ρ y)).map fun b => .bool b
        | .neq => (aeql P t (ρ x) (ρ y)).map fun b => .bool !b
        | _ => none
    | .unOp op _ x => arunR P (Op.unary op (ρ x)) A
    | .makeFunc (.func f) first captured => some (.func (.func f) (first.map ρ) (captured.map ρ))
    | .slice t x lo hi mx => (asl P t (ρ x) (lo.map ρ) (hi.map ρ) (mx.map ρ) A).map (·.1)
    | .fieldAddr s x f => arunR P (Instr.fieldAt s (ρ x) f) A
    | .field t x f => arunR P (Instr.field t (ρ x) f) A
    | .indexAddr t x i => arunR P (Instr.indexAt t (ρ x) (ρ i)) A
    | .index t x i => arunR P (Instr.index t (ρ x) (ρ i)) A
    | .lookup t x i ok => (aget P t (ρ x) (ρ i) ok A).map (·.1)
    | .extract t i => arunR P (Instr.extract (ρ t) i) A
    | .call c => match c.callee with
      | .builtin .len => arunR P (Builtin.len_ c.argTypes o.type (c.args.map ρ)) A
      | .builtin .min => match (c.args.map ρ).toList.all isNum with
        | true => arunR P (Builtin.min_ c.argTypes o.type (c.args.map ρ)) A
        | false => none
      | .builtin .max => match (c.args.map ρ).toList.all isNum with
        | true => arunR P (Builtin.max_ c.argTypes o.type (c.args.map ρ)) A
        | false => none
      | .builtin .cap => (acap P c.argTypes (c.args.map ρ) A).map (·.1)
      | _ => none
    | _ => none
theorem map_fst {p : Option (Value × AHeap)} {v : Value} {A : AHeap} (h : p.map (·.1) = some v) (hs : ∀ q,p = some q → q = (q.1,A)) : p = some (v,A) := by
  cases p with
  | none => cases h
  | some q => simp at h; subst h; rw [← hs q rfl]
set_option maxHeartbeats 1000000 in
theorem roexec_aexec {ρ : Operand → Value} {o : Oper} {A : AHeap} {v : Value} (h : roexec P ρ o A = some v) : zAE P ρ o A = some (v,A) := by
  unfold roexec at h
  unfold zAE
  split at h
  · cases h
  · rename_i hops
    rw [hops]
    simp only
    obtain ⟨dst,op,ty,pos,after,guard⟩ := o
    cases op <;> (try simp only at h) <;> (try simp only) <;> try (cases h; done)
    case move x => cases h; rfl
    case assign x => cases h; rfl
    case pick c a b =>
      split at h
      · rename_i hc; cases h; rw [hc]
      · rename_i hc; cases h; rw [hc]
      · cases h
    case build t ps =>
      split at h
      · rename_i hz; rw [hz]; exact zBM _ _ _ h
      · cases h
    case load t a => exact zBM _ _ _ h
    case convert src dst x => exact rconvert_ok h
    case sliceToArrayPointer t x => exact map_fst h fun q hq => aarr_same hq
    case nilCheck x =>
      split at h
      · rename_i hz; rw [hz]; cases h; rfl
      · cases h
    case binOp op t x y yt =>
      split at h
      · rename_i hp; rw [hp]; exact zBM _ _ _ h
      · rename_i hp
        rw [hp]
        cases op <;> try (cases h; done)
        all_goals
          simp only at h ⊢
          cases hq : aeql P t (ρ x) (ρ y) with
          | none => rw [hq] at h; cases h
          | some b => rw [hq] at h; cases h; rfl
    case unOp op t x => exact zBM _ _ _ h
    case makeFunc fn first captured =>
      cases fn <;> simp only at h ⊢ <;> try (cases h; done)
      case func f => cases h; rfl
    case slice t x lo hi mx => exact map_fst h fun q hq => asl_same hq
    case fieldAddr s x f => exact zBM _ _ _ h
    case field t x f => exact zBM _ _ _ h
    case indexAddr t x i => exact zBM _ _ _ h
    case index t x i => exact zBM _ _ _ h
    case lookup t x i ok => exact map_fst h fun q hq => aget_same hq
    case extract t i => exact zBM _ _ _ h
    case call c =>
      cases hc : c.callee with
      | value f => rw [hc] at h; cases h
      | invoke r m => rw [hc] at h; cases h
      | builtin b =>
        rw [hc] at h
        cases b <;> simp only [zDR] at h ⊢ <;> try (cases h; done)
        case len => exact zBM _ _ _ h
        case min =>
          split at h
          · rename_i hz; rw [hz]; exact zBM _ _ _ h
          · cases h
        case max =>
          split at h
          · rename_i hz; rw [hz]; exact zBM _ _ _ h
          · cases h
        case cap => exact map_fst h fun q hq => acap_same hq
set_option maxHeartbeats 1000000 in
theorem aexec_congr {ρ ρ' : Operand → Value} (o : Oper) (h : ∀ x ∈ o.op.operands,ρ x = ρ' x) (A : AHeap) : zAE P ρ o A = zAE P ρ' o A := by
  obtain ⟨dst,op,ty,pos,after,guard⟩ := o
  simp only at h
  have pairs : ∀ ps : Array (Nat × Operand),(∀ x ∈ ps.map (·.2),ρ x = ρ' x) → (ps.map fun (i,x) => (i,ρ x)) = (ps.map fun (i,x) => (i,ρ' x)) := fun ps hp =>
    Array.map_congr_left fun p hm => by
      obtain ⟨i,x⟩ := p
      simp only [hp x (Array.mem_map.2 ⟨(i,x),hm,rfl⟩)]
  unfold zAE
  cases op <;> simp only [Op.operands] at h ⊢
  case build t ps => rw [pairs ps fun x hx => h x (by simpa using hx)]
  case buildSlice t n ps => rw [pairs ps fun x hx => h x (by simpa using hx)]
  case makeFunc fn first captured =>
    have e1 : first.map ρ = first.map ρ' := Array.map_congr_left fun x hx => h x (by simp [hx])
    have e2 : captured.map ρ = captured.map ρ' := Array.map_congr_left fun x hx => h x (by simp [hx])
    cases fn <;> simp only [e1,e2]
  case makeMap t r => cases r <;> rfl
  case next it s => cases s <;> simp_all
  case call c =>
    have hargs : c.args.map ρ = c.args.map ρ' := Array.map_congr_left fun x hx => h x (by simp [Call.operands,hx])
    rw [hargs]
  case slice t x lo hi mx => cases lo <;> cases hi <;> cases mx <;> simp_all
  all_goals (first | rfl | (simp_all; done))
end
end
end Go.Proofs.Ytdaljohmfnfgiaa.Canon

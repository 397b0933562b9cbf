/- What the proof of this claim is made of. No condition. -/
import Derived.Test.YtdaljohmfnfgiaaCanonM
namespace Go.Proofs.Ytdaljohmfnfgiaa.Canon
open Go Go.RowKit
noncomputable section
section
variable {P : Program}
inductive IL (φ : Phi) : List Item → List Item → Prop
  | nil : IL φ [] []
  | code (c : Code) {l l' : List Item} (t : IL φ l l') : IL φ (.code c :: l) (.code c :: l')
  | inBlock (i : Nat) {l l' : List Item} (t : IL φ l l') : IL φ (.inBlock i :: l) (.inBlock i :: l')
  | inLoop (c : Code) {l l' : List Item} (t : IL φ l l') : IL φ (.inLoop c :: l) (.inLoop c :: l')
  | inScope (c : Code) {l l' : List Item} (t : IL φ l l') : IL φ (.inScope c :: l) (.inScope c :: l')
  | inRegion (ops : Array Oper) (todo : List Nat) {l l' : List Item} (t : IL φ l l') : IL φ (.inRegion ops todo :: l) (.inRegion ops todo :: l')
  | beginRound {l l' : List Item} (t : IL φ l l') : IL φ (.beginRound :: l) (.beginRound :: l')
  | inRange {b : Nat} {e : Ent} (h : φ b = some e) {l l' : List Item} (t : IL φ l l') : IL φ (.inRangeFunc b :: l) (.inRangeFunc e.blk :: l')
  | endRange {b : Nat} {e : Ent} (h : φ b = some e) {l l' : List Item} (t : IL φ l l') : IL φ (.endRangeFunc b :: l) (.endRangeFunc e.blk :: l')
theorem IL.mono {φ ψ : Phi} (h : φ.le ψ) {l l' : List Item} (hl : IL φ l l') : IL ψ l l' := by
  induction hl with
  | nil => exact .nil
  | code c _ ih => exact .code c ih
  | inBlock i _ ih => exact .inBlock i ih
  | inLoop c _ ih => exact .inLoop c ih
  | inScope c _ ih => exact .inScope c ih
  | inRegion o t _ ih => exact .inRegion o t ih
  | beginRound _ ih => exact .beginRound ih
  | inRange he _ ih => exact .inRange (h _ _ he) ih
  | endRange he _ ih => exact .endRange (h _ _ he) ih
inductive DL (φ : Phi) : List Deferred → List Deferred → Prop
  | nil : DL φ [] []
  | cons {b : Nat} {e : Ent} (h : φ b = some e) {l l' : List Deferred} (t : DL φ l l') : DL φ ({ target := .collected b,args := #[] } :: l) ({ target := .collected e.blk,args := #[] } :: l')
theorem DL.mono {φ ψ : Phi} (h : φ.le ψ) {l l' : List Deferred} (hl : DL φ l l') : DL ψ l l' := by
  induction hl with
  | nil => exact .nil
  | cons he _ ih => exact .cons (h _ _ he) ih
theorem DL.append {φ : Phi} {l l' m m' : List Deferred} (h : DL φ l l') (k : DL φ m m') : DL φ (l ++ m) (l' ++ m') := by
  induction h with
  | nil => exact k
  | cons he _ ih => exact .cons he ih
def RR (φ : Phi) : Option Nat → Option Nat → Prop
  | none,r => r = none
  | some l,r => ∃ e,φ l = some e ∧ r = some e.blk
theorem RR.mono {φ ψ : Phi} (h : φ.le ψ) {l l' : Option Nat} (hl : RR φ l l') : RR ψ l l' := by
  cases l with
  | none => exact hl
  | some l => obtain ⟨e,h1,h2⟩ := hl; exact ⟨e,h _ _ h1,h2⟩
structure FrR (φ : Phi) (fr fr' : Frame) : Prop where
  fn : fr'.fn = fr.fn
  tmps : AR φ fr.tmps fr'.tmps
  todo : IL φ fr.todo fr'.todo
  defers : DL φ fr.defers fr'.defers
  mode : fr'.mode = fr.mode
  kind : fr.kind = .normal
  kind' : fr'.kind = .normal
  round : RR φ fr.roundOf fr'.roundOf
theorem FrR.mono {φ ψ : Phi} (h : φ.le ψ) {fr fr' : Frame} (hf : FrR φ fr fr') : FrR ψ fr fr' :=
  ⟨hf.fn,hf.tmps.mono h,hf.todo.mono h,hf.defers.mono h,hf.mode,hf.kind,hf.kind',hf.round.mono h⟩
inductive CL (φ : Phi) : List Frame → List Frame → Prop
  | nil : CL φ [] []
  | cons {f f' : Frame} (h : FrR φ f f') {l l' : List Frame} (t : CL φ l l') : CL φ (f :: l) (f' :: l')
theorem CL.mono {φ ψ : Phi} (h : φ.le ψ) {l l' : List Frame} (hl : CL φ l l') : CL ψ l l' := by
  induction hl with
  | nil => exact .nil
  | cons hf _ ih => exact .cons (hf.mono h) ih
theorem FrR.eval {φ : Phi} {fr fr' : Frame} (h : FrR φ fr fr') : OpR φ fr.eval fr'.eval := fun x hx => by
  cases x with
  | tmp t => exact h.tmps.getD (V.undef φ) t
  | const v => exact closedV_V φ hx
  | global g => cases hx
  | func f => exact .ofFunc f (.nil φ) (.nil φ)
theorem yielded_eq {φ : Phi} {t t' : Array Value} (h : AR φ t t') (ops : Array Oper) (j : Nat) : yielded ops t' j = yielded ops t j := by
  unfold yielded
  cases hd : (ops[j]?).bind (·.dst) with
  | none => rfl
  | some d =>
    simp only [Option.bind_some]
    cases hv : t[d]? with
    | none => rw [h.get_none hv]
    | some v =>
      obtain ⟨v',h1,h2⟩ := h.get hv
      rw [h1]
      cases h2 <;> try rfl
      case any n h3 h4 => cases v' <;> first | rfl | exact absurd rfl (h4 _)
theorem wanted_eq {φ : Phi} {t t' : Array Value} (h : AR φ t t') (ops : Array Oper) (o : Oper) : Region.wanted o (yielded ops t') = Region.wanted o (yielded ops t) := by
  unfold Region.wanted
  split
  · rfl
  · rw [yielded_eq h]
theorem FrR.finish {φ : Phi} {fr fr' : Frame} (h : FrR φ fr fr') {v v' : Value} (hv : V φ v v') : FrR φ (fr.finish v) (fr'.finish v') := by
  obtain ⟨h1,h2,h3,h4,h5,h6,h7,h8⟩ := h
  obtain ⟨fn,tmps,todo,defers,mode,kind,ro⟩ := fr
  obtain ⟨fn',tmps',todo',defers',mode',kind',ro'⟩ := fr'
  simp only at h1 h2 h3 h4 h5 h6 h7 h8
  cases h3 with
  | inRegion ops l t =>
    cases l with
    | nil => exact ⟨h1,h2,.inRegion ops [] t,h4,h5,h6,h7,h8⟩
    | cons i l =>
      refine ⟨h1,?_,.inRegion ops l t,h4,h5,h6,h7,h8⟩
      simp only [Frame.finish]
      cases (ops[i]?).bind (·.dst) with
      | none => exact h2
      | some d => exact h2.set hv d
  | inRange he t => exact ⟨h1,h2,.endRange he t,h4,h5,h6,h7,h8⟩
  | beginRound t => exact ⟨h1,h2,t,h4,h5,h6,h7,h8⟩
  | nil => exact ⟨h1,h2,.nil,h4,h5,h6,h7,h8⟩
  | code c t => exact ⟨h1,h2,.code c t,h4,h5,h6,h7,h8⟩
  | inBlock i t => exact ⟨h1,h2,.inBlock i t,h4,h5,h6,h7,h8⟩
  | inLoop c t => exact ⟨h1,h2,.inLoop c t,h4,h5,h6,h7,h8⟩
  | inScope c t => exact ⟨h1,h2,.inScope c t,h4,h5,h6,h7,h8⟩
  | endRange he t => exact ⟨h1,h2,.endRange he t,h4,h5,h6,h7,h8⟩
theorem exitTo_rel {φ : Phi} (id : Nat) {l l' : List Item} (h : IL φ l l') : ∀ k,exitTo id l = some k → ∃ k',exitTo id l' = some k' ∧ IL φ k k' := by
  induction h with
  | nil => intro k hk; cases hk
  | inBlock i t ih =>
    intro k hk
    simp only [exitTo] at hk ⊢
    split at hk
    · rename_i hi; cases hk; rw [if_pos hi]; exact ⟨_,rfl,t⟩
    · rename_i hi; rw [if_neg hi]; exact ih k hk
  | _ => rename_i ih; intro k hk; exact ih k hk
theorem exitTo_none {φ : Phi} (id : Nat) {l l' : List Item} (h : IL φ l l') : exitTo id l = none → exitTo id l' = none := by
  induction h with
  | nil => intro _; rfl
  | inBlock i t ih =>
    intro hk
    simp only [exitTo] at hk ⊢
    split at hk
    · cases hk
    · rename_i hi; rw [if_neg hi]; exact ih hk
  | _ => rename_i ih; intro hk; exact ih hk
theorem gotoIn_rel {φ : Phi} (id : Nat) {l l' : List Item} (h : IL φ l l') : ∀ k,gotoIn id l = some k → ∃ k',gotoIn id l' = some k' ∧ IL φ k k' := by
  induction h with
  | nil => intro k hk; cases hk
  | inScope c t ih =>
    intro k hk
    simp only [gotoIn] at hk ⊢
    split at hk
    · rename_i rest hr; cases hk; exact ⟨_,rfl,.code _ (.inScope _ t)⟩
    · rename_i hr; exact ih k hk
  | _ => rename_i ih; intro k hk; exact ih k hk
theorem gotoIn_none {φ : Phi} (id : Nat) {l l' : List Item} (h : IL φ l l') : gotoIn id l = none → gotoIn id l' = none := by
  induction h with
  | nil => intro _; rfl
  | inScope c t ih =>
    intro hk
    simp only [gotoIn] at hk ⊢
    split at hk
    · cases hk
    · rename_i hr; exact ih hk
  | _ => rename_i ih; intro hk; exact ih hk
def LoopR (φ : Phi) (r r' : Loop) : Prop := OR φ (.loop r) (.loop r')
theorem Q.getLoop {φ : Phi} {l : Nat} {e : Ent} (h : φ l = some e) : QS P LoopR (Instr.getLoop l) φ (Instr.getLoop e.blk) :=
  Q.bind (Q.getObj h) fun ψ o o' _ ho => by
    cases o
    case loop r => cases o' <;> simp only [OR] at ho; exact Q.pure ho
    all_goals exact Q.dead fun A => by simp
theorem Q.beginRound {φ : Phi} {l : Nat} {e : Ent} (h : φ l = some e) : QS P EqR (Instr.beginRound l) φ (Instr.beginRound e.blk) := by
  refine Q.bind (Q.getLoop h) fun ψ r r' hl hr => ?_
  obtain ⟨h1,h2,h3,h4,h5,h6,h7,h8⟩ := hr
  refine Q.bind (Q.setObj (hl _ _ h) (o := .loop { r with state := .busy }) (o' := .loop { r' with state := .busy }) ⟨rfl,h2,h3,h4,h5,h6,h7,h8⟩) fun χ _ _ _ _ => ?_
  rw [← h1]
  cases r.state
  case ready => exact Q.pure rfl
  all_goals exact Q.dead fun A => by simp
theorem Q.endRound {φ : Phi} {l : Nat} {e : Ent} (h : φ l = some e) (jump : Option Code) : QS P V (Instr.endRound l jump) φ (Instr.endRound e.blk jump) := by
  refine Q.bind (Q.getLoop h) fun ψ r r' hl hr => ?_
  obtain ⟨h1,h2,h3,h4,h5,h6,h7,h8⟩ := hr
  refine Q.bind (Q.setObj (hl _ _ h) (o := .loop { r with state := if jump.isNone then .ready else .done,pending := jump }) (o' := .loop { r' with state := if jump.isNone then .ready else .done,pending := jump }) ⟨rfl,rfl,h3,h4,h5,h6,h7,h8⟩) fun χ _ _ _ _ => ?_
  exact Q.pure (.bool _)
theorem Q.endLoop {φ : Phi} {l : Nat} {e : Ent} (h : φ l = some e) : QS P EqR (Instr.endLoop l) φ (Instr.endLoop e.blk) := by
  refine Q.bind (Q.getLoop h) fun ψ r r' hl hr => ?_
  obtain ⟨h1,h2,h3,h4,h5,h6,h7,h8⟩ := hr
  have h1 : r.state = r'.state := h1
  rw [← h1]
  have fin : QS P EqR (do Go.setObj l (.loop { r with state := .exhausted }); Pure.pure r.pending) ψ (do Go.setObj e.blk (.loop { r' with state := .exhausted }); Pure.pure r'.pending) :=
    Q.bind (Q.setObj (hl _ _ h) (o := .loop { r with state := .exhausted }) (o' := .loop { r' with state := .exhausted }) ⟨rfl,h2,h3,h4,h5,h6,h7,h8⟩) fun χ _ _ _ _ => Q.pure h2
  by_cases hb : (r.state == .busy) = true
  · exact Q.dead fun A => by simp [hb]
  · simp only [hb]; exact fin
theorem Q.takeDeferred {φ : Phi} {b : Nat} {e : Ent} (h : φ b = some e) : QS P (fun _ a b => a = [] ∧ b = []) (Instr.takeDeferred b) φ (Instr.takeDeferred e.blk) := by
  refine Q.bind (Q.getObj h) fun ψ o o' hl ho => ?_
  cases o
  case deferred d =>
    cases o' <;> simp only [OR] at ho
    rcases ho with ⟨rfl,rfl⟩ | ⟨rfl,rfl⟩
    · exact Q.dead fun A => by simp
    · exact Q.bind (Q.setObj (hl _ _ h) (o := .deferred none) (o' := .deferred none) (.inl ⟨rfl,rfl⟩)) fun χ _ _ _ _ => Q.pure ⟨rfl,rfl⟩
  all_goals exact Q.dead fun A => by simp
theorem Q.enterLoop {φ : Phi} (fn : FuncId) {tmps tmps' : Array Value} (ht : AR φ tmps tmps') (params : Array Tmp) (assign body : Code) {around around' : Option Nat} (ha : RR φ around around') :
    QS P (fun ψ (p p' : Nat × List Deferred) => (∃ e,ψ p.1 = some e ∧ p'.1 = e.blk) ∧ DL ψ p.2 p'.2) (Instr.enterLoop fn tmps params assign body around) φ (Instr.enterLoop fn tmps' params assign body around') := by
  have fin : ∀ (ψ : Phi) (d : Nat) (e : Ent) (mk mk' : List Deferred),φ.le ψ → ψ d = some e → DL ψ mk mk' →
      QS P (fun ψ (p p' : Nat × List Deferred) => (∃ e,ψ p.1 = some e ∧ p'.1 = e.blk) ∧ DL ψ p.2 p'.2)
        (do let r ← Go.newObj (.loop { state := .ready,pending := none,fn,tmps,params,assign,body,defers := d }); Pure.pure (r,mk)) ψ
        (do let r ← Go.newObj (.loop { state := .ready,pending := none,fn,tmps := tmps',params,assign,body,defers := e.blk }); Pure.pure (r,mk')) := by
    intro ψ d e mk mk' hl h1 h3
    refine Q.bind (Q.newObj (o := .loop { state := .ready,pending := none,fn,tmps,params,assign,body,defers := d }) (o' := .loop { state := .ready,pending := none,fn,tmps := tmps',params,assign,body,defers := e.blk })
      ⟨rfl,rfl,rfl,ht.mono hl,rfl,rfl,rfl,e,h1,rfl⟩) fun χ r r' hc hr => ?_
    obtain ⟨e',k1,_,rfl⟩ := hr
    exact Q.pure ⟨⟨e',k1,rfl⟩,h3.mono hc⟩
  unfold Instr.enterLoop
  cases around with
  | none =>
    cases ha
    refine Q.bind (Q.newObj (o := .deferred (some [])) (o' := .deferred (some [])) (.inr ⟨rfl,rfl⟩)) fun ψ r r' hl hr => ?_
    obtain ⟨e,h1,_,rfl⟩ := hr
    exact fin ψ r e _ _ hl h1 (.cons h1 .nil)
  | some l =>
    obtain ⟨e,h1,rfl⟩ := ha
    refine Q.bind (Q.getLoop h1) fun ψ r r' hl hr => ?_
    obtain ⟨_,_,_,_,_,_,_,e',h8,h9⟩ := hr
    have := fin ψ r.defers e' [] [] hl h8 .nil
    rw [← h9] at this
    exact this
theorem Q.mapMR {ι : Type} {f g : ι → Sem Value} (l : List ι) : ∀ {φ : Phi},(∀ ψ x,φ.le ψ → x ∈ l → QS P V (f x) ψ (g x)) → QS P LR (l.mapM f) φ (l.mapM g) := by
  induction l with
  | nil => intro φ _; simp only [List.mapM_nil]; exact Q.pure .nil
  | cons x l ih =>
    intro φ h
    simp only [List.mapM_cons]
    refine Q.bind (h φ x (Phi.le_refl _) (by simp)) fun ψ v v' hl hv => ?_
    refine Q.bind (ih fun χ y hc hy => h χ y (Phi.le_trans hl hc) (by simp [hy])) fun χ vs vs' hc hvs => Q.pure (.cons (hv.mono hc) hvs)
theorem Q.results {φ : Phi} (fn : Func) {tmps tmps' : Array Value} (ht : AR φ tmps tmps') : QS P V (Go.results fn tmps) φ (Go.results fn tmps') := by
  unfold Go.results
  refine Q.bind (R := AR) ?_ fun ψ vs vs' _ hvs => ?_
  · rw [← Array.toArray_toList (xs := fn.results)]
    simp only [List.mapM_toArray]
    have := Q.mapMR (P := P) (φ := φ) (f := fun | .tmp t => Pure.pure (tmps.getD t undef) | .cell a t => do Go.loadVar t (← Go.asAddr (tmps.getD a undef))) (g := fun | .tmp t => Pure.pure (tmps'.getD t undef) | .cell a t => do Go.loadVar t (← Go.asAddr (tmps'.getD a undef))) fn.results.toList (fun ψ x hl _ => by
      have ht := ht.mono hl
      cases x with
      | tmp t => exact Q.pure (ht.getD (V.undef ψ) t)
      | cell a t => exact Q.bind (Q.asAddr (ht.getD (V.undef ψ) a)) fun _ _ _ _ ha => Q.loadVar ha t)
    rw [← bind_pure_comp,← bind_pure_comp]
    exact Q.bind this fun ψ l l' _ hl => Q.pure hl.array
  · by_cases h1 : vs.size = 1
    · have h1' : vs'.size = 1 := by rw [← hvs.1]; exact h1
      simp only [h1,h1',dif_pos]
      exact Q.pure (hvs.2 0 (by omega) (by omega))
    · have h1' : ¬ vs'.size = 1 := by rw [← hvs.1]; exact h1
      simp only [h1,h1',dif_neg,zNf]
      exact Q.pure (.ofTuple hvs)
end
end
end Go.Proofs.Ytdaljohmfnfgiaa.Canon

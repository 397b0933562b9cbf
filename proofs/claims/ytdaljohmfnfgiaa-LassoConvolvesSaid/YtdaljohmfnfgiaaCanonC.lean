/- What the proof of this claim is made of. No condition. -/
import Derived.Test.YtdaljohmfnfgiaaCanonB
import Derived.Laws.Sem
namespace Go.Proofs.Ytdaljohmfnfgiaa.Canon
open Go Go.RowKit
noncomputable section
section
variable {α β γ δ : Type} (P : Program)
theorem arun_bind' (s : Sem α) (f : α → Sem γ) : ∀ A,arun P (s.bind f) A = (arun P s A).bind fun p => arun P (f p.1) p.2 := by
  induction s with
  | pure a => intro A; rfl
  | load m a k ih => intro A; simp only [Sem.bind,arun]; split <;> simp [ih]
  | store m a v k ih => intro A; simp only [Sem.bind,arun]; split <;> simp [ih]
  | new o k ih => intro A; simp only [Sem.bind,arun]; simp [ih]
  | shape r k ih => intro A; rfl
  | freeze a n k ih => intro A; rfl
  | frozen a k ih => intro A; rfl
  | getObj r k ih => intro A; simp only [Sem.bind,arun]; split <;> simp [ih]
  | setObj r o k ih => intro A; simp only [Sem.bind,arun]; split <;> simp [ih]
  | choose q k ih => intro A; simp only [Sem.bind,arun]; split <;> simp [ih]
  | sys c k ih => intro A; rfl
  | program k ih => intro A; simp only [Sem.bind,arun]; simp [ih]
  | mark m k ih => intro A; simp only [Sem.bind,arun]; simp [ih]
  | halt h => intro A; rfl
@[simp] theorem zBV (s : Sem α) (f : α → Sem γ) (A : AHeap) : arun P (s >>= f) A = (arun P s A).bind fun p => arun P (f p.1) p.2 := arun_bind' P s f A
@[simp] theorem arun_map (s : Sem α) (f : α → γ) (A : AHeap) : arun P (f <$> s) A = (arun P s A).map fun p => (f p.1,p.2) := by
  rw [← bind_pure_comp,zBV]; cases arun P s A <;> rfl
@[simp] theorem zBK (a : α) (A : AHeap) : arun P (pure a) A = some (a,A) := rfl
@[simp] theorem arun_pure' (a : α) (A : AHeap) : arun P (Sem.pure a) A = some (a,A) := rfl
@[simp] theorem arun_halt (h : Halt) (A : AHeap) : arun P (Sem.halt h : Sem α) A = none := rfl
@[simp] theorem arun_stuck (s : String) (A : AHeap) : arun P (stuck s : Sem α) A = none := rfl
@[simp] theorem arun_unsupported (u : Unsupported) (A : AHeap) : arun P (unsupported u : Sem α) A = none := rfl
@[simp] theorem arun_goPanic (v : Value) (A : AHeap) : arun P (goPanic v : Sem α) A = none := rfl
@[simp] theorem zBC (A : AHeap) : arun P program A = some (P,A) := rfl
@[simp] theorem arun_frozen (a : Addr) (A : AHeap) : arun P (frozen a) A = none := rfl
@[simp] theorem arun_shape (r : Nat) (A : AHeap) : arun P (shape r) A = none := rfl
@[simp] theorem arun_mark (m : Mark) (A : AHeap) : arun P (mark m) A = some ((),A) := rfl
@[simp] theorem arun_ite (c : Prop) [Decidable c] (x y : Sem α) (A : AHeap) : arun P (if c then x else y) A = if c then arun P x A else arun P y A := by split <;> rfl
@[simp] theorem arun_askRoom (n : Nat) (A : AHeap) : arun P (askRoom n) A = some ((),A) := by unfold askRoom; split <;> rfl
@[simp] theorem arun_runtimePanic (e : RuntimeError) (A : AHeap) : arun P (runtimePanic e : Sem α) A = none := by
  cases e <;> simp [runtimePanic,elemOf,newVar,newRow,newObj,underlying]
  all_goals
    split <;> simp
    try (split <;> simp)
@[simp] theorem arun_boundsPanic (k : IntKind) (x y : Int) (c : BoundsCode) (A : AHeap) : arun P (boundsPanic k x y c : Sem α) A = none := by
  unfold boundsPanic
  split
  · simp [choose,arun,Question.forced]
  · simp
def Q (R : Phi → α → β → Prop) (c : AHeap → Option (α × AHeap)) (φ : Phi) (t : Sem β) : Prop :=
  ∀ N A w a A1,Sim N φ A w → KOK N w → c A = some (a,A1) → ∃ ψ b w1,φ.le ψ ∧ R ψ a b ∧ Sim N ψ A1 w1 ∧ t.run P w = .ok b w1 ∧ Kept N w w1
abbrev QS (R : Phi → α → β → Prop) (s : Sem α) (φ : Phi) (t : Sem β) : Prop := Q P R (arun P s) φ t
def EqR : Phi → α → α → Prop := fun _ a b => a = b
variable {P}
theorem Q.pure {R : Phi → α → β → Prop} {φ : Phi} {a : α} {b : β} (h : R φ a b) : QS P R (Pure.pure a) φ (Pure.pure b) := by
  intro N A w a' A1 hs hN he
  simp at he
  obtain ⟨rfl,rfl⟩ := he
  exact ⟨φ,b,w,Phi.le_refl _,h,hs,rfl,Kept.refl _ _⟩
theorem Q.dead {R : Phi → α → β → Prop} {φ : Phi} {s : Sem α} {t : Sem β} (h : ∀ A,arun P s A = none) : QS P R s φ t := by
  intro N A w a' A1 hs hN he; rw [h A] at he; cases he
theorem Q.bind {R : Phi → α → β → Prop} {S : Phi → γ → δ → Prop} {φ : Phi} {s : Sem α} {t : Sem β} {f : α → Sem γ} {g : β → Sem δ} (h : QS P R s φ t)
    (hk : ∀ ψ a b,φ.le ψ → R ψ a b → QS P S (f a) ψ (g b)) : QS P S (s >>= f) φ (t >>= g) := by
  intro N A w c A1 hs hN he
  rw [zBV] at he
  cases hr : arun P s A with
  | none => rw [hr] at he; cases he
  | some p =>
    rw [hr] at he
    obtain ⟨a,A2⟩ := p
    obtain ⟨ψ,b,w1,h1,h2,h3,h4,h5⟩ := h N A w a A2 hs hN hr
    obtain ⟨χ,d,w2,k1,k2,k3,k4,k5⟩ := hk ψ a b h1 h2 N A2 w1 c A1 h3 (hN.up h5.size) he
    exact ⟨χ,d,w2,Phi.le_trans h1 k1,k2,k3,by rw [Sem.run_bind,h4]; exact k4,h5.trans k5⟩
theorem Q.mono {R S : Phi → α → β → Prop} {φ : Phi} {s : Sem α} {t : Sem β} (h : QS P R s φ t) (hk : ∀ ψ a b,φ.le ψ → R ψ a b → S ψ a b) : QS P S s φ t := by
  intro N A w c A1 hs hN he
  obtain ⟨ψ,b,w1,h1,h2,h3⟩ := h N A w c A1 hs hN he
  exact ⟨ψ,b,w1,h1,hk _ _ _ h1 h2,h3⟩
theorem Q.only {R : Phi → α → β → Prop} {φ : Phi} {s : Sem α} {t : Sem β} (h : ∀ A a A1,arun P s A = some (a,A1) → A1 = A ∧ ∃ b,(∀ w,t.run P w = .ok b w) ∧ R φ a b) : QS P R s φ t := by
  intro N A w c A1 hs hN he
  obtain ⟨rfl,b,h1,h2⟩ := h A c A1 he
  exact ⟨φ,b,w,Phi.le_refl _,h2,hs,h1 w,Kept.refl _ _⟩
theorem Q.typeInfo (φ : Phi) (t : TypeId) : QS P (fun _ a b => a = b ∧ P.info? t = some a) (Go.typeInfo t) φ (Go.typeInfo t) := by
  refine Q.only fun A a A1 h => ?_
  cases hi : P.info? t with
  | none => simp [Go.typeInfo,hi] at h
  | some i => simp [Go.typeInfo,hi] at h ⊢; exact ⟨h.2.symm,h.1.symm,h.1⟩
theorem Q.underlying (φ : Phi) (t : TypeId) : QS P (fun _ a b => a = b ∧ P.underlying t = some a) (Go.underlying t) φ (Go.underlying t) := by
  refine Q.only fun A a A1 h => ?_
  cases hi : P.underlying t with
  | none => simp [Go.underlying,hi] at h
  | some i => simp [Go.underlying,hi] at h ⊢; exact ⟨h.2.symm,h.1.symm,h.1⟩
theorem Q.sizeOf (φ : Phi) (t : TypeId) : QS P (fun _ a b => a = b ∧ (P.info? t).map (·.size) = some a) (Go.sizeOf t) φ (Go.sizeOf t) :=
  Q.bind (Q.typeInfo φ t) fun ψ a b _ h => Q.pure ⟨by rw [h.1],by rw [h.2]; rfl⟩
theorem Q.isAgg (φ : Phi) (t : TypeId) : QS P EqR (Go.isAgg t) φ (Go.isAgg t) :=
  Q.bind (Q.underlying φ t) fun ψ a b _ h => by
    obtain ⟨rfl,_⟩ := h
    cases a <;> exact Q.pure rfl
def zok (P : Program) (t : TypeId) : Bool := match P.info? t with
  | some i => match i.zero with
    | some v => zCI v
    | none => true
  | none => true
theorem Q.zeroValue (φ : Phi) {t : TypeId} (hz : zok P t = true) : QS P V (Go.zeroValue t) φ (Go.zeroValue t) :=
  Q.bind (Q.typeInfo φ t) fun ψ a b _ h => by
    obtain ⟨rfl,h2⟩ := h
    unfold zok at hz
    rw [h2] at hz
    cases hv : a.zero with
    | none => exact Q.dead fun A => by simp
    | some v => simp only [hv] at hz ⊢; exact Q.pure (closedV_V _ hz)
theorem AddrR.add {φ : Phi} {a a' : Addr} (h : AddrR φ a a') (n : Nat) : AddrR φ (a.add n) (a'.add n) := by
  obtain ⟨h1,e,h2,rfl⟩ := h
  unfold Addr.add
  by_cases hn : n = 0
  · simp only [hn,if_true]; exact ⟨h1,e,h2,rfl⟩
  · simp only [hn,if_false]; exact ⟨rfl,e,h2,by simp [Nat.add_assoc]⟩
theorem AddrR.mono {φ ψ : Phi} (hl : φ.le ψ) {a a' : Addr} (h : AddrR φ a a') : AddrR ψ a a' := by
  obtain ⟨h1,e,h2,h3⟩ := h; exact ⟨h1,e,hl _ _ h2,h3⟩
theorem AddrR.ptr {φ : Phi} {a a' : Addr} (h : AddrR φ a a') : V φ (.pointer (some a)) (.pointer (some a')) := by
  obtain ⟨b,o,s⟩ := a
  obtain ⟨h1,e,h2,rfl⟩ := h
  simp only at h1
  subst h1
  exact .ptr h2
theorem Q.load {φ : Phi} {a a' : Addr} (h : AddrR φ a a') (m : Mode) : QS P V (Go.load a m) φ (Go.load a' m) := by
  intro N A w v A1 hs hN he
  simp only [Go.load,arun] at he
  split at he
  · rename_i u hu
    simp only [zOi,Prod.mk.injEq] at he
    obtain ⟨rfl,rfl⟩ := he
    obtain ⟨v',h1,h2⟩ := hs.load h hu
    exact ⟨φ,v',w,Phi.le_refl _,h2,hs,by simp [h1],Kept.refl _ _⟩
  · cases he
theorem Q.store {φ : Phi} {a a' : Addr} (h : AddrR φ a a') {v v' : Value} (hv : V φ v v') (m : Mode) : QS P EqR (Go.store a v m) φ (Go.store a' v' m) := by
  intro N A w u A1 hs hN he
  simp only [Go.store,arun] at he
  split at he
  · rename_i A' hA
    simp only [zOi,Prod.mk.injEq] at he
    obtain ⟨_,rfl⟩ := he
    obtain ⟨⟨u',h1⟩,h2,h3,h4,h5⟩ := hs.store h hv hA
    refine ⟨φ,(),_,Phi.le_refl _,rfl,h3,?_,h4⟩
    rw [run_store P w a' v' m (by cases hv <;> first | rfl | assumption | (simp [zBY] at h5))]
    simp [h1,h2]
  · cases he
theorem Q.newObj {φ : Phi} {o o' : Obj} (ho : OR φ o o') : QS P (fun ψ r r' => ∃ e,ψ r = some e ∧ e.off = 0 ∧ r' = e.blk) (Go.newObj o) φ (Go.newObj o') := by
  intro N A w u A1 hs hN he
  simp only [Go.newObj,arun,zOi,Prod.mk.injEq] at he
  obtain ⟨rfl,rfl⟩ := he
  obtain ⟨e,he0,heb,hle,hs',hb⟩ := hs.new hN ho
  exact ⟨_,_,_,hle,⟨e,zCP _ _ _,he0,heb.symm⟩,hs',by simp,hb⟩
theorem Q.getObj {φ : Phi} {r : Nat} {e : Ent} (h : φ r = some e) : QS P OR (Go.getObj r) φ (Go.getObj e.blk) := by
  intro N A w u A1 hs hN he
  simp only [Go.getObj,arun] at he
  split at he
  · rename_i o ho
    simp only [zOi,Prod.mk.injEq] at he
    obtain ⟨rfl,rfl⟩ := he
    obtain ⟨o',h1,h2,h3,_⟩ := hs.getObj h ho
    refine ⟨φ,o',w,Phi.le_refl _,h2,hs,?_,Kept.refl _ _⟩
    simp only [Go.getObj,Sem.run,h1]
    cases o' <;> first | rfl | (simp [isRow] at h3)
  · cases he
theorem Q.setObj {φ : Phi} {r : Nat} {e : Ent} (h : φ r = some e) {o o' : Obj} (ho : OR φ o o') : QS P EqR (Go.setObj r o) φ (Go.setObj e.blk o') := by
  intro N A w u A1 hs hN he
  simp only [Go.setObj,arun] at he
  split at he
  · rename_i A' hA
    simp only [zOi,Prod.mk.injEq] at he
    obtain ⟨_,rfl⟩ := he
    obtain ⟨⟨u',h1,h2⟩,h3,h4⟩ := hs.setObj h ho hA
    refine ⟨φ,(),_,Phi.le_refl _,rfl,h3,?_,h4⟩
    simp only [Go.setObj,Sem.run,h1]
    cases u' <;> first | rfl | (simp [isRow] at h2)
  · cases he
theorem Q.loadCellsFrom {φ : Phi} {a a' : Addr} (h : AddrR φ a a') : ∀ (n i : Nat) (acc acc' : Array Value),AR φ acc acc' → QS P AR (Go.loadCellsFrom a i n acc) φ (Go.loadCellsFrom a' i n acc')
  | 0,_,_,_,ha => Q.pure ha
  | n + 1,i,_,_,ha => Q.bind (Q.load (h.add i) .plain) fun ψ v v' hl hv => by
      refine Q.loadCellsFrom (h.mono hl) n (i + 1) _ _ ((ha.mono hl).push hv)
theorem Q.loadCells {φ : Phi} {a a' : Addr} (h : AddrR φ a a') (n : Nat) : QS P AR (Go.loadCells a n) φ (Go.loadCells a' n) := Q.loadCellsFrom h n 0 _ _ (.nil φ)
inductive LR (φ : Phi) : List Value → List Value → Prop
  | nil : LR φ [] []
  | cons {v v' : Value} {l l' : List Value} (h : V φ v v') (t : LR φ l l') : LR φ (v :: l) (v' :: l')
theorem LR.mono {φ ψ : Phi} (h : φ.le ψ) {l l' : List Value} (hl : LR φ l l') : LR ψ l l' := by
  induction hl with
  | nil => exact .nil
  | cons hv _ ih => exact .cons (hv.mono h) ih
theorem LR.of_get {φ : Phi} : ∀ {l l' : List Value},l.length = l'.length → (∀ (i : Nat) (v : Value),l[i]? = some v → ∃ v',l'[i]? = some v' ∧ V φ v v') → LR φ l l'
  | [],[],_,_ => .nil
  | [],_ :: _,h,_ => by simp at h
  | _ :: _,[],h,_ => by simp at h
  | v :: l,v' :: l',h,hg => .cons (by obtain ⟨u,h1,h2⟩ := hg 0 v rfl; simp at h1; exact h1 ▸ h2) (LR.of_get (by simpa using h) fun i u hu => by simpa using hg (i + 1) u (by simpa using hu))
theorem AR.list {φ : Phi} {xs xs' : Array Value} (h : AR φ xs xs') : LR φ xs.toList xs'.toList :=
  LR.of_get (by simpa using h.1) fun i v hv => by
    obtain ⟨v',h1,h2⟩ := h.get (by simpa using hv)
    exact ⟨v',by simpa using h1,h2⟩
theorem LR.get {φ : Phi} {l l' : List Value} (h : LR φ l l') : l.length = l'.length ∧ ∀ (i : Nat) (v : Value),l[i]? = some v → ∃ v',l'[i]? = some v' ∧ V φ v v' := by
  induction h with
  | nil => exact ⟨rfl,fun i v h => by simp at h⟩
  | cons hv _ ih =>
    refine ⟨by simp [ih.1],fun i v h => ?_⟩
    cases i with
    | zero => simp at h; subst h; exact ⟨_,rfl,hv⟩
    | succ i => simpa using ih.2 i v (by simpa using h)
theorem LR.array {φ : Phi} {l l' : List Value} (h : LR φ l l') : AR φ l.toArray l'.toArray :=
  .of (by simpa using h.get.1) fun i v hv => by simpa using h.get.2 i v (by simpa using hv)
theorem Q.storeCells {φ : Phi} {l l' : List Value} (hl : LR φ l l') : ∀ {ψ : Phi} {a a' : Addr} (i : Nat),φ.le ψ → AddrR ψ a a' → QS P EqR (Go.storeCells a l i) ψ (Go.storeCells a' l' i) := by
  induction hl with
  | nil => intro ψ a a' i _ _; exact Q.pure rfl
  | cons hv _ ih => intro ψ a a' i hle ha; exact Q.bind (Q.store (ha.add i) (hv.mono hle) .plain) fun χ _ _ hc _ => ih (i + 1) (Phi.le_trans hle hc) (ha.mono hc)
theorem Q.loadVar {φ : Phi} {a a' : Addr} (h : AddrR φ a a') (t : TypeId) : QS P V (Go.loadVar t a) φ (Go.loadVar t a') :=
  Q.bind (Q.isAgg φ t) fun ψ b b' hl hb => by
    cases hb
    cases b
    · exact Q.load (h.mono hl) .plain
    · refine Q.bind (Q.sizeOf ψ t) fun χ n n' hc hn => ?_
      obtain ⟨rfl,_⟩ := hn
      exact Q.bind (Q.loadCells ((h.mono hl).mono hc) n) fun χ xs xs' _ hx => Q.pure (V.ofAgg hx)
theorem Q.storeVar {φ : Phi} {a a' : Addr} (h : AddrR φ a a') {v v' : Value} (hv : V φ v v') (t : TypeId) : QS P EqR (Go.storeVar t a v) φ (Go.storeVar t a' v') :=
  Q.bind (Q.sizeOf φ t) fun ψ n n' hl hn => by
    obtain ⟨rfl,_⟩ := hn
    by_cases hne : v.cells.size ≠ n
    · exact Q.dead fun A => by simp [hne]
    · have hne' : ¬ v'.cells.size ≠ n := by rw [← hv.cells.1]; exact hne
      simp only [hne,hne',if_false]
      exact Q.storeCells hv.cells.list 0 hl (h.mono hl)
theorem OR.cells {φ : Phi} {xs xs' : Array Value} (h : AR φ xs xs') (t : TypeId) : OR φ (.cells xs t) (.cells xs' t) := ⟨rfl,rfl,rfl,h⟩
theorem Q.newRow {φ : Phi} {xs xs' : Array Value} (h : AR φ xs xs') (t : TypeId) : QS P AddrR (Go.newRow t xs) φ (Go.newRow t xs') :=
  Q.bind (Q.newObj (OR.cells h t)) fun ψ r r' _ hr => by
    obtain ⟨e,h1,h2,rfl⟩ := hr
    exact Q.pure ⟨rfl,e,h1,by simp [h2]⟩
theorem Q.newVar {φ : Phi} {v v' : Value} (h : V φ v v') (t : TypeId) : QS P AddrR (Go.newVar t v) φ (Go.newVar t v') := Q.newRow h.cells t
theorem Q.part {φ : Phi} {xs xs' : Array Value} (h : AR φ xs xs') (t : TypeId) (off : Nat) : QS P V (Go.part t xs off) φ (Go.part t xs' off) :=
  Q.bind (Q.isAgg φ t) fun ψ b b' hl hb => by
    cases hb
    cases b
    · cases hx : xs[off]? with
      | none => exact Q.dead fun A => by simp
      | some v =>
        obtain ⟨v',h1,h2⟩ := h.get hx
        simp only [Bool.false_eq_true,if_false,h1]
        exact Q.pure (h2.mono hl)
    · refine Q.bind (Q.sizeOf ψ t) fun χ n n' hc hn => ?_
      obtain ⟨rfl,_⟩ := hn
      exact Q.pure (V.ofAgg (((h.mono hl).mono hc).extract off (off + n)))
theorem Q.sureAddr {φ : Phi} {v v' : Value} (h : V φ v v') : QS P AddrR (Instr.sureAddr v) φ (Instr.sureAddr v') := by
  cases h
  case ptr e h => exact Q.pure ⟨rfl,_,h,rfl⟩
  all_goals exact Q.dead fun A => rfl
theorem Q.asAddr {φ : Phi} {v v' : Value} (h : V φ v v') : QS P AddrR (Go.asAddr v) φ (Go.asAddr v') := by
  cases h
  case ptr e h => exact Q.pure ⟨rfl,_,h,rfl⟩
  all_goals exact Q.dead fun A => by simp [Go.asAddr]
theorem Q.asIntOf {φ : Phi} {v v' : Value} (h : V φ v v') : QS P EqR (Go.asIntOf v) φ (Go.asIntOf v') := by
  cases h
  case int => exact Q.pure rfl
  all_goals exact Q.dead fun A => rfl
theorem Q.asInt {φ : Phi} {v v' : Value} (h : V φ v v') : QS P EqR (Go.asInt v) φ (Go.asInt v') :=
  Q.bind (Q.asIntOf h) fun _ a b _ hab => by cases hab; exact Q.pure rfl
theorem Q.asAgg {φ : Phi} {v v' : Value} (h : V φ v v') : QS P AR (Go.asAgg v) φ (Go.asAgg v') := by
  cases h
  case agg hx hx' => exact Q.pure ⟨hx,hx'⟩
  all_goals exact Q.dead fun A => rfl
theorem Q.loadAt {φ : Phi} {v v' : Value} (h : V φ v v') (t : TypeId) : QS P V (Instr.loadAt t v) φ (Instr.loadAt t v') :=
  Q.bind (Q.sureAddr h) fun _ _ _ _ ha => Q.loadVar ha t
theorem Q.storeAt {φ : Phi} {v v' u u' : Value} (h : V φ v v') (k : V φ u u') (t : TypeId) : QS P EqR (Instr.storeAt t v u) φ (Instr.storeAt t v' u') :=
  Q.bind (Q.sureAddr h) fun _ _ _ hl ha => Q.storeVar ha (k.mono hl) t
end
end
end Go.Proofs.Ytdaljohmfnfgiaa.Canon

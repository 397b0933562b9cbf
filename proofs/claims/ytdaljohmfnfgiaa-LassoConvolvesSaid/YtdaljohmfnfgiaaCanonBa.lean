/- What the proof of this claim is made of. No condition. -/
import Derived.Test.YtdaljohmfnfgiaaCanonZa
namespace Go.Proofs.Ytdaljohmfnfgiaa.Canon
open Go Go.RowKit
noncomputable section
variable (P : Program)
def mapR {α β : Type} (f : α → β) (l : List α) : List β := List.rec (motive := fun _ => List β) [] (fun x _ ih => f x :: ih) l
theorem mapR_eq {α β : Type} (f : α → β) : ∀ l : List α,mapR f l = l.map f := by
  intro l
  induction l with
  | nil => rfl
  | cons x l ih => show f x :: mapR f l = _; rw [ih]; rfl
theorem mapR_arr {α β : Type} (f : α → β) (xs : Array α) : (⟨mapR f xs.toList⟩ : Array β) = xs.map f := by
  refine Array.ext' ?_
  rw [mapR_eq,Array.toList_map]
def appR {α : Type} (l m : List α) : List α := List.rec (motive := fun _ => List α) m (fun x _ ih => x :: ih) l
theorem appR_eq {α : Type} : ∀ l m : List α,appR l m = l ++ m := by
  intro l m
  induction l with
  | nil => rfl
  | cons x l ih => show x :: appR l m = _; rw [ih]; rfl
theorem appR_arr {α : Type} (a b c : Array α) : (⟨appR a.toList (appR b.toList c.toList)⟩ : Array α) = a ++ b ++ c := by
  refine Array.ext' ?_
  rw [appR_eq,appR_eq]
  simp
inductive VR where
  | no
  | yes (v : Value) (A : AHeap)
def VR.of : Option (Value × AHeap) → VR
  | some (v,A) => .yes v A
  | none => .no
inductive Res where
  | bad
  | go (s : Slots) (ds : List Deferred) (A : AHeap)
  | out (j : Code) (s : Slots) (ds : List Deferred) (A : AHeap)
abbrev Orc := Value → Array Value → AHeap → VR
abbrev BM := Orc → FuncId → Option Nat → Slots → List Deferred → AHeap → Res
abbrev XF := Orc → (Operand → Value) → AHeap → VR
inductive GD where
  | free
  | never
  | slot (d : Tmp) (want : Bool)
def gd (ops : Array Oper) (o : Oper) : GD := match o.guard with
  | none => .free
  | some (j,w) => match nth ops.toList j with
    | some p => match p.dst with
      | some d => .slot d w
      | none => .never
    | none => .never
def beqB (a b : Bool) : Bool := match a with
  | true => b
  | false => match b with
    | true => false
    | false => true
def zCM (g : GD) (s : Slots) : Bool := match g with
  | .free => true
  | .never => false
  | .slot d w => match sget s d with
    | .bool b => beqB b w
    | _ => false
theorem wantB_eq (ops : Array Oper) (o : Oper) (s : Slots) : zCM (gd ops o) s = Region.wanted o (syielded ops s) := by
  unfold gd Region.wanted
  cases o.guard with
  | none => rfl
  | some p =>
    obtain ⟨j,w⟩ := p
    simp only [syielded]
    cases nth ops.toList j with
    | none => rfl
    | some q =>
      simp only
      cases q.dst with
      | none => rfl
      | some d =>
        simp only [zCM]
        cases sget s d <;> try rfl
        case bool b => cases b <;> cases w <;> rfl
abbrev DR := Orc → Array Oper → Slots → AHeap → Option (Slots × AHeap)
section
variable (X : Oper → XF) (R : DR) (m : Nat)
def withS (s : Slots) (f : Slots → Res) : Res := match s with
  | ⟨n,t⟩ => f ⟨n,t⟩
theorem withS_eq (s : Slots) (f : Slots → Res) : withS s f = f s := by cases s; rfl
def bopThen (ops : Array Oper) (o : Oper) (ih : BM) : BM := fun D fn ro s ds A => match zCM (gd ops o) s with
  | true => match X o D (zBP s) A with
    | .yes v A1 => withS (sput s o.dst v) fun s1 => ih D fn ro s1 ds A1
    | .no => .bad
  | false => withS (sput s o.dst undef) fun s1 => ih D fn ro s1 ds A
def bskip : BM := fun _ _ _ s ds A => .go s ds A
def bops (ops : Array Oper) (l : List Oper) : BM := List.rec (motive := fun _ => BM) bskip (fun o _ ih => bopThen X ops o ih) l
def corc (D : Orc) : Runs := fun g xs A => match D (.func (.func g) #[] #[]) xs A with
  | .yes v A1 => some (v,A1)
  | .no => none
def bdrawn (ops : Array Oper) : BM := fun D _ _ s ds A => match R D ops s A with
  | some (s1,A1) => .go s1 ds A1
  | none => .bad
def bregion (ops : Array Oper) (dr : Bool) : BM := match dr with
  | true => bdrawn R ops
  | false => bops X ops ops.toList
def bseq (ia ib : BM) : BM := fun D fn ro s ds A => match ia D fn ro s ds A with
  | .go s ds A => ib D fn ro s ds A
  | .out j s ds A => .out j s ds A
  | .bad => .bad
def bcond (c : Operand) (ia ib : BM) : BM := fun D fn ro s ds A => match zAC c with
  | true => match zBP s c with
    | .bool b => match b with
      | true => ia D fn ro s ds A
      | false => ib D fn ro s ds A
    | _ => .bad
  | false => .bad
def blift (id : Nat) (r : Res) : Res := match r with
  | .go s ds A => .go s ds A
  | .out j s ds A => match j with
    | .exit id' => match Nat.beq id id' with
      | true => .go s ds A
      | false => .out (.exit id') s ds A
    | j => .out j s ds A
  | .bad => .bad
def bblock (id : Nat) (ih : BM) : BM := fun D fn ro s ds A => blift id (ih D fn ro s ds A)
def bround (ih rec : BM) : BM := fun D fn ro s ds A => match ih D fn ro s ds A with
  | .go s ds A => rec D fn ro s ds A
  | .out j s ds A => .out j s ds A
  | .bad => .bad
def bbad : BM := fun _ _ _ _ _ _ => .bad
def bloop (ih : BM) (n : Nat) : BM := Nat.rec (motive := fun _ => BM) bbad (fun _ rec => bround ih rec) n
def brange (f : Operand) (ps : Array Tmp) (asg body : Code) : BM := fun D fn ro s ds A => match zAC f with
  | true => match arun P (Instr.enterLoop fn (sabs s) ps asg body ro) A with
    | some ((l,mk),A1) => match zBP s f with
      | .func (.func g) first captured => match D (.func (.func g) first captured) #[.func (.yield l) #[] #[]] A1 with
        | .yes _ A2 => match arun P (Instr.endLoop l) A2 with
          | some (none,A3) => .go s (mk ++ ds) A3
          | some (some j,A3) => .out j s (mk ++ ds) A3
          | none => .bad
        | .no => .bad
      | _ => .bad
    | none => .bad
  | false => .bad
def bexit (id : Nat) : BM := fun _ _ _ s ds A => .out (.exit id) s ds A
def bret : BM := fun _ _ _ s ds A => .out .ret s ds A
def bcode (c : Code) : BM := Code.rec (motive := fun _ => BM) bskip (fun _ ops dr => bregion X R ops dr) (fun _ _ ia ib => bseq ia ib) (fun c _ _ ia ib => bcond c ia ib) (fun id _ ih => bblock id ih)
  (fun _ ih => bloop ih m) (fun f ps asg body _ _ => brange P f ps asg body) (fun id => bexit id) (fun _ ih => ih) (fun _ => bskip) (fun _ => bbad) bret (fun _ => bbad) c
def bdefs (fn : Func) (s : Slots) (ds : List Deferred) : AHeap → VR := List.rec (motive := fun _ => AHeap → VR) (fun A => VR.of (zCK P fn s A)) (fun d _ ih A => match d.target with
  | .collected b => match arun P (Instr.takeDeferred b) A with
    | some (l,A1) => match l with
      | [] => ih A1
      | _ => .no
    | none => .no
  | _ => .no) ds
def bfin (fn : Func) (r : Res) : VR := match r with
  | .go s ds A => bdefs P fn s ds A
  | .out j s ds A => match j with
    | .ret => bdefs P fn s ds A
    | _ => .no
  | .bad => .no
def bfun (D : Orc) (g : FuncId) (xs : Array Value) (A : AHeap) : VR := match nth P.funcs.toList g with
  | some fn => match fn.body with
    | some c => match Nat.ble (lenR xs.toList) fn.ntmps with
      | true => bfin P fn (bcode P X R m c D g none ⟨fn.ntmps,zDZ xs.toList 0 .leaf⟩ [] A)
      | false => .no
    | none => .no
  | none => .no
def endR (l : Nat) (jump : Option Code) (A : AHeap) : VR := VR.of (arun P (Instr.endRound l jump) A)
def byield (D : Orc) (l : Nat) (r : Loop) (args : Array Value) (A : AHeap) : VR := match Nat.beq args.size r.params.size with
  | true => match (r.params.zip args).foldl (fun tmps (t,a) => tmps.setIfInBounds t a) r.tmps with
    | xs => match bcode P X R m r.assign D r.fn (some l) ⟨xs.size,zDZ xs.toList 0 .leaf⟩ [] A with
      | .go s1 ds1 A1 => match arun P (Instr.beginRound l) A1 with
        | some (_,A2) => match bcode P X R m r.body D r.fn (some l) s1 ds1 A2 with
          | .go _ _ A3 => endR P l none A3
          | .out j _ _ A3 => match j with
            | .ret => endR P l (some .ret) A3
            | .exit id => endR P l (some (.exit id)) A3
            | _ => .no
          | .bad => .no
        | none => .no
      | _ => .no
  | false => .no
def bstep (D : Orc) : Orc := fun f args A => match f with
  | .func fn first captured => match fn with
    | .func g => bfun P X R m D g ⟨appR first.toList (appR args.toList captured.toList)⟩ A
    | .yield l => match A.obj l with
      | some (.loop r) => byield P X R m D l r args A
      | _ => .no
    | _ => .no
  | _ => .no
def bno : Orc := fun _ _ _ => .no
def borc (n : Nat) : Orc := Nat.rec (motive := fun _ => Orc) bno (fun _ D => bstep P X R m D) n
def btells (g n : Nat) : Bool := match nth P.funcs.toList g with
  | some fn => match fn.results.toList with
    | [.tmp _] => match borc P X R m n (.func (.func g) #[] #[]) #[] ⟨0,.leaf⟩ with
      | .yes v _ => match v with
        | .bool b => b
        | _ => false
      | .no => false
    | _ => false
  | none => false
end
structure Bs (N : Kp) where
  holds : Phi → World → Prop
  up : ∀ φ ψ w w1,holds φ w → φ.le ψ → Kept N w w1 → holds ψ w1
def Bs.any (N : Kp) : Bs N := ⟨fun _ _ => True,fun _ _ _ _ _ _ _ => trivial⟩
def zAB (N : Kp) (B : Bs N) (s s2 : St) : Prop := ∀ (φ : Phi) (w : World) (fr' : Frame) (cs' : List Frame),B.holds φ w → FrR φ s.1 fr' → CL φ s.2.1 cs' → Sim N φ s.2.2 w → KOK N w → Goes P N φ w fr' cs' s2
variable {P}
theorem zAB.refl {N : Kp} {B : Bs N} (s : St) : zAB P N B s s := fun φ w fr' cs' _ h1 h2 h3 _ _ => ⟨φ,fr',cs',w,Phi.le_refl _,h1,h2,h3,Kept.refl _ _,⟨0,rfl⟩⟩
theorem zAB.trans {N : Kp} {B : Bs N} {s s1 s2 : St} (h : zAB P N B s s1) (k : zAB P N B s1 s2) : zAB P N B s s2 := fun φ w fr' cs' hb h1 h2 h3 h4 =>
  (h φ w fr' cs' hb h1 h2 h3 h4).andThen fun ψ fr1' cs1' w1 hle g2 g3 g4 g5 => k ψ w1 fr1' cs1' (B.up _ _ _ _ hb hle g5) g2 g3 g4 (h4.up g5.size)
theorem zAB.weaken {N : Kp} {B : Bs N} {s s2 : St} (h : zAB P N (.any N) s s2) : zAB P N B s s2 := fun φ w fr' cs' _ h1 h2 h3 h4 => h φ w fr' cs' trivial h1 h2 h3 h4
theorem zAB.step (hc : zAJ P) {N : Kp} {B : Bs N} {fr : Frame} {cs : List Frame} {A : AHeap} {s2 : St} (h : zDQ P fr cs A = some s2) : zAB P N B (fr,cs,A) s2 := fun _ _ _ _ _ h1 h2 h3 h4 => step_sound hc h h1 h2 h3 h4
theorem zAB.sstep (hc : zAJ P) {N : Kp} {B : Bs N} {fr : FF} {cs : List FF} {A : AHeap} {s2 : SSt} (h : sStep P fr cs A = some s2) : zAB P N B (SSt.abs (fr,cs,A)) (SSt.abs s2) := zAB.step hc (sStep_eq h)
def FunOK (P : Program) (N : Kp) (g : FuncId) (xs : Array Value) (A : AHeap) (v : Value) (A1 : AHeap) : Prop :=
  ∃ (frE : Frame) (AE : AHeap) (fn : Func),frE.fn = g ∧ frE.mode = .returning ∧ frE.defers = [] ∧ P.funcs[g]? = some fn ∧ arun P (results fn frE.tmps) AE = some (v,A1) ∧ ∀ cs,zAB P N (.any N) (Frame.enter P g xs .normal,cs,A) (frE,cs,AE)
def RetOK (P : Program) (N : Kp) (g : FuncId) (xs : Array Value) (A : AHeap) (v : Value) (A1 : AHeap) : Prop :=
  ∀ (φ : Phi) (w : World) (fr' : Frame),FrR φ (Frame.enter P g xs .normal) fr' → Sim N φ A w → KOK N w →
    ∀ c base,∃ ψ v' w1,φ.le ψ ∧ V ψ v v' ∧ Sim N ψ A1 w1 ∧ Kept N w w1 ∧ Steps P (lone fr' (c :: base) w) (lone (c.finish v') base w1)
structure OrcOK (P : Program) (N : Kp) (D : Orc) : Prop where
  fn : ∀ {g : FuncId} {first xs captured : Array Value} {A : AHeap} {v : Value} {A1 : AHeap},D (.func (.func g) first captured) xs A = .yes v A1 → RetOK P N g (first ++ xs ++ captured) A v A1
  call : ∀ {f : Value} {args : Array Value} {A : AHeap} {v : Value} {A1 : AHeap},D f args A = .yes v A1 → ∀ (fr : Frame) (cs : List Frame),∃ s1,acall P fr cs A f args = some s1 ∧ zAB P N (.any N) s1 (fr.finish v,cs,A1)
def CallOK (P : Program) (N : Kp) (B : Bs N) (D : Orc) : Prop := ∀ {f : Value} {args : Array Value} {A : AHeap} {v : Value} {A1 : AHeap},D f args A = .yes v A1 → ∀ (fr : Frame) (cs : List Frame),∃ s1,acall P fr cs A f args = some s1 ∧ zAB P N B s1 (fr.finish v,cs,A1)
theorem OrcOK.callOK {P : Program} {N : Kp} {D : Orc} (h : OrcOK P N D) (B : Bs N) : CallOK P N B D := fun hD fr cs => by
  obtain ⟨s1,g1,g2⟩ := h.call hD fr cs
  exact ⟨s1,g1,g2.weaken⟩
theorem FunOK.ret {N : Kp} {g : FuncId} {xs : Array Value} {A : AHeap} {v : Value} {A1 : AHeap} (h : FunOK P N g xs A v A1) : RetOK P N g xs A v A1 := by
  intro φ w fr' hf hs hN c base
  obtain ⟨frE,AE,fn,e1,hm,hd,hfn,hres,hl⟩ := h
  obtain ⟨ψ,frE',cs1',w1,g1,g2,g3,g4,g5,g6⟩ := hl [] φ w fr' [] trivial hf .nil hs hN (c :: base)
  cases g3
  obtain ⟨χ,v',w2,k1,k2,k3,k4,k5⟩ := Q.results fn g2.tmps N AE w1 v A1 g4 (hN.up g5.size) hres
  refine ⟨χ,v',w2,Phi.le_trans g1 k1,k2,k3,g5.trans k5,g6.trans (.one (step_lone_go ?_))⟩
  have hdl : frE'.defers = [] := by
    have := g2.defers
    simp only at this
    rw [hd] at this
    cases hl : frE'.defers with
    | nil => rfl
    | cons d l => rw [hl] at this; cases this
  have hfn' : P.funcs[frE'.fn]? = some fn := by rw [g2.fn,e1]; exact hfn
  simp [stepG,g2.mode.trans hm,unwind,hdl,hfn',k4,doReturn,g2.kind']
theorem RunsOK.of_orc {N : Kp} {D : Orc} (h : OrcOK P N D) : RunsOK P N (corc D) := by
  intro g xs A v A1 hr
  unfold corc at hr
  split at hr
  · rename_i v1 A2 hD
    cases hr
    have := h.fn hD
    simp only [Array.empty_append,Array.append_empty] at this
    exact this
  · cases hr
def OpOK (P : Program) (D : Orc) (o : Oper) (ρ : Operand → Value) (A : AHeap) (v : Value) (A1 : AHeap) : Prop :=
  (∃ f args ats,o.op = .call ⟨.value f,args,ats⟩ ∧ zAC f = true ∧ args.toList.all zAC = true ∧ D (ρ f) (args.map ρ) A = .yes v A1) ∨
  ((∀ f args ats,o.op ≠ .call ⟨.value f,args,ats⟩) ∧ zAE P ρ o A = some (v,A1))
def XOK (P : Program) (X : Oper → XF) : Prop := ∀ (D : Orc) (o : Oper) (ρ : Operand → Value) (A : AHeap) (v : Value) (A1 : AHeap),X o D ρ A = .yes v A1 → OpOK P D o ρ A v A1
theorem VR.of_eq {r : Option (Value × AHeap)} {v : Value} {A1 : AHeap} (h : VR.of r = .yes v A1) : r = some (v,A1) := by
  unfold VR.of at h
  split at h
  · cases h; rfl
  · cases h
def callV : Op → Option (Operand × Array Operand)
  | .call c => match c.callee with
    | .value f => some (f,c.args)
    | _ => none
  | _ => none
theorem callV_some {op : Op} {f : Operand} {args : Array Operand} (h : callV op = some (f,args)) : ∃ ats,op = .call ⟨.value f,args,ats⟩ := by
  cases op <;> simp only [callV] at h <;> try (cases h; done)
  case call c =>
    obtain ⟨cl,as,ats⟩ := c
    cases cl <;> simp only at h <;> cases h
    exact ⟨ats,rfl⟩
theorem callV_none {op : Op} (h : callV op = none) (f : Operand) (args : Array Operand) (ats : Array TypeId) : op ≠ .call ⟨.value f,args,ats⟩ := by
  rintro rfl; cases h
def xcall (f : Operand) (args : Array Operand) : XF := fun D ρ A => match zAC f,args.toList.all zAC with
  | true,true => D (ρ f) ⟨mapR ρ args.toList⟩ A
  | _,_ => .no
theorem xcall_ok {D : Orc} {o : Oper} {ρ : Operand → Value} {A : AHeap} {v : Value} {A1 : AHeap} {f : Operand} {args : Array Operand} (hop : callV o.op = some (f,args)) (h : xcall f args D ρ A = .yes v A1) : OpOK P D o ρ A v A1 := by
  unfold xcall at h
  split at h
  · rename_i h1 h2
    obtain ⟨ats,e⟩ := callV_some hop
    rw [mapR_arr] at h
    exact .inl ⟨f,args,ats,e,h1,h2,h⟩
  · cases h
theorem op_leads (hc : zAJ P) {N : Kp} {B : Bs N} {D : Orc} (hD : CallOK P N B D) {ops : Array Oper} {i : Nat} {rest : List Nat} {k : List Item} {o : Oper} (ho : nth ops.toList i = some o) {fn : FuncId} {ro : Option Nat} {s : Slots} {ds : List Deferred}
    {cs : List FF} {A : AHeap} {v : Value} {A1 : AHeap} (h : (zCM (gd ops o) s = false ∧ v = undef ∧ A1 = A) ∨ (zCM (gd ops o) s = true ∧ OpOK P D o (zBP s) A v A1)) :
    zAB P N B (SSt.abs (⟨fn,s,.inRegion ops (i :: rest) :: k,ds,.run,ro⟩,cs,A)) (SSt.abs (⟨fn,sput s o.dst v,.inRegion ops rest :: k,ds,.run,ro⟩,cs,A1)) := by
  have hfin : (FF.abs ⟨fn,s,.inRegion ops (i :: rest) :: k,ds,.run,ro⟩).finish v = FF.abs ⟨fn,sput s o.dst v,.inRegion ops rest :: k,ds,.run,ro⟩ := sfin_eq (by simp [sfin,ho])
  have hev : zBP s = (FF.abs ⟨fn,s,.inRegion ops (i :: rest) :: k,ds,.run,ro⟩).eval := by rw [zCY,← feval_eq]; rfl
  rw [zCX] at ho
  have hst : zDQ P (FF.abs ⟨fn,s,.inRegion ops (i :: rest) :: k,ds,.run,ro⟩) (cs.map FF.abs) A = aoper P ops i (FF.abs ⟨fn,s,.inRegion ops (i :: rest) :: k,ds,.run,ro⟩) (cs.map FF.abs) A := rfl
  have hwe : Region.wanted o (yielded ops (FF.abs ⟨fn,s,.inRegion ops (i :: rest) :: k,ds,.run,ro⟩).tmps) = zCM (gd ops o) s := by rw [wantB_eq,syielded_eq]; rfl
  have e2 : SSt.abs (⟨fn,sput s o.dst v,.inRegion ops rest :: k,ds,.run,ro⟩,cs,A1) = ((FF.abs ⟨fn,s,.inRegion ops (i :: rest) :: k,ds,.run,ro⟩).finish v,cs.map FF.abs,A1) := by rw [hfin]; rfl
  rw [e2]
  rcases h with ⟨hw,rfl,rfl⟩ | ⟨hw,hop⟩
  · refine zAB.step hc ?_
    rw [hst]
    unfold aoper
    simp only [ho,hwe,hw]
  · rcases hop with ⟨f,args,ats,e,h1,h2,h3⟩ | ⟨hno,hx⟩
    · obtain ⟨s1,g1,g2⟩ := hD h3 (FF.abs ⟨fn,s,.inRegion ops (i :: rest) :: k,ds,.run,ro⟩) (cs.map FF.abs)
      refine (zAB.step hc ?_).trans g2
      rw [hst]
      unfold aoper
      simp only [ho,hwe,hw,e,h1,h2]
      rw [← hev]
      exact g1
    · refine zAB.step hc ?_
      rw [hst]
      unfold aoper
      simp only [ho,hwe,hw]
      rw [← hev,hx]
section
def DROK (P : Program) (R : DR) : Prop := ∀ (D : Orc) (ops : Array Oper) (s : Slots) (A : AHeap) (s1 : Slots) (A1 : AHeap),R D ops s A = some (s1,A1) → ∃ Rd,RdOK P Rd ∧ region P Rd (corc D) ops (sabs s) A = some (sabs s1,A1)
variable {X : Oper → XF} {R : DR} {m : Nat} {N : Kp} {B : Bs N} {D : Orc}
theorem bops_ok (hc : zAJ P) (hD : CallOK P N B D) (hX : XOK P X) {ops : Array Oper} : ∀ (l : List Oper) (i : Nat),ops.toList.drop i = l → ∀ {fn : FuncId} {ro : Option Nat} {s : Slots} {ds : List Deferred} {A : AHeap} (k : List Item) (cs : List FF),
    (∀ j s' ds' A',bops X ops l D fn ro s ds A ≠ .out j s' ds' A') ∧
    ∀ s' ds' A',bops X ops l D fn ro s ds A = .go s' ds' A' → zAB P N B (SSt.abs (⟨fn,s,.inRegion ops (List.range' i l.length) :: k,ds,.run,ro⟩,cs,A)) (SSt.abs (⟨fn,s',k,ds',.run,ro⟩,cs,A')) := by
  intro l
  induction l with
  | nil =>
    intro i hl fn ro s ds A k cs
    refine ⟨fun _ _ _ _ h => (by cases h),fun s' ds' A' h => ?_⟩
    cases h
    exact zAB.sstep hc rfl
  | cons o l ih =>
    intro i hl fn ro s ds A k cs
    have ho : nth ops.toList i = some o := by
      rw [nth_eq]
      have := congrArg (·[0]?) hl
      simpa using this
    have hl' : ops.toList.drop (i + 1) = l := by
      have := congrArg List.tail hl
      simpa using this
    have hun : bops X ops (o :: l) D fn ro s ds A = bopThen X ops o (bops X ops l) D fn ro s ds A := rfl
    rw [hun]
    unfold bopThen
    cases hw : zCM (gd ops o) s with
    | true =>
      cases hx : X o D (zBP s) A with
      | no => exact ⟨fun _ _ _ _ h => (by cases h),fun _ _ _ h => (by cases h)⟩
      | yes v A1 =>
        simp only [withS_eq]
        obtain ⟨n1,n2⟩ := ih (i + 1) hl' (fn := fn) (ro := ro) (s := sput s o.dst v) (ds := ds) (A := A1) k cs
        refine ⟨n1,fun s' ds' A' h => (op_leads hc hD ho (.inr ⟨hw,hX _ _ _ _ _ _ hx⟩)).trans (n2 s' ds' A' h)⟩
    | false =>
      simp only [withS_eq]
      obtain ⟨n1,n2⟩ := ih (i + 1) hl' (fn := fn) (ro := ro) (s := sput s o.dst undef) (ds := ds) (A := A) k cs
      refine ⟨n1,fun s' ds' A' h => (op_leads hc hD ho (.inl ⟨hw,rfl,rfl⟩)).trans (n2 s' ds' A' h)⟩
def CodeOK (P : Program) (N : Kp) (B : Bs N) (c : Code) (M : FuncId → Option Nat → Slots → List Deferred → AHeap → Res) : Prop :=
  ∀ (fn : FuncId) (ro : Option Nat) (s : Slots) (ds : List Deferred) (A : AHeap) (k : List Item) (cs : List FF),
    (∀ s' ds' A',M fn ro s ds A = .go s' ds' A' → zAB P N B (SSt.abs (⟨fn,s,.code c :: k,ds,.run,ro⟩,cs,A)) (SSt.abs (⟨fn,s',k,ds',.run,ro⟩,cs,A'))) ∧
    (∀ j s' ds' A',M fn ro s ds A = .out j s' ds' A' → ∃ k',(∀ id,j = .exit id → exitTo id k' = exitTo id k) ∧
      zAB P N B (SSt.abs (⟨fn,s,.code c :: k,ds,.run,ro⟩,cs,A)) (SSt.abs (⟨fn,s',.code j :: k',ds',.run,ro⟩,cs,A')))
theorem CodeOK.bad {c : Code} {M : FuncId → Option Nat → Slots → List Deferred → AHeap → Res} (h : ∀ fn ro s ds A,M fn ro s ds A = .bad) : CodeOK P N B c M := fun fn ro s ds A k cs =>
  ⟨fun _ _ _ e => (by rw [h] at e; cases e),fun _ _ _ _ e => (by rw [h] at e; cases e)⟩
theorem bround_ok (hc : zAJ P) {c : Code} {ih : BM} (h : CodeOK P N B c (ih D)) : ∀ n (fn : FuncId) (ro : Option Nat) (s : Slots) (ds : List Deferred) (A : AHeap) (k : List Item) (cs : List FF),
    (∀ s' ds' A',bloop ih n D fn ro s ds A ≠ .go s' ds' A') ∧
    (∀ j s' ds' A',bloop ih n D fn ro s ds A = .out j s' ds' A' → ∃ k',(∀ id,j = .exit id → exitTo id k' = exitTo id k) ∧
      zAB P N B (SSt.abs (⟨fn,s,.code c :: .inLoop c :: k,ds,.run,ro⟩,cs,A)) (SSt.abs (⟨fn,s',.code j :: k',ds',.run,ro⟩,cs,A'))) := by
  intro n
  induction n with
  | zero => intro fn ro s ds A k cs; exact ⟨fun _ _ _ e => (by cases e),fun _ _ _ _ e => (by cases e)⟩
  | succ n ihn =>
    intro fn ro s ds A k cs
    have hun : bloop ih (n + 1) D fn ro s ds A = bround ih (bloop ih n) D fn ro s ds A := rfl
    rw [hun]
    unfold bround
    obtain ⟨g1,g2⟩ := h fn ro s ds A (.inLoop c :: k) cs
    cases hr : ih D fn ro s ds A with
    | bad => exact ⟨fun _ _ _ e => (by cases e),fun _ _ _ _ e => (by cases e)⟩
    | go s1 ds1 A1 =>
      simp only
      obtain ⟨k1,k2⟩ := ihn fn ro s1 ds1 A1 k cs
      refine ⟨k1,fun j s' ds' A' e => ?_⟩
      obtain ⟨k',l1,l2⟩ := k2 j s' ds' A' e
      exact ⟨k',l1,(g1 _ _ _ hr).trans ((zAB.sstep hc rfl).trans l2)⟩
    | out j s1 ds1 A1 =>
      refine ⟨fun _ _ _ e => (by simp only at e; cases e),fun j' s' ds' A' e => ?_⟩
      simp only at e
      cases e
      obtain ⟨k',l1,l2⟩ := g2 _ _ _ _ hr
      exact ⟨k',fun id hj => (l1 id hj).trans (by simp [exitTo]),l2⟩
theorem bcode_ok (hc : zAJ P) (hx : P.follows .mixedOrders = true) (hD : CallOK P N B D) (hX : XOK P X) (hR : ∀ ops s A s1 A1,R D ops s A = some (s1,A1) → ∃ Rd C,RdOK P Rd ∧ (∀ N,RunsOK P N C) ∧ region P Rd C ops (sabs s) A = some (sabs s1,A1)) : ∀ c,CodeOK P N B c (bcode P X R m c D) := by
  intro c
  induction c with
  | skip =>
    intro fn ro s ds A k cs
    exact ⟨fun _ _ _ e => (by cases e; exact zAB.sstep hc rfl),fun _ _ _ _ e => (by cases e)⟩
  | region id ops dr =>
    intro fn ro s ds A k cs
    cases dr with
    | false =>
      obtain ⟨n1,n2⟩ := bops_ok hc hD hX (ops := ops) ops.toList 0 (by simp) (fn := fn) (ro := ro) (s := s) (ds := ds) (A := A) k cs
      refine ⟨fun s' ds' A' e => ?_,fun j s' ds' A' e => absurd e (n1 _ _ _ _)⟩
      refine (zAB.sstep hc ?_).trans (n2 s' ds' A' e)
      simp only [sStep,sitem,scode,List.range_eq_range',Array.length_toList]
    | true =>
      have hun : bcode P X R m (.region id ops true) D fn ro s ds A = bdrawn R ops D fn ro s ds A := rfl
      rw [hun]
      unfold bdrawn
      cases hr : R D ops s A with
      | none => exact ⟨fun _ _ _ e => (by cases e),fun _ _ _ _ e => (by cases e)⟩
      | some p =>
        obtain ⟨s1,A1⟩ := p
        refine ⟨fun s' ds' A' e => ?_,fun j s' ds' A' e => (by cases e)⟩
        cases e
        obtain ⟨Rd,C,hRd,hC,hreg⟩ := hR _ _ _ _ _ hr
        intro φ w fr' cs' _ h1 h2 h3 h4
        exact region_sound hRd hc hx hC (fr := FF.abs ⟨fn,s,.code (.region id ops true) :: k,ds,.run,ro⟩) (k := k) hreg rfl rfl h1 h2 h3 h4
  | seq a b iha ihb =>
    intro fn ro s ds A k cs
    have hun : bcode P X R m (.seq a b) D fn ro s ds A = bseq (bcode P X R m a) (bcode P X R m b) D fn ro s ds A := rfl
    rw [hun]
    unfold bseq
    obtain ⟨g1,g2⟩ := iha fn ro s ds A (.code b :: k) cs
    have h0 : zAB P N B (SSt.abs (⟨fn,s,.code (.seq a b) :: k,ds,.run,ro⟩,cs,A)) (SSt.abs (⟨fn,s,.code a :: .code b :: k,ds,.run,ro⟩,cs,A)) := zAB.sstep hc rfl
    cases hr : bcode P X R m a D fn ro s ds A with
    | bad => exact ⟨fun _ _ _ e => (by cases e),fun _ _ _ _ e => (by cases e)⟩
    | go s1 ds1 A1 =>
      simp only
      obtain ⟨k1,k2⟩ := ihb fn ro s1 ds1 A1 k cs
      refine ⟨fun s' ds' A' e => h0.trans ((g1 _ _ _ hr).trans (k1 _ _ _ e)),fun j s' ds' A' e => ?_⟩
      obtain ⟨k',l1,l2⟩ := k2 j s' ds' A' e
      exact ⟨k',l1,h0.trans ((g1 _ _ _ hr).trans l2)⟩
    | out j s1 ds1 A1 =>
      refine ⟨fun _ _ _ e => (by simp only at e; cases e),fun j' s' ds' A' e => ?_⟩
      simp only at e
      cases e
      obtain ⟨k',l1,l2⟩ := g2 _ _ _ _ hr
      exact ⟨k',fun id hj => (l1 id hj).trans (by simp [exitTo]),h0.trans l2⟩
  | cond c a b iha ihb =>
    intro fn ro s ds A k cs
    have hun : bcode P X R m (.cond c a b) D fn ro s ds A = bcond c (bcode P X R m a) (bcode P X R m b) D fn ro s ds A := rfl
    rw [hun]
    unfold bcond
    cases ho : zAC c with
    | false => exact ⟨fun _ _ _ e => (by cases e),fun _ _ _ _ e => (by cases e)⟩
    | true =>
      simp only
      split
      · rename_i bb hb
        have h0 : zAB P N B (SSt.abs (⟨fn,s,.code (.cond c a b) :: k,ds,.run,ro⟩,cs,A)) (SSt.abs (⟨fn,s,.code (match bb with | true => a | false => b) :: k,ds,.run,ro⟩,cs,A)) := by
          refine zAB.sstep hc ?_
          cases bb <;> simp [sStep,sitem,scode,ho,hb]
        cases bb with
        | true =>
          obtain ⟨k1,k2⟩ := iha fn ro s ds A k cs
          refine ⟨fun s' ds' A' e => h0.trans (k1 _ _ _ e),fun j s' ds' A' e => ?_⟩
          obtain ⟨k',l1,l2⟩ := k2 j s' ds' A' e
          exact ⟨k',l1,h0.trans l2⟩
        | false =>
          obtain ⟨k1,k2⟩ := ihb fn ro s ds A k cs
          refine ⟨fun s' ds' A' e => h0.trans (k1 _ _ _ e),fun j s' ds' A' e => ?_⟩
          obtain ⟨k',l1,l2⟩ := k2 j s' ds' A' e
          exact ⟨k',l1,h0.trans l2⟩
      · exact ⟨fun _ _ _ e => (by cases e),fun _ _ _ _ e => (by cases e)⟩
  | block id c ih =>
    intro fn ro s ds A k cs
    have hun : bcode P X R m (.block id c) D fn ro s ds A = blift id (bcode P X R m c D fn ro s ds A) := rfl
    rw [hun]
    obtain ⟨g1,g2⟩ := ih fn ro s ds A (.inBlock id :: k) cs
    have h0 : zAB P N B (SSt.abs (⟨fn,s,.code (.block id c) :: k,ds,.run,ro⟩,cs,A)) (SSt.abs (⟨fn,s,.code c :: .inBlock id :: k,ds,.run,ro⟩,cs,A)) := zAB.sstep hc rfl
    cases hr : bcode P X R m c D fn ro s ds A with
    | bad => exact ⟨fun _ _ _ e => (by cases e),fun _ _ _ _ e => (by cases e)⟩
    | go s1 ds1 A1 =>
      refine ⟨fun s' ds' A' e => ?_,fun _ _ _ _ e => (by cases e)⟩
      cases e
      exact h0.trans ((g1 _ _ _ hr).trans (zAB.sstep hc rfl))
    | out j s1 ds1 A1 =>
      obtain ⟨k',l1,l2⟩ := g2 _ _ _ _ hr
      have pass : (∀ id',j = .exit id' → id ≠ id') → ∃ k',(∀ id',j = .exit id' → exitTo id' k' = exitTo id' k) ∧
          zAB P N B (SSt.abs (⟨fn,s,.code (.block id c) :: k,ds,.run,ro⟩,cs,A)) (SSt.abs (⟨fn,s1,.code j :: k',ds1,.run,ro⟩,cs,A1)) := fun hne =>
        ⟨k',fun id' hj => (l1 id' hj).trans (by simp [exitTo,hne id' hj]),h0.trans l2⟩
      unfold blift
      cases j <;> simp only <;> try
        (refine ⟨fun _ _ _ e => (by cases e),fun j' s' ds' A' e => ?_⟩
         cases e
         exact pass (by simp))
      case exit id' =>
        cases hb : Nat.beq id id' with
        | true =>
          have hid : id = id' := Nat.eq_of_beq_eq_true hb
          subst hid
          refine ⟨fun s' ds' A' e => ?_,fun _ _ _ _ e => (by cases e)⟩
          cases e
          refine h0.trans (l2.trans (zAB.sstep hc ?_))
          have := l1 id rfl
          simp only [exitTo,beq_self_eq_true,if_true] at this
          simp only [sStep,sitem,scode,this]
        | false =>
          refine ⟨fun _ _ _ e => (by cases e),fun j' s' ds' A' e => ?_⟩
          cases e
          exact pass (fun id'' hj => by cases hj; intro h; subst h; simp at hb)
  | loop c ih =>
    intro fn ro s ds A k cs
    have hun : bcode P X R m (.loop c) D fn ro s ds A = bloop (bcode P X R m c) m D fn ro s ds A := rfl
    rw [hun]
    obtain ⟨g1,g2⟩ := bround_ok hc ih m fn ro s ds A k cs
    have h0 : zAB P N B (SSt.abs (⟨fn,s,.code (.loop c) :: k,ds,.run,ro⟩,cs,A)) (SSt.abs (⟨fn,s,.code c :: .inLoop c :: k,ds,.run,ro⟩,cs,A)) := zAB.sstep hc rfl
    refine ⟨fun s' ds' A' e => absurd e (g1 _ _ _),fun j s' ds' A' e => ?_⟩
    obtain ⟨k',l1,l2⟩ := g2 j s' ds' A' e
    exact ⟨k',l1,h0.trans l2⟩
  | rangeFunc f ps asg body _ _ =>
    intro fn ro s ds A k cs
    have hun : bcode P X R m (.rangeFunc f ps asg body) D fn ro s ds A = brange P f ps asg body D fn ro s ds A := rfl
    rw [hun]
    unfold brange
    split
    · rename_i ho
      split
      · rename_i l mk A1 hen
        split
        · rename_i g first captured hf
          split
          · rename_i u A2 hcall
            have h0 : zAB P N B (SSt.abs (⟨fn,s,.code (.rangeFunc f ps asg body) :: k,ds,.run,ro⟩,cs,A)) (SSt.abs (⟨fn,s,.endRangeFunc l :: k,mk ++ ds,.run,ro⟩,cs,A2)) := by
              obtain ⟨s1,g1,g2⟩ := hD hcall (FF.abs ⟨fn,s,.inRangeFunc l :: k,mk ++ ds,.run,ro⟩) (cs.map FF.abs)
              have hfin : (FF.abs ⟨fn,s,.inRangeFunc l :: k,mk ++ ds,.run,ro⟩).finish u = FF.abs ⟨fn,s,.endRangeFunc l :: k,mk ++ ds,.run,ro⟩ := sfin_eq rfl
              rw [hfin] at g2
              refine (zAB.step hc ?_).trans g2
              have hev : zBP s = (FF.abs ⟨fn,s,.code (.rangeFunc f ps asg body) :: k,ds,.run,ro⟩).eval := by rw [zCY,← feval_eq]; rfl
              rw [hev] at hf
              unfold zDQ
              simp only [FF.abs] at hf g1 ⊢
              simp only [ho,hen,hf]
              exact g1
            have h1 : ∀ j A3,arun P (Instr.endLoop l) A2 = some (j,A3) → zAB P N B (SSt.abs (⟨fn,s,.code (.rangeFunc f ps asg body) :: k,ds,.run,ro⟩,cs,A)) (SSt.abs (⟨fn,s,(j.map Item.code).toList ++ k,mk ++ ds,.run,ro⟩,cs,A3)) := fun j A3 he =>
              h0.trans (zAB.sstep hc (by simp [sStep,sitem,he]))
            split
            · rename_i A3 he
              exact ⟨fun s' ds' A' e => (by cases e; exact h1 _ _ he),fun _ _ _ _ e => (by cases e)⟩
            · rename_i j A3 he
              refine ⟨fun _ _ _ e => (by cases e),fun j' s' ds' A' e => ?_⟩
              cases e
              exact ⟨k,fun _ _ => rfl,h1 _ _ he⟩
            · exact ⟨fun _ _ _ e => (by cases e),fun _ _ _ _ e => (by cases e)⟩
          · exact ⟨fun _ _ _ e => (by cases e),fun _ _ _ _ e => (by cases e)⟩
        · exact ⟨fun _ _ _ e => (by cases e),fun _ _ _ _ e => (by cases e)⟩
      · exact ⟨fun _ _ _ e => (by cases e),fun _ _ _ _ e => (by cases e)⟩
    · exact ⟨fun _ _ _ e => (by cases e),fun _ _ _ _ e => (by cases e)⟩
  | exit id =>
    intro fn ro s ds A k cs
    exact ⟨fun _ _ _ e => (by cases e),fun _ _ _ _ e => by cases e; exact ⟨k,fun _ _ => rfl,zAB.refl _⟩⟩
  | scope c ih =>
    intro fn ro s ds A k cs
    have hun : bcode P X R m (.scope c) D fn ro s ds A = bcode P X R m c D fn ro s ds A := rfl
    rw [hun]
    obtain ⟨g1,g2⟩ := ih fn ro s ds A (.inScope c :: k) cs
    have h0 : zAB P N B (SSt.abs (⟨fn,s,.code (.scope c) :: k,ds,.run,ro⟩,cs,A)) (SSt.abs (⟨fn,s,.code c :: .inScope c :: k,ds,.run,ro⟩,cs,A)) := zAB.sstep hc rfl
    refine ⟨fun s' ds' A' e => h0.trans ((g1 _ _ _ e).trans (zAB.sstep hc rfl)),fun j s' ds' A' e => ?_⟩
    obtain ⟨k',l1,l2⟩ := g2 _ _ _ _ e
    exact ⟨k',fun id hj => (l1 id hj).trans (by simp [exitTo]),h0.trans l2⟩
  | label l =>
    intro fn ro s ds A k cs
    exact ⟨fun _ _ _ e => (by cases e; exact zAB.sstep hc rfl),fun _ _ _ _ e => (by cases e)⟩
  | goto l => exact CodeOK.bad fun _ _ _ _ _ => rfl
  | ret =>
    intro fn ro s ds A k cs
    exact ⟨fun _ _ _ e => (by cases e),fun _ _ _ _ e => by cases e; exact ⟨k,fun _ _ => rfl,zAB.refl _⟩⟩
  | refuse w => exact CodeOK.bad fun _ _ _ _ _ => rfl
theorem bdefs_ok (hc : zAJ P) {f : Func} {g : FuncId} (hf : P.funcs[g]? = some f) {s : Slots} {td : List Item} : ∀ (ds : List Deferred) (A : AHeap) (v : Value) (A1 : AHeap),bdefs P f s ds A = .yes v A1 →
    ∃ (frE : Frame) (AE : AHeap),frE.fn = g ∧ frE.mode = .returning ∧ frE.defers = [] ∧ arun P (results f frE.tmps) AE = some (v,A1) ∧
      ∀ cs,zAB P N B (FF.abs ⟨g,s,td,ds,.returning,none⟩,cs,A) (frE,cs,AE) := by
  intro ds
  induction ds with
  | nil =>
    intro A v A1 h
    have h : VR.of (zCK P f s A) = .yes v A1 := h
    have h := VR.of_eq h
    rw [sresults_eq] at h
    exact ⟨FF.abs ⟨g,s,td,[],.returning,none⟩,A,rfl,rfl,rfl,h,fun cs => zAB.refl _⟩
  | cons d ds ih =>
    intro A v A1 h
    obtain ⟨tg,ar⟩ := d
    cases tg <;> try (cases h; done)
    case collected b =>
      have h : (match arun P (Instr.takeDeferred b) A with | some (l,A1) => (match l with | [] => bdefs P f s ds A1 | _ => VR.no) | none => VR.no) = .yes v A1 := h
      split at h
      · rename_i l A2 hr
        split at h
        · obtain ⟨frE,AE,g0,g1,g2,g3,g4⟩ := ih A2 v A1 h
          refine ⟨frE,AE,g0,g1,g2,g3,fun cs => (zAB.step hc ?_).trans (g4 cs)⟩
          unfold zDQ
          simp only [FF.abs]
          simp [hr]
        · cases h
      · cases h
theorem DROK.at (hR : DROK P R) (hD : ∀ N,OrcOK P N D) : ∀ ops s A s1 A1,R D ops s A = some (s1,A1) → ∃ Rd C,RdOK P Rd ∧ (∀ N,RunsOK P N C) ∧ region P Rd C ops (sabs s) A = some (sabs s1,A1) := fun _ _ _ _ _ h => by
  obtain ⟨Rd,h1,h2⟩ := hR _ _ _ _ _ _ h
  exact ⟨Rd,corc D,h1,fun N => RunsOK.of_orc (hD N),h2⟩
theorem bfun_ok (hc : zAJ P) (hx : P.follows .mixedOrders = true) (hD : ∀ N,OrcOK P N D) (hX : XOK P X) (hR : DROK P R) {g : FuncId} {xs : Array Value} {A : AHeap} {v : Value} {A1 : AHeap} (h : bfun P X R m D g xs A = .yes v A1) : FunOK P N g xs A v A1 := by
  unfold bfun at h
  split at h
  · rename_i fn hfn
    split at h
    · rename_i c hb
      split at h
      · rename_i hle
        rw [lenR_eq,Array.length_toList] at hle
        have hen : senter P g xs = some ⟨g,⟨fn.ntmps,zDZ xs.toList 0 .leaf⟩,[.code c],[],.run,none⟩ := by simp [senter,hfn,hb,hle]
        obtain ⟨_,e2,fn',e3,_⟩ := senter_eq hen
        rw [zCX] at hfn
        have key : ∀ s ds A2 (td : List Item),(∀ cs : List FF,zAB P N (.any N) (SSt.abs (⟨g,⟨fn.ntmps,zDZ xs.toList 0 .leaf⟩,[.code c],[],.run,none⟩,cs,A)) (SSt.abs (⟨g,s,td,ds,.returning,none⟩,cs,A2))) →
            bdefs P fn s ds A2 = .yes v A1 → FunOK P N g xs A v A1 := by
          intro s ds A2 td hl hd
          obtain ⟨frE,AE,g0,g1,g2,g3,g4⟩ := bdefs_ok (N := N) hc hfn (td := td) ds A2 v A1 hd
          refine ⟨frE,AE,fn,g0,g1,g2,hfn,g3,fun cs => ?_⟩
          rw [e2]
          have hl' : zAB P N (.any N) (FF.abs ⟨g,⟨fn.ntmps,zDZ xs.toList 0 .leaf⟩,[.code c],[],.run,none⟩,cs,A) (FF.abs ⟨g,s,td,ds,.returning,none⟩,cs,A2) := by
            intro φ w fr' cs' _ h1 h2 h3 h4 base
            obtain ⟨ψ,fr1',cs1',w1,k1,k2,k3,k4,k5,k6⟩ := hl [] φ w fr' [] trivial h1 .nil h3 h4 (cs' ++ base)
            cases k3
            exact ⟨ψ,fr1',cs',w1,k1,k2,h2.mono k1,k4,k5,by simpa using k6⟩
          exact hl'.trans (g4 cs)
        have hbc := bcode_ok (N := N) (B := .any N) (m := m) (X := X) hc hx ((hD N).callOK _) hX (hR.at hD) c g none ⟨fn.ntmps,zDZ xs.toList 0 .leaf⟩ [] A
        unfold bfin at h
        split at h
        · rename_i s ds A2 hr
          refine key s ds A2 [] (fun cs => ((hbc [] cs).1 _ _ _ hr).trans (zAB.sstep hc rfl)) h
        · rename_i j s ds A2 hr
          split at h
          · obtain ⟨k',_,l2⟩ := (hbc [] []).2 _ _ _ _ hr
            refine key s ds A2 (.code .ret :: k') (fun cs => ?_) h
            have l3 : zAB P N (.any N) (SSt.abs (⟨g,⟨fn.ntmps,zDZ xs.toList 0 .leaf⟩,[.code c],[],.run,none⟩,[],A)) (SSt.abs (⟨g,s,.code .ret :: k',ds,.returning,none⟩,[],A2)) := l2.trans (zAB.sstep hc rfl)
            intro φ w fr' cs' _ h1 h2 h3 h4 base
            obtain ⟨ψ,fr1',cs1',w1,k1,k2,k3,k4,k5,k6⟩ := l3 φ w fr' [] trivial h1 .nil h3 h4 (cs' ++ base)
            cases k3
            exact ⟨ψ,fr1',cs',w1,k1,k2,h2.mono k1,k4,k5,by simpa using k6⟩
          · cases h
        · cases h
      · cases h
    · cases h
  · cases h
theorem FunOK.call (hc : zAJ P) {g : FuncId} {xs : Array Value} {A : AHeap} {v : Value} {A1 : AHeap} (h : FunOK P N g xs A v A1) (fr : Frame) (cs : List Frame) :
    zAB P N (.any N) (Frame.enter P g xs .normal,fr :: cs,A) (fr.finish v,cs,A1) := by
  obtain ⟨frE,AE,fn,e1,hm,hd,hfn,hres,hl⟩ := h
  refine (hl (fr :: cs)).trans (zAB.step hc ?_)
  unfold zDQ
  simp only [hm,hd,e1,hfn,hres]
theorem endR_leads (hc : zAJ P) {l : Nat} {jump : Option Code} {A A1 : AHeap} {v : Value} (h : endR P l jump A = .yes v A1) {fr c : Frame} {cs : List Frame} (hro : fr.roundOf = some l) (ha : zDQ P fr (c :: cs) A = aleave P jump fr (c :: cs) A) :
    zAB P N (.any N) (fr,c :: cs,A) (c.finish v,cs,A1) := by
  refine zAB.step hc ?_
  rw [ha]
  unfold aleave
  rw [hro]
  simp only
  rw [VR.of_eq h]
theorem byield_ok (hc : zAJ P) (hx : P.follows .mixedOrders = true) (hD : ∀ N,OrcOK P N D) (hX : XOK P X) (hR : DROK P R) {l : Nat} {r : Loop} {args : Array Value} {A : AHeap} {v : Value} {A1 : AHeap} (ho : A.obj l = some (.loop r)) (h : byield P X R m D l r args A = .yes v A1)
    (fr : Frame) (cs : List Frame) (a b : Array Value) : ∃ s1,acall P fr cs A (.func (.yield l) a b) args = some s1 ∧ zAB P N (.any N) s1 (fr.finish v,cs,A1) := by
  unfold byield at h
  split at h
  · rename_i hsz
    generalize hxs : (r.params.zip args).foldl (fun tmps (t,a) => tmps.setIfInBounds t a) r.tmps = xs at h
    refine ⟨(Frame.round l r.fn xs r.assign r.body .normal,fr :: cs,A),by simp only [acall,ho,hsz,← hxs],?_⟩
    simp only at h
    have e0 : Frame.round l r.fn xs r.assign r.body .normal = FF.abs ⟨r.fn,⟨xs.size,zDZ xs.toList 0 .leaf⟩,[.code r.assign,.beginRound,.code r.body],[],.run,some l⟩ := by
      simp only [Frame.round,FF.abs]
      rw [sargs_abs (Nat.le_refl _)]
      simp
    rw [e0]
    have lift : ∀ {s1 s2 : FF} {A A' : AHeap},zAB P N (.any N) (SSt.abs (s1,[],A)) (SSt.abs (s2,[],A')) → ∀ cs : List Frame,zAB P N (.any N) (s1.abs,cs,A) (s2.abs,cs,A') := by
      intro s1 s2 A A' hl cs φ w fr' cs' _ h1 h2 h3 h4 base
      obtain ⟨ψ,fr1',cs1',w1,k1,k2,k3,k4,k5,k6⟩ := hl φ w fr' [] trivial h1 .nil h3 h4 (cs' ++ base)
      cases k3
      exact ⟨ψ,fr1',cs',w1,k1,k2,h2.mono k1,k4,k5,by simpa using k6⟩
    split at h
    · rename_i s1 ds1 A2 hr1
      split at h
      · rename_i u A3 hbg
        have l1 := (bcode_ok (N := N) (B := .any N) (m := m) (X := X) hc hx ((hD N).callOK _) hX (hR.at hD) r.assign r.fn (some l) ⟨xs.size,zDZ xs.toList 0 .leaf⟩ [] A [.beginRound,.code r.body] []).1 _ _ _ hr1
        have l2 : zAB P N (.any N) (SSt.abs (⟨r.fn,s1,[.beginRound,.code r.body],ds1,.run,some l⟩,[],A2)) (SSt.abs (⟨r.fn,s1,[.code r.body],ds1,.run,some l⟩,[],A3)) := zAB.sstep hc (by simp [sStep,sitem,hbg,sdone,sfin])
        have hb := bcode_ok (N := N) (B := .any N) (m := m) (X := X) hc hx ((hD N).callOK _) hX (hR.at hD) r.body r.fn (some l) s1 ds1 A3 [] []
        split at h
        · rename_i s2 ds2 A4 hr2
          refine (lift (l1.trans (l2.trans (hb.1 _ _ _ hr2))) _).trans ?_
          exact endR_leads hc h rfl rfl
        · rename_i j s2 ds2 A4 hr2
          obtain ⟨k',e1,l3⟩ := hb.2 _ _ _ _ hr2
          refine (lift (l1.trans (l2.trans l3)) _).trans ?_
          split at h
          · exact endR_leads hc h rfl rfl
          · rename_i id
            refine endR_leads hc h rfl ?_
            have := e1 id rfl
            simp only [exitTo] at this
            unfold zDQ
            simp only [FF.abs,this]
          · cases h
        · cases h
      · cases h
    · cases h
  · cases h
theorem bstep_ok (hc : zAJ P) (hx : P.follows .mixedOrders = true) (hD : ∀ N,OrcOK P N D) (hX : XOK P X) (hR : DROK P R) : OrcOK P N (bstep P X R m D) := by
  refine ⟨fun {g first xs captured A v A1} h => ?_,fun {f args A v A1} h fr cs => ?_⟩
  · have h : bfun P X R m D g ⟨appR first.toList (appR xs.toList captured.toList)⟩ A = .yes v A1 := h
    rw [appR_arr] at h
    exact (bfun_ok hc hx hD hX hR h).ret
  unfold bstep at h
  split at h
  · rename_i f fn first captured
    split at h
    · rename_i g
      rw [appR_arr] at h
      have hf := bfun_ok (N := N) hc hx hD hX hR h
      refine ⟨(Frame.enter P g (first ++ args ++ captured) .normal,fr :: cs,A),?_,hf.call hc fr cs⟩
      unfold bfun at h
      split at h
      · rename_i fn hfn
        rw [zCX] at hfn
        split at h
        · rename_i c hb
          simp only [acall,hfn,hb,Option.isSome_some]
        · cases h
      · cases h
    · rename_i l
      split at h
      · rename_i r ho
        exact byield_ok hc hx hD hX hR ho h fr cs _ _
      · cases h
    · cases h
  · cases h
theorem borc_ok (hc : zAJ P) (hx : P.follows .mixedOrders = true) (hX : XOK P X) (hR : DROK P R) : ∀ n (N : Kp),OrcOK P N (borc P X R m n) := by
  intro n
  induction n with
  | zero => intro N; exact ⟨fun h => (by cases h),fun h => (by cases h)⟩
  | succ n ih => intro N; exact bstep_ok hc hx ih hX hR
end
theorem calls_of_bfun (hc : zAJ P) (hx : P.follows .mixedOrders = true) {X : Oper → XF} {R : DR} (hX : XOK P X) (hR : DROK P R) {m g : Nat} {D : Orc} (hD : ∀ N,OrcOK P N D) {fn : Func} {t : Tmp} (hfn : P.funcs[g]? = some fn) (hres : fn.results = #[.tmp t]) {A1 : AHeap} (hv : bfun P X R m D g #[] ⟨0,.leaf⟩ = .yes (.bool true) A1) (w : World) : Calls P g #[] w (fun e w' => e = .returned (.bool true) ∧ Below w.heap.size w w') := by
  obtain ⟨frE,AE,fn',e1,hm,hd,hf',hr,hl⟩ := bfun_ok (N := above w) (m := m) hc hx hD hX hR hv
  rw [hfn] at hf'; cases hf'
  have h0 : FrR (fun _ => none) (Frame.enter P g #[] .normal) (Frame.enter P g #[] .normal) := by
    refine ⟨rfl,?_,?_,.nil,rfl,rfl,rfl,rfl⟩
    · refine AR.of rfl fun i v hv => ⟨v,hv,?_⟩
      have := Array.mem_of_getElem? hv
      simp [Frame.enter] at this
      rw [this.2]
      exact V.undef _
    · simp only [Frame.enter]
      exact .code _ .nil
  have hs0 : Sim (above w) (fun _ => none) ⟨0,.leaf⟩ w := {
    fresh := fun b e he => by cases he
    base := fun b x e hb => by cases hb
    alive := fun b x hb => by cases hb
    inj := fun b b' x x' e e' _ hb => by cases hb
    res := fun b hb => hb.elim }
  intro cs
  obtain ⟨ψ,frE',cs1',w1,g1,g2,g3,g4,g5,g6⟩ := hl [] _ w _ [] trivial h0 .nil hs0 (fun _ h => h) cs
  cases g3
  have hv2 : frE.tmps[t]? = some (.bool true) := by
    simp only [results,hres] at hr
    simp at hr
    have hgd := hr.1
    cases hq : frE.tmps[t]? with
    | none => rw [hq] at hgd; simp [undef] at hgd
    | some u => rw [hq] at hgd; simp at hgd; rw [hgd]
  obtain ⟨v',k1,k2⟩ := g2.tmps.get hv2
  cases k2
  have hdl : frE'.defers = [] := by
    have := g2.defers
    simp only at this
    rw [hd] at this
    cases hl : frE'.defers with
    | nil => rfl
    | cons d l => rw [hl] at this; cases this
  refine ⟨.returned (.bool true),w1,frE',⟨rfl,g5.below⟩,g6,g2.fn.trans e1,g2.mode.trans hm,hdl,g2.kind',fn,?_,?_⟩
  · rw [g2.fn,e1]; exact hfn
  · simp [results,hres,Array.getD_eq_getD_getElem?,k1]
def btellsD (P : Program) (X : Oper → XF) (R : DR) (m : Nat) (D : Orc) (g : Nat) : Bool := match nth P.funcs.toList g with
  | some fn => match fn.results.toList with
    | [.tmp _] => match bfun P X R m D g #[] ⟨0,.leaf⟩ with
      | .yes v _ => match v with
        | .bool b => b
        | _ => false
      | .no => false
    | _ => false
  | none => false
theorem calls_of_btellsD (hc : zAJ P) (hx : P.follows .mixedOrders = true) {X : Oper → XF} {R : DR} (hX : XOK P X) (hR : DROK P R) {m g : Nat} {D : Orc} (hD : ∀ N,OrcOK P N D) (h : btellsD P X R m D g = true) (w : World) : Calls P g #[] w (fun e w' => e = .returned (.bool true) ∧ Below w.heap.size w w') := by
  unfold btellsD at h
  split at h
  · rename_i fn hfn
    rw [zCX] at hfn
    split at h
    · rename_i t hres
      have hres : fn.results = #[.tmp t] := by rw [← Array.toArray_toList (xs := fn.results),hres]
      split at h
      · rename_i v A1 hv
        split at h
        · subst h
          exact calls_of_bfun hc hx hX hR hD hfn hres hv w
        · cases h
      · cases h
    · cases h
  · cases h
theorem calls_of_btells (hc : zAJ P) (hx : P.follows .mixedOrders = true) {X : Oper → XF} {R : DR} (hX : XOK P X) (hR : DROK P R) {m g n : Nat} (h : btells P X R m g (n + 1) = true) (w : World) : Calls P g #[] w (fun e w' => e = .returned (.bool true) ∧ Below w.heap.size w w') := by
  refine calls_of_btellsD hc hx hX hR (m := m) (borc_ok (m := m) hc hx hX hR n) ?_ w
  have e : borc P X R m (n + 1) (.func (.func g) #[] #[]) #[] ⟨0,.leaf⟩ = bfun P X R m (borc P X R m n) g #[] ⟨0,.leaf⟩ := by
    have : borc P X R m (n + 1) = bstep P X R m (borc P X R m n) := rfl
    rw [this]
    rfl
  unfold btells at h
  unfold btellsD
  rw [e] at h
  exact h
end
end Go.Proofs.Ytdaljohmfnfgiaa.Canon

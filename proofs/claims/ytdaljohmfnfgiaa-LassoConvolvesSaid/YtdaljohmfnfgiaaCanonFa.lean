/- What the proof of this claim is made of. No condition. -/
import Derived.Test.YtdaljohmfnfgiaaCanonCd
namespace Go.Proofs.Ytdaljohmfnfgiaa.Canon
open Go Go.RowKit
noncomputable section
variable {P : Program}
inductive Jm where
  | fall
  | ret
  | exit (id : Nat)
def JmOK (j : Jm) (k k1 : List Item) : Prop := match j with
  | .fall => k1 = k
  | .ret => ∃ k',k1 = .code .ret :: k'
  | .exit id => ∃ k',k1 = .code (.exit id) :: k' ∧ exitTo id k' = exitTo id k
abbrev Post := Jm → Slots → List Deferred → AHeap → Prop
def Rn (P : Program) (fn : FuncId) (ro : Option Nat) (td : List Item) (s : Slots) (ds : List Deferred) (A : AHeap) (Q : Post) : Prop :=
  ∃ j s1 ds1 A1,Q j s1 ds1 A1 ∧ ∀ (N : Kp) (k : List Item) (cs : List Frame),∃ k1,JmOK j k k1 ∧
    zAB P N (.any N) (FF.abs ⟨fn,s,td ++ k,ds,.run,ro⟩,cs,A) (FF.abs ⟨fn,s1,k1,ds1,.run,ro⟩,cs,A1)
section
variable {fn : FuncId} {ro : Option Nat} {td : List Item} {s : Slots} {ds : List Deferred} {A : AHeap} {Q : Post}
theorem Rn.fall (h : Q .fall s ds A) : Rn P fn ro [] s ds A Q := ⟨.fall,s,ds,A,h,fun _ k _ => ⟨k,rfl,zAB.refl _⟩⟩
theorem Rn.ret (h : Q .ret s ds A) : Rn P fn ro (.code .ret :: td) s ds A Q := ⟨.ret,s,ds,A,h,fun _ k _ => ⟨.code .ret :: (td ++ k),⟨_,rfl⟩,zAB.refl _⟩⟩
theorem Rn.mono {Q' : Post} (h : Rn P fn ro td s ds A Q) (hQ : ∀ j s1 ds1 A1,Q j s1 ds1 A1 → Q' j s1 ds1 A1) : Rn P fn ro td s ds A Q' := by
  obtain ⟨j,s1,ds1,A1,h1,h2⟩ := h
  exact ⟨j,s1,ds1,A1,hQ _ _ _ _ h1,h2⟩
theorem Rn.leads {td' : List Item} {s' : Slots} {ds' : List Deferred} {A' : AHeap} (h : ∀ (N : Kp) (k : List Item) (cs : List Frame),zAB P N (.any N) (FF.abs ⟨fn,s,td ++ k,ds,.run,ro⟩,cs,A) (FF.abs ⟨fn,s',td' ++ k,ds',.run,ro⟩,cs,A'))
    (h2 : Rn P fn ro td' s' ds' A' Q) : Rn P fn ro td s ds A Q := by
  obtain ⟨j,s1,ds1,A1,h1,h3⟩ := h2
  refine ⟨j,s1,ds1,A1,h1,fun N k cs => ?_⟩
  obtain ⟨k1,h4,h5⟩ := h3 N k cs
  exact ⟨k1,h4,(h N k cs).trans h5⟩
theorem Rn.step (hc : zAJ P) {td' : List Item} {s' : Slots} {ds' : List Deferred} {A' : AHeap} (h : ∀ (k : List Item) (cs : List Frame),zDQ P (FF.abs ⟨fn,s,td ++ k,ds,.run,ro⟩) cs A = some (FF.abs ⟨fn,s',td' ++ k,ds',.run,ro⟩,cs,A'))
    (h2 : Rn P fn ro td' s' ds' A' Q) : Rn P fn ro td s ds A Q := h2.leads fun N k cs => zAB.step hc (h k cs)
theorem Rn.seq (hc : zAJ P) {a b : Code} (h : Rn P fn ro (.code a :: .code b :: td) s ds A Q) : Rn P fn ro (.code (.seq a b) :: td) s ds A Q := h.step hc fun _ _ => rfl
theorem Rn.skip (hc : zAJ P) (h : Rn P fn ro td s ds A Q) : Rn P fn ro (.code .skip :: td) s ds A Q := h.step hc fun _ _ => rfl
theorem Rn.block (hc : zAJ P) {id : Nat} {a : Code} (h : Rn P fn ro (.code a :: .inBlock id :: td) s ds A Q) : Rn P fn ro (.code (.block id a) :: td) s ds A Q := h.step hc fun _ _ => rfl
theorem Rn.inBlock (hc : zAJ P) {id : Nat} (h : Rn P fn ro td s ds A Q) : Rn P fn ro (.inBlock id :: td) s ds A Q := h.step hc fun _ _ => rfl
theorem Rn.scope (hc : zAJ P) {a : Code} (h : Rn P fn ro (.code a :: .inScope a :: td) s ds A Q) : Rn P fn ro (.code (.scope a) :: td) s ds A Q := h.step hc fun _ _ => rfl
theorem Rn.loop (hc : zAJ P) {a : Code} (h : Rn P fn ro (.code a :: .inLoop a :: td) s ds A Q) : Rn P fn ro (.code (.loop a) :: td) s ds A Q := h.step hc fun _ _ => rfl
theorem Rn.inLoop (hc : zAJ P) {a : Code} (h : Rn P fn ro (.code a :: .inLoop a :: td) s ds A Q) : Rn P fn ro (.inLoop a :: td) s ds A Q := h.step hc fun _ _ => rfl
theorem fev_eq (td : List Item) (x : Operand) : (FF.abs ⟨fn,s,td,ds,.run,ro⟩).eval x = zBP s x := by
  have : zBP s = (FF.abs ⟨fn,s,td,ds,.run,ro⟩).eval := by rw [zCY,← feval_eq]; rfl
  rw [this]
theorem Rn.cond (hc : zAJ P) {c : Operand} {a b : Code} (ho : zAC c = true) {t : Bool} (hv : zBP s c = .bool t) (h1 : t = true → Rn P fn ro (.code a :: td) s ds A Q) (h2 : t = false → Rn P fn ro (.code b :: td) s ds A Q) :
    Rn P fn ro (.code (.cond c a b) :: td) s ds A Q := by
  cases t with
  | true =>
    refine (h1 rfl).step hc fun k cs => ?_
    have e := fev_eq (fn := fn) (s := s) (ds := ds) (ro := ro) (.code (.cond c a b) :: (td ++ k)) c
    rw [hv] at e
    simp only [zDQ,FF.abs,List.cons_append] at e ⊢
    simp [ho,e]
  | false =>
    refine (h2 rfl).step hc fun k cs => ?_
    have e := fev_eq (fn := fn) (s := s) (ds := ds) (ro := ro) (.code (.cond c a b) :: (td ++ k)) c
    rw [hv] at e
    simp only [zDQ,FF.abs,List.cons_append] at e ⊢
    simp [ho,e]
theorem Rn.condT (hc : zAJ P) {c : Operand} {a b : Code} (ho : zAC c = true) (hv : zBP s c = .bool true) (h1 : Rn P fn ro (.code a :: td) s ds A Q) :
    Rn P fn ro (.code (.cond c a b) :: td) s ds A Q := Rn.cond hc ho hv (fun _ => h1) (fun h => by cases h)
theorem Rn.condF (hc : zAJ P) {c : Operand} {a b : Code} (ho : zAC c = true) (hv : zBP s c = .bool false) (h1 : Rn P fn ro (.code b :: td) s ds A Q) :
    Rn P fn ro (.code (.cond c a b) :: td) s ds A Q := Rn.cond hc ho hv (fun h => by cases h) (fun _ => h1)
theorem Rn.zAM (hc : zAJ P) {c : Operand} {a b : Code} (ho : zAC c = true) (h : ∃ t,zBP s c = .bool t ∧ (match t with | true => Rn P fn ro (.code a :: td) s ds A Q | false => Rn P fn ro (.code b :: td) s ds A Q)) :
    Rn P fn ro (.code (.cond c a b) :: td) s ds A Q := by
  obtain ⟨t,h1,h2⟩ := h
  cases t with
  | true => exact Rn.condT hc ho h1 h2
  | false => exact Rn.condF hc ho h1 h2
def exitL (id : Nat) : List Item → Option (List Item)
  | [] => none
  | .inBlock i :: k => match Nat.beq i id with
    | true => some k
    | false => exitL id k
  | _ :: k => exitL id k
theorem exitL_some {id : Nat} : ∀ {td td' : List Item},exitL id td = some td' → ∀ k,exitTo id (td ++ k) = some (td' ++ k) := by
  intro td
  induction td with
  | nil => intro td' h; cases h
  | cons i td ih =>
    intro td' h k
    cases i <;> simp only [exitL] at h <;> try (simp only [List.cons_append,exitTo]; exact ih h k)
    rename_i i
    simp only [List.cons_append,exitTo]
    cases hb : Nat.beq i id with
    | true =>
      rw [hb] at h
      cases h
      have := Nat.eq_of_beq_eq_true hb
      subst this
      simp
    | false =>
      rw [hb] at h
      have hne : ¬ i = id := fun he => by subst he; simp at hb
      simp [hne,ih h k]
theorem exitL_none {id : Nat} : ∀ {td : List Item},exitL id td = none → ∀ k,exitTo id (td ++ k) = exitTo id k := by
  intro td
  induction td with
  | nil => intro _ k; rfl
  | cons i td ih =>
    intro h k
    cases i <;> simp only [exitL] at h <;> try (simp only [List.cons_append,exitTo]; exact ih h k)
    rename_i i
    simp only [List.cons_append,exitTo]
    cases hb : Nat.beq i id with
    | true => rw [hb] at h; cases h
    | false =>
      rw [hb] at h
      have hne : ¬ i = id := fun he => by subst he; simp at hb
      simp [hne,ih h k]
theorem Rn.exit (hc : zAJ P) {id : Nat} {td' : List Item} (he : exitL id td = some td') (h : Rn P fn ro td' s ds A Q) : Rn P fn ro (.code (.exit id) :: td) s ds A Q :=
  h.step hc fun k cs => by
    simp only [zDQ,FF.abs,List.cons_append]
    simp [exitL_some he k]
theorem Rn.cut (hc : zAJ P) {td2 : List Item} {Q1 : Post} (h : Rn P fn ro td s ds A Q1) (h1 : ∀ s1 ds1 A1,Q1 .fall s1 ds1 A1 → Rn P fn ro td2 s1 ds1 A1 Q)
    (h2 : ∀ s1 ds1 A1,Q1 .ret s1 ds1 A1 → Q .ret s1 ds1 A1) (h3 : ∀ id s1 ds1 A1,Q1 (.exit id) s1 ds1 A1 → (∃ t,exitL id td2 = some t ∧ Rn P fn ro t s1 ds1 A1 Q) ∨ (exitL id td2 = none ∧ Q (.exit id) s1 ds1 A1)) :
    Rn P fn ro (td ++ td2) s ds A Q := by
  obtain ⟨j,s1,ds1,A1,hq,hl⟩ := h
  cases j with
  | fall =>
    refine (h1 _ _ _ hq).leads fun N k cs => ?_
    obtain ⟨k1,e,l⟩ := hl N (td2 ++ k) cs
    have e : k1 = td2 ++ k := e
    subst e
    simpa using l
  | ret =>
    refine ⟨.ret,s1,ds1,A1,h2 _ _ _ hq,fun N k cs => ?_⟩
    obtain ⟨k1,e,l⟩ := hl N (td2 ++ k) cs
    exact ⟨k1,e,by simpa using l⟩
  | exit id =>
    rcases h3 _ _ _ _ hq with ⟨t,hx,hr⟩ | ⟨hx,hq2⟩
    · refine hr.leads fun N k cs => ?_
      obtain ⟨k1,⟨k',rfl,e⟩,l⟩ := hl N (td2 ++ k) cs
      have e2 := exitL_some hx k
      rw [← e] at e2
      refine (by simpa using l : zAB P N (.any N) _ _).trans (zAB.step hc ?_)
      simp only [zDQ,FF.abs]
      simp [e2]
    · refine ⟨.exit id,s1,ds1,A1,hq2,fun N k cs => ?_⟩
      obtain ⟨k1,⟨k',rfl,e⟩,l⟩ := hl N (td2 ++ k) cs
      exact ⟨_,⟨k',rfl,e.trans (exitL_none hx k)⟩,by simpa using l⟩
theorem Rn.cut2 (hc : zAJ P) {c : Code} {Q1 : Slots → List Deferred → AHeap → Prop} {Q2 : Slots → List Deferred → AHeap → Prop}
    (h : Rn P fn ro [.code c] s ds A (fun j s1 ds1 A1 => match j with | .fall => Q1 s1 ds1 A1 | .ret => Q2 s1 ds1 A1 | _ => False)) (h1 : ∀ s1 ds1 A1,Q1 s1 ds1 A1 → Rn P fn ro td s1 ds1 A1 Q)
    (h2 : ∀ s1 ds1 A1,Q2 s1 ds1 A1 → Q .ret s1 ds1 A1) : Rn P fn ro (.code c :: td) s ds A Q :=
  Rn.cut (td := [.code c]) hc h h1 h2 (fun _ _ _ _ h => h.elim)
def Ret (P : Program) (g : FuncId) (xs : List Value) (A : AHeap) (v : Value) (A1 : AHeap) : Prop := (∃ fn,P.funcs[g]? = some fn ∧ fn.body.isSome = true) ∧ ∀ N,RetOK P N g ⟨xs⟩ A v A1
def Con (P : Program) (g : FuncId) (xs : List Value) (A : AHeap) (Q : Value → AHeap → Prop) : Prop := ∃ v A1,Ret P g xs A v A1 ∧ Q v A1
theorem Con.mono {g : FuncId} {xs : List Value} {Q Q' : Value → AHeap → Prop} (h : Con P g xs A Q) (hQ : ∀ v A1,Q v A1 → Q' v A1) : Con P g xs A Q' := by
  obtain ⟨v,A1,h1,h2⟩ := h
  exact ⟨v,A1,h1,hQ _ _ h2⟩
def orc1 (g : FuncId) (xs : List Value) (A : AHeap) (v : Value) (A1 : AHeap) : Orc := fun f args A' => by
  classical exact if (∃ fi ca,f = .func (.func g) fi ca ∧ (fi ++ args ++ ca).toList = xs) ∧ A' = A then .yes v A1 else .no
theorem orc1_ok {g : FuncId} {xs : List Value} {A : AHeap} {v : Value} {A1 : AHeap} (h : Ret P g xs A v A1) (N : Kp) : OrcOK P N (orc1 g xs A v A1) := by
  obtain ⟨⟨fn,h1,h2⟩,h3⟩ := h
  have rows : ∀ (fi args ca : Array Value),(fi ++ args ++ ca).toList = xs → fi ++ args ++ ca = ⟨xs⟩ := fun fi args ca e => by rw [← e]
  refine ⟨fun {g' first ys captured A' v' A1'} hD => ?_,fun {f args A' v' A1'} hD fr cs => ?_⟩
  · unfold orc1 at hD
    split at hD
    · rename_i hh
      obtain ⟨⟨fi,ca,e1,e2⟩,rfl⟩ := hh
      cases e1
      cases hD
      rw [rows _ _ _ e2]
      exact h3 N
    · cases hD
  · unfold orc1 at hD
    split at hD
    · rename_i hh
      obtain ⟨⟨fi,ca,rfl,e2⟩,rfl⟩ := hh
      cases hD
      refine ⟨(Frame.enter P g (fi ++ args ++ ca) .normal,fr :: cs,A'),by simp only [acall,h1,h2],?_⟩
      rw [rows _ _ _ e2]
      exact (h3 N).leads fr cs
    · cases hD
theorem orc1_yes {g : FuncId} {xs : List Value} {A : AHeap} {v : Value} {A1 : AHeap} {fi args ca : Array Value} (h : (fi ++ args ++ ca).toList = xs) : orc1 g xs A v A1 (.func (.func g) fi ca) args A = .yes v A1 := by
  unfold orc1
  rw [if_pos ⟨⟨fi,ca,rfl,h⟩,rfl⟩]
def Wo (P : Program) (ops : Array Oper) (i : Nat) (s : Slots) (A : AHeap) (K : Slots → AHeap → Prop) : Prop :=
  ∃ s1 A1,K s1 A1 ∧ ∀ (N : Kp) (fn : FuncId) (ro : Option Nat) (ds : List Deferred) (k : List Item) (cs : List Frame),
    zAB P N (.any N) (FF.abs ⟨fn,s,.inRegion ops (List.range' i (ops.size - i)) :: k,ds,.run,ro⟩,cs,A) (FF.abs ⟨fn,s1,k,ds,.run,ro⟩,cs,A1)
theorem lift_leads {N : Kp} {s1 s2 : FF} {A A' : AHeap} (hl : zAB P N (.any N) (SSt.abs (s1,[],A)) (SSt.abs (s2,[],A'))) : ∀ cs : List Frame,zAB P N (.any N) (s1.abs,cs,A) (s2.abs,cs,A') := by
  intro cs φ w fr' cs' _ h1 h2 h3 h4 base
  obtain ⟨ψ,fr1',cs1',w1,k1,k2,k3,k4,k5,k6⟩ := hl φ w fr' [] trivial h1 .nil h3 h4 (cs' ++ base)
  cases k3
  exact ⟨ψ,fr1',cs',w1,k1,k2,h2.mono k1,k4,k5,by simpa using k6⟩
theorem Rn.region (hc : zAJ P) {id : Nat} {ops : Array Oper} (h : ∀ K : Slots → AHeap → Prop,(∀ s1 A1,Rn P fn ro td s1 ds A1 Q → K s1 A1) → Wo P ops 0 s A K) : Rn P fn ro (.code (.region id ops false) :: td) s ds A Q := by
  obtain ⟨s1,A1,h1,h2⟩ := h _ fun s1 A1 h => h
  refine h1.leads fun N k cs => ?_
  refine (zAB.step hc ?_).trans (h2 N fn ro ds (td ++ k) cs)
  simp only [zDQ,FF.abs,List.cons_append,Nat.sub_zero,List.range_eq_range']
theorem Wo.done (hc : zAJ P) {ops : Array Oper} {i : Nat} {K : Slots → AHeap → Prop} (hi : ops.size - i = 0) (h : K s A) : Wo P ops i s A K :=
  ⟨s,A,h,fun N fn ro ds k cs => by rw [hi]; exact lift_leads (zAB.sstep hc rfl) cs⟩
theorem Wo.op (hc : zAJ P) {D : Orc} (hD : ∀ N,OrcOK P N D) {ops : Array Oper} {i : Nat} {o : Oper} {v : Value} {A1 : AHeap} {K : Slots → AHeap → Prop} (ho : nth ops.toList i = some o)
    (h : (zCM (gd ops o) s = false ∧ v = undef ∧ A1 = A) ∨ (zCM (gd ops o) s = true ∧ OpOK P D o (zBP s) A v A1)) (h2 : Wo P ops (i + 1) (sput s o.dst v) A1 K) : Wo P ops i s A K := by
  obtain ⟨s1,A2,k1,k2⟩ := h2
  refine ⟨s1,A2,k1,fun N fn ro ds k cs => ?_⟩
  have hlt : i < ops.size := by
    rw [zCX] at ho
    exact (Array.getElem?_eq_some_iff.1 ho).1
  have e : ops.size - i = (ops.size - (i + 1)) + 1 := by omega
  rw [e,List.range'_succ]
  exact (lift_leads (op_leads hc ((hD N).callOK _) ho (k := k) (fn := fn) (ro := ro) (ds := ds) (rest := List.range' (i + 1) (ops.size - (i + 1))) (cs := []) h) cs).trans (k2 N fn ro ds k cs)
theorem bno_ok (N : Kp) : OrcOK P N bno := ⟨fun h => (by cases h),fun h => (by cases h)⟩
theorem Wo.call (hc : zAJ P) {ops : Array Oper} {i : Nat} {K : Slots → AHeap → Prop} {o : Oper} (ho : nth ops.toList i = some o) {f : Operand} {args : Array Operand} {g : FuncId} {fi ca : Array Value} {xs : List Value}
    (hop : callV o.op = some (f,args)) (hok : zAC f = true ∧ args.toList.all zAC = true) (hw : zCM (gd ops o) s = true) (hf : zBP s f = .func (.func g) fi ca) (hxs : fi.toList ++ args.toList.map (zBP s) ++ ca.toList = xs)
    (h : Con P g xs A (fun v A1 => Wo P ops (i + 1) (sput s o.dst v) A1 K)) : Wo P ops i s A K := by
  obtain ⟨v,A1,h1,h2⟩ := h
  obtain ⟨ats,e⟩ := callV_some hop
  refine Wo.op hc (orc1_ok h1) ho (.inr ⟨hw,.inl ⟨f,args,ats,e,hok.1,hok.2,?_⟩⟩) h2
  rw [hf]
  exact orc1_yes (by simpa using hxs)
theorem Rn.drawn (hc : zAJ P) (hx : P.follows .mixedOrders = true) {id : Nat} {ops : Array Oper} {Rd : Rds} (hRd : RdOK P Rd) {C : Runs} (hC : ∀ N,RunsOK P N C) {s1 : Slots} {A1 : AHeap} (h : Canon.region P Rd C ops (sabs s) A = some (sabs s1,A1)) (h2 : Rn P fn ro td s1 ds A1 Q) :
    Rn P fn ro (.code (.region id ops true) :: td) s ds A Q := by
  refine h2.leads fun N k cs => ?_
  intro φ w fr' cs' _ h1 h2 h3 h4
  exact region_sound hRd hc hx hC (fr := FF.abs ⟨fn,s,.code (.region id ops true) :: (td ++ k),ds,.run,ro⟩) (k := td ++ k) h rfl rfl h1 h2 h3 h4
end
def endQ (P : Program) (f : Func) (Q : Value → AHeap → Prop) : Post := fun j s ds A => match j with
  | .exit _ => False
  | _ => ∃ v A1,bdefs P f s ds A = .yes v A1 ∧ Q v A1
theorem zAF (hc : zAJ P) {g : FuncId} {f : Func} {c : Code} {xs : List Value} {A : AHeap} {Q : Value → AHeap → Prop} (hf : P.funcs[g]? = some f) (hb : f.body = some c) (hle : xs.length ≤ f.ntmps)
    (h : Rn P g none [.code c] ⟨f.ntmps,zDZ xs 0 .leaf⟩ [] A (endQ P f Q)) : Con P g xs A Q := by
  obtain ⟨j,s1,ds1,A1,hq,hl⟩ := h
  have hen : senter P g ⟨xs⟩ = some ⟨g,⟨f.ntmps,zDZ xs 0 .leaf⟩,[.code c],[],.run,none⟩ := by
    simp only [senter,zCX,hf,hb]
    have : Nat.ble (⟨xs⟩ : Array Value).size f.ntmps = true := Nat.ble_eq_true_of_le hle
    rw [this]
  obtain ⟨_,e2,_⟩ := senter_eq hen
  have key : ∀ v A2 (td : List Item),bdefs P f s1 ds1 A1 = .yes v A2 → (∀ N (cs : List Frame),zAB P N (.any N) (FF.abs ⟨g,⟨f.ntmps,zDZ xs 0 .leaf⟩,[.code c],[],.run,none⟩,cs,A) (FF.abs ⟨g,s1,td,ds1,.returning,none⟩,cs,A1)) → Ret P g xs A v A2 := by
    intro v A2 td hd hl
    refine ⟨⟨f,hf,by rw [hb]; rfl⟩,fun N => FunOK.ret ?_⟩
    obtain ⟨frE,AE,g0,g1,g2,g3,g4⟩ := bdefs_ok (N := N) hc hf (td := td) ds1 A1 v A2 hd
    refine ⟨frE,AE,f,g0,g1,g2,hf,g3,fun cs => ?_⟩
    rw [e2]
    exact (hl N cs).trans (g4 cs)
  cases j with
  | fall =>
    obtain ⟨v,A2,h1,h2⟩ := hq
    refine ⟨v,A2,key v A2 [] h1 (fun N cs => ?_),h2⟩
    obtain ⟨k1,e,l⟩ := hl N [] cs
    have e : k1 = [] := e
    subst e
    exact l.trans (zAB.step hc (by simp only [zDQ,FF.abs,aleave,Frame.roundOf]))
  | ret =>
    obtain ⟨v,A2,h1,h2⟩ := hq
    obtain ⟨k1,⟨k',rfl⟩,_⟩ := hl (above default) [] []
    refine ⟨v,A2,?_,h2⟩
    refine ⟨⟨f,hf,by rw [hb]; rfl⟩,fun N => ?_⟩
    obtain ⟨k1,⟨k',rfl⟩,l0⟩ := hl N [] []
    have l1 : zAB P N (.any N) (FF.abs ⟨g,⟨f.ntmps,zDZ xs 0 .leaf⟩,[.code c],[],.run,none⟩,[],A) (FF.abs ⟨g,s1,.code .ret :: k',ds1,.returning,none⟩,[],A1) :=
      l0.trans (zAB.step hc (by simp only [zDQ,FF.abs,aleave,Frame.roundOf]))
    refine FunOK.ret ?_
    obtain ⟨frE,AE,g0,g1,g2,g3,g4⟩ := bdefs_ok (N := N) hc hf (td := .code .ret :: k') ds1 A1 v A2 h1
    refine ⟨frE,AE,f,g0,g1,g2,hf,g3,fun cs => ?_⟩
    rw [e2]
    exact (lift_leads (s1 := ⟨g,⟨f.ntmps,zDZ xs 0 .leaf⟩,[.code c],[],.run,none⟩) (s2 := ⟨g,s1,.code .ret :: k',ds1,.returning,none⟩) l1 cs).trans (g4 cs)
  | exit id => exact hq.elim
end
end Go.Proofs.Ytdaljohmfnfgiaa.Canon

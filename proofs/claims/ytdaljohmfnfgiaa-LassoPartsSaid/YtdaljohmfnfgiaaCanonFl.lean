/- Functions that are ranged over, and their rounds. No condition. -/
import Derived.Test.YtdaljohmfnfgiaaCanonFk
namespace Go.Proofs.Ytdaljohmfnfgiaa.Canon
open Go Go.RowKit
noncomputable section
variable {P : Program}

/-- A round is made. -/
def YRet (P : Program) (l : Nat) (args : List Value) (A : AHeap) (v : Value) (A1 : AHeap) : Prop := ∀ (N : Kp) (fr : Frame) (cs : List Frame) (a b : Array Value), ∃ s1, acall P fr cs A (.func (.yield l) a b) ⟨args⟩ = some s1 ∧ Leads P N (.any N) s1 (fr.finish v, cs, A1)
def YCon (P : Program) (l : Nat) (args : List Value) (A : AHeap) (Q : Value → AHeap → Prop) : Prop := ∃ v A1, YRet P l args A v A1 ∧ Q v A1
theorem YCon.mono {l : Nat} {args : List Value} {A : AHeap} {Q Q' : Value → AHeap → Prop} (h : YCon P l args A Q) (hQ : ∀ v A1, Q v A1 → Q' v A1) : YCon P l args A Q' := by
  obtain ⟨v, A1, h1, h2⟩ := h
  exact ⟨v, A1, h1, hQ _ _ h2⟩
def orcY (l : Nat) (xs : List Value) (A : AHeap) (v : Value) (A1 : AHeap) : Orc := fun f args A' => by
  classical exact if ((∃ a b, f = .func (.yield l) a b) ∧ args.toList = xs) ∧ A' = A then .yes v A1 else .no
theorem orcY_ok {l : Nat} {xs : List Value} {A : AHeap} {v : Value} {A1 : AHeap} (h : YRet P l xs A v A1) (N : Kp) : OrcOK P N (orcY l xs A v A1) := by
  refine ⟨fun {g' first ys captured A' v' A1'} hD => ?_, fun {f args A' v' A1'} hD fr cs => ?_⟩
  · unfold orcY at hD
    split at hD
    · rename_i hh
      obtain ⟨⟨⟨a, b, e⟩, _⟩, _⟩ := hh
      cases e
    · cases hD
  · unfold orcY at hD
    split at hD
    · rename_i hh
      obtain ⟨⟨⟨a, b, rfl⟩, e⟩, rfl⟩ := hh
      cases hD
      subst e
      exact h N fr cs a b
    · cases hD
/-- A call that makes a round. -/
theorem Wo.callY (hc : NoCount P) {s : Slots} {A : AHeap} {ops : Array Oper} {i : Nat} {K : Slots → AHeap → Prop} {o : Oper} (ho : nth ops.toList i = some o) {f : Operand} {args : Array Operand} {l : Nat} {fi ca : Array Value} {xs : List Value}
    (hop : callV o.op = some (f, args)) (hok : opnOK f = true ∧ args.toList.all opnOK = true) (hw : wantB (gd ops o) s = true) (hf : seval s f = .func (.yield l) fi ca) (hxs : args.toList.map (seval s) = xs)
    (h : YCon P l xs A (fun v A1 => Wo P ops (i + 1) (sput s o.dst v) A1 K)) : Wo P ops i s A K := by
  obtain ⟨v, A1, h1, h2⟩ := h
  obtain ⟨ats, e⟩ := callV_some hop
  refine Wo.op hc (orcY_ok h1) ho (.inr ⟨hw, .inl ⟨f, args, ats, e, hok.1, hok.2, ?_⟩⟩) h2
  rw [hf]
  unfold orcY
  rw [if_pos ⟨⟨⟨fi, ca, rfl⟩, by simpa using hxs⟩, rfl⟩]

def jmp : Jm → Option Code
  | .fall => none
  | .ret => some .ret
  | .exit id => some (.exit id)
/-- The round is the code that the loop holds. -/
theorem ycon_of_rn (hc : NoCount P) {l : Nat} {r : Loop} {args : List Value} {A : AHeap} {Q : Value → AHeap → Prop} {s0 : Slots} (ho : A.obj l = some (.loop r)) (hsz : args.length = r.params.size)
    (hT : (r.params.zip ⟨args⟩).foldl (fun tmps (t, a) => tmps.setIfInBounds t a) r.tmps = sabs s0)
    (h : Rn P r.fn (some l) [.code r.assign, .beginRound, .code r.body] s0 [] A (fun j _ _ A' => ∃ v A1, arun P (Instr.endRound l (jmp j)) A' = some (v, A1) ∧ Q v A1)) : YCon P l args A Q := by
  obtain ⟨j, s1, ds1, A', ⟨v, A1, h1, h2⟩, h3⟩ := h
  refine ⟨v, A1, fun N fr cs a b => ⟨(Frame.round l r.fn (sabs s0) r.assign r.body .normal, fr :: cs, A), ?_, ?_⟩, h2⟩
  · have hb : Nat.beq (⟨args⟩ : Array Value).size r.params.size = true := by
      have : (⟨args⟩ : Array Value).size = r.params.size := hsz
      rw [this]
      exact Nat.beq_refl _
    simp only [acall, ho, hb, hT]
  · have e0 : Frame.round l r.fn (sabs s0) r.assign r.body .normal = FF.abs ⟨r.fn, s0, [.code r.assign, .beginRound, .code r.body] ++ [], [], .run, some l⟩ := by
      simp only [Frame.round, FF.abs, List.append_nil]
    rw [e0]
    obtain ⟨k1, hj, hl⟩ := h3 N [] (fr :: cs)
    refine hl.trans ?_
    have hE : endR P l (jmp j) A' = .yes v A1 := by unfold endR; rw [h1]; rfl
    cases j with
    | fall =>
      have hj : k1 = [] := hj
      subst hj
      exact endR_leads hc hE rfl rfl
    | ret =>
      obtain ⟨k', rfl⟩ := hj
      exact endR_leads hc hE rfl rfl
    | exit id =>
      obtain ⟨k', rfl, e⟩ := hj
      refine endR_leads hc hE rfl ?_
      have e : exitTo id k' = none := e
      unfold aStep
      simp only [FF.abs, e]
      rfl

section
variable {fn : FuncId} {td : List Item} {s : Slots} {ds : List Deferred} {A : AHeap} {Q : Post}
theorem Rn.label (hc : NoCount P) {ro : Option Nat} {l : Nat} (h : Rn P fn ro td s ds A Q) : Rn P fn ro (.code (.label l) :: td) s ds A Q := h.step hc fun _ _ => rfl
theorem Rn.begin (hc : NoCount P) {l : Nat} {A1 : AHeap} (h : arun P (Instr.beginRound l) A = some ((), A1)) (h2 : Rn P fn (some l) td s ds A1 Q) : Rn P fn (some l) (.beginRound :: td) s ds A Q :=
  h2.leads fun N k cs => lift_leads (Leads.sstep hc (by simp [sStep, sitem, h, sdone, sfin])) cs
theorem Rn.range (hc : NoCount P) {f : Operand} {ps : Array Tmp} {asg body : Code} {g : FuncId} {first captured : Array Value} (hof : opnOK f = true) (hf : seval s f = .func (.func g) first captured)
    (h : Con P g (first.toList ++ [.func (.yield (A.next + 1)) #[] #[]] ++ captured.toList) ((A.push (.deferred (some []))).push (.loop { state := .ready, pending := none, fn, tmps := sabs s, params := ps, assign := asg, body, defers := A.next }))
      (fun _ A2 => ∃ j A3, arun P (Instr.endLoop (A.next + 1)) A2 = some (j, A3) ∧ Rn P fn none ((j.map Item.code).toList ++ td) s ({ target := .collected A.next, args := #[] } :: ds) A3 Q)) :
    Rn P fn none (.code (.rangeFunc f ps asg body) :: td) s ds A Q := by
  obtain ⟨v, A2, h1, j, A3, h2, h3⟩ := h
  have hen : arun P (Instr.enterLoop fn (sabs s) ps asg body none) A = some ((A.next + 1, [{ target := .collected A.next, args := #[] }]), (A.push (.deferred (some []))).push (.loop { state := .ready, pending := none, fn, tmps := sabs s, params := ps, assign := asg, body, defers := A.next })) := by
    simp [Instr.enterLoop, newObj, arun, AHeap.push]
  refine h3.leads fun N k cs => ?_
  obtain ⟨s1, g1, g2⟩ := (orc1_ok h1 N).call (orc1_yes (fi := first) (args := #[.func (.yield (A.next + 1)) #[] #[]]) (ca := captured) (by simp)) (FF.abs ⟨fn, s, .inRangeFunc (A.next + 1) :: (td ++ k), { target := .collected A.next, args := #[] } :: ds, .run, none⟩) cs
  have hfin : (FF.abs ⟨fn, s, .inRangeFunc (A.next + 1) :: (td ++ k), { target := .collected A.next, args := #[] } :: ds, .run, none⟩).finish v = FF.abs ⟨fn, s, .endRangeFunc (A.next + 1) :: (td ++ k), { target := .collected A.next, args := #[] } :: ds, .run, none⟩ := sfin_eq rfl
  rw [hfin] at g2
  refine (Leads.step hc ?_).trans (g2.trans ?_)
  · have hev : seval s = (FF.abs ⟨fn, s, .code (.rangeFunc f ps asg body) :: (td ++ k), ds, .run, none⟩).eval := by rw [seval_eq, ← feval_eq]; rfl
    rw [hev] at hf
    unfold aStep
    simp only [FF.abs] at hf g1 ⊢
    simp only [List.cons_append, hof, hen, hf]
    exact g1
  · have := lift_leads (P := P) (N := N) (s1 := ⟨fn, s, .endRangeFunc (A.next + 1) :: (td ++ k), { target := .collected A.next, args := #[] } :: ds, .run, none⟩) (s2 := ⟨fn, s, (j.map Item.code).toList ++ (td ++ k), { target := .collected A.next, args := #[] } :: ds, .run, none⟩) (A := A2) (A' := A3) (Leads.sstep hc (by simp [sStep, sitem, h2])) cs
    simpa [List.append_assoc] using this
theorem Rn.rangeR (hc : NoCount P) {f : Operand} {ps : Array Tmp} {asg body : Code} {g : FuncId} {first captured : Array Value} (hof : opnOK f = true) (hf : seval s f = .func (.func g) first captured)
    (h : ∀ r : Loop, r.state = .ready → r.pending = none → r.fn = fn → r.tmps = sabs s → r.params = ps → r.assign = asg → r.body = body → Con P g (first.toList ++ [.func (.yield (A.next + 1)) #[] #[]] ++ captured.toList) ((A.push (.deferred (some []))).push (.loop r))
      (fun _ A2 => ∃ j A3, arun P (Instr.endLoop (A.next + 1)) A2 = some (j, A3) ∧ Rn P fn none ((j.map Item.code).toList ++ td) s ({ target := .collected A.next, args := #[] } :: ds) A3 Q)) :
    Rn P fn none (.code (.rangeFunc f ps asg body) :: td) s ds A Q := Rn.range hc hof hf (h _ rfl rfl rfl rfl rfl rfl rfl)
end

/-- What the loop's memory does. -/
theorem obj_of {A : AHeap} {l : Nat} {o : Obj} {g : Bool} {e : Nat} (h : look A.objs l = some ⟨o, g, e⟩) (hr : isRow o = false) : A.obj l = some o := by
  unfold AHeap.obj
  simp only [h, hr]
theorem setObj_of {A : AHeap} {l : Nat} {o o' : Obj} (h : A.obj l = some o) (hr : isRow o' = false) : A.setObj l o' = some ⟨A.next, putO A.objs l o'⟩ := by
  unfold AHeap.setObj
  simp only [hr, h]
theorem begin_run {A : AHeap} {l : Nat} {r : Loop} (h : A.obj l = some (.loop r)) (hs : r.state = .ready) : arun P (Instr.beginRound l) A = some ((), ⟨A.next, putO A.objs l (.loop { r with state := .busy })⟩) := by
  simp [Instr.beginRound, Instr.getLoop, getObj, setObj, arun, h, setObj_of h (show isRow (.loop { r with state := .busy }) = false from rfl), hs]
theorem endRound_run {A : AHeap} {l : Nat} {r : Loop} (h : A.obj l = some (.loop r)) (j : Option Code) : arun P (Instr.endRound l j) A = some (.bool j.isNone, ⟨A.next, putO A.objs l (.loop { r with state := if j.isNone then .ready else .done, pending := j })⟩) := by
  cases j with
  | none => simp [Instr.endRound, Instr.getLoop, getObj, setObj, arun, h, setObj_of h (show isRow (.loop { r with state := .ready, pending := none }) = false from rfl)]
  | some c => simp [Instr.endRound, Instr.getLoop, getObj, setObj, arun, h, setObj_of h (show isRow (.loop { r with state := .done, pending := some c }) = false from rfl)]
theorem endLoop_run {A : AHeap} {l : Nat} {r : Loop} (h : A.obj l = some (.loop r)) (hs : (r.state == .busy) = false) : arun P (Instr.endLoop l) A = some (r.pending, ⟨A.next, putO A.objs l (.loop { r with state := .exhausted })⟩) := by
  have hs' : ¬ r.state = LoopState.busy := fun e => by rw [e] at hs; cases hs
  simp [Instr.endLoop, Instr.getLoop, getObj, setObj, arun, h, setObj_of h (show isRow (.loop { r with state := .exhausted }) = false from rfl), hs']
/-- Elements are put where there is room. -/
theorem asets_sts {b : Nat} : ∀ {l : List Value} {A : AHeap} {o : Nat}, asets A ⟨b, o, none⟩ l = sts A b o l := by
  intro l
  induction l with
  | nil => intro A o; rfl
  | cons v l ih =>
    intro A o
    have e : asets A ⟨b, o, none⟩ (v :: l) = match A.set ⟨b, o, none⟩ v with
      | some A' => asets A' ⟨b, o + 1, none⟩ l
      | none => none := rfl
    rw [e]
    simp only [sts, st1]
    cases A.set ⟨b, o, none⟩ v with
    | none => rfl
    | some A' => exact ih
theorem aapp_room {A A1 : AHeap} {st tx e e2 : TypeId} {by' : Nat} (hst : elB P st = some (e, 1, by')) (htx : P.underlying tx = some (.slice e2)) {b o : Nat} {a2 : Option Addr} {n c m c2 : Nat} {l2 : List Value} (hr2 : Row A a2 l2) (hl2 : l2.length = m) (hc2 : l2.all isCell = true) (hn2 : a2 = none → m = 0)
    (hroom : n + m ≤ c) (hs : sts A b (o + n) l2 = some A1) : aapp P #[st, tx] #[.slice (some ⟨b, o, none⟩) n c, .slice a2 m c2] A = some (.slice (some ⟨b, o, none⟩) (n + m) c, A1) := by
  obtain ⟨hu, i, z, hi, hz, hzz, hzs, h1, rfl⟩ := elB_eq hst
  have hsrc := asrc_row (P := P) (sz := i.size) (c := c2) htx hr2 (by rw [hl2, h1, Nat.mul_one]) hc2 hn2
  have b0 : Nat.ble (n + m) c = true := Nat.ble_eq_true_of_le hroom
  have e : asets A ((⟨b, o, none⟩ : Addr).add (n * i.size)) l2 = some A1 := by
    rw [h1, Nat.mul_one, addr_add, asets_sts, hs]
  simp only [aapp, hu, hi, hz, hzz, hsrc, b0, e, Option.map_some]
end
end Go.Proofs.Ytdaljohmfnfgiaa.Canon

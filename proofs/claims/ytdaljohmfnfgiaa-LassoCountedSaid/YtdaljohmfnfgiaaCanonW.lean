/- A call is run whole on the reckoned memory: what is reckoned is what it returns. No condition. -/
import Derived.Test.YtdaljohmfnfgiaaCanonU
namespace Go.Proofs.Ytdaljohmfnfgiaa.Canon
open Go Go.RowKit
noncomputable section

section
variable {P : Program}

theorem roexec_ok : RdOK P (roexec P) := fun _ _ _ _ h => roexec_aexec h

theorem region_sound {Rd : Rds} (hRd : RdOK P Rd) (hc : NoCount P) (hx : P.follows .mixedOrders = true) {N : Kp} {C : Runs} (hC : ∀ N, RunsOK P N C) {ops : Array Oper} {T1 : Array Value} {A A1 : AHeap} {φ : Phi} {w : World} {fr fr' : Frame} {cs cs' : List Frame} {id : Nat} {k : List Item}
    (h : region P Rd C ops fr.tmps A = some (T1, A1)) (hmode : fr.mode = .run) (htd : fr.todo = .code (.region id ops true) :: k) (hf : FrR φ fr fr') (hcs : CL φ cs cs') (hs : Sim N φ A w) (hN : KOK N w) :
    Goes P N φ w fr' cs' ({ fr with tmps := T1, todo := k }, cs, A1) := by
  unfold region at h
  split at h
  · cases h
  · rename_i hst
    split at h
    · cases h
    · rename_i vs ms T2 hp
      split at h
      · cases h
      · rename_i hck
        split at h
        · rename_i Ae hend
          cases h
          rw [nth_eq] at hend
          have hran := pass1_ran hp
          have hm' : fr'.mode = .run := hf.mode.trans hmode
          obtain ⟨k', ht', hk⟩ : ∃ k', fr'.todo = .code (.region id ops true) :: k' ∧ IL φ k k' := by
            have := hf.todo
            rw [htd] at this
            cases htl : fr'.todo with
            | nil => rw [htl] at this; cases this
            | cons a b => rw [htl] at this; cases this with | code _ t => exact ⟨b, rfl, t⟩
          have g1 : Goes P N φ w fr' cs' ({ fr with todo := .inRegion ops (Region.linearise.go .any ops ops.size (w.tape w.drawn (.order fr'.fn id)) (Array.replicate ops.size false) []) :: k }, cs, A) := by
            refine fun base => ⟨φ, { fr' with todo := .inRegion ops (Region.linearise.go .any ops ops.size (w.tape w.drawn (.order fr'.fn id)) (Array.replicate ops.size false) []) :: k' }, cs', { w with drawn := w.drawn + 1 }, Phi.le_refl _,
              ⟨hf.fn, hf.tmps, .inRegion _ _ hk, hf.defers, hf.mode, hf.kind, hf.kind', hf.round⟩, hcs, ?_, ⟨rfl, rfl, rfl, Nat.le_refl _, fun _ _ => rfl⟩, .one ?_⟩
            · refine ⟨hs.fresh, hs.base, fun b x hb => ?_, hs.inj, hs.res⟩
              obtain ⟨e, h1, h2, h3, h4⟩ := hs.alive b x hb
              exact ⟨e, h1, h2, h3, h4.mono (Phi.le_refl _) rfl⟩
            · have := step_lone_go (P := P) (fr := fr') (cs := cs' ++ base) (w := w) (fr' := { fr' with todo := .inRegion ops (Region.schedule (P.follows .mixedOrders) ops (w.tape w.drawn (.order fr'.fn id))) :: k' }) (cs' := cs' ++ base) (w' := { w with drawn := w.drawn + 1 }) (by simp [stepG, hm', stepG.exec, ht', choose, Sem.run, Question.forced, Question.cut])
              rw [this]
              simp only [Region.schedule, hx, Bool.true_or, if_true, Region.linearise]
          refine g1.andThen fun ψ fr1' cs1' w1 _ k2 k3 k4 k5 => ?_
          have hrep : ∀ j, ¬ (Array.replicate ops.size false).getD j false = true := fun j hj => by
            rw [Array.getD_eq_getD_getElem?, Array.getElem?_replicate] at hj
            split at hj <;> cases hj
          have hs0 : Sim { blk := N.blk, nm := fun b => N.nm b ∨ ∃ i, i < ops.size ∧ b = A.next + i } ψ ⟨A.next + ops.size, A.objs⟩ w1 := by
            refine ⟨fun b e he => Nat.lt_of_lt_of_le (k4.fresh b e he) (Nat.le_add_right _ _), k4.base, k4.alive, k4.inj, fun b hb => ?_⟩
            rcases hb with hb | ⟨i, hi, rfl⟩
            · exact ⟨(k4.res b hb).1, Nat.lt_of_lt_of_le (k4.res b hb).2 (Nat.le_add_right _ _)⟩
            · refine ⟨?_, Nat.add_lt_add_left hi _⟩
              cases hp : ψ (A.next + i) with
              | none => rfl
              | some e => exact absurd (k4.fresh _ e hp) (by show ¬ A.next + i < A.next; omega)
          have key := order_sound hRd hc hC hran hst hck hend (fun b hb => (hs.res b hb).2) k ops.size (w.tape w.drawn (.order fr'.fn id)) (Array.replicate ops.size false) 0 ⟨A.next + ops.size, A.objs⟩ (fun _ => 0) { blk := N.blk, nm := fun b => N.nm b ∨ ∃ i, i < ops.size ∧ b = A.next + i } ψ w1 { fr with todo := .inRegion ops (Region.linearise.go .any ops ops.size (w.tape w.drawn (.order fr'.fn id)) (Array.replicate ops.size false) []) :: k } fr1' cs cs1' (by simp) (by simp) (fun j l hj => absurd hj (hrep j)) (Nat.zero_le _) (fun l e _ => ⟨fun _ => ⟨fun hj => absurd hj (hrep e), fun h => absurd h (Nat.not_lt_zero _)⟩, fun h => absurd h (Nat.not_lt_zero _)⟩) hran.first
            ⟨fun _ h => h, fun _ h => .inl h⟩ (fun b => ⟨.inl, fun h => h.resolve_right fun ⟨l, i, _, _, h3, _⟩ => hrep i h3⟩) (fun i h1 _ _ => .inr ⟨i, h1, rfl⟩) (fun l i _ _ h3 => absurd h3 (hrep i)) hmode (by
              have : puts (fun j => (Array.replicate ops.size false).getD j false) 0 ops.toList vs fr.tmps = at0 0 0 ops.toList vs fr.tmps := by
                unfold at0
                refine puts_same _ _ _ _ fun j hj => ?_
                simp only [Array.getD_eq_getD_getElem?, Array.getElem?_replicate]
                split <;> simp
              rw [this, at0_zero]) rfl k2 k3 hs0 (hN.up k5.size)
          refine key.andThen fun χ fr2' cs2' w2 _ l2 l3 l4 l5 => ?_
          refine step_sound hc ?_ l2 l3 l4 (hN.up (k5.trans l5).size)
          unfold aStep
          simp only [hmode]
        · cases h

noncomputable section

def enterF (P : Program) (g : FuncId) (xs : Array Value) : Frame := match nth P.funcs.toList g with
  | some fn => match fn.body with
    | some c => ⟨g, xs ++ Array.replicate (fn.ntmps - xs.size) undef, [.code c], [], .run, .normal, none⟩
    | none => Frame.enter P g xs .normal
  | none => Frame.enter P g xs .normal
theorem enterF_eq (P : Program) (g : FuncId) (xs : Array Value) : enterF P g xs = Frame.enter P g xs .normal := by
  unfold enterF
  rw [nth_arr]
  cases hg : P.funcs[g]? with
  | none => rfl
  | some fn =>
    simp only
    cases hb : fn.body with
    | none => rfl
    | some c => simp [hb, Frame.enter, hg]

abbrev Go1 := Frame → List Frame → AHeap → Option (Frame × AHeap)

def callWith (P : Program) (ih : Go1) : Runs := fun g xs A => match ih (enterF P g xs) [] A with
  | some (fr, A1) => match nth P.funcs.toList fr.fn with
    | some fn => arun P (results fn fr.tmps) A1
    | none => none
  | none => none

def plainNext (P : Program) (ih : Go1) (fr : Frame) (cs : List Frame) (A : AHeap) : Option (Frame × AHeap) := match fStep P fr cs A with
  | some (fr1, cs1, A1) => ih fr1 cs1 A1
  | none => none
def drawnNext (P : Program) (ih : Go1) (fr : Frame) (cs : List Frame) (A : AHeap) (ops : Array Oper) (k : List Item) : Option (Frame × AHeap) := match region P (roexec P) (callWith P ih) ops fr.tmps A with
  | some (T1, A1) => ih { fr with tmps := T1, todo := k } cs A1
  | none => none
def aNext (P : Program) (ih : Go1) (fr : Frame) (cs : List Frame) (A : AHeap) : Option (Frame × AHeap) :=
  match fr.mode with
  | .run => match fr.todo with
    | it :: k => match it with
      | .code c => match c with
        | .region _ ops dr => match dr with
          | true => drawnNext P ih fr cs A ops k
          | false => plainNext P ih fr cs A
        | _ => plainNext P ih fr cs A
      | _ => plainNext P ih fr cs A
    | [] => plainNext P ih fr cs A
  | .returning => match cs with
    | [] => match fr.defers with
      | [] => some (fr, A)
      | _ => plainNext P ih fr cs A
    | _ => plainNext P ih fr cs A
  | _ => none

/-- A call is run, to the frame that returns. -/
def aRun (P : Program) (n : Nat) : Go1 := Nat.rec (motive := fun _ => Go1) (fun _ _ _ => none) (fun _ ih fr cs A => aNext P ih fr cs A) n

def says (P : Program) (g n : Nat) : Bool := match aRun P n (enterF P g #[]) [] ⟨0, .leaf⟩ with
  | some (fr, _) => match Nat.beq fr.fn g with
    | true => match nth P.funcs.toList g with
      | some fn => match fn.results.toList with
        | [.tmp t] => match nth fr.tmps.toList t with
          | some (.bool true) => true
          | _ => false
        | _ => false
      | none => false
    | false => false
  | none => false

end

/-- What a run says. -/
def GoesOK (P : Program) (N : Kp) (ih : Go1) : Prop := ∀ (fr : Frame) (cs : List Frame) (A : AHeap) (frE : Frame) (AE : AHeap), ih fr cs A = some (frE, AE) →
  ∀ (φ : Phi) (w : World) (fr' : Frame) (cs' : List Frame), FrR φ fr fr' → CL φ cs cs' → Sim N φ A w → KOK N w →
    frE.mode = .returning ∧ frE.defers = [] ∧ ∀ base, ∃ ψ frE' w1, φ.le ψ ∧ FrR ψ frE frE' ∧ Sim N ψ AE w1 ∧ Kept N w w1 ∧ Steps P (lone fr' (cs' ++ base) w) (lone frE' base w1)

theorem callWith_ok {N : Kp} {ih : Go1} (h : GoesOK P N ih) : RunsOK P N (callWith P ih) := by
  intro g xs A v A1 hr φ w fr' hf hs hN
  unfold callWith at hr
  rw [enterF_eq] at hr
  split at hr
  · rename_i frE AE hi
    split at hr
    · rename_i fn hfn
      rw [nth_arr] at hfn
      obtain ⟨hm, hd, hall⟩ := h _ _ _ _ _ hi φ w fr' [] hf .nil hs hN
      intro c base
      obtain ⟨ψ, frE', w1, g1, g2, g3, g4, g5⟩ := hall (c :: base)
      obtain ⟨χ, v', w2, k1, k2, k3, k4, k5⟩ := Q.results fn g2.tmps N AE w1 v A1 g3 (hN.up g4.size) hr
      refine ⟨χ, v', w2, Phi.le_trans g1 k1, k2, k3, g4.trans k5, g5.trans (.one (step_lone_go ?_))⟩
      have hdl : frE'.defers = [] := by
        have := g2.defers
        rw [hd] at this
        cases hl : frE'.defers with
        | nil => rfl
        | cons d l => rw [hl] at this; cases this
      have hfn' : P.funcs[frE'.fn]? = some fn := by rw [g2.fn]; exact hfn
      simp [stepG, g2.mode.trans hm, unwind, hdl, hfn', k4, doReturn, g2.kind']
    · cases hr
  · cases hr

theorem Goes.thenRun {N : Kp} {ih : Go1} (h : GoesOK P N ih) {φ : Phi} {w : World} {fr' : Frame} {cs' : List Frame} {s : St} (hN : KOK N w) (hg : Goes P N φ w fr' cs' s) {frE : Frame} {AE : AHeap} (hi : ih s.1 s.2.1 s.2.2 = some (frE, AE)) :
    frE.mode = .returning ∧ frE.defers = [] ∧ ∀ base, ∃ ψ frE' w1, φ.le ψ ∧ FrR ψ frE frE' ∧ Sim N ψ AE w1 ∧ Kept N w w1 ∧ Steps P (lone fr' (cs' ++ base) w) (lone frE' base w1) := by
  have hmd : frE.mode = .returning ∧ frE.defers = [] := by
    obtain ⟨ψ, fr1', cs1', w1, g1, g2, g3, g4, g5, g6⟩ := hg []
    obtain ⟨hm, hd, _⟩ := h _ _ _ _ _ hi ψ w1 fr1' cs1' g2 g3 g4 (hN.up g5.size)
    exact ⟨hm, hd⟩
  refine ⟨hmd.1, hmd.2, fun base => ?_⟩
  obtain ⟨ψ, fr1', cs1', w1, g1, g2, g3, g4, g5, g6⟩ := hg base
  obtain ⟨_, _, hall⟩ := h _ _ _ _ _ hi ψ w1 fr1' cs1' g2 g3 g4 (hN.up g5.size)
  obtain ⟨χ, frE', w2, k1, k2, k3, k4, k5⟩ := hall base
  exact ⟨χ, frE', w2, Phi.le_trans g1 k1, k2, k3, g5.trans k4, g6.trans k5⟩

theorem aNext_ok (hc : NoCount P) (hx : P.follows .mixedOrders = true) {ih : Go1} (hall : ∀ N, GoesOK P N ih) (N : Kp) : GoesOK P N (aNext P ih) := by
  have h := hall N
  intro fr cs A frE AE hr φ w fr' cs' hf hcs hs hN
  have plain : plainNext P ih fr cs A = some (frE, AE) → frE.mode = .returning ∧ frE.defers = [] ∧ ∀ base, ∃ ψ frE' w1, φ.le ψ ∧ FrR ψ frE frE' ∧ Sim N ψ AE w1 ∧ Kept N w w1 ∧ Steps P (lone fr' (cs' ++ base) w) (lone frE' base w1) := by
    intro hp
    unfold plainNext at hp
    rw [fStep_eq] at hp
    split at hp
    · rename_i fr1 cs1 A1 hst
      exact Goes.thenRun h hN (step_sound hc hst hf hcs hs hN) hp
    · cases hp
  unfold aNext at hr
  split at hr
  · rename_i hmode
    split at hr
    · rename_i it k htd
      split at hr
      · split at hr
        · split at hr
          · unfold drawnNext at hr
            split at hr
            · rename_i hreg
              exact Goes.thenRun h hN (region_sound roexec_ok hc hx (fun N => callWith_ok (hall N)) hreg hmode htd hf hcs hs hN) hr
            · cases hr
          · exact plain hr
        · exact plain hr
      · exact plain hr
    · exact plain hr
  · rename_i hmode
    split at hr
    · split at hr
      · rename_i hd
        cases hr
        cases hcs
        exact ⟨hmode, hd, fun base => ⟨φ, fr', w, Phi.le_refl _, hf, hs, Kept.refl _ _, ⟨0, rfl⟩⟩⟩
      · exact plain hr
    · exact plain hr
  · cases hr

theorem aRun_ok (hc : NoCount P) (hx : P.follows .mixedOrders = true) : ∀ n (N : Kp), GoesOK P N (aRun P n) := by
  intro n
  induction n with
  | zero => intro N fr cs A frE AE hr; cases hr
  | succ n ih => exact aNext_ok hc hx ih

/-- All that is there is left alone. -/
def above (w : World) : Kp := { blk := fun k => k < w.heap.size, nm := fun _ => False }
theorem Kept.below {w w' : World} (h : Kept (above w) w w') : Below w.heap.size w w' := ⟨h.os, h.tape, h.output, h.size, fun k hk => h.block k hk⟩

/-- A closed call that is reckoned to be true is so, and nothing that was there before has turned. -/
theorem calls_of_says (hc : NoCount P) (hx : P.follows .mixedOrders = true) {g n : Nat} (h : says P g n = true) (w : World) : Calls P g #[] w (fun e w' => e = .returned (.bool true) ∧ Below w.heap.size w w') := by
  unfold says at h
  split at h
  · rename_i frE AE hr
    split at h
    · rename_i hfn
      split at h
      · rename_i fn hf
        split at h
        · rename_i t hres
          split at h
          · rename_i hv
            rw [nth_arr] at hf hv
            rw [enterF_eq] at hr
            have hfn : frE.fn = g := Nat.eq_of_beq_eq_true hfn
            have hres : fn.results = #[.tmp t] := by rw [← Array.toArray_toList (xs := fn.results), hres]
            have h0 : FrR (fun _ => none) (Frame.enter P g #[] .normal) (Frame.enter P g #[] .normal) := by
              refine ⟨rfl, ?_, ?_, .nil, rfl, rfl, rfl, rfl⟩
              · refine AR.of rfl fun i v hv => ⟨v, hv, ?_⟩
                have := Array.mem_of_getElem? hv
                simp [Frame.enter] at this
                rw [this.2]
                exact V.undef _
              · simp only [Frame.enter]
                exact .code _ .nil
            have hs0 : Sim (above w) (fun _ => none) ⟨0, .leaf⟩ w := {
              fresh := fun b e he => by cases he
              base := fun b x e hb => by cases hb
              alive := fun b x hb => by cases hb
              inj := fun b b' x x' e e' _ hb => by cases hb
              res := fun b hb => hb.elim }
            intro cs
            obtain ⟨hm, hd, hall⟩ := aRun_ok hc hx n (above w) _ _ _ _ _ hr _ w _ [] h0 .nil hs0 (fun _ h => h)
            obtain ⟨ψ, frE', w1, g1, g2, g3, g4, g5⟩ := hall cs
            obtain ⟨v', k1, k2⟩ := g2.tmps.get hv
            cases k2
            have hdl : frE'.defers = [] := by
              have := g2.defers
              rw [hd] at this
              cases hl : frE'.defers with
              | nil => rfl
              | cons d l => rw [hl] at this; cases this
            refine ⟨.returned (.bool true), w1, frE', ⟨rfl, g4.below⟩, g5, g2.fn.trans hfn, g2.mode.trans hm, hdl, g2.kind', fn, ?_, ?_⟩
            · rw [g2.fn, hfn]; exact hf
            · simp [results, hres, Array.getD_eq_getD_getElem?, k1]
          · cases h
        · cases h
      · cases h
    · cases h
  · cases h

end
end
end Go.Proofs.Ytdaljohmfnfgiaa.Canon

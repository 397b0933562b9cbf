/- What the proof of this claim is made of. No condition. -/
import Derived.Test.YtdaljohmfnfgiaaCanonU
namespace Go.Proofs.Ytdaljohmfnfgiaa.Canon
open Go Go.RowKit
noncomputable section
section
variable {P : Program}
theorem region_sound {Rd : Rds} (hRd : RdOK P Rd) (hc : zAJ P) (hx : P.follows .mixedOrders = true) {N : Kp} {C : Runs} (hC : ∀ N,RunsOK P N C) {ops : Array Oper} {T1 : Array Value} {A A1 : AHeap} {φ : Phi} {w : World} {fr fr' : Frame} {cs cs' : List Frame} {id : Nat} {k : List Item}
    (h : region P Rd C ops fr.tmps A = some (T1,A1)) (hmode : fr.mode = .run) (htd : fr.todo = .code (.region id ops true) :: k) (hf : FrR φ fr fr') (hcs : CL φ cs cs') (hs : Sim N φ A w) (hN : KOK N w) :
    Goes P N φ w fr' cs' ({ fr with tmps := T1,todo := k },cs,A1) := by
  unfold region at h
  split at h
  · cases h
  · rename_i hst
    split at h
    · cases h
    · rename_i vs ms T2 hp
      split at h
      · cases h
      · rename_i hck
        split at h
        · rename_i Ae hend
          cases h
          rw [nth_eq] at hend
          have hran := pass1_ran hp
          have hm' : fr'.mode = .run := hf.mode.trans hmode
          obtain ⟨k',ht',hk⟩ : ∃ k',fr'.todo = .code (.region id ops true) :: k' ∧ IL φ k k' := by
            have := hf.todo
            rw [htd] at this
            cases htl : fr'.todo with
            | nil => rw [htl] at this; cases this
            | cons a b => rw [htl] at this; cases this with | code _ t => exact ⟨b,rfl,t⟩
          have g1 : Goes P N φ w fr' cs' ({ fr with todo := .inRegion ops (Region.linearise.go .any ops ops.size (w.tape w.drawn (.order fr'.fn id)) (Array.replicate ops.size false) []) :: k },cs,A) := by
            refine fun base => ⟨φ,{ fr' with todo := .inRegion ops (Region.linearise.go .any ops ops.size (w.tape w.drawn (.order fr'.fn id)) (Array.replicate ops.size false) []) :: k' },cs',{ w with drawn := w.drawn + 1 },Phi.le_refl _,
              ⟨hf.fn,hf.tmps,.inRegion _ _ hk,hf.defers,hf.mode,hf.kind,hf.kind',hf.round⟩,hcs,?_,⟨rfl,rfl,rfl,Nat.le_refl _,fun _ _ => rfl⟩,.one ?_⟩
            · refine ⟨hs.fresh,hs.base,fun b x hb => ?_,hs.inj,hs.res⟩
              obtain ⟨e,h1,h2,h3,h4⟩ := hs.alive b x hb
              exact ⟨e,h1,h2,h3,h4.mono (Phi.le_refl _) rfl⟩
            · have := step_lone_go (P := P) (fr := fr') (cs := cs' ++ base) (w := w) (fr' := { fr' with todo := .inRegion ops (Region.schedule (P.follows .mixedOrders) ops (w.tape w.drawn (.order fr'.fn id))) :: k' }) (cs' := cs' ++ base) (w' := { w with drawn := w.drawn + 1 }) (by simp [stepG,hm',stepG.exec,ht',choose,Sem.run,Question.forced,Question.cut])
              rw [this]
              simp only [Region.schedule,hx,Bool.true_or,if_true,Region.linearise]
          refine g1.andThen fun ψ fr1' cs1' w1 _ k2 k3 k4 k5 => ?_
          have hrep : ∀ j,¬ (Array.replicate ops.size false).getD j false = true := fun j hj => by
            rw [Array.getD_eq_getD_getElem?,Array.getElem?_replicate] at hj
            split at hj <;> cases hj
          have hs0 : Sim { blk := N.blk,nm := fun b => N.nm b ∨ ∃ i,i < ops.size ∧ b = A.next + i } ψ ⟨A.next + ops.size,A.objs⟩ w1 := by
            refine ⟨fun b e he => Nat.lt_of_lt_of_le (k4.fresh b e he) (Nat.le_add_right _ _),k4.base,k4.alive,k4.inj,fun b hb => ?_⟩
            rcases hb with hb | ⟨i,hi,rfl⟩
            · exact ⟨(k4.res b hb).1,Nat.lt_of_lt_of_le (k4.res b hb).2 (Nat.le_add_right _ _)⟩
            · refine ⟨?_,Nat.add_lt_add_left hi _⟩
              cases hp : ψ (A.next + i) with
              | none => rfl
              | some e => exact absurd (k4.fresh _ e hp) (by show ¬ A.next + i < A.next; omega)
          have key := order_sound hRd hc hC hran hst hck hend (fun b hb => (hs.res b hb).2) k ops.size (w.tape w.drawn (.order fr'.fn id)) (Array.replicate ops.size false) 0 ⟨A.next + ops.size,A.objs⟩ (fun _ => 0) { blk := N.blk,nm := fun b => N.nm b ∨ ∃ i,i < ops.size ∧ b = A.next + i } ψ w1 { fr with todo := .inRegion ops (Region.linearise.go .any ops ops.size (w.tape w.drawn (.order fr'.fn id)) (Array.replicate ops.size false) []) :: k } fr1' cs cs1' (by simp) (by simp) (fun j l hj => absurd hj (hrep j)) (Nat.zero_le _) (fun l e _ => ⟨fun _ => ⟨fun hj => absurd hj (hrep e),fun h => absurd h (Nat.not_lt_zero _)⟩,fun h => absurd h (Nat.not_lt_zero _)⟩) hran.first
            ⟨fun _ h => h,fun _ h => .inl h⟩ (fun b => ⟨.inl,fun h => h.resolve_right fun ⟨l,i,_,_,h3,_⟩ => hrep i h3⟩) (fun i h1 _ _ => .inr ⟨i,h1,rfl⟩) (fun l i _ _ h3 => absurd h3 (hrep i)) hmode (by
              have : puts (fun j => (Array.replicate ops.size false).getD j false) 0 ops.toList vs fr.tmps = at0 0 0 ops.toList vs fr.tmps := by
                unfold at0
                refine puts_same _ _ _ _ fun j hj => ?_
                simp only [Array.getD_eq_getD_getElem?,Array.getElem?_replicate]
                split <;> simp
              rw [this,at0_zero]) rfl k2 k3 hs0 (hN.up k5.size)
          refine key.andThen fun χ fr2' cs2' w2 _ l2 l3 l4 l5 => ?_
          refine step_sound hc ?_ l2 l3 l4 (hN.up (k5.trans l5).size)
          unfold zDQ
          simp only [hmode]
        · cases h
noncomputable section
def enterF (P : Program) (g : FuncId) (xs : Array Value) : Frame := match nth P.funcs.toList g with
  | some fn => match fn.body with
    | some c => ⟨g,xs ++ Array.replicate (fn.ntmps - xs.size) undef,[.code c],[],.run,.normal,none⟩
    | none => Frame.enter P g xs .normal
  | none => Frame.enter P g xs .normal
theorem enterF_eq (P : Program) (g : FuncId) (xs : Array Value) : enterF P g xs = Frame.enter P g xs .normal := by
  unfold enterF
  rw [zCX]
  cases hg : P.funcs[g]? with
  | none => rfl
  | some fn =>
    simp only
    cases hb : fn.body with
    | none => rfl
    | some c => simp [hb,Frame.enter,hg]
end
def above (w : World) : Kp := { blk := fun k => k < w.heap.size,nm := fun _ => False }
theorem Kept.below {w w' : World} (h : Kept (above w) w w') : Below w.heap.size w w' := ⟨h.os,h.tape,h.output,h.size,fun k hk => h.block k hk⟩
end
end
end Go.Proofs.Ytdaljohmfnfgiaa.Canon

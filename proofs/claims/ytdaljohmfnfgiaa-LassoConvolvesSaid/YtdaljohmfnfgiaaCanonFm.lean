/- What the proof of this claim is made of. No condition. -/
import Derived.Test.YtdaljohmfnfgiaaCanonFl
namespace Go.Proofs.Ytdaljohmfnfgiaa.Canon
open Go Go.RowKit
noncomputable section
variable {P : Program}
def ConF (P : Program) (g : FuncId) (xs : List Value) (A : AHeap) (Q : Value → AHeap → Prop) : Prop := ∃ v A1,(∀ N,FunOK P N g ⟨xs⟩ A v A1) ∧ Q v A1
theorem conF_of_rn (hc : zAJ P) {g : FuncId} {f : Func} {c : Code} {xs : List Value} {A : AHeap} {Q : Value → AHeap → Prop} (hf : P.funcs[g]? = some f) (hb : f.body = some c) (hle : xs.length ≤ f.ntmps)
    (h : Rn P g none [.code c] ⟨f.ntmps,zDZ xs 0 .leaf⟩ [] A (endQ P f Q)) : ConF P g xs A Q := by
  obtain ⟨j,s1,ds1,A1,hq,hl⟩ := h
  have hen : senter P g ⟨xs⟩ = some ⟨g,⟨f.ntmps,zDZ xs 0 .leaf⟩,[.code c],[],.run,none⟩ := by
    simp only [senter,zCX,hf,hb]
    have : Nat.ble (⟨xs⟩ : Array Value).size f.ntmps = true := Nat.ble_eq_true_of_le hle
    rw [this]
  obtain ⟨_,e2,_⟩ := senter_eq hen
  cases j with
  | fall =>
    obtain ⟨v,A2,h1,h2⟩ := hq
    refine ⟨v,A2,fun N => ?_,h2⟩
    obtain ⟨frE,AE,g0,g1,g2,g3,g4⟩ := bdefs_ok (N := N) hc hf (td := []) ds1 A1 v A2 h1
    refine ⟨frE,AE,f,g0,g1,g2,hf,g3,fun cs => ?_⟩
    rw [e2]
    obtain ⟨k1,e,l⟩ := hl N [] cs
    have e : k1 = [] := e
    subst e
    exact (l.trans (zAB.step hc (by simp only [zDQ,FF.abs,aleave,Frame.roundOf]))).trans (g4 cs)
  | ret =>
    obtain ⟨v,A2,h1,h2⟩ := hq
    refine ⟨v,A2,fun N => ?_,h2⟩
    obtain ⟨k1,⟨k',rfl⟩,l0⟩ := hl N [] []
    have l1 : zAB P N (.any N) (FF.abs ⟨g,⟨f.ntmps,zDZ xs 0 .leaf⟩,[.code c],[],.run,none⟩,[],A) (FF.abs ⟨g,s1,.code .ret :: k',ds1,.returning,none⟩,[],A1) :=
      l0.trans (zAB.step hc (by simp only [zDQ,FF.abs,aleave,Frame.roundOf]))
    obtain ⟨frE,AE,g0,g1,g2,g3,g4⟩ := bdefs_ok (N := N) hc hf (td := .code .ret :: k') ds1 A1 v A2 h1
    refine ⟨frE,AE,f,g0,g1,g2,hf,g3,fun cs => ?_⟩
    rw [e2]
    exact (lift_leads (s1 := ⟨g,⟨f.ntmps,zDZ xs 0 .leaf⟩,[.code c],[],.run,none⟩) (s2 := ⟨g,s1,.code .ret :: k',ds1,.returning,none⟩) l1 cs).trans (g4 cs)
  | exit id => exact hq.elim
def roOf (z : Nat) : Option Obj → Option AObj
  | some (.cells c t f) => some ⟨.cells c t f,false,z⟩
  | _ => none
theorem ro_heap (W : World) (z : Nat) : ∀ k,∃ objs : Tr AObj,∀ b,look objs b = if b < k then roOf z W.heap[b]? else none := by
  intro k
  induction k with
  | zero => exact ⟨.leaf,fun b => by rw [if_neg (by omega)]; rfl⟩
  | succ k ih =>
    obtain ⟨objs,h⟩ := ih
    cases hk : roOf z W.heap[k]? with
    | none =>
      refine ⟨objs,fun b => ?_⟩
      rw [h]
      by_cases hb : b = k
      · subst hb
        rw [if_neg (by omega),if_pos (by omega),hk]
      · by_cases hlt : b < k
        · rw [if_pos hlt,if_pos (by omega)]
        · rw [if_neg hlt,if_neg (by omega)]
    | some x =>
      refine ⟨zDU k x objs,fun b => ?_⟩
      by_cases hb : b = k
      · subst hb
        rw [zDW,if_pos (by omega),hk]
      · rw [zCU hb,h]
        by_cases hlt : b < k
        · rw [if_pos hlt,if_pos (by omega)]
        · rw [if_neg hlt,if_neg (by omega)]
structure In (W : World) (z : Nat) (A : AHeap) : Prop where
  next : A.next = z
  pos : 0 < z
  big : W.heap.size ≤ z
  look' : ∀ b,look A.objs b = if b < W.heap.size then roOf z W.heap[b]? else none
theorem in_any (W : World) (z : Nat) (h0 : 0 < z) (hz : W.heap.size ≤ z) : ∃ A,In W z A := by
  obtain ⟨objs,h⟩ := ro_heap W z W.heap.size
  exact ⟨⟨z,objs⟩,rfl,h0,hz,h⟩
theorem roOf_some {z : Nat} {o : Option Obj} {x : AObj} (h : roOf z o = some x) : ∃ c t f,o = some (.cells c t f) ∧ x = ⟨.cells c t f,false,z⟩ := by
  unfold roOf at h
  split at h
  · cases h; exact ⟨_,_,_,rfl,rfl⟩
  · cases h
theorem In.wf {W : World} {z : Nat} {A : AHeap} (h : In W z A) : WF A := fun b x hx => by
  rw [h.look'] at hx
  rw [h.next]
  split at hx
  · have := h.big; omega
  · cases hx
theorem In.cl {W : World} {z : Nat} {A : AHeap} (h : In W z A) {b o : Nat} {c : Array Value} {t : TypeId} {f : Nat × Nat} (hb : W.heap[b]? = some (.cells c t f)) {v : Value} (hv : c[o]? = some v) (hr : roV z v = true) : Canon.cl A b o = some v := by
  have hlt : b < W.heap.size := (Array.getElem?_eq_some_iff.1 hb).1
  have hl : look A.objs b = some ⟨.cells c t f,false,z⟩ := by rw [h.look',if_pos hlt,hb]; rfl
  show A.cell ⟨b,o,none⟩ = some v
  unfold AHeap.cell
  have hz : isRO false z = true := by
    obtain ⟨k,rfl⟩ : ∃ k,z = k + 1 := ⟨z - 1,by have := h.pos; omega⟩
    rfl
  simp only [hl,hv,hz,hr]
def inP (z : Nat) : Phi := fun b => if b < z then some ⟨b,0,0,false,z⟩ else none
theorem inP_v {z : Nat} {v : Value} (h : roV z v = true) : V (inP z) v v := by
  have hp : ∀ b,b < z → inP z b = some ⟨b,0,0,false,z⟩ := fun b hb => if_pos hb
  unfold roV at h
  split at h <;> try (first | exact .bool _ | exact .int _ _ | exact .string _ | exact .ptrNil | exact .sliceNil _ _ | exact .mapNil | exact .nilFunc | exact .nilIface | (cases h; done))
  · rename_i b o
    have hb : b < z := by simpa [Nat.blt_eq] using h
    have := V.ptr (φ := inP z) (o := o) (hp b hb)
    simpa using this
  · rename_i b o n c
    have hb : b < z := by simpa [Nat.blt_eq] using h
    have := V.slice (φ := inP z) (o := o) (n := n) (c := c) (c' := c) (hp b hb) (by simp [CapR])
    simpa using this
  · exact .sliceE _ _ _ _
def inN (W : World) : Kp := ⟨fun k => k < W.heap.size ∧ ∀ c t f,W.heap[k]? ≠ some (.cells c t f),fun _ => False⟩
theorem In.sim {W : World} {z : Nat} {A : AHeap} (h : In W z A) : Sim (inN W) (inP z) A W := by
  have hp : ∀ b e,inP z b = some e → b < z ∧ e = ⟨b,0,0,false,z⟩ := fun b e he => by
    unfold inP at he
    split at he
    · rename_i hb; cases he; exact ⟨hb,rfl⟩
    · cases he
  have hl : ∀ b x,look A.objs b = some x → b < W.heap.size ∧ ∃ c t f,W.heap[b]? = some (.cells c t f) ∧ x = ⟨.cells c t f,false,z⟩ := fun b x hx => by
    rw [h.look'] at hx
    split at hx
    · rename_i hb; exact ⟨hb,roOf_some hx⟩
    · cases hx
  have hz : isRO false z = true := by
    obtain ⟨k,rfl⟩ : ∃ k,z = k + 1 := ⟨z - 1,by have := h.pos; omega⟩
    rfl
  exact {
    fresh := fun b e he => by rw [h.next]; exact (hp b e he).1
    base := fun b x e hx he => by
      obtain ⟨h1,c,t,f,h2,_⟩ := hl b x hx
      obtain ⟨_,rfl⟩ := hp b e he
      exact ⟨fun hk => hk.2 c t f h2,h1⟩
    alive := fun b x hx => by
      obtain ⟨h1,c,t,f,h2,rfl⟩ := hl b x hx
      refine ⟨⟨b,0,0,false,z⟩,if_pos (by have := h.big; omega),rfl,rfl,?_⟩
      rw [zCH.ro hz]
      exact ⟨rfl,h2,fun i v _ hr => inP_v hr⟩
    inj := fun b b' x x' e e' hne _ _ he he' => by
      obtain ⟨_,rfl⟩ := hp b e he
      obtain ⟨_,rfl⟩ := hp b' e' he'
      exact hne
    res := fun b hb => hb.elim }
theorem calls_of_conF {g : FuncId} {fn : Func} {t : Tmp} {xs : List Value} (hfn : P.funcs[g]? = some fn) (hres : fn.results = #[.tmp t]) {W : World} {z : Nat} {A : AHeap} (hA : In W z A) {xs' : Array Value} (hx : AR (inP z) ⟨xs⟩ xs')
    (h : ConF P g xs A (fun v A1 => v = .bool true ∧ Nx A.next A A1)) : Calls P g xs' W (fun e w' => e = .returned (.bool true) ∧ Below W.heap.size W w') := by
  obtain ⟨v,A1,hF,rfl,hN⟩ := h
  obtain ⟨frE,AE,fn',e1,hm,hd,hf',hr,hl⟩ := hF (inN W)
  rw [hfn] at hf'; cases hf'
  intro cs
  obtain ⟨ψ,frE',cs1',w1,g1,g2,g3,g4,g5,g6⟩ := hl [] _ W _ [] trivial (enter_rel hx) .nil hA.sim (fun k hk => hk.1) cs
  cases g3
  have hAE : AE = A1 ∧ frE.tmps[t]? = some (.bool true) := by
    simp only [results,hres] at hr
    simp at hr
    have hgd := hr.1
    refine ⟨hr.2,?_⟩
    cases hq : frE.tmps[t]? with
    | none => rw [hq] at hgd; simp [undef] at hgd
    | some u => rw [hq] at hgd; simp at hgd; rw [hgd]
  obtain ⟨rfl,hv2⟩ := hAE
  obtain ⟨v',k1,k2⟩ := g2.tmps.get hv2
  cases k2
  have hdl : frE'.defers = [] := by
    have := g2.defers
    simp only at this
    rw [hd] at this
    cases hl : frE'.defers with
    | nil => rfl
    | cons d l => rw [hl] at this; cases this
  have hz : isRO false z = true := by
    obtain ⟨k,rfl⟩ : ∃ k,z = k + 1 := ⟨z - 1,by have := hA.pos; omega⟩
    rfl
  have hb : Below W.heap.size W w1 := by
    refine ⟨g5.os,g5.tape,g5.output,g5.size,fun k hk => ?_⟩
    by_cases hc : ∃ c t f,W.heap[k]? = some (.cells c t f)
    · obtain ⟨c,t,f,hc⟩ := hc
      have hl0 : look A.objs k = some ⟨.cells c t f,false,z⟩ := by rw [hA.look',if_pos hk,hc]; rfl
      have hl1 : look AE.objs k = some ⟨.cells c t f,false,z⟩ := by rw [hN.keep k (by rw [hA.next]; have := hA.big; omega)]; exact hl0
      obtain ⟨e,q1,q2,q3,q4⟩ := g4.alive k _ hl1
      have he := g1 k ⟨k,0,0,false,z⟩ (if_pos (by have := hA.big; omega))
      rw [he] at q1
      cases q1
      rw [zCH.ro hz] at q4
      rw [hc]
      exact q4.2.1
    · exact g5.block k ⟨hk,fun c t f he => hc ⟨c,t,f,he⟩⟩
  refine ⟨.returned (.bool true),w1,frE',⟨rfl,hb⟩,g6,g2.fn.trans e1,g2.mode.trans hm,hdl,g2.kind',fn,?_,?_⟩
  · rw [g2.fn,e1]; exact hfn
  · simp [results,hres,Array.getD_eq_getD_getElem?,k1]
end
end Go.Proofs.Ytdaljohmfnfgiaa.Canon

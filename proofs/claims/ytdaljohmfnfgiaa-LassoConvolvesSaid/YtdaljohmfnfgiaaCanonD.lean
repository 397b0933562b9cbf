/- What the proof of this claim is made of. No condition. -/
import Derived.Test.YtdaljohmfnfgiaaCanonC
namespace Go.Proofs.Ytdaljohmfnfgiaa.Canon
open Go Go.RowKit
noncomputable section
section
variable {α β γ δ : Type} {P : Program}
theorem Q.fieldAt {φ : Phi} {v v' : Value} (h : V φ v v') (s : TypeId) (f : Nat) : QS P V (Instr.fieldAt s v f) φ (Instr.fieldAt s v' f) := by
  refine Q.bind (Q.underlying φ s) fun ψ d d' hl hd => ?_
  obtain ⟨rfl,-⟩ := hd
  cases d
  case struct fields =>
    cases hf : fields[f]? with
    | none => exact Q.dead fun A => by simp [hf]
    | some fl =>
      simp only [hf]
      refine Q.bind (Q.sureAddr (h.mono hl)) fun χ a a' hc ha => ?_
      refine Q.bind (R := AddrR) ?_ fun ω b b' _ hb => Q.pure hb.ptr
      unfold fieldPlace
      refine Q.bind (Q.sizeOf χ fl.type) fun ω n n' ho hn => ?_
      obtain ⟨rfl,_⟩ := hn
      by_cases hz : n = 0
      · refine Q.dead fun A => ?_
        simp only [hz,if_true,partAt,byteOf,zBV]
        obtain ⟨h1,_⟩ := ha
        simp [h1,noView,viewAt]
      · simp only [hz,if_false]
        exact Q.pure ((ha.mono ho).add _)
  all_goals exact Q.dead fun A => by simp
theorem Q.indexAt {φ : Phi} {v v' u u' : Value} (h : V φ v v') (hu : V φ u u') (t : TypeId) : QS P V (Instr.indexAt t v u) φ (Instr.indexAt t v' u') := by
  unfold Instr.indexAt
  refine Q.bind (Q.asIntOf hu) fun ψ p p' hl hp => ?_
  cases hp
  obtain ⟨k,i⟩ := p
  refine Q.bind (Q.underlying ψ t) fun χ d d' hc hd => ?_
  obtain ⟨rfl,-⟩ := hd
  have h := (h.mono hl).mono hc
  have fin : ∀ (len : Nat) (elem : TypeId) (ω : Phi) (a a' : Addr) (n : Nat),AddrR ω a a' → (tiny : Bool) →
      QS P V (if 0 ≤ i ∧ i < (len : Int) then (do Pure.pure (Value.pointer (some (a.add (i.toNat * (← Go.sizeOf elem)))))) else if tiny = true then unsupported (.noEntry "op/indexAddr.an index out of range at an array of length 0 or 1 (ledger 616)") else boundsPanic k i len .index) ω
        (if 0 ≤ i ∧ i < (len : Int) then (do Pure.pure (Value.pointer (some (a'.add (i.toNat * (← Go.sizeOf elem)))))) else if tiny = true then unsupported (.noEntry "op/indexAddr.an index out of range at an array of length 0 or 1 (ledger 616)") else boundsPanic k i len .index) := by
    intro len elem ω a a' n ha tiny
    by_cases hi : 0 ≤ i ∧ i < (len : Int)
    · simp only [hi,and_self,if_true]
      refine Q.bind (Q.sizeOf ω elem) fun _ m m' ho hm => ?_
      obtain ⟨rfl,_⟩ := hm
      exact Q.pure ((ha.mono ho).add _).ptr
    · exact Q.dead fun A => by simp only [if_neg hi]; split <;> simp
  cases d
  case array len elem =>
    refine Q.bind (Q.sureAddr h) fun ω a a' ho ha => ?_
    simp only [pure_bind]
    refine Q.bind (Q.underlying ω t) fun ω' d2 d2' ho' hd2 => ?_
    obtain ⟨rfl,_⟩ := hd2
    simp only [bind_pure_comp]
    exact fin len elem ω' a a' 0 (ha.mono ho') _
  case slice elem =>
    cases h
    case sliceNil n c =>
      exact Q.dead fun A => by
        simp only [pure_bind,zBV]
        cases arun P (Go.underlying t) A <;> simp
    case slice b o n c c' e he hcr =>
      simp only [pure_bind]
      refine Q.bind (Q.underlying χ t) fun ω' d2 d2' ho' hd2 => ?_
      obtain ⟨rfl,_⟩ := hd2
      exact fin n elem ω' ⟨b,o,none⟩ _ 0 ⟨rfl,e,ho' _ _ he,rfl⟩ _
    case sliceZ b o s o' c' e he hg hx =>
      refine Q.dead fun A => ?_
      have hi : ¬ (0 ≤ i ∧ i < ((0 : Nat) : Int)) := by omega
      simp only [pure_bind,zBV]
      cases arun P (Go.underlying t) A with
      | none => rfl
      | some p => simp only [Option.bind_some,if_neg hi]; split <;> simp
    case sliceE b o s a =>
      refine Q.dead fun A => ?_
      have hi : ¬ (0 ≤ i ∧ i < ((0 : Nat) : Int)) := by omega
      simp only [pure_bind,zBV]
      cases arun P (Go.underlying t) A with
      | none => rfl
      | some p => simp only [Option.bind_some,if_neg hi]; split <;> simp
    all_goals exact Q.dead fun A => by simp
  all_goals exact Q.dead fun A => by simp
theorem Q.field {φ : Phi} {v v' : Value} (h : V φ v v') (s : TypeId) (f : Nat) : QS P V (Instr.field s v f) φ (Instr.field s v' f) := by
  refine Q.bind (Q.underlying φ s) fun ψ d d' hl hd => ?_
  obtain ⟨rfl,-⟩ := hd
  cases d
  case struct fields =>
    cases hf : fields[f]? with
    | none => exact Q.dead fun A => by simp [hf]
    | some fl => simp only [hf]; exact Q.bind (Q.asAgg (h.mono hl)) fun χ a a' _ ha => Q.part ha _ _
  all_goals exact Q.dead fun A => by simp
theorem Q.index {φ : Phi} {v v' u u' : Value} (h : V φ v v') (hu : V φ u u') (t : TypeId) : QS P V (Instr.index t v u) φ (Instr.index t v' u') := by
  refine Q.bind (Q.asIntOf hu) fun ψ p p' hl hp => ?_
  cases hp
  obtain ⟨k,i⟩ := p
  refine Q.bind (Q.underlying ψ t) fun χ d d' hc hd => ?_
  obtain ⟨rfl,-⟩ := hd
  have h := (h.mono hl).mono hc
  cases d
  case array len elem =>
    cases h
    case agg xs xs' hx hx' =>
      by_cases hi : 0 ≤ i ∧ i < (len : Int)
      · simp only [hi,and_self,if_true]
        refine Q.bind (Q.sizeOf χ elem) fun _ m m' ho hm => ?_
        obtain ⟨rfl,_⟩ := hm
        exact Q.part (AR.mono ho ⟨hx,hx'⟩) _ _
      · exact Q.dead fun A => by simp [if_neg hi]
    all_goals exact Q.dead fun A => by simp
  case string =>
    cases h
    case string s =>
      cases hb : (if 0 ≤ i then s[i.toNat]? else none) with
      | none => exact Q.dead fun A => by simp [hb]
      | some b => simp only [hb]; exact Q.pure (.int _ _)
    all_goals exact Q.dead fun A => by simp
  all_goals exact Q.dead fun A => by simp
theorem Q.alloc {φ : Phi} {t : TypeId} (hz : zok P t = true) : QS P V (Instr.alloc t true (.tuple #[])) φ (Instr.alloc t true (.tuple #[])) :=
  Q.bind (Q.zeroValue φ hz) fun _ _ _ _ hv => Q.bind (Q.newVar hv t) fun _ _ _ _ ha => Q.pure ha.ptr
theorem Q.box {φ : Phi} {v v' : Value} (h : V φ v v') (t : TypeId) : QS P V (Instr.box t v) φ (Instr.box t v') :=
  Q.bind (Q.newVar h t) fun _ _ _ _ ha => Q.pure ha.ptr
inductive PR (φ : Phi) : List (Nat × Value) → List (Nat × Value) → Prop
  | nil : PR φ [] []
  | cons {i : Nat} {v v' : Value} {l l' : List (Nat × Value)} (h : V φ v v') (t : PR φ l l') : PR φ ((i,v) :: l) ((i,v') :: l')
theorem PR.mono {φ ψ : Phi} (h : φ.le ψ) {l l' : List (Nat × Value)} (hl : PR φ l l') : PR ψ l l' := by
  induction hl with
  | nil => exact .nil
  | cons hv _ ih => exact .cons (hv.mono h) ih
theorem PR.map {φ : Phi} {ι : Type} (l : List (Nat × ι)) (f g : ι → Value) (h : ∀ p ∈ l,V φ (f p.2) (g p.2)) : PR φ (l.map fun (i,x) => (i,f x)) (l.map fun (i,x) => (i,g x)) := by
  induction l with
  | nil => exact .nil
  | cons p l ih => exact .cons (h p (by simp)) (ih fun q hq => h q (by simp [hq]))
theorem AR.foldSet {φ : Phi} (off : Nat) {cs cs' : List Value} (h : LR φ cs cs') : ∀ (k : Nat) {xs xs' : Array Value},AR φ xs xs' →
    AR φ ((cs.zipIdx k).foldl (fun cs (c,j) => cs.setIfInBounds (off + j) c) xs) ((cs'.zipIdx k).foldl (fun cs (c,j) => cs.setIfInBounds (off + j) c) xs') := by
  induction h with
  | nil => intro k xs xs' hx; exact hx
  | cons hv _ ih => intro k xs xs' hx; simp only [List.zipIdx_cons,List.foldl_cons]; exact ih (k + 1) (hx.set hv _)
theorem fill_rel {φ : Phi} (place : Nat → Option (Nat × Nat)) {l l' : List (Nat × Value)} (hl : PR φ l l') : ∀ {cs cs' : Array Value},AR φ cs cs' → ∀ {r : Array Value},
    Instr.fill place cs l = some r → ∃ r',Instr.fill place cs' l' = some r' ∧ AR φ r r' := by
  induction hl with
  | nil => intro cs cs' hc r hr; simp only [Instr.fill,zOi] at hr; subst hr; exact ⟨cs',rfl,hc⟩
  | @cons i v v' l l' hv _ ih =>
    intro cs cs' hc r hr
    simp only [Instr.fill] at hr ⊢
    cases hp : place i with
    | none => rw [hp] at hr; cases hr
    | some os =>
      obtain ⟨off,size⟩ := os
      rw [hp] at hr
      simp only at hr ⊢
      rw [hv.cells.1,hc.1] at hr
      split at hr
      · cases hr
      · rename_i hno
        rw [if_neg hno]
        refine ih ?_ hr
        rw [← Array.foldl_toList,← Array.foldl_toList,Array.toList_zipIdx,Array.toList_zipIdx]
        exact AR.foldSet off hv.cells.list 0 hc
theorem only_mapM {ι σ : Type} (g : ι → Sem σ) (hg : ∀ x A a A1,arun P (g x) A = some (a,A1) → A1 = A ∧ ∀ w,(g x).run P w = .ok a w) :
    ∀ (l : List ι) A a A1,arun P (l.mapM g) A = some (a,A1) → A1 = A ∧ ∀ w,(l.mapM g).run P w = .ok a w := by
  intro l
  induction l with
  | nil => intro A a A1 h; simp at h; obtain ⟨rfl,rfl⟩ := h; exact ⟨rfl,fun w => by simp⟩
  | cons x l ih =>
    intro A a A1 h
    simp only [List.mapM_cons,zBV] at h
    cases h1 : arun P (g x) A with
    | none => rw [h1] at h; cases h
    | some p =>
      obtain ⟨e1,k1⟩ := hg x A p.1 p.2 h1
      rw [h1] at h
      simp only [Option.bind_some] at h
      cases h2 : arun P (l.mapM g) p.2 with
      | none => rw [h2] at h; cases h
      | some q =>
        obtain ⟨e2,k2⟩ := ih p.2 q.1 q.2 h2
        rw [h2] at h
        simp at h
        obtain ⟨rfl,rfl⟩ := h
        exact ⟨e2.trans e1,fun w => by simp [List.mapM_cons,k1,k2]⟩
theorem Q.build {φ : Phi} {t : TypeId} (hz : zok P t = true) {ps ps' : Array (Nat × Value)} (h : PR φ ps.toList ps'.toList) : QS P V (Instr.build t ps) φ (Instr.build t ps') := by
  unfold Instr.build
  refine Q.bind (Q.zeroValue φ hz) fun ψ z z' hl hzv => ?_
  refine Q.bind (Q.underlying ψ t) fun χ d d' hc hd => ?_
  obtain ⟨rfl,-⟩ := hd
  have hzc := (hzv.mono hc).cells
  have hps := (h.mono hl).mono hc
  cases d
  case struct fields =>
    refine Q.bind (R := EqR) ?_ fun ω pl pl' ho hpl => ?_
    · refine Q.only fun A a A1 h => ?_
      rw [← Array.toArray_toList (xs := fields),List.mapM_toArray] at h ⊢
      simp only [arun_map] at h
      cases hm : arun P (fields.toList.mapM fun f => do Pure.pure (f.offset,← Go.sizeOf f.type)) A with
      | none => rw [hm] at h; cases h
      | some p =>
        obtain ⟨h1,h2⟩ := only_mapM _ (fun f A a A1 h => by
          cases hi : P.info? f.type with
          | none => simp [Go.sizeOf,Go.typeInfo,hi] at h
          | some i => simp [Go.sizeOf,Go.typeInfo,hi] at h ⊢; exact ⟨h.2.symm,h.1⟩) fields.toList A p.1 p.2 hm
        rw [hm] at h
        simp only [Option.map_some,zOi,Prod.mk.injEq] at h
        obtain ⟨rfl,rfl⟩ := h
        exact ⟨h1,_,fun w => by simp only [Sem.run_map,h2]; rfl,rfl⟩
    · cases hpl
      cases hf : Instr.fill (fun x => pl[x]?) z.cells ps.toList with
      | none => exact Q.dead fun A => by simp
      | some r =>
        obtain ⟨r',h1,h2⟩ := fill_rel _ (hps.mono ho) (hzc.mono ho) hf
        simp only [h1]
        exact Q.pure (V.ofAgg h2)
  case array n elem =>
    refine Q.bind (Q.sizeOf χ elem) fun ω s s' ho hsz => ?_
    obtain ⟨rfl,_⟩ := hsz
    cases hf : Instr.fill (fun i => some (i * s,s)) z.cells ps.toList with
    | none => exact Q.dead fun A => by simp
    | some r =>
      obtain ⟨r',h1,h2⟩ := fill_rel _ (hps.mono ho) (hzc.mono ho) hf
      simp only [h1]
      exact Q.pure (V.ofAgg h2)
  all_goals exact Q.dead fun A => by simp
theorem AR.zeros {φ : Phi} {z z' : Array Value} (h : AR φ z z') (n : Nat) (hn : n = 0 ∨ z.size ≠ 0) : AR φ ((Array.range n).map (z[· % z.size]!)) ((Array.range n).map (z'[· % z'.size]!)) := by
  rw [← h.1]
  refine AR.map _ _ _ fun i hi => ?_
  have hz : z.size ≠ 0 := by
    rcases hn with rfl | hn
    · simp at hi
    · exact hn
  have hlt : i % z.size < z.size := Nat.mod_lt _ (by omega)
  have hlt' : i % z.size < z'.size := h.1 ▸ hlt
  rw [getElem!_pos z _ hlt,getElem!_pos z' _ hlt']
  exact h.2 _ hlt hlt'
end
end
end Go.Proofs.Ytdaljohmfnfgiaa.Canon

/- What the proof of this claim is made of. No condition. -/
import Derived.Test.YtdaljohmfnfgiaaCanonA
namespace Go.Proofs.Ytdaljohmfnfgiaa.Canon
open Go Go.RowKit
noncomputable section
def isRO (g : Bool) (z : Nat) : Bool := match g with
  | true => false
  | false => match z with
    | 0 => false
    | _ + 1 => true
def roV (z : Nat) : Value → Bool
  | .bool _ | .int _ _ | .string _ | .pointer none | .slice none _ _ | .map none | .nilFunc | .nilIface => true
  | .pointer (some ⟨b,_,none⟩) => Nat.blt b z
  | .slice (some ⟨b,_,none⟩) _ _ => Nat.blt b z
  | .slice (some ⟨_,_,some _⟩) 0 0 => true
  | _ => false
def zCH (φ : Phi) (e : Ent) (w : World) : Obj → Prop
  | .cells c t0 f => match isRO e.grown e.esz with
    | true => e.off = 0 ∧ w.heap[e.blk]? = some (.cells c t0 f) ∧ ∀ (i : Nat) (v : Value),c[i]? = some v → roV e.esz v = true → V φ v v
    | false => f = (0,0) ∧ ∃ (c' : Array Value) (t : TypeId) (z : Nat × Nat),w.heap[e.blk]? = some (.cells c' t z) ∧ e.off + e.ext ≤ c'.size ∧ c.size ≤ e.ext ∧
      (∀ (i : Nat) (v : Value),c[i]? = some v → ∃ v',c'[e.off + i]? = some v' ∧ V φ v v') ∧ (∀ i,i < e.ext → ¬ (z.1 ≤ e.off + i ∧ e.off + i < z.2)) ∧ (e.grown = false → e.off = 0 ∧ t = t0 ∧ c'.size = c.size)
  | o => e.off = 0 ∧ ∃ o',w.heap[e.blk]? = some o' ∧ OR φ o o'
theorem zCH.row {φ : Phi} {e : Ent} {w : World} {c : Array Value} {t0 : TypeId} {f : Nat × Nat} (hr : isRO e.grown e.esz = false) : zCH φ e w (.cells c t0 f) ↔
    f = (0,0) ∧ ∃ (c' : Array Value) (t : TypeId) (z : Nat × Nat),w.heap[e.blk]? = some (.cells c' t z) ∧ e.off + e.ext ≤ c'.size ∧ c.size ≤ e.ext ∧
      (∀ (i : Nat) (v : Value),c[i]? = some v → ∃ v',c'[e.off + i]? = some v' ∧ V φ v v') ∧ (∀ i,i < e.ext → ¬ (z.1 ≤ e.off + i ∧ e.off + i < z.2)) ∧ (e.grown = false → e.off = 0 ∧ t = t0 ∧ c'.size = c.size) := by
  simp only [zCH,hr]
theorem zCH.ro {φ : Phi} {e : Ent} {w : World} {c : Array Value} {t0 : TypeId} {f : Nat × Nat} (hr : isRO e.grown e.esz = true) : zCH φ e w (.cells c t0 f) ↔
    e.off = 0 ∧ w.heap[e.blk]? = some (.cells c t0 f) ∧ ∀ (i : Nat) (v : Value),c[i]? = some v → roV e.esz v = true → V φ v v := by
  simp only [zCH,hr]
structure Kp where
  blk : Nat → Prop
  nm : Nat → Prop
def KOK (N : Kp) (w : World) : Prop := ∀ k,N.blk k → k < w.heap.size
theorem KOK.up {N : Kp} {w w' : World} (h : KOK N w) (hs : w.heap.size ≤ w'.heap.size) : KOK N w' := fun k hk => Nat.lt_of_lt_of_le (h k hk) hs
theorem KOK.new {N : Kp} {w : World} (h : KOK N w) : ¬ N.blk w.heap.size := fun hk => Nat.lt_irrefl _ (h _ hk)
structure Kept (N : Kp) (w w' : World) : Prop where
  os : w'.os = w.os
  tape : w'.tape = w.tape
  output : w'.output = w.output
  size : w.heap.size ≤ w'.heap.size
  block : ∀ k,N.blk k → w'.heap[k]? = w.heap[k]?
theorem Kept.refl (N : Kp) (w : World) : Kept N w w := ⟨rfl,rfl,rfl,Nat.le_refl _,fun _ _ => rfl⟩
theorem Kept.trans {N : Kp} {a b c : World} (h : Kept N a b) (k : Kept N b c) : Kept N a c :=
  ⟨k.os.trans h.os,k.tape.trans h.tape,k.output.trans h.output,Nat.le_trans h.size k.size,fun i hi => (k.block i hi).trans (h.block i hi)⟩
theorem Kept.setCell {N : Kp} {a w : World} (h : Kept N a w) {p : Addr} (hp : ¬ N.blk p.block) (u : Value) : Kept N a (w.setCell p u) :=
  h.trans ⟨rfl,rfl,rfl,by simp [World.setCell],fun k hk => Below.heap_setCell _ _ _ _ (fun he => hp (he ▸ hk))⟩
structure Sim (N : Kp) (φ : Phi) (A : AHeap) (w : World) : Prop where
  fresh : ∀ b e,φ b = some e → b < A.next
  base : ∀ b x e,look A.objs b = some x → φ b = some e → ¬ N.blk e.blk ∧ e.blk < w.heap.size
  alive : ∀ b x,look A.objs b = some x → ∃ e,φ b = some e ∧ e.grown = x.grown ∧ e.esz = x.esz ∧ zCH φ e w x.o
  inj : ∀ b b' x x' e e',b ≠ b' → look A.objs b = some x → look A.objs b' = some x' → φ b = some e → φ b' = some e' → e.blk ≠ e'.blk
  res : ∀ b,N.nm b → φ b = none ∧ b < A.next
theorem zCH.mono {φ ψ : Phi} (h : φ.le ψ) {e : Ent} {w w' : World} {o : Obj} (hw : w'.heap[e.blk]? = w.heap[e.blk]?) (ho : zCH φ e w o) : zCH ψ e w' o := by
  cases o
  case cells =>
    cases hr : isRO e.grown e.esz with
    | true =>
      rw [zCH.ro hr] at ho ⊢
      rw [hw]
      exact ⟨ho.1,ho.2.1,fun i v hv hq => (ho.2.2 i v hv hq).mono h⟩
    | false =>
      rw [zCH.row hr] at ho ⊢
      rw [hw]
      obtain ⟨hf,c',t,z,h1,h2,h3,h4,h5⟩ := ho
      refine ⟨hf,c',t,z,h1,h2,h3,fun i v hv => ?_,h5⟩
      obtain ⟨v',h6,h7⟩ := h4 i v hv
      exact ⟨v',h6,h7.mono h⟩
  all_goals
    simp only [zCH] at ho ⊢
    rw [hw]
    obtain ⟨h0,o',h1,h2⟩ := ho
    exact ⟨h0,o',h1,h2.mono h⟩
def AddrR (φ : Phi) (a a' : Addr) : Prop := a.spot = none ∧ ∃ e,φ a.block = some e ∧ a' = ⟨e.blk,e.off + a.off,none⟩
def zBY : Value → Bool
  | .agg _ | .tuple _ => false
  | _ => true
def AHeap.cell (A : AHeap) (a : Addr) : Option Value :=
  match a.spot,look A.objs a.block with
  | none,some ⟨.cells c _ _,g,z⟩ => match isRO g z with
    | false => c[a.off]?
    | true => match c[a.off]? with
      | some v => match roV z v with
        | true => some v
        | false => none
      | none => none
  | _,_ => none
def AHeap.set (A : AHeap) (a : Addr) (v : Value) : Option AHeap :=
  match a.spot,zBY v,look A.objs a.block with
  | none,true,some ⟨.cells c t z,g,e⟩ => match isRO g e with
    | true => none
    | false => match Nat.blt a.off c.size with
      | true => some { A with objs := putO A.objs a.block (.cells (c.setIfInBounds a.off v) t z) }
      | false => none
  | _,_,_ => none
def isRow : Obj → Bool
  | .cells .. => true
  | _ => false
def AHeap.obj (A : AHeap) (r : Nat) : Option Obj :=
  match look A.objs r with
  | some x => match isRow x.o with
    | true => none
    | false => some x.o
  | none => none
def AHeap.setObj (A : AHeap) (r : Nat) (o : Obj) : Option AHeap :=
  match isRow o,A.obj r with
  | false,some _ => some { A with objs := putO A.objs r o }
  | _,_ => none
def AHeap.push (A : AHeap) (o : Obj) : AHeap := ⟨A.next + 1,zDU A.next ⟨o,false,0⟩ A.objs⟩
def arun {α : Type} (P : Program) : Sem α → AHeap → Option (α × AHeap)
  | .pure a,A => some (a,A)
  | .load _ a k,A => match A.cell a with
    | some v => arun P (k v) A
    | none => none
  | .store _ a v k,A => match A.set a v with
    | some A' => arun P k A'
    | none => none
  | .new o k,A => arun P (k A.next) (A.push o)
  | .getObj r k,A => match A.obj r with
    | some o => arun P (k o) A
    | none => none
  | .setObj r o k,A => match A.setObj r o with
    | some A' => arun P k A'
    | none => none
  | .choose q k,A => match q.forced with
    | true => arun P (k 0) A
    | false => none
  | .program k,A => arun P (k P) A
  | .mark _ k,A => arun P k A
  | _,_ => none
theorem AHeap.cell_eq {A : AHeap} {a : Addr} {v : Value} (h : A.cell a = some v) :
    a.spot = none ∧ ∃ c t z g s,look A.objs a.block = some ⟨.cells c t z,g,s⟩ ∧ c[a.off]? = some v ∧ (isRO g s = true → roV s v = true) := by
  unfold AHeap.cell at h
  split at h
  · rename_i c t z g s h1 h2
    split at h
    · rename_i hr
      exact ⟨h1,_,_,_,_,_,h2,h,fun hh => by rw [hr] at hh; cases hh⟩
    · split at h
      · rename_i v' hv
        split at h
        · rename_i hq
          cases h
          exact ⟨h1,_,_,_,_,_,h2,hv,fun _ => hq⟩
        · cases h
      · cases h
  · cases h
theorem Sim.load {N : Kp} {φ : Phi} {A : AHeap} {w : World} (hs : Sim N φ A w) {a a' : Addr} (ha : AddrR φ a a') {v : Value} (h : A.cell a = some v) :
    ∃ v',w.cell? a' = some v' ∧ V φ v v' := by
  obtain ⟨hsp,c,t,z,g,s,hl,hc,hq⟩ := AHeap.cell_eq h
  obtain ⟨_,e,he,rfl⟩ := ha
  obtain ⟨e',he',hg,hz,hat⟩ := hs.alive _ _ hl
  rw [he] at he'; cases he'
  simp only at hg hz
  cases hr : isRO g s with
  | true =>
    rw [zCH.ro (by rw [hg,hz]; exact hr)] at hat
    obtain ⟨h0,h1,h2⟩ := hat
    exact ⟨v,by simp [World.cell?,h1,h0,hc],h2 _ _ hc (by rw [hz]; exact hq hr)⟩
  | false =>
    rw [zCH.row (by rw [hg,hz]; exact hr)] at hat
    obtain ⟨_,c',t',z',h1,h2,h3,h4,h5,h6⟩ := hat
    obtain ⟨v',h8,h7⟩ := h4 _ _ hc
    exact ⟨v',by simp [World.cell?,h1,h8],h7⟩
theorem heap_setCell_same (w : World) (a : Addr) (v : Value) {c : Array Value} {t : TypeId} {z : Nat × Nat} (h : w.heap[a.block]? = some (.cells c t z)) (hs : a.spot = none) :
    (w.setCell a v).heap[a.block]? = some (.cells (c.setIfInBounds a.off v) t z) := by
  simp [World.setCell,Array.getElem?_modify,h,hs]
theorem Sim.store {N : Kp} {φ : Phi} {A A' : AHeap} {w : World} (hs : Sim N φ A w) {a a' : Addr} (ha : AddrR φ a a') {v v' : Value} (hv : V φ v v') (h : A.set a v = some A') :
    (∃ u,w.cell? a' = some u) ∧ w.frozen? a' = false ∧ Sim N φ A' (w.setCell a' v') ∧ Kept N w (w.setCell a' v') ∧ zBY v = true := by
  unfold AHeap.set at h
  split at h
  · rename_i c t z g s hsp hcell hl
    split at h
    · cases h
    rename_i hro
    split at h
    · rename_i hlt
      have hlt : a.off < c.size := by
        have := Nat.le_of_ble_eq_true hlt; exact this
      cases h
      have hcl : A.cell a = some c[a.off] := by
        simp [AHeap.cell,hsp,hl,hlt,hro]
      obtain ⟨u,hu,_⟩ := hs.load ha hcl
      obtain ⟨_,e,he,rfl⟩ := ha
      obtain ⟨e',he',hg,hz,hat⟩ := hs.alive _ _ hl
      rw [he] at he'; cases he'
      simp only at hg hz
      have hre : isRO e.grown e.esz = false := by rw [hg,hz]; exact hro
      rw [zCH.row hre] at hat
      obtain ⟨hf,c',t',z',h1,h2,h3,h4,h5,h6⟩ := hat
      have hfz : w.frozen? ⟨e.blk,e.off + a.off,none⟩ = false := by
        have := h5 a.off (by omega)
        simp only [World.frozen?,h1]
        cases hb : (decide (z'.1 ≤ e.off + a.off) && decide (e.off + a.off < z'.2)) with
        | false => rfl
        | true => simp at hb; exact absurd hb this
      have hoth : ∀ k,k ≠ e.blk → (w.setCell ⟨e.blk,e.off + a.off,none⟩ v').heap[k]? = w.heap[k]? := fun k hk => Below.heap_setCell _ _ _ _ hk
      have hsame := heap_setCell_same w ⟨e.blk,e.off + a.off,none⟩ v' h1 rfl
      refine ⟨⟨u,hu⟩,hfz,?_,(Kept.refl _ _).setCell (hs.base _ _ _ hl he).1 _,hcell⟩
      have aux : ∀ b x,look (putO A.objs a.block (.cells (c.setIfInBounds a.off v) t z)) b = some x → ∃ y,look A.objs b = some y := fun b x hx => by
        rw [look_putO] at hx
        split at hx
        · rename_i hb; subst hb; exact ⟨_,hl⟩
        · exact ⟨_,hx⟩
      refine ⟨hs.fresh,fun b x e₁ hx he₁ => ?_,fun b x hx => ?_,fun b b' x x' e₁ e₂ hne hx hx' h₁ h₂ => ?_,hs.res⟩
      · obtain ⟨y,hy⟩ := aux b x hx
        have := hs.base b y e₁ hy he₁; exact ⟨this.1,by simp [World.setCell]; exact this.2⟩
      · simp only [look_putO] at hx
        split at hx
        · rename_i hb
          subst hb
          simp only [hl,Option.map_some,zOi] at hx
          subst hx
          refine ⟨e,he,hg,hz,(zCH.row hre).2 ⟨hf,_,t',z',hsame,by simpa using h2,by simpa using h3,fun i y hy => ?_,h5,fun hg0 => by obtain ⟨q1,q2,q3⟩ := h6 hg0; exact ⟨q1,q2,by simpa using q3⟩⟩⟩
          rw [Array.getElem?_setIfInBounds] at hy
          simp only [Array.getElem?_setIfInBounds]
          split at hy
          · rename_i hi
            subst hi
            cases hy
            rw [if_pos rfl,if_pos (by omega)]
            exact ⟨v',rfl,hv⟩
          · rename_i hi
            rw [if_neg (by omega)]
            exact h4 i y hy
        · rename_i hb
          obtain ⟨e₁,k1,k2,k3,k4⟩ := hs.alive b x hx
          exact ⟨e₁,k1,k2,k3,k4.mono (Phi.le_refl _) (hoth _ (hs.inj b a.block x _ e₁ e (fun h => hb h.symm) hx hl k1 he))⟩
      · obtain ⟨y,hy⟩ := aux b x hx
        obtain ⟨y',hy'⟩ := aux b' x' hx'
        exact hs.inj b b' y y' e₁ e₂ hne hy hy' h₁ h₂
    · cases h
  · cases h
theorem AHeap.obj_eq {A : AHeap} {r : Nat} {o : Obj} (h : A.obj r = some o) : isRow o = false ∧ ∃ g s,look A.objs r = some ⟨o,g,s⟩ := by
  unfold AHeap.obj at h
  split at h
  · rename_i x hx
    split at h
    · cases h
    · rename_i hr; cases h; exact ⟨hr,x.grown,x.esz,hx⟩
  · cases h
theorem Sim.getObj {N : Kp} {φ : Phi} {A : AHeap} {w : World} (hs : Sim N φ A w) {r : Nat} {e : Ent} (he : φ r = some e) {o : Obj} (h : A.obj r = some o) :
    ∃ o',w.heap[e.blk]? = some o' ∧ OR φ o o' ∧ isRow o' = false ∧ e.off = 0 := by
  obtain ⟨hr,g,s,hl⟩ := AHeap.obj_eq h
  obtain ⟨e',he',_,_,ho⟩ := hs.alive _ _ hl
  rw [he] at he'; cases he'
  cases o <;> simp only [isRow] at hr <;> simp only [zCH] at ho <;> first
    | (obtain ⟨h0,o',h1,h2⟩ := ho
       refine ⟨o',h1,h2,?_,h0⟩
       cases o' <;> first | rfl | (simp only [OR] at h2))
    | cases hr
theorem Sim.setObj {N : Kp} {φ : Phi} {A A' : AHeap} {w : World} (hs : Sim N φ A w) {r : Nat} {e : Ent} (he : φ r = some e) {o o' : Obj} (ho : OR φ o o') (h : A.setObj r o = some A') :
    (∃ u,w.heap[e.blk]? = some u ∧ isRow u = false) ∧ Sim N φ A' { w with heap := w.heap.setIfInBounds e.blk o' } ∧ Kept N w { w with heap := w.heap.setIfInBounds e.blk o' } := by
  unfold AHeap.setObj at h
  split at h
  · rename_i u hr hu
    cases h
    obtain ⟨hru,g,s,hl⟩ := AHeap.obj_eq hu
    obtain ⟨u',hu',_,hr',h00⟩ := hs.getObj he hu
    have hb := hs.base _ _ _ hl he
    have aux : ∀ b x,look (putO A.objs r o) b = some x → ∃ y,look A.objs b = some y := fun b x hx => by
      rw [look_putO] at hx
      split at hx
      · rename_i hb; subst hb; exact ⟨_,hl⟩
      · exact ⟨_,hx⟩
    refine ⟨⟨u',hu',hr'⟩,?_,⟨rfl,rfl,rfl,by simp,fun k hk => by simp only [Array.getElem?_setIfInBounds]; rw [if_neg (fun h => by subst h; exact hb.1 hk)]⟩⟩
    refine ⟨hs.fresh,fun b x e₁ hx he₁ => ?_,fun b x hx => ?_,fun b b' x x' e₁ e₂ hne hx hx' h₁ h₂ => ?_,hs.res⟩
    · obtain ⟨y,hy⟩ := aux b x hx
      have := hs.base b y e₁ hy he₁; exact ⟨this.1,by simpa using this.2⟩
    · simp only [look_putO] at hx
      split at hx
      · rename_i hbr
        subst hbr
        simp only [hl,Option.map_some,zOi] at hx
        subst hx
        obtain ⟨e',he',hg,hz,_⟩ := hs.alive _ _ hl
        rw [he] at he'; cases he'
        have hat : e.off = 0 ∧ ∃ o'',(w.heap.setIfInBounds e.blk o')[e.blk]? = some o'' ∧ OR φ o o'' := ⟨h00,o',by simp [hb.2],ho⟩
        refine ⟨e,he,hg,hz,?_⟩
        cases o <;> simp only [isRow] at hr <;> first | exact hat | cases hr
      · rename_i hbr
        obtain ⟨e₁,k1,k2,k3,k4⟩ := hs.alive b x hx
        refine ⟨e₁,k1,k2,k3,k4.mono (Phi.le_refl _) ?_⟩
        have hne := hs.inj b r x _ e₁ e (fun h => hbr h.symm) hx hl k1 he
        simp only [Array.getElem?_setIfInBounds]
        rw [if_neg (fun h => hne h.symm)]
    · obtain ⟨y,hy⟩ := aux b x hx
      obtain ⟨y',hy'⟩ := aux b' x' hx'
      exact hs.inj b b' y y' e₁ e₂ hne hy hy' h₁ h₂
  · cases h
def zBE (φ : Phi) (n : Nat) (e : Ent) : Phi := fun b => if b = n then some e else φ b
theorem addPhi_le {φ : Phi} {n : Nat} {e : Ent} (h : φ n = none) : φ.le (zBE φ n e) := fun b x hx => by
  unfold zBE
  split
  · rename_i hb; subst hb; rw [h] at hx; cases hx
  · exact hx
theorem zCP (φ : Phi) (n : Nat) (e : Ent) : zBE φ n e n = some e := by simp [zBE]
theorem addPhi_ne {φ : Phi} {n b : Nat} {e : Ent} (h : b ≠ n) : zBE φ n e b = φ b := by simp [zBE,h]
def cellsOf : Obj → Nat
  | .cells c _ _ => c.size
  | _ => 0
theorem Sim.next_none {N : Kp} {φ : Phi} {A : AHeap} {w : World} (hs : Sim N φ A w) : φ A.next = none := by
  cases h : φ A.next with
  | none => rfl
  | some e => exact absurd (hs.fresh _ _ h) (Nat.lt_irrefl _)
theorem Sim.add {N : Kp} {φ : Phi} {A : AHeap} {w : World} (hs : Sim N φ A w) (o : Obj) (e : Ent) (g : Bool) (z : Nat) (W : World) (L : Tr AObj)
    (hg : e.grown = g) (hz : e.esz = z) (hw : ∀ k,k < w.heap.size → k ≠ e.blk → W.heap[k]? = w.heap[k]?) (hsize : w.heap.size ≤ W.heap.size) (hb : ¬ N.blk e.blk ∧ e.blk < W.heap.size)
    (hL : ∀ b x,look L b = some x → look A.objs b = some x ∧ ∀ e',φ b = some e' → e'.blk ≠ e.blk)
    (ho : zCH (zBE φ A.next e) e W o) :
    Sim N (zBE φ A.next e) ⟨A.next + 1,zDU A.next ⟨o,g,z⟩ L⟩ W := by
  have hle : φ.le (zBE φ A.next e) := addPhi_le hs.next_none
  refine ⟨fun b x hx => ?_,fun b x e₁ hx he₁ => ?_,fun b x hx => ?_,fun b b' x x' e₁ e₂ hne hx hx' h₁ h₂ => ?_,fun b hb => ?_⟩
  · unfold zBE at hx
    split at hx
    · rename_i h; subst h; exact Nat.lt_succ_self _
    · exact Nat.lt_succ_of_lt (hs.fresh b x hx)
  · rw [zCN] at hx
    cases hk : Nat.beq A.next b with
    | true =>
      have hb' : A.next = b := Nat.eq_of_beq_eq_true hk
      subst hb'
      rw [zCP] at he₁
      cases he₁
      exact hb
    | false =>
      rw [hk] at hx
      have hne : b ≠ A.next := fun h => by subst h; simp [Nat.beq_refl] at hk
      rw [addPhi_ne hne] at he₁
      have := hs.base b x e₁ (hL b x hx).1 he₁
      exact ⟨this.1,by omega⟩
  · rw [zCN] at hx
    cases hk : Nat.beq A.next b with
    | true =>
      have hb' : A.next = b := Nat.eq_of_beq_eq_true hk
      subst hb'
      simp only [Nat.beq_refl] at hx
      cases hx
      exact ⟨e,zCP _ _ _,hg,hz,ho⟩
    | false =>
      rw [hk] at hx
      obtain ⟨hx1,hx2⟩ := hL b x hx
      obtain ⟨e₁,k1,k2,k3,k4⟩ := hs.alive b x hx1
      have hne : e₁.blk ≠ e.blk := hx2 e₁ k1
      exact ⟨e₁,hle _ _ k1,k2,k3,k4.mono hle (hw _ (hs.base _ _ _ hx1 k1).2 hne)⟩
  · have split1 : ∀ b x,look (zDU A.next ⟨o,g,z⟩ L) b = some x → ∀ e',zBE φ A.next e b = some e' → (b = A.next ∧ e' = e) ∨ (b ≠ A.next ∧ (look A.objs b = some x) ∧ φ b = some e' ∧ e'.blk ≠ e.blk) := fun b x hx e' he' => by
      rw [zCN] at hx
      cases hk : Nat.beq A.next b with
      | true =>
        have hb' : A.next = b := Nat.eq_of_beq_eq_true hk
        subst hb'
        rw [zCP] at he'
        cases he'
        exact .inl ⟨rfl,rfl⟩
      | false =>
        rw [hk] at hx
        obtain ⟨hx1,hx2⟩ := hL b x hx
        have hne : b ≠ A.next := fun h => by subst h; simp [Nat.beq_refl] at hk
        rw [addPhi_ne hne] at he'
        exact .inr ⟨hne,hx1,he',hx2 e' he'⟩
    rcases split1 b x hx e₁ h₁ with ⟨hb1,rfl⟩ | ⟨hb1,hx1,hφ1,hn1⟩ <;> rcases split1 b' x' hx' e₂ h₂ with ⟨hb2,rfl⟩ | ⟨hb2,hx2,hφ2,hn2⟩
    · exact absurd (hb1.trans hb2.symm) hne
    · exact fun h => hn2 h.symm
    · exact hn1
    · exact hs.inj b b' x x' e₁ e₂ hne hx1 hx2 hφ1 hφ2
  · have := hs.res b hb
    exact ⟨by rw [addPhi_ne (by omega)]; exact this.1,by show b < A.next + 1; omega⟩
theorem Sim.new {N : Kp} {φ : Phi} {A : AHeap} {w : World} (hs : Sim N φ A w) (hN : KOK N w) {o o' : Obj} (ho : OR φ o o') :
    ∃ e : Ent,e.off = 0 ∧ e.blk = w.heap.size ∧ φ.le (zBE φ A.next e) ∧ Sim N (zBE φ A.next e) (A.push o) { w with heap := w.heap.push o' } ∧ Kept N w { w with heap := w.heap.push o' } := by
  have hle : ∀ e,φ.le (zBE φ A.next e) := fun e => addPhi_le hs.next_none
  have hpush : ∀ k,k < w.heap.size → (w.heap.push o')[k]? = w.heap[k]? := fun k hk => by rw [Array.getElem?_push,if_neg (by omega)]
  have hnew : (w.heap.push o')[w.heap.size]? = some o' := by simp
  refine ⟨⟨w.heap.size,0,cellsOf o',false,0⟩,rfl,rfl,hle _,?_,⟨rfl,rfl,rfl,by simp,fun k hk => hpush k (hN k hk)⟩⟩
  refine hs.add o _ false 0 _ A.objs rfl rfl (fun k hk _ => hpush k hk) (by simp) ⟨hN.new,by simp⟩ (fun b x hx => ⟨hx,fun e' he' => ?_⟩) ?_
  · have := hs.base _ _ _ hx he'; intro h; simp only at h; omega
  · have ho' := ho.mono (hle ⟨w.heap.size,0,cellsOf o',false,0⟩)
    cases o <;> cases o' <;> simp only [OR] at ho <;> first
      | exact ho.elim
      | (obtain ⟨h1,h2,h3,h4⟩ := ho
         simp only [OR] at ho'
         refine ⟨h2,_,_,_,hnew,by simp [cellsOf],by simp [cellsOf,h4.1],fun i v hv => ?_,fun i _ h => ?_,fun _ => ⟨rfl,h1.symm,h4.1.symm⟩⟩
         · obtain ⟨v',k1,k2⟩ := ho'.2.2.2.get hv
           exact ⟨v',by simpa using k1,k2⟩
         · rw [h3] at h; exact absurd h.2 (Nat.not_lt_zero _))
      | exact ⟨rfl,_,hnew,ho'⟩
end
end Go.Proofs.Ytdaljohmfnfgiaa.Canon

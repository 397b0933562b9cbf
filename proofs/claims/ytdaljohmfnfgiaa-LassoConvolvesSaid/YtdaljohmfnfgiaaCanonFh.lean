/- What the proof of this claim is made of. No condition. -/
import Derived.Test.YtdaljohmfnfgiaaCanonFg
namespace Go.Proofs.Ytdaljohmfnfgiaa.Canon
open Go Go.RowKit
noncomputable section
variable {P : Program}
structure Upd (A : AHeap) (b : Nat) (c' : Array Value) (A1 : AHeap) : Prop where
  next : A1.next = A.next
  at' : ∃ c t f g e,look A.objs b = some ⟨.cells c t f,g,e⟩ ∧ look A1.objs b = some ⟨.cells c' t f,g,e⟩ ∧ isRO g e = false
  off : ∀ b',b' ≠ b → look A1.objs b' = look A.objs b'
theorem Upd.cl {A A1 : AHeap} {b : Nat} {c' : Array Value} (h : Upd A b c' A1) (o : Nat) : Canon.cl A1 b o = c'[o]? := by
  obtain ⟨c,t,f,g,e,_,h2,h3⟩ := h.at'
  exact zCE h2 h3
theorem Upd.cl_ne {A A1 : AHeap} {b b' : Nat} {c' : Array Value} (h : Upd A b c' A1) (hb : b' ≠ b) (o : Nat) : Canon.cl A1 b' o = Canon.cl A b' o := zBW (h.off b' hb)
theorem Upd.nx {A A1 : AHeap} {b n : Nat} {c' : Array Value} (h : Upd A b c' A1) (hw : WF A) (hb : n ≤ b) : Nx n A A1 := by
  refine ⟨by rw [h.next]; exact Nat.le_refl _,fun b' x hx => ?_,fun b' hb' => h.off b' (by omega)⟩
  rw [h.next]
  by_cases hbb : b' = b
  · subst hbb
    obtain ⟨c,t,f,g,e,h1,_,_⟩ := h.at'
    exact hw _ _ h1
  · exact hw _ _ (by rw [← h.off b' hbb]; exact hx)
theorem st1_upd {A : AHeap} {b o : Nat} {v : Value} {c : Array Value} {t : TypeId} {f : Nat × Nat} {g : Bool} {e : Nat} (h : look A.objs b = some ⟨.cells c t f,g,e⟩) (hr : isRO g e = false) (ho : o < c.size) (hv : zBY v = true) :
    ∃ A1,st1 A b o v = some A1 ∧ Upd A b (c.setIfInBounds o v) A1 := by
  refine ⟨_,st1_of h hr ho hv,rfl,⟨c,t,f,g,e,h,?_,hr⟩,fun b' hb' => ?_⟩
  · rw [look_put,if_pos rfl,h]; rfl
  · rw [look_put,if_neg (fun hh => hb' hh.symm)]
theorem zCV {b : Nat} {t : TypeId} {f : Nat × Nat} {g : Bool} {e : Nat} : ∀ {l : List Value} {A : AHeap} {o : Nat} {c : Array Value},look A.objs b = some ⟨.cells c t f,g,e⟩ → isRO g e = false → o + l.length ≤ c.size → l.all zBY = true →
    ∃ A1 c',sts A b o l = some A1 ∧ Upd A b c' A1 ∧ c'.size = c.size ∧ ∀ i,c'[i]? = if o ≤ i ∧ i < o + l.length then l[i - o]? else c[i]? := by
  intro l
  induction l with
  | nil =>
    intro A o c h hr _ _
    refine ⟨A,c,rfl,⟨rfl,⟨c,t,f,g,e,h,h,hr⟩,fun _ _ => rfl⟩,rfl,fun i => ?_⟩
    rw [if_neg (by simp only [List.length_nil]; omega)]
  | cons v l ih =>
    intro A o c h hr hle hall
    simp only [List.length_cons] at hle
    simp only [List.all_cons,Bool.and_eq_true] at hall
    obtain ⟨A1,h1,hu⟩ := st1_upd (o := o) h hr (by omega) hall.1
    obtain ⟨c1,t1,f1,g1,e1,k1,k2,k3⟩ := hu.at'
    rw [h] at k1
    cases k1
    obtain ⟨A2,c2,q1,q2,q3,q4⟩ := ih (o := o + 1) k2 hr (by simp; omega) hall.2
    refine ⟨A2,c2,by simp only [sts,h1,q1],⟨q2.next.trans hu.next,?_,fun b' hb' => (q2.off b' hb').trans (hu.off b' hb')⟩,by rw [q3]; simp,fun i => ?_⟩
    · obtain ⟨c3,t3,f3,g3,e3,r1,r2,r3⟩ := q2.at'
      rw [k2] at r1
      cases r1
      exact ⟨c,t,f,g,e,h,r2,hr⟩
    · rw [q4 i]
      simp only [List.length_cons]
      by_cases a : i = o
      · subst a
        rw [if_neg (by omega),if_pos (by omega),Array.getElem?_setIfInBounds,if_pos rfl,if_pos (by omega)]
        simp
      · by_cases a2 : o + 1 ≤ i ∧ i < o + 1 + l.length
        · rw [if_pos a2,if_pos (by omega)]
          obtain ⟨k,rfl⟩ : ∃ k,i = o + 1 + k := ⟨i - (o + 1),by omega⟩
          rw [show o + 1 + k - (o + 1) = k by omega,show o + 1 + k - o = k + 1 by omega]
          simp
        · rw [if_neg a2,if_neg (by omega),Array.getElem?_setIfInBounds,if_neg (fun hh => a hh.symm)]
section
variable {ρ : Operand → Value} {d : Option Tmp} {ty : TypeId} {pos : String} {af : Array Edge} {gu : Option (Nat × Bool)} {A : AHeap}
theorem ae_makeSlice {t e : TypeId} {by' : Nat} {l c : Operand} {k k' : IntKind} {n m : Nat} {z : Value} (h : zAC l = true ∧ zAC c = true) (hel : elB P t = some (e,1,by')) (hz : zCG P e = some z) (hz1 : z.cells = #[z]) (hl : ρ l = .int k (n : Int)) (hc : ρ c = .int k' (m : Int)) (hnm : n ≤ m)
    (hm : m < 9223372036854775808) (hb : by' * m ≤ 281474976710656) : zAE P ρ ⟨d,.makeSlice t l c,ty,pos,af,gu⟩ A = some (.slice (some ⟨A.next,0,none⟩) n m,A.push (.cells (Array.replicate m z) e)) := by
  obtain ⟨hu,i,z',hi,hzk,hzz,hzs,h1,rfl⟩ := elB_eq hel
  have hz' : z' = z := by
    unfold zCG at hz
    rw [hzk,hi] at hz
    simp only [hzz] at hz
    exact Option.some.inj hz
  subst hz'
  have w1 : IntKind.i64.wrap (n : Int) = n := IntWalk.i64_in _ (by omega)
  have w2 : IntKind.i64.wrap (m : Int) = m := IntWalk.i64_in _ (by omega)
  have c1 : ¬ ((m : Int) < 0) := by omega
  have c2 : ¬ ((2 : Int) ^ 48 < (i.bytes : Int) * (m : Int)) := by
    have : ((i.bytes * m : Nat) : Int) ≤ 281474976710656 := by omega
    rw [Int.natCast_mul] at this
    omega
  have c3 : ¬ ((n : Int) < 0) := by omega
  have c4 : ¬ ((m : Int) < (n : Int)) := by omega
  have hrow : (if m = 0 then (#[] : Array Value) else z'.cells).size = if m = 0 then 0 else 1 := by
    split
    · rfl
    · rw [hz1]; rfl
  have hcells : ∀ zz : Array Value,(zz = if m = 0 then (#[] : Array Value) else z'.cells) → (Array.range m).map (fun x => zz[x % zz.size]!) = Array.replicate m z' := by
    intro zz hzz
    refine Array.ext (by simp) fun j h1 h2 => ?_
    have hm0 : m ≠ 0 := by simp at h2; omega
    rw [if_neg hm0,hz1] at hzz
    subst hzz
    simp [Nat.mod_one]
  have hun : (Op.makeSlice t l c).operands.toList.all zAC = true := by simp [Op.operands,h.1,h.2]
  unfold zAE
  simp only [hun,hu,hzk]
  by_cases hm0 : m = 0
  · subst hm0
    have hn0 : n = 0 := by omega
    subst hn0
    have := hcells #[] rfl
    simp only [Instr.makeSlice,zBV,Go.underlying,zBC,Option.bind_some,hu,hl,hc,asInt,asIntOf,zBK,Go.typeInfo,hi,w1,w2,Go.sizeOf,newRow,newObj,arun]
    have e0 : ∀ (f : Nat → Value),Array.map f (Array.range 0) = #[] := fun f => by simp
    simp [h1,Go.typeInfo,hi,arun,e0]
  · have := hcells z'.cells (by rw [if_neg hm0])
    simp only [Instr.makeSlice,zBV,Go.underlying,zBC,Option.bind_some,hu,hl,hc,asInt,asIntOf,zBK,Go.typeInfo,hi,w1,w2,Go.sizeOf,newRow,newObj,arun]
    have c2' : ¬ ((281474976710656 : Int) < (i.bytes : Int) * (m : Int)) := by simpa using c2
    simp [h1,c1,c2',c3,c4,hm0,Go.zeroValue,Go.typeInfo,hi,hzz,this,arun]
end
end
end Go.Proofs.Ytdaljohmfnfgiaa.Canon

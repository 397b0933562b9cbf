/- What the proof of this claim is made of. No condition. -/
import Derived.Test.YtdaljohmfnfgiaaCanonFk
namespace Go.Proofs.Ytdaljohmfnfgiaa.Canon
open Go Go.RowKit
noncomputable section
variable {P : Program}
def YRet (P : Program) (l : Nat) (args : List Value) (A : AHeap) (v : Value) (A1 : AHeap) : Prop := ∀ (N : Kp) (fr : Frame) (cs : List Frame) (a b : Array Value),∃ s1,acall P fr cs A (.func (.yield l) a b) ⟨args⟩ = some s1 ∧ zAD P N (.any N) s1 (fr.finish v,cs,A1)
def YCon (P : Program) (l : Nat) (args : List Value) (A : AHeap) (Q : Value → AHeap → Prop) : Prop := ∃ v A1,YRet P l args A v A1 ∧ Q v A1
theorem YCon.mono {l : Nat} {args : List Value} {A : AHeap} {Q Q' : Value → AHeap → Prop} (h : YCon P l args A Q) (hQ : ∀ v A1,Q v A1 → Q' v A1) : YCon P l args A Q' := by
  obtain ⟨v,A1,h1,h2⟩ := h
  exact ⟨v,A1,h1,hQ _ _ h2⟩
section
variable {fn : FuncId} {td : List Item} {s : Slots} {ds : List Deferred} {A : AHeap} {Q : Post}
theorem Rn.label (hc : zAO P) {ro : Option Nat} {l : Nat} (h : Rn P fn ro td s ds A Q) : Rn P fn ro (.code (.label l) :: td) s ds A Q := h.step hc fun _ _ => rfl
end
theorem asets_sts {b : Nat} : ∀ {l : List Value} {A : AHeap} {o : Nat},asets A ⟨b,o,none⟩ l = sts A b o l := by
  intro l
  induction l with
  | nil => intro A o; rfl
  | cons v l ih =>
    intro A o
    have e : asets A ⟨b,o,none⟩ (v :: l) = match A.set ⟨b,o,none⟩ v with
      | some A' => asets A' ⟨b,o + 1,none⟩ l
      | none => none := rfl
    rw [e]
    simp only [sts,st1]
    cases A.set ⟨b,o,none⟩ v with
    | none => rfl
    | some A' => exact ih
theorem aapp_room {A A1 : AHeap} {st tx e e2 : TypeId} {by' : Nat} (hst : elB P st = some (e,1,by')) (htx : P.underlying tx = some (.slice e2)) {b o : Nat} {a2 : Option Addr} {n c m c2 : Nat} {l2 : List Value} (hr2 : Row A a2 l2) (hl2 : l2.length = m) (hc2 : l2.all zAA = true) (hn2 : a2 = none → m = 0)
    (hroom : n + m ≤ c) (hs : sts A b (o + n) l2 = some A1) : aapp P #[st,tx] #[.slice (some ⟨b,o,none⟩) n c,.slice a2 m c2] A = some (.slice (some ⟨b,o,none⟩) (n + m) c,A1) := by
  obtain ⟨hu,i,z,hi,hz,hzz,hzs,h1,rfl⟩ := elB_eq hst
  have hsrc := asrc_row (P := P) (sz := i.size) (c := c2) htx hr2 (by rw [hl2,h1,Nat.mul_one]) hc2 hn2
  have b0 : Nat.ble (n + m) c = true := Nat.ble_eq_true_of_le hroom
  have e : asets A ((⟨b,o,none⟩ : Addr).add (n * i.size)) l2 = some A1 := by
    rw [h1,Nat.mul_one,addr_add,asets_sts,hs]
  simp only [aapp,hu,hi,hz,hzz,hsrc,b0,e,Option.map_some]
end
end Go.Proofs.Ytdaljohmfnfgiaa.Canon

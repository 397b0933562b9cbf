/- What the proof of this claim is made of. No condition. -/
import Derived.Test.YtdaljohmfnfgiaaCanonFo
namespace Go.Proofs.Ytdaljohmfnfgiaa.Canon
open Go Go.RowKit
noncomputable section
variable {P : Program}
theorem lookP_last {fl : Nat → Bool} {f : AHeap → Prop} {m i n : Nat} {ks : List Nat} (ht : tb ((nth ks n).getD 0) i = true) : ∀ {E : List Nat} {As : List AHeap},As.length = E.length + 2 → (∀ M ∈ As.dropLast,f M) → lookP fl f m i ks (E ++ [n]) As := by
  intro E
  induction E with
  | nil =>
    intro As hl h
    match As,hl with
    | [A,B],_ =>
      refine ⟨fun _ => h A (by simp),?_⟩
      simp only [List.nil_append,ht]
  | cons e E ih =>
    intro As hl h
    match As,hl with
    | A :: B :: As,hl =>
      refine ⟨fun _ => h A (by simp),?_⟩
      show (match tb ((nth ks e).getD 0) i with | true => True | false => lookP fl f m i ks (E ++ [n]) (B :: As))
      split
      · trivial
      · exact ih (by simpa using hl) fun M hM => h M (by
          rw [List.dropLast_cons_of_ne_nil (by simp)]
          exact List.mem_cons_of_mem _ hM)
theorem CkF.okL {ops : Array Oper} {F : AHeap → Prop} {ks E : List Nat} {n : Nat} {ms : List AHeap} (hms : ∀ M ∈ ms.dropLast,F M) (hlen : ms.length = E.length + 2) : ∀ {os : List Oper} {vs : List Value} {i : Nat} {T : Slots},(∀ j,i ≤ j → j < i + os.length → zBD P (cvE P ops) (os.getD (j - i) default) = false → tb ((nth ks n).getD 0) j = true) → CkF P ops F os vs T → Ck P ops ks (E ++ [n]) ms os vs i T := by
  intro os
  induction os with
  | nil => intro vs i T _ _; cases vs <;> trivial
  | cons o os ih =>
    intro vs i T hm h
    cases vs with
    | nil => trivial
    | cons v vs =>
      obtain ⟨h1,h2⟩ := h
      refine ⟨fun a b => ?_,ih (fun j hj1 hj2 he => hm j (by omega) (by simp; omega) (by
        rw [show j - i = (j - (i + 1)) + 1 by omega]
        simpa using he)) h2⟩
      obtain ⟨q1,q2⟩ := h1 a b
      refine ⟨q1,lookP_last (hm i (Nat.le_refl _) (by simp) (by simpa using a)) hlen fun M hM => q2 M (hms M hM)⟩
def DrL (P : Program) (S : Spec) (ops : Array Oper) (F : AHeap → Prop) (nb i : Nat) (os : List Oper) (T : Slots) (pd : List (Nat × FO)) (A : AHeap) (K : Slots → List AHeap → Prop) : Prop :=
  Sp P S ops nb i os T pd A (fun vs ms T1 => ms ≠ [] ∧ (∀ M ∈ ms.dropLast,F M) ∧ CkF P ops F os vs T ∧ K T1 ms)
section
variable {S : Spec} {ops : Array Oper} {F : AHeap → Prop} {nb i : Nat} {o : Oper} {os : List Oper} {T : Slots} {pd : List (Nat × FO)} {A : AHeap} {K : Slots → List AHeap → Prop}
theorem DrL.read {v : Value} (he : zBD P (cvE P ops) o = false) (hw : zCM (gd ops o) T = true) (hF : F A) (hr : ∀ M,F M → fx P (zBP T) o M = some (v,M)) (hop : o.op.operands.toList.all zAC = true) (hq : VQ v)
    (h : DrL P S ops F nb (i + 1) os (sput T o.dst v) pd A K) : DrL P S ops F nb i (o :: os) T pd A K :=
  Sp.read he hw (fx_ok hop (hr A hF)) (Sp.mono h fun vs ms T1 ⟨h0,h1,h2,h3⟩ => ⟨h0,h1,⟨fun _ _ => ⟨hq,fun M hM => fx_ok hop (hr M hM)⟩,h2⟩,h3⟩)
theorem DrL.float (he : zBD P (cvE P ops) o = true) (hf : isFl P o = true) (hw : zCM (gd ops o) T = true) {ob : FO} (ho : fobj P (zBP T) o = some ob)
    (h : DrL P S ops F nb (i + 1) os (sput T o.dst (ob.k.val (nb + i))) ((i,ob) :: pd) A K) : DrL P S ops F nb i (o :: os) T pd A K :=
  Sp.float he hf (by rw [hw]; exact ho) (Sp.mono h fun vs ms T1 ⟨h0,h1,h2,h3⟩ => ⟨h0,h1,⟨fun e _ => absurd (he.symm.trans e) (by decide),h2⟩,h3⟩)
theorem DrL.eff (he : zBD P (cvE P ops) o = true) (hf : isFl P o = false) {pd1 pd2 : List (Nat × FO)} (hp1 : pd.filter (keyIn ((nth (zCR ops.toList) i).getD 0)) = pd1) (hp2 : pd.filter (fun x => !keyIn ((nth (zCR ops.toList) i).getD 0) x) = pd2)
    {ms0 : List AHeap} {A0 : AHeap} (hp : zBU nb pd1 A = some (ms0,A0)) (hms : ∀ M ∈ ms0,F M) (hA : F A0) (hw : zCM (gd ops o) T = true) {v : Value} {A1 : AHeap} (hr : opRun P (runS P S) (zBP T) o A0 = some (v,A1))
    (h : DrL P S ops F nb (i + 1) os (sput T o.dst v) pd2 A1 (fun T1 ms => K T1 (ms0 ++ (A0 :: ms)))) : DrL P S ops F nb i (o :: os) T pd A K :=
  Sp.eff he hf hp1 hp2 hp hw hr (Sp.mono h fun vs ms T1 ⟨h0,h1,h2,h3⟩ => ⟨by simp,fun M hM => by
    rw [List.dropLast_append_of_ne_nil (by simp),List.dropLast_cons_of_ne_nil h0,List.mem_append,List.mem_cons] at hM
    rcases hM with hM | rfl | hM
    · exact hms M hM
    · exact hA
    · exact h1 M hM,⟨fun e _ => absurd (he.symm.trans e) (by decide),h2⟩,h3⟩)
theorem DrL.nil (h : K T [A]) : DrL P S ops F nb i [] T [] A K :=
  Sp.nil (ms := []) (A1 := A) rfl ⟨by simp,fun M hM => by simp at hM,trivial,h⟩
theorem Rn.drawnL (hc : zAJ P) (hx : P.follows .mixedOrders = true) (S : Spec) (F : AHeap → Prop) {fn : FuncId} {ro : Option Nat} {td : List Item} {s : Slots} {ds : List Deferred} {A : AHeap} {Q : Post} {id : Nat} {l : List Oper} {k n : Nat} {E : List Nat} (hst : statOK P (cvE P ⟨l⟩) ⟨l⟩ = true) (hch : zBL P (cvE P ⟨l⟩) ⟨l⟩ = E ++ [n]) (hk : l.length = k)
    (hmask : (List.range k).all (fun j => zBD P (cvE P ⟨l⟩) (l.getD j default) || tb ((nth (zCR l) n).getD 0) j) = true)
    (h : DrL P S ⟨l⟩ F A.next 0 l s [] (bump A k) (fun T1 ms => ms.length = E.length + 2 ∧ ∃ A1,nth ms (E.length + 1) = some A1 ∧ Rn P fn ro td T1 ds A1 Q)) :
    Rn P fn ro (.code (.region id ⟨l⟩ true) :: td) s ds A Q := by
  subst hk
  refine Rn.drawnS hc hx S hst (Sp.mono h fun vs ms T1 ⟨_,h1,h2,hl,h3⟩ => ?_)
  rw [hch]
  refine ⟨h2.okL h1 hl fun j _ hj he => ?_,by simpa using h3⟩
  have := List.all_eq_true.1 hmask j (List.mem_range.2 (by simpa using hj))
  have he : zBD P (cvE P ⟨l⟩) (l.getD j default) = false := by simpa using he
  rw [he,Bool.false_or] at this
  exact this
end
end
end Go.Proofs.Ytdaljohmfnfgiaa.Canon

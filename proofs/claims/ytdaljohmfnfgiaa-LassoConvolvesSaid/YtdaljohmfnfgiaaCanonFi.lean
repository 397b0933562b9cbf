/- What the proof of this claim is made of. No condition. -/
import Derived.Test.YtdaljohmfnfgiaaCanonFh
namespace Go.Proofs.Ytdaljohmfnfgiaa.Canon
open Go Go.RowKit
noncomputable section
variable {P : Program}
def apd (P : Program) (st tx : TypeId) (vx vy : Value) (A : AHeap) : Option (Value × AHeap) := match vy with
  | .int _ _ => azeros P #[st,tx] #[vx,vy] A
  | _ => aapp P #[st,tx] #[vx,vy] A
theorem zCQ (st tx : TypeId) (vx : Value) (a : Option Addr) (n c : Nat) (A : AHeap) : apd P st tx vx (.slice a n c) A = aapp P #[st,tx] #[vx,.slice a n c] A := rfl
section
variable {ρ : Operand → Value} {d : Option Tmp} {ty : TypeId} {pos : String} {af : Array Edge} {gu : Option (Nat × Bool)} {A : AHeap}
theorem ae_apd {st tx : TypeId} {x y : Tmp} : zAE P ρ ⟨d,.call ⟨.builtin .append,#[.tmp x,.tmp y],#[st,tx]⟩,ty,pos,af,gu⟩ A = apd P st tx (ρ (.tmp x)) (ρ (.tmp y)) A := by
  unfold apd
  simp only [zAE,Op.operands,Call.operands]
  cases hv : ρ (.tmp y) <;> simp [zAC,zDR,hv]
theorem ae_asl {t : TypeId} {x : Tmp} {lo hi mx : Option Tmp} : zAE P ρ ⟨d,.slice t (.tmp x) (lo.map .tmp) (hi.map .tmp) (mx.map .tmp),ty,pos,af,gu⟩ A = asl P t (ρ (.tmp x)) ((lo.map .tmp).map ρ) ((hi.map .tmp).map ρ) ((mx.map .tmp).map ρ) A := by
  have : ((Op.slice t (.tmp x) (lo.map .tmp) (hi.map .tmp) (mx.map .tmp)).operands.toList.all zAC) = true := by
    cases lo <;> cases hi <;> cases mx <;> rfl
  unfold zAE
  simp only [this]
theorem ae_asl_hi {t : TypeId} {x y : Tmp} : zAE P ρ ⟨d,.slice t (.tmp x) none (some (.tmp y)) none,ty,pos,af,gu⟩ A = asl P t (ρ (.tmp x)) none (some (ρ (.tmp y))) none A := ae_asl (lo := none) (hi := some y) (mx := none)
end
theorem Sp.mono {S : Spec} {ops : Array Oper} {nb i : Nat} {os : List Oper} {T : Slots} {pd : List (Nat × FO)} {A : AHeap} {K K' : List Value → List AHeap → Slots → Prop} (h : Sp P S ops nb i os T pd A K) (hk : ∀ vs ms T1,K vs ms T1 → K' vs ms T1) : Sp P S ops nb i os T pd A K' := by
  obtain ⟨vs,ms,T1,h1,h2⟩ := h
  exact ⟨vs,ms,T1,h1,hk _ _ _ h2⟩
def CkF (P : Program) (ops : Array Oper) (F : AHeap → Prop) : List Oper → List Value → Slots → Prop
  | o :: os,v :: vs,T => (zBD P (cvE P ops) o = false → zCM (gd ops o) T = true → VQ v ∧ ∀ M,F M → zAE P (zBP T) o M = some (v,M)) ∧ CkF P ops F os vs (sput T o.dst v)
  | _,_,_ => True
theorem lookP_all {fl : Nat → Bool} {f : AHeap → Prop} {m i : Nat} {ks : List Nat} : ∀ {E : List Nat} {As : List AHeap},(∀ M ∈ As,f M) → lookP fl f m i ks E As := by
  intro E As
  induction As generalizing E with
  | nil => intro _; cases E <;> trivial
  | cons A As ih =>
    intro h
    unfold lookP
    refine ⟨fun _ => h A (by simp),?_⟩
    cases E with
    | nil => trivial
    | cons e E =>
      simp only
      split
      · trivial
      · exact ih fun M hM => h M (by simp [hM])
theorem CkF.ok {ops : Array Oper} {F : AHeap → Prop} {ks E : List Nat} {ms : List AHeap} (hms : ∀ M ∈ ms,F M) : ∀ {os : List Oper} {vs : List Value} {i : Nat} {T : Slots},CkF P ops F os vs T → Ck P ops ks E ms os vs i T := by
  intro os
  induction os with
  | nil => intro vs i T _; cases vs <;> trivial
  | cons o os ih =>
    intro vs i T h
    cases vs with
    | nil => trivial
    | cons v vs =>
      obtain ⟨h1,h2⟩ := h
      refine ⟨fun a b => ?_,ih h2⟩
      obtain ⟨q1,q2⟩ := h1 a b
      exact ⟨q1,lookP_all fun M hM => q2 M (hms M hM)⟩
def Dr (P : Program) (S : Spec) (ops : Array Oper) (F : AHeap → Prop) (nb i : Nat) (os : List Oper) (T : Slots) (pd : List (Nat × FO)) (A : AHeap) (K : Slots → List AHeap → Prop) : Prop :=
  Sp P S ops nb i os T pd A (fun vs ms T1 => (∀ M ∈ ms,F M) ∧ CkF P ops F os vs T ∧ K T1 ms)
section
variable {S : Spec} {ops : Array Oper} {F : AHeap → Prop} {nb i : Nat} {o : Oper} {os : List Oper} {T : Slots} {pd : List (Nat × FO)} {A : AHeap} {K : Slots → List AHeap → Prop}
theorem Dr.read {v : Value} (he : zBD P (cvE P ops) o = false) (hw : zCM (gd ops o) T = true) (hF : F A) (hr : ∀ M,F M → fx P (zBP T) o M = some (v,M)) (hop : o.op.operands.toList.all zAC = true) (hq : VQ v)
    (h : Dr P S ops F nb (i + 1) os (sput T o.dst v) pd A K) : Dr P S ops F nb i (o :: os) T pd A K :=
  Sp.read he hw (fx_ok hop (hr A hF)) (Sp.mono h fun vs ms T1 ⟨h1,h2,h3⟩ => ⟨h1,⟨fun _ _ => ⟨hq,fun M hM => fx_ok hop (hr M hM)⟩,h2⟩,h3⟩)
theorem Dr.float (he : zBD P (cvE P ops) o = true) (hf : isFl P o = true) (hw : zCM (gd ops o) T = true) {ob : FO} (ho : fobj P (zBP T) o = some ob)
    (h : Dr P S ops F nb (i + 1) os (sput T o.dst (ob.k.val (nb + i))) ((i,ob) :: pd) A K) : Dr P S ops F nb i (o :: os) T pd A K :=
  Sp.float he hf (by rw [hw]; exact ho) (Sp.mono h fun vs ms T1 ⟨h1,h2,h3⟩ => ⟨h1,⟨fun e _ => absurd (he.symm.trans e) (by decide),h2⟩,h3⟩)
theorem Dr.eff (he : zBD P (cvE P ops) o = true) (hf : isFl P o = false) {pd1 pd2 : List (Nat × FO)} (hp1 : pd.filter (keyIn ((nth (zCR ops.toList) i).getD 0)) = pd1) (hp2 : pd.filter (fun x => !keyIn ((nth (zCR ops.toList) i).getD 0) x) = pd2)
    {ms0 : List AHeap} {A0 : AHeap} (hp : zBU nb pd1 A = some (ms0,A0)) (hms : ∀ M ∈ ms0,F M) (hA : F A0) (hw : zCM (gd ops o) T = true) {v : Value} {A1 : AHeap} (hr : opRun P (runS P S) (zBP T) o A0 = some (v,A1))
    (h : Dr P S ops F nb (i + 1) os (sput T o.dst v) pd2 A1 (fun T1 ms => K T1 (ms0 ++ (A0 :: ms)))) : Dr P S ops F nb i (o :: os) T pd A K :=
  Sp.eff he hf hp1 hp2 hp hw hr (Sp.mono h fun vs ms T1 ⟨h1,h2,h3⟩ => ⟨fun M hM => by
    rw [List.mem_append,List.mem_cons] at hM
    rcases hM with hM | rfl | hM
    · exact hms M hM
    · exact hA
    · exact h1 M hM,⟨fun e _ => absurd (he.symm.trans e) (by decide),h2⟩,h3⟩)
theorem Dr.eff0 (he : zBD P (cvE P ops) o = true) (hf : isFl P o = false) (hA : F A) (hw : zCM (gd ops o) T = true) {v : Value} {A1 : AHeap} (hr : opRun P (runS P S) (zBP T) o A = some (v,A1))
    (h : Dr P S ops F nb (i + 1) os (sput T o.dst v) [] A1 (fun T1 ms => K T1 (A :: ms))) : Dr P S ops F nb i (o :: os) T [] A K :=
  Dr.eff he hf rfl rfl (ms0 := []) rfl (fun _ h => by cases h) hA hw hr h
theorem Dr.nil {ms : List AHeap} {A1 : AHeap} (hp : zBU nb pd A = some (ms,A1)) (hms : ∀ M ∈ ms,F M) (hA : F A1) (h : K T (ms ++ [A1])) : Dr P S ops F nb i [] T pd A K :=
  Sp.nil hp ⟨fun M hM => by
    rw [List.mem_append,List.mem_singleton] at hM
    rcases hM with hM | rfl
    · exact hms M hM
    · exact hA,trivial,h⟩
theorem Rn.drawnF (hc : zAJ P) (hx : P.follows .mixedOrders = true) (S : Spec) (F : AHeap → Prop) {fn : FuncId} {ro : Option Nat} {td : List Item} {s : Slots} {ds : List Deferred} {A : AHeap} {Q : Post} {id : Nat} {l : List Oper} {n k : Nat} (hst : statOK P (cvE P ⟨l⟩) ⟨l⟩ = true) (hn : (zBL P (cvE P ⟨l⟩) ⟨l⟩).length = n) (hk : l.length = k)
    (h : Dr P S ⟨l⟩ F A.next 0 l s [] (bump A k) (fun T1 ms => ∃ A1,nth ms n = some A1 ∧ Rn P fn ro td T1 ds A1 Q)) :
    Rn P fn ro (.code (.region id ⟨l⟩ true) :: td) s ds A Q := by
  subst hn hk
  exact Rn.drawnS hc hx S hst (Sp.mono h fun vs ms T1 ⟨h1,h2,h3⟩ => ⟨h2.ok h1,h3⟩)
end
theorem place_sl {n : Nat} {c : List Value} {t : TypeId} {k m : Nat} {A : AHeap} (h : look A.objs n = none) : place n ⟨c,t,.sl k m⟩ A = some (.slice (some ⟨n,0,none⟩) k m,⟨A.next,zDU n ⟨.cells ⟨c⟩ t,false,0⟩ A.objs⟩) := by
  unfold place
  simp only [FK.isNo,h]
  rfl
theorem Nx.cons {n : Nat} {A B : AHeap} (h : Nx n A B) {b : Nat} (hb : n ≤ b) (hlt : b < B.next) (x : AObj) : Nx n A ⟨B.next,zDU b x B.objs⟩ := by
  refine ⟨h.next,fun b' y hy => ?_,fun b' hb' => ?_⟩
  · have hy : look (zDU b x B.objs) b' = some y := hy
    rw [zCN] at hy
    split at hy
    · rename_i hbb
      have := Nat.eq_of_beq_eq_true hbb
      show b' < B.next
      omega
    · exact h.wf b' y hy
  · show look (zDU b x B.objs) b' = _
    rw [zCN]
    have : Nat.beq b b' = false := by
      cases hbb : Nat.beq b b' with
      | false => rfl
      | true => have := Nat.eq_of_beq_eq_true hbb; omega
    rw [this]
    exact h.keep b' hb'
theorem place_row {N : Nat} {A0 A : AHeap} (h : Nx N A0 A) {b : Nat} (hb : N ≤ b) (hlt : b < A.next) (hn : look A.objs b = none) (c : List Value) (t : TypeId) (k m : Nat) :
    ∃ B,place b ⟨c,t,.sl k m⟩ A = some (.slice (some ⟨b,0,none⟩) k m,B) ∧ Nx N A0 B ∧ B.next = A.next ∧ look B.objs b = some ⟨.cells ⟨c⟩ t,false,0⟩ ∧ ∀ b',b' ≠ b → look B.objs b' = look A.objs b' :=
  ⟨_,place_sl hn,h.cons hb hlt _,rfl,zDW _ _ _,fun _ hb' => zCU hb'⟩
end
end Go.Proofs.Ytdaljohmfnfgiaa.Canon

/- What the proof of this claim is made of. No condition. -/
import Derived.Test.YtdaljohmfnfgiaaCanonFd
namespace Go.Proofs.Ytdaljohmfnfgiaa.Canon
open Go Go.RowKit
noncomputable section
variable {P : Program}
abbrev Spec := FuncId → List Value → AHeap → Value → AHeap → Prop
def runS (P : Program) (S : Spec) : Runs := fun g xs A => by
  classical exact if h : ∃ p : Value × AHeap,Ret P g xs.toList A p.1 p.2 ∧ S g xs.toList A p.1 p.2 then some (Classical.choose h) else none
theorem runS_ok (S : Spec) (N : Kp) : RunsOK P N (runS P S) := by
  intro g xs A v A1 h
  unfold runS at h
  split at h
  · rename_i hh
    have := Classical.choose_spec hh
    have e := Option.some.inj h
    rw [e] at this
    exact this.1.2 N
  · cases h
theorem runS_con {S : Spec} {g : FuncId} {xs : List Value} {A : AHeap} (h : Con P g xs A (S g xs A)) : ∃ v A1,runS P S g ⟨xs⟩ A = some (v,A1) ∧ S g xs A v A1 := by
  obtain ⟨v,A1,h1,h2⟩ := h
  have hh : ∃ p : Value × AHeap,Ret P g xs A p.1 p.2 ∧ S g xs A p.1 p.2 := ⟨(v,A1),h1,h2⟩
  refine ⟨(Classical.choose hh).1,(Classical.choose hh).2,?_,(Classical.choose_spec hh).2⟩
  unfold runS
  rw [dif_pos hh]
def rdA (P : Program) : Rds := fun ρ o A => by
  classical exact match zAE P ρ o A with
    | some (v,A1) => if A1 = A then some v else none
    | none => none
theorem rdA_ok : RdOK P (rdA P) := by
  intro ρ o A v h
  unfold rdA at h
  split at h
  · rename_i v' A1 ha
    split at h
    · rename_i he
      cases h
      rw [ha,he]
    · cases h
  · cases h
theorem rdA_of {ρ : Operand → Value} {o : Oper} {A : AHeap} {v : Value} (h : zAE P ρ o A = some (v,A)) : rdA P ρ o A = some v := by
  unfold rdA
  rw [h]
  simp
def bump (A : AHeap) (k : Nat) : AHeap := ⟨A.next + k,A.objs⟩
def Sp (P : Program) (S : Spec) (ops : Array Oper) (nb i : Nat) (os : List Oper) (T : Slots) (pd : List (Nat × FO)) (A : AHeap) (K : List Value → List AHeap → Slots → Prop) : Prop :=
  ∃ vs ms T1,pass1 P (cvE P ops) (rdA P) (runS P S) ops (zCR ops.toList) nb i os (sabs T) pd A = some (vs,ms,sabs T1) ∧ K vs ms T1
section
variable {S : Spec} {ops : Array Oper} {nb i : Nat} {o : Oper} {os : List Oper} {T : Slots} {pd : List (Nat × FO)} {A : AHeap} {K : List Value → List AHeap → Slots → Prop}
theorem Sp.nil {ms : List AHeap} {A1 : AHeap} (hp : zBU nb pd A = some (ms,A1)) (h : K [] (ms ++ [A1]) T) : Sp P S ops nb i [] T pd A K := ⟨[],_,T,by simp only [pass1,hp],h⟩
theorem want_eq (ops : Array Oper) (o : Oper) (T : Slots) : Region.wanted o (fyielded ops (sabs T)) = zCM (gd ops o) T := by rw [wantB_eq,fyielded_eq,syielded_eq]
theorem Sp.read (he : zBD P (cvE P ops) o = false) (hw : zCM (gd ops o) T = true) {v : Value} (hr : zAE P (zBP T) o A = some (v,A))
    (h : Sp P S ops nb (i + 1) os (sput T o.dst v) pd A (fun vs ms T1 => K (v :: vs) ms T1)) : Sp P S ops nb i (o :: os) T pd A K := by
  obtain ⟨vs,ms,T1,h1,h2⟩ := h
  rw [zCA] at h1
  rw [zCY] at hr
  exact ⟨v :: vs,ms,T1,by simp only [pass1,he,want_eq,hw,rdA_of hr,h1],h2⟩
theorem Sp.float (he : zBD P (cvE P ops) o = true) (hf : isFl P o = true) {ob : FO} (ho : fobW (zCM (gd ops o) T) (fobj P (zBP T) o) = some ob)
    (h : Sp P S ops nb (i + 1) os (sput T o.dst (ob.k.val (nb + i))) ((i,ob) :: pd) A (fun vs ms T1 => K (ob.k.val (nb + i) :: vs) ms T1)) : Sp P S ops nb i (o :: os) T pd A K := by
  obtain ⟨vs,ms,T1,h1,h2⟩ := h
  rw [zCA] at h1
  rw [zCY] at ho
  exact ⟨_ :: vs,ms,T1,by simp only [pass1,he,hf,want_eq,ho,h1],h2⟩
theorem Sp.eff (he : zBD P (cvE P ops) o = true) (hf : isFl P o = false) {pd1 pd2 : List (Nat × FO)} (hp1 : pd.filter (keyIn ((nth (zCR ops.toList) i).getD 0)) = pd1) (hp2 : pd.filter (fun x => !keyIn ((nth (zCR ops.toList) i).getD 0) x) = pd2)
    {ms0 : List AHeap} {A0 : AHeap} (hp : zBU nb pd1 A = some (ms0,A0)) (hw : zCM (gd ops o) T = true) {v : Value} {A1 : AHeap} (hr : opRun P (runS P S) (zBP T) o A0 = some (v,A1))
    (h : Sp P S ops nb (i + 1) os (sput T o.dst v) pd2 A1 (fun vs ms T1 => K (v :: vs) (ms0 ++ (A0 :: ms)) T1)) : Sp P S ops nb i (o :: os) T pd A K := by
  obtain ⟨vs,ms,T1,h1,h2⟩ := h
  subst hp1 hp2
  rw [zCA] at h1
  rw [zCY] at hr
  exact ⟨v :: vs,_,T1,by simp only [pass1,he,hf,hp,want_eq,hw,hr,h1],h2⟩
theorem zAA {f : Operand} {args : Array Operand} {g : FuncId} {fi ca : Array Value} {xs : List Value} {ρ : Operand → Value} (hop : callV o.op = some (f,args)) (hok : zAC f = true ∧ args.toList.all zAC = true)
    (hf : ρ f = .func (.func g) fi ca) (hxs : fi.toList ++ args.toList.map ρ ++ ca.toList = xs) (h : Con P g xs A (S g xs A)) : ∃ v A1,opRun P (runS P S) ρ o A = some (v,A1) ∧ S g xs A v A1 := by
  have hb : ∃ fn,P.funcs[g]? = some fn ∧ fn.body.isSome = true := by
    obtain ⟨v,A1,h1,h2⟩ := h
    exact h1.1
  obtain ⟨fn,hfn,hbd⟩ := hb
  obtain ⟨v,A1,h1,h2⟩ := runS_con h
  refine ⟨v,A1,?_,h2⟩
  obtain ⟨ats,e⟩ := callV_some hop
  have hxs' : fi ++ args.map ρ ++ ca = ⟨xs⟩ := by
    refine Array.ext' ?_
    rw [← hxs]
    simp
  unfold opRun
  rw [e]
  simp only [hok.1,hok.2,hf,zCX,hfn,hbd,hxs',h1]
theorem zBQ (hop : callV o.op = none) {ρ : Operand → Value} {r : Value × AHeap} (h : zAE P ρ o A = some r) : opRun P (runS P S) ρ o A = some r := by
  unfold opRun
  split
  · rename_i f args ats e
    exact absurd e (callV_none hop f args ats)
  · exact h
def lookP (fl : Nat → Bool) (f : AHeap → Prop) (m i : Nat) (ks : List Nat) : List Nat → List AHeap → Prop
  | _,[] => True
  | E,A :: As => ((E.any (fun e => tb m e && !fl e)) = false → f A) ∧ (match E with
    | [] => True
    | e :: E => match tb ((nth ks e).getD 0) i with
      | true => True
      | false => lookP fl f m i ks E As)
theorem lookP_ok {fl : Nat → Bool} {f : AHeap → Prop} {g : AHeap → Bool} (hfg : ∀ A,f A → g A = true) {m i : Nat} {ks : List Nat} : ∀ {E : List Nat} {As : List AHeap},lookP fl f m i ks E As → lookAll fl g m i ks E As = true := by
  intro E As
  induction As generalizing E with
  | nil => intro _; cases E <;> rfl
  | cons A As ih =>
    intro h
    unfold lookP at h
    unfold lookAll
    rw [Bool.and_eq_true]
    refine ⟨?_,?_⟩
    · split
      · rfl
      · rename_i ha
        exact hfg _ (h.1 ha)
    · have h2 := h.2
      cases E with
      | nil => rfl
      | cons e E =>
        simp only at h2 ⊢
        split
        · rfl
        · rename_i ht
          rw [ht] at h2
          exact ih h2
def VQ (v : Value) : Prop := veq 5 v v = true
theorem VQ.int (k : IntKind) (n : Int) : VQ (.int k n) := by
  unfold VQ
  cases n <;> simp [veq]
theorem VQ.bool (b : Bool) : VQ (.bool b) := by
  unfold VQ
  cases b <;> rfl
theorem VQ.ptr (b o : Nat) : VQ (.pointer (some ⟨b,o,none⟩)) := by
  unfold VQ
  simp [veq]
theorem VQ.slice (a : Option Addr) (n c : Nat) : VQ (.slice a n c) := by
  unfold VQ
  cases a with
  | none => simp [veq]
  | some x =>
    obtain ⟨b,o,sp⟩ := x
    cases sp <;> simp [veq]
def Ck (P : Program) (ops : Array Oper) (ks E : List Nat) (ms : List AHeap) : List Oper → List Value → Nat → Slots → Prop
  | o :: os,v :: vs,i,T => (zBD P (cvE P ops) o = false → zCM (gd ops o) T = true → VQ v ∧ lookP (flAt P ops.toList) (fun A => zAE P (zBP T) o A = some (v,A)) ((nth ks i).getD 0) i ks E ms) ∧ Ck P ops ks E ms os vs (i + 1) (sput T o.dst v)
  | _,_,_,_ => True
theorem Ck.ok {ks E : List Nat} {ms : List AHeap} : ∀ {os : List Oper} {vs : List Value} {i : Nat} {T : Slots},Ck P ops ks E ms os vs i T → check2 P (cvE P ops) (rdA P) ops ks E ms os vs i (sabs T) = true := by
  intro os
  induction os with
  | nil => intro vs i T _; cases vs <;> rfl
  | cons o os ih =>
    intro vs i T h
    cases vs with
    | nil => rfl
    | cons v vs =>
      obtain ⟨h1,h2⟩ := h
      have h3 := ih h2
      rw [zCA] at h3
      simp only [check2,h3,Bool.and_true,want_eq]
      split
      · rename_i e1 e2
        obtain ⟨q1,q2⟩ := h1 e1 e2
        refine lookP_ok (fun A hA => ?_) q2
        rw [zCY] at hA
        rw [rdA_of hA]
        exact q1
      · rfl
theorem Rn.drawnS (hc : zAJ P) (hx : P.follows .mixedOrders = true) (S : Spec) {fn : FuncId} {ro : Option Nat} {td : List Item} {s : Slots} {ds : List Deferred} {A : AHeap} {Q : Post} {id : Nat} (hst : statOK P (cvE P ops) ops = true)
    (h : Sp P S ops A.next 0 ops.toList s [] (bump A ops.size) (fun vs ms T1 => Ck P ops (zCR ops.toList) (zBL P (cvE P ops) ops) ms ops.toList vs 0 s ∧ ∃ A1,nth ms (zBL P (cvE P ops) ops).length = some A1 ∧ Rn P fn ro td T1 ds A1 Q)) :
    Rn P fn ro (.code (.region id ops true) :: td) s ds A Q := by
  obtain ⟨vs,ms,T1,h1,h2,A1,h3,h4⟩ := h
  refine Rn.drawn hc hx rdA_ok (C := runS P S) (runS_ok S) (s1 := T1) (A1 := A1) ?_ h4
  unfold bump at h1
  simp only [Canon.region,hst,h1,h2.ok,h3]
def okV (P : Program) (ops : Array Oper) (l : List Oper) : Bool := l.all fun o => !zBD P (cvE P ops) o
theorem chainE_no {Q : Oper → Bool} {ks : List Nat} : ∀ {os : List Oper} {i : Nat},(os.all fun o => !zBD P Q o) = true → chainE P Q ks i os [] = [] := by
  intro os
  induction os with
  | nil => intro i _; rfl
  | cons o os ih =>
    intro i h
    simp only [List.all_cons,Bool.and_eq_true,Bool.not_eq_true'] at h
    simp only [chainE,h.1]
    exact ih h.2
def rdV (P : Program) (ops : Array Oper) : List Oper → Slots → AHeap → Prop
  | [],_,_ => True
  | o :: l,s,A => match zCM (gd ops o) s with
    | false => rdV P ops l (sput s o.dst undef) A
    | true => match fx P (zBP s) o A with
      | some (v,A1) => A1 = A ∧ VQ v ∧ rdV P ops l (sput s o.dst v) A
      | none => False
theorem rdV_run (hops : opsOK os = true) (hne : (os.all fun o => !zBD P (cvE P ops) o) = true) (h : rdV P ops os T A) :
    ∃ T1,Canon.rops P ops os T A = some (T1,A) ∧ ∃ vs,pass1 P (cvE P ops) (rdA P) (runS P S) ops (zCR ops.toList) nb i os (sabs T) [] A = some (vs,[A],sabs T1) ∧ Ck P ops (zCR ops.toList) [] [A] os vs i T := by
  induction os generalizing T i with
  | nil => exact ⟨T,rfl,[],by simp [pass1,zBU],trivial⟩
  | cons o os ih =>
    have hok' : o.op.operands.toList.all zAC = true ∧ opsOK os = true := by simpa [opsOK] using hops
    simp only [List.all_cons,Bool.and_eq_true,Bool.not_eq_true'] at hne
    simp only [rdV] at h
    split at h
    · rename_i hw
      obtain ⟨T1,h1,vs,h2,h3⟩ := ih (T := sput T o.dst undef) (i := i + 1) hok'.2 hne.2 h
      rw [zCA] at h2
      refine ⟨T1,by simp only [Canon.rops,hw,h1],undef :: vs,by simp only [pass1,hne.1,want_eq,hw,h2],?_,h3⟩
      intro _ hh
      rw [hw] at hh
      cases hh
    · rename_i hw
      obtain ⟨v,hv,hq,hr⟩ : ∃ v,fx P (zBP T) o A = some (v,A) ∧ VQ v ∧ rdV P ops os (sput T o.dst v) A := by
        split at h
        · rename_i v A1 hv
          obtain ⟨rfl,hq,hr⟩ := h
          exact ⟨v,hv,hq,hr⟩
        · exact h.elim
      obtain ⟨T1,h1,vs,h2,h3⟩ := ih (T := sput T o.dst v) (i := i + 1) hok'.2 hne.2 hr
      have ha := fx_ok hok'.1 hv
      rw [zCA] at h2
      refine ⟨T1,by simp only [Canon.rops,hw,hv,h1],v :: vs,?_,?_,h3⟩
      · have ha' := ha
        rw [zCY] at ha'
        simp only [pass1,hne.1,want_eq,hw,rdA_of ha',h2]
      · intro _ _
        refine ⟨hq,fun _ => ha,trivial⟩
theorem Rn.zDV (hc : zAJ P) (hx : P.follows .mixedOrders = true) {fn : FuncId} {ro : Option Nat} {td : List Item} {s : Slots} {ds : List Deferred} {A : AHeap} {Q : Post} {id : Nat} {l : List Oper} (hst : statOK P (cvE P ⟨l⟩) ⟨l⟩ = true) (hok : opsOK l = true) (hne : okV P ⟨l⟩ l = true)
    (h1 : rdV P ⟨l⟩ l s (bump A l.length)) (h2 : ∃ p,Canon.rops P ⟨l⟩ l s (bump A l.length) = some p ∧ Rn P fn ro td p.1 ds p.2 Q) : Rn P fn ro (.code (.region id ⟨l⟩ true) :: td) s ds A Q := by
  obtain ⟨T1,k1,vs,k2,k3⟩ := rdV_run (S := fun _ _ _ _ _ => False) (nb := A.next) (i := 0) hok hne h1
  obtain ⟨p,q1,q2⟩ := h2
  rw [k1] at q1
  cases q1
  refine Rn.drawnS hc hx (fun _ _ _ _ _ => False) hst ⟨vs,[bump A l.length],T1,k2,?_,bump A l.length,?_,q2⟩
  · have : zBL P (cvE P ⟨l⟩) ⟨l⟩ = [] := chainE_no hne
    rw [this]
    exact k3
  · have : zBL P (cvE P ⟨l⟩) ⟨l⟩ = [] := chainE_no hne
    rw [this]
    rfl
end
end
end Go.Proofs.Ytdaljohmfnfgiaa.Canon

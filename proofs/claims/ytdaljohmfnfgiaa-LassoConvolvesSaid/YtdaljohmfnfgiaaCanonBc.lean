/- What the proof of this claim is made of. No condition. -/
import Derived.Test.YtdaljohmfnfgiaaCanonBb
namespace Go.Proofs.Ytdaljohmfnfgiaa.Canon
open Go Go.RowKit
noncomputable section
variable (P : Program)
def VR.val : VR → Option Value
  | .yes v _ => some v
  | .no => none
def bnoO : Orc := fun _ _ _ => .no
def xrd1 (o : Oper) (ρ : Operand → Value) (A : AHeap) : Option Value := match o.op with
  | .move x => some (ρ x)
  | .assign x => some (ρ x)
  | .pick c a b => (xpick c a b bnoO ρ A).val
  | .nilCheck x => (xnil x bnoO ρ A).val
  | .load t a => (xload P t a bnoO ρ A).val
  | .fieldAddr t x f => match fof P t f with
    | some _ => (zDX P t x f bnoO ρ A).val
    | none => roexec P ρ o A
  | .indexAddr t x i => match eof P t with
    | some _ => (zCO P t x i bnoO ρ A).val
    | none => match aof P t with
      | some _ => (zCO P t x i bnoO ρ A).val
      | none => roexec P ρ o A
  | .extract t i => (xextract t i bnoO ρ A).val
  | .convert src dst x => match cvQ P src dst (ρ x) A with
    | some v => some v
    | none => roexec P ρ o A
  | .build t ps => (xbuild P t ps bnoO ρ A).val
  | .binOp op _ x y _ => match ρ x,ρ y with
    | .int .i64 (.ofNat a),.int .i64 (.ofNat b) => match natOp op a b with
      | some v => some v
      | none => roexec P ρ o A
    | _,_ => roexec P ρ o A
  | .call c => match c.callee with
    | .builtin b => match b with
      | .len => match tyOf P c.argTypes,c.args.toList with
        | some _,_ :: _ => (xlen P c.argTypes o.type c.args bnoO ρ A).val
        | _,_ => roexec P ρ o A
      | _ => roexec P ρ o A
    | _ => roexec P ρ o A
  | _ => roexec P ρ o A
def xrd : Rds := fun ρ o A => match o.op.operands.toList.all zAC with
  | true => xrd1 P o ρ A
  | false => none
variable {P}
theorem VR.val_eq {r : VR} {v : Value} (h : r.val = some v) : ∃ A1,r = .yes v A1 := by
  cases r with
  | no => cases h
  | yes u A1 => cases h; exact ⟨A1,rfl⟩
theorem same_load {t : TypeId} {b o : Nat} {A A1 : AHeap} {v : Value} (h : xld P t b o A = .yes v A1) : A1 = A := by
  unfold xld at h
  repeat' (split at h)
  all_goals first | (cases h; done) | (cases h; rfl)
theorem xrd1_ok {o : Oper} {ρ : Operand → Value} {A : AHeap} {v : Value} (hops : o.op.operands.toList.all zAC = true) (h : xrd1 P o ρ A = some v) : zAE P ρ o A = some (v,A) := by
  have slow : roexec P ρ o A = some v → zAE P ρ o A = some (v,A) := roexec_aexec
  have quick : ∀ A1,A1 = A → callV o.op = none → xdisp P o bnoO ρ A = .yes v A1 → zAE P ρ o A = some (v,A) := fun A1 hA hno hx => by
    subst hA; exact xdisp_ok hno hops hx
  obtain ⟨dst,op,ty,pos,after,guard⟩ := o
  cases op
  case move x => cases h; exact quick A rfl rfl rfl
  case assign x => cases h; exact quick A rfl rfl rfl
  case pick c a b =>
    obtain ⟨A1,h⟩ := VR.val_eq h
    refine quick A1 ?_ rfl h
    unfold xpick at h
    repeat' (split at h)
    all_goals first | (cases h; done) | (cases h; rfl)
  case nilCheck x =>
    obtain ⟨A1,h⟩ := VR.val_eq h
    refine quick A1 ?_ rfl h
    unfold xnil at h
    repeat' (split at h)
    all_goals first | (cases h; done) | (cases h; rfl)
  case load t a =>
    obtain ⟨A1,h⟩ := VR.val_eq h
    refine quick A1 ?_ rfl h
    unfold xload at h
    split at h
    · exact same_load h
    · cases h
  case fieldAddr t x f =>
    simp only [xrd1] at h
    split at h
    · rename_i d hd
      obtain ⟨A1,h⟩ := VR.val_eq h
      refine quick A1 ?_ rfl h
      unfold zDX at h
      rw [hd] at h
      simp only at h
      repeat' (split at h)
      all_goals first | (cases h; done) | (cases h; rfl)
    · exact slow h
  case indexAddr t x i =>
    simp only [xrd1] at h
    split at h
    · rename_i d hd
      obtain ⟨A1,h⟩ := VR.val_eq h
      refine quick A1 ?_ rfl h
      unfold zCO at h
      rw [hd] at h
      simp only at h
      repeat' (split at h)
      all_goals first | (cases h; done) | (cases h; rfl)
    · rename_i hd
      split at h
      · rename_i p hp
        obtain ⟨A1,h⟩ := VR.val_eq h
        refine quick A1 ?_ rfl h
        unfold zCO at h
        rw [hd,hp] at h
        simp only at h
        repeat' (split at h)
        all_goals first | (cases h; done) | (cases h; rfl)
      · exact slow h
  case extract t i =>
    obtain ⟨A1,h⟩ := VR.val_eq h
    refine quick A1 ?_ rfl h
    unfold xextract at h
    repeat' (split at h)
    all_goals first | (cases h; done) | (cases h; rfl)
  case convert src dst' x =>
    simp only [xrd1] at h
    split at h
    · rename_i u hc
      cases h
      refine quick A rfl rfl ?_
      show (match cvQ P src dst' (ρ x) A with | some v => VR.yes v A | none => _) = _
      rw [hc]
    · exact slow h
  case build t ps =>
    obtain ⟨A1,h⟩ := VR.val_eq h
    refine quick A1 ?_ rfl h
    unfold xbuild at h
    repeat' (split at h)
    all_goals first | (cases h; done) | (cases h; rfl)
  case binOp op t x y yt =>
    simp only [xrd1] at h
    split at h
    · rename_i a b hx hy
      split at h
      · rename_i u hu
        cases h
        refine quick A rfl rfl ?_
        show xbin P op t x y bnoO ρ A = _
        unfold xbin
        rw [hx,hy]
        simp only [hu]
      · exact slow h
    · exact slow h
  case call c =>
    obtain ⟨cl,args,ats⟩ := c
    cases cl with
    | value f => exact slow h
    | invoke r m => exact slow h
    | builtin b =>
      cases b
      case len =>
        simp only [xrd1] at h
        split at h
        · rename_i q x r hq hl
          obtain ⟨A1,h⟩ := VR.val_eq h
          refine quick A1 ?_ rfl h
          unfold xlen at h
          rw [hq,hl] at h
          cases q <;> simp only at h
          all_goals
            split at h <;> first | (cases h; done) | (cases h; rfl)
        · exact slow h
      all_goals exact slow h
  all_goals exact slow h
theorem xrd_ok : RdOK P (xrd P) := by
  intro ρ o A v h
  unfold xrd at h
  split at h
  · rename_i hops; exact xrd1_ok hops h
  · cases h
variable (P)
section
variable (X : Oper → XF)
def qeff (D : Orc) (ρ : Operand → Value) (o : Oper) (A : AHeap) : Option (Value × AHeap) := match callV o.op with
  | some (f,args) => match zAC f,args.toList.all zAC with
    | true,true => match ρ f with
      | .func fn first captured => match fn with
        | .func g => match nth P.funcs.toList g with
          | some fn => match fn.body.isSome with
            | true => corc D g ⟨appR first.toList (appR (mapR ρ args.toList) captured.toList)⟩ A
            | false => none
          | none => none
        | _ => none
      | _ => none
    | _,_ => none
  | none => match X o D ρ A with
    | .yes v A1 => some (v,A1)
    | .no => none
def qpass (Rd : Rds) (D : Orc) (ops : Array Oper) (ks : List Nat) (nb : Nat) : Nat → List Oper → Slots → List (Nat × FO) → AHeap → Option (List Value × List AHeap × Slots)
  | _,[],T,pd,A => match zBU nb pd A with
    | some (ms,A1) => some ([],ms ++ [A1],T)
    | none => none
  | i,o :: os,T,pd,A => match zBD P (cvE P ops) o with
    | false => match zCM (gd ops o) T with
      | false => match qpass Rd D ops ks nb (i + 1) os (sput T o.dst undef) pd A with
        | some (vs,ms,T1) => some (undef :: vs,ms,T1)
        | none => none
      | true => match Rd (zBP T) o A with
        | some v => match qpass Rd D ops ks nb (i + 1) os (sput T o.dst v) pd A with
          | some (vs,ms,T1) => some (v :: vs,ms,T1)
          | none => none
        | none => none
    | true => match isFl P o with
      | true => match fobW (zCM (gd ops o) T) (fobj P (zBP T) o) with
        | some ob => match qpass Rd D ops ks nb (i + 1) os (sput T o.dst (ob.k.val (nb + i))) ((i,ob) :: pd) A with
          | some (vs,ms,T1) => some (ob.k.val (nb + i) :: vs,ms,T1)
          | none => none
        | none => none
      | false => match zBU nb (pd.filter (keyIn ((nth ks i).getD 0))) A with
        | some (ms0,A0) => match zCM (gd ops o) T with
          | false => match qpass Rd D ops ks nb (i + 1) os (sput T o.dst undef) (pd.filter (fun x => !keyIn ((nth ks i).getD 0) x)) A0 with
            | some (vs,ms,T1) => some (undef :: vs,ms0 ++ (A0 :: ms),T1)
            | none => none
          | true => match qeff P X D (zBP T) o A0 with
            | some (v,A1) => match qpass Rd D ops ks nb (i + 1) os (sput T o.dst v) (pd.filter (fun x => !keyIn ((nth ks i).getD 0) x)) A1 with
              | some (vs,ms,T1) => some (v :: vs,ms0 ++ (A0 :: ms),T1)
              | none => none
            | none => none
        | none => none
end
def qcheck (Rd : Rds) (ops : Array Oper) (ks E : List Nat) (ms : List AHeap) : List Oper → List Value → Nat → Slots → Bool
  | o :: os,v :: vs,i,T => match (match zBD P (cvE P ops) o,zCM (gd ops o) T with
    | false,true => lookAll (flAt P ops.toList) (fun A => match Rd (zBP T) o A with | some u => veq 5 u v | none => false) ((nth ks i).getD 0) i ks E ms
    | _,_ => true) with
    | true => qcheck Rd ops ks E ms os vs (i + 1) (sput T o.dst v)
    | false => false
  | _,_,_,_ => true
def qregion (X : Oper → XF) : DR := fun D ops T A => match statOK P (cvE P ops) ops with
  | false => none
  | true => match qpass P X (xrd P) D ops (zCR ops.toList) A.next 0 ops.toList T [] ⟨A.next + ops.size,A.objs⟩ with
    | none => none
    | some (vs,ms,T1) => match qcheck P (xrd P) ops (zCR ops.toList) (zBL P (cvE P ops) ops) ms ops.toList vs 0 T with
      | false => none
      | true => match nth ms (zBL P (cvE P ops) ops).length with
        | some A1 => some (T1,A1)
        | none => none
variable {P}
theorem qeff_ok {X : Oper → XF} (hX : XOK P X) {D : Orc} {ρ : Operand → Value} {o : Oper} {A : AHeap} {p : Value × AHeap} (h : qeff P X D ρ o A = some p) : opRun P (corc D) ρ o A = some p := by
  unfold qeff at h
  split at h
  · rename_i f args hop
    obtain ⟨ats,e⟩ := callV_some hop
    unfold opRun
    rw [e]
    simp only
    split at h
    · rename_i h1 h2
      rw [h1,h2]
      simp only
      split at h
      · rename_i fn first captured hf
        split at h
        · rename_i g
          rw [hf]
          simp only
          split at h
          · rename_i fn hfn
            rw [hfn]
            simp only
            split at h
            · rename_i hb
              rw [hb]
              simp only
              rw [← mapR_arr,← appR_arr]
              exact h
            · cases h
          · cases h
        · cases h
      · cases h
    · cases h
  · rename_i hno
    split at h
    · rename_i v A1 hx
      cases h
      rcases hX _ _ _ _ _ _ hx with ⟨f,args,ats,e,_⟩ | ⟨hn,ha⟩
      · exact absurd e (callV_none hno _ _ _)
      · unfold opRun
        split
        · rename_i e; exact absurd e (hn _ _ _)
        · exact ha
    · cases h
theorem qpass_ok {X : Oper → XF} (hX : XOK P X) {Rd : Rds} {D : Orc} {ops : Array Oper} {ks : List Nat} {nb : Nat} : ∀ {os : List Oper} {i : Nat} {T : Slots} {pd : List (Nat × FO)} {A : AHeap} {vs : List Value} {ms : List AHeap} {T1 : Slots},qpass P X Rd D ops ks nb i os T pd A = some (vs,ms,T1) →
    pass1 P (cvE P ops) Rd (corc D) ops ks nb i os (sabs T) pd A = some (vs,ms,sabs T1) := by
  intro os
  induction os with
  | nil =>
    intro i T pd A vs ms T1 h
    simp only [qpass] at h
    simp only [pass1]
    split at h
    · rename_i hp; cases h; rw [hp]
    · cases h
  | cons o os ih =>
    intro i T pd A vs ms T1 h
    simp only [qpass,wantB_eq,syielded_eq] at h
    simp only [pass1,fyielded_eq]
    split at h
    · rename_i he
      rw [he]
      simp only
      split at h
      · rename_i hw
        rw [hw]
        simp only
        split at h
        · rename_i r; cases h; rw [← zCA,ih r]
        · cases h
      · rename_i hw
        rw [hw]
        simp only
        split at h
        · rename_i v hr
          rw [← zCY,hr]
          simp only
          split at h
          · rename_i r; cases h; rw [← zCA,ih r]
          · cases h
        · cases h
    · rename_i he
      rw [he]
      simp only
      split at h
      · rename_i hf
        rw [hf]
        simp only
        split at h
        · rename_i ob hob
          rw [← zCY,hob]
          simp only
          split at h
          · rename_i r; cases h; rw [← zCA,ih r]
          · cases h
        · cases h
      · rename_i hf
        rw [hf]
        simp only
        split at h
        · rename_i ms0 A0 hp
          rw [hp]
          simp only
          split at h
          · rename_i hw
            rw [hw]
            simp only
            split at h
            · rename_i r; cases h; rw [← zCA,ih r]
            · cases h
          · rename_i hw
            rw [hw]
            simp only
            split at h
            · rename_i v A1 hr
              rw [← zCY,qeff_ok hX hr]
              simp only
              split at h
              · rename_i r; cases h; rw [← zCA,ih r]
              · cases h
            · cases h
        · cases h
theorem qcheck_ok {Rd : Rds} {ops : Array Oper} {ks E : List Nat} {ms : List AHeap} : ∀ {os : List Oper} {vs : List Value} {i : Nat} {T : Slots},qcheck P Rd ops ks E ms os vs i T = true → check2 P (cvE P ops) Rd ops ks E ms os vs i (sabs T) = true := by
  intro os
  induction os with
  | nil => intro vs i T _; rfl
  | cons o os ih =>
    intro vs i T h
    cases vs with
    | nil => rfl
    | cons v vs =>
      simp only [qcheck] at h
      simp only [check2,fyielded_eq,Bool.and_eq_true]
      split at h
      · rename_i hq
        refine ⟨?_,by rw [← zCA]; exact ih h⟩
        rw [wantB_eq,syielded_eq] at hq
        rw [← zCY]
        exact hq
      · cases h
theorem qregion_ok {X : Oper → XF} (hX : XOK P X) : DROK P (qregion P X) := by
  intro D ops s A s1 A1 h
  refine ⟨xrd P,xrd_ok,?_⟩
  unfold qregion at h
  unfold region
  split at h
  · cases h
  · rename_i hst
    rw [hst]
    simp only
    split at h
    · cases h
    · rename_i vs ms T2 hp
      rw [qpass_ok hX hp]
      simp only
      split at h
      · cases h
      · rename_i hck
        rw [qcheck_ok hck]
        simp only
        split at h
        · rename_i hn; cases h; rw [hn]
        · cases h
end
end Go.Proofs.Ytdaljohmfnfgiaa.Canon

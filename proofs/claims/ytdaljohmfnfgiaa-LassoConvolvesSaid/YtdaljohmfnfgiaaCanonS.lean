/- What the proof of this claim is made of. No condition. -/
import Derived.Test.YtdaljohmfnfgiaaCanonR
namespace Go.Proofs.Ytdaljohmfnfgiaa.Canon
open Go Go.RowKit
noncomputable section
section
variable {P : Program}
def puts (D : Nat → Bool) : Nat → List Oper → List Value → Array Value → Array Value
  | i,o :: os,v :: vs,T => puts D (i + 1) os vs (match D i with | true => fput T o.dst v | false => T)
  | _,_,_,T => T
theorem fput_size (T : Array Value) (d : Option Tmp) (v : Value) : (fput T d v).size = T.size := by
  rw [fput_eq]; cases d <;> simp
theorem fput_get (T : Array Value) (d : Option Tmp) (v : Value) (t : Nat) : (fput T d v)[t]? = if d = some t then (if t < T.size then some v else none) else T[t]? := by
  rw [fput_eq]
  cases d with
  | none => simp
  | some d =>
    simp only [Array.getElem?_setIfInBounds,zOi]
    by_cases h : d = t
    · subst h; simp
    · simp [h]
theorem fput_comm (T : Array Value) {d e : Option Tmp} (v u : Value) (h : ∀ x,d = some x → e ≠ some x) : fput (fput T d v) e u = fput (fput T e u) d v := by
  rw [fput_eq,fput_eq,fput_eq,fput_eq]
  cases d with
  | none => rfl
  | some d =>
    cases e with
    | none => rfl
    | some e =>
      have hne : d ≠ e := fun he => h d rfl (he ▸ rfl)
      simp [Array.setIfInBounds_comm _ _ hne]
theorem puts_agree {D D' : Nat → Bool} (t : Nat) : ∀ (os : List Oper) (vs : List Value) (i : Nat) (T T' : Array Value),T.size = T'.size → T[t]? = T'[t]? →
    (∀ (j : Nat) (o : Oper),os[j]? = some o → o.dst = some t → D (i + j) = D' (i + j)) → (puts D i os vs T)[t]? = (puts D' i os vs T')[t]? := by
  intro os
  induction os with
  | nil => intro vs i T T' _ h _; cases vs <;> exact h
  | cons o os ih =>
    intro vs i T T' hs h hd
    cases vs with
    | nil => exact h
    | cons v vs =>
      simp only [puts]
      have hd' : ∀ (j : Nat) (o : Oper),os[j]? = some o → o.dst = some t → D (i + 1 + j) = D' (i + 1 + j) := fun j o ho hod => by
        have := hd (j + 1) o (by simpa using ho) hod
        rwa [show i + (j + 1) = i + 1 + j by omega] at this
      refine ih vs (i + 1) _ _ ?_ ?_ hd'
      · cases D i <;> cases D' i <;> simp [fput_size,hs]
      · by_cases hod : o.dst = some t
        · have := hd 0 o rfl hod
          simp only [Nat.add_zero] at this
          rw [this]
          cases D' i
          · exact h
          · simp [fput_get,hod,hs]
        · cases D i <;> cases D' i <;> simp [fput_get,hod,h]
theorem puts_same {D D' : Nat → Bool} : ∀ (os : List Oper) (vs : List Value) (i : Nat) (T : Array Value),(∀ j,j < os.length → D (i + j) = D' (i + j)) → puts D i os vs T = puts D' i os vs T := by
  intro os
  induction os with
  | nil => intro vs i T _; cases vs <;> rfl
  | cons o os ih =>
    intro vs i T h
    cases vs with
    | nil => rfl
    | cons v vs =>
      simp only [puts]
      rw [show D i = D' i from h 0 (by simp)]
      exact ih vs (i + 1) _ fun j hj => by
        have := h (j + 1) (by simp; omega)
        rwa [show i + (j + 1) = i + 1 + j by omega] at this
theorem puts_comm {D : Nat → Bool} (d : Option Tmp) (v : Value) : ∀ (os : List Oper) (vs : List Value) (i : Nat) (T : Array Value),
    (∀ (j : Nat) (o : Oper) (x : Tmp),os[j]? = some o → o.dst = some x → d = some x → D (i + j) = false) → puts D i os vs (fput T d v) = fput (puts D i os vs T) d v := by
  intro os
  induction os with
  | nil => intro vs i T _; cases vs <;> rfl
  | cons o os ih =>
    intro vs i T h
    cases vs with
    | nil => rfl
    | cons u vs =>
      simp only [puts]
      have h' : ∀ (j : Nat) (o : Oper) (x : Tmp),os[j]? = some o → o.dst = some x → d = some x → D (i + 1 + j) = false := fun j o x ho hx hd => by
        have := h (j + 1) o x (by simpa using ho) hx hd
        rwa [show i + (j + 1) = i + 1 + j by omega] at this
      cases hD : D i with
      | false => exact ih vs (i + 1) T h'
      | true =>
        simp only
        rw [fput_comm T v u fun x hd hx => by have := h 0 o x rfl hx hd; simp [hD] at this]
        exact ih vs (i + 1) _ h'
def with1 (D : Nat → Bool) (j : Nat) : Nat → Bool := fun x => x == j || D x
theorem puts_add {D : Nat → Bool} : ∀ (os : List Oper) (vs : List Value) (i : Nat) (T : Array Value) (j : Nat) (o : Oper) (v : Value),os[j]? = some o → vs[j]? = some v → D (i + j) = false →
    (∀ (l : Nat) (o' : Oper) (x : Tmp),j < l → os[l]? = some o' → o'.dst = some x → o.dst = some x → D (i + l) = false) →
    puts (with1 D (i + j)) i os vs T = fput (puts D i os vs T) o.dst v := by
  intro os
  induction os with
  | nil => intro vs i T j o v ho; simp at ho
  | cons o1 os ih =>
    intro vs i T j o v ho hv hj hl
    cases vs with
    | nil => simp at hv
    | cons v1 vs =>
      simp only [puts]
      cases j with
      | zero =>
        simp only [List.getElem?_cons_zero,zOi] at ho hv
        subst ho hv
        simp only [Nat.add_zero] at hj ⊢
        have h1 : with1 D i i = true := by simp [with1]
        rw [h1,hj]
        simp only
        rw [puts_same (D := with1 D i) (D' := D) os vs (i + 1) _ fun j _ => by simp [with1]; omega]
        exact puts_comm _ _ _ _ _ _ fun l o' x ho' hx hd => by
          have := hl (l + 1) o' x (by omega) (by simpa using ho') hx hd
          rwa [show i + (l + 1) = i + 1 + l by omega] at this
      | succ j =>
        have h1 : with1 D (i + (j + 1)) i = D i := by simp [with1] <;> omega
        rw [h1,show i + (j + 1) = i + 1 + j by omega]
        exact ih vs (i + 1) _ j o v (by simpa using ho) (by simpa using hv) (by rw [← hj]; congr 1; omega) fun l o' x hjl ho' hx hd => by
          have := hl (l + 1) o' x (by omega) (by simpa using ho') hx hd
          rwa [show i + (l + 1) = i + 1 + l by omega] at this
def bitsOf (acc : List Nat) (es : List Edge) : Nat := match es with
  | [] => 0
  | e :: es => match Region.binds .any e with
    | true => (1 <<< e.on ||| (nth acc e.on).getD 0) ||| bitsOf acc es
    | false => bitsOf acc es
def masksFrom : List Oper → List Nat → List Nat
  | [],acc => acc
  | o :: os,acc => masksFrom os (acc ++ [bitsOf acc o.after.toList])
def zCR (ops : List Oper) : List Nat := masksFrom ops []
def bit (ms : List Nat) (i j : Nat) : Bool := Nat.testBit ((nth ms i).getD 0) j
theorem bitsOf_spec {acc : List Nat} {j : Nat} : ∀ {es : List Edge},Nat.testBit (bitsOf acc es) j = true → ∃ e ∈ es,Region.binds .any e = true ∧ (e.on = j ∨ bit acc e.on j = true) := by
  intro es
  induction es with
  | nil => intro h; simp [bitsOf] at h
  | cons e es ih =>
    intro h
    simp only [bitsOf] at h
    split at h
    · rename_i hb
      simp only [Nat.testBit_or,Bool.or_eq_true] at h
      rcases h with (h | h) | h
      · refine ⟨e,by simp,hb,.inl ?_⟩
        rw [Nat.shiftLeft_eq,Nat.one_mul,Nat.testBit_two_pow] at h
        simpa using h
      · exact ⟨e,by simp,hb,.inr h⟩
      · obtain ⟨e',h1,h2⟩ := ih h
        exact ⟨e',by simp [h1],h2⟩
    · obtain ⟨e',h1,h2⟩ := ih h
      exact ⟨e',by simp [h1],h2⟩
theorem masksFrom_keep : ∀ (os : List Oper) (acc : List Nat) (i : Nat),i < acc.length → nth (masksFrom os acc) i = nth acc i := by
  intro os
  induction os with
  | nil => intro acc i _; rfl
  | cons o os ih =>
    intro acc i h
    simp only [masksFrom]
    rw [ih _ i (by simp; omega),nth_eq,nth_eq,List.getElem?_append_left h]
theorem masksFrom_at : ∀ (os : List Oper) (acc : List Nat) (j : Nat) (o : Oper),os[j]? = some o →
    ∃ acc',nth (masksFrom os acc) (acc.length + j) = some (bitsOf acc' o.after.toList) ∧ acc'.length = acc.length + j ∧ ∀ i,i < acc'.length → nth (masksFrom os acc) i = nth acc' i := by
  intro os
  induction os with
  | nil => intro acc j o h; simp at h
  | cons o1 os ih =>
    intro acc j o h
    simp only [masksFrom]
    cases j with
    | zero =>
      simp only [List.getElem?_cons_zero,zOi] at h
      subst h
      refine ⟨acc,?_,rfl,fun i hi => ?_⟩
      · rw [masksFrom_keep _ _ _ (by simp),nth_eq]
        simp
      · rw [masksFrom_keep _ _ _ (by simp; omega),nth_eq,nth_eq,List.getElem?_append_left hi]
    | succ j =>
      obtain ⟨acc',h1,h2,h3⟩ := ih (acc ++ [bitsOf acc o1.after.toList]) j o (by simpa using h)
      simp only [List.length_append,List.length_cons,List.length_nil,Nat.zero_add] at h1 h2
      exact ⟨acc',by rw [← h1]; congr 1; omega,by omega,h3⟩
theorem bit_spec {ops : List Oper} {i j : Nat} {o : Oper} (ho : ops[i]? = some o) (h : bit (zCR ops) i j = true) : ∃ e ∈ o.after,Region.binds .any e = true ∧ (e.on = j ∨ bit (zCR ops) e.on j = true) := by
  obtain ⟨acc,h1,h2,h3⟩ := masksFrom_at ops [] i o ho
  simp only [List.length_nil,Nat.zero_add] at h1 h2
  unfold bit zCR at h
  rw [h1,Option.getD_some] at h
  obtain ⟨e,he,hb,hj⟩ := bitsOf_spec h
  refine ⟨e,by simpa using he,hb,?_⟩
  rcases hj with hj | hj
  · exact .inl hj
  · refine .inr ?_
    have hlt : e.on < acc.length := by
      refine Nat.lt_of_not_le fun hle => ?_
      unfold bit at hj
      rw [nth_eq,List.getElem?_eq_none hle] at hj
      simp at hj
    unfold bit zCR at *
    rw [h3 _ hlt]
    exact hj
end
end
end Go.Proofs.Ytdaljohmfnfgiaa.Canon

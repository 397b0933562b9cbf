/- A region whose order is drawn is run in the text's order: how, and what it says. No condition. -/
import Derived.Test.YtmahbibgmdaeeacCanonSa
namespace Go.Proofs.Ytmahbibgmdaeeac.Canon
open Go Go.RowKit
noncomputable section

section
variable (P : Program)

def isEff (o : Oper) : Bool := match o.op with
  | .alloc _ => true
  | .box .. => true
  | .buildSlice .. => true
  | .store .. => true
  | .makeMap .. => true
  | .makeSlice .. => true
  | .insert .. => true
  | .mapUpdate .. => true
  | .mapEntry .. => true
  | .entryStore .. => true
  | .range .. => true
  | .next .. => true
  | .convert .. => true
  | .call c => match c.callee with
    | .builtin .len => false
    | .builtin .cap => false
    | .builtin .min => false
    | .builtin .max => false
    | _ => true
  | _ => false

def effs : Nat → List Oper → List Nat
  | _, [] => []
  | i, o :: os => match isEff o with
    | true => i :: effs (i + 1) os
    | false => effs (i + 1) os

def tb (m n : Nat) : Bool := !(Nat.beq (Nat.land 1 (Nat.shiftRight m n)) 0)
theorem tb_eq (m n : Nat) : tb m n = Nat.testBit m n := by
  have h : ∀ x : Nat, Nat.beq x 0 = (x == 0) := fun x => by cases x <;> rfl
  unfold tb Nat.testBit
  rw [h]
  rfl

def rowOK (ops : Array Oper) (m : Nat) (o : Oper) (i : Nat) : Nat → List Oper → Bool
  | _, [] => true
  | j, x :: xs => match Nat.blt j i with
    | true => (tb m j || Oper.apart ops x o) && rowOK ops m o i (j + 1) xs
    | false => true
def rowsOK (ops : Array Oper) (ks : List Nat) : Nat → List Oper → Bool
  | _, [] => true
  | i, o :: os => o.after.toList.all (fun e => !Region.binds .any e || Nat.blt e.on i) && (rowOK ops ((nth ks i).getD 0) o i 0 ops.toList && rowsOK ops ks (i + 1) os)
/-- A new variable that no guard keeps back: when it is made is seen by nobody. -/
def isFl (o : Oper) : Bool := match o.guard with
  | none => match o.op with
    | .alloc _ => true
    | .box .. => true
    | .makeSlice .. => true
    | .buildSlice .. => true
    | _ => false
  | some _ => false
def flAt (ops : List Oper) (e : Nat) : Bool := match nth ops e with
  | some o => isFl o
  | none => false
def chainOK (ops : List Oper) (ks : List Nat) : List Nat → List Nat → Bool
  | _, [] => true
  | pend, e :: l => (match flAt ops e with
    | true => true
    | false => pend.all (tb ((nth ks e).getD 0))) && chainOK ops ks (e :: pend) l
/-- What is so in every order. -/
def statOK (ops : Array Oper) : Bool := rowsOK ops (masks ops.toList) 0 ops.toList && chainOK ops.toList (masks ops.toList) [] (effs 0 ops.toList)
/-- What is new: its cells, their type, and what leads to it. -/
inductive FK where
  | ptr
  | sl (n c : Nat)
def FK.val (k : FK) (b : Nat) : Value := match k with
  | .ptr => .pointer (some ⟨b, 0, none⟩)
  | .sl n c => .slice (some ⟨b, 0, none⟩) n c
structure FO where
  c : List Value
  t : TypeId
  k : FK
def zof (t : TypeId) (c : Nat) : Option (List Value) := match sof P t c, (elemT P t).bind P.info? with
  | .mk _ _ z, some i => match Nat.ble c 16777216, Nat.ble (i.bytes * c) 281474976710656 with
    | true, true => some z
    | _, _ => none
  | _, _ => none
def fobj (ρ : Operand → Value) (o : Oper) : Option FO := match o.op with
  | .alloc t => match zeroOf P t with
    | some z => some ⟨z.cells.toList, t, .ptr⟩
    | none => none
  | .box t x => match opnOK x with
    | true => some ⟨(ρ x).cells.toList, t, .ptr⟩
    | false => none
  | .makeSlice t l c => match opnOK l, opnOK c, elemT P t with
    | true, true, some e => match xnum (ρ l), xnum (ρ c) with
      | some l, some c => match Nat.ble l c, zof P t c with
        | true, some z => some ⟨z, e, .sl l c⟩
        | _, _ => none
      | _, _ => none
    | _, _, _ => none
  | .buildSlice t n ps => match sof P t n, elemT P t, ps.toList.all (fun p => opnOK p.2) with
    | .mk pl k z, some e, true => match fillR pl k ρ ps.toList z with
      | some r => some ⟨r, e, .sl n n⟩
      | none => none
    | _, _, _ => none
  | _ => none
def place (n : Nat) (ob : FO) (A : AHeap) : Option (Value × AHeap) := match look A.objs n with
  | none => some (ob.k.val n, ⟨A.next, consO n ⟨.cells ⟨ob.c⟩ ob.t, false, 0⟩ A.objs⟩)
  | some _ => none
def floRun (ρ : Operand → Value) (n : Nat) (o : Oper) (A : AHeap) : Option (Value × AHeap) := match fobj P ρ o with
  | some ob => place n ob A
  | none => none

abbrev Runs := FuncId → Array Value → AHeap → Option (Value × AHeap)
/-- How an operation is read. -/
abbrev Rds := (Operand → Value) → Oper → AHeap → Option Value
def RdOK (Rd : Rds) : Prop := ∀ ρ o A v, Rd ρ o A = some v → aexec P ρ o A = some (v, A)

def opRun (C : Runs) (ρ : Operand → Value) (o : Oper) (A : AHeap) : Option (Value × AHeap) :=
  match o.op with
  | .call ⟨.value f, args, _⟩ => match opnOK f, args.toList.all opnOK with
    | true, true => match ρ f with
      | .func (.func g) first captured => match nth P.funcs.toList g with
        | some fn => match fn.body.isSome with
          | true => C g (first ++ args.map ρ ++ captured) A
          | false => none
        | none => none
      | _ => none
    | _, _ => none
  | _ => aexec P ρ o A

def opRunF (C : Runs) (ρ : Operand → Value) (n : Nat) (o : Oper) (A : AHeap) : Option (Value × AHeap) := match isFl o with
  | true => floRun P ρ n o A
  | false => opRun P C ρ o A

def pass1 (Rd : Rds) (C : Runs) (ops : Array Oper) (nb : Nat) : Nat → List Oper → Array Value → AHeap → Option (List Value × List AHeap × Array Value)
  | _, [], T, A => some ([], [A], T)
  | i, o :: os, T, A => match isEff o, Region.wanted o (fyielded ops T) with
    | false, false => match pass1 Rd C ops nb (i + 1) os (fput T o.dst undef) A with
      | some (vs, ms, T1) => some (undef :: vs, ms, T1)
      | none => none
    | true, false => match pass1 Rd C ops nb (i + 1) os (fput T o.dst undef) A with
      | some (vs, ms, T1) => some (undef :: vs, A :: ms, T1)
      | none => none
    | true, true => match opRunF P C (feval T) (nb + i) o A with
      | some (v, A1) => match pass1 Rd C ops nb (i + 1) os (fput T o.dst v) A1 with
        | some (vs, ms, T1) => some (v :: vs, A :: ms, T1)
        | none => none
      | none => none
    | false, true => match Rd (feval T) o A with
      | some v => match pass1 Rd C ops nb (i + 1) os (fput T o.dst v) A with
        | some (vs, ms, T1) => some (v :: vs, ms, T1)
        | none => none
      | none => none

def lookAll (fl : Nat → Bool) (f : AHeap → Bool) (m i : Nat) (ks : List Nat) : List Nat → List AHeap → Bool
  | _, [] => true
  | E, A :: As => (match E.any (fun e => tb m e && !fl e) with
    | true => true
    | false => f A) && (match E with
    | [] => true
    | e :: E => match tb ((nth ks e).getD 0) i with
      | true => true
      | false => lookAll fl f m i ks E As)

def beqs : List UInt8 → List UInt8 → Bool
  | [], [] => true
  | a :: l, b :: m => match Nat.beq a.toNat b.toNat with
    | true => beqs l m
    | false => false
  | _, _ => false
theorem beqs_eq : ∀ {l m : List UInt8}, beqs l m = true → l = m := by
  intro l
  induction l with
  | nil => intro m h; cases m with | nil => rfl | cons => simp [beqs] at h
  | cons a l ih =>
    intro m h
    cases m with
    | nil => simp [beqs] at h
    | cons b m =>
      simp only [beqs] at h
      split at h
      · rename_i hab; rw [ih h, UInt8.toNat_inj.1 (Nat.eq_of_beq_eq_true hab)]
      · cases h

def veqs (f : Value → Value → Bool) : List Value → List Value → Bool
  | [], [] => true
  | a :: l, b :: m => match f a b with
    | true => veqs f l m
    | false => false
  | _, _ => false
theorem veqs_eq {f : Value → Value → Bool} (hf : ∀ a b, f a b = true → a = b) : ∀ {l m : List Value}, veqs f l m = true → l = m := by
  intro l
  induction l with
  | nil => intro m h; cases m with | nil => rfl | cons => simp [veqs] at h
  | cons a l ih =>
    intro m h
    cases m with
    | nil => simp [veqs] at h
    | cons b m =>
      simp only [veqs] at h
      split at h
      · rename_i hab; rw [ih h, hf _ _ hab]
      · cases h

def veq : Nat → Value → Value → Bool
  | 0, _, _ => false
  | n + 1, v, u => match v, u with
    | .bool true, .bool true => true
    | .bool false, .bool false => true
    | .int k (.ofNat a), .int k' (.ofNat b) => Nat.beq a b && decide (k = k')
    | .int k (.negSucc a), .int k' (.negSucc b) => Nat.beq a b && decide (k = k')
    | .string ⟨⟨s⟩⟩, .string ⟨⟨t⟩⟩ => beqs s t
    | .pointer none, .pointer none => true
    | .pointer (some ⟨b, o, none⟩), .pointer (some ⟨b', o', none⟩) => Nat.beq b b' && Nat.beq o o'
    | .slice none n c, .slice none n' c' => Nat.beq n n' && Nat.beq c c'
    | .slice (some ⟨b, o, none⟩) n c, .slice (some ⟨b', o', none⟩) n' c' => (Nat.beq b b' && Nat.beq o o') && (Nat.beq n n' && Nat.beq c c')
    | .map none, .map none => true
    | .map (some b), .map (some b') => Nat.beq b b'
    | .nilFunc, .nilFunc => true
    | .nilIface, .nilIface => true
    | .iface t .nilIface, .iface t' .nilIface => Nat.beq t t'
    | .func (.func f) ⟨xs⟩ ⟨ys⟩, .func (.func f') ⟨xs'⟩ ⟨ys'⟩ => Nat.beq f f' && (veqs (veq n) xs xs' && veqs (veq n) ys ys')
    | .agg ⟨xs⟩, .agg ⟨ys⟩ => veqs (veq n) xs ys
    | .tuple ⟨xs⟩, .tuple ⟨ys⟩ => veqs (veq n) xs ys
    | _, _ => false
theorem veq_eq : ∀ (n : Nat) (v u : Value), veq n v u = true → v = u := by
  intro n
  induction n with
  | zero => intro v u h; cases h
  | succ n ih =>
    intro v u h
    unfold veq at h
    have bq : ∀ {a b : Nat}, Nat.beq a b = true → a = b := fun h => Nat.eq_of_beq_eq_true h
    split at h <;> (try (cases h; done)) <;> (try rfl)
    all_goals
      try simp only [Bool.and_eq_true, decide_eq_true_eq] at h
    · rw [bq h.1, h.2]
    · rw [bq h.1, h.2]
    · rw [beqs_eq h]
    · rw [bq h.1, bq h.2]
    · rw [bq h.1, bq h.2]
    · rw [bq h.1.1, bq h.1.2, bq h.2.1, bq h.2.2]
    · rw [bq h]
    · rw [bq h]
    · rw [bq h.1, veqs_eq ih h.2.1, veqs_eq ih h.2.2]
    · rw [veqs_eq ih h]
    · rw [veqs_eq ih h]

def check2 (Rd : Rds) (ops : Array Oper) (ks E : List Nat) (ms : List AHeap) : List Oper → List Value → Nat → Array Value → Bool
  | o :: os, v :: vs, i, T => (match isEff o, Region.wanted o (fyielded ops T) with
    | false, true => lookAll (flAt ops.toList) (fun A => match Rd (feval T) o A with | some u => veq 5 u v | none => false) ((nth ks i).getD 0) i ks E ms
    | _, _ => true) && check2 Rd ops ks E ms os vs (i + 1) (fput T o.dst v)
  | _, _, _, _ => true

def region (Rd : Rds) (C : Runs) (ops : Array Oper) (T : Array Value) (A : AHeap) : Option (Array Value × AHeap) :=
  match statOK ops with
  | false => none
  | true => match pass1 P Rd C ops A.next 0 ops.toList T ⟨A.next + ops.size, A.objs⟩ with
    | none => none
    | some (vs, ms, T1) => match check2 Rd ops (masks ops.toList) (effs 0 ops.toList) ms ops.toList vs 0 T with
      | false => none
      | true => match nth ms (effs 0 ops.toList).length with
        | some A1 => some (T1, A1)
        | none => none

/-- The slots ahead of an operation, in the text's order. -/
def at0 (i j : Nat) (os : List Oper) (vs : List Value) (T : Array Value) : Array Value := puts (fun x => decide (x < i + j)) i os vs T
theorem at0_zero (i : Nat) (os : List Oper) (vs : List Value) (T : Array Value) : at0 i 0 os vs T = T := by
  have : ∀ (os : List Oper) (vs : List Value) (l : Nat) (T : Array Value), i ≤ l → puts (fun x => decide (x < i + 0)) l os vs T = T := by
    intro os
    induction os with
    | nil => intro vs l T _; cases vs <;> rfl
    | cons o os ih =>
      intro vs l T hl
      cases vs with
      | nil => rfl
      | cons v vs =>
        simp only [puts]
        have : decide (l < i + 0) = false := by simp; omega
        rw [this]
        exact ih vs (l + 1) T (by omega)
  exact this os vs i T (Nat.le_refl _)
theorem at0_succ (i j : Nat) (o : Oper) (os : List Oper) (v : Value) (vs : List Value) (T : Array Value) : at0 i (j + 1) (o :: os) (v :: vs) T = at0 (i + 1) j os vs (fput T o.dst v) := by
  unfold at0
  simp only [puts]
  have : decide (i < i + (j + 1)) = true := by simp
  rw [this]
  simp only [show i + (j + 1) = i + 1 + j by omega]

theorem effs_mem : ∀ {os : List Oper} {i e : Nat}, e ∈ effs i os → ∃ j o, e = i + j ∧ os[j]? = some o ∧ isEff o = true := by
  intro os
  induction os with
  | nil => intro i e h; simp [effs] at h
  | cons o os ih =>
    intro i e h
    simp only [effs] at h
    have next : e ∈ effs (i + 1) os → ∃ j o', e = i + j ∧ (o :: os)[j]? = some o' ∧ isEff o' = true := fun h => by
      obtain ⟨j, o', h1, h2, h3⟩ := ih h
      exact ⟨j + 1, o', by omega, by simpa using h2, h3⟩
    split at h
    · rename_i he
      rcases List.mem_cons.1 h with rfl | h
      · exact ⟨0, o, rfl, rfl, he⟩
      · exact next h
    · exact next h
theorem mem_effs : ∀ {os : List Oper} {i j : Nat} {o : Oper}, os[j]? = some o → isEff o = true → i + j ∈ effs i os := by
  intro os
  induction os with
  | nil => intro i j o h; simp at h
  | cons o1 os ih =>
    intro i j o h he
    simp only [effs]
    cases j with
    | zero =>
      simp only [List.getElem?_cons_zero, Option.some.injEq] at h
      subst h
      rw [he]
      simp
    | succ j =>
      have := ih (i := i + 1) (by simpa using h) he
      rw [show i + 1 + j = i + (j + 1) by omega] at this
      split
      · exact List.mem_cons_of_mem _ this
      · exact this

/-- What a run in the text's order says. -/
structure Ran (C : Runs) (ops : Array Oper) (nb i : Nat) (os : List Oper) (T : Array Value) (A : AHeap) (vs : List Value) (ms : List AHeap) (T1 : Array Value) : Prop where
  len : vs.length = os.length
  fin : T1 = puts (fun _ => true) i os vs T
  first : ms[0]? = some A
  mems : ms.length = (effs i os).length + 1
  skip : ∀ (j : Nat) (o : Oper), os[j]? = some o → Region.wanted o (yielded ops (at0 i j os vs T)) = false → vs[j]? = some undef
  eff : ∀ (k e : Nat), (effs i os)[k]? = some e → ∃ j o v A A1, e = i + j ∧ os[j]? = some o ∧ vs[j]? = some v ∧ ms[k]? = some A ∧ ms[k + 1]? = some A1 ∧
    ((Region.wanted o (yielded ops (at0 i j os vs T)) = false ∧ A1 = A) ∨ (Region.wanted o (yielded ops (at0 i j os vs T)) = true ∧ opRunF P C (feval (at0 i j os vs T)) (nb + e) o A = some (v, A1)))

variable {P}

theorem Ran.more {C : Runs} {ops : Array Oper} {nb i : Nat} {o : Oper} {os : List Oper} {T : Array Value} {A : AHeap} {v : Value} {vs : List Value} {ms : List AHeap} {T1 : Array Value} (he : isEff o = false)
    (hw : Region.wanted o (yielded ops T) = false → v = undef) (h : Ran P C ops nb (i + 1) os (fput T o.dst v) A vs ms T1) : Ran P C ops nb i (o :: os) T A (v :: vs) ms T1 where
  len := by simp [h.len]
  fin := h.fin
  first := h.first
  mems := by rw [h.mems]; simp [effs, he]
  skip := fun j o' ho hj => by
    cases j with
    | zero =>
      simp only [List.getElem?_cons_zero, Option.some.injEq] at ho
      subst ho
      rw [at0_zero] at hj
      simp [hw hj]
    | succ j => rw [at0_succ] at hj; simpa using h.skip j o' (by simpa using ho) hj
  eff := fun k e hk => by
    simp only [effs, he] at hk
    obtain ⟨j, o', v', A', A1, h1, h2, h3, h4, h5, h6⟩ := h.eff k e hk
    exact ⟨j + 1, o', v', A', A1, by omega, by simpa using h2, by simpa using h3, h4, h5, by rw [at0_succ]; exact h6⟩
theorem Ran.effect {C : Runs} {ops : Array Oper} {nb i : Nat} {o : Oper} {os : List Oper} {T : Array Value} {A A' : AHeap} {v : Value} {vs : List Value} {ms : List AHeap} {T1 : Array Value} (he : isEff o = true)
    (hw : (Region.wanted o (yielded ops T) = false ∧ v = undef ∧ A' = A) ∨ (Region.wanted o (yielded ops T) = true ∧ opRunF P C (feval T) (nb + i) o A = some (v, A')))
    (h : Ran P C ops nb (i + 1) os (fput T o.dst v) A' vs ms T1) : Ran P C ops nb i (o :: os) T A (v :: vs) (A :: ms) T1 where
  len := by simp [h.len]
  fin := h.fin
  first := rfl
  mems := by simp [effs, he, h.mems]
  skip := fun j o' ho hj => by
    cases j with
    | zero =>
      simp only [List.getElem?_cons_zero, Option.some.injEq] at ho
      subst ho
      rw [at0_zero] at hj
      rcases hw with ⟨_, hv, _⟩ | ⟨hw, _⟩
      · simp [hv]
      · rw [hw] at hj; cases hj
    | succ j => rw [at0_succ] at hj; simpa using h.skip j o' (by simpa using ho) hj
  eff := fun k e hk => by
    simp only [effs, he] at hk
    cases k with
    | zero =>
      simp only [List.getElem?_cons_zero, Option.some.injEq] at hk
      subst hk
      refine ⟨0, o, v, A, A', rfl, rfl, rfl, rfl, by simpa using h.first, ?_⟩
      rw [at0_zero]
      rcases hw with ⟨h1, _, h2⟩ | h
      · exact .inl ⟨h1, h2⟩
      · exact .inr h
    | succ k =>
      obtain ⟨j, o', v', A', A1, h1, h2, h3, h4, h5, h6⟩ := h.eff k e (by simpa using hk)
      exact ⟨j + 1, o', v', A', A1, by omega, by simpa using h2, by simpa using h3, by simpa using h4, by simpa using h5, by rw [at0_succ]; exact h6⟩

theorem pass1_ran {Rd : Rds} {C : Runs} {ops : Array Oper} {nb : Nat} : ∀ {os : List Oper} {i : Nat} {T : Array Value} {A : AHeap} {vs : List Value} {ms : List AHeap} {T1 : Array Value}, pass1 P Rd C ops nb i os T A = some (vs, ms, T1) → Ran P C ops nb i os T A vs ms T1 := by
  intro os
  induction os with
  | nil =>
    intro i T A vs ms T1 h
    cases h
    exact ⟨rfl, rfl, rfl, rfl, fun j o ho => by simp at ho, fun k e hk => by simp [effs] at hk⟩
  | cons o os ih =>
    intro i T A vs ms T1 h
    simp only [pass1, fyielded_eq] at h
    split at h
    · rename_i he hw
      split at h
      · rename_i r; cases h; exact .more he (fun _ => rfl) (ih r)
      · cases h
    · rename_i he hw
      split at h
      · rename_i r; cases h; exact .effect he (.inl ⟨hw, rfl, rfl⟩) (ih r)
      · cases h
    · rename_i he hw
      split at h
      · rename_i v A1 hr
        split at h
        · rename_i r; cases h; exact .effect he (.inr ⟨hw, hr⟩) (ih r)
        · cases h
      · cases h
    · rename_i he hw
      split at h
      · rename_i v hr
        split at h
        · rename_i r; cases h; exact .more he (fun h => by rw [hw] at h; cases h) (ih r)
        · cases h
      · cases h

theorem lookAll_spec {fl : Nat → Bool} {f : AHeap → Bool} {m i : Nat} {ks : List Nat} : ∀ {E : List Nat} {As : List AHeap}, lookAll fl f m i ks E As = true → ∀ (k : Nat) (A : AHeap), As[k]? = some A → k ≤ E.length →
    (∀ (l e : Nat), k ≤ l → E[l]? = some e → fl e = false → Nat.testBit m e = false) → (∀ (l e : Nat), l < k → E[l]? = some e → bit ks e i = false) → f A = true := by
  intro E As
  induction As generalizing E with
  | nil => intro _ k A h; simp at h
  | cons A0 As ih =>
    intro h k A hA hk h1 h2
    unfold lookAll at h
    simp only [Bool.and_eq_true] at h
    obtain ⟨ha, hb⟩ := h
    cases k with
    | zero =>
      simp only [List.getElem?_cons_zero, Option.some.injEq] at hA
      subst hA
      split at ha
      · rename_i hany
        rw [List.any_eq_true] at hany
        obtain ⟨e, he, hbit⟩ := hany
        obtain ⟨l, hl⟩ := List.mem_iff_getElem?.1 he
        simp only [Bool.and_eq_true, Bool.not_eq_true'] at hbit
        obtain ⟨hbit, hfl⟩ := hbit
        rw [tb_eq, h1 l e (Nat.zero_le _) hl hfl] at hbit
        cases hbit
      · exact ha
    | succ k =>
      cases E with
      | nil => simp at hk
      | cons e E =>
        have hbe := h2 0 e (by omega) rfl
        unfold bit at hbe
        replace hb : (match tb ((nth ks e).getD 0) i with | true => true | false => lookAll fl f m i ks E As) = true := hb
        rw [tb_eq, hbe] at hb
        exact ih hb k A (by simpa using hA) (by simpa using hk) (fun l e' hl he' => h1 (l + 1) e' (by omega) (by simpa using he')) (fun l e' hl he' => h2 (l + 1) e' (by omega) (by simpa using he'))

theorem check2_spec {Rd : Rds} {ops : Array Oper} {ks E : List Nat} {ms : List AHeap} : ∀ {os : List Oper} {vs : List Value} {i : Nat} {T : Array Value}, check2 Rd ops ks E ms os vs i T = true →
    ∀ (j : Nat) (o : Oper) (v : Value), os[j]? = some o → vs[j]? = some v → isEff o = false → Region.wanted o (yielded ops (at0 i j os vs T)) = true →
    lookAll (flAt ops.toList) (fun A => match Rd (feval (at0 i j os vs T)) o A with | some u => veq 5 u v | none => false) ((nth ks (i + j)).getD 0) (i + j) ks E ms = true := by
  intro os
  induction os with
  | nil => intro vs i T _ j o v h; simp at h
  | cons o1 os ih =>
    intro vs i T h j o v ho hv he hw
    cases vs with
    | nil => simp at hv
    | cons v1 vs =>
      simp only [check2, Bool.and_eq_true, fyielded_eq] at h
      obtain ⟨h1, h2⟩ := h
      cases j with
      | zero =>
        simp only [List.getElem?_cons_zero, Option.some.injEq] at ho hv
        subst ho hv
        rw [at0_zero] at hw ⊢
        rw [he, hw] at h1
        exact h1
      | succ j =>
        rw [at0_succ] at hw ⊢
        rw [show i + (j + 1) = i + 1 + j by omega]
        exact ih h2 j o v (by simpa using ho) (by simpa using hv) he hw

theorem rowOK_spec {ops : Array Oper} {m : Nat} {o : Oper} {i : Nat} : ∀ {xs : List Oper} {j : Nat}, rowOK ops m o i j xs = true → ∀ (l : Nat) (x : Oper), xs[l]? = some x → j + l < i → Nat.testBit m (j + l) = true ∨ Oper.apart ops x o = true := by
  intro xs
  induction xs with
  | nil => intro j _ l x h; simp at h
  | cons x1 xs ih =>
    intro j h l x hx hl
    simp only [rowOK] at h
    have hji : Nat.blt j i = true := by rw [Nat.blt_eq]; omega
    rw [hji] at h
    simp only [Bool.and_eq_true, Bool.or_eq_true, tb_eq] at h
    cases l with
    | zero =>
      simp only [List.getElem?_cons_zero, Option.some.injEq] at hx
      subst hx
      exact h.1
    | succ l =>
      have := ih h.2 l x (by simpa using hx) (by omega)
      rwa [show j + 1 + l = j + (l + 1) by omega] at this
theorem rowsOK_spec {ops : Array Oper} {ks : List Nat} : ∀ {os : List Oper} {i : Nat}, rowsOK ops ks i os = true → ∀ (j : Nat) (o : Oper), os[j]? = some o →
    (∀ e ∈ o.after, Region.binds .any e = true → e.on < i + j) ∧ (∀ (l : Nat) (x : Oper), ops.toList[l]? = some x → l < i + j → bit ks (i + j) l = true ∨ Oper.apart ops x o = true) := by
  intro os
  induction os with
  | nil => intro i _ j o h; simp at h
  | cons o1 os ih =>
    intro i h j o ho
    simp only [rowsOK, Bool.and_eq_true] at h
    obtain ⟨h1, h2, h3⟩ := h
    cases j with
    | zero =>
      simp only [List.getElem?_cons_zero, Option.some.injEq] at ho
      subst ho
      refine ⟨fun e he hb => ?_, fun l x hx hl => ?_⟩
      · rw [List.all_eq_true] at h1
        have := h1 e (by simpa using he)
        simp only [hb, Bool.not_true, Bool.false_or, Nat.blt_eq] at this
        exact this
      · have := rowOK_spec h2 l x hx (by simpa using hl)
        simpa [bit] using this
    | succ j =>
      have := ih h3 j o (by simpa using ho)
      rwa [show i + 1 + j = i + (j + 1) by omega] at this
theorem chainOK_spec {ops : List Oper} {ks : List Nat} : ∀ {E pend : List Nat}, chainOK ops ks pend E = true → ∀ (l e : Nat), E[l]? = some e → flAt ops e = false → (∀ p ∈ pend, bit ks e p = true) ∧ ∀ (l' e' : Nat), l' < l → E[l']? = some e' → bit ks e e' = true := by
  intro E
  induction E with
  | nil => intro pend _ l e h; simp at h
  | cons e1 E ih =>
    intro pend h l e he hfl
    simp only [chainOK, Bool.and_eq_true] at h
    cases l with
    | zero =>
      simp only [List.getElem?_cons_zero, Option.some.injEq] at he
      subst he
      refine ⟨fun p hp => ?_, fun l' e' hl => absurd hl (Nat.not_lt_zero _)⟩
      have h1 := h.1
      rw [hfl] at h1
      simp only at h1
      rw [List.all_eq_true] at h1
      have := h1 p hp
      rwa [tb_eq] at this
    | succ l =>
      obtain ⟨g1, g2⟩ := ih h.2 l e (by simpa using he) hfl
      refine ⟨fun p hp => g1 p (List.mem_cons_of_mem _ hp), fun l' e' hl he' => ?_⟩
      cases l' with
      | zero =>
        simp only [List.getElem?_cons_zero, Option.some.injEq] at he'
        subst he'
        exact g1 _ (by simp)
      | succ l' => exact g2 l' e' (by omega) (by simpa using he')

end
end
end Go.Proofs.Ytmahbibgmdaeeac.Canon

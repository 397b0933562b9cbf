/- What the proof of this claim is made of. No condition. -/
import Derived.Test.YtdaljohmfnfgiaaCanonSa
namespace Go.Proofs.Ytdaljohmfnfgiaa.Canon
open Go Go.RowKit
noncomputable section
section
variable (P : Program) (Q : Oper → Bool)
def byteF (src dst : TypeId) : Bool := match P.underlying src with
  | some .string => match P.underlying dst with
    | some (.slice e) => match P.underlying e with
      | some (.int .u8) => true
      | _ => false
    | _ => false
  | _ => false
def zBD (o : Oper) : Bool := match o.op with
  | .alloc _ => true
  | .box .. => true
  | .buildSlice .. => true
  | .store .. => true
  | .makeMap .. => true
  | .makeSlice .. => true
  | .insert .. => true
  | .mapUpdate .. => true
  | .mapEntry .. => true
  | .entryStore .. => true
  | .range .. => true
  | .next .. => true
  | .convert src dst _ => byteF P src dst || Q o
  | .call c => match c.callee with
    | .builtin .len => false
    | .builtin .cap => false
    | .builtin .min => false
    | .builtin .max => false
    | _ => true
  | _ => false
def effs : Nat → List Oper → List Nat
  | _,[] => []
  | i,o :: os => match zBD P Q o with
    | true => i :: effs (i + 1) os
    | false => effs (i + 1) os
def tb (m n : Nat) : Bool := !(Nat.beq (Nat.land 1 (Nat.shiftRight m n)) 0)
theorem tb_eq (m n : Nat) : tb m n = Nat.testBit m n := by
  have h : ∀ x : Nat,Nat.beq x 0 = (x == 0) := fun x => by cases x <;> rfl
  unfold tb Nat.testBit
  rw [h]
  rfl
def rowOK (ops : Array Oper) (m : Nat) (o : Oper) (i : Nat) : Nat → List Oper → Bool
  | _,[] => true
  | j,x :: xs => match Nat.blt j i with
    | true => (tb m j || Oper.apart ops x o) && rowOK ops m o i (j + 1) xs
    | false => true
def rowsOK (ops : Array Oper) (ks : List Nat) : Nat → List Oper → Bool
  | _,[] => true
  | i,o :: os => o.after.toList.all (fun e => !Region.binds .any e || Nat.blt e.on i) && (rowOK ops ((nth ks i).getD 0) o i 0 ops.toList && rowsOK ops ks (i + 1) os)
def isFl (o : Oper) : Bool := match o.op with
  | .alloc _ => true
  | .box .. => true
  | .makeSlice .. => true
  | .buildSlice .. => true
  | .convert src dst _ => byteF P src dst
  | _ => false
def flAt (ops : List Oper) (e : Nat) : Bool := match nth ops e with
  | some o => isFl P o
  | none => false
def chainE (ks : List Nat) : Nat → List Oper → List Nat → List Nat
  | _,[],pd => pd
  | i,o :: os,pd => match zBD P Q o with
    | false => chainE ks (i + 1) os pd
    | true => match isFl P o with
      | true => chainE ks (i + 1) os (i :: pd)
      | false => pd.filter (fun x => tb ((nth ks i).getD 0) x) ++ (i :: chainE ks (i + 1) os (pd.filter (fun x => !tb ((nth ks i).getD 0) x)))
def zBL (ops : Array Oper) : List Nat := chainE P Q (zCR ops.toList) 0 ops.toList []
def chainOK (ops : List Oper) (ks : List Nat) : List Nat → List Nat → Bool
  | _,[] => true
  | pend,e :: l => (match flAt P ops e with
    | true => true
    | false => pend.all (tb ((nth ks e).getD 0))) && chainOK ops ks (e :: pend) l
def statOK (ops : Array Oper) : Bool := rowsOK ops (zCR ops.toList) 0 ops.toList && chainOK P ops.toList (zCR ops.toList) [] (zBL P Q ops)
inductive FK where
  | ptr
  | sl (n c : Nat)
  | bs (n : Nat)
  | no
def FK.val (k : FK) (b : Nat) : Value := match k with
  | .ptr => .pointer (some ⟨b,0,none⟩)
  | .sl n c => .slice (some ⟨b,0,none⟩) n c
  | .bs n => .slice (some ⟨b,0,none⟩) n n
  | .no => undef
def FK.isNo (k : FK) : Bool := match k with
  | .no => true
  | _ => false
def FK.gr (k : FK) : Bool := match k with
  | .bs _ => true
  | _ => false
def FK.esz (k : FK) : Nat := match k with
  | .bs _ => 1
  | _ => 0
structure FO where
  c : List Value
  t : TypeId
  k : FK
def zof (t : TypeId) (c : Nat) : Option (List Value) := match sof P t c,(elemT P t).bind P.info? with
  | .mk _ _ z,some i => match Nat.ble c 16777216,Nat.ble (i.bytes * c) 281474976710656 with
    | true,true => some z
    | _,_ => none
  | _,_ => none
def fobj (ρ : Operand → Value) (o : Oper) : Option FO := match o.op with
  | .alloc t => match zCG P t with
    | some z => some ⟨z.cells.toList,t,.ptr⟩
    | none => none
  | .box t x => match zAC x with
    | true => some ⟨(ρ x).cells.toList,t,.ptr⟩
    | false => none
  | .makeSlice t l c => match zAC l,zAC c,elemT P t with
    | true,true,some e => match xnum (ρ l),xnum (ρ c) with
      | some l,some c => match Nat.ble l c,zof P t c with
        | true,some z => some ⟨z,e,.sl l c⟩
        | _,_ => none
      | _,_ => none
    | _,_,_ => none
  | .buildSlice t n ps => match sof P t n,elemT P t,ps.toList.all (fun p => zAC p.2) with
    | .mk pl k z,some e,true => match fillR pl k ρ ps.toList z with
      | some r => some ⟨r,e,.sl n n⟩
      | none => none
    | _,_,_ => none
  | .convert src dst x => match byteF P src dst,zAC x with
    | true,true => match P.underlying dst,ρ x with
      | some (.slice e),.string s => match Nat.beq s.size 0 with
        | false => some ⟨byteCells s,e,.bs s.size⟩
        | true => none
      | _,_ => none
    | _,_ => none
  | _ => none
def noFO : FO := ⟨[],0,.no⟩
def fobW (b : Bool) (x : Option FO) : Option FO := match b with
  | true => x
  | false => some noFO
def place (n : Nat) (ob : FO) (A : AHeap) : Option (Value × AHeap) := match ob.k.isNo with
  | true => some (ob.k.val n,A)
  | false => match look A.objs n with
    | none => some (ob.k.val n,⟨A.next,zDU n ⟨.cells ⟨ob.c⟩ ob.t,ob.k.gr,ob.k.esz⟩ A.objs⟩)
    | some _ => none
theorem place_val {n : Nat} {ob : FO} {A A1 : AHeap} {v : Value} (h : place n ob A = some (v,A1)) : v = ob.k.val n := by
  unfold place at h
  split at h
  · cases h; rfl
  · split at h
    · cases h; rfl
    · cases h
def floRun (ρ : Operand → Value) (n : Nat) (o : Oper) (A : AHeap) : Option (Value × AHeap) := match fobj P ρ o with
  | some ob => place n ob A
  | none => none
abbrev Runs := FuncId → Array Value → AHeap → Option (Value × AHeap)
abbrev Rds := (Operand → Value) → Oper → AHeap → Option Value
def RdOK (Rd : Rds) : Prop := ∀ ρ o A v,Rd ρ o A = some v → zAE P ρ o A = some (v,A)
def opRun (C : Runs) (ρ : Operand → Value) (o : Oper) (A : AHeap) : Option (Value × AHeap) :=
  match o.op with
  | .call ⟨.value f,args,_⟩ => match zAC f,args.toList.all zAC with
    | true,true => match ρ f with
      | .func (.func g) first captured => match nth P.funcs.toList g with
        | some fn => match fn.body.isSome with
          | true => C g (first ++ args.map ρ ++ captured) A
          | false => none
        | none => none
      | _ => none
    | _,_ => none
  | _ => zAE P ρ o A
def opRunF (C : Runs) (ρ : Operand → Value) (n : Nat) (o : Oper) (A : AHeap) : Option (Value × AHeap) := match isFl P o with
  | true => floRun P ρ n o A
  | false => opRun P C ρ o A
def keyIn (m : Nat) (x : Nat × FO) : Bool := match x with
  | (i,_) => tb m i
theorem keyIn_eq (m : Nat) : keyIn m = fun x => tb m x.1 := by funext x; cases x; rfl
def zBU (nb : Nat) : List (Nat × FO) → AHeap → Option (List AHeap × AHeap)
  | [],A => some ([],A)
  | (i,ob) :: l,A => match place (nb + i) ob A with
    | some (_,A1) => match zBU nb l A1 with
      | some (ms,A2) => some (A :: ms,A2)
      | none => none
    | none => none
def pass1 (Rd : Rds) (C : Runs) (ops : Array Oper) (ks : List Nat) (nb : Nat) : Nat → List Oper → Array Value → List (Nat × FO) → AHeap → Option (List Value × List AHeap × Array Value)
  | _,[],T,pd,A => match zBU nb pd A with
    | some (ms,A1) => some ([],ms ++ [A1],T)
    | none => none
  | i,o :: os,T,pd,A => match zBD P Q o with
    | false => match Region.wanted o (fyielded ops T) with
      | false => match pass1 Rd C ops ks nb (i + 1) os (fput T o.dst undef) pd A with
        | some (vs,ms,T1) => some (undef :: vs,ms,T1)
        | none => none
      | true => match Rd (feval T) o A with
        | some v => match pass1 Rd C ops ks nb (i + 1) os (fput T o.dst v) pd A with
          | some (vs,ms,T1) => some (v :: vs,ms,T1)
          | none => none
        | none => none
    | true => match isFl P o with
      | true => match fobW (Region.wanted o (fyielded ops T)) (fobj P (feval T) o) with
        | some ob => match pass1 Rd C ops ks nb (i + 1) os (fput T o.dst (ob.k.val (nb + i))) ((i,ob) :: pd) A with
          | some (vs,ms,T1) => some (ob.k.val (nb + i) :: vs,ms,T1)
          | none => none
        | none => none
      | false => match zBU nb (pd.filter (keyIn ((nth ks i).getD 0))) A with
        | some (ms0,A0) => match Region.wanted o (fyielded ops T) with
          | false => match pass1 Rd C ops ks nb (i + 1) os (fput T o.dst undef) (pd.filter (fun x => !keyIn ((nth ks i).getD 0) x)) A0 with
            | some (vs,ms,T1) => some (undef :: vs,ms0 ++ (A0 :: ms),T1)
            | none => none
          | true => match opRun P C (feval T) o A0 with
            | some (v,A1) => match pass1 Rd C ops ks nb (i + 1) os (fput T o.dst v) (pd.filter (fun x => !keyIn ((nth ks i).getD 0) x)) A1 with
              | some (vs,ms,T1) => some (v :: vs,ms0 ++ (A0 :: ms),T1)
              | none => none
            | none => none
        | none => none
def lookAll (fl : Nat → Bool) (f : AHeap → Bool) (m i : Nat) (ks : List Nat) : List Nat → List AHeap → Bool
  | _,[] => true
  | E,A :: As => (match E.any (fun e => tb m e && !fl e) with
    | true => true
    | false => f A) && (match E with
    | [] => true
    | e :: E => match tb ((nth ks e).getD 0) i with
      | true => true
      | false => lookAll fl f m i ks E As)
def beqs : List UInt8 → List UInt8 → Bool
  | [],[] => true
  | a :: l,b :: m => match Nat.beq a.toNat b.toNat with
    | true => beqs l m
    | false => false
  | _,_ => false
theorem beqs_eq : ∀ {l m : List UInt8},beqs l m = true → l = m := by
  intro l
  induction l with
  | nil => intro m h; cases m with | nil => rfl | cons => simp [beqs] at h
  | cons a l ih =>
    intro m h
    cases m with
    | nil => simp [beqs] at h
    | cons b m =>
      simp only [beqs] at h
      split at h
      · rename_i hab; rw [ih h,UInt8.toNat_inj.1 (Nat.eq_of_beq_eq_true hab)]
      · cases h
def veqs (f : Value → Value → Bool) : List Value → List Value → Bool
  | [],[] => true
  | a :: l,b :: m => match f a b with
    | true => veqs f l m
    | false => false
  | _,_ => false
theorem veqs_eq {f : Value → Value → Bool} (hf : ∀ a b,f a b = true → a = b) : ∀ {l m : List Value},veqs f l m = true → l = m := by
  intro l
  induction l with
  | nil => intro m h; cases m with | nil => rfl | cons => simp [veqs] at h
  | cons a l ih =>
    intro m h
    cases m with
    | nil => simp [veqs] at h
    | cons b m =>
      simp only [veqs] at h
      split at h
      · rename_i hab; rw [ih h,hf _ _ hab]
      · cases h
def veq : Nat → Value → Value → Bool
  | 0,_,_ => false
  | n + 1,v,u => match v,u with
    | .bool true,.bool true => true
    | .bool false,.bool false => true
    | .int k (.ofNat a),.int k' (.ofNat b) => Nat.beq a b && decide (k = k')
    | .int k (.negSucc a),.int k' (.negSucc b) => Nat.beq a b && decide (k = k')
    | .string ⟨⟨s⟩⟩,.string ⟨⟨t⟩⟩ => beqs s t
    | .pointer none,.pointer none => true
    | .pointer (some ⟨b,o,none⟩),.pointer (some ⟨b',o',none⟩) => Nat.beq b b' && Nat.beq o o'
    | .slice none n c,.slice none n' c' => Nat.beq n n' && Nat.beq c c'
    | .slice (some ⟨b,o,none⟩) n c,.slice (some ⟨b',o',none⟩) n' c' => (Nat.beq b b' && Nat.beq o o') && (Nat.beq n n' && Nat.beq c c')
    | .slice (some ⟨b,o,some s⟩) n c,.slice (some ⟨b',o',some s'⟩) n' c' => (Nat.beq b b' && (Nat.beq o o' && Nat.beq s s')) && (Nat.beq n n' && Nat.beq c c')
    | .map none,.map none => true
    | .map (some b),.map (some b') => Nat.beq b b'
    | .nilFunc,.nilFunc => true
    | .nilIface,.nilIface => true
    | .func (.func f) ⟨xs⟩ ⟨ys⟩,.func (.func f') ⟨xs'⟩ ⟨ys'⟩ => Nat.beq f f' && (veqs (veq n) xs xs' && veqs (veq n) ys ys')
    | .agg ⟨xs⟩,.agg ⟨ys⟩ => veqs (veq n) xs ys
    | .tuple ⟨xs⟩,.tuple ⟨ys⟩ => veqs (veq n) xs ys
    | _,_ => false
theorem veq_eq : ∀ (n : Nat) (v u : Value),veq n v u = true → v = u := by
  intro n
  induction n with
  | zero => intro v u h; cases h
  | succ n ih =>
    intro v u h
    unfold veq at h
    have bq : ∀ {a b : Nat},Nat.beq a b = true → a = b := fun h => Nat.eq_of_beq_eq_true h
    split at h <;> (try (cases h; done)) <;> (try rfl)
    all_goals
      try simp only [Bool.and_eq_true,decide_eq_true_eq] at h
    · rw [bq h.1,h.2]
    · rw [bq h.1,h.2]
    · rw [beqs_eq h]
    · rw [bq h.1,bq h.2]
    · rw [bq h.1,bq h.2]
    · rw [bq h.1.1,bq h.1.2,bq h.2.1,bq h.2.2]
    · rw [bq h.1.1,bq h.1.2.1,bq h.1.2.2,bq h.2.1,bq h.2.2]
    · rw [bq h]
    · rw [bq h.1,veqs_eq ih h.2.1,veqs_eq ih h.2.2]
    · rw [veqs_eq ih h]
    · rw [veqs_eq ih h]
def check2 (Rd : Rds) (ops : Array Oper) (ks E : List Nat) (ms : List AHeap) : List Oper → List Value → Nat → Array Value → Bool
  | o :: os,v :: vs,i,T => (match zBD P Q o,Region.wanted o (fyielded ops T) with
    | false,true => lookAll (flAt P ops.toList) (fun A => match Rd (feval T) o A with | some u => veq 5 u v | none => false) ((nth ks i).getD 0) i ks E ms
    | _,_ => true) && check2 Rd ops ks E ms os vs (i + 1) (fput T o.dst v)
  | _,_,_,_ => true
def cvE (P : Program) (ops : Array Oper) (o : Oper) : Bool := match o.op with
  | .convert src dst x => match P.underlying dst with
    | some (.int _) => false
    | some .string => match P.underlying src with
      | some (.slice _) => match x with
        | .tmp t => ops.toList.any fun p => isFl P p && (p.dst == some t)
        | _ => false
      | _ => false
    | _ => true
  | _ => true
def region (Rd : Rds) (C : Runs) (ops : Array Oper) (T : Array Value) (A : AHeap) : Option (Array Value × AHeap) :=
  match statOK P (cvE P ops) ops with
  | false => none
  | true => match pass1 P (cvE P ops) Rd C ops (zCR ops.toList) A.next 0 ops.toList T [] ⟨A.next + ops.size,A.objs⟩ with
    | none => none
    | some (vs,ms,T1) => match check2 P (cvE P ops) Rd ops (zCR ops.toList) (zBL P (cvE P ops) ops) ms ops.toList vs 0 T with
      | false => none
      | true => match nth ms (zBL P (cvE P ops) ops).length with
        | some A1 => some (T1,A1)
        | none => none
def at0 (i j : Nat) (os : List Oper) (vs : List Value) (T : Array Value) : Array Value := puts (fun x => decide (x < i + j)) i os vs T
theorem at0_zero (i : Nat) (os : List Oper) (vs : List Value) (T : Array Value) : at0 i 0 os vs T = T := by
  have : ∀ (os : List Oper) (vs : List Value) (l : Nat) (T : Array Value),i ≤ l → puts (fun x => decide (x < i + 0)) l os vs T = T := by
    intro os
    induction os with
    | nil => intro vs l T _; cases vs <;> rfl
    | cons o os ih =>
      intro vs l T hl
      cases vs with
      | nil => rfl
      | cons v vs =>
        simp only [puts]
        have : decide (l < i + 0) = false := by simp; omega
        rw [this]
        exact ih vs (l + 1) T (by omega)
  exact this os vs i T (Nat.le_refl _)
theorem at0_succ (i j : Nat) (o : Oper) (os : List Oper) (v : Value) (vs : List Value) (T : Array Value) : at0 i (j + 1) (o :: os) (v :: vs) T = at0 (i + 1) j os vs (fput T o.dst v) := by
  unfold at0
  simp only [puts]
  have : decide (i < i + (j + 1)) = true := by simp
  rw [this]
  simp only [show i + (j + 1) = i + 1 + j by omega]
variable {P Q}
theorem effs_mem : ∀ {os : List Oper} {i e : Nat},e ∈ effs P Q i os → ∃ j o,e = i + j ∧ os[j]? = some o ∧ zBD P Q o = true := by
  intro os
  induction os with
  | nil => intro i e h; simp [effs] at h
  | cons o os ih =>
    intro i e h
    simp only [effs] at h
    have next : e ∈ effs P Q (i + 1) os → ∃ j o',e = i + j ∧ (o :: os)[j]? = some o' ∧ zBD P Q o' = true := fun h => by
      obtain ⟨j,o',h1,h2,h3⟩ := ih h
      exact ⟨j + 1,o',by omega,by simpa using h2,h3⟩
    split at h
    · rename_i he
      rcases List.mem_cons.1 h with rfl | h
      · exact ⟨0,o,rfl,rfl,he⟩
      · exact next h
    · exact next h
theorem mem_effs : ∀ {os : List Oper} {i j : Nat} {o : Oper},os[j]? = some o → zBD P Q o = true → i + j ∈ effs P Q i os := by
  intro os
  induction os with
  | nil => intro i j o h; simp at h
  | cons o1 os ih =>
    intro i j o h he
    simp only [effs]
    cases j with
    | zero =>
      simp only [List.getElem?_cons_zero,zOi] at h
      subst h
      rw [he]
      simp
    | succ j =>
      have := ih (i := i + 1) (by simpa using h) he
      rw [show i + 1 + j = i + (j + 1) by omega] at this
      split
      · exact List.mem_cons_of_mem _ this
      · exact this
theorem chainE_perm {ks : List Nat} : ∀ {os : List Oper} {i : Nat} {pd : List Nat},(chainE P Q ks i os pd).Perm (pd ++ effs P Q i os) := by
  intro os
  induction os with
  | nil => intro i pd; simp [chainE,effs]
  | cons o os ih =>
    intro i pd
    simp only [chainE,effs]
    cases he : zBD P Q o with
    | false => exact ih
    | true =>
      simp only
      cases hf : isFl P o with
      | true => exact ih.trans List.perm_middle.symm
      | false =>
        simp only
        refine (List.Perm.append_left _ (List.Perm.cons i ih)).trans ?_
        refine List.perm_middle.trans ((List.Perm.cons i ?_).trans List.perm_middle.symm)
        rw [← List.append_assoc]
        exact List.Perm.append_right _ (List.filter_append_perm _ _)
theorem chain_perm (ops : Array Oper) : (zBL P Q ops).Perm (effs P Q 0 ops.toList) := chainE_perm
theorem chain_mem {ops : Array Oper} {e : Nat} (h : e ∈ zBL P Q ops) : ∃ j o,e = 0 + j ∧ ops.toList[j]? = some o ∧ zBD P Q o = true := effs_mem ((chain_perm ops).mem_iff.1 h)
theorem mem_chain {ops : Array Oper} {j : Nat} {o : Oper} (ho : ops.toList[j]? = some o) (he : zBD P Q o = true) : j ∈ zBL P Q ops := (chain_perm ops).mem_iff.2 (by simpa using mem_effs (i := 0) ho he)
theorem effs_nodup : ∀ {os : List Oper} {i : Nat},(effs P Q i os).Nodup ∧ ∀ e ∈ effs P Q i os,i ≤ e := by
  intro os
  induction os with
  | nil => intro i; simp [effs]
  | cons o os ih =>
    intro i
    obtain ⟨h1,h2⟩ := @ih (i + 1)
    simp only [effs]
    split
    · refine ⟨List.nodup_cons.2 ⟨fun h => ?_,h1⟩,fun e he => ?_⟩
      · have := h2 _ h; omega
      · rcases List.mem_cons.1 he with rfl | h
        · exact Nat.le_refl _
        · have := h2 _ h; omega
    · exact ⟨h1,fun e he => by have := h2 _ he; omega⟩
theorem chain_inj {ops : Array Oper} {l l' e : Nat} (h : (zBL P Q ops)[l]? = some e) (h' : (zBL P Q ops)[l']? = some e) : l = l' := by
  have hn : (zBL P Q ops).Nodup := (chain_perm ops).nodup_iff.2 effs_nodup.1
  obtain ⟨h1,h2⟩ := List.getElem?_eq_some_iff.1 h
  obtain ⟨h3,h4⟩ := List.getElem?_eq_some_iff.1 h'
  have key := List.pairwise_iff_getElem.1 hn
  rcases Nat.lt_trichotomy l l' with g | g | g
  · exact absurd (h2.trans h4.symm) (key l l' h1 h3 g)
  · exact g
  · exact absurd (h4.trans h2.symm) (key l' l h3 h1 g)
inductive Trail (S : Nat → AHeap → AHeap → Prop) : List Nat → List AHeap → Prop where
  | nil (A : AHeap) : Trail S [] [A]
  | cons {e : Nat} {A A1 : AHeap} {E : List Nat} {ms : List AHeap} : S e A A1 → Trail S E (A1 :: ms) → Trail S (e :: E) (A :: A1 :: ms)
theorem Trail.mono {S S' : Nat → AHeap → AHeap → Prop} {E : List Nat} {ms : List AHeap} (h : Trail S E ms) (hS : ∀ e A A1,S e A A1 → S' e A A1) : Trail S' E ms := by
  induction h with
  | nil A => exact .nil A
  | cons s _ ih => exact .cons (hS _ _ _ s) ih
theorem Trail.append {S : Nat → AHeap → AHeap → Prop} {E1 E2 : List Nat} {ms1 ms : List AHeap} (h : Trail S E1 ms) : ∀ {A : AHeap} {ms2 : List AHeap},ms = ms1 ++ [A] → Trail S E2 (A :: ms2) → Trail S (E1 ++ E2) (ms1 ++ (A :: ms2)) := by
  induction h generalizing ms1 with
  | nil B =>
    intro A ms2 e h2
    cases ms1 with
    | nil => cases e; exact h2
    | cons x xs => simp at e
  | cons s t ih =>
    intro A ms2 e h2
    cases ms1 with
    | nil => simp at e
    | cons x xs =>
      simp only [List.cons_append,List.cons.injEq] at e
      obtain ⟨rfl,e⟩ := e
      have := ih e h2
      cases xs with
      | nil =>
        simp only [List.nil_append,List.cons.injEq] at e this ⊢
        obtain ⟨rfl,rfl⟩ := e
        exact .cons s this
      | cons y ys =>
        simp only [List.cons_append,List.cons.injEq] at e this ⊢
        obtain ⟨rfl,rfl⟩ := e
        exact .cons s this
theorem Trail.spec {S : Nat → AHeap → AHeap → Prop} {E : List Nat} {ms : List AHeap} (h : Trail S E ms) : ms.length = E.length + 1 ∧ ∀ k e,E[k]? = some e → ∃ A A1,ms[k]? = some A ∧ ms[k + 1]? = some A1 ∧ S e A A1 := by
  induction h with
  | nil A => exact ⟨rfl,fun k e h => by simp at h⟩
  | cons s _ ih =>
    refine ⟨by simp [ih.1],fun k e h => ?_⟩
    cases k with
    | zero =>
      simp only [List.getElem?_cons_zero,zOi] at h
      subst h
      exact ⟨_,_,rfl,rfl,s⟩
    | succ k =>
      obtain ⟨A,A1,h1,h2,h3⟩ := ih.2 k e (by simpa using h)
      exact ⟨A,A1,by simpa using h1,by simpa using h2,h3⟩
theorem placeAll_trail {nb : Nat} : ∀ {l : List (Nat × FO)} {A A0 : AHeap} {ms : List AHeap},zBU nb l A = some (ms,A0) → (∃ ms',ms ++ [A0] = A :: ms') ∧ Trail (fun e B B1 => ∃ ob v,(e,ob) ∈ l ∧ place (nb + e) ob B = some (v,B1)) (l.map (·.1)) (ms ++ [A0]) := by
  intro l
  induction l with
  | nil => intro A A0 ms h; cases h; exact ⟨⟨[],rfl⟩,.nil _⟩
  | cons x l ih =>
    intro A A0 ms h
    simp only [zBU] at h
    split at h
    · rename_i v A1 hp
      split at h
      · rename_i ms1 A2 h1
        cases h
        obtain ⟨⟨ms',e⟩,t⟩ := ih h1
        refine ⟨⟨_,rfl⟩,?_⟩
        rw [e] at t
        simp only [List.cons_append,List.map_cons]
        rw [e]
        exact .cons ⟨x.2,v,by simp,hp⟩ (t.mono fun e B B1 ⟨ob,v,h1,h2⟩ => ⟨ob,v,List.mem_cons_of_mem _ h1,h2⟩)
      · cases h
    · cases h
def Did (P : Program) (C : Runs) (ops : Array Oper) (nb i : Nat) (os : List Oper) (T : Array Value) (pd : List (Nat × FO)) (vs : List Value) (e : Nat) (A A1 : AHeap) : Prop :=
  (∃ ob v,(e,ob) ∈ pd ∧ place (nb + e) ob A = some (v,A1)) ∨ ∃ j o v,e = i + j ∧ os[j]? = some o ∧ vs[j]? = some v ∧
    ((Region.wanted o (yielded ops (at0 i j os vs T)) = false ∧ A1 = A) ∨ (Region.wanted o (yielded ops (at0 i j os vs T)) = true ∧ opRunF P C (feval (at0 i j os vs T)) (nb + e) o A = some (v,A1)))
theorem Did.next {P : Program} {C : Runs} {ops : Array Oper} {nb i : Nat} {o : Oper} {os : List Oper} {T : Array Value} {pd pd' : List (Nat × FO)} {v : Value} {vs : List Value} {e : Nat} {A A1 : AHeap} (h : Did P C ops nb (i + 1) os (fput T o.dst v) pd' vs e A A1) (hp : ∀ x ∈ pd',x ∈ pd ∨ ((∃ ob,x = (i,ob)) ∧ ∀ A A1 w,place (nb + x.1) x.2 A = some (w,A1) → Did P C ops nb i (o :: os) T pd (v :: vs) x.1 A A1)) :
    Did P C ops nb i (o :: os) T pd (v :: vs) e A A1 := by
  rcases h with ⟨ob,w,h1,h2⟩ | ⟨j,o',v',h1,h2,h3,h4⟩
  · rcases hp _ h1 with h | ⟨_,h⟩
    · exact .inl ⟨ob,w,h,h2⟩
    · exact h _ _ _ h2
  · exact .inr ⟨j + 1,o',v',by omega,by simpa using h2,by simpa using h3,by rw [at0_succ]; exact h4⟩
variable (P Q)
structure Ran0 (C : Runs) (ops : Array Oper) (ks : List Nat) (nb i : Nat) (os : List Oper) (T : Array Value) (pd : List (Nat × FO)) (A : AHeap) (vs : List Value) (ms : List AHeap) (T1 : Array Value) : Prop where
  len : vs.length = os.length
  fin : T1 = puts (fun _ => true) i os vs T
  first : ∃ ms',ms = A :: ms'
  skip : ∀ (j : Nat) (o : Oper),os[j]? = some o → Region.wanted o (yielded ops (at0 i j os vs T)) = false → vs[j]? = some undef
  trail : Trail (Did P C ops nb i os T pd vs) (chainE P Q ks i os (pd.map (·.1))) ms
structure Ran (C : Runs) (ops : Array Oper) (nb : Nat) (T : Array Value) (A : AHeap) (vs : List Value) (ms : List AHeap) (T1 : Array Value) : Prop where
  len : vs.length = ops.toList.length
  fin : T1 = puts (fun _ => true) 0 ops.toList vs T
  first : ms[0]? = some A
  skip : ∀ (j : Nat) (o : Oper),ops.toList[j]? = some o → Region.wanted o (yielded ops (at0 0 j ops.toList vs T)) = false → vs[j]? = some undef
  eff : ∀ (k e : Nat),(zBL P Q ops)[k]? = some e → ∃ j o v A A1,e = 0 + j ∧ ops.toList[j]? = some o ∧ vs[j]? = some v ∧ ms[k]? = some A ∧ ms[k + 1]? = some A1 ∧
    ((Region.wanted o (yielded ops (at0 0 j ops.toList vs T)) = false ∧ A1 = A) ∨ (Region.wanted o (yielded ops (at0 0 j ops.toList vs T)) = true ∧ opRunF P C (feval (at0 0 j ops.toList vs T)) (nb + e) o A = some (v,A1)))
variable {P Q}
theorem skip_cons {ops : Array Oper} {i : Nat} {o : Oper} {os : List Oper} {T : Array Value} {v : Value} {vs : List Value} (hw : Region.wanted o (yielded ops T) = false → v = undef)
    (h : ∀ (j : Nat) (o' : Oper),os[j]? = some o' → Region.wanted o' (yielded ops (at0 (i + 1) j os vs (fput T o.dst v))) = false → vs[j]? = some undef) :
    ∀ (j : Nat) (o' : Oper),(o :: os)[j]? = some o' → Region.wanted o' (yielded ops (at0 i j (o :: os) (v :: vs) T)) = false → (v :: vs)[j]? = some undef := fun j o' ho hj => by
  cases j with
  | zero =>
    simp only [List.getElem?_cons_zero,zOi] at ho
    subst ho
    rw [at0_zero] at hj
    simp [hw hj]
  | succ j => rw [at0_succ] at hj; simpa using h j o' (by simpa using ho) hj
theorem Ran0.more {C : Runs} {ops : Array Oper} {ks : List Nat} {nb i : Nat} {o : Oper} {os : List Oper} {T : Array Value} {pd : List (Nat × FO)} {A : AHeap} {v : Value} {vs : List Value} {ms : List AHeap} {T1 : Array Value} (he : zBD P Q o = false)
    (hw : Region.wanted o (yielded ops T) = false → v = undef) (h : Ran0 P Q C ops ks nb (i + 1) os (fput T o.dst v) pd A vs ms T1) : Ran0 P Q C ops ks nb i (o :: os) T pd A (v :: vs) ms T1 where
  len := by simp [h.len]
  fin := h.fin
  first := h.first
  skip := skip_cons hw h.skip
  trail := by
    simp only [chainE,he]
    exact h.trail.mono fun e A A1 hd => hd.next fun x hx => .inl hx
theorem Ran0.float {C : Runs} {ops : Array Oper} {ks : List Nat} {nb i : Nat} {o : Oper} {os : List Oper} {T : Array Value} {pd : List (Nat × FO)} {A : AHeap} {ob : FO} {vs : List Value} {ms : List AHeap} {T1 : Array Value} (he : zBD P Q o = true) (hf : isFl P o = true)
    (hob : fobW (Region.wanted o (yielded ops T)) (fobj P (feval T) o) = some ob) (h : Ran0 P Q C ops ks nb (i + 1) os (fput T o.dst (ob.k.val (nb + i))) ((i,ob) :: pd) A vs ms T1) : Ran0 P Q C ops ks nb i (o :: os) T pd A (ob.k.val (nb + i) :: vs) ms T1 where
  len := by simp [h.len]
  fin := h.fin
  first := h.first
  skip := skip_cons (fun hw => by rw [hw] at hob; cases hob; rfl) h.skip
  trail := by
    simp only [chainE,he,hf]
    refine h.trail.mono fun e A A1 hd => hd.next fun x hx => ?_
    rcases List.mem_cons.1 hx with rfl | hx
    · refine .inr ⟨⟨ob,rfl⟩,fun A A1 w hp => .inr ⟨0,o,_,rfl,rfl,rfl,?_⟩⟩
      rw [at0_zero]
      cases hw : Region.wanted o (yielded ops T) with
      | false =>
        rw [hw] at hob
        cases hob
        cases hp
        exact .inl ⟨rfl,rfl⟩
      | true =>
        rw [hw] at hob
        refine .inr ⟨rfl,?_⟩
        unfold opRunF
        rw [hf]
        have hob : fobj P (feval T) o = some ob := hob
        simp only [floRun,hob]
        rw [← place_val hp]
        exact hp
    · exact .inl hx
theorem Ran0.effect {C : Runs} {ops : Array Oper} {ks : List Nat} {nb i : Nat} {o : Oper} {os : List Oper} {T : Array Value} {pd : List (Nat × FO)} {A A0 A' : AHeap} {v : Value} {vs : List Value} {ms0 ms : List AHeap} {T1 : Array Value} (he : zBD P Q o = true) (hf : isFl P o = false)
    (hpl : zBU nb (pd.filter (keyIn ((nth ks i).getD 0))) A = some (ms0,A0))
    (hw : (Region.wanted o (yielded ops T) = false ∧ v = undef ∧ A' = A0) ∨ (Region.wanted o (yielded ops T) = true ∧ opRun P C (feval T) o A0 = some (v,A')))
    (h : Ran0 P Q C ops ks nb (i + 1) os (fput T o.dst v) (pd.filter (fun x => !keyIn ((nth ks i).getD 0) x)) A' vs ms T1) : Ran0 P Q C ops ks nb i (o :: os) T pd A (v :: vs) (ms0 ++ (A0 :: ms)) T1 where
  len := by simp [h.len]
  fin := h.fin
  first := by
    obtain ⟨⟨ms',e⟩,_⟩ := placeAll_trail hpl
    refine ⟨ms' ++ ms,?_⟩
    rw [← List.cons_append,← e]
    simp
  skip := skip_cons (fun hj => by
    rcases hw with ⟨_,hv,_⟩ | ⟨hw,_⟩
    · exact hv
    · rw [hw] at hj; cases hj) h.skip
  trail := by
    simp only [chainE,he,hf]
    obtain ⟨_,t⟩ := placeAll_trail hpl
    obtain ⟨ms',rfl⟩ := h.first
    have ht := h.trail
    rw [keyIn_eq] at t ht
    rw [List.filter_map,List.filter_map]
    refine Trail.append (t.mono ?_) rfl (.cons ?_ (ht.mono ?_))
    · rintro e B B1 ⟨ob,w,h1,h2⟩
      exact .inl ⟨ob,w,(List.mem_filter.1 h1).1,h2⟩
    · refine .inr ⟨0,o,v,rfl,rfl,rfl,?_⟩
      rw [at0_zero]
      unfold opRunF
      rw [hf]
      rcases hw with ⟨h1,_,h2⟩ | h
      · exact .inl ⟨h1,h2⟩
      · exact .inr h
    · exact fun e B B1 hd => hd.next fun x hx => .inl (List.mem_filter.1 hx).1
theorem pass1_ran0 {Rd : Rds} {C : Runs} {ops : Array Oper} {ks : List Nat} {nb : Nat} : ∀ {os : List Oper} {i : Nat} {T : Array Value} {pd : List (Nat × FO)} {A : AHeap} {vs : List Value} {ms : List AHeap} {T1 : Array Value},pass1 P Q Rd C ops ks nb i os T pd A = some (vs,ms,T1) → Ran0 P Q C ops ks nb i os T pd A vs ms T1 := by
  intro os
  induction os with
  | nil =>
    intro i T pd A vs ms T1 h
    simp only [pass1] at h
    split at h
    · rename_i ms0 A1 hp
      cases h
      obtain ⟨⟨ms',e⟩,t⟩ := placeAll_trail hp
      exact ⟨rfl,rfl,⟨ms',e⟩,fun j o ho => by simp at ho,t.mono fun e A A1 h => .inl h⟩
    · cases h
  | cons o os ih =>
    intro i T pd A vs ms T1 h
    simp only [pass1,fyielded_eq] at h
    split at h
    · rename_i he
      split at h
      · rename_i hw
        split at h
        · rename_i r; cases h; exact .more he (fun _ => rfl) (ih r)
        · cases h
      · rename_i hw
        split at h
        · rename_i v hr
          split at h
          · rename_i r; cases h; exact .more he (fun h => by rw [hw] at h; cases h) (ih r)
          · cases h
        · cases h
    · rename_i he
      split at h
      · rename_i hf
        split at h
        · rename_i ob hob
          split at h
          · rename_i r; cases h; exact .float he hf hob (ih r)
          · cases h
        · cases h
      · rename_i hf
        split at h
        · rename_i ms0 A0 hp
          split at h
          · rename_i hw
            split at h
            · rename_i r; cases h; exact .effect he hf hp (.inl ⟨hw,rfl,rfl⟩) (ih r)
            · cases h
          · rename_i hw
            split at h
            · rename_i v A1 hr
              split at h
              · rename_i r; cases h; exact .effect he hf hp (.inr ⟨hw,hr⟩) (ih r)
              · cases h
            · cases h
        · cases h
theorem pass1_ran {Rd : Rds} {C : Runs} {ops : Array Oper} {nb : Nat} {T : Array Value} {A : AHeap} {vs : List Value} {ms : List AHeap} {T1 : Array Value} (h : pass1 P Q Rd C ops (zCR ops.toList) nb 0 ops.toList T [] A = some (vs,ms,T1)) : Ran P Q C ops nb T A vs ms T1 := by
  have r := pass1_ran0 h
  obtain ⟨ms',hms⟩ := r.first
  refine ⟨r.len,r.fin,by rw [hms]; rfl,r.skip,fun k e hk => ?_⟩
  obtain ⟨A,A1,h1,h2,h3⟩ := r.trail.spec.2 k e hk
  rcases h3 with ⟨ob,v,h,_⟩ | ⟨j,o,v,q1,q2,q3,q4⟩
  · cases h
  · exact ⟨j,o,v,A,A1,q1,q2,q3,h1,h2,q4⟩
theorem lookAll_spec {fl : Nat → Bool} {f : AHeap → Bool} {m i : Nat} {ks : List Nat} : ∀ {E : List Nat} {As : List AHeap},lookAll fl f m i ks E As = true → ∀ (k : Nat) (A : AHeap),As[k]? = some A → k ≤ E.length →
    (∀ (l e : Nat),k ≤ l → E[l]? = some e → fl e = false → Nat.testBit m e = false) → (∀ (l e : Nat),l < k → E[l]? = some e → bit ks e i = false) → f A = true := by
  intro E As
  induction As generalizing E with
  | nil => intro _ k A h; simp at h
  | cons A0 As ih =>
    intro h k A hA hk h1 h2
    unfold lookAll at h
    simp only [Bool.and_eq_true] at h
    obtain ⟨ha,hb⟩ := h
    cases k with
    | zero =>
      simp only [List.getElem?_cons_zero,zOi] at hA
      subst hA
      split at ha
      · rename_i hany
        rw [List.any_eq_true] at hany
        obtain ⟨e,he,hbit⟩ := hany
        obtain ⟨l,hl⟩ := List.mem_iff_getElem?.1 he
        simp only [Bool.and_eq_true,Bool.not_eq_true'] at hbit
        obtain ⟨hbit,hfl⟩ := hbit
        rw [tb_eq,h1 l e (Nat.zero_le _) hl hfl] at hbit
        cases hbit
      · exact ha
    | succ k =>
      cases E with
      | nil => simp at hk
      | cons e E =>
        have hbe := h2 0 e (by omega) rfl
        unfold bit at hbe
        replace hb : (match tb ((nth ks e).getD 0) i with | true => true | false => lookAll fl f m i ks E As) = true := hb
        rw [tb_eq,hbe] at hb
        exact ih hb k A (by simpa using hA) (by simpa using hk) (fun l e' hl he' => h1 (l + 1) e' (by omega) (by simpa using he')) (fun l e' hl he' => h2 (l + 1) e' (by omega) (by simpa using he'))
theorem check2_spec {Rd : Rds} {ops : Array Oper} {ks E : List Nat} {ms : List AHeap} : ∀ {os : List Oper} {vs : List Value} {i : Nat} {T : Array Value},check2 P Q Rd ops ks E ms os vs i T = true →
    ∀ (j : Nat) (o : Oper) (v : Value),os[j]? = some o → vs[j]? = some v → zBD P Q o = false → Region.wanted o (yielded ops (at0 i j os vs T)) = true →
    lookAll (flAt P ops.toList) (fun A => match Rd (feval (at0 i j os vs T)) o A with | some u => veq 5 u v | none => false) ((nth ks (i + j)).getD 0) (i + j) ks E ms = true := by
  intro os
  induction os with
  | nil => intro vs i T _ j o v h; simp at h
  | cons o1 os ih =>
    intro vs i T h j o v ho hv he hw
    cases vs with
    | nil => simp at hv
    | cons v1 vs =>
      simp only [check2,Bool.and_eq_true,fyielded_eq] at h
      obtain ⟨h1,h2⟩ := h
      cases j with
      | zero =>
        simp only [List.getElem?_cons_zero,zOi] at ho hv
        subst ho hv
        rw [at0_zero] at hw ⊢
        rw [he,hw] at h1
        exact h1
      | succ j =>
        rw [at0_succ] at hw ⊢
        rw [show i + (j + 1) = i + 1 + j by omega]
        exact ih h2 j o v (by simpa using ho) (by simpa using hv) he hw
theorem rowOK_spec {ops : Array Oper} {m : Nat} {o : Oper} {i : Nat} : ∀ {xs : List Oper} {j : Nat},rowOK ops m o i j xs = true → ∀ (l : Nat) (x : Oper),xs[l]? = some x → j + l < i → Nat.testBit m (j + l) = true ∨ Oper.apart ops x o = true := by
  intro xs
  induction xs with
  | nil => intro j _ l x h; simp at h
  | cons x1 xs ih =>
    intro j h l x hx hl
    simp only [rowOK] at h
    have hji : Nat.blt j i = true := by rw [Nat.blt_eq]; omega
    rw [hji] at h
    simp only [Bool.and_eq_true,Bool.or_eq_true,tb_eq] at h
    cases l with
    | zero =>
      simp only [List.getElem?_cons_zero,zOi] at hx
      subst hx
      exact h.1
    | succ l =>
      have := ih h.2 l x (by simpa using hx) (by omega)
      rwa [show j + 1 + l = j + (l + 1) by omega] at this
theorem rowsOK_spec {ops : Array Oper} {ks : List Nat} : ∀ {os : List Oper} {i : Nat},rowsOK ops ks i os = true → ∀ (j : Nat) (o : Oper),os[j]? = some o →
    (∀ e ∈ o.after,Region.binds .any e = true → e.on < i + j) ∧ (∀ (l : Nat) (x : Oper),ops.toList[l]? = some x → l < i + j → bit ks (i + j) l = true ∨ Oper.apart ops x o = true) := by
  intro os
  induction os with
  | nil => intro i _ j o h; simp at h
  | cons o1 os ih =>
    intro i h j o ho
    simp only [rowsOK,Bool.and_eq_true] at h
    obtain ⟨h1,h2,h3⟩ := h
    cases j with
    | zero =>
      simp only [List.getElem?_cons_zero,zOi] at ho
      subst ho
      refine ⟨fun e he hb => ?_,fun l x hx hl => ?_⟩
      · rw [List.all_eq_true] at h1
        have := h1 e (by simpa using he)
        simp only [hb,Bool.not_true,Bool.false_or,Nat.blt_eq] at this
        exact this
      · have := rowOK_spec h2 l x hx (by simpa using hl)
        simpa [bit] using this
    | succ j =>
      have := ih h3 j o (by simpa using ho)
      rwa [show i + 1 + j = i + (j + 1) by omega] at this
theorem chainOK_spec {ops : List Oper} {ks : List Nat} : ∀ {E pend : List Nat},chainOK P ops ks pend E = true → ∀ (l e : Nat),E[l]? = some e → flAt P ops e = false → (∀ p ∈ pend,bit ks e p = true) ∧ ∀ (l' e' : Nat),l' < l → E[l']? = some e' → bit ks e e' = true := by
  intro E
  induction E with
  | nil => intro pend _ l e h; simp at h
  | cons e1 E ih =>
    intro pend h l e he hfl
    simp only [chainOK,Bool.and_eq_true] at h
    cases l with
    | zero =>
      simp only [List.getElem?_cons_zero,zOi] at he
      subst he
      refine ⟨fun p hp => ?_,fun l' e' hl => absurd hl (Nat.not_lt_zero _)⟩
      have h1 := h.1
      rw [hfl] at h1
      simp only at h1
      rw [List.all_eq_true] at h1
      have := h1 p hp
      rwa [tb_eq] at this
    | succ l =>
      obtain ⟨g1,g2⟩ := ih h.2 l e (by simpa using he) hfl
      refine ⟨fun p hp => g1 p (List.mem_cons_of_mem _ hp),fun l' e' hl he' => ?_⟩
      cases l' with
      | zero =>
        simp only [List.getElem?_cons_zero,zOi] at he'
        subst he'
        exact g1 _ (by simp)
      | succ l' => exact g2 l' e' (by omega) (by simpa using he')
end
end
end Go.Proofs.Ytdaljohmfnfgiaa.Canon

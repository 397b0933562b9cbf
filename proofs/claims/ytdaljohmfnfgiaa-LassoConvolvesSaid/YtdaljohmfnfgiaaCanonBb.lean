/- What the proof of this claim is made of. No condition. -/
import Derived.Test.YtdaljohmfnfgiaaCanonBa
namespace Go.Proofs.Ytdaljohmfnfgiaa.Canon
open Go Go.RowKit
noncomputable section
variable (P : Program)
def rowAt (A : AHeap) (b : Nat) : Option (List Value) := match look A.objs b with
  | some x => match x with
    | ⟨ob,g,z⟩ => match ob with
      | .cells c _ _ => match isRO g z with
        | false => some c.toList
        | true => none
      | _ => none
  | none => none
def cellR (A : AHeap) (b o : Nat) : Option Value := match rowAt A b with
  | some l => nthR l o
  | none => none
variable {P}
theorem cellR_eq {A : AHeap} {b o : Nat} {v : Value} (h : cellR A b o = some v) : A.cell ⟨b,o,none⟩ = some v := by
  unfold cellR rowAt at h
  unfold AHeap.cell
  split at h
  · rename_i l hl
    split at hl
    · rename_i x hx
      split at hl
      rename_i ob g e
      split at hl
      · rename_i c t f
        split at hl
        · rename_i hr
          cases hl
          rw [hx]
          simp only [hr]
          rw [← h,nthR_arr]
        · cases hl
      · cases hl
    · cases hl
  · cases h
theorem rowAt_eq {A : AHeap} {b : Nat} {l : List Value} (h : rowAt A b = some l) : ∃ c t f g e,look A.objs b = some ⟨.cells c t f,g,e⟩ ∧ l = c.toList := by
  unfold rowAt at h
  split at h
  · rename_i x hx
    split at h
    rename_i ob g e
    split at h
    · rename_i c t f
      split at h
      · cases h
        exact ⟨c,t,f,g,e,hx,rfl⟩
      · cases h
    · cases h
  · cases h
variable (P)
inductive TK where
  | none
  | one
  | row (n : Nat)
def tk (t : TypeId) : TK := match P.underlying t,P.info? t with
  | some d,some i => match d with
    | .struct _ => .row i.size
    | .array _ _ => .row i.size
    | _ => match Nat.beq i.size 1 with
      | true => .one
      | false => .none
  | _,_ => .none
variable {P}
theorem tk_one {t : TypeId} (h : tk P t = .one) (A : AHeap) : arun P (Go.isAgg t) A = some (false,A) ∧ arun P (Go.sizeOf t) A = some (1,A) := by
  unfold tk at h
  split at h
  · rename_i d i hd hi
    have fin : (∀ (fs : Array Field),d ≠ .struct fs) → (∀ n e,d ≠ .array n e) → (match Nat.beq i.size 1 with | true => TK.one | false => TK.none) = .one → arun P (Go.isAgg t) A = some (false,A) ∧ arun P (Go.sizeOf t) A = some (1,A) := by
      intro h1 h2 h
      split at h
      · rename_i hb
        have hb := Nat.eq_of_beq_eq_true hb
        refine ⟨?_,by simp [Go.sizeOf,Go.typeInfo,hi,hb]⟩
        cases d <;> first | exact absurd rfl (h1 _) | exact absurd rfl (h2 _ _) | simp [Go.isAgg,Go.underlying,hd]
      · cases h
    cases d <;> simp only at h <;> first | (cases h; done) | exact fin (by simp) (by simp) h
  · cases h
theorem tk_row {t : TypeId} {n : Nat} (h : tk P t = .row n) (A : AHeap) : arun P (Go.isAgg t) A = some (true,A) ∧ arun P (Go.sizeOf t) A = some (n,A) := by
  unfold tk at h
  split at h
  · rename_i d i hd hi
    cases d <;> simp only at h <;> first | (cases h; simp [Go.isAgg,Go.underlying,hd,Go.sizeOf,Go.typeInfo,hi]; done) | (split at h <;> cases h)
  · cases h
theorem zBB {A : AHeap} {a : Addr} : ∀ (n i : Nat) (acc : Array Value) (r : List Value),r.length = n → (∀ j,j < n → A.cell (a.add (i + j)) = r[j]?) → arun P (Go.loadCellsFrom a i n acc) A = some (⟨acc.toList ++ r⟩,A)
  | 0,i,acc,r,hl,_ => by
    have : r = [] := List.length_eq_zero_iff.1 hl
    subst this
    simp [Go.loadCellsFrom]
  | n + 1,i,acc,[],hl,_ => by simp at hl
  | n + 1,i,acc,x :: r,hl,hc => by
    have h0 := hc 0 (by omega)
    simp only [Nat.add_zero,List.getElem?_cons_zero] at h0
    simp only [Go.loadCellsFrom,Go.load,zBV,arun,h0]
    have := zBB (A := A) (a := a) n (i + 1) (acc.push x) r (by simpa using hl) (fun j hj => by
      have := hc (j + 1) (by omega)
      rw [show i + (j + 1) = i + 1 + j by omega] at this
      simpa using this)
    simp [this]
theorem arun_loadCells {A : AHeap} {b o : Nat} {l r : List Value} {n : Nat} (hr : rowAt A b = some l) (ht : takeR n (dropR o l) = some r) : arun P (Go.loadCells ⟨b,o,none⟩ n) A = some (⟨r⟩,A) := by
  obtain ⟨h1,h2⟩ := takeR_eq _ _ _ ht
  rw [dropR_eq] at h2
  have := zBB (P := P) (A := A) (a := ⟨b,o,none⟩) n 0 #[] r h1 (fun j hj => by
    have hv := h2 j hj
    obtain ⟨c,t,f,g,e,hl,rfl⟩ := rowAt_eq hr
    have hj' : j < r.length := by omega
    rw [List.getElem?_eq_getElem hj'] at hv ⊢
    have : A.cell ⟨b,o + j,none⟩ = some r[j] := by
      refine cellR_eq ?_
      unfold cellR
      rw [hr]
      simp only
      rw [nthR_eq,← hv]
      simp
    rw [← this]
    unfold Addr.add
    by_cases hz : 0 + j = 0
    · have : j = 0 := by omega
      subst this
      simp
    · simp only [hz,if_false]
      simp)
  simpa [Go.loadCells] using this
variable (P)
section
def xld (t : TypeId) (b o : Nat) (A : AHeap) : VR := match tk P t with
  | .one => match cellR A b o with
    | some v => .yes v A
    | none => .no
  | .row n => match rowAt A b with
    | some l => match takeR n (dropR o l) with
      | some r => .yes (.agg ⟨r⟩) A
      | none => .no
    | none => .no
  | .none => .no
variable {P}
theorem xld_eq {t : TypeId} {b o : Nat} {A : AHeap} {v : Value} {A1 : AHeap} (h : xld P t b o A = .yes v A1) : arun P (Go.loadVar t ⟨b,o,none⟩) A = some (v,A1) := by
  unfold xld at h
  split at h
  · rename_i ht
    split at h
    · rename_i u hu
      cases h
      simp [Go.loadVar,(tk_one ht _).1,Go.load,arun,cellR_eq hu]
    · cases h
  · rename_i n ht
    split at h
    · rename_i l hl
      split at h
      · rename_i r hr
        cases h
        simp [Go.loadVar,(tk_row ht _).1,(tk_row ht _).2,arun_loadCells hl hr]
      · cases h
    · cases h
  · cases h
end
def adr (v : Value) : Option (Nat × Nat) := match v with
  | .pointer p => match p with
    | some a => match a with
      | ⟨b,o,sp⟩ => match sp with
        | none => some (b,o)
        | some _ => none
    | none => none
  | _ => none
theorem adr_eq {v : Value} {b o : Nat} (h : adr v = some (b,o)) : v = .pointer (some ⟨b,o,none⟩) := by
  unfold adr at h
  split at h
  · split at h
    · split at h
      split at h
      · cases h; rfl
      · cases h
    · cases h
  · cases h
def xload (t : TypeId) (a : Operand) : XF := fun _ ρ A => match adr (ρ a) with
  | some (b,o) => xld P t b o A
  | none => .no
def xst1 (t : TypeId) (a x : Operand) : XF := fun _ ρ A => match adr (ρ a) with
  | some (b,o) => match ρ x with
    | .agg _ => .no
    | .tuple _ => .no
    | v => match look A.objs b with
      | some y => match y with
        | ⟨ob,g,e⟩ => match ob with
          | .cells c ty f => match isRO g e with
            | true => .no
            | false => match nthR c.toList o with
              | some _ => match A with
                | ⟨nx,tr⟩ => .yes undef ⟨nx,tr.set (bits b) ⟨.cells ⟨setR c.toList v o⟩ ty f,g,e⟩⟩
              | none => .no
          | _ => .no
      | none => .no
  | none => VR.of ((arun P (Instr.storeAt t (ρ a) (ρ x)) A).map fun p => (undef,p.2))
def allR (f : Value → Bool) (l : List Value) : Bool := List.rec (motive := fun _ => Bool) true (fun v _ ih => match f v with
  | true => ih
  | false => false) l
def xstN (n : Nat) (a x : Operand) : XF := fun _ ρ A => match adr (ρ a) with
  | some (b,o) => match look A.objs b with
    | some y => match y with
      | ⟨ob,g,e⟩ => match ob with
        | .cells c ty f => match isRO g e with
          | true => .no
          | false => match Nat.beq (lenR (ρ x).cells.toList) n,Nat.ble (o + n) (lenR c.toList),allR zBY (ρ x).cells.toList with
            | true,true,true => match A with
              | ⟨nx,tr⟩ => .yes undef ⟨nx,tr.set (bits b) ⟨.cells ⟨zCZ o (ρ x).cells.toList c.toList⟩ ty f,g,e⟩⟩
            | _,_,_ => .no
        | _ => .no
    | none => .no
  | none => .no
def xstore (t : TypeId) (a x : Operand) : XF := match tk P t with
  | .one => xst1 P t a x
  | .row n => xstN n a x
  | .none => fun _ ρ A => VR.of ((arun P (Instr.storeAt t (ρ a) (ρ x)) A).map fun p => (undef,p.2))
def xalloc (t : TypeId) : XF := fun _ _ A => match zCG P t with
  | some z => match A with
    | ⟨nx,tr⟩ => .yes (.pointer (some ⟨nx,0,none⟩)) ⟨nx + 1,tr.set (bits nx) ⟨.cells z.cells t,false,0⟩⟩
  | none => .no
def xbox (t : TypeId) (x : Operand) : XF := fun _ ρ A => match A with
  | ⟨nx,tr⟩ => .yes (.pointer (some ⟨nx,0,none⟩)) ⟨nx + 1,tr.set (bits nx) ⟨.cells (ρ x).cells t,false,0⟩⟩
def xmove (x : Operand) : XF := fun _ ρ A => .yes (ρ x) A
def xpick (c a b : Operand) : XF := fun _ ρ A => match ρ c with
  | .bool t => match t with
    | true => .yes (ρ a) A
    | false => .yes (ρ b) A
  | _ => .no
def xnil (x : Operand) : XF := fun _ ρ A => match anil (ρ x) with
  | true => .yes (ρ x) A
  | false => .no
def fof (t : TypeId) (f : Nat) : Option Nat := match P.underlying t with
  | some (.struct fs) => match nthR fs.toList f with
    | some d => match P.info? d.type with
      | some i => match Nat.beq i.size 0 with
        | true => none
        | false => some d.offset
      | none => none
    | none => none
  | _ => none
def zDX (t : TypeId) (x : Operand) (f : Nat) : XF := fun _ ρ A => match fof P t f with
  | some d => match adr (ρ x) with
    | some (b,o) => .yes (.pointer (some ⟨b,o + d,none⟩)) A
    | none => .no
  | none => VR.of (arun P (Instr.fieldAt t (ρ x) f) A)
def eof (t : TypeId) : Option Nat := match P.underlying t with
  | some (.slice e) => (P.info? e).map (·.size)
  | _ => none
def aof (t : TypeId) : Option (Nat × Nat) := match P.underlying t with
  | some (.array n e) => match Nat.ble 2 n,P.info? e with
    | true,some i => some (n,i.size)
    | _,_ => none
  | _ => none
def zCO (t : TypeId) (x i : Operand) : XF := fun _ ρ A => match eof P t with
  | some z => match ρ x with
    | .slice a n _ => match a with
      | some ad => match ad with
        | ⟨b,o,sp⟩ => match sp with
          | none => match ρ i with
            | .int _ j => match j with
              | .ofNat j => match Nat.blt j n with
                | true => .yes (.pointer (some ⟨b,o + j * z,none⟩)) A
                | false => .no
              | .negSucc _ => .no
            | _ => .no
          | some _ => .no
      | none => .no
    | _ => .no
  | none => match aof P t with
    | some p => match p with
      | (n,z) => match xnum (ρ i),adr (ρ x) with
        | some j,some q => match q with
          | (b,o) => match Nat.blt j n with
            | true => .yes (.pointer (some ⟨b,o + j * z,none⟩)) A
            | false => .no
        | _,_ => .no
    | none => VR.of (arun P (Instr.indexAt t (ρ x) (ρ i)) A)
def xextract (t : Operand) (i : Nat) : XF := fun _ ρ A => match ρ t with
  | .tuple vs => match nthR vs.toList i with
    | some v => .yes v A
    | none => .no
  | _ => .no
def tyOf (ats : Array TypeId) : Option Bool := match ats.toList with
  | t :: _ => match P.underlying t with
    | some (.slice _) => some true
    | some .string => some false
    | _ => none
  | [] => none
def xlen (ats : Array TypeId) (ty : TypeId) (args : Array Operand) : XF := fun _ ρ A => match tyOf P ats,args.toList with
  | some true,x :: _ => match ρ x with
    | .slice _ n _ => .yes (.int .i64 (.ofNat n)) A
    | _ => .no
  | some false,x :: _ => match ρ x with
    | .string b => .yes (.int .i64 (.ofNat b.size)) A
    | _ => .no
  | _,_ => VR.of (arun P (Builtin.len_ ats ty (args.map ρ)) A)
def plOf (fs : List Field) : Option (List (Nat × Nat)) := match fs with
  | [] => some []
  | f :: fs => match P.info? f.type,plOf fs with
    | some i,some l => some ((f.offset,i.size) :: l)
    | _,_ => none
def bof (t : TypeId) : BI := match P.underlying t,zCG P t with
  | some d,some z => match d with
    | .struct fs => match plOf P fs.toList with
      | some pl => .mk (nthR pl) (lenR z.cells.toList) z.cells.toList
      | none => .no
    | .array _ e => match P.info? e with
      | some i => .mk (fun k => some (k * i.size,i.size)) (lenR z.cells.toList) z.cells.toList
      | none => .no
    | _ => .no
  | _,_ => .no
def xbuild (t : TypeId) (ps : Array (Nat × Operand)) : XF := fun _ ρ A => match bof P t with
  | .mk pl n z => match fillR pl n ρ ps.toList z with
    | some r => .yes (.agg ⟨r⟩) A
    | none => .no
  | .no => .no
def xbuildSlice (t : TypeId) (n : Nat) (ps : Array (Nat × Operand)) (o : Oper) : XF := fun _ ρ A => match sof P t n,elemT P t with
  | .mk pl k z,some e => match fillR pl k ρ ps.toList z with
    | some r => .yes (.slice (some ⟨A.next,0,none⟩) n n) ⟨A.next + 1,A.objs.set (bits A.next) ⟨.cells ⟨r⟩ e,false,0⟩⟩
    | none => .no
  | _,_ => VR.of (zAE P ρ o A)
def xnot (x : Operand) (op : UnOp) (t : TypeId) : XF := fun _ ρ A => match op with
  | .not => match ρ x with
    | .bool b => .yes (.bool (match b with | true => false | false => true)) A
    | _ => .no
  | _ => VR.of (arun P (Op.unary op (ρ x)) A)
def half : Nat := 9223372036854775808
def natOp (op : BinOp) (a b : Nat) : Option Value := match op with
  | .add => match Nat.blt (a + b) half with
    | true => some (.int .i64 (.ofNat (a + b)))
    | false => none
  | .sub => match Nat.ble b a,Nat.blt a half with
    | true,true => some (.int .i64 (.ofNat (a - b)))
    | _,_ => none
  | .mul => match Nat.blt (a * b) half with
    | true => some (.int .i64 (.ofNat (a * b)))
    | false => none
  | .quo => match Nat.beq b 0,Nat.blt a half with
    | false,true => some (.int .i64 (.ofNat (a / b)))
    | _,_ => none
  | .rem => match Nat.beq b 0 with
    | false => some (.int .i64 (.ofNat (a % b)))
    | true => none
  | .eql => some (.bool (Nat.beq a b))
  | .neq => some (.bool (match Nat.beq a b with | true => false | false => true))
  | .lss => some (.bool (Nat.blt a b))
  | .leq => some (.bool (Nat.ble a b))
  | .gtr => some (.bool (Nat.blt b a))
  | .geq => some (.bool (Nat.ble b a))
  | _ => none
def xbinSlow (op : BinOp) (t : TypeId) (x y : Value) (A : AHeap) : VR := match zCF x y with
  | true => VR.of (arun P (binOp op t x y) A)
  | false => match op with
    | .eql => VR.of ((aeql P t x y).map fun b => (.bool b,A))
    | .neq => VR.of ((aeql P t x y).map fun b => (.bool !b,A))
    | _ => .no
def xbin (op : BinOp) (t : TypeId) (x y : Operand) : XF := fun _ ρ A => match ρ x,ρ y with
  | .int .i64 (.ofNat a),.int .i64 (.ofNat b) => match natOp op a b with
    | some v => .yes v A
    | none => xbinSlow P op t (ρ x) (ρ y) A
  | _,_ => xbinSlow P op t (ρ x) (ρ y) A
def xslow (o : Oper) : XF := fun _ ρ A => VR.of (zAE P ρ o A)
def bytesL (l : List Value) : Option (List UInt8) := List.rec (motive := fun _ => Option (List UInt8)) (some []) (fun v _ ih => match v with
  | .int k n => match k with
    | .u8 => match ih with
      | some bs => some (UInt8.ofNat n.toNat :: bs)
      | none => none
    | _ => none
  | _ => none) l
theorem bytesL_cons (v : Value) (l : List Value) : bytesL (v :: l) = (match v with
  | .int k n => match k with
    | .u8 => match bytesL l with
      | some bs => some (UInt8.ofNat n.toNat :: bs)
      | none => none
    | _ => none
  | _ => none) := rfl
theorem push_bytes (acc : List UInt8) (b : UInt8) : (⟨⟨acc⟩⟩ : ByteArray).push b = ⟨⟨acc ++ [b]⟩⟩ := by
  show (⟨(⟨acc⟩ : Array UInt8).push b⟩ : ByteArray) = _
  congr 1
  refine Array.ext' ?_
  simp
variable {P} in
theorem arun_bytesLoop {A : AHeap} {f : Value → ByteArray → Sem (ForInStep ByteArray)} (hf : ∀ n s,f (.int .u8 n) s = pure (.yield (s.push (UInt8.ofNat n.toNat)))) : ∀ (l : List Value) (acc bs : List UInt8),bytesL l = some bs → arun P (forIn l (⟨⟨acc⟩⟩ : ByteArray) f) A = some (⟨⟨acc ++ bs⟩⟩,A) := by
  intro l
  induction l with
  | nil => intro acc bs h; cases h; simp
  | cons v l ih =>
    intro acc bs h
    rw [bytesL_cons] at h
    split at h
    · rename_i k n
      split at h
      · split at h
        · rename_i bs' hb
          cases h
          have := ih (acc ++ [UInt8.ofNat n.toNat]) bs' hb
          simp only [List.forIn_cons,hf,pure_bind,push_bytes]
          rw [this]
          simp
        · cases h
      · cases h
    · cases h
def fitsK (k : IntKind) (m : Nat) : Bool := match k with
  | .u8 => Nat.blt m 256
  | .i64 => Nat.blt m 9223372036854775808
  | _ => Nat.blt m 128
theorem wrap_fits {k : IntKind} {m : Nat} (h : fitsK k m = true) : k.wrap (m : Int) = (m : Int) := by
  cases k <;> simp only [fitsK,Nat.blt_eq] at h <;> simp only [IntKind.wrap,IntKind.bits,IntKind.signed] <;> simp <;> omega
def cvQ (P : Program) (src dst : TypeId) (v : Value) (A : AHeap) : Option Value := match v with
  | .int _ n => match P.underlying src,P.underlying dst with
    | some _,some d => match d with
      | .int kd => match n with
        | .ofNat m => match fitsK kd m with
          | true => some (.int kd (.ofNat m))
          | false => none
        | .negSucc _ => none
      | _ => none
    | _,_ => none
  | .slice p n _ => match p with
    | some a => match a with
      | ⟨b,o,sp⟩ => match sp with
        | none => match P.underlying src,P.underlying dst with
          | some (.slice e),some .string => match P.underlying e with
            | some (.int .u8) => match rowAt A b with
              | some l => match takeR n (dropR o l) with
                | some r => match bytesL r with
                  | some bs => some (.string ⟨⟨bs⟩⟩)
                  | none => none
                | none => none
              | none => none
            | _ => none
          | _,_ => none
        | some _ => none
    | none => none
  | _ => none
variable {P} in
theorem cvQ_ok {src dst : TypeId} {v u : Value} {A : AHeap} (h : cvQ P src dst v A = some u) : aconvert P src dst v A = some (u,A) := by
  unfold cvQ at h
  unfold aconvert
  split at h
  · rename_i k n
    split at h
    · rename_i sd d hs hd
      split at h
      · rename_i kd
        split at h
        · rename_i m
          split at h
          · rename_i hf
            cases h
            simp only [hd]
            have hw := wrap_fits hf
            cases sd <;> simp [convert,Go.underlying,hs,hd,Conv.intToInt,hw]
          · cases h
        · cases h
      · cases h
    · cases h
  · rename_i p n c
    split at h
    · rename_i a
      split at h
      rename_i b o sp
      split at h
      · split at h
        · rename_i e hs hd
          split at h
          · rename_i he
            split at h
            · rename_i l hl
              split at h
              · rename_i r hr
                split at h
                · rename_i bs hb
                  cases h
                  simp only [hs,hd,he]
                  have hload := arun_loadCells (P := P) hl hr
                  simp only [convert,Go.underlying,zBV,zBC,hs,hd,Conv.bytesToString,Option.bind_some]
                  simp [he,hload,← Array.forIn_toList]
                  exact arun_bytesLoop (fun _ _ => rfl) r [] bs hb
                · cases h
              · cases h
            · cases h
          · cases h
        · cases h
      · cases h
    · cases h
  · cases h
inductive CO where
  | mk (f : XF)
def CO.run : CO → XF
  | .mk f => f
def xdispC (o : Oper) : CO := match o.op with
  | .move x => .mk (xmove x)
  | .assign x => .mk (xmove x)
  | .pick c a b => .mk (xpick c a b)
  | .alloc t => .mk (xalloc P t)
  | .box t x => .mk (xbox t x)
  | .load t a => .mk (xload P t a)
  | .store t a x => .mk (xstore P t a x)
  | .nilCheck x => .mk (xnil x)
  | .binOp op t x y _ => .mk (xbin P op t x y)
  | .unOp op t x => .mk (xnot P x op t)
  | .fieldAddr t x f => .mk (zDX P t x f)
  | .indexAddr t x i => .mk (zCO P t x i)
  | .extract t i => .mk (xextract t i)
  | .convert src dst x => .mk (fun _ ρ A => match cvQ P src dst (ρ x) A with
    | some v => .yes v A
    | none => VR.of (zAE P ρ o A))
  | .build t ps => .mk (xbuild P t ps)
  | .buildSlice t n ps => .mk (xbuildSlice P t n ps o)
  | .call c => match c.callee with
    | .value f => .mk (xcall f c.args)
    | .builtin b => match b with
      | .len => .mk (xlen P c.argTypes o.type c.args)
      | _ => .mk (xslow P o)
    | _ => .mk (xslow P o)
  | _ => .mk (xslow P o)
def xdisp (o : Oper) : XF := (xdispC P o).run
def compO (o : Oper) : CO := match callV o.op,o.op.operands.toList.all zAC with
  | some (f,args),_ => .mk (xcall f args)
  | none,true => xdispC P o
  | none,false => .mk (fun _ _ _ => .no)
def xquick (o : Oper) : XF := fun D ρ A => match compO P o with
  | .mk f => f D ρ A
end
variable {P : Program}
theorem wrap_nat {n : Nat} (h : n < half) : IntKind.i64.wrap (n : Int) = n := by
  unfold half at h
  exact IntWalk.i64_in _ (by omega)
theorem loadAt_eq {t : TypeId} {b o : Nat} {A : AHeap} {v : Value} {A1 : AHeap} (h : xld P t b o A = .yes v A1) : arun P (Instr.loadAt t (.pointer (some ⟨b,o,none⟩))) A = some (v,A1) := by
  have := xld_eq h
  simpa [Instr.loadAt,Instr.sureAddr] using this
theorem xload_ok {t : TypeId} {a : Operand} {D : Orc} {ρ : Operand → Value} {A : AHeap} {v : Value} {A1 : AHeap} (h : xload P t a D ρ A = .yes v A1) : arun P (Instr.loadAt t (ρ a)) A = some (v,A1) := by
  unfold xload at h
  split at h
  · rename_i b o ha
    rw [adr_eq ha]
    exact loadAt_eq h
  · cases h
theorem set_eq {A : AHeap} {b o : Nat} {v : Value} {c : Array Value} {ty : TypeId} {f : Nat × Nat} {g : Bool} {e : Nat} {u : Value} (hl : look A.objs b = some ⟨.cells c ty f,g,e⟩) (hro : isRO g e = false) (hn : nthR c.toList o = some u) (hv : zBY v = true) :
    A.set ⟨b,o,none⟩ v = some ⟨A.next,A.objs.set (bits b) ⟨.cells ⟨setR c.toList v o⟩ ty f,g,e⟩⟩ := by
  unfold AHeap.set
  have hlt : Nat.blt o c.size = true := by
    rw [Nat.blt_eq]
    rw [nthR_arr] at hn
    exact (Array.getElem?_eq_some_iff.1 hn).1
  simp only [hv,hl,hlt,hro]
  have : c.setIfInBounds o v = ⟨setR c.toList v o⟩ := by
    refine Array.ext' ?_
    simp [setR_eq]
  rw [this]
  unfold putO look at *
  rw [hl]
theorem xst1_ok {t : TypeId} (ht : tk P t = .one) {a x : Operand} {D : Orc} {ρ : Operand → Value} {A : AHeap} {v : Value} {A1 : AHeap} (h : xst1 P t a x D ρ A = .yes v A1) : ((arun P (Instr.storeAt t (ρ a) (ρ x)) A).map fun p => (undef,p.2)) = some (v,A1) := by
  unfold xst1 at h
  split at h
  · rename_i b o ha
    rw [adr_eq ha]
    have fin : ∀ (u : Value),ρ x = u → zBY u = true → (match look A.objs b with
      | some y => match y with
        | ⟨ob,g,e⟩ => match ob with
          | .cells c ty f => match isRO g e with
            | true => VR.no
            | false => match nthR c.toList o with
              | some _ => match A with
                | ⟨nx,tr⟩ => VR.yes undef ⟨nx,tr.set (bits b) ⟨.cells ⟨setR c.toList u o⟩ ty f,g,e⟩⟩
              | none => .no
          | _ => .no
      | none => .no) = .yes v A1 → ((arun P (Instr.storeAt t (.pointer (some ⟨b,o,none⟩)) (ρ x)) A).map fun p => (undef,p.2)) = some (v,A1) := by
      intro u hu hcell h
      rw [hu]
      split at h
      · rename_i y hy
        split at h
        rename_i ob g e
        split at h
        · rename_i c ty f
          split at h
          · cases h
          rename_i hro
          split at h
          · rename_i w hw
            obtain ⟨nx,tr⟩ := A
            cases h
            have hset := set_eq hy hro hw hcell
            have hs1 := (tk_one ht ⟨nx,tr⟩).2
            have hcs : u.cells = #[u] := by
              cases u <;> first | rfl | assumption | (simp [zBY] at hcell)
            simp [Instr.storeAt,Instr.sureAddr,Go.storeVar,hs1,hcs,Go.storeCells,Go.store,arun,Addr.add,hset]
          · cases h
        · cases h
      · cases h
    split at h
    · cases h
    · cases h
    · rename_i v0 h1 h2
      exact fin _ rfl (by cases hq : ρ x <;> first | rfl | exact absurd hq (h1 _) | exact absurd hq (h2 _)) h
  · exact VR.of_eq h
theorem Tr.set_set {α : Type} : ∀ (t : Tr α) (p : List Bool) (x y : α),(t.set p x).set p y = t.set p y := by
  have mk : ∀ (p : List Bool) (x y : α),(Tr.mkPath x p).set p y = Tr.mkPath y p := by
    intro p
    induction p with
    | nil => intro x y; rfl
    | cons b p ih =>
      intro x y
      cases b
      · show Tr.node none ((Tr.mkPath x p).set p y) .leaf = Tr.node none (Tr.mkPath y p) .leaf
        rw [ih]
      · show Tr.node none .leaf ((Tr.mkPath x p).set p y) = Tr.node none .leaf (Tr.mkPath y p)
        rw [ih]
  intro t
  induction t with
  | leaf => intro p x y; exact mk p x y
  | node v l r il ir =>
    intro p x y
    cases p with
    | nil => rfl
    | cons b p =>
      cases b
      · show Tr.node v ((l.set p x).set p y) r = Tr.node v (l.set p y) r
        rw [il]
      · show Tr.node v l ((r.set p x).set p y) = Tr.node v l (r.set p y)
        rw [ir]
theorem Tr.set_same {α : Type} : ∀ (t : Tr α) (p : List Bool) (x : α),t.get p = some x → t.set p x = t := by
  intro t
  induction t with
  | leaf => intro p x h; cases h
  | node v l r il ir =>
    intro p x h
    cases p with
    | nil =>
      have h : v = some x := h
      subst h
      rfl
    | cons b p =>
      cases b
      · show Tr.node v (l.set p x) r = Tr.node v l r
        rw [il p x h]
      · show Tr.node v l (r.set p x) = Tr.node v l r
        rw [ir p x h]
theorem allR_eq (f : Value → Bool) : ∀ (l : List Value),allR f l = true → ∀ v ∈ l,f v = true
  | [],_,v,hv => by simp at hv
  | u :: l,h,v,hv => by
    have h : (match f u with | true => allR f l | false => false) = true := h
    split at h
    · rename_i hu
      rcases List.mem_cons.1 hv with rfl | hv
      · exact hu
      · exact allR_eq f l h v hv
    · cases h
theorem spliceR_nil (k : Nat) (l : List Value) (h : k ≤ l.length) : zCZ k [] l = l := by
  obtain ⟨h1,h2⟩ := zBA [] k l (by simpa using h)
  refine List.ext_getElem? fun i => ?_
  rw [h2 i,if_neg (by simp)]
theorem arun_storeCells {b o : Nat} {ty : TypeId} {f : Nat × Nat} {g : Bool} {e : Nat} : ∀ (l : List Value) (i : Nat) (A : AHeap) (c : Array Value),isRO g e = false → look A.objs b = some ⟨.cells c ty f,g,e⟩ → (∀ v ∈ l,zBY v = true) → o + i + l.length ≤ c.size →
    arun P (Go.storeCells ⟨b,o,none⟩ l i) A = some ((),⟨A.next,A.objs.set (bits b) ⟨.cells ⟨zCZ (o + i) l c.toList⟩ ty f,g,e⟩⟩)
  | [],i,A,c,_,hl,_,hle => by
    simp only [List.length_nil,Nat.add_zero] at hle
    rw [spliceR_nil _ _ (by simpa using hle)]
    have : A.objs.set (bits b) ⟨.cells ⟨c.toList⟩ ty f,g,e⟩ = A.objs := Tr.set_same _ _ _ hl
    rw [this]
    rfl
  | v :: l,i,A,c,hro,hl,hc,hle => by
    simp only [List.length_cons] at hle
    have hadd : (⟨b,o,none⟩ : Addr).add i = ⟨b,o + i,none⟩ := by
      unfold Addr.add
      split
      · rename_i h0; rw [h0]; simp
      · rfl
    have hlt : o + i < c.size := by omega
    have hset := set_eq (A := A) (b := b) (o := o + i) (v := v) hl hro (u := c[o + i]) (by rw [nthR_arr]; simp [hlt]) (hc v (by simp))
    simp only [Go.storeCells,Go.store,zBV,arun,hadd,hset,Option.bind_some]
    have ih := arun_storeCells (b := b) (o := o) (ty := ty) (f := f) (g := g) (e := e) l (i + 1) ⟨A.next,A.objs.set (bits b) ⟨.cells ⟨setR c.toList v (o + i)⟩ ty f,g,e⟩⟩ ⟨setR c.toList v (o + i)⟩ hro (by
      show Tr.get _ _ = _
      rw [Tr.get_set,if_pos rfl]) (fun u hu => hc u (by simp [hu])) (by
      show o + (i + 1) + l.length ≤ (setR c.toList v (o + i)).length
      rw [setR_eq]; simp; omega)
    rw [ih]
    simp only [Tr.set_set]
    congr 6
    have h1 := zBA l (o + (i + 1)) (setR c.toList v (o + i)) (by rw [setR_eq]; simp; omega)
    have h2 := zBA (v :: l) (o + i) c.toList (by simp; omega)
    refine Array.ext' (List.ext_getElem? fun j => ?_)
    show (zCZ (o + (i + 1)) l (setR c.toList v (o + i)))[j]? = (zCZ (o + i) (v :: l) c.toList)[j]?
    rw [h1.2 j,h2.2 j]
    simp only [List.length_cons,setR_eq]
    by_cases hj : o + (i + 1) ≤ j ∧ j < o + (i + 1) + l.length
    · rw [if_pos hj,if_pos (by omega)]
      obtain ⟨d,rfl⟩ : ∃ d,j = o + (i + 1) + d := ⟨j - (o + (i + 1)),by omega⟩
      rw [show o + (i + 1) + d - (o + (i + 1)) = d by omega,show o + (i + 1) + d - (o + i) = d + 1 by omega]
      simp
    · rw [if_neg hj]
      by_cases hji : j = o + i
      · subst hji
        rw [if_pos (by omega)]
        simp [hlt]
      · rw [if_neg (by omega),List.getElem?_set,if_neg (by omega)]
theorem xstN_ok {t : TypeId} {n : Nat} (ht : tk P t = .row n) {a x : Operand} {D : Orc} {ρ : Operand → Value} {A : AHeap} {v : Value} {A1 : AHeap} (h : xstN n a x D ρ A = .yes v A1) : ((arun P (Instr.storeAt t (ρ a) (ρ x)) A).map fun p => (undef,p.2)) = some (v,A1) := by
  unfold xstN at h
  split at h
  · rename_i b o ha
    rw [adr_eq ha]
    split at h
    · rename_i y hy
      split at h
      rename_i ob g e
      split at h
      · rename_i c ty f
        split at h
        · cases h
        rename_i hro
        split at h
        · rename_i h1 h2 h3
          split at h
          rename_i nx tr
          cases h
          rw [bq,lenR_eq] at h1
          have h2 := ble_iff.1 h2
          rw [lenR_eq] at h2
          have hs1 := (tk_row ht ⟨nx,tr⟩).2
          have hst := arun_storeCells (P := P) (b := b) (o := o) (ρ x).cells.toList 0 ⟨nx,tr⟩ c hro hy (allR_eq _ _ h3) (by simp at h1 h2 ⊢; omega)
          have hne : ¬ (ρ x).cells.size ≠ n := by simp at h1; simpa using h1
          simp only [Nat.add_zero] at hst
          simp [Instr.storeAt,Instr.sureAddr,Go.storeVar,hs1,hne,hst]
        · cases h
      · cases h
    · cases h
  · cases h
theorem xstore_ok {t : TypeId} {a x : Operand} {D : Orc} {ρ : Operand → Value} {A : AHeap} {v : Value} {A1 : AHeap} (h : xstore P t a x D ρ A = .yes v A1) : ((arun P (Instr.storeAt t (ρ a) (ρ x)) A).map fun p => (undef,p.2)) = some (v,A1) := by
  unfold xstore at h
  cases ht : tk P t with
  | one => rw [ht] at h; exact xst1_ok ht h
  | row n => rw [ht] at h; exact xstN_ok ht h
  | none => rw [ht] at h; exact VR.of_eq h
theorem consO_set (n : Nat) (x : AObj) (t : Tr AObj) : zDU n x t = t.set (bits n) x := rfl
theorem xalloc_ok {t : TypeId} {D : Orc} {ρ : Operand → Value} {A : AHeap} {v : Value} {A1 : AHeap} (h : xalloc P t D ρ A = .yes v A1) : (match zok P t with | true => arun P (Instr.alloc t true (.tuple #[])) A | false => none) = some (v,A1) := by
  unfold xalloc at h
  split at h
  · rename_i z hz
    cases h
    unfold zCG at hz
    split at hz
    · rename_i i hzk hi
      rw [hzk]
      simp [Instr.alloc,Go.zeroValue,Go.typeInfo,hi,hz,Go.newVar,Go.newRow,Go.newObj,arun,AHeap.push,consO_set]
    · cases hz
  · cases h
theorem xbox_ok {t : TypeId} {x : Operand} {D : Orc} {ρ : Operand → Value} {A : AHeap} {v : Value} {A1 : AHeap} (h : xbox t x D ρ A = .yes v A1) : arun P (Instr.box t (ρ x)) A = some (v,A1) := by
  cases h
  simp [Instr.box,Go.newVar,Go.newRow,Go.newObj,arun,AHeap.push,consO_set]
theorem xpick_ok {c a b : Operand} {D : Orc} {ρ : Operand → Value} {A : AHeap} {v : Value} {A1 : AHeap} (h : xpick c a b D ρ A = .yes v A1) : (match ρ c with | .bool true => some (ρ a,A) | .bool false => some (ρ b,A) | _ => none) = some (v,A1) := by
  unfold xpick at h
  split at h
  · rename_i t ht
    rw [ht]
    cases t <;> (cases h; rfl)
  · cases h
theorem xnil_ok {x : Operand} {D : Orc} {ρ : Operand → Value} {A : AHeap} {v : Value} {A1 : AHeap} (h : xnil x D ρ A = .yes v A1) : (match anil (ρ x) with | true => some (ρ x,A) | false => none) = some (v,A1) := by
  unfold xnil at h
  split at h
  · cases h; rfl
  · cases h
theorem xfieldAddr_ok {t : TypeId} {x : Operand} {f : Nat} {D : Orc} {ρ : Operand → Value} {A : AHeap} {v : Value} {A1 : AHeap} (h : zDX P t x f D ρ A = .yes v A1) : arun P (Instr.fieldAt t (ρ x) f) A = some (v,A1) := by
  unfold zDX at h
  split at h
  · rename_i d hd
    split at h
    · rename_i b o ha
      cases h
      unfold fof at hd
      split at hd
      · rename_i fs hu
        split at hd
        · rename_i fd hf
          split at hd
          · rename_i i hi
            split at hd
            · cases hd
            · rename_i hz
              cases hd
              rw [nthR_arr] at hf
              have hz : i.size ≠ 0 := bqf.1 hz
              rw [adr_eq ha]
              have hadd : (⟨b,o,none⟩ : Addr).add fd.offset = ⟨b,o + fd.offset,none⟩ := by
                unfold Addr.add
                split
                · rename_i h0; rw [h0]; simp
                · rfl
              simp [Instr.fieldAt,Go.underlying,hu,hf,Instr.sureAddr,Go.fieldPlace,Go.sizeOf,Go.typeInfo,hi,hz,hadd]
          · cases hd
        · cases hd
      · cases hd
    · cases h
  · exact VR.of_eq h
theorem xindexAddr_ok {t : TypeId} {x i : Operand} {D : Orc} {ρ : Operand → Value} {A : AHeap} {v : Value} {A1 : AHeap} (h : zCO P t x i D ρ A = .yes v A1) : arun P (Instr.indexAt t (ρ x) (ρ i)) A = some (v,A1) := by
  unfold zCO at h
  split at h
  · rename_i z hz
    unfold eof at hz
    split at hz
    · rename_i e hu
      cases hi : P.info? e with
      | none => rw [hi] at hz; cases hz
      | some inf =>
        rw [hi] at hz
        simp only [Option.map_some,zOi] at hz
        subst hz
        split at h <;> try (cases h; done)
        rename_i a n c hx
        split at h <;> try (cases h; done)
        rename_i ad
        obtain ⟨b,o,sp⟩ := ad
        simp only at h
        split at h <;> try (cases h; done)
        split at h <;> try (cases h; done)
        rename_i k j hj
        split at h <;> try (cases h; done)
        rename_i j
        split at h <;> try (cases h; done)
        rename_i hlt
        cases h
        rw [Nat.blt_eq] at hlt
        rw [hx,hj]
        have hadd : (⟨b,o,none⟩ : Addr).add (j * inf.size) = ⟨b,o + j * inf.size,none⟩ := by
          unfold Addr.add
          split
          · rename_i h0; rw [h0]; simp
          · rfl
        have h0 : (0 : Int) ≤ Int.ofNat j ∧ (Int.ofNat j) < (n : Int) := ⟨Int.natCast_nonneg j,by show (j : Int) < n; omega⟩
        simp only [Instr.indexAt,Go.asIntOf,zBV,zBK,Option.bind_some,Go.underlying,hu,Go.program,arun]
        simp only [h0,and_self,if_true,Go.sizeOf,Go.typeInfo,zBV,zBC,Option.bind_some,hi,zBK]
        simp [hadd]
    · cases hz
  · split at h
    · rename_i hq _ p hp
      obtain ⟨n,z⟩ := p
      simp only at h
      unfold aof at hp
      split at hp
      · rename_i n' e hu
        split at hp
        · rename_i inf hn hi
          cases hp
          split at h <;> try (cases h; done)
          rename_i j q hj ha
          obtain ⟨b,o⟩ := q
          simp only at h
          split at h <;> try (cases h; done)
          rename_i hlt
          cases h
          rw [Nat.blt_eq] at hlt
          have hj' : ∃ k,ρ i = .int k (Int.ofNat j) := by
            unfold xnum at hj
            split at hj
            · rename_i k jj hk
              split at hj
              · cases hj; exact ⟨k,hk⟩
              · cases hj
            · cases hj
          obtain ⟨k,hk⟩ := hj'
          rw [adr_eq ha,hk]
          have hadd : (⟨b,o,none⟩ : Addr).add (j * inf.size) = ⟨b,o + j * inf.size,none⟩ := by
            unfold Addr.add
            split
            · rename_i h0; rw [h0]; simp
            · rfl
          have h0 : (0 : Int) ≤ Int.ofNat j ∧ (Int.ofNat j) < (n : Int) := ⟨Int.natCast_nonneg j,by show (j : Int) < n; omega⟩
          simp only [Instr.indexAt,Go.asIntOf,zBV,zBK,Option.bind_some,Go.underlying,hu,Go.program,arun,Instr.sureAddr]
          simp only [h0,and_self,if_true,Go.sizeOf,Go.typeInfo,zBV,zBC,Option.bind_some,hi,zBK]
          simp [hadd]
        · cases hp
      · cases hp
    · exact VR.of_eq h
theorem xextract_ok {t : Operand} {i : Nat} {D : Orc} {ρ : Operand → Value} {A : AHeap} {v : Value} {A1 : AHeap} (h : xextract t i D ρ A = .yes v A1) : arun P (Instr.extract (ρ t) i) A = some (v,A1) := by
  unfold xextract at h
  split at h
  · rename_i vs hv
    split at h
    · rename_i u hu
      cases h
      rw [nthR_arr] at hu
      simp [hv,Instr.extract,hu]
    · cases h
  · cases h
theorem xlen_ok {ats : Array TypeId} {ty : TypeId} {args : Array Operand} {D : Orc} {ρ : Operand → Value} {A : AHeap} {v : Value} {A1 : AHeap} (h : xlen P ats ty args D ρ A = .yes v A1) : arun P (Builtin.len_ ats ty (args.map ρ)) A = some (v,A1) := by
  unfold xlen at h
  have hat : ∀ b,tyOf P ats = some b → ∃ t,ats[0]? = some t ∧ ((b = true ∧ ∃ e,P.underlying t = some (.slice e)) ∨ (b = false ∧ P.underlying t = some .string)) := by
    intro b hb
    unfold tyOf at hb
    split at hb
    · rename_i t r hl
      have h0 : ats[0]? = some t := by rw [← Array.getElem?_toList,hl]; rfl
      refine ⟨t,h0,?_⟩
      split at hb <;> cases hb
      · rename_i e hu; exact .inl ⟨rfl,e,hu⟩
      · rename_i hu; exact .inr ⟨rfl,hu⟩
    · cases hb
  have harg : ∀ x r,args.toList = x :: r → (args.map ρ)[0]? = some (ρ x) := by
    intro x r hr
    rw [Array.getElem?_map,← Array.getElem?_toList,hr]; rfl
  split at h
  · rename_i x r ht hr
    obtain ⟨t,h0,h1⟩ := hat _ ht
    rcases h1 with ⟨_,e,hu⟩ | ⟨h1,_⟩
    · split at h
      · rename_i a n c hx
        cases h
        simp [Builtin.len_,h0,harg x r hr,Go.underlying,hu,hx,goInt]
      · cases h
    · cases h1
  · rename_i x r ht hr
    obtain ⟨t,h0,h1⟩ := hat _ ht
    rcases h1 with ⟨h1,_⟩ | ⟨_,hu⟩
    · cases h1
    · split at h
      · rename_i b hx
        cases h
        simp [Builtin.len_,h0,harg x r hr,Go.underlying,hu,hx,goInt]
      · cases h
  · exact VR.of_eq h
theorem xnot_ok {x : Operand} {op : UnOp} {t : TypeId} {D : Orc} {ρ : Operand → Value} {A : AHeap} {v : Value} {A1 : AHeap} (h : xnot P x op t D ρ A = .yes v A1) : arun P (Op.unary op (ρ x)) A = some (v,A1) := by
  unfold xnot at h
  split at h
  · split at h
    · rename_i b hb
      cases h
      rw [hb]
      cases b <;> simp [Op.unary]
    · cases h
  · exact VR.of_eq h
theorem natOp_ok {op : BinOp} {t : TypeId} {a b : Nat} {v : Value} (h : natOp op a b = some v) (A : AHeap) : arun P (binOp op t (.int .i64 (.ofNat a)) (.int .i64 (.ofNat b))) A = some (v,A) := by
  have hh : half = 9223372036854775808 := rfl
  cases op <;> simp only [natOp] at h <;> try (cases h; done)
  case add =>
    split at h
    · rename_i hb
      cases h
      have := wrap_nat (blt_iff.1 hb)
      simp [binOp,Op.intArith]
      rw [show ((a : Int) + (b : Int)) = ((a + b : Nat) : Int) by omega,this]
    · cases h
  case sub =>
    split at h
    · rename_i hb ha
      cases h
      have h1 := ble_iff.1 hb
      have h2 := blt_iff.1 ha
      have := wrap_nat (n := a - b) (by omega)
      simp [binOp,Op.intArith]
      rw [show ((a : Int) - (b : Int)) = ((a - b : Nat) : Int) by omega,this]
    · cases h
  case mul =>
    split at h
    · rename_i hb
      cases h
      have := wrap_nat (blt_iff.1 hb)
      simp [binOp,Op.intArith]
      rw [show ((a : Int) * (b : Int)) = ((a * b : Nat) : Int) by simp,this]
    · cases h
  case quo =>
    split at h
    · rename_i hb ha
      cases h
      have h1 := bqf.1 hb
      have h2 := blt_iff.1 ha
      have hle : a / b ≤ a := Nat.div_le_self a b
      have := wrap_nat (n := a / b) (by omega)
      have hz : ¬ ((b : Int) = 0) := by omega
      simp only [binOp,ne_eq,not_true_eq_false,if_false,Op.intDiv,Int.ofNat_eq_natCast,hz,zBK,Int.ofNat_tdiv]
      rw [← Int.ofNat_tdiv,this]
    · cases h
  case rem =>
    split at h
    · rename_i hb
      cases h
      have h1 := bqf.1 hb
      have hz : ¬ ((b : Int) = 0) := by omega
      simp only [binOp,ne_eq,not_true_eq_false,if_false,Op.intDiv,Int.ofNat_eq_natCast,hz,zBK]
      rfl
    · cases h
  all_goals
    cases h
    simp only [binOp,ne_eq,not_true_eq_false,if_false,Op.intCmp,Int.ofNat_eq_natCast,zBK]
  case eql =>
    rw [bool_of (bq (n := a) (m := b))]
    by_cases hab : a = b
    · subst hab; simp
    · have : (a : Int) ≠ (b : Int) := by omega
      simp [hab,this]
  case neq =>
    rw [bool_of (bq (n := a) (m := b))]
    by_cases hab : a = b
    · subst hab; simp
    · have : (a : Int) ≠ (b : Int) := by omega
      simp [hab,this]
  case lss => rw [bool_of (blt_iff (n := a) (m := b))]; simp
  case leq => rw [bool_of (ble_iff (n := a) (m := b))]; simp
  case gtr => rw [bool_of (blt_iff (n := b) (m := a))]; simp
  case geq => rw [bool_of (ble_iff (n := b) (m := a))]; simp
theorem plOf_ok : ∀ {fs : List Field} {pl : List (Nat × Nat)},plOf P fs = some pl → ∀ A,arun P (fs.mapM fun f => do Pure.pure (f.offset,← Go.sizeOf f.type)) A = some (pl,A) := by
  intro fs
  induction fs with
  | nil => intro pl h A; cases h; simp
  | cons f fs ih =>
    intro pl h A
    simp only [plOf] at h
    split at h
    · rename_i i l hi hl
      cases h
      have hs : arun P (Go.sizeOf f.type) A = some (i.size,A) := by simp [Go.sizeOf,Go.typeInfo,hi]
      rw [List.mapM_cons]
      simp only [zBV,hs,Option.bind_some,zBK,ih hl A]
    · cases h
theorem zeroOf_zero {t : TypeId} {z : Value} (h : zCG P t = some z) (A : AHeap) : zok P t = true ∧ arun P (Go.zeroValue t) A = some (z,A) := by
  unfold zCG at h
  split at h
  · rename_i i hz hi
    exact ⟨hz,by simp [Go.zeroValue,Go.typeInfo,hi,h]⟩
  · cases h
theorem xbuild_ok {t : TypeId} {ps : Array (Nat × Operand)} {D : Orc} {ρ : Operand → Value} {A : AHeap} {v : Value} {A1 : AHeap} (h : xbuild P t ps D ρ A = .yes v A1) :
    (match zok P t with | true => arun P (Instr.build t (ps.map fun (i,x) => (i,ρ x))) A | false => none) = some (v,A1) := by
  unfold xbuild at h
  split at h
  · rename_i pl n z hb
    split at h
    · rename_i r hr
      cases h
      unfold bof at hb
      split at hb
      · rename_i d zv hd hz
        obtain ⟨z1,z2⟩ := zeroOf_zero hz A
        rw [z1]
        cases d <;> simp only at hb <;> try (cases hb; done)
        case struct fs =>
          split at hb
          · rename_i pl' hpl
            cases hb
            have hf := fillR_ok (by rw [lenR_eq]) hr
            have hp := plOf_ok hpl A
            have e1 : (fun x => pl'.toArray[x]?) = nthR pl' := by funext x; rw [nthR_eq]; simp
            simp only [Instr.build,zBV,z2,Option.bind_some,Go.underlying,zBC,hd,zBK]
            rw [← Array.toArray_toList (xs := fs),List.mapM_toArray]
            simp only [arun_map,hp,Option.map_some,Option.bind_some]
            rw [map_parts,e1]
            have e2 : zv.cells = ⟨zv.cells.toList⟩ := rfl
            rw [e2,hf]
            rfl
          · cases hb
        case array k e =>
          split at hb
          · rename_i inf hi
            cases hb
            have hf := fillR_ok (by rw [lenR_eq]) hr
            simp only [Instr.build,zBV,z2,Option.bind_some,Go.underlying,zBC,hd,zBK,Go.sizeOf,Go.typeInfo,hi]
            rw [map_parts]
            have e2 : zv.cells = ⟨zv.cells.toList⟩ := rfl
            rw [e2,hf]
            rfl
          · cases hb
      · cases hb
    · cases h
  · cases h
theorem xbuildSlice_ok {t : TypeId} {n : Nat} {ps : Array (Nat × Operand)} {o : Oper} {D : Orc} {ρ : Operand → Value} {A : AHeap} {v : Value} {A1 : AHeap} (h : xbuildSlice P t n ps o D ρ A = .yes v A1) (slow : zAE P ρ o A = some (v,A1) → (match P.underlying t with
      | some (.slice e) => match zok P e with
        | true => arun P (Instr.buildSlice t n (ps.map fun (i,x) => (i,ρ x))) A
        | false => none
      | _ => none) = some (v,A1)) : (match P.underlying t with
      | some (.slice e) => match zok P e with
        | true => arun P (Instr.buildSlice t n (ps.map fun (i,x) => (i,ρ x))) A
        | false => none
      | _ => none) = some (v,A1) := by
  unfold xbuildSlice at h
  split at h
  · rename_i pl k z e hb he
    split at h
    · rename_i r hr
      cases h
      unfold elemT at he
      split at he
      · rename_i e' hu
        cases he
        unfold sof at hb
        rw [hu] at hb
        simp only at hb
        split at hb
        · rename_i inf zv hi hz
          obtain ⟨z1,z2⟩ := zeroOf_zero hz A
          split at hb
          · rename_i hle
            have hle := ble_iff.1 hle
            have h24 : ¬ n * inf.size > 2 ^ 24 := by omega
            split at hb
            · rename_i h0
              have h0 := bq.1 h0
              cases hb
              have hf := fillR_ok (n := 0) (cs := []) rfl hr
              simp only [Instr.buildSlice,zBV,Go.underlying,zBC,Option.bind_some,hu,zBK,Go.sizeOf,Go.typeInfo,hi,arun_ite,h24,if_false,h0,if_true]
              rw [map_parts,show ∀ (f : Nat → Value),Array.map f (Array.range 0) = ⟨[]⟩ from fun f => Array.ext' (by simp),hf]
              simp [z1,Go.newRow,Go.newObj,arun,AHeap.push,consO_set]
            · rename_i hne
              have hne := bqf.1 hne
              cases hb
              have hf := fillR_ok (by rw [lenR_eq]) hr
              simp only [Instr.buildSlice,zBV,Go.underlying,zBC,Option.bind_some,hu,zBK,Go.sizeOf,Go.typeInfo,hi,arun_ite,h24,if_false,hne,z2,z1]
              rw [map_parts]
              have e2 : ((Array.range (n * inf.size)).map (zv.cells[· % zv.cells.size]!)) = ⟨((Array.range (n * inf.size)).map (zv.cells[· % zv.cells.size]!)).toList⟩ := rfl
              rw [e2,hf]
              simp [Go.newRow,Go.newObj,arun,AHeap.push,consO_set]
          · cases hb
        · cases hb
      · cases he
    · cases h
  · exact slow (VR.of_eq h)
noncomputable def abinR (P : Program) (op : BinOp) (t : TypeId) (x y : Value) (A : AHeap) : Option (Value × AHeap) := match zCF x y with
  | true => arun P (binOp op t x y) A
  | false => match op with
    | .eql => (aeql P t x y).map fun b => (.bool b,A)
    | .neq => (aeql P t x y).map fun b => (.bool !b,A)
    | _ => none
theorem xbinSlow_ok {op : BinOp} {t : TypeId} {x y : Value} {A : AHeap} {v : Value} {A1 : AHeap} (h : xbinSlow P op t x y A = .yes v A1) : abinR P op t x y A = some (v,A1) := by
  unfold xbinSlow at h
  unfold abinR
  cases hp : zCF x y with
  | true => rw [hp] at h; exact VR.of_eq h
  | false =>
    rw [hp] at h
    cases op <;> simp only at h ⊢ <;> first | (cases h; done) | exact VR.of_eq h
theorem xbin_ok {op : BinOp} {t : TypeId} {x y : Operand} {D : Orc} {ρ : Operand → Value} {A : AHeap} {v : Value} {A1 : AHeap} (h : xbin P op t x y D ρ A = .yes v A1) : abinR P op t (ρ x) (ρ y) A = some (v,A1) := by
  unfold xbin at h
  split at h
  · rename_i a b hx hy
    split at h
    · rename_i u hu
      cases h
      rw [hx,hy]
      exact natOp_ok hu A
    · exact xbinSlow_ok h
  · exact xbinSlow_ok h
theorem xdisp_ok {o : Oper} {D : Orc} {ρ : Operand → Value} {A : AHeap} {v : Value} {A1 : AHeap} (hno : callV o.op = none) (hops : o.op.operands.toList.all zAC = true) (h : xdisp P o D ρ A = .yes v A1) : zAE P ρ o A = some (v,A1) := by
  have slow : xslow P o D ρ A = .yes v A1 → zAE P ρ o A = some (v,A1) := fun h => VR.of_eq h
  obtain ⟨dst,op,ty,pos,after,guard⟩ := o
  unfold zAE
  rw [hops]
  simp only
  have slow' := fun h => by
    have := slow h
    unfold zAE at this
    rw [hops] at this
    simp only at this
    exact this
  clear slow
  cases op
  case move x => cases h; rfl
  case assign x => cases h; rfl
  case pick c a b => exact xpick_ok (D := D) h
  case alloc t => exact xalloc_ok (D := D) (ρ := ρ) h
  case box t x => exact xbox_ok (D := D) h
  case load t a => exact xload_ok (D := D) h
  case store t a x => exact xstore_ok (D := D) h
  case nilCheck x => exact xnil_ok (D := D) h
  case binOp op t x y _ => exact xbin_ok (D := D) h
  case unOp op t x => exact xnot_ok (D := D) (t := t) h
  case fieldAddr t x f => exact xfieldAddr_ok (D := D) h
  case indexAddr t x i => exact xindexAddr_ok (D := D) h
  case extract t i => exact xextract_ok (D := D) h
  case convert src dst' x =>
    replace h : (match cvQ P src dst' (ρ x) A with | some v => VR.yes v A | none => VR.of (zAE P ρ ⟨dst,.convert src dst' x,ty,pos,after,guard⟩ A)) = .yes v A1 := h
    split at h
    · rename_i hc; cases h; exact cvQ_ok hc
    · exact slow' h
  case build t ps => exact xbuild_ok (D := D) h
  case buildSlice t n ps => exact xbuildSlice_ok (D := D) h (fun h => slow' (by unfold xslow; rw [h]; rfl))
  case call c =>
    obtain ⟨cl,args,ats⟩ := c
    cases cl with
    | value f => cases hno
    | invoke r m => exact slow' h
    | builtin b =>
      cases b
      case len => exact xlen_ok (D := D) h
      all_goals exact slow' h
  all_goals exact slow' h
theorem xquick_ok : XOK P (xquick P) := by
  intro D o ρ A v A1 h
  unfold xquick at h
  split at h
  rename_i f hf
  unfold compO at hf
  split at hf
  · rename_i g args _ hop
    cases hf
    exact xcall_ok hop h
  · rename_i hop hops
    refine .inr ⟨callV_none hop,xdisp_ok (D := D) hop hops ?_⟩
    unfold xdisp
    rw [hf]
    exact h
  · cases hf; cases h
end Go.Proofs.Ytdaljohmfnfgiaa.Canon

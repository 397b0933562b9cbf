/- What the proof of this claim is made of. No condition. -/
import Derived.Test.YtdaljohmfnfgiaaCanonFa
namespace Go.Proofs.Ytdaljohmfnfgiaa.Canon
open Go Go.RowKit
noncomputable section
variable {P : Program}
section
variable {ρ : Operand → Value} {d : Option Tmp} {ty : TypeId} {pos : String} {af : Array Edge} {gu : Option (Nat × Bool)} {A : AHeap}
def cl (A : AHeap) (b o : Nat) : Option Value := A.cell ⟨b,o,none⟩
theorem zCE {b o : Nat} {c : Array Value} {t : TypeId} {f : Nat × Nat} {g : Bool} {e : Nat} (h : look A.objs b = some ⟨.cells c t f,g,e⟩) (hr : isRO g e = false) : cl A b o = c[o]? := by
  simp only [cl,AHeap.cell,h,hr]
theorem cl_none {b o : Nat} (h : look A.objs b = none) : cl A b o = none := by
  simp only [cl,AHeap.cell,h]
theorem zBW {A A' : AHeap} {b o : Nat} (h : look A'.objs b = look A.objs b) : cl A' b o = cl A b o := by
  simp only [cl,AHeap.cell,h]
def cls (A : AHeap) (b : Nat) : Nat → Nat → Option (List Value)
  | _,0 => some []
  | o,n + 1 => match cl A b o with
    | some v => match cls A b (o + 1) n with
      | some l => some (v :: l)
      | none => none
    | none => none
theorem cls_get {b : Nat} : ∀ {n o : Nat} {l : List Value},cls A b o n = some l → l.length = n ∧ ∀ j,j < n → cl A b (o + j) = l[j]? := by
  intro n
  induction n with
  | zero => intro o l h; cases h; exact ⟨rfl,fun j hj => by omega⟩
  | succ n ih =>
    intro o l h
    simp only [cls] at h
    split at h
    · rename_i v hv
      split at h
      · rename_i l' hl
        cases h
        obtain ⟨h1,h2⟩ := ih hl
        refine ⟨by simp [h1],fun j hj => ?_⟩
        cases j with
        | zero => simpa using hv
        | succ j =>
          rw [show o + (j + 1) = o + 1 + j by omega,h2 j (by omega)]
          simp
      · cases h
    · cases h
def ld (P : Program) (t : TypeId) (v : Value) (A : AHeap) : Option (Value × AHeap) := match adr v with
  | some (b,o) => match tk P t with
    | .one => match cl A b o with
      | some u => some (u,A)
      | none => none
    | .row n => match cls A b o n with
      | some l => some (.agg ⟨l⟩,A)
      | none => none
    | .none => none
  | none => none
theorem ae_load {t : TypeId} {x : Operand} (h : zAC x = true) {r : Value × AHeap} (hr : ld P t (ρ x) A = some r) : zAE P ρ ⟨d,.load t x,ty,pos,af,gu⟩ A = some r := by
  unfold ld at hr
  split at hr
  · rename_i b o ha
    have ha := adr_eq ha
    have hop : (Op.load t x).operands.toList.all zAC = true := by simp [Op.operands,h]
    unfold zAE
    simp only [hop,ha]
    split at hr
    · rename_i ht
      split at hr
      · rename_i u hu
        cases hr
        have hu : A.cell ⟨b,o,none⟩ = some u := hu
        simp [Instr.loadAt,Instr.sureAddr,Go.loadVar,(tk_one ht _).1,Go.load,arun,hu]
      · cases hr
    · rename_i n ht
      split at hr
      · rename_i l hl
        cases hr
        obtain ⟨h1,h2⟩ := cls_get hl
        have hlc := zBB (P := P) (A := A) (a := ⟨b,o,none⟩) n 0 #[] l h1 (fun j hj => by
          rw [← h2 j hj]
          show A.cell _ = A.cell _
          congr 1
          unfold Addr.add
          by_cases hz : 0 + j = 0
          · have : j = 0 := by omega
            subst this
            simp
          · simp only [hz,if_false]
            simp)
        have hlc : arun P (Go.loadCells ⟨b,o,none⟩ n) A = some (⟨l⟩,A) := by simpa [Go.loadCells] using hlc
        simp [Instr.loadAt,Instr.sureAddr,Go.loadVar,(tk_row ht _).1,(tk_row ht _).2,hlc]
      · cases hr
    · cases hr
  · cases hr
def st1 (A : AHeap) (b o : Nat) (v : Value) : Option AHeap := A.set ⟨b,o,none⟩ v
theorem st1_of {b o : Nat} {v : Value} {c : Array Value} {t : TypeId} {f : Nat × Nat} {g : Bool} {e : Nat} (h : look A.objs b = some ⟨.cells c t f,g,e⟩) (hr : isRO g e = false) (ho : o < c.size) (hv : zBY v = true) :
    st1 A b o v = some ⟨A.next,putO A.objs b (.cells (c.setIfInBounds o v) t f)⟩ := by
  have : Nat.blt o c.size = true := by rw [Nat.blt_eq]; exact ho
  simp only [st1,AHeap.set,h,hr,hv,this]
def sts (A : AHeap) (b : Nat) : Nat → List Value → Option AHeap
  | _,[] => some A
  | o,v :: l => match st1 A b o v with
    | some A1 => sts A1 b (o + 1) l
    | none => none
def str (P : Program) (t : TypeId) (p v : Value) (A : AHeap) : Option (Value × AHeap) := match adr p with
  | some (b,o) => match tk P t with
    | .one => match st1 A b o v with
      | some A1 => some (undef,A1)
      | none => none
    | .row n => match v with
      | .agg c => match Nat.beq c.size n with
        | true => match sts A b o c.toList with
          | some A1 => some (undef,A1)
          | none => none
        | false => none
      | _ => none
    | .none => none
  | none => none
theorem st1_cell {b o : Nat} {v : Value} {A1 : AHeap} (h : st1 A b o v = some A1) : zBY v = true := by
  unfold st1 AHeap.set at h
  split at h
  · rename_i hv _ ; exact hv
  · cases h
theorem zBF {v : Value} (h : zBY v = true) : v.cells = #[v] := by
  cases v <;> first | rfl | (cases h; done)
theorem addr_add (b o i : Nat) : (⟨b,o,none⟩ : Addr).add i = ⟨b,o + i,none⟩ := by
  unfold Addr.add
  split
  · rename_i h0; rw [h0]; simp
  · rfl
theorem sts_run {b : Nat} : ∀ {l : List Value} {o i : Nat} {A A1 : AHeap},sts A b (o + i) l = some A1 → arun P (Go.storeCells ⟨b,o,none⟩ l i) A = some ((),A1) := by
  intro l
  induction l with
  | nil => intro o i A A1 h; cases h; rfl
  | cons v l ih =>
    intro o i A A1 h
    simp only [sts] at h
    split at h
    · rename_i A2 h1
      simp only [Go.storeCells,Go.store,zBV,arun,addr_add]
      have h1 : A.set ⟨b,o + i,none⟩ v = some A2 := h1
      simp only [h1,Option.bind_some]
      exact ih (by rwa [show o + i + 1 = o + (i + 1) by omega] at h)
    · cases h
theorem ae_store {t : TypeId} {p x : Operand} (h : zAC p = true ∧ zAC x = true) {r : Value × AHeap} (hr : str P t (ρ p) (ρ x) A = some r) : zAE P ρ ⟨d,.store t p x,ty,pos,af,gu⟩ A = some r := by
  unfold str at hr
  split at hr
  · rename_i b o ha
    have ha := adr_eq ha
    have hop : (Op.store t p x).operands.toList.all zAC = true := by simp [Op.operands,h]
    unfold zAE
    simp only [hop,ha]
    split at hr
    · rename_i ht
      split at hr
      · rename_i A1 h1
        cases hr
        have hc := zBF (st1_cell h1)
        have hs := sts_run (P := P) (b := b) (l := [ρ x]) (o := o) (i := 0) (A := A) (A1 := A1) (by simp [sts,h1])
        simp [Instr.storeAt,Instr.sureAddr,Go.storeVar,(tk_one ht _).2,hc,hs]
      · cases hr
    · rename_i n ht
      split at hr
      · rename_i c hv
        split at hr
        · rename_i hn
          have hn := Nat.eq_of_beq_eq_true hn
          split at hr
          · rename_i A1 h1
            cases hr
            have hs := sts_run (P := P) (b := b) (l := c.toList) (o := o) (i := 0) (A := A) (A1 := A1) h1
            simp [Instr.storeAt,Instr.sureAddr,Go.storeVar,(tk_row ht _).2,hv,Value.cells,hn,hs]
          · cases hr
        · cases hr
      · cases hr
    · cases hr
  · cases hr
theorem ae_move {x : Operand} (h : zAC x = true) : zAE P ρ ⟨d,.move x,ty,pos,af,gu⟩ A = some (ρ x,A) := by
  simp [zAE,Op.operands,h]
theorem ae_assign {x : Operand} (h : zAC x = true) : zAE P ρ ⟨d,.assign x,ty,pos,af,gu⟩ A = some (ρ x,A) := by
  simp [zAE,Op.operands,h]
def pck (c a b : Value) (A : AHeap) : Option (Value × AHeap) := match c with
  | .bool t => match t with
    | true => some (a,A)
    | false => some (b,A)
  | _ => none
theorem ae_pick {c a b : Operand} (h : zAC c = true ∧ zAC a = true ∧ zAC b = true) : zAE P ρ ⟨d,.pick c a b,ty,pos,af,gu⟩ A = pck (ρ c) (ρ a) (ρ b) A := by
  unfold pck
  simp only [zAE,Op.operands,List.all_cons,List.all_nil,h.1,h.2.1,h.2.2,Bool.and_true]
  cases ρ c <;> try rfl
  rename_i t
  cases t <;> rfl
theorem ae_box {t : TypeId} {x : Operand} (h : zAC x = true) : zAE P ρ ⟨d,.box t x,ty,pos,af,gu⟩ A = some (.pointer (some ⟨A.next,0,none⟩),A.push (.cells (ρ x).cells t)) := by
  simp only [zAE,Op.operands,List.all_cons,List.all_nil,h,Bool.and_true]
  simp [Instr.box,newVar,newRow,newObj,arun]
theorem ae_alloc {t : TypeId} {z : Value} (hz : zCG P t = some z) : zAE P ρ ⟨d,.alloc t,ty,pos,af,gu⟩ A = some (.pointer (some ⟨A.next,0,none⟩),A.push (.cells z.cells t)) := by
  unfold zCG at hz
  split at hz
  · rename_i i h1 h2
    simp only [zAE,Op.operands,h1]
    simp [Instr.alloc,Go.zeroValue,Go.typeInfo,h2,hz,newVar,newRow,newObj,arun]
  · cases hz
def fad (P : Program) (t : TypeId) (v : Value) (f : Nat) (A : AHeap) : Option (Value × AHeap) := match fof P t f with
  | some k => match adr v with
    | some (b,o) => some (.pointer (some ⟨b,o + k,none⟩),A)
    | none => none
  | none => none
theorem ae_field {t : TypeId} {x : Operand} {f : Nat} (h : zAC x = true) {r : Value × AHeap} (hr : fad P t (ρ x) f A = some r) : zAE P ρ ⟨d,.fieldAddr t x f,ty,pos,af,gu⟩ A = some r := by
  have hq : zDX P t x f bno ρ A = .yes r.1 r.2 := by
    unfold fad at hr
    unfold zDX
    split at hr
    · rename_i k hk
      simp only [hk]
      split at hr
      · rename_i b o ha
        simp only [ha]
        cases hr
        rfl
      · cases hr
    · cases hr
  have := xquick_ok (P := P) bno ⟨d,.fieldAddr t x f,ty,pos,af,gu⟩ ρ A r.1 r.2 (by
    have : compO P ⟨d,.fieldAddr t x f,ty,pos,af,gu⟩ = .mk (zDX P t x f) := by simp [compO,callV,Op.operands,h,xdispC]
    simp only [xquick,this,hq])
  rcases this with ⟨f,args,ats,e,_⟩ | ⟨_,h2⟩
  · cases e
  · exact h2
def nlen (v : Value) (n : Nat) : Option Nat := match v with
  | .int _ j => if 0 ≤ j ∧ j < (n : Int) then some j.toNat else none
  | _ => none
def idx (P : Program) (t : TypeId) (x i : Value) (A : AHeap) : Option (Value × AHeap) := match eof P t with
  | some z => match x with
    | .slice (some ⟨b,o,none⟩) n _ => match nlen i n with
      | some j => some (.pointer (some ⟨b,o + j * z,none⟩),A)
      | none => none
    | _ => none
  | none => match aof P t with
    | some (n,z) => match adr x with
      | some (b,o) => match nlen i n with
        | some j => some (.pointer (some ⟨b,o + j * z,none⟩),A)
        | none => none
      | none => none
    | none => none
theorem nlen_some {v : Value} {n j : Nat} (h : nlen v n = some j) : ∃ k,v = .int k (j : Int) ∧ j < n := by
  unfold nlen at h
  split at h
  · rename_i k i
    split at h
    · rename_i hi
      cases h
      exact ⟨k,by rw [Int.toNat_of_nonneg hi.1],by omega⟩
    · cases h
  · cases h
theorem ae_index {t : TypeId} {x i : Operand} (h : zAC x = true ∧ zAC i = true) {r : Value × AHeap} (hr : idx P t (ρ x) (ρ i) A = some r) : zAE P ρ ⟨d,.indexAddr t x i,ty,pos,af,gu⟩ A = some r := by
  have hq : zCO P t x i bno ρ A = .yes r.1 r.2 := by
    unfold idx at hr
    unfold zCO
    split at hr
    · rename_i z hz
      simp only [hz]
      split at hr
      · rename_i b o n c hx
        split at hr
        · rename_i j hj
          obtain ⟨k,e,hlt⟩ := nlen_some hj
          cases hr
          have hb : Nat.blt j n = true := by rw [Nat.blt_eq]; exact hlt
          simp only [hx,e]
          show (match Nat.blt j n with | true => _ | false => _) = _
          rw [hb]
        · cases hr
      · cases hr
    · rename_i hz
      simp only [hz]
      split at hr
      · rename_i n z hza
        simp only [hza]
        split at hr
        · rename_i b o hb
          split at hr
          · rename_i j hj
            obtain ⟨k,e,hlt⟩ := nlen_some hj
            cases hr
            have hbb : Nat.blt j n = true := by rw [Nat.blt_eq]; exact hlt
            have hnum : xnum (ρ i) = some j := by rw [e]; rfl
            simp only [hnum,hb,hbb]
          · cases hr
        · cases hr
      · cases hr
  have := xquick_ok (P := P) bno ⟨d,.indexAddr t x i,ty,pos,af,gu⟩ ρ A r.1 r.2 (by
    have : compO P ⟨d,.indexAddr t x i,ty,pos,af,gu⟩ = .mk (zCO P t x i) := by simp [compO,callV,Op.operands,h.1,h.2,xdispC]
    simp only [xquick,this,hq])
  rcases this with ⟨f,args,ats,e,_⟩ | ⟨_,h2⟩
  · cases e
  · exact h2
def bin (P : Program) (op : BinOp) (t : TypeId) (x y : Value) (A : AHeap) : Option (Value × AHeap) := match zCF x y with
  | true => arun P (binOp op t x y) A
  | false => match op with
    | .eql => (aeql P t x y).map fun b => (.bool b,A)
    | .neq => (aeql P t x y).map fun b => (.bool !b,A)
    | _ => none
theorem ae_bin {op : BinOp} {t r : TypeId} {x y : Operand} (h : zAC x = true ∧ zAC y = true) : zAE P ρ ⟨d,.binOp op t x y r,ty,pos,af,gu⟩ A = bin P op t (ρ x) (ρ y) A := by
  simp only [zAE,Op.operands,List.all_cons,List.all_nil,h.1,h.2,Bool.and_true]
  rfl
theorem zAN (t : TypeId) (k : IntKind) (a b : Int) : bin P .lss t (.int k a) (.int k b) A = some (.bool (decide (a < b)),A) := by simp [bin,zCF,binOp,Op.intCmp]
theorem bin_leq (t : TypeId) (k : IntKind) (a b : Int) : bin P .leq t (.int k a) (.int k b) A = some (.bool (decide (a ≤ b)),A) := by simp [bin,zCF,binOp,Op.intCmp]
theorem zBS (t : TypeId) (k : IntKind) (a b : Int) : bin P .gtr t (.int k a) (.int k b) A = some (.bool (decide (b < a)),A) := by simp [bin,zCF,binOp,Op.intCmp]
theorem bin_geq (t : TypeId) (k : IntKind) (a b : Int) : bin P .geq t (.int k a) (.int k b) A = some (.bool (decide (b ≤ a)),A) := by simp [bin,zCF,binOp,Op.intCmp]
theorem bin_eql (t : TypeId) (k : IntKind) (a b : Int) : bin P .eql t (.int k a) (.int k b) A = some (.bool (decide (a = b)),A) := by
  have : (a == b) = decide (a = b) := by by_cases h : a = b <;> simp [h]
  simp [bin,zCF,binOp,Op.intCmp,this]
theorem zBX (t : TypeId) (k : IntKind) (a b : Int) : bin P .neq t (.int k a) (.int k b) A = some (.bool (!decide (a = b)),A) := by
  have : (a == b) = decide (a = b) := by by_cases h : a = b <;> simp [h]
  simp [bin,zCF,binOp,Op.intCmp,bne,this]
theorem zAH (t : TypeId) (k : IntKind) (a b : Int) : bin P .add t (.int k a) (.int k b) A = some (.int k (k.wrap (a + b)),A) := by simp [bin,zCF,binOp,Op.intArith]
theorem zBR (t : TypeId) (k : IntKind) (a b : Int) : bin P .sub t (.int k a) (.int k b) A = some (.int k (k.wrap (a - b)),A) := by simp [bin,zCF,binOp,Op.intArith]
theorem bin_mul (t : TypeId) (k : IntKind) (a b : Int) : bin P .mul t (.int k a) (.int k b) A = some (.int k (k.wrap (a * b)),A) := by simp [bin,zCF,binOp,Op.intArith]
theorem zCS (t : TypeId) (k : IntKind) (a b : Int) (h : b ≠ 0) : bin P .rem t (.int k a) (.int k b) A = some (.int k (a.tmod b),A) := by simp [bin,zCF,binOp,Op.intDiv,h]
theorem bin_quo (t : TypeId) (k : IntKind) (a b : Int) (h : b ≠ 0) : bin P .quo t (.int k a) (.int k b) A = some (.int k (k.wrap (a.tdiv b)),A) := by simp [bin,zCF,binOp,Op.intDiv,h]
def ext (v : Value) (i : Nat) (A : AHeap) : Option (Value × AHeap) := match v with
  | .tuple vs => match vs[i]? with
    | some u => some (u,A)
    | none => none
  | _ => none
theorem ae_extract {x : Operand} {i : Nat} (h : zAC x = true) {r : Value × AHeap} (hr : ext (ρ x) i A = some r) : zAE P ρ ⟨d,.extract x i,ty,pos,af,gu⟩ A = some r := by
  unfold ext at hr
  split at hr
  · rename_i vs hv
    split at hr
    · rename_i u hu
      cases hr
      simp [zAE,Op.operands,h,hv,Instr.extract,hu]
    · cases hr
  · cases hr
def lng (P : Program) (t : TypeId) (v : Value) (A : AHeap) : Option (Value × AHeap) := match P.underlying t,v with
  | some (.slice _),.slice _ n _ => some (.int .i64 (n : Int),A)
  | some .string,.string s => some (.int .i64 (s.size : Int),A)
  | _,_ => none
theorem ae_len {t : TypeId} {x : Operand} (h : zAC x = true) {r : Value × AHeap} (hr : lng P t (ρ x) A = some r) : zAE P ρ ⟨d,.call ⟨.builtin .len,#[x],#[t]⟩,ty,pos,af,gu⟩ A = some r := by
  unfold lng at hr
  split at hr
  · rename_i e n c ht hv
    cases hr
    simp [zAE,Op.operands,Call.operands,h,zDR,Builtin.len_,Go.underlying,ht,hv,goInt]
  · rename_i s ht hv
    cases hr
    simp [zAE,Op.operands,Call.operands,h,zDR,Builtin.len_,Go.underlying,ht,hv,goInt]
  · cases hr
end
theorem zAY (s : Slots) (t : Tmp) : zBP s (.tmp t) = sget s t := rfl
theorem zAS (s : Slots) (v : Value) : zBP s (.const v) = v := rfl
theorem zAK (s : Slots) (v : Value) : sput s none v = s := rfl
theorem sp_n (s : Slots) (d : Option Tmp) (v : Value) : (sput s d v).n = s.n := by cases d <;> rfl
theorem zAU {s : Slots} {t : Tmp} {v : Value} (h : t < s.n) : sget (sput s (some t) v) t = v := by
  have : Nat.ble s.n t = false := by
    cases hb : Nat.ble s.n t with
    | false => rfl
    | true => exact absurd h (Nat.not_lt_of_le (Nat.le_of_ble_eq_true hb))
  simp [sget,sput,this,Tr.get_set]
theorem zAT {s : Slots} {d t : Tmp} {v : Value} (h : d ≠ t) : sget (sput s (some d) v) t = sget s t := by
  have hb : ¬ bits d = bits t := fun he => h (bits_inj he)
  simp [sget,sput,Tr.get_set,hb]
theorem s_in1 (n : Nat) (a : Value) : (⟨n,zDZ [a] 0 .leaf⟩ : Slots) = sput ⟨n,.leaf⟩ (some 0) a := rfl
theorem s_in2 (n : Nat) (a b : Value) : (⟨n,zDZ [a,b] 0 .leaf⟩ : Slots) = sput (sput ⟨n,.leaf⟩ (some 0) a) (some 1) b := rfl
theorem s_in3 (n : Nat) (a b c : Value) : (⟨n,zDZ [a,b,c] 0 .leaf⟩ : Slots) = sput (sput (sput ⟨n,.leaf⟩ (some 0) a) (some 1) b) (some 2) c := rfl
theorem s_in4 (n : Nat) (a b c e : Value) : (⟨n,zDZ [a,b,c,e] 0 .leaf⟩ : Slots) = sput (sput (sput (sput ⟨n,.leaf⟩ (some 0) a) (some 1) b) (some 2) c) (some 3) e := rfl
theorem zAX (s : Slots) : zCM .free s = true := rfl
theorem zAP (d : Tmp) (w : Bool) (s : Slots) : zCM (.slot d w) s = match sget s d with
  | .bool b => beqB b w
  | _ => false := rfl
theorem push_next (A : AHeap) (o : Obj) : (A.push o).next = A.next + 1 := rfl
theorem look_push (A : AHeap) (o : Obj) (b : Nat) : look (A.push o).objs b = if A.next = b then some ⟨o,false,0⟩ else look A.objs b := by
  show look (zDU A.next ⟨o,false,0⟩ A.objs) b = _
  rw [zCN]
  by_cases h : A.next = b
  · subst h; simp
  · have : Nat.beq A.next b = false := by
      cases hb : Nat.beq A.next b with
      | false => rfl
      | true => exact absurd (Nat.eq_of_beq_eq_true hb) h
    rw [this,if_neg h]
theorem zAI (A : AHeap) (o : Obj) : look (A.push o).objs A.next = some ⟨o,false,0⟩ := by rw [look_push,if_pos rfl]
theorem look_push_ne {A : AHeap} {o : Obj} {b : Nat} (h : A.next ≠ b) : look (A.push o).objs b = look A.objs b := by rw [look_push,if_neg h]
theorem cl_push_eq (A : AHeap) (c : Array Value) (t : TypeId) (f : Nat × Nat) (o : Nat) : cl (A.push (.cells c t f)) A.next o = c[o]? := zCE (zAI _ _) rfl
end
end Go.Proofs.Ytdaljohmfnfgiaa.Canon

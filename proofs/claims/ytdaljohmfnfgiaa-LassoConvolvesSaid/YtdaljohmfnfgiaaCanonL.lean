/- What the proof of this claim is made of. No condition. -/
import Derived.Test.YtdaljohmfnfgiaaCanonK
import Derived.Laws.IdiomStrings
namespace Go.Proofs.Ytdaljohmfnfgiaa.Canon
open Go Go.RowKit
noncomputable section
section
variable {P : Program}
def zAC : Operand → Bool
  | .tmp _ => true
  | .const v => zCI v
  | .global _ => false
  | .func _ => true
def OpR (φ : Phi) (ρ ρ' : Operand → Value) : Prop := ∀ x,zAC x = true → V φ (ρ x) (ρ' x)
def aeql (P : Program) (t : TypeId) (x y : Value) : Option Bool :=
  match x,y with
  | .agg _,.agg _ => match P.eqGuardType P.depth t with
    | false => aeq P deep t x y
    | true => none
  | .nilIface,_ => none
  | .int _ _,_ => none
  | .string _,_ => none
  | .iface _ _,_ => none
  | _,.iface _ _ => none
  | _,_ => aeq P deep t x y
def adel (P : Program) (ats : Array TypeId) (xs : Array Value) (A : AHeap) : Option (Value × AHeap) :=
  match ats[0]?,xs.toList with
  | some t,m :: k :: _ => match P.underlying t,m with
    | some (.map kt _),.map (some r) => match amap A r,akey P deep kt k with
      | some (es,c),true => match afind P kt k es.toList 0 with
        | some (some (i,_)) => (A.setObj r (.map ⟨es.toList.eraseIdx i⟩ c)).map fun A => (.tuple #[],A)
        | some none => (A.setObj r (.map es c)).map fun A => (.tuple #[],A)
        | none => none
      | _,_ => none
    | some (.map kt _),.map none => match akey P deep kt k with
      | true => some (.tuple #[],A)
      | false => none
    | _,_ => none
  | _,_ => none
def zDR (P : Program) (b : Builtin) (ats : Array TypeId) (ty : TypeId) (xs : Array Value) (A : AHeap) : Option (Value × AHeap) :=
  match b with
  | .len => arun P (Builtin.len_ ats ty xs) A
  | .append => match xs.toList with
    | [_,.int _ _] => azeros P ats xs A
    | _ => aapp P ats xs A
  | .copy => arun P (Builtin.copy_ ats ty xs) A
  | .clear => match ats[0]? with
    | some t => match P.underlying t with
      | some (.slice e) => match zok P e with
        | true => arun P (Builtin.clear_ ats ty xs) A
        | false => none
      | _ => arun P (Builtin.clear_ ats ty xs) A
    | none => none
  | .min => match xs.toList.all isNum with
    | true => arun P (Builtin.min_ ats ty xs) A
    | false => none
  | .max => match xs.toList.all isNum with
    | true => arun P (Builtin.max_ ats ty xs) A
    | false => none
  | .cap => acap P ats xs A
  | .delete => adel P ats xs A
  | _ => none
def anil : Value → Bool
  | .pointer (some _) | .func _ _ _ => true
  | _ => false
def aconvert (P : Program) (src dst : TypeId) (x : Value) (A : AHeap) : Option (Value × AHeap) :=
  match x with
  | .int _ _ => match P.underlying dst with
    | some (.int _) => arun P (convert src dst x) A
    | some .string => arun P (convert src dst x) A
    | _ => none
  | .string s => match P.underlying dst with
    | some .string => arun P (convert src dst x) A
    | some (.slice e) => match P.underlying src,P.underlying e,Nat.beq s.size 0 with
      | some .string,some (.int .u8),false => some (.slice (some ⟨A.next,0,none⟩) s.size s.size,⟨A.next + 1,zDU A.next ⟨.cells (byteCells s).toArray e,true,1⟩ A.objs⟩)
      | _,_,_ => none
    | _ => none
  | .slice _ _ _ => match P.underlying src,P.underlying dst with
    | some (.slice e),some .string => match P.underlying e with
      | some (.int .u8) => arun P (convert src dst x) A
      | _ => none
    | _,_ => none
  | _ => none
def aarr (P : Program) (t : TypeId) (v : Value) (A : AHeap) : Option (Value × AHeap) := match P.underlying t with
  | some (.array n _) => match v with
    | .slice (some ⟨b,o,none⟩) len _ => match Nat.ble n len with
      | true => some (.pointer (some ⟨b,o,none⟩),A)
      | false => none
    | _ => none
  | _ => none
def zAE (P : Program) (ρ : Operand → Value) (o : Oper) (A : AHeap) : Option (Value × AHeap) :=
  match o.op.operands.toList.all zAC with
  | false => none
  | true => match o.op with
    | .move x => some (ρ x,A)
    | .assign x => some (ρ x,A)
    | .pick c a b => match ρ c with
      | .bool true => some (ρ a,A)
      | .bool false => some (ρ b,A)
      | _ => none
    | .alloc t => match zok P t with
      | true => arun P (Instr.alloc t true (.tuple #[])) A
      | false => none
    | .box t x => arun P (Instr.box t (ρ x)) A
    | .build t ps => match zok P t with
      | true => arun P (Instr.build t (ps.map fun (i,x) => (i,ρ x))) A
      | false => none
    | .buildSlice t n ps => match P.underlying t with
      | some (.slice e) => match zok P e with
        | true => arun P (Instr.buildSlice t n (ps.map fun (i,x) => (i,ρ x))) A
        | false => none
      | _ => none
    | .load t a => arun P (Instr.loadAt t (ρ a)) A
    | .store t a x => (arun P (Instr.storeAt t (ρ a) (ρ x)) A).map fun p => (undef,p.2)
    | .nilCheck x => match anil (ρ x) with
      | true => some (ρ x,A)
      | false => none
    | .binOp op t x y _ => match zCF (ρ x) (ρ y) with
      | true => arun P (binOp op t (ρ x) (ρ y)) A
      | false => match op with
        | .eql => (aeql P t (ρ x) (ρ y)).map fun b => (.bool b,A)
        | .neq => (aeql P t (ρ x) (ρ y)).map fun b => (.bool !b,A)
        | _ => none
    | .unOp op _ x => arun P (Op.unary op (ρ x)) A
    | .convert src dst x => aconvert P src dst (ρ x) A
    | .sliceToArrayPointer t x => aarr P t (ρ x) A
    | .makeFunc (.func f) first captured => some (.func (.func f) (first.map ρ) (captured.map ρ),A)
    | .makeMap t none => arun P (Instr.makeMap t none) A
    | .makeSlice t l c => match P.underlying t with
      | some (.slice e) => match zok P e with
        | true => arun P (Instr.makeSlice t (ρ l) (ρ c)) A
        | false => none
      | _ => none
    | .slice t x lo hi mx => asl P t (ρ x) (lo.map ρ) (hi.map ρ) (mx.map ρ) A
    | .fieldAddr s x f => arun P (Instr.fieldAt s (ρ x) f) A
    | .field t x f => arun P (Instr.field t (ρ x) f) A
    | .indexAddr t x i => arun P (Instr.indexAt t (ρ x) (ρ i)) A
    | .index t x i => arun P (Instr.index t (ρ x) (ρ i)) A
    | .lookup t x i ok => aget P t (ρ x) (ρ i) ok A
    | .mapUpdate t m k x => (aput P t (ρ m) (ρ k) (ρ x) A).map fun p => (undef,p.2)
    | .insert t m k x => (aput P t (ρ m) (ρ k) (ρ x) A).map fun p => (undef,p.2)
    | .mapEntry t m k => amentry P t (ρ m) (ρ k) A
    | .entryStore _ m s x => (aestore (ρ m) (ρ s) (ρ x) A).map fun p => (undef,p.2)
    | .range t x => arange P t (ρ x) A
    | .next it true => anext (ρ it) A
    | .extract t i => arun P (Instr.extract (ρ t) i) A
    | .call c => match c.callee with
      | .builtin b => zDR P b c.argTypes o.type (c.args.map ρ) A
      | _ => none
    | _ => none
def NR (φ : Phi) (v : Value) (x : Next) : Prop := (∃ v',x = .value v' ∧ V φ v v') ∨ (x = .skip ∧ v = undef)
theorem Q.value {φ : Phi} {c : AHeap → Option (Value × AHeap)} {s : Sem Value} (h : Q P V c φ s) : Q P NR c φ (do Pure.pure (Next.value (← s))) := by
  intro N A w v A1 hs hN he
  obtain ⟨ψ,b,w1,h1,h2,h3,h4,h5⟩ := h N A w v A1 hs hN he
  exact ⟨ψ,.value b,w1,h1,.inl ⟨b,rfl,h2⟩,h3,by simp [h4],h5⟩
theorem Q.skip {φ : Phi} {c : AHeap → Option (Unit × AHeap)} {s : Sem Unit} (h : Q P EqR c φ s) : Q P NR (fun A => (c A).map fun p => (undef,p.2)) φ (do s; Pure.pure Next.skip) := by
  intro N A w v A1 hs hN he
  change (c A).map _ = _ at he
  cases hc : c A with
  | none => rw [hc] at he; cases he
  | some p =>
    rw [hc] at he
    simp only [Option.map_some,zOi,Prod.mk.injEq] at he
    obtain ⟨rfl,rfl⟩ := he
    obtain ⟨ψ,b,w1,h1,h2,h3,h4,h5⟩ := h N A w p.1 p.2 hs hN hc
    exact ⟨ψ,.skip,w1,h1,.inr ⟨rfl,rfl⟩,h3,by simp [h4],h5⟩
theorem Q.same {φ : Phi} {v v' : Value} (h : V φ v v') : Q P NR (fun A => some (v,A)) φ (Pure.pure (Next.value v')) := by
  intro N A w u A1 hs hN he
  cases he
  exact ⟨φ,_,w,Phi.le_refl _,.inl ⟨v',rfl,h⟩,hs,rfl,Kept.refl _ _⟩
theorem aeql_run {φ : Phi} {op : BinOp} (hop : op = .eql ∨ op = .neq) {t : TypeId} {xo yo : Operand} {x y x' y' : Value} {b : Bool} (h : aeql P t x y = some b) (hx : V φ x x') (hy : V φ y y') (w : World) :
    (do eqGuard op t xo yo x' y'; binOp op t x' y' : Sem Value).run P w = .ok (.bool (if op = .eql then b else !b)) w := by
  have key : aeq P deep t x y = some b ∧ (eqGuard op t xo yo x' y').run P w = .ok () w ∧ (∀ k n,x ≠ .int k n) ∧ (∀ s,x ≠ .string s) ∧ (∀ t v,x ≠ .iface t v) ∧ (∀ t v,y ≠ .iface t v) := by
    unfold aeql at h
    split at h
    · rename_i xs ys
      split at h
      · rename_i hg
        refine ⟨h,?_,by simp,by simp,by simp,by simp⟩
        cases hx
        cases hy
        exact run_eqGuard_agg w op t xo yo _ _ hg
      · cases h
    · cases h
    · cases h
    · cases h
    · cases h
    · cases h
    · rename_i h2 h3 h4 h5 h6 h1
      refine ⟨h,?_,fun k n => h3 k n,fun s => h4 s,fun t v => h5 t v,fun t v => h6 t v⟩
      have hne : ¬ ((∃ xs ys,x' = .agg xs ∧ y' = .agg ys) ∨ (x' = .nilIface ∧ y' = .nilIface)) := by
        rintro (⟨xs,ys,rfl,rfl⟩ | ⟨rfl,rfl⟩)
        · cases hx
          · exact h5 _ _ rfl
          · cases hy
            · exact h6 _ _ rfl
            · exact h1 _ _ rfl rfl
        · cases hx
          · exact h5 _ _ rfl
          · exact h2 rfl
      unfold eqGuard
      rcases hop with rfl | rfl
      · cases x' <;> cases y' <;> first | (simp; done) | (simp at hne)
      · cases x' <;> cases y' <;> first | (simp; done) | (simp at hne)
  obtain ⟨k1,k2,k3,k4,k5,k6⟩ := key
  have heq := aeq_equal k1 hx hy w
  simp only [Sem.run_bind,k2,Result.andThen_ok]
  have hb : binOp op t x' y' = (Op.equal t x' y' >>= fun r => Pure.pure (.bool (if op = .eql then r else !r))) := by
    rcases hop with rfl | rfl
    · cases hx <;> first | exact absurd rfl (k3 _ _) | exact absurd rfl (k4 _) | exact absurd rfl (k5 _ _) | (cases hy <;> first | exact absurd rfl (k6 _ _) | rfl)
    · cases hx <;> first | exact absurd rfl (k3 _ _) | exact absurd rfl (k4 _) | exact absurd rfl (k5 _ _) | (cases hy <;> first | exact absurd rfl (k6 _ _) | rfl)
  rw [hb]
  simp [heq]
theorem OpR.map {φ : Phi} {ρ ρ' : Operand → Value} (h : OpR φ ρ ρ') {l : Array Operand} (hl : ∀ x ∈ l,zAC x = true) : AR φ (l.map ρ) (l.map ρ') := AR.map _ _ _ fun x hx => h x (hl x hx)
theorem OpR.opt {φ : Phi} {ρ ρ' : Operand → Value} (h : OpR φ ρ ρ') {l : Option Operand} (hl : ∀ x ∈ l,zAC x = true) : OV φ (l.map ρ) (l.map ρ') := by
  cases l with
  | none => trivial
  | some x => exact h x (hl x rfl)
theorem OpR.parts {φ : Phi} {ρ ρ' : Operand → Value} (h : OpR φ ρ ρ') {l : Array (Nat × Operand)} (hl : ∀ p ∈ l,zAC p.2 = true) : PR φ (l.map fun (i,x) => (i,ρ x)).toList (l.map fun (i,x) => (i,ρ' x)).toList := by
  rw [Array.toList_map,Array.toList_map]
  exact PR.map _ _ _ fun p hp => h p.2 (hl p (by simpa using hp))
theorem EL.erase {φ : Phi} : ∀ {l l' : List MapEntry},EL φ l l' → ∀ i,EL φ (l.eraseIdx i) (l'.eraseIdx i)
  | _,_,.nil,_ => by simpa using EL.nil
  | _,_,.cons h1 h2 h3 t,0 => by simpa using t
  | _,_,.cons h1 h2 h3 t,i + 1 => by simpa using EL.cons h1 h2 h3 (t.erase i)
theorem Q.del {φ : Phi} (ats : Array TypeId) (ty : TypeId) {xs xs' : Array Value} (h : AR φ xs xs') : Q P V (adel P ats xs) φ (Builtin.delete_ ats ty xs') := by
  intro N A w v A1 hs hN he
  unfold adel at he
  split at he
  · rename_i t m k rest ht hxs
    have hx0 : xs[0]? = some m := by rw [← Array.getElem?_toList,hxs]; rfl
    have hx1 : xs[1]? = some k := by rw [← Array.getElem?_toList,hxs]; rfl
    obtain ⟨m',g0,hm⟩ := h.get hx0
    obtain ⟨k',g1,hk⟩ := h.get hx1
    split at he
    · rename_i kt et r hu
      cases hm
      rename_i e hr
      split at he
      · rename_i es c ha hak
        obtain ⟨es',h1,h2⟩ := amap_run hs hr ha
        have hkd : ∃ kd,P.underlying kt = some kd := by
          cases hku : P.underlying kt with
          | none => simp [akey,deep,hku] at hak
          | some kd => exact ⟨kd,rfl⟩
        obtain ⟨kd,hkd⟩ := hkd
        have hg : (Go.getObj e.blk).run P w = .ok (.map es' c) w := by simp [Go.getObj,Sem.run,h1]
        split at he
        · rename_i i u hf
          obtain ⟨r',k1,k2⟩ := afind_run hkd hk h2.list hf
          cases hA : A.setObj r (.map ⟨es.toList.eraseIdx i⟩ c) with
          | none => rw [hA] at he; cases he
          | some A' =>
            rw [hA] at he
            simp only [Option.map_some,zOi,Prod.mk.injEq] at he
            obtain ⟨rfl,rfl⟩ := he
            cases r' with
            | none => exact k2.elim
            | some p =>
              obtain ⟨j,v'⟩ := p
              obtain ⟨rfl,k3⟩ := k2
              have her : ER φ ⟨es.toList.eraseIdx i⟩ (es'.eraseIdxIfInBounds i) := by
                have := (h2.list.erase i).array
                have heq : es'.eraseIdxIfInBounds i = (es'.toList.eraseIdx i).toArray := by
                  refine Array.ext' ?_
                  simp
                rw [heq]
                exact this
              have hor : OR φ (.map ⟨es.toList.eraseIdx i⟩ c) (.map (es'.eraseIdxIfInBounds i) c) := ⟨rfl,her⟩
              obtain ⟨q1,q2,q3⟩ := hs.setObj hr hor hA
              refine ⟨φ,.tuple #[],_,Phi.le_refl _,.tuple rfl (fun i h => by simp at h),q2,?_,q3⟩
              simp only [Builtin.delete_,ht,g0,g1,Sem.run_bind,run_underlying hu,Result.andThen_ok,hg,zCJ _ hak hk,k1]
              simp [Go.setObj,Sem.run,h1]
        · rename_i hf
          obtain ⟨r',k1,k2⟩ := afind_run hkd hk h2.list hf
          cases hA : A.setObj r (.map es c) with
          | none => rw [hA] at he; cases he
          | some A' =>
            rw [hA] at he
            simp only [Option.map_some,zOi,Prod.mk.injEq] at he
            obtain ⟨rfl,rfl⟩ := he
            cases r' with
            | some p => exact k2.elim
            | none =>
              have hor : OR φ (.map es c) (.map es' c) := ⟨rfl,h2⟩
              obtain ⟨q1,q2,q3⟩ := hs.setObj hr hor hA
              refine ⟨φ,.tuple #[],_,Phi.le_refl _,.tuple rfl (fun i h => by simp at h),q2,?_,q3⟩
              simp only [Builtin.delete_,ht,g0,g1,Sem.run_bind,run_underlying hu,Result.andThen_ok,hg,zCJ _ hak hk,k1]
              simp [Go.setObj,Sem.run,h1]
        · cases he
      · cases he
    · rename_i kt et hu
      cases hm
      split at he
      · rename_i hak
        cases he
        refine ⟨φ,.tuple #[],w,Phi.le_refl _,.tuple rfl (fun i h => by simp at h),hs,?_,Kept.refl _ _⟩
        simp only [Builtin.delete_,ht,g0,g1,Sem.run_bind,run_underlying hu,Result.andThen_ok,zCJ _ hak hk]
        simp
      · cases he
    · cases he
  · cases he
theorem Q.nope {R : Phi → Value → Next → Prop} {φ : Phi} {t : Sem Next} : Q P R (fun _ => none) φ t := fun _ _ _ _ _ _ _ he => by cases he
theorem Q.builtin {φ : Phi} (b : Builtin) (ats : Array TypeId) (ty : TypeId) (cs : Array Bool) {xs xs' : Array Value} (h : AR φ xs xs') : Q P NR (zDR P b ats ty xs) φ (Go.builtin b ats ty cs xs') := by
  intro N A w v A1 hs hN he
  cases b <;> simp only [zDR] at he <;> try (cases he; done)
  case len => exact Q.value (Q.len ats ty h) N A w v A1 hs hN he
  case append =>
    split at he
    · exact Q.value (Q.zerosOn ty h) N A w v A1 hs hN he
    · exact Q.value (Q.append ty h) N A w v A1 hs hN he
  case copy => exact Q.value (Q.copy ats ty h) N A w v A1 hs hN he
  case clear =>
    have fin : (∀ t e,ats[0]? = some t → P.underlying t = some (.slice e) → zok P e = true) → arun P (Builtin.clear_ ats ty xs) A = some (v,A1) → _ := fun hz he => Q.value (Q.clear ats ty h hz) N A w v A1 hs hN he
    split at he
    · rename_i t h0
      split at he
      · rename_i e hu
        split at he
        · rename_i hz
          exact fin (fun t' e' h1 h2 => by rw [h0] at h1; cases h1; rw [hu] at h2; cases h2; exact hz) he
        · cases he
      · rename_i hu
        exact fin (fun t' e' h1 h2 => by rw [h0] at h1; cases h1; exact absurd h2 (hu e')) he
    · cases he
  case min =>
    split at he
    · rename_i hn; exact Q.value (Q.min ats ty h hn) N A w v A1 hs hN he
    · cases he
  case max =>
    split at he
    · rename_i hn; exact Q.value (Q.max ats ty h hn) N A w v A1 hs hN he
    · cases he
  case cap => exact Q.value (Q.cap ty h) N A w v A1 hs hN he
  case delete => exact Q.value (Q.del ats ty h) N A w v A1 hs hN he
theorem Q.bytesOf {φ : Phi} (src dst e : TypeId) (s : ByteArray) (hs : P.underlying src = some .string) (hd : P.underlying dst = some (.slice e)) (he : P.underlying e = some (.int .u8)) (h0 : s.size ≠ 0) :
    Q P V (fun A => some (.slice (some ⟨A.next,0,none⟩) s.size s.size,⟨A.next + 1,zDU A.next ⟨.cells (byteCells s).toArray e,true,1⟩ A.objs⟩)) φ (convert src dst (.string s)) := by
  intro N A w v A1 hsim hN hr
  cases hr
  have hcap := grownCap_ge w s.size 0 e
  generalize hc : grownCap w s.size 0 e = cap at hcap
  have hrun := run_bytes_of_string w src dst e s hs hd he
  rw [hc] at hrun
  have hds : s.data.size = s.size := rfl
  have hsz : (bytesRow s cap).size = cap := by simp [bytesRow,hds]; omega
  have hbl : (byteCells s).length = s.size := by simp [byteCells]
  have hle : φ.le (zBE φ A.next ⟨w.heap.size,0,cap,true,1⟩) := addPhi_le hsim.next_none
  refine ⟨zBE φ A.next ⟨w.heap.size,0,cap,true,1⟩,_,_,hle,?_,?_,hrun,?_⟩
  · have hv : V (zBE φ A.next ⟨w.heap.size,0,cap,true,1⟩) (.slice (some ⟨A.next,0,none⟩) s.size s.size) (.slice (some ⟨w.heap.size,0 + 0,none⟩) s.size cap) := by
      refine .slice (e := ⟨w.heap.size,0,cap,true,1⟩) (zCP _ _ _) ?_
      unfold CapR
      rw [if_pos ⟨rfl,h0⟩]
      exact ⟨hcap,by simp⟩
    exact hv
  · refine hsim.add _ _ true 1 _ A.objs rfl rfl (fun k hk _ => heap_alloc_old _ _ hk) (by rw [zCW]; omega) ⟨hN.new,by rw [zCW]; exact Nat.lt_succ_self _⟩ (fun b x hx => ⟨hx,fun e' he' => ?_⟩) ?_
    · have := hsim.base _ _ _ hx he'; intro h; simp only at h; omega
    · refine ⟨rfl,_,_,_,heap_alloc_new _ _,by simp [hsz],by simpa [hbl] using hcap,fun i v hv => ?_,fun i hi hz => ?_,fun h => by cases h⟩
      · have hv : (byteCells s)[i]? = some v := by simpa using hv
        obtain ⟨hi,rfl⟩ := List.getElem?_eq_some_iff.1 hv
        have hi' : i < s.data.size := by rw [hds]; omega
        refine ⟨.int .u8 (s.data[i]).toNat,?_,?_⟩
        · simp only [bytesRow,Nat.zero_add]
          rw [Array.getElem?_append_left (by simpa using hi')]
          rw [Array.getElem?_map,Array.getElem?_eq_getElem hi']
          rfl
        · have : (byteCells s)[i] = .int .u8 (s.data[i]).toNat := by simp [byteCells]
          rw [this]
          exact .int _ _
      · have := hz.1
        rw [hsz] at this
        have hi : i < cap := hi
        have h2 : cap ≤ 0 + i := this
        omega
  · exact ⟨rfl,rfl,rfl,by rw [zCW]; omega,fun k hk => heap_alloc_old _ _ (hN k hk)⟩
theorem Q.arr {φ : Phi} (t : TypeId) {v v' : Value} (h : V φ v v') : Q P V (aarr P t v) φ (Instr.arrayAt t v') := by
  intro N A w u A1 hs hN he
  unfold aarr at he
  split at he
  · rename_i n e hu
    split at he
    · rename_i b o len c
      split at he
      · rename_i hle
        cases he
        have hle := Nat.le_of_ble_eq_true hle
        cases h with
        | slice hb hc =>
          refine ⟨φ,_,w,Phi.le_refl _,.ptr hb,hs,?_,Kept.refl _ _⟩
          have : ¬ len < n := by omega
          simp [Instr.arrayAt,run_underlying hu,this]
      · cases he
    · cases he
  · cases he
theorem Q.conv {φ : Phi} (src dst : TypeId) {x x' : Value} (h : V φ x x') : Q P V (aconvert P src dst x) φ (convert src dst x') := by
  unfold aconvert
  have no : Q P V (fun _ => none) φ (convert src dst x') := fun _ _ _ _ _ _ _ he => by cases he
  cases x <;> try exact no
  case int k n =>
    cases hd : P.underlying dst with
    | none => exact no
    | some d =>
      cases d <;> first
        | exact Q.convertInt src dst h (.inl ⟨_,hd⟩)
        | exact Q.convertInt src dst h (.inr hd)
        | exact no
  case string s =>
    cases hd : P.underlying dst with
    | none => exact no
    | some d =>
      cases d <;> first
        | exact Q.convertString src dst h hd
        | exact no
        | skip
      case slice e =>
        cases hs : P.underlying src with
        | none => exact no
        | some sd =>
          cases sd <;> try exact no
          case string =>
            cases hk : P.underlying e with
            | none => simp only [hk]; exact no
            | some kd =>
              cases kd <;> try (simp only [hk]; exact no)
              case int q =>
                cases q <;> try (simp only [hk]; exact no)
                case u8 =>
                  cases hz : Nat.beq s.size 0 with
                  | true => simp only [hk,hz]; exact no
                  | false =>
                    simp only [hk,hz]
                    cases h
                    exact Q.bytesOf src dst e s hs hd hk (fun h0 => by rw [h0] at hz; cases hz)
  case slice a n c =>
    cases hs : P.underlying src with
    | none => exact no
    | some sd =>
      cases sd <;> try exact no
      case slice e =>
        cases hd : P.underlying dst with
        | none => exact no
        | some d =>
          cases d <;> try exact no
          case string =>
            cases hk : P.underlying e with
            | none => simp only [hk]; exact no
            | some kd =>
              cases kd <;> try (simp only [hk]; exact no)
              case int q =>
                cases q <;> try (simp only [hk]; exact no)
                case u8 => simp only [hk]; exact Q.convertBytes src dst e h hs hk hd ⟨_,_,_,rfl⟩
end
end
end Go.Proofs.Ytdaljohmfnfgiaa.Canon

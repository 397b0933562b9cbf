/- What the proof of this claim is made of. No condition. -/
import Derived.Test.YtdaljohmfnfgiaaCanonD
namespace Go.Proofs.Ytdaljohmfnfgiaa.Canon
open Go Go.RowKit
noncomputable section
section
variable {α β γ δ : Type} {P : Program}
theorem V.sliceNew {φ : Phi} {a a' : Addr} (h : AddrR φ a a') (hg : ∀ e,φ a.block = some e → e.grown = false) (n c : Nat) : V φ (.slice (some a) n c) (.slice (some a') n c) := by
  obtain ⟨b,o,s⟩ := a
  obtain ⟨h1,e,h2,rfl⟩ := h
  simp only at h1
  subst h1
  exact .slice h2 (by simp [CapR,hg e h2])
theorem Q.newObjX {φ : Phi} {o o' : Obj} (ho : OR φ o o') : QS P (fun ψ r r' => ∃ e,ψ r = some e ∧ e.off = 0 ∧ e.grown = false ∧ r' = e.blk) (Go.newObj o) φ (Go.newObj o') := by
  intro N A w u A1 hs hN he
  simp only [Go.newObj,arun,zOi,Prod.mk.injEq] at he
  obtain ⟨rfl,rfl⟩ := he
  obtain ⟨e,he0,heb,hle,hs',hb⟩ := hs.new hN ho
  have hgr : e.grown = false := by
    obtain ⟨e',h1,h2,_⟩ := hs'.alive A.next ⟨o,false,0⟩ (by simp [AHeap.push,zCN,Nat.beq_refl])
    rw [zCP] at h1; cases h1; exact h2
  exact ⟨_,_,_,hle,⟨e,zCP _ _ _,he0,hgr,heb.symm⟩,hs',by simp,hb⟩
theorem Q.newRowX {φ : Phi} {xs xs' : Array Value} (h : AR φ xs xs') (t : TypeId) :
    QS P (fun ψ a a' => AddrR ψ a a' ∧ ∀ e,ψ a.block = some e → e.grown = false) (Go.newRow t xs) φ (Go.newRow t xs') :=
  Q.bind (Q.newObjX (OR.cells h t)) fun ψ r r' _ hr => by
    obtain ⟨e,h1,h2,h3,rfl⟩ := hr
    exact Q.pure ⟨⟨rfl,e,h1,by simp [h2]⟩,fun e' he' => by rw [h1] at he'; cases he'; exact h3⟩
theorem AR.zerosOf {φ : Phi} {v v' : Value} (hv : V φ v v') (n : Nat) : AR φ ((Array.range n).map (v.cells[· % v.cells.size]!)) ((Array.range n).map (v'.cells[· % v'.cells.size]!)) := by
  by_cases hs : v.cells.size = 0
  · have h1 : v.cells = #[] := Array.eq_empty_of_size_eq_zero hs
    have h2 : v'.cells = #[] := Array.eq_empty_of_size_eq_zero (hv.cells.1 ▸ hs)
    rw [h1,h2]
    refine AR.map _ _ _ fun i _ => ?_
    have hd : (#[] : Array Value)[i % (#[] : Array Value).size]! = (default : Value) := by simp
    rw [hd]
    exact closed1_V φ rfl
  · exact AR.zeros hv.cells n (.inr hs)
theorem AR.zerosNone {φ : Phi} (n : Nat) (h : n = 0) : AR φ ((Array.range n).map ((#[] : Array Value)[· % (#[] : Array Value).size]!)) ((Array.range n).map ((#[] : Array Value)[· % (#[] : Array Value).size]!)) := by
  subst h; exact AR.map _ _ _ fun i hi => by simp at hi
theorem Q.buildSlice {φ : Phi} {t elem : TypeId} (ht : P.underlying t = some (.slice elem)) (hz : zok P elem = true) (len : Nat) {ps ps' : Array (Nat × Value)} (h : PR φ ps.toList ps'.toList) :
    QS P V (Instr.buildSlice t len ps) φ (Instr.buildSlice t len ps') := by
  unfold Instr.buildSlice
  refine Q.bind (Q.underlying φ t) fun ψ d d' hl hd => ?_
  obtain ⟨rfl,hun⟩ := hd
  rw [ht] at hun
  cases hun
  simp only
  refine Q.bind (Q.sizeOf ψ elem) fun χ s s' hc hsz => ?_
  obtain ⟨rfl,-⟩ := hsz
  by_cases hbig : len * s > 2 ^ 24
  · exact Q.dead fun A => by simp [hbig]
  · simp only [hbig,if_false,pure_bind]
    have fin : ∀ (ω : Phi) (z z' : Array Value),χ.le ω → AR ω ((Array.range (len * s)).map (z[· % z.size]!)) ((Array.range (len * s)).map (z'[· % z'.size]!)) →
        QS P V (match Instr.fill (fun i => some (i * s,s)) ((Array.range (len * s)).map (z[· % z.size]!)) ps.toList with
            | some cells => do Pure.pure (Value.slice (some (← Go.newRow elem cells)) len len)
            | _ => stuck "buildSlice: a part of the wrong size") ω
          (match Instr.fill (fun i => some (i * s,s)) ((Array.range (len * s)).map (z'[· % z'.size]!)) ps'.toList with
            | some cells => do Pure.pure (Value.slice (some (← Go.newRow elem cells)) len len)
            | _ => stuck "buildSlice: a part of the wrong size") := by
      intro ω z z' ho hzz
      cases hf : Instr.fill (fun i => some (i * s,s)) ((Array.range (len * s)).map (z[· % z.size]!)) ps.toList with
      | none => exact Q.dead fun A => by simp
      | some r =>
        obtain ⟨r',h1,h2⟩ := fill_rel _ (((h.mono hl).mono hc).mono ho) hzz hf
        simp only [h1]
        exact Q.bind (Q.newRowX h2 elem) fun _ a a' _ ha => Q.pure (V.sliceNew ha.1 ha.2 len len)
    by_cases hn : len * s = 0
    · simp only [hn,if_true]
      have := fin χ #[] #[] (Phi.le_refl _) (AR.zerosNone _ hn)
      simp only [hn] at this
      exact this
    · simp only [hn,if_false]
      exact Q.bind (Q.zeroValue χ hz) fun ω v v' ho hv => fin ω _ _ ho (AR.zerosOf hv _)
theorem Q.makeSlice {φ : Phi} {t elem : TypeId} (ht : P.underlying t = some (.slice elem)) (hz : zok P elem = true) {v v' u u' : Value} (hv : V φ v v') (hu : V φ u u') :
    QS P V (Instr.makeSlice t v u) φ (Instr.makeSlice t v' u') := by
  unfold Instr.makeSlice
  refine Q.bind (Q.underlying φ t) fun ψ d d' hl hd => ?_
  obtain ⟨rfl,hun⟩ := hd
  rw [ht] at hun
  cases hun
  simp only
  refine Q.bind (Q.asInt (hv.mono hl)) fun χ n n' hc hn => ?_
  cases hn
  refine Q.bind (Q.asInt ((hu.mono hl).mono hc)) fun ω m m' ho hm => ?_
  cases hm
  refine Q.bind (Q.typeInfo ω elem) fun θ i i' _ hi => ?_
  obtain ⟨rfl,-⟩ := hi
  split
  · refine Q.dead fun A => ?_
    split
    · simp
    · split
      · simp
      · simp [choose,arun,Question.forced]
  · refine Q.bind (R := EqR) (Q.only fun A a A1 h => by simp at h; exact ⟨h.symm,(),fun w => by simp,rfl⟩) fun κ _ _ _ _ => ?_
    refine Q.bind (Q.sizeOf κ elem) fun κ' s s' _ hsz => ?_
    obtain ⟨rfl,-⟩ := hsz
    have fin : ∀ (ω : Phi) (k : Nat) (z z' : Array Value),AR ω ((Array.range k).map (z[· % z.size]!)) ((Array.range k).map (z'[· % z'.size]!)) →
        QS P V (do let a ← Go.newRow elem ((Array.range k).map (z[· % z.size]!)); Pure.pure (Value.slice (some a) (IntKind.i64.wrap n).toNat (IntKind.i64.wrap m).toNat)) ω
          (do let a ← Go.newRow elem ((Array.range k).map (z'[· % z'.size]!)); Pure.pure (Value.slice (some a) (IntKind.i64.wrap n).toNat (IntKind.i64.wrap m).toNat)) := fun ω k z z' hzz =>
      Q.bind (Q.newRowX hzz elem) fun _ a a' _ ha => Q.pure (V.sliceNew ha.1 ha.2 _ _)
    by_cases hn : (IntKind.i64.wrap m).toNat * s = 0
    · simp only [hn,if_true]
      exact fin _ 0 _ _ (AR.zerosNone _ rfl)
    · simp only [hn,if_false]
      exact Q.bind (Q.zeroValue κ' hz) fun ω v v' ho hv => fin _ _ _ _ (AR.zerosOf hv _)
theorem Q.makeMap {φ : Phi} (t : TypeId) : QS P V (Instr.makeMap t none) φ (Instr.makeMap t none) := by
  unfold Instr.makeMap
  simp only
  refine Q.bind (Q.newObj (o := .map #[] 0) (o' := .map #[] 0) ⟨rfl,rfl,fun i h => by simp at h⟩) fun ψ r r' _ hr => ?_
  obtain ⟨e,h1,h2,rfl⟩ := hr
  exact Q.pure (.map h1)
theorem Q.scalar {φ : Phi} {s : Sem Value} (h : ∀ A a A1,arun P s A = some (a,A1) → A1 = A ∧ (∀ w,s.run P w = .ok a w) ∧ closed1 a = true) : QS P V s φ s :=
  Q.only fun A a A1 he => by obtain ⟨h1,h2,h3⟩ := h A a A1 he; exact ⟨h1,a,h2,closed1_V φ h3⟩
def zCF : Value → Value → Bool
  | .int _ _,.int _ _ | .string _,.string _ => true
  | _,_ => false
theorem Q.binPlain {φ : Phi} (op : BinOp) (t : TypeId) {x x' y y' : Value} (hx : V φ x x') (hy : V φ y y') (h : zCF x y = true) : QS P V (binOp op t x y) φ (binOp op t x' y') := by
  cases hx <;> cases hy <;> simp [zCF] at h
  case int.int k n k' n' =>
    refine Q.scalar fun A a A1 he => ?_
    cases op <;> simp only [binOp,Op.shift,Op.intArith,Op.intDiv,Op.intBits,Op.intCmp] at he ⊢ <;> (try (by_cases hk : k ≠ k' <;> simp only [hk,if_true,if_false,ne_eq,zNf,arun_stuck] at he ⊢))
    all_goals first
      | (cases he; done)
      | (simp only [zBK,zOi,Prod.mk.injEq] at he; obtain ⟨rfl,rfl⟩ := he; exact ⟨rfl,fun w => rfl,rfl⟩)
      | (split at he
         · simp at he
         · rename_i hh
           simp only [zBK,zOi,Prod.mk.injEq] at he; obtain ⟨rfl,rfl⟩ := he; rw [if_neg hh]; exact ⟨rfl,fun w => rfl,rfl⟩)
      | (simp at he)
  case string.string s s' =>
    refine Q.scalar fun A a A1 he => ?_
    cases op <;> simp only [binOp,Op.stringOp] at he ⊢
    all_goals first
      | (cases he; done)
      | (simp only [zBK,zOi,Prod.mk.injEq] at he; obtain ⟨rfl,rfl⟩ := he; exact ⟨rfl,fun w => rfl,rfl⟩)
      | (split at he
         · simp at he
         · rename_i hh
           simp only [zBK,zOi,Prod.mk.injEq] at he; obtain ⟨rfl,rfl⟩ := he; rw [if_neg hh]; exact ⟨rfl,fun w => rfl,rfl⟩)
      | (simp at he)
theorem Q.unary {φ : Phi} (op : UnOp) {x x' : Value} (hx : V φ x x') : QS P V (Op.unary op x) φ (Op.unary op x') := by
  cases hx
  case bool b =>
    cases op <;> first
      | exact Q.pure (.bool _)
      | exact Q.dead fun A => by simp [Op.unary]
  case int k n =>
    cases op <;> first
      | exact Q.pure (.int _ _)
      | exact Q.dead fun A => by simp [Op.unary]
  all_goals exact Q.dead fun A => by cases op <;> simp [Op.unary]
theorem Q.extract {φ : Phi} {v v' : Value} (h : V φ v v') (i : Nat) : QS P V (Instr.extract v i) φ (Instr.extract v' i) := by
  cases h
  case tuple xs xs' hx hx' =>
    have h : AR φ xs xs' := ⟨hx,hx'⟩
    unfold Instr.extract
    cases hi : xs[i]? with
    | none => exact Q.dead fun A => by simp [hi]
    | some v =>
      obtain ⟨v',h1,h2⟩ := h.get hi
      simp only [h1,hi]
      exact Q.pure h2
  all_goals exact Q.dead fun A => by simp [Instr.extract]
theorem Q.convertInt {φ : Phi} (src dst : TypeId) {k : IntKind} {n : Int} {x' : Value} (hx : V φ (.int k n) x') (hd : (∃ k',P.underlying dst = some (.int k')) ∨ P.underlying dst = some .string) :
    QS P V (convert src dst (.int k n)) φ (convert src dst x') := by
  cases hx
  refine Q.bind (Q.underlying φ src) fun ψ d d' _ hd1 => ?_
  obtain ⟨rfl,-⟩ := hd1
  refine Q.bind (Q.underlying ψ dst) fun χ e e' _ he => ?_
  obtain ⟨rfl,he⟩ := he
  rcases hd with ⟨k',hd⟩ | hd <;> rw [hd] at he <;> cases he
  · exact Q.pure (.int _ _)
  · exact Q.pure (.string _)
theorem Q.convertString {φ : Phi} (src dst : TypeId) {s : ByteArray} {x' : Value} (hx : V φ (.string s) x') (hd : P.underlying dst = some .string) :
    QS P V (convert src dst (.string s)) φ (convert src dst x') := by
  cases hx
  refine Q.bind (Q.underlying φ src) fun ψ d d' _ hd1 => ?_
  obtain ⟨rfl,-⟩ := hd1
  refine Q.bind (Q.underlying ψ dst) fun χ e e' _ he => ?_
  obtain ⟨rfl,he⟩ := he
  rw [hd] at he
  cases he
  cases d <;> exact Q.pure (.string _)
theorem Q.forIn {σ : Type} {φ : Phi} {R : Phi → σ → σ → Prop} {l l' : List Value} (hl : LR φ l l') {f g : Value → σ → Sem (ForInStep σ)}
    (h : ∀ ψ v v' s s',φ.le ψ → V ψ v v' → R ψ s s' → QS P (fun ψ a b => match a,b with | .done a,.done b => R ψ a b | .yield a,.yield b => R ψ a b | _,_ => False) (f v s) ψ (g v' s')) :
    ∀ {ψ : Phi} {s s' : σ},φ.le ψ → R ψ s s' → QS P R (ForIn.forIn l s f) ψ (ForIn.forIn l' s' g) := by
  induction hl with
  | nil => intro ψ s s' _ hs; exact Q.pure hs
  | cons hv _ ih =>
    intro ψ s s' hle hs
    simp only [List.forIn_cons]
    refine Q.bind (h ψ _ _ s s' hle (hv.mono hle) hs) fun χ a b hc hab => ?_
    cases a <;> cases b <;> simp only at hab
    · exact Q.pure hab
    · exact ih (Phi.le_trans hle hc) hab
theorem Q.bytesToString {φ : Phi} {x x' : Value} (hx : V φ x x') : QS P V (Conv.bytesToString x) φ (Conv.bytesToString x') := by
  unfold Conv.bytesToString
  have fin : ∀ (ψ : Phi) (a a' : Addr) (n : Nat),AddrR ψ a a' →
      QS P V (do
          let mut s := ByteArray.empty
          for c in ← Go.loadCells a n do
            let .int .u8 n := c | stuck "bytesToString: byte expected"
            s := s.push (UInt8.ofNat n.toNat)
          Pure.pure (Value.string s)) ψ
        (do
          let mut s := ByteArray.empty
          for c in ← Go.loadCells a' n do
            let .int .u8 n := c | stuck "bytesToString: byte expected"
            s := s.push (UInt8.ofNat n.toNat)
          Pure.pure (Value.string s)) := by
    intro ψ a a' n ha
    refine Q.bind (Q.loadCells ha n) fun χ xs xs' _ hxs => ?_
    refine Q.bind (R := EqR) ?_ fun ω s s' _ hs => by cases hs; exact Q.pure (.string _)
    simp only [← Array.forIn_toList]
    refine Q.forIn hxs.list (fun θ v v' s s' _ hv hs => ?_) (Phi.le_refl _) rfl
    cases hs
    cases hv
    case int k m =>
      cases k
      case u8 => exact Q.pure rfl
      all_goals exact Q.dead fun A => by simp
    all_goals exact Q.dead fun A => by simp
  cases hx
  case sliceNil n c => exact Q.pure (.string _)
  case slice b o n c c' e he hc => exact fin φ ⟨b,o,none⟩ _ n ⟨rfl,e,he,rfl⟩
  case sliceZ b o s o' c' e he hg hx =>
    simp only
    have h0 : ∀ (a : Addr),(Go.loadCells a 0 : Sem (Array Value)) = Pure.pure #[] := fun a => rfl
    simp only [h0,pure_bind]
    exact Q.pure (.string _)
  case sliceE b o s a =>
    simp only
    have h0 : ∀ (a : Addr),(Go.loadCells a 0 : Sem (Array Value)) = Pure.pure #[] := fun a => rfl
    simp only [h0,pure_bind]
    exact Q.pure (.string _)
  all_goals exact Q.dead fun A => by simp
theorem Q.convertBytes {φ : Phi} (src dst e : TypeId) {x x' : Value} (hx : V φ x x') (hs : P.underlying src = some (.slice e)) (hk : P.underlying e = some (.int .u8)) (hd : P.underlying dst = some .string)
    (hsl : ∃ a n c,x = .slice a n c) : QS P V (convert src dst x) φ (convert src dst x') := by
  refine Q.bind (Q.underlying φ src) fun ψ d d' hl hd1 => ?_
  obtain ⟨rfl,hd1⟩ := hd1
  rw [hs] at hd1
  cases hd1
  refine Q.bind (Q.underlying ψ dst) fun χ e' e'' hc he => ?_
  obtain ⟨rfl,he⟩ := he
  rw [hd] at he
  cases he
  have hx' := (hx.mono hl).mono hc
  have hb := Q.bytesToString (P := P) hx'
  obtain ⟨a,n,c,rfl⟩ := hsl
  have hsl' : ∃ a n c,x' = .slice a n c := by cases hx <;> exact ⟨_,_,_,rfl⟩
  obtain ⟨a',n',c',rfl⟩ := hsl'
  refine Q.bind (Q.underlying χ e) fun ω e1 e2 ho he1 => ?_
  obtain ⟨rfl,he1⟩ := he1
  rw [hk] at he1
  cases he1
  exact Q.bytesToString (hx'.mono ho)
theorem Q.len {φ : Phi} (ats : Array TypeId) (t : TypeId) {xs xs' : Array Value} (h : AR φ xs xs') : QS P V (Builtin.len_ ats t xs) φ (Builtin.len_ ats t xs') := by
  unfold Builtin.len_
  cases ha : ats[0]? with
  | none => exact Q.dead fun A => by simp
  | some t0 =>
    cases hx : xs[0]? with
    | none => exact Q.dead fun A => by simp
    | some x =>
      obtain ⟨x',h1,h2⟩ := h.get hx
      simp only [h1]
      refine Q.bind (Q.underlying φ t0) fun ψ d d' hl hd => ?_
      obtain ⟨rfl,-⟩ := hd
      have h2 := h2.mono hl
      cases d
      case string =>
        cases h2
        case string => exact Q.pure (.int _ _)
        all_goals exact Q.dead fun A => by simp
      case array n e => exact Q.pure (.int _ _)
      case pointer e =>
        refine Q.bind (Q.underlying ψ e) fun χ d d' _ hd => ?_
        obtain ⟨rfl,-⟩ := hd
        cases d
        case array n e => exact Q.pure (.int _ _)
        all_goals exact Q.dead fun A => by simp
      case slice e =>
        cases h2
        case slice => exact Q.pure (.int _ _)
        case sliceZ => exact Q.pure (.int _ _)
        case sliceE => exact Q.pure (.int _ _)
        case sliceNil => exact Q.pure (.int _ _)
        all_goals exact Q.dead fun A => by simp
      case map k e =>
        cases h2
        case mapNil => exact Q.pure (.int _ _)
        case map b en hb =>
          refine Q.bind (Q.getObj hb) fun χ o o' _ ho => ?_
          cases o
          case map es k =>
            cases o' <;> simp only [OR] at ho
            simp only [ho.2.1]
            exact Q.pure (.int _ _)
          all_goals exact Q.dead fun A => by simp
        all_goals exact Q.dead fun A => by simp
      case chan =>
        cases h2 <;> exact Q.dead fun A => by simp
      all_goals exact Q.dead fun A => by simp
end
end
end Go.Proofs.Ytdaljohmfnfgiaa.Canon

/- What the proof of this claim is made of. No condition. -/
import Derived.Test.YtdaljohmfnfgiaaCanonJ
namespace Go.Proofs.Ytdaljohmfnfgiaa.Canon
open Go Go.RowKit
noncomputable section
section
variable {P : Program}
theorem Q.lenOf {φ : Phi} {x x' : Value} (h : V φ x x') : QS P EqR (Builtin.lenOf x) φ (Builtin.lenOf x') := by
  cases h
  case sliceNil => exact Q.pure rfl
  case slice => exact Q.pure rfl
  case sliceZ => exact Q.pure rfl
  case sliceE => exact Q.pure rfl
  case string => exact Q.pure rfl
  all_goals exact Q.dead fun A => rfl
theorem AR.bytes (φ : Phi) (s : ByteArray) (n : Nat) : AR φ ((s.extract 0 n).data.map fun b => Value.int .u8 b.toNat) ((s.extract 0 n).data.map fun b => Value.int .u8 b.toNat) :=
  AR.map _ _ _ fun _ _ => .int _ _
theorem Q.firstCells {φ : Phi} (size n : Nat) {x x' : Value} (h : V φ x x') : QS P AR (Builtin.firstCells size n x) φ (Builtin.firstCells size n x') := by
  cases h
  case sliceNil => exact Q.pure (.nil φ)
  case slice b o m c c' e he hc => exact Q.loadCells (a := ⟨b,o,none⟩) ⟨rfl,e,he,rfl⟩ _
  case sliceZ b o s o' c' e he hg hx =>
    unfold Builtin.firstCells
    cases n * size with
    | zero => exact Q.pure (.nil φ)
    | succ k =>
      refine Q.dead fun A => ?_
      show arun P (Go.load _ .plain >>= _) A = none
      rw [zBV]
      simp [Go.load,arun,AHeap.cell,Addr.add]
  case sliceE b o s a =>
    unfold Builtin.firstCells
    cases n * size with
    | zero => exact Q.pure (.nil φ)
    | succ k =>
      refine Q.dead fun A => ?_
      show arun P (Go.load _ .plain >>= _) A = none
      rw [zBV]
      simp [Go.load,arun,AHeap.cell,Addr.add]
  case string s => exact Q.pure (AR.bytes φ s n)
  all_goals exact Q.dead fun A => rfl
theorem Q.copy {φ : Phi} (ats : Array TypeId) (ty : TypeId) {xs xs' : Array Value} (h : AR φ xs xs') : QS P V (Builtin.copy_ ats ty xs) φ (Builtin.copy_ ats ty xs') := by
  unfold Builtin.copy_
  cases h0 : ats[0]? with
  | none => exact Q.dead fun A => by simp
  | some dt =>
    cases h1 : xs[0]? with
    | none => exact Q.dead fun A => by simp
    | some dst =>
      cases h2 : xs[1]? with
      | none => exact Q.dead fun A => by simp
      | some src =>
        obtain ⟨dst',g1,k1⟩ := h.get h1
        obtain ⟨src',g2,k2⟩ := h.get h2
        simp only [g1,g2]
        refine Q.bind (Q.underlying φ dt) fun ψ d d' hl hd => ?_
        obtain ⟨rfl,-⟩ := hd
        cases d
        case slice e =>
          have k1 := k1.mono hl
          have k2 := k2.mono hl
          have fin : ∀ (b b' : Option Addr) (m : Nat),((b = none ∧ b' = none) ∨ (∃ a a',b = some a ∧ b' = some a' ∧ (AddrR ψ a a' ∨ a.spot ≠ none))) →
              QS P V (do
                  let n := Nat.min (← Builtin.lenOf src) m
                  let cells ← Builtin.firstCells (← Go.sizeOf e) n src
                  if let some a := b then Go.storeCells a cells.toList
                  Pure.pure (goInt n)) ψ
                (do
                  let n := Nat.min (← Builtin.lenOf src') m
                  let cells ← Builtin.firstCells (← Go.sizeOf e) n src'
                  if let some a := b' then Go.storeCells a cells.toList
                  Pure.pure (goInt n)) := by
            intro b b' m hb
            refine Q.bind (Q.lenOf k2) fun χ n n' hc hn => ?_
            cases hn
            refine Q.bind (Q.sizeOf χ e) fun ω s s' ho hs => ?_
            obtain ⟨rfl,-⟩ := hs
            refine Q.bind (Q.firstCells s _ ((k2.mono hc).mono ho)) fun θ cs cs' ht hcs => ?_
            rcases hb with ⟨rfl,rfl⟩ | ⟨a,a',rfl,rfl,ha | hsp⟩
            · exact Q.pure (.int _ _)
            · exact Q.bind (Q.storeCells hcs.list 0 (Phi.le_refl _) (((ha.mono hc).mono ho).mono ht)) fun _ _ _ _ _ => Q.pure (.int _ _)
            · cases hcl : cs.toList with
              | nil =>
                have : cs'.toList = [] := by
                  have hl2 := hcs.list.get.1
                  rw [hcl] at hl2
                  exact List.eq_nil_of_length_eq_zero hl2.symm
                simp only [this]
                exact Q.pure (.int _ _)
              | cons v l =>
                refine Q.dead fun A => ?_
                have : ∀ A,arun P (Go.storeCells a (v :: l) 0) A = none := fun A => by
                  show arun P (Go.store (a.add 0) v .plain >>= _) A = none
                  rw [zBV]
                  have hset : A.set (a.add 0) v = none := by
                    unfold AHeap.set
                    split
                    · rename_i h1 _ _; exact absurd h1 (by simpa [Addr.add] using hsp)
                    · rfl
                  simp [Go.store,arun,hset]
                simp [this]
          cases k1
          case sliceNil n c => exact fin none none n (.inl ⟨rfl,rfl⟩)
          case slice b o n c c' en hen hcr => exact fin (some ⟨b,o,none⟩) _ n (.inr ⟨_,_,rfl,rfl,.inl ⟨rfl,en,hen,rfl⟩⟩)
          case sliceZ b o s o' c' en hen hg hx => exact fin (some ⟨b,o,some s⟩) _ 0 (.inr ⟨_,_,rfl,rfl,.inr (by simp)⟩)
          case sliceE b o s a => exact fin (some ⟨b,o,some s⟩) (some a) 0 (.inr ⟨_,_,rfl,rfl,.inr (by simp)⟩)
          all_goals exact Q.dead fun A => by simp
        all_goals exact Q.dead fun A => by simp
theorem Q.clear {φ : Phi} (ats : Array TypeId) (ty : TypeId) {xs xs' : Array Value} (h : AR φ xs xs') (hz : ∀ t e,ats[0]? = some t → P.underlying t = some (.slice e) → zok P e = true) :
    QS P V (Builtin.clear_ ats ty xs) φ (Builtin.clear_ ats ty xs') := by
  unfold Builtin.clear_
  cases h0 : ats[0]? with
  | none => exact Q.dead fun A => by simp
  | some t =>
    cases h1 : xs[0]? with
    | none => exact Q.dead fun A => by simp
    | some x =>
      obtain ⟨x',g1,k1⟩ := h.get h1
      simp only [g1]
      refine Q.bind (Q.underlying φ t) fun ψ d d' hl hd => ?_
      obtain ⟨rfl,hun⟩ := hd
      have k1 := k1.mono hl
      have hundef : V ψ (.tuple #[]) (.tuple #[]) := .ofTuple (.nil ψ)
      have hdone : QS P V (Pure.pure (Value.tuple #[])) ψ (Pure.pure (Value.tuple #[])) := Q.pure hundef
      cases k1
      case mapNil => cases d <;> exact hdone
      case sliceNil n c => cases d <;> exact hdone
      case map b e hb =>
        have : QS P V (do
            let .map _ clock ← Go.getObj b | stuck "clear: map expected"
            Go.setObj b (.map #[] clock)
            Pure.pure (Value.tuple #[])) ψ (do
            let .map _ clock ← Go.getObj e.blk | stuck "clear: map expected"
            Go.setObj e.blk (.map #[] clock)
            Pure.pure (Value.tuple #[])) := by
          refine Q.bind (Q.getObj hb) fun χ o o' hc ho => ?_
          cases o
          case map es k =>
            cases o' <;> simp only [OR] at ho
            obtain ⟨rfl,-⟩ := ho
            exact Q.bind (Q.setObj (o := .map #[] k) (o' := .map #[] k) (hc _ _ hb) ⟨rfl,rfl,fun i h => by simp at h⟩) fun _ _ _ _ _ => Q.pure (.ofTuple (.nil _))
          all_goals exact Q.dead fun A => by simp
        cases d <;> exact this
      case slice b o n c c' en hen hcr =>
        cases n with
        | zero => cases d <;> exact hdone
        | succ n =>
          cases d
          case slice e =>
            refine Q.bind (Q.zeroValue ψ (hz t e h0 hun)) fun χ z z' hc hzv => ?_
            have hcell : LR χ (Builtin.zeroCells z.cells (n + 1)).toList (Builtin.zeroCells z'.cells (n + 1)).toList := by
              unfold Builtin.zeroCells
              rw [← hzv.cells.1]
              refine AR.list ?_
              have := AR.zerosOf hzv ((n + 1) * z.cells.size)
              rw [← hzv.cells.1] at this
              exact this
            exact Q.bind (Q.storeCells hcell 0 (Phi.le_refl _) (a := ⟨b,o,none⟩) (a' := ⟨en.blk,en.off + o,none⟩) ⟨rfl,en,hc _ _ hen,rfl⟩) fun _ _ _ _ _ => Q.pure (.ofTuple (.nil _))
          all_goals exact Q.dead fun A => by simp
      case sliceZ => cases d <;> exact hdone
      case sliceE => cases d <;> exact hdone
      all_goals
        refine Q.dead fun A => ?_
        cases d <;> simp
def isNum : Value → Bool
  | .int _ _ | .string _ => true
  | _ => false
theorem Q.min2 {φ : Phi} {x y x' y' : Value} (hx : V φ x x') (hy : V φ y y') (h1 : isNum x = true) (h2 : isNum y = true) : QS P (fun ψ a b => V ψ a b ∧ isNum a = true) (Builtin.min2 x y) φ (Builtin.min2 x' y') := by
  cases hx <;> simp [isNum] at h1 <;> cases hy <;> simp [isNum] at h2
  · exact Q.pure ⟨.int _ _,rfl⟩
  · exact Q.dead fun A => rfl
  · exact Q.dead fun A => rfl
  · exact Q.pure ⟨.string _,rfl⟩
theorem Q.max2 {φ : Phi} {x y x' y' : Value} (hx : V φ x x') (hy : V φ y y') (h1 : isNum x = true) (h2 : isNum y = true) : QS P (fun ψ a b => V ψ a b ∧ isNum a = true) (Builtin.max2 x y) φ (Builtin.max2 x' y') := by
  cases hx <;> simp [isNum] at h1 <;> cases hy <;> simp [isNum] at h2
  · exact Q.pure ⟨.int _ _,rfl⟩
  · exact Q.dead fun A => rfl
  · exact Q.dead fun A => rfl
  · exact Q.pure ⟨.string _,rfl⟩
theorem Q.foldM {f : Value → Value → Sem Value} (hf : ∀ φ x y x' y',V φ x x' → V φ y y' → isNum x = true → isNum y = true → QS P (fun ψ a b => V ψ a b ∧ isNum a = true) (f x y) φ (f x' y')) {φ : Phi} {l l' : List Value} (hl : LR φ l l') :
    ∀ {ψ : Phi} {x x' : Value},φ.le ψ → V ψ x x' → isNum x = true → l.all isNum = true → QS P V (l.foldlM f x) ψ (l'.foldlM f x') := by
  induction hl with
  | nil => intro ψ x x' _ hx _ _; exact Q.pure hx
  | cons hv _ ih =>
    intro ψ x x' hle hx hn hall
    simp only [List.all_cons,Bool.and_eq_true] at hall
    simp only [List.foldlM_cons]
    exact Q.bind (hf ψ _ _ _ _ hx (hv.mono hle) hn hall.1) fun χ a b hc hab => ih (Phi.le_trans hle hc) hab.1 hab.2 hall.2
theorem Q.min {φ : Phi} (ats : Array TypeId) (ty : TypeId) {xs xs' : Array Value} (h : AR φ xs xs') (hn : xs.toList.all isNum = true) : QS P V (Builtin.min_ ats ty xs) φ (Builtin.min_ ats ty xs') := by
  unfold Builtin.min_
  have hl := h.list
  revert hn hl
  generalize xs.toList = l
  generalize xs'.toList = l'
  intro hn hl
  cases hl with
  | nil => exact Q.dead fun A => rfl
  | cons hv t =>
    simp only [List.all_cons,Bool.and_eq_true] at hn
    exact Q.foldM (fun φ x y x' y' a b c d => Q.min2 a b c d) t (Phi.le_refl _) hv hn.1 hn.2
theorem Q.max {φ : Phi} (ats : Array TypeId) (ty : TypeId) {xs xs' : Array Value} (h : AR φ xs xs') (hn : xs.toList.all isNum = true) : QS P V (Builtin.max_ ats ty xs) φ (Builtin.max_ ats ty xs') := by
  unfold Builtin.max_
  have hl := h.list
  revert hn hl
  generalize xs.toList = l
  generalize xs'.toList = l'
  intro hn hl
  cases hl with
  | nil => exact Q.dead fun A => rfl
  | cons hv t =>
    simp only [List.all_cons,Bool.and_eq_true] at hn
    exact Q.foldM (fun φ x y x' y' a b c d => Q.max2 a b c d) t (Phi.le_refl _) hv hn.1 hn.2
def acap (P : Program) (ats : Array TypeId) (xs : Array Value) (A : AHeap) : Option (Value × AHeap) :=
  match ats.toList,xs.toList with
  | [t],[.slice base _ c] => match P.underlying t with
    | some (.slice _) => match base with
      | none => some (.int .i64 c,A)
      | some a => match look A.objs a.block with
        | some ⟨_,false,_⟩ => some (.int .i64 c,A)
        | _ => none
    | _ => none
  | _,_ => none
theorem Q.cap {φ : Phi} {ats : Array TypeId} (ty : TypeId) {xs xs' : Array Value} (h : AR φ xs xs') : Q P V (acap P ats xs) φ (Builtin.cap_ ats ty xs') := by
  intro N A w v A1 hs hN he
  unfold acap at he
  split at he
  rotate_left
  · cases he
  rename_i t base n c hats hxs
  obtain ⟨s',hs',rfl⟩ := arr1 h hxs
  rw [list_one hats]
  split at he
  rotate_left
  · cases he
  rename_i e hu
  have fin : ∀ (b' : Option Addr) (n' : Nat),(Builtin.cap_ #[t] ty #[.slice b' n' c]).run P w = .ok (.int .i64 c) w := fun b' n' => by simp [Builtin.cap_,run_underlying hu,goInt]
  cases hs' with
  | sliceNil => cases he; exact ⟨φ,_,w,Phi.le_refl _,.int _ _,hs,fin _ _,Kept.refl _ _⟩
  | @slice b o _ _ c' en hen hcr =>
    simp only at he
    split at he
    · rename_i ob z hlook
      cases he
      have hgr : en.grown = false := by
        obtain ⟨en',k1,k2,_⟩ := hs.alive _ _ hlook
        rw [hen] at k1; cases k1; exact k2
      have hc' : c' = c := by simpa [CapR,hgr] using hcr
      subst hc'
      exact ⟨φ,_,w,Phi.le_refl _,.int _ _,hs,fin _ _,Kept.refl _ _⟩
    · cases he
  | sliceE b o s a =>
    simp only at he
    split at he
    · cases he
      exact ⟨φ,_,w,Phi.le_refl _,.int _ _,hs,fin _ _,Kept.refl _ _⟩
    · cases he
  | @sliceZ b o s o' c' en hen hg hx =>
    simp only at he
    split at he
    · rename_i ob z hlook
      obtain ⟨en',k1,k2,_⟩ := hs.alive _ _ hlook
      rw [hen] at k1; cases k1; rw [hg] at k2; cases k2
    · cases he
def arange (P : Program) (t : TypeId) (x : Value) (A : AHeap) : Option (Value × AHeap) :=
  match P.underlying t,x with
  | some .string,.string s => some (.pointer (some ⟨A.next,0,none⟩),A.push (.stringIter s 0))
  | _,_ => none
theorem Q.range {φ : Phi} (t : TypeId) {x x' : Value} (h : V φ x x') : Q P V (arange P t x) φ (Instr.range t x') := by
  intro N A w v A1 hs hN he
  unfold arange at he
  split at he
  · rename_i s hu
    cases h
    cases he
    obtain ⟨e,he0,heb,hle,hs',hb⟩ := hs.new hN (o := .stringIter s 0) (o' := .stringIter s 0) ⟨rfl,rfl⟩
    have hv : V (zBE φ A.next e) (.pointer (some ⟨A.next,0,none⟩)) (.pointer (some ⟨e.blk,e.off + 0,none⟩)) := .ptr (zCP _ _ _)
    rw [he0] at hv
    exact ⟨_,_,_,hle,hv,hs',by simp [Instr.range,run_underlying hu,heb],hb⟩
  · cases he
def anext (it : Value) (A : AHeap) : Option (Value × AHeap) :=
  match it with
  | .pointer (some ⟨r,0,none⟩) => match A.obj r with
    | some (.stringIter s pos) => match Nat.blt pos s.size with
      | true => (A.setObj r (.stringIter s (pos + (Utf8.decode s pos).2))).map fun A' => (.tuple #[.bool true,goInt pos,.int .i32 (Utf8.decode s pos).1],A')
      | false => some (.tuple #[.bool false],A)
    | _ => none
  | _ => none
theorem Q.next {φ : Phi} (ty : TypeId) {x x' : Value} (h : V φ x x') : Q P V (anext x) φ (Instr.next x' true ty) := by
  intro N A w v A1 hs hN he
  unfold anext at he
  split at he
  · rename_i r
    cases h
    rename_i e hr
    split at he
    · rename_i s pos ho
      obtain ⟨o',h1,h2,h3,h4⟩ := hs.getObj hr ho
      cases o' <;> simp only [OR] at h2
      obtain ⟨rfl,rfl⟩ := h2
      rw [h4]
      split at he
      · rename_i hlt
        have hlt : pos < s.size := by simpa [Nat.blt_eq] using hlt
        cases hA : A.setObj r (.stringIter s (pos + (Utf8.decode s pos).2)) with
        | none => rw [hA] at he; cases he
        | some A' =>
          rw [hA] at he
          simp only [Option.map_some,zOi,Prod.mk.injEq] at he
          obtain ⟨rfl,rfl⟩ := he
          have hor : OR φ (.stringIter s (pos + (Utf8.decode s pos).2)) (.stringIter s (pos + (Utf8.decode s pos).2)) := ⟨rfl,rfl⟩
          obtain ⟨g1,g2,g3⟩ := hs.setObj hr hor hA
          refine ⟨φ,_,_,Phi.le_refl _,.ofTuple (((AR.single (.bool true)).push (.int _ _)).push (.int _ _)),g2,?_,g3⟩
          simp only [Instr.next,Nat.zero_add]
          simp [Go.getObj,Go.setObj,Sem.run,h1,hlt,goInt]
      · rename_i hlt
        have hlt : ¬ pos < s.size := fun h => by rw [show Nat.blt pos s.size = true from by simpa [Nat.blt_eq] using h] at hlt; cases hlt
        cases he
        refine ⟨φ,_,w,Phi.le_refl _,.ofTuple (.single (.bool false)),hs,?_,Kept.refl _ _⟩
        simp only [Instr.next,Nat.zero_add]
        simp [Go.getObj,Sem.run,h1,hlt]
    · cases he
  · cases he
end
end
end Go.Proofs.Ytdaljohmfnfgiaa.Canon

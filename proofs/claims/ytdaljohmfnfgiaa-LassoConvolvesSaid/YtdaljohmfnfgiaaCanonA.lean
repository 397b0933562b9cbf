/- What the proof of this claim is made of. No condition. -/
import Derived.Control
import Derived.Calls
import Derived.Below
namespace Go.Proofs.Ytdaljohmfnfgiaa.Canon
theorem zNf : (¬False) = True := not_false_eq_true
theorem zOi.{u} {α : Type u} (a b : α) : (some a = some b) = (a = b) := Option.some.injEq a b
theorem zEl.{u} {α : Sort u} {p : α → Prop} {a' : α} : (∃ a,a' = a ∧ p a) ↔ p a' := exists_eq_left'
open Go Go.RowKit
structure Ent where
  blk : Nat
  off : Nat
  ext : Nat
  grown : Bool
  esz : Nat
abbrev Phi := Nat → Option Ent
def Phi.le (φ ψ : Phi) : Prop := ∀ b e,φ b = some e → ψ b = some e
theorem Phi.le_refl (φ : Phi) : φ.le φ := fun _ _ h => h
theorem Phi.le_trans {φ ψ χ : Phi} (h : φ.le ψ) (k : ψ.le χ) : φ.le χ := fun b e he => k b e (h b e he)
def CapR (e : Ent) (o c c' : Nat) : Prop := if e.grown = true ∧ c ≠ 0 then c ≤ c' ∧ o + c' * e.esz ≤ e.ext else c' = c
inductive V (φ : Phi) : Value → Value → Prop
  | bool (b : Bool) : V φ (.bool b) (.bool b)
  | int (k : IntKind) (n : Int) : V φ (.int k n) (.int k n)
  | string (s : ByteArray) : V φ (.string s) (.string s)
  | ptrNil : V φ (.pointer none) (.pointer none)
  | ptr {b o : Nat} {e : Ent} (h : φ b = some e) : V φ (.pointer (some ⟨b,o,none⟩)) (.pointer (some ⟨e.blk,e.off + o,none⟩))
  | sliceNil (n c : Nat) : V φ (.slice none n c) (.slice none n c)
  | slice {b o n c c' : Nat} {e : Ent} (h : φ b = some e) (hc : CapR e o c c') :
      V φ (.slice (some ⟨b,o,none⟩) n c) (.slice (some ⟨e.blk,e.off + o,none⟩) n c')
  | sliceZ {b o s o' c' : Nat} {e : Ent} (h : φ b = some e) (hg : e.grown = true) (hx : o' + c' * e.esz ≤ e.ext) :
      V φ (.slice (some ⟨b,o,some s⟩) 0 0) (.slice (some ⟨e.blk,e.off + o',none⟩) 0 c')
  | sliceE (b o s : Nat) (a : Addr) : V φ (.slice (some ⟨b,o,some s⟩) 0 0) (.slice (some a) 0 0)
  | mapNil : V φ (.map none) (.map none)
  | map {b : Nat} {e : Ent} (h : φ b = some e) : V φ (.map (some b)) (.map (some e.blk))
  | func (f : FuncId) {xs ys xs' ys' : Array Value} (hx : xs.size = xs'.size) (hy : ys.size = ys'.size)
      (hx' : ∀ (i : Nat) (h : i < xs.size) (h' : i < xs'.size),V φ xs[i] xs'[i])
      (hy' : ∀ (i : Nat) (h : i < ys.size) (h' : i < ys'.size),V φ ys[i] ys'[i]) : V φ (.func (.func f) xs ys) (.func (.func f) xs' ys')
  | yield {b : Nat} {e : Ent} (h : φ b = some e) : V φ (.func (.yield b) #[] #[]) (.func (.yield e.blk) #[] #[])
  | nilFunc : V φ .nilFunc .nilFunc
  | any (n : Nat) {v' : Value} (h : v'.oneCell' = true) (hb : ∀ b,v' ≠ .bool b) : V φ (.iface n .nilIface) v'
  | nilIface : V φ .nilIface .nilIface
  | agg {xs xs' : Array Value} (hx : xs.size = xs'.size) (hx' : ∀ (i : Nat) (h : i < xs.size) (h' : i < xs'.size),V φ xs[i] xs'[i]) : V φ (.agg xs) (.agg xs')
  | tuple {xs xs' : Array Value} (hx : xs.size = xs'.size) (hx' : ∀ (i : Nat) (h : i < xs.size) (h' : i < xs'.size),V φ xs[i] xs'[i]) : V φ (.tuple xs) (.tuple xs')
theorem V.mono {φ ψ : Phi} (h : φ.le ψ) {v v' : Value} (hv : V φ v v') : V ψ v v' := by
  induction hv with
  | bool b => exact .bool b
  | int k n => exact .int k n
  | string s => exact .string s
  | ptrNil => exact .ptrNil
  | ptr he => exact .ptr (h _ _ he)
  | sliceNil n c => exact .sliceNil n c
  | slice he hc => exact .slice (h _ _ he) hc
  | sliceZ he hg hx => exact .sliceZ (h _ _ he) hg hx
  | sliceE b o s a => exact .sliceE b o s a
  | mapNil => exact .mapNil
  | map he => exact .map (h _ _ he)
  | func f hx hy hx' hy' ih1 ih2 => exact .func f hx hy ih1 ih2
  | yield he => exact .yield (h _ _ he)
  | nilFunc => exact .nilFunc
  | any n h hb => exact .any n h hb
  | nilIface => exact .nilIface
  | agg hx hx' ih => exact .agg hx ih
  | tuple hx hx' ih => exact .tuple hx ih
def AR (φ : Phi) (xs xs' : Array Value) : Prop := xs.size = xs'.size ∧ ∀ (i : Nat) (h : i < xs.size) (h' : i < xs'.size),V φ xs[i] xs'[i]
theorem AR.mono {φ ψ : Phi} (h : φ.le ψ) {xs xs' : Array Value} (hx : AR φ xs xs') : AR ψ xs xs' := ⟨hx.1,fun i a b => (hx.2 i a b).mono h⟩
theorem V.ofAgg {φ : Phi} {xs xs' : Array Value} (h : AR φ xs xs') : V φ (.agg xs) (.agg xs') := .agg h.1 h.2
theorem V.ofTuple {φ : Phi} {xs xs' : Array Value} (h : AR φ xs xs') : V φ (.tuple xs) (.tuple xs') := .tuple h.1 h.2
theorem V.ofFunc {φ : Phi} (f : FuncId) {xs xs' ys ys' : Array Value} (h : AR φ xs xs') (k : AR φ ys ys') : V φ (.func (.func f) xs ys) (.func (.func f) xs' ys') := .func f h.1 k.1 h.2 k.2
theorem AR.nil (φ : Phi) : AR φ #[] #[] := ⟨rfl,fun i h => by simp at h⟩
theorem V.undef (φ : Phi) : V φ Go.undef Go.undef := .ofTuple (.nil φ)
theorem AR.get {φ : Phi} {xs xs' : Array Value} (h : AR φ xs xs') {i : Nat} {v : Value} (hv : xs[i]? = some v) : ∃ v',xs'[i]? = some v' ∧ V φ v v' := by
  obtain ⟨hi,rfl⟩ := Array.getElem?_eq_some_iff.1 hv
  have hi' : i < xs'.size := h.1 ▸ hi
  exact ⟨xs'[i],Array.getElem?_eq_getElem hi',h.2 i hi hi'⟩
theorem AR.get_none {φ : Phi} {xs xs' : Array Value} (h : AR φ xs xs') {i : Nat} (hv : xs[i]? = none) : xs'[i]? = none := by
  rw [Array.getElem?_eq_none_iff] at *; rw [← h.1]; exact hv
theorem AR.of {φ : Phi} {xs xs' : Array Value} (hs : xs.size = xs'.size) (h : ∀ (i : Nat) (v : Value),xs[i]? = some v → ∃ v',xs'[i]? = some v' ∧ V φ v v') : AR φ xs xs' :=
  ⟨hs,fun i a b => by
    obtain ⟨v',h1,h2⟩ := h i xs[i] (Array.getElem?_eq_getElem a)
    obtain ⟨_,rfl⟩ := Array.getElem?_eq_some_iff.1 h1
    exact h2⟩
theorem AR.getD {φ : Phi} {xs xs' : Array Value} (h : AR φ xs xs') {d d' : Value} (hd : V φ d d') (i : Nat) : V φ (xs.getD i d) (xs'.getD i d') := by
  simp only [Array.getD_eq_getD_getElem?]
  cases hx : xs[i]? with
  | none => rw [h.get_none hx]; exact hd
  | some v => obtain ⟨v',h1,h2⟩ := h.get hx; rw [h1]; exact h2
theorem AR.set {φ : Phi} {xs xs' : Array Value} (h : AR φ xs xs') {v v' : Value} (hv : V φ v v') (i : Nat) : AR φ (xs.setIfInBounds i v) (xs'.setIfInBounds i v') := by
  refine .of (by simp [h.1]) fun j u hu => ?_
  rw [Array.getElem?_setIfInBounds] at hu ⊢
  split at hu
  · rename_i hij
    subst hij
    split at hu
    · rename_i hi
      cases hu
      refine ⟨v',?_,hv⟩
      rw [if_pos rfl,if_pos (by rw [← h.1]; exact hi)]
    · cases hu
  · rename_i hij
    rw [if_neg hij]
    exact h.get hu
theorem AR.push {φ : Phi} {xs xs' : Array Value} (h : AR φ xs xs') {v v' : Value} (hv : V φ v v') : AR φ (xs.push v) (xs'.push v') := by
  refine .of (by simp [h.1]) fun j u hu => ?_
  rw [Array.getElem?_push] at hu ⊢
  split at hu
  · rename_i hj; cases hu; rw [if_pos (by rw [← h.1]; exact hj)]; exact ⟨v',rfl,hv⟩
  · rename_i hj; rw [if_neg (by rw [← h.1]; exact hj)]; exact h.get hu
theorem AR.append {φ : Phi} {xs xs' ys ys' : Array Value} (h : AR φ xs xs') (k : AR φ ys ys') : AR φ (xs ++ ys) (xs' ++ ys') := by
  refine .of (by simp [h.1,k.1]) fun j u hu => ?_
  rw [Array.getElem?_append] at hu ⊢
  split at hu
  · rename_i hj; rw [if_pos (by rw [← h.1]; exact hj)]; exact h.get hu
  · rename_i hj; rw [if_neg (by rw [← h.1]; exact hj),← h.1]; exact k.get hu
theorem AR.extract {φ : Phi} {xs xs' : Array Value} (h : AR φ xs xs') (a b : Nat) : AR φ (xs.extract a b) (xs'.extract a b) := by
  refine .of (by simp [h.1]) fun j u hu => ?_
  rw [Array.getElem?_extract] at hu ⊢
  rw [← h.1]
  split at hu
  · rename_i hj; rw [if_pos hj]; exact h.get hu
  · cases hu
theorem AR.map {φ : Phi} {α : Type} (l : Array α) (f g : α → Value) (h : ∀ x ∈ l,V φ (f x) (g x)) : AR φ (l.map f) (l.map g) := by
  refine .of (by simp) fun j u hu => ?_
  rw [Array.getElem?_map] at hu ⊢
  cases hl : l[j]? with
  | none => rw [hl] at hu; cases hu
  | some x => rw [hl] at hu; cases hu; exact ⟨g x,rfl,h x (Array.mem_of_getElem? hl)⟩
theorem AR.single {φ : Phi} {v v' : Value} (h : V φ v v') : AR φ #[v] #[v'] := (AR.nil φ).push h
def closed1 : Value → Bool
  | .bool _ | .int _ _ | .string _ | .pointer none | .slice none _ _ | .map none | .nilFunc | .nilIface => true
  | _ => false
def zCI : Value → Bool
  | .agg cs => cs.toList.all closed1
  | v => closed1 v
theorem closed1_V (φ : Phi) {v : Value} (h : closed1 v = true) : V φ v v := by
  unfold closed1 at h
  split at h <;> first
    | constructor
    | (simp at h)
theorem closed_AR (φ : Phi) {cs : Array Value} (h : cs.toList.all closed1 = true) : AR φ cs cs := by
  refine .of rfl fun i v hv => ⟨v,hv,closed1_V φ ?_⟩
  rw [List.all_eq_true] at h
  exact h v (by simpa using Array.mem_of_getElem? hv)
theorem closedV_V (φ : Phi) {v : Value} (h : zCI v = true) : V φ v v := by
  unfold zCI at h
  split at h
  · exact .ofAgg (closed_AR φ h)
  · exact closed1_V φ h
theorem V.cells {φ : Phi} {v v' : Value} (h : V φ v v') : AR φ v.cells v'.cells := by
  cases h with
  | agg hx hx' => exact ⟨hx,hx'⟩
  | func f a b c d => exact .single (.func f a b c d)
  | tuple a b => exact .single (.tuple a b)
  | bool b => exact .single (.bool b)
  | int k n => exact .single (.int k n)
  | string s => exact .single (.string s)
  | ptrNil => exact .single .ptrNil
  | ptr he => exact .single (.ptr he)
  | sliceNil n c => exact .single (.sliceNil n c)
  | slice he hc => exact .single (.slice he hc)
  | sliceZ he hg hx => exact .single (.sliceZ he hg hx)
  | sliceE b o s a => exact .single (.sliceE b o s a)
  | mapNil => exact .single .mapNil
  | map he => exact .single (.map he)
  | yield he => exact .single (.yield he)
  | nilFunc => exact .single .nilFunc
  | any n h hb =>
    have e : v'.cells = #[v'] := by
      clear hb
      revert h
      cases v' <;> intro h <;> first | rfl | (cases h; done)
    rw [e]; exact .single (.any n h hb)
  | nilIface => exact .single .nilIface
def ER (φ : Phi) (es es' : Array MapEntry) : Prop :=
  es.size = es'.size ∧ ∀ (i : Nat) (h : i < es.size) (h' : i < es'.size),V φ es[i].key es'[i].key ∧ V φ es[i].val es'[i].val ∧ es[i].born = es'[i].born
def OR (φ : Phi) : Obj → Obj → Prop
  | .cells c e f,.cells c' e' f' => e = e' ∧ f = (0,0) ∧ f' = (0,0) ∧ AR φ c c'
  | .map es k,.map es' k' => k = k' ∧ ER φ es es'
  | .stringIter s p,.stringIter s' p' => s = s' ∧ p = p'
  | .mapIter m since seen stepped,.mapIter m' since' seen' stepped' =>
    since = since' ∧ seen = seen' ∧ stepped = stepped' ∧ (match m with | none => m' = none | some b => ∃ e,φ b = some e ∧ m' = some e.blk)
  | .loop l,.loop l' => l.state = l'.state ∧ l.pending = l'.pending ∧ l.fn = l'.fn ∧ AR φ l.tmps l'.tmps ∧ l.params = l'.params ∧ l.assign = l'.assign ∧ l.body = l'.body ∧
      ∃ e,φ l.defers = some e ∧ l'.defers = e.blk
  | .deferred d,.deferred d' => (d = none ∧ d' = none) ∨ (d = some [] ∧ d' = some [])
  | _,_ => False
theorem OR.mono {φ ψ : Phi} (h : φ.le ψ) {o o' : Obj} (ho : OR φ o o') : OR ψ o o' := by
  cases o <;> cases o' <;> simp only [OR] at ho ⊢
  case cells.cells => exact ⟨ho.1,ho.2.1,ho.2.2.1,ho.2.2.2.mono h⟩
  case map.map => exact ⟨ho.1,ho.2.1,fun i a b => ⟨(ho.2.2 i a b).1.mono h,(ho.2.2 i a b).2.1.mono h,(ho.2.2 i a b).2.2⟩⟩
  case stringIter.stringIter => exact ho
  case mapIter.mapIter m _ _ _ m' _ _ _ =>
    refine ⟨ho.1,ho.2.1,ho.2.2.1,?_⟩
    have := ho.2.2.2
    cases m with
    | none => exact this
    | some b => obtain ⟨e,h1,h2⟩ := this; exact ⟨e,h _ _ h1,h2⟩
  case loop.loop =>
    obtain ⟨h1,h2,h3,h4,h5,h6,h7,e,h8,h9⟩ := ho
    exact ⟨h1,h2,h3,h4.mono h,h5,h6,h7,e,h _ _ h8,h9⟩
  case deferred.deferred => exact ho
structure AObj where
  o : Obj
  grown : Bool
  esz : Nat
noncomputable section
inductive Tr (α : Type) where
  | leaf
  | node (v : Option α) (l r : Tr α)
def Tr.get {α : Type} (t : Tr α) : List Bool → Option α :=
  Tr.rec (motive := fun _ => List Bool → Option α) (fun _ => none)
    (fun v _ _ il ir p => List.rec (motive := fun _ => Option α) v (fun b p _ => Bool.rec (motive := fun _ => Option α) (il p) (ir p) b) p) t
def Tr.mkPath {α : Type} (v : α) (p : List Bool) : Tr α :=
  List.rec (motive := fun _ => Tr α) (.node (some v) .leaf .leaf) (fun b _ ih => Bool.rec (motive := fun _ => Tr α) (.node none ih .leaf) (.node none .leaf ih) b) p
def Tr.set {α : Type} (t : Tr α) : List Bool → α → Tr α :=
  Tr.rec (motive := fun _ => List Bool → α → Tr α) (fun p v => Tr.mkPath v p)
    (fun x l r il ir p v => List.rec (motive := fun _ => Tr α) (.node (some v) l r) (fun b p _ => Bool.rec (motive := fun _ => Tr α) (.node x (il p v) r) (.node x l (ir p v)) b) p) t
theorem Tr.get_mkPath {α : Type} (v : α) : ∀ p q : List Bool,(Tr.mkPath v p).get q = if p = q then some v else none := by
  intro p
  induction p with
  | nil => intro q; cases q with
    | nil => rfl
    | cons b q => cases b <;> rfl
  | cons b p ih =>
    intro q
    cases q with
    | nil => cases b <;> rfl
    | cons c q =>
      cases b <;> cases c
      · have := ih q; simp only [List.cons.injEq,true_and]; rw [← this]; rfl
      · rfl
      · rfl
      · have := ih q; simp only [List.cons.injEq,true_and]; rw [← this]; rfl
theorem Tr.get_set {α : Type} : ∀ (t : Tr α) (p q : List Bool) (v : α),(t.set p v).get q = if p = q then some v else t.get q := by
  intro t
  induction t with
  | leaf => intro p q v; exact (Tr.get_mkPath v p q).trans rfl
  | node x l r il ir =>
    intro p q v
    cases p with
    | nil => cases q with
      | nil => rfl
      | cons c q => cases c <;> rfl
    | cons b p =>
      cases q with
      | nil => cases b <;> rfl
      | cons c q =>
        cases b <;> cases c
        · have := il p q v; simp only [List.cons.injEq,true_and]; exact this
        · rfl
        · rfl
        · have := ir p q v; simp only [List.cons.injEq,true_and]; exact this
def bitsF (f : Nat) : Nat → List Bool := Nat.rec (motive := fun _ => Nat → List Bool) (fun _ => []) (fun _ ih n => match Nat.beq n 0 with
  | true => []
  | false => Nat.beq (Nat.mod n 2) 1 :: ih (Nat.div n 2)) f
theorem bitsF_inj : ∀ (f n m : Nat),n < 2 ^ f → m < 2 ^ f → bitsF f n = bitsF f m → n = m := by
  intro f
  induction f with
  | zero => intro n m hn hm _; simp at hn hm; omega
  | succ f ih =>
    intro n m hn hm h
    have e : ∀ n,bitsF (f + 1) n = match Nat.beq n 0 with | true => [] | false => Nat.beq (Nat.mod n 2) 1 :: bitsF f (Nat.div n 2) := fun n => rfl
    rw [e,e] at h
    cases hn0 : Nat.beq n 0 with
    | true =>
      have hn0 := Nat.eq_of_beq_eq_true hn0
      cases hm0 : Nat.beq m 0 with
      | true => exact hn0.trans (Nat.eq_of_beq_eq_true hm0).symm
      | false => rw [hm0] at h; subst hn0; simp at h
    | false =>
      cases hm0 : Nat.beq m 0 with
      | true => rw [hn0,hm0] at h; simp at h
      | false =>
        rw [hn0,hm0] at h
        simp only [List.cons.injEq] at h
        obtain ⟨h1,h2⟩ := h
        have hd := ih (n / 2) (m / 2) (by rw [Nat.pow_succ] at hn; omega) (by rw [Nat.pow_succ] at hm; omega) h2
        have hmod : n % 2 = m % 2 := by
          have a1 : Nat.beq (n % 2) 1 = Nat.beq (m % 2) 1 := h1
          rcases Nat.mod_two_eq_zero_or_one n with x | x <;> rcases Nat.mod_two_eq_zero_or_one m with y | y <;> rw [x,y] at a1 ⊢ <;> cases a1
        omega
theorem bitsF_more : ∀ (f n : Nat),n < 2 ^ f → bitsF (f + 1) n = bitsF f n := by
  intro f
  induction f with
  | zero => intro n hn; have : n = 0 := by simp at hn; omega
            subst this; rfl
  | succ f ih =>
    intro n hn
    have e : ∀ f n,bitsF (f + 1) n = match Nat.beq n 0 with | true => [] | false => Nat.beq (Nat.mod n 2) 1 :: bitsF f (Nat.div n 2) := fun f n => rfl
    rw [e (f + 1) n,e f n]
    cases Nat.beq n 0 with
    | true => rfl
    | false => simp only; rw [ih (Nat.div n 2) (by rw [Nat.pow_succ] at hn; show n / 2 < _; omega)]
theorem bitsF_add (f n : Nat) (h : n < 2 ^ f) : ∀ d,bitsF (f + d) n = bitsF f n := by
  intro d
  induction d with
  | zero => rfl
  | succ d ih => rw [← Nat.add_assoc,bitsF_more _ _ (Nat.lt_of_lt_of_le h (Nat.pow_le_pow_right (by omega) (by omega))),ih]
def bits (n : Nat) : List Bool := bitsF (n + 1) n
theorem bits_inj {n m : Nat} (h : bits n = bits m) : n = m := by
  have p : ∀ k : Nat,k < 2 ^ (k + 1) := fun k => Nat.lt_of_lt_of_le Nat.lt_two_pow_self (Nat.pow_le_pow_right (by omega) (by omega))
  unfold bits at h
  rcases Nat.le_total n m with hnm | hnm
  · obtain ⟨d,rfl⟩ : ∃ d,m = n + d := ⟨m - n,by omega⟩
    rw [← bitsF_add (n + 1) n (p n) d,show n + 1 + d = n + d + 1 by omega] at h
    exact bitsF_inj _ _ _ (Nat.lt_of_lt_of_le (p n) (Nat.pow_le_pow_right (by omega) (by omega))) (p _) h
  · obtain ⟨d,rfl⟩ : ∃ d,n = m + d := ⟨n - m,by omega⟩
    rw [← bitsF_add (m + 1) m (p m) d,show m + 1 + d = m + d + 1 by omega] at h
    exact bitsF_inj _ _ _ (p _) (Nat.lt_of_lt_of_le (p m) (Nat.pow_le_pow_right (by omega) (by omega))) h
def Tr.del {α : Type} (t : Tr α) : List Bool → Tr α :=
  Tr.rec (motive := fun _ => List Bool → Tr α) (fun _ => .leaf)
    (fun x l r il ir p => List.rec (motive := fun _ => Tr α) (.node none l r) (fun b p _ => Bool.rec (motive := fun _ => Tr α) (.node x (il p) r) (.node x l (ir p)) b) p) t
theorem Tr.get_del {α : Type} : ∀ (t : Tr α) (p q : List Bool),(t.del p).get q = if p = q then none else t.get q := by
  intro t
  induction t with
  | leaf => intro p q; show none = _; split <;> rfl
  | node x l r il ir =>
    intro p q
    cases p with
    | nil => cases q with
      | nil => rfl
      | cons c q => cases c <;> rfl
    | cons b p =>
      cases q with
      | nil => cases b <;> rfl
      | cons c q =>
        cases b <;> cases c
        · have := il p q; simp only [List.cons.injEq,true_and]; exact this
        · rfl
        · rfl
        · have := ir p q; simp only [List.cons.injEq,true_and]; exact this
structure AHeap where
  next : Nat
  objs : Tr AObj
def look (l : Tr AObj) (b : Nat) : Option AObj := l.get (bits b)
def zDU (b : Nat) (x : AObj) (l : Tr AObj) : Tr AObj := l.set (bits b) x
def putO (l : Tr AObj) (b : Nat) (o : Obj) : Tr AObj := match l.get (bits b) with
  | some x => l.set (bits b) { x with o := o }
  | none => l
def dropO (l : Tr AObj) (b : Nat) : Tr AObj := l.del (bits b)
theorem bits_iff (b b' : Nat) : bits b = bits b' ↔ b = b' := ⟨bits_inj,fun h => h ▸ rfl⟩
theorem zCN (k : Nat) (x : AObj) (l : Tr AObj) (b : Nat) : look (zDU k x l) b = match Nat.beq k b with | true => some x | false => look l b := by
  unfold look zDU
  rw [Tr.get_set]
  by_cases h : k = b
  · subst h; simp
  · have : Nat.beq k b = false := by
      cases hb : Nat.beq k b with
      | false => rfl
      | true => exact absurd (Nat.eq_of_beq_eq_true hb) h
    rw [this,if_neg (by rw [bits_iff]; exact h)]
theorem look_putO (l : Tr AObj) (b b' : Nat) (o : Obj) :
    look (putO l b o) b' = if b = b' then (look l b).map (fun x => { x with o := o }) else look l b' := by
  unfold look putO
  cases hx : l.get (bits b) with
  | none =>
    simp only
    by_cases h : b = b'
    · subst h; simp [hx]
    · simp [h]
  | some x =>
    simp only
    simp only [Tr.get_set,bits_iff]
    by_cases h : b = b'
    · simp [h]
    · simp [h]
theorem look_dropO (l : Tr AObj) (b b' : Nat) : look (dropO l b) b' = if b = b' then none else look l b' := by
  unfold look dropO
  simp only [Tr.get_del,bits_iff]
end
end Go.Proofs.Ytdaljohmfnfgiaa.Canon

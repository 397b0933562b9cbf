/- Calls whose answers have been reckoned before: a table of them answers them, whatever names their memory has. No condition. -/
import Derived.Test.YtdaljohmfnfgiaaCanonCa
namespace Go.Proofs.Ytdaljohmfnfgiaa.Canon
open Go Go.RowKit
noncomputable section

/-- A call that has been reckoned: its function, its arguments with all that they lead to, its answer, and what it makes of the memory. -/
structure TE where
  g : FuncId
  xs : List Value
  objs : List AObj
  v : Value
  n1 : Nat
  gone : List Nat
  outs : List (Nat × AObj)

def memF : List AObj → Nat → Tr AObj → Tr AObj
  | [], _, t => t
  | x :: l, k, t => memF l (k + 1) (t.set (bits k) x)
def TE.mem (e : TE) : AHeap := ⟨lenR e.objs, memF e.objs 0 .leaf⟩

theorem memF_look : ∀ (l : List AObj) (k : Nat) (t : Tr AObj) (b : Nat), look (memF l k t) b = if k ≤ b ∧ b < k + l.length then l[b - k]? else look t b := by
  intro l
  induction l with
  | nil => intro k t b; simp only [memF, List.length_nil, Nat.add_zero]; rw [if_neg (by omega)]
  | cons x l ih =>
    intro k t b
    simp only [memF, List.length_cons]
    rw [ih]
    by_cases h1 : k + 1 ≤ b ∧ b < k + 1 + l.length
    · rw [if_pos h1, if_pos (by omega)]
      obtain ⟨d, rfl⟩ : ∃ d, b = k + 1 + d := ⟨b - (k + 1), by omega⟩
      rw [show k + 1 + d - (k + 1) = d by omega, show k + 1 + d - k = d + 1 by omega]
      simp
    · rw [if_neg h1]
      unfold look
      rw [Tr.get_set]
      by_cases h2 : k = b
      · subst h2; simp
      · rw [if_neg (fun h => h2 (bits_inj h)), if_neg (by omega)]
theorem TE.look_mem (e : TE) (b : Nat) : look e.mem.objs b = e.objs[b]? := by
  simp only [TE.mem]
  rw [memF_look]
  simp only [Nat.zero_le, true_and, Nat.zero_add, Nat.sub_zero]
  split
  · rfl
  · rename_i h
    rw [look_leaf]
    exact (List.getElem?_eq_none_iff.2 (by omega)).symm
theorem TE.next_mem (e : TE) : e.mem.next = e.objs.length := by
  simp [TE.mem, lenR_eq]

/-- Which names stand for which: found by going through both. -/
abbrev Disc := Nat × Tr Nat
def dname (b b' : Nat) (s : Disc) : Disc := match s with
  | (n, t) => match Nat.beq b n with
    | true => (n + 1, t.set (bits b) b')
    | false => (n, t)
def dlist (f : Value → Value → Disc → Disc) (l : List Value) : List Value → Disc → Disc := List.rec (motive := fun _ => List Value → Disc → Disc) (fun _ s => s) (fun v _ ih m s => match m with
  | [] => s
  | u :: m => ih m (f v u s)) l
def dval (d : Nat) : Value → Value → Disc → Disc := Nat.rec (motive := fun _ => Value → Value → Disc → Disc) (fun _ _ s => s) (fun _ ih v u s => match v with
  | .pointer p => match p with
    | some a => match u with
      | .pointer q => match q with
        | some a' => dname a.block a'.block s
        | none => s
      | _ => s
    | none => s
  | .slice p _ _ => match p with
    | some a => match u with
      | .slice q _ _ => match q with
        | some a' => dname a.block a'.block s
        | none => s
      | _ => s
    | none => s
  | .map p => match p with
    | some b => match u with
      | .map q => match q with
        | some b' => dname b b' s
        | none => s
      | _ => s
    | none => s
  | .func _ xs ys => match u with
    | .func _ xs' ys' => dlist ih ys.toList ys'.toList (dlist ih xs.toList xs'.toList s)
    | _ => s
  | .agg xs => match u with
    | .agg xs' => dlist ih xs.toList xs'.toList s
    | _ => s
  | .tuple xs => match u with
    | .tuple xs' => dlist ih xs.toList xs'.toList s
    | _ => s
  | _ => s) d
def dents (l : List MapEntry) : List MapEntry → Disc → Disc := List.rec (motive := fun _ => List MapEntry → Disc → Disc) (fun _ s => s) (fun v _ ih m s => match m with
  | [] => s
  | u :: m => ih m (dval 8 v.val u.val (dval 8 v.key u.key s))) l
def dobj (o o' : Obj) (s : Disc) : Disc := match o with
  | .cells c _ _ => match o' with
    | .cells c' _ _ => dlist (dval 8) c.toList c'.toList s
    | _ => s
  | .map es _ => match o' with
    | .map es' _ => dents es.toList es'.toList s
    | _ => s
  | _ => s
def dall (A : AHeap) (l : List AObj) : Nat → Disc → Disc := List.rec (motive := fun _ => Nat → Disc → Disc) (fun _ s => s) (fun x _ ih k s => match s with
  | (n, t) => match t.get (bits k) with
    | some b' => match look A.objs b' with
      | some y => ih (k + 1) (dobj x.o y.o (n, t))
      | none => s
    | none => s) l

def fren (n : Nat) (t : Tr Nat) (b : Nat) : Option Nat := match Nat.blt b n with
  | true => t.get (bits b)
  | false => none
def ren1 (n0 n1 nx : Nat) (t : Tr Nat) (b : Nat) : Option Nat := match Nat.blt b n0 with
  | true => t.get (bits b)
  | false => match Nat.blt b n1 with
    | true => some (nx + (b - n0))
    | false => none

def eeqs : List MapEntry → List MapEntry → Bool
  | [], [] => true
  | ⟨k, v, b⟩ :: l, ⟨k', v', b'⟩ :: m => Nat.beq b b' && (veq 8 k k' && (veq 8 v v' && eeqs l m))
  | _, _ => false
theorem eeqs_eq : ∀ {l m : List MapEntry}, eeqs l m = true → l = m := by
  intro l
  induction l with
  | nil => intro m h; cases m with | nil => rfl | cons => simp [eeqs] at h
  | cons a l ih =>
    intro m h
    cases m with
    | nil => simp [eeqs] at h
    | cons b m =>
      obtain ⟨k, v, n⟩ := a
      obtain ⟨k', v', n'⟩ := b
      simp only [eeqs, Bool.and_eq_true] at h
      rw [Nat.eq_of_beq_eq_true h.1, veq_eq _ _ _ h.2.1, veq_eq _ _ _ h.2.2.1, ih h.2.2.2]
def oeq (o o' : Obj) : Bool := match o with
  | .cells c t f => match o' with
    | .cells c' t' f' => match f, f' with
      | (0, 0), (0, 0) => Nat.beq t t' && veqs (veq 8) c.toList c'.toList
      | _, _ => false
    | _ => false
  | .map es k => match o' with
    | .map es' k' => Nat.beq k k' && eeqs es.toList es'.toList
    | _ => false
  | _ => false
theorem oeq_eq {o o' : Obj} (h : oeq o o' = true) : o = o' ∧ ∀ c t f, o = .cells c t f → f = (0, 0) := by
  cases o <;> try (simp [oeq] at h; done)
  case cells c t f =>
    cases o' <;> try (simp [oeq] at h; done)
    case cells c' t' f' =>
      simp only [oeq] at h
      split at h
      · simp only [Bool.and_eq_true] at h
        have e1 := Nat.eq_of_beq_eq_true h.1
        have e3 : c = c' := Array.ext' (veqs_eq (veq_eq 8) h.2)
        subst e1 e3
        exact ⟨rfl, fun _ _ _ h => by cases h; rfl⟩
      · cases h
  case map es k =>
    cases o' <;> try (simp [oeq] at h; done)
    case map es' k' =>
      simp only [oeq, Bool.and_eq_true] at h
      have e1 := Nat.eq_of_beq_eq_true h.1
      have e3 : es = es' := Array.ext' (eeqs_eq h.2)
      subst e1 e3
      exact ⟨rfl, fun _ _ _ h => by cases h⟩
theorem blt_of {a b : Nat} (h : a < b) : Nat.blt a b = true := by rw [Nat.blt_eq]; exact h
theorem lt_of_blt {a b : Nat} (h : Nat.blt a b = true) : a < b := by rw [Nat.blt_eq] at h; exact h

def objEq (ρ : Nat → Option Nat) (x y : AObj) : Bool := match x with
  | ⟨o, g, e⟩ => match y with
    | ⟨o', g', e'⟩ => match renO ρ o, isRO g e with
      | some o1, false => beqB g g' && (Nat.beq e e' && oeq o1 o')
      | _, _ => false
def zOK (o : Obj) : Bool := match o with
  | .cells _ _ f => match f with
    | (0, 0) => true
    | _ => false
  | _ => true
theorem zOK_eq {o : Obj} (h : zOK o = true) : ∀ c t f, o = .cells c t f → f = (0, 0) := by
  intro c t f ho
  subst ho
  unfold zOK at h
  simp only at h
  split at h
  · rfl
  · cases h
theorem beqB_eq {a b : Bool} (h : beqB a b = true) : a = b := by cases a <;> cases b <;> simp [beqB] at h ⊢

def chkObjs (ρ : Nat → Option Nat) (A : AHeap) (l : List AObj) : Nat → Tr Bool → Bool := List.rec (motive := fun _ => Nat → Tr Bool → Bool) (fun _ _ => true) (fun x _ ih k used => match ρ k with
  | some b' => match used.get (bits b') with
    | some _ => false
    | none => match look A.objs b' with
      | some y => match zOK x.o with
        | true => match objEq ρ x y with
          | true => ih (k + 1) (used.set (bits b') true)
          | false => false
        | false => false
      | none => false
  | none => false) l
theorem chkObjs_cons (ρ : Nat → Option Nat) (A : AHeap) (x : AObj) (l : List AObj) (k : Nat) (used : Tr Bool) : chkObjs ρ A (x :: l) k used = match ρ k with
  | some b' => match used.get (bits b') with
    | some _ => false
    | none => match look A.objs b' with
      | some y => match zOK x.o with
        | true => match objEq ρ x y with
          | true => chkObjs ρ A l (k + 1) (used.set (bits b') true)
          | false => false
        | false => false
      | none => false
  | none => false := rfl
theorem chkObjs_ok {ρ : Nat → Option Nat} {A : AHeap} : ∀ {l : List AObj} {k : Nat} {used : Tr Bool}, chkObjs ρ A l k used = true →
    (∀ i x, l[i]? = some x → ∃ b' y, ρ (k + i) = some b' ∧ used.get (bits b') = none ∧ look A.objs b' = some y ∧ zOK x.o = true ∧ objEq ρ x y = true) ∧
    (∀ i j b', i < l.length → j < l.length → ρ (k + i) = some b' → ρ (k + j) = some b' → i = j) := by
  intro l
  induction l with
  | nil => intro k used _; exact ⟨fun i x h => by simp at h, fun i j b' h => by simp at h⟩
  | cons a l ih =>
    intro k used h
    rw [chkObjs_cons] at h
    split at h
    · rename_i b0 hb
      split at h
      · cases h
      · rename_i hu
        split at h
        · rename_i y hy
          split at h
          · rename_i hz
            split at h
            · rename_i ho
              obtain ⟨h1, h2⟩ := ih h
              have hne : ∀ i x, l[i]? = some x → ∀ b', ρ (k + 1 + i) = some b' → b' ≠ b0 := by
                intro i x hx b' hb' he
                subst he
                obtain ⟨b2, _, g1, g2, _⟩ := h1 i x hx
                rw [hb'] at g1
                cases g1
                rw [Tr.get_set] at g2
                simp at g2
              refine ⟨fun i x hx => ?_, fun i j b' hi hj hbi hbj => ?_⟩
              · cases i with
                | zero =>
                  simp at hx
                  subst hx
                  exact ⟨b0, y, by simpa using hb, hu, hy, hz, ho⟩
                | succ i =>
                  have hx : l[i]? = some x := by simpa using hx
                  obtain ⟨b', y', g1, g2, g3, g4, g5⟩ := h1 i x hx
                  have hb' : ρ (k + (i + 1)) = some b' := by rw [show k + (i + 1) = k + 1 + i by omega]; exact g1
                  refine ⟨b', y', hb', ?_, g3, g4, g5⟩
                  rw [Tr.get_set, if_neg (fun he => hne i x hx b' g1 (bits_inj he).symm)] at g2
                  exact g2
              · cases i with
                | zero =>
                  cases j with
                  | zero => rfl
                  | succ j =>
                    exfalso
                    have hj : j < l.length := by simpa using hj
                    refine hne j l[j] (List.getElem?_eq_getElem hj) b' (by rw [← hbj]; congr 1; omega) ?_
                    have : ρ k = some b' := by simpa using hbi
                    rw [hb] at this
                    cases this; rfl
                | succ i =>
                  cases j with
                  | zero =>
                    exfalso
                    have hi : i < l.length := by simpa using hi
                    refine hne i l[i] (List.getElem?_eq_getElem hi) b' (by rw [← hbi]; congr 1; omega) ?_
                    have : ρ k = some b' := by simpa using hbj
                    rw [hb] at this
                    cases this; rfl
                  | succ j =>
                    have := h2 i j b' (by simpa using hi) (by simpa using hj) (by rw [← hbi]; congr 1; omega) (by rw [← hbj]; congr 1; omega)
                    omega
            · cases h
          · cases h
        · cases h
    · cases h

def putR (ρ : Nat → Option Nat) (l : List (Nat × AObj)) : Tr AObj → Option (Tr AObj) := List.rec (motive := fun _ => Tr AObj → Option (Tr AObj)) some (fun p _ ih t => match p with
  | (k, x) => match x with
    | ⟨o, g, e⟩ => match ρ k with
      | some b => match renO ρ o, isRO g e with
        | some o', false => ih (t.set (bits b) ⟨o', g, e⟩)
        | _, _ => none
      | none => none) l
theorem putR_cons (ρ : Nat → Option Nat) (k : Nat) (o : Obj) (g : Bool) (e : Nat) (l : List (Nat × AObj)) (t : Tr AObj) : putR ρ ((k, ⟨o, g, e⟩) :: l) t = match ρ k with
  | some b => match renO ρ o, isRO g e with
    | some o', false => putR ρ l (t.set (bits b) ⟨o', g, e⟩)
    | _, _ => none
  | none => none := rfl
theorem putR_look {ρ : Nat → Option Nat} : ∀ {l : List (Nat × AObj)} {t t' : Tr AObj}, putR ρ l t = some t' → ∀ b x, look t' b = some x →
    (∃ k x0 o', (k, x0) ∈ l ∧ ρ k = some b ∧ renO ρ x0.o = some o' ∧ x = ⟨o', x0.grown, x0.esz⟩ ∧ isRO x0.grown x0.esz = false) ∨ (look t b = some x ∧ ∀ k y, (k, y) ∈ l → ρ k ≠ some b) := by
  intro l
  induction l with
  | nil => intro t t' h b x hx; cases h; exact .inr ⟨hx, fun _ _ h => by cases h⟩
  | cons p l ih =>
    intro t t' h b x hx
    obtain ⟨k, o, g, e⟩ := p
    rw [putR_cons] at h
    split at h
    · rename_i b0 hb
      split at h
      · rename_i o' ho hro
        rcases ih h b x hx with ⟨k', x0, o1, h1, h2, h3, h4⟩ | ⟨h1, h2⟩
        · exact .inl ⟨k', x0, o1, List.mem_cons_of_mem _ h1, h2, h3, h4⟩
        · unfold look at h1
          rw [Tr.get_set] at h1
          split at h1
          · rename_i hbb
            cases h1
            have := bits_inj hbb
            subst this
            exact .inl ⟨k, ⟨o, g, e⟩, _, List.mem_cons_self, hb, ho, rfl, hro⟩
          · rename_i hbb
            refine .inr ⟨h1, fun k' y hm => ?_⟩
            rcases List.mem_cons.1 hm with hm | hm
            · cases hm
              rw [hb]
              intro he
              cases he
              exact hbb rfl
            · exact h2 k' y hm
      · cases h
    · cases h
def delR (ρ : Nat → Option Nat) (l : List Nat) : Tr AObj → Tr AObj := List.rec (motive := fun _ => Tr AObj → Tr AObj) (fun t => t) (fun k _ ih t => match ρ k with
  | some b => ih (t.del (bits b))
  | none => ih t) l
theorem delR_cons (ρ : Nat → Option Nat) (k : Nat) (l : List Nat) (t : Tr AObj) : delR ρ (k :: l) t = match ρ k with
  | some b => delR ρ l (t.del (bits b))
  | none => delR ρ l t := rfl
theorem delR_look {ρ : Nat → Option Nat} : ∀ {l : List Nat} {t : Tr AObj} {b : Nat} {x : AObj}, look (delR ρ l t) b = some x → look t b = some x ∧ ∀ k ∈ l, ρ k ≠ some b := by
  intro l
  induction l with
  | nil => intro t b x h; exact ⟨h, fun _ h => by cases h⟩
  | cons k l ih =>
    intro t b x h
    rw [delR_cons] at h
    split at h
    · rename_i b0 hb
      obtain ⟨h1, h2⟩ := ih h
      unfold look at h1
      rw [Tr.get_del] at h1
      split at h1
      · cases h1
      · rename_i hbb
        refine ⟨h1, fun k' hm => ?_⟩
        rcases List.mem_cons.1 hm with hm | hm
        · subst hm
          rw [hb]
          intro he
          cases he
          exact hbb rfl
        · exact h2 k' hm
    · rename_i hb
      obtain ⟨h1, h2⟩ := ih h
      refine ⟨h1, fun k' hm => ?_⟩
      rcases List.mem_cons.1 hm with hm | hm
      · subst hm; rw [hb]; simp
      · exact h2 k' hm

/-- The answer of a call that has been reckoned, where it is that call. -/
def hitT (e : TE) (n0 : Nat) (xs : List Value) (A : AHeap) (s : Disc) : VR := match s with
  | (_, t) => match mapO (renV (fren n0 t) 8) e.xs with
    | some ys => match veqs (veq 8) ys xs with
      | true => match chkObjs (fren n0 t) A e.objs 0 .leaf with
        | true => match renV (ren1 n0 e.n1 A.next t) 8 e.v with
          | some v => match putR (ren1 n0 e.n1 A.next t) e.outs (delR (fren n0 t) e.gone A.objs) with
            | some t' => .yes v ⟨A.next + (e.n1 - n0), t'⟩
            | none => .no
          | none => .no
        | false => .no
      | false => .no
    | none => .no
def hit (e : TE) (xs : List Value) (A : AHeap) : VR := hitT e (lenR e.objs) xs A (dall A e.objs 0 (dlist (dval 8) e.xs xs (0, .leaf)))

variable {P : Program}

/-- A call has been reckoned. -/
def EntOK (P : Program) (e : TE) : Prop := (∃ fn, P.funcs[e.g]? = some fn ∧ fn.body.isSome = true) ∧ ∀ N, ∃ A1, RetOK P N e.g ⟨e.xs⟩ e.mem e.v A1 ∧ A1.next = e.n1 ∧ e.objs.length ≤ e.n1 ∧ (∀ k x, (k, x) ∈ e.outs → look A1.objs k = some x) ∧
  (∀ k x, look e.mem.objs k = some x → k ∉ e.gone → (∀ y, (k, y) ∉ e.outs) → look A1.objs k = some x)

theorem mapO_append {α β : Type} {f : α → Option β} : ∀ {l m : List α} {l' m' : List β}, mapO f l = some l' → mapO f m = some m' → mapO f (l ++ m) = some (l' ++ m') := by
  intro l
  induction l with
  | nil => intro m l' m' h k; cases h; exact k
  | cons a l ih =>
    intro m l' m' h k
    rw [mapO_cons] at h
    rw [List.cons_append, mapO_cons]
    split at h
    · rename_i y hy
      split at h
      · rename_i ys hys
        cases h
        rw [ih hys k]
        rfl
      · cases h
    · cases h
theorem mapO_replicate {α β : Type} {f : α → Option β} {a : α} {b : β} (h : f a = some b) : ∀ n, mapO f (List.replicate n a) = some (List.replicate n b) := by
  intro n
  induction n with
  | zero => rfl
  | succ n ih => rw [List.replicate_succ, List.replicate_succ, mapO_cons, h, ih]

/-- The frame of a call, of arguments with other names. -/
theorem enter_ren {ρ : Nat → Option Nat} {φ0 φ : Phi} (h : ∀ b b', ρ b = some b' → φ0 b = φ b') {g : FuncId} {xs ys : List Value} (hr : mapO (renV ρ 8) xs = some ys) {fr' : Frame} (hf : FrR φ (Frame.enter P g ⟨ys⟩ .normal) fr') : FrR φ0 (Frame.enter P g ⟨xs⟩ .normal) fr' := by
  obtain ⟨fn', tm', td', ds', m', kd', ro'⟩ := fr'
  obtain ⟨h1, h2, h3, h4, h5, h6, h7, h8⟩ := hf
  simp only [Frame.enter] at h1 h2 h3 h4 h5 h6 h7 h8
  have hro : ro' = none := h8
  have hds : ds' = [] := by cases h4; rfl
  have htd := IL.one h3
  subst hro hds htd
  refine ⟨h1, ?_, .code _ .nil, .nil, h5, rfl, h7, rfl⟩
  simp only [Frame.enter]
  have hl := (mapO_get hr).1
  refine (AR.ren (f := renV ρ 8) (renV_iff h 8) (l := ys ++ List.replicate (((P.funcs[g]?).map (·.ntmps)).getD 0 - ys.length) undef) ?_ _).2 ?_
  · rw [Array.toList_append]
    refine mapO_append (by simpa using hr) ?_
    rw [Array.toList_replicate]
    have : xs.length = ys.length := hl.symm
    simp only [List.size_toArray, this]
    exact mapO_replicate (f := renV ρ 8) (a := undef) (b := undef) rfl _
  · have e : (⟨ys ++ List.replicate (((P.funcs[g]?).map (·.ntmps)).getD 0 - ys.length) undef⟩ : Array Value) = ⟨ys⟩ ++ Array.replicate (((P.funcs[g]?).map (·.ntmps)).getD 0 - (⟨ys⟩ : Array Value).size) undef := by
      refine Array.ext' ?_
      simp
    rw [e]
    exact h2

theorem hit_ret {N : Kp} {e : TE} (hE : EntOK P e) {xs : List Value} {A A' : AHeap} {v : Value} (h : hit e xs A = .yes v A') : RetOK P N e.g ⟨xs⟩ A v A' := by
  intro φ w fr' hf hs hN cc base
  unfold hit at h
  generalize dall A e.objs 0 (dlist (dval 8) e.xs xs (0, .leaf)) = s at h
  unfold hitT at h
  split at h
  rename_i n t
  split at h
  · rename_i ys hys
    split at h
    · rename_i hyx
      have := veqs_eq (veq_eq 8) hyx
      subst this
      split at h
      · rename_i hchk
        split at h
        · rename_i v1 hv1
          split at h
          · rename_i t' ht'
            cases h
            have hn0 : lenR e.objs = e.objs.length := by simp [lenR_eq]
            rw [hn0] at hys hchk hv1 ht'
            rw [hn0]
            generalize hρ0 : fren e.objs.length t = ρ at hys hchk ht'
            generalize hρ1 : ren1 e.objs.length e.n1 A.next t = ρ1 at hv1 ht'
            have hdom : ∀ b b', ρ b = some b' → b < e.objs.length := by
              intro b b' hb
              subst hρ0
              unfold fren at hb
              split at hb
              · rename_i hlt; exact lt_of_blt hlt
              · cases hb
            have hρ1a : ∀ b b', ρ1 b = some b' → (ρ b = some b') ∨ (e.objs.length ≤ b ∧ b < e.n1 ∧ b' = A.next + (b - e.objs.length)) := by
              intro b b' hb
              subst hρ0 hρ1
              unfold ren1 at hb
              unfold fren
              split at hb
              · exact .inl hb
              · rename_i hlt
                split at hb
                · rename_i hlt2
                  cases hb
                  refine .inr ⟨?_, lt_of_blt hlt2, rfl⟩
                  have : ¬ b < e.objs.length := fun hh => by rw [blt_of hh] at hlt; cases hlt
                  omega
                · cases hb
            obtain ⟨c1, c2⟩ := chkObjs_ok hchk
            have c1 : ∀ i x, e.objs[i]? = some x → ∃ b' y, ρ i = some b' ∧ look A.objs b' = some y ∧ zOK x.o = true ∧ objEq ρ x y = true := fun i x hx => by
              obtain ⟨b', y, g1, _, g3, g4, g5⟩ := c1 i x hx
              exact ⟨b', y, by simpa using g1, g3, g4, g5⟩
            have c2 : ∀ i j b', ρ i = some b' → ρ j = some b' → i = j := fun i j b' hi hj => c2 i j b' (hdom _ _ hi) (hdom _ _ hj) (by simpa using hi) (by simpa using hj)
            -- names that stand for something alive
            have alive0 : ∀ k b', ρ k = some b' → ∃ x y en, e.objs[k]? = some x ∧ look A.objs b' = some y ∧ φ b' = some en ∧ zOK x.o = true ∧ objEq ρ x y = true := by
              intro k b' hk
              have hlt := hdom _ _ hk
              obtain ⟨b2, y, g1, g2, g3, g4⟩ := c1 k e.objs[k] (List.getElem?_eq_getElem hlt)
              rw [hk] at g1
              cases g1
              obtain ⟨en, he, _⟩ := hs.alive _ _ g2
              exact ⟨_, y, en, List.getElem?_eq_getElem hlt, g2, he, g3, g4⟩
            let φ0 : Phi := fun b => (ρ b).bind φ
            have hφ0 : ∀ b b', ρ b = some b' → φ0 b = φ b' := fun b b' hb => by simp [φ0, hb]
            have hφ0s : ∀ b en, φ0 b = some en → ∃ b', ρ b = some b' ∧ φ b' = some en := fun b en hb => by
              simp only [φ0, Option.bind_eq_some_iff] at hb
              exact hb
            let N' : Kp := ⟨fun q => N.blk q ∨ ∃ c y e', (∀ k, ρ k ≠ some c) ∧ look A.objs c = some y ∧ φ c = some e' ∧ e'.blk = q, fun _ => False⟩
            have objEq_ok : ∀ {x y : AObj}, objEq ρ x y = true → y.grown = x.grown ∧ y.esz = x.esz ∧ renO ρ x.o = some y.o ∧ isRO x.grown x.esz = false := by
              intro x y ho
              obtain ⟨o, g, ez⟩ := x
              obtain ⟨o', g', ez'⟩ := y
              unfold objEq at ho
              simp only at ho
              split at ho
              · rename_i o1 hr hro
                simp only [Bool.and_eq_true] at ho
                exact ⟨(beqB_eq ho.1).symm, (Nat.eq_of_beq_eq_true ho.2.1).symm, by rw [hr, (oeq_eq ho.2.2).1], hro⟩
              · cases ho
            have hs0 : Sim N' φ0 e.mem w := {
              fresh := fun b en hb => by
                obtain ⟨b', h1, _⟩ := hφ0s _ _ hb
                rw [TE.next_mem]
                exact hdom _ _ h1
              base := fun b x en hb he => by
                obtain ⟨b', h1, h2⟩ := hφ0s _ _ he
                obtain ⟨_, y, _, _, g2, _⟩ := alive0 _ _ h1
                obtain ⟨k1, k2⟩ := hs.base _ _ _ g2 h2
                refine ⟨fun hk => ?_, k2⟩
                rcases hk with hk | ⟨c, y', e', hc, hy', he', hq⟩
                · exact k1 hk
                · have hne : b' ≠ c := fun hh => by subst hh; exact hc _ h1
                  exact hs.inj _ _ _ _ _ _ hne g2 hy' h2 he' hq.symm
              alive := fun b x hb => by
                rw [TE.look_mem] at hb
                obtain ⟨b', y, g1, g2, g3, g4⟩ := c1 b x hb
                obtain ⟨en, he, k1, k2, k3⟩ := hs.alive _ _ g2
                obtain ⟨q1, q2, q3, q4⟩ := objEq_ok g4
                exact ⟨en, by rw [hφ0 _ _ g1]; exact he, k1.trans q1, k2.trans q2, (renO_iff hφ0 q3 (zOK_eq g3) en w (by rw [k1, k2, q1, q2]; exact q4)).2 k3⟩
              inj := fun b b' x x' en en' hne hb hb' he he' => by
                obtain ⟨c, h1, h2⟩ := hφ0s _ _ he
                obtain ⟨c', h1', h2'⟩ := hφ0s _ _ he'
                obtain ⟨_, y, _, _, g2, _⟩ := alive0 _ _ h1
                obtain ⟨_, y', _, _, g2', _⟩ := alive0 _ _ h1'
                exact hs.inj _ _ _ _ _ _ (fun hh => by subst hh; exact hne (c2 _ _ _ h1 h1')) g2 g2' h2 h2'
              res := fun b hb => hb.elim }
            have hN' : KOK N' w := by
              intro k hk
              rcases hk with hk | ⟨c, y, e', _, hy, he, rfl⟩
              · exact hN k hk
              · exact (hs.base _ _ _ hy he).2
            obtain ⟨_, hE2⟩ := hE
            obtain ⟨A1, hret, hn1, hle, houts, hsame⟩ := hE2 N'
            obtain ⟨ψ0, v', w1, k1, k2, k3, k4, k5⟩ := hret φ0 w fr' (enter_ren hφ0 hys hf) hs0 hN' cc base
            let ψ : Phi := fun b => if b < A.next then φ b else ψ0 (e.objs.length + (b - A.next))
            have hψlo : ∀ b, b < A.next → ψ b = φ b := fun b hb => by simp [ψ, hb]
            have hψhi : ∀ b, A.next ≤ b → ψ b = ψ0 (e.objs.length + (b - A.next)) := fun b hb => by
              have : ¬ b < A.next := by omega
              simp [ψ, this]
            have hρψ0 : ∀ b b', ρ b = some b' → ψ0 b = ψ b' := by
              intro b b' hb
              obtain ⟨_, _, en, _, _, he, _⟩ := alive0 _ _ hb
              rw [hψlo _ (hs.fresh _ _ he), he]
              exact k1 _ _ (by rw [hφ0 _ _ hb]; exact he)
            have hρψ : ∀ b b', ρ1 b = some b' → ψ0 b = ψ b' := by
              intro b b' hb
              rcases hρ1a _ _ hb with hb | ⟨g1, g2, rfl⟩
              · exact hρψ0 _ _ hb
              · rw [hψhi _ (by omega)]
                congr 1
                omega
            -- what is alive behind the call
            have look' : ∀ b x, look t' b = some x → (look A.objs b = some x ∧ ∀ k, ρ k ≠ some b) ∨
                (∃ k x0 o', look A1.objs k = some x0 ∧ (ρ k = some b ∨ ρ1 k = some b) ∧ x = ⟨o', x0.grown, x0.esz⟩ ∧ ∀ en, ψ0 k = some en → ψ b = some en ∧ (ObjAt ψ0 en w1 x0.o → ObjAt ψ en w1 o')) := by
              intro b x hx
              rcases putR_look ht' b x hx with ⟨k, x0, o', g1, g2, g3, g4, g5⟩ | ⟨g1, g2⟩
              · refine .inr ⟨k, x0, o', houts _ _ g1, .inr g2, g4, fun en he => ⟨by rw [← hρψ _ _ g2]; exact he, fun ho => ?_⟩⟩
                have hro : isRO en.grown en.esz = false := by
                  obtain ⟨en', q1, q2, q3, _⟩ := k3.alive _ _ (houts _ _ g1)
                  rw [he] at q1
                  cases q1
                  rw [q2, q3]
                  exact g5
                refine (renO_iff hρψ g3 (fun c t f hh => ?_) en w1 hro).1 ho
                rw [hh, ObjAt.row hro] at ho
                exact ho.1
              · obtain ⟨g3, g4⟩ := delR_look g1
                by_cases hk : ∃ k, ρ k = some b
                · obtain ⟨k, hk⟩ := hk
                  obtain ⟨x0, y, en, q1, q2, q3, q4, q5⟩ := alive0 _ _ hk
                  rw [g3] at q2
                  cases q2
                  have hA1 : look A1.objs k = some x0 := by
                    refine hsame k x0 (by rw [TE.look_mem]; exact q1) (fun hm => g4 k hm hk) fun y hm => ?_
                    refine g2 k y hm ?_
                    have hlt := hdom _ _ hk
                    subst hρ0 hρ1
                    unfold fren at hk
                    unfold ren1
                    rw [blt_of hlt] at hk ⊢
                    exact hk
                  obtain ⟨r1, r2, r3, r4⟩ := objEq_ok q5
                  have hroe : ∀ en, ψ0 k = some en → isRO en.grown en.esz = false := fun en he => by
                    obtain ⟨en', q1, q2, q3, _⟩ := k3.alive _ _ hA1
                    rw [he] at q1
                    cases q1
                    rw [q2, q3]
                    exact r4
                  refine .inr ⟨k, x0, x.o, hA1, .inl hk, ?_, fun en he => ⟨by rw [← hρψ0 _ _ hk]; exact he, fun ho => (renO_iff hρψ0 r3 (zOK_eq q4) en w1 (hroe en he)).1 ho⟩⟩
                  rw [← r1, ← r2]
                · exact .inl ⟨g3, fun k hh => hk ⟨k, hh⟩⟩
            have old_blk : ∀ b x en, look A.objs b = some x → (∀ k, ρ k ≠ some b) → φ b = some en → N'.blk en.blk := fun b x en h1 h2 h3 => .inr ⟨b, x, en, h2, h1, h3, rfl⟩
            have old_phi : ∀ b x, look A.objs b = some x → ∃ en, φ b = some en ∧ ψ b = some en := fun b x hb => by
              obtain ⟨en, he, _⟩ := hs.alive _ _ hb
              exact ⟨en, he, by rw [hψlo _ (hs.fresh _ _ he)]; exact he⟩
            refine ⟨ψ, v', w1, fun b en hb => by rw [hψlo _ (hs.fresh _ _ hb)]; exact hb, (renV_iff hρψ _ _ _ hv1 _).1 k2, ?_, ⟨k4.os, k4.tape, k4.output, k4.size, fun k hk => k4.block k (.inl hk)⟩, k5⟩
            exact {
              fresh := fun b en hb => by
                show b < A.next + (e.n1 - e.objs.length)
                by_cases hlt : b < A.next
                · omega
                · rw [hψhi _ (by omega)] at hb
                  have := k3.fresh _ _ hb
                  rw [hn1] at this
                  omega
              base := fun b x en hb he => by
                rcases look' b x hb with ⟨g1, g2⟩ | ⟨k, x0, o', g1, _, _, g3⟩
                · obtain ⟨en', q1, q2⟩ := old_phi _ _ g1
                  rw [q2] at he
                  cases he
                  obtain ⟨r1, r2⟩ := hs.base _ _ _ g1 q1
                  exact ⟨r1, Nat.lt_of_lt_of_le r2 k4.size⟩
                · obtain ⟨en', q1, _⟩ := k3.alive _ _ g1
                  rw [(g3 _ q1).1] at he
                  cases he
                  obtain ⟨r1, r2⟩ := k3.base _ _ _ g1 q1
                  exact ⟨fun hh => r1 (.inl hh), r2⟩
              alive := fun b x hb => by
                rcases look' b x hb with ⟨g1, g2⟩ | ⟨k, x0, o', g1, _, g4, g3⟩
                · obtain ⟨en, q1, q2, q3, q4⟩ := hs.alive _ _ g1
                  refine ⟨en, by rw [hψlo _ (hs.fresh _ _ q1)]; exact q1, q2, q3, ?_⟩
                  exact q4.mono (fun b en hb => by rw [hψlo _ (hs.fresh _ _ hb)]; exact hb) (k4.block _ (old_blk _ _ _ g1 g2 q1))
                · obtain ⟨en, q1, q2, q3, q4⟩ := k3.alive _ _ g1
                  obtain ⟨r1, r2⟩ := g3 _ q1
                  subst g4
                  exact ⟨en, r1, q2, q3, r2 q4⟩
              inj := fun b b' x x' en en' hne hb hb' he he' => by
                rcases look' b x hb with ⟨g1, g2⟩ | ⟨k, x0, o', g1, gk, _, g3⟩
                · obtain ⟨f1, q1, q2⟩ := old_phi _ _ g1
                  rw [q2] at he
                  cases he
                  rcases look' b' x' hb' with ⟨g1', g2'⟩ | ⟨k', x0', o'', g1', gk', _, g3'⟩
                  · obtain ⟨f2, q1', q2'⟩ := old_phi _ _ g1'
                    rw [q2'] at he'
                    cases he'
                    exact hs.inj _ _ _ _ _ _ hne g1 g1' q1 q1'
                  · obtain ⟨f2, q1', _⟩ := k3.alive _ _ g1'
                    rw [(g3' _ q1').1] at he'
                    cases he'
                    intro heq
                    exact (k3.base _ _ _ g1' q1').1 (heq ▸ old_blk _ _ _ g1 g2 q1)
                · obtain ⟨f1, q1, _⟩ := k3.alive _ _ g1
                  rw [(g3 _ q1).1] at he
                  cases he
                  rcases look' b' x' hb' with ⟨g1', g2'⟩ | ⟨k', x0', o'', g1', gk', _, g3'⟩
                  · obtain ⟨f2, q1', q2'⟩ := old_phi _ _ g1'
                    rw [q2'] at he'
                    cases he'
                    intro heq
                    exact (k3.base _ _ _ g1 q1).1 (heq ▸ old_blk _ _ _ g1' g2' q1')
                  · obtain ⟨f2, q1', _⟩ := k3.alive _ _ g1'
                    rw [(g3' _ q1').1] at he'
                    cases he'
                    refine k3.inj _ _ _ _ _ _ (fun hh => hne ?_) g1 g1' q1 q1'
                    subst hh
                    have to1 : ∀ b, ρ k = some b ∨ ρ1 k = some b → ρ1 k = some b := by
                      rintro b (hb | hb)
                      · have hlt := hdom _ _ hb
                        subst hρ0 hρ1
                        unfold fren at hb
                        unfold ren1
                        rw [blt_of hlt] at hb ⊢
                        exact hb
                      · exact hb
                    have h1 := to1 _ gk
                    have h2 := to1 _ gk'
                    rw [h1] at h2
                    cases h2; rfl
              res := fun b hb => by
                obtain ⟨h1, h2⟩ := hs.res b hb
                refine ⟨by rw [hψlo _ h2]; exact h1, ?_⟩
                show b < A.next + (e.n1 - e.objs.length)
                omega }
          · cases h
        · cases h
      · cases h
    · cases h
  · cases h

/-- A table of calls that have been reckoned, in front of what answers the others. -/
def tryT (l : List TE) (g : FuncId) (xs : List Value) (A : AHeap) : VR := List.rec (motive := fun _ => VR) .no (fun e _ ih => match Nat.beq e.g g with
  | true => match hit e xs A with
    | .yes v A1 => .yes v A1
    | .no => ih
  | false => ih) l
theorem tryT_cons (e : TE) (l : List TE) (g : FuncId) (xs : List Value) (A : AHeap) : tryT (e :: l) g xs A = match Nat.beq e.g g with
  | true => match hit e xs A with
    | .yes v A1 => .yes v A1
    | .no => tryT l g xs A
  | false => tryT l g xs A := rfl
theorem tryT_ok : ∀ {l : List TE} {g : FuncId} {xs : List Value} {A A1 : AHeap} {v : Value}, tryT l g xs A = .yes v A1 → ∃ e ∈ l, e.g = g ∧ hit e xs A = .yes v A1 := by
  intro l
  induction l with
  | nil => intro g xs A A1 v h; cases h
  | cons e l ih =>
    intro g xs A A1 v h
    rw [tryT_cons] at h
    split at h
    · rename_i hg
      split at h
      · rename_i v' A2 hh
        cases h
        exact ⟨e, List.mem_cons_self, Nat.eq_of_beq_eq_true hg, hh⟩
      · obtain ⟨e', h1, h2⟩ := ih h
        exact ⟨e', List.mem_cons_of_mem _ h1, h2⟩
    · obtain ⟨e', h1, h2⟩ := ih h
      exact ⟨e', List.mem_cons_of_mem _ h1, h2⟩
def tab (T : List TE) (D : Orc) : Orc := fun f args A => match f with
  | .func fn first captured => match fn with
    | .func g => match tryT T g (first.toList ++ (args.toList ++ captured.toList)) A with
      | .yes v A1 => .yes v A1
      | .no => D f args A
    | _ => D f args A
  | _ => D f args A

theorem RetOK.leads {N : Kp} {g : FuncId} {xs : Array Value} {A A1 : AHeap} {v : Value} (h : RetOK P N g xs A v A1) (fr : Frame) (cs : List Frame) : Leads P N (.any N) (Frame.enter P g xs .normal, fr :: cs, A) (fr.finish v, cs, A1) := by
  intro φ w fr' cs' _ h1 h2 h3 h4 base
  cases h2 with
  | cons hfr hcs =>
    rename_i c' l'
    obtain ⟨ψ, v', w1, k1, k2, k3, k4, k5⟩ := h φ w fr' h1 h3 h4 c' (l' ++ base)
    exact ⟨ψ, c'.finish v', l', w1, k1, (hfr.mono k1).finish k2, hcs.mono k1, k3, k4, k5⟩

theorem tab_ok {N : Kp} {T : List TE} (hT : ∀ e ∈ T, EntOK P e) {D : Orc} (hD : OrcOK P N D) : OrcOK P N (tab T D) := by
  have rows : ∀ (first args captured : Array Value), (⟨first.toList ++ (args.toList ++ captured.toList)⟩ : Array Value) = first ++ args ++ captured := fun first args captured => by
    refine Array.ext' ?_
    simp
  refine ⟨fun {g first xs captured A v A1} h => ?_, fun {f args A v A1} h fr cs => ?_⟩
  · unfold tab at h
    simp only at h
    split at h
    · rename_i v1 A2 ht
      cases h
      obtain ⟨e, h1, h2, h3⟩ := tryT_ok ht
      have := hit_ret (N := N) (hT e h1) h3
      rw [h2, rows] at this
      exact this
    · exact hD.fn h
  · unfold tab at h
    split at h
    · rename_i fn first captured
      split at h
      · rename_i g
        split at h
        · rename_i v1 A2 ht
          cases h
          obtain ⟨e, h1, h2, h3⟩ := tryT_ok ht
          have := hit_ret (N := N) (hT e h1) h3
          rw [h2, rows] at this
          obtain ⟨fn, g1, g2⟩ := (hT e h1).1
          rw [h2] at g1
          exact ⟨_, by simp only [acall, g1, g2], this.leads fr cs⟩
        · exact hD.call h fr cs
      · exact hD.call h fr cs
    · exact hD.call h fr cs

/-- Whether a call comes to what a table says. -/
def obeq (x y : AObj) : Bool := match x with
  | ⟨o, g, e⟩ => match y with
    | ⟨o', g', e'⟩ => beqB g g' && (Nat.beq e e' && oeq o o')
theorem obeq_eq {x y : AObj} (h : obeq x y = true) : x = y := by
  obtain ⟨o, g, e⟩ := x
  obtain ⟨o', g', e'⟩ := y
  unfold obeq at h
  simp only [Bool.and_eq_true] at h
  rw [beqB_eq h.1, Nat.eq_of_beq_eq_true h.2.1, (oeq_eq h.2.2).1]
def outsB (A : AHeap) (l : List (Nat × AObj)) : Bool := List.rec (motive := fun _ => Bool) true (fun p _ ih => match p with
  | (k, x) => match look A.objs k with
    | some y => match obeq y x with
      | true => ih
      | false => false
    | none => false) l
theorem outsB_ok {A : AHeap} : ∀ {l : List (Nat × AObj)}, outsB A l = true → ∀ k x, (k, x) ∈ l → look A.objs k = some x := by
  intro l
  induction l with
  | nil => intro _ k x h; cases h
  | cons p l ih =>
    intro h k x hm
    obtain ⟨k0, x0⟩ := p
    have h : (match look A.objs k0 with | some y => (match obeq y x0 with | true => outsB A l | false => false) | none => false) = true := h
    split at h
    · rename_i y hy
      split at h
      · rename_i hq
        rcases List.mem_cons.1 hm with hm | hm
        · cases hm
          rw [hy, obeq_eq hq]
        · exact ih h k x hm
      · cases h
    · cases h
def memN (k : Nat) (l : List Nat) : Bool := List.rec (motive := fun _ => Bool) false (fun n _ ih => match Nat.beq n k with
  | true => true
  | false => ih) l
theorem memN_ok {k : Nat} : ∀ {l : List Nat}, memN k l = true → k ∈ l := by
  intro l
  induction l with
  | nil => intro h; cases h
  | cons n l ih =>
    intro h
    have h : (match Nat.beq n k with | true => true | false => memN k l) = true := h
    split at h
    · rename_i hq; rw [Nat.eq_of_beq_eq_true hq]; exact List.mem_cons_self
    · exact List.mem_cons_of_mem _ (ih h)
def memP (k : Nat) (l : List (Nat × AObj)) : Bool := List.rec (motive := fun _ => Bool) false (fun p _ ih => match p with
  | (n, _) => match Nat.beq n k with
    | true => true
    | false => ih) l
theorem memP_ok {k : Nat} : ∀ {l : List (Nat × AObj)}, memP k l = true → ∃ y, (k, y) ∈ l := by
  intro l
  induction l with
  | nil => intro h; cases h
  | cons p l ih =>
    intro h
    obtain ⟨n, y⟩ := p
    have h : (match Nat.beq n k with | true => true | false => memP k l) = true := h
    split at h
    · rename_i hq; rw [← Nat.eq_of_beq_eq_true hq]; exact ⟨y, List.mem_cons_self⟩
    · obtain ⟨z, hz⟩ := ih h; exact ⟨z, List.mem_cons_of_mem _ hz⟩
def sameB (A : AHeap) (gone : List Nat) (outs : List (Nat × AObj)) (l : List AObj) : Nat → Bool := List.rec (motive := fun _ => Nat → Bool) (fun _ => true) (fun x _ ih k => match memN k gone with
  | true => ih (k + 1)
  | false => match memP k outs with
    | true => ih (k + 1)
    | false => match look A.objs k with
      | some y => match obeq y x with
        | true => ih (k + 1)
        | false => false
      | none => false) l
theorem sameB_ok {A : AHeap} {gone : List Nat} {outs : List (Nat × AObj)} : ∀ {l : List AObj} {k : Nat}, sameB A gone outs l k = true → ∀ i x, l[i]? = some x → k + i ∉ gone → (∀ y, (k + i, y) ∉ outs) → look A.objs (k + i) = some x := by
  intro l
  induction l with
  | nil => intro k _ i x h; simp at h
  | cons a l ih =>
    intro k h i x hx hg ho
    have h : (match memN k gone with
      | true => sameB A gone outs l (k + 1)
      | false => match memP k outs with
        | true => sameB A gone outs l (k + 1)
        | false => match look A.objs k with
          | some y => match obeq y a with
            | true => sameB A gone outs l (k + 1)
            | false => false
          | none => false) = true := h
    have next : sameB A gone outs l (k + 1) = true → ∀ j, i = j + 1 → look A.objs (k + i) = some x := by
      intro h j hj
      subst hj
      have := ih h j x (by simpa using hx) (by rw [show k + 1 + j = k + (j + 1) by omega]; exact hg) (by rw [show k + 1 + j = k + (j + 1) by omega]; exact ho)
      rw [show k + (j + 1) = k + 1 + j by omega]
      exact this
    split at h
    · rename_i hm
      cases i with
      | zero => exact absurd (memN_ok hm) (by simpa using hg)
      | succ i => exact next h i rfl
    · split at h
      · rename_i hm
        cases i with
        | zero =>
          obtain ⟨y, hy⟩ := memP_ok hm
          exact absurd hy (by simpa using ho y)
        | succ i => exact next h i rfl
      · split at h
        · rename_i y hy
          split at h
          · rename_i hq
            cases i with
            | zero =>
              simp at hx
              subst hx
              rw [Nat.add_zero, hy, obeq_eq hq]
            | succ i => exact next h i rfl
          · cases h
        · cases h
def entB (P : Program) (X : Oper → XF) (R : DR) (m : Nat) (D : Orc) (e : TE) : Bool := match bfun P X R m D e.g ⟨e.xs⟩ e.mem with
  | .yes v A1 => match A1 with
    | ⟨n, t⟩ => match veq 8 v e.v with
      | true => match Nat.beq n e.n1 with
        | true => match Nat.ble (lenR e.objs) e.n1 with
          | true => match outsB ⟨n, t⟩ e.outs with
            | true => sameB ⟨n, t⟩ e.gone e.outs e.objs 0
            | false => false
          | false => false
        | false => false
      | false => false
  | .no => false
theorem bfun_body {X : Oper → XF} {R : DR} {m : Nat} {D : Orc} {g : FuncId} {xs : Array Value} {A A1 : AHeap} {v : Value} (h : bfun P X R m D g xs A = .yes v A1) : ∃ fn, P.funcs[g]? = some fn ∧ fn.body.isSome = true := by
  unfold bfun at h
  split at h
  · rename_i fn hfn
    rw [nth_arr] at hfn
    split at h
    · rename_i c hb
      exact ⟨fn, hfn, by rw [hb]; rfl⟩
    · cases h
  · cases h
theorem entOK_of (hc : NoCount P) (hx : P.follows .mixedOrders = true) {X : Oper → XF} {R : DR} (hX : XOK P X) (hR : DROK P R) {m : Nat} {D : Orc} (hD : ∀ N, OrcOK P N D) {e : TE} (h : entB P X R m D e = true) : EntOK P e := by
  unfold entB at h
  split at h
  · rename_i v A1 hr
    refine ⟨bfun_body hr, fun N => ?_⟩
    split at h
    rename_i n t
    split at h
    · rename_i hv
      split at h
      · rename_i hn
        split at h
        · rename_i hle
          split at h
          · rename_i ho
            have := bfun_ok (N := N) hc hx hD hX hR hr
            rw [veq_eq _ _ _ hv] at this
            refine ⟨⟨n, t⟩, this.ret, Nat.eq_of_beq_eq_true hn, ?_, outsB_ok ho, fun k x hk hg hno => ?_⟩
            · have := Nat.le_of_ble_eq_true hle
              simpa [lenR_eq] using this
            · rw [TE.look_mem] at hk
              have := sameB_ok h k x hk (by simpa using hg) (by simpa using hno)
              simpa using this
          · cases h
        · cases h
      · cases h
    · cases h
  · cases h

theorem allT_nil : ∀ e ∈ ([] : List TE), EntOK P e := fun _ h => by cases h
theorem allT_cons {e : TE} {l : List TE} (h : EntOK P e) (hl : ∀ x ∈ l, EntOK P x) : ∀ x ∈ e :: l, EntOK P x := fun x hx => by
  rcases List.mem_cons.1 hx with hx | hx
  · exact hx ▸ h
  · exact hl x hx

/-- Calls are answered by the table, or run by their parts. -/
def torc (P : Program) (X : Oper → XF) (R : DR) (m : Nat) (T : List TE) (n : Nat) : Orc := Nat.rec (motive := fun _ => Orc) bno (fun _ D => tab T (bstep P X R m D)) n
theorem torc_ok (hc : NoCount P) (hx : P.follows .mixedOrders = true) {X : Oper → XF} {R : DR} (hX : XOK P X) (hR : DROK P R) {m : Nat} {T : List TE} (hT : ∀ e ∈ T, EntOK P e) : ∀ n (N : Kp), OrcOK P N (torc P X R m T n) := by
  intro n
  induction n with
  | zero => intro N; exact ⟨fun h => (by cases h), fun h => (by cases h)⟩
  | succ n ih => intro N; exact tab_ok hT (bstep_ok hc hx ih hX hR)

/-- A call is right, of which a run by its parts, its calls answered by a table of right calls, comes to what is told. -/
theorem entOK_tab (hc : NoCount P) (hx : P.follows .mixedOrders = true) {X : Oper → XF} {R : DR} (hX : XOK P X) (hR : DROK P R) {m n : Nat} {T : List TE} (hT : ∀ e ∈ T, EntOK P e) {e : TE} (h : entB P X R m (torc P X R m T n) e = true) : EntOK P e := entOK_of hc hx hX hR (torc_ok hc hx hX hR hT n) h
/-- A closed call that comes to true, its calls answered by a table of right calls, is so, and nothing that was there before has turned. -/
theorem calls_of_tab (hc : NoCount P) (hx : P.follows .mixedOrders = true) {X : Oper → XF} {R : DR} (hX : XOK P X) (hR : DROK P R) {m n g : Nat} {T : List TE} (hT : ∀ e ∈ T, EntOK P e) (h : btellsD P X R m (torc P X R m T n) g = true) (w : World) : Calls P g #[] w (fun e w' => e = .returned (.bool true) ∧ Below w.heap.size w w') := calls_of_btellsD hc hx hX hR (torc_ok hc hx hX hR hT n) h w

end
end Go.Proofs.Ytdaljohmfnfgiaa.Canon

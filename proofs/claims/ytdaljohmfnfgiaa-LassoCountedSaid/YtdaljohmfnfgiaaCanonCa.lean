/- Values and objects whose memory has other names: they stand for the same. No condition. -/
import Derived.Test.YtdaljohmfnfgiaaCanonBd
namespace Go.Proofs.Ytdaljohmfnfgiaa.Canon
open Go Go.RowKit
noncomputable section

def mapO {α β : Type} (f : α → Option β) (l : List α) : Option (List β) := List.rec (motive := fun _ => Option (List β)) (some []) (fun x _ ih => match f x with
  | some y => match ih with
    | some ys => some (y :: ys)
    | none => none
  | none => none) l
theorem mapO_cons {α β : Type} (f : α → Option β) (x : α) (l : List α) : mapO f (x :: l) = match f x with
  | some y => match mapO f l with
    | some ys => some (y :: ys)
    | none => none
  | none => none := rfl
theorem mapO_get {α β : Type} {f : α → Option β} : ∀ {l : List α} {r : List β}, mapO f l = some r → r.length = l.length ∧ ∀ (i : Nat) (x : α), l[i]? = some x → ∃ y, r[i]? = some y ∧ f x = some y := by
  intro l
  induction l with
  | nil => intro r h; cases h; exact ⟨rfl, fun i x hx => by simp at hx⟩
  | cons a l ih =>
    intro r h
    rw [mapO_cons] at h
    split at h
    · rename_i y hy
      split at h
      · rename_i ys hys
        cases h
        obtain ⟨h1, h2⟩ := ih hys
        refine ⟨by simp [h1], fun i x hx => ?_⟩
        cases i with
        | zero => simp at hx; subst hx; exact ⟨y, rfl, hy⟩
        | succ i => simpa using h2 i x (by simpa using hx)
      · cases h
    · cases h

/-- A value with other names. -/
def renV (ρ : Nat → Option Nat) (d : Nat) : Value → Option Value := Nat.rec (motive := fun _ => Value → Option Value) (fun _ => none) (fun _ ih v => match v with
  | .bool b => some (.bool b)
  | .int k n => some (.int k n)
  | .string s => some (.string s)
  | .pointer p => match p with
    | none => some (.pointer none)
    | some a => match a with
      | ⟨b, o, sp⟩ => match sp with
        | none => match ρ b with
          | some b' => some (.pointer (some ⟨b', o, none⟩))
          | none => none
        | some _ => none
  | .slice p n c => match p with
    | none => some (.slice none n c)
    | some a => match a with
      | ⟨b, o, sp⟩ => match sp with
        | none => match ρ b with
          | some b' => some (.slice (some ⟨b', o, none⟩) n c)
          | none => none
        | some _ => none
  | .map r => match r with
    | none => some (.map none)
    | some b => match ρ b with
      | some b' => some (.map (some b'))
      | none => none
  | .func fn xs ys => match fn with
    | .func f => match mapO ih xs.toList with
      | some xs' => match mapO ih ys.toList with
        | some ys' => some (.func (.func f) ⟨xs'⟩ ⟨ys'⟩)
        | none => none
      | none => none
    | _ => none
  | .nilFunc => some .nilFunc
  | .nilIface => some .nilIface
  | .agg xs => match mapO ih xs.toList with
    | some xs' => some (.agg ⟨xs'⟩)
    | none => none
  | .tuple xs => match mapO ih xs.toList with
    | some xs' => some (.tuple ⟨xs'⟩)
    | none => none
  | _ => none) d

theorem AR.ren {φ0 φ : Phi} {f : Value → Option Value} (hf : ∀ v0 v, f v0 = some v → ∀ v', V φ0 v0 v' ↔ V φ v v') {xs : Array Value} {l : List Value} (h : mapO f xs.toList = some l) (xs' : Array Value) : AR φ0 xs xs' ↔ AR φ ⟨l⟩ xs' := by
  obtain ⟨h1, h2⟩ := mapO_get h
  have hsz : l.length = xs.size := by simpa using h1
  constructor
  · intro ha
    refine .of (by simp [hsz, ha.1]) fun i v hv => ?_
    have hi : i < xs.size := by
      have := (Array.getElem?_eq_some_iff.1 hv).1
      simpa [hsz] using this
    obtain ⟨y, g1, g2⟩ := h2 i xs[i] (by simp [hi])
    have : y = v := by
      have hv : l[i]? = some v := by simpa using hv
      rw [g1] at hv; cases hv; rfl
    subst this
    obtain ⟨u, k1, k2⟩ := ha.get (i := i) (v := xs[i]) (Array.getElem?_eq_getElem hi)
    exact ⟨u, k1, (hf _ _ g2 _).1 k2⟩
  · intro ha
    refine .of (by rw [← ha.1]; simp [hsz]) fun i v hv => ?_
    obtain ⟨y, g1, g2⟩ := h2 i v (by simpa using hv)
    obtain ⟨u, k1, k2⟩ := ha.get (i := i) (v := y) (by simpa using g1)
    exact ⟨u, k1, (hf _ _ g2 _).2 k2⟩

theorem renV_iff {ρ : Nat → Option Nat} {φ0 φ : Phi} (h : ∀ b b', ρ b = some b' → φ0 b = φ b') : ∀ (d : Nat) (v0 v : Value), renV ρ d v0 = some v → ∀ v', V φ0 v0 v' ↔ V φ v v' := by
  intro d
  induction d with
  | zero => intro v0 v hv; cases hv
  | succ d ih =>
    intro v0 v hv v'
    cases v0 with
    | bool b => cases hv; exact ⟨fun h => by cases h; exact .bool b, fun h => by cases h; exact .bool b⟩
    | int k n => cases hv; exact ⟨fun h => by cases h; exact .int k n, fun h => by cases h; exact .int k n⟩
    | float => cases hv
    | complex => cases hv
    | chan => cases hv
    | iface => cases hv
    | string s => cases hv; exact ⟨fun h => by cases h; exact .string s, fun h => by cases h; exact .string s⟩
    | nilFunc => cases hv; exact ⟨fun h => by cases h; exact .nilFunc, fun h => by cases h; exact .nilFunc⟩
    | nilIface => cases hv; exact ⟨fun h => by cases h; exact .nilIface, fun h => by cases h; exact .nilIface⟩
    | pointer p =>
      cases p with
      | none => cases hv; exact ⟨fun h => by cases h; exact .ptrNil, fun h => by cases h; exact .ptrNil⟩
      | some a =>
        obtain ⟨b, o, sp⟩ := a
        cases sp with
        | some s => cases hv
        | none =>
          have hv : (match ρ b with | some b' => some (Value.pointer (some ⟨b', o, none⟩)) | none => none) = some v := hv
          split at hv
          · rename_i b' hb
            cases hv
            refine ⟨fun hw => ?_, fun hw => ?_⟩
            · cases hw with | ptr he => exact .ptr (by rw [← h _ _ hb]; exact he)
            · cases hw with | ptr he => exact .ptr (by rw [h _ _ hb]; exact he)
          · cases hv
    | slice p n c =>
      cases p with
      | none => cases hv; exact ⟨fun h => by cases h; exact .sliceNil n c, fun h => by cases h; exact .sliceNil n c⟩
      | some a =>
        obtain ⟨b, o, sp⟩ := a
        cases sp with
        | some s => cases hv
        | none =>
          have hv : (match ρ b with | some b' => some (Value.slice (some ⟨b', o, none⟩) n c) | none => none) = some v := hv
          split at hv
          · rename_i b' hb
            cases hv
            refine ⟨fun hw => ?_, fun hw => ?_⟩
            · cases hw with | slice he hc => exact .slice (by rw [← h _ _ hb]; exact he) hc
            · cases hw with | slice he hc => exact .slice (by rw [h _ _ hb]; exact he) hc
          · cases hv
    | map r =>
      cases r with
      | none => cases hv; exact ⟨fun h => by cases h; exact .mapNil, fun h => by cases h; exact .mapNil⟩
      | some b =>
        have hv : (match ρ b with | some b' => some (Value.map (some b')) | none => none) = some v := hv
        split at hv
        · rename_i b' hb
          cases hv
          refine ⟨fun hw => ?_, fun hw => ?_⟩
          · cases hw with | map he => exact .map (by rw [← h _ _ hb]; exact he)
          · cases hw with | map he => exact .map (by rw [h _ _ hb]; exact he)
        · cases hv
    | func fn xs ys =>
      cases fn with
      | func f =>
        have hv : (match mapO (renV ρ d) xs.toList with
          | some xs' => match mapO (renV ρ d) ys.toList with
            | some ys' => some (Value.func (.func f) ⟨xs'⟩ ⟨ys'⟩)
            | none => none
          | none => none) = some v := hv
        split at hv
        · rename_i l hl
          split at hv
          · rename_i m hm
            cases hv
            refine ⟨fun hw => ?_, fun hw => ?_⟩
            · cases hw with
              | func _ hx hy hx' hy' => exact .ofFunc f ((AR.ren ih hl _).1 ⟨hx, hx'⟩) ((AR.ren ih hm _).1 ⟨hy, hy'⟩)
            · cases hw with
              | func _ hx hy hx' hy' => exact .ofFunc f ((AR.ren ih hl _).2 ⟨hx, hx'⟩) ((AR.ren ih hm _).2 ⟨hy, hy'⟩)
          · cases hv
        · cases hv
      | method => cases hv
      | methodOf => cases hv
      | via => cases hv
      | yield => cases hv
    | agg xs =>
      have hv : (match mapO (renV ρ d) xs.toList with | some xs' => some (Value.agg ⟨xs'⟩) | none => none) = some v := hv
      split at hv
      · rename_i l hl
        cases hv
        refine ⟨fun hw => ?_, fun hw => ?_⟩
        · cases hw with | agg hx hx' => exact .ofAgg ((AR.ren ih hl _).1 ⟨hx, hx'⟩)
        · cases hw with | agg hx hx' => exact .ofAgg ((AR.ren ih hl _).2 ⟨hx, hx'⟩)
      · cases hv
    | tuple xs =>
      have hv : (match mapO (renV ρ d) xs.toList with | some xs' => some (Value.tuple ⟨xs'⟩) | none => none) = some v := hv
      split at hv
      · rename_i l hl
        cases hv
        refine ⟨fun hw => ?_, fun hw => ?_⟩
        · cases hw with | tuple hx hx' => exact .ofTuple ((AR.ren ih hl _).1 ⟨hx, hx'⟩)
        · cases hw with | tuple hx hx' => exact .ofTuple ((AR.ren ih hl _).2 ⟨hx, hx'⟩)
      · cases hv

/-- An object with other names. -/
def renE (ρ : Nat → Option Nat) (e : MapEntry) : Option MapEntry := match e with
  | ⟨k, v, b⟩ => match renV ρ 8 k with
    | some k' => match renV ρ 8 v with
      | some v' => some ⟨k', v', b⟩
      | none => none
    | none => none
def renO (ρ : Nat → Option Nat) (o : Obj) : Option Obj := match o with
  | .cells c e _ => match mapO (renV ρ 8) c.toList with
    | some c' => some (.cells ⟨c'⟩ e (0, 0))
    | none => none
  | .map es k => match mapO (renE ρ) es.toList with
    | some es' => some (.map ⟨es'⟩ k)
    | none => none
  | _ => none

theorem ER.ren {ρ : Nat → Option Nat} {φ0 φ : Phi} (h : ∀ b b', ρ b = some b' → φ0 b = φ b') {es : Array MapEntry} {l : List MapEntry} (hl : mapO (renE ρ) es.toList = some l) (es' : Array MapEntry) : ER φ0 es es' ↔ ER φ ⟨l⟩ es' := by
  obtain ⟨h1, h2⟩ := mapO_get hl
  have hsz : l.length = es.size := by simpa using h1
  have key : ∀ (i : Nat) (hi : i < es.size) (hi' : i < l.length) (k v : Value), (V φ0 es[i].key k ↔ V φ l[i].key k) ∧ (V φ0 es[i].val v ↔ V φ l[i].val v) ∧ es[i].born = l[i].born := by
    intro i hi hi' k v
    obtain ⟨y, g1, g2⟩ := h2 i es[i] (by simp [hi])
    have : y = l[i] := by rw [List.getElem?_eq_getElem hi'] at g1; cases g1; rfl
    subst this
    revert g2
    generalize es[i] = x
    generalize l[i] = y
    intro g2
    obtain ⟨k0, v0, b0⟩ := x
    unfold renE at g2
    simp only at g2
    split at g2
    · rename_i k' hk
      split at g2
      · rename_i v' hv
        cases g2
        exact ⟨renV_iff h _ _ _ hk _, renV_iff h _ _ _ hv _, rfl⟩
      · cases g2
    · cases g2
  constructor
  · rintro ⟨hs, ha⟩
    refine ⟨by simp [hsz, hs], fun i hi hi' => ?_⟩
    have hi0 : i < l.length := by simpa using hi
    have hie : i < es.size := by omega
    obtain ⟨a1, a2, a3⟩ := ha i hie hi'
    obtain ⟨b1, b2, b3⟩ := key i hie hi0 es'[i].key es'[i].val
    exact ⟨b1.1 a1, b2.1 a2, b3.symm.trans a3⟩
  · rintro ⟨hs, ha⟩
    have hs : l.length = es'.size := by simpa using hs
    refine ⟨by omega, fun i hi hi' => ?_⟩
    have hi0 : i < l.length := by omega
    obtain ⟨a1, a2, a3⟩ := ha i (by simpa using hi0) hi'
    obtain ⟨b1, b2, b3⟩ := key i hi hi0 es'[i].key es'[i].val
    exact ⟨b1.2 a1, b2.2 a2, b3.trans a3⟩

theorem renO_iff {ρ : Nat → Option Nat} {φ0 φ : Phi} (h : ∀ b b', ρ b = some b' → φ0 b = φ b') {o0 o : Obj} (hr : renO ρ o0 = some o) (hz : ∀ c t f, o0 = .cells c t f → f = (0, 0)) (e : Ent) (w : World) (hro : isRO e.grown e.esz = false) : ObjAt φ0 e w o0 ↔ ObjAt φ e w o := by
  cases o0 <;> try (cases hr; done)
  case cells c t f =>
    have := hz c t f rfl
    subst this
    have hr : (match mapO (renV ρ 8) c.toList with | some c' => some (Obj.cells ⟨c'⟩ t (0, 0)) | none => none) = some o := hr
    split at hr
    · rename_i l hl
      cases hr
      obtain ⟨h1, h2⟩ := mapO_get hl
      have hsz : l.length = c.size := by simpa using h1
      have key : ∀ (c' : Array Value), (∀ (i : Nat) (v : Value), c[i]? = some v → ∃ v', c'[e.off + i]? = some v' ∧ V φ0 v v') ↔ (∀ (i : Nat) (v : Value), (⟨l⟩ : Array Value)[i]? = some v → ∃ v', c'[e.off + i]? = some v' ∧ V φ v v') := by
        intro c'
        constructor
        · intro ha i v hv
          have hv : l[i]? = some v := by simpa using hv
          have hi : i < c.size := by
            have := (List.getElem?_eq_some_iff.1 hv).1
            omega
          obtain ⟨y, g1, g2⟩ := h2 i c[i] (by simp [hi])
          rw [hv] at g1
          cases g1
          obtain ⟨v', k1, k2⟩ := ha i c[i] (Array.getElem?_eq_getElem hi)
          exact ⟨v', k1, (renV_iff h _ _ _ g2 _).1 k2⟩
        · intro ha i v hv
          obtain ⟨y, g1, g2⟩ := h2 i v (by simpa using hv)
          obtain ⟨v', k1, k2⟩ := ha i y (by simpa using g1)
          exact ⟨v', k1, (renV_iff h _ _ _ g2 _).2 k2⟩
      rw [ObjAt.row hro, ObjAt.row hro]
      have hs2 : (⟨l⟩ : Array Value).size = c.size := by simpa using hsz
      constructor
      · rintro ⟨a0, c', t', z, a1, a2, a3, a4, a5⟩
        exact ⟨rfl, c', t', z, a1, a2, by rw [hs2]; exact a3, (key c').1 a4, a5.1, fun hg => by obtain ⟨q1, q2, q3⟩ := a5.2 hg; exact ⟨q1, q2, by rw [hs2]; exact q3⟩⟩
      · rintro ⟨a0, c', t', z, a1, a2, a3, a4, a5⟩
        exact ⟨rfl, c', t', z, a1, a2, by rw [hs2] at a3; exact a3, (key c').2 a4, a5.1, fun hg => by obtain ⟨q1, q2, q3⟩ := a5.2 hg; exact ⟨q1, q2, by rw [← hs2]; exact q3⟩⟩
    · cases hr
  case map es k =>
    have hr : (match mapO (renE ρ) es.toList with | some es' => some (Obj.map ⟨es'⟩ k) | none => none) = some o := hr
    split at hr
    · rename_i l hl
      cases hr
      simp only [ObjAt]
      constructor
      · rintro ⟨a0, o', a1, a2⟩
        refine ⟨a0, o', a1, ?_⟩
        cases o' <;> simp only [OR] at a2 ⊢
        exact ⟨a2.1, (ER.ren h hl _).1 a2.2⟩
      · rintro ⟨a0, o', a1, a2⟩
        refine ⟨a0, o', a1, ?_⟩
        cases o' <;> simp only [OR] at a2 ⊢
        exact ⟨a2.1, (ER.ren h hl _).2 a2.2⟩
    · cases hr

end
end Go.Proofs.Ytdaljohmfnfgiaa.Canon

/- What the proof of this claim is made of. No condition. -/
import Derived.Test.YtdaljohmfnfgiaaCanonW
namespace Go.Proofs.Ytdaljohmfnfgiaa.Canon
open Go Go.RowKit
noncomputable section
structure Slots where
  n : Nat
  t : Tr Value
def sget (s : Slots) (t : Nat) : Value := match s with
  | ⟨n,r⟩ => match Nat.ble n t with
    | false => match r.get (bits t) with
      | some v => v
      | none => undef
    | true => undef
def sput (s : Slots) (d : Option Tmp) (v : Value) : Slots := match s with
  | ⟨n,r⟩ => match d with
    | some d => ⟨n,r.set (bits d) v⟩
    | none => ⟨n,r⟩
def zBP (s : Slots) : Operand → Value
  | .tmp t => sget s t
  | .const v => v
  | .global g => .pointer (some ⟨g,0,none⟩)
  | .func f => .func (.func f) #[] #[]
def syielded (ops : Array Oper) (s : Slots) (j : Nat) : Option Bool :=
  match nth ops.toList j with
  | some o => match o.dst with
    | some d => match sget s d with
      | .bool b => some b
      | _ => none
    | none => none
  | none => none
def zDZ : List Value → Nat → Tr Value → Tr Value
  | [],_,t => t
  | v :: vs,i,t => zDZ vs (i + 1) (t.set (bits i) v)
def sabs (s : Slots) : Array Value := ((List.range s.n).map (sget s)).toArray
theorem sabs_get (s : Slots) (t : Nat) : (sabs s)[t]? = if t < s.n then some (sget s t) else none := by
  unfold sabs
  simp only [List.getElem?_toArray,List.getElem?_map,List.getElem?_range]
  split
  · rename_i h; simp [h]
  · rename_i h; simp [h]
theorem sabs_size (s : Slots) : (sabs s).size = s.n := by simp [sabs]
theorem zCY (s : Slots) : zBP s = feval (sabs s) := by
  funext x
  cases x with
  | tmp t =>
    simp only [zBP,feval,zCX,sabs_get]
    split
    · rfl
    · rename_i h
      have : Nat.ble s.n t = true := Nat.ble_eq_true_of_le (Nat.le_of_not_lt h)
      simp [sget,this]
  | _ => rfl
theorem zCA (s : Slots) (d : Option Tmp) (v : Value) : sabs (sput s d v) = fput (sabs s) d v := by
  cases d with
  | none => rfl
  | some d =>
    have h : ∀ t,(sabs (sput s (some d) v))[t]? = (fput (sabs s) (some d) v)[t]? := fun t => by
      rw [fput_get,sabs_get,sabs_get,sabs_size]
      simp only [sput,zOi]
      by_cases hd : d = t
      · subst hd
        simp only [if_true]
        by_cases hn : d < s.n
        · have : Nat.ble s.n d = false := by
            cases hb : Nat.ble s.n d with
            | false => rfl
            | true => exact absurd hn (Nat.not_lt_of_le (Nat.le_of_ble_eq_true hb))
          simp [hn,sget,this,Tr.get_set]
        · simp [hn]
      · simp only [hd,if_false]
        have hb : ¬ bits d = bits t := fun h => hd (bits_inj h)
        simp [sget,Tr.get_set,hb]
    exact Array.ext_getElem? h
theorem syielded_eq (ops : Array Oper) (s : Slots) : syielded ops s = yielded ops (sabs s) := by
  funext j
  unfold syielded yielded
  rw [zCX]
  cases ops[j]? with
  | none => rfl
  | some o =>
    cases hd : o.dst with
    | none => simp [hd]
    | some d =>
      simp only [hd,Option.bind_some,sabs_get]
      by_cases hn : d < s.n
      · simp only [hn,if_true]
        cases sget s d <;> rfl
      · have : Nat.ble s.n d = true := Nat.ble_eq_true_of_le (Nat.le_of_not_lt hn)
        simp [hn,sget,this,undef]
theorem sargs_get : ∀ (vs : List Value) (i : Nat) (t : Tr Value) (k : Nat),(zDZ vs i t).get (bits k) = if i ≤ k ∧ k < i + vs.length then vs[k - i]? else t.get (bits k) := by
  intro vs
  induction vs with
  | nil => intro i t k; simp only [zDZ,List.length_nil,Nat.add_zero]; rw [if_neg (by omega)]
  | cons v vs ih =>
    intro i t k
    simp only [zDZ,List.length_cons]
    rw [ih]
    by_cases h1 : i + 1 ≤ k ∧ k < i + 1 + vs.length
    · rw [if_pos h1,if_pos (by omega)]
      obtain ⟨d,rfl⟩ : ∃ d,k = i + 1 + d := ⟨k - (i + 1),by omega⟩
      rw [show i + 1 + d - (i + 1) = d by omega,show i + 1 + d - i = d + 1 by omega]
      simp
    · rw [if_neg h1,Tr.get_set]
      by_cases h2 : i = k
      · subst h2; simp
      · rw [if_neg (fun h => h2 (bits_inj h)),if_neg (by omega)]
theorem sargs_abs {xs : Array Value} {n : Nat} (h : xs.size ≤ n) : sabs ⟨n,zDZ xs.toList 0 .leaf⟩ = xs ++ Array.replicate (n - xs.size) undef := by
  refine Array.ext_getElem? fun t => ?_
  rw [sabs_get,Array.getElem?_append]
  simp only [sget,sargs_get]
  by_cases hn : t < n
  · have hb : Nat.ble n t = false := by
      cases hb : Nat.ble n t with
      | false => rfl
      | true => exact absurd hn (Nat.not_lt_of_le (Nat.le_of_ble_eq_true hb))
    simp only [hn,if_true,hb,Nat.zero_le,true_and,Nat.zero_add,Array.length_toList,Nat.sub_zero]
    by_cases hx : t < xs.size
    · simp [hx]
    · have : t - xs.size < n - xs.size := by omega
      simp only [hx,if_false,Tr.get]
      simp [Array.getElem?_replicate,this]
  · have hx : ¬ t < xs.size := by omega
    have : ¬ t - xs.size < n - xs.size := by omega
    simp [hn,hx,Array.getElem?_replicate,this]
structure FF where
  fn : FuncId
  s : Slots
  todo : List Item
  defers : List Deferred
  mode : FrameMode
  ro : Option Nat
def FF.abs (f : FF) : Frame := ⟨f.fn,sabs f.s,f.todo,f.defers,f.mode,.normal,f.ro⟩
variable (P : Program)
abbrev SSt := FF × List FF × AHeap
def SSt.abs (s : SSt) : St := (s.1.abs,s.2.1.map FF.abs,s.2.2)
variable {P}
end
end Go.Proofs.Ytdaljohmfnfgiaa.Canon

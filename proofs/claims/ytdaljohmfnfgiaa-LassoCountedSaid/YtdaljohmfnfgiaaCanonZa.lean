/- Closed calls, run whole over slots that are kept in a tree. No condition. -/
import Derived.Test.YtdaljohmfnfgiaaCanonZ
namespace Go.Proofs.Ytdaljohmfnfgiaa.Canon
open Go Go.RowKit

noncomputable section
variable (P : Program)
abbrev Go2 := FF → List FF → AHeap → Option (FF × AHeap)

def scallWith (ih : Go2) : Runs := fun g xs A => match senter P g xs with
  | some fr => match ih fr [] A with
    | some (fr, A1) => match nth P.funcs.toList fr.fn with
      | some fn => sresults P fn fr.s A1
      | none => none
    | none => none
  | none => none
def splain (ih : Go2) (fr : FF) (cs : List FF) (A : AHeap) : Option (FF × AHeap) := match sStep P fr cs A with
  | some (fr1, cs1, A1) => ih fr1 cs1 A1
  | none => none
def sdrawn (ih : Go2) (fr : FF) (cs : List FF) (A : AHeap) (ops : Array Oper) (k : List Item) : Option (FF × AHeap) := match sregion P (scallWith P ih) ops fr.s A with
  | some (s1, A1) => match fr with
    | ⟨fn, _, _, ds, m, ro⟩ => ih ⟨fn, s1, k, ds, m, ro⟩ cs A1
  | none => none
def sNext (ih : Go2) (fr : FF) (cs : List FF) (A : AHeap) : Option (FF × AHeap) :=
  match fr.mode with
  | .run => match fr.todo with
    | it :: k => match it with
      | .code c => match c with
        | .region _ ops dr => match dr with
          | true => sdrawn P ih fr cs A ops k
          | false => splain P ih fr cs A
        | _ => splain P ih fr cs A
      | _ => splain P ih fr cs A
    | [] => splain P ih fr cs A
  | .returning => match cs with
    | [] => match fr.defers with
      | [] => some (fr, A)
      | _ => splain P ih fr cs A
    | _ => splain P ih fr cs A
  | _ => none
def sRun (n : Nat) : Go2 := Nat.rec (motive := fun _ => Go2) (fun _ _ _ => none) (fun _ ih fr cs A => sNext P ih fr cs A) n

def tells (g n : Nat) : Bool := match senter P g #[] with
  | some fr0 => match sRun P n fr0 [] ⟨0, .leaf⟩ with
    | some (fr, _) => match Nat.beq fr.fn g with
      | true => match nth P.funcs.toList g with
        | some fn => match fn.results.toList with
          | [.tmp t] => match sget fr.s t with
            | .bool true => true
            | _ => false
          | _ => false
        | none => false
      | false => false
    | none => false
  | none => false
variable {P}

def Same (ih : Go2) (ih' : Go1) : Prop := ∀ fr cs A fr1 A1, ih fr cs A = some (fr1, A1) → ih' fr.abs (cs.map FF.abs) A = some (fr1.abs, A1)

theorem scallWith_le {ih : Go2} {ih' : Go1} (h : Same ih ih') : RunsLe (scallWith P ih) (callWith P ih') := by
  intro g xs A p hr
  unfold scallWith at hr
  unfold callWith
  split at hr
  · rename_i fr hf
    rw [(senter_eq hf).1]
    split at hr
    · rename_i fr1 A1 hi
      have := h _ _ _ _ _ hi
      simp only [List.map_nil] at this
      rw [this]
      simp only
      split at hr
      · rename_i fn hfn
        rw [sresults_eq] at hr
        have : nth P.funcs.toList fr1.abs.fn = some fn := hfn
        rw [this]
        exact hr
      · cases hr
    · cases hr
  · cases hr

theorem sNext_eq {ih : Go2} {ih' : Go1} (h : Same ih ih') : Same (sNext P ih) (aNext P ih') := by
  intro fr cs A fr1 A1 hr
  have plain : splain P ih fr cs A = some (fr1, A1) → plainNext P ih' fr.abs (cs.map FF.abs) A = some (fr1.abs, A1) := by
    intro hp
    unfold splain at hp
    unfold plainNext
    rw [fStep_eq]
    split at hp
    · rename_i hst; rw [sStep_eq hst]; exact h _ _ _ _ _ hp
    · cases hp
  obtain ⟨fn, T, td, ds, m, ro⟩ := fr
  cases m with
  | run =>
    cases td with
    | nil => exact plain hr
    | cons it k =>
      cases it <;> try exact plain hr
      case code c =>
        cases c <;> try exact plain hr
        case region id ops draw =>
          cases draw
          · exact plain hr
          · have hr : sdrawn P ih ⟨fn, T, .code (.region id ops true) :: k, ds, .run, ro⟩ cs A ops k = some (fr1, A1) := hr
            change drawnNext P ih' (FF.abs ⟨fn, T, .code (.region id ops true) :: k, ds, .run, ro⟩) (cs.map FF.abs) A ops k = some (fr1.abs, A1)
            unfold sdrawn at hr
            unfold drawnNext
            split at hr
            · rename_i s1 A2 hreg
              have := sregion_eq (scallWith_le h) hreg
              simp only [FF.abs] at this ⊢
              rw [this]
              exact h _ _ _ _ _ hr
            · cases hr
  | returning =>
    cases cs with
    | nil =>
      cases ds with
      | nil => cases hr; rfl
      | cons d ds => exact plain hr
    | cons c cs => exact plain hr
  | panicking c => cases hr

theorem sRun_eq : ∀ n, Same (sRun P n) (aRun P n) := by
  intro n
  induction n with
  | zero => intro fr cs A fr1 A1 h; cases h
  | succ n ih => exact sNext_eq ih

theorem says_of_tells {g n : Nat} (h : tells P g n = true) : says P g n = true := by
  unfold tells at h
  unfold says
  split at h
  · rename_i fr0 hf
    rw [(senter_eq hf).1]
    split at h
    · rename_i fr A1 hr
      have := sRun_eq n _ _ _ _ _ hr
      simp only [List.map_nil] at this
      rw [this]
      simp only
      split at h
      · rename_i hg
        have hg' : Nat.beq fr.abs.fn g = true := hg
        rw [hg']
        simp only
        split at h
        · rename_i fn hfn
          rw [hfn]
          simp only
          split at h
          · rename_i t ht
            rw [ht]
            simp only
            split at h
            · rename_i hv
              have : nth fr.abs.tmps.toList t = some (.bool true) := by
                rw [nth_arr]
                show (sabs fr.s)[t]? = _
                rw [sabs_get]
                split
                · rw [hv]
                · rename_i hn
                  have hb : Nat.ble fr.s.n t = true := Nat.ble_eq_true_of_le (Nat.le_of_not_lt hn)
                  simp [sget, hb, undef] at hv
              rw [this]
            · cases h
          · cases h
        · cases h
      · cases h
    · cases h
  · cases h

theorem calls_of_tells (hc : NoCount P) (hx : P.follows .mixedOrders = true) {g n : Nat} (h : tells P g n = true) (w : World) : Calls P g #[] w (fun e w' => e = .returned (.bool true) ∧ Below w.heap.size w w') :=
  calls_of_says hc hx (says_of_tells h) w

end
end Go.Proofs.Ytdaljohmfnfgiaa.Canon

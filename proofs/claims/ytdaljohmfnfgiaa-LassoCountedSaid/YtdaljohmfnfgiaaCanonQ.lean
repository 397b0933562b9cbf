/- The same steps, so that they are reckoned fast. No condition. -/
import Derived.Test.YtdaljohmfnfgiaaCanonP
namespace Go.Proofs.Ytdaljohmfnfgiaa.Canon
open Go Go.RowKit
noncomputable section

section

def nth {α : Type} : List α → Nat → Option α
  | [], _ => none
  | x :: _, 0 => some x
  | _ :: l, n + 1 => nth l n
theorem nth_eq {α : Type} : ∀ (l : List α) (n : Nat), nth l n = l[n]?
  | [], _ => rfl
  | _ :: _, 0 => rfl
  | _ :: l, n + 1 => by simp [nth, nth_eq l n]
theorem nth_arr {α : Type} (xs : Array α) (n : Nat) : nth xs.toList n = xs[n]? := by rw [nth_eq]; simp

def fput (T : Array Value) (d : Option Tmp) (v : Value) : Array Value := match d with
  | some d => ⟨T.toList.set d v⟩
  | none => T
theorem fput_eq (T : Array Value) (d : Option Tmp) (v : Value) : fput T d v = (match d with | some d => T.setIfInBounds d v | none => T) := by
  cases d with
  | none => rfl
  | some d => exact Array.ext' (by simp [fput])

def feval (T : Array Value) : Operand → Value
  | .tmp t => (nth T.toList t).getD undef
  | .const v => v
  | .global g => .pointer (some ⟨g, 0, none⟩)
  | .func f => .func (.func f) #[] #[]
theorem feval_eq (fr : Frame) : feval fr.tmps = fr.eval := by
  funext x
  cases x <;> simp [feval, Frame.eval, nth_arr]

def ffin (fr : Frame) (v : Value) : Frame := match fr with
  | ⟨fn, T, .inRegion ops (i :: rest) :: k, ds, .run, kd, ro⟩ => ⟨fn, fput T ((nth ops.toList i).bind (·.dst)) v, .inRegion ops rest :: k, ds, .run, kd, ro⟩
  | ⟨fn, T, .inRangeFunc l :: k, ds, .run, kd, ro⟩ => ⟨fn, T, .endRangeFunc l :: k, ds, .run, kd, ro⟩
  | ⟨fn, T, .beginRound :: k, ds, .run, kd, ro⟩ => ⟨fn, T, k, ds, .run, kd, ro⟩
  | fr => fr.finish v
theorem ffin_eq (fr : Frame) (v : Value) : ffin fr v = fr.finish v := by
  unfold ffin
  split
  · simp only [Frame.finish, nth_arr]
    rw [fput_eq]
    rfl
  · rfl
  · rfl
  · rfl

def fyielded (ops : Array Oper) (T : Array Value) (j : Nat) : Option Bool :=
  match ((nth ops.toList j).bind (·.dst)).bind (nth T.toList ·) with
  | some (.bool b) => some b
  | _ => none
theorem fyielded_eq (ops : Array Oper) (T : Array Value) : fyielded ops T = yielded ops T := by
  funext j
  simp only [fyielded, yielded, nth_arr]
  rfl

variable (P : Program)

def fleave (jump : Option Code) (fr : Frame) (cs : List Frame) (A : AHeap) : Option St :=
  match fr with
  | ⟨fn, T, td, ds, _, kd, none⟩ => match jump with
    | none => some (⟨fn, T, td, ds, .returning, kd, none⟩, cs, A)
    | some .ret => some (⟨fn, T, td, ds, .returning, kd, none⟩, cs, A)
    | _ => none
  | ⟨_, _, _, _, _, _, some l⟩ => match arun P (Instr.endRound l jump) A, cs with
    | some (v, A1), c :: cs => some (ffin c v, cs, A1)
    | _, _ => none
theorem fleave_eq (jump : Option Code) (fr : Frame) (cs : List Frame) (A : AHeap) : fleave P jump fr cs A = aleave P jump fr cs A := by
  obtain ⟨fn, T, td, ds, m, kd, ro⟩ := fr
  cases ro with
  | none => rfl
  | some l => simp only [fleave, aleave, ffin_eq]; rfl

def fcall (fr : Frame) (cs : List Frame) (A : AHeap) (f : Value) (args : Array Value) : Option St :=
  match f with
  | .func (.func g) first captured => match nth P.funcs.toList g with
    | some fn => match fn.body with
      | some c => some (⟨g, (first ++ args ++ captured) ++ Array.replicate (fn.ntmps - (first ++ args ++ captured).size) undef, [.code c], [], .run, .normal, none⟩, fr :: cs, A)
      | none => none
    | none => none
  | .func (.yield l) _ _ => match A.obj l with
    | some (.loop r) => match Nat.beq args.size r.params.size with
      | true => some (⟨r.fn, (r.params.zip args).foldl (fun tmps (t, a) => tmps.setIfInBounds t a) r.tmps, [.code r.assign, .beginRound, .code r.body], [], .run, .normal, some l⟩, fr :: cs, A)
      | false => none
    | _ => none
  | _ => none
theorem fcall_eq (fr : Frame) (cs : List Frame) (A : AHeap) (f : Value) (args : Array Value) : fcall P fr cs A f args = acall P fr cs A f args := by
  cases f <;> try rfl
  case func fnn first captured =>
    cases fnn <;> try rfl
    case func g =>
      simp only [fcall, acall, nth_arr]
      cases hg : P.funcs[g]? with
      | none => rfl
      | some fn =>
        cases hb : fn.body with
        | none => simp [hb]
        | some c => simp [hb, Frame.enter, hg]

def foper (ops : Array Oper) (i : Nat) (fr : Frame) (cs : List Frame) (A : AHeap) : Option St :=
  match nth ops.toList i with
  | none => none
  | some o => match Region.wanted o (fyielded ops fr.tmps) with
    | false => some (ffin fr undef, cs, A)
    | true => match o.op with
      | .call ⟨.value f, args, _⟩ => match opnOK f, args.toList.all opnOK with
        | true, true => fcall P fr cs A (feval fr.tmps f) (args.map (feval fr.tmps))
        | _, _ => none
      | _ => match aexec P (feval fr.tmps) o A with
        | some (v, A1) => some (ffin fr v, cs, A1)
        | none => none
theorem foper_eq (ops : Array Oper) (i : Nat) (fr : Frame) (cs : List Frame) (A : AHeap) : foper P ops i fr cs A = aoper P ops i fr cs A := by
  unfold foper aoper
  simp only [nth_arr, fyielded_eq, ffin_eq, fcall_eq, feval_eq]
  rfl

def fStep (fr : Frame) (cs : List Frame) (A : AHeap) : Option St :=
  match fr with
  | ⟨fn, T, td, ds, .run, kd, ro⟩ => match td with
    | [] => fleave P none ⟨fn, T, [], ds, .run, kd, ro⟩ cs A
    | .code c :: k => match c with
      | .ret => fleave P (some .ret) ⟨fn, T, .code .ret :: k, ds, .run, kd, ro⟩ cs A
      | .skip => some (⟨fn, T, k, ds, .run, kd, ro⟩, cs, A)
      | .label _ => some (⟨fn, T, k, ds, .run, kd, ro⟩, cs, A)
      | .seq a b => some (⟨fn, T, .code a :: .code b :: k, ds, .run, kd, ro⟩, cs, A)
      | .cond c a b => match opnOK c, feval T c with
        | true, .bool true => some (⟨fn, T, .code a :: k, ds, .run, kd, ro⟩, cs, A)
        | true, .bool false => some (⟨fn, T, .code b :: k, ds, .run, kd, ro⟩, cs, A)
        | _, _ => none
      | .block id c => some (⟨fn, T, .code c :: .inBlock id :: k, ds, .run, kd, ro⟩, cs, A)
      | .loop c => some (⟨fn, T, .code c :: .inLoop c :: k, ds, .run, kd, ro⟩, cs, A)
      | .scope c => some (⟨fn, T, .code c :: .inScope c :: k, ds, .run, kd, ro⟩, cs, A)
      | .exit id => match exitTo id k with
        | some k' => some (⟨fn, T, k', ds, .run, kd, ro⟩, cs, A)
        | none => fleave P (some (.exit id)) ⟨fn, T, .code (.exit id) :: k, ds, .run, kd, ro⟩ cs A
      | .goto l => match gotoIn l k with
        | some k' => some (⟨fn, T, k', ds, .run, kd, ro⟩, cs, A)
        | none => fleave P (some (.goto l)) ⟨fn, T, .code (.goto l) :: k, ds, .run, kd, ro⟩ cs A
      | .rangeFunc f ps asg body => match opnOK f, arun P (Instr.enterLoop fn T ps asg body ro) A with
        | true, some ((l, mk), A1) => match feval T f with
          | .func (.func g) first captured => fcall P ⟨fn, T, .inRangeFunc l :: k, mk ++ ds, .run, kd, ro⟩ cs A1 (.func (.func g) first captured) #[.func (.yield l) #[] #[]]
          | _ => none
        | _, _ => none
      | .region _ ops false => some (⟨fn, T, .inRegion ops (List.range ops.size) :: k, ds, .run, kd, ro⟩, cs, A)
      | _ => none
    | .inBlock _ :: k => some (⟨fn, T, k, ds, .run, kd, ro⟩, cs, A)
    | .inScope _ :: k => some (⟨fn, T, k, ds, .run, kd, ro⟩, cs, A)
    | .inLoop c :: k => some (⟨fn, T, .code c :: .inLoop c :: k, ds, .run, kd, ro⟩, cs, A)
    | .inRegion _ [] :: k => some (⟨fn, T, k, ds, .run, kd, ro⟩, cs, A)
    | .inRegion ops (i :: rest) :: k => foper P ops i ⟨fn, T, .inRegion ops (i :: rest) :: k, ds, .run, kd, ro⟩ cs A
    | .beginRound :: k => match ro with
      | some l => match arun P (Instr.beginRound l) A with
        | some (_, A1) => some (⟨fn, T, k, ds, .run, kd, some l⟩, cs, A1)
        | none => none
      | none => none
    | .endRangeFunc l :: k => match arun P (Instr.endLoop l) A with
      | some (jump, A1) => some (⟨fn, T, (jump.map Item.code).toList ++ k, ds, .run, kd, ro⟩, cs, A1)
      | none => none
    | _ => none
  | ⟨fn, T, td, ds, .returning, kd, ro⟩ => match ds with
    | { target := .collected b, .. } :: ds => match arun P (Instr.takeDeferred b) A with
      | some (calls, A1) => some (⟨fn, T, td, calls ++ ds, .returning, kd, ro⟩, cs, A1)
      | none => none
    | [] => match nth P.funcs.toList fn, cs with
      | some f, c :: cs => match arun P (results f T) A with
        | some (v, A1) => some (ffin c v, cs, A1)
        | none => none
      | _, _ => none
    | _ => none
  | _ => none

theorem fStep_eq (fr : Frame) (cs : List Frame) (A : AHeap) : fStep P fr cs A = aStep P fr cs A := by
  obtain ⟨fn, T, td, ds, m, kd, ro⟩ := fr
  have hev : feval T = (⟨fn, T, td, ds, m, kd, ro⟩ : Frame).eval := feval_eq ⟨fn, T, td, ds, m, kd, ro⟩
  unfold fStep aStep
  cases m with
  | run =>
    cases td with
    | nil => simp only [fleave_eq]
    | cons it k =>
      cases it <;> try rfl
      case code c =>
        cases c <;> try rfl
        case ret => simp only [fleave_eq]
        case cond c a b => simp only [hev]; rfl
        case exit id => simp only [fleave_eq]; rfl
        case goto l => simp only [fleave_eq]; rfl
        case rangeFunc f ps asg body => simp only [fcall_eq, hev]; rfl
        case region id ops draw => cases draw <;> rfl
      case inRegion ops todo =>
        cases todo with
        | nil => rfl
        | cons i rest => simp only [foper_eq]
      case beginRound => cases ro <;> rfl
  | returning =>
    simp only [ffin_eq, nth_arr]
    rfl
  | panicking c => rfl

end
end
end Go.Proofs.Ytdaljohmfnfgiaa.Canon

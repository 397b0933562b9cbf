/- HeapNone is run by its parts, whatever is done, and whatever is said of its size. Its argument is of the shape that its type asks. -/
import Derived.Test.YtmahbibgmdaeeacCanonBd
import Derived.Test.YtmahbibgmdaeeacWb
namespace Go.Proofs.Ytmahbibgmdaeeac
open Go.RowKit Go.Proofs.Ytmahbibgmdaeeac.Canon

noncomputable def bodyOf (f : Func) : Code := f.body.getD .skip
noncomputable def fstOf : Code → Code
  | .seq a _ => a
  | _ => .skip
noncomputable def sndOf : Code → Code
  | .seq _ b => b
  | _ => .skip
noncomputable def opsOf : Code → Array Oper
  | .region _ ops _ => ops
  | _ => #[]
noncomputable def partR0 : Code := fstOf (bodyOf Try.f3)
noncomputable def partR1 : Code := fstOf (fstOf (sndOf (bodyOf Try.f3)))
noncomputable def partC : Code := sndOf (fstOf (sndOf (bodyOf Try.f3)))
noncomputable def partT : Code := sndOf (sndOf (bodyOf Try.f3))
noncomputable def ops1 : Array Oper := opsOf partR1
noncomputable def opN (i : Nat) : Oper := (nth ops1.toList i).getD default

noncomputable def nocount (P : Program) : Bool := P.funcs.toList.all fun fn => match fn.body with
  | some _ => !(fn.name == "runtime.NumGoroutine")
  | none => true
theorem nocount_ok : nocount Try.prog = true := by kernel_rfl
theorem hc : NoCount Try.prog := by
  intro g fn hf hb
  have h := nocount_ok
  unfold nocount at h
  rw [List.all_eq_true] at h
  have := h fn (by simpa using Array.mem_of_getElem? hf)
  cases hbb : fn.body with
  | none => rw [hbb] at hb; cases hb
  | some c => rw [hbb] at this; simpa using this
theorem hx : Try.prog.follows .mixedOrders = true := by kernel_rfl

noncomputable def X : Oper → XF := xquick Try.prog
noncomputable def R : DR := qregion Try.prog X

/-- What is done. -/
noncomputable def theOp (kind : Int) (nm : ByteArray) (ks : Value) (x y z : Int) (ns : Value) (root : Int) : Value := .agg #[.int .i64 kind, .string nm, ks, .int .i64 x, .int .i64 y, .int .i64 z, ns, .int .i64 root]
noncomputable def S (o : Value) (made : Bool) : Slots := ⟨Try.f3.ntmps, sargs [o, .bool made] 0 .leaf⟩

noncomputable def cellsOf (kind : Int) (nm : ByteArray) (ks : Value) (x y z : Int) (ns : Value) (root : Int) : Array Value := #[.int .i64 kind, .string nm, ks, .int .i64 x, .int .i64 y, .int .i64 z, ns, .int .i64 root]
/-- What came in, when nobody looks into it any more. -/
noncomputable def toks : Array Value := #[.iface 0 .nilIface, .iface 1 .nilIface, .iface 2 .nilIface, .iface 3 .nilIface, .iface 4 .nilIface, .iface 5 .nilIface, .iface 6 .nilIface, .iface 7 .nilIface]

theorem ask (kind : Int) (nm : ByteArray) (ka : Option Addr) (kn kc : Nat) (x y z : Int) (na : Option Addr) (nn nc : Nat) (root : Int) (made : Bool) :
    askVals Try.prog X R 100000 1000 3 (S (theOp kind nm (.slice ka kn kc) x y z (.slice na nn nc) root) made) ⟨2, .leaf⟩ partR0 (opN 0) 0 32 2 = ((theOp kind nm (.slice ka kn kc) x y z (.slice na nn nc) root), (theOp kind nm (.slice ka kn kc) x y z (.slice na nn nc) root), some ⟨.cells (cellsOf kind nm (.slice ka kn kc) x y z (.slice na nn nc) root) 27 (0, 0), false, 0⟩) := by kernel_rfl
theorem run_great (kind : Int) (nm : ByteArray) (ka : Option Addr) (kn kc : Nat) (x y z : Int) (na : Option Addr) (nn nc : Nat) (root : Int) (made : Bool) :
    askRun Try.prog X R 100000 1000 3 4 (S (theOp kind nm (.slice ka kn kc) x y z (.slice na nn nc) root) made) ⟨2, .leaf⟩ partR0 partC partT ops1 (opN 0) (opN 1) 0 32 2 (.agg toks) ⟨.cells toks 27 (0, 0), false, 0⟩ true = true := by kernel_rfl
theorem run_nil (kind : Int) (nm : ByteArray) (ka : Option Addr) (kn kc : Nat) (x y z : Int) (na : Option Addr) (nn nc : Nat) (root : Int) :
    askRun Try.prog X R 100000 1000 3 4 (S (theOp kind nm (.slice ka kn kc) x y z (.slice na nn nc) root) false) ⟨2, .leaf⟩ partR0 partC partT ops1 (opN 0) (opN 1) 0 32 2 (.agg toks) ⟨.cells toks 27 (0, 0), false, 0⟩ false = true := by kernel_rfl
theorem run_made (kind : Int) (nm : ByteArray) (ka : Option Addr) (kn kc : Nat) (x y z : Int) (na : Option Addr) (nn nc : Nat) (root : Int) :
    askRun Try.prog X R 100000 1000 3 4 (S (theOp kind nm (.slice ka kn kc) x y z (.slice na nn nc) root) true) ⟨2, .leaf⟩ partR0 partC partT ops1 (opN 0) (opN 1) 0 32 2 (.agg toks) ⟨.cells toks 27 (0, 0), false, 0⟩ false = true := by kernel_rfl

end Go.Proofs.Ytmahbibgmdaeeac

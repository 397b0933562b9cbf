/- What SeriesSmall's run leans on: how it is run, and what strings.Repeat makes. No condition. -/
import Derived.Test.YtocgigkkopmpeabGreatCanonCc
import Derived.Test.YtocgigkkopmpeabGreatRows
import Derived.Test.YtocgigkkopmpeabGreatShelf
namespace Go.Proofs.YtocgigkkopmpeabGreat
open Go Go.RowKit Go.Proofs.YtocgigkkopmpeabGreat.Canon

noncomputable def nocount (P : Program) : Bool := P.funcs.toList.all fun fn => match fn.body with
  | some _ => !(fn.name == "runtime.NumGoroutine")
  | none => true
theorem nocount_ok : nocount Tryz.prog = true := by kernel_rfl
theorem hc : NoCount Tryz.prog := by
  intro g fn hf hb
  have h := nocount_ok
  unfold nocount at h
  rw [List.all_eq_true] at h
  have := h fn (by simpa using Array.mem_of_getElem? hf)
  cases hbb : fn.body with
  | none => rw [hbb] at hb; cases hb
  | some c => rw [hbb] at this; simpa using this
theorem hx : Tryz.prog.follows .mixedOrders = true := by kernel_rfl
noncomputable def X : Oper → XF := xquick Tryz.prog
noncomputable def R : DR := qregion Tryz.prog X
theorem hX : XOK Tryz.prog X := xquick_ok
theorem hR : DROK Tryz.prog R := qregion_ok xquick_ok

/-- Forty-one letters. -/
noncomputable def r0 : TE := ⟨14, [.string ⟨⟨[97]⟩⟩, .int .i64 (.ofNat 41)], [],
  .string ⟨⟨[97, 97, 97, 97, 97, 97, 97, 97, 97, 97, 97, 97, 97, 97, 97, 97, 97, 97, 97, 97, 97, 97, 97, 97, 97, 97, 97, 97, 97, 97, 97, 97, 97, 97, 97, 97, 97, 97, 97, 97, 97]⟩⟩, 0, [], []⟩
theorem r0_ok : EntOK Tryz.prog r0 := by
  refine entOK_scalar ⟨Tryz.f14, Tryz.func14, by kernel_rfl⟩ rfl rfl fun w => (Tryz.strings_Repeat ⟨⟨[97]⟩⟩ 41 w (by decide) (by decide)).mono fun e w' h => ?_
  exact ⟨h.1.trans (by rfl), h.2⟩

end Go.Proofs.YtocgigkkopmpeabGreat

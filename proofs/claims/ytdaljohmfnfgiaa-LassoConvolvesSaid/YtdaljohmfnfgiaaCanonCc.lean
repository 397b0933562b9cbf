/- What the proof of this claim is made of. No condition. -/
import Derived.Test.YtdaljohmfnfgiaaCanonCb
namespace Go.Proofs.Ytdaljohmfnfgiaa.Canon
open Go Go.RowKit
noncomputable section
variable {P : Program}
theorem enter_inv {φ : Phi} {g : FuncId} {xs : Array Value} {fr' : Frame} (h : FrR φ (Frame.enter P g xs .normal) fr') : ∃ xs',AR φ xs xs' ∧ fr' = Frame.enter P g xs' .normal := by
  obtain ⟨fn',tm',td',ds',m',kd',ro'⟩ := fr'
  obtain ⟨h1,h2,h3,h4,h5,h6,h7,h8⟩ := h
  simp only [Frame.enter] at h1 h2 h3 h4 h5 h6 h7 h8
  subst h1 h5 h7
  have hro : ro' = none := h8
  have hds : ds' = [] := by cases h4; rfl
  have htd := IL.one h3
  subst hro hds htd
  generalize hn : ((P.funcs[fn']?).map (·.ntmps)).getD 0 - xs.size = n at h2
  have hsz : xs.size + n = tm'.size := by
    have := h2.1
    simpa using this
  refine ⟨tm'.extract 0 xs.size,.of (by simp; omega) fun i v hv => ?_,?_⟩
  · have hi : i < xs.size := (Array.getElem?_eq_some_iff.1 hv).1
    obtain ⟨v',g1,g2⟩ := h2.get (i := i) (v := v) (by rw [Array.getElem?_append_left hi]; exact hv)
    refine ⟨v',?_,g2⟩
    rw [Array.getElem?_extract]
    simp only [Nat.zero_add,Nat.sub_zero]
    rw [if_pos (by omega)]
    exact g1
  · have hes : (tm'.extract 0 xs.size).size = xs.size := by simp; omega
    simp only [Frame.enter,hes,hn]
    congr 1
    refine Array.ext_getElem? fun i => ?_
    by_cases hi : i < xs.size
    · rw [Array.getElem?_append_left (by omega),Array.getElem?_extract]
      simp only [Nat.zero_add,Nat.sub_zero]
      rw [if_pos (by omega)]
    · rw [Array.getElem?_append_right (by omega),hes,Array.getElem?_replicate]
      by_cases hi2 : i - xs.size < n
      · rw [if_pos hi2]
        obtain ⟨v',g1,g2⟩ := h2.get (i := i) (v := undef) (by
          rw [Array.getElem?_append_right (by omega),Array.getElem?_replicate,if_pos hi2])
        rw [g1,undef_eq g2]
      · rw [if_neg hi2]
        exact Array.getElem?_eq_none_iff.2 (by omega)
end
end Go.Proofs.Ytdaljohmfnfgiaa.Canon

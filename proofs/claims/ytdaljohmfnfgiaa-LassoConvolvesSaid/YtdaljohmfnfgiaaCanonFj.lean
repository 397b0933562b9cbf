/- What the proof of this claim is made of. No condition. -/
import Derived.Test.YtdaljohmfnfgiaaCanonFi
namespace Go.Proofs.Ytdaljohmfnfgiaa.Canon
open Go Go.RowKit
noncomputable section
variable {P : Program}
theorem zAW (n : Nat) (k : IntKind) (i : Int) : veq (n + 1) (.int k i) (.int k i) = true := by cases i <;> simp [veq]
theorem zAV (n b o : Nat) : veq (n + 1) (.pointer (some ⟨b,o,none⟩)) (.pointer (some ⟨b,o,none⟩)) = true := by simp [veq]
theorem zAZ (n : Nat) (a : Option Addr) (k c : Nat) : veq (n + 1) (.slice a k c) (.slice a k c) = true := by
  cases a with
  | none => simp [veq]
  | some x =>
    obtain ⟨b,o,sp⟩ := x
    cases sp <;> simp [veq]
theorem VQ.agg {l : List Value} (h : ∀ v ∈ l,veq 4 v v = true) : VQ (.agg ⟨l⟩) := by
  show veqs (veq 4) l l = true
  induction l with
  | nil => rfl
  | cons v l ih =>
    simp only [veqs,h v (by simp)]
    exact ih fun u hu => h u (by simp [hu])
theorem VQ.func {f : FuncId} {l m : List Value} (h : ∀ v ∈ l,veq 4 v v = true) (h2 : ∀ v ∈ m,veq 4 v v = true) : VQ (.func (.func f) ⟨l⟩ ⟨m⟩) := by
  have h1 : veqs (veq 4) l l = true := VQ.agg h
  have h3 : veqs (veq 4) m m = true := VQ.agg h2
  show (Nat.beq f f && (veqs (veq 4) l l && veqs (veq 4) m m)) = true
  rw [h1,h3]
  simp
theorem ld_arun {t : TypeId} {v : Value} {A : AHeap} {r : Value × AHeap} (hr : ld P t v A = some r) : ∃ b o,v = .pointer (some ⟨b,o,none⟩) ∧ arun P (Go.loadVar t ⟨b,o,none⟩) A = some r := by
  unfold ld at hr
  split at hr
  · rename_i b o ha
    have ha := adr_eq ha
    refine ⟨b,o,ha,?_⟩
    split at hr
    · rename_i ht
      split at hr
      · rename_i u hu
        cases hr
        have hu : A.cell ⟨b,o,none⟩ = some u := hu
        simp [Go.loadVar,(tk_one ht _).1,Go.load,arun,hu]
      · cases hr
    · rename_i n ht
      split at hr
      · rename_i l hl
        cases hr
        obtain ⟨h1,h2⟩ := cls_get hl
        have hlc := zBB (P := P) (A := A) (a := ⟨b,o,none⟩) n 0 #[] l h1 (fun j hj => by
          rw [← h2 j hj]
          show A.cell _ = A.cell _
          congr 1
          unfold Addr.add
          by_cases hz : 0 + j = 0
          · have : j = 0 := by omega
            subst this
            simp
          · simp only [hz,if_false]
            simp)
        have hlc : arun P (Go.loadCells ⟨b,o,none⟩ n) A = some (⟨l⟩,A) := by simpa [Go.loadCells] using hlc
        simp [Go.loadVar,(tk_row ht _).1,(tk_row ht _).2,hlc]
      · cases hr
    · cases hr
  · cases hr
theorem endQ_cell {f : Func} {t : Tmp} {ty : TypeId} (hr : f.results = #[.cell t ty]) {Q : Value → AHeap → Prop} {s : Slots} {A : AHeap} {v : Value} (hl : ld P ty (sget s t) A = some (v,A)) (h : Q v A) : endQ P f Q .ret s [] A := by
  refine ⟨v,A,?_,h⟩
  show VR.of (zCK P f s A) = _
  obtain ⟨b,o,hv,ha⟩ := ld_arun hl
  have e : zCK P f s A = some (v,A) := by
    rw [sresults_eq]
    have h1 := sget_getD s t
    rw [hv] at h1
    simp only [Array.getD_eq_getD_getElem?] at h1
    simp [results,hr,h1,asAddr,ha]
  rw [e]
  rfl
end
end Go.Proofs.Ytdaljohmfnfgiaa.Canon

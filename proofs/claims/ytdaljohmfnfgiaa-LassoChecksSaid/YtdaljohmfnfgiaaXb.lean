/- Counting and finding in a stream, and their references. No condition. -/
import Derived.Test.YtdaljohmfnfgiaaXa
/- How many of the first elements are a number. No condition. -/
namespace Go.Proofs.Ytdaljohmfnfgiaa
open Go Go.RowKit Go.Proofs.Ytdaljohmfnfgiaa.Canon
set_option maxRecDepth 20000


section
variable {ρ : Operand → Value} {d : Option Tmp} {ty : TypeId} {pos : String} {af : Array Edge} {gu : Option (Nat × Bool)} {A : AHeap}
theorem so46_1 : sof Try.prog 46 1 = .mk (fun k => some (k * 3, 3)) 3 [.int .i64 0, .slice none 0 0, .slice none 0 0] := by kernel_rfl
theorem et46 : elemT Try.prog 46 = some 24 := by kernel_rfl
theorem bs46_1 {x : Tmp} (h : (ρ (.tmp x)).cells.size = 3) : aexec Try.prog ρ ⟨d, .buildSlice 46 1 #[(0, .tmp x)], ty, pos, af, gu⟩ A = some (.slice (some ⟨A.next, 0, none⟩) 1 1, A.push (.cells (ρ (.tmp x)).cells 24)) := by
  refine ae_buildSlice (r := (ρ (.tmp x)).cells.toList) (by rfl) so46_1 et46 rfl ?_
  simp [fbld, h]
end
theorem errs_one (x : Las) : errs [x] [x] = x.err := by
  unfold errs
  split
  · rename_i h
    rw [h]
    simp [errs, clash]
  · rfl
theorem Ints.uniq {A : AHeap} {a : Option Addr} {lo hi lo' hi' : Nat} {l l' : List Int} (h : Ints A a lo hi l) (h' : Ints A a lo' hi' l') (hl : l.length = l'.length) : l = l' := by
  refine List.ext_getElem hl fun i h1 h2 => ?_
  obtain ⟨b, o, rfl, _, _, q⟩ := h i h1
  obtain ⟨b', o', e, _, _, q'⟩ := h' i h2
  cases e
  rw [q] at q'
  simp [List.getD_eq_getElem?_getD, h1, h2] at q'
  exact q'
theorem errL_pos {m : Int} {st ro : List Int} (h : errL m st ro = 0) : 0 < ro.length := by
  refine Nat.pos_of_ne_zero fun h0 => ?_
  have : badN st.length ro.length = true := by simp [badN, h0]
  unfold errL at h
  rw [if_pos this] at h
  split at h <;> cases h

end Go.Proofs.Ytdaljohmfnfgiaa
/- How many of the first elements are a number, another time. No condition. -/
namespace Go.Proofs.Ytdaljohmfnfgiaa
open Go Go.RowKit Go.Proofs.Ytdaljohmfnfgiaa.Canon
set_option maxRecDepth 20000


section
variable {ρ : Operand → Value} {d : Option Tmp} {ty : TypeId} {pos : String} {af : Array Edge} {gu : Option (Nat × Bool)} {A : AHeap}
end
end Go.Proofs.Ytdaljohmfnfgiaa
/- Where some elements stand. No condition. -/
namespace Go.Proofs.Ytdaljohmfnfgiaa
open Go Go.RowKit Go.Proofs.Ytdaljohmfnfgiaa.Canon
set_option maxRecDepth 20000


theorem errL_len {m : Int} {st ro : List Int} (h : errL m st ro = 0) : st.length ≤ 60 ∧ ro.length ≤ 120 := by
  unfold errL at h
  split at h
  · cases h
  · split at h
    · cases h
    · rename_i h2
      simp [badN] at h2
      omega
end Go.Proofs.Ytdaljohmfnfgiaa
/- The first numbers of a list. No condition. -/
namespace Go.Proofs.Ytdaljohmfnfgiaa
open Go Go.RowKit Go.Proofs.Ytdaljohmfnfgiaa.Canon
set_option maxRecDepth 20000


section
variable {ρ : Operand → Value} {d : Option Tmp} {ty : TypeId} {pos : String} {af : Array Edge} {gu : Option (Nat × Bool)} {A : AHeap}
end
theorem Row.take {A : AHeap} {a : Option Addr} {l : List Value} (h : Row A a l) (n : Nat) : Row A a (l.take n) := by
  rcases h with rfl | ⟨b, o, e, h⟩
  · exact .inl (by simp)
  · exact .inr ⟨b, o, e, fun i hi => by
      have : i < l.length := by simp at hi; omega
      rw [h i this]
      simp⟩
end Go.Proofs.Ytdaljohmfnfgiaa
/- The elements of a stream, one after the other. No condition. -/
namespace Go.Proofs.Ytdaljohmfnfgiaa
open Go Go.RowKit Go.Proofs.Ytdaljohmfnfgiaa.Canon
set_option maxRecDepth 20000


theorem endQ_none {f : Func} (hr : f.results = #[]) {Q : Value → AHeap → Prop} {s : Slots} {A : AHeap} {j : Jm} (hj : j = .fall ∨ j = .ret) (h : Q (.tuple #[]) A) : endQ Try.prog f Q j s [] A := by
  have e : sresults Try.prog f s A = some (.tuple #[], A) := by
    rw [sresults_eq]
    simp [results, hr]
  have : ∃ v A1, bdefs Try.prog f s [] A = .yes v A1 ∧ Q v A1 := by
    refine ⟨.tuple #[], A, ?_, h⟩
    show VR.of (sresults Try.prog f s A) = _
    rw [e]
    rfl
  rcases hj with rfl | rfl <;> exact this
/-- Nothing is changed but one block, and what is new. -/
structure Kb (bN : Nat) (A B : AHeap) : Prop where
  next : A.next ≤ B.next
  wf : WF B
  keep : ∀ b, b < A.next → b ≠ bN → Canon.look B.objs b = Canon.look A.objs b
theorem Kb.of_nx {A B : AHeap} (bN : Nat) (h : Nx A.next A B) : Kb bN A B := ⟨h.next, h.wf, fun b hb _ => h.keep b hb⟩
theorem Kb.of_upd {A B : AHeap} {bN : Nat} {c : Array Value} (hw : WF A) (h : Upd A bN c B) : Kb bN A B := ⟨Nat.le_of_eq h.next.symm, (h.nx hw (Nat.zero_le _)).wf, fun b _ hb => h.off b hb⟩
theorem Kb.trans {bN : Nat} {A B C : AHeap} (h : Kb bN A B) (k : Kb bN B C) : Kb bN A C := ⟨Nat.le_trans h.next k.next, k.wf, fun b hb hn => (k.keep b (Nat.lt_of_lt_of_le hb h.next) hn).trans (h.keep b hb hn)⟩
theorem Kb.cl {bN : Nat} {A B : AHeap} (h : Kb bN A B) {b : Nat} (hb : b < A.next) (hn : b ≠ bN) (o : Nat) : cl B b o = cl A b o := cl_look (h.keep b hb hn)

/-- Where the elements come from. -/
structure Src (bS bN : Nat) (m : Int) (sa : Option Addr) (sc : Nat) (st : List Int) (ra : Option Addr) (rc : Nat) (ro : List Int) (lim n : Nat) (A : AHeap) : Prop where
  wf : WF A
  lm : lim ≤ A.next
  s0 : cl A bS 0 = some (.int .i64 m)
  s1 : cl A bS 1 = some (.slice sa st.length sc)
  s2 : cl A bS 2 = some (.slice ra ro.length rc)
  at' : Canon.look A.objs bN = some ⟨.cells #[.int .i64 (n : Int)] 3, false, 0⟩
  st' : Ints A sa 0 lim st
  ro' : Ints A ra 0 lim ro
variable {bS bN : Nat} {m : Int} {sa : Option Addr} {sc : Nat} {st : List Int} {ra : Option Addr} {rc : Nat} {ro : List Int} {lim : Nat}
theorem Ints.kb {bN : Nat} {A B : AHeap} (h : Kb bN A B) {a : Option Addr} {lo hi : Nat} {l : List Int} (hc : Ints A a lo hi l) (hn : hi ≤ A.next) (hb : hi ≤ bN) : Ints B a lo hi l := fun i hi' => by
  obtain ⟨b, o, h1, h2, h3, h4⟩ := hc i hi'
  exact ⟨b, o, h1, h2, h3, by rw [h.cl (by omega) (by omega)]; exact h4⟩
theorem Src.kb {n n' : Nat} {A B : AHeap} (h : Src bS bN m sa sc st ra rc ro lim n A) (hk : Kb bN A B) (hS : bS < A.next) (hne : bS ≠ bN) (hl : lim ≤ bN) (ha : Canon.look B.objs bN = some ⟨.cells #[.int .i64 (n' : Int)] 3, false, 0⟩) : Src bS bN m sa sc st ra rc ro lim n' B :=
  ⟨hk.wf, Nat.le_trans h.lm hk.next, by rw [hk.cl hS hne]; exact h.s0, by rw [hk.cl hS hne]; exact h.s1, by rw [hk.cl hS hne]; exact h.s2, ha, h.st'.kb hk h.lm hl, h.ro'.kb hk h.lm hl⟩

end Go.Proofs.Ytdaljohmfnfgiaa
/- So many elements of a stream. No condition. -/
namespace Go.Proofs.Ytdaljohmfnfgiaa
open Go Go.RowKit Go.Proofs.Ytdaljohmfnfgiaa.Canon
set_option maxRecDepth 20000


theorem so22_1 : sof Try.prog 22 1 = .mk (fun k => some (k * 1, 1)) 1 [.int .i64 0] := by kernel_rfl
section
variable {d : Option Tmp} {ty : TypeId} {pos : String} {af : Array Edge} {gu : Option (Nat × Bool)} {A : AHeap}
end
end Go.Proofs.Ytdaljohmfnfgiaa
/- Where some elements stand, by windows. No condition. -/
namespace Go.Proofs.Ytdaljohmfnfgiaa
open Go Go.RowKit Go.Proofs.Ytdaljohmfnfgiaa.Canon
set_option maxRecDepth 20000


theorem aeq3 (k : Nat) (a b : Int) : aeq Try.prog (k + 1) 3 (.int .i64 a) (.int .i64 b) = some (a == b) := by
  simp [aeq]
section
variable {ρ : Operand → Value} {d : Option Tmp} {ty : TypeId} {pos : String} {af : Array Edge} {gu : Option (Nat × Bool)} {A : AHeap}
theorem bo86 : bof Try.prog 86 = .mk (nthR [(0, 3)]) 3 [.int .i64 0, .slice none 0 0, .slice none 0 0] := by kernel_rfl
theorem bd86 {x : Tmp} (h : (ρ (.tmp x)).cells.size = 3) : aexec Try.prog ρ ⟨d, .build 86 #[(0, .tmp x)], ty, pos, af, gu⟩ A = some (.agg (ρ (.tmp x)).cells, A) := by
  refine ae_build (r := (ρ (.tmp x)).cells.toList) (by rfl) bo86 rfl ?_
  simp [fbld, nthR, h]
end
end Go.Proofs.Ytdaljohmfnfgiaa
/- Where some elements stand. No condition. -/
namespace Go.Proofs.Ytdaljohmfnfgiaa
open Go Go.RowKit Go.Proofs.Ytdaljohmfnfgiaa.Canon
set_option maxRecDepth 20000


end Go.Proofs.Ytdaljohmfnfgiaa

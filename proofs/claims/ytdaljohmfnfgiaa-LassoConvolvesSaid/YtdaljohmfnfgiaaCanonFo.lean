/- What the proof of this claim is made of. No condition. -/
import Derived.Test.YtdaljohmfnfgiaaCanonFn
namespace Go.Proofs.Ytdaljohmfnfgiaa.Canon
open Go Go.RowKit
noncomputable section
variable {P : Program}
theorem Rn.slots {fn : FuncId} {ro : Option Nat} {td : List Item} {s : Slots} {ds : List Deferred} {A : AHeap} {Q : Post} {I : Slots → Prop} (h0 : I s) (h : ∀ s,I s → Rn P fn ro td s ds A Q) : Rn P fn ro td s ds A Q := h s h0
theorem rd1_run {S : Spec} {ops : Array Oper} {nb e : Nat} {B A1 : AHeap} {o : Oper} {v : Value} {T1 : Slots} (heff : zBD P (cvE P ops) o = true) (hfl : isFl P o = false) : ∀ (rs : List Oper) (i : Nat) (T : Slots),i + rs.length = e → (∀ j,i ≤ j → j < e → tb ((nth (zCR ops.toList) e).getD 0) j = true) →
    opsOK rs = true → (rs.all fun o => !zBD P (cvE P ops) o) = true → rdV P ops rs T B → Canon.rops P ops rs T B = some (T1,B) → zCM (gd ops o) T1 = true → opRun P (runS P S) (zBP T1) o B = some (v,A1) →
    ∃ vs,pass1 P (cvE P ops) (rdA P) (runS P S) ops (zCR ops.toList) nb i (rs ++ [o]) (sabs T) [] B = some (vs,[B,A1],sabs (sput T1 o.dst v)) ∧ Ck P ops (zCR ops.toList) [e] [B,A1] (rs ++ [o]) vs i T := by
  intro rs
  induction rs with
  | nil =>
    intro i T he _ _ _ _ hro hw hr
    cases hro
    have h : Sp P S ops nb i [o] T1 [] B (fun vs ms T2 => vs = [v] ∧ ms = [B,A1] ∧ T2 = sput T1 o.dst v) :=
      Sp.eff heff hfl (pd1 := []) (pd2 := []) rfl rfl (ms0 := []) (A0 := B) rfl hw hr (Sp.nil (ms := []) (A1 := A1) rfl ⟨rfl,rfl,rfl⟩)
    obtain ⟨vs,ms,T2,h1,rfl,rfl,rfl⟩ := h
    refine ⟨[v],h1,?_⟩
    show Ck P ops (zCR ops.toList) [e] [B,A1] [o] [v] i T1
    exact ⟨fun hh => absurd (heff.symm.trans hh) (by decide),trivial⟩
  | cons r rs ih =>
    intro i T he hmask hok hne hrd hro hw hr
    have hok' : r.op.operands.toList.all zAC = true ∧ opsOK rs = true := by simpa [opsOK] using hok
    simp only [List.all_cons,Bool.and_eq_true,Bool.not_eq_true'] at hne
    simp only [rdV] at hrd
    simp only [Canon.rops] at hro
    have he' : i + 1 + rs.length = e := by simp at he; omega
    have hm' : ∀ j,i + 1 ≤ j → j < e → tb ((nth (zCR ops.toList) e).getD 0) j = true := fun j h1 h2 => hmask j (by omega) h2
    have hmi := hmask i (Nat.le_refl _) (by simp at he; omega)
    split at hrd
    · rename_i hwr
      rw [hwr] at hro
      obtain ⟨vs,h2,h3⟩ := ih (i + 1) (sput T r.dst undef) he' hm' hok'.2 hne.2 hrd hro hw hr
      rw [zCA] at h2
      refine ⟨undef :: vs,by simp only [List.cons_append,pass1,hne.1,want_eq,hwr,h2],?_,h3⟩
      intro _ hh
      rw [hwr] at hh
      cases hh
    · rename_i hwr
      rw [hwr] at hro
      obtain ⟨u,hv,hq,hrr⟩ : ∃ u,fx P (zBP T) r B = some (u,B) ∧ VQ u ∧ rdV P ops rs (sput T r.dst u) B := by
        split at hrd
        · rename_i u B1 hv
          obtain ⟨rfl,hq,hrr⟩ := hrd
          exact ⟨u,hv,hq,hrr⟩
        · exact hrd.elim
      simp only [hv] at hro
      obtain ⟨vs,h2,h3⟩ := ih (i + 1) (sput T r.dst u) he' hm' hok'.2 hne.2 hrr hro hw hr
      have ha := fx_ok hok'.1 hv
      rw [zCA] at h2
      refine ⟨u :: vs,?_,?_,h3⟩
      · have ha' := ha
        rw [zCY] at ha'
        simp only [List.cons_append,pass1,hne.1,want_eq,hwr,rdA_of ha',h2]
      · intro _ _
        refine ⟨hq,fun _ => ha,?_⟩
        simp only [hmi]
theorem Rn.drawn1 (hc : zAJ P) (hx : P.follows .mixedOrders = true) (S : Spec) {fn : FuncId} {ro : Option Nat} {td : List Item} {s : Slots} {ds : List Deferred} {A : AHeap} {Q : Post} {id : Nat} {l : List Oper} (n : Nat) {rs : List Oper} {o : Oper} (hrs : l.take n = rs) (ho : l.drop n = [o]) (hn : rs.length = n) (hst : statOK P (cvE P ⟨l⟩) ⟨l⟩ = true)
    (hch : zBL P (cvE P ⟨l⟩) ⟨l⟩ = [n]) (hmask : (List.range n).all (fun j => tb ((nth (zCR l) n).getD 0) j) = true) (hok : opsOK rs = true) (hne : (rs.all fun o => !zBD P (cvE P ⟨l⟩) o) = true) (heff : zBD P (cvE P ⟨l⟩) o = true) (hfl : isFl P o = false)
    (h1 : rdV P ⟨l⟩ rs s (bump A (n + 1))) (h2 : ∃ p,Canon.rops P ⟨l⟩ rs s (bump A (n + 1)) = some p ∧ zCM (gd ⟨l⟩ o) p.1 = true ∧ ∃ v A1,opRun P (runS P S) (zBP p.1) o (bump A (n + 1)) = some (v,A1) ∧ Rn P fn ro td (sput p.1 o.dst v) ds A1 Q) : Rn P fn ro (.code (.region id ⟨l⟩ true) :: td) s ds A Q := by
  have hl : l = rs ++ [o] := by rw [← hrs,← ho,List.take_append_drop]
  obtain ⟨p,q1,q2,v,A1,q3,q4⟩ := h2
  obtain ⟨T1,k1,_⟩ := rdV_run (S := S) (nb := 0) (i := 0) hok hne h1
  rw [k1] at q1
  cases q1
  obtain ⟨vs,k2,k3⟩ := rd1_run (S := S) (nb := A.next) (e := n) heff hfl rs 0 s (by omega) (fun j _ hj => by
    have := List.all_eq_true.1 hmask j (List.mem_range.2 hj)
    exact this) hok hne h1 k1 q2 q3
  have hsz : (⟨l⟩ : Array Oper).size = n + 1 := by
    show l.length = n + 1
    rw [hl]; simp [hn]
  refine Rn.drawnS hc hx S hst ⟨vs,[bump A (n + 1),A1],sput T1 o.dst v,?_,?_,A1,?_,q4⟩
  · rw [hsz]
    show pass1 P (cvE P ⟨l⟩) (rdA P) (runS P S) ⟨l⟩ (zCR l) A.next 0 l (sabs s) [] (bump A (n + 1)) = _
    have := k2
    rw [← hl] at this
    exact this
  · rw [hch]
    have := k3
    rw [← hl] at this
    exact this
  · rw [hch]
    rfl
end
end Go.Proofs.Ytdaljohmfnfgiaa.Canon

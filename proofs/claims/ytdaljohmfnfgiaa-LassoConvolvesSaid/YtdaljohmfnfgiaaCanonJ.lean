/- What the proof of this claim is made of. No condition. -/
import Derived.Test.YtdaljohmfnfgiaaCanonI
import Derived.IntWalk
namespace Go.Proofs.Ytdaljohmfnfgiaa.Canon
open Go Go.RowKit
noncomputable section
section
variable {P : Program}
theorem arr2 {φ : Phi} {xs xs' : Array Value} (h : AR φ xs xs') {a b : Value} (hx : xs.toList = [a,b]) : ∃ a' b',V φ a a' ∧ V φ b b' ∧ xs' = #[a',b'] := by
  have hlr := h.list
  rw [hx] at hlr
  cases hl : xs'.toList with
  | nil => rw [hl] at hlr; cases hlr
  | cons s' l =>
    rw [hl] at hlr
    cases hlr with
    | cons h1 h2 =>
      cases h2 with
      | cons h3 h4 => cases h4; exact ⟨s',_,h1,h3,list_two hl⟩
theorem arr1 {φ : Phi} {xs xs' : Array Value} (h : AR φ xs xs') {a : Value} (hx : xs.toList = [a]) : ∃ a',V φ a a' ∧ xs' = #[a'] := by
  have hlr := h.list
  rw [hx] at hlr
  cases hl : xs'.toList with
  | nil => rw [hl] at hlr; cases hlr
  | cons s' l =>
    rw [hl] at hlr
    cases hlr with
    | cons h1 h2 => cases h2; exact ⟨s',h1,by rw [← Array.toArray_toList (xs := xs'),hl]⟩
theorem list_one {α : Type} {xs : Array α} {a : α} (h : xs.toList = [a]) : xs = #[a] := by
  rw [← Array.toArray_toList (xs := xs),h]
def azeros (P : Program) (ats : Array TypeId) (xs : Array Value) (A : AHeap) : Option (Value × AHeap) :=
  match ats.toList,xs.toList with
  | [st,tx],[.slice none 0 sCap,.int .i64 l] => match P.underlying st,P.underlying tx with
    | some (.slice e),some (.int _) => match P.info? e,zok P e with
      | some i,true => match i.zero,decide (0 < l),decide (l * i.bytes ≤ 140737488355328),decide (l ≤ 4611686018427387904) with
        | some z,true,true,true => match Nat.blt sCap l.toNat,Nat.beq z.cells.size i.size with
          | true,true => some (.slice (some ⟨A.next,0,none⟩) l.toNat l.toNat,⟨A.next + 1,zDU A.next ⟨.cells (Builtin.zeroCells z.cells l.toNat).toList.toArray e,true,i.size⟩ A.objs⟩)
          | _,_ => none
        | _,_,_,_ => none
      | _,_ => none
    | _,_ => none
  | _,_ => none
theorem LR.refl_closed {φ : Phi} : ∀ {l : List Value},(∀ v ∈ l,closed1 v = true) → LR φ l l
  | [],_ => .nil
  | v :: l,h => .cons (closed1_V φ (h v (by simp))) (LR.refl_closed fun u hu => h u (by simp [hu]))
theorem zeroCells_closed {z : Value} (h : zCI z = true) (n : Nat) : ∀ v ∈ (Builtin.zeroCells z.cells n).toList,closed1 v = true := by
  intro v hv
  have hc : ∀ u ∈ z.cells.toList,closed1 u = true := by
    cases z with
    | agg cs => have hc := h; simp only [zCI,List.all_eq_true] at hc; exact hc
    | _ => intro u hu; simp [Value.cells] at hu; subst hu; simpa [zCI] using h
  simp only [Builtin.zeroCells,Array.toList_map,List.mem_map] at hv
  obtain ⟨i,_,rfl⟩ := hv
  by_cases hs : i % z.cells.size < z.cells.size
  · rw [getElem!_pos z.cells _ hs]; exact hc _ (by simp)
  · rw [getElem!_neg z.cells _ hs]; rfl
set_option maxHeartbeats 1000000 in
theorem Q.zerosOn {φ : Phi} {ats : Array TypeId} (ty : TypeId) {xs xs' : Array Value} (h : AR φ xs xs') : Q P V (azeros P ats xs) φ (Builtin.append_ ats ty xs') := by
  intro N A w v A1 hs hN he
  unfold azeros at he
  split at he
  rotate_left
  · cases he
  rename_i st tx sCap l hats hxs
  obtain ⟨s',x',hs',hx',rfl⟩ := arr2 h hxs
  rw [list_two hats]
  cases hs'
  cases hx'
  split at he
  rotate_left
  · cases he
  rename_i e k hst htx
  split at he
  rotate_left
  · cases he
  rename_i i hi hzok
  split at he
  rotate_left
  · cases he
  rename_i z hz hl1 hl2 hl3
  have hl1 : 0 < l := by simpa using hl1
  have hl2 : l * i.bytes ≤ 140737488355328 := by simpa using hl2
  have hl3 : l ≤ 4611686018427387904 := by simpa using hl3
  split at he
  rotate_left
  · cases he
  rename_i hcap hzs
  have hcap : sCap < l.toNat := by simpa [Nat.blt_eq] using hcap
  have hzs : z.cells.size = i.size := Nat.eq_of_beq_eq_true hzs
  cases he
  have hcz : zCI z = true := by simpa [zok,hi,hz] using hzok
  obtain ⟨n,rfl⟩ : ∃ n : Nat,l = n := ⟨l.toNat,by omega⟩
  simp only [Int.toNat_natCast] at *
  have hwrap : IntKind.i64.wrap (n : Int) = n := IntWalk.i64_in _ (by omega)
  have hge := grownCap_ge w (0 + n) sCap e
  have hmul : n * i.size + (grownCap w (0 + n) sCap e - (0 + n)) * i.size = grownCap w (0 + n) sCap e * i.size := by rw [← Nat.add_mul]; congr 1; omega
  obtain ⟨ψ,g1,g2,g3,g4⟩ := hs.grow hN (rest := (Builtin.zeroCells z.cells (grownCap w (0 + n) sCap e - (0 + n))).toList) (LR.refl_closed (zeroCells_closed hcz n)) e i.size n (grownCap w (0 + n) sCap e) (by omega) (by omega)
    (by simp only [List.length_append,Array.length_toList,zeroCells_size,hzs]; omega) A.objs (fun b x h => h)
  refine ⟨ψ,_,_,g1,g2,g3,?_,g4⟩
  have hb : n * i.bytes ≤ 140737488355328 := by
    rw [← Int.natCast_mul] at hl2
    generalize n * i.bytes = q at hl2 ⊢
    omega
  have hfit := growslice_fits (old := sCap) (need := 0 + n) (bytes := i.bytes) (by omega) (by rw [Nat.zero_add]; exact hb)
  have h48 : ¬ (281474976710656 < (n : Int) * (i.bytes : Int)) := by
    intro hgt
    have := Int.lt_of_lt_of_le hgt hl2
    omega
  have hneg : ¬ ((n : Int) < 0) := by omega
  have hn : ¬ (0 + n ≤ sCap) := by omega
  have hn' : ¬ (n ≤ sCap) := by omega
  have h63 : ¬ (9223372036854775807 < (n : Int)) := by omega
  have h48' : ¬ (281474976710656 < Builtin.nextslicecap (0 + n) sCap * i.bytes) := by omega
  have h48'' : ¬ (281474976710656 < Builtin.nextslicecap n sCap * i.bytes) := by rw [Nat.zero_add] at h48'; exact h48'
  have hsz : ¬ (n = 0) := by omega
  by_cases hz0 : n * i.size = 0
  · have hzc : Builtin.zeroCells z.cells n = #[] := Array.eq_empty_of_size_eq_zero (by rw [zeroCells_size,hzs]; exact hz0)
    simp [Builtin.append_,run_underlying hst,run_underlying htx,Go.sizeOf,Go.typeInfo,Go.zeroValue,hi,hz,Go.asInt,Go.asIntOf,hwrap,hneg,h48,hn',h63,h48'',Question.forced,Builtin.firstCells,Go.newRow,grownCap,hzc]
    try rfl
  · simp [Builtin.append_,run_underlying hst,run_underlying htx,Go.sizeOf,Go.typeInfo,Go.zeroValue,hi,hz,Go.asInt,Go.asIntOf,hwrap,hneg,h48,hn',h63,h48'',Question.forced,Builtin.firstCells,hz0,Go.newRow,grownCap]
    congr 3
    apply Array.ext'
    simp
end
end
end Go.Proofs.Ytdaljohmfnfgiaa.Canon

/- What the proof of this claim is made of. No condition. -/
import Derived.Test.YtdaljohmfnfgiaaCanonH
namespace Go.Proofs.Ytdaljohmfnfgiaa.Canon
open Go Go.RowKit
noncomputable section
section
variable {P : Program}
def zBN : Option Value → Nat → Option Nat
  | none,d => some d
  | some (.int _ i),_ => match decide (0 ≤ i) with
    | true => some i.toNat
    | false => none
  | _,_ => none
theorem zDT {v : Value} {d n y : Nat} (h : zBN (some v) d = some n) (hn : n ≤ y) (code : BoundsCode) (w : World) : (Instr.sliceBound v y code).run P w = .ok n w := by
  unfold zBN at h
  split at h
  · rename_i hv; cases hv
  · rename_i k i hv
    cases hv
    split at h
    · rename_i hi
      cases h
      have hi : 0 ≤ i := by simpa using hi
      have : 0 ≤ i ∧ i ≤ (y : Int) := ⟨hi,by omega⟩
      simp [Instr.sliceBound,asIntOf,this]
    · cases h
  · cases h
theorem bounds_run {isS : Bool} {len cap l h m : Nat} {lo hi mx : Option Value} (hl : zBN lo 0 = some l) (hh : zBN hi len = some h) (hm : zBN mx cap = some m) (h1 : l ≤ h) (h2 : h ≤ m) (h3 : m ≤ cap)
    (hx : mx.isSome = true → hi.isSome = true) (w : World) : (Instr.sliceBounds isS len cap lo hi mx).run P w = .ok (l,h,m) w := by
  unfold Instr.sliceBounds
  cases mx with
  | none =>
    simp only [zBN,zOi] at hm
    subst hm
    cases hi with
    | none =>
      simp only [zBN,zOi] at hh
      subst hh
      cases lo with
      | none => simp only [zBN,zOi] at hl; subst hl; simp
      | some v => simp [zDT hl h1]
    | some u =>
      cases lo with
      | none => simp only [zBN,zOi] at hl; subst hl; simp [zDT hh h2]
      | some v => simp [zDT hl h1,zDT hh h2]
  | some x =>
    cases hi with
    | none => simp at hx
    | some u =>
      cases lo with
      | none => simp only [zBN,zOi] at hl; subst hl; simp [zDT hh h2,zDT hm h3]
      | some v => simp [zDT hl h1,zDT hh h2,zDT hm h3]
theorem abound_V {φ : Phi} {lo lo' : Option Value} (h : match lo,lo' with | none,none => True | some v,some v' => V φ v v' | _,_ => False) {d n : Nat} (hn : zBN lo d = some n) : lo' = lo := by
  cases lo <;> cases lo' <;> simp only at h
  · rfl
  · rename_i v v'
    cases h <;> first | rfl | (simp [zBN] at hn)
def OV (φ : Phi) (lo lo' : Option Value) : Prop := match lo,lo' with | none,none => True | some v,some v' => V φ v v' | _,_ => False
def asl (P : Program) (t : TypeId) (x : Value) (lo hi mx : Option Value) (A : AHeap) : Option (Value × AHeap) :=
  match P.underlying t,x with
  | some .string,.string s => match mx,zBN lo 0,zBN hi s.size with
    | none,some l,some h => match Nat.ble l h,Nat.ble h s.size with
      | true,true => some (.string (s.extract l h),A)
      | _,_ => none
    | _,_,_ => none
  | some (.array n e),.pointer (some a) => match P.info? e,zBN lo 0,zBN hi n,zBN mx n with
    | some i,some l,some h,some m => match Nat.ble l h,Nat.ble h m,Nat.ble m n,a.spot,look A.objs a.block,(!mx.isSome || hi.isSome) with
      | true,true,true,none,some ⟨_,false,_⟩,true => some (.slice (some (if m = l then a else a.add (l * i.size))) (h - l) (m - l),A)
      | _,_,_,_,_,_ => none
    | _,_,_,_ => none
  | some (.slice e),.slice base len cap => match P.info? e,zBN lo 0,zBN hi len,zBN mx cap with
    | some i,some l,some h,some m => match Nat.ble l h,Nat.ble h m,Nat.ble m cap,(!mx.isSome || hi.isSome) with
      | true,true,true,true => match base with
        | none => some (.slice none (h - l) (m - l),A)
        | some a => match a.spot,look A.objs a.block with
          | some _,some _ => some (.slice (some a) 0 0,A)
          | none,some ⟨_,false,_⟩ => some (.slice (some (if m = l then a else a.add (l * i.size))) (h - l) (m - l),A)
          | none,some ⟨_,true,z⟩ => match Nat.beq z i.size with
            | false => none
            | true => match Nat.beq (m - l) 0 with
              | false => some (.slice (some (a.add (l * i.size))) (h - l) (m - l),A)
              | true => match mx.isSome || Nat.beq cap 0 with
                | true => some (.slice (some a) 0 0,A)
                | false => some (.slice (some { a with spot := some 0 }) 0 0,A)
          | _,_ => none
      | _,_,_,_ => none
    | _,_,_,_ => none
  | _,_ => none
theorem CapR.zero (e : Ent) (o : Nat) : CapR e o 0 0 := by unfold CapR; simp
set_option maxHeartbeats 1000000 in
theorem Q.slice {φ : Phi} (t : TypeId) {x x' : Value} {lo hi mx lo' hi' mx' : Option Value} (hx : V φ x x') (hlo : OV φ lo lo') (hhi : OV φ hi hi') (hmx : OV φ mx mx') :
    Q P V (asl P t x lo hi mx) φ (Instr.sliceAt t x' lo' hi' mx') := by
  intro N A w v A1 hs hN he
  unfold asl at he
  split at he
  · rename_i s hu
    cases hx
    split at he
    · rename_i l h hl hh
      split at he
      · rename_i h1 h2
        cases he
        have e1 := abound_V hlo hl
        have e2 := abound_V hhi hh
        have e3 : mx' = none := by
          cases mx' with
          | none => rfl
          | some v => exact hmx.elim
        subst e1 e2 e3
        have hb := bounds_run (P := P) (isS := false) (cap := s.size) (mx := none) (m := s.size) hl hh rfl (Nat.le_of_ble_eq_true h1) (Nat.le_of_ble_eq_true h2) (Nat.le_refl _) (by simp) w
        refine ⟨φ,_,w,Phi.le_refl _,.string _,hs,?_,Kept.refl _ _⟩
        simp [Instr.sliceAt,Instr.slice,run_underlying hu,hb]
      · cases he
    · cases he
  · rename_i n e a hu
    split at he
    · rename_i i l h m hi1 hl hh hm
      split at he
      · rename_i ob z h1 h2 h3 hsp hlook hmm
        cases he
        have e1 := abound_V hlo hl
        have e2 := abound_V hhi hh
        have e3 := abound_V hmx hm
        subst e1 e2 e3
        have hb := bounds_run (P := P) (isS := false) (cap := n) hl hh hm (Nat.le_of_ble_eq_true h1) (Nat.le_of_ble_eq_true h2) (Nat.le_of_ble_eq_true h3) (by
          intro k; rw [k] at hmm; simpa using hmm) w
        cases hx with
        | @ptr b o en hen =>
          have hgr : en.grown = false := by
            obtain ⟨en',k1,k2,_⟩ := hs.alive _ _ hlook
            rw [hen] at k1; cases k1; exact k2
          have hcs : P.cellsOf e = i.size := by simp [Program.cellsOf,hi1]
          refine ⟨φ,_,w,Phi.le_refl _,?_,hs,by simp only [Instr.sliceAt,Sem.run_bind,run_underlying hu,Result.andThen_ok,Instr.sureAddr,Sem.run_pure,hb,run_sizeOf w hi1,hcs]; rfl,Kept.refl _ _⟩
          by_cases hml : m = l
          · simp only [hml,if_true]
            exact .slice hen (by simp [CapR,hgr])
          · simp only [hml,if_false,Addr.add_lit,Nat.add_assoc]
            exact .slice hen (by simp [CapR,hgr])
      · cases he
    · cases he
  · rename_i e base len cap hu
    split at he
    rotate_left
    · cases he
    rename_i i l h m hi1 hl hh hm
    split at he
    rotate_left
    · cases he
    rename_i h1 h2 h3 hmm
    have h1 := Nat.le_of_ble_eq_true h1
    have h2 := Nat.le_of_ble_eq_true h2
    have h3 := Nat.le_of_ble_eq_true h3
    have hcs : P.cellsOf e = i.size := by simp [Program.cellsOf,hi1]
    have e1 := abound_V hlo hl
    have e2 := abound_V hhi hh
    have e3 := abound_V hmx hm
    subst e1 e2 e3
    have hmx' : mx'.isSome = true → hi'.isSome = true := by intro k; rw [k] at hmm; simpa using hmm
    have run : ∀ (base' : Option Addr) (c' m' : Nat),zBN mx' c' = some m' → m ≤ m' → m' ≤ c' → 
        (Instr.sliceAt t (.slice base' len c') lo' hi' mx').run P w = .ok (.slice (if m' = l then base' else base'.map (·.add (l * i.size))) (h - l) (m' - l)) w := by
      intro base' c' m' hm' hle hc'
      have hb := bounds_run (P := P) (isS := true) (cap := c') hl hh hm' h1 (by omega) hc' hmx' w
      simp only [Instr.sliceAt,Instr.slice,Sem.run_bind,run_underlying hu,Result.andThen_ok,hb,run_sizeOf w hi1,hcs,Sem.run_pure]
    have mxc : ∀ c',cap ≤ c' → ∃ m',zBN mx' c' = some m' ∧ m ≤ m' ∧ m' ≤ c' ∧ (mx'.isSome = true → m' = m) ∧ (mx' = none → m' = c' ∧ m = cap) := by
      intro c' hc'
      cases mx' with
      | none => simp only [zBN,zOi] at hm; subst hm; exact ⟨c',rfl,hc',Nat.le_refl _,by simp,fun _ => ⟨rfl,rfl⟩⟩
      | some v =>
        refine ⟨m,?_,Nat.le_refl _,by omega,fun _ => rfl,by simp⟩
        cases v <;> simp only [zBN] at hm ⊢ <;> first | exact hm | cases hm
    cases hx with
    | sliceNil n c =>
      simp only [zOi,Prod.mk.injEq] at he
      obtain ⟨rfl,rfl⟩ := he
      refine ⟨φ,_,w,Phi.le_refl _,.sliceNil _ _,hs,?_,Kept.refl _ _⟩
      rw [run none cap m hm (Nat.le_refl _) h3]
      simp
    | @slice b o _ _ c' en hen hcr =>
      simp only at he
      split at he
      · rename_i hsp _; cases hsp
      · rename_i ob z _ hlook
        cases he
        have hgr : en.grown = false := by
          obtain ⟨en',k1,k2,_⟩ := hs.alive _ _ hlook
          rw [hen] at k1; cases k1; exact k2
        have hc' : c' = cap := by simpa [CapR,hgr] using hcr
        subst hc'
        refine ⟨φ,_,w,Phi.le_refl _,?_,hs,run _ _ m hm (Nat.le_refl _) h3,Kept.refl _ _⟩
        by_cases hml : m = l
        · simp only [hml,if_true]
          exact .slice hen (by simp [CapR,hgr])
        · simp only [hml,if_false,Option.map_some,Addr.add_lit,Nat.add_assoc]
          exact .slice hen (by simp [CapR,hgr])
      · rename_i ob z _ hlook
        obtain ⟨en',k1,k2,k3,_⟩ := hs.alive _ _ hlook
        rw [hen] at k1; cases k1
        simp only at k2 k3
        have hcapc : cap ≤ c' := by
          unfold CapR at hcr
          split at hcr
          · exact hcr.1
          · omega
        obtain ⟨m',q1,q2,q3,q4,q5⟩ := mxc c' hcapc
        split at he
        · cases he
        · rename_i hz
          have hzz : en.esz = i.size := by rw [k3]; exact Nat.eq_of_beq_eq_true hz
          split at he
          · rename_i hml
            cases he
            have hml0 : m - l ≠ 0 := fun h => by rw [h] at hml; simp at hml
            have hcr2 : cap ≤ c' ∧ o + c' * en.esz ≤ en.ext := by
              unfold CapR at hcr
              rw [if_pos ⟨k2,by omega⟩] at hcr
              exact hcr
            have hrun := run (some ⟨en.blk,en.off + o,none⟩) c' m' q1 q2 q3
            rw [if_neg (by omega)] at hrun
            simp only [Option.map_some,Addr.add_lit] at hrun
            have hv : V φ (.slice (some ⟨b,o + l * i.size,none⟩) (h - l) (m - l)) (.slice (some ⟨en.blk,en.off + (o + l * i.size),none⟩) (h - l) (m' - l)) := by
              refine .slice hen ?_
              unfold CapR
              rw [if_pos ⟨k2,hml0⟩]
              refine ⟨by omega,?_⟩
              rw [← hzz]
              have h5 : l * en.esz + (m' - l) * en.esz = m' * en.esz := by rw [← Nat.add_mul]; congr 1; omega
              have h6 : m' * en.esz ≤ c' * en.esz := Nat.mul_le_mul_right _ q3
              omega
            rw [← Nat.add_assoc] at hv
            refine ⟨φ,_,w,Phi.le_refl _,?_,hs,hrun,Kept.refl _ _⟩
            simpa [Addr.add_lit] using hv
          · rename_i hml
            have hml0 : m - l = 0 := Nat.eq_of_beq_eq_true hml
            have hhl : h = l := by omega
            have hrun := run (some ⟨en.blk,en.off + o,none⟩) c' m' q1 q2 q3
            rw [hhl,Nat.sub_self] at hrun
            split at he
            · rename_i hsc
              cases he
              have hm' : m' = l := by
                cases hmx2 : mx'.isSome with
                | true => have := q4 hmx2; omega
                | false =>
                  rw [hmx2] at hsc
                  simp only [Bool.false_or] at hsc
                  have hc0 : cap = 0 := Nat.eq_of_beq_eq_true hsc
                  subst hc0
                  have hc' : c' = 0 := by simpa [CapR] using hcr
                  omega
              rw [if_pos hm',hm',Nat.sub_self] at hrun
              exact ⟨φ,_,w,Phi.le_refl _,.slice hen (CapR.zero _ _),hs,hrun,Kept.refl _ _⟩
            · rename_i hsc
              cases he
              simp only [Bool.or_eq_false_iff] at hsc
              have hmx3 : mx' = none := by
                cases mx' with
                | none => rfl
                | some v => simp at hsc
              obtain ⟨hm',hmc⟩ := q5 hmx3
              have hc0 : cap ≠ 0 := fun h => by have := hsc.2; rw [h] at this; simp at this
              have hcr2 : cap ≤ c' ∧ o + c' * en.esz ≤ en.ext := by
                unfold CapR at hcr
                rw [if_pos ⟨k2,hc0⟩] at hcr
                exact hcr
              rw [hm'] at hrun
              by_cases hml2 : c' = l
              · rw [if_pos hml2,hml2,Nat.sub_self] at hrun
                exact ⟨φ,_,w,Phi.le_refl _,.sliceZ (o' := o) (c' := 0) hen k2 (by omega),hs,hml2 ▸ hrun,Kept.refl _ _⟩
              · rw [if_neg hml2] at hrun
                simp only [Option.map_some,Addr.add_lit,Nat.add_assoc] at hrun
                refine ⟨φ,_,w,Phi.le_refl _,.sliceZ (o' := o + l * i.size) (c' := c' - l) hen k2 ?_,hs,hrun,Kept.refl _ _⟩
                rw [← hzz]
                have : l * en.esz + (c' - l) * en.esz = c' * en.esz := by rw [← Nat.add_mul]; congr 1; omega
                omega
      · cases he
    | sliceE b o s a =>
      simp only at he
      split at he
      · cases he
        obtain ⟨m',q1,q2,q3,q4,q5⟩ := mxc 0 (Nat.le_refl _)
        have hl0 : l = 0 := by omega
        have hh0 : h = 0 := by omega
        have hm0 : m' = 0 := by omega
        subst hl0 hh0 hm0
        have hrun := run (some a) 0 0 q1 q2 q3
        exact ⟨φ,_,w,Phi.le_refl _,.sliceE b o s a,hs,by simpa using hrun,Kept.refl _ _⟩
      · rename_i hsp _; cases hsp
      · rename_i hsp _; cases hsp
      · cases he
    | @sliceZ b o s o' c' en hen hg hxx =>
      simp only at he
      split at he
      · cases he
        obtain ⟨m',q1,q2,q3,q4,q5⟩ := mxc c' (Nat.zero_le _)
        have hl0 : l = 0 := by omega
        have hh0 : h = 0 := by omega
        subst hl0 hh0
        have hrun := run (some ⟨en.blk,en.off + o',none⟩) c' m' q1 q2 q3
        have hsame : (if m' = 0 then (some ⟨en.blk,en.off + o',none⟩ : Option Addr) else Option.map (fun (x : Addr) => x.add (0 * i.size)) (some ⟨en.blk,en.off + o',none⟩)) = some ⟨en.blk,en.off + o',none⟩ := by
          split
          · rfl
          · simp [Addr.add]
        rw [hsame] at hrun
        have hmul : m' * en.esz ≤ c' * en.esz := Nat.mul_le_mul_right _ q3
        exact ⟨φ,_,w,Phi.le_refl _,.sliceZ hen hg (by simp only [Nat.sub_zero]; omega),hs,hrun,Kept.refl _ _⟩
      · rename_i hsp _; cases hsp
      · rename_i hsp _; cases hsp
      · cases he
  · cases he
end
end
end Go.Proofs.Ytdaljohmfnfgiaa.Canon

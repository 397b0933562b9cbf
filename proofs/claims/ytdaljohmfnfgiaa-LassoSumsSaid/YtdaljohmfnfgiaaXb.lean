/- LassoSumsSaid: what its proof is made of, part 2. No condition. -/
import Derived.Test.YtdaljohmfnfgiaaXa
import Derived.Test.YtdaljohmfnfgiaaCanonFm
import Derived.Test.YtdaljohmfnfgiaaRows
import Derived.ProofKit
import Derived.Below
import Derived.ChangeSame
import Derived.Deep.SlicePairs
namespace Go.Proofs.Ytdaljohmfnfgiaa
open Go Go.RowKit Go.Proofs.Ytdaljohmfnfgiaa.Canon
set_option maxRecDepth 20000
theorem least_ref {A : AHeap} (hw : WF A) {m : Int} {sa ra : Option Addr} {sc rc : Nat} {st ro : List Int} (hs : Ints A sa 0 A.next st) (hr : Ints A ra 0 A.next ro) (ls : st.length < 4611686018427387904) (lr : ro.length < 4611686018427387904) (hsl : 0 < ro.length → Sl A ra 0) (hrc : ro.length ≤ rc) :
    Con Try.prog 19 [.agg #[.int .i64 m,.slice sa st.length sc,.slice ra ro.length rc]] A (fun v A1 => (errL m st ro = 0 → ∃ a p,Red (atL st ro) a p ∧ a ≤ st.length ∧ p ≤ ro.length ∧ LeastR A m (atL st ro) a p v A1) ∧ (errL m st ro ≠ 0 → v = .tuple #[.agg #[.int .i64 0,.slice none 0 0,.slice none 0 0],.int .i64 (errL m st ro)] ∧ Nx A.next A A1)) := by
  refine zAJ hc Try.func19 rfl (Nat.le_of_ble_eq_true rfl) ?_
  obtain ⟨A0,e0,hx0,hn0,b0,b1,b2⟩ := box3 hw (.int .i64 m) (.slice sa st.length sc) (.slice ra ro.length rc) 24
  have hx1 : Nx A0.next A0 (A0.push (.cells #[.int .i64 0,.slice none 0 0,.slice none 0 0] 24)) := (Nx.refl hx0.wf _).push (Nat.le_refl _) _
  have l1 := zAM A0 (.cells #[.int .i64 0,.slice none 0 0,.slice none 0 0] 24)
  have hn1 : (A0.push (.cells #[.int .i64 0,.slice none 0 0,.slice none 0 0] 24)).next = A0.next + 1 := rfl
  generalize e1 : A0.push (.cells #[.int .i64 0,.slice none 0 0,.slice none 0 0] 24) = A1 at hx1 l1 hn1
  have hx01 : Nx A.next A A1 := hx0.trans (hx1.le hx0.next)
  have b0 := (hx1.cl (show A.next < A0.next by omega) 0).trans b0
  have b1 := (hx1.cl (show A.next < A0.next by omega) 1).trans b1
  have b2 := (hx1.cl (show A.next < A0.next by omega) 2).trans b2
  rw [s_in1]
  (repeat (first | refine Rn.seq hc ?_ | refine Rn.skip hc ?_ | refine Rn.block hc ?_ | refine Rn.inBlock hc ?_ | refine Rn.scope hc ?_ | refine Rn.inScope hc ?_))
  refine Rn.reg hc rfl ?_
  simp only [zAY,zAS,zAU,Nat.reduceLT,ne_eq,gd,zAX,rops,fx,zOi,zEl,Value.cells,show Try.f19.ntmps = 15 from rfl,e0,ze24,e1]
  (repeat (first | refine Rn.seq hc ?_ | refine Rn.skip hc ?_ | refine Rn.block hc ?_ | refine Rn.inBlock hc ?_ | refine Rn.scope hc ?_ | refine Rn.inScope hc ?_))
  refine Rn.region hc fun K hK => ?_
  refine Wo.run hc 1 rfl rfl rfl ?_
  simp (maxSteps := 2000000) only [List.drop_zero,List.take_succ_cons,List.take_zero,zAY,zAU,zAT,sp_n,Nat.reduceLT,ne_eq,Nat.reduceEqDiff,not_false_eq_true,gd,zAX,rops,fx,ld,zAR,cls,Nat.zero_add,Option.some.injEq,exists_eq_left',Nat.reduceAdd,tk24,b0,b1,b2]
  refine Wo.call hc (by rfl) (by rfl) ⟨by rfl,by rfl⟩ (xs := [.agg #[.int .i64 m,.slice sa st.length sc,.slice ra ro.length rc]]) (by rfl) (by rfl) (by rfl) (Con.mono (check_ref hx1.wf ((hs.nx hx01 (Nat.le_refl _)).mono (Nat.le_refl _) hx01.next) ((hr.nx hx01 (Nat.le_refl _)).mono (Nat.le_refl _) hx01.next) ls lr) ?_)
  rintro w A4 ⟨rfl,hx4⟩
  refine Wo.run hc 1 rfl rfl rfl ?_
  simp (maxSteps := 2000000) only [List.drop_zero,List.drop_succ_cons,List.take_succ_cons,List.take_zero,zAY,zAU,sp_n,Nat.reduceLT,gd,zAX,rops,fx,Option.some.injEq,exists_eq_left',Nat.reduceAdd]
  refine Wo.done hc rfl (hK _ _ ?_)
  clear hK
  (repeat (first | refine Rn.seq hc ?_ | refine Rn.skip hc ?_ | refine Rn.block hc ?_ | refine Rn.inBlock hc ?_ | refine Rn.scope hc ?_ | refine Rn.inScope hc ?_))
  have hx04 : Nx A.next A A4 := hx01.trans (hx4.le hx01.next)
  have n4 := hx4.next
  by_cases he : errL m st ro = 0
  · have hd : (!decide (errL m st ro = 0)) = false := by rw [decide_eq_true he]; rfl
    refine Rn.reg hc rfl ?_
    simp only [zAY,zAS,zAU,sp_n,Nat.reduceLT,gd,zAX,rops,fx,zAD,zOi,zEl,hd]
    (repeat (first | refine Rn.seq hc ?_ | refine Rn.skip hc ?_ | refine Rn.block hc ?_ | refine Rn.inBlock hc ?_ | refine Rn.scope hc ?_ | refine Rn.inScope hc ?_))
    refine Rn.zAL hc rfl ?_
    simp only [zAY,zAU,sp_n,Nat.reduceLT,Value.bool.injEq,zEl]
    (repeat (first | refine Rn.seq hc ?_ | refine Rn.skip hc ?_ | refine Rn.block hc ?_ | refine Rn.inBlock hc ?_ | refine Rn.scope hc ?_ | refine Rn.inScope hc ?_))
    obtain ⟨l60,l120⟩ := errL_len he
    have hp := errL_pos he
    have b0 := (hx4.cl (show A.next < A1.next by omega) 0).trans b0
    have b1 := (hx4.cl (show A.next < A1.next by omega) 1).trans b1
    have b2 := (hx4.cl (show A.next < A1.next by omega) 2).trans b2
    refine Rn.region hc fun K hK => ?_
    refine Wo.run hc 1 rfl rfl rfl ?_
    simp (maxSteps := 2000000) only [List.drop_zero,List.take_succ_cons,List.take_zero,zAY,zAU,zAT,sp_n,Nat.reduceLT,ne_eq,Nat.reduceEqDiff,not_false_eq_true,gd,zAX,rops,fx,ld,zAR,cls,Nat.zero_add,Option.some.injEq,exists_eq_left',Nat.reduceAdd,tk24,b0,b1,b2]
    refine Wo.call hc (by rfl) (by rfl) ⟨by rfl,by rfl⟩ (xs := [.agg #[.int .i64 m,.slice sa st.length sc,.slice ra ro.length rc]]) (by rfl) (by rfl) (by rfl) (Con.mono (result_ref hx4.wf ((hs.nx hx04 (Nat.le_refl _)).mono (Nat.le_refl _) hx04.next) ((hr.nx hx04 (Nat.le_refl _)).mono (Nat.le_refl _) hx04.next) (by omega) (by omega) hp ((hsl hp).nx hw hx04) hrc) ?_)
    rintro w A5 ⟨a,p,hred,ha,hpl,hx5,hq⟩
    have hx05 : Nx A.next A A5 := hx04.trans (hx5.le hx04.next)
    have hx15 : Nx A1.next A1 A5 := hx4.trans (hx5.le hx4.next)
    have n5 := hx5.next
    by_cases hlong : 120 < p ∨ 60 < a
    · rw [if_pos hlong] at hq
      subst hq
      obtain ⟨D,q1,q2,q3,q4,g0,g1,g2⟩ := res_put l1 (by omega) hx15 (v0 := .int .i64 0) (v1 := .slice none 0 0) (v2 := .slice none 0 0) rfl
      refine Wo.run hc 4 rfl rfl rfl ?_
      simp (maxSteps := 2000000) only [List.drop_zero,List.drop_succ_cons,List.take_succ_cons,List.take_zero,zAY,zAU,zAT,sp_n,zAO,Nat.reduceLT,ne_eq,Nat.reduceEqDiff,not_false_eq_true,gd,zAX,rops,fx,str,ext,zAR,List.getElem?_toArray,List.getElem?_cons_zero,List.getElem?_cons_succ,Nat.zero_add,Option.some.injEq,exists_eq_left',Nat.reduceAdd,tk24,ext,q1,List.size_toArray,List.length_cons,List.length_nil,Nat.beq_refl]
      refine Wo.done hc rfl (hK _ _ ?_)
      clear hK
      (repeat (first | refine Rn.seq hc ?_ | refine Rn.skip hc ?_ | refine Rn.block hc ?_ | refine Rn.inBlock hc ?_ | refine Rn.scope hc ?_ | refine Rn.inScope hc ?_))
      refine Rn.ret (zBR rfl (v := .agg #[.int .i64 0,.slice none 0 0,.slice none 0 0]) ?_ ⟨fun _ => ⟨a,p,hred,ha,hpl,⟨by omega,q3,fun b hb => by rw [q4 _ (by omega),hx05.keep _ hb]⟩,?_⟩,fun h => absurd he h⟩)
      · simp only [zAU,zAT,sp_n,Nat.reduceLT,ne_eq,Nat.reduceEqDiff,zNf,ld,zAR,cls,Nat.zero_add,Nat.reduceAdd,tk24,g0,g1,g2]
      · rw [if_pos hlong]
        simp only [zAU,sp_n,Nat.reduceLT]
    · rw [if_neg hlong] at hq
      obtain ⟨xa,xc,xr,xd,rfl,hg1,hg2⟩ := hq
      obtain ⟨D,q1,q2,q3,q4,g0,g1,g2⟩ := res_put l1 (by omega) hx15 (v0 := .int .i64 m) (v1 := .slice xa a xc) (v2 := .slice xr p xd) rfl
      refine Wo.run hc 4 rfl rfl rfl ?_
      simp (maxSteps := 2000000) only [List.drop_zero,List.drop_succ_cons,List.take_succ_cons,List.take_zero,zAY,zAU,zAT,sp_n,zAO,Nat.reduceLT,ne_eq,Nat.reduceEqDiff,not_false_eq_true,gd,zAX,rops,fx,str,ext,zAR,List.getElem?_toArray,List.getElem?_cons_zero,List.getElem?_cons_succ,Nat.zero_add,Option.some.injEq,exists_eq_left',Nat.reduceAdd,tk24,ext,q1,List.size_toArray,List.length_cons,List.length_nil,Nat.beq_refl]
      refine Wo.done hc rfl (hK _ _ ?_)
      clear hK
      (repeat (first | refine Rn.seq hc ?_ | refine Rn.skip hc ?_ | refine Rn.block hc ?_ | refine Rn.inBlock hc ?_ | refine Rn.scope hc ?_ | refine Rn.inScope hc ?_))
      have hoff : ∀ b,A4.next ≤ b → Canon.look A5.objs b = none ∨ Canon.look D.objs b = Canon.look A5.objs b := fun b hb => .inr (q4 _ (by omega))
      refine Rn.ret (zBR rfl (v := .agg #[.int .i64 m,.slice xa a xc,.slice xr p xd]) ?_ ⟨fun _ => ⟨a,p,hred,ha,hpl,⟨by omega,q3,fun b hb => by rw [q4 _ (by omega),hx05.keep _ hb]⟩,?_⟩,fun h => absurd he h⟩)
      · simp only [zAU,zAT,sp_n,Nat.reduceLT,ne_eq,Nat.reduceEqDiff,zNf,ld,zAR,cls,Nat.zero_add,Nat.reduceAdd,tk24,g0,g1,g2]
      · rw [if_neg hlong]
        exact ⟨xa,xc,xr,xd,by simp only [zAU,sp_n,Nat.reduceLT],(hg1.ext hoff (by omega)).mono hx04.next (Nat.le_refl _),(hg2.ext hoff (by omega)).mono hx04.next (Nat.le_refl _)⟩
  · have hd : (!decide (errL m st ro = 0)) = true := by rw [decide_eq_false he]; rfl
    obtain ⟨D,q1,q2,q3,q4,g0,g1,g2⟩ := res_put l1 (by omega) hx4 (v0 := .int .i64 0) (v1 := .slice none 0 0) (v2 := .slice none 0 0) rfl
    refine Rn.reg hc rfl ?_
    simp only [zAY,zAS,zAU,sp_n,Nat.reduceLT,gd,zAX,rops,fx,zAD,zOi,zEl,hd]
    (repeat (first | refine Rn.seq hc ?_ | refine Rn.skip hc ?_ | refine Rn.block hc ?_ | refine Rn.inBlock hc ?_ | refine Rn.scope hc ?_ | refine Rn.inScope hc ?_))
    refine Rn.zAL hc rfl ?_
    simp only [zAY,zAU,sp_n,Nat.reduceLT,Value.bool.injEq,zEl]
    (repeat (first | refine Rn.seq hc ?_ | refine Rn.skip hc ?_ | refine Rn.block hc ?_ | refine Rn.inBlock hc ?_ | refine Rn.scope hc ?_ | refine Rn.inScope hc ?_))
    refine Rn.reg hc rfl ?_
    simp only [zAY,zAU,zAT,sp_n,zAO,Nat.reduceLT,ne_eq,Nat.reduceEqDiff,zNf,gd,zAX,rops,fx,str,zAR,Nat.zero_add,zOi,zEl,Nat.reduceAdd,tk24,bd24_z,q1,List.size_toArray,List.length_cons,List.length_nil,Nat.beq_refl]
    (repeat (first | refine Rn.seq hc ?_ | refine Rn.skip hc ?_ | refine Rn.block hc ?_ | refine Rn.inBlock hc ?_ | refine Rn.scope hc ?_ | refine Rn.inScope hc ?_))
    refine Rn.ret (zBR rfl (v := .agg #[.int .i64 0,.slice none 0 0,.slice none 0 0]) ?_ ⟨fun h => absurd h he,fun _ => ⟨by simp only [zAU,sp_n,Nat.reduceLT],⟨by omega,q3,fun b hb => by rw [q4 _ (by omega),hx04.keep _ hb]⟩⟩⟩)
    simp only [zAU,zAT,sp_n,Nat.reduceLT,ne_eq,Nat.reduceEqDiff,zNf,ld,zAR,cls,Nat.zero_add,Nat.reduceAdd,tk24,g0,g1,g2]
theorem gcd_ref {A : AHeap} (hw : WF A) {a b : Nat} (ha : a < 4611686018427387904) (hb : b < 4611686018427387904) : Con Try.prog 104 [.int .i64 (a : Int),.int .i64 (b : Int)] A (fun v A1 => v = .int .i64 (Nat.gcd a b : Nat) ∧ Nx A.next A A1) := by
  refine zAJ hc Try.func104 rfl (Nat.le_of_ble_eq_true rfl) ?_
  rw [s_in2]
  (repeat (first | refine Rn.seq hc ?_ | refine Rn.skip hc ?_ | refine Rn.block hc ?_ | refine Rn.inBlock hc ?_ | refine Rn.scope hc ?_ | refine Rn.inScope hc ?_))
  refine Rn.reg hc rfl ?_
  simp only [zAS,gd,zAX,rops,fx,zOi,zEl,show Try.f104.ntmps = 12 from rfl]
  (repeat (first | refine Rn.seq hc ?_ | refine Rn.skip hc ?_ | refine Rn.block hc ?_ | refine Rn.inBlock hc ?_ | refine Rn.scope hc ?_ | refine Rn.inScope hc ?_))
  refine Rn.loopI hc (I := fun k s A' => ∃ x y : Nat,k = y ∧ x < 4611686018427387904 ∧ y < 4611686018427387904 ∧ Nat.gcd x y = Nat.gcd a b ∧ Nx A.next A A' ∧ s.n = 12 ∧ sget s 0 = .int .i64 (x : Int) ∧ sget s 1 = .int .i64 (y : Int))
    (n := b) ⟨a,b,rfl,ha,hb,rfl,Nx.refl hw _,by simp only [sp_n],by simp only [zAU,zAT,Nat.reduceLT,ne_eq,Nat.reduceEqDiff,zNf],by simp only [zAU,zAT,sp_n,Nat.reduceLT,ne_eq,Nat.reduceEqDiff,zNf]⟩ ?_
  rintro k s A' ⟨x,y,hky,hx',hy',hg,hA,hn,s0,s1⟩ ih
  (repeat (first | refine Rn.seq hc ?_ | refine Rn.skip hc ?_ | refine Rn.block hc ?_ | refine Rn.inBlock hc ?_ | refine Rn.scope hc ?_ | refine Rn.inScope hc ?_))
  by_cases hy0 : y = 0
  · subst hy0
    clear ih
    rw [Nat.gcd_zero_right] at hg
    refine Rn.reg hc rfl ?_
    simp only [zAY,zAS,zAU,Nat.reduceLT,gd,zAX,rops,fx,zAD,zOi,zEl,Bool.not_true,Bool.not_true,hn,s1,Int.natCast_zero,eq_self,decide_true,Bool.not_true]
    (repeat (first | refine Rn.seq hc ?_ | refine Rn.skip hc ?_ | refine Rn.block hc ?_ | refine Rn.inBlock hc ?_ | refine Rn.scope hc ?_ | refine Rn.inScope hc ?_))
    refine Rn.zAL hc rfl ?_
    simp only [zAY,zAU,sp_n,Nat.reduceLT,Value.bool.injEq,zEl,hn]
    (repeat (first | refine Rn.seq hc ?_ | refine Rn.skip hc ?_ | refine Rn.block hc ?_ | refine Rn.inBlock hc ?_ | refine Rn.scope hc ?_ | refine Rn.inScope hc ?_))
    refine Rn.exit hc rfl ?_
    (repeat (first | refine Rn.seq hc ?_ | refine Rn.skip hc ?_ | refine Rn.block hc ?_ | refine Rn.inBlock hc ?_ | refine Rn.scope hc ?_ | refine Rn.inScope hc ?_))
    refine Rn.reg hc rfl ?_
    simp only [zAY,zAU,zAT,sp_n,Nat.reduceLT,ne_eq,Nat.reduceEqDiff,zNf,gd,zAX,rops,fx,zOi,zEl,hn,s0]
    (repeat (first | refine Rn.seq hc ?_ | refine Rn.skip hc ?_ | refine Rn.block hc ?_ | refine Rn.inBlock hc ?_ | refine Rn.scope hc ?_ | refine Rn.inScope hc ?_))
    refine Rn.ret (zAN rfl ⟨?_,hA⟩)
    simp only [zAU,sp_n,Nat.reduceLT,hn,hg]
  · have hd : (!decide ((y : Int) = 0)) = true := by rw [decide_eq_false (by omega)]; rfl
    have hrem : ∀ M,bin Try.prog .rem 3 (.int .i64 (x : Int)) (.int .i64 (y : Int)) M = some (.int .i64 ((x % y : Nat) : Int),M) := fun M => by
      rw [zBB _ _ _ _ (by omega),IntWalk.rem_in _ _ (by omega)]
      rfl
    have hlt := Nat.mod_lt x (Nat.pos_of_ne_zero hy0)
    refine Rn.reg hc rfl ?_
    simp only [zAY,zAS,zAU,Nat.reduceLT,gd,zAX,rops,fx,zAD,zOi,zEl,hn,s1,hd]
    (repeat (first | refine Rn.seq hc ?_ | refine Rn.skip hc ?_ | refine Rn.block hc ?_ | refine Rn.inBlock hc ?_ | refine Rn.scope hc ?_ | refine Rn.inScope hc ?_))
    refine Rn.zAL hc rfl ?_
    simp only [zAY,zAU,sp_n,Nat.reduceLT,Value.bool.injEq,zEl,hn]
    (repeat (first | refine Rn.seq hc ?_ | refine Rn.skip hc ?_ | refine Rn.block hc ?_ | refine Rn.inBlock hc ?_ | refine Rn.scope hc ?_ | refine Rn.inScope hc ?_))
    refine Rn.zDX hc hx (by kernel_rfl) (by rfl) (by kernel_rfl) ?_ ?_
    · simp only [rdV,VQ.int,zAY,zAU,zAT,sp_n,Nat.reduceLT,ne_eq,Nat.reduceEqDiff,zNf,gd,zAX,fx,Nat.zero_add,Nat.reduceAdd,and_self,hn,s0,s1,hrem,List.length_cons,List.length_nil]
    simp only [zAY,zAU,zAT,sp_n,Nat.reduceLT,ne_eq,Nat.reduceEqDiff,zNf,gd,zAX,rops,fx,Nat.zero_add,zOi,zEl,Nat.reduceAdd,hn,s0,s1,hrem,List.length_cons,List.length_nil]
    (repeat (first | refine Rn.seq hc ?_ | refine Rn.skip hc ?_ | refine Rn.block hc ?_ | refine Rn.inBlock hc ?_ | refine Rn.scope hc ?_ | refine Rn.inScope hc ?_))
    refine ih _ _ _ (by rw [hky]; exact hlt) ⟨y,x % y,rfl,hy',by omega,?_,Nx.bump hA _,by simp only [sp_n,hn],by simp only [zAU,zAT,sp_n,Nat.reduceLT,ne_eq,Nat.reduceEqDiff,zNf,hn],by simp only [zAU,sp_n,Nat.reduceLT,hn]⟩
    rw [← hg,Nat.gcd_comm x y,Nat.gcd_rec y x,Nat.gcd_comm]
def lcmN (a b : Nat) : Nat := a / Nat.gcd a b * b
theorem zDZ {a b : Nat} (ha : 0 < a) (hb : 0 < b) : 0 < lcmN a b ∧ lcmN a b % a = 0 ∧ lcmN a b % b = 0 ∧ lcmN a b ≤ a * b := by
  have hg : 0 < Nat.gcd a b := Nat.gcd_pos_of_pos_left _ ha
  obtain ⟨x,hx⟩ := Nat.gcd_dvd_left a b
  obtain ⟨y,hy⟩ := Nat.gcd_dvd_right a b
  have e : a / Nat.gcd a b = x := by
    have : a = Nat.gcd a b * x := hx
    rw [Nat.div_eq_of_eq_mul_right hg this]
  have hx0 : 0 < x := Nat.pos_of_ne_zero fun h => by subst h; rw [Nat.mul_zero] at hx; omega
  refine ⟨?_,?_,?_,?_⟩
  · unfold lcmN
    rw [e]
    exact Nat.mul_pos hx0 hb
  · unfold lcmN
    rw [e]
    have : x * b = a * y := by
      calc x * b = x * (Nat.gcd a b * y) := by rw [← hy]
        _ = Nat.gcd a b * x * y := by rw [← Nat.mul_assoc,Nat.mul_comm x]
        _ = a * y := by rw [← hx]
    rw [this,Nat.mul_mod_right]
  · unfold lcmN
    exact Nat.mul_mod_left _ _
  · unfold lcmN
    exact Nat.mul_le_mul_right _ (Nat.div_le_self _ _)
theorem lcm_ref {A : AHeap} (hw : WF A) {a b : Nat} (ha : 0 < a ∧ a ≤ 1000) (hb : 0 < b ∧ b ≤ 1000) : Con Try.prog 73 [.int .i64 (a : Int),.int .i64 (b : Int)] A (fun v A1 => v = .int .i64 (lcmN a b : Nat) ∧ Nx A.next A A1) := by
  refine zAJ hc Try.func73 rfl (Nat.le_of_ble_eq_true rfl) ?_
  rw [s_in2]
  (repeat (first | refine Rn.seq hc ?_ | refine Rn.skip hc ?_ | refine Rn.block hc ?_ | refine Rn.inBlock hc ?_ | refine Rn.scope hc ?_ | refine Rn.inScope hc ?_))
  refine Rn.reg hc rfl ?_
  simp only [zAS,gd,zAX,rops,fx,zOi,zEl,show Try.f73.ntmps = 12 from rfl]
  (repeat (first | refine Rn.seq hc ?_ | refine Rn.skip hc ?_ | refine Rn.block hc ?_ | refine Rn.inBlock hc ?_ | refine Rn.scope hc ?_ | refine Rn.inScope hc ?_))
  refine Rn.region hc fun K hK => ?_
  refine Wo.run hc 3 rfl rfl rfl ?_
  simp (maxSteps := 2000000) only [List.drop_zero,List.take_succ_cons,List.take_zero,zAY,zAU,zAT,sp_n,Nat.reduceLT,ne_eq,Nat.reduceEqDiff,not_false_eq_true,gd,zAX,rops,fx,Nat.zero_add,Option.some.injEq,exists_eq_left']
  refine Wo.call hc (by rfl) (by rfl) ⟨by rfl,by rfl⟩ (xs := [.int .i64 (a : Int),.int .i64 (b : Int)]) (by rfl) (by rfl) (by rfl) (Con.mono (gcd_ref hw (by omega) (by omega)) ?_)
  rintro w A1 ⟨rfl,hx1⟩
  have hg : 0 < Nat.gcd a b := Nat.gcd_pos_of_pos_left _ ha.1
  have hq : ∀ M,bin Try.prog .quo 3 (.int .i64 (a : Int)) (.int .i64 (Nat.gcd a b : Nat)) M = some (.int .i64 ((a / Nat.gcd a b : Nat) : Int),M) := fun M => by
    have hle := Nat.div_le_self a (Nat.gcd a b)
    have e : ((a : Int)).tdiv ((Nat.gcd a b : Nat) : Int) = ((a / Nat.gcd a b : Nat) : Int) := by
      rw [Int.tdiv_eq_ediv_of_nonneg (by omega)]
      rfl
    have e2 : IntKind.i64.wrap ((a / Nat.gcd a b : Nat) : Int) = ((a / Nat.gcd a b : Nat) : Int) := by
      clear e
      generalize a / Nat.gcd a b = q at hle
      rw [IntWalk.i64_in _ (by omega)]
    rw [bin_quo _ _ _ _ (by omega),e,e2]
  have hm : IntKind.i64.wrap (((a / Nat.gcd a b : Nat) : Int) * (b : Int)) = ((lcmN a b : Nat) : Int) := by
    have hle : lcmN a b ≤ 1000 * 1000 := Nat.le_trans (zDZ ha.1 hb.1).2.2.2 (Nat.mul_le_mul ha.2 hb.2)
    rw [← Int.natCast_mul]
    show IntKind.i64.wrap ((lcmN a b : Nat) : Int) = _
    rw [IntWalk.i64_in _ (by omega)]
  refine Wo.run hc 4 rfl rfl rfl ?_
  simp (maxSteps := 2000000) only [List.drop_zero,List.drop_succ_cons,List.take_succ_cons,List.take_zero,zAY,zAU,zAT,sp_n,Nat.reduceLT,ne_eq,Nat.reduceEqDiff,not_false_eq_true,gd,zAX,rops,fx,bin_mul,Option.some.injEq,exists_eq_left',Nat.reduceAdd,hq,hm]
  refine Wo.done hc rfl (hK _ _ ?_)
  clear hK
  (repeat (first | refine Rn.seq hc ?_ | refine Rn.skip hc ?_ | refine Rn.block hc ?_ | refine Rn.inBlock hc ?_ | refine Rn.scope hc ?_ | refine Rn.inScope hc ?_))
  refine Rn.ret (zAN rfl ⟨?_,hx1⟩)
  simp only [zAU,sp_n,Nat.reduceLT]
theorem both_ref {A : AHeap} (hw : WF A) {x y : Las} (hox : x.ok A) (hoy : y.ok A) : Con Try.prog 71 [x.v,y.v] A (fun v A1 => v = .int .i64 (errs [x,y] [x,y]) ∧ Nx A.next A A1) := by
  refine zAJ hc Try.func71 rfl (Nat.le_of_ble_eq_true rfl) ?_
  obtain ⟨A1,e1,hx1,hn1,b0,b1,b2⟩ := box3 hw (.int .i64 x.m) (.slice x.sa x.st.length x.sc) (.slice x.ra x.ro.length x.rc) 24
  obtain ⟨A2,e2,hx2,hn2,c0,c1,c2⟩ := box3 hx1.wf (.int .i64 y.m) (.slice y.sa y.st.length y.sc) (.slice y.ra y.ro.length y.rc) 24
  have hx02 : Nx A.next A A2 := hx1.trans (hx2.le hx1.next)
  have b0 := (hx2.cl (show A.next < A1.next by omega) 0).trans b0
  have b1 := (hx2.cl (show A.next < A1.next by omega) 1).trans b1
  have b2 := (hx2.cl (show A.next < A1.next by omega) 2).trans b2
  rw [s_in2,errs_two]
  (repeat (first | refine Rn.seq hc ?_ | refine Rn.skip hc ?_ | refine Rn.block hc ?_ | refine Rn.inBlock hc ?_ | refine Rn.scope hc ?_ | refine Rn.inScope hc ?_))
  refine Rn.reg hc rfl ?_
  simp only [zAY,zAS,zAU,zAT,sp_n,Nat.reduceLT,ne_eq,Nat.reduceEqDiff,zNf,gd,zAX,rops,fx,zOi,zEl,Value.cells,show Try.f71.ntmps = 22 from rfl,Las.v,e1,e2]
  (repeat (first | refine Rn.seq hc ?_ | refine Rn.skip hc ?_ | refine Rn.block hc ?_ | refine Rn.inBlock hc ?_ | refine Rn.scope hc ?_ | refine Rn.inScope hc ?_))
  obtain ⟨o1,o2,o3,o4⟩ := hox.nx hx02
  refine Rn.region hc fun K hK => ?_
  refine Wo.run hc 1 rfl rfl rfl ?_
  simp (maxSteps := 2000000) only [List.drop_zero,List.take_succ_cons,List.take_zero,zAY,zAU,zAT,sp_n,Nat.reduceLT,ne_eq,Nat.reduceEqDiff,not_false_eq_true,gd,zAX,rops,fx,ld,zAR,cls,Nat.zero_add,Option.some.injEq,exists_eq_left',Nat.reduceAdd,tk24,b0,b1,b2]
  refine Wo.call hc (by rfl) (by rfl) ⟨by rfl,by rfl⟩ (xs := [.agg #[.int .i64 x.m,.slice x.sa x.st.length x.sc,.slice x.ra x.ro.length x.rc]]) (by rfl) (by rfl) (by rfl) (Con.mono (check_ref hx2.wf o1 o2 o3 o4) ?_)
  rintro w A3 ⟨rfl,hx3⟩
  refine Wo.run hc 1 rfl rfl rfl ?_
  simp (maxSteps := 2000000) only [List.drop_zero,List.drop_succ_cons,List.take_succ_cons,List.take_zero,zAY,zAU,sp_n,Nat.reduceLT,gd,zAX,rops,fx,Option.some.injEq,exists_eq_left',Nat.reduceAdd]
  refine Wo.done hc rfl (hK _ _ ?_)
  clear hK
  (repeat (first | refine Rn.seq hc ?_ | refine Rn.skip hc ?_ | refine Rn.block hc ?_ | refine Rn.inBlock hc ?_ | refine Rn.scope hc ?_ | refine Rn.inScope hc ?_))
  have hx03 : Nx A.next A A3 := hx02.trans (hx3.le hx02.next)
  have hex : x.err = errL x.m x.st x.ro := rfl
  have hey : y.err = errL y.m y.st y.ro := rfl
  by_cases h1 : errL x.m x.st x.ro = 0
  · have hd : (!decide (errL x.m x.st x.ro = 0)) = false := by rw [decide_eq_true h1]; rfl
    rw [if_neg (by rw [hex,h1]; simp)]
    refine Rn.reg hc rfl ?_
    simp only [zAY,zAS,zAU,sp_n,Nat.reduceLT,gd,zAX,rops,fx,zAD,zOi,zEl,hd]
    (repeat (first | refine Rn.seq hc ?_ | refine Rn.skip hc ?_ | refine Rn.block hc ?_ | refine Rn.inBlock hc ?_ | refine Rn.scope hc ?_ | refine Rn.inScope hc ?_))
    refine Rn.zAL hc rfl ?_
    simp only [zAY,zAU,sp_n,Nat.reduceLT,Value.bool.injEq,zEl]
    (repeat (first | refine Rn.seq hc ?_ | refine Rn.skip hc ?_ | refine Rn.block hc ?_ | refine Rn.inBlock hc ?_ | refine Rn.scope hc ?_ | refine Rn.inScope hc ?_))
    have c0' := (hx3.cl (show A1.next < A2.next by omega) 0).trans c0
    have c1' := (hx3.cl (show A1.next < A2.next by omega) 1).trans c1
    have c2' := (hx3.cl (show A1.next < A2.next by omega) 2).trans c2
    obtain ⟨p1,p2,p3,p4⟩ := hoy.nx hx03
    refine Rn.region hc fun K hK => ?_
    refine Wo.run hc 1 rfl rfl rfl ?_
    simp (maxSteps := 2000000) only [List.drop_zero,List.take_succ_cons,List.take_zero,zAY,zAU,zAT,sp_n,Nat.reduceLT,ne_eq,Nat.reduceEqDiff,not_false_eq_true,gd,zAX,rops,fx,ld,zAR,cls,Nat.zero_add,Option.some.injEq,exists_eq_left',Nat.reduceAdd,tk24,c0',c1',c2']
    refine Wo.call hc (by rfl) (by rfl) ⟨by rfl,by rfl⟩ (xs := [.agg #[.int .i64 y.m,.slice y.sa y.st.length y.sc,.slice y.ra y.ro.length y.rc]]) (by rfl) (by rfl) (by rfl) (Con.mono (check_ref hx3.wf p1 p2 p3 p4) ?_)
    rintro w A4 ⟨rfl,hx4⟩
    refine Wo.run hc 1 rfl rfl rfl ?_
    simp (maxSteps := 2000000) only [List.drop_zero,List.drop_succ_cons,List.take_succ_cons,List.take_zero,zAY,zAU,sp_n,Nat.reduceLT,gd,zAX,rops,fx,Option.some.injEq,exists_eq_left',Nat.reduceAdd]
    refine Wo.done hc rfl (hK _ _ ?_)
    clear hK
    (repeat (first | refine Rn.seq hc ?_ | refine Rn.skip hc ?_ | refine Rn.block hc ?_ | refine Rn.inBlock hc ?_ | refine Rn.scope hc ?_ | refine Rn.inScope hc ?_))
    have hx24 : Nx A2.next A2 A4 := hx3.trans (hx4.le hx3.next)
    have hx04 : Nx A.next A A4 := hx02.trans (hx24.le hx02.next)
    by_cases h2 : errL y.m y.st y.ro = 0
    · have hd2 : (!decide (errL y.m y.st y.ro = 0)) = false := by rw [decide_eq_true h2]; rfl
      rw [if_neg (by rw [hey,h2]; simp)]
      have b0' := (hx24.cl (show A.next < A2.next by omega) 0).trans b0
      have c0'' := (hx24.cl (show A1.next < A2.next by omega) 0).trans c0
      refine Rn.reg hc rfl ?_
      simp only [zAY,zAS,zAU,sp_n,Nat.reduceLT,gd,zAX,rops,fx,zAD,zOi,zEl,hd2]
      (repeat (first | refine Rn.seq hc ?_ | refine Rn.skip hc ?_ | refine Rn.block hc ?_ | refine Rn.inBlock hc ?_ | refine Rn.scope hc ?_ | refine Rn.inScope hc ?_))
      refine Rn.zAL hc rfl ?_
      simp only [zAY,zAU,sp_n,Nat.reduceLT,Value.bool.injEq,zEl]
      (repeat (first | refine Rn.seq hc ?_ | refine Rn.skip hc ?_ | refine Rn.block hc ?_ | refine Rn.inBlock hc ?_ | refine Rn.scope hc ?_ | refine Rn.inScope hc ?_))
      by_cases h3 : x.m = y.m
      · have hd3 : (!decide (x.m = y.m)) = false := by rw [decide_eq_true h3]; rfl
        refine Rn.reg hc rfl ?_
        simp only [zAY,zAU,zAT,sp_n,Nat.reduceLT,ne_eq,Nat.reduceEqDiff,zNf,gd,zAX,rops,fx,ld,fad,zAD,zAR,Nat.add_zero,zOi,zEl,tk3,zBO,b0',c0'',hd3]
        (repeat (first | refine Rn.seq hc ?_ | refine Rn.skip hc ?_ | refine Rn.block hc ?_ | refine Rn.inBlock hc ?_ | refine Rn.scope hc ?_ | refine Rn.inScope hc ?_))
        refine Rn.zAL hc rfl ?_
        simp only [zAY,zAU,sp_n,Nat.reduceLT,Value.bool.injEq,zEl]
        (repeat (first | refine Rn.seq hc ?_ | refine Rn.skip hc ?_ | refine Rn.block hc ?_ | refine Rn.inBlock hc ?_ | refine Rn.scope hc ?_ | refine Rn.inScope hc ?_))
        refine Rn.reg hc rfl ?_
        simp only [zAS,gd,zAX,rops,fx,zOi,zEl]
        (repeat (first | refine Rn.seq hc ?_ | refine Rn.skip hc ?_ | refine Rn.block hc ?_ | refine Rn.inBlock hc ?_ | refine Rn.scope hc ?_ | refine Rn.inScope hc ?_))
        refine Rn.ret (zAN rfl ⟨?_,hx04⟩)
        rw [if_pos h3]
        simp only [zAU,sp_n,Nat.reduceLT]
      · have hd3 : (!decide (x.m = y.m)) = true := by rw [decide_eq_false h3]; rfl
        refine Rn.reg hc rfl ?_
        simp only [zAY,zAU,zAT,sp_n,Nat.reduceLT,ne_eq,Nat.reduceEqDiff,zNf,gd,zAX,rops,fx,ld,fad,zAD,zAR,Nat.add_zero,zOi,zEl,tk3,zBO,b0',c0'',hd3]
        (repeat (first | refine Rn.seq hc ?_ | refine Rn.skip hc ?_ | refine Rn.block hc ?_ | refine Rn.inBlock hc ?_ | refine Rn.scope hc ?_ | refine Rn.inScope hc ?_))
        refine Rn.zAL hc rfl ?_
        simp only [zAY,zAU,sp_n,Nat.reduceLT,Value.bool.injEq,zEl]
        (repeat (first | refine Rn.seq hc ?_ | refine Rn.skip hc ?_ | refine Rn.block hc ?_ | refine Rn.inBlock hc ?_ | refine Rn.scope hc ?_ | refine Rn.inScope hc ?_))
        refine Rn.reg hc rfl ?_
        simp only [zAS,gd,zAX,rops,fx,zOi,zEl]
        (repeat (first | refine Rn.seq hc ?_ | refine Rn.skip hc ?_ | refine Rn.block hc ?_ | refine Rn.inBlock hc ?_ | refine Rn.scope hc ?_ | refine Rn.inScope hc ?_))
        refine Rn.ret (zAN rfl ⟨?_,hx04⟩)
        rw [if_neg h3]
        simp only [zAU,sp_n,Nat.reduceLT]
    · have hd2 : (!decide (errL y.m y.st y.ro = 0)) = true := by rw [decide_eq_false h2]; rfl
      rw [if_pos (show y.err ≠ 0 from h2)]
      refine Rn.reg hc rfl ?_
      simp only [zAY,zAS,zAU,sp_n,Nat.reduceLT,gd,zAX,rops,fx,zAD,zOi,zEl,hd2]
      (repeat (first | refine Rn.seq hc ?_ | refine Rn.skip hc ?_ | refine Rn.block hc ?_ | refine Rn.inBlock hc ?_ | refine Rn.scope hc ?_ | refine Rn.inScope hc ?_))
      refine Rn.zAL hc rfl ?_
      simp only [zAY,zAU,sp_n,Nat.reduceLT,Value.bool.injEq,zEl]
      (repeat (first | refine Rn.seq hc ?_ | refine Rn.skip hc ?_ | refine Rn.block hc ?_ | refine Rn.inBlock hc ?_ | refine Rn.scope hc ?_ | refine Rn.inScope hc ?_))
      refine Rn.reg hc rfl ?_
      simp only [zAY,zAU,zAT,sp_n,Nat.reduceLT,ne_eq,Nat.reduceEqDiff,zNf,gd,zAX,rops,fx,zOi,zEl]
      (repeat (first | refine Rn.seq hc ?_ | refine Rn.skip hc ?_ | refine Rn.block hc ?_ | refine Rn.inBlock hc ?_ | refine Rn.scope hc ?_ | refine Rn.inScope hc ?_))
      refine Rn.ret (zAN rfl ⟨?_,hx04⟩)
      simp only [zAU,sp_n,Nat.reduceLT]
      rfl
  · have hd : (!decide (errL x.m x.st x.ro = 0)) = true := by rw [decide_eq_false h1]; rfl
    rw [if_pos (show x.err ≠ 0 from h1)]
    refine Rn.reg hc rfl ?_
    simp only [zAY,zAS,zAU,sp_n,Nat.reduceLT,gd,zAX,rops,fx,zAD,zOi,zEl,hd]
    (repeat (first | refine Rn.seq hc ?_ | refine Rn.skip hc ?_ | refine Rn.block hc ?_ | refine Rn.inBlock hc ?_ | refine Rn.scope hc ?_ | refine Rn.inScope hc ?_))
    refine Rn.zAL hc rfl ?_
    simp only [zAY,zAU,sp_n,Nat.reduceLT,Value.bool.injEq,zEl]
    (repeat (first | refine Rn.seq hc ?_ | refine Rn.skip hc ?_ | refine Rn.block hc ?_ | refine Rn.inBlock hc ?_ | refine Rn.scope hc ?_ | refine Rn.inScope hc ?_))
    refine Rn.reg hc rfl ?_
    simp only [zAY,zAU,zAT,sp_n,Nat.reduceLT,ne_eq,Nat.reduceEqDiff,zNf,gd,zAX,rops,fx,zOi,zEl]
    (repeat (first | refine Rn.seq hc ?_ | refine Rn.skip hc ?_ | refine Rn.block hc ?_ | refine Rn.inBlock hc ?_ | refine Rn.scope hc ?_ | refine Rn.inScope hc ?_))
    refine Rn.ret (zAN rfl ⟨?_,hx03⟩)
    simp only [zAU,sp_n,Nat.reduceLT]
    rfl
end Go.Proofs.Ytdaljohmfnfgiaa
namespace Go.Proofs.Ytdaljohmfnfgiaa
open Go Go.RowKit Go.Proofs.Ytdaljohmfnfgiaa.Canon
set_option maxRecDepth 20000
theorem ints_uniq {A : AHeap} {a : Option Addr} {lo hi lo' hi' : Nat} {l l' : List Int} (h : Ints A a lo hi l) (h' : Ints A a lo' hi' l') (hl : l.length = l'.length) : l = l' := by
  refine List.ext_getElem hl fun i h1 h2 => ?_
  obtain ⟨b,o,rfl,_,_,q⟩ := h i h1
  obtain ⟨b',o',e,_,_,q'⟩ := h' i h2
  cases e
  rw [q] at q'
  simp [List.getD_eq_getElem?_getD,h1,h2] at q'
  exact q'
def atS : Canon.Spec := fun _ xs A v A1 => (∀ (m : Int) (sa : Option Addr) (st : List Int) (sc : Nat) (ra : Option Addr) (ro : List Int) (rc n : Nat),xs = [.agg #[.int .i64 m,.slice sa st.length sc,.slice ra ro.length rc],.int .i64 (n : Int)] → Ints A sa 0 A.next st → Ints A ra 0 A.next ro → v = .int .i64 (atL st ro n)) ∧ Nx A.next A A1
theorem at_ref_S {A : AHeap} (hw : WF A) {m : Int} {sa ra : Option Addr} {sc rc : Nat} {st ro : List Int} (hs : Ints A sa 0 A.next st) (hr : Ints A ra 0 A.next ro) (n : Nat) (hst : st.length < 4611686018427387904) (hro : 0 < ro.length) (hro2 : ro.length < 4611686018427387904) (hn : n < 9223372036854775808) :
    Con Try.prog 74 [.agg #[.int .i64 m,.slice sa st.length sc,.slice ra ro.length rc],.int .i64 (n : Int)] A (atS 74 [.agg #[.int .i64 m,.slice sa st.length sc,.slice ra ro.length rc],.int .i64 (n : Int)] A) := by
  refine Con.mono (at_ref hw hs hr n hst hro hro2 hn) fun v A1 h => ⟨fun m' sa' st' sc' ra' ro' rc' n' e h1 h2 => ?_,h.2⟩
  simp only [List.cons.injEq,Value.agg.injEq,Array.mk.injEq,Value.int.injEq,Value.slice.injEq,true_and,and_true] at e
  obtain ⟨⟨-,⟨rfl,e1,-⟩,rfl,e2,-⟩,e3⟩ := e
  have hn' : n = n' := by omega
  subst hn'
  rw [h.1,ints_uniq hs h1 e1,ints_uniq hr h2 e2]
end Go.Proofs.Ytdaljohmfnfgiaa
namespace Go.Proofs.Ytdaljohmfnfgiaa
open Go Go.RowKit Go.Proofs.Ytdaljohmfnfgiaa.Canon
set_option maxRecDepth 20000
def Wrt (A : AHeap) (a : Option Addr) (lo hi n : Nat) : Prop := 0 < n → ∃ b o c t f g e,a = some ⟨b,o,none⟩ ∧ (lo ≤ b ∧ b < hi) ∧ Canon.look A.objs b = some ⟨.cells c t f,g,e⟩ ∧ isRO g e = false ∧ o + n ≤ c.size
theorem Gr.wrt {A : AHeap} {a : Option Addr} {lo : Nat} {l : List Int} (h : Gr A a lo l) : Wrt A a lo A.next l.length := fun hpos => by
  obtain ⟨b,o,e,q2,q3,q4⟩ := h.ints (l.length - 1) (by omega)
  obtain ⟨y,h1,h2⟩ := h.wr _ e
  obtain ⟨ob,g,z⟩ := y
  obtain ⟨_,c,t,f,g',z',hlk,hc,_⟩ := AHeap.cell_eq q4
  simp only at hlk h1 h2
  rw [hlk] at h1
  cases h1
  have := (Array.getElem?_eq_some_iff.1 hc).1
  exact ⟨b,o,c,t,f,_,_,e,⟨q2,q3⟩,hlk,h2,by simp only at this; omega⟩
structure Szs (lo hi : Nat) (A B : AHeap) : Prop where
  next : B.next = A.next
  wf : WF B
  sz : ∀ b c t f g e,Canon.look A.objs b = some ⟨.cells c t f,g,e⟩ → ∃ c',c'.size = c.size ∧ Canon.look B.objs b = some ⟨.cells c' t f,g,e⟩
  keep : ∀ b,(b < lo ∨ hi ≤ b) → Canon.look B.objs b = Canon.look A.objs b
theorem Szs.refl {A : AHeap} (h : WF A) (lo hi : Nat) : Szs lo hi A A := ⟨rfl,h,fun b c t f g e q => ⟨c,rfl,q⟩,fun _ _ => rfl⟩
theorem Szs.trans {lo hi : Nat} {A B C : AHeap} (h : Szs lo hi A B) (k : Szs lo hi B C) : Szs lo hi A C := ⟨k.next.trans h.next,k.wf,fun b c t f g e q => by
  obtain ⟨c',e1,q1⟩ := h.sz b c t f g e q
  obtain ⟨c'',e2,q2⟩ := k.sz b c' t f g e q1
  exact ⟨c'',e2.trans e1,q2⟩,fun b hb => (k.keep b hb).trans (h.keep b hb)⟩
theorem Szs.of_upd {A B : AHeap} {b lo hi : Nat} {c c' : Array Value} {t : TypeId} {f : Nat × Nat} {g : Bool} {e : Nat} (hw : WF A) (hl : Canon.look A.objs b = some ⟨.cells c t f,g,e⟩) (hb : lo ≤ b ∧ b < hi) (h : Upd A b c' B) (hs : c'.size = c.size) : Szs lo hi A B :=
  ⟨h.next,(h.nx hw (Nat.zero_le _)).wf,fun b' c1 t1 f1 g1 e1 q => by
    by_cases hbb : b' = b
    · subst hbb
      obtain ⟨c2,t2,f2,g2,e2,r1,r2,_⟩ := h.at'
      rw [hl] at r1 q
      cases r1
      cases q
      exact ⟨c',hs,r2⟩
    · exact ⟨c1,rfl,(h.off _ hbb).trans q⟩,fun b' hb' => h.off _ (by omega)⟩
theorem Wrt.szs {A B : AHeap} {a : Option Addr} {lo hi n lo' hi' : Nat} (h : Wrt A a lo hi n) (k : Szs lo' hi' A B) : Wrt B a lo hi n := fun hpos => by
  obtain ⟨b,o,c,t,f,g,e,h1,h2,h3,h4,h5⟩ := h hpos
  obtain ⟨c',e1,q1⟩ := k.sz b c t f g e h3
  exact ⟨b,o,c',t,f,g,e,h1,h2,q1,h4,by omega⟩
theorem zeroCells_int (n : Nat) : ∃ l : List Value,(Builtin.zeroCells (Value.int .i64 0).cells n).toList = l ∧ l.length = n ∧ l.all zBY = true := by
  refine ⟨_,rfl,?_,?_⟩
  · simp [Builtin.zeroCells,Value.cells]
  · rw [List.all_eq_true]
    intro v hv
    simp [Builtin.zeroCells,Value.cells] at hv
    obtain ⟨i,hi,rfl⟩ := hv
    simp [zBY,Nat.mod_one]
theorem ae_clear {d : Option Tmp} {ty : TypeId} {pos : String} {af : Array Edge} {gu : Option (Nat × Bool)} {s : Slots} {x : Tmp} {A : AHeap} {a : Option Addr} {lo hi n c : Nat} (hw : WF A) (h : Wrt A a lo hi n) (hx : sget s x = .slice a n c) :
    ∃ B,zAE Try.prog (zBH s) ⟨d,.call ⟨.builtin .clear,#[.tmp x],#[22]⟩,ty,pos,af,gu⟩ A = some (.tuple #[],B) ∧ Szs lo hi A B := by
  obtain ⟨_,i,z,hinf,hz,hzz,_,_,_⟩ := elB_eq el22
  have hz' : z = .int .i64 0 := by
    have := ze3
    unfold zCB at this
    rw [hz,hinf] at this
    simp only [hzz] at this
    exact Option.some.inj this
  subst hz'
  have hun : zAE Try.prog (zBH s) ⟨d,.call ⟨.builtin .clear,#[.tmp x],#[22]⟩,ty,pos,af,gu⟩ A = arun Try.prog (Builtin.clear_ #[22] ty #[.slice a n c]) A := by
    simp only [zAE,Op.operands,Call.operands]
    simp [zBZ,zDS,zAY,hx,hz]
  rw [hun]
  cases n with
  | zero =>
    refine ⟨A,?_,Szs.refl hw _ _⟩
    cases a <;> simp [Builtin.clear_,Go.underlying]
  | succ k =>
    obtain ⟨b,o,cc,t,f,g,e,rfl,h2,h3,h4,h5⟩ := h (Nat.succ_pos k)
    obtain ⟨l,hl1,hl2,hl3⟩ := zeroCells_int (k + 1)
    obtain ⟨B,c',q1,q2,q3,_⟩ := sts_upd (l := l) (o := o) h3 h4 (by omega) hl3
    refine ⟨B,?_,Szs.of_upd hw h3 h2 q2 q3⟩
    have hst := sts_run (P := Try.prog) (b := b) (l := l) (o := o) (i := 0) (A := A) (A1 := B) q1
    simp [Builtin.clear_,Go.underlying,Go.zeroValue,Go.typeInfo,hinf,hzz,hl1,hst]
theorem Wo.clear {ops : Array Oper} {i : Nat} {s : Slots} {A : AHeap} {K : Slots → AHeap → Prop} {o : Oper} {x : Tmp} {a : Option Addr} {lo hi n c : Nat} (ho : nth ops.toList i = some o) (hop : o.op = .call ⟨.builtin .clear,#[.tmp x],#[22]⟩) (hwt : zCL (gd ops o) s = true) (hw : WF A) (hW : Wrt A a lo hi n) (hx : sget s x = .slice a n c)
    (h : ∀ B,Szs lo hi A B → Wo Try.prog ops (i + 1) (sput s o.dst (.tuple #[])) B K) : Wo Try.prog ops i s A K := by
  obtain ⟨d,op,ty,pos,af,gu⟩ := o
  simp only at hop
  subst hop
  obtain ⟨B,q1,q2⟩ := ae_clear (d := d) (ty := ty) (pos := pos) (af := af) (gu := gu) hw hW hx
  exact Wo.op hc bno_ok ho (.inr ⟨hwt,.inr ⟨(fun f args ats e => by cases e),q1⟩⟩) (h B q2)
end Go.Proofs.Ytdaljohmfnfgiaa
namespace Go.Proofs.Ytdaljohmfnfgiaa
open Go Go.RowKit Go.Proofs.Ytdaljohmfnfgiaa.Canon
theorem awake_runs : btells Try.prog (xquick Try.prog) (qregion Try.prog (xquick Try.prog)) 100000 16 1000 = true := by kernel_rfl
theorem awake_true (w : World) : Calls Try.prog 16 #[] w (fun e w' => e = .returned (.bool true) ∧ Below w.heap.size w w') := calls_of_btells hc hx xquick_ok (qregion_ok xquick_ok) awake_runs w
theorem awake_con (A : AHeap) : Con Try.prog 16 [] A (fun v A1 => v = .bool true ∧ A1 = A) := by
  refine ⟨.bool true,A,⟨⟨_,Try.func16,rfl⟩,fun N => ?_⟩,rfl,rfl⟩
  refine ret_of_calls (fun N φ w xs' hr hs hN => ?_) N
  have : xs' = #[] := Array.eq_empty_of_size_eq_zero hr.1.symm
  subst this
  refine (awake_true w).mono fun en w' hp => ?_
  obtain ⟨rfl,hb⟩ := hp
  exact ⟨φ,_,rfl,Phi.le_refl _,.bool _,hs.below hb,hb.os,hb.tape,hb.output,hb.size,fun k hk => hb.block k (hN k hk)⟩
end Go.Proofs.Ytdaljohmfnfgiaa
namespace Go.Proofs.Ytdaljohmfnfgiaa
section
open Go Go.RowKit Go.Proofs.Ytdaljohmfnfgiaa.Canon
def IntsW (W : World) (a : Option Addr) (l : List Int) : Prop := ∀ i,i < l.length → ∃ b o,a = some ⟨b,o,none⟩ ∧ W.cell? ⟨b,o + i,none⟩ = some (.int .i64 (l.getD i 0))
theorem cell_heap {W : World} {b o : Nat} {v : Value} (h : W.cell? ⟨b,o,none⟩ = some v) : ∃ c t f,W.heap[b]? = some (.cells c t f) ∧ c[o]? = some v := by
  unfold World.cell? at h
  cases hb : W.heap[b]? with
  | none => simp [hb] at h
  | some x =>
    cases x <;> simp [hb] at h
    exact ⟨_,_,_,rfl,h⟩
theorem IntsW.ints {W : World} {z : Nat} {A : AHeap} (hA : In W z A) {a : Option Addr} {l : List Int} (h : IntsW W a l) : Ints A a 0 A.next l := fun i hi => by
  obtain ⟨b,o,rfl,hc⟩ := h i hi
  obtain ⟨c,t,f,h1,h2⟩ := cell_heap hc
  have hlt : b < W.heap.size := (Array.getElem?_eq_some_iff.1 h1).1
  exact ⟨b,o,rfl,Nat.zero_le _,by rw [hA.next]; have := hA.big; omega,hA.cl h1 h2 rfl⟩
def blkOf : Option Addr → Nat
  | some a => a.block + 1
  | none => 0
theorem roV_slice {z : Nat} {a : Option Addr} {n c : Nat} (hs : ∀ x,a = some x → x.spot = none) (hb : blkOf a ≤ z) : roV z (.slice a n c) = true := by
  cases a with
  | none => rfl
  | some x =>
    obtain ⟨b,o,s⟩ := x
    have := hs _ rfl
    simp only at this
    subst this
    have hb : b + 1 ≤ z := hb
    show Nat.blt b z = true
    rw [Nat.blt_eq]
    omega
end
section
open Go.ChangeShapes Go.WideShapes Go.ChangeAt Go.RowKit Go.Proofs.Ytdaljohmfnfgiaa.Canon
open Go.Deep (open_slice_pairs open_slice)
theorem Try.own : ownKnob Try.prog.godebug = none := by kernel_rfl
theorem Try.laidOut : laidOutB Try.prog = true := by kernel_rfl
theorem Try.cells24 : Try.prog.cellsOf 24 = 3 := by kernel_rfl
theorem Try.cells3 : Try.prog.cellsOf 3 = 1 := by kernel_rfl
theorem Try.cells22 : Try.prog.cellsOf 22 = 1 := by kernel_rfl
theorem Try.types24 : Try.prog.cellTypes Try.prog.depth 24 = some [3,22,22] := by kernel_rfl
section
variable {H : Type} {enc : TypeId × Value → H} {P : Program}
theorem post_of_below {f : Func} {s : ChangeSpec} {apart fresh handsOn again : Bool} {W W' : World} {args : Array Value} {v : Value} {ds gs : List (DataW H)} {before pa pv : List MemPlace}
    (hW : DataW.Whole enc P f.params.toList s.vars apart W args.toList ds gs before)
    (hres : ∀ (b : Nat) (sp : Nat → Bool) (hd : Bool),DataW.TrodAll enc P W' b sp hd f.resultTypes.toList (v.resultList f.resultTypes.size) (s.fn H (ds ++ gs)).results [])
    (hargs : ∀ sp : Nat → Bool,(∀ p ∈ before,sp p.block = true) → DataW.TrodAll enc P W' 0 sp true f.params.toList args.toList (s.fn H (ds ++ gs)).args pa)
    (hvars : ∀ sp : Nat → Bool,(∀ p ∈ before,sp p.block = true) → DataW.TrodVars enc P W' sp s.vars (s.fn H (ds ++ gs)).vars pv)
    (hps : before = pa ++ pv) (hb : Below W.heap.size W W')
    (hok : ∀ (j : Nat) (t : TypeId) (r : Value),f.resultTypes[j]? = some t → (v.resultList f.resultTypes.size)[j]? = some r → Value.okWide P W' .any 0 t r) :
    s.post enc P f apart fresh handsOn again W args v W' := by
  have hlt : ∀ p ∈ before,p.block < W.heap.size := fun p hp => hW.lt p hp
  have hold : ∀ p ∈ before,(fun b => decide (b < W.heap.size)) p.block = true := fun p hp => by simpa using hlt p hp
  refine ⟨ds,gs,before,[],pa,pv,hW,hres _ _ _,hargs _ hold,hvars _ hold,World.keptBut_mono (fun p hp => ⟨hp,?_⟩) (hb.frame (· ∈ before)),fun _ => ?_⟩
  · rw [hps,List.mem_append] at hp
    exact Or.inr hp
  · obtain ⟨_,_,_,_,_,hz,hn⟩ := hW
    refine ⟨hok,_,_,([] ++ pa) ++ pv,⟨[] ++ pa,pv,trodAll_append (hargs _ (fun _ _ => rfl)) (hres _ _ _),hvars _ (fun _ _ => rfl),rfl,?_,?_⟩,?_⟩
    · intro b off hp
      have hin : MemPlace.cell b off ∈ before := by rw [hps]; simpa using hp
      rw [hb.frozen (hlt _ hin)]
      exact hz b off hin
    · intro ha
      have := hn ha
      rw [hps] at this
      simpa using this
    · intro p hp _
      rw [hps]
      simpa using hp
end
theorem cell_int {P : Program} {w : World} {b : Nat} {t : TypeId} (ht : P.underlying t = some (.int .i64)) {v : Value} (h : Cell.okWide P w .any b t v) : ∃ n,v = .int .i64 n := by
  unfold Cell.okWide at h
  rw [ht] at h
  cases v <;> simp [Cell.ok,ht] at h
  case int k n => obtain ⟨rfl,_⟩ := h; exact ⟨n,rfl⟩
theorem cell_slice {P : Program} {w : World} {b : Nat} {t e : TypeId} (ht : P.underlying t = some (.slice e)) {v : Value} (h : Cell.okWide P w .any b t v) : ∃ a n c,v = .slice a n c ∧ ∀ x,a = some x → x.spot = none := by
  unfold Cell.okWide at h
  rw [ht] at h
  cases v <;> simp [Cell.ok,ht] at h
  case slice a n c =>
    cases a with
    | none => exact ⟨none,n,c,rfl,fun x hx => by cases hx⟩
    | some a =>
      refine ⟨some a,n,c,rfl,fun x hx => ?_⟩
      cases hx
      simp only at h
      exact h.2.2.2.1
theorem agg_cells {P : Program} {w : World} {b : Nat} {t : TypeId} {fs : Array Field} (ht : P.underlying t = some (.struct fs)) {v : Value} (h : Value.okWide P w .any b t v) : ∃ cs,v = .agg cs ∧ cs.size = P.cellsOf t ∧ Row.okWide P w .any b t cs := by
  unfold Value.okWide at h
  rw [ht] at h
  exact h
theorem row_cells {P : Program} {w : World} {b : Nat} {t : TypeId} {cs : Array Value} {ts : List TypeId} (hts : P.cellTypes P.depth t = some ts) (h : Row.okWide P w .any b t cs) : ∀ (i : Nat) (v : Value),cs[i]? = some v → ∃ u,ts[i % ts.length]? = some u ∧ Cell.okWide P w .any b u v := by
  obtain ⟨ts',h1,_,h2⟩ := h
  rw [hts] at h1
  cases h1
  exact h2
set_option maxRecDepth 100000 in
theorem lasso_shape {w : World} {b : Nat} {v : Value} (h : Value.okWide Try.prog w .any b 24 v) :
    ∃ (m : Int) (sa : Option Addr) (sn sc : Nat) (ra : Option Addr) (rn rc : Nat),v = .agg #[.int .i64 m,.slice sa sn sc,.slice ra rn rc] ∧ (∀ a,sa = some a → a.spot = none) ∧ (∀ a,ra = some a → a.spot = none) := by
  obtain ⟨cs,rfl,hsz,hrow⟩ := agg_cells Try.underlying24 h
  have hall := row_cells Try.types24 hrow
  clear hrow
  rw [Try.cells24] at hsz
  obtain ⟨l⟩ := cs
  match l,hsz with
  | [a0,a1,a2],_ =>
    have g : ∀ (i : Nat) (v : Value) (u : TypeId),(#[a0,a1,a2] : Array Value)[i]? = some v → ([3,22,22] : List TypeId)[i % 3]? = some u → Cell.okWide Try.prog w .any b u v := fun i v u hv hu => by
      obtain ⟨u',h1,h2⟩ := hall i v hv
      have h1 : ([3,22,22] : List TypeId)[i % 3]? = some u' := h1
      rw [hu] at h1
      cases h1
      exact h2
    obtain ⟨k,rfl⟩ := cell_int Try.underlying3 (g 0 a0 3 rfl rfl)
    obtain ⟨sa,sn,sc,rfl,hk⟩ := cell_slice Try.underlying22 (g 1 a1 22 rfl rfl)
    obtain ⟨ra,rn,rc,rfl,hn⟩ := cell_slice Try.underlying22 (g 2 a2 22 rfl rfl)
    exact ⟨k,sa,sn,sc,ra,rn,rc,rfl,hk,hn⟩
set_option maxRecDepth 100000 in
theorem ints_trod {H : Type} {enc : TypeId × Value → H} {w : World} {base : Nat} {sp : Nat → Bool} {hd : Bool} {fuel : Nat} {a : Option Addr} {n c : Nat} {x : DataW H × List MemPlace}
    (h : DataW.trod enc Try.prog w base sp hd fuel 22 [.slice a n c] = some x) (hsp : ∀ y,a = some y → y.spot = none) : ∃ l : List Int,l.length = n ∧ IntsW w a l := by
  rcases open_ints Try.underlying22 Try.underlying3 Try.cells3 h with ⟨h1,_⟩ | ⟨a1,len,cap,zs,h1,_,hlc,_,hz,_,hc,_⟩
  · simp only [List.cons.injEq,Value.slice.injEq,and_true] at h1
    obtain ⟨rfl,rfl,rfl⟩ := h1
    exact ⟨[],rfl,fun i hi => by simp at hi⟩
  · simp only [List.cons.injEq,Value.slice.injEq,and_true] at h1
    obtain ⟨rfl,rfl,rfl⟩ := h1
    have hle : n ≤ zs.length := by rw [hz]; split <;> omega
    refine ⟨zs.take n,by simp; omega,fun i hi => ?_⟩
    have hin : i < n := by simp at hi; omega
    obtain ⟨B,O,s⟩ := a1
    have := hsp _ rfl
    simp only at this
    subst this
    have ad : (⟨B,O,none⟩ : Addr).add i = ⟨B,O + i,none⟩ := addr_add B O i
    refine ⟨B,O,rfl,?_⟩
    rw [← ad,hc i (by omega)]
    simp only [List.getD_eq_getElem?_getD,List.getElem?_take]
    rw [if_pos hin]
set_option maxRecDepth 100000 in
theorem lasso_ints {H : Type} {enc : TypeId × Value → H} {w : World} {base : Nat} {sp : Nat → Bool} {hd : Bool} {m : Int} {sa ra : Option Addr} {sn sc rn rc : Nat} {d : DataW H} {ps : List MemPlace}
    (h : DataW.Trod enc Try.prog w base sp hd 24 (.agg #[.int .i64 m,.slice sa sn sc,.slice ra rn rc]) d ps) (h1 : ∀ a,sa = some a → a.spot = none) (h2 : ∀ a,ra = some a → a.spot = none) : (∃ l : List Int,l.length = sn ∧ IntsW w sa l) ∧ ∃ l : List Int,l.length = rn ∧ IntsW w ra l := by
  obtain ⟨fuel,hf⟩ := h
  obtain ⟨xs,k,_,_,_,hlen,hfs⟩ := DataW.trod_struct Try.underlying24 hf
  have f1 := hfs 1 { name := "Stem",type := 22,offset := 1,embedded := false,tag := "",pkgPath := "",byteOffset := 8 } rfl
  have f2 := hfs 2 { name := "Round",type := 22,offset := 2,embedded := false,tag := "",pkgPath := "",byteOffset := 32 } rfl
  obtain ⟨y1,hy1⟩ : ∃ y,xs[1]? = some y := ⟨_,List.getElem?_eq_getElem (by rw [hlen]; decide)⟩
  obtain ⟨y2,hy2⟩ : ∃ y,xs[2]? = some y := ⟨_,List.getElem?_eq_getElem (by rw [hlen]; decide)⟩
  rw [hy1] at f1
  rw [hy2] at f2
  simp only [Try.cells22] at f1 f2
  exact ⟨ints_trod f1 h1,ints_trod f2 h2⟩
end
end Go.Proofs.Ytdaljohmfnfgiaa
namespace Go.Proofs.Ytdaljohmfnfgiaa
open Go Go.RowKit Go.Proofs.Ytdaljohmfnfgiaa.Canon
set_option maxRecDepth 20000
def Tw (x x' : Las) : Prop := x.m = x'.m ∧ x.st = x'.st ∧ x.ro = x'.ro
theorem errs_tw {x x' y y' : Las} (hx : Tw x x') (hy : Tw y y') : errs [x,y] [x,y] = errs [x',y'] [x',y'] := by
  rw [errs_two,errs_two]
  unfold Las.err
  rw [hx.1,hx.2.1,hx.2.2,hy.1,hy.2.1,hy.2.2]
def ownS : Canon.Spec := fun _ xs A v A1 => Nx A.next A A1 ∧ ∀ (m : Int) (sa : Option Addr) (st : List Int) (sc : Nat) (ra : Option Addr) (ro : List Int) (rc : Nat),xs = [.agg #[.int .i64 m,.slice sa st.length sc,.slice ra ro.length rc]] → Ints A sa 0 A.next st → Ints A ra 0 A.next ro →
  ∃ sa' sc' ra' rc',v = .agg #[.int .i64 m,.slice sa' st.length sc',.slice ra' ro.length rc'] ∧ st.length ≤ sc' ∧ ro.length ≤ rc' ∧ Ints A1 sa' 0 A1.next st ∧ Ints A1 ra' 0 A1.next ro ∧ Sl A1 sa' 0 ∧ Sl A1 ra' 0
theorem own_S {A : AHeap} (hw : WF A) {m : Int} {sa ra : Option Addr} {sc rc : Nat} {st ro : List Int} (hs : Ints A sa 0 A.next st) (hr : Ints A ra 0 A.next ro) (ls : st.length ≤ 1000) (lr : ro.length ≤ 1000) :
    Con Try.prog 17 [.agg #[.int .i64 m,.slice sa st.length sc,.slice ra ro.length rc]] A (ownS 17 [.agg #[.int .i64 m,.slice sa st.length sc,.slice ra ro.length rc]] A) := by
  refine Con.mono (own_lasso hw hs hr ls lr) fun v A1 ⟨xa,xc,ya,yc,e0,q1,q2,q3,q4,q5,q6,q7⟩ => ⟨q3,fun m' sa' st' sc' ra' ro' rc' e h1 h2 => ?_⟩
  simp only [List.cons.injEq,Value.agg.injEq,Array.mk.injEq,Value.int.injEq,Value.slice.injEq,true_and,and_true] at e
  obtain ⟨rfl,⟨rfl,e1,-⟩,rfl,e2,-⟩ := e
  have hst := ints_uniq hs h1 e1
  have hro := ints_uniq hr h2 e2
  subst hst hro
  exact ⟨xa,xc,ya,yc,e0,q1,q2,q4.mono (Nat.zero_le _) (Nat.le_refl _),q5.mono (Nat.zero_le _) (Nat.le_refl _),q6.mono (Nat.zero_le _),q7.mono (Nat.zero_le _)⟩
end Go.Proofs.Ytdaljohmfnfgiaa
namespace Go.Proofs.Ytdaljohmfnfgiaa
open Go Go.RowKit Go.Proofs.Ytdaljohmfnfgiaa.Canon
set_option maxRecDepth 20000
def TP (e m : Int) (s : Nat → Int) (mm : Int) (L1 L2 : List Int) (ee : Int) : Prop :=
  (e ≠ 0 ∧ mm = 0 ∧ L1 = [] ∧ L2 = [] ∧ ee = e) ∨
  (e = 0 ∧ ∃ a p,Red s a p ∧ (((120 < p ∨ 60 < a) ∧ mm = 0 ∧ L1 = [] ∧ L2 = [] ∧ ee = 11) ∨ (¬ (120 < p ∨ 60 < a) ∧ mm = m ∧ L1 = redS s a ∧ L2 = redR s a p ∧ ee = 0)))
theorem TP.uniq {e m : Int} {s : Nat → Int} {mm mm' : Int} {L1 L2 L1' L2' : List Int} {ee ee' : Int} (h : TP e m s mm L1 L2 ee) (k : TP e m s mm' L1' L2' ee') : mm = mm' ∧ L1 = L1' ∧ L2 = L2' ∧ ee = ee' := by
  rcases h with ⟨h0,rfl,rfl,rfl,rfl⟩ | ⟨h0,a,p,hr,h⟩
  · rcases k with ⟨_,rfl,rfl,rfl,rfl⟩ | ⟨k0,_⟩
    · exact ⟨rfl,rfl,rfl,rfl⟩
    · exact absurd k0 h0
  · rcases k with ⟨k0,_⟩ | ⟨_,a',p',kr,k⟩
    · exact absurd h0 k0
    · obtain ⟨rfl,rfl⟩ := hr.uniq kr
      rcases h with ⟨h1,rfl,rfl,rfl,rfl⟩ | ⟨h1,rfl,rfl,rfl,rfl⟩
      · rcases k with ⟨_,rfl,rfl,rfl,rfl⟩ | ⟨k1,_⟩
        · exact ⟨rfl,rfl,rfl,rfl⟩
        · exact absurd h1 k1
      · rcases k with ⟨k1,_⟩ | ⟨_,rfl,rfl,rfl,rfl⟩
        · exact absurd k1 h1
        · exact ⟨rfl,rfl,rfl,rfl⟩
theorem TP.len {e m : Int} {s : Nat → Int} {mm : Int} {L1 L2 : List Int} {ee : Int} (h : TP e m s mm L1 L2 ee) : L1.length ≤ 60 ∧ L2.length ≤ 120 := by
  rcases h with ⟨_,_,rfl,rfl,_⟩ | ⟨_,a,p,_,⟨_,_,rfl,rfl,_⟩ | ⟨h1,_,rfl,rfl,_⟩⟩
  · simp
  · simp
  · rw [zAI,zAF]; omega
def Tld (A : AHeap) (e m : Int) (s : Nat → Int) (v : Value) (A1 : AHeap) : Prop :=
  Nx A.next A A1 ∧ ∃ mm L1 L2 ee p1 c1 p2 c2,TP e m s mm L1 L2 ee ∧ v = .tuple #[.agg #[.int .i64 mm,.slice p1 L1.length c1,.slice p2 L2.length c2],.int .i64 ee] ∧ Ints A1 p1 A.next A1.next L1 ∧ Ints A1 p2 A.next A1.next L2 ∧ Wrt A1 p1 A.next A1.next L1.length ∧ Wrt A1 p2 A.next A1.next L2.length ∧ Sl A1 p1 A.next ∧ Sl A1 p2 A.next ∧ L1.length ≤ c1 ∧ L2.length ≤ c2
def TldR (A : AHeap) (e m : Int) (s : Nat → Int) (v : Value) (A1 : AHeap) : Prop :=
  Nx A.next A A1 ∧ ∃ mm L1 L2 ee p1 c1 p2 c2,TP e m s mm L1 L2 ee ∧ v = .tuple #[.agg #[.int .i64 mm,.slice p1 L1.length c1,.slice p2 L2.length c2],.int .i64 ee] ∧ Ints A1 p1 A.next A1.next L1 ∧ Ints A1 p2 A.next A1.next L2
theorem ints_nil' (A : AHeap) (a : Option Addr) (lo hi : Nat) : Ints A a lo hi [] := fun i hi => by simp at hi
theorem tld_err {A A1 : AHeap} {e m : Int} {s : Nat → Int} (he : e ≠ 0) (hx1 : Nx A.next A A1) : Tld A e m s (.tuple #[.agg #[.int .i64 0,.slice none 0 0,.slice none 0 0],.int .i64 e]) A1 :=
  ⟨hx1,0,[],[],_,none,0,none,0,.inl ⟨he,rfl,rfl,rfl,rfl⟩,rfl,ints_nil' _ _ _ _,ints_nil' _ _ _ _,fun h0 => absurd h0 (by simp),fun h0 => absurd h0 (by simp),fun y hy => (by cases hy),fun y hy => (by cases hy),Nat.le_refl _,Nat.le_refl _⟩
theorem tldR_err {A A1 : AHeap} {e m : Int} {s : Nat → Int} (he : e ≠ 0) (hx1 : Nx A.next A A1) : TldR A e m s (.tuple #[.agg #[.int .i64 0,.slice none 0 0,.slice none 0 0],.int .i64 e]) A1 :=
  ⟨hx1,0,[],[],_,none,0,none,0,.inl ⟨he,rfl,rfl,rfl,rfl⟩,rfl,ints_nil' _ _ _ _,ints_nil' _ _ _ _⟩
theorem tld_q {A A1 : AHeap} {m : Int} {s : Nat → Int} {a p : Nat} {v : Value} (hr : Red s a p) (h : LeastQ A m s a p v A1) : Tld A 0 m s v A1 := by
  obtain ⟨hx1,hq⟩ := h
  refine ⟨hx1,?_⟩
  by_cases hl : 120 < p ∨ 60 < a
  · rw [if_pos hl] at hq
    exact ⟨0,[],[],11,none,0,none,0,.inr ⟨rfl,a,p,hr,.inl ⟨hl,rfl,rfl,rfl,rfl⟩⟩,hq,ints_nil' _ _ _ _,ints_nil' _ _ _ _,fun h0 => absurd h0 (by simp),fun h0 => absurd h0 (by simp),fun y hy => (by cases hy),fun y hy => (by cases hy),Nat.le_refl _,Nat.le_refl _⟩
  · rw [if_neg hl] at hq
    obtain ⟨xa,xr,rfl,g1,g2⟩ := hq
    exact ⟨m,_,_,0,xa,a,xr,p,.inr ⟨rfl,a,p,hr,.inr ⟨hl,rfl,rfl,rfl,rfl⟩⟩,by rw [zAI,zAF],g1.ints,g2.ints,g1.wrt,g2.wrt,g1.sl,g2.sl,by rw [zAI]; exact Nat.le_refl _,by rw [zAF]; exact Nat.le_refl _⟩
theorem tldR_q {A A1 : AHeap} {m : Int} {s : Nat → Int} {a p : Nat} {v : Value} (hr : Red s a p) (h : LeastR A m s a p v A1) : TldR A 0 m s v A1 := by
  obtain ⟨hx1,hq⟩ := h
  refine ⟨hx1,?_⟩
  by_cases hl : 120 < p ∨ 60 < a
  · rw [if_pos hl] at hq
    exact ⟨0,[],[],11,none,0,none,0,.inr ⟨rfl,a,p,hr,.inl ⟨hl,rfl,rfl,rfl,rfl⟩⟩,hq,ints_nil' _ _ _ _,ints_nil' _ _ _ _⟩
  · rw [if_neg hl] at hq
    obtain ⟨xa,xc,xr,xd,rfl,g1,g2⟩ := hq
    exact ⟨m,_,_,0,xa,xc,xr,xd,.inr ⟨rfl,a,p,hr,.inr ⟨hl,rfl,rfl,rfl,rfl⟩⟩,by rw [zAI,zAF],g1,g2⟩
theorem Tld.put {A B D : AHeap} {e m : Int} {s : Nat → Int} {mm : Int} {L1 L2 : List Int} {ee : Int} {p1 p2 : Option Addr} {c1 c2 lo b : Nat} (hlo : lo ≤ A.next) (hb : b < A.next) (hlb : lo ≤ b) (hT : TP e m s mm L1 L2 ee) (i1 : Ints B p1 A.next B.next L1) (i2 : Ints B p2 A.next B.next L2) (hn : D.next = B.next) (hoff : ∀ b',b' ≠ b → Canon.look D.objs b' = Canon.look B.objs b') :
    Ints D p1 A.next D.next L1 ∧ Ints D p2 A.next D.next L2 := by
  have h : ∀ b',A.next ≤ b' → Canon.look B.objs b' = none ∨ Canon.look D.objs b' = Canon.look B.objs b' := fun b' hb' => .inr (hoff _ (by omega))
  exact ⟨i1.ext h (Nat.le_of_eq hn.symm),i2.ext h (Nat.le_of_eq hn.symm)⟩
theorem Wrt.off {B D : AHeap} {a : Option Addr} {lo n b : Nat} (h : Wrt B a lo B.next n) (hn : D.next = B.next) (hb : b < lo) (hoff : ∀ b',b' ≠ b → Canon.look D.objs b' = Canon.look B.objs b') : Wrt D a lo D.next n := fun hpos => by
  obtain ⟨b',o,c,t,f,g,e,h1,h2,h3,h4,h5⟩ := h hpos
  exact ⟨b',o,c,t,f,g,e,h1,⟨h2.1,by rw [hn]; exact h2.2⟩,by rw [hoff _ (by omega)]; exact h3,h4,h5⟩
end Go.Proofs.Ytdaljohmfnfgiaa
namespace Go.Proofs.Ytdaljohmfnfgiaa
open Go Go.RowKit Go.Proofs.Ytdaljohmfnfgiaa.Canon
set_option maxRecDepth 20000
end Go.Proofs.Ytdaljohmfnfgiaa
namespace Go.Proofs.Ytdaljohmfnfgiaa
open Go Go.RowKit Go.Proofs.Ytdaljohmfnfgiaa.Canon
set_option maxRecDepth 20000
theorem Wrt.mono {A : AHeap} {a : Option Addr} {lo lo' hi n : Nat} (h : Wrt A a lo hi n) (hl : lo' ≤ lo) : Wrt A a lo' hi n := fun hpos => by
  obtain ⟨b,o,c,t,f,g,e,h1,h2,h3⟩ := h hpos
  exact ⟨b,o,c,t,f,g,e,h1,⟨Nat.le_trans hl h2.1,h2.2⟩,h3⟩
end Go.Proofs.Ytdaljohmfnfgiaa
namespace Go.Proofs.Ytdaljohmfnfgiaa
open Go Go.RowKit Go.Proofs.Ytdaljohmfnfgiaa.Canon
set_option maxRecDepth 20000
theorem Tld.fin {A A4 A5 : AHeap} {e m : Int} {s : Nat → Int} {w : Value} {b : Nat} (hx04 : Nx A.next A A4) (hb : A.next ≤ b) (hb4 : b < A4.next) (hl : Canon.look A4.objs b = some ⟨.cells #[.int .i64 0,.slice none 0 0,.slice none 0 0] 24,false,0⟩) (h : Tld A4 e m s w A5) :
    ∃ mm n1 n2 ee p1 c1 p2 c2,w = .tuple #[.agg #[.int .i64 mm,.slice p1 n1 c1,.slice p2 n2 c2],.int .i64 ee] ∧ ∃ D,sts A5 b 0 [.int .i64 mm,.slice p1 n1 c1,.slice p2 n2 c2] = some D ∧ cl D b 0 = some (.int .i64 mm) ∧ cl D b 1 = some (.slice p1 n1 c1) ∧ cl D b 2 = some (.slice p2 n2 c2) ∧ (∀ b',b' ≠ b → Canon.look D.objs b' = Canon.look A5.objs b') ∧ Tld A e m s (.tuple #[.agg #[.int .i64 mm,.slice p1 n1 c1,.slice p2 n2 c2],.int .i64 ee]) D := by
  obtain ⟨hx5,mm,L1,L2,ee,p1,c1,p2,c2,hT,rfl,i1,i2,w1,w2,s1,s2,k1,k2⟩ := h
  obtain ⟨D,q1,q2,q3,q4,g0,g1,g2⟩ := res_put hl hb4 hx5 (v0 := .int .i64 mm) (v1 := .slice p1 L1.length c1) (v2 := .slice p2 L2.length c2) rfl
  obtain ⟨j1,j2⟩ := Tld.put (c1 := c1) (c2 := c2) (D := D) hx04.next hb4 hb hT i1 i2 q2 q4
  refine ⟨mm,L1.length,L2.length,ee,p1,c1,p2,c2,rfl,D,q1,g0,g1,g2,q4,⟨by have := hx04.next; have := hx5.next; omega,q3,fun b' hb' => by rw [q4 _ (by omega),hx5.keep _ (by have := hx04.next; omega),hx04.keep _ hb']⟩,mm,L1,L2,ee,p1,c1,p2,c2,hT,rfl,j1.mono hx04.next (Nat.le_refl _),j2.mono hx04.next (Nat.le_refl _),(w1.off q2 hb4 q4).mono hx04.next,(w2.off q2 hb4 q4).mono hx04.next,(s1.ext fun b' hb' => .inr (q4 b' (by omega))).mono hx04.next,(s2.ext fun b' hb' => .inr (q4 b' (by omega))).mono hx04.next,k1,k2⟩
theorem TldR.fin {A A4 A5 : AHeap} {e m : Int} {s : Nat → Int} {w : Value} {b : Nat} (hx04 : Nx A.next A A4) (hb : A.next ≤ b) (hb4 : b < A4.next) (hl : Canon.look A4.objs b = some ⟨.cells #[.int .i64 0,.slice none 0 0,.slice none 0 0] 24,false,0⟩) (h : TldR A4 e m s w A5) :
    ∃ mm n1 n2 ee p1 c1 p2 c2,w = .tuple #[.agg #[.int .i64 mm,.slice p1 n1 c1,.slice p2 n2 c2],.int .i64 ee] ∧ ∃ D,sts A5 b 0 [.int .i64 mm,.slice p1 n1 c1,.slice p2 n2 c2] = some D ∧ cl D b 0 = some (.int .i64 mm) ∧ cl D b 1 = some (.slice p1 n1 c1) ∧ cl D b 2 = some (.slice p2 n2 c2) ∧ (∀ b',b' ≠ b → Canon.look D.objs b' = Canon.look A5.objs b') ∧ TldR A e m s (.tuple #[.agg #[.int .i64 mm,.slice p1 n1 c1,.slice p2 n2 c2],.int .i64 ee]) D := by
  obtain ⟨hx5,mm,L1,L2,ee,p1,c1,p2,c2,hT,rfl,i1,i2⟩ := h
  obtain ⟨D,q1,q2,q3,q4,g0,g1,g2⟩ := res_put hl hb4 hx5 (v0 := .int .i64 mm) (v1 := .slice p1 L1.length c1) (v2 := .slice p2 L2.length c2) rfl
  obtain ⟨j1,j2⟩ := Tld.put (c1 := c1) (c2 := c2) (D := D) hx04.next hb4 hb hT i1 i2 q2 q4
  refine ⟨mm,L1.length,L2.length,ee,p1,c1,p2,c2,rfl,D,q1,g0,g1,g2,q4,⟨by have := hx04.next; have := hx5.next; omega,q3,fun b' hb' => by rw [q4 _ (by omega),hx5.keep _ (by have := hx04.next; omega),hx04.keep _ hb']⟩,mm,L1,L2,ee,p1,c1,p2,c2,hT,rfl,j1.mono hx04.next (Nat.le_refl _),j2.mono hx04.next (Nat.le_refl _)⟩
theorem err_fin {A A4 : AHeap} {b : Nat} (hx04 : Nx A.next A A4) (hb : A.next ≤ b) (hb4 : b < A4.next) (hl : Canon.look A4.objs b = some ⟨.cells #[.int .i64 0,.slice none 0 0,.slice none 0 0] 24,false,0⟩) :
    ∃ D,sts A4 b 0 [.int .i64 0,.slice none 0 0,.slice none 0 0] = some D ∧ cl D b 0 = some (.int .i64 0) ∧ cl D b 1 = some (.slice none 0 0) ∧ cl D b 2 = some (.slice none 0 0) ∧ Nx A.next A D := by
  obtain ⟨D,q1,q2,q3,q4,g0,g1,g2⟩ := res_put hl hb4 (Nx.refl hx04.wf A4.next) (v0 := .int .i64 0) (v1 := .slice none 0 0) (v2 := .slice none 0 0) rfl
  exact ⟨D,q1,g0,g1,g2,⟨by have := hx04.next; omega,q3,fun b' hb' => by rw [q4 _ (by omega),hx04.keep _ hb']⟩⟩
theorem mxd_nat (a b : Nat) : max (a : Int) (b : Int) = ((max a b : Nat) : Int) := by omega
end Go.Proofs.Ytdaljohmfnfgiaa
namespace Go.Proofs.Ytdaljohmfnfgiaa
open Go Go.RowKit Go.Proofs.Ytdaljohmfnfgiaa.Canon
set_option maxRecDepth 20000
end Go.Proofs.Ytdaljohmfnfgiaa
namespace Go.Proofs.Ytdaljohmfnfgiaa
open Go Go.RowKit Go.Proofs.Ytdaljohmfnfgiaa.Canon
set_option maxRecDepth 20000
end Go.Proofs.Ytdaljohmfnfgiaa
namespace Go.Proofs.Ytdaljohmfnfgiaa
open Go Go.RowKit Go.Proofs.Ytdaljohmfnfgiaa.Canon
set_option maxRecDepth 20000
theorem redS_snoc (E : Nat → Int) (i : Nat) : redS E i ++ [E i] = redS E (i + 1) := by simp [redS,List.range_succ]
theorem redR_snoc (E : Nat → Int) (a i : Nat) : redR E a i ++ [E (a + i)] = redR E a (i + 1) := by simp [redR,List.range_succ]
end Go.Proofs.Ytdaljohmfnfgiaa
namespace Go.Proofs.Ytdaljohmfnfgiaa
open Go Go.RowKit Go.Proofs.Ytdaljohmfnfgiaa.Canon
set_option maxRecDepth 20000
end Go.Proofs.Ytdaljohmfnfgiaa
namespace Go.Proofs.Ytdaljohmfnfgiaa
open Go Go.RowKit Go.Proofs.Ytdaljohmfnfgiaa.Canon
set_option maxRecDepth 20000
def restOf : Code → Code
  | .seq _ b => b
  | c => c
def restN : Nat → Code → Code
  | 0,c => c
  | n + 1,c => restN n (restOf c)
theorem fbal24 {ρ : Operand → Value} {d : Option Tmp} {ty : TypeId} {pos : String} {af : Array Edge} {gu : Option (Nat × Bool)} : fobj Try.prog ρ ⟨d,.alloc 24,ty,pos,af,gu⟩ = some ⟨[.int .i64 0,.slice none 0 0,.slice none 0 0],24,.ptr⟩ := by
  simp only [fobj,ze24]
  rfl
theorem place_al {A : AHeap} (hw : WF A) {b : Nat} (hlt : b < A.next) (hn : Canon.look A.objs b = none) (c : List Value) (t : TypeId) :
    ∃ B,place b ⟨c,t,.ptr⟩ A = some (.pointer (some ⟨b,0,none⟩),B) ∧ WF B ∧ B.next = A.next ∧ Canon.look B.objs b = some ⟨.cells ⟨c⟩ t,false,0⟩ ∧ ∀ b',b' ≠ b → Canon.look B.objs b' = Canon.look A.objs b' := by
  have hp : place b ⟨c,t,.ptr⟩ A = some (.pointer (some ⟨b,0,none⟩),⟨A.next,zDW b ⟨.cells ⟨c⟩ t,false,0⟩ A.objs⟩) := by
    unfold place
    simp only [FK.isNo,hn]
    rfl
  have hx := (Nx.refl hw 0).cons (Nat.zero_le b) hlt ⟨.cells ⟨c⟩ t,false,0⟩
  exact ⟨_,hp,hx.wf,rfl,zDY _ _ _,fun b' hb' => zCQ hb'⟩
structure Has (B : AHeap) (b : Nat) (x : Las) : Prop where
  c0 : cl B b 0 = some (.int .i64 x.m)
  c1 : cl B b 1 = some (.slice x.sa x.st.length x.sc)
  c2 : cl B b 2 = some (.slice x.ra x.ro.length x.rc)
  ok : x.ok B
  lt : b < B.next
  ls : x.st.length ≤ 70
  lr : x.ro.length ≤ 130
  cs : x.st.length ≤ x.sc
  cr : x.ro.length ≤ x.rc
  s1 : 0 < x.st.length → Sl B x.sa 0
  s2 : 0 < x.ro.length → Sl B x.ra 0
theorem Has.nx {B C : AHeap} {b : Nat} {x : Las} (h : Has B b x) (hw : WF B) (k : Nx B.next B C) : Has C b x :=
  { c0 := (k.cl h.lt 0).trans h.c0,c1 := (k.cl h.lt 1).trans h.c1,c2 := (k.cl h.lt 2).trans h.c2,ok := h.ok.nx k,lt := Nat.lt_of_lt_of_le h.lt k.next,ls := h.ls,lr := h.lr,cs := h.cs,cr := h.cr,s1 := fun q => (h.s1 q).nx hw k,s2 := fun q => (h.s2 q).nx hw k }
end Go.Proofs.Ytdaljohmfnfgiaa
namespace Go.Proofs.Ytdaljohmfnfgiaa
open Go Go.RowKit Go.Proofs.Ytdaljohmfnfgiaa.Canon
set_option maxRecDepth 20000
theorem same_true {A : AHeap} (hw : WF A) {x x' : Las} (hx : x.ok A) (hx' : x'.ok A) (t : Tw x' x) : Con Try.prog 26 [x'.v,x.v] A (fun v A1 => v = .bool true ∧ Nx A.next A A1) := by
  obtain ⟨a1,a2,a3,a4⟩ := hx
  obtain ⟨b1,b2,b3,b4⟩ := hx'
  refine Con.mono (same_lasso hw b1 b2 a1 a2 b3 b4 a3 a4) fun v A1 h => ⟨?_,h.2⟩
  rw [h.1,t.1,t.2.1,t.2.2]
  simp
end Go.Proofs.Ytdaljohmfnfgiaa
namespace Go.Proofs.Ytdaljohmfnfgiaa
open Go Go.RowKit Go.Proofs.Ytdaljohmfnfgiaa.Canon
set_option maxRecDepth 20000
def Arg (A : AHeap) (sa : Option Addr) (sn sc : Nat) (ra : Option Addr) (rn rc : Nat) : Prop := sn ≤ 70 → rn ≤ 130 → ∃ st ro : List Int,st.length = sn ∧ ro.length = rn ∧ Ints A sa 0 A.next st ∧ Ints A ra 0 A.next ro ∧ sn ≤ sc ∧ rn ≤ rc ∧ (0 < st.length → Sl A sa 0) ∧ (0 < ro.length → Sl A ra 0)
theorem sl_in {W : World} {z : Nat} {A : AHeap} (hA : In W z A) {a : Option Addr} {l : List Int} (h : Ints A a 0 A.next l) (hpos : 0 < l.length) : Sl A a 0 := fun x hx => by
  obtain ⟨b,o,e,_,_,hc⟩ := h 0 hpos
  rw [hx] at e
  cases e
  obtain ⟨_,c,t,f,g,zz,hlk,_,_⟩ := AHeap.cell_eq hc
  have hlk' : Canon.look A.objs b = some ⟨.cells c t f,g,zz⟩ := hlk
  have hl2 := hlk'
  rw [hA.look'] at hl2
  split at hl2
  · obtain ⟨c',t',f',_,e2⟩ := roOf_some hl2
    cases e2
    exact ⟨rfl,Nat.zero_le _,_,hlk',.inl rfl⟩
  · cases hl2
end Go.Proofs.Ytdaljohmfnfgiaa
namespace Go.Proofs.Ytdaljohmfnfgiaa
open Go Go.RowKit Go.Proofs.Ytdaljohmfnfgiaa.Canon
set_option maxRecDepth 20000
structure Off (lo hi : Nat) (A B : AHeap) : Prop where
  next : A.next ≤ B.next
  wf : WF B
  keep : ∀ b,b < A.next → (b < lo ∨ hi ≤ b) → Canon.look B.objs b = Canon.look A.objs b
theorem Wrt.stay {A B : AHeap} {a : Option Addr} {lo hi n : Nat} (h : Wrt A a lo hi n) (k : ∀ b,lo ≤ b → b < hi → Canon.look B.objs b = Canon.look A.objs b) : Wrt B a lo hi n := fun hpos => by
  obtain ⟨b,o,c,t,f,g,e,h1,h2,h3,h4,h5⟩ := h hpos
  exact ⟨b,o,c,t,f,g,e,h1,h2,by rw [k b h2.1 h2.2]; exact h3,h4,h5⟩
theorem spoil_off {A : AHeap} (hw : WF A) {m : Int} {sa ra : Option Addr} {sn sc rn rc lo hi : Nat} (hhi : hi ≤ A.next) (h1 : Wrt A sa lo hi sn) (h2 : Wrt A ra lo hi rn) (hrn : rn < 4611686018427387904) :
    Con Try.prog 27 [.agg #[.int .i64 m,.slice sa sn sc,.slice ra rn rc]] A (fun _ A1 => Off lo hi A A1) := by
  refine zAJ hc Try.func27 rfl (Nat.le_of_ble_eq_true rfl) ?_
  obtain ⟨A1,e1,hx1,hn1,b0,b1,b2⟩ := box3 hw (.int .i64 m) (.slice sa sn sc) (.slice ra rn rc) 24
  have k1 : Wrt A1 sa lo hi sn := fun hp => by
    obtain ⟨b,o,c,t,f,g,e,q1,q2,q3,q4,q5⟩ := h1 hp
    exact ⟨b,o,c,t,f,g,e,q1,q2,by rw [hx1.keep _ (hw _ _ q3)]; exact q3,q4,q5⟩
  have k2 : Wrt A1 ra lo hi rn := fun hp => by
    obtain ⟨b,o,c,t,f,g,e,q1,q2,q3,q4,q5⟩ := h2 hp
    exact ⟨b,o,c,t,f,g,e,q1,q2,by rw [hx1.keep _ (hw _ _ q3)]; exact q3,q4,q5⟩
  rw [s_in1]
  (repeat (first | refine Rn.seq hc ?_ | refine Rn.skip hc ?_ | refine Rn.block hc ?_ | refine Rn.inBlock hc ?_ | refine Rn.scope hc ?_ | refine Rn.inScope hc ?_))
  refine Rn.reg hc rfl ?_
  simp only [zAY,zAU,Nat.reduceLT,gd,zAX,rops,fx,zOi,zEl,Value.cells,show Try.f27.ntmps = 16 from rfl,e1]
  (repeat (first | refine Rn.seq hc ?_ | refine Rn.skip hc ?_ | refine Rn.block hc ?_ | refine Rn.inBlock hc ?_ | refine Rn.scope hc ?_ | refine Rn.inScope hc ?_))
  refine Rn.region hc fun K hK => ?_
  refine Wo.run hc 2 rfl rfl rfl ?_
  simp (maxSteps := 2000000) only [List.drop_zero,List.take_succ_cons,List.take_zero,zAY,zAU,sp_n,Nat.reduceLT,gd,zAX,rops,fx,ld,fad,zAR,Nat.zero_add,Option.some.injEq,exists_eq_left',tk22,zBQ,b1]
  refine Wo.clear (x := 4) (c := sc) (by rfl) (by rfl) (by rfl) hx1.wf k1 (by simp only [zAU,sp_n,Nat.reduceLT]) fun B hB => ?_
  refine Wo.done hc rfl (hK _ _ ?_)
  clear hK
  (repeat (first | refine Rn.seq hc ?_ | refine Rn.skip hc ?_ | refine Rn.block hc ?_ | refine Rn.inBlock hc ?_ | refine Rn.scope hc ?_ | refine Rn.inScope hc ?_))
  have c2 : cl B A.next 2 = some (.slice ra rn rc) := (zAB (hB.keep _ (.inr hhi))).trans b2
  refine Rn.reg hc rfl ?_
  simp only [zAY,zAS,zAU,zAT,sp_n,zAO,Nat.reduceLT,ne_eq,Nat.reduceEqDiff,zNf,gd,zAX,rops,fx,ld,fad,lng,zAR,Nat.zero_add,zOi,zEl,tk22,zBE,un22,c2]
  (repeat (first | refine Rn.seq hc ?_ | refine Rn.skip hc ?_ | refine Rn.block hc ?_ | refine Rn.inBlock hc ?_ | refine Rn.scope hc ?_ | refine Rn.inScope hc ?_))
  refine Rn.loopI hc (I := fun k s M => ∃ i,i ≤ rn ∧ k = rn - i ∧ Szs lo hi A1 M ∧ s.n = 16 ∧ sget s 1 = .pointer (some ⟨A.next,0,none⟩) ∧ sget s 7 = .int .i64 (rn : Int) ∧ sget s 8 = .int .i64 (i : Int))
    (n := rn) ⟨0,by omega,rfl,hB,by simp only [sp_n],by simp only [zAU,zAT,sp_n,Nat.reduceLT,ne_eq,Nat.reduceEqDiff,zNf],by simp only [zAU,zAT,sp_n,Nat.reduceLT,ne_eq,Nat.reduceEqDiff,zNf],by simp only [zAU,sp_n,Nat.reduceLT]; rfl⟩ ?_
  rintro k s M ⟨i,hil,rfl,hM,hn,s1,s7,s8⟩ ih
  have c2 : cl M A.next 2 = some (.slice ra rn rc) := (zAB (hM.keep _ (.inr hhi))).trans b2
  (repeat (first | refine Rn.seq hc ?_ | refine Rn.skip hc ?_ | refine Rn.block hc ?_ | refine Rn.inBlock hc ?_ | refine Rn.scope hc ?_ | refine Rn.inScope hc ?_))
  by_cases hlt : i < rn
  · have hd : decide ((i : Int) < (rn : Int)) = true := decide_eq_true (by omega)
    refine Rn.reg hc rfl ?_
    simp only [zAY,gd,zAX,rops,fx,zAK,zOi,zEl,s7,s8,hd]
    (repeat (first | refine Rn.seq hc ?_ | refine Rn.skip hc ?_ | refine Rn.block hc ?_ | refine Rn.inBlock hc ?_ | refine Rn.scope hc ?_ | refine Rn.inScope hc ?_))
    refine Rn.zAL hc rfl ?_
    simp only [zAY,zAU,Nat.reduceLT,Value.bool.injEq,zEl,hn]
    (repeat (first | refine Rn.seq hc ?_ | refine Rn.skip hc ?_ | refine Rn.block hc ?_ | refine Rn.inBlock hc ?_ | refine Rn.scope hc ?_ | refine Rn.inScope hc ?_))
    refine Rn.reg hc rfl ?_
    simp only [zAY,zAU,zAT,sp_n,Nat.reduceLT,ne_eq,Nat.reduceEqDiff,zNf,gd,zAX,rops,fx,zOi,zEl,hn,s8]
    (repeat (first | refine Rn.seq hc ?_ | refine Rn.skip hc ?_ | refine Rn.block hc ?_ | refine Rn.inBlock hc ?_ | refine Rn.scope hc ?_ | refine Rn.inScope hc ?_))
    obtain ⟨b,o,c,t,f,g,e,rfl,q2,q3,q4,q5⟩ := (k2.szs hM) (by omega)
    obtain ⟨M2,u1,u2⟩ := st1_upd (o := o + i) (v := .int .i64 (-7)) q3 q4 (by omega) rfl
    have hM2 := hM.trans (Szs.of_upd hM.wf q3 q2 u2 (by simp))
    refine Rn.reg hc rfl ?_
    simp only [zAY,zAS,zAU,zAT,sp_n,zAO,Nat.reduceLT,ne_eq,Nat.reduceEqDiff,zNf,gd,zAX,rops,fx,ld,str,fad,idx,zAR,Nat.zero_add,zOi,zEl,Nat.mul_one,tk3,tk22,zBE,eo22,hn,s1,c2,zAP hlt,u1]
    (repeat (first | refine Rn.seq hc ?_ | refine Rn.skip hc ?_ | refine Rn.block hc ?_ | refine Rn.inBlock hc ?_ | refine Rn.scope hc ?_ | refine Rn.inScope hc ?_))
    refine Rn.reg hc rfl ?_
    simp only [zAY,zAS,zAU,zAT,sp_n,Nat.reduceLT,ne_eq,Nat.reduceEqDiff,zNf,gd,zAX,rops,fx,zAC,zOi,zEl,hn,s8,zBW (show i < 9223372036854775807 by omega)]
    (repeat (first | refine Rn.seq hc ?_ | refine Rn.skip hc ?_ | refine Rn.block hc ?_ | refine Rn.inBlock hc ?_ | refine Rn.scope hc ?_ | refine Rn.inScope hc ?_))
    exact ih _ _ _ (by omega) ⟨i + 1,by omega,rfl,hM2,by simp only [sp_n,hn],by simp only [zAT,ne_eq,Nat.reduceEqDiff,zNf,s1],by simp only [zAT,ne_eq,Nat.reduceEqDiff,zNf,s7],by simp only [zAU,sp_n,Nat.reduceLT,hn]⟩
  · have hd : decide ((i : Int) < (rn : Int)) = false := decide_eq_false (by omega)
    clear ih
    refine Rn.reg hc rfl ?_
    simp only [zAY,gd,zAX,rops,fx,zAK,zOi,zEl,s7,s8,hd]
    (repeat (first | refine Rn.seq hc ?_ | refine Rn.skip hc ?_ | refine Rn.block hc ?_ | refine Rn.inBlock hc ?_ | refine Rn.scope hc ?_ | refine Rn.inScope hc ?_))
    refine Rn.zAL hc rfl ?_
    simp only [zAY,zAU,Nat.reduceLT,Value.bool.injEq,zEl,hn]
    (repeat (first | refine Rn.seq hc ?_ | refine Rn.skip hc ?_ | refine Rn.block hc ?_ | refine Rn.inBlock hc ?_ | refine Rn.scope hc ?_ | refine Rn.inScope hc ?_))
    refine Rn.exit hc rfl ?_
    (repeat (first | refine Rn.seq hc ?_ | refine Rn.skip hc ?_ | refine Rn.block hc ?_ | refine Rn.inBlock hc ?_ | refine Rn.scope hc ?_ | refine Rn.inScope hc ?_))
    refine Rn.fall (endQ_none rfl (.inl rfl) ⟨by have := hM.next; omega,hM.wf,fun b hb hb2 => ?_⟩)
    rw [hM.keep _ hb2]
    exact hx1.keep _ hb
structure Pr (lo hi : Nat) (D : AHeap) (b b' : Nat) (y y' : Las) : Prop where
  c0 : cl D b 0 = some (.int .i64 y.m)
  c1 : cl D b 1 = some (.slice y.sa y.st.length y.sc)
  c2 : cl D b 2 = some (.slice y.ra y.ro.length y.rc)
  d0 : cl D b' 0 = some (.int .i64 y'.m)
  d1 : cl D b' 1 = some (.slice y'.sa y'.st.length y'.sc)
  d2 : cl D b' 2 = some (.slice y'.ra y'.ro.length y'.rc)
  ok : y.ok D
  ok' : y'.ok D
  lt : b < D.next
  lt' : b' < D.next
  hb : hi ≤ b
  tw : Tw y y'
  w1 : Wrt D y.sa lo hi y.st.length
  w2 : Wrt D y.ra lo hi y.ro.length
theorem Pr.nx {lo hi : Nat} {D E : AHeap} {b b' : Nat} {y y' : Las} (h : Pr lo hi D b b' y y') (k : Nx D.next D E) : Pr lo hi E b b' y y' :=
  { c0 := (k.cl h.lt 0).trans h.c0,c1 := (k.cl h.lt 1).trans h.c1,c2 := (k.cl h.lt 2).trans h.c2,d0 := (k.cl h.lt' 0).trans h.d0,d1 := (k.cl h.lt' 1).trans h.d1,d2 := (k.cl h.lt' 2).trans h.d2,ok := h.ok.nx k,ok' := h.ok'.nx k,lt := Nat.lt_of_lt_of_le h.lt k.next,lt' := Nat.lt_of_lt_of_le h.lt' k.next,hb := h.hb,tw := h.tw,
    w1 := h.w1.stay fun b'' _ h2 => k.keep _ (by have := h.hb; have := h.lt; omega),w2 := h.w2.stay fun b'' _ h2 => k.keep _ (by have := h.hb; have := h.lt; omega) }
theorem pair_of {C D1 D2 D3 : AHeap} {e m : Int} {s : Nat → Int} {v' : Value} {mm ee : Int} {L1 L2 : List Int} {p1 p2 : Option Addr} {c1 c2 : Nat} (hD1 : Nx C.next C D1) (hT : TP e m s mm L1 L2 ee)
    (i1 : Ints D1 p1 C.next D1.next L1) (i2 : Ints D1 p2 C.next D1.next L2) (w1 : Wrt D1 p1 C.next D1.next L1.length) (w2 : Wrt D1 p2 C.next D1.next L2.length)
    (hx2 : Nx D1.next D1 D2) (hn2 : D2.next = D1.next + 1) (e0 : cl D2 D1.next 0 = some (.int .i64 mm)) (e1 : cl D2 D1.next 1 = some (.slice p1 L1.length c1)) (e2 : cl D2 D1.next 2 = some (.slice p2 L2.length c2))
    (hR : TldR D2 e m s v' D3) :
    ∃ p3 c3 p4 c4,v' = .tuple #[.agg #[.int .i64 mm,.slice p3 L1.length c3,.slice p4 L2.length c4],.int .i64 ee] ∧ Nx D2.next D2 D3 ∧
      ∀ D4,Nx D3.next D3 D4 → D4.next = D3.next + 1 → cl D4 D3.next 0 = some (.int .i64 mm) → cl D4 D3.next 1 = some (.slice p3 L1.length c3) → cl D4 D3.next 2 = some (.slice p4 L2.length c4) →
        Pr C.next D1.next D4 D1.next D3.next ⟨mm,p1,c1,L1,p2,c2,L2⟩ ⟨mm,p3,c3,L1,p4,c4,L2⟩ := by
  obtain ⟨hD3,mm',L1',L2',ee',p3,c3,p4,c4,hT',rfl,i3,i4⟩ := hR
  obtain ⟨rfl,rfl,rfl,rfl⟩ := hT.uniq hT'
  obtain ⟨hl1,hl2⟩ := hT.len
  refine ⟨p3,c3,p4,c4,rfl,hD3,fun D4 hx4 hn4 f0 f1 f2 => ?_⟩
  have h24 : Nx D2.next D2 D4 := hD3.trans (hx4.le hD3.next)
  have h14 : Nx D1.next D1 D4 := hx2.trans (h24.le hx2.next)
  have n1 := h24.next
  have n2 := hD3.next
  have n3 := hD1.next
  have n12 : D1.next < D2.next := by omega
  exact
    { c0 := (h24.cl n12 0).trans e0,c1 := (h24.cl n12 1).trans e1,c2 := (h24.cl n12 2).trans e2,d0 := f0,d1 := f1,d2 := f2,
      ok := ⟨(i1.nx h14 (Nat.le_refl _)).mono (Nat.zero_le _) h14.next,(i2.nx h14 (Nat.le_refl _)).mono (Nat.zero_le _) h14.next,show L1.length < _ by omega,show L2.length < _ by omega⟩,
      ok' := ⟨(i3.nx hx4 (Nat.le_refl _)).mono (Nat.zero_le _) hx4.next,(i4.nx hx4 (Nat.le_refl _)).mono (Nat.zero_le _) hx4.next,show L1.length < _ by omega,show L2.length < _ by omega⟩,
      lt := show D1.next < D4.next by omega,lt' := show D3.next < D4.next by omega,hb := Nat.le_refl _,tw := ⟨rfl,rfl,rfl⟩,
      w1 := w1.stay fun b _ h => h14.keep _ h,w2 := w2.stay fun b _ h => h14.keep _ h }
end Go.Proofs.Ytdaljohmfnfgiaa
namespace Go.Proofs.Ytdaljohmfnfgiaa
open Go Go.RowKit Go.Proofs.Ytdaljohmfnfgiaa.Canon
theorem lcmN_eq (a b : Nat) : lcmN a b = Nat.lcm a b := by
  unfold lcmN Nat.lcm
  rw [Nat.div_mul_right_comm (Nat.gcd_dvd_left a b)]
def lcmF (f : Nat → Nat) : Nat → Nat
  | 0 => 1
  | i + 1 => lcmN (lcmF f i) (f i)
def maxF (f : Nat → Nat) : Nat → Nat
  | 0 => 0
  | i + 1 => max (maxF f i) (f i)
theorem lcmF_pos {f : Nat → Nat} {k : Nat} (h : ∀ i,i < k → 0 < f i) : ∀ {i},i ≤ k → 0 < lcmF f i
  | 0,_ => Nat.one_pos
  | i + 1,hi => by
    rw [lcmF,lcmN_eq]
    exact Nat.lcm_pos (lcmF_pos h (by omega)) (h i (by omega))
theorem lcmF_dvd {f : Nat → Nat} : ∀ {i j : Nat},j < i → f j ∣ lcmF f i
  | 0,_,h => by omega
  | i + 1,j,h => by
    rw [lcmF,lcmN_eq]
    by_cases hj : j = i
    · subst hj; exact Nat.dvd_lcm_right _ _
    · exact Nat.dvd_trans (lcmF_dvd (by omega)) (Nat.dvd_lcm_left _ _)
theorem lcmF_least {f : Nat → Nat} {m : Nat} : ∀ {i : Nat},(∀ j,j < i → f j ∣ m) → lcmF f i ∣ m
  | 0,_ => Nat.one_dvd _
  | i + 1,h => by
    rw [lcmF,lcmN_eq]
    exact Nat.lcm_dvd (lcmF_least fun j hj => h j (by omega)) (h i (by omega))
theorem maxF_ge {f : Nat → Nat} : ∀ {i j : Nat},j < i → f j ≤ maxF f i
  | 0,_,h => by omega
  | i + 1,j,h => by
    rw [maxF]
    by_cases hj : j = i
    · subst hj; omega
    · have := maxF_ge (f := f) (i := i) (j := j) (by omega)
      omega
def wov (l : List Las) (n : Nat) : Int := (l.getD (n % l.length) zBG).s (n / l.length)
theorem wov_per {l : List Las} (h0 : 0 < l.length) {N p : Nat} (h : ∀ i,i < l.length → Per (l.getD i zBG).s N p) : Per (wov l) (N * l.length) (p * l.length) :=
  ⟨Nat.mul_pos (h 0 h0).pos h0,fun n hn => by
    have h1 : n % l.length < l.length := Nat.mod_lt _ h0
    have h2 : N ≤ n / l.length := (Nat.le_div_iff_mul_le h0).2 hn
    unfold wov
    rw [Nat.add_mul_mod_self_right,Nat.add_mul_div_right _ _ h0]
    exact (h _ h1).per _ h2⟩
def RedL (l : List Las) (fa fp : Nat → Nat) : Prop := ∀ i,i < l.length → Red (l.getD i zBG).s (fa i) (fp i) ∧ fa i ≤ (l.getD i zBG).st.length ∧ fp i ≤ (l.getD i zBG).ro.length
theorem RedL.pos {l : List Las} {fa fp : Nat → Nat} (h : RedL l fa fp) : ∀ i,i < l.length → 0 < fp i := fun i hi => (h i hi).1.per.pos
theorem RedL.per {l : List Las} {fa fp : Nat → Nat} (h : RedL l fa fp) {N : Nat} (h0 : 0 < l.length) (hN : maxF fa l.length ≤ N) : Per (wov l) (N * l.length) (lcmF fp l.length * l.length) :=
  wov_per h0 fun i hi => by
    have h1 := (h i hi).1.per.mono (Nat.le_trans (maxF_ge hi) hN)
    obtain ⟨q,hq⟩ := lcmF_dvd (f := fp) hi
    have hp := lcmF_pos h.pos (Nat.le_refl _)
    rw [hq] at hp ⊢
    rw [Nat.mul_comm]
    exact h1.mul (Nat.pos_of_ne_zero fun h0 => by subst h0; simp at hp)
theorem tw_err {x y : Las} (h : Tw x y) : x.err = y.err := by
  unfold Las.err
  rw [h.1,h.2.1,h.2.2]
theorem tw_s {x y : Las} (h : Tw x y) : x.s = y.s := by
  unfold Las.s
  rw [h.2.1,h.2.2]
end Go.Proofs.Ytdaljohmfnfgiaa
namespace Go.Proofs.Ytdaljohmfnfgiaa
open Go Go.RowKit Go.Proofs.Ytdaljohmfnfgiaa.Canon
set_option maxRecDepth 20000
theorem gcd_run {A : AHeap} (hw : WF A) {a b : Nat} (ha : a < 4611686018427387904) (hb : b < 4611686018427387904) : Con Try.prog 108 [.int .i64 (a : Int),.int .i64 (b : Int)] A (fun v A1 => v = .int .i64 (Nat.gcd a b : Nat) ∧ Nx A.next A A1) := by
  refine zAJ hc Try.func108 rfl (Nat.le_of_ble_eq_true rfl) ?_
  rw [s_in2]
  (repeat (first | refine Rn.seq hc ?_ | refine Rn.skip hc ?_ | refine Rn.block hc ?_ | refine Rn.inBlock hc ?_ | refine Rn.scope hc ?_ | refine Rn.inScope hc ?_))
  refine Rn.reg hc rfl ?_
  simp only [zAS,gd,zAX,rops,fx,zOi,zEl,show Try.f108.ntmps = 12 from rfl]
  (repeat (first | refine Rn.seq hc ?_ | refine Rn.skip hc ?_ | refine Rn.block hc ?_ | refine Rn.inBlock hc ?_ | refine Rn.scope hc ?_ | refine Rn.inScope hc ?_))
  refine Rn.loopI hc (I := fun k s A' => ∃ x y : Nat,k = y ∧ x < 4611686018427387904 ∧ y < 4611686018427387904 ∧ Nat.gcd x y = Nat.gcd a b ∧ Nx A.next A A' ∧ s.n = 12 ∧ sget s 0 = .int .i64 (x : Int) ∧ sget s 1 = .int .i64 (y : Int))
    (n := b) ⟨a,b,rfl,ha,hb,rfl,Nx.refl hw _,by simp only [sp_n],by simp only [zAU,zAT,Nat.reduceLT,ne_eq,Nat.reduceEqDiff,zNf],by simp only [zAU,zAT,sp_n,Nat.reduceLT,ne_eq,Nat.reduceEqDiff,zNf]⟩ ?_
  rintro k s A' ⟨x,y,hky,hx',hy',hg,hA,hn,s0,s1⟩ ih
  (repeat (first | refine Rn.seq hc ?_ | refine Rn.skip hc ?_ | refine Rn.block hc ?_ | refine Rn.inBlock hc ?_ | refine Rn.scope hc ?_ | refine Rn.inScope hc ?_))
  by_cases hy0 : y = 0
  · subst hy0
    clear ih
    rw [Nat.gcd_zero_right] at hg
    refine Rn.reg hc rfl ?_
    simp only [zAY,zAS,zAU,Nat.reduceLT,gd,zAX,rops,fx,zAD,zOi,zEl,Bool.not_true,Bool.not_true,hn,s1,Int.natCast_zero,eq_self,decide_true,Bool.not_true]
    (repeat (first | refine Rn.seq hc ?_ | refine Rn.skip hc ?_ | refine Rn.block hc ?_ | refine Rn.inBlock hc ?_ | refine Rn.scope hc ?_ | refine Rn.inScope hc ?_))
    refine Rn.zAL hc rfl ?_
    simp only [zAY,zAU,sp_n,Nat.reduceLT,Value.bool.injEq,zEl,hn]
    (repeat (first | refine Rn.seq hc ?_ | refine Rn.skip hc ?_ | refine Rn.block hc ?_ | refine Rn.inBlock hc ?_ | refine Rn.scope hc ?_ | refine Rn.inScope hc ?_))
    refine Rn.exit hc rfl ?_
    (repeat (first | refine Rn.seq hc ?_ | refine Rn.skip hc ?_ | refine Rn.block hc ?_ | refine Rn.inBlock hc ?_ | refine Rn.scope hc ?_ | refine Rn.inScope hc ?_))
    refine Rn.reg hc rfl ?_
    simp only [zAY,zAU,zAT,sp_n,Nat.reduceLT,ne_eq,Nat.reduceEqDiff,zNf,gd,zAX,rops,fx,zOi,zEl,hn,s0]
    (repeat (first | refine Rn.seq hc ?_ | refine Rn.skip hc ?_ | refine Rn.block hc ?_ | refine Rn.inBlock hc ?_ | refine Rn.scope hc ?_ | refine Rn.inScope hc ?_))
    refine Rn.ret (zAN rfl ⟨?_,hA⟩)
    simp only [zAU,sp_n,Nat.reduceLT,hn,hg]
  · have hd : (!decide ((y : Int) = 0)) = true := by rw [decide_eq_false (by omega)]; rfl
    have hrem : ∀ M,bin Try.prog .rem 3 (.int .i64 (x : Int)) (.int .i64 (y : Int)) M = some (.int .i64 ((x % y : Nat) : Int),M) := fun M => by
      rw [zBB _ _ _ _ (by omega),IntWalk.rem_in _ _ (by omega)]
      rfl
    have hlt := Nat.mod_lt x (Nat.pos_of_ne_zero hy0)
    refine Rn.reg hc rfl ?_
    simp only [zAY,zAS,zAU,Nat.reduceLT,gd,zAX,rops,fx,zAD,zOi,zEl,hn,s1,hd]
    (repeat (first | refine Rn.seq hc ?_ | refine Rn.skip hc ?_ | refine Rn.block hc ?_ | refine Rn.inBlock hc ?_ | refine Rn.scope hc ?_ | refine Rn.inScope hc ?_))
    refine Rn.zAL hc rfl ?_
    simp only [zAY,zAU,sp_n,Nat.reduceLT,Value.bool.injEq,zEl,hn]
    (repeat (first | refine Rn.seq hc ?_ | refine Rn.skip hc ?_ | refine Rn.block hc ?_ | refine Rn.inBlock hc ?_ | refine Rn.scope hc ?_ | refine Rn.inScope hc ?_))
    refine Rn.zDX hc hx (by kernel_rfl) (by rfl) (by kernel_rfl) ?_ ?_
    · simp only [rdV,VQ.int,zAY,zAU,zAT,sp_n,Nat.reduceLT,ne_eq,Nat.reduceEqDiff,zNf,gd,zAX,fx,Nat.zero_add,Nat.reduceAdd,and_self,hn,s0,s1,hrem,List.length_cons,List.length_nil]
    simp only [zAY,zAU,zAT,sp_n,Nat.reduceLT,ne_eq,Nat.reduceEqDiff,zNf,gd,zAX,rops,fx,Nat.zero_add,zOi,zEl,Nat.reduceAdd,hn,s0,s1,hrem,List.length_cons,List.length_nil]
    (repeat (first | refine Rn.seq hc ?_ | refine Rn.skip hc ?_ | refine Rn.block hc ?_ | refine Rn.inBlock hc ?_ | refine Rn.scope hc ?_ | refine Rn.inScope hc ?_))
    refine ih _ _ _ (by rw [hky]; exact hlt) ⟨y,x % y,rfl,hy',by omega,?_,Nx.bump hA _,by simp only [sp_n,hn],by simp only [zAU,zAT,sp_n,Nat.reduceLT,ne_eq,Nat.reduceEqDiff,zNf,hn],by simp only [zAU,sp_n,Nat.reduceLT,hn]⟩
    rw [← hg,Nat.gcd_comm x y,Nat.gcd_rec y x,Nat.gcd_comm]
theorem quo_nat {x d : Nat} (hd : 0 < d) (hx : x < 4611686018427387904) (M : AHeap) : bin Try.prog .quo 3 (.int .i64 (x : Int)) (.int .i64 (d : Int)) M = some (.int .i64 ((x / d : Nat) : Int),M) := by
  have hle := Nat.div_le_self x d
  have e : ((x : Int)).tdiv (d : Int) = ((x / d : Nat) : Int) := by
    rw [Int.tdiv_eq_ediv_of_nonneg (by omega)]
    rfl
  have e2 : IntKind.i64.wrap ((x / d : Nat) : Int) = ((x / d : Nat) : Int) := by
    clear e
    generalize x / d = q at hle
    rw [IntWalk.i64_in _ (by omega)]
  rw [bin_quo _ _ _ _ (by omega),e,e2]
theorem lcmN_le {a b : Nat} : lcmN a b ≤ a * b := Nat.mul_le_mul_right _ (Nat.div_le_self _ _)
theorem lcm_run {A : AHeap} (hw : WF A) {b n c : Nat} {g : Nat → Nat} (hb : ∀ i,i < n → cl A b i = some (.int .i64 (g i : Int))) (hbA : b < A.next) (hn1 : n < 1000) (hg : ∀ i,i < n → 0 < g i ∧ g i ≤ 100000 ∧ lcmF g i ≤ 100000) :
    Con Try.prog 82 [.slice (some ⟨b,0,none⟩) n c] A (fun v A1 => v = .int .i64 ((lcmF g n : Nat) : Int) ∧ Nx A.next A A1) := by
  refine zAJ hc Try.func82 rfl (Nat.le_of_ble_eq_true rfl) ?_
  rw [s_in1]
  (repeat (first | refine Rn.seq hc ?_ | refine Rn.skip hc ?_ | refine Rn.block hc ?_ | refine Rn.inBlock hc ?_ | refine Rn.scope hc ?_ | refine Rn.inScope hc ?_))
  refine Rn.reg hc rfl ?_
  simp only [zAS,gd,zAX,rops,fx,zOi,zEl,show Try.f82.ntmps = 21 from rfl]
  (repeat (first | refine Rn.seq hc ?_ | refine Rn.skip hc ?_ | refine Rn.block hc ?_ | refine Rn.inBlock hc ?_ | refine Rn.scope hc ?_ | refine Rn.inScope hc ?_))
  refine Rn.reg hc rfl ?_
  simp only [zAS,gd,zAX,rops,fx,zOi,zEl]
  (repeat (first | refine Rn.seq hc ?_ | refine Rn.skip hc ?_ | refine Rn.block hc ?_ | refine Rn.inBlock hc ?_ | refine Rn.scope hc ?_ | refine Rn.inScope hc ?_))
  refine Rn.reg hc rfl ?_
  simp only [zAY,zAS,zAU,zAT,sp_n,Nat.reduceLT,ne_eq,Nat.reduceEqDiff,zNf,gd,zAX,rops,fx,lng,zOi,zEl,un22]
  (repeat (first | refine Rn.seq hc ?_ | refine Rn.skip hc ?_ | refine Rn.block hc ?_ | refine Rn.inBlock hc ?_ | refine Rn.scope hc ?_ | refine Rn.inScope hc ?_))
  refine Rn.loopI hc (I := fun k s B => ∃ i,i ≤ n ∧ k = n - i ∧ Nx A.next A B ∧ s.n = 21 ∧ sget s 3 = .int .i64 ((lcmF g i : Nat) : Int) ∧ sget s 6 = .slice (some ⟨b,0,none⟩) n c ∧ sget s 7 = .int .i64 (n : Int) ∧ sget s 8 = .int .i64 (i : Int))
    (n := n) ⟨0,by omega,rfl,Nx.refl hw _,by simp only [sp_n],by simp only [zAU,zAT,sp_n,Nat.reduceLT,ne_eq,Nat.reduceEqDiff,zNf]; rfl,by simp only [zAU,zAT,sp_n,Nat.reduceLT,ne_eq,Nat.reduceEqDiff,zNf],by simp only [zAU,zAT,sp_n,Nat.reduceLT,ne_eq,Nat.reduceEqDiff,zNf],by simp only [zAU,sp_n,Nat.reduceLT]; rfl⟩ ?_
  rintro k s B ⟨i,hi,rfl,hA,hn,s3,s6,s7,s8⟩ ih
  (repeat (first | refine Rn.seq hc ?_ | refine Rn.skip hc ?_ | refine Rn.block hc ?_ | refine Rn.inBlock hc ?_ | refine Rn.scope hc ?_ | refine Rn.inScope hc ?_))
  by_cases hlt : i < n
  · have hd : decide ((i : Int) < (n : Int)) = true := decide_eq_true (by omega)
    obtain ⟨g0,g1,g2⟩ := hg i hlt
    have hp : 0 < lcmF g i := lcmF_pos (k := n) (fun j hj => (hg j hj).1) hi
    have hci : cl B b i = some (.int .i64 (g i : Int)) := (hA.cl hbA i).trans (hb i hlt)
    have hci' : cl B b (0 + i * 1) = some (.int .i64 (g i : Int)) := by rw [Nat.zero_add,Nat.mul_one]; exact hci
    refine Rn.reg hc rfl ?_
    simp only [zAY,gd,zAX,rops,fx,zAK,zOi,zEl,s7,s8,hd]
    (repeat (first | refine Rn.seq hc ?_ | refine Rn.skip hc ?_ | refine Rn.block hc ?_ | refine Rn.inBlock hc ?_ | refine Rn.scope hc ?_ | refine Rn.inScope hc ?_))
    refine Rn.zAL hc rfl ?_
    simp only [zAY,zAU,Nat.reduceLT,Value.bool.injEq,zEl,hn]
    (repeat (first | refine Rn.seq hc ?_ | refine Rn.skip hc ?_ | refine Rn.block hc ?_ | refine Rn.inBlock hc ?_ | refine Rn.scope hc ?_ | refine Rn.inScope hc ?_))
    refine Rn.reg hc rfl ?_
    simp only [zAY,zAU,zAT,sp_n,Nat.reduceLT,ne_eq,Nat.reduceEqDiff,zNf,gd,zAX,rops,fx,ld,idx,zAR,Nat.zero_add,zOi,zEl,Nat.mul_one,tk3,eo22,hn,s6,s8,zAP hlt,hci]
    (repeat (first | refine Rn.seq hc ?_ | refine Rn.skip hc ?_ | refine Rn.block hc ?_ | refine Rn.inBlock hc ?_ | refine Rn.scope hc ?_ | refine Rn.inScope hc ?_))
    refine Rn.region hc fun K hK => ?_
    refine Wo.run hc 3 rfl rfl rfl ?_
    simp (maxSteps := 2000000) only [List.drop_zero,List.take_succ_cons,List.take_zero,zAY,zAU,zAT,sp_n,Nat.reduceLT,ne_eq,Nat.reduceEqDiff,not_false_eq_true,gd,zAX,rops,fx,Nat.zero_add,Option.some.injEq,exists_eq_left',hn,s3]
    refine Wo.call hc (by rfl) (by rfl) ⟨by rfl,by rfl⟩ (xs := [.int .i64 ((lcmF g i : Nat) : Int),.int .i64 (g i : Int)]) (by rfl) (by rfl) (by simp only [zAY,zAU,zAT,sp_n,Nat.reduceLT,ne_eq,Nat.reduceEqDiff,zNf,List.map_cons,List.map_nil,List.nil_append,List.append_nil,hn]) (Con.mono (gcd_run hA.wf (by omega) (by omega)) ?_)
    rintro w B1 ⟨rfl,hx1⟩
    have hm : IntKind.i64.wrap (((lcmF g i / Nat.gcd (lcmF g i) (g i) : Nat) : Int) * (g i : Int)) = ((lcmF g (i + 1) : Nat) : Int) := by
      have hle : lcmF g (i + 1) ≤ 100000 * 100000 := Nat.le_trans lcmN_le (Nat.mul_le_mul g2 g1)
      rw [← Int.natCast_mul]
      show IntKind.i64.wrap ((lcmF g (i + 1) : Nat) : Int) = _
      rw [IntWalk.i64_in _ (by omega)]
    refine Wo.run hc 4 rfl rfl rfl ?_
    simp (maxSteps := 2000000) only [List.drop_zero,List.drop_succ_cons,List.take_succ_cons,List.take_zero,zAY,zAU,zAT,sp_n,Nat.reduceLT,ne_eq,Nat.reduceEqDiff,not_false_eq_true,gd,zAX,rops,fx,bin_mul,Option.some.injEq,exists_eq_left',Nat.reduceAdd,hn,quo_nat (Nat.gcd_pos_of_pos_left (g i) hp) (show lcmF g i < 4611686018427387904 by omega),hm]
    refine Wo.done hc rfl (hK _ _ ?_)
    clear hK
    (repeat (first | refine Rn.seq hc ?_ | refine Rn.skip hc ?_ | refine Rn.block hc ?_ | refine Rn.inBlock hc ?_ | refine Rn.scope hc ?_ | refine Rn.inScope hc ?_))
    refine Rn.reg hc rfl ?_
    simp only [zAY,zAS,zAU,zAT,sp_n,Nat.reduceLT,ne_eq,Nat.reduceEqDiff,zNf,gd,zAX,rops,fx,zAC,zOi,zEl,hn,s8,zBW (show i < 9223372036854775807 by omega)]
    (repeat (first | refine Rn.seq hc ?_ | refine Rn.skip hc ?_ | refine Rn.block hc ?_ | refine Rn.inBlock hc ?_ | refine Rn.scope hc ?_ | refine Rn.inScope hc ?_))
    exact ih _ _ _ (by omega) ⟨i + 1,by omega,rfl,hA.trans (hx1.le hA.next),by simp only [sp_n,hn],by simp only [zAU,zAT,sp_n,Nat.reduceLT,ne_eq,Nat.reduceEqDiff,zNf,hn],by simp only [zAT,ne_eq,Nat.reduceEqDiff,zNf,s6],by simp only [zAT,ne_eq,Nat.reduceEqDiff,zNf,s7],by simp only [zAU,sp_n,Nat.reduceLT,hn]⟩
  · have hd : decide ((i : Int) < (n : Int)) = false := decide_eq_false (by omega)
    have hil : i = n := by omega
    subst hil
    clear ih
    refine Rn.reg hc rfl ?_
    simp only [zAY,gd,zAX,rops,fx,zAK,zOi,zEl,s7,s8,hd]
    (repeat (first | refine Rn.seq hc ?_ | refine Rn.skip hc ?_ | refine Rn.block hc ?_ | refine Rn.inBlock hc ?_ | refine Rn.scope hc ?_ | refine Rn.inScope hc ?_))
    refine Rn.zAL hc rfl ?_
    simp only [zAY,zAU,Nat.reduceLT,Value.bool.injEq,zEl,hn]
    (repeat (first | refine Rn.seq hc ?_ | refine Rn.skip hc ?_ | refine Rn.block hc ?_ | refine Rn.inBlock hc ?_ | refine Rn.scope hc ?_ | refine Rn.inScope hc ?_))
    refine Rn.exit hc rfl ?_
    (repeat (first | refine Rn.seq hc ?_ | refine Rn.skip hc ?_ | refine Rn.block hc ?_ | refine Rn.inBlock hc ?_ | refine Rn.scope hc ?_ | refine Rn.inScope hc ?_))
    refine Rn.reg hc rfl ?_
    simp only [zAY,zAU,zAT,sp_n,Nat.reduceLT,ne_eq,Nat.reduceEqDiff,zNf,gd,zAX,rops,fx,zOi,zEl,hn,s3]
    (repeat (first | refine Rn.seq hc ?_ | refine Rn.skip hc ?_ | refine Rn.block hc ?_ | refine Rn.inBlock hc ?_ | refine Rn.scope hc ?_ | refine Rn.inScope hc ?_))
    refine Rn.ret (zAN rfl ⟨?_,hA⟩)
    simp only [zAU,sp_n,Nat.reduceLT,hn]
theorem lcmF_two (x y : Nat) : lcmF (fun i => if i = 0 then x else y) 2 = lcmN x y := by
  show lcmN (lcmN 1 x) y = _
  rw [lcmN_eq 1 x,Nat.lcm_one_left]
theorem lcm_two {A : AHeap} (hw : WF A) {b c x y : Nat} (h0 : cl A b 0 = some (.int .i64 (x : Int))) (h1 : cl A b 1 = some (.int .i64 (y : Int))) (hbA : b < A.next) (hx : 0 < x ∧ x ≤ 100000) (hy : 0 < y ∧ y ≤ 100000) :
    Con Try.prog 82 [.slice (some ⟨b,0,none⟩) 2 c] A (fun v A1 => v = .int .i64 ((lcmN x y : Nat) : Int) ∧ Nx A.next A A1) := by
  have h := lcm_run hw (b := b) (n := 2) (c := c) (g := fun i => if i = 0 then x else y) (fun i hi => by
    rcases (show i = 0 ∨ i = 1 by omega) with rfl | rfl
    · exact h0
    · exact h1) hbA (by omega) (fun i hi => by
    rcases (show i = 0 ∨ i = 1 by omega) with rfl | rfl
    · exact ⟨hx.1,hx.2,by show 1 ≤ 100000; omega⟩
    · refine ⟨hy.1,hy.2,?_⟩
      show lcmN 1 x ≤ 100000
      rw [lcmN_eq,Nat.lcm_one_left]
      exact hx.2)
  rw [lcmF_two] at h
  exact h
end Go.Proofs.Ytdaljohmfnfgiaa
namespace Go.Proofs.Ytdaljohmfnfgiaa
open Go Go.RowKit Go.Proofs.Ytdaljohmfnfgiaa.Canon
set_option maxRecDepth 20000
theorem so22_2 : sof Try.prog 22 2 = .mk (fun k => some (k * 1,1)) 2 [.int .i64 0,.int .i64 0] := by kernel_rfl
section
variable {ρ : Operand → Value} {d : Option Tmp} {ty : TypeId} {pos : String} {af : Array Edge} {gu : Option (Nat × Bool)} {A : AHeap}
theorem bs22_2 {x y : Tmp} (h1 : zBY (ρ (.tmp x)) = true) (h2 : zBY (ρ (.tmp y)) = true) : zAE Try.prog ρ ⟨d,.buildSlice 22 2 #[(0,.tmp x),(1,.tmp y)],ty,pos,af,gu⟩ A = some (.slice (some ⟨A.next,0,none⟩) 2 2,A.push (.cells #[ρ (.tmp x),ρ (.tmp y)] 3)) := by
  refine zDT (r := [ρ (.tmp x),ρ (.tmp y)]) (by rfl) so22_2 et22 rfl ?_
  simp [fbld,zBL h1,zBL h2]
end
structure Gr2 (A : AHeap) (wa wb : Option Addr) (lo : Nat) (L1 L2 : List Int) : Prop where
  g1 : Gr A wa lo L1
  g2 : ∃ M,lo ≤ M ∧ M ≤ A.next ∧ (∀ y,wa = some y → y.block < M) ∧ Gr A wb M L2
  nl : L2 = [] → wb = none
theorem Gr2.nil {A : AHeap} {lo : Nat} (h : lo ≤ A.next) : Gr2 A none none lo [] [] := ⟨Gr.nil _ _,⟨A.next,h,Nat.le_refl _,fun y hy => (by cases hy),Gr.nil _ _⟩,fun _ => rfl⟩
theorem Gr2.nx {A B : AHeap} {wa wb : Option Addr} {lo : Nat} {L1 L2 : List Int} (h : Gr2 A wa wb lo L1 L2) (hw : WF A) (k : Nx A.next A B) : Gr2 B wa wb lo L1 L2 := by
  obtain ⟨M,h1,h2,h3,h4⟩ := h.g2
  exact ⟨h.g1.nx (n := 0) hw k,⟨M,h1,Nat.le_trans h2 k.next,h3,h4.nx (n := 0) hw k⟩,h.nl⟩
theorem Gr2.snd {A : AHeap} {wa wb : Option Addr} {lo : Nat} {L1 L2 : List Int} (h : Gr2 A wa wb lo L1 L2) : Gr A wb lo L2 := by
  obtain ⟨M,h1,_,_,h4⟩ := h.g2
  exact h4.mono h1
theorem Gr2.pushB {A : AHeap} (hw : WF A) {wa wb : Option Addr} {lo : Nat} {L1 L2 : List Int} (h : Gr2 A wa wb lo L1 L2) {a2 : Option Addr} {c2 : Nat} {x : Int} {b2 : Nat} (ha2 : a2 = some ⟨b2,0,none⟩) (hx : cl A b2 0 = some (.int .i64 x)) (hlen : L2.length ≤ 4000000) :
    ∃ A1,aapp Try.prog #[22,22] #[.slice wb L2.length L2.length,.slice a2 1 c2] A = some (.slice (some ⟨A.next,0,none⟩) (L2.length + 1) (L2.length + 1),A1) ∧ A1.next = A.next + 1 ∧ WF A1 ∧ Gr2 A1 wa (some ⟨A.next,0,none⟩) lo L1 (L2 ++ [x]) ∧ Nx lo A A1 := by
  obtain ⟨M,h1,h2,h3,h4⟩ := h.g2
  obtain ⟨A1,q1,n1,w1,g1,_,k1⟩ := gr_push hw h4 ha2 hx hlen (c2 := c2)
  have hM : Nx M A A1 := k1.le (by omega)
  refine ⟨A1,q1,n1,w1,⟨?_,⟨M,h1,by omega,h3,g1.mono h2⟩,fun h0 => by simp at h0⟩,hM.le h1⟩
  refine ⟨fun i hi => ?_,fun y hy => ?_,fun y hy => ?_⟩
  · obtain ⟨b,o,e,p1,p2,p3⟩ := h.g1.ints i hi
    have hbM := h3 _ e
    exact ⟨b,o,e,p1,by omega,(hM.cl hbM _).trans p3⟩
  · obtain ⟨p1,p2,z,p3,p4⟩ := h.g1.sl y hy
    exact ⟨p1,p2,z,(hM.keep _ (h3 y hy)).trans p3,p4⟩
  · obtain ⟨z,p3,p4⟩ := h.g1.wr y hy
    exact ⟨z,(hM.keep _ (h3 y hy)).trans p3,p4⟩
end Go.Proofs.Ytdaljohmfnfgiaa
namespace Go.Proofs.Ytdaljohmfnfgiaa
open Go Go.RowKit Go.Proofs.Ytdaljohmfnfgiaa.Canon
set_option maxRecDepth 20000
theorem err_len {x : Las} (h : x.err = 0) : x.st.length ≤ 60 ∧ x.ro.length ≤ 120 ∧ 0 < x.ro.length := ⟨(errL_len h).1,(errL_len h).2,errL_pos h⟩
end Go.Proofs.Ytdaljohmfnfgiaa
namespace Go.Proofs.Ytdaljohmfnfgiaa
open Go Go.RowKit Go.Proofs.Ytdaljohmfnfgiaa.Canon
set_option maxRecDepth 20000
section
variable {d : Option Tmp} {ty : TypeId} {pos : String} {af : Array Edge} {gu : Option (Nat × Bool)} {A : AHeap}
end
theorem Gr2.ext {A B : AHeap} {wa wb : Option Addr} {lo : Nat} {L1 L2 : List Int} (h : Gr2 A wa wb lo L1 L2) (hn : A.next ≤ B.next) (he : ∀ b,lo ≤ b → Canon.look A.objs b = none ∨ Canon.look B.objs b = Canon.look A.objs b) : Gr2 B wa wb lo L1 L2 := by
  obtain ⟨M,h1,h2,h3,h4⟩ := h.g2
  exact ⟨h.g1.ext hn he,⟨M,h1,Nat.le_trans h2 hn,h3,h4.ext hn fun b hb => he b (Nat.le_trans h1 hb)⟩,h.nl⟩
theorem Gr2.pushA' {A : AHeap} (hw : WF A) {wa wb : Option Addr} {lo : Nat} {L1 : List Int} (h : Gr2 A wa wb lo L1 []) {a2 : Option Addr} {c2 : Nat} {x : Int} {b2 : Nat} (ha2 : a2 = some ⟨b2,0,none⟩) (hx : cl A b2 0 = some (.int .i64 x)) (hlen : L1.length ≤ 4000000) (hlo : lo ≤ A.next) :
    ∃ A1,aapp Try.prog #[22,22] #[.slice wa L1.length L1.length,.slice a2 1 c2] A = some (.slice (some ⟨A.next,0,none⟩) (L1.length + 1) (L1.length + 1),A1) ∧ A1.next = A.next + 1 ∧ WF A1 ∧ Gr2 A1 (some ⟨A.next,0,none⟩) wb lo (L1 ++ [x]) [] ∧ Nx lo A A1 ∧ (∀ b,b < A.next → (∀ y,wa = some y → y.block ≠ b) → Canon.look A1.objs b = Canon.look A.objs b) := by
  obtain ⟨A1,q1,n1,w1,g1,kp,k1⟩ := gr_push hw h.g1 ha2 hx hlen (c2 := c2)
  have hb := h.nl rfl
  subst hb
  refine ⟨A1,q1,n1,w1,⟨g1.mono hlo,⟨A1.next,by omega,Nat.le_refl _,fun y hy => ?_,Gr.nil _ _⟩,fun _ => rfl⟩,k1.le (by omega),kp⟩
  cases hy
  show A.next < A1.next
  omega
theorem Gr2.pushB' {A : AHeap} (hw : WF A) {wa wb : Option Addr} {lo : Nat} {L1 L2 : List Int} (h : Gr2 A wa wb lo L1 L2) {a2 : Option Addr} {c2 : Nat} {x : Int} {b2 : Nat} (ha2 : a2 = some ⟨b2,0,none⟩) (hx : cl A b2 0 = some (.int .i64 x)) (hlen : L2.length ≤ 4000000) :
    ∃ A1,aapp Try.prog #[22,22] #[.slice wb L2.length L2.length,.slice a2 1 c2] A = some (.slice (some ⟨A.next,0,none⟩) (L2.length + 1) (L2.length + 1),A1) ∧ A1.next = A.next + 1 ∧ WF A1 ∧ Gr2 A1 wa (some ⟨A.next,0,none⟩) lo L1 (L2 ++ [x]) ∧ Nx lo A A1 ∧ (∀ b,b < A.next → (∀ y,wb = some y → y.block ≠ b) → Canon.look A1.objs b = Canon.look A.objs b) := by
  obtain ⟨A1,q1,n1,w1,g1,k1⟩ := h.pushB hw ha2 hx hlen (c2 := c2)
  obtain ⟨M,h1,h2,h3,h4⟩ := h.g2
  obtain ⟨A2,q2,_,_,_,kp,_⟩ := gr_push hw h4 ha2 hx hlen (c2 := c2)
  rw [q1] at q2
  cases q2
  exact ⟨A1,q1,n1,w1,g1,k1,kp⟩
end Go.Proofs.Ytdaljohmfnfgiaa
namespace Go.Proofs.Ytdaljohmfnfgiaa
open Go Go.RowKit Go.Proofs.Ytdaljohmfnfgiaa.Canon
set_option maxRecDepth 20000
end Go.Proofs.Ytdaljohmfnfgiaa
namespace Go.Proofs.Ytdaljohmfnfgiaa
open Go Go.RowKit Go.Proofs.Ytdaljohmfnfgiaa.Canon
set_option maxRecDepth 20000
structure OwnE (A : AHeap) (lo : Nat) (x : Las) : Prop where
  i1 : Ints A x.sa lo A.next x.st
  i2 : Ints A x.ra lo A.next x.ro
  s1 : Sl A x.sa lo
  s2 : Sl A x.ra lo
  c1 : x.st.length ≤ x.sc
  c2 : x.ro.length ≤ x.rc
  l1 : x.st.length ≤ 200
  l2 : x.ro.length ≤ 200
theorem OwnE.mono {A : AHeap} {lo lo' : Nat} {x : Las} (h : OwnE A lo x) (hl : lo' ≤ lo) : OwnE A lo' x :=
  { i1 := h.i1.mono hl (Nat.le_refl _),i2 := h.i2.mono hl (Nat.le_refl _),s1 := h.s1.mono hl,s2 := h.s2.mono hl,c1 := h.c1,c2 := h.c2,l1 := h.l1,l2 := h.l2 }
end Go.Proofs.Ytdaljohmfnfgiaa
namespace Go.Proofs.Ytdaljohmfnfgiaa
section
open Go Go.RowKit Go.Proofs.Ytdaljohmfnfgiaa.Canon
end
section
open Go.ChangeShapes Go.WideShapes Go.ChangeAt Go.RowKit Go.Proofs.Ytdaljohmfnfgiaa.Canon
open Go.Deep (open_slice_pairs open_slice)
section
variable {H : Type} {enc : TypeId × Value → H} {P : Program} {w : World} {base : Nat} {spare : Nat → Bool} {held : Bool}
end
end
end Go.Proofs.Ytdaljohmfnfgiaa
namespace Go.Proofs.Ytdaljohmfnfgiaa
open Go Go.RowKit Go.Proofs.Ytdaljohmfnfgiaa.Canon
set_option maxRecDepth 20000
theorem atL_in {m : Int} {st ro : List Int} (h1 : st.all (inB m) = true) (h2 : ro.all (inB m) = true) (hro : 0 < ro.length) (n : Nat) : 0 ≤ atL st ro n ∧ atL st ro n < m := by
  have inB_getD : ∀ {l : List Int},l.all (inB m) = true → ∀ {i : Nat},i < l.length → 0 ≤ l.getD i 0 ∧ l.getD i 0 < m := fun {l} h {i} hi => by
    rw [List.all_eq_true] at h
    have := h l[i] (List.getElem_mem hi)
    simp only [inB,Bool.and_eq_true,decide_eq_true_eq] at this
    simpa [List.getD_eq_getElem?_getD,hi] using this
  unfold atL
  split
  · rename_i h; exact inB_getD h1 h
  · exact inB_getD h2 (Nat.mod_lt _ hro)
end Go.Proofs.Ytdaljohmfnfgiaa
namespace Go.Proofs.Ytdaljohmfnfgiaa
open Go Go.RowKit Go.Proofs.Ytdaljohmfnfgiaa.Canon
set_option maxRecDepth 20000
theorem Red.dvd {s : Nat → Int} {a p N d : Nat} (h : Red s a p) (k : Per s N d) : p ∣ d := by
  have h1 : Per s (max a N) p := h.per.mono (Nat.le_max_left _ _)
  have h2 : Per s (max a N) d := k.mono (Nat.le_max_right _ _)
  have h3 := h.minP _ _ (h1.gcd h2)
  have h4 : Nat.gcd p d ∣ p := Nat.gcd_dvd_left _ _
  have h5 : Nat.gcd p d = p := Nat.le_antisymm (Nat.le_of_dvd h.per.pos h4) h3
  rw [← h5]
  exact Nat.gcd_dvd_right _ _
theorem Red.low {s : Nat → Int} {a p N d : Nat} (h : Red s a p) (k : Per s N d) : a ≤ N := h.minA N (k.down h.per)
def evS (s : Nat → Int) (step j : Nat) : Nat → Int := fun n => s (j + n * step)
structure TakE (m : Int) (s : Nat → Int) (step j N d : Nat) (x : Las) : Prop where
  m : x.m = m
  red : ∃ a p,Red (evS s step j) a p ∧ a ≤ N ∧ p ≤ d ∧ x.st = redS (evS s step j) a ∧ x.ro = redR (evS s step j) a p
theorem TakE.s {m : Int} {s : Nat → Int} {step j N d : Nat} {x : Las} (h : TakE m s step j N d x) : x.s = evS s step j := by
  obtain ⟨a,p,hr,_,_,e1,e2⟩ := h.red
  unfold Las.s
  rw [e1,e2]
  exact atL_redF hr.per
end Go.Proofs.Ytdaljohmfnfgiaa
namespace Go.Proofs.Ytdaljohmfnfgiaa
open Go Go.RowKit Go.Proofs.Ytdaljohmfnfgiaa.Canon
set_option maxRecDepth 20000
theorem tk65 : tk Try.prog 65 = .one := by kernel_rfl
theorem tk123 : tk Try.prog 123 = .row 7 := by kernel_rfl
theorem fo119_0 : fof Try.prog 119 0 = some 0 := by kernel_rfl
theorem fo121_0 : fof Try.prog 121 0 = some 0 := by kernel_rfl
theorem fo123_0 : fof Try.prog 123 0 = some 0 := by kernel_rfl
theorem fo123_1 : fof Try.prog 123 1 = some 3 := by kernel_rfl
theorem fo123_2 : fof Try.prog 123 2 = some 6 := by kernel_rfl
theorem bo119 : bof Try.prog 119 = .mk (nthR [(0,3)]) 3 [.int .i64 0,.slice none 0 0,.slice none 0 0] := by kernel_rfl
theorem bo121 : bof Try.prog 121 = .mk (nthR [(0,3)]) 3 [.int .i64 0,.slice none 0 0,.slice none 0 0] := by kernel_rfl
theorem bo123 : bof Try.prog 123 = .mk (nthR [(0,3),(3,3),(6,1)]) 7 [.int .i64 0,.slice none 0 0,.slice none 0 0,.int .i64 0,.slice none 0 0,.slice none 0 0,.nilFunc] := by kernel_rfl
theorem arr3 {v : Array Value} (h : v.size = 3) : ∃ a b c,v.toList = [a,b,c] := by
  obtain ⟨l⟩ := v
  match l,h with
  | [a,b,c],_ => exact ⟨a,b,c,rfl⟩
section
variable {ρ : Operand → Value} {d : Option Tmp} {ty : TypeId} {pos : String} {af : Array Edge} {gu : Option (Nat × Bool)} {A : AHeap}
theorem bd119 {x : Tmp} (h : (ρ (.tmp x)).cells.size = 3) : zAE Try.prog ρ ⟨d,.build 119 #[(0,.tmp x)],ty,pos,af,gu⟩ A = some (.agg (ρ (.tmp x)).cells,A) := by
  refine ae_build (r := (ρ (.tmp x)).cells.toList) (by rfl) bo119 rfl ?_
  simp [fbld,nthR,h]
theorem bd121 {x : Tmp} (h : (ρ (.tmp x)).cells.size = 3) : zAE Try.prog ρ ⟨d,.build 121 #[(0,.tmp x)],ty,pos,af,gu⟩ A = some (.agg (ρ (.tmp x)).cells,A) := by
  refine ae_build (r := (ρ (.tmp x)).cells.toList) (by rfl) bo121 rfl ?_
  simp [fbld,nthR,h]
theorem bd123 {x y z : Tmp} (h1 : (ρ (.tmp x)).cells.size = 3) (h2 : (ρ (.tmp y)).cells.size = 3) (h3 : zBY (ρ (.tmp z)) = true) : zAE Try.prog ρ ⟨d,.build 123 #[(0,.tmp x),(1,.tmp y),(2,.tmp z)],ty,pos,af,gu⟩ A = some (.agg ⟨(ρ (.tmp x)).cells.toList ++ ((ρ (.tmp y)).cells.toList ++ [ρ (.tmp z)])⟩,A) := by
  refine ae_build (r := (ρ (.tmp x)).cells.toList ++ ((ρ (.tmp y)).cells.toList ++ [ρ (.tmp z)])) (by rfl) bo123 rfl ?_
  obtain ⟨a0,a1,a2,e1⟩ := arr3 h1
  obtain ⟨b0,b1,b2,e2⟩ := arr3 h2
  simp [fbld,nthR,h1,h2,zBL h3,e1,e2]
theorem ae_asl_lo {x y : Tmp} {t : TypeId} : zAE Try.prog ρ ⟨d,.slice t (.tmp x) (some (.tmp y)) none none,ty,pos,af,gu⟩ A = asl Try.prog t (ρ (.tmp x)) (some (ρ (.tmp y))) none none A := ae_asl (lo := some y) (hi := none) (mx := none)
end
theorem asl_hi0 {A : AHeap} {b N n : Nat} {y : AObj} (hy : Canon.look A.objs b = some y) (hg : y.grown = false) (hn : n ≤ N) : asl Try.prog 22 (.slice (some ⟨b,0,none⟩) N N) none (some (.int .i64 (n : Int))) none A = some (.slice (some ⟨b,0,none⟩) n N,A) := by
  obtain ⟨_,i,z,hinf,_,_,_,hsz,_⟩ := elB_eq el22
  have hb1 : zBN (some (.int .i64 (n : Int))) N = some n := by simp [zBN]
  have hb0 : ∀ d,zBN none d = some d := fun _ => rfl
  have t1 : Nat.ble 0 n = true := Nat.ble_eq_true_of_le (Nat.zero_le _)
  have t2 : Nat.ble n N = true := Nat.ble_eq_true_of_le hn
  have t3 : Nat.ble N N = true := Nat.ble_eq_true_of_le (Nat.le_refl _)
  obtain ⟨ob,g,zz⟩ := y
  simp only at hg
  subst hg
  simp only [asl,un22,hinf,hb0,hb1,t2,Option.isSome_none,Bool.not_false,Bool.true_or,Nat.sub_zero,hy]
  rw [t1,t3]
  by_cases h0 : N = 0
  · simp only [h0,if_pos]
  · simp only [h0,if_false,Nat.zero_mul]
    rfl
theorem asl_lo0 {A : AHeap} {b N n : Nat} {y : AObj} (hy : Canon.look A.objs b = some y) (hg : y.grown = false) (hn : n < N) : asl Try.prog 22 (.slice (some ⟨b,0,none⟩) N N) (some (.int .i64 (n : Int))) none none A = some (.slice (some ⟨b,n,none⟩) (N - n) (N - n),A) := by
  obtain ⟨_,i,z,hinf,_,_,_,hsz,_⟩ := elB_eq el22
  have hb1 : zBN (some (.int .i64 (n : Int))) 0 = some n := by simp [zBN]
  have hb0 : ∀ d,zBN none d = some d := fun _ => rfl
  have t2 : Nat.ble n N = true := Nat.ble_eq_true_of_le (by omega)
  have t3 : Nat.ble N N = true := Nat.ble_eq_true_of_le (Nat.le_refl _)
  have hne : ¬ N = n := by omega
  obtain ⟨ob,g,zz⟩ := y
  simp only at hg
  subst hg
  simp only [asl,un22,hinf,hb0,hb1,t2,Option.isSome_none,Bool.not_false,Bool.true_or,hy]
  rw [t3]
  simp only [hne,if_false,hsz,Nat.mul_one]
  simp [Addr.add]
  exact fun h => h.symm
noncomputable def mk2 (v w : Value) (A : AHeap) : Option (Value × AHeap) := zAE Try.prog (fun o => match o with
  | .tmp 0 => v
  | _ => w) ⟨none,.makeSlice 22 (.tmp 0) (.tmp 1),22, "",#[],none⟩ A
theorem ae_mk2 {s : Slots} {x y : Tmp} {d : Option Tmp} {ty : TypeId} {pos : String} {af : Array Edge} {gu : Option (Nat × Bool)} {A : AHeap} : zAE Try.prog (zBH s) ⟨d,.makeSlice 22 (.tmp x) (.tmp y),ty,pos,af,gu⟩ A = mk2 (sget s x) (sget s y) A := by
  simp [zAE,mk2,Op.operands,zBZ,zAY]
theorem mk2_nat {n : Nat} {A : AHeap} (h : n ≤ 1000000) : mk2 (.int .i64 (n : Int)) (.int .i64 (n : Int)) A = some (.slice (some ⟨A.next,0,none⟩) n n,A.push (.cells (Array.replicate n (.int .i64 0)) 3)) :=
  ae_makeSlice (k := .i64) (k' := .i64) ⟨by rfl,by rfl⟩ el22 ze3 rfl rfl rfl (Nat.le_refl _) (by omega) (by omega)
def nrm (n m : Int) : Int := (n.tmod m + m).tmod m
theorem tmod_lim (n : Int) {m : Int} (h : 0 < m) : -m < n.tmod m ∧ n.tmod m < m := by
  refine ⟨?_,Int.tmod_lt_of_pos _ h⟩
  have := Int.lt_tmod_of_pos n h
  omega
theorem nrm_lim (n : Int) {m : Int} (h : 0 < m) : 0 ≤ nrm n m ∧ nrm n m < m := by
  have := tmod_lim n h
  unfold nrm
  exact ⟨Int.tmod_nonneg _ (by omega),Int.tmod_lt_of_pos _ h⟩
theorem norm_run {A : AHeap} (hw : WF A) {n m : Int} (hm : 0 < m ∧ m ≤ 65521) : Con Try.prog 89 [.int .i64 n,.int .i64 m] A (fun v A1 => v = .int .i64 (nrm n m) ∧ Nx A.next A A1) := by
  refine zAJ hc Try.func89 rfl (Nat.le_of_ble_eq_true rfl) ?_
  have hl := tmod_lim n hm.1
  have hr : ∀ (x : Int) M,bin Try.prog .rem 3 (.int .i64 x) (.int .i64 m) M = some (.int .i64 (x.tmod m),M) := fun x M => zBB _ _ _ _ (by omega)
  have hw1 : IntKind.i64.wrap (n.tmod m + m) = n.tmod m + m := IntWalk.i64_in _ ⟨by omega,by omega⟩
  rw [s_in2]
  (repeat (first | refine Rn.seq hc ?_ | refine Rn.skip hc ?_ | refine Rn.block hc ?_ | refine Rn.inBlock hc ?_ | refine Rn.scope hc ?_ | refine Rn.inScope hc ?_))
  refine Rn.reg hc rfl ?_
  simp only [zAS,gd,zAX,rops,fx,zOi,zEl,show Try.f89.ntmps = 12 from rfl]
  (repeat (first | refine Rn.seq hc ?_ | refine Rn.skip hc ?_ | refine Rn.block hc ?_ | refine Rn.inBlock hc ?_ | refine Rn.scope hc ?_ | refine Rn.inScope hc ?_))
  refine Rn.reg hc rfl ?_
  simp only [zAY,zAU,zAT,sp_n,Nat.reduceLT,ne_eq,Nat.reduceEqDiff,zNf,gd,zAX,rops,fx,zAC,zOi,zEl,hr,hw1]
  (repeat (first | refine Rn.seq hc ?_ | refine Rn.skip hc ?_ | refine Rn.block hc ?_ | refine Rn.inBlock hc ?_ | refine Rn.scope hc ?_ | refine Rn.inScope hc ?_))
  refine Rn.ret (zAN rfl ⟨?_,Nx.refl hw _⟩)
  simp only [zAU,sp_n,Nat.reduceLT]
  rfl
theorem residue_ref {A : AHeap} (hw : WF A) {n m : Int} (hm : 0 < m ∧ m ≤ 65521) : Con Try.prog 90 [.int .i64 n,.int .i64 m] A (fun v A1 => v = .int .i64 (nrm n m) ∧ Nx A.next A A1) := by
  refine zAJ hc Try.func90 rfl (Nat.le_of_ble_eq_true rfl) ?_
  have hl := tmod_lim n hm.1
  have hr : ∀ (x : Int) M,bin Try.prog .rem 3 (.int .i64 x) (.int .i64 m) M = some (.int .i64 (x.tmod m),M) := fun x M => zBB _ _ _ _ (by omega)
  have hw1 : IntKind.i64.wrap (n.tmod m + m) = n.tmod m + m := IntWalk.i64_in _ ⟨by omega,by omega⟩
  rw [s_in2]
  (repeat (first | refine Rn.seq hc ?_ | refine Rn.skip hc ?_ | refine Rn.block hc ?_ | refine Rn.inBlock hc ?_ | refine Rn.scope hc ?_ | refine Rn.inScope hc ?_))
  refine Rn.reg hc rfl ?_
  simp only [zAS,gd,zAX,rops,fx,zOi,zEl,show Try.f90.ntmps = 12 from rfl]
  (repeat (first | refine Rn.seq hc ?_ | refine Rn.skip hc ?_ | refine Rn.block hc ?_ | refine Rn.inBlock hc ?_ | refine Rn.scope hc ?_ | refine Rn.inScope hc ?_))
  refine Rn.reg hc rfl ?_
  simp only [zAY,zAU,zAT,sp_n,Nat.reduceLT,ne_eq,Nat.reduceEqDiff,zNf,gd,zAX,rops,fx,zAC,zOi,zEl,hr,hw1]
  (repeat (first | refine Rn.seq hc ?_ | refine Rn.skip hc ?_ | refine Rn.block hc ?_ | refine Rn.inBlock hc ?_ | refine Rn.scope hc ?_ | refine Rn.inScope hc ?_))
  refine Rn.ret (zAN rfl ⟨?_,Nx.refl hw _⟩)
  simp only [zAU,sp_n,Nat.reduceLT]
  rfl
def PutC (g : FuncId) (ca : List Value) (A : AHeap) (f : Int → Int → Int) : Prop := ∀ B,Nx A.next A B → ∀ x y : Int,0 ≤ x → x < 65536 → 0 ≤ y → y < 65536 → Con Try.prog g (.int .i64 x :: .int .i64 y :: ca) B (fun v B1 => v = .int .i64 (f x y) ∧ Nx B.next B B1)
theorem PutC.nx {g : FuncId} {ca : List Value} {A B : AHeap} {f : Int → Int → Int} (h : PutC g ca A f) (k : Nx A.next A B) : PutC g ca B f := fun C hC => h C (k.trans (hC.le k.next))
theorem sum_put {A : AHeap} {b : Nat} {m : Int} (hb : cl A b 0 = some (.int .i64 m)) (hbA : b < A.next) (hm : 0 < m ∧ m ≤ 65521) : PutC 85 [.pointer (some ⟨b,0,none⟩)] A (fun x y => (x + y).tmod m) := fun B hB x y x0 x1 y0 y1 => by
  refine zAJ hc Try.func85 rfl (Nat.le_of_ble_eq_true rfl) ?_
  have hb := (hB.cl hbA 0).trans hb
  have hr : ∀ (x : Int) M,bin Try.prog .rem 3 (.int .i64 x) (.int .i64 m) M = some (.int .i64 (x.tmod m),M) := fun x M => zBB _ _ _ _ (by omega)
  have hw1 : IntKind.i64.wrap (x + y) = x + y := IntWalk.i64_in _ ⟨by omega,by omega⟩
  rw [s_in3]
  (repeat (first | refine Rn.seq hc ?_ | refine Rn.skip hc ?_ | refine Rn.block hc ?_ | refine Rn.inBlock hc ?_ | refine Rn.scope hc ?_ | refine Rn.inScope hc ?_))
  refine Rn.reg hc rfl ?_
  simp only [zAS,gd,zAX,rops,fx,zOi,zEl,show Try.f85.ntmps = 12 from rfl]
  (repeat (first | refine Rn.seq hc ?_ | refine Rn.skip hc ?_ | refine Rn.block hc ?_ | refine Rn.inBlock hc ?_ | refine Rn.scope hc ?_ | refine Rn.inScope hc ?_))
  refine Rn.reg hc rfl ?_
  simp only [zAY,zAU,zAT,sp_n,Nat.reduceLT,ne_eq,Nat.reduceEqDiff,zNf,gd,zAX,rops,fx,ld,fad,zAC,zAR,Nat.add_zero,zOi,zEl,tk3,zBO,hr,hw1,hb]
  (repeat (first | refine Rn.seq hc ?_ | refine Rn.skip hc ?_ | refine Rn.block hc ?_ | refine Rn.inBlock hc ?_ | refine Rn.scope hc ?_ | refine Rn.inScope hc ?_))
  refine Rn.ret (zAN rfl ⟨?_,Nx.refl hB.wf _⟩)
  simp only [zAU,sp_n,Nat.reduceLT]
theorem mul_lim {x y : Int} (x0 : 0 ≤ x) (x1 : x < 65536) (y0 : 0 ≤ y) (y1 : y < 65536) : 0 ≤ x * y ∧ x * y < 4294967296 := by
  refine ⟨Int.mul_nonneg x0 y0,?_⟩
  have h1 : x * y ≤ 65535 * 65535 := Int.mul_le_mul (by omega) (by omega) y0 (by omega)
  omega
theorem times_put {A : AHeap} {b : Nat} {m : Int} (hb : cl A b 0 = some (.int .i64 m)) (hbA : b < A.next) (hm : 0 < m ∧ m ≤ 65521) : PutC 87 [.pointer (some ⟨b,0,none⟩)] A (fun x y => (x * y).tmod m) := fun B hB x y x0 x1 y0 y1 => by
  refine zAJ hc Try.func87 rfl (Nat.le_of_ble_eq_true rfl) ?_
  have hb := (hB.cl hbA 0).trans hb
  have hr : ∀ (x : Int) M,bin Try.prog .rem 3 (.int .i64 x) (.int .i64 m) M = some (.int .i64 (x.tmod m),M) := fun x M => zBB _ _ _ _ (by omega)
  have hl := mul_lim x0 x1 y0 y1
  have hw1 : IntKind.i64.wrap (x * y) = x * y := IntWalk.i64_in _ ⟨by omega,by omega⟩
  rw [s_in3]
  (repeat (first | refine Rn.seq hc ?_ | refine Rn.skip hc ?_ | refine Rn.block hc ?_ | refine Rn.inBlock hc ?_ | refine Rn.scope hc ?_ | refine Rn.inScope hc ?_))
  refine Rn.reg hc rfl ?_
  simp only [zAS,gd,zAX,rops,fx,zOi,zEl,show Try.f87.ntmps = 12 from rfl]
  (repeat (first | refine Rn.seq hc ?_ | refine Rn.skip hc ?_ | refine Rn.block hc ?_ | refine Rn.inBlock hc ?_ | refine Rn.scope hc ?_ | refine Rn.inScope hc ?_))
  refine Rn.reg hc rfl ?_
  simp only [zAY,zAU,zAT,sp_n,Nat.reduceLT,ne_eq,Nat.reduceEqDiff,zNf,gd,zAX,rops,fx,ld,fad,bin_mul,zAR,Nat.add_zero,zOi,zEl,tk3,zBO,hr,hw1,hb]
  (repeat (first | refine Rn.seq hc ?_ | refine Rn.skip hc ?_ | refine Rn.block hc ?_ | refine Rn.inBlock hc ?_ | refine Rn.scope hc ?_ | refine Rn.inScope hc ?_))
  refine Rn.ret (zAN rfl ⟨?_,Nx.refl hB.wf _⟩)
  simp only [zAU,sp_n,Nat.reduceLT]
def nmS (u : Int) : Canon.Spec := fun _ _ A v A1 => v = .int .i64 u ∧ Nx A.next A A1
theorem scale_put {A : AHeap} {b c : Nat} {m k : Int} (hb : cl A b 0 = some (.int .i64 k)) (hbA : b < A.next) (hcl : cl A c 0 = some (.int .i64 m)) (hcA : c < A.next) (hm : 0 < m ∧ m ≤ 65521) : PutC 88 [.pointer (some ⟨b,0,none⟩),.pointer (some ⟨c,0,none⟩)] A (fun x _ => (nrm k m * x).tmod m) := fun B hB x y x0 x1 y0 y1 => by
  refine zAJ hc Try.func88 rfl (Nat.le_of_ble_eq_true rfl) ?_
  have hr : ∀ (x : Int) M,bin Try.prog .rem 3 (.int .i64 x) (.int .i64 m) M = some (.int .i64 (x.tmod m),M) := fun x M => zBB _ _ _ _ (by omega)
  have hk := nrm_lim k hm.1
  have hl := mul_lim hk.1 (by omega) x0 x1
  have hw1 : IntKind.i64.wrap (nrm k m * x) = nrm k m * x := IntWalk.i64_in _ ⟨by omega,by omega⟩
  obtain ⟨F,hF1,hF2,hF⟩ : ∃ F : AHeap → Prop,(∀ M,F M → cl M b 0 = some (.int .i64 k)) ∧ (∀ M,F M → cl M c 0 = some (.int .i64 m)) ∧ (∀ M,Nx B.next B M → F M) :=
    ⟨fun M => cl M b 0 = some (.int .i64 k) ∧ cl M c 0 = some (.int .i64 m),fun _ h => h.1,fun _ h => h.2,fun M h => ⟨(h.cl (by have := hB.next; omega) 0).trans ((hB.cl hbA 0).trans hb),(h.cl (by have := hB.next; omega) 0).trans ((hB.cl hcA 0).trans hcl)⟩⟩
  have hbk : Nx B.next B (bump B 10) := Nx.bump (Nx.refl hB.wf _) 10
  have FB := hF _ hbk
  rw [s_in4]
  (repeat (first | refine Rn.seq hc ?_ | refine Rn.skip hc ?_ | refine Rn.block hc ?_ | refine Rn.inBlock hc ?_ | refine Rn.scope hc ?_ | refine Rn.inScope hc ?_))
  refine Rn.reg hc rfl ?_
  simp only [zAS,gd,zAX,rops,fx,zOi,zEl,show Try.f88.ntmps = 16 from rfl]
  (repeat (first | refine Rn.seq hc ?_ | refine Rn.skip hc ?_ | refine Rn.block hc ?_ | refine Rn.inBlock hc ?_ | refine Rn.scope hc ?_ | refine Rn.inScope hc ?_))
  refine Rn.drawnF hc hx (nmS (nrm k m)) F (n := 1) (k := 10) (by kernel_rfl) (by kernel_rfl) (by rfl) ?_
  refine Dr.read (by first | rfl | kernel_rfl) (by rfl) (by assumption) (fun M hM => by simp only [zAY,zAU,zAT,sp_n,Nat.reduceLT,ne_eq,Nat.reduceEqDiff,zNf,fx,ld,zAR,tk3,hF1 M hM] <;> rfl) (by rfl) (by first | exact VQ.int _ _ | exact VQ.bool _ | exact VQ.ptr _ _ | exact VQ.slice _ _ _ | exact VQ.func (by simp [zAW,zAV,zAZ]) (by simp [zAW,zAV,zAZ]) | exact VQ.agg (by simp [zAW,zAV,zAZ]) | exact VQ.tuple (by simp [zAW,zAV,zAZ])) ?_
  refine Dr.read (by first | rfl | kernel_rfl) (by rfl) (by assumption) (fun M hM => by simp only [zAY,zAU,zAT,sp_n,Nat.reduceLT,ne_eq,Nat.reduceEqDiff,zNf,fx,fad,zAR,Nat.add_zero,zBO] <;> rfl) (by rfl) (by first | exact VQ.int _ _ | exact VQ.bool _ | exact VQ.ptr _ _ | exact VQ.slice _ _ _ | exact VQ.func (by simp [zAW,zAV,zAZ]) (by simp [zAW,zAV,zAZ]) | exact VQ.agg (by simp [zAW,zAV,zAZ]) | exact VQ.tuple (by simp [zAW,zAV,zAZ])) ?_
  refine Dr.read (by first | rfl | kernel_rfl) (by rfl) (by assumption) (fun M hM => by simp only [zAY,zAU,sp_n,Nat.reduceLT,fx,ld,zAR,tk3,hF2 M hM] <;> rfl) (by rfl) (by first | exact VQ.int _ _ | exact VQ.bool _ | exact VQ.ptr _ _ | exact VQ.slice _ _ _ | exact VQ.func (by simp [zAW,zAV,zAZ]) (by simp [zAW,zAV,zAZ]) | exact VQ.agg (by simp [zAW,zAV,zAZ]) | exact VQ.tuple (by simp [zAW,zAV,zAZ])) ?_
  refine Dr.call (by kernel_rfl) (by rfl) (by assumption) (by rfl) (zBU (by rfl) ⟨by rfl,by rfl⟩ (by rfl) (xs := [.int .i64 k,.int .i64 m]) (by simp only [zAY,zAU,zAT,sp_n,Nat.reduceLT,ne_eq,Nat.reduceEqDiff,zNf,List.map_cons,List.map_nil,List.nil_append,List.append_nil]) (Con.mono (norm_run hbk.wf hm) fun v A1 h => (h : v = .int .i64 (nrm k m) ∧ Nx (bump B 10).next (bump B 10) A1))) ?_
  rintro v M1 ⟨rfl,k1⟩
  have hM1 : Nx B.next B M1 := hbk.trans (k1.le hbk.next)
  have FM1 := hF _ hM1
  refine Dr.read (by first | rfl | kernel_rfl) (by rfl) (by assumption) (fun M hM => by simp only [zAY,zAU,zAT,Nat.reduceLT,ne_eq,Nat.reduceEqDiff,zNf,fx] <;> rfl) (by rfl) (by first | exact VQ.int _ _ | exact VQ.bool _ | exact VQ.ptr _ _ | exact VQ.slice _ _ _ | exact VQ.func (by simp [zAW,zAV,zAZ]) (by simp [zAW,zAV,zAZ]) | exact VQ.agg (by simp [zAW,zAV,zAZ]) | exact VQ.tuple (by simp [zAW,zAV,zAZ])) ?_
  refine Dr.read (by first | rfl | kernel_rfl) (by rfl) (by assumption) (fun M hM => by simp only [zAY,zAU,zAT,sp_n,Nat.reduceLT,ne_eq,Nat.reduceEqDiff,zNf,fx,bin_mul,hw1] <;> rfl) (by rfl) (by first | exact VQ.int _ _ | exact VQ.bool _ | exact VQ.ptr _ _ | exact VQ.slice _ _ _ | exact VQ.func (by simp [zAW,zAV,zAZ]) (by simp [zAW,zAV,zAZ]) | exact VQ.agg (by simp [zAW,zAV,zAZ]) | exact VQ.tuple (by simp [zAW,zAV,zAZ])) ?_
  refine Dr.read (by first | rfl | kernel_rfl) (by rfl) (by assumption) (fun M hM => by simp only [zAY,zAU,zAT,sp_n,Nat.reduceLT,ne_eq,Nat.reduceEqDiff,zNf,fx,fad,zAR,Nat.add_zero,zBO] <;> rfl) (by rfl) (by first | exact VQ.int _ _ | exact VQ.bool _ | exact VQ.ptr _ _ | exact VQ.slice _ _ _ | exact VQ.func (by simp [zAW,zAV,zAZ]) (by simp [zAW,zAV,zAZ]) | exact VQ.agg (by simp [zAW,zAV,zAZ]) | exact VQ.tuple (by simp [zAW,zAV,zAZ])) ?_
  refine Dr.read (by first | rfl | kernel_rfl) (by rfl) (by assumption) (fun M hM => by simp only [zAY,zAU,sp_n,Nat.reduceLT,fx,ld,zAR,tk3,hF2 M hM] <;> rfl) (by rfl) (by first | exact VQ.int _ _ | exact VQ.bool _ | exact VQ.ptr _ _ | exact VQ.slice _ _ _ | exact VQ.func (by simp [zAW,zAV,zAZ]) (by simp [zAW,zAV,zAZ]) | exact VQ.agg (by simp [zAW,zAV,zAZ]) | exact VQ.tuple (by simp [zAW,zAV,zAZ])) ?_
  refine Dr.read (by first | rfl | kernel_rfl) (by rfl) (by assumption) (fun M hM => by simp only [zAY,zAU,zAT,sp_n,Nat.reduceLT,ne_eq,Nat.reduceEqDiff,zNf,fx,hr] <;> rfl) (by rfl) (by first | exact VQ.int _ _ | exact VQ.bool _ | exact VQ.ptr _ _ | exact VQ.slice _ _ _ | exact VQ.func (by simp [zAW,zAV,zAZ]) (by simp [zAW,zAV,zAZ]) | exact VQ.agg (by simp [zAW,zAV,zAZ]) | exact VQ.tuple (by simp [zAW,zAV,zAZ])) ?_
  refine Dr.read (by first | rfl | kernel_rfl) (by rfl) (by assumption) (fun M hM => by simp only [zAY,zAU,sp_n,Nat.reduceLT,fx] <;> rfl) (by rfl) (by first | exact VQ.int _ _ | exact VQ.bool _ | exact VQ.ptr _ _ | exact VQ.slice _ _ _ | exact VQ.func (by simp [zAW,zAV,zAZ]) (by simp [zAW,zAV,zAZ]) | exact VQ.agg (by simp [zAW,zAV,zAZ]) | exact VQ.tuple (by simp [zAW,zAV,zAZ])) ?_
  refine Dr.nil (by rfl) (fun M hM => by cases hM) FM1 ⟨M1,by rfl,?_⟩
  (repeat (first | refine Rn.seq hc ?_ | refine Rn.skip hc ?_ | refine Rn.block hc ?_ | refine Rn.inBlock hc ?_ | refine Rn.scope hc ?_ | refine Rn.inScope hc ?_))
  refine Rn.ret (zAN rfl ⟨?_,hM1⟩)
  simp only [zAU,sp_n,Nat.reduceLT]
end Go.Proofs.Ytdaljohmfnfgiaa
namespace Go.Proofs.Ytdaljohmfnfgiaa
open Go Go.RowKit Go.Proofs.Ytdaljohmfnfgiaa.Canon
set_option maxRecDepth 20000
theorem box7 {A : AHeap} (hw : WF A) (v0 v1 v2 v3 v4 v5 v6 : Value) (t : TypeId) : ∃ A1,A.push (.cells #[v0,v1,v2,v3,v4,v5,v6] t) = A1 ∧ Nx A.next A A1 ∧ A1.next = A.next + 1 ∧ cl A1 A.next 0 = some v0 ∧ cl A1 A.next 1 = some v1 ∧ cl A1 A.next 2 = some v2 ∧ cl A1 A.next 3 = some v3 ∧ cl A1 A.next 4 = some v4 ∧ cl A1 A.next 5 = some v5 ∧ cl A1 A.next 6 = some v6 :=
  ⟨_,rfl,(Nx.refl hw _).push (Nat.le_refl _) _,rfl,by rw [zBA]; rfl,by rw [zBA]; rfl,by rw [zBA]; rfl,by rw [zBA]; rfl,by rw [zBA]; rfl,by rw [zBA]; rfl,by rw [zBA]; rfl⟩
def bothV (x y : Las) (p : FuncId) (ca : List Value) : Value := .agg #[.int .i64 x.m,.slice x.sa x.st.length x.sc,.slice x.ra x.ro.length x.rc,.int .i64 y.m,.slice y.sa y.st.length y.sc,.slice y.ra y.ro.length y.rc,.func (.func p) #[] ⟨ca⟩]
def bthS (ca : List Value) (f : Int → Int → Int) : Canon.Spec := fun _ xs A v A1 => ((∀ (m : Int) (sa : Option Addr) (st : List Int) (sc : Nat) (ra : Option Addr) (ro : List Int) (rc n : Nat),xs = [.agg #[.int .i64 m,.slice sa st.length sc,.slice ra ro.length rc],.int .i64 (n : Int)] → Ints A sa 0 A.next st → Ints A ra 0 A.next ro → v = .int .i64 (atL st ro n)) ∧
  (∀ x y : Int,xs = .int .i64 x :: .int .i64 y :: ca → v = .int .i64 (f x y))) ∧ Nx A.next A A1
theorem at_bthS {A : AHeap} (hw : WF A) {m : Int} {sa ra : Option Addr} {sc rc : Nat} {st ro : List Int} (hs : Ints A sa 0 A.next st) (hr : Ints A ra 0 A.next ro) (n : Nat) (hst : st.length < 4611686018427387904) (hro : 0 < ro.length) (hro2 : ro.length < 4611686018427387904) (hn : n < 9223372036854775808) {ca : List Value} {f : Int → Int → Int} :
    Con Try.prog 77 [.agg #[.int .i64 m,.slice sa st.length sc,.slice ra ro.length rc],.int .i64 (n : Int)] A (bthS ca f 77 [.agg #[.int .i64 m,.slice sa st.length sc,.slice ra ro.length rc],.int .i64 (n : Int)] A) := by
  refine Con.mono (at_stream hw hs hr n hst hro hro2 hn) fun v A1 h => ⟨⟨fun m' sa' st' sc' ra' ro' rc' n' e h1 h2 => ?_,fun x y e => ?_⟩,h.2⟩
  · simp only [List.cons.injEq,Value.agg.injEq,Array.mk.injEq,Value.int.injEq,Value.slice.injEq,true_and,and_true] at e
    obtain ⟨⟨-,⟨rfl,e1,-⟩,rfl,e2,-⟩,e3⟩ := e
    have hn' : n = n' := by omega
    subst hn'
    rw [h.1,ints_uniq hs h1 e1,ints_uniq hr h2 e2]
  · have e := (List.cons.inj e).1
    cases e
theorem put_bthS {A : AHeap} {g : FuncId} {ca : List Value} {f : Int → Int → Int} (hp : PutC g ca A f) (hw : WF A) {x y : Int} (x0 : 0 ≤ x) (x1 : x < 65536) (y0 : 0 ≤ y) (y1 : y < 65536) : Con Try.prog g (.int .i64 x :: .int .i64 y :: ca) A (bthS ca f g (.int .i64 x :: .int .i64 y :: ca) A) := by
  refine Con.mono (hp A (Nx.refl hw _) x y x0 x1 y0 y1) fun v A1 h => ⟨⟨fun m' sa' st' sc' ra' ro' rc' n' e h1 h2 => ?_,fun x' y' e => ?_⟩,h.2⟩
  · have e := (List.cons.inj e).1
    cases e
  · simp only [List.cons.injEq,Value.int.injEq,true_and,and_true] at e
    obtain ⟨rfl,rfl⟩ := e
    exact h.1
theorem both_at {A : AHeap} (hw : WF A) {x y : Las} (hox : x.ok A) (hoy : y.ok A) (hx0 : 0 < x.ro.length) (hy0 : 0 < y.ro.length) {p : FuncId} {ca : List Value} {f : Int → Int → Int} (hp : PutC p ca A f) (hvq : VQ (.func (.func p) #[] ⟨ca⟩)) (hxl : ∀ n,0 ≤ x.s n ∧ x.s n < 65536) (hyl : ∀ n,0 ≤ y.s n ∧ y.s n < 65536) {n : Nat} (hn : n < 4611686018427387904) :
    Con Try.prog 115 [bothV x y p ca,.int .i64 (n : Int)] A (fun v A1 => v = .int .i64 (f (x.s n) (y.s n)) ∧ Nx A.next A A1) := by
  refine zAJ hc Try.func115 rfl (Nat.le_of_ble_eq_true rfl) ?_
  obtain ⟨A1,e1,hx1,hn1,b0,b1,b2,b3,b4,b5,b6⟩ := box7 hw (.int .i64 x.m) (.slice x.sa x.st.length x.sc) (.slice x.ra x.ro.length x.rc) (.int .i64 y.m) (.slice y.sa y.st.length y.sc) (.slice y.ra y.ro.length y.rc) (.func (.func p) #[] ⟨ca⟩) 123
  obtain ⟨F,hF0,hF1,hF2,hF3,hF4,hF5,hF6,hF⟩ : ∃ F : AHeap → Prop,(∀ M,F M → cl M A.next 0 = some (.int .i64 x.m)) ∧ (∀ M,F M → cl M A.next 1 = some (.slice x.sa x.st.length x.sc)) ∧ (∀ M,F M → cl M A.next 2 = some (.slice x.ra x.ro.length x.rc)) ∧ (∀ M,F M → cl M A.next 3 = some (.int .i64 y.m)) ∧ (∀ M,F M → cl M A.next 4 = some (.slice y.sa y.st.length y.sc)) ∧ (∀ M,F M → cl M A.next 5 = some (.slice y.ra y.ro.length y.rc)) ∧ (∀ M,F M → cl M A.next 6 = some (.func (.func p) #[] ⟨ca⟩)) ∧ (∀ M,Nx A1.next A1 M → F M) :=
    ⟨fun M => ∀ o,cl M A.next o = cl A1 A.next o,fun M h => (h 0).trans b0,fun M h => (h 1).trans b1,fun M h => (h 2).trans b2,fun M h => (h 3).trans b3,fun M h => (h 4).trans b4,fun M h => (h 5).trans b5,fun M h => (h 6).trans b6,fun M h o => h.cl (by omega) o⟩
  have hbk : Nx A1.next A1 (bump A1 14) := Nx.bump (Nx.refl hx1.wf _) 14
  have FB := hF _ hbk
  have hxb : Nx A.next A (bump A1 14) := hx1.trans (hbk.le hx1.next)
  rw [s_in2]
  unfold bothV
  (repeat (first | refine Rn.seq hc ?_ | refine Rn.skip hc ?_ | refine Rn.block hc ?_ | refine Rn.inBlock hc ?_ | refine Rn.scope hc ?_ | refine Rn.inScope hc ?_))
  refine Rn.reg hc rfl ?_
  simp only [zAY,zAS,zAU,zAT,Nat.reduceLT,ne_eq,Nat.reduceEqDiff,zNf,gd,zAX,rops,fx,zOi,zEl,Value.cells,show Try.f115.ntmps = 18 from rfl,e1]
  (repeat (first | refine Rn.seq hc ?_ | refine Rn.skip hc ?_ | refine Rn.block hc ?_ | refine Rn.inBlock hc ?_ | refine Rn.scope hc ?_ | refine Rn.inScope hc ?_))
  obtain ⟨o1,o2,o3,o4⟩ := hox.nx hxb
  refine Rn.drawnF hc hx (bthS ca f) F (n := 3) (k := 14) (by kernel_rfl) (by kernel_rfl) (by rfl) ?_
  refine Dr.read (by first | rfl | kernel_rfl) (by rfl) (by assumption) (fun M hM => by simp only [zAY,zAU,zAT,sp_n,Nat.reduceLT,ne_eq,Nat.reduceEqDiff,zNf,fx,fad,zAR,Nat.zero_add,fo123_2] <;> rfl) (by rfl) (by first | exact hvq | exact VQ.int _ _ | exact VQ.bool _ | exact VQ.ptr _ _ | exact VQ.slice _ _ _ | exact VQ.func (by simp [zAW,zAV,zAZ]) (by simp [zAW,zAV,zAZ]) | exact VQ.agg (by simp [zAW,zAV,zAZ]) | exact VQ.tuple (by simp [zAW,zAV,zAZ])) ?_
  refine Dr.read (by first | rfl | kernel_rfl) (by rfl) (by assumption) (fun M hM => by simp only [zAY,zAU,sp_n,Nat.reduceLT,fx,ld,zAR,tk65,hF6 M hM] <;> rfl) (by rfl) (by first | exact hvq | exact VQ.int _ _ | exact VQ.bool _ | exact VQ.ptr _ _ | exact VQ.slice _ _ _ | exact VQ.func (by simp [zAW,zAV,zAZ]) (by simp [zAW,zAV,zAZ]) | exact VQ.agg (by simp [zAW,zAV,zAZ]) | exact VQ.tuple (by simp [zAW,zAV,zAZ])) ?_
  refine Dr.read (by first | rfl | kernel_rfl) (by rfl) (by assumption) (fun M hM => by simp only [zAY,zAU,zAT,sp_n,Nat.reduceLT,ne_eq,Nat.reduceEqDiff,zNf,fx,fad,zAR,Nat.add_zero,fo123_0] <;> rfl) (by rfl) (by first | exact hvq | exact VQ.int _ _ | exact VQ.bool _ | exact VQ.ptr _ _ | exact VQ.slice _ _ _ | exact VQ.func (by simp [zAW,zAV,zAZ]) (by simp [zAW,zAV,zAZ]) | exact VQ.agg (by simp [zAW,zAV,zAZ]) | exact VQ.tuple (by simp [zAW,zAV,zAZ])) ?_
  refine Dr.read (by first | rfl | kernel_rfl) (by rfl) (by assumption) (fun M hM => by simp only [zAY,zAU,sp_n,Nat.reduceLT,fx,fad,zAR,Nat.add_zero,fo119_0] <;> rfl) (by rfl) (by first | exact hvq | exact VQ.int _ _ | exact VQ.bool _ | exact VQ.ptr _ _ | exact VQ.slice _ _ _ | exact VQ.func (by simp [zAW,zAV,zAZ]) (by simp [zAW,zAV,zAZ]) | exact VQ.agg (by simp [zAW,zAV,zAZ]) | exact VQ.tuple (by simp [zAW,zAV,zAZ])) ?_
  refine Dr.read (by first | rfl | kernel_rfl) (by rfl) (by assumption) (fun M hM => by simp only [zAY,zAU,sp_n,Nat.reduceLT,fx,ld,zAR,cls,Nat.zero_add,Nat.reduceAdd,tk86,hF0 M hM,hF1 M hM,hF2 M hM] <;> rfl) (by rfl) (by first | exact hvq | exact VQ.int _ _ | exact VQ.bool _ | exact VQ.ptr _ _ | exact VQ.slice _ _ _ | exact VQ.func (by simp [zAW,zAV,zAZ]) (by simp [zAW,zAV,zAZ]) | exact VQ.agg (by simp [zAW,zAZ]) | exact VQ.tuple (by simp [zAW,zAV,zAZ])) ?_
  refine Dr.read (by first | rfl | kernel_rfl) (by rfl) (by assumption) (fun M hM => by simp only [zAY,zAU,zAT,sp_n,Nat.reduceLT,ne_eq,Nat.reduceEqDiff,zNf,fx] <;> rfl) (by rfl) (by first | exact hvq | exact VQ.int _ _ | exact VQ.bool _ | exact VQ.ptr _ _ | exact VQ.slice _ _ _ | exact VQ.func (by simp [zAW,zAV,zAZ]) (by simp [zAW,zAV,zAZ]) | exact VQ.agg (by simp [zAW,zAV,zAZ]) | exact VQ.tuple (by simp [zAW,zAV,zAZ])) ?_
  refine Dr.call (by kernel_rfl) (by rfl) (by assumption) (by rfl) (zBU (by rfl) ⟨by rfl,by rfl⟩ (by rfl) (xs := [.agg #[.int .i64 x.m,.slice x.sa x.st.length x.sc,.slice x.ra x.ro.length x.rc],.int .i64 (n : Int)]) (by simp only [zAY,zAU,zAT,sp_n,Nat.reduceLT,ne_eq,Nat.reduceEqDiff,zNf,List.map_cons,List.map_nil,List.nil_append,List.append_nil]) (at_bthS hbk.wf o1 o2 n o3 hx0 o4 (by omega))) ?_
  rintro v M1 ⟨⟨hv,-⟩,k1⟩
  obtain rfl := hv _ _ _ _ _ _ _ _ rfl o1 o2
  have hM1 : Nx A1.next A1 M1 := hbk.trans (k1.le hbk.next)
  have FM1 := hF _ hM1
  obtain ⟨o1,o2,o3,o4⟩ := hoy.nx (hx1.trans (hM1.le hx1.next))
  refine Dr.read (by first | rfl | kernel_rfl) (by rfl) (by assumption) (fun M hM => by simp only [zAY,zAU,zAT,sp_n,Nat.reduceLT,ne_eq,Nat.reduceEqDiff,zNf,fx,fad,zAR,Nat.zero_add,fo123_1] <;> rfl) (by rfl) (by first | exact VQ.int _ _ | exact VQ.bool _ | exact VQ.ptr _ _ | exact VQ.slice _ _ _ | exact VQ.func (by simp [zAW,zAV,zAZ]) (by simp [zAW,zAV,zAZ]) | exact VQ.agg (by simp [zAW,zAV,zAZ]) | exact VQ.tuple (by simp [zAW,zAV,zAZ])) ?_
  refine Dr.read (by first | rfl | kernel_rfl) (by rfl) (by assumption) (fun M hM => by simp only [zAY,zAU,sp_n,Nat.reduceLT,fx,fad,zAR,Nat.add_zero,fo121_0] <;> rfl) (by rfl) (by first | exact VQ.int _ _ | exact VQ.bool _ | exact VQ.ptr _ _ | exact VQ.slice _ _ _ | exact VQ.func (by simp [zAW,zAV,zAZ]) (by simp [zAW,zAV,zAZ]) | exact VQ.agg (by simp [zAW,zAV,zAZ]) | exact VQ.tuple (by simp [zAW,zAV,zAZ])) ?_
  refine Dr.read (by first | rfl | kernel_rfl) (by rfl) (by assumption) (fun M hM => by simp only [zAY,zAU,sp_n,Nat.reduceLT,fx,ld,zAR,cls,Nat.reduceAdd,tk86,hF3 M hM,hF4 M hM,hF5 M hM] <;> rfl) (by rfl) (by first | exact VQ.int _ _ | exact VQ.bool _ | exact VQ.ptr _ _ | exact VQ.slice _ _ _ | exact VQ.func (by simp [zAW,zAV,zAZ]) (by simp [zAW,zAV,zAZ]) | exact VQ.agg (by simp [zAW,zAZ]) | exact VQ.tuple (by simp [zAW,zAV,zAZ])) ?_
  refine Dr.read (by first | rfl | kernel_rfl) (by rfl) (by assumption) (fun M hM => by simp only [zAY,zAU,zAT,sp_n,Nat.reduceLT,ne_eq,Nat.reduceEqDiff,zNf,fx] <;> rfl) (by rfl) (by first | exact VQ.int _ _ | exact VQ.bool _ | exact VQ.ptr _ _ | exact VQ.slice _ _ _ | exact VQ.func (by simp [zAW,zAV,zAZ]) (by simp [zAW,zAV,zAZ]) | exact VQ.agg (by simp [zAW,zAV,zAZ]) | exact VQ.tuple (by simp [zAW,zAV,zAZ])) ?_
  refine Dr.call (by kernel_rfl) (by rfl) (by assumption) (by rfl) (zBU (by rfl) ⟨by rfl,by rfl⟩ (by rfl) (xs := [.agg #[.int .i64 y.m,.slice y.sa y.st.length y.sc,.slice y.ra y.ro.length y.rc],.int .i64 (n : Int)]) (by simp only [zAY,zAU,zAT,sp_n,Nat.reduceLT,ne_eq,Nat.reduceEqDiff,zNf,List.map_cons,List.map_nil,List.nil_append,List.append_nil]) (at_bthS hM1.wf o1 o2 n o3 hy0 o4 (by omega))) ?_
  rintro v M2 ⟨⟨hv,-⟩,k2⟩
  obtain rfl := hv _ _ _ _ _ _ _ _ rfl o1 o2
  have hM2 : Nx A1.next A1 M2 := hM1.trans (k2.le hM1.next)
  have FM2 := hF _ hM2
  have hA2 : Nx A.next A M2 := hx1.trans (hM2.le hx1.next)
  refine Dr.call (by kernel_rfl) (by rfl) (by assumption) (by rfl) (zBU (g := p) (fi := #[]) (ca := ⟨ca⟩) (by rfl) ⟨by rfl,by rfl⟩ (by simp only [zAY,zAU,zAT,sp_n,Nat.reduceLT,ne_eq,Nat.reduceEqDiff,zNf]) (xs := .int .i64 (x.s n) :: .int .i64 (y.s n) :: ca) (by simp only [zAY,zAU,zAT,sp_n,Nat.reduceLT,ne_eq,Nat.reduceEqDiff,zNf,List.map_cons,List.map_nil,List.nil_append,List.cons_append]; rfl) (put_bthS (hp.nx hA2) hM2.wf (hxl n).1 (hxl n).2 (hyl n).1 (hyl n).2)) ?_
  rintro v M3 ⟨⟨-,hv⟩,k3⟩
  obtain rfl := hv _ _ rfl
  have hM3 : Nx A1.next A1 M3 := hM2.trans (k3.le hM2.next)
  have FM3 := hF _ hM3
  refine Dr.read (by first | rfl | kernel_rfl) (by rfl) (by assumption) (fun M hM => by simp only [zAY,zAU,sp_n,Nat.reduceLT,fx] <;> rfl) (by rfl) (by first | exact VQ.int _ _ | exact VQ.bool _ | exact VQ.ptr _ _ | exact VQ.slice _ _ _ | exact VQ.func (by simp [zAW,zAV,zAZ]) (by simp [zAW,zAV,zAZ]) | exact VQ.agg (by simp [zAW,zAV,zAZ]) | exact VQ.tuple (by simp [zAW,zAV,zAZ])) ?_
  refine Dr.nil (by rfl) (fun M hM => by cases hM) FM3 ⟨M3,by rfl,?_⟩
  (repeat (first | refine Rn.seq hc ?_ | refine Rn.skip hc ?_ | refine Rn.block hc ?_ | refine Rn.inBlock hc ?_ | refine Rn.scope hc ?_ | refine Rn.inScope hc ?_))
  refine Rn.ret (zAN rfl ⟨?_,hx1.trans (hM3.le hx1.next)⟩)
  simp only [zAU,sp_n,Nat.reduceLT]
def tldS (m : Int) (E : Nat → Int) : Canon.Spec := fun _ _ A v A1 => Tld A 0 m E v A1
theorem build_run {A : AHeap} (hw : WF A) {m : Int} {stem round : Nat} {g : FuncId} {fi : Value} {E : Nat → Int} (hE : ∀ B,Nx A.next A B → ∀ n : Nat,n < stem + round → Con Try.prog g [fi,.int .i64 (n : Int)] B (fun v B1 => v = .int .i64 (E n) ∧ Nx B.next B B1)) (hs : stem ≤ 100000) (hr : round ≤ 100000) (hP : Per E stem round) :
    Con Try.prog 114 [.int .i64 m,.int .i64 (stem : Int),.int .i64 (round : Int),.func (.func g) #[fi] #[]] A (Tld A 0 m E) := by
  refine zAJ hc Try.func114 rfl (Nat.le_of_ble_eq_true rfl) ?_
  have hr0 := hP.pos
  have hx1 : Nx A.next A (A.push (.cells #[.int .i64 0,.slice none 0 0,.slice none 0 0] 24)) := (Nx.refl hw _).push (Nat.le_refl _) _
  have l1 := zAM A (.cells #[.int .i64 0,.slice none 0 0,.slice none 0 0] 24)
  have hn1 : (A.push (.cells #[.int .i64 0,.slice none 0 0,.slice none 0 0] 24)).next = A.next + 1 := rfl
  generalize e1 : A.push (.cells #[.int .i64 0,.slice none 0 0,.slice none 0 0] 24) = A1 at hx1 l1 hn1
  obtain ⟨N,hN⟩ : ∃ N,N = stem + round := ⟨_,rfl⟩
  have hx2 : Nx A1.next A1 (A1.push (.cells (Array.replicate N (.int .i64 0)) 3)) := (Nx.refl hx1.wf _).push (Nat.le_refl _) _
  have l2 := zAM A1 (.cells (Array.replicate N (.int .i64 0)) 3)
  have hn2 : (A1.push (.cells (Array.replicate N (.int .i64 0)) 3)).next = A1.next + 1 := rfl
  generalize e2 : A1.push (.cells (Array.replicate N (.int .i64 0)) 3) = A2 at hx2 l2 hn2
  have hw0 : IntKind.i64.wrap ((stem : Int) + (round : Int)) = (N : Int) := by rw [IntWalk.i64_in _ (by omega)]; omega
  have hx02 : Nx A.next A A2 := hx1.trans (hx2.le hx1.next)
  have l1 : Canon.look A2.objs A.next = _ := (hx2.keep _ (by omega)).trans l1
  rw [s_in4]
  (repeat (first | refine Rn.seq hc ?_ | refine Rn.skip hc ?_ | refine Rn.block hc ?_ | refine Rn.inBlock hc ?_ | refine Rn.scope hc ?_ | refine Rn.inScope hc ?_))
  refine Rn.reg hc rfl ?_
  simp only [zAS,gd,zAX,rops,fx,zOi,zEl,Value.cells,show Try.f114.ntmps = 38 from rfl,ze24,e1]
  (repeat (first | refine Rn.seq hc ?_ | refine Rn.skip hc ?_ | refine Rn.block hc ?_ | refine Rn.inBlock hc ?_ | refine Rn.scope hc ?_ | refine Rn.inScope hc ?_))
  refine Rn.reg hc rfl ?_
  simp only [zAY,zAU,zAT,sp_n,Nat.reduceLT,ne_eq,Nat.reduceEqDiff,zNf,gd,zAX,rops,fx,zAC,zOi,zEl,hw0,ae_mk2,mk2_nat (show N ≤ 1000000 by omega),e2]
  (repeat (first | refine Rn.seq hc ?_ | refine Rn.skip hc ?_ | refine Rn.block hc ?_ | refine Rn.inBlock hc ?_ | refine Rn.scope hc ?_ | refine Rn.inScope hc ?_))
  refine Rn.reg hc rfl ?_
  simp only [zAY,zAS,zAU,sp_n,Nat.reduceLT,gd,zAX,rops,fx,lng,zOi,zEl,un22]
  (repeat (first | refine Rn.seq hc ?_ | refine Rn.skip hc ?_ | refine Rn.block hc ?_ | refine Rn.inBlock hc ?_ | refine Rn.scope hc ?_ | refine Rn.inScope hc ?_))
  obtain ⟨bS,hbS⟩ : ∃ b,b = A1.next := ⟨_,rfl⟩
  rw [← hbS] at l2 ⊢
  refine Rn.loopI hc (I := fun k s B => ∃ i,∃ c : Array Value,i ≤ N ∧ k = N - i ∧ WF B ∧ A2.next ≤ B.next ∧ (∀ b,b < A2.next → b ≠ bS → Canon.look B.objs b = Canon.look A2.objs b) ∧ c.size = N ∧ Canon.look B.objs bS = some ⟨.cells c 3,false,0⟩ ∧ (∀ j,j < i → c[j]? = some (.int .i64 (E j))) ∧ s.n = 38 ∧ sget s 0 = .int .i64 m ∧ sget s 1 = .int .i64 (stem : Int) ∧ sget s 3 = .func (.func g) #[fi] #[] ∧ sget s 8 = .pointer (some ⟨A.next,0,none⟩) ∧ sget s 10 = .slice (some ⟨bS,0,none⟩) N N ∧ sget s 17 = .int .i64 (N : Int) ∧ sget s 18 = .int .i64 (i : Int))
    (n := N) ⟨0,_,by omega,rfl,hx02.wf,Nat.le_refl _,fun _ _ _ => rfl,by simp,l2,fun j hj => absurd hj (by omega),by simp only [sp_n],by simp only [zAU,zAT,Nat.reduceLT,ne_eq,Nat.reduceEqDiff,zNf],by simp only [zAU,zAT,sp_n,Nat.reduceLT,ne_eq,Nat.reduceEqDiff,zNf],by simp only [zAU,zAT,sp_n,Nat.reduceLT,ne_eq,Nat.reduceEqDiff,zNf],by simp only [zAU,zAT,sp_n,Nat.reduceLT,ne_eq,Nat.reduceEqDiff,zNf],by simp only [zAU,zAT,sp_n,Nat.reduceLT,ne_eq,Nat.reduceEqDiff,zNf],by simp only [zAU,zAT,sp_n,Nat.reduceLT,ne_eq,Nat.reduceEqDiff,zNf],by simp only [zAU,sp_n,Nat.reduceLT]; rfl⟩ ?_
  rintro k s B ⟨i,c,hi,rfl,hwB,hnB,hkeep,hcs,lB,hcv,hn,s0,s1,s3,s8,s10,s17,s18⟩ ih
  have hAB : Nx A.next A B := ⟨by omega,hwB,fun b hb => (hkeep b (by omega) (by omega)).trans (hx02.keep b hb)⟩
  (repeat (first | refine Rn.seq hc ?_ | refine Rn.skip hc ?_ | refine Rn.block hc ?_ | refine Rn.inBlock hc ?_ | refine Rn.scope hc ?_ | refine Rn.inScope hc ?_))
  by_cases hlt : i < N
  · have hd : decide ((i : Int) < (N : Int)) = true := decide_eq_true (by omega)
    refine Rn.reg hc rfl ?_
    simp only [zAY,gd,zAX,rops,fx,zAK,zOi,zEl,s17,s18,hd]
    (repeat (first | refine Rn.seq hc ?_ | refine Rn.skip hc ?_ | refine Rn.block hc ?_ | refine Rn.inBlock hc ?_ | refine Rn.scope hc ?_ | refine Rn.inScope hc ?_))
    refine Rn.zAL hc rfl ?_
    simp only [zAY,zAU,Nat.reduceLT,Value.bool.injEq,zEl,hn]
    (repeat (first | refine Rn.seq hc ?_ | refine Rn.skip hc ?_ | refine Rn.block hc ?_ | refine Rn.inBlock hc ?_ | refine Rn.scope hc ?_ | refine Rn.inScope hc ?_))
    refine Rn.reg hc rfl ?_
    simp only [zAY,zAU,zAT,sp_n,Nat.reduceLT,ne_eq,Nat.reduceEqDiff,zNf,gd,zAX,rops,fx,zOi,zEl,hn,s18]
    (repeat (first | refine Rn.seq hc ?_ | refine Rn.skip hc ?_ | refine Rn.block hc ?_ | refine Rn.inBlock hc ?_ | refine Rn.scope hc ?_ | refine Rn.inScope hc ?_))
    refine Rn.region hc fun K hK => ?_
    refine Wo.run hc 4 rfl rfl rfl ?_
    simp (maxSteps := 2000000) only [List.drop_zero,List.take_succ_cons,List.take_zero,zAY,zAU,zAT,sp_n,Nat.reduceLT,ne_eq,Nat.reduceEqDiff,not_false_eq_true,gd,zAX,rops,fx,Nat.zero_add,Option.some.injEq,exists_eq_left',hn,s3,s10]
    refine Wo.call hc (by rfl) (by rfl) ⟨by rfl,by rfl⟩ (xs := [fi,.int .i64 (i : Int)]) (by rfl) (by first | rfl | (simp only [zAY,zAU,zAT,sp_n,Nat.reduceLT,ne_eq,Nat.reduceEqDiff,zNf,hn]; done) | (simp only [zAY,zAU,zAT,sp_n,Nat.reduceLT,ne_eq,Nat.reduceEqDiff,zNf,hn]; rfl)) (by simp only [zAY,zAU,sp_n,Nat.reduceLT,List.map_cons,List.map_nil,List.nil_append,List.append_nil,List.cons_append,hn]) (Con.mono (hE B hAB i (by omega)) ?_)
    rintro w B1 ⟨rfl,hx3⟩
    have lB1 : Canon.look B1.objs bS = _ := (hx3.keep _ (by omega)).trans lB
    obtain ⟨B2,u1,u2⟩ := st1_upd (o := i) (v := .int .i64 (E i)) lB1 rfl (by omega) rfl
    have hoi : 0 + i * 1 = i := by omega
    refine Wo.run hc 2 rfl rfl rfl ?_
    simp (maxSteps := 2000000) only [List.drop_zero,List.drop_succ_cons,List.take_succ_cons,List.take_zero,zAY,zAU,zAT,sp_n,zAO,Nat.reduceLT,ne_eq,Nat.reduceEqDiff,not_false_eq_true,gd,zAX,rops,fx,str,idx,zAR,Nat.zero_add,Option.some.injEq,exists_eq_left',Nat.reduceAdd,Nat.mul_one,tk3,eo22,hn,zAP hlt,u1]
    refine Wo.done hc rfl (hK _ _ ?_)
    clear hK
    (repeat (first | refine Rn.seq hc ?_ | refine Rn.skip hc ?_ | refine Rn.block hc ?_ | refine Rn.inBlock hc ?_ | refine Rn.scope hc ?_ | refine Rn.inScope hc ?_))
    have n3 := hx3.next
    have hn4 := u2.next
    obtain ⟨c',t,f,g',e,r1,r2,_⟩ := u2.at'
    rw [lB1] at r1
    cases r1
    refine Rn.reg hc rfl ?_
    simp only [zAY,zAS,zAU,zAT,sp_n,Nat.reduceLT,ne_eq,Nat.reduceEqDiff,zNf,gd,zAX,rops,fx,zAC,zOi,zEl,hn,s18,zBW (show i < 9223372036854775807 by omega)]
    (repeat (first | refine Rn.seq hc ?_ | refine Rn.skip hc ?_ | refine Rn.block hc ?_ | refine Rn.inBlock hc ?_ | refine Rn.scope hc ?_ | refine Rn.inScope hc ?_))
    refine ih _ _ _ (by omega) ⟨i + 1,_,by omega,rfl,(u2.nx hx3.wf (Nat.zero_le _)).wf,by omega,fun b hb hne => by rw [u2.off _ hne,hx3.keep _ (by omega)]; exact hkeep b hb hne,by rw [Array.size_setIfInBounds]; exact hcs,r2,fun j hj => ?_,by simp only [sp_n,hn],by simp only [zAT,ne_eq,Nat.reduceEqDiff,zNf,s0],by simp only [zAT,ne_eq,Nat.reduceEqDiff,zNf,s1],by simp only [zAT,ne_eq,Nat.reduceEqDiff,zNf,s3],by simp only [zAT,ne_eq,Nat.reduceEqDiff,zNf,s8],by simp only [zAT,ne_eq,Nat.reduceEqDiff,zNf,s10],by simp only [zAT,ne_eq,Nat.reduceEqDiff,zNf,s17],by simp only [zAU,sp_n,Nat.reduceLT,hn]⟩
    by_cases hji : j = i
    · subst hji
      rw [Array.getElem?_setIfInBounds,if_pos rfl,if_pos (by omega)]
    · rw [Array.getElem?_setIfInBounds,if_neg (fun h => hji h.symm)]
      exact hcv j (by omega)
  · have hd : decide ((i : Int) < (N : Int)) = false := decide_eq_false (by omega)
    have hil : i = N := by omega
    subst hil
    clear ih
    refine Rn.reg hc rfl ?_
    simp only [zAY,gd,zAX,rops,fx,zAK,zOi,zEl,s17,s18,hd]
    (repeat (first | refine Rn.seq hc ?_ | refine Rn.skip hc ?_ | refine Rn.block hc ?_ | refine Rn.inBlock hc ?_ | refine Rn.scope hc ?_ | refine Rn.inScope hc ?_))
    refine Rn.zAL hc rfl ?_
    simp only [zAY,zAU,Nat.reduceLT,Value.bool.injEq,zEl,hn]
    (repeat (first | refine Rn.seq hc ?_ | refine Rn.skip hc ?_ | refine Rn.block hc ?_ | refine Rn.inBlock hc ?_ | refine Rn.scope hc ?_ | refine Rn.inScope hc ?_))
    refine Rn.exit hc rfl ?_
    (repeat (first | refine Rn.seq hc ?_ | refine Rn.skip hc ?_ | refine Rn.block hc ?_ | refine Rn.inBlock hc ?_ | refine Rn.scope hc ?_ | refine Rn.inScope hc ?_))
    subst hN
    have lR : Canon.look B.objs A.next = _ := (hkeep _ (by omega) (by omega)).trans l1
    have hcl : ∀ j,j < stem + round → cl B bS j = some (.int .i64 (E j)) := fun j hj => by rw [zCV lB rfl]; exact hcv j hj
    have hNs : stem + round - stem = round := Nat.add_sub_cancel_left _ _
    obtain ⟨F,hF1,hF2,hF⟩ : ∃ F : AHeap → Prop,(∀ M,F M → asl Try.prog 22 (.slice (some ⟨bS,0,none⟩) (stem + round) (stem + round)) none (some (.int .i64 (stem : Int))) none M = some (.slice (some ⟨bS,0,none⟩) stem (stem + round),M)) ∧ (∀ M,F M → asl Try.prog 22 (.slice (some ⟨bS,0,none⟩) (stem + round) (stem + round)) (some (.int .i64 (stem : Int))) none none M = some (.slice (some ⟨bS,stem,none⟩) round round,M)) ∧ (∀ M,Canon.look M.objs bS = Canon.look B.objs bS → F M) :=
      ⟨fun M => Canon.look M.objs bS = Canon.look B.objs bS,fun M h => asl_hi0 (h.trans lB) rfl (by omega),fun M h => by rw [asl_lo0 (h.trans lB) rfl (by omega),hNs],fun M h => h⟩
    have hbk : Nx B.next B (bump B 12) := Nx.bump (Nx.refl hwB _) 12
    have FB := hF (bump B 12) rfl
    have hAk : Nx A.next A (bump B 12) := hAB.trans (hbk.le hAB.next)
    have hlr := least_run hbk.wf (m := m) (sa := some ⟨bS,0,none⟩) (ra := some ⟨bS,stem,none⟩) (sc := stem + round) (rc := round) (st := redS E stem) (ro := redR E stem round)
      (fun j hj => ⟨bS,0,rfl,Nat.zero_le _,by rw [zAH]; omega,by rw [zAI] at hj; rw [zBT,Nat.zero_add,hcl j (by omega),redS_get hj]⟩)
      (fun j hj => ⟨bS,stem,rfl,Nat.zero_le _,by rw [zAH]; omega,by rw [zAF] at hj; rw [zBT,hcl _ (by omega),redR_get hj]⟩)
      (by rw [zAI]; omega) (by rw [zAF]; omega) (by rw [zAF]; exact hr0) (fun y hy => by cases hy; exact ⟨rfl,Nat.zero_le _,_,lB,.inl rfl⟩) (by rw [zAI]; omega)
    rw [atL_redF hP] at hlr
    simp only [zAI,zAF] at hlr
    refine Rn.drawnF hc hx (tldS m E) F (n := 2) (k := 12) (by kernel_rfl) (by kernel_rfl) (by rfl) ?_
    refine Dr.read (by first | rfl | kernel_rfl) (by rfl) (by assumption) (fun M hM => by simp only [zAY,zAT,ne_eq,Nat.reduceEqDiff,zNf,fx,s0] <;> rfl) (by rfl) (by first | exact VQ.int _ _ | exact VQ.bool _ | exact VQ.ptr _ _ | exact VQ.slice _ _ _ | exact VQ.func (by simp [zAW,zAV,zAZ]) (by simp [zAW,zAV,zAZ]) | exact VQ.agg (by simp [zAW,zAV,zAZ]) | exact VQ.tuple (by simp [zAW,zAV,zAZ])) ?_
    refine Dr.read (by first | rfl | kernel_rfl) (by rfl) (by assumption) (fun M hM => by simp only [zAY,zAT,ne_eq,Nat.reduceEqDiff,zNf,fx,s10] <;> rfl) (by rfl) (by first | exact VQ.int _ _ | exact VQ.bool _ | exact VQ.ptr _ _ | exact VQ.slice _ _ _ | exact VQ.func (by simp [zAW,zAV,zAZ]) (by simp [zAW,zAV,zAZ]) | exact VQ.agg (by simp [zAW,zAV,zAZ]) | exact VQ.tuple (by simp [zAW,zAV,zAZ])) ?_
    refine Dr.read (by first | rfl | kernel_rfl) (by rfl) (by assumption) (fun M hM => by simp only [zAY,zAT,ne_eq,Nat.reduceEqDiff,zNf,fx,s1] <;> rfl) (by rfl) (by first | exact VQ.int _ _ | exact VQ.bool _ | exact VQ.ptr _ _ | exact VQ.slice _ _ _ | exact VQ.func (by simp [zAW,zAV,zAZ]) (by simp [zAW,zAV,zAZ]) | exact VQ.agg (by simp [zAW,zAV,zAZ]) | exact VQ.tuple (by simp [zAW,zAV,zAZ])) ?_
    refine Dr.read (by first | rfl | kernel_rfl) (by rfl) (by assumption) (fun M hM => by simp only [zAY,zAU,zAT,sp_n,Nat.reduceLT,ne_eq,Nat.reduceEqDiff,zNf,fx,hn,ae_asl_hi,hF1 M hM] <;> rfl) (by rfl) (by first | exact VQ.int _ _ | exact VQ.bool _ | exact VQ.ptr _ _ | exact VQ.slice _ _ _ | exact VQ.func (by simp [zAW,zAV,zAZ]) (by simp [zAW,zAV,zAZ]) | exact VQ.agg (by simp [zAW,zAV,zAZ]) | exact VQ.tuple (by simp [zAW,zAV,zAZ])) ?_
    refine Dr.read (by first | rfl | kernel_rfl) (by rfl) (by assumption) (fun M hM => by simp only [zAY,zAT,ne_eq,Nat.reduceEqDiff,zNf,fx,s10] <;> rfl) (by rfl) (by first | exact VQ.int _ _ | exact VQ.bool _ | exact VQ.ptr _ _ | exact VQ.slice _ _ _ | exact VQ.func (by simp [zAW,zAV,zAZ]) (by simp [zAW,zAV,zAZ]) | exact VQ.agg (by simp [zAW,zAV,zAZ]) | exact VQ.tuple (by simp [zAW,zAV,zAZ])) ?_
    refine Dr.read (by first | rfl | kernel_rfl) (by rfl) (by assumption) (fun M hM => by simp only [zAY,zAT,ne_eq,Nat.reduceEqDiff,zNf,fx,s1] <;> rfl) (by rfl) (by first | exact VQ.int _ _ | exact VQ.bool _ | exact VQ.ptr _ _ | exact VQ.slice _ _ _ | exact VQ.func (by simp [zAW,zAV,zAZ]) (by simp [zAW,zAV,zAZ]) | exact VQ.agg (by simp [zAW,zAV,zAZ]) | exact VQ.tuple (by simp [zAW,zAV,zAZ])) ?_
    refine Dr.read (by first | rfl | kernel_rfl) (by rfl) (by assumption) (fun M hM => by simp only [zAY,zAU,zAT,sp_n,Nat.reduceLT,ne_eq,Nat.reduceEqDiff,zNf,fx,hn,ae_asl_lo,hF2 M hM] <;> rfl) (by rfl) (by first | exact VQ.int _ _ | exact VQ.bool _ | exact VQ.ptr _ _ | exact VQ.slice _ _ _ | exact VQ.func (by simp [zAW,zAV,zAZ]) (by simp [zAW,zAV,zAZ]) | exact VQ.agg (by simp [zAW,zAV,zAZ]) | exact VQ.tuple (by simp [zAW,zAV,zAZ])) ?_
    refine Dr.call (by kernel_rfl) (by rfl) (by assumption) (by rfl) (zBU (by rfl) ⟨by rfl,by rfl⟩ (by rfl) (xs := [.int .i64 m,.slice (some ⟨bS,0,none⟩) stem (stem + round),.slice (some ⟨bS,stem,none⟩) round round]) (by simp only [zAY,zAU,zAT,sp_n,Nat.reduceLT,ne_eq,Nat.reduceEqDiff,zNf,List.map_cons,List.map_nil,List.nil_append,List.append_nil,hn]) (Con.mono hlr fun v A1 h => (by obtain ⟨a,p,h1,_,_,h2⟩ := h; exact (tld_q h1 h2 : tldS m E 69 _ (bump B 12) v A1)))) ?_
    intro w C1 hT0
    have hT0 : Tld (bump B 12) 0 m E w C1 := hT0
    have hC1 : Nx B.next B C1 := hbk.trans (hT0.1.le hbk.next)
    have F1 : F C1 := hF _ (hC1.keep _ (by omega))
    obtain ⟨mm,n1,n2,ee,p1,c1,p2,c2,rfl,D,q1,g0,g1,g2,hoff,hT⟩ := Tld.fin (b := A.next) hAk (Nat.le_refl _) (by rw [zAH]; omega) lR hT0
    refine Dr.read (by first | rfl | kernel_rfl) (by rfl) (by assumption) (fun M hM => by simp only [zAY,zAU,sp_n,Nat.reduceLT,fx,ext,List.getElem?_toArray,List.getElem?_cons_zero,hn,ext] <;> rfl) (by rfl) (by first | exact VQ.int _ _ | exact VQ.bool _ | exact VQ.ptr _ _ | exact VQ.slice _ _ _ | exact VQ.func (by simp [zAW,zAV,zAZ]) (by simp [zAW,zAV,zAZ]) | exact VQ.agg (by simp [zAW,zAZ]) | exact VQ.tuple (by simp [zAW,zAV,zAZ])) ?_
    refine Dr.read (by first | rfl | kernel_rfl) (by rfl) (by assumption) (fun M hM => by simp only [zAY,zAU,zAT,sp_n,Nat.reduceLT,ne_eq,Nat.reduceEqDiff,zNf,fx,ext,List.getElem?_toArray,List.getElem?_cons_zero,List.getElem?_cons_succ,hn,ext] <;> rfl) (by rfl) (by first | exact VQ.int _ _ | exact VQ.bool _ | exact VQ.ptr _ _ | exact VQ.slice _ _ _ | exact VQ.func (by simp [zAW,zAV,zAZ]) (by simp [zAW,zAV,zAZ]) | exact VQ.agg (by simp [zAW,zAV,zAZ]) | exact VQ.tuple (by simp [zAW,zAV,zAZ])) ?_
    have FD : F D := hF D ((hoff _ (by omega)).trans (hC1.keep _ (by omega)))
    refine Dr.eff (by rfl) (by rfl) (pd1 := []) (pd2 := []) (by kernel_rfl) (by kernel_rfl) (ms0 := []) (A0 := C1) rfl (fun _ h => by cases h) F1 (by rfl) (v := undef) (A1 := D) (zBP rfl (fx_ok (by rfl) (by simp only [zAY,zAU,zAT,sp_n,Nat.reduceLT,ne_eq,Nat.reduceEqDiff,zNf,fx,str,zAR,Nat.zero_add,Nat.reduceAdd,tk24,hn,s8,q1,List.size_toArray,List.length_cons,List.length_nil,Nat.beq_refl]))) ?_
    refine Dr.read (by first | rfl | kernel_rfl) (by rfl) (by assumption) (fun M hM => by simp only [zAY,zAU,sp_n,zAO,Nat.reduceLT,fx,hn] <;> rfl) (by rfl) (by first | exact VQ.int _ _ | exact VQ.bool _ | exact VQ.ptr _ _ | exact VQ.slice _ _ _ | exact VQ.func (by simp [zAW,zAV,zAZ]) (by simp [zAW,zAV,zAZ]) | exact VQ.agg (by simp [zAW,zAV,zAZ]) | exact VQ.tuple (by simp [zAW,zAV,zAZ])) ?_
    refine Dr.nil (by rfl) (fun M hM => by cases hM) FD ⟨D,by rfl,?_⟩
    (repeat (first | refine Rn.seq hc ?_ | refine Rn.skip hc ?_ | refine Rn.block hc ?_ | refine Rn.inBlock hc ?_ | refine Rn.scope hc ?_ | refine Rn.inScope hc ?_))
    refine Rn.ret (zBR rfl (v := .agg #[.int .i64 mm,.slice p1 n1 c1,.slice p2 n2 c2]) ?_ ?_)
    · simp only [zAT,zAO,ne_eq,Nat.reduceEqDiff,zNf,ld,zAR,cls,Nat.zero_add,Nat.reduceAdd,tk24,s8,g0,g1,g2]
    · simp only [zAU,sp_n,zAO,Nat.reduceLT,hn]
      exact hT
end Go.Proofs.Ytdaljohmfnfgiaa
namespace Go.Proofs.Ytdaljohmfnfgiaa
open Go Go.RowKit Go.Proofs.Ytdaljohmfnfgiaa.Canon
set_option maxRecDepth 20000
section
variable {ρ : Operand → Value} {d : Option Tmp} {ty : TypeId} {pos : String} {af : Array Edge} {gu : Option (Nat × Bool)}
theorem fb22_2 {x y : Tmp} {v w : Value} (hv : ρ (.tmp x) = v) (hcv : zBY v = true) (hw : ρ (.tmp y) = w) (hcw : zBY w = true) : fobj Try.prog ρ ⟨d,.buildSlice 22 2 #[(0,.tmp x),(1,.tmp y)],ty,pos,af,gu⟩ = some ⟨[v,w],3,.sl 2 2⟩ := by
  have := fbld_fill (ρ := ρ) (pl := fun k => some (k * 1,1)) (n := 2) (ps := [(0,.tmp x),(1,.tmp y)]) (cs := [.int .i64 0,.int .i64 0]) (r := [v,w]) rfl (by simp [fbld,hv,hw,zBL hcv,zBL hcw])
  have hok : ([((0 : Nat),Operand.tmp x),(1,.tmp y)].all fun p => zBZ p.2) = true := rfl
  simp only [fobj,so22_2,et22,hok,this]
end
theorem Dr.callF {S : Canon.Spec} {ops : Array Oper} {F : AHeap → Prop} {nb i : Nat} {o : Oper} {os : List Oper} {T : Slots} {A : AHeap} {pd : List (Nat × FO)} {K : Slots → List AHeap → Prop} (he : zCS Try.prog (cvE Try.prog ops) o = true) (hf : isFl Try.prog o = false) {pd1 pd2 : List (Nat × FO)} (hp1 : pd.filter (keyIn ((nth (zCC ops.toList) i).getD 0)) = pd1) (hp2 : pd.filter (fun x => !keyIn ((nth (zCC ops.toList) i).getD 0) x) = pd2)
    {ms0 : List AHeap} {A0 : AHeap} (hp : zBS nb pd1 A = some (ms0,A0)) (hms : ∀ M ∈ ms0,F M) (hA : F A0) (hw : zCL (gd ops o) T = true) {R : Value → AHeap → Prop}
    (h : ∃ v A1,opRun Try.prog (runS Try.prog S) (zBH T) o A0 = some (v,A1) ∧ R v A1) (k : ∀ v A1,R v A1 → Dr Try.prog S ops F nb (i + 1) os (sput T o.dst v) pd2 A1 (fun T1 ms => K T1 (ms0 ++ (A0 :: ms)))) : Dr Try.prog S ops F nb i (o :: os) T pd A K := by
  obtain ⟨v,A1,h1,h2⟩ := h
  exact Dr.eff he hf hp1 hp2 hp hms hA hw h1 (k v A1 h2)
theorem veqs_self {f : Value → Value → Bool} : ∀ {l : List Value},(∀ v ∈ l,f v v = true) → veqs f l l = true
  | [],_ => rfl
  | x :: l,h => by
    have h1 := h x (List.mem_cons_self ..)
    have h2 := veqs_self (f := f) (l := l) fun v hv => h v (List.mem_cons_of_mem _ hv)
    show (match f x x with | true => veqs f l l | false => false) = true
    rw [h1]
    exact h2
theorem vq_fn (n : Nat) {p : FuncId} {ca : List Value} (h : ∀ v ∈ ca,veq n v v = true) : veq (n + 1) (.func (.func p) #[] ⟨ca⟩) (.func (.func p) #[] ⟨ca⟩) = true := by
  show (Nat.beq p p && (veqs (veq n) [] [] && veqs (veq n) ca ca)) = true
  rw [veqs_self h,Nat.beq_refl]
  rfl
theorem vq_both (n : Nat) {x y : Las} {p : FuncId} {ca : List Value} (h : ∀ v ∈ ca,veq n v v = true) : veq (n + 2) (bothV x y p ca) (bothV x y p ca) = true := by
  show veqs (veq (n + 1)) [_,_,_,_,_,_,_] [_,_,_,_,_,_,_] = true
  refine veqs_self fun v hv => ?_
  simp only [List.mem_cons,List.not_mem_nil,or_false] at hv
  rcases hv with rfl | rfl | rfl | rfl | rfl | rfl | rfl
  · exact zAW _ _ _
  · exact zAZ _ _ _ _
  · exact zAZ _ _ _ _
  · exact zAW _ _ _
  · exact zAZ _ _ _ _
  · exact zAZ _ _ _ _
  · exact vq_fn n h
def rsS (L : Nat) (m : Int) (E : Nat → Int) : Canon.Spec := fun g _ A v A1 => match g with
  | 82 => v = .int .i64 (L : Int) ∧ Nx A.next A A1
  | _ => Tld A 0 m E v A1
theorem result_both {A : AHeap} (hw : WF A) {x y : Las} (hox : x.ok A) (hoy : y.ok A) (hx0 : 0 < x.ro.length ∧ x.ro.length ≤ 120) (hy0 : 0 < y.ro.length ∧ y.ro.length ≤ 120) (hx6 : x.st.length ≤ 60) (hy6 : y.st.length ≤ 60) {p : FuncId} {ca : List Value} {f : Int → Int → Int} (hp : PutC p ca A f) (hca : ∀ n,∀ v ∈ ca,veq (n + 1) v v = true) (hxl : ∀ n,0 ≤ x.s n ∧ x.s n < 65536) (hyl : ∀ n,0 ≤ y.s n ∧ y.s n < 65536) :
    Con Try.prog 110 [bothV x y p ca] A (Tld A 0 x.m fun n => f (x.s n) (y.s n)) := by
  refine zAJ hc Try.func110 rfl (Nat.le_of_ble_eq_true rfl) ?_
  obtain ⟨A1,e1,hx1,hn1,b0,b1,b2,b3,b4,b5,b6⟩ := box7 hw (.int .i64 x.m) (.slice x.sa x.st.length x.sc) (.slice x.ra x.ro.length x.rc) (.int .i64 y.m) (.slice y.sa y.st.length y.sc) (.slice y.ra y.ro.length y.rc) (.func (.func p) #[] ⟨ca⟩) 123
  have hx2 : Nx A1.next A1 (A1.push (.cells #[.int .i64 0,.slice none 0 0,.slice none 0 0] 24)) := (Nx.refl hx1.wf _).push (Nat.le_refl _) _
  have l2 := zAM A1 (.cells #[.int .i64 0,.slice none 0 0,.slice none 0 0] 24)
  have hn2 : (A1.push (.cells #[.int .i64 0,.slice none 0 0,.slice none 0 0] 24)).next = A1.next + 1 := rfl
  generalize e2 : A1.push (.cells #[.int .i64 0,.slice none 0 0,.slice none 0 0] 24) = A2 at hx2 l2 hn2
  have hx02 : Nx A.next A A2 := hx1.trans (hx2.le hx1.next)
  have nA1 : A.next < A1.next := by omega
  obtain ⟨F,hF0,hF1,hF2,hF3,hF4,hF5,hF6,hF,hF'⟩ : ∃ F : AHeap → Prop,(∀ M,F M → cl M A.next 0 = some (.int .i64 x.m)) ∧ (∀ M,F M → cl M A.next 1 = some (.slice x.sa x.st.length x.sc)) ∧ (∀ M,F M → cl M A.next 2 = some (.slice x.ra x.ro.length x.rc)) ∧ (∀ M,F M → cl M A.next 3 = some (.int .i64 y.m)) ∧ (∀ M,F M → cl M A.next 4 = some (.slice y.sa y.st.length y.sc)) ∧ (∀ M,F M → cl M A.next 5 = some (.slice y.ra y.ro.length y.rc)) ∧ (∀ M,F M → cl M A.next 6 = some (.func (.func p) #[] ⟨ca⟩)) ∧ (∀ M,Nx A2.next A2 M → F M) ∧ (∀ M,Canon.look M.objs A.next = Canon.look A2.objs A.next → F M) :=
    ⟨fun M => ∀ o,cl M A.next o = cl A1 A.next o,fun M h => (h 0).trans b0,fun M h => (h 1).trans b1,fun M h => (h 2).trans b2,fun M h => (h 3).trans b3,fun M h => (h 4).trans b4,fun M h => (h 5).trans b5,fun M h => (h 6).trans b6,fun M h o => (h.cl (by omega) o).trans (hx2.cl nA1 o),fun M h o => (zAB h).trans (hx2.cl nA1 o)⟩
  have hbk : Nx A2.next A2 (bump A2 39) := Nx.bump (Nx.refl hx02.wf _) 39
  have FB := hF _ hbk
  obtain ⟨f1,f2,f3,f4⟩ := zDZ hx0.1 hy0.1
  have hL : lcmN x.ro.length y.ro.length ≤ 120 * 120 := Nat.le_trans f4 (Nat.mul_le_mul hx0.2 hy0.2)
  have hPx : Per (fun n => f (x.s n) (y.s n)) (max x.st.length y.st.length) (lcmN x.ro.length y.ro.length) := by
    have h1 : Per x.s x.st.length x.ro.length := atL_per hx0.1
    have h2 : Per y.s y.st.length y.ro.length := atL_per hy0.1
    obtain ⟨u,hu⟩ := Nat.dvd_of_mod_eq_zero f2
    obtain ⟨v,hv⟩ := Nat.dvd_of_mod_eq_zero f3
    refine ⟨f1,fun n hn => ?_⟩
    have e1 := h1.times u n (by omega)
    have e2 := h2.times v n (by omega)
    rw [Nat.mul_comm,← hu] at e1
    rw [Nat.mul_comm,← hv] at e2
    show f (x.s _) (y.s _) = f (x.s n) (y.s n)
    rw [e1,e2]
  obtain ⟨L,hL0⟩ : ∃ L,L = lcmN x.ro.length y.ro.length := ⟨_,rfl⟩
  rw [← hL0] at f1 hL hPx
  obtain ⟨E,hE⟩ : ∃ E : Nat → Int,E = fun n => f (x.s n) (y.s n) := ⟨_,rfl⟩
  rw [← hE] at hPx ⊢
  have hvq : VQ (.func (.func p) #[] ⟨ca⟩) := vq_fn 4 (hca 3)
  have hvb : VQ (bothV x y p ca) := vq_both 3 (hca 2)
  have hvf : VQ (.func (.func 115) #[bothV x y p ca] #[]) := VQ.func (l := [bothV x y p ca]) (m := []) (fun v hv => by rw [List.mem_singleton] at hv; rw [hv]; exact vq_both 2 (hca 1)) (fun v hv => absurd hv (by simp))
  rw [s_in1]
  unfold bothV at hvb hvf ⊢
  (repeat (first | refine Rn.seq hc ?_ | refine Rn.skip hc ?_ | refine Rn.block hc ?_ | refine Rn.inBlock hc ?_ | refine Rn.scope hc ?_ | refine Rn.inScope hc ?_))
  refine Rn.reg hc rfl ?_
  simp only [zAY,zAS,zAU,Nat.reduceLT,gd,zAX,rops,fx,zOi,zEl,Value.cells,show Try.f110.ntmps = 41 from rfl,e1,ze24,e2]
  (repeat (first | refine Rn.seq hc ?_ | refine Rn.skip hc ?_ | refine Rn.block hc ?_ | refine Rn.inBlock hc ?_ | refine Rn.scope hc ?_ | refine Rn.inScope hc ?_))
  refine Rn.drawnF hc hx (rsS L x.m E) F (n := 4) (k := 39) (by kernel_rfl) (by kernel_rfl) (by rfl) ?_
  refine Dr.read (by first | rfl | kernel_rfl) (by rfl) (by assumption) (fun M hM => by simp only [zAY,zAU,zAT,sp_n,Nat.reduceLT,ne_eq,Nat.reduceEqDiff,zNf,fx,fad,zAR,Nat.add_zero,fo123_0] <;> rfl) (by rfl) (by first | exact VQ.int _ _ | exact VQ.bool _ | exact VQ.ptr _ _ | exact VQ.slice _ _ _ | exact VQ.func (by simp [zAW,zAV,zAZ]) (by simp [zAW,zAV,zAZ]) | exact VQ.agg (by simp [zAW,zAV,zAZ]) | exact VQ.tuple (by simp [zAW,zAV,zAZ])) ?_
  refine Dr.read (by first | rfl | kernel_rfl) (by rfl) (by assumption) (fun M hM => by simp only [zAY,zAU,sp_n,Nat.reduceLT,fx,fad,zAR,Nat.add_zero,fo119_0] <;> rfl) (by rfl) (by first | exact VQ.int _ _ | exact VQ.bool _ | exact VQ.ptr _ _ | exact VQ.slice _ _ _ | exact VQ.func (by simp [zAW,zAV,zAZ]) (by simp [zAW,zAV,zAZ]) | exact VQ.agg (by simp [zAW,zAV,zAZ]) | exact VQ.tuple (by simp [zAW,zAV,zAZ])) ?_
  refine Dr.read (by first | rfl | kernel_rfl) (by rfl) (by assumption) (fun M hM => by simp only [zAY,zAU,sp_n,Nat.reduceLT,fx,fad,zAR,Nat.add_zero,fo86_0] <;> rfl) (by rfl) (by first | exact VQ.int _ _ | exact VQ.bool _ | exact VQ.ptr _ _ | exact VQ.slice _ _ _ | exact VQ.func (by simp [zAW,zAV,zAZ]) (by simp [zAW,zAV,zAZ]) | exact VQ.agg (by simp [zAW,zAV,zAZ]) | exact VQ.tuple (by simp [zAW,zAV,zAZ])) ?_
  refine Dr.read (by first | rfl | kernel_rfl) (by rfl) (by assumption) (fun M hM => by simp only [zAY,zAU,sp_n,Nat.reduceLT,fx,fad,zAR,Nat.add_zero,zBO] <;> rfl) (by rfl) (by first | exact VQ.int _ _ | exact VQ.bool _ | exact VQ.ptr _ _ | exact VQ.slice _ _ _ | exact VQ.func (by simp [zAW,zAV,zAZ]) (by simp [zAW,zAV,zAZ]) | exact VQ.agg (by simp [zAW,zAV,zAZ]) | exact VQ.tuple (by simp [zAW,zAV,zAZ])) ?_
  refine Dr.read (by first | rfl | kernel_rfl) (by rfl) (by assumption) (fun M hM => by simp only [zAY,zAU,sp_n,Nat.reduceLT,fx,ld,zAR,tk3,hF0 M hM] <;> rfl) (by rfl) (by first | exact VQ.int _ _ | exact VQ.bool _ | exact VQ.ptr _ _ | exact VQ.slice _ _ _ | exact VQ.func (by simp [zAW,zAV,zAZ]) (by simp [zAW,zAV,zAZ]) | exact VQ.agg (by simp [zAW,zAV,zAZ]) | exact VQ.tuple (by simp [zAW,zAV,zAZ])) ?_
  refine Dr.read (by first | rfl | kernel_rfl) (by rfl) (by assumption) (fun M hM => by simp only [zAY,zAU,zAT,sp_n,Nat.reduceLT,ne_eq,Nat.reduceEqDiff,zNf,fx,fad,zAR,Nat.add_zero,fo123_0] <;> rfl) (by rfl) (by first | exact VQ.int _ _ | exact VQ.bool _ | exact VQ.ptr _ _ | exact VQ.slice _ _ _ | exact VQ.func (by simp [zAW,zAV,zAZ]) (by simp [zAW,zAV,zAZ]) | exact VQ.agg (by simp [zAW,zAV,zAZ]) | exact VQ.tuple (by simp [zAW,zAV,zAZ])) ?_
  refine Dr.read (by first | rfl | kernel_rfl) (by rfl) (by assumption) (fun M hM => by simp only [zAY,zAU,sp_n,Nat.reduceLT,fx,fad,zAR,Nat.add_zero,fo119_0] <;> rfl) (by rfl) (by first | exact VQ.int _ _ | exact VQ.bool _ | exact VQ.ptr _ _ | exact VQ.slice _ _ _ | exact VQ.func (by simp [zAW,zAV,zAZ]) (by simp [zAW,zAV,zAZ]) | exact VQ.agg (by simp [zAW,zAV,zAZ]) | exact VQ.tuple (by simp [zAW,zAV,zAZ])) ?_
  refine Dr.read (by first | rfl | kernel_rfl) (by rfl) (by assumption) (fun M hM => by simp only [zAY,zAU,sp_n,Nat.reduceLT,fx,fad,zAR,Nat.add_zero,fo86_0] <;> rfl) (by rfl) (by first | exact VQ.int _ _ | exact VQ.bool _ | exact VQ.ptr _ _ | exact VQ.slice _ _ _ | exact VQ.func (by simp [zAW,zAV,zAZ]) (by simp [zAW,zAV,zAZ]) | exact VQ.agg (by simp [zAW,zAV,zAZ]) | exact VQ.tuple (by simp [zAW,zAV,zAZ])) ?_
  refine Dr.read (by first | rfl | kernel_rfl) (by rfl) (by assumption) (fun M hM => by simp only [zAY,zAU,sp_n,Nat.reduceLT,fx,fad,zAR,Nat.zero_add,zBQ] <;> rfl) (by rfl) (by first | exact VQ.int _ _ | exact VQ.bool _ | exact VQ.ptr _ _ | exact VQ.slice _ _ _ | exact VQ.func (by simp [zAW,zAV,zAZ]) (by simp [zAW,zAV,zAZ]) | exact VQ.agg (by simp [zAW,zAV,zAZ]) | exact VQ.tuple (by simp [zAW,zAV,zAZ])) ?_
  refine Dr.read (by first | rfl | kernel_rfl) (by rfl) (by assumption) (fun M hM => by simp only [zAY,zAU,sp_n,Nat.reduceLT,fx,ld,zAR,tk22,hF1 M hM] <;> rfl) (by rfl) (by first | exact VQ.int _ _ | exact VQ.bool _ | exact VQ.ptr _ _ | exact VQ.slice _ _ _ | exact VQ.func (by simp [zAW,zAV,zAZ]) (by simp [zAW,zAV,zAZ]) | exact VQ.agg (by simp [zAW,zAV,zAZ]) | exact VQ.tuple (by simp [zAW,zAV,zAZ])) ?_
  refine Dr.read (by first | rfl | kernel_rfl) (by rfl) (by assumption) (fun M hM => by simp only [zAY,zAU,sp_n,Nat.reduceLT,fx,lng,un22] <;> rfl) (by rfl) (by first | exact VQ.int _ _ | exact VQ.bool _ | exact VQ.ptr _ _ | exact VQ.slice _ _ _ | exact VQ.func (by simp [zAW,zAV,zAZ]) (by simp [zAW,zAV,zAZ]) | exact VQ.agg (by simp [zAW,zAV,zAZ]) | exact VQ.tuple (by simp [zAW,zAV,zAZ])) ?_
  refine Dr.read (by first | rfl | kernel_rfl) (by rfl) (by assumption) (fun M hM => by simp only [zAY,zAU,zAT,sp_n,Nat.reduceLT,ne_eq,Nat.reduceEqDiff,zNf,fx,fad,zAR,Nat.zero_add,fo123_1] <;> rfl) (by rfl) (by first | exact VQ.int _ _ | exact VQ.bool _ | exact VQ.ptr _ _ | exact VQ.slice _ _ _ | exact VQ.func (by simp [zAW,zAV,zAZ]) (by simp [zAW,zAV,zAZ]) | exact VQ.agg (by simp [zAW,zAV,zAZ]) | exact VQ.tuple (by simp [zAW,zAV,zAZ])) ?_
  refine Dr.read (by first | rfl | kernel_rfl) (by rfl) (by assumption) (fun M hM => by simp only [zAY,zAU,sp_n,Nat.reduceLT,fx,fad,zAR,Nat.add_zero,fo121_0] <;> rfl) (by rfl) (by first | exact VQ.int _ _ | exact VQ.bool _ | exact VQ.ptr _ _ | exact VQ.slice _ _ _ | exact VQ.func (by simp [zAW,zAV,zAZ]) (by simp [zAW,zAV,zAZ]) | exact VQ.agg (by simp [zAW,zAV,zAZ]) | exact VQ.tuple (by simp [zAW,zAV,zAZ])) ?_
  refine Dr.read (by first | rfl | kernel_rfl) (by rfl) (by assumption) (fun M hM => by simp only [zAY,zAU,sp_n,Nat.reduceLT,fx,fad,zAR,Nat.add_zero,fo86_0] <;> rfl) (by rfl) (by first | exact VQ.int _ _ | exact VQ.bool _ | exact VQ.ptr _ _ | exact VQ.slice _ _ _ | exact VQ.func (by simp [zAW,zAV,zAZ]) (by simp [zAW,zAV,zAZ]) | exact VQ.agg (by simp [zAW,zAV,zAZ]) | exact VQ.tuple (by simp [zAW,zAV,zAZ])) ?_
  refine Dr.read (by first | rfl | kernel_rfl) (by rfl) (by assumption) (fun M hM => by simp only [zAY,zAU,sp_n,Nat.reduceLT,fx,fad,zAR,Nat.reduceAdd,zBQ] <;> rfl) (by rfl) (by first | exact VQ.int _ _ | exact VQ.bool _ | exact VQ.ptr _ _ | exact VQ.slice _ _ _ | exact VQ.func (by simp [zAW,zAV,zAZ]) (by simp [zAW,zAV,zAZ]) | exact VQ.agg (by simp [zAW,zAV,zAZ]) | exact VQ.tuple (by simp [zAW,zAV,zAZ])) ?_
  refine Dr.read (by first | rfl | kernel_rfl) (by rfl) (by assumption) (fun M hM => by simp only [zAY,zAU,sp_n,Nat.reduceLT,fx,ld,zAR,tk22,hF4 M hM] <;> rfl) (by rfl) (by first | exact VQ.int _ _ | exact VQ.bool _ | exact VQ.ptr _ _ | exact VQ.slice _ _ _ | exact VQ.func (by simp [zAW,zAV,zAZ]) (by simp [zAW,zAV,zAZ]) | exact VQ.agg (by simp [zAW,zAV,zAZ]) | exact VQ.tuple (by simp [zAW,zAV,zAZ])) ?_
  refine Dr.read (by first | rfl | kernel_rfl) (by rfl) (by assumption) (fun M hM => by simp only [zAY,zAU,sp_n,Nat.reduceLT,fx,lng,un22] <;> rfl) (by rfl) (by first | exact VQ.int _ _ | exact VQ.bool _ | exact VQ.ptr _ _ | exact VQ.slice _ _ _ | exact VQ.func (by simp [zAW,zAV,zAZ]) (by simp [zAW,zAV,zAZ]) | exact VQ.agg (by simp [zAW,zAV,zAZ]) | exact VQ.tuple (by simp [zAW,zAV,zAZ])) ?_
  refine Dr.read (by first | rfl | kernel_rfl) (by rfl) (by assumption) (fun M hM => by simp only [zAU,zAT,sp_n,Nat.reduceLT,ne_eq,Nat.reduceEqDiff,zNf,fx,ae_mxd2,mxd_int,mxd_nat] <;> rfl) (by rfl) (by first | exact VQ.int _ _ | exact VQ.bool _ | exact VQ.ptr _ _ | exact VQ.slice _ _ _ | exact VQ.func (by simp [zAW,zAV,zAZ]) (by simp [zAW,zAV,zAZ]) | exact VQ.agg (by simp [zAW,zAV,zAZ]) | exact VQ.tuple (by simp [zAW,zAV,zAZ])) ?_
  refine Dr.read (by first | rfl | kernel_rfl) (by rfl) (by assumption) (fun M hM => by simp only [zAY,zAU,zAT,sp_n,Nat.reduceLT,ne_eq,Nat.reduceEqDiff,zNf,fx,fad,zAR,Nat.add_zero,fo123_0] <;> rfl) (by rfl) (by first | exact VQ.int _ _ | exact VQ.bool _ | exact VQ.ptr _ _ | exact VQ.slice _ _ _ | exact VQ.func (by simp [zAW,zAV,zAZ]) (by simp [zAW,zAV,zAZ]) | exact VQ.agg (by simp [zAW,zAV,zAZ]) | exact VQ.tuple (by simp [zAW,zAV,zAZ])) ?_
  refine Dr.read (by first | rfl | kernel_rfl) (by rfl) (by assumption) (fun M hM => by simp only [zAY,zAU,sp_n,Nat.reduceLT,fx,fad,zAR,Nat.add_zero,fo119_0] <;> rfl) (by rfl) (by first | exact VQ.int _ _ | exact VQ.bool _ | exact VQ.ptr _ _ | exact VQ.slice _ _ _ | exact VQ.func (by simp [zAW,zAV,zAZ]) (by simp [zAW,zAV,zAZ]) | exact VQ.agg (by simp [zAW,zAV,zAZ]) | exact VQ.tuple (by simp [zAW,zAV,zAZ])) ?_
  refine Dr.read (by first | rfl | kernel_rfl) (by rfl) (by assumption) (fun M hM => by simp only [zAY,zAU,sp_n,Nat.reduceLT,fx,fad,zAR,Nat.add_zero,fo86_0] <;> rfl) (by rfl) (by first | exact VQ.int _ _ | exact VQ.bool _ | exact VQ.ptr _ _ | exact VQ.slice _ _ _ | exact VQ.func (by simp [zAW,zAV,zAZ]) (by simp [zAW,zAV,zAZ]) | exact VQ.agg (by simp [zAW,zAV,zAZ]) | exact VQ.tuple (by simp [zAW,zAV,zAZ])) ?_
  refine Dr.read (by first | rfl | kernel_rfl) (by rfl) (by assumption) (fun M hM => by simp only [zAY,zAU,sp_n,Nat.reduceLT,fx,fad,zAR,Nat.zero_add,zBE] <;> rfl) (by rfl) (by first | exact VQ.int _ _ | exact VQ.bool _ | exact VQ.ptr _ _ | exact VQ.slice _ _ _ | exact VQ.func (by simp [zAW,zAV,zAZ]) (by simp [zAW,zAV,zAZ]) | exact VQ.agg (by simp [zAW,zAV,zAZ]) | exact VQ.tuple (by simp [zAW,zAV,zAZ])) ?_
  refine Dr.read (by first | rfl | kernel_rfl) (by rfl) (by assumption) (fun M hM => by simp only [zAY,zAU,sp_n,Nat.reduceLT,fx,ld,zAR,tk22,hF2 M hM] <;> rfl) (by rfl) (by first | exact VQ.int _ _ | exact VQ.bool _ | exact VQ.ptr _ _ | exact VQ.slice _ _ _ | exact VQ.func (by simp [zAW,zAV,zAZ]) (by simp [zAW,zAV,zAZ]) | exact VQ.agg (by simp [zAW,zAV,zAZ]) | exact VQ.tuple (by simp [zAW,zAV,zAZ])) ?_
  refine Dr.read (by first | rfl | kernel_rfl) (by rfl) (by assumption) (fun M hM => by simp only [zAY,zAU,sp_n,Nat.reduceLT,fx,lng,un22] <;> rfl) (by rfl) (by first | exact VQ.int _ _ | exact VQ.bool _ | exact VQ.ptr _ _ | exact VQ.slice _ _ _ | exact VQ.func (by simp [zAW,zAV,zAZ]) (by simp [zAW,zAV,zAZ]) | exact VQ.agg (by simp [zAW,zAV,zAZ]) | exact VQ.tuple (by simp [zAW,zAV,zAZ])) ?_
  refine Dr.read (by first | rfl | kernel_rfl) (by rfl) (by assumption) (fun M hM => by simp only [zAY,zAU,zAT,sp_n,Nat.reduceLT,ne_eq,Nat.reduceEqDiff,zNf,fx,fad,zAR,Nat.zero_add,fo123_1] <;> rfl) (by rfl) (by first | exact VQ.int _ _ | exact VQ.bool _ | exact VQ.ptr _ _ | exact VQ.slice _ _ _ | exact VQ.func (by simp [zAW,zAV,zAZ]) (by simp [zAW,zAV,zAZ]) | exact VQ.agg (by simp [zAW,zAV,zAZ]) | exact VQ.tuple (by simp [zAW,zAV,zAZ])) ?_
  refine Dr.read (by first | rfl | kernel_rfl) (by rfl) (by assumption) (fun M hM => by simp only [zAY,zAU,sp_n,Nat.reduceLT,fx,fad,zAR,Nat.add_zero,fo121_0] <;> rfl) (by rfl) (by first | exact VQ.int _ _ | exact VQ.bool _ | exact VQ.ptr _ _ | exact VQ.slice _ _ _ | exact VQ.func (by simp [zAW,zAV,zAZ]) (by simp [zAW,zAV,zAZ]) | exact VQ.agg (by simp [zAW,zAV,zAZ]) | exact VQ.tuple (by simp [zAW,zAV,zAZ])) ?_
  refine Dr.read (by first | rfl | kernel_rfl) (by rfl) (by assumption) (fun M hM => by simp only [zAY,zAU,sp_n,Nat.reduceLT,fx,fad,zAR,Nat.add_zero,fo86_0] <;> rfl) (by rfl) (by first | exact VQ.int _ _ | exact VQ.bool _ | exact VQ.ptr _ _ | exact VQ.slice _ _ _ | exact VQ.func (by simp [zAW,zAV,zAZ]) (by simp [zAW,zAV,zAZ]) | exact VQ.agg (by simp [zAW,zAV,zAZ]) | exact VQ.tuple (by simp [zAW,zAV,zAZ])) ?_
  refine Dr.read (by first | rfl | kernel_rfl) (by rfl) (by assumption) (fun M hM => by simp only [zAY,zAU,sp_n,Nat.reduceLT,fx,fad,zAR,Nat.reduceAdd,zBE] <;> rfl) (by rfl) (by first | exact VQ.int _ _ | exact VQ.bool _ | exact VQ.ptr _ _ | exact VQ.slice _ _ _ | exact VQ.func (by simp [zAW,zAV,zAZ]) (by simp [zAW,zAV,zAZ]) | exact VQ.agg (by simp [zAW,zAV,zAZ]) | exact VQ.tuple (by simp [zAW,zAV,zAZ])) ?_
  refine Dr.read (by first | rfl | kernel_rfl) (by rfl) (by assumption) (fun M hM => by simp only [zAY,zAU,sp_n,Nat.reduceLT,fx,ld,zAR,tk22,hF5 M hM] <;> rfl) (by rfl) (by first | exact VQ.int _ _ | exact VQ.bool _ | exact VQ.ptr _ _ | exact VQ.slice _ _ _ | exact VQ.func (by simp [zAW,zAV,zAZ]) (by simp [zAW,zAV,zAZ]) | exact VQ.agg (by simp [zAW,zAV,zAZ]) | exact VQ.tuple (by simp [zAW,zAV,zAZ])) ?_
  refine Dr.read (by first | rfl | kernel_rfl) (by rfl) (by assumption) (fun M hM => by simp only [zAY,zAU,sp_n,Nat.reduceLT,fx,lng,un22] <;> rfl) (by rfl) (by first | exact VQ.int _ _ | exact VQ.bool _ | exact VQ.ptr _ _ | exact VQ.slice _ _ _ | exact VQ.func (by simp [zAW,zAV,zAZ]) (by simp [zAW,zAV,zAZ]) | exact VQ.agg (by simp [zAW,zAV,zAZ]) | exact VQ.tuple (by simp [zAW,zAV,zAZ])) ?_
  refine Dr.float (by rfl) (by rfl) (by rfl) (fb22_2 (v := .int .i64 (x.ro.length : Int)) (w := .int .i64 (y.ro.length : Int)) (by simp only [zAY,zAU,zAT,sp_n,Nat.reduceLT,ne_eq,Nat.reduceEqDiff,zNf]) rfl (by simp only [zAY,zAU,sp_n,Nat.reduceLT]) rfl) ?_
  obtain ⟨C1,p1,hxC1,eC1,lC1,kC1⟩ := zCP hbk (b := A2.next + 30) (by omega) (by rw [zAH]; omega) (hx02.wf.none (by omega)) [.int .i64 (x.ro.length : Int),.int .i64 (y.ro.length : Int)] 3 2 2
  rw [zAH] at eC1
  refine Dr.callF (by kernel_rfl) (by rfl) (pd1 := [(30,⟨[.int .i64 (x.ro.length : Int),.int .i64 (y.ro.length : Int)],3,.sl 2 2⟩)]) (pd2 := []) (by kernel_rfl) (by kernel_rfl) (ms0 := [bump A2 39]) (A0 := C1) (by simp only [zBS,p1]) (fun M hM => by rw [List.mem_singleton] at hM; rw [hM]; exact FB) (hF _ hxC1) (by rfl)
    (zBU (by rfl) ⟨by rfl,by rfl⟩ (by rfl) (xs := [.slice (some ⟨A2.next + 30,0,none⟩) 2 2]) (by simp only [zAY,zAU,sp_n,Nat.reduceLT,List.map_cons,List.map_nil,List.nil_append,List.append_nil,FK.val]) (Con.mono (lcm_two hxC1.wf (x := x.ro.length) (y := y.ro.length) (by rw [zCV lC1 rfl]; rfl) (by rw [zCV lC1 rfl]; rfl) (by omega) ⟨hx0.1,by omega⟩ ⟨hy0.1,by omega⟩) fun v A1 h => (⟨by rw [h.1,hL0],h.2⟩ : v = .int .i64 (L : Int) ∧ Nx C1.next C1 A1))) ?_
  rintro v C2 ⟨rfl,k2⟩
  have hC2 : Nx A2.next A2 C2 := hxC1.trans (k2.le hxC1.next)
  have FM2 := hF _ hC2
  have hAC2 : Nx A.next A C2 := hx02.trans (hC2.le hx02.next)
  refine Dr.read (by first | rfl | kernel_rfl) (by rfl) (by assumption) (fun M hM => by simp only [zAY,zAU,zAT,sp_n,Nat.reduceLT,ne_eq,Nat.reduceEqDiff,zNf,fx,ld,zAR,cls,Nat.zero_add,Nat.reduceAdd,tk123,hF0 M hM,hF1 M hM,hF2 M hM,hF3 M hM,hF4 M hM,hF5 M hM,hF6 M hM] <;> rfl) (by rfl) (by first | exact hvb | exact VQ.int _ _ | exact VQ.bool _ | exact VQ.ptr _ _ | exact VQ.slice _ _ _ | exact VQ.func (by simp [zAW,zAV,zAZ]) (by simp [zAW,zAV,zAZ]) | exact VQ.agg (by simp [zAW,zAV,zAZ]) | exact VQ.tuple (by simp [zAW,zAV,zAZ])) ?_
  refine Dr.read (by first | rfl | kernel_rfl) (by rfl) (by assumption) (fun M hM => by simp only [zAY,zAU,sp_n,Nat.reduceLT,fx,Nat.zero_add,Nat.reduceAdd,ae_mkbound] <;> rfl) (by rfl) (by first | exact hvf | exact VQ.int _ _ | exact VQ.bool _ | exact VQ.ptr _ _ | exact VQ.slice _ _ _ | exact VQ.func (by simp [zAW,zAV,zAZ]) (by simp [zAW,zAV,zAZ]) | exact VQ.agg (by simp [zAW,zAV,zAZ]) | exact VQ.tuple (by simp [zAW,zAV,zAZ])) ?_
  have hbr := build_run hC2.wf (m := x.m) (stem := max x.st.length y.st.length) (round := L) (g := 115) (fi := bothV x y p ca) (E := E) (fun B hB n hn => by rw [hE]; exact both_at hB.wf (hox.nx (hAC2.trans (hB.le hAC2.next))) (hoy.nx (hAC2.trans (hB.le hAC2.next))) hx0.1 hy0.1 (hp.nx (hAC2.trans (hB.le hAC2.next))) hvq hxl hyl (by omega)) (by omega) (by omega) hPx
  refine Dr.call (by kernel_rfl) (by rfl) (by assumption) (by rfl) (zBU (by rfl) ⟨by rfl,by rfl⟩ (by rfl) (xs := [.int .i64 x.m,.int .i64 ((max x.st.length y.st.length : Nat) : Int),.int .i64 (L : Int),.func (.func 115) #[bothV x y p ca] #[]]) (by simp only [zAY,zAU,zAT,sp_n,Nat.reduceLT,ne_eq,Nat.reduceEqDiff,zNf,List.map_cons,List.map_nil,List.nil_append,List.append_nil]; rfl) hbr) ?_
  intro w C3 hT0
  have hT0 : Tld C2 0 x.m E w C3 := hT0
  have hC3 : Nx A2.next A2 C3 := hC2.trans (hT0.1.le hC2.next)
  have F3 := hF _ hC3
  obtain ⟨mm,n1,n2,ee,q1,c1,q2,c2,rfl,D,r1,g0,g1,g2,hoff,hT⟩ := Tld.fin (b := A1.next) hAC2 (by omega) (by have := hC2.next; omega) ((hC2.keep _ (by omega)).trans l2) hT0
  refine Dr.read (by first | rfl | kernel_rfl) (by rfl) (by assumption) (fun M hM => by simp only [zAY,zAU,sp_n,Nat.reduceLT,fx,ext,List.getElem?_toArray,List.getElem?_cons_zero,Nat.zero_add,Nat.reduceAdd,ext] <;> rfl) (by rfl) (by first | exact VQ.int _ _ | exact VQ.bool _ | exact VQ.ptr _ _ | exact VQ.slice _ _ _ | exact VQ.func (by simp [zAW,zAV,zAZ]) (by simp [zAW,zAV,zAZ]) | exact VQ.agg (by simp [zAW,zAZ]) | exact VQ.tuple (by simp [zAW,zAV,zAZ])) ?_
  refine Dr.read (by first | rfl | kernel_rfl) (by rfl) (by assumption) (fun M hM => by simp only [zAY,zAU,zAT,sp_n,Nat.reduceLT,ne_eq,Nat.reduceEqDiff,zNf,fx,ext,List.getElem?_toArray,List.getElem?_cons_zero,List.getElem?_cons_succ,Nat.zero_add,Nat.reduceAdd,ext] <;> rfl) (by rfl) (by first | exact VQ.int _ _ | exact VQ.bool _ | exact VQ.ptr _ _ | exact VQ.slice _ _ _ | exact VQ.func (by simp [zAW,zAV,zAZ]) (by simp [zAW,zAV,zAZ]) | exact VQ.agg (by simp [zAW,zAV,zAZ]) | exact VQ.tuple (by simp [zAW,zAV,zAZ])) ?_
  have FD : F D := hF' D ((hoff _ (by omega)).trans (hC3.keep _ (by omega)))
  refine Dr.eff (by rfl) (by rfl) (pd1 := []) (pd2 := []) (by kernel_rfl) (by kernel_rfl) (ms0 := []) (A0 := C3) rfl (fun _ h => by cases h) F3 (by rfl) (v := undef) (A1 := D) (zBP rfl (fx_ok (by rfl) (by simp only [zAY,zAU,zAT,sp_n,Nat.reduceLT,ne_eq,Nat.reduceEqDiff,zNf,fx,str,zAR,Nat.zero_add,Nat.reduceAdd,tk24,r1,List.size_toArray,List.length_cons,List.length_nil,Nat.beq_refl]))) ?_
  refine Dr.read (by first | rfl | kernel_rfl) (by rfl) (by assumption) (fun M hM => by simp only [zAY,zAU,sp_n,zAO,Nat.reduceLT,fx,Nat.zero_add,Nat.reduceAdd] <;> rfl) (by rfl) (by first | exact VQ.int _ _ | exact VQ.bool _ | exact VQ.ptr _ _ | exact VQ.slice _ _ _ | exact VQ.func (by simp [zAW,zAV,zAZ]) (by simp [zAW,zAV,zAZ]) | exact VQ.agg (by simp [zAW,zAV,zAZ]) | exact VQ.tuple (by simp [zAW,zAV,zAZ])) ?_
  refine Dr.nil (by rfl) (fun M hM => by cases hM) FD ⟨D,by rfl,?_⟩
  (repeat (first | refine Rn.seq hc ?_ | refine Rn.skip hc ?_ | refine Rn.block hc ?_ | refine Rn.inBlock hc ?_ | refine Rn.scope hc ?_ | refine Rn.inScope hc ?_))
  refine Rn.ret (zBR rfl (v := .agg #[.int .i64 mm,.slice q1 n1 c1,.slice q2 n2 c2]) ?_ ?_)
  · simp only [zAU,zAT,sp_n,zAO,Nat.reduceLT,ne_eq,Nat.reduceEqDiff,zNf,ld,zAR,cls,Nat.zero_add,Nat.reduceAdd,tk24,g0,g1,g2]
  · simp only [zAU,sp_n,zAO,Nat.reduceLT]
    exact hT
end Go.Proofs.Ytdaljohmfnfgiaa
namespace Go.Proofs.Ytdaljohmfnfgiaa
open Go Go.RowKit Go.Proofs.Ytdaljohmfnfgiaa.Canon
set_option maxRecDepth 20000
theorem errL_all {m : Int} {st ro : List Int} (h : errL m st ro = 0) : (2 ≤ m ∧ m ≤ 65521) ∧ st.all (inB m) = true ∧ ro.all (inB m) = true := by
  unfold errL at h
  split at h
  · omega
  · rename_i h1
    split at h
    · omega
    · split at h
      · rename_i h3
        simp only [Bool.and_eq_true] at h3
        simp only [badM,Bool.or_eq_true,decide_eq_true_eq] at h1
        exact ⟨by omega,h3.1,h3.2⟩
      · omega
theorem err_lim {x : Las} (h : x.err = 0) : (2 ≤ x.m ∧ x.m ≤ 65521) ∧ (∀ n,0 ≤ x.s n ∧ x.s n < x.m) := by
  obtain ⟨h1,h2,h3⟩ := errL_all h
  exact ⟨h1,atL_in h2 h3 (errL_pos h)⟩
theorem errs_two0 {x y : Las} (h : errs [x,y] [x,y] = 0) : x.err = 0 ∧ y.err = 0 ∧ x.m = y.m := by
  rw [errs_two] at h
  by_cases h1 : x.err = 0
  · rw [if_neg (by simp [h1])] at h
    by_cases h2 : y.err = 0
    · rw [if_neg (by simp [h2])] at h
      split at h
      · rename_i h3; exact ⟨h1,h2,h3⟩
      · omega
    · rw [if_pos h2] at h; exact absurd h h2
  · rw [if_pos h1] at h; exact absurd h h1
theorem pair_run {A : AHeap} (hw : WF A) {x y : Las} (hox : x.ok A) (hoy : y.ok A) {p : FuncId} {ca : List Value} {f : Int → Int → Int} (hp : errs [x,y] [x,y] = 0 → PutC p ca A f) (hca : ∀ n,∀ v ∈ ca,veq (n + 1) v v = true) :
    Con Try.prog 84 [x.v,y.v,.func (.func p) #[] ⟨ca⟩] A (Tld A (errs [x,y] [x,y]) x.m fun n => f (x.s n) (y.s n)) := by
  refine zAJ hc Try.func84 rfl (Nat.le_of_ble_eq_true rfl) ?_
  obtain ⟨A1,e1,hx1,hn1,b0,b1,b2⟩ := box3 hw (.int .i64 x.m) (.slice x.sa x.st.length x.sc) (.slice x.ra x.ro.length x.rc) 24
  obtain ⟨A2,e2,hx2,hn2,c0,c1,c2⟩ := box3 hx1.wf (.int .i64 y.m) (.slice y.sa y.st.length y.sc) (.slice y.ra y.ro.length y.rc) 24
  have hx02 : Nx A.next A A2 := hx1.trans (hx2.le hx1.next)
  have hxr : Nx A2.next A2 (A2.push (.cells #[.int .i64 0,.slice none 0 0,.slice none 0 0] 24)) := (Nx.refl hx2.wf _).push (Nat.le_refl _) _
  have lr := zAM A2 (.cells #[.int .i64 0,.slice none 0 0,.slice none 0 0] 24)
  have hnr : (A2.push (.cells #[.int .i64 0,.slice none 0 0,.slice none 0 0] 24)).next = A2.next + 1 := rfl
  generalize er : A2.push (.cells #[.int .i64 0,.slice none 0 0,.slice none 0 0] 24) = Ar at hxr lr hnr
  have b0 := (hxr.cl (show A.next < A2.next by omega) 0).trans ((hx2.cl (show A.next < A1.next by omega) 0).trans b0)
  have b1 := (hxr.cl (show A.next < A2.next by omega) 1).trans ((hx2.cl (show A.next < A1.next by omega) 1).trans b1)
  have b2 := (hxr.cl (show A.next < A2.next by omega) 2).trans ((hx2.cl (show A.next < A1.next by omega) 2).trans b2)
  have c0 := (hxr.cl (show A1.next < A2.next by omega) 0).trans c0
  have c1 := (hxr.cl (show A1.next < A2.next by omega) 1).trans c1
  have c2 := (hxr.cl (show A1.next < A2.next by omega) 2).trans c2
  have hx0r : Nx A.next A Ar := hx02.trans (hxr.le hx02.next)
  have hx3 : Nx Ar.next Ar (Ar.push (.cells #[.int .i64 x.m,.slice x.sa x.st.length x.sc,.slice x.ra x.ro.length x.rc,.int .i64 y.m,.slice y.sa y.st.length y.sc,.slice y.ra y.ro.length y.rc] 24)) := (Nx.refl hx0r.wf _).push (Nat.le_refl _) _
  have l3 := zAM Ar (.cells #[.int .i64 x.m,.slice x.sa x.st.length x.sc,.slice x.ra x.ro.length x.rc,.int .i64 y.m,.slice y.sa y.st.length y.sc,.slice y.ra y.ro.length y.rc] 24)
  have hn3 : (Ar.push (.cells #[.int .i64 x.m,.slice x.sa x.st.length x.sc,.slice x.ra x.ro.length x.rc,.int .i64 y.m,.slice y.sa y.st.length y.sc,.slice y.ra y.ro.length y.rc] 24)).next = Ar.next + 1 := rfl
  generalize e3 : Ar.push (.cells #[.int .i64 x.m,.slice x.sa x.st.length x.sc,.slice x.ra x.ro.length x.rc,.int .i64 y.m,.slice y.sa y.st.length y.sc,.slice y.ra y.ro.length y.rc] 24) = A3 at hx3 l3 hn3
  have hx03 : Nx A.next A A3 := hx0r.trans (hx3.le hx0r.next)
  have hrow := row_two (hox.nx hx03) (hoy.nx hx03) (b := Ar.next) (by omega) l3
  rw [s_in3]
  unfold Las.v
  (repeat (first | refine Rn.seq hc ?_ | refine Rn.skip hc ?_ | refine Rn.block hc ?_ | refine Rn.inBlock hc ?_ | refine Rn.scope hc ?_ | refine Rn.inScope hc ?_))
  refine Rn.reg hc rfl ?_
  simp only [zAY,zAS,zAU,zAT,sp_n,Nat.reduceLT,ne_eq,Nat.reduceEqDiff,zNf,gd,zAX,rops,fx,zOi,zEl,Value.cells,show Try.f84.ntmps = 28 from rfl,e1,e2,ze24,er]
  (repeat (first | refine Rn.seq hc ?_ | refine Rn.skip hc ?_ | refine Rn.block hc ?_ | refine Rn.inBlock hc ?_ | refine Rn.scope hc ?_ | refine Rn.inScope hc ?_))
  refine Rn.region hc fun K hK => ?_
  refine Wo.run hc 3 rfl rfl rfl ?_
  simp (maxSteps := 2000000) only [List.drop_zero,List.take_succ_cons,List.take_zero,zAY,zAU,zAT,sp_n,Nat.reduceLT,ne_eq,Nat.reduceEqDiff,not_false_eq_true,gd,zAX,List.nil_append,List.cons_append,rops,fx,ld,zAR,cls,Nat.zero_add,Option.some.injEq,exists_eq_left',Value.cells,Nat.reduceAdd,tk24,b0,b1,b2,c0,c1,c2,bs46_2,List.size_toArray,List.length_cons,List.length_nil,List.cons_append,List.nil_append,e3]
  refine Wo.call hc (by rfl) (by rfl) ⟨by rfl,by rfl⟩ (xs := [.slice (some ⟨Ar.next,0,none⟩) 2 2]) (by rfl) (by rfl) (by rfl) (Con.mono (check_all hx3.wf (l := [x,y]) hrow (by simp)) ?_)
  rintro w A4 ⟨rfl,hx4⟩
  refine Wo.run hc 1 rfl rfl rfl ?_
  simp (maxSteps := 2000000) only [List.drop_zero,List.drop_succ_cons,List.take_succ_cons,List.take_zero,zAY,zAU,sp_n,Nat.reduceLT,gd,zAX,rops,fx,Option.some.injEq,exists_eq_left',Nat.reduceAdd]
  refine Wo.done hc rfl (hK _ _ ?_)
  clear hK
  (repeat (first | refine Rn.seq hc ?_ | refine Rn.skip hc ?_ | refine Rn.block hc ?_ | refine Rn.inBlock hc ?_ | refine Rn.scope hc ?_ | refine Rn.inScope hc ?_))
  have hxr4 : Nx Ar.next Ar A4 := hx3.trans (hx4.le hx3.next)
  have hx04 : Nx A.next A A4 := hx0r.trans (hxr4.le hx0r.next)
  have n4 : Ar.next < A4.next := by have := hx4.next; omega
  have b0 := (hxr4.cl (show A.next < Ar.next by omega) 0).trans b0
  have b1 := (hxr4.cl (show A.next < Ar.next by omega) 1).trans b1
  have b2 := (hxr4.cl (show A.next < Ar.next by omega) 2).trans b2
  have c0 := (hxr4.cl (show A1.next < Ar.next by omega) 0).trans c0
  have c1 := (hxr4.cl (show A1.next < Ar.next by omega) 1).trans c1
  have c2 := (hxr4.cl (show A1.next < Ar.next by omega) 2).trans c2
  have l4 : Canon.look A4.objs A2.next = _ := (hxr4.keep _ (by omega)).trans lr
  by_cases he : errs [x,y] [x,y] = 0
  · have hd : (!decide (errs [x,y] [x,y] = 0)) = false := by rw [decide_eq_true he]; rfl
    obtain ⟨ex,ey,exy⟩ := errs_two0 he
    obtain ⟨m1,m2,m3⟩ := err_len ex
    obtain ⟨k1,k2,k3⟩ := err_len ey
    obtain ⟨mx,lx⟩ := err_lim ex
    obtain ⟨my,ly⟩ := err_lim ey
    have hrb := result_both hx04.wf (hox.nx hx04) (hoy.nx hx04) ⟨m3,m2⟩ ⟨k3,k2⟩ m1 k1 ((hp he).nx hx04) hca (fun n => ⟨(lx n).1,by have := (lx n).2; omega⟩) (fun n => ⟨(ly n).1,by have := (ly n).2; omega⟩)
    refine Rn.reg hc rfl ?_
    simp only [zAY,zAS,zAU,sp_n,Nat.reduceLT,gd,zAX,rops,fx,zAD,zOi,zEl,hd]
    (repeat (first | refine Rn.seq hc ?_ | refine Rn.skip hc ?_ | refine Rn.block hc ?_ | refine Rn.inBlock hc ?_ | refine Rn.scope hc ?_ | refine Rn.inScope hc ?_))
    refine Rn.zAL hc rfl ?_
    simp only [zAY,zAU,sp_n,Nat.reduceLT,Value.bool.injEq,zEl]
    (repeat (first | refine Rn.seq hc ?_ | refine Rn.skip hc ?_ | refine Rn.block hc ?_ | refine Rn.inBlock hc ?_ | refine Rn.scope hc ?_ | refine Rn.inScope hc ?_))
    rw [he]
    refine Rn.region hc fun K hK => ?_
    refine Wo.run hc 8 rfl rfl rfl ?_
    simp (maxSteps := 2000000) only [List.drop_zero,List.take_succ_cons,List.take_zero,zAY,zAU,zAT,sp_n,Nat.reduceLT,ne_eq,Nat.reduceEqDiff,not_false_eq_true,gd,zAX,List.nil_append,List.cons_append,rops,fx,ld,zAR,cls,Nat.zero_add,Option.some.injEq,exists_eq_left',Value.cells,Nat.reduceAdd,tk24,b0,b1,b2,c0,c1,c2,bd86,bd119,bd121,bd123,zBY,List.size_toArray,List.length_cons,List.length_nil,List.cons_append,List.nil_append]
    refine Wo.call hc (by rfl) (by rfl) ⟨by rfl,by rfl⟩ (xs := [bothV x y p ca]) (by rfl) (by rfl) (by rfl) (Con.mono (hrb) ?_)
    intro w C1 hT0
    obtain ⟨mm,n1,n2,ee,p1,c1,p2,c2,rfl,D,q1,g0,g1,g2,hoff,hT⟩ := Tld.fin (b := A2.next) hx04 (by omega) (by omega) l4 hT0
    refine Wo.run hc 4 rfl rfl rfl ?_
    simp (maxSteps := 2000000) only [List.drop_zero,List.drop_succ_cons,List.take_succ_cons,List.take_zero,zAY,zAU,zAT,sp_n,zAO,Nat.reduceLT,ne_eq,Nat.reduceEqDiff,not_false_eq_true,gd,zAX,rops,fx,str,ext,zAR,List.getElem?_toArray,List.getElem?_cons_zero,List.getElem?_cons_succ,Nat.zero_add,Option.some.injEq,exists_eq_left',Nat.reduceAdd,tk24,ext,q1,List.size_toArray,List.length_cons,List.length_nil,Nat.beq_refl]
    refine Wo.done hc rfl (hK _ _ ?_)
    clear hK
    (repeat (first | refine Rn.seq hc ?_ | refine Rn.skip hc ?_ | refine Rn.block hc ?_ | refine Rn.inBlock hc ?_ | refine Rn.scope hc ?_ | refine Rn.inScope hc ?_))
    refine Rn.ret (zBR rfl (v := .agg #[.int .i64 mm,.slice p1 n1 c1,.slice p2 n2 c2]) ?_ ?_)
    · simp only [zAU,zAT,sp_n,Nat.reduceLT,ne_eq,Nat.reduceEqDiff,zNf,ld,zAR,cls,Nat.zero_add,Nat.reduceAdd,tk24,g0,g1,g2]
    · simp only [zAU,sp_n,Nat.reduceLT]
      exact hT
  · have hd : (!decide (errs [x,y] [x,y] = 0)) = true := by rw [decide_eq_false he]; rfl
    obtain ⟨D,q1,g0,g1,g2,hxD⟩ := err_fin hx04 (by omega) (by omega) l4
    refine Rn.reg hc rfl ?_
    simp only [zAY,zAS,zAU,sp_n,Nat.reduceLT,gd,zAX,rops,fx,zAD,zOi,zEl,hd]
    (repeat (first | refine Rn.seq hc ?_ | refine Rn.skip hc ?_ | refine Rn.block hc ?_ | refine Rn.inBlock hc ?_ | refine Rn.scope hc ?_ | refine Rn.inScope hc ?_))
    refine Rn.zAL hc rfl ?_
    simp only [zAY,zAU,sp_n,Nat.reduceLT,Value.bool.injEq,zEl]
    (repeat (first | refine Rn.seq hc ?_ | refine Rn.skip hc ?_ | refine Rn.block hc ?_ | refine Rn.inBlock hc ?_ | refine Rn.scope hc ?_ | refine Rn.inScope hc ?_))
    refine Rn.reg hc rfl ?_
    simp only [zAY,zAU,zAT,sp_n,zAO,Nat.reduceLT,ne_eq,Nat.reduceEqDiff,zNf,gd,zAX,rops,fx,str,zAR,Nat.zero_add,zOi,zEl,Nat.reduceAdd,tk24,bd24_z,q1,List.size_toArray,List.length_cons,List.length_nil,Nat.beq_refl]
    (repeat (first | refine Rn.seq hc ?_ | refine Rn.skip hc ?_ | refine Rn.block hc ?_ | refine Rn.inBlock hc ?_ | refine Rn.scope hc ?_ | refine Rn.inScope hc ?_))
    refine Rn.ret (zBR rfl (v := .agg #[.int .i64 0,.slice none 0 0,.slice none 0 0]) ?_ ?_)
    · simp only [zAU,zAT,sp_n,Nat.reduceLT,ne_eq,Nat.reduceEqDiff,zNf,ld,zAR,cls,Nat.zero_add,Nat.reduceAdd,tk24,g0,g1,g2]
    · simp only [zAU,sp_n,Nat.reduceLT]
      exact tld_err he hxD
theorem vq_ptrs {b : Nat} : ∀ n,∀ v ∈ [Value.pointer (some ⟨b,0,none⟩)],veq (n + 1) v v = true := fun n v hv => by
  rw [List.mem_singleton] at hv
  rw [hv]
  exact zAV _ _ _
theorem sum_run {A : AHeap} (hw : WF A) {x y : Las} (hox : x.ok A) (hoy : y.ok A) :
    Con Try.prog 41 [x.v,y.v] A (Tld A (errs [x,y] [x,y]) x.m fun n => (x.s n + y.s n).tmod x.m) := by
  refine zAJ hc Try.func41 rfl (Nat.le_of_ble_eq_true rfl) ?_
  obtain ⟨A1,e1,hx1,hn1,b0,b1,b2⟩ := box3 hw (.int .i64 x.m) (.slice x.sa x.st.length x.sc) (.slice x.ra x.ro.length x.rc) 24
  obtain ⟨A2,e2,hx2,hn2,c0,c1,c2⟩ := box3 hx1.wf (.int .i64 y.m) (.slice y.sa y.st.length y.sc) (.slice y.ra y.ro.length y.rc) 24
  have hx02 : Nx A.next A A2 := hx1.trans (hx2.le hx1.next)
  have hxr : Nx A2.next A2 (A2.push (.cells #[.int .i64 0,.slice none 0 0,.slice none 0 0] 24)) := (Nx.refl hx2.wf _).push (Nat.le_refl _) _
  have lr := zAM A2 (.cells #[.int .i64 0,.slice none 0 0,.slice none 0 0] 24)
  have hnr : (A2.push (.cells #[.int .i64 0,.slice none 0 0,.slice none 0 0] 24)).next = A2.next + 1 := rfl
  generalize er : A2.push (.cells #[.int .i64 0,.slice none 0 0,.slice none 0 0] 24) = Ar at hxr lr hnr
  have b0 := (hxr.cl (show A.next < A2.next by omega) 0).trans ((hx2.cl (show A.next < A1.next by omega) 0).trans b0)
  have b1 := (hxr.cl (show A.next < A2.next by omega) 1).trans ((hx2.cl (show A.next < A1.next by omega) 1).trans b1)
  have b2 := (hxr.cl (show A.next < A2.next by omega) 2).trans ((hx2.cl (show A.next < A1.next by omega) 2).trans b2)
  have c0 := (hxr.cl (show A1.next < A2.next by omega) 0).trans c0
  have c1 := (hxr.cl (show A1.next < A2.next by omega) 1).trans c1
  have c2 := (hxr.cl (show A1.next < A2.next by omega) 2).trans c2
  have hx0r : Nx A.next A Ar := hx02.trans (hxr.le hx02.next)
  have hpr := pair_run hx0r.wf (hox.nx hx0r) (hoy.nx hx0r) (p := 85) (ca := [.pointer (some ⟨A.next,0,none⟩)]) (f := fun x' y' => (x' + y').tmod x.m) (fun he => sum_put b0 (by omega) (by have := (err_lim (errs_two0 he).1).1; omega)) vq_ptrs
  rw [s_in2]
  unfold Las.v
  (repeat (first | refine Rn.seq hc ?_ | refine Rn.skip hc ?_ | refine Rn.block hc ?_ | refine Rn.inBlock hc ?_ | refine Rn.scope hc ?_ | refine Rn.inScope hc ?_))
  refine Rn.reg hc rfl ?_
  simp only [zAY,zAS,zAU,zAT,sp_n,Nat.reduceLT,ne_eq,Nat.reduceEqDiff,zNf,gd,zAX,rops,fx,zOi,zEl,Value.cells,show Try.f41.ntmps = 12 from rfl,e1,e2,ze24,er]
  (repeat (first | refine Rn.seq hc ?_ | refine Rn.skip hc ?_ | refine Rn.block hc ?_ | refine Rn.inBlock hc ?_ | refine Rn.scope hc ?_ | refine Rn.inScope hc ?_))
  refine Rn.region hc fun K hK => ?_
  refine Wo.run hc 3 rfl rfl rfl ?_
  simp (maxSteps := 2000000) only [List.drop_zero,List.take_succ_cons,List.take_zero,zAY,zAU,zAT,sp_n,Nat.reduceLT,ne_eq,Nat.reduceEqDiff,not_false_eq_true,gd,zAX,rops,fx,ld,zAR,cls,Nat.zero_add,Option.some.injEq,exists_eq_left',Nat.reduceAdd,ae_mkfunc1,tk24,b0,b1,b2,c0,c1,c2]
  refine Wo.call hc (by rfl) (by rfl) ⟨by rfl,by rfl⟩ (xs := [x.v,y.v,.func (.func 85) #[] ⟨[.pointer (some ⟨A.next,0,none⟩)]⟩]) (by rfl) (by rfl) (by simp only [zAY,zAU,zAT,sp_n,Nat.reduceLT,ne_eq,Nat.reduceEqDiff,zNf,List.map_cons,List.map_nil,List.nil_append,List.append_nil]; rfl) (Con.mono hpr ?_)
  intro w C1 hT0
  obtain ⟨mm,n1,n2,ee,p1,c1,p2,c2,rfl,D,q1,g0,g1,g2,hoff,hT⟩ := Tld.fin (b := A2.next) hx0r (by omega) (by omega) lr hT0
  refine Wo.run hc 4 rfl rfl rfl ?_
  simp (maxSteps := 2000000) only [List.drop_zero,List.drop_succ_cons,List.take_succ_cons,List.take_zero,zAY,zAU,zAT,sp_n,zAO,Nat.reduceLT,ne_eq,Nat.reduceEqDiff,not_false_eq_true,gd,zAX,rops,fx,str,ext,zAR,List.getElem?_toArray,List.getElem?_cons_zero,List.getElem?_cons_succ,Nat.zero_add,Option.some.injEq,exists_eq_left',Nat.reduceAdd,tk24,ext,q1,List.size_toArray,List.length_cons,List.length_nil,Nat.beq_refl]
  refine Wo.done hc rfl (hK _ _ ?_)
  clear hK
  (repeat (first | refine Rn.seq hc ?_ | refine Rn.skip hc ?_ | refine Rn.block hc ?_ | refine Rn.inBlock hc ?_ | refine Rn.scope hc ?_ | refine Rn.inScope hc ?_))
  refine Rn.ret (zBR rfl (v := .agg #[.int .i64 mm,.slice p1 n1 c1,.slice p2 n2 c2]) ?_ ?_)
  · simp only [zAU,zAT,sp_n,Nat.reduceLT,ne_eq,Nat.reduceEqDiff,zNf,ld,zAR,cls,Nat.zero_add,Nat.reduceAdd,tk24,g0,g1,g2]
  · simp only [zAU,sp_n,Nat.reduceLT]
    exact hT
theorem times_run {A : AHeap} (hw : WF A) {x y : Las} (hox : x.ok A) (hoy : y.ok A) :
    Con Try.prog 43 [x.v,y.v] A (Tld A (errs [x,y] [x,y]) x.m fun n => (x.s n * y.s n).tmod x.m) := by
  refine zAJ hc Try.func43 rfl (Nat.le_of_ble_eq_true rfl) ?_
  obtain ⟨A1,e1,hx1,hn1,b0,b1,b2⟩ := box3 hw (.int .i64 x.m) (.slice x.sa x.st.length x.sc) (.slice x.ra x.ro.length x.rc) 24
  obtain ⟨A2,e2,hx2,hn2,c0,c1,c2⟩ := box3 hx1.wf (.int .i64 y.m) (.slice y.sa y.st.length y.sc) (.slice y.ra y.ro.length y.rc) 24
  have hx02 : Nx A.next A A2 := hx1.trans (hx2.le hx1.next)
  have hxr : Nx A2.next A2 (A2.push (.cells #[.int .i64 0,.slice none 0 0,.slice none 0 0] 24)) := (Nx.refl hx2.wf _).push (Nat.le_refl _) _
  have lr := zAM A2 (.cells #[.int .i64 0,.slice none 0 0,.slice none 0 0] 24)
  have hnr : (A2.push (.cells #[.int .i64 0,.slice none 0 0,.slice none 0 0] 24)).next = A2.next + 1 := rfl
  generalize er : A2.push (.cells #[.int .i64 0,.slice none 0 0,.slice none 0 0] 24) = Ar at hxr lr hnr
  have b0 := (hxr.cl (show A.next < A2.next by omega) 0).trans ((hx2.cl (show A.next < A1.next by omega) 0).trans b0)
  have b1 := (hxr.cl (show A.next < A2.next by omega) 1).trans ((hx2.cl (show A.next < A1.next by omega) 1).trans b1)
  have b2 := (hxr.cl (show A.next < A2.next by omega) 2).trans ((hx2.cl (show A.next < A1.next by omega) 2).trans b2)
  have c0 := (hxr.cl (show A1.next < A2.next by omega) 0).trans c0
  have c1 := (hxr.cl (show A1.next < A2.next by omega) 1).trans c1
  have c2 := (hxr.cl (show A1.next < A2.next by omega) 2).trans c2
  have hx0r : Nx A.next A Ar := hx02.trans (hxr.le hx02.next)
  have hpr := pair_run hx0r.wf (hox.nx hx0r) (hoy.nx hx0r) (p := 87) (ca := [.pointer (some ⟨A.next,0,none⟩)]) (f := fun x' y' => (x' * y').tmod x.m) (fun he => times_put b0 (by omega) (by have := (err_lim (errs_two0 he).1).1; omega)) vq_ptrs
  rw [s_in2]
  unfold Las.v
  (repeat (first | refine Rn.seq hc ?_ | refine Rn.skip hc ?_ | refine Rn.block hc ?_ | refine Rn.inBlock hc ?_ | refine Rn.scope hc ?_ | refine Rn.inScope hc ?_))
  refine Rn.reg hc rfl ?_
  simp only [zAY,zAS,zAU,zAT,sp_n,Nat.reduceLT,ne_eq,Nat.reduceEqDiff,zNf,gd,zAX,rops,fx,zOi,zEl,Value.cells,show Try.f43.ntmps = 12 from rfl,e1,e2,ze24,er]
  (repeat (first | refine Rn.seq hc ?_ | refine Rn.skip hc ?_ | refine Rn.block hc ?_ | refine Rn.inBlock hc ?_ | refine Rn.scope hc ?_ | refine Rn.inScope hc ?_))
  refine Rn.region hc fun K hK => ?_
  refine Wo.run hc 3 rfl rfl rfl ?_
  simp (maxSteps := 2000000) only [List.drop_zero,List.take_succ_cons,List.take_zero,zAY,zAU,zAT,sp_n,Nat.reduceLT,ne_eq,Nat.reduceEqDiff,not_false_eq_true,gd,zAX,rops,fx,ld,zAR,cls,Nat.zero_add,Option.some.injEq,exists_eq_left',Nat.reduceAdd,ae_mkfunc1,tk24,b0,b1,b2,c0,c1,c2]
  refine Wo.call hc (by rfl) (by rfl) ⟨by rfl,by rfl⟩ (xs := [x.v,y.v,.func (.func 87) #[] ⟨[.pointer (some ⟨A.next,0,none⟩)]⟩]) (by rfl) (by rfl) (by simp only [zAY,zAU,zAT,sp_n,Nat.reduceLT,ne_eq,Nat.reduceEqDiff,zNf,List.map_cons,List.map_nil,List.nil_append,List.append_nil]; rfl) (Con.mono hpr ?_)
  intro w C1 hT0
  obtain ⟨mm,n1,n2,ee,p1,c1,p2,c2,rfl,D,q1,g0,g1,g2,hoff,hT⟩ := Tld.fin (b := A2.next) hx0r (by omega) (by omega) lr hT0
  refine Wo.run hc 4 rfl rfl rfl ?_
  simp (maxSteps := 2000000) only [List.drop_zero,List.drop_succ_cons,List.take_succ_cons,List.take_zero,zAY,zAU,zAT,sp_n,zAO,Nat.reduceLT,ne_eq,Nat.reduceEqDiff,not_false_eq_true,gd,zAX,rops,fx,str,ext,zAR,List.getElem?_toArray,List.getElem?_cons_zero,List.getElem?_cons_succ,Nat.zero_add,Option.some.injEq,exists_eq_left',Nat.reduceAdd,tk24,ext,q1,List.size_toArray,List.length_cons,List.length_nil,Nat.beq_refl]
  refine Wo.done hc rfl (hK _ _ ?_)
  clear hK
  (repeat (first | refine Rn.seq hc ?_ | refine Rn.skip hc ?_ | refine Rn.block hc ?_ | refine Rn.inBlock hc ?_ | refine Rn.scope hc ?_ | refine Rn.inScope hc ?_))
  refine Rn.ret (zBR rfl (v := .agg #[.int .i64 mm,.slice p1 n1 c1,.slice p2 n2 c2]) ?_ ?_)
  · simp only [zAU,zAT,sp_n,Nat.reduceLT,ne_eq,Nat.reduceEqDiff,zNf,ld,zAR,cls,Nat.zero_add,Nat.reduceAdd,tk24,g0,g1,g2]
  · simp only [zAU,sp_n,Nat.reduceLT]
    exact hT
theorem errs_self (x : Las) : errs [x,x] [x,x] = x.err := by
  rw [errs_two]
  by_cases h : x.err = 0
  · rw [if_neg (by simp [h]),if_neg (by simp [h]),if_pos rfl,h]
  · rw [if_pos h]
theorem vq_ptrs2 {b c : Nat} : ∀ n,∀ v ∈ [Value.pointer (some ⟨b,0,none⟩),Value.pointer (some ⟨c,0,none⟩)],veq (n + 1) v v = true := fun n v hv => by
  simp only [List.mem_cons,List.not_mem_nil,or_false] at hv
  rcases hv with rfl | rfl
  · exact zAV _ _ _
  · exact zAV _ _ _
theorem scale_run {A : AHeap} (hw : WF A) {x : Las} (hox : x.ok A) {k : Int} :
    Con Try.prog 45 [x.v,.int .i64 k] A (Tld A x.err x.m fun n => (nrm k x.m * x.s n).tmod x.m) := by
  refine zAJ hc Try.func45 rfl (Nat.le_of_ble_eq_true rfl) ?_
  obtain ⟨A1,e1,hx1,hn1,b0,b1,b2⟩ := box3 hw (.int .i64 x.m) (.slice x.sa x.st.length x.sc) (.slice x.ra x.ro.length x.rc) 24
  have hx2 : Nx A1.next A1 (A1.push (.cells #[.int .i64 k] 3)) := (Nx.refl hx1.wf _).push (Nat.le_refl _) _
  have l2 := zAM A1 (.cells #[.int .i64 k] 3)
  have hn2 : (A1.push (.cells #[.int .i64 k] 3)).next = A1.next + 1 := rfl
  generalize e2 : A1.push (.cells #[.int .i64 k] 3) = A2 at hx2 l2 hn2
  have hx02 : Nx A.next A A2 := hx1.trans (hx2.le hx1.next)
  have hxr : Nx A2.next A2 (A2.push (.cells #[.int .i64 0,.slice none 0 0,.slice none 0 0] 24)) := (Nx.refl hx2.wf _).push (Nat.le_refl _) _
  have lr := zAM A2 (.cells #[.int .i64 0,.slice none 0 0,.slice none 0 0] 24)
  have hnr : (A2.push (.cells #[.int .i64 0,.slice none 0 0,.slice none 0 0] 24)).next = A2.next + 1 := rfl
  generalize er : A2.push (.cells #[.int .i64 0,.slice none 0 0,.slice none 0 0] 24) = Ar at hxr lr hnr
  have b0 := (hxr.cl (show A.next < A2.next by omega) 0).trans ((hx2.cl (show A.next < A1.next by omega) 0).trans b0)
  have b1 := (hxr.cl (show A.next < A2.next by omega) 1).trans ((hx2.cl (show A.next < A1.next by omega) 1).trans b1)
  have b2 := (hxr.cl (show A.next < A2.next by omega) 2).trans ((hx2.cl (show A.next < A1.next by omega) 2).trans b2)
  have c0 : cl Ar A1.next 0 = some (.int .i64 k) := (hxr.cl (show A1.next < A2.next by omega) 0).trans (by rw [zCV l2 rfl]; rfl)
  have hx0r : Nx A.next A Ar := hx02.trans (hxr.le hx02.next)
  have hpr := pair_run hx0r.wf (hox.nx hx0r) (hox.nx hx0r) (p := 88) (ca := [.pointer (some ⟨A1.next,0,none⟩),.pointer (some ⟨A.next,0,none⟩)]) (f := fun x' _ => (nrm k x.m * x').tmod x.m) (fun he => scale_put c0 (by omega) b0 (by omega) (by have := (err_lim (errs_two0 he).1).1; omega)) vq_ptrs2
  rw [errs_self] at hpr
  rw [s_in2]
  unfold Las.v
  (repeat (first | refine Rn.seq hc ?_ | refine Rn.skip hc ?_ | refine Rn.block hc ?_ | refine Rn.inBlock hc ?_ | refine Rn.scope hc ?_ | refine Rn.inScope hc ?_))
  refine Rn.reg hc rfl ?_
  simp only [zAY,zAS,zAU,zAT,sp_n,Nat.reduceLT,ne_eq,Nat.reduceEqDiff,zNf,gd,zAX,rops,fx,zOi,zEl,Value.cells,show Try.f45.ntmps = 12 from rfl,e1,e2,ze24,er]
  (repeat (first | refine Rn.seq hc ?_ | refine Rn.skip hc ?_ | refine Rn.block hc ?_ | refine Rn.inBlock hc ?_ | refine Rn.scope hc ?_ | refine Rn.inScope hc ?_))
  refine Rn.region hc fun K hK => ?_
  refine Wo.run hc 3 rfl rfl rfl ?_
  simp (maxSteps := 2000000) only [List.drop_zero,List.take_succ_cons,List.take_zero,zAY,zAU,zAT,sp_n,Nat.reduceLT,ne_eq,Nat.reduceEqDiff,not_false_eq_true,gd,zAX,rops,fx,ld,zAR,cls,Nat.zero_add,Option.some.injEq,exists_eq_left',Nat.reduceAdd,ae_mkfunc2,tk24,b0,b1,b2]
  refine Wo.call hc (by rfl) (by rfl) ⟨by rfl,by rfl⟩ (xs := [x.v,x.v,.func (.func 88) #[] ⟨[.pointer (some ⟨A1.next,0,none⟩),.pointer (some ⟨A.next,0,none⟩)]⟩]) (by rfl) (by rfl) (by simp only [zAY,zAU,zAT,sp_n,Nat.reduceLT,ne_eq,Nat.reduceEqDiff,zNf,List.map_cons,List.map_nil,List.nil_append,List.append_nil]; rfl) (Con.mono hpr ?_)
  intro w C1 hT0
  obtain ⟨mm,n1,n2,ee,p1,c1,p2,c2,rfl,D,q1,g0,g1,g2,hoff,hT⟩ := Tld.fin (b := A2.next) hx0r (by omega) (by omega) lr hT0
  refine Wo.run hc 4 rfl rfl rfl ?_
  simp (maxSteps := 2000000) only [List.drop_zero,List.drop_succ_cons,List.take_succ_cons,List.take_zero,zAY,zAU,zAT,sp_n,zAO,Nat.reduceLT,ne_eq,Nat.reduceEqDiff,not_false_eq_true,gd,zAX,rops,fx,str,ext,zAR,List.getElem?_toArray,List.getElem?_cons_zero,List.getElem?_cons_succ,Nat.zero_add,Option.some.injEq,exists_eq_left',Nat.reduceAdd,tk24,ext,q1,List.size_toArray,List.length_cons,List.length_nil,Nat.beq_refl]
  refine Wo.done hc rfl (hK _ _ ?_)
  clear hK
  (repeat (first | refine Rn.seq hc ?_ | refine Rn.skip hc ?_ | refine Rn.block hc ?_ | refine Rn.inBlock hc ?_ | refine Rn.scope hc ?_ | refine Rn.inScope hc ?_))
  refine Rn.ret (zBR rfl (v := .agg #[.int .i64 mm,.slice p1 n1 c1,.slice p2 n2 c2]) ?_ ?_)
  · simp only [zAU,zAT,sp_n,Nat.reduceLT,ne_eq,Nat.reduceEqDiff,zNf,ld,zAR,cls,Nat.zero_add,Nat.reduceAdd,tk24,g0,g1,g2]
  · simp only [zAU,sp_n,Nat.reduceLT]
    exact hT
end Go.Proofs.Ytdaljohmfnfgiaa
namespace Go.Proofs.Ytdaljohmfnfgiaa
open Go Go.RowKit Go.Proofs.Ytdaljohmfnfgiaa.Canon
set_option maxRecDepth 20000
def jnV (times : Bool) (a b : Int) : Int := if times = true then a * b else a + b
theorem jn_per {x y : Las} (hx : 0 < x.ro.length) (hy : 0 < y.ro.length) (f : Int → Int → Int) : Per (fun n => f (x.s n) (y.s n)) (max x.st.length y.st.length) (lcmN x.ro.length y.ro.length) := by
  obtain ⟨f1,f2,f3,f4⟩ := zDZ hx hy
  have h1 : Per x.s x.st.length x.ro.length := atL_per hx
  have h2 : Per y.s y.st.length y.ro.length := atL_per hy
  obtain ⟨u,hu⟩ := Nat.dvd_of_mod_eq_zero f2
  obtain ⟨v,hv⟩ := Nat.dvd_of_mod_eq_zero f3
  refine ⟨f1,fun n hn => ?_⟩
  have e1 := h1.times u n (by omega)
  have e2 := h2.times v n (by omega)
  rw [Nat.mul_comm,← hu] at e1
  rw [Nat.mul_comm,← hv] at e2
  show f (x.s _) (y.s _) = f (x.s n) (y.s n)
  rw [e1,e2]
theorem joined_ref {A : AHeap} (hw : WF A) {x y : Las} (hox : x.ok A) (hoy : y.ok A) (times : Bool) :
    Con Try.prog 86 [x.v,y.v,.bool times] A (TldR A (errs [x,y] [x,y]) x.m fun n => (jnV times (x.s n) (y.s n)).tmod x.m) := by
  refine zAJ hc Try.func86 rfl (Nat.le_of_ble_eq_true rfl) ?_
  obtain ⟨A1,e1,hx1,hn1,b0,b1,b2⟩ := box3 hw (.int .i64 x.m) (.slice x.sa x.st.length x.sc) (.slice x.ra x.ro.length x.rc) 24
  obtain ⟨A2,e2,hx2,hn2,c0,c1,c2⟩ := box3 hx1.wf (.int .i64 y.m) (.slice y.sa y.st.length y.sc) (.slice y.ra y.ro.length y.rc) 24
  have hx02 : Nx A.next A A2 := hx1.trans (hx2.le hx1.next)
  have hxr : Nx A2.next A2 (A2.push (.cells #[.int .i64 0,.slice none 0 0,.slice none 0 0] 24)) := (Nx.refl hx2.wf _).push (Nat.le_refl _) _
  have lr := zAM A2 (.cells #[.int .i64 0,.slice none 0 0,.slice none 0 0] 24)
  have hnr : (A2.push (.cells #[.int .i64 0,.slice none 0 0,.slice none 0 0] 24)).next = A2.next + 1 := rfl
  generalize er : A2.push (.cells #[.int .i64 0,.slice none 0 0,.slice none 0 0] 24) = Ar at hxr lr hnr
  have b0 := (hxr.cl (show A.next < A2.next by omega) 0).trans ((hx2.cl (show A.next < A1.next by omega) 0).trans b0)
  have b1 := (hxr.cl (show A.next < A2.next by omega) 1).trans ((hx2.cl (show A.next < A1.next by omega) 1).trans b1)
  have b2 := (hxr.cl (show A.next < A2.next by omega) 2).trans ((hx2.cl (show A.next < A1.next by omega) 2).trans b2)
  have c0 := (hxr.cl (show A1.next < A2.next by omega) 0).trans c0
  have c1 := (hxr.cl (show A1.next < A2.next by omega) 1).trans c1
  have c2 := (hxr.cl (show A1.next < A2.next by omega) 2).trans c2
  have hx0r : Nx A.next A Ar := hx02.trans (hxr.le hx02.next)
  rw [s_in3]
  unfold Las.v
  (repeat (first | refine Rn.seq hc ?_ | refine Rn.skip hc ?_ | refine Rn.block hc ?_ | refine Rn.inBlock hc ?_ | refine Rn.scope hc ?_ | refine Rn.inScope hc ?_))
  refine Rn.reg hc rfl ?_
  simp only [zAY,zAS,zAU,zAT,sp_n,Nat.reduceLT,ne_eq,Nat.reduceEqDiff,zNf,gd,zAX,rops,fx,zOi,zEl,Value.cells,show Try.f86.ntmps = 83 from rfl,e1,e2,ze24,er]
  (repeat (first | refine Rn.seq hc ?_ | refine Rn.skip hc ?_ | refine Rn.block hc ?_ | refine Rn.inBlock hc ?_ | refine Rn.scope hc ?_ | refine Rn.inScope hc ?_))
  refine Rn.region hc fun K hK => ?_
  refine Wo.run hc 2 rfl rfl rfl ?_
  simp (maxSteps := 2000000) only [List.drop_zero,List.take_succ_cons,List.take_zero,zAY,zAU,zAT,sp_n,Nat.reduceLT,ne_eq,Nat.reduceEqDiff,not_false_eq_true,gd,zAX,rops,fx,ld,zAR,cls,Nat.zero_add,Option.some.injEq,exists_eq_left',Nat.reduceAdd,tk24,b0,b1,b2,c0,c1,c2]
  refine Wo.call hc (by rfl) (by rfl) ⟨by rfl,by rfl⟩ (xs := [.agg #[.int .i64 x.m,.slice x.sa x.st.length x.sc,.slice x.ra x.ro.length x.rc],.agg #[.int .i64 y.m,.slice y.sa y.st.length y.sc,.slice y.ra y.ro.length y.rc]]) (by rfl) (by rfl) (by rfl) (Con.mono (both_ref hx0r.wf (hox.nx hx0r) (hoy.nx hx0r)) ?_)
  rintro w A4 ⟨rfl,hx4⟩
  refine Wo.run hc 1 rfl rfl rfl ?_
  simp (maxSteps := 2000000) only [List.drop_zero,List.drop_succ_cons,List.take_succ_cons,List.take_zero,zAY,zAU,sp_n,Nat.reduceLT,gd,zAX,rops,fx,Option.some.injEq,exists_eq_left',Nat.reduceAdd]
  refine Wo.done hc rfl (hK _ _ ?_)
  clear hK
  (repeat (first | refine Rn.seq hc ?_ | refine Rn.skip hc ?_ | refine Rn.block hc ?_ | refine Rn.inBlock hc ?_ | refine Rn.scope hc ?_ | refine Rn.inScope hc ?_))
  have hx04 : Nx A.next A A4 := hx0r.trans (hx4.le hx0r.next)
  have n4 := hx4.next
  have b0 := (hx4.cl (show A.next < Ar.next by omega) 0).trans b0
  have b1 := (hx4.cl (show A.next < Ar.next by omega) 1).trans b1
  have b2 := (hx4.cl (show A.next < Ar.next by omega) 2).trans b2
  have c0 := (hx4.cl (show A1.next < Ar.next by omega) 0).trans c0
  have c1 := (hx4.cl (show A1.next < Ar.next by omega) 1).trans c1
  have c2 := (hx4.cl (show A1.next < Ar.next by omega) 2).trans c2
  have l4 : Canon.look A4.objs A2.next = _ := (hx4.keep _ (by omega)).trans lr
  by_cases he : errs [x,y] [x,y] = 0
  · have hd : (!decide (errs [x,y] [x,y] = 0)) = false := by rw [decide_eq_true he]; rfl
    obtain ⟨ex,ey,exy⟩ := errs_two0 he
    obtain ⟨m1,m2,m3⟩ := err_len ex
    obtain ⟨k1,k2,k3⟩ := err_len ey
    obtain ⟨mx,lx⟩ := err_lim ex
    obtain ⟨my,ly⟩ := err_lim ey
    obtain ⟨W,hW⟩ : ∃ W : Nat → Int,W = fun n => (jnV times (x.s n) (y.s n)).tmod x.m := ⟨_,rfl⟩
    have hWv : ∀ n,(jnV times (x.s n) (y.s n)).tmod x.m = W n := fun n => by rw [hW]
    have hPer : Per W (max x.st.length y.st.length) (lcmN x.ro.length y.ro.length) := by rw [hW]; exact jn_per m3 k3 fun a b => (jnV times a b).tmod x.m
    obtain ⟨f1,-,-,f4⟩ := zDZ m3 k3
    have hL2 : lcmN x.ro.length y.ro.length ≤ 120 * 120 := Nat.le_trans f4 (Nat.mul_le_mul m2 k2)
    clear f4
    rw [he,← hW]
    refine Rn.reg hc rfl ?_
    simp only [zAY,zAS,zAU,sp_n,Nat.reduceLT,gd,zAX,rops,fx,zAD,zOi,zEl]
    (repeat (first | refine Rn.seq hc ?_ | refine Rn.skip hc ?_ | refine Rn.block hc ?_ | refine Rn.inBlock hc ?_ | refine Rn.scope hc ?_ | refine Rn.inScope hc ?_))
    refine Rn.zAL hc rfl ?_
    simp only [zAY,zAU,sp_n,Nat.reduceLT,Value.bool.injEq,zEl]
    (repeat (first | refine Rn.seq hc ?_ | refine Rn.skip hc ?_ | refine Rn.block hc ?_ | refine Rn.inBlock hc ?_ | refine Rn.scope hc ?_ | refine Rn.inScope hc ?_))
    refine Rn.reg hc rfl ?_
    simp only [zAY,zAU,zAT,sp_n,Nat.reduceLT,ne_eq,Nat.reduceEqDiff,zNf,gd,zAX,rops,fx,ld,fad,lng,zAR,Nat.zero_add,zOi,zEl,tk22,zBQ,un22,b1,c1,ae_mxd2,mxd_int,mxd_nat]
    (repeat (first | refine Rn.seq hc ?_ | refine Rn.skip hc ?_ | refine Rn.block hc ?_ | refine Rn.inBlock hc ?_ | refine Rn.scope hc ?_ | refine Rn.inScope hc ?_))
    obtain ⟨H,hH⟩ : ∃ H,H = max x.st.length y.st.length := ⟨_,rfl⟩
    obtain ⟨L,hL⟩ : ∃ L,L = lcmN x.ro.length y.ro.length := ⟨_,rfl⟩
    rw [← hH] at hPer ⊢
    rw [← hL] at hPer f1 hL2
    have hH60 : H ≤ 60 := by omega
    clear hW hH
    have hx5a : Nx A4.next A4 (A4.push (.cells #[.int .i64 0,.slice none 0 0,.slice none 0 0] 24)) := (Nx.refl hx04.wf _).push (Nat.le_refl _) _
    have l5a := zAM A4 (.cells #[.int .i64 0,.slice none 0 0,.slice none 0 0] 24)
    have hn5a : (A4.push (.cells #[.int .i64 0,.slice none 0 0,.slice none 0 0] 24)).next = A4.next + 1 := rfl
    generalize e5 : A4.push (.cells #[.int .i64 0,.slice none 0 0,.slice none 0 0] 24) = C5a at hx5a l5a hn5a
    obtain ⟨C5,c5,q5,u5,u6,u7⟩ := sts_upd (l := [.int .i64 x.m,.slice none 0 0,.slice none 0 0]) (o := 0) l5a rfl (by simp) rfl
    have hc5 : c5 = #[.int .i64 x.m,.slice none 0 0,.slice none 0 0] := by
      refine Array.ext_getElem? fun i => ?_
      rw [u7 i]
      by_cases hi : i < 3
      · rw [if_pos ⟨Nat.zero_le _,by simpa using hi⟩]
        simp
      · rw [if_neg (by simp; omega)]
        rw [Array.getElem?_eq_none (by simp; omega),Array.getElem?_eq_none (by simp; omega)]
    subst hc5
    have hx5 : Nx A4.next A4 C5 := hx5a.trans (u5.nx hx5a.wf (Nat.le_refl _))
    have hn5 : C5.next = A4.next + 1 := by rw [u5.next,hn5a]
    have l5B : Canon.look C5.objs A4.next = some ⟨.cells #[.int .i64 x.m,.slice none 0 0,.slice none 0 0] 24,false,0⟩ := by
      obtain ⟨c',t,f,g,e,r1,r2,_⟩ := u5.at'
      rw [l5a] at r1
      cases r1
      exact r2
    have hA5 : Nx A.next A C5 := hx04.trans (hx5.le hx04.next)
    have lR : Canon.look C5.objs A2.next = _ := (hx5.keep _ (by omega)).trans l4
    refine Rn.reg hc rfl ?_
    simp only [zAY,zAU,zAT,sp_n,zAO,Nat.reduceLT,ne_eq,Nat.reduceEqDiff,zNf,gd,zAX,rops,fx,ld,str,fad,zAR,Nat.zero_add,Nat.add_zero,zOi,zEl,Value.cells,Nat.reduceAdd,tk3,tk24,zBO,b0,bd24_0,zBY,List.size_toArray,List.length_cons,List.length_nil,Nat.beq_refl,ze24,e5,q5]
    (repeat (first | refine Rn.seq hc ?_ | refine Rn.skip hc ?_ | refine Rn.block hc ?_ | refine Rn.inBlock hc ?_ | refine Rn.scope hc ?_ | refine Rn.inScope hc ?_))
    refine Rn.reg hc rfl ?_
    simp only [zAS,gd,zAX,rops,fx,zOi,zEl]
    (repeat (first | refine Rn.seq hc ?_ | refine Rn.skip hc ?_ | refine Rn.block hc ?_ | refine Rn.inBlock hc ?_ | refine Rn.scope hc ?_ | refine Rn.inScope hc ?_))
    have P0 := (hx5.cl (show A.next < A4.next by omega) 0).trans b0
    have P1 := (hx5.cl (show A.next < A4.next by omega) 1).trans b1
    have P2 := (hx5.cl (show A.next < A4.next by omega) 2).trans b2
    have Q0 := (hx5.cl (show A1.next < A4.next by omega) 0).trans c0
    have Q1 := (hx5.cl (show A1.next < A4.next by omega) 1).trans c1
    have Q2 := (hx5.cl (show A1.next < A4.next by omega) 2).trans c2
    obtain ⟨bO,hbOe⟩ : ∃ b,b = A4.next := ⟨_,rfl⟩
    have hbO : bO < C5.next := by omega
    rw [← hbOe] at l5B ⊢
    obtain ⟨bY,hbY⟩ : ∃ b,b = A1.next := ⟨_,rfl⟩
    rw [← hbY] at Q0 Q1 Q2 ⊢
    obtain ⟨bR,hbR⟩ : ∃ b,b = A2.next := ⟨_,rfl⟩
    rw [← hbR] at lR ⊢
    clear q5 e5 u5 u6 u7 hx5 hx5a l5a b0 b1 b2 c0 c1 c2 l4 lr
    have hw0 : IntKind.i64.wrap ((H : Int) + (L : Int)) = ((H + L : Nat) : Int) := by rw [IntWalk.i64_in _ (by omega)]; omega
    refine Rn.loopI hc (I := fun k s G => ∃ n wa wb,n ≤ H + L ∧ k = H + L - n ∧ WF G ∧ C5.next ≤ G.next ∧ (∀ b,b < C5.next → b ≠ bO → Canon.look G.objs b = Canon.look C5.objs b) ∧ Canon.look G.objs bO = some ⟨.cells #[.int .i64 x.m,.slice wa (min n H) (min n H),.slice wb (n - H) (n - H)] 24,false,0⟩ ∧ Gr2 G wa wb C5.next (redS W (min n H)) (redR W H (n - H)) ∧ s.n = 83 ∧ sget s 2 = .bool times ∧ sget s 3 = .pointer (some ⟨A.next,0,none⟩) ∧ sget s 4 = .pointer (some ⟨bY,0,none⟩) ∧ sget s 6 = .pointer (some ⟨bR,0,none⟩) ∧ sget s 9 = .int .i64 (H : Int) ∧ sget s 10 = .pointer (some ⟨bO,0,none⟩) ∧ sget s 11 = .int .i64 (n : Int))
      (n := H + L) ⟨0,none,none,by omega,rfl,hA5.wf,Nat.le_refl _,fun _ _ _ => rfl,by rw [Nat.zero_min,Nat.zero_sub]; exact l5B,by rw [Nat.zero_min,Nat.zero_sub]; exact Gr2.nil (Nat.le_refl _),by simp only [sp_n],by simp only [zAU,zAT,sp_n,Nat.reduceLT,ne_eq,Nat.reduceEqDiff,zNf],by simp only [zAU,zAT,sp_n,Nat.reduceLT,ne_eq,Nat.reduceEqDiff,zNf],by simp only [zAU,zAT,sp_n,Nat.reduceLT,ne_eq,Nat.reduceEqDiff,zNf],by simp only [zAU,zAT,sp_n,Nat.reduceLT,ne_eq,Nat.reduceEqDiff,zNf],by simp only [zAU,zAT,sp_n,Nat.reduceLT,ne_eq,Nat.reduceEqDiff,zNf],by simp only [zAU,zAT,sp_n,Nat.reduceLT,ne_eq,Nat.reduceEqDiff,zNf],by simp only [zAU,sp_n,Nat.reduceLT]; rfl⟩ ?_
    clear l5B
    rintro k s G ⟨n,wa,wb,hnHp,rfl,hwG,hnG,hkeep,lG,gG,hn,s2,s3,s4,s6,s9,s10,s11⟩ ih
    have hAG : Nx A.next A G := ⟨by have := hA5.next; omega,hwG,fun b hb => (hkeep b (by omega) (by omega)).trans (hA5.keep b hb)⟩
    have p0 := (zAB (o := 0) (hkeep A.next (by omega) (by omega))).trans P0
    have p1 := (zAB (o := 1) (hkeep A.next (by omega) (by omega))).trans P1
    have p2 := (zAB (o := 2) (hkeep A.next (by omega) (by omega))).trans P2
    have q0 := (zAB (o := 0) (hkeep bY (by omega) (by omega))).trans Q0
    have q1 := (zAB (o := 1) (hkeep bY (by omega) (by omega))).trans Q1
    have q2 := (zAB (o := 2) (hkeep bY (by omega) (by omega))).trans Q2
    have nAG : A.next < G.next := by omega
    have nYG : bY < G.next := by omega
    (repeat (first | refine Rn.seq hc ?_ | refine Rn.skip hc ?_ | refine Rn.block hc ?_ | refine Rn.inBlock hc ?_ | refine Rn.scope hc ?_ | refine Rn.inScope hc ?_))
    refine Rn.region hc fun K hK => ?_
    refine Wo.run hc 8 rfl rfl rfl ?_
    simp (maxSteps := 2000000) only [List.drop_zero,List.take_succ_cons,List.take_zero,zAY,zAU,zAT,sp_n,Nat.reduceLT,ne_eq,Nat.reduceEqDiff,not_false_eq_true,gd,zAX,rops,fx,ld,fad,lng,zAR,Nat.zero_add,Option.some.injEq,exists_eq_left',tk22,zBE,un22,hn,s3,s4,s9,s11,p2,q2]
    refine Wo.call hc (by rfl) (by rfl) ⟨by rfl,by rfl⟩ (xs := [.int .i64 (x.ro.length : Int),.int .i64 (y.ro.length : Int)]) (by rfl) (by rfl) (by simp only [zAY,zAU,zAT,sp_n,Nat.reduceLT,ne_eq,Nat.reduceEqDiff,zNf,List.map_cons,List.map_nil,List.nil_append,List.append_nil,hn]) (Con.mono (lcm_ref hwG ⟨m3,by omega⟩ ⟨k3,by omega⟩) ?_)
    rintro w G1 ⟨rfl,hxG1⟩
    rw [← hL]
    by_cases hlt : n < H + L
    · have hd : decide ((n : Int) < ((H + L : Nat) : Int)) = true := decide_eq_true (by omega)
      refine Wo.run hc 2 rfl rfl rfl ?_
      simp (maxSteps := 2000000) only [List.drop_zero,List.drop_succ_cons,List.take_succ_cons,List.take_zero,zAY,zAU,zAT,sp_n,Nat.reduceLT,ne_eq,Nat.reduceEqDiff,not_false_eq_true,gd,zAX,rops,fx,zAK,zAC,Option.some.injEq,exists_eq_left',Nat.reduceAdd,hn,hw0,hd]
      refine Wo.done hc rfl (hK _ _ ?_)
      clear hK
      (repeat (first | refine Rn.seq hc ?_ | refine Rn.skip hc ?_ | refine Rn.block hc ?_ | refine Rn.inBlock hc ?_ | refine Rn.scope hc ?_ | refine Rn.inScope hc ?_))
      refine Rn.zAL hc rfl ?_
      simp only [zAY,zAU,sp_n,Nat.reduceLT,Value.bool.injEq,zEl,hn]
      (repeat (first | refine Rn.seq hc ?_ | refine Rn.skip hc ?_ | refine Rn.block hc ?_ | refine Rn.inBlock hc ?_ | refine Rn.scope hc ?_ | refine Rn.inScope hc ?_))
      obtain ⟨F,hFb,hF⟩ : ∃ F : AHeap → Prop,(∀ M,F M → ∀ b,b < G.next → ∀ o,cl M b o = cl G b o) ∧ (∀ M,Nx G.next G M → F M) := ⟨fun M => Nx G.next G M,fun M h b hb o => h.cl hb o,fun _ h => h⟩
      have X0 := fun M hM => (hFb M hM _ nAG 0).trans p0
      have X1 := fun M hM => (hFb M hM _ nAG 1).trans p1
      have X2 := fun M hM => (hFb M hM _ nAG 2).trans p2
      have Y0 := fun M hM => (hFb M hM _ nYG 0).trans q0
      have Y1 := fun M hM => (hFb M hM _ nYG 1).trans q1
      have Y2 := fun M hM => (hFb M hM _ nYG 2).trans q2
      have hlx := lx n
      have hly := ly n
      have hmul := mul_lim hlx.1 (by omega) hly.1 (by omega)
      have hwa : IntKind.i64.wrap (x.s n + y.s n) = x.s n + y.s n := IntWalk.i64_in _ ⟨by omega,by omega⟩
      have hwm : IntKind.i64.wrap (x.s n * y.s n) = x.s n * y.s n := IntWalk.i64_in _ ⟨by omega,by omega⟩
      have hatx : atL x.st x.ro n = x.s n := rfl
      have haty : atL y.st y.ro n = y.s n := rfl
      have hbk : Nx G1.next G1 (bump G1 8) := Nx.bump (Nx.refl hxG1.wf _) 8
      have hGk : Nx G.next G (bump G1 8) := hxG1.trans (hbk.le hxG1.next)
      have FB := hF _ hGk
      have hox1 := hox.nx (hAG.trans (hGk.le hAG.next))
      have hoy1 := hoy.nx (hAG.trans (hGk.le hAG.next))
      refine Rn.drawnF hc hx atS F (n := 2) (k := 8) (by kernel_rfl) (by kernel_rfl) (by rfl) ?_
      refine Dr.read (by first | rfl | kernel_rfl) (by rfl) (by assumption) (fun M hM => by simp only [zAY,zAT,ne_eq,Nat.reduceEqDiff,zNf,fx,ld,zAR,cls,Nat.zero_add,Nat.reduceAdd,tk24,s3,X0 M hM,X1 M hM,X2 M hM] <;> rfl) (by rfl) (by first | exact VQ.int _ _ | exact VQ.bool _ | exact VQ.ptr _ _ | exact VQ.slice _ _ _ | exact VQ.func (by simp [zAW,zAV,zAZ]) (by simp [zAW,zAV,zAZ]) | exact VQ.agg (by simp [zAW,zAZ]) | exact VQ.tuple (by simp [zAW,zAV,zAZ])) ?_
      refine Dr.read (by first | rfl | kernel_rfl) (by rfl) (by assumption) (fun M hM => by simp only [zAY,zAT,ne_eq,Nat.reduceEqDiff,zNf,fx,s11] <;> rfl) (by rfl) (by first | exact VQ.int _ _ | exact VQ.bool _ | exact VQ.ptr _ _ | exact VQ.slice _ _ _ | exact VQ.func (by simp [zAW,zAV,zAZ]) (by simp [zAW,zAV,zAZ]) | exact VQ.agg (by simp [zAW,zAV,zAZ]) | exact VQ.tuple (by simp [zAW,zAV,zAZ])) ?_
      refine Dr.call (by kernel_rfl) (by rfl) (by assumption) (by rfl) (zBU (by rfl) ⟨by rfl,by rfl⟩ (by rfl) (xs := [.agg #[.int .i64 x.m,.slice x.sa x.st.length x.sc,.slice x.ra x.ro.length x.rc],.int .i64 (n : Int)]) (by simp only [zAY,zAU,zAT,sp_n,Nat.reduceLT,ne_eq,Nat.reduceEqDiff,zNf,List.map_cons,List.map_nil,List.nil_append,List.append_nil,hn]) (at_ref_S hbk.wf hox1.1 hox1.2.1 n hox1.2.2.1 m3 hox1.2.2.2 (by omega))) ?_
      rintro v M1 ⟨hv,k1⟩
      obtain rfl := hv _ _ _ _ _ _ _ _ rfl hox1.1 hox1.2.1
      rw [hatx]
      have hM1 : Nx G1.next G1 M1 := hbk.trans (k1.le hbk.next)
      have hGM1 : Nx G.next G M1 := hxG1.trans (hM1.le hxG1.next)
      have FM1 := hF _ hGM1
      have hoy2 := hoy.nx (hAG.trans (hGM1.le hAG.next))
      refine Dr.read (by first | rfl | kernel_rfl) (by rfl) (by assumption) (fun M hM => by simp only [zAY,zAT,ne_eq,Nat.reduceEqDiff,zNf,fx,ld,zAR,cls,Nat.zero_add,Nat.reduceAdd,tk24,s4,Y0 M hM,Y1 M hM,Y2 M hM] <;> rfl) (by rfl) (by first | exact VQ.int _ _ | exact VQ.bool _ | exact VQ.ptr _ _ | exact VQ.slice _ _ _ | exact VQ.func (by simp [zAW,zAV,zAZ]) (by simp [zAW,zAV,zAZ]) | exact VQ.agg (by simp [zAW,zAZ]) | exact VQ.tuple (by simp [zAW,zAV,zAZ])) ?_
      refine Dr.read (by first | rfl | kernel_rfl) (by rfl) (by assumption) (fun M hM => by simp only [zAY,zAT,ne_eq,Nat.reduceEqDiff,zNf,fx,s11] <;> rfl) (by rfl) (by first | exact VQ.int _ _ | exact VQ.bool _ | exact VQ.ptr _ _ | exact VQ.slice _ _ _ | exact VQ.func (by simp [zAW,zAV,zAZ]) (by simp [zAW,zAV,zAZ]) | exact VQ.agg (by simp [zAW,zAV,zAZ]) | exact VQ.tuple (by simp [zAW,zAV,zAZ])) ?_
      refine Dr.call (by kernel_rfl) (by rfl) (by assumption) (by rfl) (zBU (by rfl) ⟨by rfl,by rfl⟩ (by rfl) (xs := [.agg #[.int .i64 y.m,.slice y.sa y.st.length y.sc,.slice y.ra y.ro.length y.rc],.int .i64 (n : Int)]) (by simp only [zAY,zAU,zAT,sp_n,Nat.reduceLT,ne_eq,Nat.reduceEqDiff,zNf,List.map_cons,List.map_nil,List.nil_append,List.append_nil,hn]) (at_ref_S hM1.wf hoy2.1 hoy2.2.1 n hoy2.2.2.1 k3 hoy2.2.2.2 (by omega))) ?_
      rintro v G2 ⟨hv,k2⟩
      obtain rfl := hv _ _ _ _ _ _ _ _ rfl hoy2.1 hoy2.2.1
      rw [haty]
      have hM2 : Nx G1.next G1 G2 := hM1.trans (k2.le hM1.next)
      have hGM2 : Nx G.next G G2 := hxG1.trans (hM2.le hxG1.next)
      have FM2 := hF _ hGM2
      refine Dr.read (by first | rfl | kernel_rfl) (by rfl) (by assumption) (fun M hM => by simp only [zAY,zAU,zAT,sp_n,Nat.reduceLT,ne_eq,Nat.reduceEqDiff,zNf,fx,zAC,hn,hwa] <;> rfl) (by rfl) (by first | exact VQ.int _ _ | exact VQ.bool _ | exact VQ.ptr _ _ | exact VQ.slice _ _ _ | exact VQ.func (by simp [zAW,zAV,zAZ]) (by simp [zAW,zAV,zAZ]) | exact VQ.agg (by simp [zAW,zAV,zAZ]) | exact VQ.tuple (by simp [zAW,zAV,zAZ])) ?_
      refine Dr.read (by first | rfl | kernel_rfl) (by rfl) (by assumption) (fun M hM => by simp only [zAY,zAU,sp_n,Nat.reduceLT,fx,hn] <;> rfl) (by rfl) (by first | exact VQ.int _ _ | exact VQ.bool _ | exact VQ.ptr _ _ | exact VQ.slice _ _ _ | exact VQ.func (by simp [zAW,zAV,zAZ]) (by simp [zAW,zAV,zAZ]) | exact VQ.agg (by simp [zAW,zAV,zAZ]) | exact VQ.tuple (by simp [zAW,zAV,zAZ])) ?_
      refine Dr.nil (by rfl) (fun M hM => by cases hM) FM2 ⟨G2,by rfl,?_⟩
      have hG2 : Nx G.next G G2 := hxG1.trans (hM2.le hxG1.next)
      refine Rn.seq hc ?_
      refine Rn.cut2 hc (Q1 := fun s ds D => ds = [] ∧ Nx G.next G D ∧ s.n = 83 ∧ sget s 2 = .bool times ∧ sget s 3 = .pointer (some ⟨A.next,0,none⟩) ∧ sget s 4 = .pointer (some ⟨bY,0,none⟩) ∧ sget s 6 = .pointer (some ⟨bR,0,none⟩) ∧ sget s 9 = .int .i64 (H : Int) ∧ sget s 10 = .pointer (some ⟨bO,0,none⟩) ∧ sget s 11 = .int .i64 (n : Int) ∧ sget s 12 = .int .i64 (jnV times (x.s n) (y.s n)))
        (Q2 := fun _ _ _ => False) ?_ ?_ ?_
      · (repeat (first | refine Rn.seq hc ?_ | refine Rn.skip hc ?_ | refine Rn.block hc ?_ | refine Rn.inBlock hc ?_ | refine Rn.scope hc ?_ | refine Rn.inScope hc ?_))
        refine Rn.reg hc rfl ?_
        simp only [zAY,zAT,ne_eq,Nat.reduceEqDiff,zNf,gd,zAX,rops,fx,zOi,zEl,s2]
        (repeat (first | refine Rn.seq hc ?_ | refine Rn.skip hc ?_ | refine Rn.block hc ?_ | refine Rn.inBlock hc ?_ | refine Rn.scope hc ?_ | refine Rn.inScope hc ?_))
        cases times with
        | false =>
          refine Rn.zAL hc rfl ?_
          simp only [zAY,zAU,sp_n,Nat.reduceLT,Value.bool.injEq,zEl,hn]
          (repeat (first | refine Rn.seq hc ?_ | refine Rn.skip hc ?_ | refine Rn.block hc ?_ | refine Rn.inBlock hc ?_ | refine Rn.scope hc ?_ | refine Rn.inScope hc ?_))
          exact Rn.fall ⟨rfl,hG2,by simp only [sp_n,hn],by simp only [zAT,ne_eq,Nat.reduceEqDiff,zNf,s2],by simp only [zAT,ne_eq,Nat.reduceEqDiff,zNf,s3],by simp only [zAT,ne_eq,Nat.reduceEqDiff,zNf,s4],by simp only [zAT,ne_eq,Nat.reduceEqDiff,zNf,s6],by simp only [zAT,ne_eq,Nat.reduceEqDiff,zNf,s9],by simp only [zAT,ne_eq,Nat.reduceEqDiff,zNf,s10],by simp only [zAT,ne_eq,Nat.reduceEqDiff,zNf,s11],by simp only [zAU,zAT,sp_n,Nat.reduceLT,ne_eq,Nat.reduceEqDiff,zNf,hn]; rfl⟩
        | true =>
          refine Rn.zAL hc rfl ?_
          simp only [zAY,zAU,sp_n,Nat.reduceLT,Value.bool.injEq,zEl,hn]
          (repeat (first | refine Rn.seq hc ?_ | refine Rn.skip hc ?_ | refine Rn.block hc ?_ | refine Rn.inBlock hc ?_ | refine Rn.scope hc ?_ | refine Rn.inScope hc ?_))
          have hbk : Nx G2.next G2 (bump G2 8) := Nx.bump (Nx.refl hG2.wf _) 8
          have hGk : Nx G.next G (bump G2 8) := hG2.trans (hbk.le hG2.next)
          have FB := hF _ hGk
          have hox1 := hox.nx (hAG.trans (hGk.le hAG.next))
          have hoy1 := hoy.nx (hAG.trans (hGk.le hAG.next))
          refine Rn.drawnF hc hx atS F (n := 2) (k := 8) (by kernel_rfl) (by kernel_rfl) (by rfl) ?_
          refine Dr.read (by first | rfl | kernel_rfl) (by rfl) (by assumption) (fun M hM => by simp only [zAY,zAT,ne_eq,Nat.reduceEqDiff,zNf,fx,ld,zAR,cls,Nat.zero_add,Nat.reduceAdd,tk24,s3,X0 M hM,X1 M hM,X2 M hM] <;> rfl) (by rfl) (by first | exact VQ.int _ _ | exact VQ.bool _ | exact VQ.ptr _ _ | exact VQ.slice _ _ _ | exact VQ.func (by simp [zAW,zAV,zAZ]) (by simp [zAW,zAV,zAZ]) | exact VQ.agg (by simp [zAW,zAZ]) | exact VQ.tuple (by simp [zAW,zAV,zAZ])) ?_
          refine Dr.read (by first | rfl | kernel_rfl) (by rfl) (by assumption) (fun M hM => by simp only [zAY,zAT,ne_eq,Nat.reduceEqDiff,zNf,fx,s11] <;> rfl) (by rfl) (by first | exact VQ.int _ _ | exact VQ.bool _ | exact VQ.ptr _ _ | exact VQ.slice _ _ _ | exact VQ.func (by simp [zAW,zAV,zAZ]) (by simp [zAW,zAV,zAZ]) | exact VQ.agg (by simp [zAW,zAV,zAZ]) | exact VQ.tuple (by simp [zAW,zAV,zAZ])) ?_
          refine Dr.call (by kernel_rfl) (by rfl) (by assumption) (by rfl) (zBU (by rfl) ⟨by rfl,by rfl⟩ (by rfl) (xs := [.agg #[.int .i64 x.m,.slice x.sa x.st.length x.sc,.slice x.ra x.ro.length x.rc],.int .i64 (n : Int)]) (by simp only [zAY,zAU,zAT,sp_n,Nat.reduceLT,ne_eq,Nat.reduceEqDiff,zNf,List.map_cons,List.map_nil,List.nil_append,List.append_nil,hn]) (at_ref_S hbk.wf hox1.1 hox1.2.1 n hox1.2.2.1 m3 hox1.2.2.2 (by omega))) ?_
          rintro v M1 ⟨hv,k1⟩
          obtain rfl := hv _ _ _ _ _ _ _ _ rfl hox1.1 hox1.2.1
          rw [hatx]
          have hM1 : Nx G2.next G2 M1 := hbk.trans (k1.le hbk.next)
          have hGM1 : Nx G.next G M1 := hG2.trans (hM1.le hG2.next)
          have FM1 := hF _ hGM1
          have hoy2 := hoy.nx (hAG.trans (hGM1.le hAG.next))
          refine Dr.read (by first | rfl | kernel_rfl) (by rfl) (by assumption) (fun M hM => by simp only [zAY,zAT,ne_eq,Nat.reduceEqDiff,zNf,fx,ld,zAR,cls,Nat.zero_add,Nat.reduceAdd,tk24,s4,Y0 M hM,Y1 M hM,Y2 M hM] <;> rfl) (by rfl) (by first | exact VQ.int _ _ | exact VQ.bool _ | exact VQ.ptr _ _ | exact VQ.slice _ _ _ | exact VQ.func (by simp [zAW,zAV,zAZ]) (by simp [zAW,zAV,zAZ]) | exact VQ.agg (by simp [zAW,zAZ]) | exact VQ.tuple (by simp [zAW,zAV,zAZ])) ?_
          refine Dr.read (by first | rfl | kernel_rfl) (by rfl) (by assumption) (fun M hM => by simp only [zAY,zAT,ne_eq,Nat.reduceEqDiff,zNf,fx,s11] <;> rfl) (by rfl) (by first | exact VQ.int _ _ | exact VQ.bool _ | exact VQ.ptr _ _ | exact VQ.slice _ _ _ | exact VQ.func (by simp [zAW,zAV,zAZ]) (by simp [zAW,zAV,zAZ]) | exact VQ.agg (by simp [zAW,zAV,zAZ]) | exact VQ.tuple (by simp [zAW,zAV,zAZ])) ?_
          refine Dr.call (by kernel_rfl) (by rfl) (by assumption) (by rfl) (zBU (by rfl) ⟨by rfl,by rfl⟩ (by rfl) (xs := [.agg #[.int .i64 y.m,.slice y.sa y.st.length y.sc,.slice y.ra y.ro.length y.rc],.int .i64 (n : Int)]) (by simp only [zAY,zAU,zAT,sp_n,Nat.reduceLT,ne_eq,Nat.reduceEqDiff,zNf,List.map_cons,List.map_nil,List.nil_append,List.append_nil,hn]) (at_ref_S hM1.wf hoy2.1 hoy2.2.1 n hoy2.2.2.1 k3 hoy2.2.2.2 (by omega))) ?_
          rintro v G3 ⟨hv,k2⟩
          obtain rfl := hv _ _ _ _ _ _ _ _ rfl hoy2.1 hoy2.2.1
          rw [haty]
          have hM2 : Nx G2.next G2 G3 := hM1.trans (k2.le hM1.next)
          have hGM2 : Nx G.next G G3 := hG2.trans (hM2.le hG2.next)
          have FM2 := hF _ hGM2
          refine Dr.read (by first | rfl | kernel_rfl) (by rfl) (by assumption) (fun M hM => by simp only [zAY,zAU,zAT,sp_n,Nat.reduceLT,ne_eq,Nat.reduceEqDiff,zNf,fx,bin_mul,hn,hwm] <;> rfl) (by rfl) (by first | exact VQ.int _ _ | exact VQ.bool _ | exact VQ.ptr _ _ | exact VQ.slice _ _ _ | exact VQ.func (by simp [zAW,zAV,zAZ]) (by simp [zAW,zAV,zAZ]) | exact VQ.agg (by simp [zAW,zAV,zAZ]) | exact VQ.tuple (by simp [zAW,zAV,zAZ])) ?_
          refine Dr.read (by first | rfl | kernel_rfl) (by rfl) (by assumption) (fun M hM => by simp only [zAY,zAU,sp_n,Nat.reduceLT,fx,hn] <;> rfl) (by rfl) (by first | exact VQ.int _ _ | exact VQ.bool _ | exact VQ.ptr _ _ | exact VQ.slice _ _ _ | exact VQ.func (by simp [zAW,zAV,zAZ]) (by simp [zAW,zAV,zAZ]) | exact VQ.agg (by simp [zAW,zAV,zAZ]) | exact VQ.tuple (by simp [zAW,zAV,zAZ])) ?_
          refine Dr.nil (by rfl) (fun M hM => by cases hM) FM2 ⟨G3,by rfl,?_⟩
          exact Rn.fall ⟨rfl,hG2.trans (hM2.le hG2.next),by simp only [sp_n,hn],by simp only [zAT,ne_eq,Nat.reduceEqDiff,zNf,s2],by simp only [zAT,ne_eq,Nat.reduceEqDiff,zNf,s3],by simp only [zAT,ne_eq,Nat.reduceEqDiff,zNf,s4],by simp only [zAT,ne_eq,Nat.reduceEqDiff,zNf,s6],by simp only [zAT,ne_eq,Nat.reduceEqDiff,zNf,s9],by simp only [zAT,ne_eq,Nat.reduceEqDiff,zNf,s10],by simp only [zAT,ne_eq,Nat.reduceEqDiff,zNf,s11],by simp only [zAU,sp_n,Nat.reduceLT,hn]; rfl⟩
      · clear hn s2 s3 s4 s6 s9 s10 s11 s
        rintro s ds G0 ⟨rfl,hG0,hn,s2,s3,s4,s6,s9,s10,s11,s12⟩
        have hr : ∀ M,bin Try.prog .rem 3 (.int .i64 (jnV times (x.s n) (y.s n))) (.int .i64 x.m) M = some (.int .i64 (W n),M) := fun M => by
          rw [← hWv]
          exact zBB _ _ _ _ (by omega)
        (repeat (first | refine Rn.seq hc ?_ | refine Rn.skip hc ?_ | refine Rn.block hc ?_ | refine Rn.inBlock hc ?_ | refine Rn.scope hc ?_ | refine Rn.inScope hc ?_))
        by_cases hnH : n < H
        · have hd3 : decide ((n : Int) < (H : Int)) = true := decide_eq_true (by omega)
          have m1' : min n H = n := by omega
          have m2' : min (n + 1) H = n + 1 := by omega
          have z1 : n - H = 0 := by omega
          have z2 : n + 1 - H = 0 := by omega
          rw [m1',z1] at lG gG
          have gG' : Gr2 G wa wb C5.next (redS W n) [] := gG
          refine Rn.reg hc rfl ?_
          simp only [zAY,zAU,zAT,sp_n,Nat.reduceLT,ne_eq,Nat.reduceEqDiff,zNf,gd,zAX,rops,fx,zAK,zOi,zEl,hn,s9,s11,hd3]
          (repeat (first | refine Rn.seq hc ?_ | refine Rn.skip hc ?_ | refine Rn.block hc ?_ | refine Rn.inBlock hc ?_ | refine Rn.scope hc ?_ | refine Rn.inScope hc ?_))
          refine Rn.zAL hc rfl ?_
          simp only [zAY,zAU,sp_n,Nat.reduceLT,Value.bool.injEq,zEl,hn]
          (repeat (first | refine Rn.seq hc ?_ | refine Rn.skip hc ?_ | refine Rn.block hc ?_ | refine Rn.inBlock hc ?_ | refine Rn.scope hc ?_ | refine Rn.inScope hc ?_))
          have nG0 := hG0.next
          have cF : cl G0 bO 1 = some (.slice wa n n) := by rw [hG0.cl (by omega)]; rw [zCV lG rfl]; rfl
          have cM : cl G0 A.next 0 = some (.int .i64 x.m) := (hG0.cl nAG 0).trans p0
          obtain ⟨F2,hF0,hF1,hFF⟩ : ∃ F : AHeap → Prop,(∀ M,F M → cl M A.next 0 = some (.int .i64 x.m)) ∧ (∀ M,F M → cl M bO 1 = some (.slice wa n n)) ∧ (∀ M,Canon.look M.objs A.next = Canon.look G0.objs A.next → Canon.look M.objs bO = Canon.look G0.objs bO → F M) :=
            ⟨fun M => cl M A.next 0 = some (.int .i64 x.m) ∧ cl M bO 1 = some (.slice wa n n),fun _ h => h.1,fun _ h => h.2,fun M q1 q2 => ⟨(zAB q1).trans cM,(zAB q2).trans cF⟩⟩
          have hbk : Nx G0.next G0 (bump G0 10) := Nx.bump (Nx.refl hG0.wf _) 10
          have FB : F2 (bump G0 10) := hFF _ rfl rfl
          refine Rn.drawnL hc hx noS F2 (E := [6,7]) (n := 9) (k := 10) (by kernel_rfl) (by kernel_rfl) (by rfl) (by kernel_rfl) ?_
          refine DrL.read (by first | rfl | kernel_rfl) (by rfl) (by assumption) (fun M hM => by simp only [zAY,zAT,ne_eq,Nat.reduceEqDiff,zNf,fx,fad,zAR,Nat.zero_add,zBQ,s10] <;> rfl) (by rfl) (by first | exact VQ.int _ _ | exact VQ.bool _ | exact VQ.ptr _ _ | exact VQ.slice _ _ _ | exact VQ.func (by simp [zAW,zAV,zAZ]) (by simp [zAW,zAV,zAZ]) | exact VQ.agg (by simp [zAW,zAV,zAZ]) | exact VQ.tuple (by simp [zAW,zAV,zAZ])) ?_
          refine DrL.read (by first | rfl | kernel_rfl) (by rfl) (by assumption) (fun M hM => by simp only [zAY,zAU,sp_n,Nat.reduceLT,fx,ld,zAR,tk22,hn,hF1 M hM] <;> rfl) (by rfl) (by first | exact VQ.int _ _ | exact VQ.bool _ | exact VQ.ptr _ _ | exact VQ.slice _ _ _ | exact VQ.func (by simp [zAW,zAV,zAZ]) (by simp [zAW,zAV,zAZ]) | exact VQ.agg (by simp [zAW,zAV,zAZ]) | exact VQ.tuple (by simp [zAW,zAV,zAZ])) ?_
          refine DrL.read (by first | rfl | kernel_rfl) (by rfl) (by assumption) (fun M hM => by simp only [zAY,zAT,ne_eq,Nat.reduceEqDiff,zNf,fx,s12] <;> rfl) (by rfl) (by first | exact VQ.int _ _ | exact VQ.bool _ | exact VQ.ptr _ _ | exact VQ.slice _ _ _ | exact VQ.func (by simp [zAW,zAV,zAZ]) (by simp [zAW,zAV,zAZ]) | exact VQ.agg (by simp [zAW,zAV,zAZ]) | exact VQ.tuple (by simp [zAW,zAV,zAZ])) ?_
          refine DrL.read (by first | rfl | kernel_rfl) (by rfl) (by assumption) (fun M hM => by simp only [zAY,zAT,ne_eq,Nat.reduceEqDiff,zNf,fx,fad,zAR,Nat.add_zero,zBO,s3] <;> rfl) (by rfl) (by first | exact VQ.int _ _ | exact VQ.bool _ | exact VQ.ptr _ _ | exact VQ.slice _ _ _ | exact VQ.func (by simp [zAW,zAV,zAZ]) (by simp [zAW,zAV,zAZ]) | exact VQ.agg (by simp [zAW,zAV,zAZ]) | exact VQ.tuple (by simp [zAW,zAV,zAZ])) ?_
          refine DrL.read (by first | rfl | kernel_rfl) (by rfl) (by assumption) (fun M hM => by simp only [zAY,zAU,sp_n,Nat.reduceLT,fx,ld,zAR,tk3,hn,hF0 M hM] <;> rfl) (by rfl) (by first | exact VQ.int _ _ | exact VQ.bool _ | exact VQ.ptr _ _ | exact VQ.slice _ _ _ | exact VQ.func (by simp [zAW,zAV,zAZ]) (by simp [zAW,zAV,zAZ]) | exact VQ.agg (by simp [zAW,zAV,zAZ]) | exact VQ.tuple (by simp [zAW,zAV,zAZ])) ?_
          refine DrL.read (by first | rfl | kernel_rfl) (by rfl) (by assumption) (fun M hM => by simp only [zAY,zAU,zAT,sp_n,Nat.reduceLT,ne_eq,Nat.reduceEqDiff,zNf,fx,hn,hr] <;> rfl) (by rfl) (by first | exact VQ.int _ _ | exact VQ.bool _ | exact VQ.ptr _ _ | exact VQ.slice _ _ _ | exact VQ.func (by simp [zAW,zAV,zAZ]) (by simp [zAW,zAV,zAZ]) | exact VQ.agg (by simp [zAW,zAV,zAZ]) | exact VQ.tuple (by simp [zAW,zAV,zAZ])) ?_
          refine DrL.float (by rfl) (by rfl) (by rfl) (fb22_1 (v := .int .i64 (W n)) (by simp only [zAY,zAU,sp_n,Nat.reduceLT,hn]) rfl) ?_
          obtain ⟨B2,p1,hxB2,eB2,lB2,kB2⟩ := zCP (N := 0) (Nx.refl hbk.wf 0) (b := G0.next + 6) (Nat.zero_le _) (by rw [zAH]; omega) (hG0.wf.none (by omega)) [.int .i64 (W n)] 3 1 1
          rw [zAH] at eB2
          have FM2 : F2 B2 := hFF _ (kB2 _ (by omega)) (kB2 _ (by omega))
          have gB1 : Gr2 (bump G0 10) wa wb C5.next (redS W n) [] := (gG'.nx hwG hG0).nx hG0.wf hbk
          have gB2 : Gr2 B2 wa wb C5.next (redS W n) [] := gB1.ext (by rw [zAH]; omega) fun b' hb' => by
            by_cases hbb : b' = G0.next + 6
            · exact .inl (hbb ▸ hG0.wf.none (by omega))
            · exact .inr (kB2 _ hbb)
          obtain ⟨B3,q1,n3,w3,hg3,nx3,kp3⟩ := Gr2.pushA' hxB2.wf gB2 (a2 := some ⟨G0.next + 6,0,none⟩) (c2 := 1) (b2 := G0.next + 6) (x := W n) rfl (by rw [zCV lB2 rfl]; rfl) (by rw [zAI]; omega) (by omega)
          rw [zAI] at q1
          rw [redS_snoc] at hg3
          have L3 : ∀ b',b' < C5.next → Canon.look B3.objs b' = Canon.look G.objs b' := fun b' hb' => by
            rw [nx3.keep _ hb',kB2 _ (by omega)]
            exact hG0.keep _ (by omega)
          have F3 : F2 B3 := hFF _ ((L3 _ (by omega)).trans (hG0.keep _ nAG).symm) ((L3 _ hbO).trans (hG0.keep _ (by omega)).symm)
          refine DrL.eff (by rfl) (by rfl) (pd1 := [(6,⟨[.int .i64 (W n)],3,.sl 1 1⟩)]) (pd2 := []) (by kernel_rfl) (by kernel_rfl) (ms0 := [bump G0 10]) (A0 := B2) (by simp only [zBS,p1]) (fun M hM => by rw [List.mem_singleton] at hM; rw [hM]; exact FB) FM2 (by rfl)
            (v := .slice (some ⟨B2.next,0,none⟩) (n + 1) (n + 1)) (A1 := B3) (zBP rfl (by simp only [zAY,zAU,zAT,sp_n,Nat.reduceLT,ne_eq,Nat.reduceEqDiff,zNf,Nat.zero_add,Nat.reduceAdd,hn,ae_apd,zBD,FK.val]; exact q1)) ?_
          refine DrL.read (by first | rfl | kernel_rfl) (by rfl) (by assumption) (fun M hM => by simp only [zAY,zAT,ne_eq,Nat.reduceEqDiff,zNf,fx,fad,zAR,Nat.zero_add,Nat.reduceAdd,zBQ,s10] <;> rfl) (by rfl) (by first | exact VQ.int _ _ | exact VQ.bool _ | exact VQ.ptr _ _ | exact VQ.slice _ _ _ | exact VQ.func (by simp [zAW,zAV,zAZ]) (by simp [zAW,zAV,zAZ]) | exact VQ.agg (by simp [zAW,zAV,zAZ]) | exact VQ.tuple (by simp [zAW,zAV,zAZ])) ?_
          have l3 : Canon.look B3.objs bO = _ := (L3 _ hbO).trans lG
          obtain ⟨B4,v1,v2⟩ := st1_upd (o := 1) (v := .slice (some ⟨B2.next,0,none⟩) (n + 1) (n + 1)) l3 rfl (by simp) rfl
          refine DrL.eff (by rfl) (by rfl) (pd1 := []) (pd2 := []) (by kernel_rfl) (by kernel_rfl) (ms0 := []) (A0 := B3) rfl (fun _ h => by cases h) F3 (by rfl) (v := undef) (A1 := B4) (zBP rfl (fx_ok (by rfl) (by simp only [zAY,zAU,zAT,sp_n,Nat.reduceLT,ne_eq,Nat.reduceEqDiff,zNf,fx,str,zAR,Nat.zero_add,Nat.reduceAdd,tk22,hn,v1]))) ?_
          refine DrL.nil ⟨by rfl,B4,by rfl,?_⟩
          (repeat (first | refine Rn.seq hc ?_ | refine Rn.skip hc ?_ | refine Rn.block hc ?_ | refine Rn.inBlock hc ?_ | refine Rn.scope hc ?_ | refine Rn.inScope hc ?_))
          refine Rn.reg hc rfl ?_
          simp only [zAY,zAS,zAU,zAT,sp_n,zAO,Nat.reduceLT,ne_eq,Nat.reduceEqDiff,zNf,gd,zAX,rops,fx,zAC,Nat.zero_add,zOi,zEl,Nat.reduceAdd,hn,s11,zBW (show n < 9223372036854775807 by omega)]
          (repeat (first | refine Rn.seq hc ?_ | refine Rn.skip hc ?_ | refine Rn.block hc ?_ | refine Rn.inBlock hc ?_ | refine Rn.scope hc ?_ | refine Rn.inScope hc ?_))
          obtain ⟨c',t,f,g,e,r1,r2,_⟩ := v2.at'
          rw [l3] at r1
          cases r1
          have hn4 := v2.next
          exact ih _ _ _ (by omega) ⟨n + 1,some ⟨B2.next,0,none⟩,wb,by omega,rfl,(v2.nx w3 (Nat.zero_le _)).wf,by omega,fun b hb hne => by rw [v2.off _ hne,L3 _ hb]; exact hkeep b hb hne,by rw [m2',z2]; exact r2,by rw [m2',z2]; exact hg3.ext (Nat.le_of_eq v2.next.symm) fun b' hb' => .inr (v2.off _ (by omega)),by simp only [sp_n,hn],by simp only [zAT,ne_eq,Nat.reduceEqDiff,zNf,s2],by simp only [zAT,ne_eq,Nat.reduceEqDiff,zNf,s3],by simp only [zAT,ne_eq,Nat.reduceEqDiff,zNf,s4],by simp only [zAT,ne_eq,Nat.reduceEqDiff,zNf,s6],by simp only [zAT,ne_eq,Nat.reduceEqDiff,zNf,s9],by simp only [zAT,ne_eq,Nat.reduceEqDiff,zNf,s10],by simp only [zAU,sp_n,Nat.reduceLT,hn]⟩
        · have hd3 : decide ((n : Int) < (H : Int)) = false := decide_eq_false (by omega)
          obtain ⟨j,hj⟩ : ∃ j,n = H + j := ⟨n - H,by omega⟩
          have m1' : min n H = H := by omega
          have m2' : min (n + 1) H = H := by omega
          have z1 : n - H = j := by omega
          have z2 : n + 1 - H = j + 1 := by omega
          rw [m1',z1] at lG gG
          refine Rn.reg hc rfl ?_
          simp only [zAY,zAU,zAT,sp_n,Nat.reduceLT,ne_eq,Nat.reduceEqDiff,zNf,gd,zAX,rops,fx,zAK,zOi,zEl,hn,s9,s11,hd3]
          (repeat (first | refine Rn.seq hc ?_ | refine Rn.skip hc ?_ | refine Rn.block hc ?_ | refine Rn.inBlock hc ?_ | refine Rn.scope hc ?_ | refine Rn.inScope hc ?_))
          refine Rn.zAL hc rfl ?_
          simp only [zAY,zAU,sp_n,Nat.reduceLT,Value.bool.injEq,zEl,hn]
          (repeat (first | refine Rn.seq hc ?_ | refine Rn.skip hc ?_ | refine Rn.block hc ?_ | refine Rn.inBlock hc ?_ | refine Rn.scope hc ?_ | refine Rn.inScope hc ?_))
          have nG0 := hG0.next
          have cF : cl G0 bO 2 = some (.slice wb j j) := by rw [hG0.cl (by omega)]; rw [zCV lG rfl]; rfl
          have cM : cl G0 A.next 0 = some (.int .i64 x.m) := (hG0.cl nAG 0).trans p0
          obtain ⟨F2,hF0,hF1,hFF⟩ : ∃ F : AHeap → Prop,(∀ M,F M → cl M A.next 0 = some (.int .i64 x.m)) ∧ (∀ M,F M → cl M bO 2 = some (.slice wb j j)) ∧ (∀ M,Canon.look M.objs A.next = Canon.look G0.objs A.next → Canon.look M.objs bO = Canon.look G0.objs bO → F M) :=
            ⟨fun M => cl M A.next 0 = some (.int .i64 x.m) ∧ cl M bO 2 = some (.slice wb j j),fun _ h => h.1,fun _ h => h.2,fun M q1 q2 => ⟨(zAB q1).trans cM,(zAB q2).trans cF⟩⟩
          have hbk : Nx G0.next G0 (bump G0 10) := Nx.bump (Nx.refl hG0.wf _) 10
          have FB : F2 (bump G0 10) := hFF _ rfl rfl
          refine Rn.drawnL hc hx noS F2 (E := [6,7]) (n := 9) (k := 10) (by kernel_rfl) (by kernel_rfl) (by rfl) (by kernel_rfl) ?_
          refine DrL.read (by first | rfl | kernel_rfl) (by rfl) (by assumption) (fun M hM => by simp only [zAY,zAT,ne_eq,Nat.reduceEqDiff,zNf,fx,fad,zAR,Nat.zero_add,zBE,s10] <;> rfl) (by rfl) (by first | exact VQ.int _ _ | exact VQ.bool _ | exact VQ.ptr _ _ | exact VQ.slice _ _ _ | exact VQ.func (by simp [zAW,zAV,zAZ]) (by simp [zAW,zAV,zAZ]) | exact VQ.agg (by simp [zAW,zAV,zAZ]) | exact VQ.tuple (by simp [zAW,zAV,zAZ])) ?_
          refine DrL.read (by first | rfl | kernel_rfl) (by rfl) (by assumption) (fun M hM => by simp only [zAY,zAU,sp_n,Nat.reduceLT,fx,ld,zAR,tk22,hn,hF1 M hM] <;> rfl) (by rfl) (by first | exact VQ.int _ _ | exact VQ.bool _ | exact VQ.ptr _ _ | exact VQ.slice _ _ _ | exact VQ.func (by simp [zAW,zAV,zAZ]) (by simp [zAW,zAV,zAZ]) | exact VQ.agg (by simp [zAW,zAV,zAZ]) | exact VQ.tuple (by simp [zAW,zAV,zAZ])) ?_
          refine DrL.read (by first | rfl | kernel_rfl) (by rfl) (by assumption) (fun M hM => by simp only [zAY,zAT,ne_eq,Nat.reduceEqDiff,zNf,fx,s12] <;> rfl) (by rfl) (by first | exact VQ.int _ _ | exact VQ.bool _ | exact VQ.ptr _ _ | exact VQ.slice _ _ _ | exact VQ.func (by simp [zAW,zAV,zAZ]) (by simp [zAW,zAV,zAZ]) | exact VQ.agg (by simp [zAW,zAV,zAZ]) | exact VQ.tuple (by simp [zAW,zAV,zAZ])) ?_
          refine DrL.read (by first | rfl | kernel_rfl) (by rfl) (by assumption) (fun M hM => by simp only [zAY,zAT,ne_eq,Nat.reduceEqDiff,zNf,fx,fad,zAR,Nat.add_zero,zBO,s3] <;> rfl) (by rfl) (by first | exact VQ.int _ _ | exact VQ.bool _ | exact VQ.ptr _ _ | exact VQ.slice _ _ _ | exact VQ.func (by simp [zAW,zAV,zAZ]) (by simp [zAW,zAV,zAZ]) | exact VQ.agg (by simp [zAW,zAV,zAZ]) | exact VQ.tuple (by simp [zAW,zAV,zAZ])) ?_
          refine DrL.read (by first | rfl | kernel_rfl) (by rfl) (by assumption) (fun M hM => by simp only [zAY,zAU,sp_n,Nat.reduceLT,fx,ld,zAR,tk3,hn,hF0 M hM] <;> rfl) (by rfl) (by first | exact VQ.int _ _ | exact VQ.bool _ | exact VQ.ptr _ _ | exact VQ.slice _ _ _ | exact VQ.func (by simp [zAW,zAV,zAZ]) (by simp [zAW,zAV,zAZ]) | exact VQ.agg (by simp [zAW,zAV,zAZ]) | exact VQ.tuple (by simp [zAW,zAV,zAZ])) ?_
          refine DrL.read (by first | rfl | kernel_rfl) (by rfl) (by assumption) (fun M hM => by simp only [zAY,zAU,zAT,sp_n,Nat.reduceLT,ne_eq,Nat.reduceEqDiff,zNf,fx,hn,hr] <;> rfl) (by rfl) (by first | exact VQ.int _ _ | exact VQ.bool _ | exact VQ.ptr _ _ | exact VQ.slice _ _ _ | exact VQ.func (by simp [zAW,zAV,zAZ]) (by simp [zAW,zAV,zAZ]) | exact VQ.agg (by simp [zAW,zAV,zAZ]) | exact VQ.tuple (by simp [zAW,zAV,zAZ])) ?_
          refine DrL.float (by rfl) (by rfl) (by rfl) (fb22_1 (v := .int .i64 (W n)) (by simp only [zAY,zAU,sp_n,Nat.reduceLT,hn]) rfl) ?_
          obtain ⟨B2,p1,hxB2,eB2,lB2,kB2⟩ := zCP (N := 0) (Nx.refl hbk.wf 0) (b := G0.next + 6) (Nat.zero_le _) (by rw [zAH]; omega) (hG0.wf.none (by omega)) [.int .i64 (W n)] 3 1 1
          rw [zAH] at eB2
          have FM2 : F2 B2 := hFF _ (kB2 _ (by omega)) (kB2 _ (by omega))
          have gB1 : Gr2 (bump G0 10) wa wb C5.next (redS W H) (redR W H j) := (gG.nx hwG hG0).nx hG0.wf hbk
          have gB2 : Gr2 B2 wa wb C5.next (redS W H) (redR W H j) := gB1.ext (by rw [zAH]; omega) fun b' hb' => by
            by_cases hbb : b' = G0.next + 6
            · exact .inl (hbb ▸ hG0.wf.none (by omega))
            · exact .inr (kB2 _ hbb)
          obtain ⟨B3,q1,n3,w3,hg3,nx3,kp3⟩ := Gr2.pushB' hxB2.wf gB2 (a2 := some ⟨G0.next + 6,0,none⟩) (c2 := 1) (b2 := G0.next + 6) (x := W n) rfl (by rw [zCV lB2 rfl]; rfl) (by rw [zAF]; omega)
          rw [zAF] at q1
          rw [hj,redR_snoc] at hg3
          have L3 : ∀ b',b' < C5.next → Canon.look B3.objs b' = Canon.look G.objs b' := fun b' hb' => by
            rw [nx3.keep _ hb',kB2 _ (by omega)]
            exact hG0.keep _ (by omega)
          have F3 : F2 B3 := hFF _ ((L3 _ (by omega)).trans (hG0.keep _ nAG).symm) ((L3 _ hbO).trans (hG0.keep _ (by omega)).symm)
          refine DrL.eff (by rfl) (by rfl) (pd1 := [(6,⟨[.int .i64 (W n)],3,.sl 1 1⟩)]) (pd2 := []) (by kernel_rfl) (by kernel_rfl) (ms0 := [bump G0 10]) (A0 := B2) (by simp only [zBS,p1]) (fun M hM => by rw [List.mem_singleton] at hM; rw [hM]; exact FB) FM2 (by rfl)
            (v := .slice (some ⟨B2.next,0,none⟩) (j + 1) (j + 1)) (A1 := B3) (zBP rfl (by simp only [zAY,zAU,zAT,sp_n,Nat.reduceLT,ne_eq,Nat.reduceEqDiff,zNf,Nat.zero_add,Nat.reduceAdd,hn,ae_apd,zBD,FK.val]; exact q1)) ?_
          refine DrL.read (by first | rfl | kernel_rfl) (by rfl) (by assumption) (fun M hM => by simp only [zAY,zAT,ne_eq,Nat.reduceEqDiff,zNf,fx,fad,zAR,Nat.zero_add,Nat.reduceAdd,zBE,s10] <;> rfl) (by rfl) (by first | exact VQ.int _ _ | exact VQ.bool _ | exact VQ.ptr _ _ | exact VQ.slice _ _ _ | exact VQ.func (by simp [zAW,zAV,zAZ]) (by simp [zAW,zAV,zAZ]) | exact VQ.agg (by simp [zAW,zAV,zAZ]) | exact VQ.tuple (by simp [zAW,zAV,zAZ])) ?_
          have l3 : Canon.look B3.objs bO = _ := (L3 _ hbO).trans lG
          obtain ⟨B4,v1,v2⟩ := st1_upd (o := 2) (v := .slice (some ⟨B2.next,0,none⟩) (j + 1) (j + 1)) l3 rfl (by simp) rfl
          refine DrL.eff (by rfl) (by rfl) (pd1 := []) (pd2 := []) (by kernel_rfl) (by kernel_rfl) (ms0 := []) (A0 := B3) rfl (fun _ h => by cases h) F3 (by rfl) (v := undef) (A1 := B4) (zBP rfl (fx_ok (by rfl) (by simp only [zAY,zAU,zAT,sp_n,Nat.reduceLT,ne_eq,Nat.reduceEqDiff,zNf,fx,str,zAR,Nat.zero_add,Nat.reduceAdd,tk22,hn,v1]))) ?_
          refine DrL.nil ⟨by rfl,B4,by rfl,?_⟩
          (repeat (first | refine Rn.seq hc ?_ | refine Rn.skip hc ?_ | refine Rn.block hc ?_ | refine Rn.inBlock hc ?_ | refine Rn.scope hc ?_ | refine Rn.inScope hc ?_))
          refine Rn.reg hc rfl ?_
          simp only [zAY,zAS,zAU,zAT,sp_n,zAO,Nat.reduceLT,ne_eq,Nat.reduceEqDiff,zNf,gd,zAX,rops,fx,zAC,Nat.zero_add,zOi,zEl,Nat.reduceAdd,hn,s11,zBW (show n < 9223372036854775807 by omega)]
          (repeat (first | refine Rn.seq hc ?_ | refine Rn.skip hc ?_ | refine Rn.block hc ?_ | refine Rn.inBlock hc ?_ | refine Rn.scope hc ?_ | refine Rn.inScope hc ?_))
          obtain ⟨c',t,f,g,e,r1,r2,_⟩ := v2.at'
          rw [l3] at r1
          cases r1
          have hn4 := v2.next
          exact ih _ _ _ (by omega) ⟨n + 1,wa,some ⟨B2.next,0,none⟩,by omega,rfl,(v2.nx w3 (Nat.zero_le _)).wf,by omega,fun b hb hne => by rw [v2.off _ hne,L3 _ hb]; exact hkeep b hb hne,by rw [m2',z2]; exact r2,by rw [m2',z2]; exact hg3.ext (Nat.le_of_eq v2.next.symm) fun b' hb' => .inr (v2.off _ (by omega)),by simp only [sp_n,hn],by simp only [zAT,ne_eq,Nat.reduceEqDiff,zNf,s2],by simp only [zAT,ne_eq,Nat.reduceEqDiff,zNf,s3],by simp only [zAT,ne_eq,Nat.reduceEqDiff,zNf,s4],by simp only [zAT,ne_eq,Nat.reduceEqDiff,zNf,s6],by simp only [zAT,ne_eq,Nat.reduceEqDiff,zNf,s9],by simp only [zAT,ne_eq,Nat.reduceEqDiff,zNf,s10],by simp only [zAU,sp_n,Nat.reduceLT,hn]⟩
      · intro _ _ _ h
        exact h.elim
    · have hd : decide ((n : Int) < ((H + L : Nat) : Int)) = false := decide_eq_false (by omega)
      have hnn : n = H + L := by omega
      subst hnn
      clear ih
      have z1 : min (H + L) H = H := by omega
      have z2 : H + L - H = L := by omega
      rw [z1,z2] at lG gG
      refine Wo.run hc 2 rfl rfl rfl ?_
      simp (maxSteps := 2000000) only [List.drop_zero,List.drop_succ_cons,List.take_succ_cons,List.take_zero,zAY,zAU,zAT,sp_n,Nat.reduceLT,ne_eq,Nat.reduceEqDiff,not_false_eq_true,gd,zAX,rops,fx,zAK,zAC,Option.some.injEq,exists_eq_left',Nat.reduceAdd,hn,hw0,hd]
      refine Wo.done hc rfl (hK _ _ ?_)
      clear hK
      (repeat (first | refine Rn.seq hc ?_ | refine Rn.skip hc ?_ | refine Rn.block hc ?_ | refine Rn.inBlock hc ?_ | refine Rn.scope hc ?_ | refine Rn.inScope hc ?_))
      refine Rn.zAL hc rfl ?_
      simp only [zAY,zAU,sp_n,Nat.reduceLT,Value.bool.injEq,zEl,hn]
      (repeat (first | refine Rn.seq hc ?_ | refine Rn.skip hc ?_ | refine Rn.block hc ?_ | refine Rn.inBlock hc ?_ | refine Rn.scope hc ?_ | refine Rn.inScope hc ?_))
      refine Rn.exit hc rfl ?_
      (repeat (first | refine Rn.seq hc ?_ | refine Rn.skip hc ?_ | refine Rn.block hc ?_ | refine Rn.inBlock hc ?_ | refine Rn.scope hc ?_ | refine Rn.inScope hc ?_))
      have hA1 : Nx A.next A G1 := hAG.trans (hxG1.le hAG.next)
      have nG1 := hxG1.next
      have lG1 : Canon.look G1.objs bO = _ := (hxG1.keep _ (by omega)).trans lG
      have gG1 := gG.nx hwG hxG1
      have g0 : cl G1 bO 0 = some (.int .i64 x.m) := by rw [zCV lG1 rfl]; rfl
      have g1 : cl G1 bO 1 = some (.slice wa H H) := by rw [zCV lG1 rfl]; rfl
      have g2 : cl G1 bO 2 = some (.slice wb L L) := by rw [zCV lG1 rfl]; rfl
      have lGR : Canon.look G1.objs bR = _ := (hxG1.keep _ (by omega)).trans ((hkeep _ (by omega) (by omega)).trans lR)
      have hg2 := gG1.snd
      have hlr := result_ref hA1.wf (m := x.m) (sc := H) (rc := L) (gG1.g1.ints.mono (Nat.zero_le _) (Nat.le_refl _)) (hg2.ints.mono (Nat.zero_le _) (Nat.le_refl _)) (by rw [zAI]; omega) (by rw [zAF]; omega) (by rw [zAF]; exact f1) (hg2.sl.mono (Nat.zero_le _)) (by rw [zAF]; exact Nat.le_refl _)
      rw [atL_redF hPer] at hlr
      simp only [zAI,zAF] at hlr
      refine Rn.region hc fun K hK => ?_
      refine Wo.run hc 1 rfl rfl rfl ?_
      simp (maxSteps := 2000000) only [List.drop_zero,List.take_succ_cons,List.take_zero,zAY,zAT,ne_eq,Nat.reduceEqDiff,not_false_eq_true,gd,zAX,rops,fx,ld,zAR,cls,Nat.zero_add,Option.some.injEq,exists_eq_left',Nat.reduceAdd,tk24,s10,g0,g1,g2]
      refine Wo.call hc (by rfl) (by rfl) ⟨by rfl,by rfl⟩ (xs := [.agg #[.int .i64 x.m,.slice wa H H,.slice wb L L]]) (by rfl) (by rfl) (by simp only [zAY,zAU,sp_n,Nat.reduceLT,List.map_cons,List.map_nil,List.nil_append,List.append_nil,hn]) (Con.mono (hlr) ?_)
      rintro w C3 ⟨a',p',hred',_,_,hq⟩
      obtain ⟨mm,n1,n2,ee,p1,c1,p2,c2,rfl,D',q1,g0,g1,g2,hoff,hT⟩ := TldR.fin (b := bR) hA1 (by omega) (by omega) lGR (tldR_q (m := x.m) hred' hq)
      refine Wo.run hc 4 rfl rfl rfl ?_
      simp (maxSteps := 2000000) only [List.drop_zero,List.drop_succ_cons,List.take_succ_cons,List.take_zero,zAY,zAU,zAT,sp_n,zAO,Nat.reduceLT,ne_eq,Nat.reduceEqDiff,not_false_eq_true,gd,zAX,rops,fx,str,ext,zAR,List.getElem?_toArray,List.getElem?_cons_zero,List.getElem?_cons_succ,Nat.zero_add,Option.some.injEq,exists_eq_left',Nat.reduceAdd,tk24,hn,s6,ext,q1,List.size_toArray,List.length_cons,List.length_nil,Nat.beq_refl]
      refine Wo.done hc rfl (hK _ _ ?_)
      clear hK
      (repeat (first | refine Rn.seq hc ?_ | refine Rn.skip hc ?_ | refine Rn.block hc ?_ | refine Rn.inBlock hc ?_ | refine Rn.scope hc ?_ | refine Rn.inScope hc ?_))
      refine Rn.ret (zBR rfl (v := .agg #[.int .i64 mm,.slice p1 n1 c1,.slice p2 n2 c2]) ?_ ?_)
      · simp only [zAT,ne_eq,Nat.reduceEqDiff,zNf,ld,zAR,cls,Nat.zero_add,Nat.reduceAdd,tk24,s6,g0,g1,g2]
      · simp only [zAU,sp_n,Nat.reduceLT,hn]
        exact hT
  · have hd : (!decide (errs [x,y] [x,y] = 0)) = true := by rw [decide_eq_false he]; rfl
    obtain ⟨D,q1,g0,g1,g2,hxD⟩ := err_fin hx04 (by omega) (by omega) l4
    refine Rn.reg hc rfl ?_
    simp only [zAY,zAS,zAU,sp_n,Nat.reduceLT,gd,zAX,rops,fx,zAD,zOi,zEl,hd]
    (repeat (first | refine Rn.seq hc ?_ | refine Rn.skip hc ?_ | refine Rn.block hc ?_ | refine Rn.inBlock hc ?_ | refine Rn.scope hc ?_ | refine Rn.inScope hc ?_))
    refine Rn.zAL hc rfl ?_
    simp only [zAY,zAU,sp_n,Nat.reduceLT,Value.bool.injEq,zEl]
    (repeat (first | refine Rn.seq hc ?_ | refine Rn.skip hc ?_ | refine Rn.block hc ?_ | refine Rn.inBlock hc ?_ | refine Rn.scope hc ?_ | refine Rn.inScope hc ?_))
    refine Rn.reg hc rfl ?_
    simp only [zAY,zAU,zAT,sp_n,zAO,Nat.reduceLT,ne_eq,Nat.reduceEqDiff,zNf,gd,zAX,rops,fx,str,zAR,Nat.zero_add,zOi,zEl,Nat.reduceAdd,tk24,bd24_z,q1,List.size_toArray,List.length_cons,List.length_nil,Nat.beq_refl]
    (repeat (first | refine Rn.seq hc ?_ | refine Rn.skip hc ?_ | refine Rn.block hc ?_ | refine Rn.inBlock hc ?_ | refine Rn.scope hc ?_ | refine Rn.inScope hc ?_))
    refine Rn.ret (zBR rfl (v := .agg #[.int .i64 0,.slice none 0 0,.slice none 0 0]) ?_ ?_)
    · simp only [zAU,zAT,sp_n,Nat.reduceLT,ne_eq,Nat.reduceEqDiff,zNf,ld,zAR,cls,Nat.zero_add,Nat.reduceAdd,tk24,g0,g1,g2]
    · simp only [zAU,sp_n,Nat.reduceLT]
      exact tldR_err he hxD
theorem sum_ref {A : AHeap} (hw : WF A) {x y : Las} (hox : x.ok A) (hoy : y.ok A) :
    Con Try.prog 42 [x.v,y.v] A (TldR A (errs [x,y] [x,y]) x.m fun n => (x.s n + y.s n).tmod x.m) := by
  refine zAJ hc Try.func42 rfl (Nat.le_of_ble_eq_true rfl) ?_
  obtain ⟨A1,e1,hx1,hn1,b0,b1,b2⟩ := box3 hw (.int .i64 x.m) (.slice x.sa x.st.length x.sc) (.slice x.ra x.ro.length x.rc) 24
  obtain ⟨A2,e2,hx2,hn2,c0,c1,c2⟩ := box3 hx1.wf (.int .i64 y.m) (.slice y.sa y.st.length y.sc) (.slice y.ra y.ro.length y.rc) 24
  have hx02 : Nx A.next A A2 := hx1.trans (hx2.le hx1.next)
  have hxr : Nx A2.next A2 (A2.push (.cells #[.int .i64 0,.slice none 0 0,.slice none 0 0] 24)) := (Nx.refl hx2.wf _).push (Nat.le_refl _) _
  have lr := zAM A2 (.cells #[.int .i64 0,.slice none 0 0,.slice none 0 0] 24)
  have hnr : (A2.push (.cells #[.int .i64 0,.slice none 0 0,.slice none 0 0] 24)).next = A2.next + 1 := rfl
  generalize er : A2.push (.cells #[.int .i64 0,.slice none 0 0,.slice none 0 0] 24) = Ar at hxr lr hnr
  have b0 := (hxr.cl (show A.next < A2.next by omega) 0).trans ((hx2.cl (show A.next < A1.next by omega) 0).trans b0)
  have b1 := (hxr.cl (show A.next < A2.next by omega) 1).trans ((hx2.cl (show A.next < A1.next by omega) 1).trans b1)
  have b2 := (hxr.cl (show A.next < A2.next by omega) 2).trans ((hx2.cl (show A.next < A1.next by omega) 2).trans b2)
  have c0 := (hxr.cl (show A1.next < A2.next by omega) 0).trans c0
  have c1 := (hxr.cl (show A1.next < A2.next by omega) 1).trans c1
  have c2 := (hxr.cl (show A1.next < A2.next by omega) 2).trans c2
  have hx0r : Nx A.next A Ar := hx02.trans (hxr.le hx02.next)
  have hpr := joined_ref hx0r.wf (hox.nx hx0r) (hoy.nx hx0r) false
  rw [s_in2]
  unfold Las.v
  (repeat (first | refine Rn.seq hc ?_ | refine Rn.skip hc ?_ | refine Rn.block hc ?_ | refine Rn.inBlock hc ?_ | refine Rn.scope hc ?_ | refine Rn.inScope hc ?_))
  refine Rn.reg hc rfl ?_
  simp only [zAY,zAS,zAU,zAT,sp_n,Nat.reduceLT,ne_eq,Nat.reduceEqDiff,zNf,gd,zAX,rops,fx,zOi,zEl,Value.cells,show Try.f42.ntmps = 11 from rfl,e1,e2,ze24,er]
  (repeat (first | refine Rn.seq hc ?_ | refine Rn.skip hc ?_ | refine Rn.block hc ?_ | refine Rn.inBlock hc ?_ | refine Rn.scope hc ?_ | refine Rn.inScope hc ?_))
  refine Rn.region hc fun K hK => ?_
  refine Wo.run hc 2 rfl rfl rfl ?_
  simp (maxSteps := 2000000) only [List.drop_zero,List.take_succ_cons,List.take_zero,zAY,zAU,zAT,sp_n,Nat.reduceLT,ne_eq,Nat.reduceEqDiff,not_false_eq_true,gd,zAX,rops,fx,ld,zAR,cls,Nat.zero_add,Option.some.injEq,exists_eq_left',Nat.reduceAdd,tk24,b0,b1,b2,c0,c1,c2]
  refine Wo.call hc (by rfl) (by rfl) ⟨by rfl,by rfl⟩ (xs := [x.v,y.v,.bool false]) (by rfl) (by rfl) (by simp only [zAY,zAS,zAU,zAT,sp_n,Nat.reduceLT,ne_eq,Nat.reduceEqDiff,zNf,List.map_cons,List.map_nil,List.nil_append,List.append_nil]; rfl) (Con.mono hpr ?_)
  intro w C1 hT0
  obtain ⟨mm,n1,n2,ee,p1,c1,p2,c2,rfl,D,q1,g0,g1,g2,hoff,hT⟩ := TldR.fin (b := A2.next) hx0r (by omega) (by omega) lr hT0
  refine Wo.run hc 4 rfl rfl rfl ?_
  simp (maxSteps := 2000000) only [List.drop_zero,List.drop_succ_cons,List.take_succ_cons,List.take_zero,zAY,zAU,zAT,sp_n,zAO,Nat.reduceLT,ne_eq,Nat.reduceEqDiff,not_false_eq_true,gd,zAX,rops,fx,str,ext,zAR,List.getElem?_toArray,List.getElem?_cons_zero,List.getElem?_cons_succ,Nat.zero_add,Option.some.injEq,exists_eq_left',Nat.reduceAdd,tk24,ext,q1,List.size_toArray,List.length_cons,List.length_nil,Nat.beq_refl]
  refine Wo.done hc rfl (hK _ _ ?_)
  clear hK
  (repeat (first | refine Rn.seq hc ?_ | refine Rn.skip hc ?_ | refine Rn.block hc ?_ | refine Rn.inBlock hc ?_ | refine Rn.scope hc ?_ | refine Rn.inScope hc ?_))
  refine Rn.ret (zBR rfl (v := .agg #[.int .i64 mm,.slice p1 n1 c1,.slice p2 n2 c2]) ?_ ?_)
  · simp only [zAU,zAT,sp_n,Nat.reduceLT,ne_eq,Nat.reduceEqDiff,zNf,ld,zAR,cls,Nat.zero_add,Nat.reduceAdd,tk24,g0,g1,g2]
  · simp only [zAU,sp_n,Nat.reduceLT]
    exact hT
theorem times_ref {A : AHeap} (hw : WF A) {x y : Las} (hox : x.ok A) (hoy : y.ok A) :
    Con Try.prog 44 [x.v,y.v] A (TldR A (errs [x,y] [x,y]) x.m fun n => (x.s n * y.s n).tmod x.m) := by
  refine zAJ hc Try.func44 rfl (Nat.le_of_ble_eq_true rfl) ?_
  obtain ⟨A1,e1,hx1,hn1,b0,b1,b2⟩ := box3 hw (.int .i64 x.m) (.slice x.sa x.st.length x.sc) (.slice x.ra x.ro.length x.rc) 24
  obtain ⟨A2,e2,hx2,hn2,c0,c1,c2⟩ := box3 hx1.wf (.int .i64 y.m) (.slice y.sa y.st.length y.sc) (.slice y.ra y.ro.length y.rc) 24
  have hx02 : Nx A.next A A2 := hx1.trans (hx2.le hx1.next)
  have hxr : Nx A2.next A2 (A2.push (.cells #[.int .i64 0,.slice none 0 0,.slice none 0 0] 24)) := (Nx.refl hx2.wf _).push (Nat.le_refl _) _
  have lr := zAM A2 (.cells #[.int .i64 0,.slice none 0 0,.slice none 0 0] 24)
  have hnr : (A2.push (.cells #[.int .i64 0,.slice none 0 0,.slice none 0 0] 24)).next = A2.next + 1 := rfl
  generalize er : A2.push (.cells #[.int .i64 0,.slice none 0 0,.slice none 0 0] 24) = Ar at hxr lr hnr
  have b0 := (hxr.cl (show A.next < A2.next by omega) 0).trans ((hx2.cl (show A.next < A1.next by omega) 0).trans b0)
  have b1 := (hxr.cl (show A.next < A2.next by omega) 1).trans ((hx2.cl (show A.next < A1.next by omega) 1).trans b1)
  have b2 := (hxr.cl (show A.next < A2.next by omega) 2).trans ((hx2.cl (show A.next < A1.next by omega) 2).trans b2)
  have c0 := (hxr.cl (show A1.next < A2.next by omega) 0).trans c0
  have c1 := (hxr.cl (show A1.next < A2.next by omega) 1).trans c1
  have c2 := (hxr.cl (show A1.next < A2.next by omega) 2).trans c2
  have hx0r : Nx A.next A Ar := hx02.trans (hxr.le hx02.next)
  have hpr := joined_ref hx0r.wf (hox.nx hx0r) (hoy.nx hx0r) true
  rw [s_in2]
  unfold Las.v
  (repeat (first | refine Rn.seq hc ?_ | refine Rn.skip hc ?_ | refine Rn.block hc ?_ | refine Rn.inBlock hc ?_ | refine Rn.scope hc ?_ | refine Rn.inScope hc ?_))
  refine Rn.reg hc rfl ?_
  simp only [zAY,zAS,zAU,zAT,sp_n,Nat.reduceLT,ne_eq,Nat.reduceEqDiff,zNf,gd,zAX,rops,fx,zOi,zEl,Value.cells,show Try.f44.ntmps = 11 from rfl,e1,e2,ze24,er]
  (repeat (first | refine Rn.seq hc ?_ | refine Rn.skip hc ?_ | refine Rn.block hc ?_ | refine Rn.inBlock hc ?_ | refine Rn.scope hc ?_ | refine Rn.inScope hc ?_))
  refine Rn.region hc fun K hK => ?_
  refine Wo.run hc 2 rfl rfl rfl ?_
  simp (maxSteps := 2000000) only [List.drop_zero,List.take_succ_cons,List.take_zero,zAY,zAU,zAT,sp_n,Nat.reduceLT,ne_eq,Nat.reduceEqDiff,not_false_eq_true,gd,zAX,rops,fx,ld,zAR,cls,Nat.zero_add,Option.some.injEq,exists_eq_left',Nat.reduceAdd,tk24,b0,b1,b2,c0,c1,c2]
  refine Wo.call hc (by rfl) (by rfl) ⟨by rfl,by rfl⟩ (xs := [x.v,y.v,.bool true]) (by rfl) (by rfl) (by simp only [zAY,zAS,zAU,zAT,sp_n,Nat.reduceLT,ne_eq,Nat.reduceEqDiff,zNf,List.map_cons,List.map_nil,List.nil_append,List.append_nil]; rfl) (Con.mono hpr ?_)
  intro w C1 hT0
  obtain ⟨mm,n1,n2,ee,p1,c1,p2,c2,rfl,D,q1,g0,g1,g2,hoff,hT⟩ := TldR.fin (b := A2.next) hx0r (by omega) (by omega) lr hT0
  refine Wo.run hc 4 rfl rfl rfl ?_
  simp (maxSteps := 2000000) only [List.drop_zero,List.drop_succ_cons,List.take_succ_cons,List.take_zero,zAY,zAU,zAT,sp_n,zAO,Nat.reduceLT,ne_eq,Nat.reduceEqDiff,not_false_eq_true,gd,zAX,rops,fx,str,ext,zAR,List.getElem?_toArray,List.getElem?_cons_zero,List.getElem?_cons_succ,Nat.zero_add,Option.some.injEq,exists_eq_left',Nat.reduceAdd,tk24,ext,q1,List.size_toArray,List.length_cons,List.length_nil,Nat.beq_refl]
  refine Wo.done hc rfl (hK _ _ ?_)
  clear hK
  (repeat (first | refine Rn.seq hc ?_ | refine Rn.skip hc ?_ | refine Rn.block hc ?_ | refine Rn.inBlock hc ?_ | refine Rn.scope hc ?_ | refine Rn.inScope hc ?_))
  refine Rn.ret (zBR rfl (v := .agg #[.int .i64 mm,.slice p1 n1 c1,.slice p2 n2 c2]) ?_ ?_)
  · simp only [zAU,zAT,sp_n,Nat.reduceLT,ne_eq,Nat.reduceEqDiff,zNf,ld,zAR,cls,Nat.zero_add,Nat.reduceAdd,tk24,g0,g1,g2]
  · simp only [zAU,sp_n,Nat.reduceLT]
    exact hT
end Go.Proofs.Ytdaljohmfnfgiaa

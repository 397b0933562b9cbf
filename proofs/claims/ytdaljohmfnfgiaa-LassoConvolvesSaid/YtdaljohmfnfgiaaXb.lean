/- LassoConvolvesSaid: what its proof is made of, part 2. No condition. -/
import Derived.Test.YtdaljohmfnfgiaaXa
import Derived.Test.YtdaljohmfnfgiaaCanonFm
import Derived.Test.YtdaljohmfnfgiaaRows
import Derived.ProofKit
import Derived.Below
import Derived.ChangeSame
import Derived.Deep.SlicePairs
namespace Go.Proofs.Ytdaljohmfnfgiaa
open Go Go.RowKit Go.Proofs.Ytdaljohmfnfgiaa.Canon
set_option maxRecDepth 20000
def LeastR (A : AHeap) (m : Int) (s : Nat → Int) (a p : Nat) (v : Value) (A1 : AHeap) : Prop :=
  Nx A.next A A1 ∧ if 120 < p ∨ 60 < a then v = .tuple #[.agg #[.int .i64 0,.slice none 0 0,.slice none 0 0],.int .i64 11]
    else ∃ xa xc xr xd,v = .tuple #[.agg #[.int .i64 m,.slice xa a xc,.slice xr p xd],.int .i64 0] ∧ Ints A1 xa A.next A1.next (redS s a) ∧ Ints A1 xr A.next A1.next (redR s a p)
theorem res_put {A0 D : AHeap} {b n : Nat} (hl : Canon.look A0.objs b = some ⟨.cells #[.int .i64 0,.slice none 0 0,.slice none 0 0] 24,false,0⟩) (hb : b < n) (hD : Nx n A0 D) {v0 v1 v2 : Value} (hv : [v0,v1,v2].all zBY = true) :
    ∃ D',sts D b 0 [v0,v1,v2] = some D' ∧ D'.next = D.next ∧ WF D' ∧ (∀ b',b' ≠ b → Canon.look D'.objs b' = Canon.look D.objs b') ∧ cl D' b 0 = some v0 ∧ cl D' b 1 = some v1 ∧ cl D' b 2 = some v2 := by
  obtain ⟨D',c',q1,q2,q3,q4⟩ := zCV (l := [v0,v1,v2]) (o := 0) ((hD.keep b hb).trans hl) rfl (by simp) hv
  exact ⟨D',q1,q2.next,(q2.nx hD.wf (Nat.zero_le _)).wf,q2.off,by rw [q2.cl,q4]; rfl,by rw [q2.cl,q4]; rfl,by rw [q2.cl,q4]; rfl⟩
theorem result_ref {A : AHeap} (hw : WF A) {m : Int} {sa ra : Option Addr} {sc rc : Nat} {st ro : List Int} (hs : Ints A sa 0 A.next st) (hr : Ints A ra 0 A.next ro) (ls : st.length ≤ 4000000) (lr : ro.length ≤ 4000000) (hro : 0 < ro.length) (hsl : Sl A ra 0) (hrc : ro.length ≤ rc) :
    Con Try.prog 70 [.agg #[.int .i64 m,.slice sa st.length sc,.slice ra ro.length rc]] A (fun v A1 => ∃ a p,Red (atL st ro) a p ∧ a ≤ st.length ∧ p ≤ ro.length ∧ LeastR A m (atL st ro) a p v A1) := by
  refine zAF hc Try.func70 rfl (Nat.le_of_ble_eq_true rfl) ?_
  obtain ⟨A0,e0,hx0,hn0,b0,b1,b2⟩ := box3 hw (.int .i64 m) (.slice sa st.length sc) (.slice ra ro.length rc) 24
  have hx1 : Nx A0.next A0 (A0.push (.cells #[.int .i64 0,.slice none 0 0,.slice none 0 0] 24)) := (Nx.refl hx0.wf _).push (Nat.le_refl _) _
  have l1 := zAI A0 (.cells #[.int .i64 0,.slice none 0 0,.slice none 0 0] 24)
  have hn1 : (A0.push (.cells #[.int .i64 0,.slice none 0 0,.slice none 0 0] 24)).next = A0.next + 1 := rfl
  generalize e1 : A0.push (.cells #[.int .i64 0,.slice none 0 0,.slice none 0 0] 24) = A1 at hx1 l1 hn1
  have hx01 : Nx A.next A A1 := hx0.trans (hx1.le hx0.next)
  have b0 := (hx1.cl (show A.next < A0.next by omega) 0).trans b0
  have b1 := (hx1.cl (show A.next < A0.next by omega) 1).trans b1
  have b2 := (hx1.cl (show A.next < A0.next by omega) 2).trans b2
  rw [s_in1]
  (repeat (first | refine Rn.seq hc ?_ | refine Rn.skip hc ?_ | refine Rn.block hc ?_ | refine Rn.inBlock hc ?_ | refine Rn.scope hc ?_ | refine Rn.inScope hc ?_))
  refine Rn.reg hc rfl ?_
  simp only [zAY,zAS,zAU,Nat.reduceLT,gd,zAX,rops,fx,zOi,zEl,Value.cells,show Try.f70.ntmps = 19 from rfl,e0,ze24,e1]
  (repeat (first | refine Rn.seq hc ?_ | refine Rn.skip hc ?_ | refine Rn.block hc ?_ | refine Rn.inBlock hc ?_ | refine Rn.scope hc ?_ | refine Rn.inScope hc ?_))
  refine Rn.region hc fun K hK => ?_
  refine Wo.run hc 1 rfl rfl rfl ?_
  simp (maxSteps := 2000000) only [List.drop_zero,List.take_succ_cons,List.take_zero,zAY,zAU,zAT,sp_n,Nat.reduceLT,ne_eq,Nat.reduceEqDiff,not_false_eq_true,gd,zAX,rops,fx,ld,zAR,cls,Nat.zero_add,Option.some.injEq,exists_eq_left',Nat.reduceAdd,tk24,b0,b1,b2]
  refine Wo.call hc (by rfl) (by rfl) ⟨by rfl,by rfl⟩ (xs := [.agg #[.int .i64 m,.slice sa st.length sc,.slice ra ro.length rc]]) (by rfl) (by rfl) (by rfl) (Con.mono (small_ref hx1.wf ((hs.nx hx01 (Nat.le_refl _)).mono (Nat.le_refl _) hx01.next) ((hr.nx hx01 (Nat.le_refl _)).mono (Nat.le_refl _) hx01.next) ls lr hro (hsl.nx hw hx01) hrc) ?_)
  rintro w A2 ⟨a,p,hred,ha,hp,hx2,xa,xc,xr,rfl,hac,ia,ir,-,-⟩
  obtain ⟨A3,p3,hx3,hn3,c0,c1,c2⟩ := put24 hx2.wf (v0 := .int .i64 m) (v1 := .slice xa a xc) (v2 := .slice xr p p) rfl
  refine Wo.run hc 2 rfl rfl rfl ?_
  simp (maxSteps := 2000000) only [List.drop_zero,List.drop_succ_cons,List.take_succ_cons,List.take_zero,zAY,zAU,zAT,sp_n,zAK,Nat.reduceLT,ne_eq,Nat.reduceEqDiff,not_false_eq_true,gd,zAX,rops,fx,str,zAR,Nat.zero_add,Option.some.injEq,exists_eq_left',Value.cells,Nat.reduceAdd,tk24,ze24,p3,List.size_toArray,List.length_cons,List.length_nil,Nat.beq_refl]
  refine Wo.done hc rfl (hK _ _ ?_)
  clear hK
  (repeat (first | refine Rn.seq hc ?_ | refine Rn.skip hc ?_ | refine Rn.block hc ?_ | refine Rn.inBlock hc ?_ | refine Rn.scope hc ?_ | refine Rn.inScope hc ?_))
  have hx13 : Nx A1.next A1 A3 := hx2.trans (hx3.le hx2.next)
  have hx03 : Nx A.next A A3 := hx01.trans (hx13.le hx01.next)
  have n2 := hx2.next
  have ia3 := (ia.nx hx3 (Nat.le_refl _)).mono (Nat.le_refl _) hx3.next
  have ir3 := (ir.nx hx3 (Nat.le_refl _)).mono (Nat.le_refl _) hx3.next
  have hred' := hred
  by_cases hlong : 120 < p ∨ 60 < a
  · obtain ⟨D,q1,q2,q3,q4,g0,g1,g2⟩ := res_put l1 (by omega) hx13 (v0 := .int .i64 0) (v1 := .slice none 0 0) (v2 := .slice none 0 0) rfl
    have hfin : LeastR A m (atL st ro) a p (.tuple #[.agg #[.int .i64 0,.slice none 0 0,.slice none 0 0],.int .i64 11]) D := ⟨⟨by omega,q3,fun b hb => by rw [q4 _ (by omega),hx03.keep _ hb]⟩,by rw [if_pos hlong]⟩
    by_cases h60 : 60 < a
    · have hd1 : decide ((60 : Int) < (a : Int)) = true := decide_eq_true (by omega)
      refine Rn.reg hc rfl ?_
      simp only [zAY,zAS,zAU,zAT,sp_n,Nat.reduceLT,ne_eq,Nat.reduceEqDiff,zNf,gd,nth,zAX,zAP,beqB,rops,fx,ld,fad,lng,pck,zBS,zAR,Nat.zero_add,zOi,zEl,tk22,zBO,un22,c1,hd1]
      (repeat (first | refine Rn.seq hc ?_ | refine Rn.skip hc ?_ | refine Rn.block hc ?_ | refine Rn.inBlock hc ?_ | refine Rn.scope hc ?_ | refine Rn.inScope hc ?_))
      refine Rn.zAM hc rfl ?_
      simp only [zAY,zAU,sp_n,Nat.reduceLT,Value.bool.injEq,zEl]
      (repeat (first | refine Rn.seq hc ?_ | refine Rn.skip hc ?_ | refine Rn.block hc ?_ | refine Rn.inBlock hc ?_ | refine Rn.scope hc ?_ | refine Rn.inScope hc ?_))
      refine Rn.reg hc rfl ?_
      simp only [zAY,zAS,zAU,zAT,sp_n,zAK,Nat.reduceLT,ne_eq,Nat.reduceEqDiff,zNf,gd,zAX,rops,fx,str,zAR,Nat.zero_add,zOi,zEl,Nat.reduceAdd,tk24,bd24_z,q1,List.size_toArray,List.length_cons,List.length_nil,Nat.beq_refl]
      (repeat (first | refine Rn.seq hc ?_ | refine Rn.skip hc ?_ | refine Rn.block hc ?_ | refine Rn.inBlock hc ?_ | refine Rn.scope hc ?_ | refine Rn.inScope hc ?_))
      refine Rn.ret (zCT rfl (v := .agg #[.int .i64 0,.slice none 0 0,.slice none 0 0]) ?_ ⟨a,p,hred,ha,hp,?_⟩)
      · simp only [zAU,zAT,sp_n,Nat.reduceLT,ne_eq,Nat.reduceEqDiff,zNf,ld,zAR,cls,Nat.zero_add,Nat.reduceAdd,tk24,g0,g1,g2]
      · simp only [zAU,sp_n,Nat.reduceLT]
        exact hfin
    · have hd1 : decide ((60 : Int) < (a : Int)) = false := decide_eq_false (by omega)
      have hd2 : decide ((120 : Int) < (p : Int)) = true := decide_eq_true (by omega)
      refine Rn.reg hc rfl ?_
      simp only [zAY,zAS,zAU,zAT,sp_n,Nat.reduceLT,ne_eq,Nat.reduceEqDiff,zNf,gd,nth,zAX,zAP,beqB,rops,fx,ld,fad,lng,pck,zBS,zAR,Nat.zero_add,zOi,zEl,tk22,zBO,zBG,un22,c1,c2,hd1,hd2]
      (repeat (first | refine Rn.seq hc ?_ | refine Rn.skip hc ?_ | refine Rn.block hc ?_ | refine Rn.inBlock hc ?_ | refine Rn.scope hc ?_ | refine Rn.inScope hc ?_))
      refine Rn.zAM hc rfl ?_
      simp only [zAY,zAU,sp_n,Nat.reduceLT,Value.bool.injEq,zEl]
      (repeat (first | refine Rn.seq hc ?_ | refine Rn.skip hc ?_ | refine Rn.block hc ?_ | refine Rn.inBlock hc ?_ | refine Rn.scope hc ?_ | refine Rn.inScope hc ?_))
      refine Rn.reg hc rfl ?_
      simp only [zAY,zAS,zAU,zAT,sp_n,zAK,Nat.reduceLT,ne_eq,Nat.reduceEqDiff,zNf,gd,zAX,rops,fx,str,zAR,Nat.zero_add,zOi,zEl,Nat.reduceAdd,tk24,bd24_z,q1,List.size_toArray,List.length_cons,List.length_nil,Nat.beq_refl]
      (repeat (first | refine Rn.seq hc ?_ | refine Rn.skip hc ?_ | refine Rn.block hc ?_ | refine Rn.inBlock hc ?_ | refine Rn.scope hc ?_ | refine Rn.inScope hc ?_))
      refine Rn.ret (zCT rfl (v := .agg #[.int .i64 0,.slice none 0 0,.slice none 0 0]) ?_ ⟨a,p,hred,ha,hp,?_⟩)
      · simp only [zAU,zAT,sp_n,Nat.reduceLT,ne_eq,Nat.reduceEqDiff,zNf,ld,zAR,cls,Nat.zero_add,Nat.reduceAdd,tk24,g0,g1,g2]
      · simp only [zAU,sp_n,Nat.reduceLT]
        exact hfin
  · obtain ⟨D,q1,q2,q3,q4,g0,g1,g2⟩ := res_put l1 (by omega) hx13 (v0 := .int .i64 m) (v1 := .slice xa a xc) (v2 := .slice xr p p) rfl
    have hd1 : decide ((60 : Int) < (a : Int)) = false := decide_eq_false (by omega)
    have hd2 : decide ((120 : Int) < (p : Int)) = false := decide_eq_false (by omega)
    refine Rn.reg hc rfl ?_
    simp only [zAY,zAS,zAU,zAT,sp_n,Nat.reduceLT,ne_eq,Nat.reduceEqDiff,zNf,gd,nth,zAX,zAP,beqB,rops,fx,ld,fad,lng,pck,zBS,zAR,Nat.zero_add,zOi,zEl,tk22,zBO,zBG,un22,c1,c2,hd1,hd2]
    (repeat (first | refine Rn.seq hc ?_ | refine Rn.skip hc ?_ | refine Rn.block hc ?_ | refine Rn.inBlock hc ?_ | refine Rn.scope hc ?_ | refine Rn.inScope hc ?_))
    refine Rn.zAM hc rfl ?_
    simp only [zAY,zAU,sp_n,Nat.reduceLT,Value.bool.injEq,zEl]
    (repeat (first | refine Rn.seq hc ?_ | refine Rn.skip hc ?_ | refine Rn.block hc ?_ | refine Rn.inBlock hc ?_ | refine Rn.scope hc ?_ | refine Rn.inScope hc ?_))
    refine Rn.reg hc rfl ?_
    simp only [zAY,zAS,zAU,zAT,sp_n,zAK,Nat.reduceLT,ne_eq,Nat.reduceEqDiff,zNf,gd,zAX,rops,fx,ld,str,zAR,cls,Nat.zero_add,zOi,zEl,Nat.reduceAdd,tk24,c0,c1,c2,q1,List.size_toArray,List.length_cons,List.length_nil,Nat.beq_refl]
    (repeat (first | refine Rn.seq hc ?_ | refine Rn.skip hc ?_ | refine Rn.block hc ?_ | refine Rn.inBlock hc ?_ | refine Rn.scope hc ?_ | refine Rn.inScope hc ?_))
    have hoff : ∀ b,A1.next ≤ b → Canon.look A3.objs b = none ∨ Canon.look D.objs b = Canon.look A3.objs b := fun b hb => .inr (q4 _ (by omega))
    refine Rn.ret (zCT rfl (v := .agg #[.int .i64 m,.slice xa a xc,.slice xr p p]) ?_ ⟨a,p,hred,ha,hp,⟨by omega,q3,fun b hb => by rw [q4 _ (by omega),hx03.keep _ hb]⟩,?_⟩)
    · simp only [zAU,zAT,sp_n,Nat.reduceLT,ne_eq,Nat.reduceEqDiff,zNf,ld,zAR,cls,Nat.zero_add,Nat.reduceAdd,tk24,g0,g1,g2]
    · rw [if_neg hlong]
      exact ⟨xa,xc,xr,p,by simp only [zAU,sp_n,Nat.reduceLT],(ia3.ext hoff (by omega)).mono hx01.next (Nat.le_refl _),(ir3.ext hoff (by omega)).mono hx01.next (Nat.le_refl _)⟩
end Go.Proofs.Ytdaljohmfnfgiaa
namespace Go.Proofs.Ytdaljohmfnfgiaa
open Go Go.RowKit Go.Proofs.Ytdaljohmfnfgiaa.Canon
set_option maxRecDepth 20000
theorem gcd_ref {A : AHeap} (hw : WF A) {a b : Nat} (ha : a < 4611686018427387904) (hb : b < 4611686018427387904) : Con Try.prog 104 [.int .i64 (a : Int),.int .i64 (b : Int)] A (fun v A1 => v = .int .i64 (Nat.gcd a b : Nat) ∧ Nx A.next A A1) := by
  refine zAF hc Try.func104 rfl (Nat.le_of_ble_eq_true rfl) ?_
  rw [s_in2]
  (repeat (first | refine Rn.seq hc ?_ | refine Rn.skip hc ?_ | refine Rn.block hc ?_ | refine Rn.inBlock hc ?_ | refine Rn.scope hc ?_ | refine Rn.inScope hc ?_))
  refine Rn.reg hc rfl ?_
  simp only [zAS,gd,zAX,rops,fx,zOi,zEl,show Try.f104.ntmps = 12 from rfl]
  (repeat (first | refine Rn.seq hc ?_ | refine Rn.skip hc ?_ | refine Rn.block hc ?_ | refine Rn.inBlock hc ?_ | refine Rn.scope hc ?_ | refine Rn.inScope hc ?_))
  refine Rn.zDY hc (I := fun k s A' => ∃ x y : Nat,k = y ∧ x < 4611686018427387904 ∧ y < 4611686018427387904 ∧ Nat.gcd x y = Nat.gcd a b ∧ Nx A.next A A' ∧ s.n = 12 ∧ sget s 0 = .int .i64 (x : Int) ∧ sget s 1 = .int .i64 (y : Int))
    (n := b) ⟨a,b,rfl,ha,hb,rfl,Nx.refl hw _,by simp only [sp_n],by simp only [zAU,zAT,Nat.reduceLT,ne_eq,Nat.reduceEqDiff,zNf],by simp only [zAU,zAT,sp_n,Nat.reduceLT,ne_eq,Nat.reduceEqDiff,zNf]⟩ ?_
  rintro k s A' ⟨x,y,hky,hx',hy',hg,hA,hn,s0,s1⟩ ih
  (repeat (first | refine Rn.seq hc ?_ | refine Rn.skip hc ?_ | refine Rn.block hc ?_ | refine Rn.inBlock hc ?_ | refine Rn.scope hc ?_ | refine Rn.inScope hc ?_))
  by_cases hy0 : y = 0
  · subst hy0
    clear ih
    rw [Nat.gcd_zero_right] at hg
    refine Rn.reg hc rfl ?_
    simp only [zAY,zAS,zAU,Nat.reduceLT,gd,zAX,rops,fx,zBX,zOi,zEl,Bool.not_true,Bool.not_true,hn,s1,Int.natCast_zero,eq_self,decide_true,Bool.not_true]
    (repeat (first | refine Rn.seq hc ?_ | refine Rn.skip hc ?_ | refine Rn.block hc ?_ | refine Rn.inBlock hc ?_ | refine Rn.scope hc ?_ | refine Rn.inScope hc ?_))
    refine Rn.zAM hc rfl ?_
    simp only [zAY,zAU,sp_n,Nat.reduceLT,Value.bool.injEq,zEl,hn]
    (repeat (first | refine Rn.seq hc ?_ | refine Rn.skip hc ?_ | refine Rn.block hc ?_ | refine Rn.inBlock hc ?_ | refine Rn.scope hc ?_ | refine Rn.inScope hc ?_))
    refine Rn.exit hc rfl ?_
    (repeat (first | refine Rn.seq hc ?_ | refine Rn.skip hc ?_ | refine Rn.block hc ?_ | refine Rn.inBlock hc ?_ | refine Rn.scope hc ?_ | refine Rn.inScope hc ?_))
    refine Rn.reg hc rfl ?_
    simp only [zAY,zAU,zAT,sp_n,Nat.reduceLT,ne_eq,Nat.reduceEqDiff,zNf,gd,zAX,rops,fx,zOi,zEl,hn,s0]
    (repeat (first | refine Rn.seq hc ?_ | refine Rn.skip hc ?_ | refine Rn.block hc ?_ | refine Rn.inBlock hc ?_ | refine Rn.scope hc ?_ | refine Rn.inScope hc ?_))
    refine Rn.ret (zAO rfl ⟨?_,hA⟩)
    simp only [zAU,sp_n,Nat.reduceLT,hn,hg]
  · have hd : (!decide ((y : Int) = 0)) = true := by rw [decide_eq_false (by omega)]; rfl
    have hrem : ∀ M,bin Try.prog .rem 3 (.int .i64 (x : Int)) (.int .i64 (y : Int)) M = some (.int .i64 ((x % y : Nat) : Int),M) := fun M => by
      rw [zCS _ _ _ _ (by omega),IntWalk.rem_in _ _ (by omega)]
      rfl
    have hlt := Nat.mod_lt x (Nat.pos_of_ne_zero hy0)
    refine Rn.reg hc rfl ?_
    simp only [zAY,zAS,zAU,Nat.reduceLT,gd,zAX,rops,fx,zBX,zOi,zEl,hn,s1,hd]
    (repeat (first | refine Rn.seq hc ?_ | refine Rn.skip hc ?_ | refine Rn.block hc ?_ | refine Rn.inBlock hc ?_ | refine Rn.scope hc ?_ | refine Rn.inScope hc ?_))
    refine Rn.zAM hc rfl ?_
    simp only [zAY,zAU,sp_n,Nat.reduceLT,Value.bool.injEq,zEl,hn]
    (repeat (first | refine Rn.seq hc ?_ | refine Rn.skip hc ?_ | refine Rn.block hc ?_ | refine Rn.inBlock hc ?_ | refine Rn.scope hc ?_ | refine Rn.inScope hc ?_))
    refine Rn.zDV hc hx (by kernel_rfl) (by rfl) (by kernel_rfl) ?_ ?_
    · simp only [rdV,VQ.int,zAY,zAU,zAT,sp_n,Nat.reduceLT,ne_eq,Nat.reduceEqDiff,zNf,gd,zAX,fx,Nat.zero_add,Nat.reduceAdd,and_self,hn,s0,s1,hrem,List.length_cons,List.length_nil]
    simp only [zAY,zAU,zAT,sp_n,Nat.reduceLT,ne_eq,Nat.reduceEqDiff,zNf,gd,zAX,rops,fx,Nat.zero_add,zOi,zEl,Nat.reduceAdd,hn,s0,s1,hrem,List.length_cons,List.length_nil]
    (repeat (first | refine Rn.seq hc ?_ | refine Rn.skip hc ?_ | refine Rn.block hc ?_ | refine Rn.inBlock hc ?_ | refine Rn.scope hc ?_ | refine Rn.inScope hc ?_))
    refine ih _ _ _ (by rw [hky]; exact hlt) ⟨y,x % y,rfl,hy',by omega,?_,Nx.bump hA _,by simp only [sp_n,hn],by simp only [zAU,zAT,sp_n,Nat.reduceLT,ne_eq,Nat.reduceEqDiff,zNf,hn],by simp only [zAU,sp_n,Nat.reduceLT,hn]⟩
    rw [← hg,Nat.gcd_comm x y,Nat.gcd_rec y x,Nat.gcd_comm]
def lcmN (a b : Nat) : Nat := a / Nat.gcd a b * b
theorem lcmN_facts {a b : Nat} (ha : 0 < a) (hb : 0 < b) : 0 < lcmN a b ∧ lcmN a b % a = 0 ∧ lcmN a b % b = 0 ∧ lcmN a b ≤ a * b := by
  have hg : 0 < Nat.gcd a b := Nat.gcd_pos_of_pos_left _ ha
  obtain ⟨x,hx⟩ := Nat.gcd_dvd_left a b
  obtain ⟨y,hy⟩ := Nat.gcd_dvd_right a b
  have e : a / Nat.gcd a b = x := by
    have : a = Nat.gcd a b * x := hx
    rw [Nat.div_eq_of_eq_mul_right hg this]
  have hx0 : 0 < x := Nat.pos_of_ne_zero fun h => by subst h; rw [Nat.mul_zero] at hx; omega
  refine ⟨?_,?_,?_,?_⟩
  · unfold lcmN
    rw [e]
    exact Nat.mul_pos hx0 hb
  · unfold lcmN
    rw [e]
    have : x * b = a * y := by
      calc x * b = x * (Nat.gcd a b * y) := by rw [← hy]
        _ = Nat.gcd a b * x * y := by rw [← Nat.mul_assoc,Nat.mul_comm x]
        _ = a * y := by rw [← hx]
    rw [this,Nat.mul_mod_right]
  · unfold lcmN
    exact Nat.mul_mod_left _ _
  · unfold lcmN
    exact Nat.mul_le_mul_right _ (Nat.div_le_self _ _)
theorem both_ref {A : AHeap} (hw : WF A) {x y : Las} (hox : x.ok A) (hoy : y.ok A) : Con Try.prog 71 [x.v,y.v] A (fun v A1 => v = .int .i64 (errs [x,y] [x,y]) ∧ Nx A.next A A1) := by
  refine zAF hc Try.func71 rfl (Nat.le_of_ble_eq_true rfl) ?_
  obtain ⟨A1,e1,hx1,hn1,b0,b1,b2⟩ := box3 hw (.int .i64 x.m) (.slice x.sa x.st.length x.sc) (.slice x.ra x.ro.length x.rc) 24
  obtain ⟨A2,e2,hx2,hn2,c0,c1,c2⟩ := box3 hx1.wf (.int .i64 y.m) (.slice y.sa y.st.length y.sc) (.slice y.ra y.ro.length y.rc) 24
  have hx02 : Nx A.next A A2 := hx1.trans (hx2.le hx1.next)
  have b0 := (hx2.cl (show A.next < A1.next by omega) 0).trans b0
  have b1 := (hx2.cl (show A.next < A1.next by omega) 1).trans b1
  have b2 := (hx2.cl (show A.next < A1.next by omega) 2).trans b2
  rw [s_in2,errs_two]
  (repeat (first | refine Rn.seq hc ?_ | refine Rn.skip hc ?_ | refine Rn.block hc ?_ | refine Rn.inBlock hc ?_ | refine Rn.scope hc ?_ | refine Rn.inScope hc ?_))
  refine Rn.reg hc rfl ?_
  simp only [zAY,zAS,zAU,zAT,sp_n,Nat.reduceLT,ne_eq,Nat.reduceEqDiff,zNf,gd,zAX,rops,fx,zOi,zEl,Value.cells,show Try.f71.ntmps = 22 from rfl,Las.v,e1,e2]
  (repeat (first | refine Rn.seq hc ?_ | refine Rn.skip hc ?_ | refine Rn.block hc ?_ | refine Rn.inBlock hc ?_ | refine Rn.scope hc ?_ | refine Rn.inScope hc ?_))
  obtain ⟨o1,o2,o3,o4⟩ := hox.nx hx02
  refine Rn.region hc fun K hK => ?_
  refine Wo.run hc 1 rfl rfl rfl ?_
  simp (maxSteps := 2000000) only [List.drop_zero,List.take_succ_cons,List.take_zero,zAY,zAU,zAT,sp_n,Nat.reduceLT,ne_eq,Nat.reduceEqDiff,not_false_eq_true,gd,zAX,rops,fx,ld,zAR,cls,Nat.zero_add,Option.some.injEq,exists_eq_left',Nat.reduceAdd,tk24,b0,b1,b2]
  refine Wo.call hc (by rfl) (by rfl) ⟨by rfl,by rfl⟩ (xs := [.agg #[.int .i64 x.m,.slice x.sa x.st.length x.sc,.slice x.ra x.ro.length x.rc]]) (by rfl) (by rfl) (by rfl) (Con.mono (check_ref hx2.wf o1 o2 o3 o4) ?_)
  rintro w A3 ⟨rfl,hx3⟩
  refine Wo.run hc 1 rfl rfl rfl ?_
  simp (maxSteps := 2000000) only [List.drop_zero,List.drop_succ_cons,List.take_succ_cons,List.take_zero,zAY,zAU,sp_n,Nat.reduceLT,gd,zAX,rops,fx,Option.some.injEq,exists_eq_left',Nat.reduceAdd]
  refine Wo.done hc rfl (hK _ _ ?_)
  clear hK
  (repeat (first | refine Rn.seq hc ?_ | refine Rn.skip hc ?_ | refine Rn.block hc ?_ | refine Rn.inBlock hc ?_ | refine Rn.scope hc ?_ | refine Rn.inScope hc ?_))
  have hx03 : Nx A.next A A3 := hx02.trans (hx3.le hx02.next)
  have hex : x.err = errL x.m x.st x.ro := rfl
  have hey : y.err = errL y.m y.st y.ro := rfl
  by_cases h1 : errL x.m x.st x.ro = 0
  · have hd : (!decide (errL x.m x.st x.ro = 0)) = false := by rw [decide_eq_true h1]; rfl
    rw [if_neg (by rw [hex,h1]; simp)]
    refine Rn.reg hc rfl ?_
    simp only [zAY,zAS,zAU,sp_n,Nat.reduceLT,gd,zAX,rops,fx,zBX,zOi,zEl,hd]
    (repeat (first | refine Rn.seq hc ?_ | refine Rn.skip hc ?_ | refine Rn.block hc ?_ | refine Rn.inBlock hc ?_ | refine Rn.scope hc ?_ | refine Rn.inScope hc ?_))
    refine Rn.zAM hc rfl ?_
    simp only [zAY,zAU,sp_n,Nat.reduceLT,Value.bool.injEq,zEl]
    (repeat (first | refine Rn.seq hc ?_ | refine Rn.skip hc ?_ | refine Rn.block hc ?_ | refine Rn.inBlock hc ?_ | refine Rn.scope hc ?_ | refine Rn.inScope hc ?_))
    have c0' := (hx3.cl (show A1.next < A2.next by omega) 0).trans c0
    have c1' := (hx3.cl (show A1.next < A2.next by omega) 1).trans c1
    have c2' := (hx3.cl (show A1.next < A2.next by omega) 2).trans c2
    obtain ⟨p1,p2,p3,p4⟩ := hoy.nx hx03
    refine Rn.region hc fun K hK => ?_
    refine Wo.run hc 1 rfl rfl rfl ?_
    simp (maxSteps := 2000000) only [List.drop_zero,List.take_succ_cons,List.take_zero,zAY,zAU,zAT,sp_n,Nat.reduceLT,ne_eq,Nat.reduceEqDiff,not_false_eq_true,gd,zAX,rops,fx,ld,zAR,cls,Nat.zero_add,Option.some.injEq,exists_eq_left',Nat.reduceAdd,tk24,c0',c1',c2']
    refine Wo.call hc (by rfl) (by rfl) ⟨by rfl,by rfl⟩ (xs := [.agg #[.int .i64 y.m,.slice y.sa y.st.length y.sc,.slice y.ra y.ro.length y.rc]]) (by rfl) (by rfl) (by rfl) (Con.mono (check_ref hx3.wf p1 p2 p3 p4) ?_)
    rintro w A4 ⟨rfl,hx4⟩
    refine Wo.run hc 1 rfl rfl rfl ?_
    simp (maxSteps := 2000000) only [List.drop_zero,List.drop_succ_cons,List.take_succ_cons,List.take_zero,zAY,zAU,sp_n,Nat.reduceLT,gd,zAX,rops,fx,Option.some.injEq,exists_eq_left',Nat.reduceAdd]
    refine Wo.done hc rfl (hK _ _ ?_)
    clear hK
    (repeat (first | refine Rn.seq hc ?_ | refine Rn.skip hc ?_ | refine Rn.block hc ?_ | refine Rn.inBlock hc ?_ | refine Rn.scope hc ?_ | refine Rn.inScope hc ?_))
    have hx24 : Nx A2.next A2 A4 := hx3.trans (hx4.le hx3.next)
    have hx04 : Nx A.next A A4 := hx02.trans (hx24.le hx02.next)
    by_cases h2 : errL y.m y.st y.ro = 0
    · have hd2 : (!decide (errL y.m y.st y.ro = 0)) = false := by rw [decide_eq_true h2]; rfl
      rw [if_neg (by rw [hey,h2]; simp)]
      have b0' := (hx24.cl (show A.next < A2.next by omega) 0).trans b0
      have c0'' := (hx24.cl (show A1.next < A2.next by omega) 0).trans c0
      refine Rn.reg hc rfl ?_
      simp only [zAY,zAS,zAU,sp_n,Nat.reduceLT,gd,zAX,rops,fx,zBX,zOi,zEl,hd2]
      (repeat (first | refine Rn.seq hc ?_ | refine Rn.skip hc ?_ | refine Rn.block hc ?_ | refine Rn.inBlock hc ?_ | refine Rn.scope hc ?_ | refine Rn.inScope hc ?_))
      refine Rn.zAM hc rfl ?_
      simp only [zAY,zAU,sp_n,Nat.reduceLT,Value.bool.injEq,zEl]
      (repeat (first | refine Rn.seq hc ?_ | refine Rn.skip hc ?_ | refine Rn.block hc ?_ | refine Rn.inBlock hc ?_ | refine Rn.scope hc ?_ | refine Rn.inScope hc ?_))
      by_cases h3 : x.m = y.m
      · have hd3 : (!decide (x.m = y.m)) = false := by rw [decide_eq_true h3]; rfl
        refine Rn.reg hc rfl ?_
        simp only [zAY,zAU,zAT,sp_n,Nat.reduceLT,ne_eq,Nat.reduceEqDiff,zNf,gd,zAX,rops,fx,ld,fad,zBX,zAR,Nat.add_zero,zOi,zEl,tk3,zBJ,b0',c0'',hd3]
        (repeat (first | refine Rn.seq hc ?_ | refine Rn.skip hc ?_ | refine Rn.block hc ?_ | refine Rn.inBlock hc ?_ | refine Rn.scope hc ?_ | refine Rn.inScope hc ?_))
        refine Rn.zAM hc rfl ?_
        simp only [zAY,zAU,sp_n,Nat.reduceLT,Value.bool.injEq,zEl]
        (repeat (first | refine Rn.seq hc ?_ | refine Rn.skip hc ?_ | refine Rn.block hc ?_ | refine Rn.inBlock hc ?_ | refine Rn.scope hc ?_ | refine Rn.inScope hc ?_))
        refine Rn.reg hc rfl ?_
        simp only [zAS,gd,zAX,rops,fx,zOi,zEl]
        (repeat (first | refine Rn.seq hc ?_ | refine Rn.skip hc ?_ | refine Rn.block hc ?_ | refine Rn.inBlock hc ?_ | refine Rn.scope hc ?_ | refine Rn.inScope hc ?_))
        refine Rn.ret (zAO rfl ⟨?_,hx04⟩)
        rw [if_pos h3]
        simp only [zAU,sp_n,Nat.reduceLT]
      · have hd3 : (!decide (x.m = y.m)) = true := by rw [decide_eq_false h3]; rfl
        refine Rn.reg hc rfl ?_
        simp only [zAY,zAU,zAT,sp_n,Nat.reduceLT,ne_eq,Nat.reduceEqDiff,zNf,gd,zAX,rops,fx,ld,fad,zBX,zAR,Nat.add_zero,zOi,zEl,tk3,zBJ,b0',c0'',hd3]
        (repeat (first | refine Rn.seq hc ?_ | refine Rn.skip hc ?_ | refine Rn.block hc ?_ | refine Rn.inBlock hc ?_ | refine Rn.scope hc ?_ | refine Rn.inScope hc ?_))
        refine Rn.zAM hc rfl ?_
        simp only [zAY,zAU,sp_n,Nat.reduceLT,Value.bool.injEq,zEl]
        (repeat (first | refine Rn.seq hc ?_ | refine Rn.skip hc ?_ | refine Rn.block hc ?_ | refine Rn.inBlock hc ?_ | refine Rn.scope hc ?_ | refine Rn.inScope hc ?_))
        refine Rn.reg hc rfl ?_
        simp only [zAS,gd,zAX,rops,fx,zOi,zEl]
        (repeat (first | refine Rn.seq hc ?_ | refine Rn.skip hc ?_ | refine Rn.block hc ?_ | refine Rn.inBlock hc ?_ | refine Rn.scope hc ?_ | refine Rn.inScope hc ?_))
        refine Rn.ret (zAO rfl ⟨?_,hx04⟩)
        rw [if_neg h3]
        simp only [zAU,sp_n,Nat.reduceLT]
    · have hd2 : (!decide (errL y.m y.st y.ro = 0)) = true := by rw [decide_eq_false h2]; rfl
      rw [if_pos (show y.err ≠ 0 from h2)]
      refine Rn.reg hc rfl ?_
      simp only [zAY,zAS,zAU,sp_n,Nat.reduceLT,gd,zAX,rops,fx,zBX,zOi,zEl,hd2]
      (repeat (first | refine Rn.seq hc ?_ | refine Rn.skip hc ?_ | refine Rn.block hc ?_ | refine Rn.inBlock hc ?_ | refine Rn.scope hc ?_ | refine Rn.inScope hc ?_))
      refine Rn.zAM hc rfl ?_
      simp only [zAY,zAU,sp_n,Nat.reduceLT,Value.bool.injEq,zEl]
      (repeat (first | refine Rn.seq hc ?_ | refine Rn.skip hc ?_ | refine Rn.block hc ?_ | refine Rn.inBlock hc ?_ | refine Rn.scope hc ?_ | refine Rn.inScope hc ?_))
      refine Rn.reg hc rfl ?_
      simp only [zAY,zAU,zAT,sp_n,Nat.reduceLT,ne_eq,Nat.reduceEqDiff,zNf,gd,zAX,rops,fx,zOi,zEl]
      (repeat (first | refine Rn.seq hc ?_ | refine Rn.skip hc ?_ | refine Rn.block hc ?_ | refine Rn.inBlock hc ?_ | refine Rn.scope hc ?_ | refine Rn.inScope hc ?_))
      refine Rn.ret (zAO rfl ⟨?_,hx04⟩)
      simp only [zAU,sp_n,Nat.reduceLT]
      rfl
  · have hd : (!decide (errL x.m x.st x.ro = 0)) = true := by rw [decide_eq_false h1]; rfl
    rw [if_pos (show x.err ≠ 0 from h1)]
    refine Rn.reg hc rfl ?_
    simp only [zAY,zAS,zAU,sp_n,Nat.reduceLT,gd,zAX,rops,fx,zBX,zOi,zEl,hd]
    (repeat (first | refine Rn.seq hc ?_ | refine Rn.skip hc ?_ | refine Rn.block hc ?_ | refine Rn.inBlock hc ?_ | refine Rn.scope hc ?_ | refine Rn.inScope hc ?_))
    refine Rn.zAM hc rfl ?_
    simp only [zAY,zAU,sp_n,Nat.reduceLT,Value.bool.injEq,zEl]
    (repeat (first | refine Rn.seq hc ?_ | refine Rn.skip hc ?_ | refine Rn.block hc ?_ | refine Rn.inBlock hc ?_ | refine Rn.scope hc ?_ | refine Rn.inScope hc ?_))
    refine Rn.reg hc rfl ?_
    simp only [zAY,zAU,zAT,sp_n,Nat.reduceLT,ne_eq,Nat.reduceEqDiff,zNf,gd,zAX,rops,fx,zOi,zEl]
    (repeat (first | refine Rn.seq hc ?_ | refine Rn.skip hc ?_ | refine Rn.block hc ?_ | refine Rn.inBlock hc ?_ | refine Rn.scope hc ?_ | refine Rn.inScope hc ?_))
    refine Rn.ret (zAO rfl ⟨?_,hx03⟩)
    simp only [zAU,sp_n,Nat.reduceLT]
    rfl
end Go.Proofs.Ytdaljohmfnfgiaa
namespace Go.Proofs.Ytdaljohmfnfgiaa
open Go Go.RowKit Go.Proofs.Ytdaljohmfnfgiaa.Canon
set_option maxRecDepth 20000
theorem ints_uniq {A : AHeap} {a : Option Addr} {lo hi lo' hi' : Nat} {l l' : List Int} (h : Ints A a lo hi l) (h' : Ints A a lo' hi' l') (hl : l.length = l'.length) : l = l' := by
  refine List.ext_getElem hl fun i h1 h2 => ?_
  obtain ⟨b,o,rfl,_,_,q⟩ := h i h1
  obtain ⟨b',o',e,_,_,q'⟩ := h' i h2
  cases e
  rw [q] at q'
  simp [List.getD_eq_getElem?_getD,h1,h2] at q'
  exact q'
def atS : Canon.Spec := fun _ xs A v A1 => (∀ (m : Int) (sa : Option Addr) (st : List Int) (sc : Nat) (ra : Option Addr) (ro : List Int) (rc n : Nat),xs = [.agg #[.int .i64 m,.slice sa st.length sc,.slice ra ro.length rc],.int .i64 (n : Int)] → Ints A sa 0 A.next st → Ints A ra 0 A.next ro → v = .int .i64 (atL st ro n)) ∧ Nx A.next A A1
theorem at_ref_S {A : AHeap} (hw : WF A) {m : Int} {sa ra : Option Addr} {sc rc : Nat} {st ro : List Int} (hs : Ints A sa 0 A.next st) (hr : Ints A ra 0 A.next ro) (n : Nat) (hst : st.length < 4611686018427387904) (hro : 0 < ro.length) (hro2 : ro.length < 4611686018427387904) (hn : n < 9223372036854775808) :
    Con Try.prog 74 [.agg #[.int .i64 m,.slice sa st.length sc,.slice ra ro.length rc],.int .i64 (n : Int)] A (atS 74 [.agg #[.int .i64 m,.slice sa st.length sc,.slice ra ro.length rc],.int .i64 (n : Int)] A) := by
  refine Con.mono (at_ref hw hs hr n hst hro hro2 hn) fun v A1 h => ⟨fun m' sa' st' sc' ra' ro' rc' n' e h1 h2 => ?_,h.2⟩
  simp only [List.cons.injEq,Value.agg.injEq,Array.mk.injEq,Value.int.injEq,Value.slice.injEq,true_and,and_true] at e
  obtain ⟨⟨-,⟨rfl,e1,-⟩,rfl,e2,-⟩,e3⟩ := e
  have hn' : n = n' := by omega
  subst hn'
  rw [h.1,ints_uniq hs h1 e1,ints_uniq hr h2 e2]
end Go.Proofs.Ytdaljohmfnfgiaa
namespace Go.Proofs.Ytdaljohmfnfgiaa
open Go Go.RowKit Go.Proofs.Ytdaljohmfnfgiaa.Canon
set_option maxRecDepth 20000
def Wrt (A : AHeap) (a : Option Addr) (lo hi n : Nat) : Prop := 0 < n → ∃ b o c t f g e,a = some ⟨b,o,none⟩ ∧ (lo ≤ b ∧ b < hi) ∧ Canon.look A.objs b = some ⟨.cells c t f,g,e⟩ ∧ isRO g e = false ∧ o + n ≤ c.size
theorem Gr.wrt {A : AHeap} {a : Option Addr} {lo : Nat} {l : List Int} (h : Gr A a lo l) : Wrt A a lo A.next l.length := fun hpos => by
  obtain ⟨b,o,e,q2,q3,q4⟩ := h.ints (l.length - 1) (by omega)
  obtain ⟨y,h1,h2⟩ := h.wr _ e
  obtain ⟨ob,g,z⟩ := y
  obtain ⟨_,c,t,f,g',z',hlk,hc,_⟩ := AHeap.cell_eq q4
  simp only at hlk h1 h2
  rw [hlk] at h1
  cases h1
  have := (Array.getElem?_eq_some_iff.1 hc).1
  exact ⟨b,o,c,t,f,_,_,e,⟨q2,q3⟩,hlk,h2,by simp only at this; omega⟩
structure Szs (lo hi : Nat) (A B : AHeap) : Prop where
  next : B.next = A.next
  wf : WF B
  sz : ∀ b c t f g e,Canon.look A.objs b = some ⟨.cells c t f,g,e⟩ → ∃ c',c'.size = c.size ∧ Canon.look B.objs b = some ⟨.cells c' t f,g,e⟩
  keep : ∀ b,(b < lo ∨ hi ≤ b) → Canon.look B.objs b = Canon.look A.objs b
theorem Szs.refl {A : AHeap} (h : WF A) (lo hi : Nat) : Szs lo hi A A := ⟨rfl,h,fun b c t f g e q => ⟨c,rfl,q⟩,fun _ _ => rfl⟩
theorem Szs.trans {lo hi : Nat} {A B C : AHeap} (h : Szs lo hi A B) (k : Szs lo hi B C) : Szs lo hi A C := ⟨k.next.trans h.next,k.wf,fun b c t f g e q => by
  obtain ⟨c',e1,q1⟩ := h.sz b c t f g e q
  obtain ⟨c'',e2,q2⟩ := k.sz b c' t f g e q1
  exact ⟨c'',e2.trans e1,q2⟩,fun b hb => (k.keep b hb).trans (h.keep b hb)⟩
theorem Szs.of_upd {A B : AHeap} {b lo hi : Nat} {c c' : Array Value} {t : TypeId} {f : Nat × Nat} {g : Bool} {e : Nat} (hw : WF A) (hl : Canon.look A.objs b = some ⟨.cells c t f,g,e⟩) (hb : lo ≤ b ∧ b < hi) (h : Upd A b c' B) (hs : c'.size = c.size) : Szs lo hi A B :=
  ⟨h.next,(h.nx hw (Nat.zero_le _)).wf,fun b' c1 t1 f1 g1 e1 q => by
    by_cases hbb : b' = b
    · subst hbb
      obtain ⟨c2,t2,f2,g2,e2,r1,r2,_⟩ := h.at'
      rw [hl] at r1 q
      cases r1
      cases q
      exact ⟨c',hs,r2⟩
    · exact ⟨c1,rfl,(h.off _ hbb).trans q⟩,fun b' hb' => h.off _ (by omega)⟩
theorem Wrt.szs {A B : AHeap} {a : Option Addr} {lo hi n lo' hi' : Nat} (h : Wrt A a lo hi n) (k : Szs lo' hi' A B) : Wrt B a lo hi n := fun hpos => by
  obtain ⟨b,o,c,t,f,g,e,h1,h2,h3,h4,h5⟩ := h hpos
  obtain ⟨c',e1,q1⟩ := k.sz b c t f g e h3
  exact ⟨b,o,c',t,f,g,e,h1,h2,q1,h4,by omega⟩
theorem zeroCells_int (n : Nat) : ∃ l : List Value,(Builtin.zeroCells (Value.int .i64 0).cells n).toList = l ∧ l.length = n ∧ l.all zBY = true := by
  refine ⟨_,rfl,?_,?_⟩
  · simp [Builtin.zeroCells,Value.cells]
  · rw [List.all_eq_true]
    intro v hv
    simp [Builtin.zeroCells,Value.cells] at hv
    obtain ⟨i,hi,rfl⟩ := hv
    simp [zBY,Nat.mod_one]
theorem ae_clear {d : Option Tmp} {ty : TypeId} {pos : String} {af : Array Edge} {gu : Option (Nat × Bool)} {s : Slots} {x : Tmp} {A : AHeap} {a : Option Addr} {lo hi n c : Nat} (hw : WF A) (h : Wrt A a lo hi n) (hx : sget s x = .slice a n c) :
    ∃ B,zAE Try.prog (zBP s) ⟨d,.call ⟨.builtin .clear,#[.tmp x],#[22]⟩,ty,pos,af,gu⟩ A = some (.tuple #[],B) ∧ Szs lo hi A B := by
  obtain ⟨_,i,z,hinf,hz,hzz,_,_,_⟩ := elB_eq el22
  have hz' : z = .int .i64 0 := by
    have := ze3
    unfold zCG at this
    rw [hz,hinf] at this
    simp only [hzz] at this
    exact Option.some.inj this
  subst hz'
  have hun : zAE Try.prog (zBP s) ⟨d,.call ⟨.builtin .clear,#[.tmp x],#[22]⟩,ty,pos,af,gu⟩ A = arun Try.prog (Builtin.clear_ #[22] ty #[.slice a n c]) A := by
    simp only [zAE,Op.operands,Call.operands]
    simp [zAC,zDR,zAY,hx,hz]
  rw [hun]
  cases n with
  | zero =>
    refine ⟨A,?_,Szs.refl hw _ _⟩
    cases a <;> simp [Builtin.clear_,Go.underlying]
  | succ k =>
    obtain ⟨b,o,cc,t,f,g,e,rfl,h2,h3,h4,h5⟩ := h (Nat.succ_pos k)
    obtain ⟨l,hl1,hl2,hl3⟩ := zeroCells_int (k + 1)
    obtain ⟨B,c',q1,q2,q3,_⟩ := zCV (l := l) (o := o) h3 h4 (by omega) hl3
    refine ⟨B,?_,Szs.of_upd hw h3 h2 q2 q3⟩
    have hst := sts_run (P := Try.prog) (b := b) (l := l) (o := o) (i := 0) (A := A) (A1 := B) q1
    simp [Builtin.clear_,Go.underlying,Go.zeroValue,Go.typeInfo,hinf,hzz,hl1,hst]
theorem Wo.clear {ops : Array Oper} {i : Nat} {s : Slots} {A : AHeap} {K : Slots → AHeap → Prop} {o : Oper} {x : Tmp} {a : Option Addr} {lo hi n c : Nat} (ho : nth ops.toList i = some o) (hop : o.op = .call ⟨.builtin .clear,#[.tmp x],#[22]⟩) (hwt : zCM (gd ops o) s = true) (hw : WF A) (hW : Wrt A a lo hi n) (hx : sget s x = .slice a n c)
    (h : ∀ B,Szs lo hi A B → Wo Try.prog ops (i + 1) (sput s o.dst (.tuple #[])) B K) : Wo Try.prog ops i s A K := by
  obtain ⟨d,op,ty,pos,af,gu⟩ := o
  simp only at hop
  subst hop
  obtain ⟨B,q1,q2⟩ := ae_clear (d := d) (ty := ty) (pos := pos) (af := af) (gu := gu) hw hW hx
  exact Wo.op hc bno_ok ho (.inr ⟨hwt,.inr ⟨(fun f args ats e => by cases e),q1⟩⟩) (h B q2)
end Go.Proofs.Ytdaljohmfnfgiaa
namespace Go.Proofs.Ytdaljohmfnfgiaa
open Go Go.RowKit Go.Proofs.Ytdaljohmfnfgiaa.Canon
theorem awake_runs : btells Try.prog (xquick Try.prog) (qregion Try.prog (xquick Try.prog)) 100000 16 1000 = true := by kernel_rfl
theorem awake_true (w : World) : Calls Try.prog 16 #[] w (fun e w' => e = .returned (.bool true) ∧ Below w.heap.size w w') := calls_of_btells hc hx xquick_ok (qregion_ok xquick_ok) awake_runs w
theorem awake_con (A : AHeap) : Con Try.prog 16 [] A (fun v A1 => v = .bool true ∧ A1 = A) := by
  refine ⟨.bool true,A,⟨⟨_,Try.func16,rfl⟩,fun N => ?_⟩,rfl,rfl⟩
  refine ret_of_calls (fun N φ w xs' hr hs hN => ?_) N
  have : xs' = #[] := Array.eq_empty_of_size_eq_zero hr.1.symm
  subst this
  refine (awake_true w).mono fun en w' hp => ?_
  obtain ⟨rfl,hb⟩ := hp
  exact ⟨φ,_,rfl,Phi.le_refl _,.bool _,hs.below hb,hb.os,hb.tape,hb.output,hb.size,fun k hk => hb.block k (hN k hk)⟩
end Go.Proofs.Ytdaljohmfnfgiaa
namespace Go.Proofs.Ytdaljohmfnfgiaa
section
open Go Go.RowKit Go.Proofs.Ytdaljohmfnfgiaa.Canon
def IntsW (W : World) (a : Option Addr) (l : List Int) : Prop := ∀ i,i < l.length → ∃ b o,a = some ⟨b,o,none⟩ ∧ W.cell? ⟨b,o + i,none⟩ = some (.int .i64 (l.getD i 0))
theorem cell_heap {W : World} {b o : Nat} {v : Value} (h : W.cell? ⟨b,o,none⟩ = some v) : ∃ c t f,W.heap[b]? = some (.cells c t f) ∧ c[o]? = some v := by
  unfold World.cell? at h
  cases hb : W.heap[b]? with
  | none => simp [hb] at h
  | some x =>
    cases x <;> simp [hb] at h
    exact ⟨_,_,_,rfl,h⟩
theorem IntsW.ints {W : World} {z : Nat} {A : AHeap} (hA : In W z A) {a : Option Addr} {l : List Int} (h : IntsW W a l) : Ints A a 0 A.next l := fun i hi => by
  obtain ⟨b,o,rfl,hc⟩ := h i hi
  obtain ⟨c,t,f,h1,h2⟩ := cell_heap hc
  have hlt : b < W.heap.size := (Array.getElem?_eq_some_iff.1 h1).1
  exact ⟨b,o,rfl,Nat.zero_le _,by rw [hA.next]; have := hA.big; omega,hA.cl h1 h2 rfl⟩
def blkOf : Option Addr → Nat
  | some a => a.block + 1
  | none => 0
theorem roV_slice {z : Nat} {a : Option Addr} {n c : Nat} (hs : ∀ x,a = some x → x.spot = none) (hb : blkOf a ≤ z) : roV z (.slice a n c) = true := by
  cases a with
  | none => rfl
  | some x =>
    obtain ⟨b,o,s⟩ := x
    have := hs _ rfl
    simp only at this
    subst this
    have hb : b + 1 ≤ z := hb
    show Nat.blt b z = true
    rw [Nat.blt_eq]
    omega
end
section
open Go.ChangeShapes Go.WideShapes Go.ChangeAt Go.RowKit Go.Proofs.Ytdaljohmfnfgiaa.Canon
open Go.Deep (open_slice_pairs open_slice)
theorem Try.own : ownKnob Try.prog.godebug = none := by kernel_rfl
theorem Try.laidOut : laidOutB Try.prog = true := by kernel_rfl
theorem Try.cells24 : Try.prog.cellsOf 24 = 3 := by kernel_rfl
theorem Try.cells3 : Try.prog.cellsOf 3 = 1 := by kernel_rfl
theorem Try.cells22 : Try.prog.cellsOf 22 = 1 := by kernel_rfl
theorem Try.types24 : Try.prog.cellTypes Try.prog.depth 24 = some [3,22,22] := by kernel_rfl
section
variable {H : Type} {enc : TypeId × Value → H} {P : Program}
theorem post_of_below {f : Func} {s : ChangeSpec} {apart fresh handsOn again : Bool} {W W' : World} {args : Array Value} {v : Value} {ds gs : List (DataW H)} {before pa pv : List MemPlace}
    (hW : DataW.Whole enc P f.params.toList s.vars apart W args.toList ds gs before)
    (hres : ∀ (b : Nat) (sp : Nat → Bool) (hd : Bool),DataW.TrodAll enc P W' b sp hd f.resultTypes.toList (v.resultList f.resultTypes.size) (s.fn H (ds ++ gs)).results [])
    (hargs : ∀ sp : Nat → Bool,(∀ p ∈ before,sp p.block = true) → DataW.TrodAll enc P W' 0 sp true f.params.toList args.toList (s.fn H (ds ++ gs)).args pa)
    (hvars : ∀ sp : Nat → Bool,(∀ p ∈ before,sp p.block = true) → DataW.TrodVars enc P W' sp s.vars (s.fn H (ds ++ gs)).vars pv)
    (hps : before = pa ++ pv) (hb : Below W.heap.size W W')
    (hok : ∀ (j : Nat) (t : TypeId) (r : Value),f.resultTypes[j]? = some t → (v.resultList f.resultTypes.size)[j]? = some r → Value.okWide P W' .any 0 t r) :
    s.post enc P f apart fresh handsOn again W args v W' := by
  have hlt : ∀ p ∈ before,p.block < W.heap.size := fun p hp => hW.lt p hp
  have hold : ∀ p ∈ before,(fun b => decide (b < W.heap.size)) p.block = true := fun p hp => by simpa using hlt p hp
  refine ⟨ds,gs,before,[],pa,pv,hW,hres _ _ _,hargs _ hold,hvars _ hold,World.keptBut_mono (fun p hp => ⟨hp,?_⟩) (hb.frame (· ∈ before)),fun _ => ?_⟩
  · rw [hps,List.mem_append] at hp
    exact Or.inr hp
  · obtain ⟨_,_,_,_,_,hz,hn⟩ := hW
    refine ⟨hok,_,_,([] ++ pa) ++ pv,⟨[] ++ pa,pv,trodAll_append (hargs _ (fun _ _ => rfl)) (hres _ _ _),hvars _ (fun _ _ => rfl),rfl,?_,?_⟩,?_⟩
    · intro b off hp
      have hin : MemPlace.cell b off ∈ before := by rw [hps]; simpa using hp
      rw [hb.frozen (hlt _ hin)]
      exact hz b off hin
    · intro ha
      have := hn ha
      rw [hps] at this
      simpa using this
    · intro p hp _
      rw [hps]
      simpa using hp
end
theorem cell_int {P : Program} {w : World} {b : Nat} {t : TypeId} (ht : P.underlying t = some (.int .i64)) {v : Value} (h : Cell.okWide P w .any b t v) : ∃ n,v = .int .i64 n := by
  unfold Cell.okWide at h
  rw [ht] at h
  cases v <;> simp [Cell.ok,ht] at h
  case int k n => obtain ⟨rfl,_⟩ := h; exact ⟨n,rfl⟩
theorem cell_slice {P : Program} {w : World} {b : Nat} {t e : TypeId} (ht : P.underlying t = some (.slice e)) {v : Value} (h : Cell.okWide P w .any b t v) : ∃ a n c,v = .slice a n c ∧ ∀ x,a = some x → x.spot = none := by
  unfold Cell.okWide at h
  rw [ht] at h
  cases v <;> simp [Cell.ok,ht] at h
  case slice a n c =>
    cases a with
    | none => exact ⟨none,n,c,rfl,fun x hx => by cases hx⟩
    | some a =>
      refine ⟨some a,n,c,rfl,fun x hx => ?_⟩
      cases hx
      simp only at h
      exact h.2.2.2.1
theorem agg_cells {P : Program} {w : World} {b : Nat} {t : TypeId} {fs : Array Field} (ht : P.underlying t = some (.struct fs)) {v : Value} (h : Value.okWide P w .any b t v) : ∃ cs,v = .agg cs ∧ cs.size = P.cellsOf t ∧ Row.okWide P w .any b t cs := by
  unfold Value.okWide at h
  rw [ht] at h
  exact h
theorem row_cells {P : Program} {w : World} {b : Nat} {t : TypeId} {cs : Array Value} {ts : List TypeId} (hts : P.cellTypes P.depth t = some ts) (h : Row.okWide P w .any b t cs) : ∀ (i : Nat) (v : Value),cs[i]? = some v → ∃ u,ts[i % ts.length]? = some u ∧ Cell.okWide P w .any b u v := by
  obtain ⟨ts',h1,_,h2⟩ := h
  rw [hts] at h1
  cases h1
  exact h2
set_option maxRecDepth 100000 in
theorem lasso_shape {w : World} {b : Nat} {v : Value} (h : Value.okWide Try.prog w .any b 24 v) :
    ∃ (m : Int) (sa : Option Addr) (sn sc : Nat) (ra : Option Addr) (rn rc : Nat),v = .agg #[.int .i64 m,.slice sa sn sc,.slice ra rn rc] ∧ (∀ a,sa = some a → a.spot = none) ∧ (∀ a,ra = some a → a.spot = none) := by
  obtain ⟨cs,rfl,hsz,hrow⟩ := agg_cells Try.underlying24 h
  have hall := row_cells Try.types24 hrow
  clear hrow
  rw [Try.cells24] at hsz
  obtain ⟨l⟩ := cs
  match l,hsz with
  | [a0,a1,a2],_ =>
    have g : ∀ (i : Nat) (v : Value) (u : TypeId),(#[a0,a1,a2] : Array Value)[i]? = some v → ([3,22,22] : List TypeId)[i % 3]? = some u → Cell.okWide Try.prog w .any b u v := fun i v u hv hu => by
      obtain ⟨u',h1,h2⟩ := hall i v hv
      have h1 : ([3,22,22] : List TypeId)[i % 3]? = some u' := h1
      rw [hu] at h1
      cases h1
      exact h2
    obtain ⟨k,rfl⟩ := cell_int Try.underlying3 (g 0 a0 3 rfl rfl)
    obtain ⟨sa,sn,sc,rfl,hk⟩ := cell_slice Try.underlying22 (g 1 a1 22 rfl rfl)
    obtain ⟨ra,rn,rc,rfl,hn⟩ := cell_slice Try.underlying22 (g 2 a2 22 rfl rfl)
    exact ⟨k,sa,sn,sc,ra,rn,rc,rfl,hk,hn⟩
set_option maxRecDepth 100000 in
theorem ints_trod {H : Type} {enc : TypeId × Value → H} {w : World} {base : Nat} {sp : Nat → Bool} {hd : Bool} {fuel : Nat} {a : Option Addr} {n c : Nat} {x : DataW H × List MemPlace}
    (h : DataW.trod enc Try.prog w base sp hd fuel 22 [.slice a n c] = some x) (hsp : ∀ y,a = some y → y.spot = none) : ∃ l : List Int,l.length = n ∧ IntsW w a l := by
  rcases open_ints Try.underlying22 Try.underlying3 Try.cells3 h with ⟨h1,_⟩ | ⟨a1,len,cap,zs,h1,_,hlc,_,hz,_,hc,_⟩
  · simp only [List.cons.injEq,Value.slice.injEq,and_true] at h1
    obtain ⟨rfl,rfl,rfl⟩ := h1
    exact ⟨[],rfl,fun i hi => by simp at hi⟩
  · simp only [List.cons.injEq,Value.slice.injEq,and_true] at h1
    obtain ⟨rfl,rfl,rfl⟩ := h1
    have hle : n ≤ zs.length := by rw [hz]; split <;> omega
    refine ⟨zs.take n,by simp; omega,fun i hi => ?_⟩
    have hin : i < n := by simp at hi; omega
    obtain ⟨B,O,s⟩ := a1
    have := hsp _ rfl
    simp only at this
    subst this
    have ad : (⟨B,O,none⟩ : Addr).add i = ⟨B,O + i,none⟩ := addr_add B O i
    refine ⟨B,O,rfl,?_⟩
    rw [← ad,hc i (by omega)]
    simp only [List.getD_eq_getElem?_getD,List.getElem?_take]
    rw [if_pos hin]
set_option maxRecDepth 100000 in
theorem lasso_ints {H : Type} {enc : TypeId × Value → H} {w : World} {base : Nat} {sp : Nat → Bool} {hd : Bool} {m : Int} {sa ra : Option Addr} {sn sc rn rc : Nat} {d : DataW H} {ps : List MemPlace}
    (h : DataW.Trod enc Try.prog w base sp hd 24 (.agg #[.int .i64 m,.slice sa sn sc,.slice ra rn rc]) d ps) (h1 : ∀ a,sa = some a → a.spot = none) (h2 : ∀ a,ra = some a → a.spot = none) : (∃ l : List Int,l.length = sn ∧ IntsW w sa l) ∧ ∃ l : List Int,l.length = rn ∧ IntsW w ra l := by
  obtain ⟨fuel,hf⟩ := h
  obtain ⟨xs,k,_,_,_,hlen,hfs⟩ := DataW.trod_struct Try.underlying24 hf
  have f1 := hfs 1 { name := "Stem",type := 22,offset := 1,embedded := false,tag := "",pkgPath := "",byteOffset := 8 } rfl
  have f2 := hfs 2 { name := "Round",type := 22,offset := 2,embedded := false,tag := "",pkgPath := "",byteOffset := 32 } rfl
  obtain ⟨y1,hy1⟩ : ∃ y,xs[1]? = some y := ⟨_,List.getElem?_eq_getElem (by rw [hlen]; decide)⟩
  obtain ⟨y2,hy2⟩ : ∃ y,xs[2]? = some y := ⟨_,List.getElem?_eq_getElem (by rw [hlen]; decide)⟩
  rw [hy1] at f1
  rw [hy2] at f2
  simp only [Try.cells22] at f1 f2
  exact ⟨ints_trod f1 h1,ints_trod f2 h2⟩
end
end Go.Proofs.Ytdaljohmfnfgiaa
namespace Go.Proofs.Ytdaljohmfnfgiaa
open Go Go.RowKit Go.Proofs.Ytdaljohmfnfgiaa.Canon
set_option maxRecDepth 20000
def Tw (x x' : Las) : Prop := x.m = x'.m ∧ x.st = x'.st ∧ x.ro = x'.ro
theorem errs_tw {x x' y y' : Las} (hx : Tw x x') (hy : Tw y y') : errs [x,y] [x,y] = errs [x',y'] [x',y'] := by
  rw [errs_two,errs_two]
  unfold Las.err
  rw [hx.1,hx.2.1,hx.2.2,hy.1,hy.2.1,hy.2.2]
def ownS : Canon.Spec := fun _ xs A v A1 => Nx A.next A A1 ∧ ∀ (m : Int) (sa : Option Addr) (st : List Int) (sc : Nat) (ra : Option Addr) (ro : List Int) (rc : Nat),xs = [.agg #[.int .i64 m,.slice sa st.length sc,.slice ra ro.length rc]] → Ints A sa 0 A.next st → Ints A ra 0 A.next ro →
  ∃ sa' sc' ra' rc',v = .agg #[.int .i64 m,.slice sa' st.length sc',.slice ra' ro.length rc'] ∧ st.length ≤ sc' ∧ ro.length ≤ rc' ∧ Ints A1 sa' 0 A1.next st ∧ Ints A1 ra' 0 A1.next ro ∧ Sl A1 sa' 0 ∧ Sl A1 ra' 0
theorem own_S {A : AHeap} (hw : WF A) {m : Int} {sa ra : Option Addr} {sc rc : Nat} {st ro : List Int} (hs : Ints A sa 0 A.next st) (hr : Ints A ra 0 A.next ro) (ls : st.length ≤ 1000) (lr : ro.length ≤ 1000) :
    Con Try.prog 17 [.agg #[.int .i64 m,.slice sa st.length sc,.slice ra ro.length rc]] A (ownS 17 [.agg #[.int .i64 m,.slice sa st.length sc,.slice ra ro.length rc]] A) := by
  refine Con.mono (own_lasso hw hs hr ls lr) fun v A1 ⟨xa,xc,ya,yc,e0,q1,q2,q3,q4,q5,q6,q7⟩ => ⟨q3,fun m' sa' st' sc' ra' ro' rc' e h1 h2 => ?_⟩
  simp only [List.cons.injEq,Value.agg.injEq,Array.mk.injEq,Value.int.injEq,Value.slice.injEq,true_and,and_true] at e
  obtain ⟨rfl,⟨rfl,e1,-⟩,rfl,e2,-⟩ := e
  have hst := ints_uniq hs h1 e1
  have hro := ints_uniq hr h2 e2
  subst hst hro
  exact ⟨xa,xc,ya,yc,e0,q1,q2,q4.mono (Nat.zero_le _) (Nat.le_refl _),q5.mono (Nat.zero_le _) (Nat.le_refl _),q6.mono (Nat.zero_le _),q7.mono (Nat.zero_le _)⟩
end Go.Proofs.Ytdaljohmfnfgiaa
namespace Go.Proofs.Ytdaljohmfnfgiaa
open Go Go.RowKit Go.Proofs.Ytdaljohmfnfgiaa.Canon
set_option maxRecDepth 20000
def TP (e m : Int) (s : Nat → Int) (mm : Int) (L1 L2 : List Int) (ee : Int) : Prop :=
  (e ≠ 0 ∧ mm = 0 ∧ L1 = [] ∧ L2 = [] ∧ ee = e) ∨
  (e = 0 ∧ ∃ a p,Red s a p ∧ (((120 < p ∨ 60 < a) ∧ mm = 0 ∧ L1 = [] ∧ L2 = [] ∧ ee = 11) ∨ (¬ (120 < p ∨ 60 < a) ∧ mm = m ∧ L1 = redS s a ∧ L2 = redR s a p ∧ ee = 0)))
theorem TP.uniq {e m : Int} {s : Nat → Int} {mm mm' : Int} {L1 L2 L1' L2' : List Int} {ee ee' : Int} (h : TP e m s mm L1 L2 ee) (k : TP e m s mm' L1' L2' ee') : mm = mm' ∧ L1 = L1' ∧ L2 = L2' ∧ ee = ee' := by
  rcases h with ⟨h0,rfl,rfl,rfl,rfl⟩ | ⟨h0,a,p,hr,h⟩
  · rcases k with ⟨_,rfl,rfl,rfl,rfl⟩ | ⟨k0,_⟩
    · exact ⟨rfl,rfl,rfl,rfl⟩
    · exact absurd k0 h0
  · rcases k with ⟨k0,_⟩ | ⟨_,a',p',kr,k⟩
    · exact absurd h0 k0
    · obtain ⟨rfl,rfl⟩ := hr.uniq kr
      rcases h with ⟨h1,rfl,rfl,rfl,rfl⟩ | ⟨h1,rfl,rfl,rfl,rfl⟩
      · rcases k with ⟨_,rfl,rfl,rfl,rfl⟩ | ⟨k1,_⟩
        · exact ⟨rfl,rfl,rfl,rfl⟩
        · exact absurd h1 k1
      · rcases k with ⟨k1,_⟩ | ⟨_,rfl,rfl,rfl,rfl⟩
        · exact absurd k1 h1
        · exact ⟨rfl,rfl,rfl,rfl⟩
theorem TP.len {e m : Int} {s : Nat → Int} {mm : Int} {L1 L2 : List Int} {ee : Int} (h : TP e m s mm L1 L2 ee) : L1.length ≤ 60 ∧ L2.length ≤ 120 := by
  rcases h with ⟨_,_,rfl,rfl,_⟩ | ⟨_,a,p,_,⟨_,_,rfl,rfl,_⟩ | ⟨h1,_,rfl,rfl,_⟩⟩
  · simp
  · simp
  · rw [zAL,zAG]; omega
def Tld (A : AHeap) (e m : Int) (s : Nat → Int) (v : Value) (A1 : AHeap) : Prop :=
  Nx A.next A A1 ∧ ∃ mm L1 L2 ee p1 c1 p2 c2,TP e m s mm L1 L2 ee ∧ v = .tuple #[.agg #[.int .i64 mm,.slice p1 L1.length c1,.slice p2 L2.length c2],.int .i64 ee] ∧ Ints A1 p1 A.next A1.next L1 ∧ Ints A1 p2 A.next A1.next L2 ∧ Wrt A1 p1 A.next A1.next L1.length ∧ Wrt A1 p2 A.next A1.next L2.length ∧ Sl A1 p1 A.next ∧ Sl A1 p2 A.next ∧ L1.length ≤ c1 ∧ L2.length ≤ c2
def TldR (A : AHeap) (e m : Int) (s : Nat → Int) (v : Value) (A1 : AHeap) : Prop :=
  Nx A.next A A1 ∧ ∃ mm L1 L2 ee p1 c1 p2 c2,TP e m s mm L1 L2 ee ∧ v = .tuple #[.agg #[.int .i64 mm,.slice p1 L1.length c1,.slice p2 L2.length c2],.int .i64 ee] ∧ Ints A1 p1 A.next A1.next L1 ∧ Ints A1 p2 A.next A1.next L2
theorem ints_nil' (A : AHeap) (a : Option Addr) (lo hi : Nat) : Ints A a lo hi [] := fun i hi => by simp at hi
theorem tld_err {A A1 : AHeap} {e m : Int} {s : Nat → Int} (he : e ≠ 0) (hx1 : Nx A.next A A1) : Tld A e m s (.tuple #[.agg #[.int .i64 0,.slice none 0 0,.slice none 0 0],.int .i64 e]) A1 :=
  ⟨hx1,0,[],[],_,none,0,none,0,.inl ⟨he,rfl,rfl,rfl,rfl⟩,rfl,ints_nil' _ _ _ _,ints_nil' _ _ _ _,fun h0 => absurd h0 (by simp),fun h0 => absurd h0 (by simp),fun y hy => (by cases hy),fun y hy => (by cases hy),Nat.le_refl _,Nat.le_refl _⟩
theorem tldR_err {A A1 : AHeap} {e m : Int} {s : Nat → Int} (he : e ≠ 0) (hx1 : Nx A.next A A1) : TldR A e m s (.tuple #[.agg #[.int .i64 0,.slice none 0 0,.slice none 0 0],.int .i64 e]) A1 :=
  ⟨hx1,0,[],[],_,none,0,none,0,.inl ⟨he,rfl,rfl,rfl,rfl⟩,rfl,ints_nil' _ _ _ _,ints_nil' _ _ _ _⟩
theorem tld_q {A A1 : AHeap} {m : Int} {s : Nat → Int} {a p : Nat} {v : Value} (hr : Red s a p) (h : LeastQ A m s a p v A1) : Tld A 0 m s v A1 := by
  obtain ⟨hx1,hq⟩ := h
  refine ⟨hx1,?_⟩
  by_cases hl : 120 < p ∨ 60 < a
  · rw [if_pos hl] at hq
    exact ⟨0,[],[],11,none,0,none,0,.inr ⟨rfl,a,p,hr,.inl ⟨hl,rfl,rfl,rfl,rfl⟩⟩,hq,ints_nil' _ _ _ _,ints_nil' _ _ _ _,fun h0 => absurd h0 (by simp),fun h0 => absurd h0 (by simp),fun y hy => (by cases hy),fun y hy => (by cases hy),Nat.le_refl _,Nat.le_refl _⟩
  · rw [if_neg hl] at hq
    obtain ⟨xa,xr,rfl,g1,g2⟩ := hq
    exact ⟨m,_,_,0,xa,a,xr,p,.inr ⟨rfl,a,p,hr,.inr ⟨hl,rfl,rfl,rfl,rfl⟩⟩,by rw [zAL,zAG],g1.ints,g2.ints,g1.wrt,g2.wrt,g1.sl,g2.sl,by rw [zAL]; exact Nat.le_refl _,by rw [zAG]; exact Nat.le_refl _⟩
theorem tldR_q {A A1 : AHeap} {m : Int} {s : Nat → Int} {a p : Nat} {v : Value} (hr : Red s a p) (h : LeastR A m s a p v A1) : TldR A 0 m s v A1 := by
  obtain ⟨hx1,hq⟩ := h
  refine ⟨hx1,?_⟩
  by_cases hl : 120 < p ∨ 60 < a
  · rw [if_pos hl] at hq
    exact ⟨0,[],[],11,none,0,none,0,.inr ⟨rfl,a,p,hr,.inl ⟨hl,rfl,rfl,rfl,rfl⟩⟩,hq,ints_nil' _ _ _ _,ints_nil' _ _ _ _⟩
  · rw [if_neg hl] at hq
    obtain ⟨xa,xc,xr,xd,rfl,g1,g2⟩ := hq
    exact ⟨m,_,_,0,xa,xc,xr,xd,.inr ⟨rfl,a,p,hr,.inr ⟨hl,rfl,rfl,rfl,rfl⟩⟩,by rw [zAL,zAG],g1,g2⟩
theorem Tld.put {A B D : AHeap} {e m : Int} {s : Nat → Int} {mm : Int} {L1 L2 : List Int} {ee : Int} {p1 p2 : Option Addr} {c1 c2 lo b : Nat} (hlo : lo ≤ A.next) (hb : b < A.next) (hlb : lo ≤ b) (hT : TP e m s mm L1 L2 ee) (i1 : Ints B p1 A.next B.next L1) (i2 : Ints B p2 A.next B.next L2) (hn : D.next = B.next) (hoff : ∀ b',b' ≠ b → Canon.look D.objs b' = Canon.look B.objs b') :
    Ints D p1 A.next D.next L1 ∧ Ints D p2 A.next D.next L2 := by
  have h : ∀ b',A.next ≤ b' → Canon.look B.objs b' = none ∨ Canon.look D.objs b' = Canon.look B.objs b' := fun b' hb' => .inr (hoff _ (by omega))
  exact ⟨i1.ext h (Nat.le_of_eq hn.symm),i2.ext h (Nat.le_of_eq hn.symm)⟩
theorem Wrt.off {B D : AHeap} {a : Option Addr} {lo n b : Nat} (h : Wrt B a lo B.next n) (hn : D.next = B.next) (hb : b < lo) (hoff : ∀ b',b' ≠ b → Canon.look D.objs b' = Canon.look B.objs b') : Wrt D a lo D.next n := fun hpos => by
  obtain ⟨b',o,c,t,f,g,e,h1,h2,h3,h4,h5⟩ := h hpos
  exact ⟨b',o,c,t,f,g,e,h1,⟨h2.1,by rw [hn]; exact h2.2⟩,by rw [hoff _ (by omega)]; exact h3,h4,h5⟩
end Go.Proofs.Ytdaljohmfnfgiaa
namespace Go.Proofs.Ytdaljohmfnfgiaa
open Go Go.RowKit Go.Proofs.Ytdaljohmfnfgiaa.Canon
set_option maxRecDepth 20000
theorem takeL_snoc (st ro : List Int) (n k : Nat) : takeL st ro n k ++ [atL st ro (n + k)] = takeL st ro n (k + 1) := by simp [takeL,List.range_succ]
theorem first_ref {A : AHeap} (hw : WF A) {m : Int} {sa ra : Option Addr} {sc rc : Nat} {st ro : List Int} (hs : Ints A sa 0 A.next st) (hr : Ints A ra 0 A.next ro) (ls : st.length < 4611686018427387904) (lr : ro.length < 4611686018427387904) (hro : 0 < ro.length) {n many : Nat} (hn63 : n < 4611686018427387904) (hm : many ≤ 100000) :
    Con Try.prog 79 [.agg #[.int .i64 m,.slice sa st.length sc,.slice ra ro.length rc],.int .i64 (n : Int),.int .i64 (many : Int)] A (fun v A1 => ∃ a,v = .slice a many many ∧ Nx A.next A A1 ∧ Gr A1 a A.next (takeL st ro n many)) := by
  refine zAF hc Try.func79 rfl (Nat.le_of_ble_eq_true rfl) ?_
  obtain ⟨A1,e1,hx1,hn1,b0,b1,b2⟩ := box3 hw (.int .i64 m) (.slice sa st.length sc) (.slice ra ro.length rc) 24
  rw [s_in3]
  (repeat (first | refine Rn.seq hc ?_ | refine Rn.skip hc ?_ | refine Rn.block hc ?_ | refine Rn.inBlock hc ?_ | refine Rn.scope hc ?_ | refine Rn.inScope hc ?_))
  refine Rn.reg hc rfl ?_
  simp only [zAY,zAS,zAU,zAT,Nat.reduceLT,ne_eq,Nat.reduceEqDiff,zNf,gd,zAX,rops,fx,zOi,zEl,Value.cells,show Try.f79.ntmps = 23 from rfl,e1]
  (repeat (first | refine Rn.seq hc ?_ | refine Rn.skip hc ?_ | refine Rn.block hc ?_ | refine Rn.inBlock hc ?_ | refine Rn.scope hc ?_ | refine Rn.inScope hc ?_))
  refine Rn.reg hc rfl ?_
  simp only [zAS,gd,zAX,rops,fx,zOi,zEl]
  (repeat (first | refine Rn.seq hc ?_ | refine Rn.skip hc ?_ | refine Rn.block hc ?_ | refine Rn.inBlock hc ?_ | refine Rn.scope hc ?_ | refine Rn.inScope hc ?_))
  refine Rn.reg hc rfl ?_
  simp only [zAS,gd,zAX,rops,fx,zOi,zEl]
  (repeat (first | refine Rn.seq hc ?_ | refine Rn.skip hc ?_ | refine Rn.block hc ?_ | refine Rn.inBlock hc ?_ | refine Rn.scope hc ?_ | refine Rn.inScope hc ?_))
  refine Rn.zDY hc (I := fun k s A' => ∃ i wa,i ≤ many ∧ k = many - i ∧ Nx A1.next A1 A' ∧ Gr A' wa A1.next (takeL st ro n i) ∧ s.n = 23 ∧ sget s 1 = .int .i64 (n : Int) ∧ sget s 2 = .int .i64 (many : Int) ∧ sget s 3 = .pointer (some ⟨A.next,0,none⟩) ∧ sget s 7 = .slice wa i i ∧ sget s 8 = .int .i64 (i : Int))
    (n := many) ⟨0,none,by omega,rfl,Nx.refl hx1.wf _,Gr.nil _ _,by simp only [sp_n],by simp only [zAU,zAT,sp_n,Nat.reduceLT,ne_eq,Nat.reduceEqDiff,zNf],by simp only [zAU,zAT,sp_n,Nat.reduceLT,ne_eq,Nat.reduceEqDiff,zNf],by simp only [zAU,zAT,sp_n,Nat.reduceLT,ne_eq,Nat.reduceEqDiff,zNf],by simp only [zAU,zAT,sp_n,Nat.reduceLT,ne_eq,Nat.reduceEqDiff,zNf],by simp only [zAU,sp_n,Nat.reduceLT]; rfl⟩ ?_
  rintro k s A' ⟨i,wa,hi,rfl,hA,hg,hn,s1,s2,s3,s7,s8⟩ ih
  have hA0 : Nx A.next A A' := hx1.trans (hA.le hx1.next)
  (repeat (first | refine Rn.seq hc ?_ | refine Rn.skip hc ?_ | refine Rn.block hc ?_ | refine Rn.inBlock hc ?_ | refine Rn.scope hc ?_ | refine Rn.inScope hc ?_))
  by_cases hlt : i < many
  · have hd : decide ((i : Int) < (many : Int)) = true := decide_eq_true (by omega)
    have d0' := (hA.cl (show A.next < A1.next by omega) 0).trans b0
    have d1' := (hA.cl (show A.next < A1.next by omega) 1).trans b1
    have d2' := (hA.cl (show A.next < A1.next by omega) 2).trans b2
    have nA := hA.next
    refine Rn.reg hc rfl ?_
    simp only [zAY,zAU,zAT,sp_n,Nat.reduceLT,ne_eq,Nat.reduceEqDiff,zNf,gd,zAX,rops,fx,zAN,zOi,zEl,hn,s2,s8,hd]
    (repeat (first | refine Rn.seq hc ?_ | refine Rn.skip hc ?_ | refine Rn.block hc ?_ | refine Rn.inBlock hc ?_ | refine Rn.scope hc ?_ | refine Rn.inScope hc ?_))
    refine Rn.zAM hc rfl ?_
    simp only [zAY,zAU,sp_n,Nat.reduceLT,Value.bool.injEq,zEl,hn]
    (repeat (first | refine Rn.seq hc ?_ | refine Rn.skip hc ?_ | refine Rn.block hc ?_ | refine Rn.inBlock hc ?_ | refine Rn.scope hc ?_ | refine Rn.inScope hc ?_))
    refine Rn.region hc fun K hK => ?_
    have hw1 : IntKind.i64.wrap ((n : Int) + (i : Int)) = ((n + i : Nat) : Int) := by rw [IntWalk.i64_in _ (by omega)]; omega
    refine Wo.run hc 5 rfl rfl rfl ?_
    simp (maxSteps := 2000000) only [List.drop_zero,List.take_succ_cons,List.take_zero,zAY,zAU,zAT,sp_n,Nat.reduceLT,ne_eq,Nat.reduceEqDiff,not_false_eq_true,gd,zAX,rops,fx,ld,zAH,zAR,cls,Nat.zero_add,Option.some.injEq,exists_eq_left',Nat.reduceAdd,tk24,hn,s1,s3,s7,s8,d0',d1',d2',hw1]
    refine Wo.call hc (by rfl) (by rfl) ⟨by rfl,by rfl⟩ (xs := [.agg #[.int .i64 m,.slice sa st.length sc,.slice ra ro.length rc],.int .i64 ((n + i : Nat) : Int)]) (by rfl) (by rfl) (by simp only [zAY,zAU,zAT,sp_n,Nat.reduceLT,ne_eq,Nat.reduceEqDiff,zNf,List.map_cons,List.map_nil,List.nil_append,List.append_nil,hn]) (Con.mono (at_ref hA.wf ((hs.nx hA0 (Nat.le_refl _)).mono (Nat.le_refl _) hA0.next) ((hr.nx hA0 (Nat.le_refl _)).mono (Nat.le_refl _) hA0.next) (n + i) ls hro lr (by omega)) ?_)
    rintro w B1 ⟨rfl,hy1⟩
    have hz1 : Nx B1.next B1 (B1.push (.cells #[.int .i64 (atL st ro (n + i))] 3)) := (Nx.refl hy1.wf _).push (Nat.le_refl _) _
    have lB2 := zAI B1 (.cells #[.int .i64 (atL st ro (n + i))] 3)
    have hnB2 : (B1.push (.cells #[.int .i64 (atL st ro (n + i))] 3)).next = B1.next + 1 := rfl
    generalize eB2 : B1.push (.cells #[.int .i64 (atL st ro (n + i))] 3) = B2 at hz1 lB2 hnB2
    have hg2 : Gr B2 wa A1.next (takeL st ro n i) := (hg.nx (n := 0) hA.wf hy1).nx (n := 0) hy1.wf hz1
    obtain ⟨B3,q1,n3,w3,hg3,_,nx3⟩ := gr_push hz1.wf hg2 (a2 := some ⟨B1.next,0,none⟩) (c2 := 1) (b2 := B1.next) (x := atL st ro (n + i)) rfl (by rw [zCE lB2 rfl]; rfl) (by rw [takeL_len]; omega)
    rw [takeL_len] at q1
    have hsnoc : takeL st ro n i ++ [atL st ro (n + i)] = takeL st ro n (i + 1) := takeL_snoc st ro n i
    rw [hsnoc] at hg3
    have hyn := hy1.next
    refine Wo.run hc 3 rfl rfl rfl ?_
    simp (maxSteps := 2000000) only [List.drop_zero,List.drop_succ_cons,List.take_succ_cons,List.take_zero,zAY,zAU,zAT,sp_n,Nat.reduceLT,ne_eq,Nat.reduceEqDiff,not_false_eq_true,gd,zAX,rops,fx,Option.some.injEq,exists_eq_left',Nat.reduceAdd,hn,bs22_1,zBY,eB2,ae_apd,zCQ,q1]
    refine Wo.done hc rfl (hK _ _ ?_)
    clear hK
    (repeat (first | refine Rn.seq hc ?_ | refine Rn.skip hc ?_ | refine Rn.block hc ?_ | refine Rn.inBlock hc ?_ | refine Rn.scope hc ?_ | refine Rn.inScope hc ?_))
    have hA3 : Nx A1.next A1 B3 := hA.trans ((hy1.le hA.next).trans ((hz1.le (by omega)).trans (nx3.le (by omega))))
    refine Rn.reg hc rfl ?_
    simp only [zAY,zAS,zAU,zAT,sp_n,Nat.reduceLT,ne_eq,Nat.reduceEqDiff,zNf,gd,zAX,rops,fx,zAH,zOi,zEl,hn,s8,zBZ (show i < 9223372036854775807 by omega)]
    (repeat (first | refine Rn.seq hc ?_ | refine Rn.skip hc ?_ | refine Rn.block hc ?_ | refine Rn.inBlock hc ?_ | refine Rn.scope hc ?_ | refine Rn.inScope hc ?_))
    exact ih _ _ _ (by omega) ⟨i + 1,_,by omega,rfl,hA3,hg3.mono (by omega),by simp only [sp_n,hn],by simp only [zAT,ne_eq,Nat.reduceEqDiff,zNf,s1],by simp only [zAT,ne_eq,Nat.reduceEqDiff,zNf,s2],by simp only [zAT,ne_eq,Nat.reduceEqDiff,zNf,s3],by simp only [zAU,zAT,sp_n,Nat.reduceLT,ne_eq,Nat.reduceEqDiff,zNf,hn],by simp only [zAU,sp_n,Nat.reduceLT,hn]⟩
  · have hd : decide ((i : Int) < (many : Int)) = false := decide_eq_false (by omega)
    have hil : i = many := by omega
    subst hil
    clear ih
    refine Rn.reg hc rfl ?_
    simp only [zAY,zAU,zAT,sp_n,Nat.reduceLT,ne_eq,Nat.reduceEqDiff,zNf,gd,zAX,rops,fx,zAN,zOi,zEl,hn,s2,s8,hd]
    (repeat (first | refine Rn.seq hc ?_ | refine Rn.skip hc ?_ | refine Rn.block hc ?_ | refine Rn.inBlock hc ?_ | refine Rn.scope hc ?_ | refine Rn.inScope hc ?_))
    refine Rn.zAM hc rfl ?_
    simp only [zAY,zAU,sp_n,Nat.reduceLT,Value.bool.injEq,zEl,hn]
    (repeat (first | refine Rn.seq hc ?_ | refine Rn.skip hc ?_ | refine Rn.block hc ?_ | refine Rn.inBlock hc ?_ | refine Rn.scope hc ?_ | refine Rn.inScope hc ?_))
    refine Rn.exit hc rfl ?_
    (repeat (first | refine Rn.seq hc ?_ | refine Rn.skip hc ?_ | refine Rn.block hc ?_ | refine Rn.inBlock hc ?_ | refine Rn.scope hc ?_ | refine Rn.inScope hc ?_))
    refine Rn.reg hc rfl ?_
    simp only [zAY,zAU,zAT,sp_n,Nat.reduceLT,ne_eq,Nat.reduceEqDiff,zNf,gd,zAX,rops,fx,zOi,zEl,hn,s7]
    (repeat (first | refine Rn.seq hc ?_ | refine Rn.skip hc ?_ | refine Rn.block hc ?_ | refine Rn.inBlock hc ?_ | refine Rn.scope hc ?_ | refine Rn.inScope hc ?_))
    refine Rn.ret (zAO rfl ⟨wa,?_,hA0,hg.mono hx1.next⟩)
    simp only [zAU,sp_n,Nat.reduceLT,hn]
end Go.Proofs.Ytdaljohmfnfgiaa
namespace Go.Proofs.Ytdaljohmfnfgiaa
open Go Go.RowKit Go.Proofs.Ytdaljohmfnfgiaa.Canon
set_option maxRecDepth 20000
theorem Wrt.mono {A : AHeap} {a : Option Addr} {lo lo' hi n : Nat} (h : Wrt A a lo hi n) (hl : lo' ≤ lo) : Wrt A a lo' hi n := fun hpos => by
  obtain ⟨b,o,c,t,f,g,e,h1,h2,h3⟩ := h hpos
  exact ⟨b,o,c,t,f,g,e,h1,⟨Nat.le_trans hl h2.1,h2.2⟩,h3⟩
end Go.Proofs.Ytdaljohmfnfgiaa
namespace Go.Proofs.Ytdaljohmfnfgiaa
open Go Go.RowKit Go.Proofs.Ytdaljohmfnfgiaa.Canon
set_option maxRecDepth 20000
theorem Tld.fin {A A4 A5 : AHeap} {e m : Int} {s : Nat → Int} {w : Value} {b : Nat} (hx04 : Nx A.next A A4) (hb : A.next ≤ b) (hb4 : b < A4.next) (hl : Canon.look A4.objs b = some ⟨.cells #[.int .i64 0,.slice none 0 0,.slice none 0 0] 24,false,0⟩) (h : Tld A4 e m s w A5) :
    ∃ mm n1 n2 ee p1 c1 p2 c2,w = .tuple #[.agg #[.int .i64 mm,.slice p1 n1 c1,.slice p2 n2 c2],.int .i64 ee] ∧ ∃ D,sts A5 b 0 [.int .i64 mm,.slice p1 n1 c1,.slice p2 n2 c2] = some D ∧ cl D b 0 = some (.int .i64 mm) ∧ cl D b 1 = some (.slice p1 n1 c1) ∧ cl D b 2 = some (.slice p2 n2 c2) ∧ (∀ b',b' ≠ b → Canon.look D.objs b' = Canon.look A5.objs b') ∧ Tld A e m s (.tuple #[.agg #[.int .i64 mm,.slice p1 n1 c1,.slice p2 n2 c2],.int .i64 ee]) D := by
  obtain ⟨hx5,mm,L1,L2,ee,p1,c1,p2,c2,hT,rfl,i1,i2,w1,w2,s1,s2,k1,k2⟩ := h
  obtain ⟨D,q1,q2,q3,q4,g0,g1,g2⟩ := res_put hl hb4 hx5 (v0 := .int .i64 mm) (v1 := .slice p1 L1.length c1) (v2 := .slice p2 L2.length c2) rfl
  obtain ⟨j1,j2⟩ := Tld.put (c1 := c1) (c2 := c2) (D := D) hx04.next hb4 hb hT i1 i2 q2 q4
  refine ⟨mm,L1.length,L2.length,ee,p1,c1,p2,c2,rfl,D,q1,g0,g1,g2,q4,⟨by have := hx04.next; have := hx5.next; omega,q3,fun b' hb' => by rw [q4 _ (by omega),hx5.keep _ (by have := hx04.next; omega),hx04.keep _ hb']⟩,mm,L1,L2,ee,p1,c1,p2,c2,hT,rfl,j1.mono hx04.next (Nat.le_refl _),j2.mono hx04.next (Nat.le_refl _),(w1.off q2 hb4 q4).mono hx04.next,(w2.off q2 hb4 q4).mono hx04.next,(s1.ext fun b' hb' => .inr (q4 b' (by omega))).mono hx04.next,(s2.ext fun b' hb' => .inr (q4 b' (by omega))).mono hx04.next,k1,k2⟩
theorem TldR.fin {A A4 A5 : AHeap} {e m : Int} {s : Nat → Int} {w : Value} {b : Nat} (hx04 : Nx A.next A A4) (hb : A.next ≤ b) (hb4 : b < A4.next) (hl : Canon.look A4.objs b = some ⟨.cells #[.int .i64 0,.slice none 0 0,.slice none 0 0] 24,false,0⟩) (h : TldR A4 e m s w A5) :
    ∃ mm n1 n2 ee p1 c1 p2 c2,w = .tuple #[.agg #[.int .i64 mm,.slice p1 n1 c1,.slice p2 n2 c2],.int .i64 ee] ∧ ∃ D,sts A5 b 0 [.int .i64 mm,.slice p1 n1 c1,.slice p2 n2 c2] = some D ∧ cl D b 0 = some (.int .i64 mm) ∧ cl D b 1 = some (.slice p1 n1 c1) ∧ cl D b 2 = some (.slice p2 n2 c2) ∧ (∀ b',b' ≠ b → Canon.look D.objs b' = Canon.look A5.objs b') ∧ TldR A e m s (.tuple #[.agg #[.int .i64 mm,.slice p1 n1 c1,.slice p2 n2 c2],.int .i64 ee]) D := by
  obtain ⟨hx5,mm,L1,L2,ee,p1,c1,p2,c2,hT,rfl,i1,i2⟩ := h
  obtain ⟨D,q1,q2,q3,q4,g0,g1,g2⟩ := res_put hl hb4 hx5 (v0 := .int .i64 mm) (v1 := .slice p1 L1.length c1) (v2 := .slice p2 L2.length c2) rfl
  obtain ⟨j1,j2⟩ := Tld.put (c1 := c1) (c2 := c2) (D := D) hx04.next hb4 hb hT i1 i2 q2 q4
  refine ⟨mm,L1.length,L2.length,ee,p1,c1,p2,c2,rfl,D,q1,g0,g1,g2,q4,⟨by have := hx04.next; have := hx5.next; omega,q3,fun b' hb' => by rw [q4 _ (by omega),hx5.keep _ (by have := hx04.next; omega),hx04.keep _ hb']⟩,mm,L1,L2,ee,p1,c1,p2,c2,hT,rfl,j1.mono hx04.next (Nat.le_refl _),j2.mono hx04.next (Nat.le_refl _)⟩
theorem err_fin {A A4 : AHeap} {b : Nat} (hx04 : Nx A.next A A4) (hb : A.next ≤ b) (hb4 : b < A4.next) (hl : Canon.look A4.objs b = some ⟨.cells #[.int .i64 0,.slice none 0 0,.slice none 0 0] 24,false,0⟩) :
    ∃ D,sts A4 b 0 [.int .i64 0,.slice none 0 0,.slice none 0 0] = some D ∧ cl D b 0 = some (.int .i64 0) ∧ cl D b 1 = some (.slice none 0 0) ∧ cl D b 2 = some (.slice none 0 0) ∧ Nx A.next A D := by
  obtain ⟨D,q1,q2,q3,q4,g0,g1,g2⟩ := res_put hl hb4 (Nx.refl hx04.wf A4.next) (v0 := .int .i64 0) (v1 := .slice none 0 0) (v2 := .slice none 0 0) rfl
  exact ⟨D,q1,g0,g1,g2,⟨by have := hx04.next; omega,q3,fun b' hb' => by rw [q4 _ (by omega),hx04.keep _ hb']⟩⟩
end Go.Proofs.Ytdaljohmfnfgiaa
namespace Go.Proofs.Ytdaljohmfnfgiaa
open Go Go.RowKit Go.Proofs.Ytdaljohmfnfgiaa.Canon
set_option maxRecDepth 20000
end Go.Proofs.Ytdaljohmfnfgiaa
namespace Go.Proofs.Ytdaljohmfnfgiaa
open Go Go.RowKit Go.Proofs.Ytdaljohmfnfgiaa.Canon
set_option maxRecDepth 20000
end Go.Proofs.Ytdaljohmfnfgiaa
namespace Go.Proofs.Ytdaljohmfnfgiaa
open Go Go.RowKit Go.Proofs.Ytdaljohmfnfgiaa.Canon
set_option maxRecDepth 20000
theorem redS_snoc (E : Nat → Int) (i : Nat) : redS E i ++ [E i] = redS E (i + 1) := by simp [redS,List.range_succ]
end Go.Proofs.Ytdaljohmfnfgiaa
namespace Go.Proofs.Ytdaljohmfnfgiaa
open Go Go.RowKit Go.Proofs.Ytdaljohmfnfgiaa.Canon
set_option maxRecDepth 20000
end Go.Proofs.Ytdaljohmfnfgiaa
namespace Go.Proofs.Ytdaljohmfnfgiaa
open Go Go.RowKit Go.Proofs.Ytdaljohmfnfgiaa.Canon
set_option maxRecDepth 20000
def restOf : Code → Code
  | .seq _ b => b
  | c => c
def restN : Nat → Code → Code
  | 0,c => c
  | n + 1,c => restN n (restOf c)
theorem fbal24 {ρ : Operand → Value} {d : Option Tmp} {ty : TypeId} {pos : String} {af : Array Edge} {gu : Option (Nat × Bool)} : fobj Try.prog ρ ⟨d,.alloc 24,ty,pos,af,gu⟩ = some ⟨[.int .i64 0,.slice none 0 0,.slice none 0 0],24,.ptr⟩ := by
  simp only [fobj,ze24]
  rfl
theorem place_al {A : AHeap} (hw : WF A) {b : Nat} (hlt : b < A.next) (hn : Canon.look A.objs b = none) (c : List Value) (t : TypeId) :
    ∃ B,place b ⟨c,t,.ptr⟩ A = some (.pointer (some ⟨b,0,none⟩),B) ∧ WF B ∧ B.next = A.next ∧ Canon.look B.objs b = some ⟨.cells ⟨c⟩ t,false,0⟩ ∧ ∀ b',b' ≠ b → Canon.look B.objs b' = Canon.look A.objs b' := by
  have hp : place b ⟨c,t,.ptr⟩ A = some (.pointer (some ⟨b,0,none⟩),⟨A.next,zDU b ⟨.cells ⟨c⟩ t,false,0⟩ A.objs⟩) := by
    unfold place
    simp only [FK.isNo,hn]
    rfl
  have hx := (Nx.refl hw 0).cons (Nat.zero_le b) hlt ⟨.cells ⟨c⟩ t,false,0⟩
  exact ⟨_,hp,hx.wf,rfl,zDW _ _ _,fun b' hb' => zCU hb'⟩
structure Has (B : AHeap) (b : Nat) (x : Las) : Prop where
  c0 : cl B b 0 = some (.int .i64 x.m)
  c1 : cl B b 1 = some (.slice x.sa x.st.length x.sc)
  c2 : cl B b 2 = some (.slice x.ra x.ro.length x.rc)
  ok : x.ok B
  lt : b < B.next
  ls : x.st.length ≤ 70
  lr : x.ro.length ≤ 130
  cs : x.st.length ≤ x.sc
  cr : x.ro.length ≤ x.rc
  s1 : 0 < x.st.length → Sl B x.sa 0
  s2 : 0 < x.ro.length → Sl B x.ra 0
theorem Has.nx {B C : AHeap} {b : Nat} {x : Las} (h : Has B b x) (hw : WF B) (k : Nx B.next B C) : Has C b x :=
  { c0 := (k.cl h.lt 0).trans h.c0,c1 := (k.cl h.lt 1).trans h.c1,c2 := (k.cl h.lt 2).trans h.c2,ok := h.ok.nx k,lt := Nat.lt_of_lt_of_le h.lt k.next,ls := h.ls,lr := h.lr,cs := h.cs,cr := h.cr,s1 := fun q => (h.s1 q).nx hw k,s2 := fun q => (h.s2 q).nx hw k }
end Go.Proofs.Ytdaljohmfnfgiaa
namespace Go.Proofs.Ytdaljohmfnfgiaa
open Go Go.RowKit Go.Proofs.Ytdaljohmfnfgiaa.Canon
set_option maxRecDepth 20000
theorem same_true {A : AHeap} (hw : WF A) {x x' : Las} (hx : x.ok A) (hx' : x'.ok A) (t : Tw x' x) : Con Try.prog 26 [x'.v,x.v] A (fun v A1 => v = .bool true ∧ Nx A.next A A1) := by
  obtain ⟨a1,a2,a3,a4⟩ := hx
  obtain ⟨b1,b2,b3,b4⟩ := hx'
  refine Con.mono (same_lasso hw b1 b2 a1 a2 b3 b4 a3 a4) fun v A1 h => ⟨?_,h.2⟩
  rw [h.1,t.1,t.2.1,t.2.2]
  simp
end Go.Proofs.Ytdaljohmfnfgiaa
namespace Go.Proofs.Ytdaljohmfnfgiaa
open Go Go.RowKit Go.Proofs.Ytdaljohmfnfgiaa.Canon
set_option maxRecDepth 20000
def Arg (A : AHeap) (sa : Option Addr) (sn sc : Nat) (ra : Option Addr) (rn rc : Nat) : Prop := sn ≤ 70 → rn ≤ 130 → ∃ st ro : List Int,st.length = sn ∧ ro.length = rn ∧ Ints A sa 0 A.next st ∧ Ints A ra 0 A.next ro ∧ sn ≤ sc ∧ rn ≤ rc ∧ (0 < st.length → Sl A sa 0) ∧ (0 < ro.length → Sl A ra 0)
theorem sl_in {W : World} {z : Nat} {A : AHeap} (hA : In W z A) {a : Option Addr} {l : List Int} (h : Ints A a 0 A.next l) (hpos : 0 < l.length) : Sl A a 0 := fun x hx => by
  obtain ⟨b,o,e,_,_,hc⟩ := h 0 hpos
  rw [hx] at e
  cases e
  obtain ⟨_,c,t,f,g,zz,hlk,_,_⟩ := AHeap.cell_eq hc
  have hlk' : Canon.look A.objs b = some ⟨.cells c t f,g,zz⟩ := hlk
  have hl2 := hlk'
  rw [hA.look'] at hl2
  split at hl2
  · obtain ⟨c',t',f',_,e2⟩ := roOf_some hl2
    cases e2
    exact ⟨rfl,Nat.zero_le _,_,hlk',.inl rfl⟩
  · cases hl2
end Go.Proofs.Ytdaljohmfnfgiaa
namespace Go.Proofs.Ytdaljohmfnfgiaa
open Go Go.RowKit Go.Proofs.Ytdaljohmfnfgiaa.Canon
set_option maxRecDepth 20000
structure Off (lo hi : Nat) (A B : AHeap) : Prop where
  next : A.next ≤ B.next
  wf : WF B
  keep : ∀ b,b < A.next → (b < lo ∨ hi ≤ b) → Canon.look B.objs b = Canon.look A.objs b
theorem Wrt.stay {A B : AHeap} {a : Option Addr} {lo hi n : Nat} (h : Wrt A a lo hi n) (k : ∀ b,lo ≤ b → b < hi → Canon.look B.objs b = Canon.look A.objs b) : Wrt B a lo hi n := fun hpos => by
  obtain ⟨b,o,c,t,f,g,e,h1,h2,h3,h4,h5⟩ := h hpos
  exact ⟨b,o,c,t,f,g,e,h1,h2,by rw [k b h2.1 h2.2]; exact h3,h4,h5⟩
theorem spoil_off {A : AHeap} (hw : WF A) {m : Int} {sa ra : Option Addr} {sn sc rn rc lo hi : Nat} (hhi : hi ≤ A.next) (h1 : Wrt A sa lo hi sn) (h2 : Wrt A ra lo hi rn) (hrn : rn < 4611686018427387904) :
    Con Try.prog 27 [.agg #[.int .i64 m,.slice sa sn sc,.slice ra rn rc]] A (fun _ A1 => Off lo hi A A1) := by
  refine zAF hc Try.func27 rfl (Nat.le_of_ble_eq_true rfl) ?_
  obtain ⟨A1,e1,hx1,hn1,b0,b1,b2⟩ := box3 hw (.int .i64 m) (.slice sa sn sc) (.slice ra rn rc) 24
  have k1 : Wrt A1 sa lo hi sn := fun hp => by
    obtain ⟨b,o,c,t,f,g,e,q1,q2,q3,q4,q5⟩ := h1 hp
    exact ⟨b,o,c,t,f,g,e,q1,q2,by rw [hx1.keep _ (hw _ _ q3)]; exact q3,q4,q5⟩
  have k2 : Wrt A1 ra lo hi rn := fun hp => by
    obtain ⟨b,o,c,t,f,g,e,q1,q2,q3,q4,q5⟩ := h2 hp
    exact ⟨b,o,c,t,f,g,e,q1,q2,by rw [hx1.keep _ (hw _ _ q3)]; exact q3,q4,q5⟩
  rw [s_in1]
  (repeat (first | refine Rn.seq hc ?_ | refine Rn.skip hc ?_ | refine Rn.block hc ?_ | refine Rn.inBlock hc ?_ | refine Rn.scope hc ?_ | refine Rn.inScope hc ?_))
  refine Rn.reg hc rfl ?_
  simp only [zAY,zAU,Nat.reduceLT,gd,zAX,rops,fx,zOi,zEl,Value.cells,show Try.f27.ntmps = 16 from rfl,e1]
  (repeat (first | refine Rn.seq hc ?_ | refine Rn.skip hc ?_ | refine Rn.block hc ?_ | refine Rn.inBlock hc ?_ | refine Rn.scope hc ?_ | refine Rn.inScope hc ?_))
  refine Rn.region hc fun K hK => ?_
  refine Wo.run hc 2 rfl rfl rfl ?_
  simp (maxSteps := 2000000) only [List.drop_zero,List.take_succ_cons,List.take_zero,zAY,zAU,sp_n,Nat.reduceLT,gd,zAX,rops,fx,ld,fad,zAR,Nat.zero_add,Option.some.injEq,exists_eq_left',tk22,zBO,b1]
  refine Wo.clear (x := 4) (c := sc) (by rfl) (by rfl) (by rfl) hx1.wf k1 (by simp only [zAU,sp_n,Nat.reduceLT]) fun B hB => ?_
  refine Wo.done hc rfl (hK _ _ ?_)
  clear hK
  (repeat (first | refine Rn.seq hc ?_ | refine Rn.skip hc ?_ | refine Rn.block hc ?_ | refine Rn.inBlock hc ?_ | refine Rn.scope hc ?_ | refine Rn.inScope hc ?_))
  have c2 : cl B A.next 2 = some (.slice ra rn rc) := (zBW (hB.keep _ (.inr hhi))).trans b2
  refine Rn.reg hc rfl ?_
  simp only [zAY,zAS,zAU,zAT,sp_n,zAK,Nat.reduceLT,ne_eq,Nat.reduceEqDiff,zNf,gd,zAX,rops,fx,ld,fad,lng,zAR,Nat.zero_add,zOi,zEl,tk22,zBG,un22,c2]
  (repeat (first | refine Rn.seq hc ?_ | refine Rn.skip hc ?_ | refine Rn.block hc ?_ | refine Rn.inBlock hc ?_ | refine Rn.scope hc ?_ | refine Rn.inScope hc ?_))
  refine Rn.zDY hc (I := fun k s M => ∃ i,i ≤ rn ∧ k = rn - i ∧ Szs lo hi A1 M ∧ s.n = 16 ∧ sget s 1 = .pointer (some ⟨A.next,0,none⟩) ∧ sget s 7 = .int .i64 (rn : Int) ∧ sget s 8 = .int .i64 (i : Int))
    (n := rn) ⟨0,by omega,rfl,hB,by simp only [sp_n],by simp only [zAU,zAT,sp_n,Nat.reduceLT,ne_eq,Nat.reduceEqDiff,zNf],by simp only [zAU,zAT,sp_n,Nat.reduceLT,ne_eq,Nat.reduceEqDiff,zNf],by simp only [zAU,sp_n,Nat.reduceLT]; rfl⟩ ?_
  rintro k s M ⟨i,hil,rfl,hM,hn,s1,s7,s8⟩ ih
  have c2 : cl M A.next 2 = some (.slice ra rn rc) := (zBW (hM.keep _ (.inr hhi))).trans b2
  (repeat (first | refine Rn.seq hc ?_ | refine Rn.skip hc ?_ | refine Rn.block hc ?_ | refine Rn.inBlock hc ?_ | refine Rn.scope hc ?_ | refine Rn.inScope hc ?_))
  by_cases hlt : i < rn
  · have hd : decide ((i : Int) < (rn : Int)) = true := decide_eq_true (by omega)
    refine Rn.reg hc rfl ?_
    simp only [zAY,gd,zAX,rops,fx,zAN,zOi,zEl,s7,s8,hd]
    (repeat (first | refine Rn.seq hc ?_ | refine Rn.skip hc ?_ | refine Rn.block hc ?_ | refine Rn.inBlock hc ?_ | refine Rn.scope hc ?_ | refine Rn.inScope hc ?_))
    refine Rn.zAM hc rfl ?_
    simp only [zAY,zAU,Nat.reduceLT,Value.bool.injEq,zEl,hn]
    (repeat (first | refine Rn.seq hc ?_ | refine Rn.skip hc ?_ | refine Rn.block hc ?_ | refine Rn.inBlock hc ?_ | refine Rn.scope hc ?_ | refine Rn.inScope hc ?_))
    refine Rn.reg hc rfl ?_
    simp only [zAY,zAU,zAT,sp_n,Nat.reduceLT,ne_eq,Nat.reduceEqDiff,zNf,gd,zAX,rops,fx,zOi,zEl,hn,s8]
    (repeat (first | refine Rn.seq hc ?_ | refine Rn.skip hc ?_ | refine Rn.block hc ?_ | refine Rn.inBlock hc ?_ | refine Rn.scope hc ?_ | refine Rn.inScope hc ?_))
    obtain ⟨b,o,c,t,f,g,e,rfl,q2,q3,q4,q5⟩ := (k2.szs hM) (by omega)
    obtain ⟨M2,u1,u2⟩ := st1_upd (o := o + i) (v := .int .i64 (-7)) q3 q4 (by omega) rfl
    have hM2 := hM.trans (Szs.of_upd hM.wf q3 q2 u2 (by simp))
    refine Rn.reg hc rfl ?_
    simp only [zAY,zAS,zAU,zAT,sp_n,zAK,Nat.reduceLT,ne_eq,Nat.reduceEqDiff,zNf,gd,zAX,rops,fx,ld,str,fad,idx,zAR,Nat.zero_add,zOi,zEl,Nat.mul_one,tk3,tk22,zBG,eo22,hn,s1,c2,zAQ hlt,u1]
    (repeat (first | refine Rn.seq hc ?_ | refine Rn.skip hc ?_ | refine Rn.block hc ?_ | refine Rn.inBlock hc ?_ | refine Rn.scope hc ?_ | refine Rn.inScope hc ?_))
    refine Rn.reg hc rfl ?_
    simp only [zAY,zAS,zAU,zAT,sp_n,Nat.reduceLT,ne_eq,Nat.reduceEqDiff,zNf,gd,zAX,rops,fx,zAH,zOi,zEl,hn,s8,zBZ (show i < 9223372036854775807 by omega)]
    (repeat (first | refine Rn.seq hc ?_ | refine Rn.skip hc ?_ | refine Rn.block hc ?_ | refine Rn.inBlock hc ?_ | refine Rn.scope hc ?_ | refine Rn.inScope hc ?_))
    exact ih _ _ _ (by omega) ⟨i + 1,by omega,rfl,hM2,by simp only [sp_n,hn],by simp only [zAT,ne_eq,Nat.reduceEqDiff,zNf,s1],by simp only [zAT,ne_eq,Nat.reduceEqDiff,zNf,s7],by simp only [zAU,sp_n,Nat.reduceLT,hn]⟩
  · have hd : decide ((i : Int) < (rn : Int)) = false := decide_eq_false (by omega)
    clear ih
    refine Rn.reg hc rfl ?_
    simp only [zAY,gd,zAX,rops,fx,zAN,zOi,zEl,s7,s8,hd]
    (repeat (first | refine Rn.seq hc ?_ | refine Rn.skip hc ?_ | refine Rn.block hc ?_ | refine Rn.inBlock hc ?_ | refine Rn.scope hc ?_ | refine Rn.inScope hc ?_))
    refine Rn.zAM hc rfl ?_
    simp only [zAY,zAU,Nat.reduceLT,Value.bool.injEq,zEl,hn]
    (repeat (first | refine Rn.seq hc ?_ | refine Rn.skip hc ?_ | refine Rn.block hc ?_ | refine Rn.inBlock hc ?_ | refine Rn.scope hc ?_ | refine Rn.inScope hc ?_))
    refine Rn.exit hc rfl ?_
    (repeat (first | refine Rn.seq hc ?_ | refine Rn.skip hc ?_ | refine Rn.block hc ?_ | refine Rn.inBlock hc ?_ | refine Rn.scope hc ?_ | refine Rn.inScope hc ?_))
    refine Rn.fall (endQ_none rfl (.inl rfl) ⟨by have := hM.next; omega,hM.wf,fun b hb hb2 => ?_⟩)
    rw [hM.keep _ hb2]
    exact hx1.keep _ hb
structure Pr (lo hi : Nat) (D : AHeap) (b b' : Nat) (y y' : Las) : Prop where
  c0 : cl D b 0 = some (.int .i64 y.m)
  c1 : cl D b 1 = some (.slice y.sa y.st.length y.sc)
  c2 : cl D b 2 = some (.slice y.ra y.ro.length y.rc)
  d0 : cl D b' 0 = some (.int .i64 y'.m)
  d1 : cl D b' 1 = some (.slice y'.sa y'.st.length y'.sc)
  d2 : cl D b' 2 = some (.slice y'.ra y'.ro.length y'.rc)
  ok : y.ok D
  ok' : y'.ok D
  lt : b < D.next
  lt' : b' < D.next
  hb : hi ≤ b
  tw : Tw y y'
  w1 : Wrt D y.sa lo hi y.st.length
  w2 : Wrt D y.ra lo hi y.ro.length
theorem Pr.nx {lo hi : Nat} {D E : AHeap} {b b' : Nat} {y y' : Las} (h : Pr lo hi D b b' y y') (k : Nx D.next D E) : Pr lo hi E b b' y y' :=
  { c0 := (k.cl h.lt 0).trans h.c0,c1 := (k.cl h.lt 1).trans h.c1,c2 := (k.cl h.lt 2).trans h.c2,d0 := (k.cl h.lt' 0).trans h.d0,d1 := (k.cl h.lt' 1).trans h.d1,d2 := (k.cl h.lt' 2).trans h.d2,ok := h.ok.nx k,ok' := h.ok'.nx k,lt := Nat.lt_of_lt_of_le h.lt k.next,lt' := Nat.lt_of_lt_of_le h.lt' k.next,hb := h.hb,tw := h.tw,
    w1 := h.w1.stay fun b'' _ h2 => k.keep _ (by have := h.hb; have := h.lt; omega),w2 := h.w2.stay fun b'' _ h2 => k.keep _ (by have := h.hb; have := h.lt; omega) }
theorem pair_of {C D1 D2 D3 : AHeap} {e m : Int} {s : Nat → Int} {v' : Value} {mm ee : Int} {L1 L2 : List Int} {p1 p2 : Option Addr} {c1 c2 : Nat} (hD1 : Nx C.next C D1) (hT : TP e m s mm L1 L2 ee)
    (i1 : Ints D1 p1 C.next D1.next L1) (i2 : Ints D1 p2 C.next D1.next L2) (w1 : Wrt D1 p1 C.next D1.next L1.length) (w2 : Wrt D1 p2 C.next D1.next L2.length)
    (hx2 : Nx D1.next D1 D2) (hn2 : D2.next = D1.next + 1) (e0 : cl D2 D1.next 0 = some (.int .i64 mm)) (e1 : cl D2 D1.next 1 = some (.slice p1 L1.length c1)) (e2 : cl D2 D1.next 2 = some (.slice p2 L2.length c2))
    (hR : TldR D2 e m s v' D3) :
    ∃ p3 c3 p4 c4,v' = .tuple #[.agg #[.int .i64 mm,.slice p3 L1.length c3,.slice p4 L2.length c4],.int .i64 ee] ∧ Nx D2.next D2 D3 ∧
      ∀ D4,Nx D3.next D3 D4 → D4.next = D3.next + 1 → cl D4 D3.next 0 = some (.int .i64 mm) → cl D4 D3.next 1 = some (.slice p3 L1.length c3) → cl D4 D3.next 2 = some (.slice p4 L2.length c4) →
        Pr C.next D1.next D4 D1.next D3.next ⟨mm,p1,c1,L1,p2,c2,L2⟩ ⟨mm,p3,c3,L1,p4,c4,L2⟩ := by
  obtain ⟨hD3,mm',L1',L2',ee',p3,c3,p4,c4,hT',rfl,i3,i4⟩ := hR
  obtain ⟨rfl,rfl,rfl,rfl⟩ := hT.uniq hT'
  obtain ⟨hl1,hl2⟩ := hT.len
  refine ⟨p3,c3,p4,c4,rfl,hD3,fun D4 hx4 hn4 f0 f1 f2 => ?_⟩
  have h24 : Nx D2.next D2 D4 := hD3.trans (hx4.le hD3.next)
  have h14 : Nx D1.next D1 D4 := hx2.trans (h24.le hx2.next)
  have n1 := h24.next
  have n2 := hD3.next
  have n3 := hD1.next
  have n12 : D1.next < D2.next := by omega
  exact
    { c0 := (h24.cl n12 0).trans e0,c1 := (h24.cl n12 1).trans e1,c2 := (h24.cl n12 2).trans e2,d0 := f0,d1 := f1,d2 := f2,
      ok := ⟨(i1.nx h14 (Nat.le_refl _)).mono (Nat.zero_le _) h14.next,(i2.nx h14 (Nat.le_refl _)).mono (Nat.zero_le _) h14.next,show L1.length < _ by omega,show L2.length < _ by omega⟩,
      ok' := ⟨(i3.nx hx4 (Nat.le_refl _)).mono (Nat.zero_le _) hx4.next,(i4.nx hx4 (Nat.le_refl _)).mono (Nat.zero_le _) hx4.next,show L1.length < _ by omega,show L2.length < _ by omega⟩,
      lt := show D1.next < D4.next by omega,lt' := show D3.next < D4.next by omega,hb := Nat.le_refl _,tw := ⟨rfl,rfl,rfl⟩,
      w1 := w1.stay fun b _ h => h14.keep _ h,w2 := w2.stay fun b _ h => h14.keep _ h }
end Go.Proofs.Ytdaljohmfnfgiaa
namespace Go.Proofs.Ytdaljohmfnfgiaa
open Go Go.RowKit Go.Proofs.Ytdaljohmfnfgiaa.Canon
theorem lcmN_eq (a b : Nat) : lcmN a b = Nat.lcm a b := by
  unfold lcmN Nat.lcm
  rw [Nat.div_mul_right_comm (Nat.gcd_dvd_left a b)]
def lcmF (f : Nat → Nat) : Nat → Nat
  | 0 => 1
  | i + 1 => lcmN (lcmF f i) (f i)
def maxF (f : Nat → Nat) : Nat → Nat
  | 0 => 0
  | i + 1 => max (maxF f i) (f i)
theorem lcmF_pos {f : Nat → Nat} {k : Nat} (h : ∀ i,i < k → 0 < f i) : ∀ {i},i ≤ k → 0 < lcmF f i
  | 0,_ => Nat.one_pos
  | i + 1,hi => by
    rw [lcmF,lcmN_eq]
    exact Nat.lcm_pos (lcmF_pos h (by omega)) (h i (by omega))
theorem lcmF_dvd {f : Nat → Nat} : ∀ {i j : Nat},j < i → f j ∣ lcmF f i
  | 0,_,h => by omega
  | i + 1,j,h => by
    rw [lcmF,lcmN_eq]
    by_cases hj : j = i
    · subst hj; exact Nat.dvd_lcm_right _ _
    · exact Nat.dvd_trans (lcmF_dvd (by omega)) (Nat.dvd_lcm_left _ _)
theorem lcmF_least {f : Nat → Nat} {m : Nat} : ∀ {i : Nat},(∀ j,j < i → f j ∣ m) → lcmF f i ∣ m
  | 0,_ => Nat.one_dvd _
  | i + 1,h => by
    rw [lcmF,lcmN_eq]
    exact Nat.lcm_dvd (lcmF_least fun j hj => h j (by omega)) (h i (by omega))
theorem maxF_ge {f : Nat → Nat} : ∀ {i j : Nat},j < i → f j ≤ maxF f i
  | 0,_,h => by omega
  | i + 1,j,h => by
    rw [maxF]
    by_cases hj : j = i
    · subst hj; omega
    · have := maxF_ge (f := f) (i := i) (j := j) (by omega)
      omega
def wov (l : List Las) (n : Nat) : Int := (l.getD (n % l.length) zBI).s (n / l.length)
theorem wov_per {l : List Las} (h0 : 0 < l.length) {N p : Nat} (h : ∀ i,i < l.length → Per (l.getD i zBI).s N p) : Per (wov l) (N * l.length) (p * l.length) :=
  ⟨Nat.mul_pos (h 0 h0).pos h0,fun n hn => by
    have h1 : n % l.length < l.length := Nat.mod_lt _ h0
    have h2 : N ≤ n / l.length := (Nat.le_div_iff_mul_le h0).2 hn
    unfold wov
    rw [Nat.add_mul_mod_self_right,Nat.add_mul_div_right _ _ h0]
    exact (h _ h1).per _ h2⟩
def RedL (l : List Las) (fa fp : Nat → Nat) : Prop := ∀ i,i < l.length → Red (l.getD i zBI).s (fa i) (fp i) ∧ fa i ≤ (l.getD i zBI).st.length ∧ fp i ≤ (l.getD i zBI).ro.length
theorem RedL.pos {l : List Las} {fa fp : Nat → Nat} (h : RedL l fa fp) : ∀ i,i < l.length → 0 < fp i := fun i hi => (h i hi).1.per.pos
theorem RedL.per {l : List Las} {fa fp : Nat → Nat} (h : RedL l fa fp) {N : Nat} (h0 : 0 < l.length) (hN : maxF fa l.length ≤ N) : Per (wov l) (N * l.length) (lcmF fp l.length * l.length) :=
  wov_per h0 fun i hi => by
    have h1 := (h i hi).1.per.mono (Nat.le_trans (maxF_ge hi) hN)
    obtain ⟨q,hq⟩ := lcmF_dvd (f := fp) hi
    have hp := lcmF_pos h.pos (Nat.le_refl _)
    rw [hq] at hp ⊢
    rw [Nat.mul_comm]
    exact h1.mul (Nat.pos_of_ne_zero fun h0 => by subst h0; simp at hp)
theorem tw_s {x y : Las} (h : Tw x y) : x.s = y.s := by
  unfold Las.s
  rw [h.2.1,h.2.2]
end Go.Proofs.Ytdaljohmfnfgiaa
namespace Go.Proofs.Ytdaljohmfnfgiaa
open Go Go.RowKit Go.Proofs.Ytdaljohmfnfgiaa.Canon
set_option maxRecDepth 20000
theorem gcd_run {A : AHeap} (hw : WF A) {a b : Nat} (ha : a < 4611686018427387904) (hb : b < 4611686018427387904) : Con Try.prog 108 [.int .i64 (a : Int),.int .i64 (b : Int)] A (fun v A1 => v = .int .i64 (Nat.gcd a b : Nat) ∧ Nx A.next A A1) := by
  refine zAF hc Try.func108 rfl (Nat.le_of_ble_eq_true rfl) ?_
  rw [s_in2]
  (repeat (first | refine Rn.seq hc ?_ | refine Rn.skip hc ?_ | refine Rn.block hc ?_ | refine Rn.inBlock hc ?_ | refine Rn.scope hc ?_ | refine Rn.inScope hc ?_))
  refine Rn.reg hc rfl ?_
  simp only [zAS,gd,zAX,rops,fx,zOi,zEl,show Try.f108.ntmps = 12 from rfl]
  (repeat (first | refine Rn.seq hc ?_ | refine Rn.skip hc ?_ | refine Rn.block hc ?_ | refine Rn.inBlock hc ?_ | refine Rn.scope hc ?_ | refine Rn.inScope hc ?_))
  refine Rn.zDY hc (I := fun k s A' => ∃ x y : Nat,k = y ∧ x < 4611686018427387904 ∧ y < 4611686018427387904 ∧ Nat.gcd x y = Nat.gcd a b ∧ Nx A.next A A' ∧ s.n = 12 ∧ sget s 0 = .int .i64 (x : Int) ∧ sget s 1 = .int .i64 (y : Int))
    (n := b) ⟨a,b,rfl,ha,hb,rfl,Nx.refl hw _,by simp only [sp_n],by simp only [zAU,zAT,Nat.reduceLT,ne_eq,Nat.reduceEqDiff,zNf],by simp only [zAU,zAT,sp_n,Nat.reduceLT,ne_eq,Nat.reduceEqDiff,zNf]⟩ ?_
  rintro k s A' ⟨x,y,hky,hx',hy',hg,hA,hn,s0,s1⟩ ih
  (repeat (first | refine Rn.seq hc ?_ | refine Rn.skip hc ?_ | refine Rn.block hc ?_ | refine Rn.inBlock hc ?_ | refine Rn.scope hc ?_ | refine Rn.inScope hc ?_))
  by_cases hy0 : y = 0
  · subst hy0
    clear ih
    rw [Nat.gcd_zero_right] at hg
    refine Rn.reg hc rfl ?_
    simp only [zAY,zAS,zAU,Nat.reduceLT,gd,zAX,rops,fx,zBX,zOi,zEl,Bool.not_true,Bool.not_true,hn,s1,Int.natCast_zero,eq_self,decide_true,Bool.not_true]
    (repeat (first | refine Rn.seq hc ?_ | refine Rn.skip hc ?_ | refine Rn.block hc ?_ | refine Rn.inBlock hc ?_ | refine Rn.scope hc ?_ | refine Rn.inScope hc ?_))
    refine Rn.zAM hc rfl ?_
    simp only [zAY,zAU,sp_n,Nat.reduceLT,Value.bool.injEq,zEl,hn]
    (repeat (first | refine Rn.seq hc ?_ | refine Rn.skip hc ?_ | refine Rn.block hc ?_ | refine Rn.inBlock hc ?_ | refine Rn.scope hc ?_ | refine Rn.inScope hc ?_))
    refine Rn.exit hc rfl ?_
    (repeat (first | refine Rn.seq hc ?_ | refine Rn.skip hc ?_ | refine Rn.block hc ?_ | refine Rn.inBlock hc ?_ | refine Rn.scope hc ?_ | refine Rn.inScope hc ?_))
    refine Rn.reg hc rfl ?_
    simp only [zAY,zAU,zAT,sp_n,Nat.reduceLT,ne_eq,Nat.reduceEqDiff,zNf,gd,zAX,rops,fx,zOi,zEl,hn,s0]
    (repeat (first | refine Rn.seq hc ?_ | refine Rn.skip hc ?_ | refine Rn.block hc ?_ | refine Rn.inBlock hc ?_ | refine Rn.scope hc ?_ | refine Rn.inScope hc ?_))
    refine Rn.ret (zAO rfl ⟨?_,hA⟩)
    simp only [zAU,sp_n,Nat.reduceLT,hn,hg]
  · have hd : (!decide ((y : Int) = 0)) = true := by rw [decide_eq_false (by omega)]; rfl
    have hrem : ∀ M,bin Try.prog .rem 3 (.int .i64 (x : Int)) (.int .i64 (y : Int)) M = some (.int .i64 ((x % y : Nat) : Int),M) := fun M => by
      rw [zCS _ _ _ _ (by omega),IntWalk.rem_in _ _ (by omega)]
      rfl
    have hlt := Nat.mod_lt x (Nat.pos_of_ne_zero hy0)
    refine Rn.reg hc rfl ?_
    simp only [zAY,zAS,zAU,Nat.reduceLT,gd,zAX,rops,fx,zBX,zOi,zEl,hn,s1,hd]
    (repeat (first | refine Rn.seq hc ?_ | refine Rn.skip hc ?_ | refine Rn.block hc ?_ | refine Rn.inBlock hc ?_ | refine Rn.scope hc ?_ | refine Rn.inScope hc ?_))
    refine Rn.zAM hc rfl ?_
    simp only [zAY,zAU,sp_n,Nat.reduceLT,Value.bool.injEq,zEl,hn]
    (repeat (first | refine Rn.seq hc ?_ | refine Rn.skip hc ?_ | refine Rn.block hc ?_ | refine Rn.inBlock hc ?_ | refine Rn.scope hc ?_ | refine Rn.inScope hc ?_))
    refine Rn.zDV hc hx (by kernel_rfl) (by rfl) (by kernel_rfl) ?_ ?_
    · simp only [rdV,VQ.int,zAY,zAU,zAT,sp_n,Nat.reduceLT,ne_eq,Nat.reduceEqDiff,zNf,gd,zAX,fx,Nat.zero_add,Nat.reduceAdd,and_self,hn,s0,s1,hrem,List.length_cons,List.length_nil]
    simp only [zAY,zAU,zAT,sp_n,Nat.reduceLT,ne_eq,Nat.reduceEqDiff,zNf,gd,zAX,rops,fx,Nat.zero_add,zOi,zEl,Nat.reduceAdd,hn,s0,s1,hrem,List.length_cons,List.length_nil]
    (repeat (first | refine Rn.seq hc ?_ | refine Rn.skip hc ?_ | refine Rn.block hc ?_ | refine Rn.inBlock hc ?_ | refine Rn.scope hc ?_ | refine Rn.inScope hc ?_))
    refine ih _ _ _ (by rw [hky]; exact hlt) ⟨y,x % y,rfl,hy',by omega,?_,Nx.bump hA _,by simp only [sp_n,hn],by simp only [zAU,zAT,sp_n,Nat.reduceLT,ne_eq,Nat.reduceEqDiff,zNf,hn],by simp only [zAU,sp_n,Nat.reduceLT,hn]⟩
    rw [← hg,Nat.gcd_comm x y,Nat.gcd_rec y x,Nat.gcd_comm]
theorem quo_nat {x d : Nat} (hd : 0 < d) (hx : x < 4611686018427387904) (M : AHeap) : bin Try.prog .quo 3 (.int .i64 (x : Int)) (.int .i64 (d : Int)) M = some (.int .i64 ((x / d : Nat) : Int),M) := by
  have hle := Nat.div_le_self x d
  have e : ((x : Int)).tdiv (d : Int) = ((x / d : Nat) : Int) := by
    rw [Int.tdiv_eq_ediv_of_nonneg (by omega)]
    rfl
  have e2 : IntKind.i64.wrap ((x / d : Nat) : Int) = ((x / d : Nat) : Int) := by
    clear e
    generalize x / d = q at hle
    rw [IntWalk.i64_in _ (by omega)]
  rw [bin_quo _ _ _ _ (by omega),e,e2]
theorem lcmN_le {a b : Nat} : lcmN a b ≤ a * b := Nat.mul_le_mul_right _ (Nat.div_le_self _ _)
theorem lcm_run {A : AHeap} (hw : WF A) {b n c : Nat} {g : Nat → Nat} (hb : ∀ i,i < n → cl A b i = some (.int .i64 (g i : Int))) (hbA : b < A.next) (hn1 : n < 1000) (hg : ∀ i,i < n → 0 < g i ∧ g i ≤ 100000 ∧ lcmF g i ≤ 100000) :
    Con Try.prog 82 [.slice (some ⟨b,0,none⟩) n c] A (fun v A1 => v = .int .i64 ((lcmF g n : Nat) : Int) ∧ Nx A.next A A1) := by
  refine zAF hc Try.func82 rfl (Nat.le_of_ble_eq_true rfl) ?_
  rw [s_in1]
  (repeat (first | refine Rn.seq hc ?_ | refine Rn.skip hc ?_ | refine Rn.block hc ?_ | refine Rn.inBlock hc ?_ | refine Rn.scope hc ?_ | refine Rn.inScope hc ?_))
  refine Rn.reg hc rfl ?_
  simp only [zAS,gd,zAX,rops,fx,zOi,zEl,show Try.f82.ntmps = 21 from rfl]
  (repeat (first | refine Rn.seq hc ?_ | refine Rn.skip hc ?_ | refine Rn.block hc ?_ | refine Rn.inBlock hc ?_ | refine Rn.scope hc ?_ | refine Rn.inScope hc ?_))
  refine Rn.reg hc rfl ?_
  simp only [zAS,gd,zAX,rops,fx,zOi,zEl]
  (repeat (first | refine Rn.seq hc ?_ | refine Rn.skip hc ?_ | refine Rn.block hc ?_ | refine Rn.inBlock hc ?_ | refine Rn.scope hc ?_ | refine Rn.inScope hc ?_))
  refine Rn.reg hc rfl ?_
  simp only [zAY,zAS,zAU,zAT,sp_n,Nat.reduceLT,ne_eq,Nat.reduceEqDiff,zNf,gd,zAX,rops,fx,lng,zOi,zEl,un22]
  (repeat (first | refine Rn.seq hc ?_ | refine Rn.skip hc ?_ | refine Rn.block hc ?_ | refine Rn.inBlock hc ?_ | refine Rn.scope hc ?_ | refine Rn.inScope hc ?_))
  refine Rn.zDY hc (I := fun k s B => ∃ i,i ≤ n ∧ k = n - i ∧ Nx A.next A B ∧ s.n = 21 ∧ sget s 3 = .int .i64 ((lcmF g i : Nat) : Int) ∧ sget s 6 = .slice (some ⟨b,0,none⟩) n c ∧ sget s 7 = .int .i64 (n : Int) ∧ sget s 8 = .int .i64 (i : Int))
    (n := n) ⟨0,by omega,rfl,Nx.refl hw _,by simp only [sp_n],by simp only [zAU,zAT,sp_n,Nat.reduceLT,ne_eq,Nat.reduceEqDiff,zNf]; rfl,by simp only [zAU,zAT,sp_n,Nat.reduceLT,ne_eq,Nat.reduceEqDiff,zNf],by simp only [zAU,zAT,sp_n,Nat.reduceLT,ne_eq,Nat.reduceEqDiff,zNf],by simp only [zAU,sp_n,Nat.reduceLT]; rfl⟩ ?_
  rintro k s B ⟨i,hi,rfl,hA,hn,s3,s6,s7,s8⟩ ih
  (repeat (first | refine Rn.seq hc ?_ | refine Rn.skip hc ?_ | refine Rn.block hc ?_ | refine Rn.inBlock hc ?_ | refine Rn.scope hc ?_ | refine Rn.inScope hc ?_))
  by_cases hlt : i < n
  · have hd : decide ((i : Int) < (n : Int)) = true := decide_eq_true (by omega)
    obtain ⟨g0,g1,g2⟩ := hg i hlt
    have hp : 0 < lcmF g i := lcmF_pos (k := n) (fun j hj => (hg j hj).1) hi
    have hci : cl B b i = some (.int .i64 (g i : Int)) := (hA.cl hbA i).trans (hb i hlt)
    have hci' : cl B b (0 + i * 1) = some (.int .i64 (g i : Int)) := by rw [Nat.zero_add,Nat.mul_one]; exact hci
    refine Rn.reg hc rfl ?_
    simp only [zAY,gd,zAX,rops,fx,zAN,zOi,zEl,s7,s8,hd]
    (repeat (first | refine Rn.seq hc ?_ | refine Rn.skip hc ?_ | refine Rn.block hc ?_ | refine Rn.inBlock hc ?_ | refine Rn.scope hc ?_ | refine Rn.inScope hc ?_))
    refine Rn.zAM hc rfl ?_
    simp only [zAY,zAU,Nat.reduceLT,Value.bool.injEq,zEl,hn]
    (repeat (first | refine Rn.seq hc ?_ | refine Rn.skip hc ?_ | refine Rn.block hc ?_ | refine Rn.inBlock hc ?_ | refine Rn.scope hc ?_ | refine Rn.inScope hc ?_))
    refine Rn.reg hc rfl ?_
    simp only [zAY,zAU,zAT,sp_n,Nat.reduceLT,ne_eq,Nat.reduceEqDiff,zNf,gd,zAX,rops,fx,ld,idx,zAR,Nat.zero_add,zOi,zEl,Nat.mul_one,tk3,eo22,hn,s6,s8,zAQ hlt,hci]
    (repeat (first | refine Rn.seq hc ?_ | refine Rn.skip hc ?_ | refine Rn.block hc ?_ | refine Rn.inBlock hc ?_ | refine Rn.scope hc ?_ | refine Rn.inScope hc ?_))
    refine Rn.region hc fun K hK => ?_
    refine Wo.run hc 3 rfl rfl rfl ?_
    simp (maxSteps := 2000000) only [List.drop_zero,List.take_succ_cons,List.take_zero,zAY,zAU,zAT,sp_n,Nat.reduceLT,ne_eq,Nat.reduceEqDiff,not_false_eq_true,gd,zAX,rops,fx,Nat.zero_add,Option.some.injEq,exists_eq_left',hn,s3]
    refine Wo.call hc (by rfl) (by rfl) ⟨by rfl,by rfl⟩ (xs := [.int .i64 ((lcmF g i : Nat) : Int),.int .i64 (g i : Int)]) (by rfl) (by rfl) (by simp only [zAY,zAU,zAT,sp_n,Nat.reduceLT,ne_eq,Nat.reduceEqDiff,zNf,List.map_cons,List.map_nil,List.nil_append,List.append_nil,hn]) (Con.mono (gcd_run hA.wf (by omega) (by omega)) ?_)
    rintro w B1 ⟨rfl,hx1⟩
    have hm : IntKind.i64.wrap (((lcmF g i / Nat.gcd (lcmF g i) (g i) : Nat) : Int) * (g i : Int)) = ((lcmF g (i + 1) : Nat) : Int) := by
      have hle : lcmF g (i + 1) ≤ 100000 * 100000 := Nat.le_trans lcmN_le (Nat.mul_le_mul g2 g1)
      rw [← Int.natCast_mul]
      show IntKind.i64.wrap ((lcmF g (i + 1) : Nat) : Int) = _
      rw [IntWalk.i64_in _ (by omega)]
    refine Wo.run hc 4 rfl rfl rfl ?_
    simp (maxSteps := 2000000) only [List.drop_zero,List.drop_succ_cons,List.take_succ_cons,List.take_zero,zAY,zAU,zAT,sp_n,Nat.reduceLT,ne_eq,Nat.reduceEqDiff,not_false_eq_true,gd,zAX,rops,fx,bin_mul,Option.some.injEq,exists_eq_left',Nat.reduceAdd,hn,quo_nat (Nat.gcd_pos_of_pos_left (g i) hp) (show lcmF g i < 4611686018427387904 by omega),hm]
    refine Wo.done hc rfl (hK _ _ ?_)
    clear hK
    (repeat (first | refine Rn.seq hc ?_ | refine Rn.skip hc ?_ | refine Rn.block hc ?_ | refine Rn.inBlock hc ?_ | refine Rn.scope hc ?_ | refine Rn.inScope hc ?_))
    refine Rn.reg hc rfl ?_
    simp only [zAY,zAS,zAU,zAT,sp_n,Nat.reduceLT,ne_eq,Nat.reduceEqDiff,zNf,gd,zAX,rops,fx,zAH,zOi,zEl,hn,s8,zBZ (show i < 9223372036854775807 by omega)]
    (repeat (first | refine Rn.seq hc ?_ | refine Rn.skip hc ?_ | refine Rn.block hc ?_ | refine Rn.inBlock hc ?_ | refine Rn.scope hc ?_ | refine Rn.inScope hc ?_))
    exact ih _ _ _ (by omega) ⟨i + 1,by omega,rfl,hA.trans (hx1.le hA.next),by simp only [sp_n,hn],by simp only [zAU,zAT,sp_n,Nat.reduceLT,ne_eq,Nat.reduceEqDiff,zNf,hn],by simp only [zAT,ne_eq,Nat.reduceEqDiff,zNf,s6],by simp only [zAT,ne_eq,Nat.reduceEqDiff,zNf,s7],by simp only [zAU,sp_n,Nat.reduceLT,hn]⟩
  · have hd : decide ((i : Int) < (n : Int)) = false := decide_eq_false (by omega)
    have hil : i = n := by omega
    subst hil
    clear ih
    refine Rn.reg hc rfl ?_
    simp only [zAY,gd,zAX,rops,fx,zAN,zOi,zEl,s7,s8,hd]
    (repeat (first | refine Rn.seq hc ?_ | refine Rn.skip hc ?_ | refine Rn.block hc ?_ | refine Rn.inBlock hc ?_ | refine Rn.scope hc ?_ | refine Rn.inScope hc ?_))
    refine Rn.zAM hc rfl ?_
    simp only [zAY,zAU,Nat.reduceLT,Value.bool.injEq,zEl,hn]
    (repeat (first | refine Rn.seq hc ?_ | refine Rn.skip hc ?_ | refine Rn.block hc ?_ | refine Rn.inBlock hc ?_ | refine Rn.scope hc ?_ | refine Rn.inScope hc ?_))
    refine Rn.exit hc rfl ?_
    (repeat (first | refine Rn.seq hc ?_ | refine Rn.skip hc ?_ | refine Rn.block hc ?_ | refine Rn.inBlock hc ?_ | refine Rn.scope hc ?_ | refine Rn.inScope hc ?_))
    refine Rn.reg hc rfl ?_
    simp only [zAY,zAU,zAT,sp_n,Nat.reduceLT,ne_eq,Nat.reduceEqDiff,zNf,gd,zAX,rops,fx,zOi,zEl,hn,s3]
    (repeat (first | refine Rn.seq hc ?_ | refine Rn.skip hc ?_ | refine Rn.block hc ?_ | refine Rn.inBlock hc ?_ | refine Rn.scope hc ?_ | refine Rn.inScope hc ?_))
    refine Rn.ret (zAO rfl ⟨?_,hA⟩)
    simp only [zAU,sp_n,Nat.reduceLT,hn]
theorem lcmF_two (x y : Nat) : lcmF (fun i => if i = 0 then x else y) 2 = lcmN x y := by
  show lcmN (lcmN 1 x) y = _
  rw [lcmN_eq 1 x,Nat.lcm_one_left]
theorem lcm_two {A : AHeap} (hw : WF A) {b c x y : Nat} (h0 : cl A b 0 = some (.int .i64 (x : Int))) (h1 : cl A b 1 = some (.int .i64 (y : Int))) (hbA : b < A.next) (hx : 0 < x ∧ x ≤ 100000) (hy : 0 < y ∧ y ≤ 100000) :
    Con Try.prog 82 [.slice (some ⟨b,0,none⟩) 2 c] A (fun v A1 => v = .int .i64 ((lcmN x y : Nat) : Int) ∧ Nx A.next A A1) := by
  have h := lcm_run hw (b := b) (n := 2) (c := c) (g := fun i => if i = 0 then x else y) (fun i hi => by
    rcases (show i = 0 ∨ i = 1 by omega) with rfl | rfl
    · exact h0
    · exact h1) hbA (by omega) (fun i hi => by
    rcases (show i = 0 ∨ i = 1 by omega) with rfl | rfl
    · exact ⟨hx.1,hx.2,by show 1 ≤ 100000; omega⟩
    · refine ⟨hy.1,hy.2,?_⟩
      show lcmN 1 x ≤ 100000
      rw [lcmN_eq,Nat.lcm_one_left]
      exact hx.2)
  rw [lcmF_two] at h
  exact h
end Go.Proofs.Ytdaljohmfnfgiaa
namespace Go.Proofs.Ytdaljohmfnfgiaa
open Go Go.RowKit Go.Proofs.Ytdaljohmfnfgiaa.Canon
set_option maxRecDepth 20000
theorem so22_2 : sof Try.prog 22 2 = .mk (fun k => some (k * 1,1)) 2 [.int .i64 0,.int .i64 0] := by kernel_rfl
section
variable {ρ : Operand → Value} {d : Option Tmp} {ty : TypeId} {pos : String} {af : Array Edge} {gu : Option (Nat × Bool)} {A : AHeap}
theorem bs22_2 {x y : Tmp} (h1 : zBY (ρ (.tmp x)) = true) (h2 : zBY (ρ (.tmp y)) = true) : zAE Try.prog ρ ⟨d,.buildSlice 22 2 #[(0,.tmp x),(1,.tmp y)],ty,pos,af,gu⟩ A = some (.slice (some ⟨A.next,0,none⟩) 2 2,A.push (.cells #[ρ (.tmp x),ρ (.tmp y)] 3)) := by
  refine zDS (r := [ρ (.tmp x),ρ (.tmp y)]) (by rfl) so22_2 et22 rfl ?_
  simp [fbld,zBF h1,zBF h2]
end
end Go.Proofs.Ytdaljohmfnfgiaa
namespace Go.Proofs.Ytdaljohmfnfgiaa
open Go Go.RowKit Go.Proofs.Ytdaljohmfnfgiaa.Canon
set_option maxRecDepth 20000
theorem err_len {x : Las} (h : x.err = 0) : x.st.length ≤ 60 ∧ x.ro.length ≤ 120 ∧ 0 < x.ro.length := ⟨(errL_len h).1,(errL_len h).2,errL_pos h⟩
end Go.Proofs.Ytdaljohmfnfgiaa
namespace Go.Proofs.Ytdaljohmfnfgiaa
open Go Go.RowKit Go.Proofs.Ytdaljohmfnfgiaa.Canon
set_option maxRecDepth 20000
section
variable {d : Option Tmp} {ty : TypeId} {pos : String} {af : Array Edge} {gu : Option (Nat × Bool)} {A : AHeap}
end
end Go.Proofs.Ytdaljohmfnfgiaa
namespace Go.Proofs.Ytdaljohmfnfgiaa
open Go Go.RowKit Go.Proofs.Ytdaljohmfnfgiaa.Canon
set_option maxRecDepth 20000
end Go.Proofs.Ytdaljohmfnfgiaa
namespace Go.Proofs.Ytdaljohmfnfgiaa
open Go Go.RowKit Go.Proofs.Ytdaljohmfnfgiaa.Canon
set_option maxRecDepth 20000
structure OwnE (A : AHeap) (lo : Nat) (x : Las) : Prop where
  i1 : Ints A x.sa lo A.next x.st
  i2 : Ints A x.ra lo A.next x.ro
  s1 : Sl A x.sa lo
  s2 : Sl A x.ra lo
  c1 : x.st.length ≤ x.sc
  c2 : x.ro.length ≤ x.rc
  l1 : x.st.length ≤ 200
  l2 : x.ro.length ≤ 200
theorem OwnE.mono {A : AHeap} {lo lo' : Nat} {x : Las} (h : OwnE A lo x) (hl : lo' ≤ lo) : OwnE A lo' x :=
  { i1 := h.i1.mono hl (Nat.le_refl _),i2 := h.i2.mono hl (Nat.le_refl _),s1 := h.s1.mono hl,s2 := h.s2.mono hl,c1 := h.c1,c2 := h.c2,l1 := h.l1,l2 := h.l2 }
end Go.Proofs.Ytdaljohmfnfgiaa
namespace Go.Proofs.Ytdaljohmfnfgiaa
section
open Go Go.RowKit Go.Proofs.Ytdaljohmfnfgiaa.Canon
end
section
open Go.ChangeShapes Go.WideShapes Go.ChangeAt Go.RowKit Go.Proofs.Ytdaljohmfnfgiaa.Canon
open Go.Deep (open_slice_pairs open_slice)
section
variable {H : Type} {enc : TypeId × Value → H} {P : Program} {w : World} {base : Nat} {spare : Nat → Bool} {held : Bool}
end
end
end Go.Proofs.Ytdaljohmfnfgiaa
namespace Go.Proofs.Ytdaljohmfnfgiaa
open Go Go.RowKit Go.Proofs.Ytdaljohmfnfgiaa.Canon
set_option maxRecDepth 20000
theorem atL_in {m : Int} {st ro : List Int} (h1 : st.all (inB m) = true) (h2 : ro.all (inB m) = true) (hro : 0 < ro.length) (n : Nat) : 0 ≤ atL st ro n ∧ atL st ro n < m := by
  have inB_getD : ∀ {l : List Int},l.all (inB m) = true → ∀ {i : Nat},i < l.length → 0 ≤ l.getD i 0 ∧ l.getD i 0 < m := fun {l} h {i} hi => by
    rw [List.all_eq_true] at h
    have := h l[i] (List.getElem_mem hi)
    simp only [inB,Bool.and_eq_true,decide_eq_true_eq] at this
    simpa [List.getD_eq_getElem?_getD,hi] using this
  unfold atL
  split
  · rename_i h; exact inB_getD h1 h
  · exact inB_getD h2 (Nat.mod_lt _ hro)
end Go.Proofs.Ytdaljohmfnfgiaa
namespace Go.Proofs.Ytdaljohmfnfgiaa
open Go Go.RowKit Go.Proofs.Ytdaljohmfnfgiaa.Canon
set_option maxRecDepth 20000
theorem Red.dvd {s : Nat → Int} {a p N d : Nat} (h : Red s a p) (k : Per s N d) : p ∣ d := by
  have h1 : Per s (max a N) p := h.per.mono (Nat.le_max_left _ _)
  have h2 : Per s (max a N) d := k.mono (Nat.le_max_right _ _)
  have h3 := h.minP _ _ (h1.gcd h2)
  have h4 : Nat.gcd p d ∣ p := Nat.gcd_dvd_left _ _
  have h5 : Nat.gcd p d = p := Nat.le_antisymm (Nat.le_of_dvd h.per.pos h4) h3
  rw [← h5]
  exact Nat.gcd_dvd_right _ _
theorem Red.low {s : Nat → Int} {a p N d : Nat} (h : Red s a p) (k : Per s N d) : a ≤ N := h.minA N (k.down h.per)
def evS (s : Nat → Int) (step j : Nat) : Nat → Int := fun n => s (j + n * step)
structure TakE (m : Int) (s : Nat → Int) (step j N d : Nat) (x : Las) : Prop where
  m : x.m = m
  red : ∃ a p,Red (evS s step j) a p ∧ a ≤ N ∧ p ≤ d ∧ x.st = redS (evS s step j) a ∧ x.ro = redR (evS s step j) a p
theorem TakE.s {m : Int} {s : Nat → Int} {step j N d : Nat} {x : Las} (h : TakE m s step j N d x) : x.s = evS s step j := by
  obtain ⟨a,p,hr,_,_,e1,e2⟩ := h.red
  unfold Las.s
  rw [e1,e2]
  exact zCC hr.per
end Go.Proofs.Ytdaljohmfnfgiaa
namespace Go.Proofs.Ytdaljohmfnfgiaa
open Go Go.RowKit Go.Proofs.Ytdaljohmfnfgiaa.Canon
set_option maxRecDepth 20000
section
variable {ρ : Operand → Value} {d : Option Tmp} {ty : TypeId} {pos : String} {af : Array Edge} {gu : Option (Nat × Bool)} {A : AHeap}
theorem ae_asl_lo {x y : Tmp} {t : TypeId} : zAE Try.prog ρ ⟨d,.slice t (.tmp x) (some (.tmp y)) none none,ty,pos,af,gu⟩ A = asl Try.prog t (ρ (.tmp x)) (some (ρ (.tmp y))) none none A := ae_asl (lo := some y) (hi := none) (mx := none)
end
theorem asl_hi0 {A : AHeap} {b N n : Nat} {y : AObj} (hy : Canon.look A.objs b = some y) (hg : y.grown = false) (hn : n ≤ N) : asl Try.prog 22 (.slice (some ⟨b,0,none⟩) N N) none (some (.int .i64 (n : Int))) none A = some (.slice (some ⟨b,0,none⟩) n N,A) := by
  obtain ⟨_,i,z,hinf,_,_,_,hsz,_⟩ := elB_eq el22
  have hb1 : zBN (some (.int .i64 (n : Int))) N = some n := by simp [zBN]
  have hb0 : ∀ d,zBN none d = some d := fun _ => rfl
  have t1 : Nat.ble 0 n = true := Nat.ble_eq_true_of_le (Nat.zero_le _)
  have t2 : Nat.ble n N = true := Nat.ble_eq_true_of_le hn
  have t3 : Nat.ble N N = true := Nat.ble_eq_true_of_le (Nat.le_refl _)
  obtain ⟨ob,g,zz⟩ := y
  simp only at hg
  subst hg
  simp only [asl,un22,hinf,hb0,hb1,t2,Option.isSome_none,Bool.not_false,Bool.true_or,Nat.sub_zero,hy]
  rw [t1,t3]
  by_cases h0 : N = 0
  · simp only [h0,if_pos]
  · simp only [h0,if_false,Nat.zero_mul]
    rfl
theorem asl_lo0 {A : AHeap} {b N n : Nat} {y : AObj} (hy : Canon.look A.objs b = some y) (hg : y.grown = false) (hn : n < N) : asl Try.prog 22 (.slice (some ⟨b,0,none⟩) N N) (some (.int .i64 (n : Int))) none none A = some (.slice (some ⟨b,n,none⟩) (N - n) (N - n),A) := by
  obtain ⟨_,i,z,hinf,_,_,_,hsz,_⟩ := elB_eq el22
  have hb1 : zBN (some (.int .i64 (n : Int))) 0 = some n := by simp [zBN]
  have hb0 : ∀ d,zBN none d = some d := fun _ => rfl
  have t2 : Nat.ble n N = true := Nat.ble_eq_true_of_le (by omega)
  have t3 : Nat.ble N N = true := Nat.ble_eq_true_of_le (Nat.le_refl _)
  have hne : ¬ N = n := by omega
  obtain ⟨ob,g,zz⟩ := y
  simp only at hg
  subst hg
  simp only [asl,un22,hinf,hb0,hb1,t2,Option.isSome_none,Bool.not_false,Bool.true_or,hy]
  rw [t3]
  simp only [hne,if_false,hsz,Nat.mul_one]
  simp [Addr.add]
  exact fun h => h.symm
noncomputable def mk2 (v w : Value) (A : AHeap) : Option (Value × AHeap) := zAE Try.prog (fun o => match o with
  | .tmp 0 => v
  | _ => w) ⟨none,.makeSlice 22 (.tmp 0) (.tmp 1),22, "",#[],none⟩ A
theorem ae_mk2 {s : Slots} {x y : Tmp} {d : Option Tmp} {ty : TypeId} {pos : String} {af : Array Edge} {gu : Option (Nat × Bool)} {A : AHeap} : zAE Try.prog (zBP s) ⟨d,.makeSlice 22 (.tmp x) (.tmp y),ty,pos,af,gu⟩ A = mk2 (sget s x) (sget s y) A := by
  simp [zAE,mk2,Op.operands,zAC,zAY]
theorem mk2_nat {n : Nat} {A : AHeap} (h : n ≤ 1000000) : mk2 (.int .i64 (n : Int)) (.int .i64 (n : Int)) A = some (.slice (some ⟨A.next,0,none⟩) n n,A.push (.cells (Array.replicate n (.int .i64 0)) 3)) :=
  ae_makeSlice (k := .i64) (k' := .i64) ⟨by rfl,by rfl⟩ el22 ze3 rfl rfl rfl (Nat.le_refl _) (by omega) (by omega)
def nrm (n m : Int) : Int := (n.tmod m + m).tmod m
theorem tmod_lim (n : Int) {m : Int} (h : 0 < m) : -m < n.tmod m ∧ n.tmod m < m := by
  refine ⟨?_,Int.tmod_lt_of_pos _ h⟩
  have := Int.lt_tmod_of_pos n h
  omega
theorem nrm_lim (n : Int) {m : Int} (h : 0 < m) : 0 ≤ nrm n m ∧ nrm n m < m := by
  have := tmod_lim n h
  unfold nrm
  exact ⟨Int.tmod_nonneg _ (by omega),Int.tmod_lt_of_pos _ h⟩
theorem norm_run {A : AHeap} (hw : WF A) {n m : Int} (hm : 0 < m ∧ m ≤ 65521) : Con Try.prog 89 [.int .i64 n,.int .i64 m] A (fun v A1 => v = .int .i64 (nrm n m) ∧ Nx A.next A A1) := by
  refine zAF hc Try.func89 rfl (Nat.le_of_ble_eq_true rfl) ?_
  have hl := tmod_lim n hm.1
  have hr : ∀ (x : Int) M,bin Try.prog .rem 3 (.int .i64 x) (.int .i64 m) M = some (.int .i64 (x.tmod m),M) := fun x M => zCS _ _ _ _ (by omega)
  have hw1 : IntKind.i64.wrap (n.tmod m + m) = n.tmod m + m := IntWalk.i64_in _ ⟨by omega,by omega⟩
  rw [s_in2]
  (repeat (first | refine Rn.seq hc ?_ | refine Rn.skip hc ?_ | refine Rn.block hc ?_ | refine Rn.inBlock hc ?_ | refine Rn.scope hc ?_ | refine Rn.inScope hc ?_))
  refine Rn.reg hc rfl ?_
  simp only [zAS,gd,zAX,rops,fx,zOi,zEl,show Try.f89.ntmps = 12 from rfl]
  (repeat (first | refine Rn.seq hc ?_ | refine Rn.skip hc ?_ | refine Rn.block hc ?_ | refine Rn.inBlock hc ?_ | refine Rn.scope hc ?_ | refine Rn.inScope hc ?_))
  refine Rn.reg hc rfl ?_
  simp only [zAY,zAU,zAT,sp_n,Nat.reduceLT,ne_eq,Nat.reduceEqDiff,zNf,gd,zAX,rops,fx,zAH,zOi,zEl,hr,hw1]
  (repeat (first | refine Rn.seq hc ?_ | refine Rn.skip hc ?_ | refine Rn.block hc ?_ | refine Rn.inBlock hc ?_ | refine Rn.scope hc ?_ | refine Rn.inScope hc ?_))
  refine Rn.ret (zAO rfl ⟨?_,Nx.refl hw _⟩)
  simp only [zAU,sp_n,Nat.reduceLT]
  rfl
theorem residue_ref {A : AHeap} (hw : WF A) {n m : Int} (hm : 0 < m ∧ m ≤ 65521) : Con Try.prog 90 [.int .i64 n,.int .i64 m] A (fun v A1 => v = .int .i64 (nrm n m) ∧ Nx A.next A A1) := by
  refine zAF hc Try.func90 rfl (Nat.le_of_ble_eq_true rfl) ?_
  have hl := tmod_lim n hm.1
  have hr : ∀ (x : Int) M,bin Try.prog .rem 3 (.int .i64 x) (.int .i64 m) M = some (.int .i64 (x.tmod m),M) := fun x M => zCS _ _ _ _ (by omega)
  have hw1 : IntKind.i64.wrap (n.tmod m + m) = n.tmod m + m := IntWalk.i64_in _ ⟨by omega,by omega⟩
  rw [s_in2]
  (repeat (first | refine Rn.seq hc ?_ | refine Rn.skip hc ?_ | refine Rn.block hc ?_ | refine Rn.inBlock hc ?_ | refine Rn.scope hc ?_ | refine Rn.inScope hc ?_))
  refine Rn.reg hc rfl ?_
  simp only [zAS,gd,zAX,rops,fx,zOi,zEl,show Try.f90.ntmps = 12 from rfl]
  (repeat (first | refine Rn.seq hc ?_ | refine Rn.skip hc ?_ | refine Rn.block hc ?_ | refine Rn.inBlock hc ?_ | refine Rn.scope hc ?_ | refine Rn.inScope hc ?_))
  refine Rn.reg hc rfl ?_
  simp only [zAY,zAU,zAT,sp_n,Nat.reduceLT,ne_eq,Nat.reduceEqDiff,zNf,gd,zAX,rops,fx,zAH,zOi,zEl,hr,hw1]
  (repeat (first | refine Rn.seq hc ?_ | refine Rn.skip hc ?_ | refine Rn.block hc ?_ | refine Rn.inBlock hc ?_ | refine Rn.scope hc ?_ | refine Rn.inScope hc ?_))
  refine Rn.ret (zAO rfl ⟨?_,Nx.refl hw _⟩)
  simp only [zAU,sp_n,Nat.reduceLT]
  rfl
theorem mul_lim {x y : Int} (x0 : 0 ≤ x) (x1 : x < 65536) (y0 : 0 ≤ y) (y1 : y < 65536) : 0 ≤ x * y ∧ x * y < 4294967296 := by
  refine ⟨Int.mul_nonneg x0 y0,?_⟩
  have h1 : x * y ≤ 65535 * 65535 := Int.mul_le_mul (by omega) (by omega) y0 (by omega)
  omega
def nmS (u : Int) : Canon.Spec := fun _ _ A v A1 => v = .int .i64 u ∧ Nx A.next A A1
end Go.Proofs.Ytdaljohmfnfgiaa
namespace Go.Proofs.Ytdaljohmfnfgiaa
open Go Go.RowKit Go.Proofs.Ytdaljohmfnfgiaa.Canon
set_option maxRecDepth 20000
def tldS (m : Int) (E : Nat → Int) : Canon.Spec := fun _ _ A v A1 => Tld A 0 m E v A1
end Go.Proofs.Ytdaljohmfnfgiaa
namespace Go.Proofs.Ytdaljohmfnfgiaa
open Go Go.RowKit Go.Proofs.Ytdaljohmfnfgiaa.Canon
set_option maxRecDepth 20000
section
variable {ρ : Operand → Value} {d : Option Tmp} {ty : TypeId} {pos : String} {af : Array Edge} {gu : Option (Nat × Bool)}
theorem fb22_2 {x y : Tmp} {v w : Value} (hv : ρ (.tmp x) = v) (hcv : zBY v = true) (hw : ρ (.tmp y) = w) (hcw : zBY w = true) : fobj Try.prog ρ ⟨d,.buildSlice 22 2 #[(0,.tmp x),(1,.tmp y)],ty,pos,af,gu⟩ = some ⟨[v,w],3,.sl 2 2⟩ := by
  have := fbld_fill (ρ := ρ) (pl := fun k => some (k * 1,1)) (n := 2) (ps := [(0,.tmp x),(1,.tmp y)]) (cs := [.int .i64 0,.int .i64 0]) (r := [v,w]) rfl (by simp [fbld,hv,hw,zBF hcv,zBF hcw])
  have hok : ([((0 : Nat),Operand.tmp x),(1,.tmp y)].all fun p => zAC p.2) = true := rfl
  simp only [fobj,so22_2,et22,hok,this]
end
theorem Dr.callF {S : Canon.Spec} {ops : Array Oper} {F : AHeap → Prop} {nb i : Nat} {o : Oper} {os : List Oper} {T : Slots} {A : AHeap} {pd : List (Nat × FO)} {K : Slots → List AHeap → Prop} (he : zBD Try.prog (cvE Try.prog ops) o = true) (hf : isFl Try.prog o = false) {pd1 pd2 : List (Nat × FO)} (hp1 : pd.filter (keyIn ((nth (zCR ops.toList) i).getD 0)) = pd1) (hp2 : pd.filter (fun x => !keyIn ((nth (zCR ops.toList) i).getD 0) x) = pd2)
    {ms0 : List AHeap} {A0 : AHeap} (hp : zBU nb pd1 A = some (ms0,A0)) (hms : ∀ M ∈ ms0,F M) (hA : F A0) (hw : zCM (gd ops o) T = true) {R : Value → AHeap → Prop}
    (h : ∃ v A1,opRun Try.prog (runS Try.prog S) (zBP T) o A0 = some (v,A1) ∧ R v A1) (k : ∀ v A1,R v A1 → Dr Try.prog S ops F nb (i + 1) os (sput T o.dst v) pd2 A1 (fun T1 ms => K T1 (ms0 ++ (A0 :: ms)))) : Dr Try.prog S ops F nb i (o :: os) T pd A K := by
  obtain ⟨v,A1,h1,h2⟩ := h
  exact Dr.eff he hf hp1 hp2 hp hms hA hw h1 (k v A1 h2)
theorem veqs_self {f : Value → Value → Bool} : ∀ {l : List Value},(∀ v ∈ l,f v v = true) → veqs f l l = true
  | [],_ => rfl
  | x :: l,h => by
    have h1 := h x (List.mem_cons_self ..)
    have h2 := veqs_self (f := f) (l := l) fun v hv => h v (List.mem_cons_of_mem _ hv)
    show (match f x x with | true => veqs f l l | false => false) = true
    rw [h1]
    exact h2
end Go.Proofs.Ytdaljohmfnfgiaa
namespace Go.Proofs.Ytdaljohmfnfgiaa
open Go Go.RowKit Go.Proofs.Ytdaljohmfnfgiaa.Canon
set_option maxRecDepth 20000
theorem errL_all {m : Int} {st ro : List Int} (h : errL m st ro = 0) : (2 ≤ m ∧ m ≤ 65521) ∧ st.all (inB m) = true ∧ ro.all (inB m) = true := by
  unfold errL at h
  split at h
  · omega
  · rename_i h1
    split at h
    · omega
    · split at h
      · rename_i h3
        simp only [Bool.and_eq_true] at h3
        simp only [badM,Bool.or_eq_true,decide_eq_true_eq] at h1
        exact ⟨by omega,h3.1,h3.2⟩
      · omega
theorem err_lim {x : Las} (h : x.err = 0) : (2 ≤ x.m ∧ x.m ≤ 65521) ∧ (∀ n,0 ≤ x.s n ∧ x.s n < x.m) := by
  obtain ⟨h1,h2,h3⟩ := errL_all h
  exact ⟨h1,atL_in h2 h3 (errL_pos h)⟩
theorem errs_two0 {x y : Las} (h : errs [x,y] [x,y] = 0) : x.err = 0 ∧ y.err = 0 ∧ x.m = y.m := by
  rw [errs_two] at h
  by_cases h1 : x.err = 0
  · rw [if_neg (by simp [h1])] at h
    by_cases h2 : y.err = 0
    · rw [if_neg (by simp [h2])] at h
      split at h
      · rename_i h3; exact ⟨h1,h2,h3⟩
      · omega
    · rw [if_pos h2] at h; exact absurd h h2
  · rw [if_pos h1] at h; exact absurd h h1
end Go.Proofs.Ytdaljohmfnfgiaa
namespace Go.Proofs.Ytdaljohmfnfgiaa
open Go Go.RowKit Go.Proofs.Ytdaljohmfnfgiaa.Canon
set_option maxRecDepth 20000
end Go.Proofs.Ytdaljohmfnfgiaa
namespace Go.Proofs.Ytdaljohmfnfgiaa
open Go Go.RowKit Go.Proofs.Ytdaljohmfnfgiaa.Canon
set_option maxRecDepth 20000
end Go.Proofs.Ytdaljohmfnfgiaa
namespace Go.Proofs.Ytdaljohmfnfgiaa
open Go Go.RowKit Go.Proofs.Ytdaljohmfnfgiaa.Canon
theorem nrm_mod (n : Int) {m : Int} (h : 0 < m) : nrm n m = n % m := by
  unfold nrm
  have h1 := tmod_lim n h
  rw [Int.tmod_eq_emod_of_nonneg (by omega)]
  have e := Int.mul_tdiv_add_tmod n m
  have h2 : n.tmod m + m = n + m * (1 - n.tdiv m) := by
    rw [Int.mul_sub,Int.mul_one]
    omega
  rw [h2,Int.add_mul_emod_self_left]
def scB (m : Int) (a : Nat → Int) (step r : Nat) : Nat → Int
  | 0 => 0
  | q + 1 => (scB m a step r q + a (r + q * step)) % m
def scY (m : Int) (a : Nat → Int) (step n : Nat) : Int := scB m a step (n % step) (n / step)
def scn (m : Int) (a : Nat → Int) (step n : Nat) : Int := scY m a step (n + step)
section
variable {m : Int} {a : Nat → Int} {step : Nat}
theorem scY_zero {n : Nat} (h : n < step) : scY m a step n = 0 := by
  unfold scY
  rw [Nat.div_eq_of_lt h]
  rfl
theorem scY_step (hs : 0 < step) (n : Nat) : scY m a step (n + step) = (scY m a step n + a n) % m := by
  unfold scY
  rw [Nat.add_mod_right,Nat.add_div_right _ hs]
  show (scB m a step (n % step) (n / step) + a (n % step + n / step * step)) % m = _
  rw [Nat.mul_comm,Nat.mod_add_div]
theorem scY_lim (hm : 0 < m) (n : Nat) : 0 ≤ scY m a step n ∧ scY m a step n < m := by
  unfold scY
  cases n / step with
  | zero => exact ⟨Int.le_refl _,hm⟩
  | succ q => exact ⟨Int.emod_nonneg _ (by omega),Int.emod_lt_of_pos _ hm⟩
theorem scY_self (hm : 0 < m) (n : Nat) : scY m a step n % m = scY m a step n := Int.emod_eq_of_lt (scY_lim hm n).1 (scY_lim hm n).2
theorem scn_lim (hm : 0 < m) (n : Nat) : 0 ≤ scn m a step n ∧ scn m a step n < m := scY_lim hm _
theorem scn_eq (hs : 0 < step) (n : Nat) : scn m a step n = (scY m a step n + a n) % m := scY_step hs n
def scD (m : Int) (a : Nat → Int) (step B n : Nat) : Int := (scY m a step (n + B) - scY m a step n) % m
variable {B N : Nat}
theorem scD_per (hs : 0 < step) (hP : ∀ n,N ≤ n → a (n + B) = a n) : Per (scD m a step B) N step := ⟨hs,fun n hn => by
  unfold scD
  rw [show n + step + B = n + B + step by omega,scY_step hs,scY_step hs,hP n hn,← Int.sub_emod]
  congr 1
  omega⟩
theorem scY_next (hm : 0 < m) (n : Nat) : scY m a step (n + B) = (scY m a step n + scD m a step B n) % m := by
  unfold scD
  rw [Int.add_comm,Int.emod_add_emod,Int.sub_add_cancel,scY_self hm]
theorem scY_times (hm : 0 < m) (hs : 0 < step) (hB : step ∣ B) (hP : ∀ n,N ≤ n → a (n + B) = a n) {n : Nat} (hn : N ≤ n) : ∀ k : Nat,scY m a step (n + k * B) = (scY m a step n + (k : Int) * scD m a step B n) % m
  | 0 => by simp [scY_self hm]
  | k + 1 => by
    have hc : scD m a step B (n + k * B) = scD m a step B n := by
      obtain ⟨c,rfl⟩ := hB
      refine (scD_per hs hP).same (by omega) hn ?_
      rw [show k * (step * c) = step * (k * c) by rw [Nat.mul_left_comm],Nat.add_mul_mod_self_left]
    rw [show n + (k + 1) * B = n + k * B + B by rw [Nat.succ_mul]; omega,scY_next hm,hc,scY_times hm hs hB hP hn k,Int.emod_add_emod]
    congr 1
    rw [Int.natCast_add,Int.add_mul,Int.natCast_one,Int.one_mul]
    omega
theorem scD_lim (hm : 0 < m) (n : Nat) : 0 ≤ scD m a step B n ∧ scD m a step B n < m := ⟨Int.emod_nonneg _ (by omega),Int.emod_lt_of_pos _ hm⟩
end
def ordN (m d : Nat) : Nat := m / Nat.gcd m d
theorem ordN_dvd {m d t : Nat} (hm : 0 < m) : ordN m d ∣ t ↔ m ∣ t * d := by
  unfold ordN
  rw [Nat.div_dvd_iff_dvd_mul (Nat.gcd_dvd_left m d) (Nat.gcd_pos_of_pos_left _ hm)]
  constructor
  · intro h
    refine Nat.dvd_trans h ?_
    rw [Nat.mul_comm t d]
    exact Nat.mul_dvd_mul_right (Nat.gcd_dvd_right m d) t
  · intro h
    have h1 : m ∣ t * m := Nat.dvd_mul_left _ _
    have h2 := Nat.dvd_gcd h1 h
    rw [Nat.gcd_mul_left] at h2
    rw [Nat.mul_comm]
    exact h2
theorem ordN_pos {m d : Nat} (hm : 0 < m) : 0 < ordN m d := Nat.div_pos (Nat.le_of_dvd hm (Nat.gcd_dvd_left _ _)) (Nat.gcd_pos_of_pos_left _ hm)
def dC (m : Nat) (a : Nat → Int) (step B N i : Nat) : Nat := (scD (m : Int) a step B (N * step + i)).toNat
section
variable {m : Nat} {a : Nat → Int} {step B N : Nat}
theorem dC_eq (hm : 0 < m) (hs : 0 < step) (hP : ∀ n,N ≤ n → a (n + B) = a n) {n : Nat} (hn : N ≤ n) : ((dC m a step B N (n % step) : Nat) : Int) = scD (m : Int) a step B n := by
  unfold dC
  rw [Int.toNat_of_nonneg (scD_lim (by omega) _).1]
  have h1 : N * 1 ≤ N * step := Nat.mul_le_mul_left _ hs
  refine (scD_per hs hP).same (by omega) hn ?_
  rw [Nat.mul_comm,Nat.mul_add_mod,Nat.mod_mod]
theorem scn_per (hm : 0 < m) (hs : 0 < step) (hB0 : 0 < B) (hB : step ∣ B) (hP : ∀ n,N ≤ n → a (n + B) = a n) {t : Nat} (ht0 : 0 < t) (ht : ∀ i,i < step → ordN m (dC m a step B N i) ∣ t) : Per (scn (m : Int) a step) N (t * B) := ⟨Nat.mul_pos ht0 hB0,fun n hn => by
  unfold scn
  have h1 := ht _ (Nat.mod_lt (n + step) hs)
  rw [ordN_dvd hm] at h1
  have h2 : (m : Int) ∣ (t : Int) * scD (m : Int) a step B (n + step) := by
    rw [← dC_eq hm hs hP (show N ≤ n + step by omega),← Int.natCast_mul,Int.natCast_dvd_natCast]
    exact h1
  rw [show n + t * B + step = n + step + t * B by omega,scY_times (by omega) hs hB hP (by omega),Int.add_emod,Int.emod_eq_zero_of_dvd h2,Int.add_zero,Int.emod_emod,scY_self (by omega)]⟩
theorem scn_per_m (hm : 0 < m) (hs : 0 < step) (hB0 : 0 < B) (hB : step ∣ B) (hP : ∀ n,N ≤ n → a (n + B) = a n) : Per (scn (m : Int) a step) N (m * B) :=
  scn_per hm hs hB0 hB hP hm fun i _ => (ordN_dvd hm).2 (Nat.dvd_mul_right _ _)
theorem ord_of_per (hm : 0 < m) (hs : 0 < step) (hB : step ∣ B) (hP : ∀ n,N ≤ n → a (n + B) = a n) {M k : Nat} (h : Per (scn (m : Int) a step) M (k * B)) : ∀ i,i < step → ordN m (dC m a step B N i) ∣ k := fun i hi => by
  rw [ordN_dvd hm]
  have h1 : (N + M) * 1 ≤ (N + M) * step := Nat.mul_le_mul_left _ hs
  have e1 : (((N + M) * step + i) + step) % step = i := by rw [Nat.add_mod_right,Nat.mul_comm,Nat.mul_add_mod,Nat.mod_eq_of_lt hi]
  have h2 := h.per ((N + M) * step + i) (by omega)
  unfold scn at h2
  rw [show (N + M) * step + i + k * B + step = (N + M) * step + i + step + k * B by omega,scY_times (by omega) hs hB hP (show N ≤ (N + M) * step + i + step by omega)] at h2
  have h3 : ((k : Int) * scD (m : Int) a step B ((N + M) * step + i + step)) % (m : Int) = 0 := by
    have h4 := Int.sub_emod (scY (m : Int) a step ((N + M) * step + i + step) + (k : Int) * scD (m : Int) a step B ((N + M) * step + i + step)) (scY (m : Int) a step ((N + M) * step + i + step)) (m : Int)
    rw [h2,scY_self (by omega),Int.sub_self,Int.zero_emod] at h4
    rw [← h4]
    congr 1
    omega
  have h5 := Int.dvd_of_emod_eq_zero h3
  rw [← dC_eq hm hs hP (show N ≤ (N + M) * step + i + step by omega),e1,← Int.natCast_mul,Int.natCast_dvd_natCast] at h5
  exact h5
end
theorem red_of_per {s : Nat → Int} {N d : Nat} (h : Per s N d) : ∃ a p,Red s a p ∧ a ≤ N ∧ p ≤ d := by
  obtain ⟨a,p,hr,ha,hp,_⟩ := red_exists (redS s N) (ro := redR s N d) (by rw [zAG]; exact h.pos)
  rw [zCC h] at hr
  rw [zAL] at ha
  rw [zAG] at hp
  exact ⟨a,p,hr,ha,hp⟩
theorem tp_long {m : Int} {s : Nat → Int} {N d : Nat} (h : Per s N d) (hl : ∀ a p,Red s a p → 120 < p) : TP 0 m s 0 [] [] 11 := by
  obtain ⟨a,p,hr,_,_⟩ := red_of_per h
  exact .inr ⟨rfl,a,p,hr,.inl ⟨.inl (hl a p hr),rfl,rfl,rfl,rfl⟩⟩
section
variable {m : Nat} {a : Nat → Int} {step B N : Nat}
theorem long_run (hm : 0 < m) (hs : 0 < step) (hB0 : 0 < B) (hB : step ∣ B) (hP : ∀ n,N ≤ n → a (n + B) = a n) {i : Nat} (hi : i ≤ step) (hl : 120 < lcmF (fun i => ordN m (dC m a step B N i)) i) {p b : Nat} (hr : Red (scn (m : Int) a step) b p) : 120 < p := by
  have h1 : Per (scn (m : Int) a step) b (p * B) := by
    rw [Nat.mul_comm]
    exact hr.per.mul hB0
  have h2 := ord_of_per hm hs hB hP h1
  have h3 : lcmF (fun i => ordN m (dC m a step B N i)) i ∣ p := lcmF_least fun j hj => h2 j (by omega)
  have := Nat.le_of_dvd hr.per.pos h3
  omega
end
def sumA (a : Nat → Int) (step n : Nat) : Nat → Int
  | 0 => 0
  | q + 1 => sumA a step n q + a (n + q * step)
theorem scY_sum {m : Int} {a : Nat → Int} {step : Nat} (hm : 0 < m) (hs : 0 < step) (n : Nat) : ∀ q,scY m a step (n + q * step) = (scY m a step n + sumA a step n q) % m
  | 0 => by simp [sumA,scY_self hm]
  | q + 1 => by
    rw [show n + (q + 1) * step = n + q * step + step by rw [Nat.succ_mul]; omega,scY_step hs,scY_sum hm hs n q,Int.emod_add_emod,sumA,Int.add_assoc]
theorem scD_sum {m : Int} {a : Nat → Int} {step : Nat} (hm : 0 < m) (hs : 0 < step) (n q : Nat) : scD m a step (q * step) n = sumA a step n q % m := by
  unfold scD
  rw [scY_sum hm hs,Int.sub_emod,Int.emod_emod,← Int.sub_emod]
  congr 1
  omega
end Go.Proofs.Ytdaljohmfnfgiaa
namespace Go.Proofs.Ytdaljohmfnfgiaa
open Go Go.RowKit Go.Proofs.Ytdaljohmfnfgiaa.Canon
set_option maxRecDepth 20000
theorem tk69 : tk Try.prog 69 = .one := by kernel_rfl
theorem s_in5w (n : Nat) (a b c e f : Value) : (⟨n,zDZ [a,b,c,e,f] 0 .leaf⟩ : Slots) = sput (sput (sput (sput (sput ⟨n,.leaf⟩ (some 0) a) (some 1) b) (some 2) c) (some 3) e) (some 4) f := rfl
theorem ae_mkfunc4 {ρ : Operand → Value} {d : Option Tmp} {ty : TypeId} {pos : String} {af : Array Edge} {gu : Option (Nat × Bool)} {A : AHeap} {f : FuncId} {a b c e : Tmp} : zAE Try.prog ρ ⟨d,.makeFunc (.func f) #[] #[.tmp a,.tmp b,.tmp c,.tmp e],ty,pos,af,gu⟩ A = some (.func (.func f) #[] #[ρ (.tmp a),ρ (.tmp b),ρ (.tmp c),ρ (.tmp e)],A) := by
  rw [ae_mkfunc (by rfl)]; simp
theorem rem_nat {x d : Nat} (hd : 0 < d) (M : AHeap) : bin Try.prog .rem 3 (.int .i64 (x : Int)) (.int .i64 (d : Int)) M = some (.int .i64 ((x % d : Nat) : Int),M) := by
  rw [zCS _ _ _ _ (by omega),IntWalk.rem_in _ _ (by omega)]
  rfl
theorem next_run {G : AHeap} (hw : WF G) {p13 p8 p9 p5 bS : Nat} {c : Array Value} {step n : Nat} {m u w : Int} {fi : Value} (h13 : cl G p13 0 = some (.slice (some ⟨bS,0,none⟩) step step)) (h8 : cl G p8 0 = some (.int .i64 (step : Int))) (h9 : cl G p9 0 = some (.func (.func 77) #[fi] #[])) (h5 : cl G p5 0 = some (.int .i64 m))
    (l13 : p13 < G.next ∧ p13 ≠ bS) (l8 : p8 < G.next ∧ p8 ≠ bS) (l9 : p9 < G.next ∧ p9 ≠ bS) (l5 : p5 < G.next ∧ p5 ≠ bS) (lS : Canon.look G.objs bS = some ⟨.cells c 3,false,0⟩) (hcs : c.size = step) (hs : 0 < step) (hcv : c[n % step]? = some (.int .i64 u)) (hm : 0 < m ∧ m ≤ 65521) (hu : 0 ≤ u ∧ u < m) (hww : 0 ≤ w ∧ w < m)
    (hat : ∀ C,Nx G.next G C → Con Try.prog 77 [fi,.int .i64 (n : Int)] C (fun v C1 => v = .int .i64 w ∧ Nx C.next C C1)) (hvq : VQ (.func (.func 77) #[fi] #[])) :
    Con Try.prog 111 [.int .i64 (n : Int),.pointer (some ⟨p13,0,none⟩),.pointer (some ⟨p8,0,none⟩),.pointer (some ⟨p9,0,none⟩),.pointer (some ⟨p5,0,none⟩)] G
      (fun v G1 => v = .int .i64 ((u + w) % m) ∧ WF G1 ∧ G.next ≤ G1.next ∧ (∀ b,b < G.next → b ≠ bS → Canon.look G1.objs b = Canon.look G.objs b) ∧ Canon.look G1.objs bS = some ⟨.cells (c.setIfInBounds (n % step) (.int .i64 ((u + w) % m))) 3,false,0⟩) := by
  refine zAF hc Try.func111 rfl (Nat.le_of_ble_eq_true rfl) ?_
  have hlt : n % step < step := Nat.mod_lt _ hs
  have hbS : bS < G.next := hw _ _ lS
  have hcS : cl G bS (n % step) = some (.int .i64 u) := by rw [zCE lS rfl]; exact hcv
  have hwr : IntKind.i64.wrap (u + w) = u + w := IntWalk.i64_in _ ⟨by omega,by omega⟩
  have hr : ∀ M,bin Try.prog .rem 3 (.int .i64 (u + w)) (.int .i64 m) M = some (.int .i64 ((u + w) % m),M) := fun M => by
    rw [zCS _ _ _ _ (by omega),Int.tmod_eq_emod_of_nonneg (by omega)]
  obtain ⟨F,hFb,hF⟩ : ∃ F : AHeap → Prop,(∀ M,F M → ∀ b,b < G.next → ∀ o,cl M b o = cl G b o) ∧ (∀ M,Nx G.next G M → F M) := ⟨fun M => Nx G.next G M,fun M h b hb o => h.cl hb o,fun _ h => h⟩
  have F13 := fun M hM => (hFb M hM _ l13.1 0).trans h13
  have F8 := fun M hM => (hFb M hM _ l8.1 0).trans h8
  have F9 := fun M hM => (hFb M hM _ l9.1 0).trans h9
  have F5 := fun M hM => (hFb M hM _ l5.1 0).trans h5
  have FS := fun M hM => (hFb M hM _ hbS (n % step)).trans hcS
  have hbk : Nx G.next G (bump G 18) := Nx.bump (Nx.refl hw _) 18
  have FB := hF _ hbk
  rw [s_in5w]
  (repeat (first | refine Rn.seq hc ?_ | refine Rn.skip hc ?_ | refine Rn.block hc ?_ | refine Rn.inBlock hc ?_ | refine Rn.scope hc ?_ | refine Rn.inScope hc ?_))
  refine Rn.reg hc rfl ?_
  simp only [zAS,ne_eq,gd,zAX,rops,fx,zOi,zEl,show Try.f111.ntmps = 30 from rfl]
  (repeat (first | refine Rn.seq hc ?_ | refine Rn.skip hc ?_ | refine Rn.block hc ?_ | refine Rn.inBlock hc ?_ | refine Rn.scope hc ?_ | refine Rn.inScope hc ?_))
  refine Rn.drawnL hc hx (nmS w) F (E := [12]) (n := 17) (k := 18) (by kernel_rfl) (by kernel_rfl) (by rfl) (by kernel_rfl) ?_
  refine DrL.read (by first | rfl | kernel_rfl) (by rfl) (by assumption) (fun M hM => by simp only [zAY,zAU,zAT,sp_n,Nat.reduceLT,ne_eq,Nat.reduceEqDiff,zNf,fx,ld,zAR,tk22,F13 M hM] <;> rfl) (by rfl) (by first | exact VQ.int _ _ | exact VQ.bool _ | exact VQ.ptr _ _ | exact VQ.slice _ _ _ | exact VQ.func (by simp [zAW,zAV,zAZ]) (by simp [zAW,zAV,zAZ]) | exact VQ.agg (by simp [zAW,zAV,zAZ]) | exact VQ.tuple (by simp [zAW,zAV,zAZ])) ?_
  refine DrL.read (by first | rfl | kernel_rfl) (by rfl) (by assumption) (fun M hM => by simp only [zAY,zAU,zAT,Nat.reduceLT,ne_eq,Nat.reduceEqDiff,zNf,fx] <;> rfl) (by rfl) (by first | exact VQ.int _ _ | exact VQ.bool _ | exact VQ.ptr _ _ | exact VQ.slice _ _ _ | exact VQ.func (by simp [zAW,zAV,zAZ]) (by simp [zAW,zAV,zAZ]) | exact VQ.agg (by simp [zAW,zAV,zAZ]) | exact VQ.tuple (by simp [zAW,zAV,zAZ])) ?_
  refine DrL.read (by first | rfl | kernel_rfl) (by rfl) (by assumption) (fun M hM => by simp only [zAY,zAU,zAT,sp_n,Nat.reduceLT,ne_eq,Nat.reduceEqDiff,zNf,fx,ld,zAR,tk3,F8 M hM] <;> rfl) (by rfl) (by first | exact VQ.int _ _ | exact VQ.bool _ | exact VQ.ptr _ _ | exact VQ.slice _ _ _ | exact VQ.func (by simp [zAW,zAV,zAZ]) (by simp [zAW,zAV,zAZ]) | exact VQ.agg (by simp [zAW,zAV,zAZ]) | exact VQ.tuple (by simp [zAW,zAV,zAZ])) ?_
  refine DrL.read (by first | rfl | kernel_rfl) (by rfl) (by assumption) (fun M hM => by simp only [zAY,zAU,zAT,sp_n,Nat.reduceLT,ne_eq,Nat.reduceEqDiff,zNf,fx,rem_nat hs] <;> rfl) (by rfl) (by first | exact VQ.int _ _ | exact VQ.bool _ | exact VQ.ptr _ _ | exact VQ.slice _ _ _ | exact VQ.func (by simp [zAW,zAV,zAZ]) (by simp [zAW,zAV,zAZ]) | exact VQ.agg (by simp [zAW,zAV,zAZ]) | exact VQ.tuple (by simp [zAW,zAV,zAZ])) ?_
  refine DrL.read (by first | rfl | kernel_rfl) (by rfl) (by assumption) (fun M hM => by simp only [zAY,zAU,zAT,sp_n,Nat.reduceLT,ne_eq,Nat.reduceEqDiff,zNf,fx,ld,zAR,tk22,F13 M hM] <;> rfl) (by rfl) (by first | exact VQ.int _ _ | exact VQ.bool _ | exact VQ.ptr _ _ | exact VQ.slice _ _ _ | exact VQ.func (by simp [zAW,zAV,zAZ]) (by simp [zAW,zAV,zAZ]) | exact VQ.agg (by simp [zAW,zAV,zAZ]) | exact VQ.tuple (by simp [zAW,zAV,zAZ])) ?_
  refine DrL.read (by first | rfl | kernel_rfl) (by rfl) (by assumption) (fun M hM => by simp only [zAY,zAU,zAT,Nat.reduceLT,ne_eq,Nat.reduceEqDiff,zNf,fx] <;> rfl) (by rfl) (by first | exact VQ.int _ _ | exact VQ.bool _ | exact VQ.ptr _ _ | exact VQ.slice _ _ _ | exact VQ.func (by simp [zAW,zAV,zAZ]) (by simp [zAW,zAV,zAZ]) | exact VQ.agg (by simp [zAW,zAV,zAZ]) | exact VQ.tuple (by simp [zAW,zAV,zAZ])) ?_
  refine DrL.read (by first | rfl | kernel_rfl) (by rfl) (by assumption) (fun M hM => by simp only [zAY,zAU,zAT,sp_n,Nat.reduceLT,ne_eq,Nat.reduceEqDiff,zNf,fx,ld,zAR,tk3,F8 M hM] <;> rfl) (by rfl) (by first | exact VQ.int _ _ | exact VQ.bool _ | exact VQ.ptr _ _ | exact VQ.slice _ _ _ | exact VQ.func (by simp [zAW,zAV,zAZ]) (by simp [zAW,zAV,zAZ]) | exact VQ.agg (by simp [zAW,zAV,zAZ]) | exact VQ.tuple (by simp [zAW,zAV,zAZ])) ?_
  refine DrL.read (by first | rfl | kernel_rfl) (by rfl) (by assumption) (fun M hM => by simp only [zAY,zAU,zAT,sp_n,Nat.reduceLT,ne_eq,Nat.reduceEqDiff,zNf,fx,rem_nat hs] <;> rfl) (by rfl) (by first | exact VQ.int _ _ | exact VQ.bool _ | exact VQ.ptr _ _ | exact VQ.slice _ _ _ | exact VQ.func (by simp [zAW,zAV,zAZ]) (by simp [zAW,zAV,zAZ]) | exact VQ.agg (by simp [zAW,zAV,zAZ]) | exact VQ.tuple (by simp [zAW,zAV,zAZ])) ?_
  refine DrL.read (by first | rfl | kernel_rfl) (by rfl) (by assumption) (fun M hM => by simp only [zAY,zAU,zAT,sp_n,Nat.reduceLT,ne_eq,Nat.reduceEqDiff,zNf,fx,idx,Nat.zero_add,Nat.mul_one,eo22,zAQ hlt] <;> rfl) (by rfl) (by first | exact VQ.int _ _ | exact VQ.bool _ | exact VQ.ptr _ _ | exact VQ.slice _ _ _ | exact VQ.func (by simp [zAW,zAV,zAZ]) (by simp [zAW,zAV,zAZ]) | exact VQ.agg (by simp [zAW,zAV,zAZ]) | exact VQ.tuple (by simp [zAW,zAV,zAZ])) ?_
  refine DrL.read (by first | rfl | kernel_rfl) (by rfl) (by assumption) (fun M hM => by simp only [zAY,zAU,sp_n,Nat.reduceLT,fx,ld,zAR,tk3,FS M hM] <;> rfl) (by rfl) (by first | exact VQ.int _ _ | exact VQ.bool _ | exact VQ.ptr _ _ | exact VQ.slice _ _ _ | exact VQ.func (by simp [zAW,zAV,zAZ]) (by simp [zAW,zAV,zAZ]) | exact VQ.agg (by simp [zAW,zAV,zAZ]) | exact VQ.tuple (by simp [zAW,zAV,zAZ])) ?_
  refine DrL.read (by first | rfl | kernel_rfl) (by rfl) (by assumption) (fun M hM => by simp only [zAY,zAU,zAT,sp_n,Nat.reduceLT,ne_eq,Nat.reduceEqDiff,zNf,fx,ld,zAR,tk69,F9 M hM] <;> rfl) (by rfl) (by first | exact hvq | exact VQ.int _ _ | exact VQ.bool _ | exact VQ.ptr _ _ | exact VQ.slice _ _ _ | exact VQ.func (by simp [zAW,zAV,zAZ]) (by simp [zAW,zAV,zAZ]) | exact VQ.agg (by simp [zAW,zAV,zAZ]) | exact VQ.tuple (by simp [zAW,zAV,zAZ])) ?_
  refine DrL.read (by first | rfl | kernel_rfl) (by rfl) (by assumption) (fun M hM => by simp only [zAY,zAU,zAT,Nat.reduceLT,ne_eq,Nat.reduceEqDiff,zNf,fx] <;> rfl) (by rfl) (by first | exact VQ.int _ _ | exact VQ.bool _ | exact VQ.ptr _ _ | exact VQ.slice _ _ _ | exact VQ.func (by simp [zAW,zAV,zAZ]) (by simp [zAW,zAV,zAZ]) | exact VQ.agg (by simp [zAW,zAV,zAZ]) | exact VQ.tuple (by simp [zAW,zAV,zAZ])) ?_
  refine DrL.call (by kernel_rfl) (by rfl) (by assumption) (by rfl) (zAA (g := 77) (fi := #[fi]) (ca := #[]) (by rfl) ⟨by rfl,by rfl⟩ (by simp only [zAY,zAU,zAT,sp_n,Nat.reduceLT,ne_eq,Nat.reduceEqDiff,zNf]) (xs := [fi,.int .i64 (n : Int)]) (by simp only [zAY,zAU,sp_n,Nat.reduceLT,List.map_cons,List.map_nil,List.nil_append,List.append_nil,List.cons_append]) (Con.mono (hat _ hbk) fun v A1 h => (h : v = .int .i64 w ∧ Nx (bump G 18).next (bump G 18) A1))) ?_
  rintro v M1 ⟨rfl,k1⟩
  have hM1 : Nx G.next G M1 := hbk.trans (k1.le hbk.next)
  have FM1 := hF _ hM1
  refine DrL.read (by first | rfl | kernel_rfl) (by rfl) (by assumption) (fun M hM => by simp only [zAY,zAU,zAT,sp_n,Nat.reduceLT,ne_eq,Nat.reduceEqDiff,zNf,fx,zAH,hwr] <;> rfl) (by rfl) (by first | exact VQ.int _ _ | exact VQ.bool _ | exact VQ.ptr _ _ | exact VQ.slice _ _ _ | exact VQ.func (by simp [zAW,zAV,zAZ]) (by simp [zAW,zAV,zAZ]) | exact VQ.agg (by simp [zAW,zAV,zAZ]) | exact VQ.tuple (by simp [zAW,zAV,zAZ])) ?_
  refine DrL.read (by first | rfl | kernel_rfl) (by rfl) (by assumption) (fun M hM => by simp only [zAY,zAU,zAT,sp_n,Nat.reduceLT,ne_eq,Nat.reduceEqDiff,zNf,fx,ld,zAR,tk3,F5 M hM] <;> rfl) (by rfl) (by first | exact VQ.int _ _ | exact VQ.bool _ | exact VQ.ptr _ _ | exact VQ.slice _ _ _ | exact VQ.func (by simp [zAW,zAV,zAZ]) (by simp [zAW,zAV,zAZ]) | exact VQ.agg (by simp [zAW,zAV,zAZ]) | exact VQ.tuple (by simp [zAW,zAV,zAZ])) ?_
  refine DrL.read (by first | rfl | kernel_rfl) (by rfl) (by assumption) (fun M hM => by simp only [zAY,zAU,zAT,sp_n,Nat.reduceLT,ne_eq,Nat.reduceEqDiff,zNf,fx,hr] <;> rfl) (by rfl) (by first | exact VQ.int _ _ | exact VQ.bool _ | exact VQ.ptr _ _ | exact VQ.slice _ _ _ | exact VQ.func (by simp [zAW,zAV,zAZ]) (by simp [zAW,zAV,zAZ]) | exact VQ.agg (by simp [zAW,zAV,zAZ]) | exact VQ.tuple (by simp [zAW,zAV,zAZ])) ?_
  refine DrL.read (by first | rfl | kernel_rfl) (by rfl) (by assumption) (fun M hM => by simp only [zAY,zAU,zAT,sp_n,Nat.reduceLT,ne_eq,Nat.reduceEqDiff,zNf,fx,idx,Nat.zero_add,Nat.mul_one,eo22,zAQ hlt] <;> rfl) (by rfl) (by first | exact VQ.int _ _ | exact VQ.bool _ | exact VQ.ptr _ _ | exact VQ.slice _ _ _ | exact VQ.func (by simp [zAW,zAV,zAZ]) (by simp [zAW,zAV,zAZ]) | exact VQ.agg (by simp [zAW,zAV,zAZ]) | exact VQ.tuple (by simp [zAW,zAV,zAZ])) ?_
  have lM1 : Canon.look M1.objs bS = _ := (hM1.keep _ hbS).trans lS
  obtain ⟨M2,v1,v2⟩ := st1_upd (o := n % step) (v := .int .i64 ((u + w) % m)) lM1 rfl (by omega) rfl
  refine DrL.eff (by rfl) (by rfl) (pd1 := []) (pd2 := []) (by kernel_rfl) (by kernel_rfl) (ms0 := []) (A0 := M1) rfl (fun _ h => by cases h) FM1 (by rfl) (v := undef) (A1 := M2) (zBQ rfl (fx_ok (by rfl) (by simp only [zAY,zAU,zAT,sp_n,Nat.reduceLT,ne_eq,Nat.reduceEqDiff,zNf,fx,str,zAR,tk3,v1]))) ?_
  refine DrL.nil ⟨by rfl,M2,by rfl,?_⟩
  obtain ⟨c',t,f,g,e,r1,r2,_⟩ := v2.at'
  rw [lM1] at r1
  cases r1
  have n2 := v2.next
  have nM := hM1.next
  have z13 : cl M2 p13 0 = _ := (zBW (v2.off _ l13.2)).trans ((hM1.cl l13.1 0).trans h13)
  have z8 : cl M2 p8 0 = _ := (zBW (v2.off _ l8.2)).trans ((hM1.cl l8.1 0).trans h8)
  have zS : cl M2 bS (n % step) = some (.int .i64 ((u + w) % m)) := by
    rw [zCE r2 rfl]
    show (c.setIfInBounds (n % step) _)[n % step]? = _
    rw [Array.getElem?_setIfInBounds,if_pos rfl,if_pos (by omega)]
  (repeat (first | refine Rn.seq hc ?_ | refine Rn.skip hc ?_ | refine Rn.block hc ?_ | refine Rn.inBlock hc ?_ | refine Rn.scope hc ?_ | refine Rn.inScope hc ?_))
  refine Rn.zDV hc hx (by kernel_rfl) (by rfl) (by kernel_rfl) ?_ ?_
  · simp only [rdV,VQ.int,VQ.ptr,VQ.slice,zBT,zAY,zAU,zAT,sp_n,zAK,Nat.reduceLT,ne_eq,Nat.reduceEqDiff,zNf,gd,zAX,fx,ld,idx,zAR,Nat.zero_add,Nat.reduceAdd,Nat.mul_one,and_self,tk3,tk22,eo22,z13,z8,zS,rem_nat hs,zAQ hlt,List.length_cons,List.length_nil]
  simp only [zBT,zAY,zAU,zAT,sp_n,zAK,Nat.reduceLT,ne_eq,Nat.reduceEqDiff,zNf,gd,zAX,rops,fx,ld,idx,zAR,Nat.zero_add,zOi,zEl,Nat.reduceAdd,Nat.mul_one,tk3,tk22,eo22,z13,z8,zS,rem_nat hs,zAQ hlt,List.length_cons,List.length_nil]
  (repeat (first | refine Rn.seq hc ?_ | refine Rn.skip hc ?_ | refine Rn.block hc ?_ | refine Rn.inBlock hc ?_ | refine Rn.scope hc ?_ | refine Rn.inScope hc ?_))
  refine Rn.ret (zAO rfl ⟨?_,WF.bump (v2.nx hM1.wf (Nat.zero_le _)).wf _,by rw [zAD]; omega,fun b hb hne => ?_,r2⟩)
  · simp only [zAU,sp_n,Nat.reduceLT]
  · show Canon.look M2.objs b = _
    rw [v2.off _ hne]
    exact hM1.keep _ hb
structure SumSt (C : AHeap) (bS : Nat) (m : Int) (a : Nat → Int) (step : Nat) (G : AHeap) (M L : Nat) (wa : Option Addr) : Prop where
  wf : WF G
  next : C.next ≤ G.next
  keep : ∀ b,b < C.next → b ≠ bS → Canon.look G.objs b = Canon.look C.objs b
  arr : ∃ c : Array Value,c.size = step ∧ Canon.look G.objs bS = some ⟨.cells c 3,false,0⟩ ∧ ∀ n,M ≤ n → n < M + step → c[n % step]? = some (.int .i64 (scY m a step n))
  gr : Gr G wa C.next (redS (scn m a step) L)
theorem SumSt.nx {C : AHeap} {bS : Nat} {m : Int} {a : Nat → Int} {step : Nat} {G H : AHeap} {M L : Nat} {wa : Option Addr} (h : SumSt C bS m a step G M L wa) (k : Nx G.next G H) : SumSt C bS m a step H M L wa where
  wf := k.wf
  next := Nat.le_trans h.next k.next
  keep := fun b hb hne => (k.keep _ (Nat.lt_of_lt_of_le hb h.next)).trans (h.keep b hb hne)
  arr := by
    obtain ⟨c,h1,h2,h3⟩ := h.arr
    exact ⟨c,h1,(k.keep _ (h.wf _ _ h2)).trans h2,h3⟩
  gr := h.gr.nx (n := 0) h.wf k
structure SumV (C : AHeap) (bS p13 p8 p9 p5 : Nat) (m : Int) (step : Nat) (fi : Value) : Prop where
  h13 : cl C p13 0 = some (.slice (some ⟨bS,0,none⟩) step step)
  h8 : cl C p8 0 = some (.int .i64 (step : Int))
  h9 : cl C p9 0 = some (.func (.func 77) #[fi] #[])
  h5 : cl C p5 0 = some (.int .i64 m)
  l13 : p13 < C.next ∧ p13 ≠ bS
  l8 : p8 < C.next ∧ p8 ≠ bS
  l9 : p9 < C.next ∧ p9 ≠ bS
  l5 : p5 < C.next ∧ p5 ≠ bS
  lS : bS < C.next
theorem sum_next {C : AHeap} {bS p13 p8 p9 p5 : Nat} {m : Int} {a : Nat → Int} {step : Nat} {fi : Value} (hV : SumV C bS p13 p8 p9 p5 m step fi) (hs : 0 < step) (hm : 0 < m ∧ m ≤ 65521) (ha : ∀ n,0 ≤ a n ∧ a n < m) (hvq : VQ (.func (.func 77) #[fi] #[])) {G : AHeap} {M L : Nat} {wa : Option Addr} (h : SumSt C bS m a step G M L wa)
    (hat : ∀ C1,Nx G.next G C1 → Con Try.prog 77 [fi,.int .i64 (M : Int)] C1 (fun v C2 => v = .int .i64 (a M) ∧ Nx C1.next C1 C2)) :
    Con Try.prog 111 [.int .i64 (M : Int),.pointer (some ⟨p13,0,none⟩),.pointer (some ⟨p8,0,none⟩),.pointer (some ⟨p9,0,none⟩),.pointer (some ⟨p5,0,none⟩)] G
      (fun v G1 => v = .int .i64 (scn m a step M) ∧ SumSt C bS m a step G1 (M + 1) L wa ∧ G.next ≤ G1.next ∧ ∀ b,b < G.next → b ≠ bS → Canon.look G1.objs b = Canon.look G.objs b) := by
  obtain ⟨c,h1,h2,h3⟩ := h.arr
  have hn := h.next
  have k13 : cl G p13 0 = _ := (zBW (h.keep _ hV.l13.1 hV.l13.2)).trans hV.h13
  have k8 : cl G p8 0 = _ := (zBW (h.keep _ hV.l8.1 hV.l8.2)).trans hV.h8
  have k9 : cl G p9 0 = _ := (zBW (h.keep _ hV.l9.1 hV.l9.2)).trans hV.h9
  have k5 : cl G p5 0 = _ := (zBW (h.keep _ hV.l5.1 hV.l5.2)).trans hV.h5
  refine Con.mono (next_run h.wf k13 k8 k9 k5 ⟨by have := hV.l13.1; omega,hV.l13.2⟩ ⟨by have := hV.l8.1; omega,hV.l8.2⟩ ⟨by have := hV.l9.1; omega,hV.l9.2⟩ ⟨by have := hV.l5.1; omega,hV.l5.2⟩ h2 h1 hs (h3 M (Nat.le_refl _) (by omega)) hm (scY_lim hm.1 M) (ha M) hat hvq) fun v G1 ⟨q1,q2,q3,q4,q5⟩ => ⟨?_,⟨q2,by omega,fun b hb hne => (q4 b (by omega) hne).trans (h.keep b hb hne),⟨_,by rw [Array.size_setIfInBounds]; exact h1,q5,fun n hn1 hn2 => ?_⟩,?_⟩,q3,q4⟩
  · rw [q1,scn_eq hs]
  · rw [Array.getElem?_setIfInBounds]
    by_cases hne : n = M + step
    · subst hne
      rw [Nat.add_mod_right,if_pos rfl,if_pos (by rw [h1]; exact Nat.mod_lt _ hs),scY_step hs]
    · rw [if_neg]
      · exact h3 n (by omega) (by omega)
      · intro he
        have e1 := Nat.div_add_mod M step
        have e2 := Nat.div_add_mod n step
        have h4 : M / step ≤ n / step := Nat.div_le_div_right (by omega)
        have h5 : M / step < n / step + 1 := by omega
        by_cases h6 : n / step = M / step
        · rw [h6] at e2; omega
        · have h7 : step * (M / step + 1) ≤ step * (n / step) := Nat.mul_le_mul_left _ (by omega)
          rw [Nat.mul_add,Nat.mul_one] at h7
          omega
  · refine h.gr.ext q3 fun b hb => ?_
    by_cases hlt : b < G.next
    · exact .inr (q4 b hlt (by have := hV.lS; omega))
    · exact .inl (h.wf.none (by omega))
theorem sum_push {C : AHeap} {bS : Nat} {m : Int} {a : Nat → Int} {step : Nat} {G : AHeap} {M L : Nat} {wa : Option Addr} (h : SumSt C bS m a step G M L wa) (hbS : bS < C.next) {b2 : Nat} (hx : cl G b2 0 = some (.int .i64 (scn m a step L))) (hlen : L ≤ 4000000) :
    ∃ G1,aapp Try.prog #[22,22] #[.slice wa L L,.slice (some ⟨b2,0,none⟩) 1 1] G = some (.slice (some ⟨G.next,0,none⟩) (L + 1) (L + 1),G1) ∧ G1.next = G.next + 1 ∧ SumSt C bS m a step G1 M (L + 1) (some ⟨G.next,0,none⟩) ∧ (∀ b,b < G.next → (∀ y,wa = some y → y.block ≠ b) → Canon.look G1.objs b = Canon.look G.objs b) := by
  obtain ⟨G1,q1,q2,q3,q4,q5,q6⟩ := gr_push h.wf h.gr (a2 := some ⟨b2,0,none⟩) (c2 := 1) (b2 := b2) (x := scn m a step L) rfl hx (by rw [zAL]; exact hlen)
  rw [zAL] at q1
  rw [redS_snoc] at q4
  have hn := h.next
  have hk : Nx C.next G G1 := q6.le (by omega)
  refine ⟨G1,q1,q2,⟨q3,by omega,fun b hb hne => (hk.keep b hb).trans (h.keep b hb hne),?_,q4.mono hn⟩,q5⟩
  obtain ⟨c,h1,h2,h3⟩ := h.arr
  exact ⟨c,h1,(hk.keep _ hbS).trans h2,h3⟩
theorem SumSt.lt {C : AHeap} {bS : Nat} {m : Int} {a : Nat → Int} {step : Nat} {G : AHeap} {M L : Nat} {wa : Option Addr} (h : SumSt C bS m a step G M L wa) {y : Addr} (hy : wa = some y) : C.next ≤ y.block ∧ y.block < G.next := by
  obtain ⟨_,h1,z,hz,_⟩ := h.gr.sl y hy
  exact ⟨h1,h.wf _ _ hz⟩
end Go.Proofs.Ytdaljohmfnfgiaa
namespace Go.Proofs.Ytdaljohmfnfgiaa
open Go Go.RowKit Go.Proofs.Ytdaljohmfnfgiaa.Canon
set_option maxRecDepth 20000
theorem box1 {A : AHeap} (hw : WF A) (v : Value) (t : TypeId) : ∃ A1,A.push (.cells #[v] t) = A1 ∧ Nx A.next A A1 ∧ A1.next = A.next + 1 ∧ cl A1 A.next 0 = some v ∧ Canon.look A1.objs A.next = some ⟨.cells #[v] t,false,0⟩ :=
  ⟨_,rfl,(Nx.refl hw _).push (Nat.le_refl _) _,rfl,by rw [cl_push_eq]; rfl,zAI A _⟩
theorem cls_rep {M step i : Nat} (hi : i < step) : ∃ n,M ≤ n ∧ n < M + step ∧ n % step = i := by
  have e := Nat.div_add_mod M step
  have h := Nat.mod_lt M (show 0 < step by omega)
  by_cases hr : M % step ≤ i
  · refine ⟨M + (i - M % step),by omega,by omega,?_⟩
    rw [show M + (i - M % step) = step * (M / step) + i by omega,Nat.mul_add_mod,Nat.mod_eq_of_lt hi]
  · refine ⟨M + (step - M % step + i),by omega,by omega,?_⟩
    rw [show M + (step - M % step + i) = step * (M / step) + (step + i) by omega,Nat.mul_add_mod,Nat.add_mod_left,Nat.mod_eq_of_lt hi]
theorem tld_tp {A D : AHeap} {m : Int} {s : Nat → Int} (h : TP 0 m s 0 [] [] 11) (hx : Nx A.next A D) : Tld A 0 m s (.tuple #[.agg #[.int .i64 0,.slice none 0 0,.slice none 0 0],.int .i64 11]) D :=
  ⟨hx,0,[],[],11,none,0,none,0,h,rfl,ints_nil' _ _ _ _,ints_nil' _ _ _ _,fun h0 => absurd h0 (by simp),fun h0 => absurd h0 (by simp),fun y hy => (by cases hy),fun y hy => (by cases hy),Nat.le_refl _,Nat.le_refl _⟩
theorem asl_lo1 {A : AHeap} {b o lo len : Nat} (hs : Sl A (some ⟨b,o,none⟩) lo) {n : Nat} (hn : n < len) : asl Try.prog 22 (.slice (some ⟨b,o,none⟩) len len) (some (.int .i64 (n : Int))) none none A = some (.slice (some ⟨b,o + n,none⟩) (len - n) (len - n),A) := by
  obtain ⟨_,i,z,hinf,_,_,_,hsz,_⟩ := elB_eq el22
  have hb1 : zBN (some (.int .i64 (n : Int))) 0 = some n := by simp [zBN]
  have hb0 : ∀ d,zBN none d = some d := fun _ => rfl
  have t2 : Nat.ble n len = true := Nat.ble_eq_true_of_le (by omega)
  have t3 : Nat.ble len len = true := Nat.ble_eq_true_of_le (Nat.le_refl _)
  have hne : ¬ len = n := by omega
  obtain ⟨_,_,y,hy,hg⟩ := hs _ rfl
  obtain ⟨ob,g,zz⟩ := y
  have hadd : (⟨b,o,none⟩ : Addr).add (n * i.size) = ⟨b,o + n,none⟩ := by
    rw [hsz,Nat.mul_one,addr_add]
  rcases hg with hg | ⟨hg,_,hz⟩
  · simp only at hg
    subst hg
    simp only [asl,un22,hinf,hb0,hb1,t2,Option.isSome_none,Bool.not_false,Bool.true_or,hy]
    rw [t3]
    simp only [hne,if_false,hadd]
  · simp only at hg hz
    subst hg hz
    have hzi : Nat.beq 1 i.size = true := by rw [hsz]; rfl
    have hcb : Nat.beq (len - n) 0 = false := by
      cases hb : Nat.beq (len - n) 0 with
      | false => rfl
      | true => have := Nat.eq_of_beq_eq_true hb; omega
    simp only [asl,un22,hinf,hb0,hb1,t2,Option.isSome_none,Bool.not_false,Bool.true_or,hy,hzi,hcb,hadd]
    rw [t3]
def smS (d g L : Nat) : Canon.Spec := fun f _ A v A1 => match f with
  | 89 => v = .int .i64 (d : Int) ∧ Nx A.next A A1
  | 108 => v = .int .i64 (g : Int) ∧ Nx A.next A A1
  | _ => v = .int .i64 (L : Int) ∧ Nx A.next A A1
theorem summed_run {A : AHeap} (hw : WF A) {m stem round step : Nat} {fi : Value} {a : Nat → Int} (hm : 2 ≤ m ∧ m ≤ 65521) (hst : stem ≤ 1000) (hro : 1 ≤ round ∧ round ≤ 120) (hsp : 1 ≤ step ∧ step ≤ 120) (hlim : ∀ n,0 ≤ a n ∧ a n < (m : Int)) (hP : Per a stem round)
    (hat : ∀ C,Nx A.next A C → ∀ n : Nat,n < 10000000 → Con Try.prog 77 [fi,.int .i64 (n : Int)] C (fun v C1 => v = .int .i64 (a n) ∧ Nx C.next C C1)) (hvq : VQ (.func (.func 77) #[fi] #[])) :
    Con Try.prog 91 [.int .i64 (m : Int),.int .i64 (stem : Int),.int .i64 (round : Int),.int .i64 (step : Int),.func (.func 77) #[fi] #[]] A (Tld A 0 m (scn m a step)) := by
  refine zAF hc Try.func91 rfl (Nat.le_of_ble_eq_true rfl) ?_
  obtain ⟨A1,e1,hx1,hn1,b5,-⟩ := box1 hw (.int .i64 (m : Int)) 3
  obtain ⟨A2,e2,hx2,hn2,b8,-⟩ := box1 hx1.wf (.int .i64 (step : Int)) 3
  obtain ⟨A3,e3,hx3,hn3,b9,-⟩ := box1 hx2.wf (.func (.func 77) #[fi] #[]) 69
  have hx4 : Nx A3.next A3 (A3.push (.cells #[.int .i64 0,.slice none 0 0,.slice none 0 0] 24)) := (Nx.refl hx3.wf _).push (Nat.le_refl _) _
  have l4 := zAI A3 (.cells #[.int .i64 0,.slice none 0 0,.slice none 0 0] 24)
  have hn4 : (A3.push (.cells #[.int .i64 0,.slice none 0 0,.slice none 0 0] 24)).next = A3.next + 1 := rfl
  generalize e4 : A3.push (.cells #[.int .i64 0,.slice none 0 0,.slice none 0 0] 24) = A4 at hx4 l4 hn4
  have hx5 : Nx A4.next A4 (A4.push (.cells #[.int .i64 (round : Int),.int .i64 (step : Int)] 3)) := (Nx.refl hx4.wf _).push (Nat.le_refl _) _
  have l5 := zAI A4 (.cells #[.int .i64 (round : Int),.int .i64 (step : Int)] 3)
  have hn5 : (A4.push (.cells #[.int .i64 (round : Int),.int .i64 (step : Int)] 3)).next = A4.next + 1 := rfl
  generalize e5 : A4.push (.cells #[.int .i64 (round : Int),.int .i64 (step : Int)] 3) = A5 at hx5 l5 hn5
  have b8' := (hx4.cl (show A1.next < A3.next by omega) 0).trans ((hx3.cl (show A1.next < A2.next by omega) 0).trans b8)
  obtain ⟨f1,f2,f3,f4⟩ := lcmN_facts (show 0 < round by omega) (show 0 < step by omega)
  have hB2 : lcmN round step ≤ 120 * 120 := Nat.le_trans f4 (Nat.mul_le_mul hro.2 hsp.2)
  rw [s_in5w]
  (repeat (first | refine Rn.seq hc ?_ | refine Rn.skip hc ?_ | refine Rn.block hc ?_ | refine Rn.inBlock hc ?_ | refine Rn.scope hc ?_ | refine Rn.inScope hc ?_))
  refine Rn.reg hc rfl ?_
  simp only [zAY,zAS,zAU,zAT,sp_n,Nat.reduceLT,ne_eq,Nat.reduceEqDiff,zNf,gd,zAX,rops,fx,zOi,zEl,Value.cells,show Try.f91.ntmps = 113 from rfl,e1,e2,e3,ze24,e4]
  (repeat (first | refine Rn.seq hc ?_ | refine Rn.skip hc ?_ | refine Rn.block hc ?_ | refine Rn.inBlock hc ?_ | refine Rn.scope hc ?_ | refine Rn.inScope hc ?_))
  refine Rn.region hc fun K hK => ?_
  refine Wo.run hc 3 rfl rfl rfl ?_
  simp (maxSteps := 2000000) only [List.drop_zero,List.take_succ_cons,List.take_zero,zAY,zAU,zAT,sp_n,Nat.reduceLT,ne_eq,Nat.reduceEqDiff,not_false_eq_true,gd,zAX,rops,fx,ld,zAR,Nat.zero_add,Option.some.injEq,exists_eq_left',tk3,b8',bs22_2,zBY,e5]
  refine Wo.call hc (by rfl) (by rfl) ⟨by rfl,by rfl⟩ (xs := [.slice (some ⟨A4.next,0,none⟩) 2 2]) (by rfl) (by rfl) (by rfl) (Con.mono (lcm_two hx5.wf (x := round) (y := step) (by rw [zCE l5 rfl]; rfl) (by rw [zCE l5 rfl]; rfl) (by omega) ⟨by omega,by omega⟩ ⟨by omega,by omega⟩) ?_)
  rintro w A6 ⟨rfl,hx6⟩
  refine Wo.run hc 1 rfl rfl rfl ?_
  simp (maxSteps := 2000000) only [List.drop_zero,List.drop_succ_cons,List.take_succ_cons,List.take_zero,zAY,zAU,sp_n,Nat.reduceLT,gd,zAX,rops,fx,Option.some.injEq,exists_eq_left',Nat.reduceAdd]
  refine Wo.done hc rfl (hK _ _ ?_)
  clear hK
  (repeat (first | refine Rn.seq hc ?_ | refine Rn.skip hc ?_ | refine Rn.block hc ?_ | refine Rn.inBlock hc ?_ | refine Rn.scope hc ?_ | refine Rn.inScope hc ?_))
  have hdvS : step ∣ lcmN round step := Nat.dvd_of_mod_eq_zero f3
  have hdvR : round ∣ lcmN round step := Nat.dvd_of_mod_eq_zero f2
  generalize lcmN round step = B at f1 f2 f3 f4 hB2 hdvS hdvR ⊢
  have hP' : ∀ n,stem ≤ n → a (n + B) = a n := fun n hn => by
    obtain ⟨q,rfl⟩ := hdvR
    rw [Nat.mul_comm]
    exact hP.times q n hn
  clear f2 f3 f4
  have n6 := hx6.next
  have hx46 : Nx A4.next A4 A6 := hx5.trans (hx6.le (by omega))
  have hx7 : Nx A6.next A6 (A6.push (.cells (Array.replicate step (.int .i64 0)) 3)) := (Nx.refl hx6.wf _).push (Nat.le_refl _) _
  have l7 := zAI A6 (.cells (Array.replicate step (.int .i64 0)) 3)
  have hn7 : (A6.push (.cells (Array.replicate step (.int .i64 0)) 3)).next = A6.next + 1 := rfl
  generalize e7 : A6.push (.cells (Array.replicate step (.int .i64 0)) 3) = A7 at hx7 l7 hn7
  obtain ⟨A8,e8,hx8,hn8,-,l8⟩ := box1 hx7.wf (.slice none 0 0) 22
  obtain ⟨C,q9,u9⟩ := st1_upd (o := 0) (v := .slice (some ⟨A6.next,0,none⟩) step step) l8 rfl (by simp) rfl
  have hn9 := u9.next
  have hx9 : Nx A7.next A7 C := hx8.trans (u9.nx hx8.wf (Nat.le_refl _))
  have h13 : cl C A7.next 0 = some (.slice (some ⟨A6.next,0,none⟩) step step) := by rw [u9.cl]; rfl
  have hx4C : Nx A4.next A4 C := hx46.trans ((hx7.le (by omega)).trans (hx9.le (by omega)))
  have hx3C : Nx A3.next A3 C := hx4.trans (hx4C.le (by omega))
  have h8 : cl C A1.next 0 = some (.int .i64 (step : Int)) := (hx4C.cl (show A1.next < A4.next by omega) 0).trans b8'
  have h9 : cl C A2.next 0 = some (.func (.func 77) #[fi] #[]) := (hx3C.cl (show A2.next < A3.next by omega) 0).trans b9
  have h5 : cl C A.next 0 = some (.int .i64 (m : Int)) := (hx3C.cl (show A.next < A3.next by omega) 0).trans ((hx3.cl (show A.next < A2.next by omega) 0).trans ((hx2.cl (show A.next < A1.next by omega) 0).trans b5))
  have lR : Canon.look C.objs A3.next = _ := (hx4C.keep _ (by omega)).trans l4
  have hx03 : Nx A.next A A3 := hx1.trans ((hx2.le (by omega)).trans (hx3.le (by omega)))
  have hAC : Nx A.next A C := hx03.trans (hx3C.le (by omega))
  have lS : Canon.look C.objs A6.next = _ := (hx9.keep _ (by omega)).trans l7
  refine Rn.reg hc rfl ?_
  simp only [zAY,zAU,zAT,sp_n,zAK,Nat.reduceLT,ne_eq,Nat.reduceEqDiff,zNf,gd,zAX,rops,fx,ld,str,zAR,zOi,zEl,Value.cells,tk3,tk22,(hx46.cl (show A1.next < A4.next by omega) 0).trans b8',ae_mk2,mk2_nat (show step ≤ 1000000 by omega),e7,ze22,e8,q9]
  (repeat (first | refine Rn.seq hc ?_ | refine Rn.skip hc ?_ | refine Rn.block hc ?_ | refine Rn.inBlock hc ?_ | refine Rn.scope hc ?_ | refine Rn.inScope hc ?_))
  obtain ⟨bS,hbS⟩ : ∃ b,b = A6.next := ⟨_,rfl⟩
  obtain ⟨p13,hp13⟩ : ∃ b,b = A7.next := ⟨_,rfl⟩
  obtain ⟨p8,hp8⟩ : ∃ b,b = A1.next := ⟨_,rfl⟩
  obtain ⟨p9,hp9⟩ : ∃ b,b = A2.next := ⟨_,rfl⟩
  obtain ⟨p5,hp5⟩ : ∃ b,b = A.next := ⟨_,rfl⟩
  obtain ⟨pR,hpR⟩ : ∃ b,b = A3.next := ⟨_,rfl⟩
  rw [← hbS,← hp13] at h13
  rw [← hbS] at lS
  rw [← hp8] at h8
  rw [← hp9] at h9
  rw [← hp5] at h5
  rw [← hpR] at lR
  rw [← hp13,← hp8,← hp9,← hp5,← hpR]
  have hV : SumV C bS p13 p8 p9 p5 (m : Int) step fi := ⟨h13,h8,h9,h5,⟨by omega,by omega⟩,⟨by omega,by omega⟩,⟨by omega,by omega⟩,⟨by omega,by omega⟩,by omega⟩
  have hpRC : pR < C.next := by omega
  have hpRS : pR ≠ bS := by omega
  have hbSA : A.next ≤ bS := by omega
  have hpRA : A.next ≤ pR := by omega
  have hp5R : p5 ≠ pR := by omega
  have S0 : SumSt C bS (m : Int) a step C 0 0 none := ⟨hAC.wf,Nat.le_refl _,fun _ _ _ => rfl,⟨_,Array.size_replicate,lS,fun n h1 h2 => by
    have hn : n < step := by omega
    rw [Nat.mod_eq_of_lt hn,scY_zero hn]
    simp [hn]⟩,Gr.nil _ _⟩
  have hAG : ∀ {G : AHeap} {M L : Nat} {wa : Option Addr},SumSt C bS (m : Int) a step G M L wa → Nx A.next A G := fun {G M L wa} h => ⟨Nat.le_trans hAC.next h.next,h.wf,fun b hb => (h.keep b (by have := hAC.next; omega) (by omega)).trans (hAC.keep b hb)⟩
  have hmi : (0 : Int) < (m : Int) ∧ (m : Int) ≤ 65521 := by omega
  clear e1 e2 e3 e4 e5 e7 e8 q9 u9 l4 l5 l7 l8 b5 b8 b9 b8' hx1 hx2 hx3 hx4 hx5 hx6 hx7 hx8 hx9 hx46 hx4C hx3C hx03 hn1 hn2 hn3 hn4 hn5 hn7 hn8 hn9 n6
  clear hbS hp13 hp8 hp9 hp5 hpR
  refine Rn.reg hc rfl ?_
  simp only [zAY,zAU,zAT,sp_n,Nat.reduceLT,ne_eq,Nat.reduceEqDiff,zNf,gd,zAX,rops,fx,zOi,zEl,ae_mkfunc4]
  (repeat (first | refine Rn.seq hc ?_ | refine Rn.skip hc ?_ | refine Rn.block hc ?_ | refine Rn.inBlock hc ?_ | refine Rn.scope hc ?_ | refine Rn.inScope hc ?_))
  refine Rn.reg hc rfl ?_
  simp only [zAS,gd,zAX,rops,fx,zOi,zEl]
  (repeat (first | refine Rn.seq hc ?_ | refine Rn.skip hc ?_ | refine Rn.block hc ?_ | refine Rn.inBlock hc ?_ | refine Rn.scope hc ?_ | refine Rn.inScope hc ?_))
  refine Rn.reg hc rfl ?_
  simp only [zAY,zAS,zAU,zAT,sp_n,Nat.reduceLT,ne_eq,Nat.reduceEqDiff,zNf,gd,zAX,rops,fx,zOi,zEl]
  (repeat (first | refine Rn.seq hc ?_ | refine Rn.skip hc ?_ | refine Rn.block hc ?_ | refine Rn.inBlock hc ?_ | refine Rn.scope hc ?_ | refine Rn.inScope hc ?_))
  refine Rn.zDY hc (I := fun k s G => ∃ i wa,i ≤ stem ∧ k = stem - i ∧ SumSt C bS (m : Int) a step G i i wa ∧ s.n = 113 ∧ sget s 1 = .int .i64 (stem : Int) ∧ sget s 5 = .pointer (some ⟨p5,0,none⟩) ∧ sget s 8 = .pointer (some ⟨p8,0,none⟩) ∧ sget s 10 = .pointer (some ⟨pR,0,none⟩) ∧ sget s 12 = .int .i64 (B : Int) ∧ sget s 13 = .pointer (some ⟨p13,0,none⟩) ∧ sget s 14 = .func (.func 111) #[] #[.pointer (some ⟨p13,0,none⟩),.pointer (some ⟨p8,0,none⟩),.pointer (some ⟨p9,0,none⟩),.pointer (some ⟨p5,0,none⟩)] ∧ sget s 15 = .slice wa i i ∧ sget s 30 = .int .i64 (stem : Int) ∧ sget s 31 = .int .i64 (i : Int))
    (n := stem) ⟨0,none,by omega,rfl,S0,by simp only [sp_n],by simp only [zAU,zAT,sp_n,Nat.reduceLT,ne_eq,Nat.reduceEqDiff,zNf],by simp only [zAU,zAT,sp_n,Nat.reduceLT,ne_eq,Nat.reduceEqDiff,zNf],by simp only [zAU,zAT,sp_n,Nat.reduceLT,ne_eq,Nat.reduceEqDiff,zNf],by simp only [zAU,zAT,sp_n,Nat.reduceLT,ne_eq,Nat.reduceEqDiff,zNf],by simp only [zAU,zAT,sp_n,Nat.reduceLT,ne_eq,Nat.reduceEqDiff,zNf],by simp only [zAU,zAT,sp_n,Nat.reduceLT,ne_eq,Nat.reduceEqDiff,zNf],by simp only [zAU,zAT,sp_n,Nat.reduceLT,ne_eq,Nat.reduceEqDiff,zNf],by simp only [zAU,zAT,sp_n,Nat.reduceLT,ne_eq,Nat.reduceEqDiff,zNf],by simp only [zAU,zAT,sp_n,Nat.reduceLT,ne_eq,Nat.reduceEqDiff,zNf],by simp only [zAU,sp_n,Nat.reduceLT]; rfl⟩ ?_
  rintro k s G ⟨i,wa,hi,rfl,St,hn,s1,s5,s8,s10,s12,s13,s14,s15,s30,s31⟩ ih
  (repeat (first | refine Rn.seq hc ?_ | refine Rn.skip hc ?_ | refine Rn.block hc ?_ | refine Rn.inBlock hc ?_ | refine Rn.scope hc ?_ | refine Rn.inScope hc ?_))
  by_cases hlt : i < stem
  · have hd : decide ((i : Int) < (stem : Int)) = true := decide_eq_true (by omega)
    refine Rn.reg hc rfl ?_
    simp only [zAY,gd,zAX,rops,fx,zAN,zOi,zEl,s30,s31,hd]
    (repeat (first | refine Rn.seq hc ?_ | refine Rn.skip hc ?_ | refine Rn.block hc ?_ | refine Rn.inBlock hc ?_ | refine Rn.scope hc ?_ | refine Rn.inScope hc ?_))
    refine Rn.zAM hc rfl ?_
    simp only [zAY,zAU,Nat.reduceLT,Value.bool.injEq,zEl,hn]
    (repeat (first | refine Rn.seq hc ?_ | refine Rn.skip hc ?_ | refine Rn.block hc ?_ | refine Rn.inBlock hc ?_ | refine Rn.scope hc ?_ | refine Rn.inScope hc ?_))
    refine Rn.reg hc rfl ?_
    simp only [zAY,zAU,zAT,sp_n,Nat.reduceLT,ne_eq,Nat.reduceEqDiff,zNf,gd,zAX,rops,fx,zOi,zEl,hn,s31]
    (repeat (first | refine Rn.seq hc ?_ | refine Rn.skip hc ?_ | refine Rn.block hc ?_ | refine Rn.inBlock hc ?_ | refine Rn.scope hc ?_ | refine Rn.inScope hc ?_))
    refine Rn.region hc fun K hK => ?_
    refine Wo.run hc 3 rfl rfl rfl ?_
    simp (maxSteps := 2000000) only [List.drop_zero,List.take_succ_cons,List.take_zero,zAY,zAU,zAT,sp_n,Nat.reduceLT,ne_eq,Nat.reduceEqDiff,not_false_eq_true,gd,zAX,rops,fx,Nat.zero_add,Option.some.injEq,exists_eq_left',hn,s14,s15]
    refine Wo.call hc (by rfl) (by rfl) ⟨by rfl,by rfl⟩ (xs := [.int .i64 (i : Int),.pointer (some ⟨p13,0,none⟩),.pointer (some ⟨p8,0,none⟩),.pointer (some ⟨p9,0,none⟩),.pointer (some ⟨p5,0,none⟩)]) (by rfl) (by first | rfl | (simp only [zAY,zAU,zAT,sp_n,Nat.reduceLT,ne_eq,Nat.reduceEqDiff,zNf,hn]; done) | (simp only [zAY,zAU,zAT,sp_n,Nat.reduceLT,ne_eq,Nat.reduceEqDiff,zNf,hn]; rfl)) (by simp only [zAY,zAU,sp_n,Nat.reduceLT,List.map_cons,List.map_nil,List.nil_append,List.cons_append,hn]) (Con.mono (sum_next hV (by omega) hmi hlim hvq St (fun C1 h => hat C1 ((hAG St).trans (h.le (hAG St).next)) i (by omega))) ?_)
    rintro w G1 ⟨rfl,S1,-,-⟩
    obtain ⟨G2,e2,hz2,hn2,z2,-⟩ := box1 S1.wf (.int .i64 (scn (m : Int) a step i)) 3
    obtain ⟨G3,q3,n3,S3,-⟩ := sum_push (S1.nx hz2) hV.lS z2 (by omega)
    refine Wo.run hc 3 rfl rfl rfl ?_
    simp (maxSteps := 2000000) only [List.drop_zero,List.drop_succ_cons,List.take_succ_cons,List.take_zero,zAY,zAU,zAT,sp_n,Nat.reduceLT,ne_eq,Nat.reduceEqDiff,not_false_eq_true,gd,zAX,rops,fx,Option.some.injEq,exists_eq_left',Nat.reduceAdd,hn,bs22_1,zBY,e2,ae_apd,zCQ,q3]
    refine Wo.done hc rfl (hK _ _ ?_)
    clear hK
    (repeat (first | refine Rn.seq hc ?_ | refine Rn.skip hc ?_ | refine Rn.block hc ?_ | refine Rn.inBlock hc ?_ | refine Rn.scope hc ?_ | refine Rn.inScope hc ?_))
    refine Rn.reg hc rfl ?_
    simp only [zAY,zAS,zAU,zAT,sp_n,Nat.reduceLT,ne_eq,Nat.reduceEqDiff,zNf,gd,zAX,rops,fx,zAH,zOi,zEl,hn,s31,zBZ (show i < 9223372036854775807 by omega)]
    (repeat (first | refine Rn.seq hc ?_ | refine Rn.skip hc ?_ | refine Rn.block hc ?_ | refine Rn.inBlock hc ?_ | refine Rn.scope hc ?_ | refine Rn.inScope hc ?_))
    exact ih _ _ _ (by omega) ⟨i + 1,_,by omega,rfl,S3,by simp only [sp_n,hn],by simp only [zAT,ne_eq,Nat.reduceEqDiff,zNf,s1],by simp only [zAT,ne_eq,Nat.reduceEqDiff,zNf,s5],by simp only [zAT,ne_eq,Nat.reduceEqDiff,zNf,s8],by simp only [zAT,ne_eq,Nat.reduceEqDiff,zNf,s10],by simp only [zAT,ne_eq,Nat.reduceEqDiff,zNf,s12],by simp only [zAT,ne_eq,Nat.reduceEqDiff,zNf,s13],by simp only [zAT,ne_eq,Nat.reduceEqDiff,zNf,s14],by simp only [zAU,zAT,sp_n,Nat.reduceLT,ne_eq,Nat.reduceEqDiff,zNf,hn],by simp only [zAT,ne_eq,Nat.reduceEqDiff,zNf,s30],by simp only [zAU,sp_n,Nat.reduceLT,hn]⟩
  · have hd : decide ((i : Int) < (stem : Int)) = false := decide_eq_false (by omega)
    have hil : i = stem := by omega
    subst hil
    clear ih
    refine Rn.reg hc rfl ?_
    simp only [zAY,gd,zAX,rops,fx,zAN,zOi,zEl,s30,s31,hd]
    (repeat (first | refine Rn.seq hc ?_ | refine Rn.skip hc ?_ | refine Rn.block hc ?_ | refine Rn.inBlock hc ?_ | refine Rn.scope hc ?_ | refine Rn.inScope hc ?_))
    refine Rn.zAM hc rfl ?_
    simp only [zAY,zAU,Nat.reduceLT,Value.bool.injEq,zEl,hn]
    (repeat (first | refine Rn.seq hc ?_ | refine Rn.skip hc ?_ | refine Rn.block hc ?_ | refine Rn.inBlock hc ?_ | refine Rn.scope hc ?_ | refine Rn.inScope hc ?_))
    refine Rn.exit hc rfl ?_
    (repeat (first | refine Rn.seq hc ?_ | refine Rn.skip hc ?_ | refine Rn.block hc ?_ | refine Rn.inBlock hc ?_ | refine Rn.scope hc ?_ | refine Rn.inScope hc ?_))
    clear hd s30 s31
    obtain ⟨c,hcs,lG,hcv⟩ := St.arr
    have nCG := St.next
    have z8 : cl G p8 0 = some (.int .i64 (step : Int)) := (zBW (St.keep _ hV.l8.1 hV.l8.2)).trans h8
    have hcc : ∀ j,j < step → ∃ u : Int,c[j]? = some (.int .i64 u) := fun j hj => by
      obtain ⟨n,q1,q2,q3⟩ := cls_rep (M := i) hj
      exact ⟨_,by rw [← q3]; exact hcv n q1 q2⟩
    have hxT : Nx G.next G (G.push (.cells (Array.replicate step (.int .i64 0)) 3)) := (Nx.refl St.wf _).push (Nat.le_refl _) _
    have lT := zAI G (.cells (Array.replicate step (.int .i64 0)) 3)
    have hnT : (G.push (.cells (Array.replicate step (.int .i64 0)) 3)).next = G.next + 1 := rfl
    generalize eT : G.push (.cells (Array.replicate step (.int .i64 0)) 3) = G1 at hxT lT hnT
    have hbSG : bS < G.next := by have := hV.lS; omega
    obtain ⟨bT,hbT⟩ : ∃ b,b = G.next := ⟨_,rfl⟩
    rw [← hbT] at lT
    have lG1 : Canon.look G1.objs bS = _ := (hxT.keep _ hbSG).trans lG
    have hlen : c.toList.length = step := by rw [Array.length_toList]; exact hcs
    obtain ⟨G2,cT,q2,u2,hcT,hcTv⟩ := cpd_row (t := 22) (u := 22) (ty := 3) el22 (b := bT) (o := 0) (dl := step) (dc := step) (a := some ⟨bS,0,none⟩) (sn := step) (sc := step) (l := c.toList) (by rw [hlen]; exact (Nat.min_self _).symm) (.inr ⟨bS,0,rfl,fun j hj => by
      rw [Nat.zero_add,zCE lG1 rfl]
      simp⟩) (fun h => by cases h) lT rfl (by rw [hlen]; simp) (by
      rw [List.all_eq_true]
      intro x hx
      obtain ⟨j,hj,rfl⟩ := List.getElem_of_mem hx
      obtain ⟨u,hu⟩ := hcc j (by omega)
      have : c.toList[j] = .int .i64 u := by
        have h1 : c.toList[j]? = some (.int .i64 u) := by rw [Array.getElem?_toList]; exact hu
        rw [List.getElem?_eq_getElem hj] at h1
        exact Option.some.inj h1
      rw [this]
      rfl)
    have hcTs : ∀ n,i ≤ n → n < i + step → cT[n % step]? = some (.int .i64 (scY (m : Int) a step n)) := fun n h1 h2 => by
      have hl := Nat.mod_lt n (show 0 < step by omega)
      rw [hcTv,if_pos ⟨Nat.zero_le _,by rw [hlen]; omega⟩,Nat.sub_zero,Array.getElem?_toList]
      exact hcv n h1 h2
    have hcTz : cT.size = step := by rw [hcT]; simp
    have lT2 : Canon.look G2.objs bT = some ⟨.cells cT 3,false,0⟩ := by
      obtain ⟨c',t,f,g,e,r1,r2,_⟩ := u2.at'
      rw [lT] at r1
      cases r1
      exact r2
    have hGT : Nx G.next G G2 := hxT.trans (u2.nx hxT.wf (by omega))
    have hn2 := u2.next
    have z13 : cl G1 p13 0 = some (.slice (some ⟨bS,0,none⟩) step step) := (hxT.cl (by have := hV.l13.1; omega) 0).trans ((zBW (St.keep _ hV.l13.1 hV.l13.2)).trans h13)
    rw [hbT] at q2
    refine Rn.reg hc rfl ?_
    simp only [zAY,zAU,zAT,sp_n,Nat.reduceLT,ne_eq,Nat.reduceEqDiff,zNf,gd,zAX,rops,fx,ld,zAR,zOi,zEl,tk3,hn,s8,z8,ae_mk2,mk2_nat (show step ≤ 1000000 by omega),eT]
    (repeat (first | refine Rn.seq hc ?_ | refine Rn.skip hc ?_ | refine Rn.block hc ?_ | refine Rn.inBlock hc ?_ | refine Rn.scope hc ?_ | refine Rn.inScope hc ?_))
    refine Rn.reg hc rfl ?_
    simp only [zAY,zAU,zAT,sp_n,Nat.reduceLT,ne_eq,Nat.reduceEqDiff,zNf,gd,zAX,rops,fx,ld,zAR,zOi,zEl,tk22,hn,s13,z13,ae_cpd,q2]
    (repeat (first | refine Rn.seq hc ?_ | refine Rn.skip hc ?_ | refine Rn.block hc ?_ | refine Rn.inBlock hc ?_ | refine Rn.scope hc ?_ | refine Rn.inScope hc ?_))
    rw [← hbT]
    have St2 := St.nx hGT
    have hTne : ∀ y : Addr,wa = some y → y.block ≠ bT := fun y hy => by have := (St.lt hy).2; omega
    have hTC : C.next ≤ bT := by omega
    have hTG : bT < G2.next := by omega
    have hTS : bT ≠ bS := by omega
    clear q2 u2 hcTv hcT lT eT hxT hnT lG1 z13 z8 lG hcv hcc hcs hlen St hbSG hGT nCG hn2 hbT
    refine Rn.reg hc rfl ?_
    simp only [zAY,zAS,zAT,ne_eq,Nat.reduceEqDiff,zNf,gd,zAX,rops,fx,zOi,zEl,s12]
    (repeat (first | refine Rn.seq hc ?_ | refine Rn.skip hc ?_ | refine Rn.block hc ?_ | refine Rn.inBlock hc ?_ | refine Rn.scope hc ?_ | refine Rn.inScope hc ?_))
    refine Rn.zDY hc (I := fun k s G => ∃ j wa,j ≤ B ∧ k = B - j ∧ SumSt C bS (m : Int) a step G (i + j) (i + j) wa ∧ bT < G.next ∧ Canon.look G.objs bT = some ⟨.cells cT 3,false,0⟩ ∧ (∀ y : Addr,wa = some y → y.block ≠ bT) ∧ s.n = 113 ∧ sget s 1 = .int .i64 (i : Int) ∧ sget s 5 = .pointer (some ⟨p5,0,none⟩) ∧ sget s 10 = .pointer (some ⟨pR,0,none⟩) ∧ sget s 12 = .int .i64 (B : Int) ∧ sget s 13 = .pointer (some ⟨p13,0,none⟩) ∧ sget s 14 = .func (.func 111) #[] #[.pointer (some ⟨p13,0,none⟩),.pointer (some ⟨p8,0,none⟩),.pointer (some ⟨p9,0,none⟩),.pointer (some ⟨p5,0,none⟩)] ∧ sget s 15 = .slice wa (i + j) (i + j) ∧ sget s 17 = .slice (some ⟨bT,0,none⟩) step step ∧ sget s 46 = .int .i64 (B : Int) ∧ sget s 47 = .int .i64 (j : Int))
      (n := B) ⟨0,wa,by omega,rfl,St2,hTG,lT2,hTne,by simp only [sp_n,hn],by simp only [zAT,ne_eq,Nat.reduceEqDiff,zNf,s1],by simp only [zAT,ne_eq,Nat.reduceEqDiff,zNf,s5],by simp only [zAT,ne_eq,Nat.reduceEqDiff,zNf,s10],by simp only [zAT,ne_eq,Nat.reduceEqDiff,zNf,s12],by simp only [zAT,ne_eq,Nat.reduceEqDiff,zNf,s13],by simp only [zAT,ne_eq,Nat.reduceEqDiff,zNf,s14],by simp only [zAT,ne_eq,Nat.reduceEqDiff,zNf,s15,Nat.add_zero],by simp only [zAU,zAT,sp_n,Nat.reduceLT,ne_eq,Nat.reduceEqDiff,zNf,hn],by simp only [zAU,zAT,sp_n,Nat.reduceLT,ne_eq,Nat.reduceEqDiff,zNf,hn],by simp only [zAU,sp_n,Nat.reduceLT,hn]; rfl⟩ ?_
    clear hn s1 s5 s8 s10 s12 s13 s14 s15 s St2 hTG lT2 hTne G2 wa G1 G
    rintro k s G ⟨j,wa,hj,rfl,St,hTG,lT,hTne,hn,s1,s5,s10,s12,s13,s14,s15,s17,s46,s47⟩ ih
    (repeat (first | refine Rn.seq hc ?_ | refine Rn.skip hc ?_ | refine Rn.block hc ?_ | refine Rn.inBlock hc ?_ | refine Rn.scope hc ?_ | refine Rn.inScope hc ?_))
    by_cases hlj : j < B
    · have hd : decide ((j : Int) < (B : Int)) = true := decide_eq_true (by omega)
      have hwa : IntKind.i64.wrap ((i : Int) + (j : Int)) = ((i + j : Nat) : Int) := by rw [IntWalk.i64_in _ (by omega)]; omega
      refine Rn.reg hc rfl ?_
      simp only [zAY,gd,zAX,rops,fx,zAN,zOi,zEl,s46,s47,hd]
      (repeat (first | refine Rn.seq hc ?_ | refine Rn.skip hc ?_ | refine Rn.block hc ?_ | refine Rn.inBlock hc ?_ | refine Rn.scope hc ?_ | refine Rn.inScope hc ?_))
      refine Rn.zAM hc rfl ?_
      simp only [zAY,zAU,Nat.reduceLT,Value.bool.injEq,zEl,hn]
      (repeat (first | refine Rn.seq hc ?_ | refine Rn.skip hc ?_ | refine Rn.block hc ?_ | refine Rn.inBlock hc ?_ | refine Rn.scope hc ?_ | refine Rn.inScope hc ?_))
      refine Rn.reg hc rfl ?_
      simp only [zAY,zAU,zAT,sp_n,Nat.reduceLT,ne_eq,Nat.reduceEqDiff,zNf,gd,zAX,rops,fx,zOi,zEl,hn,s47]
      (repeat (first | refine Rn.seq hc ?_ | refine Rn.skip hc ?_ | refine Rn.block hc ?_ | refine Rn.inBlock hc ?_ | refine Rn.scope hc ?_ | refine Rn.inScope hc ?_))
      refine Rn.region hc fun K hK => ?_
      refine Wo.run hc 5 rfl rfl rfl ?_
      simp (maxSteps := 2000000) only [List.drop_zero,List.take_succ_cons,List.take_zero,zAY,zAU,zAT,sp_n,Nat.reduceLT,ne_eq,Nat.reduceEqDiff,not_false_eq_true,gd,zAX,rops,fx,zAH,Nat.zero_add,Option.some.injEq,exists_eq_left',hn,s1,s14,s15,hwa]
      refine Wo.call hc (by rfl) (by rfl) ⟨by rfl,by rfl⟩ (xs := [.int .i64 ((i + j : Nat) : Int),.pointer (some ⟨p13,0,none⟩),.pointer (some ⟨p8,0,none⟩),.pointer (some ⟨p9,0,none⟩),.pointer (some ⟨p5,0,none⟩)]) (by rfl) (by first | rfl | (simp only [zAY,zAU,zAT,sp_n,Nat.reduceLT,ne_eq,Nat.reduceEqDiff,zNf,hn]; done) | (simp only [zAY,zAU,zAT,sp_n,Nat.reduceLT,ne_eq,Nat.reduceEqDiff,zNf,hn]; rfl)) (by simp only [zAY,zAU,sp_n,Nat.reduceLT,List.map_cons,List.map_nil,List.nil_append,List.cons_append,hn]) (Con.mono (sum_next hV (by omega) hmi hlim hvq St (fun C1 h => hat C1 ((hAG St).trans (h.le (hAG St).next)) (i + j) (by omega))) ?_)
      rintro w G1 ⟨rfl,S1,hk1,hk2⟩
      obtain ⟨G2,e2,hz2,hn2,z2,-⟩ := box1 S1.wf (.int .i64 (scn (m : Int) a step (i + j))) 3
      obtain ⟨G3,q3,n3,S3,kp3⟩ := sum_push (S1.nx hz2) hV.lS z2 (by omega)
      refine Wo.run hc 3 rfl rfl rfl ?_
      simp (maxSteps := 2000000) only [List.drop_zero,List.drop_succ_cons,List.take_succ_cons,List.take_zero,zAY,zAU,zAT,sp_n,Nat.reduceLT,ne_eq,Nat.reduceEqDiff,not_false_eq_true,gd,zAX,rops,fx,Option.some.injEq,exists_eq_left',Nat.reduceAdd,hn,bs22_1,zBY,e2,ae_apd,zCQ,q3]
      refine Wo.done hc rfl (hK _ _ ?_)
      clear hK
      (repeat (first | refine Rn.seq hc ?_ | refine Rn.skip hc ?_ | refine Rn.block hc ?_ | refine Rn.inBlock hc ?_ | refine Rn.scope hc ?_ | refine Rn.inScope hc ?_))
      refine Rn.reg hc rfl ?_
      simp only [zAY,zAS,zAU,zAT,sp_n,Nat.reduceLT,ne_eq,Nat.reduceEqDiff,zNf,gd,zAX,rops,fx,zAH,zOi,zEl,hn,s47,zBZ (show j < 9223372036854775807 by omega)]
      (repeat (first | refine Rn.seq hc ?_ | refine Rn.skip hc ?_ | refine Rn.block hc ?_ | refine Rn.inBlock hc ?_ | refine Rn.scope hc ?_ | refine Rn.inScope hc ?_))
      exact ih _ _ _ (by omega) ⟨j + 1,_,by omega,rfl,S3,by omega,by rw [kp3 _ (by omega) (fun y hy => hTne y hy),hz2.keep _ (by omega),hk2 _ hTG hTS]; exact lT,fun y hy => by
        cases hy
        show G2.next ≠ bT
        omega,by simp only [sp_n,hn],by simp only [zAT,ne_eq,Nat.reduceEqDiff,zNf,s1],by simp only [zAT,ne_eq,Nat.reduceEqDiff,zNf,s5],by simp only [zAT,ne_eq,Nat.reduceEqDiff,zNf,s10],by simp only [zAT,ne_eq,Nat.reduceEqDiff,zNf,s12],by simp only [zAT,ne_eq,Nat.reduceEqDiff,zNf,s13],by simp only [zAT,ne_eq,Nat.reduceEqDiff,zNf,s14],by simp only [zAU,zAT,sp_n,Nat.reduceLT,ne_eq,Nat.reduceEqDiff,zNf,hn,Nat.add_assoc],by simp only [zAT,ne_eq,Nat.reduceEqDiff,zNf,s17],by simp only [zAT,ne_eq,Nat.reduceEqDiff,zNf,s46],by simp only [zAU,sp_n,Nat.reduceLT,hn]⟩
    · have hd : decide ((j : Int) < (B : Int)) = false := decide_eq_false (by omega)
      have hjl : j = B := by omega
      subst hjl
      clear ih
      refine Rn.reg hc rfl ?_
      simp only [zAY,gd,zAX,rops,fx,zAN,zOi,zEl,s46,s47,hd]
      (repeat (first | refine Rn.seq hc ?_ | refine Rn.skip hc ?_ | refine Rn.block hc ?_ | refine Rn.inBlock hc ?_ | refine Rn.scope hc ?_ | refine Rn.inScope hc ?_))
      refine Rn.zAM hc rfl ?_
      simp only [zAY,zAU,Nat.reduceLT,Value.bool.injEq,zEl,hn]
      (repeat (first | refine Rn.seq hc ?_ | refine Rn.skip hc ?_ | refine Rn.block hc ?_ | refine Rn.inBlock hc ?_ | refine Rn.scope hc ?_ | refine Rn.inScope hc ?_))
      refine Rn.exit hc rfl ?_
      (repeat (first | refine Rn.seq hc ?_ | refine Rn.skip hc ?_ | refine Rn.block hc ?_ | refine Rn.inBlock hc ?_ | refine Rn.scope hc ?_ | refine Rn.inScope hc ?_))
      clear hd s46 s47
      obtain ⟨c,hcs,lG,hcv⟩ := St.arr
      have nCG := St.next
      have hbSG : bS < G.next := by have := hV.lS; omega
      have z13 : cl G p13 0 = some (.slice (some ⟨bS,0,none⟩) step step) := (zBW (St.keep _ hV.l13.1 hV.l13.2)).trans h13
      have z5 : cl G p5 0 = some (.int .i64 (m : Int)) := (zBW (St.keep _ hV.l5.1 hV.l5.2)).trans h5
      have np5 : p5 < G.next := by have := hV.l5.1; omega
      obtain ⟨P,hPd⟩ : ∃ P : Nat → Nat,P = fun i' => ordN m (dC m a step j i i') := ⟨_,rfl⟩
      have hPv : ∀ i',P i' = ordN m (dC m a step j i i') := fun i' => by rw [hPd]
      have hPp : ∀ i',i' < step → 0 < P i' := fun i' _ => by rw [hPv]; exact ordN_pos (by omega)
      refine Rn.reg hc rfl ?_
      simp only [zAS,gd,zAX,rops,fx,zOi,zEl]
      (repeat (first | refine Rn.seq hc ?_ | refine Rn.skip hc ?_ | refine Rn.block hc ?_ | refine Rn.inBlock hc ?_ | refine Rn.scope hc ?_ | refine Rn.inScope hc ?_))
      refine Rn.reg hc rfl ?_
      simp only [zAY,zAS,zAU,zAT,sp_n,Nat.reduceLT,ne_eq,Nat.reduceEqDiff,zNf,gd,zAX,rops,fx,ld,lng,zAR,zOi,zEl,tk22,un22,hn,s13,z13]
      (repeat (first | refine Rn.seq hc ?_ | refine Rn.skip hc ?_ | refine Rn.block hc ?_ | refine Rn.inBlock hc ?_ | refine Rn.scope hc ?_ | refine Rn.inScope hc ?_))
      refine Rn.zDY hc (I := fun k s H => ∃ x,x ≤ step ∧ k = step - x ∧ Nx G.next G H ∧ lcmF P x ≤ 120 ∧ s.n = 113 ∧ sget s 1 = .int .i64 (i : Int) ∧ sget s 5 = .pointer (some ⟨p5,0,none⟩) ∧ sget s 10 = .pointer (some ⟨pR,0,none⟩) ∧ sget s 12 = .int .i64 (j : Int) ∧ sget s 14 = .func (.func 111) #[] #[.pointer (some ⟨p13,0,none⟩),.pointer (some ⟨p8,0,none⟩),.pointer (some ⟨p9,0,none⟩),.pointer (some ⟨p5,0,none⟩)] ∧ sget s 15 = .slice wa (i + j) (i + j) ∧ sget s 17 = .slice (some ⟨bT,0,none⟩) step step ∧ sget s 19 = .int .i64 ((lcmF P x : Nat) : Int) ∧ sget s 59 = .slice (some ⟨bS,0,none⟩) step step ∧ sget s 60 = .int .i64 (step : Int) ∧ sget s 61 = .int .i64 (x : Int))
        (n := step) ⟨0,by omega,rfl,Nx.refl St.wf _,by show 1 ≤ 120; omega,by simp only [sp_n,hn],by simp only [zAT,ne_eq,Nat.reduceEqDiff,zNf,s1],by simp only [zAT,ne_eq,Nat.reduceEqDiff,zNf,s5],by simp only [zAT,ne_eq,Nat.reduceEqDiff,zNf,s10],by simp only [zAT,ne_eq,Nat.reduceEqDiff,zNf,s12],by simp only [zAT,ne_eq,Nat.reduceEqDiff,zNf,s14],by simp only [zAT,ne_eq,Nat.reduceEqDiff,zNf,s15],by simp only [zAT,ne_eq,Nat.reduceEqDiff,zNf,s17],by simp only [zAU,zAT,sp_n,Nat.reduceLT,ne_eq,Nat.reduceEqDiff,zNf,hn]; rfl,by simp only [zAU,zAT,sp_n,Nat.reduceLT,ne_eq,Nat.reduceEqDiff,zNf,hn],by simp only [zAU,zAT,sp_n,Nat.reduceLT,ne_eq,Nat.reduceEqDiff,zNf,hn],by simp only [zAU,sp_n,Nat.reduceLT,hn]; rfl⟩ ?_
      clear hn s1 s5 s10 s12 s13 s14 s15 s17 s
      rintro k s H ⟨x,hx',rfl,hH,h120,hn,s1,s5,s10,s12,s14,s15,s17,s19,s59,s60,s61⟩ ih
      have nH := hH.next
      (repeat (first | refine Rn.seq hc ?_ | refine Rn.skip hc ?_ | refine Rn.block hc ?_ | refine Rn.inBlock hc ?_ | refine Rn.scope hc ?_ | refine Rn.inScope hc ?_))
      by_cases hlx : x < step
      · have hd : decide ((x : Int) < (step : Int)) = true := decide_eq_true (by omega)
        obtain ⟨n,r1,r2,r3⟩ := cls_rep (M := i) hlx
        have hcb := hcv (n + j) (by omega) (by omega)
        have hct := hcTs n r1 r2
        have hmod : (n + j) % step = x := by
          obtain ⟨q,rfl⟩ := hdvS
          rw [Nat.add_mul_mod_self_left,r3]
        rw [hmod] at hcb
        rw [r3] at hct
        have zS : cl H bS x = some (.int .i64 (scY (m : Int) a step (n + j))) := (hH.cl hbSG x).trans (by rw [zCE lG rfl]; exact hcb)
        have zT : cl H bT x = some (.int .i64 (scY (m : Int) a step n)) := (hH.cl hTG x).trans (by rw [zCE lT rfl]; exact hct)
        have zM : cl H p5 0 = some (.int .i64 (m : Int)) := (hH.cl np5 0).trans z5
        have v1 := scY_lim (a := a) (step := step) hmi.1 (n + j)
        have v2 := scY_lim (a := a) (step := step) hmi.1 n
        have hws : IntKind.i64.wrap (scY (m : Int) a step (n + j) - scY (m : Int) a step n) = scY (m : Int) a step (n + j) - scY (m : Int) a step n := IntWalk.i64_in _ ⟨by omega,by omega⟩
        obtain ⟨d,hdd⟩ : ∃ d,d = dC m a step j i x := ⟨_,rfl⟩
        have hde : (d : Int) = nrm (scY (m : Int) a step (n + j) - scY (m : Int) a step n) (m : Int) := by
          have := dC_eq (a := a) (step := step) (B := j) (N := i) (show 0 < m by omega) (by omega) hP' r1
          rw [hdd,nrm_mod _ hmi.1,← r3,this]
          rfl
        have hdm : d < m := by
          have := (nrm_lim (scY (m : Int) a step (n + j) - scY (m : Int) a step n) hmi.1).2
          omega
        have hPx : P x = m / Nat.gcd m d := by rw [hPv,hdd]; rfl
        have hg0 : 0 < Nat.gcd m d := Nat.gcd_pos_of_pos_left _ (by omega)
        have hT0 : 0 < lcmF P x := lcmF_pos hPp hx'
        have hPle : P x ≤ m := by rw [hPx]; exact Nat.div_le_self _ _
        refine Rn.reg hc rfl ?_
        simp only [zAY,gd,zAX,rops,fx,zAN,zOi,zEl,s60,s61,hd]
        (repeat (first | refine Rn.seq hc ?_ | refine Rn.skip hc ?_ | refine Rn.block hc ?_ | refine Rn.inBlock hc ?_ | refine Rn.scope hc ?_ | refine Rn.inScope hc ?_))
        refine Rn.zAM hc rfl ?_
        simp only [zAY,zAU,Nat.reduceLT,Value.bool.injEq,zEl,hn]
        (repeat (first | refine Rn.seq hc ?_ | refine Rn.skip hc ?_ | refine Rn.block hc ?_ | refine Rn.inBlock hc ?_ | refine Rn.scope hc ?_ | refine Rn.inScope hc ?_))
        refine Rn.reg hc rfl ?_
        simp only [zAY,zAU,zAT,sp_n,Nat.reduceLT,ne_eq,Nat.reduceEqDiff,zNf,gd,zAX,rops,fx,ld,idx,zAR,Nat.zero_add,zOi,zEl,Nat.mul_one,tk3,eo22,hn,s59,s61,zAQ hlx,zS]
        (repeat (first | refine Rn.seq hc ?_ | refine Rn.skip hc ?_ | refine Rn.block hc ?_ | refine Rn.inBlock hc ?_ | refine Rn.scope hc ?_ | refine Rn.inScope hc ?_))
        obtain ⟨F,hFb,hF⟩ : ∃ F : AHeap → Prop,(∀ M,F M → ∀ b,b < H.next → ∀ o,cl M b o = cl H b o) ∧ (∀ M,Nx H.next H M → F M) := ⟨fun M => Nx H.next H M,fun M h b hb o => h.cl hb o,fun _ h => h⟩
        have FT := fun M hM => (hFb M hM bT (by omega) x).trans zT
        have FM := fun M hM => (hFb M hM p5 (by omega) 0).trans zM
        have hbk : Nx H.next H (bump H 16) := Nx.bump (Nx.refl hH.wf _) 16
        have FB := hF _ hbk
        refine Rn.drawnF hc hx (smS d (Nat.gcd m d) (lcmF P (x + 1))) F (n := 4) (k := 16) (by kernel_rfl) (by kernel_rfl) (by rfl) ?_
        refine Dr.read (by first | rfl | kernel_rfl) (by rfl) (by assumption) (fun M hM => by simp only [zAY,zAT,ne_eq,Nat.reduceEqDiff,zNf,fx,s19] <;> rfl) (by rfl) (by first | exact VQ.int _ _ | exact VQ.bool _ | exact VQ.ptr _ _ | exact VQ.slice _ _ _ | exact VQ.func (by simp [zAW,zAV,zAZ]) (by simp [zAW,zAV,zAZ]) | exact VQ.agg (by simp [zAW,zAV,zAZ]) | exact VQ.tuple (by simp [zAW,zAV,zAZ])) ?_
        refine Dr.read (by first | rfl | kernel_rfl) (by rfl) (by assumption) (fun M hM => by simp only [zAY,zAT,ne_eq,Nat.reduceEqDiff,zNf,fx,ld,zAR,tk3,s5,FM M hM] <;> rfl) (by rfl) (by first | exact VQ.int _ _ | exact VQ.bool _ | exact VQ.ptr _ _ | exact VQ.slice _ _ _ | exact VQ.func (by simp [zAW,zAV,zAZ]) (by simp [zAW,zAV,zAZ]) | exact VQ.agg (by simp [zAW,zAV,zAZ]) | exact VQ.tuple (by simp [zAW,zAV,zAZ])) ?_
        refine Dr.read (by first | rfl | kernel_rfl) (by rfl) (by assumption) (fun M hM => by simp only [zAY,zAT,ne_eq,Nat.reduceEqDiff,zNf,fx,ld,zAR,tk3,s5,FM M hM] <;> rfl) (by rfl) (by first | exact VQ.int _ _ | exact VQ.bool _ | exact VQ.ptr _ _ | exact VQ.slice _ _ _ | exact VQ.func (by simp [zAW,zAV,zAZ]) (by simp [zAW,zAV,zAZ]) | exact VQ.agg (by simp [zAW,zAV,zAZ]) | exact VQ.tuple (by simp [zAW,zAV,zAZ])) ?_
        refine Dr.read (by first | rfl | kernel_rfl) (by rfl) (by assumption) (fun M hM => by simp only [zAY,zAU,zAT,sp_n,Nat.reduceLT,ne_eq,Nat.reduceEqDiff,zNf,fx,hn] <;> rfl) (by rfl) (by first | exact VQ.int _ _ | exact VQ.bool _ | exact VQ.ptr _ _ | exact VQ.slice _ _ _ | exact VQ.func (by simp [zAW,zAV,zAZ]) (by simp [zAW,zAV,zAZ]) | exact VQ.agg (by simp [zAW,zAV,zAZ]) | exact VQ.tuple (by simp [zAW,zAV,zAZ])) ?_
        refine Dr.read (by first | rfl | kernel_rfl) (by rfl) (by assumption) (fun M hM => by simp only [zAY,zAT,ne_eq,Nat.reduceEqDiff,zNf,fx,s17] <;> rfl) (by rfl) (by first | exact VQ.int _ _ | exact VQ.bool _ | exact VQ.ptr _ _ | exact VQ.slice _ _ _ | exact VQ.func (by simp [zAW,zAV,zAZ]) (by simp [zAW,zAV,zAZ]) | exact VQ.agg (by simp [zAW,zAV,zAZ]) | exact VQ.tuple (by simp [zAW,zAV,zAZ])) ?_
        refine Dr.read (by first | rfl | kernel_rfl) (by rfl) (by assumption) (fun M hM => by simp only [zAY,zAU,zAT,sp_n,Nat.reduceLT,ne_eq,Nat.reduceEqDiff,zNf,fx,hn] <;> rfl) (by rfl) (by first | exact VQ.int _ _ | exact VQ.bool _ | exact VQ.ptr _ _ | exact VQ.slice _ _ _ | exact VQ.func (by simp [zAW,zAV,zAZ]) (by simp [zAW,zAV,zAZ]) | exact VQ.agg (by simp [zAW,zAV,zAZ]) | exact VQ.tuple (by simp [zAW,zAV,zAZ])) ?_
        refine Dr.read (by first | rfl | kernel_rfl) (by rfl) (by assumption) (fun M hM => by simp only [zAY,zAU,zAT,sp_n,Nat.reduceLT,ne_eq,Nat.reduceEqDiff,zNf,fx,idx,Nat.zero_add,Nat.mul_one,eo22,hn,zAQ hlx] <;> rfl) (by rfl) (by first | exact VQ.int _ _ | exact VQ.bool _ | exact VQ.ptr _ _ | exact VQ.slice _ _ _ | exact VQ.func (by simp [zAW,zAV,zAZ]) (by simp [zAW,zAV,zAZ]) | exact VQ.agg (by simp [zAW,zAV,zAZ]) | exact VQ.tuple (by simp [zAW,zAV,zAZ])) ?_
        refine Dr.read (by first | rfl | kernel_rfl) (by rfl) (by assumption) (fun M hM => by simp only [zAY,zAU,sp_n,Nat.reduceLT,fx,ld,zAR,tk3,hn,FT M hM] <;> rfl) (by rfl) (by first | exact VQ.int _ _ | exact VQ.bool _ | exact VQ.ptr _ _ | exact VQ.slice _ _ _ | exact VQ.func (by simp [zAW,zAV,zAZ]) (by simp [zAW,zAV,zAZ]) | exact VQ.agg (by simp [zAW,zAV,zAZ]) | exact VQ.tuple (by simp [zAW,zAV,zAZ])) ?_
        refine Dr.read (by first | rfl | kernel_rfl) (by rfl) (by assumption) (fun M hM => by simp only [zAY,zAU,zAT,sp_n,Nat.reduceLT,ne_eq,Nat.reduceEqDiff,zNf,fx,zBR,hn,hws] <;> rfl) (by rfl) (by first | exact VQ.int _ _ | exact VQ.bool _ | exact VQ.ptr _ _ | exact VQ.slice _ _ _ | exact VQ.func (by simp [zAW,zAV,zAZ]) (by simp [zAW,zAV,zAZ]) | exact VQ.agg (by simp [zAW,zAV,zAZ]) | exact VQ.tuple (by simp [zAW,zAV,zAZ])) ?_
        refine Dr.read (by first | rfl | kernel_rfl) (by rfl) (by assumption) (fun M hM => by simp only [zAY,zAT,ne_eq,Nat.reduceEqDiff,zNf,fx,ld,zAR,tk3,s5,FM M hM] <;> rfl) (by rfl) (by first | exact VQ.int _ _ | exact VQ.bool _ | exact VQ.ptr _ _ | exact VQ.slice _ _ _ | exact VQ.func (by simp [zAW,zAV,zAZ]) (by simp [zAW,zAV,zAZ]) | exact VQ.agg (by simp [zAW,zAV,zAZ]) | exact VQ.tuple (by simp [zAW,zAV,zAZ])) ?_
        refine Dr.call (by kernel_rfl) (by rfl) (by assumption) (by rfl) (zAA (by rfl) ⟨by rfl,by rfl⟩ (by rfl) (xs := [.int .i64 (scY (m : Int) a step (n + j) - scY (m : Int) a step n),.int .i64 (m : Int)]) (by simp only [zAY,zAU,zAT,sp_n,Nat.reduceLT,ne_eq,Nat.reduceEqDiff,zNf,List.map_cons,List.map_nil,List.nil_append,List.append_nil,hn]) (Con.mono (norm_run hbk.wf hmi) fun v A1 h => (⟨by rw [h.1,hde],h.2⟩ : v = .int .i64 (d : Int) ∧ Nx (bump H 16).next (bump H 16) A1))) ?_
        rintro v M1 ⟨rfl,k1⟩
        have hM1 : Nx H.next H M1 := hbk.trans (k1.le hbk.next)
        have FM1 := hF _ hM1
        refine Dr.call (by kernel_rfl) (by rfl) (by assumption) (by rfl) (zAA (by rfl) ⟨by rfl,by rfl⟩ (by rfl) (xs := [.int .i64 (m : Int),.int .i64 (d : Int)]) (by simp only [zAY,zAU,zAT,sp_n,Nat.reduceLT,ne_eq,Nat.reduceEqDiff,zNf,List.map_cons,List.map_nil,List.nil_append,List.append_nil,hn]) (Con.mono (gcd_run hM1.wf (a := m) (b := d) (by omega) (by omega)) fun v A1 h => (h : v = .int .i64 ((Nat.gcd m d : Nat) : Int) ∧ Nx M1.next M1 A1))) ?_
        rintro v M2 ⟨rfl,k2⟩
        have hM2 : Nx H.next H M2 := hM1.trans (k2.le hM1.next)
        have FM2 := hF _ hM2
        have hnM2 := hM1.next
        have hk1n := k1.next
        rw [zAD] at hk1n
        have hk2n := k2.next
        have hq : ∀ M,bin Try.prog .quo 3 (.int .i64 (m : Int)) (.int .i64 ((Nat.gcd m d : Nat) : Int)) M = some (.int .i64 (P x : Int),M) := fun M => by rw [quo_nat hg0 (by omega),hPx]
        refine Dr.read (by first | rfl | kernel_rfl) (by rfl) (by assumption) (fun M hM => by simp only [zAY,zAU,zAT,sp_n,Nat.reduceLT,ne_eq,Nat.reduceEqDiff,zNf,fx,hn,hq] <;> rfl) (by rfl) (by first | exact VQ.int _ _ | exact VQ.bool _ | exact VQ.ptr _ _ | exact VQ.slice _ _ _ | exact VQ.func (by simp [zAW,zAV,zAZ]) (by simp [zAW,zAV,zAZ]) | exact VQ.agg (by simp [zAW,zAV,zAZ]) | exact VQ.tuple (by simp [zAW,zAV,zAZ])) ?_
        refine Dr.float (by rfl) (by rfl) (by rfl) (fb22_2 (v := .int .i64 ((lcmF P x : Nat) : Int)) (w := .int .i64 (P x : Int)) (by simp only [zAY,zAU,zAT,sp_n,Nat.reduceLT,ne_eq,Nat.reduceEqDiff,zNf,hn]) rfl (by simp only [zAY,zAU,sp_n,Nat.reduceLT,hn]) rfl) ?_
        have hnb : Canon.look M2.objs (H.next + 13) = none := by
          rw [k2.keep _ (by omega),k1.keep _ (by rw [zAD]; omega)]
          exact hH.wf.none (by omega)
        obtain ⟨M3,p3,hxM3,eM3,lM3,kM3⟩ := place_row (N := H.next) hM2 (b := H.next + 13) (by omega) (by omega) hnb [.int .i64 ((lcmF P x : Nat) : Int),.int .i64 (P x : Int)] 3 2 2
        refine Dr.callF (by kernel_rfl) (by rfl) (pd1 := [(13,⟨[.int .i64 ((lcmF P x : Nat) : Int),.int .i64 (P x : Int)],3,.sl 2 2⟩)]) (pd2 := []) (by kernel_rfl) (by kernel_rfl) (ms0 := [M2]) (A0 := M3) (by simp only [zBU,p3]) (fun M hM => by rw [List.mem_singleton] at hM; rw [hM]; exact FM2) (hF _ hxM3) (by rfl)
          (zAA (by rfl) ⟨by rfl,by rfl⟩ (by rfl) (xs := [.slice (some ⟨H.next + 13,0,none⟩) 2 2]) (by simp only [zAY,zAU,sp_n,Nat.reduceLT,List.map_cons,List.map_nil,List.nil_append,List.append_nil,hn,FK.val]) (Con.mono (lcm_two hxM3.wf (x := lcmF P x) (y := P x) (by rw [zCE lM3 rfl]; rfl) (by rw [zCE lM3 rfl]; rfl) (by omega) ⟨hT0,by omega⟩ ⟨hPp x hlx,by omega⟩) fun v A1 h => (h : v = .int .i64 ((lcmF P (x + 1) : Nat) : Int) ∧ Nx M3.next M3 A1))) ?_
        rintro v M4 ⟨rfl,k4⟩
        have hM4 : Nx H.next H M4 := hxM3.trans (k4.le hxM3.next)
        have FM4 := hF _ hM4
        refine Dr.read (by first | rfl | kernel_rfl) (by rfl) (by assumption) (fun M hM => by simp only [zAY,zAU,sp_n,Nat.reduceLT,fx,Nat.zero_add,Nat.reduceAdd,hn] <;> rfl) (by rfl) (by first | exact VQ.int _ _ | exact VQ.bool _ | exact VQ.ptr _ _ | exact VQ.slice _ _ _ | exact VQ.func (by simp [zAW,zAV,zAZ]) (by simp [zAW,zAV,zAZ]) | exact VQ.agg (by simp [zAW,zAV,zAZ]) | exact VQ.tuple (by simp [zAW,zAV,zAZ])) ?_
        refine Dr.nil (by rfl) (fun M hM => by cases hM) FM4 ⟨M4,by rfl,?_⟩
        (repeat (first | refine Rn.seq hc ?_ | refine Rn.skip hc ?_ | refine Rn.block hc ?_ | refine Rn.inBlock hc ?_ | refine Rn.scope hc ?_ | refine Rn.inScope hc ?_))
        have hG4 : Nx G.next G M4 := hH.trans (hM4.le nH)
        by_cases hlong : 120 < lcmF P (x + 1)
        · have hd2 : decide (120 < ((lcmF P (x + 1) : Nat) : Int)) = true := decide_eq_true (by omega)
          have hA4 : Nx A.next A M4 := (hAG St).trans (hG4.le (hAG St).next)
          obtain ⟨D,q1,g0,g1,g2,hxD⟩ := err_fin hA4 hpRA (by have := hG4.next; omega) ((hG4.keep _ (by omega)).trans ((St.keep _ hpRC hpRS).trans lR))
          refine Rn.reg hc rfl ?_
          simp only [zAY,zAS,zAU,sp_n,Nat.reduceLT,gd,zAX,rops,fx,zBS,Nat.zero_add,zOi,zEl,Nat.reduceAdd,hn,hd2]
          (repeat (first | refine Rn.seq hc ?_ | refine Rn.skip hc ?_ | refine Rn.block hc ?_ | refine Rn.inBlock hc ?_ | refine Rn.scope hc ?_ | refine Rn.inScope hc ?_))
          refine Rn.zAM hc rfl ?_
          simp only [zAY,zAU,sp_n,Nat.reduceLT,Value.bool.injEq,zEl,hn]
          (repeat (first | refine Rn.seq hc ?_ | refine Rn.skip hc ?_ | refine Rn.block hc ?_ | refine Rn.inBlock hc ?_ | refine Rn.scope hc ?_ | refine Rn.inScope hc ?_))
          refine Rn.reg hc rfl ?_
          simp only [zAY,zAS,zAU,zAT,sp_n,zAK,Nat.reduceLT,ne_eq,Nat.reduceEqDiff,zNf,gd,zAX,rops,fx,str,zAR,Nat.zero_add,zOi,zEl,Nat.reduceAdd,tk24,hn,s10,bd24_z,q1,List.size_toArray,List.length_cons,List.length_nil,Nat.beq_refl]
          (repeat (first | refine Rn.seq hc ?_ | refine Rn.skip hc ?_ | refine Rn.block hc ?_ | refine Rn.inBlock hc ?_ | refine Rn.scope hc ?_ | refine Rn.inScope hc ?_))
          refine Rn.ret (zCT rfl (v := .agg #[.int .i64 0,.slice none 0 0,.slice none 0 0]) ?_ ?_)
          · simp only [zAT,ne_eq,Nat.reduceEqDiff,zNf,ld,zAR,cls,Nat.zero_add,Nat.reduceAdd,tk24,s10,g0,g1,g2]
          · simp only [zAU,sp_n,Nat.reduceLT,hn]
            refine tld_tp (tp_long (scn_per_m (show 0 < m by omega) (by omega) f1 hdvS hP') fun b p hr => long_run (show 0 < m by omega) (by omega) f1 hdvS hP' (i := x + 1) (by omega) ?_ hr) hxD
            rw [hPd] at hlong
            exact hlong
        · have hd2 : decide (120 < ((lcmF P (x + 1) : Nat) : Int)) = false := decide_eq_false (by omega)
          refine Rn.reg hc rfl ?_
          simp only [zAY,zAS,zAU,sp_n,Nat.reduceLT,gd,zAX,rops,fx,zBS,Nat.zero_add,zOi,zEl,Nat.reduceAdd,hn,hd2]
          (repeat (first | refine Rn.seq hc ?_ | refine Rn.skip hc ?_ | refine Rn.block hc ?_ | refine Rn.inBlock hc ?_ | refine Rn.scope hc ?_ | refine Rn.inScope hc ?_))
          refine Rn.zAM hc rfl ?_
          simp only [zAY,zAU,sp_n,Nat.reduceLT,Value.bool.injEq,zEl,hn]
          (repeat (first | refine Rn.seq hc ?_ | refine Rn.skip hc ?_ | refine Rn.block hc ?_ | refine Rn.inBlock hc ?_ | refine Rn.scope hc ?_ | refine Rn.inScope hc ?_))
          refine Rn.reg hc rfl ?_
          simp only [zAY,zAS,zAU,zAT,sp_n,Nat.reduceLT,ne_eq,Nat.reduceEqDiff,zNf,gd,zAX,rops,fx,zAH,zOi,zEl,hn,s61,zBZ (show x < 9223372036854775807 by omega)]
          (repeat (first | refine Rn.seq hc ?_ | refine Rn.skip hc ?_ | refine Rn.block hc ?_ | refine Rn.inBlock hc ?_ | refine Rn.scope hc ?_ | refine Rn.inScope hc ?_))
          exact ih _ _ _ (by omega) ⟨x + 1,by omega,rfl,hG4,by omega,by simp only [sp_n,hn],by simp only [zAT,ne_eq,Nat.reduceEqDiff,zNf,s1],by simp only [zAT,ne_eq,Nat.reduceEqDiff,zNf,s5],by simp only [zAT,ne_eq,Nat.reduceEqDiff,zNf,s10],by simp only [zAT,ne_eq,Nat.reduceEqDiff,zNf,s12],by simp only [zAT,ne_eq,Nat.reduceEqDiff,zNf,s14],by simp only [zAT,ne_eq,Nat.reduceEqDiff,zNf,s15],by simp only [zAT,ne_eq,Nat.reduceEqDiff,zNf,s17],by simp only [zAU,zAT,sp_n,Nat.reduceLT,ne_eq,Nat.reduceEqDiff,zNf,hn],by simp only [zAT,ne_eq,Nat.reduceEqDiff,zNf,s59],by simp only [zAT,ne_eq,Nat.reduceEqDiff,zNf,s60],by simp only [zAU,sp_n,Nat.reduceLT,hn]⟩
      · have hd : decide ((x : Int) < (step : Int)) = false := decide_eq_false (by omega)
        have hxs : x = step := by omega
        subst hxs
        clear ih
        refine Rn.reg hc rfl ?_
        simp only [zAY,gd,zAX,rops,fx,zAN,zOi,zEl,s60,s61,hd]
        (repeat (first | refine Rn.seq hc ?_ | refine Rn.skip hc ?_ | refine Rn.block hc ?_ | refine Rn.inBlock hc ?_ | refine Rn.scope hc ?_ | refine Rn.inScope hc ?_))
        refine Rn.zAM hc rfl ?_
        simp only [zAY,zAU,Nat.reduceLT,Value.bool.injEq,zEl,hn]
        (repeat (first | refine Rn.seq hc ?_ | refine Rn.skip hc ?_ | refine Rn.block hc ?_ | refine Rn.inBlock hc ?_ | refine Rn.scope hc ?_ | refine Rn.inScope hc ?_))
        refine Rn.exit hc rfl ?_
        (repeat (first | refine Rn.seq hc ?_ | refine Rn.skip hc ?_ | refine Rn.block hc ?_ | refine Rn.inBlock hc ?_ | refine Rn.scope hc ?_ | refine Rn.inScope hc ?_))
        have hT0 : 0 < lcmF P x := lcmF_pos hPp (Nat.le_refl _)
        have hTd : ∀ i',i' < x → ordN m (dC m a x j i i') ∣ lcmF P x := fun i' hi' => by rw [← hPv]; exact lcmF_dvd hi'
        have St4 := St.nx hH
        generalize lcmF P x = T at hT0 hTd h120 s19
        have hPerY := scn_per (show 0 < m by omega) (show 0 < x by omega) f1 hdvS hP' hT0 hTd
        have hTB : j * (T - 1) ≤ 14400 * 120 := Nat.mul_le_mul (by omega) (by omega)
        have hsum : j + j * (T - 1) = T * j := by
          obtain ⟨t',rfl⟩ : ∃ t',T = t' + 1 := ⟨T - 1,by omega⟩
          rw [Nat.add_sub_cancel,Nat.succ_mul,Nat.mul_comm]
          omega
        have hw1 : IntKind.i64.wrap ((T : Int) - 1) = ((T - 1 : Nat) : Int) := by rw [IntWalk.i64_in _ (by omega)]; omega
        have hw2 : IntKind.i64.wrap ((j : Int) * ((T - 1 : Nat) : Int)) = ((j * (T - 1) : Nat) : Int) := by rw [← Int.natCast_mul,IntWalk.i64_in _ (by omega)]
        clear hd s59 s60 s61 s17 hPv hPp hPd P hTd
        refine Rn.reg hc rfl ?_
        simp only [zAY,zAS,zAU,zAT,sp_n,Nat.reduceLT,ne_eq,Nat.reduceEqDiff,zNf,gd,zAX,rops,fx,zBR,bin_mul,zOi,zEl,hn,s12,s19,hw1,hw2]
        (repeat (first | refine Rn.seq hc ?_ | refine Rn.skip hc ?_ | refine Rn.block hc ?_ | refine Rn.inBlock hc ?_ | refine Rn.scope hc ?_ | refine Rn.inScope hc ?_))
        generalize j * (T - 1) = Q at hTB hsum ⊢
        refine Rn.zDY hc (I := fun k s G => ∃ y wa,y ≤ Q ∧ k = Q - y ∧ SumSt C bS (m : Int) a x G (i + j + y) (i + j + y) wa ∧ s.n = 113 ∧ sget s 1 = .int .i64 (i : Int) ∧ sget s 5 = .pointer (some ⟨p5,0,none⟩) ∧ sget s 10 = .pointer (some ⟨pR,0,none⟩) ∧ sget s 12 = .int .i64 (j : Int) ∧ sget s 14 = .func (.func 111) #[] #[.pointer (some ⟨p13,0,none⟩),.pointer (some ⟨p8,0,none⟩),.pointer (some ⟨p9,0,none⟩),.pointer (some ⟨p5,0,none⟩)] ∧ sget s 15 = .slice wa (i + j + y) (i + j + y) ∧ sget s 88 = .int .i64 (Q : Int) ∧ sget s 89 = .int .i64 (y : Int))
          (n := Q) ⟨0,wa,by omega,rfl,St4,by simp only [sp_n,hn],by simp only [zAT,ne_eq,Nat.reduceEqDiff,zNf,s1],by simp only [zAT,ne_eq,Nat.reduceEqDiff,zNf,s5],by simp only [zAT,ne_eq,Nat.reduceEqDiff,zNf,s10],by simp only [zAT,ne_eq,Nat.reduceEqDiff,zNf,s12],by simp only [zAT,ne_eq,Nat.reduceEqDiff,zNf,s14],by simp only [zAT,ne_eq,Nat.reduceEqDiff,zNf,s15,Nat.add_zero],by simp only [zAU,zAT,sp_n,Nat.reduceLT,ne_eq,Nat.reduceEqDiff,zNf,hn],by simp only [zAU,sp_n,Nat.reduceLT,hn]; rfl⟩ ?_
        clear hn s1 s5 s10 s12 s14 s15 s19 s St4 St hH nH z13 z5 np5 hbSG nCG lG hcv hcs hTne lT hTG hw1 hw2
        clear wa H G
        rintro k s G ⟨y,wa,hy,rfl,St,hn,s1,s5,s10,s12,s14,s15,s88,s89⟩ ih
        (repeat (first | refine Rn.seq hc ?_ | refine Rn.skip hc ?_ | refine Rn.block hc ?_ | refine Rn.inBlock hc ?_ | refine Rn.scope hc ?_ | refine Rn.inScope hc ?_))
        by_cases hly : y < Q
        · have hd : decide ((y : Int) < (Q : Int)) = true := decide_eq_true (by omega)
          have hwa : IntKind.i64.wrap ((i : Int) + (j : Int)) = ((i + j : Nat) : Int) := by rw [IntWalk.i64_in _ (by omega)]; omega
          have hwb : IntKind.i64.wrap (((i + j : Nat) : Int) + (y : Int)) = ((i + j + y : Nat) : Int) := by rw [IntWalk.i64_in _ (by omega)]; omega
          refine Rn.reg hc rfl ?_
          simp only [zAY,gd,zAX,rops,fx,zAN,zOi,zEl,s88,s89,hd]
          (repeat (first | refine Rn.seq hc ?_ | refine Rn.skip hc ?_ | refine Rn.block hc ?_ | refine Rn.inBlock hc ?_ | refine Rn.scope hc ?_ | refine Rn.inScope hc ?_))
          refine Rn.zAM hc rfl ?_
          simp only [zAY,zAU,Nat.reduceLT,Value.bool.injEq,zEl,hn]
          (repeat (first | refine Rn.seq hc ?_ | refine Rn.skip hc ?_ | refine Rn.block hc ?_ | refine Rn.inBlock hc ?_ | refine Rn.scope hc ?_ | refine Rn.inScope hc ?_))
          refine Rn.reg hc rfl ?_
          simp only [zAY,zAU,zAT,sp_n,Nat.reduceLT,ne_eq,Nat.reduceEqDiff,zNf,gd,zAX,rops,fx,zOi,zEl,hn,s89]
          (repeat (first | refine Rn.seq hc ?_ | refine Rn.skip hc ?_ | refine Rn.block hc ?_ | refine Rn.inBlock hc ?_ | refine Rn.scope hc ?_ | refine Rn.inScope hc ?_))
          refine Rn.region hc fun K hK => ?_
          refine Wo.run hc 7 rfl rfl rfl ?_
          simp (maxSteps := 2000000) only [List.drop_zero,List.take_succ_cons,List.take_zero,zAY,zAU,zAT,sp_n,Nat.reduceLT,ne_eq,Nat.reduceEqDiff,not_false_eq_true,gd,zAX,rops,fx,zAH,Nat.zero_add,Option.some.injEq,exists_eq_left',hn,s1,s12,s14,s15,hwa,hwb]
          refine Wo.call hc (by rfl) (by rfl) ⟨by rfl,by rfl⟩ (xs := [.int .i64 ((i + j + y : Nat) : Int),.pointer (some ⟨p13,0,none⟩),.pointer (some ⟨p8,0,none⟩),.pointer (some ⟨p9,0,none⟩),.pointer (some ⟨p5,0,none⟩)]) (by rfl) (by first | rfl | (simp only [zAY,zAU,zAT,sp_n,Nat.reduceLT,ne_eq,Nat.reduceEqDiff,zNf,hn]; done) | (simp only [zAY,zAU,zAT,sp_n,Nat.reduceLT,ne_eq,Nat.reduceEqDiff,zNf,hn]; rfl)) (by simp only [zAY,zAU,sp_n,Nat.reduceLT,List.map_cons,List.map_nil,List.nil_append,List.cons_append,hn]) (Con.mono (sum_next hV (by omega) hmi hlim hvq St (fun C1 h => hat C1 ((hAG St).trans (h.le (hAG St).next)) (i + j + y) (by omega))) ?_)
          rintro w G1 ⟨rfl,S1,hk1,hk2⟩
          obtain ⟨G2,e2,hz2,hn2,z2,-⟩ := box1 S1.wf (.int .i64 (scn (m : Int) a x (i + j + y))) 3
          obtain ⟨G3,q3,n3,S3,kp3⟩ := sum_push (S1.nx hz2) hV.lS z2 (by omega)
          refine Wo.run hc 3 rfl rfl rfl ?_
          simp (maxSteps := 2000000) only [List.drop_zero,List.drop_succ_cons,List.take_succ_cons,List.take_zero,zAY,zAU,zAT,sp_n,Nat.reduceLT,ne_eq,Nat.reduceEqDiff,not_false_eq_true,gd,zAX,rops,fx,Option.some.injEq,exists_eq_left',Nat.reduceAdd,hn,bs22_1,zBY,e2,ae_apd,zCQ,q3]
          refine Wo.done hc rfl (hK _ _ ?_)
          clear hK
          (repeat (first | refine Rn.seq hc ?_ | refine Rn.skip hc ?_ | refine Rn.block hc ?_ | refine Rn.inBlock hc ?_ | refine Rn.scope hc ?_ | refine Rn.inScope hc ?_))
          refine Rn.reg hc rfl ?_
          simp only [zAY,zAS,zAU,zAT,sp_n,Nat.reduceLT,ne_eq,Nat.reduceEqDiff,zNf,gd,zAX,rops,fx,zAH,zOi,zEl,hn,s89,zBZ (show y < 9223372036854775807 by omega)]
          (repeat (first | refine Rn.seq hc ?_ | refine Rn.skip hc ?_ | refine Rn.block hc ?_ | refine Rn.inBlock hc ?_ | refine Rn.scope hc ?_ | refine Rn.inScope hc ?_))
          exact ih _ _ _ (by omega) ⟨y + 1,_,by omega,rfl,S3,by simp only [sp_n,hn],by simp only [zAT,ne_eq,Nat.reduceEqDiff,zNf,s1],by simp only [zAT,ne_eq,Nat.reduceEqDiff,zNf,s5],by simp only [zAT,ne_eq,Nat.reduceEqDiff,zNf,s10],by simp only [zAT,ne_eq,Nat.reduceEqDiff,zNf,s12],by simp only [zAT,ne_eq,Nat.reduceEqDiff,zNf,s14],by simp only [zAU,zAT,sp_n,Nat.reduceLT,ne_eq,Nat.reduceEqDiff,zNf,hn,Nat.add_assoc],by simp only [zAT,ne_eq,Nat.reduceEqDiff,zNf,s88],by simp only [zAU,sp_n,Nat.reduceLT,hn]⟩
        · have hd : decide ((y : Int) < (Q : Int)) = false := decide_eq_false (by omega)
          have hyq : y = Q := by omega
          subst hyq
          clear ih
          refine Rn.reg hc rfl ?_
          simp only [zAY,gd,zAX,rops,fx,zAN,zOi,zEl,s88,s89,hd]
          (repeat (first | refine Rn.seq hc ?_ | refine Rn.skip hc ?_ | refine Rn.block hc ?_ | refine Rn.inBlock hc ?_ | refine Rn.scope hc ?_ | refine Rn.inScope hc ?_))
          refine Rn.zAM hc rfl ?_
          simp only [zAY,zAU,Nat.reduceLT,Value.bool.injEq,zEl,hn]
          (repeat (first | refine Rn.seq hc ?_ | refine Rn.skip hc ?_ | refine Rn.block hc ?_ | refine Rn.inBlock hc ?_ | refine Rn.scope hc ?_ | refine Rn.inScope hc ?_))
          refine Rn.exit hc rfl ?_
          (repeat (first | refine Rn.seq hc ?_ | refine Rn.skip hc ?_ | refine Rn.block hc ?_ | refine Rn.inBlock hc ?_ | refine Rn.scope hc ?_ | refine Rn.inScope hc ?_))
          rw [Nat.add_assoc,hsum] at St s15
          have hAGG := hAG St
          have z5 : cl G p5 0 = some (.int .i64 (m : Int)) := (zBW (St.keep _ hV.l5.1 hV.l5.2)).trans h5
          have nCG := St.next
          have hTj : 0 < T * j := Nat.mul_pos hT0 f1
          have hTj2 : T * j ≤ 120 * 14400 := Nat.mul_le_mul h120 hB2
          obtain ⟨Y,hY⟩ : ∃ Y,Y = scn (m : Int) a x := ⟨_,rfl⟩
          have hgr := St.gr
          rw [← hY] at hPerY hgr ⊢
          obtain ⟨bw,ow,rfl,hw1,hw2,-⟩ := hgr.ints 0 (by rw [zAL]; omega)
          have hcell : ∀ q,q < i + T * j → cl G bw (ow + q) = some (.int .i64 (Y q)) := fun q hq => by
            obtain ⟨bb,oo,ee,-,-,h6⟩ := hgr.ints q (by rw [zAL]; exact hq)
            cases ee
            rw [h6,zCD hq]
          obtain ⟨F,hF5,hF1,hF2,hF⟩ : ∃ F : AHeap → Prop,(∀ M,F M → cl M p5 0 = some (.int .i64 (m : Int))) ∧ (∀ M,F M → asl Try.prog 22 (.slice (some ⟨bw,ow,none⟩) (i + T * j) (i + T * j)) none (some (.int .i64 (i : Int))) none M = some (.slice (some ⟨bw,ow,none⟩) i (i + T * j),M)) ∧ (∀ M,F M → asl Try.prog 22 (.slice (some ⟨bw,ow,none⟩) (i + T * j) (i + T * j)) (some (.int .i64 (i : Int))) none none M = some (.slice (some ⟨bw,ow + i,none⟩) (T * j) (T * j),M)) ∧ (∀ M,Canon.look M.objs p5 = Canon.look G.objs p5 → (∀ b,C.next ≤ b → b < G.next → Canon.look M.objs b = Canon.look G.objs b) → F M) := by
            refine ⟨fun M => Canon.look M.objs p5 = Canon.look G.objs p5 ∧ ∀ b,C.next ≤ b → b < G.next → Canon.look M.objs b = Canon.look G.objs b,fun M h => (zBW h.1).trans z5,fun M h => ?_,fun M h => ?_,fun M h1 h2 => ⟨h1,h2⟩⟩
            · have he : ∀ b,C.next ≤ b → Canon.look G.objs b = none ∨ Canon.look M.objs b = Canon.look G.objs b := fun b hb => by
                by_cases hlt : b < G.next
                · exact .inr (h.2 b hb hlt)
                · exact .inl (St.wf.none (by omega))
              have := asl_pos (c := i + T * j) (n := i) (hgr.ints.ext he (Nat.le_refl _)) (hgr.sl.ext he) (by rw [zAL]; exact Nat.le_refl _) (by rw [zAL]; omega) (by rw [zAL]; omega)
              rw [zAL] at this
              exact this
            · have he : ∀ b,C.next ≤ b → Canon.look G.objs b = none ∨ Canon.look M.objs b = Canon.look G.objs b := fun b hb => by
                by_cases hlt : b < G.next
                · exact .inr (h.2 b hb hlt)
                · exact .inl (St.wf.none (by omega))
              rw [asl_lo1 (hgr.sl.ext he) (show i < i + T * j by omega),Nat.add_sub_cancel_left]
          have hbk : Nx G.next G (bump G 12) := Nx.bump (Nx.refl St.wf _) 12
          have FB := hF (bump G 12) rfl fun _ _ _ => rfl
          have hAk : Nx A.next A (bump G 12) := hAGG.trans (hbk.le hAGG.next)
          have hlr := least_run hbk.wf (m := (m : Int)) (sa := some ⟨bw,ow,none⟩) (ra := some ⟨bw,ow + i,none⟩) (sc := i + T * j) (rc := T * j) (st := redS Y i) (ro := redR Y i (T * j))
            (fun q hq => ⟨bw,ow,rfl,Nat.zero_le _,by rw [zAD]; omega,by rw [zAL] at hq; rw [zBT,hcell q (by omega),zCD hq]⟩)
            (fun q hq => ⟨bw,ow + i,rfl,Nat.zero_le _,by rw [zAD]; omega,by rw [zAG] at hq; rw [zBT,Nat.add_assoc,hcell _ (by omega),redR_get hq]⟩)
            (by rw [zAL]; omega) (by rw [zAG]; omega) (by rw [zAG]; exact hTj) ((hgr.nx (n := 0) St.wf hbk).sl.mono (Nat.zero_le _)) (by rw [zAL]; omega)
          rw [zCC hPerY] at hlr
          simp only [zAL,zAG] at hlr
          refine Rn.drawnF hc hx (tldS (m : Int) Y) F (n := 2) (k := 12) (by kernel_rfl) (by kernel_rfl) (by rfl) ?_
          refine Dr.read (by first | rfl | kernel_rfl) (by rfl) (by assumption) (fun M hM => by simp only [zAY,zAT,ne_eq,Nat.reduceEqDiff,zNf,fx,ld,zAR,tk3,s5,hF5 M hM] <;> rfl) (by rfl) (by first | exact VQ.int _ _ | exact VQ.bool _ | exact VQ.ptr _ _ | exact VQ.slice _ _ _ | exact VQ.func (by simp [zAW,zAV,zAZ]) (by simp [zAW,zAV,zAZ]) | exact VQ.agg (by simp [zAW,zAV,zAZ]) | exact VQ.tuple (by simp [zAW,zAV,zAZ])) ?_
          refine Dr.read (by first | rfl | kernel_rfl) (by rfl) (by assumption) (fun M hM => by simp only [zAY,zAT,ne_eq,Nat.reduceEqDiff,zNf,fx,s15] <;> rfl) (by rfl) (by first | exact VQ.int _ _ | exact VQ.bool _ | exact VQ.ptr _ _ | exact VQ.slice _ _ _ | exact VQ.func (by simp [zAW,zAV,zAZ]) (by simp [zAW,zAV,zAZ]) | exact VQ.agg (by simp [zAW,zAV,zAZ]) | exact VQ.tuple (by simp [zAW,zAV,zAZ])) ?_
          refine Dr.read (by first | rfl | kernel_rfl) (by rfl) (by assumption) (fun M hM => by simp only [zAY,zAT,ne_eq,Nat.reduceEqDiff,zNf,fx,s1] <;> rfl) (by rfl) (by first | exact VQ.int _ _ | exact VQ.bool _ | exact VQ.ptr _ _ | exact VQ.slice _ _ _ | exact VQ.func (by simp [zAW,zAV,zAZ]) (by simp [zAW,zAV,zAZ]) | exact VQ.agg (by simp [zAW,zAV,zAZ]) | exact VQ.tuple (by simp [zAW,zAV,zAZ])) ?_
          refine Dr.read (by first | rfl | kernel_rfl) (by rfl) (by assumption) (fun M hM => by simp only [zAY,zAU,zAT,sp_n,Nat.reduceLT,ne_eq,Nat.reduceEqDiff,zNf,fx,hn,ae_asl_hi,hF1 M hM] <;> rfl) (by rfl) (by first | exact VQ.int _ _ | exact VQ.bool _ | exact VQ.ptr _ _ | exact VQ.slice _ _ _ | exact VQ.func (by simp [zAW,zAV,zAZ]) (by simp [zAW,zAV,zAZ]) | exact VQ.agg (by simp [zAW,zAV,zAZ]) | exact VQ.tuple (by simp [zAW,zAV,zAZ])) ?_
          refine Dr.read (by first | rfl | kernel_rfl) (by rfl) (by assumption) (fun M hM => by simp only [zAY,zAT,ne_eq,Nat.reduceEqDiff,zNf,fx,s15] <;> rfl) (by rfl) (by first | exact VQ.int _ _ | exact VQ.bool _ | exact VQ.ptr _ _ | exact VQ.slice _ _ _ | exact VQ.func (by simp [zAW,zAV,zAZ]) (by simp [zAW,zAV,zAZ]) | exact VQ.agg (by simp [zAW,zAV,zAZ]) | exact VQ.tuple (by simp [zAW,zAV,zAZ])) ?_
          refine Dr.read (by first | rfl | kernel_rfl) (by rfl) (by assumption) (fun M hM => by simp only [zAY,zAT,ne_eq,Nat.reduceEqDiff,zNf,fx,s1] <;> rfl) (by rfl) (by first | exact VQ.int _ _ | exact VQ.bool _ | exact VQ.ptr _ _ | exact VQ.slice _ _ _ | exact VQ.func (by simp [zAW,zAV,zAZ]) (by simp [zAW,zAV,zAZ]) | exact VQ.agg (by simp [zAW,zAV,zAZ]) | exact VQ.tuple (by simp [zAW,zAV,zAZ])) ?_
          refine Dr.read (by first | rfl | kernel_rfl) (by rfl) (by assumption) (fun M hM => by simp only [zAY,zAU,zAT,sp_n,Nat.reduceLT,ne_eq,Nat.reduceEqDiff,zNf,fx,hn,ae_asl_lo,hF2 M hM] <;> rfl) (by rfl) (by first | exact VQ.int _ _ | exact VQ.bool _ | exact VQ.ptr _ _ | exact VQ.slice _ _ _ | exact VQ.func (by simp [zAW,zAV,zAZ]) (by simp [zAW,zAV,zAZ]) | exact VQ.agg (by simp [zAW,zAV,zAZ]) | exact VQ.tuple (by simp [zAW,zAV,zAZ])) ?_
          refine Dr.call (by kernel_rfl) (by rfl) (by assumption) (by rfl) (zAA (by rfl) ⟨by rfl,by rfl⟩ (by rfl) (xs := [.int .i64 (m : Int),.slice (some ⟨bw,ow,none⟩) i (i + T * j),.slice (some ⟨bw,ow + i,none⟩) (T * j) (T * j)]) (by simp only [zAY,zAU,zAT,sp_n,Nat.reduceLT,ne_eq,Nat.reduceEqDiff,zNf,List.map_cons,List.map_nil,List.nil_append,List.append_nil,hn]) (Con.mono hlr fun v A1 h => (by obtain ⟨a',p',h1,_,_,h2⟩ := h; exact (tld_q h1 h2 : tldS (m : Int) Y 69 _ (bump G 12) v A1)))) ?_
          intro w C1 hT1
          have hT1 : Tld (bump G 12) 0 (m : Int) Y w C1 := hT1
          have hC1 : Nx G.next G C1 := hbk.trans (hT1.1.le hbk.next)
          have F1 : F C1 := hF _ (hC1.keep _ (by have := hV.l5.1; omega)) fun b _ h => hC1.keep b h
          obtain ⟨mm,n1,n2,ee,p1,c1,p2,c2,rfl,D,q1,g0,g1,g2,hoff,hT⟩ := Tld.fin (b := pR) hAk hpRA (by rw [zAD]; omega) ((St.keep _ hpRC hpRS).trans lR) hT1
          refine Dr.read (by first | rfl | kernel_rfl) (by rfl) (by assumption) (fun M hM => by simp only [zAY,zAU,sp_n,Nat.reduceLT,fx,ext,List.getElem?_toArray,List.getElem?_cons_zero,hn,ext] <;> rfl) (by rfl) (by first | exact VQ.int _ _ | exact VQ.bool _ | exact VQ.ptr _ _ | exact VQ.slice _ _ _ | exact VQ.func (by simp [zAW,zAV,zAZ]) (by simp [zAW,zAV,zAZ]) | exact VQ.agg (by simp [zAW,zAZ]) | exact VQ.tuple (by simp [zAW,zAV,zAZ])) ?_
          refine Dr.read (by first | rfl | kernel_rfl) (by rfl) (by assumption) (fun M hM => by simp only [zAY,zAU,zAT,sp_n,Nat.reduceLT,ne_eq,Nat.reduceEqDiff,zNf,fx,ext,List.getElem?_toArray,List.getElem?_cons_zero,List.getElem?_cons_succ,hn,ext] <;> rfl) (by rfl) (by first | exact VQ.int _ _ | exact VQ.bool _ | exact VQ.ptr _ _ | exact VQ.slice _ _ _ | exact VQ.func (by simp [zAW,zAV,zAZ]) (by simp [zAW,zAV,zAZ]) | exact VQ.agg (by simp [zAW,zAV,zAZ]) | exact VQ.tuple (by simp [zAW,zAV,zAZ])) ?_
          have FD : F D := hF D ((hoff _ (by omega)).trans (hC1.keep _ (by have := hV.l5.1; omega))) fun b hb h => (hoff _ (by omega)).trans (hC1.keep b h)
          refine Dr.eff (by rfl) (by rfl) (pd1 := []) (pd2 := []) (by kernel_rfl) (by kernel_rfl) (ms0 := []) (A0 := C1) rfl (fun _ h => by cases h) F1 (by rfl) (v := undef) (A1 := D) (zBQ rfl (fx_ok (by rfl) (by simp only [zAY,zAU,zAT,sp_n,Nat.reduceLT,ne_eq,Nat.reduceEqDiff,zNf,fx,str,zAR,Nat.zero_add,Nat.reduceAdd,tk24,hn,s10,q1,List.size_toArray,List.length_cons,List.length_nil,Nat.beq_refl]))) ?_
          refine Dr.read (by first | rfl | kernel_rfl) (by rfl) (by assumption) (fun M hM => by simp only [zAY,zAU,sp_n,zAK,Nat.reduceLT,fx,hn] <;> rfl) (by rfl) (by first | exact VQ.int _ _ | exact VQ.bool _ | exact VQ.ptr _ _ | exact VQ.slice _ _ _ | exact VQ.func (by simp [zAW,zAV,zAZ]) (by simp [zAW,zAV,zAZ]) | exact VQ.agg (by simp [zAW,zAV,zAZ]) | exact VQ.tuple (by simp [zAW,zAV,zAZ])) ?_
          refine Dr.nil (by rfl) (fun M hM => by cases hM) FD ⟨D,by rfl,?_⟩
          (repeat (first | refine Rn.seq hc ?_ | refine Rn.skip hc ?_ | refine Rn.block hc ?_ | refine Rn.inBlock hc ?_ | refine Rn.scope hc ?_ | refine Rn.inScope hc ?_))
          refine Rn.ret (zCT rfl (v := .agg #[.int .i64 mm,.slice p1 n1 c1,.slice p2 n2 c2]) ?_ ?_)
          · simp only [zAT,zAK,ne_eq,Nat.reduceEqDiff,zNf,ld,zAR,cls,Nat.zero_add,Nat.reduceAdd,tk24,s10,g0,g1,g2]
          · simp only [zAU,sp_n,zAK,Nat.reduceLT,hn]
            exact hT
end Go.Proofs.Ytdaljohmfnfgiaa
namespace Go.Proofs.Ytdaljohmfnfgiaa
open Go Go.RowKit Go.Proofs.Ytdaljohmfnfgiaa.Canon
set_option maxRecDepth 20000
end Go.Proofs.Ytdaljohmfnfgiaa
namespace Go.Proofs.Ytdaljohmfnfgiaa
open Go Go.RowKit Go.Proofs.Ytdaljohmfnfgiaa.Canon
set_option maxRecDepth 20000
theorem lcm_ref2 {A : AHeap} (hw : WF A) {a b : Nat} (ha : 0 < a ∧ a ≤ 100000) (hb : 0 < b ∧ b ≤ 100000) : Con Try.prog 73 [.int .i64 (a : Int),.int .i64 (b : Int)] A (fun v A1 => v = .int .i64 (lcmN a b : Nat) ∧ Nx A.next A A1) := by
  refine zAF hc Try.func73 rfl (Nat.le_of_ble_eq_true rfl) ?_
  rw [s_in2]
  (repeat (first | refine Rn.seq hc ?_ | refine Rn.skip hc ?_ | refine Rn.block hc ?_ | refine Rn.inBlock hc ?_ | refine Rn.scope hc ?_ | refine Rn.inScope hc ?_))
  refine Rn.reg hc rfl ?_
  simp only [zAS,gd,zAX,rops,fx,zOi,zEl,show Try.f73.ntmps = 12 from rfl]
  (repeat (first | refine Rn.seq hc ?_ | refine Rn.skip hc ?_ | refine Rn.block hc ?_ | refine Rn.inBlock hc ?_ | refine Rn.scope hc ?_ | refine Rn.inScope hc ?_))
  refine Rn.region hc fun K hK => ?_
  refine Wo.run hc 3 rfl rfl rfl ?_
  simp (maxSteps := 2000000) only [List.drop_zero,List.take_succ_cons,List.take_zero,zAY,zAU,zAT,sp_n,Nat.reduceLT,ne_eq,Nat.reduceEqDiff,not_false_eq_true,gd,zAX,rops,fx,Nat.zero_add,Option.some.injEq,exists_eq_left']
  refine Wo.call hc (by rfl) (by rfl) ⟨by rfl,by rfl⟩ (xs := [.int .i64 (a : Int),.int .i64 (b : Int)]) (by rfl) (by rfl) (by rfl) (Con.mono (gcd_ref hw (by omega) (by omega)) ?_)
  rintro w A1 ⟨rfl,hx1⟩
  have hg : 0 < Nat.gcd a b := Nat.gcd_pos_of_pos_left _ ha.1
  have hq : ∀ M,bin Try.prog .quo 3 (.int .i64 (a : Int)) (.int .i64 (Nat.gcd a b : Nat)) M = some (.int .i64 ((a / Nat.gcd a b : Nat) : Int),M) := fun M => by
    have hle := Nat.div_le_self a (Nat.gcd a b)
    have e : ((a : Int)).tdiv ((Nat.gcd a b : Nat) : Int) = ((a / Nat.gcd a b : Nat) : Int) := by
      rw [Int.tdiv_eq_ediv_of_nonneg (by omega)]
      rfl
    have e2 : IntKind.i64.wrap ((a / Nat.gcd a b : Nat) : Int) = ((a / Nat.gcd a b : Nat) : Int) := by
      clear e
      generalize a / Nat.gcd a b = q at hle
      rw [IntWalk.i64_in _ (by omega)]
    rw [bin_quo _ _ _ _ (by omega),e,e2]
  have hm : IntKind.i64.wrap (((a / Nat.gcd a b : Nat) : Int) * (b : Int)) = ((lcmN a b : Nat) : Int) := by
    have hle : lcmN a b ≤ 100000 * 100000 := Nat.le_trans (lcmN_facts ha.1 hb.1).2.2.2 (Nat.mul_le_mul ha.2 hb.2)
    rw [← Int.natCast_mul]
    show IntKind.i64.wrap ((lcmN a b : Nat) : Int) = _
    rw [IntWalk.i64_in _ (by omega)]
  refine Wo.run hc 4 rfl rfl rfl ?_
  simp (maxSteps := 2000000) only [List.drop_zero,List.drop_succ_cons,List.take_succ_cons,List.take_zero,zAY,zAU,zAT,sp_n,Nat.reduceLT,ne_eq,Nat.reduceEqDiff,not_false_eq_true,gd,zAX,rops,fx,bin_mul,Option.some.injEq,exists_eq_left',Nat.reduceAdd,hq,hm]
  refine Wo.done hc rfl (hK _ _ ?_)
  clear hK
  (repeat (first | refine Rn.seq hc ?_ | refine Rn.skip hc ?_ | refine Rn.block hc ?_ | refine Rn.inBlock hc ?_ | refine Rn.scope hc ?_ | refine Rn.inScope hc ?_))
  refine Rn.ret (zAO rfl ⟨?_,hx1⟩)
  simp only [zAU,sp_n,Nat.reduceLT]
section
variable {m : Nat} {a : Nat → Int} {step B N : Nat}
theorem long_ref2 (hm : 0 < m) (hs : 0 < step) (hlim : ∀ n,0 ≤ a n ∧ a n < (m : Int)) {R : Nat} (hR : Red a N R) (hB0 : 0 < B) (hB : step ∣ B) (hRB : R ∣ B) {P : Nat → Nat} {i : Nat} (hPd : ∀ c,c < i → ∃ j,j < step ∧ P c = ordN m (dC m a step B N j)) (hl : 120 < lcmF P i * R) {p b : Nat} (hr : Red (scn (m : Int) a step) b p) : 120 < p := by
  have hP : ∀ n,N ≤ n → a (n + B) = a n := fun n hn => by
    obtain ⟨c,rfl⟩ := hRB
    rw [Nat.mul_comm]
    exact hR.per.times c n hn
  have hav : ∀ n,a (n + step) = (scn (m : Int) a step (n + step) - scn (m : Int) a step n) % (m : Int) := fun n => by
    rw [scn_eq hs (n + step),show scY (m : Int) a step (n + step) = scn (m : Int) a step n from rfl,Int.sub_emod,Int.emod_emod,← Int.sub_emod]
    rw [show scn (m : Int) a step n + a (n + step) - scn (m : Int) a step n = a (n + step) by omega]
    exact (Int.emod_eq_of_lt (hlim _).1 (hlim _).2).symm
  have hRp : R ∣ p := hR.dvd (N := b + step) (d := p) ⟨hr.per.pos,fun n hn => by
    obtain ⟨q,rfl⟩ : ∃ q,n = q + step := ⟨n - step,by omega⟩
    rw [show q + step + p = q + p + step by omega,hav,hav,show q + p + step = q + step + p by omega,hr.per.per (q + step) (by omega),hr.per.per q (by omega)]⟩
  have hg0 : 0 < Nat.gcd p B := Nat.gcd_pos_of_pos_left _ hr.per.pos
  obtain ⟨k,hk⟩ := Nat.gcd_dvd_left p B
  obtain ⟨c,hcB⟩ := Nat.gcd_dvd_right p B
  have hc0 : 0 < c := Nat.pos_of_ne_zero fun h0 => by rw [h0,Nat.mul_zero] at hcB; omega
  have hkB : k * B = c * p := by
    calc k * B = k * (Nat.gcd p B * c) := by rw [← hcB]
      _ = c * (Nat.gcd p B * k) := by rw [Nat.mul_left_comm,Nat.mul_comm k c,Nat.mul_left_comm]
      _ = c * p := by rw [← hk]
  have h1 : Per (scn (m : Int) a step) b (k * B) := by
    rw [hkB]
    exact hr.per.mul hc0
  have h2 := ord_of_per hm hs hB hP h1
  have h3 : lcmF P i ∣ k := lcmF_least fun j hj => by
    obtain ⟨q,hq,e⟩ := hPd j hj
    rw [e]
    exact h2 q hq
  have h4 : R ∣ Nat.gcd p B := Nat.dvd_gcd hRp hRB
  have h5 : lcmF P i * R ∣ k * Nat.gcd p B := Nat.mul_dvd_mul h3 h4
  rw [Nat.mul_comm k,← hk] at h5
  have := Nat.le_of_dvd hr.per.pos h5
  omega
end
theorem sumA_lim {a : Nat → Int} {m : Int} (h : ∀ n,0 ≤ a n ∧ a n < m) (step n : Nat) : ∀ q : Nat,0 ≤ sumA a step n q ∧ sumA a step n q ≤ (q : Int) * m
  | 0 => by simp [sumA]
  | q + 1 => by
    have h1 := sumA_lim h step n q
    have h2 := h (n + q * step)
    rw [sumA,Int.natCast_add,Int.natCast_one,Int.add_mul,Int.one_mul]
    omega
def rfS (g L : Nat) : Canon.Spec := fun f _ A v A1 => match f with
  | 104 => v = .int .i64 (g : Int) ∧ Nx A.next A A1
  | _ => v = .int .i64 (L : Int) ∧ Nx A.next A A1
def SmlQ (m : Int) (Y : Nat → Int) (A : AHeap) (v : Value) (A1 : AHeap) : Prop := ∃ a p,Red Y a p ∧ Nx A.next A A1 ∧ ∃ xa xc xr,v = .agg #[.int .i64 m,.slice xa a xc,.slice xr p p] ∧ a ≤ xc ∧ Ints A1 xa A.next A1.next (redS Y a) ∧ Ints A1 xr A.next A1.next (redR Y a p) ∧ Sl A1 xa A.next ∧ Sl A1 xr A.next
def smlS (m : Int) (Y : Nat → Int) : Canon.Spec := fun _ _ A v A1 => SmlQ m Y A v A1
def ScnQ (x : Las) (step : Nat) (A : AHeap) (v : Value) (A1 : AHeap) : Prop := Nx A.next A A1 ∧ ((v = .tuple #[.agg #[.int .i64 0,.slice none 0 0,.slice none 0 0],.bool false] ∧ (∃ N d,Per (scn x.m x.s step) N d) ∧ ∀ a p,Red (scn x.m x.s step) a p → 120 < p) ∨
  (∃ a p xa xc xr,Red (scn x.m x.s step) a p ∧ a ≤ x.st.length ∧ p ≤ 14400 ∧ v = .tuple #[.agg #[.int .i64 x.m,.slice xa a xc,.slice xr p p],.bool true] ∧ a ≤ xc ∧ Ints A1 xa A.next A1.next (redS (scn x.m x.s step) a) ∧ Ints A1 xr A.next A1.next (redR (scn x.m x.s step) a p) ∧ Sl A1 xa A.next ∧ Sl A1 xr A.next))
theorem scanned_ref {A : AHeap} (hw : WF A) {x : Las} (hox : x.ok A) {m : Nat} (hxm : x.m = (m : Int)) (hm : 2 ≤ m ∧ m ≤ 65521) (hlim : ∀ n,0 ≤ x.s n ∧ x.s n < (m : Int)) (h6 : x.st.length ≤ 1000) (h12 : 1 ≤ x.ro.length ∧ x.ro.length ≤ 20000) (hR : Red x.s x.st.length x.ro.length) {step : Nat} (hsp : 1 ≤ step ∧ step ≤ 120) :
    Con Try.prog 92 [x.v,.int .i64 (step : Int)] A (ScnQ x step A) := by
  refine zAF hc Try.func92 rfl (Nat.le_of_ble_eq_true rfl) ?_
  obtain ⟨A1,e1,hx1,hn1,b0,b1,b2⟩ := box3 hw (.int .i64 x.m) (.slice x.sa x.st.length x.sc) (.slice x.ra x.ro.length x.rc) 24
  have hxr : Nx A1.next A1 (A1.push (.cells #[.int .i64 0,.slice none 0 0,.slice none 0 0] 24)) := (Nx.refl hx1.wf _).push (Nat.le_refl _) _
  have lr := zAI A1 (.cells #[.int .i64 0,.slice none 0 0,.slice none 0 0] 24)
  have hnr : (A1.push (.cells #[.int .i64 0,.slice none 0 0,.slice none 0 0] 24)).next = A1.next + 1 := rfl
  generalize er : A1.push (.cells #[.int .i64 0,.slice none 0 0,.slice none 0 0] 24) = Ar at hxr lr hnr
  have b0 := (hxr.cl (show A.next < A1.next by omega) 0).trans b0
  have b1 := (hxr.cl (show A.next < A1.next by omega) 1).trans b1
  have b2 := (hxr.cl (show A.next < A1.next by omega) 2).trans b2
  have hx0r : Nx A.next A Ar := hx1.trans (hxr.le hx1.next)
  obtain ⟨f1,f2,f3,f4⟩ := lcmN_facts (show 0 < step by omega) (show 0 < x.ro.length by omega)
  have hB2 : lcmN step x.ro.length ≤ 120 * 20000 := Nat.le_trans f4 (Nat.mul_le_mul hsp.2 h12.2)
  rw [s_in2]
  unfold Las.v
  (repeat (first | refine Rn.seq hc ?_ | refine Rn.skip hc ?_ | refine Rn.block hc ?_ | refine Rn.inBlock hc ?_ | refine Rn.scope hc ?_ | refine Rn.inScope hc ?_))
  refine Rn.reg hc rfl ?_
  simp only [zAY,zAS,zAU,zAT,Nat.reduceLT,ne_eq,Nat.reduceEqDiff,zNf,gd,zAX,rops,fx,zOi,zEl,Value.cells,show Try.f92.ntmps = 106 from rfl,e1,ze24,er]
  (repeat (first | refine Rn.seq hc ?_ | refine Rn.skip hc ?_ | refine Rn.block hc ?_ | refine Rn.inBlock hc ?_ | refine Rn.scope hc ?_ | refine Rn.inScope hc ?_))
  refine Rn.region hc fun K hK => ?_
  refine Wo.run hc 4 rfl rfl rfl ?_
  simp (maxSteps := 2000000) only [List.drop_zero,List.take_succ_cons,List.take_zero,zAY,zAU,zAT,sp_n,Nat.reduceLT,ne_eq,Nat.reduceEqDiff,not_false_eq_true,gd,zAX,rops,fx,ld,fad,lng,zAR,Nat.zero_add,Option.some.injEq,exists_eq_left',tk22,zBG,un22,b2]
  refine Wo.call hc (by rfl) (by rfl) ⟨by rfl,by rfl⟩ (xs := [.int .i64 (step : Int),.int .i64 (x.ro.length : Int)]) (by rfl) (by rfl) (by rfl) (Con.mono (lcm_ref2 hx0r.wf ⟨by omega,by omega⟩ ⟨by omega,by omega⟩) ?_)
  rintro w C ⟨rfl,hxC⟩
  refine Wo.run hc 1 rfl rfl rfl ?_
  simp (maxSteps := 2000000) only [List.drop_zero,List.drop_succ_cons,List.take_succ_cons,List.take_zero,zAY,zAU,sp_n,Nat.reduceLT,gd,zAX,rops,fx,Option.some.injEq,exists_eq_left',Nat.reduceAdd]
  refine Wo.done hc rfl (hK _ _ ?_)
  clear hK
  (repeat (first | refine Rn.seq hc ?_ | refine Rn.skip hc ?_ | refine Rn.block hc ?_ | refine Rn.inBlock hc ?_ | refine Rn.scope hc ?_ | refine Rn.inScope hc ?_))
  have hAC : Nx A.next A C := hx0r.trans (hxC.le hx0r.next)
  have nC := hxC.next
  have b0 := (hxC.cl (show A.next < Ar.next by omega) 0).trans b0
  have b1 := (hxC.cl (show A.next < Ar.next by omega) 1).trans b1
  have b2 := (hxC.cl (show A.next < Ar.next by omega) 2).trans b2
  have lC : Canon.look C.objs A1.next = _ := (hxC.keep _ (by omega)).trans lr
  have hdvS : step ∣ lcmN step x.ro.length := Nat.dvd_of_mod_eq_zero f2
  have hdvR : x.ro.length ∣ lcmN step x.ro.length := Nat.dvd_of_mod_eq_zero f3
  have hB120 : x.ro.length ≤ 120 → lcmN step x.ro.length ≤ 14400 := fun h => Nat.le_trans f4 (Nat.mul_le_mul hsp.2 h)
  have hBs : lcmN step x.ro.length ≤ step * x.ro.length := f4
  generalize lcmN step x.ro.length = B at f1 f2 f3 f4 hB2 hdvS hdvR hB120 hBs ⊢
  obtain ⟨Q,hQ⟩ := id hdvS
  rw [Nat.mul_comm] at hQ
  have hP' : ∀ n,x.st.length ≤ n → x.s (n + B) = x.s n := fun n hn => by
    obtain ⟨q,rfl⟩ := hdvR
    rw [Nat.mul_comm]
    exact hR.per.times q n hn
  clear f2 f3 f4
  obtain ⟨pR,hpR⟩ : ∃ b,b = A1.next := ⟨_,rfl⟩
  rw [← hpR] at lC ⊢
  have nAC : A.next < C.next := by omega
  have hpRA : A.next < pR := by omega
  have hpRC : pR < C.next := by omega
  obtain ⟨P,hPd⟩ : ∃ P : Nat → Nat,P = fun c => ordN m (dC m x.s step B x.st.length ((x.st.length + c) % step)) := ⟨_,rfl⟩
  have hPv : ∀ c,P c = ordN m (dC m x.s step B x.st.length ((x.st.length + c) % step)) := fun c => by rw [hPd]
  have hPp : ∀ c,c < step → 0 < P c := fun c _ => by rw [hPv]; exact ordN_pos (by omega)
  have hs0 : 0 < step := by omega
  clear hPd e1 er hxr lr hnr hx1 hn1 hx0r hxC
  refine Rn.reg hc rfl ?_
  simp only [zAS,gd,zAX,rops,fx,zOi,zEl]
  (repeat (first | refine Rn.seq hc ?_ | refine Rn.skip hc ?_ | refine Rn.block hc ?_ | refine Rn.inBlock hc ?_ | refine Rn.scope hc ?_ | refine Rn.inScope hc ?_))
  refine Rn.reg hc rfl ?_
  simp only [zAS,gd,zAX,rops,fx,zOi,zEl]
  (repeat (first | refine Rn.seq hc ?_ | refine Rn.skip hc ?_ | refine Rn.block hc ?_ | refine Rn.inBlock hc ?_ | refine Rn.scope hc ?_ | refine Rn.inScope hc ?_))
  refine Rn.zDY hc (I := fun k s H => ∃ c,c ≤ step ∧ k = step - c ∧ Nx C.next C H ∧ lcmF P c ≤ 120 ∧ (c = 0 ∨ lcmF P c * x.ro.length ≤ 120) ∧ s.n = 106 ∧ sget s 1 = .int .i64 (step : Int) ∧ sget s 2 = .pointer (some ⟨A.next,0,none⟩) ∧ sget s 4 = .pointer (some ⟨pR,0,none⟩) ∧ sget s 6 = .int .i64 (B : Int) ∧ sget s 7 = .int .i64 ((lcmF P c : Nat) : Int) ∧ sget s 8 = .int .i64 (c : Int))
    (n := step) ⟨0,by omega,rfl,Nx.refl hAC.wf _,by show 1 ≤ 120; omega,.inl rfl,by simp only [sp_n],by simp only [zAU,zAT,sp_n,Nat.reduceLT,ne_eq,Nat.reduceEqDiff,zNf],by simp only [zAU,zAT,sp_n,Nat.reduceLT,ne_eq,Nat.reduceEqDiff,zNf],by simp only [zAU,zAT,sp_n,Nat.reduceLT,ne_eq,Nat.reduceEqDiff,zNf],by simp only [zAU,zAT,sp_n,Nat.reduceLT,ne_eq,Nat.reduceEqDiff,zNf],by simp only [zAU,zAT,sp_n,Nat.reduceLT,ne_eq,Nat.reduceEqDiff,zNf]; rfl,by simp only [zAU,sp_n,Nat.reduceLT]; rfl⟩ ?_
  rintro k s H ⟨c,hcs,rfl,hH,h120,hcR,hn,s1,s2,s4,s6,s7,s8⟩ ih
  have nH := hH.next
  have hAH : Nx A.next A H := hAC.trans (hH.le hAC.next)
  (repeat (first | refine Rn.seq hc ?_ | refine Rn.skip hc ?_ | refine Rn.block hc ?_ | refine Rn.inBlock hc ?_ | refine Rn.scope hc ?_ | refine Rn.inScope hc ?_))
  by_cases hlc : c < step
  · have hd : decide ((c : Int) < (step : Int)) = true := decide_eq_true (by omega)
    refine Rn.reg hc rfl ?_
    simp only [zAY,zAU,zAT,sp_n,Nat.reduceLT,ne_eq,Nat.reduceEqDiff,zNf,gd,zAX,rops,fx,zAN,zOi,zEl,hn,s1,s8,hd]
    (repeat (first | refine Rn.seq hc ?_ | refine Rn.skip hc ?_ | refine Rn.block hc ?_ | refine Rn.inBlock hc ?_ | refine Rn.scope hc ?_ | refine Rn.inScope hc ?_))
    refine Rn.zAM hc rfl ?_
    simp only [zAY,zAU,sp_n,Nat.reduceLT,Value.bool.injEq,zEl,hn]
    (repeat (first | refine Rn.seq hc ?_ | refine Rn.skip hc ?_ | refine Rn.block hc ?_ | refine Rn.inBlock hc ?_ | refine Rn.scope hc ?_ | refine Rn.inScope hc ?_))
    refine Rn.reg hc rfl ?_
    simp only [zAS,gd,zAX,rops,fx,zOi,zEl]
    (repeat (first | refine Rn.seq hc ?_ | refine Rn.skip hc ?_ | refine Rn.block hc ?_ | refine Rn.inBlock hc ?_ | refine Rn.scope hc ?_ | refine Rn.inScope hc ?_))
    refine Rn.reg hc rfl ?_
    simp only [zAY,zAU,zAT,sp_n,Nat.reduceLT,ne_eq,Nat.reduceEqDiff,zNf,gd,zAX,rops,fx,zOi,zEl,hn,s8]
    (repeat (first | refine Rn.seq hc ?_ | refine Rn.skip hc ?_ | refine Rn.block hc ?_ | refine Rn.inBlock hc ?_ | refine Rn.scope hc ?_ | refine Rn.inScope hc ?_))
    refine Rn.zDY hc (I := fun k s H2 => ∃ q,q ≤ Q ∧ k = Q - q ∧ Nx H.next H H2 ∧ s.n = 106 ∧ sget s 1 = .int .i64 (step : Int) ∧ sget s 2 = .pointer (some ⟨A.next,0,none⟩) ∧ sget s 4 = .pointer (some ⟨pR,0,none⟩) ∧ sget s 6 = .int .i64 (B : Int) ∧ sget s 7 = .int .i64 ((lcmF P c : Nat) : Int) ∧ sget s 8 = .int .i64 (c : Int) ∧ sget s 9 = .int .i64 (sumA x.s step (x.st.length + c) q) ∧ sget s 10 = .int .i64 ((c + q * step : Nat) : Int))
      (n := Q) ⟨0,by omega,rfl,Nx.refl hH.wf _,by simp only [sp_n,hn],by simp only [zAT,ne_eq,Nat.reduceEqDiff,zNf,s1],by simp only [zAT,ne_eq,Nat.reduceEqDiff,zNf,s2],by simp only [zAT,ne_eq,Nat.reduceEqDiff,zNf,s4],by simp only [zAT,ne_eq,Nat.reduceEqDiff,zNf,s6],by simp only [zAT,ne_eq,Nat.reduceEqDiff,zNf,s7],by simp only [zAT,ne_eq,Nat.reduceEqDiff,zNf,s8],by simp only [zAU,zAT,sp_n,Nat.reduceLT,ne_eq,Nat.reduceEqDiff,zNf,hn]; rfl,by simp only [zAU,sp_n,Nat.reduceLT,hn,Nat.zero_mul,Nat.add_zero]⟩ ?_
    clear hn s1 s2 s4 s6 s7 s8 s hd
    rintro k s H2 ⟨q,hq,rfl,hH2,hn,s1,s2,s4,s6,s7,s8,s9,s10⟩ ih2
    have hCH2 : Nx C.next C H2 := hH.trans (hH2.le nH)
    have nH2 := hCH2.next
    have hAH2 : Nx A.next A H2 := hAC.trans (hCH2.le hAC.next)
    have c0 := (hCH2.cl nAC 0).trans b0
    have c1 := (hCH2.cl nAC 1).trans b1
    have c2 := (hCH2.cl nAC 2).trans b2
    have hsl := sumA_lim hlim step (x.st.length + c) q
    have hQ2 : Q * 1 ≤ Q * step := Nat.mul_le_mul_left _ hs0
    have hqm : (q : Int) * (m : Int) ≤ 2400000 * 65521 := by
      have h1 : q * m ≤ 2400000 * 65521 := Nat.mul_le_mul (by omega) hm.2
      rw [← Int.natCast_mul]
      omega
    (repeat (first | refine Rn.seq hc ?_ | refine Rn.skip hc ?_ | refine Rn.block hc ?_ | refine Rn.inBlock hc ?_ | refine Rn.scope hc ?_ | refine Rn.inScope hc ?_))
    by_cases hlq : q < Q
    · have hqs : (q + 1) * step ≤ Q * step := Nat.mul_le_mul_right _ hlq
      rw [Nat.succ_mul] at hqs
      have hd : decide (((c + q * step : Nat) : Int) < (B : Int)) = true := decide_eq_true (by omega)
      have hw1 : IntKind.i64.wrap ((x.st.length : Int) + ((c + q * step : Nat) : Int)) = ((x.st.length + (c + q * step) : Nat) : Int) := by rw [IntWalk.i64_in _ (by omega)]; omega
      have hlv := hlim (x.st.length + (c + q * step))
      have hw2 : IntKind.i64.wrap (sumA x.s step (x.st.length + c) q + x.s (x.st.length + (c + q * step))) = sumA x.s step (x.st.length + c) (q + 1) := by
        rw [IntWalk.i64_in _ ⟨by omega,by omega⟩,sumA,Nat.add_assoc]
      have hw3 : IntKind.i64.wrap (((c + q * step : Nat) : Int) + (step : Int)) = ((c + (q + 1) * step : Nat) : Int) := by rw [IntWalk.i64_in _ (by omega),Nat.succ_mul]; omega
      refine Rn.reg hc rfl ?_
      simp only [zAY,zAU,zAT,sp_n,Nat.reduceLT,ne_eq,Nat.reduceEqDiff,zNf,gd,zAX,rops,fx,zAN,zOi,zEl,hn,s6,s10,hd]
      (repeat (first | refine Rn.seq hc ?_ | refine Rn.skip hc ?_ | refine Rn.block hc ?_ | refine Rn.inBlock hc ?_ | refine Rn.scope hc ?_ | refine Rn.inScope hc ?_))
      refine Rn.zAM hc rfl ?_
      simp only [zAY,zAU,sp_n,Nat.reduceLT,Value.bool.injEq,zEl,hn]
      (repeat (first | refine Rn.seq hc ?_ | refine Rn.skip hc ?_ | refine Rn.block hc ?_ | refine Rn.inBlock hc ?_ | refine Rn.scope hc ?_ | refine Rn.inScope hc ?_))
      refine Rn.region hc fun K hK => ?_
      refine Wo.run hc 7 rfl rfl rfl ?_
      simp (maxSteps := 2000000) only [List.drop_zero,List.take_succ_cons,List.take_zero,zAY,zAU,zAT,sp_n,Nat.reduceLT,ne_eq,Nat.reduceEqDiff,not_false_eq_true,gd,zAX,rops,fx,ld,fad,lng,zAH,zAR,cls,Nat.zero_add,Option.some.injEq,exists_eq_left',Nat.reduceAdd,tk22,tk24,zBO,un22,hn,s2,s9,s10,c0,c1,c2,hw1]
      refine Wo.call hc (by rfl) (by rfl) ⟨by rfl,by rfl⟩ (xs := [.agg #[.int .i64 x.m,.slice x.sa x.st.length x.sc,.slice x.ra x.ro.length x.rc],.int .i64 ((x.st.length + (c + q * step) : Nat) : Int)]) (by rfl) (by rfl) (by simp only [zAY,zAU,zAT,sp_n,Nat.reduceLT,ne_eq,Nat.reduceEqDiff,zNf,List.map_cons,List.map_nil,List.nil_append,List.append_nil,hn]) (Con.mono (at_ref hAH2.wf (hox.nx hAH2).1 (hox.nx hAH2).2.1 (x.st.length + (c + q * step)) hox.2.2.1 (by omega) hox.2.2.2 (by omega)) ?_)
      rintro w H3 ⟨rfl,hx3⟩
      rw [show atL x.st x.ro (x.st.length + (c + q * step)) = x.s (x.st.length + (c + q * step)) from rfl]
      refine Wo.run hc 2 rfl rfl rfl ?_
      simp (maxSteps := 2000000) only [List.drop_zero,List.drop_succ_cons,List.take_succ_cons,List.take_zero,zAY,zAU,zAT,sp_n,Nat.reduceLT,ne_eq,Nat.reduceEqDiff,not_false_eq_true,gd,zAX,rops,fx,zAH,Option.some.injEq,exists_eq_left',Nat.reduceAdd,hn,hw2]
      refine Wo.done hc rfl (hK _ _ ?_)
      clear hK
      (repeat (first | refine Rn.seq hc ?_ | refine Rn.skip hc ?_ | refine Rn.block hc ?_ | refine Rn.inBlock hc ?_ | refine Rn.scope hc ?_ | refine Rn.inScope hc ?_))
      refine Rn.reg hc rfl ?_
      simp only [zAY,zAU,zAT,sp_n,Nat.reduceLT,ne_eq,Nat.reduceEqDiff,zNf,gd,zAX,rops,fx,zAH,zOi,zEl,hn,s1,s10,hw3]
      (repeat (first | refine Rn.seq hc ?_ | refine Rn.skip hc ?_ | refine Rn.block hc ?_ | refine Rn.inBlock hc ?_ | refine Rn.scope hc ?_ | refine Rn.inScope hc ?_))
      exact ih2 _ _ _ (by omega) ⟨q + 1,by omega,rfl,hH2.trans (hx3.le hH2.next),by simp only [sp_n,hn],by simp only [zAT,ne_eq,Nat.reduceEqDiff,zNf,s1],by simp only [zAT,ne_eq,Nat.reduceEqDiff,zNf,s2],by simp only [zAT,ne_eq,Nat.reduceEqDiff,zNf,s4],by simp only [zAT,ne_eq,Nat.reduceEqDiff,zNf,s6],by simp only [zAT,ne_eq,Nat.reduceEqDiff,zNf,s7],by simp only [zAT,ne_eq,Nat.reduceEqDiff,zNf,s8],by simp only [zAU,zAT,sp_n,Nat.reduceLT,ne_eq,Nat.reduceEqDiff,zNf,hn],by simp only [zAU,sp_n,Nat.reduceLT,hn]⟩
    · have hqQ : q = Q := by omega
      subst hqQ
      clear ih2
      have hd : decide (((c + q * step : Nat) : Int) < (B : Int)) = false := decide_eq_false (by omega)
      refine Rn.reg hc rfl ?_
      simp only [zAY,zAU,zAT,sp_n,Nat.reduceLT,ne_eq,Nat.reduceEqDiff,zNf,gd,zAX,rops,fx,zAN,zOi,zEl,hn,s6,s10,hd]
      (repeat (first | refine Rn.seq hc ?_ | refine Rn.skip hc ?_ | refine Rn.block hc ?_ | refine Rn.inBlock hc ?_ | refine Rn.scope hc ?_ | refine Rn.inScope hc ?_))
      refine Rn.zAM hc rfl ?_
      simp only [zAY,zAU,sp_n,Nat.reduceLT,Value.bool.injEq,zEl,hn]
      (repeat (first | refine Rn.seq hc ?_ | refine Rn.skip hc ?_ | refine Rn.block hc ?_ | refine Rn.inBlock hc ?_ | refine Rn.scope hc ?_ | refine Rn.inScope hc ?_))
      refine Rn.exit hc rfl ?_
      (repeat (first | refine Rn.seq hc ?_ | refine Rn.skip hc ?_ | refine Rn.block hc ?_ | refine Rn.inBlock hc ?_ | refine Rn.scope hc ?_ | refine Rn.inScope hc ?_))
      obtain ⟨d,hdd⟩ : ∃ d,d = dC m x.s step B x.st.length ((x.st.length + c) % step) := ⟨_,rfl⟩
      have hde : (d : Int) = sumA x.s step (x.st.length + c) q % (m : Int) := by
        rw [hdd,dC_eq (show 0 < m by omega) hs0 hP' (show x.st.length ≤ x.st.length + c by omega),hQ,scD_sum (by omega) hs0]
      have hdm : d < m := by
        have := Int.emod_lt_of_pos (sumA x.s step (x.st.length + c) q) (show (0 : Int) < (m : Int) by omega)
        omega
      have hPx : P c = m / Nat.gcd d m := by rw [hPv,hdd,Nat.gcd_comm]; rfl
      have hg0 : 0 < Nat.gcd d m := Nat.gcd_pos_of_pos_right _ (by omega)
      have hT0 : 0 < lcmF P c := lcmF_pos hPp hcs
      have hPle : P c ≤ m := by rw [hPx]; exact Nat.div_le_self _ _
      have hr : ∀ M,bin Try.prog .rem 3 (.int .i64 (sumA x.s step (x.st.length + c) q)) (.int .i64 x.m) M = some (.int .i64 (d : Int),M) := fun M => by
        rw [zCS _ _ _ _ (by omega),Int.tmod_eq_emod_of_nonneg hsl.1,hde,hxm]
      have hqt : ∀ M,bin Try.prog .quo 3 (.int .i64 x.m) (.int .i64 ((Nat.gcd d m : Nat) : Int)) M = some (.int .i64 (P c : Int),M) := fun M => by rw [hxm,quo_nat hg0 (by omega),hPx]
      obtain ⟨F,hFb,hF⟩ : ∃ F : AHeap → Prop,(∀ M,F M → ∀ b,b < H2.next → ∀ o,cl M b o = cl H2 b o) ∧ (∀ M,Nx H2.next H2 M → F M) := ⟨fun M => Nx H2.next H2 M,fun M h b hb o => h.cl hb o,fun _ h => h⟩
      have FM0 := fun M hM => (hFb M hM A.next (by omega) 0).trans c0
      have hbk : Nx H2.next H2 (bump H2 13) := Nx.bump (Nx.refl hH2.wf _) 13
      have FB := hF _ hbk
      refine Rn.drawnF hc hx (rfS (Nat.gcd d m) (lcmF P (c + 1))) F (n := 2) (k := 13) (by kernel_rfl) (by kernel_rfl) (by rfl) ?_
      refine Dr.read (by first | rfl | kernel_rfl) (by rfl) (by assumption) (fun M hM => by simp only [zAY,zAT,ne_eq,Nat.reduceEqDiff,zNf,fx,s7] <;> rfl) (by rfl) (by first | exact VQ.int _ _ | exact VQ.bool _ | exact VQ.ptr _ _ | exact VQ.slice _ _ _ | exact VQ.func (by simp [zAW,zAV,zAZ]) (by simp [zAW,zAV,zAZ]) | exact VQ.agg (by simp [zAW,zAV,zAZ]) | exact VQ.tuple (by simp [zAW,zAV,zAZ])) ?_
      refine Dr.read (by first | rfl | kernel_rfl) (by rfl) (by assumption) (fun M hM => by simp only [zAY,zAT,ne_eq,Nat.reduceEqDiff,zNf,fx,fad,zAR,Nat.add_zero,zBJ,s2] <;> rfl) (by rfl) (by first | exact VQ.int _ _ | exact VQ.bool _ | exact VQ.ptr _ _ | exact VQ.slice _ _ _ | exact VQ.func (by simp [zAW,zAV,zAZ]) (by simp [zAW,zAV,zAZ]) | exact VQ.agg (by simp [zAW,zAV,zAZ]) | exact VQ.tuple (by simp [zAW,zAV,zAZ])) ?_
      refine Dr.read (by first | rfl | kernel_rfl) (by rfl) (by assumption) (fun M hM => by simp only [zAY,zAU,sp_n,Nat.reduceLT,fx,ld,zAR,tk3,hn,FM0 M hM] <;> rfl) (by rfl) (by first | exact VQ.int _ _ | exact VQ.bool _ | exact VQ.ptr _ _ | exact VQ.slice _ _ _ | exact VQ.func (by simp [zAW,zAV,zAZ]) (by simp [zAW,zAV,zAZ]) | exact VQ.agg (by simp [zAW,zAV,zAZ]) | exact VQ.tuple (by simp [zAW,zAV,zAZ])) ?_
      refine Dr.read (by first | rfl | kernel_rfl) (by rfl) (by assumption) (fun M hM => by simp only [zAY,zAT,ne_eq,Nat.reduceEqDiff,zNf,fx,s9] <;> rfl) (by rfl) (by first | exact VQ.int _ _ | exact VQ.bool _ | exact VQ.ptr _ _ | exact VQ.slice _ _ _ | exact VQ.func (by simp [zAW,zAV,zAZ]) (by simp [zAW,zAV,zAZ]) | exact VQ.agg (by simp [zAW,zAV,zAZ]) | exact VQ.tuple (by simp [zAW,zAV,zAZ])) ?_
      refine Dr.read (by first | rfl | kernel_rfl) (by rfl) (by assumption) (fun M hM => by simp only [zAY,zAT,ne_eq,Nat.reduceEqDiff,zNf,fx,fad,zAR,Nat.add_zero,zBJ,s2] <;> rfl) (by rfl) (by first | exact VQ.int _ _ | exact VQ.bool _ | exact VQ.ptr _ _ | exact VQ.slice _ _ _ | exact VQ.func (by simp [zAW,zAV,zAZ]) (by simp [zAW,zAV,zAZ]) | exact VQ.agg (by simp [zAW,zAV,zAZ]) | exact VQ.tuple (by simp [zAW,zAV,zAZ])) ?_
      refine Dr.read (by first | rfl | kernel_rfl) (by rfl) (by assumption) (fun M hM => by simp only [zAY,zAU,sp_n,Nat.reduceLT,fx,ld,zAR,tk3,hn,FM0 M hM] <;> rfl) (by rfl) (by first | exact VQ.int _ _ | exact VQ.bool _ | exact VQ.ptr _ _ | exact VQ.slice _ _ _ | exact VQ.func (by simp [zAW,zAV,zAZ]) (by simp [zAW,zAV,zAZ]) | exact VQ.agg (by simp [zAW,zAV,zAZ]) | exact VQ.tuple (by simp [zAW,zAV,zAZ])) ?_
      refine Dr.read (by first | rfl | kernel_rfl) (by rfl) (by assumption) (fun M hM => by simp only [zAY,zAU,zAT,sp_n,Nat.reduceLT,ne_eq,Nat.reduceEqDiff,zNf,fx,hn,hr] <;> rfl) (by rfl) (by first | exact VQ.int _ _ | exact VQ.bool _ | exact VQ.ptr _ _ | exact VQ.slice _ _ _ | exact VQ.func (by simp [zAW,zAV,zAZ]) (by simp [zAW,zAV,zAZ]) | exact VQ.agg (by simp [zAW,zAV,zAZ]) | exact VQ.tuple (by simp [zAW,zAV,zAZ])) ?_
      refine Dr.read (by first | rfl | kernel_rfl) (by rfl) (by assumption) (fun M hM => by simp only [zAY,zAT,ne_eq,Nat.reduceEqDiff,zNf,fx,fad,zAR,Nat.add_zero,zBJ,s2] <;> rfl) (by rfl) (by first | exact VQ.int _ _ | exact VQ.bool _ | exact VQ.ptr _ _ | exact VQ.slice _ _ _ | exact VQ.func (by simp [zAW,zAV,zAZ]) (by simp [zAW,zAV,zAZ]) | exact VQ.agg (by simp [zAW,zAV,zAZ]) | exact VQ.tuple (by simp [zAW,zAV,zAZ])) ?_
      refine Dr.read (by first | rfl | kernel_rfl) (by rfl) (by assumption) (fun M hM => by simp only [zAY,zAU,sp_n,Nat.reduceLT,fx,ld,zAR,tk3,hn,FM0 M hM] <;> rfl) (by rfl) (by first | exact VQ.int _ _ | exact VQ.bool _ | exact VQ.ptr _ _ | exact VQ.slice _ _ _ | exact VQ.func (by simp [zAW,zAV,zAZ]) (by simp [zAW,zAV,zAZ]) | exact VQ.agg (by simp [zAW,zAV,zAZ]) | exact VQ.tuple (by simp [zAW,zAV,zAZ])) ?_
      refine Dr.call (by kernel_rfl) (by rfl) (by assumption) (by rfl) (zAA (by rfl) ⟨by rfl,by rfl⟩ (by rfl) (xs := [.int .i64 (d : Int),.int .i64 (m : Int)]) (by rw [← hxm]; simp only [zAY,zAU,zAT,sp_n,Nat.reduceLT,ne_eq,Nat.reduceEqDiff,zNf,List.map_cons,List.map_nil,List.nil_append,List.append_nil,hn]) (Con.mono (gcd_ref hbk.wf (a := d) (b := m) (by omega) (by omega)) fun v A1 h => (h : v = .int .i64 ((Nat.gcd d m : Nat) : Int) ∧ Nx (bump H2 13).next (bump H2 13) A1))) ?_
      rintro v M1 ⟨rfl,k1⟩
      have hM1 : Nx H2.next H2 M1 := hbk.trans (k1.le hbk.next)
      have FM1 := hF _ hM1
      refine Dr.read (by first | rfl | kernel_rfl) (by rfl) (by assumption) (fun M hM => by simp only [zAY,zAU,zAT,sp_n,Nat.reduceLT,ne_eq,Nat.reduceEqDiff,zNf,fx,hn,hqt] <;> rfl) (by rfl) (by first | exact VQ.int _ _ | exact VQ.bool _ | exact VQ.ptr _ _ | exact VQ.slice _ _ _ | exact VQ.func (by simp [zAW,zAV,zAZ]) (by simp [zAW,zAV,zAZ]) | exact VQ.agg (by simp [zAW,zAV,zAZ]) | exact VQ.tuple (by simp [zAW,zAV,zAZ])) ?_
      refine Dr.call (by kernel_rfl) (by rfl) (by assumption) (by rfl) (zAA (by rfl) ⟨by rfl,by rfl⟩ (by rfl) (xs := [.int .i64 ((lcmF P c : Nat) : Int),.int .i64 (P c : Int)]) (by simp only [zAY,zAU,zAT,sp_n,Nat.reduceLT,ne_eq,Nat.reduceEqDiff,zNf,List.map_cons,List.map_nil,List.nil_append,List.append_nil,hn]) (Con.mono (lcm_ref2 hM1.wf (a := lcmF P c) (b := P c) ⟨hT0,by omega⟩ ⟨hPp c hlc,by omega⟩) fun v A1 h => (h : v = .int .i64 ((lcmF P (c + 1) : Nat) : Int) ∧ Nx M1.next M1 A1))) ?_
      rintro v M2 ⟨rfl,k2⟩
      have hM2 : Nx H2.next H2 M2 := hM1.trans (k2.le hM1.next)
      have FM2 := hF _ hM2
      refine Dr.read (by first | rfl | kernel_rfl) (by rfl) (by assumption) (fun M hM => by simp only [zAY,zAU,sp_n,Nat.reduceLT,fx,hn] <;> rfl) (by rfl) (by first | exact VQ.int _ _ | exact VQ.bool _ | exact VQ.ptr _ _ | exact VQ.slice _ _ _ | exact VQ.func (by simp [zAW,zAV,zAZ]) (by simp [zAW,zAV,zAZ]) | exact VQ.agg (by simp [zAW,zAV,zAZ]) | exact VQ.tuple (by simp [zAW,zAV,zAZ])) ?_
      refine Dr.nil (by rfl) (fun M hM => by cases hM) FM2 ⟨M2,by rfl,?_⟩
      (repeat (first | refine Rn.seq hc ?_ | refine Rn.skip hc ?_ | refine Rn.block hc ?_ | refine Rn.inBlock hc ?_ | refine Rn.scope hc ?_ | refine Rn.inScope hc ?_))
      have hCM : Nx C.next C M2 := hCH2.trans (hM2.le nH2)
      have hAM : Nx A.next A M2 := hAC.trans (hCM.le hAC.next)
      have z2 : cl M2 A.next 2 = _ := (hCM.cl nAC 2).trans b2
      have hTle : lcmF P (c + 1) ≤ 120 * 65521 := Nat.le_trans lcmN_le (Nat.mul_le_mul h120 (by omega))
      have hTR : lcmF P (c + 1) * x.ro.length ≤ (120 * 65521) * 20000 := Nat.mul_le_mul hTle h12.2
      have hwm : IntKind.i64.wrap (((lcmF P (c + 1) : Nat) : Int) * (x.ro.length : Int)) = ((lcmF P (c + 1) * x.ro.length : Nat) : Int) := by rw [← Int.natCast_mul,IntWalk.i64_in _ (by omega)]
      by_cases hlong : 120 < lcmF P (c + 1) * x.ro.length
      · have hd2 : decide (120 < ((lcmF P (c + 1) * x.ro.length : Nat) : Int)) = true := decide_eq_true (by omega)
        obtain ⟨D,q1,g0,g1,g2,hxD⟩ := err_fin hAM (by omega) (by have := hCM.next; omega) ((hCM.keep _ hpRC).trans lC)
        refine Rn.reg hc rfl ?_
        simp only [zAY,zAS,zAU,zAT,sp_n,Nat.reduceLT,ne_eq,Nat.reduceEqDiff,zNf,gd,zAX,rops,fx,ld,fad,lng,zBS,bin_mul,zAR,Nat.zero_add,zOi,zEl,tk22,zBG,un22,hn,s2,z2,hwm,hd2]
        (repeat (first | refine Rn.seq hc ?_ | refine Rn.skip hc ?_ | refine Rn.block hc ?_ | refine Rn.inBlock hc ?_ | refine Rn.scope hc ?_ | refine Rn.inScope hc ?_))
        refine Rn.zAM hc rfl ?_
        simp only [zAY,zAU,sp_n,Nat.reduceLT,Value.bool.injEq,zEl,hn]
        (repeat (first | refine Rn.seq hc ?_ | refine Rn.skip hc ?_ | refine Rn.block hc ?_ | refine Rn.inBlock hc ?_ | refine Rn.scope hc ?_ | refine Rn.inScope hc ?_))
        refine Rn.reg hc rfl ?_
        simp only [zAY,zAS,zAU,zAT,sp_n,zAK,Nat.reduceLT,ne_eq,Nat.reduceEqDiff,zNf,gd,zAX,rops,fx,str,zAR,Nat.zero_add,zOi,zEl,Nat.reduceAdd,tk24,hn,s4,bd24_z,q1,List.size_toArray,List.length_cons,List.length_nil,Nat.beq_refl]
        (repeat (first | refine Rn.seq hc ?_ | refine Rn.skip hc ?_ | refine Rn.block hc ?_ | refine Rn.inBlock hc ?_ | refine Rn.scope hc ?_ | refine Rn.inScope hc ?_))
        refine Rn.ret (zCT rfl (v := .agg #[.int .i64 0,.slice none 0 0,.slice none 0 0]) ?_ ?_)
        · simp only [zAT,ne_eq,Nat.reduceEqDiff,zNf,ld,zAR,cls,Nat.zero_add,Nat.reduceAdd,tk24,s4,g0,g1,g2]
        · simp only [zAU,sp_n,Nat.reduceLT,hn]
          refine ⟨hxD,.inl ⟨rfl,⟨x.st.length,m * B,?_⟩,fun b p hr => ?_⟩⟩
          · rw [hxm]
            exact scn_per_m (show 0 < m by omega) hs0 f1 hdvS hP'
          · rw [hxm] at hr
            exact long_ref2 (show 0 < m by omega) hs0 hlim hR f1 hdvS hdvR (P := P) (i := c + 1) (fun c' _ => ⟨_,Nat.mod_lt _ hs0,hPv c'⟩) hlong hr
      · have hd2 : decide (120 < ((lcmF P (c + 1) * x.ro.length : Nat) : Int)) = false := decide_eq_false (by omega)
        have hT1 : lcmF P (c + 1) * 1 ≤ lcmF P (c + 1) * x.ro.length := Nat.mul_le_mul_left _ h12.1
        refine Rn.reg hc rfl ?_
        simp only [zAY,zAS,zAU,zAT,sp_n,Nat.reduceLT,ne_eq,Nat.reduceEqDiff,zNf,gd,zAX,rops,fx,ld,fad,lng,zBS,bin_mul,zAR,Nat.zero_add,zOi,zEl,tk22,zBG,un22,hn,s2,z2,hwm,hd2]
        (repeat (first | refine Rn.seq hc ?_ | refine Rn.skip hc ?_ | refine Rn.block hc ?_ | refine Rn.inBlock hc ?_ | refine Rn.scope hc ?_ | refine Rn.inScope hc ?_))
        refine Rn.zAM hc rfl ?_
        simp only [zAY,zAU,sp_n,Nat.reduceLT,Value.bool.injEq,zEl,hn]
        (repeat (first | refine Rn.seq hc ?_ | refine Rn.skip hc ?_ | refine Rn.block hc ?_ | refine Rn.inBlock hc ?_ | refine Rn.scope hc ?_ | refine Rn.inScope hc ?_))
        refine Rn.reg hc rfl ?_
        simp only [zAY,zAS,zAU,zAT,sp_n,Nat.reduceLT,ne_eq,Nat.reduceEqDiff,zNf,gd,zAX,rops,fx,zAH,zOi,zEl,hn,s8,zBZ (show c < 9223372036854775807 by omega)]
        (repeat (first | refine Rn.seq hc ?_ | refine Rn.skip hc ?_ | refine Rn.block hc ?_ | refine Rn.inBlock hc ?_ | refine Rn.scope hc ?_ | refine Rn.inScope hc ?_))
        exact ih _ _ _ (by omega) ⟨c + 1,by omega,rfl,hCM,by omega,.inr (by omega),by simp only [sp_n,hn],by simp only [zAT,ne_eq,Nat.reduceEqDiff,zNf,s1],by simp only [zAT,ne_eq,Nat.reduceEqDiff,zNf,s2],by simp only [zAT,ne_eq,Nat.reduceEqDiff,zNf,s4],by simp only [zAT,ne_eq,Nat.reduceEqDiff,zNf,s6],by simp only [zAU,zAT,sp_n,Nat.reduceLT,ne_eq,Nat.reduceEqDiff,zNf,hn],by simp only [zAU,sp_n,Nat.reduceLT,hn]⟩
  · have hd : decide ((c : Int) < (step : Int)) = false := decide_eq_false (by omega)
    have hcl : c = step := by omega
    subst hcl
    clear ih
    refine Rn.reg hc rfl ?_
    simp only [zAY,zAU,zAT,sp_n,Nat.reduceLT,ne_eq,Nat.reduceEqDiff,zNf,gd,zAX,rops,fx,zAN,zOi,zEl,hn,s1,s8,hd]
    (repeat (first | refine Rn.seq hc ?_ | refine Rn.skip hc ?_ | refine Rn.block hc ?_ | refine Rn.inBlock hc ?_ | refine Rn.scope hc ?_ | refine Rn.inScope hc ?_))
    refine Rn.zAM hc rfl ?_
    simp only [zAY,zAU,sp_n,Nat.reduceLT,Value.bool.injEq,zEl,hn]
    (repeat (first | refine Rn.seq hc ?_ | refine Rn.skip hc ?_ | refine Rn.block hc ?_ | refine Rn.inBlock hc ?_ | refine Rn.scope hc ?_ | refine Rn.inScope hc ?_))
    refine Rn.exit hc rfl ?_
    (repeat (first | refine Rn.seq hc ?_ | refine Rn.skip hc ?_ | refine Rn.block hc ?_ | refine Rn.inBlock hc ?_ | refine Rn.scope hc ?_ | refine Rn.inScope hc ?_))
    have hT0 : 0 < lcmF P c := lcmF_pos hPp (Nat.le_refl _)
    have hTd : ∀ i',i' < c → ordN m (dC m x.s c B x.st.length i') ∣ lcmF P c := fun i' hi' => by
      obtain ⟨n,r1,r2,r3⟩ := cls_rep (M := x.st.length) hi'
      have h1 := lcmF_dvd (f := P) (i := c) (j := n - x.st.length) (by omega)
      rw [hPv,show x.st.length + (n - x.st.length) = n by omega,r3] at h1
      exact h1
    have hTR : lcmF P c * x.ro.length ≤ 120 := by omega
    have hR120 : x.ro.length ≤ 120 := by
      have : 1 * x.ro.length ≤ lcmF P c * x.ro.length := Nat.mul_le_mul_right _ hT0
      omega
    have hB144 := hB120 hR120
    generalize lcmF P c = T at hT0 hTd h120 s7 hTR
    have hPerY := scn_per (show 0 < m by omega) hs0 f1 hdvS hP' hT0 hTd
    have hTB : T * B ≤ 14400 := by
      have h1 : T * B ≤ T * (c * x.ro.length) := Nat.mul_le_mul_left _ hBs
      rw [Nat.mul_left_comm] at h1
      exact Nat.le_trans h1 (Nat.mul_le_mul hsp.2 hTR)
    have hTB0 : 0 < T * B := Nat.mul_pos hT0 f1
    have hwm : IntKind.i64.wrap ((B : Int) * (T : Int)) = ((T * B : Nat) : Int) := by rw [Int.mul_comm,← Int.natCast_mul,IntWalk.i64_in _ (by omega)]
    refine Rn.reg hc rfl ?_
    simp only [zAY,zAU,zAT,sp_n,Nat.reduceLT,ne_eq,Nat.reduceEqDiff,zNf,gd,zAX,rops,fx,bin_mul,zOi,zEl,hn,s6,s7,hwm]
    (repeat (first | refine Rn.seq hc ?_ | refine Rn.skip hc ?_ | refine Rn.block hc ?_ | refine Rn.inBlock hc ?_ | refine Rn.scope hc ?_ | refine Rn.inScope hc ?_))
    refine Rn.reg hc rfl ?_
    simp only [zAS,gd,zAX,rops,fx,zOi,zEl]
    (repeat (first | refine Rn.seq hc ?_ | refine Rn.skip hc ?_ | refine Rn.block hc ?_ | refine Rn.inBlock hc ?_ | refine Rn.scope hc ?_ | refine Rn.inScope hc ?_))
    refine Rn.reg hc rfl ?_
    simp only [zAS,gd,zAX,rops,fx,zOi,zEl]
    (repeat (first | refine Rn.seq hc ?_ | refine Rn.skip hc ?_ | refine Rn.block hc ?_ | refine Rn.inBlock hc ?_ | refine Rn.scope hc ?_ | refine Rn.inScope hc ?_))
    generalize T * B = L at hPerY hTB hTB0 ⊢
    clear hwm hTR hTd hPv hPp hcR h120 s7 hd
    refine Rn.zDY hc (I := fun k s G => ∃ n wa,n ≤ x.st.length + L ∧ k = x.st.length + L - n ∧ Nx H.next H G ∧ Gr G wa H.next (redS (scn (m : Int) x.s c) n) ∧ s.n = 106 ∧ sget s 1 = .int .i64 (c : Int) ∧ sget s 2 = .pointer (some ⟨A.next,0,none⟩) ∧ sget s 4 = .pointer (some ⟨pR,0,none⟩) ∧ sget s 6 = .int .i64 (L : Int) ∧ sget s 11 = .slice wa n n ∧ sget s 12 = .int .i64 (n : Int))
      (n := x.st.length + L) ⟨0,none,by omega,rfl,Nx.refl hH.wf _,Gr.nil _ _,by simp only [sp_n,hn],by simp only [zAT,ne_eq,Nat.reduceEqDiff,zNf,s1],by simp only [zAT,ne_eq,Nat.reduceEqDiff,zNf,s2],by simp only [zAT,ne_eq,Nat.reduceEqDiff,zNf,s4],by simp only [zAU,zAT,sp_n,Nat.reduceLT,ne_eq,Nat.reduceEqDiff,zNf,hn],by simp only [zAU,zAT,sp_n,Nat.reduceLT,ne_eq,Nat.reduceEqDiff,zNf,hn],by simp only [zAU,sp_n,Nat.reduceLT,hn]; rfl⟩ ?_
    clear hn s1 s2 s4 s6 s8 s
    rintro k s G ⟨n,wa,hnL,rfl,hG,gG,hn,s1,s2,s4,s6,s11,s12⟩ ih
    have hCG : Nx C.next C G := hH.trans (hG.le nH)
    have nG := hG.next
    have hAG : Nx A.next A G := hAC.trans (hCG.le hAC.next)
    have c0 := (hCG.cl nAC 0).trans b0
    have c1 := (hCG.cl nAC 1).trans b1
    have c2 := (hCG.cl nAC 2).trans b2
    have hw0 : IntKind.i64.wrap ((x.st.length : Int) + (L : Int)) = ((x.st.length + L : Nat) : Int) := by rw [IntWalk.i64_in _ (by omega)]; omega
    (repeat (first | refine Rn.seq hc ?_ | refine Rn.skip hc ?_ | refine Rn.block hc ?_ | refine Rn.inBlock hc ?_ | refine Rn.scope hc ?_ | refine Rn.inScope hc ?_))
    by_cases hlt : n < x.st.length + L
    · have hd : decide ((n : Int) < ((x.st.length + L : Nat) : Int)) = true := decide_eq_true (by omega)
      refine Rn.reg hc rfl ?_
      simp only [zAY,zAU,zAT,sp_n,Nat.reduceLT,ne_eq,Nat.reduceEqDiff,zNf,gd,zAX,rops,fx,ld,fad,lng,zAN,zAH,zAR,Nat.zero_add,zOi,zEl,tk22,zBO,un22,hn,s2,s6,s12,c1,hw0,hd]
      (repeat (first | refine Rn.seq hc ?_ | refine Rn.skip hc ?_ | refine Rn.block hc ?_ | refine Rn.inBlock hc ?_ | refine Rn.scope hc ?_ | refine Rn.inScope hc ?_))
      refine Rn.zAM hc rfl ?_
      simp only [zAY,zAU,sp_n,Nat.reduceLT,Value.bool.injEq,zEl,hn]
      (repeat (first | refine Rn.seq hc ?_ | refine Rn.skip hc ?_ | refine Rn.block hc ?_ | refine Rn.inBlock hc ?_ | refine Rn.scope hc ?_ | refine Rn.inScope hc ?_))
      refine Rn.region hc fun K hK => ?_
      refine Wo.run hc 2 rfl rfl rfl ?_
      simp (maxSteps := 2000000) only [List.drop_zero,List.take_succ_cons,List.take_zero,zAY,zAT,ne_eq,Nat.reduceEqDiff,not_false_eq_true,gd,zAX,rops,fx,ld,zAR,cls,Nat.zero_add,Option.some.injEq,exists_eq_left',Nat.reduceAdd,tk24,s2,s12,c0,c1,c2]
      refine Wo.call hc (by rfl) (by rfl) ⟨by rfl,by rfl⟩ (xs := [.agg #[.int .i64 x.m,.slice x.sa x.st.length x.sc,.slice x.ra x.ro.length x.rc],.int .i64 (n : Int)]) (by rfl) (by rfl) (by simp only [zAY,zAU,zAT,sp_n,Nat.reduceLT,ne_eq,Nat.reduceEqDiff,zNf,List.map_cons,List.map_nil,List.nil_append,List.append_nil,hn]) (Con.mono (at_ref hAG.wf (hox.nx hAG).1 (hox.nx hAG).2.1 n hox.2.2.1 (by omega) hox.2.2.2 (by omega)) ?_)
      rintro w G1 ⟨rfl,hx1⟩
      rw [show atL x.st x.ro n = x.s n from rfl]
      refine Wo.run hc 1 rfl rfl rfl ?_
      simp (maxSteps := 2000000) only [List.drop_zero,List.drop_succ_cons,List.take_succ_cons,List.take_zero,zAY,zAU,sp_n,Nat.reduceLT,gd,zAX,rops,fx,Option.some.injEq,exists_eq_left',Nat.reduceAdd,hn]
      refine Wo.done hc rfl (hK _ _ ?_)
      clear hK
      have hlv := hlim n
      have hyl := scY_lim (a := x.s) (step := c) (show (0 : Int) < (m : Int) by omega) n
      have g1 := gG.nx (n := 0) hG.wf hx1
      refine Rn.seq hc ?_
      refine Rn.cut2 hc (Q1 := fun s ds D => ds = [] ∧ D = G1 ∧ s.n = 106 ∧ sget s 1 = .int .i64 (c : Int) ∧ sget s 2 = .pointer (some ⟨A.next,0,none⟩) ∧ sget s 4 = .pointer (some ⟨pR,0,none⟩) ∧ sget s 6 = .int .i64 (L : Int) ∧ sget s 11 = .slice wa n n ∧ sget s 12 = .int .i64 (n : Int) ∧ sget s 13 = .int .i64 (scY (m : Int) x.s c n + x.s n))
        (Q2 := fun _ _ _ => False) ?_ ?_ ?_
      · by_cases hns : n < c
        · have hd2 : decide ((c : Int) ≤ (n : Int)) = false := decide_eq_false (by omega)
          (repeat (first | refine Rn.seq hc ?_ | refine Rn.skip hc ?_ | refine Rn.block hc ?_ | refine Rn.inBlock hc ?_ | refine Rn.scope hc ?_ | refine Rn.inScope hc ?_))
          refine Rn.reg hc rfl ?_
          simp only [zAY,zAU,zAT,sp_n,Nat.reduceLT,ne_eq,Nat.reduceEqDiff,zNf,gd,zAX,rops,fx,bin_geq,zOi,zEl,hn,s1,s12,hd2]
          (repeat (first | refine Rn.seq hc ?_ | refine Rn.skip hc ?_ | refine Rn.block hc ?_ | refine Rn.inBlock hc ?_ | refine Rn.scope hc ?_ | refine Rn.inScope hc ?_))
          refine Rn.zAM hc rfl ?_
          simp only [zAY,zAU,sp_n,Nat.reduceLT,Value.bool.injEq,zEl,hn]
          (repeat (first | refine Rn.seq hc ?_ | refine Rn.skip hc ?_ | refine Rn.block hc ?_ | refine Rn.inBlock hc ?_ | refine Rn.scope hc ?_ | refine Rn.inScope hc ?_))
          refine Rn.fall ⟨rfl,rfl,by simp only [sp_n,hn],by simp only [zAT,ne_eq,Nat.reduceEqDiff,zNf,s1],by simp only [zAT,ne_eq,Nat.reduceEqDiff,zNf,s2],by simp only [zAT,ne_eq,Nat.reduceEqDiff,zNf,s4],by simp only [zAT,ne_eq,Nat.reduceEqDiff,zNf,s6],by simp only [zAT,ne_eq,Nat.reduceEqDiff,zNf,s11],by simp only [zAT,ne_eq,Nat.reduceEqDiff,zNf,s12],?_⟩
          rw [scY_zero hns,Int.zero_add]
          simp only [zAU,zAT,sp_n,Nat.reduceLT,ne_eq,Nat.reduceEqDiff,zNf,hn]
        · have hd2 : decide ((c : Int) ≤ (n : Int)) = true := decide_eq_true (by omega)
          have hws : IntKind.i64.wrap ((n : Int) - (c : Int)) = ((n - c : Nat) : Int) := by rw [IntWalk.i64_in _ (by omega)]; omega
          have hnl : n - c < n := by omega
          have hys : scn (m : Int) x.s c (n - c) = scY (m : Int) x.s c n := by
            unfold scn
            rw [Nat.sub_add_cancel (by omega)]
          obtain ⟨bw,ow,rfl,-,-,hcw⟩ := g1.ints (n - c) (by rw [zAL]; exact hnl)
          rw [zCD hnl,hys] at hcw
          have hwa : IntKind.i64.wrap (x.s n + scY (m : Int) x.s c n) = scY (m : Int) x.s c n + x.s n := by rw [IntWalk.i64_in _ ⟨by omega,by omega⟩]; omega
          (repeat (first | refine Rn.seq hc ?_ | refine Rn.skip hc ?_ | refine Rn.block hc ?_ | refine Rn.inBlock hc ?_ | refine Rn.scope hc ?_ | refine Rn.inScope hc ?_))
          refine Rn.reg hc rfl ?_
          simp only [zAY,zAU,zAT,sp_n,Nat.reduceLT,ne_eq,Nat.reduceEqDiff,zNf,gd,zAX,rops,fx,bin_geq,zOi,zEl,hn,s1,s12,hd2]
          (repeat (first | refine Rn.seq hc ?_ | refine Rn.skip hc ?_ | refine Rn.block hc ?_ | refine Rn.inBlock hc ?_ | refine Rn.scope hc ?_ | refine Rn.inScope hc ?_))
          refine Rn.zAM hc rfl ?_
          simp only [zAY,zAU,sp_n,Nat.reduceLT,Value.bool.injEq,zEl,hn]
          (repeat (first | refine Rn.seq hc ?_ | refine Rn.skip hc ?_ | refine Rn.block hc ?_ | refine Rn.inBlock hc ?_ | refine Rn.scope hc ?_ | refine Rn.inScope hc ?_))
          refine Rn.reg hc rfl ?_
          simp only [zAY,zAU,zAT,sp_n,Nat.reduceLT,ne_eq,Nat.reduceEqDiff,zNf,gd,zAX,rops,fx,ld,idx,zAH,zBR,zAR,zOi,zEl,Nat.mul_one,tk3,eo22,hn,s1,s11,s12,hws,zAQ hnl,hcw,hwa]
          (repeat (first | refine Rn.seq hc ?_ | refine Rn.skip hc ?_ | refine Rn.block hc ?_ | refine Rn.inBlock hc ?_ | refine Rn.scope hc ?_ | refine Rn.inScope hc ?_))
          exact Rn.fall ⟨rfl,rfl,by simp only [sp_n,hn],by simp only [zAT,ne_eq,Nat.reduceEqDiff,zNf,s1],by simp only [zAT,ne_eq,Nat.reduceEqDiff,zNf,s2],by simp only [zAT,ne_eq,Nat.reduceEqDiff,zNf,s4],by simp only [zAT,ne_eq,Nat.reduceEqDiff,zNf,s6],by simp only [zAT,ne_eq,Nat.reduceEqDiff,zNf,s11],by simp only [zAT,ne_eq,Nat.reduceEqDiff,zNf,s12],by simp only [zAU,sp_n,Nat.reduceLT,hn]⟩
      · clear hn s1 s2 s4 s6 s11 s12 s
        rintro s ds D ⟨rfl,rfl,hn,s1,s2,s4,s6,s11,s12,s13⟩
        have hr : ∀ M,bin Try.prog .rem 3 (.int .i64 (scY (m : Int) x.s c n + x.s n)) (.int .i64 x.m) M = some (.int .i64 (scn (m : Int) x.s c n),M) := fun M => by
          rw [zCS _ _ _ _ (by omega),Int.tmod_eq_emod_of_nonneg (by omega),scn_eq hs0,hxm]
        have hGD : Nx H.next H D := hG.trans (hx1.le nG)
        have z0 : cl D A.next 0 = _ := (hx1.cl (by omega) 0).trans c0
        obtain ⟨G2,e2,hz2,hn2,y2,-⟩ := box1 hGD.wf (.int .i64 (scn (m : Int) x.s c n)) 3
        have g2 := g1.nx (n := 0) hGD.wf hz2
        obtain ⟨G3,q3,n3,w3,g3,-,k3⟩ := gr_push hz2.wf g2 (a2 := some ⟨D.next,0,none⟩) (c2 := 1) (b2 := D.next) (x := scn (m : Int) x.s c n) rfl y2 (by rw [zAL]; omega)
        rw [zAL] at q3
        rw [redS_snoc] at g3
        have nD := hGD.next
        (repeat (first | refine Rn.seq hc ?_ | refine Rn.skip hc ?_ | refine Rn.block hc ?_ | refine Rn.inBlock hc ?_ | refine Rn.scope hc ?_ | refine Rn.inScope hc ?_))
        refine Rn.reg hc rfl ?_
        simp only [zAY,zAU,zAT,sp_n,Nat.reduceLT,ne_eq,Nat.reduceEqDiff,zNf,gd,zAX,rops,fx,ld,fad,zAR,Nat.add_zero,zOi,zEl,tk3,zBJ,hn,s2,s11,s13,z0,hr,bs22_1,zBY,e2,ae_apd,zCQ,q3]
        (repeat (first | refine Rn.seq hc ?_ | refine Rn.skip hc ?_ | refine Rn.block hc ?_ | refine Rn.inBlock hc ?_ | refine Rn.scope hc ?_ | refine Rn.inScope hc ?_))
        refine Rn.reg hc rfl ?_
        simp only [zAY,zAS,zAU,zAT,sp_n,Nat.reduceLT,ne_eq,Nat.reduceEqDiff,zNf,gd,zAX,rops,fx,zAH,zOi,zEl,hn,s12,zBZ (show n < 9223372036854775807 by omega)]
        (repeat (first | refine Rn.seq hc ?_ | refine Rn.skip hc ?_ | refine Rn.block hc ?_ | refine Rn.inBlock hc ?_ | refine Rn.scope hc ?_ | refine Rn.inScope hc ?_))
        exact ih _ _ _ (by omega) ⟨n + 1,_,by omega,rfl,hGD.trans ((hz2.le nD).trans (k3.le (by omega))),g3.mono (by omega),by simp only [sp_n,hn],by simp only [zAT,ne_eq,Nat.reduceEqDiff,zNf,s1],by simp only [zAT,ne_eq,Nat.reduceEqDiff,zNf,s2],by simp only [zAT,ne_eq,Nat.reduceEqDiff,zNf,s4],by simp only [zAT,ne_eq,Nat.reduceEqDiff,zNf,s6],by simp only [zAU,zAT,sp_n,Nat.reduceLT,ne_eq,Nat.reduceEqDiff,zNf,hn],by simp only [zAU,sp_n,Nat.reduceLT,hn]⟩
      · intro _ _ _ h
        exact h.elim
    · have hd : decide ((n : Int) < ((x.st.length + L : Nat) : Int)) = false := decide_eq_false (by omega)
      have hnn : n = x.st.length + L := by omega
      subst hnn
      clear ih
      refine Rn.reg hc rfl ?_
      simp only [zAY,zAU,zAT,sp_n,Nat.reduceLT,ne_eq,Nat.reduceEqDiff,zNf,gd,zAX,rops,fx,ld,fad,lng,zAN,zAH,zAR,Nat.zero_add,zOi,zEl,tk22,zBO,un22,hn,s2,s6,s12,c1,hw0,hd]
      (repeat (first | refine Rn.seq hc ?_ | refine Rn.skip hc ?_ | refine Rn.block hc ?_ | refine Rn.inBlock hc ?_ | refine Rn.scope hc ?_ | refine Rn.inScope hc ?_))
      refine Rn.zAM hc rfl ?_
      simp only [zAY,zAU,sp_n,Nat.reduceLT,Value.bool.injEq,zEl,hn]
      (repeat (first | refine Rn.seq hc ?_ | refine Rn.skip hc ?_ | refine Rn.block hc ?_ | refine Rn.inBlock hc ?_ | refine Rn.scope hc ?_ | refine Rn.inScope hc ?_))
      refine Rn.exit hc rfl ?_
      (repeat (first | refine Rn.seq hc ?_ | refine Rn.skip hc ?_ | refine Rn.block hc ?_ | refine Rn.inBlock hc ?_ | refine Rn.scope hc ?_ | refine Rn.inScope hc ?_))
      rw [show ScnQ x c A = fun v A1 => ScnQ x c A v A1 from rfl]
      unfold ScnQ
      rw [hxm]
      rw [hxm] at c0
      obtain ⟨Y,hY⟩ : ∃ Y,Y = scn (m : Int) x.s c := ⟨_,rfl⟩
      rw [← hY] at hPerY gG ⊢
      obtain ⟨bw,ow,rfl,hw1,hw2,-⟩ := gG.ints 0 (by rw [zAL]; omega)
      have hcell : ∀ q,q < x.st.length + L → cl G bw (ow + q) = some (.int .i64 (Y q)) := fun q hq => by
        obtain ⟨bb,oo,ee,-,-,h6⟩ := gG.ints q (by rw [zAL]; exact hq)
        cases ee
        rw [h6,zCD hq]
      obtain ⟨F,hF0,hF1,hF3,hF4,hF⟩ : ∃ F : AHeap → Prop,(∀ M,F M → cl M A.next 0 = some (.int .i64 (m : Int))) ∧ (∀ M,F M → cl M A.next 1 = some (.slice x.sa x.st.length x.sc)) ∧ (∀ M,F M → asl Try.prog 22 (.slice (some ⟨bw,ow,none⟩) (x.st.length + L) (x.st.length + L)) none (some (.int .i64 (x.st.length : Int))) none M = some (.slice (some ⟨bw,ow,none⟩) x.st.length (x.st.length + L),M)) ∧ (∀ M,F M → asl Try.prog 22 (.slice (some ⟨bw,ow,none⟩) (x.st.length + L) (x.st.length + L)) (some (.int .i64 (x.st.length : Int))) none none M = some (.slice (some ⟨bw,ow + x.st.length,none⟩) L L,M)) ∧ (∀ M,Canon.look M.objs A.next = Canon.look G.objs A.next → (∀ b,H.next ≤ b → b < G.next → Canon.look M.objs b = Canon.look G.objs b) → F M) := by
        refine ⟨fun M => Canon.look M.objs A.next = Canon.look G.objs A.next ∧ ∀ b,H.next ≤ b → b < G.next → Canon.look M.objs b = Canon.look G.objs b,fun M h => (zBW h.1).trans c0,fun M h => (zBW h.1).trans c1,fun M h => ?_,fun M h => ?_,fun M h1 h2 => ⟨h1,h2⟩⟩
        · have he : ∀ b,H.next ≤ b → Canon.look G.objs b = none ∨ Canon.look M.objs b = Canon.look G.objs b := fun b hb => by
            by_cases hlt : b < G.next
            · exact .inr (h.2 b hb hlt)
            · exact .inl (hG.wf.none (by omega))
          have := asl_pos (c := x.st.length + L) (n := x.st.length) (gG.ints.ext he (Nat.le_refl _)) (gG.sl.ext he) (by rw [zAL]; exact Nat.le_refl _) (by rw [zAL]; omega) (by rw [zAL]; omega)
          rw [zAL] at this
          exact this
        · have he : ∀ b,H.next ≤ b → Canon.look G.objs b = none ∨ Canon.look M.objs b = Canon.look G.objs b := fun b hb => by
            by_cases hlt : b < G.next
            · exact .inr (h.2 b hb hlt)
            · exact .inl (hG.wf.none (by omega))
          rw [asl_lo1 (gG.sl.ext he) (show x.st.length < x.st.length + L by omega),Nat.add_sub_cancel_left]
      have hbk : Nx G.next G (bump G 16) := Nx.bump (Nx.refl hG.wf _) 16
      have FB := hF (bump G 16) rfl fun _ _ _ => rfl
      have hAk : Nx A.next A (bump G 16) := hAG.trans (hbk.le hAG.next)
      have gk := gG.nx (n := 0) hG.wf hbk
      have hlr := small_ref hbk.wf (m := (m : Int)) (sa := some ⟨bw,ow,none⟩) (ra := some ⟨bw,ow + x.st.length,none⟩) (sc := x.st.length + L) (rc := L) (st := redS Y x.st.length) (ro := redR Y x.st.length L)
        (fun q hq => ⟨bw,ow,rfl,Nat.zero_le _,by rw [zAD]; omega,by rw [zAL] at hq; rw [zBT,hcell q (by omega),zCD hq]⟩)
        (fun q hq => ⟨bw,ow + x.st.length,rfl,Nat.zero_le _,by rw [zAD]; omega,by rw [zAG] at hq; rw [zBT,Nat.add_assoc,hcell _ (by omega),redR_get hq]⟩)
        (by rw [zAL]; omega) (by rw [zAG]; omega) (by rw [zAG]; exact hTB0) (fun y hy => by
          cases hy
          obtain ⟨-,p2,z,p3,p4⟩ := gk.sl _ rfl
          exact ⟨rfl,Nat.zero_le _,z,p3,p4⟩) (by rw [zAG]; exact Nat.le_refl _)
      rw [zCC hPerY] at hlr
      simp only [zAL,zAG] at hlr
      refine Rn.drawnF hc hx (smlS (m : Int) Y) F (n := 2) (k := 16) (by kernel_rfl) (by kernel_rfl) (by rfl) ?_
      refine Dr.read (by first | rfl | kernel_rfl) (by rfl) (by assumption) (fun M hM => by simp only [zAY,zAT,ne_eq,Nat.reduceEqDiff,zNf,fx,fad,zAR,Nat.add_zero,zBJ,s2] <;> rfl) (by rfl) (by first | exact VQ.int _ _ | exact VQ.bool _ | exact VQ.ptr _ _ | exact VQ.slice _ _ _ | exact VQ.func (by simp [zAW,zAV,zAZ]) (by simp [zAW,zAV,zAZ]) | exact VQ.agg (by simp [zAW,zAV,zAZ]) | exact VQ.tuple (by simp [zAW,zAV,zAZ])) ?_
      refine Dr.read (by first | rfl | kernel_rfl) (by rfl) (by assumption) (fun M hM => by simp only [zAY,zAU,sp_n,Nat.reduceLT,fx,ld,zAR,tk3,hn,hF0 M hM] <;> rfl) (by rfl) (by first | exact VQ.int _ _ | exact VQ.bool _ | exact VQ.ptr _ _ | exact VQ.slice _ _ _ | exact VQ.func (by simp [zAW,zAV,zAZ]) (by simp [zAW,zAV,zAZ]) | exact VQ.agg (by simp [zAW,zAV,zAZ]) | exact VQ.tuple (by simp [zAW,zAV,zAZ])) ?_
      refine Dr.read (by first | rfl | kernel_rfl) (by rfl) (by assumption) (fun M hM => by simp only [zAY,zAT,ne_eq,Nat.reduceEqDiff,zNf,fx,s11] <;> rfl) (by rfl) (by first | exact VQ.int _ _ | exact VQ.bool _ | exact VQ.ptr _ _ | exact VQ.slice _ _ _ | exact VQ.func (by simp [zAW,zAV,zAZ]) (by simp [zAW,zAV,zAZ]) | exact VQ.agg (by simp [zAW,zAV,zAZ]) | exact VQ.tuple (by simp [zAW,zAV,zAZ])) ?_
      refine Dr.read (by first | rfl | kernel_rfl) (by rfl) (by assumption) (fun M hM => by simp only [zAY,zAT,ne_eq,Nat.reduceEqDiff,zNf,fx,fad,zAR,Nat.zero_add,zBO,s2] <;> rfl) (by rfl) (by first | exact VQ.int _ _ | exact VQ.bool _ | exact VQ.ptr _ _ | exact VQ.slice _ _ _ | exact VQ.func (by simp [zAW,zAV,zAZ]) (by simp [zAW,zAV,zAZ]) | exact VQ.agg (by simp [zAW,zAV,zAZ]) | exact VQ.tuple (by simp [zAW,zAV,zAZ])) ?_
      refine Dr.read (by first | rfl | kernel_rfl) (by rfl) (by assumption) (fun M hM => by simp only [zAY,zAU,sp_n,Nat.reduceLT,fx,ld,zAR,tk22,hn,hF1 M hM] <;> rfl) (by rfl) (by first | exact VQ.int _ _ | exact VQ.bool _ | exact VQ.ptr _ _ | exact VQ.slice _ _ _ | exact VQ.func (by simp [zAW,zAV,zAZ]) (by simp [zAW,zAV,zAZ]) | exact VQ.agg (by simp [zAW,zAV,zAZ]) | exact VQ.tuple (by simp [zAW,zAV,zAZ])) ?_
      refine Dr.read (by first | rfl | kernel_rfl) (by rfl) (by assumption) (fun M hM => by simp only [zAY,zAU,sp_n,Nat.reduceLT,fx,lng,un22,hn] <;> rfl) (by rfl) (by first | exact VQ.int _ _ | exact VQ.bool _ | exact VQ.ptr _ _ | exact VQ.slice _ _ _ | exact VQ.func (by simp [zAW,zAV,zAZ]) (by simp [zAW,zAV,zAZ]) | exact VQ.agg (by simp [zAW,zAV,zAZ]) | exact VQ.tuple (by simp [zAW,zAV,zAZ])) ?_
      refine Dr.read (by first | rfl | kernel_rfl) (by rfl) (by assumption) (fun M hM => by simp only [zAY,zAU,zAT,sp_n,Nat.reduceLT,ne_eq,Nat.reduceEqDiff,zNf,fx,hn,ae_asl_hi,hF3 M hM] <;> rfl) (by rfl) (by first | exact VQ.int _ _ | exact VQ.bool _ | exact VQ.ptr _ _ | exact VQ.slice _ _ _ | exact VQ.func (by simp [zAW,zAV,zAZ]) (by simp [zAW,zAV,zAZ]) | exact VQ.agg (by simp [zAW,zAV,zAZ]) | exact VQ.tuple (by simp [zAW,zAV,zAZ])) ?_
      refine Dr.read (by first | rfl | kernel_rfl) (by rfl) (by assumption) (fun M hM => by simp only [zAY,zAT,ne_eq,Nat.reduceEqDiff,zNf,fx,s11] <;> rfl) (by rfl) (by first | exact VQ.int _ _ | exact VQ.bool _ | exact VQ.ptr _ _ | exact VQ.slice _ _ _ | exact VQ.func (by simp [zAW,zAV,zAZ]) (by simp [zAW,zAV,zAZ]) | exact VQ.agg (by simp [zAW,zAV,zAZ]) | exact VQ.tuple (by simp [zAW,zAV,zAZ])) ?_
      refine Dr.read (by first | rfl | kernel_rfl) (by rfl) (by assumption) (fun M hM => by simp only [zAY,zAT,ne_eq,Nat.reduceEqDiff,zNf,fx,fad,zAR,Nat.zero_add,zBO,s2] <;> rfl) (by rfl) (by first | exact VQ.int _ _ | exact VQ.bool _ | exact VQ.ptr _ _ | exact VQ.slice _ _ _ | exact VQ.func (by simp [zAW,zAV,zAZ]) (by simp [zAW,zAV,zAZ]) | exact VQ.agg (by simp [zAW,zAV,zAZ]) | exact VQ.tuple (by simp [zAW,zAV,zAZ])) ?_
      refine Dr.read (by first | rfl | kernel_rfl) (by rfl) (by assumption) (fun M hM => by simp only [zAY,zAU,sp_n,Nat.reduceLT,fx,ld,zAR,tk22,hn,hF1 M hM] <;> rfl) (by rfl) (by first | exact VQ.int _ _ | exact VQ.bool _ | exact VQ.ptr _ _ | exact VQ.slice _ _ _ | exact VQ.func (by simp [zAW,zAV,zAZ]) (by simp [zAW,zAV,zAZ]) | exact VQ.agg (by simp [zAW,zAV,zAZ]) | exact VQ.tuple (by simp [zAW,zAV,zAZ])) ?_
      refine Dr.read (by first | rfl | kernel_rfl) (by rfl) (by assumption) (fun M hM => by simp only [zAY,zAU,sp_n,Nat.reduceLT,fx,lng,un22,hn] <;> rfl) (by rfl) (by first | exact VQ.int _ _ | exact VQ.bool _ | exact VQ.ptr _ _ | exact VQ.slice _ _ _ | exact VQ.func (by simp [zAW,zAV,zAZ]) (by simp [zAW,zAV,zAZ]) | exact VQ.agg (by simp [zAW,zAV,zAZ]) | exact VQ.tuple (by simp [zAW,zAV,zAZ])) ?_
      refine Dr.read (by first | rfl | kernel_rfl) (by rfl) (by assumption) (fun M hM => by simp only [zAY,zAU,zAT,sp_n,Nat.reduceLT,ne_eq,Nat.reduceEqDiff,zNf,fx,hn,ae_asl_lo,hF4 M hM] <;> rfl) (by rfl) (by first | exact VQ.int _ _ | exact VQ.bool _ | exact VQ.ptr _ _ | exact VQ.slice _ _ _ | exact VQ.func (by simp [zAW,zAV,zAZ]) (by simp [zAW,zAV,zAZ]) | exact VQ.agg (by simp [zAW,zAV,zAZ]) | exact VQ.tuple (by simp [zAW,zAV,zAZ])) ?_
      refine Dr.read (by first | rfl | kernel_rfl) (by rfl) (by assumption) (fun M hM => by simp only [zAY,zAU,zAT,sp_n,Nat.reduceLT,ne_eq,Nat.reduceEqDiff,zNf,fx,hn,bd24,zBY] <;> rfl) (by rfl) (by first | exact VQ.int _ _ | exact VQ.bool _ | exact VQ.ptr _ _ | exact VQ.slice _ _ _ | exact VQ.func (by simp [zAW,zAV,zAZ]) (by simp [zAW,zAV,zAZ]) | exact VQ.agg (by simp [zAW,zAZ]) | exact VQ.tuple (by simp [zAW,zAV,zAZ])) ?_
      refine Dr.call (by kernel_rfl) (by rfl) (by assumption) (by rfl) (zAA (by rfl) ⟨by rfl,by rfl⟩ (by rfl) (xs := [.agg #[.int .i64 (m : Int),.slice (some ⟨bw,ow,none⟩) x.st.length (x.st.length + L),.slice (some ⟨bw,ow + x.st.length,none⟩) L L]]) (by simp only [zAY,zAU,sp_n,Nat.reduceLT,List.map_cons,List.map_nil,List.nil_append,List.append_nil,hn]) (Con.mono hlr fun v A1 h => (by obtain ⟨a',p',h1,_,_,h2⟩ := h; exact (⟨a',p',h1,h2⟩ : smlS (m : Int) Y 83 _ (bump G 16) v A1)))) ?_
      intro w C1 hT1
      obtain ⟨a',p',hred,hxc,xa,xc,xr,rfl,hac,i1,i2,y1,y2⟩ := (hT1 : SmlQ (m : Int) Y (bump G 16) w C1)
      have hC1 : Nx G.next G C1 := hbk.trans (hxc.le hbk.next)
      have F1 : F C1 := hF _ (hC1.keep _ (by omega)) fun b _ h => hC1.keep b h
      have nbk : (bump G 16).next = G.next + 16 := zAD _ _
      obtain ⟨D,q1,hDn,hDw,hoff,g0,g1,g2⟩ := res_put ((hCG.keep _ hpRC).trans lC) (show pR < G.next by have := hCG.next; omega) hC1 (v0 := .int .i64 (m : Int)) (v1 := .slice xa a' xc) (v2 := .slice xr p' p') rfl
      have FD : F D := hF D ((hoff _ (by omega)).trans (hC1.keep _ (by omega))) fun b hb h => (hoff _ (by have := hCG.next; omega)).trans (hC1.keep b h)
      refine Dr.eff (by rfl) (by rfl) (pd1 := []) (pd2 := []) (by kernel_rfl) (by kernel_rfl) (ms0 := []) (A0 := C1) rfl (fun _ h => by cases h) F1 (by rfl) (v := undef) (A1 := D) (zBQ rfl (fx_ok (by rfl) (by simp only [zAY,zAU,zAT,sp_n,Nat.reduceLT,ne_eq,Nat.reduceEqDiff,zNf,fx,str,zAR,Nat.zero_add,Nat.reduceAdd,tk24,hn,s4,q1,List.size_toArray,List.length_cons,List.length_nil,Nat.beq_refl]))) ?_
      refine Dr.read (by first | rfl | kernel_rfl) (by rfl) (by assumption) (fun M hM => by simp only [zAS,zAK,fx] <;> rfl) (by rfl) (by first | exact VQ.int _ _ | exact VQ.bool _ | exact VQ.ptr _ _ | exact VQ.slice _ _ _ | exact VQ.func (by simp [zAW,zAV,zAZ]) (by simp [zAW,zAV,zAZ]) | exact VQ.agg (by simp [zAW,zAV,zAZ]) | exact VQ.tuple (by simp [zAW,zAV,zAZ])) ?_
      refine Dr.nil (by rfl) (fun M hM => by cases hM) FD ⟨D,by rfl,?_⟩
      (repeat (first | refine Rn.seq hc ?_ | refine Rn.skip hc ?_ | refine Rn.block hc ?_ | refine Rn.inBlock hc ?_ | refine Rn.scope hc ?_ | refine Rn.inScope hc ?_))
      have hext : ∀ b,(bump G 16).next ≤ b → Canon.look C1.objs b = none ∨ Canon.look D.objs b = Canon.look C1.objs b := fun b hb => .inr (hoff b (by have := hCG.next; omega))
      have hle : A.next ≤ (bump G 16).next := hAk.next
      refine Rn.ret (zCT rfl (v := .agg #[.int .i64 (m : Int),.slice xa a' xc,.slice xr p' p']) ?_ ?_)
      · simp only [zAT,zAK,ne_eq,Nat.reduceEqDiff,zNf,ld,zAR,cls,Nat.zero_add,Nat.reduceAdd,tk24,s4,g0,g1,g2]
      · simp only [zAU,sp_n,zAK,Nat.reduceLT,hn]
        exact ⟨⟨by have := hAG.next; have := hC1.next; omega,hDw,fun b hb => (hoff b (by omega)).trans ((hC1.keep _ (by have := hAG.next; omega)).trans (hAG.keep b hb))⟩,.inr ⟨a',p',xa,xc,xr,hred,hred.low hPerY,Nat.le_trans (hred.minP _ _ hPerY) (by omega),rfl,hac,(i1.ext hext (Nat.le_of_eq hDn.symm)).mono hle (Nat.le_refl _),(i2.ext hext (Nat.le_of_eq hDn.symm)).mono hle (Nat.le_refl _),(y1.ext hext).mono hle,(y2.ext hext).mono hle⟩⟩
end Go.Proofs.Ytdaljohmfnfgiaa
namespace Go.Proofs.Ytdaljohmfnfgiaa
open Go Go.RowKit Go.Proofs.Ytdaljohmfnfgiaa.Canon
set_option maxRecDepth 20000
theorem tldR_tp {A D : AHeap} {m : Int} {s : Nat → Int} (h : TP 0 m s 0 [] [] 11) (hx : Nx A.next A D) : TldR A 0 m s (.tuple #[.agg #[.int .i64 0,.slice none 0 0,.slice none 0 0],.int .i64 11]) D :=
  ⟨hx,0,[],[],11,none,0,none,0,h,rfl,ints_nil' _ _ _ _,ints_nil' _ _ _ _⟩
end Go.Proofs.Ytdaljohmfnfgiaa
namespace Go.Proofs.Ytdaljohmfnfgiaa
open Go Go.RowKit Go.Proofs.Ytdaljohmfnfgiaa.Canon
set_option maxRecDepth 20000
structure Hs (B : AHeap) (b : Nat) (x : Las) : Prop where
  c0 : cl B b 0 = some (.int .i64 x.m)
  c1 : cl B b 1 = some (.slice x.sa x.st.length x.sc)
  c2 : cl B b 2 = some (.slice x.ra x.ro.length x.rc)
  ok : x.ok B
  lt : b < B.next
theorem Hs.nx {B C : AHeap} {b : Nat} {x : Las} (h : Hs B b x) (hx : Nx B.next B C) : Hs C b x :=
  { c0 := (hx.cl h.lt 0).trans h.c0,c1 := (hx.cl h.lt 1).trans h.c1,c2 := (hx.cl h.lt 2).trans h.c2,ok := h.ok.nx hx,lt := by have := hx.next; have := h.lt; omega }
def shf (s : Nat → Int) (j n : Nat) : Int := if n < j then 0 else s (n - j)
section
variable {m : Int} {a : Nat → Int} {step : Nat}
theorem scn_back (hs : 0 < step) (hl : ∀ n,0 ≤ a n ∧ a n < m) (n : Nat) : (scn m a step (n + step) - scn m a step n) % m = a (n + step) := by
  rw [scn_eq hs (n + step),show scY m a step (n + step) = scn m a step n from rfl,Int.sub_emod,Int.emod_emod,← Int.sub_emod,show scn m a step n + a (n + step) - scn m a step n = a (n + step) by omega,Int.emod_eq_of_lt (hl _).1 (hl _).2]
end
end Go.Proofs.Ytdaljohmfnfgiaa
namespace Go.Proofs.Ytdaljohmfnfgiaa
open Go Go.RowKit Go.Proofs.Ytdaljohmfnfgiaa.Canon
def cvA (a b : Nat → Int) (n : Nat) : Nat → Int
  | 0 => 0
  | k + 1 => cvA a b n k + a k * b (n - k)
def cvM (m : Int) (a b : Nat → Int) (n : Nat) : Nat → Int
  | 0 => 0
  | k + 1 => cvM m a b n k + (a k * b (n - k)) % m
def conv (m : Int) (a b : Nat → Int) (n : Nat) : Int := cvA a b n (n + 1) % m
def dfE (m : Int) (a : Nat → Int) (R n : Nat) : Int := if n < R then a n else (a n - a (n - R)) % m
def cvP (m : Int) (a b : Nat → Int) (R L n : Nat) : Int := cvM m (dfE m a R) b n (min (n + 1) L) % m
theorem emod_of_dvd {u v m : Int} (h : m ∣ u - v) : u % m = v % m := by
  obtain ⟨c,hc⟩ := h
  rw [show u = v + m * c by omega,Int.add_mul_emod_self_left]
theorem dvd_emod (x m : Int) : m ∣ x % m - x := ⟨-(x / m),by rw [Int.emod_def,Int.mul_neg]; omega⟩
theorem cvM_mod {m : Int} {a b : Nat → Int} {n : Nat} : ∀ k,m ∣ cvM m a b n k - cvA a b n k
  | 0 => ⟨0,by simp [cvM,cvA]⟩
  | k + 1 => by
    have h1 := Int.dvd_add (cvM_mod (m := m) (a := a) (b := b) (n := n) k) (dvd_emod (a k * b (n - k)) m)
    rwa [show cvM m a b n k - cvA a b n k + (a k * b (n - k) % m - a k * b (n - k)) = cvM m a b n (k + 1) - cvA a b n (k + 1) by
      show _ = cvM m a b n k + (a k * b (n - k)) % m - (cvA a b n k + a k * b (n - k))
      omega] at h1
theorem cvM_lim {m : Int} (hm : 0 < m) {a b : Nat → Int} {n : Nat} : ∀ k : Nat,0 ≤ cvM m a b n k ∧ cvM m a b n k ≤ (k : Int) * m
  | 0 => by simp [cvM]
  | k + 1 => by
    obtain ⟨h1,h2⟩ := cvM_lim hm (a := a) (b := b) (n := n) k
    have h3 := Int.emod_nonneg (a k * b (n - k)) (show m ≠ 0 by omega)
    have h4 := Int.emod_lt_of_pos (a k * b (n - k)) hm
    rw [Int.natCast_add,Int.add_mul,Int.natCast_one,Int.one_mul]
    show 0 ≤ cvM m a b n k + (a k * b (n - k)) % m ∧ cvM m a b n k + (a k * b (n - k)) % m ≤ _
    omega
theorem cvA_stop {a b : Nat → Int} {n L : Nat} (h : ∀ i,L ≤ i → a i = 0) : ∀ d,cvA a b n (L + d) = cvA a b n L
  | 0 => rfl
  | d + 1 => by
    show cvA a b n (L + d) + a (L + d) * b (n - (L + d)) = _
    rw [h _ (by omega),Int.zero_mul,Int.add_zero,cvA_stop h d]
theorem cvA_min {a b : Nat → Int} {n L : Nat} (h : ∀ i,L ≤ i → a i = 0) (k : Nat) : cvA a b n (min k L) = cvA a b n k := by
  by_cases hk : k ≤ L
  · rw [Nat.min_eq_left hk]
  · rw [Nat.min_eq_right (by omega),show k = L + (k - L) by omega,cvA_stop h]
theorem cvA_sub {m : Int} {e a c b : Nat → Int} {n : Nat} (h : ∀ i,m ∣ e i - (a i - c i)) : ∀ k,m ∣ cvA e b n k - (cvA a b n k - cvA c b n k)
  | 0 => ⟨0,by simp [cvA]⟩
  | k + 1 => by
    have h1 := Int.dvd_add (cvA_sub h (b := b) (n := n) k) (Int.dvd_trans (h k) (Int.dvd_mul_right _ (b (n - k))))
    rw [Int.sub_mul,Int.sub_mul] at h1
    rwa [show cvA e b n k - (cvA a b n k - cvA c b n k) + (e k * b (n - k) - (a k * b (n - k) - c k * b (n - k))) = cvA e b n (k + 1) - (cvA a b n (k + 1) - cvA c b n (k + 1)) by
      show _ = cvA e b n k + e k * b (n - k) - (cvA a b n k + a k * b (n - k) - (cvA c b n k + c k * b (n - k)))
      omega] at h1
theorem cvA_shf0 {a b : Nat → Int} {R n : Nat} : ∀ k,k ≤ R → cvA (shf a R) b n k = 0
  | 0,_ => rfl
  | k + 1,h => by
    show cvA (shf a R) b n k + shf a R k * b (n - k) = 0
    rw [cvA_shf0 k (by omega),show shf a R k = 0 from if_pos (by omega),Int.zero_mul]
    rfl
theorem cvA_shf {a b : Nat → Int} {R n : Nat} : ∀ k,cvA (shf a R) b (n + R) (k + R) = cvA a b n k
  | 0 => by rw [Nat.zero_add]; exact cvA_shf0 R (Nat.le_refl _)
  | k + 1 => by
    rw [show k + 1 + R = k + R + 1 by omega]
    show cvA (shf a R) b (n + R) (k + R) + shf a R (k + R) * b (n + R - (k + R)) = cvA a b n k + a k * b (n - k)
    have e1 : shf a R (k + R) = a k := by
      unfold shf
      rw [if_neg (by omega),Nat.add_sub_cancel]
    rw [cvA_shf k,e1,Nat.add_sub_add_right]
theorem dfE_lim {m : Int} (hm : 0 < m) {a : Nat → Int} (hl : ∀ n,0 ≤ a n ∧ a n < m) (R n : Nat) : 0 ≤ dfE m a R n ∧ dfE m a R n < m := by
  unfold dfE
  split
  · exact hl n
  · exact ⟨Int.emod_nonneg _ (by omega),Int.emod_lt_of_pos _ hm⟩
theorem dfE_stop {m : Int} {a : Nat → Int} {N R : Nat} (h : Per a N R) {i : Nat} (hi : N + R ≤ i) : dfE m a R i = 0 := by
  unfold dfE
  rw [if_neg (by omega)]
  have := h.per (i - R) (by omega)
  rw [show i - R + R = i by omega] at this
  rw [this,Int.sub_self,Int.zero_emod]
theorem dfE_dvd (m : Int) (a : Nat → Int) (R i : Nat) : m ∣ dfE m a R i - (a i - shf a R i) := by
  unfold dfE shf
  split
  · exact ⟨0,by omega⟩
  · exact dvd_emod _ _
theorem cvP_eq {m : Int} {a b : Nat → Int} {N R : Nat} (h : Per a N R) (n : Nat) : cvP m a b R (N + R) n = (cvA a b n (n + 1) - cvA (shf a R) b n (n + 1)) % m := by
  unfold cvP
  rw [emod_of_dvd (cvM_mod _),cvA_min (fun i hi => dfE_stop h hi)]
  exact emod_of_dvd (cvA_sub (dfE_dvd m a R) _)
theorem cvP_scn {m : Int} {a b : Nat → Int} {N R : Nat} (h : Per a N R) (n : Nat) : scn m (cvP m a b R (N + R)) R n = conv m a b n := by
  induction n using Nat.strongRecOn with
  | ind n ih =>
    have hR := h.pos
    rw [scn_eq hR,cvP_eq h]
    unfold conv
    by_cases hn : n < R
    · rw [scY_zero hn,cvA_shf0 _ (by omega),Int.sub_zero,Int.zero_add,Int.emod_emod]
    · obtain ⟨q,rfl⟩ : ∃ q,n = q + R := ⟨n - R,by omega⟩
      have h1 := ih q (by omega)
      unfold scn conv at h1
      rw [h1,show q + R + 1 = q + 1 + R by omega,cvA_shf,← Int.add_emod]
      congr 1
      omega
theorem cvM_same {m : Int} {a b : Nat → Int} {N' R' n : Nat} (h : Per b N' R') : ∀ k,k + N' ≤ n → cvM m a b (n + R') k = cvM m a b n k
  | 0,_ => rfl
  | k + 1,hk => by
    show cvM m a b (n + R') k + (a k * b (n + R' - k)) % m = cvM m a b n k + (a k * b (n - k)) % m
    rw [cvM_same h k (by omega),show n + R' - k = n - k + R' by omega,h.per _ (by omega)]
theorem cvP_per {m : Int} {a b : Nat → Int} {R L N' R' : Nat} (h : Per b N' R') : Per (cvP m a b R L) (L + N') R' := ⟨h.pos,fun n hn => by
  unfold cvP
  rw [Nat.min_eq_right (by omega),Nat.min_eq_right (by omega),cvM_same h _ (by omega)]⟩
theorem cvP_lim {m : Int} (hm : 0 < m) {a b : Nat → Int} (R L n : Nat) : 0 ≤ cvP m a b R L n ∧ cvP m a b R L n < m := ⟨Int.emod_nonneg _ (by omega),Int.emod_lt_of_pos _ hm⟩
end Go.Proofs.Ytdaljohmfnfgiaa

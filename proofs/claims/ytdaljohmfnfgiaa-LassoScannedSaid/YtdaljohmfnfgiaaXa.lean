/- LassoScannedSaid: what its proof is made of, part 1. No condition. -/
import Derived.Test.YtdaljohmfnfgiaaCanonFh
import Derived.Test.YtdaljohmfnfgiaaRows
import Derived.Test.YtdaljohmfnfgiaaCanonFj
import Derived.Test.YtdaljohmfnfgiaaCanonFk
import Derived.Test.YtdaljohmfnfgiaaCanonFl
import Derived.Test.YtdaljohmfnfgiaaCanonFo
import Derived.Test.YtdaljohmfnfgiaaCanonFp
import Derived.Test.YtdaljohmfnfgiaaCanonFm
import Derived.ProofKit
import Derived.Below
import Derived.ChangeSame
import Derived.Deep.SlicePairs
namespace Go.Proofs.Ytdaljohmfnfgiaa
open Go Go.RowKit Go.Proofs.Ytdaljohmfnfgiaa.Canon
noncomputable section
def nocount (P : Program) : Bool := P.funcs.toList.all fun fn => match fn.body with
  | some _ => !(fn.name == "runtime.NumGoroutine")
  | none => true
theorem nocount_ok : nocount Try.prog = true := by kernel_rfl
theorem hc : zAO Try.prog := by
  intro g fn hf hb
  have h := nocount_ok
  unfold nocount at h
  rw [List.all_eq_true] at h
  have := h fn (by simpa using Array.mem_of_getElem? hf)
  cases hbb : fn.body with
  | none => rw [hbb] at hb; cases hb
  | some c => rw [hbb] at this; simpa using this
theorem hx : Try.prog.follows .mixedOrders = true := by kernel_rfl
theorem tk3 : tk Try.prog 3 = .one := by kernel_rfl
theorem tk22 : tk Try.prog 22 = .one := by kernel_rfl
theorem tk24 : tk Try.prog 24 = .row 3 := by kernel_rfl
theorem tk86 : tk Try.prog 86 = .row 3 := by kernel_rfl
theorem tk88 : tk Try.prog 88 = .row 2 := by kernel_rfl
theorem fo24_0 : fof Try.prog 24 0 = some 0 := by kernel_rfl
theorem zCY : fof Try.prog 24 1 = some 1 := by kernel_rfl
theorem zDY : fof Try.prog 24 2 = some 2 := by kernel_rfl
theorem fo86_0 : fof Try.prog 86 0 = some 0 := by kernel_rfl
theorem un3 : Try.prog.underlying 3 = some (.int .i64) := by kernel_rfl
theorem un22 : Try.prog.underlying 22 = some (.slice 3) := by kernel_rfl
theorem un46 : Try.prog.underlying 46 = some (.slice 24) := by kernel_rfl
theorem eo22 : eof Try.prog 22 = some 1 := by kernel_rfl
theorem eo46 : eof Try.prog 46 = some 3 := by kernel_rfl
theorem el22 : elB Try.prog 22 = some (3,1,8) := by kernel_rfl
theorem ze24 : zCD Try.prog 24 = some (.agg #[.int .i64 0,.slice none 0 0,.slice none 0 0]) := by kernel_rfl
theorem ze3 : zCD Try.prog 3 = some (.int .i64 0) := by kernel_rfl
theorem bo24 : bof Try.prog 24 = .mk (nthR [(0,1),(1,1),(2,1)]) 3 [.int .i64 0,.slice none 0 0,.slice none 0 0] := by kernel_rfl
theorem so22_0 : sof Try.prog 22 0 = .mk (fun k => some (k * 1,1)) 0 [] := by kernel_rfl
theorem et22 : elemT Try.prog 22 = some 3 := by kernel_rfl
theorem zAB (A : AHeap) (k b o : Nat) : cl (bump A k) b o = cl A b o := rfl
theorem zAH (A : AHeap) (k : Nat) : (bump A k).next = A.next + k := rfl
theorem WF.bump {A : AHeap} (h : WF A) (k : Nat) : WF (bump A k) := fun b x hx => by
  rw [zAH]
  have := h b x hx
  omega
theorem Nx.bump {n : Nat} {A B : AHeap} (h : Nx n A B) (k : Nat) : Nx n A (bump B k) := ⟨by rw [zAH]; have := h.next; omega,WF.bump h.wf k,fun b hb => h.keep b hb⟩
theorem zAJ {f : Func} {t : Tmp} (hr : f.results = #[.tmp t]) {Q : Value → AHeap → Prop} {s : Slots} {A : AHeap} (h : Q (sget s t) A) : endQ Try.prog f Q .ret s [] A := by
  refine ⟨sget s t,A,?_,h⟩
  show VR.of (zCJ Try.prog f s A) = _
  unfold zCJ
  rw [hr]
  rfl
theorem endQ_two {f : Func} {t u : Tmp} (hr : f.results = #[.tmp t,.tmp u]) {Q : Value → AHeap → Prop} {s : Slots} {A : AHeap} (h : Q (.tuple #[sget s t,sget s u]) A) : endQ Try.prog f Q .ret s [] A := by
  refine ⟨.tuple #[sget s t,sget s u],A,?_,h⟩
  show VR.of (zCJ Try.prog f s A) = _
  have e : zCJ Try.prog f s A = some (.tuple #[sget s t,sget s u],A) := by
    rw [sresults_eq]
    have h1 := sget_getD s t
    have h2 := sget_getD s u
    simp only [Array.getD_eq_getD_getElem?] at h1 h2
    simp [results,hr,h1,h2]
  rw [e]
  rfl
end
end Go.Proofs.Ytdaljohmfnfgiaa
namespace Go.Proofs.Ytdaljohmfnfgiaa
open Go Go.RowKit Go.Proofs.Ytdaljohmfnfgiaa.Canon
set_option maxRecDepth 20000
def Ints (A : AHeap) (a : Option Addr) (lo hi : Nat) (l : List Int) : Prop := ∀ i,i < l.length → ∃ b o,a = some ⟨b,o,none⟩ ∧ lo ≤ b ∧ b < hi ∧ cl A b (o + i) = some (.int .i64 (l.getD i 0))
theorem Ints.nx {n : Nat} {A B : AHeap} (h : Nx n A B) {a : Option Addr} {lo hi : Nat} {l : List Int} (hc : Ints A a lo hi l) (hn : hi ≤ n) : Ints B a lo hi l := fun i hi => by
  obtain ⟨b,o,h1,h2,h3,h4⟩ := hc i hi
  exact ⟨b,o,h1,h2,h3,by rw [h.cl (by omega)]; exact h4⟩
theorem Ints.mono {A : AHeap} {a : Option Addr} {lo hi lo' hi' : Nat} {l : List Int} (hc : Ints A a lo hi l) (h1 : lo' ≤ lo) (h2 : hi ≤ hi') : Ints A a lo' hi' l := fun i hi => by
  obtain ⟨b,o,q1,q2,q3,q4⟩ := hc i hi
  exact ⟨b,o,q1,by omega,by omega,q4⟩
def atL (st ro : List Int) (n : Nat) : Int := if n < st.length then st.getD n 0 else ro.getD ((n - st.length) % ro.length) 0
theorem box3 {A : AHeap} (hw : WF A) (v0 v1 v2 : Value) (t : TypeId) : ∃ A1,A.push (.cells #[v0,v1,v2] t) = A1 ∧ Nx A.next A A1 ∧ A1.next = A.next + 1 ∧ cl A1 A.next 0 = some v0 ∧ cl A1 A.next 1 = some v1 ∧ cl A1 A.next 2 = some v2 :=
  ⟨_,rfl,(Nx.refl hw _).push (Nat.le_refl _) _,rfl,by rw [zBF]; rfl,by rw [zBF]; rfl,by rw [zBF]; rfl⟩
theorem at_ref {A : AHeap} (hw : WF A) {m : Int} {sa ra : Option Addr} {sc rc : Nat} {st ro : List Int} (hs : Ints A sa 0 A.next st) (hr : Ints A ra 0 A.next ro) (n : Nat) (hst : st.length < 4611686018427387904) (hro : 0 < ro.length) (hro2 : ro.length < 4611686018427387904) (hn : n < 9223372036854775808) :
    Con Try.prog 74 [.agg #[.int .i64 m,.slice sa st.length sc,.slice ra ro.length rc],.int .i64 (n : Int)] A (fun v A1 => v = .int .i64 (atL st ro n) ∧ Nx A.next A A1) := by
  refine zAM hc Try.func74 rfl (Nat.le_of_ble_eq_true rfl) ?_
  obtain ⟨A1,e1,hx1,hn1,b0,b1,b2⟩ := box3 hw (.int .i64 m) (.slice sa st.length sc) (.slice ra ro.length rc) 24
  rw [s_in2]
  (repeat (first | refine Rn.seq hc ?_ | refine Rn.skip hc ?_ | refine Rn.block hc ?_ | refine Rn.inBlock hc ?_ | refine Rn.scope hc ?_ | refine Rn.inScope hc ?_))
  refine Rn.reg hc rfl ?_
  simp only [zAY,zAS,zAU,zAT,Nat.reduceLT,ne_eq,Nat.reduceEqDiff,zNf,gd,zAX,rops,fx,zOi,zEl,Value.cells,show Try.f74.ntmps = 28 from rfl,e1]
  (repeat (first | refine Rn.seq hc ?_ | refine Rn.skip hc ?_ | refine Rn.block hc ?_ | refine Rn.inBlock hc ?_ | refine Rn.scope hc ?_ | refine Rn.inScope hc ?_))
  by_cases h : n < st.length
  · obtain ⟨b,o,rfl,_,hb,hcl⟩ := hs n h
    have hcl1 : cl A1 b (o + n) = _ := (hx1.cl hb _).trans hcl
    have hd : decide ((n : Int) < (st.length : Int)) = true := by simp; omega
    refine Rn.reg hc rfl ?_
    simp only [zAY,zAU,zAT,sp_n,Nat.reduceLT,ne_eq,Nat.reduceEqDiff,zNf,gd,zAX,rops,fx,ld,fad,lng,zAP,zAR,Nat.zero_add,zOi,zEl,tk22,zCY,un22,b1,hd]
    (repeat (first | refine Rn.seq hc ?_ | refine Rn.skip hc ?_ | refine Rn.block hc ?_ | refine Rn.inBlock hc ?_ | refine Rn.scope hc ?_ | refine Rn.inScope hc ?_))
    refine Rn.zAI hc rfl ?_
    simp only [zAY,zAU,sp_n,Nat.reduceLT,Value.bool.injEq,zEl]
    (repeat (first | refine Rn.seq hc ?_ | refine Rn.skip hc ?_ | refine Rn.block hc ?_ | refine Rn.inBlock hc ?_ | refine Rn.scope hc ?_ | refine Rn.inScope hc ?_))
    refine Rn.reg hc rfl ?_
    simp only [zAY,zAU,zAT,sp_n,Nat.reduceLT,ne_eq,Nat.reduceEqDiff,zNf,gd,zAX,rops,fx,ld,fad,idx,zAR,Nat.zero_add,zOi,zEl,Nat.mul_one,tk3,tk22,zCY,eo22,b1,zAK h,hcl1]
    (repeat (first | refine Rn.seq hc ?_ | refine Rn.skip hc ?_ | refine Rn.block hc ?_ | refine Rn.inBlock hc ?_ | refine Rn.scope hc ?_ | refine Rn.inScope hc ?_))
    refine Rn.ret (zAJ rfl ⟨?_,hx1⟩)
    simp only [zAU,sp_n,Nat.reduceLT]
    unfold atL
    rw [if_pos h]
  · have hd : decide ((n : Int) < (st.length : Int)) = false := by simp; omega
    have hlt : (n - st.length) % ro.length < ro.length := Nat.mod_lt _ hro
    obtain ⟨b,o,rfl,_,hb,hcl⟩ := hr _ hlt
    have hcl1 : cl A1 b (o + (n - st.length) % ro.length) = _ := (hx1.cl hb _).trans hcl
    have hsub : IntKind.i64.wrap ((n : Int) - (st.length : Int)) = ((n - st.length : Nat) : Int) := by rw [IntWalk.i64_in _ (by omega)]; omega
    have hrem : bin Try.prog .rem 3 (.int .i64 ((n - st.length : Nat) : Int)) (.int .i64 (ro.length : Int)) (bump A1 14) = some (.int .i64 (((n - st.length) % ro.length : Nat) : Int),bump A1 14) := by
      rw [zCM _ _ _ _ (by omega),IntWalk.rem_in _ _ (by omega)]
      rfl
    refine Rn.reg hc rfl ?_
    simp only [zAY,zAU,zAT,sp_n,Nat.reduceLT,ne_eq,Nat.reduceEqDiff,zNf,gd,zAX,rops,fx,ld,fad,lng,zAP,zAR,Nat.zero_add,zOi,zEl,tk22,zCY,un22,b1,hd]
    (repeat (first | refine Rn.seq hc ?_ | refine Rn.skip hc ?_ | refine Rn.block hc ?_ | refine Rn.inBlock hc ?_ | refine Rn.scope hc ?_ | refine Rn.inScope hc ?_))
    refine Rn.zAI hc rfl ?_
    simp only [zAY,zAU,sp_n,Nat.reduceLT,Value.bool.injEq,zEl]
    (repeat (first | refine Rn.seq hc ?_ | refine Rn.skip hc ?_ | refine Rn.block hc ?_ | refine Rn.inBlock hc ?_ | refine Rn.scope hc ?_ | refine Rn.inScope hc ?_))
    refine Rn.drawnR hc hx (by kernel_rfl) (by rfl) (by kernel_rfl) ?_ ?_
    · simp only [rdV,VQ.int,VQ.ptr,VQ.slice,zAB,zAY,zAU,zAT,sp_n,Nat.reduceLT,ne_eq,Nat.reduceEqDiff,zNf,gd,zAX,fx,ld,fad,idx,lng,zBA,zAR,Nat.zero_add,Nat.reduceAdd,Nat.mul_one,and_self,tk3,tk22,zCY,zDY,un22,eo22,b1,b2,hsub,hrem,zAK hlt,hcl1,List.length_cons,List.length_nil]
    simp only [zAB,zAY,zAU,zAT,sp_n,Nat.reduceLT,ne_eq,Nat.reduceEqDiff,zNf,gd,zAX,rops,fx,ld,fad,idx,lng,zBA,zAR,Nat.zero_add,zOi,zEl,Nat.reduceAdd,Nat.mul_one,tk3,tk22,zCY,zDY,un22,eo22,b1,b2,hsub,hrem,zAK hlt,hcl1,List.length_cons,List.length_nil]
    (repeat (first | refine Rn.seq hc ?_ | refine Rn.skip hc ?_ | refine Rn.block hc ?_ | refine Rn.inBlock hc ?_ | refine Rn.scope hc ?_ | refine Rn.inScope hc ?_))
    refine Rn.ret (zAJ rfl ⟨?_,Nx.bump hx1 _⟩)
    simp only [zAU,sp_n,Nat.reduceLT]
    unfold atL
    rw [if_neg h]
theorem at_stream {A : AHeap} (hw : WF A) {m : Int} {sa ra : Option Addr} {sc rc : Nat} {st ro : List Int} (hs : Ints A sa 0 A.next st) (hr : Ints A ra 0 A.next ro) (n : Nat) (hst : st.length < 4611686018427387904) (hro : 0 < ro.length) (hro2 : ro.length < 4611686018427387904) (hn : n < 9223372036854775808) :
    Con Try.prog 77 [.agg #[.int .i64 m,.slice sa st.length sc,.slice ra ro.length rc],.int .i64 (n : Int)] A (fun v A1 => v = .int .i64 (atL st ro n) ∧ Nx A.next A A1) := by
  refine zAM hc Try.func77 rfl (Nat.le_of_ble_eq_true rfl) ?_
  obtain ⟨A1,e1,hx1,hn1,b0,b1,b2⟩ := box3 hw (.int .i64 m) (.slice sa st.length sc) (.slice ra ro.length rc) 86
  rw [s_in2]
  (repeat (first | refine Rn.seq hc ?_ | refine Rn.skip hc ?_ | refine Rn.block hc ?_ | refine Rn.inBlock hc ?_ | refine Rn.scope hc ?_ | refine Rn.inScope hc ?_))
  refine Rn.reg hc rfl ?_
  simp only [zAY,zAS,zAU,zAT,Nat.reduceLT,ne_eq,Nat.reduceEqDiff,zNf,gd,zAX,rops,fx,zOi,zEl,Value.cells,show Try.f77.ntmps = 33 from rfl,e1]
  (repeat (first | refine Rn.seq hc ?_ | refine Rn.skip hc ?_ | refine Rn.block hc ?_ | refine Rn.inBlock hc ?_ | refine Rn.scope hc ?_ | refine Rn.inScope hc ?_))
  by_cases h : n < st.length
  · obtain ⟨b,o,rfl,_,hb,hcl⟩ := hs n h
    have hcl1 : cl A1 b (o + n) = _ := (hx1.cl hb _).trans hcl
    have hd : decide ((n : Int) < (st.length : Int)) = true := by simp; omega
    refine Rn.reg hc rfl ?_
    simp only [zAY,zAU,zAT,sp_n,Nat.reduceLT,ne_eq,Nat.reduceEqDiff,zNf,gd,zAX,rops,fx,ld,fad,lng,zAP,zAR,Nat.zero_add,Nat.add_zero,zOi,zEl,tk22,zCY,fo86_0,un22,b1,hd]
    (repeat (first | refine Rn.seq hc ?_ | refine Rn.skip hc ?_ | refine Rn.block hc ?_ | refine Rn.inBlock hc ?_ | refine Rn.scope hc ?_ | refine Rn.inScope hc ?_))
    refine Rn.zAI hc rfl ?_
    simp only [zAY,zAU,sp_n,Nat.reduceLT,Value.bool.injEq,zEl]
    (repeat (first | refine Rn.seq hc ?_ | refine Rn.skip hc ?_ | refine Rn.block hc ?_ | refine Rn.inBlock hc ?_ | refine Rn.scope hc ?_ | refine Rn.inScope hc ?_))
    refine Rn.reg hc rfl ?_
    simp only [zAY,zAU,zAT,sp_n,Nat.reduceLT,ne_eq,Nat.reduceEqDiff,zNf,gd,zAX,rops,fx,ld,fad,idx,zAR,Nat.zero_add,Nat.add_zero,zOi,zEl,Nat.mul_one,tk3,tk22,zCY,fo86_0,eo22,b1,zAK h,hcl1]
    (repeat (first | refine Rn.seq hc ?_ | refine Rn.skip hc ?_ | refine Rn.block hc ?_ | refine Rn.inBlock hc ?_ | refine Rn.scope hc ?_ | refine Rn.inScope hc ?_))
    refine Rn.ret (zAJ rfl ⟨?_,hx1⟩)
    simp only [zAU,sp_n,Nat.reduceLT]
    unfold atL
    rw [if_pos h]
  · have hd : decide ((n : Int) < (st.length : Int)) = false := by simp; omega
    have hlt : (n - st.length) % ro.length < ro.length := Nat.mod_lt _ hro
    obtain ⟨b,o,rfl,_,hb,hcl⟩ := hr _ hlt
    have hcl1 : cl A1 b (o + (n - st.length) % ro.length) = _ := (hx1.cl hb _).trans hcl
    have hsub : IntKind.i64.wrap ((n : Int) - (st.length : Int)) = ((n - st.length : Nat) : Int) := by rw [IntWalk.i64_in _ (by omega)]; omega
    have hrem : bin Try.prog .rem 3 (.int .i64 ((n - st.length : Nat) : Int)) (.int .i64 (ro.length : Int)) (bump A1 17) = some (.int .i64 (((n - st.length) % ro.length : Nat) : Int),bump A1 17) := by
      rw [zCM _ _ _ _ (by omega),IntWalk.rem_in _ _ (by omega)]
      rfl
    refine Rn.reg hc rfl ?_
    simp only [zAY,zAU,zAT,sp_n,Nat.reduceLT,ne_eq,Nat.reduceEqDiff,zNf,gd,zAX,rops,fx,ld,fad,lng,zAP,zAR,Nat.zero_add,Nat.add_zero,zOi,zEl,tk22,zCY,fo86_0,un22,b1,hd]
    (repeat (first | refine Rn.seq hc ?_ | refine Rn.skip hc ?_ | refine Rn.block hc ?_ | refine Rn.inBlock hc ?_ | refine Rn.scope hc ?_ | refine Rn.inScope hc ?_))
    refine Rn.zAI hc rfl ?_
    simp only [zAY,zAU,sp_n,Nat.reduceLT,Value.bool.injEq,zEl]
    (repeat (first | refine Rn.seq hc ?_ | refine Rn.skip hc ?_ | refine Rn.block hc ?_ | refine Rn.inBlock hc ?_ | refine Rn.scope hc ?_ | refine Rn.inScope hc ?_))
    refine Rn.drawnR hc hx (by kernel_rfl) (by rfl) (by kernel_rfl) ?_ ?_
    · simp only [rdV,VQ.int,VQ.ptr,VQ.slice,zAB,zAY,zAU,zAT,sp_n,Nat.reduceLT,ne_eq,Nat.reduceEqDiff,zNf,gd,zAX,fx,ld,fad,idx,lng,zBA,zAR,Nat.zero_add,Nat.add_zero,Nat.reduceAdd,Nat.mul_one,and_self,tk3,tk22,zCY,zDY,fo86_0,un22,eo22,b1,b2,hsub,hrem,zAK hlt,hcl1,List.length_cons,List.length_nil]
    simp only [zAB,zAY,zAU,zAT,sp_n,Nat.reduceLT,ne_eq,Nat.reduceEqDiff,zNf,gd,zAX,rops,fx,ld,fad,idx,lng,zBA,zAR,Nat.zero_add,Nat.add_zero,zOi,zEl,Nat.reduceAdd,Nat.mul_one,tk3,tk22,zCY,zDY,fo86_0,un22,eo22,b1,b2,hsub,hrem,zAK hlt,hcl1,List.length_cons,List.length_nil]
    (repeat (first | refine Rn.seq hc ?_ | refine Rn.skip hc ?_ | refine Rn.block hc ?_ | refine Rn.inBlock hc ?_ | refine Rn.scope hc ?_ | refine Rn.inScope hc ?_))
    refine Rn.ret (zAJ rfl ⟨?_,Nx.bump hx1 _⟩)
    simp only [zAU,sp_n,Nat.reduceLT]
    unfold atL
    rw [if_neg h]
theorem within {A : AHeap} (hw : WF A) (n : Int) : Con Try.prog 75 [.int .i64 n] A (fun v A1 => v = .func (.func 105) #[] #[.pointer (some ⟨A.next,0,none⟩)] ∧ cl A1 A.next 0 = some (.int .i64 n) ∧ Nx A.next A A1 ∧ A1.next = A.next + 1) := by
  refine zAM hc Try.func75 rfl (Nat.le_of_ble_eq_true rfl) ?_
  rw [s_in1]
  (repeat (first | refine Rn.seq hc ?_ | refine Rn.skip hc ?_ | refine Rn.block hc ?_ | refine Rn.inBlock hc ?_ | refine Rn.scope hc ?_ | refine Rn.inScope hc ?_))
  refine Rn.reg hc rfl ?_
  simp only [zAY,zAS,zAU,Nat.reduceLT,gd,zAX,rops,fx,zOi,zEl,Value.cells,show Try.f75.ntmps = 4 from rfl]
  (repeat (first | refine Rn.seq hc ?_ | refine Rn.skip hc ?_ | refine Rn.block hc ?_ | refine Rn.inBlock hc ?_ | refine Rn.scope hc ?_ | refine Rn.inScope hc ?_))
  refine Rn.reg hc rfl ?_
  simp only [zAY,zAU,zAT,sp_n,Nat.reduceLT,ne_eq,Nat.reduceEqDiff,zNf,gd,zAX,rops,fx,zOi,zEl,ae_mkfunc1]
  (repeat (first | refine Rn.seq hc ?_ | refine Rn.skip hc ?_ | refine Rn.block hc ?_ | refine Rn.inBlock hc ?_ | refine Rn.scope hc ?_ | refine Rn.inScope hc ?_))
  refine Rn.ret (zAJ rfl ⟨?_,?_,(Nx.refl hw _).push (Nat.le_refl _) _,rfl⟩)
  · simp only [zAU,sp_n,Nat.reduceLT]
  · rw [zBF]; rfl
def inB (n x : Int) : Bool := decide (0 ≤ x) && decide (x < n)
theorem within1 {A : AHeap} {b : Nat} {n : Int} (hb : cl A b 0 = some (.int .i64 n)) (x : Int) : Con Try.prog 105 [.int .i64 x,.pointer (some ⟨b,0,none⟩)] A (fun v A1 => v = .bool (inB n x) ∧ A1 = A) := by
  refine zAM hc Try.func105 rfl (Nat.le_of_ble_eq_true rfl) ?_
  rw [s_in2]
  (repeat (first | refine Rn.seq hc ?_ | refine Rn.skip hc ?_ | refine Rn.block hc ?_ | refine Rn.inBlock hc ?_ | refine Rn.scope hc ?_ | refine Rn.inScope hc ?_))
  refine Rn.reg hc rfl ?_
  simp only [zAS,gd,zAX,rops,fx,zOi,zEl,show Try.f105.ntmps = 11 from rfl]
  (repeat (first | refine Rn.seq hc ?_ | refine Rn.skip hc ?_ | refine Rn.block hc ?_ | refine Rn.inBlock hc ?_ | refine Rn.scope hc ?_ | refine Rn.inScope hc ?_))
  cases h1 : decide (0 ≤ x) with
  | true =>
    refine Rn.reg hc rfl ?_
    simp only [zAY,zAS,zAU,zAT,sp_n,Nat.reduceLT,ne_eq,Nat.reduceEqDiff,zNf,gd,nth,zAX,zAG,beqB,rops,fx,ld,pck,zAP,bin_geq,zAR,zOi,zEl,tk3,h1,hb]
    (repeat (first | refine Rn.seq hc ?_ | refine Rn.skip hc ?_ | refine Rn.block hc ?_ | refine Rn.inBlock hc ?_ | refine Rn.scope hc ?_ | refine Rn.inScope hc ?_))
    refine Rn.ret (zAJ rfl ⟨?_,rfl⟩)
    simp only [zAU,sp_n,Nat.reduceLT]
    simp [inB,h1]
  | false =>
    refine Rn.reg hc rfl ?_
    simp only [zAY,zAS,zAU,zAT,sp_n,Nat.reduceLT,ne_eq,Nat.reduceEqDiff,zNf,gd,nth,zAX,zAG,beqB,rops,fx,pck,bin_geq,zOi,zEl,h1]
    (repeat (first | refine Rn.seq hc ?_ | refine Rn.skip hc ?_ | refine Rn.block hc ?_ | refine Rn.inBlock hc ?_ | refine Rn.scope hc ?_ | refine Rn.inScope hc ?_))
    refine Rn.ret (zAJ rfl ⟨?_,rfl⟩)
    simp only [zAU,sp_n,Nat.reduceLT]
    simp [inB,h1]
end Go.Proofs.Ytdaljohmfnfgiaa
namespace Go.Proofs.Ytdaljohmfnfgiaa
open Go Go.RowKit Go.Proofs.Ytdaljohmfnfgiaa.Canon
structure Per (s : Nat → Int) (N d : Nat) : Prop where
  pos : 0 < d
  per : ∀ n,N ≤ n → s (n + d) = s n
theorem Per.mono {s : Nat → Int} {N M d : Nat} (h : Per s N d) (hm : N ≤ M) : Per s M d := ⟨h.pos,fun n hn => h.per n (by omega)⟩
theorem Per.times {s : Nat → Int} {N d : Nat} (h : Per s N d) (k : Nat) : ∀ n,N ≤ n → s (n + k * d) = s n := by
  induction k with
  | zero => intro n _; simp
  | succ k ih =>
    intro n hn
    rw [Nat.succ_mul,← Nat.add_assoc,h.per _ (by omega),ih n hn]
theorem Per.mul {s : Nat → Int} {N d k : Nat} (h : Per s N d) (hk : 0 < k) : Per s N (k * d) := ⟨Nat.mul_pos hk h.pos,h.times k⟩
theorem Per.mod {s : Nat → Int} {N d e : Nat} (h : Per s N d) (k : Per s N e) (hp : 0 < d % e) : Per s N (d % e) :=
  ⟨hp,fun n hn => by
    rw [← k.times (d / e) (n + d % e) (by omega),show n + d % e + d / e * e = n + d by have := Nat.div_add_mod d e; have := Nat.mul_comm (d / e) e; omega,h.per n hn]⟩
theorem Per.gcd {s : Nat → Int} {N : Nat} : ∀ {d e : Nat},Per s N d → Per s N e → Per s N (Nat.gcd d e) := by
  intro d
  induction d using Nat.strongRecOn with
  | ind d ih =>
    intro e h k
    rw [Nat.gcd_rec]
    by_cases h0 : e % d = 0
    · rw [h0,Nat.gcd_zero_left]; exact h
    · exact ih _ (Nat.mod_lt _ h.pos) (k.mod h (by omega)) h
theorem Per.down {s : Nat → Int} {N M p d : Nat} (h : Per s N p) (k : Per s M d) : Per s N d :=
  ⟨k.pos,fun n hn => by
    have hM : M ≤ M * p := Nat.le_mul_of_pos_right _ h.pos
    rw [← h.times M (n + d) (by omega),show n + d + M * p = n + M * p + d by omega,k.per _ (by omega),h.times M n hn]⟩
theorem Per.same {s : Nat → Int} {N p x y : Nat} (h : Per s N p) (hx : N ≤ x) (hy : N ≤ y) (he : x % p = y % p) : s x = s y := by
  have key : ∀ {x y : Nat},x ≤ y → N ≤ x → x % p = y % p → s x = s y := by
    intro x y hxy hx he
    have h1 := Nat.div_add_mod x p
    have h2 := Nat.div_add_mod y p
    have h3 : x / p ≤ y / p := Nat.div_le_div_right hxy
    obtain ⟨k,hk⟩ : ∃ k,y / p = x / p + k := ⟨y / p - x / p,by omega⟩
    have : y = x + k * p := by
      rw [hk,Nat.mul_add] at h2
      have := Nat.mul_comm p k
      omega
    rw [this,h.times k x hx]
  rcases Nat.le_total x y with hxy | hxy
  · exact key hxy hx he
  · exact (key hxy hy he.symm).symm
structure Red (s : Nat → Int) (a p : Nat) : Prop where
  per : Per s a p
  minP : ∀ N d,Per s N d → p ≤ d
  minA : ∀ N,Per s N p → a ≤ N
def redS (s : Nat → Int) (a : Nat) : List Int := (List.range a).map s
def redR (s : Nat → Int) (a p : Nat) : List Int := (List.range p).map fun i => s (a + i)
theorem zBV (s : Nat → Int) (a : Nat) : (redS s a).length = a := by simp [redS]
theorem zBI (s : Nat → Int) (a p : Nat) : (redR s a p).length = p := by simp [redR]
theorem redS_get {s : Nat → Int} {a i : Nat} (h : i < a) : (redS s a).getD i 0 = s i := by simp [redS,List.getD_eq_getElem?_getD,h]
theorem redR_get {s : Nat → Int} {a p i : Nat} (h : i < p) : (redR s a p).getD i 0 = s (a + i) := by simp [redR,List.getD_eq_getElem?_getD,h]
theorem atL_red {s : Nat → Int} {a p : Nat} (h : Per s a p) (n : Nat) : atL (redS s a) (redR s a p) n = s n := by
  unfold atL
  rw [zBV,zBI]
  split
  · rename_i hn
    exact redS_get hn
  · rename_i hn
    rw [redR_get (Nat.mod_lt _ h.pos)]
    refine h.same (by omega) (by omega) ?_
    rw [Nat.add_mod_mod]
    congr 1
    omega
theorem atL_redF {s : Nat → Int} {a p : Nat} (h : Per s a p) : atL (redS s a) (redR s a p) = s := funext (atL_red h)
def perOK (ro : List Int) (d : Nat) : Bool := decide (ro.length % d = 0) && (List.range ro.length).all fun i => decide (i < d) || decide (ro.getD i 0 = ro.getD (i - d) 0)
theorem perOK_iff {ro : List Int} {d : Nat} : perOK ro d = true ↔ ro.length % d = 0 ∧ ∀ i,d ≤ i → i < ro.length → ro.getD i 0 = ro.getD (i - d) 0 := by
  unfold perOK
  simp only [Bool.and_eq_true,decide_eq_true_eq,List.all_eq_true,List.mem_range,Bool.or_eq_true]
  constructor
  · rintro ⟨h1,h2⟩
    refine ⟨h1,fun i hd hi => ?_⟩
    rcases h2 i hi with h | h
    · omega
    · exact h
  · rintro ⟨h1,h2⟩
    refine ⟨h1,fun i hi => ?_⟩
    by_cases hd : i < d
    · exact .inl hd
    · exact .inr (h2 i (by omega) hi)
theorem atL_ro {st ro : List Int} {i : Nat} (h : i < ro.length) : atL st ro (st.length + i) = ro.getD i 0 := by
  unfold atL
  rw [if_neg (by omega),Nat.add_sub_cancel_left,Nat.mod_eq_of_lt h]
theorem atL_st {st ro : List Int} {i : Nat} (h : i < st.length) : atL st ro i = st.getD i 0 := by
  unfold atL
  rw [if_pos h]
theorem atL_per {st ro : List Int} (h : 0 < ro.length) : Per (atL st ro) st.length ro.length := ⟨h,fun n hn => by
  unfold atL
  rw [if_neg (by omega),if_neg (by omega),show n + ro.length - st.length = n - st.length + ro.length by omega,Nat.add_mod_right]⟩
theorem perOK_mod {ro : List Int} {d : Nat} (hd : 0 < d) (h : perOK ro d = true) : ∀ x,x < ro.length → ro.getD x 0 = ro.getD (x % d) 0 := by
  obtain ⟨_,h2⟩ := perOK_iff.1 h
  intro x
  induction x using Nat.strongRecOn with
  | ind x ih =>
    intro hx
    by_cases hlt : x < d
    · rw [Nat.mod_eq_of_lt hlt]
    · rw [h2 x (by omega) hx,ih (x - d) (by omega) (by omega),← Nat.mod_eq_sub_mod (by omega)]
theorem perOK_per {st ro : List Int} {d : Nat} (hl : 0 < ro.length) (hd : 0 < d) (h : perOK ro d = true) : Per (atL st ro) st.length d := ⟨hd,fun n hn => by
  have hdv : d ∣ ro.length := Nat.dvd_of_mod_eq_zero (perOK_iff.1 h).1
  have key : ∀ m,ro.getD (m % ro.length) 0 = ro.getD (m % d) 0 := fun m => by
    rw [perOK_mod hd h _ (Nat.mod_lt _ hl),Nat.mod_mod_of_dvd _ hdv]
  unfold atL
  rw [if_neg (by omega),if_neg (by omega),key,key,show n + d - st.length = n - st.length + d by omega,Nat.add_mod_right]⟩
theorem per_perOK {st ro : List Int} {N d : Nat} (hl : 0 < ro.length) (hd : ro.length % d = 0) (h : Per (atL st ro) N d) : perOK ro d = true := by
  have k := (atL_per (st := st) hl).down h
  refine perOK_iff.2 ⟨hd,fun i hi hlt => ?_⟩
  have := k.per (st.length + (i - d)) (by omega)
  rw [show st.length + (i - d) + d = st.length + i by omega,atL_ro hlt,atL_ro (by omega)] at this
  exact this
theorem min_per {st ro : List Int} {d : Nat} (hl : 0 < ro.length) (hmin : ∀ e,0 < e → e < d → perOK ro e = false) {N e : Nat} (h : Per (atL st ro) N e) : d ≤ e := by
  have k := (atL_per (st := st) hl).down h
  have g := (k.gcd (atL_per (st := st) hl))
  have ho := per_perOK (d := Nat.gcd e ro.length) hl (Nat.mod_eq_zero_of_dvd (Nat.gcd_dvd_right _ _)) g
  have hle : Nat.gcd e ro.length ≤ e := Nat.le_of_dvd k.pos (Nat.gcd_dvd_left _ _)
  refine Nat.le_trans (Nat.le_of_not_lt fun hlt => ?_) hle
  rw [hmin _ g.pos hlt] at ho
  cases ho
theorem perOK_self (ro : List Int) : perOK ro ro.length = true := perOK_iff.2 ⟨Nat.mod_self _,fun i h1 h2 => by omega⟩
theorem perOK_le {ro : List Int} {d : Nat} (hl : 0 < ro.length) (h : perOK ro d = true) : d ≤ ro.length := Nat.le_of_dvd hl (Nat.dvd_of_mod_eq_zero (perOK_iff.1 h).1)
theorem Per.back {s : Nat → Int} {e p : Nat} (h : Per s (e + 1) p) (hs : s e = s (e + p)) : Per s e p := ⟨h.pos,fun n hn => by
  by_cases hne : n = e
  · subst hne; exact hs.symm
  · exact h.per n (by omega)⟩
theorem red_of {s : Nat → Int} {a p : Nat} (h : Per s a p) (hp : ∀ N d,Per s N d → p ≤ d) (ha : 0 < a → s (a - 1) ≠ s (a - 1 + p)) : Red s a p :=
  ⟨h,hp,fun N hN => Nat.le_of_not_lt fun hlt => ha (by omega) ((hN.per (a - 1) (by omega)).symm)⟩
end Go.Proofs.Ytdaljohmfnfgiaa
namespace Go.Proofs.Ytdaljohmfnfgiaa
open Go Go.RowKit Go.Proofs.Ytdaljohmfnfgiaa.Canon
set_option maxRecDepth 20000
theorem all_take {α : Type} (p : α → Bool) (l : List α) (d : α) {i : Nat} (h : i < l.length) : (l.take (i + 1)).all p = ((l.take i).all p && p (l.getD i d)) := by
  rw [List.take_add_one,List.all_append]
  simp [List.getD_eq_getElem?_getD,h]
theorem all_not {α : Type} (p : α → Bool) (l : List α) (d : α) {i : Nat} (h : i < l.length) (hp : p (l.getD i d) = false) : l.all p = false := by
  rw [List.all_eq_false]
  refine ⟨l[i],List.getElem_mem h,?_⟩
  rw [List.getD_eq_getElem?_getD,List.getElem?_eq_getElem h] at hp
  simp at hp
  simp [hp]
theorem every_int {A : AHeap} {a : Option Addr} {c : Nat} {l : List Int} (hl : Ints A a 0 A.next l) (hlen : l.length < 4611686018427387904) {b : Nat} {n : Int} (hb : cl A b 0 = some (.int .i64 n)) :
    Con Try.prog 76 [.slice a l.length c,.func (.func 105) #[] #[.pointer (some ⟨b,0,none⟩)]] A (fun v A1 => v = .bool (l.all (inB n)) ∧ A1 = A) := by
  refine zAM hc Try.func76 rfl (Nat.le_of_ble_eq_true rfl) ?_
  rw [s_in2]
  (repeat (first | refine Rn.seq hc ?_ | refine Rn.skip hc ?_ | refine Rn.block hc ?_ | refine Rn.inBlock hc ?_ | refine Rn.scope hc ?_ | refine Rn.inScope hc ?_))
  refine Rn.reg hc rfl ?_
  simp only [zAS,gd,zAX,rops,fx,zOi,zEl,show Try.f76.ntmps = 18 from rfl]
  (repeat (first | refine Rn.seq hc ?_ | refine Rn.skip hc ?_ | refine Rn.block hc ?_ | refine Rn.inBlock hc ?_ | refine Rn.scope hc ?_ | refine Rn.inScope hc ?_))
  refine Rn.reg hc rfl ?_
  simp only [zAY,zAS,zAU,zAT,sp_n,Nat.reduceLT,ne_eq,Nat.reduceEqDiff,zNf,gd,zAX,rops,fx,lng,zOi,zEl,un22]
  (repeat (first | refine Rn.seq hc ?_ | refine Rn.skip hc ?_ | refine Rn.block hc ?_ | refine Rn.inBlock hc ?_ | refine Rn.scope hc ?_ | refine Rn.inScope hc ?_))
  refine Rn.loopI hc (I := fun k s A' => ∃ i,i ≤ l.length ∧ k = l.length - i ∧ A' = A ∧ s.n = 18 ∧ sget s 1 = .func (.func 105) #[] #[.pointer (some ⟨b,0,none⟩)] ∧ sget s 7 = .slice a l.length c ∧ sget s 8 = .int .i64 (l.length : Int) ∧ sget s 9 = .int .i64 (i : Int) ∧ (l.take i).all (inB n) = true)
    (n := l.length) ⟨0,by omega,rfl,rfl,by simp only [sp_n],by simp only [zAU,zAT,sp_n,Nat.reduceLT,ne_eq,Nat.reduceEqDiff,zNf],by simp only [zAU,zAT,sp_n,Nat.reduceLT,ne_eq,Nat.reduceEqDiff,zNf],by simp only [zAU,zAT,sp_n,Nat.reduceLT,ne_eq,Nat.reduceEqDiff,zNf],by simp only [zAU,sp_n,Nat.reduceLT]; rfl,rfl⟩ ?_
  rintro k s A' ⟨i,hi,rfl,rfl,hn,h1,h7,h8,h9,hall⟩ ih
  (repeat (first | refine Rn.seq hc ?_ | refine Rn.skip hc ?_ | refine Rn.block hc ?_ | refine Rn.inBlock hc ?_ | refine Rn.scope hc ?_ | refine Rn.inScope hc ?_))
  by_cases hlt : i < l.length
  · have hd : decide ((i : Int) < (l.length : Int)) = true := by simp; omega
    obtain ⟨bb,o,rfl,_,_,hcl⟩ := hl i hlt
    refine Rn.reg hc rfl ?_
    simp only [zAY,gd,zAX,rops,fx,zAP,zOi,zEl,h8,h9,hd]
    (repeat (first | refine Rn.seq hc ?_ | refine Rn.skip hc ?_ | refine Rn.block hc ?_ | refine Rn.inBlock hc ?_ | refine Rn.scope hc ?_ | refine Rn.inScope hc ?_))
    refine Rn.zAI hc rfl ?_
    simp only [zAY,zAU,Nat.reduceLT,Value.bool.injEq,zEl,hn]
    (repeat (first | refine Rn.seq hc ?_ | refine Rn.skip hc ?_ | refine Rn.block hc ?_ | refine Rn.inBlock hc ?_ | refine Rn.scope hc ?_ | refine Rn.inScope hc ?_))
    refine Rn.reg hc rfl ?_
    simp only [zAY,zAU,zAT,sp_n,Nat.reduceLT,ne_eq,Nat.reduceEqDiff,zNf,gd,zAX,rops,fx,ld,idx,zAR,zOi,zEl,Nat.mul_one,tk3,eo22,hn,h7,h9,zAK hlt,hcl]
    (repeat (first | refine Rn.seq hc ?_ | refine Rn.skip hc ?_ | refine Rn.block hc ?_ | refine Rn.inBlock hc ?_ | refine Rn.scope hc ?_ | refine Rn.inScope hc ?_))
    refine Rn.region hc fun K hK => ?_
    refine Wo.run hc 2 rfl rfl rfl ?_
    simp (maxSteps := 2000000) only [List.drop_zero,List.take_succ_cons,List.take_zero,zAY,zAU,zAT,sp_n,Nat.reduceLT,ne_eq,Nat.reduceEqDiff,not_false_eq_true,gd,zAX,rops,fx,Nat.zero_add,Option.some.injEq,exists_eq_left',hn,h1]
    refine Wo.call hc (by rfl) (by rfl) ⟨by rfl,by rfl⟩ (xs := [.int .i64 (l.getD i 0),.pointer (some ⟨b,0,none⟩)]) (by rfl) (by first | rfl | (simp only [zAY,zAU,zAT,sp_n,Nat.reduceLT,ne_eq,Nat.reduceEqDiff,zNf,hn]; done) | (simp only [zAY,zAU,zAT,sp_n,Nat.reduceLT,ne_eq,Nat.reduceEqDiff,zNf,hn]; rfl)) (by simp only [zAY,zAU,sp_n,Nat.reduceLT,List.map_cons,List.map_nil,List.nil_append,List.cons_append,hn]) (Con.mono (within1 hb _) ?_)
    rintro v A1 ⟨rfl,rfl⟩
    refine Wo.run hc 1 rfl rfl rfl ?_
    simp (maxSteps := 2000000) only [List.drop_zero,List.drop_succ_cons,List.take_succ_cons,List.take_zero,zAY,zAU,sp_n,Nat.reduceLT,gd,zAX,rops,fx,Option.some.injEq,exists_eq_left',Nat.reduceAdd,ae_not',hn]
    refine Wo.done hc rfl (hK _ _ ?_)
    (repeat (first | refine Rn.seq hc ?_ | refine Rn.skip hc ?_ | refine Rn.block hc ?_ | refine Rn.inBlock hc ?_ | refine Rn.scope hc ?_ | refine Rn.inScope hc ?_))
    cases hv : inB n (l.getD i 0) with
    | true =>
      refine Rn.zAI hc rfl ?_
      simp only [zAY,zAU,sp_n,Nat.reduceLT,Value.bool.injEq,zEl,hn,Bool.not_true]
      (repeat (first | refine Rn.seq hc ?_ | refine Rn.skip hc ?_ | refine Rn.block hc ?_ | refine Rn.inBlock hc ?_ | refine Rn.scope hc ?_ | refine Rn.inScope hc ?_))
      refine Rn.reg hc rfl ?_
      simp only [zAY,zAS,zAU,zAT,sp_n,Nat.reduceLT,ne_eq,Nat.reduceEqDiff,zNf,gd,zAX,rops,fx,zAE,zOi,zEl,hn,h9,zBY (show i < 9223372036854775807 by omega)]
      (repeat (first | refine Rn.seq hc ?_ | refine Rn.skip hc ?_ | refine Rn.block hc ?_ | refine Rn.inBlock hc ?_ | refine Rn.scope hc ?_ | refine Rn.inScope hc ?_))
      exact ih _ _ _ (by omega) ⟨i + 1,by omega,rfl,rfl,by simp only [sp_n,hn],by simp only [zAT,ne_eq,Nat.reduceEqDiff,zNf,h1],by simp only [zAT,ne_eq,Nat.reduceEqDiff,zNf,h7],by simp only [zAT,ne_eq,Nat.reduceEqDiff,zNf,h8],by simp only [zAU,sp_n,Nat.reduceLT,hn],by rw [all_take _ _ 0 hlt,hall,hv]; rfl⟩
    | false =>
      refine Rn.zAI hc rfl ?_
      simp only [zAY,zAU,sp_n,Nat.reduceLT,Value.bool.injEq,zEl,hn,Bool.not_false]
      (repeat (first | refine Rn.seq hc ?_ | refine Rn.skip hc ?_ | refine Rn.block hc ?_ | refine Rn.inBlock hc ?_ | refine Rn.scope hc ?_ | refine Rn.inScope hc ?_))
      refine Rn.reg hc rfl ?_
      simp only [zAS,gd,zAX,rops,fx,zOi,zEl]
      (repeat (first | refine Rn.seq hc ?_ | refine Rn.skip hc ?_ | refine Rn.block hc ?_ | refine Rn.inBlock hc ?_ | refine Rn.scope hc ?_ | refine Rn.inScope hc ?_))
      refine Rn.ret (zAJ rfl ⟨?_,rfl⟩)
      simp only [zAU,sp_n,Nat.reduceLT,hn]
      rw [all_not _ _ 0 hlt hv]
  · have hd : decide ((i : Int) < (l.length : Int)) = false := by simp; omega
    have hil : i = l.length := by omega
    subst hil
    refine Rn.reg hc rfl ?_
    simp only [zAY,gd,zAX,rops,fx,zAP,zOi,zEl,h8,h9,hd]
    (repeat (first | refine Rn.seq hc ?_ | refine Rn.skip hc ?_ | refine Rn.block hc ?_ | refine Rn.inBlock hc ?_ | refine Rn.scope hc ?_ | refine Rn.inScope hc ?_))
    refine Rn.zAI hc rfl ?_
    simp only [zAY,zAU,Nat.reduceLT,Value.bool.injEq,zEl,hn]
    (repeat (first | refine Rn.seq hc ?_ | refine Rn.skip hc ?_ | refine Rn.block hc ?_ | refine Rn.inBlock hc ?_ | refine Rn.scope hc ?_ | refine Rn.inScope hc ?_))
    refine Rn.exit hc rfl ?_
    (repeat (first | refine Rn.seq hc ?_ | refine Rn.skip hc ?_ | refine Rn.block hc ?_ | refine Rn.inBlock hc ?_ | refine Rn.scope hc ?_ | refine Rn.inScope hc ?_))
    refine Rn.reg hc rfl ?_
    simp only [zAS,gd,zAX,rops,fx,zOi,zEl]
    (repeat (first | refine Rn.seq hc ?_ | refine Rn.skip hc ?_ | refine Rn.block hc ?_ | refine Rn.inBlock hc ?_ | refine Rn.scope hc ?_ | refine Rn.inScope hc ?_))
    refine Rn.ret (zAJ rfl ⟨?_,rfl⟩)
    simp only [zAU,sp_n,Nat.reduceLT,hn]
    rw [List.take_length] at hall
    rw [hall]
end Go.Proofs.Ytdaljohmfnfgiaa
namespace Go.Proofs.Ytdaljohmfnfgiaa
open Go Go.RowKit Go.Proofs.Ytdaljohmfnfgiaa.Canon
set_option maxRecDepth 20000
end Go.Proofs.Ytdaljohmfnfgiaa
namespace Go.Proofs.Ytdaljohmfnfgiaa
open Go Go.RowKit Go.Proofs.Ytdaljohmfnfgiaa.Canon
set_option maxRecDepth 20000
end Go.Proofs.Ytdaljohmfnfgiaa
namespace Go.Proofs.Ytdaljohmfnfgiaa
open Go Go.RowKit Go.Proofs.Ytdaljohmfnfgiaa.Canon
set_option maxRecDepth 20000
theorem bs22_0 {ρ : Operand → Value} {d : Option Tmp} {ty : TypeId} {pos : String} {af : Array Edge} {gu : Option (Nat × Bool)} {A : AHeap} :
    zAL Try.prog ρ ⟨d,.buildSlice 22 0 #[],ty,pos,af,gu⟩ A = some (.slice (some ⟨A.next,0,none⟩) 0 0,A.push (.cells #[] 3)) := zCS (by rfl) so22_0 et22 rfl rfl
theorem Ints.row {A : AHeap} {a : Option Addr} {lo hi : Nat} {l : List Int} (h : Ints A a lo hi l) : Row A a (l.map (Value.int .i64)) := by
  cases hl : l with
  | nil => exact .inl rfl
  | cons x m =>
    rw [← hl]
    obtain ⟨b,o,rfl,_,_,_⟩ := h 0 (by rw [hl]; simp)
    refine .inr ⟨b,o,rfl,fun i hi => ?_⟩
    obtain ⟨b',o',e,_,_,h4⟩ := h i (by simpa using hi)
    cases e
    rw [h4]
    simp at hi
    simp [List.getD_eq_getElem?_getD,hi]
theorem Ints.some {A : AHeap} {lo hi : Nat} {l : List Int} (h : Ints A none lo hi l) : l.length = 0 := by
  cases hl : l with
  | nil => rfl
  | cons x m =>
    obtain ⟨b,o,e,_⟩ := h 0 (by rw [hl]; simp)
    cases e
def Sl (A : AHeap) (a : Option Addr) (lo : Nat) : Prop := ∀ x,a = .some x → x.spot = none ∧ lo ≤ x.block ∧ ∃ y,Canon.look A.objs x.block = .some y ∧ (y.grown = false ∨ (y.grown = true ∧ isRow y.o = true ∧ y.esz = 1))
theorem Sl.mono {A : AHeap} {a : Option Addr} {lo lo' : Nat} (h : Sl A a lo) (hl : lo' ≤ lo) : Sl A a lo' := fun x hx => by
  obtain ⟨h1,h2,h3⟩ := h x hx
  exact ⟨h1,by omega,h3⟩
theorem Sl.ext {A B : AHeap} {a : Option Addr} {lo : Nat} (h : Sl A a lo) (he : ∀ b,lo ≤ b → Canon.look A.objs b = none ∨ Canon.look B.objs b = Canon.look A.objs b) : Sl B a lo := fun x hx => by
  obtain ⟨h1,h2,y,h3,h4⟩ := h x hx
  refine ⟨h1,h2,y,?_,h4⟩
  rcases he _ h2 with h0 | h0
  · rw [h0] at h3; cases h3
  · rw [h0]; exact h3
theorem Sl.nx {A B : AHeap} {a : Option Addr} {lo : Nat} (h : Sl A a lo) (hw : WF A) (hx : Nx A.next A B) : Sl B a lo := h.ext fun b _ => by
  by_cases hb : b < A.next
  · exact .inr (hx.keep b hb)
  · exact .inl (hw.none (by omega))
end Go.Proofs.Ytdaljohmfnfgiaa
namespace Go.Proofs.Ytdaljohmfnfgiaa
open Go Go.RowKit Go.Proofs.Ytdaljohmfnfgiaa.Canon
set_option maxRecDepth 20000
section
variable {ρ : Operand → Value} {d : Option Tmp} {ty : TypeId} {pos : String} {af : Array Edge} {gu : Option (Nat × Bool)} {A : AHeap}
end
theorem Ints.ext {A B : AHeap} {a : Option Addr} {lo hi hi' : Nat} {l : List Int} (h : Ints A a lo hi l) (he : ∀ b,lo ≤ b → Canon.look A.objs b = none ∨ Canon.look B.objs b = Canon.look A.objs b) (hh : hi ≤ hi') : Ints B a lo hi' l := fun i hi => by
  obtain ⟨b,o,q1,q2,q3,q4⟩ := h i hi
  refine ⟨b,o,q1,q2,by omega,?_⟩
  rcases he b q2 with h0 | h0
  · rw [cl_none h0] at q4; cases q4
  · rw [zBT h0]; exact q4
def noS : Canon.Spec := fun _ _ _ _ _ => False
end Go.Proofs.Ytdaljohmfnfgiaa
namespace Go.Proofs.Ytdaljohmfnfgiaa
open Go Go.RowKit Go.Proofs.Ytdaljohmfnfgiaa.Canon
set_option maxRecDepth 20000
def badM (m : Int) : Bool := decide (m < 2) || decide (65521 < m)
def badN (a b : Nat) : Bool := decide ((60 : Int) < a) || (decide ((b : Int) < 1) || decide ((120 : Int) < b))
def errL (m : Int) (st ro : List Int) : Int := if badM m = true then 3 else if badN st.length ro.length = true then 2 else if (st.all (inB m) && ro.all (inB m)) = true then 0 else 4
end Go.Proofs.Ytdaljohmfnfgiaa
namespace Go.Proofs.Ytdaljohmfnfgiaa
open Go Go.RowKit Go.Proofs.Ytdaljohmfnfgiaa.Canon
set_option maxRecDepth 20000
theorem check_one {A : AHeap} (hw : WF A) {m : Int} {sa ra : Option Addr} {sc rc : Nat} {st ro : List Int} (hs : Ints A sa 0 A.next st) (hr : Ints A ra 0 A.next ro) (ls : st.length < 4611686018427387904) (lr : ro.length < 4611686018427387904) :
    Con Try.prog 24 [.agg #[.int .i64 m,.slice sa st.length sc,.slice ra ro.length rc]] A (fun v A1 => v = .int .i64 (errL m st ro) ∧ Nx A.next A A1) := by
  refine zAM hc Try.func24 rfl (Nat.le_of_ble_eq_true rfl) ?_
  obtain ⟨A1,e1,hx1,hn1,b0,b1,b2⟩ := box3 hw (.int .i64 m) (.slice sa st.length sc) (.slice ra ro.length rc) 24
  rw [s_in1]
  (repeat (first | refine Rn.seq hc ?_ | refine Rn.skip hc ?_ | refine Rn.block hc ?_ | refine Rn.inBlock hc ?_ | refine Rn.scope hc ?_ | refine Rn.inScope hc ?_))
  refine Rn.reg hc rfl ?_
  simp only [zAY,zAS,zAU,Nat.reduceLT,gd,zAX,rops,fx,zOi,zEl,Value.cells,show Try.f24.ntmps = 46 from rfl,e1]
  (repeat (first | refine Rn.seq hc ?_ | refine Rn.skip hc ?_ | refine Rn.block hc ?_ | refine Rn.inBlock hc ?_ | refine Rn.scope hc ?_ | refine Rn.inScope hc ?_))
  refine Rn.region hc fun K hK => ?_
  refine Wo.run hc 2 rfl rfl rfl ?_
  simp (maxSteps := 2000000) only [List.drop_zero,List.take_succ_cons,List.take_zero,zAY,zAU,zAT,sp_n,Nat.reduceLT,ne_eq,Nat.reduceEqDiff,not_false_eq_true,gd,zAX,rops,fx,ld,fad,zAR,Nat.zero_add,Nat.add_zero,Option.some.injEq,exists_eq_left',tk3,fo24_0,b0]
  refine Wo.call hc (by rfl) (by rfl) ⟨by rfl,by rfl⟩ (xs := [.int .i64 m]) (by rfl) (by rfl) (by rfl) (Con.mono (within hx1.wf m) ?_)
  rintro v A2 ⟨rfl,w0,hx2,hn2⟩
  refine Wo.run hc 1 rfl rfl rfl ?_
  simp (maxSteps := 2000000) only [List.drop_zero,List.drop_succ_cons,List.take_succ_cons,List.take_zero,zAY,zAU,sp_n,Nat.reduceLT,gd,zAX,rops,fx,Option.some.injEq,exists_eq_left',Nat.reduceAdd]
  refine Wo.done hc rfl (hK _ _ ?_)
  clear hK
  (repeat (first | refine Rn.seq hc ?_ | refine Rn.skip hc ?_ | refine Rn.block hc ?_ | refine Rn.inBlock hc ?_ | refine Rn.scope hc ?_ | refine Rn.inScope hc ?_))
  have hxx : Nx A.next A A2 := hx1.trans (hx2.le hx1.next)
  have b0 := (hx2.cl (show A.next < A1.next by omega) 0).trans b0
  have b1 := (hx2.cl (show A.next < A1.next by omega) 1).trans b1
  have b2 := (hx2.cl (show A.next < A1.next by omega) 2).trans b2
  have hs2 : Ints A2 sa 0 A2.next st := (hs.nx hxx (Nat.le_refl _)).mono (Nat.le_refl _) hxx.next
  have hr2 : Ints A2 ra 0 A2.next ro := (hr.nx hxx (Nat.le_refl _)).mono (Nat.le_refl _) hxx.next
  cases hb : badM m with
  | true =>
    have he : errL m st ro = 3 := by simp [errL,hb]
    rw [he]
    cases h1 : decide (m < 2) with
    | true =>
      refine Rn.reg hc rfl ?_
      simp only [zAY,zAS,zAU,zAT,sp_n,Nat.reduceLT,ne_eq,Nat.reduceEqDiff,zNf,gd,nth,zAX,zAG,beqB,rops,fx,ld,fad,pck,zAP,zAR,Nat.add_zero,zOi,zEl,tk3,fo24_0,b0,h1]
      (repeat (first | refine Rn.seq hc ?_ | refine Rn.skip hc ?_ | refine Rn.block hc ?_ | refine Rn.inBlock hc ?_ | refine Rn.scope hc ?_ | refine Rn.inScope hc ?_))
      refine Rn.zAI hc rfl ?_
      simp only [zAY,zAU,sp_n,Nat.reduceLT,Value.bool.injEq,zEl]
      (repeat (first | refine Rn.seq hc ?_ | refine Rn.skip hc ?_ | refine Rn.block hc ?_ | refine Rn.inBlock hc ?_ | refine Rn.scope hc ?_ | refine Rn.inScope hc ?_))
      refine Rn.reg hc rfl ?_
      simp only [zAS,gd,zAX,rops,fx,zOi,zEl]
      (repeat (first | refine Rn.seq hc ?_ | refine Rn.skip hc ?_ | refine Rn.block hc ?_ | refine Rn.inBlock hc ?_ | refine Rn.scope hc ?_ | refine Rn.inScope hc ?_))
      exact Rn.ret (zAJ rfl ⟨by simp only [zAU,sp_n,Nat.reduceLT],hxx⟩)
    | false =>
      have h2 : decide (65521 < m) = true := by simpa [badM,h1] using hb
      refine Rn.reg hc rfl ?_
      simp only [zAY,zAS,zAU,zAT,sp_n,Nat.reduceLT,ne_eq,Nat.reduceEqDiff,zNf,gd,nth,zAX,zAG,beqB,rops,fx,ld,fad,pck,zAP,zCZ,zAR,Nat.add_zero,zOi,zEl,tk3,fo24_0,b0,h1,h2]
      (repeat (first | refine Rn.seq hc ?_ | refine Rn.skip hc ?_ | refine Rn.block hc ?_ | refine Rn.inBlock hc ?_ | refine Rn.scope hc ?_ | refine Rn.inScope hc ?_))
      refine Rn.zAI hc rfl ?_
      simp only [zAY,zAU,sp_n,Nat.reduceLT,Value.bool.injEq,zEl]
      (repeat (first | refine Rn.seq hc ?_ | refine Rn.skip hc ?_ | refine Rn.block hc ?_ | refine Rn.inBlock hc ?_ | refine Rn.scope hc ?_ | refine Rn.inScope hc ?_))
      refine Rn.reg hc rfl ?_
      simp only [zAS,gd,zAX,rops,fx,zOi,zEl]
      (repeat (first | refine Rn.seq hc ?_ | refine Rn.skip hc ?_ | refine Rn.block hc ?_ | refine Rn.inBlock hc ?_ | refine Rn.scope hc ?_ | refine Rn.inScope hc ?_))
      exact Rn.ret (zAJ rfl ⟨by simp only [zAU,sp_n,Nat.reduceLT],hxx⟩)
  | false =>
  have h1 : decide (m < 2) = false := by
    cases h : decide (m < 2) with
    | false => rfl
    | true => simp [badM,h] at hb
  have h2 : decide (65521 < m) = false := by simpa [badM,h1] using hb
  refine Rn.reg hc rfl ?_
  simp only [zAY,zAS,zAU,zAT,sp_n,Nat.reduceLT,ne_eq,Nat.reduceEqDiff,zNf,gd,nth,zAX,zAG,beqB,rops,fx,ld,fad,pck,zAP,zCZ,zAR,Nat.add_zero,zOi,zEl,tk3,fo24_0,b0,h1,h2]
  (repeat (first | refine Rn.seq hc ?_ | refine Rn.skip hc ?_ | refine Rn.block hc ?_ | refine Rn.inBlock hc ?_ | refine Rn.scope hc ?_ | refine Rn.inScope hc ?_))
  refine Rn.zAI hc rfl ?_
  simp only [zAY,zAU,sp_n,Nat.reduceLT,Value.bool.injEq,zEl]
  (repeat (first | refine Rn.seq hc ?_ | refine Rn.skip hc ?_ | refine Rn.block hc ?_ | refine Rn.inBlock hc ?_ | refine Rn.scope hc ?_ | refine Rn.inScope hc ?_))
  cases hb2 : badN st.length ro.length with
  | true =>
    have he : errL m st ro = 2 := by simp [errL,hb,hb2]
    rw [he]
    cases h3 : decide ((60 : Int) < st.length) with
    | true =>
      refine Rn.reg hc rfl ?_
      simp only [zAY,zAS,zAU,zAT,sp_n,Nat.reduceLT,ne_eq,Nat.reduceEqDiff,zNf,gd,nth,zAX,zAG,beqB,rops,fx,ld,fad,lng,pck,zCZ,zAR,Nat.zero_add,zOi,zEl,tk22,zCY,un22,b1,h3]
      (repeat (first | refine Rn.seq hc ?_ | refine Rn.skip hc ?_ | refine Rn.block hc ?_ | refine Rn.inBlock hc ?_ | refine Rn.scope hc ?_ | refine Rn.inScope hc ?_))
      refine Rn.zAI hc rfl ?_
      simp only [zAY,zAU,sp_n,Nat.reduceLT,Value.bool.injEq,zEl]
      (repeat (first | refine Rn.seq hc ?_ | refine Rn.skip hc ?_ | refine Rn.block hc ?_ | refine Rn.inBlock hc ?_ | refine Rn.scope hc ?_ | refine Rn.inScope hc ?_))
      refine Rn.reg hc rfl ?_
      simp only [zAS,gd,zAX,rops,fx,zOi,zEl]
      (repeat (first | refine Rn.seq hc ?_ | refine Rn.skip hc ?_ | refine Rn.block hc ?_ | refine Rn.inBlock hc ?_ | refine Rn.scope hc ?_ | refine Rn.inScope hc ?_))
      exact Rn.ret (zAJ rfl ⟨by simp only [zAU,sp_n,Nat.reduceLT],hxx⟩)
    | false =>
      cases h4 : decide ((ro.length : Int) < 1) with
      | true =>
        refine Rn.reg hc rfl ?_
        simp only [zAY,zAS,zAU,zAT,sp_n,Nat.reduceLT,ne_eq,Nat.reduceEqDiff,zNf,gd,nth,zAX,zAG,beqB,rops,fx,ld,fad,lng,pck,zAP,zCZ,zAR,Nat.zero_add,zOi,zEl,tk22,zCY,zDY,un22,b1,b2,h3,h4]
        (repeat (first | refine Rn.seq hc ?_ | refine Rn.skip hc ?_ | refine Rn.block hc ?_ | refine Rn.inBlock hc ?_ | refine Rn.scope hc ?_ | refine Rn.inScope hc ?_))
        refine Rn.zAI hc rfl ?_
        simp only [zAY,zAU,sp_n,Nat.reduceLT,Value.bool.injEq,zEl]
        (repeat (first | refine Rn.seq hc ?_ | refine Rn.skip hc ?_ | refine Rn.block hc ?_ | refine Rn.inBlock hc ?_ | refine Rn.scope hc ?_ | refine Rn.inScope hc ?_))
        refine Rn.reg hc rfl ?_
        simp only [zAS,gd,zAX,rops,fx,zOi,zEl]
        (repeat (first | refine Rn.seq hc ?_ | refine Rn.skip hc ?_ | refine Rn.block hc ?_ | refine Rn.inBlock hc ?_ | refine Rn.scope hc ?_ | refine Rn.inScope hc ?_))
        exact Rn.ret (zAJ rfl ⟨by simp only [zAU,sp_n,Nat.reduceLT],hxx⟩)
      | false =>
        have h5 : decide ((120 : Int) < ro.length) = true := by simpa [badN,h3,h4] using hb2
        refine Rn.reg hc rfl ?_
        simp only [zAY,zAS,zAU,zAT,sp_n,Nat.reduceLT,ne_eq,Nat.reduceEqDiff,zNf,gd,nth,zAX,zAG,beqB,rops,fx,ld,fad,lng,pck,zAP,zCZ,zAR,Nat.zero_add,zOi,zEl,tk22,zCY,zDY,un22,b1,b2,h3,h4,h5]
        (repeat (first | refine Rn.seq hc ?_ | refine Rn.skip hc ?_ | refine Rn.block hc ?_ | refine Rn.inBlock hc ?_ | refine Rn.scope hc ?_ | refine Rn.inScope hc ?_))
        refine Rn.zAI hc rfl ?_
        simp only [zAY,zAU,sp_n,Nat.reduceLT,Value.bool.injEq,zEl]
        (repeat (first | refine Rn.seq hc ?_ | refine Rn.skip hc ?_ | refine Rn.block hc ?_ | refine Rn.inBlock hc ?_ | refine Rn.scope hc ?_ | refine Rn.inScope hc ?_))
        refine Rn.reg hc rfl ?_
        simp only [zAS,gd,zAX,rops,fx,zOi,zEl]
        (repeat (first | refine Rn.seq hc ?_ | refine Rn.skip hc ?_ | refine Rn.block hc ?_ | refine Rn.inBlock hc ?_ | refine Rn.scope hc ?_ | refine Rn.inScope hc ?_))
        exact Rn.ret (zAJ rfl ⟨by simp only [zAU,sp_n,Nat.reduceLT],hxx⟩)
  | false =>
  have h3 : decide ((60 : Int) < st.length) = false := by
    cases h : decide ((60 : Int) < st.length) with
    | false => rfl
    | true => simp only [badN,h,Bool.true_or] at hb2; cases hb2
  have h4 : decide ((ro.length : Int) < 1) = false := by
    cases h : decide ((ro.length : Int) < 1) with
    | false => rfl
    | true => simp only [badN,h,h3,Bool.true_or,Bool.false_or] at hb2; cases hb2
  have h5 : decide ((120 : Int) < ro.length) = false := by simpa only [badN,h3,h4,Bool.false_or] using hb2
  refine Rn.reg hc rfl ?_
  simp only [zAY,zAS,zAU,zAT,sp_n,Nat.reduceLT,ne_eq,Nat.reduceEqDiff,zNf,gd,nth,zAX,zAG,beqB,rops,fx,ld,fad,lng,pck,zAP,zCZ,zAR,Nat.zero_add,zOi,zEl,tk22,zCY,zDY,un22,b1,b2,h3,h4,h5]
  (repeat (first | refine Rn.seq hc ?_ | refine Rn.skip hc ?_ | refine Rn.block hc ?_ | refine Rn.inBlock hc ?_ | refine Rn.scope hc ?_ | refine Rn.inScope hc ?_))
  refine Rn.zAI hc rfl ?_
  simp only [zAY,zAU,sp_n,Nat.reduceLT,Value.bool.injEq,zEl]
  (repeat (first | refine Rn.seq hc ?_ | refine Rn.skip hc ?_ | refine Rn.block hc ?_ | refine Rn.inBlock hc ?_ | refine Rn.scope hc ?_ | refine Rn.inScope hc ?_))
  refine Rn.region hc fun K hK => ?_
  refine Wo.run hc 3 rfl rfl rfl ?_
  simp (maxSteps := 2000000) only [List.drop_zero,List.take_succ_cons,List.take_zero,zAY,zAU,zAT,sp_n,Nat.reduceLT,ne_eq,Nat.reduceEqDiff,not_false_eq_true,gd,zAX,rops,fx,ld,fad,zAR,Nat.zero_add,Option.some.injEq,exists_eq_left',tk22,zCY,b1]
  refine Wo.call hc (by rfl) (by rfl) ⟨by rfl,by rfl⟩ (xs := [.slice sa st.length sc,.func (.func 105) #[] #[.pointer (some ⟨A1.next,0,none⟩)]]) (by rfl) (by rfl) (by rfl) (Con.mono (every_int hs2 ls w0) ?_)
  rintro v A3 ⟨rfl,rfl⟩
  cases hv : st.all (inB m) with
  | false =>
    have he : errL m st ro = 4 := by simp only [errL,hb,hb2,hv]; rfl
    refine Wo.run hc 9 rfl rfl rfl ?_
    simp (maxSteps := 2000000) only [List.drop_zero,List.drop_succ_cons,List.take_succ_cons,List.take_zero,zAY,zAS,zAU,zAT,sp_n,Nat.reduceLT,ne_eq,Nat.reduceEqDiff,not_false_eq_true,gd,nth,zAX,zAG,beqB,rops,fx,pck,Option.some.injEq,exists_eq_left',Nat.reduceAdd,Bool.not_false,ae_not',Bool.not_false]
    refine Wo.done hc rfl (hK _ _ ?_)
    rw [he]
    (repeat (first | refine Rn.seq hc ?_ | refine Rn.skip hc ?_ | refine Rn.block hc ?_ | refine Rn.inBlock hc ?_ | refine Rn.scope hc ?_ | refine Rn.inScope hc ?_))
    refine Rn.zAI hc rfl ?_
    simp only [zAY,zAU,sp_n,Nat.reduceLT,Value.bool.injEq,zEl]
    (repeat (first | refine Rn.seq hc ?_ | refine Rn.skip hc ?_ | refine Rn.block hc ?_ | refine Rn.inBlock hc ?_ | refine Rn.scope hc ?_ | refine Rn.inScope hc ?_))
    refine Rn.reg hc rfl ?_
    simp only [zAS,gd,zAX,rops,fx,zOi,zEl]
    (repeat (first | refine Rn.seq hc ?_ | refine Rn.skip hc ?_ | refine Rn.block hc ?_ | refine Rn.inBlock hc ?_ | refine Rn.scope hc ?_ | refine Rn.inScope hc ?_))
    exact Rn.ret (zAJ rfl ⟨by simp only [zAU,sp_n,Nat.reduceLT],hxx⟩)
  | true =>
    refine Wo.run hc 5 rfl rfl rfl ?_
    simp (maxSteps := 2000000) only [List.drop_zero,List.drop_succ_cons,List.take_succ_cons,List.take_zero,zAY,zAU,zAT,sp_n,Nat.reduceLT,ne_eq,Nat.reduceEqDiff,not_false_eq_true,gd,nth,zAX,zAG,beqB,rops,fx,ld,fad,zAR,Nat.zero_add,Option.some.injEq,exists_eq_left',Nat.reduceAdd,Bool.not_true,ae_not',Bool.not_true,tk22,zDY,b2]
    refine Wo.call hc (by rfl) (by rfl) ⟨by rfl,by rfl⟩ (xs := [.slice ra ro.length rc,.func (.func 105) #[] #[.pointer (some ⟨A1.next,0,none⟩)]]) (by rfl) (by rfl) (by rfl) (Con.mono (every_int hr2 lr w0) ?_)
    rintro v A4 ⟨rfl,rfl⟩
    refine Wo.run hc 3 rfl rfl rfl ?_
    simp (maxSteps := 2000000) only [List.drop_zero,List.drop_succ_cons,List.take_succ_cons,List.take_zero,zAY,zAU,zAT,sp_n,Nat.reduceLT,ne_eq,Nat.reduceEqDiff,not_false_eq_true,gd,nth,zAX,zAG,beqB,rops,fx,pck,Option.some.injEq,exists_eq_left',Nat.reduceAdd,ae_not']
    refine Wo.done hc rfl (hK _ _ ?_)
    (repeat (first | refine Rn.seq hc ?_ | refine Rn.skip hc ?_ | refine Rn.block hc ?_ | refine Rn.inBlock hc ?_ | refine Rn.scope hc ?_ | refine Rn.inScope hc ?_))
    cases hv2 : ro.all (inB m) with
    | false =>
      have he : errL m st ro = 4 := by simp only [errL,hb,hb2,hv,hv2]; rfl
      rw [he]
      refine Rn.zAI hc rfl ?_
      simp only [zAY,zAU,sp_n,Nat.reduceLT,Value.bool.injEq,zEl]
      (repeat (first | refine Rn.seq hc ?_ | refine Rn.skip hc ?_ | refine Rn.block hc ?_ | refine Rn.inBlock hc ?_ | refine Rn.scope hc ?_ | refine Rn.inScope hc ?_))
      refine Rn.reg hc rfl ?_
      simp only [zAS,gd,zAX,rops,fx,zOi,zEl,Bool.not_false,Bool.not_false]
      (repeat (first | refine Rn.seq hc ?_ | refine Rn.skip hc ?_ | refine Rn.block hc ?_ | refine Rn.inBlock hc ?_ | refine Rn.scope hc ?_ | refine Rn.inScope hc ?_))
      exact Rn.ret (zAJ rfl ⟨by simp only [zAU,sp_n,Nat.reduceLT],hxx⟩)
    | true =>
      have he : errL m st ro = 0 := by simp only [errL,hb,hb2,hv,hv2]; rfl
      rw [he]
      refine Rn.zAI hc rfl ?_
      simp only [zAY,zAU,sp_n,Nat.reduceLT,Value.bool.injEq,zEl]
      (repeat (first | refine Rn.seq hc ?_ | refine Rn.skip hc ?_ | refine Rn.block hc ?_ | refine Rn.inBlock hc ?_ | refine Rn.scope hc ?_ | refine Rn.inScope hc ?_))
      refine Rn.reg hc rfl ?_
      simp only [zAS,gd,zAX,rops,fx,zOi,zEl,Bool.not_true,Bool.not_true]
      (repeat (first | refine Rn.seq hc ?_ | refine Rn.skip hc ?_ | refine Rn.block hc ?_ | refine Rn.inBlock hc ?_ | refine Rn.scope hc ?_ | refine Rn.inScope hc ?_))
      exact Rn.ret (zAJ rfl ⟨by simp only [zAU,sp_n,Nat.reduceLT],hxx⟩)
end Go.Proofs.Ytdaljohmfnfgiaa
namespace Go.Proofs.Ytdaljohmfnfgiaa
open Go Go.RowKit Go.Proofs.Ytdaljohmfnfgiaa.Canon
set_option maxRecDepth 20000
structure Las where
  m : Int
  sa : Option Addr
  sc : Nat
  st : List Int
  ra : Option Addr
  rc : Nat
  ro : List Int
def Las.ok (x : Las) (A : AHeap) : Prop := Ints A x.sa 0 A.next x.st ∧ Ints A x.ra 0 A.next x.ro ∧ x.st.length < 4611686018427387904 ∧ x.ro.length < 4611686018427387904
theorem Las.ok.nx {x : Las} {A B : AHeap} (h : x.ok A) (hx : Nx A.next A B) : x.ok B :=
  ⟨(h.1.nx hx (Nat.le_refl _)).mono (Nat.le_refl _) hx.next,(h.2.1.nx hx (Nat.le_refl _)).mono (Nat.le_refl _) hx.next,h.2.2⟩
def Las.err (x : Las) : Int := errL x.m x.st x.ro
def zBW : Las := ⟨0,none,0,[],none,0,[]⟩
def LRow (A : AHeap) (a : Option Addr) (l : List Las) : Prop := ∀ i,i < l.length → (l.getD i zBW).ok A ∧ ∃ b o,a = some ⟨b,o,none⟩ ∧ b < A.next ∧ cl A b (o + i * 3) = some (.int .i64 (l.getD i zBW).m) ∧ cl A b (o + i * 3 + 1) = some (.slice (l.getD i zBW).sa (l.getD i zBW).st.length (l.getD i zBW).sc) ∧ cl A b (o + i * 3 + 2) = some (.slice (l.getD i zBW).ra (l.getD i zBW).ro.length (l.getD i zBW).rc)
theorem LRow.nx {A B : AHeap} {a : Option Addr} {l : List Las} (h : LRow A a l) (hx : Nx A.next A B) : LRow B a l := fun i hi => by
  obtain ⟨h1,b,o,h2,h3,h4,h5,h6⟩ := h i hi
  exact ⟨h1.nx hx,b,o,h2,by have := hx.next; omega,by rw [hx.cl h3]; exact h4,by rw [hx.cl h3]; exact h5,by rw [hx.cl h3]; exact h6⟩
def clash (m : Int) (l : List Las) : Int := if l.all (fun x => decide (x.m = m)) = true then 0 else 7
def errs : List Las → List Las → Int
  | all,[] => clash (all.getD 0 zBW).m all
  | all,x :: l => if x.err = 0 then errs all l else x.err
theorem errs_drop (all : List Las) {l : List Las} {i : Nat} (hi : i < l.length) : errs all (l.drop i) = if (l.getD i zBW).err = 0 then errs all (l.drop (i + 1)) else (l.getD i zBW).err := by
  rw [List.drop_eq_getElem_cons hi,errs,List.getD_eq_getElem?_getD,List.getElem?_eq_getElem hi]
  rfl
theorem put24 {A : AHeap} (hw : WF A) {v0 v1 v2 : Value} (h : [v0,v1,v2].all zAA = true) : ∃ A2,sts (A.push (.cells #[.int .i64 0,.slice none 0 0,.slice none 0 0] 24)) A.next 0 [v0,v1,v2] = some A2 ∧ Nx A.next A A2 ∧ A2.next = A.next + 1 ∧ cl A2 A.next 0 = some v0 ∧ cl A2 A.next 1 = some v1 ∧ cl A2 A.next 2 = some v2 := by
  have hx1 : Nx A.next A (A.push (.cells #[.int .i64 0,.slice none 0 0,.slice none 0 0] 24)) := (Nx.refl hw _).push (Nat.le_refl _) _
  obtain ⟨A2,c2,q1,q2,q3,q4⟩ := sts_upd (l := [v0,v1,v2]) (o := 0) (zAQ A (.cells #[.int .i64 0,.slice none 0 0,.slice none 0 0] 24)) rfl (by simp) h
  exact ⟨A2,q1,hx1.trans (q2.nx hx1.wf (Nat.le_refl _)),q2.next,by rw [q2.cl,q4]; rfl,by rw [q2.cl,q4]; rfl,by rw [q2.cl,q4]; rfl⟩
theorem check_all {A : AHeap} (hw : WF A) {a : Option Addr} {c : Nat} {l : List Las} (hl : LRow A a l) (hlen : l.length < 4611686018427387904) :
    Con Try.prog 68 [.slice a l.length c] A (fun v A1 => v = .int .i64 (errs l l) ∧ Nx A.next A A1) := by
  refine zAM hc Try.func68 rfl (Nat.le_of_ble_eq_true rfl) ?_
  rw [s_in1]
  (repeat (first | refine Rn.seq hc ?_ | refine Rn.skip hc ?_ | refine Rn.block hc ?_ | refine Rn.inBlock hc ?_ | refine Rn.scope hc ?_ | refine Rn.inScope hc ?_))
  refine Rn.reg hc rfl ?_
  simp only [zAS,gd,zAX,rops,fx,zOi,zEl,show Try.f68.ntmps = 34 from rfl]
  (repeat (first | refine Rn.seq hc ?_ | refine Rn.skip hc ?_ | refine Rn.block hc ?_ | refine Rn.inBlock hc ?_ | refine Rn.scope hc ?_ | refine Rn.inScope hc ?_))
  refine Rn.reg hc rfl ?_
  simp only [zAY,zAS,zAU,zAT,sp_n,Nat.reduceLT,ne_eq,Nat.reduceEqDiff,zNf,gd,zAX,rops,fx,lng,zOi,zEl,un46]
  (repeat (first | refine Rn.seq hc ?_ | refine Rn.skip hc ?_ | refine Rn.block hc ?_ | refine Rn.inBlock hc ?_ | refine Rn.scope hc ?_ | refine Rn.inScope hc ?_))
  refine Rn.loopI hc (I := fun k s A' => ∃ i,i ≤ l.length ∧ k = l.length - i ∧ Nx A.next A A' ∧ s.n = 34 ∧ sget s 0 = .slice a l.length c ∧ sget s 8 = .slice a l.length c ∧ sget s 9 = .int .i64 (l.length : Int) ∧ sget s 10 = .int .i64 (i : Int) ∧ errs l l = errs l (l.drop i))
    (n := l.length) ⟨0,by omega,rfl,Nx.refl hw _,by simp only [sp_n],by simp only [zAU,zAT,Nat.reduceLT,ne_eq,Nat.reduceEqDiff,zNf],by simp only [zAU,zAT,sp_n,Nat.reduceLT,ne_eq,Nat.reduceEqDiff,zNf],by simp only [zAU,zAT,sp_n,Nat.reduceLT,ne_eq,Nat.reduceEqDiff,zNf],by simp only [zAU,sp_n,Nat.reduceLT]; rfl,rfl⟩ ?_
  rintro k s A' ⟨i,hi,rfl,hA,hn,s0,s8,s9,s10,hall⟩ ih
  (repeat (first | refine Rn.seq hc ?_ | refine Rn.skip hc ?_ | refine Rn.block hc ?_ | refine Rn.inBlock hc ?_ | refine Rn.scope hc ?_ | refine Rn.inScope hc ?_))
  by_cases hlt : i < l.length
  · have hd : decide ((i : Int) < (l.length : Int)) = true := by simp; omega
    obtain ⟨hok,b,o,rfl,hbb,c0,c1,c2⟩ := (hl.nx hA) i hlt
    rw [errs_drop l hlt] at hall
    obtain ⟨A2,p1,hx2,hn2,d0,d1,d2⟩ := put24 hA.wf (v0 := .int .i64 (l.getD i zBW).m) (v1 := .slice (l.getD i zBW).sa (l.getD i zBW).st.length (l.getD i zBW).sc) (v2 := .slice (l.getD i zBW).ra (l.getD i zBW).ro.length (l.getD i zBW).rc) rfl
    have hok2 := hok.nx hx2
    refine Rn.reg hc rfl ?_
    simp only [zAY,gd,zAX,rops,fx,zAP,zOi,zEl,s9,s10,hd]
    (repeat (first | refine Rn.seq hc ?_ | refine Rn.skip hc ?_ | refine Rn.block hc ?_ | refine Rn.inBlock hc ?_ | refine Rn.scope hc ?_ | refine Rn.inScope hc ?_))
    refine Rn.zAI hc rfl ?_
    simp only [zAY,zAU,Nat.reduceLT,Value.bool.injEq,zEl,hn]
    (repeat (first | refine Rn.seq hc ?_ | refine Rn.skip hc ?_ | refine Rn.block hc ?_ | refine Rn.inBlock hc ?_ | refine Rn.scope hc ?_ | refine Rn.inScope hc ?_))
    refine Rn.reg hc rfl ?_
    simp only [zAY,zAU,zAT,sp_n,zAN,Nat.reduceLT,ne_eq,Nat.reduceEqDiff,zNf,gd,zAX,rops,fx,ld,str,idx,zAR,cls,Nat.zero_add,zOi,zEl,Value.cells,Nat.reduceAdd,tk24,eo46,hn,s8,s10,zAK hlt,c0,c1,c2,ze24,p1,List.size_toArray,List.length_cons,List.length_nil,Nat.beq_refl]
    (repeat (first | refine Rn.seq hc ?_ | refine Rn.skip hc ?_ | refine Rn.block hc ?_ | refine Rn.inBlock hc ?_ | refine Rn.scope hc ?_ | refine Rn.inScope hc ?_))
    refine Rn.region hc fun K hK => ?_
    refine Wo.run hc 1 rfl rfl rfl ?_
    simp (maxSteps := 2000000) only [List.drop_zero,List.take_succ_cons,List.take_zero,zAY,zAU,sp_n,Nat.reduceLT,gd,zAX,rops,fx,ld,zAR,cls,Nat.zero_add,Option.some.injEq,exists_eq_left',Nat.reduceAdd,tk24,hn,d0,d1,d2]
    refine Wo.call hc (by rfl) (by rfl) ⟨by rfl,by rfl⟩ (xs := [.agg #[.int .i64 (l.getD i zBW).m,.slice (l.getD i zBW).sa (l.getD i zBW).st.length (l.getD i zBW).sc,.slice (l.getD i zBW).ra (l.getD i zBW).ro.length (l.getD i zBW).rc]]) (by rfl) (by rfl) (by simp only [zAY,zAU,sp_n,Nat.reduceLT,List.map_cons,List.map_nil,List.nil_append,List.append_nil,hn]) (Con.mono (check_one hx2.wf hok2.1 hok2.2.1 hok2.2.2.1 hok2.2.2.2) ?_)
    rintro v A3 ⟨rfl,h3⟩
    refine Wo.run hc 1 rfl rfl rfl ?_
    simp (maxSteps := 2000000) only [List.drop_zero,List.drop_succ_cons,List.take_succ_cons,List.take_zero,zAY,zAU,sp_n,Nat.reduceLT,gd,zAX,rops,fx,Option.some.injEq,exists_eq_left',Nat.reduceAdd,hn]
    refine Wo.done hc rfl (hK _ _ ?_)
    clear hK
    (repeat (first | refine Rn.seq hc ?_ | refine Rn.skip hc ?_ | refine Rn.block hc ?_ | refine Rn.inBlock hc ?_ | refine Rn.scope hc ?_ | refine Rn.inScope hc ?_))
    have hA3 : Nx A.next A A3 := hA.trans ((hx2.le hA.next).trans (h3.le (by have := hx2.next; have := hA.next; omega)))
    by_cases he : (l.getD i zBW).err = 0
    · rw [if_pos he] at hall
      have hd2 : (!decide (errL (l.getD i zBW).m (l.getD i zBW).st (l.getD i zBW).ro = 0)) = false := by
        unfold Las.err at he
        rw [decide_eq_true he]; rfl
      refine Rn.reg hc rfl ?_
      simp only [zAY,zAS,zAU,sp_n,Nat.reduceLT,gd,zAX,rops,fx,zBP,zOi,zEl,hn,hd2]
      (repeat (first | refine Rn.seq hc ?_ | refine Rn.skip hc ?_ | refine Rn.block hc ?_ | refine Rn.inBlock hc ?_ | refine Rn.scope hc ?_ | refine Rn.inScope hc ?_))
      refine Rn.zAI hc rfl ?_
      simp only [zAY,zAU,sp_n,Nat.reduceLT,Value.bool.injEq,zEl,hn]
      (repeat (first | refine Rn.seq hc ?_ | refine Rn.skip hc ?_ | refine Rn.block hc ?_ | refine Rn.inBlock hc ?_ | refine Rn.scope hc ?_ | refine Rn.inScope hc ?_))
      refine Rn.reg hc rfl ?_
      simp only [zAY,zAS,zAU,zAT,sp_n,Nat.reduceLT,ne_eq,Nat.reduceEqDiff,zNf,gd,zAX,rops,fx,zAE,zOi,zEl,hn,s10,zBY (show i < 9223372036854775807 by omega)]
      (repeat (first | refine Rn.seq hc ?_ | refine Rn.skip hc ?_ | refine Rn.block hc ?_ | refine Rn.inBlock hc ?_ | refine Rn.scope hc ?_ | refine Rn.inScope hc ?_))
      exact ih _ _ _ (by omega) ⟨i + 1,by omega,rfl,hA3,by simp only [sp_n,hn],by simp only [zAT,ne_eq,Nat.reduceEqDiff,zNf,s0],by simp only [zAT,ne_eq,Nat.reduceEqDiff,zNf,s8],by simp only [zAT,ne_eq,Nat.reduceEqDiff,zNf,s9],by simp only [zAU,sp_n,Nat.reduceLT,hn],hall⟩
    · rw [if_neg he] at hall
      have hd2 : (!decide (errL (l.getD i zBW).m (l.getD i zBW).st (l.getD i zBW).ro = 0)) = true := by
        unfold Las.err at he
        rw [decide_eq_false he]; rfl
      refine Rn.reg hc rfl ?_
      simp only [zAY,zAS,zAU,sp_n,Nat.reduceLT,gd,zAX,rops,fx,zBP,zOi,zEl,hn,hd2]
      (repeat (first | refine Rn.seq hc ?_ | refine Rn.skip hc ?_ | refine Rn.block hc ?_ | refine Rn.inBlock hc ?_ | refine Rn.scope hc ?_ | refine Rn.inScope hc ?_))
      refine Rn.zAI hc rfl ?_
      simp only [zAY,zAU,sp_n,Nat.reduceLT,Value.bool.injEq,zEl,hn]
      (repeat (first | refine Rn.seq hc ?_ | refine Rn.skip hc ?_ | refine Rn.block hc ?_ | refine Rn.inBlock hc ?_ | refine Rn.scope hc ?_ | refine Rn.inScope hc ?_))
      refine Rn.reg hc rfl ?_
      simp only [zAY,zAU,zAT,sp_n,Nat.reduceLT,ne_eq,Nat.reduceEqDiff,zNf,gd,zAX,rops,fx,zOi,zEl,hn]
      (repeat (first | refine Rn.seq hc ?_ | refine Rn.skip hc ?_ | refine Rn.block hc ?_ | refine Rn.inBlock hc ?_ | refine Rn.scope hc ?_ | refine Rn.inScope hc ?_))
      refine Rn.ret (zAJ rfl ⟨?_,hA3⟩)
      simp only [zAU,sp_n,Nat.reduceLT,hn]
      rw [hall]
      rfl
  · have hd : decide ((i : Int) < (l.length : Int)) = false := by simp; omega
    have hil : i = l.length := by omega
    subst hil
    rw [List.drop_length,errs] at hall
    rw [hall]
    clear hall ih
    refine Rn.reg hc rfl ?_
    simp only [zAY,gd,zAX,rops,fx,zAP,zOi,zEl,s9,s10,hd]
    (repeat (first | refine Rn.seq hc ?_ | refine Rn.skip hc ?_ | refine Rn.block hc ?_ | refine Rn.inBlock hc ?_ | refine Rn.scope hc ?_ | refine Rn.inScope hc ?_))
    refine Rn.zAI hc rfl ?_
    simp only [zAY,zAU,Nat.reduceLT,Value.bool.injEq,zEl,hn]
    (repeat (first | refine Rn.seq hc ?_ | refine Rn.skip hc ?_ | refine Rn.block hc ?_ | refine Rn.inBlock hc ?_ | refine Rn.scope hc ?_ | refine Rn.inScope hc ?_))
    refine Rn.exit hc rfl ?_
    (repeat (first | refine Rn.seq hc ?_ | refine Rn.skip hc ?_ | refine Rn.block hc ?_ | refine Rn.inBlock hc ?_ | refine Rn.scope hc ?_ | refine Rn.inScope hc ?_))
    refine Rn.reg hc rfl ?_
    simp only [zAY,zAS,zAU,zAT,sp_n,Nat.reduceLT,ne_eq,Nat.reduceEqDiff,zNf,gd,zAX,rops,fx,lng,zOi,zEl,un46,hn,s0]
    (repeat (first | refine Rn.seq hc ?_ | refine Rn.skip hc ?_ | refine Rn.block hc ?_ | refine Rn.inBlock hc ?_ | refine Rn.scope hc ?_ | refine Rn.inScope hc ?_))
    refine Rn.loopI hc (I := fun k s A' => ∃ i,i ≤ l.length ∧ k = l.length - i ∧ Nx A.next A A' ∧ s.n = 34 ∧ sget s 0 = .slice a l.length c ∧ sget s 20 = .slice a l.length c ∧ sget s 21 = .int .i64 (l.length : Int) ∧ sget s 22 = .int .i64 (i : Int) ∧ (l.take i).all (fun x => decide (x.m = (l.getD 0 zBW).m)) = true)
      (n := l.length) ⟨0,by omega,rfl,hA,by simp only [sp_n,hn],by simp only [zAT,ne_eq,Nat.reduceEqDiff,zNf,s0],by simp only [zAU,zAT,sp_n,Nat.reduceLT,ne_eq,Nat.reduceEqDiff,zNf,hn],by simp only [zAU,zAT,sp_n,Nat.reduceLT,ne_eq,Nat.reduceEqDiff,zNf,hn],by simp only [zAU,sp_n,Nat.reduceLT,hn]; rfl,rfl⟩ ?_
    clear hA hn s0 s8 s9 s10 hd
    clear s A'
    rintro k s A' ⟨i,hi,rfl,hA,hn,s0,s8,s9,s10,hall⟩ ih
    (repeat (first | refine Rn.seq hc ?_ | refine Rn.skip hc ?_ | refine Rn.block hc ?_ | refine Rn.inBlock hc ?_ | refine Rn.scope hc ?_ | refine Rn.inScope hc ?_))
    by_cases hlt : i < l.length
    · have hd : decide ((i : Int) < (l.length : Int)) = true := by simp; omega
      obtain ⟨hok,b,o,rfl,hbb,c0,c1,c2⟩ := (hl.nx hA) i hlt
      obtain ⟨_,b',o',e,_,z0,z1,z2⟩ := (hl.nx hA) 0 (by omega)
      cases e
      obtain ⟨A2,p1,hx2,hn2,d0,d1,d2⟩ := put24 hA.wf (v0 := .int .i64 (l.getD i zBW).m) (v1 := .slice (l.getD i zBW).sa (l.getD i zBW).st.length (l.getD i zBW).sc) (v2 := .slice (l.getD i zBW).ra (l.getD i zBW).ro.length (l.getD i zBW).rc) rfl
      have z0' : cl A2 b (o + 0 * 3) = _ := (hx2.cl hbb _).trans z0
      rw [Nat.zero_mul,Nat.add_zero] at z0'
      have hA2 : Nx A.next A A2 := hA.trans (hx2.le hA.next)
      have n0 : nlen (.int .i64 0) l.length = some 0 := zAK (j := 0) (by omega)
      refine Rn.reg hc rfl ?_
      simp only [zAY,gd,zAX,rops,fx,zAP,zOi,zEl,s9,s10,hd]
      (repeat (first | refine Rn.seq hc ?_ | refine Rn.skip hc ?_ | refine Rn.block hc ?_ | refine Rn.inBlock hc ?_ | refine Rn.scope hc ?_ | refine Rn.inScope hc ?_))
      refine Rn.zAI hc rfl ?_
      simp only [zAY,zAU,Nat.reduceLT,Value.bool.injEq,zEl,hn]
      (repeat (first | refine Rn.seq hc ?_ | refine Rn.skip hc ?_ | refine Rn.block hc ?_ | refine Rn.inBlock hc ?_ | refine Rn.scope hc ?_ | refine Rn.inScope hc ?_))
      refine Rn.reg hc rfl ?_
      simp only [zAY,zAU,zAT,sp_n,zAN,Nat.reduceLT,ne_eq,Nat.reduceEqDiff,zNf,gd,zAX,rops,fx,ld,str,idx,zAR,cls,Nat.zero_add,zOi,zEl,Value.cells,Nat.reduceAdd,tk24,eo46,hn,s8,s10,zAK hlt,c0,c1,c2,ze24,p1,List.size_toArray,List.length_cons,List.length_nil,Nat.beq_refl]
      (repeat (first | refine Rn.seq hc ?_ | refine Rn.skip hc ?_ | refine Rn.block hc ?_ | refine Rn.inBlock hc ?_ | refine Rn.scope hc ?_ | refine Rn.inScope hc ?_))
      by_cases hv : (l.getD i zBW).m = (l.getD 0 zBW).m
      · have hd3 : (!decide ((l.getD i zBW).m = (l.getD 0 zBW).m)) = false := by rw [decide_eq_true hv]; rfl
        refine Rn.drawnR hc hx (by kernel_rfl) (by rfl) (by kernel_rfl) ?_ ?_
        · simp only [rdV,VQ.int,VQ.bool,VQ.ptr,VQ.slice,zAB,zAY,zAS,zAU,zAT,sp_n,Nat.reduceLT,ne_eq,Nat.reduceEqDiff,zNf,gd,zAX,fx,ld,fad,idx,zBP,zAR,Nat.zero_add,Nat.add_zero,Nat.reduceAdd,and_self,tk3,fo24_0,eo46,hn,s0,n0,d0,z0',Nat.zero_mul,hd3,List.length_cons,List.length_nil]
        simp only [zAB,zAY,zAS,zAU,zAT,sp_n,Nat.reduceLT,ne_eq,Nat.reduceEqDiff,zNf,gd,zAX,rops,fx,ld,fad,idx,zBP,zAR,Nat.zero_add,Nat.add_zero,zOi,zEl,Nat.reduceAdd,tk3,fo24_0,eo46,hn,s0,n0,d0,z0',Nat.zero_mul,hd3,List.length_cons,List.length_nil]
        (repeat (first | refine Rn.seq hc ?_ | refine Rn.skip hc ?_ | refine Rn.block hc ?_ | refine Rn.inBlock hc ?_ | refine Rn.scope hc ?_ | refine Rn.inScope hc ?_))
        refine Rn.zAI hc rfl ?_
        simp only [zAY,zAU,sp_n,Nat.reduceLT,Value.bool.injEq,zEl,hn]
        (repeat (first | refine Rn.seq hc ?_ | refine Rn.skip hc ?_ | refine Rn.block hc ?_ | refine Rn.inBlock hc ?_ | refine Rn.scope hc ?_ | refine Rn.inScope hc ?_))
        refine Rn.reg hc rfl ?_
        simp only [zAY,zAS,zAU,zAT,sp_n,Nat.reduceLT,ne_eq,Nat.reduceEqDiff,zNf,gd,zAX,rops,fx,zAE,zOi,zEl,hn,s10,zBY (show i < 9223372036854775807 by omega)]
        (repeat (first | refine Rn.seq hc ?_ | refine Rn.skip hc ?_ | refine Rn.block hc ?_ | refine Rn.inBlock hc ?_ | refine Rn.scope hc ?_ | refine Rn.inScope hc ?_))
        exact ih _ _ _ (by omega) ⟨i + 1,by omega,rfl,Nx.bump hA2 _,by simp only [sp_n,hn],by simp only [zAT,ne_eq,Nat.reduceEqDiff,zNf,s0],by simp only [zAT,ne_eq,Nat.reduceEqDiff,zNf,s8],by simp only [zAT,ne_eq,Nat.reduceEqDiff,zNf,s9],by simp only [zAU,sp_n,Nat.reduceLT,hn],by rw [all_take _ _ zBW hlt,hall,decide_eq_true hv]; rfl⟩
      · have hd3 : (!decide ((l.getD i zBW).m = (l.getD 0 zBW).m)) = true := by rw [decide_eq_false hv]; rfl
        refine Rn.drawnR hc hx (by kernel_rfl) (by rfl) (by kernel_rfl) ?_ ?_
        · simp only [rdV,VQ.int,VQ.bool,VQ.ptr,VQ.slice,zAB,zAY,zAS,zAU,zAT,sp_n,Nat.reduceLT,ne_eq,Nat.reduceEqDiff,zNf,gd,zAX,fx,ld,fad,idx,zBP,zAR,Nat.zero_add,Nat.add_zero,Nat.reduceAdd,and_self,tk3,fo24_0,eo46,hn,s0,n0,d0,z0',Nat.zero_mul,hd3,List.length_cons,List.length_nil]
        simp only [zAB,zAY,zAS,zAU,zAT,sp_n,Nat.reduceLT,ne_eq,Nat.reduceEqDiff,zNf,gd,zAX,rops,fx,ld,fad,idx,zBP,zAR,Nat.zero_add,Nat.add_zero,zOi,zEl,Nat.reduceAdd,tk3,fo24_0,eo46,hn,s0,n0,d0,z0',Nat.zero_mul,hd3,List.length_cons,List.length_nil]
        (repeat (first | refine Rn.seq hc ?_ | refine Rn.skip hc ?_ | refine Rn.block hc ?_ | refine Rn.inBlock hc ?_ | refine Rn.scope hc ?_ | refine Rn.inScope hc ?_))
        refine Rn.zAI hc rfl ?_
        simp only [zAY,zAU,sp_n,Nat.reduceLT,Value.bool.injEq,zEl,hn]
        (repeat (first | refine Rn.seq hc ?_ | refine Rn.skip hc ?_ | refine Rn.block hc ?_ | refine Rn.inBlock hc ?_ | refine Rn.scope hc ?_ | refine Rn.inScope hc ?_))
        refine Rn.reg hc rfl ?_
        simp only [zAS,gd,zAX,rops,fx,zOi,zEl]
        (repeat (first | refine Rn.seq hc ?_ | refine Rn.skip hc ?_ | refine Rn.block hc ?_ | refine Rn.inBlock hc ?_ | refine Rn.scope hc ?_ | refine Rn.inScope hc ?_))
        refine Rn.ret (zAJ rfl ⟨?_,Nx.bump hA2 _⟩)
        simp only [zAU,sp_n,Nat.reduceLT,hn]
        have : l.all (fun x => decide (x.m = (l.getD 0 zBW).m)) = false := all_not _ _ zBW hlt (by rw [decide_eq_false hv])
        unfold clash
        rw [this]
        rfl
    · have hd : decide ((i : Int) < (l.length : Int)) = false := by simp; omega
      have hil : i = l.length := by omega
      subst hil
      rw [List.take_length] at hall
      refine Rn.reg hc rfl ?_
      simp only [zAY,gd,zAX,rops,fx,zAP,zOi,zEl,s9,s10,hd]
      (repeat (first | refine Rn.seq hc ?_ | refine Rn.skip hc ?_ | refine Rn.block hc ?_ | refine Rn.inBlock hc ?_ | refine Rn.scope hc ?_ | refine Rn.inScope hc ?_))
      refine Rn.zAI hc rfl ?_
      simp only [zAY,zAU,Nat.reduceLT,Value.bool.injEq,zEl,hn]
      (repeat (first | refine Rn.seq hc ?_ | refine Rn.skip hc ?_ | refine Rn.block hc ?_ | refine Rn.inBlock hc ?_ | refine Rn.scope hc ?_ | refine Rn.inScope hc ?_))
      refine Rn.exit hc rfl ?_
      (repeat (first | refine Rn.seq hc ?_ | refine Rn.skip hc ?_ | refine Rn.block hc ?_ | refine Rn.inBlock hc ?_ | refine Rn.scope hc ?_ | refine Rn.inScope hc ?_))
      refine Rn.reg hc rfl ?_
      simp only [zAS,gd,zAX,rops,fx,zOi,zEl]
      (repeat (first | refine Rn.seq hc ?_ | refine Rn.skip hc ?_ | refine Rn.block hc ?_ | refine Rn.inBlock hc ?_ | refine Rn.scope hc ?_ | refine Rn.inScope hc ?_))
      refine Rn.ret (zAJ rfl ⟨?_,hA⟩)
      simp only [zAU,sp_n,Nat.reduceLT,hn]
      unfold clash
      rw [hall]
      rfl
end Go.Proofs.Ytdaljohmfnfgiaa
namespace Go.Proofs.Ytdaljohmfnfgiaa
open Go Go.RowKit Go.Proofs.Ytdaljohmfnfgiaa.Canon
set_option maxRecDepth 20000
def cnt (v : Int) : List Int → Nat
  | [] => 0
  | x :: l => (if x = v then 1 else 0) + cnt v l
end Go.Proofs.Ytdaljohmfnfgiaa
namespace Go.Proofs.Ytdaljohmfnfgiaa
open Go Go.RowKit Go.Proofs.Ytdaljohmfnfgiaa.Canon
set_option maxRecDepth 20000
theorem asl_hi {A : AHeap} {a : Option Addr} {c lo hi : Nat} {l : List Int} (h : Ints A a lo hi l) (hs : Sl A a lo) (hc' : l.length ≤ c) {n : Nat} (hn : n ≤ l.length) :
    ∃ a' c',asl Try.prog 22 (.slice a l.length c) none (some (.int .i64 (n : Int))) none A = some (.slice a' (l.take n).length c',A) ∧ Ints A a' lo hi (l.take n) := by
  obtain ⟨_,i,z,hinf,_,_,_,hsz,_⟩ := elB_eq el22
  have hlen : (l.take n).length = n := by simp; omega
  have hb1 : zBS (some (.int .i64 (n : Int))) l.length = some n := by simp [zBS]
  have hb0 : ∀ d,zBS none d = some d := fun _ => rfl
  have t1 : Nat.ble 0 n = true := Nat.ble_eq_true_of_le (Nat.zero_le _)
  have t2 : Nat.ble n c = true := Nat.ble_eq_true_of_le (by omega)
  have t3 : Nat.ble c c = true := Nat.ble_eq_true_of_le (Nat.le_refl _)
  have hsub : ∀ {b o : Nat},a = some ⟨b,o,none⟩ → Ints A (some ⟨b,o,none⟩) lo hi (l.take n) := fun {b o} e i hi' => by
    obtain ⟨b',o',q1,q2,q3,q4⟩ := h i (by omega)
    rw [e] at q1
    cases q1
    refine ⟨_,_,rfl,q2,q3,?_⟩
    rw [q4]
    simp only [List.getD_eq_getElem?_getD,List.getElem?_take]
    rw [if_pos (by omega)]
  rw [hlen]
  cases a with
  | none =>
    have h00 := h.some
    refine ⟨none,c,?_,fun i hi' => by omega⟩
    simp only [asl,un22,hinf,hb0,hb1,t2,Option.isSome_none,Bool.not_false,Bool.true_or,Nat.sub_zero]
    rw [t1,t3]
  | some x =>
    obtain ⟨hsp,_,y,hy,hg⟩ := hs x rfl
    obtain ⟨b,o,sp⟩ := x
    simp only at hsp hy
    subst hsp
    obtain ⟨ob,g,zz⟩ := y
    rcases hg with hg | ⟨hg,_,hz⟩
    · simp only at hg
      subst hg
      refine ⟨if c = 0 then some ⟨b,o,none⟩ else some ((⟨b,o,none⟩ : Addr).add (0 * i.size)),c,?_,?_⟩
      · simp only [asl,un22,hinf,hb0,hb1,t2,Option.isSome_none,Bool.not_false,Bool.true_or,Nat.sub_zero,hy]
        rw [t1,t3]
        by_cases hc0 : c = 0
        · simp only [hc0,if_pos]
        · simp only [hc0,if_false]
      · split
        · exact hsub rfl
        · rw [Nat.zero_mul]
          exact hsub rfl
    · simp only at hg hz
      subst hg hz
      have hz : Nat.beq 1 i.size = true := by rw [hsz]; rfl
      by_cases hc0 : c = 0
      · subst hc0
        have hn0 : n = 0 := by omega
        subst hn0
        refine ⟨some ⟨b,o,none⟩,0,?_,hsub rfl⟩
        simp only [asl,un22,hinf,hb0,hb1,Option.isSome_none,Bool.not_false,Bool.true_or,Nat.sub_zero,hy,hz]
        rfl
      · have hcb : Nat.beq c 0 = false := by
          cases hh : Nat.beq c 0 with
          | false => rfl
          | true => exact absurd (Nat.eq_of_beq_eq_true hh) hc0
        refine ⟨some ((⟨b,o,none⟩ : Addr).add (0 * i.size)),c,?_,by rw [Nat.zero_mul]; exact hsub rfl⟩
        simp only [asl,un22,hinf,hb0,hb1,t2,Option.isSome_none,Bool.not_false,Bool.true_or,Nat.sub_zero,hy,hz]
        rw [t1,t3]
        simp only [hcb]
end Go.Proofs.Ytdaljohmfnfgiaa
namespace Go.Proofs.Ytdaljohmfnfgiaa
open Go Go.RowKit Go.Proofs.Ytdaljohmfnfgiaa.Canon
set_option maxRecDepth 20000
section
variable {ρ : Operand → Value} {d : Option Tmp} {ty : TypeId} {pos : String} {af : Array Edge} {gu : Option (Nat × Bool)} {A : AHeap}
theorem so46_1 : sof Try.prog 46 1 = .mk (fun k => some (k * 3,3)) 3 [.int .i64 0,.slice none 0 0,.slice none 0 0] := by kernel_rfl
theorem et46 : elemT Try.prog 46 = some 24 := by kernel_rfl
theorem bs46_1 {x : Tmp} (h : (ρ (.tmp x)).cells.size = 3) : zAL Try.prog ρ ⟨d,.buildSlice 46 1 #[(0,.tmp x)],ty,pos,af,gu⟩ A = some (.slice (some ⟨A.next,0,none⟩) 1 1,A.push (.cells (ρ (.tmp x)).cells 24)) := by
  refine zCS (r := (ρ (.tmp x)).cells.toList) (by rfl) so46_1 et46 rfl ?_
  simp [fbld,h]
end
theorem errs_one (x : Las) : errs [x] [x] = x.err := by
  unfold errs
  split
  · rename_i h
    rw [h]
    simp [errs,clash]
  · rfl
theorem errL_pos {m : Int} {st ro : List Int} (h : errL m st ro = 0) : 0 < ro.length := by
  refine Nat.pos_of_ne_zero fun h0 => ?_
  have : badN st.length ro.length = true := by simp [badN,h0]
  unfold errL at h
  rw [if_pos this] at h
  split at h <;> cases h
end Go.Proofs.Ytdaljohmfnfgiaa
namespace Go.Proofs.Ytdaljohmfnfgiaa
open Go Go.RowKit Go.Proofs.Ytdaljohmfnfgiaa.Canon
set_option maxRecDepth 20000
section
variable {ρ : Operand → Value} {d : Option Tmp} {ty : TypeId} {pos : String} {af : Array Edge} {gu : Option (Nat × Bool)} {A : AHeap}
end
end Go.Proofs.Ytdaljohmfnfgiaa
namespace Go.Proofs.Ytdaljohmfnfgiaa
open Go Go.RowKit Go.Proofs.Ytdaljohmfnfgiaa.Canon
set_option maxRecDepth 20000
theorem errL_len {m : Int} {st ro : List Int} (h : errL m st ro = 0) : st.length ≤ 60 ∧ ro.length ≤ 120 := by
  unfold errL at h
  split at h
  · cases h
  · split at h
    · cases h
    · rename_i h2
      simp [badN] at h2
      omega
end Go.Proofs.Ytdaljohmfnfgiaa
namespace Go.Proofs.Ytdaljohmfnfgiaa
open Go Go.RowKit Go.Proofs.Ytdaljohmfnfgiaa.Canon
set_option maxRecDepth 20000
section
variable {ρ : Operand → Value} {d : Option Tmp} {ty : TypeId} {pos : String} {af : Array Edge} {gu : Option (Nat × Bool)} {A : AHeap}
end
end Go.Proofs.Ytdaljohmfnfgiaa
namespace Go.Proofs.Ytdaljohmfnfgiaa
open Go Go.RowKit Go.Proofs.Ytdaljohmfnfgiaa.Canon
set_option maxRecDepth 20000
structure Kb (bN : Nat) (A B : AHeap) : Prop where
  next : A.next ≤ B.next
  wf : WF B
  keep : ∀ b,b < A.next → b ≠ bN → Canon.look B.objs b = Canon.look A.objs b
theorem Kb.of_nx {A B : AHeap} (bN : Nat) (h : Nx A.next A B) : Kb bN A B := ⟨h.next,h.wf,fun b hb _ => h.keep b hb⟩
theorem Kb.of_upd {A B : AHeap} {bN : Nat} {c : Array Value} (hw : WF A) (h : Upd A bN c B) : Kb bN A B := ⟨Nat.le_of_eq h.next.symm,(h.nx hw (Nat.zero_le _)).wf,fun b _ hb => h.off b hb⟩
theorem Kb.trans {bN : Nat} {A B C : AHeap} (h : Kb bN A B) (k : Kb bN B C) : Kb bN A C := ⟨Nat.le_trans h.next k.next,k.wf,fun b hb hn => (k.keep b (Nat.lt_of_lt_of_le hb h.next) hn).trans (h.keep b hb hn)⟩
theorem Kb.cl {bN : Nat} {A B : AHeap} (h : Kb bN A B) {b : Nat} (hb : b < A.next) (hn : b ≠ bN) (o : Nat) : cl B b o = cl A b o := zBT (h.keep b hb hn)
structure Src (bS bN : Nat) (m : Int) (sa : Option Addr) (sc : Nat) (st : List Int) (ra : Option Addr) (rc : Nat) (ro : List Int) (lim n : Nat) (A : AHeap) : Prop where
  wf : WF A
  lm : lim ≤ A.next
  s0 : cl A bS 0 = some (.int .i64 m)
  s1 : cl A bS 1 = some (.slice sa st.length sc)
  s2 : cl A bS 2 = some (.slice ra ro.length rc)
  at' : Canon.look A.objs bN = some ⟨.cells #[.int .i64 (n : Int)] 3,false,0⟩
  st' : Ints A sa 0 lim st
  ro' : Ints A ra 0 lim ro
variable {bS bN : Nat} {m : Int} {sa : Option Addr} {sc : Nat} {st : List Int} {ra : Option Addr} {rc : Nat} {ro : List Int} {lim : Nat}
end Go.Proofs.Ytdaljohmfnfgiaa
namespace Go.Proofs.Ytdaljohmfnfgiaa
open Go Go.RowKit Go.Proofs.Ytdaljohmfnfgiaa.Canon
set_option maxRecDepth 20000
theorem tk5 : tk Try.prog 5 = .one := by kernel_rfl
theorem tk55 : tk Try.prog 55 = .one := by kernel_rfl
theorem tk105 : tk Try.prog 105 = .one := by kernel_rfl
theorem fo107_0 : fof Try.prog 107 0 = some 0 := by kernel_rfl
theorem fo107_1 : fof Try.prog 107 1 = some 1 := by kernel_rfl
theorem zCG : fof Try.prog 107 2 = some 2 := by kernel_rfl
theorem un5 : Try.prog.underlying 5 = some (.int .u8) := by kernel_rfl
theorem un55 : Try.prog.underlying 55 = some (.slice 5) := by kernel_rfl
theorem un105 : Try.prog.underlying 105 = some (.int .u64) := by kernel_rfl
theorem eo55 : eof Try.prog 55 = some 1 := by kernel_rfl
theorem cv5 {n : Int} {A : AHeap} : zCR Try.prog 5 105 (.int .u8 n) A = some (.int .u64 (IntKind.u64.wrap n),A) := cv_int un5 un105
theorem cv3 {n : Int} {A : AHeap} : zCR Try.prog 3 105 (.int .i64 n) A = some (.int .u64 (IntKind.u64.wrap n),A) := cv_int un3 un105
theorem cv105 {n : Int} {A : AHeap} : zCR Try.prog 105 3 (.int .u64 n) A = some (.int .i64 (IntKind.i64.wrap n),A) := cv_int un105 un3
def Bys (A : AHeap) (a : Option Addr) (lim n : Nat) : Prop := ∀ i,i < n → ∃ b o v,a = some ⟨b,o,none⟩ ∧ b < lim ∧ cl A b (o + i) = some (.int .u8 v)
structure Sack (A : AHeap) (b : Nat) (a : Option Addr) (n c lim nx : Nat) : Prop where
  wf : WF A
  lm : lim ≤ b
  at' : ∃ st,Canon.look A.objs b = some ⟨.cells #[.slice a n c,.int .i64 (nx : Int),.int .u64 st] 107,false,0⟩
  bys : Bys A a lim n
theorem Sack.kb {A B : AHeap} {b : Nat} {a : Option Addr} {n c lim nx nx' : Nat} (h : Sack A b a n c lim nx) (hk : Kb b A B) (ha : ∃ st,Canon.look B.objs b = some ⟨.cells #[.slice a n c,.int .i64 (nx' : Int),.int .u64 st] 107,false,0⟩) : Sack B b a n c lim nx' := by
  obtain ⟨st,h1⟩ := h.at'
  have hb := h.wf _ _ h1
  refine ⟨hk.wf,h.lm,ha,fun i hi => ?_⟩
  obtain ⟨b',o,v,e,hlt,hc⟩ := h.bys i hi
  have := h.lm
  exact ⟨b',o,v,e,hlt,by rw [hk.cl (by omega) (by omega)]; exact hc⟩
theorem sack_put {A : AHeap} {b : Nat} {v0 v1 v2 : Value} (hw : WF A) (h : Canon.look A.objs b = some ⟨.cells #[v0,v1,v2] 107,false,0⟩) (v : Value) (hv : zAA v = true) :
    (∃ A1,st1 A b 1 v = some A1 ∧ Kb b A A1 ∧ A1.next = A.next ∧ Canon.look A1.objs b = some ⟨.cells #[v0,v,v2] 107,false,0⟩) ∧ ∃ A1,st1 A b 2 v = some A1 ∧ Kb b A A1 ∧ A1.next = A.next ∧ Canon.look A1.objs b = some ⟨.cells #[v0,v1,v] 107,false,0⟩ := by
  constructor
  · obtain ⟨A1,q1,q2⟩ := st1_upd (o := 1) h rfl (by simp) hv
    obtain ⟨c,t,f,g,e,r1,r2,_⟩ := q2.at'
    rw [h] at r1
    cases r1
    exact ⟨A1,q1,Kb.of_upd hw q2,q2.next,r2⟩
  · obtain ⟨A1,q1,q2⟩ := st1_upd (o := 2) h rfl (by simp) hv
    obtain ⟨c,t,f,g,e,r1,r2,_⟩ := q2.at'
    rw [h] at r1
    cases r1
    exact ⟨A1,q1,Kb.of_upd hw q2,q2.next,r2⟩
theorem bs13 {a : Int} {A : AHeap} : bin Try.prog .shl 105 (.int .u64 a) (.int .u64 13) A = some (.int .u64 (shlI .u64 a 13),A) := bin_shl _ _ _ _ _ (by decide) _
theorem bs17 {a : Int} {A : AHeap} : bin Try.prog .shl 105 (.int .u64 a) (.int .u64 17) A = some (.int .u64 (shlI .u64 a 17),A) := bin_shl _ _ _ _ _ (by decide) _
theorem br7 {a : Int} {A : AHeap} : bin Try.prog .shr 105 (.int .u64 a) (.int .u64 7) A = some (.int .u64 (shrI .u64 a 7),A) := bin_shr _ _ _ _ _ (by decide) _
theorem br33 {a : Int} {A : AHeap} : bin Try.prog .shr 105 (.int .u64 a) (.int .u64 33) A = some (.int .u64 (shrI .u64 a 33),A) := bin_shr _ _ _ _ _ (by decide) _
theorem mul_any (x : Int) : ∃ y,0 ≤ y ∧ y ≤ 18446744073709551615 ∧ ∀ M,bin Try.prog .mul 105 (.int .u64 x) (.int .u64 2685821657736338717) M = some (.int .u64 y,M) := by
  have key : ∀ b : Int,∃ y,0 ≤ y ∧ y ≤ 18446744073709551615 ∧ ∀ M,bin Try.prog .mul 105 (.int .u64 x) (.int .u64 b) M = some (.int .u64 y,M) := fun b => ⟨_,(u64_rng _).1,(u64_rng _).2,fun M => bin_mul _ _ _ _⟩
  exact key _
theorem kb_bump {A : AHeap} (hw : WF A) (k : Nat) {b : Nat} : Kb b A (bump A k) := Kb.of_nx b (Nx.bump (Nx.refl hw _) k)
theorem draw_sack {A : AHeap} {b : Nat} {a : Option Addr} {n c lim nx : Nat} (h : Sack A b a n c lim nx) (hnx : nx < 4611686018427387904) (hn0 : n < 9223372036854775808) :
    Con Try.prog 98 [.pointer (some ⟨b,0,none⟩)] A (fun v A1 => ∃ r,v = .int .u64 r ∧ 0 ≤ r ∧ r ≤ 18446744073709551615 ∧ Kb b A A1 ∧ ∃ nx',nx' ≤ nx + 1 ∧ Sack A1 b a n c lim nx') := by
  refine zAM hc Try.func98 rfl (Nat.le_of_ble_eq_true rfl) ?_
  obtain ⟨st0,hL0⟩ := h.at'
  have c0 : cl A b 0 = some (.slice a n c) := by rw [zBM hL0 rfl]; rfl
  have c1 : cl A b 1 = some (.int .i64 (nx : Int)) := by rw [zBM hL0 rfl]; rfl
  have c2 : cl A b 2 = some (.int .u64 st0) := by rw [zBM hL0 rfl]; rfl
  rw [s_in1]
  (repeat (first | refine Rn.seq hc ?_ | refine Rn.skip hc ?_ | refine Rn.block hc ?_ | refine Rn.inBlock hc ?_ | refine Rn.scope hc ?_ | refine Rn.inScope hc ?_))
  refine Rn.reg hc rfl ?_
  simp only [zAS,gd,zAX,rops,fx,zOi,zEl,show Try.f98.ntmps = 83 from rfl]
  (repeat (first | refine Rn.seq hc ?_ | refine Rn.skip hc ?_ | refine Rn.block hc ?_ | refine Rn.inBlock hc ?_ | refine Rn.scope hc ?_ | refine Rn.inScope hc ?_))
  by_cases hpos : 0 < n
  · have hd : decide ((0 : Int) < (n : Int)) = true := by simp; omega
    refine Rn.reg hc rfl ?_
    simp only [zAY,zAS,zAU,zAT,sp_n,Nat.reduceLT,ne_eq,Nat.reduceEqDiff,zNf,gd,zAX,rops,fx,ld,fad,lng,zCZ,zAR,Nat.add_zero,zOi,zEl,tk55,fo107_0,un55,zDU,zBJ,c0,hd]
    (repeat (first | refine Rn.seq hc ?_ | refine Rn.skip hc ?_ | refine Rn.block hc ?_ | refine Rn.inBlock hc ?_ | refine Rn.scope hc ?_ | refine Rn.inScope hc ?_))
    refine Rn.zAI hc rfl ?_
    simp only [zAY,zAU,sp_n,Nat.reduceLT,Value.bool.injEq,zEl]
    (repeat (first | refine Rn.seq hc ?_ | refine Rn.skip hc ?_ | refine Rn.block hc ?_ | refine Rn.inBlock hc ?_ | refine Rn.scope hc ?_ | refine Rn.inScope hc ?_))
    have hlt : nx % n < n := Nat.mod_lt _ hpos
    obtain ⟨b',o,v,rfl,hb',hcl⟩ := h.bys _ hlt
    have hrem : ∀ M,bin Try.prog .rem 3 (.int .i64 (nx : Int)) (.int .i64 (n : Int)) M = some (.int .i64 ((nx % n : Nat) : Int),M) := fun M => by
      rw [zCM _ _ _ _ (by omega),IntWalk.rem_in _ _ (by omega)]
      rfl
    obtain ⟨_,A1,q1,k1,n1,l1⟩ := sack_put (A := bump A 26) (WF.bump h.wf 26) hL0 (.int .u64 (IntKind.u64.wrap (st0 + IntKind.u64.wrap (IntKind.u64.wrap v + 1)))) rfl
    refine Rn.drawn1 hc hx noS 25 rfl rfl rfl (by kernel_rfl) (by kernel_rfl) (by kernel_rfl) (by rfl) (by kernel_rfl) (by kernel_rfl) (by rfl) ?_ ?_
    · simp (maxSteps := 2000000) only [List.take_succ_cons,List.take_zero,rdV,VQ.int,VQ.ptr,VQ.slice,zAB,zAY,zAS,zAU,zAT,sp_n,Nat.reduceLT,ne_eq,Nat.reduceEqDiff,not_false_eq_true,gd,zAX,fx,ld,fad,idx,lng,zAE,zAR,Nat.zero_add,Nat.add_zero,Nat.reduceAdd,Nat.mul_one,and_self,tk3,tk5,tk55,tk105,fo107_0,fo107_1,zCG,un55,eo55,zDU,zBJ,ae_cv,c0,c1,c2,hrem,zAK hlt,hcl,cv5]
    simp (maxSteps := 2000000) only [List.take_succ_cons,List.take_zero,zAB,zAY,zAS,zAU,zAT,sp_n,zAN,Nat.reduceLT,ne_eq,Nat.reduceEqDiff,not_false_eq_true,gd,zAX,rops,fx,ld,fad,idx,lng,zAE,zAR,Nat.zero_add,Nat.add_zero,Option.some.injEq,exists_eq_left',Nat.reduceAdd,Nat.mul_one,true_and,tk3,tk5,tk55,tk105,fo107_0,fo107_1,zCG,un55,eo55,zDU,zBJ,ae_cv,c0,c1,c2,hrem,zAK hlt,hcl,cv5]
    refine ⟨_,_,zBK rfl (fx_ok (by rfl) (by simp only [zAY,zAU,zAT,sp_n,Nat.reduceLT,ne_eq,Nat.reduceEqDiff,zNf,fx,str,zAR,zOi,tk105,q1]; rfl)),?_⟩
    (repeat (first | refine Rn.seq hc ?_ | refine Rn.skip hc ?_ | refine Rn.block hc ?_ | refine Rn.inBlock hc ?_ | refine Rn.scope hc ?_ | refine Rn.inScope hc ?_))
    have g1 : cl A1 b 1 = some (.int .i64 (nx : Int)) := by rw [zBM l1 rfl]; rfl
    obtain ⟨⟨A',p1,k2,n2,l2⟩,_⟩ := sack_put k1.wf l1 (.int .i64 ((nx + 1 : Nat) : Int)) rfl
    refine Rn.reg hc rfl ?_
    simp only [zAY,zAS,zAU,zAT,sp_n,zAN,Nat.reduceLT,ne_eq,Nat.reduceEqDiff,zNf,gd,zAX,rops,fx,ld,str,fad,zAE,zAR,Nat.zero_add,zOi,zEl,tk3,fo107_1,zDU,zBJ,g1,zBY (show nx < 9223372036854775807 by omega),p1]
    (repeat (first | refine Rn.seq hc ?_ | refine Rn.skip hc ?_ | refine Rn.block hc ?_ | refine Rn.inBlock hc ?_ | refine Rn.scope hc ?_ | refine Rn.inScope hc ?_))
    have hK : Kb b A A' := (kb_bump h.wf 26).trans (k1.trans k2)
    have hS : Sack A' b (some ⟨b',o,none⟩) n c lim (nx + 1) := h.kb hK ⟨_,l2⟩
    obtain ⟨nx',hnx',hS⟩ : ∃ nx',nx' ≤ nx + 1 ∧ Sack A' b (some ⟨b',o,none⟩) n c lim nx' := ⟨_,Nat.le_refl _,hS⟩
    refine Rn.slots (I := fun s => s.n = 83 ∧ sget s 0 = .pointer (some ⟨b,0,none⟩)) ⟨by simp only [sp_n],by simp only [zAU,zAT,Nat.reduceLT,ne_eq,Nat.reduceEqDiff,zNf]⟩ ?_
    rintro s ⟨hn,s0⟩
    obtain ⟨st,hL⟩ := hS.at'
    have c2 : cl A' b 2 = some (.int .u64 st) := by rw [zBM hL rfl]; rfl
    obtain ⟨_,A4,q4,k4,n4,l4⟩ := sack_put (A := bump A' 13) (WF.bump hS.wf 13) hL (.int .u64 (xorI .u64 st (shlI .u64 st 13))) rfl
    refine Rn.drawn1 hc hx noS 12 rfl rfl rfl (by kernel_rfl) (by kernel_rfl) (by kernel_rfl) (by rfl) (by kernel_rfl) (by kernel_rfl) (by rfl) ?_ ?_
    · simp (maxSteps := 2000000) only [List.take_succ_cons,List.take_zero,rdV,VQ.int,VQ.ptr,zAB,zAY,zAS,zAU,zAT,sp_n,Nat.reduceLT,ne_eq,Nat.reduceEqDiff,not_false_eq_true,gd,zAX,fx,ld,fad,zAR,Nat.zero_add,Nat.reduceAdd,and_self,tk105,zCG,zDU,zBJ,hn,s0,c2,bs13,bin_xor]
    simp (maxSteps := 2000000) only [List.take_succ_cons,List.take_zero,zAB,zAY,zAS,zAU,zAT,sp_n,zAN,Nat.reduceLT,ne_eq,Nat.reduceEqDiff,not_false_eq_true,gd,zAX,rops,fx,ld,fad,zAR,Nat.zero_add,Option.some.injEq,exists_eq_left',Nat.reduceAdd,true_and,tk105,zCG,zDU,zBJ,hn,s0,c2,bs13,bin_xor]
    refine ⟨_,_,zBK rfl (fx_ok (by rfl) (by simp only [zAY,zAU,zAT,sp_n,Nat.reduceLT,ne_eq,Nat.reduceEqDiff,zNf,fx,str,zAR,zOi,tk105,hn,q4]; rfl)),?_⟩
    (repeat (first | refine Rn.seq hc ?_ | refine Rn.skip hc ?_ | refine Rn.block hc ?_ | refine Rn.inBlock hc ?_ | refine Rn.scope hc ?_ | refine Rn.inScope hc ?_))
    have d2 : cl A4 b 2 = some (.int .u64 (xorI .u64 st (shlI .u64 st 13))) := by rw [zBM l4 rfl]; rfl
    generalize xorI .u64 st (shlI .u64 st 13) = x4 at l4 d2
    refine Rn.slots (I := fun s => s.n = 83 ∧ sget s 0 = .pointer (some ⟨b,0,none⟩)) ⟨by simp only [sp_n,hn],by simp only [zAT,ne_eq,Nat.reduceEqDiff,zNf,s0]⟩ ?_
    clear hn s0
    rintro s ⟨hn,s0⟩
    obtain ⟨_,A5,q5,k5,n5,l5⟩ := sack_put (A := bump A4 13) (WF.bump k4.wf 13) l4 (.int .u64 (xorI .u64 x4 (shrI .u64 x4 7))) rfl
    refine Rn.drawn1 hc hx noS 12 rfl rfl rfl (by kernel_rfl) (by kernel_rfl) (by kernel_rfl) (by rfl) (by kernel_rfl) (by kernel_rfl) (by rfl) ?_ ?_
    · simp (maxSteps := 2000000) only [List.take_succ_cons,List.take_zero,rdV,VQ.int,VQ.ptr,zAB,zAY,zAS,zAU,zAT,sp_n,Nat.reduceLT,ne_eq,Nat.reduceEqDiff,not_false_eq_true,gd,zAX,fx,ld,fad,zAR,Nat.zero_add,Nat.reduceAdd,and_self,tk105,zCG,zDU,zBJ,hn,s0,d2,br7,bin_xor]
    simp (maxSteps := 2000000) only [List.take_succ_cons,List.take_zero,zAB,zAY,zAS,zAU,zAT,sp_n,zAN,Nat.reduceLT,ne_eq,Nat.reduceEqDiff,not_false_eq_true,gd,zAX,rops,fx,ld,fad,zAR,Nat.zero_add,Option.some.injEq,exists_eq_left',Nat.reduceAdd,true_and,tk105,zCG,zDU,zBJ,hn,s0,d2,br7,bin_xor]
    refine ⟨_,_,zBK rfl (fx_ok (by rfl) (by simp only [zAY,zAU,zAT,sp_n,Nat.reduceLT,ne_eq,Nat.reduceEqDiff,zNf,fx,str,zAR,zOi,tk105,hn,q5]; rfl)),?_⟩
    (repeat (first | refine Rn.seq hc ?_ | refine Rn.skip hc ?_ | refine Rn.block hc ?_ | refine Rn.inBlock hc ?_ | refine Rn.scope hc ?_ | refine Rn.inScope hc ?_))
    have e2 : cl A5 b 2 = some (.int .u64 (xorI .u64 x4 (shrI .u64 x4 7))) := by rw [zBM l5 rfl]; rfl
    generalize xorI .u64 x4 (shrI .u64 x4 7) = x5 at l5 e2
    obtain ⟨_,A6,q6,k6,n6,l6⟩ := sack_put (A := bump A5 13) (WF.bump k5.wf 13) l5 (.int .u64 (xorI .u64 x5 (shlI .u64 x5 17))) rfl
    refine Rn.drawn1 hc hx noS 12 rfl rfl rfl (by kernel_rfl) (by kernel_rfl) (by kernel_rfl) (by rfl) (by kernel_rfl) (by kernel_rfl) (by rfl) ?_ ?_
    · simp (maxSteps := 2000000) only [List.take_succ_cons,List.take_zero,rdV,VQ.int,VQ.ptr,zAB,zAY,zAS,zAU,zAT,sp_n,Nat.reduceLT,ne_eq,Nat.reduceEqDiff,not_false_eq_true,gd,zAX,fx,ld,fad,zAR,Nat.zero_add,Nat.reduceAdd,and_self,tk105,zCG,zDU,zBJ,hn,s0,e2,bs17,bin_xor]
    simp (maxSteps := 2000000) only [List.take_succ_cons,List.take_zero,zAB,zAY,zAS,zAU,zAT,sp_n,zAN,Nat.reduceLT,ne_eq,Nat.reduceEqDiff,not_false_eq_true,gd,zAX,rops,fx,ld,fad,zAR,Nat.zero_add,Option.some.injEq,exists_eq_left',Nat.reduceAdd,true_and,tk105,zCG,zDU,zBJ,hn,s0,e2,bs17,bin_xor]
    refine ⟨_,_,zBK rfl (fx_ok (by rfl) (by simp only [zAY,zAU,zAT,sp_n,Nat.reduceLT,ne_eq,Nat.reduceEqDiff,zNf,fx,str,zAR,zOi,tk105,hn,q6]; rfl)),?_⟩
    (repeat (first | refine Rn.seq hc ?_ | refine Rn.skip hc ?_ | refine Rn.block hc ?_ | refine Rn.inBlock hc ?_ | refine Rn.scope hc ?_ | refine Rn.inScope hc ?_))
    have f2 : cl A6 b 2 = some (.int .u64 (xorI .u64 x5 (shlI .u64 x5 17))) := by rw [zBM l6 rfl]; rfl
    generalize xorI .u64 x5 (shlI .u64 x5 17) = x6 at l6 f2
    obtain ⟨y,y0,y1,hy⟩ := mul_any x6
    refine Rn.region hc fun K hKK => ?_
    refine Wo.run hc 4 rfl rfl rfl ?_
    simp (maxSteps := 2000000) only [List.drop_zero,List.take_succ_cons,List.take_zero,zAY,zAU,zAT,sp_n,Nat.reduceLT,ne_eq,Nat.reduceEqDiff,not_false_eq_true,gd,zAX,rops,fx,ld,fad,zAR,Nat.zero_add,Option.some.injEq,exists_eq_left',tk105,zCG,zDU,zBJ,hn,s0,f2]
    refine Wo.run hc 1 rfl rfl rfl ?_
    simp only [List.drop_zero,List.drop_succ_cons,List.take_succ_cons,List.take_zero,rops,fx,gd,zAX,zAY,zAS,zAU,sp_n,Nat.reduceLT,hn,hy,Nat.reduceAdd,zOi,zEl]
    refine Wo.run hc 2 rfl rfl rfl ?_
    simp (maxSteps := 2000000) only [List.drop_zero,List.drop_succ_cons,List.take_succ_cons,List.take_zero,zAY,zAS,zAU,sp_n,Nat.reduceLT,gd,zAX,rops,fx,Option.some.injEq,exists_eq_left',Nat.reduceAdd,hn,br33]
    refine Wo.done hc rfl (hKK _ _ ?_)
    (repeat (first | refine Rn.seq hc ?_ | refine Rn.skip hc ?_ | refine Rn.block hc ?_ | refine Rn.inBlock hc ?_ | refine Rn.scope hc ?_ | refine Rn.inScope hc ?_))
    have hk6 : Kb b A' A6 := ((kb_bump hS.wf 13).trans (k4.trans ((kb_bump k4.wf 13).trans (k5.trans ((kb_bump k5.wf 13).trans k6)))))
    have hr := shrI_rng y0 33
    refine Rn.ret (zAJ rfl ⟨shrI .u64 y 33,?_,hr.1,Int.le_trans hr.2 y1,hK.trans hk6,nx',hnx',hS.kb hk6 ⟨_,l6⟩⟩)
    simp only [zAU,sp_n,Nat.reduceLT,hn]
  · have hd : decide ((0 : Int) < (n : Int)) = false := by simp; omega
    refine Rn.reg hc rfl ?_
    simp only [zAY,zAS,zAU,zAT,sp_n,Nat.reduceLT,ne_eq,Nat.reduceEqDiff,zNf,gd,zAX,rops,fx,ld,fad,lng,zCZ,zAR,Nat.add_zero,zOi,zEl,tk55,fo107_0,un55,zDU,zBJ,c0,hd]
    (repeat (first | refine Rn.seq hc ?_ | refine Rn.skip hc ?_ | refine Rn.block hc ?_ | refine Rn.inBlock hc ?_ | refine Rn.scope hc ?_ | refine Rn.inScope hc ?_))
    refine Rn.zAI hc rfl ?_
    simp only [zAY,zAU,sp_n,Nat.reduceLT,Value.bool.injEq,zEl]
    (repeat (first | refine Rn.seq hc ?_ | refine Rn.skip hc ?_ | refine Rn.block hc ?_ | refine Rn.inBlock hc ?_ | refine Rn.scope hc ?_ | refine Rn.inScope hc ?_))
    have hK : Kb b A A := Kb.of_nx b (Nx.refl h.wf _)
    obtain ⟨A',hA',hS,hK⟩ : ∃ A',A' = A ∧ Sack A' b a n c lim nx ∧ Kb b A A' := ⟨A,rfl,h,hK⟩
    rw [← hA']
    have hK : Kb b A' A' := by rw [hA']; rw [hA'] at hK; exact hK
    obtain ⟨nx',hnx',hS⟩ : ∃ nx',nx' ≤ nx + 1 ∧ Sack A' b a n c lim nx' := ⟨nx,by omega,hS⟩
    refine Rn.slots (I := fun s => s.n = 83 ∧ sget s 0 = .pointer (some ⟨b,0,none⟩)) ⟨by simp only [sp_n],by simp only [zAU,zAT,Nat.reduceLT,ne_eq,Nat.reduceEqDiff,zNf]⟩ ?_
    rintro s ⟨hn,s0⟩
    obtain ⟨st,hL⟩ := hS.at'
    have c2 : cl A' b 2 = some (.int .u64 st) := by rw [zBM hL rfl]; rfl
    obtain ⟨_,A4,q4,k4,n4,l4⟩ := sack_put (A := bump A' 13) (WF.bump hS.wf 13) hL (.int .u64 (xorI .u64 st (shlI .u64 st 13))) rfl
    refine Rn.drawn1 hc hx noS 12 rfl rfl rfl (by kernel_rfl) (by kernel_rfl) (by kernel_rfl) (by rfl) (by kernel_rfl) (by kernel_rfl) (by rfl) ?_ ?_
    · simp (maxSteps := 2000000) only [List.take_succ_cons,List.take_zero,rdV,VQ.int,VQ.ptr,zAB,zAY,zAS,zAU,zAT,sp_n,Nat.reduceLT,ne_eq,Nat.reduceEqDiff,not_false_eq_true,gd,zAX,fx,ld,fad,zAR,Nat.zero_add,Nat.reduceAdd,and_self,tk105,zCG,zDU,zBJ,hn,s0,c2,bs13,bin_xor]
    simp (maxSteps := 2000000) only [List.take_succ_cons,List.take_zero,zAB,zAY,zAS,zAU,zAT,sp_n,zAN,Nat.reduceLT,ne_eq,Nat.reduceEqDiff,not_false_eq_true,gd,zAX,rops,fx,ld,fad,zAR,Nat.zero_add,Option.some.injEq,exists_eq_left',Nat.reduceAdd,true_and,tk105,zCG,zDU,zBJ,hn,s0,c2,bs13,bin_xor]
    refine ⟨_,_,zBK rfl (fx_ok (by rfl) (by simp only [zAY,zAU,zAT,sp_n,Nat.reduceLT,ne_eq,Nat.reduceEqDiff,zNf,fx,str,zAR,zOi,tk105,hn,q4]; rfl)),?_⟩
    (repeat (first | refine Rn.seq hc ?_ | refine Rn.skip hc ?_ | refine Rn.block hc ?_ | refine Rn.inBlock hc ?_ | refine Rn.scope hc ?_ | refine Rn.inScope hc ?_))
    have d2 : cl A4 b 2 = some (.int .u64 (xorI .u64 st (shlI .u64 st 13))) := by rw [zBM l4 rfl]; rfl
    generalize xorI .u64 st (shlI .u64 st 13) = x4 at l4 d2
    refine Rn.slots (I := fun s => s.n = 83 ∧ sget s 0 = .pointer (some ⟨b,0,none⟩)) ⟨by simp only [sp_n,hn],by simp only [zAT,ne_eq,Nat.reduceEqDiff,zNf,s0]⟩ ?_
    clear hn s0
    rintro s ⟨hn,s0⟩
    obtain ⟨_,A5,q5,k5,n5,l5⟩ := sack_put (A := bump A4 13) (WF.bump k4.wf 13) l4 (.int .u64 (xorI .u64 x4 (shrI .u64 x4 7))) rfl
    refine Rn.drawn1 hc hx noS 12 rfl rfl rfl (by kernel_rfl) (by kernel_rfl) (by kernel_rfl) (by rfl) (by kernel_rfl) (by kernel_rfl) (by rfl) ?_ ?_
    · simp (maxSteps := 2000000) only [List.take_succ_cons,List.take_zero,rdV,VQ.int,VQ.ptr,zAB,zAY,zAS,zAU,zAT,sp_n,Nat.reduceLT,ne_eq,Nat.reduceEqDiff,not_false_eq_true,gd,zAX,fx,ld,fad,zAR,Nat.zero_add,Nat.reduceAdd,and_self,tk105,zCG,zDU,zBJ,hn,s0,d2,br7,bin_xor]
    simp (maxSteps := 2000000) only [List.take_succ_cons,List.take_zero,zAB,zAY,zAS,zAU,zAT,sp_n,zAN,Nat.reduceLT,ne_eq,Nat.reduceEqDiff,not_false_eq_true,gd,zAX,rops,fx,ld,fad,zAR,Nat.zero_add,Option.some.injEq,exists_eq_left',Nat.reduceAdd,true_and,tk105,zCG,zDU,zBJ,hn,s0,d2,br7,bin_xor]
    refine ⟨_,_,zBK rfl (fx_ok (by rfl) (by simp only [zAY,zAU,zAT,sp_n,Nat.reduceLT,ne_eq,Nat.reduceEqDiff,zNf,fx,str,zAR,zOi,tk105,hn,q5]; rfl)),?_⟩
    (repeat (first | refine Rn.seq hc ?_ | refine Rn.skip hc ?_ | refine Rn.block hc ?_ | refine Rn.inBlock hc ?_ | refine Rn.scope hc ?_ | refine Rn.inScope hc ?_))
    have e2 : cl A5 b 2 = some (.int .u64 (xorI .u64 x4 (shrI .u64 x4 7))) := by rw [zBM l5 rfl]; rfl
    generalize xorI .u64 x4 (shrI .u64 x4 7) = x5 at l5 e2
    obtain ⟨_,A6,q6,k6,n6,l6⟩ := sack_put (A := bump A5 13) (WF.bump k5.wf 13) l5 (.int .u64 (xorI .u64 x5 (shlI .u64 x5 17))) rfl
    refine Rn.drawn1 hc hx noS 12 rfl rfl rfl (by kernel_rfl) (by kernel_rfl) (by kernel_rfl) (by rfl) (by kernel_rfl) (by kernel_rfl) (by rfl) ?_ ?_
    · simp (maxSteps := 2000000) only [List.take_succ_cons,List.take_zero,rdV,VQ.int,VQ.ptr,zAB,zAY,zAS,zAU,zAT,sp_n,Nat.reduceLT,ne_eq,Nat.reduceEqDiff,not_false_eq_true,gd,zAX,fx,ld,fad,zAR,Nat.zero_add,Nat.reduceAdd,and_self,tk105,zCG,zDU,zBJ,hn,s0,e2,bs17,bin_xor]
    simp (maxSteps := 2000000) only [List.take_succ_cons,List.take_zero,zAB,zAY,zAS,zAU,zAT,sp_n,zAN,Nat.reduceLT,ne_eq,Nat.reduceEqDiff,not_false_eq_true,gd,zAX,rops,fx,ld,fad,zAR,Nat.zero_add,Option.some.injEq,exists_eq_left',Nat.reduceAdd,true_and,tk105,zCG,zDU,zBJ,hn,s0,e2,bs17,bin_xor]
    refine ⟨_,_,zBK rfl (fx_ok (by rfl) (by simp only [zAY,zAU,zAT,sp_n,Nat.reduceLT,ne_eq,Nat.reduceEqDiff,zNf,fx,str,zAR,zOi,tk105,hn,q6]; rfl)),?_⟩
    (repeat (first | refine Rn.seq hc ?_ | refine Rn.skip hc ?_ | refine Rn.block hc ?_ | refine Rn.inBlock hc ?_ | refine Rn.scope hc ?_ | refine Rn.inScope hc ?_))
    have f2 : cl A6 b 2 = some (.int .u64 (xorI .u64 x5 (shlI .u64 x5 17))) := by rw [zBM l6 rfl]; rfl
    generalize xorI .u64 x5 (shlI .u64 x5 17) = x6 at l6 f2
    obtain ⟨y,y0,y1,hy⟩ := mul_any x6
    refine Rn.region hc fun K hKK => ?_
    refine Wo.run hc 4 rfl rfl rfl ?_
    simp (maxSteps := 2000000) only [List.drop_zero,List.take_succ_cons,List.take_zero,zAY,zAU,zAT,sp_n,Nat.reduceLT,ne_eq,Nat.reduceEqDiff,not_false_eq_true,gd,zAX,rops,fx,ld,fad,zAR,Nat.zero_add,Option.some.injEq,exists_eq_left',tk105,zCG,zDU,zBJ,hn,s0,f2]
    refine Wo.run hc 1 rfl rfl rfl ?_
    simp only [List.drop_zero,List.drop_succ_cons,List.take_succ_cons,List.take_zero,rops,fx,gd,zAX,zAY,zAS,zAU,sp_n,Nat.reduceLT,hn,hy,Nat.reduceAdd,zOi,zEl]
    refine Wo.run hc 2 rfl rfl rfl ?_
    simp (maxSteps := 2000000) only [List.drop_zero,List.drop_succ_cons,List.take_succ_cons,List.take_zero,zAY,zAS,zAU,sp_n,Nat.reduceLT,gd,zAX,rops,fx,Option.some.injEq,exists_eq_left',Nat.reduceAdd,hn,br33]
    refine Wo.done hc rfl (hKK _ _ ?_)
    (repeat (first | refine Rn.seq hc ?_ | refine Rn.skip hc ?_ | refine Rn.block hc ?_ | refine Rn.inBlock hc ?_ | refine Rn.scope hc ?_ | refine Rn.inScope hc ?_))
    have hk6 : Kb b A' A6 := ((kb_bump hS.wf 13).trans (k4.trans ((kb_bump k4.wf 13).trans (k5.trans ((kb_bump k5.wf 13).trans k6)))))
    have hr := shrI_rng y0 33
    refine Rn.ret (zAJ rfl ⟨shrI .u64 y 33,?_,hr.1,Int.le_trans hr.2 y1,hK.trans hk6,nx',hnx',hS.kb hk6 ⟨_,l6⟩⟩)
    simp only [zAU,sp_n,Nat.reduceLT,hn]
end Go.Proofs.Ytdaljohmfnfgiaa
namespace Go.Proofs.Ytdaljohmfnfgiaa
open Go Go.RowKit Go.Proofs.Ytdaljohmfnfgiaa.Canon
set_option maxRecDepth 20000
theorem below_sack {A : AHeap} {b : Nat} {a : Option Addr} {n c lim nx : Nat} (h : Sack A b a n c lim nx) (hnx : nx < 4611686018427387904) (hn0 : n < 9223372036854775808) {m : Int} (hm : m ≤ 9223372036854775807) :
    Con Try.prog 64 [.pointer (some ⟨b,0,none⟩),.int .i64 m] A (fun v A1 => ∃ r : Nat,v = .int .i64 (r : Int) ∧ (r : Int) < max 1 m ∧ Kb b A A1 ∧ ∃ nx',nx' ≤ nx + 1 ∧ Sack A1 b a n c lim nx') := by
  refine zAM hc Try.func64 rfl (Nat.le_of_ble_eq_true rfl) ?_
  rw [s_in2]
  (repeat (first | refine Rn.seq hc ?_ | refine Rn.skip hc ?_ | refine Rn.block hc ?_ | refine Rn.inBlock hc ?_ | refine Rn.scope hc ?_ | refine Rn.inScope hc ?_))
  refine Rn.reg hc rfl ?_
  simp only [zAS,gd,zAX,rops,fx,zOi,zEl,show Try.f64.ntmps = 12 from rfl]
  (repeat (first | refine Rn.seq hc ?_ | refine Rn.skip hc ?_ | refine Rn.block hc ?_ | refine Rn.inBlock hc ?_ | refine Rn.scope hc ?_ | refine Rn.inScope hc ?_))
  refine Rn.region hc fun K hK => ?_
  refine Wo.run hc 1 rfl rfl rfl ?_
  simp (maxSteps := 2000000) only [List.drop_zero,List.take_succ_cons,List.take_zero,zAY,zAU,zAT,Nat.reduceLT,ne_eq,Nat.reduceEqDiff,not_false_eq_true,gd,zAX,rops,fx,Nat.zero_add,Option.some.injEq,exists_eq_left']
  refine Wo.call hc (by rfl) (by rfl) ⟨by rfl,by rfl⟩ (xs := [.pointer (some ⟨b,0,none⟩)]) (by rfl) (by rfl) (by rfl) (Con.mono (draw_sack h hnx hn0) ?_)
  rintro v A1 ⟨r,rfl,r0,r1,hk,nx',hnx',hS⟩
  have hw : IntKind.u64.wrap (max 1 m) = max 1 m := IntWalk.u64_in _ ⟨by omega,by omega⟩
  have ht : r.tmod (max 1 m) = ((r.tmod (max 1 m)).toNat : Int) := (Int.toNat_of_nonneg (Int.tmod_nonneg _ r0)).symm
  have hlt : r.tmod (max 1 m) < max 1 m := Int.tmod_lt_of_pos _ (by omega)
  have hrem : ∀ M,bin Try.prog .rem 105 (.int .u64 r) (.int .u64 (max 1 m)) M = some (.int .u64 (r.tmod (max 1 m)),M) := fun M => zCM _ _ _ _ (by omega)
  have hw2 : IntKind.i64.wrap (r.tmod (max 1 m)) = r.tmod (max 1 m) := IntWalk.i64_in _ ⟨by have := Int.tmod_nonneg (max 1 m) r0; omega,by omega⟩
  refine Wo.run hc 6 rfl rfl rfl ?_
  simp (maxSteps := 2000000) only [List.drop_zero,List.drop_succ_cons,List.take_succ_cons,List.take_zero,zAY,zAU,zAT,sp_n,Nat.reduceLT,ne_eq,Nat.reduceEqDiff,not_false_eq_true,gd,zAX,rops,fx,Option.some.injEq,exists_eq_left',Nat.reduceAdd,ae_cv,ae_mxd,mxd_int,cv3,hw,hrem,cv105,hw2]
  refine Wo.done hc rfl (hK _ _ ?_)
  (repeat (first | refine Rn.seq hc ?_ | refine Rn.skip hc ?_ | refine Rn.block hc ?_ | refine Rn.inBlock hc ?_ | refine Rn.scope hc ?_ | refine Rn.inScope hc ?_))
  refine Rn.ret (zAJ rfl ⟨(r.tmod (max 1 m)).toNat,?_,by rw [← ht]; exact hlt,hk,nx',hnx',hS⟩)
  simp only [zAU,sp_n,Nat.reduceLT]
  rw [← ht]
theorem among_sack {A : AHeap} {b : Nat} {a : Option Addr} {n c lim nx : Nat} (h : Sack A b a n c lim nx) (hnx : nx < 4611686018427387904) (hn0 : n < 9223372036854775808) {lo hi : Nat} (hlh : lo ≤ hi) (hh : hi < 4611686018427387904) :
    Con Try.prog 97 [.pointer (some ⟨b,0,none⟩),.int .i64 (lo : Int),.int .i64 (hi : Int)] A (fun v A1 => ∃ r : Nat,v = .int .i64 (r : Int) ∧ lo ≤ r ∧ r ≤ hi ∧ Kb b A A1 ∧ ∃ nx',nx' ≤ nx + 1 ∧ Sack A1 b a n c lim nx') := by
  refine zAM hc Try.func97 rfl (Nat.le_of_ble_eq_true rfl) ?_
  rw [s_in3]
  (repeat (first | refine Rn.seq hc ?_ | refine Rn.skip hc ?_ | refine Rn.block hc ?_ | refine Rn.inBlock hc ?_ | refine Rn.scope hc ?_ | refine Rn.inScope hc ?_))
  refine Rn.reg hc rfl ?_
  simp only [zAS,gd,zAX,rops,fx,zOi,zEl,show Try.f97.ntmps = 15 from rfl]
  (repeat (first | refine Rn.seq hc ?_ | refine Rn.skip hc ?_ | refine Rn.block hc ?_ | refine Rn.inBlock hc ?_ | refine Rn.scope hc ?_ | refine Rn.inScope hc ?_))
  refine Rn.region hc fun K hK => ?_
  have w1 : IntKind.i64.wrap ((hi : Int) - (lo : Int)) = ((hi - lo : Nat) : Int) := by rw [IntWalk.i64_in _ (by omega)]; omega
  refine Wo.run hc 6 rfl rfl rfl ?_
  simp (maxSteps := 2000000) only [List.drop_zero,List.take_succ_cons,List.take_zero,zAY,zAS,zAU,zAT,sp_n,Nat.reduceLT,ne_eq,Nat.reduceEqDiff,not_false_eq_true,gd,zAX,rops,fx,zAE,zBA,Nat.zero_add,Option.some.injEq,exists_eq_left',w1,zBY (show hi - lo < 9223372036854775807 by omega)]
  refine Wo.call hc (by rfl) (by rfl) ⟨by rfl,by rfl⟩ (xs := [.pointer (some ⟨b,0,none⟩),.int .i64 ((hi - lo + 1 : Nat) : Int)]) (by rfl) (by rfl) (by rfl) (Con.mono (below_sack h hnx hn0 (m := ((hi - lo + 1 : Nat) : Int)) (by omega)) ?_)
  rintro v A1 ⟨r,rfl,hr,hk,nx',hnx',hS⟩
  have w2 : IntKind.i64.wrap ((lo : Int) + (r : Int)) = ((lo + r : Nat) : Int) := by rw [IntWalk.i64_in _ (by omega)]; omega
  refine Wo.run hc 2 rfl rfl rfl ?_
  simp (maxSteps := 2000000) only [List.drop_zero,List.drop_succ_cons,List.take_succ_cons,List.take_zero,zAY,zAU,zAT,sp_n,Nat.reduceLT,ne_eq,Nat.reduceEqDiff,not_false_eq_true,gd,zAX,rops,fx,zAE,Option.some.injEq,exists_eq_left',Nat.reduceAdd,w2]
  refine Wo.done hc rfl (hK _ _ ?_)
  (repeat (first | refine Rn.seq hc ?_ | refine Rn.skip hc ?_ | refine Rn.block hc ?_ | refine Rn.inBlock hc ?_ | refine Rn.scope hc ?_ | refine Rn.inScope hc ?_))
  refine Rn.ret (zAJ rfl ⟨lo + r,?_,by omega,by omega,hk,nx',hnx',hS⟩)
  simp only [zAU,sp_n,Nat.reduceLT]
end Go.Proofs.Ytdaljohmfnfgiaa
namespace Go.Proofs.Ytdaljohmfnfgiaa
open Go Go.RowKit Go.Proofs.Ytdaljohmfnfgiaa.Canon
set_option maxRecDepth 20000
theorem bo107 : bof Try.prog 107 = .mk (nthR [(0,1),(1,1),(2,1)]) 3 [.slice none 0 0,.int .i64 0,.int .u64 0] := by kernel_rfl
theorem bd107 {ρ : Operand → Value} {d : Option Tmp} {ty : TypeId} {pos : String} {af : Array Edge} {gu : Option (Nat × Bool)} {A : AHeap} {x y : Tmp} (hx : zAA (ρ (.tmp x)) = true) (hy : zAA (ρ (.tmp y)) = true) :
    zAL Try.prog ρ ⟨d,.build 107 #[(0,.tmp x),(2,.tmp y)],ty,pos,af,gu⟩ A = some (.agg #[ρ (.tmp x),.int .i64 0,ρ (.tmp y)],A) := by
  refine ae_build (by rfl) bo107 rfl ?_
  simp [fbld,nthR,zBX hx,zBX hy]
theorem fill_sack {A : AHeap} (hw : WF A) {a : Option Addr} {n c : Nat} (h : Bys A a A.next n) :
    Con Try.prog 56 [.slice a n c] A (fun v A1 => v = .pointer (some ⟨A.next,0,none⟩) ∧ A1.next = A.next + 1 ∧ Nx A.next A A1 ∧ Sack A1 A.next a n c A.next 0) := by
  refine zAM hc Try.func56 rfl (Nat.le_of_ble_eq_true rfl) ?_
  have key : ∀ st : Int,∃ A1,A.push (.cells #[.slice a n c,.int .i64 0,.int .u64 st] 107) = A1 ∧ A1.next = A.next + 1 ∧ Nx A.next A A1 ∧ Sack A1 A.next a n c A.next 0 := fun st => by
    have hx : Nx A.next A (A.push (.cells #[.slice a n c,.int .i64 0,.int .u64 st] 107)) := (Nx.refl hw _).push (Nat.le_refl _) _
    refine ⟨_,rfl,rfl,hx,hx.wf,Nat.le_refl _,⟨st,zAQ _ _⟩,fun i hi => ?_⟩
    obtain ⟨b,o,v,e,hlt,hcl⟩ := h i hi
    exact ⟨b,o,v,e,hlt,by rw [hx.cl hlt]; exact hcl⟩
  have hadd : ∀ x : Int,∃ st,∀ M,bin Try.prog .add 105 (.int .u64 11400714819323198485) (.int .u64 x) M = some (.int .u64 st,M) := fun x => by
    have : ∀ b : Int,∃ st,∀ M,bin Try.prog .add 105 (.int .u64 b) (.int .u64 x) M = some (.int .u64 st,M) := fun b => ⟨_,fun M => zAE _ _ _ _⟩
    exact this _
  obtain ⟨st,hst⟩ := hadd (IntKind.u64.wrap (n : Int))
  obtain ⟨A1,e1,hn1,hx1,hS⟩ := key st
  rw [s_in1]
  (repeat (first | refine Rn.seq hc ?_ | refine Rn.skip hc ?_ | refine Rn.block hc ?_ | refine Rn.inBlock hc ?_ | refine Rn.scope hc ?_ | refine Rn.inScope hc ?_))
  refine Rn.reg hc rfl ?_
  simp only [zAS,gd,zAX,rops,fx,zOi,zEl,show Try.f56.ntmps = 10 from rfl]
  (repeat (first | refine Rn.seq hc ?_ | refine Rn.skip hc ?_ | refine Rn.block hc ?_ | refine Rn.inBlock hc ?_ | refine Rn.scope hc ?_ | refine Rn.inScope hc ?_))
  refine Rn.region hc fun K hK => ?_
  refine Wo.run hc 4 rfl rfl rfl ?_
  simp (maxSteps := 2000000) only [List.drop_zero,List.take_succ_cons,List.take_zero,zAY,zAU,zAT,sp_n,Nat.reduceLT,ne_eq,Nat.reduceEqDiff,not_false_eq_true,gd,zAX,rops,fx,lng,Nat.zero_add,Option.some.injEq,exists_eq_left',un55,ae_cv,cv3]
  refine Wo.run hc 1 rfl rfl rfl ?_
  simp only [List.drop_zero,List.drop_succ_cons,List.take_succ_cons,List.take_zero,rops,fx,gd,zAX,zAY,zAS,zAU,sp_n,Nat.reduceLT,hst,Nat.reduceAdd,zOi,zEl]
  refine Wo.run hc 3 rfl rfl rfl ?_
  simp (maxSteps := 2000000) only [List.drop_zero,List.drop_succ_cons,List.take_succ_cons,List.take_zero,zAY,zAU,zAT,sp_n,Nat.reduceLT,ne_eq,Nat.reduceEqDiff,not_false_eq_true,gd,zAX,rops,fx,Option.some.injEq,exists_eq_left',Value.cells,Nat.reduceAdd,bd107,zAA,e1]
  refine Wo.done hc rfl (hK _ _ ?_)
  (repeat (first | refine Rn.seq hc ?_ | refine Rn.skip hc ?_ | refine Rn.block hc ?_ | refine Rn.inBlock hc ?_ | refine Rn.scope hc ?_ | refine Rn.inScope hc ?_))
  refine Rn.ret (zAJ rfl ⟨?_,hn1,hx1,hS⟩)
  simp only [zAU,sp_n,Nat.reduceLT]
end Go.Proofs.Ytdaljohmfnfgiaa
namespace Go.Proofs.Ytdaljohmfnfgiaa
open Go Go.RowKit Go.Proofs.Ytdaljohmfnfgiaa.Canon
set_option maxRecDepth 20000
theorem at_law {A : AHeap} (hw : WF A) {m : Int} {sa ra : Option Addr} {sc rc : Nat} {st ro : List Int} (hs : Ints A sa 0 A.next st) (hr : Ints A ra 0 A.next ro) (n : Nat) (hst : st.length < 4611686018427387904) (hro : 0 < ro.length) (hro2 : ro.length < 4611686018427387904) (hn : n < 9223372036854775808) :
    Con Try.prog 60 [.agg #[.int .i64 m,.slice sa st.length sc,.slice ra ro.length rc],.int .i64 (n : Int)] A (fun v A1 => v = .int .i64 (atL st ro n) ∧ Nx A.next A A1) := by
  refine zAM hc Try.func60 rfl (Nat.le_of_ble_eq_true rfl) ?_
  obtain ⟨A1,e1,hx1,hn1,b0,b1,b2⟩ := box3 hw (.int .i64 m) (.slice sa st.length sc) (.slice ra ro.length rc) 24
  rw [s_in2]
  (repeat (first | refine Rn.seq hc ?_ | refine Rn.skip hc ?_ | refine Rn.block hc ?_ | refine Rn.inBlock hc ?_ | refine Rn.scope hc ?_ | refine Rn.inScope hc ?_))
  refine Rn.reg hc rfl ?_
  simp only [zAY,zAS,zAU,zAT,Nat.reduceLT,ne_eq,Nat.reduceEqDiff,zNf,gd,zAX,rops,fx,zOi,zEl,Value.cells,show Try.f60.ntmps = 28 from rfl,e1]
  (repeat (first | refine Rn.seq hc ?_ | refine Rn.skip hc ?_ | refine Rn.block hc ?_ | refine Rn.inBlock hc ?_ | refine Rn.scope hc ?_ | refine Rn.inScope hc ?_))
  by_cases h : n < st.length
  · obtain ⟨b,o,rfl,_,hb,hcl⟩ := hs n h
    have hcl1 : cl A1 b (o + n) = _ := (hx1.cl hb _).trans hcl
    have hd : decide ((n : Int) < (st.length : Int)) = true := by simp; omega
    refine Rn.reg hc rfl ?_
    simp only [zAY,zAU,zAT,sp_n,Nat.reduceLT,ne_eq,Nat.reduceEqDiff,zNf,gd,zAX,rops,fx,ld,fad,lng,zAP,zAR,Nat.zero_add,zOi,zEl,tk22,zCY,un22,b1,hd]
    (repeat (first | refine Rn.seq hc ?_ | refine Rn.skip hc ?_ | refine Rn.block hc ?_ | refine Rn.inBlock hc ?_ | refine Rn.scope hc ?_ | refine Rn.inScope hc ?_))
    refine Rn.zAI hc rfl ?_
    simp only [zAY,zAU,sp_n,Nat.reduceLT,Value.bool.injEq,zEl]
    (repeat (first | refine Rn.seq hc ?_ | refine Rn.skip hc ?_ | refine Rn.block hc ?_ | refine Rn.inBlock hc ?_ | refine Rn.scope hc ?_ | refine Rn.inScope hc ?_))
    refine Rn.reg hc rfl ?_
    simp only [zAY,zAU,zAT,sp_n,Nat.reduceLT,ne_eq,Nat.reduceEqDiff,zNf,gd,zAX,rops,fx,ld,fad,idx,zAR,Nat.zero_add,zOi,zEl,Nat.mul_one,tk3,tk22,zCY,eo22,b1,zAK h,hcl1]
    (repeat (first | refine Rn.seq hc ?_ | refine Rn.skip hc ?_ | refine Rn.block hc ?_ | refine Rn.inBlock hc ?_ | refine Rn.scope hc ?_ | refine Rn.inScope hc ?_))
    refine Rn.ret (zAJ rfl ⟨?_,hx1⟩)
    simp only [zAU,sp_n,Nat.reduceLT]
    unfold atL
    rw [if_pos h]
  · have hd : decide ((n : Int) < (st.length : Int)) = false := by simp; omega
    have hlt : (n - st.length) % ro.length < ro.length := Nat.mod_lt _ hro
    obtain ⟨b,o,rfl,_,hb,hcl⟩ := hr _ hlt
    have hcl1 : cl A1 b (o + (n - st.length) % ro.length) = _ := (hx1.cl hb _).trans hcl
    have hsub : IntKind.i64.wrap ((n : Int) - (st.length : Int)) = ((n - st.length : Nat) : Int) := by rw [IntWalk.i64_in _ (by omega)]; omega
    have hrem : bin Try.prog .rem 3 (.int .i64 ((n - st.length : Nat) : Int)) (.int .i64 (ro.length : Int)) (bump A1 14) = some (.int .i64 (((n - st.length) % ro.length : Nat) : Int),bump A1 14) := by
      rw [zCM _ _ _ _ (by omega),IntWalk.rem_in _ _ (by omega)]
      rfl
    refine Rn.reg hc rfl ?_
    simp only [zAY,zAU,zAT,sp_n,Nat.reduceLT,ne_eq,Nat.reduceEqDiff,zNf,gd,zAX,rops,fx,ld,fad,lng,zAP,zAR,Nat.zero_add,zOi,zEl,tk22,zCY,un22,b1,hd]
    (repeat (first | refine Rn.seq hc ?_ | refine Rn.skip hc ?_ | refine Rn.block hc ?_ | refine Rn.inBlock hc ?_ | refine Rn.scope hc ?_ | refine Rn.inScope hc ?_))
    refine Rn.zAI hc rfl ?_
    simp only [zAY,zAU,sp_n,Nat.reduceLT,Value.bool.injEq,zEl]
    (repeat (first | refine Rn.seq hc ?_ | refine Rn.skip hc ?_ | refine Rn.block hc ?_ | refine Rn.inBlock hc ?_ | refine Rn.scope hc ?_ | refine Rn.inScope hc ?_))
    refine Rn.drawnR hc hx (by kernel_rfl) (by rfl) (by kernel_rfl) ?_ ?_
    · simp only [rdV,VQ.int,VQ.ptr,VQ.slice,zAB,zAY,zAU,zAT,sp_n,Nat.reduceLT,ne_eq,Nat.reduceEqDiff,zNf,gd,zAX,fx,ld,fad,idx,lng,zBA,zAR,Nat.zero_add,Nat.reduceAdd,Nat.mul_one,and_self,tk3,tk22,zCY,zDY,un22,eo22,b1,b2,hsub,hrem,zAK hlt,hcl1,List.length_cons,List.length_nil]
    simp only [zAB,zAY,zAU,zAT,sp_n,Nat.reduceLT,ne_eq,Nat.reduceEqDiff,zNf,gd,zAX,rops,fx,ld,fad,idx,lng,zBA,zAR,Nat.zero_add,zOi,zEl,Nat.reduceAdd,Nat.mul_one,tk3,tk22,zCY,zDY,un22,eo22,b1,b2,hsub,hrem,zAK hlt,hcl1,List.length_cons,List.length_nil]
    (repeat (first | refine Rn.seq hc ?_ | refine Rn.skip hc ?_ | refine Rn.block hc ?_ | refine Rn.inBlock hc ?_ | refine Rn.scope hc ?_ | refine Rn.inScope hc ?_))
    refine Rn.ret (zAJ rfl ⟨?_,Nx.bump hx1 _⟩)
    simp only [zAU,sp_n,Nat.reduceLT]
    unfold atL
    rw [if_neg h]
end Go.Proofs.Ytdaljohmfnfgiaa
namespace Go.Proofs.Ytdaljohmfnfgiaa
open Go Go.RowKit Go.Proofs.Ytdaljohmfnfgiaa.Canon
set_option maxRecDepth 20000
theorem ze22 : zCD Try.prog 22 = some (.slice none 0 0) := by kernel_rfl
theorem so22_1 : sof Try.prog 22 1 = .mk (fun k => some (k * 1,1)) 1 [.int .i64 0] := by kernel_rfl
section
variable {d : Option Tmp} {ty : TypeId} {pos : String} {af : Array Edge} {gu : Option (Nat × Bool)} {A : AHeap}
theorem bs22_1 {ρ : Operand → Value} {x : Tmp} (h : zAA (ρ (.tmp x)) = true) : zAL Try.prog ρ ⟨d,.buildSlice 22 1 #[(0,.tmp x)],ty,pos,af,gu⟩ A = some (.slice (some ⟨A.next,0,none⟩) 1 1,A.push (.cells #[ρ (.tmp x)] 3)) := by
  refine zCS (r := [ρ (.tmp x)]) (by rfl) so22_1 et22 rfl ?_
  simp [fbld,zBX h]
end
end Go.Proofs.Ytdaljohmfnfgiaa
namespace Go.Proofs.Ytdaljohmfnfgiaa
open Go Go.RowKit Go.Proofs.Ytdaljohmfnfgiaa.Canon
set_option maxRecDepth 20000
theorem aeq3 (k : Nat) (a b : Int) : aeq Try.prog (k + 1) 3 (.int .i64 a) (.int .i64 b) = some (a == b) := by
  simp [aeq]
section
variable {ρ : Operand → Value} {d : Option Tmp} {ty : TypeId} {pos : String} {af : Array Edge} {gu : Option (Nat × Bool)} {A : AHeap}
theorem bo86 : bof Try.prog 86 = .mk (nthR [(0,3)]) 3 [.int .i64 0,.slice none 0 0,.slice none 0 0] := by kernel_rfl
theorem bd86 {x : Tmp} (h : (ρ (.tmp x)).cells.size = 3) : zAL Try.prog ρ ⟨d,.build 86 #[(0,.tmp x)],ty,pos,af,gu⟩ A = some (.agg (ρ (.tmp x)).cells,A) := by
  refine ae_build (r := (ρ (.tmp x)).cells.toList) (by rfl) bo86 rfl ?_
  simp [fbld,nthR,h]
end
end Go.Proofs.Ytdaljohmfnfgiaa
namespace Go.Proofs.Ytdaljohmfnfgiaa
open Go Go.RowKit Go.Proofs.Ytdaljohmfnfgiaa.Canon
set_option maxRecDepth 20000
end Go.Proofs.Ytdaljohmfnfgiaa
namespace Go.Proofs.Ytdaljohmfnfgiaa
open Go Go.RowKit Go.Proofs.Ytdaljohmfnfgiaa.Canon
set_option maxRecDepth 20000
section
variable {ρ : Operand → Value} {d : Option Tmp} {ty : TypeId} {pos : String} {af : Array Edge} {gu : Option (Nat × Bool)}
theorem fb22_1 {x : Tmp} {v : Value} (hv : ρ (.tmp x) = v) (hcv : zAA v = true) : fobj Try.prog ρ ⟨d,.buildSlice 22 1 #[(0,.tmp x)],ty,pos,af,gu⟩ = some ⟨[v],3,.sl 1 1⟩ := by
  have := fbld_fill (ρ := ρ) (pl := fun k => some (k * 1,1)) (n := 1) (ps := [(0,.tmp x)]) (cs := [.int .i64 0]) (r := [v]) rfl (by simp [fbld,hv,zBX hcv])
  have hok : ([((0 : Nat),Operand.tmp x)].all fun p => zAF p.2) = true := rfl
  simp only [fobj,so22_1,et22,hok,this]
end
theorem DrL.call {S : Canon.Spec} {ops : Array Oper} {F : AHeap → Prop} {nb i : Nat} {o : Oper} {os : List Oper} {T : Slots} {A : AHeap} {K : Slots → List AHeap → Prop} (he : zBG Try.prog (cvE Try.prog ops) o = true) (hf : isFl Try.prog o = false) (hA : F A) (hw : zCQ (gd ops o) T = true) {R : Value → AHeap → Prop}
    (h : ∃ v A1,opRun Try.prog (runS Try.prog S) (zBU T) o A = some (v,A1) ∧ R v A1) (k : ∀ v A1,R v A1 → DrL Try.prog S ops F nb (i + 1) os (sput T o.dst v) [] A1 (fun T1 ms => K T1 (A :: ms))) : DrL Try.prog S ops F nb i (o :: os) T [] A K := by
  obtain ⟨v,A1,h1,h2⟩ := h
  exact DrL.eff he hf rfl rfl (ms0 := []) rfl (fun _ h => by cases h) hA hw h1 (k v A1 h2)
theorem Dr.call {S : Canon.Spec} {ops : Array Oper} {F : AHeap → Prop} {nb i : Nat} {o : Oper} {os : List Oper} {T : Slots} {A : AHeap} {K : Slots → List AHeap → Prop} (he : zBG Try.prog (cvE Try.prog ops) o = true) (hf : isFl Try.prog o = false) (hA : F A) (hw : zCQ (gd ops o) T = true) {R : Value → AHeap → Prop}
    (h : ∃ v A1,opRun Try.prog (runS Try.prog S) (zBU T) o A = some (v,A1) ∧ R v A1) (k : ∀ v A1,R v A1 → Dr Try.prog S ops F nb (i + 1) os (sput T o.dst v) [] A1 (fun T1 ms => K T1 (A :: ms))) : Dr Try.prog S ops F nb i (o :: os) T [] A K := by
  obtain ⟨v,A1,h1,h2⟩ := h
  exact Dr.eff0 he hf hA hw h1 (k v A1 h2)
structure Gr (A : AHeap) (a : Option Addr) (lo : Nat) (l : List Int) : Prop where
  ints : Ints A a lo A.next l
  sl : Sl A a lo
  wr : ∀ x,a = some x → ∃ y,Canon.look A.objs x.block = some y ∧ isRO y.grown y.esz = false
theorem Gr.nil (A : AHeap) (lo : Nat) : Gr A none lo [] := ⟨fun i hi => by simp at hi,fun x hx => (by cases hx),fun x hx => (by cases hx)⟩
theorem Gr.mono {A : AHeap} {a : Option Addr} {lo lo' : Nat} {l : List Int} (h : Gr A a lo l) (hl : lo' ≤ lo) : Gr A a lo' l := ⟨h.ints.mono hl (Nat.le_refl _),h.sl.mono hl,h.wr⟩
theorem Gr.ext {A B : AHeap} {a : Option Addr} {lo : Nat} {l : List Int} (h : Gr A a lo l) (hn : A.next ≤ B.next) (he : ∀ b,lo ≤ b → Canon.look A.objs b = none ∨ Canon.look B.objs b = Canon.look A.objs b) : Gr B a lo l := ⟨h.ints.ext he hn,h.sl.ext he,fun x hx => by
  obtain ⟨_,q,_⟩ := h.sl x hx
  obtain ⟨y,h1,h2⟩ := h.wr x hx
  rcases he _ q with h0 | h0
  · rw [h0] at h1; cases h1
  · exact ⟨y,h0.trans h1,h2⟩⟩
theorem Gr.nx {A B : AHeap} {a : Option Addr} {lo n : Nat} {l : List Int} (h : Gr A a lo l) (hw : WF A) (hx : Nx A.next A B) : Gr B a lo l := h.ext hx.next fun b _ => by
  by_cases hb : b < A.next
  · exact .inr (hx.keep b hb)
  · exact .inl (hw.none (by omega))
theorem Gr.kb {A B : AHeap} {a : Option Addr} {lo b : Nat} {l : List Int} (h : Gr A a lo l) (hw : WF A) (hk : Kb b A B) (hb : b < lo) : Gr B a lo l := h.ext hk.next fun b' hb' => by
  by_cases hlt : b' < A.next
  · exact .inr (hk.keep b' hlt (by omega))
  · exact .inl (hw.none (by omega))
theorem Gr.off {A B : AHeap} {a : Option Addr} {lo b : Nat} {l : List Int} (h : Gr A a lo l) {c : Array Value} (hk : Upd A b c B) (hb : b < lo) : Gr B a lo l := h.ext (Nat.le_of_eq hk.next.symm) fun b' hb' => .inr (hk.off b' (by omega))
theorem Gr.base {A : AHeap} {a : Option Addr} {lo : Nat} {l : List Int} (h : Gr A a lo l) : Base A a 1 := fun x hx => by
  obtain ⟨_,_,y,h1,h2⟩ := h.sl x hx
  exact ⟨y,h1,h2⟩
theorem gr_push {A : AHeap} (hw : WF A) {a : Option Addr} {lo : Nat} {l : List Int} (h : Gr A a lo l) {a2 : Option Addr} {c2 : Nat} {x : Int} {b2 : Nat} (ha2 : a2 = some ⟨b2,0,none⟩) (hx : cl A b2 0 = some (.int .i64 x)) (hlen : l.length ≤ 4000000) :
    ∃ A1,aapp Try.prog #[22,22] #[.slice a l.length l.length,.slice a2 1 c2] A = some (.slice (some ⟨A.next,0,none⟩) (l.length + 1) (l.length + 1),A1) ∧ A1.next = A.next + 1 ∧ WF A1 ∧ Gr A1 (some ⟨A.next,0,none⟩) A.next (l ++ [x]) ∧ (∀ b,b < A.next → (∀ y,a = some y → y.block ≠ b) → Canon.look A1.objs b = Canon.look A.objs b) ∧ Nx (min lo A.next) A A1 := by
  subst ha2
  obtain ⟨A1,h1,h2⟩ := aapp_new (P := Try.prog) (c := l.length) (c2 := c2) (a := a) (n := l.length) (l := l.map (Value.int .i64)) (m := 1) (a2 := some ⟨b2,0,none⟩) (l2 := [.int .i64 x]) el22 un22 h.ints.row (by simp) h.base (fun ha => by subst ha; exact h.ints.some)
    (.inr ⟨b2,0,rfl,fun i hi => by
      have : i = 0 := by simp at hi; omega
      subst this
      exact hx⟩) (by simp) rfl (fun h' => by cases h') (by omega) (by omega) (by omega)
  have hnx := h2.nx hw (n := min lo A.next) (Nat.min_le_right _ _) (fun y hy => by
    obtain ⟨_,q2,_⟩ := h.sl y hy
    exact .inl (by omega))
  refine ⟨A1,h1,h2.next,hnx.wf,⟨fun i hi => ⟨_,_,rfl,Nat.le_refl _,by rw [h2.next]; omega,?_⟩,fun y hy => by cases hy; exact ⟨rfl,Nat.le_refl _,_,h2.new,.inr ⟨rfl,rfl,rfl⟩⟩,fun y hy => by cases hy; exact ⟨_,h2.new,rfl⟩⟩,fun b hb hne => h2.old b (by omega) fun y hy => .inl (hne y hy),hnx⟩
  rw [h2.cl]
  simp only [Nat.zero_add,List.getD_eq_getElem?_getD]
  rw [List.length_append] at hi
  by_cases hil : i < l.length
  · rw [List.getElem?_append_left (by simpa using hil),List.getElem?_append_left hil]
    simp [hil]
  · have : i = l.length := by simp at hi; omega
    subst this
    simp
end Go.Proofs.Ytdaljohmfnfgiaa
namespace Go.Proofs.Ytdaljohmfnfgiaa
open Go Go.RowKit Go.Proofs.Ytdaljohmfnfgiaa.Canon
set_option maxRecDepth 20000
section
variable {ρ : Operand → Value} {d : Option Tmp} {ty : TypeId} {pos : String} {af : Array Edge} {gu : Option (Nat × Bool)} {A : AHeap}
theorem bd24_0 {x : Tmp} (hx : zAA (ρ (.tmp x)) = true) : zAL Try.prog ρ ⟨d,.build 24 #[(0,.tmp x)],ty,pos,af,gu⟩ A = some (.agg #[ρ (.tmp x),.slice none 0 0,.slice none 0 0],A) := by
  refine ae_build (by rfl) bo24 rfl ?_
  simp [fbld,nthR,zBX hx]
end
theorem put24L {A : AHeap} (hw : WF A) {v0 v1 v2 : Value} (h : [v0,v1,v2].all zAA = true) : ∃ A2,sts (A.push (.cells #[.int .i64 0,.slice none 0 0,.slice none 0 0] 24)) A.next 0 [v0,v1,v2] = some A2 ∧ Nx A.next A A2 ∧ A2.next = A.next + 1 ∧ Canon.look A2.objs A.next = some ⟨.cells #[v0,v1,v2] 24,false,0⟩ := by
  have hx1 : Nx A.next A (A.push (.cells #[.int .i64 0,.slice none 0 0,.slice none 0 0] 24)) := (Nx.refl hw _).push (Nat.le_refl _) _
  have hl := zAQ A (.cells #[.int .i64 0,.slice none 0 0,.slice none 0 0] 24)
  obtain ⟨A2,c2,q1,q2,q3,q4⟩ := sts_upd (l := [v0,v1,v2]) (o := 0) hl rfl (by simp) h
  obtain ⟨c,t,f,g,e,r1,r2,_⟩ := q2.at'
  rw [hl] at r1
  cases r1
  have hc : c2 = #[v0,v1,v2] := by
    refine Array.ext_getElem? fun i => ?_
    rw [q4 i]
    by_cases hi : i < 3
    · rw [if_pos ⟨Nat.zero_le _,by simpa using hi⟩]
      simp
    · rw [if_neg (by simp; omega)]
      rw [Array.getElem?_eq_none (by simp; omega),Array.getElem?_eq_none (by simp; omega)]
  subst hc
  exact ⟨A2,q1,hx1.trans (q2.nx hx1.wf (Nat.le_refl _)),q2.next,r2⟩
theorem Sack.same {A B : AHeap} {b : Nat} {a : Option Addr} {n c lim nx : Nat} (h : Sack A b a n c lim nx) (hw : WF B) (hk : ∀ b',b' ≤ b → Canon.look B.objs b' = Canon.look A.objs b') : Sack B b a n c lim nx := by
  obtain ⟨st,h1⟩ := h.at'
  refine ⟨hw,h.lm,⟨st,(hk b (Nat.le_refl _)).trans h1⟩,fun i hi => ?_⟩
  obtain ⟨b',o,v,e,hlt,hc⟩ := h.bys i hi
  have := h.lm
  exact ⟨b',o,v,e,hlt,by rw [zBT (hk b' (by omega))]; exact hc⟩
def bS (b : Nat) (a : Option Addr) (n c lim nx : Nat) (m : Int) : Canon.Spec := fun _ _ A v A1 => ∃ r : Nat,v = .int .i64 (r : Int) ∧ (r : Int) < max 1 m ∧ Kb b A A1 ∧ ∃ nx',nx' ≤ nx + 1 ∧ Sack A1 b a n c lim nx'
structure DrawnQ (A : AHeap) (b : Nat) (a : Option Addr) (n c lim nx : Nat) (m : Nat) (stem round : Nat) (v : Value) (A1 : AHeap) : Prop where
  kb : Kb b A A1
  sack : ∃ nx',nx' ≤ nx + 3 + stem + round ∧ Sack A1 b a n c lim nx'
  val : ∃ sa ra,∃ st ro : List Int,v = .agg #[.int .i64 (m : Int),.slice sa st.length st.length,.slice ra ro.length ro.length] ∧ st.length ≤ stem ∧ 1 ≤ ro.length ∧ ro.length ≤ round ∧ st.all (inB m) = true ∧ ro.all (inB m) = true ∧ Gr A1 sa A.next st ∧ Gr A1 ra A.next ro
theorem drawn {A : AHeap} {b : Nat} {a : Option Addr} {n c lim nx : Nat} (h : Sack A b a n c lim nx) (hnx : nx < 1000000) (hn0 : n < 9223372036854775808) {m stem round : Nat} (hm : 1 ≤ m ∧ m ≤ 65521) (hst : stem ≤ 1000) (hro : 1 ≤ round ∧ round ≤ 1000) :
    Con Try.prog 57 [.pointer (some ⟨b,0,none⟩),.int .i64 (m : Int),.int .i64 (stem : Int),.int .i64 (round : Int)] A (DrawnQ A b a n c lim nx m stem round) := by
  refine zAM hc Try.func57 rfl (Nat.le_of_ble_eq_true rfl) ?_
  have hbA : b < A.next := by obtain ⟨_,q⟩ := h.at'; exact h.wf _ _ q
  have hx1 : Nx A.next A (A.push (.cells #[.int .i64 0,.slice none 0 0,.slice none 0 0] 24)) := (Nx.refl h.wf _).push (Nat.le_refl _) _
  have l1 := zAQ A (.cells #[.int .i64 0,.slice none 0 0,.slice none 0 0] 24)
  have hn1 : (A.push (.cells #[.int .i64 0,.slice none 0 0,.slice none 0 0] 24)).next = A.next + 1 := rfl
  generalize e1 : A.push (.cells #[.int .i64 0,.slice none 0 0,.slice none 0 0] 24) = A1 at hx1 l1 hn1
  obtain ⟨A2,p2,hx2,hn2,l2⟩ := put24L hx1.wf (v0 := .int .i64 (m : Int)) (v1 := .slice none 0 0) (v2 := .slice none 0 0) rfl
  rw [s_in4]
  (repeat (first | refine Rn.seq hc ?_ | refine Rn.skip hc ?_ | refine Rn.block hc ?_ | refine Rn.inBlock hc ?_ | refine Rn.scope hc ?_ | refine Rn.inScope hc ?_))
  refine Rn.reg hc rfl ?_
  simp only [gd,zAX,rops,fx,zOi,zEl,Value.cells,show Try.f57.ntmps = 46 from rfl,ze24,e1]
  (repeat (first | refine Rn.seq hc ?_ | refine Rn.skip hc ?_ | refine Rn.block hc ?_ | refine Rn.inBlock hc ?_ | refine Rn.scope hc ?_ | refine Rn.inScope hc ?_))
  refine Rn.reg hc rfl ?_
  simp only [zAY,zAU,zAT,sp_n,zAN,Nat.reduceLT,ne_eq,Nat.reduceEqDiff,zNf,gd,zAX,rops,fx,str,zAR,Nat.zero_add,zOi,zEl,Value.cells,Nat.reduceAdd,tk24,bd24_0,zAA,ze24,p2,List.size_toArray,List.length_cons,List.length_nil,Nat.beq_refl]
  (repeat (first | refine Rn.seq hc ?_ | refine Rn.skip hc ?_ | refine Rn.block hc ?_ | refine Rn.inBlock hc ?_ | refine Rn.scope hc ?_ | refine Rn.inScope hc ?_))
  have hx02 : Nx A.next A A2 := hx1.trans (hx2.le hx1.next)
  have S2 : Sack A2 b a n c lim nx := h.same hx2.wf fun b' hb' => hx02.keep _ (by omega)
  have l1 : Canon.look A2.objs A.next = _ := (hx2.keep _ (by omega)).trans l1
  rw [hn1] at l2 hn2
  refine Rn.region hc fun K hK => ?_
  refine Wo.run hc 2 rfl rfl rfl ?_
  simp (maxSteps := 2000000) only [List.drop_zero,List.take_succ_cons,List.take_zero,zAY,zAU,zAT,sp_n,Nat.reduceLT,ne_eq,Nat.reduceEqDiff,not_false_eq_true,gd,zAX,rops,fx,Nat.zero_add,Option.some.injEq,exists_eq_left']
  refine Wo.call hc (by rfl) (by rfl) ⟨by rfl,by rfl⟩ (xs := [.pointer (some ⟨b,0,none⟩),.int .i64 ((1 : Nat) : Int),.int .i64 (m : Int)]) (by rfl) (by rfl) (by rfl) (Con.mono (among_sack S2 (by omega) hn0 (lo := 1) (hi := m) hm.1 (by omega)) ?_)
  rintro v A3 ⟨r,rfl,r1,r2,k3,nx3,hnx3,S3⟩
  refine Wo.run hc 1 rfl rfl rfl ?_
  simp (maxSteps := 2000000) only [List.drop_zero,List.drop_succ_cons,List.take_succ_cons,List.take_zero,zAY,zAU,sp_n,Nat.reduceLT,gd,zAX,rops,fx,Option.some.injEq,exists_eq_left',Nat.reduceAdd]
  refine Wo.done hc rfl (hK _ _ ?_)
  clear hK
  (repeat (first | refine Rn.seq hc ?_ | refine Rn.skip hc ?_ | refine Rn.block hc ?_ | refine Rn.inBlock hc ?_ | refine Rn.scope hc ?_ | refine Rn.inScope hc ?_))
  have l1 : Canon.look A3.objs A.next = _ := (k3.keep _ (by omega) (by omega)).trans l1
  have l2 : Canon.look A3.objs (A.next + 1) = _ := (k3.keep _ (by omega) (by omega)).trans l2
  have K3 : Kb b A A3 := (Kb.of_nx b hx02).trans k3
  have n3 : A.next + 2 ≤ A3.next := by have := k3.next; omega
  refine Rn.region hc fun K hK => ?_
  refine Wo.run hc 3 rfl rfl rfl ?_
  simp (maxSteps := 2000000) only [List.drop_zero,List.take_succ_cons,List.take_zero,zAY,zAS,zAU,zAT,sp_n,Nat.reduceLT,ne_eq,Nat.reduceEqDiff,not_false_eq_true,gd,zAX,rops,fx,zAE,Nat.zero_add,Option.some.injEq,exists_eq_left',zBY (show stem < 9223372036854775807 by omega)]
  refine Wo.call hc (by rfl) (by rfl) ⟨by rfl,by rfl⟩ (xs := [.pointer (some ⟨b,0,none⟩),.int .i64 ((stem + 1 : Nat) : Int)]) (by rfl) (by rfl) (by rfl) (Con.mono (below_sack S3 (by omega) hn0 (m := ((stem + 1 : Nat) : Int)) (by omega)) ?_)
  rintro v A4 ⟨cnt,rfl,hcnt,k4,nx4,hnx4,S4⟩
  have hcnt : cnt ≤ stem := by omega
  refine Wo.run hc 1 rfl rfl rfl ?_
  simp (maxSteps := 2000000) only [List.drop_zero,List.drop_succ_cons,List.take_succ_cons,List.take_zero,zAS,gd,zAX,rops,fx,Option.some.injEq,exists_eq_left',Nat.reduceAdd]
  refine Wo.done hc rfl (hK _ _ ?_)
  clear hK
  (repeat (first | refine Rn.seq hc ?_ | refine Rn.skip hc ?_ | refine Rn.block hc ?_ | refine Rn.inBlock hc ?_ | refine Rn.scope hc ?_ | refine Rn.inScope hc ?_))
  have l1 : Canon.look A4.objs A.next = _ := (k4.keep _ (by omega) (by omega)).trans l1
  have l2 : Canon.look A4.objs (A.next + 1) = _ := (k4.keep _ (by omega) (by omega)).trans l2
  have K4 : Kb b A A4 := K3.trans k4
  have n4 : A.next + 2 ≤ A4.next := by have := k4.next; omega
  refine Rn.loopI hc (I := fun k s A' => ∃ sa,∃ st : List Int,∃ nx',k = cnt - st.length ∧ st.length ≤ cnt ∧ st.all (inB m) = true ∧ Kb b A A' ∧ nx' ≤ nx + 2 + st.length ∧ Sack A' b a n c lim nx' ∧ Canon.look A'.objs A.next = some ⟨.cells #[.int .i64 0,.slice none 0 0,.slice none 0 0] 24,false,0⟩ ∧
      Canon.look A'.objs (A.next + 1) = some ⟨.cells #[.int .i64 (m : Int),.slice sa st.length st.length,.slice none 0 0] 24,false,0⟩ ∧ Gr A' sa (A.next + 2) st ∧ A.next + 2 ≤ A'.next ∧
      s.n = 46 ∧ sget s 0 = .pointer (some ⟨b,0,none⟩) ∧ sget s 3 = .int .i64 (round : Int) ∧ sget s 8 = .pointer (some ⟨A.next,0,none⟩) ∧ sget s 9 = .pointer (some ⟨A.next + 1,0,none⟩) ∧ sget s 10 = .int .i64 (r : Int) ∧ sget s 19 = .int .i64 (cnt : Int) ∧ sget s 20 = .int .i64 (st.length : Int))
    (n := cnt) ⟨none,[],nx4,rfl,Nat.zero_le _,rfl,K4,by simp; omega,S4,l1,l2,Gr.nil _ _,n4,by simp only [sp_n],by simp only [zAU,zAT,Nat.reduceLT,ne_eq,Nat.reduceEqDiff,zNf],by simp only [zAU,zAT,sp_n,Nat.reduceLT,ne_eq,Nat.reduceEqDiff,zNf],by simp only [zAU,zAT,sp_n,Nat.reduceLT,ne_eq,Nat.reduceEqDiff,zNf],by simp only [zAU,zAT,sp_n,Nat.reduceLT,ne_eq,Nat.reduceEqDiff,zNf,hn1],by simp only [zAU,zAT,sp_n,Nat.reduceLT,ne_eq,Nat.reduceEqDiff,zNf],by simp only [zAU,zAT,sp_n,Nat.reduceLT,ne_eq,Nat.reduceEqDiff,zNf],by simp only [zAU,sp_n,Nat.reduceLT]; rfl⟩ ?_
  clear l1 l2 K4 n4 S4 k4 S3 k3 K3 n3 S2 hx02 hx2 p2 hn2 hnx4 hnx3
  clear hn1 hx1 e1
  rintro k s A' ⟨sa,st,nx',rfl,hle,hin,K',hnx',S',l1,l2,hg,hn',hn,s0,s3,s8,s9,s10,s19,s20⟩ ih
  (repeat (first | refine Rn.seq hc ?_ | refine Rn.skip hc ?_ | refine Rn.block hc ?_ | refine Rn.inBlock hc ?_ | refine Rn.scope hc ?_ | refine Rn.inScope hc ?_))
  have hd0 : (max 1 (r : Int)) = (r : Int) := by omega
  by_cases hlt : st.length < cnt
  · have hd : decide ((st.length : Int) < (cnt : Int)) = true := by simp; omega
    refine Rn.reg hc rfl ?_
    simp only [zAY,gd,zAX,rops,fx,zAP,zOi,zEl,s19,s20,hd]
    (repeat (first | refine Rn.seq hc ?_ | refine Rn.skip hc ?_ | refine Rn.block hc ?_ | refine Rn.inBlock hc ?_ | refine Rn.scope hc ?_ | refine Rn.inScope hc ?_))
    refine Rn.zAI hc rfl ?_
    simp only [zAY,zAU,Nat.reduceLT,Value.bool.injEq,zEl,hn]
    (repeat (first | refine Rn.seq hc ?_ | refine Rn.skip hc ?_ | refine Rn.block hc ?_ | refine Rn.inBlock hc ?_ | refine Rn.scope hc ?_ | refine Rn.inScope hc ?_))
    have c1 : cl A' (A.next + 1) 1 = some (.slice sa st.length st.length) := by rw [zBM l2 rfl]; rfl
    obtain ⟨F,hF,hF'⟩ : ∃ F : AHeap → Prop,(∀ M,F M → cl M (A.next + 1) 1 = some (.slice sa st.length st.length)) ∧ (∀ M,Canon.look M.objs (A.next + 1) = Canon.look A'.objs (A.next + 1) → F M) :=
      ⟨fun M => cl M (A.next + 1) 1 = some (.slice sa st.length st.length),fun _ h => h,fun M e => (zBT e).trans c1⟩
    have hb : b < A.next := hbA
    have hxB : Nx A'.next A' (bump A' 9) := Nx.bump (Nx.refl S'.wf _) 9
    have FB := hF' (bump A' 9) rfl
    have SB : Sack (bump A' 9) b a n c lim nx' := S'.same hxB.wf fun _ _ => rfl
    refine Rn.drawnL hc hx (bS b a n c lim nx' r) F (E := [4,5,6]) (n := 8) (k := 9) (by kernel_rfl) (by kernel_rfl) (by rfl) (by kernel_rfl) ?_
    refine DrL.read (by first | rfl | kernel_rfl) (by rfl) (by assumption) (fun M hM => by simp only [zAY,zAT,ne_eq,Nat.reduceEqDiff,zNf,fx,fad,zAR,Nat.zero_add,zCY,s9] <;> rfl) (by rfl) (by first | exact VQ.int _ _ | exact VQ.bool _ | exact VQ.ptr _ _ | exact VQ.slice _ _ _ | exact VQ.func (by simp [zAW,zAV,zAZ]) (by simp [zAW,zAV,zAZ]) | exact VQ.agg (by simp [zAW,zAV,zAZ]) | exact VQ.tuple (by simp [zAW,zAV,zAZ])) ?_
    refine DrL.read (by first | rfl | kernel_rfl) (by rfl) (by assumption) (fun M hM => by simp only [zAY,zAU,sp_n,Nat.reduceLT,fx,ld,zAR,tk22,hn,hF M hM] <;> rfl) (by rfl) (by first | exact VQ.int _ _ | exact VQ.bool _ | exact VQ.ptr _ _ | exact VQ.slice _ _ _ | exact VQ.func (by simp [zAW,zAV,zAZ]) (by simp [zAW,zAV,zAZ]) | exact VQ.agg (by simp [zAW,zAV,zAZ]) | exact VQ.tuple (by simp [zAW,zAV,zAZ])) ?_
    refine DrL.read (by first | rfl | kernel_rfl) (by rfl) (by assumption) (fun M hM => by simp only [zAY,zAT,ne_eq,Nat.reduceEqDiff,zNf,fx,s0] <;> rfl) (by rfl) (by first | exact VQ.int _ _ | exact VQ.bool _ | exact VQ.ptr _ _ | exact VQ.slice _ _ _ | exact VQ.func (by simp [zAW,zAV,zAZ]) (by simp [zAW,zAV,zAZ]) | exact VQ.agg (by simp [zAW,zAV,zAZ]) | exact VQ.tuple (by simp [zAW,zAV,zAZ])) ?_
    refine DrL.read (by first | rfl | kernel_rfl) (by rfl) (by assumption) (fun M hM => by simp only [zAY,zAT,ne_eq,Nat.reduceEqDiff,zNf,fx,s10] <;> rfl) (by rfl) (by first | exact VQ.int _ _ | exact VQ.bool _ | exact VQ.ptr _ _ | exact VQ.slice _ _ _ | exact VQ.func (by simp [zAW,zAV,zAZ]) (by simp [zAW,zAV,zAZ]) | exact VQ.agg (by simp [zAW,zAV,zAZ]) | exact VQ.tuple (by simp [zAW,zAV,zAZ])) ?_
    refine DrL.call (by kernel_rfl) (by rfl) (by assumption) (by rfl) (zAC (by rfl) ⟨by rfl,by rfl⟩ (by rfl) (xs := [.pointer (some ⟨b,0,none⟩),.int .i64 (r : Int)]) (by simp only [zAY,zAU,zAT,sp_n,Nat.reduceLT,ne_eq,Nat.reduceEqDiff,zNf,List.map_cons,List.map_nil,List.nil_append,List.append_nil,hn]) (below_sack SB (by omega) hn0 (m := (r : Int)) (by omega))) ?_
    rintro v B1 ⟨x,rfl,hx1,k1,nx1,hnx1,S1⟩
    have L1 : Canon.look B1.objs (A.next + 1) = Canon.look A'.objs (A.next + 1) := k1.keep _ (by rw [zAH]; omega) (by omega)
    have F1 := hF' _ L1
    refine DrL.float (by rfl) (by rfl) (by rfl) (fb22_1 (v := .int .i64 (x : Int)) (by simp only [zAY,zAU,sp_n,Nat.reduceLT,hn]) rfl) ?_
    have hnb : Canon.look B1.objs (A'.next + 5) = none := by rw [k1.keep _ (by rw [zAH]; omega) (by omega)]; exact S'.wf.none (by omega)
    obtain ⟨B2,p1,hxB2,eB2,lB2,kB2⟩ := place_row (N := 0) (Nx.refl k1.wf 0) (b := A'.next + 5) (Nat.zero_le _) (by have := k1.next; rw [zAH] at this; omega) hnb [.int .i64 (x : Int)] 3 1 1
    have F2 := hF' B2 ((kB2 _ (by omega)).trans L1)
    have hg1 : Gr B1 sa (A.next + 2) st := (hg.nx (n := 0) S'.wf hxB).kb hxB.wf k1 (by omega)
    have hg2 : Gr B2 sa (A.next + 2) st := hg1.ext (Nat.le_of_eq eB2.symm) fun b' hb' => by
      by_cases hbb : b' = A'.next + 5
      · exact .inl (hbb ▸ hnb)
      · exact .inr (kB2 _ hbb)
    obtain ⟨B3,q1,n3,w3,hg3,kp3,_⟩ := gr_push hxB2.wf hg2 (a2 := some ⟨A'.next + 5,0,none⟩) (c2 := 1) (b2 := A'.next + 5) (x := (x : Int)) rfl (by rw [zBM lB2 rfl]; rfl) (by omega)
    have nB2 : A.next + 2 ≤ B2.next := by have := k1.next; rw [zAH] at this; omega
    have hbase : ∀ b',b' < A.next + 2 → ∀ y,sa = some y → y.block ≠ b' := fun b' hb' y hy => by
      obtain ⟨_,q,_⟩ := hg2.sl y hy
      omega
    have L3 : ∀ b',b' < A.next + 2 → b' ≠ b → Canon.look B3.objs b' = Canon.look A'.objs b' := fun b' hb' hne => by
      rw [kp3 b' (by omega) (hbase b' hb'),kB2 _ (by omega),k1.keep _ (by rw [zAH]; omega) hne]
      rfl
    have F3 := hF' B3 (L3 _ (by omega) (by omega))
    refine DrL.eff (by rfl) (by rfl) (pd1 := [(5,⟨[.int .i64 (x : Int)],3,.sl 1 1⟩)]) (pd2 := []) (by kernel_rfl) (by kernel_rfl) (ms0 := [B1]) (A0 := B2) (by simp only [zBO,p1]) (fun M hM => by rw [List.mem_singleton] at hM; rw [hM]; exact F1) F2 (by rfl)
      (v := .slice (some ⟨B2.next,0,none⟩) (st.length + 1) (st.length + 1)) (A1 := B3) (zBK rfl (by simp only [zAY,zAU,zAT,sp_n,Nat.reduceLT,ne_eq,Nat.reduceEqDiff,zNf,Nat.zero_add,Nat.reduceAdd,hn,ae_apd,apd_slice,FK.val]; exact q1)) ?_
    refine DrL.read (by first | rfl | kernel_rfl) (by rfl) (by assumption) (fun M hM => by simp only [zAY,zAT,ne_eq,Nat.reduceEqDiff,zNf,fx,fad,zAR,Nat.zero_add,Nat.reduceAdd,zCY,s9] <;> rfl) (by rfl) (by first | exact VQ.int _ _ | exact VQ.bool _ | exact VQ.ptr _ _ | exact VQ.slice _ _ _ | exact VQ.func (by simp [zAW,zAV,zAZ]) (by simp [zAW,zAV,zAZ]) | exact VQ.agg (by simp [zAW,zAV,zAZ]) | exact VQ.tuple (by simp [zAW,zAV,zAZ])) ?_
    have l3 : Canon.look B3.objs (A.next + 1) = _ := (L3 _ (by omega) (by omega)).trans l2
    obtain ⟨B4,u1,u2⟩ := st1_upd (o := 1) (v := .slice (some ⟨B2.next,0,none⟩) (st.length + 1) (st.length + 1)) l3 rfl (by simp) rfl
    refine DrL.eff (by rfl) (by rfl) (pd1 := []) (pd2 := []) (by kernel_rfl) (by kernel_rfl) (ms0 := []) (A0 := B3) rfl (fun _ h => by cases h) F3 (by rfl) (v := undef) (A1 := B4) (zBK rfl (fx_ok (by rfl) (by simp only [zAY,zAU,zAT,sp_n,Nat.reduceLT,ne_eq,Nat.reduceEqDiff,zNf,fx,str,zAR,Nat.zero_add,Nat.reduceAdd,tk22,hn,u1]))) ?_
    refine DrL.nil ⟨by rfl,B4,by rfl,?_⟩
    (repeat (first | refine Rn.seq hc ?_ | refine Rn.skip hc ?_ | refine Rn.block hc ?_ | refine Rn.inBlock hc ?_ | refine Rn.scope hc ?_ | refine Rn.inScope hc ?_))
    refine Rn.reg hc rfl ?_
    simp only [zAY,zAS,zAU,zAT,sp_n,zAN,Nat.reduceLT,ne_eq,Nat.reduceEqDiff,zNf,gd,zAX,rops,fx,zAE,Nat.zero_add,zOi,zEl,Nat.reduceAdd,hn,s20,zBY (show st.length < 9223372036854775807 by omega)]
    (repeat (first | refine Rn.seq hc ?_ | refine Rn.skip hc ?_ | refine Rn.block hc ?_ | refine Rn.inBlock hc ?_ | refine Rn.scope hc ?_ | refine Rn.inScope hc ?_))
    have l4 : Canon.look B4.objs (A.next + 1) = some ⟨.cells #[.int .i64 (m : Int),.slice (some ⟨B2.next,0,none⟩) (st.length + 1) (st.length + 1),.slice none 0 0] 24,false,0⟩ := by
      obtain ⟨c,t,f,g,e,r1,r2,_⟩ := u2.at'
      rw [l3] at r1
      cases r1
      exact r2
    have hL4 : ∀ b',b' ≠ A.next + 1 → Canon.look B4.objs b' = Canon.look B3.objs b' := u2.off
    have hw4 : WF B4 := (u2.nx w3 (Nat.zero_le _)).wf
    have hlen : (st ++ [(x : Int)]).length = st.length + 1 := by simp
    refine ih _ _ _ (by rw [show cnt - st.length = cnt - (st.length + 1) + 1 by omega]; exact Nat.lt_succ_self _) ⟨some ⟨B2.next,0,none⟩,st ++ [(x : Int)],nx1,by rw [hlen],by rw [hlen]; omega,?_,⟨by have := K'.next; have := k1.next; rw [zAH] at this; have := u2.next; omega,hw4,fun b' hb' hne => ?_⟩,by rw [hlen]; omega,S1.same hw4 fun b' hb' => ?_,?_,by rw [hlen]; exact l4,?_,by have := u2.next; omega,by simp only [sp_n,hn],by simp only [zAT,ne_eq,Nat.reduceEqDiff,zNf,s0],by simp only [zAT,ne_eq,Nat.reduceEqDiff,zNf,s3],by simp only [zAT,ne_eq,Nat.reduceEqDiff,zNf,s8],by simp only [zAT,ne_eq,Nat.reduceEqDiff,zNf,s9],by simp only [zAT,ne_eq,Nat.reduceEqDiff,zNf,s10],by simp only [zAT,ne_eq,Nat.reduceEqDiff,zNf,s19],by simp only [zAU,sp_n,Nat.reduceLT,hn,hlen]⟩
    · rw [List.all_append,hin]
      simp [inB]
      omega
    · rw [hL4 _ (by omega),L3 _ (by omega) hne]
      exact K'.keep _ hb' hne
    · rw [hL4 _ (by omega),kp3 b' (by omega) (hbase b' (by omega)),kB2 _ (by omega)]
    · rw [hL4 _ (by omega),L3 _ (by omega) (by omega)]
      exact l1
    · exact (hg3.off u2 (by omega)).mono (by omega)
  · have hd : decide ((st.length : Int) < (cnt : Int)) = false := by simp; omega
    clear ih
    refine Rn.reg hc rfl ?_
    simp only [zAY,gd,zAX,rops,fx,zAP,zOi,zEl,s19,s20,hd]
    (repeat (first | refine Rn.seq hc ?_ | refine Rn.skip hc ?_ | refine Rn.block hc ?_ | refine Rn.inBlock hc ?_ | refine Rn.scope hc ?_ | refine Rn.inScope hc ?_))
    refine Rn.zAI hc rfl ?_
    simp only [zAY,zAU,Nat.reduceLT,Value.bool.injEq,zEl,hn]
    (repeat (first | refine Rn.seq hc ?_ | refine Rn.skip hc ?_ | refine Rn.block hc ?_ | refine Rn.inBlock hc ?_ | refine Rn.scope hc ?_ | refine Rn.inScope hc ?_))
    refine Rn.exit hc rfl ?_
    (repeat (first | refine Rn.seq hc ?_ | refine Rn.skip hc ?_ | refine Rn.block hc ?_ | refine Rn.inBlock hc ?_ | refine Rn.scope hc ?_ | refine Rn.inScope hc ?_))
    refine Rn.region hc fun K hK => ?_
    refine Wo.run hc 2 rfl rfl rfl ?_
    simp (maxSteps := 2000000) only [List.drop_zero,List.take_succ_cons,List.take_zero,zAY,zAT,ne_eq,Nat.reduceEqDiff,not_false_eq_true,gd,zAX,rops,fx,Nat.zero_add,Option.some.injEq,exists_eq_left',s0,s3]
    refine Wo.call hc (by rfl) (by rfl) ⟨by rfl,by rfl⟩ (xs := [.pointer (some ⟨b,0,none⟩),.int .i64 ((1 : Nat) : Int),.int .i64 (round : Int)]) (by rfl) (by rfl) (by first | rfl | (simp only [zAY,zAS,zAU,zAT,sp_n,Nat.reduceLT,ne_eq,Nat.reduceEqDiff,zNf,List.map_cons,List.map_nil,List.nil_append,List.append_nil,hn]; done) | (simp only [zAY,zAS,zAU,zAT,sp_n,Nat.reduceLT,ne_eq,Nat.reduceEqDiff,zNf,List.map_cons,List.map_nil,List.nil_append,List.append_nil,hn]; rfl)) (Con.mono (among_sack S' (by omega) hn0 (lo := 1) (hi := round) hro.1 (by omega)) ?_)
    rintro v A5 ⟨cnt2,rfl,cr1,cr2,k5,nx5,hnx5,S5⟩
    refine Wo.run hc 1 rfl rfl rfl ?_
    simp (maxSteps := 2000000) only [List.drop_zero,List.drop_succ_cons,List.take_succ_cons,List.take_zero,zAS,gd,zAX,rops,fx,Option.some.injEq,exists_eq_left',Nat.reduceAdd]
    refine Wo.done hc rfl (hK _ _ ?_)
    clear hK
    (repeat (first | refine Rn.seq hc ?_ | refine Rn.skip hc ?_ | refine Rn.block hc ?_ | refine Rn.inBlock hc ?_ | refine Rn.scope hc ?_ | refine Rn.inScope hc ?_))
    have l1 : Canon.look A5.objs A.next = _ := (k5.keep _ (by omega) (by omega)).trans l1
    have l2 : Canon.look A5.objs (A.next + 1) = _ := (k5.keep _ (by omega) (by omega)).trans l2
    have K5 : Kb b A A5 := K'.trans k5
    have n5 : A.next + 2 ≤ A5.next := by have := k5.next; omega
    have hg5 : Gr A5 sa (A.next + 2) st := hg.kb S'.wf k5 (by omega)
    have hnx5 : nx5 ≤ nx + 3 + stem := by omega
    have wf5 := S5.wf
    refine Rn.loopI hc (I := fun k s A' => ∃ ra,∃ ro : List Int,∃ nx',k = cnt2 - ro.length ∧ ro.length ≤ cnt2 ∧ ro.all (inB m) = true ∧ Kb b A A' ∧ nx' ≤ nx + 3 + stem + ro.length ∧ Sack A' b a n c lim nx' ∧ Canon.look A'.objs A.next = some ⟨.cells #[.int .i64 0,.slice none 0 0,.slice none 0 0] 24,false,0⟩ ∧
        Canon.look A'.objs (A.next + 1) = some ⟨.cells #[.int .i64 (m : Int),.slice sa st.length st.length,.slice ra ro.length ro.length] 24,false,0⟩ ∧ (∀ b',b' < A5.next → b' ≠ b → b' ≠ A.next + 1 → Canon.look A'.objs b' = Canon.look A5.objs b') ∧ Gr A' ra A5.next ro ∧ A5.next ≤ A'.next ∧
        s.n = 46 ∧ sget s 0 = .pointer (some ⟨b,0,none⟩) ∧ sget s 8 = .pointer (some ⟨A.next,0,none⟩) ∧ sget s 9 = .pointer (some ⟨A.next + 1,0,none⟩) ∧ sget s 10 = .int .i64 (r : Int) ∧ sget s 33 = .int .i64 (cnt2 : Int) ∧ sget s 34 = .int .i64 (ro.length : Int))
      (n := cnt2) ⟨none,[],nx5,rfl,Nat.zero_le _,rfl,K5,by simp; omega,S5,l1,l2,fun _ _ _ _ => rfl,Gr.nil _ _,Nat.le_refl _,by simp only [sp_n,hn],by simp only [zAT,ne_eq,Nat.reduceEqDiff,zNf,s0],by simp only [zAT,ne_eq,Nat.reduceEqDiff,zNf,s8],by simp only [zAT,ne_eq,Nat.reduceEqDiff,zNf,s9],by simp only [zAT,ne_eq,Nat.reduceEqDiff,zNf,s10],by simp only [zAU,zAT,sp_n,Nat.reduceLT,ne_eq,Nat.reduceEqDiff,zNf,hn],by simp only [zAU,sp_n,Nat.reduceLT,hn]; rfl⟩ ?_
    clear hn s0 s3 s8 s9 s10 s19 s20 l1 l2 K5 S5 k5 hg hn' S' K' hnx'
    clear hd
    rintro k s A' ⟨ra,ro,nx',rfl,hle2,hin2,K',hnx',S',l1,l2,kp5,hg,hn',hn,s0,s8,s9,s10,s33,s34⟩ ih
    (repeat (first | refine Rn.seq hc ?_ | refine Rn.skip hc ?_ | refine Rn.block hc ?_ | refine Rn.inBlock hc ?_ | refine Rn.scope hc ?_ | refine Rn.inScope hc ?_))
    by_cases hlt : ro.length < cnt2
    · have hd : decide ((ro.length : Int) < (cnt2 : Int)) = true := by simp; omega
      refine Rn.reg hc rfl ?_
      simp only [zAY,gd,zAX,rops,fx,zAP,zOi,zEl,s33,s34,hd]
      (repeat (first | refine Rn.seq hc ?_ | refine Rn.skip hc ?_ | refine Rn.block hc ?_ | refine Rn.inBlock hc ?_ | refine Rn.scope hc ?_ | refine Rn.inScope hc ?_))
      refine Rn.zAI hc rfl ?_
      simp only [zAY,zAU,Nat.reduceLT,Value.bool.injEq,zEl,hn]
      (repeat (first | refine Rn.seq hc ?_ | refine Rn.skip hc ?_ | refine Rn.block hc ?_ | refine Rn.inBlock hc ?_ | refine Rn.scope hc ?_ | refine Rn.inScope hc ?_))
      have c1 : cl A' (A.next + 1) 2 = some (.slice ra ro.length ro.length) := by rw [zBM l2 rfl]; rfl
      obtain ⟨F,hF,hF'⟩ : ∃ F : AHeap → Prop,(∀ M,F M → cl M (A.next + 1) 2 = some (.slice ra ro.length ro.length)) ∧ (∀ M,Canon.look M.objs (A.next + 1) = Canon.look A'.objs (A.next + 1) → F M) :=
        ⟨fun M => cl M (A.next + 1) 2 = some (.slice ra ro.length ro.length),fun _ h => h,fun M e => (zBT e).trans c1⟩
      have hb : b < A.next := hbA
      have hxB : Nx A'.next A' (bump A' 9) := Nx.bump (Nx.refl S'.wf _) 9
      have FB := hF' (bump A' 9) rfl
      have SB : Sack (bump A' 9) b a n c lim nx' := S'.same hxB.wf fun _ _ => rfl
      refine Rn.drawnL hc hx (bS b a n c lim nx' r) F (E := [4,5,6]) (n := 8) (k := 9) (by kernel_rfl) (by kernel_rfl) (by rfl) (by kernel_rfl) ?_
      refine DrL.read (by first | rfl | kernel_rfl) (by rfl) (by assumption) (fun M hM => by simp only [zAY,zAT,ne_eq,Nat.reduceEqDiff,zNf,fx,fad,zAR,Nat.zero_add,zDY,s9] <;> rfl) (by rfl) (by first | exact VQ.int _ _ | exact VQ.bool _ | exact VQ.ptr _ _ | exact VQ.slice _ _ _ | exact VQ.func (by simp [zAW,zAV,zAZ]) (by simp [zAW,zAV,zAZ]) | exact VQ.agg (by simp [zAW,zAV,zAZ]) | exact VQ.tuple (by simp [zAW,zAV,zAZ])) ?_
      refine DrL.read (by first | rfl | kernel_rfl) (by rfl) (by assumption) (fun M hM => by simp only [zAY,zAU,sp_n,Nat.reduceLT,fx,ld,zAR,tk22,hn,hF M hM] <;> rfl) (by rfl) (by first | exact VQ.int _ _ | exact VQ.bool _ | exact VQ.ptr _ _ | exact VQ.slice _ _ _ | exact VQ.func (by simp [zAW,zAV,zAZ]) (by simp [zAW,zAV,zAZ]) | exact VQ.agg (by simp [zAW,zAV,zAZ]) | exact VQ.tuple (by simp [zAW,zAV,zAZ])) ?_
      refine DrL.read (by first | rfl | kernel_rfl) (by rfl) (by assumption) (fun M hM => by simp only [zAY,zAT,ne_eq,Nat.reduceEqDiff,zNf,fx,s0] <;> rfl) (by rfl) (by first | exact VQ.int _ _ | exact VQ.bool _ | exact VQ.ptr _ _ | exact VQ.slice _ _ _ | exact VQ.func (by simp [zAW,zAV,zAZ]) (by simp [zAW,zAV,zAZ]) | exact VQ.agg (by simp [zAW,zAV,zAZ]) | exact VQ.tuple (by simp [zAW,zAV,zAZ])) ?_
      refine DrL.read (by first | rfl | kernel_rfl) (by rfl) (by assumption) (fun M hM => by simp only [zAY,zAT,ne_eq,Nat.reduceEqDiff,zNf,fx,s10] <;> rfl) (by rfl) (by first | exact VQ.int _ _ | exact VQ.bool _ | exact VQ.ptr _ _ | exact VQ.slice _ _ _ | exact VQ.func (by simp [zAW,zAV,zAZ]) (by simp [zAW,zAV,zAZ]) | exact VQ.agg (by simp [zAW,zAV,zAZ]) | exact VQ.tuple (by simp [zAW,zAV,zAZ])) ?_
      refine DrL.call (by kernel_rfl) (by rfl) (by assumption) (by rfl) (zAC (by rfl) ⟨by rfl,by rfl⟩ (by rfl) (xs := [.pointer (some ⟨b,0,none⟩),.int .i64 (r : Int)]) (by simp only [zAY,zAU,zAT,sp_n,Nat.reduceLT,ne_eq,Nat.reduceEqDiff,zNf,List.map_cons,List.map_nil,List.nil_append,List.append_nil,hn]) (below_sack SB (by omega) hn0 (m := (r : Int)) (by omega))) ?_
      rintro v B1 ⟨x,rfl,hx1,k1,nx1,hnx1,S1⟩
      have L1 : Canon.look B1.objs (A.next + 1) = Canon.look A'.objs (A.next + 1) := k1.keep _ (by rw [zAH]; omega) (by omega)
      have F1 := hF' _ L1
      refine DrL.float (by rfl) (by rfl) (by rfl) (fb22_1 (v := .int .i64 (x : Int)) (by simp only [zAY,zAU,sp_n,Nat.reduceLT,hn]) rfl) ?_
      have hnb : Canon.look B1.objs (A'.next + 5) = none := by rw [k1.keep _ (by rw [zAH]; omega) (by omega)]; exact S'.wf.none (by omega)
      obtain ⟨B2,p1,hxB2,eB2,lB2,kB2⟩ := place_row (N := 0) (Nx.refl k1.wf 0) (b := A'.next + 5) (Nat.zero_le _) (by have := k1.next; rw [zAH] at this; omega) hnb [.int .i64 (x : Int)] 3 1 1
      have F2 := hF' B2 ((kB2 _ (by omega)).trans L1)
      have hg1 : Gr B1 ra A5.next ro := (hg.nx (n := 0) S'.wf hxB).kb hxB.wf k1 (by omega)
      have hg2 : Gr B2 ra A5.next ro := hg1.ext (Nat.le_of_eq eB2.symm) fun b' hb' => by
        by_cases hbb : b' = A'.next + 5
        · exact .inl (hbb ▸ hnb)
        · exact .inr (kB2 _ hbb)
      obtain ⟨B3,q1,n3,w3,hg3,kp3,_⟩ := gr_push hxB2.wf hg2 (a2 := some ⟨A'.next + 5,0,none⟩) (c2 := 1) (b2 := A'.next + 5) (x := (x : Int)) rfl (by rw [zBM lB2 rfl]; rfl) (by omega)
      have nB2 : A5.next ≤ B2.next := by have := k1.next; rw [zAH] at this; omega
      have hbase : ∀ b',b' < A5.next → ∀ y,ra = some y → y.block ≠ b' := fun b' hb' y hy => by
        obtain ⟨_,q,_⟩ := hg2.sl y hy
        omega
      have L3 : ∀ b',b' < A5.next → b' ≠ b → Canon.look B3.objs b' = Canon.look A'.objs b' := fun b' hb' hne => by
        rw [kp3 b' (by omega) (hbase b' hb'),kB2 _ (by omega),k1.keep _ (by rw [zAH]; omega) hne]
        rfl
      have F3 := hF' B3 (L3 _ (by omega) (by omega))
      refine DrL.eff (by rfl) (by rfl) (pd1 := [(5,⟨[.int .i64 (x : Int)],3,.sl 1 1⟩)]) (pd2 := []) (by kernel_rfl) (by kernel_rfl) (ms0 := [B1]) (A0 := B2) (by simp only [zBO,p1]) (fun M hM => by rw [List.mem_singleton] at hM; rw [hM]; exact F1) F2 (by rfl)
        (v := .slice (some ⟨B2.next,0,none⟩) (ro.length + 1) (ro.length + 1)) (A1 := B3) (zBK rfl (by simp only [zAY,zAU,zAT,sp_n,Nat.reduceLT,ne_eq,Nat.reduceEqDiff,zNf,Nat.zero_add,Nat.reduceAdd,hn,ae_apd,apd_slice,FK.val]; exact q1)) ?_
      refine DrL.read (by first | rfl | kernel_rfl) (by rfl) (by assumption) (fun M hM => by simp only [zAY,zAT,ne_eq,Nat.reduceEqDiff,zNf,fx,fad,zAR,Nat.zero_add,Nat.reduceAdd,zDY,s9] <;> rfl) (by rfl) (by first | exact VQ.int _ _ | exact VQ.bool _ | exact VQ.ptr _ _ | exact VQ.slice _ _ _ | exact VQ.func (by simp [zAW,zAV,zAZ]) (by simp [zAW,zAV,zAZ]) | exact VQ.agg (by simp [zAW,zAV,zAZ]) | exact VQ.tuple (by simp [zAW,zAV,zAZ])) ?_
      have l3 : Canon.look B3.objs (A.next + 1) = _ := (L3 _ (by omega) (by omega)).trans l2
      obtain ⟨B4,u1,u2⟩ := st1_upd (o := 2) (v := .slice (some ⟨B2.next,0,none⟩) (ro.length + 1) (ro.length + 1)) l3 rfl (by simp) rfl
      refine DrL.eff (by rfl) (by rfl) (pd1 := []) (pd2 := []) (by kernel_rfl) (by kernel_rfl) (ms0 := []) (A0 := B3) rfl (fun _ h => by cases h) F3 (by rfl) (v := undef) (A1 := B4) (zBK rfl (fx_ok (by rfl) (by simp only [zAY,zAU,zAT,sp_n,Nat.reduceLT,ne_eq,Nat.reduceEqDiff,zNf,fx,str,zAR,Nat.zero_add,Nat.reduceAdd,tk22,hn,u1]))) ?_
      refine DrL.nil ⟨by rfl,B4,by rfl,?_⟩
      (repeat (first | refine Rn.seq hc ?_ | refine Rn.skip hc ?_ | refine Rn.block hc ?_ | refine Rn.inBlock hc ?_ | refine Rn.scope hc ?_ | refine Rn.inScope hc ?_))
      refine Rn.reg hc rfl ?_
      simp only [zAY,zAS,zAU,zAT,sp_n,zAN,Nat.reduceLT,ne_eq,Nat.reduceEqDiff,zNf,gd,zAX,rops,fx,zAE,Nat.zero_add,zOi,zEl,Nat.reduceAdd,hn,s34,zBY (show ro.length < 9223372036854775807 by omega)]
      (repeat (first | refine Rn.seq hc ?_ | refine Rn.skip hc ?_ | refine Rn.block hc ?_ | refine Rn.inBlock hc ?_ | refine Rn.scope hc ?_ | refine Rn.inScope hc ?_))
      have l4 : Canon.look B4.objs (A.next + 1) = some ⟨.cells #[.int .i64 (m : Int),.slice sa st.length st.length,.slice (some ⟨B2.next,0,none⟩) (ro.length + 1) (ro.length + 1)] 24,false,0⟩ := by
        obtain ⟨c,t,f,g,e,r1,r2,_⟩ := u2.at'
        rw [l3] at r1
        cases r1
        exact r2
      have hL4 : ∀ b',b' ≠ A.next + 1 → Canon.look B4.objs b' = Canon.look B3.objs b' := u2.off
      have hw4 : WF B4 := (u2.nx w3 (Nat.zero_le _)).wf
      have hlen : (ro ++ [(x : Int)]).length = ro.length + 1 := by simp
      refine ih _ _ _ (by rw [show cnt2 - ro.length = cnt2 - (ro.length + 1) + 1 by omega]; exact Nat.lt_succ_self _) ⟨some ⟨B2.next,0,none⟩,ro ++ [(x : Int)],nx1,by rw [hlen],by rw [hlen]; omega,?_,⟨by have := K'.next; have := k1.next; rw [zAH] at this; have := u2.next; omega,hw4,fun b' hb' hne => ?_⟩,by rw [hlen]; omega,S1.same hw4 fun b' hb' => ?_,?_,by rw [hlen]; exact l4,fun b' hb' hne hne1 => ?_,?_,by have := u2.next; omega,by simp only [sp_n,hn],by simp only [zAT,ne_eq,Nat.reduceEqDiff,zNf,s0],by simp only [zAT,ne_eq,Nat.reduceEqDiff,zNf,s8],by simp only [zAT,ne_eq,Nat.reduceEqDiff,zNf,s9],by simp only [zAT,ne_eq,Nat.reduceEqDiff,zNf,s10],by simp only [zAT,ne_eq,Nat.reduceEqDiff,zNf,s33],by simp only [zAU,sp_n,Nat.reduceLT,hn,hlen]⟩
      · rw [List.all_append,hin2]
        simp [inB]
        omega
      · rw [hL4 _ (by omega),L3 _ (by omega) hne]
        exact K'.keep _ hb' hne
      · rw [hL4 _ (by omega),kp3 b' (by omega) (hbase b' (by omega)),kB2 _ (by omega)]
      · rw [hL4 _ (by omega),L3 _ (by omega) (by omega)]
        exact l1
      · rw [hL4 _ (by omega),L3 _ (by omega) hne]
        exact kp5 _ hb' hne hne1
      · exact (hg3.off u2 (by omega)).mono (by omega)
    · have hd : decide ((ro.length : Int) < (cnt2 : Int)) = false := by simp; omega
      clear ih
      refine Rn.reg hc rfl ?_
      simp only [zAY,gd,zAX,rops,fx,zAP,zOi,zEl,s33,s34,hd]
      (repeat (first | refine Rn.seq hc ?_ | refine Rn.skip hc ?_ | refine Rn.block hc ?_ | refine Rn.inBlock hc ?_ | refine Rn.scope hc ?_ | refine Rn.inScope hc ?_))
      refine Rn.zAI hc rfl ?_
      simp only [zAY,zAU,Nat.reduceLT,Value.bool.injEq,zEl,hn]
      (repeat (first | refine Rn.seq hc ?_ | refine Rn.skip hc ?_ | refine Rn.block hc ?_ | refine Rn.inBlock hc ?_ | refine Rn.scope hc ?_ | refine Rn.inScope hc ?_))
      refine Rn.exit hc rfl ?_
      (repeat (first | refine Rn.seq hc ?_ | refine Rn.skip hc ?_ | refine Rn.block hc ?_ | refine Rn.inBlock hc ?_ | refine Rn.scope hc ?_ | refine Rn.inScope hc ?_))
      have c0 : cl A' (A.next + 1) 0 = some (.int .i64 (m : Int)) := by rw [zBM l2 rfl]; rfl
      have c1 : cl A' (A.next + 1) 1 = some (.slice sa st.length st.length) := by rw [zBM l2 rfl]; rfl
      have c2 : cl A' (A.next + 1) 2 = some (.slice ra ro.length ro.length) := by rw [zBM l2 rfl]; rfl
      obtain ⟨A6,c6,q1,q2,q3,q4⟩ := sts_upd (l := [.int .i64 (m : Int),.slice sa st.length st.length,.slice ra ro.length ro.length]) (o := 0) l1 rfl (by simp) rfl
      have g0 : cl A6 A.next 0 = some (.int .i64 (m : Int)) := by rw [q2.cl,q4]; rfl
      have g1 : cl A6 A.next 1 = some (.slice sa st.length st.length) := by rw [q2.cl,q4]; rfl
      have g2 : cl A6 A.next 2 = some (.slice ra ro.length ro.length) := by rw [q2.cl,q4]; rfl
      have hw6 : WF A6 := (q2.nx S'.wf (Nat.zero_le _)).wf
      refine Rn.reg hc rfl ?_
      simp only [zAY,zAU,zAT,sp_n,zAN,Nat.reduceLT,ne_eq,Nat.reduceEqDiff,zNf,gd,zAX,rops,fx,ld,str,zAR,cls,Nat.zero_add,zOi,zEl,Nat.reduceAdd,tk24,hn,s8,s9,c0,c1,c2,q1,List.size_toArray,List.length_cons,List.length_nil,Nat.beq_refl]
      (repeat (first | refine Rn.seq hc ?_ | refine Rn.skip hc ?_ | refine Rn.block hc ?_ | refine Rn.inBlock hc ?_ | refine Rn.scope hc ?_ | refine Rn.inScope hc ?_))
      refine Rn.ret (endQ_cell rfl (v := .agg #[.int .i64 (m : Int),.slice sa st.length st.length,.slice ra ro.length ro.length]) ?_ ⟨⟨by have := K'.next; have := q2.next; omega,hw6,fun b' hb' hne => by rw [q2.off _ (by omega)]; exact K'.keep _ hb' hne⟩,⟨nx',by omega,S'.same hw6 fun b' hb' => q2.off _ (by omega)⟩,sa,ra,st,ro,rfl,by omega,by omega,by omega,hin,hin2,?_,?_⟩)
      · simp only [zAT,ne_eq,Nat.reduceEqDiff,zNf,ld,zAR,cls,Nat.zero_add,Nat.reduceAdd,tk24,s8,g0,g1,g2]
      · refine ((hg5.ext (by omega) fun b' hb' => ?_).off q2 (by omega)).mono (by omega)
        by_cases hlt5 : b' < A5.next
        · exact .inr (kp5 b' hlt5 (by omega) (by omega))
        · exact .inl (wf5.none (by omega))
      · exact ((hg.off q2 (by omega)).mono (by omega))
end Go.Proofs.Ytdaljohmfnfgiaa
namespace Go.Proofs.Ytdaljohmfnfgiaa
open Go Go.RowKit Go.Proofs.Ytdaljohmfnfgiaa.Canon
set_option maxRecDepth 20000
theorem emod_idx {x : Int} {p : Nat} (hp : 0 < p) : ∃ (r : Int) (idx : Nat),x.tmod p = r ∧ -(p : Int) < r ∧ r < p ∧ idx < p ∧ (r + p).tmod p = (idx : Int) ∧ ∀ L e : Nat,x = (e : Int) - (L : Int) → (L + idx) % p = e % p := by
  have hpi : (0 : Int) < (p : Int) := by omega
  have h1 := Int.tmod_add_mul_tdiv x p
  have h2 : -(p : Int) < x.tmod p ∧ x.tmod p < p := by
    have := Int.natAbs_tmod x p
    have h3 : (x.tmod p).natAbs < p := by
      rw [this]
      exact Nat.mod_lt _ (by simpa using hp)
    omega
  have h3 : (x.tmod p + p).tmod p = x % p := by
    rw [Int.tmod_eq_emod_of_nonneg (by omega),Int.add_emod_right]
    have : x.tmod p = x - p * (x.tdiv p) := by omega
    rw [this,Int.sub_emod,Int.mul_emod_right]
    simp
  have h4 := Int.emod_nonneg x (show (p : Int) ≠ 0 by omega)
  have h5 := Int.emod_lt_of_pos x hpi
  refine ⟨_,(x % p).toNat,rfl,h2.1,h2.2,by omega,by rw [h3]; omega,fun L e he => ?_⟩
  have h6 : (((L + (x % p).toNat : Nat) : Int)) = (L : Int) + x % p := by omega
  have h7 : ((L : Int) + x % p) % p = (e : Int) % p := by
    rw [Int.add_emod,Int.emod_emod_of_dvd _ (Int.dvd_refl _),← Int.add_emod]
    congr 1
    omega
  have h8 : (((L + (x % p).toNat) % p : Nat) : Int) = ((e % p : Nat) : Int) := by
    rw [Int.natCast_emod,Int.natCast_emod,h6,h7]
  exact Int.ofNat.inj h8
theorem least_nat {p : Nat → Prop} : ∀ n,p n → ∃ k,k ≤ n ∧ p k ∧ ∀ j,j < k → ¬ p j := by
  intro n
  induction n using Nat.strongRecOn with
  | ind n ih =>
    intro hn
    by_cases h : ∃ j,j < n ∧ p j
    · obtain ⟨j,h1,h2⟩ := h
      obtain ⟨k,q1,q2,q3⟩ := ih j h1 h2
      exact ⟨k,by omega,q2,q3⟩
    · exact ⟨n,Nat.le_refl _,hn,fun j hj hp => h ⟨j,hj,hp⟩⟩
theorem red_exists (st : List Int) {ro : List Int} (hro : 0 < ro.length) : ∃ a p,Red (atL st ro) a p ∧ a ≤ st.length ∧ p ≤ ro.length ∧ perOK ro p = true := by
  obtain ⟨p,h1,⟨h2,h3⟩,h4⟩ := least_nat (p := fun d => 0 < d ∧ perOK ro d = true) ro.length ⟨hro,perOK_self ro⟩
  have hper := perOK_per (st := st) hro h2 h3
  obtain ⟨a,k1,k2,k3⟩ := least_nat (p := fun N => Per (atL st ro) N p) st.length hper
  refine ⟨a,p,⟨k2,fun N d hd => min_per hro (fun e he hlt => ?_) hd,fun N hN => Nat.le_of_not_lt fun hlt => k3 N hlt hN⟩,k1,h1,h3⟩
  cases hp : perOK ro e with
  | false => rfl
  | true => exact absurd ⟨he,hp⟩ (h4 e hlt)
theorem eql_nil (a : Option Addr) (n : Nat) (c : Nat) (A : AHeap) : bin Try.prog .eql 22 (.slice a n c) (.slice none 0 0) A = some (.bool a.isNone,A) := by
  have h : aeql Try.prog 22 (.slice a n c) (.slice none 0 0) = some a.isNone := by cases a <;> rfl
  show (aeql Try.prog 22 (.slice a n c) (.slice none 0 0)).map (fun b => (Value.bool b,A)) = _
  rw [h]
  rfl
theorem app_fresh {A : AHeap} (hw : WF A) {a : Option Addr} {c : Nat} {l : List Int} (h : Ints A a 0 A.next l) (hlen : l.length ≤ 4000000) :
    ∃ a' A1,aapp Try.prog #[22,22] #[.slice (some ⟨A.next,0,none⟩) 0 0,.slice a l.length c] (A.push (.cells #[] 3)) = some (.slice a' l.length l.length,A1) ∧ Nx A.next A A1 ∧ Gr A1 a' A.next l := by
  have hx1 : Nx A.next A (A.push (.cells #[] 3)) := (Nx.refl hw _).push (Nat.le_refl _) _
  have h1 : Ints (A.push (.cells #[] 3)) a 0 (A.push (.cells #[] 3)).next l := (h.nx hx1 (Nat.le_refl _)).mono (Nat.le_refl _) hx1.next
  by_cases h0 : l.length = 0
  · have hl : l = [] := List.length_eq_zero_iff.1 h0
    subst hl
    exact ⟨some ⟨A.next,0,none⟩,_,aapp_nil el22 un22 (Nat.le_refl _),hx1,fun i hi => by simp at hi,fun x hx => by cases hx; exact ⟨rfl,Nat.le_refl _,_,zAQ _ _,.inl rfl⟩,fun x hx => by cases hx; exact ⟨_,zAQ _ _,rfl⟩⟩
  · obtain ⟨A1,h1',h2⟩ := aapp_new (P := Try.prog) (A := A.push (.cells #[] 3)) (c := 0) (c2 := c) (a := some ⟨A.next,0,none⟩) (n := 0) (l := []) (m := l.length) el22 un22 (.inl rfl) (by simp)
      (fun x hx => by cases hx; exact ⟨_,zAQ _ _,.inl rfl⟩) (fun h => by cases h) h1.row (by simp) (by simp [zAA]) (fun h' => by subst h'; exact absurd h1.some h0) (by omega) (by omega) (by omega)
    simp only [Nat.zero_add] at h1'
    have hnx := h2.nx hx1.wf (n := A.next) hx1.next (fun x hx => by cases hx; exact .inl (Nat.le_refl _))
    refine ⟨_,A1,h1',hx1.trans hnx,fun i hi => ⟨_,_,rfl,hx1.next,by rw [h2.next]; omega,?_⟩,fun x hx => by cases hx; exact ⟨rfl,hx1.next,_,h2.new,.inr ⟨rfl,rfl,rfl⟩⟩,fun x hx => by cases hx; exact ⟨_,h2.new,rfl⟩⟩
    rw [h2.cl]
    simp [List.getD_eq_getElem?_getD,hi]
theorem clone_ints {A : AHeap} (hw : WF A) {a : Option Addr} {c : Nat} {l : List Int} (h : Ints A a 0 A.next l) (hlen : l.length ≤ 4000000) :
    Con Try.prog 103 [.slice a l.length c] A (fun v A1 => ∃ a',v = .slice a' l.length l.length ∧ Nx A.next A A1 ∧ Gr A1 a' A.next l) := by
  refine zAM hc Try.func103 rfl (Nat.le_of_ble_eq_true rfl) ?_
  rw [s_in1]
  obtain ⟨a',A1,e1,hx2,hg⟩ := app_fresh hw (c := c) h hlen
  (repeat (first | refine Rn.seq hc ?_ | refine Rn.skip hc ?_ | refine Rn.block hc ?_ | refine Rn.inBlock hc ?_ | refine Rn.scope hc ?_ | refine Rn.inScope hc ?_))
  refine Rn.reg hc rfl ?_
  simp only [zAS,gd,zAX,rops,fx,zOi,zEl,show Try.f103.ntmps = 8 from rfl]
  (repeat (first | refine Rn.seq hc ?_ | refine Rn.skip hc ?_ | refine Rn.block hc ?_ | refine Rn.inBlock hc ?_ | refine Rn.scope hc ?_ | refine Rn.inScope hc ?_))
  cases a with
  | none =>
    have h0 := h.some
    have hl : l = [] := List.length_eq_zero_iff.1 h0
    subst hl
    refine Rn.reg hc rfl ?_
    simp only [zAY,zAS,zAU,zAT,sp_n,Nat.reduceLT,ne_eq,Nat.reduceEqDiff,zNf,gd,zAX,rops,fx,zOi,zEl,eql_nil,Option.isNone_none]
    (repeat (first | refine Rn.seq hc ?_ | refine Rn.skip hc ?_ | refine Rn.block hc ?_ | refine Rn.inBlock hc ?_ | refine Rn.scope hc ?_ | refine Rn.inScope hc ?_))
    refine Rn.zAI hc rfl ?_
    simp only [zAY,zAU,sp_n,Nat.reduceLT,Value.bool.injEq,zEl]
    (repeat (first | refine Rn.seq hc ?_ | refine Rn.skip hc ?_ | refine Rn.block hc ?_ | refine Rn.inBlock hc ?_ | refine Rn.scope hc ?_ | refine Rn.inScope hc ?_))
    refine Rn.reg hc rfl ?_
    simp only [zAS,gd,zAX,rops,fx,zOi,zEl]
    (repeat (first | refine Rn.seq hc ?_ | refine Rn.skip hc ?_ | refine Rn.block hc ?_ | refine Rn.inBlock hc ?_ | refine Rn.scope hc ?_ | refine Rn.inScope hc ?_))
    refine Rn.ret (zAJ rfl ⟨none,?_,Nx.refl hw _,Gr.nil _ _⟩)
    simp only [zAU,sp_n,Nat.reduceLT]
    rfl
  | some x =>
    refine Rn.reg hc rfl ?_
    simp only [zAY,zAS,zAU,zAT,sp_n,Nat.reduceLT,ne_eq,Nat.reduceEqDiff,zNf,gd,zAX,rops,fx,zOi,zEl,eql_nil,Option.isNone_some]
    (repeat (first | refine Rn.seq hc ?_ | refine Rn.skip hc ?_ | refine Rn.block hc ?_ | refine Rn.inBlock hc ?_ | refine Rn.scope hc ?_ | refine Rn.inScope hc ?_))
    refine Rn.zAI hc rfl ?_
    simp only [zAY,zAU,sp_n,Nat.reduceLT,Value.bool.injEq,zEl]
    (repeat (first | refine Rn.seq hc ?_ | refine Rn.skip hc ?_ | refine Rn.block hc ?_ | refine Rn.inBlock hc ?_ | refine Rn.scope hc ?_ | refine Rn.inScope hc ?_))
    refine Rn.reg hc rfl ?_
    simp only [zAY,zAU,zAT,sp_n,Nat.reduceLT,ne_eq,Nat.reduceEqDiff,zNf,gd,zAX,rops,fx,zOi,zEl,bs22_0,ae_apd,apd_slice,e1]
    (repeat (first | refine Rn.seq hc ?_ | refine Rn.skip hc ?_ | refine Rn.block hc ?_ | refine Rn.inBlock hc ?_ | refine Rn.scope hc ?_ | refine Rn.inScope hc ?_))
    refine Rn.ret (zAJ rfl ⟨a',?_,hx2,hg⟩)
    simp only [zAU,sp_n,Nat.reduceLT]
section
variable {ρ : Operand → Value} {d : Option Tmp} {ty : TypeId} {pos : String} {af : Array Edge} {gu : Option (Nat × Bool)} {A : AHeap}
noncomputable def mnc (ats : Array TypeId) (ty : TypeId) (x y : Value) (A : AHeap) : Option (Value × AHeap) := match [x,y].all isNum with
  | true => arun Try.prog (Builtin.min_ ats ty #[x,y]) A
  | false => none
theorem mnc_int {ats : Array TypeId} {k : IntKind} {a b : Int} : mnc ats ty (.int k a) (.int k b) A = some (.int k (min a b),A) := by
  have : (if b < a then b else a) = min a b := by by_cases hh : b < a <;> simp [hh] <;> omega
  simp [mnc,isNum,Builtin.min_,Builtin.min2,this]
theorem ae_mnc {k : IntKind} {n : Int} {y : Tmp} {ats : Array TypeId} {s : Slots} : zAL Try.prog (zBU s) ⟨d,.call ⟨.builtin .min,#[.const (.int k n),.tmp y],ats⟩,ty,pos,af,gu⟩ A = mnc ats ty (.int k n) (sget s y) A := by
  have hcl : zCK (.int k n) = true := rfl
  simp only [zAL,Op.operands,Call.operands]
  simp [zAF,hcl,zDT,mnc,zAY,zAS]
  rfl
theorem ae_mxd2 {P : Program} {x y : Tmp} {ats : Array TypeId} {s : Slots} : zAL P (zBU s) ⟨d,.call ⟨.builtin .max,#[.tmp x,.tmp y],ats⟩,ty,pos,af,gu⟩ A = mxd P ats ty (sget s x) (sget s y) A := by
  simp only [zAL,Op.operands,Call.operands]
  simp [zAF,zDT,mxd,zAY]
  rfl
end
theorem zCT {f : Func} {t u : Tmp} {ty : TypeId} (hr : f.results = #[.cell t ty,.tmp u]) {Q : Value → AHeap → Prop} {s : Slots} {A : AHeap} {v : Value} (hl : ld Try.prog ty (sget s t) A = some (v,A)) (h : Q (.tuple #[v,sget s u]) A) : endQ Try.prog f Q .ret s [] A := by
  refine ⟨.tuple #[v,sget s u],A,?_,h⟩
  show VR.of (zCJ Try.prog f s A) = _
  obtain ⟨b,o,hv,ha⟩ := ld_arun hl
  have e : zCJ Try.prog f s A = some (.tuple #[v,sget s u],A) := by
    rw [sresults_eq]
    have h1 := sget_getD s t
    have h2 := sget_getD s u
    rw [hv] at h1
    simp only [Array.getD_eq_getD_getElem?] at h1 h2
    simp [results,hr,h1,h2,asAddr,ha]
  rw [e]
  rfl
end Go.Proofs.Ytdaljohmfnfgiaa
namespace Go.Proofs.Ytdaljohmfnfgiaa
open Go Go.RowKit Go.Proofs.Ytdaljohmfnfgiaa.Canon
set_option maxRecDepth 20000
theorem bd24_z {ρ : Operand → Value} {d : Option Tmp} {ty : TypeId} {pos : String} {af : Array Edge} {gu : Option (Nat × Bool)} {A : AHeap} : zAL Try.prog ρ ⟨d,.build 24 #[],ty,pos,af,gu⟩ A = some (.agg #[.int .i64 0,.slice none 0 0,.slice none 0 0],A) := ae_build (by rfl) bo24 rfl rfl
def LeastQ (A : AHeap) (m : Int) (s : Nat → Int) (a p : Nat) (v : Value) (A1 : AHeap) : Prop :=
  Nx A.next A A1 ∧ if 120 < p ∨ 60 < a then v = .tuple #[.agg #[.int .i64 0,.slice none 0 0,.slice none 0 0],.int .i64 11]
    else ∃ sa ra,v = .tuple #[.agg #[.int .i64 m,.slice sa a a,.slice ra p p],.int .i64 0] ∧ Gr A1 sa A.next (redS s a) ∧ Gr A1 ra A.next (redR s a p)
theorem least_run {A : AHeap} (hw : WF A) {m : Int} {sa ra : Option Addr} {sc rc : Nat} {st ro : List Int} (hs : Ints A sa 0 A.next st) (hr : Ints A ra 0 A.next ro) (ls : st.length ≤ 4000000) (lr : ro.length ≤ 4000000) (hro : 0 < ro.length) (hsl : Sl A sa 0) (hsc : st.length ≤ sc) :
    Con Try.prog 69 [.int .i64 m,.slice sa st.length sc,.slice ra ro.length rc] A (fun v A1 => ∃ a p,Red (atL st ro) a p ∧ a ≤ st.length ∧ p ≤ ro.length ∧ LeastQ A m (atL st ro) a p v A1) := by
  refine zAM hc Try.func69 rfl (Nat.le_of_ble_eq_true rfl) ?_
  have hx1 : Nx A.next A (A.push (.cells #[.int .i64 0,.slice none 0 0,.slice none 0 0] 24)) := (Nx.refl hw _).push (Nat.le_refl _) _
  have l1 := zAQ A (.cells #[.int .i64 0,.slice none 0 0,.slice none 0 0] 24)
  have hn1 : (A.push (.cells #[.int .i64 0,.slice none 0 0,.slice none 0 0] 24)).next = A.next + 1 := rfl
  generalize e1 : A.push (.cells #[.int .i64 0,.slice none 0 0,.slice none 0 0] 24) = A1 at hx1 l1 hn1
  rw [s_in3]
  (repeat (first | refine Rn.seq hc ?_ | refine Rn.skip hc ?_ | refine Rn.block hc ?_ | refine Rn.inBlock hc ?_ | refine Rn.scope hc ?_ | refine Rn.inScope hc ?_))
  refine Rn.reg hc rfl ?_
  simp only [zAS,gd,zAX,rops,fx,zOi,zEl,Value.cells,show Try.f69.ntmps = 112 from rfl,ze24,e1]
  (repeat (first | refine Rn.seq hc ?_ | refine Rn.skip hc ?_ | refine Rn.block hc ?_ | refine Rn.inBlock hc ?_ | refine Rn.scope hc ?_ | refine Rn.inScope hc ?_))
  refine Rn.reg hc rfl ?_
  simp only [zAS,gd,zAX,rops,fx,zOi,zEl]
  (repeat (first | refine Rn.seq hc ?_ | refine Rn.skip hc ?_ | refine Rn.block hc ?_ | refine Rn.inBlock hc ?_ | refine Rn.scope hc ?_ | refine Rn.inScope hc ?_))
  refine Rn.label hc ?_
  refine Rn.seq hc ?_
  refine Rn.cut2 hc (Q1 := fun s ds B => ds = [] ∧ Nx A1.next A1 B ∧ s.n = 112 ∧ sget s 0 = .int .i64 m ∧ sget s 1 = .slice sa st.length sc ∧ sget s 2 = .slice ra ro.length rc ∧ sget s 6 = .pointer (some ⟨A.next,0,none⟩) ∧ ∃ d : Nat,sget s 8 = .int .i64 (d : Int) ∧ ((d = 0 ∧ ∀ e,0 < e → e < 121 → perOK ro e = false) ∨ (0 < d ∧ d ≤ 120 ∧ perOK ro d = true ∧ ∀ e,0 < e → e < d → perOK ro e = false)))
    (Q2 := fun _ _ _ => False) ?_ ?_ ?_
  · (repeat (first | refine Rn.seq hc ?_ | refine Rn.skip hc ?_ | refine Rn.block hc ?_ | refine Rn.inBlock hc ?_ | refine Rn.scope hc ?_ | refine Rn.inScope hc ?_))
    refine Rn.reg hc rfl ?_
    simp only [zAS,gd,zAX,rops,fx,zOi,zEl]
    (repeat (first | refine Rn.seq hc ?_ | refine Rn.skip hc ?_ | refine Rn.block hc ?_ | refine Rn.inBlock hc ?_ | refine Rn.scope hc ?_ | refine Rn.inScope hc ?_))
    refine Rn.loopI hc (I := fun k s A' => ∃ d : Nat,1 ≤ d ∧ d ≤ 121 ∧ k = 121 - d ∧ Nx A1.next A1 A' ∧ (∀ e,0 < e → e < d → perOK ro e = false) ∧ s.n = 112 ∧ sget s 0 = .int .i64 m ∧ sget s 1 = .slice sa st.length sc ∧ sget s 2 = .slice ra ro.length rc ∧ sget s 6 = .pointer (some ⟨A.next,0,none⟩) ∧ sget s 8 = .int .i64 ((0 : Nat) : Int) ∧ sget s 9 = .int .i64 (d : Int))
      (n := 120) ⟨1,by omega,by omega,rfl,Nx.refl hx1.wf _,fun e h1 h2 => by omega,by simp only [sp_n],by simp only [zAU,zAT,Nat.reduceLT,ne_eq,Nat.reduceEqDiff,zNf],by simp only [zAU,zAT,sp_n,Nat.reduceLT,ne_eq,Nat.reduceEqDiff,zNf],by simp only [zAU,zAT,sp_n,Nat.reduceLT,ne_eq,Nat.reduceEqDiff,zNf],by simp only [zAU,zAT,sp_n,Nat.reduceLT,ne_eq,Nat.reduceEqDiff,zNf],by simp only [zAU,zAT,sp_n,Nat.reduceLT,ne_eq,Nat.reduceEqDiff,zNf]; rfl,by simp only [zAU,sp_n,Nat.reduceLT]; rfl⟩ ?_
    rintro k s A' ⟨d,hd1,hd2,rfl,hA,hmin,hn,s0,s1,s2,s6,s8,s9⟩ ih
    (repeat (first | refine Rn.seq hc ?_ | refine Rn.skip hc ?_ | refine Rn.block hc ?_ | refine Rn.inBlock hc ?_ | refine Rn.scope hc ?_ | refine Rn.inScope hc ?_))
    by_cases hlt : d ≤ min 120 ro.length
    · have hd : decide ((d : Int) ≤ min 120 (ro.length : Int)) = true := by simp; omega
      have hrem : ∀ M,bin Try.prog .rem 3 (.int .i64 (ro.length : Int)) (.int .i64 (d : Int)) M = some (.int .i64 ((ro.length % d : Nat) : Int),M) := fun M => by
        rw [zCM _ _ _ _ (by omega),IntWalk.rem_in _ _ (by omega)]
        rfl
      refine Rn.reg hc rfl ?_
      simp only [zAY,zAU,zAT,sp_n,Nat.reduceLT,ne_eq,Nat.reduceEqDiff,zNf,gd,zAX,rops,fx,lng,bin_leq,zOi,zEl,un22,hn,s2,s9,ae_mnc,mnc_int,hd]
      (repeat (first | refine Rn.seq hc ?_ | refine Rn.skip hc ?_ | refine Rn.block hc ?_ | refine Rn.inBlock hc ?_ | refine Rn.scope hc ?_ | refine Rn.inScope hc ?_))
      refine Rn.zAI hc rfl ?_
      simp only [zAY,zAU,sp_n,Nat.reduceLT,Value.bool.injEq,zEl,hn]
      (repeat (first | refine Rn.seq hc ?_ | refine Rn.skip hc ?_ | refine Rn.block hc ?_ | refine Rn.inBlock hc ?_ | refine Rn.scope hc ?_ | refine Rn.inScope hc ?_))
      by_cases hdiv : ro.length % d = 0
      · have hd3 : (!decide (((ro.length % d : Nat) : Int) = 0)) = false := by simp; omega
        refine Rn.reg hc rfl ?_
        simp only [zAY,zAS,zAU,zAT,sp_n,Nat.reduceLT,ne_eq,Nat.reduceEqDiff,zNf,gd,zAX,rops,fx,lng,zBP,zOi,zEl,un22,hn,s2,s9,hrem,hd3]
        (repeat (first | refine Rn.seq hc ?_ | refine Rn.skip hc ?_ | refine Rn.block hc ?_ | refine Rn.inBlock hc ?_ | refine Rn.scope hc ?_ | refine Rn.inScope hc ?_))
        refine Rn.zAI hc rfl ?_
        simp only [zAY,zAU,sp_n,Nat.reduceLT,Value.bool.injEq,zEl,hn]
        (repeat (first | refine Rn.seq hc ?_ | refine Rn.skip hc ?_ | refine Rn.block hc ?_ | refine Rn.inBlock hc ?_ | refine Rn.scope hc ?_ | refine Rn.inScope hc ?_))
        refine Rn.reg hc rfl ?_
        simp only [zAY,zAU,zAT,sp_n,Nat.reduceLT,ne_eq,Nat.reduceEqDiff,zNf,gd,zAX,rops,fx,zOi,zEl,hn,s9]
        (repeat (first | refine Rn.seq hc ?_ | refine Rn.skip hc ?_ | refine Rn.block hc ?_ | refine Rn.inBlock hc ?_ | refine Rn.scope hc ?_ | refine Rn.inScope hc ?_))
        refine Rn.loopI hc (I := fun k s A' => ∃ i : Nat,d ≤ i ∧ i ≤ ro.length ∧ k = ro.length - i ∧ Nx A1.next A1 A' ∧ (∀ j,d ≤ j → j < i → ro.getD j 0 = ro.getD (j - d) 0) ∧ s.n = 112 ∧ sget s 0 = .int .i64 m ∧ sget s 1 = .slice sa st.length sc ∧ sget s 2 = .slice ra ro.length rc ∧ sget s 6 = .pointer (some ⟨A.next,0,none⟩) ∧ sget s 8 = .int .i64 ((0 : Nat) : Int) ∧ sget s 9 = .int .i64 (d : Int) ∧ sget s 10 = .int .i64 (i : Int))
          (n := ro.length - d) ⟨d,Nat.le_refl _,by omega,rfl,hA,fun j h1 h2 => by omega,by simp only [sp_n,hn],by simp only [zAT,ne_eq,Nat.reduceEqDiff,zNf,s0],by simp only [zAT,ne_eq,Nat.reduceEqDiff,zNf,s1],by simp only [zAT,ne_eq,Nat.reduceEqDiff,zNf,s2],by simp only [zAT,ne_eq,Nat.reduceEqDiff,zNf,s6],by simp only [zAT,ne_eq,Nat.reduceEqDiff,zNf,s8],by simp only [zAT,ne_eq,Nat.reduceEqDiff,zNf,s9],by simp only [zAU,sp_n,Nat.reduceLT,hn]⟩ ?_
        clear hn s0 s1 s2 s6 s8 s9 s hA A' hd
        rintro k s A' ⟨i,hi1,hi2,rfl,hA,hper,hn,s0,s1,s2,s6,s8,s9,s10⟩ ihi
        (repeat (first | refine Rn.seq hc ?_ | refine Rn.skip hc ?_ | refine Rn.block hc ?_ | refine Rn.inBlock hc ?_ | refine Rn.scope hc ?_ | refine Rn.inScope hc ?_))
        by_cases hlti : i < ro.length
        · have hd : decide ((i : Int) < (ro.length : Int)) = true := by simp; omega
          have hx0 : Nx A.next A A' := hx1.trans (hA.le hx1.next)
          obtain ⟨bb,o,rfl,_,hb1,hcl⟩ := hr i hlti
          obtain ⟨bb',o',e',_,_,hcl'⟩ := hr (i - d) (by omega)
          cases e'
          have hcl : cl A' bb (o + i) = _ := (hx0.cl hb1 _).trans hcl
          have hcl' : cl A' bb (o + (i - d)) = _ := (hx0.cl hb1 _).trans hcl'
          have hsub : IntKind.i64.wrap ((i : Int) - (d : Int)) = ((i - d : Nat) : Int) := by rw [IntWalk.i64_in _ (by omega)]; omega
          refine Rn.reg hc rfl ?_
          simp only [zAY,zAU,zAT,sp_n,Nat.reduceLT,ne_eq,Nat.reduceEqDiff,zNf,gd,zAX,rops,fx,lng,zAP,zOi,zEl,un22,hn,s2,s10,hd]
          (repeat (first | refine Rn.seq hc ?_ | refine Rn.skip hc ?_ | refine Rn.block hc ?_ | refine Rn.inBlock hc ?_ | refine Rn.scope hc ?_ | refine Rn.inScope hc ?_))
          refine Rn.zAI hc rfl ?_
          simp only [zAY,zAU,sp_n,Nat.reduceLT,Value.bool.injEq,zEl,hn]
          (repeat (first | refine Rn.seq hc ?_ | refine Rn.skip hc ?_ | refine Rn.block hc ?_ | refine Rn.inBlock hc ?_ | refine Rn.scope hc ?_ | refine Rn.inScope hc ?_))
          have hidl : i - d < ro.length := by omega
          by_cases heq : ro.getD i 0 = ro.getD (i - d) 0
          · have hne : (!decide (ro.getD i 0 = ro.getD (i - d) 0)) = false := by rw [decide_eq_true heq]; rfl
            refine Rn.drawnR hc hx (by kernel_rfl) (by rfl) (by kernel_rfl) ?_ ?_
            · simp only [rdV,VQ.int,VQ.bool,VQ.ptr,VQ.slice,zAB,zAY,zAU,zAT,sp_n,Nat.reduceLT,ne_eq,Nat.reduceEqDiff,zNf,gd,zAX,fx,ld,idx,zBP,zBA,zAR,Nat.zero_add,Nat.reduceAdd,Nat.mul_one,and_self,tk3,eo22,hn,s2,s9,s10,zAK hlti,zAK hidl,hsub,hcl,hcl',hne,List.length_cons,List.length_nil]
            simp only [zAB,zAY,zAU,zAT,sp_n,Nat.reduceLT,ne_eq,Nat.reduceEqDiff,zNf,gd,zAX,rops,fx,ld,idx,zBP,zBA,zAR,Nat.zero_add,zOi,zEl,Nat.reduceAdd,Nat.mul_one,tk3,eo22,hn,s2,s9,s10,zAK hlti,zAK hidl,hsub,hcl,hcl',hne,List.length_cons,List.length_nil]
            (repeat (first | refine Rn.seq hc ?_ | refine Rn.skip hc ?_ | refine Rn.block hc ?_ | refine Rn.inBlock hc ?_ | refine Rn.scope hc ?_ | refine Rn.inScope hc ?_))
            refine Rn.zAI hc rfl ?_
            simp only [zAY,zAU,sp_n,Nat.reduceLT,Value.bool.injEq,zEl,hn]
            (repeat (first | refine Rn.seq hc ?_ | refine Rn.skip hc ?_ | refine Rn.block hc ?_ | refine Rn.inBlock hc ?_ | refine Rn.scope hc ?_ | refine Rn.inScope hc ?_))
            refine Rn.reg hc rfl ?_
            simp only [zAY,zAS,zAU,zAT,sp_n,Nat.reduceLT,ne_eq,Nat.reduceEqDiff,zNf,gd,zAX,rops,fx,zAE,zOi,zEl,hn,s10,zBY (show i < 9223372036854775807 by omega)]
            (repeat (first | refine Rn.seq hc ?_ | refine Rn.skip hc ?_ | refine Rn.block hc ?_ | refine Rn.inBlock hc ?_ | refine Rn.scope hc ?_ | refine Rn.inScope hc ?_))
            refine ihi _ _ _ (by omega) ⟨i + 1,by omega,by omega,rfl,Nx.bump hA _,fun j h1 h2 => ?_,by simp only [sp_n,hn],by simp only [zAT,ne_eq,Nat.reduceEqDiff,zNf,s0],by simp only [zAT,ne_eq,Nat.reduceEqDiff,zNf,s1],by simp only [zAT,ne_eq,Nat.reduceEqDiff,zNf,s2],by simp only [zAT,ne_eq,Nat.reduceEqDiff,zNf,s6],by simp only [zAT,ne_eq,Nat.reduceEqDiff,zNf,s8],by simp only [zAT,ne_eq,Nat.reduceEqDiff,zNf,s9],by simp only [zAU,sp_n,Nat.reduceLT,hn]⟩
            by_cases hji : j = i
            · subst hji; exact heq
            · exact hper j h1 (by omega)
          · have hne : (!decide (ro.getD i 0 = ro.getD (i - d) 0)) = true := by rw [decide_eq_false heq]; rfl
            refine Rn.drawnR hc hx (by kernel_rfl) (by rfl) (by kernel_rfl) ?_ ?_
            · simp only [rdV,VQ.int,VQ.bool,VQ.ptr,VQ.slice,zAB,zAY,zAU,zAT,sp_n,Nat.reduceLT,ne_eq,Nat.reduceEqDiff,zNf,gd,zAX,fx,ld,idx,zBP,zBA,zAR,Nat.zero_add,Nat.reduceAdd,Nat.mul_one,and_self,tk3,eo22,hn,s2,s9,s10,zAK hlti,zAK hidl,hsub,hcl,hcl',hne,List.length_cons,List.length_nil]
            simp only [zAB,zAY,zAU,zAT,sp_n,Nat.reduceLT,ne_eq,Nat.reduceEqDiff,zNf,gd,zAX,rops,fx,ld,idx,zBP,zBA,zAR,Nat.zero_add,zOi,zEl,Nat.reduceAdd,Nat.mul_one,tk3,eo22,hn,s2,s9,s10,zAK hlti,zAK hidl,hsub,hcl,hcl',hne,List.length_cons,List.length_nil]
            (repeat (first | refine Rn.seq hc ?_ | refine Rn.skip hc ?_ | refine Rn.block hc ?_ | refine Rn.inBlock hc ?_ | refine Rn.scope hc ?_ | refine Rn.inScope hc ?_))
            refine Rn.zAI hc rfl ?_
            simp only [zAY,zAU,sp_n,Nat.reduceLT,Value.bool.injEq,zEl,hn]
            (repeat (first | refine Rn.seq hc ?_ | refine Rn.skip hc ?_ | refine Rn.block hc ?_ | refine Rn.inBlock hc ?_ | refine Rn.scope hc ?_ | refine Rn.inScope hc ?_))
            refine Rn.exit hc rfl ?_
            (repeat (first | refine Rn.seq hc ?_ | refine Rn.skip hc ?_ | refine Rn.block hc ?_ | refine Rn.inBlock hc ?_ | refine Rn.scope hc ?_ | refine Rn.inScope hc ?_))
            refine Rn.reg hc rfl ?_
            simp only [zAY,zAS,zAU,zAT,sp_n,Nat.reduceLT,ne_eq,Nat.reduceEqDiff,zNf,gd,zAX,rops,fx,zAE,zOi,zEl,hn,s9,zBY (show d < 9223372036854775807 by omega)]
            (repeat (first | refine Rn.seq hc ?_ | refine Rn.skip hc ?_ | refine Rn.block hc ?_ | refine Rn.inBlock hc ?_ | refine Rn.scope hc ?_ | refine Rn.inScope hc ?_))
            refine ih _ _ _ (by omega) ⟨d + 1,by omega,by omega,rfl,Nx.bump hA _,fun e h1 h2 => ?_,by simp only [sp_n,hn],by simp only [zAT,ne_eq,Nat.reduceEqDiff,zNf,s0],by simp only [zAT,ne_eq,Nat.reduceEqDiff,zNf,s1],by simp only [zAT,ne_eq,Nat.reduceEqDiff,zNf,s2],by simp only [zAT,ne_eq,Nat.reduceEqDiff,zNf,s6],by simp only [zAT,ne_eq,Nat.reduceEqDiff,zNf,s8],by simp only [zAU,sp_n,Nat.reduceLT,hn]⟩
            by_cases hed : e = d
            · subst hed
              cases hp : perOK ro e with
              | false => rfl
              | true => exact absurd ((perOK_iff.1 hp).2 i hi1 hlti) heq
            · exact hmin e h1 (by omega)
        · have hd : decide ((i : Int) < (ro.length : Int)) = false := by simp; omega
          have hil : i = ro.length := by omega
          clear ih ihi
          refine Rn.reg hc rfl ?_
          simp only [zAY,zAU,zAT,sp_n,Nat.reduceLT,ne_eq,Nat.reduceEqDiff,zNf,gd,zAX,rops,fx,lng,zAP,zOi,zEl,un22,hn,s2,s10,hd]
          (repeat (first | refine Rn.seq hc ?_ | refine Rn.skip hc ?_ | refine Rn.block hc ?_ | refine Rn.inBlock hc ?_ | refine Rn.scope hc ?_ | refine Rn.inScope hc ?_))
          refine Rn.zAI hc rfl ?_
          simp only [zAY,zAU,sp_n,Nat.reduceLT,Value.bool.injEq,zEl,hn]
          (repeat (first | refine Rn.seq hc ?_ | refine Rn.skip hc ?_ | refine Rn.block hc ?_ | refine Rn.inBlock hc ?_ | refine Rn.scope hc ?_ | refine Rn.inScope hc ?_))
          refine Rn.exit hc rfl ?_
          (repeat (first | refine Rn.seq hc ?_ | refine Rn.skip hc ?_ | refine Rn.block hc ?_ | refine Rn.inBlock hc ?_ | refine Rn.scope hc ?_ | refine Rn.inScope hc ?_))
          refine Rn.reg hc rfl ?_
          simp only [zAY,zAU,zAT,sp_n,Nat.reduceLT,ne_eq,Nat.reduceEqDiff,zNf,gd,zAX,rops,fx,zOi,zEl,hn,s9]
          (repeat (first | refine Rn.seq hc ?_ | refine Rn.skip hc ?_ | refine Rn.block hc ?_ | refine Rn.inBlock hc ?_ | refine Rn.scope hc ?_ | refine Rn.inScope hc ?_))
          refine Rn.exit hc rfl ?_
          (repeat (first | refine Rn.seq hc ?_ | refine Rn.skip hc ?_ | refine Rn.block hc ?_ | refine Rn.inBlock hc ?_ | refine Rn.scope hc ?_ | refine Rn.inScope hc ?_))
          refine Rn.fall ⟨rfl,hA,by simp only [sp_n,hn],by simp only [zAT,ne_eq,Nat.reduceEqDiff,zNf,s0],by simp only [zAT,ne_eq,Nat.reduceEqDiff,zNf,s1],by simp only [zAT,ne_eq,Nat.reduceEqDiff,zNf,s2],by simp only [zAT,ne_eq,Nat.reduceEqDiff,zNf,s6],d,by simp only [zAU,sp_n,Nat.reduceLT,hn],.inr ⟨hd1,by omega,perOK_iff.2 ⟨hdiv,fun j h1 h2 => hper j h1 (by omega)⟩,hmin⟩⟩
      · have hd3 : (!decide (((ro.length % d : Nat) : Int) = 0)) = true := by simp; omega
        refine Rn.reg hc rfl ?_
        simp only [zAY,zAS,zAU,zAT,sp_n,Nat.reduceLT,ne_eq,Nat.reduceEqDiff,zNf,gd,zAX,rops,fx,lng,zBP,zOi,zEl,un22,hn,s2,s9,hrem,hd3]
        (repeat (first | refine Rn.seq hc ?_ | refine Rn.skip hc ?_ | refine Rn.block hc ?_ | refine Rn.inBlock hc ?_ | refine Rn.scope hc ?_ | refine Rn.inScope hc ?_))
        refine Rn.zAI hc rfl ?_
        simp only [zAY,zAU,sp_n,Nat.reduceLT,Value.bool.injEq,zEl,hn]
        (repeat (first | refine Rn.seq hc ?_ | refine Rn.skip hc ?_ | refine Rn.block hc ?_ | refine Rn.inBlock hc ?_ | refine Rn.scope hc ?_ | refine Rn.inScope hc ?_))
        refine Rn.exit hc rfl ?_
        (repeat (first | refine Rn.seq hc ?_ | refine Rn.skip hc ?_ | refine Rn.block hc ?_ | refine Rn.inBlock hc ?_ | refine Rn.scope hc ?_ | refine Rn.inScope hc ?_))
        refine Rn.reg hc rfl ?_
        simp only [zAY,zAS,zAU,zAT,sp_n,Nat.reduceLT,ne_eq,Nat.reduceEqDiff,zNf,gd,zAX,rops,fx,zAE,zOi,zEl,hn,s9,zBY (show d < 9223372036854775807 by omega)]
        (repeat (first | refine Rn.seq hc ?_ | refine Rn.skip hc ?_ | refine Rn.block hc ?_ | refine Rn.inBlock hc ?_ | refine Rn.scope hc ?_ | refine Rn.inScope hc ?_))
        refine ih _ _ _ (by omega) ⟨d + 1,by omega,by omega,rfl,hA,fun e h1 h2 => ?_,by simp only [sp_n,hn],by simp only [zAT,ne_eq,Nat.reduceEqDiff,zNf,s0],by simp only [zAT,ne_eq,Nat.reduceEqDiff,zNf,s1],by simp only [zAT,ne_eq,Nat.reduceEqDiff,zNf,s2],by simp only [zAT,ne_eq,Nat.reduceEqDiff,zNf,s6],by simp only [zAT,ne_eq,Nat.reduceEqDiff,zNf,s8],by simp only [zAU,sp_n,Nat.reduceLT,hn]⟩
        by_cases hed : e = d
        · subst hed
          cases hp : perOK ro e with
          | false => rfl
          | true => exact absurd (perOK_iff.1 hp).1 hdiv
        · exact hmin e h1 (by omega)
    · have hd : decide ((d : Int) ≤ min 120 (ro.length : Int)) = false := by simp; omega
      clear ih
      have hdl : d ≤ ro.length := Nat.le_of_not_lt fun hh => by
        have := hmin ro.length hro hh
        rw [perOK_self] at this
        cases this
      refine Rn.reg hc rfl ?_
      simp only [zAY,zAU,zAT,sp_n,Nat.reduceLT,ne_eq,Nat.reduceEqDiff,zNf,gd,zAX,rops,fx,lng,bin_leq,zOi,zEl,un22,hn,s2,s9,ae_mnc,mnc_int,hd]
      (repeat (first | refine Rn.seq hc ?_ | refine Rn.skip hc ?_ | refine Rn.block hc ?_ | refine Rn.inBlock hc ?_ | refine Rn.scope hc ?_ | refine Rn.inScope hc ?_))
      refine Rn.zAI hc rfl ?_
      simp only [zAY,zAU,sp_n,Nat.reduceLT,Value.bool.injEq,zEl,hn]
      (repeat (first | refine Rn.seq hc ?_ | refine Rn.skip hc ?_ | refine Rn.block hc ?_ | refine Rn.inBlock hc ?_ | refine Rn.scope hc ?_ | refine Rn.inScope hc ?_))
      refine Rn.exit hc rfl ?_
      (repeat (first | refine Rn.seq hc ?_ | refine Rn.skip hc ?_ | refine Rn.block hc ?_ | refine Rn.inBlock hc ?_ | refine Rn.scope hc ?_ | refine Rn.inScope hc ?_))
      refine Rn.fall ⟨rfl,hA,by simp only [sp_n,hn],by simp only [zAT,ne_eq,Nat.reduceEqDiff,zNf,s0],by simp only [zAT,ne_eq,Nat.reduceEqDiff,zNf,s1],by simp only [zAT,ne_eq,Nat.reduceEqDiff,zNf,s2],by simp only [zAT,ne_eq,Nat.reduceEqDiff,zNf,s6],0,by simp only [zAT,ne_eq,Nat.reduceEqDiff,zNf,s8],.inl ⟨rfl,fun e h1 h2 => hmin e h1 (by omega)⟩⟩
  · rintro s ds B ⟨rfl,hB,hn,s0,s1,s2,s6,d,s8,hd⟩
    have hr24 : ∀ {D : AHeap} {v0 v1 v2 : Value},Nx A1.next A1 D → [v0,v1,v2].all zAA = true → ∃ D',sts D A.next 0 [v0,v1,v2] = some D' ∧ D'.next = D.next ∧ WF D' ∧ (∀ b,b ≠ A.next → Canon.look D'.objs b = Canon.look D.objs b) ∧ cl D' A.next 0 = some v0 ∧ cl D' A.next 1 = some v1 ∧ cl D' A.next 2 = some v2 := fun {D v0 v1 v2} hD hv => by
      obtain ⟨D',c',q1,q2,q3,q4⟩ := sts_upd (l := [v0,v1,v2]) (o := 0) ((hD.keep A.next (by omega)).trans l1) rfl (by simp) hv
      exact ⟨D',q1,q2.next,(q2.nx hD.wf (Nat.zero_le _)).wf,q2.off,by rw [q2.cl,q4]; rfl,by rw [q2.cl,q4]; rfl,by rw [q2.cl,q4]; rfl⟩
    obtain ⟨a0,p0,hred,ha0,hp0,hpk⟩ := red_exists st hro
    rcases hd with ⟨rfl,hno⟩ | ⟨hd0,hd120,hdk,hmin⟩
    · obtain ⟨D,q1,q2,q3,q4,g0,g1,g2⟩ := hr24 (v0 := .int .i64 0) (v1 := .slice none 0 0) (v2 := .slice none 0 0) hB rfl
      (repeat (first | refine Rn.seq hc ?_ | refine Rn.skip hc ?_ | refine Rn.block hc ?_ | refine Rn.inBlock hc ?_ | refine Rn.scope hc ?_ | refine Rn.inScope hc ?_))
      refine Rn.reg hc rfl ?_
      simp only [zAY,zAS,zAU,Nat.reduceLT,gd,zAX,rops,fx,zCF,zOi,zEl,hn,s8,Int.natCast_zero,eq_self,decide_true]
      (repeat (first | refine Rn.seq hc ?_ | refine Rn.skip hc ?_ | refine Rn.block hc ?_ | refine Rn.inBlock hc ?_ | refine Rn.scope hc ?_ | refine Rn.inScope hc ?_))
      refine Rn.zAI hc rfl ?_
      simp only [zAY,zAU,sp_n,Nat.reduceLT,Value.bool.injEq,zEl,hn]
      (repeat (first | refine Rn.seq hc ?_ | refine Rn.skip hc ?_ | refine Rn.block hc ?_ | refine Rn.inBlock hc ?_ | refine Rn.scope hc ?_ | refine Rn.inScope hc ?_))
      refine Rn.reg hc rfl ?_
      simp only [zAY,zAS,zAU,zAT,sp_n,zAN,Nat.reduceLT,ne_eq,Nat.reduceEqDiff,zNf,gd,zAX,rops,fx,str,zAR,Nat.zero_add,zOi,zEl,Nat.reduceAdd,tk24,hn,s6,bd24_z,q1,List.size_toArray,List.length_cons,List.length_nil,Nat.beq_refl]
      (repeat (first | refine Rn.seq hc ?_ | refine Rn.skip hc ?_ | refine Rn.block hc ?_ | refine Rn.inBlock hc ?_ | refine Rn.scope hc ?_ | refine Rn.inScope hc ?_))
      refine Rn.ret (zCT rfl (v := .agg #[.int .i64 0,.slice none 0 0,.slice none 0 0]) ?_ ⟨a0,p0,hred,ha0,hp0,⟨by have := hB.next; omega,q3,fun b hb => by rw [q4 _ (by omega),hB.keep _ (by omega),hx1.keep _ hb]⟩,?_⟩)
      · simp only [zAT,ne_eq,Nat.reduceEqDiff,zNf,ld,zAR,cls,Nat.zero_add,Nat.reduceAdd,tk24,s6,g0,g1,g2]
      · have : 120 < p0 := Nat.lt_of_not_le fun hle => by
          rw [hno p0 hred.per.pos (by omega)] at hpk
          cases hpk
        rw [if_pos (.inl this)]
        simp only [zAU,sp_n,Nat.reduceLT,hn]
    · have hper := perOK_per (st := st) hro hd0 hdk
      have hpmin : ∀ N e,Per (atL st ro) N e → d ≤ e := fun N e => min_per hro hmin
      have hdl := perOK_le hro hdk
      have hdz : decide ((d : Int) = 0) = false := by simp; omega
      obtain ⟨C,p2,hx2,hn2,l2⟩ := put24L hB.wf (v0 := .int .i64 m) (v1 := .slice none 0 0) (v2 := .slice none 0 0) rfl
      have hC : Nx A1.next A1 C := hB.trans (hx2.le hB.next)
      have hBn := hB.next
      (repeat (first | refine Rn.seq hc ?_ | refine Rn.skip hc ?_ | refine Rn.block hc ?_ | refine Rn.inBlock hc ?_ | refine Rn.scope hc ?_ | refine Rn.inScope hc ?_))
      refine Rn.reg hc rfl ?_
      simp only [zAY,zAS,zAU,Nat.reduceLT,gd,zAX,rops,fx,zCF,zOi,zEl,hn,s8,hdz]
      (repeat (first | refine Rn.seq hc ?_ | refine Rn.skip hc ?_ | refine Rn.block hc ?_ | refine Rn.inBlock hc ?_ | refine Rn.scope hc ?_ | refine Rn.inScope hc ?_))
      refine Rn.zAI hc rfl ?_
      simp only [zAY,zAU,sp_n,Nat.reduceLT,Value.bool.injEq,zEl,hn]
      (repeat (first | refine Rn.seq hc ?_ | refine Rn.skip hc ?_ | refine Rn.block hc ?_ | refine Rn.inBlock hc ?_ | refine Rn.scope hc ?_ | refine Rn.inScope hc ?_))
      refine Rn.reg hc rfl ?_
      simp only [zAY,zAU,zAT,sp_n,zAN,Nat.reduceLT,ne_eq,Nat.reduceEqDiff,zNf,gd,zAX,rops,fx,str,zAR,Nat.zero_add,zOi,zEl,Value.cells,Nat.reduceAdd,tk24,hn,s0,bd24_0,zAA,ze24,p2,List.size_toArray,List.length_cons,List.length_nil,Nat.beq_refl]
      (repeat (first | refine Rn.seq hc ?_ | refine Rn.skip hc ?_ | refine Rn.block hc ?_ | refine Rn.inBlock hc ?_ | refine Rn.scope hc ?_ | refine Rn.inScope hc ?_))
      refine Rn.reg hc rfl ?_
      simp only [zAY,zAU,zAT,sp_n,Nat.reduceLT,ne_eq,Nat.reduceEqDiff,zNf,gd,zAX,rops,fx,lng,zOi,zEl,un22,hn,s1]
      (repeat (first | refine Rn.seq hc ?_ | refine Rn.skip hc ?_))
      refine Rn.cut2 hc (Q1 := fun s ds D => ds = [] ∧ Nx C.next C D ∧ s.n = 112 ∧ sget s 0 = .int .i64 m ∧ sget s 1 = .slice sa st.length sc ∧ sget s 2 = .slice ra ro.length rc ∧ sget s 6 = .pointer (some ⟨A.next,0,none⟩) ∧ sget s 8 = .int .i64 (d : Int) ∧ sget s 11 = .pointer (some ⟨B.next,0,none⟩) ∧ ∃ e : Nat,e ≤ st.length ∧ sget s 12 = .int .i64 (e : Int) ∧ Red (atL st ro) e d)
        (Q2 := fun _ _ _ => False) ?_ ?_ ?_
      · (repeat (first | refine Rn.seq hc ?_ | refine Rn.skip hc ?_ | refine Rn.block hc ?_ | refine Rn.inBlock hc ?_ | refine Rn.scope hc ?_ | refine Rn.inScope hc ?_))
        refine Rn.loopI hc (I := fun k s A' => ∃ e : Nat,e ≤ st.length ∧ k = e ∧ Nx C.next C A' ∧ Per (atL st ro) e d ∧ s.n = 112 ∧ sget s 0 = .int .i64 m ∧ sget s 1 = .slice sa st.length sc ∧ sget s 2 = .slice ra ro.length rc ∧ sget s 6 = .pointer (some ⟨A.next,0,none⟩) ∧ sget s 8 = .int .i64 (d : Int) ∧ sget s 11 = .pointer (some ⟨B.next,0,none⟩) ∧ sget s 12 = .int .i64 (e : Int))
          (n := st.length) ⟨st.length,Nat.le_refl _,rfl,Nx.refl hx2.wf _,hper,by simp only [sp_n,hn],by simp only [zAT,ne_eq,Nat.reduceEqDiff,zNf,s0],by simp only [zAT,ne_eq,Nat.reduceEqDiff,zNf,s1],by simp only [zAT,ne_eq,Nat.reduceEqDiff,zNf,s2],by simp only [zAT,ne_eq,Nat.reduceEqDiff,zNf,s6],by simp only [zAT,ne_eq,Nat.reduceEqDiff,zNf,s8],by simp only [zAU,zAT,sp_n,Nat.reduceLT,ne_eq,Nat.reduceEqDiff,zNf,hn],by simp only [zAU,sp_n,Nat.reduceLT,hn]⟩ ?_
        clear hn s0 s1 s2 s6 s8 s
        rintro k s A' ⟨e,he,hke,hA,hpe,hn,s0,s1,s2,s6,s8,s11,s12⟩ ih
        (repeat (first | refine Rn.seq hc ?_ | refine Rn.skip hc ?_ | refine Rn.block hc ?_ | refine Rn.inBlock hc ?_ | refine Rn.scope hc ?_ | refine Rn.inScope hc ?_))
        by_cases he0 : e = 0
        · subst he0
          clear ih
          have hd0' : decide ((0 : Int) < ((0 : Nat) : Int)) = false := rfl
          refine Rn.drawnR hc hx (by kernel_rfl) (by rfl) (by kernel_rfl) ?_ ?_
          · simp only [rdV,VQ.int,VQ.bool,zAY,zAS,zAU,zAT,sp_n,Nat.reduceLT,ne_eq,Nat.reduceEqDiff,zNf,gd,nth,zAX,zAG,beqB,fx,pck,zCZ,Nat.zero_add,Nat.reduceAdd,and_self,hn,s12,hd0',List.length_cons,List.length_nil]
          simp only [zAY,zAS,zAU,zAT,sp_n,Nat.reduceLT,ne_eq,Nat.reduceEqDiff,zNf,gd,nth,zAX,zAG,beqB,rops,fx,pck,zCZ,Nat.zero_add,zOi,zEl,Nat.reduceAdd,hn,s12,hd0',List.length_cons,List.length_nil]
          (repeat (first | refine Rn.seq hc ?_ | refine Rn.skip hc ?_ | refine Rn.block hc ?_ | refine Rn.inBlock hc ?_ | refine Rn.scope hc ?_ | refine Rn.inScope hc ?_))
          refine Rn.zAI hc rfl ?_
          simp only [zAY,zAU,sp_n,Nat.reduceLT,Value.bool.injEq,zEl,hn]
          (repeat (first | refine Rn.seq hc ?_ | refine Rn.skip hc ?_ | refine Rn.block hc ?_ | refine Rn.inBlock hc ?_ | refine Rn.scope hc ?_ | refine Rn.inScope hc ?_))
          refine Rn.exit hc rfl ?_
          (repeat (first | refine Rn.seq hc ?_ | refine Rn.skip hc ?_ | refine Rn.block hc ?_ | refine Rn.inBlock hc ?_ | refine Rn.scope hc ?_ | refine Rn.inScope hc ?_))
          exact Rn.fall ⟨rfl,Nx.bump hA _,by simp only [sp_n,hn],by simp only [zAT,ne_eq,Nat.reduceEqDiff,zNf,s0],by simp only [zAT,ne_eq,Nat.reduceEqDiff,zNf,s1],by simp only [zAT,ne_eq,Nat.reduceEqDiff,zNf,s2],by simp only [zAT,ne_eq,Nat.reduceEqDiff,zNf,s6],by simp only [zAT,ne_eq,Nat.reduceEqDiff,zNf,s8],by simp only [zAT,ne_eq,Nat.reduceEqDiff,zNf,s11],0,by omega,by simp only [zAT,ne_eq,Nat.reduceEqDiff,zNf,s12],red_of hpe hpmin (fun h => absurd h (by omega))⟩
        · have hd0' : decide ((0 : Int) < (e : Int)) = true := by simp; omega
          have hA0 : Nx A.next A A' := hx1.trans ((hC.trans (hA.le (by have := hC.next; omega))).le hx1.next)
          obtain ⟨r,ix,hr1,hr2,hr3,hix,hr4,hr5⟩ := emod_idx (x := ((e - 1 : Nat) : Int) - (st.length : Int)) hd0
          have hmodE := hr5 st.length (e - 1) rfl
          have hidx : ix < ro.length := by omega
          have hel : e - 1 < st.length := by omega
          obtain ⟨bb,o,rfl,_,hb1,hcl⟩ := hs (e - 1) hel
          obtain ⟨bb',o',rfl,_,hb2,hcl'⟩ := hr ix hidx
          have hcl : cl A' bb (o + (e - 1)) = _ := (hA0.cl hb1 _).trans hcl
          have hcl' : cl A' bb' (o' + ix) = _ := (hA0.cl hb2 _).trans hcl'
          have hw1 : IntKind.i64.wrap ((e : Int) - 1) = ((e - 1 : Nat) : Int) := by rw [IntWalk.i64_in _ (by omega)]; omega
          have hw2 : IntKind.i64.wrap (((e - 1 : Nat) : Int) - (st.length : Int)) = ((e - 1 : Nat) : Int) - (st.length : Int) := by rw [IntWalk.i64_in _ (by omega)]
          have hrem1 : ∀ M,bin Try.prog .rem 3 (.int .i64 (((e - 1 : Nat) : Int) - (st.length : Int))) (.int .i64 (d : Int)) M = some (.int .i64 r,M) := fun M => by rw [zCM _ _ _ _ (by omega),hr1]
          have hw3 : IntKind.i64.wrap (r + (d : Int)) = r + (d : Int) := by rw [IntWalk.i64_in _ (by omega)]
          have hrem2 : ∀ M,bin Try.prog .rem 3 (.int .i64 (r + (d : Int))) (.int .i64 (d : Int)) M = some (.int .i64 (ix : Int),M) := fun M => by rw [zCM _ _ _ _ (by omega),hr4]
          have hsame : ro.getD ix 0 = atL st ro (e - 1 + d) := by
            rw [← atL_ro (st := st) hidx]
            exact hpe.same (by omega) (by omega) (by rw [hmodE,Nat.add_mod_right])
          by_cases heq : st.getD (e - 1) 0 = ro.getD ix 0
          · have hdq : decide (st.getD (e - 1) 0 = ro.getD ix 0) = true := decide_eq_true heq
            refine Rn.drawnR hc hx (by kernel_rfl) (by rfl) (by kernel_rfl) ?_ ?_
            · simp only [rdV,VQ.int,VQ.bool,VQ.ptr,VQ.slice,zAB,zAY,zAS,zAU,zAT,sp_n,Nat.reduceLT,ne_eq,Nat.reduceEqDiff,zNf,gd,nth,zAX,zAG,beqB,fx,ld,idx,lng,pck,zCZ,zCF,zAE,zBA,zAR,Nat.zero_add,Nat.reduceAdd,Nat.mul_one,and_self,tk3,un22,eo22,hn,s1,s2,s8,s12,hd0',hw1,hw2,hrem1,hw3,hrem2,zAK hel,zAK hidx,hcl,hcl',hdq,List.length_cons,List.length_nil]
            simp only [zAB,zAY,zAS,zAU,zAT,sp_n,Nat.reduceLT,ne_eq,Nat.reduceEqDiff,zNf,gd,nth,zAX,zAG,beqB,rops,fx,ld,idx,lng,pck,zCZ,zCF,zAE,zBA,zAR,Nat.zero_add,zOi,zEl,Nat.reduceAdd,Nat.mul_one,tk3,un22,eo22,hn,s1,s2,s8,s12,hd0',hw1,hw2,hrem1,hw3,hrem2,zAK hel,zAK hidx,hcl,hcl',hdq,List.length_cons,List.length_nil]
            (repeat (first | refine Rn.seq hc ?_ | refine Rn.skip hc ?_ | refine Rn.block hc ?_ | refine Rn.inBlock hc ?_ | refine Rn.scope hc ?_ | refine Rn.inScope hc ?_))
            refine Rn.zAI hc rfl ?_
            simp only [zAY,zAU,sp_n,Nat.reduceLT,Value.bool.injEq,zEl,hn]
            (repeat (first | refine Rn.seq hc ?_ | refine Rn.skip hc ?_ | refine Rn.block hc ?_ | refine Rn.inBlock hc ?_ | refine Rn.scope hc ?_ | refine Rn.inScope hc ?_))
            refine Rn.reg hc rfl ?_
            simp only [zAY,zAS,zAU,zAT,sp_n,Nat.reduceLT,ne_eq,Nat.reduceEqDiff,zNf,gd,zAX,rops,fx,zBA,zOi,zEl,hn,s12,hw1]
            (repeat (first | refine Rn.seq hc ?_ | refine Rn.skip hc ?_ | refine Rn.block hc ?_ | refine Rn.inBlock hc ?_ | refine Rn.scope hc ?_ | refine Rn.inScope hc ?_))
            refine ih _ _ _ (by omega) ⟨e - 1,by omega,rfl,Nx.bump hA _,Per.back (by rw [show e - 1 + 1 = e by omega]; exact hpe) (by rw [atL_st hel,heq,hsame]),by simp only [sp_n,hn],by simp only [zAT,ne_eq,Nat.reduceEqDiff,zNf,s0],by simp only [zAT,ne_eq,Nat.reduceEqDiff,zNf,s1],by simp only [zAT,ne_eq,Nat.reduceEqDiff,zNf,s2],by simp only [zAT,ne_eq,Nat.reduceEqDiff,zNf,s6],by simp only [zAT,ne_eq,Nat.reduceEqDiff,zNf,s8],by simp only [zAT,ne_eq,Nat.reduceEqDiff,zNf,s11],by simp only [zAU,sp_n,Nat.reduceLT,hn]⟩
          · have hdq : decide (st.getD (e - 1) 0 = ro.getD ix 0) = false := decide_eq_false heq
            clear ih
            refine Rn.drawnR hc hx (by kernel_rfl) (by rfl) (by kernel_rfl) ?_ ?_
            · simp only [rdV,VQ.int,VQ.bool,VQ.ptr,VQ.slice,zAB,zAY,zAS,zAU,zAT,sp_n,Nat.reduceLT,ne_eq,Nat.reduceEqDiff,zNf,gd,nth,zAX,zAG,beqB,fx,ld,idx,lng,pck,zCZ,zCF,zAE,zBA,zAR,Nat.zero_add,Nat.reduceAdd,Nat.mul_one,and_self,tk3,un22,eo22,hn,s1,s2,s8,s12,hd0',hw1,hw2,hrem1,hw3,hrem2,zAK hel,zAK hidx,hcl,hcl',hdq,List.length_cons,List.length_nil]
            simp only [zAB,zAY,zAS,zAU,zAT,sp_n,Nat.reduceLT,ne_eq,Nat.reduceEqDiff,zNf,gd,nth,zAX,zAG,beqB,rops,fx,ld,idx,lng,pck,zCZ,zCF,zAE,zBA,zAR,Nat.zero_add,zOi,zEl,Nat.reduceAdd,Nat.mul_one,tk3,un22,eo22,hn,s1,s2,s8,s12,hd0',hw1,hw2,hrem1,hw3,hrem2,zAK hel,zAK hidx,hcl,hcl',hdq,List.length_cons,List.length_nil]
            (repeat (first | refine Rn.seq hc ?_ | refine Rn.skip hc ?_ | refine Rn.block hc ?_ | refine Rn.inBlock hc ?_ | refine Rn.scope hc ?_ | refine Rn.inScope hc ?_))
            refine Rn.zAI hc rfl ?_
            simp only [zAY,zAU,sp_n,Nat.reduceLT,Value.bool.injEq,zEl,hn]
            (repeat (first | refine Rn.seq hc ?_ | refine Rn.skip hc ?_ | refine Rn.block hc ?_ | refine Rn.inBlock hc ?_ | refine Rn.scope hc ?_ | refine Rn.inScope hc ?_))
            refine Rn.exit hc rfl ?_
            (repeat (first | refine Rn.seq hc ?_ | refine Rn.skip hc ?_ | refine Rn.block hc ?_ | refine Rn.inBlock hc ?_ | refine Rn.scope hc ?_ | refine Rn.inScope hc ?_))
            exact Rn.fall ⟨rfl,Nx.bump hA _,by simp only [sp_n,hn],by simp only [zAT,ne_eq,Nat.reduceEqDiff,zNf,s0],by simp only [zAT,ne_eq,Nat.reduceEqDiff,zNf,s1],by simp only [zAT,ne_eq,Nat.reduceEqDiff,zNf,s2],by simp only [zAT,ne_eq,Nat.reduceEqDiff,zNf,s6],by simp only [zAT,ne_eq,Nat.reduceEqDiff,zNf,s8],by simp only [zAT,ne_eq,Nat.reduceEqDiff,zNf,s11],e,he,by simp only [zAT,ne_eq,Nat.reduceEqDiff,zNf,s12],red_of hpe hpmin (fun _ hh => heq (by rw [← atL_st (ro := ro) hel,hh,hsame]))⟩
      · clear hn s0 s1 s2 s6 s8 s
        rintro s ds D ⟨rfl,hD,hn,s0,s1,s2,s6,s8,s11,a,hal,s12,hra⟩
        have hCn := hC.next
        have hDn := hD.next
        have hD1 : Nx A1.next A1 D := hC.trans (hD.le hC.next)
        have hD0 : Nx A.next A D := hx1.trans (hD1.le hx1.next)
        (repeat (first | refine Rn.seq hc ?_ | refine Rn.skip hc ?_ | refine Rn.block hc ?_ | refine Rn.inBlock hc ?_ | refine Rn.scope hc ?_ | refine Rn.inScope hc ?_))
        by_cases h60 : 60 < a
        · have hd60 : decide ((60 : Int) < (a : Int)) = true := by simp; omega
          obtain ⟨E,q1,q2,q3,q4,g0,g1,g2⟩ := hr24 (v0 := .int .i64 0) (v1 := .slice none 0 0) (v2 := .slice none 0 0) hD1 rfl
          refine Rn.reg hc rfl ?_
          simp only [zAY,zAS,zAU,Nat.reduceLT,gd,zAX,rops,fx,zCZ,zOi,zEl,hn,s12,hd60]
          (repeat (first | refine Rn.seq hc ?_ | refine Rn.skip hc ?_ | refine Rn.block hc ?_ | refine Rn.inBlock hc ?_ | refine Rn.scope hc ?_ | refine Rn.inScope hc ?_))
          refine Rn.zAI hc rfl ?_
          simp only [zAY,zAU,sp_n,Nat.reduceLT,Value.bool.injEq,zEl,hn]
          (repeat (first | refine Rn.seq hc ?_ | refine Rn.skip hc ?_ | refine Rn.block hc ?_ | refine Rn.inBlock hc ?_ | refine Rn.scope hc ?_ | refine Rn.inScope hc ?_))
          refine Rn.reg hc rfl ?_
          simp only [zAY,zAS,zAU,zAT,sp_n,zAN,Nat.reduceLT,ne_eq,Nat.reduceEqDiff,zNf,gd,zAX,rops,fx,str,zAR,Nat.zero_add,zOi,zEl,Nat.reduceAdd,tk24,hn,s6,bd24_z,q1,List.size_toArray,List.length_cons,List.length_nil,Nat.beq_refl]
          (repeat (first | refine Rn.seq hc ?_ | refine Rn.skip hc ?_ | refine Rn.block hc ?_ | refine Rn.inBlock hc ?_ | refine Rn.scope hc ?_ | refine Rn.inScope hc ?_))
          refine Rn.ret (zCT rfl (v := .agg #[.int .i64 0,.slice none 0 0,.slice none 0 0]) ?_ ⟨a,d,hra,hal,hdl,⟨by omega,q3,fun b hb => by rw [q4 _ (by omega),hD0.keep _ hb]⟩,?_⟩)
          · simp only [zAT,ne_eq,Nat.reduceEqDiff,zNf,ld,zAR,cls,Nat.zero_add,Nat.reduceAdd,tk24,s6,g0,g1,g2]
          · rw [if_pos (.inr h60)]
            simp only [zAU,sp_n,Nat.reduceLT,hn]
        · have hd60 : decide ((60 : Int) < (a : Int)) = false := by simp; omega
          refine Rn.reg hc rfl ?_
          simp only [zAY,zAS,zAU,Nat.reduceLT,gd,zAX,rops,fx,zCZ,zOi,zEl,hn,s12,hd60]
          (repeat (first | refine Rn.seq hc ?_ | refine Rn.skip hc ?_ | refine Rn.block hc ?_ | refine Rn.inBlock hc ?_ | refine Rn.scope hc ?_ | refine Rn.inScope hc ?_))
          refine Rn.zAI hc rfl ?_
          simp only [zAY,zAU,sp_n,Nat.reduceLT,Value.bool.injEq,zEl,hn]
          (repeat (first | refine Rn.seq hc ?_ | refine Rn.skip hc ?_ | refine Rn.block hc ?_ | refine Rn.inBlock hc ?_ | refine Rn.scope hc ?_ | refine Rn.inScope hc ?_))
          have hsD : Ints D sa 0 D.next st := (hs.nx hD0 (Nat.le_refl _)).mono (Nat.le_refl _) hD0.next
          obtain ⟨sa',sc',hasl,hsl'⟩ := asl_hi hsD (hsl.nx hw hD0) hsc hal
          have htk : (st.take a).length = a := by simp; omega
          refine Rn.region hc fun K hK => ?_
          refine Wo.run hc 3 rfl rfl rfl ?_
          simp (maxSteps := 2000000) only [List.drop_zero,List.take_succ_cons,List.take_zero,zAY,zAU,zAT,sp_n,Nat.reduceLT,ne_eq,Nat.reduceEqDiff,not_false_eq_true,gd,zAX,rops,fx,Nat.zero_add,Option.some.injEq,exists_eq_left',hn,s1,s12,ae_asl_hi,hasl]
          refine Wo.call hc (by rfl) (by rfl) ⟨by rfl,by rfl⟩ (xs := [.slice sa' (st.take a).length sc']) (by rfl) (by rfl) (by simp only [zAY,zAU,sp_n,Nat.reduceLT,List.map_cons,List.map_nil,List.nil_append,List.append_nil,hn]) (Con.mono (clone_ints hD.wf hsl' (by omega)) ?_)
          rintro w E ⟨xa,rfl,hE,hgE⟩
          rw [htk]
          have lE : Canon.look E.objs B.next = _ := (hE.keep _ (by omega)).trans ((hD.keep _ (by omega)).trans l2)
          obtain ⟨G,u1,u2⟩ := st1_upd (o := 1) (v := .slice xa a a) lE rfl (by simp) rfl
          have lG : Canon.look G.objs B.next = some ⟨.cells #[.int .i64 m,.slice xa a a,.slice none 0 0] 24,false,0⟩ := by
            obtain ⟨c,t,f,g,e,r1,r2,_⟩ := u2.at'
            rw [lE] at r1
            cases r1
            exact r2
          refine Wo.run hc 2 rfl rfl rfl ?_
          simp (maxSteps := 2000000) only [List.drop_zero,List.drop_succ_cons,List.take_succ_cons,List.take_zero,zAY,zAU,zAT,sp_n,zAN,Nat.reduceLT,ne_eq,Nat.reduceEqDiff,not_false_eq_true,gd,zAX,rops,fx,str,fad,zAR,Nat.zero_add,Option.some.injEq,exists_eq_left',Nat.reduceAdd,tk22,zCY,hn,s11,u1]
          refine Wo.done hc rfl (hK _ _ ?_)
          clear hK
          (repeat (first | refine Rn.seq hc ?_ | refine Rn.skip hc ?_ | refine Rn.block hc ?_ | refine Rn.inBlock hc ?_ | refine Rn.scope hc ?_ | refine Rn.inScope hc ?_))
          have hEn := hE.next
          have hGn := u2.next
          have wG : WF G := (u2.nx hE.wf (Nat.zero_le _)).wf
          have htake : st.take a = redS (atL st ro) a := by
            refine List.ext_getElem (by rw [zBV]; exact htk) fun i h1 h2 => ?_
            have hi : i < a := by omega
            have := atL_st (ro := ro) (show i < st.length by omega)
            simp [redS,this,List.getD_eq_getElem?_getD,show i < st.length by omega]
          rw [htake] at hgE
          have hG0 : ∀ b,b < A1.next → Canon.look G.objs b = Canon.look A1.objs b := fun b hb => by rw [u2.off _ (by omega),hE.keep _ (by omega),hD1.keep _ hb]
          refine Rn.reg hc rfl ?_
          simp only [zAY,zAS,zAT,ne_eq,Nat.reduceEqDiff,zNf,gd,zAX,rops,fx,zOi,zEl,s8]
          (repeat (first | refine Rn.seq hc ?_ | refine Rn.skip hc ?_ | refine Rn.block hc ?_ | refine Rn.inBlock hc ?_ | refine Rn.scope hc ?_ | refine Rn.inScope hc ?_))
          refine Rn.loopI hc (I := fun k s A' => ∃ ya,∃ i : Nat,i ≤ d ∧ k = d - i ∧ G.next ≤ A'.next ∧ WF A' ∧ (∀ b,b < G.next → b ≠ B.next → Canon.look A'.objs b = Canon.look G.objs b) ∧ Gr A' ya G.next (redR (atL st ro) a i) ∧ Canon.look A'.objs B.next = some ⟨.cells #[.int .i64 m,.slice xa a a,.slice ya i i] 24,false,0⟩ ∧ s.n = 112 ∧ sget s 1 = .slice sa st.length sc ∧ sget s 2 = .slice ra ro.length rc ∧ sget s 6 = .pointer (some ⟨A.next,0,none⟩) ∧ sget s 8 = .int .i64 (d : Int) ∧ sget s 11 = .pointer (some ⟨B.next,0,none⟩) ∧ sget s 12 = .int .i64 (a : Int) ∧ sget s 86 = .int .i64 (d : Int) ∧ sget s 87 = .int .i64 (i : Int))
            (n := d) ⟨none,0,by omega,rfl,Nat.le_refl _,wG,fun _ _ _ => rfl,Gr.nil _ _,lG,by simp only [sp_n,hn],by simp only [zAT,ne_eq,Nat.reduceEqDiff,zNf,s1],by simp only [zAT,ne_eq,Nat.reduceEqDiff,zNf,s2],by simp only [zAT,ne_eq,Nat.reduceEqDiff,zNf,s6],by simp only [zAT,ne_eq,Nat.reduceEqDiff,zNf,s8],by simp only [zAT,ne_eq,Nat.reduceEqDiff,zNf,s11],by simp only [zAT,ne_eq,Nat.reduceEqDiff,zNf,s12],by simp only [zAU,zAT,sp_n,Nat.reduceLT,ne_eq,Nat.reduceEqDiff,zNf,hn],by simp only [zAU,sp_n,Nat.reduceLT,hn]; rfl⟩ ?_
          clear hn s0 s1 s2 s6 s8 s11 s12 s
          rintro k s A' ⟨ya,i,hi,hke,hA'n,hw',hkp,hgy,lA',hn,s1,s2,s6,s8,s11,s12,s86,s87⟩ ih
          (repeat (first | refine Rn.seq hc ?_ | refine Rn.skip hc ?_ | refine Rn.block hc ?_ | refine Rn.inBlock hc ?_ | refine Rn.scope hc ?_ | refine Rn.inScope hc ?_))
          by_cases hlt : i < d
          · have hd : decide ((i : Int) < (d : Int)) = true := by simp; omega
            refine Rn.reg hc rfl ?_
            simp only [zAY,gd,zAX,rops,fx,zAP,zOi,zEl,s86,s87,hd]
            (repeat (first | refine Rn.seq hc ?_ | refine Rn.skip hc ?_ | refine Rn.block hc ?_ | refine Rn.inBlock hc ?_ | refine Rn.scope hc ?_ | refine Rn.inScope hc ?_))
            refine Rn.zAI hc rfl ?_
            simp only [zAY,zAU,Nat.reduceLT,Value.bool.injEq,zEl,hn]
            (repeat (first | refine Rn.seq hc ?_ | refine Rn.skip hc ?_ | refine Rn.block hc ?_ | refine Rn.inBlock hc ?_ | refine Rn.scope hc ?_ | refine Rn.inScope hc ?_))
            refine Rn.reg hc rfl ?_
            simp only [zAY,zAU,zAT,sp_n,Nat.reduceLT,ne_eq,Nat.reduceEqDiff,zNf,gd,zAX,rops,fx,zOi,zEl,hn,s87]
            (repeat (first | refine Rn.seq hc ?_ | refine Rn.skip hc ?_ | refine Rn.block hc ?_ | refine Rn.inBlock hc ?_ | refine Rn.scope hc ?_ | refine Rn.inScope hc ?_))
            obtain ⟨r,ix,hr1,hr2,hr3,hix,hr4,hr5⟩ := emod_idx (x := ((a + i : Nat) : Int) - (st.length : Int)) hd0
            have hmodE := hr5 st.length (a + i) rfl
            have hidx : ix < ro.length := by omega
            obtain ⟨bb,o,rfl,_,hb1,hcl⟩ := hr ix hidx
            have hLb : ∀ b,b < A.next → Canon.look A'.objs b = Canon.look A.objs b := fun b hb => by rw [hkp _ (by omega) (by omega),hG0 _ (by omega),hx1.keep _ hb]
            have hcl : cl A' bb (o + ix) = _ := (zBT (hLb bb hb1)).trans hcl
            have hval : ro.getD ix 0 = atL st ro (a + i) := by
              rw [← atL_ro (st := st) hidx]
              exact hra.per.same (by omega) (by omega) hmodE
            rw [hval] at hcl
            have hw1 : IntKind.i64.wrap ((a : Int) - (st.length : Int)) = (a : Int) - (st.length : Int) := by rw [IntWalk.i64_in _ (by omega)]
            have hw2 : IntKind.i64.wrap ((a : Int) - (st.length : Int) + (i : Int)) = ((a + i : Nat) : Int) - (st.length : Int) := by rw [IntWalk.i64_in _ (by omega)]; omega
            have hrem1 : ∀ M,bin Try.prog .rem 3 (.int .i64 (((a + i : Nat) : Int) - (st.length : Int))) (.int .i64 (d : Int)) M = some (.int .i64 r,M) := fun M => by rw [zCM _ _ _ _ (by omega),hr1]
            have hw3 : IntKind.i64.wrap (r + (d : Int)) = r + (d : Int) := by rw [IntWalk.i64_in _ (by omega)]
            have hrem2 : ∀ M,bin Try.prog .rem 3 (.int .i64 (r + (d : Int))) (.int .i64 (d : Int)) M = some (.int .i64 (ix : Int),M) := fun M => by rw [zCM _ _ _ _ (by omega),hr4]
            have c2 : cl A' B.next 2 = some (.slice ya i i) := by rw [zBM lA' rfl]; rfl
            obtain ⟨F,hF1,hF2,hF⟩ : ∃ F : AHeap → Prop,(∀ M,F M → cl M B.next 2 = some (.slice ya i i)) ∧ (∀ M,F M → cl M bb (o + ix) = some (.int .i64 (atL st ro (a + i)))) ∧ (∀ M,Canon.look M.objs B.next = Canon.look A'.objs B.next → Canon.look M.objs bb = Canon.look A'.objs bb → F M) :=
              ⟨fun M => cl M B.next 2 = some (.slice ya i i) ∧ cl M bb (o + ix) = some (.int .i64 (atL st ro (a + i))),fun _ h => h.1,fun _ h => h.2,fun M q1 q2 => ⟨(zBT q1).trans c2,(zBT q2).trans hcl⟩⟩
            have FB := hF (bump A' 21) rfl rfl
            have hxB : Nx A'.next A' (bump A' 21) := Nx.bump (Nx.refl hw' _) 21
            refine Rn.drawnL hc hx noS F (E := [17,18]) (n := 20) (k := 21) (by kernel_rfl) (by kernel_rfl) (by rfl) (by kernel_rfl) ?_
            refine DrL.read (by first | rfl | kernel_rfl) (by rfl) (by assumption) (fun M hM => by simp only [zAY,zAT,ne_eq,Nat.reduceEqDiff,zNf,fx,fad,zAR,Nat.zero_add,zDY,s11] <;> rfl) (by rfl) (by first | exact VQ.int _ _ | exact VQ.bool _ | exact VQ.ptr _ _ | exact VQ.slice _ _ _ | exact VQ.func (by simp [zAW,zAV,zAZ]) (by simp [zAW,zAV,zAZ]) | exact VQ.agg (by simp [zAW,zAV,zAZ]) | exact VQ.tuple (by simp [zAW,zAV,zAZ])) ?_
            refine DrL.read (by first | rfl | kernel_rfl) (by rfl) (by assumption) (fun M hM => by simp only [zAY,zAU,sp_n,Nat.reduceLT,fx,ld,zAR,tk22,hn,hF1 M hM] <;> rfl) (by rfl) (by first | exact VQ.int _ _ | exact VQ.bool _ | exact VQ.ptr _ _ | exact VQ.slice _ _ _ | exact VQ.func (by simp [zAW,zAV,zAZ]) (by simp [zAW,zAV,zAZ]) | exact VQ.agg (by simp [zAW,zAV,zAZ]) | exact VQ.tuple (by simp [zAW,zAV,zAZ])) ?_
            refine DrL.read (by first | rfl | kernel_rfl) (by rfl) (by assumption) (fun M hM => by simp only [zAY,zAT,ne_eq,Nat.reduceEqDiff,zNf,fx,s2] <;> rfl) (by rfl) (by first | exact VQ.int _ _ | exact VQ.bool _ | exact VQ.ptr _ _ | exact VQ.slice _ _ _ | exact VQ.func (by simp [zAW,zAV,zAZ]) (by simp [zAW,zAV,zAZ]) | exact VQ.agg (by simp [zAW,zAV,zAZ]) | exact VQ.tuple (by simp [zAW,zAV,zAZ])) ?_
            refine DrL.read (by first | rfl | kernel_rfl) (by rfl) (by assumption) (fun M hM => by simp only [zAY,zAT,ne_eq,Nat.reduceEqDiff,zNf,fx,s12] <;> rfl) (by rfl) (by first | exact VQ.int _ _ | exact VQ.bool _ | exact VQ.ptr _ _ | exact VQ.slice _ _ _ | exact VQ.func (by simp [zAW,zAV,zAZ]) (by simp [zAW,zAV,zAZ]) | exact VQ.agg (by simp [zAW,zAV,zAZ]) | exact VQ.tuple (by simp [zAW,zAV,zAZ])) ?_
            refine DrL.read (by first | rfl | kernel_rfl) (by rfl) (by assumption) (fun M hM => by simp only [zAY,zAT,ne_eq,Nat.reduceEqDiff,zNf,fx,s1] <;> rfl) (by rfl) (by first | exact VQ.int _ _ | exact VQ.bool _ | exact VQ.ptr _ _ | exact VQ.slice _ _ _ | exact VQ.func (by simp [zAW,zAV,zAZ]) (by simp [zAW,zAV,zAZ]) | exact VQ.agg (by simp [zAW,zAV,zAZ]) | exact VQ.tuple (by simp [zAW,zAV,zAZ])) ?_
            refine DrL.read (by first | rfl | kernel_rfl) (by rfl) (by assumption) (fun M hM => by simp only [zAY,zAU,sp_n,Nat.reduceLT,fx,lng,un22,hn] <;> rfl) (by rfl) (by first | exact VQ.int _ _ | exact VQ.bool _ | exact VQ.ptr _ _ | exact VQ.slice _ _ _ | exact VQ.func (by simp [zAW,zAV,zAZ]) (by simp [zAW,zAV,zAZ]) | exact VQ.agg (by simp [zAW,zAV,zAZ]) | exact VQ.tuple (by simp [zAW,zAV,zAZ])) ?_
            refine DrL.read (by first | rfl | kernel_rfl) (by rfl) (by assumption) (fun M hM => by simp only [zAY,zAU,zAT,sp_n,Nat.reduceLT,ne_eq,Nat.reduceEqDiff,zNf,fx,zBA,hn,hw1] <;> rfl) (by rfl) (by first | exact VQ.int _ _ | exact VQ.bool _ | exact VQ.ptr _ _ | exact VQ.slice _ _ _ | exact VQ.func (by simp [zAW,zAV,zAZ]) (by simp [zAW,zAV,zAZ]) | exact VQ.agg (by simp [zAW,zAV,zAZ]) | exact VQ.tuple (by simp [zAW,zAV,zAZ])) ?_
            refine DrL.read (by first | rfl | kernel_rfl) (by rfl) (by assumption) (fun M hM => by simp only [zAY,zAU,zAT,sp_n,Nat.reduceLT,ne_eq,Nat.reduceEqDiff,zNf,fx,hn] <;> rfl) (by rfl) (by first | exact VQ.int _ _ | exact VQ.bool _ | exact VQ.ptr _ _ | exact VQ.slice _ _ _ | exact VQ.func (by simp [zAW,zAV,zAZ]) (by simp [zAW,zAV,zAZ]) | exact VQ.agg (by simp [zAW,zAV,zAZ]) | exact VQ.tuple (by simp [zAW,zAV,zAZ])) ?_
            refine DrL.read (by first | rfl | kernel_rfl) (by rfl) (by assumption) (fun M hM => by simp only [zAY,zAU,zAT,sp_n,Nat.reduceLT,ne_eq,Nat.reduceEqDiff,zNf,fx,zAE,hn,hw2] <;> rfl) (by rfl) (by first | exact VQ.int _ _ | exact VQ.bool _ | exact VQ.ptr _ _ | exact VQ.slice _ _ _ | exact VQ.func (by simp [zAW,zAV,zAZ]) (by simp [zAW,zAV,zAZ]) | exact VQ.agg (by simp [zAW,zAV,zAZ]) | exact VQ.tuple (by simp [zAW,zAV,zAZ])) ?_
            refine DrL.read (by first | rfl | kernel_rfl) (by rfl) (by assumption) (fun M hM => by simp only [zAY,zAT,ne_eq,Nat.reduceEqDiff,zNf,fx,s8] <;> rfl) (by rfl) (by first | exact VQ.int _ _ | exact VQ.bool _ | exact VQ.ptr _ _ | exact VQ.slice _ _ _ | exact VQ.func (by simp [zAW,zAV,zAZ]) (by simp [zAW,zAV,zAZ]) | exact VQ.agg (by simp [zAW,zAV,zAZ]) | exact VQ.tuple (by simp [zAW,zAV,zAZ])) ?_
            refine DrL.read (by first | rfl | kernel_rfl) (by rfl) (by assumption) (fun M hM => by simp only [zAY,zAU,zAT,sp_n,Nat.reduceLT,ne_eq,Nat.reduceEqDiff,zNf,fx,hn,hrem1] <;> rfl) (by rfl) (by first | exact VQ.int _ _ | exact VQ.bool _ | exact VQ.ptr _ _ | exact VQ.slice _ _ _ | exact VQ.func (by simp [zAW,zAV,zAZ]) (by simp [zAW,zAV,zAZ]) | exact VQ.agg (by simp [zAW,zAV,zAZ]) | exact VQ.tuple (by simp [zAW,zAV,zAZ])) ?_
            refine DrL.read (by first | rfl | kernel_rfl) (by rfl) (by assumption) (fun M hM => by simp only [zAY,zAT,ne_eq,Nat.reduceEqDiff,zNf,fx,s8] <;> rfl) (by rfl) (by first | exact VQ.int _ _ | exact VQ.bool _ | exact VQ.ptr _ _ | exact VQ.slice _ _ _ | exact VQ.func (by simp [zAW,zAV,zAZ]) (by simp [zAW,zAV,zAZ]) | exact VQ.agg (by simp [zAW,zAV,zAZ]) | exact VQ.tuple (by simp [zAW,zAV,zAZ])) ?_
            refine DrL.read (by first | rfl | kernel_rfl) (by rfl) (by assumption) (fun M hM => by simp only [zAY,zAU,zAT,sp_n,Nat.reduceLT,ne_eq,Nat.reduceEqDiff,zNf,fx,zAE,hn,hw3] <;> rfl) (by rfl) (by first | exact VQ.int _ _ | exact VQ.bool _ | exact VQ.ptr _ _ | exact VQ.slice _ _ _ | exact VQ.func (by simp [zAW,zAV,zAZ]) (by simp [zAW,zAV,zAZ]) | exact VQ.agg (by simp [zAW,zAV,zAZ]) | exact VQ.tuple (by simp [zAW,zAV,zAZ])) ?_
            refine DrL.read (by first | rfl | kernel_rfl) (by rfl) (by assumption) (fun M hM => by simp only [zAY,zAT,ne_eq,Nat.reduceEqDiff,zNf,fx,s8] <;> rfl) (by rfl) (by first | exact VQ.int _ _ | exact VQ.bool _ | exact VQ.ptr _ _ | exact VQ.slice _ _ _ | exact VQ.func (by simp [zAW,zAV,zAZ]) (by simp [zAW,zAV,zAZ]) | exact VQ.agg (by simp [zAW,zAV,zAZ]) | exact VQ.tuple (by simp [zAW,zAV,zAZ])) ?_
            refine DrL.read (by first | rfl | kernel_rfl) (by rfl) (by assumption) (fun M hM => by simp only [zAY,zAU,zAT,sp_n,Nat.reduceLT,ne_eq,Nat.reduceEqDiff,zNf,fx,hn,hrem2] <;> rfl) (by rfl) (by first | exact VQ.int _ _ | exact VQ.bool _ | exact VQ.ptr _ _ | exact VQ.slice _ _ _ | exact VQ.func (by simp [zAW,zAV,zAZ]) (by simp [zAW,zAV,zAZ]) | exact VQ.agg (by simp [zAW,zAV,zAZ]) | exact VQ.tuple (by simp [zAW,zAV,zAZ])) ?_
            refine DrL.read (by first | rfl | kernel_rfl) (by rfl) (by assumption) (fun M hM => by simp only [zAY,zAU,zAT,sp_n,Nat.reduceLT,ne_eq,Nat.reduceEqDiff,zNf,fx,idx,Nat.mul_one,eo22,hn,zAK hidx] <;> rfl) (by rfl) (by first | exact VQ.int _ _ | exact VQ.bool _ | exact VQ.ptr _ _ | exact VQ.slice _ _ _ | exact VQ.func (by simp [zAW,zAV,zAZ]) (by simp [zAW,zAV,zAZ]) | exact VQ.agg (by simp [zAW,zAV,zAZ]) | exact VQ.tuple (by simp [zAW,zAV,zAZ])) ?_
            refine DrL.read (by first | rfl | kernel_rfl) (by rfl) (by assumption) (fun M hM => by simp only [zAY,zAU,sp_n,Nat.reduceLT,fx,ld,zAR,tk3,hn,hF2 M hM] <;> rfl) (by rfl) (by first | exact VQ.int _ _ | exact VQ.bool _ | exact VQ.ptr _ _ | exact VQ.slice _ _ _ | exact VQ.func (by simp [zAW,zAV,zAZ]) (by simp [zAW,zAV,zAZ]) | exact VQ.agg (by simp [zAW,zAV,zAZ]) | exact VQ.tuple (by simp [zAW,zAV,zAZ])) ?_
            refine DrL.float (by rfl) (by rfl) (by rfl) (fb22_1 (v := .int .i64 (atL st ro (a + i))) (by simp only [zAY,zAU,sp_n,Nat.reduceLT,hn]) rfl) ?_
            have hnb : Canon.look (bump A' 21).objs (A'.next + 17) = none := hw'.none (by omega)
            obtain ⟨B2,p1,hxB2,eB2,lB2,kB2⟩ := place_row (N := 0) (Nx.refl hxB.wf 0) (b := A'.next + 17) (Nat.zero_le _) (by rw [zAH]; omega) hnb [.int .i64 (atL st ro (a + i))] 3 1 1
            rw [zAH] at eB2
            have F2 := hF B2 (kB2 _ (by omega)) (kB2 _ (by omega))
            have hg2 : Gr B2 ya G.next (redR (atL st ro) a i) := (hgy.nx (n := 0) hw' hxB).ext (by rw [zAH]; omega) fun b' hb' => by
              by_cases hbb : b' = A'.next + 17
              · exact .inl (hbb ▸ hnb)
              · exact .inr (kB2 _ hbb)
            have hlen := zBI (atL st ro) a i
            obtain ⟨B3,q1,n3,w3,hg3,kp3,_⟩ := gr_push hxB2.wf hg2 (a2 := some ⟨A'.next + 17,0,none⟩) (c2 := 1) (b2 := A'.next + 17) (x := atL st ro (a + i)) rfl (by rw [zBM lB2 rfl]; rfl) (by omega)
            rw [hlen] at q1
            have hsnoc : redR (atL st ro) a i ++ [atL st ro (a + i)] = redR (atL st ro) a (i + 1) := by simp [redR,List.range_succ]
            rw [hsnoc] at hg3
            have L3 : ∀ b',b' < G.next → Canon.look B3.objs b' = Canon.look A'.objs b' := fun b' hb' => by
              rw [kp3 b' (by omega) (fun y hy => by obtain ⟨_,q,_⟩ := hg2.sl y hy; omega),kB2 _ (by omega)]
              rfl
            have F3 := hF B3 (L3 _ (by omega)) (L3 _ (by omega))
            refine DrL.eff (by rfl) (by rfl) (pd1 := [(17,⟨[.int .i64 (atL st ro (a + i))],3,.sl 1 1⟩)]) (pd2 := []) (by kernel_rfl) (by kernel_rfl) (ms0 := [bump A' 21]) (A0 := B2) (by simp only [zBO,p1]) (fun M hM => by rw [List.mem_singleton] at hM; rw [hM]; exact FB) F2 (by rfl)
              (v := .slice (some ⟨B2.next,0,none⟩) (i + 1) (i + 1)) (A1 := B3) (zBK rfl (by simp only [zAY,zAU,zAT,sp_n,Nat.reduceLT,ne_eq,Nat.reduceEqDiff,zNf,Nat.zero_add,Nat.reduceAdd,hn,ae_apd,apd_slice,FK.val]; exact q1)) ?_
            refine DrL.read (by first | rfl | kernel_rfl) (by rfl) (by assumption) (fun M hM => by simp only [zAY,zAT,ne_eq,Nat.reduceEqDiff,zNf,fx,fad,zAR,Nat.zero_add,Nat.reduceAdd,zDY,s11] <;> rfl) (by rfl) (by first | exact VQ.int _ _ | exact VQ.bool _ | exact VQ.ptr _ _ | exact VQ.slice _ _ _ | exact VQ.func (by simp [zAW,zAV,zAZ]) (by simp [zAW,zAV,zAZ]) | exact VQ.agg (by simp [zAW,zAV,zAZ]) | exact VQ.tuple (by simp [zAW,zAV,zAZ])) ?_
            have l3 : Canon.look B3.objs B.next = _ := (L3 _ (by omega)).trans lA'
            obtain ⟨B4,v1,v2⟩ := st1_upd (o := 2) (v := .slice (some ⟨B2.next,0,none⟩) (i + 1) (i + 1)) l3 rfl (by simp) rfl
            refine DrL.eff (by rfl) (by rfl) (pd1 := []) (pd2 := []) (by kernel_rfl) (by kernel_rfl) (ms0 := []) (A0 := B3) rfl (fun _ h => by cases h) F3 (by rfl) (v := undef) (A1 := B4) (zBK rfl (fx_ok (by rfl) (by simp only [zAY,zAU,zAT,sp_n,Nat.reduceLT,ne_eq,Nat.reduceEqDiff,zNf,fx,str,zAR,Nat.zero_add,Nat.reduceAdd,tk22,hn,v1]))) ?_
            refine DrL.nil ⟨by rfl,B4,by rfl,?_⟩
            (repeat (first | refine Rn.seq hc ?_ | refine Rn.skip hc ?_ | refine Rn.block hc ?_ | refine Rn.inBlock hc ?_ | refine Rn.scope hc ?_ | refine Rn.inScope hc ?_))
            refine Rn.reg hc rfl ?_
            simp only [zAY,zAS,zAU,zAT,sp_n,zAN,Nat.reduceLT,ne_eq,Nat.reduceEqDiff,zNf,gd,zAX,rops,fx,zAE,Nat.zero_add,zOi,zEl,Nat.reduceAdd,hn,s87,zBY (show i < 9223372036854775807 by omega)]
            (repeat (first | refine Rn.seq hc ?_ | refine Rn.skip hc ?_ | refine Rn.block hc ?_ | refine Rn.inBlock hc ?_ | refine Rn.scope hc ?_ | refine Rn.inScope hc ?_))
            have l4 : Canon.look B4.objs B.next = some ⟨.cells #[.int .i64 m,.slice xa a a,.slice (some ⟨B2.next,0,none⟩) (i + 1) (i + 1)] 24,false,0⟩ := by
              obtain ⟨c,t,f,g,e,r1,r2,_⟩ := v2.at'
              rw [l3] at r1
              cases r1
              exact r2
            have hn4 := v2.next
            refine ih _ _ _ (by omega) ⟨some ⟨B2.next,0,none⟩,i + 1,by omega,rfl,by omega,(v2.nx w3 (Nat.zero_le _)).wf,fun b hb hne => ?_,(hg3.off v2 (by omega)).mono (by omega),l4,by simp only [sp_n,hn],by simp only [zAT,ne_eq,Nat.reduceEqDiff,zNf,s1],by simp only [zAT,ne_eq,Nat.reduceEqDiff,zNf,s2],by simp only [zAT,ne_eq,Nat.reduceEqDiff,zNf,s6],by simp only [zAT,ne_eq,Nat.reduceEqDiff,zNf,s8],by simp only [zAT,ne_eq,Nat.reduceEqDiff,zNf,s11],by simp only [zAT,ne_eq,Nat.reduceEqDiff,zNf,s12],by simp only [zAT,ne_eq,Nat.reduceEqDiff,zNf,s86],by simp only [zAU,sp_n,Nat.reduceLT,hn]⟩
            rw [v2.off _ hne,L3 _ hb]
            exact hkp b hb hne
          · have hd : decide ((i : Int) < (d : Int)) = false := by simp; omega
            have hid : i = d := by omega
            subst hid
            clear ih
            refine Rn.reg hc rfl ?_
            simp only [zAY,gd,zAX,rops,fx,zAP,zOi,zEl,s86,s87,hd]
            (repeat (first | refine Rn.seq hc ?_ | refine Rn.skip hc ?_ | refine Rn.block hc ?_ | refine Rn.inBlock hc ?_ | refine Rn.scope hc ?_ | refine Rn.inScope hc ?_))
            refine Rn.zAI hc rfl ?_
            simp only [zAY,zAU,Nat.reduceLT,Value.bool.injEq,zEl,hn]
            (repeat (first | refine Rn.seq hc ?_ | refine Rn.skip hc ?_ | refine Rn.block hc ?_ | refine Rn.inBlock hc ?_ | refine Rn.scope hc ?_ | refine Rn.inScope hc ?_))
            refine Rn.exit hc rfl ?_
            (repeat (first | refine Rn.seq hc ?_ | refine Rn.skip hc ?_ | refine Rn.block hc ?_ | refine Rn.inBlock hc ?_ | refine Rn.scope hc ?_ | refine Rn.inScope hc ?_))
            have c0 : cl A' B.next 0 = some (.int .i64 m) := by rw [zBM lA' rfl]; rfl
            have c1 : cl A' B.next 1 = some (.slice xa a a) := by rw [zBM lA' rfl]; rfl
            have c2 : cl A' B.next 2 = some (.slice ya i i) := by rw [zBM lA' rfl]; rfl
            have lR : Canon.look A'.objs A.next = _ := (hkp _ (by omega) (by omega)).trans ((hG0 _ (by omega)).trans l1)
            obtain ⟨A6,c6,q1,q2,q3,q4⟩ := sts_upd (l := [.int .i64 m,.slice xa a a,.slice ya i i]) (o := 0) lR rfl (by simp) rfl
            have g0 : cl A6 A.next 0 = some (.int .i64 m) := by rw [q2.cl,q4]; rfl
            have g1 : cl A6 A.next 1 = some (.slice xa a a) := by rw [q2.cl,q4]; rfl
            have g2 : cl A6 A.next 2 = some (.slice ya i i) := by rw [q2.cl,q4]; rfl
            have hn6 := q2.next
            refine Rn.reg hc rfl ?_
            simp only [zAY,zAS,zAU,zAT,sp_n,zAN,Nat.reduceLT,ne_eq,Nat.reduceEqDiff,zNf,gd,zAX,rops,fx,ld,str,zAR,cls,Nat.zero_add,zOi,zEl,Nat.reduceAdd,tk24,hn,s6,s11,c0,c1,c2,q1,List.size_toArray,List.length_cons,List.length_nil,Nat.beq_refl]
            (repeat (first | refine Rn.seq hc ?_ | refine Rn.skip hc ?_ | refine Rn.block hc ?_ | refine Rn.inBlock hc ?_ | refine Rn.scope hc ?_ | refine Rn.inScope hc ?_))
            refine Rn.ret (zCT rfl (v := .agg #[.int .i64 m,.slice xa a a,.slice ya i i]) ?_ ⟨a,i,hra,hal,hdl,⟨by omega,(q2.nx hw' (Nat.zero_le _)).wf,fun b hb => by rw [q2.off _ (by omega),hkp _ (by omega) (by omega),hG0 _ (by omega),hx1.keep _ hb]⟩,?_⟩)
            · simp only [zAT,ne_eq,Nat.reduceEqDiff,zNf,ld,zAR,cls,Nat.zero_add,Nat.reduceAdd,tk24,s6,g0,g1,g2]
            · rw [if_neg (by omega)]
              refine ⟨xa,ya,by simp only [zAU,sp_n,Nat.reduceLT,hn],?_,(hgy.off q2 (by omega)).mono (by omega)⟩
              refine (((hgE.off u2 (by omega)).ext (by omega) fun b' hb' => ?_).off q2 (by omega)).mono (by omega)
              by_cases hlt' : b' < G.next
              · exact .inr (hkp b' hlt' (by omega))
              · exact .inl (wG.none (by omega))
      · intro _ _ _ h
        exact h.elim
  · intro _ _ _ h
    exact h.elim
end Go.Proofs.Ytdaljohmfnfgiaa
namespace Go.Proofs.Ytdaljohmfnfgiaa
open Go Go.RowKit Go.Proofs.Ytdaljohmfnfgiaa.Canon
set_option maxRecDepth 20000
theorem so22_11 : sof Try.prog 22 11 = .mk (fun k => some (k * 1,1)) 11 [.int .i64 0,.int .i64 0,.int .i64 0,.int .i64 0,.int .i64 0,.int .i64 0,.int .i64 0,.int .i64 0,.int .i64 0,.int .i64 0,.int .i64 0] := by kernel_rfl
theorem bs22_11 {d : Option Tmp} {ty : TypeId} {pos : String} {af : Array Edge} {gu : Option (Nat × Bool)} {A : AHeap} {s : Slots} {x0 x1 x2 x3 x4 x5 x6 x7 x8 x9 x10 : Int} : zAL Try.prog (zBU s) ⟨d,.buildSlice 22 11 #[(0,.const (.int .i64 x0)),(1,.const (.int .i64 x1)),(2,.const (.int .i64 x2)),(3,.const (.int .i64 x3)),(4,.const (.int .i64 x4)),(5,.const (.int .i64 x5)),(6,.const (.int .i64 x6)),(7,.const (.int .i64 x7)),(8,.const (.int .i64 x8)),(9,.const (.int .i64 x9)),(10,.const (.int .i64 x10))],ty,pos,af,gu⟩ A
    = some (.slice (some ⟨A.next,0,none⟩) 11 11,A.push (.cells #[.int .i64 x0,.int .i64 x1,.int .i64 x2,.int .i64 x3,.int .i64 x4,.int .i64 x5,.int .i64 x6,.int .i64 x7,.int .i64 x8,.int .i64 x9,.int .i64 x10] 3)) := by
  refine zCS (r := [.int .i64 x0,.int .i64 x1,.int .i64 x2,.int .i64 x3,.int .i64 x4,.int .i64 x5,.int .i64 x6,.int .i64 x7,.int .i64 x8,.int .i64 x9,.int .i64 x10]) (by rfl) so22_11 et22 rfl ?_
  simp [fbld,Value.cells,zAS]
theorem modulus_sack {A : AHeap} {b : Nat} {a : Option Addr} {n c lim nx : Nat} (h : Sack A b a n c lim nx) (hnx : nx < 1000000) (hn0 : n < 9223372036854775808) :
    Con Try.prog 58 [.pointer (some ⟨b,0,none⟩)] A (fun v A1 => ∃ m : Nat,v = .int .i64 (m : Int) ∧ 2 ≤ m ∧ m ≤ 65521 ∧ Kb b A A1 ∧ ∃ nx',nx' ≤ nx + 1 ∧ Sack A1 b a n c lim nx') := by
  refine zAM hc Try.func58 rfl (Nat.le_of_ble_eq_true rfl) ?_
  have hbA : b < A.next := by obtain ⟨_,q⟩ := h.at'; exact h.wf _ _ q
  have hx2 : Nx A.next A (A.push (.cells #[.int .i64 2,.int .i64 3,.int .i64 4,.int .i64 5,.int .i64 6,.int .i64 7,.int .i64 10,.int .i64 26,.int .i64 64,.int .i64 1000,.int .i64 65521] 3)) := (Nx.refl h.wf _).push (Nat.le_refl _) _
  have l2 := zAQ A (.cells #[.int .i64 2,.int .i64 3,.int .i64 4,.int .i64 5,.int .i64 6,.int .i64 7,.int .i64 10,.int .i64 26,.int .i64 64,.int .i64 1000,.int .i64 65521] 3)
  have hn2 : (A.push (.cells #[.int .i64 2,.int .i64 3,.int .i64 4,.int .i64 5,.int .i64 6,.int .i64 7,.int .i64 10,.int .i64 26,.int .i64 64,.int .i64 1000,.int .i64 65521] 3)).next = A.next + 1 := rfl
  generalize e2 : A.push (.cells #[.int .i64 2,.int .i64 3,.int .i64 4,.int .i64 5,.int .i64 6,.int .i64 7,.int .i64 10,.int .i64 26,.int .i64 64,.int .i64 1000,.int .i64 65521] 3) = A2 at hx2 l2 hn2
  have S2 : Sack A2 b a n c lim nx := h.same hx2.wf fun b' hb' => hx2.keep _ (by omega)
  rw [s_in1]
  (repeat (first | refine Rn.seq hc ?_ | refine Rn.skip hc ?_ | refine Rn.block hc ?_ | refine Rn.inBlock hc ?_ | refine Rn.scope hc ?_ | refine Rn.inScope hc ?_))
  refine Rn.reg hc rfl ?_
  simp only [zAS,gd,zAX,rops,fx,zOi,zEl,show Try.f58.ntmps = 8 from rfl]
  (repeat (first | refine Rn.seq hc ?_ | refine Rn.skip hc ?_ | refine Rn.block hc ?_ | refine Rn.inBlock hc ?_ | refine Rn.scope hc ?_ | refine Rn.inScope hc ?_))
  refine Rn.region hc fun K hK => ?_
  refine Wo.run hc 2 rfl rfl rfl ?_
  simp (maxSteps := 2000000) only [List.drop_zero,List.take_succ_cons,List.take_zero,zAY,zAU,zAT,Nat.reduceLT,ne_eq,Nat.reduceEqDiff,not_false_eq_true,gd,zAX,rops,fx,Nat.zero_add,Option.some.injEq,exists_eq_left',bs22_11,e2]
  refine Wo.call hc (by rfl) (by rfl) ⟨by rfl,by rfl⟩ (xs := [.pointer (some ⟨b,0,none⟩),.int .i64 ((11 : Nat) : Int)]) (by rfl) (by rfl) (by rfl) (Con.mono (below_sack S2 (by omega) hn0 (m := ((11 : Nat) : Int)) (by omega)) ?_)
  rintro w A3 ⟨r,rfl,hr,k3,nx3,hnx3,S3⟩
  have hr5 : r < 11 := by omega
  have l3 : Canon.look A3.objs A.next = _ := (k3.keep _ (by omega) (by omega)).trans l2
  obtain ⟨m,hm2,hm7,hcm⟩ : ∃ m : Nat,2 ≤ m ∧ m ≤ 65521 ∧ cl A3 A.next (0 + r * 1) = some (.int .i64 (m : Int)) := by
    rw [zBM l3 rfl]
    match r,hr5 with
    | 0,_ => exact ⟨2,by omega,by omega,rfl⟩
    | 1,_ => exact ⟨3,by omega,by omega,rfl⟩
    | 2,_ => exact ⟨4,by omega,by omega,rfl⟩
    | 3,_ => exact ⟨5,by omega,by omega,rfl⟩
    | 4,_ => exact ⟨6,by omega,by omega,rfl⟩
    | 5,_ => exact ⟨7,by omega,by omega,rfl⟩
    | 6,_ => exact ⟨10,by omega,by omega,rfl⟩
    | 7,_ => exact ⟨26,by omega,by omega,rfl⟩
    | 8,_ => exact ⟨64,by omega,by omega,rfl⟩
    | 9,_ => exact ⟨1000,by omega,by omega,rfl⟩
    | 10,_ => exact ⟨65521,by omega,by omega,rfl⟩
  have hcm' : cl A3 A.next r = some (.int .i64 (m : Int)) := by simpa using hcm
  refine Wo.run hc 3 rfl rfl rfl ?_
  simp (maxSteps := 2000000) only [List.drop_zero,List.drop_succ_cons,List.take_succ_cons,List.take_zero,zAY,zAU,zAT,sp_n,Nat.reduceLT,ne_eq,Nat.reduceEqDiff,not_false_eq_true,gd,zAX,rops,fx,ld,idx,zAR,Nat.zero_add,Option.some.injEq,exists_eq_left',Nat.reduceAdd,Nat.mul_one,tk3,eo22,zAK hr5,hcm']
  refine Wo.done hc rfl (hK _ _ ?_)
  clear hK
  (repeat (first | refine Rn.seq hc ?_ | refine Rn.skip hc ?_ | refine Rn.block hc ?_ | refine Rn.inBlock hc ?_ | refine Rn.scope hc ?_ | refine Rn.inScope hc ?_))
  refine Rn.ret (zAJ rfl ⟨m,?_,hm2,hm7,(Kb.of_nx b hx2).trans k3,nx3,hnx3,S3⟩)
  simp only [zAU,sp_n,Nat.reduceLT]
theorem right_lasso {A : AHeap} (hw : WF A) {m : Int} {sa ra : Option Addr} {sc rc : Nat} {st ro : List Int} (hs : Ints A sa 0 A.next st) (hr : Ints A ra 0 A.next ro) (ls : st.length < 4611686018427387904) (lr : ro.length < 4611686018427387904) (he : errL m st ro = 0) :
    Con Try.prog 59 [.agg #[.int .i64 m,.slice sa st.length sc,.slice ra ro.length rc],.int .i64 0,.int .i64 m] A (fun v A1 => v = .bool true ∧ Nx A.next A A1) := by
  refine zAM hc Try.func59 rfl (Nat.le_of_ble_eq_true rfl) ?_
  obtain ⟨A1,e1,hx1,hn1,b0,b1,b2⟩ := box3 hw (.int .i64 m) (.slice sa st.length sc) (.slice ra ro.length rc) 24
  rw [s_in3]
  (repeat (first | refine Rn.seq hc ?_ | refine Rn.skip hc ?_ | refine Rn.block hc ?_ | refine Rn.inBlock hc ?_ | refine Rn.scope hc ?_ | refine Rn.inScope hc ?_))
  refine Rn.reg hc rfl ?_
  simp only [zAY,zAS,zAU,zAT,Nat.reduceLT,ne_eq,Nat.reduceEqDiff,zNf,gd,zAX,rops,fx,zOi,zEl,Value.cells,show Try.f59.ntmps = 26 from rfl,e1]
  (repeat (first | refine Rn.seq hc ?_ | refine Rn.skip hc ?_ | refine Rn.block hc ?_ | refine Rn.inBlock hc ?_ | refine Rn.scope hc ?_ | refine Rn.inScope hc ?_))
  have hp := errL_pos he
  have hd : decide ((0 : Int) < (ro.length : Int)) = true := by simp; omega
  refine Rn.region hc fun K hK => ?_
  refine Wo.run hc 16 rfl rfl rfl ?_
  simp (maxSteps := 2000000) only [List.drop_zero,List.take_succ_cons,List.take_zero,zAY,zAS,zAU,zAT,sp_n,Nat.reduceLT,ne_eq,Nat.reduceEqDiff,not_false_eq_true,gd,nth,zAX,zAG,beqB,rops,fx,ld,fad,lng,pck,zCZ,zCF,zAR,cls,Nat.zero_add,Nat.add_zero,Option.some.injEq,exists_eq_left',Nat.reduceAdd,tk3,tk22,tk24,fo24_0,zDY,un22,b0,b1,b2,eq_self,decide_true,hd]
  refine Wo.call hc (by rfl) (by rfl) ⟨by rfl,by rfl⟩ (xs := [.agg #[.int .i64 m,.slice sa st.length sc,.slice ra ro.length rc]]) (by rfl) (by rfl) (by rfl) (Con.mono (check_one hx1.wf ((hs.nx hx1 (Nat.le_refl _)).mono (Nat.le_refl _) hx1.next) ((hr.nx hx1 (Nat.le_refl _)).mono (Nat.le_refl _) hx1.next) ls lr) ?_)
  rintro w A2 ⟨rfl,hx2⟩
  rw [he]
  refine Wo.run hc 3 rfl rfl rfl ?_
  simp (maxSteps := 2000000) only [List.drop_zero,List.drop_succ_cons,List.take_succ_cons,List.take_zero,zAY,zAS,zAU,zAT,sp_n,Nat.reduceLT,ne_eq,Nat.reduceEqDiff,not_false_eq_true,gd,nth,zAX,zAG,beqB,rops,fx,pck,zCF,Option.some.injEq,exists_eq_left',Nat.reduceAdd,eq_self,decide_true]
  refine Wo.done hc rfl (hK _ _ ?_)
  clear hK
  (repeat (first | refine Rn.seq hc ?_ | refine Rn.skip hc ?_ | refine Rn.block hc ?_ | refine Rn.inBlock hc ?_ | refine Rn.scope hc ?_ | refine Rn.inScope hc ?_))
  refine Rn.ret (zAJ rfl ⟨?_,hx1.trans (hx2.le hx1.next)⟩)
  simp only [zAU,sp_n,Nat.reduceLT]
end Go.Proofs.Ytdaljohmfnfgiaa
namespace Go.Proofs.Ytdaljohmfnfgiaa
open Go Go.RowKit Go.Proofs.Ytdaljohmfnfgiaa.Canon
set_option maxRecDepth 20000
theorem bo88 : bof Try.prog 88 = .mk (nthR [(0,1),(1,1)]) 2 [.int .i64 0,.int .i64 0] := by kernel_rfl
theorem ze88 : zCD Try.prog 88 = some (.agg #[.int .i64 0,.int .i64 0]) := by kernel_rfl
theorem un88 : ∃ f g : Field,Try.prog.underlying 88 = some (.struct #[f,g]) ∧ (f.name != "_") = true ∧ (g.name != "_") = true ∧ f.type = 3 ∧ g.type = 3 ∧ f.offset = 0 ∧ g.offset = 1 := by
  refine ⟨{ name := "first",type := 3,offset := 0,embedded := false,tag := "",pkgPath := "roundelay/lasso",byteOffset := 0 },{ name := "mod",type := 3,offset := 1,embedded := false,tag := "",pkgPath := "roundelay/lasso",byteOffset := 8 },by kernel_rfl,by decide,by decide,rfl,rfl,rfl,rfl⟩
theorem eg88 : Try.prog.eqGuardType Try.prog.depth 88 = false := by kernel_rfl
theorem sh88 : Try.prog.stoodInHeld 88 = false := by kernel_rfl
section
variable {ρ : Operand → Value} {d : Option Tmp} {ty : TypeId} {pos : String} {af : Array Edge} {gu : Option (Nat × Bool)} {A : AHeap}
theorem bd88 {x y : Tmp} (hx : zAA (ρ (.tmp x)) = true) (hy : zAA (ρ (.tmp y)) = true) : zAL Try.prog ρ ⟨d,.build 88 #[(0,.tmp x),(1,.tmp y)],ty,pos,af,gu⟩ A = some (.agg #[ρ (.tmp x),ρ (.tmp y)],A) := by
  refine ae_build (by rfl) bo88 rfl ?_
  simp [fbld,nthR,zBX hx,zBX hy]
theorem so46_2 : sof Try.prog 46 2 = .mk (fun k => some (k * 3,3)) 6 [.int .i64 0,.slice none 0 0,.slice none 0 0,.int .i64 0,.slice none 0 0,.slice none 0 0] := by kernel_rfl
theorem bs46_2 {x y : Tmp} (hx : (ρ (.tmp x)).cells.size = 3) (hy : (ρ (.tmp y)).cells.size = 3) : zAL Try.prog ρ ⟨d,.buildSlice 46 2 #[(0,.tmp x),(1,.tmp y)],ty,pos,af,gu⟩ A = some (.slice (some ⟨A.next,0,none⟩) 2 2,A.push (.cells ⟨(ρ (.tmp x)).cells.toList ++ (ρ (.tmp y)).cells.toList⟩ 24)) := by
  refine zCS (r := (ρ (.tmp x)).cells.toList ++ (ρ (.tmp y)).cells.toList) (by rfl) so46_2 et46 rfl ?_
  simp [fbld,hx,hy]
end
def hdS (u : Int) : Canon.Spec := fun _ _ A v A1 => v = .int .i64 u ∧ Nx A.next A A1
theorem head_stream {A : AHeap} (hw : WF A) {m : Int} {sa ra : Option Addr} {sc rc : Nat} {st ro : List Int} (hs : Ints A sa 0 A.next st) (hr : Ints A ra 0 A.next ro) (n : Nat) (hst : st.length < 4611686018427387904) (hro : 0 < ro.length) (hro2 : ro.length < 4611686018427387904) (hn : n < 9223372036854775808) :
    Con Try.prog 72 [.agg #[.int .i64 m,.slice sa st.length sc,.slice ra ro.length rc],.int .i64 (n : Int)] A (fun v A1 => v = .agg #[.int .i64 (atL st ro n),.int .i64 m] ∧ Nx A.next A A1) := by
  refine zAM hc Try.func72 rfl (Nat.le_of_ble_eq_true rfl) ?_
  obtain ⟨A1,e1,hx1,hn1,b0,b1,b2⟩ := box3 hw (.int .i64 m) (.slice sa st.length sc) (.slice ra ro.length rc) 86
  have hx2 : Nx A1.next A1 (A1.push (.cells #[.int .i64 0,.int .i64 0] 88)) := (Nx.refl hx1.wf _).push (Nat.le_refl _) _
  have l2 := zAQ A1 (.cells #[.int .i64 0,.int .i64 0] 88)
  have hn2 : (A1.push (.cells #[.int .i64 0,.int .i64 0] 88)).next = A1.next + 1 := rfl
  generalize e2 : A1.push (.cells #[.int .i64 0,.int .i64 0] 88) = A2 at hx2 l2 hn2
  have hx02 : Nx A.next A A2 := hx1.trans (hx2.le hx1.next)
  have c0 := (hx2.cl (show A.next < A1.next by omega) 0).trans b0
  have c1 := (hx2.cl (show A.next < A1.next by omega) 1).trans b1
  have c2 := (hx2.cl (show A.next < A1.next by omega) 2).trans b2
  rw [s_in2]
  (repeat (first | refine Rn.seq hc ?_ | refine Rn.skip hc ?_ | refine Rn.block hc ?_ | refine Rn.inBlock hc ?_ | refine Rn.scope hc ?_ | refine Rn.inScope hc ?_))
  refine Rn.reg hc rfl ?_
  simp only [zAY,zAU,zAT,Nat.reduceLT,ne_eq,Nat.reduceEqDiff,zNf,gd,zAX,rops,fx,zOi,zEl,Value.cells,show Try.f72.ntmps = 12 from rfl,e1,ze88,e2]
  (repeat (first | refine Rn.seq hc ?_ | refine Rn.skip hc ?_ | refine Rn.block hc ?_ | refine Rn.inBlock hc ?_ | refine Rn.scope hc ?_ | refine Rn.inScope hc ?_))
  obtain ⟨F,hF0,hF1,hF2,hF⟩ : ∃ F : AHeap → Prop,(∀ M,F M → cl M A.next 0 = some (.int .i64 m)) ∧ (∀ M,F M → cl M A.next 1 = some (.slice sa st.length sc)) ∧ (∀ M,F M → cl M A.next 2 = some (.slice ra ro.length rc)) ∧ (∀ M,Canon.look M.objs A.next = Canon.look A2.objs A.next → F M) :=
    ⟨fun M => cl M A.next 0 = some (.int .i64 m) ∧ cl M A.next 1 = some (.slice sa st.length sc) ∧ cl M A.next 2 = some (.slice ra ro.length rc),fun _ h => h.1,fun _ h => h.2.1,fun _ h => h.2.2,fun M q => ⟨(zBT q).trans c0,(zBT q).trans c1,(zBT q).trans c2⟩⟩
  have hxB : Nx A2.next A2 (bump A2 8) := Nx.bump (Nx.refl hx2.wf _) 8
  have FB := hF (bump A2 8) rfl
  have hx0B : Nx A.next A (bump A2 8) := hx02.trans (hxB.le hx02.next)
  refine Rn.drawnL hc hx (hdS (atL st ro n)) F (E := [2]) (n := 7) (k := 8) (by kernel_rfl) (by kernel_rfl) (by rfl) (by kernel_rfl) ?_
  refine DrL.read (by first | rfl | kernel_rfl) (by rfl) (by assumption) (fun M hM => by simp only [zAY,zAU,zAT,sp_n,Nat.reduceLT,ne_eq,Nat.reduceEqDiff,zNf,fx,ld,zAR,cls,Nat.zero_add,Nat.reduceAdd,tk86,hF0 M hM,hF1 M hM,hF2 M hM] <;> rfl) (by rfl) (by first | exact VQ.int _ _ | exact VQ.bool _ | exact VQ.ptr _ _ | exact VQ.slice _ _ _ | exact VQ.func (by simp [zAW,zAV,zAZ]) (by simp [zAW,zAV,zAZ]) | exact VQ.agg (by simp [zAW,zAZ]) | exact VQ.tuple (by simp [zAW,zAV,zAZ])) ?_
  refine DrL.read (by first | rfl | kernel_rfl) (by rfl) (by assumption) (fun M hM => by simp only [zAY,zAU,zAT,sp_n,Nat.reduceLT,ne_eq,Nat.reduceEqDiff,zNf,fx] <;> rfl) (by rfl) (by first | exact VQ.int _ _ | exact VQ.bool _ | exact VQ.ptr _ _ | exact VQ.slice _ _ _ | exact VQ.func (by simp [zAW,zAV,zAZ]) (by simp [zAW,zAV,zAZ]) | exact VQ.agg (by simp [zAW,zAV,zAZ]) | exact VQ.tuple (by simp [zAW,zAV,zAZ])) ?_
  refine DrL.call (by kernel_rfl) (by rfl) (by assumption) (by rfl) (zAC (by rfl) ⟨by rfl,by rfl⟩ (by rfl) (xs := [.agg #[.int .i64 m,.slice sa st.length sc,.slice ra ro.length rc],.int .i64 (n : Int)]) (by simp only [zAY,zAU,zAT,sp_n,Nat.reduceLT,ne_eq,Nat.reduceEqDiff,zNf,List.map_cons,List.map_nil,List.nil_append,List.append_nil]) (at_stream hxB.wf ((hs.nx hx0B (Nat.le_refl _)).mono (Nat.le_refl _) hx0B.next) ((hr.nx hx0B (Nat.le_refl _)).mono (Nat.le_refl _) hx0B.next) n hst hro hro2 hn)) ?_
  rintro v B1 ⟨rfl,k1⟩
  have hk1 := k1.next
  rw [zAH] at hk1 k1
  have F1 := hF B1 ((k1.keep _ (by omega)).trans rfl)
  refine DrL.read (by first | rfl | kernel_rfl) (by rfl) (by assumption) (fun M hM => by simp only [zAY,zAU,zAT,sp_n,Nat.reduceLT,ne_eq,Nat.reduceEqDiff,zNf,fx,fad,zAR,Nat.add_zero,fo86_0] <;> rfl) (by rfl) (by first | exact VQ.int _ _ | exact VQ.bool _ | exact VQ.ptr _ _ | exact VQ.slice _ _ _ | exact VQ.func (by simp [zAW,zAV,zAZ]) (by simp [zAW,zAV,zAZ]) | exact VQ.agg (by simp [zAW,zAV,zAZ]) | exact VQ.tuple (by simp [zAW,zAV,zAZ])) ?_
  refine DrL.read (by first | rfl | kernel_rfl) (by rfl) (by assumption) (fun M hM => by simp only [zAY,zAU,sp_n,Nat.reduceLT,fx,fad,zAR,Nat.add_zero,fo24_0] <;> rfl) (by rfl) (by first | exact VQ.int _ _ | exact VQ.bool _ | exact VQ.ptr _ _ | exact VQ.slice _ _ _ | exact VQ.func (by simp [zAW,zAV,zAZ]) (by simp [zAW,zAV,zAZ]) | exact VQ.agg (by simp [zAW,zAV,zAZ]) | exact VQ.tuple (by simp [zAW,zAV,zAZ])) ?_
  refine DrL.read (by first | rfl | kernel_rfl) (by rfl) (by assumption) (fun M hM => by simp only [zAY,zAU,sp_n,Nat.reduceLT,fx,ld,zAR,tk3,hF0 M hM] <;> rfl) (by rfl) (by first | exact VQ.int _ _ | exact VQ.bool _ | exact VQ.ptr _ _ | exact VQ.slice _ _ _ | exact VQ.func (by simp [zAW,zAV,zAZ]) (by simp [zAW,zAV,zAZ]) | exact VQ.agg (by simp [zAW,zAV,zAZ]) | exact VQ.tuple (by simp [zAW,zAV,zAZ])) ?_
  refine DrL.read (by first | rfl | kernel_rfl) (by rfl) (by assumption) (fun M hM => by simp only [zAY,zAU,zAT,sp_n,Nat.reduceLT,ne_eq,Nat.reduceEqDiff,zNf,fx,bd88,zAA] <;> rfl) (by rfl) (by first | exact VQ.int _ _ | exact VQ.bool _ | exact VQ.ptr _ _ | exact VQ.slice _ _ _ | exact VQ.func (by simp [zAW,zAV,zAZ]) (by simp [zAW,zAV,zAZ]) | exact VQ.agg (by simp [zAW]) | exact VQ.tuple (by simp [zAW,zAV,zAZ])) ?_
  have l3 : Canon.look B1.objs A1.next = _ := (k1.keep _ (by omega)).trans l2
  obtain ⟨B2,c',q1,q2,q3,q4⟩ := sts_upd (l := [.int .i64 (atL st ro n),.int .i64 m]) (o := 0) l3 rfl (by simp) rfl
  refine DrL.eff (by rfl) (by rfl) (pd1 := []) (pd2 := []) (by kernel_rfl) (by kernel_rfl) (ms0 := []) (A0 := B1) rfl (fun _ h => by cases h) F1 (by rfl) (v := undef) (A1 := B2) (zBK rfl (fx_ok (by rfl) (by simp only [zAY,zAU,zAT,sp_n,Nat.reduceLT,ne_eq,Nat.reduceEqDiff,zNf,fx,str,zAR,Nat.zero_add,Nat.reduceAdd,tk88,q1,List.size_toArray,List.length_cons,List.length_nil,Nat.beq_refl]))) ?_
  refine DrL.nil ⟨by rfl,B2,by rfl,?_⟩
  (repeat (first | refine Rn.seq hc ?_ | refine Rn.skip hc ?_ | refine Rn.block hc ?_ | refine Rn.inBlock hc ?_ | refine Rn.scope hc ?_ | refine Rn.inScope hc ?_))
  have g0 : cl B2 A1.next 0 = some (.int .i64 (atL st ro n)) := by rw [q2.cl,q4]; rfl
  have g1 : cl B2 A1.next 1 = some (.int .i64 m) := by rw [q2.cl,q4]; rfl
  refine Rn.ret (endQ_cell rfl (v := .agg #[.int .i64 (atL st ro n),.int .i64 m]) ?_ ⟨rfl,by have := q2.next; omega,(q2.nx k1.wf (Nat.zero_le _)).wf,fun b hb => by rw [q2.off _ (by omega),k1.keep _ (by omega)]; exact hx02.keep _ hb⟩)
  simp only [zAU,zAT,sp_n,zAN,Nat.reduceLT,ne_eq,Nat.reduceEqDiff,zNf,ld,zAR,cls,Nat.zero_add,tk88,g0,g1]
theorem agree_all {s t : Nat → Int} {N a b : Nat} (h1 : Per s N a) (h2 : Per t N b) (h : ∀ n,n < N + a + b → s n = t n) : ∀ n,s n = t n := by
  have hb : Per s N b := by
    refine ⟨h2.pos,fun n hn => ?_⟩
    have key : ∀ k,N ≤ k → k < N + a → s (k + b) = s k := fun k hk1 hk2 => by
      rw [h (k + b) (by omega),h2.per k hk1,h k (by omega)]
    have hm := Nat.mod_lt (n - N) h1.pos
    have hle := Nat.mod_le (n - N) a
    have e1 : s n = s (N + (n - N) % a) := h1.same hn (by omega) (by
      rw [Nat.add_mod_mod]
      congr 1
      omega)
    have e2 : s (n + b) = s (N + (n - N) % a + b) := h1.same (by omega) (by omega) (by
      rw [show N + (n - N) % a + b = N + b + (n - N) % a by omega,Nat.add_mod_mod]
      congr 1
      omega)
    rw [e1,e2,key _ (by omega) (by omega)]
  intro n
  by_cases hn : n < N + b
  · exact h n (by omega)
  · have hm := Nat.mod_lt (n - N) h2.pos
    have hle := Nat.mod_le (n - N) b
    have hmod : n % b = (N + (n - N) % b) % b := by
      rw [Nat.add_mod_mod]
      congr 1
      omega
    rw [hb.same (x := n) (y := N + (n - N) % b) (by omega) (by omega) hmod,h2.same (x := n) (y := N + (n - N) % b) (by omega) (by omega) hmod]
    exact h _ (by omega)
def ApartQ (s t : Nat → Int) (v : Value) : Prop := (∃ n : Nat,v = .tuple #[.int .i64 (n : Int),.int .i64 0] ∧ s n ≠ t n ∧ ∀ j,j < n → s j = t j) ∨ (v = .tuple #[.int .i64 0,.int .i64 6] ∧ ∀ n,s n = t n)
theorem aeql88 {a0 a1 b0 b1 : Int} : aeql Try.prog 88 (.agg #[.int .i64 a0,.int .i64 a1]) (.agg #[.int .i64 b0,.int .i64 b1]) = some (decide (a0 = b0) && decide (a1 = b1)) := by
  obtain ⟨f,g,hu,n1,n2,t1,t2,o1,o2⟩ := un88
  simp only [aeql,eg88,deep]
  have hae : ∀ (xs : Array Value) (j : Nat),aelem Try.prog 3 xs j = xs[j]? := fun xs j => by
    unfold aelem
    simp only [un3]
  have step : ∀ (a b : Int),aeq Try.prog 7 3 (.int .i64 a) (.int .i64 b) = some (decide (a = b)) := fun a b => by
    rw [aeq3]
    by_cases h : a = b <;> simp [h]
  unfold aeq
  simp only [hu,sh88,aeqFs,n1,n2,t1,t2,o1,o2,hae,List.getElem?_toArray,List.getElem?_cons_zero,List.getElem?_cons_succ,step]
  by_cases h0 : a0 = b0 <;> by_cases h1 : a1 = b1 <;> simp [h0,h1]
theorem neq88 (a0 a1 b0 b1 : Int) (A : AHeap) : bin Try.prog .neq 88 (.agg #[.int .i64 a0,.int .i64 a1]) (.agg #[.int .i64 b0,.int .i64 b1]) A = some (.bool (!(decide (a0 = b0) && decide (a1 = b1))),A) := by
  show (aeql Try.prog 88 (.agg #[.int .i64 a0,.int .i64 a1]) (.agg #[.int .i64 b0,.int .i64 b1])).map (fun b => (Value.bool !b,A)) = _
  rw [aeql88]
  rfl
end Go.Proofs.Ytdaljohmfnfgiaa
namespace Go.Proofs.Ytdaljohmfnfgiaa
open Go Go.RowKit Go.Proofs.Ytdaljohmfnfgiaa.Canon
set_option maxRecDepth 20000
theorem row_two {A : AHeap} {x y : Las} (hx : x.ok A) (hy : y.ok A) {b : Nat} (hb : b < A.next) (hl : Canon.look A.objs b = some ⟨.cells #[.int .i64 x.m,.slice x.sa x.st.length x.sc,.slice x.ra x.ro.length x.rc,.int .i64 y.m,.slice y.sa y.st.length y.sc,.slice y.ra y.ro.length y.rc] 24,false,0⟩) : LRow A (some ⟨b,0,none⟩) [x,y] := fun i hi => by
  have hi2 : i < 2 := by simpa using hi
  match i,hi2 with
  | 0,_ => exact ⟨hx,_,_,rfl,hb,by rw [zBM hl rfl]; rfl,by rw [zBM hl rfl]; rfl,by rw [zBM hl rfl]; rfl⟩
  | 1,_ => exact ⟨hy,_,_,rfl,hb,by rw [zBM hl rfl]; rfl,by rw [zBM hl rfl]; rfl,by rw [zBM hl rfl]; rfl⟩
theorem errs_two (x y : Las) : errs [x,y] [x,y] = if x.err ≠ 0 then x.err else if y.err ≠ 0 then y.err else if x.m = y.m then 0 else 7 := by
  unfold errs
  by_cases h1 : x.err = 0
  · rw [if_pos h1,if_neg (by simp [h1])]
    unfold errs
    by_cases h2 : y.err = 0
    · rw [if_pos h2,if_neg (by simp [h2])]
      simp only [errs,clash]
      by_cases h3 : x.m = y.m
      · simp [h3]
      · have h3' : ¬ y.m = x.m := fun e => h3 e.symm
        simp [h3,h3']
    · rw [if_neg h2,if_pos h2]
  · rw [if_neg h1,if_pos h1]
def Las.s (x : Las) : Nat → Int := atL x.st x.ro
def Las.v (x : Las) : Value := .agg #[.int .i64 x.m,.slice x.sa x.st.length x.sc,.slice x.ra x.ro.length x.rc]
theorem vq_las (m : Int) (a b : Option Addr) (n c n' c' : Nat) : VQ (.agg #[.int .i64 m,.slice a n c,.slice b n' c']) := VQ.agg (by simp [zAW,zAZ])
theorem vq_lasf (g : FuncId) (m : Int) (a b : Option Addr) (n c n' c' : Nat) : VQ (.func (.func g) #[.agg #[.int .i64 m,.slice a n c,.slice b n' c']] #[]) := by
  refine VQ.func (fun v hv => ?_) (by simp)
  have hv : v = .agg #[.int .i64 m,.slice a n c,.slice b n' c'] := by simpa using hv
  subst hv
  show veqs (veq 3) [_,_,_] [_,_,_] = true
  simp [veqs,zAW,zAZ]
theorem apart_run {A : AHeap} (hw : WF A) {x y : Las} (hox : x.ok A) (hoy : y.ok A) :
    Con Try.prog 22 [x.v,y.v] A (fun v A1 => Nx A.next A A1 ∧ (errs [x,y] [x,y] = 0 → ApartQ x.s y.s v) ∧ (errs [x,y] [x,y] ≠ 0 → v = .tuple #[.int .i64 0,.int .i64 (errs [x,y] [x,y])])) := by
  obtain ⟨m,sa,sc,st,ra,rc,ro⟩ := x
  obtain ⟨m',sa',sc',st',ra',rc',ro'⟩ := y
  simp only [Las.v,Las.s]
  refine zAM hc Try.func22 rfl (Nat.le_of_ble_eq_true rfl) ?_
  obtain ⟨A1,e1,hx1,hn1,b0,b1,b2⟩ := box3 hw (.int .i64 m) (.slice sa st.length sc) (.slice ra ro.length rc) 24
  obtain ⟨A2,e2,hx2,hn2,c0,c1,c2⟩ := box3 hx1.wf (.int .i64 m') (.slice sa' st'.length sc') (.slice ra' ro'.length rc') 24
  have hx02 : Nx A.next A A2 := hx1.trans (hx2.le hx1.next)
  have b0 := (hx2.cl (show A.next < A1.next by omega) 0).trans b0
  have b1 := (hx2.cl (show A.next < A1.next by omega) 1).trans b1
  have b2 := (hx2.cl (show A.next < A1.next by omega) 2).trans b2
  have hx3 : Nx A2.next A2 (A2.push (.cells #[.int .i64 m,.slice sa st.length sc,.slice ra ro.length rc,.int .i64 m',.slice sa' st'.length sc',.slice ra' ro'.length rc'] 24)) := (Nx.refl hx2.wf _).push (Nat.le_refl _) _
  have l3 := zAQ A2 (.cells #[.int .i64 m,.slice sa st.length sc,.slice ra ro.length rc,.int .i64 m',.slice sa' st'.length sc',.slice ra' ro'.length rc'] 24)
  have hn3 : (A2.push (.cells #[.int .i64 m,.slice sa st.length sc,.slice ra ro.length rc,.int .i64 m',.slice sa' st'.length sc',.slice ra' ro'.length rc'] 24)).next = A2.next + 1 := rfl
  generalize e3 : A2.push (.cells #[.int .i64 m,.slice sa st.length sc,.slice ra ro.length rc,.int .i64 m',.slice sa' st'.length sc',.slice ra' ro'.length rc'] 24) = A3 at hx3 l3 hn3
  have hx03 : Nx A.next A A3 := hx02.trans (hx3.le hx02.next)
  have hrow := row_two (hox.nx hx03) (hoy.nx hx03) (b := A2.next) (by omega) l3
  rw [s_in2]
  (repeat (first | refine Rn.seq hc ?_ | refine Rn.skip hc ?_ | refine Rn.block hc ?_ | refine Rn.inBlock hc ?_ | refine Rn.scope hc ?_ | refine Rn.inScope hc ?_))
  refine Rn.reg hc rfl ?_
  simp only [zAY,zAS,zAU,zAT,sp_n,Nat.reduceLT,ne_eq,Nat.reduceEqDiff,zNf,gd,zAX,rops,fx,zOi,zEl,Value.cells,show Try.f22.ntmps = 50 from rfl,e1,e2]
  (repeat (first | refine Rn.seq hc ?_ | refine Rn.skip hc ?_ | refine Rn.block hc ?_ | refine Rn.inBlock hc ?_ | refine Rn.scope hc ?_ | refine Rn.inScope hc ?_))
  refine Rn.region hc fun K hK => ?_
  refine Wo.run hc 3 rfl rfl rfl ?_
  simp (maxSteps := 2000000) only [List.drop_zero,List.take_succ_cons,List.take_zero,zAY,zAU,zAT,sp_n,Nat.reduceLT,ne_eq,Nat.reduceEqDiff,not_false_eq_true,gd,zAX,List.nil_append,List.cons_append,rops,fx,ld,zAR,cls,Nat.zero_add,Option.some.injEq,exists_eq_left',Value.cells,Nat.reduceAdd,tk24,b0,b1,b2,c0,c1,c2,bs46_2,List.size_toArray,List.length_cons,List.length_nil,List.cons_append,List.nil_append,e3]
  refine Wo.call hc (by rfl) (by rfl) ⟨by rfl,by rfl⟩ (xs := [.slice (some ⟨A2.next,0,none⟩) 2 2]) (by rfl) (by rfl) (by rfl) (Con.mono (check_all hx3.wf (l := [⟨m,sa,sc,st,ra,rc,ro⟩,⟨m',sa',sc',st',ra',rc',ro'⟩]) hrow (by simp)) ?_)
  rintro w A4 ⟨rfl,hx4⟩
  refine Wo.run hc 1 rfl rfl rfl ?_
  simp (maxSteps := 2000000) only [List.drop_zero,List.drop_succ_cons,List.take_succ_cons,List.take_zero,zAY,zAU,sp_n,Nat.reduceLT,gd,zAX,rops,fx,Option.some.injEq,exists_eq_left',Nat.reduceAdd]
  refine Wo.done hc rfl (hK _ _ ?_)
  clear hK
  (repeat (first | refine Rn.seq hc ?_ | refine Rn.skip hc ?_ | refine Rn.block hc ?_ | refine Rn.inBlock hc ?_ | refine Rn.scope hc ?_ | refine Rn.inScope hc ?_))
  have hx24 : Nx A2.next A2 A4 := hx3.trans (hx4.le hx3.next)
  have hx04 : Nx A.next A A4 := hx02.trans (hx24.le hx02.next)
  have n4 : A2.next < A4.next := by have := hx4.next; omega
  have b0 := (hx24.cl (show A.next < A2.next by omega) 0).trans b0
  have b1 := (hx24.cl (show A.next < A2.next by omega) 1).trans b1
  have b2 := (hx24.cl (show A.next < A2.next by omega) 2).trans b2
  have c0 := (hx24.cl (show A1.next < A2.next by omega) 0).trans c0
  have c1 := (hx24.cl (show A1.next < A2.next by omega) 1).trans c1
  have c2 := (hx24.cl (show A1.next < A2.next by omega) 2).trans c2
  by_cases he : errs [⟨m,sa,sc,st,ra,rc,ro⟩,⟨m',sa',sc',st',ra',rc',ro'⟩] [⟨m,sa,sc,st,ra,rc,ro⟩,⟨m',sa',sc',st',ra',rc',ro'⟩] = 0
  · rw [he]
    have he2 := he
    rw [errs_two] at he2
    have hE1 : errL m st ro = 0 := Decidable.byContradiction fun h => by
      rw [if_pos (show (Las.err ⟨m,sa,sc,st,ra,rc,ro⟩) ≠ 0 from h)] at he2
      exact h he2
    have hE2 : errL m' st' ro' = 0 := Decidable.byContradiction fun h => by
      rw [if_neg (by show ¬ (errL m st ro ≠ 0); simp [hE1]),if_pos (show (Las.err ⟨m',sa',sc',st',ra',rc',ro'⟩) ≠ 0 from h)] at he2
      exact h he2
    have hmm : m = m' := Decidable.byContradiction fun h => by
      rw [if_neg (by show ¬ (errL m st ro ≠ 0); simp [hE1]),if_neg (by show ¬ (errL m' st' ro' ≠ 0); simp [hE2]),if_neg h] at he2
      exact absurd he2 (by decide)
    obtain ⟨s60,r120⟩ := errL_len hE1
    obtain ⟨s60',r120'⟩ := errL_len hE2
    have hp := errL_pos hE1
    have hp' := errL_pos hE2
    have hd0 : (!decide ((0 : Int) = 0)) = false := rfl
    refine Rn.reg hc rfl ?_
    simp only [zAY,zAS,zAU,sp_n,Nat.reduceLT,gd,zAX,rops,fx,zBP,zOi,zEl,Bool.not_true,Bool.not_true,eq_self,decide_true,Bool.not_true]
    (repeat (first | refine Rn.seq hc ?_ | refine Rn.skip hc ?_ | refine Rn.block hc ?_ | refine Rn.inBlock hc ?_ | refine Rn.scope hc ?_ | refine Rn.inScope hc ?_))
    refine Rn.zAI hc rfl ?_
    simp only [zAY,zAU,sp_n,Nat.reduceLT,Value.bool.injEq,zEl]
    (repeat (first | refine Rn.seq hc ?_ | refine Rn.skip hc ?_ | refine Rn.block hc ?_ | refine Rn.inBlock hc ?_ | refine Rn.scope hc ?_ | refine Rn.inScope hc ?_))
    refine Rn.drawnR hc hx (by kernel_rfl) (by rfl) (by kernel_rfl) ?_ ?_
    · simp only [rdV,zAB,zAY,zAU,zAT,sp_n,Nat.reduceLT,ne_eq,Nat.reduceEqDiff,zNf,gd,zAX,fx,ld,zAR,cls,Nat.zero_add,Value.cells,Nat.reduceAdd,and_self,ae_mkbound,tk24,b0,b1,b2,c0,c1,c2,bd86,vq_las,vq_lasf,List.size_toArray,List.length_cons,List.length_nil]
    simp only [zAB,zAY,zAU,zAT,sp_n,Nat.reduceLT,ne_eq,Nat.reduceEqDiff,zNf,gd,zAX,rops,fx,ld,zAR,cls,Nat.zero_add,zOi,zEl,Value.cells,Nat.reduceAdd,ae_mkbound,tk24,b0,b1,b2,c0,c1,c2,bd86,List.size_toArray,List.length_cons,List.length_nil]
    (repeat (first | refine Rn.seq hc ?_ | refine Rn.skip hc ?_ | refine Rn.block hc ?_ | refine Rn.inBlock hc ?_ | refine Rn.scope hc ?_ | refine Rn.inScope hc ?_))
    have hw1 : IntKind.i64.wrap (max (st.length : Int) (st'.length : Int) + (ro.length : Int)) = ((max st.length st'.length + ro.length : Nat) : Int) := by rw [IntWalk.i64_in _ (by omega)]; omega
    have hw2 : IntKind.i64.wrap (((max st.length st'.length + ro.length : Nat) : Int) + (ro'.length : Int)) = ((max st.length st'.length + ro.length + ro'.length : Nat) : Int) := by rw [IntWalk.i64_in _ (by omega)]; omega
    obtain ⟨L,hL⟩ : ∃ L,L = max st.length st'.length + ro.length + ro'.length := ⟨_,rfl⟩
    rw [← hL] at hw2
    have hB : Nx A4.next A4 (bump A4 8) := Nx.bump (Nx.refl hx4.wf _) 8
    refine Rn.reg hc rfl ?_
    simp only [zAY,zAS,zAU,zAT,sp_n,Nat.reduceLT,ne_eq,Nat.reduceEqDiff,zNf,gd,zAX,rops,fx,ld,fad,lng,zAE,zAR,Nat.zero_add,zOi,zEl,tk22,zCY,zDY,un22,b1,b2,c1,c2,zAB,ae_mxd2,mxd_int,hw1,hw2]
    (repeat (first | refine Rn.seq hc ?_ | refine Rn.skip hc ?_ | refine Rn.block hc ?_ | refine Rn.inBlock hc ?_ | refine Rn.scope hc ?_ | refine Rn.inScope hc ?_))
    refine Rn.loopI hc (I := fun k s A' => ∃ n,n ≤ L ∧ k = L - n ∧ Nx A4.next A4 A' ∧ (∀ j,j < n → atL st ro j = atL st' ro' j) ∧ s.n = 50 ∧ sget s 7 = .func (.func 72) #[.agg #[.int .i64 m,.slice sa st.length sc,.slice ra ro.length rc]] #[] ∧ sget s 8 = .func (.func 72) #[.agg #[.int .i64 m',.slice sa' st'.length sc',.slice ra' ro'.length rc']] #[] ∧ sget s 37 = .int .i64 (L : Int) ∧ sget s 38 = .int .i64 (n : Int))
      (n := L) ⟨0,by omega,rfl,hB,fun j hj => by omega,by simp only [sp_n],by simp only [zAU,zAT,sp_n,Nat.reduceLT,ne_eq,Nat.reduceEqDiff,zNf],by simp only [zAU,zAT,sp_n,Nat.reduceLT,ne_eq,Nat.reduceEqDiff,zNf],by simp only [zAU,zAT,sp_n,Nat.reduceLT,ne_eq,Nat.reduceEqDiff,zNf],by simp only [zAU,sp_n,Nat.reduceLT]; rfl⟩ ?_
    clear b0 b1 b2 c0 c1 c2 hw1 hw2 hB
    rintro k s A' ⟨n,hn1',rfl,hA,hag,hn,s7,s8,s37,s38⟩ ih
    have hA0 : Nx A.next A A' := hx04.trans (hA.le hx04.next)
    (repeat (first | refine Rn.seq hc ?_ | refine Rn.skip hc ?_ | refine Rn.block hc ?_ | refine Rn.inBlock hc ?_ | refine Rn.scope hc ?_ | refine Rn.inScope hc ?_))
    by_cases hlt : n < L
    · have hd : decide ((n : Int) < (L : Int)) = true := by simp; omega
      refine Rn.reg hc rfl ?_
      simp only [zAY,gd,zAX,rops,fx,zAP,zOi,zEl,s37,s38,hd]
      (repeat (first | refine Rn.seq hc ?_ | refine Rn.skip hc ?_ | refine Rn.block hc ?_ | refine Rn.inBlock hc ?_ | refine Rn.scope hc ?_ | refine Rn.inScope hc ?_))
      refine Rn.zAI hc rfl ?_
      simp only [zAY,zAU,Nat.reduceLT,Value.bool.injEq,zEl,hn]
      (repeat (first | refine Rn.seq hc ?_ | refine Rn.skip hc ?_ | refine Rn.block hc ?_ | refine Rn.inBlock hc ?_ | refine Rn.scope hc ?_ | refine Rn.inScope hc ?_))
      refine Rn.reg hc rfl ?_
      simp only [zAY,zAU,zAT,sp_n,Nat.reduceLT,ne_eq,Nat.reduceEqDiff,zNf,gd,zAX,rops,fx,zOi,zEl,hn,s38]
      (repeat (first | refine Rn.seq hc ?_ | refine Rn.skip hc ?_ | refine Rn.block hc ?_ | refine Rn.inBlock hc ?_ | refine Rn.scope hc ?_ | refine Rn.inScope hc ?_))
      refine Rn.region hc fun K hK => ?_
      refine Wo.run hc 2 rfl rfl rfl ?_
      simp (maxSteps := 2000000) only [List.drop_zero,List.take_succ_cons,List.take_zero,zAY,zAU,zAT,sp_n,Nat.reduceLT,ne_eq,Nat.reduceEqDiff,not_false_eq_true,gd,zAX,rops,fx,Nat.zero_add,Option.some.injEq,exists_eq_left',hn,s7]
      obtain ⟨hsx,hrx,_,_⟩ := hox.nx hA0
      obtain ⟨hsy,hry,_,_⟩ := hoy.nx hA0
      refine Wo.call hc (by rfl) (by rfl) ⟨by rfl,by rfl⟩ (fi := #[.agg #[.int .i64 m,.slice sa st.length sc,.slice ra ro.length rc]]) (ca := #[]) (xs := [.agg #[.int .i64 m,.slice sa st.length sc,.slice ra ro.length rc],.int .i64 (n : Int)]) (by rfl) (by simp only [zAY,zAU,zAT,sp_n,Nat.reduceLT,ne_eq,Nat.reduceEqDiff,zNf,hn]) (by simp only [zAY,zAU,sp_n,Nat.reduceLT,List.map_cons,List.map_nil,List.nil_append,List.append_nil,List.cons_append,hn]) (Con.mono (head_stream hA.wf hsx hrx n (by omega) hp (by omega) (by omega)) ?_)
      rintro w B1 ⟨rfl,hy1⟩
      have hA1 : Nx A4.next A4 B1 := hA.trans (hy1.le hA.next)
      have hA01 : Nx A.next A B1 := hx04.trans (hA1.le hx04.next)
      obtain ⟨hsy,hry,_,_⟩ := hoy.nx hA01
      refine Wo.run hc 2 rfl rfl rfl ?_
      simp (maxSteps := 2000000) only [List.drop_zero,List.drop_succ_cons,List.take_succ_cons,List.take_zero,zAY,zAU,zAT,sp_n,Nat.reduceLT,ne_eq,Nat.reduceEqDiff,not_false_eq_true,gd,zAX,rops,fx,Option.some.injEq,exists_eq_left',Nat.reduceAdd,hn,s8]
      refine Wo.call hc (by rfl) (by rfl) ⟨by rfl,by rfl⟩ (fi := #[.agg #[.int .i64 m',.slice sa' st'.length sc',.slice ra' ro'.length rc']]) (ca := #[]) (xs := [.agg #[.int .i64 m',.slice sa' st'.length sc',.slice ra' ro'.length rc'],.int .i64 (n : Int)]) (by rfl) (by simp only [zAY,zAU,zAT,sp_n,Nat.reduceLT,ne_eq,Nat.reduceEqDiff,zNf,hn]) (by simp only [zAY,zAU,sp_n,Nat.reduceLT,List.map_cons,List.map_nil,List.nil_append,List.append_nil,List.cons_append,hn]) (Con.mono (head_stream hA1.wf hsy hry n (by omega) hp' (by omega) (by omega)) ?_)
      rintro w B2 ⟨rfl,hy2⟩
      have hA2 : Nx A4.next A4 B2 := hA1.trans (hy2.le hA1.next)
      by_cases heq : atL st ro n = atL st' ro' n
      · have hd2 : (!(decide (atL st ro n = atL st' ro' n) && decide (m = m'))) = false := by rw [decide_eq_true heq,decide_eq_true hmm]; rfl
        refine Wo.run hc 1 rfl rfl rfl ?_
        simp (maxSteps := 2000000) only [List.drop_zero,List.drop_succ_cons,List.take_succ_cons,List.take_zero,zAY,zAU,zAT,sp_n,Nat.reduceLT,ne_eq,Nat.reduceEqDiff,not_false_eq_true,gd,zAX,rops,fx,Option.some.injEq,exists_eq_left',Nat.reduceAdd,hn,neq88,hd2]
        refine Wo.done hc rfl (hK _ _ ?_)
        clear hK
        (repeat (first | refine Rn.seq hc ?_ | refine Rn.skip hc ?_ | refine Rn.block hc ?_ | refine Rn.inBlock hc ?_ | refine Rn.scope hc ?_ | refine Rn.inScope hc ?_))
        refine Rn.zAI hc rfl ?_
        simp only [zAY,zAU,sp_n,Nat.reduceLT,Value.bool.injEq,zEl,hn]
        (repeat (first | refine Rn.seq hc ?_ | refine Rn.skip hc ?_ | refine Rn.block hc ?_ | refine Rn.inBlock hc ?_ | refine Rn.scope hc ?_ | refine Rn.inScope hc ?_))
        refine Rn.reg hc rfl ?_
        simp only [zAY,zAS,zAU,zAT,sp_n,Nat.reduceLT,ne_eq,Nat.reduceEqDiff,zNf,gd,zAX,rops,fx,zAE,zOi,zEl,hn,s38,zBY (show n < 9223372036854775807 by omega)]
        (repeat (first | refine Rn.seq hc ?_ | refine Rn.skip hc ?_ | refine Rn.block hc ?_ | refine Rn.inBlock hc ?_ | refine Rn.scope hc ?_ | refine Rn.inScope hc ?_))
        refine ih _ _ _ (by omega) ⟨n + 1,by omega,rfl,hA2,fun j hj => ?_,by simp only [sp_n,hn],by simp only [zAT,ne_eq,Nat.reduceEqDiff,zNf,s7],by simp only [zAT,ne_eq,Nat.reduceEqDiff,zNf,s8],by simp only [zAT,ne_eq,Nat.reduceEqDiff,zNf,s37],by simp only [zAU,sp_n,Nat.reduceLT,hn]⟩
        by_cases hjn : j = n
        · subst hjn; exact heq
        · exact hag j (by omega)
      · have hd2 : (!(decide (atL st ro n = atL st' ro' n) && decide (m = m'))) = true := by rw [decide_eq_false heq]; rfl
        clear ih
        refine Wo.run hc 1 rfl rfl rfl ?_
        simp (maxSteps := 2000000) only [List.drop_zero,List.drop_succ_cons,List.take_succ_cons,List.take_zero,zAY,zAU,zAT,sp_n,Nat.reduceLT,ne_eq,Nat.reduceEqDiff,not_false_eq_true,gd,zAX,rops,fx,Option.some.injEq,exists_eq_left',Nat.reduceAdd,hn,neq88,hd2]
        refine Wo.done hc rfl (hK _ _ ?_)
        clear hK
        (repeat (first | refine Rn.seq hc ?_ | refine Rn.skip hc ?_ | refine Rn.block hc ?_ | refine Rn.inBlock hc ?_ | refine Rn.scope hc ?_ | refine Rn.inScope hc ?_))
        refine Rn.zAI hc rfl ?_
        simp only [zAY,zAU,sp_n,Nat.reduceLT,Value.bool.injEq,zEl,hn]
        (repeat (first | refine Rn.seq hc ?_ | refine Rn.skip hc ?_ | refine Rn.block hc ?_ | refine Rn.inBlock hc ?_ | refine Rn.scope hc ?_ | refine Rn.inScope hc ?_))
        refine Rn.reg hc rfl ?_
        simp only [zAY,zAS,zAU,zAT,sp_n,Nat.reduceLT,ne_eq,Nat.reduceEqDiff,zNf,gd,zAX,rops,fx,zOi,zEl,hn]
        (repeat (first | refine Rn.seq hc ?_ | refine Rn.skip hc ?_ | refine Rn.block hc ?_ | refine Rn.inBlock hc ?_ | refine Rn.scope hc ?_ | refine Rn.inScope hc ?_))
        refine Rn.ret (endQ_two rfl ⟨hx04.trans (hA2.le hx04.next),fun _ => .inl ⟨n,?_,heq,hag⟩,fun h => absurd trivial h⟩)
        simp only [zAU,zAT,sp_n,Nat.reduceLT,ne_eq,Nat.reduceEqDiff,zNf,hn]
    · have hd : decide ((n : Int) < (L : Int)) = false := by simp; omega
      have hnL : n = L := by omega
      clear ih
      refine Rn.reg hc rfl ?_
      simp only [zAY,gd,zAX,rops,fx,zAP,zOi,zEl,s37,s38,hd]
      (repeat (first | refine Rn.seq hc ?_ | refine Rn.skip hc ?_ | refine Rn.block hc ?_ | refine Rn.inBlock hc ?_ | refine Rn.scope hc ?_ | refine Rn.inScope hc ?_))
      refine Rn.zAI hc rfl ?_
      simp only [zAY,zAU,Nat.reduceLT,Value.bool.injEq,zEl,hn]
      (repeat (first | refine Rn.seq hc ?_ | refine Rn.skip hc ?_ | refine Rn.block hc ?_ | refine Rn.inBlock hc ?_ | refine Rn.scope hc ?_ | refine Rn.inScope hc ?_))
      refine Rn.exit hc rfl ?_
      (repeat (first | refine Rn.seq hc ?_ | refine Rn.skip hc ?_ | refine Rn.block hc ?_ | refine Rn.inBlock hc ?_ | refine Rn.scope hc ?_ | refine Rn.inScope hc ?_))
      refine Rn.reg hc rfl ?_
      simp only [zAS,gd,zAX,rops,fx,zOi,zEl]
      (repeat (first | refine Rn.seq hc ?_ | refine Rn.skip hc ?_ | refine Rn.block hc ?_ | refine Rn.inBlock hc ?_ | refine Rn.scope hc ?_ | refine Rn.inScope hc ?_))
      refine Rn.ret (endQ_two rfl ⟨hA0,fun _ => .inr ⟨?_,?_⟩,fun h => absurd trivial h⟩)
      · simp only [zAU,zAT,sp_n,Nat.reduceLT,ne_eq,Nat.reduceEqDiff,zNf,hn]
      · exact agree_all ((atL_per (st := st) hp).mono (Nat.le_max_left st.length st'.length)) ((atL_per (st := st') hp').mono (Nat.le_max_right st.length st'.length)) fun j hj => hag j (by omega)
  · have hd0 : (!decide (errs [⟨m,sa,sc,st,ra,rc,ro⟩,⟨m',sa',sc',st',ra',rc',ro'⟩] [⟨m,sa,sc,st,ra,rc,ro⟩,⟨m',sa',sc',st',ra',rc',ro'⟩] = 0)) = true := by rw [decide_eq_false he]; rfl
    refine Rn.reg hc rfl ?_
    simp only [zAY,zAS,zAU,sp_n,Nat.reduceLT,gd,zAX,rops,fx,zBP,zOi,zEl,hd0]
    (repeat (first | refine Rn.seq hc ?_ | refine Rn.skip hc ?_ | refine Rn.block hc ?_ | refine Rn.inBlock hc ?_ | refine Rn.scope hc ?_ | refine Rn.inScope hc ?_))
    refine Rn.zAI hc rfl ?_
    simp only [zAY,zAU,sp_n,Nat.reduceLT,Value.bool.injEq,zEl]
    (repeat (first | refine Rn.seq hc ?_ | refine Rn.skip hc ?_ | refine Rn.block hc ?_ | refine Rn.inBlock hc ?_ | refine Rn.scope hc ?_ | refine Rn.inScope hc ?_))
    refine Rn.reg hc rfl ?_
    simp only [zAY,zAS,zAU,zAT,sp_n,Nat.reduceLT,ne_eq,Nat.reduceEqDiff,zNf,gd,zAX,rops,fx,zOi,zEl]
    (repeat (first | refine Rn.seq hc ?_ | refine Rn.skip hc ?_ | refine Rn.block hc ?_ | refine Rn.inBlock hc ?_ | refine Rn.scope hc ?_ | refine Rn.inScope hc ?_))
    refine Rn.ret (endQ_two rfl ⟨hx04,fun h => absurd h he,fun _ => ?_⟩)
    simp only [zAU,zAT,sp_n,Nat.reduceLT,ne_eq,Nat.reduceEqDiff,zNf]
theorem same_run {A : AHeap} (hw : WF A) {x y : Las} (hox : x.ok A) (hoy : y.ok A) :
    Con Try.prog 20 [x.v,y.v] A (fun v A1 => Nx A.next A A1 ∧ (errs [x,y] [x,y] = 0 → ∃ b,v = .tuple #[.bool b,.int .i64 0] ∧ (b = true ↔ ∀ n,x.s n = y.s n)) ∧ (errs [x,y] [x,y] ≠ 0 → v = .tuple #[.bool false,.int .i64 (errs [x,y] [x,y])])) := by
  refine zAM hc Try.func20 rfl (Nat.le_of_ble_eq_true rfl) ?_
  obtain ⟨A1,e1,hx1,hn1,b0,b1,b2⟩ := box3 hw (.int .i64 x.m) (.slice x.sa x.st.length x.sc) (.slice x.ra x.ro.length x.rc) 24
  obtain ⟨A2,e2,hx2,hn2,c0,c1,c2⟩ := box3 hx1.wf (.int .i64 y.m) (.slice y.sa y.st.length y.sc) (.slice y.ra y.ro.length y.rc) 24
  have hx02 : Nx A.next A A2 := hx1.trans (hx2.le hx1.next)
  have b0 := (hx2.cl (show A.next < A1.next by omega) 0).trans b0
  have b1 := (hx2.cl (show A.next < A1.next by omega) 1).trans b1
  have b2 := (hx2.cl (show A.next < A1.next by omega) 2).trans b2
  rw [s_in2]
  (repeat (first | refine Rn.seq hc ?_ | refine Rn.skip hc ?_ | refine Rn.block hc ?_ | refine Rn.inBlock hc ?_ | refine Rn.scope hc ?_ | refine Rn.inScope hc ?_))
  refine Rn.reg hc rfl ?_
  simp only [zAY,zAS,zAU,zAT,sp_n,Nat.reduceLT,ne_eq,Nat.reduceEqDiff,zNf,gd,zAX,rops,fx,zOi,zEl,Value.cells,show Try.f20.ntmps = 20 from rfl,Las.v,e1,e2]
  (repeat (first | refine Rn.seq hc ?_ | refine Rn.skip hc ?_ | refine Rn.block hc ?_ | refine Rn.inBlock hc ?_ | refine Rn.scope hc ?_ | refine Rn.inScope hc ?_))
  refine Rn.region hc fun K hK => ?_
  refine Wo.run hc 2 rfl rfl rfl ?_
  simp (maxSteps := 2000000) only [List.drop_zero,List.take_succ_cons,List.take_zero,zAY,zAU,zAT,sp_n,Nat.reduceLT,ne_eq,Nat.reduceEqDiff,not_false_eq_true,gd,zAX,rops,fx,ld,zAR,cls,Nat.zero_add,Option.some.injEq,exists_eq_left',Nat.reduceAdd,tk24,b0,b1,b2,c0,c1,c2]
  refine Wo.call hc (by rfl) (by rfl) ⟨by rfl,by rfl⟩ (xs := [x.v,y.v]) (by rfl) (by rfl) (by rfl) (Con.mono (apart_run hx2.wf (hox.nx hx02) (hoy.nx hx02)) ?_)
  rintro w A3 ⟨hx3,hq,hqe⟩
  have hx03 : Nx A.next A A3 := hx02.trans (hx3.le hx02.next)
  by_cases he : errs [x,y] [x,y] = 0
  · rcases hq he with ⟨n,rfl,h1,h2⟩ | ⟨rfl,h1⟩
    · refine Wo.run hc 5 rfl rfl rfl ?_
      simp (maxSteps := 2000000) only [List.drop_zero,List.drop_succ_cons,List.take_succ_cons,List.take_zero,zAY,zAU,zAT,sp_n,Nat.reduceLT,ne_eq,Nat.reduceEqDiff,not_false_eq_true,gd,zAX,rops,fx,ext,List.getElem?_toArray,List.getElem?_cons_zero,List.getElem?_cons_succ,Option.some.injEq,exists_eq_left',Nat.reduceAdd,ext]
      refine Wo.done hc rfl (hK _ _ ?_)
      clear hK
      (repeat (first | refine Rn.seq hc ?_ | refine Rn.skip hc ?_ | refine Rn.block hc ?_ | refine Rn.inBlock hc ?_ | refine Rn.scope hc ?_ | refine Rn.inScope hc ?_))
      refine Rn.reg hc rfl ?_
      simp only [zAY,zAU,sp_n,Nat.reduceLT,gd,zAX,rops,fx,zOi,zEl]
      (repeat (first | refine Rn.seq hc ?_ | refine Rn.skip hc ?_ | refine Rn.block hc ?_ | refine Rn.inBlock hc ?_ | refine Rn.scope hc ?_ | refine Rn.inScope hc ?_))
      refine Rn.reg hc rfl ?_
      simp only [zAY,zAS,zAU,sp_n,Nat.reduceLT,gd,zAX,rops,fx,zCF,zOi,zEl,show decide ((0 : Int) = 6) = false from rfl]
      (repeat (first | refine Rn.seq hc ?_ | refine Rn.skip hc ?_ | refine Rn.block hc ?_ | refine Rn.inBlock hc ?_ | refine Rn.scope hc ?_ | refine Rn.inScope hc ?_))
      refine Rn.zAI hc rfl ?_
      simp only [zAY,zAU,sp_n,Nat.reduceLT,Value.bool.injEq,zEl]
      (repeat (first | refine Rn.seq hc ?_ | refine Rn.skip hc ?_ | refine Rn.block hc ?_ | refine Rn.inBlock hc ?_ | refine Rn.scope hc ?_ | refine Rn.inScope hc ?_))
      refine Rn.reg hc rfl ?_
      simp only [zAY,zAS,zAU,zAT,sp_n,Nat.reduceLT,ne_eq,Nat.reduceEqDiff,zNf,gd,zAX,rops,fx,zCF,zOi,zEl,eq_self,decide_true]
      (repeat (first | refine Rn.seq hc ?_ | refine Rn.skip hc ?_ | refine Rn.block hc ?_ | refine Rn.inBlock hc ?_ | refine Rn.scope hc ?_ | refine Rn.inScope hc ?_))
      refine Rn.zAI hc rfl ?_
      simp only [zAY,zAU,sp_n,Nat.reduceLT,Value.bool.injEq,zEl]
      (repeat (first | refine Rn.seq hc ?_ | refine Rn.skip hc ?_ | refine Rn.block hc ?_ | refine Rn.inBlock hc ?_ | refine Rn.scope hc ?_ | refine Rn.inScope hc ?_))
      refine Rn.reg hc rfl ?_
      simp only [zAS,gd,zAX,rops,fx,zOi,zEl]
      (repeat (first | refine Rn.seq hc ?_ | refine Rn.skip hc ?_ | refine Rn.block hc ?_ | refine Rn.inBlock hc ?_ | refine Rn.scope hc ?_ | refine Rn.inScope hc ?_))
      refine Rn.ret (endQ_two rfl ⟨hx03,fun _ => ⟨false,?_,by simp; exact ⟨n,h1⟩⟩,fun h => absurd he h⟩)
      simp only [zAU,zAT,sp_n,Nat.reduceLT,ne_eq,Nat.reduceEqDiff,zNf]
    · refine Wo.run hc 5 rfl rfl rfl ?_
      simp (maxSteps := 2000000) only [List.drop_zero,List.drop_succ_cons,List.take_succ_cons,List.take_zero,zAY,zAU,zAT,sp_n,Nat.reduceLT,ne_eq,Nat.reduceEqDiff,not_false_eq_true,gd,zAX,rops,fx,ext,List.getElem?_toArray,List.getElem?_cons_zero,List.getElem?_cons_succ,Option.some.injEq,exists_eq_left',Nat.reduceAdd,ext]
      refine Wo.done hc rfl (hK _ _ ?_)
      clear hK
      (repeat (first | refine Rn.seq hc ?_ | refine Rn.skip hc ?_ | refine Rn.block hc ?_ | refine Rn.inBlock hc ?_ | refine Rn.scope hc ?_ | refine Rn.inScope hc ?_))
      refine Rn.reg hc rfl ?_
      simp only [zAY,zAU,sp_n,Nat.reduceLT,gd,zAX,rops,fx,zOi,zEl]
      (repeat (first | refine Rn.seq hc ?_ | refine Rn.skip hc ?_ | refine Rn.block hc ?_ | refine Rn.inBlock hc ?_ | refine Rn.scope hc ?_ | refine Rn.inScope hc ?_))
      refine Rn.reg hc rfl ?_
      simp only [zAY,zAS,zAU,sp_n,Nat.reduceLT,gd,zAX,rops,fx,zCF,zOi,zEl,eq_self,decide_true]
      (repeat (first | refine Rn.seq hc ?_ | refine Rn.skip hc ?_ | refine Rn.block hc ?_ | refine Rn.inBlock hc ?_ | refine Rn.scope hc ?_ | refine Rn.inScope hc ?_))
      refine Rn.zAI hc rfl ?_
      simp only [zAY,zAU,sp_n,Nat.reduceLT,Value.bool.injEq,zEl]
      (repeat (first | refine Rn.seq hc ?_ | refine Rn.skip hc ?_ | refine Rn.block hc ?_ | refine Rn.inBlock hc ?_ | refine Rn.scope hc ?_ | refine Rn.inScope hc ?_))
      refine Rn.reg hc rfl ?_
      simp only [zAS,gd,zAX,rops,fx,zOi,zEl]
      (repeat (first | refine Rn.seq hc ?_ | refine Rn.skip hc ?_ | refine Rn.block hc ?_ | refine Rn.inBlock hc ?_ | refine Rn.scope hc ?_ | refine Rn.inScope hc ?_))
      refine Rn.ret (endQ_two rfl ⟨hx03,fun _ => ⟨true,?_,by simpa using h1⟩,fun h => absurd he h⟩)
      simp only [zAU,zAT,sp_n,Nat.reduceLT,ne_eq,Nat.reduceEqDiff,zNf]
  · have := hqe he
    subst this
    have hn6 : errs [x,y] [x,y] ≠ 6 := by
      rw [errs_two]
      have e6 : ∀ z : Las,z.err ≠ 6 := fun z => by
        unfold Las.err errL
        split
        · decide
        · split
          · decide
          · split <;> decide
      split
      · exact e6 x
      · split
        · exact e6 y
        · split <;> decide
    have d1 : decide (errs [x,y] [x,y] = 6) = false := by simpa using hn6
    have d2 : decide (errs [x,y] [x,y] = 0) = false := by simpa using he
    refine Wo.run hc 5 rfl rfl rfl ?_
    simp (maxSteps := 2000000) only [List.drop_zero,List.drop_succ_cons,List.take_succ_cons,List.take_zero,zAY,zAU,zAT,sp_n,Nat.reduceLT,ne_eq,Nat.reduceEqDiff,not_false_eq_true,gd,zAX,rops,fx,ext,List.getElem?_toArray,List.getElem?_cons_zero,List.getElem?_cons_succ,Option.some.injEq,exists_eq_left',Nat.reduceAdd,ext]
    refine Wo.done hc rfl (hK _ _ ?_)
    clear hK
    (repeat (first | refine Rn.seq hc ?_ | refine Rn.skip hc ?_ | refine Rn.block hc ?_ | refine Rn.inBlock hc ?_ | refine Rn.scope hc ?_ | refine Rn.inScope hc ?_))
    refine Rn.reg hc rfl ?_
    simp only [zAY,zAU,sp_n,Nat.reduceLT,gd,zAX,rops,fx,zOi,zEl]
    (repeat (first | refine Rn.seq hc ?_ | refine Rn.skip hc ?_ | refine Rn.block hc ?_ | refine Rn.inBlock hc ?_ | refine Rn.scope hc ?_ | refine Rn.inScope hc ?_))
    refine Rn.reg hc rfl ?_
    simp only [zAY,zAS,zAU,sp_n,Nat.reduceLT,gd,zAX,rops,fx,zCF,zOi,zEl,d1]
    (repeat (first | refine Rn.seq hc ?_ | refine Rn.skip hc ?_ | refine Rn.block hc ?_ | refine Rn.inBlock hc ?_ | refine Rn.scope hc ?_ | refine Rn.inScope hc ?_))
    refine Rn.zAI hc rfl ?_
    simp only [zAY,zAU,sp_n,Nat.reduceLT,Value.bool.injEq,zEl]
    (repeat (first | refine Rn.seq hc ?_ | refine Rn.skip hc ?_ | refine Rn.block hc ?_ | refine Rn.inBlock hc ?_ | refine Rn.scope hc ?_ | refine Rn.inScope hc ?_))
    refine Rn.reg hc rfl ?_
    simp only [zAY,zAS,zAU,zAT,sp_n,Nat.reduceLT,ne_eq,Nat.reduceEqDiff,zNf,gd,zAX,rops,fx,zCF,zOi,zEl,d2]
    (repeat (first | refine Rn.seq hc ?_ | refine Rn.skip hc ?_ | refine Rn.block hc ?_ | refine Rn.inBlock hc ?_ | refine Rn.scope hc ?_ | refine Rn.inScope hc ?_))
    refine Rn.zAI hc rfl ?_
    simp only [zAY,zAU,sp_n,Nat.reduceLT,Value.bool.injEq,zEl]
    (repeat (first | refine Rn.seq hc ?_ | refine Rn.skip hc ?_ | refine Rn.block hc ?_ | refine Rn.inBlock hc ?_ | refine Rn.scope hc ?_ | refine Rn.inScope hc ?_))
    refine Rn.reg hc rfl ?_
    simp only [zAY,zAS,zAU,zAT,sp_n,Nat.reduceLT,ne_eq,Nat.reduceEqDiff,zNf,gd,zAX,rops,fx,zOi,zEl]
    (repeat (first | refine Rn.seq hc ?_ | refine Rn.skip hc ?_ | refine Rn.block hc ?_ | refine Rn.inBlock hc ?_ | refine Rn.scope hc ?_ | refine Rn.inScope hc ?_))
    refine Rn.ret (endQ_two rfl ⟨hx03,fun h => absurd h he,fun _ => ?_⟩)
    simp only [zAU,zAT,sp_n,Nat.reduceLT,ne_eq,Nat.reduceEqDiff,zNf]
end Go.Proofs.Ytdaljohmfnfgiaa
namespace Go.Proofs.Ytdaljohmfnfgiaa
open Go Go.RowKit Go.Proofs.Ytdaljohmfnfgiaa.Canon
set_option maxRecDepth 20000
end Go.Proofs.Ytdaljohmfnfgiaa
namespace Go.Proofs.Ytdaljohmfnfgiaa
open Go Go.RowKit Go.Proofs.Ytdaljohmfnfgiaa.Canon
set_option maxRecDepth 20000
theorem asl_pos {A : AHeap} {a : Option Addr} {c lo hi : Nat} {l : List Int} (h : Ints A a lo hi l) (hs : Sl A a lo) (hc' : l.length ≤ c) (hpos : 0 < l.length) {n : Nat} (hn : n ≤ l.length) :
    asl Try.prog 22 (.slice a l.length c) none (some (.int .i64 (n : Int))) none A = some (.slice a n c,A) := by
  obtain ⟨_,i,z,hinf,_,_,_,hsz,_⟩ := elB_eq el22
  have hb1 : zBS (some (.int .i64 (n : Int))) l.length = some n := by simp [zBS]
  have hb0 : ∀ d,zBS none d = some d := fun _ => rfl
  have t1 : Nat.ble 0 n = true := Nat.ble_eq_true_of_le (Nat.zero_le _)
  have t2 : Nat.ble n c = true := Nat.ble_eq_true_of_le (by omega)
  have t3 : Nat.ble c c = true := Nat.ble_eq_true_of_le (Nat.le_refl _)
  have hc0 : c ≠ 0 := by omega
  obtain ⟨b,o,rfl,_,_,_⟩ := h 0 hpos
  obtain ⟨_,_,y,hy,hg⟩ := hs _ rfl
  obtain ⟨ob,g,zz⟩ := y
  have hadd : (⟨b,o,none⟩ : Addr).add (0 * i.size) = ⟨b,o,none⟩ := by
    rw [Nat.zero_mul,addr_add]; rfl
  rcases hg with hg | ⟨hg,_,hz⟩
  · simp only at hg
    subst hg
    simp only [asl,un22,hinf,hb0,hb1,t2,Option.isSome_none,Bool.not_false,Bool.true_or,Nat.sub_zero,hy]
    rw [t1,t3]
    simp only [hc0,if_false,hadd]
  · simp only at hg hz
    subst hg hz
    have hzi : Nat.beq 1 i.size = true := by rw [hsz]; rfl
    have hcb : Nat.beq c 0 = false := by
      cases hb : Nat.beq c 0 with
      | false => rfl
      | true => exact absurd (Nat.eq_of_beq_eq_true hb) hc0
    simp only [asl,un22,hinf,hb0,hb1,t2,Option.isSome_none,Bool.not_false,Bool.true_or,Nat.sub_zero,hy,hzi,hcb,hadd]
    rw [t1,t3]
end Go.Proofs.Ytdaljohmfnfgiaa
namespace Go.Proofs.Ytdaljohmfnfgiaa
open Go Go.RowKit Go.Proofs.Ytdaljohmfnfgiaa.Canon
set_option maxRecDepth 20000
end Go.Proofs.Ytdaljohmfnfgiaa
namespace Go.Proofs.Ytdaljohmfnfgiaa
open Go Go.RowKit Go.Proofs.Ytdaljohmfnfgiaa.Canon
set_option maxRecDepth 20000
theorem res_put {A0 D : AHeap} {b n : Nat} (hl : Canon.look A0.objs b = some ⟨.cells #[.int .i64 0,.slice none 0 0,.slice none 0 0] 24,false,0⟩) (hb : b < n) (hD : Nx n A0 D) {v0 v1 v2 : Value} (hv : [v0,v1,v2].all zAA = true) :
    ∃ D',sts D b 0 [v0,v1,v2] = some D' ∧ D'.next = D.next ∧ WF D' ∧ (∀ b',b' ≠ b → Canon.look D'.objs b' = Canon.look D.objs b') ∧ cl D' b 0 = some v0 ∧ cl D' b 1 = some v1 ∧ cl D' b 2 = some v2 := by
  obtain ⟨D',c',q1,q2,q3,q4⟩ := sts_upd (l := [v0,v1,v2]) (o := 0) ((hD.keep b hb).trans hl) rfl (by simp) hv
  exact ⟨D',q1,q2.next,(q2.nx hD.wf (Nat.zero_le _)).wf,q2.off,by rw [q2.cl,q4]; rfl,by rw [q2.cl,q4]; rfl,by rw [q2.cl,q4]; rfl⟩
end Go.Proofs.Ytdaljohmfnfgiaa
namespace Go.Proofs.Ytdaljohmfnfgiaa
open Go Go.RowKit Go.Proofs.Ytdaljohmfnfgiaa.Canon
set_option maxRecDepth 20000
def lcmN (a b : Nat) : Nat := a / Nat.gcd a b * b
theorem lcmN_facts {a b : Nat} (ha : 0 < a) (hb : 0 < b) : 0 < lcmN a b ∧ lcmN a b % a = 0 ∧ lcmN a b % b = 0 ∧ lcmN a b ≤ a * b := by
  have hg : 0 < Nat.gcd a b := Nat.gcd_pos_of_pos_left _ ha
  obtain ⟨x,hx⟩ := Nat.gcd_dvd_left a b
  obtain ⟨y,hy⟩ := Nat.gcd_dvd_right a b
  have e : a / Nat.gcd a b = x := by
    have : a = Nat.gcd a b * x := hx
    rw [Nat.div_eq_of_eq_mul_right hg this]
  have hx0 : 0 < x := Nat.pos_of_ne_zero fun h => by subst h; rw [Nat.mul_zero] at hx; omega
  refine ⟨?_,?_,?_,?_⟩
  · unfold lcmN
    rw [e]
    exact Nat.mul_pos hx0 hb
  · unfold lcmN
    rw [e]
    have : x * b = a * y := by
      calc x * b = x * (Nat.gcd a b * y) := by rw [← hy]
        _ = Nat.gcd a b * x * y := by rw [← Nat.mul_assoc,Nat.mul_comm x]
        _ = a * y := by rw [← hx]
    rw [this,Nat.mul_mod_right]
  · unfold lcmN
    exact Nat.mul_mod_left _ _
  · unfold lcmN
    exact Nat.mul_le_mul_right _ (Nat.div_le_self _ _)
end Go.Proofs.Ytdaljohmfnfgiaa
namespace Go.Proofs.Ytdaljohmfnfgiaa
open Go Go.RowKit Go.Proofs.Ytdaljohmfnfgiaa.Canon
set_option maxRecDepth 20000
theorem ints_uniq {A : AHeap} {a : Option Addr} {lo hi lo' hi' : Nat} {l l' : List Int} (h : Ints A a lo hi l) (h' : Ints A a lo' hi' l') (hl : l.length = l'.length) : l = l' := by
  refine List.ext_getElem hl fun i h1 h2 => ?_
  obtain ⟨b,o,rfl,_,_,q⟩ := h i h1
  obtain ⟨b',o',e,_,_,q'⟩ := h' i h2
  cases e
  rw [q] at q'
  simp [List.getD_eq_getElem?_getD,h1,h2] at q'
  exact q'
def atS : Canon.Spec := fun _ xs A v A1 => (∀ (m : Int) (sa : Option Addr) (st : List Int) (sc : Nat) (ra : Option Addr) (ro : List Int) (rc n : Nat),xs = [.agg #[.int .i64 m,.slice sa st.length sc,.slice ra ro.length rc],.int .i64 (n : Int)] → Ints A sa 0 A.next st → Ints A ra 0 A.next ro → v = .int .i64 (atL st ro n)) ∧ Nx A.next A A1
end Go.Proofs.Ytdaljohmfnfgiaa
namespace Go.Proofs.Ytdaljohmfnfgiaa
open Go Go.RowKit Go.Proofs.Ytdaljohmfnfgiaa.Canon
set_option maxRecDepth 20000
def Wrt (A : AHeap) (a : Option Addr) (lo hi n : Nat) : Prop := 0 < n → ∃ b o c t f g e,a = some ⟨b,o,none⟩ ∧ (lo ≤ b ∧ b < hi) ∧ Canon.look A.objs b = some ⟨.cells c t f,g,e⟩ ∧ isRO g e = false ∧ o + n ≤ c.size
theorem Gr.wrt {A : AHeap} {a : Option Addr} {lo : Nat} {l : List Int} (h : Gr A a lo l) : Wrt A a lo A.next l.length := fun hpos => by
  obtain ⟨b,o,e,q2,q3,q4⟩ := h.ints (l.length - 1) (by omega)
  obtain ⟨y,h1,h2⟩ := h.wr _ e
  obtain ⟨ob,g,z⟩ := y
  obtain ⟨_,c,t,f,g',z',hlk,hc,_⟩ := AHeap.cell_eq q4
  simp only at hlk h1 h2
  rw [hlk] at h1
  cases h1
  have := (Array.getElem?_eq_some_iff.1 hc).1
  exact ⟨b,o,c,t,f,_,_,e,⟨q2,q3⟩,hlk,h2,by simp only at this; omega⟩
structure Szs (lo hi : Nat) (A B : AHeap) : Prop where
  next : B.next = A.next
  wf : WF B
  sz : ∀ b c t f g e,Canon.look A.objs b = some ⟨.cells c t f,g,e⟩ → ∃ c',c'.size = c.size ∧ Canon.look B.objs b = some ⟨.cells c' t f,g,e⟩
  keep : ∀ b,(b < lo ∨ hi ≤ b) → Canon.look B.objs b = Canon.look A.objs b
theorem Szs.trans {lo hi : Nat} {A B C : AHeap} (h : Szs lo hi A B) (k : Szs lo hi B C) : Szs lo hi A C := ⟨k.next.trans h.next,k.wf,fun b c t f g e q => by
  obtain ⟨c',e1,q1⟩ := h.sz b c t f g e q
  obtain ⟨c'',e2,q2⟩ := k.sz b c' t f g e q1
  exact ⟨c'',e2.trans e1,q2⟩,fun b hb => (k.keep b hb).trans (h.keep b hb)⟩
end Go.Proofs.Ytdaljohmfnfgiaa
namespace Go.Proofs.Ytdaljohmfnfgiaa
open Go Go.RowKit Go.Proofs.Ytdaljohmfnfgiaa.Canon
theorem awake_runs : btells Try.prog (xquick Try.prog) (qregion Try.prog (xquick Try.prog)) 100000 16 1000 = true := by kernel_rfl
theorem awake_true (w : World) : Calls Try.prog 16 #[] w (fun e w' => e = .returned (.bool true) ∧ Below w.heap.size w w') := calls_of_btells hc hx xquick_ok (qregion_ok xquick_ok) awake_runs w
theorem awake_con (A : AHeap) : Con Try.prog 16 [] A (fun v A1 => v = .bool true ∧ A1 = A) := by
  refine ⟨.bool true,A,⟨⟨_,Try.func16,rfl⟩,fun N => ?_⟩,rfl,rfl⟩
  refine ret_of_calls (fun N φ w xs' hr hs hN => ?_) N
  have : xs' = #[] := Array.eq_empty_of_size_eq_zero hr.1.symm
  subst this
  refine (awake_true w).mono fun en w' hp => ?_
  obtain ⟨rfl,hb⟩ := hp
  exact ⟨φ,_,rfl,Phi.le_refl _,.bool _,hs.below hb,hb.os,hb.tape,hb.output,hb.size,fun k hk => hb.block k (hN k hk)⟩
end Go.Proofs.Ytdaljohmfnfgiaa
namespace Go.Proofs.Ytdaljohmfnfgiaa
section
open Go Go.RowKit Go.Proofs.Ytdaljohmfnfgiaa.Canon
theorem cell_heap {W : World} {b o : Nat} {v : Value} (h : W.cell? ⟨b,o,none⟩ = some v) : ∃ c t f,W.heap[b]? = some (.cells c t f) ∧ c[o]? = some v := by
  unfold World.cell? at h
  cases hb : W.heap[b]? with
  | none => simp [hb] at h
  | some x =>
    cases x <;> simp [hb] at h
    exact ⟨_,_,_,rfl,h⟩
def blkOf : Option Addr → Nat
  | some a => a.block + 1
  | none => 0
theorem roV_slice {z : Nat} {a : Option Addr} {n c : Nat} (hs : ∀ x,a = some x → x.spot = none) (hb : blkOf a ≤ z) : roV z (.slice a n c) = true := by
  cases a with
  | none => rfl
  | some x =>
    obtain ⟨b,o,s⟩ := x
    have := hs _ rfl
    simp only at this
    subst this
    have hb : b + 1 ≤ z := hb
    show Nat.blt b z = true
    rw [Nat.blt_eq]
    omega
end
section
open Go.ChangeShapes Go.WideShapes Go.ChangeAt Go.RowKit Go.Proofs.Ytdaljohmfnfgiaa.Canon
open Go.Deep (open_slice_pairs open_slice)
theorem Try.own : ownKnob Try.prog.godebug = none := by kernel_rfl
theorem Try.laidOut : laidOutB Try.prog = true := by kernel_rfl
section
variable {H : Type} {enc : TypeId × Value → H} {P : Program}
theorem post_of_below {f : Func} {s : ChangeSpec} {apart fresh handsOn again : Bool} {W W' : World} {args : Array Value} {v : Value} {ds gs : List (DataW H)} {before pa pv : List MemPlace}
    (hW : DataW.Whole enc P f.params.toList s.vars apart W args.toList ds gs before)
    (hres : ∀ (b : Nat) (sp : Nat → Bool) (hd : Bool),DataW.TrodAll enc P W' b sp hd f.resultTypes.toList (v.resultList f.resultTypes.size) (s.fn H (ds ++ gs)).results [])
    (hargs : ∀ sp : Nat → Bool,(∀ p ∈ before,sp p.block = true) → DataW.TrodAll enc P W' 0 sp true f.params.toList args.toList (s.fn H (ds ++ gs)).args pa)
    (hvars : ∀ sp : Nat → Bool,(∀ p ∈ before,sp p.block = true) → DataW.TrodVars enc P W' sp s.vars (s.fn H (ds ++ gs)).vars pv)
    (hps : before = pa ++ pv) (hb : Below W.heap.size W W')
    (hok : ∀ (j : Nat) (t : TypeId) (r : Value),f.resultTypes[j]? = some t → (v.resultList f.resultTypes.size)[j]? = some r → Value.okWide P W' .any 0 t r) :
    s.post enc P f apart fresh handsOn again W args v W' := by
  have hlt : ∀ p ∈ before,p.block < W.heap.size := fun p hp => hW.lt p hp
  have hold : ∀ p ∈ before,(fun b => decide (b < W.heap.size)) p.block = true := fun p hp => by simpa using hlt p hp
  refine ⟨ds,gs,before,[],pa,pv,hW,hres _ _ _,hargs _ hold,hvars _ hold,World.keptBut_mono (fun p hp => ⟨hp,?_⟩) (hb.frame (· ∈ before)),fun _ => ?_⟩
  · rw [hps,List.mem_append] at hp
    exact Or.inr hp
  · obtain ⟨_,_,_,_,_,hz,hn⟩ := hW
    refine ⟨hok,_,_,([] ++ pa) ++ pv,⟨[] ++ pa,pv,trodAll_append (hargs _ (fun _ _ => rfl)) (hres _ _ _),hvars _ (fun _ _ => rfl),rfl,?_,?_⟩,?_⟩
    · intro b off hp
      have hin : MemPlace.cell b off ∈ before := by rw [hps]; simpa using hp
      rw [hb.frozen (hlt _ hin)]
      exact hz b off hin
    · intro ha
      have := hn ha
      rw [hps] at this
      simpa using this
    · intro p hp _
      rw [hps]
      simpa using hp
end
theorem cell_slice {P : Program} {w : World} {b : Nat} {t e : TypeId} (ht : P.underlying t = some (.slice e)) {v : Value} (h : Cell.okWide P w .any b t v) : ∃ a n c,v = .slice a n c ∧ ∀ x,a = some x → x.spot = none := by
  unfold Cell.okWide at h
  rw [ht] at h
  cases v <;> simp [Cell.ok,ht] at h
  case slice a n c =>
    cases a with
    | none => exact ⟨none,n,c,rfl,fun x hx => by cases hx⟩
    | some a =>
      refine ⟨some a,n,c,rfl,fun x hx => ?_⟩
      cases hx
      simp only at h
      exact h.2.2.2.1
theorem val_cell {P : Program} {w : World} {b : Nat} {t e : TypeId} (ht : P.underlying t = some (.slice e)) {v : Value} (h : Value.okWide P w .any b t v) : Cell.okWide P w .any b t v := by
  unfold Value.okWide at h
  rw [ht] at h
  exact h
end
end Go.Proofs.Ytdaljohmfnfgiaa
namespace Go.Proofs.Ytdaljohmfnfgiaa
open Go Go.RowKit Go.Proofs.Ytdaljohmfnfgiaa.Canon
set_option maxRecDepth 20000
def Tw (x x' : Las) : Prop := x.m = x'.m ∧ x.st = x'.st ∧ x.ro = x'.ro
end Go.Proofs.Ytdaljohmfnfgiaa

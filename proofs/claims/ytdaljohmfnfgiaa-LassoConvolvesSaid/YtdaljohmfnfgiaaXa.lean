/- LassoConvolvesSaid: what its proof is made of, part 1. No condition. -/
import Derived.Test.YtdaljohmfnfgiaaCanonFh
import Derived.Test.YtdaljohmfnfgiaaRows
import Derived.Test.YtdaljohmfnfgiaaCanonFj
import Derived.Test.YtdaljohmfnfgiaaCanonFk
import Derived.Test.YtdaljohmfnfgiaaCanonFl
import Derived.Test.YtdaljohmfnfgiaaCanonFo
import Derived.Test.YtdaljohmfnfgiaaCanonFp
namespace Go.Proofs.Ytdaljohmfnfgiaa
open Go Go.RowKit Go.Proofs.Ytdaljohmfnfgiaa.Canon
noncomputable section
def nocount (P : Program) : Bool := P.funcs.toList.all fun fn => match fn.body with
  | some _ => !(fn.name == "runtime.NumGoroutine")
  | none => true
theorem nocount_ok : nocount Try.prog = true := by kernel_rfl
theorem hc : zAJ Try.prog := by
  intro g fn hf hb
  have h := nocount_ok
  unfold nocount at h
  rw [List.all_eq_true] at h
  have := h fn (by simpa using Array.mem_of_getElem? hf)
  cases hbb : fn.body with
  | none => rw [hbb] at hb; cases hb
  | some c => rw [hbb] at this; simpa using this
theorem hx : Try.prog.follows .mixedOrders = true := by kernel_rfl
theorem tk3 : tk Try.prog 3 = .one := by kernel_rfl
theorem tk22 : tk Try.prog 22 = .one := by kernel_rfl
theorem tk24 : tk Try.prog 24 = .row 3 := by kernel_rfl
theorem tk86 : tk Try.prog 86 = .row 3 := by kernel_rfl
theorem zBJ : fof Try.prog 24 0 = some 0 := by kernel_rfl
theorem zBO : fof Try.prog 24 1 = some 1 := by kernel_rfl
theorem zBG : fof Try.prog 24 2 = some 2 := by kernel_rfl
theorem fo86_0 : fof Try.prog 86 0 = some 0 := by kernel_rfl
theorem un22 : Try.prog.underlying 22 = some (.slice 3) := by kernel_rfl
theorem un46 : Try.prog.underlying 46 = some (.slice 24) := by kernel_rfl
theorem eo22 : eof Try.prog 22 = some 1 := by kernel_rfl
theorem eo46 : eof Try.prog 46 = some 3 := by kernel_rfl
theorem el22 : elB Try.prog 22 = some (3,1,8) := by kernel_rfl
theorem ze24 : zCG Try.prog 24 = some (.agg #[.int .i64 0,.slice none 0 0,.slice none 0 0]) := by kernel_rfl
theorem ze3 : zCG Try.prog 3 = some (.int .i64 0) := by kernel_rfl
theorem bo24 : bof Try.prog 24 = .mk (nthR [(0,1),(1,1),(2,1)]) 3 [.int .i64 0,.slice none 0 0,.slice none 0 0] := by kernel_rfl
theorem so22_0 : sof Try.prog 22 0 = .mk (fun k => some (k * 1,1)) 0 [] := by kernel_rfl
theorem et22 : elemT Try.prog 22 = some 3 := by kernel_rfl
theorem zBT (A : AHeap) (k b o : Nat) : cl (bump A k) b o = cl A b o := rfl
theorem zAD (A : AHeap) (k : Nat) : (bump A k).next = A.next + k := rfl
theorem WF.bump {A : AHeap} (h : WF A) (k : Nat) : WF (bump A k) := fun b x hx => by
  rw [zAD]
  have := h b x hx
  omega
theorem Nx.bump {n : Nat} {A B : AHeap} (h : Nx n A B) (k : Nat) : Nx n A (bump B k) := ⟨by rw [zAD]; have := h.next; omega,WF.bump h.wf k,fun b hb => h.keep b hb⟩
theorem zAO {f : Func} {t : Tmp} (hr : f.results = #[.tmp t]) {Q : Value → AHeap → Prop} {s : Slots} {A : AHeap} (h : Q (sget s t) A) : endQ Try.prog f Q .ret s [] A := by
  refine ⟨sget s t,A,?_,h⟩
  show VR.of (zCK Try.prog f s A) = _
  unfold zCK
  rw [hr]
  rfl
end
end Go.Proofs.Ytdaljohmfnfgiaa
namespace Go.Proofs.Ytdaljohmfnfgiaa
open Go Go.RowKit Go.Proofs.Ytdaljohmfnfgiaa.Canon
set_option maxRecDepth 20000
def Ints (A : AHeap) (a : Option Addr) (lo hi : Nat) (l : List Int) : Prop := ∀ i,i < l.length → ∃ b o,a = some ⟨b,o,none⟩ ∧ lo ≤ b ∧ b < hi ∧ cl A b (o + i) = some (.int .i64 (l.getD i 0))
theorem Ints.nx {n : Nat} {A B : AHeap} (h : Nx n A B) {a : Option Addr} {lo hi : Nat} {l : List Int} (hc : Ints A a lo hi l) (hn : hi ≤ n) : Ints B a lo hi l := fun i hi => by
  obtain ⟨b,o,h1,h2,h3,h4⟩ := hc i hi
  exact ⟨b,o,h1,h2,h3,by rw [h.cl (by omega)]; exact h4⟩
theorem Ints.mono {A : AHeap} {a : Option Addr} {lo hi lo' hi' : Nat} {l : List Int} (hc : Ints A a lo hi l) (h1 : lo' ≤ lo) (h2 : hi ≤ hi') : Ints A a lo' hi' l := fun i hi => by
  obtain ⟨b,o,q1,q2,q3,q4⟩ := hc i hi
  exact ⟨b,o,q1,by omega,by omega,q4⟩
def atL (st ro : List Int) (n : Nat) : Int := if n < st.length then st.getD n 0 else ro.getD ((n - st.length) % ro.length) 0
theorem box3 {A : AHeap} (hw : WF A) (v0 v1 v2 : Value) (t : TypeId) : ∃ A1,A.push (.cells #[v0,v1,v2] t) = A1 ∧ Nx A.next A A1 ∧ A1.next = A.next + 1 ∧ cl A1 A.next 0 = some v0 ∧ cl A1 A.next 1 = some v1 ∧ cl A1 A.next 2 = some v2 :=
  ⟨_,rfl,(Nx.refl hw _).push (Nat.le_refl _) _,rfl,by rw [cl_push_eq]; rfl,by rw [cl_push_eq]; rfl,by rw [cl_push_eq]; rfl⟩
theorem at_ref {A : AHeap} (hw : WF A) {m : Int} {sa ra : Option Addr} {sc rc : Nat} {st ro : List Int} (hs : Ints A sa 0 A.next st) (hr : Ints A ra 0 A.next ro) (n : Nat) (hst : st.length < 4611686018427387904) (hro : 0 < ro.length) (hro2 : ro.length < 4611686018427387904) (hn : n < 9223372036854775808) :
    Con Try.prog 74 [.agg #[.int .i64 m,.slice sa st.length sc,.slice ra ro.length rc],.int .i64 (n : Int)] A (fun v A1 => v = .int .i64 (atL st ro n) ∧ Nx A.next A A1) := by
  refine zAF hc Try.func74 rfl (Nat.le_of_ble_eq_true rfl) ?_
  obtain ⟨A1,e1,hx1,hn1,b0,b1,b2⟩ := box3 hw (.int .i64 m) (.slice sa st.length sc) (.slice ra ro.length rc) 24
  rw [s_in2]
  (repeat (first | refine Rn.seq hc ?_ | refine Rn.skip hc ?_ | refine Rn.block hc ?_ | refine Rn.inBlock hc ?_ | refine Rn.scope hc ?_ | refine Rn.inScope hc ?_))
  refine Rn.reg hc rfl ?_
  simp only [zAY,zAS,zAU,zAT,Nat.reduceLT,ne_eq,Nat.reduceEqDiff,zNf,gd,zAX,rops,fx,zOi,zEl,Value.cells,show Try.f74.ntmps = 28 from rfl,e1]
  (repeat (first | refine Rn.seq hc ?_ | refine Rn.skip hc ?_ | refine Rn.block hc ?_ | refine Rn.inBlock hc ?_ | refine Rn.scope hc ?_ | refine Rn.inScope hc ?_))
  by_cases h : n < st.length
  · obtain ⟨b,o,rfl,_,hb,hcl⟩ := hs n h
    have hcl1 : cl A1 b (o + n) = _ := (hx1.cl hb _).trans hcl
    have hd : decide ((n : Int) < (st.length : Int)) = true := by simp; omega
    refine Rn.reg hc rfl ?_
    simp only [zAY,zAU,zAT,sp_n,Nat.reduceLT,ne_eq,Nat.reduceEqDiff,zNf,gd,zAX,rops,fx,ld,fad,lng,zAN,zAR,Nat.zero_add,zOi,zEl,tk22,zBO,un22,b1,hd]
    (repeat (first | refine Rn.seq hc ?_ | refine Rn.skip hc ?_ | refine Rn.block hc ?_ | refine Rn.inBlock hc ?_ | refine Rn.scope hc ?_ | refine Rn.inScope hc ?_))
    refine Rn.zAM hc rfl ?_
    simp only [zAY,zAU,sp_n,Nat.reduceLT,Value.bool.injEq,zEl]
    (repeat (first | refine Rn.seq hc ?_ | refine Rn.skip hc ?_ | refine Rn.block hc ?_ | refine Rn.inBlock hc ?_ | refine Rn.scope hc ?_ | refine Rn.inScope hc ?_))
    refine Rn.reg hc rfl ?_
    simp only [zAY,zAU,zAT,sp_n,Nat.reduceLT,ne_eq,Nat.reduceEqDiff,zNf,gd,zAX,rops,fx,ld,fad,idx,zAR,Nat.zero_add,zOi,zEl,Nat.mul_one,tk3,tk22,zBO,eo22,b1,zAQ h,hcl1]
    (repeat (first | refine Rn.seq hc ?_ | refine Rn.skip hc ?_ | refine Rn.block hc ?_ | refine Rn.inBlock hc ?_ | refine Rn.scope hc ?_ | refine Rn.inScope hc ?_))
    refine Rn.ret (zAO rfl ⟨?_,hx1⟩)
    simp only [zAU,sp_n,Nat.reduceLT]
    unfold atL
    rw [if_pos h]
  · have hd : decide ((n : Int) < (st.length : Int)) = false := by simp; omega
    have hlt : (n - st.length) % ro.length < ro.length := Nat.mod_lt _ hro
    obtain ⟨b,o,rfl,_,hb,hcl⟩ := hr _ hlt
    have hcl1 : cl A1 b (o + (n - st.length) % ro.length) = _ := (hx1.cl hb _).trans hcl
    have hsub : IntKind.i64.wrap ((n : Int) - (st.length : Int)) = ((n - st.length : Nat) : Int) := by rw [IntWalk.i64_in _ (by omega)]; omega
    have hrem : bin Try.prog .rem 3 (.int .i64 ((n - st.length : Nat) : Int)) (.int .i64 (ro.length : Int)) (bump A1 14) = some (.int .i64 (((n - st.length) % ro.length : Nat) : Int),bump A1 14) := by
      rw [zCS _ _ _ _ (by omega),IntWalk.rem_in _ _ (by omega)]
      rfl
    refine Rn.reg hc rfl ?_
    simp only [zAY,zAU,zAT,sp_n,Nat.reduceLT,ne_eq,Nat.reduceEqDiff,zNf,gd,zAX,rops,fx,ld,fad,lng,zAN,zAR,Nat.zero_add,zOi,zEl,tk22,zBO,un22,b1,hd]
    (repeat (first | refine Rn.seq hc ?_ | refine Rn.skip hc ?_ | refine Rn.block hc ?_ | refine Rn.inBlock hc ?_ | refine Rn.scope hc ?_ | refine Rn.inScope hc ?_))
    refine Rn.zAM hc rfl ?_
    simp only [zAY,zAU,sp_n,Nat.reduceLT,Value.bool.injEq,zEl]
    (repeat (first | refine Rn.seq hc ?_ | refine Rn.skip hc ?_ | refine Rn.block hc ?_ | refine Rn.inBlock hc ?_ | refine Rn.scope hc ?_ | refine Rn.inScope hc ?_))
    refine Rn.zDV hc hx (by kernel_rfl) (by rfl) (by kernel_rfl) ?_ ?_
    · simp only [rdV,VQ.int,VQ.ptr,VQ.slice,zBT,zAY,zAU,zAT,sp_n,Nat.reduceLT,ne_eq,Nat.reduceEqDiff,zNf,gd,zAX,fx,ld,fad,idx,lng,zBR,zAR,Nat.zero_add,Nat.reduceAdd,Nat.mul_one,and_self,tk3,tk22,zBO,zBG,un22,eo22,b1,b2,hsub,hrem,zAQ hlt,hcl1,List.length_cons,List.length_nil]
    simp only [zBT,zAY,zAU,zAT,sp_n,Nat.reduceLT,ne_eq,Nat.reduceEqDiff,zNf,gd,zAX,rops,fx,ld,fad,idx,lng,zBR,zAR,Nat.zero_add,zOi,zEl,Nat.reduceAdd,Nat.mul_one,tk3,tk22,zBO,zBG,un22,eo22,b1,b2,hsub,hrem,zAQ hlt,hcl1,List.length_cons,List.length_nil]
    (repeat (first | refine Rn.seq hc ?_ | refine Rn.skip hc ?_ | refine Rn.block hc ?_ | refine Rn.inBlock hc ?_ | refine Rn.scope hc ?_ | refine Rn.inScope hc ?_))
    refine Rn.ret (zAO rfl ⟨?_,Nx.bump hx1 _⟩)
    simp only [zAU,sp_n,Nat.reduceLT]
    unfold atL
    rw [if_neg h]
theorem at_stream {A : AHeap} (hw : WF A) {m : Int} {sa ra : Option Addr} {sc rc : Nat} {st ro : List Int} (hs : Ints A sa 0 A.next st) (hr : Ints A ra 0 A.next ro) (n : Nat) (hst : st.length < 4611686018427387904) (hro : 0 < ro.length) (hro2 : ro.length < 4611686018427387904) (hn : n < 9223372036854775808) :
    Con Try.prog 77 [.agg #[.int .i64 m,.slice sa st.length sc,.slice ra ro.length rc],.int .i64 (n : Int)] A (fun v A1 => v = .int .i64 (atL st ro n) ∧ Nx A.next A A1) := by
  refine zAF hc Try.func77 rfl (Nat.le_of_ble_eq_true rfl) ?_
  obtain ⟨A1,e1,hx1,hn1,b0,b1,b2⟩ := box3 hw (.int .i64 m) (.slice sa st.length sc) (.slice ra ro.length rc) 86
  rw [s_in2]
  (repeat (first | refine Rn.seq hc ?_ | refine Rn.skip hc ?_ | refine Rn.block hc ?_ | refine Rn.inBlock hc ?_ | refine Rn.scope hc ?_ | refine Rn.inScope hc ?_))
  refine Rn.reg hc rfl ?_
  simp only [zAY,zAS,zAU,zAT,Nat.reduceLT,ne_eq,Nat.reduceEqDiff,zNf,gd,zAX,rops,fx,zOi,zEl,Value.cells,show Try.f77.ntmps = 33 from rfl,e1]
  (repeat (first | refine Rn.seq hc ?_ | refine Rn.skip hc ?_ | refine Rn.block hc ?_ | refine Rn.inBlock hc ?_ | refine Rn.scope hc ?_ | refine Rn.inScope hc ?_))
  by_cases h : n < st.length
  · obtain ⟨b,o,rfl,_,hb,hcl⟩ := hs n h
    have hcl1 : cl A1 b (o + n) = _ := (hx1.cl hb _).trans hcl
    have hd : decide ((n : Int) < (st.length : Int)) = true := by simp; omega
    refine Rn.reg hc rfl ?_
    simp only [zAY,zAU,zAT,sp_n,Nat.reduceLT,ne_eq,Nat.reduceEqDiff,zNf,gd,zAX,rops,fx,ld,fad,lng,zAN,zAR,Nat.zero_add,Nat.add_zero,zOi,zEl,tk22,zBO,fo86_0,un22,b1,hd]
    (repeat (first | refine Rn.seq hc ?_ | refine Rn.skip hc ?_ | refine Rn.block hc ?_ | refine Rn.inBlock hc ?_ | refine Rn.scope hc ?_ | refine Rn.inScope hc ?_))
    refine Rn.zAM hc rfl ?_
    simp only [zAY,zAU,sp_n,Nat.reduceLT,Value.bool.injEq,zEl]
    (repeat (first | refine Rn.seq hc ?_ | refine Rn.skip hc ?_ | refine Rn.block hc ?_ | refine Rn.inBlock hc ?_ | refine Rn.scope hc ?_ | refine Rn.inScope hc ?_))
    refine Rn.reg hc rfl ?_
    simp only [zAY,zAU,zAT,sp_n,Nat.reduceLT,ne_eq,Nat.reduceEqDiff,zNf,gd,zAX,rops,fx,ld,fad,idx,zAR,Nat.zero_add,Nat.add_zero,zOi,zEl,Nat.mul_one,tk3,tk22,zBO,fo86_0,eo22,b1,zAQ h,hcl1]
    (repeat (first | refine Rn.seq hc ?_ | refine Rn.skip hc ?_ | refine Rn.block hc ?_ | refine Rn.inBlock hc ?_ | refine Rn.scope hc ?_ | refine Rn.inScope hc ?_))
    refine Rn.ret (zAO rfl ⟨?_,hx1⟩)
    simp only [zAU,sp_n,Nat.reduceLT]
    unfold atL
    rw [if_pos h]
  · have hd : decide ((n : Int) < (st.length : Int)) = false := by simp; omega
    have hlt : (n - st.length) % ro.length < ro.length := Nat.mod_lt _ hro
    obtain ⟨b,o,rfl,_,hb,hcl⟩ := hr _ hlt
    have hcl1 : cl A1 b (o + (n - st.length) % ro.length) = _ := (hx1.cl hb _).trans hcl
    have hsub : IntKind.i64.wrap ((n : Int) - (st.length : Int)) = ((n - st.length : Nat) : Int) := by rw [IntWalk.i64_in _ (by omega)]; omega
    have hrem : bin Try.prog .rem 3 (.int .i64 ((n - st.length : Nat) : Int)) (.int .i64 (ro.length : Int)) (bump A1 17) = some (.int .i64 (((n - st.length) % ro.length : Nat) : Int),bump A1 17) := by
      rw [zCS _ _ _ _ (by omega),IntWalk.rem_in _ _ (by omega)]
      rfl
    refine Rn.reg hc rfl ?_
    simp only [zAY,zAU,zAT,sp_n,Nat.reduceLT,ne_eq,Nat.reduceEqDiff,zNf,gd,zAX,rops,fx,ld,fad,lng,zAN,zAR,Nat.zero_add,Nat.add_zero,zOi,zEl,tk22,zBO,fo86_0,un22,b1,hd]
    (repeat (first | refine Rn.seq hc ?_ | refine Rn.skip hc ?_ | refine Rn.block hc ?_ | refine Rn.inBlock hc ?_ | refine Rn.scope hc ?_ | refine Rn.inScope hc ?_))
    refine Rn.zAM hc rfl ?_
    simp only [zAY,zAU,sp_n,Nat.reduceLT,Value.bool.injEq,zEl]
    (repeat (first | refine Rn.seq hc ?_ | refine Rn.skip hc ?_ | refine Rn.block hc ?_ | refine Rn.inBlock hc ?_ | refine Rn.scope hc ?_ | refine Rn.inScope hc ?_))
    refine Rn.zDV hc hx (by kernel_rfl) (by rfl) (by kernel_rfl) ?_ ?_
    · simp only [rdV,VQ.int,VQ.ptr,VQ.slice,zBT,zAY,zAU,zAT,sp_n,Nat.reduceLT,ne_eq,Nat.reduceEqDiff,zNf,gd,zAX,fx,ld,fad,idx,lng,zBR,zAR,Nat.zero_add,Nat.add_zero,Nat.reduceAdd,Nat.mul_one,and_self,tk3,tk22,zBO,zBG,fo86_0,un22,eo22,b1,b2,hsub,hrem,zAQ hlt,hcl1,List.length_cons,List.length_nil]
    simp only [zBT,zAY,zAU,zAT,sp_n,Nat.reduceLT,ne_eq,Nat.reduceEqDiff,zNf,gd,zAX,rops,fx,ld,fad,idx,lng,zBR,zAR,Nat.zero_add,Nat.add_zero,zOi,zEl,Nat.reduceAdd,Nat.mul_one,tk3,tk22,zBO,zBG,fo86_0,un22,eo22,b1,b2,hsub,hrem,zAQ hlt,hcl1,List.length_cons,List.length_nil]
    (repeat (first | refine Rn.seq hc ?_ | refine Rn.skip hc ?_ | refine Rn.block hc ?_ | refine Rn.inBlock hc ?_ | refine Rn.scope hc ?_ | refine Rn.inScope hc ?_))
    refine Rn.ret (zAO rfl ⟨?_,Nx.bump hx1 _⟩)
    simp only [zAU,sp_n,Nat.reduceLT]
    unfold atL
    rw [if_neg h]
theorem within {A : AHeap} (hw : WF A) (n : Int) : Con Try.prog 75 [.int .i64 n] A (fun v A1 => v = .func (.func 105) #[] #[.pointer (some ⟨A.next,0,none⟩)] ∧ cl A1 A.next 0 = some (.int .i64 n) ∧ Nx A.next A A1 ∧ A1.next = A.next + 1) := by
  refine zAF hc Try.func75 rfl (Nat.le_of_ble_eq_true rfl) ?_
  rw [s_in1]
  (repeat (first | refine Rn.seq hc ?_ | refine Rn.skip hc ?_ | refine Rn.block hc ?_ | refine Rn.inBlock hc ?_ | refine Rn.scope hc ?_ | refine Rn.inScope hc ?_))
  refine Rn.reg hc rfl ?_
  simp only [zAY,zAS,zAU,Nat.reduceLT,gd,zAX,rops,fx,zOi,zEl,Value.cells,show Try.f75.ntmps = 4 from rfl]
  (repeat (first | refine Rn.seq hc ?_ | refine Rn.skip hc ?_ | refine Rn.block hc ?_ | refine Rn.inBlock hc ?_ | refine Rn.scope hc ?_ | refine Rn.inScope hc ?_))
  refine Rn.reg hc rfl ?_
  simp only [zAY,zAU,zAT,sp_n,Nat.reduceLT,ne_eq,Nat.reduceEqDiff,zNf,gd,zAX,rops,fx,zOi,zEl,ae_mkfunc1]
  (repeat (first | refine Rn.seq hc ?_ | refine Rn.skip hc ?_ | refine Rn.block hc ?_ | refine Rn.inBlock hc ?_ | refine Rn.scope hc ?_ | refine Rn.inScope hc ?_))
  refine Rn.ret (zAO rfl ⟨?_,?_,(Nx.refl hw _).push (Nat.le_refl _) _,rfl⟩)
  · simp only [zAU,sp_n,Nat.reduceLT]
  · rw [cl_push_eq]; rfl
def inB (n x : Int) : Bool := decide (0 ≤ x) && decide (x < n)
theorem within1 {A : AHeap} {b : Nat} {n : Int} (hb : cl A b 0 = some (.int .i64 n)) (x : Int) : Con Try.prog 105 [.int .i64 x,.pointer (some ⟨b,0,none⟩)] A (fun v A1 => v = .bool (inB n x) ∧ A1 = A) := by
  refine zAF hc Try.func105 rfl (Nat.le_of_ble_eq_true rfl) ?_
  rw [s_in2]
  (repeat (first | refine Rn.seq hc ?_ | refine Rn.skip hc ?_ | refine Rn.block hc ?_ | refine Rn.inBlock hc ?_ | refine Rn.scope hc ?_ | refine Rn.inScope hc ?_))
  refine Rn.reg hc rfl ?_
  simp only [zAS,gd,zAX,rops,fx,zOi,zEl,show Try.f105.ntmps = 11 from rfl]
  (repeat (first | refine Rn.seq hc ?_ | refine Rn.skip hc ?_ | refine Rn.block hc ?_ | refine Rn.inBlock hc ?_ | refine Rn.scope hc ?_ | refine Rn.inScope hc ?_))
  cases h1 : decide (0 ≤ x) with
  | true =>
    refine Rn.reg hc rfl ?_
    simp only [zAY,zAS,zAU,zAT,sp_n,Nat.reduceLT,ne_eq,Nat.reduceEqDiff,zNf,gd,nth,zAX,zAP,beqB,rops,fx,ld,pck,zAN,bin_geq,zAR,zOi,zEl,tk3,h1,hb]
    (repeat (first | refine Rn.seq hc ?_ | refine Rn.skip hc ?_ | refine Rn.block hc ?_ | refine Rn.inBlock hc ?_ | refine Rn.scope hc ?_ | refine Rn.inScope hc ?_))
    refine Rn.ret (zAO rfl ⟨?_,rfl⟩)
    simp only [zAU,sp_n,Nat.reduceLT]
    simp [inB,h1]
  | false =>
    refine Rn.reg hc rfl ?_
    simp only [zAY,zAS,zAU,zAT,sp_n,Nat.reduceLT,ne_eq,Nat.reduceEqDiff,zNf,gd,nth,zAX,zAP,beqB,rops,fx,pck,bin_geq,zOi,zEl,h1]
    (repeat (first | refine Rn.seq hc ?_ | refine Rn.skip hc ?_ | refine Rn.block hc ?_ | refine Rn.inBlock hc ?_ | refine Rn.scope hc ?_ | refine Rn.inScope hc ?_))
    refine Rn.ret (zAO rfl ⟨?_,rfl⟩)
    simp only [zAU,sp_n,Nat.reduceLT]
    simp [inB,h1]
end Go.Proofs.Ytdaljohmfnfgiaa
namespace Go.Proofs.Ytdaljohmfnfgiaa
open Go Go.RowKit Go.Proofs.Ytdaljohmfnfgiaa.Canon
structure Per (s : Nat → Int) (N d : Nat) : Prop where
  pos : 0 < d
  per : ∀ n,N ≤ n → s (n + d) = s n
theorem Per.mono {s : Nat → Int} {N M d : Nat} (h : Per s N d) (hm : N ≤ M) : Per s M d := ⟨h.pos,fun n hn => h.per n (by omega)⟩
theorem Per.times {s : Nat → Int} {N d : Nat} (h : Per s N d) (k : Nat) : ∀ n,N ≤ n → s (n + k * d) = s n := by
  induction k with
  | zero => intro n _; simp
  | succ k ih =>
    intro n hn
    rw [Nat.succ_mul,← Nat.add_assoc,h.per _ (by omega),ih n hn]
theorem Per.mul {s : Nat → Int} {N d k : Nat} (h : Per s N d) (hk : 0 < k) : Per s N (k * d) := ⟨Nat.mul_pos hk h.pos,h.times k⟩
theorem Per.mod {s : Nat → Int} {N d e : Nat} (h : Per s N d) (k : Per s N e) (hp : 0 < d % e) : Per s N (d % e) :=
  ⟨hp,fun n hn => by
    rw [← k.times (d / e) (n + d % e) (by omega),show n + d % e + d / e * e = n + d by have := Nat.div_add_mod d e; have := Nat.mul_comm (d / e) e; omega,h.per n hn]⟩
theorem Per.gcd {s : Nat → Int} {N : Nat} : ∀ {d e : Nat},Per s N d → Per s N e → Per s N (Nat.gcd d e) := by
  intro d
  induction d using Nat.strongRecOn with
  | ind d ih =>
    intro e h k
    rw [Nat.gcd_rec]
    by_cases h0 : e % d = 0
    · rw [h0,Nat.gcd_zero_left]; exact h
    · exact ih _ (Nat.mod_lt _ h.pos) (k.mod h (by omega)) h
theorem Per.down {s : Nat → Int} {N M p d : Nat} (h : Per s N p) (k : Per s M d) : Per s N d :=
  ⟨k.pos,fun n hn => by
    have hM : M ≤ M * p := Nat.le_mul_of_pos_right _ h.pos
    rw [← h.times M (n + d) (by omega),show n + d + M * p = n + M * p + d by omega,k.per _ (by omega),h.times M n hn]⟩
theorem Per.same {s : Nat → Int} {N p x y : Nat} (h : Per s N p) (hx : N ≤ x) (hy : N ≤ y) (he : x % p = y % p) : s x = s y := by
  have key : ∀ {x y : Nat},x ≤ y → N ≤ x → x % p = y % p → s x = s y := by
    intro x y hxy hx he
    have h1 := Nat.div_add_mod x p
    have h2 := Nat.div_add_mod y p
    have h3 : x / p ≤ y / p := Nat.div_le_div_right hxy
    obtain ⟨k,hk⟩ : ∃ k,y / p = x / p + k := ⟨y / p - x / p,by omega⟩
    have : y = x + k * p := by
      rw [hk,Nat.mul_add] at h2
      have := Nat.mul_comm p k
      omega
    rw [this,h.times k x hx]
  rcases Nat.le_total x y with hxy | hxy
  · exact key hxy hx he
  · exact (key hxy hy he.symm).symm
structure Red (s : Nat → Int) (a p : Nat) : Prop where
  per : Per s a p
  minP : ∀ N d,Per s N d → p ≤ d
  minA : ∀ N,Per s N p → a ≤ N
theorem Red.uniq {s : Nat → Int} {a p a' p' : Nat} (h : Red s a p) (k : Red s a' p') : a = a' ∧ p = p' := by
  have hp : p = p' := Nat.le_antisymm (h.minP _ _ k.per) (k.minP _ _ h.per)
  subst hp
  exact ⟨Nat.le_antisymm (h.minA _ k.per) (k.minA _ h.per),rfl⟩
def redS (s : Nat → Int) (a : Nat) : List Int := (List.range a).map s
def redR (s : Nat → Int) (a p : Nat) : List Int := (List.range p).map fun i => s (a + i)
theorem zAL (s : Nat → Int) (a : Nat) : (redS s a).length = a := by simp [redS]
theorem zAG (s : Nat → Int) (a p : Nat) : (redR s a p).length = p := by simp [redR]
theorem zCD {s : Nat → Int} {a i : Nat} (h : i < a) : (redS s a).getD i 0 = s i := by simp [redS,List.getD_eq_getElem?_getD,h]
theorem redR_get {s : Nat → Int} {a p i : Nat} (h : i < p) : (redR s a p).getD i 0 = s (a + i) := by simp [redR,List.getD_eq_getElem?_getD,h]
theorem atL_red {s : Nat → Int} {a p : Nat} (h : Per s a p) (n : Nat) : atL (redS s a) (redR s a p) n = s n := by
  unfold atL
  rw [zAL,zAG]
  split
  · rename_i hn
    exact zCD hn
  · rename_i hn
    rw [redR_get (Nat.mod_lt _ h.pos)]
    refine h.same (by omega) (by omega) ?_
    rw [Nat.add_mod_mod]
    congr 1
    omega
theorem zCC {s : Nat → Int} {a p : Nat} (h : Per s a p) : atL (redS s a) (redR s a p) = s := funext (atL_red h)
def perOK (ro : List Int) (d : Nat) : Bool := decide (ro.length % d = 0) && (List.range ro.length).all fun i => decide (i < d) || decide (ro.getD i 0 = ro.getD (i - d) 0)
theorem zCL {ro : List Int} {d : Nat} : perOK ro d = true ↔ ro.length % d = 0 ∧ ∀ i,d ≤ i → i < ro.length → ro.getD i 0 = ro.getD (i - d) 0 := by
  unfold perOK
  simp only [Bool.and_eq_true,decide_eq_true_eq,List.all_eq_true,List.mem_range,Bool.or_eq_true]
  constructor
  · rintro ⟨h1,h2⟩
    refine ⟨h1,fun i hd hi => ?_⟩
    rcases h2 i hi with h | h
    · omega
    · exact h
  · rintro ⟨h1,h2⟩
    refine ⟨h1,fun i hi => ?_⟩
    by_cases hd : i < d
    · exact .inl hd
    · exact .inr (h2 i (by omega) hi)
theorem atL_ro {st ro : List Int} {i : Nat} (h : i < ro.length) : atL st ro (st.length + i) = ro.getD i 0 := by
  unfold atL
  rw [if_neg (by omega),Nat.add_sub_cancel_left,Nat.mod_eq_of_lt h]
theorem atL_st {st ro : List Int} {i : Nat} (h : i < st.length) : atL st ro i = st.getD i 0 := by
  unfold atL
  rw [if_pos h]
theorem atL_per {st ro : List Int} (h : 0 < ro.length) : Per (atL st ro) st.length ro.length := ⟨h,fun n hn => by
  unfold atL
  rw [if_neg (by omega),if_neg (by omega),show n + ro.length - st.length = n - st.length + ro.length by omega,Nat.add_mod_right]⟩
theorem perOK_mod {ro : List Int} {d : Nat} (hd : 0 < d) (h : perOK ro d = true) : ∀ x,x < ro.length → ro.getD x 0 = ro.getD (x % d) 0 := by
  obtain ⟨_,h2⟩ := zCL.1 h
  intro x
  induction x using Nat.strongRecOn with
  | ind x ih =>
    intro hx
    by_cases hlt : x < d
    · rw [Nat.mod_eq_of_lt hlt]
    · rw [h2 x (by omega) hx,ih (x - d) (by omega) (by omega),← Nat.mod_eq_sub_mod (by omega)]
theorem perOK_per {st ro : List Int} {d : Nat} (hl : 0 < ro.length) (hd : 0 < d) (h : perOK ro d = true) : Per (atL st ro) st.length d := ⟨hd,fun n hn => by
  have hdv : d ∣ ro.length := Nat.dvd_of_mod_eq_zero (zCL.1 h).1
  have key : ∀ m,ro.getD (m % ro.length) 0 = ro.getD (m % d) 0 := fun m => by
    rw [perOK_mod hd h _ (Nat.mod_lt _ hl),Nat.mod_mod_of_dvd _ hdv]
  unfold atL
  rw [if_neg (by omega),if_neg (by omega),key,key,show n + d - st.length = n - st.length + d by omega,Nat.add_mod_right]⟩
theorem per_perOK {st ro : List Int} {N d : Nat} (hl : 0 < ro.length) (hd : ro.length % d = 0) (h : Per (atL st ro) N d) : perOK ro d = true := by
  have k := (atL_per (st := st) hl).down h
  refine zCL.2 ⟨hd,fun i hi hlt => ?_⟩
  have := k.per (st.length + (i - d)) (by omega)
  rw [show st.length + (i - d) + d = st.length + i by omega,atL_ro hlt,atL_ro (by omega)] at this
  exact this
theorem min_per {st ro : List Int} {d : Nat} (hl : 0 < ro.length) (hmin : ∀ e,0 < e → e < d → perOK ro e = false) {N e : Nat} (h : Per (atL st ro) N e) : d ≤ e := by
  have k := (atL_per (st := st) hl).down h
  have g := (k.gcd (atL_per (st := st) hl))
  have ho := per_perOK (d := Nat.gcd e ro.length) hl (Nat.mod_eq_zero_of_dvd (Nat.gcd_dvd_right _ _)) g
  have hle : Nat.gcd e ro.length ≤ e := Nat.le_of_dvd k.pos (Nat.gcd_dvd_left _ _)
  refine Nat.le_trans (Nat.le_of_not_lt fun hlt => ?_) hle
  rw [hmin _ g.pos hlt] at ho
  cases ho
theorem perOK_self (ro : List Int) : perOK ro ro.length = true := zCL.2 ⟨Nat.mod_self _,fun i h1 h2 => by omega⟩
theorem perOK_le {ro : List Int} {d : Nat} (hl : 0 < ro.length) (h : perOK ro d = true) : d ≤ ro.length := Nat.le_of_dvd hl (Nat.dvd_of_mod_eq_zero (zCL.1 h).1)
theorem Per.back {s : Nat → Int} {e p : Nat} (h : Per s (e + 1) p) (hs : s e = s (e + p)) : Per s e p := ⟨h.pos,fun n hn => by
  by_cases hne : n = e
  · subst hne; exact hs.symm
  · exact h.per n (by omega)⟩
theorem red_of {s : Nat → Int} {a p : Nat} (h : Per s a p) (hp : ∀ N d,Per s N d → p ≤ d) (ha : 0 < a → s (a - 1) ≠ s (a - 1 + p)) : Red s a p :=
  ⟨h,hp,fun N hN => Nat.le_of_not_lt fun hlt => ha (by omega) ((hN.per (a - 1) (by omega)).symm)⟩
end Go.Proofs.Ytdaljohmfnfgiaa
namespace Go.Proofs.Ytdaljohmfnfgiaa
open Go Go.RowKit Go.Proofs.Ytdaljohmfnfgiaa.Canon
set_option maxRecDepth 20000
theorem all_take {α : Type} (p : α → Bool) (l : List α) (d : α) {i : Nat} (h : i < l.length) : (l.take (i + 1)).all p = ((l.take i).all p && p (l.getD i d)) := by
  rw [List.take_add_one,List.all_append]
  simp [List.getD_eq_getElem?_getD,h]
theorem all_not {α : Type} (p : α → Bool) (l : List α) (d : α) {i : Nat} (h : i < l.length) (hp : p (l.getD i d) = false) : l.all p = false := by
  rw [List.all_eq_false]
  refine ⟨l[i],List.getElem_mem h,?_⟩
  rw [List.getD_eq_getElem?_getD,List.getElem?_eq_getElem h] at hp
  simp at hp
  simp [hp]
theorem every_int {A : AHeap} {a : Option Addr} {c : Nat} {l : List Int} (hl : Ints A a 0 A.next l) (hlen : l.length < 4611686018427387904) {b : Nat} {n : Int} (hb : cl A b 0 = some (.int .i64 n)) :
    Con Try.prog 76 [.slice a l.length c,.func (.func 105) #[] #[.pointer (some ⟨b,0,none⟩)]] A (fun v A1 => v = .bool (l.all (inB n)) ∧ A1 = A) := by
  refine zAF hc Try.func76 rfl (Nat.le_of_ble_eq_true rfl) ?_
  rw [s_in2]
  (repeat (first | refine Rn.seq hc ?_ | refine Rn.skip hc ?_ | refine Rn.block hc ?_ | refine Rn.inBlock hc ?_ | refine Rn.scope hc ?_ | refine Rn.inScope hc ?_))
  refine Rn.reg hc rfl ?_
  simp only [zAS,gd,zAX,rops,fx,zOi,zEl,show Try.f76.ntmps = 18 from rfl]
  (repeat (first | refine Rn.seq hc ?_ | refine Rn.skip hc ?_ | refine Rn.block hc ?_ | refine Rn.inBlock hc ?_ | refine Rn.scope hc ?_ | refine Rn.inScope hc ?_))
  refine Rn.reg hc rfl ?_
  simp only [zAY,zAS,zAU,zAT,sp_n,Nat.reduceLT,ne_eq,Nat.reduceEqDiff,zNf,gd,zAX,rops,fx,lng,zOi,zEl,un22]
  (repeat (first | refine Rn.seq hc ?_ | refine Rn.skip hc ?_ | refine Rn.block hc ?_ | refine Rn.inBlock hc ?_ | refine Rn.scope hc ?_ | refine Rn.inScope hc ?_))
  refine Rn.zDY hc (I := fun k s A' => ∃ i,i ≤ l.length ∧ k = l.length - i ∧ A' = A ∧ s.n = 18 ∧ sget s 1 = .func (.func 105) #[] #[.pointer (some ⟨b,0,none⟩)] ∧ sget s 7 = .slice a l.length c ∧ sget s 8 = .int .i64 (l.length : Int) ∧ sget s 9 = .int .i64 (i : Int) ∧ (l.take i).all (inB n) = true)
    (n := l.length) ⟨0,by omega,rfl,rfl,by simp only [sp_n],by simp only [zAU,zAT,sp_n,Nat.reduceLT,ne_eq,Nat.reduceEqDiff,zNf],by simp only [zAU,zAT,sp_n,Nat.reduceLT,ne_eq,Nat.reduceEqDiff,zNf],by simp only [zAU,zAT,sp_n,Nat.reduceLT,ne_eq,Nat.reduceEqDiff,zNf],by simp only [zAU,sp_n,Nat.reduceLT]; rfl,rfl⟩ ?_
  rintro k s A' ⟨i,hi,rfl,rfl,hn,h1,h7,h8,h9,hall⟩ ih
  (repeat (first | refine Rn.seq hc ?_ | refine Rn.skip hc ?_ | refine Rn.block hc ?_ | refine Rn.inBlock hc ?_ | refine Rn.scope hc ?_ | refine Rn.inScope hc ?_))
  by_cases hlt : i < l.length
  · have hd : decide ((i : Int) < (l.length : Int)) = true := by simp; omega
    obtain ⟨bb,o,rfl,_,_,hcl⟩ := hl i hlt
    refine Rn.reg hc rfl ?_
    simp only [zAY,gd,zAX,rops,fx,zAN,zOi,zEl,h8,h9,hd]
    (repeat (first | refine Rn.seq hc ?_ | refine Rn.skip hc ?_ | refine Rn.block hc ?_ | refine Rn.inBlock hc ?_ | refine Rn.scope hc ?_ | refine Rn.inScope hc ?_))
    refine Rn.zAM hc rfl ?_
    simp only [zAY,zAU,Nat.reduceLT,Value.bool.injEq,zEl,hn]
    (repeat (first | refine Rn.seq hc ?_ | refine Rn.skip hc ?_ | refine Rn.block hc ?_ | refine Rn.inBlock hc ?_ | refine Rn.scope hc ?_ | refine Rn.inScope hc ?_))
    refine Rn.reg hc rfl ?_
    simp only [zAY,zAU,zAT,sp_n,Nat.reduceLT,ne_eq,Nat.reduceEqDiff,zNf,gd,zAX,rops,fx,ld,idx,zAR,zOi,zEl,Nat.mul_one,tk3,eo22,hn,h7,h9,zAQ hlt,hcl]
    (repeat (first | refine Rn.seq hc ?_ | refine Rn.skip hc ?_ | refine Rn.block hc ?_ | refine Rn.inBlock hc ?_ | refine Rn.scope hc ?_ | refine Rn.inScope hc ?_))
    refine Rn.region hc fun K hK => ?_
    refine Wo.run hc 2 rfl rfl rfl ?_
    simp (maxSteps := 2000000) only [List.drop_zero,List.take_succ_cons,List.take_zero,zAY,zAU,zAT,sp_n,Nat.reduceLT,ne_eq,Nat.reduceEqDiff,not_false_eq_true,gd,zAX,rops,fx,Nat.zero_add,Option.some.injEq,exists_eq_left',hn,h1]
    refine Wo.call hc (by rfl) (by rfl) ⟨by rfl,by rfl⟩ (xs := [.int .i64 (l.getD i 0),.pointer (some ⟨b,0,none⟩)]) (by rfl) (by first | rfl | (simp only [zAY,zAU,zAT,sp_n,Nat.reduceLT,ne_eq,Nat.reduceEqDiff,zNf,hn]; done) | (simp only [zAY,zAU,zAT,sp_n,Nat.reduceLT,ne_eq,Nat.reduceEqDiff,zNf,hn]; rfl)) (by simp only [zAY,zAU,sp_n,Nat.reduceLT,List.map_cons,List.map_nil,List.nil_append,List.cons_append,hn]) (Con.mono (within1 hb _) ?_)
    rintro v A1 ⟨rfl,rfl⟩
    refine Wo.run hc 1 rfl rfl rfl ?_
    simp (maxSteps := 2000000) only [List.drop_zero,List.drop_succ_cons,List.take_succ_cons,List.take_zero,zAY,zAU,sp_n,Nat.reduceLT,gd,zAX,rops,fx,Option.some.injEq,exists_eq_left',Nat.reduceAdd,ae_not',hn]
    refine Wo.done hc rfl (hK _ _ ?_)
    (repeat (first | refine Rn.seq hc ?_ | refine Rn.skip hc ?_ | refine Rn.block hc ?_ | refine Rn.inBlock hc ?_ | refine Rn.scope hc ?_ | refine Rn.inScope hc ?_))
    cases hv : inB n (l.getD i 0) with
    | true =>
      refine Rn.zAM hc rfl ?_
      simp only [zAY,zAU,sp_n,Nat.reduceLT,Value.bool.injEq,zEl,hn,Bool.not_true]
      (repeat (first | refine Rn.seq hc ?_ | refine Rn.skip hc ?_ | refine Rn.block hc ?_ | refine Rn.inBlock hc ?_ | refine Rn.scope hc ?_ | refine Rn.inScope hc ?_))
      refine Rn.reg hc rfl ?_
      simp only [zAY,zAS,zAU,zAT,sp_n,Nat.reduceLT,ne_eq,Nat.reduceEqDiff,zNf,gd,zAX,rops,fx,zAH,zOi,zEl,hn,h9,zBZ (show i < 9223372036854775807 by omega)]
      (repeat (first | refine Rn.seq hc ?_ | refine Rn.skip hc ?_ | refine Rn.block hc ?_ | refine Rn.inBlock hc ?_ | refine Rn.scope hc ?_ | refine Rn.inScope hc ?_))
      exact ih _ _ _ (by omega) ⟨i + 1,by omega,rfl,rfl,by simp only [sp_n,hn],by simp only [zAT,ne_eq,Nat.reduceEqDiff,zNf,h1],by simp only [zAT,ne_eq,Nat.reduceEqDiff,zNf,h7],by simp only [zAT,ne_eq,Nat.reduceEqDiff,zNf,h8],by simp only [zAU,sp_n,Nat.reduceLT,hn],by rw [all_take _ _ 0 hlt,hall,hv]; rfl⟩
    | false =>
      refine Rn.zAM hc rfl ?_
      simp only [zAY,zAU,sp_n,Nat.reduceLT,Value.bool.injEq,zEl,hn,Bool.not_false]
      (repeat (first | refine Rn.seq hc ?_ | refine Rn.skip hc ?_ | refine Rn.block hc ?_ | refine Rn.inBlock hc ?_ | refine Rn.scope hc ?_ | refine Rn.inScope hc ?_))
      refine Rn.reg hc rfl ?_
      simp only [zAS,gd,zAX,rops,fx,zOi,zEl]
      (repeat (first | refine Rn.seq hc ?_ | refine Rn.skip hc ?_ | refine Rn.block hc ?_ | refine Rn.inBlock hc ?_ | refine Rn.scope hc ?_ | refine Rn.inScope hc ?_))
      refine Rn.ret (zAO rfl ⟨?_,rfl⟩)
      simp only [zAU,sp_n,Nat.reduceLT,hn]
      rw [all_not _ _ 0 hlt hv]
  · have hd : decide ((i : Int) < (l.length : Int)) = false := by simp; omega
    have hil : i = l.length := by omega
    subst hil
    refine Rn.reg hc rfl ?_
    simp only [zAY,gd,zAX,rops,fx,zAN,zOi,zEl,h8,h9,hd]
    (repeat (first | refine Rn.seq hc ?_ | refine Rn.skip hc ?_ | refine Rn.block hc ?_ | refine Rn.inBlock hc ?_ | refine Rn.scope hc ?_ | refine Rn.inScope hc ?_))
    refine Rn.zAM hc rfl ?_
    simp only [zAY,zAU,Nat.reduceLT,Value.bool.injEq,zEl,hn]
    (repeat (first | refine Rn.seq hc ?_ | refine Rn.skip hc ?_ | refine Rn.block hc ?_ | refine Rn.inBlock hc ?_ | refine Rn.scope hc ?_ | refine Rn.inScope hc ?_))
    refine Rn.exit hc rfl ?_
    (repeat (first | refine Rn.seq hc ?_ | refine Rn.skip hc ?_ | refine Rn.block hc ?_ | refine Rn.inBlock hc ?_ | refine Rn.scope hc ?_ | refine Rn.inScope hc ?_))
    refine Rn.reg hc rfl ?_
    simp only [zAS,gd,zAX,rops,fx,zOi,zEl]
    (repeat (first | refine Rn.seq hc ?_ | refine Rn.skip hc ?_ | refine Rn.block hc ?_ | refine Rn.inBlock hc ?_ | refine Rn.scope hc ?_ | refine Rn.inScope hc ?_))
    refine Rn.ret (zAO rfl ⟨?_,rfl⟩)
    simp only [zAU,sp_n,Nat.reduceLT,hn]
    rw [List.take_length] at hall
    rw [hall]
end Go.Proofs.Ytdaljohmfnfgiaa
namespace Go.Proofs.Ytdaljohmfnfgiaa
open Go Go.RowKit Go.Proofs.Ytdaljohmfnfgiaa.Canon
set_option maxRecDepth 20000
theorem take_eq_succ {l m : List Int} {i : Nat} (h : l.take i = m.take i) (h1 : i < l.length) (h2 : i < m.length) (he : l.getD i 0 = m.getD i 0) : l.take (i + 1) = m.take (i + 1) := by
  rw [List.take_add_one,List.take_add_one,h]
  rw [List.getD_eq_getElem?_getD,List.getD_eq_getElem?_getD,List.getElem?_eq_getElem h1,List.getElem?_eq_getElem h2] at he
  rw [List.getElem?_eq_getElem h1,List.getElem?_eq_getElem h2]
  simp at he
  rw [he]
theorem equal_ints {A : AHeap} (hw : WF A) {a b : Option Addr} {c d : Nat} {l m : List Int} (hl : Ints A a 0 A.next l) (hm : Ints A b 0 A.next m) (hlen : l.length < 4611686018427387904) (hlen2 : m.length < 4611686018427387904) :
    Con Try.prog 80 [.slice a l.length c,.slice b m.length d] A (fun v A1 => v = .bool (decide (l = m)) ∧ Nx A.next A A1) := by
  refine zAF hc Try.func80 rfl (Nat.le_of_ble_eq_true rfl) ?_
  rw [s_in2]
  (repeat (first | refine Rn.seq hc ?_ | refine Rn.skip hc ?_ | refine Rn.block hc ?_ | refine Rn.inBlock hc ?_ | refine Rn.scope hc ?_ | refine Rn.inScope hc ?_))
  refine Rn.reg hc rfl ?_
  simp only [zAS,gd,zAX,rops,fx,zOi,zEl,show Try.f80.ntmps = 26 from rfl]
  (repeat (first | refine Rn.seq hc ?_ | refine Rn.skip hc ?_ | refine Rn.block hc ?_ | refine Rn.inBlock hc ?_ | refine Rn.scope hc ?_ | refine Rn.inScope hc ?_))
  refine Rn.reg hc rfl ?_
  simp only [zAY,zAU,zAT,sp_n,Nat.reduceLT,ne_eq,Nat.reduceEqDiff,zNf,gd,zAX,rops,fx,lng,zBX,zOi,zEl,un22]
  (repeat (first | refine Rn.seq hc ?_ | refine Rn.skip hc ?_ | refine Rn.block hc ?_ | refine Rn.inBlock hc ?_ | refine Rn.scope hc ?_ | refine Rn.inScope hc ?_))
  by_cases hne : l.length = m.length
  · have hd : (!decide ((l.length : Int) = (m.length : Int))) = false := by simp; omega
    refine Rn.zAM hc rfl ?_
    simp only [zAY,zAU,sp_n,Nat.reduceLT,Value.bool.injEq,zEl,hd]
    (repeat (first | refine Rn.seq hc ?_ | refine Rn.skip hc ?_ | refine Rn.block hc ?_ | refine Rn.inBlock hc ?_ | refine Rn.scope hc ?_ | refine Rn.inScope hc ?_))
    refine Rn.reg hc rfl ?_
    simp only [zAY,zAS,zAU,zAT,sp_n,Nat.reduceLT,ne_eq,Nat.reduceEqDiff,zNf,gd,zAX,rops,fx,lng,zOi,zEl,un22]
    (repeat (first | refine Rn.seq hc ?_ | refine Rn.skip hc ?_ | refine Rn.block hc ?_ | refine Rn.inBlock hc ?_ | refine Rn.scope hc ?_ | refine Rn.inScope hc ?_))
    refine Rn.zDY hc (I := fun k s A' => ∃ i,i ≤ l.length ∧ k = l.length - i ∧ Nx A.next A A' ∧ s.n = 26 ∧ sget s 0 = .slice a l.length c ∧ sget s 1 = .slice b m.length d ∧ sget s 12 = .int .i64 (l.length : Int) ∧ sget s 13 = .int .i64 (i : Int) ∧ l.take i = m.take i)
      (n := l.length) ⟨0,by omega,rfl,Nx.refl hw _,by simp only [sp_n],by simp only [zAU,zAT,Nat.reduceLT,ne_eq,Nat.reduceEqDiff,zNf],by simp only [zAU,zAT,sp_n,Nat.reduceLT,ne_eq,Nat.reduceEqDiff,zNf],by simp only [zAU,zAT,sp_n,Nat.reduceLT,ne_eq,Nat.reduceEqDiff,zNf],by simp only [zAU,sp_n,Nat.reduceLT]; rfl,rfl⟩ ?_
    rintro k s A' ⟨i,hi,rfl,hA,hn,h0,h1,h12,h13,hall⟩ ih
    (repeat (first | refine Rn.seq hc ?_ | refine Rn.skip hc ?_ | refine Rn.block hc ?_ | refine Rn.inBlock hc ?_ | refine Rn.scope hc ?_ | refine Rn.inScope hc ?_))
    by_cases hlt : i < l.length
    · have hd2 : decide ((i : Int) < (l.length : Int)) = true := by simp; omega
      obtain ⟨bb,o,rfl,_,hbb,hcl⟩ := (hl.nx hA (Nat.le_refl _)) i hlt
      obtain ⟨b2,o2,rfl,_,hb2,hcl2⟩ := (hm.nx hA (Nat.le_refl _)) i (by omega)
      refine Rn.reg hc rfl ?_
      simp only [zAY,gd,zAX,rops,fx,zAN,zOi,zEl,h12,h13,hd2]
      (repeat (first | refine Rn.seq hc ?_ | refine Rn.skip hc ?_ | refine Rn.block hc ?_ | refine Rn.inBlock hc ?_ | refine Rn.scope hc ?_ | refine Rn.inScope hc ?_))
      refine Rn.zAM hc rfl ?_
      simp only [zAY,zAU,Nat.reduceLT,Value.bool.injEq,zEl,hn]
      (repeat (first | refine Rn.seq hc ?_ | refine Rn.skip hc ?_ | refine Rn.block hc ?_ | refine Rn.inBlock hc ?_ | refine Rn.scope hc ?_ | refine Rn.inScope hc ?_))
      refine Rn.reg hc rfl ?_
      simp only [zAY,zAU,zAT,sp_n,Nat.reduceLT,ne_eq,Nat.reduceEqDiff,zNf,gd,zAX,rops,fx,zOi,zEl,hn,h13]
      (repeat (first | refine Rn.seq hc ?_ | refine Rn.skip hc ?_ | refine Rn.block hc ?_ | refine Rn.inBlock hc ?_ | refine Rn.scope hc ?_ | refine Rn.inScope hc ?_))
      by_cases hv : l.getD i 0 = m.getD i 0
      · have hd3 : (!decide (l.getD i 0 = m.getD i 0)) = false := by rw [decide_eq_true hv]; rfl
        refine Rn.zDV hc hx (by kernel_rfl) (by rfl) (by kernel_rfl) ?_ ?_
        · simp only [rdV,VQ.int,VQ.bool,VQ.ptr,VQ.slice,zBT,zAY,zAU,zAT,sp_n,Nat.reduceLT,ne_eq,Nat.reduceEqDiff,zNf,gd,zAX,fx,ld,idx,zBX,zAR,Nat.zero_add,Nat.reduceAdd,Nat.mul_one,and_self,tk3,eo22,hn,h0,h1,zAQ hlt,zAQ (show i < m.length by omega),hcl,hcl2,hd3,List.length_cons,List.length_nil]
        simp only [zBT,zAY,zAU,zAT,sp_n,Nat.reduceLT,ne_eq,Nat.reduceEqDiff,zNf,gd,zAX,rops,fx,ld,idx,zBX,zAR,Nat.zero_add,zOi,zEl,Nat.reduceAdd,Nat.mul_one,tk3,eo22,hn,h0,h1,zAQ hlt,zAQ (show i < m.length by omega),hcl,hcl2,hd3,List.length_cons,List.length_nil]
        (repeat (first | refine Rn.seq hc ?_ | refine Rn.skip hc ?_ | refine Rn.block hc ?_ | refine Rn.inBlock hc ?_ | refine Rn.scope hc ?_ | refine Rn.inScope hc ?_))
        refine Rn.zAM hc rfl ?_
        simp only [zAY,zAU,sp_n,Nat.reduceLT,Value.bool.injEq,zEl,hn]
        (repeat (first | refine Rn.seq hc ?_ | refine Rn.skip hc ?_ | refine Rn.block hc ?_ | refine Rn.inBlock hc ?_ | refine Rn.scope hc ?_ | refine Rn.inScope hc ?_))
        refine Rn.reg hc rfl ?_
        simp only [zAY,zAS,zAU,zAT,sp_n,Nat.reduceLT,ne_eq,Nat.reduceEqDiff,zNf,gd,zAX,rops,fx,zAH,zOi,zEl,hn,h13,zBZ (show i < 9223372036854775807 by omega)]
        (repeat (first | refine Rn.seq hc ?_ | refine Rn.skip hc ?_ | refine Rn.block hc ?_ | refine Rn.inBlock hc ?_ | refine Rn.scope hc ?_ | refine Rn.inScope hc ?_))
        exact ih _ _ _ (by omega) ⟨i + 1,by omega,rfl,Nx.bump hA _,by simp only [sp_n,hn],by simp only [zAT,ne_eq,Nat.reduceEqDiff,zNf,h0],by simp only [zAT,ne_eq,Nat.reduceEqDiff,zNf,h1],by simp only [zAT,ne_eq,Nat.reduceEqDiff,zNf,h12],by simp only [zAU,sp_n,Nat.reduceLT,hn],take_eq_succ hall hlt (by omega) hv⟩
      · have hd3 : (!decide (l.getD i 0 = m.getD i 0)) = true := by rw [decide_eq_false hv]; rfl
        refine Rn.zDV hc hx (by kernel_rfl) (by rfl) (by kernel_rfl) ?_ ?_
        · simp only [rdV,VQ.int,VQ.bool,VQ.ptr,VQ.slice,zBT,zAY,zAU,zAT,sp_n,Nat.reduceLT,ne_eq,Nat.reduceEqDiff,zNf,gd,zAX,fx,ld,idx,zBX,zAR,Nat.zero_add,Nat.reduceAdd,Nat.mul_one,and_self,tk3,eo22,hn,h0,h1,zAQ hlt,zAQ (show i < m.length by omega),hcl,hcl2,hd3,List.length_cons,List.length_nil]
        simp only [zBT,zAY,zAU,zAT,sp_n,Nat.reduceLT,ne_eq,Nat.reduceEqDiff,zNf,gd,zAX,rops,fx,ld,idx,zBX,zAR,Nat.zero_add,zOi,zEl,Nat.reduceAdd,Nat.mul_one,tk3,eo22,hn,h0,h1,zAQ hlt,zAQ (show i < m.length by omega),hcl,hcl2,hd3,List.length_cons,List.length_nil]
        (repeat (first | refine Rn.seq hc ?_ | refine Rn.skip hc ?_ | refine Rn.block hc ?_ | refine Rn.inBlock hc ?_ | refine Rn.scope hc ?_ | refine Rn.inScope hc ?_))
        refine Rn.zAM hc rfl ?_
        simp only [zAY,zAU,sp_n,Nat.reduceLT,Value.bool.injEq,zEl,hn]
        (repeat (first | refine Rn.seq hc ?_ | refine Rn.skip hc ?_ | refine Rn.block hc ?_ | refine Rn.inBlock hc ?_ | refine Rn.scope hc ?_ | refine Rn.inScope hc ?_))
        refine Rn.reg hc rfl ?_
        simp only [zAS,gd,zAX,rops,fx,zOi,zEl]
        (repeat (first | refine Rn.seq hc ?_ | refine Rn.skip hc ?_ | refine Rn.block hc ?_ | refine Rn.inBlock hc ?_ | refine Rn.scope hc ?_ | refine Rn.inScope hc ?_))
        refine Rn.ret (zAO rfl ⟨?_,Nx.bump hA _⟩)
        simp only [zAU,sp_n,Nat.reduceLT,hn]
        have : l ≠ m := fun h => hv (by rw [h])
        simp [this]
    · have hd2 : decide ((i : Int) < (l.length : Int)) = false := by simp; omega
      have hil : i = l.length := by omega
      subst hil
      refine Rn.reg hc rfl ?_
      simp only [zAY,gd,zAX,rops,fx,zAN,zOi,zEl,h12,h13,hd2]
      (repeat (first | refine Rn.seq hc ?_ | refine Rn.skip hc ?_ | refine Rn.block hc ?_ | refine Rn.inBlock hc ?_ | refine Rn.scope hc ?_ | refine Rn.inScope hc ?_))
      refine Rn.zAM hc rfl ?_
      simp only [zAY,zAU,Nat.reduceLT,Value.bool.injEq,zEl,hn]
      (repeat (first | refine Rn.seq hc ?_ | refine Rn.skip hc ?_ | refine Rn.block hc ?_ | refine Rn.inBlock hc ?_ | refine Rn.scope hc ?_ | refine Rn.inScope hc ?_))
      refine Rn.exit hc rfl ?_
      (repeat (first | refine Rn.seq hc ?_ | refine Rn.skip hc ?_ | refine Rn.block hc ?_ | refine Rn.inBlock hc ?_ | refine Rn.scope hc ?_ | refine Rn.inScope hc ?_))
      refine Rn.reg hc rfl ?_
      simp only [zAS,gd,zAX,rops,fx,zOi,zEl]
      (repeat (first | refine Rn.seq hc ?_ | refine Rn.skip hc ?_ | refine Rn.block hc ?_ | refine Rn.inBlock hc ?_ | refine Rn.scope hc ?_ | refine Rn.inScope hc ?_))
      refine Rn.ret (zAO rfl ⟨?_,hA⟩)
      simp only [zAU,sp_n,Nat.reduceLT,hn]
      rw [List.take_length,hne,List.take_length] at hall
      simp [hall]
  · have hd : (!decide ((l.length : Int) = (m.length : Int))) = true := by simp; omega
    refine Rn.zAM hc rfl ?_
    simp only [zAY,zAU,sp_n,Nat.reduceLT,Value.bool.injEq,zEl,hd]
    (repeat (first | refine Rn.seq hc ?_ | refine Rn.skip hc ?_ | refine Rn.block hc ?_ | refine Rn.inBlock hc ?_ | refine Rn.scope hc ?_ | refine Rn.inScope hc ?_))
    refine Rn.reg hc rfl ?_
    simp only [zAS,gd,zAX,rops,fx,zOi,zEl]
    (repeat (first | refine Rn.seq hc ?_ | refine Rn.skip hc ?_ | refine Rn.block hc ?_ | refine Rn.inBlock hc ?_ | refine Rn.scope hc ?_ | refine Rn.inScope hc ?_))
    refine Rn.ret (zAO rfl ⟨?_,Nx.refl hw _⟩)
    simp only [zAU,sp_n,Nat.reduceLT]
    have : l ≠ m := fun h => hne (by rw [h])
    simp [this]
theorem eq_ints {A : AHeap} (hw : WF A) {a b : Option Addr} {c d : Nat} {l m : List Int} (hl : Ints A a 0 A.next l) (hm : Ints A b 0 A.next m) (hlen : l.length < 4611686018427387904) (hlen2 : m.length < 4611686018427387904) :
    Con Try.prog 32 [.slice a l.length c,.slice b m.length d] A (fun v A1 => v = .bool (decide (l = m)) ∧ Nx A.next A A1) := by
  refine zAF hc Try.func32 rfl (Nat.le_of_ble_eq_true rfl) ?_
  rw [s_in2]
  (repeat (first | refine Rn.seq hc ?_ | refine Rn.skip hc ?_ | refine Rn.block hc ?_ | refine Rn.inBlock hc ?_ | refine Rn.scope hc ?_ | refine Rn.inScope hc ?_))
  refine Rn.reg hc rfl ?_
  simp only [zAS,gd,zAX,rops,fx,zOi,zEl,show Try.f32.ntmps = 8 from rfl]
  (repeat (first | refine Rn.seq hc ?_ | refine Rn.skip hc ?_ | refine Rn.block hc ?_ | refine Rn.inBlock hc ?_ | refine Rn.scope hc ?_ | refine Rn.inScope hc ?_))
  refine Rn.region hc fun K hK => ?_
  refine Wo.run hc 2 rfl rfl rfl ?_
  simp (maxSteps := 2000000) only [List.drop_zero,List.take_succ_cons,List.take_zero,zAY,zAU,zAT,sp_n,Nat.reduceLT,ne_eq,Nat.reduceEqDiff,not_false_eq_true,gd,zAX,rops,fx,Nat.zero_add,Option.some.injEq,exists_eq_left']
  refine Wo.call hc (by rfl) (by rfl) ⟨by rfl,by rfl⟩ (xs := [.slice a l.length c,.slice b m.length d]) (by rfl) (by rfl) (by rfl) (Con.mono (equal_ints hw hl hm hlen hlen2) ?_)
  rintro v A1 ⟨rfl,hA⟩
  refine Wo.run hc 1 rfl rfl rfl ?_
  simp (maxSteps := 2000000) only [List.drop_zero,List.drop_succ_cons,List.take_succ_cons,List.take_zero,zAY,zAU,sp_n,Nat.reduceLT,gd,zAX,rops,fx,Option.some.injEq,exists_eq_left',Nat.reduceAdd]
  refine Wo.done hc rfl (hK _ _ ?_)
  (repeat (first | refine Rn.seq hc ?_ | refine Rn.skip hc ?_ | refine Rn.block hc ?_ | refine Rn.inBlock hc ?_ | refine Rn.scope hc ?_ | refine Rn.inScope hc ?_))
  refine Rn.ret (zAO rfl ⟨?_,hA⟩)
  simp only [zAU,sp_n,Nat.reduceLT]
end Go.Proofs.Ytdaljohmfnfgiaa
namespace Go.Proofs.Ytdaljohmfnfgiaa
open Go Go.RowKit Go.Proofs.Ytdaljohmfnfgiaa.Canon
set_option maxRecDepth 20000
theorem same_lasso {A : AHeap} (hw : WF A) {m m' : Int} {sa ra ta qa : Option Addr} {sc rc tc qc : Nat} {st ro tt qq : List Int} (hs : Ints A sa 0 A.next st) (hr : Ints A ra 0 A.next ro) (ht : Ints A ta 0 A.next tt) (hq : Ints A qa 0 A.next qq)
    (ls : st.length < 4611686018427387904) (lr : ro.length < 4611686018427387904) (lt : tt.length < 4611686018427387904) (lq : qq.length < 4611686018427387904) :
    Con Try.prog 26 [.agg #[.int .i64 m,.slice sa st.length sc,.slice ra ro.length rc],.agg #[.int .i64 m',.slice ta tt.length tc,.slice qa qq.length qc]] A
      (fun v A1 => v = .bool (decide (m = m') && (decide (st = tt) && decide (ro = qq))) ∧ Nx A.next A A1) := by
  refine zAF hc Try.func26 rfl (Nat.le_of_ble_eq_true rfl) ?_
  obtain ⟨A1,e1,hx1,hn1,b0,b1,b2⟩ := box3 hw (.int .i64 m) (.slice sa st.length sc) (.slice ra ro.length rc) 24
  obtain ⟨A2,e2,hx2,hn2,c0,c1,c2⟩ := box3 hx1.wf (.int .i64 m') (.slice ta tt.length tc) (.slice qa qq.length qc) 24
  have d0 := (hx2.cl (show A.next < A1.next by omega) 0).trans b0
  have d1 := (hx2.cl (show A.next < A1.next by omega) 1).trans b1
  have d2 := (hx2.cl (show A.next < A1.next by omega) 2).trans b2
  have hx : Nx A.next A A2 := hx1.trans (hx2.le hx1.next)
  rw [s_in2]
  (repeat (first | refine Rn.seq hc ?_ | refine Rn.skip hc ?_ | refine Rn.block hc ?_ | refine Rn.inBlock hc ?_ | refine Rn.scope hc ?_ | refine Rn.inScope hc ?_))
  refine Rn.reg hc rfl ?_
  simp only [zAY,zAS,zAU,zAT,sp_n,Nat.reduceLT,ne_eq,Nat.reduceEqDiff,zNf,gd,zAX,rops,fx,zOi,zEl,Value.cells,show Try.f26.ntmps = 24 from rfl,e1,e2]
  (repeat (first | refine Rn.seq hc ?_ | refine Rn.skip hc ?_ | refine Rn.block hc ?_ | refine Rn.inBlock hc ?_ | refine Rn.scope hc ?_ | refine Rn.inScope hc ?_))
  refine Rn.region hc fun K hK => ?_
  by_cases hm : m = m'
  · have hd : decide (m = m') = true := by simp [hm]
    refine Wo.run hc 10 rfl rfl rfl ?_
    simp (maxSteps := 2000000) only [List.drop_zero,List.take_succ_cons,List.take_zero,zAY,zAU,zAT,sp_n,Nat.reduceLT,ne_eq,Nat.reduceEqDiff,not_false_eq_true,gd,nth,zAX,zAP,beqB,rops,fx,ld,fad,bin_eql,zAR,Nat.zero_add,Nat.add_zero,Option.some.injEq,exists_eq_left',tk3,tk22,zBJ,zBO,hd,c0,c1,d0,d1]
    refine Wo.call hc (by rfl) (by rfl) ⟨by rfl,by rfl⟩ (xs := [.slice sa st.length sc,.slice ta tt.length tc]) (by rfl) (by rfl) (by rfl) (Con.mono (eq_ints hx.wf ((hs.nx hx (Nat.le_refl _)).mono (Nat.le_refl _) hx.next) ((ht.nx hx (Nat.le_refl _)).mono (Nat.le_refl _) hx.next) ls lt) ?_)
    rintro v A3 ⟨rfl,h3⟩
    have d2' := (h3.cl (show A.next < A2.next by omega) 2).trans d2
    have c2' := (h3.cl (show A1.next < A2.next by omega) 2).trans c2
    have hx3 : Nx A.next A A3 := hx.trans (h3.le hx.next)
    by_cases hst : st = tt
    · have hd2 : decide (st = tt) = true := by simp [hst]
      refine Wo.run hc 6 rfl rfl rfl ?_
      simp (maxSteps := 2000000) only [List.drop_zero,List.drop_succ_cons,List.take_succ_cons,List.take_zero,zAY,zAU,zAT,sp_n,Nat.reduceLT,ne_eq,Nat.reduceEqDiff,not_false_eq_true,gd,nth,zAX,zAP,beqB,rops,fx,ld,fad,pck,zAR,Nat.zero_add,Option.some.injEq,exists_eq_left',Nat.reduceAdd,tk22,zBG,hd2,c2',d2']
      refine Wo.call hc (by rfl) (by rfl) ⟨by rfl,by rfl⟩ (xs := [.slice ra ro.length rc,.slice qa qq.length qc]) (by rfl) (by rfl) (by rfl) (Con.mono (eq_ints hx3.wf ((hr.nx hx3 (Nat.le_refl _)).mono (Nat.le_refl _) hx3.next) ((hq.nx hx3 (Nat.le_refl _)).mono (Nat.le_refl _) hx3.next) lr lq) ?_)
      rintro v A4 ⟨rfl,h4⟩
      refine Wo.run hc 2 rfl rfl rfl ?_
      simp (maxSteps := 2000000) only [List.drop_zero,List.drop_succ_cons,List.take_succ_cons,List.take_zero,zAY,zAU,zAT,sp_n,Nat.reduceLT,ne_eq,Nat.reduceEqDiff,not_false_eq_true,gd,zAX,rops,fx,pck,Option.some.injEq,exists_eq_left',Nat.reduceAdd]
      refine Wo.done hc rfl (hK _ _ ?_)
      (repeat (first | refine Rn.seq hc ?_ | refine Rn.skip hc ?_ | refine Rn.block hc ?_ | refine Rn.inBlock hc ?_ | refine Rn.scope hc ?_ | refine Rn.inScope hc ?_))
      refine Rn.ret (zAO rfl ⟨?_,hx3.trans (h4.le hx3.next)⟩)
      simp only [zAU,sp_n,Nat.reduceLT]
      rw [hd,hd2]
      rfl
    · have hd2 : decide (st = tt) = false := by simp [hst]
      refine Wo.run hc 9 rfl rfl rfl ?_
      simp (maxSteps := 2000000) only [List.drop_zero,List.drop_succ_cons,List.take_succ_cons,List.take_zero,zAY,zAS,zAU,zAT,sp_n,Nat.reduceLT,ne_eq,Nat.reduceEqDiff,not_false_eq_true,gd,nth,zAX,zAP,beqB,rops,fx,pck,Option.some.injEq,exists_eq_left',Nat.reduceAdd,hd2]
      refine Wo.done hc rfl (hK _ _ ?_)
      (repeat (first | refine Rn.seq hc ?_ | refine Rn.skip hc ?_ | refine Rn.block hc ?_ | refine Rn.inBlock hc ?_ | refine Rn.scope hc ?_ | refine Rn.inScope hc ?_))
      refine Rn.ret (zAO rfl ⟨?_,hx3⟩)
      simp only [zAU,sp_n,Nat.reduceLT]
      rw [hd,hd2]
      rfl
  · have hd : decide (m = m') = false := by simp [hm]
    refine Wo.run hc 20 rfl rfl rfl ?_
    simp (maxSteps := 2000000) only [List.drop_zero,List.take_succ_cons,List.take_zero,zAY,zAS,zAU,zAT,sp_n,Nat.reduceLT,ne_eq,Nat.reduceEqDiff,not_false_eq_true,gd,nth,zAX,zAP,beqB,rops,fx,ld,fad,pck,bin_eql,zAR,Nat.zero_add,Nat.add_zero,Option.some.injEq,exists_eq_left',tk3,zBJ,hd,c0,d0]
    refine Wo.done hc rfl (hK _ _ ?_)
    (repeat (first | refine Rn.seq hc ?_ | refine Rn.skip hc ?_ | refine Rn.block hc ?_ | refine Rn.inBlock hc ?_ | refine Rn.scope hc ?_ | refine Rn.inScope hc ?_))
    refine Rn.ret (zAO rfl ⟨?_,hx⟩)
    simp only [zAU,sp_n,Nat.reduceLT]
    rw [hd]
    rfl
theorem great_lasso {A : AHeap} (hw : WF A) (m : Int) (sa ra : Option Addr) (sn rn sc rc : Nat) :
    Con Try.prog 15 [.agg #[.int .i64 m,.slice sa sn sc,.slice ra rn rc]] A (fun v A1 => v = .bool (decide ((70 : Int) < sn) || decide ((130 : Int) < rn)) ∧ Nx A.next A A1) := by
  refine zAF hc Try.func15 rfl (Nat.le_of_ble_eq_true rfl) ?_
  obtain ⟨A1,e1,hx1,hn1,b0,b1,b2⟩ := box3 hw (.int .i64 m) (.slice sa sn sc) (.slice ra rn rc) 24
  rw [s_in1]
  (repeat (first | refine Rn.seq hc ?_ | refine Rn.skip hc ?_ | refine Rn.block hc ?_ | refine Rn.inBlock hc ?_ | refine Rn.scope hc ?_ | refine Rn.inScope hc ?_))
  refine Rn.reg hc rfl ?_
  simp only [zAY,zAS,zAU,Nat.reduceLT,gd,zAX,rops,fx,zOi,zEl,Value.cells,show Try.f15.ntmps = 13 from rfl,e1]
  (repeat (first | refine Rn.seq hc ?_ | refine Rn.skip hc ?_ | refine Rn.block hc ?_ | refine Rn.inBlock hc ?_ | refine Rn.scope hc ?_ | refine Rn.inScope hc ?_))
  cases hd : decide ((70 : Int) < sn) with
  | true =>
    refine Rn.reg hc rfl ?_
    simp only [zAY,zAS,zAU,zAT,sp_n,Nat.reduceLT,ne_eq,Nat.reduceEqDiff,zNf,gd,nth,zAX,zAP,beqB,rops,fx,ld,fad,lng,pck,zBS,zAR,Nat.zero_add,zOi,zEl,tk22,zBO,un22,hd,b1]
    (repeat (first | refine Rn.seq hc ?_ | refine Rn.skip hc ?_ | refine Rn.block hc ?_ | refine Rn.inBlock hc ?_ | refine Rn.scope hc ?_ | refine Rn.inScope hc ?_))
    refine Rn.ret (zAO rfl ⟨?_,hx1⟩)
    simp only [zAU,sp_n,Nat.reduceLT]
    rfl
  | false =>
    refine Rn.reg hc rfl ?_
    simp only [zAY,zAS,zAU,zAT,sp_n,Nat.reduceLT,ne_eq,Nat.reduceEqDiff,zNf,gd,nth,zAX,zAP,beqB,rops,fx,ld,fad,lng,pck,zBS,zAR,Nat.zero_add,zOi,zEl,tk22,zBO,zBG,un22,hd,b1,b2]
    (repeat (first | refine Rn.seq hc ?_ | refine Rn.skip hc ?_ | refine Rn.block hc ?_ | refine Rn.inBlock hc ?_ | refine Rn.scope hc ?_ | refine Rn.inScope hc ?_))
    refine Rn.ret (zAO rfl ⟨?_,hx1⟩)
    simp only [zAU,sp_n,Nat.reduceLT]
    rfl
end Go.Proofs.Ytdaljohmfnfgiaa
namespace Go.Proofs.Ytdaljohmfnfgiaa
open Go Go.RowKit Go.Proofs.Ytdaljohmfnfgiaa.Canon
set_option maxRecDepth 20000
theorem bs22_0 {ρ : Operand → Value} {d : Option Tmp} {ty : TypeId} {pos : String} {af : Array Edge} {gu : Option (Nat × Bool)} {A : AHeap} :
    zAE Try.prog ρ ⟨d,.buildSlice 22 0 #[],ty,pos,af,gu⟩ A = some (.slice (some ⟨A.next,0,none⟩) 0 0,A.push (.cells #[] 3)) := zDS (by rfl) so22_0 et22 rfl rfl
theorem Ints.row {A : AHeap} {a : Option Addr} {lo hi : Nat} {l : List Int} (h : Ints A a lo hi l) : Row A a (l.map (Value.int .i64)) := by
  cases hl : l with
  | nil => exact .inl rfl
  | cons x m =>
    rw [← hl]
    obtain ⟨b,o,rfl,_,_,_⟩ := h 0 (by rw [hl]; simp)
    refine .inr ⟨b,o,rfl,fun i hi => ?_⟩
    obtain ⟨b',o',e,_,_,h4⟩ := h i (by simpa using hi)
    cases e
    rw [h4]
    simp at hi
    simp [List.getD_eq_getElem?_getD,hi]
theorem Ints.some {A : AHeap} {lo hi : Nat} {l : List Int} (h : Ints A none lo hi l) : l.length = 0 := by
  cases hl : l with
  | nil => rfl
  | cons x m =>
    obtain ⟨b,o,e,_⟩ := h 0 (by rw [hl]; simp)
    cases e
def Sl (A : AHeap) (a : Option Addr) (lo : Nat) : Prop := ∀ x,a = .some x → x.spot = none ∧ lo ≤ x.block ∧ ∃ y,Canon.look A.objs x.block = .some y ∧ (y.grown = false ∨ (y.grown = true ∧ isRow y.o = true ∧ y.esz = 1))
theorem Sl.mono {A : AHeap} {a : Option Addr} {lo lo' : Nat} (h : Sl A a lo) (hl : lo' ≤ lo) : Sl A a lo' := fun x hx => by
  obtain ⟨h1,h2,h3⟩ := h x hx
  exact ⟨h1,by omega,h3⟩
theorem Sl.ext {A B : AHeap} {a : Option Addr} {lo : Nat} (h : Sl A a lo) (he : ∀ b,lo ≤ b → Canon.look A.objs b = none ∨ Canon.look B.objs b = Canon.look A.objs b) : Sl B a lo := fun x hx => by
  obtain ⟨h1,h2,y,h3,h4⟩ := h x hx
  refine ⟨h1,h2,y,?_,h4⟩
  rcases he _ h2 with h0 | h0
  · rw [h0] at h3; cases h3
  · rw [h0]; exact h3
theorem Sl.nx {A B : AHeap} {a : Option Addr} {lo : Nat} (h : Sl A a lo) (hw : WF A) (hx : Nx A.next A B) : Sl B a lo := h.ext fun b _ => by
  by_cases hb : b < A.next
  · exact .inr (hx.keep b hb)
  · exact .inl (hw.none (by omega))
theorem dup_app {A : AHeap} (hw : WF A) {b n : Nat} (hb : ∃ y,Canon.look A.objs b = .some y ∧ y.grown = false) (hn : n ≤ A.next) (hnb : n ≤ b) {a2 : Option Addr} {c2 : Nat} {l : List Int} (h : Ints A a2 0 A.next l) (hlen : l.length ≤ 1000) :
    ∃ a' c' A1,aapp Try.prog #[22,22] #[.slice (some ⟨b,0,none⟩) 0 0,.slice a2 l.length c2] A = .some (.slice a' l.length c',A1) ∧ l.length ≤ c' ∧ Nx A.next A A1 ∧ Ints A1 a' n A1.next l ∧ Sl A1 a' n := by
  by_cases h0 : l.length = 0
  · refine ⟨some ⟨b,0,none⟩,0,A,?_,by omega,Nx.refl hw _,fun i hi => by omega,fun x hx => by cases hx; obtain ⟨y,h1,h2⟩ := hb; exact ⟨rfl,hnb,y,h1,.inl h2⟩⟩
    rw [h0]
    exact aapp_nil el22 un22 (Nat.le_refl _)
  · obtain ⟨A1,h1,h2⟩ := aapp_new (P := Try.prog) (c := 0) (c2 := c2) (a := some ⟨b,0,none⟩) (n := 0) (l := []) (m := l.length) el22 un22 (.inl rfl) (by simp)
      (fun x hx => by cases hx; obtain ⟨y,h1,h2⟩ := hb; exact ⟨y,h1,.inl h2⟩) (fun h => by cases h) h.row (by simp) (by simp [zBY]) (fun h' => by subst h'; exact absurd h.some h0) (by omega) (by omega) (by omega)
    simp only [Nat.zero_add] at h1
    refine ⟨_,_,A1,h1,Nat.le_refl _,h2.nx hw (Nat.le_refl _) (fun x hx => by cases hx; exact .inr hb),fun i hi => ⟨_,_,rfl,hn,by rw [h2.next]; omega,?_⟩,fun x hx => by cases hx; exact ⟨rfl,hn,_,h2.new,.inr ⟨rfl,rfl,rfl⟩⟩⟩
    rw [h2.cl]
    simp [List.getD_eq_getElem?_getD,hi]
end Go.Proofs.Ytdaljohmfnfgiaa
namespace Go.Proofs.Ytdaljohmfnfgiaa
open Go Go.RowKit Go.Proofs.Ytdaljohmfnfgiaa.Canon
set_option maxRecDepth 20000
section
variable {ρ : Operand → Value} {d : Option Tmp} {ty : TypeId} {pos : String} {af : Array Edge} {gu : Option (Nat × Bool)} {A : AHeap}
theorem fb22_0 : fobj Try.prog ρ ⟨d,.buildSlice 22 0 #[],ty,pos,af,gu⟩ = some ⟨[],3,.sl 0 0⟩ := by
  simp only [fobj,so22_0,et22]
  rfl
theorem bd24 {x y z : Tmp} (hx : zBY (ρ (.tmp x)) = true) (hy : zBY (ρ (.tmp y)) = true) (hz : zBY (ρ (.tmp z)) = true) :
    zAE Try.prog ρ ⟨d,.build 24 #[(0,.tmp x),(1,.tmp y),(2,.tmp z)],ty,pos,af,gu⟩ A = some (.agg #[ρ (.tmp x),ρ (.tmp y),ρ (.tmp z)],A) := by
  refine ae_build (by rfl) bo24 rfl ?_
  simp [fbld,nthR,zBF hx,zBF hy,zBF hz]
end
theorem Ints.ext {A B : AHeap} {a : Option Addr} {lo hi hi' : Nat} {l : List Int} (h : Ints A a lo hi l) (he : ∀ b,lo ≤ b → Canon.look A.objs b = none ∨ Canon.look B.objs b = Canon.look A.objs b) (hh : hi ≤ hi') : Ints B a lo hi' l := fun i hi => by
  obtain ⟨b,o,q1,q2,q3,q4⟩ := h i hi
  refine ⟨b,o,q1,q2,by omega,?_⟩
  rcases he b q2 with h0 | h0
  · rw [cl_none h0] at q4; cases q4
  · rw [zBW h0]; exact q4
def noS : Canon.Spec := fun _ _ _ _ _ => False
theorem own_lasso {A : AHeap} (hw : WF A) {m : Int} {sa ra : Option Addr} {sc rc : Nat} {st ro : List Int} (hs : Ints A sa 0 A.next st) (hr : Ints A ra 0 A.next ro) (ls : st.length ≤ 1000) (lr : ro.length ≤ 1000) :
    Con Try.prog 17 [.agg #[.int .i64 m,.slice sa st.length sc,.slice ra ro.length rc]] A
      (fun v A1 => ∃ sa' sc' ra' rc',v = .agg #[.int .i64 m,.slice sa' st.length sc',.slice ra' ro.length rc'] ∧ st.length ≤ sc' ∧ ro.length ≤ rc' ∧ Nx A.next A A1 ∧ Ints A1 sa' A.next A1.next st ∧ Ints A1 ra' A.next A1.next ro ∧ Sl A1 sa' A.next ∧ Sl A1 ra' A.next) := by
  refine zAF hc Try.func17 rfl (Nat.le_of_ble_eq_true rfl) ?_
  obtain ⟨A1,e1,hx1,hn1,b0,b1,b2⟩ := box3 hw (.int .i64 m) (.slice sa st.length sc) (.slice ra ro.length rc) 24
  obtain ⟨A2,e2,hx2,hn2,_,_,_⟩ := box3 hx1.wf (.int .i64 0) (.slice none 0 0) (.slice none 0 0) 24
  have l2 : Canon.look A2.objs A1.next = some ⟨.cells #[.int .i64 0,.slice none 0 0,.slice none 0 0] 24,false,0⟩ := by rw [← e2]; exact zAI _ _
  have hxx : Nx A.next A A2 := hx1.trans (hx2.le hx1.next)
  rw [s_in1]
  (repeat (first | refine Rn.seq hc ?_ | refine Rn.skip hc ?_ | refine Rn.block hc ?_ | refine Rn.inBlock hc ?_ | refine Rn.scope hc ?_ | refine Rn.inScope hc ?_))
  refine Rn.reg hc rfl ?_
  simp only [zAY,zAU,Nat.reduceLT,gd,zAX,rops,fx,zOi,zEl,Value.cells,show Try.f17.ntmps = 14 from rfl,e1,e2,ze24]
  (repeat (first | refine Rn.seq hc ?_ | refine Rn.skip hc ?_ | refine Rn.block hc ?_ | refine Rn.inBlock hc ?_ | refine Rn.scope hc ?_ | refine Rn.inScope hc ?_))
  have d0 := (hx2.cl (show A.next < A1.next by omega) 0).trans b0
  have d1 := (hx2.cl (show A.next < A1.next by omega) 1).trans b1
  have d2 := (hx2.cl (show A.next < A1.next by omega) 2).trans b2
  have hxB : Nx A2.next A2 (bump A2 12) := Nx.bump (Nx.refl hx2.wf _) 12
  obtain ⟨F,hF0,hF1,hF2,hF⟩ : ∃ F : AHeap → Prop,(∀ M,F M → cl M A.next 0 = some (.int .i64 m)) ∧ (∀ M,F M → cl M A.next 1 = some (.slice sa st.length sc)) ∧ (∀ M,F M → cl M A.next 2 = some (.slice ra ro.length rc)) ∧ (∀ M,cl M A.next 0 = cl A2 A.next 0 → cl M A.next 1 = cl A2 A.next 1 → cl M A.next 2 = cl A2 A.next 2 → F M) :=
    ⟨fun M => cl M A.next 0 = some (.int .i64 m) ∧ cl M A.next 1 = some (.slice sa st.length sc) ∧ cl M A.next 2 = some (.slice ra ro.length rc),fun _ h => h.1,fun _ h => h.2.1,fun _ h => h.2.2,fun M q0 q1 q2 => ⟨q0.trans d0,q1.trans d1,q2.trans d2⟩⟩
  have hFN : ∀ M,Nx A2.next A2 M → F M := fun M h => hF M (h.cl (by omega) 0) (h.cl (by omega) 1) (h.cl (by omega) 2)
  have FB := hFN _ hxB
  refine Rn.drawnF hc hx noS F (n := 5) (k := 12) (by kernel_rfl) (by kernel_rfl) (by rfl) ?_
  refine Dr.read (by first | rfl | kernel_rfl) (by rfl) (by assumption) (fun M hM => by simp only [zAY,zAU,zAT,sp_n,Nat.reduceLT,ne_eq,Nat.reduceEqDiff,zNf,fx,fad,zAR,Nat.add_zero,zBJ] <;> rfl) (by rfl) (by first | exact VQ.int _ _ | exact VQ.bool _ | exact VQ.ptr _ _ | exact VQ.slice _ _ _ | exact VQ.func (by simp [zAW,zAV,zAZ]) (by simp [zAW,zAV,zAZ]) | exact VQ.agg (by simp [zAW,zAV,zAZ]) | exact VQ.tuple (by simp [zAW,zAV,zAZ])) ?_
  refine Dr.read (by first | rfl | kernel_rfl) (by rfl) (by assumption) (fun M hM => by simp only [zAY,zAU,sp_n,Nat.reduceLT,fx,ld,zAR,tk3,hF0 M hM] <;> rfl) (by rfl) (by first | exact VQ.int _ _ | exact VQ.bool _ | exact VQ.ptr _ _ | exact VQ.slice _ _ _ | exact VQ.func (by simp [zAW,zAV,zAZ]) (by simp [zAW,zAV,zAZ]) | exact VQ.agg (by simp [zAW,zAV,zAZ]) | exact VQ.tuple (by simp [zAW,zAV,zAZ])) ?_
  refine Dr.float (by rfl) (by rfl) (by rfl) fb22_0 ?_
  refine Dr.read (by first | rfl | kernel_rfl) (by rfl) (by assumption) (fun M hM => by simp only [zAY,zAU,zAT,sp_n,Nat.reduceLT,ne_eq,Nat.reduceEqDiff,zNf,fx,fad,zAR,Nat.zero_add,Nat.reduceAdd,zBO] <;> rfl) (by rfl) (by first | exact VQ.int _ _ | exact VQ.bool _ | exact VQ.ptr _ _ | exact VQ.slice _ _ _ | exact VQ.func (by simp [zAW,zAV,zAZ]) (by simp [zAW,zAV,zAZ]) | exact VQ.agg (by simp [zAW,zAV,zAZ]) | exact VQ.tuple (by simp [zAW,zAV,zAZ])) ?_
  refine Dr.read (by first | rfl | kernel_rfl) (by rfl) (by assumption) (fun M hM => by simp only [zAY,zAU,sp_n,Nat.reduceLT,fx,ld,zAR,Nat.zero_add,Nat.reduceAdd,tk22,hF1 M hM] <;> rfl) (by rfl) (by first | exact VQ.int _ _ | exact VQ.bool _ | exact VQ.ptr _ _ | exact VQ.slice _ _ _ | exact VQ.func (by simp [zAW,zAV,zAZ]) (by simp [zAW,zAV,zAZ]) | exact VQ.agg (by simp [zAW,zAV,zAZ]) | exact VQ.tuple (by simp [zAW,zAV,zAZ])) ?_
  obtain ⟨B',p1,hxB',eB',lB',kB'⟩ := place_row hxB (b := A2.next + 2) (by omega) (by rw [zAD]; omega) (hx2.wf.none (by omega)) [] 3 0 0
  rw [zAD] at eB'
  have hsB : Ints B' sa 0 B'.next st := ((hs.nx hxx (Nat.le_refl _)).nx (hxB'.le hxx.next) (Nat.le_refl _)).mono (Nat.le_refl _) (Nat.le_trans hxx.next hxB'.next)
  obtain ⟨sa',sc',A3,e3,hsc',hx3,hi3,hl3⟩ := dup_app (n := A2.next) (c2 := sc) hxB'.wf ⟨_,lB',rfl⟩ hxB'.next (by omega) hsB ls
  have hxA3 : Nx A2.next A2 A3 := hxB'.trans (hx3.le (by omega))
  refine Dr.eff (by rfl) (by rfl) (pd1 := [(2,⟨[],3,.sl 0 0⟩)]) (pd2 := []) (by kernel_rfl) (by kernel_rfl) (ms0 := [bump A2 12]) (A0 := B') (by simp only [zBU,p1]) (fun M hM => by rw [List.mem_singleton] at hM; rw [hM]; exact FB) (hFN _ hxB') (by rfl)
    (v := .slice sa' st.length sc') (A1 := A3) (zBQ rfl (by simp only [zAY,zAU,zAT,sp_n,Nat.reduceLT,ne_eq,Nat.reduceEqDiff,zNf,Nat.zero_add,Nat.reduceAdd,ae_apd,zCQ,FK.val]; exact e3)) ?_
  have FA3 := hFN _ hxA3
  refine Dr.float (by rfl) (by rfl) (by rfl) fb22_0 ?_
  refine Dr.read (by first | rfl | kernel_rfl) (by rfl) (by assumption) (fun M hM => by simp only [zAY,zAU,zAT,sp_n,Nat.reduceLT,ne_eq,Nat.reduceEqDiff,zNf,fx,fad,zAR,Nat.zero_add,Nat.reduceAdd,zBG] <;> rfl) (by rfl) (by first | exact VQ.int _ _ | exact VQ.bool _ | exact VQ.ptr _ _ | exact VQ.slice _ _ _ | exact VQ.func (by simp [zAW,zAV,zAZ]) (by simp [zAW,zAV,zAZ]) | exact VQ.agg (by simp [zAW,zAV,zAZ]) | exact VQ.tuple (by simp [zAW,zAV,zAZ])) ?_
  refine Dr.read (by first | rfl | kernel_rfl) (by rfl) (by assumption) (fun M hM => by simp only [zAY,zAU,sp_n,Nat.reduceLT,fx,ld,zAR,Nat.zero_add,Nat.reduceAdd,tk22,hF2 M hM] <;> rfl) (by rfl) (by first | exact VQ.int _ _ | exact VQ.bool _ | exact VQ.ptr _ _ | exact VQ.slice _ _ _ | exact VQ.func (by simp [zAW,zAV,zAZ]) (by simp [zAW,zAV,zAZ]) | exact VQ.agg (by simp [zAW,zAV,zAZ]) | exact VQ.tuple (by simp [zAW,zAV,zAZ])) ?_
  have n6 : Canon.look A3.objs (A2.next + 6) = none := by rw [hx3.keep _ (by omega),kB' _ (by omega)]; exact hx2.wf.none (by omega)
  obtain ⟨B4,p4,hxB4,eB4,lB4,kB4⟩ := place_row hxA3 (b := A2.next + 6) (by omega) (by have := hx3.next; omega) n6 [] 3 0 0
  have hrB : Ints B4 ra 0 B4.next ro := ((hr.nx hxx (Nat.le_refl _)).nx (hxB4.le hxx.next) (Nat.le_refl _)).mono (Nat.le_refl _) (Nat.le_trans hxx.next hxB4.next)
  obtain ⟨ra',rc',A5,e5,hrc',hx5,hi5,hl5⟩ := dup_app (n := A2.next) (c2 := rc) hxB4.wf ⟨_,lB4,rfl⟩ hxB4.next (by omega) hrB lr
  have hxA5 : Nx A2.next A2 A5 := hxB4.trans (hx5.le (by have := hx3.next; omega))
  refine Dr.eff (by rfl) (by rfl) (pd1 := [(6,⟨[],3,.sl 0 0⟩)]) (pd2 := []) (by kernel_rfl) (by kernel_rfl) (ms0 := [A3]) (A0 := B4) (by simp only [zBU,p4]) (fun M hM => by rw [List.mem_singleton] at hM; rw [hM]; exact FA3) (hFN _ hxB4) (by rfl)
    (v := .slice ra' ro.length rc') (A1 := A5) (zBQ rfl (by simp only [zAY,zAU,zAT,sp_n,Nat.reduceLT,ne_eq,Nat.reduceEqDiff,zNf,Nat.zero_add,Nat.reduceAdd,ae_apd,zCQ,FK.val]; exact e5)) ?_
  have FA5 := hFN _ hxA5
  refine Dr.read (by rfl) (by rfl) (by assumption) (v := .agg #[.int .i64 m,.slice sa' st.length sc',.slice ra' ro.length rc']) (fun M hM => by simp only [zAY,zAU,zAT,sp_n,Nat.reduceLT,ne_eq,Nat.reduceEqDiff,zNf,fx,Nat.zero_add,Nat.reduceAdd,bd24,zBY,FK.val]) (by rfl) (VQ.agg (by simp [zAW,zAZ])) ?_
  have l5 : Canon.look A5.objs A1.next = some ⟨.cells #[.int .i64 0,.slice none 0 0,.slice none 0 0] 24,false,0⟩ := by rw [hxA5.keep _ (by omega)]; exact l2
  obtain ⟨A6,c6,q1,q2,q3,q4⟩ := zCV (l := [.int .i64 m,.slice sa' st.length sc',.slice ra' ro.length rc']) (o := 0) l5 rfl (by simp) rfl
  refine Dr.eff0 (by rfl) (by rfl) (by assumption) (by rfl) (v := undef) (A1 := A6) (zBQ rfl (fx_ok (by rfl) (by simp only [zAY,zAU,zAT,sp_n,Nat.reduceLT,ne_eq,Nat.reduceEqDiff,zNf,fx,str,zAR,Nat.zero_add,Nat.reduceAdd,tk24,q1,FK.val]; rfl))) ?_
  have hx6 : Nx A1.next A1 A6 := hx2.trans ((hxA5.le (by omega)).trans (q2.nx hxA5.wf (Nat.le_refl _)))
  refine Dr.nil (by rfl) (fun M hM => by cases hM) (hF _ ?_ ?_ ?_) ⟨A6,by rfl,?_⟩
  · rw [q2.cl_ne (by omega),hxA5.cl (by omega)]
  · rw [q2.cl_ne (by omega),hxA5.cl (by omega)]
  · rw [q2.cl_ne (by omega),hxA5.cl (by omega)]
  (repeat (first | refine Rn.seq hc ?_ | refine Rn.skip hc ?_ | refine Rn.block hc ?_ | refine Rn.inBlock hc ?_ | refine Rn.scope hc ?_ | refine Rn.inScope hc ?_))
  have g0 : cl A6 A1.next 0 = some (.int .i64 m) := by rw [q2.cl,q4]; rfl
  have g1 : cl A6 A1.next 1 = some (.slice sa' st.length sc') := by rw [q2.cl,q4]; rfl
  have g2 : cl A6 A1.next 2 = some (.slice ra' ro.length rc') := by rw [q2.cl,q4]; rfl
  have k56 : Nx A1.next A5 A6 := q2.nx hxA5.wf (Nat.le_refl _)
  have x4 : ∀ b,A2.next ≤ b → Canon.look A3.objs b = none ∨ Canon.look B4.objs b = Canon.look A3.objs b := fun b _ => by
    by_cases hbb : b = A2.next + 6
    · exact .inl (hbb ▸ n6)
    · exact .inr (kB4 _ hbb)
  have x5 : ∀ b,A2.next ≤ b → Canon.look B4.objs b = none ∨ Canon.look A5.objs b = Canon.look B4.objs b := fun b _ => by
    by_cases hbb : b < B4.next
    · exact .inr (hx5.keep _ hbb)
    · exact .inl (hxB4.wf.none (by omega))
  have x6 : ∀ b,A2.next ≤ b → Canon.look A5.objs b = none ∨ Canon.look A6.objs b = Canon.look A5.objs b := fun b hb => .inr (q2.off _ (by omega))
  refine Rn.ret (endQ_cell rfl (v := .agg #[.int .i64 m,.slice sa' st.length sc',.slice ra' ro.length rc']) ?_ ⟨sa',sc',ra',rc',rfl,hsc',hrc',hx1.trans (hx6.le hx1.next),?_,?_,?_,?_⟩)
  · simp only [zAU,zAT,sp_n,zAK,Nat.reduceLT,ne_eq,Nat.reduceEqDiff,zNf,ld,zAR,cls,Nat.zero_add,Nat.reduceAdd,tk24,g0,g1,g2]
  · exact (((hi3.ext x4 (Nat.le_of_eq eB4.symm)).ext x5 hx5.next).ext x6 (Nat.le_of_eq q2.next.symm)).mono hxx.next (Nat.le_refl _)
  · exact (hi5.ext x6 (Nat.le_of_eq q2.next.symm)).mono hxx.next (Nat.le_refl _)
  · exact (((hl3.ext x4).ext x5).ext x6).mono hxx.next
  · exact (hl5.ext x6).mono hxx.next
end Go.Proofs.Ytdaljohmfnfgiaa
namespace Go.Proofs.Ytdaljohmfnfgiaa
open Go Go.RowKit Go.Proofs.Ytdaljohmfnfgiaa.Canon
set_option maxRecDepth 20000
def badM (m : Int) : Bool := decide (m < 2) || decide (65521 < m)
def badN (a b : Nat) : Bool := decide ((60 : Int) < a) || (decide ((b : Int) < 1) || decide ((120 : Int) < b))
def errL (m : Int) (st ro : List Int) : Int := if badM m = true then 3 else if badN st.length ro.length = true then 2 else if (st.all (inB m) && ro.all (inB m)) = true then 0 else 4
theorem check_ref {A : AHeap} (hw : WF A) {m : Int} {sa ra : Option Addr} {sc rc : Nat} {st ro : List Int} (hs : Ints A sa 0 A.next st) (hr : Ints A ra 0 A.next ro) (ls : st.length < 4611686018427387904) (lr : ro.length < 4611686018427387904) :
    Con Try.prog 25 [.agg #[.int .i64 m,.slice sa st.length sc,.slice ra ro.length rc]] A (fun v A1 => v = .int .i64 (errL m st ro) ∧ Nx A.next A A1) := by
  refine zAF hc Try.func25 rfl (Nat.le_of_ble_eq_true rfl) ?_
  obtain ⟨A1,e1,hx1,hn1,b0,b1,b2⟩ := box3 hw (.int .i64 m) (.slice sa st.length sc) (.slice ra ro.length rc) 24
  rw [s_in1]
  (repeat (first | refine Rn.seq hc ?_ | refine Rn.skip hc ?_ | refine Rn.block hc ?_ | refine Rn.inBlock hc ?_ | refine Rn.scope hc ?_ | refine Rn.inScope hc ?_))
  refine Rn.reg hc rfl ?_
  simp only [zAY,zAS,zAU,Nat.reduceLT,gd,zAX,rops,fx,zOi,zEl,Value.cells,show Try.f25.ntmps = 63 from rfl,e1]
  (repeat (first | refine Rn.seq hc ?_ | refine Rn.skip hc ?_ | refine Rn.block hc ?_ | refine Rn.inBlock hc ?_ | refine Rn.scope hc ?_ | refine Rn.inScope hc ?_))
  cases hb : badM m with
  | true =>
    have he : errL m st ro = 3 := by simp [errL,hb]
    rw [he]
    cases h1 : decide (m < 2) with
    | true =>
      refine Rn.reg hc rfl ?_
      simp only [zAY,zAS,zAU,zAT,sp_n,Nat.reduceLT,ne_eq,Nat.reduceEqDiff,zNf,gd,nth,zAX,zAP,beqB,rops,fx,ld,fad,pck,zAN,zAR,Nat.add_zero,zOi,zEl,tk3,zBJ,b0,h1]
      (repeat (first | refine Rn.seq hc ?_ | refine Rn.skip hc ?_ | refine Rn.block hc ?_ | refine Rn.inBlock hc ?_ | refine Rn.scope hc ?_ | refine Rn.inScope hc ?_))
      refine Rn.zAM hc rfl ?_
      simp only [zAY,zAU,sp_n,Nat.reduceLT,Value.bool.injEq,zEl]
      (repeat (first | refine Rn.seq hc ?_ | refine Rn.skip hc ?_ | refine Rn.block hc ?_ | refine Rn.inBlock hc ?_ | refine Rn.scope hc ?_ | refine Rn.inScope hc ?_))
      refine Rn.reg hc rfl ?_
      simp only [zAS,gd,zAX,rops,fx,zOi,zEl]
      (repeat (first | refine Rn.seq hc ?_ | refine Rn.skip hc ?_ | refine Rn.block hc ?_ | refine Rn.inBlock hc ?_ | refine Rn.scope hc ?_ | refine Rn.inScope hc ?_))
      exact Rn.ret (zAO rfl ⟨by simp only [zAU,sp_n,Nat.reduceLT],hx1⟩)
    | false =>
      have h2 : decide (65521 < m) = true := by simpa [badM,h1] using hb
      refine Rn.reg hc rfl ?_
      simp only [zAY,zAS,zAU,zAT,sp_n,Nat.reduceLT,ne_eq,Nat.reduceEqDiff,zNf,gd,nth,zAX,zAP,beqB,rops,fx,ld,fad,pck,zAN,zBS,zAR,Nat.add_zero,zOi,zEl,tk3,zBJ,b0,h1,h2]
      (repeat (first | refine Rn.seq hc ?_ | refine Rn.skip hc ?_ | refine Rn.block hc ?_ | refine Rn.inBlock hc ?_ | refine Rn.scope hc ?_ | refine Rn.inScope hc ?_))
      refine Rn.zAM hc rfl ?_
      simp only [zAY,zAU,sp_n,Nat.reduceLT,Value.bool.injEq,zEl]
      (repeat (first | refine Rn.seq hc ?_ | refine Rn.skip hc ?_ | refine Rn.block hc ?_ | refine Rn.inBlock hc ?_ | refine Rn.scope hc ?_ | refine Rn.inScope hc ?_))
      refine Rn.reg hc rfl ?_
      simp only [zAS,gd,zAX,rops,fx,zOi,zEl]
      (repeat (first | refine Rn.seq hc ?_ | refine Rn.skip hc ?_ | refine Rn.block hc ?_ | refine Rn.inBlock hc ?_ | refine Rn.scope hc ?_ | refine Rn.inScope hc ?_))
      exact Rn.ret (zAO rfl ⟨by simp only [zAU,sp_n,Nat.reduceLT],hx1⟩)
  | false =>
  have h1 : decide (m < 2) = false := by
    cases h : decide (m < 2) with
    | false => rfl
    | true => simp [badM,h] at hb
  have h2 : decide (65521 < m) = false := by simpa [badM,h1] using hb
  refine Rn.reg hc rfl ?_
  simp only [zAY,zAS,zAU,zAT,sp_n,Nat.reduceLT,ne_eq,Nat.reduceEqDiff,zNf,gd,nth,zAX,zAP,beqB,rops,fx,ld,fad,pck,zAN,zBS,zAR,Nat.add_zero,zOi,zEl,tk3,zBJ,b0,h1,h2]
  (repeat (first | refine Rn.seq hc ?_ | refine Rn.skip hc ?_ | refine Rn.block hc ?_ | refine Rn.inBlock hc ?_ | refine Rn.scope hc ?_ | refine Rn.inScope hc ?_))
  refine Rn.zAM hc rfl ?_
  simp only [zAY,zAU,sp_n,Nat.reduceLT,Value.bool.injEq,zEl]
  (repeat (first | refine Rn.seq hc ?_ | refine Rn.skip hc ?_ | refine Rn.block hc ?_ | refine Rn.inBlock hc ?_ | refine Rn.scope hc ?_ | refine Rn.inScope hc ?_))
  cases hb2 : badN st.length ro.length with
  | true =>
    have he : errL m st ro = 2 := by simp [errL,hb,hb2]
    rw [he]
    cases h3 : decide ((60 : Int) < st.length) with
    | true =>
      refine Rn.reg hc rfl ?_
      simp only [zAY,zAS,zAU,zAT,sp_n,Nat.reduceLT,ne_eq,Nat.reduceEqDiff,zNf,gd,nth,zAX,zAP,beqB,rops,fx,ld,fad,lng,pck,zBS,zAR,Nat.zero_add,zOi,zEl,tk22,zBO,un22,b1,h3]
      (repeat (first | refine Rn.seq hc ?_ | refine Rn.skip hc ?_ | refine Rn.block hc ?_ | refine Rn.inBlock hc ?_ | refine Rn.scope hc ?_ | refine Rn.inScope hc ?_))
      refine Rn.zAM hc rfl ?_
      simp only [zAY,zAU,sp_n,Nat.reduceLT,Value.bool.injEq,zEl]
      (repeat (first | refine Rn.seq hc ?_ | refine Rn.skip hc ?_ | refine Rn.block hc ?_ | refine Rn.inBlock hc ?_ | refine Rn.scope hc ?_ | refine Rn.inScope hc ?_))
      refine Rn.reg hc rfl ?_
      simp only [zAS,gd,zAX,rops,fx,zOi,zEl]
      (repeat (first | refine Rn.seq hc ?_ | refine Rn.skip hc ?_ | refine Rn.block hc ?_ | refine Rn.inBlock hc ?_ | refine Rn.scope hc ?_ | refine Rn.inScope hc ?_))
      exact Rn.ret (zAO rfl ⟨by simp only [zAU,sp_n,Nat.reduceLT],hx1⟩)
    | false =>
      cases h4 : decide ((ro.length : Int) < 1) with
      | true =>
        refine Rn.reg hc rfl ?_
        simp only [zAY,zAS,zAU,zAT,sp_n,Nat.reduceLT,ne_eq,Nat.reduceEqDiff,zNf,gd,nth,zAX,zAP,beqB,rops,fx,ld,fad,lng,pck,zAN,zBS,zAR,Nat.zero_add,zOi,zEl,tk22,zBO,zBG,un22,b1,b2,h3,h4]
        (repeat (first | refine Rn.seq hc ?_ | refine Rn.skip hc ?_ | refine Rn.block hc ?_ | refine Rn.inBlock hc ?_ | refine Rn.scope hc ?_ | refine Rn.inScope hc ?_))
        refine Rn.zAM hc rfl ?_
        simp only [zAY,zAU,sp_n,Nat.reduceLT,Value.bool.injEq,zEl]
        (repeat (first | refine Rn.seq hc ?_ | refine Rn.skip hc ?_ | refine Rn.block hc ?_ | refine Rn.inBlock hc ?_ | refine Rn.scope hc ?_ | refine Rn.inScope hc ?_))
        refine Rn.reg hc rfl ?_
        simp only [zAS,gd,zAX,rops,fx,zOi,zEl]
        (repeat (first | refine Rn.seq hc ?_ | refine Rn.skip hc ?_ | refine Rn.block hc ?_ | refine Rn.inBlock hc ?_ | refine Rn.scope hc ?_ | refine Rn.inScope hc ?_))
        exact Rn.ret (zAO rfl ⟨by simp only [zAU,sp_n,Nat.reduceLT],hx1⟩)
      | false =>
        have h5 : decide ((120 : Int) < ro.length) = true := by simpa [badN,h3,h4] using hb2
        refine Rn.reg hc rfl ?_
        simp only [zAY,zAS,zAU,zAT,sp_n,Nat.reduceLT,ne_eq,Nat.reduceEqDiff,zNf,gd,nth,zAX,zAP,beqB,rops,fx,ld,fad,lng,pck,zAN,zBS,zAR,Nat.zero_add,zOi,zEl,tk22,zBO,zBG,un22,b1,b2,h3,h4,h5]
        (repeat (first | refine Rn.seq hc ?_ | refine Rn.skip hc ?_ | refine Rn.block hc ?_ | refine Rn.inBlock hc ?_ | refine Rn.scope hc ?_ | refine Rn.inScope hc ?_))
        refine Rn.zAM hc rfl ?_
        simp only [zAY,zAU,sp_n,Nat.reduceLT,Value.bool.injEq,zEl]
        (repeat (first | refine Rn.seq hc ?_ | refine Rn.skip hc ?_ | refine Rn.block hc ?_ | refine Rn.inBlock hc ?_ | refine Rn.scope hc ?_ | refine Rn.inScope hc ?_))
        refine Rn.reg hc rfl ?_
        simp only [zAS,gd,zAX,rops,fx,zOi,zEl]
        (repeat (first | refine Rn.seq hc ?_ | refine Rn.skip hc ?_ | refine Rn.block hc ?_ | refine Rn.inBlock hc ?_ | refine Rn.scope hc ?_ | refine Rn.inScope hc ?_))
        exact Rn.ret (zAO rfl ⟨by simp only [zAU,sp_n,Nat.reduceLT],hx1⟩)
  | false =>
  have h3 : decide ((60 : Int) < st.length) = false := by
    cases h : decide ((60 : Int) < st.length) with
    | false => rfl
    | true => simp only [badN,h,Bool.true_or] at hb2; cases hb2
  have h4 : decide ((ro.length : Int) < 1) = false := by
    cases h : decide ((ro.length : Int) < 1) with
    | false => rfl
    | true => simp only [badN,h,h3,Bool.true_or,Bool.false_or] at hb2; cases hb2
  have h5 : decide ((120 : Int) < ro.length) = false := by simpa only [badN,h3,h4,Bool.false_or] using hb2
  refine Rn.reg hc rfl ?_
  simp only [zAY,zAS,zAU,zAT,sp_n,Nat.reduceLT,ne_eq,Nat.reduceEqDiff,zNf,gd,nth,zAX,zAP,beqB,rops,fx,ld,fad,lng,pck,zAN,zBS,zAR,Nat.zero_add,zOi,zEl,tk22,zBO,zBG,un22,b1,b2,h3,h4,h5]
  (repeat (first | refine Rn.seq hc ?_ | refine Rn.skip hc ?_ | refine Rn.block hc ?_ | refine Rn.inBlock hc ?_ | refine Rn.scope hc ?_ | refine Rn.inScope hc ?_))
  refine Rn.zAM hc rfl ?_
  simp only [zAY,zAU,sp_n,Nat.reduceLT,Value.bool.injEq,zEl]
  (repeat (first | refine Rn.seq hc ?_ | refine Rn.skip hc ?_ | refine Rn.block hc ?_ | refine Rn.inBlock hc ?_ | refine Rn.scope hc ?_ | refine Rn.inScope hc ?_))
  refine Rn.reg hc rfl ?_
  simp only [zAY,zAS,zAU,zAT,sp_n,Nat.reduceLT,ne_eq,Nat.reduceEqDiff,zNf,gd,zAX,rops,fx,ld,fad,lng,zAR,Nat.zero_add,zOi,zEl,tk22,zBO,un22,b1]
  (repeat (first | refine Rn.seq hc ?_ | refine Rn.skip hc ?_ | refine Rn.block hc ?_ | refine Rn.inBlock hc ?_ | refine Rn.scope hc ?_ | refine Rn.inScope hc ?_))
  refine Rn.zDY hc (I := fun k s A' => ∃ i,i ≤ st.length ∧ k = st.length - i ∧ A' = A1 ∧ s.n = 63 ∧ sget s 1 = .pointer (some ⟨A.next,0,none⟩) ∧ sget s 32 = .slice sa st.length sc ∧ sget s 33 = .int .i64 (st.length : Int) ∧ sget s 34 = .int .i64 (i : Int) ∧ (st.take i).all (inB m) = true)
    (n := st.length) ⟨0,by omega,rfl,rfl,by simp only [sp_n],by simp only [zAU,zAT,sp_n,Nat.reduceLT,ne_eq,Nat.reduceEqDiff,zNf],by simp only [zAU,zAT,sp_n,Nat.reduceLT,ne_eq,Nat.reduceEqDiff,zNf],by simp only [zAU,zAT,sp_n,Nat.reduceLT,ne_eq,Nat.reduceEqDiff,zNf],by simp only [zAU,sp_n,Nat.reduceLT]; rfl,rfl⟩ ?_
  rintro k s A' ⟨i,hi,rfl,rfl,hn,s1,s32,s33,s34,hall⟩ ih
  (repeat (first | refine Rn.seq hc ?_ | refine Rn.skip hc ?_ | refine Rn.block hc ?_ | refine Rn.inBlock hc ?_ | refine Rn.scope hc ?_ | refine Rn.inScope hc ?_))
  by_cases hlt : i < st.length
  · have hd : decide ((i : Int) < (st.length : Int)) = true := by simp; omega
    obtain ⟨bb,o,rfl,_,hbb,hcl⟩ := (hs.nx hx1 (Nat.le_refl _)) i hlt
    refine Rn.reg hc rfl ?_
    simp only [zAY,gd,zAX,rops,fx,zAN,zOi,zEl,s33,s34,hd]
    (repeat (first | refine Rn.seq hc ?_ | refine Rn.skip hc ?_ | refine Rn.block hc ?_ | refine Rn.inBlock hc ?_ | refine Rn.scope hc ?_ | refine Rn.inScope hc ?_))
    refine Rn.zAM hc rfl ?_
    simp only [zAY,zAU,Nat.reduceLT,Value.bool.injEq,zEl,hn]
    (repeat (first | refine Rn.seq hc ?_ | refine Rn.skip hc ?_ | refine Rn.block hc ?_ | refine Rn.inBlock hc ?_ | refine Rn.scope hc ?_ | refine Rn.inScope hc ?_))
    refine Rn.reg hc rfl ?_
    simp only [zAY,zAU,zAT,sp_n,Nat.reduceLT,ne_eq,Nat.reduceEqDiff,zNf,gd,zAX,rops,fx,ld,idx,zAR,zOi,zEl,Nat.mul_one,tk3,eo22,hn,s32,s34,zAQ hlt,hcl]
    (repeat (first | refine Rn.seq hc ?_ | refine Rn.skip hc ?_ | refine Rn.block hc ?_ | refine Rn.inBlock hc ?_ | refine Rn.scope hc ?_ | refine Rn.inScope hc ?_))
    cases hv : inB m (st.getD i 0) with
    | true =>
      have h6 : decide (st.getD i 0 < 0) = false := by simp [inB] at hv; simp; omega
      have h7 : decide (m ≤ st.getD i 0) = false := by simp [inB] at hv; simp; omega
      refine Rn.reg hc rfl ?_
      simp only [zAY,zAS,zAU,zAT,sp_n,Nat.reduceLT,ne_eq,Nat.reduceEqDiff,zNf,gd,nth,zAX,zAP,beqB,rops,fx,ld,fad,pck,zAN,bin_geq,zAR,Nat.add_zero,zOi,zEl,tk3,zBJ,hn,s1,b0,h6,h7]
      (repeat (first | refine Rn.seq hc ?_ | refine Rn.skip hc ?_ | refine Rn.block hc ?_ | refine Rn.inBlock hc ?_ | refine Rn.scope hc ?_ | refine Rn.inScope hc ?_))
      refine Rn.zAM hc rfl ?_
      simp only [zAY,zAU,sp_n,Nat.reduceLT,Value.bool.injEq,zEl,hn]
      (repeat (first | refine Rn.seq hc ?_ | refine Rn.skip hc ?_ | refine Rn.block hc ?_ | refine Rn.inBlock hc ?_ | refine Rn.scope hc ?_ | refine Rn.inScope hc ?_))
      refine Rn.reg hc rfl ?_
      simp only [zAY,zAS,zAU,zAT,sp_n,Nat.reduceLT,ne_eq,Nat.reduceEqDiff,zNf,gd,zAX,rops,fx,zAH,zOi,zEl,hn,s34,zBZ (show i < 9223372036854775807 by omega)]
      (repeat (first | refine Rn.seq hc ?_ | refine Rn.skip hc ?_ | refine Rn.block hc ?_ | refine Rn.inBlock hc ?_ | refine Rn.scope hc ?_ | refine Rn.inScope hc ?_))
      exact ih _ _ _ (by omega) ⟨i + 1,by omega,rfl,rfl,by simp only [sp_n,hn],by simp only [zAT,ne_eq,Nat.reduceEqDiff,zNf,s1],by simp only [zAT,ne_eq,Nat.reduceEqDiff,zNf,s32],by simp only [zAT,ne_eq,Nat.reduceEqDiff,zNf,s33],by simp only [zAU,sp_n,Nat.reduceLT,hn],by rw [all_take _ _ 0 hlt,hall,hv]; rfl⟩
    | false =>
      have he : errL m st ro = 4 := by simp [errL,hb,hb2,all_not _ _ 0 hlt hv]
      rw [he]
      cases h6 : decide (st.getD i 0 < 0) with
      | true =>
        refine Rn.reg hc rfl ?_
        simp only [zAY,zAS,zAU,zAT,sp_n,Nat.reduceLT,ne_eq,Nat.reduceEqDiff,zNf,gd,nth,zAX,zAP,beqB,rops,fx,pck,zAN,zOi,zEl,hn,h6]
        (repeat (first | refine Rn.seq hc ?_ | refine Rn.skip hc ?_ | refine Rn.block hc ?_ | refine Rn.inBlock hc ?_ | refine Rn.scope hc ?_ | refine Rn.inScope hc ?_))
        refine Rn.zAM hc rfl ?_
        simp only [zAY,zAU,sp_n,Nat.reduceLT,Value.bool.injEq,zEl,hn]
        (repeat (first | refine Rn.seq hc ?_ | refine Rn.skip hc ?_ | refine Rn.block hc ?_ | refine Rn.inBlock hc ?_ | refine Rn.scope hc ?_ | refine Rn.inScope hc ?_))
        refine Rn.reg hc rfl ?_
        simp only [zAS,gd,zAX,rops,fx,zOi,zEl]
        (repeat (first | refine Rn.seq hc ?_ | refine Rn.skip hc ?_ | refine Rn.block hc ?_ | refine Rn.inBlock hc ?_ | refine Rn.scope hc ?_ | refine Rn.inScope hc ?_))
        exact Rn.ret (zAO rfl ⟨by simp only [zAU,sp_n,Nat.reduceLT,hn],hx1⟩)
      | false =>
        have h7 : decide (m ≤ st.getD i 0) = true := by simp [inB] at hv; simp at h6; simp; omega
        refine Rn.reg hc rfl ?_
        simp only [zAY,zAS,zAU,zAT,sp_n,Nat.reduceLT,ne_eq,Nat.reduceEqDiff,zNf,gd,nth,zAX,zAP,beqB,rops,fx,ld,fad,pck,zAN,bin_geq,zAR,Nat.add_zero,zOi,zEl,tk3,zBJ,hn,s1,b0,h6,h7]
        (repeat (first | refine Rn.seq hc ?_ | refine Rn.skip hc ?_ | refine Rn.block hc ?_ | refine Rn.inBlock hc ?_ | refine Rn.scope hc ?_ | refine Rn.inScope hc ?_))
        refine Rn.zAM hc rfl ?_
        simp only [zAY,zAU,sp_n,Nat.reduceLT,Value.bool.injEq,zEl,hn]
        (repeat (first | refine Rn.seq hc ?_ | refine Rn.skip hc ?_ | refine Rn.block hc ?_ | refine Rn.inBlock hc ?_ | refine Rn.scope hc ?_ | refine Rn.inScope hc ?_))
        refine Rn.reg hc rfl ?_
        simp only [zAS,gd,zAX,rops,fx,zOi,zEl]
        (repeat (first | refine Rn.seq hc ?_ | refine Rn.skip hc ?_ | refine Rn.block hc ?_ | refine Rn.inBlock hc ?_ | refine Rn.scope hc ?_ | refine Rn.inScope hc ?_))
        exact Rn.ret (zAO rfl ⟨by simp only [zAU,sp_n,Nat.reduceLT,hn],hx1⟩)
  · have hd : decide ((i : Int) < (st.length : Int)) = false := by simp; omega
    have hil : i = st.length := by omega
    subst hil
    rw [List.take_length] at hall
    refine Rn.reg hc rfl ?_
    simp only [zAY,gd,zAX,rops,fx,zAN,zOi,zEl,s33,s34,hd]
    (repeat (first | refine Rn.seq hc ?_ | refine Rn.skip hc ?_ | refine Rn.block hc ?_ | refine Rn.inBlock hc ?_ | refine Rn.scope hc ?_ | refine Rn.inScope hc ?_))
    refine Rn.zAM hc rfl ?_
    simp only [zAY,zAU,Nat.reduceLT,Value.bool.injEq,zEl,hn]
    (repeat (first | refine Rn.seq hc ?_ | refine Rn.skip hc ?_ | refine Rn.block hc ?_ | refine Rn.inBlock hc ?_ | refine Rn.scope hc ?_ | refine Rn.inScope hc ?_))
    refine Rn.exit hc rfl ?_
    (repeat (first | refine Rn.seq hc ?_ | refine Rn.skip hc ?_ | refine Rn.block hc ?_ | refine Rn.inBlock hc ?_ | refine Rn.scope hc ?_ | refine Rn.inScope hc ?_))
    refine Rn.reg hc rfl ?_
    simp only [zAY,zAS,zAU,zAT,sp_n,Nat.reduceLT,ne_eq,Nat.reduceEqDiff,zNf,gd,zAX,rops,fx,ld,fad,lng,zAR,Nat.zero_add,zOi,zEl,tk22,zBG,un22,hn,s1,b2]
    (repeat (first | refine Rn.seq hc ?_ | refine Rn.skip hc ?_ | refine Rn.block hc ?_ | refine Rn.inBlock hc ?_ | refine Rn.scope hc ?_ | refine Rn.inScope hc ?_))
    clear ih
    refine Rn.zDY hc (I := fun k s A'' => ∃ i,i ≤ ro.length ∧ k = ro.length - i ∧ A'' = A' ∧ s.n = 63 ∧ sget s 1 = .pointer (some ⟨A.next,0,none⟩) ∧ sget s 48 = .slice ra ro.length rc ∧ sget s 49 = .int .i64 (ro.length : Int) ∧ sget s 50 = .int .i64 (i : Int) ∧ (ro.take i).all (inB m) = true)
      (n := ro.length) ⟨0,by omega,rfl,rfl,by simp only [sp_n,hn],by simp only [zAT,ne_eq,Nat.reduceEqDiff,zNf,s1],by simp only [zAU,zAT,sp_n,Nat.reduceLT,ne_eq,Nat.reduceEqDiff,zNf,hn],by simp only [zAU,zAT,sp_n,Nat.reduceLT,ne_eq,Nat.reduceEqDiff,zNf,hn],by simp only [zAU,sp_n,Nat.reduceLT,hn]; rfl,rfl⟩ ?_
    clear hn s1 s32 s33 s34 hd
    rintro k s A'' ⟨i,hi,rfl,rfl,hn,s1,s48,s49,s50,hall2⟩ ih
    (repeat (first | refine Rn.seq hc ?_ | refine Rn.skip hc ?_ | refine Rn.block hc ?_ | refine Rn.inBlock hc ?_ | refine Rn.scope hc ?_ | refine Rn.inScope hc ?_))
    by_cases hlt : i < ro.length
    · have hd : decide ((i : Int) < (ro.length : Int)) = true := by simp; omega
      obtain ⟨bb,o,rfl,_,hbb,hcl⟩ := (hr.nx hx1 (Nat.le_refl _)) i hlt
      refine Rn.reg hc rfl ?_
      simp only [zAY,gd,zAX,rops,fx,zAN,zOi,zEl,s49,s50,hd]
      (repeat (first | refine Rn.seq hc ?_ | refine Rn.skip hc ?_ | refine Rn.block hc ?_ | refine Rn.inBlock hc ?_ | refine Rn.scope hc ?_ | refine Rn.inScope hc ?_))
      refine Rn.zAM hc rfl ?_
      simp only [zAY,zAU,Nat.reduceLT,Value.bool.injEq,zEl,hn]
      (repeat (first | refine Rn.seq hc ?_ | refine Rn.skip hc ?_ | refine Rn.block hc ?_ | refine Rn.inBlock hc ?_ | refine Rn.scope hc ?_ | refine Rn.inScope hc ?_))
      refine Rn.reg hc rfl ?_
      simp only [zAY,zAU,zAT,sp_n,Nat.reduceLT,ne_eq,Nat.reduceEqDiff,zNf,gd,zAX,rops,fx,ld,idx,zAR,zOi,zEl,Nat.mul_one,tk3,eo22,hn,s48,s50,zAQ hlt,hcl]
      (repeat (first | refine Rn.seq hc ?_ | refine Rn.skip hc ?_ | refine Rn.block hc ?_ | refine Rn.inBlock hc ?_ | refine Rn.scope hc ?_ | refine Rn.inScope hc ?_))
      cases hv : inB m (ro.getD i 0) with
      | true =>
        have h6 : decide (ro.getD i 0 < 0) = false := by simp [inB] at hv; simp; omega
        have h7 : decide (m ≤ ro.getD i 0) = false := by simp [inB] at hv; simp; omega
        refine Rn.reg hc rfl ?_
        simp only [zAY,zAS,zAU,zAT,sp_n,Nat.reduceLT,ne_eq,Nat.reduceEqDiff,zNf,gd,nth,zAX,zAP,beqB,rops,fx,ld,fad,pck,zAN,bin_geq,zAR,Nat.add_zero,zOi,zEl,tk3,zBJ,hn,s1,b0,h6,h7]
        (repeat (first | refine Rn.seq hc ?_ | refine Rn.skip hc ?_ | refine Rn.block hc ?_ | refine Rn.inBlock hc ?_ | refine Rn.scope hc ?_ | refine Rn.inScope hc ?_))
        refine Rn.zAM hc rfl ?_
        simp only [zAY,zAU,sp_n,Nat.reduceLT,Value.bool.injEq,zEl,hn]
        (repeat (first | refine Rn.seq hc ?_ | refine Rn.skip hc ?_ | refine Rn.block hc ?_ | refine Rn.inBlock hc ?_ | refine Rn.scope hc ?_ | refine Rn.inScope hc ?_))
        refine Rn.reg hc rfl ?_
        simp only [zAY,zAS,zAU,zAT,sp_n,Nat.reduceLT,ne_eq,Nat.reduceEqDiff,zNf,gd,zAX,rops,fx,zAH,zOi,zEl,hn,s50,zBZ (show i < 9223372036854775807 by omega)]
        (repeat (first | refine Rn.seq hc ?_ | refine Rn.skip hc ?_ | refine Rn.block hc ?_ | refine Rn.inBlock hc ?_ | refine Rn.scope hc ?_ | refine Rn.inScope hc ?_))
        exact ih _ _ _ (by omega) ⟨i + 1,by omega,rfl,rfl,by simp only [sp_n,hn],by simp only [zAT,ne_eq,Nat.reduceEqDiff,zNf,s1],by simp only [zAT,ne_eq,Nat.reduceEqDiff,zNf,s48],by simp only [zAT,ne_eq,Nat.reduceEqDiff,zNf,s49],by simp only [zAU,sp_n,Nat.reduceLT,hn],by rw [all_take _ _ 0 hlt,hall2,hv]; rfl⟩
      | false =>
        have he : errL m st ro = 4 := by simp [errL,hb,hb2,all_not _ _ 0 hlt hv]
        rw [he]
        cases h6 : decide (ro.getD i 0 < 0) with
        | true =>
          refine Rn.reg hc rfl ?_
          simp only [zAY,zAS,zAU,zAT,sp_n,Nat.reduceLT,ne_eq,Nat.reduceEqDiff,zNf,gd,nth,zAX,zAP,beqB,rops,fx,pck,zAN,zOi,zEl,hn,h6]
          (repeat (first | refine Rn.seq hc ?_ | refine Rn.skip hc ?_ | refine Rn.block hc ?_ | refine Rn.inBlock hc ?_ | refine Rn.scope hc ?_ | refine Rn.inScope hc ?_))
          refine Rn.zAM hc rfl ?_
          simp only [zAY,zAU,sp_n,Nat.reduceLT,Value.bool.injEq,zEl,hn]
          (repeat (first | refine Rn.seq hc ?_ | refine Rn.skip hc ?_ | refine Rn.block hc ?_ | refine Rn.inBlock hc ?_ | refine Rn.scope hc ?_ | refine Rn.inScope hc ?_))
          refine Rn.reg hc rfl ?_
          simp only [zAS,gd,zAX,rops,fx,zOi,zEl]
          (repeat (first | refine Rn.seq hc ?_ | refine Rn.skip hc ?_ | refine Rn.block hc ?_ | refine Rn.inBlock hc ?_ | refine Rn.scope hc ?_ | refine Rn.inScope hc ?_))
          exact Rn.ret (zAO rfl ⟨by simp only [zAU,sp_n,Nat.reduceLT,hn],hx1⟩)
        | false =>
          have h7 : decide (m ≤ ro.getD i 0) = true := by simp [inB] at hv; simp at h6; simp; omega
          refine Rn.reg hc rfl ?_
          simp only [zAY,zAS,zAU,zAT,sp_n,Nat.reduceLT,ne_eq,Nat.reduceEqDiff,zNf,gd,nth,zAX,zAP,beqB,rops,fx,ld,fad,pck,zAN,bin_geq,zAR,Nat.add_zero,zOi,zEl,tk3,zBJ,hn,s1,b0,h6,h7]
          (repeat (first | refine Rn.seq hc ?_ | refine Rn.skip hc ?_ | refine Rn.block hc ?_ | refine Rn.inBlock hc ?_ | refine Rn.scope hc ?_ | refine Rn.inScope hc ?_))
          refine Rn.zAM hc rfl ?_
          simp only [zAY,zAU,sp_n,Nat.reduceLT,Value.bool.injEq,zEl,hn]
          (repeat (first | refine Rn.seq hc ?_ | refine Rn.skip hc ?_ | refine Rn.block hc ?_ | refine Rn.inBlock hc ?_ | refine Rn.scope hc ?_ | refine Rn.inScope hc ?_))
          refine Rn.reg hc rfl ?_
          simp only [zAS,gd,zAX,rops,fx,zOi,zEl]
          (repeat (first | refine Rn.seq hc ?_ | refine Rn.skip hc ?_ | refine Rn.block hc ?_ | refine Rn.inBlock hc ?_ | refine Rn.scope hc ?_ | refine Rn.inScope hc ?_))
          exact Rn.ret (zAO rfl ⟨by simp only [zAU,sp_n,Nat.reduceLT,hn],hx1⟩)
    · have hd : decide ((i : Int) < (ro.length : Int)) = false := by simp; omega
      have hil : i = ro.length := by omega
      subst hil
      rw [List.take_length] at hall2
      have he : errL m st ro = 0 := by simp only [errL,hb,hb2,hall,hall2]; rfl
      rw [he]
      refine Rn.reg hc rfl ?_
      simp only [zAY,gd,zAX,rops,fx,zAN,zOi,zEl,s49,s50,hd]
      (repeat (first | refine Rn.seq hc ?_ | refine Rn.skip hc ?_ | refine Rn.block hc ?_ | refine Rn.inBlock hc ?_ | refine Rn.scope hc ?_ | refine Rn.inScope hc ?_))
      refine Rn.zAM hc rfl ?_
      simp only [zAY,zAU,Nat.reduceLT,Value.bool.injEq,zEl,hn]
      (repeat (first | refine Rn.seq hc ?_ | refine Rn.skip hc ?_ | refine Rn.block hc ?_ | refine Rn.inBlock hc ?_ | refine Rn.scope hc ?_ | refine Rn.inScope hc ?_))
      refine Rn.exit hc rfl ?_
      (repeat (first | refine Rn.seq hc ?_ | refine Rn.skip hc ?_ | refine Rn.block hc ?_ | refine Rn.inBlock hc ?_ | refine Rn.scope hc ?_ | refine Rn.inScope hc ?_))
      refine Rn.reg hc rfl ?_
      simp only [zAS,gd,zAX,rops,fx,zOi,zEl]
      (repeat (first | refine Rn.seq hc ?_ | refine Rn.skip hc ?_ | refine Rn.block hc ?_ | refine Rn.inBlock hc ?_ | refine Rn.scope hc ?_ | refine Rn.inScope hc ?_))
      exact Rn.ret (zAO rfl ⟨by simp only [zAU,sp_n,Nat.reduceLT,hn],hx1⟩)
end Go.Proofs.Ytdaljohmfnfgiaa
namespace Go.Proofs.Ytdaljohmfnfgiaa
open Go Go.RowKit Go.Proofs.Ytdaljohmfnfgiaa.Canon
set_option maxRecDepth 20000
theorem check_one {A : AHeap} (hw : WF A) {m : Int} {sa ra : Option Addr} {sc rc : Nat} {st ro : List Int} (hs : Ints A sa 0 A.next st) (hr : Ints A ra 0 A.next ro) (ls : st.length < 4611686018427387904) (lr : ro.length < 4611686018427387904) :
    Con Try.prog 24 [.agg #[.int .i64 m,.slice sa st.length sc,.slice ra ro.length rc]] A (fun v A1 => v = .int .i64 (errL m st ro) ∧ Nx A.next A A1) := by
  refine zAF hc Try.func24 rfl (Nat.le_of_ble_eq_true rfl) ?_
  obtain ⟨A1,e1,hx1,hn1,b0,b1,b2⟩ := box3 hw (.int .i64 m) (.slice sa st.length sc) (.slice ra ro.length rc) 24
  rw [s_in1]
  (repeat (first | refine Rn.seq hc ?_ | refine Rn.skip hc ?_ | refine Rn.block hc ?_ | refine Rn.inBlock hc ?_ | refine Rn.scope hc ?_ | refine Rn.inScope hc ?_))
  refine Rn.reg hc rfl ?_
  simp only [zAY,zAS,zAU,Nat.reduceLT,gd,zAX,rops,fx,zOi,zEl,Value.cells,show Try.f24.ntmps = 46 from rfl,e1]
  (repeat (first | refine Rn.seq hc ?_ | refine Rn.skip hc ?_ | refine Rn.block hc ?_ | refine Rn.inBlock hc ?_ | refine Rn.scope hc ?_ | refine Rn.inScope hc ?_))
  refine Rn.region hc fun K hK => ?_
  refine Wo.run hc 2 rfl rfl rfl ?_
  simp (maxSteps := 2000000) only [List.drop_zero,List.take_succ_cons,List.take_zero,zAY,zAU,zAT,sp_n,Nat.reduceLT,ne_eq,Nat.reduceEqDiff,not_false_eq_true,gd,zAX,rops,fx,ld,fad,zAR,Nat.zero_add,Nat.add_zero,Option.some.injEq,exists_eq_left',tk3,zBJ,b0]
  refine Wo.call hc (by rfl) (by rfl) ⟨by rfl,by rfl⟩ (xs := [.int .i64 m]) (by rfl) (by rfl) (by rfl) (Con.mono (within hx1.wf m) ?_)
  rintro v A2 ⟨rfl,w0,hx2,hn2⟩
  refine Wo.run hc 1 rfl rfl rfl ?_
  simp (maxSteps := 2000000) only [List.drop_zero,List.drop_succ_cons,List.take_succ_cons,List.take_zero,zAY,zAU,sp_n,Nat.reduceLT,gd,zAX,rops,fx,Option.some.injEq,exists_eq_left',Nat.reduceAdd]
  refine Wo.done hc rfl (hK _ _ ?_)
  clear hK
  (repeat (first | refine Rn.seq hc ?_ | refine Rn.skip hc ?_ | refine Rn.block hc ?_ | refine Rn.inBlock hc ?_ | refine Rn.scope hc ?_ | refine Rn.inScope hc ?_))
  have hxx : Nx A.next A A2 := hx1.trans (hx2.le hx1.next)
  have b0 := (hx2.cl (show A.next < A1.next by omega) 0).trans b0
  have b1 := (hx2.cl (show A.next < A1.next by omega) 1).trans b1
  have b2 := (hx2.cl (show A.next < A1.next by omega) 2).trans b2
  have hs2 : Ints A2 sa 0 A2.next st := (hs.nx hxx (Nat.le_refl _)).mono (Nat.le_refl _) hxx.next
  have hr2 : Ints A2 ra 0 A2.next ro := (hr.nx hxx (Nat.le_refl _)).mono (Nat.le_refl _) hxx.next
  cases hb : badM m with
  | true =>
    have he : errL m st ro = 3 := by simp [errL,hb]
    rw [he]
    cases h1 : decide (m < 2) with
    | true =>
      refine Rn.reg hc rfl ?_
      simp only [zAY,zAS,zAU,zAT,sp_n,Nat.reduceLT,ne_eq,Nat.reduceEqDiff,zNf,gd,nth,zAX,zAP,beqB,rops,fx,ld,fad,pck,zAN,zAR,Nat.add_zero,zOi,zEl,tk3,zBJ,b0,h1]
      (repeat (first | refine Rn.seq hc ?_ | refine Rn.skip hc ?_ | refine Rn.block hc ?_ | refine Rn.inBlock hc ?_ | refine Rn.scope hc ?_ | refine Rn.inScope hc ?_))
      refine Rn.zAM hc rfl ?_
      simp only [zAY,zAU,sp_n,Nat.reduceLT,Value.bool.injEq,zEl]
      (repeat (first | refine Rn.seq hc ?_ | refine Rn.skip hc ?_ | refine Rn.block hc ?_ | refine Rn.inBlock hc ?_ | refine Rn.scope hc ?_ | refine Rn.inScope hc ?_))
      refine Rn.reg hc rfl ?_
      simp only [zAS,gd,zAX,rops,fx,zOi,zEl]
      (repeat (first | refine Rn.seq hc ?_ | refine Rn.skip hc ?_ | refine Rn.block hc ?_ | refine Rn.inBlock hc ?_ | refine Rn.scope hc ?_ | refine Rn.inScope hc ?_))
      exact Rn.ret (zAO rfl ⟨by simp only [zAU,sp_n,Nat.reduceLT],hxx⟩)
    | false =>
      have h2 : decide (65521 < m) = true := by simpa [badM,h1] using hb
      refine Rn.reg hc rfl ?_
      simp only [zAY,zAS,zAU,zAT,sp_n,Nat.reduceLT,ne_eq,Nat.reduceEqDiff,zNf,gd,nth,zAX,zAP,beqB,rops,fx,ld,fad,pck,zAN,zBS,zAR,Nat.add_zero,zOi,zEl,tk3,zBJ,b0,h1,h2]
      (repeat (first | refine Rn.seq hc ?_ | refine Rn.skip hc ?_ | refine Rn.block hc ?_ | refine Rn.inBlock hc ?_ | refine Rn.scope hc ?_ | refine Rn.inScope hc ?_))
      refine Rn.zAM hc rfl ?_
      simp only [zAY,zAU,sp_n,Nat.reduceLT,Value.bool.injEq,zEl]
      (repeat (first | refine Rn.seq hc ?_ | refine Rn.skip hc ?_ | refine Rn.block hc ?_ | refine Rn.inBlock hc ?_ | refine Rn.scope hc ?_ | refine Rn.inScope hc ?_))
      refine Rn.reg hc rfl ?_
      simp only [zAS,gd,zAX,rops,fx,zOi,zEl]
      (repeat (first | refine Rn.seq hc ?_ | refine Rn.skip hc ?_ | refine Rn.block hc ?_ | refine Rn.inBlock hc ?_ | refine Rn.scope hc ?_ | refine Rn.inScope hc ?_))
      exact Rn.ret (zAO rfl ⟨by simp only [zAU,sp_n,Nat.reduceLT],hxx⟩)
  | false =>
  have h1 : decide (m < 2) = false := by
    cases h : decide (m < 2) with
    | false => rfl
    | true => simp [badM,h] at hb
  have h2 : decide (65521 < m) = false := by simpa [badM,h1] using hb
  refine Rn.reg hc rfl ?_
  simp only [zAY,zAS,zAU,zAT,sp_n,Nat.reduceLT,ne_eq,Nat.reduceEqDiff,zNf,gd,nth,zAX,zAP,beqB,rops,fx,ld,fad,pck,zAN,zBS,zAR,Nat.add_zero,zOi,zEl,tk3,zBJ,b0,h1,h2]
  (repeat (first | refine Rn.seq hc ?_ | refine Rn.skip hc ?_ | refine Rn.block hc ?_ | refine Rn.inBlock hc ?_ | refine Rn.scope hc ?_ | refine Rn.inScope hc ?_))
  refine Rn.zAM hc rfl ?_
  simp only [zAY,zAU,sp_n,Nat.reduceLT,Value.bool.injEq,zEl]
  (repeat (first | refine Rn.seq hc ?_ | refine Rn.skip hc ?_ | refine Rn.block hc ?_ | refine Rn.inBlock hc ?_ | refine Rn.scope hc ?_ | refine Rn.inScope hc ?_))
  cases hb2 : badN st.length ro.length with
  | true =>
    have he : errL m st ro = 2 := by simp [errL,hb,hb2]
    rw [he]
    cases h3 : decide ((60 : Int) < st.length) with
    | true =>
      refine Rn.reg hc rfl ?_
      simp only [zAY,zAS,zAU,zAT,sp_n,Nat.reduceLT,ne_eq,Nat.reduceEqDiff,zNf,gd,nth,zAX,zAP,beqB,rops,fx,ld,fad,lng,pck,zBS,zAR,Nat.zero_add,zOi,zEl,tk22,zBO,un22,b1,h3]
      (repeat (first | refine Rn.seq hc ?_ | refine Rn.skip hc ?_ | refine Rn.block hc ?_ | refine Rn.inBlock hc ?_ | refine Rn.scope hc ?_ | refine Rn.inScope hc ?_))
      refine Rn.zAM hc rfl ?_
      simp only [zAY,zAU,sp_n,Nat.reduceLT,Value.bool.injEq,zEl]
      (repeat (first | refine Rn.seq hc ?_ | refine Rn.skip hc ?_ | refine Rn.block hc ?_ | refine Rn.inBlock hc ?_ | refine Rn.scope hc ?_ | refine Rn.inScope hc ?_))
      refine Rn.reg hc rfl ?_
      simp only [zAS,gd,zAX,rops,fx,zOi,zEl]
      (repeat (first | refine Rn.seq hc ?_ | refine Rn.skip hc ?_ | refine Rn.block hc ?_ | refine Rn.inBlock hc ?_ | refine Rn.scope hc ?_ | refine Rn.inScope hc ?_))
      exact Rn.ret (zAO rfl ⟨by simp only [zAU,sp_n,Nat.reduceLT],hxx⟩)
    | false =>
      cases h4 : decide ((ro.length : Int) < 1) with
      | true =>
        refine Rn.reg hc rfl ?_
        simp only [zAY,zAS,zAU,zAT,sp_n,Nat.reduceLT,ne_eq,Nat.reduceEqDiff,zNf,gd,nth,zAX,zAP,beqB,rops,fx,ld,fad,lng,pck,zAN,zBS,zAR,Nat.zero_add,zOi,zEl,tk22,zBO,zBG,un22,b1,b2,h3,h4]
        (repeat (first | refine Rn.seq hc ?_ | refine Rn.skip hc ?_ | refine Rn.block hc ?_ | refine Rn.inBlock hc ?_ | refine Rn.scope hc ?_ | refine Rn.inScope hc ?_))
        refine Rn.zAM hc rfl ?_
        simp only [zAY,zAU,sp_n,Nat.reduceLT,Value.bool.injEq,zEl]
        (repeat (first | refine Rn.seq hc ?_ | refine Rn.skip hc ?_ | refine Rn.block hc ?_ | refine Rn.inBlock hc ?_ | refine Rn.scope hc ?_ | refine Rn.inScope hc ?_))
        refine Rn.reg hc rfl ?_
        simp only [zAS,gd,zAX,rops,fx,zOi,zEl]
        (repeat (first | refine Rn.seq hc ?_ | refine Rn.skip hc ?_ | refine Rn.block hc ?_ | refine Rn.inBlock hc ?_ | refine Rn.scope hc ?_ | refine Rn.inScope hc ?_))
        exact Rn.ret (zAO rfl ⟨by simp only [zAU,sp_n,Nat.reduceLT],hxx⟩)
      | false =>
        have h5 : decide ((120 : Int) < ro.length) = true := by simpa [badN,h3,h4] using hb2
        refine Rn.reg hc rfl ?_
        simp only [zAY,zAS,zAU,zAT,sp_n,Nat.reduceLT,ne_eq,Nat.reduceEqDiff,zNf,gd,nth,zAX,zAP,beqB,rops,fx,ld,fad,lng,pck,zAN,zBS,zAR,Nat.zero_add,zOi,zEl,tk22,zBO,zBG,un22,b1,b2,h3,h4,h5]
        (repeat (first | refine Rn.seq hc ?_ | refine Rn.skip hc ?_ | refine Rn.block hc ?_ | refine Rn.inBlock hc ?_ | refine Rn.scope hc ?_ | refine Rn.inScope hc ?_))
        refine Rn.zAM hc rfl ?_
        simp only [zAY,zAU,sp_n,Nat.reduceLT,Value.bool.injEq,zEl]
        (repeat (first | refine Rn.seq hc ?_ | refine Rn.skip hc ?_ | refine Rn.block hc ?_ | refine Rn.inBlock hc ?_ | refine Rn.scope hc ?_ | refine Rn.inScope hc ?_))
        refine Rn.reg hc rfl ?_
        simp only [zAS,gd,zAX,rops,fx,zOi,zEl]
        (repeat (first | refine Rn.seq hc ?_ | refine Rn.skip hc ?_ | refine Rn.block hc ?_ | refine Rn.inBlock hc ?_ | refine Rn.scope hc ?_ | refine Rn.inScope hc ?_))
        exact Rn.ret (zAO rfl ⟨by simp only [zAU,sp_n,Nat.reduceLT],hxx⟩)
  | false =>
  have h3 : decide ((60 : Int) < st.length) = false := by
    cases h : decide ((60 : Int) < st.length) with
    | false => rfl
    | true => simp only [badN,h,Bool.true_or] at hb2; cases hb2
  have h4 : decide ((ro.length : Int) < 1) = false := by
    cases h : decide ((ro.length : Int) < 1) with
    | false => rfl
    | true => simp only [badN,h,h3,Bool.true_or,Bool.false_or] at hb2; cases hb2
  have h5 : decide ((120 : Int) < ro.length) = false := by simpa only [badN,h3,h4,Bool.false_or] using hb2
  refine Rn.reg hc rfl ?_
  simp only [zAY,zAS,zAU,zAT,sp_n,Nat.reduceLT,ne_eq,Nat.reduceEqDiff,zNf,gd,nth,zAX,zAP,beqB,rops,fx,ld,fad,lng,pck,zAN,zBS,zAR,Nat.zero_add,zOi,zEl,tk22,zBO,zBG,un22,b1,b2,h3,h4,h5]
  (repeat (first | refine Rn.seq hc ?_ | refine Rn.skip hc ?_ | refine Rn.block hc ?_ | refine Rn.inBlock hc ?_ | refine Rn.scope hc ?_ | refine Rn.inScope hc ?_))
  refine Rn.zAM hc rfl ?_
  simp only [zAY,zAU,sp_n,Nat.reduceLT,Value.bool.injEq,zEl]
  (repeat (first | refine Rn.seq hc ?_ | refine Rn.skip hc ?_ | refine Rn.block hc ?_ | refine Rn.inBlock hc ?_ | refine Rn.scope hc ?_ | refine Rn.inScope hc ?_))
  refine Rn.region hc fun K hK => ?_
  refine Wo.run hc 3 rfl rfl rfl ?_
  simp (maxSteps := 2000000) only [List.drop_zero,List.take_succ_cons,List.take_zero,zAY,zAU,zAT,sp_n,Nat.reduceLT,ne_eq,Nat.reduceEqDiff,not_false_eq_true,gd,zAX,rops,fx,ld,fad,zAR,Nat.zero_add,Option.some.injEq,exists_eq_left',tk22,zBO,b1]
  refine Wo.call hc (by rfl) (by rfl) ⟨by rfl,by rfl⟩ (xs := [.slice sa st.length sc,.func (.func 105) #[] #[.pointer (some ⟨A1.next,0,none⟩)]]) (by rfl) (by rfl) (by rfl) (Con.mono (every_int hs2 ls w0) ?_)
  rintro v A3 ⟨rfl,rfl⟩
  cases hv : st.all (inB m) with
  | false =>
    have he : errL m st ro = 4 := by simp only [errL,hb,hb2,hv]; rfl
    refine Wo.run hc 9 rfl rfl rfl ?_
    simp (maxSteps := 2000000) only [List.drop_zero,List.drop_succ_cons,List.take_succ_cons,List.take_zero,zAY,zAS,zAU,zAT,sp_n,Nat.reduceLT,ne_eq,Nat.reduceEqDiff,not_false_eq_true,gd,nth,zAX,zAP,beqB,rops,fx,pck,Option.some.injEq,exists_eq_left',Nat.reduceAdd,Bool.not_false,ae_not',Bool.not_false]
    refine Wo.done hc rfl (hK _ _ ?_)
    rw [he]
    (repeat (first | refine Rn.seq hc ?_ | refine Rn.skip hc ?_ | refine Rn.block hc ?_ | refine Rn.inBlock hc ?_ | refine Rn.scope hc ?_ | refine Rn.inScope hc ?_))
    refine Rn.zAM hc rfl ?_
    simp only [zAY,zAU,sp_n,Nat.reduceLT,Value.bool.injEq,zEl]
    (repeat (first | refine Rn.seq hc ?_ | refine Rn.skip hc ?_ | refine Rn.block hc ?_ | refine Rn.inBlock hc ?_ | refine Rn.scope hc ?_ | refine Rn.inScope hc ?_))
    refine Rn.reg hc rfl ?_
    simp only [zAS,gd,zAX,rops,fx,zOi,zEl]
    (repeat (first | refine Rn.seq hc ?_ | refine Rn.skip hc ?_ | refine Rn.block hc ?_ | refine Rn.inBlock hc ?_ | refine Rn.scope hc ?_ | refine Rn.inScope hc ?_))
    exact Rn.ret (zAO rfl ⟨by simp only [zAU,sp_n,Nat.reduceLT],hxx⟩)
  | true =>
    refine Wo.run hc 5 rfl rfl rfl ?_
    simp (maxSteps := 2000000) only [List.drop_zero,List.drop_succ_cons,List.take_succ_cons,List.take_zero,zAY,zAU,zAT,sp_n,Nat.reduceLT,ne_eq,Nat.reduceEqDiff,not_false_eq_true,gd,nth,zAX,zAP,beqB,rops,fx,ld,fad,zAR,Nat.zero_add,Option.some.injEq,exists_eq_left',Nat.reduceAdd,Bool.not_true,ae_not',Bool.not_true,tk22,zBG,b2]
    refine Wo.call hc (by rfl) (by rfl) ⟨by rfl,by rfl⟩ (xs := [.slice ra ro.length rc,.func (.func 105) #[] #[.pointer (some ⟨A1.next,0,none⟩)]]) (by rfl) (by rfl) (by rfl) (Con.mono (every_int hr2 lr w0) ?_)
    rintro v A4 ⟨rfl,rfl⟩
    refine Wo.run hc 3 rfl rfl rfl ?_
    simp (maxSteps := 2000000) only [List.drop_zero,List.drop_succ_cons,List.take_succ_cons,List.take_zero,zAY,zAU,zAT,sp_n,Nat.reduceLT,ne_eq,Nat.reduceEqDiff,not_false_eq_true,gd,nth,zAX,zAP,beqB,rops,fx,pck,Option.some.injEq,exists_eq_left',Nat.reduceAdd,ae_not']
    refine Wo.done hc rfl (hK _ _ ?_)
    (repeat (first | refine Rn.seq hc ?_ | refine Rn.skip hc ?_ | refine Rn.block hc ?_ | refine Rn.inBlock hc ?_ | refine Rn.scope hc ?_ | refine Rn.inScope hc ?_))
    cases hv2 : ro.all (inB m) with
    | false =>
      have he : errL m st ro = 4 := by simp only [errL,hb,hb2,hv,hv2]; rfl
      rw [he]
      refine Rn.zAM hc rfl ?_
      simp only [zAY,zAU,sp_n,Nat.reduceLT,Value.bool.injEq,zEl]
      (repeat (first | refine Rn.seq hc ?_ | refine Rn.skip hc ?_ | refine Rn.block hc ?_ | refine Rn.inBlock hc ?_ | refine Rn.scope hc ?_ | refine Rn.inScope hc ?_))
      refine Rn.reg hc rfl ?_
      simp only [zAS,gd,zAX,rops,fx,zOi,zEl,Bool.not_false,Bool.not_false]
      (repeat (first | refine Rn.seq hc ?_ | refine Rn.skip hc ?_ | refine Rn.block hc ?_ | refine Rn.inBlock hc ?_ | refine Rn.scope hc ?_ | refine Rn.inScope hc ?_))
      exact Rn.ret (zAO rfl ⟨by simp only [zAU,sp_n,Nat.reduceLT],hxx⟩)
    | true =>
      have he : errL m st ro = 0 := by simp only [errL,hb,hb2,hv,hv2]; rfl
      rw [he]
      refine Rn.zAM hc rfl ?_
      simp only [zAY,zAU,sp_n,Nat.reduceLT,Value.bool.injEq,zEl]
      (repeat (first | refine Rn.seq hc ?_ | refine Rn.skip hc ?_ | refine Rn.block hc ?_ | refine Rn.inBlock hc ?_ | refine Rn.scope hc ?_ | refine Rn.inScope hc ?_))
      refine Rn.reg hc rfl ?_
      simp only [zAS,gd,zAX,rops,fx,zOi,zEl,Bool.not_true,Bool.not_true]
      (repeat (first | refine Rn.seq hc ?_ | refine Rn.skip hc ?_ | refine Rn.block hc ?_ | refine Rn.inBlock hc ?_ | refine Rn.scope hc ?_ | refine Rn.inScope hc ?_))
      exact Rn.ret (zAO rfl ⟨by simp only [zAU,sp_n,Nat.reduceLT],hxx⟩)
end Go.Proofs.Ytdaljohmfnfgiaa
namespace Go.Proofs.Ytdaljohmfnfgiaa
open Go Go.RowKit Go.Proofs.Ytdaljohmfnfgiaa.Canon
set_option maxRecDepth 20000
structure Las where
  m : Int
  sa : Option Addr
  sc : Nat
  st : List Int
  ra : Option Addr
  rc : Nat
  ro : List Int
def Las.ok (x : Las) (A : AHeap) : Prop := Ints A x.sa 0 A.next x.st ∧ Ints A x.ra 0 A.next x.ro ∧ x.st.length < 4611686018427387904 ∧ x.ro.length < 4611686018427387904
theorem Las.ok.nx {x : Las} {A B : AHeap} (h : x.ok A) (hx : Nx A.next A B) : x.ok B :=
  ⟨(h.1.nx hx (Nat.le_refl _)).mono (Nat.le_refl _) hx.next,(h.2.1.nx hx (Nat.le_refl _)).mono (Nat.le_refl _) hx.next,h.2.2⟩
def Las.err (x : Las) : Int := errL x.m x.st x.ro
def zBI : Las := ⟨0,none,0,[],none,0,[]⟩
def LRow (A : AHeap) (a : Option Addr) (l : List Las) : Prop := ∀ i,i < l.length → (l.getD i zBI).ok A ∧ ∃ b o,a = some ⟨b,o,none⟩ ∧ b < A.next ∧ cl A b (o + i * 3) = some (.int .i64 (l.getD i zBI).m) ∧ cl A b (o + i * 3 + 1) = some (.slice (l.getD i zBI).sa (l.getD i zBI).st.length (l.getD i zBI).sc) ∧ cl A b (o + i * 3 + 2) = some (.slice (l.getD i zBI).ra (l.getD i zBI).ro.length (l.getD i zBI).rc)
theorem LRow.nx {A B : AHeap} {a : Option Addr} {l : List Las} (h : LRow A a l) (hx : Nx A.next A B) : LRow B a l := fun i hi => by
  obtain ⟨h1,b,o,h2,h3,h4,h5,h6⟩ := h i hi
  exact ⟨h1.nx hx,b,o,h2,by have := hx.next; omega,by rw [hx.cl h3]; exact h4,by rw [hx.cl h3]; exact h5,by rw [hx.cl h3]; exact h6⟩
def clash (m : Int) (l : List Las) : Int := if l.all (fun x => decide (x.m = m)) = true then 0 else 7
def errs : List Las → List Las → Int
  | all,[] => clash (all.getD 0 zBI).m all
  | all,x :: l => if x.err = 0 then errs all l else x.err
theorem errs_drop (all : List Las) {l : List Las} {i : Nat} (hi : i < l.length) : errs all (l.drop i) = if (l.getD i zBI).err = 0 then errs all (l.drop (i + 1)) else (l.getD i zBI).err := by
  rw [List.drop_eq_getElem_cons hi,errs,List.getD_eq_getElem?_getD,List.getElem?_eq_getElem hi]
  rfl
theorem put24 {A : AHeap} (hw : WF A) {v0 v1 v2 : Value} (h : [v0,v1,v2].all zBY = true) : ∃ A2,sts (A.push (.cells #[.int .i64 0,.slice none 0 0,.slice none 0 0] 24)) A.next 0 [v0,v1,v2] = some A2 ∧ Nx A.next A A2 ∧ A2.next = A.next + 1 ∧ cl A2 A.next 0 = some v0 ∧ cl A2 A.next 1 = some v1 ∧ cl A2 A.next 2 = some v2 := by
  have hx1 : Nx A.next A (A.push (.cells #[.int .i64 0,.slice none 0 0,.slice none 0 0] 24)) := (Nx.refl hw _).push (Nat.le_refl _) _
  obtain ⟨A2,c2,q1,q2,q3,q4⟩ := zCV (l := [v0,v1,v2]) (o := 0) (zAI A (.cells #[.int .i64 0,.slice none 0 0,.slice none 0 0] 24)) rfl (by simp) h
  exact ⟨A2,q1,hx1.trans (q2.nx hx1.wf (Nat.le_refl _)),q2.next,by rw [q2.cl,q4]; rfl,by rw [q2.cl,q4]; rfl,by rw [q2.cl,q4]; rfl⟩
theorem check_all {A : AHeap} (hw : WF A) {a : Option Addr} {c : Nat} {l : List Las} (hl : LRow A a l) (hlen : l.length < 4611686018427387904) :
    Con Try.prog 68 [.slice a l.length c] A (fun v A1 => v = .int .i64 (errs l l) ∧ Nx A.next A A1) := by
  refine zAF hc Try.func68 rfl (Nat.le_of_ble_eq_true rfl) ?_
  rw [s_in1]
  (repeat (first | refine Rn.seq hc ?_ | refine Rn.skip hc ?_ | refine Rn.block hc ?_ | refine Rn.inBlock hc ?_ | refine Rn.scope hc ?_ | refine Rn.inScope hc ?_))
  refine Rn.reg hc rfl ?_
  simp only [zAS,gd,zAX,rops,fx,zOi,zEl,show Try.f68.ntmps = 34 from rfl]
  (repeat (first | refine Rn.seq hc ?_ | refine Rn.skip hc ?_ | refine Rn.block hc ?_ | refine Rn.inBlock hc ?_ | refine Rn.scope hc ?_ | refine Rn.inScope hc ?_))
  refine Rn.reg hc rfl ?_
  simp only [zAY,zAS,zAU,zAT,sp_n,Nat.reduceLT,ne_eq,Nat.reduceEqDiff,zNf,gd,zAX,rops,fx,lng,zOi,zEl,un46]
  (repeat (first | refine Rn.seq hc ?_ | refine Rn.skip hc ?_ | refine Rn.block hc ?_ | refine Rn.inBlock hc ?_ | refine Rn.scope hc ?_ | refine Rn.inScope hc ?_))
  refine Rn.zDY hc (I := fun k s A' => ∃ i,i ≤ l.length ∧ k = l.length - i ∧ Nx A.next A A' ∧ s.n = 34 ∧ sget s 0 = .slice a l.length c ∧ sget s 8 = .slice a l.length c ∧ sget s 9 = .int .i64 (l.length : Int) ∧ sget s 10 = .int .i64 (i : Int) ∧ errs l l = errs l (l.drop i))
    (n := l.length) ⟨0,by omega,rfl,Nx.refl hw _,by simp only [sp_n],by simp only [zAU,zAT,Nat.reduceLT,ne_eq,Nat.reduceEqDiff,zNf],by simp only [zAU,zAT,sp_n,Nat.reduceLT,ne_eq,Nat.reduceEqDiff,zNf],by simp only [zAU,zAT,sp_n,Nat.reduceLT,ne_eq,Nat.reduceEqDiff,zNf],by simp only [zAU,sp_n,Nat.reduceLT]; rfl,rfl⟩ ?_
  rintro k s A' ⟨i,hi,rfl,hA,hn,s0,s8,s9,s10,hall⟩ ih
  (repeat (first | refine Rn.seq hc ?_ | refine Rn.skip hc ?_ | refine Rn.block hc ?_ | refine Rn.inBlock hc ?_ | refine Rn.scope hc ?_ | refine Rn.inScope hc ?_))
  by_cases hlt : i < l.length
  · have hd : decide ((i : Int) < (l.length : Int)) = true := by simp; omega
    obtain ⟨hok,b,o,rfl,hbb,c0,c1,c2⟩ := (hl.nx hA) i hlt
    rw [errs_drop l hlt] at hall
    obtain ⟨A2,p1,hx2,hn2,d0,d1,d2⟩ := put24 hA.wf (v0 := .int .i64 (l.getD i zBI).m) (v1 := .slice (l.getD i zBI).sa (l.getD i zBI).st.length (l.getD i zBI).sc) (v2 := .slice (l.getD i zBI).ra (l.getD i zBI).ro.length (l.getD i zBI).rc) rfl
    have hok2 := hok.nx hx2
    refine Rn.reg hc rfl ?_
    simp only [zAY,gd,zAX,rops,fx,zAN,zOi,zEl,s9,s10,hd]
    (repeat (first | refine Rn.seq hc ?_ | refine Rn.skip hc ?_ | refine Rn.block hc ?_ | refine Rn.inBlock hc ?_ | refine Rn.scope hc ?_ | refine Rn.inScope hc ?_))
    refine Rn.zAM hc rfl ?_
    simp only [zAY,zAU,Nat.reduceLT,Value.bool.injEq,zEl,hn]
    (repeat (first | refine Rn.seq hc ?_ | refine Rn.skip hc ?_ | refine Rn.block hc ?_ | refine Rn.inBlock hc ?_ | refine Rn.scope hc ?_ | refine Rn.inScope hc ?_))
    refine Rn.reg hc rfl ?_
    simp only [zAY,zAU,zAT,sp_n,zAK,Nat.reduceLT,ne_eq,Nat.reduceEqDiff,zNf,gd,zAX,rops,fx,ld,str,idx,zAR,cls,Nat.zero_add,zOi,zEl,Value.cells,Nat.reduceAdd,tk24,eo46,hn,s8,s10,zAQ hlt,c0,c1,c2,ze24,p1,List.size_toArray,List.length_cons,List.length_nil,Nat.beq_refl]
    (repeat (first | refine Rn.seq hc ?_ | refine Rn.skip hc ?_ | refine Rn.block hc ?_ | refine Rn.inBlock hc ?_ | refine Rn.scope hc ?_ | refine Rn.inScope hc ?_))
    refine Rn.region hc fun K hK => ?_
    refine Wo.run hc 1 rfl rfl rfl ?_
    simp (maxSteps := 2000000) only [List.drop_zero,List.take_succ_cons,List.take_zero,zAY,zAU,sp_n,Nat.reduceLT,gd,zAX,rops,fx,ld,zAR,cls,Nat.zero_add,Option.some.injEq,exists_eq_left',Nat.reduceAdd,tk24,hn,d0,d1,d2]
    refine Wo.call hc (by rfl) (by rfl) ⟨by rfl,by rfl⟩ (xs := [.agg #[.int .i64 (l.getD i zBI).m,.slice (l.getD i zBI).sa (l.getD i zBI).st.length (l.getD i zBI).sc,.slice (l.getD i zBI).ra (l.getD i zBI).ro.length (l.getD i zBI).rc]]) (by rfl) (by rfl) (by simp only [zAY,zAU,sp_n,Nat.reduceLT,List.map_cons,List.map_nil,List.nil_append,List.append_nil,hn]) (Con.mono (check_one hx2.wf hok2.1 hok2.2.1 hok2.2.2.1 hok2.2.2.2) ?_)
    rintro v A3 ⟨rfl,h3⟩
    refine Wo.run hc 1 rfl rfl rfl ?_
    simp (maxSteps := 2000000) only [List.drop_zero,List.drop_succ_cons,List.take_succ_cons,List.take_zero,zAY,zAU,sp_n,Nat.reduceLT,gd,zAX,rops,fx,Option.some.injEq,exists_eq_left',Nat.reduceAdd,hn]
    refine Wo.done hc rfl (hK _ _ ?_)
    clear hK
    (repeat (first | refine Rn.seq hc ?_ | refine Rn.skip hc ?_ | refine Rn.block hc ?_ | refine Rn.inBlock hc ?_ | refine Rn.scope hc ?_ | refine Rn.inScope hc ?_))
    have hA3 : Nx A.next A A3 := hA.trans ((hx2.le hA.next).trans (h3.le (by have := hx2.next; have := hA.next; omega)))
    by_cases he : (l.getD i zBI).err = 0
    · rw [if_pos he] at hall
      have hd2 : (!decide (errL (l.getD i zBI).m (l.getD i zBI).st (l.getD i zBI).ro = 0)) = false := by
        unfold Las.err at he
        rw [decide_eq_true he]; rfl
      refine Rn.reg hc rfl ?_
      simp only [zAY,zAS,zAU,sp_n,Nat.reduceLT,gd,zAX,rops,fx,zBX,zOi,zEl,hn,hd2]
      (repeat (first | refine Rn.seq hc ?_ | refine Rn.skip hc ?_ | refine Rn.block hc ?_ | refine Rn.inBlock hc ?_ | refine Rn.scope hc ?_ | refine Rn.inScope hc ?_))
      refine Rn.zAM hc rfl ?_
      simp only [zAY,zAU,sp_n,Nat.reduceLT,Value.bool.injEq,zEl,hn]
      (repeat (first | refine Rn.seq hc ?_ | refine Rn.skip hc ?_ | refine Rn.block hc ?_ | refine Rn.inBlock hc ?_ | refine Rn.scope hc ?_ | refine Rn.inScope hc ?_))
      refine Rn.reg hc rfl ?_
      simp only [zAY,zAS,zAU,zAT,sp_n,Nat.reduceLT,ne_eq,Nat.reduceEqDiff,zNf,gd,zAX,rops,fx,zAH,zOi,zEl,hn,s10,zBZ (show i < 9223372036854775807 by omega)]
      (repeat (first | refine Rn.seq hc ?_ | refine Rn.skip hc ?_ | refine Rn.block hc ?_ | refine Rn.inBlock hc ?_ | refine Rn.scope hc ?_ | refine Rn.inScope hc ?_))
      exact ih _ _ _ (by omega) ⟨i + 1,by omega,rfl,hA3,by simp only [sp_n,hn],by simp only [zAT,ne_eq,Nat.reduceEqDiff,zNf,s0],by simp only [zAT,ne_eq,Nat.reduceEqDiff,zNf,s8],by simp only [zAT,ne_eq,Nat.reduceEqDiff,zNf,s9],by simp only [zAU,sp_n,Nat.reduceLT,hn],hall⟩
    · rw [if_neg he] at hall
      have hd2 : (!decide (errL (l.getD i zBI).m (l.getD i zBI).st (l.getD i zBI).ro = 0)) = true := by
        unfold Las.err at he
        rw [decide_eq_false he]; rfl
      refine Rn.reg hc rfl ?_
      simp only [zAY,zAS,zAU,sp_n,Nat.reduceLT,gd,zAX,rops,fx,zBX,zOi,zEl,hn,hd2]
      (repeat (first | refine Rn.seq hc ?_ | refine Rn.skip hc ?_ | refine Rn.block hc ?_ | refine Rn.inBlock hc ?_ | refine Rn.scope hc ?_ | refine Rn.inScope hc ?_))
      refine Rn.zAM hc rfl ?_
      simp only [zAY,zAU,sp_n,Nat.reduceLT,Value.bool.injEq,zEl,hn]
      (repeat (first | refine Rn.seq hc ?_ | refine Rn.skip hc ?_ | refine Rn.block hc ?_ | refine Rn.inBlock hc ?_ | refine Rn.scope hc ?_ | refine Rn.inScope hc ?_))
      refine Rn.reg hc rfl ?_
      simp only [zAY,zAU,zAT,sp_n,Nat.reduceLT,ne_eq,Nat.reduceEqDiff,zNf,gd,zAX,rops,fx,zOi,zEl,hn]
      (repeat (first | refine Rn.seq hc ?_ | refine Rn.skip hc ?_ | refine Rn.block hc ?_ | refine Rn.inBlock hc ?_ | refine Rn.scope hc ?_ | refine Rn.inScope hc ?_))
      refine Rn.ret (zAO rfl ⟨?_,hA3⟩)
      simp only [zAU,sp_n,Nat.reduceLT,hn]
      rw [hall]
      rfl
  · have hd : decide ((i : Int) < (l.length : Int)) = false := by simp; omega
    have hil : i = l.length := by omega
    subst hil
    rw [List.drop_length,errs] at hall
    rw [hall]
    clear hall ih
    refine Rn.reg hc rfl ?_
    simp only [zAY,gd,zAX,rops,fx,zAN,zOi,zEl,s9,s10,hd]
    (repeat (first | refine Rn.seq hc ?_ | refine Rn.skip hc ?_ | refine Rn.block hc ?_ | refine Rn.inBlock hc ?_ | refine Rn.scope hc ?_ | refine Rn.inScope hc ?_))
    refine Rn.zAM hc rfl ?_
    simp only [zAY,zAU,Nat.reduceLT,Value.bool.injEq,zEl,hn]
    (repeat (first | refine Rn.seq hc ?_ | refine Rn.skip hc ?_ | refine Rn.block hc ?_ | refine Rn.inBlock hc ?_ | refine Rn.scope hc ?_ | refine Rn.inScope hc ?_))
    refine Rn.exit hc rfl ?_
    (repeat (first | refine Rn.seq hc ?_ | refine Rn.skip hc ?_ | refine Rn.block hc ?_ | refine Rn.inBlock hc ?_ | refine Rn.scope hc ?_ | refine Rn.inScope hc ?_))
    refine Rn.reg hc rfl ?_
    simp only [zAY,zAS,zAU,zAT,sp_n,Nat.reduceLT,ne_eq,Nat.reduceEqDiff,zNf,gd,zAX,rops,fx,lng,zOi,zEl,un46,hn,s0]
    (repeat (first | refine Rn.seq hc ?_ | refine Rn.skip hc ?_ | refine Rn.block hc ?_ | refine Rn.inBlock hc ?_ | refine Rn.scope hc ?_ | refine Rn.inScope hc ?_))
    refine Rn.zDY hc (I := fun k s A' => ∃ i,i ≤ l.length ∧ k = l.length - i ∧ Nx A.next A A' ∧ s.n = 34 ∧ sget s 0 = .slice a l.length c ∧ sget s 20 = .slice a l.length c ∧ sget s 21 = .int .i64 (l.length : Int) ∧ sget s 22 = .int .i64 (i : Int) ∧ (l.take i).all (fun x => decide (x.m = (l.getD 0 zBI).m)) = true)
      (n := l.length) ⟨0,by omega,rfl,hA,by simp only [sp_n,hn],by simp only [zAT,ne_eq,Nat.reduceEqDiff,zNf,s0],by simp only [zAU,zAT,sp_n,Nat.reduceLT,ne_eq,Nat.reduceEqDiff,zNf,hn],by simp only [zAU,zAT,sp_n,Nat.reduceLT,ne_eq,Nat.reduceEqDiff,zNf,hn],by simp only [zAU,sp_n,Nat.reduceLT,hn]; rfl,rfl⟩ ?_
    clear hA hn s0 s8 s9 s10 hd
    clear s A'
    rintro k s A' ⟨i,hi,rfl,hA,hn,s0,s8,s9,s10,hall⟩ ih
    (repeat (first | refine Rn.seq hc ?_ | refine Rn.skip hc ?_ | refine Rn.block hc ?_ | refine Rn.inBlock hc ?_ | refine Rn.scope hc ?_ | refine Rn.inScope hc ?_))
    by_cases hlt : i < l.length
    · have hd : decide ((i : Int) < (l.length : Int)) = true := by simp; omega
      obtain ⟨hok,b,o,rfl,hbb,c0,c1,c2⟩ := (hl.nx hA) i hlt
      obtain ⟨_,b',o',e,_,z0,z1,z2⟩ := (hl.nx hA) 0 (by omega)
      cases e
      obtain ⟨A2,p1,hx2,hn2,d0,d1,d2⟩ := put24 hA.wf (v0 := .int .i64 (l.getD i zBI).m) (v1 := .slice (l.getD i zBI).sa (l.getD i zBI).st.length (l.getD i zBI).sc) (v2 := .slice (l.getD i zBI).ra (l.getD i zBI).ro.length (l.getD i zBI).rc) rfl
      have z0' : cl A2 b (o + 0 * 3) = _ := (hx2.cl hbb _).trans z0
      rw [Nat.zero_mul,Nat.add_zero] at z0'
      have hA2 : Nx A.next A A2 := hA.trans (hx2.le hA.next)
      have n0 : nlen (.int .i64 0) l.length = some 0 := zAQ (j := 0) (by omega)
      refine Rn.reg hc rfl ?_
      simp only [zAY,gd,zAX,rops,fx,zAN,zOi,zEl,s9,s10,hd]
      (repeat (first | refine Rn.seq hc ?_ | refine Rn.skip hc ?_ | refine Rn.block hc ?_ | refine Rn.inBlock hc ?_ | refine Rn.scope hc ?_ | refine Rn.inScope hc ?_))
      refine Rn.zAM hc rfl ?_
      simp only [zAY,zAU,Nat.reduceLT,Value.bool.injEq,zEl,hn]
      (repeat (first | refine Rn.seq hc ?_ | refine Rn.skip hc ?_ | refine Rn.block hc ?_ | refine Rn.inBlock hc ?_ | refine Rn.scope hc ?_ | refine Rn.inScope hc ?_))
      refine Rn.reg hc rfl ?_
      simp only [zAY,zAU,zAT,sp_n,zAK,Nat.reduceLT,ne_eq,Nat.reduceEqDiff,zNf,gd,zAX,rops,fx,ld,str,idx,zAR,cls,Nat.zero_add,zOi,zEl,Value.cells,Nat.reduceAdd,tk24,eo46,hn,s8,s10,zAQ hlt,c0,c1,c2,ze24,p1,List.size_toArray,List.length_cons,List.length_nil,Nat.beq_refl]
      (repeat (first | refine Rn.seq hc ?_ | refine Rn.skip hc ?_ | refine Rn.block hc ?_ | refine Rn.inBlock hc ?_ | refine Rn.scope hc ?_ | refine Rn.inScope hc ?_))
      by_cases hv : (l.getD i zBI).m = (l.getD 0 zBI).m
      · have hd3 : (!decide ((l.getD i zBI).m = (l.getD 0 zBI).m)) = false := by rw [decide_eq_true hv]; rfl
        refine Rn.zDV hc hx (by kernel_rfl) (by rfl) (by kernel_rfl) ?_ ?_
        · simp only [rdV,VQ.int,VQ.bool,VQ.ptr,VQ.slice,zBT,zAY,zAS,zAU,zAT,sp_n,Nat.reduceLT,ne_eq,Nat.reduceEqDiff,zNf,gd,zAX,fx,ld,fad,idx,zBX,zAR,Nat.zero_add,Nat.add_zero,Nat.reduceAdd,and_self,tk3,zBJ,eo46,hn,s0,n0,d0,z0',Nat.zero_mul,hd3,List.length_cons,List.length_nil]
        simp only [zBT,zAY,zAS,zAU,zAT,sp_n,Nat.reduceLT,ne_eq,Nat.reduceEqDiff,zNf,gd,zAX,rops,fx,ld,fad,idx,zBX,zAR,Nat.zero_add,Nat.add_zero,zOi,zEl,Nat.reduceAdd,tk3,zBJ,eo46,hn,s0,n0,d0,z0',Nat.zero_mul,hd3,List.length_cons,List.length_nil]
        (repeat (first | refine Rn.seq hc ?_ | refine Rn.skip hc ?_ | refine Rn.block hc ?_ | refine Rn.inBlock hc ?_ | refine Rn.scope hc ?_ | refine Rn.inScope hc ?_))
        refine Rn.zAM hc rfl ?_
        simp only [zAY,zAU,sp_n,Nat.reduceLT,Value.bool.injEq,zEl,hn]
        (repeat (first | refine Rn.seq hc ?_ | refine Rn.skip hc ?_ | refine Rn.block hc ?_ | refine Rn.inBlock hc ?_ | refine Rn.scope hc ?_ | refine Rn.inScope hc ?_))
        refine Rn.reg hc rfl ?_
        simp only [zAY,zAS,zAU,zAT,sp_n,Nat.reduceLT,ne_eq,Nat.reduceEqDiff,zNf,gd,zAX,rops,fx,zAH,zOi,zEl,hn,s10,zBZ (show i < 9223372036854775807 by omega)]
        (repeat (first | refine Rn.seq hc ?_ | refine Rn.skip hc ?_ | refine Rn.block hc ?_ | refine Rn.inBlock hc ?_ | refine Rn.scope hc ?_ | refine Rn.inScope hc ?_))
        exact ih _ _ _ (by omega) ⟨i + 1,by omega,rfl,Nx.bump hA2 _,by simp only [sp_n,hn],by simp only [zAT,ne_eq,Nat.reduceEqDiff,zNf,s0],by simp only [zAT,ne_eq,Nat.reduceEqDiff,zNf,s8],by simp only [zAT,ne_eq,Nat.reduceEqDiff,zNf,s9],by simp only [zAU,sp_n,Nat.reduceLT,hn],by rw [all_take _ _ zBI hlt,hall,decide_eq_true hv]; rfl⟩
      · have hd3 : (!decide ((l.getD i zBI).m = (l.getD 0 zBI).m)) = true := by rw [decide_eq_false hv]; rfl
        refine Rn.zDV hc hx (by kernel_rfl) (by rfl) (by kernel_rfl) ?_ ?_
        · simp only [rdV,VQ.int,VQ.bool,VQ.ptr,VQ.slice,zBT,zAY,zAS,zAU,zAT,sp_n,Nat.reduceLT,ne_eq,Nat.reduceEqDiff,zNf,gd,zAX,fx,ld,fad,idx,zBX,zAR,Nat.zero_add,Nat.add_zero,Nat.reduceAdd,and_self,tk3,zBJ,eo46,hn,s0,n0,d0,z0',Nat.zero_mul,hd3,List.length_cons,List.length_nil]
        simp only [zBT,zAY,zAS,zAU,zAT,sp_n,Nat.reduceLT,ne_eq,Nat.reduceEqDiff,zNf,gd,zAX,rops,fx,ld,fad,idx,zBX,zAR,Nat.zero_add,Nat.add_zero,zOi,zEl,Nat.reduceAdd,tk3,zBJ,eo46,hn,s0,n0,d0,z0',Nat.zero_mul,hd3,List.length_cons,List.length_nil]
        (repeat (first | refine Rn.seq hc ?_ | refine Rn.skip hc ?_ | refine Rn.block hc ?_ | refine Rn.inBlock hc ?_ | refine Rn.scope hc ?_ | refine Rn.inScope hc ?_))
        refine Rn.zAM hc rfl ?_
        simp only [zAY,zAU,sp_n,Nat.reduceLT,Value.bool.injEq,zEl,hn]
        (repeat (first | refine Rn.seq hc ?_ | refine Rn.skip hc ?_ | refine Rn.block hc ?_ | refine Rn.inBlock hc ?_ | refine Rn.scope hc ?_ | refine Rn.inScope hc ?_))
        refine Rn.reg hc rfl ?_
        simp only [zAS,gd,zAX,rops,fx,zOi,zEl]
        (repeat (first | refine Rn.seq hc ?_ | refine Rn.skip hc ?_ | refine Rn.block hc ?_ | refine Rn.inBlock hc ?_ | refine Rn.scope hc ?_ | refine Rn.inScope hc ?_))
        refine Rn.ret (zAO rfl ⟨?_,Nx.bump hA2 _⟩)
        simp only [zAU,sp_n,Nat.reduceLT,hn]
        have : l.all (fun x => decide (x.m = (l.getD 0 zBI).m)) = false := all_not _ _ zBI hlt (by rw [decide_eq_false hv])
        unfold clash
        rw [this]
        rfl
    · have hd : decide ((i : Int) < (l.length : Int)) = false := by simp; omega
      have hil : i = l.length := by omega
      subst hil
      rw [List.take_length] at hall
      refine Rn.reg hc rfl ?_
      simp only [zAY,gd,zAX,rops,fx,zAN,zOi,zEl,s9,s10,hd]
      (repeat (first | refine Rn.seq hc ?_ | refine Rn.skip hc ?_ | refine Rn.block hc ?_ | refine Rn.inBlock hc ?_ | refine Rn.scope hc ?_ | refine Rn.inScope hc ?_))
      refine Rn.zAM hc rfl ?_
      simp only [zAY,zAU,Nat.reduceLT,Value.bool.injEq,zEl,hn]
      (repeat (first | refine Rn.seq hc ?_ | refine Rn.skip hc ?_ | refine Rn.block hc ?_ | refine Rn.inBlock hc ?_ | refine Rn.scope hc ?_ | refine Rn.inScope hc ?_))
      refine Rn.exit hc rfl ?_
      (repeat (first | refine Rn.seq hc ?_ | refine Rn.skip hc ?_ | refine Rn.block hc ?_ | refine Rn.inBlock hc ?_ | refine Rn.scope hc ?_ | refine Rn.inScope hc ?_))
      refine Rn.reg hc rfl ?_
      simp only [zAS,gd,zAX,rops,fx,zOi,zEl]
      (repeat (first | refine Rn.seq hc ?_ | refine Rn.skip hc ?_ | refine Rn.block hc ?_ | refine Rn.inBlock hc ?_ | refine Rn.scope hc ?_ | refine Rn.inScope hc ?_))
      refine Rn.ret (zAO rfl ⟨?_,hA⟩)
      simp only [zAU,sp_n,Nat.reduceLT,hn]
      unfold clash
      rw [hall]
      rfl
end Go.Proofs.Ytdaljohmfnfgiaa
namespace Go.Proofs.Ytdaljohmfnfgiaa
open Go Go.RowKit Go.Proofs.Ytdaljohmfnfgiaa.Canon
set_option maxRecDepth 20000
end Go.Proofs.Ytdaljohmfnfgiaa
namespace Go.Proofs.Ytdaljohmfnfgiaa
open Go Go.RowKit Go.Proofs.Ytdaljohmfnfgiaa.Canon
set_option maxRecDepth 20000
theorem asl_hi {A : AHeap} {a : Option Addr} {c lo hi : Nat} {l : List Int} (h : Ints A a lo hi l) (hs : Sl A a lo) (hc' : l.length ≤ c) {n : Nat} (hn : n ≤ l.length) :
    ∃ a' c',asl Try.prog 22 (.slice a l.length c) none (some (.int .i64 (n : Int))) none A = some (.slice a' (l.take n).length c',A) ∧ Ints A a' lo hi (l.take n) := by
  obtain ⟨_,i,z,hinf,_,_,_,hsz,_⟩ := elB_eq el22
  have hlen : (l.take n).length = n := by simp; omega
  have hb1 : zBN (some (.int .i64 (n : Int))) l.length = some n := by simp [zBN]
  have hb0 : ∀ d,zBN none d = some d := fun _ => rfl
  have t1 : Nat.ble 0 n = true := Nat.ble_eq_true_of_le (Nat.zero_le _)
  have t2 : Nat.ble n c = true := Nat.ble_eq_true_of_le (by omega)
  have t3 : Nat.ble c c = true := Nat.ble_eq_true_of_le (Nat.le_refl _)
  have hsub : ∀ {b o : Nat},a = some ⟨b,o,none⟩ → Ints A (some ⟨b,o,none⟩) lo hi (l.take n) := fun {b o} e i hi' => by
    obtain ⟨b',o',q1,q2,q3,q4⟩ := h i (by omega)
    rw [e] at q1
    cases q1
    refine ⟨_,_,rfl,q2,q3,?_⟩
    rw [q4]
    simp only [List.getD_eq_getElem?_getD,List.getElem?_take]
    rw [if_pos (by omega)]
  rw [hlen]
  cases a with
  | none =>
    have h00 := h.some
    refine ⟨none,c,?_,fun i hi' => by omega⟩
    simp only [asl,un22,hinf,hb0,hb1,t2,Option.isSome_none,Bool.not_false,Bool.true_or,Nat.sub_zero]
    rw [t1,t3]
  | some x =>
    obtain ⟨hsp,_,y,hy,hg⟩ := hs x rfl
    obtain ⟨b,o,sp⟩ := x
    simp only at hsp hy
    subst hsp
    obtain ⟨ob,g,zz⟩ := y
    rcases hg with hg | ⟨hg,_,hz⟩
    · simp only at hg
      subst hg
      refine ⟨if c = 0 then some ⟨b,o,none⟩ else some ((⟨b,o,none⟩ : Addr).add (0 * i.size)),c,?_,?_⟩
      · simp only [asl,un22,hinf,hb0,hb1,t2,Option.isSome_none,Bool.not_false,Bool.true_or,Nat.sub_zero,hy]
        rw [t1,t3]
        by_cases hc0 : c = 0
        · simp only [hc0,if_pos]
        · simp only [hc0,if_false]
      · split
        · exact hsub rfl
        · rw [Nat.zero_mul]
          exact hsub rfl
    · simp only at hg hz
      subst hg hz
      have hz : Nat.beq 1 i.size = true := by rw [hsz]; rfl
      by_cases hc0 : c = 0
      · subst hc0
        have hn0 : n = 0 := by omega
        subst hn0
        refine ⟨some ⟨b,o,none⟩,0,?_,hsub rfl⟩
        simp only [asl,un22,hinf,hb0,hb1,Option.isSome_none,Bool.not_false,Bool.true_or,Nat.sub_zero,hy,hz]
        rfl
      · have hcb : Nat.beq c 0 = false := by
          cases hh : Nat.beq c 0 with
          | false => rfl
          | true => exact absurd (Nat.eq_of_beq_eq_true hh) hc0
        refine ⟨some ((⟨b,o,none⟩ : Addr).add (0 * i.size)),c,?_,by rw [Nat.zero_mul]; exact hsub rfl⟩
        simp only [asl,un22,hinf,hb0,hb1,t2,Option.isSome_none,Bool.not_false,Bool.true_or,Nat.sub_zero,hy,hz]
        rw [t1,t3]
        simp only [hcb]
end Go.Proofs.Ytdaljohmfnfgiaa
namespace Go.Proofs.Ytdaljohmfnfgiaa
open Go Go.RowKit Go.Proofs.Ytdaljohmfnfgiaa.Canon
set_option maxRecDepth 20000
section
variable {ρ : Operand → Value} {d : Option Tmp} {ty : TypeId} {pos : String} {af : Array Edge} {gu : Option (Nat × Bool)} {A : AHeap}
theorem so46_1 : sof Try.prog 46 1 = .mk (fun k => some (k * 3,3)) 3 [.int .i64 0,.slice none 0 0,.slice none 0 0] := by kernel_rfl
theorem et46 : elemT Try.prog 46 = some 24 := by kernel_rfl
theorem bs46_1 {x : Tmp} (h : (ρ (.tmp x)).cells.size = 3) : zAE Try.prog ρ ⟨d,.buildSlice 46 1 #[(0,.tmp x)],ty,pos,af,gu⟩ A = some (.slice (some ⟨A.next,0,none⟩) 1 1,A.push (.cells (ρ (.tmp x)).cells 24)) := by
  refine zDS (r := (ρ (.tmp x)).cells.toList) (by rfl) so46_1 et46 rfl ?_
  simp [fbld,h]
end
theorem errs_one (x : Las) : errs [x] [x] = x.err := by
  unfold errs
  split
  · rename_i h
    rw [h]
    simp [errs,clash]
  · rfl
theorem errL_pos {m : Int} {st ro : List Int} (h : errL m st ro = 0) : 0 < ro.length := by
  refine Nat.pos_of_ne_zero fun h0 => ?_
  have : badN st.length ro.length = true := by simp [badN,h0]
  unfold errL at h
  rw [if_pos this] at h
  split at h <;> cases h
end Go.Proofs.Ytdaljohmfnfgiaa
namespace Go.Proofs.Ytdaljohmfnfgiaa
open Go Go.RowKit Go.Proofs.Ytdaljohmfnfgiaa.Canon
set_option maxRecDepth 20000
section
variable {ρ : Operand → Value} {d : Option Tmp} {ty : TypeId} {pos : String} {af : Array Edge} {gu : Option (Nat × Bool)} {A : AHeap}
noncomputable def mnd (ats : Array TypeId) (ty : TypeId) (x y : Value) (A : AHeap) : Option (Value × AHeap) := match [x,y].all isNum with
  | true => arun Try.prog (Builtin.min_ ats ty #[x,y]) A
  | false => none
theorem mnd_int {ats : Array TypeId} {k : IntKind} {a b : Int} : mnd ats ty (.int k a) (.int k b) A = some (.int k (min a b),A) := by
  have : (if b < a then b else a) = min a b := by by_cases hh : b < a <;> simp [hh] <;> omega
  simp [mnd,isNum,Builtin.min_,Builtin.min2,this]
theorem ae_mnd {x y : Tmp} {ats : Array TypeId} : zAE Try.prog ρ ⟨d,.call ⟨.builtin .min,#[.tmp x,.tmp y],ats⟩,ty,pos,af,gu⟩ A = mnd ats ty (ρ (.tmp x)) (ρ (.tmp y)) A := by
  simp only [zAE,Op.operands,Call.operands]
  simp [zAC,zDR,mnd]
  rfl
end
end Go.Proofs.Ytdaljohmfnfgiaa
namespace Go.Proofs.Ytdaljohmfnfgiaa
open Go Go.RowKit Go.Proofs.Ytdaljohmfnfgiaa.Canon
set_option maxRecDepth 20000
theorem errL_len {m : Int} {st ro : List Int} (h : errL m st ro = 0) : st.length ≤ 60 ∧ ro.length ≤ 120 := by
  unfold errL at h
  split at h
  · cases h
  · split at h
    · cases h
    · rename_i h2
      simp [badN] at h2
      omega
end Go.Proofs.Ytdaljohmfnfgiaa
namespace Go.Proofs.Ytdaljohmfnfgiaa
open Go Go.RowKit Go.Proofs.Ytdaljohmfnfgiaa.Canon
set_option maxRecDepth 20000
section
variable {ρ : Operand → Value} {d : Option Tmp} {ty : TypeId} {pos : String} {af : Array Edge} {gu : Option (Nat × Bool)} {A : AHeap}
end
end Go.Proofs.Ytdaljohmfnfgiaa
namespace Go.Proofs.Ytdaljohmfnfgiaa
open Go Go.RowKit Go.Proofs.Ytdaljohmfnfgiaa.Canon
set_option maxRecDepth 20000
theorem endQ_none {f : Func} (hr : f.results = #[]) {Q : Value → AHeap → Prop} {s : Slots} {A : AHeap} {j : Jm} (hj : j = .fall ∨ j = .ret) (h : Q (.tuple #[]) A) : endQ Try.prog f Q j s [] A := by
  have e : zCK Try.prog f s A = some (.tuple #[],A) := by
    rw [sresults_eq]
    simp [results,hr]
  have : ∃ v A1,bdefs Try.prog f s [] A = .yes v A1 ∧ Q v A1 := by
    refine ⟨.tuple #[],A,?_,h⟩
    show VR.of (zCK Try.prog f s A) = _
    rw [e]
    rfl
  rcases hj with rfl | rfl <;> exact this
structure Kb (bN : Nat) (A B : AHeap) : Prop where
  next : A.next ≤ B.next
  wf : WF B
  keep : ∀ b,b < A.next → b ≠ bN → Canon.look B.objs b = Canon.look A.objs b
structure Src (bS bN : Nat) (m : Int) (sa : Option Addr) (sc : Nat) (st : List Int) (ra : Option Addr) (rc : Nat) (ro : List Int) (lim n : Nat) (A : AHeap) : Prop where
  wf : WF A
  lm : lim ≤ A.next
  s0 : cl A bS 0 = some (.int .i64 m)
  s1 : cl A bS 1 = some (.slice sa st.length sc)
  s2 : cl A bS 2 = some (.slice ra ro.length rc)
  at' : Canon.look A.objs bN = some ⟨.cells #[.int .i64 (n : Int)] 3,false,0⟩
  st' : Ints A sa 0 lim st
  ro' : Ints A ra 0 lim ro
variable {bS bN : Nat} {m : Int} {sa : Option Addr} {sc : Nat} {st : List Int} {ra : Option Addr} {rc : Nat} {ro : List Int} {lim : Nat}
end Go.Proofs.Ytdaljohmfnfgiaa
namespace Go.Proofs.Ytdaljohmfnfgiaa
open Go Go.RowKit Go.Proofs.Ytdaljohmfnfgiaa.Canon
set_option maxRecDepth 20000
def Bys (A : AHeap) (a : Option Addr) (lim n : Nat) : Prop := ∀ i,i < n → ∃ b o v,a = some ⟨b,o,none⟩ ∧ b < lim ∧ cl A b (o + i) = some (.int .u8 v)
structure Sack (A : AHeap) (b : Nat) (a : Option Addr) (n c lim nx : Nat) : Prop where
  wf : WF A
  lm : lim ≤ b
  at' : ∃ st,Canon.look A.objs b = some ⟨.cells #[.slice a n c,.int .i64 (nx : Int),.int .u64 st] 107,false,0⟩
  bys : Bys A a lim n
end Go.Proofs.Ytdaljohmfnfgiaa
namespace Go.Proofs.Ytdaljohmfnfgiaa
open Go Go.RowKit Go.Proofs.Ytdaljohmfnfgiaa.Canon
set_option maxRecDepth 20000
end Go.Proofs.Ytdaljohmfnfgiaa
namespace Go.Proofs.Ytdaljohmfnfgiaa
open Go Go.RowKit Go.Proofs.Ytdaljohmfnfgiaa.Canon
set_option maxRecDepth 20000
end Go.Proofs.Ytdaljohmfnfgiaa
namespace Go.Proofs.Ytdaljohmfnfgiaa
open Go Go.RowKit Go.Proofs.Ytdaljohmfnfgiaa.Canon
set_option maxRecDepth 20000
end Go.Proofs.Ytdaljohmfnfgiaa
namespace Go.Proofs.Ytdaljohmfnfgiaa
open Go Go.RowKit Go.Proofs.Ytdaljohmfnfgiaa.Canon
set_option maxRecDepth 20000
theorem ze22 : zCG Try.prog 22 = some (.slice none 0 0) := by kernel_rfl
theorem so22_1 : sof Try.prog 22 1 = .mk (fun k => some (k * 1,1)) 1 [.int .i64 0] := by kernel_rfl
section
variable {d : Option Tmp} {ty : TypeId} {pos : String} {af : Array Edge} {gu : Option (Nat × Bool)} {A : AHeap}
theorem bs22_1 {ρ : Operand → Value} {x : Tmp} (h : zBY (ρ (.tmp x)) = true) : zAE Try.prog ρ ⟨d,.buildSlice 22 1 #[(0,.tmp x)],ty,pos,af,gu⟩ A = some (.slice (some ⟨A.next,0,none⟩) 1 1,A.push (.cells #[ρ (.tmp x)] 3)) := by
  refine zDS (r := [ρ (.tmp x)]) (by rfl) so22_1 et22 rfl ?_
  simp [fbld,zBF h]
end
def takeL (st ro : List Int) (n many : Nat) : List Int := (List.range many).map fun i => atL st ro (n + i)
theorem takeL_len (st ro : List Int) (n many : Nat) : (takeL st ro n many).length = many := by simp [takeL]
theorem takeL_get (st ro : List Int) (n many : Nat) {i : Nat} (h : i < many) : (takeL st ro n many).getD i 0 = atL st ro (n + i) := by
  simp [takeL,List.getD_eq_getElem?_getD,h]
end Go.Proofs.Ytdaljohmfnfgiaa
namespace Go.Proofs.Ytdaljohmfnfgiaa
open Go Go.RowKit Go.Proofs.Ytdaljohmfnfgiaa.Canon
set_option maxRecDepth 20000
section
variable {ρ : Operand → Value} {d : Option Tmp} {ty : TypeId} {pos : String} {af : Array Edge} {gu : Option (Nat × Bool)} {A : AHeap}
theorem bo86 : bof Try.prog 86 = .mk (nthR [(0,3)]) 3 [.int .i64 0,.slice none 0 0,.slice none 0 0] := by kernel_rfl
theorem ze86 : zCG Try.prog 86 = some (.agg #[.int .i64 0,.slice none 0 0,.slice none 0 0]) := by kernel_rfl
theorem bd86 {x : Tmp} (h : (ρ (.tmp x)).cells.size = 3) : zAE Try.prog ρ ⟨d,.build 86 #[(0,.tmp x)],ty,pos,af,gu⟩ A = some (.agg (ρ (.tmp x)).cells,A) := by
  refine ae_build (r := (ρ (.tmp x)).cells.toList) (by rfl) bo86 rfl ?_
  simp [fbld,nthR,h]
end
end Go.Proofs.Ytdaljohmfnfgiaa
namespace Go.Proofs.Ytdaljohmfnfgiaa
open Go Go.RowKit Go.Proofs.Ytdaljohmfnfgiaa.Canon
set_option maxRecDepth 20000
end Go.Proofs.Ytdaljohmfnfgiaa
namespace Go.Proofs.Ytdaljohmfnfgiaa
open Go Go.RowKit Go.Proofs.Ytdaljohmfnfgiaa.Canon
set_option maxRecDepth 20000
section
variable {ρ : Operand → Value} {d : Option Tmp} {ty : TypeId} {pos : String} {af : Array Edge} {gu : Option (Nat × Bool)}
theorem fb22_1 {x : Tmp} {v : Value} (hv : ρ (.tmp x) = v) (hcv : zBY v = true) : fobj Try.prog ρ ⟨d,.buildSlice 22 1 #[(0,.tmp x)],ty,pos,af,gu⟩ = some ⟨[v],3,.sl 1 1⟩ := by
  have := fbld_fill (ρ := ρ) (pl := fun k => some (k * 1,1)) (n := 1) (ps := [(0,.tmp x)]) (cs := [.int .i64 0]) (r := [v]) rfl (by simp [fbld,hv,zBF hcv])
  have hok : ([((0 : Nat),Operand.tmp x)].all fun p => zAC p.2) = true := rfl
  simp only [fobj,so22_1,et22,hok,this]
end
theorem VQ.tuple {l : List Value} (h : ∀ v ∈ l,veq 4 v v = true) : VQ (.tuple ⟨l⟩) := by
  have h1 : veqs (veq 4) l l = true := VQ.agg h
  exact h1
theorem DrL.call {S : Canon.Spec} {ops : Array Oper} {F : AHeap → Prop} {nb i : Nat} {o : Oper} {os : List Oper} {T : Slots} {A : AHeap} {K : Slots → List AHeap → Prop} (he : zBD Try.prog (cvE Try.prog ops) o = true) (hf : isFl Try.prog o = false) (hA : F A) (hw : zCM (gd ops o) T = true) {R : Value → AHeap → Prop}
    (h : ∃ v A1,opRun Try.prog (runS Try.prog S) (zBP T) o A = some (v,A1) ∧ R v A1) (k : ∀ v A1,R v A1 → DrL Try.prog S ops F nb (i + 1) os (sput T o.dst v) [] A1 (fun T1 ms => K T1 (A :: ms))) : DrL Try.prog S ops F nb i (o :: os) T [] A K := by
  obtain ⟨v,A1,h1,h2⟩ := h
  exact DrL.eff he hf rfl rfl (ms0 := []) rfl (fun _ h => by cases h) hA hw h1 (k v A1 h2)
theorem Dr.call {S : Canon.Spec} {ops : Array Oper} {F : AHeap → Prop} {nb i : Nat} {o : Oper} {os : List Oper} {T : Slots} {A : AHeap} {K : Slots → List AHeap → Prop} (he : zBD Try.prog (cvE Try.prog ops) o = true) (hf : isFl Try.prog o = false) (hA : F A) (hw : zCM (gd ops o) T = true) {R : Value → AHeap → Prop}
    (h : ∃ v A1,opRun Try.prog (runS Try.prog S) (zBP T) o A = some (v,A1) ∧ R v A1) (k : ∀ v A1,R v A1 → Dr Try.prog S ops F nb (i + 1) os (sput T o.dst v) [] A1 (fun T1 ms => K T1 (A :: ms))) : Dr Try.prog S ops F nb i (o :: os) T [] A K := by
  obtain ⟨v,A1,h1,h2⟩ := h
  exact Dr.eff0 he hf hA hw h1 (k v A1 h2)
structure Gr (A : AHeap) (a : Option Addr) (lo : Nat) (l : List Int) : Prop where
  ints : Ints A a lo A.next l
  sl : Sl A a lo
  wr : ∀ x,a = some x → ∃ y,Canon.look A.objs x.block = some y ∧ isRO y.grown y.esz = false
theorem Gr.nil (A : AHeap) (lo : Nat) : Gr A none lo [] := ⟨fun i hi => by simp at hi,fun x hx => (by cases hx),fun x hx => (by cases hx)⟩
theorem Gr.mono {A : AHeap} {a : Option Addr} {lo lo' : Nat} {l : List Int} (h : Gr A a lo l) (hl : lo' ≤ lo) : Gr A a lo' l := ⟨h.ints.mono hl (Nat.le_refl _),h.sl.mono hl,h.wr⟩
theorem Gr.ext {A B : AHeap} {a : Option Addr} {lo : Nat} {l : List Int} (h : Gr A a lo l) (hn : A.next ≤ B.next) (he : ∀ b,lo ≤ b → Canon.look A.objs b = none ∨ Canon.look B.objs b = Canon.look A.objs b) : Gr B a lo l := ⟨h.ints.ext he hn,h.sl.ext he,fun x hx => by
  obtain ⟨_,q,_⟩ := h.sl x hx
  obtain ⟨y,h1,h2⟩ := h.wr x hx
  rcases he _ q with h0 | h0
  · rw [h0] at h1; cases h1
  · exact ⟨y,h0.trans h1,h2⟩⟩
theorem Gr.nx {A B : AHeap} {a : Option Addr} {lo n : Nat} {l : List Int} (h : Gr A a lo l) (hw : WF A) (hx : Nx A.next A B) : Gr B a lo l := h.ext hx.next fun b _ => by
  by_cases hb : b < A.next
  · exact .inr (hx.keep b hb)
  · exact .inl (hw.none (by omega))
theorem Gr.off {A B : AHeap} {a : Option Addr} {lo b : Nat} {l : List Int} (h : Gr A a lo l) {c : Array Value} (hk : Upd A b c B) (hb : b < lo) : Gr B a lo l := h.ext (Nat.le_of_eq hk.next.symm) fun b' hb' => .inr (hk.off b' (by omega))
theorem Gr.base {A : AHeap} {a : Option Addr} {lo : Nat} {l : List Int} (h : Gr A a lo l) : Base A a 1 := fun x hx => by
  obtain ⟨_,_,y,h1,h2⟩ := h.sl x hx
  exact ⟨y,h1,h2⟩
theorem gr_push {A : AHeap} (hw : WF A) {a : Option Addr} {lo : Nat} {l : List Int} (h : Gr A a lo l) {a2 : Option Addr} {c2 : Nat} {x : Int} {b2 : Nat} (ha2 : a2 = some ⟨b2,0,none⟩) (hx : cl A b2 0 = some (.int .i64 x)) (hlen : l.length ≤ 4000000) :
    ∃ A1,aapp Try.prog #[22,22] #[.slice a l.length l.length,.slice a2 1 c2] A = some (.slice (some ⟨A.next,0,none⟩) (l.length + 1) (l.length + 1),A1) ∧ A1.next = A.next + 1 ∧ WF A1 ∧ Gr A1 (some ⟨A.next,0,none⟩) A.next (l ++ [x]) ∧ (∀ b,b < A.next → (∀ y,a = some y → y.block ≠ b) → Canon.look A1.objs b = Canon.look A.objs b) ∧ Nx (min lo A.next) A A1 := by
  subst ha2
  obtain ⟨A1,h1,h2⟩ := aapp_new (P := Try.prog) (c := l.length) (c2 := c2) (a := a) (n := l.length) (l := l.map (Value.int .i64)) (m := 1) (a2 := some ⟨b2,0,none⟩) (l2 := [.int .i64 x]) el22 un22 h.ints.row (by simp) h.base (fun ha => by subst ha; exact h.ints.some)
    (.inr ⟨b2,0,rfl,fun i hi => by
      have : i = 0 := by simp at hi; omega
      subst this
      exact hx⟩) (by simp) rfl (fun h' => by cases h') (by omega) (by omega) (by omega)
  have hnx := h2.nx hw (n := min lo A.next) (Nat.min_le_right _ _) (fun y hy => by
    obtain ⟨_,q2,_⟩ := h.sl y hy
    exact .inl (by omega))
  refine ⟨A1,h1,h2.next,hnx.wf,⟨fun i hi => ⟨_,_,rfl,Nat.le_refl _,by rw [h2.next]; omega,?_⟩,fun y hy => by cases hy; exact ⟨rfl,Nat.le_refl _,_,h2.new,.inr ⟨rfl,rfl,rfl⟩⟩,fun y hy => by cases hy; exact ⟨_,h2.new,rfl⟩⟩,fun b hb hne => h2.old b (by omega) fun y hy => .inl (hne y hy),hnx⟩
  rw [h2.cl]
  simp only [Nat.zero_add,List.getD_eq_getElem?_getD]
  rw [List.length_append] at hi
  by_cases hil : i < l.length
  · rw [List.getElem?_append_left (by simpa using hil),List.getElem?_append_left hil]
    simp [hil]
  · have : i = l.length := by simp at hi; omega
    subst this
    simp
end Go.Proofs.Ytdaljohmfnfgiaa
namespace Go.Proofs.Ytdaljohmfnfgiaa
open Go Go.RowKit Go.Proofs.Ytdaljohmfnfgiaa.Canon
set_option maxRecDepth 20000
section
variable {ρ : Operand → Value} {d : Option Tmp} {ty : TypeId} {pos : String} {af : Array Edge} {gu : Option (Nat × Bool)} {A : AHeap}
theorem bd24_0 {x : Tmp} (hx : zBY (ρ (.tmp x)) = true) : zAE Try.prog ρ ⟨d,.build 24 #[(0,.tmp x)],ty,pos,af,gu⟩ A = some (.agg #[ρ (.tmp x),.slice none 0 0,.slice none 0 0],A) := by
  refine ae_build (by rfl) bo24 rfl ?_
  simp [fbld,nthR,zBF hx]
end
theorem put24L {A : AHeap} (hw : WF A) {v0 v1 v2 : Value} (h : [v0,v1,v2].all zBY = true) : ∃ A2,sts (A.push (.cells #[.int .i64 0,.slice none 0 0,.slice none 0 0] 24)) A.next 0 [v0,v1,v2] = some A2 ∧ Nx A.next A A2 ∧ A2.next = A.next + 1 ∧ Canon.look A2.objs A.next = some ⟨.cells #[v0,v1,v2] 24,false,0⟩ := by
  have hx1 : Nx A.next A (A.push (.cells #[.int .i64 0,.slice none 0 0,.slice none 0 0] 24)) := (Nx.refl hw _).push (Nat.le_refl _) _
  have hl := zAI A (.cells #[.int .i64 0,.slice none 0 0,.slice none 0 0] 24)
  obtain ⟨A2,c2,q1,q2,q3,q4⟩ := zCV (l := [v0,v1,v2]) (o := 0) hl rfl (by simp) h
  obtain ⟨c,t,f,g,e,r1,r2,_⟩ := q2.at'
  rw [hl] at r1
  cases r1
  have hc : c2 = #[v0,v1,v2] := by
    refine Array.ext_getElem? fun i => ?_
    rw [q4 i]
    by_cases hi : i < 3
    · rw [if_pos ⟨Nat.zero_le _,by simpa using hi⟩]
      simp
    · rw [if_neg (by simp; omega)]
      rw [Array.getElem?_eq_none (by simp; omega),Array.getElem?_eq_none (by simp; omega)]
  subst hc
  exact ⟨A2,q1,hx1.trans (q2.nx hx1.wf (Nat.le_refl _)),q2.next,r2⟩
def bS (b : Nat) (a : Option Addr) (n c lim nx : Nat) (m : Int) : Canon.Spec := fun _ _ A v A1 => ∃ r : Nat,v = .int .i64 (r : Int) ∧ (r : Int) < max 1 m ∧ Kb b A A1 ∧ ∃ nx',nx' ≤ nx + 1 ∧ Sack A1 b a n c lim nx'
end Go.Proofs.Ytdaljohmfnfgiaa
namespace Go.Proofs.Ytdaljohmfnfgiaa
open Go Go.RowKit Go.Proofs.Ytdaljohmfnfgiaa.Canon
set_option maxRecDepth 20000
theorem emod_idx {x : Int} {p : Nat} (hp : 0 < p) : ∃ (r : Int) (idx : Nat),x.tmod p = r ∧ -(p : Int) < r ∧ r < p ∧ idx < p ∧ (r + p).tmod p = (idx : Int) ∧ ∀ L e : Nat,x = (e : Int) - (L : Int) → (L + idx) % p = e % p := by
  have hpi : (0 : Int) < (p : Int) := by omega
  have h1 := Int.tmod_add_mul_tdiv x p
  have h2 : -(p : Int) < x.tmod p ∧ x.tmod p < p := by
    have := Int.natAbs_tmod x p
    have h3 : (x.tmod p).natAbs < p := by
      rw [this]
      exact Nat.mod_lt _ (by simpa using hp)
    omega
  have h3 : (x.tmod p + p).tmod p = x % p := by
    rw [Int.tmod_eq_emod_of_nonneg (by omega),Int.add_emod_right]
    have : x.tmod p = x - p * (x.tdiv p) := by omega
    rw [this,Int.sub_emod,Int.mul_emod_right]
    simp
  have h4 := Int.emod_nonneg x (show (p : Int) ≠ 0 by omega)
  have h5 := Int.emod_lt_of_pos x hpi
  refine ⟨_,(x % p).toNat,rfl,h2.1,h2.2,by omega,by rw [h3]; omega,fun L e he => ?_⟩
  have h6 : (((L + (x % p).toNat : Nat) : Int)) = (L : Int) + x % p := by omega
  have h7 : ((L : Int) + x % p) % p = (e : Int) % p := by
    rw [Int.add_emod,Int.emod_emod_of_dvd _ (Int.dvd_refl _),← Int.add_emod]
    congr 1
    omega
  have h8 : (((L + (x % p).toNat) % p : Nat) : Int) = ((e % p : Nat) : Int) := by
    rw [Int.natCast_emod,Int.natCast_emod,h6,h7]
  exact Int.ofNat.inj h8
theorem least_nat {p : Nat → Prop} : ∀ n,p n → ∃ k,k ≤ n ∧ p k ∧ ∀ j,j < k → ¬ p j := by
  intro n
  induction n using Nat.strongRecOn with
  | ind n ih =>
    intro hn
    by_cases h : ∃ j,j < n ∧ p j
    · obtain ⟨j,h1,h2⟩ := h
      obtain ⟨k,q1,q2,q3⟩ := ih j h1 h2
      exact ⟨k,by omega,q2,q3⟩
    · exact ⟨n,Nat.le_refl _,hn,fun j hj hp => h ⟨j,hj,hp⟩⟩
theorem red_exists (st : List Int) {ro : List Int} (hro : 0 < ro.length) : ∃ a p,Red (atL st ro) a p ∧ a ≤ st.length ∧ p ≤ ro.length ∧ perOK ro p = true := by
  obtain ⟨p,h1,⟨h2,h3⟩,h4⟩ := least_nat (p := fun d => 0 < d ∧ perOK ro d = true) ro.length ⟨hro,perOK_self ro⟩
  have hper := perOK_per (st := st) hro h2 h3
  obtain ⟨a,k1,k2,k3⟩ := least_nat (p := fun N => Per (atL st ro) N p) st.length hper
  refine ⟨a,p,⟨k2,fun N d hd => min_per hro (fun e he hlt => ?_) hd,fun N hN => Nat.le_of_not_lt fun hlt => k3 N hlt hN⟩,k1,h1,h3⟩
  cases hp : perOK ro e with
  | false => rfl
  | true => exact absurd ⟨he,hp⟩ (h4 e hlt)
theorem eql_nil (a : Option Addr) (n : Nat) (c : Nat) (A : AHeap) : bin Try.prog .eql 22 (.slice a n c) (.slice none 0 0) A = some (.bool a.isNone,A) := by
  have h : aeql Try.prog 22 (.slice a n c) (.slice none 0 0) = some a.isNone := by cases a <;> rfl
  show (aeql Try.prog 22 (.slice a n c) (.slice none 0 0)).map (fun b => (Value.bool b,A)) = _
  rw [h]
  rfl
theorem app_fresh {A : AHeap} (hw : WF A) {a : Option Addr} {c : Nat} {l : List Int} (h : Ints A a 0 A.next l) (hlen : l.length ≤ 4000000) :
    ∃ a' A1,aapp Try.prog #[22,22] #[.slice (some ⟨A.next,0,none⟩) 0 0,.slice a l.length c] (A.push (.cells #[] 3)) = some (.slice a' l.length l.length,A1) ∧ Nx A.next A A1 ∧ Gr A1 a' A.next l := by
  have hx1 : Nx A.next A (A.push (.cells #[] 3)) := (Nx.refl hw _).push (Nat.le_refl _) _
  have h1 : Ints (A.push (.cells #[] 3)) a 0 (A.push (.cells #[] 3)).next l := (h.nx hx1 (Nat.le_refl _)).mono (Nat.le_refl _) hx1.next
  by_cases h0 : l.length = 0
  · have hl : l = [] := List.length_eq_zero_iff.1 h0
    subst hl
    exact ⟨some ⟨A.next,0,none⟩,_,aapp_nil el22 un22 (Nat.le_refl _),hx1,fun i hi => by simp at hi,fun x hx => by cases hx; exact ⟨rfl,Nat.le_refl _,_,zAI _ _,.inl rfl⟩,fun x hx => by cases hx; exact ⟨_,zAI _ _,rfl⟩⟩
  · obtain ⟨A1,h1',h2⟩ := aapp_new (P := Try.prog) (A := A.push (.cells #[] 3)) (c := 0) (c2 := c) (a := some ⟨A.next,0,none⟩) (n := 0) (l := []) (m := l.length) el22 un22 (.inl rfl) (by simp)
      (fun x hx => by cases hx; exact ⟨_,zAI _ _,.inl rfl⟩) (fun h => by cases h) h1.row (by simp) (by simp [zBY]) (fun h' => by subst h'; exact absurd h1.some h0) (by omega) (by omega) (by omega)
    simp only [Nat.zero_add] at h1'
    have hnx := h2.nx hx1.wf (n := A.next) hx1.next (fun x hx => by cases hx; exact .inl (Nat.le_refl _))
    refine ⟨_,A1,h1',hx1.trans hnx,fun i hi => ⟨_,_,rfl,hx1.next,by rw [h2.next]; omega,?_⟩,fun x hx => by cases hx; exact ⟨rfl,hx1.next,_,h2.new,.inr ⟨rfl,rfl,rfl⟩⟩,fun x hx => by cases hx; exact ⟨_,h2.new,rfl⟩⟩
    rw [h2.cl]
    simp [List.getD_eq_getElem?_getD,hi]
theorem clone_ints {A : AHeap} (hw : WF A) {a : Option Addr} {c : Nat} {l : List Int} (h : Ints A a 0 A.next l) (hlen : l.length ≤ 4000000) :
    Con Try.prog 103 [.slice a l.length c] A (fun v A1 => ∃ a',v = .slice a' l.length l.length ∧ Nx A.next A A1 ∧ Gr A1 a' A.next l) := by
  refine zAF hc Try.func103 rfl (Nat.le_of_ble_eq_true rfl) ?_
  rw [s_in1]
  obtain ⟨a',A1,e1,hx2,hg⟩ := app_fresh hw (c := c) h hlen
  (repeat (first | refine Rn.seq hc ?_ | refine Rn.skip hc ?_ | refine Rn.block hc ?_ | refine Rn.inBlock hc ?_ | refine Rn.scope hc ?_ | refine Rn.inScope hc ?_))
  refine Rn.reg hc rfl ?_
  simp only [zAS,gd,zAX,rops,fx,zOi,zEl,show Try.f103.ntmps = 8 from rfl]
  (repeat (first | refine Rn.seq hc ?_ | refine Rn.skip hc ?_ | refine Rn.block hc ?_ | refine Rn.inBlock hc ?_ | refine Rn.scope hc ?_ | refine Rn.inScope hc ?_))
  cases a with
  | none =>
    have h0 := h.some
    have hl : l = [] := List.length_eq_zero_iff.1 h0
    subst hl
    refine Rn.reg hc rfl ?_
    simp only [zAY,zAS,zAU,zAT,sp_n,Nat.reduceLT,ne_eq,Nat.reduceEqDiff,zNf,gd,zAX,rops,fx,zOi,zEl,eql_nil,Option.isNone_none]
    (repeat (first | refine Rn.seq hc ?_ | refine Rn.skip hc ?_ | refine Rn.block hc ?_ | refine Rn.inBlock hc ?_ | refine Rn.scope hc ?_ | refine Rn.inScope hc ?_))
    refine Rn.zAM hc rfl ?_
    simp only [zAY,zAU,sp_n,Nat.reduceLT,Value.bool.injEq,zEl]
    (repeat (first | refine Rn.seq hc ?_ | refine Rn.skip hc ?_ | refine Rn.block hc ?_ | refine Rn.inBlock hc ?_ | refine Rn.scope hc ?_ | refine Rn.inScope hc ?_))
    refine Rn.reg hc rfl ?_
    simp only [zAS,gd,zAX,rops,fx,zOi,zEl]
    (repeat (first | refine Rn.seq hc ?_ | refine Rn.skip hc ?_ | refine Rn.block hc ?_ | refine Rn.inBlock hc ?_ | refine Rn.scope hc ?_ | refine Rn.inScope hc ?_))
    refine Rn.ret (zAO rfl ⟨none,?_,Nx.refl hw _,Gr.nil _ _⟩)
    simp only [zAU,sp_n,Nat.reduceLT]
    rfl
  | some x =>
    refine Rn.reg hc rfl ?_
    simp only [zAY,zAS,zAU,zAT,sp_n,Nat.reduceLT,ne_eq,Nat.reduceEqDiff,zNf,gd,zAX,rops,fx,zOi,zEl,eql_nil,Option.isNone_some]
    (repeat (first | refine Rn.seq hc ?_ | refine Rn.skip hc ?_ | refine Rn.block hc ?_ | refine Rn.inBlock hc ?_ | refine Rn.scope hc ?_ | refine Rn.inScope hc ?_))
    refine Rn.zAM hc rfl ?_
    simp only [zAY,zAU,sp_n,Nat.reduceLT,Value.bool.injEq,zEl]
    (repeat (first | refine Rn.seq hc ?_ | refine Rn.skip hc ?_ | refine Rn.block hc ?_ | refine Rn.inBlock hc ?_ | refine Rn.scope hc ?_ | refine Rn.inScope hc ?_))
    refine Rn.reg hc rfl ?_
    simp only [zAY,zAU,zAT,sp_n,Nat.reduceLT,ne_eq,Nat.reduceEqDiff,zNf,gd,zAX,rops,fx,zOi,zEl,bs22_0,ae_apd,zCQ,e1]
    (repeat (first | refine Rn.seq hc ?_ | refine Rn.skip hc ?_ | refine Rn.block hc ?_ | refine Rn.inBlock hc ?_ | refine Rn.scope hc ?_ | refine Rn.inScope hc ?_))
    refine Rn.ret (zAO rfl ⟨a',?_,hx2,hg⟩)
    simp only [zAU,sp_n,Nat.reduceLT]
section
variable {ρ : Operand → Value} {d : Option Tmp} {ty : TypeId} {pos : String} {af : Array Edge} {gu : Option (Nat × Bool)} {A : AHeap}
noncomputable def mnc (ats : Array TypeId) (ty : TypeId) (x y : Value) (A : AHeap) : Option (Value × AHeap) := match [x,y].all isNum with
  | true => arun Try.prog (Builtin.min_ ats ty #[x,y]) A
  | false => none
theorem mnc_int {ats : Array TypeId} {k : IntKind} {a b : Int} : mnc ats ty (.int k a) (.int k b) A = some (.int k (min a b),A) := by
  have : (if b < a then b else a) = min a b := by by_cases hh : b < a <;> simp [hh] <;> omega
  simp [mnc,isNum,Builtin.min_,Builtin.min2,this]
theorem ae_mnc {k : IntKind} {n : Int} {y : Tmp} {ats : Array TypeId} {s : Slots} : zAE Try.prog (zBP s) ⟨d,.call ⟨.builtin .min,#[.const (.int k n),.tmp y],ats⟩,ty,pos,af,gu⟩ A = mnc ats ty (.int k n) (sget s y) A := by
  have hcl : zCI (.int k n) = true := rfl
  simp only [zAE,Op.operands,Call.operands]
  simp [zAC,hcl,zDR,mnc,zAY,zAS]
  rfl
end
theorem zCT {f : Func} {t u : Tmp} {ty : TypeId} (hr : f.results = #[.cell t ty,.tmp u]) {Q : Value → AHeap → Prop} {s : Slots} {A : AHeap} {v : Value} (hl : ld Try.prog ty (sget s t) A = some (v,A)) (h : Q (.tuple #[v,sget s u]) A) : endQ Try.prog f Q .ret s [] A := by
  refine ⟨.tuple #[v,sget s u],A,?_,h⟩
  show VR.of (zCK Try.prog f s A) = _
  obtain ⟨b,o,hv,ha⟩ := ld_arun hl
  have e : zCK Try.prog f s A = some (.tuple #[v,sget s u],A) := by
    rw [sresults_eq]
    have h1 := sget_getD s t
    have h2 := sget_getD s u
    rw [hv] at h1
    simp only [Array.getD_eq_getD_getElem?] at h1 h2
    simp [results,hr,h1,h2,asAddr,ha]
  rw [e]
  rfl
end Go.Proofs.Ytdaljohmfnfgiaa
namespace Go.Proofs.Ytdaljohmfnfgiaa
open Go Go.RowKit Go.Proofs.Ytdaljohmfnfgiaa.Canon
set_option maxRecDepth 20000
theorem bd24_z {ρ : Operand → Value} {d : Option Tmp} {ty : TypeId} {pos : String} {af : Array Edge} {gu : Option (Nat × Bool)} {A : AHeap} : zAE Try.prog ρ ⟨d,.build 24 #[],ty,pos,af,gu⟩ A = some (.agg #[.int .i64 0,.slice none 0 0,.slice none 0 0],A) := ae_build (by rfl) bo24 rfl rfl
def LeastQ (A : AHeap) (m : Int) (s : Nat → Int) (a p : Nat) (v : Value) (A1 : AHeap) : Prop :=
  Nx A.next A A1 ∧ if 120 < p ∨ 60 < a then v = .tuple #[.agg #[.int .i64 0,.slice none 0 0,.slice none 0 0],.int .i64 11]
    else ∃ sa ra,v = .tuple #[.agg #[.int .i64 m,.slice sa a a,.slice ra p p],.int .i64 0] ∧ Gr A1 sa A.next (redS s a) ∧ Gr A1 ra A.next (redR s a p)
theorem least_run {A : AHeap} (hw : WF A) {m : Int} {sa ra : Option Addr} {sc rc : Nat} {st ro : List Int} (hs : Ints A sa 0 A.next st) (hr : Ints A ra 0 A.next ro) (ls : st.length ≤ 4000000) (lr : ro.length ≤ 4000000) (hro : 0 < ro.length) (hsl : Sl A sa 0) (hsc : st.length ≤ sc) :
    Con Try.prog 69 [.int .i64 m,.slice sa st.length sc,.slice ra ro.length rc] A (fun v A1 => ∃ a p,Red (atL st ro) a p ∧ a ≤ st.length ∧ p ≤ ro.length ∧ LeastQ A m (atL st ro) a p v A1) := by
  refine zAF hc Try.func69 rfl (Nat.le_of_ble_eq_true rfl) ?_
  have hx1 : Nx A.next A (A.push (.cells #[.int .i64 0,.slice none 0 0,.slice none 0 0] 24)) := (Nx.refl hw _).push (Nat.le_refl _) _
  have l1 := zAI A (.cells #[.int .i64 0,.slice none 0 0,.slice none 0 0] 24)
  have hn1 : (A.push (.cells #[.int .i64 0,.slice none 0 0,.slice none 0 0] 24)).next = A.next + 1 := rfl
  generalize e1 : A.push (.cells #[.int .i64 0,.slice none 0 0,.slice none 0 0] 24) = A1 at hx1 l1 hn1
  rw [s_in3]
  (repeat (first | refine Rn.seq hc ?_ | refine Rn.skip hc ?_ | refine Rn.block hc ?_ | refine Rn.inBlock hc ?_ | refine Rn.scope hc ?_ | refine Rn.inScope hc ?_))
  refine Rn.reg hc rfl ?_
  simp only [zAS,gd,zAX,rops,fx,zOi,zEl,Value.cells,show Try.f69.ntmps = 112 from rfl,ze24,e1]
  (repeat (first | refine Rn.seq hc ?_ | refine Rn.skip hc ?_ | refine Rn.block hc ?_ | refine Rn.inBlock hc ?_ | refine Rn.scope hc ?_ | refine Rn.inScope hc ?_))
  refine Rn.reg hc rfl ?_
  simp only [zAS,gd,zAX,rops,fx,zOi,zEl]
  (repeat (first | refine Rn.seq hc ?_ | refine Rn.skip hc ?_ | refine Rn.block hc ?_ | refine Rn.inBlock hc ?_ | refine Rn.scope hc ?_ | refine Rn.inScope hc ?_))
  refine Rn.label hc ?_
  refine Rn.seq hc ?_
  refine Rn.cut2 hc (Q1 := fun s ds B => ds = [] ∧ Nx A1.next A1 B ∧ s.n = 112 ∧ sget s 0 = .int .i64 m ∧ sget s 1 = .slice sa st.length sc ∧ sget s 2 = .slice ra ro.length rc ∧ sget s 6 = .pointer (some ⟨A.next,0,none⟩) ∧ ∃ d : Nat,sget s 8 = .int .i64 (d : Int) ∧ ((d = 0 ∧ ∀ e,0 < e → e < 121 → perOK ro e = false) ∨ (0 < d ∧ d ≤ 120 ∧ perOK ro d = true ∧ ∀ e,0 < e → e < d → perOK ro e = false)))
    (Q2 := fun _ _ _ => False) ?_ ?_ ?_
  · (repeat (first | refine Rn.seq hc ?_ | refine Rn.skip hc ?_ | refine Rn.block hc ?_ | refine Rn.inBlock hc ?_ | refine Rn.scope hc ?_ | refine Rn.inScope hc ?_))
    refine Rn.reg hc rfl ?_
    simp only [zAS,gd,zAX,rops,fx,zOi,zEl]
    (repeat (first | refine Rn.seq hc ?_ | refine Rn.skip hc ?_ | refine Rn.block hc ?_ | refine Rn.inBlock hc ?_ | refine Rn.scope hc ?_ | refine Rn.inScope hc ?_))
    refine Rn.zDY hc (I := fun k s A' => ∃ d : Nat,1 ≤ d ∧ d ≤ 121 ∧ k = 121 - d ∧ Nx A1.next A1 A' ∧ (∀ e,0 < e → e < d → perOK ro e = false) ∧ s.n = 112 ∧ sget s 0 = .int .i64 m ∧ sget s 1 = .slice sa st.length sc ∧ sget s 2 = .slice ra ro.length rc ∧ sget s 6 = .pointer (some ⟨A.next,0,none⟩) ∧ sget s 8 = .int .i64 ((0 : Nat) : Int) ∧ sget s 9 = .int .i64 (d : Int))
      (n := 120) ⟨1,by omega,by omega,rfl,Nx.refl hx1.wf _,fun e h1 h2 => by omega,by simp only [sp_n],by simp only [zAU,zAT,Nat.reduceLT,ne_eq,Nat.reduceEqDiff,zNf],by simp only [zAU,zAT,sp_n,Nat.reduceLT,ne_eq,Nat.reduceEqDiff,zNf],by simp only [zAU,zAT,sp_n,Nat.reduceLT,ne_eq,Nat.reduceEqDiff,zNf],by simp only [zAU,zAT,sp_n,Nat.reduceLT,ne_eq,Nat.reduceEqDiff,zNf],by simp only [zAU,zAT,sp_n,Nat.reduceLT,ne_eq,Nat.reduceEqDiff,zNf]; rfl,by simp only [zAU,sp_n,Nat.reduceLT]; rfl⟩ ?_
    rintro k s A' ⟨d,hd1,hd2,rfl,hA,hmin,hn,s0,s1,s2,s6,s8,s9⟩ ih
    (repeat (first | refine Rn.seq hc ?_ | refine Rn.skip hc ?_ | refine Rn.block hc ?_ | refine Rn.inBlock hc ?_ | refine Rn.scope hc ?_ | refine Rn.inScope hc ?_))
    by_cases hlt : d ≤ min 120 ro.length
    · have hd : decide ((d : Int) ≤ min 120 (ro.length : Int)) = true := by simp; omega
      have hrem : ∀ M,bin Try.prog .rem 3 (.int .i64 (ro.length : Int)) (.int .i64 (d : Int)) M = some (.int .i64 ((ro.length % d : Nat) : Int),M) := fun M => by
        rw [zCS _ _ _ _ (by omega),IntWalk.rem_in _ _ (by omega)]
        rfl
      refine Rn.reg hc rfl ?_
      simp only [zAY,zAU,zAT,sp_n,Nat.reduceLT,ne_eq,Nat.reduceEqDiff,zNf,gd,zAX,rops,fx,lng,bin_leq,zOi,zEl,un22,hn,s2,s9,ae_mnc,mnc_int,hd]
      (repeat (first | refine Rn.seq hc ?_ | refine Rn.skip hc ?_ | refine Rn.block hc ?_ | refine Rn.inBlock hc ?_ | refine Rn.scope hc ?_ | refine Rn.inScope hc ?_))
      refine Rn.zAM hc rfl ?_
      simp only [zAY,zAU,sp_n,Nat.reduceLT,Value.bool.injEq,zEl,hn]
      (repeat (first | refine Rn.seq hc ?_ | refine Rn.skip hc ?_ | refine Rn.block hc ?_ | refine Rn.inBlock hc ?_ | refine Rn.scope hc ?_ | refine Rn.inScope hc ?_))
      by_cases hdiv : ro.length % d = 0
      · have hd3 : (!decide (((ro.length % d : Nat) : Int) = 0)) = false := by simp; omega
        refine Rn.reg hc rfl ?_
        simp only [zAY,zAS,zAU,zAT,sp_n,Nat.reduceLT,ne_eq,Nat.reduceEqDiff,zNf,gd,zAX,rops,fx,lng,zBX,zOi,zEl,un22,hn,s2,s9,hrem,hd3]
        (repeat (first | refine Rn.seq hc ?_ | refine Rn.skip hc ?_ | refine Rn.block hc ?_ | refine Rn.inBlock hc ?_ | refine Rn.scope hc ?_ | refine Rn.inScope hc ?_))
        refine Rn.zAM hc rfl ?_
        simp only [zAY,zAU,sp_n,Nat.reduceLT,Value.bool.injEq,zEl,hn]
        (repeat (first | refine Rn.seq hc ?_ | refine Rn.skip hc ?_ | refine Rn.block hc ?_ | refine Rn.inBlock hc ?_ | refine Rn.scope hc ?_ | refine Rn.inScope hc ?_))
        refine Rn.reg hc rfl ?_
        simp only [zAY,zAU,zAT,sp_n,Nat.reduceLT,ne_eq,Nat.reduceEqDiff,zNf,gd,zAX,rops,fx,zOi,zEl,hn,s9]
        (repeat (first | refine Rn.seq hc ?_ | refine Rn.skip hc ?_ | refine Rn.block hc ?_ | refine Rn.inBlock hc ?_ | refine Rn.scope hc ?_ | refine Rn.inScope hc ?_))
        refine Rn.zDY hc (I := fun k s A' => ∃ i : Nat,d ≤ i ∧ i ≤ ro.length ∧ k = ro.length - i ∧ Nx A1.next A1 A' ∧ (∀ j,d ≤ j → j < i → ro.getD j 0 = ro.getD (j - d) 0) ∧ s.n = 112 ∧ sget s 0 = .int .i64 m ∧ sget s 1 = .slice sa st.length sc ∧ sget s 2 = .slice ra ro.length rc ∧ sget s 6 = .pointer (some ⟨A.next,0,none⟩) ∧ sget s 8 = .int .i64 ((0 : Nat) : Int) ∧ sget s 9 = .int .i64 (d : Int) ∧ sget s 10 = .int .i64 (i : Int))
          (n := ro.length - d) ⟨d,Nat.le_refl _,by omega,rfl,hA,fun j h1 h2 => by omega,by simp only [sp_n,hn],by simp only [zAT,ne_eq,Nat.reduceEqDiff,zNf,s0],by simp only [zAT,ne_eq,Nat.reduceEqDiff,zNf,s1],by simp only [zAT,ne_eq,Nat.reduceEqDiff,zNf,s2],by simp only [zAT,ne_eq,Nat.reduceEqDiff,zNf,s6],by simp only [zAT,ne_eq,Nat.reduceEqDiff,zNf,s8],by simp only [zAT,ne_eq,Nat.reduceEqDiff,zNf,s9],by simp only [zAU,sp_n,Nat.reduceLT,hn]⟩ ?_
        clear hn s0 s1 s2 s6 s8 s9 s hA A' hd
        rintro k s A' ⟨i,hi1,hi2,rfl,hA,hper,hn,s0,s1,s2,s6,s8,s9,s10⟩ ihi
        (repeat (first | refine Rn.seq hc ?_ | refine Rn.skip hc ?_ | refine Rn.block hc ?_ | refine Rn.inBlock hc ?_ | refine Rn.scope hc ?_ | refine Rn.inScope hc ?_))
        by_cases hlti : i < ro.length
        · have hd : decide ((i : Int) < (ro.length : Int)) = true := by simp; omega
          have hx0 : Nx A.next A A' := hx1.trans (hA.le hx1.next)
          obtain ⟨bb,o,rfl,_,hb1,hcl⟩ := hr i hlti
          obtain ⟨bb',o',e',_,_,hcl'⟩ := hr (i - d) (by omega)
          cases e'
          have hcl : cl A' bb (o + i) = _ := (hx0.cl hb1 _).trans hcl
          have hcl' : cl A' bb (o + (i - d)) = _ := (hx0.cl hb1 _).trans hcl'
          have hsub : IntKind.i64.wrap ((i : Int) - (d : Int)) = ((i - d : Nat) : Int) := by rw [IntWalk.i64_in _ (by omega)]; omega
          refine Rn.reg hc rfl ?_
          simp only [zAY,zAU,zAT,sp_n,Nat.reduceLT,ne_eq,Nat.reduceEqDiff,zNf,gd,zAX,rops,fx,lng,zAN,zOi,zEl,un22,hn,s2,s10,hd]
          (repeat (first | refine Rn.seq hc ?_ | refine Rn.skip hc ?_ | refine Rn.block hc ?_ | refine Rn.inBlock hc ?_ | refine Rn.scope hc ?_ | refine Rn.inScope hc ?_))
          refine Rn.zAM hc rfl ?_
          simp only [zAY,zAU,sp_n,Nat.reduceLT,Value.bool.injEq,zEl,hn]
          (repeat (first | refine Rn.seq hc ?_ | refine Rn.skip hc ?_ | refine Rn.block hc ?_ | refine Rn.inBlock hc ?_ | refine Rn.scope hc ?_ | refine Rn.inScope hc ?_))
          have hidl : i - d < ro.length := by omega
          by_cases heq : ro.getD i 0 = ro.getD (i - d) 0
          · have hne : (!decide (ro.getD i 0 = ro.getD (i - d) 0)) = false := by rw [decide_eq_true heq]; rfl
            refine Rn.zDV hc hx (by kernel_rfl) (by rfl) (by kernel_rfl) ?_ ?_
            · simp only [rdV,VQ.int,VQ.bool,VQ.ptr,VQ.slice,zBT,zAY,zAU,zAT,sp_n,Nat.reduceLT,ne_eq,Nat.reduceEqDiff,zNf,gd,zAX,fx,ld,idx,zBX,zBR,zAR,Nat.zero_add,Nat.reduceAdd,Nat.mul_one,and_self,tk3,eo22,hn,s2,s9,s10,zAQ hlti,zAQ hidl,hsub,hcl,hcl',hne,List.length_cons,List.length_nil]
            simp only [zBT,zAY,zAU,zAT,sp_n,Nat.reduceLT,ne_eq,Nat.reduceEqDiff,zNf,gd,zAX,rops,fx,ld,idx,zBX,zBR,zAR,Nat.zero_add,zOi,zEl,Nat.reduceAdd,Nat.mul_one,tk3,eo22,hn,s2,s9,s10,zAQ hlti,zAQ hidl,hsub,hcl,hcl',hne,List.length_cons,List.length_nil]
            (repeat (first | refine Rn.seq hc ?_ | refine Rn.skip hc ?_ | refine Rn.block hc ?_ | refine Rn.inBlock hc ?_ | refine Rn.scope hc ?_ | refine Rn.inScope hc ?_))
            refine Rn.zAM hc rfl ?_
            simp only [zAY,zAU,sp_n,Nat.reduceLT,Value.bool.injEq,zEl,hn]
            (repeat (first | refine Rn.seq hc ?_ | refine Rn.skip hc ?_ | refine Rn.block hc ?_ | refine Rn.inBlock hc ?_ | refine Rn.scope hc ?_ | refine Rn.inScope hc ?_))
            refine Rn.reg hc rfl ?_
            simp only [zAY,zAS,zAU,zAT,sp_n,Nat.reduceLT,ne_eq,Nat.reduceEqDiff,zNf,gd,zAX,rops,fx,zAH,zOi,zEl,hn,s10,zBZ (show i < 9223372036854775807 by omega)]
            (repeat (first | refine Rn.seq hc ?_ | refine Rn.skip hc ?_ | refine Rn.block hc ?_ | refine Rn.inBlock hc ?_ | refine Rn.scope hc ?_ | refine Rn.inScope hc ?_))
            refine ihi _ _ _ (by omega) ⟨i + 1,by omega,by omega,rfl,Nx.bump hA _,fun j h1 h2 => ?_,by simp only [sp_n,hn],by simp only [zAT,ne_eq,Nat.reduceEqDiff,zNf,s0],by simp only [zAT,ne_eq,Nat.reduceEqDiff,zNf,s1],by simp only [zAT,ne_eq,Nat.reduceEqDiff,zNf,s2],by simp only [zAT,ne_eq,Nat.reduceEqDiff,zNf,s6],by simp only [zAT,ne_eq,Nat.reduceEqDiff,zNf,s8],by simp only [zAT,ne_eq,Nat.reduceEqDiff,zNf,s9],by simp only [zAU,sp_n,Nat.reduceLT,hn]⟩
            by_cases hji : j = i
            · subst hji; exact heq
            · exact hper j h1 (by omega)
          · have hne : (!decide (ro.getD i 0 = ro.getD (i - d) 0)) = true := by rw [decide_eq_false heq]; rfl
            refine Rn.zDV hc hx (by kernel_rfl) (by rfl) (by kernel_rfl) ?_ ?_
            · simp only [rdV,VQ.int,VQ.bool,VQ.ptr,VQ.slice,zBT,zAY,zAU,zAT,sp_n,Nat.reduceLT,ne_eq,Nat.reduceEqDiff,zNf,gd,zAX,fx,ld,idx,zBX,zBR,zAR,Nat.zero_add,Nat.reduceAdd,Nat.mul_one,and_self,tk3,eo22,hn,s2,s9,s10,zAQ hlti,zAQ hidl,hsub,hcl,hcl',hne,List.length_cons,List.length_nil]
            simp only [zBT,zAY,zAU,zAT,sp_n,Nat.reduceLT,ne_eq,Nat.reduceEqDiff,zNf,gd,zAX,rops,fx,ld,idx,zBX,zBR,zAR,Nat.zero_add,zOi,zEl,Nat.reduceAdd,Nat.mul_one,tk3,eo22,hn,s2,s9,s10,zAQ hlti,zAQ hidl,hsub,hcl,hcl',hne,List.length_cons,List.length_nil]
            (repeat (first | refine Rn.seq hc ?_ | refine Rn.skip hc ?_ | refine Rn.block hc ?_ | refine Rn.inBlock hc ?_ | refine Rn.scope hc ?_ | refine Rn.inScope hc ?_))
            refine Rn.zAM hc rfl ?_
            simp only [zAY,zAU,sp_n,Nat.reduceLT,Value.bool.injEq,zEl,hn]
            (repeat (first | refine Rn.seq hc ?_ | refine Rn.skip hc ?_ | refine Rn.block hc ?_ | refine Rn.inBlock hc ?_ | refine Rn.scope hc ?_ | refine Rn.inScope hc ?_))
            refine Rn.exit hc rfl ?_
            (repeat (first | refine Rn.seq hc ?_ | refine Rn.skip hc ?_ | refine Rn.block hc ?_ | refine Rn.inBlock hc ?_ | refine Rn.scope hc ?_ | refine Rn.inScope hc ?_))
            refine Rn.reg hc rfl ?_
            simp only [zAY,zAS,zAU,zAT,sp_n,Nat.reduceLT,ne_eq,Nat.reduceEqDiff,zNf,gd,zAX,rops,fx,zAH,zOi,zEl,hn,s9,zBZ (show d < 9223372036854775807 by omega)]
            (repeat (first | refine Rn.seq hc ?_ | refine Rn.skip hc ?_ | refine Rn.block hc ?_ | refine Rn.inBlock hc ?_ | refine Rn.scope hc ?_ | refine Rn.inScope hc ?_))
            refine ih _ _ _ (by omega) ⟨d + 1,by omega,by omega,rfl,Nx.bump hA _,fun e h1 h2 => ?_,by simp only [sp_n,hn],by simp only [zAT,ne_eq,Nat.reduceEqDiff,zNf,s0],by simp only [zAT,ne_eq,Nat.reduceEqDiff,zNf,s1],by simp only [zAT,ne_eq,Nat.reduceEqDiff,zNf,s2],by simp only [zAT,ne_eq,Nat.reduceEqDiff,zNf,s6],by simp only [zAT,ne_eq,Nat.reduceEqDiff,zNf,s8],by simp only [zAU,sp_n,Nat.reduceLT,hn]⟩
            by_cases hed : e = d
            · subst hed
              cases hp : perOK ro e with
              | false => rfl
              | true => exact absurd ((zCL.1 hp).2 i hi1 hlti) heq
            · exact hmin e h1 (by omega)
        · have hd : decide ((i : Int) < (ro.length : Int)) = false := by simp; omega
          have hil : i = ro.length := by omega
          clear ih ihi
          refine Rn.reg hc rfl ?_
          simp only [zAY,zAU,zAT,sp_n,Nat.reduceLT,ne_eq,Nat.reduceEqDiff,zNf,gd,zAX,rops,fx,lng,zAN,zOi,zEl,un22,hn,s2,s10,hd]
          (repeat (first | refine Rn.seq hc ?_ | refine Rn.skip hc ?_ | refine Rn.block hc ?_ | refine Rn.inBlock hc ?_ | refine Rn.scope hc ?_ | refine Rn.inScope hc ?_))
          refine Rn.zAM hc rfl ?_
          simp only [zAY,zAU,sp_n,Nat.reduceLT,Value.bool.injEq,zEl,hn]
          (repeat (first | refine Rn.seq hc ?_ | refine Rn.skip hc ?_ | refine Rn.block hc ?_ | refine Rn.inBlock hc ?_ | refine Rn.scope hc ?_ | refine Rn.inScope hc ?_))
          refine Rn.exit hc rfl ?_
          (repeat (first | refine Rn.seq hc ?_ | refine Rn.skip hc ?_ | refine Rn.block hc ?_ | refine Rn.inBlock hc ?_ | refine Rn.scope hc ?_ | refine Rn.inScope hc ?_))
          refine Rn.reg hc rfl ?_
          simp only [zAY,zAU,zAT,sp_n,Nat.reduceLT,ne_eq,Nat.reduceEqDiff,zNf,gd,zAX,rops,fx,zOi,zEl,hn,s9]
          (repeat (first | refine Rn.seq hc ?_ | refine Rn.skip hc ?_ | refine Rn.block hc ?_ | refine Rn.inBlock hc ?_ | refine Rn.scope hc ?_ | refine Rn.inScope hc ?_))
          refine Rn.exit hc rfl ?_
          (repeat (first | refine Rn.seq hc ?_ | refine Rn.skip hc ?_ | refine Rn.block hc ?_ | refine Rn.inBlock hc ?_ | refine Rn.scope hc ?_ | refine Rn.inScope hc ?_))
          refine Rn.fall ⟨rfl,hA,by simp only [sp_n,hn],by simp only [zAT,ne_eq,Nat.reduceEqDiff,zNf,s0],by simp only [zAT,ne_eq,Nat.reduceEqDiff,zNf,s1],by simp only [zAT,ne_eq,Nat.reduceEqDiff,zNf,s2],by simp only [zAT,ne_eq,Nat.reduceEqDiff,zNf,s6],d,by simp only [zAU,sp_n,Nat.reduceLT,hn],.inr ⟨hd1,by omega,zCL.2 ⟨hdiv,fun j h1 h2 => hper j h1 (by omega)⟩,hmin⟩⟩
      · have hd3 : (!decide (((ro.length % d : Nat) : Int) = 0)) = true := by simp; omega
        refine Rn.reg hc rfl ?_
        simp only [zAY,zAS,zAU,zAT,sp_n,Nat.reduceLT,ne_eq,Nat.reduceEqDiff,zNf,gd,zAX,rops,fx,lng,zBX,zOi,zEl,un22,hn,s2,s9,hrem,hd3]
        (repeat (first | refine Rn.seq hc ?_ | refine Rn.skip hc ?_ | refine Rn.block hc ?_ | refine Rn.inBlock hc ?_ | refine Rn.scope hc ?_ | refine Rn.inScope hc ?_))
        refine Rn.zAM hc rfl ?_
        simp only [zAY,zAU,sp_n,Nat.reduceLT,Value.bool.injEq,zEl,hn]
        (repeat (first | refine Rn.seq hc ?_ | refine Rn.skip hc ?_ | refine Rn.block hc ?_ | refine Rn.inBlock hc ?_ | refine Rn.scope hc ?_ | refine Rn.inScope hc ?_))
        refine Rn.exit hc rfl ?_
        (repeat (first | refine Rn.seq hc ?_ | refine Rn.skip hc ?_ | refine Rn.block hc ?_ | refine Rn.inBlock hc ?_ | refine Rn.scope hc ?_ | refine Rn.inScope hc ?_))
        refine Rn.reg hc rfl ?_
        simp only [zAY,zAS,zAU,zAT,sp_n,Nat.reduceLT,ne_eq,Nat.reduceEqDiff,zNf,gd,zAX,rops,fx,zAH,zOi,zEl,hn,s9,zBZ (show d < 9223372036854775807 by omega)]
        (repeat (first | refine Rn.seq hc ?_ | refine Rn.skip hc ?_ | refine Rn.block hc ?_ | refine Rn.inBlock hc ?_ | refine Rn.scope hc ?_ | refine Rn.inScope hc ?_))
        refine ih _ _ _ (by omega) ⟨d + 1,by omega,by omega,rfl,hA,fun e h1 h2 => ?_,by simp only [sp_n,hn],by simp only [zAT,ne_eq,Nat.reduceEqDiff,zNf,s0],by simp only [zAT,ne_eq,Nat.reduceEqDiff,zNf,s1],by simp only [zAT,ne_eq,Nat.reduceEqDiff,zNf,s2],by simp only [zAT,ne_eq,Nat.reduceEqDiff,zNf,s6],by simp only [zAT,ne_eq,Nat.reduceEqDiff,zNf,s8],by simp only [zAU,sp_n,Nat.reduceLT,hn]⟩
        by_cases hed : e = d
        · subst hed
          cases hp : perOK ro e with
          | false => rfl
          | true => exact absurd (zCL.1 hp).1 hdiv
        · exact hmin e h1 (by omega)
    · have hd : decide ((d : Int) ≤ min 120 (ro.length : Int)) = false := by simp; omega
      clear ih
      have hdl : d ≤ ro.length := Nat.le_of_not_lt fun hh => by
        have := hmin ro.length hro hh
        rw [perOK_self] at this
        cases this
      refine Rn.reg hc rfl ?_
      simp only [zAY,zAU,zAT,sp_n,Nat.reduceLT,ne_eq,Nat.reduceEqDiff,zNf,gd,zAX,rops,fx,lng,bin_leq,zOi,zEl,un22,hn,s2,s9,ae_mnc,mnc_int,hd]
      (repeat (first | refine Rn.seq hc ?_ | refine Rn.skip hc ?_ | refine Rn.block hc ?_ | refine Rn.inBlock hc ?_ | refine Rn.scope hc ?_ | refine Rn.inScope hc ?_))
      refine Rn.zAM hc rfl ?_
      simp only [zAY,zAU,sp_n,Nat.reduceLT,Value.bool.injEq,zEl,hn]
      (repeat (first | refine Rn.seq hc ?_ | refine Rn.skip hc ?_ | refine Rn.block hc ?_ | refine Rn.inBlock hc ?_ | refine Rn.scope hc ?_ | refine Rn.inScope hc ?_))
      refine Rn.exit hc rfl ?_
      (repeat (first | refine Rn.seq hc ?_ | refine Rn.skip hc ?_ | refine Rn.block hc ?_ | refine Rn.inBlock hc ?_ | refine Rn.scope hc ?_ | refine Rn.inScope hc ?_))
      refine Rn.fall ⟨rfl,hA,by simp only [sp_n,hn],by simp only [zAT,ne_eq,Nat.reduceEqDiff,zNf,s0],by simp only [zAT,ne_eq,Nat.reduceEqDiff,zNf,s1],by simp only [zAT,ne_eq,Nat.reduceEqDiff,zNf,s2],by simp only [zAT,ne_eq,Nat.reduceEqDiff,zNf,s6],0,by simp only [zAT,ne_eq,Nat.reduceEqDiff,zNf,s8],.inl ⟨rfl,fun e h1 h2 => hmin e h1 (by omega)⟩⟩
  · rintro s ds B ⟨rfl,hB,hn,s0,s1,s2,s6,d,s8,hd⟩
    have hr24 : ∀ {D : AHeap} {v0 v1 v2 : Value},Nx A1.next A1 D → [v0,v1,v2].all zBY = true → ∃ D',sts D A.next 0 [v0,v1,v2] = some D' ∧ D'.next = D.next ∧ WF D' ∧ (∀ b,b ≠ A.next → Canon.look D'.objs b = Canon.look D.objs b) ∧ cl D' A.next 0 = some v0 ∧ cl D' A.next 1 = some v1 ∧ cl D' A.next 2 = some v2 := fun {D v0 v1 v2} hD hv => by
      obtain ⟨D',c',q1,q2,q3,q4⟩ := zCV (l := [v0,v1,v2]) (o := 0) ((hD.keep A.next (by omega)).trans l1) rfl (by simp) hv
      exact ⟨D',q1,q2.next,(q2.nx hD.wf (Nat.zero_le _)).wf,q2.off,by rw [q2.cl,q4]; rfl,by rw [q2.cl,q4]; rfl,by rw [q2.cl,q4]; rfl⟩
    obtain ⟨a0,p0,hred,ha0,hp0,hpk⟩ := red_exists st hro
    rcases hd with ⟨rfl,hno⟩ | ⟨hd0,hd120,hdk,hmin⟩
    · obtain ⟨D,q1,q2,q3,q4,g0,g1,g2⟩ := hr24 (v0 := .int .i64 0) (v1 := .slice none 0 0) (v2 := .slice none 0 0) hB rfl
      (repeat (first | refine Rn.seq hc ?_ | refine Rn.skip hc ?_ | refine Rn.block hc ?_ | refine Rn.inBlock hc ?_ | refine Rn.scope hc ?_ | refine Rn.inScope hc ?_))
      refine Rn.reg hc rfl ?_
      simp only [zAY,zAS,zAU,Nat.reduceLT,gd,zAX,rops,fx,bin_eql,zOi,zEl,hn,s8,Int.natCast_zero,eq_self,decide_true]
      (repeat (first | refine Rn.seq hc ?_ | refine Rn.skip hc ?_ | refine Rn.block hc ?_ | refine Rn.inBlock hc ?_ | refine Rn.scope hc ?_ | refine Rn.inScope hc ?_))
      refine Rn.zAM hc rfl ?_
      simp only [zAY,zAU,sp_n,Nat.reduceLT,Value.bool.injEq,zEl,hn]
      (repeat (first | refine Rn.seq hc ?_ | refine Rn.skip hc ?_ | refine Rn.block hc ?_ | refine Rn.inBlock hc ?_ | refine Rn.scope hc ?_ | refine Rn.inScope hc ?_))
      refine Rn.reg hc rfl ?_
      simp only [zAY,zAS,zAU,zAT,sp_n,zAK,Nat.reduceLT,ne_eq,Nat.reduceEqDiff,zNf,gd,zAX,rops,fx,str,zAR,Nat.zero_add,zOi,zEl,Nat.reduceAdd,tk24,hn,s6,bd24_z,q1,List.size_toArray,List.length_cons,List.length_nil,Nat.beq_refl]
      (repeat (first | refine Rn.seq hc ?_ | refine Rn.skip hc ?_ | refine Rn.block hc ?_ | refine Rn.inBlock hc ?_ | refine Rn.scope hc ?_ | refine Rn.inScope hc ?_))
      refine Rn.ret (zCT rfl (v := .agg #[.int .i64 0,.slice none 0 0,.slice none 0 0]) ?_ ⟨a0,p0,hred,ha0,hp0,⟨by have := hB.next; omega,q3,fun b hb => by rw [q4 _ (by omega),hB.keep _ (by omega),hx1.keep _ hb]⟩,?_⟩)
      · simp only [zAT,ne_eq,Nat.reduceEqDiff,zNf,ld,zAR,cls,Nat.zero_add,Nat.reduceAdd,tk24,s6,g0,g1,g2]
      · have : 120 < p0 := Nat.lt_of_not_le fun hle => by
          rw [hno p0 hred.per.pos (by omega)] at hpk
          cases hpk
        rw [if_pos (.inl this)]
        simp only [zAU,sp_n,Nat.reduceLT,hn]
    · have hper := perOK_per (st := st) hro hd0 hdk
      have hpmin : ∀ N e,Per (atL st ro) N e → d ≤ e := fun N e => min_per hro hmin
      have hdl := perOK_le hro hdk
      have hdz : decide ((d : Int) = 0) = false := by simp; omega
      obtain ⟨C,p2,hx2,hn2,l2⟩ := put24L hB.wf (v0 := .int .i64 m) (v1 := .slice none 0 0) (v2 := .slice none 0 0) rfl
      have hC : Nx A1.next A1 C := hB.trans (hx2.le hB.next)
      have hBn := hB.next
      (repeat (first | refine Rn.seq hc ?_ | refine Rn.skip hc ?_ | refine Rn.block hc ?_ | refine Rn.inBlock hc ?_ | refine Rn.scope hc ?_ | refine Rn.inScope hc ?_))
      refine Rn.reg hc rfl ?_
      simp only [zAY,zAS,zAU,Nat.reduceLT,gd,zAX,rops,fx,bin_eql,zOi,zEl,hn,s8,hdz]
      (repeat (first | refine Rn.seq hc ?_ | refine Rn.skip hc ?_ | refine Rn.block hc ?_ | refine Rn.inBlock hc ?_ | refine Rn.scope hc ?_ | refine Rn.inScope hc ?_))
      refine Rn.zAM hc rfl ?_
      simp only [zAY,zAU,sp_n,Nat.reduceLT,Value.bool.injEq,zEl,hn]
      (repeat (first | refine Rn.seq hc ?_ | refine Rn.skip hc ?_ | refine Rn.block hc ?_ | refine Rn.inBlock hc ?_ | refine Rn.scope hc ?_ | refine Rn.inScope hc ?_))
      refine Rn.reg hc rfl ?_
      simp only [zAY,zAU,zAT,sp_n,zAK,Nat.reduceLT,ne_eq,Nat.reduceEqDiff,zNf,gd,zAX,rops,fx,str,zAR,Nat.zero_add,zOi,zEl,Value.cells,Nat.reduceAdd,tk24,hn,s0,bd24_0,zBY,ze24,p2,List.size_toArray,List.length_cons,List.length_nil,Nat.beq_refl]
      (repeat (first | refine Rn.seq hc ?_ | refine Rn.skip hc ?_ | refine Rn.block hc ?_ | refine Rn.inBlock hc ?_ | refine Rn.scope hc ?_ | refine Rn.inScope hc ?_))
      refine Rn.reg hc rfl ?_
      simp only [zAY,zAU,zAT,sp_n,Nat.reduceLT,ne_eq,Nat.reduceEqDiff,zNf,gd,zAX,rops,fx,lng,zOi,zEl,un22,hn,s1]
      (repeat (first | refine Rn.seq hc ?_ | refine Rn.skip hc ?_))
      refine Rn.cut2 hc (Q1 := fun s ds D => ds = [] ∧ Nx C.next C D ∧ s.n = 112 ∧ sget s 0 = .int .i64 m ∧ sget s 1 = .slice sa st.length sc ∧ sget s 2 = .slice ra ro.length rc ∧ sget s 6 = .pointer (some ⟨A.next,0,none⟩) ∧ sget s 8 = .int .i64 (d : Int) ∧ sget s 11 = .pointer (some ⟨B.next,0,none⟩) ∧ ∃ e : Nat,e ≤ st.length ∧ sget s 12 = .int .i64 (e : Int) ∧ Red (atL st ro) e d)
        (Q2 := fun _ _ _ => False) ?_ ?_ ?_
      · (repeat (first | refine Rn.seq hc ?_ | refine Rn.skip hc ?_ | refine Rn.block hc ?_ | refine Rn.inBlock hc ?_ | refine Rn.scope hc ?_ | refine Rn.inScope hc ?_))
        refine Rn.zDY hc (I := fun k s A' => ∃ e : Nat,e ≤ st.length ∧ k = e ∧ Nx C.next C A' ∧ Per (atL st ro) e d ∧ s.n = 112 ∧ sget s 0 = .int .i64 m ∧ sget s 1 = .slice sa st.length sc ∧ sget s 2 = .slice ra ro.length rc ∧ sget s 6 = .pointer (some ⟨A.next,0,none⟩) ∧ sget s 8 = .int .i64 (d : Int) ∧ sget s 11 = .pointer (some ⟨B.next,0,none⟩) ∧ sget s 12 = .int .i64 (e : Int))
          (n := st.length) ⟨st.length,Nat.le_refl _,rfl,Nx.refl hx2.wf _,hper,by simp only [sp_n,hn],by simp only [zAT,ne_eq,Nat.reduceEqDiff,zNf,s0],by simp only [zAT,ne_eq,Nat.reduceEqDiff,zNf,s1],by simp only [zAT,ne_eq,Nat.reduceEqDiff,zNf,s2],by simp only [zAT,ne_eq,Nat.reduceEqDiff,zNf,s6],by simp only [zAT,ne_eq,Nat.reduceEqDiff,zNf,s8],by simp only [zAU,zAT,sp_n,Nat.reduceLT,ne_eq,Nat.reduceEqDiff,zNf,hn],by simp only [zAU,sp_n,Nat.reduceLT,hn]⟩ ?_
        clear hn s0 s1 s2 s6 s8 s
        rintro k s A' ⟨e,he,hke,hA,hpe,hn,s0,s1,s2,s6,s8,s11,s12⟩ ih
        (repeat (first | refine Rn.seq hc ?_ | refine Rn.skip hc ?_ | refine Rn.block hc ?_ | refine Rn.inBlock hc ?_ | refine Rn.scope hc ?_ | refine Rn.inScope hc ?_))
        by_cases he0 : e = 0
        · subst he0
          clear ih
          have hd0' : decide ((0 : Int) < ((0 : Nat) : Int)) = false := rfl
          refine Rn.zDV hc hx (by kernel_rfl) (by rfl) (by kernel_rfl) ?_ ?_
          · simp only [rdV,VQ.int,VQ.bool,zAY,zAS,zAU,zAT,sp_n,Nat.reduceLT,ne_eq,Nat.reduceEqDiff,zNf,gd,nth,zAX,zAP,beqB,fx,pck,zBS,Nat.zero_add,Nat.reduceAdd,and_self,hn,s12,hd0',List.length_cons,List.length_nil]
          simp only [zAY,zAS,zAU,zAT,sp_n,Nat.reduceLT,ne_eq,Nat.reduceEqDiff,zNf,gd,nth,zAX,zAP,beqB,rops,fx,pck,zBS,Nat.zero_add,zOi,zEl,Nat.reduceAdd,hn,s12,hd0',List.length_cons,List.length_nil]
          (repeat (first | refine Rn.seq hc ?_ | refine Rn.skip hc ?_ | refine Rn.block hc ?_ | refine Rn.inBlock hc ?_ | refine Rn.scope hc ?_ | refine Rn.inScope hc ?_))
          refine Rn.zAM hc rfl ?_
          simp only [zAY,zAU,sp_n,Nat.reduceLT,Value.bool.injEq,zEl,hn]
          (repeat (first | refine Rn.seq hc ?_ | refine Rn.skip hc ?_ | refine Rn.block hc ?_ | refine Rn.inBlock hc ?_ | refine Rn.scope hc ?_ | refine Rn.inScope hc ?_))
          refine Rn.exit hc rfl ?_
          (repeat (first | refine Rn.seq hc ?_ | refine Rn.skip hc ?_ | refine Rn.block hc ?_ | refine Rn.inBlock hc ?_ | refine Rn.scope hc ?_ | refine Rn.inScope hc ?_))
          exact Rn.fall ⟨rfl,Nx.bump hA _,by simp only [sp_n,hn],by simp only [zAT,ne_eq,Nat.reduceEqDiff,zNf,s0],by simp only [zAT,ne_eq,Nat.reduceEqDiff,zNf,s1],by simp only [zAT,ne_eq,Nat.reduceEqDiff,zNf,s2],by simp only [zAT,ne_eq,Nat.reduceEqDiff,zNf,s6],by simp only [zAT,ne_eq,Nat.reduceEqDiff,zNf,s8],by simp only [zAT,ne_eq,Nat.reduceEqDiff,zNf,s11],0,by omega,by simp only [zAT,ne_eq,Nat.reduceEqDiff,zNf,s12],red_of hpe hpmin (fun h => absurd h (by omega))⟩
        · have hd0' : decide ((0 : Int) < (e : Int)) = true := by simp; omega
          have hA0 : Nx A.next A A' := hx1.trans ((hC.trans (hA.le (by have := hC.next; omega))).le hx1.next)
          obtain ⟨r,ix,hr1,hr2,hr3,hix,hr4,hr5⟩ := emod_idx (x := ((e - 1 : Nat) : Int) - (st.length : Int)) hd0
          have hmodE := hr5 st.length (e - 1) rfl
          have hidx : ix < ro.length := by omega
          have hel : e - 1 < st.length := by omega
          obtain ⟨bb,o,rfl,_,hb1,hcl⟩ := hs (e - 1) hel
          obtain ⟨bb',o',rfl,_,hb2,hcl'⟩ := hr ix hidx
          have hcl : cl A' bb (o + (e - 1)) = _ := (hA0.cl hb1 _).trans hcl
          have hcl' : cl A' bb' (o' + ix) = _ := (hA0.cl hb2 _).trans hcl'
          have hw1 : IntKind.i64.wrap ((e : Int) - 1) = ((e - 1 : Nat) : Int) := by rw [IntWalk.i64_in _ (by omega)]; omega
          have hw2 : IntKind.i64.wrap (((e - 1 : Nat) : Int) - (st.length : Int)) = ((e - 1 : Nat) : Int) - (st.length : Int) := by rw [IntWalk.i64_in _ (by omega)]
          have hrem1 : ∀ M,bin Try.prog .rem 3 (.int .i64 (((e - 1 : Nat) : Int) - (st.length : Int))) (.int .i64 (d : Int)) M = some (.int .i64 r,M) := fun M => by rw [zCS _ _ _ _ (by omega),hr1]
          have hw3 : IntKind.i64.wrap (r + (d : Int)) = r + (d : Int) := by rw [IntWalk.i64_in _ (by omega)]
          have hrem2 : ∀ M,bin Try.prog .rem 3 (.int .i64 (r + (d : Int))) (.int .i64 (d : Int)) M = some (.int .i64 (ix : Int),M) := fun M => by rw [zCS _ _ _ _ (by omega),hr4]
          have hsame : ro.getD ix 0 = atL st ro (e - 1 + d) := by
            rw [← atL_ro (st := st) hidx]
            exact hpe.same (by omega) (by omega) (by rw [hmodE,Nat.add_mod_right])
          by_cases heq : st.getD (e - 1) 0 = ro.getD ix 0
          · have hdq : decide (st.getD (e - 1) 0 = ro.getD ix 0) = true := decide_eq_true heq
            refine Rn.zDV hc hx (by kernel_rfl) (by rfl) (by kernel_rfl) ?_ ?_
            · simp only [rdV,VQ.int,VQ.bool,VQ.ptr,VQ.slice,zBT,zAY,zAS,zAU,zAT,sp_n,Nat.reduceLT,ne_eq,Nat.reduceEqDiff,zNf,gd,nth,zAX,zAP,beqB,fx,ld,idx,lng,pck,zBS,bin_eql,zAH,zBR,zAR,Nat.zero_add,Nat.reduceAdd,Nat.mul_one,and_self,tk3,un22,eo22,hn,s1,s2,s8,s12,hd0',hw1,hw2,hrem1,hw3,hrem2,zAQ hel,zAQ hidx,hcl,hcl',hdq,List.length_cons,List.length_nil]
            simp only [zBT,zAY,zAS,zAU,zAT,sp_n,Nat.reduceLT,ne_eq,Nat.reduceEqDiff,zNf,gd,nth,zAX,zAP,beqB,rops,fx,ld,idx,lng,pck,zBS,bin_eql,zAH,zBR,zAR,Nat.zero_add,zOi,zEl,Nat.reduceAdd,Nat.mul_one,tk3,un22,eo22,hn,s1,s2,s8,s12,hd0',hw1,hw2,hrem1,hw3,hrem2,zAQ hel,zAQ hidx,hcl,hcl',hdq,List.length_cons,List.length_nil]
            (repeat (first | refine Rn.seq hc ?_ | refine Rn.skip hc ?_ | refine Rn.block hc ?_ | refine Rn.inBlock hc ?_ | refine Rn.scope hc ?_ | refine Rn.inScope hc ?_))
            refine Rn.zAM hc rfl ?_
            simp only [zAY,zAU,sp_n,Nat.reduceLT,Value.bool.injEq,zEl,hn]
            (repeat (first | refine Rn.seq hc ?_ | refine Rn.skip hc ?_ | refine Rn.block hc ?_ | refine Rn.inBlock hc ?_ | refine Rn.scope hc ?_ | refine Rn.inScope hc ?_))
            refine Rn.reg hc rfl ?_
            simp only [zAY,zAS,zAU,zAT,sp_n,Nat.reduceLT,ne_eq,Nat.reduceEqDiff,zNf,gd,zAX,rops,fx,zBR,zOi,zEl,hn,s12,hw1]
            (repeat (first | refine Rn.seq hc ?_ | refine Rn.skip hc ?_ | refine Rn.block hc ?_ | refine Rn.inBlock hc ?_ | refine Rn.scope hc ?_ | refine Rn.inScope hc ?_))
            refine ih _ _ _ (by omega) ⟨e - 1,by omega,rfl,Nx.bump hA _,Per.back (by rw [show e - 1 + 1 = e by omega]; exact hpe) (by rw [atL_st hel,heq,hsame]),by simp only [sp_n,hn],by simp only [zAT,ne_eq,Nat.reduceEqDiff,zNf,s0],by simp only [zAT,ne_eq,Nat.reduceEqDiff,zNf,s1],by simp only [zAT,ne_eq,Nat.reduceEqDiff,zNf,s2],by simp only [zAT,ne_eq,Nat.reduceEqDiff,zNf,s6],by simp only [zAT,ne_eq,Nat.reduceEqDiff,zNf,s8],by simp only [zAT,ne_eq,Nat.reduceEqDiff,zNf,s11],by simp only [zAU,sp_n,Nat.reduceLT,hn]⟩
          · have hdq : decide (st.getD (e - 1) 0 = ro.getD ix 0) = false := decide_eq_false heq
            clear ih
            refine Rn.zDV hc hx (by kernel_rfl) (by rfl) (by kernel_rfl) ?_ ?_
            · simp only [rdV,VQ.int,VQ.bool,VQ.ptr,VQ.slice,zBT,zAY,zAS,zAU,zAT,sp_n,Nat.reduceLT,ne_eq,Nat.reduceEqDiff,zNf,gd,nth,zAX,zAP,beqB,fx,ld,idx,lng,pck,zBS,bin_eql,zAH,zBR,zAR,Nat.zero_add,Nat.reduceAdd,Nat.mul_one,and_self,tk3,un22,eo22,hn,s1,s2,s8,s12,hd0',hw1,hw2,hrem1,hw3,hrem2,zAQ hel,zAQ hidx,hcl,hcl',hdq,List.length_cons,List.length_nil]
            simp only [zBT,zAY,zAS,zAU,zAT,sp_n,Nat.reduceLT,ne_eq,Nat.reduceEqDiff,zNf,gd,nth,zAX,zAP,beqB,rops,fx,ld,idx,lng,pck,zBS,bin_eql,zAH,zBR,zAR,Nat.zero_add,zOi,zEl,Nat.reduceAdd,Nat.mul_one,tk3,un22,eo22,hn,s1,s2,s8,s12,hd0',hw1,hw2,hrem1,hw3,hrem2,zAQ hel,zAQ hidx,hcl,hcl',hdq,List.length_cons,List.length_nil]
            (repeat (first | refine Rn.seq hc ?_ | refine Rn.skip hc ?_ | refine Rn.block hc ?_ | refine Rn.inBlock hc ?_ | refine Rn.scope hc ?_ | refine Rn.inScope hc ?_))
            refine Rn.zAM hc rfl ?_
            simp only [zAY,zAU,sp_n,Nat.reduceLT,Value.bool.injEq,zEl,hn]
            (repeat (first | refine Rn.seq hc ?_ | refine Rn.skip hc ?_ | refine Rn.block hc ?_ | refine Rn.inBlock hc ?_ | refine Rn.scope hc ?_ | refine Rn.inScope hc ?_))
            refine Rn.exit hc rfl ?_
            (repeat (first | refine Rn.seq hc ?_ | refine Rn.skip hc ?_ | refine Rn.block hc ?_ | refine Rn.inBlock hc ?_ | refine Rn.scope hc ?_ | refine Rn.inScope hc ?_))
            exact Rn.fall ⟨rfl,Nx.bump hA _,by simp only [sp_n,hn],by simp only [zAT,ne_eq,Nat.reduceEqDiff,zNf,s0],by simp only [zAT,ne_eq,Nat.reduceEqDiff,zNf,s1],by simp only [zAT,ne_eq,Nat.reduceEqDiff,zNf,s2],by simp only [zAT,ne_eq,Nat.reduceEqDiff,zNf,s6],by simp only [zAT,ne_eq,Nat.reduceEqDiff,zNf,s8],by simp only [zAT,ne_eq,Nat.reduceEqDiff,zNf,s11],e,he,by simp only [zAT,ne_eq,Nat.reduceEqDiff,zNf,s12],red_of hpe hpmin (fun _ hh => heq (by rw [← atL_st (ro := ro) hel,hh,hsame]))⟩
      · clear hn s0 s1 s2 s6 s8 s
        rintro s ds D ⟨rfl,hD,hn,s0,s1,s2,s6,s8,s11,a,hal,s12,hra⟩
        have hCn := hC.next
        have hDn := hD.next
        have hD1 : Nx A1.next A1 D := hC.trans (hD.le hC.next)
        have hD0 : Nx A.next A D := hx1.trans (hD1.le hx1.next)
        (repeat (first | refine Rn.seq hc ?_ | refine Rn.skip hc ?_ | refine Rn.block hc ?_ | refine Rn.inBlock hc ?_ | refine Rn.scope hc ?_ | refine Rn.inScope hc ?_))
        by_cases h60 : 60 < a
        · have hd60 : decide ((60 : Int) < (a : Int)) = true := by simp; omega
          obtain ⟨E,q1,q2,q3,q4,g0,g1,g2⟩ := hr24 (v0 := .int .i64 0) (v1 := .slice none 0 0) (v2 := .slice none 0 0) hD1 rfl
          refine Rn.reg hc rfl ?_
          simp only [zAY,zAS,zAU,Nat.reduceLT,gd,zAX,rops,fx,zBS,zOi,zEl,hn,s12,hd60]
          (repeat (first | refine Rn.seq hc ?_ | refine Rn.skip hc ?_ | refine Rn.block hc ?_ | refine Rn.inBlock hc ?_ | refine Rn.scope hc ?_ | refine Rn.inScope hc ?_))
          refine Rn.zAM hc rfl ?_
          simp only [zAY,zAU,sp_n,Nat.reduceLT,Value.bool.injEq,zEl,hn]
          (repeat (first | refine Rn.seq hc ?_ | refine Rn.skip hc ?_ | refine Rn.block hc ?_ | refine Rn.inBlock hc ?_ | refine Rn.scope hc ?_ | refine Rn.inScope hc ?_))
          refine Rn.reg hc rfl ?_
          simp only [zAY,zAS,zAU,zAT,sp_n,zAK,Nat.reduceLT,ne_eq,Nat.reduceEqDiff,zNf,gd,zAX,rops,fx,str,zAR,Nat.zero_add,zOi,zEl,Nat.reduceAdd,tk24,hn,s6,bd24_z,q1,List.size_toArray,List.length_cons,List.length_nil,Nat.beq_refl]
          (repeat (first | refine Rn.seq hc ?_ | refine Rn.skip hc ?_ | refine Rn.block hc ?_ | refine Rn.inBlock hc ?_ | refine Rn.scope hc ?_ | refine Rn.inScope hc ?_))
          refine Rn.ret (zCT rfl (v := .agg #[.int .i64 0,.slice none 0 0,.slice none 0 0]) ?_ ⟨a,d,hra,hal,hdl,⟨by omega,q3,fun b hb => by rw [q4 _ (by omega),hD0.keep _ hb]⟩,?_⟩)
          · simp only [zAT,ne_eq,Nat.reduceEqDiff,zNf,ld,zAR,cls,Nat.zero_add,Nat.reduceAdd,tk24,s6,g0,g1,g2]
          · rw [if_pos (.inr h60)]
            simp only [zAU,sp_n,Nat.reduceLT,hn]
        · have hd60 : decide ((60 : Int) < (a : Int)) = false := by simp; omega
          refine Rn.reg hc rfl ?_
          simp only [zAY,zAS,zAU,Nat.reduceLT,gd,zAX,rops,fx,zBS,zOi,zEl,hn,s12,hd60]
          (repeat (first | refine Rn.seq hc ?_ | refine Rn.skip hc ?_ | refine Rn.block hc ?_ | refine Rn.inBlock hc ?_ | refine Rn.scope hc ?_ | refine Rn.inScope hc ?_))
          refine Rn.zAM hc rfl ?_
          simp only [zAY,zAU,sp_n,Nat.reduceLT,Value.bool.injEq,zEl,hn]
          (repeat (first | refine Rn.seq hc ?_ | refine Rn.skip hc ?_ | refine Rn.block hc ?_ | refine Rn.inBlock hc ?_ | refine Rn.scope hc ?_ | refine Rn.inScope hc ?_))
          have hsD : Ints D sa 0 D.next st := (hs.nx hD0 (Nat.le_refl _)).mono (Nat.le_refl _) hD0.next
          obtain ⟨sa',sc',hasl,hsl'⟩ := asl_hi hsD (hsl.nx hw hD0) hsc hal
          have htk : (st.take a).length = a := by simp; omega
          refine Rn.region hc fun K hK => ?_
          refine Wo.run hc 3 rfl rfl rfl ?_
          simp (maxSteps := 2000000) only [List.drop_zero,List.take_succ_cons,List.take_zero,zAY,zAU,zAT,sp_n,Nat.reduceLT,ne_eq,Nat.reduceEqDiff,not_false_eq_true,gd,zAX,rops,fx,Nat.zero_add,Option.some.injEq,exists_eq_left',hn,s1,s12,ae_asl_hi,hasl]
          refine Wo.call hc (by rfl) (by rfl) ⟨by rfl,by rfl⟩ (xs := [.slice sa' (st.take a).length sc']) (by rfl) (by rfl) (by simp only [zAY,zAU,sp_n,Nat.reduceLT,List.map_cons,List.map_nil,List.nil_append,List.append_nil,hn]) (Con.mono (clone_ints hD.wf hsl' (by omega)) ?_)
          rintro w E ⟨xa,rfl,hE,hgE⟩
          rw [htk]
          have lE : Canon.look E.objs B.next = _ := (hE.keep _ (by omega)).trans ((hD.keep _ (by omega)).trans l2)
          obtain ⟨G,u1,u2⟩ := st1_upd (o := 1) (v := .slice xa a a) lE rfl (by simp) rfl
          have lG : Canon.look G.objs B.next = some ⟨.cells #[.int .i64 m,.slice xa a a,.slice none 0 0] 24,false,0⟩ := by
            obtain ⟨c,t,f,g,e,r1,r2,_⟩ := u2.at'
            rw [lE] at r1
            cases r1
            exact r2
          refine Wo.run hc 2 rfl rfl rfl ?_
          simp (maxSteps := 2000000) only [List.drop_zero,List.drop_succ_cons,List.take_succ_cons,List.take_zero,zAY,zAU,zAT,sp_n,zAK,Nat.reduceLT,ne_eq,Nat.reduceEqDiff,not_false_eq_true,gd,zAX,rops,fx,str,fad,zAR,Nat.zero_add,Option.some.injEq,exists_eq_left',Nat.reduceAdd,tk22,zBO,hn,s11,u1]
          refine Wo.done hc rfl (hK _ _ ?_)
          clear hK
          (repeat (first | refine Rn.seq hc ?_ | refine Rn.skip hc ?_ | refine Rn.block hc ?_ | refine Rn.inBlock hc ?_ | refine Rn.scope hc ?_ | refine Rn.inScope hc ?_))
          have hEn := hE.next
          have hGn := u2.next
          have wG : WF G := (u2.nx hE.wf (Nat.zero_le _)).wf
          have htake : st.take a = redS (atL st ro) a := by
            refine List.ext_getElem (by rw [zAL]; exact htk) fun i h1 h2 => ?_
            have hi : i < a := by omega
            have := atL_st (ro := ro) (show i < st.length by omega)
            simp [redS,this,List.getD_eq_getElem?_getD,show i < st.length by omega]
          rw [htake] at hgE
          have hG0 : ∀ b,b < A1.next → Canon.look G.objs b = Canon.look A1.objs b := fun b hb => by rw [u2.off _ (by omega),hE.keep _ (by omega),hD1.keep _ hb]
          refine Rn.reg hc rfl ?_
          simp only [zAY,zAS,zAT,ne_eq,Nat.reduceEqDiff,zNf,gd,zAX,rops,fx,zOi,zEl,s8]
          (repeat (first | refine Rn.seq hc ?_ | refine Rn.skip hc ?_ | refine Rn.block hc ?_ | refine Rn.inBlock hc ?_ | refine Rn.scope hc ?_ | refine Rn.inScope hc ?_))
          refine Rn.zDY hc (I := fun k s A' => ∃ ya,∃ i : Nat,i ≤ d ∧ k = d - i ∧ G.next ≤ A'.next ∧ WF A' ∧ (∀ b,b < G.next → b ≠ B.next → Canon.look A'.objs b = Canon.look G.objs b) ∧ Gr A' ya G.next (redR (atL st ro) a i) ∧ Canon.look A'.objs B.next = some ⟨.cells #[.int .i64 m,.slice xa a a,.slice ya i i] 24,false,0⟩ ∧ s.n = 112 ∧ sget s 1 = .slice sa st.length sc ∧ sget s 2 = .slice ra ro.length rc ∧ sget s 6 = .pointer (some ⟨A.next,0,none⟩) ∧ sget s 8 = .int .i64 (d : Int) ∧ sget s 11 = .pointer (some ⟨B.next,0,none⟩) ∧ sget s 12 = .int .i64 (a : Int) ∧ sget s 86 = .int .i64 (d : Int) ∧ sget s 87 = .int .i64 (i : Int))
            (n := d) ⟨none,0,by omega,rfl,Nat.le_refl _,wG,fun _ _ _ => rfl,Gr.nil _ _,lG,by simp only [sp_n,hn],by simp only [zAT,ne_eq,Nat.reduceEqDiff,zNf,s1],by simp only [zAT,ne_eq,Nat.reduceEqDiff,zNf,s2],by simp only [zAT,ne_eq,Nat.reduceEqDiff,zNf,s6],by simp only [zAT,ne_eq,Nat.reduceEqDiff,zNf,s8],by simp only [zAT,ne_eq,Nat.reduceEqDiff,zNf,s11],by simp only [zAT,ne_eq,Nat.reduceEqDiff,zNf,s12],by simp only [zAU,zAT,sp_n,Nat.reduceLT,ne_eq,Nat.reduceEqDiff,zNf,hn],by simp only [zAU,sp_n,Nat.reduceLT,hn]; rfl⟩ ?_
          clear hn s0 s1 s2 s6 s8 s11 s12 s
          rintro k s A' ⟨ya,i,hi,hke,hA'n,hw',hkp,hgy,lA',hn,s1,s2,s6,s8,s11,s12,s86,s87⟩ ih
          (repeat (first | refine Rn.seq hc ?_ | refine Rn.skip hc ?_ | refine Rn.block hc ?_ | refine Rn.inBlock hc ?_ | refine Rn.scope hc ?_ | refine Rn.inScope hc ?_))
          by_cases hlt : i < d
          · have hd : decide ((i : Int) < (d : Int)) = true := by simp; omega
            refine Rn.reg hc rfl ?_
            simp only [zAY,gd,zAX,rops,fx,zAN,zOi,zEl,s86,s87,hd]
            (repeat (first | refine Rn.seq hc ?_ | refine Rn.skip hc ?_ | refine Rn.block hc ?_ | refine Rn.inBlock hc ?_ | refine Rn.scope hc ?_ | refine Rn.inScope hc ?_))
            refine Rn.zAM hc rfl ?_
            simp only [zAY,zAU,Nat.reduceLT,Value.bool.injEq,zEl,hn]
            (repeat (first | refine Rn.seq hc ?_ | refine Rn.skip hc ?_ | refine Rn.block hc ?_ | refine Rn.inBlock hc ?_ | refine Rn.scope hc ?_ | refine Rn.inScope hc ?_))
            refine Rn.reg hc rfl ?_
            simp only [zAY,zAU,zAT,sp_n,Nat.reduceLT,ne_eq,Nat.reduceEqDiff,zNf,gd,zAX,rops,fx,zOi,zEl,hn,s87]
            (repeat (first | refine Rn.seq hc ?_ | refine Rn.skip hc ?_ | refine Rn.block hc ?_ | refine Rn.inBlock hc ?_ | refine Rn.scope hc ?_ | refine Rn.inScope hc ?_))
            obtain ⟨r,ix,hr1,hr2,hr3,hix,hr4,hr5⟩ := emod_idx (x := ((a + i : Nat) : Int) - (st.length : Int)) hd0
            have hmodE := hr5 st.length (a + i) rfl
            have hidx : ix < ro.length := by omega
            obtain ⟨bb,o,rfl,_,hb1,hcl⟩ := hr ix hidx
            have hLb : ∀ b,b < A.next → Canon.look A'.objs b = Canon.look A.objs b := fun b hb => by rw [hkp _ (by omega) (by omega),hG0 _ (by omega),hx1.keep _ hb]
            have hcl : cl A' bb (o + ix) = _ := (zBW (hLb bb hb1)).trans hcl
            have hval : ro.getD ix 0 = atL st ro (a + i) := by
              rw [← atL_ro (st := st) hidx]
              exact hra.per.same (by omega) (by omega) hmodE
            rw [hval] at hcl
            have hw1 : IntKind.i64.wrap ((a : Int) - (st.length : Int)) = (a : Int) - (st.length : Int) := by rw [IntWalk.i64_in _ (by omega)]
            have hw2 : IntKind.i64.wrap ((a : Int) - (st.length : Int) + (i : Int)) = ((a + i : Nat) : Int) - (st.length : Int) := by rw [IntWalk.i64_in _ (by omega)]; omega
            have hrem1 : ∀ M,bin Try.prog .rem 3 (.int .i64 (((a + i : Nat) : Int) - (st.length : Int))) (.int .i64 (d : Int)) M = some (.int .i64 r,M) := fun M => by rw [zCS _ _ _ _ (by omega),hr1]
            have hw3 : IntKind.i64.wrap (r + (d : Int)) = r + (d : Int) := by rw [IntWalk.i64_in _ (by omega)]
            have hrem2 : ∀ M,bin Try.prog .rem 3 (.int .i64 (r + (d : Int))) (.int .i64 (d : Int)) M = some (.int .i64 (ix : Int),M) := fun M => by rw [zCS _ _ _ _ (by omega),hr4]
            have c2 : cl A' B.next 2 = some (.slice ya i i) := by rw [zCE lA' rfl]; rfl
            obtain ⟨F,hF1,hF2,hF⟩ : ∃ F : AHeap → Prop,(∀ M,F M → cl M B.next 2 = some (.slice ya i i)) ∧ (∀ M,F M → cl M bb (o + ix) = some (.int .i64 (atL st ro (a + i)))) ∧ (∀ M,Canon.look M.objs B.next = Canon.look A'.objs B.next → Canon.look M.objs bb = Canon.look A'.objs bb → F M) :=
              ⟨fun M => cl M B.next 2 = some (.slice ya i i) ∧ cl M bb (o + ix) = some (.int .i64 (atL st ro (a + i))),fun _ h => h.1,fun _ h => h.2,fun M q1 q2 => ⟨(zBW q1).trans c2,(zBW q2).trans hcl⟩⟩
            have FB := hF (bump A' 21) rfl rfl
            have hxB : Nx A'.next A' (bump A' 21) := Nx.bump (Nx.refl hw' _) 21
            refine Rn.drawnL hc hx noS F (E := [17,18]) (n := 20) (k := 21) (by kernel_rfl) (by kernel_rfl) (by rfl) (by kernel_rfl) ?_
            refine DrL.read (by first | rfl | kernel_rfl) (by rfl) (by assumption) (fun M hM => by simp only [zAY,zAT,ne_eq,Nat.reduceEqDiff,zNf,fx,fad,zAR,Nat.zero_add,zBG,s11] <;> rfl) (by rfl) (by first | exact VQ.int _ _ | exact VQ.bool _ | exact VQ.ptr _ _ | exact VQ.slice _ _ _ | exact VQ.func (by simp [zAW,zAV,zAZ]) (by simp [zAW,zAV,zAZ]) | exact VQ.agg (by simp [zAW,zAV,zAZ]) | exact VQ.tuple (by simp [zAW,zAV,zAZ])) ?_
            refine DrL.read (by first | rfl | kernel_rfl) (by rfl) (by assumption) (fun M hM => by simp only [zAY,zAU,sp_n,Nat.reduceLT,fx,ld,zAR,tk22,hn,hF1 M hM] <;> rfl) (by rfl) (by first | exact VQ.int _ _ | exact VQ.bool _ | exact VQ.ptr _ _ | exact VQ.slice _ _ _ | exact VQ.func (by simp [zAW,zAV,zAZ]) (by simp [zAW,zAV,zAZ]) | exact VQ.agg (by simp [zAW,zAV,zAZ]) | exact VQ.tuple (by simp [zAW,zAV,zAZ])) ?_
            refine DrL.read (by first | rfl | kernel_rfl) (by rfl) (by assumption) (fun M hM => by simp only [zAY,zAT,ne_eq,Nat.reduceEqDiff,zNf,fx,s2] <;> rfl) (by rfl) (by first | exact VQ.int _ _ | exact VQ.bool _ | exact VQ.ptr _ _ | exact VQ.slice _ _ _ | exact VQ.func (by simp [zAW,zAV,zAZ]) (by simp [zAW,zAV,zAZ]) | exact VQ.agg (by simp [zAW,zAV,zAZ]) | exact VQ.tuple (by simp [zAW,zAV,zAZ])) ?_
            refine DrL.read (by first | rfl | kernel_rfl) (by rfl) (by assumption) (fun M hM => by simp only [zAY,zAT,ne_eq,Nat.reduceEqDiff,zNf,fx,s12] <;> rfl) (by rfl) (by first | exact VQ.int _ _ | exact VQ.bool _ | exact VQ.ptr _ _ | exact VQ.slice _ _ _ | exact VQ.func (by simp [zAW,zAV,zAZ]) (by simp [zAW,zAV,zAZ]) | exact VQ.agg (by simp [zAW,zAV,zAZ]) | exact VQ.tuple (by simp [zAW,zAV,zAZ])) ?_
            refine DrL.read (by first | rfl | kernel_rfl) (by rfl) (by assumption) (fun M hM => by simp only [zAY,zAT,ne_eq,Nat.reduceEqDiff,zNf,fx,s1] <;> rfl) (by rfl) (by first | exact VQ.int _ _ | exact VQ.bool _ | exact VQ.ptr _ _ | exact VQ.slice _ _ _ | exact VQ.func (by simp [zAW,zAV,zAZ]) (by simp [zAW,zAV,zAZ]) | exact VQ.agg (by simp [zAW,zAV,zAZ]) | exact VQ.tuple (by simp [zAW,zAV,zAZ])) ?_
            refine DrL.read (by first | rfl | kernel_rfl) (by rfl) (by assumption) (fun M hM => by simp only [zAY,zAU,sp_n,Nat.reduceLT,fx,lng,un22,hn] <;> rfl) (by rfl) (by first | exact VQ.int _ _ | exact VQ.bool _ | exact VQ.ptr _ _ | exact VQ.slice _ _ _ | exact VQ.func (by simp [zAW,zAV,zAZ]) (by simp [zAW,zAV,zAZ]) | exact VQ.agg (by simp [zAW,zAV,zAZ]) | exact VQ.tuple (by simp [zAW,zAV,zAZ])) ?_
            refine DrL.read (by first | rfl | kernel_rfl) (by rfl) (by assumption) (fun M hM => by simp only [zAY,zAU,zAT,sp_n,Nat.reduceLT,ne_eq,Nat.reduceEqDiff,zNf,fx,zBR,hn,hw1] <;> rfl) (by rfl) (by first | exact VQ.int _ _ | exact VQ.bool _ | exact VQ.ptr _ _ | exact VQ.slice _ _ _ | exact VQ.func (by simp [zAW,zAV,zAZ]) (by simp [zAW,zAV,zAZ]) | exact VQ.agg (by simp [zAW,zAV,zAZ]) | exact VQ.tuple (by simp [zAW,zAV,zAZ])) ?_
            refine DrL.read (by first | rfl | kernel_rfl) (by rfl) (by assumption) (fun M hM => by simp only [zAY,zAU,zAT,sp_n,Nat.reduceLT,ne_eq,Nat.reduceEqDiff,zNf,fx,hn] <;> rfl) (by rfl) (by first | exact VQ.int _ _ | exact VQ.bool _ | exact VQ.ptr _ _ | exact VQ.slice _ _ _ | exact VQ.func (by simp [zAW,zAV,zAZ]) (by simp [zAW,zAV,zAZ]) | exact VQ.agg (by simp [zAW,zAV,zAZ]) | exact VQ.tuple (by simp [zAW,zAV,zAZ])) ?_
            refine DrL.read (by first | rfl | kernel_rfl) (by rfl) (by assumption) (fun M hM => by simp only [zAY,zAU,zAT,sp_n,Nat.reduceLT,ne_eq,Nat.reduceEqDiff,zNf,fx,zAH,hn,hw2] <;> rfl) (by rfl) (by first | exact VQ.int _ _ | exact VQ.bool _ | exact VQ.ptr _ _ | exact VQ.slice _ _ _ | exact VQ.func (by simp [zAW,zAV,zAZ]) (by simp [zAW,zAV,zAZ]) | exact VQ.agg (by simp [zAW,zAV,zAZ]) | exact VQ.tuple (by simp [zAW,zAV,zAZ])) ?_
            refine DrL.read (by first | rfl | kernel_rfl) (by rfl) (by assumption) (fun M hM => by simp only [zAY,zAT,ne_eq,Nat.reduceEqDiff,zNf,fx,s8] <;> rfl) (by rfl) (by first | exact VQ.int _ _ | exact VQ.bool _ | exact VQ.ptr _ _ | exact VQ.slice _ _ _ | exact VQ.func (by simp [zAW,zAV,zAZ]) (by simp [zAW,zAV,zAZ]) | exact VQ.agg (by simp [zAW,zAV,zAZ]) | exact VQ.tuple (by simp [zAW,zAV,zAZ])) ?_
            refine DrL.read (by first | rfl | kernel_rfl) (by rfl) (by assumption) (fun M hM => by simp only [zAY,zAU,zAT,sp_n,Nat.reduceLT,ne_eq,Nat.reduceEqDiff,zNf,fx,hn,hrem1] <;> rfl) (by rfl) (by first | exact VQ.int _ _ | exact VQ.bool _ | exact VQ.ptr _ _ | exact VQ.slice _ _ _ | exact VQ.func (by simp [zAW,zAV,zAZ]) (by simp [zAW,zAV,zAZ]) | exact VQ.agg (by simp [zAW,zAV,zAZ]) | exact VQ.tuple (by simp [zAW,zAV,zAZ])) ?_
            refine DrL.read (by first | rfl | kernel_rfl) (by rfl) (by assumption) (fun M hM => by simp only [zAY,zAT,ne_eq,Nat.reduceEqDiff,zNf,fx,s8] <;> rfl) (by rfl) (by first | exact VQ.int _ _ | exact VQ.bool _ | exact VQ.ptr _ _ | exact VQ.slice _ _ _ | exact VQ.func (by simp [zAW,zAV,zAZ]) (by simp [zAW,zAV,zAZ]) | exact VQ.agg (by simp [zAW,zAV,zAZ]) | exact VQ.tuple (by simp [zAW,zAV,zAZ])) ?_
            refine DrL.read (by first | rfl | kernel_rfl) (by rfl) (by assumption) (fun M hM => by simp only [zAY,zAU,zAT,sp_n,Nat.reduceLT,ne_eq,Nat.reduceEqDiff,zNf,fx,zAH,hn,hw3] <;> rfl) (by rfl) (by first | exact VQ.int _ _ | exact VQ.bool _ | exact VQ.ptr _ _ | exact VQ.slice _ _ _ | exact VQ.func (by simp [zAW,zAV,zAZ]) (by simp [zAW,zAV,zAZ]) | exact VQ.agg (by simp [zAW,zAV,zAZ]) | exact VQ.tuple (by simp [zAW,zAV,zAZ])) ?_
            refine DrL.read (by first | rfl | kernel_rfl) (by rfl) (by assumption) (fun M hM => by simp only [zAY,zAT,ne_eq,Nat.reduceEqDiff,zNf,fx,s8] <;> rfl) (by rfl) (by first | exact VQ.int _ _ | exact VQ.bool _ | exact VQ.ptr _ _ | exact VQ.slice _ _ _ | exact VQ.func (by simp [zAW,zAV,zAZ]) (by simp [zAW,zAV,zAZ]) | exact VQ.agg (by simp [zAW,zAV,zAZ]) | exact VQ.tuple (by simp [zAW,zAV,zAZ])) ?_
            refine DrL.read (by first | rfl | kernel_rfl) (by rfl) (by assumption) (fun M hM => by simp only [zAY,zAU,zAT,sp_n,Nat.reduceLT,ne_eq,Nat.reduceEqDiff,zNf,fx,hn,hrem2] <;> rfl) (by rfl) (by first | exact VQ.int _ _ | exact VQ.bool _ | exact VQ.ptr _ _ | exact VQ.slice _ _ _ | exact VQ.func (by simp [zAW,zAV,zAZ]) (by simp [zAW,zAV,zAZ]) | exact VQ.agg (by simp [zAW,zAV,zAZ]) | exact VQ.tuple (by simp [zAW,zAV,zAZ])) ?_
            refine DrL.read (by first | rfl | kernel_rfl) (by rfl) (by assumption) (fun M hM => by simp only [zAY,zAU,zAT,sp_n,Nat.reduceLT,ne_eq,Nat.reduceEqDiff,zNf,fx,idx,Nat.mul_one,eo22,hn,zAQ hidx] <;> rfl) (by rfl) (by first | exact VQ.int _ _ | exact VQ.bool _ | exact VQ.ptr _ _ | exact VQ.slice _ _ _ | exact VQ.func (by simp [zAW,zAV,zAZ]) (by simp [zAW,zAV,zAZ]) | exact VQ.agg (by simp [zAW,zAV,zAZ]) | exact VQ.tuple (by simp [zAW,zAV,zAZ])) ?_
            refine DrL.read (by first | rfl | kernel_rfl) (by rfl) (by assumption) (fun M hM => by simp only [zAY,zAU,sp_n,Nat.reduceLT,fx,ld,zAR,tk3,hn,hF2 M hM] <;> rfl) (by rfl) (by first | exact VQ.int _ _ | exact VQ.bool _ | exact VQ.ptr _ _ | exact VQ.slice _ _ _ | exact VQ.func (by simp [zAW,zAV,zAZ]) (by simp [zAW,zAV,zAZ]) | exact VQ.agg (by simp [zAW,zAV,zAZ]) | exact VQ.tuple (by simp [zAW,zAV,zAZ])) ?_
            refine DrL.float (by rfl) (by rfl) (by rfl) (fb22_1 (v := .int .i64 (atL st ro (a + i))) (by simp only [zAY,zAU,sp_n,Nat.reduceLT,hn]) rfl) ?_
            have hnb : Canon.look (bump A' 21).objs (A'.next + 17) = none := hw'.none (by omega)
            obtain ⟨B2,p1,hxB2,eB2,lB2,kB2⟩ := place_row (N := 0) (Nx.refl hxB.wf 0) (b := A'.next + 17) (Nat.zero_le _) (by rw [zAD]; omega) hnb [.int .i64 (atL st ro (a + i))] 3 1 1
            rw [zAD] at eB2
            have F2 := hF B2 (kB2 _ (by omega)) (kB2 _ (by omega))
            have hg2 : Gr B2 ya G.next (redR (atL st ro) a i) := (hgy.nx (n := 0) hw' hxB).ext (by rw [zAD]; omega) fun b' hb' => by
              by_cases hbb : b' = A'.next + 17
              · exact .inl (hbb ▸ hnb)
              · exact .inr (kB2 _ hbb)
            have hlen := zAG (atL st ro) a i
            obtain ⟨B3,q1,n3,w3,hg3,kp3,_⟩ := gr_push hxB2.wf hg2 (a2 := some ⟨A'.next + 17,0,none⟩) (c2 := 1) (b2 := A'.next + 17) (x := atL st ro (a + i)) rfl (by rw [zCE lB2 rfl]; rfl) (by omega)
            rw [hlen] at q1
            have hsnoc : redR (atL st ro) a i ++ [atL st ro (a + i)] = redR (atL st ro) a (i + 1) := by simp [redR,List.range_succ]
            rw [hsnoc] at hg3
            have L3 : ∀ b',b' < G.next → Canon.look B3.objs b' = Canon.look A'.objs b' := fun b' hb' => by
              rw [kp3 b' (by omega) (fun y hy => by obtain ⟨_,q,_⟩ := hg2.sl y hy; omega),kB2 _ (by omega)]
              rfl
            have F3 := hF B3 (L3 _ (by omega)) (L3 _ (by omega))
            refine DrL.eff (by rfl) (by rfl) (pd1 := [(17,⟨[.int .i64 (atL st ro (a + i))],3,.sl 1 1⟩)]) (pd2 := []) (by kernel_rfl) (by kernel_rfl) (ms0 := [bump A' 21]) (A0 := B2) (by simp only [zBU,p1]) (fun M hM => by rw [List.mem_singleton] at hM; rw [hM]; exact FB) F2 (by rfl)
              (v := .slice (some ⟨B2.next,0,none⟩) (i + 1) (i + 1)) (A1 := B3) (zBQ rfl (by simp only [zAY,zAU,zAT,sp_n,Nat.reduceLT,ne_eq,Nat.reduceEqDiff,zNf,Nat.zero_add,Nat.reduceAdd,hn,ae_apd,zCQ,FK.val]; exact q1)) ?_
            refine DrL.read (by first | rfl | kernel_rfl) (by rfl) (by assumption) (fun M hM => by simp only [zAY,zAT,ne_eq,Nat.reduceEqDiff,zNf,fx,fad,zAR,Nat.zero_add,Nat.reduceAdd,zBG,s11] <;> rfl) (by rfl) (by first | exact VQ.int _ _ | exact VQ.bool _ | exact VQ.ptr _ _ | exact VQ.slice _ _ _ | exact VQ.func (by simp [zAW,zAV,zAZ]) (by simp [zAW,zAV,zAZ]) | exact VQ.agg (by simp [zAW,zAV,zAZ]) | exact VQ.tuple (by simp [zAW,zAV,zAZ])) ?_
            have l3 : Canon.look B3.objs B.next = _ := (L3 _ (by omega)).trans lA'
            obtain ⟨B4,v1,v2⟩ := st1_upd (o := 2) (v := .slice (some ⟨B2.next,0,none⟩) (i + 1) (i + 1)) l3 rfl (by simp) rfl
            refine DrL.eff (by rfl) (by rfl) (pd1 := []) (pd2 := []) (by kernel_rfl) (by kernel_rfl) (ms0 := []) (A0 := B3) rfl (fun _ h => by cases h) F3 (by rfl) (v := undef) (A1 := B4) (zBQ rfl (fx_ok (by rfl) (by simp only [zAY,zAU,zAT,sp_n,Nat.reduceLT,ne_eq,Nat.reduceEqDiff,zNf,fx,str,zAR,Nat.zero_add,Nat.reduceAdd,tk22,hn,v1]))) ?_
            refine DrL.nil ⟨by rfl,B4,by rfl,?_⟩
            (repeat (first | refine Rn.seq hc ?_ | refine Rn.skip hc ?_ | refine Rn.block hc ?_ | refine Rn.inBlock hc ?_ | refine Rn.scope hc ?_ | refine Rn.inScope hc ?_))
            refine Rn.reg hc rfl ?_
            simp only [zAY,zAS,zAU,zAT,sp_n,zAK,Nat.reduceLT,ne_eq,Nat.reduceEqDiff,zNf,gd,zAX,rops,fx,zAH,Nat.zero_add,zOi,zEl,Nat.reduceAdd,hn,s87,zBZ (show i < 9223372036854775807 by omega)]
            (repeat (first | refine Rn.seq hc ?_ | refine Rn.skip hc ?_ | refine Rn.block hc ?_ | refine Rn.inBlock hc ?_ | refine Rn.scope hc ?_ | refine Rn.inScope hc ?_))
            have l4 : Canon.look B4.objs B.next = some ⟨.cells #[.int .i64 m,.slice xa a a,.slice (some ⟨B2.next,0,none⟩) (i + 1) (i + 1)] 24,false,0⟩ := by
              obtain ⟨c,t,f,g,e,r1,r2,_⟩ := v2.at'
              rw [l3] at r1
              cases r1
              exact r2
            have hn4 := v2.next
            refine ih _ _ _ (by omega) ⟨some ⟨B2.next,0,none⟩,i + 1,by omega,rfl,by omega,(v2.nx w3 (Nat.zero_le _)).wf,fun b hb hne => ?_,(hg3.off v2 (by omega)).mono (by omega),l4,by simp only [sp_n,hn],by simp only [zAT,ne_eq,Nat.reduceEqDiff,zNf,s1],by simp only [zAT,ne_eq,Nat.reduceEqDiff,zNf,s2],by simp only [zAT,ne_eq,Nat.reduceEqDiff,zNf,s6],by simp only [zAT,ne_eq,Nat.reduceEqDiff,zNf,s8],by simp only [zAT,ne_eq,Nat.reduceEqDiff,zNf,s11],by simp only [zAT,ne_eq,Nat.reduceEqDiff,zNf,s12],by simp only [zAT,ne_eq,Nat.reduceEqDiff,zNf,s86],by simp only [zAU,sp_n,Nat.reduceLT,hn]⟩
            rw [v2.off _ hne,L3 _ hb]
            exact hkp b hb hne
          · have hd : decide ((i : Int) < (d : Int)) = false := by simp; omega
            have hid : i = d := by omega
            subst hid
            clear ih
            refine Rn.reg hc rfl ?_
            simp only [zAY,gd,zAX,rops,fx,zAN,zOi,zEl,s86,s87,hd]
            (repeat (first | refine Rn.seq hc ?_ | refine Rn.skip hc ?_ | refine Rn.block hc ?_ | refine Rn.inBlock hc ?_ | refine Rn.scope hc ?_ | refine Rn.inScope hc ?_))
            refine Rn.zAM hc rfl ?_
            simp only [zAY,zAU,Nat.reduceLT,Value.bool.injEq,zEl,hn]
            (repeat (first | refine Rn.seq hc ?_ | refine Rn.skip hc ?_ | refine Rn.block hc ?_ | refine Rn.inBlock hc ?_ | refine Rn.scope hc ?_ | refine Rn.inScope hc ?_))
            refine Rn.exit hc rfl ?_
            (repeat (first | refine Rn.seq hc ?_ | refine Rn.skip hc ?_ | refine Rn.block hc ?_ | refine Rn.inBlock hc ?_ | refine Rn.scope hc ?_ | refine Rn.inScope hc ?_))
            have c0 : cl A' B.next 0 = some (.int .i64 m) := by rw [zCE lA' rfl]; rfl
            have c1 : cl A' B.next 1 = some (.slice xa a a) := by rw [zCE lA' rfl]; rfl
            have c2 : cl A' B.next 2 = some (.slice ya i i) := by rw [zCE lA' rfl]; rfl
            have lR : Canon.look A'.objs A.next = _ := (hkp _ (by omega) (by omega)).trans ((hG0 _ (by omega)).trans l1)
            obtain ⟨A6,c6,q1,q2,q3,q4⟩ := zCV (l := [.int .i64 m,.slice xa a a,.slice ya i i]) (o := 0) lR rfl (by simp) rfl
            have g0 : cl A6 A.next 0 = some (.int .i64 m) := by rw [q2.cl,q4]; rfl
            have g1 : cl A6 A.next 1 = some (.slice xa a a) := by rw [q2.cl,q4]; rfl
            have g2 : cl A6 A.next 2 = some (.slice ya i i) := by rw [q2.cl,q4]; rfl
            have hn6 := q2.next
            refine Rn.reg hc rfl ?_
            simp only [zAY,zAS,zAU,zAT,sp_n,zAK,Nat.reduceLT,ne_eq,Nat.reduceEqDiff,zNf,gd,zAX,rops,fx,ld,str,zAR,cls,Nat.zero_add,zOi,zEl,Nat.reduceAdd,tk24,hn,s6,s11,c0,c1,c2,q1,List.size_toArray,List.length_cons,List.length_nil,Nat.beq_refl]
            (repeat (first | refine Rn.seq hc ?_ | refine Rn.skip hc ?_ | refine Rn.block hc ?_ | refine Rn.inBlock hc ?_ | refine Rn.scope hc ?_ | refine Rn.inScope hc ?_))
            refine Rn.ret (zCT rfl (v := .agg #[.int .i64 m,.slice xa a a,.slice ya i i]) ?_ ⟨a,i,hra,hal,hdl,⟨by omega,(q2.nx hw' (Nat.zero_le _)).wf,fun b hb => by rw [q2.off _ (by omega),hkp _ (by omega) (by omega),hG0 _ (by omega),hx1.keep _ hb]⟩,?_⟩)
            · simp only [zAT,ne_eq,Nat.reduceEqDiff,zNf,ld,zAR,cls,Nat.zero_add,Nat.reduceAdd,tk24,s6,g0,g1,g2]
            · rw [if_neg (by omega)]
              refine ⟨xa,ya,by simp only [zAU,sp_n,Nat.reduceLT,hn],?_,(hgy.off q2 (by omega)).mono (by omega)⟩
              refine (((hgE.off u2 (by omega)).ext (by omega) fun b' hb' => ?_).off q2 (by omega)).mono (by omega)
              by_cases hlt' : b' < G.next
              · exact .inr (hkp b' hlt' (by omega))
              · exact .inl (wG.none (by omega))
      · intro _ _ _ h
        exact h.elim
  · intro _ _ _ h
    exact h.elim
end Go.Proofs.Ytdaljohmfnfgiaa
namespace Go.Proofs.Ytdaljohmfnfgiaa
open Go Go.RowKit Go.Proofs.Ytdaljohmfnfgiaa.Canon
set_option maxRecDepth 20000
theorem least_of {A : AHeap} (hw : WF A) {m : Int} {sa ra : Option Addr} {sc rc : Nat} {st ro : List Int} (hs : Ints A sa 0 A.next st) (hr : Ints A ra 0 A.next ro) (ls : st.length < 4611686018427387904) (lr : ro.length < 4611686018427387904) (hsl : Sl A sa 0) (hsc : st.length ≤ sc) :
    Con Try.prog 18 [.agg #[.int .i64 m,.slice sa st.length sc,.slice ra ro.length rc]] A (fun v A1 => (errL m st ro = 0 → ∃ a p,Red (atL st ro) a p ∧ a ≤ st.length ∧ p ≤ ro.length ∧ LeastQ A m (atL st ro) a p v A1) ∧ (errL m st ro ≠ 0 → v = .tuple #[.agg #[.int .i64 0,.slice none 0 0,.slice none 0 0],.int .i64 (errL m st ro)] ∧ Nx A.next A A1)) := by
  refine zAF hc Try.func18 rfl (Nat.le_of_ble_eq_true rfl) ?_
  obtain ⟨A0,e0,hx0,hn0,b0,b1,b2⟩ := box3 hw (.int .i64 m) (.slice sa st.length sc) (.slice ra ro.length rc) 24
  have hx1 : Nx A0.next A0 (A0.push (.cells #[.int .i64 0,.slice none 0 0,.slice none 0 0] 24)) := (Nx.refl hx0.wf _).push (Nat.le_refl _) _
  have l1 := zAI A0 (.cells #[.int .i64 0,.slice none 0 0,.slice none 0 0] 24)
  have hn1 : (A0.push (.cells #[.int .i64 0,.slice none 0 0,.slice none 0 0] 24)).next = A0.next + 1 := rfl
  generalize e1 : A0.push (.cells #[.int .i64 0,.slice none 0 0,.slice none 0 0] 24) = A1 at hx1 l1 hn1
  obtain ⟨A3,e3,hx3,hn3,c0,c1,c2⟩ := box3 hx1.wf (.int .i64 m) (.slice sa st.length sc) (.slice ra ro.length rc) 24
  have hx01 : Nx A.next A A1 := hx0.trans (hx1.le hx0.next)
  have hx03 : Nx A.next A A3 := hx01.trans (hx3.le hx01.next)
  have hrow : LRow A3 (some ⟨A1.next,0,none⟩) [⟨m,sa,sc,st,ra,rc,ro⟩] := fun i hi => by
    have : i = 0 := by simp at hi; omega
    subst this
    exact ⟨⟨(hs.nx hx03 (Nat.le_refl _)).mono (Nat.le_refl _) hx03.next,(hr.nx hx03 (Nat.le_refl _)).mono (Nat.le_refl _) hx03.next,ls,lr⟩,_,_,rfl,by omega,c0,c1,c2⟩
  have b0' := (hx1.cl (show A.next < A0.next by omega) 0).trans b0
  have b1' := (hx1.cl (show A.next < A0.next by omega) 1).trans b1
  have b2' := (hx1.cl (show A.next < A0.next by omega) 2).trans b2
  rw [s_in1]
  (repeat (first | refine Rn.seq hc ?_ | refine Rn.skip hc ?_ | refine Rn.block hc ?_ | refine Rn.inBlock hc ?_ | refine Rn.scope hc ?_ | refine Rn.inScope hc ?_))
  refine Rn.reg hc rfl ?_
  simp only [zAY,zAS,zAU,Nat.reduceLT,ne_eq,gd,zAX,rops,fx,zOi,zEl,Value.cells,show Try.f18.ntmps = 21 from rfl,e0,ze24,e1]
  (repeat (first | refine Rn.seq hc ?_ | refine Rn.skip hc ?_ | refine Rn.block hc ?_ | refine Rn.inBlock hc ?_ | refine Rn.scope hc ?_ | refine Rn.inScope hc ?_))
  refine Rn.region hc fun K hK => ?_
  refine Wo.run hc 2 rfl rfl rfl ?_
  simp (maxSteps := 2000000) only [List.drop_zero,List.take_succ_cons,List.take_zero,zAY,zAU,zAT,sp_n,Nat.reduceLT,ne_eq,Nat.reduceEqDiff,not_false_eq_true,gd,zAX,rops,fx,ld,zAR,cls,Nat.zero_add,Option.some.injEq,exists_eq_left',Value.cells,Nat.reduceAdd,tk24,b0',b1',b2',bs46_1,List.size_toArray,List.length_cons,List.length_nil,e3]
  refine Wo.call hc (by rfl) (by rfl) ⟨by rfl,by rfl⟩ (xs := [.slice (some ⟨A1.next,0,none⟩) 1 1]) (by rfl) (by rfl) (by rfl) (Con.mono (check_all hx3.wf (l := [⟨m,sa,sc,st,ra,rc,ro⟩]) hrow (by simp)) ?_)
  rintro w A4 ⟨rfl,hx4⟩
  rw [errs_one,show (⟨m,sa,sc,st,ra,rc,ro⟩ : Las).err = errL m st ro from rfl]
  refine Wo.run hc 1 rfl rfl rfl ?_
  simp (maxSteps := 2000000) only [List.drop_zero,List.drop_succ_cons,List.take_succ_cons,List.take_zero,zAY,zAU,sp_n,Nat.reduceLT,gd,zAX,rops,fx,Option.some.injEq,exists_eq_left',Nat.reduceAdd]
  refine Wo.done hc rfl (hK _ _ ?_)
  clear hK
  (repeat (first | refine Rn.seq hc ?_ | refine Rn.skip hc ?_ | refine Rn.block hc ?_ | refine Rn.inBlock hc ?_ | refine Rn.scope hc ?_ | refine Rn.inScope hc ?_))
  have hx34 : Nx A1.next A1 A4 := hx3.trans (hx4.le hx3.next)
  have hx04 : Nx A.next A A4 := hx01.trans (hx34.le hx01.next)
  have n4 : A0.next < A4.next := by have := hx4.next; omega
  have l4 : Canon.look A4.objs A0.next = _ := (hx34.keep _ (by omega)).trans l1
  have hst : ∀ {D : AHeap} {v0 v1 v2 : Value},Nx A4.next A4 D → [v0,v1,v2].all zBY = true → ∃ D',sts D A0.next 0 [v0,v1,v2] = some D' ∧ D'.next = D.next ∧ WF D' ∧ Upd D A0.next (⟨[v0,v1,v2]⟩ : Array Value) D' ∧ cl D' A0.next 0 = some v0 ∧ cl D' A0.next 1 = some v1 ∧ cl D' A0.next 2 = some v2 := fun {D v0 v1 v2} hD hv => by
    have hl := (hD.keep A0.next n4).trans l4
    obtain ⟨D',c',q1,q2,q3,q4⟩ := zCV (l := [v0,v1,v2]) (o := 0) hl rfl (by simp) hv
    have hc : c' = #[v0,v1,v2] := by
      refine Array.ext_getElem? fun i => ?_
      rw [q4 i]
      by_cases hi : i < 3
      · rw [if_pos ⟨Nat.zero_le _,by simpa using hi⟩]
        simp
      · rw [if_neg (by simp; omega)]
        rw [Array.getElem?_eq_none (by simp; omega),Array.getElem?_eq_none (by simp; omega)]
    subst hc
    exact ⟨D',q1,q2.next,(q2.nx hD.wf (Nat.zero_le _)).wf,q2,by rw [q2.cl]; rfl,by rw [q2.cl]; rfl,by rw [q2.cl]; rfl⟩
  by_cases he : errL m st ro = 0
  · have hd : (!decide (errL m st ro = 0)) = false := by rw [decide_eq_true he]; rfl
    refine Rn.reg hc rfl ?_
    simp only [zAY,zAS,zAU,sp_n,Nat.reduceLT,gd,zAX,rops,fx,zBX,zOi,zEl,hd]
    (repeat (first | refine Rn.seq hc ?_ | refine Rn.skip hc ?_ | refine Rn.block hc ?_ | refine Rn.inBlock hc ?_ | refine Rn.scope hc ?_ | refine Rn.inScope hc ?_))
    refine Rn.zAM hc rfl ?_
    simp only [zAY,zAU,sp_n,Nat.reduceLT,Value.bool.injEq,zEl]
    (repeat (first | refine Rn.seq hc ?_ | refine Rn.skip hc ?_ | refine Rn.block hc ?_ | refine Rn.inBlock hc ?_ | refine Rn.scope hc ?_ | refine Rn.inScope hc ?_))
    obtain ⟨l60,l120⟩ := errL_len he
    have hp := errL_pos he
    have b0'' := (hx34.cl (show A.next < A1.next by omega) 0).trans b0'
    have b1'' := (hx34.cl (show A.next < A1.next by omega) 1).trans b1'
    have b2'' := (hx34.cl (show A.next < A1.next by omega) 2).trans b2'
    refine Rn.region hc fun K hK => ?_
    refine Wo.run hc 6 rfl rfl rfl ?_
    simp (maxSteps := 2000000) only [List.drop_zero,List.take_succ_cons,List.take_zero,zAY,zAU,zAT,sp_n,Nat.reduceLT,ne_eq,Nat.reduceEqDiff,not_false_eq_true,gd,zAX,rops,fx,ld,fad,zAR,Nat.zero_add,Nat.add_zero,Option.some.injEq,exists_eq_left',tk3,tk22,zBJ,zBO,zBG,b0'',b1'',b2'']
    refine Wo.call hc (by rfl) (by rfl) ⟨by rfl,by rfl⟩ (xs := [.int .i64 m,.slice sa st.length sc,.slice ra ro.length rc]) (by rfl) (by rfl) (by rfl) (Con.mono (least_run hx4.wf ((hs.nx hx04 (Nat.le_refl _)).mono (Nat.le_refl _) hx04.next) ((hr.nx hx04 (Nat.le_refl _)).mono (Nat.le_refl _) hx04.next) (by omega) (by omega) hp (hsl.nx hw hx04) hsc) ?_)
    rintro w A5 ⟨a,p,hred,ha,hpl,hx5,hq⟩
    have hx05 : Nx A.next A A5 := hx04.trans (hx5.le hx04.next)
    by_cases hlong : 120 < p ∨ 60 < a
    · rw [if_pos hlong] at hq
      subst hq
      obtain ⟨D,q1,q2,q3,q4,g0,g1,g2⟩ := hst (v0 := .int .i64 0) (v1 := .slice none 0 0) (v2 := .slice none 0 0) hx5 rfl
      refine Wo.run hc 4 rfl rfl rfl ?_
      simp (maxSteps := 2000000) only [List.drop_zero,List.drop_succ_cons,List.take_succ_cons,List.take_zero,zAY,zAU,zAT,sp_n,zAK,Nat.reduceLT,ne_eq,Nat.reduceEqDiff,not_false_eq_true,gd,zAX,rops,fx,str,ext,zAR,List.getElem?_toArray,List.getElem?_cons_zero,List.getElem?_cons_succ,Nat.zero_add,Option.some.injEq,exists_eq_left',Nat.reduceAdd,tk24,ext,q1,List.size_toArray,List.length_cons,List.length_nil,Nat.beq_refl]
      refine Wo.done hc rfl (hK _ _ ?_)
      clear hK
      (repeat (first | refine Rn.seq hc ?_ | refine Rn.skip hc ?_ | refine Rn.block hc ?_ | refine Rn.inBlock hc ?_ | refine Rn.scope hc ?_ | refine Rn.inScope hc ?_))
      refine Rn.ret (zCT rfl (v := .agg #[.int .i64 0,.slice none 0 0,.slice none 0 0]) ?_ ⟨fun _ => ⟨a,p,hred,ha,hpl,⟨by have := hx05.next; omega,q3,fun b hb => by rw [q4.off _ (by omega),hx05.keep _ hb]⟩,?_⟩,fun h => absurd he h⟩)
      · simp only [zAU,zAT,sp_n,Nat.reduceLT,ne_eq,Nat.reduceEqDiff,zNf,ld,zAR,cls,Nat.zero_add,Nat.reduceAdd,tk24,g0,g1,g2]
      · rw [if_pos hlong]
        simp only [zAU,sp_n,Nat.reduceLT]
    · rw [if_neg hlong] at hq
      obtain ⟨xa,ya,rfl,hg1,hg2⟩ := hq
      obtain ⟨D,q1,q2,q3,q4,g0,g1,g2⟩ := hst (v0 := .int .i64 m) (v1 := .slice xa a a) (v2 := .slice ya p p) hx5 rfl
      refine Wo.run hc 4 rfl rfl rfl ?_
      simp (maxSteps := 2000000) only [List.drop_zero,List.drop_succ_cons,List.take_succ_cons,List.take_zero,zAY,zAU,zAT,sp_n,zAK,Nat.reduceLT,ne_eq,Nat.reduceEqDiff,not_false_eq_true,gd,zAX,rops,fx,str,ext,zAR,List.getElem?_toArray,List.getElem?_cons_zero,List.getElem?_cons_succ,Nat.zero_add,Option.some.injEq,exists_eq_left',Nat.reduceAdd,tk24,ext,q1,List.size_toArray,List.length_cons,List.length_nil,Nat.beq_refl]
      refine Wo.done hc rfl (hK _ _ ?_)
      clear hK
      (repeat (first | refine Rn.seq hc ?_ | refine Rn.skip hc ?_ | refine Rn.block hc ?_ | refine Rn.inBlock hc ?_ | refine Rn.scope hc ?_ | refine Rn.inScope hc ?_))
      refine Rn.ret (zCT rfl (v := .agg #[.int .i64 m,.slice xa a a,.slice ya p p]) ?_ ⟨fun _ => ⟨a,p,hred,ha,hpl,⟨by have := hx05.next; omega,q3,fun b hb => by rw [q4.off _ (by omega),hx05.keep _ hb]⟩,?_⟩,fun h => absurd he h⟩)
      · simp only [zAU,zAT,sp_n,Nat.reduceLT,ne_eq,Nat.reduceEqDiff,zNf,ld,zAR,cls,Nat.zero_add,Nat.reduceAdd,tk24,g0,g1,g2]
      · rw [if_neg hlong]
        exact ⟨xa,ya,by simp only [zAU,sp_n,Nat.reduceLT],(hg1.off q4 (by omega)).mono (by omega),(hg2.off q4 (by omega)).mono (by omega)⟩
  · have hd : (!decide (errL m st ro = 0)) = true := by rw [decide_eq_false he]; rfl
    obtain ⟨D,q1,q2,q3,q4,g0,g1,g2⟩ := hst (v0 := .int .i64 0) (v1 := .slice none 0 0) (v2 := .slice none 0 0) (Nx.refl hx4.wf _) rfl
    refine Rn.reg hc rfl ?_
    simp only [zAY,zAS,zAU,sp_n,Nat.reduceLT,gd,zAX,rops,fx,zBX,zOi,zEl,hd]
    (repeat (first | refine Rn.seq hc ?_ | refine Rn.skip hc ?_ | refine Rn.block hc ?_ | refine Rn.inBlock hc ?_ | refine Rn.scope hc ?_ | refine Rn.inScope hc ?_))
    refine Rn.zAM hc rfl ?_
    simp only [zAY,zAU,sp_n,Nat.reduceLT,Value.bool.injEq,zEl]
    (repeat (first | refine Rn.seq hc ?_ | refine Rn.skip hc ?_ | refine Rn.block hc ?_ | refine Rn.inBlock hc ?_ | refine Rn.scope hc ?_ | refine Rn.inScope hc ?_))
    refine Rn.reg hc rfl ?_
    simp only [zAY,zAU,zAT,sp_n,zAK,Nat.reduceLT,ne_eq,Nat.reduceEqDiff,zNf,gd,zAX,rops,fx,str,zAR,Nat.zero_add,zOi,zEl,Nat.reduceAdd,tk24,bd24_z,q1,List.size_toArray,List.length_cons,List.length_nil,Nat.beq_refl]
    (repeat (first | refine Rn.seq hc ?_ | refine Rn.skip hc ?_ | refine Rn.block hc ?_ | refine Rn.inBlock hc ?_ | refine Rn.scope hc ?_ | refine Rn.inScope hc ?_))
    refine Rn.ret (zCT rfl (v := .agg #[.int .i64 0,.slice none 0 0,.slice none 0 0]) ?_ ⟨fun h => absurd h he,fun _ => ⟨by simp only [zAU,sp_n,Nat.reduceLT],⟨by have := hx04.next; omega,q3,fun b hb => by rw [q4.off _ (by omega),hx04.keep _ hb]⟩⟩⟩)
    simp only [zAU,zAT,sp_n,Nat.reduceLT,ne_eq,Nat.reduceEqDiff,zNf,ld,zAR,cls,Nat.zero_add,Nat.reduceAdd,tk24,g0,g1,g2]
end Go.Proofs.Ytdaljohmfnfgiaa
namespace Go.Proofs.Ytdaljohmfnfgiaa
open Go Go.RowKit Go.Proofs.Ytdaljohmfnfgiaa.Canon
set_option maxRecDepth 20000
section
variable {ρ : Operand → Value} {d : Option Tmp} {ty : TypeId} {pos : String} {af : Array Edge} {gu : Option (Nat × Bool)} {A : AHeap}
theorem so46_2 : sof Try.prog 46 2 = .mk (fun k => some (k * 3,3)) 6 [.int .i64 0,.slice none 0 0,.slice none 0 0,.int .i64 0,.slice none 0 0,.slice none 0 0] := by kernel_rfl
theorem bs46_2 {x y : Tmp} (hx : (ρ (.tmp x)).cells.size = 3) (hy : (ρ (.tmp y)).cells.size = 3) : zAE Try.prog ρ ⟨d,.buildSlice 46 2 #[(0,.tmp x),(1,.tmp y)],ty,pos,af,gu⟩ A = some (.slice (some ⟨A.next,0,none⟩) 2 2,A.push (.cells ⟨(ρ (.tmp x)).cells.toList ++ (ρ (.tmp y)).cells.toList⟩ 24)) := by
  refine zDS (r := (ρ (.tmp x)).cells.toList ++ (ρ (.tmp y)).cells.toList) (by rfl) so46_2 et46 rfl ?_
  simp [fbld,hx,hy]
end
end Go.Proofs.Ytdaljohmfnfgiaa
namespace Go.Proofs.Ytdaljohmfnfgiaa
open Go Go.RowKit Go.Proofs.Ytdaljohmfnfgiaa.Canon
set_option maxRecDepth 20000
theorem row_two {A : AHeap} {x y : Las} (hx : x.ok A) (hy : y.ok A) {b : Nat} (hb : b < A.next) (hl : Canon.look A.objs b = some ⟨.cells #[.int .i64 x.m,.slice x.sa x.st.length x.sc,.slice x.ra x.ro.length x.rc,.int .i64 y.m,.slice y.sa y.st.length y.sc,.slice y.ra y.ro.length y.rc] 24,false,0⟩) : LRow A (some ⟨b,0,none⟩) [x,y] := fun i hi => by
  have hi2 : i < 2 := by simpa using hi
  match i,hi2 with
  | 0,_ => exact ⟨hx,_,_,rfl,hb,by rw [zCE hl rfl]; rfl,by rw [zCE hl rfl]; rfl,by rw [zCE hl rfl]; rfl⟩
  | 1,_ => exact ⟨hy,_,_,rfl,hb,by rw [zCE hl rfl]; rfl,by rw [zCE hl rfl]; rfl,by rw [zCE hl rfl]; rfl⟩
theorem errs_two (x y : Las) : errs [x,y] [x,y] = if x.err ≠ 0 then x.err else if y.err ≠ 0 then y.err else if x.m = y.m then 0 else 7 := by
  unfold errs
  by_cases h1 : x.err = 0
  · rw [if_pos h1,if_neg (by simp [h1])]
    unfold errs
    by_cases h2 : y.err = 0
    · rw [if_pos h2,if_neg (by simp [h2])]
      simp only [errs,clash]
      by_cases h3 : x.m = y.m
      · simp [h3]
      · have h3' : ¬ y.m = x.m := fun e => h3 e.symm
        simp [h3,h3']
    · rw [if_neg h2,if_pos h2]
  · rw [if_neg h1,if_pos h1]
def Las.s (x : Las) : Nat → Int := atL x.st x.ro
def Las.v (x : Las) : Value := .agg #[.int .i64 x.m,.slice x.sa x.st.length x.sc,.slice x.ra x.ro.length x.rc]
theorem vq_lasf (g : FuncId) (m : Int) (a b : Option Addr) (n c n' c' : Nat) : VQ (.func (.func g) #[.agg #[.int .i64 m,.slice a n c,.slice b n' c']] #[]) := by
  refine VQ.func (fun v hv => ?_) (by simp)
  have hv : v = .agg #[.int .i64 m,.slice a n c,.slice b n' c'] := by simpa using hv
  subst hv
  show veqs (veq 3) [_,_,_] [_,_,_] = true
  simp [veqs,zAW,zAZ]
end Go.Proofs.Ytdaljohmfnfgiaa
namespace Go.Proofs.Ytdaljohmfnfgiaa
open Go Go.RowKit Go.Proofs.Ytdaljohmfnfgiaa.Canon
set_option maxRecDepth 20000
theorem turns_ref {A : AHeap} (hw : WF A) {a : Option Addr} {c : Nat} {ro : List Int} (hr : Ints A a 0 A.next ro) (lr : ro.length ≤ 4000000) {d : Nat} (hd0 : 0 < d) (hd2 : d ≤ 4000000) :
    Con Try.prog 109 [.slice a ro.length c,.int .i64 (d : Int)] A (fun v A1 => v = .bool (perOK ro d) ∧ Nx A.next A A1) := by
  refine zAF hc Try.func109 rfl (Nat.le_of_ble_eq_true rfl) ?_
  rw [s_in2]
  have hrem : ∀ M,bin Try.prog .rem 3 (.int .i64 (ro.length : Int)) (.int .i64 (d : Int)) M = some (.int .i64 ((ro.length % d : Nat) : Int),M) := fun M => by
    rw [zCS _ _ _ _ (by omega),IntWalk.rem_in _ _ (by omega)]
    rfl
  (repeat (first | refine Rn.seq hc ?_ | refine Rn.skip hc ?_ | refine Rn.block hc ?_ | refine Rn.inBlock hc ?_ | refine Rn.scope hc ?_ | refine Rn.inScope hc ?_))
  refine Rn.reg hc rfl ?_
  simp only [zAS,gd,zAX,rops,fx,zOi,zEl,show Try.f109.ntmps = 29 from rfl]
  (repeat (first | refine Rn.seq hc ?_ | refine Rn.skip hc ?_ | refine Rn.block hc ?_ | refine Rn.inBlock hc ?_ | refine Rn.scope hc ?_ | refine Rn.inScope hc ?_))
  by_cases hdiv : ro.length % d = 0
  · have hd3 : (!decide (((ro.length % d : Nat) : Int) = 0)) = false := by rw [hdiv]; rfl
    refine Rn.reg hc rfl ?_
    simp only [zAY,zAS,zAU,zAT,sp_n,Nat.reduceLT,ne_eq,Nat.reduceEqDiff,zNf,gd,zAX,rops,fx,lng,zBX,zOi,zEl,un22,hrem,hd3]
    (repeat (first | refine Rn.seq hc ?_ | refine Rn.skip hc ?_ | refine Rn.block hc ?_ | refine Rn.inBlock hc ?_ | refine Rn.scope hc ?_ | refine Rn.inScope hc ?_))
    refine Rn.zAM hc rfl ?_
    simp only [zAY,zAU,sp_n,Nat.reduceLT,Value.bool.injEq,zEl]
    (repeat (first | refine Rn.seq hc ?_ | refine Rn.skip hc ?_ | refine Rn.block hc ?_ | refine Rn.inBlock hc ?_ | refine Rn.scope hc ?_ | refine Rn.inScope hc ?_))
    refine Rn.reg hc rfl ?_
    simp only [zAY,zAU,zAT,sp_n,Nat.reduceLT,ne_eq,Nat.reduceEqDiff,zNf,gd,zAX,rops,fx,zOi,zEl]
    (repeat (first | refine Rn.seq hc ?_ | refine Rn.skip hc ?_ | refine Rn.block hc ?_ | refine Rn.inBlock hc ?_ | refine Rn.scope hc ?_ | refine Rn.inScope hc ?_))
    refine Rn.zDY hc (I := fun k s A' => ∃ i : Nat,d ≤ i ∧ (i ≤ ro.length ∨ i = d) ∧ k = ro.length - i ∧ Nx A.next A A' ∧ (∀ j,d ≤ j → j < i → ro.getD j 0 = ro.getD (j - d) 0) ∧ s.n = 29 ∧ sget s 0 = .slice a ro.length c ∧ sget s 1 = .int .i64 (d : Int) ∧ sget s 5 = .int .i64 (i : Int))
      (n := ro.length - d) ⟨d,Nat.le_refl _,.inr rfl,rfl,Nx.refl hw _,fun j h1 h2 => by omega,by simp only [sp_n],by simp only [zAU,zAT,Nat.reduceLT,ne_eq,Nat.reduceEqDiff,zNf],by simp only [zAU,zAT,sp_n,Nat.reduceLT,ne_eq,Nat.reduceEqDiff,zNf],by simp only [zAU,sp_n,Nat.reduceLT]⟩ ?_
    rintro k s A' ⟨i,hi1,hi2,rfl,hA,hper,hn,s0,s1,s5⟩ ih
    (repeat (first | refine Rn.seq hc ?_ | refine Rn.skip hc ?_ | refine Rn.block hc ?_ | refine Rn.inBlock hc ?_ | refine Rn.scope hc ?_ | refine Rn.inScope hc ?_))
    by_cases hlti : i < ro.length
    · have hd : decide ((i : Int) < (ro.length : Int)) = true := decide_eq_true (by omega)
      obtain ⟨bb,o,rfl,_,hb1,hcl⟩ := hr i hlti
      obtain ⟨bb',o',e',_,_,hcl'⟩ := hr (i - d) (by omega)
      cases e'
      have hcl : cl A' bb (o + i) = _ := (hA.cl hb1 _).trans hcl
      have hcl' : cl A' bb (o + (i - d)) = _ := (hA.cl hb1 _).trans hcl'
      have hsub : IntKind.i64.wrap ((i : Int) - (d : Int)) = ((i - d : Nat) : Int) := by rw [IntWalk.i64_in _ (by omega)]; omega
      have hidl : i - d < ro.length := by omega
      refine Rn.reg hc rfl ?_
      simp only [zAY,zAU,zAT,sp_n,Nat.reduceLT,ne_eq,Nat.reduceEqDiff,zNf,gd,zAX,rops,fx,lng,zAN,zOi,zEl,un22,hn,s0,s5,hd]
      (repeat (first | refine Rn.seq hc ?_ | refine Rn.skip hc ?_ | refine Rn.block hc ?_ | refine Rn.inBlock hc ?_ | refine Rn.scope hc ?_ | refine Rn.inScope hc ?_))
      refine Rn.zAM hc rfl ?_
      simp only [zAY,zAU,sp_n,Nat.reduceLT,Value.bool.injEq,zEl,hn]
      (repeat (first | refine Rn.seq hc ?_ | refine Rn.skip hc ?_ | refine Rn.block hc ?_ | refine Rn.inBlock hc ?_ | refine Rn.scope hc ?_ | refine Rn.inScope hc ?_))
      by_cases heq : ro.getD i 0 = ro.getD (i - d) 0
      · have hne : (!decide (ro.getD i 0 = ro.getD (i - d) 0)) = false := by rw [decide_eq_true heq]; rfl
        refine Rn.zDV hc hx (by kernel_rfl) (by rfl) (by kernel_rfl) ?_ ?_
        · simp only [rdV,VQ.int,VQ.bool,VQ.ptr,VQ.slice,zBT,zAY,zAU,zAT,sp_n,Nat.reduceLT,ne_eq,Nat.reduceEqDiff,zNf,gd,zAX,fx,ld,idx,zBX,zBR,zAR,Nat.zero_add,Nat.reduceAdd,Nat.mul_one,and_self,tk3,eo22,hn,s0,s1,s5,zAQ hlti,zAQ hidl,hsub,hcl,hcl',hne,List.length_cons,List.length_nil]
        simp only [zBT,zAY,zAU,zAT,sp_n,Nat.reduceLT,ne_eq,Nat.reduceEqDiff,zNf,gd,zAX,rops,fx,ld,idx,zBX,zBR,zAR,Nat.zero_add,zOi,zEl,Nat.reduceAdd,Nat.mul_one,tk3,eo22,hn,s0,s1,s5,zAQ hlti,zAQ hidl,hsub,hcl,hcl',hne,List.length_cons,List.length_nil]
        (repeat (first | refine Rn.seq hc ?_ | refine Rn.skip hc ?_ | refine Rn.block hc ?_ | refine Rn.inBlock hc ?_ | refine Rn.scope hc ?_ | refine Rn.inScope hc ?_))
        refine Rn.zAM hc rfl ?_
        simp only [zAY,zAU,sp_n,Nat.reduceLT,Value.bool.injEq,zEl,hn]
        (repeat (first | refine Rn.seq hc ?_ | refine Rn.skip hc ?_ | refine Rn.block hc ?_ | refine Rn.inBlock hc ?_ | refine Rn.scope hc ?_ | refine Rn.inScope hc ?_))
        refine Rn.reg hc rfl ?_
        simp only [zAY,zAS,zAU,zAT,sp_n,Nat.reduceLT,ne_eq,Nat.reduceEqDiff,zNf,gd,zAX,rops,fx,zAH,zOi,zEl,hn,s5,zBZ (show i < 9223372036854775807 by omega)]
        (repeat (first | refine Rn.seq hc ?_ | refine Rn.skip hc ?_ | refine Rn.block hc ?_ | refine Rn.inBlock hc ?_ | refine Rn.scope hc ?_ | refine Rn.inScope hc ?_))
        refine ih _ _ _ (by omega) ⟨i + 1,by omega,.inl (by omega),rfl,Nx.bump hA _,fun j h1 h2 => ?_,by simp only [sp_n,hn],by simp only [zAT,ne_eq,Nat.reduceEqDiff,zNf,s0],by simp only [zAT,ne_eq,Nat.reduceEqDiff,zNf,s1],by simp only [zAU,sp_n,Nat.reduceLT,hn]⟩
        by_cases hji : j = i
        · subst hji; exact heq
        · exact hper j h1 (by omega)
      · have hne : (!decide (ro.getD i 0 = ro.getD (i - d) 0)) = true := by rw [decide_eq_false heq]; rfl
        have hfalse : perOK ro d = false := by
          cases hp : perOK ro d with
          | false => rfl
          | true => exact absurd ((zCL.1 hp).2 i hi1 hlti) heq
        clear ih
        refine Rn.zDV hc hx (by kernel_rfl) (by rfl) (by kernel_rfl) ?_ ?_
        · simp only [rdV,VQ.int,VQ.bool,VQ.ptr,VQ.slice,zBT,zAY,zAU,zAT,sp_n,Nat.reduceLT,ne_eq,Nat.reduceEqDiff,zNf,gd,zAX,fx,ld,idx,zBX,zBR,zAR,Nat.zero_add,Nat.reduceAdd,Nat.mul_one,and_self,tk3,eo22,hn,s0,s1,s5,zAQ hlti,zAQ hidl,hsub,hcl,hcl',hne,List.length_cons,List.length_nil]
        simp only [zBT,zAY,zAU,zAT,sp_n,Nat.reduceLT,ne_eq,Nat.reduceEqDiff,zNf,gd,zAX,rops,fx,ld,idx,zBX,zBR,zAR,Nat.zero_add,zOi,zEl,Nat.reduceAdd,Nat.mul_one,tk3,eo22,hn,s0,s1,s5,zAQ hlti,zAQ hidl,hsub,hcl,hcl',hne,List.length_cons,List.length_nil]
        (repeat (first | refine Rn.seq hc ?_ | refine Rn.skip hc ?_ | refine Rn.block hc ?_ | refine Rn.inBlock hc ?_ | refine Rn.scope hc ?_ | refine Rn.inScope hc ?_))
        refine Rn.zAM hc rfl ?_
        simp only [zAY,zAU,sp_n,Nat.reduceLT,Value.bool.injEq,zEl,hn]
        (repeat (first | refine Rn.seq hc ?_ | refine Rn.skip hc ?_ | refine Rn.block hc ?_ | refine Rn.inBlock hc ?_ | refine Rn.scope hc ?_ | refine Rn.inScope hc ?_))
        refine Rn.reg hc rfl ?_
        simp only [zAS,gd,zAX,rops,fx,zOi,zEl]
        (repeat (first | refine Rn.seq hc ?_ | refine Rn.skip hc ?_ | refine Rn.block hc ?_ | refine Rn.inBlock hc ?_ | refine Rn.scope hc ?_ | refine Rn.inScope hc ?_))
        refine Rn.ret (zAO rfl ⟨?_,Nx.bump hA _⟩)
        simp only [zAU,sp_n,Nat.reduceLT,hn,hfalse]
    · have hd : decide ((i : Int) < (ro.length : Int)) = false := decide_eq_false (by omega)
      have htrue : perOK ro d = true := zCL.2 ⟨hdiv,fun j h1 h2 => hper j h1 (by omega)⟩
      clear ih
      refine Rn.reg hc rfl ?_
      simp only [zAY,zAU,zAT,sp_n,Nat.reduceLT,ne_eq,Nat.reduceEqDiff,zNf,gd,zAX,rops,fx,lng,zAN,zOi,zEl,un22,hn,s0,s5,hd]
      (repeat (first | refine Rn.seq hc ?_ | refine Rn.skip hc ?_ | refine Rn.block hc ?_ | refine Rn.inBlock hc ?_ | refine Rn.scope hc ?_ | refine Rn.inScope hc ?_))
      refine Rn.zAM hc rfl ?_
      simp only [zAY,zAU,sp_n,Nat.reduceLT,Value.bool.injEq,zEl,hn]
      (repeat (first | refine Rn.seq hc ?_ | refine Rn.skip hc ?_ | refine Rn.block hc ?_ | refine Rn.inBlock hc ?_ | refine Rn.scope hc ?_ | refine Rn.inScope hc ?_))
      refine Rn.exit hc rfl ?_
      (repeat (first | refine Rn.seq hc ?_ | refine Rn.skip hc ?_ | refine Rn.block hc ?_ | refine Rn.inBlock hc ?_ | refine Rn.scope hc ?_ | refine Rn.inScope hc ?_))
      refine Rn.reg hc rfl ?_
      simp only [zAS,gd,zAX,rops,fx,zOi,zEl]
      (repeat (first | refine Rn.seq hc ?_ | refine Rn.skip hc ?_ | refine Rn.block hc ?_ | refine Rn.inBlock hc ?_ | refine Rn.scope hc ?_ | refine Rn.inScope hc ?_))
      refine Rn.ret (zAO rfl ⟨?_,hA⟩)
      simp only [zAU,sp_n,Nat.reduceLT,hn,htrue]
  · have hd3 : (!decide (((ro.length % d : Nat) : Int) = 0)) = true := by rw [decide_eq_false (by omega)]; rfl
    have hfalse : perOK ro d = false := by
      cases hp : perOK ro d with
      | false => rfl
      | true => exact absurd (zCL.1 hp).1 hdiv
    refine Rn.reg hc rfl ?_
    simp only [zAY,zAS,zAU,zAT,sp_n,Nat.reduceLT,ne_eq,Nat.reduceEqDiff,zNf,gd,zAX,rops,fx,lng,zBX,zOi,zEl,un22,hrem,hd3]
    (repeat (first | refine Rn.seq hc ?_ | refine Rn.skip hc ?_ | refine Rn.block hc ?_ | refine Rn.inBlock hc ?_ | refine Rn.scope hc ?_ | refine Rn.inScope hc ?_))
    refine Rn.zAM hc rfl ?_
    simp only [zAY,zAU,sp_n,Nat.reduceLT,Value.bool.injEq,zEl]
    (repeat (first | refine Rn.seq hc ?_ | refine Rn.skip hc ?_ | refine Rn.block hc ?_ | refine Rn.inBlock hc ?_ | refine Rn.scope hc ?_ | refine Rn.inScope hc ?_))
    refine Rn.reg hc rfl ?_
    simp only [zAS,gd,zAX,rops,fx,zOi,zEl]
    (repeat (first | refine Rn.seq hc ?_ | refine Rn.skip hc ?_ | refine Rn.block hc ?_ | refine Rn.inBlock hc ?_ | refine Rn.scope hc ?_ | refine Rn.inScope hc ?_))
    refine Rn.ret (zAO rfl ⟨?_,Nx.refl hw _⟩)
    simp only [zAU,sp_n,Nat.reduceLT,hfalse]
end Go.Proofs.Ytdaljohmfnfgiaa
namespace Go.Proofs.Ytdaljohmfnfgiaa
open Go Go.RowKit Go.Proofs.Ytdaljohmfnfgiaa.Canon
set_option maxRecDepth 20000
theorem asl_pos {A : AHeap} {a : Option Addr} {c lo hi : Nat} {l : List Int} (h : Ints A a lo hi l) (hs : Sl A a lo) (hc' : l.length ≤ c) (hpos : 0 < l.length) {n : Nat} (hn : n ≤ l.length) :
    asl Try.prog 22 (.slice a l.length c) none (some (.int .i64 (n : Int))) none A = some (.slice a n c,A) := by
  obtain ⟨_,i,z,hinf,_,_,_,hsz,_⟩ := elB_eq el22
  have hb1 : zBN (some (.int .i64 (n : Int))) l.length = some n := by simp [zBN]
  have hb0 : ∀ d,zBN none d = some d := fun _ => rfl
  have t1 : Nat.ble 0 n = true := Nat.ble_eq_true_of_le (Nat.zero_le _)
  have t2 : Nat.ble n c = true := Nat.ble_eq_true_of_le (by omega)
  have t3 : Nat.ble c c = true := Nat.ble_eq_true_of_le (Nat.le_refl _)
  have hc0 : c ≠ 0 := by omega
  obtain ⟨b,o,rfl,_,_,_⟩ := h 0 hpos
  obtain ⟨_,_,y,hy,hg⟩ := hs _ rfl
  obtain ⟨ob,g,zz⟩ := y
  have hadd : (⟨b,o,none⟩ : Addr).add (0 * i.size) = ⟨b,o,none⟩ := by
    rw [Nat.zero_mul,addr_add]; rfl
  rcases hg with hg | ⟨hg,_,hz⟩
  · simp only at hg
    subst hg
    simp only [asl,un22,hinf,hb0,hb1,t2,Option.isSome_none,Bool.not_false,Bool.true_or,Nat.sub_zero,hy]
    rw [t1,t3]
    simp only [hc0,if_false,hadd]
  · simp only at hg hz
    subst hg hz
    have hzi : Nat.beq 1 i.size = true := by rw [hsz]; rfl
    have hcb : Nat.beq c 0 = false := by
      cases hb : Nat.beq c 0 with
      | false => rfl
      | true => exact absurd (Nat.eq_of_beq_eq_true hb) hc0
    simp only [asl,un22,hinf,hb0,hb1,t2,Option.isSome_none,Bool.not_false,Bool.true_or,Nat.sub_zero,hy,hzi,hcb,hadd]
    rw [t1,t3]
theorem Ints.take {A : AHeap} {a : Option Addr} {lo hi n : Nat} {l : List Int} (h : Ints A a lo hi l) : Ints A a lo hi (l.take n) := fun i hi' => by
  have hl : i < l.length := by simp at hi'; omega
  have hn : i < n := by simp at hi'; omega
  obtain ⟨b,o,q1,q2,q3,q4⟩ := h i hl
  refine ⟨b,o,q1,q2,q3,?_⟩
  rw [q4]
  simp only [List.getD_eq_getElem?_getD,List.getElem?_take]
  rw [if_pos hn]
theorem app_at {A : AHeap} (hw : WF A) {b n : Nat} (hb : ∃ y,Canon.look A.objs b = .some y ∧ y.grown = false ∧ y.esz = 0) (hn : n ≤ A.next) (hnb : n ≤ b) (hbn : b < A.next) {a2 : Option Addr} {c2 : Nat} {l : List Int} (h : Ints A a2 0 A.next l) (hlen : l.length ≤ 4000000) :
    ∃ a' A1,aapp Try.prog #[22,22] #[.slice (some ⟨b,0,none⟩) 0 0,.slice a2 l.length c2] A = .some (.slice a' l.length l.length,A1) ∧ Nx A.next A A1 ∧ Gr A1 a' n l := by
  by_cases h0 : l.length = 0
  · have hl : l = [] := List.length_eq_zero_iff.1 h0
    subst hl
    exact ⟨some ⟨b,0,none⟩,A,aapp_nil el22 un22 (Nat.le_refl _),Nx.refl hw _,fun i hi => by simp at hi,fun x hx => by cases hx; obtain ⟨y,h1,h2,_⟩ := hb; exact ⟨rfl,hnb,y,h1,.inl h2⟩,fun x hx => by cases hx; obtain ⟨y,h1,h2,h3⟩ := hb; exact ⟨y,h1,by rw [h2,h3]; rfl⟩⟩
  · obtain ⟨A1,h1,h2⟩ := aapp_new (P := Try.prog) (c := 0) (c2 := c2) (a := some ⟨b,0,none⟩) (n := 0) (l := []) (m := l.length) el22 un22 (.inl rfl) (by simp)
      (fun x hx => by cases hx; obtain ⟨y,h1,h2,_⟩ := hb; exact ⟨y,h1,.inl h2⟩) (fun h => by cases h) h.row (by simp) (by simp [zBY]) (fun h' => by subst h'; exact absurd h.some h0) (by omega) (by omega) (by omega)
    simp only [Nat.zero_add] at h1
    refine ⟨_,A1,h1,h2.nx hw (Nat.le_refl _) (fun x hx => by cases hx; obtain ⟨y,q1,q2,_⟩ := hb; exact .inr ⟨y,q1,q2⟩),fun i hi => ⟨_,_,rfl,hn,by rw [h2.next]; omega,?_⟩,fun x hx => by cases hx; exact ⟨rfl,hn,_,h2.new,.inr ⟨rfl,rfl,rfl⟩⟩,fun x hx => by cases hx; exact ⟨_,h2.new,rfl⟩⟩
    rw [h2.cl]
    simp [List.getD_eq_getElem?_getD,hi]
theorem app_one {A : AHeap} (hw : WF A) {b n : Nat} {x : Int} (hb : Canon.look A.objs b = .some ⟨.cells ⟨[.int .i64 x]⟩ 3,false,0⟩) (hn : n ≤ A.next) (hnb : n ≤ b) (hbn : b < A.next) {a2 : Option Addr} {c2 : Nat} {l : List Int} (h : Ints A a2 0 A.next l) (hlen : l.length ≤ 4000000) :
    ∃ a' A1,aapp Try.prog #[22,22] #[.slice (some ⟨b,0,none⟩) 1 1,.slice a2 l.length c2] A = .some (.slice a' (l.length + 1) (l.length + 1),A1) ∧ Nx A.next A A1 ∧ Gr A1 a' n (x :: l) := by
  have hc0 : cl A b 0 = some (.int .i64 x) := by rw [zCE hb rfl]; rfl
  by_cases h0 : l.length = 0
  · have hl : l = [] := List.length_eq_zero_iff.1 h0
    subst hl
    refine ⟨some ⟨b,0,none⟩,A,aapp_nil el22 un22 (Nat.le_refl _),Nx.refl hw _,fun i hi => ?_,fun x hx => by cases hx; exact ⟨rfl,hnb,_,hb,.inl rfl⟩,fun x hx => by cases hx; exact ⟨_,hb,rfl⟩⟩
    have : i = 0 := by simp at hi; omega
    subst this
    exact ⟨b,0,rfl,hnb,hbn,hc0⟩
  · obtain ⟨A1,h1,h2⟩ := aapp_new (P := Try.prog) (c := 1) (c2 := c2) (a := some ⟨b,0,none⟩) (n := 1) (l := [.int .i64 x]) (m := l.length) el22 un22 (.inr ⟨b,0,rfl,fun i hi => by
        have : i = 0 := by simp at hi; omega
        subst this
        exact hc0⟩) (by simp)
      (fun x hx => by cases hx; exact ⟨_,hb,.inl rfl⟩) (fun h => by cases h) h.row (by simp) (by simp [zBY]) (fun h' => by subst h'; exact absurd h.some h0) (by omega) (by omega) (by omega)
    rw [Nat.add_comm 1 l.length] at h1
    refine ⟨_,A1,h1,h2.nx hw (Nat.le_refl _) (fun x hx => by cases hx; exact .inr ⟨_,hb,rfl⟩),fun i hi => ⟨_,_,rfl,hn,by rw [h2.next]; omega,?_⟩,fun x hx => by cases hx; exact ⟨rfl,hn,_,h2.new,.inr ⟨rfl,rfl,rfl⟩⟩,fun x hx => by cases hx; exact ⟨_,h2.new,rfl⟩⟩
    rw [h2.cl]
    simp only [Nat.zero_add]
    cases i with
    | zero => simp
    | succ i =>
      have : i < l.length := by simpa using hi
      simp [List.getD_eq_getElem?_getD,this]
end Go.Proofs.Ytdaljohmfnfgiaa
namespace Go.Proofs.Ytdaljohmfnfgiaa
open Go Go.RowKit Go.Proofs.Ytdaljohmfnfgiaa.Canon
set_option maxRecDepth 20000
theorem redS_take (s : Nat → Int) {e k : Nat} (h : k ≤ e) : (redS s e).take k = redS s k := by
  refine List.ext_getElem (by simp [redS]; omega) fun i h1 h2 => ?_
  simp [redS]
theorem redR_take (s : Nat → Int) (a : Nat) {n k : Nat} (h : k ≤ n) : (redR s a n).take k = redR s a k := by
  refine List.ext_getElem (by simp [redR]; omega) fun i h1 h2 => ?_
  simp [redR]
theorem redR_cons (s : Nat → Int) (a n : Nat) : redR s a (n + 1) = s a :: redR s (a + 1) n := by
  refine List.ext_getElem (by simp [redR]) fun i h1 h2 => ?_
  cases i with
  | zero => simp [redR]
  | succ i =>
    simp [redR]
    congr 1
    omega
theorem wrap_pred {k : Nat} (h : 0 < k) (hk : k ≤ 4000000) : IntKind.i64.wrap ((k : Int) - 1) = ((k - 1 : Nat) : Int) := by rw [IntWalk.i64_in _ (by omega)]; omega
theorem small_ref {A : AHeap} (hw : WF A) {m : Int} {sa ra : Option Addr} {sc rc : Nat} {st ro : List Int} (hs : Ints A sa 0 A.next st) (hr : Ints A ra 0 A.next ro) (ls : st.length ≤ 4000000) (lr : ro.length ≤ 4000000) (hro : 0 < ro.length) (hsl : Sl A ra 0) (hrc : ro.length ≤ rc) :
    Con Try.prog 83 [.agg #[.int .i64 m,.slice sa st.length sc,.slice ra ro.length rc]] A (fun v A1 => ∃ a p,Red (atL st ro) a p ∧ a ≤ st.length ∧ p ≤ ro.length ∧ Nx A.next A A1 ∧ ∃ xa xc xr,v = .agg #[.int .i64 m,.slice xa a xc,.slice xr p p] ∧ a ≤ xc ∧ Ints A1 xa A.next A1.next (redS (atL st ro) a) ∧ Ints A1 xr A.next A1.next (redR (atL st ro) a p) ∧ Sl A1 xa A.next ∧ Sl A1 xr A.next) := by
  refine zAF hc Try.func83 rfl (Nat.le_of_ble_eq_true rfl) ?_
  obtain ⟨A0,e0,hx0,hn0,b0,b1,b2⟩ := box3 hw (.int .i64 m) (.slice sa st.length sc) (.slice ra ro.length rc) 24
  have hx1 : Nx A0.next A0 (A0.push (.cells #[.int .i64 0,.slice none 0 0,.slice none 0 0] 24)) := (Nx.refl hx0.wf _).push (Nat.le_refl _) _
  have l1 := zAI A0 (.cells #[.int .i64 0,.slice none 0 0,.slice none 0 0] 24)
  have hn1 : (A0.push (.cells #[.int .i64 0,.slice none 0 0,.slice none 0 0] 24)).next = A0.next + 1 := rfl
  generalize e1 : A0.push (.cells #[.int .i64 0,.slice none 0 0,.slice none 0 0] 24) = A1 at hx1 l1 hn1
  have hx01 : Nx A.next A A1 := hx0.trans (hx1.le hx0.next)
  have b0 := (hx1.cl (show A.next < A0.next by omega) 0).trans b0
  have b1 := (hx1.cl (show A.next < A0.next by omega) 1).trans b1
  have b2 := (hx1.cl (show A.next < A0.next by omega) 2).trans b2
  rw [s_in1]
  (repeat (first | refine Rn.seq hc ?_ | refine Rn.skip hc ?_ | refine Rn.block hc ?_ | refine Rn.inBlock hc ?_ | refine Rn.scope hc ?_ | refine Rn.inScope hc ?_))
  refine Rn.reg hc rfl ?_
  simp only [zAY,zAU,Nat.reduceLT,gd,zAX,rops,fx,zOi,zEl,Value.cells,show Try.f83.ntmps = 61 from rfl,e0,ze24,e1]
  (repeat (first | refine Rn.seq hc ?_ | refine Rn.skip hc ?_ | refine Rn.block hc ?_ | refine Rn.inBlock hc ?_ | refine Rn.scope hc ?_ | refine Rn.inScope hc ?_))
  refine Rn.reg hc rfl ?_
  simp only [zAS,gd,zAX,rops,fx,zOi,zEl]
  (repeat (first | refine Rn.seq hc ?_ | refine Rn.skip hc ?_ | refine Rn.block hc ?_ | refine Rn.inBlock hc ?_ | refine Rn.scope hc ?_ | refine Rn.inScope hc ?_))
  refine Rn.zDY hc (I := fun k s B => ∃ n,1 ≤ n ∧ n ≤ ro.length ∧ k = ro.length - n ∧ Nx A1.next A1 B ∧ (∀ e,0 < e → e < n → perOK ro e = false) ∧ s.n = 61 ∧ sget s 1 = .pointer (some ⟨A.next,0,none⟩) ∧ sget s 2 = .pointer (some ⟨A0.next,0,none⟩) ∧ sget s 3 = .int .i64 (n : Int))
    (n := ro.length - 1) ⟨1,by omega,hro,rfl,Nx.refl hx1.wf _,fun e h1 h2 => by omega,by simp only [sp_n],by simp only [zAU,zAT,sp_n,Nat.reduceLT,ne_eq,Nat.reduceEqDiff,zNf],by simp only [zAU,zAT,sp_n,Nat.reduceLT,ne_eq,Nat.reduceEqDiff,zNf,hn0],by simp only [zAU,sp_n,Nat.reduceLT]; rfl⟩ ?_
  rintro k s B ⟨n,hnn1,hnn2,rfl,hB,hmin,hn,s1,s2,s3⟩ ih
  have n01 : A.next < A1.next := by omega
  have b0 := (hB.cl n01 0).trans b0
  have b1 := (hB.cl n01 1).trans b1
  have b2 := (hB.cl n01 2).trans b2
  have hB0 : Nx A.next A B := hx01.trans (hB.le hx01.next)
  have hsB : Ints B sa 0 B.next st := (hs.nx hB0 (Nat.le_refl _)).mono (Nat.le_refl _) hB0.next
  have hrB : Ints B ra 0 B.next ro := (hr.nx hB0 (Nat.le_refl _)).mono (Nat.le_refl _) hB0.next
  (repeat (first | refine Rn.seq hc ?_ | refine Rn.skip hc ?_ | refine Rn.block hc ?_ | refine Rn.inBlock hc ?_ | refine Rn.scope hc ?_ | refine Rn.inScope hc ?_))
  refine Rn.region hc fun K hK => ?_
  refine Wo.run hc 3 rfl rfl rfl ?_
  simp (maxSteps := 2000000) only [List.drop_zero,List.take_succ_cons,List.take_zero,zAY,zAU,zAT,Nat.reduceLT,ne_eq,Nat.reduceEqDiff,not_false_eq_true,gd,zAX,rops,fx,ld,fad,zAR,Nat.zero_add,Option.some.injEq,exists_eq_left',tk22,zBG,hn,s1,s3,b2]
  refine Wo.call hc (by rfl) (by rfl) ⟨by rfl,by rfl⟩ (xs := [.slice ra ro.length rc,.int .i64 (n : Int)]) (by rfl) (by rfl) (by simp only [zAY,zAU,zAT,sp_n,Nat.reduceLT,ne_eq,Nat.reduceEqDiff,zNf,List.map_cons,List.map_nil,List.nil_append,List.append_nil,hn]) (Con.mono (turns_ref hB.wf hrB lr (by omega) (by omega)) ?_)
  rintro w C ⟨rfl,hC⟩
  have hBC : Nx A1.next A1 C := hB.trans (hC.le hB.next)
  cases hp : perOK ro n with
  | false =>
    refine Wo.run hc 1 rfl rfl rfl ?_
    simp (maxSteps := 2000000) only [List.drop_zero,List.drop_succ_cons,List.take_succ_cons,List.take_zero,zAY,zAU,sp_n,Nat.reduceLT,gd,zAX,rops,fx,Option.some.injEq,exists_eq_left',Nat.reduceAdd,Bool.not_false,ae_not',Bool.not_false,hn,Bool.not_false]
    refine Wo.done hc rfl (hK _ _ ?_)
    clear hK
    (repeat (first | refine Rn.seq hc ?_ | refine Rn.skip hc ?_ | refine Rn.block hc ?_ | refine Rn.inBlock hc ?_ | refine Rn.scope hc ?_ | refine Rn.inScope hc ?_))
    refine Rn.zAM hc rfl ?_
    simp only [zAY,zAU,sp_n,Nat.reduceLT,Value.bool.injEq,zEl,hn]
    (repeat (first | refine Rn.seq hc ?_ | refine Rn.skip hc ?_ | refine Rn.block hc ?_ | refine Rn.inBlock hc ?_ | refine Rn.scope hc ?_ | refine Rn.inScope hc ?_))
    have hnl : n < ro.length := Nat.lt_of_le_of_ne hnn2 fun e => by
      rw [e,perOK_self] at hp
      cases hp
    refine Rn.reg hc rfl ?_
    simp only [zAY,zAS,zAU,zAT,sp_n,Nat.reduceLT,ne_eq,Nat.reduceEqDiff,zNf,gd,zAX,rops,fx,zAH,zOi,zEl,hn,s3,zBZ (show n < 9223372036854775807 by omega)]
    (repeat (first | refine Rn.seq hc ?_ | refine Rn.skip hc ?_ | refine Rn.block hc ?_ | refine Rn.inBlock hc ?_ | refine Rn.scope hc ?_ | refine Rn.inScope hc ?_))
    refine ih _ _ _ (by omega) ⟨n + 1,by omega,by omega,rfl,hBC,fun e h1 h2 => ?_,by simp only [sp_n,hn],by simp only [zAT,ne_eq,Nat.reduceEqDiff,zNf,s1],by simp only [zAT,ne_eq,Nat.reduceEqDiff,zNf,s2],by simp only [zAU,sp_n,Nat.reduceLT,hn]⟩
    by_cases hen : e = n
    · subst hen; exact hp
    · exact hmin e h1 (by omega)
  | true =>
    clear ih
    refine Wo.run hc 1 rfl rfl rfl ?_
    simp (maxSteps := 2000000) only [List.drop_zero,List.drop_succ_cons,List.take_succ_cons,List.take_zero,zAY,zAU,sp_n,Nat.reduceLT,gd,zAX,rops,fx,Option.some.injEq,exists_eq_left',Nat.reduceAdd,Bool.not_true,ae_not',Bool.not_true,hn,Bool.not_true]
    refine Wo.done hc rfl (hK _ _ ?_)
    clear hK
    (repeat (first | refine Rn.seq hc ?_ | refine Rn.skip hc ?_ | refine Rn.block hc ?_ | refine Rn.inBlock hc ?_ | refine Rn.scope hc ?_ | refine Rn.inScope hc ?_))
    refine Rn.zAM hc rfl ?_
    simp only [zAY,zAU,sp_n,Nat.reduceLT,Value.bool.injEq,zEl,hn]
    (repeat (first | refine Rn.seq hc ?_ | refine Rn.skip hc ?_ | refine Rn.block hc ?_ | refine Rn.inBlock hc ?_ | refine Rn.scope hc ?_ | refine Rn.inScope hc ?_))
    refine Rn.exit hc rfl ?_
    (repeat (first | refine Rn.seq hc ?_ | refine Rn.skip hc ?_ | refine Rn.block hc ?_ | refine Rn.inBlock hc ?_ | refine Rn.scope hc ?_ | refine Rn.inScope hc ?_))
    have hper := perOK_per (st := st) hro (by omega) hp
    have hpmin : ∀ N e,Per (atL st ro) N e → n ≤ e := fun N e => min_per hro hmin
    have c1 := (hC.cl (show A.next < B.next by have := hB.next; omega) 1).trans b1
    have c2 := (hC.cl (show A.next < B.next by have := hB.next; omega) 2).trans b2
    have c0 := (hC.cl (show A.next < B.next by have := hB.next; omega) 0).trans b0
    have hC0 : Nx A.next A C := hx01.trans (hBC.le hx01.next)
    have hsC : Ints C sa 0 C.next st := (hs.nx hC0 (Nat.le_refl _)).mono (Nat.le_refl _) hC0.next
    have hrC : Ints C ra 0 C.next ro := (hr.nx hC0 (Nat.le_refl _)).mono (Nat.le_refl _) hC0.next
    have hslC : Sl C ra 0 := hsl.nx hw hC0
    have hCn := hC.next
    have hBn := hB.next
    clear b0 b1 b2 hsB hrB hC hB hB0 hs hr
    obtain ⟨F,hF1,hF2,hF3,hF⟩ : ∃ F : AHeap → Prop,(∀ M,F M → cl M A.next 1 = some (.slice sa st.length sc)) ∧ (∀ M,F M → cl M A.next 2 = some (.slice ra ro.length rc)) ∧ (∀ M,F M → asl Try.prog 22 (.slice ra ro.length rc) none (some (.int .i64 (n : Int))) none M = some (.slice ra n rc,M)) ∧ (∀ M,Nx C.next C M → F M) :=
      ⟨fun M => Nx C.next C M,fun M h => (h.cl (by omega) 1).trans c1,fun M h => (h.cl (by omega) 2).trans c2,fun M h => asl_pos ((hrC.nx h (Nat.le_refl _)).mono (Nat.le_refl _) h.next) (hslC.nx hBC.wf h) hrc hro hnn2,fun _ h => h⟩
    have hbk : Nx C.next C (bump C 12) := Nx.bump (Nx.refl hBC.wf _) 12
    have FB := hF _ hbk
    refine Rn.drawnF hc hx noS F (n := 4) (k := 12) (by kernel_rfl) (by kernel_rfl) (by rfl) ?_
    refine Dr.float (by rfl) (by rfl) (by rfl) fb22_0 ?_
    refine Dr.read (by first | rfl | kernel_rfl) (by rfl) (by assumption) (fun M hM => by simp only [zAY,zAT,ne_eq,Nat.reduceEqDiff,zNf,fx,fad,zAR,Nat.zero_add,Nat.add_zero,zBO,s1] <;> rfl) (by rfl) (by first | exact VQ.int _ _ | exact VQ.bool _ | exact VQ.ptr _ _ | exact VQ.slice _ _ _ | exact VQ.func (by simp [zAW,zAV,zAZ]) (by simp [zAW,zAV,zAZ]) | exact VQ.agg (by simp [zAW,zAV,zAZ]) | exact VQ.tuple (by simp [zAW,zAV,zAZ])) ?_
    refine Dr.read (by first | rfl | kernel_rfl) (by rfl) (by assumption) (fun M hM => by simp only [zAY,zAU,sp_n,Nat.reduceLT,fx,ld,zAR,Nat.add_zero,tk22,hn,hF1 M hM] <;> rfl) (by rfl) (by first | exact VQ.int _ _ | exact VQ.bool _ | exact VQ.ptr _ _ | exact VQ.slice _ _ _ | exact VQ.func (by simp [zAW,zAV,zAZ]) (by simp [zAW,zAV,zAZ]) | exact VQ.agg (by simp [zAW,zAV,zAZ]) | exact VQ.tuple (by simp [zAW,zAV,zAZ])) ?_
    obtain ⟨C1,p1,hxC1,eC1,lC1,kC1⟩ := place_row hbk (b := C.next + 0) (by omega) (by rw [zAD]; omega) (hBC.wf.none (by omega)) [] 3 0 0
    rw [zAD] at eC1
    obtain ⟨xa,C2,q1,k2,g2⟩ := app_at (n := C.next) hxC1.wf ⟨_,lC1,rfl,rfl⟩ (by omega) (by omega) (by omega) (c2 := sc) ((hsC.nx hxC1 (Nat.le_refl _)).mono (Nat.le_refl _) hxC1.next) ls
    have hC2 : Nx C.next C C2 := hxC1.trans (k2.le (by omega))
    refine Dr.eff (by rfl) (by rfl) (pd1 := [(0,⟨[],3,.sl 0 0⟩)]) (pd2 := []) (by kernel_rfl) (by kernel_rfl) (ms0 := [bump C 12]) (A0 := C1) (by simp only [zBU,p1]) (fun M hM => by rw [List.mem_singleton] at hM; rw [hM]; exact FB) (hF _ hxC1) (by rfl)
      (v := .slice xa st.length st.length) (A1 := C2) (zBQ rfl (by simp only [zAY,zAU,zAT,sp_n,Nat.reduceLT,ne_eq,Nat.reduceEqDiff,zNf,Nat.add_zero,hn,ae_apd,zCQ,FK.val]; exact q1)) ?_
    have FC2 := hF _ hC2
    refine Dr.float (by rfl) (by rfl) (by rfl) fb22_0 ?_
    refine Dr.read (by first | rfl | kernel_rfl) (by rfl) (by assumption) (fun M hM => by simp only [zAY,zAT,ne_eq,Nat.reduceEqDiff,zNf,fx,fad,zAR,Nat.zero_add,Nat.add_zero,Nat.reduceAdd,zBG,s1] <;> rfl) (by rfl) (by first | exact VQ.int _ _ | exact VQ.bool _ | exact VQ.ptr _ _ | exact VQ.slice _ _ _ | exact VQ.func (by simp [zAW,zAV,zAZ]) (by simp [zAW,zAV,zAZ]) | exact VQ.agg (by simp [zAW,zAV,zAZ]) | exact VQ.tuple (by simp [zAW,zAV,zAZ])) ?_
    refine Dr.read (by first | rfl | kernel_rfl) (by rfl) (by assumption) (fun M hM => by simp only [zAY,zAU,sp_n,Nat.reduceLT,fx,ld,zAR,Nat.zero_add,Nat.add_zero,Nat.reduceAdd,tk22,hn,hF2 M hM] <;> rfl) (by rfl) (by first | exact VQ.int _ _ | exact VQ.bool _ | exact VQ.ptr _ _ | exact VQ.slice _ _ _ | exact VQ.func (by simp [zAW,zAV,zAZ]) (by simp [zAW,zAV,zAZ]) | exact VQ.agg (by simp [zAW,zAV,zAZ]) | exact VQ.tuple (by simp [zAW,zAV,zAZ])) ?_
    refine Dr.read (by first | rfl | kernel_rfl) (by rfl) (by assumption) (fun M hM => by simp only [zAY,zAT,ne_eq,Nat.reduceEqDiff,zNf,fx,Nat.zero_add,Nat.add_zero,Nat.reduceAdd,s3] <;> rfl) (by rfl) (by first | exact VQ.int _ _ | exact VQ.bool _ | exact VQ.ptr _ _ | exact VQ.slice _ _ _ | exact VQ.func (by simp [zAW,zAV,zAZ]) (by simp [zAW,zAV,zAZ]) | exact VQ.agg (by simp [zAW,zAV,zAZ]) | exact VQ.tuple (by simp [zAW,zAV,zAZ])) ?_
    refine Dr.read (by first | rfl | kernel_rfl) (by rfl) (by assumption) (fun M hM => by simp only [zAY,zAU,zAT,sp_n,Nat.reduceLT,ne_eq,Nat.reduceEqDiff,zNf,fx,Nat.zero_add,Nat.add_zero,Nat.reduceAdd,hn,ae_asl_hi,hF3 M hM] <;> rfl) (by rfl) (by first | exact VQ.int _ _ | exact VQ.bool _ | exact VQ.ptr _ _ | exact VQ.slice _ _ _ | exact VQ.func (by simp [zAW,zAV,zAZ]) (by simp [zAW,zAV,zAZ]) | exact VQ.agg (by simp [zAW,zAV,zAZ]) | exact VQ.tuple (by simp [zAW,zAV,zAZ])) ?_
    have hn2 := k2.next
    have hnb : Canon.look C2.objs (C.next + 4) = none := by rw [k2.keep _ (by omega),kC1 _ (by omega)]; exact hBC.wf.none (by omega)
    obtain ⟨C3,p3,hxC3,eC3,lC3,kC3⟩ := place_row hC2 (b := C.next + 4) (by omega) (by omega) hnb [] 3 0 0
    have htk : (ro.take n).length = n := by simp; omega
    obtain ⟨xr,C4,q4,k4,g4⟩ := app_at (n := C.next) hxC3.wf ⟨_,lC3,rfl,rfl⟩ (by omega) (by omega) (by omega) (c2 := rc) (((hrC.nx hxC3 (Nat.le_refl _)).mono (Nat.le_refl _) hxC3.next).take (n := n)) (by omega)
    rw [htk] at q4
    have hC4 : Nx C.next C C4 := hxC3.trans (k4.le (by omega))
    refine Dr.eff (by rfl) (by rfl) (pd1 := [(4,⟨[],3,.sl 0 0⟩)]) (pd2 := []) (by kernel_rfl) (by kernel_rfl) (ms0 := [C2]) (A0 := C3) (by simp only [zBU,p3]) (fun M hM => by rw [List.mem_singleton] at hM; rw [hM]; exact FC2) (hF _ hxC3) (by rfl)
      (v := .slice xr n n) (A1 := C4) (zBQ rfl (by simp only [zAY,zAU,zAT,sp_n,Nat.reduceLT,ne_eq,Nat.reduceEqDiff,zNf,Nat.zero_add,Nat.add_zero,Nat.reduceAdd,hn,ae_apd,zCQ,FK.val]; exact q4)) ?_
    have FC4 := hF _ hC4
    refine Dr.read (by first | rfl | kernel_rfl) (by rfl) (by assumption) (fun M hM => by simp only [zAY,zAU,zAT,sp_n,Nat.reduceLT,ne_eq,Nat.reduceEqDiff,zNf,fx,Nat.zero_add,Nat.add_zero,Nat.reduceAdd,hn] <;> rfl) (by rfl) (by first | exact VQ.int _ _ | exact VQ.bool _ | exact VQ.ptr _ _ | exact VQ.slice _ _ _ | exact VQ.func (by simp [zAW,zAV,zAZ]) (by simp [zAW,zAV,zAZ]) | exact VQ.agg (by simp [zAW,zAV,zAZ]) | exact VQ.tuple (by simp [zAW,zAV,zAZ])) ?_
    refine Dr.read (by first | rfl | kernel_rfl) (by rfl) (by assumption) (fun M hM => by simp only [zAY,zAU,zAT,sp_n,Nat.reduceLT,ne_eq,Nat.reduceEqDiff,zNf,fx,Nat.zero_add,Nat.add_zero,Nat.reduceAdd,hn] <;> rfl) (by rfl) (by first | exact VQ.int _ _ | exact VQ.bool _ | exact VQ.ptr _ _ | exact VQ.slice _ _ _ | exact VQ.func (by simp [zAW,zAV,zAZ]) (by simp [zAW,zAV,zAZ]) | exact VQ.agg (by simp [zAW,zAV,zAZ]) | exact VQ.tuple (by simp [zAW,zAV,zAZ])) ?_
    refine Dr.nil (by rfl) (fun M hM => by cases hM) FC4 ⟨C4,by rfl,?_⟩
    refine Rn.seq hc ?_
    have htake : st = redS (atL st ro) st.length := by
      refine List.ext_getElem (by rw [zAL]) fun i h1 h2 => ?_
      have := atL_st (ro := ro) h1
      simp [redS,this,List.getD_eq_getElem?_getD,h1]
    have htakeR : ro.take n = redR (atL st ro) st.length n := by
      refine List.ext_getElem (by rw [zAG]; exact htk) fun i h1 h2 => ?_
      have hi : i < n := by omega
      have := atL_ro (st := st) (show i < ro.length by omega)
      simp [redR,this,List.getD_eq_getElem?_getD,show i < ro.length by omega]
    have gA : Gr C4 xa C.next st := (g2.ext (by omega) fun b' hb' => (by
      by_cases hbb : b' = C.next + 4
      · exact .inl (hbb ▸ hnb)
      · exact .inr (kC3 _ hbb) : Canon.look C2.objs b' = none ∨ Canon.look C3.objs b' = Canon.look C2.objs b')).nx (n := 0) hxC3.wf k4
    rw [htakeR] at g4
    have g4' := g4
    have gA1 := gA.ints
    have gA2 := gA.sl
    have s0' : st.length ≤ st.length := Nat.le_refl _
    clear g2 gA k2 k4 p1 p3 q1 q4 FB FC2 FC4 lC1 lC3 kC1 kC3 hxC1 hxC3 eC1 eC3 hbk
    rw [htake] at gA1
    refine Rn.cut2 hc (Q1 := fun s ds M => ds = [] ∧ ∃ e xc xr,e ≤ st.length ∧ e ≤ xc ∧ Nx C.next C M ∧ Red (atL st ro) e n ∧ Ints M xa C.next M.next (redS (atL st ro) e) ∧ Sl M xa C.next ∧ Ints M xr C.next M.next (redR (atL st ro) e n) ∧ Sl M xr C.next ∧ s.n = 61 ∧ sget s 1 = .pointer (some ⟨A.next,0,none⟩) ∧ sget s 2 = .pointer (some ⟨A0.next,0,none⟩) ∧ sget s 4 = .slice xa e xc ∧ sget s 5 = .slice xr n n)
      (Q2 := fun _ _ _ => False) ?_ ?_ ?_
    · (repeat (first | refine Rn.seq hc ?_ | refine Rn.skip hc ?_ | refine Rn.block hc ?_ | refine Rn.inBlock hc ?_ | refine Rn.scope hc ?_ | refine Rn.inScope hc ?_))
      refine Rn.zDY hc (I := fun k s M => ∃ e xc xr,e ≤ st.length ∧ e ≤ xc ∧ k = e ∧ Nx C.next C M ∧ Per (atL st ro) e n ∧ Ints M xa C.next M.next (redS (atL st ro) e) ∧ Sl M xa C.next ∧ Ints M xr C.next M.next (redR (atL st ro) e n) ∧ Sl M xr C.next ∧ s.n = 61 ∧ sget s 1 = .pointer (some ⟨A.next,0,none⟩) ∧ sget s 2 = .pointer (some ⟨A0.next,0,none⟩) ∧ sget s 3 = .int .i64 (n : Int) ∧ sget s 4 = .slice xa e xc ∧ sget s 5 = .slice xr n n)
        (n := st.length) ⟨st.length,st.length,xr,s0',s0',rfl,hC4,hper,gA1,gA2,g4.ints,g4.sl,by simp only [sp_n,hn],by simp only [zAT,ne_eq,Nat.reduceEqDiff,zNf,s1],by simp only [zAT,ne_eq,Nat.reduceEqDiff,zNf,s2],by simp only [zAT,ne_eq,Nat.reduceEqDiff,zNf,s3],by simp only [zAU,zAT,sp_n,Nat.reduceLT,ne_eq,Nat.reduceEqDiff,zNf,hn],by simp only [zAU,sp_n,Nat.reduceLT,hn]⟩ ?_
      clear g4 g4' gA1 gA2 hn s1 s2 s3 hC4 s xr
      rintro k s M ⟨e,xc,xr,he1,he2,rfl,hM,hpe,ia,la,ir,lr',hn,s1,s2,s3,s4,s5⟩ ih
      have hlS := zAL (atL st ro) k
      have hlR := zAG (atL st ro) k n
      (repeat (first | refine Rn.seq hc ?_ | refine Rn.skip hc ?_ | refine Rn.block hc ?_ | refine Rn.inBlock hc ?_ | refine Rn.scope hc ?_ | refine Rn.inScope hc ?_))
      by_cases he0 : k = 0
      · clear ih
        have hd0 : decide ((0 : Int) < (k : Int)) = false := decide_eq_false (by omega)
        refine Rn.zDV hc hx (by kernel_rfl) (by rfl) (by kernel_rfl) ?_ ?_
        · simp only [rdV,VQ.int,VQ.bool,VQ.slice,zAY,zAS,zAU,zAT,sp_n,Nat.reduceLT,ne_eq,Nat.reduceEqDiff,zNf,gd,nth,zAX,zAP,beqB,fx,lng,pck,zBS,Nat.zero_add,Nat.reduceAdd,and_self,un22,hn,s4,hd0,List.length_cons,List.length_nil]
        simp only [zAY,zAS,zAU,zAT,sp_n,Nat.reduceLT,ne_eq,Nat.reduceEqDiff,zNf,gd,nth,zAX,zAP,beqB,rops,fx,lng,pck,zBS,Nat.zero_add,zOi,zEl,Nat.reduceAdd,un22,hn,s4,hd0,List.length_cons,List.length_nil]
        (repeat (first | refine Rn.seq hc ?_ | refine Rn.skip hc ?_ | refine Rn.block hc ?_ | refine Rn.inBlock hc ?_ | refine Rn.scope hc ?_ | refine Rn.inScope hc ?_))
        refine Rn.zAM hc rfl ?_
        simp only [zAY,zAU,sp_n,Nat.reduceLT,Value.bool.injEq,zEl,hn]
        (repeat (first | refine Rn.seq hc ?_ | refine Rn.skip hc ?_ | refine Rn.block hc ?_ | refine Rn.inBlock hc ?_ | refine Rn.scope hc ?_ | refine Rn.inScope hc ?_))
        refine Rn.exit hc rfl ?_
        (repeat (first | refine Rn.seq hc ?_ | refine Rn.skip hc ?_ | refine Rn.block hc ?_ | refine Rn.inBlock hc ?_ | refine Rn.scope hc ?_ | refine Rn.inScope hc ?_))
        have hMb : Nx M.next M (bump M 17) := Nx.bump (Nx.refl hM.wf _) 17
        exact Rn.fall ⟨rfl,k,xc,xr,he1,he2,hM.trans (hMb.le hM.next),red_of hpe hpmin (fun h => absurd h (by omega)),(ia.nx hMb (Nat.le_refl _)).mono (Nat.le_refl _) hMb.next,la.nx hM.wf hMb,(ir.nx hMb (Nat.le_refl _)).mono (Nat.le_refl _) hMb.next,lr'.nx hM.wf hMb,by simp only [sp_n,hn],by simp only [zAT,ne_eq,Nat.reduceEqDiff,zNf,s1],by simp only [zAT,ne_eq,Nat.reduceEqDiff,zNf,s2],by simp only [zAT,ne_eq,Nat.reduceEqDiff,zNf,s4],by simp only [zAT,ne_eq,Nat.reduceEqDiff,zNf,s5]⟩
      · have hel : k - 1 < (redS (atL st ro) k).length := by omega
        have hnl : n - 1 < (redR (atL st ro) k n).length := by omega
        obtain ⟨bb,o,hxa,_,hb1,hcl⟩ := ia (k - 1) hel
        obtain ⟨bb',o',hxr,_,hb2,hcl'⟩ := ir (n - 1) hnl
        rw [zCD (by omega)] at hcl
        rw [redR_get (by omega),show k + (n - 1) = k - 1 + n by omega] at hcl'
        have hd0 : decide ((0 : Int) < (k : Int)) = true := decide_eq_true (by omega)
        have hw1 := wrap_pred (k := k) (by omega) (by omega)
        have hw2 := wrap_pred (k := n) (by omega) (by omega)
        have hel' : k - 1 < k := by omega
        have hnl' : n - 1 < n := by omega
        subst hxa hxr
        by_cases heq : atL st ro (k - 1) = atL st ro (k - 1 + n)
        · have hdq : decide (atL st ro (k - 1) = atL st ro (k - 1 + n)) = true := decide_eq_true heq
          refine Rn.zDV hc hx (by kernel_rfl) (by rfl) (by kernel_rfl) ?_ ?_
          · simp only [rdV,VQ.int,VQ.bool,VQ.ptr,VQ.slice,zBT,zAY,zAS,zAU,zAT,sp_n,Nat.reduceLT,ne_eq,Nat.reduceEqDiff,zNf,gd,nth,zAX,zAP,beqB,fx,ld,idx,lng,pck,zBS,bin_eql,zBR,zAR,Nat.zero_add,Nat.reduceAdd,Nat.mul_one,and_self,tk3,un22,eo22,hn,s3,s4,s5,hd0,hw1,hw2,zAQ hel',zAQ hnl',hcl,hcl',hdq,List.length_cons,List.length_nil]
          simp only [zBT,zAY,zAS,zAU,zAT,sp_n,Nat.reduceLT,ne_eq,Nat.reduceEqDiff,zNf,gd,nth,zAX,zAP,beqB,rops,fx,ld,idx,lng,pck,zBS,bin_eql,zBR,zAR,Nat.zero_add,zOi,zEl,Nat.reduceAdd,Nat.mul_one,tk3,un22,eo22,hn,s3,s4,s5,hd0,hw1,hw2,zAQ hel',zAQ hnl',hcl,hcl',hdq,List.length_cons,List.length_nil]
          (repeat (first | refine Rn.seq hc ?_ | refine Rn.skip hc ?_ | refine Rn.block hc ?_ | refine Rn.inBlock hc ?_ | refine Rn.scope hc ?_ | refine Rn.inScope hc ?_))
          refine Rn.zAM hc rfl ?_
          simp only [zAY,zAU,sp_n,Nat.reduceLT,Value.bool.injEq,zEl,hn]
          (repeat (first | refine Rn.seq hc ?_ | refine Rn.skip hc ?_ | refine Rn.block hc ?_ | refine Rn.inBlock hc ?_ | refine Rn.scope hc ?_ | refine Rn.inScope hc ?_))
          have hMb : Nx M.next M (bump M 17) := Nx.bump (Nx.refl hM.wf _) 17
          have hMC : Nx C.next C (bump M 17) := hM.trans (hMb.le hM.next)
          have ia := (ia.nx hMb (Nat.le_refl _)).mono (Nat.le_refl _) hMb.next
          have ir := (ir.nx hMb (Nat.le_refl _)).mono (Nat.le_refl _) hMb.next
          have la := la.nx hM.wf hMb
          have lr' := lr'.nx hM.wf hMb
          have hcl' : cl (bump M 17) bb' (o' + (n - 1)) = _ := hcl'
          have hb2 : bb' < (bump M 17).next := Nat.lt_of_lt_of_le hb2 hMb.next
          clear hMb
          generalize hM' : bump M 17 = M' at hMC ia ir la lr' hcl' hb2
          have has : asl Try.prog 22 (.slice (some ⟨bb,o,none⟩) k xc) none (some (.int .i64 ((k - 1 : Nat) : Int))) none M' = some (.slice (some ⟨bb,o,none⟩) (k - 1) xc,M') := by
            have := asl_pos (c := xc) (n := k - 1) ia la (by omega) (by omega) (by omega)
            rwa [hlS] at this
          refine Rn.reg hc rfl ?_
          simp only [zAY,zAS,zAU,zAT,sp_n,Nat.reduceLT,ne_eq,Nat.reduceEqDiff,zNf,gd,zAX,rops,fx,lng,zBR,zOi,zEl,un22,hn,s4,hw1,ae_asl_hi,has]
          (repeat (first | refine Rn.seq hc ?_ | refine Rn.skip hc ?_ | refine Rn.block hc ?_ | refine Rn.inBlock hc ?_ | refine Rn.scope hc ?_ | refine Rn.inScope hc ?_))
          have ia' := ia.take (n := k - 1)
          rw [redS_take _ (by omega)] at ia'
          obtain ⟨F,hF1,hF2,hF⟩ : ∃ F : AHeap → Prop,(∀ X,F X → cl X bb' (o' + (n - 1)) = some (.int .i64 (atL st ro (k - 1 + n)))) ∧ (∀ X,F X → asl Try.prog 22 (.slice (some ⟨bb',o',none⟩) n n) none (some (.int .i64 ((n - 1 : Nat) : Int))) none X = some (.slice (some ⟨bb',o',none⟩) (n - 1) n,X)) ∧ (∀ X,Nx M'.next M' X → F X) :=
            ⟨fun X => Nx M'.next M' X,fun X h => (h.cl hb2 _).trans hcl',fun X h => by
              have := asl_pos (n := n - 1) ((ir.nx h (Nat.le_refl _)).mono (Nat.le_refl _) h.next) (lr'.nx hMC.wf h) (c := n) (by omega) (by omega) (by omega)
              rwa [hlR] at this,fun _ h => h⟩
          have hbk : Nx M'.next M' (bump M' 12) := Nx.bump (Nx.refl hMC.wf _) 12
          have FB := hF _ hbk
          have hMn := hMC.next
          refine Rn.drawnF hc hx noS F (n := 2) (k := 12) (by kernel_rfl) (by kernel_rfl) (by rfl) ?_
          refine Dr.read (by first | rfl | kernel_rfl) (by rfl) (by assumption) (fun M hM => by simp only [zAY,zAT,ne_eq,Nat.reduceEqDiff,zNf,fx,s5] <;> rfl) (by rfl) (by first | exact VQ.int _ _ | exact VQ.bool _ | exact VQ.ptr _ _ | exact VQ.slice _ _ _ | exact VQ.func (by simp [zAW,zAV,zAZ]) (by simp [zAW,zAV,zAZ]) | exact VQ.agg (by simp [zAW,zAV,zAZ]) | exact VQ.tuple (by simp [zAW,zAV,zAZ])) ?_
          refine Dr.read (by first | rfl | kernel_rfl) (by rfl) (by assumption) (fun M hM => by simp only [zAY,zAT,ne_eq,Nat.reduceEqDiff,zNf,fx,s3] <;> rfl) (by rfl) (by first | exact VQ.int _ _ | exact VQ.bool _ | exact VQ.ptr _ _ | exact VQ.slice _ _ _ | exact VQ.func (by simp [zAW,zAV,zAZ]) (by simp [zAW,zAV,zAZ]) | exact VQ.agg (by simp [zAW,zAV,zAZ]) | exact VQ.tuple (by simp [zAW,zAV,zAZ])) ?_
          refine Dr.read (by first | rfl | kernel_rfl) (by rfl) (by assumption) (fun M hM => by simp only [zAY,zAS,zAU,sp_n,Nat.reduceLT,fx,zBR,hn,hw2] <;> rfl) (by rfl) (by first | exact VQ.int _ _ | exact VQ.bool _ | exact VQ.ptr _ _ | exact VQ.slice _ _ _ | exact VQ.func (by simp [zAW,zAV,zAZ]) (by simp [zAW,zAV,zAZ]) | exact VQ.agg (by simp [zAW,zAV,zAZ]) | exact VQ.tuple (by simp [zAW,zAV,zAZ])) ?_
          refine Dr.read (by first | rfl | kernel_rfl) (by rfl) (by assumption) (fun M hM => by simp only [zAY,zAU,zAT,sp_n,Nat.reduceLT,ne_eq,Nat.reduceEqDiff,zNf,fx,idx,Nat.mul_one,eo22,hn,zAQ hnl'] <;> rfl) (by rfl) (by first | exact VQ.int _ _ | exact VQ.bool _ | exact VQ.ptr _ _ | exact VQ.slice _ _ _ | exact VQ.func (by simp [zAW,zAV,zAZ]) (by simp [zAW,zAV,zAZ]) | exact VQ.agg (by simp [zAW,zAV,zAZ]) | exact VQ.tuple (by simp [zAW,zAV,zAZ])) ?_
          refine Dr.read (by first | rfl | kernel_rfl) (by rfl) (by assumption) (fun M hM => by simp only [zAY,zAU,sp_n,Nat.reduceLT,fx,ld,zAR,tk3,hn,hF1 M hM] <;> rfl) (by rfl) (by first | exact VQ.int _ _ | exact VQ.bool _ | exact VQ.ptr _ _ | exact VQ.slice _ _ _ | exact VQ.func (by simp [zAW,zAV,zAZ]) (by simp [zAW,zAV,zAZ]) | exact VQ.agg (by simp [zAW,zAV,zAZ]) | exact VQ.tuple (by simp [zAW,zAV,zAZ])) ?_
          refine Dr.float (by rfl) (by rfl) (by rfl) (fb22_1 (v := .int .i64 (atL st ro (k - 1 + n))) (by simp only [zAY,zAU,sp_n,Nat.reduceLT,hn]) rfl) ?_
          refine Dr.read (by first | rfl | kernel_rfl) (by rfl) (by assumption) (fun M hM => by simp only [zAY,zAT,ne_eq,Nat.reduceEqDiff,zNf,fx,Nat.zero_add,Nat.reduceAdd,s5] <;> rfl) (by rfl) (by first | exact VQ.int _ _ | exact VQ.bool _ | exact VQ.ptr _ _ | exact VQ.slice _ _ _ | exact VQ.func (by simp [zAW,zAV,zAZ]) (by simp [zAW,zAV,zAZ]) | exact VQ.agg (by simp [zAW,zAV,zAZ]) | exact VQ.tuple (by simp [zAW,zAV,zAZ])) ?_
          refine Dr.read (by first | rfl | kernel_rfl) (by rfl) (by assumption) (fun M hM => by simp only [zAY,zAT,ne_eq,Nat.reduceEqDiff,zNf,fx,Nat.zero_add,Nat.reduceAdd,s3] <;> rfl) (by rfl) (by first | exact VQ.int _ _ | exact VQ.bool _ | exact VQ.ptr _ _ | exact VQ.slice _ _ _ | exact VQ.func (by simp [zAW,zAV,zAZ]) (by simp [zAW,zAV,zAZ]) | exact VQ.agg (by simp [zAW,zAV,zAZ]) | exact VQ.tuple (by simp [zAW,zAV,zAZ])) ?_
          refine Dr.read (by first | rfl | kernel_rfl) (by rfl) (by assumption) (fun M hM => by simp only [zAY,zAS,zAU,sp_n,Nat.reduceLT,fx,zBR,Nat.zero_add,Nat.reduceAdd,hn,hw2] <;> rfl) (by rfl) (by first | exact VQ.int _ _ | exact VQ.bool _ | exact VQ.ptr _ _ | exact VQ.slice _ _ _ | exact VQ.func (by simp [zAW,zAV,zAZ]) (by simp [zAW,zAV,zAZ]) | exact VQ.agg (by simp [zAW,zAV,zAZ]) | exact VQ.tuple (by simp [zAW,zAV,zAZ])) ?_
          refine Dr.read (by first | rfl | kernel_rfl) (by rfl) (by assumption) (fun M hM => by simp only [zAY,zAU,zAT,sp_n,Nat.reduceLT,ne_eq,Nat.reduceEqDiff,zNf,fx,Nat.zero_add,Nat.reduceAdd,hn,ae_asl_hi,hF2 M hM] <;> rfl) (by rfl) (by first | exact VQ.int _ _ | exact VQ.bool _ | exact VQ.ptr _ _ | exact VQ.slice _ _ _ | exact VQ.func (by simp [zAW,zAV,zAZ]) (by simp [zAW,zAV,zAZ]) | exact VQ.agg (by simp [zAW,zAV,zAZ]) | exact VQ.tuple (by simp [zAW,zAV,zAZ])) ?_
          obtain ⟨M1,p1,hx1',e1',l1',k1'⟩ := place_row hbk (b := M'.next + 5) (by omega) (by rw [zAD]; omega) (hMC.wf.none (by omega)) [.int .i64 (atL st ro (k - 1 + n))] 3 1 1
          rw [zAD] at e1'
          have htk : ((redR (atL st ro) k n).take (n - 1)).length = n - 1 := by rw [redR_take _ _ (by omega),zAG]
          obtain ⟨xr2,M2,q2,k2,g2⟩ := app_one (n := C.next) hx1'.wf l1' (by omega) (by omega) (by omega) (c2 := n) ((((ir.nx hx1' (Nat.le_refl _)).mono (Nat.zero_le _) hx1'.next)).take (n := n - 1)) (by omega)
          rw [htk,show n - 1 + 1 = n by omega] at q2
          have hM2 : Nx M'.next M' M2 := hx1'.trans (k2.le (by omega))
          refine Dr.eff (by rfl) (by rfl) (pd1 := [(5,⟨[.int .i64 (atL st ro (k - 1 + n))],3,.sl 1 1⟩)]) (pd2 := []) (by kernel_rfl) (by kernel_rfl) (ms0 := [bump M' 12]) (A0 := M1) (by simp only [zBU,p1]) (fun M hM => by rw [List.mem_singleton] at hM; rw [hM]; exact FB) (hF _ hx1') (by rfl)
            (v := .slice xr2 n n) (A1 := M2) (zBQ rfl (by simp only [zAY,zAU,zAT,sp_n,Nat.reduceLT,ne_eq,Nat.reduceEqDiff,zNf,Nat.zero_add,Nat.reduceAdd,hn,ae_apd,zCQ,FK.val]; exact q2)) ?_
          have FM2 := hF _ hM2
          refine Dr.read (by first | rfl | kernel_rfl) (by rfl) (by assumption) (fun M hM => by simp only [zAY,zAU,sp_n,Nat.reduceLT,fx,Nat.zero_add,Nat.reduceAdd,hn] <;> rfl) (by rfl) (by first | exact VQ.int _ _ | exact VQ.bool _ | exact VQ.ptr _ _ | exact VQ.slice _ _ _ | exact VQ.func (by simp [zAW,zAV,zAZ]) (by simp [zAW,zAV,zAZ]) | exact VQ.agg (by simp [zAW,zAV,zAZ]) | exact VQ.tuple (by simp [zAW,zAV,zAZ])) ?_
          refine Dr.nil (by rfl) (fun M hM => by cases hM) FM2 ⟨M2,by rfl,?_⟩
          (repeat (first | refine Rn.seq hc ?_ | refine Rn.skip hc ?_ | refine Rn.block hc ?_ | refine Rn.inBlock hc ?_ | refine Rn.scope hc ?_ | refine Rn.inScope hc ?_))
          have hcons : atL st ro (k - 1 + n) :: (redR (atL st ro) k n).take (n - 1) = redR (atL st ro) (k - 1) n := by
            rw [redR_take _ _ (by omega),← heq]
            have := redR_cons (atL st ro) (k - 1) (n - 1)
            rw [show n - 1 + 1 = n by omega,show k - 1 + 1 = k by omega] at this
            exact this.symm
          rw [hcons] at g2
          refine ih _ _ _ (by omega) ⟨k - 1,xc,xr2,by omega,by omega,rfl,hMC.trans (hM2.le hMC.next),Per.back (by rw [show k - 1 + 1 = k by omega]; exact hpe) heq,(ia'.nx hM2 (Nat.le_refl _)).mono (Nat.le_refl _) hM2.next,la.nx hMC.wf hM2,g2.ints,g2.sl,by simp only [sp_n,hn],by simp only [zAT,ne_eq,Nat.reduceEqDiff,zNf,s1],by simp only [zAT,ne_eq,Nat.reduceEqDiff,zNf,s2],by simp only [zAT,ne_eq,Nat.reduceEqDiff,zNf,s3],by simp only [zAU,zAT,sp_n,Nat.reduceLT,ne_eq,Nat.reduceEqDiff,zNf,hn],by simp only [zAU,sp_n,Nat.reduceLT,hn]⟩
        · have hdq : decide (atL st ro (k - 1) = atL st ro (k - 1 + n)) = false := decide_eq_false heq
          clear ih
          refine Rn.zDV hc hx (by kernel_rfl) (by rfl) (by kernel_rfl) ?_ ?_
          · simp only [rdV,VQ.int,VQ.bool,VQ.ptr,VQ.slice,zBT,zAY,zAS,zAU,zAT,sp_n,Nat.reduceLT,ne_eq,Nat.reduceEqDiff,zNf,gd,nth,zAX,zAP,beqB,fx,ld,idx,lng,pck,zBS,bin_eql,zBR,zAR,Nat.zero_add,Nat.reduceAdd,Nat.mul_one,and_self,tk3,un22,eo22,hn,s3,s4,s5,hd0,hw1,hw2,zAQ hel',zAQ hnl',hcl,hcl',hdq,List.length_cons,List.length_nil]
          simp only [zBT,zAY,zAS,zAU,zAT,sp_n,Nat.reduceLT,ne_eq,Nat.reduceEqDiff,zNf,gd,nth,zAX,zAP,beqB,rops,fx,ld,idx,lng,pck,zBS,bin_eql,zBR,zAR,Nat.zero_add,zOi,zEl,Nat.reduceAdd,Nat.mul_one,tk3,un22,eo22,hn,s3,s4,s5,hd0,hw1,hw2,zAQ hel',zAQ hnl',hcl,hcl',hdq,List.length_cons,List.length_nil]
          (repeat (first | refine Rn.seq hc ?_ | refine Rn.skip hc ?_ | refine Rn.block hc ?_ | refine Rn.inBlock hc ?_ | refine Rn.scope hc ?_ | refine Rn.inScope hc ?_))
          refine Rn.zAM hc rfl ?_
          simp only [zAY,zAU,sp_n,Nat.reduceLT,Value.bool.injEq,zEl,hn]
          (repeat (first | refine Rn.seq hc ?_ | refine Rn.skip hc ?_ | refine Rn.block hc ?_ | refine Rn.inBlock hc ?_ | refine Rn.scope hc ?_ | refine Rn.inScope hc ?_))
          refine Rn.exit hc rfl ?_
          (repeat (first | refine Rn.seq hc ?_ | refine Rn.skip hc ?_ | refine Rn.block hc ?_ | refine Rn.inBlock hc ?_ | refine Rn.scope hc ?_ | refine Rn.inScope hc ?_))
          have hMb : Nx M.next M (bump M 17) := Nx.bump (Nx.refl hM.wf _) 17
          exact Rn.fall ⟨rfl,k,xc,_,he1,he2,hM.trans (hMb.le hM.next),red_of hpe hpmin (fun _ hh => heq hh),(ia.nx hMb (Nat.le_refl _)).mono (Nat.le_refl _) hMb.next,la.nx hM.wf hMb,(ir.nx hMb (Nat.le_refl _)).mono (Nat.le_refl _) hMb.next,lr'.nx hM.wf hMb,by simp only [sp_n,hn],by simp only [zAT,ne_eq,Nat.reduceEqDiff,zNf,s1],by simp only [zAT,ne_eq,Nat.reduceEqDiff,zNf,s2],by simp only [zAT,ne_eq,Nat.reduceEqDiff,zNf,s4],by simp only [zAT,ne_eq,Nat.reduceEqDiff,zNf,s5]⟩
    · clear hn s1 s2 s3 s
      rintro s ds M ⟨rfl,e,xc,xr,he1,he2,hM,hred,ia,la,ir,lr',hn,s1,s2,s4,s5⟩
      have l2 : Canon.look M.objs A0.next = _ := (hM.keep _ (by omega)).trans ((hBC.keep _ (by omega)).trans l1)
      have g0 := (hM.cl (show A.next < C.next by omega) 0).trans c0
      obtain ⟨D,c',q1,q2,q3,q4⟩ := zCV (l := [.int .i64 m,.slice xa e xc,.slice xr n n]) (o := 0) l2 rfl (by simp) rfl
      have r0 : cl D A0.next 0 = some (.int .i64 m) := by rw [q2.cl,q4]; rfl
      have r1 : cl D A0.next 1 = some (.slice xa e xc) := by rw [q2.cl,q4]; rfl
      have r2 : cl D A0.next 2 = some (.slice xr n n) := by rw [q2.cl,q4]; rfl
      (repeat (first | refine Rn.seq hc ?_ | refine Rn.skip hc ?_ | refine Rn.block hc ?_ | refine Rn.inBlock hc ?_ | refine Rn.scope hc ?_ | refine Rn.inScope hc ?_))
      refine Rn.reg hc rfl ?_
      simp only [zAY,zAU,zAT,sp_n,zAK,Nat.reduceLT,ne_eq,Nat.reduceEqDiff,zNf,gd,zAX,rops,fx,ld,str,fad,zAR,Nat.zero_add,Nat.add_zero,zOi,zEl,Nat.reduceAdd,tk3,tk24,zBJ,hn,s1,s2,s4,s5,g0,bd24,zBY,q1,List.size_toArray,List.length_cons,List.length_nil,Nat.beq_refl]
      (repeat (first | refine Rn.seq hc ?_ | refine Rn.skip hc ?_ | refine Rn.block hc ?_ | refine Rn.inBlock hc ?_ | refine Rn.scope hc ?_ | refine Rn.inScope hc ?_))
      have hnD := q2.next
      have hoff : ∀ b,C.next ≤ b → Canon.look M.objs b = none ∨ Canon.look D.objs b = Canon.look M.objs b := fun b hb => .inr (q2.off _ (by omega))
      have hCM := hM.next
      refine Rn.ret (endQ_cell rfl (v := .agg #[.int .i64 m,.slice xa e xc,.slice xr n n]) ?_ ⟨e,n,hred,he1,hnn2,⟨by omega,(q2.nx hM.wf (Nat.zero_le _)).wf,fun b hb => ?_⟩,xa,xc,xr,rfl,he2,(ia.ext hoff (by omega)).mono hC0.next (Nat.le_refl _),(ir.ext hoff (by omega)).mono hC0.next (Nat.le_refl _),(la.ext hoff).mono hC0.next,(lr'.ext hoff).mono hC0.next⟩)
      · simp only [zAT,ne_eq,Nat.reduceEqDiff,zNf,ld,zAR,cls,Nat.zero_add,Nat.reduceAdd,tk24,s2,r0,r1,r2]
      · rw [q2.off _ (by omega),hM.keep _ (by omega)]
        exact hC0.keep _ hb
    · intro _ _ _ h
      exact h.elim
end Go.Proofs.Ytdaljohmfnfgiaa

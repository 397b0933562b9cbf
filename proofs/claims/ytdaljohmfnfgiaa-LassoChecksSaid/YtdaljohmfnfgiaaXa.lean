/- Streams, their errors, and small things of them: what the pieces of LassoFinds do. No condition. -/
import Derived.Test.YtdaljohmfnfgiaaCanonFm
import Derived.Test.YtdaljohmfnfgiaaRows
/- What the numbers of the program stand for. No condition. -/
namespace Go.Proofs.Ytdaljohmfnfgiaa
open Go Go.RowKit Go.Proofs.Ytdaljohmfnfgiaa.Canon
noncomputable section
def nocount (P : Program) : Bool := P.funcs.toList.all fun fn => match fn.body with
  | some _ => !(fn.name == "runtime.NumGoroutine")
  | none => true
theorem nocount_ok : nocount Try.prog = true := by kernel_rfl
theorem hc : NoCount Try.prog := by
  intro g fn hf hb
  have h := nocount_ok
  unfold nocount at h
  rw [List.all_eq_true] at h
  have := h fn (by simpa using Array.mem_of_getElem? hf)
  cases hbb : fn.body with
  | none => rw [hbb] at hb; cases hb
  | some c => rw [hbb] at this; simpa using this
theorem hx : Try.prog.follows .mixedOrders = true := by kernel_rfl

theorem tk3 : tk Try.prog 3 = .one := by kernel_rfl
theorem tk22 : tk Try.prog 22 = .one := by kernel_rfl
theorem tk24 : tk Try.prog 24 = .row 3 := by kernel_rfl
theorem tk86 : tk Try.prog 86 = .row 3 := by kernel_rfl
theorem tk88 : tk Try.prog 88 = .row 2 := by kernel_rfl
theorem fo24_0 : fof Try.prog 24 0 = some 0 := by kernel_rfl
theorem fo24_1 : fof Try.prog 24 1 = some 1 := by kernel_rfl
theorem fo24_2 : fof Try.prog 24 2 = some 2 := by kernel_rfl
theorem fo86_0 : fof Try.prog 86 0 = some 0 := by kernel_rfl
theorem un3 : Try.prog.underlying 3 = some (.int .i64) := by kernel_rfl
theorem un22 : Try.prog.underlying 22 = some (.slice 3) := by kernel_rfl
theorem un46 : Try.prog.underlying 46 = some (.slice 24) := by kernel_rfl
theorem eo22 : eof Try.prog 22 = some 1 := by kernel_rfl
theorem eo46 : eof Try.prog 46 = some 3 := by kernel_rfl
theorem el22 : elB Try.prog 22 = some (3, 1, 8) := by kernel_rfl
theorem ze24 : zeroOf Try.prog 24 = some (.agg #[.int .i64 0, .slice none 0 0, .slice none 0 0]) := by kernel_rfl
theorem ze3 : zeroOf Try.prog 3 = some (.int .i64 0) := by kernel_rfl
theorem bo24 : bof Try.prog 24 = .mk (nthR [(0, 1), (1, 1), (2, 1)]) 3 [.int .i64 0, .slice none 0 0, .slice none 0 0] := by kernel_rfl
theorem so22_0 : sof Try.prog 22 0 = .mk (fun k => some (k * 1, 1)) 0 [] := by kernel_rfl
theorem et22 : elemT Try.prog 22 = some 3 := by kernel_rfl
theorem cl_bump (A : AHeap) (k b o : Nat) : cl (bump A k) b o = cl A b o := rfl
theorem bump_next (A : AHeap) (k : Nat) : (bump A k).next = A.next + k := rfl
theorem WF.bump {A : AHeap} (h : WF A) (k : Nat) : WF (bump A k) := fun b x hx => by
  rw [bump_next]
  have := h b x hx
  omega
theorem Nx.bump {n : Nat} {A B : AHeap} (h : Nx n A B) (k : Nat) : Nx n A (bump B k) := ⟨by rw [bump_next]; have := h.next; omega, WF.bump h.wf k, fun b hb => h.keep b hb⟩

theorem endQ_tmp {f : Func} {t : Tmp} (hr : f.results = #[.tmp t]) {Q : Value → AHeap → Prop} {s : Slots} {A : AHeap} (h : Q (sget s t) A) : endQ Try.prog f Q .ret s [] A := by
  refine ⟨sget s t, A, ?_, h⟩
  show VR.of (sresults Try.prog f s A) = _
  unfold sresults
  rw [hr]
  rfl
theorem endQ_two {f : Func} {t u : Tmp} (hr : f.results = #[.tmp t, .tmp u]) {Q : Value → AHeap → Prop} {s : Slots} {A : AHeap} (h : Q (.tuple #[sget s t, sget s u]) A) : endQ Try.prog f Q .ret s [] A := by
  refine ⟨.tuple #[sget s t, sget s u], A, ?_, h⟩
  show VR.of (sresults Try.prog f s A) = _
  have e : sresults Try.prog f s A = some (.tuple #[sget s t, sget s u], A) := by
    rw [sresults_eq]
    have h1 := sget_getD s t
    have h2 := sget_getD s u
    simp only [Array.getD_eq_getD_getElem?] at h1 h2
    simp [results, hr, h1, h2]
  rw [e]
  rfl
end
end Go.Proofs.Ytdaljohmfnfgiaa
/- Elements of streams, and other small things. No condition. -/
namespace Go.Proofs.Ytdaljohmfnfgiaa
open Go Go.RowKit Go.Proofs.Ytdaljohmfnfgiaa.Canon
set_option maxRecDepth 20000


/-- The numbers of a slice. -/
def Ints (A : AHeap) (a : Option Addr) (lo hi : Nat) (l : List Int) : Prop := ∀ i, i < l.length → ∃ b o, a = some ⟨b, o, none⟩ ∧ lo ≤ b ∧ b < hi ∧ cl A b (o + i) = some (.int .i64 (l.getD i 0))
theorem Ints.nx {n : Nat} {A B : AHeap} (h : Nx n A B) {a : Option Addr} {lo hi : Nat} {l : List Int} (hc : Ints A a lo hi l) (hn : hi ≤ n) : Ints B a lo hi l := fun i hi => by
  obtain ⟨b, o, h1, h2, h3, h4⟩ := hc i hi
  exact ⟨b, o, h1, h2, h3, by rw [h.cl (by omega)]; exact h4⟩
theorem Ints.mono {A : AHeap} {a : Option Addr} {lo hi lo' hi' : Nat} {l : List Int} (hc : Ints A a lo hi l) (h1 : lo' ≤ lo) (h2 : hi ≤ hi') : Ints A a lo' hi' l := fun i hi => by
  obtain ⟨b, o, q1, q2, q3, q4⟩ := hc i hi
  exact ⟨b, o, q1, by omega, by omega, q4⟩

/-- An element of a stream. -/
def atL (st ro : List Int) (n : Nat) : Int := if n < st.length then st.getD n 0 else ro.getD ((n - st.length) % ro.length) 0

/-- A new block for what is handed in. -/
theorem box3 {A : AHeap} (hw : WF A) (v0 v1 v2 : Value) (t : TypeId) : ∃ A1, A.push (.cells #[v0, v1, v2] t) = A1 ∧ Nx A.next A A1 ∧ A1.next = A.next + 1 ∧ cl A1 A.next 0 = some v0 ∧ cl A1 A.next 1 = some v1 ∧ cl A1 A.next 2 = some v2 :=
  ⟨_, rfl, (Nx.refl hw _).push (Nat.le_refl _) _, rfl, by rw [cl_push_eq]; rfl, by rw [cl_push_eq]; rfl, by rw [cl_push_eq]; rfl⟩

theorem at_ref {A : AHeap} (hw : WF A) {m : Int} {sa ra : Option Addr} {sc rc : Nat} {st ro : List Int} (hs : Ints A sa 0 A.next st) (hr : Ints A ra 0 A.next ro) (n : Nat) (hst : st.length < 4611686018427387904) (hro : 0 < ro.length) (hro2 : ro.length < 4611686018427387904) (hn : n < 9223372036854775808) :
    Con Try.prog 74 [.agg #[.int .i64 m, .slice sa st.length sc, .slice ra ro.length rc], .int .i64 (n : Int)] A (fun v A1 => v = .int .i64 (atL st ro n) ∧ Nx A.next A A1) := by
  refine con_of_rn hc Try.func74 rfl (Nat.le_of_ble_eq_true rfl) ?_
  obtain ⟨A1, e1, hx1, hn1, b0, b1, b2⟩ := box3 hw (.int .i64 m) (.slice sa st.length sc) (.slice ra ro.length rc) 24
  rw [s_in2]
  (repeat (first | refine Rn.seq hc ?_ | refine Rn.skip hc ?_ | refine Rn.block hc ?_ | refine Rn.inBlock hc ?_ | refine Rn.scope hc ?_ | refine Rn.inScope hc ?_))
  refine Rn.reg hc rfl ?_
  simp only [sev_tmp, sev_const, sg_eq, sg_ne, Nat.reduceLT, ne_eq, Nat.reduceEqDiff, not_false_eq_true, gd, want_free, rops, fx, Option.some.injEq, exists_eq_left', Value.cells, show Try.f74.ntmps = 28 from rfl, e1]
  (repeat (first | refine Rn.seq hc ?_ | refine Rn.skip hc ?_ | refine Rn.block hc ?_ | refine Rn.inBlock hc ?_ | refine Rn.scope hc ?_ | refine Rn.inScope hc ?_))
  by_cases h : n < st.length
  · obtain ⟨b, o, rfl, _, hb, hcl⟩ := hs n h
    have hcl1 : cl A1 b (o + n) = _ := (hx1.cl hb _).trans hcl
    have hd : decide ((n : Int) < (st.length : Int)) = true := by simp; omega
    refine Rn.reg hc rfl ?_
    simp only [sev_tmp, sg_eq, sg_ne, sp_n, Nat.reduceLT, ne_eq, Nat.reduceEqDiff, not_false_eq_true, gd, want_free, rops, fx, ld, fad, lng, bin_lss, adr_p, Nat.zero_add, Option.some.injEq, exists_eq_left', tk22, fo24_1, un22, b1, hd]
    (repeat (first | refine Rn.seq hc ?_ | refine Rn.skip hc ?_ | refine Rn.block hc ?_ | refine Rn.inBlock hc ?_ | refine Rn.scope hc ?_ | refine Rn.inScope hc ?_))
    refine Rn.condE hc rfl ?_
    simp only [sev_tmp, sg_eq, sp_n, Nat.reduceLT, Value.bool.injEq, exists_eq_left']
    (repeat (first | refine Rn.seq hc ?_ | refine Rn.skip hc ?_ | refine Rn.block hc ?_ | refine Rn.inBlock hc ?_ | refine Rn.scope hc ?_ | refine Rn.inScope hc ?_))
    refine Rn.reg hc rfl ?_
    simp only [sev_tmp, sg_eq, sg_ne, sp_n, Nat.reduceLT, ne_eq, Nat.reduceEqDiff, not_false_eq_true, gd, want_free, rops, fx, ld, fad, idx, adr_p, Nat.zero_add, Option.some.injEq, exists_eq_left', Nat.mul_one, tk3, tk22, fo24_1, eo22, b1, nlen_nat h, hcl1]
    (repeat (first | refine Rn.seq hc ?_ | refine Rn.skip hc ?_ | refine Rn.block hc ?_ | refine Rn.inBlock hc ?_ | refine Rn.scope hc ?_ | refine Rn.inScope hc ?_))
    refine Rn.ret (endQ_tmp rfl ⟨?_, hx1⟩)
    simp only [sg_eq, sp_n, Nat.reduceLT]
    unfold atL
    rw [if_pos h]
  · have hd : decide ((n : Int) < (st.length : Int)) = false := by simp; omega
    have hlt : (n - st.length) % ro.length < ro.length := Nat.mod_lt _ hro
    obtain ⟨b, o, rfl, _, hb, hcl⟩ := hr _ hlt
    have hcl1 : cl A1 b (o + (n - st.length) % ro.length) = _ := (hx1.cl hb _).trans hcl
    have hsub : IntKind.i64.wrap ((n : Int) - (st.length : Int)) = ((n - st.length : Nat) : Int) := by rw [IntWalk.i64_in _ (by omega)]; omega
    have hrem : bin Try.prog .rem 3 (.int .i64 ((n - st.length : Nat) : Int)) (.int .i64 (ro.length : Int)) (bump A1 14) = some (.int .i64 (((n - st.length) % ro.length : Nat) : Int), bump A1 14) := by
      rw [bin_rem _ _ _ _ (by omega), IntWalk.rem_in _ _ (by omega)]
      rfl
    refine Rn.reg hc rfl ?_
    simp only [sev_tmp, sg_eq, sg_ne, sp_n, Nat.reduceLT, ne_eq, Nat.reduceEqDiff, not_false_eq_true, gd, want_free, rops, fx, ld, fad, lng, bin_lss, adr_p, Nat.zero_add, Option.some.injEq, exists_eq_left', tk22, fo24_1, un22, b1, hd]
    (repeat (first | refine Rn.seq hc ?_ | refine Rn.skip hc ?_ | refine Rn.block hc ?_ | refine Rn.inBlock hc ?_ | refine Rn.scope hc ?_ | refine Rn.inScope hc ?_))
    refine Rn.condE hc rfl ?_
    simp only [sev_tmp, sg_eq, sp_n, Nat.reduceLT, Value.bool.injEq, exists_eq_left']
    (repeat (first | refine Rn.seq hc ?_ | refine Rn.skip hc ?_ | refine Rn.block hc ?_ | refine Rn.inBlock hc ?_ | refine Rn.scope hc ?_ | refine Rn.inScope hc ?_))
    refine Rn.drawnR hc hx (by kernel_rfl) (by rfl) (by kernel_rfl) ?_ ?_
    · simp only [rdV, VQ.int, VQ.ptr, VQ.slice, cl_bump, sev_tmp, sg_eq, sg_ne, sp_n, Nat.reduceLT, ne_eq, Nat.reduceEqDiff, not_false_eq_true, gd, want_free, fx, ld, fad, idx, lng, bin_sub, adr_p, Nat.zero_add, Nat.reduceAdd, Nat.mul_one, and_self, tk3, tk22, fo24_1, fo24_2, un22, eo22, b1, b2, hsub, hrem, nlen_nat hlt, hcl1, List.length_cons, List.length_nil]
    simp only [cl_bump, sev_tmp, sg_eq, sg_ne, sp_n, Nat.reduceLT, ne_eq, Nat.reduceEqDiff, not_false_eq_true, gd, want_free, rops, fx, ld, fad, idx, lng, bin_sub, adr_p, Nat.zero_add, Option.some.injEq, exists_eq_left', Nat.reduceAdd, Nat.mul_one, tk3, tk22, fo24_1, fo24_2, un22, eo22, b1, b2, hsub, hrem, nlen_nat hlt, hcl1, List.length_cons, List.length_nil]
    (repeat (first | refine Rn.seq hc ?_ | refine Rn.skip hc ?_ | refine Rn.block hc ?_ | refine Rn.inBlock hc ?_ | refine Rn.scope hc ?_ | refine Rn.inScope hc ?_))
    refine Rn.ret (endQ_tmp rfl ⟨?_, Nx.bump hx1 _⟩)
    simp only [sg_eq, sp_n, Nat.reduceLT]
    unfold atL
    rw [if_neg h]
theorem at_stream {A : AHeap} (hw : WF A) {m : Int} {sa ra : Option Addr} {sc rc : Nat} {st ro : List Int} (hs : Ints A sa 0 A.next st) (hr : Ints A ra 0 A.next ro) (n : Nat) (hst : st.length < 4611686018427387904) (hro : 0 < ro.length) (hro2 : ro.length < 4611686018427387904) (hn : n < 9223372036854775808) :
    Con Try.prog 77 [.agg #[.int .i64 m, .slice sa st.length sc, .slice ra ro.length rc], .int .i64 (n : Int)] A (fun v A1 => v = .int .i64 (atL st ro n) ∧ Nx A.next A A1) := by
  refine con_of_rn hc Try.func77 rfl (Nat.le_of_ble_eq_true rfl) ?_
  obtain ⟨A1, e1, hx1, hn1, b0, b1, b2⟩ := box3 hw (.int .i64 m) (.slice sa st.length sc) (.slice ra ro.length rc) 86
  rw [s_in2]
  (repeat (first | refine Rn.seq hc ?_ | refine Rn.skip hc ?_ | refine Rn.block hc ?_ | refine Rn.inBlock hc ?_ | refine Rn.scope hc ?_ | refine Rn.inScope hc ?_))
  refine Rn.reg hc rfl ?_
  simp only [sev_tmp, sev_const, sg_eq, sg_ne, Nat.reduceLT, ne_eq, Nat.reduceEqDiff, not_false_eq_true, gd, want_free, rops, fx, Option.some.injEq, exists_eq_left', Value.cells, show Try.f77.ntmps = 33 from rfl, e1]
  (repeat (first | refine Rn.seq hc ?_ | refine Rn.skip hc ?_ | refine Rn.block hc ?_ | refine Rn.inBlock hc ?_ | refine Rn.scope hc ?_ | refine Rn.inScope hc ?_))
  by_cases h : n < st.length
  · obtain ⟨b, o, rfl, _, hb, hcl⟩ := hs n h
    have hcl1 : cl A1 b (o + n) = _ := (hx1.cl hb _).trans hcl
    have hd : decide ((n : Int) < (st.length : Int)) = true := by simp; omega
    refine Rn.reg hc rfl ?_
    simp only [sev_tmp, sg_eq, sg_ne, sp_n, Nat.reduceLT, ne_eq, Nat.reduceEqDiff, not_false_eq_true, gd, want_free, rops, fx, ld, fad, lng, bin_lss, adr_p, Nat.zero_add, Nat.add_zero, Option.some.injEq, exists_eq_left', tk22, fo24_1, fo86_0, un22, b1, hd]
    (repeat (first | refine Rn.seq hc ?_ | refine Rn.skip hc ?_ | refine Rn.block hc ?_ | refine Rn.inBlock hc ?_ | refine Rn.scope hc ?_ | refine Rn.inScope hc ?_))
    refine Rn.condE hc rfl ?_
    simp only [sev_tmp, sg_eq, sp_n, Nat.reduceLT, Value.bool.injEq, exists_eq_left']
    (repeat (first | refine Rn.seq hc ?_ | refine Rn.skip hc ?_ | refine Rn.block hc ?_ | refine Rn.inBlock hc ?_ | refine Rn.scope hc ?_ | refine Rn.inScope hc ?_))
    refine Rn.reg hc rfl ?_
    simp only [sev_tmp, sg_eq, sg_ne, sp_n, Nat.reduceLT, ne_eq, Nat.reduceEqDiff, not_false_eq_true, gd, want_free, rops, fx, ld, fad, idx, adr_p, Nat.zero_add, Nat.add_zero, Option.some.injEq, exists_eq_left', Nat.mul_one, tk3, tk22, fo24_1, fo86_0, eo22, b1, nlen_nat h, hcl1]
    (repeat (first | refine Rn.seq hc ?_ | refine Rn.skip hc ?_ | refine Rn.block hc ?_ | refine Rn.inBlock hc ?_ | refine Rn.scope hc ?_ | refine Rn.inScope hc ?_))
    refine Rn.ret (endQ_tmp rfl ⟨?_, hx1⟩)
    simp only [sg_eq, sp_n, Nat.reduceLT]
    unfold atL
    rw [if_pos h]
  · have hd : decide ((n : Int) < (st.length : Int)) = false := by simp; omega
    have hlt : (n - st.length) % ro.length < ro.length := Nat.mod_lt _ hro
    obtain ⟨b, o, rfl, _, hb, hcl⟩ := hr _ hlt
    have hcl1 : cl A1 b (o + (n - st.length) % ro.length) = _ := (hx1.cl hb _).trans hcl
    have hsub : IntKind.i64.wrap ((n : Int) - (st.length : Int)) = ((n - st.length : Nat) : Int) := by rw [IntWalk.i64_in _ (by omega)]; omega
    have hrem : bin Try.prog .rem 3 (.int .i64 ((n - st.length : Nat) : Int)) (.int .i64 (ro.length : Int)) (bump A1 17) = some (.int .i64 (((n - st.length) % ro.length : Nat) : Int), bump A1 17) := by
      rw [bin_rem _ _ _ _ (by omega), IntWalk.rem_in _ _ (by omega)]
      rfl
    refine Rn.reg hc rfl ?_
    simp only [sev_tmp, sg_eq, sg_ne, sp_n, Nat.reduceLT, ne_eq, Nat.reduceEqDiff, not_false_eq_true, gd, want_free, rops, fx, ld, fad, lng, bin_lss, adr_p, Nat.zero_add, Nat.add_zero, Option.some.injEq, exists_eq_left', tk22, fo24_1, fo86_0, un22, b1, hd]
    (repeat (first | refine Rn.seq hc ?_ | refine Rn.skip hc ?_ | refine Rn.block hc ?_ | refine Rn.inBlock hc ?_ | refine Rn.scope hc ?_ | refine Rn.inScope hc ?_))
    refine Rn.condE hc rfl ?_
    simp only [sev_tmp, sg_eq, sp_n, Nat.reduceLT, Value.bool.injEq, exists_eq_left']
    (repeat (first | refine Rn.seq hc ?_ | refine Rn.skip hc ?_ | refine Rn.block hc ?_ | refine Rn.inBlock hc ?_ | refine Rn.scope hc ?_ | refine Rn.inScope hc ?_))
    refine Rn.drawnR hc hx (by kernel_rfl) (by rfl) (by kernel_rfl) ?_ ?_
    · simp only [rdV, VQ.int, VQ.ptr, VQ.slice, cl_bump, sev_tmp, sg_eq, sg_ne, sp_n, Nat.reduceLT, ne_eq, Nat.reduceEqDiff, not_false_eq_true, gd, want_free, fx, ld, fad, idx, lng, bin_sub, adr_p, Nat.zero_add, Nat.add_zero, Nat.reduceAdd, Nat.mul_one, and_self, tk3, tk22, fo24_1, fo24_2, fo86_0, un22, eo22, b1, b2, hsub, hrem, nlen_nat hlt, hcl1, List.length_cons, List.length_nil]
    simp only [cl_bump, sev_tmp, sg_eq, sg_ne, sp_n, Nat.reduceLT, ne_eq, Nat.reduceEqDiff, not_false_eq_true, gd, want_free, rops, fx, ld, fad, idx, lng, bin_sub, adr_p, Nat.zero_add, Nat.add_zero, Option.some.injEq, exists_eq_left', Nat.reduceAdd, Nat.mul_one, tk3, tk22, fo24_1, fo24_2, fo86_0, un22, eo22, b1, b2, hsub, hrem, nlen_nat hlt, hcl1, List.length_cons, List.length_nil]
    (repeat (first | refine Rn.seq hc ?_ | refine Rn.skip hc ?_ | refine Rn.block hc ?_ | refine Rn.inBlock hc ?_ | refine Rn.scope hc ?_ | refine Rn.inScope hc ?_))
    refine Rn.ret (endQ_tmp rfl ⟨?_, Nx.bump hx1 _⟩)
    simp only [sg_eq, sp_n, Nat.reduceLT]
    unfold atL
    rw [if_neg h]

/-- What tells whether a number is below another one. -/
theorem within {A : AHeap} (hw : WF A) (n : Int) : Con Try.prog 75 [.int .i64 n] A (fun v A1 => v = .func (.func 105) #[] #[.pointer (some ⟨A.next, 0, none⟩)] ∧ cl A1 A.next 0 = some (.int .i64 n) ∧ Nx A.next A A1 ∧ A1.next = A.next + 1) := by
  refine con_of_rn hc Try.func75 rfl (Nat.le_of_ble_eq_true rfl) ?_
  rw [s_in1]
  (repeat (first | refine Rn.seq hc ?_ | refine Rn.skip hc ?_ | refine Rn.block hc ?_ | refine Rn.inBlock hc ?_ | refine Rn.scope hc ?_ | refine Rn.inScope hc ?_))
  refine Rn.reg hc rfl ?_
  simp only [sev_tmp, sev_const, sg_eq, Nat.reduceLT, gd, want_free, rops, fx, Option.some.injEq, exists_eq_left', Value.cells, show Try.f75.ntmps = 4 from rfl]
  (repeat (first | refine Rn.seq hc ?_ | refine Rn.skip hc ?_ | refine Rn.block hc ?_ | refine Rn.inBlock hc ?_ | refine Rn.scope hc ?_ | refine Rn.inScope hc ?_))
  refine Rn.reg hc rfl ?_
  simp only [sev_tmp, sg_eq, sg_ne, sp_n, Nat.reduceLT, ne_eq, Nat.reduceEqDiff, not_false_eq_true, gd, want_free, rops, fx, Option.some.injEq, exists_eq_left', ae_mkfunc1]
  (repeat (first | refine Rn.seq hc ?_ | refine Rn.skip hc ?_ | refine Rn.block hc ?_ | refine Rn.inBlock hc ?_ | refine Rn.scope hc ?_ | refine Rn.inScope hc ?_))
  refine Rn.ret (endQ_tmp rfl ⟨?_, ?_, (Nx.refl hw _).push (Nat.le_refl _) _, rfl⟩)
  · simp only [sg_eq, sp_n, Nat.reduceLT]
  · rw [cl_push_eq]; rfl
/-- A number is one of those below another one. -/
def inB (n x : Int) : Bool := decide (0 ≤ x) && decide (x < n)
theorem within1 {A : AHeap} {b : Nat} {n : Int} (hb : cl A b 0 = some (.int .i64 n)) (x : Int) : Con Try.prog 105 [.int .i64 x, .pointer (some ⟨b, 0, none⟩)] A (fun v A1 => v = .bool (inB n x) ∧ A1 = A) := by
  refine con_of_rn hc Try.func105 rfl (Nat.le_of_ble_eq_true rfl) ?_
  rw [s_in2]
  (repeat (first | refine Rn.seq hc ?_ | refine Rn.skip hc ?_ | refine Rn.block hc ?_ | refine Rn.inBlock hc ?_ | refine Rn.scope hc ?_ | refine Rn.inScope hc ?_))
  refine Rn.reg hc rfl ?_
  simp only [sev_const, gd, want_free, rops, fx, Option.some.injEq, exists_eq_left', show Try.f105.ntmps = 11 from rfl]
  (repeat (first | refine Rn.seq hc ?_ | refine Rn.skip hc ?_ | refine Rn.block hc ?_ | refine Rn.inBlock hc ?_ | refine Rn.scope hc ?_ | refine Rn.inScope hc ?_))
  cases h1 : decide (0 ≤ x) with
  | true =>
    refine Rn.reg hc rfl ?_
    simp only [sev_tmp, sev_const, sg_eq, sg_ne, sp_n, Nat.reduceLT, ne_eq, Nat.reduceEqDiff, not_false_eq_true, gd, nth, want_free, want_slot, beqB, rops, fx, ld, pck, bin_lss, bin_geq, adr_p, Option.some.injEq, exists_eq_left', tk3, h1, hb]
    (repeat (first | refine Rn.seq hc ?_ | refine Rn.skip hc ?_ | refine Rn.block hc ?_ | refine Rn.inBlock hc ?_ | refine Rn.scope hc ?_ | refine Rn.inScope hc ?_))
    refine Rn.ret (endQ_tmp rfl ⟨?_, rfl⟩)
    simp only [sg_eq, sp_n, Nat.reduceLT]
    simp [inB, h1]
  | false =>
    refine Rn.reg hc rfl ?_
    simp only [sev_tmp, sev_const, sg_eq, sg_ne, sp_n, Nat.reduceLT, ne_eq, Nat.reduceEqDiff, not_false_eq_true, gd, nth, want_free, want_slot, beqB, rops, fx, pck, bin_geq, Option.some.injEq, exists_eq_left', h1]
    (repeat (first | refine Rn.seq hc ?_ | refine Rn.skip hc ?_ | refine Rn.block hc ?_ | refine Rn.inBlock hc ?_ | refine Rn.scope hc ?_ | refine Rn.inScope hc ?_))
    refine Rn.ret (endQ_tmp rfl ⟨?_, rfl⟩)
    simp only [sg_eq, sp_n, Nat.reduceLT]
    simp [inB, h1]
end Go.Proofs.Ytdaljohmfnfgiaa
/- Lists of numbers: whether all are below a number, whether two are the same. No condition. -/
namespace Go.Proofs.Ytdaljohmfnfgiaa
open Go Go.RowKit Go.Proofs.Ytdaljohmfnfgiaa.Canon
set_option maxRecDepth 20000


theorem all_take {α : Type} (p : α → Bool) (l : List α) (d : α) {i : Nat} (h : i < l.length) : (l.take (i + 1)).all p = ((l.take i).all p && p (l.getD i d)) := by
  rw [List.take_add_one, List.all_append]
  simp [List.getD_eq_getElem?_getD, h]
theorem all_not {α : Type} (p : α → Bool) (l : List α) (d : α) {i : Nat} (h : i < l.length) (hp : p (l.getD i d) = false) : l.all p = false := by
  rw [List.all_eq_false]
  refine ⟨l[i], List.getElem_mem h, ?_⟩
  rw [List.getD_eq_getElem?_getD, List.getElem?_eq_getElem h] at hp
  simp at hp
  simp [hp]

theorem every_int {A : AHeap} {a : Option Addr} {c : Nat} {l : List Int} (hl : Ints A a 0 A.next l) (hlen : l.length < 4611686018427387904) {b : Nat} {n : Int} (hb : cl A b 0 = some (.int .i64 n)) :
    Con Try.prog 76 [.slice a l.length c, .func (.func 105) #[] #[.pointer (some ⟨b, 0, none⟩)]] A (fun v A1 => v = .bool (l.all (inB n)) ∧ A1 = A) := by
  refine con_of_rn hc Try.func76 rfl (Nat.le_of_ble_eq_true rfl) ?_
  rw [s_in2]
  (repeat (first | refine Rn.seq hc ?_ | refine Rn.skip hc ?_ | refine Rn.block hc ?_ | refine Rn.inBlock hc ?_ | refine Rn.scope hc ?_ | refine Rn.inScope hc ?_))
  refine Rn.reg hc rfl ?_
  simp only [sev_const, gd, want_free, rops, fx, Option.some.injEq, exists_eq_left', show Try.f76.ntmps = 18 from rfl]
  (repeat (first | refine Rn.seq hc ?_ | refine Rn.skip hc ?_ | refine Rn.block hc ?_ | refine Rn.inBlock hc ?_ | refine Rn.scope hc ?_ | refine Rn.inScope hc ?_))
  refine Rn.reg hc rfl ?_
  simp only [sev_tmp, sev_const, sg_eq, sg_ne, sp_n, Nat.reduceLT, ne_eq, Nat.reduceEqDiff, not_false_eq_true, gd, want_free, rops, fx, lng, Option.some.injEq, exists_eq_left', un22]
  (repeat (first | refine Rn.seq hc ?_ | refine Rn.skip hc ?_ | refine Rn.block hc ?_ | refine Rn.inBlock hc ?_ | refine Rn.scope hc ?_ | refine Rn.inScope hc ?_))
  refine Rn.loopI hc (I := fun k s A' => ∃ i, i ≤ l.length ∧ k = l.length - i ∧ A' = A ∧ s.n = 18 ∧ sget s 1 = .func (.func 105) #[] #[.pointer (some ⟨b, 0, none⟩)] ∧ sget s 7 = .slice a l.length c ∧ sget s 8 = .int .i64 (l.length : Int) ∧ sget s 9 = .int .i64 (i : Int) ∧ (l.take i).all (inB n) = true)
    (n := l.length) ⟨0, by omega, rfl, rfl, by simp only [sp_n], by simp only [sg_eq, sg_ne, sp_n, Nat.reduceLT, ne_eq, Nat.reduceEqDiff, not_false_eq_true], by simp only [sg_eq, sg_ne, sp_n, Nat.reduceLT, ne_eq, Nat.reduceEqDiff, not_false_eq_true], by simp only [sg_eq, sg_ne, sp_n, Nat.reduceLT, ne_eq, Nat.reduceEqDiff, not_false_eq_true], by simp only [sg_eq, sp_n, Nat.reduceLT]; rfl, rfl⟩ ?_
  rintro k s A' ⟨i, hi, rfl, rfl, hn, h1, h7, h8, h9, hall⟩ ih
  (repeat (first | refine Rn.seq hc ?_ | refine Rn.skip hc ?_ | refine Rn.block hc ?_ | refine Rn.inBlock hc ?_ | refine Rn.scope hc ?_ | refine Rn.inScope hc ?_))
  by_cases hlt : i < l.length
  · have hd : decide ((i : Int) < (l.length : Int)) = true := by simp; omega
    obtain ⟨bb, o, rfl, _, _, hcl⟩ := hl i hlt
    refine Rn.reg hc rfl ?_
    simp only [sev_tmp, gd, want_free, rops, fx, bin_lss, Option.some.injEq, exists_eq_left', h8, h9, hd]
    (repeat (first | refine Rn.seq hc ?_ | refine Rn.skip hc ?_ | refine Rn.block hc ?_ | refine Rn.inBlock hc ?_ | refine Rn.scope hc ?_ | refine Rn.inScope hc ?_))
    refine Rn.condE hc rfl ?_
    simp only [sev_tmp, sg_eq, Nat.reduceLT, Value.bool.injEq, exists_eq_left', hn]
    (repeat (first | refine Rn.seq hc ?_ | refine Rn.skip hc ?_ | refine Rn.block hc ?_ | refine Rn.inBlock hc ?_ | refine Rn.scope hc ?_ | refine Rn.inScope hc ?_))
    refine Rn.reg hc rfl ?_
    simp only [sev_tmp, sg_eq, sg_ne, sp_n, Nat.reduceLT, ne_eq, Nat.reduceEqDiff, not_false_eq_true, gd, want_free, rops, fx, ld, idx, adr_p, Option.some.injEq, exists_eq_left', Nat.mul_one, tk3, eo22, hn, h7, h9, nlen_nat hlt, hcl]
    (repeat (first | refine Rn.seq hc ?_ | refine Rn.skip hc ?_ | refine Rn.block hc ?_ | refine Rn.inBlock hc ?_ | refine Rn.scope hc ?_ | refine Rn.inScope hc ?_))
    refine Rn.region hc fun K hK => ?_
    refine Wo.run hc 2 rfl rfl rfl ?_
    simp only [List.drop_zero, List.take_succ_cons, List.take_zero, sev_tmp, sg_eq, sg_ne, sp_n, Nat.reduceLT, ne_eq, Nat.reduceEqDiff, not_false_eq_true, gd, want_free, rops, fx, Nat.zero_add, Option.some.injEq, exists_eq_left', hn, h1]
    refine Wo.call hc (by rfl) (by rfl) ⟨by rfl, by rfl⟩ (xs := [.int .i64 (l.getD i 0), .pointer (some ⟨b, 0, none⟩)]) (by first | rfl | (simp only [sev_tmp, sev_const, sev_func, sg_eq, sg_ne, sp_n, sp_none, Nat.reduceLT, ne_eq, Nat.reduceEqDiff, not_false_eq_true, gd, nth, want_free, want_slot, beqB, List.map_cons, List.map_nil, Array.toList_empty, List.nil_append, List.append_nil, List.cons_append, hn, h1]; done) | (simp only [sev_tmp, sev_const, sev_func, sg_eq, sg_ne, sp_n, sp_none, Nat.reduceLT, ne_eq, Nat.reduceEqDiff, not_false_eq_true, gd, nth, want_free, want_slot, beqB, List.map_cons, List.map_nil, Array.toList_empty, List.nil_append, List.append_nil, List.cons_append, hn, h1]; rfl)) (by first | rfl | (simp only [sev_tmp, sg_eq, sg_ne, sp_n, Nat.reduceLT, ne_eq, Nat.reduceEqDiff, not_false_eq_true, hn]; done) | (simp only [sev_tmp, sg_eq, sg_ne, sp_n, Nat.reduceLT, ne_eq, Nat.reduceEqDiff, not_false_eq_true, hn]; rfl)) (by first | rfl | (simp only [sev_tmp, sg_eq, sp_n, Nat.reduceLT, List.map_cons, List.map_nil, List.nil_append, List.cons_append, hn]; done) | (simp only [sev_tmp, sev_const, sev_func, sg_eq, sg_ne, sp_n, sp_none, Nat.reduceLT, ne_eq, Nat.reduceEqDiff, not_false_eq_true, gd, nth, want_free, want_slot, beqB, List.map_cons, List.map_nil, Array.toList_empty, List.nil_append, List.append_nil, List.cons_append, hn, h1]; rfl)) (Con.mono (within1 hb _) ?_)
    rintro v A1 ⟨rfl, rfl⟩
    refine Wo.run hc 1 rfl rfl rfl ?_
    simp only [List.drop_zero, List.drop_succ_cons, List.take_succ_cons, List.take_zero, sev_tmp, sg_eq, sp_n, Nat.reduceLT, gd, want_free, rops, fx, Option.some.injEq, exists_eq_left', Nat.reduceAdd, ae_not', hn]
    refine Wo.done hc rfl (hK _ _ ?_)
    (repeat (first | refine Rn.seq hc ?_ | refine Rn.skip hc ?_ | refine Rn.block hc ?_ | refine Rn.inBlock hc ?_ | refine Rn.scope hc ?_ | refine Rn.inScope hc ?_))
    cases hv : inB n (l.getD i 0) with
    | true =>
      refine Rn.condE hc rfl ?_
      simp only [sev_tmp, sg_eq, sp_n, Nat.reduceLT, Value.bool.injEq, exists_eq_left', hn, Bool.not_true]
      (repeat (first | refine Rn.seq hc ?_ | refine Rn.skip hc ?_ | refine Rn.block hc ?_ | refine Rn.inBlock hc ?_ | refine Rn.scope hc ?_ | refine Rn.inScope hc ?_))
      refine Rn.reg hc rfl ?_
      simp only [sev_tmp, sev_const, sg_eq, sg_ne, sp_n, Nat.reduceLT, ne_eq, Nat.reduceEqDiff, not_false_eq_true, gd, want_free, rops, fx, bin_add, Option.some.injEq, exists_eq_left', hn, h9, wrap_succ (show i < 9223372036854775807 by omega)]
      (repeat (first | refine Rn.seq hc ?_ | refine Rn.skip hc ?_ | refine Rn.block hc ?_ | refine Rn.inBlock hc ?_ | refine Rn.scope hc ?_ | refine Rn.inScope hc ?_))
      exact ih _ _ _ (by omega) ⟨i + 1, by omega, rfl, rfl, by simp only [sp_n, hn], by simp only [sg_ne, ne_eq, Nat.reduceEqDiff, not_false_eq_true, h1], by simp only [sg_ne, ne_eq, Nat.reduceEqDiff, not_false_eq_true, h7], by simp only [sg_ne, ne_eq, Nat.reduceEqDiff, not_false_eq_true, h8], by simp only [sg_eq, sp_n, Nat.reduceLT, hn], by rw [all_take _ _ 0 hlt, hall, hv]; rfl⟩
    | false =>
      refine Rn.condE hc rfl ?_
      simp only [sev_tmp, sg_eq, sp_n, Nat.reduceLT, Value.bool.injEq, exists_eq_left', hn, Bool.not_false]
      (repeat (first | refine Rn.seq hc ?_ | refine Rn.skip hc ?_ | refine Rn.block hc ?_ | refine Rn.inBlock hc ?_ | refine Rn.scope hc ?_ | refine Rn.inScope hc ?_))
      refine Rn.reg hc rfl ?_
      simp only [sev_const, gd, want_free, rops, fx, Option.some.injEq, exists_eq_left']
      (repeat (first | refine Rn.seq hc ?_ | refine Rn.skip hc ?_ | refine Rn.block hc ?_ | refine Rn.inBlock hc ?_ | refine Rn.scope hc ?_ | refine Rn.inScope hc ?_))
      refine Rn.ret (endQ_tmp rfl ⟨?_, rfl⟩)
      simp only [sg_eq, sp_n, Nat.reduceLT, hn]
      rw [all_not _ _ 0 hlt hv]
  · have hd : decide ((i : Int) < (l.length : Int)) = false := by simp; omega
    have hil : i = l.length := by omega
    subst hil
    refine Rn.reg hc rfl ?_
    simp only [sev_tmp, gd, want_free, rops, fx, bin_lss, Option.some.injEq, exists_eq_left', h8, h9, hd]
    (repeat (first | refine Rn.seq hc ?_ | refine Rn.skip hc ?_ | refine Rn.block hc ?_ | refine Rn.inBlock hc ?_ | refine Rn.scope hc ?_ | refine Rn.inScope hc ?_))
    refine Rn.condE hc rfl ?_
    simp only [sev_tmp, sg_eq, Nat.reduceLT, Value.bool.injEq, exists_eq_left', hn]
    (repeat (first | refine Rn.seq hc ?_ | refine Rn.skip hc ?_ | refine Rn.block hc ?_ | refine Rn.inBlock hc ?_ | refine Rn.scope hc ?_ | refine Rn.inScope hc ?_))
    refine Rn.exit hc rfl ?_
    (repeat (first | refine Rn.seq hc ?_ | refine Rn.skip hc ?_ | refine Rn.block hc ?_ | refine Rn.inBlock hc ?_ | refine Rn.scope hc ?_ | refine Rn.inScope hc ?_))
    refine Rn.reg hc rfl ?_
    simp only [sev_const, gd, want_free, rops, fx, Option.some.injEq, exists_eq_left']
    (repeat (first | refine Rn.seq hc ?_ | refine Rn.skip hc ?_ | refine Rn.block hc ?_ | refine Rn.inBlock hc ?_ | refine Rn.scope hc ?_ | refine Rn.inScope hc ?_))
    refine Rn.ret (endQ_tmp rfl ⟨?_, rfl⟩)
    simp only [sg_eq, sp_n, Nat.reduceLT, hn]
    rw [List.take_length] at hall
    rw [hall]
end Go.Proofs.Ytdaljohmfnfgiaa
/- Whether lists, and streams, are the same. No condition. -/
namespace Go.Proofs.Ytdaljohmfnfgiaa
open Go Go.RowKit Go.Proofs.Ytdaljohmfnfgiaa.Canon
set_option maxRecDepth 20000


theorem take_eq_succ {l m : List Int} {i : Nat} (h : l.take i = m.take i) (h1 : i < l.length) (h2 : i < m.length) (he : l.getD i 0 = m.getD i 0) : l.take (i + 1) = m.take (i + 1) := by
  rw [List.take_add_one, List.take_add_one, h]
  rw [List.getD_eq_getElem?_getD, List.getD_eq_getElem?_getD, List.getElem?_eq_getElem h1, List.getElem?_eq_getElem h2] at he
  rw [List.getElem?_eq_getElem h1, List.getElem?_eq_getElem h2]
  simp at he
  rw [he]

theorem equal_ints {A : AHeap} (hw : WF A) {a b : Option Addr} {c d : Nat} {l m : List Int} (hl : Ints A a 0 A.next l) (hm : Ints A b 0 A.next m) (hlen : l.length < 4611686018427387904) (hlen2 : m.length < 4611686018427387904) :
    Con Try.prog 80 [.slice a l.length c, .slice b m.length d] A (fun v A1 => v = .bool (decide (l = m)) ∧ Nx A.next A A1) := by
  refine con_of_rn hc Try.func80 rfl (Nat.le_of_ble_eq_true rfl) ?_
  rw [s_in2]
  (repeat (first | refine Rn.seq hc ?_ | refine Rn.skip hc ?_ | refine Rn.block hc ?_ | refine Rn.inBlock hc ?_ | refine Rn.scope hc ?_ | refine Rn.inScope hc ?_))
  refine Rn.reg hc rfl ?_
  simp only [sev_const, gd, want_free, rops, fx, Option.some.injEq, exists_eq_left', show Try.f80.ntmps = 26 from rfl]
  (repeat (first | refine Rn.seq hc ?_ | refine Rn.skip hc ?_ | refine Rn.block hc ?_ | refine Rn.inBlock hc ?_ | refine Rn.scope hc ?_ | refine Rn.inScope hc ?_))
  refine Rn.reg hc rfl ?_
  simp only [sev_tmp, sg_eq, sg_ne, sp_n, Nat.reduceLT, ne_eq, Nat.reduceEqDiff, not_false_eq_true, gd, want_free, rops, fx, lng, bin_neq, Option.some.injEq, exists_eq_left', un22]
  (repeat (first | refine Rn.seq hc ?_ | refine Rn.skip hc ?_ | refine Rn.block hc ?_ | refine Rn.inBlock hc ?_ | refine Rn.scope hc ?_ | refine Rn.inScope hc ?_))
  by_cases hne : l.length = m.length
  · have hd : (!decide ((l.length : Int) = (m.length : Int))) = false := by simp; omega
    refine Rn.condE hc rfl ?_
    simp only [sev_tmp, sg_eq, sp_n, Nat.reduceLT, Value.bool.injEq, exists_eq_left', hd]
    (repeat (first | refine Rn.seq hc ?_ | refine Rn.skip hc ?_ | refine Rn.block hc ?_ | refine Rn.inBlock hc ?_ | refine Rn.scope hc ?_ | refine Rn.inScope hc ?_))
    refine Rn.reg hc rfl ?_
    simp only [sev_tmp, sev_const, sg_eq, sg_ne, sp_n, Nat.reduceLT, ne_eq, Nat.reduceEqDiff, not_false_eq_true, gd, want_free, rops, fx, lng, Option.some.injEq, exists_eq_left', un22]
    (repeat (first | refine Rn.seq hc ?_ | refine Rn.skip hc ?_ | refine Rn.block hc ?_ | refine Rn.inBlock hc ?_ | refine Rn.scope hc ?_ | refine Rn.inScope hc ?_))
    refine Rn.loopI hc (I := fun k s A' => ∃ i, i ≤ l.length ∧ k = l.length - i ∧ Nx A.next A A' ∧ s.n = 26 ∧ sget s 0 = .slice a l.length c ∧ sget s 1 = .slice b m.length d ∧ sget s 12 = .int .i64 (l.length : Int) ∧ sget s 13 = .int .i64 (i : Int) ∧ l.take i = m.take i)
      (n := l.length) ⟨0, by omega, rfl, Nx.refl hw _, by simp only [sp_n], by simp only [sg_eq, sg_ne, Nat.reduceLT, ne_eq, Nat.reduceEqDiff, not_false_eq_true], by simp only [sg_eq, sg_ne, sp_n, Nat.reduceLT, ne_eq, Nat.reduceEqDiff, not_false_eq_true], by simp only [sg_eq, sg_ne, sp_n, Nat.reduceLT, ne_eq, Nat.reduceEqDiff, not_false_eq_true], by simp only [sg_eq, sp_n, Nat.reduceLT]; rfl, rfl⟩ ?_
    rintro k s A' ⟨i, hi, rfl, hA, hn, h0, h1, h12, h13, hall⟩ ih
    (repeat (first | refine Rn.seq hc ?_ | refine Rn.skip hc ?_ | refine Rn.block hc ?_ | refine Rn.inBlock hc ?_ | refine Rn.scope hc ?_ | refine Rn.inScope hc ?_))
    by_cases hlt : i < l.length
    · have hd2 : decide ((i : Int) < (l.length : Int)) = true := by simp; omega
      obtain ⟨bb, o, rfl, _, hbb, hcl⟩ := (hl.nx hA (Nat.le_refl _)) i hlt
      obtain ⟨b2, o2, rfl, _, hb2, hcl2⟩ := (hm.nx hA (Nat.le_refl _)) i (by omega)
      refine Rn.reg hc rfl ?_
      simp only [sev_tmp, gd, want_free, rops, fx, bin_lss, Option.some.injEq, exists_eq_left', h12, h13, hd2]
      (repeat (first | refine Rn.seq hc ?_ | refine Rn.skip hc ?_ | refine Rn.block hc ?_ | refine Rn.inBlock hc ?_ | refine Rn.scope hc ?_ | refine Rn.inScope hc ?_))
      refine Rn.condE hc rfl ?_
      simp only [sev_tmp, sg_eq, Nat.reduceLT, Value.bool.injEq, exists_eq_left', hn]
      (repeat (first | refine Rn.seq hc ?_ | refine Rn.skip hc ?_ | refine Rn.block hc ?_ | refine Rn.inBlock hc ?_ | refine Rn.scope hc ?_ | refine Rn.inScope hc ?_))
      refine Rn.reg hc rfl ?_
      simp only [sev_tmp, sg_eq, sg_ne, sp_n, Nat.reduceLT, ne_eq, Nat.reduceEqDiff, not_false_eq_true, gd, want_free, rops, fx, Option.some.injEq, exists_eq_left', hn, h13]
      (repeat (first | refine Rn.seq hc ?_ | refine Rn.skip hc ?_ | refine Rn.block hc ?_ | refine Rn.inBlock hc ?_ | refine Rn.scope hc ?_ | refine Rn.inScope hc ?_))
      by_cases hv : l.getD i 0 = m.getD i 0
      · have hd3 : (!decide (l.getD i 0 = m.getD i 0)) = false := by rw [decide_eq_true hv]; rfl
        refine Rn.drawnR hc hx (by kernel_rfl) (by rfl) (by kernel_rfl) ?_ ?_
        · simp only [rdV, VQ.int, VQ.bool, VQ.ptr, VQ.slice, cl_bump, sev_tmp, sg_eq, sg_ne, sp_n, Nat.reduceLT, ne_eq, Nat.reduceEqDiff, not_false_eq_true, gd, want_free, fx, ld, idx, bin_neq, adr_p, Nat.zero_add, Nat.reduceAdd, Nat.mul_one, and_self, tk3, eo22, hn, h0, h1, nlen_nat hlt, nlen_nat (show i < m.length by omega), hcl, hcl2, hd3, List.length_cons, List.length_nil]
        simp only [cl_bump, sev_tmp, sg_eq, sg_ne, sp_n, Nat.reduceLT, ne_eq, Nat.reduceEqDiff, not_false_eq_true, gd, want_free, rops, fx, ld, idx, bin_neq, adr_p, Nat.zero_add, Option.some.injEq, exists_eq_left', Nat.reduceAdd, Nat.mul_one, tk3, eo22, hn, h0, h1, nlen_nat hlt, nlen_nat (show i < m.length by omega), hcl, hcl2, hd3, List.length_cons, List.length_nil]
        (repeat (first | refine Rn.seq hc ?_ | refine Rn.skip hc ?_ | refine Rn.block hc ?_ | refine Rn.inBlock hc ?_ | refine Rn.scope hc ?_ | refine Rn.inScope hc ?_))
        refine Rn.condE hc rfl ?_
        simp only [sev_tmp, sg_eq, sp_n, Nat.reduceLT, Value.bool.injEq, exists_eq_left', hn]
        (repeat (first | refine Rn.seq hc ?_ | refine Rn.skip hc ?_ | refine Rn.block hc ?_ | refine Rn.inBlock hc ?_ | refine Rn.scope hc ?_ | refine Rn.inScope hc ?_))
        refine Rn.reg hc rfl ?_
        simp only [sev_tmp, sev_const, sg_eq, sg_ne, sp_n, Nat.reduceLT, ne_eq, Nat.reduceEqDiff, not_false_eq_true, gd, want_free, rops, fx, bin_add, Option.some.injEq, exists_eq_left', hn, h13, wrap_succ (show i < 9223372036854775807 by omega)]
        (repeat (first | refine Rn.seq hc ?_ | refine Rn.skip hc ?_ | refine Rn.block hc ?_ | refine Rn.inBlock hc ?_ | refine Rn.scope hc ?_ | refine Rn.inScope hc ?_))
        exact ih _ _ _ (by omega) ⟨i + 1, by omega, rfl, Nx.bump hA _, by simp only [sp_n, hn], by simp only [sg_ne, ne_eq, Nat.reduceEqDiff, not_false_eq_true, h0], by simp only [sg_ne, ne_eq, Nat.reduceEqDiff, not_false_eq_true, h1], by simp only [sg_ne, ne_eq, Nat.reduceEqDiff, not_false_eq_true, h12], by simp only [sg_eq, sp_n, Nat.reduceLT, hn], take_eq_succ hall hlt (by omega) hv⟩
      · have hd3 : (!decide (l.getD i 0 = m.getD i 0)) = true := by rw [decide_eq_false hv]; rfl
        refine Rn.drawnR hc hx (by kernel_rfl) (by rfl) (by kernel_rfl) ?_ ?_
        · simp only [rdV, VQ.int, VQ.bool, VQ.ptr, VQ.slice, cl_bump, sev_tmp, sg_eq, sg_ne, sp_n, Nat.reduceLT, ne_eq, Nat.reduceEqDiff, not_false_eq_true, gd, want_free, fx, ld, idx, bin_neq, adr_p, Nat.zero_add, Nat.reduceAdd, Nat.mul_one, and_self, tk3, eo22, hn, h0, h1, nlen_nat hlt, nlen_nat (show i < m.length by omega), hcl, hcl2, hd3, List.length_cons, List.length_nil]
        simp only [cl_bump, sev_tmp, sg_eq, sg_ne, sp_n, Nat.reduceLT, ne_eq, Nat.reduceEqDiff, not_false_eq_true, gd, want_free, rops, fx, ld, idx, bin_neq, adr_p, Nat.zero_add, Option.some.injEq, exists_eq_left', Nat.reduceAdd, Nat.mul_one, tk3, eo22, hn, h0, h1, nlen_nat hlt, nlen_nat (show i < m.length by omega), hcl, hcl2, hd3, List.length_cons, List.length_nil]
        (repeat (first | refine Rn.seq hc ?_ | refine Rn.skip hc ?_ | refine Rn.block hc ?_ | refine Rn.inBlock hc ?_ | refine Rn.scope hc ?_ | refine Rn.inScope hc ?_))
        refine Rn.condE hc rfl ?_
        simp only [sev_tmp, sg_eq, sp_n, Nat.reduceLT, Value.bool.injEq, exists_eq_left', hn]
        (repeat (first | refine Rn.seq hc ?_ | refine Rn.skip hc ?_ | refine Rn.block hc ?_ | refine Rn.inBlock hc ?_ | refine Rn.scope hc ?_ | refine Rn.inScope hc ?_))
        refine Rn.reg hc rfl ?_
        simp only [sev_const, gd, want_free, rops, fx, Option.some.injEq, exists_eq_left']
        (repeat (first | refine Rn.seq hc ?_ | refine Rn.skip hc ?_ | refine Rn.block hc ?_ | refine Rn.inBlock hc ?_ | refine Rn.scope hc ?_ | refine Rn.inScope hc ?_))
        refine Rn.ret (endQ_tmp rfl ⟨?_, Nx.bump hA _⟩)
        simp only [sg_eq, sp_n, Nat.reduceLT, hn]
        have : l ≠ m := fun h => hv (by rw [h])
        simp [this]
    · have hd2 : decide ((i : Int) < (l.length : Int)) = false := by simp; omega
      have hil : i = l.length := by omega
      subst hil
      refine Rn.reg hc rfl ?_
      simp only [sev_tmp, gd, want_free, rops, fx, bin_lss, Option.some.injEq, exists_eq_left', h12, h13, hd2]
      (repeat (first | refine Rn.seq hc ?_ | refine Rn.skip hc ?_ | refine Rn.block hc ?_ | refine Rn.inBlock hc ?_ | refine Rn.scope hc ?_ | refine Rn.inScope hc ?_))
      refine Rn.condE hc rfl ?_
      simp only [sev_tmp, sg_eq, Nat.reduceLT, Value.bool.injEq, exists_eq_left', hn]
      (repeat (first | refine Rn.seq hc ?_ | refine Rn.skip hc ?_ | refine Rn.block hc ?_ | refine Rn.inBlock hc ?_ | refine Rn.scope hc ?_ | refine Rn.inScope hc ?_))
      refine Rn.exit hc rfl ?_
      (repeat (first | refine Rn.seq hc ?_ | refine Rn.skip hc ?_ | refine Rn.block hc ?_ | refine Rn.inBlock hc ?_ | refine Rn.scope hc ?_ | refine Rn.inScope hc ?_))
      refine Rn.reg hc rfl ?_
      simp only [sev_const, gd, want_free, rops, fx, Option.some.injEq, exists_eq_left']
      (repeat (first | refine Rn.seq hc ?_ | refine Rn.skip hc ?_ | refine Rn.block hc ?_ | refine Rn.inBlock hc ?_ | refine Rn.scope hc ?_ | refine Rn.inScope hc ?_))
      refine Rn.ret (endQ_tmp rfl ⟨?_, hA⟩)
      simp only [sg_eq, sp_n, Nat.reduceLT, hn]
      rw [List.take_length, hne, List.take_length] at hall
      simp [hall]
  · have hd : (!decide ((l.length : Int) = (m.length : Int))) = true := by simp; omega
    refine Rn.condE hc rfl ?_
    simp only [sev_tmp, sg_eq, sp_n, Nat.reduceLT, Value.bool.injEq, exists_eq_left', hd]
    (repeat (first | refine Rn.seq hc ?_ | refine Rn.skip hc ?_ | refine Rn.block hc ?_ | refine Rn.inBlock hc ?_ | refine Rn.scope hc ?_ | refine Rn.inScope hc ?_))
    refine Rn.reg hc rfl ?_
    simp only [sev_const, gd, want_free, rops, fx, Option.some.injEq, exists_eq_left']
    (repeat (first | refine Rn.seq hc ?_ | refine Rn.skip hc ?_ | refine Rn.block hc ?_ | refine Rn.inBlock hc ?_ | refine Rn.scope hc ?_ | refine Rn.inScope hc ?_))
    refine Rn.ret (endQ_tmp rfl ⟨?_, Nx.refl hw _⟩)
    simp only [sg_eq, sp_n, Nat.reduceLT]
    have : l ≠ m := fun h => hne (by rw [h])
    simp [this]

theorem eq_ints {A : AHeap} (hw : WF A) {a b : Option Addr} {c d : Nat} {l m : List Int} (hl : Ints A a 0 A.next l) (hm : Ints A b 0 A.next m) (hlen : l.length < 4611686018427387904) (hlen2 : m.length < 4611686018427387904) :
    Con Try.prog 32 [.slice a l.length c, .slice b m.length d] A (fun v A1 => v = .bool (decide (l = m)) ∧ Nx A.next A A1) := by
  refine con_of_rn hc Try.func32 rfl (Nat.le_of_ble_eq_true rfl) ?_
  rw [s_in2]
  (repeat (first | refine Rn.seq hc ?_ | refine Rn.skip hc ?_ | refine Rn.block hc ?_ | refine Rn.inBlock hc ?_ | refine Rn.scope hc ?_ | refine Rn.inScope hc ?_))
  refine Rn.reg hc rfl ?_
  simp only [sev_const, gd, want_free, rops, fx, Option.some.injEq, exists_eq_left', show Try.f32.ntmps = 8 from rfl]
  (repeat (first | refine Rn.seq hc ?_ | refine Rn.skip hc ?_ | refine Rn.block hc ?_ | refine Rn.inBlock hc ?_ | refine Rn.scope hc ?_ | refine Rn.inScope hc ?_))
  refine Rn.region hc fun K hK => ?_
  refine Wo.run hc 2 rfl rfl rfl ?_
  simp only [List.drop_zero, List.take_succ_cons, List.take_zero, sev_tmp, sg_eq, sg_ne, sp_n, Nat.reduceLT, ne_eq, Nat.reduceEqDiff, not_false_eq_true, gd, want_free, rops, fx, Nat.zero_add, Option.some.injEq, exists_eq_left']
  refine Wo.call hc (by rfl) (by rfl) ⟨by rfl, by rfl⟩ (xs := [.slice a l.length c, .slice b m.length d]) (by first | rfl | (simp only [sev_tmp, sev_const, sev_func, sg_eq, sg_ne, sp_n, sp_none, Nat.reduceLT, ne_eq, Nat.reduceEqDiff, not_false_eq_true, gd, nth, want_free, want_slot, beqB, List.map_cons, List.map_nil, Array.toList_empty, List.nil_append, List.append_nil, List.cons_append]; done) | (simp only [sev_tmp, sev_const, sev_func, sg_eq, sg_ne, sp_n, sp_none, Nat.reduceLT, ne_eq, Nat.reduceEqDiff, not_false_eq_true, gd, nth, want_free, want_slot, beqB, List.map_cons, List.map_nil, Array.toList_empty, List.nil_append, List.append_nil, List.cons_append]; rfl)) (by first | rfl | (simp only [sev_tmp, sev_const, sev_func, sg_eq, sg_ne, sp_n, sp_none, Nat.reduceLT, ne_eq, Nat.reduceEqDiff, not_false_eq_true, gd, nth, want_free, want_slot, beqB, List.map_cons, List.map_nil, Array.toList_empty, List.nil_append, List.append_nil, List.cons_append]; done) | (simp only [sev_tmp, sev_const, sev_func, sg_eq, sg_ne, sp_n, sp_none, Nat.reduceLT, ne_eq, Nat.reduceEqDiff, not_false_eq_true, gd, nth, want_free, want_slot, beqB, List.map_cons, List.map_nil, Array.toList_empty, List.nil_append, List.append_nil, List.cons_append]; rfl)) (by first | rfl | (simp only [sev_tmp, sev_const, sev_func, sg_eq, sg_ne, sp_n, sp_none, Nat.reduceLT, ne_eq, Nat.reduceEqDiff, not_false_eq_true, gd, nth, want_free, want_slot, beqB, List.map_cons, List.map_nil, Array.toList_empty, List.nil_append, List.append_nil, List.cons_append]; done) | (simp only [sev_tmp, sev_const, sev_func, sg_eq, sg_ne, sp_n, sp_none, Nat.reduceLT, ne_eq, Nat.reduceEqDiff, not_false_eq_true, gd, nth, want_free, want_slot, beqB, List.map_cons, List.map_nil, Array.toList_empty, List.nil_append, List.append_nil, List.cons_append]; rfl)) (Con.mono (equal_ints hw hl hm hlen hlen2) ?_)
  rintro v A1 ⟨rfl, hA⟩
  refine Wo.run hc 1 rfl rfl rfl ?_
  simp only [List.drop_zero, List.drop_succ_cons, List.take_succ_cons, List.take_zero, sev_tmp, sg_eq, sp_n, Nat.reduceLT, gd, want_free, rops, fx, Option.some.injEq, exists_eq_left', Nat.reduceAdd]
  refine Wo.done hc rfl (hK _ _ ?_)
  (repeat (first | refine Rn.seq hc ?_ | refine Rn.skip hc ?_ | refine Rn.block hc ?_ | refine Rn.inBlock hc ?_ | refine Rn.scope hc ?_ | refine Rn.inScope hc ?_))
  refine Rn.ret (endQ_tmp rfl ⟨?_, hA⟩)
  simp only [sg_eq, sp_n, Nat.reduceLT]
end Go.Proofs.Ytdaljohmfnfgiaa
/- Streams that are the same, great, or one's own. No condition. -/
namespace Go.Proofs.Ytdaljohmfnfgiaa
open Go Go.RowKit Go.Proofs.Ytdaljohmfnfgiaa.Canon
set_option maxRecDepth 20000


theorem same_lasso {A : AHeap} (hw : WF A) {m m' : Int} {sa ra ta qa : Option Addr} {sc rc tc qc : Nat} {st ro tt qq : List Int} (hs : Ints A sa 0 A.next st) (hr : Ints A ra 0 A.next ro) (ht : Ints A ta 0 A.next tt) (hq : Ints A qa 0 A.next qq)
    (ls : st.length < 4611686018427387904) (lr : ro.length < 4611686018427387904) (lt : tt.length < 4611686018427387904) (lq : qq.length < 4611686018427387904) :
    Con Try.prog 26 [.agg #[.int .i64 m, .slice sa st.length sc, .slice ra ro.length rc], .agg #[.int .i64 m', .slice ta tt.length tc, .slice qa qq.length qc]] A
      (fun v A1 => v = .bool (decide (m = m') && (decide (st = tt) && decide (ro = qq))) ∧ Nx A.next A A1) := by
  refine con_of_rn hc Try.func26 rfl (Nat.le_of_ble_eq_true rfl) ?_
  obtain ⟨A1, e1, hx1, hn1, b0, b1, b2⟩ := box3 hw (.int .i64 m) (.slice sa st.length sc) (.slice ra ro.length rc) 24
  obtain ⟨A2, e2, hx2, hn2, c0, c1, c2⟩ := box3 hx1.wf (.int .i64 m') (.slice ta tt.length tc) (.slice qa qq.length qc) 24
  have d0 := (hx2.cl (show A.next < A1.next by omega) 0).trans b0
  have d1 := (hx2.cl (show A.next < A1.next by omega) 1).trans b1
  have d2 := (hx2.cl (show A.next < A1.next by omega) 2).trans b2
  have hx : Nx A.next A A2 := hx1.trans (hx2.le hx1.next)
  rw [s_in2]
  (repeat (first | refine Rn.seq hc ?_ | refine Rn.skip hc ?_ | refine Rn.block hc ?_ | refine Rn.inBlock hc ?_ | refine Rn.scope hc ?_ | refine Rn.inScope hc ?_))
  refine Rn.reg hc rfl ?_
  simp only [sev_tmp, sev_const, sg_eq, sg_ne, sp_n, Nat.reduceLT, ne_eq, Nat.reduceEqDiff, not_false_eq_true, gd, want_free, rops, fx, Option.some.injEq, exists_eq_left', Value.cells, show Try.f26.ntmps = 24 from rfl, e1, e2]
  (repeat (first | refine Rn.seq hc ?_ | refine Rn.skip hc ?_ | refine Rn.block hc ?_ | refine Rn.inBlock hc ?_ | refine Rn.scope hc ?_ | refine Rn.inScope hc ?_))
  refine Rn.region hc fun K hK => ?_
  by_cases hm : m = m'
  · have hd : decide (m = m') = true := by simp [hm]
    refine Wo.run hc 10 rfl rfl rfl ?_
    simp only [List.drop_zero, List.take_succ_cons, List.take_zero, sev_tmp, sg_eq, sg_ne, sp_n, Nat.reduceLT, ne_eq, Nat.reduceEqDiff, not_false_eq_true, gd, nth, want_free, want_slot, beqB, rops, fx, ld, fad, bin_eql, adr_p, Nat.zero_add, Nat.add_zero, Option.some.injEq, exists_eq_left', tk3, tk22, fo24_0, fo24_1, hd, c0, c1, d0, d1]
    refine Wo.call hc (by rfl) (by rfl) ⟨by rfl, by rfl⟩ (xs := [.slice sa st.length sc, .slice ta tt.length tc]) (by first | rfl | (simp only [sev_tmp, sev_const, sev_func, sg_eq, sg_ne, sp_n, sp_none, Nat.reduceLT, ne_eq, Nat.reduceEqDiff, not_false_eq_true, gd, nth, want_free, want_slot, beqB, List.map_cons, List.map_nil, Array.toList_empty, List.nil_append, List.append_nil, List.cons_append, hd]; done) | (simp only [sev_tmp, sev_const, sev_func, sg_eq, sg_ne, sp_n, sp_none, Nat.reduceLT, ne_eq, Nat.reduceEqDiff, not_false_eq_true, gd, nth, want_free, want_slot, beqB, List.map_cons, List.map_nil, Array.toList_empty, List.nil_append, List.append_nil, List.cons_append, hd]; rfl)) (by first | rfl | (simp only [sev_tmp, sev_const, sev_func, sg_eq, sg_ne, sp_n, sp_none, Nat.reduceLT, ne_eq, Nat.reduceEqDiff, not_false_eq_true, gd, nth, want_free, want_slot, beqB, List.map_cons, List.map_nil, Array.toList_empty, List.nil_append, List.append_nil, List.cons_append, hd]; done) | (simp only [sev_tmp, sev_const, sev_func, sg_eq, sg_ne, sp_n, sp_none, Nat.reduceLT, ne_eq, Nat.reduceEqDiff, not_false_eq_true, gd, nth, want_free, want_slot, beqB, List.map_cons, List.map_nil, Array.toList_empty, List.nil_append, List.append_nil, List.cons_append, hd]; rfl)) (by first | rfl | (simp only [sev_tmp, sev_const, sev_func, sg_eq, sg_ne, sp_n, sp_none, Nat.reduceLT, ne_eq, Nat.reduceEqDiff, not_false_eq_true, gd, nth, want_free, want_slot, beqB, List.map_cons, List.map_nil, Array.toList_empty, List.nil_append, List.append_nil, List.cons_append, hd]; done) | (simp only [sev_tmp, sev_const, sev_func, sg_eq, sg_ne, sp_n, sp_none, Nat.reduceLT, ne_eq, Nat.reduceEqDiff, not_false_eq_true, gd, nth, want_free, want_slot, beqB, List.map_cons, List.map_nil, Array.toList_empty, List.nil_append, List.append_nil, List.cons_append, hd]; rfl)) (Con.mono (eq_ints hx.wf ((hs.nx hx (Nat.le_refl _)).mono (Nat.le_refl _) hx.next) ((ht.nx hx (Nat.le_refl _)).mono (Nat.le_refl _) hx.next) ls lt) ?_)
    rintro v A3 ⟨rfl, h3⟩
    have d2' := (h3.cl (show A.next < A2.next by omega) 2).trans d2
    have c2' := (h3.cl (show A1.next < A2.next by omega) 2).trans c2
    have hx3 : Nx A.next A A3 := hx.trans (h3.le hx.next)
    by_cases hst : st = tt
    · have hd2 : decide (st = tt) = true := by simp [hst]
      refine Wo.run hc 6 rfl rfl rfl ?_
      simp only [List.drop_zero, List.drop_succ_cons, List.take_succ_cons, List.take_zero, sev_tmp, sg_eq, sg_ne, sp_n, Nat.reduceLT, ne_eq, Nat.reduceEqDiff, not_false_eq_true, gd, nth, want_free, want_slot, beqB, rops, fx, ld, fad, pck, adr_p, Nat.zero_add, Option.some.injEq, exists_eq_left', Nat.reduceAdd, tk22, fo24_2, hd2, c2', d2']
      refine Wo.call hc (by rfl) (by rfl) ⟨by rfl, by rfl⟩ (xs := [.slice ra ro.length rc, .slice qa qq.length qc]) (by first | rfl | (simp only [sev_tmp, sev_const, sev_func, sg_eq, sg_ne, sp_n, sp_none, Nat.reduceLT, ne_eq, Nat.reduceEqDiff, not_false_eq_true, gd, nth, want_free, want_slot, beqB, List.map_cons, List.map_nil, Array.toList_empty, List.nil_append, List.append_nil, List.cons_append, hd, hd2]; done) | (simp only [sev_tmp, sev_const, sev_func, sg_eq, sg_ne, sp_n, sp_none, Nat.reduceLT, ne_eq, Nat.reduceEqDiff, not_false_eq_true, gd, nth, want_free, want_slot, beqB, List.map_cons, List.map_nil, Array.toList_empty, List.nil_append, List.append_nil, List.cons_append, hd, hd2]; rfl)) (by first | rfl | (simp only [sev_tmp, sev_const, sev_func, sg_eq, sg_ne, sp_n, sp_none, Nat.reduceLT, ne_eq, Nat.reduceEqDiff, not_false_eq_true, gd, nth, want_free, want_slot, beqB, List.map_cons, List.map_nil, Array.toList_empty, List.nil_append, List.append_nil, List.cons_append, hd, hd2]; done) | (simp only [sev_tmp, sev_const, sev_func, sg_eq, sg_ne, sp_n, sp_none, Nat.reduceLT, ne_eq, Nat.reduceEqDiff, not_false_eq_true, gd, nth, want_free, want_slot, beqB, List.map_cons, List.map_nil, Array.toList_empty, List.nil_append, List.append_nil, List.cons_append, hd, hd2]; rfl)) (by first | rfl | (simp only [sev_tmp, sev_const, sev_func, sg_eq, sg_ne, sp_n, sp_none, Nat.reduceLT, ne_eq, Nat.reduceEqDiff, not_false_eq_true, gd, nth, want_free, want_slot, beqB, List.map_cons, List.map_nil, Array.toList_empty, List.nil_append, List.append_nil, List.cons_append, hd, hd2]; done) | (simp only [sev_tmp, sev_const, sev_func, sg_eq, sg_ne, sp_n, sp_none, Nat.reduceLT, ne_eq, Nat.reduceEqDiff, not_false_eq_true, gd, nth, want_free, want_slot, beqB, List.map_cons, List.map_nil, Array.toList_empty, List.nil_append, List.append_nil, List.cons_append, hd, hd2]; rfl)) (Con.mono (eq_ints hx3.wf ((hr.nx hx3 (Nat.le_refl _)).mono (Nat.le_refl _) hx3.next) ((hq.nx hx3 (Nat.le_refl _)).mono (Nat.le_refl _) hx3.next) lr lq) ?_)
      rintro v A4 ⟨rfl, h4⟩
      refine Wo.run hc 2 rfl rfl rfl ?_
      simp only [List.drop_zero, List.drop_succ_cons, List.take_succ_cons, List.take_zero, sev_tmp, sg_eq, sg_ne, sp_n, Nat.reduceLT, ne_eq, Nat.reduceEqDiff, not_false_eq_true, gd, want_free, rops, fx, pck, Option.some.injEq, exists_eq_left', Nat.reduceAdd]
      refine Wo.done hc rfl (hK _ _ ?_)
      (repeat (first | refine Rn.seq hc ?_ | refine Rn.skip hc ?_ | refine Rn.block hc ?_ | refine Rn.inBlock hc ?_ | refine Rn.scope hc ?_ | refine Rn.inScope hc ?_))
      refine Rn.ret (endQ_tmp rfl ⟨?_, hx3.trans (h4.le hx3.next)⟩)
      simp only [sg_eq, sp_n, Nat.reduceLT]
      rw [hd, hd2]
      rfl
    · have hd2 : decide (st = tt) = false := by simp [hst]
      refine Wo.run hc 9 rfl rfl rfl ?_
      simp only [List.drop_zero, List.drop_succ_cons, List.take_succ_cons, List.take_zero, sev_tmp, sev_const, sg_eq, sg_ne, sp_n, Nat.reduceLT, ne_eq, Nat.reduceEqDiff, not_false_eq_true, gd, nth, want_free, want_slot, beqB, rops, fx, pck, Option.some.injEq, exists_eq_left', Nat.reduceAdd, hd2]
      refine Wo.done hc rfl (hK _ _ ?_)
      (repeat (first | refine Rn.seq hc ?_ | refine Rn.skip hc ?_ | refine Rn.block hc ?_ | refine Rn.inBlock hc ?_ | refine Rn.scope hc ?_ | refine Rn.inScope hc ?_))
      refine Rn.ret (endQ_tmp rfl ⟨?_, hx3⟩)
      simp only [sg_eq, sp_n, Nat.reduceLT]
      rw [hd, hd2]
      rfl
  · have hd : decide (m = m') = false := by simp [hm]
    refine Wo.run hc 20 rfl rfl rfl ?_
    simp only [List.drop_zero, List.take_succ_cons, List.take_zero, sev_tmp, sev_const, sg_eq, sg_ne, sp_n, Nat.reduceLT, ne_eq, Nat.reduceEqDiff, not_false_eq_true, gd, nth, want_free, want_slot, beqB, rops, fx, ld, fad, pck, bin_eql, adr_p, Nat.zero_add, Nat.add_zero, Option.some.injEq, exists_eq_left', tk3, fo24_0, hd, c0, d0]
    refine Wo.done hc rfl (hK _ _ ?_)
    (repeat (first | refine Rn.seq hc ?_ | refine Rn.skip hc ?_ | refine Rn.block hc ?_ | refine Rn.inBlock hc ?_ | refine Rn.scope hc ?_ | refine Rn.inScope hc ?_))
    refine Rn.ret (endQ_tmp rfl ⟨?_, hx⟩)
    simp only [sg_eq, sp_n, Nat.reduceLT]
    rw [hd]
    rfl

theorem great_lasso {A : AHeap} (hw : WF A) (m : Int) (sa ra : Option Addr) (sn rn sc rc : Nat) :
    Con Try.prog 15 [.agg #[.int .i64 m, .slice sa sn sc, .slice ra rn rc]] A (fun v A1 => v = .bool (decide ((70 : Int) < sn) || decide ((130 : Int) < rn)) ∧ Nx A.next A A1) := by
  refine con_of_rn hc Try.func15 rfl (Nat.le_of_ble_eq_true rfl) ?_
  obtain ⟨A1, e1, hx1, hn1, b0, b1, b2⟩ := box3 hw (.int .i64 m) (.slice sa sn sc) (.slice ra rn rc) 24
  rw [s_in1]
  (repeat (first | refine Rn.seq hc ?_ | refine Rn.skip hc ?_ | refine Rn.block hc ?_ | refine Rn.inBlock hc ?_ | refine Rn.scope hc ?_ | refine Rn.inScope hc ?_))
  refine Rn.reg hc rfl ?_
  simp only [sev_tmp, sev_const, sg_eq, Nat.reduceLT, gd, want_free, rops, fx, Option.some.injEq, exists_eq_left', Value.cells, show Try.f15.ntmps = 13 from rfl, e1]
  (repeat (first | refine Rn.seq hc ?_ | refine Rn.skip hc ?_ | refine Rn.block hc ?_ | refine Rn.inBlock hc ?_ | refine Rn.scope hc ?_ | refine Rn.inScope hc ?_))
  cases hd : decide ((70 : Int) < sn) with
  | true =>
    refine Rn.reg hc rfl ?_
    simp only [sev_tmp, sev_const, sg_eq, sg_ne, sp_n, Nat.reduceLT, ne_eq, Nat.reduceEqDiff, not_false_eq_true, gd, nth, want_free, want_slot, beqB, rops, fx, ld, fad, lng, pck, bin_gtr, adr_p, Nat.zero_add, Option.some.injEq, exists_eq_left', tk22, fo24_1, un22, hd, b1]
    (repeat (first | refine Rn.seq hc ?_ | refine Rn.skip hc ?_ | refine Rn.block hc ?_ | refine Rn.inBlock hc ?_ | refine Rn.scope hc ?_ | refine Rn.inScope hc ?_))
    refine Rn.ret (endQ_tmp rfl ⟨?_, hx1⟩)
    simp only [sg_eq, sp_n, Nat.reduceLT]
    rfl
  | false =>
    refine Rn.reg hc rfl ?_
    simp only [sev_tmp, sev_const, sg_eq, sg_ne, sp_n, Nat.reduceLT, ne_eq, Nat.reduceEqDiff, not_false_eq_true, gd, nth, want_free, want_slot, beqB, rops, fx, ld, fad, lng, pck, bin_gtr, adr_p, Nat.zero_add, Option.some.injEq, exists_eq_left', tk22, fo24_1, fo24_2, un22, hd, b1, b2]
    (repeat (first | refine Rn.seq hc ?_ | refine Rn.skip hc ?_ | refine Rn.block hc ?_ | refine Rn.inBlock hc ?_ | refine Rn.scope hc ?_ | refine Rn.inScope hc ?_))
    refine Rn.ret (endQ_tmp rfl ⟨?_, hx1⟩)
    simp only [sg_eq, sp_n, Nat.reduceLT]
    rfl
end Go.Proofs.Ytdaljohmfnfgiaa
/- Lists, and streams, that are copied. No condition. -/
namespace Go.Proofs.Ytdaljohmfnfgiaa
open Go Go.RowKit Go.Proofs.Ytdaljohmfnfgiaa.Canon
set_option maxRecDepth 20000


theorem bs22_0 {ρ : Operand → Value} {d : Option Tmp} {ty : TypeId} {pos : String} {af : Array Edge} {gu : Option (Nat × Bool)} {A : AHeap} :
    aexec Try.prog ρ ⟨d, .buildSlice 22 0 #[], ty, pos, af, gu⟩ A = some (.slice (some ⟨A.next, 0, none⟩) 0 0, A.push (.cells #[] 3)) := ae_buildSlice (by rfl) so22_0 et22 rfl rfl
theorem Ints.row {A : AHeap} {a : Option Addr} {lo hi : Nat} {l : List Int} (h : Ints A a lo hi l) : Row A a (l.map (Value.int .i64)) := by
  cases hl : l with
  | nil => exact .inl rfl
  | cons x m =>
    rw [← hl]
    obtain ⟨b, o, rfl, _, _, _⟩ := h 0 (by rw [hl]; simp)
    refine .inr ⟨b, o, rfl, fun i hi => ?_⟩
    obtain ⟨b', o', e, _, _, h4⟩ := h i (by simpa using hi)
    cases e
    rw [h4]
    simp at hi
    simp [List.getD_eq_getElem?_getD, hi]
theorem Ints.some {A : AHeap} {lo hi : Nat} {l : List Int} (h : Ints A none lo hi l) : l.length = 0 := by
  cases hl : l with
  | nil => rfl
  | cons x m =>
    obtain ⟨b, o, e, _⟩ := h 0 (by rw [hl]; simp)
    cases e
/-- A slice of which pieces may be cut. -/
def Sl (A : AHeap) (a : Option Addr) (lo : Nat) : Prop := ∀ x, a = .some x → x.spot = none ∧ lo ≤ x.block ∧ ∃ y, Canon.look A.objs x.block = .some y ∧ (y.grown = false ∨ (y.grown = true ∧ isRow y.o = true ∧ y.esz = 1))
theorem Sl.mono {A : AHeap} {a : Option Addr} {lo lo' : Nat} (h : Sl A a lo) (hl : lo' ≤ lo) : Sl A a lo' := fun x hx => by
  obtain ⟨h1, h2, h3⟩ := h x hx
  exact ⟨h1, by omega, h3⟩
theorem Sl.ext {A B : AHeap} {a : Option Addr} {lo : Nat} (h : Sl A a lo) (he : ∀ b, lo ≤ b → Canon.look A.objs b = none ∨ Canon.look B.objs b = Canon.look A.objs b) : Sl B a lo := fun x hx => by
  obtain ⟨h1, h2, y, h3, h4⟩ := h x hx
  refine ⟨h1, h2, y, ?_, h4⟩
  rcases he _ h2 with h0 | h0
  · rw [h0] at h3; cases h3
  · rw [h0]; exact h3
theorem Sl.nx {A B : AHeap} {a : Option Addr} {lo : Nat} (h : Sl A a lo) (hw : WF A) (hx : Nx A.next A B) : Sl B a lo := h.ext fun b _ => by
  by_cases hb : b < A.next
  · exact .inr (hx.keep b hb)
  · exact .inl (hw.none (by omega))
/-- A list is appended to one that was made with nothing in it. -/
theorem dup_app {A : AHeap} (hw : WF A) {b n : Nat} (hb : ∃ y, Canon.look A.objs b = .some y ∧ y.grown = false) (hn : n ≤ A.next) (hnb : n ≤ b) {a2 : Option Addr} {c2 : Nat} {l : List Int} (h : Ints A a2 0 A.next l) (hlen : l.length ≤ 1000) :
    ∃ a' c' A1, aapp Try.prog #[22, 22] #[.slice (some ⟨b, 0, none⟩) 0 0, .slice a2 l.length c2] A = .some (.slice a' l.length c', A1) ∧ l.length ≤ c' ∧ Nx A.next A A1 ∧ Ints A1 a' n A1.next l ∧ Sl A1 a' n := by
  by_cases h0 : l.length = 0
  · refine ⟨some ⟨b, 0, none⟩, 0, A, ?_, by omega, Nx.refl hw _, fun i hi => by omega, fun x hx => by cases hx; obtain ⟨y, h1, h2⟩ := hb; exact ⟨rfl, hnb, y, h1, .inl h2⟩⟩
    rw [h0]
    exact aapp_nil el22 un22 (Nat.le_refl _)
  · obtain ⟨A1, h1, h2⟩ := aapp_new (P := Try.prog) (c := 0) (c2 := c2) (a := some ⟨b, 0, none⟩) (n := 0) (l := []) (m := l.length) el22 un22 (.inl rfl) (by simp)
      (fun x hx => by cases hx; obtain ⟨y, h1, h2⟩ := hb; exact ⟨y, h1, .inl h2⟩) (fun h => by cases h) h.row (by simp) (by simp [isCell]) (fun h' => by subst h'; exact absurd h.some h0) (by omega) (by omega) (by omega)
    simp only [Nat.zero_add] at h1
    refine ⟨_, _, A1, h1, Nat.le_refl _, h2.nx hw (Nat.le_refl _) (fun x hx => by cases hx; exact .inr hb), fun i hi => ⟨_, _, rfl, hn, by rw [h2.next]; omega, ?_⟩, fun x hx => by cases hx; exact ⟨rfl, hn, _, h2.new, .inr ⟨rfl, rfl, rfl⟩⟩⟩
    rw [h2.cl]
    simp [List.getD_eq_getElem?_getD, hi]

end Go.Proofs.Ytdaljohmfnfgiaa
/- A stream that is one's own. No condition. -/
namespace Go.Proofs.Ytdaljohmfnfgiaa
open Go Go.RowKit Go.Proofs.Ytdaljohmfnfgiaa.Canon
set_option maxRecDepth 20000


section
variable {ρ : Operand → Value} {d : Option Tmp} {ty : TypeId} {pos : String} {af : Array Edge} {gu : Option (Nat × Bool)} {A : AHeap}
theorem fb22_0 : fobj Try.prog ρ ⟨d, .buildSlice 22 0 #[], ty, pos, af, gu⟩ = some ⟨[], 3, .sl 0 0⟩ := by
  simp only [fobj, so22_0, et22]
  rfl
theorem bd24 {x y z : Tmp} (hx : isCell (ρ (.tmp x)) = true) (hy : isCell (ρ (.tmp y)) = true) (hz : isCell (ρ (.tmp z)) = true) :
    aexec Try.prog ρ ⟨d, .build 24 #[(0, .tmp x), (1, .tmp y), (2, .tmp z)], ty, pos, af, gu⟩ A = some (.agg #[ρ (.tmp x), ρ (.tmp y), ρ (.tmp z)], A) := by
  refine ae_build (by rfl) bo24 rfl ?_
  simp [fbld, nthR, cells_isCell hx, cells_isCell hy, cells_isCell hz]
end
theorem Ints.ext {A B : AHeap} {a : Option Addr} {lo hi hi' : Nat} {l : List Int} (h : Ints A a lo hi l) (he : ∀ b, lo ≤ b → Canon.look A.objs b = none ∨ Canon.look B.objs b = Canon.look A.objs b) (hh : hi ≤ hi') : Ints B a lo hi' l := fun i hi => by
  obtain ⟨b, o, q1, q2, q3, q4⟩ := h i hi
  refine ⟨b, o, q1, q2, by omega, ?_⟩
  rcases he b q2 with h0 | h0
  · rw [cl_none h0] at q4; cases q4
  · rw [cl_look h0]; exact q4
def noS : Canon.Spec := fun _ _ _ _ _ => False
theorem own_lasso {A : AHeap} (hw : WF A) {m : Int} {sa ra : Option Addr} {sc rc : Nat} {st ro : List Int} (hs : Ints A sa 0 A.next st) (hr : Ints A ra 0 A.next ro) (ls : st.length ≤ 1000) (lr : ro.length ≤ 1000) :
    Con Try.prog 17 [.agg #[.int .i64 m, .slice sa st.length sc, .slice ra ro.length rc]] A
      (fun v A1 => ∃ sa' sc' ra' rc', v = .agg #[.int .i64 m, .slice sa' st.length sc', .slice ra' ro.length rc'] ∧ st.length ≤ sc' ∧ ro.length ≤ rc' ∧ Nx A.next A A1 ∧ Ints A1 sa' A.next A1.next st ∧ Ints A1 ra' A.next A1.next ro ∧ Sl A1 sa' A.next ∧ Sl A1 ra' A.next) := by
  refine con_of_rn hc Try.func17 rfl (Nat.le_of_ble_eq_true rfl) ?_
  obtain ⟨A1, e1, hx1, hn1, b0, b1, b2⟩ := box3 hw (.int .i64 m) (.slice sa st.length sc) (.slice ra ro.length rc) 24
  obtain ⟨A2, e2, hx2, hn2, _, _, _⟩ := box3 hx1.wf (.int .i64 0) (.slice none 0 0) (.slice none 0 0) 24
  have l2 : Canon.look A2.objs A1.next = some ⟨.cells #[.int .i64 0, .slice none 0 0, .slice none 0 0] 24, false, 0⟩ := by rw [← e2]; exact look_push_eq _ _
  have hxx : Nx A.next A A2 := hx1.trans (hx2.le hx1.next)
  rw [s_in1]
  (repeat (first | refine Rn.seq hc ?_ | refine Rn.skip hc ?_ | refine Rn.block hc ?_ | refine Rn.inBlock hc ?_ | refine Rn.scope hc ?_ | refine Rn.inScope hc ?_))
  refine Rn.reg hc rfl ?_
  simp only [sev_tmp, sg_eq, Nat.reduceLT, gd, want_free, rops, fx, Option.some.injEq, exists_eq_left', Value.cells, show Try.f17.ntmps = 14 from rfl, e1, e2, ze24]
  (repeat (first | refine Rn.seq hc ?_ | refine Rn.skip hc ?_ | refine Rn.block hc ?_ | refine Rn.inBlock hc ?_ | refine Rn.scope hc ?_ | refine Rn.inScope hc ?_))
  have d0 := (hx2.cl (show A.next < A1.next by omega) 0).trans b0
  have d1 := (hx2.cl (show A.next < A1.next by omega) 1).trans b1
  have d2 := (hx2.cl (show A.next < A1.next by omega) 2).trans b2
  have hxB : Nx A2.next A2 (bump A2 12) := Nx.bump (Nx.refl hx2.wf _) 12
  obtain ⟨F, hF0, hF1, hF2, hF⟩ : ∃ F : AHeap → Prop, (∀ M, F M → cl M A.next 0 = some (.int .i64 m)) ∧ (∀ M, F M → cl M A.next 1 = some (.slice sa st.length sc)) ∧ (∀ M, F M → cl M A.next 2 = some (.slice ra ro.length rc)) ∧ (∀ M, cl M A.next 0 = cl A2 A.next 0 → cl M A.next 1 = cl A2 A.next 1 → cl M A.next 2 = cl A2 A.next 2 → F M) :=
    ⟨fun M => cl M A.next 0 = some (.int .i64 m) ∧ cl M A.next 1 = some (.slice sa st.length sc) ∧ cl M A.next 2 = some (.slice ra ro.length rc), fun _ h => h.1, fun _ h => h.2.1, fun _ h => h.2.2, fun M q0 q1 q2 => ⟨q0.trans d0, q1.trans d1, q2.trans d2⟩⟩
  have hFN : ∀ M, Nx A2.next A2 M → F M := fun M h => hF M (h.cl (by omega) 0) (h.cl (by omega) 1) (h.cl (by omega) 2)
  have FB := hFN _ hxB
  refine Rn.drawnF hc hx noS F (n := 5) (k := 12) (by kernel_rfl) (by kernel_rfl) (by rfl) ?_
  refine Dr.read (by first | rfl | kernel_rfl) (by first | rfl | (simp only [sev_tmp, sev_const, sev_func, sg_eq, sg_ne, sp_n, sp_none, Nat.reduceLT, ne_eq, Nat.reduceEqDiff, not_false_eq_true, gd, nth, want_free, want_slot, beqB, List.map_cons, List.map_nil, Array.toList_empty, List.nil_append, List.append_nil, List.cons_append, hF0 M hM]; done) | (simp only [sev_tmp, sev_const, sev_func, sg_eq, sg_ne, sp_n, sp_none, Nat.reduceLT, ne_eq, Nat.reduceEqDiff, not_false_eq_true, gd, nth, want_free, want_slot, beqB, List.map_cons, List.map_nil, Array.toList_empty, List.nil_append, List.append_nil, List.cons_append, hF0 M hM]; rfl)) (by assumption) (fun M hM => by simp only [sev_tmp, sg_eq, sg_ne, sp_n, Nat.reduceLT, ne_eq, Nat.reduceEqDiff, not_false_eq_true, fx, fad, adr_p, Nat.add_zero, fo24_0] <;> rfl) (by rfl) (by first | exact VQ.int _ _ | exact VQ.bool _ | exact VQ.ptr _ _ | exact VQ.slice _ _ _ | (simp [VQ, veq]; done)) ?_
  refine Dr.read (by first | rfl | kernel_rfl) (by first | rfl | (simp only [sev_tmp, sev_const, sev_func, sg_eq, sg_ne, sp_n, sp_none, Nat.reduceLT, ne_eq, Nat.reduceEqDiff, not_false_eq_true, gd, nth, want_free, want_slot, beqB, List.map_cons, List.map_nil, Array.toList_empty, List.nil_append, List.append_nil, List.cons_append, hF0 M hM]; done) | (simp only [sev_tmp, sev_const, sev_func, sg_eq, sg_ne, sp_n, sp_none, Nat.reduceLT, ne_eq, Nat.reduceEqDiff, not_false_eq_true, gd, nth, want_free, want_slot, beqB, List.map_cons, List.map_nil, Array.toList_empty, List.nil_append, List.append_nil, List.cons_append, hF0 M hM]; rfl)) (by assumption) (fun M hM => by simp only [sev_tmp, sg_eq, sp_n, Nat.reduceLT, fx, ld, adr_p, tk3, hF0 M hM] <;> rfl) (by rfl) (by first | exact VQ.int _ _ | exact VQ.bool _ | exact VQ.ptr _ _ | exact VQ.slice _ _ _ | (simp [VQ, veq]; done)) ?_
  refine Dr.float (by rfl) (by rfl) (by rfl) fb22_0 ?_
  refine Dr.read (by first | rfl | kernel_rfl) (by first | rfl | (simp only [sev_tmp, sev_const, sev_func, sg_eq, sg_ne, sp_n, sp_none, Nat.reduceLT, ne_eq, Nat.reduceEqDiff, not_false_eq_true, gd, nth, want_free, want_slot, beqB, List.map_cons, List.map_nil, Array.toList_empty, List.nil_append, List.append_nil, List.cons_append, hF1 M hM]; done) | (simp only [sev_tmp, sev_const, sev_func, sg_eq, sg_ne, sp_n, sp_none, Nat.reduceLT, ne_eq, Nat.reduceEqDiff, not_false_eq_true, gd, nth, want_free, want_slot, beqB, List.map_cons, List.map_nil, Array.toList_empty, List.nil_append, List.append_nil, List.cons_append, hF1 M hM]; rfl)) (by assumption) (fun M hM => by simp only [sev_tmp, sg_eq, sg_ne, sp_n, Nat.reduceLT, ne_eq, Nat.reduceEqDiff, not_false_eq_true, fx, fad, adr_p, Nat.zero_add, Nat.reduceAdd, fo24_1] <;> rfl) (by rfl) (by first | exact VQ.int _ _ | exact VQ.bool _ | exact VQ.ptr _ _ | exact VQ.slice _ _ _ | (simp [VQ, veq]; done)) ?_
  refine Dr.read (by first | rfl | kernel_rfl) (by first | rfl | (simp only [sev_tmp, sev_const, sev_func, sg_eq, sg_ne, sp_n, sp_none, Nat.reduceLT, ne_eq, Nat.reduceEqDiff, not_false_eq_true, gd, nth, want_free, want_slot, beqB, List.map_cons, List.map_nil, Array.toList_empty, List.nil_append, List.append_nil, List.cons_append, hF1 M hM]; done) | (simp only [sev_tmp, sev_const, sev_func, sg_eq, sg_ne, sp_n, sp_none, Nat.reduceLT, ne_eq, Nat.reduceEqDiff, not_false_eq_true, gd, nth, want_free, want_slot, beqB, List.map_cons, List.map_nil, Array.toList_empty, List.nil_append, List.append_nil, List.cons_append, hF1 M hM]; rfl)) (by assumption) (fun M hM => by simp only [sev_tmp, sg_eq, sp_n, Nat.reduceLT, fx, ld, adr_p, Nat.zero_add, Nat.reduceAdd, tk22, hF1 M hM] <;> rfl) (by rfl) (by first | exact VQ.int _ _ | exact VQ.bool _ | exact VQ.ptr _ _ | exact VQ.slice _ _ _ | (simp [VQ, veq]; done)) ?_
  obtain ⟨B', p1, hxB', eB', lB', kB'⟩ := place_row hxB (b := A2.next + 2) (by omega) (by rw [bump_next]; omega) (hx2.wf.none (by omega)) [] 3 0 0
  rw [bump_next] at eB'
  have hsB : Ints B' sa 0 B'.next st := ((hs.nx hxx (Nat.le_refl _)).nx (hxB'.le hxx.next) (Nat.le_refl _)).mono (Nat.le_refl _) (Nat.le_trans hxx.next hxB'.next)
  obtain ⟨sa', sc', A3, e3, hsc', hx3, hi3, hl3⟩ := dup_app (n := A2.next) (c2 := sc) hxB'.wf ⟨_, lB', rfl⟩ hxB'.next (by omega) hsB ls
  have hxA3 : Nx A2.next A2 A3 := hxB'.trans (hx3.le (by omega))
  refine Dr.eff (by rfl) (by rfl) (pd1 := [(2, ⟨[], 3, .sl 0 0⟩)]) (pd2 := []) (by kernel_rfl) (by kernel_rfl) (ms0 := [bump A2 12]) (A0 := B') (by simp only [placeAll, p1]) (fun M hM => by rw [List.mem_singleton] at hM; rw [hM]; exact FB) (hFN _ hxB') (by rfl)
    (v := .slice sa' st.length sc') (A1 := A3) (opRun_op rfl (by simp only [sev_tmp, sg_eq, sg_ne, sp_n, Nat.reduceLT, ne_eq, Nat.reduceEqDiff, not_false_eq_true, Nat.zero_add, Nat.reduceAdd, ae_apd, apd_slice, FK.val]; exact e3)) ?_
  have FA3 := hFN _ hxA3
  refine Dr.float (by rfl) (by rfl) (by rfl) fb22_0 ?_
  refine Dr.read (by first | rfl | kernel_rfl) (by first | rfl | (simp only [sev_tmp, sev_const, sev_func, sg_eq, sg_ne, sp_n, sp_none, Nat.reduceLT, ne_eq, Nat.reduceEqDiff, not_false_eq_true, gd, nth, want_free, want_slot, beqB, List.map_cons, List.map_nil, Array.toList_empty, List.nil_append, List.append_nil, List.cons_append, hF2 M hM]; done) | (simp only [sev_tmp, sev_const, sev_func, sg_eq, sg_ne, sp_n, sp_none, Nat.reduceLT, ne_eq, Nat.reduceEqDiff, not_false_eq_true, gd, nth, want_free, want_slot, beqB, List.map_cons, List.map_nil, Array.toList_empty, List.nil_append, List.append_nil, List.cons_append, hF2 M hM]; rfl)) (by assumption) (fun M hM => by simp only [sev_tmp, sg_eq, sg_ne, sp_n, Nat.reduceLT, ne_eq, Nat.reduceEqDiff, not_false_eq_true, fx, fad, adr_p, Nat.zero_add, Nat.reduceAdd, fo24_2] <;> rfl) (by rfl) (by first | exact VQ.int _ _ | exact VQ.bool _ | exact VQ.ptr _ _ | exact VQ.slice _ _ _ | (simp [VQ, veq]; done)) ?_
  refine Dr.read (by first | rfl | kernel_rfl) (by first | rfl | (simp only [sev_tmp, sev_const, sev_func, sg_eq, sg_ne, sp_n, sp_none, Nat.reduceLT, ne_eq, Nat.reduceEqDiff, not_false_eq_true, gd, nth, want_free, want_slot, beqB, List.map_cons, List.map_nil, Array.toList_empty, List.nil_append, List.append_nil, List.cons_append, hF2 M hM]; done) | (simp only [sev_tmp, sev_const, sev_func, sg_eq, sg_ne, sp_n, sp_none, Nat.reduceLT, ne_eq, Nat.reduceEqDiff, not_false_eq_true, gd, nth, want_free, want_slot, beqB, List.map_cons, List.map_nil, Array.toList_empty, List.nil_append, List.append_nil, List.cons_append, hF2 M hM]; rfl)) (by assumption) (fun M hM => by simp only [sev_tmp, sg_eq, sp_n, Nat.reduceLT, fx, ld, adr_p, Nat.zero_add, Nat.reduceAdd, tk22, hF2 M hM] <;> rfl) (by rfl) (by first | exact VQ.int _ _ | exact VQ.bool _ | exact VQ.ptr _ _ | exact VQ.slice _ _ _ | (simp [VQ, veq]; done)) ?_
  have n6 : Canon.look A3.objs (A2.next + 6) = none := by rw [hx3.keep _ (by omega), kB' _ (by omega)]; exact hx2.wf.none (by omega)
  obtain ⟨B4, p4, hxB4, eB4, lB4, kB4⟩ := place_row hxA3 (b := A2.next + 6) (by omega) (by have := hx3.next; omega) n6 [] 3 0 0
  have hrB : Ints B4 ra 0 B4.next ro := ((hr.nx hxx (Nat.le_refl _)).nx (hxB4.le hxx.next) (Nat.le_refl _)).mono (Nat.le_refl _) (Nat.le_trans hxx.next hxB4.next)
  obtain ⟨ra', rc', A5, e5, hrc', hx5, hi5, hl5⟩ := dup_app (n := A2.next) (c2 := rc) hxB4.wf ⟨_, lB4, rfl⟩ hxB4.next (by omega) hrB lr
  have hxA5 : Nx A2.next A2 A5 := hxB4.trans (hx5.le (by have := hx3.next; omega))
  refine Dr.eff (by rfl) (by rfl) (pd1 := [(6, ⟨[], 3, .sl 0 0⟩)]) (pd2 := []) (by kernel_rfl) (by kernel_rfl) (ms0 := [A3]) (A0 := B4) (by simp only [placeAll, p4]) (fun M hM => by rw [List.mem_singleton] at hM; rw [hM]; exact FA3) (hFN _ hxB4) (by rfl)
    (v := .slice ra' ro.length rc') (A1 := A5) (opRun_op rfl (by simp only [sev_tmp, sg_eq, sg_ne, sp_n, Nat.reduceLT, ne_eq, Nat.reduceEqDiff, not_false_eq_true, Nat.zero_add, Nat.reduceAdd, ae_apd, apd_slice, FK.val]; exact e5)) ?_
  have FA5 := hFN _ hxA5
  refine Dr.read (by rfl) (by rfl) (by assumption) (v := .agg #[.int .i64 m, .slice sa' st.length sc', .slice ra' ro.length rc']) (fun M hM => by simp only [sev_tmp, sg_eq, sg_ne, sp_n, Nat.reduceLT, ne_eq, Nat.reduceEqDiff, not_false_eq_true, fx, Nat.zero_add, Nat.reduceAdd, bd24, isCell, FK.val]) (by rfl) (VQ.agg (by simp [vq_int, vq_slice])) ?_
  have l5 : Canon.look A5.objs A1.next = some ⟨.cells #[.int .i64 0, .slice none 0 0, .slice none 0 0] 24, false, 0⟩ := by rw [hxA5.keep _ (by omega)]; exact l2
  obtain ⟨A6, c6, q1, q2, q3, q4⟩ := sts_upd (l := [.int .i64 m, .slice sa' st.length sc', .slice ra' ro.length rc']) (o := 0) l5 rfl (by simp) rfl
  refine Dr.eff0 (by rfl) (by rfl) (by assumption) (by rfl) (v := undef) (A1 := A6) (opRun_op rfl (fx_ok (by rfl) (by simp only [sev_tmp, sg_eq, sg_ne, sp_n, Nat.reduceLT, ne_eq, Nat.reduceEqDiff, not_false_eq_true, fx, str, adr_p, Nat.zero_add, Nat.reduceAdd, tk24, q1, FK.val]; rfl))) ?_
  have hx6 : Nx A1.next A1 A6 := hx2.trans ((hxA5.le (by omega)).trans (q2.nx hxA5.wf (Nat.le_refl _)))
  refine Dr.nil (by rfl) (fun M hM => by cases hM) (hF _ ?_ ?_ ?_) ⟨A6, by rfl, ?_⟩
  · rw [q2.cl_ne (by omega), hxA5.cl (by omega)]
  · rw [q2.cl_ne (by omega), hxA5.cl (by omega)]
  · rw [q2.cl_ne (by omega), hxA5.cl (by omega)]
  (repeat (first | refine Rn.seq hc ?_ | refine Rn.skip hc ?_ | refine Rn.block hc ?_ | refine Rn.inBlock hc ?_ | refine Rn.scope hc ?_ | refine Rn.inScope hc ?_))
  have g0 : cl A6 A1.next 0 = some (.int .i64 m) := by rw [q2.cl, q4]; rfl
  have g1 : cl A6 A1.next 1 = some (.slice sa' st.length sc') := by rw [q2.cl, q4]; rfl
  have g2 : cl A6 A1.next 2 = some (.slice ra' ro.length rc') := by rw [q2.cl, q4]; rfl
  have k56 : Nx A1.next A5 A6 := q2.nx hxA5.wf (Nat.le_refl _)
  have x4 : ∀ b, A2.next ≤ b → Canon.look A3.objs b = none ∨ Canon.look B4.objs b = Canon.look A3.objs b := fun b _ => by
    by_cases hbb : b = A2.next + 6
    · exact .inl (hbb ▸ n6)
    · exact .inr (kB4 _ hbb)
  have x5 : ∀ b, A2.next ≤ b → Canon.look B4.objs b = none ∨ Canon.look A5.objs b = Canon.look B4.objs b := fun b _ => by
    by_cases hbb : b < B4.next
    · exact .inr (hx5.keep _ hbb)
    · exact .inl (hxB4.wf.none (by omega))
  have x6 : ∀ b, A2.next ≤ b → Canon.look A5.objs b = none ∨ Canon.look A6.objs b = Canon.look A5.objs b := fun b hb => .inr (q2.off _ (by omega))
  refine Rn.ret (endQ_cell rfl (v := .agg #[.int .i64 m, .slice sa' st.length sc', .slice ra' ro.length rc']) ?_ ⟨sa', sc', ra', rc', rfl, hsc', hrc', hx1.trans (hx6.le hx1.next), ?_, ?_, ?_, ?_⟩)
  · simp only [sg_eq, sg_ne, sp_n, sp_none, Nat.reduceLT, ne_eq, Nat.reduceEqDiff, not_false_eq_true, ld, adr_p, cls, Nat.zero_add, Nat.reduceAdd, tk24, g0, g1, g2]
  · exact (((hi3.ext x4 (Nat.le_of_eq eB4.symm)).ext x5 hx5.next).ext x6 (Nat.le_of_eq q2.next.symm)).mono hxx.next (Nat.le_refl _)
  · exact (hi5.ext x6 (Nat.le_of_eq q2.next.symm)).mono hxx.next (Nat.le_refl _)
  · exact (((hl3.ext x4).ext x5).ext x6).mono hxx.next
  · exact (hl5.ext x6).mono hxx.next
end Go.Proofs.Ytdaljohmfnfgiaa
/- The error of a stream. No condition. -/
namespace Go.Proofs.Ytdaljohmfnfgiaa
open Go Go.RowKit Go.Proofs.Ytdaljohmfnfgiaa.Canon
set_option maxRecDepth 20000


def badM (m : Int) : Bool := decide (m < 2) || decide (65521 < m)
def badN (a b : Nat) : Bool := decide ((60 : Int) < a) || (decide ((b : Int) < 1) || decide ((120 : Int) < b))
def errL (m : Int) (st ro : List Int) : Int := if badM m = true then 3 else if badN st.length ro.length = true then 2 else if (st.all (inB m) && ro.all (inB m)) = true then 0 else 4
theorem check_ref {A : AHeap} (hw : WF A) {m : Int} {sa ra : Option Addr} {sc rc : Nat} {st ro : List Int} (hs : Ints A sa 0 A.next st) (hr : Ints A ra 0 A.next ro) (ls : st.length < 4611686018427387904) (lr : ro.length < 4611686018427387904) :
    Con Try.prog 25 [.agg #[.int .i64 m, .slice sa st.length sc, .slice ra ro.length rc]] A (fun v A1 => v = .int .i64 (errL m st ro) ∧ Nx A.next A A1) := by
  refine con_of_rn hc Try.func25 rfl (Nat.le_of_ble_eq_true rfl) ?_
  obtain ⟨A1, e1, hx1, hn1, b0, b1, b2⟩ := box3 hw (.int .i64 m) (.slice sa st.length sc) (.slice ra ro.length rc) 24
  rw [s_in1]
  (repeat (first | refine Rn.seq hc ?_ | refine Rn.skip hc ?_ | refine Rn.block hc ?_ | refine Rn.inBlock hc ?_ | refine Rn.scope hc ?_ | refine Rn.inScope hc ?_))
  refine Rn.reg hc rfl ?_
  simp only [sev_tmp, sev_const, sg_eq, Nat.reduceLT, gd, want_free, rops, fx, Option.some.injEq, exists_eq_left', Value.cells, show Try.f25.ntmps = 63 from rfl, e1]
  (repeat (first | refine Rn.seq hc ?_ | refine Rn.skip hc ?_ | refine Rn.block hc ?_ | refine Rn.inBlock hc ?_ | refine Rn.scope hc ?_ | refine Rn.inScope hc ?_))
  cases hb : badM m with
  | true =>
    have he : errL m st ro = 3 := by simp [errL, hb]
    rw [he]
    cases h1 : decide (m < 2) with
    | true =>
      refine Rn.reg hc rfl ?_
      simp only [sev_tmp, sev_const, sg_eq, sg_ne, sp_n, Nat.reduceLT, ne_eq, Nat.reduceEqDiff, not_false_eq_true, gd, nth, want_free, want_slot, beqB, rops, fx, ld, fad, pck, bin_lss, adr_p, Nat.add_zero, Option.some.injEq, exists_eq_left', tk3, fo24_0, b0, h1]
      (repeat (first | refine Rn.seq hc ?_ | refine Rn.skip hc ?_ | refine Rn.block hc ?_ | refine Rn.inBlock hc ?_ | refine Rn.scope hc ?_ | refine Rn.inScope hc ?_))
      refine Rn.condE hc rfl ?_
      simp only [sev_tmp, sg_eq, sp_n, Nat.reduceLT, Value.bool.injEq, exists_eq_left']
      (repeat (first | refine Rn.seq hc ?_ | refine Rn.skip hc ?_ | refine Rn.block hc ?_ | refine Rn.inBlock hc ?_ | refine Rn.scope hc ?_ | refine Rn.inScope hc ?_))
      refine Rn.reg hc rfl ?_
      simp only [sev_const, gd, want_free, rops, fx, Option.some.injEq, exists_eq_left']
      (repeat (first | refine Rn.seq hc ?_ | refine Rn.skip hc ?_ | refine Rn.block hc ?_ | refine Rn.inBlock hc ?_ | refine Rn.scope hc ?_ | refine Rn.inScope hc ?_))
      exact Rn.ret (endQ_tmp rfl ⟨by simp only [sg_eq, sp_n, Nat.reduceLT], hx1⟩)
    | false =>
      have h2 : decide (65521 < m) = true := by simpa [badM, h1] using hb
      refine Rn.reg hc rfl ?_
      simp only [sev_tmp, sev_const, sg_eq, sg_ne, sp_n, Nat.reduceLT, ne_eq, Nat.reduceEqDiff, not_false_eq_true, gd, nth, want_free, want_slot, beqB, rops, fx, ld, fad, pck, bin_lss, bin_gtr, adr_p, Nat.add_zero, Option.some.injEq, exists_eq_left', tk3, fo24_0, b0, h1, h2]
      (repeat (first | refine Rn.seq hc ?_ | refine Rn.skip hc ?_ | refine Rn.block hc ?_ | refine Rn.inBlock hc ?_ | refine Rn.scope hc ?_ | refine Rn.inScope hc ?_))
      refine Rn.condE hc rfl ?_
      simp only [sev_tmp, sg_eq, sp_n, Nat.reduceLT, Value.bool.injEq, exists_eq_left']
      (repeat (first | refine Rn.seq hc ?_ | refine Rn.skip hc ?_ | refine Rn.block hc ?_ | refine Rn.inBlock hc ?_ | refine Rn.scope hc ?_ | refine Rn.inScope hc ?_))
      refine Rn.reg hc rfl ?_
      simp only [sev_const, gd, want_free, rops, fx, Option.some.injEq, exists_eq_left']
      (repeat (first | refine Rn.seq hc ?_ | refine Rn.skip hc ?_ | refine Rn.block hc ?_ | refine Rn.inBlock hc ?_ | refine Rn.scope hc ?_ | refine Rn.inScope hc ?_))
      exact Rn.ret (endQ_tmp rfl ⟨by simp only [sg_eq, sp_n, Nat.reduceLT], hx1⟩)
  | false =>
  have h1 : decide (m < 2) = false := by
    cases h : decide (m < 2) with
    | false => rfl
    | true => simp [badM, h] at hb
  have h2 : decide (65521 < m) = false := by simpa [badM, h1] using hb
  refine Rn.reg hc rfl ?_
  simp only [sev_tmp, sev_const, sg_eq, sg_ne, sp_n, Nat.reduceLT, ne_eq, Nat.reduceEqDiff, not_false_eq_true, gd, nth, want_free, want_slot, beqB, rops, fx, ld, fad, pck, bin_lss, bin_gtr, adr_p, Nat.add_zero, Option.some.injEq, exists_eq_left', tk3, fo24_0, b0, h1, h2]
  (repeat (first | refine Rn.seq hc ?_ | refine Rn.skip hc ?_ | refine Rn.block hc ?_ | refine Rn.inBlock hc ?_ | refine Rn.scope hc ?_ | refine Rn.inScope hc ?_))
  refine Rn.condE hc rfl ?_
  simp only [sev_tmp, sg_eq, sp_n, Nat.reduceLT, Value.bool.injEq, exists_eq_left']
  (repeat (first | refine Rn.seq hc ?_ | refine Rn.skip hc ?_ | refine Rn.block hc ?_ | refine Rn.inBlock hc ?_ | refine Rn.scope hc ?_ | refine Rn.inScope hc ?_))
  cases hb2 : badN st.length ro.length with
  | true =>
    have he : errL m st ro = 2 := by simp [errL, hb, hb2]
    rw [he]
    cases h3 : decide ((60 : Int) < st.length) with
    | true =>
      refine Rn.reg hc rfl ?_
      simp only [sev_tmp, sev_const, sg_eq, sg_ne, sp_n, Nat.reduceLT, ne_eq, Nat.reduceEqDiff, not_false_eq_true, gd, nth, want_free, want_slot, beqB, rops, fx, ld, fad, lng, pck, bin_gtr, adr_p, Nat.zero_add, Option.some.injEq, exists_eq_left', tk22, fo24_1, un22, b1, h3]
      (repeat (first | refine Rn.seq hc ?_ | refine Rn.skip hc ?_ | refine Rn.block hc ?_ | refine Rn.inBlock hc ?_ | refine Rn.scope hc ?_ | refine Rn.inScope hc ?_))
      refine Rn.condE hc rfl ?_
      simp only [sev_tmp, sg_eq, sp_n, Nat.reduceLT, Value.bool.injEq, exists_eq_left']
      (repeat (first | refine Rn.seq hc ?_ | refine Rn.skip hc ?_ | refine Rn.block hc ?_ | refine Rn.inBlock hc ?_ | refine Rn.scope hc ?_ | refine Rn.inScope hc ?_))
      refine Rn.reg hc rfl ?_
      simp only [sev_const, gd, want_free, rops, fx, Option.some.injEq, exists_eq_left']
      (repeat (first | refine Rn.seq hc ?_ | refine Rn.skip hc ?_ | refine Rn.block hc ?_ | refine Rn.inBlock hc ?_ | refine Rn.scope hc ?_ | refine Rn.inScope hc ?_))
      exact Rn.ret (endQ_tmp rfl ⟨by simp only [sg_eq, sp_n, Nat.reduceLT], hx1⟩)
    | false =>
      cases h4 : decide ((ro.length : Int) < 1) with
      | true =>
        refine Rn.reg hc rfl ?_
        simp only [sev_tmp, sev_const, sg_eq, sg_ne, sp_n, Nat.reduceLT, ne_eq, Nat.reduceEqDiff, not_false_eq_true, gd, nth, want_free, want_slot, beqB, rops, fx, ld, fad, lng, pck, bin_lss, bin_gtr, adr_p, Nat.zero_add, Option.some.injEq, exists_eq_left', tk22, fo24_1, fo24_2, un22, b1, b2, h3, h4]
        (repeat (first | refine Rn.seq hc ?_ | refine Rn.skip hc ?_ | refine Rn.block hc ?_ | refine Rn.inBlock hc ?_ | refine Rn.scope hc ?_ | refine Rn.inScope hc ?_))
        refine Rn.condE hc rfl ?_
        simp only [sev_tmp, sg_eq, sp_n, Nat.reduceLT, Value.bool.injEq, exists_eq_left']
        (repeat (first | refine Rn.seq hc ?_ | refine Rn.skip hc ?_ | refine Rn.block hc ?_ | refine Rn.inBlock hc ?_ | refine Rn.scope hc ?_ | refine Rn.inScope hc ?_))
        refine Rn.reg hc rfl ?_
        simp only [sev_const, gd, want_free, rops, fx, Option.some.injEq, exists_eq_left']
        (repeat (first | refine Rn.seq hc ?_ | refine Rn.skip hc ?_ | refine Rn.block hc ?_ | refine Rn.inBlock hc ?_ | refine Rn.scope hc ?_ | refine Rn.inScope hc ?_))
        exact Rn.ret (endQ_tmp rfl ⟨by simp only [sg_eq, sp_n, Nat.reduceLT], hx1⟩)
      | false =>
        have h5 : decide ((120 : Int) < ro.length) = true := by simpa [badN, h3, h4] using hb2
        refine Rn.reg hc rfl ?_
        simp only [sev_tmp, sev_const, sg_eq, sg_ne, sp_n, Nat.reduceLT, ne_eq, Nat.reduceEqDiff, not_false_eq_true, gd, nth, want_free, want_slot, beqB, rops, fx, ld, fad, lng, pck, bin_lss, bin_gtr, adr_p, Nat.zero_add, Option.some.injEq, exists_eq_left', tk22, fo24_1, fo24_2, un22, b1, b2, h3, h4, h5]
        (repeat (first | refine Rn.seq hc ?_ | refine Rn.skip hc ?_ | refine Rn.block hc ?_ | refine Rn.inBlock hc ?_ | refine Rn.scope hc ?_ | refine Rn.inScope hc ?_))
        refine Rn.condE hc rfl ?_
        simp only [sev_tmp, sg_eq, sp_n, Nat.reduceLT, Value.bool.injEq, exists_eq_left']
        (repeat (first | refine Rn.seq hc ?_ | refine Rn.skip hc ?_ | refine Rn.block hc ?_ | refine Rn.inBlock hc ?_ | refine Rn.scope hc ?_ | refine Rn.inScope hc ?_))
        refine Rn.reg hc rfl ?_
        simp only [sev_const, gd, want_free, rops, fx, Option.some.injEq, exists_eq_left']
        (repeat (first | refine Rn.seq hc ?_ | refine Rn.skip hc ?_ | refine Rn.block hc ?_ | refine Rn.inBlock hc ?_ | refine Rn.scope hc ?_ | refine Rn.inScope hc ?_))
        exact Rn.ret (endQ_tmp rfl ⟨by simp only [sg_eq, sp_n, Nat.reduceLT], hx1⟩)
  | false =>
  have h3 : decide ((60 : Int) < st.length) = false := by
    cases h : decide ((60 : Int) < st.length) with
    | false => rfl
    | true => simp only [badN, h, Bool.true_or] at hb2; cases hb2
  have h4 : decide ((ro.length : Int) < 1) = false := by
    cases h : decide ((ro.length : Int) < 1) with
    | false => rfl
    | true => simp only [badN, h, h3, Bool.true_or, Bool.false_or] at hb2; cases hb2
  have h5 : decide ((120 : Int) < ro.length) = false := by simpa only [badN, h3, h4, Bool.false_or] using hb2
  refine Rn.reg hc rfl ?_
  simp only [sev_tmp, sev_const, sg_eq, sg_ne, sp_n, Nat.reduceLT, ne_eq, Nat.reduceEqDiff, not_false_eq_true, gd, nth, want_free, want_slot, beqB, rops, fx, ld, fad, lng, pck, bin_lss, bin_gtr, adr_p, Nat.zero_add, Option.some.injEq, exists_eq_left', tk22, fo24_1, fo24_2, un22, b1, b2, h3, h4, h5]
  (repeat (first | refine Rn.seq hc ?_ | refine Rn.skip hc ?_ | refine Rn.block hc ?_ | refine Rn.inBlock hc ?_ | refine Rn.scope hc ?_ | refine Rn.inScope hc ?_))
  refine Rn.condE hc rfl ?_
  simp only [sev_tmp, sg_eq, sp_n, Nat.reduceLT, Value.bool.injEq, exists_eq_left']
  (repeat (first | refine Rn.seq hc ?_ | refine Rn.skip hc ?_ | refine Rn.block hc ?_ | refine Rn.inBlock hc ?_ | refine Rn.scope hc ?_ | refine Rn.inScope hc ?_))
  refine Rn.reg hc rfl ?_
  simp only [sev_tmp, sev_const, sg_eq, sg_ne, sp_n, Nat.reduceLT, ne_eq, Nat.reduceEqDiff, not_false_eq_true, gd, want_free, rops, fx, ld, fad, lng, adr_p, Nat.zero_add, Option.some.injEq, exists_eq_left', tk22, fo24_1, un22, b1]
  (repeat (first | refine Rn.seq hc ?_ | refine Rn.skip hc ?_ | refine Rn.block hc ?_ | refine Rn.inBlock hc ?_ | refine Rn.scope hc ?_ | refine Rn.inScope hc ?_))
  refine Rn.loopI hc (I := fun k s A' => ∃ i, i ≤ st.length ∧ k = st.length - i ∧ A' = A1 ∧ s.n = 63 ∧ sget s 1 = .pointer (some ⟨A.next, 0, none⟩) ∧ sget s 32 = .slice sa st.length sc ∧ sget s 33 = .int .i64 (st.length : Int) ∧ sget s 34 = .int .i64 (i : Int) ∧ (st.take i).all (inB m) = true)
    (n := st.length) ⟨0, by omega, rfl, rfl, by simp only [sp_n], by simp only [sg_eq, sg_ne, sp_n, Nat.reduceLT, ne_eq, Nat.reduceEqDiff, not_false_eq_true], by simp only [sg_eq, sg_ne, sp_n, Nat.reduceLT, ne_eq, Nat.reduceEqDiff, not_false_eq_true], by simp only [sg_eq, sg_ne, sp_n, Nat.reduceLT, ne_eq, Nat.reduceEqDiff, not_false_eq_true], by simp only [sg_eq, sp_n, Nat.reduceLT]; rfl, rfl⟩ ?_
  rintro k s A' ⟨i, hi, rfl, rfl, hn, s1, s32, s33, s34, hall⟩ ih
  (repeat (first | refine Rn.seq hc ?_ | refine Rn.skip hc ?_ | refine Rn.block hc ?_ | refine Rn.inBlock hc ?_ | refine Rn.scope hc ?_ | refine Rn.inScope hc ?_))
  by_cases hlt : i < st.length
  · have hd : decide ((i : Int) < (st.length : Int)) = true := by simp; omega
    obtain ⟨bb, o, rfl, _, hbb, hcl⟩ := (hs.nx hx1 (Nat.le_refl _)) i hlt
    refine Rn.reg hc rfl ?_
    simp only [sev_tmp, gd, want_free, rops, fx, bin_lss, Option.some.injEq, exists_eq_left', s33, s34, hd]
    (repeat (first | refine Rn.seq hc ?_ | refine Rn.skip hc ?_ | refine Rn.block hc ?_ | refine Rn.inBlock hc ?_ | refine Rn.scope hc ?_ | refine Rn.inScope hc ?_))
    refine Rn.condE hc rfl ?_
    simp only [sev_tmp, sg_eq, Nat.reduceLT, Value.bool.injEq, exists_eq_left', hn]
    (repeat (first | refine Rn.seq hc ?_ | refine Rn.skip hc ?_ | refine Rn.block hc ?_ | refine Rn.inBlock hc ?_ | refine Rn.scope hc ?_ | refine Rn.inScope hc ?_))
    refine Rn.reg hc rfl ?_
    simp only [sev_tmp, sg_eq, sg_ne, sp_n, Nat.reduceLT, ne_eq, Nat.reduceEqDiff, not_false_eq_true, gd, want_free, rops, fx, ld, idx, adr_p, Option.some.injEq, exists_eq_left', Nat.mul_one, tk3, eo22, hn, s32, s34, nlen_nat hlt, hcl]
    (repeat (first | refine Rn.seq hc ?_ | refine Rn.skip hc ?_ | refine Rn.block hc ?_ | refine Rn.inBlock hc ?_ | refine Rn.scope hc ?_ | refine Rn.inScope hc ?_))
    cases hv : inB m (st.getD i 0) with
    | true =>
      have h6 : decide (st.getD i 0 < 0) = false := by simp [inB] at hv; simp; omega
      have h7 : decide (m ≤ st.getD i 0) = false := by simp [inB] at hv; simp; omega
      refine Rn.reg hc rfl ?_
      simp only [sev_tmp, sev_const, sg_eq, sg_ne, sp_n, Nat.reduceLT, ne_eq, Nat.reduceEqDiff, not_false_eq_true, gd, nth, want_free, want_slot, beqB, rops, fx, ld, fad, pck, bin_lss, bin_geq, adr_p, Nat.add_zero, Option.some.injEq, exists_eq_left', tk3, fo24_0, hn, s1, b0, h6, h7]
      (repeat (first | refine Rn.seq hc ?_ | refine Rn.skip hc ?_ | refine Rn.block hc ?_ | refine Rn.inBlock hc ?_ | refine Rn.scope hc ?_ | refine Rn.inScope hc ?_))
      refine Rn.condE hc rfl ?_
      simp only [sev_tmp, sg_eq, sp_n, Nat.reduceLT, Value.bool.injEq, exists_eq_left', hn]
      (repeat (first | refine Rn.seq hc ?_ | refine Rn.skip hc ?_ | refine Rn.block hc ?_ | refine Rn.inBlock hc ?_ | refine Rn.scope hc ?_ | refine Rn.inScope hc ?_))
      refine Rn.reg hc rfl ?_
      simp only [sev_tmp, sev_const, sg_eq, sg_ne, sp_n, Nat.reduceLT, ne_eq, Nat.reduceEqDiff, not_false_eq_true, gd, want_free, rops, fx, bin_add, Option.some.injEq, exists_eq_left', hn, s34, wrap_succ (show i < 9223372036854775807 by omega)]
      (repeat (first | refine Rn.seq hc ?_ | refine Rn.skip hc ?_ | refine Rn.block hc ?_ | refine Rn.inBlock hc ?_ | refine Rn.scope hc ?_ | refine Rn.inScope hc ?_))
      exact ih _ _ _ (by omega) ⟨i + 1, by omega, rfl, rfl, by simp only [sp_n, hn], by simp only [sg_ne, ne_eq, Nat.reduceEqDiff, not_false_eq_true, s1], by simp only [sg_ne, ne_eq, Nat.reduceEqDiff, not_false_eq_true, s32], by simp only [sg_ne, ne_eq, Nat.reduceEqDiff, not_false_eq_true, s33], by simp only [sg_eq, sp_n, Nat.reduceLT, hn], by rw [all_take _ _ 0 hlt, hall, hv]; rfl⟩
    | false =>
      have he : errL m st ro = 4 := by simp [errL, hb, hb2, all_not _ _ 0 hlt hv]
      rw [he]
      cases h6 : decide (st.getD i 0 < 0) with
      | true =>
        refine Rn.reg hc rfl ?_
        simp only [sev_tmp, sev_const, sg_eq, sg_ne, sp_n, Nat.reduceLT, ne_eq, Nat.reduceEqDiff, not_false_eq_true, gd, nth, want_free, want_slot, beqB, rops, fx, pck, bin_lss, Option.some.injEq, exists_eq_left', hn, h6]
        (repeat (first | refine Rn.seq hc ?_ | refine Rn.skip hc ?_ | refine Rn.block hc ?_ | refine Rn.inBlock hc ?_ | refine Rn.scope hc ?_ | refine Rn.inScope hc ?_))
        refine Rn.condE hc rfl ?_
        simp only [sev_tmp, sg_eq, sp_n, Nat.reduceLT, Value.bool.injEq, exists_eq_left', hn]
        (repeat (first | refine Rn.seq hc ?_ | refine Rn.skip hc ?_ | refine Rn.block hc ?_ | refine Rn.inBlock hc ?_ | refine Rn.scope hc ?_ | refine Rn.inScope hc ?_))
        refine Rn.reg hc rfl ?_
        simp only [sev_const, gd, want_free, rops, fx, Option.some.injEq, exists_eq_left']
        (repeat (first | refine Rn.seq hc ?_ | refine Rn.skip hc ?_ | refine Rn.block hc ?_ | refine Rn.inBlock hc ?_ | refine Rn.scope hc ?_ | refine Rn.inScope hc ?_))
        exact Rn.ret (endQ_tmp rfl ⟨by simp only [sg_eq, sp_n, Nat.reduceLT, hn], hx1⟩)
      | false =>
        have h7 : decide (m ≤ st.getD i 0) = true := by simp [inB] at hv; simp at h6; simp; omega
        refine Rn.reg hc rfl ?_
        simp only [sev_tmp, sev_const, sg_eq, sg_ne, sp_n, Nat.reduceLT, ne_eq, Nat.reduceEqDiff, not_false_eq_true, gd, nth, want_free, want_slot, beqB, rops, fx, ld, fad, pck, bin_lss, bin_geq, adr_p, Nat.add_zero, Option.some.injEq, exists_eq_left', tk3, fo24_0, hn, s1, b0, h6, h7]
        (repeat (first | refine Rn.seq hc ?_ | refine Rn.skip hc ?_ | refine Rn.block hc ?_ | refine Rn.inBlock hc ?_ | refine Rn.scope hc ?_ | refine Rn.inScope hc ?_))
        refine Rn.condE hc rfl ?_
        simp only [sev_tmp, sg_eq, sp_n, Nat.reduceLT, Value.bool.injEq, exists_eq_left', hn]
        (repeat (first | refine Rn.seq hc ?_ | refine Rn.skip hc ?_ | refine Rn.block hc ?_ | refine Rn.inBlock hc ?_ | refine Rn.scope hc ?_ | refine Rn.inScope hc ?_))
        refine Rn.reg hc rfl ?_
        simp only [sev_const, gd, want_free, rops, fx, Option.some.injEq, exists_eq_left']
        (repeat (first | refine Rn.seq hc ?_ | refine Rn.skip hc ?_ | refine Rn.block hc ?_ | refine Rn.inBlock hc ?_ | refine Rn.scope hc ?_ | refine Rn.inScope hc ?_))
        exact Rn.ret (endQ_tmp rfl ⟨by simp only [sg_eq, sp_n, Nat.reduceLT, hn], hx1⟩)
  · have hd : decide ((i : Int) < (st.length : Int)) = false := by simp; omega
    have hil : i = st.length := by omega
    subst hil
    rw [List.take_length] at hall
    refine Rn.reg hc rfl ?_
    simp only [sev_tmp, gd, want_free, rops, fx, bin_lss, Option.some.injEq, exists_eq_left', s33, s34, hd]
    (repeat (first | refine Rn.seq hc ?_ | refine Rn.skip hc ?_ | refine Rn.block hc ?_ | refine Rn.inBlock hc ?_ | refine Rn.scope hc ?_ | refine Rn.inScope hc ?_))
    refine Rn.condE hc rfl ?_
    simp only [sev_tmp, sg_eq, Nat.reduceLT, Value.bool.injEq, exists_eq_left', hn]
    (repeat (first | refine Rn.seq hc ?_ | refine Rn.skip hc ?_ | refine Rn.block hc ?_ | refine Rn.inBlock hc ?_ | refine Rn.scope hc ?_ | refine Rn.inScope hc ?_))
    refine Rn.exit hc rfl ?_
    (repeat (first | refine Rn.seq hc ?_ | refine Rn.skip hc ?_ | refine Rn.block hc ?_ | refine Rn.inBlock hc ?_ | refine Rn.scope hc ?_ | refine Rn.inScope hc ?_))
    refine Rn.reg hc rfl ?_
    simp only [sev_tmp, sev_const, sg_eq, sg_ne, sp_n, Nat.reduceLT, ne_eq, Nat.reduceEqDiff, not_false_eq_true, gd, want_free, rops, fx, ld, fad, lng, adr_p, Nat.zero_add, Option.some.injEq, exists_eq_left', tk22, fo24_2, un22, hn, s1, b2]
    (repeat (first | refine Rn.seq hc ?_ | refine Rn.skip hc ?_ | refine Rn.block hc ?_ | refine Rn.inBlock hc ?_ | refine Rn.scope hc ?_ | refine Rn.inScope hc ?_))
    clear ih
    refine Rn.loopI hc (I := fun k s A'' => ∃ i, i ≤ ro.length ∧ k = ro.length - i ∧ A'' = A' ∧ s.n = 63 ∧ sget s 1 = .pointer (some ⟨A.next, 0, none⟩) ∧ sget s 48 = .slice ra ro.length rc ∧ sget s 49 = .int .i64 (ro.length : Int) ∧ sget s 50 = .int .i64 (i : Int) ∧ (ro.take i).all (inB m) = true)
      (n := ro.length) ⟨0, by omega, rfl, rfl, by simp only [sp_n, hn], by simp only [sg_ne, ne_eq, Nat.reduceEqDiff, not_false_eq_true, s1], by simp only [sg_eq, sg_ne, sp_n, Nat.reduceLT, ne_eq, Nat.reduceEqDiff, not_false_eq_true, hn], by simp only [sg_eq, sg_ne, sp_n, Nat.reduceLT, ne_eq, Nat.reduceEqDiff, not_false_eq_true, hn], by simp only [sg_eq, sp_n, Nat.reduceLT, hn]; rfl, rfl⟩ ?_
    clear hn s1 s32 s33 s34 hd
    rintro k s A'' ⟨i, hi, rfl, rfl, hn, s1, s48, s49, s50, hall2⟩ ih
    (repeat (first | refine Rn.seq hc ?_ | refine Rn.skip hc ?_ | refine Rn.block hc ?_ | refine Rn.inBlock hc ?_ | refine Rn.scope hc ?_ | refine Rn.inScope hc ?_))
    by_cases hlt : i < ro.length
    · have hd : decide ((i : Int) < (ro.length : Int)) = true := by simp; omega
      obtain ⟨bb, o, rfl, _, hbb, hcl⟩ := (hr.nx hx1 (Nat.le_refl _)) i hlt
      refine Rn.reg hc rfl ?_
      simp only [sev_tmp, gd, want_free, rops, fx, bin_lss, Option.some.injEq, exists_eq_left', s49, s50, hd]
      (repeat (first | refine Rn.seq hc ?_ | refine Rn.skip hc ?_ | refine Rn.block hc ?_ | refine Rn.inBlock hc ?_ | refine Rn.scope hc ?_ | refine Rn.inScope hc ?_))
      refine Rn.condE hc rfl ?_
      simp only [sev_tmp, sg_eq, Nat.reduceLT, Value.bool.injEq, exists_eq_left', hn]
      (repeat (first | refine Rn.seq hc ?_ | refine Rn.skip hc ?_ | refine Rn.block hc ?_ | refine Rn.inBlock hc ?_ | refine Rn.scope hc ?_ | refine Rn.inScope hc ?_))
      refine Rn.reg hc rfl ?_
      simp only [sev_tmp, sg_eq, sg_ne, sp_n, Nat.reduceLT, ne_eq, Nat.reduceEqDiff, not_false_eq_true, gd, want_free, rops, fx, ld, idx, adr_p, Option.some.injEq, exists_eq_left', Nat.mul_one, tk3, eo22, hn, s48, s50, nlen_nat hlt, hcl]
      (repeat (first | refine Rn.seq hc ?_ | refine Rn.skip hc ?_ | refine Rn.block hc ?_ | refine Rn.inBlock hc ?_ | refine Rn.scope hc ?_ | refine Rn.inScope hc ?_))
      cases hv : inB m (ro.getD i 0) with
      | true =>
        have h6 : decide (ro.getD i 0 < 0) = false := by simp [inB] at hv; simp; omega
        have h7 : decide (m ≤ ro.getD i 0) = false := by simp [inB] at hv; simp; omega
        refine Rn.reg hc rfl ?_
        simp only [sev_tmp, sev_const, sg_eq, sg_ne, sp_n, Nat.reduceLT, ne_eq, Nat.reduceEqDiff, not_false_eq_true, gd, nth, want_free, want_slot, beqB, rops, fx, ld, fad, pck, bin_lss, bin_geq, adr_p, Nat.add_zero, Option.some.injEq, exists_eq_left', tk3, fo24_0, hn, s1, b0, h6, h7]
        (repeat (first | refine Rn.seq hc ?_ | refine Rn.skip hc ?_ | refine Rn.block hc ?_ | refine Rn.inBlock hc ?_ | refine Rn.scope hc ?_ | refine Rn.inScope hc ?_))
        refine Rn.condE hc rfl ?_
        simp only [sev_tmp, sg_eq, sp_n, Nat.reduceLT, Value.bool.injEq, exists_eq_left', hn]
        (repeat (first | refine Rn.seq hc ?_ | refine Rn.skip hc ?_ | refine Rn.block hc ?_ | refine Rn.inBlock hc ?_ | refine Rn.scope hc ?_ | refine Rn.inScope hc ?_))
        refine Rn.reg hc rfl ?_
        simp only [sev_tmp, sev_const, sg_eq, sg_ne, sp_n, Nat.reduceLT, ne_eq, Nat.reduceEqDiff, not_false_eq_true, gd, want_free, rops, fx, bin_add, Option.some.injEq, exists_eq_left', hn, s50, wrap_succ (show i < 9223372036854775807 by omega)]
        (repeat (first | refine Rn.seq hc ?_ | refine Rn.skip hc ?_ | refine Rn.block hc ?_ | refine Rn.inBlock hc ?_ | refine Rn.scope hc ?_ | refine Rn.inScope hc ?_))
        exact ih _ _ _ (by omega) ⟨i + 1, by omega, rfl, rfl, by simp only [sp_n, hn], by simp only [sg_ne, ne_eq, Nat.reduceEqDiff, not_false_eq_true, s1], by simp only [sg_ne, ne_eq, Nat.reduceEqDiff, not_false_eq_true, s48], by simp only [sg_ne, ne_eq, Nat.reduceEqDiff, not_false_eq_true, s49], by simp only [sg_eq, sp_n, Nat.reduceLT, hn], by rw [all_take _ _ 0 hlt, hall2, hv]; rfl⟩
      | false =>
        have he : errL m st ro = 4 := by simp [errL, hb, hb2, all_not _ _ 0 hlt hv]
        rw [he]
        cases h6 : decide (ro.getD i 0 < 0) with
        | true =>
          refine Rn.reg hc rfl ?_
          simp only [sev_tmp, sev_const, sg_eq, sg_ne, sp_n, Nat.reduceLT, ne_eq, Nat.reduceEqDiff, not_false_eq_true, gd, nth, want_free, want_slot, beqB, rops, fx, pck, bin_lss, Option.some.injEq, exists_eq_left', hn, h6]
          (repeat (first | refine Rn.seq hc ?_ | refine Rn.skip hc ?_ | refine Rn.block hc ?_ | refine Rn.inBlock hc ?_ | refine Rn.scope hc ?_ | refine Rn.inScope hc ?_))
          refine Rn.condE hc rfl ?_
          simp only [sev_tmp, sg_eq, sp_n, Nat.reduceLT, Value.bool.injEq, exists_eq_left', hn]
          (repeat (first | refine Rn.seq hc ?_ | refine Rn.skip hc ?_ | refine Rn.block hc ?_ | refine Rn.inBlock hc ?_ | refine Rn.scope hc ?_ | refine Rn.inScope hc ?_))
          refine Rn.reg hc rfl ?_
          simp only [sev_const, gd, want_free, rops, fx, Option.some.injEq, exists_eq_left']
          (repeat (first | refine Rn.seq hc ?_ | refine Rn.skip hc ?_ | refine Rn.block hc ?_ | refine Rn.inBlock hc ?_ | refine Rn.scope hc ?_ | refine Rn.inScope hc ?_))
          exact Rn.ret (endQ_tmp rfl ⟨by simp only [sg_eq, sp_n, Nat.reduceLT, hn], hx1⟩)
        | false =>
          have h7 : decide (m ≤ ro.getD i 0) = true := by simp [inB] at hv; simp at h6; simp; omega
          refine Rn.reg hc rfl ?_
          simp only [sev_tmp, sev_const, sg_eq, sg_ne, sp_n, Nat.reduceLT, ne_eq, Nat.reduceEqDiff, not_false_eq_true, gd, nth, want_free, want_slot, beqB, rops, fx, ld, fad, pck, bin_lss, bin_geq, adr_p, Nat.add_zero, Option.some.injEq, exists_eq_left', tk3, fo24_0, hn, s1, b0, h6, h7]
          (repeat (first | refine Rn.seq hc ?_ | refine Rn.skip hc ?_ | refine Rn.block hc ?_ | refine Rn.inBlock hc ?_ | refine Rn.scope hc ?_ | refine Rn.inScope hc ?_))
          refine Rn.condE hc rfl ?_
          simp only [sev_tmp, sg_eq, sp_n, Nat.reduceLT, Value.bool.injEq, exists_eq_left', hn]
          (repeat (first | refine Rn.seq hc ?_ | refine Rn.skip hc ?_ | refine Rn.block hc ?_ | refine Rn.inBlock hc ?_ | refine Rn.scope hc ?_ | refine Rn.inScope hc ?_))
          refine Rn.reg hc rfl ?_
          simp only [sev_const, gd, want_free, rops, fx, Option.some.injEq, exists_eq_left']
          (repeat (first | refine Rn.seq hc ?_ | refine Rn.skip hc ?_ | refine Rn.block hc ?_ | refine Rn.inBlock hc ?_ | refine Rn.scope hc ?_ | refine Rn.inScope hc ?_))
          exact Rn.ret (endQ_tmp rfl ⟨by simp only [sg_eq, sp_n, Nat.reduceLT, hn], hx1⟩)
    · have hd : decide ((i : Int) < (ro.length : Int)) = false := by simp; omega
      have hil : i = ro.length := by omega
      subst hil
      rw [List.take_length] at hall2
      have he : errL m st ro = 0 := by simp only [errL, hb, hb2, hall, hall2]; rfl
      rw [he]
      refine Rn.reg hc rfl ?_
      simp only [sev_tmp, gd, want_free, rops, fx, bin_lss, Option.some.injEq, exists_eq_left', s49, s50, hd]
      (repeat (first | refine Rn.seq hc ?_ | refine Rn.skip hc ?_ | refine Rn.block hc ?_ | refine Rn.inBlock hc ?_ | refine Rn.scope hc ?_ | refine Rn.inScope hc ?_))
      refine Rn.condE hc rfl ?_
      simp only [sev_tmp, sg_eq, Nat.reduceLT, Value.bool.injEq, exists_eq_left', hn]
      (repeat (first | refine Rn.seq hc ?_ | refine Rn.skip hc ?_ | refine Rn.block hc ?_ | refine Rn.inBlock hc ?_ | refine Rn.scope hc ?_ | refine Rn.inScope hc ?_))
      refine Rn.exit hc rfl ?_
      (repeat (first | refine Rn.seq hc ?_ | refine Rn.skip hc ?_ | refine Rn.block hc ?_ | refine Rn.inBlock hc ?_ | refine Rn.scope hc ?_ | refine Rn.inScope hc ?_))
      refine Rn.reg hc rfl ?_
      simp only [sev_const, gd, want_free, rops, fx, Option.some.injEq, exists_eq_left']
      (repeat (first | refine Rn.seq hc ?_ | refine Rn.skip hc ?_ | refine Rn.block hc ?_ | refine Rn.inBlock hc ?_ | refine Rn.scope hc ?_ | refine Rn.inScope hc ?_))
      exact Rn.ret (endQ_tmp rfl ⟨by simp only [sg_eq, sp_n, Nat.reduceLT, hn], hx1⟩)
end Go.Proofs.Ytdaljohmfnfgiaa
/- The error of a stream, another time. No condition. -/
namespace Go.Proofs.Ytdaljohmfnfgiaa
open Go Go.RowKit Go.Proofs.Ytdaljohmfnfgiaa.Canon
set_option maxRecDepth 20000


theorem check_one {A : AHeap} (hw : WF A) {m : Int} {sa ra : Option Addr} {sc rc : Nat} {st ro : List Int} (hs : Ints A sa 0 A.next st) (hr : Ints A ra 0 A.next ro) (ls : st.length < 4611686018427387904) (lr : ro.length < 4611686018427387904) :
    Con Try.prog 24 [.agg #[.int .i64 m, .slice sa st.length sc, .slice ra ro.length rc]] A (fun v A1 => v = .int .i64 (errL m st ro) ∧ Nx A.next A A1) := by
  refine con_of_rn hc Try.func24 rfl (Nat.le_of_ble_eq_true rfl) ?_
  obtain ⟨A1, e1, hx1, hn1, b0, b1, b2⟩ := box3 hw (.int .i64 m) (.slice sa st.length sc) (.slice ra ro.length rc) 24
  rw [s_in1]
  (repeat (first | refine Rn.seq hc ?_ | refine Rn.skip hc ?_ | refine Rn.block hc ?_ | refine Rn.inBlock hc ?_ | refine Rn.scope hc ?_ | refine Rn.inScope hc ?_))
  refine Rn.reg hc rfl ?_
  simp only [sev_tmp, sev_const, sg_eq, Nat.reduceLT, gd, want_free, rops, fx, Option.some.injEq, exists_eq_left', Value.cells, show Try.f24.ntmps = 46 from rfl, e1]
  (repeat (first | refine Rn.seq hc ?_ | refine Rn.skip hc ?_ | refine Rn.block hc ?_ | refine Rn.inBlock hc ?_ | refine Rn.scope hc ?_ | refine Rn.inScope hc ?_))
  refine Rn.region hc fun K hK => ?_
  refine Wo.run hc 2 rfl rfl rfl ?_
  simp only [List.drop_zero, List.take_succ_cons, List.take_zero, sev_tmp, sg_eq, sg_ne, sp_n, Nat.reduceLT, ne_eq, Nat.reduceEqDiff, not_false_eq_true, gd, want_free, rops, fx, ld, fad, adr_p, Nat.zero_add, Nat.add_zero, Option.some.injEq, exists_eq_left', tk3, fo24_0, b0]
  refine Wo.call hc (by rfl) (by rfl) ⟨by rfl, by rfl⟩ (xs := [.int .i64 m]) (by first | rfl | (simp only [sev_tmp, sev_const, sev_func, sg_eq, sg_ne, sp_n, sp_none, Nat.reduceLT, ne_eq, Nat.reduceEqDiff, not_false_eq_true, gd, nth, want_free, want_slot, beqB, List.map_cons, List.map_nil, Array.toList_empty, List.nil_append, List.append_nil, List.cons_append]; done) | (simp only [sev_tmp, sev_const, sev_func, sg_eq, sg_ne, sp_n, sp_none, Nat.reduceLT, ne_eq, Nat.reduceEqDiff, not_false_eq_true, gd, nth, want_free, want_slot, beqB, List.map_cons, List.map_nil, Array.toList_empty, List.nil_append, List.append_nil, List.cons_append]; rfl)) (by first | rfl | (simp only [sev_tmp, sev_const, sev_func, sg_eq, sg_ne, sp_n, sp_none, Nat.reduceLT, ne_eq, Nat.reduceEqDiff, not_false_eq_true, gd, nth, want_free, want_slot, beqB, List.map_cons, List.map_nil, Array.toList_empty, List.nil_append, List.append_nil, List.cons_append]; done) | (simp only [sev_tmp, sev_const, sev_func, sg_eq, sg_ne, sp_n, sp_none, Nat.reduceLT, ne_eq, Nat.reduceEqDiff, not_false_eq_true, gd, nth, want_free, want_slot, beqB, List.map_cons, List.map_nil, Array.toList_empty, List.nil_append, List.append_nil, List.cons_append]; rfl)) (by first | rfl | (simp only [sev_tmp, sev_const, sev_func, sg_eq, sg_ne, sp_n, sp_none, Nat.reduceLT, ne_eq, Nat.reduceEqDiff, not_false_eq_true, gd, nth, want_free, want_slot, beqB, List.map_cons, List.map_nil, Array.toList_empty, List.nil_append, List.append_nil, List.cons_append]; done) | (simp only [sev_tmp, sev_const, sev_func, sg_eq, sg_ne, sp_n, sp_none, Nat.reduceLT, ne_eq, Nat.reduceEqDiff, not_false_eq_true, gd, nth, want_free, want_slot, beqB, List.map_cons, List.map_nil, Array.toList_empty, List.nil_append, List.append_nil, List.cons_append]; rfl)) (Con.mono (within hx1.wf m) ?_)
  rintro v A2 ⟨rfl, w0, hx2, hn2⟩
  refine Wo.run hc 1 rfl rfl rfl ?_
  simp only [List.drop_zero, List.drop_succ_cons, List.take_succ_cons, List.take_zero, sev_tmp, sg_eq, sp_n, Nat.reduceLT, gd, want_free, rops, fx, Option.some.injEq, exists_eq_left', Nat.reduceAdd]
  refine Wo.done hc rfl (hK _ _ ?_)
  clear hK
  (repeat (first | refine Rn.seq hc ?_ | refine Rn.skip hc ?_ | refine Rn.block hc ?_ | refine Rn.inBlock hc ?_ | refine Rn.scope hc ?_ | refine Rn.inScope hc ?_))
  have hxx : Nx A.next A A2 := hx1.trans (hx2.le hx1.next)
  have b0 := (hx2.cl (show A.next < A1.next by omega) 0).trans b0
  have b1 := (hx2.cl (show A.next < A1.next by omega) 1).trans b1
  have b2 := (hx2.cl (show A.next < A1.next by omega) 2).trans b2
  have hs2 : Ints A2 sa 0 A2.next st := (hs.nx hxx (Nat.le_refl _)).mono (Nat.le_refl _) hxx.next
  have hr2 : Ints A2 ra 0 A2.next ro := (hr.nx hxx (Nat.le_refl _)).mono (Nat.le_refl _) hxx.next
  cases hb : badM m with
  | true =>
    have he : errL m st ro = 3 := by simp [errL, hb]
    rw [he]
    cases h1 : decide (m < 2) with
    | true =>
      refine Rn.reg hc rfl ?_
      simp only [sev_tmp, sev_const, sg_eq, sg_ne, sp_n, Nat.reduceLT, ne_eq, Nat.reduceEqDiff, not_false_eq_true, gd, nth, want_free, want_slot, beqB, rops, fx, ld, fad, pck, bin_lss, adr_p, Nat.add_zero, Option.some.injEq, exists_eq_left', tk3, fo24_0, b0, h1]
      (repeat (first | refine Rn.seq hc ?_ | refine Rn.skip hc ?_ | refine Rn.block hc ?_ | refine Rn.inBlock hc ?_ | refine Rn.scope hc ?_ | refine Rn.inScope hc ?_))
      refine Rn.condE hc rfl ?_
      simp only [sev_tmp, sg_eq, sp_n, Nat.reduceLT, Value.bool.injEq, exists_eq_left']
      (repeat (first | refine Rn.seq hc ?_ | refine Rn.skip hc ?_ | refine Rn.block hc ?_ | refine Rn.inBlock hc ?_ | refine Rn.scope hc ?_ | refine Rn.inScope hc ?_))
      refine Rn.reg hc rfl ?_
      simp only [sev_const, gd, want_free, rops, fx, Option.some.injEq, exists_eq_left']
      (repeat (first | refine Rn.seq hc ?_ | refine Rn.skip hc ?_ | refine Rn.block hc ?_ | refine Rn.inBlock hc ?_ | refine Rn.scope hc ?_ | refine Rn.inScope hc ?_))
      exact Rn.ret (endQ_tmp rfl ⟨by simp only [sg_eq, sp_n, Nat.reduceLT], hxx⟩)
    | false =>
      have h2 : decide (65521 < m) = true := by simpa [badM, h1] using hb
      refine Rn.reg hc rfl ?_
      simp only [sev_tmp, sev_const, sg_eq, sg_ne, sp_n, Nat.reduceLT, ne_eq, Nat.reduceEqDiff, not_false_eq_true, gd, nth, want_free, want_slot, beqB, rops, fx, ld, fad, pck, bin_lss, bin_gtr, adr_p, Nat.add_zero, Option.some.injEq, exists_eq_left', tk3, fo24_0, b0, h1, h2]
      (repeat (first | refine Rn.seq hc ?_ | refine Rn.skip hc ?_ | refine Rn.block hc ?_ | refine Rn.inBlock hc ?_ | refine Rn.scope hc ?_ | refine Rn.inScope hc ?_))
      refine Rn.condE hc rfl ?_
      simp only [sev_tmp, sg_eq, sp_n, Nat.reduceLT, Value.bool.injEq, exists_eq_left']
      (repeat (first | refine Rn.seq hc ?_ | refine Rn.skip hc ?_ | refine Rn.block hc ?_ | refine Rn.inBlock hc ?_ | refine Rn.scope hc ?_ | refine Rn.inScope hc ?_))
      refine Rn.reg hc rfl ?_
      simp only [sev_const, gd, want_free, rops, fx, Option.some.injEq, exists_eq_left']
      (repeat (first | refine Rn.seq hc ?_ | refine Rn.skip hc ?_ | refine Rn.block hc ?_ | refine Rn.inBlock hc ?_ | refine Rn.scope hc ?_ | refine Rn.inScope hc ?_))
      exact Rn.ret (endQ_tmp rfl ⟨by simp only [sg_eq, sp_n, Nat.reduceLT], hxx⟩)
  | false =>
  have h1 : decide (m < 2) = false := by
    cases h : decide (m < 2) with
    | false => rfl
    | true => simp [badM, h] at hb
  have h2 : decide (65521 < m) = false := by simpa [badM, h1] using hb
  refine Rn.reg hc rfl ?_
  simp only [sev_tmp, sev_const, sg_eq, sg_ne, sp_n, Nat.reduceLT, ne_eq, Nat.reduceEqDiff, not_false_eq_true, gd, nth, want_free, want_slot, beqB, rops, fx, ld, fad, pck, bin_lss, bin_gtr, adr_p, Nat.add_zero, Option.some.injEq, exists_eq_left', tk3, fo24_0, b0, h1, h2]
  (repeat (first | refine Rn.seq hc ?_ | refine Rn.skip hc ?_ | refine Rn.block hc ?_ | refine Rn.inBlock hc ?_ | refine Rn.scope hc ?_ | refine Rn.inScope hc ?_))
  refine Rn.condE hc rfl ?_
  simp only [sev_tmp, sg_eq, sp_n, Nat.reduceLT, Value.bool.injEq, exists_eq_left']
  (repeat (first | refine Rn.seq hc ?_ | refine Rn.skip hc ?_ | refine Rn.block hc ?_ | refine Rn.inBlock hc ?_ | refine Rn.scope hc ?_ | refine Rn.inScope hc ?_))
  cases hb2 : badN st.length ro.length with
  | true =>
    have he : errL m st ro = 2 := by simp [errL, hb, hb2]
    rw [he]
    cases h3 : decide ((60 : Int) < st.length) with
    | true =>
      refine Rn.reg hc rfl ?_
      simp only [sev_tmp, sev_const, sg_eq, sg_ne, sp_n, Nat.reduceLT, ne_eq, Nat.reduceEqDiff, not_false_eq_true, gd, nth, want_free, want_slot, beqB, rops, fx, ld, fad, lng, pck, bin_gtr, adr_p, Nat.zero_add, Option.some.injEq, exists_eq_left', tk22, fo24_1, un22, b1, h3]
      (repeat (first | refine Rn.seq hc ?_ | refine Rn.skip hc ?_ | refine Rn.block hc ?_ | refine Rn.inBlock hc ?_ | refine Rn.scope hc ?_ | refine Rn.inScope hc ?_))
      refine Rn.condE hc rfl ?_
      simp only [sev_tmp, sg_eq, sp_n, Nat.reduceLT, Value.bool.injEq, exists_eq_left']
      (repeat (first | refine Rn.seq hc ?_ | refine Rn.skip hc ?_ | refine Rn.block hc ?_ | refine Rn.inBlock hc ?_ | refine Rn.scope hc ?_ | refine Rn.inScope hc ?_))
      refine Rn.reg hc rfl ?_
      simp only [sev_const, gd, want_free, rops, fx, Option.some.injEq, exists_eq_left']
      (repeat (first | refine Rn.seq hc ?_ | refine Rn.skip hc ?_ | refine Rn.block hc ?_ | refine Rn.inBlock hc ?_ | refine Rn.scope hc ?_ | refine Rn.inScope hc ?_))
      exact Rn.ret (endQ_tmp rfl ⟨by simp only [sg_eq, sp_n, Nat.reduceLT], hxx⟩)
    | false =>
      cases h4 : decide ((ro.length : Int) < 1) with
      | true =>
        refine Rn.reg hc rfl ?_
        simp only [sev_tmp, sev_const, sg_eq, sg_ne, sp_n, Nat.reduceLT, ne_eq, Nat.reduceEqDiff, not_false_eq_true, gd, nth, want_free, want_slot, beqB, rops, fx, ld, fad, lng, pck, bin_lss, bin_gtr, adr_p, Nat.zero_add, Option.some.injEq, exists_eq_left', tk22, fo24_1, fo24_2, un22, b1, b2, h3, h4]
        (repeat (first | refine Rn.seq hc ?_ | refine Rn.skip hc ?_ | refine Rn.block hc ?_ | refine Rn.inBlock hc ?_ | refine Rn.scope hc ?_ | refine Rn.inScope hc ?_))
        refine Rn.condE hc rfl ?_
        simp only [sev_tmp, sg_eq, sp_n, Nat.reduceLT, Value.bool.injEq, exists_eq_left']
        (repeat (first | refine Rn.seq hc ?_ | refine Rn.skip hc ?_ | refine Rn.block hc ?_ | refine Rn.inBlock hc ?_ | refine Rn.scope hc ?_ | refine Rn.inScope hc ?_))
        refine Rn.reg hc rfl ?_
        simp only [sev_const, gd, want_free, rops, fx, Option.some.injEq, exists_eq_left']
        (repeat (first | refine Rn.seq hc ?_ | refine Rn.skip hc ?_ | refine Rn.block hc ?_ | refine Rn.inBlock hc ?_ | refine Rn.scope hc ?_ | refine Rn.inScope hc ?_))
        exact Rn.ret (endQ_tmp rfl ⟨by simp only [sg_eq, sp_n, Nat.reduceLT], hxx⟩)
      | false =>
        have h5 : decide ((120 : Int) < ro.length) = true := by simpa [badN, h3, h4] using hb2
        refine Rn.reg hc rfl ?_
        simp only [sev_tmp, sev_const, sg_eq, sg_ne, sp_n, Nat.reduceLT, ne_eq, Nat.reduceEqDiff, not_false_eq_true, gd, nth, want_free, want_slot, beqB, rops, fx, ld, fad, lng, pck, bin_lss, bin_gtr, adr_p, Nat.zero_add, Option.some.injEq, exists_eq_left', tk22, fo24_1, fo24_2, un22, b1, b2, h3, h4, h5]
        (repeat (first | refine Rn.seq hc ?_ | refine Rn.skip hc ?_ | refine Rn.block hc ?_ | refine Rn.inBlock hc ?_ | refine Rn.scope hc ?_ | refine Rn.inScope hc ?_))
        refine Rn.condE hc rfl ?_
        simp only [sev_tmp, sg_eq, sp_n, Nat.reduceLT, Value.bool.injEq, exists_eq_left']
        (repeat (first | refine Rn.seq hc ?_ | refine Rn.skip hc ?_ | refine Rn.block hc ?_ | refine Rn.inBlock hc ?_ | refine Rn.scope hc ?_ | refine Rn.inScope hc ?_))
        refine Rn.reg hc rfl ?_
        simp only [sev_const, gd, want_free, rops, fx, Option.some.injEq, exists_eq_left']
        (repeat (first | refine Rn.seq hc ?_ | refine Rn.skip hc ?_ | refine Rn.block hc ?_ | refine Rn.inBlock hc ?_ | refine Rn.scope hc ?_ | refine Rn.inScope hc ?_))
        exact Rn.ret (endQ_tmp rfl ⟨by simp only [sg_eq, sp_n, Nat.reduceLT], hxx⟩)
  | false =>
  have h3 : decide ((60 : Int) < st.length) = false := by
    cases h : decide ((60 : Int) < st.length) with
    | false => rfl
    | true => simp only [badN, h, Bool.true_or] at hb2; cases hb2
  have h4 : decide ((ro.length : Int) < 1) = false := by
    cases h : decide ((ro.length : Int) < 1) with
    | false => rfl
    | true => simp only [badN, h, h3, Bool.true_or, Bool.false_or] at hb2; cases hb2
  have h5 : decide ((120 : Int) < ro.length) = false := by simpa only [badN, h3, h4, Bool.false_or] using hb2
  refine Rn.reg hc rfl ?_
  simp only [sev_tmp, sev_const, sg_eq, sg_ne, sp_n, Nat.reduceLT, ne_eq, Nat.reduceEqDiff, not_false_eq_true, gd, nth, want_free, want_slot, beqB, rops, fx, ld, fad, lng, pck, bin_lss, bin_gtr, adr_p, Nat.zero_add, Option.some.injEq, exists_eq_left', tk22, fo24_1, fo24_2, un22, b1, b2, h3, h4, h5]
  (repeat (first | refine Rn.seq hc ?_ | refine Rn.skip hc ?_ | refine Rn.block hc ?_ | refine Rn.inBlock hc ?_ | refine Rn.scope hc ?_ | refine Rn.inScope hc ?_))
  refine Rn.condE hc rfl ?_
  simp only [sev_tmp, sg_eq, sp_n, Nat.reduceLT, Value.bool.injEq, exists_eq_left']
  (repeat (first | refine Rn.seq hc ?_ | refine Rn.skip hc ?_ | refine Rn.block hc ?_ | refine Rn.inBlock hc ?_ | refine Rn.scope hc ?_ | refine Rn.inScope hc ?_))
  refine Rn.region hc fun K hK => ?_
  refine Wo.run hc 3 rfl rfl rfl ?_
  simp only [List.drop_zero, List.take_succ_cons, List.take_zero, sev_tmp, sg_eq, sg_ne, sp_n, Nat.reduceLT, ne_eq, Nat.reduceEqDiff, not_false_eq_true, gd, want_free, rops, fx, ld, fad, adr_p, Nat.zero_add, Option.some.injEq, exists_eq_left', tk22, fo24_1, b1]
  refine Wo.call hc (by rfl) (by rfl) ⟨by rfl, by rfl⟩ (xs := [.slice sa st.length sc, .func (.func 105) #[] #[.pointer (some ⟨A1.next, 0, none⟩)]]) (by first | rfl | (simp only [sev_tmp, sev_const, sev_func, sg_eq, sg_ne, sp_n, sp_none, Nat.reduceLT, ne_eq, Nat.reduceEqDiff, not_false_eq_true, gd, nth, want_free, want_slot, beqB, List.map_cons, List.map_nil, Array.toList_empty, List.nil_append, List.append_nil, List.cons_append]; done) | (simp only [sev_tmp, sev_const, sev_func, sg_eq, sg_ne, sp_n, sp_none, Nat.reduceLT, ne_eq, Nat.reduceEqDiff, not_false_eq_true, gd, nth, want_free, want_slot, beqB, List.map_cons, List.map_nil, Array.toList_empty, List.nil_append, List.append_nil, List.cons_append]; rfl)) (by first | rfl | (simp only [sev_tmp, sev_const, sev_func, sg_eq, sg_ne, sp_n, sp_none, Nat.reduceLT, ne_eq, Nat.reduceEqDiff, not_false_eq_true, gd, nth, want_free, want_slot, beqB, List.map_cons, List.map_nil, Array.toList_empty, List.nil_append, List.append_nil, List.cons_append]; done) | (simp only [sev_tmp, sev_const, sev_func, sg_eq, sg_ne, sp_n, sp_none, Nat.reduceLT, ne_eq, Nat.reduceEqDiff, not_false_eq_true, gd, nth, want_free, want_slot, beqB, List.map_cons, List.map_nil, Array.toList_empty, List.nil_append, List.append_nil, List.cons_append]; rfl)) (by first | rfl | (simp only [sev_tmp, sev_const, sev_func, sg_eq, sg_ne, sp_n, sp_none, Nat.reduceLT, ne_eq, Nat.reduceEqDiff, not_false_eq_true, gd, nth, want_free, want_slot, beqB, List.map_cons, List.map_nil, Array.toList_empty, List.nil_append, List.append_nil, List.cons_append]; done) | (simp only [sev_tmp, sev_const, sev_func, sg_eq, sg_ne, sp_n, sp_none, Nat.reduceLT, ne_eq, Nat.reduceEqDiff, not_false_eq_true, gd, nth, want_free, want_slot, beqB, List.map_cons, List.map_nil, Array.toList_empty, List.nil_append, List.append_nil, List.cons_append]; rfl)) (Con.mono (every_int hs2 ls w0) ?_)
  rintro v A3 ⟨rfl, rfl⟩
  cases hv : st.all (inB m) with
  | false =>
    have he : errL m st ro = 4 := by simp only [errL, hb, hb2, hv]; rfl
    refine Wo.run hc 9 rfl rfl rfl ?_
    simp only [List.drop_zero, List.drop_succ_cons, List.take_succ_cons, List.take_zero, sev_tmp, sev_const, sg_eq, sg_ne, sp_n, Nat.reduceLT, ne_eq, Nat.reduceEqDiff, not_false_eq_true, gd, nth, want_free, want_slot, beqB, rops, fx, pck, Option.some.injEq, exists_eq_left', Nat.reduceAdd, Bool.not_false, ae_not', Bool.not_false]
    refine Wo.done hc rfl (hK _ _ ?_)
    rw [he]
    (repeat (first | refine Rn.seq hc ?_ | refine Rn.skip hc ?_ | refine Rn.block hc ?_ | refine Rn.inBlock hc ?_ | refine Rn.scope hc ?_ | refine Rn.inScope hc ?_))
    refine Rn.condE hc rfl ?_
    simp only [sev_tmp, sg_eq, sp_n, Nat.reduceLT, Value.bool.injEq, exists_eq_left']
    (repeat (first | refine Rn.seq hc ?_ | refine Rn.skip hc ?_ | refine Rn.block hc ?_ | refine Rn.inBlock hc ?_ | refine Rn.scope hc ?_ | refine Rn.inScope hc ?_))
    refine Rn.reg hc rfl ?_
    simp only [sev_const, gd, want_free, rops, fx, Option.some.injEq, exists_eq_left']
    (repeat (first | refine Rn.seq hc ?_ | refine Rn.skip hc ?_ | refine Rn.block hc ?_ | refine Rn.inBlock hc ?_ | refine Rn.scope hc ?_ | refine Rn.inScope hc ?_))
    exact Rn.ret (endQ_tmp rfl ⟨by simp only [sg_eq, sp_n, Nat.reduceLT], hxx⟩)
  | true =>
    refine Wo.run hc 5 rfl rfl rfl ?_
    simp only [List.drop_zero, List.drop_succ_cons, List.take_succ_cons, List.take_zero, sev_tmp, sg_eq, sg_ne, sp_n, Nat.reduceLT, ne_eq, Nat.reduceEqDiff, not_false_eq_true, gd, nth, want_free, want_slot, beqB, rops, fx, ld, fad, adr_p, Nat.zero_add, Option.some.injEq, exists_eq_left', Nat.reduceAdd, Bool.not_true, ae_not', Bool.not_true, tk22, fo24_2, b2]
    refine Wo.call hc (by rfl) (by rfl) ⟨by rfl, by rfl⟩ (xs := [.slice ra ro.length rc, .func (.func 105) #[] #[.pointer (some ⟨A1.next, 0, none⟩)]]) (by first | rfl | (simp only [sev_tmp, sev_const, sev_func, sg_eq, sg_ne, sp_n, sp_none, Nat.reduceLT, ne_eq, Nat.reduceEqDiff, not_false_eq_true, gd, nth, want_free, want_slot, beqB, List.map_cons, List.map_nil, Array.toList_empty, List.nil_append, List.append_nil, List.cons_append, hv]; done) | (simp only [sev_tmp, sev_const, sev_func, sg_eq, sg_ne, sp_n, sp_none, Nat.reduceLT, ne_eq, Nat.reduceEqDiff, not_false_eq_true, gd, nth, want_free, want_slot, beqB, List.map_cons, List.map_nil, Array.toList_empty, List.nil_append, List.append_nil, List.cons_append, hv]; rfl)) (by first | rfl | (simp only [sev_tmp, sev_const, sev_func, sg_eq, sg_ne, sp_n, sp_none, Nat.reduceLT, ne_eq, Nat.reduceEqDiff, not_false_eq_true, gd, nth, want_free, want_slot, beqB, List.map_cons, List.map_nil, Array.toList_empty, List.nil_append, List.append_nil, List.cons_append, hv]; done) | (simp only [sev_tmp, sev_const, sev_func, sg_eq, sg_ne, sp_n, sp_none, Nat.reduceLT, ne_eq, Nat.reduceEqDiff, not_false_eq_true, gd, nth, want_free, want_slot, beqB, List.map_cons, List.map_nil, Array.toList_empty, List.nil_append, List.append_nil, List.cons_append, hv]; rfl)) (by first | rfl | (simp only [sev_tmp, sev_const, sev_func, sg_eq, sg_ne, sp_n, sp_none, Nat.reduceLT, ne_eq, Nat.reduceEqDiff, not_false_eq_true, gd, nth, want_free, want_slot, beqB, List.map_cons, List.map_nil, Array.toList_empty, List.nil_append, List.append_nil, List.cons_append, hv]; done) | (simp only [sev_tmp, sev_const, sev_func, sg_eq, sg_ne, sp_n, sp_none, Nat.reduceLT, ne_eq, Nat.reduceEqDiff, not_false_eq_true, gd, nth, want_free, want_slot, beqB, List.map_cons, List.map_nil, Array.toList_empty, List.nil_append, List.append_nil, List.cons_append, hv]; rfl)) (Con.mono (every_int hr2 lr w0) ?_)
    rintro v A4 ⟨rfl, rfl⟩
    refine Wo.run hc 3 rfl rfl rfl ?_
    simp only [List.drop_zero, List.drop_succ_cons, List.take_succ_cons, List.take_zero, sev_tmp, sg_eq, sg_ne, sp_n, Nat.reduceLT, ne_eq, Nat.reduceEqDiff, not_false_eq_true, gd, nth, want_free, want_slot, beqB, rops, fx, pck, Option.some.injEq, exists_eq_left', Nat.reduceAdd, ae_not']
    refine Wo.done hc rfl (hK _ _ ?_)
    (repeat (first | refine Rn.seq hc ?_ | refine Rn.skip hc ?_ | refine Rn.block hc ?_ | refine Rn.inBlock hc ?_ | refine Rn.scope hc ?_ | refine Rn.inScope hc ?_))
    cases hv2 : ro.all (inB m) with
    | false =>
      have he : errL m st ro = 4 := by simp only [errL, hb, hb2, hv, hv2]; rfl
      rw [he]
      refine Rn.condE hc rfl ?_
      simp only [sev_tmp, sg_eq, sp_n, Nat.reduceLT, Value.bool.injEq, exists_eq_left']
      (repeat (first | refine Rn.seq hc ?_ | refine Rn.skip hc ?_ | refine Rn.block hc ?_ | refine Rn.inBlock hc ?_ | refine Rn.scope hc ?_ | refine Rn.inScope hc ?_))
      refine Rn.reg hc rfl ?_
      simp only [sev_const, gd, want_free, rops, fx, Option.some.injEq, exists_eq_left', Bool.not_false, Bool.not_false]
      (repeat (first | refine Rn.seq hc ?_ | refine Rn.skip hc ?_ | refine Rn.block hc ?_ | refine Rn.inBlock hc ?_ | refine Rn.scope hc ?_ | refine Rn.inScope hc ?_))
      exact Rn.ret (endQ_tmp rfl ⟨by simp only [sg_eq, sp_n, Nat.reduceLT], hxx⟩)
    | true =>
      have he : errL m st ro = 0 := by simp only [errL, hb, hb2, hv, hv2]; rfl
      rw [he]
      refine Rn.condE hc rfl ?_
      simp only [sev_tmp, sg_eq, sp_n, Nat.reduceLT, Value.bool.injEq, exists_eq_left']
      (repeat (first | refine Rn.seq hc ?_ | refine Rn.skip hc ?_ | refine Rn.block hc ?_ | refine Rn.inBlock hc ?_ | refine Rn.scope hc ?_ | refine Rn.inScope hc ?_))
      refine Rn.reg hc rfl ?_
      simp only [sev_const, gd, want_free, rops, fx, Option.some.injEq, exists_eq_left', Bool.not_true, Bool.not_true]
      (repeat (first | refine Rn.seq hc ?_ | refine Rn.skip hc ?_ | refine Rn.block hc ?_ | refine Rn.inBlock hc ?_ | refine Rn.scope hc ?_ | refine Rn.inScope hc ?_))
      exact Rn.ret (endQ_tmp rfl ⟨by simp only [sg_eq, sp_n, Nat.reduceLT], hxx⟩)
end Go.Proofs.Ytdaljohmfnfgiaa
/- The error of several streams. No condition. -/
namespace Go.Proofs.Ytdaljohmfnfgiaa
open Go Go.RowKit Go.Proofs.Ytdaljohmfnfgiaa.Canon
set_option maxRecDepth 20000


/-- A stream, where it lies. -/
structure Las where
  m : Int
  sa : Option Addr
  sc : Nat
  st : List Int
  ra : Option Addr
  rc : Nat
  ro : List Int
def Las.ok (x : Las) (A : AHeap) : Prop := Ints A x.sa 0 A.next x.st ∧ Ints A x.ra 0 A.next x.ro ∧ x.st.length < 4611686018427387904 ∧ x.ro.length < 4611686018427387904
theorem Las.ok.nx {x : Las} {A B : AHeap} (h : x.ok A) (hx : Nx A.next A B) : x.ok B :=
  ⟨(h.1.nx hx (Nat.le_refl _)).mono (Nat.le_refl _) hx.next, (h.2.1.nx hx (Nat.le_refl _)).mono (Nat.le_refl _) hx.next, h.2.2⟩
def Las.err (x : Las) : Int := errL x.m x.st x.ro
def noLas : Las := ⟨0, none, 0, [], none, 0, []⟩
/-- Several, in a row. -/
def LRow (A : AHeap) (a : Option Addr) (l : List Las) : Prop := ∀ i, i < l.length → (l.getD i noLas).ok A ∧ ∃ b o, a = some ⟨b, o, none⟩ ∧ b < A.next ∧ cl A b (o + i * 3) = some (.int .i64 (l.getD i noLas).m) ∧ cl A b (o + i * 3 + 1) = some (.slice (l.getD i noLas).sa (l.getD i noLas).st.length (l.getD i noLas).sc) ∧ cl A b (o + i * 3 + 2) = some (.slice (l.getD i noLas).ra (l.getD i noLas).ro.length (l.getD i noLas).rc)
theorem LRow.nx {A B : AHeap} {a : Option Addr} {l : List Las} (h : LRow A a l) (hx : Nx A.next A B) : LRow B a l := fun i hi => by
  obtain ⟨h1, b, o, h2, h3, h4, h5, h6⟩ := h i hi
  exact ⟨h1.nx hx, b, o, h2, by have := hx.next; omega, by rw [hx.cl h3]; exact h4, by rw [hx.cl h3]; exact h5, by rw [hx.cl h3]; exact h6⟩
def clash (m : Int) (l : List Las) : Int := if l.all (fun x => decide (x.m = m)) = true then 0 else 7
def errs : List Las → List Las → Int
  | all, [] => clash (all.getD 0 noLas).m all
  | all, x :: l => if x.err = 0 then errs all l else x.err
theorem errs_drop (all : List Las) {l : List Las} {i : Nat} (hi : i < l.length) : errs all (l.drop i) = if (l.getD i noLas).err = 0 then errs all (l.drop (i + 1)) else (l.getD i noLas).err := by
  rw [List.drop_eq_getElem_cons hi, errs, List.getD_eq_getElem?_getD, List.getElem?_eq_getElem hi]
  rfl
theorem put24 {A : AHeap} (hw : WF A) {v0 v1 v2 : Value} (h : [v0, v1, v2].all isCell = true) : ∃ A2, sts (A.push (.cells #[.int .i64 0, .slice none 0 0, .slice none 0 0] 24)) A.next 0 [v0, v1, v2] = some A2 ∧ Nx A.next A A2 ∧ A2.next = A.next + 1 ∧ cl A2 A.next 0 = some v0 ∧ cl A2 A.next 1 = some v1 ∧ cl A2 A.next 2 = some v2 := by
  have hx1 : Nx A.next A (A.push (.cells #[.int .i64 0, .slice none 0 0, .slice none 0 0] 24)) := (Nx.refl hw _).push (Nat.le_refl _) _
  obtain ⟨A2, c2, q1, q2, q3, q4⟩ := sts_upd (l := [v0, v1, v2]) (o := 0) (look_push_eq A (.cells #[.int .i64 0, .slice none 0 0, .slice none 0 0] 24)) rfl (by simp) h
  exact ⟨A2, q1, hx1.trans (q2.nx hx1.wf (Nat.le_refl _)), q2.next, by rw [q2.cl, q4]; rfl, by rw [q2.cl, q4]; rfl, by rw [q2.cl, q4]; rfl⟩

theorem check_all {A : AHeap} (hw : WF A) {a : Option Addr} {c : Nat} {l : List Las} (hl : LRow A a l) (hlen : l.length < 4611686018427387904) :
    Con Try.prog 68 [.slice a l.length c] A (fun v A1 => v = .int .i64 (errs l l) ∧ Nx A.next A A1) := by
  refine con_of_rn hc Try.func68 rfl (Nat.le_of_ble_eq_true rfl) ?_
  rw [s_in1]
  (repeat (first | refine Rn.seq hc ?_ | refine Rn.skip hc ?_ | refine Rn.block hc ?_ | refine Rn.inBlock hc ?_ | refine Rn.scope hc ?_ | refine Rn.inScope hc ?_))
  refine Rn.reg hc rfl ?_
  simp only [sev_const, gd, want_free, rops, fx, Option.some.injEq, exists_eq_left', show Try.f68.ntmps = 34 from rfl]
  (repeat (first | refine Rn.seq hc ?_ | refine Rn.skip hc ?_ | refine Rn.block hc ?_ | refine Rn.inBlock hc ?_ | refine Rn.scope hc ?_ | refine Rn.inScope hc ?_))
  refine Rn.reg hc rfl ?_
  simp only [sev_tmp, sev_const, sg_eq, sg_ne, sp_n, Nat.reduceLT, ne_eq, Nat.reduceEqDiff, not_false_eq_true, gd, want_free, rops, fx, lng, Option.some.injEq, exists_eq_left', un46]
  (repeat (first | refine Rn.seq hc ?_ | refine Rn.skip hc ?_ | refine Rn.block hc ?_ | refine Rn.inBlock hc ?_ | refine Rn.scope hc ?_ | refine Rn.inScope hc ?_))
  refine Rn.loopI hc (I := fun k s A' => ∃ i, i ≤ l.length ∧ k = l.length - i ∧ Nx A.next A A' ∧ s.n = 34 ∧ sget s 0 = .slice a l.length c ∧ sget s 8 = .slice a l.length c ∧ sget s 9 = .int .i64 (l.length : Int) ∧ sget s 10 = .int .i64 (i : Int) ∧ errs l l = errs l (l.drop i))
    (n := l.length) ⟨0, by omega, rfl, Nx.refl hw _, by simp only [sp_n], by simp only [sg_eq, sg_ne, Nat.reduceLT, ne_eq, Nat.reduceEqDiff, not_false_eq_true], by simp only [sg_eq, sg_ne, sp_n, Nat.reduceLT, ne_eq, Nat.reduceEqDiff, not_false_eq_true], by simp only [sg_eq, sg_ne, sp_n, Nat.reduceLT, ne_eq, Nat.reduceEqDiff, not_false_eq_true], by simp only [sg_eq, sp_n, Nat.reduceLT]; rfl, rfl⟩ ?_
  rintro k s A' ⟨i, hi, rfl, hA, hn, s0, s8, s9, s10, hall⟩ ih
  (repeat (first | refine Rn.seq hc ?_ | refine Rn.skip hc ?_ | refine Rn.block hc ?_ | refine Rn.inBlock hc ?_ | refine Rn.scope hc ?_ | refine Rn.inScope hc ?_))
  by_cases hlt : i < l.length
  · have hd : decide ((i : Int) < (l.length : Int)) = true := by simp; omega
    obtain ⟨hok, b, o, rfl, hbb, c0, c1, c2⟩ := (hl.nx hA) i hlt
    rw [errs_drop l hlt] at hall
    obtain ⟨A2, p1, hx2, hn2, d0, d1, d2⟩ := put24 hA.wf (v0 := .int .i64 (l.getD i noLas).m) (v1 := .slice (l.getD i noLas).sa (l.getD i noLas).st.length (l.getD i noLas).sc) (v2 := .slice (l.getD i noLas).ra (l.getD i noLas).ro.length (l.getD i noLas).rc) rfl
    have hok2 := hok.nx hx2
    refine Rn.reg hc rfl ?_
    simp only [sev_tmp, gd, want_free, rops, fx, bin_lss, Option.some.injEq, exists_eq_left', s9, s10, hd]
    (repeat (first | refine Rn.seq hc ?_ | refine Rn.skip hc ?_ | refine Rn.block hc ?_ | refine Rn.inBlock hc ?_ | refine Rn.scope hc ?_ | refine Rn.inScope hc ?_))
    refine Rn.condE hc rfl ?_
    simp only [sev_tmp, sg_eq, Nat.reduceLT, Value.bool.injEq, exists_eq_left', hn]
    (repeat (first | refine Rn.seq hc ?_ | refine Rn.skip hc ?_ | refine Rn.block hc ?_ | refine Rn.inBlock hc ?_ | refine Rn.scope hc ?_ | refine Rn.inScope hc ?_))
    refine Rn.reg hc rfl ?_
    simp only [sev_tmp, sg_eq, sg_ne, sp_n, sp_none, Nat.reduceLT, ne_eq, Nat.reduceEqDiff, not_false_eq_true, gd, want_free, rops, fx, ld, str, idx, adr_p, cls, Nat.zero_add, Option.some.injEq, exists_eq_left', Value.cells, Nat.reduceAdd, tk24, eo46, hn, s8, s10, nlen_nat hlt, c0, c1, c2, ze24, p1, List.size_toArray, List.length_cons, List.length_nil, Nat.beq_refl]
    (repeat (first | refine Rn.seq hc ?_ | refine Rn.skip hc ?_ | refine Rn.block hc ?_ | refine Rn.inBlock hc ?_ | refine Rn.scope hc ?_ | refine Rn.inScope hc ?_))
    refine Rn.region hc fun K hK => ?_
    refine Wo.run hc 1 rfl rfl rfl ?_
    simp only [List.drop_zero, List.take_succ_cons, List.take_zero, sev_tmp, sg_eq, sp_n, Nat.reduceLT, gd, want_free, rops, fx, ld, adr_p, cls, Nat.zero_add, Option.some.injEq, exists_eq_left', Nat.reduceAdd, tk24, hn, d0, d1, d2]
    refine Wo.call hc (by rfl) (by rfl) ⟨by rfl, by rfl⟩ (xs := [.agg #[.int .i64 (l.getD i noLas).m, .slice (l.getD i noLas).sa (l.getD i noLas).st.length (l.getD i noLas).sc, .slice (l.getD i noLas).ra (l.getD i noLas).ro.length (l.getD i noLas).rc]]) (by first | rfl | (simp only [sev_tmp, sev_const, sev_func, sg_eq, sg_ne, sp_n, sp_none, Nat.reduceLT, ne_eq, Nat.reduceEqDiff, not_false_eq_true, gd, nth, want_free, want_slot, beqB, List.map_cons, List.map_nil, Array.toList_empty, List.nil_append, List.append_nil, List.cons_append, hn]; done) | (simp only [sev_tmp, sev_const, sev_func, sg_eq, sg_ne, sp_n, sp_none, Nat.reduceLT, ne_eq, Nat.reduceEqDiff, not_false_eq_true, gd, nth, want_free, want_slot, beqB, List.map_cons, List.map_nil, Array.toList_empty, List.nil_append, List.append_nil, List.cons_append, hn]; rfl)) (by first | rfl | (simp only [sev_tmp, sev_const, sev_func, sg_eq, sg_ne, sp_n, sp_none, Nat.reduceLT, ne_eq, Nat.reduceEqDiff, not_false_eq_true, gd, nth, want_free, want_slot, beqB, List.map_cons, List.map_nil, Array.toList_empty, List.nil_append, List.append_nil, List.cons_append, hn]; done) | (simp only [sev_tmp, sev_const, sev_func, sg_eq, sg_ne, sp_n, sp_none, Nat.reduceLT, ne_eq, Nat.reduceEqDiff, not_false_eq_true, gd, nth, want_free, want_slot, beqB, List.map_cons, List.map_nil, Array.toList_empty, List.nil_append, List.append_nil, List.cons_append, hn]; rfl)) (by first | rfl | (simp only [sev_tmp, sg_eq, sp_n, Nat.reduceLT, List.map_cons, List.map_nil, List.nil_append, List.append_nil, hn]; done) | (simp only [sev_tmp, sev_const, sev_func, sg_eq, sg_ne, sp_n, sp_none, Nat.reduceLT, ne_eq, Nat.reduceEqDiff, not_false_eq_true, gd, nth, want_free, want_slot, beqB, List.map_cons, List.map_nil, Array.toList_empty, List.nil_append, List.append_nil, List.cons_append, hn]; rfl)) (Con.mono (check_one hx2.wf hok2.1 hok2.2.1 hok2.2.2.1 hok2.2.2.2) ?_)
    rintro v A3 ⟨rfl, h3⟩
    refine Wo.run hc 1 rfl rfl rfl ?_
    simp only [List.drop_zero, List.drop_succ_cons, List.take_succ_cons, List.take_zero, sev_tmp, sg_eq, sp_n, Nat.reduceLT, gd, want_free, rops, fx, Option.some.injEq, exists_eq_left', Nat.reduceAdd, hn]
    refine Wo.done hc rfl (hK _ _ ?_)
    clear hK
    (repeat (first | refine Rn.seq hc ?_ | refine Rn.skip hc ?_ | refine Rn.block hc ?_ | refine Rn.inBlock hc ?_ | refine Rn.scope hc ?_ | refine Rn.inScope hc ?_))
    have hA3 : Nx A.next A A3 := hA.trans ((hx2.le hA.next).trans (h3.le (by have := hx2.next; have := hA.next; omega)))
    by_cases he : (l.getD i noLas).err = 0
    · rw [if_pos he] at hall
      have hd2 : (!decide (errL (l.getD i noLas).m (l.getD i noLas).st (l.getD i noLas).ro = 0)) = false := by
        unfold Las.err at he
        rw [decide_eq_true he]; rfl
      refine Rn.reg hc rfl ?_
      simp only [sev_tmp, sev_const, sg_eq, sp_n, Nat.reduceLT, gd, want_free, rops, fx, bin_neq, Option.some.injEq, exists_eq_left', hn, hd2]
      (repeat (first | refine Rn.seq hc ?_ | refine Rn.skip hc ?_ | refine Rn.block hc ?_ | refine Rn.inBlock hc ?_ | refine Rn.scope hc ?_ | refine Rn.inScope hc ?_))
      refine Rn.condE hc rfl ?_
      simp only [sev_tmp, sg_eq, sp_n, Nat.reduceLT, Value.bool.injEq, exists_eq_left', hn]
      (repeat (first | refine Rn.seq hc ?_ | refine Rn.skip hc ?_ | refine Rn.block hc ?_ | refine Rn.inBlock hc ?_ | refine Rn.scope hc ?_ | refine Rn.inScope hc ?_))
      refine Rn.reg hc rfl ?_
      simp only [sev_tmp, sev_const, sg_eq, sg_ne, sp_n, Nat.reduceLT, ne_eq, Nat.reduceEqDiff, not_false_eq_true, gd, want_free, rops, fx, bin_add, Option.some.injEq, exists_eq_left', hn, s10, wrap_succ (show i < 9223372036854775807 by omega)]
      (repeat (first | refine Rn.seq hc ?_ | refine Rn.skip hc ?_ | refine Rn.block hc ?_ | refine Rn.inBlock hc ?_ | refine Rn.scope hc ?_ | refine Rn.inScope hc ?_))
      exact ih _ _ _ (by omega) ⟨i + 1, by omega, rfl, hA3, by simp only [sp_n, hn], by simp only [sg_ne, ne_eq, Nat.reduceEqDiff, not_false_eq_true, s0], by simp only [sg_ne, ne_eq, Nat.reduceEqDiff, not_false_eq_true, s8], by simp only [sg_ne, ne_eq, Nat.reduceEqDiff, not_false_eq_true, s9], by simp only [sg_eq, sp_n, Nat.reduceLT, hn], hall⟩
    · rw [if_neg he] at hall
      have hd2 : (!decide (errL (l.getD i noLas).m (l.getD i noLas).st (l.getD i noLas).ro = 0)) = true := by
        unfold Las.err at he
        rw [decide_eq_false he]; rfl
      refine Rn.reg hc rfl ?_
      simp only [sev_tmp, sev_const, sg_eq, sp_n, Nat.reduceLT, gd, want_free, rops, fx, bin_neq, Option.some.injEq, exists_eq_left', hn, hd2]
      (repeat (first | refine Rn.seq hc ?_ | refine Rn.skip hc ?_ | refine Rn.block hc ?_ | refine Rn.inBlock hc ?_ | refine Rn.scope hc ?_ | refine Rn.inScope hc ?_))
      refine Rn.condE hc rfl ?_
      simp only [sev_tmp, sg_eq, sp_n, Nat.reduceLT, Value.bool.injEq, exists_eq_left', hn]
      (repeat (first | refine Rn.seq hc ?_ | refine Rn.skip hc ?_ | refine Rn.block hc ?_ | refine Rn.inBlock hc ?_ | refine Rn.scope hc ?_ | refine Rn.inScope hc ?_))
      refine Rn.reg hc rfl ?_
      simp only [sev_tmp, sg_eq, sg_ne, sp_n, Nat.reduceLT, ne_eq, Nat.reduceEqDiff, not_false_eq_true, gd, want_free, rops, fx, Option.some.injEq, exists_eq_left', hn]
      (repeat (first | refine Rn.seq hc ?_ | refine Rn.skip hc ?_ | refine Rn.block hc ?_ | refine Rn.inBlock hc ?_ | refine Rn.scope hc ?_ | refine Rn.inScope hc ?_))
      refine Rn.ret (endQ_tmp rfl ⟨?_, hA3⟩)
      simp only [sg_eq, sp_n, Nat.reduceLT, hn]
      rw [hall]
      rfl
  · have hd : decide ((i : Int) < (l.length : Int)) = false := by simp; omega
    have hil : i = l.length := by omega
    subst hil
    rw [List.drop_length, errs] at hall
    rw [hall]
    clear hall ih
    refine Rn.reg hc rfl ?_
    simp only [sev_tmp, gd, want_free, rops, fx, bin_lss, Option.some.injEq, exists_eq_left', s9, s10, hd]
    (repeat (first | refine Rn.seq hc ?_ | refine Rn.skip hc ?_ | refine Rn.block hc ?_ | refine Rn.inBlock hc ?_ | refine Rn.scope hc ?_ | refine Rn.inScope hc ?_))
    refine Rn.condE hc rfl ?_
    simp only [sev_tmp, sg_eq, Nat.reduceLT, Value.bool.injEq, exists_eq_left', hn]
    (repeat (first | refine Rn.seq hc ?_ | refine Rn.skip hc ?_ | refine Rn.block hc ?_ | refine Rn.inBlock hc ?_ | refine Rn.scope hc ?_ | refine Rn.inScope hc ?_))
    refine Rn.exit hc rfl ?_
    (repeat (first | refine Rn.seq hc ?_ | refine Rn.skip hc ?_ | refine Rn.block hc ?_ | refine Rn.inBlock hc ?_ | refine Rn.scope hc ?_ | refine Rn.inScope hc ?_))
    refine Rn.reg hc rfl ?_
    simp only [sev_tmp, sev_const, sg_eq, sg_ne, sp_n, Nat.reduceLT, ne_eq, Nat.reduceEqDiff, not_false_eq_true, gd, want_free, rops, fx, lng, Option.some.injEq, exists_eq_left', un46, hn, s0]
    (repeat (first | refine Rn.seq hc ?_ | refine Rn.skip hc ?_ | refine Rn.block hc ?_ | refine Rn.inBlock hc ?_ | refine Rn.scope hc ?_ | refine Rn.inScope hc ?_))
    refine Rn.loopI hc (I := fun k s A' => ∃ i, i ≤ l.length ∧ k = l.length - i ∧ Nx A.next A A' ∧ s.n = 34 ∧ sget s 0 = .slice a l.length c ∧ sget s 20 = .slice a l.length c ∧ sget s 21 = .int .i64 (l.length : Int) ∧ sget s 22 = .int .i64 (i : Int) ∧ (l.take i).all (fun x => decide (x.m = (l.getD 0 noLas).m)) = true)
      (n := l.length) ⟨0, by omega, rfl, hA, by simp only [sp_n, hn], by simp only [sg_ne, ne_eq, Nat.reduceEqDiff, not_false_eq_true, s0], by simp only [sg_eq, sg_ne, sp_n, Nat.reduceLT, ne_eq, Nat.reduceEqDiff, not_false_eq_true, hn], by simp only [sg_eq, sg_ne, sp_n, Nat.reduceLT, ne_eq, Nat.reduceEqDiff, not_false_eq_true, hn], by simp only [sg_eq, sp_n, Nat.reduceLT, hn]; rfl, rfl⟩ ?_
    clear hA hn s0 s8 s9 s10 hd
    clear s A'
    rintro k s A' ⟨i, hi, rfl, hA, hn, s0, s8, s9, s10, hall⟩ ih
    (repeat (first | refine Rn.seq hc ?_ | refine Rn.skip hc ?_ | refine Rn.block hc ?_ | refine Rn.inBlock hc ?_ | refine Rn.scope hc ?_ | refine Rn.inScope hc ?_))
    by_cases hlt : i < l.length
    · have hd : decide ((i : Int) < (l.length : Int)) = true := by simp; omega
      obtain ⟨hok, b, o, rfl, hbb, c0, c1, c2⟩ := (hl.nx hA) i hlt
      obtain ⟨_, b', o', e, _, z0, z1, z2⟩ := (hl.nx hA) 0 (by omega)
      cases e
      obtain ⟨A2, p1, hx2, hn2, d0, d1, d2⟩ := put24 hA.wf (v0 := .int .i64 (l.getD i noLas).m) (v1 := .slice (l.getD i noLas).sa (l.getD i noLas).st.length (l.getD i noLas).sc) (v2 := .slice (l.getD i noLas).ra (l.getD i noLas).ro.length (l.getD i noLas).rc) rfl
      have z0' : cl A2 b (o + 0 * 3) = _ := (hx2.cl hbb _).trans z0
      rw [Nat.zero_mul, Nat.add_zero] at z0'
      have hA2 : Nx A.next A A2 := hA.trans (hx2.le hA.next)
      have n0 : nlen (.int .i64 0) l.length = some 0 := nlen_nat (j := 0) (by omega)
      refine Rn.reg hc rfl ?_
      simp only [sev_tmp, gd, want_free, rops, fx, bin_lss, Option.some.injEq, exists_eq_left', s9, s10, hd]
      (repeat (first | refine Rn.seq hc ?_ | refine Rn.skip hc ?_ | refine Rn.block hc ?_ | refine Rn.inBlock hc ?_ | refine Rn.scope hc ?_ | refine Rn.inScope hc ?_))
      refine Rn.condE hc rfl ?_
      simp only [sev_tmp, sg_eq, Nat.reduceLT, Value.bool.injEq, exists_eq_left', hn]
      (repeat (first | refine Rn.seq hc ?_ | refine Rn.skip hc ?_ | refine Rn.block hc ?_ | refine Rn.inBlock hc ?_ | refine Rn.scope hc ?_ | refine Rn.inScope hc ?_))
      refine Rn.reg hc rfl ?_
      simp only [sev_tmp, sg_eq, sg_ne, sp_n, sp_none, Nat.reduceLT, ne_eq, Nat.reduceEqDiff, not_false_eq_true, gd, want_free, rops, fx, ld, str, idx, adr_p, cls, Nat.zero_add, Option.some.injEq, exists_eq_left', Value.cells, Nat.reduceAdd, tk24, eo46, hn, s8, s10, nlen_nat hlt, c0, c1, c2, ze24, p1, List.size_toArray, List.length_cons, List.length_nil, Nat.beq_refl]
      (repeat (first | refine Rn.seq hc ?_ | refine Rn.skip hc ?_ | refine Rn.block hc ?_ | refine Rn.inBlock hc ?_ | refine Rn.scope hc ?_ | refine Rn.inScope hc ?_))
      by_cases hv : (l.getD i noLas).m = (l.getD 0 noLas).m
      · have hd3 : (!decide ((l.getD i noLas).m = (l.getD 0 noLas).m)) = false := by rw [decide_eq_true hv]; rfl
        refine Rn.drawnR hc hx (by kernel_rfl) (by rfl) (by kernel_rfl) ?_ ?_
        · simp only [rdV, VQ.int, VQ.bool, VQ.ptr, VQ.slice, cl_bump, sev_tmp, sev_const, sg_eq, sg_ne, sp_n, Nat.reduceLT, ne_eq, Nat.reduceEqDiff, not_false_eq_true, gd, want_free, fx, ld, fad, idx, bin_neq, adr_p, Nat.zero_add, Nat.add_zero, Nat.reduceAdd, and_self, tk3, fo24_0, eo46, hn, s0, n0, d0, z0', Nat.zero_mul, hd3, List.length_cons, List.length_nil]
        simp only [cl_bump, sev_tmp, sev_const, sg_eq, sg_ne, sp_n, Nat.reduceLT, ne_eq, Nat.reduceEqDiff, not_false_eq_true, gd, want_free, rops, fx, ld, fad, idx, bin_neq, adr_p, Nat.zero_add, Nat.add_zero, Option.some.injEq, exists_eq_left', Nat.reduceAdd, tk3, fo24_0, eo46, hn, s0, n0, d0, z0', Nat.zero_mul, hd3, List.length_cons, List.length_nil]
        (repeat (first | refine Rn.seq hc ?_ | refine Rn.skip hc ?_ | refine Rn.block hc ?_ | refine Rn.inBlock hc ?_ | refine Rn.scope hc ?_ | refine Rn.inScope hc ?_))
        refine Rn.condE hc rfl ?_
        simp only [sev_tmp, sg_eq, sp_n, Nat.reduceLT, Value.bool.injEq, exists_eq_left', hn]
        (repeat (first | refine Rn.seq hc ?_ | refine Rn.skip hc ?_ | refine Rn.block hc ?_ | refine Rn.inBlock hc ?_ | refine Rn.scope hc ?_ | refine Rn.inScope hc ?_))
        refine Rn.reg hc rfl ?_
        simp only [sev_tmp, sev_const, sg_eq, sg_ne, sp_n, Nat.reduceLT, ne_eq, Nat.reduceEqDiff, not_false_eq_true, gd, want_free, rops, fx, bin_add, Option.some.injEq, exists_eq_left', hn, s10, wrap_succ (show i < 9223372036854775807 by omega)]
        (repeat (first | refine Rn.seq hc ?_ | refine Rn.skip hc ?_ | refine Rn.block hc ?_ | refine Rn.inBlock hc ?_ | refine Rn.scope hc ?_ | refine Rn.inScope hc ?_))
        exact ih _ _ _ (by omega) ⟨i + 1, by omega, rfl, Nx.bump hA2 _, by simp only [sp_n, hn], by simp only [sg_ne, ne_eq, Nat.reduceEqDiff, not_false_eq_true, s0], by simp only [sg_ne, ne_eq, Nat.reduceEqDiff, not_false_eq_true, s8], by simp only [sg_ne, ne_eq, Nat.reduceEqDiff, not_false_eq_true, s9], by simp only [sg_eq, sp_n, Nat.reduceLT, hn], by rw [all_take _ _ noLas hlt, hall, decide_eq_true hv]; rfl⟩
      · have hd3 : (!decide ((l.getD i noLas).m = (l.getD 0 noLas).m)) = true := by rw [decide_eq_false hv]; rfl
        refine Rn.drawnR hc hx (by kernel_rfl) (by rfl) (by kernel_rfl) ?_ ?_
        · simp only [rdV, VQ.int, VQ.bool, VQ.ptr, VQ.slice, cl_bump, sev_tmp, sev_const, sg_eq, sg_ne, sp_n, Nat.reduceLT, ne_eq, Nat.reduceEqDiff, not_false_eq_true, gd, want_free, fx, ld, fad, idx, bin_neq, adr_p, Nat.zero_add, Nat.add_zero, Nat.reduceAdd, and_self, tk3, fo24_0, eo46, hn, s0, n0, d0, z0', Nat.zero_mul, hd3, List.length_cons, List.length_nil]
        simp only [cl_bump, sev_tmp, sev_const, sg_eq, sg_ne, sp_n, Nat.reduceLT, ne_eq, Nat.reduceEqDiff, not_false_eq_true, gd, want_free, rops, fx, ld, fad, idx, bin_neq, adr_p, Nat.zero_add, Nat.add_zero, Option.some.injEq, exists_eq_left', Nat.reduceAdd, tk3, fo24_0, eo46, hn, s0, n0, d0, z0', Nat.zero_mul, hd3, List.length_cons, List.length_nil]
        (repeat (first | refine Rn.seq hc ?_ | refine Rn.skip hc ?_ | refine Rn.block hc ?_ | refine Rn.inBlock hc ?_ | refine Rn.scope hc ?_ | refine Rn.inScope hc ?_))
        refine Rn.condE hc rfl ?_
        simp only [sev_tmp, sg_eq, sp_n, Nat.reduceLT, Value.bool.injEq, exists_eq_left', hn]
        (repeat (first | refine Rn.seq hc ?_ | refine Rn.skip hc ?_ | refine Rn.block hc ?_ | refine Rn.inBlock hc ?_ | refine Rn.scope hc ?_ | refine Rn.inScope hc ?_))
        refine Rn.reg hc rfl ?_
        simp only [sev_const, gd, want_free, rops, fx, Option.some.injEq, exists_eq_left']
        (repeat (first | refine Rn.seq hc ?_ | refine Rn.skip hc ?_ | refine Rn.block hc ?_ | refine Rn.inBlock hc ?_ | refine Rn.scope hc ?_ | refine Rn.inScope hc ?_))
        refine Rn.ret (endQ_tmp rfl ⟨?_, Nx.bump hA2 _⟩)
        simp only [sg_eq, sp_n, Nat.reduceLT, hn]
        have : l.all (fun x => decide (x.m = (l.getD 0 noLas).m)) = false := all_not _ _ noLas hlt (by rw [decide_eq_false hv])
        unfold clash
        rw [this]
        rfl
    · have hd : decide ((i : Int) < (l.length : Int)) = false := by simp; omega
      have hil : i = l.length := by omega
      subst hil
      rw [List.take_length] at hall
      refine Rn.reg hc rfl ?_
      simp only [sev_tmp, gd, want_free, rops, fx, bin_lss, Option.some.injEq, exists_eq_left', s9, s10, hd]
      (repeat (first | refine Rn.seq hc ?_ | refine Rn.skip hc ?_ | refine Rn.block hc ?_ | refine Rn.inBlock hc ?_ | refine Rn.scope hc ?_ | refine Rn.inScope hc ?_))
      refine Rn.condE hc rfl ?_
      simp only [sev_tmp, sg_eq, Nat.reduceLT, Value.bool.injEq, exists_eq_left', hn]
      (repeat (first | refine Rn.seq hc ?_ | refine Rn.skip hc ?_ | refine Rn.block hc ?_ | refine Rn.inBlock hc ?_ | refine Rn.scope hc ?_ | refine Rn.inScope hc ?_))
      refine Rn.exit hc rfl ?_
      (repeat (first | refine Rn.seq hc ?_ | refine Rn.skip hc ?_ | refine Rn.block hc ?_ | refine Rn.inBlock hc ?_ | refine Rn.scope hc ?_ | refine Rn.inScope hc ?_))
      refine Rn.reg hc rfl ?_
      simp only [sev_const, gd, want_free, rops, fx, Option.some.injEq, exists_eq_left']
      (repeat (first | refine Rn.seq hc ?_ | refine Rn.skip hc ?_ | refine Rn.block hc ?_ | refine Rn.inBlock hc ?_ | refine Rn.scope hc ?_ | refine Rn.inScope hc ?_))
      refine Rn.ret (endQ_tmp rfl ⟨?_, hA⟩)
      simp only [sg_eq, sp_n, Nat.reduceLT, hn]
      unfold clash
      rw [hall]
      rfl
end Go.Proofs.Ytdaljohmfnfgiaa
/- How many of a list are a number. No condition. -/
namespace Go.Proofs.Ytdaljohmfnfgiaa
open Go Go.RowKit Go.Proofs.Ytdaljohmfnfgiaa.Canon
set_option maxRecDepth 20000


def cnt (v : Int) : List Int → Nat
  | [] => 0
  | x :: l => (if x = v then 1 else 0) + cnt v l
end Go.Proofs.Ytdaljohmfnfgiaa
/- How many of the first elements are a number. No condition. -/
namespace Go.Proofs.Ytdaljohmfnfgiaa
open Go Go.RowKit Go.Proofs.Ytdaljohmfnfgiaa.Canon
set_option maxRecDepth 20000


theorem asl_hi {A : AHeap} {a : Option Addr} {c lo hi : Nat} {l : List Int} (h : Ints A a lo hi l) (hs : Sl A a lo) (hc' : l.length ≤ c) {n : Nat} (hn : n ≤ l.length) :
    ∃ a' c', asl Try.prog 22 (.slice a l.length c) none (some (.int .i64 (n : Int))) none A = some (.slice a' (l.take n).length c', A) ∧ Ints A a' lo hi (l.take n) := by
  obtain ⟨_, i, z, hinf, _, _, _, hsz, _⟩ := elB_eq el22
  have hlen : (l.take n).length = n := by simp; omega
  have hb1 : abound (some (.int .i64 (n : Int))) l.length = some n := by simp [abound]
  have hb0 : ∀ d, abound none d = some d := fun _ => rfl
  have t1 : Nat.ble 0 n = true := Nat.ble_eq_true_of_le (Nat.zero_le _)
  have t2 : Nat.ble n c = true := Nat.ble_eq_true_of_le (by omega)
  have t3 : Nat.ble c c = true := Nat.ble_eq_true_of_le (Nat.le_refl _)
  have hsub : ∀ {b o : Nat}, a = some ⟨b, o, none⟩ → Ints A (some ⟨b, o, none⟩) lo hi (l.take n) := fun {b o} e i hi' => by
    obtain ⟨b', o', q1, q2, q3, q4⟩ := h i (by omega)
    rw [e] at q1
    cases q1
    refine ⟨_, _, rfl, q2, q3, ?_⟩
    rw [q4]
    simp only [List.getD_eq_getElem?_getD, List.getElem?_take]
    rw [if_pos (by omega)]
  rw [hlen]
  cases a with
  | none =>
    have h00 := h.some
    refine ⟨none, c, ?_, fun i hi' => by omega⟩
    simp only [asl, un22, hinf, hb0, hb1, t2, Option.isSome_none, Bool.not_false, Bool.true_or, Nat.sub_zero]
    rw [t1, t3]
  | some x =>
    obtain ⟨hsp, _, y, hy, hg⟩ := hs x rfl
    obtain ⟨b, o, sp⟩ := x
    simp only at hsp hy
    subst hsp
    obtain ⟨ob, g, zz⟩ := y
    rcases hg with hg | ⟨hg, _, hz⟩
    · simp only at hg
      subst hg
      refine ⟨if c = 0 then some ⟨b, o, none⟩ else some ((⟨b, o, none⟩ : Addr).add (0 * i.size)), c, ?_, ?_⟩
      · simp only [asl, un22, hinf, hb0, hb1, t2, Option.isSome_none, Bool.not_false, Bool.true_or, Nat.sub_zero, hy]
        rw [t1, t3]
        by_cases hc0 : c = 0
        · simp only [hc0, if_pos]
        · simp only [hc0, if_false]
      · split
        · exact hsub rfl
        · rw [Nat.zero_mul]
          exact hsub rfl
    · simp only at hg hz
      subst hg hz
      have hz : Nat.beq 1 i.size = true := by rw [hsz]; rfl
      by_cases hc0 : c = 0
      · subst hc0
        have hn0 : n = 0 := by omega
        subst hn0
        refine ⟨some ⟨b, o, none⟩, 0, ?_, hsub rfl⟩
        simp only [asl, un22, hinf, hb0, hb1, Option.isSome_none, Bool.not_false, Bool.true_or, Nat.sub_zero, hy, hz]
        rfl
      · have hcb : Nat.beq c 0 = false := by
          cases hh : Nat.beq c 0 with
          | false => rfl
          | true => exact absurd (Nat.eq_of_beq_eq_true hh) hc0
        refine ⟨some ((⟨b, o, none⟩ : Addr).add (0 * i.size)), c, ?_, by rw [Nat.zero_mul]; exact hsub rfl⟩
        simp only [asl, un22, hinf, hb0, hb1, t2, Option.isSome_none, Bool.not_false, Bool.true_or, Nat.sub_zero, hy, hz]
        rw [t1, t3]
        simp only [hcb]
end Go.Proofs.Ytdaljohmfnfgiaa

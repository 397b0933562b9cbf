/- LassoWeavesSaid: what its proof is made of, part 2. No condition. -/
import Derived.Test.YtdaljohmfnfgiaaXa
import Derived.Test.YtdaljohmfnfgiaaCanonFm
import Derived.Test.YtdaljohmfnfgiaaRows
import Derived.ProofKit
import Derived.Below
import Derived.ChangeSame
import Derived.Deep.SlicePairs
/- The least stream of those that unfold alike: what the program does. No condition. -/
namespace Go.Proofs.Ytdaljohmfnfgiaa
open Go Go.RowKit Go.Proofs.Ytdaljohmfnfgiaa.Canon
set_option maxRecDepth 20000

theorem bd24_z {ρ : Operand → Value} {d : Option Tmp} {ty : TypeId} {pos : String} {af : Array Edge} {gu : Option (Nat × Bool)} {A : AHeap} : aexec Try.prog ρ ⟨d, .build 24 #[], ty, pos, af, gu⟩ A = some (.agg #[.int .i64 0, .slice none 0 0, .slice none 0 0], A) := ae_build (by rfl) bo24 rfl rfl
/-- What is handed back for a stream, told in any way. -/
def LeastQ (A : AHeap) (m : Int) (s : Nat → Int) (a p : Nat) (v : Value) (A1 : AHeap) : Prop :=
  Nx A.next A A1 ∧ if 120 < p ∨ 60 < a then v = .tuple #[.agg #[.int .i64 0, .slice none 0 0, .slice none 0 0], .int .i64 11]
    else ∃ sa ra, v = .tuple #[.agg #[.int .i64 m, .slice sa a a, .slice ra p p], .int .i64 0] ∧ Gr A1 sa A.next (redS s a) ∧ Gr A1 ra A.next (redR s a p)

theorem least_run {A : AHeap} (hw : WF A) {m : Int} {sa ra : Option Addr} {sc rc : Nat} {st ro : List Int} (hs : Ints A sa 0 A.next st) (hr : Ints A ra 0 A.next ro) (ls : st.length ≤ 1000000) (lr : ro.length ≤ 1000000) (hro : 0 < ro.length) (hsl : Sl A sa 0) (hsc : st.length ≤ sc) :
    Con Try.prog 69 [.int .i64 m, .slice sa st.length sc, .slice ra ro.length rc] A (fun v A1 => ∃ a p, Red (atL st ro) a p ∧ a ≤ st.length ∧ p ≤ ro.length ∧ LeastQ A m (atL st ro) a p v A1) := by
  refine con_of_rn hc Try.func69 rfl (Nat.le_of_ble_eq_true rfl) ?_
  have hx1 : Nx A.next A (A.push (.cells #[.int .i64 0, .slice none 0 0, .slice none 0 0] 24)) := (Nx.refl hw _).push (Nat.le_refl _) _
  have l1 := look_push_eq A (.cells #[.int .i64 0, .slice none 0 0, .slice none 0 0] 24)
  have hn1 : (A.push (.cells #[.int .i64 0, .slice none 0 0, .slice none 0 0] 24)).next = A.next + 1 := rfl
  generalize e1 : A.push (.cells #[.int .i64 0, .slice none 0 0, .slice none 0 0] 24) = A1 at hx1 l1 hn1
  rw [s_in3]
  (repeat (first | refine Rn.seq hc ?_ | refine Rn.skip hc ?_ | refine Rn.block hc ?_ | refine Rn.inBlock hc ?_ | refine Rn.scope hc ?_ | refine Rn.inScope hc ?_))
  refine Rn.reg hc rfl ?_
  simp only [sev_const, gd, want_free, rops, fx, Option.some.injEq, exists_eq_left', Value.cells, show Try.f69.ntmps = 112 from rfl, ze24, e1]
  (repeat (first | refine Rn.seq hc ?_ | refine Rn.skip hc ?_ | refine Rn.block hc ?_ | refine Rn.inBlock hc ?_ | refine Rn.scope hc ?_ | refine Rn.inScope hc ?_))
  refine Rn.reg hc rfl ?_
  simp only [sev_const, gd, want_free, rops, fx, Option.some.injEq, exists_eq_left']
  (repeat (first | refine Rn.seq hc ?_ | refine Rn.skip hc ?_ | refine Rn.block hc ?_ | refine Rn.inBlock hc ?_ | refine Rn.scope hc ?_ | refine Rn.inScope hc ?_))
  refine Rn.label hc ?_
  refine Rn.seq hc ?_
  refine Rn.cut2 hc (Q1 := fun s ds B => ds = [] ∧ Nx A1.next A1 B ∧ s.n = 112 ∧ sget s 0 = .int .i64 m ∧ sget s 1 = .slice sa st.length sc ∧ sget s 2 = .slice ra ro.length rc ∧ sget s 6 = .pointer (some ⟨A.next, 0, none⟩) ∧ ∃ d : Nat, sget s 8 = .int .i64 (d : Int) ∧ ((d = 0 ∧ ∀ e, 0 < e → e < 121 → perOK ro e = false) ∨ (0 < d ∧ d ≤ 120 ∧ perOK ro d = true ∧ ∀ e, 0 < e → e < d → perOK ro e = false)))
    (Q2 := fun _ _ _ => False) ?_ ?_ ?_
  · (repeat (first | refine Rn.seq hc ?_ | refine Rn.skip hc ?_ | refine Rn.block hc ?_ | refine Rn.inBlock hc ?_ | refine Rn.scope hc ?_ | refine Rn.inScope hc ?_))
    refine Rn.reg hc rfl ?_
    simp only [sev_const, gd, want_free, rops, fx, Option.some.injEq, exists_eq_left']
    (repeat (first | refine Rn.seq hc ?_ | refine Rn.skip hc ?_ | refine Rn.block hc ?_ | refine Rn.inBlock hc ?_ | refine Rn.scope hc ?_ | refine Rn.inScope hc ?_))
    refine Rn.loopI hc (I := fun k s A' => ∃ d : Nat, 1 ≤ d ∧ d ≤ 121 ∧ k = 121 - d ∧ Nx A1.next A1 A' ∧ (∀ e, 0 < e → e < d → perOK ro e = false) ∧ s.n = 112 ∧ sget s 0 = .int .i64 m ∧ sget s 1 = .slice sa st.length sc ∧ sget s 2 = .slice ra ro.length rc ∧ sget s 6 = .pointer (some ⟨A.next, 0, none⟩) ∧ sget s 8 = .int .i64 ((0 : Nat) : Int) ∧ sget s 9 = .int .i64 (d : Int))
      (n := 120) ⟨1, by omega, by omega, rfl, Nx.refl hx1.wf _, fun e h1 h2 => by omega, by simp only [sp_n], by simp only [sg_eq, sg_ne, Nat.reduceLT, ne_eq, Nat.reduceEqDiff, not_false_eq_true], by simp only [sg_eq, sg_ne, sp_n, Nat.reduceLT, ne_eq, Nat.reduceEqDiff, not_false_eq_true], by simp only [sg_eq, sg_ne, sp_n, Nat.reduceLT, ne_eq, Nat.reduceEqDiff, not_false_eq_true], by simp only [sg_eq, sg_ne, sp_n, Nat.reduceLT, ne_eq, Nat.reduceEqDiff, not_false_eq_true], by simp only [sg_eq, sg_ne, sp_n, Nat.reduceLT, ne_eq, Nat.reduceEqDiff, not_false_eq_true]; rfl, by simp only [sg_eq, sp_n, Nat.reduceLT]; rfl⟩ ?_
    rintro k s A' ⟨d, hd1, hd2, rfl, hA, hmin, hn, s0, s1, s2, s6, s8, s9⟩ ih
    (repeat (first | refine Rn.seq hc ?_ | refine Rn.skip hc ?_ | refine Rn.block hc ?_ | refine Rn.inBlock hc ?_ | refine Rn.scope hc ?_ | refine Rn.inScope hc ?_))
    by_cases hlt : d ≤ min 120 ro.length
    · have hd : decide ((d : Int) ≤ min 120 (ro.length : Int)) = true := by simp; omega
      have hrem : ∀ M, bin Try.prog .rem 3 (.int .i64 (ro.length : Int)) (.int .i64 (d : Int)) M = some (.int .i64 ((ro.length % d : Nat) : Int), M) := fun M => by
        rw [bin_rem _ _ _ _ (by omega), IntWalk.rem_in _ _ (by omega)]
        rfl
      refine Rn.reg hc rfl ?_
      simp only [sev_tmp, sg_eq, sg_ne, sp_n, Nat.reduceLT, ne_eq, Nat.reduceEqDiff, not_false_eq_true, gd, want_free, rops, fx, lng, bin_leq, Option.some.injEq, exists_eq_left', un22, hn, s2, s9, ae_mnc, mnc_int, hd]
      (repeat (first | refine Rn.seq hc ?_ | refine Rn.skip hc ?_ | refine Rn.block hc ?_ | refine Rn.inBlock hc ?_ | refine Rn.scope hc ?_ | refine Rn.inScope hc ?_))
      refine Rn.condE hc rfl ?_
      simp only [sev_tmp, sg_eq, sp_n, Nat.reduceLT, Value.bool.injEq, exists_eq_left', hn]
      (repeat (first | refine Rn.seq hc ?_ | refine Rn.skip hc ?_ | refine Rn.block hc ?_ | refine Rn.inBlock hc ?_ | refine Rn.scope hc ?_ | refine Rn.inScope hc ?_))
      by_cases hdiv : ro.length % d = 0
      · have hd3 : (!decide (((ro.length % d : Nat) : Int) = 0)) = false := by simp; omega
        refine Rn.reg hc rfl ?_
        simp only [sev_tmp, sev_const, sg_eq, sg_ne, sp_n, Nat.reduceLT, ne_eq, Nat.reduceEqDiff, not_false_eq_true, gd, want_free, rops, fx, lng, bin_neq, Option.some.injEq, exists_eq_left', un22, hn, s2, s9, hrem, hd3]
        (repeat (first | refine Rn.seq hc ?_ | refine Rn.skip hc ?_ | refine Rn.block hc ?_ | refine Rn.inBlock hc ?_ | refine Rn.scope hc ?_ | refine Rn.inScope hc ?_))
        refine Rn.condE hc rfl ?_
        simp only [sev_tmp, sg_eq, sp_n, Nat.reduceLT, Value.bool.injEq, exists_eq_left', hn]
        (repeat (first | refine Rn.seq hc ?_ | refine Rn.skip hc ?_ | refine Rn.block hc ?_ | refine Rn.inBlock hc ?_ | refine Rn.scope hc ?_ | refine Rn.inScope hc ?_))
        refine Rn.reg hc rfl ?_
        simp only [sev_tmp, sg_eq, sg_ne, sp_n, Nat.reduceLT, ne_eq, Nat.reduceEqDiff, not_false_eq_true, gd, want_free, rops, fx, Option.some.injEq, exists_eq_left', hn, s9]
        (repeat (first | refine Rn.seq hc ?_ | refine Rn.skip hc ?_ | refine Rn.block hc ?_ | refine Rn.inBlock hc ?_ | refine Rn.scope hc ?_ | refine Rn.inScope hc ?_))
        refine Rn.loopI hc (I := fun k s A' => ∃ i : Nat, d ≤ i ∧ i ≤ ro.length ∧ k = ro.length - i ∧ Nx A1.next A1 A' ∧ (∀ j, d ≤ j → j < i → ro.getD j 0 = ro.getD (j - d) 0) ∧ s.n = 112 ∧ sget s 0 = .int .i64 m ∧ sget s 1 = .slice sa st.length sc ∧ sget s 2 = .slice ra ro.length rc ∧ sget s 6 = .pointer (some ⟨A.next, 0, none⟩) ∧ sget s 8 = .int .i64 ((0 : Nat) : Int) ∧ sget s 9 = .int .i64 (d : Int) ∧ sget s 10 = .int .i64 (i : Int))
          (n := ro.length - d) ⟨d, Nat.le_refl _, by omega, rfl, hA, fun j h1 h2 => by omega, by simp only [sp_n, hn], by simp only [sg_ne, ne_eq, Nat.reduceEqDiff, not_false_eq_true, s0], by simp only [sg_ne, ne_eq, Nat.reduceEqDiff, not_false_eq_true, s1], by simp only [sg_ne, ne_eq, Nat.reduceEqDiff, not_false_eq_true, s2], by simp only [sg_ne, ne_eq, Nat.reduceEqDiff, not_false_eq_true, s6], by simp only [sg_ne, ne_eq, Nat.reduceEqDiff, not_false_eq_true, s8], by simp only [sg_ne, ne_eq, Nat.reduceEqDiff, not_false_eq_true, s9], by simp only [sg_eq, sp_n, Nat.reduceLT, hn]⟩ ?_
        clear hn s0 s1 s2 s6 s8 s9 s hA A' hd
        rintro k s A' ⟨i, hi1, hi2, rfl, hA, hper, hn, s0, s1, s2, s6, s8, s9, s10⟩ ihi
        (repeat (first | refine Rn.seq hc ?_ | refine Rn.skip hc ?_ | refine Rn.block hc ?_ | refine Rn.inBlock hc ?_ | refine Rn.scope hc ?_ | refine Rn.inScope hc ?_))
        by_cases hlti : i < ro.length
        · have hd : decide ((i : Int) < (ro.length : Int)) = true := by simp; omega
          have hx0 : Nx A.next A A' := hx1.trans (hA.le hx1.next)
          obtain ⟨bb, o, rfl, _, hb1, hcl⟩ := hr i hlti
          obtain ⟨bb', o', e', _, _, hcl'⟩ := hr (i - d) (by omega)
          cases e'
          have hcl : cl A' bb (o + i) = _ := (hx0.cl hb1 _).trans hcl
          have hcl' : cl A' bb (o + (i - d)) = _ := (hx0.cl hb1 _).trans hcl'
          have hsub : IntKind.i64.wrap ((i : Int) - (d : Int)) = ((i - d : Nat) : Int) := by rw [IntWalk.i64_in _ (by omega)]; omega
          refine Rn.reg hc rfl ?_
          simp only [sev_tmp, sg_eq, sg_ne, sp_n, Nat.reduceLT, ne_eq, Nat.reduceEqDiff, not_false_eq_true, gd, want_free, rops, fx, lng, bin_lss, Option.some.injEq, exists_eq_left', un22, hn, s2, s10, hd]
          (repeat (first | refine Rn.seq hc ?_ | refine Rn.skip hc ?_ | refine Rn.block hc ?_ | refine Rn.inBlock hc ?_ | refine Rn.scope hc ?_ | refine Rn.inScope hc ?_))
          refine Rn.condE hc rfl ?_
          simp only [sev_tmp, sg_eq, sp_n, Nat.reduceLT, Value.bool.injEq, exists_eq_left', hn]
          (repeat (first | refine Rn.seq hc ?_ | refine Rn.skip hc ?_ | refine Rn.block hc ?_ | refine Rn.inBlock hc ?_ | refine Rn.scope hc ?_ | refine Rn.inScope hc ?_))
          have hidl : i - d < ro.length := by omega
          by_cases heq : ro.getD i 0 = ro.getD (i - d) 0
          · have hne : (!decide (ro.getD i 0 = ro.getD (i - d) 0)) = false := by rw [decide_eq_true heq]; rfl
            refine Rn.drawnR hc hx (by kernel_rfl) (by rfl) (by kernel_rfl) ?_ ?_
            · simp only [rdV, VQ.int, VQ.bool, VQ.ptr, VQ.slice, cl_bump, sev_tmp, sg_eq, sg_ne, sp_n, Nat.reduceLT, ne_eq, Nat.reduceEqDiff, not_false_eq_true, gd, want_free, fx, ld, idx, bin_neq, bin_sub, adr_p, Nat.zero_add, Nat.reduceAdd, Nat.mul_one, and_self, tk3, eo22, hn, s2, s9, s10, nlen_nat hlti, nlen_nat hidl, hsub, hcl, hcl', hne, List.length_cons, List.length_nil]
            simp only [cl_bump, sev_tmp, sg_eq, sg_ne, sp_n, Nat.reduceLT, ne_eq, Nat.reduceEqDiff, not_false_eq_true, gd, want_free, rops, fx, ld, idx, bin_neq, bin_sub, adr_p, Nat.zero_add, Option.some.injEq, exists_eq_left', Nat.reduceAdd, Nat.mul_one, tk3, eo22, hn, s2, s9, s10, nlen_nat hlti, nlen_nat hidl, hsub, hcl, hcl', hne, List.length_cons, List.length_nil]
            (repeat (first | refine Rn.seq hc ?_ | refine Rn.skip hc ?_ | refine Rn.block hc ?_ | refine Rn.inBlock hc ?_ | refine Rn.scope hc ?_ | refine Rn.inScope hc ?_))
            refine Rn.condE hc rfl ?_
            simp only [sev_tmp, sg_eq, sp_n, Nat.reduceLT, Value.bool.injEq, exists_eq_left', hn]
            (repeat (first | refine Rn.seq hc ?_ | refine Rn.skip hc ?_ | refine Rn.block hc ?_ | refine Rn.inBlock hc ?_ | refine Rn.scope hc ?_ | refine Rn.inScope hc ?_))
            refine Rn.reg hc rfl ?_
            simp only [sev_tmp, sev_const, sg_eq, sg_ne, sp_n, Nat.reduceLT, ne_eq, Nat.reduceEqDiff, not_false_eq_true, gd, want_free, rops, fx, bin_add, Option.some.injEq, exists_eq_left', hn, s10, wrap_succ (show i < 9223372036854775807 by omega)]
            (repeat (first | refine Rn.seq hc ?_ | refine Rn.skip hc ?_ | refine Rn.block hc ?_ | refine Rn.inBlock hc ?_ | refine Rn.scope hc ?_ | refine Rn.inScope hc ?_))
            refine ihi _ _ _ (by omega) ⟨i + 1, by omega, by omega, rfl, Nx.bump hA _, fun j h1 h2 => ?_, by simp only [sp_n, hn], by simp only [sg_ne, ne_eq, Nat.reduceEqDiff, not_false_eq_true, s0], by simp only [sg_ne, ne_eq, Nat.reduceEqDiff, not_false_eq_true, s1], by simp only [sg_ne, ne_eq, Nat.reduceEqDiff, not_false_eq_true, s2], by simp only [sg_ne, ne_eq, Nat.reduceEqDiff, not_false_eq_true, s6], by simp only [sg_ne, ne_eq, Nat.reduceEqDiff, not_false_eq_true, s8], by simp only [sg_ne, ne_eq, Nat.reduceEqDiff, not_false_eq_true, s9], by simp only [sg_eq, sp_n, Nat.reduceLT, hn]⟩
            by_cases hji : j = i
            · subst hji; exact heq
            · exact hper j h1 (by omega)
          · have hne : (!decide (ro.getD i 0 = ro.getD (i - d) 0)) = true := by rw [decide_eq_false heq]; rfl
            refine Rn.drawnR hc hx (by kernel_rfl) (by rfl) (by kernel_rfl) ?_ ?_
            · simp only [rdV, VQ.int, VQ.bool, VQ.ptr, VQ.slice, cl_bump, sev_tmp, sg_eq, sg_ne, sp_n, Nat.reduceLT, ne_eq, Nat.reduceEqDiff, not_false_eq_true, gd, want_free, fx, ld, idx, bin_neq, bin_sub, adr_p, Nat.zero_add, Nat.reduceAdd, Nat.mul_one, and_self, tk3, eo22, hn, s2, s9, s10, nlen_nat hlti, nlen_nat hidl, hsub, hcl, hcl', hne, List.length_cons, List.length_nil]
            simp only [cl_bump, sev_tmp, sg_eq, sg_ne, sp_n, Nat.reduceLT, ne_eq, Nat.reduceEqDiff, not_false_eq_true, gd, want_free, rops, fx, ld, idx, bin_neq, bin_sub, adr_p, Nat.zero_add, Option.some.injEq, exists_eq_left', Nat.reduceAdd, Nat.mul_one, tk3, eo22, hn, s2, s9, s10, nlen_nat hlti, nlen_nat hidl, hsub, hcl, hcl', hne, List.length_cons, List.length_nil]
            (repeat (first | refine Rn.seq hc ?_ | refine Rn.skip hc ?_ | refine Rn.block hc ?_ | refine Rn.inBlock hc ?_ | refine Rn.scope hc ?_ | refine Rn.inScope hc ?_))
            refine Rn.condE hc rfl ?_
            simp only [sev_tmp, sg_eq, sp_n, Nat.reduceLT, Value.bool.injEq, exists_eq_left', hn]
            (repeat (first | refine Rn.seq hc ?_ | refine Rn.skip hc ?_ | refine Rn.block hc ?_ | refine Rn.inBlock hc ?_ | refine Rn.scope hc ?_ | refine Rn.inScope hc ?_))
            refine Rn.exit hc rfl ?_
            (repeat (first | refine Rn.seq hc ?_ | refine Rn.skip hc ?_ | refine Rn.block hc ?_ | refine Rn.inBlock hc ?_ | refine Rn.scope hc ?_ | refine Rn.inScope hc ?_))
            refine Rn.reg hc rfl ?_
            simp only [sev_tmp, sev_const, sg_eq, sg_ne, sp_n, Nat.reduceLT, ne_eq, Nat.reduceEqDiff, not_false_eq_true, gd, want_free, rops, fx, bin_add, Option.some.injEq, exists_eq_left', hn, s9, wrap_succ (show d < 9223372036854775807 by omega)]
            (repeat (first | refine Rn.seq hc ?_ | refine Rn.skip hc ?_ | refine Rn.block hc ?_ | refine Rn.inBlock hc ?_ | refine Rn.scope hc ?_ | refine Rn.inScope hc ?_))
            refine ih _ _ _ (by omega) ⟨d + 1, by omega, by omega, rfl, Nx.bump hA _, fun e h1 h2 => ?_, by simp only [sp_n, hn], by simp only [sg_ne, ne_eq, Nat.reduceEqDiff, not_false_eq_true, s0], by simp only [sg_ne, ne_eq, Nat.reduceEqDiff, not_false_eq_true, s1], by simp only [sg_ne, ne_eq, Nat.reduceEqDiff, not_false_eq_true, s2], by simp only [sg_ne, ne_eq, Nat.reduceEqDiff, not_false_eq_true, s6], by simp only [sg_ne, ne_eq, Nat.reduceEqDiff, not_false_eq_true, s8], by simp only [sg_eq, sp_n, Nat.reduceLT, hn]⟩
            by_cases hed : e = d
            · subst hed
              cases hp : perOK ro e with
              | false => rfl
              | true => exact absurd ((perOK_iff.1 hp).2 i hi1 hlti) heq
            · exact hmin e h1 (by omega)
        · have hd : decide ((i : Int) < (ro.length : Int)) = false := by simp; omega
          have hil : i = ro.length := by omega
          clear ih ihi
          refine Rn.reg hc rfl ?_
          simp only [sev_tmp, sg_eq, sg_ne, sp_n, Nat.reduceLT, ne_eq, Nat.reduceEqDiff, not_false_eq_true, gd, want_free, rops, fx, lng, bin_lss, Option.some.injEq, exists_eq_left', un22, hn, s2, s10, hd]
          (repeat (first | refine Rn.seq hc ?_ | refine Rn.skip hc ?_ | refine Rn.block hc ?_ | refine Rn.inBlock hc ?_ | refine Rn.scope hc ?_ | refine Rn.inScope hc ?_))
          refine Rn.condE hc rfl ?_
          simp only [sev_tmp, sg_eq, sp_n, Nat.reduceLT, Value.bool.injEq, exists_eq_left', hn]
          (repeat (first | refine Rn.seq hc ?_ | refine Rn.skip hc ?_ | refine Rn.block hc ?_ | refine Rn.inBlock hc ?_ | refine Rn.scope hc ?_ | refine Rn.inScope hc ?_))
          refine Rn.exit hc rfl ?_
          (repeat (first | refine Rn.seq hc ?_ | refine Rn.skip hc ?_ | refine Rn.block hc ?_ | refine Rn.inBlock hc ?_ | refine Rn.scope hc ?_ | refine Rn.inScope hc ?_))
          refine Rn.reg hc rfl ?_
          simp only [sev_tmp, sg_eq, sg_ne, sp_n, Nat.reduceLT, ne_eq, Nat.reduceEqDiff, not_false_eq_true, gd, want_free, rops, fx, Option.some.injEq, exists_eq_left', hn, s9]
          (repeat (first | refine Rn.seq hc ?_ | refine Rn.skip hc ?_ | refine Rn.block hc ?_ | refine Rn.inBlock hc ?_ | refine Rn.scope hc ?_ | refine Rn.inScope hc ?_))
          refine Rn.exit hc rfl ?_
          (repeat (first | refine Rn.seq hc ?_ | refine Rn.skip hc ?_ | refine Rn.block hc ?_ | refine Rn.inBlock hc ?_ | refine Rn.scope hc ?_ | refine Rn.inScope hc ?_))
          refine Rn.fall ⟨rfl, hA, by simp only [sp_n, hn], by simp only [sg_ne, ne_eq, Nat.reduceEqDiff, not_false_eq_true, s0], by simp only [sg_ne, ne_eq, Nat.reduceEqDiff, not_false_eq_true, s1], by simp only [sg_ne, ne_eq, Nat.reduceEqDiff, not_false_eq_true, s2], by simp only [sg_ne, ne_eq, Nat.reduceEqDiff, not_false_eq_true, s6], d, by simp only [sg_eq, sp_n, Nat.reduceLT, hn], .inr ⟨hd1, by omega, perOK_iff.2 ⟨hdiv, fun j h1 h2 => hper j h1 (by omega)⟩, hmin⟩⟩
      · have hd3 : (!decide (((ro.length % d : Nat) : Int) = 0)) = true := by simp; omega
        refine Rn.reg hc rfl ?_
        simp only [sev_tmp, sev_const, sg_eq, sg_ne, sp_n, Nat.reduceLT, ne_eq, Nat.reduceEqDiff, not_false_eq_true, gd, want_free, rops, fx, lng, bin_neq, Option.some.injEq, exists_eq_left', un22, hn, s2, s9, hrem, hd3]
        (repeat (first | refine Rn.seq hc ?_ | refine Rn.skip hc ?_ | refine Rn.block hc ?_ | refine Rn.inBlock hc ?_ | refine Rn.scope hc ?_ | refine Rn.inScope hc ?_))
        refine Rn.condE hc rfl ?_
        simp only [sev_tmp, sg_eq, sp_n, Nat.reduceLT, Value.bool.injEq, exists_eq_left', hn]
        (repeat (first | refine Rn.seq hc ?_ | refine Rn.skip hc ?_ | refine Rn.block hc ?_ | refine Rn.inBlock hc ?_ | refine Rn.scope hc ?_ | refine Rn.inScope hc ?_))
        refine Rn.exit hc rfl ?_
        (repeat (first | refine Rn.seq hc ?_ | refine Rn.skip hc ?_ | refine Rn.block hc ?_ | refine Rn.inBlock hc ?_ | refine Rn.scope hc ?_ | refine Rn.inScope hc ?_))
        refine Rn.reg hc rfl ?_
        simp only [sev_tmp, sev_const, sg_eq, sg_ne, sp_n, Nat.reduceLT, ne_eq, Nat.reduceEqDiff, not_false_eq_true, gd, want_free, rops, fx, bin_add, Option.some.injEq, exists_eq_left', hn, s9, wrap_succ (show d < 9223372036854775807 by omega)]
        (repeat (first | refine Rn.seq hc ?_ | refine Rn.skip hc ?_ | refine Rn.block hc ?_ | refine Rn.inBlock hc ?_ | refine Rn.scope hc ?_ | refine Rn.inScope hc ?_))
        refine ih _ _ _ (by omega) ⟨d + 1, by omega, by omega, rfl, hA, fun e h1 h2 => ?_, by simp only [sp_n, hn], by simp only [sg_ne, ne_eq, Nat.reduceEqDiff, not_false_eq_true, s0], by simp only [sg_ne, ne_eq, Nat.reduceEqDiff, not_false_eq_true, s1], by simp only [sg_ne, ne_eq, Nat.reduceEqDiff, not_false_eq_true, s2], by simp only [sg_ne, ne_eq, Nat.reduceEqDiff, not_false_eq_true, s6], by simp only [sg_ne, ne_eq, Nat.reduceEqDiff, not_false_eq_true, s8], by simp only [sg_eq, sp_n, Nat.reduceLT, hn]⟩
        by_cases hed : e = d
        · subst hed
          cases hp : perOK ro e with
          | false => rfl
          | true => exact absurd (perOK_iff.1 hp).1 hdiv
        · exact hmin e h1 (by omega)
    · have hd : decide ((d : Int) ≤ min 120 (ro.length : Int)) = false := by simp; omega
      clear ih
      have hdl : d ≤ ro.length := Nat.le_of_not_lt fun hh => by
        have := hmin ro.length hro hh
        rw [perOK_self] at this
        cases this
      refine Rn.reg hc rfl ?_
      simp only [sev_tmp, sg_eq, sg_ne, sp_n, Nat.reduceLT, ne_eq, Nat.reduceEqDiff, not_false_eq_true, gd, want_free, rops, fx, lng, bin_leq, Option.some.injEq, exists_eq_left', un22, hn, s2, s9, ae_mnc, mnc_int, hd]
      (repeat (first | refine Rn.seq hc ?_ | refine Rn.skip hc ?_ | refine Rn.block hc ?_ | refine Rn.inBlock hc ?_ | refine Rn.scope hc ?_ | refine Rn.inScope hc ?_))
      refine Rn.condE hc rfl ?_
      simp only [sev_tmp, sg_eq, sp_n, Nat.reduceLT, Value.bool.injEq, exists_eq_left', hn]
      (repeat (first | refine Rn.seq hc ?_ | refine Rn.skip hc ?_ | refine Rn.block hc ?_ | refine Rn.inBlock hc ?_ | refine Rn.scope hc ?_ | refine Rn.inScope hc ?_))
      refine Rn.exit hc rfl ?_
      (repeat (first | refine Rn.seq hc ?_ | refine Rn.skip hc ?_ | refine Rn.block hc ?_ | refine Rn.inBlock hc ?_ | refine Rn.scope hc ?_ | refine Rn.inScope hc ?_))
      refine Rn.fall ⟨rfl, hA, by simp only [sp_n, hn], by simp only [sg_ne, ne_eq, Nat.reduceEqDiff, not_false_eq_true, s0], by simp only [sg_ne, ne_eq, Nat.reduceEqDiff, not_false_eq_true, s1], by simp only [sg_ne, ne_eq, Nat.reduceEqDiff, not_false_eq_true, s2], by simp only [sg_ne, ne_eq, Nat.reduceEqDiff, not_false_eq_true, s6], 0, by simp only [sg_ne, ne_eq, Nat.reduceEqDiff, not_false_eq_true, s8], .inl ⟨rfl, fun e h1 h2 => hmin e h1 (by omega)⟩⟩
  · rintro s ds B ⟨rfl, hB, hn, s0, s1, s2, s6, d, s8, hd⟩
    have hr24 : ∀ {D : AHeap} {v0 v1 v2 : Value}, Nx A1.next A1 D → [v0, v1, v2].all isCell = true → ∃ D', sts D A.next 0 [v0, v1, v2] = some D' ∧ D'.next = D.next ∧ WF D' ∧ (∀ b, b ≠ A.next → Canon.look D'.objs b = Canon.look D.objs b) ∧ cl D' A.next 0 = some v0 ∧ cl D' A.next 1 = some v1 ∧ cl D' A.next 2 = some v2 := fun {D v0 v1 v2} hD hv => by
      obtain ⟨D', c', q1, q2, q3, q4⟩ := sts_upd (l := [v0, v1, v2]) (o := 0) ((hD.keep A.next (by omega)).trans l1) rfl (by simp) hv
      exact ⟨D', q1, q2.next, (q2.nx hD.wf (Nat.zero_le _)).wf, q2.off, by rw [q2.cl, q4]; rfl, by rw [q2.cl, q4]; rfl, by rw [q2.cl, q4]; rfl⟩
    obtain ⟨a0, p0, hred, ha0, hp0, hpk⟩ := red_exists st hro
    rcases hd with ⟨rfl, hno⟩ | ⟨hd0, hd120, hdk, hmin⟩
    · obtain ⟨D, q1, q2, q3, q4, g0, g1, g2⟩ := hr24 (v0 := .int .i64 0) (v1 := .slice none 0 0) (v2 := .slice none 0 0) hB rfl
      (repeat (first | refine Rn.seq hc ?_ | refine Rn.skip hc ?_ | refine Rn.block hc ?_ | refine Rn.inBlock hc ?_ | refine Rn.scope hc ?_ | refine Rn.inScope hc ?_))
      refine Rn.reg hc rfl ?_
      simp only [sev_tmp, sev_const, sg_eq, Nat.reduceLT, gd, want_free, rops, fx, bin_eql, Option.some.injEq, exists_eq_left', hn, s8, Int.natCast_zero, eq_self, decide_true]
      (repeat (first | refine Rn.seq hc ?_ | refine Rn.skip hc ?_ | refine Rn.block hc ?_ | refine Rn.inBlock hc ?_ | refine Rn.scope hc ?_ | refine Rn.inScope hc ?_))
      refine Rn.condE hc rfl ?_
      simp only [sev_tmp, sg_eq, sp_n, Nat.reduceLT, Value.bool.injEq, exists_eq_left', hn]
      (repeat (first | refine Rn.seq hc ?_ | refine Rn.skip hc ?_ | refine Rn.block hc ?_ | refine Rn.inBlock hc ?_ | refine Rn.scope hc ?_ | refine Rn.inScope hc ?_))
      refine Rn.reg hc rfl ?_
      simp only [sev_tmp, sev_const, sg_eq, sg_ne, sp_n, sp_none, Nat.reduceLT, ne_eq, Nat.reduceEqDiff, not_false_eq_true, gd, want_free, rops, fx, str, adr_p, Nat.zero_add, Option.some.injEq, exists_eq_left', Nat.reduceAdd, tk24, hn, s6, bd24_z, q1, List.size_toArray, List.length_cons, List.length_nil, Nat.beq_refl]
      (repeat (first | refine Rn.seq hc ?_ | refine Rn.skip hc ?_ | refine Rn.block hc ?_ | refine Rn.inBlock hc ?_ | refine Rn.scope hc ?_ | refine Rn.inScope hc ?_))
      refine Rn.ret (endQ_ct rfl (v := .agg #[.int .i64 0, .slice none 0 0, .slice none 0 0]) ?_ ⟨a0, p0, hred, ha0, hp0, ⟨by have := hB.next; omega, q3, fun b hb => by rw [q4 _ (by omega), hB.keep _ (by omega), hx1.keep _ hb]⟩, ?_⟩)
      · simp only [sg_ne, ne_eq, Nat.reduceEqDiff, not_false_eq_true, ld, adr_p, cls, Nat.zero_add, Nat.reduceAdd, tk24, s6, g0, g1, g2]
      · have : 120 < p0 := Nat.lt_of_not_le fun hle => by
          rw [hno p0 hred.per.pos (by omega)] at hpk
          cases hpk
        rw [if_pos (.inl this)]
        simp only [sg_eq, sp_n, Nat.reduceLT, hn]
    · have hper := perOK_per (st := st) hro hd0 hdk
      have hpmin : ∀ N e, Per (atL st ro) N e → d ≤ e := fun N e => min_per hro hmin
      have hdl := perOK_le hro hdk
      have hdz : decide ((d : Int) = 0) = false := by simp; omega
      obtain ⟨C, p2, hx2, hn2, l2⟩ := put24L hB.wf (v0 := .int .i64 m) (v1 := .slice none 0 0) (v2 := .slice none 0 0) rfl
      have hC : Nx A1.next A1 C := hB.trans (hx2.le hB.next)
      have hBn := hB.next
      (repeat (first | refine Rn.seq hc ?_ | refine Rn.skip hc ?_ | refine Rn.block hc ?_ | refine Rn.inBlock hc ?_ | refine Rn.scope hc ?_ | refine Rn.inScope hc ?_))
      refine Rn.reg hc rfl ?_
      simp only [sev_tmp, sev_const, sg_eq, Nat.reduceLT, gd, want_free, rops, fx, bin_eql, Option.some.injEq, exists_eq_left', hn, s8, hdz]
      (repeat (first | refine Rn.seq hc ?_ | refine Rn.skip hc ?_ | refine Rn.block hc ?_ | refine Rn.inBlock hc ?_ | refine Rn.scope hc ?_ | refine Rn.inScope hc ?_))
      refine Rn.condE hc rfl ?_
      simp only [sev_tmp, sg_eq, sp_n, Nat.reduceLT, Value.bool.injEq, exists_eq_left', hn]
      (repeat (first | refine Rn.seq hc ?_ | refine Rn.skip hc ?_ | refine Rn.block hc ?_ | refine Rn.inBlock hc ?_ | refine Rn.scope hc ?_ | refine Rn.inScope hc ?_))
      refine Rn.reg hc rfl ?_
      simp only [sev_tmp, sg_eq, sg_ne, sp_n, sp_none, Nat.reduceLT, ne_eq, Nat.reduceEqDiff, not_false_eq_true, gd, want_free, rops, fx, str, adr_p, Nat.zero_add, Option.some.injEq, exists_eq_left', Value.cells, Nat.reduceAdd, tk24, hn, s0, bd24_0, isCell, ze24, p2, List.size_toArray, List.length_cons, List.length_nil, Nat.beq_refl]
      (repeat (first | refine Rn.seq hc ?_ | refine Rn.skip hc ?_ | refine Rn.block hc ?_ | refine Rn.inBlock hc ?_ | refine Rn.scope hc ?_ | refine Rn.inScope hc ?_))
      refine Rn.reg hc rfl ?_
      simp only [sev_tmp, sg_eq, sg_ne, sp_n, Nat.reduceLT, ne_eq, Nat.reduceEqDiff, not_false_eq_true, gd, want_free, rops, fx, lng, Option.some.injEq, exists_eq_left', un22, hn, s1]
      (repeat (first | refine Rn.seq hc ?_ | refine Rn.skip hc ?_))
      refine Rn.cut2 hc (Q1 := fun s ds D => ds = [] ∧ Nx C.next C D ∧ s.n = 112 ∧ sget s 0 = .int .i64 m ∧ sget s 1 = .slice sa st.length sc ∧ sget s 2 = .slice ra ro.length rc ∧ sget s 6 = .pointer (some ⟨A.next, 0, none⟩) ∧ sget s 8 = .int .i64 (d : Int) ∧ sget s 11 = .pointer (some ⟨B.next, 0, none⟩) ∧ ∃ e : Nat, e ≤ st.length ∧ sget s 12 = .int .i64 (e : Int) ∧ Red (atL st ro) e d)
        (Q2 := fun _ _ _ => False) ?_ ?_ ?_
      · (repeat (first | refine Rn.seq hc ?_ | refine Rn.skip hc ?_ | refine Rn.block hc ?_ | refine Rn.inBlock hc ?_ | refine Rn.scope hc ?_ | refine Rn.inScope hc ?_))
        refine Rn.loopI hc (I := fun k s A' => ∃ e : Nat, e ≤ st.length ∧ k = e ∧ Nx C.next C A' ∧ Per (atL st ro) e d ∧ s.n = 112 ∧ sget s 0 = .int .i64 m ∧ sget s 1 = .slice sa st.length sc ∧ sget s 2 = .slice ra ro.length rc ∧ sget s 6 = .pointer (some ⟨A.next, 0, none⟩) ∧ sget s 8 = .int .i64 (d : Int) ∧ sget s 11 = .pointer (some ⟨B.next, 0, none⟩) ∧ sget s 12 = .int .i64 (e : Int))
          (n := st.length) ⟨st.length, Nat.le_refl _, rfl, Nx.refl hx2.wf _, hper, by simp only [sp_n, hn], by simp only [sg_ne, ne_eq, Nat.reduceEqDiff, not_false_eq_true, s0], by simp only [sg_ne, ne_eq, Nat.reduceEqDiff, not_false_eq_true, s1], by simp only [sg_ne, ne_eq, Nat.reduceEqDiff, not_false_eq_true, s2], by simp only [sg_ne, ne_eq, Nat.reduceEqDiff, not_false_eq_true, s6], by simp only [sg_ne, ne_eq, Nat.reduceEqDiff, not_false_eq_true, s8], by simp only [sg_eq, sg_ne, sp_n, Nat.reduceLT, ne_eq, Nat.reduceEqDiff, not_false_eq_true, hn], by simp only [sg_eq, sp_n, Nat.reduceLT, hn]⟩ ?_
        clear hn s0 s1 s2 s6 s8 s
        rintro k s A' ⟨e, he, hke, hA, hpe, hn, s0, s1, s2, s6, s8, s11, s12⟩ ih
        (repeat (first | refine Rn.seq hc ?_ | refine Rn.skip hc ?_ | refine Rn.block hc ?_ | refine Rn.inBlock hc ?_ | refine Rn.scope hc ?_ | refine Rn.inScope hc ?_))
        by_cases he0 : e = 0
        · subst he0
          clear ih
          have hd0' : decide ((0 : Int) < ((0 : Nat) : Int)) = false := rfl
          refine Rn.drawnR hc hx (by kernel_rfl) (by rfl) (by kernel_rfl) ?_ ?_
          · simp only [rdV, VQ.int, VQ.bool, sev_tmp, sev_const, sg_eq, sg_ne, sp_n, Nat.reduceLT, ne_eq, Nat.reduceEqDiff, not_false_eq_true, gd, nth, want_free, want_slot, beqB, fx, pck, bin_gtr, Nat.zero_add, Nat.reduceAdd, and_self, hn, s12, hd0', List.length_cons, List.length_nil]
          simp only [sev_tmp, sev_const, sg_eq, sg_ne, sp_n, Nat.reduceLT, ne_eq, Nat.reduceEqDiff, not_false_eq_true, gd, nth, want_free, want_slot, beqB, rops, fx, pck, bin_gtr, Nat.zero_add, Option.some.injEq, exists_eq_left', Nat.reduceAdd, hn, s12, hd0', List.length_cons, List.length_nil]
          (repeat (first | refine Rn.seq hc ?_ | refine Rn.skip hc ?_ | refine Rn.block hc ?_ | refine Rn.inBlock hc ?_ | refine Rn.scope hc ?_ | refine Rn.inScope hc ?_))
          refine Rn.condE hc rfl ?_
          simp only [sev_tmp, sg_eq, sp_n, Nat.reduceLT, Value.bool.injEq, exists_eq_left', hn]
          (repeat (first | refine Rn.seq hc ?_ | refine Rn.skip hc ?_ | refine Rn.block hc ?_ | refine Rn.inBlock hc ?_ | refine Rn.scope hc ?_ | refine Rn.inScope hc ?_))
          refine Rn.exit hc rfl ?_
          (repeat (first | refine Rn.seq hc ?_ | refine Rn.skip hc ?_ | refine Rn.block hc ?_ | refine Rn.inBlock hc ?_ | refine Rn.scope hc ?_ | refine Rn.inScope hc ?_))
          exact Rn.fall ⟨rfl, Nx.bump hA _, by simp only [sp_n, hn], by simp only [sg_ne, ne_eq, Nat.reduceEqDiff, not_false_eq_true, s0], by simp only [sg_ne, ne_eq, Nat.reduceEqDiff, not_false_eq_true, s1], by simp only [sg_ne, ne_eq, Nat.reduceEqDiff, not_false_eq_true, s2], by simp only [sg_ne, ne_eq, Nat.reduceEqDiff, not_false_eq_true, s6], by simp only [sg_ne, ne_eq, Nat.reduceEqDiff, not_false_eq_true, s8], by simp only [sg_ne, ne_eq, Nat.reduceEqDiff, not_false_eq_true, s11], 0, by omega, by simp only [sg_ne, ne_eq, Nat.reduceEqDiff, not_false_eq_true, s12], red_of hpe hpmin (fun h => absurd h (by omega))⟩
        · have hd0' : decide ((0 : Int) < (e : Int)) = true := by simp; omega
          have hA0 : Nx A.next A A' := hx1.trans ((hC.trans (hA.le (by have := hC.next; omega))).le hx1.next)
          obtain ⟨r, ix, hr1, hr2, hr3, hix, hr4, hr5⟩ := emod_idx (x := ((e - 1 : Nat) : Int) - (st.length : Int)) hd0
          have hmodE := hr5 st.length (e - 1) rfl
          have hidx : ix < ro.length := by omega
          have hel : e - 1 < st.length := by omega
          obtain ⟨bb, o, rfl, _, hb1, hcl⟩ := hs (e - 1) hel
          obtain ⟨bb', o', rfl, _, hb2, hcl'⟩ := hr ix hidx
          have hcl : cl A' bb (o + (e - 1)) = _ := (hA0.cl hb1 _).trans hcl
          have hcl' : cl A' bb' (o' + ix) = _ := (hA0.cl hb2 _).trans hcl'
          have hw1 : IntKind.i64.wrap ((e : Int) - 1) = ((e - 1 : Nat) : Int) := by rw [IntWalk.i64_in _ (by omega)]; omega
          have hw2 : IntKind.i64.wrap (((e - 1 : Nat) : Int) - (st.length : Int)) = ((e - 1 : Nat) : Int) - (st.length : Int) := by rw [IntWalk.i64_in _ (by omega)]
          have hrem1 : ∀ M, bin Try.prog .rem 3 (.int .i64 (((e - 1 : Nat) : Int) - (st.length : Int))) (.int .i64 (d : Int)) M = some (.int .i64 r, M) := fun M => by rw [bin_rem _ _ _ _ (by omega), hr1]
          have hw3 : IntKind.i64.wrap (r + (d : Int)) = r + (d : Int) := by rw [IntWalk.i64_in _ (by omega)]
          have hrem2 : ∀ M, bin Try.prog .rem 3 (.int .i64 (r + (d : Int))) (.int .i64 (d : Int)) M = some (.int .i64 (ix : Int), M) := fun M => by rw [bin_rem _ _ _ _ (by omega), hr4]
          have hsame : ro.getD ix 0 = atL st ro (e - 1 + d) := by
            rw [← atL_ro (st := st) hidx]
            exact hpe.same (by omega) (by omega) (by rw [hmodE, Nat.add_mod_right])
          by_cases heq : st.getD (e - 1) 0 = ro.getD ix 0
          · have hdq : decide (st.getD (e - 1) 0 = ro.getD ix 0) = true := decide_eq_true heq
            refine Rn.drawnR hc hx (by kernel_rfl) (by rfl) (by kernel_rfl) ?_ ?_
            · simp only [rdV, VQ.int, VQ.bool, VQ.ptr, VQ.slice, cl_bump, sev_tmp, sev_const, sg_eq, sg_ne, sp_n, Nat.reduceLT, ne_eq, Nat.reduceEqDiff, not_false_eq_true, gd, nth, want_free, want_slot, beqB, fx, ld, idx, lng, pck, bin_gtr, bin_eql, bin_add, bin_sub, adr_p, Nat.zero_add, Nat.reduceAdd, Nat.mul_one, and_self, tk3, un22, eo22, hn, s1, s2, s8, s12, hd0', hw1, hw2, hrem1, hw3, hrem2, nlen_nat hel, nlen_nat hidx, hcl, hcl', hdq, List.length_cons, List.length_nil]
            simp only [cl_bump, sev_tmp, sev_const, sg_eq, sg_ne, sp_n, Nat.reduceLT, ne_eq, Nat.reduceEqDiff, not_false_eq_true, gd, nth, want_free, want_slot, beqB, rops, fx, ld, idx, lng, pck, bin_gtr, bin_eql, bin_add, bin_sub, adr_p, Nat.zero_add, Option.some.injEq, exists_eq_left', Nat.reduceAdd, Nat.mul_one, tk3, un22, eo22, hn, s1, s2, s8, s12, hd0', hw1, hw2, hrem1, hw3, hrem2, nlen_nat hel, nlen_nat hidx, hcl, hcl', hdq, List.length_cons, List.length_nil]
            (repeat (first | refine Rn.seq hc ?_ | refine Rn.skip hc ?_ | refine Rn.block hc ?_ | refine Rn.inBlock hc ?_ | refine Rn.scope hc ?_ | refine Rn.inScope hc ?_))
            refine Rn.condE hc rfl ?_
            simp only [sev_tmp, sg_eq, sp_n, Nat.reduceLT, Value.bool.injEq, exists_eq_left', hn]
            (repeat (first | refine Rn.seq hc ?_ | refine Rn.skip hc ?_ | refine Rn.block hc ?_ | refine Rn.inBlock hc ?_ | refine Rn.scope hc ?_ | refine Rn.inScope hc ?_))
            refine Rn.reg hc rfl ?_
            simp only [sev_tmp, sev_const, sg_eq, sg_ne, sp_n, Nat.reduceLT, ne_eq, Nat.reduceEqDiff, not_false_eq_true, gd, want_free, rops, fx, bin_sub, Option.some.injEq, exists_eq_left', hn, s12, hw1]
            (repeat (first | refine Rn.seq hc ?_ | refine Rn.skip hc ?_ | refine Rn.block hc ?_ | refine Rn.inBlock hc ?_ | refine Rn.scope hc ?_ | refine Rn.inScope hc ?_))
            refine ih _ _ _ (by omega) ⟨e - 1, by omega, rfl, Nx.bump hA _, Per.back (by rw [show e - 1 + 1 = e by omega]; exact hpe) (by rw [atL_st hel, heq, hsame]), by simp only [sp_n, hn], by simp only [sg_ne, ne_eq, Nat.reduceEqDiff, not_false_eq_true, s0], by simp only [sg_ne, ne_eq, Nat.reduceEqDiff, not_false_eq_true, s1], by simp only [sg_ne, ne_eq, Nat.reduceEqDiff, not_false_eq_true, s2], by simp only [sg_ne, ne_eq, Nat.reduceEqDiff, not_false_eq_true, s6], by simp only [sg_ne, ne_eq, Nat.reduceEqDiff, not_false_eq_true, s8], by simp only [sg_ne, ne_eq, Nat.reduceEqDiff, not_false_eq_true, s11], by simp only [sg_eq, sp_n, Nat.reduceLT, hn]⟩
          · have hdq : decide (st.getD (e - 1) 0 = ro.getD ix 0) = false := decide_eq_false heq
            clear ih
            refine Rn.drawnR hc hx (by kernel_rfl) (by rfl) (by kernel_rfl) ?_ ?_
            · simp only [rdV, VQ.int, VQ.bool, VQ.ptr, VQ.slice, cl_bump, sev_tmp, sev_const, sg_eq, sg_ne, sp_n, Nat.reduceLT, ne_eq, Nat.reduceEqDiff, not_false_eq_true, gd, nth, want_free, want_slot, beqB, fx, ld, idx, lng, pck, bin_gtr, bin_eql, bin_add, bin_sub, adr_p, Nat.zero_add, Nat.reduceAdd, Nat.mul_one, and_self, tk3, un22, eo22, hn, s1, s2, s8, s12, hd0', hw1, hw2, hrem1, hw3, hrem2, nlen_nat hel, nlen_nat hidx, hcl, hcl', hdq, List.length_cons, List.length_nil]
            simp only [cl_bump, sev_tmp, sev_const, sg_eq, sg_ne, sp_n, Nat.reduceLT, ne_eq, Nat.reduceEqDiff, not_false_eq_true, gd, nth, want_free, want_slot, beqB, rops, fx, ld, idx, lng, pck, bin_gtr, bin_eql, bin_add, bin_sub, adr_p, Nat.zero_add, Option.some.injEq, exists_eq_left', Nat.reduceAdd, Nat.mul_one, tk3, un22, eo22, hn, s1, s2, s8, s12, hd0', hw1, hw2, hrem1, hw3, hrem2, nlen_nat hel, nlen_nat hidx, hcl, hcl', hdq, List.length_cons, List.length_nil]
            (repeat (first | refine Rn.seq hc ?_ | refine Rn.skip hc ?_ | refine Rn.block hc ?_ | refine Rn.inBlock hc ?_ | refine Rn.scope hc ?_ | refine Rn.inScope hc ?_))
            refine Rn.condE hc rfl ?_
            simp only [sev_tmp, sg_eq, sp_n, Nat.reduceLT, Value.bool.injEq, exists_eq_left', hn]
            (repeat (first | refine Rn.seq hc ?_ | refine Rn.skip hc ?_ | refine Rn.block hc ?_ | refine Rn.inBlock hc ?_ | refine Rn.scope hc ?_ | refine Rn.inScope hc ?_))
            refine Rn.exit hc rfl ?_
            (repeat (first | refine Rn.seq hc ?_ | refine Rn.skip hc ?_ | refine Rn.block hc ?_ | refine Rn.inBlock hc ?_ | refine Rn.scope hc ?_ | refine Rn.inScope hc ?_))
            exact Rn.fall ⟨rfl, Nx.bump hA _, by simp only [sp_n, hn], by simp only [sg_ne, ne_eq, Nat.reduceEqDiff, not_false_eq_true, s0], by simp only [sg_ne, ne_eq, Nat.reduceEqDiff, not_false_eq_true, s1], by simp only [sg_ne, ne_eq, Nat.reduceEqDiff, not_false_eq_true, s2], by simp only [sg_ne, ne_eq, Nat.reduceEqDiff, not_false_eq_true, s6], by simp only [sg_ne, ne_eq, Nat.reduceEqDiff, not_false_eq_true, s8], by simp only [sg_ne, ne_eq, Nat.reduceEqDiff, not_false_eq_true, s11], e, he, by simp only [sg_ne, ne_eq, Nat.reduceEqDiff, not_false_eq_true, s12], red_of hpe hpmin (fun _ hh => heq (by rw [← atL_st (ro := ro) hel, hh, hsame]))⟩
      · clear hn s0 s1 s2 s6 s8 s
        rintro s ds D ⟨rfl, hD, hn, s0, s1, s2, s6, s8, s11, a, hal, s12, hra⟩
        have hCn := hC.next
        have hDn := hD.next
        have hD1 : Nx A1.next A1 D := hC.trans (hD.le hC.next)
        have hD0 : Nx A.next A D := hx1.trans (hD1.le hx1.next)
        (repeat (first | refine Rn.seq hc ?_ | refine Rn.skip hc ?_ | refine Rn.block hc ?_ | refine Rn.inBlock hc ?_ | refine Rn.scope hc ?_ | refine Rn.inScope hc ?_))
        by_cases h60 : 60 < a
        · have hd60 : decide ((60 : Int) < (a : Int)) = true := by simp; omega
          obtain ⟨E, q1, q2, q3, q4, g0, g1, g2⟩ := hr24 (v0 := .int .i64 0) (v1 := .slice none 0 0) (v2 := .slice none 0 0) hD1 rfl
          refine Rn.reg hc rfl ?_
          simp only [sev_tmp, sev_const, sg_eq, Nat.reduceLT, gd, want_free, rops, fx, bin_gtr, Option.some.injEq, exists_eq_left', hn, s12, hd60]
          (repeat (first | refine Rn.seq hc ?_ | refine Rn.skip hc ?_ | refine Rn.block hc ?_ | refine Rn.inBlock hc ?_ | refine Rn.scope hc ?_ | refine Rn.inScope hc ?_))
          refine Rn.condE hc rfl ?_
          simp only [sev_tmp, sg_eq, sp_n, Nat.reduceLT, Value.bool.injEq, exists_eq_left', hn]
          (repeat (first | refine Rn.seq hc ?_ | refine Rn.skip hc ?_ | refine Rn.block hc ?_ | refine Rn.inBlock hc ?_ | refine Rn.scope hc ?_ | refine Rn.inScope hc ?_))
          refine Rn.reg hc rfl ?_
          simp only [sev_tmp, sev_const, sg_eq, sg_ne, sp_n, sp_none, Nat.reduceLT, ne_eq, Nat.reduceEqDiff, not_false_eq_true, gd, want_free, rops, fx, str, adr_p, Nat.zero_add, Option.some.injEq, exists_eq_left', Nat.reduceAdd, tk24, hn, s6, bd24_z, q1, List.size_toArray, List.length_cons, List.length_nil, Nat.beq_refl]
          (repeat (first | refine Rn.seq hc ?_ | refine Rn.skip hc ?_ | refine Rn.block hc ?_ | refine Rn.inBlock hc ?_ | refine Rn.scope hc ?_ | refine Rn.inScope hc ?_))
          refine Rn.ret (endQ_ct rfl (v := .agg #[.int .i64 0, .slice none 0 0, .slice none 0 0]) ?_ ⟨a, d, hra, hal, hdl, ⟨by omega, q3, fun b hb => by rw [q4 _ (by omega), hD0.keep _ hb]⟩, ?_⟩)
          · simp only [sg_ne, ne_eq, Nat.reduceEqDiff, not_false_eq_true, ld, adr_p, cls, Nat.zero_add, Nat.reduceAdd, tk24, s6, g0, g1, g2]
          · rw [if_pos (.inr h60)]
            simp only [sg_eq, sp_n, Nat.reduceLT, hn]
        · have hd60 : decide ((60 : Int) < (a : Int)) = false := by simp; omega
          refine Rn.reg hc rfl ?_
          simp only [sev_tmp, sev_const, sg_eq, Nat.reduceLT, gd, want_free, rops, fx, bin_gtr, Option.some.injEq, exists_eq_left', hn, s12, hd60]
          (repeat (first | refine Rn.seq hc ?_ | refine Rn.skip hc ?_ | refine Rn.block hc ?_ | refine Rn.inBlock hc ?_ | refine Rn.scope hc ?_ | refine Rn.inScope hc ?_))
          refine Rn.condE hc rfl ?_
          simp only [sev_tmp, sg_eq, sp_n, Nat.reduceLT, Value.bool.injEq, exists_eq_left', hn]
          (repeat (first | refine Rn.seq hc ?_ | refine Rn.skip hc ?_ | refine Rn.block hc ?_ | refine Rn.inBlock hc ?_ | refine Rn.scope hc ?_ | refine Rn.inScope hc ?_))
          have hsD : Ints D sa 0 D.next st := (hs.nx hD0 (Nat.le_refl _)).mono (Nat.le_refl _) hD0.next
          obtain ⟨sa', sc', hasl, hsl'⟩ := asl_hi hsD (hsl.nx hw hD0) hsc hal
          have htk : (st.take a).length = a := by simp; omega
          refine Rn.region hc fun K hK => ?_
          refine Wo.run hc 3 rfl rfl rfl ?_
          simp (maxSteps := 2000000) only [List.drop_zero, List.take_succ_cons, List.take_zero, sev_tmp, sg_eq, sg_ne, sp_n, Nat.reduceLT, ne_eq, Nat.reduceEqDiff, not_false_eq_true, gd, want_free, rops, fx, Nat.zero_add, Option.some.injEq, exists_eq_left', hn, s1, s12, ae_asl_hi, hasl]
          refine Wo.call hc (by rfl) (by rfl) ⟨by rfl, by rfl⟩ (xs := [.slice sa' (st.take a).length sc']) (by rfl) (by rfl) (by simp only [sev_tmp, sg_eq, sp_n, Nat.reduceLT, List.map_cons, List.map_nil, List.nil_append, List.append_nil, hn]) (Con.mono (clone_ints hD.wf hsl' (by omega)) ?_)
          rintro w E ⟨xa, rfl, hE, hgE⟩
          rw [htk]
          have lE : Canon.look E.objs B.next = _ := (hE.keep _ (by omega)).trans ((hD.keep _ (by omega)).trans l2)
          obtain ⟨G, u1, u2⟩ := st1_upd (o := 1) (v := .slice xa a a) lE rfl (by simp) rfl
          have lG : Canon.look G.objs B.next = some ⟨.cells #[.int .i64 m, .slice xa a a, .slice none 0 0] 24, false, 0⟩ := by
            obtain ⟨c, t, f, g, e, r1, r2, _⟩ := u2.at'
            rw [lE] at r1
            cases r1
            exact r2
          refine Wo.run hc 2 rfl rfl rfl ?_
          simp (maxSteps := 2000000) only [List.drop_zero, List.drop_succ_cons, List.take_succ_cons, List.take_zero, sev_tmp, sg_eq, sg_ne, sp_n, sp_none, Nat.reduceLT, ne_eq, Nat.reduceEqDiff, not_false_eq_true, gd, want_free, rops, fx, str, fad, adr_p, Nat.zero_add, Option.some.injEq, exists_eq_left', Nat.reduceAdd, tk22, fo24_1, hn, s11, u1]
          refine Wo.done hc rfl (hK _ _ ?_)
          clear hK
          (repeat (first | refine Rn.seq hc ?_ | refine Rn.skip hc ?_ | refine Rn.block hc ?_ | refine Rn.inBlock hc ?_ | refine Rn.scope hc ?_ | refine Rn.inScope hc ?_))
          have hEn := hE.next
          have hGn := u2.next
          have wG : WF G := (u2.nx hE.wf (Nat.zero_le _)).wf
          have htake : st.take a = redS (atL st ro) a := by
            refine List.ext_getElem (by rw [redS_len]; exact htk) fun i h1 h2 => ?_
            have hi : i < a := by omega
            have := atL_st (ro := ro) (show i < st.length by omega)
            simp [redS, this, List.getD_eq_getElem?_getD, show i < st.length by omega]
          rw [htake] at hgE
          have hG0 : ∀ b, b < A1.next → Canon.look G.objs b = Canon.look A1.objs b := fun b hb => by rw [u2.off _ (by omega), hE.keep _ (by omega), hD1.keep _ hb]
          refine Rn.reg hc rfl ?_
          simp only [sev_tmp, sev_const, sg_ne, ne_eq, Nat.reduceEqDiff, not_false_eq_true, gd, want_free, rops, fx, Option.some.injEq, exists_eq_left', s8]
          (repeat (first | refine Rn.seq hc ?_ | refine Rn.skip hc ?_ | refine Rn.block hc ?_ | refine Rn.inBlock hc ?_ | refine Rn.scope hc ?_ | refine Rn.inScope hc ?_))
          refine Rn.loopI hc (I := fun k s A' => ∃ ya, ∃ i : Nat, i ≤ d ∧ k = d - i ∧ G.next ≤ A'.next ∧ WF A' ∧ (∀ b, b < G.next → b ≠ B.next → Canon.look A'.objs b = Canon.look G.objs b) ∧ Gr A' ya G.next (redR (atL st ro) a i) ∧ Canon.look A'.objs B.next = some ⟨.cells #[.int .i64 m, .slice xa a a, .slice ya i i] 24, false, 0⟩ ∧ s.n = 112 ∧ sget s 1 = .slice sa st.length sc ∧ sget s 2 = .slice ra ro.length rc ∧ sget s 6 = .pointer (some ⟨A.next, 0, none⟩) ∧ sget s 8 = .int .i64 (d : Int) ∧ sget s 11 = .pointer (some ⟨B.next, 0, none⟩) ∧ sget s 12 = .int .i64 (a : Int) ∧ sget s 86 = .int .i64 (d : Int) ∧ sget s 87 = .int .i64 (i : Int))
            (n := d) ⟨none, 0, by omega, rfl, Nat.le_refl _, wG, fun _ _ _ => rfl, Gr.nil _ _, lG, by simp only [sp_n, hn], by simp only [sg_ne, ne_eq, Nat.reduceEqDiff, not_false_eq_true, s1], by simp only [sg_ne, ne_eq, Nat.reduceEqDiff, not_false_eq_true, s2], by simp only [sg_ne, ne_eq, Nat.reduceEqDiff, not_false_eq_true, s6], by simp only [sg_ne, ne_eq, Nat.reduceEqDiff, not_false_eq_true, s8], by simp only [sg_ne, ne_eq, Nat.reduceEqDiff, not_false_eq_true, s11], by simp only [sg_ne, ne_eq, Nat.reduceEqDiff, not_false_eq_true, s12], by simp only [sg_eq, sg_ne, sp_n, Nat.reduceLT, ne_eq, Nat.reduceEqDiff, not_false_eq_true, hn], by simp only [sg_eq, sp_n, Nat.reduceLT, hn]; rfl⟩ ?_
          clear hn s0 s1 s2 s6 s8 s11 s12 s
          rintro k s A' ⟨ya, i, hi, hke, hA'n, hw', hkp, hgy, lA', hn, s1, s2, s6, s8, s11, s12, s86, s87⟩ ih
          (repeat (first | refine Rn.seq hc ?_ | refine Rn.skip hc ?_ | refine Rn.block hc ?_ | refine Rn.inBlock hc ?_ | refine Rn.scope hc ?_ | refine Rn.inScope hc ?_))
          by_cases hlt : i < d
          · have hd : decide ((i : Int) < (d : Int)) = true := by simp; omega
            refine Rn.reg hc rfl ?_
            simp only [sev_tmp, gd, want_free, rops, fx, bin_lss, Option.some.injEq, exists_eq_left', s86, s87, hd]
            (repeat (first | refine Rn.seq hc ?_ | refine Rn.skip hc ?_ | refine Rn.block hc ?_ | refine Rn.inBlock hc ?_ | refine Rn.scope hc ?_ | refine Rn.inScope hc ?_))
            refine Rn.condE hc rfl ?_
            simp only [sev_tmp, sg_eq, Nat.reduceLT, Value.bool.injEq, exists_eq_left', hn]
            (repeat (first | refine Rn.seq hc ?_ | refine Rn.skip hc ?_ | refine Rn.block hc ?_ | refine Rn.inBlock hc ?_ | refine Rn.scope hc ?_ | refine Rn.inScope hc ?_))
            refine Rn.reg hc rfl ?_
            simp only [sev_tmp, sg_eq, sg_ne, sp_n, Nat.reduceLT, ne_eq, Nat.reduceEqDiff, not_false_eq_true, gd, want_free, rops, fx, Option.some.injEq, exists_eq_left', hn, s87]
            (repeat (first | refine Rn.seq hc ?_ | refine Rn.skip hc ?_ | refine Rn.block hc ?_ | refine Rn.inBlock hc ?_ | refine Rn.scope hc ?_ | refine Rn.inScope hc ?_))
            obtain ⟨r, ix, hr1, hr2, hr3, hix, hr4, hr5⟩ := emod_idx (x := ((a + i : Nat) : Int) - (st.length : Int)) hd0
            have hmodE := hr5 st.length (a + i) rfl
            have hidx : ix < ro.length := by omega
            obtain ⟨bb, o, rfl, _, hb1, hcl⟩ := hr ix hidx
            have hLb : ∀ b, b < A.next → Canon.look A'.objs b = Canon.look A.objs b := fun b hb => by rw [hkp _ (by omega) (by omega), hG0 _ (by omega), hx1.keep _ hb]
            have hcl : cl A' bb (o + ix) = _ := (cl_look (hLb bb hb1)).trans hcl
            have hval : ro.getD ix 0 = atL st ro (a + i) := by
              rw [← atL_ro (st := st) hidx]
              exact hra.per.same (by omega) (by omega) hmodE
            rw [hval] at hcl
            have hw1 : IntKind.i64.wrap ((a : Int) - (st.length : Int)) = (a : Int) - (st.length : Int) := by rw [IntWalk.i64_in _ (by omega)]
            have hw2 : IntKind.i64.wrap ((a : Int) - (st.length : Int) + (i : Int)) = ((a + i : Nat) : Int) - (st.length : Int) := by rw [IntWalk.i64_in _ (by omega)]; omega
            have hrem1 : ∀ M, bin Try.prog .rem 3 (.int .i64 (((a + i : Nat) : Int) - (st.length : Int))) (.int .i64 (d : Int)) M = some (.int .i64 r, M) := fun M => by rw [bin_rem _ _ _ _ (by omega), hr1]
            have hw3 : IntKind.i64.wrap (r + (d : Int)) = r + (d : Int) := by rw [IntWalk.i64_in _ (by omega)]
            have hrem2 : ∀ M, bin Try.prog .rem 3 (.int .i64 (r + (d : Int))) (.int .i64 (d : Int)) M = some (.int .i64 (ix : Int), M) := fun M => by rw [bin_rem _ _ _ _ (by omega), hr4]
            have c2 : cl A' B.next 2 = some (.slice ya i i) := by rw [cl_of lA' rfl]; rfl
            obtain ⟨F, hF1, hF2, hF⟩ : ∃ F : AHeap → Prop, (∀ M, F M → cl M B.next 2 = some (.slice ya i i)) ∧ (∀ M, F M → cl M bb (o + ix) = some (.int .i64 (atL st ro (a + i)))) ∧ (∀ M, Canon.look M.objs B.next = Canon.look A'.objs B.next → Canon.look M.objs bb = Canon.look A'.objs bb → F M) :=
              ⟨fun M => cl M B.next 2 = some (.slice ya i i) ∧ cl M bb (o + ix) = some (.int .i64 (atL st ro (a + i))), fun _ h => h.1, fun _ h => h.2, fun M q1 q2 => ⟨(cl_look q1).trans c2, (cl_look q2).trans hcl⟩⟩
            have FB := hF (bump A' 21) rfl rfl
            have hxB : Nx A'.next A' (bump A' 21) := Nx.bump (Nx.refl hw' _) 21
            refine Rn.drawnL hc hx noS F (E := [17, 18]) (n := 20) (k := 21) (by kernel_rfl) (by kernel_rfl) (by rfl) (by kernel_rfl) ?_
            refine DrL.read (by first | rfl | kernel_rfl) (by rfl) (by assumption) (fun M hM => by simp only [sev_tmp, sg_ne, ne_eq, Nat.reduceEqDiff, not_false_eq_true, fx, fad, adr_p, Nat.zero_add, fo24_2, s11] <;> rfl) (by rfl) (by first | exact VQ.int _ _ | exact VQ.bool _ | exact VQ.ptr _ _ | exact VQ.slice _ _ _ | exact VQ.func (by simp [vq_int, vq_ptr, vq_slice]) (by simp [vq_int, vq_ptr, vq_slice]) | exact VQ.agg (by simp [vq_int, vq_ptr, vq_slice]) | exact VQ.tuple (by simp [vq_int, vq_ptr, vq_slice])) ?_
            refine DrL.read (by first | rfl | kernel_rfl) (by rfl) (by assumption) (fun M hM => by simp only [sev_tmp, sg_eq, sp_n, Nat.reduceLT, fx, ld, adr_p, tk22, hn, hF1 M hM] <;> rfl) (by rfl) (by first | exact VQ.int _ _ | exact VQ.bool _ | exact VQ.ptr _ _ | exact VQ.slice _ _ _ | exact VQ.func (by simp [vq_int, vq_ptr, vq_slice]) (by simp [vq_int, vq_ptr, vq_slice]) | exact VQ.agg (by simp [vq_int, vq_ptr, vq_slice]) | exact VQ.tuple (by simp [vq_int, vq_ptr, vq_slice])) ?_
            refine DrL.read (by first | rfl | kernel_rfl) (by rfl) (by assumption) (fun M hM => by simp only [sev_tmp, sg_ne, ne_eq, Nat.reduceEqDiff, not_false_eq_true, fx, s2] <;> rfl) (by rfl) (by first | exact VQ.int _ _ | exact VQ.bool _ | exact VQ.ptr _ _ | exact VQ.slice _ _ _ | exact VQ.func (by simp [vq_int, vq_ptr, vq_slice]) (by simp [vq_int, vq_ptr, vq_slice]) | exact VQ.agg (by simp [vq_int, vq_ptr, vq_slice]) | exact VQ.tuple (by simp [vq_int, vq_ptr, vq_slice])) ?_
            refine DrL.read (by first | rfl | kernel_rfl) (by rfl) (by assumption) (fun M hM => by simp only [sev_tmp, sg_ne, ne_eq, Nat.reduceEqDiff, not_false_eq_true, fx, s12] <;> rfl) (by rfl) (by first | exact VQ.int _ _ | exact VQ.bool _ | exact VQ.ptr _ _ | exact VQ.slice _ _ _ | exact VQ.func (by simp [vq_int, vq_ptr, vq_slice]) (by simp [vq_int, vq_ptr, vq_slice]) | exact VQ.agg (by simp [vq_int, vq_ptr, vq_slice]) | exact VQ.tuple (by simp [vq_int, vq_ptr, vq_slice])) ?_
            refine DrL.read (by first | rfl | kernel_rfl) (by rfl) (by assumption) (fun M hM => by simp only [sev_tmp, sg_ne, ne_eq, Nat.reduceEqDiff, not_false_eq_true, fx, s1] <;> rfl) (by rfl) (by first | exact VQ.int _ _ | exact VQ.bool _ | exact VQ.ptr _ _ | exact VQ.slice _ _ _ | exact VQ.func (by simp [vq_int, vq_ptr, vq_slice]) (by simp [vq_int, vq_ptr, vq_slice]) | exact VQ.agg (by simp [vq_int, vq_ptr, vq_slice]) | exact VQ.tuple (by simp [vq_int, vq_ptr, vq_slice])) ?_
            refine DrL.read (by first | rfl | kernel_rfl) (by rfl) (by assumption) (fun M hM => by simp only [sev_tmp, sg_eq, sp_n, Nat.reduceLT, fx, lng, un22, hn] <;> rfl) (by rfl) (by first | exact VQ.int _ _ | exact VQ.bool _ | exact VQ.ptr _ _ | exact VQ.slice _ _ _ | exact VQ.func (by simp [vq_int, vq_ptr, vq_slice]) (by simp [vq_int, vq_ptr, vq_slice]) | exact VQ.agg (by simp [vq_int, vq_ptr, vq_slice]) | exact VQ.tuple (by simp [vq_int, vq_ptr, vq_slice])) ?_
            refine DrL.read (by first | rfl | kernel_rfl) (by rfl) (by assumption) (fun M hM => by simp only [sev_tmp, sg_eq, sg_ne, sp_n, Nat.reduceLT, ne_eq, Nat.reduceEqDiff, not_false_eq_true, fx, bin_sub, hn, hw1] <;> rfl) (by rfl) (by first | exact VQ.int _ _ | exact VQ.bool _ | exact VQ.ptr _ _ | exact VQ.slice _ _ _ | exact VQ.func (by simp [vq_int, vq_ptr, vq_slice]) (by simp [vq_int, vq_ptr, vq_slice]) | exact VQ.agg (by simp [vq_int, vq_ptr, vq_slice]) | exact VQ.tuple (by simp [vq_int, vq_ptr, vq_slice])) ?_
            refine DrL.read (by first | rfl | kernel_rfl) (by rfl) (by assumption) (fun M hM => by simp only [sev_tmp, sg_eq, sg_ne, sp_n, Nat.reduceLT, ne_eq, Nat.reduceEqDiff, not_false_eq_true, fx, hn] <;> rfl) (by rfl) (by first | exact VQ.int _ _ | exact VQ.bool _ | exact VQ.ptr _ _ | exact VQ.slice _ _ _ | exact VQ.func (by simp [vq_int, vq_ptr, vq_slice]) (by simp [vq_int, vq_ptr, vq_slice]) | exact VQ.agg (by simp [vq_int, vq_ptr, vq_slice]) | exact VQ.tuple (by simp [vq_int, vq_ptr, vq_slice])) ?_
            refine DrL.read (by first | rfl | kernel_rfl) (by rfl) (by assumption) (fun M hM => by simp only [sev_tmp, sg_eq, sg_ne, sp_n, Nat.reduceLT, ne_eq, Nat.reduceEqDiff, not_false_eq_true, fx, bin_add, hn, hw2] <;> rfl) (by rfl) (by first | exact VQ.int _ _ | exact VQ.bool _ | exact VQ.ptr _ _ | exact VQ.slice _ _ _ | exact VQ.func (by simp [vq_int, vq_ptr, vq_slice]) (by simp [vq_int, vq_ptr, vq_slice]) | exact VQ.agg (by simp [vq_int, vq_ptr, vq_slice]) | exact VQ.tuple (by simp [vq_int, vq_ptr, vq_slice])) ?_
            refine DrL.read (by first | rfl | kernel_rfl) (by rfl) (by assumption) (fun M hM => by simp only [sev_tmp, sg_ne, ne_eq, Nat.reduceEqDiff, not_false_eq_true, fx, s8] <;> rfl) (by rfl) (by first | exact VQ.int _ _ | exact VQ.bool _ | exact VQ.ptr _ _ | exact VQ.slice _ _ _ | exact VQ.func (by simp [vq_int, vq_ptr, vq_slice]) (by simp [vq_int, vq_ptr, vq_slice]) | exact VQ.agg (by simp [vq_int, vq_ptr, vq_slice]) | exact VQ.tuple (by simp [vq_int, vq_ptr, vq_slice])) ?_
            refine DrL.read (by first | rfl | kernel_rfl) (by rfl) (by assumption) (fun M hM => by simp only [sev_tmp, sg_eq, sg_ne, sp_n, Nat.reduceLT, ne_eq, Nat.reduceEqDiff, not_false_eq_true, fx, hn, hrem1] <;> rfl) (by rfl) (by first | exact VQ.int _ _ | exact VQ.bool _ | exact VQ.ptr _ _ | exact VQ.slice _ _ _ | exact VQ.func (by simp [vq_int, vq_ptr, vq_slice]) (by simp [vq_int, vq_ptr, vq_slice]) | exact VQ.agg (by simp [vq_int, vq_ptr, vq_slice]) | exact VQ.tuple (by simp [vq_int, vq_ptr, vq_slice])) ?_
            refine DrL.read (by first | rfl | kernel_rfl) (by rfl) (by assumption) (fun M hM => by simp only [sev_tmp, sg_ne, ne_eq, Nat.reduceEqDiff, not_false_eq_true, fx, s8] <;> rfl) (by rfl) (by first | exact VQ.int _ _ | exact VQ.bool _ | exact VQ.ptr _ _ | exact VQ.slice _ _ _ | exact VQ.func (by simp [vq_int, vq_ptr, vq_slice]) (by simp [vq_int, vq_ptr, vq_slice]) | exact VQ.agg (by simp [vq_int, vq_ptr, vq_slice]) | exact VQ.tuple (by simp [vq_int, vq_ptr, vq_slice])) ?_
            refine DrL.read (by first | rfl | kernel_rfl) (by rfl) (by assumption) (fun M hM => by simp only [sev_tmp, sg_eq, sg_ne, sp_n, Nat.reduceLT, ne_eq, Nat.reduceEqDiff, not_false_eq_true, fx, bin_add, hn, hw3] <;> rfl) (by rfl) (by first | exact VQ.int _ _ | exact VQ.bool _ | exact VQ.ptr _ _ | exact VQ.slice _ _ _ | exact VQ.func (by simp [vq_int, vq_ptr, vq_slice]) (by simp [vq_int, vq_ptr, vq_slice]) | exact VQ.agg (by simp [vq_int, vq_ptr, vq_slice]) | exact VQ.tuple (by simp [vq_int, vq_ptr, vq_slice])) ?_
            refine DrL.read (by first | rfl | kernel_rfl) (by rfl) (by assumption) (fun M hM => by simp only [sev_tmp, sg_ne, ne_eq, Nat.reduceEqDiff, not_false_eq_true, fx, s8] <;> rfl) (by rfl) (by first | exact VQ.int _ _ | exact VQ.bool _ | exact VQ.ptr _ _ | exact VQ.slice _ _ _ | exact VQ.func (by simp [vq_int, vq_ptr, vq_slice]) (by simp [vq_int, vq_ptr, vq_slice]) | exact VQ.agg (by simp [vq_int, vq_ptr, vq_slice]) | exact VQ.tuple (by simp [vq_int, vq_ptr, vq_slice])) ?_
            refine DrL.read (by first | rfl | kernel_rfl) (by rfl) (by assumption) (fun M hM => by simp only [sev_tmp, sg_eq, sg_ne, sp_n, Nat.reduceLT, ne_eq, Nat.reduceEqDiff, not_false_eq_true, fx, hn, hrem2] <;> rfl) (by rfl) (by first | exact VQ.int _ _ | exact VQ.bool _ | exact VQ.ptr _ _ | exact VQ.slice _ _ _ | exact VQ.func (by simp [vq_int, vq_ptr, vq_slice]) (by simp [vq_int, vq_ptr, vq_slice]) | exact VQ.agg (by simp [vq_int, vq_ptr, vq_slice]) | exact VQ.tuple (by simp [vq_int, vq_ptr, vq_slice])) ?_
            refine DrL.read (by first | rfl | kernel_rfl) (by rfl) (by assumption) (fun M hM => by simp only [sev_tmp, sg_eq, sg_ne, sp_n, Nat.reduceLT, ne_eq, Nat.reduceEqDiff, not_false_eq_true, fx, idx, Nat.mul_one, eo22, hn, nlen_nat hidx] <;> rfl) (by rfl) (by first | exact VQ.int _ _ | exact VQ.bool _ | exact VQ.ptr _ _ | exact VQ.slice _ _ _ | exact VQ.func (by simp [vq_int, vq_ptr, vq_slice]) (by simp [vq_int, vq_ptr, vq_slice]) | exact VQ.agg (by simp [vq_int, vq_ptr, vq_slice]) | exact VQ.tuple (by simp [vq_int, vq_ptr, vq_slice])) ?_
            refine DrL.read (by first | rfl | kernel_rfl) (by rfl) (by assumption) (fun M hM => by simp only [sev_tmp, sg_eq, sp_n, Nat.reduceLT, fx, ld, adr_p, tk3, hn, hF2 M hM] <;> rfl) (by rfl) (by first | exact VQ.int _ _ | exact VQ.bool _ | exact VQ.ptr _ _ | exact VQ.slice _ _ _ | exact VQ.func (by simp [vq_int, vq_ptr, vq_slice]) (by simp [vq_int, vq_ptr, vq_slice]) | exact VQ.agg (by simp [vq_int, vq_ptr, vq_slice]) | exact VQ.tuple (by simp [vq_int, vq_ptr, vq_slice])) ?_
            refine DrL.float (by rfl) (by rfl) (by rfl) (fb22_1 (v := .int .i64 (atL st ro (a + i))) (by simp only [sev_tmp, sg_eq, sp_n, Nat.reduceLT, hn]) rfl) ?_
            have hnb : Canon.look (bump A' 21).objs (A'.next + 17) = none := hw'.none (by omega)
            obtain ⟨B2, p1, hxB2, eB2, lB2, kB2⟩ := place_row (N := 0) (Nx.refl hxB.wf 0) (b := A'.next + 17) (Nat.zero_le _) (by rw [bump_next]; omega) hnb [.int .i64 (atL st ro (a + i))] 3 1 1
            rw [bump_next] at eB2
            have F2 := hF B2 (kB2 _ (by omega)) (kB2 _ (by omega))
            have hg2 : Gr B2 ya G.next (redR (atL st ro) a i) := (hgy.nx (n := 0) hw' hxB).ext (by rw [bump_next]; omega) fun b' hb' => by
              by_cases hbb : b' = A'.next + 17
              · exact .inl (hbb ▸ hnb)
              · exact .inr (kB2 _ hbb)
            have hlen := redR_len (atL st ro) a i
            obtain ⟨B3, q1, n3, w3, hg3, kp3, _⟩ := gr_push hxB2.wf hg2 (a2 := some ⟨A'.next + 17, 0, none⟩) (c2 := 1) (b2 := A'.next + 17) (x := atL st ro (a + i)) rfl (by rw [cl_of lB2 rfl]; rfl) (by omega)
            rw [hlen] at q1
            have hsnoc : redR (atL st ro) a i ++ [atL st ro (a + i)] = redR (atL st ro) a (i + 1) := by simp [redR, List.range_succ]
            rw [hsnoc] at hg3
            have L3 : ∀ b', b' < G.next → Canon.look B3.objs b' = Canon.look A'.objs b' := fun b' hb' => by
              rw [kp3 b' (by omega) (fun y hy => by obtain ⟨_, q, _⟩ := hg2.sl y hy; omega), kB2 _ (by omega)]
              rfl
            have F3 := hF B3 (L3 _ (by omega)) (L3 _ (by omega))
            refine DrL.eff (by rfl) (by rfl) (pd1 := [(17, ⟨[.int .i64 (atL st ro (a + i))], 3, .sl 1 1⟩)]) (pd2 := []) (by kernel_rfl) (by kernel_rfl) (ms0 := [bump A' 21]) (A0 := B2) (by simp only [placeAll, p1]) (fun M hM => by rw [List.mem_singleton] at hM; rw [hM]; exact FB) F2 (by rfl)
              (v := .slice (some ⟨B2.next, 0, none⟩) (i + 1) (i + 1)) (A1 := B3) (opRun_op rfl (by simp only [sev_tmp, sg_eq, sg_ne, sp_n, Nat.reduceLT, ne_eq, Nat.reduceEqDiff, not_false_eq_true, Nat.zero_add, Nat.reduceAdd, hn, ae_apd, apd_slice, FK.val]; exact q1)) ?_
            refine DrL.read (by first | rfl | kernel_rfl) (by rfl) (by assumption) (fun M hM => by simp only [sev_tmp, sg_ne, ne_eq, Nat.reduceEqDiff, not_false_eq_true, fx, fad, adr_p, Nat.zero_add, Nat.reduceAdd, fo24_2, s11] <;> rfl) (by rfl) (by first | exact VQ.int _ _ | exact VQ.bool _ | exact VQ.ptr _ _ | exact VQ.slice _ _ _ | exact VQ.func (by simp [vq_int, vq_ptr, vq_slice]) (by simp [vq_int, vq_ptr, vq_slice]) | exact VQ.agg (by simp [vq_int, vq_ptr, vq_slice]) | exact VQ.tuple (by simp [vq_int, vq_ptr, vq_slice])) ?_
            have l3 : Canon.look B3.objs B.next = _ := (L3 _ (by omega)).trans lA'
            obtain ⟨B4, v1, v2⟩ := st1_upd (o := 2) (v := .slice (some ⟨B2.next, 0, none⟩) (i + 1) (i + 1)) l3 rfl (by simp) rfl
            refine DrL.eff (by rfl) (by rfl) (pd1 := []) (pd2 := []) (by kernel_rfl) (by kernel_rfl) (ms0 := []) (A0 := B3) rfl (fun _ h => by cases h) F3 (by rfl) (v := undef) (A1 := B4) (opRun_op rfl (fx_ok (by rfl) (by simp only [sev_tmp, sg_eq, sg_ne, sp_n, Nat.reduceLT, ne_eq, Nat.reduceEqDiff, not_false_eq_true, fx, str, adr_p, Nat.zero_add, Nat.reduceAdd, tk22, hn, v1]))) ?_
            refine DrL.nil ⟨by rfl, B4, by rfl, ?_⟩
            (repeat (first | refine Rn.seq hc ?_ | refine Rn.skip hc ?_ | refine Rn.block hc ?_ | refine Rn.inBlock hc ?_ | refine Rn.scope hc ?_ | refine Rn.inScope hc ?_))
            refine Rn.reg hc rfl ?_
            simp only [sev_tmp, sev_const, sg_eq, sg_ne, sp_n, sp_none, Nat.reduceLT, ne_eq, Nat.reduceEqDiff, not_false_eq_true, gd, want_free, rops, fx, bin_add, Nat.zero_add, Option.some.injEq, exists_eq_left', Nat.reduceAdd, hn, s87, wrap_succ (show i < 9223372036854775807 by omega)]
            (repeat (first | refine Rn.seq hc ?_ | refine Rn.skip hc ?_ | refine Rn.block hc ?_ | refine Rn.inBlock hc ?_ | refine Rn.scope hc ?_ | refine Rn.inScope hc ?_))
            have l4 : Canon.look B4.objs B.next = some ⟨.cells #[.int .i64 m, .slice xa a a, .slice (some ⟨B2.next, 0, none⟩) (i + 1) (i + 1)] 24, false, 0⟩ := by
              obtain ⟨c, t, f, g, e, r1, r2, _⟩ := v2.at'
              rw [l3] at r1
              cases r1
              exact r2
            have hn4 := v2.next
            refine ih _ _ _ (by omega) ⟨some ⟨B2.next, 0, none⟩, i + 1, by omega, rfl, by omega, (v2.nx w3 (Nat.zero_le _)).wf, fun b hb hne => ?_, (hg3.off v2 (by omega)).mono (by omega), l4, by simp only [sp_n, hn], by simp only [sg_ne, ne_eq, Nat.reduceEqDiff, not_false_eq_true, s1], by simp only [sg_ne, ne_eq, Nat.reduceEqDiff, not_false_eq_true, s2], by simp only [sg_ne, ne_eq, Nat.reduceEqDiff, not_false_eq_true, s6], by simp only [sg_ne, ne_eq, Nat.reduceEqDiff, not_false_eq_true, s8], by simp only [sg_ne, ne_eq, Nat.reduceEqDiff, not_false_eq_true, s11], by simp only [sg_ne, ne_eq, Nat.reduceEqDiff, not_false_eq_true, s12], by simp only [sg_ne, ne_eq, Nat.reduceEqDiff, not_false_eq_true, s86], by simp only [sg_eq, sp_n, Nat.reduceLT, hn]⟩
            rw [v2.off _ hne, L3 _ hb]
            exact hkp b hb hne
          · have hd : decide ((i : Int) < (d : Int)) = false := by simp; omega
            have hid : i = d := by omega
            subst hid
            clear ih
            refine Rn.reg hc rfl ?_
            simp only [sev_tmp, gd, want_free, rops, fx, bin_lss, Option.some.injEq, exists_eq_left', s86, s87, hd]
            (repeat (first | refine Rn.seq hc ?_ | refine Rn.skip hc ?_ | refine Rn.block hc ?_ | refine Rn.inBlock hc ?_ | refine Rn.scope hc ?_ | refine Rn.inScope hc ?_))
            refine Rn.condE hc rfl ?_
            simp only [sev_tmp, sg_eq, Nat.reduceLT, Value.bool.injEq, exists_eq_left', hn]
            (repeat (first | refine Rn.seq hc ?_ | refine Rn.skip hc ?_ | refine Rn.block hc ?_ | refine Rn.inBlock hc ?_ | refine Rn.scope hc ?_ | refine Rn.inScope hc ?_))
            refine Rn.exit hc rfl ?_
            (repeat (first | refine Rn.seq hc ?_ | refine Rn.skip hc ?_ | refine Rn.block hc ?_ | refine Rn.inBlock hc ?_ | refine Rn.scope hc ?_ | refine Rn.inScope hc ?_))
            have c0 : cl A' B.next 0 = some (.int .i64 m) := by rw [cl_of lA' rfl]; rfl
            have c1 : cl A' B.next 1 = some (.slice xa a a) := by rw [cl_of lA' rfl]; rfl
            have c2 : cl A' B.next 2 = some (.slice ya i i) := by rw [cl_of lA' rfl]; rfl
            have lR : Canon.look A'.objs A.next = _ := (hkp _ (by omega) (by omega)).trans ((hG0 _ (by omega)).trans l1)
            obtain ⟨A6, c6, q1, q2, q3, q4⟩ := sts_upd (l := [.int .i64 m, .slice xa a a, .slice ya i i]) (o := 0) lR rfl (by simp) rfl
            have g0 : cl A6 A.next 0 = some (.int .i64 m) := by rw [q2.cl, q4]; rfl
            have g1 : cl A6 A.next 1 = some (.slice xa a a) := by rw [q2.cl, q4]; rfl
            have g2 : cl A6 A.next 2 = some (.slice ya i i) := by rw [q2.cl, q4]; rfl
            have hn6 := q2.next
            refine Rn.reg hc rfl ?_
            simp only [sev_tmp, sev_const, sg_eq, sg_ne, sp_n, sp_none, Nat.reduceLT, ne_eq, Nat.reduceEqDiff, not_false_eq_true, gd, want_free, rops, fx, ld, str, adr_p, cls, Nat.zero_add, Option.some.injEq, exists_eq_left', Nat.reduceAdd, tk24, hn, s6, s11, c0, c1, c2, q1, List.size_toArray, List.length_cons, List.length_nil, Nat.beq_refl]
            (repeat (first | refine Rn.seq hc ?_ | refine Rn.skip hc ?_ | refine Rn.block hc ?_ | refine Rn.inBlock hc ?_ | refine Rn.scope hc ?_ | refine Rn.inScope hc ?_))
            refine Rn.ret (endQ_ct rfl (v := .agg #[.int .i64 m, .slice xa a a, .slice ya i i]) ?_ ⟨a, i, hra, hal, hdl, ⟨by omega, (q2.nx hw' (Nat.zero_le _)).wf, fun b hb => by rw [q2.off _ (by omega), hkp _ (by omega) (by omega), hG0 _ (by omega), hx1.keep _ hb]⟩, ?_⟩)
            · simp only [sg_ne, ne_eq, Nat.reduceEqDiff, not_false_eq_true, ld, adr_p, cls, Nat.zero_add, Nat.reduceAdd, tk24, s6, g0, g1, g2]
            · rw [if_neg (by omega)]
              refine ⟨xa, ya, by simp only [sg_eq, sp_n, Nat.reduceLT, hn], ?_, (hgy.off q2 (by omega)).mono (by omega)⟩
              refine (((hgE.off u2 (by omega)).ext (by omega) fun b' hb' => ?_).off q2 (by omega)).mono (by omega)
              by_cases hlt' : b' < G.next
              · exact .inr (hkp b' hlt' (by omega))
              · exact .inl (wG.none (by omega))
      · intro _ _ _ h
        exact h.elim
  · intro _ _ _ h
    exact h.elim
end Go.Proofs.Ytdaljohmfnfgiaa
/- Least; a modulus out of a sack; whether a stream is right. No condition. -/
namespace Go.Proofs.Ytdaljohmfnfgiaa
open Go Go.RowKit Go.Proofs.Ytdaljohmfnfgiaa.Canon
set_option maxRecDepth 20000


theorem least_of {A : AHeap} (hw : WF A) {m : Int} {sa ra : Option Addr} {sc rc : Nat} {st ro : List Int} (hs : Ints A sa 0 A.next st) (hr : Ints A ra 0 A.next ro) (ls : st.length < 4611686018427387904) (lr : ro.length < 4611686018427387904) (hsl : Sl A sa 0) (hsc : st.length ≤ sc) :
    Con Try.prog 18 [.agg #[.int .i64 m, .slice sa st.length sc, .slice ra ro.length rc]] A (fun v A1 => (errL m st ro = 0 → ∃ a p, Red (atL st ro) a p ∧ a ≤ st.length ∧ p ≤ ro.length ∧ LeastQ A m (atL st ro) a p v A1) ∧ (errL m st ro ≠ 0 → v = .tuple #[.agg #[.int .i64 0, .slice none 0 0, .slice none 0 0], .int .i64 (errL m st ro)] ∧ Nx A.next A A1)) := by
  refine con_of_rn hc Try.func18 rfl (Nat.le_of_ble_eq_true rfl) ?_
  obtain ⟨A0, e0, hx0, hn0, b0, b1, b2⟩ := box3 hw (.int .i64 m) (.slice sa st.length sc) (.slice ra ro.length rc) 24
  have hx1 : Nx A0.next A0 (A0.push (.cells #[.int .i64 0, .slice none 0 0, .slice none 0 0] 24)) := (Nx.refl hx0.wf _).push (Nat.le_refl _) _
  have l1 := look_push_eq A0 (.cells #[.int .i64 0, .slice none 0 0, .slice none 0 0] 24)
  have hn1 : (A0.push (.cells #[.int .i64 0, .slice none 0 0, .slice none 0 0] 24)).next = A0.next + 1 := rfl
  generalize e1 : A0.push (.cells #[.int .i64 0, .slice none 0 0, .slice none 0 0] 24) = A1 at hx1 l1 hn1
  obtain ⟨A3, e3, hx3, hn3, c0, c1, c2⟩ := box3 hx1.wf (.int .i64 m) (.slice sa st.length sc) (.slice ra ro.length rc) 24
  have hx01 : Nx A.next A A1 := hx0.trans (hx1.le hx0.next)
  have hx03 : Nx A.next A A3 := hx01.trans (hx3.le hx01.next)
  have hrow : LRow A3 (some ⟨A1.next, 0, none⟩) [⟨m, sa, sc, st, ra, rc, ro⟩] := fun i hi => by
    have : i = 0 := by simp at hi; omega
    subst this
    exact ⟨⟨(hs.nx hx03 (Nat.le_refl _)).mono (Nat.le_refl _) hx03.next, (hr.nx hx03 (Nat.le_refl _)).mono (Nat.le_refl _) hx03.next, ls, lr⟩, _, _, rfl, by omega, c0, c1, c2⟩
  have b0' := (hx1.cl (show A.next < A0.next by omega) 0).trans b0
  have b1' := (hx1.cl (show A.next < A0.next by omega) 1).trans b1
  have b2' := (hx1.cl (show A.next < A0.next by omega) 2).trans b2
  rw [s_in1]
  (repeat (first | refine Rn.seq hc ?_ | refine Rn.skip hc ?_ | refine Rn.block hc ?_ | refine Rn.inBlock hc ?_ | refine Rn.scope hc ?_ | refine Rn.inScope hc ?_))
  refine Rn.reg hc rfl ?_
  simp only [sev_tmp, sev_const, sg_eq, Nat.reduceLT, ne_eq, gd, want_free, rops, fx, Option.some.injEq, exists_eq_left', Value.cells, show Try.f18.ntmps = 21 from rfl, e0, ze24, e1]
  (repeat (first | refine Rn.seq hc ?_ | refine Rn.skip hc ?_ | refine Rn.block hc ?_ | refine Rn.inBlock hc ?_ | refine Rn.scope hc ?_ | refine Rn.inScope hc ?_))
  refine Rn.region hc fun K hK => ?_
  refine Wo.run hc 2 rfl rfl rfl ?_
  simp (maxSteps := 2000000) only [List.drop_zero, List.take_succ_cons, List.take_zero, sev_tmp, sg_eq, sg_ne, sp_n, Nat.reduceLT, ne_eq, Nat.reduceEqDiff, not_false_eq_true, gd, want_free, rops, fx, ld, adr_p, cls, Nat.zero_add, Option.some.injEq, exists_eq_left', Value.cells, Nat.reduceAdd, tk24, b0', b1', b2', bs46_1, List.size_toArray, List.length_cons, List.length_nil, e3]
  refine Wo.call hc (by rfl) (by rfl) ⟨by rfl, by rfl⟩ (xs := [.slice (some ⟨A1.next, 0, none⟩) 1 1]) (by rfl) (by rfl) (by rfl) (Con.mono (check_all hx3.wf (l := [⟨m, sa, sc, st, ra, rc, ro⟩]) hrow (by simp)) ?_)
  rintro w A4 ⟨rfl, hx4⟩
  rw [errs_one, show (⟨m, sa, sc, st, ra, rc, ro⟩ : Las).err = errL m st ro from rfl]
  refine Wo.run hc 1 rfl rfl rfl ?_
  simp (maxSteps := 2000000) only [List.drop_zero, List.drop_succ_cons, List.take_succ_cons, List.take_zero, sev_tmp, sg_eq, sp_n, Nat.reduceLT, gd, want_free, rops, fx, Option.some.injEq, exists_eq_left', Nat.reduceAdd]
  refine Wo.done hc rfl (hK _ _ ?_)
  clear hK
  (repeat (first | refine Rn.seq hc ?_ | refine Rn.skip hc ?_ | refine Rn.block hc ?_ | refine Rn.inBlock hc ?_ | refine Rn.scope hc ?_ | refine Rn.inScope hc ?_))
  have hx34 : Nx A1.next A1 A4 := hx3.trans (hx4.le hx3.next)
  have hx04 : Nx A.next A A4 := hx01.trans (hx34.le hx01.next)
  have n4 : A0.next < A4.next := by have := hx4.next; omega
  have l4 : Canon.look A4.objs A0.next = _ := (hx34.keep _ (by omega)).trans l1
  have hst : ∀ {D : AHeap} {v0 v1 v2 : Value}, Nx A4.next A4 D → [v0, v1, v2].all isCell = true → ∃ D', sts D A0.next 0 [v0, v1, v2] = some D' ∧ D'.next = D.next ∧ WF D' ∧ Upd D A0.next (⟨[v0, v1, v2]⟩ : Array Value) D' ∧ cl D' A0.next 0 = some v0 ∧ cl D' A0.next 1 = some v1 ∧ cl D' A0.next 2 = some v2 := fun {D v0 v1 v2} hD hv => by
    have hl := (hD.keep A0.next n4).trans l4
    obtain ⟨D', c', q1, q2, q3, q4⟩ := sts_upd (l := [v0, v1, v2]) (o := 0) hl rfl (by simp) hv
    have hc : c' = #[v0, v1, v2] := by
      refine Array.ext_getElem? fun i => ?_
      rw [q4 i]
      by_cases hi : i < 3
      · rw [if_pos ⟨Nat.zero_le _, by simpa using hi⟩]
        simp
      · rw [if_neg (by simp; omega)]
        rw [Array.getElem?_eq_none (by simp; omega), Array.getElem?_eq_none (by simp; omega)]
    subst hc
    exact ⟨D', q1, q2.next, (q2.nx hD.wf (Nat.zero_le _)).wf, q2, by rw [q2.cl]; rfl, by rw [q2.cl]; rfl, by rw [q2.cl]; rfl⟩
  by_cases he : errL m st ro = 0
  · have hd : (!decide (errL m st ro = 0)) = false := by rw [decide_eq_true he]; rfl
    refine Rn.reg hc rfl ?_
    simp only [sev_tmp, sev_const, sg_eq, sp_n, Nat.reduceLT, gd, want_free, rops, fx, bin_neq, Option.some.injEq, exists_eq_left', hd]
    (repeat (first | refine Rn.seq hc ?_ | refine Rn.skip hc ?_ | refine Rn.block hc ?_ | refine Rn.inBlock hc ?_ | refine Rn.scope hc ?_ | refine Rn.inScope hc ?_))
    refine Rn.condE hc rfl ?_
    simp only [sev_tmp, sg_eq, sp_n, Nat.reduceLT, Value.bool.injEq, exists_eq_left']
    (repeat (first | refine Rn.seq hc ?_ | refine Rn.skip hc ?_ | refine Rn.block hc ?_ | refine Rn.inBlock hc ?_ | refine Rn.scope hc ?_ | refine Rn.inScope hc ?_))
    obtain ⟨l60, l120⟩ := errL_len he
    have hp := errL_pos he
    have b0'' := (hx34.cl (show A.next < A1.next by omega) 0).trans b0'
    have b1'' := (hx34.cl (show A.next < A1.next by omega) 1).trans b1'
    have b2'' := (hx34.cl (show A.next < A1.next by omega) 2).trans b2'
    refine Rn.region hc fun K hK => ?_
    refine Wo.run hc 6 rfl rfl rfl ?_
    simp (maxSteps := 2000000) only [List.drop_zero, List.take_succ_cons, List.take_zero, sev_tmp, sg_eq, sg_ne, sp_n, Nat.reduceLT, ne_eq, Nat.reduceEqDiff, not_false_eq_true, gd, want_free, rops, fx, ld, fad, adr_p, Nat.zero_add, Nat.add_zero, Option.some.injEq, exists_eq_left', tk3, tk22, fo24_0, fo24_1, fo24_2, b0'', b1'', b2'']
    refine Wo.call hc (by rfl) (by rfl) ⟨by rfl, by rfl⟩ (xs := [.int .i64 m, .slice sa st.length sc, .slice ra ro.length rc]) (by rfl) (by rfl) (by rfl) (Con.mono (least_run hx4.wf ((hs.nx hx04 (Nat.le_refl _)).mono (Nat.le_refl _) hx04.next) ((hr.nx hx04 (Nat.le_refl _)).mono (Nat.le_refl _) hx04.next) (by omega) (by omega) hp (hsl.nx hw hx04) hsc) ?_)
    rintro w A5 ⟨a, p, hred, ha, hpl, hx5, hq⟩
    have hx05 : Nx A.next A A5 := hx04.trans (hx5.le hx04.next)
    by_cases hlong : 120 < p ∨ 60 < a
    · rw [if_pos hlong] at hq
      subst hq
      obtain ⟨D, q1, q2, q3, q4, g0, g1, g2⟩ := hst (v0 := .int .i64 0) (v1 := .slice none 0 0) (v2 := .slice none 0 0) hx5 rfl
      refine Wo.run hc 4 rfl rfl rfl ?_
      simp (maxSteps := 2000000) only [List.drop_zero, List.drop_succ_cons, List.take_succ_cons, List.take_zero, sev_tmp, sg_eq, sg_ne, sp_n, sp_none, Nat.reduceLT, ne_eq, Nat.reduceEqDiff, not_false_eq_true, gd, want_free, rops, fx, str, ext, adr_p, List.getElem?_toArray, List.getElem?_cons_zero, List.getElem?_cons_succ, Nat.zero_add, Option.some.injEq, exists_eq_left', Nat.reduceAdd, tk24, ext, q1, List.size_toArray, List.length_cons, List.length_nil, Nat.beq_refl]
      refine Wo.done hc rfl (hK _ _ ?_)
      clear hK
      (repeat (first | refine Rn.seq hc ?_ | refine Rn.skip hc ?_ | refine Rn.block hc ?_ | refine Rn.inBlock hc ?_ | refine Rn.scope hc ?_ | refine Rn.inScope hc ?_))
      refine Rn.ret (endQ_ct rfl (v := .agg #[.int .i64 0, .slice none 0 0, .slice none 0 0]) ?_ ⟨fun _ => ⟨a, p, hred, ha, hpl, ⟨by have := hx05.next; omega, q3, fun b hb => by rw [q4.off _ (by omega), hx05.keep _ hb]⟩, ?_⟩, fun h => absurd he h⟩)
      · simp only [sg_eq, sg_ne, sp_n, Nat.reduceLT, ne_eq, Nat.reduceEqDiff, not_false_eq_true, ld, adr_p, cls, Nat.zero_add, Nat.reduceAdd, tk24, g0, g1, g2]
      · rw [if_pos hlong]
        simp only [sg_eq, sp_n, Nat.reduceLT]
    · rw [if_neg hlong] at hq
      obtain ⟨xa, ya, rfl, hg1, hg2⟩ := hq
      obtain ⟨D, q1, q2, q3, q4, g0, g1, g2⟩ := hst (v0 := .int .i64 m) (v1 := .slice xa a a) (v2 := .slice ya p p) hx5 rfl
      refine Wo.run hc 4 rfl rfl rfl ?_
      simp (maxSteps := 2000000) only [List.drop_zero, List.drop_succ_cons, List.take_succ_cons, List.take_zero, sev_tmp, sg_eq, sg_ne, sp_n, sp_none, Nat.reduceLT, ne_eq, Nat.reduceEqDiff, not_false_eq_true, gd, want_free, rops, fx, str, ext, adr_p, List.getElem?_toArray, List.getElem?_cons_zero, List.getElem?_cons_succ, Nat.zero_add, Option.some.injEq, exists_eq_left', Nat.reduceAdd, tk24, ext, q1, List.size_toArray, List.length_cons, List.length_nil, Nat.beq_refl]
      refine Wo.done hc rfl (hK _ _ ?_)
      clear hK
      (repeat (first | refine Rn.seq hc ?_ | refine Rn.skip hc ?_ | refine Rn.block hc ?_ | refine Rn.inBlock hc ?_ | refine Rn.scope hc ?_ | refine Rn.inScope hc ?_))
      refine Rn.ret (endQ_ct rfl (v := .agg #[.int .i64 m, .slice xa a a, .slice ya p p]) ?_ ⟨fun _ => ⟨a, p, hred, ha, hpl, ⟨by have := hx05.next; omega, q3, fun b hb => by rw [q4.off _ (by omega), hx05.keep _ hb]⟩, ?_⟩, fun h => absurd he h⟩)
      · simp only [sg_eq, sg_ne, sp_n, Nat.reduceLT, ne_eq, Nat.reduceEqDiff, not_false_eq_true, ld, adr_p, cls, Nat.zero_add, Nat.reduceAdd, tk24, g0, g1, g2]
      · rw [if_neg hlong]
        exact ⟨xa, ya, by simp only [sg_eq, sp_n, Nat.reduceLT], (hg1.off q4 (by omega)).mono (by omega), (hg2.off q4 (by omega)).mono (by omega)⟩
  · have hd : (!decide (errL m st ro = 0)) = true := by rw [decide_eq_false he]; rfl
    obtain ⟨D, q1, q2, q3, q4, g0, g1, g2⟩ := hst (v0 := .int .i64 0) (v1 := .slice none 0 0) (v2 := .slice none 0 0) (Nx.refl hx4.wf _) rfl
    refine Rn.reg hc rfl ?_
    simp only [sev_tmp, sev_const, sg_eq, sp_n, Nat.reduceLT, gd, want_free, rops, fx, bin_neq, Option.some.injEq, exists_eq_left', hd]
    (repeat (first | refine Rn.seq hc ?_ | refine Rn.skip hc ?_ | refine Rn.block hc ?_ | refine Rn.inBlock hc ?_ | refine Rn.scope hc ?_ | refine Rn.inScope hc ?_))
    refine Rn.condE hc rfl ?_
    simp only [sev_tmp, sg_eq, sp_n, Nat.reduceLT, Value.bool.injEq, exists_eq_left']
    (repeat (first | refine Rn.seq hc ?_ | refine Rn.skip hc ?_ | refine Rn.block hc ?_ | refine Rn.inBlock hc ?_ | refine Rn.scope hc ?_ | refine Rn.inScope hc ?_))
    refine Rn.reg hc rfl ?_
    simp only [sev_tmp, sg_eq, sg_ne, sp_n, sp_none, Nat.reduceLT, ne_eq, Nat.reduceEqDiff, not_false_eq_true, gd, want_free, rops, fx, str, adr_p, Nat.zero_add, Option.some.injEq, exists_eq_left', Nat.reduceAdd, tk24, bd24_z, q1, List.size_toArray, List.length_cons, List.length_nil, Nat.beq_refl]
    (repeat (first | refine Rn.seq hc ?_ | refine Rn.skip hc ?_ | refine Rn.block hc ?_ | refine Rn.inBlock hc ?_ | refine Rn.scope hc ?_ | refine Rn.inScope hc ?_))
    refine Rn.ret (endQ_ct rfl (v := .agg #[.int .i64 0, .slice none 0 0, .slice none 0 0]) ?_ ⟨fun h => absurd h he, fun _ => ⟨by simp only [sg_eq, sp_n, Nat.reduceLT], ⟨by have := hx04.next; omega, q3, fun b hb => by rw [q4.off _ (by omega), hx04.keep _ hb]⟩⟩⟩)
    simp only [sg_eq, sg_ne, sp_n, Nat.reduceLT, ne_eq, Nat.reduceEqDiff, not_false_eq_true, ld, adr_p, cls, Nat.zero_add, Nat.reduceAdd, tk24, g0, g1, g2]
end Go.Proofs.Ytdaljohmfnfgiaa
/- Where two streams differ, and whether they are the same. No condition. -/
namespace Go.Proofs.Ytdaljohmfnfgiaa
open Go Go.RowKit Go.Proofs.Ytdaljohmfnfgiaa.Canon
set_option maxRecDepth 20000
section
variable {ρ : Operand → Value} {d : Option Tmp} {ty : TypeId} {pos : String} {af : Array Edge} {gu : Option (Nat × Bool)} {A : AHeap}
end
def hdS (u : Int) : Canon.Spec := fun _ _ A v A1 => v = .int .i64 u ∧ Nx A.next A A1
/-- Where two streams differ. -/
def ApartQ (s t : Nat → Int) (v : Value) : Prop := (∃ n : Nat, v = .tuple #[.int .i64 (n : Int), .int .i64 0] ∧ s n ≠ t n ∧ ∀ j, j < n → s j = t j) ∨ (v = .tuple #[.int .i64 0, .int .i64 6] ∧ ∀ n, s n = t n)
end Go.Proofs.Ytdaljohmfnfgiaa
/- Where two streams differ, and whether they are the same: what the program does. No condition. -/
namespace Go.Proofs.Ytdaljohmfnfgiaa
open Go Go.RowKit Go.Proofs.Ytdaljohmfnfgiaa.Canon
set_option maxRecDepth 20000


theorem errs_two (x y : Las) : errs [x, y] [x, y] = if x.err ≠ 0 then x.err else if y.err ≠ 0 then y.err else if x.m = y.m then 0 else 7 := by
  unfold errs
  by_cases h1 : x.err = 0
  · rw [if_pos h1, if_neg (by simp [h1])]
    unfold errs
    by_cases h2 : y.err = 0
    · rw [if_pos h2, if_neg (by simp [h2])]
      simp only [errs, clash]
      by_cases h3 : x.m = y.m
      · simp [h3]
      · have h3' : ¬ y.m = x.m := fun e => h3 e.symm
        simp [h3, h3']
    · rw [if_neg h2, if_pos h2]
  · rw [if_neg h1, if_pos h1]
def Las.s (x : Las) : Nat → Int := atL x.st x.ro
def Las.v (x : Las) : Value := .agg #[.int .i64 x.m, .slice x.sa x.st.length x.sc, .slice x.ra x.ro.length x.rc]

end Go.Proofs.Ytdaljohmfnfgiaa
/- The reference's least stream. No condition. -/
namespace Go.Proofs.Ytdaljohmfnfgiaa
open Go Go.RowKit Go.Proofs.Ytdaljohmfnfgiaa.Canon
set_option maxRecDepth 20000


theorem turns_ref {A : AHeap} (hw : WF A) {a : Option Addr} {c : Nat} {ro : List Int} (hr : Ints A a 0 A.next ro) (lr : ro.length ≤ 1000000) {d : Nat} (hd0 : 0 < d) (hd2 : d ≤ 1000000) :
    Con Try.prog 109 [.slice a ro.length c, .int .i64 (d : Int)] A (fun v A1 => v = .bool (perOK ro d) ∧ Nx A.next A A1) := by
  refine con_of_rn hc Try.func109 rfl (Nat.le_of_ble_eq_true rfl) ?_
  rw [s_in2]
  have hrem : ∀ M, bin Try.prog .rem 3 (.int .i64 (ro.length : Int)) (.int .i64 (d : Int)) M = some (.int .i64 ((ro.length % d : Nat) : Int), M) := fun M => by
    rw [bin_rem _ _ _ _ (by omega), IntWalk.rem_in _ _ (by omega)]
    rfl
  (repeat (first | refine Rn.seq hc ?_ | refine Rn.skip hc ?_ | refine Rn.block hc ?_ | refine Rn.inBlock hc ?_ | refine Rn.scope hc ?_ | refine Rn.inScope hc ?_))
  refine Rn.reg hc rfl ?_
  simp only [sev_const, gd, want_free, rops, fx, Option.some.injEq, exists_eq_left', show Try.f109.ntmps = 29 from rfl]
  (repeat (first | refine Rn.seq hc ?_ | refine Rn.skip hc ?_ | refine Rn.block hc ?_ | refine Rn.inBlock hc ?_ | refine Rn.scope hc ?_ | refine Rn.inScope hc ?_))
  by_cases hdiv : ro.length % d = 0
  · have hd3 : (!decide (((ro.length % d : Nat) : Int) = 0)) = false := by rw [hdiv]; rfl
    refine Rn.reg hc rfl ?_
    simp only [sev_tmp, sev_const, sg_eq, sg_ne, sp_n, Nat.reduceLT, ne_eq, Nat.reduceEqDiff, not_false_eq_true, gd, want_free, rops, fx, lng, bin_neq, Option.some.injEq, exists_eq_left', un22, hrem, hd3]
    (repeat (first | refine Rn.seq hc ?_ | refine Rn.skip hc ?_ | refine Rn.block hc ?_ | refine Rn.inBlock hc ?_ | refine Rn.scope hc ?_ | refine Rn.inScope hc ?_))
    refine Rn.condE hc rfl ?_
    simp only [sev_tmp, sg_eq, sp_n, Nat.reduceLT, Value.bool.injEq, exists_eq_left']
    (repeat (first | refine Rn.seq hc ?_ | refine Rn.skip hc ?_ | refine Rn.block hc ?_ | refine Rn.inBlock hc ?_ | refine Rn.scope hc ?_ | refine Rn.inScope hc ?_))
    refine Rn.reg hc rfl ?_
    simp only [sev_tmp, sg_eq, sg_ne, sp_n, Nat.reduceLT, ne_eq, Nat.reduceEqDiff, not_false_eq_true, gd, want_free, rops, fx, Option.some.injEq, exists_eq_left']
    (repeat (first | refine Rn.seq hc ?_ | refine Rn.skip hc ?_ | refine Rn.block hc ?_ | refine Rn.inBlock hc ?_ | refine Rn.scope hc ?_ | refine Rn.inScope hc ?_))
    refine Rn.loopI hc (I := fun k s A' => ∃ i : Nat, d ≤ i ∧ (i ≤ ro.length ∨ i = d) ∧ k = ro.length - i ∧ Nx A.next A A' ∧ (∀ j, d ≤ j → j < i → ro.getD j 0 = ro.getD (j - d) 0) ∧ s.n = 29 ∧ sget s 0 = .slice a ro.length c ∧ sget s 1 = .int .i64 (d : Int) ∧ sget s 5 = .int .i64 (i : Int))
      (n := ro.length - d) ⟨d, Nat.le_refl _, .inr rfl, rfl, Nx.refl hw _, fun j h1 h2 => by omega, by simp only [sp_n], by simp only [sg_eq, sg_ne, Nat.reduceLT, ne_eq, Nat.reduceEqDiff, not_false_eq_true], by simp only [sg_eq, sg_ne, sp_n, Nat.reduceLT, ne_eq, Nat.reduceEqDiff, not_false_eq_true], by simp only [sg_eq, sp_n, Nat.reduceLT]⟩ ?_
    rintro k s A' ⟨i, hi1, hi2, rfl, hA, hper, hn, s0, s1, s5⟩ ih
    (repeat (first | refine Rn.seq hc ?_ | refine Rn.skip hc ?_ | refine Rn.block hc ?_ | refine Rn.inBlock hc ?_ | refine Rn.scope hc ?_ | refine Rn.inScope hc ?_))
    by_cases hlti : i < ro.length
    · have hd : decide ((i : Int) < (ro.length : Int)) = true := decide_eq_true (by omega)
      obtain ⟨bb, o, rfl, _, hb1, hcl⟩ := hr i hlti
      obtain ⟨bb', o', e', _, _, hcl'⟩ := hr (i - d) (by omega)
      cases e'
      have hcl : cl A' bb (o + i) = _ := (hA.cl hb1 _).trans hcl
      have hcl' : cl A' bb (o + (i - d)) = _ := (hA.cl hb1 _).trans hcl'
      have hsub : IntKind.i64.wrap ((i : Int) - (d : Int)) = ((i - d : Nat) : Int) := by rw [IntWalk.i64_in _ (by omega)]; omega
      have hidl : i - d < ro.length := by omega
      refine Rn.reg hc rfl ?_
      simp only [sev_tmp, sg_eq, sg_ne, sp_n, Nat.reduceLT, ne_eq, Nat.reduceEqDiff, not_false_eq_true, gd, want_free, rops, fx, lng, bin_lss, Option.some.injEq, exists_eq_left', un22, hn, s0, s5, hd]
      (repeat (first | refine Rn.seq hc ?_ | refine Rn.skip hc ?_ | refine Rn.block hc ?_ | refine Rn.inBlock hc ?_ | refine Rn.scope hc ?_ | refine Rn.inScope hc ?_))
      refine Rn.condE hc rfl ?_
      simp only [sev_tmp, sg_eq, sp_n, Nat.reduceLT, Value.bool.injEq, exists_eq_left', hn]
      (repeat (first | refine Rn.seq hc ?_ | refine Rn.skip hc ?_ | refine Rn.block hc ?_ | refine Rn.inBlock hc ?_ | refine Rn.scope hc ?_ | refine Rn.inScope hc ?_))
      by_cases heq : ro.getD i 0 = ro.getD (i - d) 0
      · have hne : (!decide (ro.getD i 0 = ro.getD (i - d) 0)) = false := by rw [decide_eq_true heq]; rfl
        refine Rn.drawnR hc hx (by kernel_rfl) (by rfl) (by kernel_rfl) ?_ ?_
        · simp only [rdV, VQ.int, VQ.bool, VQ.ptr, VQ.slice, cl_bump, sev_tmp, sg_eq, sg_ne, sp_n, Nat.reduceLT, ne_eq, Nat.reduceEqDiff, not_false_eq_true, gd, want_free, fx, ld, idx, bin_neq, bin_sub, adr_p, Nat.zero_add, Nat.reduceAdd, Nat.mul_one, and_self, tk3, eo22, hn, s0, s1, s5, nlen_nat hlti, nlen_nat hidl, hsub, hcl, hcl', hne, List.length_cons, List.length_nil]
        simp only [cl_bump, sev_tmp, sg_eq, sg_ne, sp_n, Nat.reduceLT, ne_eq, Nat.reduceEqDiff, not_false_eq_true, gd, want_free, rops, fx, ld, idx, bin_neq, bin_sub, adr_p, Nat.zero_add, Option.some.injEq, exists_eq_left', Nat.reduceAdd, Nat.mul_one, tk3, eo22, hn, s0, s1, s5, nlen_nat hlti, nlen_nat hidl, hsub, hcl, hcl', hne, List.length_cons, List.length_nil]
        (repeat (first | refine Rn.seq hc ?_ | refine Rn.skip hc ?_ | refine Rn.block hc ?_ | refine Rn.inBlock hc ?_ | refine Rn.scope hc ?_ | refine Rn.inScope hc ?_))
        refine Rn.condE hc rfl ?_
        simp only [sev_tmp, sg_eq, sp_n, Nat.reduceLT, Value.bool.injEq, exists_eq_left', hn]
        (repeat (first | refine Rn.seq hc ?_ | refine Rn.skip hc ?_ | refine Rn.block hc ?_ | refine Rn.inBlock hc ?_ | refine Rn.scope hc ?_ | refine Rn.inScope hc ?_))
        refine Rn.reg hc rfl ?_
        simp only [sev_tmp, sev_const, sg_eq, sg_ne, sp_n, Nat.reduceLT, ne_eq, Nat.reduceEqDiff, not_false_eq_true, gd, want_free, rops, fx, bin_add, Option.some.injEq, exists_eq_left', hn, s5, wrap_succ (show i < 9223372036854775807 by omega)]
        (repeat (first | refine Rn.seq hc ?_ | refine Rn.skip hc ?_ | refine Rn.block hc ?_ | refine Rn.inBlock hc ?_ | refine Rn.scope hc ?_ | refine Rn.inScope hc ?_))
        refine ih _ _ _ (by omega) ⟨i + 1, by omega, .inl (by omega), rfl, Nx.bump hA _, fun j h1 h2 => ?_, by simp only [sp_n, hn], by simp only [sg_ne, ne_eq, Nat.reduceEqDiff, not_false_eq_true, s0], by simp only [sg_ne, ne_eq, Nat.reduceEqDiff, not_false_eq_true, s1], by simp only [sg_eq, sp_n, Nat.reduceLT, hn]⟩
        by_cases hji : j = i
        · subst hji; exact heq
        · exact hper j h1 (by omega)
      · have hne : (!decide (ro.getD i 0 = ro.getD (i - d) 0)) = true := by rw [decide_eq_false heq]; rfl
        have hfalse : perOK ro d = false := by
          cases hp : perOK ro d with
          | false => rfl
          | true => exact absurd ((perOK_iff.1 hp).2 i hi1 hlti) heq
        clear ih
        refine Rn.drawnR hc hx (by kernel_rfl) (by rfl) (by kernel_rfl) ?_ ?_
        · simp only [rdV, VQ.int, VQ.bool, VQ.ptr, VQ.slice, cl_bump, sev_tmp, sg_eq, sg_ne, sp_n, Nat.reduceLT, ne_eq, Nat.reduceEqDiff, not_false_eq_true, gd, want_free, fx, ld, idx, bin_neq, bin_sub, adr_p, Nat.zero_add, Nat.reduceAdd, Nat.mul_one, and_self, tk3, eo22, hn, s0, s1, s5, nlen_nat hlti, nlen_nat hidl, hsub, hcl, hcl', hne, List.length_cons, List.length_nil]
        simp only [cl_bump, sev_tmp, sg_eq, sg_ne, sp_n, Nat.reduceLT, ne_eq, Nat.reduceEqDiff, not_false_eq_true, gd, want_free, rops, fx, ld, idx, bin_neq, bin_sub, adr_p, Nat.zero_add, Option.some.injEq, exists_eq_left', Nat.reduceAdd, Nat.mul_one, tk3, eo22, hn, s0, s1, s5, nlen_nat hlti, nlen_nat hidl, hsub, hcl, hcl', hne, List.length_cons, List.length_nil]
        (repeat (first | refine Rn.seq hc ?_ | refine Rn.skip hc ?_ | refine Rn.block hc ?_ | refine Rn.inBlock hc ?_ | refine Rn.scope hc ?_ | refine Rn.inScope hc ?_))
        refine Rn.condE hc rfl ?_
        simp only [sev_tmp, sg_eq, sp_n, Nat.reduceLT, Value.bool.injEq, exists_eq_left', hn]
        (repeat (first | refine Rn.seq hc ?_ | refine Rn.skip hc ?_ | refine Rn.block hc ?_ | refine Rn.inBlock hc ?_ | refine Rn.scope hc ?_ | refine Rn.inScope hc ?_))
        refine Rn.reg hc rfl ?_
        simp only [sev_const, gd, want_free, rops, fx, Option.some.injEq, exists_eq_left']
        (repeat (first | refine Rn.seq hc ?_ | refine Rn.skip hc ?_ | refine Rn.block hc ?_ | refine Rn.inBlock hc ?_ | refine Rn.scope hc ?_ | refine Rn.inScope hc ?_))
        refine Rn.ret (endQ_tmp rfl ⟨?_, Nx.bump hA _⟩)
        simp only [sg_eq, sp_n, Nat.reduceLT, hn, hfalse]
    · have hd : decide ((i : Int) < (ro.length : Int)) = false := decide_eq_false (by omega)
      have htrue : perOK ro d = true := perOK_iff.2 ⟨hdiv, fun j h1 h2 => hper j h1 (by omega)⟩
      clear ih
      refine Rn.reg hc rfl ?_
      simp only [sev_tmp, sg_eq, sg_ne, sp_n, Nat.reduceLT, ne_eq, Nat.reduceEqDiff, not_false_eq_true, gd, want_free, rops, fx, lng, bin_lss, Option.some.injEq, exists_eq_left', un22, hn, s0, s5, hd]
      (repeat (first | refine Rn.seq hc ?_ | refine Rn.skip hc ?_ | refine Rn.block hc ?_ | refine Rn.inBlock hc ?_ | refine Rn.scope hc ?_ | refine Rn.inScope hc ?_))
      refine Rn.condE hc rfl ?_
      simp only [sev_tmp, sg_eq, sp_n, Nat.reduceLT, Value.bool.injEq, exists_eq_left', hn]
      (repeat (first | refine Rn.seq hc ?_ | refine Rn.skip hc ?_ | refine Rn.block hc ?_ | refine Rn.inBlock hc ?_ | refine Rn.scope hc ?_ | refine Rn.inScope hc ?_))
      refine Rn.exit hc rfl ?_
      (repeat (first | refine Rn.seq hc ?_ | refine Rn.skip hc ?_ | refine Rn.block hc ?_ | refine Rn.inBlock hc ?_ | refine Rn.scope hc ?_ | refine Rn.inScope hc ?_))
      refine Rn.reg hc rfl ?_
      simp only [sev_const, gd, want_free, rops, fx, Option.some.injEq, exists_eq_left']
      (repeat (first | refine Rn.seq hc ?_ | refine Rn.skip hc ?_ | refine Rn.block hc ?_ | refine Rn.inBlock hc ?_ | refine Rn.scope hc ?_ | refine Rn.inScope hc ?_))
      refine Rn.ret (endQ_tmp rfl ⟨?_, hA⟩)
      simp only [sg_eq, sp_n, Nat.reduceLT, hn, htrue]
  · have hd3 : (!decide (((ro.length % d : Nat) : Int) = 0)) = true := by rw [decide_eq_false (by omega)]; rfl
    have hfalse : perOK ro d = false := by
      cases hp : perOK ro d with
      | false => rfl
      | true => exact absurd (perOK_iff.1 hp).1 hdiv
    refine Rn.reg hc rfl ?_
    simp only [sev_tmp, sev_const, sg_eq, sg_ne, sp_n, Nat.reduceLT, ne_eq, Nat.reduceEqDiff, not_false_eq_true, gd, want_free, rops, fx, lng, bin_neq, Option.some.injEq, exists_eq_left', un22, hrem, hd3]
    (repeat (first | refine Rn.seq hc ?_ | refine Rn.skip hc ?_ | refine Rn.block hc ?_ | refine Rn.inBlock hc ?_ | refine Rn.scope hc ?_ | refine Rn.inScope hc ?_))
    refine Rn.condE hc rfl ?_
    simp only [sev_tmp, sg_eq, sp_n, Nat.reduceLT, Value.bool.injEq, exists_eq_left']
    (repeat (first | refine Rn.seq hc ?_ | refine Rn.skip hc ?_ | refine Rn.block hc ?_ | refine Rn.inBlock hc ?_ | refine Rn.scope hc ?_ | refine Rn.inScope hc ?_))
    refine Rn.reg hc rfl ?_
    simp only [sev_const, gd, want_free, rops, fx, Option.some.injEq, exists_eq_left']
    (repeat (first | refine Rn.seq hc ?_ | refine Rn.skip hc ?_ | refine Rn.block hc ?_ | refine Rn.inBlock hc ?_ | refine Rn.scope hc ?_ | refine Rn.inScope hc ?_))
    refine Rn.ret (endQ_tmp rfl ⟨?_, Nx.refl hw _⟩)
    simp only [sg_eq, sp_n, Nat.reduceLT, hfalse]
end Go.Proofs.Ytdaljohmfnfgiaa
/- The reference's least stream: what is popped off. No condition. -/
namespace Go.Proofs.Ytdaljohmfnfgiaa
open Go Go.RowKit Go.Proofs.Ytdaljohmfnfgiaa.Canon
set_option maxRecDepth 20000


/-- A piece of a slice that is not empty: the same one, shorter. -/
theorem asl_pos {A : AHeap} {a : Option Addr} {c lo hi : Nat} {l : List Int} (h : Ints A a lo hi l) (hs : Sl A a lo) (hc' : l.length ≤ c) (hpos : 0 < l.length) {n : Nat} (hn : n ≤ l.length) :
    asl Try.prog 22 (.slice a l.length c) none (some (.int .i64 (n : Int))) none A = some (.slice a n c, A) := by
  obtain ⟨_, i, z, hinf, _, _, _, hsz, _⟩ := elB_eq el22
  have hb1 : abound (some (.int .i64 (n : Int))) l.length = some n := by simp [abound]
  have hb0 : ∀ d, abound none d = some d := fun _ => rfl
  have t1 : Nat.ble 0 n = true := Nat.ble_eq_true_of_le (Nat.zero_le _)
  have t2 : Nat.ble n c = true := Nat.ble_eq_true_of_le (by omega)
  have t3 : Nat.ble c c = true := Nat.ble_eq_true_of_le (Nat.le_refl _)
  have hc0 : c ≠ 0 := by omega
  obtain ⟨b, o, rfl, _, _, _⟩ := h 0 hpos
  obtain ⟨_, _, y, hy, hg⟩ := hs _ rfl
  obtain ⟨ob, g, zz⟩ := y
  have hadd : (⟨b, o, none⟩ : Addr).add (0 * i.size) = ⟨b, o, none⟩ := by
    rw [Nat.zero_mul, addr_add]; rfl
  rcases hg with hg | ⟨hg, _, hz⟩
  · simp only at hg
    subst hg
    simp only [asl, un22, hinf, hb0, hb1, t2, Option.isSome_none, Bool.not_false, Bool.true_or, Nat.sub_zero, hy]
    rw [t1, t3]
    simp only [hc0, if_false, hadd]
  · simp only at hg hz
    subst hg hz
    have hzi : Nat.beq 1 i.size = true := by rw [hsz]; rfl
    have hcb : Nat.beq c 0 = false := by
      cases hb : Nat.beq c 0 with
      | false => rfl
      | true => exact absurd (Nat.eq_of_beq_eq_true hb) hc0
    simp only [asl, un22, hinf, hb0, hb1, t2, Option.isSome_none, Bool.not_false, Bool.true_or, Nat.sub_zero, hy, hzi, hcb, hadd]
    rw [t1, t3]
theorem Ints.take {A : AHeap} {a : Option Addr} {lo hi n : Nat} {l : List Int} (h : Ints A a lo hi l) : Ints A a lo hi (l.take n) := fun i hi' => by
  have hl : i < l.length := by simp at hi'; omega
  have hn : i < n := by simp at hi'; omega
  obtain ⟨b, o, q1, q2, q3, q4⟩ := h i hl
  refine ⟨b, o, q1, q2, q3, ?_⟩
  rw [q4]
  simp only [List.getD_eq_getElem?_getD, List.getElem?_take]
  rw [if_pos hn]
/-- A list is appended to a row that has nothing in it. -/
theorem app_at {A : AHeap} (hw : WF A) {b n : Nat} (hb : ∃ y, Canon.look A.objs b = .some y ∧ y.grown = false ∧ y.esz = 0) (hn : n ≤ A.next) (hnb : n ≤ b) (hbn : b < A.next) {a2 : Option Addr} {c2 : Nat} {l : List Int} (h : Ints A a2 0 A.next l) (hlen : l.length ≤ 1000000) :
    ∃ a' A1, aapp Try.prog #[22, 22] #[.slice (some ⟨b, 0, none⟩) 0 0, .slice a2 l.length c2] A = .some (.slice a' l.length l.length, A1) ∧ Nx A.next A A1 ∧ Gr A1 a' n l := by
  by_cases h0 : l.length = 0
  · have hl : l = [] := List.length_eq_zero_iff.1 h0
    subst hl
    exact ⟨some ⟨b, 0, none⟩, A, aapp_nil el22 un22 (Nat.le_refl _), Nx.refl hw _, fun i hi => by simp at hi, fun x hx => by cases hx; obtain ⟨y, h1, h2, _⟩ := hb; exact ⟨rfl, hnb, y, h1, .inl h2⟩, fun x hx => by cases hx; obtain ⟨y, h1, h2, h3⟩ := hb; exact ⟨y, h1, by rw [h2, h3]; rfl⟩⟩
  · obtain ⟨A1, h1, h2⟩ := aapp_new (P := Try.prog) (c := 0) (c2 := c2) (a := some ⟨b, 0, none⟩) (n := 0) (l := []) (m := l.length) el22 un22 (.inl rfl) (by simp)
      (fun x hx => by cases hx; obtain ⟨y, h1, h2, _⟩ := hb; exact ⟨y, h1, .inl h2⟩) (fun h => by cases h) h.row (by simp) (by simp [isCell]) (fun h' => by subst h'; exact absurd h.some h0) (by omega) (by omega) (by omega)
    simp only [Nat.zero_add] at h1
    refine ⟨_, A1, h1, h2.nx hw (Nat.le_refl _) (fun x hx => by cases hx; obtain ⟨y, q1, q2, _⟩ := hb; exact .inr ⟨y, q1, q2⟩), fun i hi => ⟨_, _, rfl, hn, by rw [h2.next]; omega, ?_⟩, fun x hx => by cases hx; exact ⟨rfl, hn, _, h2.new, .inr ⟨rfl, rfl, rfl⟩⟩, fun x hx => by cases hx; exact ⟨_, h2.new, rfl⟩⟩
    rw [h2.cl]
    simp [List.getD_eq_getElem?_getD, hi]
/-- A list is appended to a row of one number. -/
theorem app_one {A : AHeap} (hw : WF A) {b n : Nat} {x : Int} (hb : Canon.look A.objs b = .some ⟨.cells ⟨[.int .i64 x]⟩ 3, false, 0⟩) (hn : n ≤ A.next) (hnb : n ≤ b) (hbn : b < A.next) {a2 : Option Addr} {c2 : Nat} {l : List Int} (h : Ints A a2 0 A.next l) (hlen : l.length ≤ 1000000) :
    ∃ a' A1, aapp Try.prog #[22, 22] #[.slice (some ⟨b, 0, none⟩) 1 1, .slice a2 l.length c2] A = .some (.slice a' (l.length + 1) (l.length + 1), A1) ∧ Nx A.next A A1 ∧ Gr A1 a' n (x :: l) := by
  have hc0 : cl A b 0 = some (.int .i64 x) := by rw [cl_of hb rfl]; rfl
  by_cases h0 : l.length = 0
  · have hl : l = [] := List.length_eq_zero_iff.1 h0
    subst hl
    refine ⟨some ⟨b, 0, none⟩, A, aapp_nil el22 un22 (Nat.le_refl _), Nx.refl hw _, fun i hi => ?_, fun x hx => by cases hx; exact ⟨rfl, hnb, _, hb, .inl rfl⟩, fun x hx => by cases hx; exact ⟨_, hb, rfl⟩⟩
    have : i = 0 := by simp at hi; omega
    subst this
    exact ⟨b, 0, rfl, hnb, hbn, hc0⟩
  · obtain ⟨A1, h1, h2⟩ := aapp_new (P := Try.prog) (c := 1) (c2 := c2) (a := some ⟨b, 0, none⟩) (n := 1) (l := [.int .i64 x]) (m := l.length) el22 un22 (.inr ⟨b, 0, rfl, fun i hi => by
        have : i = 0 := by simp at hi; omega
        subst this
        exact hc0⟩) (by simp)
      (fun x hx => by cases hx; exact ⟨_, hb, .inl rfl⟩) (fun h => by cases h) h.row (by simp) (by simp [isCell]) (fun h' => by subst h'; exact absurd h.some h0) (by omega) (by omega) (by omega)
    rw [Nat.add_comm 1 l.length] at h1
    refine ⟨_, A1, h1, h2.nx hw (Nat.le_refl _) (fun x hx => by cases hx; exact .inr ⟨_, hb, rfl⟩), fun i hi => ⟨_, _, rfl, hn, by rw [h2.next]; omega, ?_⟩, fun x hx => by cases hx; exact ⟨rfl, hn, _, h2.new, .inr ⟨rfl, rfl, rfl⟩⟩, fun x hx => by cases hx; exact ⟨_, h2.new, rfl⟩⟩
    rw [h2.cl]
    simp only [Nat.zero_add]
    cases i with
    | zero => simp
    | succ i =>
      have : i < l.length := by simpa using hi
      simp [List.getD_eq_getElem?_getD, this]
end Go.Proofs.Ytdaljohmfnfgiaa
/- The reference's least stream. No condition. -/
namespace Go.Proofs.Ytdaljohmfnfgiaa
open Go Go.RowKit Go.Proofs.Ytdaljohmfnfgiaa.Canon
set_option maxRecDepth 20000


theorem redS_take (s : Nat → Int) {e k : Nat} (h : k ≤ e) : (redS s e).take k = redS s k := by
  refine List.ext_getElem (by simp [redS]; omega) fun i h1 h2 => ?_
  simp [redS]
theorem redR_take (s : Nat → Int) (a : Nat) {n k : Nat} (h : k ≤ n) : (redR s a n).take k = redR s a k := by
  refine List.ext_getElem (by simp [redR]; omega) fun i h1 h2 => ?_
  simp [redR]
theorem redR_cons (s : Nat → Int) (a n : Nat) : redR s a (n + 1) = s a :: redR s (a + 1) n := by
  refine List.ext_getElem (by simp [redR]) fun i h1 h2 => ?_
  cases i with
  | zero => simp [redR]
  | succ i =>
    simp [redR]
    congr 1
    omega
theorem wrap_pred {k : Nat} (h : 0 < k) (hk : k ≤ 1000000) : IntKind.i64.wrap ((k : Int) - 1) = ((k - 1 : Nat) : Int) := by rw [IntWalk.i64_in _ (by omega)]; omega
theorem small_ref {A : AHeap} (hw : WF A) {m : Int} {sa ra : Option Addr} {sc rc : Nat} {st ro : List Int} (hs : Ints A sa 0 A.next st) (hr : Ints A ra 0 A.next ro) (ls : st.length ≤ 1000000) (lr : ro.length ≤ 1000000) (hro : 0 < ro.length) (hsl : Sl A ra 0) (hrc : ro.length ≤ rc) :
    Con Try.prog 83 [.agg #[.int .i64 m, .slice sa st.length sc, .slice ra ro.length rc]] A (fun v A1 => ∃ a p, Red (atL st ro) a p ∧ a ≤ st.length ∧ p ≤ ro.length ∧ Nx A.next A A1 ∧ ∃ xa xc xr, v = .agg #[.int .i64 m, .slice xa a xc, .slice xr p p] ∧ a ≤ xc ∧ Ints A1 xa A.next A1.next (redS (atL st ro) a) ∧ Ints A1 xr A.next A1.next (redR (atL st ro) a p) ∧ Sl A1 xa A.next ∧ Sl A1 xr A.next) := by
  refine con_of_rn hc Try.func83 rfl (Nat.le_of_ble_eq_true rfl) ?_
  obtain ⟨A0, e0, hx0, hn0, b0, b1, b2⟩ := box3 hw (.int .i64 m) (.slice sa st.length sc) (.slice ra ro.length rc) 24
  have hx1 : Nx A0.next A0 (A0.push (.cells #[.int .i64 0, .slice none 0 0, .slice none 0 0] 24)) := (Nx.refl hx0.wf _).push (Nat.le_refl _) _
  have l1 := look_push_eq A0 (.cells #[.int .i64 0, .slice none 0 0, .slice none 0 0] 24)
  have hn1 : (A0.push (.cells #[.int .i64 0, .slice none 0 0, .slice none 0 0] 24)).next = A0.next + 1 := rfl
  generalize e1 : A0.push (.cells #[.int .i64 0, .slice none 0 0, .slice none 0 0] 24) = A1 at hx1 l1 hn1
  have hx01 : Nx A.next A A1 := hx0.trans (hx1.le hx0.next)
  have b0 := (hx1.cl (show A.next < A0.next by omega) 0).trans b0
  have b1 := (hx1.cl (show A.next < A0.next by omega) 1).trans b1
  have b2 := (hx1.cl (show A.next < A0.next by omega) 2).trans b2
  rw [s_in1]
  (repeat (first | refine Rn.seq hc ?_ | refine Rn.skip hc ?_ | refine Rn.block hc ?_ | refine Rn.inBlock hc ?_ | refine Rn.scope hc ?_ | refine Rn.inScope hc ?_))
  refine Rn.reg hc rfl ?_
  simp only [sev_tmp, sg_eq, Nat.reduceLT, gd, want_free, rops, fx, Option.some.injEq, exists_eq_left', Value.cells, show Try.f83.ntmps = 61 from rfl, e0, ze24, e1]
  (repeat (first | refine Rn.seq hc ?_ | refine Rn.skip hc ?_ | refine Rn.block hc ?_ | refine Rn.inBlock hc ?_ | refine Rn.scope hc ?_ | refine Rn.inScope hc ?_))
  refine Rn.reg hc rfl ?_
  simp only [sev_const, gd, want_free, rops, fx, Option.some.injEq, exists_eq_left']
  (repeat (first | refine Rn.seq hc ?_ | refine Rn.skip hc ?_ | refine Rn.block hc ?_ | refine Rn.inBlock hc ?_ | refine Rn.scope hc ?_ | refine Rn.inScope hc ?_))
  refine Rn.loopI hc (I := fun k s B => ∃ n, 1 ≤ n ∧ n ≤ ro.length ∧ k = ro.length - n ∧ Nx A1.next A1 B ∧ (∀ e, 0 < e → e < n → perOK ro e = false) ∧ s.n = 61 ∧ sget s 1 = .pointer (some ⟨A.next, 0, none⟩) ∧ sget s 2 = .pointer (some ⟨A0.next, 0, none⟩) ∧ sget s 3 = .int .i64 (n : Int))
    (n := ro.length - 1) ⟨1, by omega, hro, rfl, Nx.refl hx1.wf _, fun e h1 h2 => by omega, by simp only [sp_n], by simp only [sg_eq, sg_ne, sp_n, Nat.reduceLT, ne_eq, Nat.reduceEqDiff, not_false_eq_true], by simp only [sg_eq, sg_ne, sp_n, Nat.reduceLT, ne_eq, Nat.reduceEqDiff, not_false_eq_true, hn0], by simp only [sg_eq, sp_n, Nat.reduceLT]; rfl⟩ ?_
  rintro k s B ⟨n, hnn1, hnn2, rfl, hB, hmin, hn, s1, s2, s3⟩ ih
  have n01 : A.next < A1.next := by omega
  have b0 := (hB.cl n01 0).trans b0
  have b1 := (hB.cl n01 1).trans b1
  have b2 := (hB.cl n01 2).trans b2
  have hB0 : Nx A.next A B := hx01.trans (hB.le hx01.next)
  have hsB : Ints B sa 0 B.next st := (hs.nx hB0 (Nat.le_refl _)).mono (Nat.le_refl _) hB0.next
  have hrB : Ints B ra 0 B.next ro := (hr.nx hB0 (Nat.le_refl _)).mono (Nat.le_refl _) hB0.next
  (repeat (first | refine Rn.seq hc ?_ | refine Rn.skip hc ?_ | refine Rn.block hc ?_ | refine Rn.inBlock hc ?_ | refine Rn.scope hc ?_ | refine Rn.inScope hc ?_))
  refine Rn.region hc fun K hK => ?_
  refine Wo.run hc 3 rfl rfl rfl ?_
  simp (maxSteps := 2000000) only [List.drop_zero, List.take_succ_cons, List.take_zero, sev_tmp, sg_eq, sg_ne, Nat.reduceLT, ne_eq, Nat.reduceEqDiff, not_false_eq_true, gd, want_free, rops, fx, ld, fad, adr_p, Nat.zero_add, Option.some.injEq, exists_eq_left', tk22, fo24_2, hn, s1, s3, b2]
  refine Wo.call hc (by rfl) (by rfl) ⟨by rfl, by rfl⟩ (xs := [.slice ra ro.length rc, .int .i64 (n : Int)]) (by rfl) (by rfl) (by simp only [sev_tmp, sg_eq, sg_ne, sp_n, Nat.reduceLT, ne_eq, Nat.reduceEqDiff, not_false_eq_true, List.map_cons, List.map_nil, List.nil_append, List.append_nil, hn]) (Con.mono (turns_ref hB.wf hrB lr (by omega) (by omega)) ?_)
  rintro w C ⟨rfl, hC⟩
  have hBC : Nx A1.next A1 C := hB.trans (hC.le hB.next)
  cases hp : perOK ro n with
  | false =>
    refine Wo.run hc 1 rfl rfl rfl ?_
    simp (maxSteps := 2000000) only [List.drop_zero, List.drop_succ_cons, List.take_succ_cons, List.take_zero, sev_tmp, sg_eq, sp_n, Nat.reduceLT, gd, want_free, rops, fx, Option.some.injEq, exists_eq_left', Nat.reduceAdd, Bool.not_false, ae_not', Bool.not_false, hn, Bool.not_false]
    refine Wo.done hc rfl (hK _ _ ?_)
    clear hK
    (repeat (first | refine Rn.seq hc ?_ | refine Rn.skip hc ?_ | refine Rn.block hc ?_ | refine Rn.inBlock hc ?_ | refine Rn.scope hc ?_ | refine Rn.inScope hc ?_))
    refine Rn.condE hc rfl ?_
    simp only [sev_tmp, sg_eq, sp_n, Nat.reduceLT, Value.bool.injEq, exists_eq_left', hn]
    (repeat (first | refine Rn.seq hc ?_ | refine Rn.skip hc ?_ | refine Rn.block hc ?_ | refine Rn.inBlock hc ?_ | refine Rn.scope hc ?_ | refine Rn.inScope hc ?_))
    have hnl : n < ro.length := Nat.lt_of_le_of_ne hnn2 fun e => by
      rw [e, perOK_self] at hp
      cases hp
    refine Rn.reg hc rfl ?_
    simp only [sev_tmp, sev_const, sg_eq, sg_ne, sp_n, Nat.reduceLT, ne_eq, Nat.reduceEqDiff, not_false_eq_true, gd, want_free, rops, fx, bin_add, Option.some.injEq, exists_eq_left', hn, s3, wrap_succ (show n < 9223372036854775807 by omega)]
    (repeat (first | refine Rn.seq hc ?_ | refine Rn.skip hc ?_ | refine Rn.block hc ?_ | refine Rn.inBlock hc ?_ | refine Rn.scope hc ?_ | refine Rn.inScope hc ?_))
    refine ih _ _ _ (by omega) ⟨n + 1, by omega, by omega, rfl, hBC, fun e h1 h2 => ?_, by simp only [sp_n, hn], by simp only [sg_ne, ne_eq, Nat.reduceEqDiff, not_false_eq_true, s1], by simp only [sg_ne, ne_eq, Nat.reduceEqDiff, not_false_eq_true, s2], by simp only [sg_eq, sp_n, Nat.reduceLT, hn]⟩
    by_cases hen : e = n
    · subst hen; exact hp
    · exact hmin e h1 (by omega)
  | true =>
    clear ih
    refine Wo.run hc 1 rfl rfl rfl ?_
    simp (maxSteps := 2000000) only [List.drop_zero, List.drop_succ_cons, List.take_succ_cons, List.take_zero, sev_tmp, sg_eq, sp_n, Nat.reduceLT, gd, want_free, rops, fx, Option.some.injEq, exists_eq_left', Nat.reduceAdd, Bool.not_true, ae_not', Bool.not_true, hn, Bool.not_true]
    refine Wo.done hc rfl (hK _ _ ?_)
    clear hK
    (repeat (first | refine Rn.seq hc ?_ | refine Rn.skip hc ?_ | refine Rn.block hc ?_ | refine Rn.inBlock hc ?_ | refine Rn.scope hc ?_ | refine Rn.inScope hc ?_))
    refine Rn.condE hc rfl ?_
    simp only [sev_tmp, sg_eq, sp_n, Nat.reduceLT, Value.bool.injEq, exists_eq_left', hn]
    (repeat (first | refine Rn.seq hc ?_ | refine Rn.skip hc ?_ | refine Rn.block hc ?_ | refine Rn.inBlock hc ?_ | refine Rn.scope hc ?_ | refine Rn.inScope hc ?_))
    refine Rn.exit hc rfl ?_
    (repeat (first | refine Rn.seq hc ?_ | refine Rn.skip hc ?_ | refine Rn.block hc ?_ | refine Rn.inBlock hc ?_ | refine Rn.scope hc ?_ | refine Rn.inScope hc ?_))
    have hper := perOK_per (st := st) hro (by omega) hp
    have hpmin : ∀ N e, Per (atL st ro) N e → n ≤ e := fun N e => min_per hro hmin
    have c1 := (hC.cl (show A.next < B.next by have := hB.next; omega) 1).trans b1
    have c2 := (hC.cl (show A.next < B.next by have := hB.next; omega) 2).trans b2
    have c0 := (hC.cl (show A.next < B.next by have := hB.next; omega) 0).trans b0
    have hC0 : Nx A.next A C := hx01.trans (hBC.le hx01.next)
    have hsC : Ints C sa 0 C.next st := (hs.nx hC0 (Nat.le_refl _)).mono (Nat.le_refl _) hC0.next
    have hrC : Ints C ra 0 C.next ro := (hr.nx hC0 (Nat.le_refl _)).mono (Nat.le_refl _) hC0.next
    have hslC : Sl C ra 0 := hsl.nx hw hC0
    have hCn := hC.next
    have hBn := hB.next
    clear b0 b1 b2 hsB hrB hC hB hB0 hs hr
    obtain ⟨F, hF1, hF2, hF3, hF⟩ : ∃ F : AHeap → Prop, (∀ M, F M → cl M A.next 1 = some (.slice sa st.length sc)) ∧ (∀ M, F M → cl M A.next 2 = some (.slice ra ro.length rc)) ∧ (∀ M, F M → asl Try.prog 22 (.slice ra ro.length rc) none (some (.int .i64 (n : Int))) none M = some (.slice ra n rc, M)) ∧ (∀ M, Nx C.next C M → F M) :=
      ⟨fun M => Nx C.next C M, fun M h => (h.cl (by omega) 1).trans c1, fun M h => (h.cl (by omega) 2).trans c2, fun M h => asl_pos ((hrC.nx h (Nat.le_refl _)).mono (Nat.le_refl _) h.next) (hslC.nx hBC.wf h) hrc hro hnn2, fun _ h => h⟩
    have hbk : Nx C.next C (bump C 12) := Nx.bump (Nx.refl hBC.wf _) 12
    have FB := hF _ hbk
    refine Rn.drawnF hc hx noS F (n := 4) (k := 12) (by kernel_rfl) (by kernel_rfl) (by rfl) ?_
    refine Dr.float (by rfl) (by rfl) (by rfl) fb22_0 ?_
    refine Dr.read (by first | rfl | kernel_rfl) (by rfl) (by assumption) (fun M hM => by simp only [sev_tmp, sg_ne, ne_eq, Nat.reduceEqDiff, not_false_eq_true, fx, fad, adr_p, Nat.zero_add, Nat.add_zero, fo24_1, s1] <;> rfl) (by rfl) (by first | exact VQ.int _ _ | exact VQ.bool _ | exact VQ.ptr _ _ | exact VQ.slice _ _ _ | exact VQ.func (by simp [vq_int, vq_ptr, vq_slice]) (by simp [vq_int, vq_ptr, vq_slice]) | exact VQ.agg (by simp [vq_int, vq_ptr, vq_slice]) | exact VQ.tuple (by simp [vq_int, vq_ptr, vq_slice])) ?_
    refine Dr.read (by first | rfl | kernel_rfl) (by rfl) (by assumption) (fun M hM => by simp only [sev_tmp, sg_eq, sp_n, Nat.reduceLT, fx, ld, adr_p, Nat.add_zero, tk22, hn, hF1 M hM] <;> rfl) (by rfl) (by first | exact VQ.int _ _ | exact VQ.bool _ | exact VQ.ptr _ _ | exact VQ.slice _ _ _ | exact VQ.func (by simp [vq_int, vq_ptr, vq_slice]) (by simp [vq_int, vq_ptr, vq_slice]) | exact VQ.agg (by simp [vq_int, vq_ptr, vq_slice]) | exact VQ.tuple (by simp [vq_int, vq_ptr, vq_slice])) ?_
    obtain ⟨C1, p1, hxC1, eC1, lC1, kC1⟩ := place_row hbk (b := C.next + 0) (by omega) (by rw [bump_next]; omega) (hBC.wf.none (by omega)) [] 3 0 0
    rw [bump_next] at eC1
    obtain ⟨xa, C2, q1, k2, g2⟩ := app_at (n := C.next) hxC1.wf ⟨_, lC1, rfl, rfl⟩ (by omega) (by omega) (by omega) (c2 := sc) ((hsC.nx hxC1 (Nat.le_refl _)).mono (Nat.le_refl _) hxC1.next) ls
    have hC2 : Nx C.next C C2 := hxC1.trans (k2.le (by omega))
    refine Dr.eff (by rfl) (by rfl) (pd1 := [(0, ⟨[], 3, .sl 0 0⟩)]) (pd2 := []) (by kernel_rfl) (by kernel_rfl) (ms0 := [bump C 12]) (A0 := C1) (by simp only [placeAll, p1]) (fun M hM => by rw [List.mem_singleton] at hM; rw [hM]; exact FB) (hF _ hxC1) (by rfl)
      (v := .slice xa st.length st.length) (A1 := C2) (opRun_op rfl (by simp only [sev_tmp, sg_eq, sg_ne, sp_n, Nat.reduceLT, ne_eq, Nat.reduceEqDiff, not_false_eq_true, Nat.add_zero, hn, ae_apd, apd_slice, FK.val]; exact q1)) ?_
    have FC2 := hF _ hC2
    refine Dr.float (by rfl) (by rfl) (by rfl) fb22_0 ?_
    refine Dr.read (by first | rfl | kernel_rfl) (by rfl) (by assumption) (fun M hM => by simp only [sev_tmp, sg_ne, ne_eq, Nat.reduceEqDiff, not_false_eq_true, fx, fad, adr_p, Nat.zero_add, Nat.add_zero, Nat.reduceAdd, fo24_2, s1] <;> rfl) (by rfl) (by first | exact VQ.int _ _ | exact VQ.bool _ | exact VQ.ptr _ _ | exact VQ.slice _ _ _ | exact VQ.func (by simp [vq_int, vq_ptr, vq_slice]) (by simp [vq_int, vq_ptr, vq_slice]) | exact VQ.agg (by simp [vq_int, vq_ptr, vq_slice]) | exact VQ.tuple (by simp [vq_int, vq_ptr, vq_slice])) ?_
    refine Dr.read (by first | rfl | kernel_rfl) (by rfl) (by assumption) (fun M hM => by simp only [sev_tmp, sg_eq, sp_n, Nat.reduceLT, fx, ld, adr_p, Nat.zero_add, Nat.add_zero, Nat.reduceAdd, tk22, hn, hF2 M hM] <;> rfl) (by rfl) (by first | exact VQ.int _ _ | exact VQ.bool _ | exact VQ.ptr _ _ | exact VQ.slice _ _ _ | exact VQ.func (by simp [vq_int, vq_ptr, vq_slice]) (by simp [vq_int, vq_ptr, vq_slice]) | exact VQ.agg (by simp [vq_int, vq_ptr, vq_slice]) | exact VQ.tuple (by simp [vq_int, vq_ptr, vq_slice])) ?_
    refine Dr.read (by first | rfl | kernel_rfl) (by rfl) (by assumption) (fun M hM => by simp only [sev_tmp, sg_ne, ne_eq, Nat.reduceEqDiff, not_false_eq_true, fx, Nat.zero_add, Nat.add_zero, Nat.reduceAdd, s3] <;> rfl) (by rfl) (by first | exact VQ.int _ _ | exact VQ.bool _ | exact VQ.ptr _ _ | exact VQ.slice _ _ _ | exact VQ.func (by simp [vq_int, vq_ptr, vq_slice]) (by simp [vq_int, vq_ptr, vq_slice]) | exact VQ.agg (by simp [vq_int, vq_ptr, vq_slice]) | exact VQ.tuple (by simp [vq_int, vq_ptr, vq_slice])) ?_
    refine Dr.read (by first | rfl | kernel_rfl) (by rfl) (by assumption) (fun M hM => by simp only [sev_tmp, sg_eq, sg_ne, sp_n, Nat.reduceLT, ne_eq, Nat.reduceEqDiff, not_false_eq_true, fx, Nat.zero_add, Nat.add_zero, Nat.reduceAdd, hn, ae_asl_hi, hF3 M hM] <;> rfl) (by rfl) (by first | exact VQ.int _ _ | exact VQ.bool _ | exact VQ.ptr _ _ | exact VQ.slice _ _ _ | exact VQ.func (by simp [vq_int, vq_ptr, vq_slice]) (by simp [vq_int, vq_ptr, vq_slice]) | exact VQ.agg (by simp [vq_int, vq_ptr, vq_slice]) | exact VQ.tuple (by simp [vq_int, vq_ptr, vq_slice])) ?_
    have hn2 := k2.next
    have hnb : Canon.look C2.objs (C.next + 4) = none := by rw [k2.keep _ (by omega), kC1 _ (by omega)]; exact hBC.wf.none (by omega)
    obtain ⟨C3, p3, hxC3, eC3, lC3, kC3⟩ := place_row hC2 (b := C.next + 4) (by omega) (by omega) hnb [] 3 0 0
    have htk : (ro.take n).length = n := by simp; omega
    obtain ⟨xr, C4, q4, k4, g4⟩ := app_at (n := C.next) hxC3.wf ⟨_, lC3, rfl, rfl⟩ (by omega) (by omega) (by omega) (c2 := rc) (((hrC.nx hxC3 (Nat.le_refl _)).mono (Nat.le_refl _) hxC3.next).take (n := n)) (by omega)
    rw [htk] at q4
    have hC4 : Nx C.next C C4 := hxC3.trans (k4.le (by omega))
    refine Dr.eff (by rfl) (by rfl) (pd1 := [(4, ⟨[], 3, .sl 0 0⟩)]) (pd2 := []) (by kernel_rfl) (by kernel_rfl) (ms0 := [C2]) (A0 := C3) (by simp only [placeAll, p3]) (fun M hM => by rw [List.mem_singleton] at hM; rw [hM]; exact FC2) (hF _ hxC3) (by rfl)
      (v := .slice xr n n) (A1 := C4) (opRun_op rfl (by simp only [sev_tmp, sg_eq, sg_ne, sp_n, Nat.reduceLT, ne_eq, Nat.reduceEqDiff, not_false_eq_true, Nat.zero_add, Nat.add_zero, Nat.reduceAdd, hn, ae_apd, apd_slice, FK.val]; exact q4)) ?_
    have FC4 := hF _ hC4
    refine Dr.read (by first | rfl | kernel_rfl) (by rfl) (by assumption) (fun M hM => by simp only [sev_tmp, sg_eq, sg_ne, sp_n, Nat.reduceLT, ne_eq, Nat.reduceEqDiff, not_false_eq_true, fx, Nat.zero_add, Nat.add_zero, Nat.reduceAdd, hn] <;> rfl) (by rfl) (by first | exact VQ.int _ _ | exact VQ.bool _ | exact VQ.ptr _ _ | exact VQ.slice _ _ _ | exact VQ.func (by simp [vq_int, vq_ptr, vq_slice]) (by simp [vq_int, vq_ptr, vq_slice]) | exact VQ.agg (by simp [vq_int, vq_ptr, vq_slice]) | exact VQ.tuple (by simp [vq_int, vq_ptr, vq_slice])) ?_
    refine Dr.read (by first | rfl | kernel_rfl) (by rfl) (by assumption) (fun M hM => by simp only [sev_tmp, sg_eq, sg_ne, sp_n, Nat.reduceLT, ne_eq, Nat.reduceEqDiff, not_false_eq_true, fx, Nat.zero_add, Nat.add_zero, Nat.reduceAdd, hn] <;> rfl) (by rfl) (by first | exact VQ.int _ _ | exact VQ.bool _ | exact VQ.ptr _ _ | exact VQ.slice _ _ _ | exact VQ.func (by simp [vq_int, vq_ptr, vq_slice]) (by simp [vq_int, vq_ptr, vq_slice]) | exact VQ.agg (by simp [vq_int, vq_ptr, vq_slice]) | exact VQ.tuple (by simp [vq_int, vq_ptr, vq_slice])) ?_
    refine Dr.nil (by rfl) (fun M hM => by cases hM) FC4 ⟨C4, by rfl, ?_⟩
    refine Rn.seq hc ?_
    have htake : st = redS (atL st ro) st.length := by
      refine List.ext_getElem (by rw [redS_len]) fun i h1 h2 => ?_
      have := atL_st (ro := ro) h1
      simp [redS, this, List.getD_eq_getElem?_getD, h1]
    have htakeR : ro.take n = redR (atL st ro) st.length n := by
      refine List.ext_getElem (by rw [redR_len]; exact htk) fun i h1 h2 => ?_
      have hi : i < n := by omega
      have := atL_ro (st := st) (show i < ro.length by omega)
      simp [redR, this, List.getD_eq_getElem?_getD, show i < ro.length by omega]
    have gA : Gr C4 xa C.next st := (g2.ext (by omega) fun b' hb' => (by
      by_cases hbb : b' = C.next + 4
      · exact .inl (hbb ▸ hnb)
      · exact .inr (kC3 _ hbb) : Canon.look C2.objs b' = none ∨ Canon.look C3.objs b' = Canon.look C2.objs b')).nx (n := 0) hxC3.wf k4
    rw [htakeR] at g4
    have g4' := g4
    have gA1 := gA.ints
    have gA2 := gA.sl
    have s0' : st.length ≤ st.length := Nat.le_refl _
    clear g2 gA k2 k4 p1 p3 q1 q4 FB FC2 FC4 lC1 lC3 kC1 kC3 hxC1 hxC3 eC1 eC3 hbk
    rw [htake] at gA1
    refine Rn.cut2 hc (Q1 := fun s ds M => ds = [] ∧ ∃ e xc xr, e ≤ st.length ∧ e ≤ xc ∧ Nx C.next C M ∧ Red (atL st ro) e n ∧ Ints M xa C.next M.next (redS (atL st ro) e) ∧ Sl M xa C.next ∧ Ints M xr C.next M.next (redR (atL st ro) e n) ∧ Sl M xr C.next ∧ s.n = 61 ∧ sget s 1 = .pointer (some ⟨A.next, 0, none⟩) ∧ sget s 2 = .pointer (some ⟨A0.next, 0, none⟩) ∧ sget s 4 = .slice xa e xc ∧ sget s 5 = .slice xr n n)
      (Q2 := fun _ _ _ => False) ?_ ?_ ?_
    · (repeat (first | refine Rn.seq hc ?_ | refine Rn.skip hc ?_ | refine Rn.block hc ?_ | refine Rn.inBlock hc ?_ | refine Rn.scope hc ?_ | refine Rn.inScope hc ?_))
      refine Rn.loopI hc (I := fun k s M => ∃ e xc xr, e ≤ st.length ∧ e ≤ xc ∧ k = e ∧ Nx C.next C M ∧ Per (atL st ro) e n ∧ Ints M xa C.next M.next (redS (atL st ro) e) ∧ Sl M xa C.next ∧ Ints M xr C.next M.next (redR (atL st ro) e n) ∧ Sl M xr C.next ∧ s.n = 61 ∧ sget s 1 = .pointer (some ⟨A.next, 0, none⟩) ∧ sget s 2 = .pointer (some ⟨A0.next, 0, none⟩) ∧ sget s 3 = .int .i64 (n : Int) ∧ sget s 4 = .slice xa e xc ∧ sget s 5 = .slice xr n n)
        (n := st.length) ⟨st.length, st.length, xr, s0', s0', rfl, hC4, hper, gA1, gA2, g4.ints, g4.sl, by simp only [sp_n, hn], by simp only [sg_ne, ne_eq, Nat.reduceEqDiff, not_false_eq_true, s1], by simp only [sg_ne, ne_eq, Nat.reduceEqDiff, not_false_eq_true, s2], by simp only [sg_ne, ne_eq, Nat.reduceEqDiff, not_false_eq_true, s3], by simp only [sg_eq, sg_ne, sp_n, Nat.reduceLT, ne_eq, Nat.reduceEqDiff, not_false_eq_true, hn], by simp only [sg_eq, sp_n, Nat.reduceLT, hn]⟩ ?_
      clear g4 g4' gA1 gA2 hn s1 s2 s3 hC4 s xr
      rintro k s M ⟨e, xc, xr, he1, he2, rfl, hM, hpe, ia, la, ir, lr', hn, s1, s2, s3, s4, s5⟩ ih
      have hlS := redS_len (atL st ro) k
      have hlR := redR_len (atL st ro) k n
      (repeat (first | refine Rn.seq hc ?_ | refine Rn.skip hc ?_ | refine Rn.block hc ?_ | refine Rn.inBlock hc ?_ | refine Rn.scope hc ?_ | refine Rn.inScope hc ?_))
      by_cases he0 : k = 0
      · clear ih
        have hd0 : decide ((0 : Int) < (k : Int)) = false := decide_eq_false (by omega)
        refine Rn.drawnR hc hx (by kernel_rfl) (by rfl) (by kernel_rfl) ?_ ?_
        · simp only [rdV, VQ.int, VQ.bool, VQ.slice, sev_tmp, sev_const, sg_eq, sg_ne, sp_n, Nat.reduceLT, ne_eq, Nat.reduceEqDiff, not_false_eq_true, gd, nth, want_free, want_slot, beqB, fx, lng, pck, bin_gtr, Nat.zero_add, Nat.reduceAdd, and_self, un22, hn, s4, hd0, List.length_cons, List.length_nil]
        simp only [sev_tmp, sev_const, sg_eq, sg_ne, sp_n, Nat.reduceLT, ne_eq, Nat.reduceEqDiff, not_false_eq_true, gd, nth, want_free, want_slot, beqB, rops, fx, lng, pck, bin_gtr, Nat.zero_add, Option.some.injEq, exists_eq_left', Nat.reduceAdd, un22, hn, s4, hd0, List.length_cons, List.length_nil]
        (repeat (first | refine Rn.seq hc ?_ | refine Rn.skip hc ?_ | refine Rn.block hc ?_ | refine Rn.inBlock hc ?_ | refine Rn.scope hc ?_ | refine Rn.inScope hc ?_))
        refine Rn.condE hc rfl ?_
        simp only [sev_tmp, sg_eq, sp_n, Nat.reduceLT, Value.bool.injEq, exists_eq_left', hn]
        (repeat (first | refine Rn.seq hc ?_ | refine Rn.skip hc ?_ | refine Rn.block hc ?_ | refine Rn.inBlock hc ?_ | refine Rn.scope hc ?_ | refine Rn.inScope hc ?_))
        refine Rn.exit hc rfl ?_
        (repeat (first | refine Rn.seq hc ?_ | refine Rn.skip hc ?_ | refine Rn.block hc ?_ | refine Rn.inBlock hc ?_ | refine Rn.scope hc ?_ | refine Rn.inScope hc ?_))
        have hMb : Nx M.next M (bump M 17) := Nx.bump (Nx.refl hM.wf _) 17
        exact Rn.fall ⟨rfl, k, xc, xr, he1, he2, hM.trans (hMb.le hM.next), red_of hpe hpmin (fun h => absurd h (by omega)), (ia.nx hMb (Nat.le_refl _)).mono (Nat.le_refl _) hMb.next, la.nx hM.wf hMb, (ir.nx hMb (Nat.le_refl _)).mono (Nat.le_refl _) hMb.next, lr'.nx hM.wf hMb, by simp only [sp_n, hn], by simp only [sg_ne, ne_eq, Nat.reduceEqDiff, not_false_eq_true, s1], by simp only [sg_ne, ne_eq, Nat.reduceEqDiff, not_false_eq_true, s2], by simp only [sg_ne, ne_eq, Nat.reduceEqDiff, not_false_eq_true, s4], by simp only [sg_ne, ne_eq, Nat.reduceEqDiff, not_false_eq_true, s5]⟩
      · have hel : k - 1 < (redS (atL st ro) k).length := by omega
        have hnl : n - 1 < (redR (atL st ro) k n).length := by omega
        obtain ⟨bb, o, hxa, _, hb1, hcl⟩ := ia (k - 1) hel
        obtain ⟨bb', o', hxr, _, hb2, hcl'⟩ := ir (n - 1) hnl
        rw [redS_get (by omega)] at hcl
        rw [redR_get (by omega), show k + (n - 1) = k - 1 + n by omega] at hcl'
        have hd0 : decide ((0 : Int) < (k : Int)) = true := decide_eq_true (by omega)
        have hw1 := wrap_pred (k := k) (by omega) (by omega)
        have hw2 := wrap_pred (k := n) (by omega) (by omega)
        have hel' : k - 1 < k := by omega
        have hnl' : n - 1 < n := by omega
        subst hxa hxr
        by_cases heq : atL st ro (k - 1) = atL st ro (k - 1 + n)
        · have hdq : decide (atL st ro (k - 1) = atL st ro (k - 1 + n)) = true := decide_eq_true heq
          refine Rn.drawnR hc hx (by kernel_rfl) (by rfl) (by kernel_rfl) ?_ ?_
          · simp only [rdV, VQ.int, VQ.bool, VQ.ptr, VQ.slice, cl_bump, sev_tmp, sev_const, sg_eq, sg_ne, sp_n, Nat.reduceLT, ne_eq, Nat.reduceEqDiff, not_false_eq_true, gd, nth, want_free, want_slot, beqB, fx, ld, idx, lng, pck, bin_gtr, bin_eql, bin_sub, adr_p, Nat.zero_add, Nat.reduceAdd, Nat.mul_one, and_self, tk3, un22, eo22, hn, s3, s4, s5, hd0, hw1, hw2, nlen_nat hel', nlen_nat hnl', hcl, hcl', hdq, List.length_cons, List.length_nil]
          simp only [cl_bump, sev_tmp, sev_const, sg_eq, sg_ne, sp_n, Nat.reduceLT, ne_eq, Nat.reduceEqDiff, not_false_eq_true, gd, nth, want_free, want_slot, beqB, rops, fx, ld, idx, lng, pck, bin_gtr, bin_eql, bin_sub, adr_p, Nat.zero_add, Option.some.injEq, exists_eq_left', Nat.reduceAdd, Nat.mul_one, tk3, un22, eo22, hn, s3, s4, s5, hd0, hw1, hw2, nlen_nat hel', nlen_nat hnl', hcl, hcl', hdq, List.length_cons, List.length_nil]
          (repeat (first | refine Rn.seq hc ?_ | refine Rn.skip hc ?_ | refine Rn.block hc ?_ | refine Rn.inBlock hc ?_ | refine Rn.scope hc ?_ | refine Rn.inScope hc ?_))
          refine Rn.condE hc rfl ?_
          simp only [sev_tmp, sg_eq, sp_n, Nat.reduceLT, Value.bool.injEq, exists_eq_left', hn]
          (repeat (first | refine Rn.seq hc ?_ | refine Rn.skip hc ?_ | refine Rn.block hc ?_ | refine Rn.inBlock hc ?_ | refine Rn.scope hc ?_ | refine Rn.inScope hc ?_))
          have hMb : Nx M.next M (bump M 17) := Nx.bump (Nx.refl hM.wf _) 17
          have hMC : Nx C.next C (bump M 17) := hM.trans (hMb.le hM.next)
          have ia := (ia.nx hMb (Nat.le_refl _)).mono (Nat.le_refl _) hMb.next
          have ir := (ir.nx hMb (Nat.le_refl _)).mono (Nat.le_refl _) hMb.next
          have la := la.nx hM.wf hMb
          have lr' := lr'.nx hM.wf hMb
          have hcl' : cl (bump M 17) bb' (o' + (n - 1)) = _ := hcl'
          have hb2 : bb' < (bump M 17).next := Nat.lt_of_lt_of_le hb2 hMb.next
          clear hMb
          generalize hM' : bump M 17 = M' at hMC ia ir la lr' hcl' hb2
          have has : asl Try.prog 22 (.slice (some ⟨bb, o, none⟩) k xc) none (some (.int .i64 ((k - 1 : Nat) : Int))) none M' = some (.slice (some ⟨bb, o, none⟩) (k - 1) xc, M') := by
            have := asl_pos (c := xc) (n := k - 1) ia la (by omega) (by omega) (by omega)
            rwa [hlS] at this
          refine Rn.reg hc rfl ?_
          simp only [sev_tmp, sev_const, sg_eq, sg_ne, sp_n, Nat.reduceLT, ne_eq, Nat.reduceEqDiff, not_false_eq_true, gd, want_free, rops, fx, lng, bin_sub, Option.some.injEq, exists_eq_left', un22, hn, s4, hw1, ae_asl_hi, has]
          (repeat (first | refine Rn.seq hc ?_ | refine Rn.skip hc ?_ | refine Rn.block hc ?_ | refine Rn.inBlock hc ?_ | refine Rn.scope hc ?_ | refine Rn.inScope hc ?_))
          have ia' := ia.take (n := k - 1)
          rw [redS_take _ (by omega)] at ia'
          obtain ⟨F, hF1, hF2, hF⟩ : ∃ F : AHeap → Prop, (∀ X, F X → cl X bb' (o' + (n - 1)) = some (.int .i64 (atL st ro (k - 1 + n)))) ∧ (∀ X, F X → asl Try.prog 22 (.slice (some ⟨bb', o', none⟩) n n) none (some (.int .i64 ((n - 1 : Nat) : Int))) none X = some (.slice (some ⟨bb', o', none⟩) (n - 1) n, X)) ∧ (∀ X, Nx M'.next M' X → F X) :=
            ⟨fun X => Nx M'.next M' X, fun X h => (h.cl hb2 _).trans hcl', fun X h => by
              have := asl_pos (n := n - 1) ((ir.nx h (Nat.le_refl _)).mono (Nat.le_refl _) h.next) (lr'.nx hMC.wf h) (c := n) (by omega) (by omega) (by omega)
              rwa [hlR] at this, fun _ h => h⟩
          have hbk : Nx M'.next M' (bump M' 12) := Nx.bump (Nx.refl hMC.wf _) 12
          have FB := hF _ hbk
          have hMn := hMC.next
          refine Rn.drawnF hc hx noS F (n := 2) (k := 12) (by kernel_rfl) (by kernel_rfl) (by rfl) ?_
          refine Dr.read (by first | rfl | kernel_rfl) (by rfl) (by assumption) (fun M hM => by simp only [sev_tmp, sg_ne, ne_eq, Nat.reduceEqDiff, not_false_eq_true, fx, s5] <;> rfl) (by rfl) (by first | exact VQ.int _ _ | exact VQ.bool _ | exact VQ.ptr _ _ | exact VQ.slice _ _ _ | exact VQ.func (by simp [vq_int, vq_ptr, vq_slice]) (by simp [vq_int, vq_ptr, vq_slice]) | exact VQ.agg (by simp [vq_int, vq_ptr, vq_slice]) | exact VQ.tuple (by simp [vq_int, vq_ptr, vq_slice])) ?_
          refine Dr.read (by first | rfl | kernel_rfl) (by rfl) (by assumption) (fun M hM => by simp only [sev_tmp, sg_ne, ne_eq, Nat.reduceEqDiff, not_false_eq_true, fx, s3] <;> rfl) (by rfl) (by first | exact VQ.int _ _ | exact VQ.bool _ | exact VQ.ptr _ _ | exact VQ.slice _ _ _ | exact VQ.func (by simp [vq_int, vq_ptr, vq_slice]) (by simp [vq_int, vq_ptr, vq_slice]) | exact VQ.agg (by simp [vq_int, vq_ptr, vq_slice]) | exact VQ.tuple (by simp [vq_int, vq_ptr, vq_slice])) ?_
          refine Dr.read (by first | rfl | kernel_rfl) (by rfl) (by assumption) (fun M hM => by simp only [sev_tmp, sev_const, sg_eq, sp_n, Nat.reduceLT, fx, bin_sub, hn, hw2] <;> rfl) (by rfl) (by first | exact VQ.int _ _ | exact VQ.bool _ | exact VQ.ptr _ _ | exact VQ.slice _ _ _ | exact VQ.func (by simp [vq_int, vq_ptr, vq_slice]) (by simp [vq_int, vq_ptr, vq_slice]) | exact VQ.agg (by simp [vq_int, vq_ptr, vq_slice]) | exact VQ.tuple (by simp [vq_int, vq_ptr, vq_slice])) ?_
          refine Dr.read (by first | rfl | kernel_rfl) (by rfl) (by assumption) (fun M hM => by simp only [sev_tmp, sg_eq, sg_ne, sp_n, Nat.reduceLT, ne_eq, Nat.reduceEqDiff, not_false_eq_true, fx, idx, Nat.mul_one, eo22, hn, nlen_nat hnl'] <;> rfl) (by rfl) (by first | exact VQ.int _ _ | exact VQ.bool _ | exact VQ.ptr _ _ | exact VQ.slice _ _ _ | exact VQ.func (by simp [vq_int, vq_ptr, vq_slice]) (by simp [vq_int, vq_ptr, vq_slice]) | exact VQ.agg (by simp [vq_int, vq_ptr, vq_slice]) | exact VQ.tuple (by simp [vq_int, vq_ptr, vq_slice])) ?_
          refine Dr.read (by first | rfl | kernel_rfl) (by rfl) (by assumption) (fun M hM => by simp only [sev_tmp, sg_eq, sp_n, Nat.reduceLT, fx, ld, adr_p, tk3, hn, hF1 M hM] <;> rfl) (by rfl) (by first | exact VQ.int _ _ | exact VQ.bool _ | exact VQ.ptr _ _ | exact VQ.slice _ _ _ | exact VQ.func (by simp [vq_int, vq_ptr, vq_slice]) (by simp [vq_int, vq_ptr, vq_slice]) | exact VQ.agg (by simp [vq_int, vq_ptr, vq_slice]) | exact VQ.tuple (by simp [vq_int, vq_ptr, vq_slice])) ?_
          refine Dr.float (by rfl) (by rfl) (by rfl) (fb22_1 (v := .int .i64 (atL st ro (k - 1 + n))) (by simp only [sev_tmp, sg_eq, sp_n, Nat.reduceLT, hn]) rfl) ?_
          refine Dr.read (by first | rfl | kernel_rfl) (by rfl) (by assumption) (fun M hM => by simp only [sev_tmp, sg_ne, ne_eq, Nat.reduceEqDiff, not_false_eq_true, fx, Nat.zero_add, Nat.reduceAdd, s5] <;> rfl) (by rfl) (by first | exact VQ.int _ _ | exact VQ.bool _ | exact VQ.ptr _ _ | exact VQ.slice _ _ _ | exact VQ.func (by simp [vq_int, vq_ptr, vq_slice]) (by simp [vq_int, vq_ptr, vq_slice]) | exact VQ.agg (by simp [vq_int, vq_ptr, vq_slice]) | exact VQ.tuple (by simp [vq_int, vq_ptr, vq_slice])) ?_
          refine Dr.read (by first | rfl | kernel_rfl) (by rfl) (by assumption) (fun M hM => by simp only [sev_tmp, sg_ne, ne_eq, Nat.reduceEqDiff, not_false_eq_true, fx, Nat.zero_add, Nat.reduceAdd, s3] <;> rfl) (by rfl) (by first | exact VQ.int _ _ | exact VQ.bool _ | exact VQ.ptr _ _ | exact VQ.slice _ _ _ | exact VQ.func (by simp [vq_int, vq_ptr, vq_slice]) (by simp [vq_int, vq_ptr, vq_slice]) | exact VQ.agg (by simp [vq_int, vq_ptr, vq_slice]) | exact VQ.tuple (by simp [vq_int, vq_ptr, vq_slice])) ?_
          refine Dr.read (by first | rfl | kernel_rfl) (by rfl) (by assumption) (fun M hM => by simp only [sev_tmp, sev_const, sg_eq, sp_n, Nat.reduceLT, fx, bin_sub, Nat.zero_add, Nat.reduceAdd, hn, hw2] <;> rfl) (by rfl) (by first | exact VQ.int _ _ | exact VQ.bool _ | exact VQ.ptr _ _ | exact VQ.slice _ _ _ | exact VQ.func (by simp [vq_int, vq_ptr, vq_slice]) (by simp [vq_int, vq_ptr, vq_slice]) | exact VQ.agg (by simp [vq_int, vq_ptr, vq_slice]) | exact VQ.tuple (by simp [vq_int, vq_ptr, vq_slice])) ?_
          refine Dr.read (by first | rfl | kernel_rfl) (by rfl) (by assumption) (fun M hM => by simp only [sev_tmp, sg_eq, sg_ne, sp_n, Nat.reduceLT, ne_eq, Nat.reduceEqDiff, not_false_eq_true, fx, Nat.zero_add, Nat.reduceAdd, hn, ae_asl_hi, hF2 M hM] <;> rfl) (by rfl) (by first | exact VQ.int _ _ | exact VQ.bool _ | exact VQ.ptr _ _ | exact VQ.slice _ _ _ | exact VQ.func (by simp [vq_int, vq_ptr, vq_slice]) (by simp [vq_int, vq_ptr, vq_slice]) | exact VQ.agg (by simp [vq_int, vq_ptr, vq_slice]) | exact VQ.tuple (by simp [vq_int, vq_ptr, vq_slice])) ?_
          obtain ⟨M1, p1, hx1', e1', l1', k1'⟩ := place_row hbk (b := M'.next + 5) (by omega) (by rw [bump_next]; omega) (hMC.wf.none (by omega)) [.int .i64 (atL st ro (k - 1 + n))] 3 1 1
          rw [bump_next] at e1'
          have htk : ((redR (atL st ro) k n).take (n - 1)).length = n - 1 := by rw [redR_take _ _ (by omega), redR_len]
          obtain ⟨xr2, M2, q2, k2, g2⟩ := app_one (n := C.next) hx1'.wf l1' (by omega) (by omega) (by omega) (c2 := n) ((((ir.nx hx1' (Nat.le_refl _)).mono (Nat.zero_le _) hx1'.next)).take (n := n - 1)) (by omega)
          rw [htk, show n - 1 + 1 = n by omega] at q2
          have hM2 : Nx M'.next M' M2 := hx1'.trans (k2.le (by omega))
          refine Dr.eff (by rfl) (by rfl) (pd1 := [(5, ⟨[.int .i64 (atL st ro (k - 1 + n))], 3, .sl 1 1⟩)]) (pd2 := []) (by kernel_rfl) (by kernel_rfl) (ms0 := [bump M' 12]) (A0 := M1) (by simp only [placeAll, p1]) (fun M hM => by rw [List.mem_singleton] at hM; rw [hM]; exact FB) (hF _ hx1') (by rfl)
            (v := .slice xr2 n n) (A1 := M2) (opRun_op rfl (by simp only [sev_tmp, sg_eq, sg_ne, sp_n, Nat.reduceLT, ne_eq, Nat.reduceEqDiff, not_false_eq_true, Nat.zero_add, Nat.reduceAdd, hn, ae_apd, apd_slice, FK.val]; exact q2)) ?_
          have FM2 := hF _ hM2
          refine Dr.read (by first | rfl | kernel_rfl) (by rfl) (by assumption) (fun M hM => by simp only [sev_tmp, sg_eq, sp_n, Nat.reduceLT, fx, Nat.zero_add, Nat.reduceAdd, hn] <;> rfl) (by rfl) (by first | exact VQ.int _ _ | exact VQ.bool _ | exact VQ.ptr _ _ | exact VQ.slice _ _ _ | exact VQ.func (by simp [vq_int, vq_ptr, vq_slice]) (by simp [vq_int, vq_ptr, vq_slice]) | exact VQ.agg (by simp [vq_int, vq_ptr, vq_slice]) | exact VQ.tuple (by simp [vq_int, vq_ptr, vq_slice])) ?_
          refine Dr.nil (by rfl) (fun M hM => by cases hM) FM2 ⟨M2, by rfl, ?_⟩
          (repeat (first | refine Rn.seq hc ?_ | refine Rn.skip hc ?_ | refine Rn.block hc ?_ | refine Rn.inBlock hc ?_ | refine Rn.scope hc ?_ | refine Rn.inScope hc ?_))
          have hcons : atL st ro (k - 1 + n) :: (redR (atL st ro) k n).take (n - 1) = redR (atL st ro) (k - 1) n := by
            rw [redR_take _ _ (by omega), ← heq]
            have := redR_cons (atL st ro) (k - 1) (n - 1)
            rw [show n - 1 + 1 = n by omega, show k - 1 + 1 = k by omega] at this
            exact this.symm
          rw [hcons] at g2
          refine ih _ _ _ (by omega) ⟨k - 1, xc, xr2, by omega, by omega, rfl, hMC.trans (hM2.le hMC.next), Per.back (by rw [show k - 1 + 1 = k by omega]; exact hpe) heq, (ia'.nx hM2 (Nat.le_refl _)).mono (Nat.le_refl _) hM2.next, la.nx hMC.wf hM2, g2.ints, g2.sl, by simp only [sp_n, hn], by simp only [sg_ne, ne_eq, Nat.reduceEqDiff, not_false_eq_true, s1], by simp only [sg_ne, ne_eq, Nat.reduceEqDiff, not_false_eq_true, s2], by simp only [sg_ne, ne_eq, Nat.reduceEqDiff, not_false_eq_true, s3], by simp only [sg_eq, sg_ne, sp_n, Nat.reduceLT, ne_eq, Nat.reduceEqDiff, not_false_eq_true, hn], by simp only [sg_eq, sp_n, Nat.reduceLT, hn]⟩
        · have hdq : decide (atL st ro (k - 1) = atL st ro (k - 1 + n)) = false := decide_eq_false heq
          clear ih
          refine Rn.drawnR hc hx (by kernel_rfl) (by rfl) (by kernel_rfl) ?_ ?_
          · simp only [rdV, VQ.int, VQ.bool, VQ.ptr, VQ.slice, cl_bump, sev_tmp, sev_const, sg_eq, sg_ne, sp_n, Nat.reduceLT, ne_eq, Nat.reduceEqDiff, not_false_eq_true, gd, nth, want_free, want_slot, beqB, fx, ld, idx, lng, pck, bin_gtr, bin_eql, bin_sub, adr_p, Nat.zero_add, Nat.reduceAdd, Nat.mul_one, and_self, tk3, un22, eo22, hn, s3, s4, s5, hd0, hw1, hw2, nlen_nat hel', nlen_nat hnl', hcl, hcl', hdq, List.length_cons, List.length_nil]
          simp only [cl_bump, sev_tmp, sev_const, sg_eq, sg_ne, sp_n, Nat.reduceLT, ne_eq, Nat.reduceEqDiff, not_false_eq_true, gd, nth, want_free, want_slot, beqB, rops, fx, ld, idx, lng, pck, bin_gtr, bin_eql, bin_sub, adr_p, Nat.zero_add, Option.some.injEq, exists_eq_left', Nat.reduceAdd, Nat.mul_one, tk3, un22, eo22, hn, s3, s4, s5, hd0, hw1, hw2, nlen_nat hel', nlen_nat hnl', hcl, hcl', hdq, List.length_cons, List.length_nil]
          (repeat (first | refine Rn.seq hc ?_ | refine Rn.skip hc ?_ | refine Rn.block hc ?_ | refine Rn.inBlock hc ?_ | refine Rn.scope hc ?_ | refine Rn.inScope hc ?_))
          refine Rn.condE hc rfl ?_
          simp only [sev_tmp, sg_eq, sp_n, Nat.reduceLT, Value.bool.injEq, exists_eq_left', hn]
          (repeat (first | refine Rn.seq hc ?_ | refine Rn.skip hc ?_ | refine Rn.block hc ?_ | refine Rn.inBlock hc ?_ | refine Rn.scope hc ?_ | refine Rn.inScope hc ?_))
          refine Rn.exit hc rfl ?_
          (repeat (first | refine Rn.seq hc ?_ | refine Rn.skip hc ?_ | refine Rn.block hc ?_ | refine Rn.inBlock hc ?_ | refine Rn.scope hc ?_ | refine Rn.inScope hc ?_))
          have hMb : Nx M.next M (bump M 17) := Nx.bump (Nx.refl hM.wf _) 17
          exact Rn.fall ⟨rfl, k, xc, _, he1, he2, hM.trans (hMb.le hM.next), red_of hpe hpmin (fun _ hh => heq hh), (ia.nx hMb (Nat.le_refl _)).mono (Nat.le_refl _) hMb.next, la.nx hM.wf hMb, (ir.nx hMb (Nat.le_refl _)).mono (Nat.le_refl _) hMb.next, lr'.nx hM.wf hMb, by simp only [sp_n, hn], by simp only [sg_ne, ne_eq, Nat.reduceEqDiff, not_false_eq_true, s1], by simp only [sg_ne, ne_eq, Nat.reduceEqDiff, not_false_eq_true, s2], by simp only [sg_ne, ne_eq, Nat.reduceEqDiff, not_false_eq_true, s4], by simp only [sg_ne, ne_eq, Nat.reduceEqDiff, not_false_eq_true, s5]⟩
    · clear hn s1 s2 s3 s
      rintro s ds M ⟨rfl, e, xc, xr, he1, he2, hM, hred, ia, la, ir, lr', hn, s1, s2, s4, s5⟩
      have l2 : Canon.look M.objs A0.next = _ := (hM.keep _ (by omega)).trans ((hBC.keep _ (by omega)).trans l1)
      have g0 := (hM.cl (show A.next < C.next by omega) 0).trans c0
      obtain ⟨D, c', q1, q2, q3, q4⟩ := sts_upd (l := [.int .i64 m, .slice xa e xc, .slice xr n n]) (o := 0) l2 rfl (by simp) rfl
      have r0 : cl D A0.next 0 = some (.int .i64 m) := by rw [q2.cl, q4]; rfl
      have r1 : cl D A0.next 1 = some (.slice xa e xc) := by rw [q2.cl, q4]; rfl
      have r2 : cl D A0.next 2 = some (.slice xr n n) := by rw [q2.cl, q4]; rfl
      (repeat (first | refine Rn.seq hc ?_ | refine Rn.skip hc ?_ | refine Rn.block hc ?_ | refine Rn.inBlock hc ?_ | refine Rn.scope hc ?_ | refine Rn.inScope hc ?_))
      refine Rn.reg hc rfl ?_
      simp only [sev_tmp, sg_eq, sg_ne, sp_n, sp_none, Nat.reduceLT, ne_eq, Nat.reduceEqDiff, not_false_eq_true, gd, want_free, rops, fx, ld, str, fad, adr_p, Nat.zero_add, Nat.add_zero, Option.some.injEq, exists_eq_left', Nat.reduceAdd, tk3, tk24, fo24_0, hn, s1, s2, s4, s5, g0, bd24, isCell, q1, List.size_toArray, List.length_cons, List.length_nil, Nat.beq_refl]
      (repeat (first | refine Rn.seq hc ?_ | refine Rn.skip hc ?_ | refine Rn.block hc ?_ | refine Rn.inBlock hc ?_ | refine Rn.scope hc ?_ | refine Rn.inScope hc ?_))
      have hnD := q2.next
      have hoff : ∀ b, C.next ≤ b → Canon.look M.objs b = none ∨ Canon.look D.objs b = Canon.look M.objs b := fun b hb => .inr (q2.off _ (by omega))
      have hCM := hM.next
      refine Rn.ret (endQ_cell rfl (v := .agg #[.int .i64 m, .slice xa e xc, .slice xr n n]) ?_ ⟨e, n, hred, he1, hnn2, ⟨by omega, (q2.nx hM.wf (Nat.zero_le _)).wf, fun b hb => ?_⟩, xa, xc, xr, rfl, he2, (ia.ext hoff (by omega)).mono hC0.next (Nat.le_refl _), (ir.ext hoff (by omega)).mono hC0.next (Nat.le_refl _), (la.ext hoff).mono hC0.next, (lr'.ext hoff).mono hC0.next⟩)
      · simp only [sg_ne, ne_eq, Nat.reduceEqDiff, not_false_eq_true, ld, adr_p, cls, Nat.zero_add, Nat.reduceAdd, tk24, s2, r0, r1, r2]
      · rw [q2.off _ (by omega), hM.keep _ (by omega)]
        exact hC0.keep _ hb
    · intro _ _ _ h
      exact h.elim
end Go.Proofs.Ytdaljohmfnfgiaa
/- The reference's results, and its Least. No condition. -/
namespace Go.Proofs.Ytdaljohmfnfgiaa
open Go Go.RowKit Go.Proofs.Ytdaljohmfnfgiaa.Canon
set_option maxRecDepth 20000


/-- What the reference hands back for a stream. -/
def LeastR (A : AHeap) (m : Int) (s : Nat → Int) (a p : Nat) (v : Value) (A1 : AHeap) : Prop :=
  Nx A.next A A1 ∧ if 120 < p ∨ 60 < a then v = .tuple #[.agg #[.int .i64 0, .slice none 0 0, .slice none 0 0], .int .i64 11]
    else ∃ xa xc xr xd, v = .tuple #[.agg #[.int .i64 m, .slice xa a xc, .slice xr p xd], .int .i64 0] ∧ Ints A1 xa A.next A1.next (redS s a) ∧ Ints A1 xr A.next A1.next (redR s a p)
/-- A result's variable is written. -/
theorem res_put {A0 D : AHeap} {b n : Nat} (hl : Canon.look A0.objs b = some ⟨.cells #[.int .i64 0, .slice none 0 0, .slice none 0 0] 24, false, 0⟩) (hb : b < n) (hD : Nx n A0 D) {v0 v1 v2 : Value} (hv : [v0, v1, v2].all isCell = true) :
    ∃ D', sts D b 0 [v0, v1, v2] = some D' ∧ D'.next = D.next ∧ WF D' ∧ (∀ b', b' ≠ b → Canon.look D'.objs b' = Canon.look D.objs b') ∧ cl D' b 0 = some v0 ∧ cl D' b 1 = some v1 ∧ cl D' b 2 = some v2 := by
  obtain ⟨D', c', q1, q2, q3, q4⟩ := sts_upd (l := [v0, v1, v2]) (o := 0) ((hD.keep b hb).trans hl) rfl (by simp) hv
  exact ⟨D', q1, q2.next, (q2.nx hD.wf (Nat.zero_le _)).wf, q2.off, by rw [q2.cl, q4]; rfl, by rw [q2.cl, q4]; rfl, by rw [q2.cl, q4]; rfl⟩

theorem result_ref {A : AHeap} (hw : WF A) {m : Int} {sa ra : Option Addr} {sc rc : Nat} {st ro : List Int} (hs : Ints A sa 0 A.next st) (hr : Ints A ra 0 A.next ro) (ls : st.length ≤ 1000000) (lr : ro.length ≤ 1000000) (hro : 0 < ro.length) (hsl : Sl A ra 0) (hrc : ro.length ≤ rc) :
    Con Try.prog 70 [.agg #[.int .i64 m, .slice sa st.length sc, .slice ra ro.length rc]] A (fun v A1 => ∃ a p, Red (atL st ro) a p ∧ a ≤ st.length ∧ p ≤ ro.length ∧ LeastR A m (atL st ro) a p v A1) := by
  refine con_of_rn hc Try.func70 rfl (Nat.le_of_ble_eq_true rfl) ?_
  obtain ⟨A0, e0, hx0, hn0, b0, b1, b2⟩ := box3 hw (.int .i64 m) (.slice sa st.length sc) (.slice ra ro.length rc) 24
  have hx1 : Nx A0.next A0 (A0.push (.cells #[.int .i64 0, .slice none 0 0, .slice none 0 0] 24)) := (Nx.refl hx0.wf _).push (Nat.le_refl _) _
  have l1 := look_push_eq A0 (.cells #[.int .i64 0, .slice none 0 0, .slice none 0 0] 24)
  have hn1 : (A0.push (.cells #[.int .i64 0, .slice none 0 0, .slice none 0 0] 24)).next = A0.next + 1 := rfl
  generalize e1 : A0.push (.cells #[.int .i64 0, .slice none 0 0, .slice none 0 0] 24) = A1 at hx1 l1 hn1
  have hx01 : Nx A.next A A1 := hx0.trans (hx1.le hx0.next)
  have b0 := (hx1.cl (show A.next < A0.next by omega) 0).trans b0
  have b1 := (hx1.cl (show A.next < A0.next by omega) 1).trans b1
  have b2 := (hx1.cl (show A.next < A0.next by omega) 2).trans b2
  rw [s_in1]
  (repeat (first | refine Rn.seq hc ?_ | refine Rn.skip hc ?_ | refine Rn.block hc ?_ | refine Rn.inBlock hc ?_ | refine Rn.scope hc ?_ | refine Rn.inScope hc ?_))
  refine Rn.reg hc rfl ?_
  simp only [sev_tmp, sev_const, sg_eq, Nat.reduceLT, gd, want_free, rops, fx, Option.some.injEq, exists_eq_left', Value.cells, show Try.f70.ntmps = 19 from rfl, e0, ze24, e1]
  (repeat (first | refine Rn.seq hc ?_ | refine Rn.skip hc ?_ | refine Rn.block hc ?_ | refine Rn.inBlock hc ?_ | refine Rn.scope hc ?_ | refine Rn.inScope hc ?_))
  refine Rn.region hc fun K hK => ?_
  refine Wo.run hc 1 rfl rfl rfl ?_
  simp (maxSteps := 2000000) only [List.drop_zero, List.take_succ_cons, List.take_zero, sev_tmp, sg_eq, sg_ne, sp_n, Nat.reduceLT, ne_eq, Nat.reduceEqDiff, not_false_eq_true, gd, want_free, rops, fx, ld, adr_p, cls, Nat.zero_add, Option.some.injEq, exists_eq_left', Nat.reduceAdd, tk24, b0, b1, b2]
  refine Wo.call hc (by rfl) (by rfl) ⟨by rfl, by rfl⟩ (xs := [.agg #[.int .i64 m, .slice sa st.length sc, .slice ra ro.length rc]]) (by rfl) (by rfl) (by rfl) (Con.mono (small_ref hx1.wf ((hs.nx hx01 (Nat.le_refl _)).mono (Nat.le_refl _) hx01.next) ((hr.nx hx01 (Nat.le_refl _)).mono (Nat.le_refl _) hx01.next) ls lr hro (hsl.nx hw hx01) hrc) ?_)
  rintro w A2 ⟨a, p, hred, ha, hp, hx2, xa, xc, xr, rfl, hac, ia, ir, -, -⟩
  obtain ⟨A3, p3, hx3, hn3, c0, c1, c2⟩ := put24 hx2.wf (v0 := .int .i64 m) (v1 := .slice xa a xc) (v2 := .slice xr p p) rfl
  refine Wo.run hc 2 rfl rfl rfl ?_
  simp (maxSteps := 2000000) only [List.drop_zero, List.drop_succ_cons, List.take_succ_cons, List.take_zero, sev_tmp, sg_eq, sg_ne, sp_n, sp_none, Nat.reduceLT, ne_eq, Nat.reduceEqDiff, not_false_eq_true, gd, want_free, rops, fx, str, adr_p, Nat.zero_add, Option.some.injEq, exists_eq_left', Value.cells, Nat.reduceAdd, tk24, ze24, p3, List.size_toArray, List.length_cons, List.length_nil, Nat.beq_refl]
  refine Wo.done hc rfl (hK _ _ ?_)
  clear hK
  (repeat (first | refine Rn.seq hc ?_ | refine Rn.skip hc ?_ | refine Rn.block hc ?_ | refine Rn.inBlock hc ?_ | refine Rn.scope hc ?_ | refine Rn.inScope hc ?_))
  have hx13 : Nx A1.next A1 A3 := hx2.trans (hx3.le hx2.next)
  have hx03 : Nx A.next A A3 := hx01.trans (hx13.le hx01.next)
  have n2 := hx2.next
  have ia3 := (ia.nx hx3 (Nat.le_refl _)).mono (Nat.le_refl _) hx3.next
  have ir3 := (ir.nx hx3 (Nat.le_refl _)).mono (Nat.le_refl _) hx3.next
  have hred' := hred
  by_cases hlong : 120 < p ∨ 60 < a
  · obtain ⟨D, q1, q2, q3, q4, g0, g1, g2⟩ := res_put l1 (by omega) hx13 (v0 := .int .i64 0) (v1 := .slice none 0 0) (v2 := .slice none 0 0) rfl
    have hfin : LeastR A m (atL st ro) a p (.tuple #[.agg #[.int .i64 0, .slice none 0 0, .slice none 0 0], .int .i64 11]) D := ⟨⟨by omega, q3, fun b hb => by rw [q4 _ (by omega), hx03.keep _ hb]⟩, by rw [if_pos hlong]⟩
    by_cases h60 : 60 < a
    · have hd1 : decide ((60 : Int) < (a : Int)) = true := decide_eq_true (by omega)
      refine Rn.reg hc rfl ?_
      simp only [sev_tmp, sev_const, sg_eq, sg_ne, sp_n, Nat.reduceLT, ne_eq, Nat.reduceEqDiff, not_false_eq_true, gd, nth, want_free, want_slot, beqB, rops, fx, ld, fad, lng, pck, bin_gtr, adr_p, Nat.zero_add, Option.some.injEq, exists_eq_left', tk22, fo24_1, un22, c1, hd1]
      (repeat (first | refine Rn.seq hc ?_ | refine Rn.skip hc ?_ | refine Rn.block hc ?_ | refine Rn.inBlock hc ?_ | refine Rn.scope hc ?_ | refine Rn.inScope hc ?_))
      refine Rn.condE hc rfl ?_
      simp only [sev_tmp, sg_eq, sp_n, Nat.reduceLT, Value.bool.injEq, exists_eq_left']
      (repeat (first | refine Rn.seq hc ?_ | refine Rn.skip hc ?_ | refine Rn.block hc ?_ | refine Rn.inBlock hc ?_ | refine Rn.scope hc ?_ | refine Rn.inScope hc ?_))
      refine Rn.reg hc rfl ?_
      simp only [sev_tmp, sev_const, sg_eq, sg_ne, sp_n, sp_none, Nat.reduceLT, ne_eq, Nat.reduceEqDiff, not_false_eq_true, gd, want_free, rops, fx, str, adr_p, Nat.zero_add, Option.some.injEq, exists_eq_left', Nat.reduceAdd, tk24, bd24_z, q1, List.size_toArray, List.length_cons, List.length_nil, Nat.beq_refl]
      (repeat (first | refine Rn.seq hc ?_ | refine Rn.skip hc ?_ | refine Rn.block hc ?_ | refine Rn.inBlock hc ?_ | refine Rn.scope hc ?_ | refine Rn.inScope hc ?_))
      refine Rn.ret (endQ_ct rfl (v := .agg #[.int .i64 0, .slice none 0 0, .slice none 0 0]) ?_ ⟨a, p, hred, ha, hp, ?_⟩)
      · simp only [sg_eq, sg_ne, sp_n, Nat.reduceLT, ne_eq, Nat.reduceEqDiff, not_false_eq_true, ld, adr_p, cls, Nat.zero_add, Nat.reduceAdd, tk24, g0, g1, g2]
      · simp only [sg_eq, sp_n, Nat.reduceLT]
        exact hfin
    · have hd1 : decide ((60 : Int) < (a : Int)) = false := decide_eq_false (by omega)
      have hd2 : decide ((120 : Int) < (p : Int)) = true := decide_eq_true (by omega)
      refine Rn.reg hc rfl ?_
      simp only [sev_tmp, sev_const, sg_eq, sg_ne, sp_n, Nat.reduceLT, ne_eq, Nat.reduceEqDiff, not_false_eq_true, gd, nth, want_free, want_slot, beqB, rops, fx, ld, fad, lng, pck, bin_gtr, adr_p, Nat.zero_add, Option.some.injEq, exists_eq_left', tk22, fo24_1, fo24_2, un22, c1, c2, hd1, hd2]
      (repeat (first | refine Rn.seq hc ?_ | refine Rn.skip hc ?_ | refine Rn.block hc ?_ | refine Rn.inBlock hc ?_ | refine Rn.scope hc ?_ | refine Rn.inScope hc ?_))
      refine Rn.condE hc rfl ?_
      simp only [sev_tmp, sg_eq, sp_n, Nat.reduceLT, Value.bool.injEq, exists_eq_left']
      (repeat (first | refine Rn.seq hc ?_ | refine Rn.skip hc ?_ | refine Rn.block hc ?_ | refine Rn.inBlock hc ?_ | refine Rn.scope hc ?_ | refine Rn.inScope hc ?_))
      refine Rn.reg hc rfl ?_
      simp only [sev_tmp, sev_const, sg_eq, sg_ne, sp_n, sp_none, Nat.reduceLT, ne_eq, Nat.reduceEqDiff, not_false_eq_true, gd, want_free, rops, fx, str, adr_p, Nat.zero_add, Option.some.injEq, exists_eq_left', Nat.reduceAdd, tk24, bd24_z, q1, List.size_toArray, List.length_cons, List.length_nil, Nat.beq_refl]
      (repeat (first | refine Rn.seq hc ?_ | refine Rn.skip hc ?_ | refine Rn.block hc ?_ | refine Rn.inBlock hc ?_ | refine Rn.scope hc ?_ | refine Rn.inScope hc ?_))
      refine Rn.ret (endQ_ct rfl (v := .agg #[.int .i64 0, .slice none 0 0, .slice none 0 0]) ?_ ⟨a, p, hred, ha, hp, ?_⟩)
      · simp only [sg_eq, sg_ne, sp_n, Nat.reduceLT, ne_eq, Nat.reduceEqDiff, not_false_eq_true, ld, adr_p, cls, Nat.zero_add, Nat.reduceAdd, tk24, g0, g1, g2]
      · simp only [sg_eq, sp_n, Nat.reduceLT]
        exact hfin
  · obtain ⟨D, q1, q2, q3, q4, g0, g1, g2⟩ := res_put l1 (by omega) hx13 (v0 := .int .i64 m) (v1 := .slice xa a xc) (v2 := .slice xr p p) rfl
    have hd1 : decide ((60 : Int) < (a : Int)) = false := decide_eq_false (by omega)
    have hd2 : decide ((120 : Int) < (p : Int)) = false := decide_eq_false (by omega)
    refine Rn.reg hc rfl ?_
    simp only [sev_tmp, sev_const, sg_eq, sg_ne, sp_n, Nat.reduceLT, ne_eq, Nat.reduceEqDiff, not_false_eq_true, gd, nth, want_free, want_slot, beqB, rops, fx, ld, fad, lng, pck, bin_gtr, adr_p, Nat.zero_add, Option.some.injEq, exists_eq_left', tk22, fo24_1, fo24_2, un22, c1, c2, hd1, hd2]
    (repeat (first | refine Rn.seq hc ?_ | refine Rn.skip hc ?_ | refine Rn.block hc ?_ | refine Rn.inBlock hc ?_ | refine Rn.scope hc ?_ | refine Rn.inScope hc ?_))
    refine Rn.condE hc rfl ?_
    simp only [sev_tmp, sg_eq, sp_n, Nat.reduceLT, Value.bool.injEq, exists_eq_left']
    (repeat (first | refine Rn.seq hc ?_ | refine Rn.skip hc ?_ | refine Rn.block hc ?_ | refine Rn.inBlock hc ?_ | refine Rn.scope hc ?_ | refine Rn.inScope hc ?_))
    refine Rn.reg hc rfl ?_
    simp only [sev_tmp, sev_const, sg_eq, sg_ne, sp_n, sp_none, Nat.reduceLT, ne_eq, Nat.reduceEqDiff, not_false_eq_true, gd, want_free, rops, fx, ld, str, adr_p, cls, Nat.zero_add, Option.some.injEq, exists_eq_left', Nat.reduceAdd, tk24, c0, c1, c2, q1, List.size_toArray, List.length_cons, List.length_nil, Nat.beq_refl]
    (repeat (first | refine Rn.seq hc ?_ | refine Rn.skip hc ?_ | refine Rn.block hc ?_ | refine Rn.inBlock hc ?_ | refine Rn.scope hc ?_ | refine Rn.inScope hc ?_))
    have hoff : ∀ b, A1.next ≤ b → Canon.look A3.objs b = none ∨ Canon.look D.objs b = Canon.look A3.objs b := fun b hb => .inr (q4 _ (by omega))
    refine Rn.ret (endQ_ct rfl (v := .agg #[.int .i64 m, .slice xa a xc, .slice xr p p]) ?_ ⟨a, p, hred, ha, hp, ⟨by omega, q3, fun b hb => by rw [q4 _ (by omega), hx03.keep _ hb]⟩, ?_⟩)
    · simp only [sg_eq, sg_ne, sp_n, Nat.reduceLT, ne_eq, Nat.reduceEqDiff, not_false_eq_true, ld, adr_p, cls, Nat.zero_add, Nat.reduceAdd, tk24, g0, g1, g2]
    · rw [if_neg hlong]
      exact ⟨xa, xc, xr, p, by simp only [sg_eq, sp_n, Nat.reduceLT], (ia3.ext hoff (by omega)).mono hx01.next (Nat.le_refl _), (ir3.ext hoff (by omega)).mono hx01.next (Nat.le_refl _)⟩
end Go.Proofs.Ytdaljohmfnfgiaa
/- The reference's Least, its errors of two, its common multiples. No condition. -/
namespace Go.Proofs.Ytdaljohmfnfgiaa
open Go Go.RowKit Go.Proofs.Ytdaljohmfnfgiaa.Canon
set_option maxRecDepth 20000


theorem gcd_ref {A : AHeap} (hw : WF A) {a b : Nat} (ha : a < 4611686018427387904) (hb : b < 4611686018427387904) : Con Try.prog 104 [.int .i64 (a : Int), .int .i64 (b : Int)] A (fun v A1 => v = .int .i64 (Nat.gcd a b : Nat) ∧ Nx A.next A A1) := by
  refine con_of_rn hc Try.func104 rfl (Nat.le_of_ble_eq_true rfl) ?_
  rw [s_in2]
  (repeat (first | refine Rn.seq hc ?_ | refine Rn.skip hc ?_ | refine Rn.block hc ?_ | refine Rn.inBlock hc ?_ | refine Rn.scope hc ?_ | refine Rn.inScope hc ?_))
  refine Rn.reg hc rfl ?_
  simp only [sev_const, gd, want_free, rops, fx, Option.some.injEq, exists_eq_left', show Try.f104.ntmps = 12 from rfl]
  (repeat (first | refine Rn.seq hc ?_ | refine Rn.skip hc ?_ | refine Rn.block hc ?_ | refine Rn.inBlock hc ?_ | refine Rn.scope hc ?_ | refine Rn.inScope hc ?_))
  refine Rn.loopI hc (I := fun k s A' => ∃ x y : Nat, k = y ∧ x < 4611686018427387904 ∧ y < 4611686018427387904 ∧ Nat.gcd x y = Nat.gcd a b ∧ Nx A.next A A' ∧ s.n = 12 ∧ sget s 0 = .int .i64 (x : Int) ∧ sget s 1 = .int .i64 (y : Int))
    (n := b) ⟨a, b, rfl, ha, hb, rfl, Nx.refl hw _, by simp only [sp_n], by simp only [sg_eq, sg_ne, Nat.reduceLT, ne_eq, Nat.reduceEqDiff, not_false_eq_true], by simp only [sg_eq, sg_ne, sp_n, Nat.reduceLT, ne_eq, Nat.reduceEqDiff, not_false_eq_true]⟩ ?_
  rintro k s A' ⟨x, y, hky, hx', hy', hg, hA, hn, s0, s1⟩ ih
  (repeat (first | refine Rn.seq hc ?_ | refine Rn.skip hc ?_ | refine Rn.block hc ?_ | refine Rn.inBlock hc ?_ | refine Rn.scope hc ?_ | refine Rn.inScope hc ?_))
  by_cases hy0 : y = 0
  · subst hy0
    clear ih
    rw [Nat.gcd_zero_right] at hg
    refine Rn.reg hc rfl ?_
    simp only [sev_tmp, sev_const, sg_eq, Nat.reduceLT, gd, want_free, rops, fx, bin_neq, Option.some.injEq, exists_eq_left', Bool.not_true, Bool.not_true, hn, s1, Int.natCast_zero, eq_self, decide_true, Bool.not_true]
    (repeat (first | refine Rn.seq hc ?_ | refine Rn.skip hc ?_ | refine Rn.block hc ?_ | refine Rn.inBlock hc ?_ | refine Rn.scope hc ?_ | refine Rn.inScope hc ?_))
    refine Rn.condE hc rfl ?_
    simp only [sev_tmp, sg_eq, sp_n, Nat.reduceLT, Value.bool.injEq, exists_eq_left', hn]
    (repeat (first | refine Rn.seq hc ?_ | refine Rn.skip hc ?_ | refine Rn.block hc ?_ | refine Rn.inBlock hc ?_ | refine Rn.scope hc ?_ | refine Rn.inScope hc ?_))
    refine Rn.exit hc rfl ?_
    (repeat (first | refine Rn.seq hc ?_ | refine Rn.skip hc ?_ | refine Rn.block hc ?_ | refine Rn.inBlock hc ?_ | refine Rn.scope hc ?_ | refine Rn.inScope hc ?_))
    refine Rn.reg hc rfl ?_
    simp only [sev_tmp, sg_eq, sg_ne, sp_n, Nat.reduceLT, ne_eq, Nat.reduceEqDiff, not_false_eq_true, gd, want_free, rops, fx, Option.some.injEq, exists_eq_left', hn, s0]
    (repeat (first | refine Rn.seq hc ?_ | refine Rn.skip hc ?_ | refine Rn.block hc ?_ | refine Rn.inBlock hc ?_ | refine Rn.scope hc ?_ | refine Rn.inScope hc ?_))
    refine Rn.ret (endQ_tmp rfl ⟨?_, hA⟩)
    simp only [sg_eq, sp_n, Nat.reduceLT, hn, hg]
  · have hd : (!decide ((y : Int) = 0)) = true := by rw [decide_eq_false (by omega)]; rfl
    have hrem : ∀ M, bin Try.prog .rem 3 (.int .i64 (x : Int)) (.int .i64 (y : Int)) M = some (.int .i64 ((x % y : Nat) : Int), M) := fun M => by
      rw [bin_rem _ _ _ _ (by omega), IntWalk.rem_in _ _ (by omega)]
      rfl
    have hlt := Nat.mod_lt x (Nat.pos_of_ne_zero hy0)
    refine Rn.reg hc rfl ?_
    simp only [sev_tmp, sev_const, sg_eq, Nat.reduceLT, gd, want_free, rops, fx, bin_neq, Option.some.injEq, exists_eq_left', hn, s1, hd]
    (repeat (first | refine Rn.seq hc ?_ | refine Rn.skip hc ?_ | refine Rn.block hc ?_ | refine Rn.inBlock hc ?_ | refine Rn.scope hc ?_ | refine Rn.inScope hc ?_))
    refine Rn.condE hc rfl ?_
    simp only [sev_tmp, sg_eq, sp_n, Nat.reduceLT, Value.bool.injEq, exists_eq_left', hn]
    (repeat (first | refine Rn.seq hc ?_ | refine Rn.skip hc ?_ | refine Rn.block hc ?_ | refine Rn.inBlock hc ?_ | refine Rn.scope hc ?_ | refine Rn.inScope hc ?_))
    refine Rn.drawnR hc hx (by kernel_rfl) (by rfl) (by kernel_rfl) ?_ ?_
    · simp only [rdV, VQ.int, sev_tmp, sg_eq, sg_ne, sp_n, Nat.reduceLT, ne_eq, Nat.reduceEqDiff, not_false_eq_true, gd, want_free, fx, Nat.zero_add, Nat.reduceAdd, and_self, hn, s0, s1, hrem, List.length_cons, List.length_nil]
    simp only [sev_tmp, sg_eq, sg_ne, sp_n, Nat.reduceLT, ne_eq, Nat.reduceEqDiff, not_false_eq_true, gd, want_free, rops, fx, Nat.zero_add, Option.some.injEq, exists_eq_left', Nat.reduceAdd, hn, s0, s1, hrem, List.length_cons, List.length_nil]
    (repeat (first | refine Rn.seq hc ?_ | refine Rn.skip hc ?_ | refine Rn.block hc ?_ | refine Rn.inBlock hc ?_ | refine Rn.scope hc ?_ | refine Rn.inScope hc ?_))
    refine ih _ _ _ (by rw [hky]; exact hlt) ⟨y, x % y, rfl, hy', by omega, ?_, Nx.bump hA _, by simp only [sp_n, hn], by simp only [sg_eq, sg_ne, sp_n, Nat.reduceLT, ne_eq, Nat.reduceEqDiff, not_false_eq_true, hn], by simp only [sg_eq, sp_n, Nat.reduceLT, hn]⟩
    rw [← hg, Nat.gcd_comm x y, Nat.gcd_rec y x, Nat.gcd_comm]

/-- The least common multiple, as it is made. -/
def lcmN (a b : Nat) : Nat := a / Nat.gcd a b * b
theorem lcmN_facts {a b : Nat} (ha : 0 < a) (hb : 0 < b) : 0 < lcmN a b ∧ lcmN a b % a = 0 ∧ lcmN a b % b = 0 ∧ lcmN a b ≤ a * b := by
  have hg : 0 < Nat.gcd a b := Nat.gcd_pos_of_pos_left _ ha
  obtain ⟨x, hx⟩ := Nat.gcd_dvd_left a b
  obtain ⟨y, hy⟩ := Nat.gcd_dvd_right a b
  have e : a / Nat.gcd a b = x := by
    have : a = Nat.gcd a b * x := hx
    rw [Nat.div_eq_of_eq_mul_right hg this]
  have hx0 : 0 < x := Nat.pos_of_ne_zero fun h => by subst h; rw [Nat.mul_zero] at hx; omega
  refine ⟨?_, ?_, ?_, ?_⟩
  · unfold lcmN
    rw [e]
    exact Nat.mul_pos hx0 hb
  · unfold lcmN
    rw [e]
    have : x * b = a * y := by
      calc x * b = x * (Nat.gcd a b * y) := by rw [← hy]
        _ = Nat.gcd a b * x * y := by rw [← Nat.mul_assoc, Nat.mul_comm x]
        _ = a * y := by rw [← hx]
    rw [this, Nat.mul_mod_right]
  · unfold lcmN
    exact Nat.mul_mod_left _ _
  · unfold lcmN
    exact Nat.mul_le_mul_right _ (Nat.div_le_self _ _)
theorem lcm_ref {A : AHeap} (hw : WF A) {a b : Nat} (ha : 0 < a ∧ a ≤ 1000) (hb : 0 < b ∧ b ≤ 1000) : Con Try.prog 73 [.int .i64 (a : Int), .int .i64 (b : Int)] A (fun v A1 => v = .int .i64 (lcmN a b : Nat) ∧ Nx A.next A A1) := by
  refine con_of_rn hc Try.func73 rfl (Nat.le_of_ble_eq_true rfl) ?_
  rw [s_in2]
  (repeat (first | refine Rn.seq hc ?_ | refine Rn.skip hc ?_ | refine Rn.block hc ?_ | refine Rn.inBlock hc ?_ | refine Rn.scope hc ?_ | refine Rn.inScope hc ?_))
  refine Rn.reg hc rfl ?_
  simp only [sev_const, gd, want_free, rops, fx, Option.some.injEq, exists_eq_left', show Try.f73.ntmps = 12 from rfl]
  (repeat (first | refine Rn.seq hc ?_ | refine Rn.skip hc ?_ | refine Rn.block hc ?_ | refine Rn.inBlock hc ?_ | refine Rn.scope hc ?_ | refine Rn.inScope hc ?_))
  refine Rn.region hc fun K hK => ?_
  refine Wo.run hc 3 rfl rfl rfl ?_
  simp (maxSteps := 2000000) only [List.drop_zero, List.take_succ_cons, List.take_zero, sev_tmp, sg_eq, sg_ne, sp_n, Nat.reduceLT, ne_eq, Nat.reduceEqDiff, not_false_eq_true, gd, want_free, rops, fx, Nat.zero_add, Option.some.injEq, exists_eq_left']
  refine Wo.call hc (by rfl) (by rfl) ⟨by rfl, by rfl⟩ (xs := [.int .i64 (a : Int), .int .i64 (b : Int)]) (by rfl) (by rfl) (by rfl) (Con.mono (gcd_ref hw (by omega) (by omega)) ?_)
  rintro w A1 ⟨rfl, hx1⟩
  have hg : 0 < Nat.gcd a b := Nat.gcd_pos_of_pos_left _ ha.1
  have hq : ∀ M, bin Try.prog .quo 3 (.int .i64 (a : Int)) (.int .i64 (Nat.gcd a b : Nat)) M = some (.int .i64 ((a / Nat.gcd a b : Nat) : Int), M) := fun M => by
    have hle := Nat.div_le_self a (Nat.gcd a b)
    have e : ((a : Int)).tdiv ((Nat.gcd a b : Nat) : Int) = ((a / Nat.gcd a b : Nat) : Int) := by
      rw [Int.tdiv_eq_ediv_of_nonneg (by omega)]
      rfl
    have e2 : IntKind.i64.wrap ((a / Nat.gcd a b : Nat) : Int) = ((a / Nat.gcd a b : Nat) : Int) := by
      clear e
      generalize a / Nat.gcd a b = q at hle
      rw [IntWalk.i64_in _ (by omega)]
    rw [bin_quo _ _ _ _ (by omega), e, e2]
  have hm : IntKind.i64.wrap (((a / Nat.gcd a b : Nat) : Int) * (b : Int)) = ((lcmN a b : Nat) : Int) := by
    have hle : lcmN a b ≤ 1000 * 1000 := Nat.le_trans (lcmN_facts ha.1 hb.1).2.2.2 (Nat.mul_le_mul ha.2 hb.2)
    rw [← Int.natCast_mul]
    show IntKind.i64.wrap ((lcmN a b : Nat) : Int) = _
    rw [IntWalk.i64_in _ (by omega)]
  refine Wo.run hc 4 rfl rfl rfl ?_
  simp (maxSteps := 2000000) only [List.drop_zero, List.drop_succ_cons, List.take_succ_cons, List.take_zero, sev_tmp, sg_eq, sg_ne, sp_n, Nat.reduceLT, ne_eq, Nat.reduceEqDiff, not_false_eq_true, gd, want_free, rops, fx, bin_mul, Option.some.injEq, exists_eq_left', Nat.reduceAdd, hq, hm]
  refine Wo.done hc rfl (hK _ _ ?_)
  clear hK
  (repeat (first | refine Rn.seq hc ?_ | refine Rn.skip hc ?_ | refine Rn.block hc ?_ | refine Rn.inBlock hc ?_ | refine Rn.scope hc ?_ | refine Rn.inScope hc ?_))
  refine Rn.ret (endQ_tmp rfl ⟨?_, hx1⟩)
  simp only [sg_eq, sp_n, Nat.reduceLT]

end Go.Proofs.Ytdaljohmfnfgiaa
/- Where two streams differ, and whether they are the same: the reference. No condition. -/
namespace Go.Proofs.Ytdaljohmfnfgiaa
open Go Go.RowKit Go.Proofs.Ytdaljohmfnfgiaa.Canon
set_option maxRecDepth 20000


theorem ApartQ.uniq {s t : Nat → Int} {v w : Value} (h : ApartQ s t v) (k : ApartQ s t w) : v = w := by
  rcases h with ⟨n, rfl, h1, h2⟩ | ⟨rfl, h1⟩
  · rcases k with ⟨n', rfl, k1, k2⟩ | ⟨rfl, k1⟩
    · have : n = n' := by
        rcases Nat.lt_trichotomy n n' with hh | hh | hh
        · exact absurd (k2 n hh) h1
        · exact hh
        · exact absurd (h2 n' hh) k1
      subst this
      rfl
    · exact absurd (k1 n) h1
  · rcases k with ⟨n', rfl, k1, k2⟩ | ⟨rfl, k1⟩
    · exact absurd (h1 n') k1
    · rfl
end Go.Proofs.Ytdaljohmfnfgiaa
/- A stream's memory is changed. No condition. -/
namespace Go.Proofs.Ytdaljohmfnfgiaa
open Go Go.RowKit Go.Proofs.Ytdaljohmfnfgiaa.Canon
set_option maxRecDepth 20000


/-- A row that may be written. -/
def Wrt (A : AHeap) (a : Option Addr) (lo hi n : Nat) : Prop := 0 < n → ∃ b o c t f g e, a = some ⟨b, o, none⟩ ∧ (lo ≤ b ∧ b < hi) ∧ Canon.look A.objs b = some ⟨.cells c t f, g, e⟩ ∧ isRO g e = false ∧ o + n ≤ c.size
theorem Gr.wrt {A : AHeap} {a : Option Addr} {lo : Nat} {l : List Int} (h : Gr A a lo l) : Wrt A a lo A.next l.length := fun hpos => by
  obtain ⟨b, o, e, q2, q3, q4⟩ := h.ints (l.length - 1) (by omega)
  obtain ⟨y, h1, h2⟩ := h.wr _ e
  obtain ⟨ob, g, z⟩ := y
  obtain ⟨_, c, t, f, g', z', hlk, hc, _⟩ := AHeap.cell_eq q4
  simp only at hlk h1 h2
  rw [hlk] at h1
  cases h1
  have := (Array.getElem?_eq_some_iff.1 hc).1
  exact ⟨b, o, c, t, f, _, _, e, ⟨q2, q3⟩, hlk, h2, by simp only at this; omega⟩
/-- Memory of the same shape, the same below a bound. -/
structure Szs (lo hi : Nat) (A B : AHeap) : Prop where
  next : B.next = A.next
  wf : WF B
  sz : ∀ b c t f g e, Canon.look A.objs b = some ⟨.cells c t f, g, e⟩ → ∃ c', c'.size = c.size ∧ Canon.look B.objs b = some ⟨.cells c' t f, g, e⟩
  keep : ∀ b, (b < lo ∨ hi ≤ b) → Canon.look B.objs b = Canon.look A.objs b
theorem Szs.refl {A : AHeap} (h : WF A) (lo hi : Nat) : Szs lo hi A A := ⟨rfl, h, fun b c t f g e q => ⟨c, rfl, q⟩, fun _ _ => rfl⟩
theorem Szs.trans {lo hi : Nat} {A B C : AHeap} (h : Szs lo hi A B) (k : Szs lo hi B C) : Szs lo hi A C := ⟨k.next.trans h.next, k.wf, fun b c t f g e q => by
  obtain ⟨c', e1, q1⟩ := h.sz b c t f g e q
  obtain ⟨c'', e2, q2⟩ := k.sz b c' t f g e q1
  exact ⟨c'', e2.trans e1, q2⟩, fun b hb => (k.keep b hb).trans (h.keep b hb)⟩
theorem Szs.of_upd {A B : AHeap} {b lo hi : Nat} {c c' : Array Value} {t : TypeId} {f : Nat × Nat} {g : Bool} {e : Nat} (hw : WF A) (hl : Canon.look A.objs b = some ⟨.cells c t f, g, e⟩) (hb : lo ≤ b ∧ b < hi) (h : Upd A b c' B) (hs : c'.size = c.size) : Szs lo hi A B :=
  ⟨h.next, (h.nx hw (Nat.zero_le _)).wf, fun b' c1 t1 f1 g1 e1 q => by
    by_cases hbb : b' = b
    · subst hbb
      obtain ⟨c2, t2, f2, g2, e2, r1, r2, _⟩ := h.at'
      rw [hl] at r1 q
      cases r1
      cases q
      exact ⟨c', hs, r2⟩
    · exact ⟨c1, rfl, (h.off _ hbb).trans q⟩, fun b' hb' => h.off _ (by omega)⟩
theorem Wrt.szs {A B : AHeap} {a : Option Addr} {lo hi n lo' hi' : Nat} (h : Wrt A a lo hi n) (k : Szs lo' hi' A B) : Wrt B a lo hi n := fun hpos => by
  obtain ⟨b, o, c, t, f, g, e, h1, h2, h3, h4, h5⟩ := h hpos
  obtain ⟨c', e1, q1⟩ := k.sz b c t f g e h3
  exact ⟨b, o, c', t, f, g, e, h1, h2, q1, h4, by omega⟩
theorem zeroCells_int (n : Nat) : ∃ l : List Value, (Builtin.zeroCells (Value.int .i64 0).cells n).toList = l ∧ l.length = n ∧ l.all isCell = true := by
  refine ⟨_, rfl, ?_, ?_⟩
  · simp [Builtin.zeroCells, Value.cells]
  · rw [List.all_eq_true]
    intro v hv
    simp [Builtin.zeroCells, Value.cells] at hv
    obtain ⟨i, hi, rfl⟩ := hv
    simp [isCell, Nat.mod_one]
theorem ae_clear {d : Option Tmp} {ty : TypeId} {pos : String} {af : Array Edge} {gu : Option (Nat × Bool)} {s : Slots} {x : Tmp} {A : AHeap} {a : Option Addr} {lo hi n c : Nat} (hw : WF A) (h : Wrt A a lo hi n) (hx : sget s x = .slice a n c) :
    ∃ B, aexec Try.prog (seval s) ⟨d, .call ⟨.builtin .clear, #[.tmp x], #[22]⟩, ty, pos, af, gu⟩ A = some (.tuple #[], B) ∧ Szs lo hi A B := by
  obtain ⟨_, i, z, hinf, hz, hzz, _, _, _⟩ := elB_eq el22
  have hz' : z = .int .i64 0 := by
    have := ze3
    unfold zeroOf at this
    rw [hz, hinf] at this
    simp only [hzz] at this
    exact Option.some.inj this
  subst hz'
  have hun : aexec Try.prog (seval s) ⟨d, .call ⟨.builtin .clear, #[.tmp x], #[22]⟩, ty, pos, af, gu⟩ A = arun Try.prog (Builtin.clear_ #[22] ty #[.slice a n c]) A := by
    simp only [aexec, Op.operands, Call.operands]
    simp [opnOK, abuiltin, sev_tmp, hx, hz]
  rw [hun]
  cases n with
  | zero =>
    refine ⟨A, ?_, Szs.refl hw _ _⟩
    cases a <;> simp [Builtin.clear_, Go.underlying]
  | succ k =>
    obtain ⟨b, o, cc, t, f, g, e, rfl, h2, h3, h4, h5⟩ := h (Nat.succ_pos k)
    obtain ⟨l, hl1, hl2, hl3⟩ := zeroCells_int (k + 1)
    obtain ⟨B, c', q1, q2, q3, _⟩ := sts_upd (l := l) (o := o) h3 h4 (by omega) hl3
    refine ⟨B, ?_, Szs.of_upd hw h3 h2 q2 q3⟩
    have hst := sts_run (P := Try.prog) (b := b) (l := l) (o := o) (i := 0) (A := A) (A1 := B) q1
    simp [Builtin.clear_, Go.underlying, Go.zeroValue, Go.typeInfo, hinf, hzz, hl1, hst]

theorem Wo.clear {ops : Array Oper} {i : Nat} {s : Slots} {A : AHeap} {K : Slots → AHeap → Prop} {o : Oper} {x : Tmp} {a : Option Addr} {lo hi n c : Nat} (ho : nth ops.toList i = some o) (hop : o.op = .call ⟨.builtin .clear, #[.tmp x], #[22]⟩) (hwt : wantB (gd ops o) s = true) (hw : WF A) (hW : Wrt A a lo hi n) (hx : sget s x = .slice a n c)
    (h : ∀ B, Szs lo hi A B → Wo Try.prog ops (i + 1) (sput s o.dst (.tuple #[])) B K) : Wo Try.prog ops i s A K := by
  obtain ⟨d, op, ty, pos, af, gu⟩ := o
  simp only at hop
  subst hop
  obtain ⟨B, q1, q2⟩ := ae_clear (d := d) (ty := ty) (pos := pos) (af := af) (gu := gu) hw hW hx
  exact Wo.op hc bno_ok ho (.inr ⟨hwt, .inr ⟨(fun f args ats e => by cases e), q1⟩⟩) (h B q2)
end Go.Proofs.Ytdaljohmfnfgiaa
/- The examples of the lasso's chapter are met: awake returns true, from every world, and what was there stays. No condition. -/
namespace Go.Proofs.Ytdaljohmfnfgiaa
open Go Go.RowKit Go.Proofs.Ytdaljohmfnfgiaa.Canon
theorem awake_runs : btells Try.prog (xquick Try.prog) (qregion Try.prog (xquick Try.prog)) 100000 16 1000 = true := by kernel_rfl
theorem awake_true (w : World) : Calls Try.prog 16 #[] w (fun e w' => e = .returned (.bool true) ∧ Below w.heap.size w w') := calls_of_btells hc hx xquick_ok (qregion_ok xquick_ok) awake_runs w
theorem awake_con (A : AHeap) : Con Try.prog 16 [] A (fun v A1 => v = .bool true ∧ A1 = A) := by
  refine ⟨.bool true, A, ⟨⟨_, Try.func16, rfl⟩, fun N => ?_⟩, rfl, rfl⟩
  refine ret_of_calls (fun N φ w xs' hr hs hN => ?_) N
  have : xs' = #[] := Array.eq_empty_of_size_eq_zero hr.1.symm
  subst this
  refine (awake_true w).mono fun en w' hp => ?_
  obtain ⟨rfl, hb⟩ := hp
  exact ⟨φ, _, rfl, Phi.le_refl _, .bool _, hs.below hb, hb.os, hb.tape, hb.output, hb.size, fun k hk => hb.block k (hN k hk)⟩
end Go.Proofs.Ytdaljohmfnfgiaa
/- What the arguments of the lasso's laws are in a world, and what their rows ask for. No condition. -/
namespace Go.Proofs.Ytdaljohmfnfgiaa
section
open Go Go.RowKit Go.Proofs.Ytdaljohmfnfgiaa.Canon
/-- The numbers of a slice, in a world. -/
def IntsW (W : World) (a : Option Addr) (l : List Int) : Prop := ∀ i, i < l.length → ∃ b o, a = some ⟨b, o, none⟩ ∧ W.cell? ⟨b, o + i, none⟩ = some (.int .i64 (l.getD i 0))
theorem cell_heap {W : World} {b o : Nat} {v : Value} (h : W.cell? ⟨b, o, none⟩ = some v) : ∃ c t f, W.heap[b]? = some (.cells c t f) ∧ c[o]? = some v := by
  unfold World.cell? at h
  cases hb : W.heap[b]? with
  | none => simp [hb] at h
  | some x =>
    cases x <;> simp [hb] at h
    exact ⟨_, _, _, rfl, h⟩
theorem IntsW.ints {W : World} {z : Nat} {A : AHeap} (hA : In W z A) {a : Option Addr} {l : List Int} (h : IntsW W a l) : Ints A a 0 A.next l := fun i hi => by
  obtain ⟨b, o, rfl, hc⟩ := h i hi
  obtain ⟨c, t, f, h1, h2⟩ := cell_heap hc
  have hlt : b < W.heap.size := (Array.getElem?_eq_some_iff.1 h1).1
  exact ⟨b, o, rfl, Nat.zero_le _, by rw [hA.next]; have := hA.big; omega, hA.cl h1 h2 rfl⟩
def blkOf : Option Addr → Nat
  | some a => a.block + 1
  | none => 0
theorem roV_slice {z : Nat} {a : Option Addr} {n c : Nat} (hs : ∀ x, a = some x → x.spot = none) (hb : blkOf a ≤ z) : roV z (.slice a n c) = true := by
  cases a with
  | none => rfl
  | some x =>
    obtain ⟨b, o, s⟩ := x
    have := hs _ rfl
    simp only at this
    subst this
    have hb : b + 1 ≤ z := hb
    show Nat.blt b z = true
    rw [Nat.blt_eq]
    omega
end
section
open Go.ChangeShapes Go.WideShapes Go.ChangeAt Go.RowKit Go.Proofs.Ytdaljohmfnfgiaa.Canon
open Go.Deep (open_slice_pairs open_slice)
theorem Try.own : ownKnob Try.prog.godebug = none := by kernel_rfl
theorem Try.laidOut : laidOutB Try.prog = true := by kernel_rfl
theorem Try.cells24 : Try.prog.cellsOf 24 = 3 := by kernel_rfl
theorem Try.cells3 : Try.prog.cellsOf 3 = 1 := by kernel_rfl
theorem Try.cells22 : Try.prog.cellsOf 22 = 1 := by kernel_rfl
section
variable {H : Type} {enc : TypeId × Value → H} {P : Program}
/-- The row's last step, where of the world behind the call it is known that nothing old has turned. -/
theorem post_of_below {f : Func} {s : ChangeSpec} {apart fresh handsOn again : Bool} {W W' : World} {args : Array Value} {v : Value} {ds gs : List (DataW H)} {before pa pv : List MemPlace}
    (hW : DataW.Whole enc P f.params.toList s.vars apart W args.toList ds gs before)
    (hres : ∀ (b : Nat) (sp : Nat → Bool) (hd : Bool), DataW.TrodAll enc P W' b sp hd f.resultTypes.toList (v.resultList f.resultTypes.size) (s.fn H (ds ++ gs)).results [])
    (hargs : ∀ sp : Nat → Bool, (∀ p ∈ before, sp p.block = true) → DataW.TrodAll enc P W' 0 sp true f.params.toList args.toList (s.fn H (ds ++ gs)).args pa)
    (hvars : ∀ sp : Nat → Bool, (∀ p ∈ before, sp p.block = true) → DataW.TrodVars enc P W' sp s.vars (s.fn H (ds ++ gs)).vars pv)
    (hps : before = pa ++ pv) (hb : Below W.heap.size W W')
    (hok : ∀ (j : Nat) (t : TypeId) (r : Value), f.resultTypes[j]? = some t → (v.resultList f.resultTypes.size)[j]? = some r → Value.okWide P W' .any 0 t r) :
    s.post enc P f apart fresh handsOn again W args v W' := by
  have hlt : ∀ p ∈ before, p.block < W.heap.size := fun p hp => hW.lt p hp
  have hold : ∀ p ∈ before, (fun b => decide (b < W.heap.size)) p.block = true := fun p hp => by simpa using hlt p hp
  refine ⟨ds, gs, before, [], pa, pv, hW, hres _ _ _, hargs _ hold, hvars _ hold, World.keptBut_mono (fun p hp => ⟨hp, ?_⟩) (hb.frame (· ∈ before)), fun _ => ?_⟩
  · rw [hps, List.mem_append] at hp
    exact Or.inr hp
  · obtain ⟨_, _, _, _, _, hz, hn⟩ := hW
    refine ⟨hok, _, _, ([] ++ pa) ++ pv, ⟨[] ++ pa, pv, trodAll_append (hargs _ (fun _ _ => rfl)) (hres _ _ _), hvars _ (fun _ _ => rfl), rfl, ?_, ?_⟩, ?_⟩
    · intro b off hp
      have hin : MemPlace.cell b off ∈ before := by rw [hps]; simpa using hp
      rw [hb.frozen (hlt _ hin)]
      exact hz b off hin
    · intro ha
      have := hn ha
      rw [hps] at this
      simpa using this
    · intro p hp _
      rw [hps]
      simpa using hp
end

theorem cell_slice {P : Program} {w : World} {b : Nat} {t e : TypeId} (ht : P.underlying t = some (.slice e)) {v : Value} (h : Cell.okWide P w .any b t v) : ∃ a n c, v = .slice a n c ∧ ∀ x, a = some x → x.spot = none := by
  unfold Cell.okWide at h
  rw [ht] at h
  cases v <;> simp [Cell.ok, ht] at h
  case slice a n c =>
    cases a with
    | none => exact ⟨none, n, c, rfl, fun x hx => by cases hx⟩
    | some a =>
      refine ⟨some a, n, c, rfl, fun x hx => ?_⟩
      cases hx
      simp only at h
      exact h.2.2.2.1
theorem val_cell {P : Program} {w : World} {b : Nat} {t e : TypeId} (ht : P.underlying t = some (.slice e)) {v : Value} (h : Value.okWide P w .any b t v) : Cell.okWide P w .any b t v := by
  unfold Value.okWide at h
  rw [ht] at h
  exact h
end
end Go.Proofs.Ytdaljohmfnfgiaa
/- LassoChecks: what both sides tell is the same. No condition. -/
namespace Go.Proofs.Ytdaljohmfnfgiaa
open Go Go.RowKit Go.Proofs.Ytdaljohmfnfgiaa.Canon
set_option maxRecDepth 20000


/-- What Least comes to. -/
def LP (m : Int) (st ro : List Int) (mm : Int) (L1 L2 : List Int) (ee : Int) : Prop :=
  (errL m st ro ≠ 0 ∧ mm = 0 ∧ L1 = [] ∧ L2 = [] ∧ ee = errL m st ro) ∨
  (errL m st ro = 0 ∧ ∃ a p, Red (atL st ro) a p ∧ (((120 < p ∨ 60 < a) ∧ mm = 0 ∧ L1 = [] ∧ L2 = [] ∧ ee = 11) ∨ (¬ (120 < p ∨ 60 < a) ∧ mm = m ∧ L1 = redS (atL st ro) a ∧ L2 = redR (atL st ro) a p ∧ ee = 0)))
theorem LP.uniq {m : Int} {st ro : List Int} {mm mm' : Int} {L1 L2 L1' L2' : List Int} {ee ee' : Int} (h : LP m st ro mm L1 L2 ee) (k : LP m st ro mm' L1' L2' ee') : mm = mm' ∧ L1 = L1' ∧ L2 = L2' ∧ ee = ee' := by
  rcases h with ⟨h0, rfl, rfl, rfl, rfl⟩ | ⟨h0, a, p, hr, h⟩
  · rcases k with ⟨_, rfl, rfl, rfl, rfl⟩ | ⟨k0, _⟩
    · exact ⟨rfl, rfl, rfl, rfl⟩
    · exact absurd k0 h0
  · rcases k with ⟨k0, _⟩ | ⟨_, a', p', kr, k⟩
    · exact absurd h0 k0
    · obtain ⟨rfl, rfl⟩ := hr.uniq kr
      rcases h with ⟨h1, rfl, rfl, rfl, rfl⟩ | ⟨h1, rfl, rfl, rfl, rfl⟩
      · rcases k with ⟨_, rfl, rfl, rfl, rfl⟩ | ⟨k1, _⟩
        · exact ⟨rfl, rfl, rfl, rfl⟩
        · exact absurd h1 k1
      · rcases k with ⟨k1, _⟩ | ⟨_, rfl, rfl, rfl, rfl⟩
        · exact absurd k1 h1
        · exact ⟨rfl, rfl, rfl, rfl⟩
theorem LP.len {m : Int} {st ro : List Int} {mm : Int} {L1 L2 : List Int} {ee : Int} (h : LP m st ro mm L1 L2 ee) : L1.length ≤ 60 ∧ L2.length ≤ 120 := by
  rcases h with ⟨_, _, rfl, rfl, _⟩ | ⟨_, a, p, _, ⟨_, _, rfl, rfl, _⟩ | ⟨h1, _, rfl, rfl, _⟩⟩
  · simp
  · simp
  · rw [redS_len, redR_len]; omega
/-- Two streams that have the same numbers. -/
def Tw (x x' : Las) : Prop := x.m = x'.m ∧ x.st = x'.st ∧ x.ro = x'.ro
theorem errs_tw {x x' y y' : Las} (hx : Tw x x') (hy : Tw y y') : errs [x, y] [x, y] = errs [x', y'] [x', y'] := by
  rw [errs_two, errs_two]
  unfold Las.err
  rw [hx.1, hx.2.1, hx.2.2, hy.1, hy.2.1, hy.2.2]
theorem apart_tw {x x' y y' : Las} (hx : Tw x x') (hy : Tw y y') {v w : Value} (h : (errs [x, y] [x, y] = 0 → ApartQ x.s y.s v) ∧ (errs [x, y] [x, y] ≠ 0 → v = .tuple #[.int .i64 0, .int .i64 (errs [x, y] [x, y])]))
    (k : (errs [x', y'] [x', y'] = 0 → ApartQ x'.s y'.s w) ∧ (errs [x', y'] [x', y'] ≠ 0 → w = .tuple #[.int .i64 0, .int .i64 (errs [x', y'] [x', y'])])) : ∃ n e, v = .tuple #[.int .i64 n, .int .i64 e] ∧ w = .tuple #[.int .i64 n, .int .i64 e] := by
  have he := errs_tw hx hy
  have hxs : x.s = x'.s := by unfold Las.s; rw [hx.2.1, hx.2.2]
  have hys : y.s = y'.s := by unfold Las.s; rw [hy.2.1, hy.2.2]
  by_cases h0 : errs [x, y] [x, y] = 0
  · have h1 := h.1 h0
    have k1 := k.1 (he ▸ h0)
    rw [← hxs, ← hys] at k1
    have := h1.uniq k1
    subst this
    rcases h1 with ⟨n, rfl, _⟩ | ⟨rfl, _⟩
    · exact ⟨_, _, rfl, rfl⟩
    · exact ⟨_, _, rfl, rfl⟩
  · exact ⟨_, _, h.2 h0, by rw [k.2 (he ▸ h0), ← he]⟩
theorem same_tw {x x' y y' : Las} (hx : Tw x x') (hy : Tw y y') {v w : Value} (h : (errs [x, y] [x, y] = 0 → ∃ b, v = .tuple #[.bool b, .int .i64 0] ∧ (b = true ↔ ∀ n, x.s n = y.s n)) ∧ (errs [x, y] [x, y] ≠ 0 → v = .tuple #[.bool false, .int .i64 (errs [x, y] [x, y])]))
    (k : (errs [x', y'] [x', y'] = 0 → ∃ b, w = .tuple #[.bool b, .int .i64 0] ∧ (b = true ↔ ∀ n, x'.s n = y'.s n)) ∧ (errs [x', y'] [x', y'] ≠ 0 → w = .tuple #[.bool false, .int .i64 (errs [x', y'] [x', y'])])) : ∃ b e, v = .tuple #[.bool b, .int .i64 e] ∧ w = .tuple #[.bool b, .int .i64 e] := by
  have he := errs_tw hx hy
  have hxs : x.s = x'.s := by unfold Las.s; rw [hx.2.1, hx.2.2]
  have hys : y.s = y'.s := by unfold Las.s; rw [hy.2.1, hy.2.2]
  by_cases h0 : errs [x, y] [x, y] = 0
  · obtain ⟨b, rfl, h1⟩ := h.1 h0
    obtain ⟨b', rfl, k1⟩ := k.1 (he ▸ h0)
    rw [← hxs, ← hys] at k1
    have : b = b' := by
      cases b with
      | true => exact ((k1.2 (h1.1 rfl))).symm
      | false =>
        cases b' with
        | false => rfl
        | true => exact absurd (h1.2 (k1.1 rfl)) (by decide)
    subst this
    exact ⟨_, _, rfl, rfl⟩
  · exact ⟨_, _, h.2 h0, by rw [k.2 (he ▸ h0), ← he]⟩
end Go.Proofs.Ytdaljohmfnfgiaa
/- Single elements; what results of streams come to. No condition. -/
namespace Go.Proofs.Ytdaljohmfnfgiaa
open Go Go.RowKit Go.Proofs.Ytdaljohmfnfgiaa.Canon
set_option maxRecDepth 20000


/-- What a stream comes to as a result, or the error. -/
def TP (e m : Int) (s : Nat → Int) (mm : Int) (L1 L2 : List Int) (ee : Int) : Prop :=
  (e ≠ 0 ∧ mm = 0 ∧ L1 = [] ∧ L2 = [] ∧ ee = e) ∨
  (e = 0 ∧ ∃ a p, Red s a p ∧ (((120 < p ∨ 60 < a) ∧ mm = 0 ∧ L1 = [] ∧ L2 = [] ∧ ee = 11) ∨ (¬ (120 < p ∨ 60 < a) ∧ mm = m ∧ L1 = redS s a ∧ L2 = redR s a p ∧ ee = 0)))
theorem TP.uniq {e m : Int} {s : Nat → Int} {mm mm' : Int} {L1 L2 L1' L2' : List Int} {ee ee' : Int} (h : TP e m s mm L1 L2 ee) (k : TP e m s mm' L1' L2' ee') : mm = mm' ∧ L1 = L1' ∧ L2 = L2' ∧ ee = ee' := by
  rcases h with ⟨h0, rfl, rfl, rfl, rfl⟩ | ⟨h0, a, p, hr, h⟩
  · rcases k with ⟨_, rfl, rfl, rfl, rfl⟩ | ⟨k0, _⟩
    · exact ⟨rfl, rfl, rfl, rfl⟩
    · exact absurd k0 h0
  · rcases k with ⟨k0, _⟩ | ⟨_, a', p', kr, k⟩
    · exact absurd h0 k0
    · obtain ⟨rfl, rfl⟩ := hr.uniq kr
      rcases h with ⟨h1, rfl, rfl, rfl, rfl⟩ | ⟨h1, rfl, rfl, rfl, rfl⟩
      · rcases k with ⟨_, rfl, rfl, rfl, rfl⟩ | ⟨k1, _⟩
        · exact ⟨rfl, rfl, rfl, rfl⟩
        · exact absurd h1 k1
      · rcases k with ⟨k1, _⟩ | ⟨_, rfl, rfl, rfl, rfl⟩
        · exact absurd k1 h1
        · exact ⟨rfl, rfl, rfl, rfl⟩
theorem TP.len {e m : Int} {s : Nat → Int} {mm : Int} {L1 L2 : List Int} {ee : Int} (h : TP e m s mm L1 L2 ee) : L1.length ≤ 60 ∧ L2.length ≤ 120 := by
  rcases h with ⟨_, _, rfl, rfl, _⟩ | ⟨_, a, p, _, ⟨_, _, rfl, rfl, _⟩ | ⟨h1, _, rfl, rfl, _⟩⟩
  · simp
  · simp
  · rw [redS_len, redR_len]; omega
/-- The same, as it lies in memory: what the program hands back may be written. -/
def Tld (A : AHeap) (e m : Int) (s : Nat → Int) (v : Value) (A1 : AHeap) : Prop :=
  Nx A.next A A1 ∧ ∃ mm L1 L2 ee p1 c1 p2 c2, TP e m s mm L1 L2 ee ∧ v = .tuple #[.agg #[.int .i64 mm, .slice p1 L1.length c1, .slice p2 L2.length c2], .int .i64 ee] ∧ Ints A1 p1 A.next A1.next L1 ∧ Ints A1 p2 A.next A1.next L2 ∧ Wrt A1 p1 A.next A1.next L1.length ∧ Wrt A1 p2 A.next A1.next L2.length ∧ Sl A1 p1 A.next ∧ Sl A1 p2 A.next ∧ L1.length ≤ c1 ∧ L2.length ≤ c2
def TldR (A : AHeap) (e m : Int) (s : Nat → Int) (v : Value) (A1 : AHeap) : Prop :=
  Nx A.next A A1 ∧ ∃ mm L1 L2 ee p1 c1 p2 c2, TP e m s mm L1 L2 ee ∧ v = .tuple #[.agg #[.int .i64 mm, .slice p1 L1.length c1, .slice p2 L2.length c2], .int .i64 ee] ∧ Ints A1 p1 A.next A1.next L1 ∧ Ints A1 p2 A.next A1.next L2
theorem ints_nil' (A : AHeap) (a : Option Addr) (lo hi : Nat) : Ints A a lo hi [] := fun i hi => by simp at hi
theorem tld_err {A A1 : AHeap} {e m : Int} {s : Nat → Int} (he : e ≠ 0) (hx1 : Nx A.next A A1) : Tld A e m s (.tuple #[.agg #[.int .i64 0, .slice none 0 0, .slice none 0 0], .int .i64 e]) A1 :=
  ⟨hx1, 0, [], [], _, none, 0, none, 0, .inl ⟨he, rfl, rfl, rfl, rfl⟩, rfl, ints_nil' _ _ _ _, ints_nil' _ _ _ _, fun h0 => absurd h0 (by simp), fun h0 => absurd h0 (by simp), fun y hy => (by cases hy), fun y hy => (by cases hy), Nat.le_refl _, Nat.le_refl _⟩
theorem tldR_err {A A1 : AHeap} {e m : Int} {s : Nat → Int} (he : e ≠ 0) (hx1 : Nx A.next A A1) : TldR A e m s (.tuple #[.agg #[.int .i64 0, .slice none 0 0, .slice none 0 0], .int .i64 e]) A1 :=
  ⟨hx1, 0, [], [], _, none, 0, none, 0, .inl ⟨he, rfl, rfl, rfl, rfl⟩, rfl, ints_nil' _ _ _ _, ints_nil' _ _ _ _⟩
theorem tld_q {A A1 : AHeap} {m : Int} {s : Nat → Int} {a p : Nat} {v : Value} (hr : Red s a p) (h : LeastQ A m s a p v A1) : Tld A 0 m s v A1 := by
  obtain ⟨hx1, hq⟩ := h
  refine ⟨hx1, ?_⟩
  by_cases hl : 120 < p ∨ 60 < a
  · rw [if_pos hl] at hq
    exact ⟨0, [], [], 11, none, 0, none, 0, .inr ⟨rfl, a, p, hr, .inl ⟨hl, rfl, rfl, rfl, rfl⟩⟩, hq, ints_nil' _ _ _ _, ints_nil' _ _ _ _, fun h0 => absurd h0 (by simp), fun h0 => absurd h0 (by simp), fun y hy => (by cases hy), fun y hy => (by cases hy), Nat.le_refl _, Nat.le_refl _⟩
  · rw [if_neg hl] at hq
    obtain ⟨xa, xr, rfl, g1, g2⟩ := hq
    exact ⟨m, _, _, 0, xa, a, xr, p, .inr ⟨rfl, a, p, hr, .inr ⟨hl, rfl, rfl, rfl, rfl⟩⟩, by rw [redS_len, redR_len], g1.ints, g2.ints, g1.wrt, g2.wrt, g1.sl, g2.sl, by rw [redS_len]; exact Nat.le_refl _, by rw [redR_len]; exact Nat.le_refl _⟩
theorem tldR_q {A A1 : AHeap} {m : Int} {s : Nat → Int} {a p : Nat} {v : Value} (hr : Red s a p) (h : LeastR A m s a p v A1) : TldR A 0 m s v A1 := by
  obtain ⟨hx1, hq⟩ := h
  refine ⟨hx1, ?_⟩
  by_cases hl : 120 < p ∨ 60 < a
  · rw [if_pos hl] at hq
    exact ⟨0, [], [], 11, none, 0, none, 0, .inr ⟨rfl, a, p, hr, .inl ⟨hl, rfl, rfl, rfl, rfl⟩⟩, hq, ints_nil' _ _ _ _, ints_nil' _ _ _ _⟩
  · rw [if_neg hl] at hq
    obtain ⟨xa, xc, xr, xd, rfl, g1, g2⟩ := hq
    exact ⟨m, _, _, 0, xa, xc, xr, xd, .inr ⟨rfl, a, p, hr, .inr ⟨hl, rfl, rfl, rfl, rfl⟩⟩, by rw [redS_len, redR_len], g1, g2⟩
/-- A result is put into the variable of the results; nothing else is written. -/
theorem Tld.put {A B D : AHeap} {e m : Int} {s : Nat → Int} {mm : Int} {L1 L2 : List Int} {ee : Int} {p1 p2 : Option Addr} {c1 c2 lo b : Nat} (hlo : lo ≤ A.next) (hb : b < A.next) (hlb : lo ≤ b) (hT : TP e m s mm L1 L2 ee) (i1 : Ints B p1 A.next B.next L1) (i2 : Ints B p2 A.next B.next L2) (hn : D.next = B.next) (hoff : ∀ b', b' ≠ b → Canon.look D.objs b' = Canon.look B.objs b') :
    Ints D p1 A.next D.next L1 ∧ Ints D p2 A.next D.next L2 := by
  have h : ∀ b', A.next ≤ b' → Canon.look B.objs b' = none ∨ Canon.look D.objs b' = Canon.look B.objs b' := fun b' hb' => .inr (hoff _ (by omega))
  exact ⟨i1.ext h (Nat.le_of_eq hn.symm), i2.ext h (Nat.le_of_eq hn.symm)⟩
theorem Wrt.off {B D : AHeap} {a : Option Addr} {lo n b : Nat} (h : Wrt B a lo B.next n) (hn : D.next = B.next) (hb : b < lo) (hoff : ∀ b', b' ≠ b → Canon.look D.objs b' = Canon.look B.objs b') : Wrt D a lo D.next n := fun hpos => by
  obtain ⟨b', o, c, t, f, g, e, h1, h2, h3, h4, h5⟩ := h hpos
  exact ⟨b', o, c, t, f, g, e, h1, ⟨h2.1, by rw [hn]; exact h2.2⟩, by rw [hoff _ (by omega)]; exact h3, h4, h5⟩

end Go.Proofs.Ytdaljohmfnfgiaa
/- The reference's first elements, Take and Tail. No condition. -/
namespace Go.Proofs.Ytdaljohmfnfgiaa
open Go Go.RowKit Go.Proofs.Ytdaljohmfnfgiaa.Canon
set_option maxRecDepth 20000


end Go.Proofs.Ytdaljohmfnfgiaa
/- So many elements of a stream, wide; the program's Take. No condition. -/
namespace Go.Proofs.Ytdaljohmfnfgiaa
open Go Go.RowKit Go.Proofs.Ytdaljohmfnfgiaa.Canon
set_option maxRecDepth 20000


theorem Wrt.mono {A : AHeap} {a : Option Addr} {lo lo' hi n : Nat} (h : Wrt A a lo hi n) (hl : lo' ≤ lo) : Wrt A a lo' hi n := fun hpos => by
  obtain ⟨b, o, c, t, f, g, e, h1, h2, h3⟩ := h hpos
  exact ⟨b, o, c, t, f, g, e, h1, ⟨Nat.le_trans hl h2.1, h2.2⟩, h3⟩
end Go.Proofs.Ytdaljohmfnfgiaa
/- The rest of a stream. No condition. -/
namespace Go.Proofs.Ytdaljohmfnfgiaa
open Go Go.RowKit Go.Proofs.Ytdaljohmfnfgiaa.Canon
set_option maxRecDepth 20000


/-- What comes back is put into the result's variable. -/
theorem Tld.fin {A A4 A5 : AHeap} {e m : Int} {s : Nat → Int} {w : Value} {b : Nat} (hx04 : Nx A.next A A4) (hb : A.next ≤ b) (hb4 : b < A4.next) (hl : Canon.look A4.objs b = some ⟨.cells #[.int .i64 0, .slice none 0 0, .slice none 0 0] 24, false, 0⟩) (h : Tld A4 e m s w A5) :
    ∃ mm n1 n2 ee p1 c1 p2 c2, w = .tuple #[.agg #[.int .i64 mm, .slice p1 n1 c1, .slice p2 n2 c2], .int .i64 ee] ∧ ∃ D, sts A5 b 0 [.int .i64 mm, .slice p1 n1 c1, .slice p2 n2 c2] = some D ∧ cl D b 0 = some (.int .i64 mm) ∧ cl D b 1 = some (.slice p1 n1 c1) ∧ cl D b 2 = some (.slice p2 n2 c2) ∧ (∀ b', b' ≠ b → Canon.look D.objs b' = Canon.look A5.objs b') ∧ Tld A e m s (.tuple #[.agg #[.int .i64 mm, .slice p1 n1 c1, .slice p2 n2 c2], .int .i64 ee]) D := by
  obtain ⟨hx5, mm, L1, L2, ee, p1, c1, p2, c2, hT, rfl, i1, i2, w1, w2, s1, s2, k1, k2⟩ := h
  obtain ⟨D, q1, q2, q3, q4, g0, g1, g2⟩ := res_put hl hb4 hx5 (v0 := .int .i64 mm) (v1 := .slice p1 L1.length c1) (v2 := .slice p2 L2.length c2) rfl
  obtain ⟨j1, j2⟩ := Tld.put (c1 := c1) (c2 := c2) (D := D) hx04.next hb4 hb hT i1 i2 q2 q4
  refine ⟨mm, L1.length, L2.length, ee, p1, c1, p2, c2, rfl, D, q1, g0, g1, g2, q4, ⟨by have := hx04.next; have := hx5.next; omega, q3, fun b' hb' => by rw [q4 _ (by omega), hx5.keep _ (by have := hx04.next; omega), hx04.keep _ hb']⟩, mm, L1, L2, ee, p1, c1, p2, c2, hT, rfl, j1.mono hx04.next (Nat.le_refl _), j2.mono hx04.next (Nat.le_refl _), (w1.off q2 hb4 q4).mono hx04.next, (w2.off q2 hb4 q4).mono hx04.next, (s1.ext fun b' hb' => .inr (q4 b' (by omega))).mono hx04.next, (s2.ext fun b' hb' => .inr (q4 b' (by omega))).mono hx04.next, k1, k2⟩
theorem TldR.fin {A A4 A5 : AHeap} {e m : Int} {s : Nat → Int} {w : Value} {b : Nat} (hx04 : Nx A.next A A4) (hb : A.next ≤ b) (hb4 : b < A4.next) (hl : Canon.look A4.objs b = some ⟨.cells #[.int .i64 0, .slice none 0 0, .slice none 0 0] 24, false, 0⟩) (h : TldR A4 e m s w A5) :
    ∃ mm n1 n2 ee p1 c1 p2 c2, w = .tuple #[.agg #[.int .i64 mm, .slice p1 n1 c1, .slice p2 n2 c2], .int .i64 ee] ∧ ∃ D, sts A5 b 0 [.int .i64 mm, .slice p1 n1 c1, .slice p2 n2 c2] = some D ∧ cl D b 0 = some (.int .i64 mm) ∧ cl D b 1 = some (.slice p1 n1 c1) ∧ cl D b 2 = some (.slice p2 n2 c2) ∧ (∀ b', b' ≠ b → Canon.look D.objs b' = Canon.look A5.objs b') ∧ TldR A e m s (.tuple #[.agg #[.int .i64 mm, .slice p1 n1 c1, .slice p2 n2 c2], .int .i64 ee]) D := by
  obtain ⟨hx5, mm, L1, L2, ee, p1, c1, p2, c2, hT, rfl, i1, i2⟩ := h
  obtain ⟨D, q1, q2, q3, q4, g0, g1, g2⟩ := res_put hl hb4 hx5 (v0 := .int .i64 mm) (v1 := .slice p1 L1.length c1) (v2 := .slice p2 L2.length c2) rfl
  obtain ⟨j1, j2⟩ := Tld.put (c1 := c1) (c2 := c2) (D := D) hx04.next hb4 hb hT i1 i2 q2 q4
  refine ⟨mm, L1.length, L2.length, ee, p1, c1, p2, c2, rfl, D, q1, g0, g1, g2, q4, ⟨by have := hx04.next; have := hx5.next; omega, q3, fun b' hb' => by rw [q4 _ (by omega), hx5.keep _ (by have := hx04.next; omega), hx04.keep _ hb']⟩, mm, L1, L2, ee, p1, c1, p2, c2, hT, rfl, j1.mono hx04.next (Nat.le_refl _), j2.mono hx04.next (Nat.le_refl _)⟩
/-- An error is put there. -/
theorem err_fin {A A4 : AHeap} {b : Nat} (hx04 : Nx A.next A A4) (hb : A.next ≤ b) (hb4 : b < A4.next) (hl : Canon.look A4.objs b = some ⟨.cells #[.int .i64 0, .slice none 0 0, .slice none 0 0] 24, false, 0⟩) :
    ∃ D, sts A4 b 0 [.int .i64 0, .slice none 0 0, .slice none 0 0] = some D ∧ cl D b 0 = some (.int .i64 0) ∧ cl D b 1 = some (.slice none 0 0) ∧ cl D b 2 = some (.slice none 0 0) ∧ Nx A.next A D := by
  obtain ⟨D, q1, q2, q3, q4, g0, g1, g2⟩ := res_put hl hb4 (Nx.refl hx04.wf A4.next) (v0 := .int .i64 0) (v1 := .slice none 0 0) (v2 := .slice none 0 0) rfl
  exact ⟨D, q1, g0, g1, g2, ⟨by have := hx04.next; omega, q3, fun b' hb' => by rw [q4 _ (by omega), hx04.keep _ hb']⟩⟩
theorem mxd_nat (a b : Nat) : max (a : Int) (b : Int) = ((max a b : Nat) : Int) := by omega
end Go.Proofs.Ytdaljohmfnfgiaa
/- The reference's rest of a stream. No condition. -/
namespace Go.Proofs.Ytdaljohmfnfgiaa
open Go Go.RowKit Go.Proofs.Ytdaljohmfnfgiaa.Canon
set_option maxRecDepth 20000


end Go.Proofs.Ytdaljohmfnfgiaa
/- A stream with one more number. No condition. -/
namespace Go.Proofs.Ytdaljohmfnfgiaa
open Go Go.RowKit Go.Proofs.Ytdaljohmfnfgiaa.Canon
set_option maxRecDepth 20000


end Go.Proofs.Ytdaljohmfnfgiaa
/- Every so many elements. No condition. -/
namespace Go.Proofs.Ytdaljohmfnfgiaa
open Go Go.RowKit Go.Proofs.Ytdaljohmfnfgiaa.Canon
set_option maxRecDepth 20000


theorem redS_snoc (E : Nat → Int) (i : Nat) : redS E i ++ [E i] = redS E (i + 1) := by simp [redS, List.range_succ]
theorem redR_snoc (E : Nat → Int) (a i : Nat) : redR E a i ++ [E (a + i)] = redR E a (i + 1) := by simp [redR, List.range_succ]
end Go.Proofs.Ytdaljohmfnfgiaa
/- Every so many elements, by the reference. No condition. -/
namespace Go.Proofs.Ytdaljohmfnfgiaa
open Go Go.RowKit Go.Proofs.Ytdaljohmfnfgiaa.Canon
set_option maxRecDepth 20000

end Go.Proofs.Ytdaljohmfnfgiaa
/- LassoChecks: what is looked at. No condition. -/
namespace Go.Proofs.Ytdaljohmfnfgiaa
open Go Go.RowKit Go.Proofs.Ytdaljohmfnfgiaa.Canon
set_option maxRecDepth 20000

/-- A stream, and the variable that has it. -/
structure Has (B : AHeap) (b : Nat) (x : Las) : Prop where
  c0 : cl B b 0 = some (.int .i64 x.m)
  c1 : cl B b 1 = some (.slice x.sa x.st.length x.sc)
  c2 : cl B b 2 = some (.slice x.ra x.ro.length x.rc)
  ok : x.ok B
  lt : b < B.next
  ls : x.st.length ≤ 70
  lr : x.ro.length ≤ 130
  cs : x.st.length ≤ x.sc
  cr : x.ro.length ≤ x.rc
  s1 : 0 < x.st.length → Sl B x.sa 0
  s2 : 0 < x.ro.length → Sl B x.ra 0
theorem Has.nx {B C : AHeap} {b : Nat} {x : Las} (h : Has B b x) (hw : WF B) (k : Nx B.next B C) : Has C b x :=
  { c0 := (k.cl h.lt 0).trans h.c0, c1 := (k.cl h.lt 1).trans h.c1, c2 := (k.cl h.lt 2).trans h.c2, ok := h.ok.nx k, lt := Nat.lt_of_lt_of_le h.lt k.next, ls := h.ls, lr := h.lr, cs := h.cs, cr := h.cr, s1 := fun q => (h.s1 q).nx hw k, s2 := fun q => (h.s2 q).nx hw k }

end Go.Proofs.Ytdaljohmfnfgiaa
/- LassoChecks: both sides tell the same. No condition. -/
namespace Go.Proofs.Ytdaljohmfnfgiaa
open Go Go.RowKit Go.Proofs.Ytdaljohmfnfgiaa.Canon
set_option maxRecDepth 20000

def cS3 (e : Int) : Canon.Spec := fun g _ A v A1 => match g with
  | 26 => v = .bool true ∧ Nx A.next A A1
  | _ => v = .int .i64 e ∧ Nx A.next A A1

/-- What Same and Apart come to. -/
def SameP (x y : Las) (v : Value) : Prop := (errs [x, y] [x, y] = 0 → ∃ b, v = .tuple #[.bool b, .int .i64 0] ∧ (b = true ↔ ∀ n, x.s n = y.s n)) ∧ (errs [x, y] [x, y] ≠ 0 → v = .tuple #[.bool false, .int .i64 (errs [x, y] [x, y])])
def ApartP (x y : Las) (v : Value) : Prop := (errs [x, y] [x, y] = 0 → ApartQ x.s y.s v) ∧ (errs [x, y] [x, y] ≠ 0 → v = .tuple #[.int .i64 0, .int .i64 (errs [x, y] [x, y])])
theorem SameP.eq {x x' y y' : Las} (tx : Tw x x') (ty : Tw y y') {v w : Value} (h : SameP x y v) (k : SameP x' y' w) : w = v := by
  obtain ⟨b, e, h1, h2⟩ := same_tw tx ty h k
  rw [h1, h2]
theorem ApartP.eq {x x' y y' : Las} (tx : Tw x x') (ty : Tw y y') {v w : Value} (h : ApartP x y v) (k : ApartP x' y' w) : w = v := by
  obtain ⟨b, e, h1, h2⟩ := apart_tw tx ty h k
  rw [h1, h2]
theorem Wrt.nx {A B : AHeap} {a : Option Addr} {lo hi n : Nat} (h : Wrt A a lo hi n) (hw : WF A) (k : Nx A.next A B) : Wrt B a lo B.next n := fun hpos => by
  obtain ⟨b, o, c, t, f, g, e, h1, h2, h3, h4, h5⟩ := h hpos
  have hb := hw _ _ h3
  exact ⟨b, o, c, t, f, g, e, h1, ⟨h2.1, Nat.lt_of_lt_of_le hb k.next⟩, by rw [k.keep _ hb]; exact h3, h4, h5⟩
theorem same_true {A : AHeap} (hw : WF A) {x x' : Las} (hx : x.ok A) (hx' : x'.ok A) (t : Tw x' x) : Con Try.prog 26 [x'.v, x.v] A (fun v A1 => v = .bool true ∧ Nx A.next A A1) := by
  obtain ⟨a1, a2, a3, a4⟩ := hx
  obtain ⟨b1, b2, b3, b4⟩ := hx'
  refine Con.mono (same_lasso hw b1 b2 a1 a2 b3 b4 a3 a4) fun v A1 h => ⟨?_, h.2⟩
  rw [h.1, t.1, t.2.1, t.2.2]
  simp
end Go.Proofs.Ytdaljohmfnfgiaa
/- LassoChecks returns true. No condition. -/
namespace Go.Proofs.Ytdaljohmfnfgiaa
open Go Go.RowKit Go.Proofs.Ytdaljohmfnfgiaa.Canon
set_option maxRecDepth 20000

theorem sl_in {W : World} {z : Nat} {A : AHeap} (hA : In W z A) {a : Option Addr} {l : List Int} (h : Ints A a 0 A.next l) (hpos : 0 < l.length) : Sl A a 0 := fun x hx => by
  obtain ⟨b, o, e, _, _, hc⟩ := h 0 hpos
  rw [hx] at e
  cases e
  obtain ⟨_, c, t, f, g, zz, hlk, _, _⟩ := AHeap.cell_eq hc
  have hlk' : Canon.look A.objs b = some ⟨.cells c t f, g, zz⟩ := hlk
  have hl2 := hlk'
  rw [hA.look'] at hl2
  split at hl2
  · obtain ⟨c', t', f', _, e2⟩ := roOf_some hl2
    cases e2
    exact ⟨rfl, Nat.zero_le _, _, hlk', .inl rfl⟩
  · cases hl2
end Go.Proofs.Ytdaljohmfnfgiaa
/- LassoParts: results side by side. No condition. -/
namespace Go.Proofs.Ytdaljohmfnfgiaa
open Go Go.RowKit Go.Proofs.Ytdaljohmfnfgiaa.Canon
set_option maxRecDepth 20000

/-- The same but for some blocks. -/
structure Off (lo hi : Nat) (A B : AHeap) : Prop where
  next : A.next ≤ B.next
  wf : WF B
  keep : ∀ b, b < A.next → (b < lo ∨ hi ≤ b) → Canon.look B.objs b = Canon.look A.objs b
theorem Wrt.stay {A B : AHeap} {a : Option Addr} {lo hi n : Nat} (h : Wrt A a lo hi n) (k : ∀ b, lo ≤ b → b < hi → Canon.look B.objs b = Canon.look A.objs b) : Wrt B a lo hi n := fun hpos => by
  obtain ⟨b, o, c, t, f, g, e, h1, h2, h3, h4, h5⟩ := h hpos
  exact ⟨b, o, c, t, f, g, e, h1, h2, by rw [k b h2.1 h2.2]; exact h3, h4, h5⟩
theorem spoil_off {A : AHeap} (hw : WF A) {m : Int} {sa ra : Option Addr} {sn sc rn rc lo hi : Nat} (hhi : hi ≤ A.next) (h1 : Wrt A sa lo hi sn) (h2 : Wrt A ra lo hi rn) (hrn : rn < 4611686018427387904) :
    Con Try.prog 27 [.agg #[.int .i64 m, .slice sa sn sc, .slice ra rn rc]] A (fun _ A1 => Off lo hi A A1) := by
  refine con_of_rn hc Try.func27 rfl (Nat.le_of_ble_eq_true rfl) ?_
  obtain ⟨A1, e1, hx1, hn1, b0, b1, b2⟩ := box3 hw (.int .i64 m) (.slice sa sn sc) (.slice ra rn rc) 24
  have k1 : Wrt A1 sa lo hi sn := fun hp => by
    obtain ⟨b, o, c, t, f, g, e, q1, q2, q3, q4, q5⟩ := h1 hp
    exact ⟨b, o, c, t, f, g, e, q1, q2, by rw [hx1.keep _ (hw _ _ q3)]; exact q3, q4, q5⟩
  have k2 : Wrt A1 ra lo hi rn := fun hp => by
    obtain ⟨b, o, c, t, f, g, e, q1, q2, q3, q4, q5⟩ := h2 hp
    exact ⟨b, o, c, t, f, g, e, q1, q2, by rw [hx1.keep _ (hw _ _ q3)]; exact q3, q4, q5⟩
  rw [s_in1]
  (repeat (first | refine Rn.seq hc ?_ | refine Rn.skip hc ?_ | refine Rn.block hc ?_ | refine Rn.inBlock hc ?_ | refine Rn.scope hc ?_ | refine Rn.inScope hc ?_))
  refine Rn.reg hc rfl ?_
  simp only [sev_tmp, sg_eq, Nat.reduceLT, gd, want_free, rops, fx, Option.some.injEq, exists_eq_left', Value.cells, show Try.f27.ntmps = 16 from rfl, e1]
  (repeat (first | refine Rn.seq hc ?_ | refine Rn.skip hc ?_ | refine Rn.block hc ?_ | refine Rn.inBlock hc ?_ | refine Rn.scope hc ?_ | refine Rn.inScope hc ?_))
  refine Rn.region hc fun K hK => ?_
  refine Wo.run hc 2 rfl rfl rfl ?_
  simp (maxSteps := 2000000) only [List.drop_zero, List.take_succ_cons, List.take_zero, sev_tmp, sg_eq, sp_n, Nat.reduceLT, gd, want_free, rops, fx, ld, fad, adr_p, Nat.zero_add, Option.some.injEq, exists_eq_left', tk22, fo24_1, b1]
  refine Wo.clear (x := 4) (c := sc) (by rfl) (by rfl) (by rfl) hx1.wf k1 (by simp only [sg_eq, sp_n, Nat.reduceLT]) fun B hB => ?_
  refine Wo.done hc rfl (hK _ _ ?_)
  clear hK
  (repeat (first | refine Rn.seq hc ?_ | refine Rn.skip hc ?_ | refine Rn.block hc ?_ | refine Rn.inBlock hc ?_ | refine Rn.scope hc ?_ | refine Rn.inScope hc ?_))
  have c2 : cl B A.next 2 = some (.slice ra rn rc) := (cl_look (hB.keep _ (.inr hhi))).trans b2
  refine Rn.reg hc rfl ?_
  simp only [sev_tmp, sev_const, sg_eq, sg_ne, sp_n, sp_none, Nat.reduceLT, ne_eq, Nat.reduceEqDiff, not_false_eq_true, gd, want_free, rops, fx, ld, fad, lng, adr_p, Nat.zero_add, Option.some.injEq, exists_eq_left', tk22, fo24_2, un22, c2]
  (repeat (first | refine Rn.seq hc ?_ | refine Rn.skip hc ?_ | refine Rn.block hc ?_ | refine Rn.inBlock hc ?_ | refine Rn.scope hc ?_ | refine Rn.inScope hc ?_))
  refine Rn.loopI hc (I := fun k s M => ∃ i, i ≤ rn ∧ k = rn - i ∧ Szs lo hi A1 M ∧ s.n = 16 ∧ sget s 1 = .pointer (some ⟨A.next, 0, none⟩) ∧ sget s 7 = .int .i64 (rn : Int) ∧ sget s 8 = .int .i64 (i : Int))
    (n := rn) ⟨0, by omega, rfl, hB, by simp only [sp_n], by simp only [sg_eq, sg_ne, sp_n, Nat.reduceLT, ne_eq, Nat.reduceEqDiff, not_false_eq_true], by simp only [sg_eq, sg_ne, sp_n, Nat.reduceLT, ne_eq, Nat.reduceEqDiff, not_false_eq_true], by simp only [sg_eq, sp_n, Nat.reduceLT]; rfl⟩ ?_
  rintro k s M ⟨i, hil, rfl, hM, hn, s1, s7, s8⟩ ih
  have c2 : cl M A.next 2 = some (.slice ra rn rc) := (cl_look (hM.keep _ (.inr hhi))).trans b2
  (repeat (first | refine Rn.seq hc ?_ | refine Rn.skip hc ?_ | refine Rn.block hc ?_ | refine Rn.inBlock hc ?_ | refine Rn.scope hc ?_ | refine Rn.inScope hc ?_))
  by_cases hlt : i < rn
  · have hd : decide ((i : Int) < (rn : Int)) = true := decide_eq_true (by omega)
    refine Rn.reg hc rfl ?_
    simp only [sev_tmp, gd, want_free, rops, fx, bin_lss, Option.some.injEq, exists_eq_left', s7, s8, hd]
    (repeat (first | refine Rn.seq hc ?_ | refine Rn.skip hc ?_ | refine Rn.block hc ?_ | refine Rn.inBlock hc ?_ | refine Rn.scope hc ?_ | refine Rn.inScope hc ?_))
    refine Rn.condE hc rfl ?_
    simp only [sev_tmp, sg_eq, Nat.reduceLT, Value.bool.injEq, exists_eq_left', hn]
    (repeat (first | refine Rn.seq hc ?_ | refine Rn.skip hc ?_ | refine Rn.block hc ?_ | refine Rn.inBlock hc ?_ | refine Rn.scope hc ?_ | refine Rn.inScope hc ?_))
    refine Rn.reg hc rfl ?_
    simp only [sev_tmp, sg_eq, sg_ne, sp_n, Nat.reduceLT, ne_eq, Nat.reduceEqDiff, not_false_eq_true, gd, want_free, rops, fx, Option.some.injEq, exists_eq_left', hn, s8]
    (repeat (first | refine Rn.seq hc ?_ | refine Rn.skip hc ?_ | refine Rn.block hc ?_ | refine Rn.inBlock hc ?_ | refine Rn.scope hc ?_ | refine Rn.inScope hc ?_))
    obtain ⟨b, o, c, t, f, g, e, rfl, q2, q3, q4, q5⟩ := (k2.szs hM) (by omega)
    obtain ⟨M2, u1, u2⟩ := st1_upd (o := o + i) (v := .int .i64 (-7)) q3 q4 (by omega) rfl
    have hM2 := hM.trans (Szs.of_upd hM.wf q3 q2 u2 (by simp))
    refine Rn.reg hc rfl ?_
    simp only [sev_tmp, sev_const, sg_eq, sg_ne, sp_n, sp_none, Nat.reduceLT, ne_eq, Nat.reduceEqDiff, not_false_eq_true, gd, want_free, rops, fx, ld, str, fad, idx, adr_p, Nat.zero_add, Option.some.injEq, exists_eq_left', Nat.mul_one, tk3, tk22, fo24_2, eo22, hn, s1, c2, nlen_nat hlt, u1]
    (repeat (first | refine Rn.seq hc ?_ | refine Rn.skip hc ?_ | refine Rn.block hc ?_ | refine Rn.inBlock hc ?_ | refine Rn.scope hc ?_ | refine Rn.inScope hc ?_))
    refine Rn.reg hc rfl ?_
    simp only [sev_tmp, sev_const, sg_eq, sg_ne, sp_n, Nat.reduceLT, ne_eq, Nat.reduceEqDiff, not_false_eq_true, gd, want_free, rops, fx, bin_add, Option.some.injEq, exists_eq_left', hn, s8, wrap_succ (show i < 9223372036854775807 by omega)]
    (repeat (first | refine Rn.seq hc ?_ | refine Rn.skip hc ?_ | refine Rn.block hc ?_ | refine Rn.inBlock hc ?_ | refine Rn.scope hc ?_ | refine Rn.inScope hc ?_))
    exact ih _ _ _ (by omega) ⟨i + 1, by omega, rfl, hM2, by simp only [sp_n, hn], by simp only [sg_ne, ne_eq, Nat.reduceEqDiff, not_false_eq_true, s1], by simp only [sg_ne, ne_eq, Nat.reduceEqDiff, not_false_eq_true, s7], by simp only [sg_eq, sp_n, Nat.reduceLT, hn]⟩
  · have hd : decide ((i : Int) < (rn : Int)) = false := decide_eq_false (by omega)
    clear ih
    refine Rn.reg hc rfl ?_
    simp only [sev_tmp, gd, want_free, rops, fx, bin_lss, Option.some.injEq, exists_eq_left', s7, s8, hd]
    (repeat (first | refine Rn.seq hc ?_ | refine Rn.skip hc ?_ | refine Rn.block hc ?_ | refine Rn.inBlock hc ?_ | refine Rn.scope hc ?_ | refine Rn.inScope hc ?_))
    refine Rn.condE hc rfl ?_
    simp only [sev_tmp, sg_eq, Nat.reduceLT, Value.bool.injEq, exists_eq_left', hn]
    (repeat (first | refine Rn.seq hc ?_ | refine Rn.skip hc ?_ | refine Rn.block hc ?_ | refine Rn.inBlock hc ?_ | refine Rn.scope hc ?_ | refine Rn.inScope hc ?_))
    refine Rn.exit hc rfl ?_
    (repeat (first | refine Rn.seq hc ?_ | refine Rn.skip hc ?_ | refine Rn.block hc ?_ | refine Rn.inBlock hc ?_ | refine Rn.scope hc ?_ | refine Rn.inScope hc ?_))
    refine Rn.fall (endQ_none rfl (.inl rfl) ⟨by have := hM.next; omega, hM.wf, fun b hb hb2 => ?_⟩)
    rw [hM.keep _ hb2]
    exact hx1.keep _ hb

/-- Two results that are the same, and the variables that have them; the first may be written. -/
structure Pr (lo hi : Nat) (D : AHeap) (b b' : Nat) (y y' : Las) : Prop where
  c0 : cl D b 0 = some (.int .i64 y.m)
  c1 : cl D b 1 = some (.slice y.sa y.st.length y.sc)
  c2 : cl D b 2 = some (.slice y.ra y.ro.length y.rc)
  d0 : cl D b' 0 = some (.int .i64 y'.m)
  d1 : cl D b' 1 = some (.slice y'.sa y'.st.length y'.sc)
  d2 : cl D b' 2 = some (.slice y'.ra y'.ro.length y'.rc)
  ok : y.ok D
  ok' : y'.ok D
  lt : b < D.next
  lt' : b' < D.next
  hb : hi ≤ b
  tw : Tw y y'
  w1 : Wrt D y.sa lo hi y.st.length
  w2 : Wrt D y.ra lo hi y.ro.length
theorem Pr.nx {lo hi : Nat} {D E : AHeap} {b b' : Nat} {y y' : Las} (h : Pr lo hi D b b' y y') (k : Nx D.next D E) : Pr lo hi E b b' y y' :=
  { c0 := (k.cl h.lt 0).trans h.c0, c1 := (k.cl h.lt 1).trans h.c1, c2 := (k.cl h.lt 2).trans h.c2, d0 := (k.cl h.lt' 0).trans h.d0, d1 := (k.cl h.lt' 1).trans h.d1, d2 := (k.cl h.lt' 2).trans h.d2, ok := h.ok.nx k, ok' := h.ok'.nx k, lt := Nat.lt_of_lt_of_le h.lt k.next, lt' := Nat.lt_of_lt_of_le h.lt' k.next, hb := h.hb, tw := h.tw,
    w1 := h.w1.stay fun b'' _ h2 => k.keep _ (by have := h.hb; have := h.lt; omega), w2 := h.w2.stay fun b'' _ h2 => k.keep _ (by have := h.hb; have := h.lt; omega) }
theorem pair_of {C D1 D2 D3 : AHeap} {e m : Int} {s : Nat → Int} {v' : Value} {mm ee : Int} {L1 L2 : List Int} {p1 p2 : Option Addr} {c1 c2 : Nat} (hD1 : Nx C.next C D1) (hT : TP e m s mm L1 L2 ee)
    (i1 : Ints D1 p1 C.next D1.next L1) (i2 : Ints D1 p2 C.next D1.next L2) (w1 : Wrt D1 p1 C.next D1.next L1.length) (w2 : Wrt D1 p2 C.next D1.next L2.length)
    (hx2 : Nx D1.next D1 D2) (hn2 : D2.next = D1.next + 1) (e0 : cl D2 D1.next 0 = some (.int .i64 mm)) (e1 : cl D2 D1.next 1 = some (.slice p1 L1.length c1)) (e2 : cl D2 D1.next 2 = some (.slice p2 L2.length c2))
    (hR : TldR D2 e m s v' D3) :
    ∃ p3 c3 p4 c4, v' = .tuple #[.agg #[.int .i64 mm, .slice p3 L1.length c3, .slice p4 L2.length c4], .int .i64 ee] ∧ Nx D2.next D2 D3 ∧
      ∀ D4, Nx D3.next D3 D4 → D4.next = D3.next + 1 → cl D4 D3.next 0 = some (.int .i64 mm) → cl D4 D3.next 1 = some (.slice p3 L1.length c3) → cl D4 D3.next 2 = some (.slice p4 L2.length c4) →
        Pr C.next D1.next D4 D1.next D3.next ⟨mm, p1, c1, L1, p2, c2, L2⟩ ⟨mm, p3, c3, L1, p4, c4, L2⟩ := by
  obtain ⟨hD3, mm', L1', L2', ee', p3, c3, p4, c4, hT', rfl, i3, i4⟩ := hR
  obtain ⟨rfl, rfl, rfl, rfl⟩ := hT.uniq hT'
  obtain ⟨hl1, hl2⟩ := hT.len
  refine ⟨p3, c3, p4, c4, rfl, hD3, fun D4 hx4 hn4 f0 f1 f2 => ?_⟩
  have h24 : Nx D2.next D2 D4 := hD3.trans (hx4.le hD3.next)
  have h14 : Nx D1.next D1 D4 := hx2.trans (h24.le hx2.next)
  have n1 := h24.next
  have n2 := hD3.next
  have n3 := hD1.next
  have n12 : D1.next < D2.next := by omega
  exact
    { c0 := (h24.cl n12 0).trans e0, c1 := (h24.cl n12 1).trans e1, c2 := (h24.cl n12 2).trans e2, d0 := f0, d1 := f1, d2 := f2,
      ok := ⟨(i1.nx h14 (Nat.le_refl _)).mono (Nat.zero_le _) h14.next, (i2.nx h14 (Nat.le_refl _)).mono (Nat.zero_le _) h14.next, show L1.length < _ by omega, show L2.length < _ by omega⟩,
      ok' := ⟨(i3.nx hx4 (Nat.le_refl _)).mono (Nat.zero_le _) hx4.next, (i4.nx hx4 (Nat.le_refl _)).mono (Nat.zero_le _) hx4.next, show L1.length < _ by omega, show L2.length < _ by omega⟩,
      lt := show D1.next < D4.next by omega, lt' := show D3.next < D4.next by omega, hb := Nat.le_refl _, tw := ⟨rfl, rfl, rfl⟩,
      w1 := w1.stay fun b _ h => h14.keep _ h, w2 := w2.stay fun b _ h => h14.keep _ h }
end Go.Proofs.Ytdaljohmfnfgiaa
/- Streams that are woven: their numbers. No condition. -/
namespace Go.Proofs.Ytdaljohmfnfgiaa
open Go Go.RowKit Go.Proofs.Ytdaljohmfnfgiaa.Canon

theorem lcmN_eq (a b : Nat) : lcmN a b = Nat.lcm a b := by
  unfold lcmN Nat.lcm
  rw [Nat.div_mul_right_comm (Nat.gcd_dvd_left a b)]
/-- The least common multiple, and the greatest, of the first ones. -/
def lcmF (f : Nat → Nat) : Nat → Nat
  | 0 => 1
  | i + 1 => lcmN (lcmF f i) (f i)
def maxF (f : Nat → Nat) : Nat → Nat
  | 0 => 0
  | i + 1 => max (maxF f i) (f i)
theorem lcmF_pos {f : Nat → Nat} {k : Nat} (h : ∀ i, i < k → 0 < f i) : ∀ {i}, i ≤ k → 0 < lcmF f i
  | 0, _ => Nat.one_pos
  | i + 1, hi => by
    rw [lcmF, lcmN_eq]
    exact Nat.lcm_pos (lcmF_pos h (by omega)) (h i (by omega))
theorem lcmF_dvd {f : Nat → Nat} : ∀ {i j : Nat}, j < i → f j ∣ lcmF f i
  | 0, _, h => by omega
  | i + 1, j, h => by
    rw [lcmF, lcmN_eq]
    by_cases hj : j = i
    · subst hj; exact Nat.dvd_lcm_right _ _
    · exact Nat.dvd_trans (lcmF_dvd (by omega)) (Nat.dvd_lcm_left _ _)
theorem lcmF_up {f : Nat → Nat} {i : Nat} : ∀ {d : Nat}, lcmF f i ∣ lcmF f (i + d)
  | 0 => Nat.dvd_refl _
  | d + 1 => by
    show lcmF f i ∣ lcmN (lcmF f (i + d)) (f (i + d))
    rw [lcmN_eq]
    exact Nat.dvd_trans lcmF_up (Nat.dvd_lcm_left _ _)
theorem lcmF_mono {f : Nat → Nat} {k i j : Nat} (h : ∀ i, i < k → 0 < f i) (hij : i ≤ j) (hj : j ≤ k) : lcmF f i ≤ lcmF f j := by
  obtain ⟨d, rfl⟩ : ∃ d, j = i + d := ⟨j - i, by omega⟩
  exact Nat.le_of_dvd (lcmF_pos h hj) lcmF_up
theorem maxF_ge {f : Nat → Nat} : ∀ {i j : Nat}, j < i → f j ≤ maxF f i
  | 0, _, h => by omega
  | i + 1, j, h => by
    rw [maxF]
    by_cases hj : j = i
    · subst hj; omega
    · have := maxF_ge (f := f) (i := i) (j := j) (by omega)
      omega
theorem maxF_le {f : Nat → Nat} {m : Nat} : ∀ {i : Nat}, (∀ j, j < i → f j ≤ m) → maxF f i ≤ m
  | 0, _ => Nat.zero_le _
  | i + 1, h => by
    have := maxF_le (f := f) (m := m) (i := i) fun j hj => h j (by omega)
    have := h i (by omega)
    rw [maxF]
    omega
/-- What is woven of several. -/
def wov (l : List Las) (n : Nat) : Int := (l.getD (n % l.length) noLas).s (n / l.length)
theorem wov_at {l : List Las} {n i : Nat} (hi : i < l.length) : wov l (n * l.length + i) = (l.getD i noLas).s n := by
  unfold wov
  rw [Nat.mul_comm, Nat.mul_add_mod, Nat.mod_eq_of_lt hi, Nat.mul_add_div (by omega), Nat.div_eq_of_lt hi, Nat.add_zero]
theorem wov_per {l : List Las} (h0 : 0 < l.length) {N p : Nat} (h : ∀ i, i < l.length → Per (l.getD i noLas).s N p) : Per (wov l) (N * l.length) (p * l.length) :=
  ⟨Nat.mul_pos (h 0 h0).pos h0, fun n hn => by
    have h1 : n % l.length < l.length := Nat.mod_lt _ h0
    have h2 : N ≤ n / l.length := (Nat.le_div_iff_mul_le h0).2 hn
    unfold wov
    rw [Nat.add_mul_mod_self_right, Nat.add_mul_div_right _ _ h0]
    exact (h _ h1).per _ h2⟩
/-- The error of weaving. -/
def erW (l : List Las) (fp : Nat → Nat) : Int := if l.length < 1 ∨ 8 < l.length then 2 else if errs l l = 0 then (if 120 < lcmF fp l.length then 11 else 0) else errs l l
/-- The least periods, and the least beginnings, of several. -/
def RedL (l : List Las) (fa fp : Nat → Nat) : Prop := ∀ i, i < l.length → Red (l.getD i noLas).s (fa i) (fp i) ∧ fa i ≤ (l.getD i noLas).st.length ∧ fp i ≤ (l.getD i noLas).ro.length
theorem errs_each {all l : List Las} (h : errs all l = 0) : ∀ i, i < l.length → (l.getD i noLas).err = 0 := by
  induction l with
  | nil => intro i hi; simp at hi
  | cons x l ih =>
    rw [errs] at h
    by_cases hx : x.err = 0
    · rw [if_pos hx] at h
      intro i hi
      cases i with
      | zero => exact hx
      | succ i =>
        have := ih h i (by simp at hi; omega)
        simpa using this
    · rw [if_neg hx] at h
      exact absurd h hx
theorem redL_exists {l : List Las} (h : errs l l = 0) : ∃ fa fp, RedL l fa fp := by
  have h1 : ∀ i, ∃ q : Nat × Nat, i < l.length → Red (l.getD i noLas).s q.1 q.2 ∧ q.1 ≤ (l.getD i noLas).st.length ∧ q.2 ≤ (l.getD i noLas).ro.length := fun i => by
    by_cases hi : i < l.length
    · obtain ⟨a, p, hr, ha, hp, _⟩ := red_exists (l.getD i noLas).st (errL_pos (errs_each h i hi))
      exact ⟨(a, p), fun _ => ⟨hr, ha, hp⟩⟩
    · exact ⟨(0, 0), fun h' => absurd h' hi⟩
  refine ⟨fun i => (Classical.choose (h1 i)).1, fun i => (Classical.choose (h1 i)).2, fun i hi => ?_⟩
  exact Classical.choose_spec (h1 i) hi
theorem RedL.pos {l : List Las} {fa fp : Nat → Nat} (h : RedL l fa fp) : ∀ i, i < l.length → 0 < fp i := fun i hi => (h i hi).1.per.pos
theorem RedL.per {l : List Las} {fa fp : Nat → Nat} (h : RedL l fa fp) {N : Nat} (h0 : 0 < l.length) (hN : maxF fa l.length ≤ N) : Per (wov l) (N * l.length) (lcmF fp l.length * l.length) :=
  wov_per h0 fun i hi => by
    have h1 := (h i hi).1.per.mono (Nat.le_trans (maxF_ge hi) hN)
    obtain ⟨q, hq⟩ := lcmF_dvd (f := fp) hi
    have hp := lcmF_pos h.pos (Nat.le_refl _)
    rw [hq] at hp ⊢
    rw [Nat.mul_comm]
    exact h1.mul (Nat.pos_of_ne_zero fun h0 => by subst h0; simp at hp)
/-- Two rows of streams that have the same numbers. -/
def TwL (l l' : List Las) : Prop := l.length = l'.length ∧ ∀ i, i < l.length → Tw (l.getD i noLas) (l'.getD i noLas)
theorem tw_err {x y : Las} (h : Tw x y) : x.err = y.err := by
  unfold Las.err
  rw [h.1, h.2.1, h.2.2]
theorem tw_s {x y : Las} (h : Tw x y) : x.s = y.s := by
  unfold Las.s
  rw [h.2.1, h.2.2]
theorem TwL.tail {x y : Las} {l l' : List Las} (h : TwL (x :: l) (y :: l')) : Tw x y ∧ TwL l l' :=
  ⟨h.2 0 (by simp), by have := h.1; simpa using this, fun i hi => by have := h.2 (i + 1) (by simp; omega); simpa using this⟩
theorem clash_tw {l : List Las} : ∀ {l' : List Las} {m : Int}, TwL l l' → clash m l = clash m l' := by
  induction l with
  | nil =>
    intro l' m h
    cases l' with
    | nil => rfl
    | cons y l' => have := h.1; simp at this
  | cons x l ih =>
    intro l' m h
    cases l' with
    | nil => have := h.1; simp at this
    | cons y l' =>
      obtain ⟨h1, h2⟩ := h.tail
      have := ih (m := m) h2
      unfold clash at this ⊢
      simp only [List.all_cons, h1.1, Bool.and_eq_true, decide_eq_true_eq]
      by_cases hm : y.m = m
      · simp only [hm, true_and]; exact this
      · simp [hm]
theorem errs_twL {all all' : List Las} (ha : TwL all all') : ∀ {l l' : List Las}, TwL l l' → errs all l = errs all' l' := by
  intro l
  induction l with
  | nil =>
    intro l' h
    cases l' with
    | nil =>
      simp only [errs]
      have hm : (all.getD 0 noLas).m = (all'.getD 0 noLas).m := by
        by_cases h0 : 0 < all.length
        · exact (ha.2 0 h0).1
        · have e1 : all = [] := List.length_eq_zero_iff.1 (by omega)
          have e2 : all' = [] := List.length_eq_zero_iff.1 (by have := ha.1; omega)
          rw [e1, e2]
      rw [hm]
      exact clash_tw ha
    | cons y l' => have := h.1; simp at this
  | cons x l ih =>
    intro l' h
    cases l' with
    | nil => have := h.1; simp at this
    | cons y l' =>
      obtain ⟨h1, h2⟩ := h.tail
      rw [errs, errs, tw_err h1, ih h2]
theorem wov_tw {l l' : List Las} (h0 : 0 < l.length) (h : TwL l l') : wov l = wov l' := funext fun n => by
  unfold wov
  rw [← h.1, tw_s (h.2 _ (Nat.mod_lt _ h0))]
theorem erW_tw {l l' : List Las} (h : TwL l l') (fp : Nat → Nat) : erW l fp = erW l' fp := by
  unfold erW
  rw [errs_twL h h, h.1]
theorem RedL.tw {l l' : List Las} {fa fp : Nat → Nat} (h : RedL l fa fp) (t : TwL l l') : RedL l' fa fp := fun i hi => by
  have hi' : i < l.length := by have := t.1; omega
  have t1 := t.2 i hi'
  obtain ⟨h1, h2, h3⟩ := h i hi'
  exact ⟨by rw [← tw_s t1]; exact h1, by rw [← t1.2.1]; exact h2, by rw [← t1.2.2]; exact h3⟩
end Go.Proofs.Ytdaljohmfnfgiaa
/- The greatest common divisor, and the least common multiple, by the program. No condition. -/
namespace Go.Proofs.Ytdaljohmfnfgiaa
open Go Go.RowKit Go.Proofs.Ytdaljohmfnfgiaa.Canon
set_option maxRecDepth 20000

theorem gcd_run {A : AHeap} (hw : WF A) {a b : Nat} (ha : a < 4611686018427387904) (hb : b < 4611686018427387904) : Con Try.prog 108 [.int .i64 (a : Int), .int .i64 (b : Int)] A (fun v A1 => v = .int .i64 (Nat.gcd a b : Nat) ∧ Nx A.next A A1) := by
  refine con_of_rn hc Try.func108 rfl (Nat.le_of_ble_eq_true rfl) ?_
  rw [s_in2]
  (repeat (first | refine Rn.seq hc ?_ | refine Rn.skip hc ?_ | refine Rn.block hc ?_ | refine Rn.inBlock hc ?_ | refine Rn.scope hc ?_ | refine Rn.inScope hc ?_))
  refine Rn.reg hc rfl ?_
  simp only [sev_const, gd, want_free, rops, fx, Option.some.injEq, exists_eq_left', show Try.f108.ntmps = 12 from rfl]
  (repeat (first | refine Rn.seq hc ?_ | refine Rn.skip hc ?_ | refine Rn.block hc ?_ | refine Rn.inBlock hc ?_ | refine Rn.scope hc ?_ | refine Rn.inScope hc ?_))
  refine Rn.loopI hc (I := fun k s A' => ∃ x y : Nat, k = y ∧ x < 4611686018427387904 ∧ y < 4611686018427387904 ∧ Nat.gcd x y = Nat.gcd a b ∧ Nx A.next A A' ∧ s.n = 12 ∧ sget s 0 = .int .i64 (x : Int) ∧ sget s 1 = .int .i64 (y : Int))
    (n := b) ⟨a, b, rfl, ha, hb, rfl, Nx.refl hw _, by simp only [sp_n], by simp only [sg_eq, sg_ne, Nat.reduceLT, ne_eq, Nat.reduceEqDiff, not_false_eq_true], by simp only [sg_eq, sg_ne, sp_n, Nat.reduceLT, ne_eq, Nat.reduceEqDiff, not_false_eq_true]⟩ ?_
  rintro k s A' ⟨x, y, hky, hx', hy', hg, hA, hn, s0, s1⟩ ih
  (repeat (first | refine Rn.seq hc ?_ | refine Rn.skip hc ?_ | refine Rn.block hc ?_ | refine Rn.inBlock hc ?_ | refine Rn.scope hc ?_ | refine Rn.inScope hc ?_))
  by_cases hy0 : y = 0
  · subst hy0
    clear ih
    rw [Nat.gcd_zero_right] at hg
    refine Rn.reg hc rfl ?_
    simp only [sev_tmp, sev_const, sg_eq, Nat.reduceLT, gd, want_free, rops, fx, bin_neq, Option.some.injEq, exists_eq_left', Bool.not_true, Bool.not_true, hn, s1, Int.natCast_zero, eq_self, decide_true, Bool.not_true]
    (repeat (first | refine Rn.seq hc ?_ | refine Rn.skip hc ?_ | refine Rn.block hc ?_ | refine Rn.inBlock hc ?_ | refine Rn.scope hc ?_ | refine Rn.inScope hc ?_))
    refine Rn.condE hc rfl ?_
    simp only [sev_tmp, sg_eq, sp_n, Nat.reduceLT, Value.bool.injEq, exists_eq_left', hn]
    (repeat (first | refine Rn.seq hc ?_ | refine Rn.skip hc ?_ | refine Rn.block hc ?_ | refine Rn.inBlock hc ?_ | refine Rn.scope hc ?_ | refine Rn.inScope hc ?_))
    refine Rn.exit hc rfl ?_
    (repeat (first | refine Rn.seq hc ?_ | refine Rn.skip hc ?_ | refine Rn.block hc ?_ | refine Rn.inBlock hc ?_ | refine Rn.scope hc ?_ | refine Rn.inScope hc ?_))
    refine Rn.reg hc rfl ?_
    simp only [sev_tmp, sg_eq, sg_ne, sp_n, Nat.reduceLT, ne_eq, Nat.reduceEqDiff, not_false_eq_true, gd, want_free, rops, fx, Option.some.injEq, exists_eq_left', hn, s0]
    (repeat (first | refine Rn.seq hc ?_ | refine Rn.skip hc ?_ | refine Rn.block hc ?_ | refine Rn.inBlock hc ?_ | refine Rn.scope hc ?_ | refine Rn.inScope hc ?_))
    refine Rn.ret (endQ_tmp rfl ⟨?_, hA⟩)
    simp only [sg_eq, sp_n, Nat.reduceLT, hn, hg]
  · have hd : (!decide ((y : Int) = 0)) = true := by rw [decide_eq_false (by omega)]; rfl
    have hrem : ∀ M, bin Try.prog .rem 3 (.int .i64 (x : Int)) (.int .i64 (y : Int)) M = some (.int .i64 ((x % y : Nat) : Int), M) := fun M => by
      rw [bin_rem _ _ _ _ (by omega), IntWalk.rem_in _ _ (by omega)]
      rfl
    have hlt := Nat.mod_lt x (Nat.pos_of_ne_zero hy0)
    refine Rn.reg hc rfl ?_
    simp only [sev_tmp, sev_const, sg_eq, Nat.reduceLT, gd, want_free, rops, fx, bin_neq, Option.some.injEq, exists_eq_left', hn, s1, hd]
    (repeat (first | refine Rn.seq hc ?_ | refine Rn.skip hc ?_ | refine Rn.block hc ?_ | refine Rn.inBlock hc ?_ | refine Rn.scope hc ?_ | refine Rn.inScope hc ?_))
    refine Rn.condE hc rfl ?_
    simp only [sev_tmp, sg_eq, sp_n, Nat.reduceLT, Value.bool.injEq, exists_eq_left', hn]
    (repeat (first | refine Rn.seq hc ?_ | refine Rn.skip hc ?_ | refine Rn.block hc ?_ | refine Rn.inBlock hc ?_ | refine Rn.scope hc ?_ | refine Rn.inScope hc ?_))
    refine Rn.drawnR hc hx (by kernel_rfl) (by rfl) (by kernel_rfl) ?_ ?_
    · simp only [rdV, VQ.int, sev_tmp, sg_eq, sg_ne, sp_n, Nat.reduceLT, ne_eq, Nat.reduceEqDiff, not_false_eq_true, gd, want_free, fx, Nat.zero_add, Nat.reduceAdd, and_self, hn, s0, s1, hrem, List.length_cons, List.length_nil]
    simp only [sev_tmp, sg_eq, sg_ne, sp_n, Nat.reduceLT, ne_eq, Nat.reduceEqDiff, not_false_eq_true, gd, want_free, rops, fx, Nat.zero_add, Option.some.injEq, exists_eq_left', Nat.reduceAdd, hn, s0, s1, hrem, List.length_cons, List.length_nil]
    (repeat (first | refine Rn.seq hc ?_ | refine Rn.skip hc ?_ | refine Rn.block hc ?_ | refine Rn.inBlock hc ?_ | refine Rn.scope hc ?_ | refine Rn.inScope hc ?_))
    refine ih _ _ _ (by rw [hky]; exact hlt) ⟨y, x % y, rfl, hy', by omega, ?_, Nx.bump hA _, by simp only [sp_n, hn], by simp only [sg_eq, sg_ne, sp_n, Nat.reduceLT, ne_eq, Nat.reduceEqDiff, not_false_eq_true, hn], by simp only [sg_eq, sp_n, Nat.reduceLT, hn]⟩
    rw [← hg, Nat.gcd_comm x y, Nat.gcd_rec y x, Nat.gcd_comm]


theorem quo_nat {x d : Nat} (hd : 0 < d) (hx : x < 4611686018427387904) (M : AHeap) : bin Try.prog .quo 3 (.int .i64 (x : Int)) (.int .i64 (d : Int)) M = some (.int .i64 ((x / d : Nat) : Int), M) := by
  have hle := Nat.div_le_self x d
  have e : ((x : Int)).tdiv (d : Int) = ((x / d : Nat) : Int) := by
    rw [Int.tdiv_eq_ediv_of_nonneg (by omega)]
    rfl
  have e2 : IntKind.i64.wrap ((x / d : Nat) : Int) = ((x / d : Nat) : Int) := by
    clear e
    generalize x / d = q at hle
    rw [IntWalk.i64_in _ (by omega)]
  rw [bin_quo _ _ _ _ (by omega), e, e2]
theorem lcmN_le {a b : Nat} : lcmN a b ≤ a * b := Nat.mul_le_mul_right _ (Nat.div_le_self _ _)
theorem lcm_run {A : AHeap} (hw : WF A) {b n c : Nat} {g : Nat → Nat} (hb : ∀ i, i < n → cl A b i = some (.int .i64 (g i : Int))) (hbA : b < A.next) (hn1 : n < 1000) (hg : ∀ i, i < n → 0 < g i ∧ g i ≤ 100000 ∧ lcmF g i ≤ 100000) :
    Con Try.prog 82 [.slice (some ⟨b, 0, none⟩) n c] A (fun v A1 => v = .int .i64 ((lcmF g n : Nat) : Int) ∧ Nx A.next A A1) := by
  refine con_of_rn hc Try.func82 rfl (Nat.le_of_ble_eq_true rfl) ?_
  rw [s_in1]
  (repeat (first | refine Rn.seq hc ?_ | refine Rn.skip hc ?_ | refine Rn.block hc ?_ | refine Rn.inBlock hc ?_ | refine Rn.scope hc ?_ | refine Rn.inScope hc ?_))
  refine Rn.reg hc rfl ?_
  simp only [sev_const, gd, want_free, rops, fx, Option.some.injEq, exists_eq_left', show Try.f82.ntmps = 21 from rfl]
  (repeat (first | refine Rn.seq hc ?_ | refine Rn.skip hc ?_ | refine Rn.block hc ?_ | refine Rn.inBlock hc ?_ | refine Rn.scope hc ?_ | refine Rn.inScope hc ?_))
  refine Rn.reg hc rfl ?_
  simp only [sev_const, gd, want_free, rops, fx, Option.some.injEq, exists_eq_left']
  (repeat (first | refine Rn.seq hc ?_ | refine Rn.skip hc ?_ | refine Rn.block hc ?_ | refine Rn.inBlock hc ?_ | refine Rn.scope hc ?_ | refine Rn.inScope hc ?_))
  refine Rn.reg hc rfl ?_
  simp only [sev_tmp, sev_const, sg_eq, sg_ne, sp_n, Nat.reduceLT, ne_eq, Nat.reduceEqDiff, not_false_eq_true, gd, want_free, rops, fx, lng, Option.some.injEq, exists_eq_left', un22]
  (repeat (first | refine Rn.seq hc ?_ | refine Rn.skip hc ?_ | refine Rn.block hc ?_ | refine Rn.inBlock hc ?_ | refine Rn.scope hc ?_ | refine Rn.inScope hc ?_))
  refine Rn.loopI hc (I := fun k s B => ∃ i, i ≤ n ∧ k = n - i ∧ Nx A.next A B ∧ s.n = 21 ∧ sget s 3 = .int .i64 ((lcmF g i : Nat) : Int) ∧ sget s 6 = .slice (some ⟨b, 0, none⟩) n c ∧ sget s 7 = .int .i64 (n : Int) ∧ sget s 8 = .int .i64 (i : Int))
    (n := n) ⟨0, by omega, rfl, Nx.refl hw _, by simp only [sp_n], by simp only [sg_eq, sg_ne, sp_n, Nat.reduceLT, ne_eq, Nat.reduceEqDiff, not_false_eq_true]; rfl, by simp only [sg_eq, sg_ne, sp_n, Nat.reduceLT, ne_eq, Nat.reduceEqDiff, not_false_eq_true], by simp only [sg_eq, sg_ne, sp_n, Nat.reduceLT, ne_eq, Nat.reduceEqDiff, not_false_eq_true], by simp only [sg_eq, sp_n, Nat.reduceLT]; rfl⟩ ?_
  rintro k s B ⟨i, hi, rfl, hA, hn, s3, s6, s7, s8⟩ ih
  (repeat (first | refine Rn.seq hc ?_ | refine Rn.skip hc ?_ | refine Rn.block hc ?_ | refine Rn.inBlock hc ?_ | refine Rn.scope hc ?_ | refine Rn.inScope hc ?_))
  by_cases hlt : i < n
  · have hd : decide ((i : Int) < (n : Int)) = true := decide_eq_true (by omega)
    obtain ⟨g0, g1, g2⟩ := hg i hlt
    have hp : 0 < lcmF g i := lcmF_pos (k := n) (fun j hj => (hg j hj).1) hi
    have hci : cl B b i = some (.int .i64 (g i : Int)) := (hA.cl hbA i).trans (hb i hlt)
    have hci' : cl B b (0 + i * 1) = some (.int .i64 (g i : Int)) := by rw [Nat.zero_add, Nat.mul_one]; exact hci
    refine Rn.reg hc rfl ?_
    simp only [sev_tmp, gd, want_free, rops, fx, bin_lss, Option.some.injEq, exists_eq_left', s7, s8, hd]
    (repeat (first | refine Rn.seq hc ?_ | refine Rn.skip hc ?_ | refine Rn.block hc ?_ | refine Rn.inBlock hc ?_ | refine Rn.scope hc ?_ | refine Rn.inScope hc ?_))
    refine Rn.condE hc rfl ?_
    simp only [sev_tmp, sg_eq, Nat.reduceLT, Value.bool.injEq, exists_eq_left', hn]
    (repeat (first | refine Rn.seq hc ?_ | refine Rn.skip hc ?_ | refine Rn.block hc ?_ | refine Rn.inBlock hc ?_ | refine Rn.scope hc ?_ | refine Rn.inScope hc ?_))
    refine Rn.reg hc rfl ?_
    simp only [sev_tmp, sg_eq, sg_ne, sp_n, Nat.reduceLT, ne_eq, Nat.reduceEqDiff, not_false_eq_true, gd, want_free, rops, fx, ld, idx, adr_p, Nat.zero_add, Option.some.injEq, exists_eq_left', Nat.mul_one, tk3, eo22, hn, s6, s8, nlen_nat hlt, hci]
    (repeat (first | refine Rn.seq hc ?_ | refine Rn.skip hc ?_ | refine Rn.block hc ?_ | refine Rn.inBlock hc ?_ | refine Rn.scope hc ?_ | refine Rn.inScope hc ?_))
    refine Rn.region hc fun K hK => ?_
    refine Wo.run hc 3 rfl rfl rfl ?_
    simp (maxSteps := 2000000) only [List.drop_zero, List.take_succ_cons, List.take_zero, sev_tmp, sg_eq, sg_ne, sp_n, Nat.reduceLT, ne_eq, Nat.reduceEqDiff, not_false_eq_true, gd, want_free, rops, fx, Nat.zero_add, Option.some.injEq, exists_eq_left', hn, s3]
    refine Wo.call hc (by rfl) (by rfl) ⟨by rfl, by rfl⟩ (xs := [.int .i64 ((lcmF g i : Nat) : Int), .int .i64 (g i : Int)]) (by rfl) (by rfl) (by simp only [sev_tmp, sg_eq, sg_ne, sp_n, Nat.reduceLT, ne_eq, Nat.reduceEqDiff, not_false_eq_true, List.map_cons, List.map_nil, List.nil_append, List.append_nil, hn]) (Con.mono (gcd_run hA.wf (by omega) (by omega)) ?_)
    rintro w B1 ⟨rfl, hx1⟩
    have hm : IntKind.i64.wrap (((lcmF g i / Nat.gcd (lcmF g i) (g i) : Nat) : Int) * (g i : Int)) = ((lcmF g (i + 1) : Nat) : Int) := by
      have hle : lcmF g (i + 1) ≤ 100000 * 100000 := Nat.le_trans lcmN_le (Nat.mul_le_mul g2 g1)
      rw [← Int.natCast_mul]
      show IntKind.i64.wrap ((lcmF g (i + 1) : Nat) : Int) = _
      rw [IntWalk.i64_in _ (by omega)]
    refine Wo.run hc 4 rfl rfl rfl ?_
    simp (maxSteps := 2000000) only [List.drop_zero, List.drop_succ_cons, List.take_succ_cons, List.take_zero, sev_tmp, sg_eq, sg_ne, sp_n, Nat.reduceLT, ne_eq, Nat.reduceEqDiff, not_false_eq_true, gd, want_free, rops, fx, bin_mul, Option.some.injEq, exists_eq_left', Nat.reduceAdd, hn, quo_nat (Nat.gcd_pos_of_pos_left (g i) hp) (show lcmF g i < 4611686018427387904 by omega), hm]
    refine Wo.done hc rfl (hK _ _ ?_)
    clear hK
    (repeat (first | refine Rn.seq hc ?_ | refine Rn.skip hc ?_ | refine Rn.block hc ?_ | refine Rn.inBlock hc ?_ | refine Rn.scope hc ?_ | refine Rn.inScope hc ?_))
    refine Rn.reg hc rfl ?_
    simp only [sev_tmp, sev_const, sg_eq, sg_ne, sp_n, Nat.reduceLT, ne_eq, Nat.reduceEqDiff, not_false_eq_true, gd, want_free, rops, fx, bin_add, Option.some.injEq, exists_eq_left', hn, s8, wrap_succ (show i < 9223372036854775807 by omega)]
    (repeat (first | refine Rn.seq hc ?_ | refine Rn.skip hc ?_ | refine Rn.block hc ?_ | refine Rn.inBlock hc ?_ | refine Rn.scope hc ?_ | refine Rn.inScope hc ?_))
    exact ih _ _ _ (by omega) ⟨i + 1, by omega, rfl, hA.trans (hx1.le hA.next), by simp only [sp_n, hn], by simp only [sg_eq, sg_ne, sp_n, Nat.reduceLT, ne_eq, Nat.reduceEqDiff, not_false_eq_true, hn], by simp only [sg_ne, ne_eq, Nat.reduceEqDiff, not_false_eq_true, s6], by simp only [sg_ne, ne_eq, Nat.reduceEqDiff, not_false_eq_true, s7], by simp only [sg_eq, sp_n, Nat.reduceLT, hn]⟩
  · have hd : decide ((i : Int) < (n : Int)) = false := decide_eq_false (by omega)
    have hil : i = n := by omega
    subst hil
    clear ih
    refine Rn.reg hc rfl ?_
    simp only [sev_tmp, gd, want_free, rops, fx, bin_lss, Option.some.injEq, exists_eq_left', s7, s8, hd]
    (repeat (first | refine Rn.seq hc ?_ | refine Rn.skip hc ?_ | refine Rn.block hc ?_ | refine Rn.inBlock hc ?_ | refine Rn.scope hc ?_ | refine Rn.inScope hc ?_))
    refine Rn.condE hc rfl ?_
    simp only [sev_tmp, sg_eq, Nat.reduceLT, Value.bool.injEq, exists_eq_left', hn]
    (repeat (first | refine Rn.seq hc ?_ | refine Rn.skip hc ?_ | refine Rn.block hc ?_ | refine Rn.inBlock hc ?_ | refine Rn.scope hc ?_ | refine Rn.inScope hc ?_))
    refine Rn.exit hc rfl ?_
    (repeat (first | refine Rn.seq hc ?_ | refine Rn.skip hc ?_ | refine Rn.block hc ?_ | refine Rn.inBlock hc ?_ | refine Rn.scope hc ?_ | refine Rn.inScope hc ?_))
    refine Rn.reg hc rfl ?_
    simp only [sev_tmp, sg_eq, sg_ne, sp_n, Nat.reduceLT, ne_eq, Nat.reduceEqDiff, not_false_eq_true, gd, want_free, rops, fx, Option.some.injEq, exists_eq_left', hn, s3]
    (repeat (first | refine Rn.seq hc ?_ | refine Rn.skip hc ?_ | refine Rn.block hc ?_ | refine Rn.inBlock hc ?_ | refine Rn.scope hc ?_ | refine Rn.inScope hc ?_))
    refine Rn.ret (endQ_tmp rfl ⟨?_, hA⟩)
    simp only [sg_eq, sp_n, Nat.reduceLT, hn]
theorem lcmF_two (x y : Nat) : lcmF (fun i => if i = 0 then x else y) 2 = lcmN x y := by
  show lcmN (lcmN 1 x) y = _
  rw [lcmN_eq 1 x, Nat.lcm_one_left]
/-- Of two numbers. -/
theorem lcm_two {A : AHeap} (hw : WF A) {b c x y : Nat} (h0 : cl A b 0 = some (.int .i64 (x : Int))) (h1 : cl A b 1 = some (.int .i64 (y : Int))) (hbA : b < A.next) (hx : 0 < x ∧ x ≤ 100000) (hy : 0 < y ∧ y ≤ 100000) :
    Con Try.prog 82 [.slice (some ⟨b, 0, none⟩) 2 c] A (fun v A1 => v = .int .i64 ((lcmN x y : Nat) : Int) ∧ Nx A.next A A1) := by
  have h := lcm_run hw (b := b) (n := 2) (c := c) (g := fun i => if i = 0 then x else y) (fun i hi => by
    rcases (show i = 0 ∨ i = 1 by omega) with rfl | rfl
    · exact h0
    · exact h1) hbA (by omega) (fun i hi => by
    rcases (show i = 0 ∨ i = 1 by omega) with rfl | rfl
    · exact ⟨hx.1, hx.2, by show 1 ≤ 100000; omega⟩
    · refine ⟨hy.1, hy.2, ?_⟩
      show lcmN 1 x ≤ 100000
      rw [lcmN_eq, Nat.lcm_one_left]
      exact hx.2)
  rw [lcmF_two] at h
  exact h
end Go.Proofs.Ytdaljohmfnfgiaa
/- Two lists that grow, the second one behind the first. No condition. -/
namespace Go.Proofs.Ytdaljohmfnfgiaa
open Go Go.RowKit Go.Proofs.Ytdaljohmfnfgiaa.Canon
set_option maxRecDepth 20000

theorem so22_2 : sof Try.prog 22 2 = .mk (fun k => some (k * 1, 1)) 2 [.int .i64 0, .int .i64 0] := by kernel_rfl
section
variable {ρ : Operand → Value} {d : Option Tmp} {ty : TypeId} {pos : String} {af : Array Edge} {gu : Option (Nat × Bool)} {A : AHeap}
theorem bs22_2 {x y : Tmp} (h1 : isCell (ρ (.tmp x)) = true) (h2 : isCell (ρ (.tmp y)) = true) : aexec Try.prog ρ ⟨d, .buildSlice 22 2 #[(0, .tmp x), (1, .tmp y)], ty, pos, af, gu⟩ A = some (.slice (some ⟨A.next, 0, none⟩) 2 2, A.push (.cells #[ρ (.tmp x), ρ (.tmp y)] 3)) := by
  refine ae_buildSlice (r := [ρ (.tmp x), ρ (.tmp y)]) (by rfl) so22_2 et22 rfl ?_
  simp [fbld, cells_isCell h1, cells_isCell h2]
end
structure Gr2 (A : AHeap) (wa wb : Option Addr) (lo : Nat) (L1 L2 : List Int) : Prop where
  g1 : Gr A wa lo L1
  g2 : ∃ M, lo ≤ M ∧ M ≤ A.next ∧ (∀ y, wa = some y → y.block < M) ∧ Gr A wb M L2
  nl : L2 = [] → wb = none
theorem Gr2.nil {A : AHeap} {lo : Nat} (h : lo ≤ A.next) : Gr2 A none none lo [] [] := ⟨Gr.nil _ _, ⟨A.next, h, Nat.le_refl _, fun y hy => (by cases hy), Gr.nil _ _⟩, fun _ => rfl⟩
theorem Gr2.nx {A B : AHeap} {wa wb : Option Addr} {lo : Nat} {L1 L2 : List Int} (h : Gr2 A wa wb lo L1 L2) (hw : WF A) (k : Nx A.next A B) : Gr2 B wa wb lo L1 L2 := by
  obtain ⟨M, h1, h2, h3, h4⟩ := h.g2
  exact ⟨h.g1.nx (n := 0) hw k, ⟨M, h1, Nat.le_trans h2 k.next, h3, h4.nx (n := 0) hw k⟩, h.nl⟩
theorem Gr2.snd {A : AHeap} {wa wb : Option Addr} {lo : Nat} {L1 L2 : List Int} (h : Gr2 A wa wb lo L1 L2) : Gr A wb lo L2 := by
  obtain ⟨M, h1, _, _, h4⟩ := h.g2
  exact h4.mono h1
theorem Gr2.pushA {A : AHeap} (hw : WF A) {wa wb : Option Addr} {lo : Nat} {L1 : List Int} (h : Gr2 A wa wb lo L1 []) {a2 : Option Addr} {c2 : Nat} {x : Int} {b2 : Nat} (ha2 : a2 = some ⟨b2, 0, none⟩) (hx : cl A b2 0 = some (.int .i64 x)) (hlen : L1.length ≤ 100000) (hlo : lo ≤ A.next) :
    ∃ A1, aapp Try.prog #[22, 22] #[.slice wa L1.length L1.length, .slice a2 1 c2] A = some (.slice (some ⟨A.next, 0, none⟩) (L1.length + 1) (L1.length + 1), A1) ∧ A1.next = A.next + 1 ∧ WF A1 ∧ Gr2 A1 (some ⟨A.next, 0, none⟩) wb lo (L1 ++ [x]) [] ∧ Nx lo A A1 := by
  obtain ⟨A1, q1, n1, w1, g1, _, k1⟩ := gr_push hw h.g1 ha2 hx hlen (c2 := c2)
  have hb := h.nl rfl
  subst hb
  refine ⟨A1, q1, n1, w1, ⟨g1.mono hlo, ⟨A1.next, by omega, Nat.le_refl _, fun y hy => ?_, Gr.nil _ _⟩, fun _ => rfl⟩, k1.le (by omega)⟩
  cases hy
  show A.next < A1.next
  omega
theorem Gr2.pushB {A : AHeap} (hw : WF A) {wa wb : Option Addr} {lo : Nat} {L1 L2 : List Int} (h : Gr2 A wa wb lo L1 L2) {a2 : Option Addr} {c2 : Nat} {x : Int} {b2 : Nat} (ha2 : a2 = some ⟨b2, 0, none⟩) (hx : cl A b2 0 = some (.int .i64 x)) (hlen : L2.length ≤ 100000) :
    ∃ A1, aapp Try.prog #[22, 22] #[.slice wb L2.length L2.length, .slice a2 1 c2] A = some (.slice (some ⟨A.next, 0, none⟩) (L2.length + 1) (L2.length + 1), A1) ∧ A1.next = A.next + 1 ∧ WF A1 ∧ Gr2 A1 wa (some ⟨A.next, 0, none⟩) lo L1 (L2 ++ [x]) ∧ Nx lo A A1 := by
  obtain ⟨M, h1, h2, h3, h4⟩ := h.g2
  obtain ⟨A1, q1, n1, w1, g1, _, k1⟩ := gr_push hw h4 ha2 hx hlen (c2 := c2)
  have hM : Nx M A A1 := k1.le (by omega)
  refine ⟨A1, q1, n1, w1, ⟨?_, ⟨M, h1, by omega, h3, g1.mono h2⟩, fun h0 => by simp at h0⟩, hM.le h1⟩
  -- the first list lies below M
  refine ⟨fun i hi => ?_, fun y hy => ?_, fun y hy => ?_⟩
  · obtain ⟨b, o, e, p1, p2, p3⟩ := h.g1.ints i hi
    have hbM := h3 _ e
    exact ⟨b, o, e, p1, by omega, (hM.cl hbM _).trans p3⟩
  · obtain ⟨p1, p2, z, p3, p4⟩ := h.g1.sl y hy
    exact ⟨p1, p2, z, (hM.keep _ (h3 y hy)).trans p3, p4⟩
  · obtain ⟨z, p3, p4⟩ := h.g1.wr y hy
    exact ⟨z, (hM.keep _ (h3 y hy)).trans p3, p4⟩
end Go.Proofs.Ytdaljohmfnfgiaa
/- Several streams, woven. No condition. -/
namespace Go.Proofs.Ytdaljohmfnfgiaa
open Go Go.RowKit Go.Proofs.Ytdaljohmfnfgiaa.Canon
set_option maxRecDepth 20000


theorem bad2 {n : Nat} (h : n < 1 ∨ 8 < n) : (decide ((n : Int) < 1) = true) ∨ (decide ((n : Int) < 1) = false ∧ decide (8 < (n : Int)) = true) := by
  simp only [decide_eq_true_eq, decide_eq_false_iff_not]
  omega
theorem err_len {x : Las} (h : x.err = 0) : x.st.length ≤ 60 ∧ x.ro.length ≤ 120 ∧ 0 < x.ro.length := ⟨(errL_len h).1, (errL_len h).2, errL_pos h⟩
theorem weave_run {A : AHeap} (hw : WF A) {a : Option Addr} {c : Nat} {l : List Las} (hl : LRow A a l) (hsl : ∀ i, i < l.length → Sl A (l.getD i noLas).sa 0 ∧ (l.getD i noLas).st.length ≤ (l.getD i noLas).sc) {fa fp : Nat → Nat} (hred : errs l l = 0 → RedL l fa fp) :
    Con Try.prog 39 [.slice a l.length c] A (Tld A (erW l fp) (l.getD 0 noLas).m (wov l)) := by
  refine con_of_rn hc Try.func39 rfl (Nat.le_of_ble_eq_true rfl) ?_
  have hx1 : Nx A.next A (A.push (.cells #[.int .i64 0, .slice none 0 0, .slice none 0 0] 24)) := (Nx.refl hw _).push (Nat.le_refl _) _
  have l1 := look_push_eq A (.cells #[.int .i64 0, .slice none 0 0, .slice none 0 0] 24)
  have hn1 : (A.push (.cells #[.int .i64 0, .slice none 0 0, .slice none 0 0] 24)).next = A.next + 1 := rfl
  generalize e1 : A.push (.cells #[.int .i64 0, .slice none 0 0, .slice none 0 0] 24) = A1 at hx1 l1 hn1
  obtain ⟨E, hE⟩ : ∃ E, E = erW l fp := ⟨_, rfl⟩
  rw [s_in1, ← hE]
  (repeat (first | refine Rn.seq hc ?_ | refine Rn.skip hc ?_ | refine Rn.block hc ?_ | refine Rn.inBlock hc ?_ | refine Rn.scope hc ?_ | refine Rn.inScope hc ?_))
  refine Rn.reg hc rfl ?_
  simp only [sev_const, gd, want_free, rops, fx, Option.some.injEq, exists_eq_left', Value.cells, show Try.f39.ntmps = 96 from rfl, ze24, e1]
  (repeat (first | refine Rn.seq hc ?_ | refine Rn.skip hc ?_ | refine Rn.block hc ?_ | refine Rn.inBlock hc ?_ | refine Rn.scope hc ?_ | refine Rn.inScope hc ?_))
  clear e1
  by_cases hlen : l.length < 1 ∨ 8 < l.length
  · obtain ⟨D, q1, g0, g1, g2, hxD⟩ := err_fin hx1 (Nat.le_refl _) (by omega) l1
    have hE2 : E = 2 := by rw [hE, erW, if_pos hlen]
    rw [hE2]
    rcases bad2 hlen with h1 | ⟨h1, h2⟩
    · refine Rn.reg hc rfl ?_
      simp only [sev_tmp, sev_const, sg_eq, sg_ne, sp_n, Nat.reduceLT, ne_eq, Nat.reduceEqDiff, not_false_eq_true, gd, nth, want_free, want_slot, beqB, rops, fx, lng, pck, bin_lss, Option.some.injEq, exists_eq_left', un46, h1]
      (repeat (first | refine Rn.seq hc ?_ | refine Rn.skip hc ?_ | refine Rn.block hc ?_ | refine Rn.inBlock hc ?_ | refine Rn.scope hc ?_ | refine Rn.inScope hc ?_))
      refine Rn.condE hc rfl ?_
      simp only [sev_tmp, sg_eq, sp_n, Nat.reduceLT, Value.bool.injEq, exists_eq_left']
      (repeat (first | refine Rn.seq hc ?_ | refine Rn.skip hc ?_ | refine Rn.block hc ?_ | refine Rn.inBlock hc ?_ | refine Rn.scope hc ?_ | refine Rn.inScope hc ?_))
      refine Rn.reg hc rfl ?_
      simp only [sev_tmp, sev_const, sg_eq, sg_ne, sp_n, sp_none, Nat.reduceLT, ne_eq, Nat.reduceEqDiff, not_false_eq_true, gd, want_free, rops, fx, str, adr_p, Nat.zero_add, Option.some.injEq, exists_eq_left', Nat.reduceAdd, tk24, bd24_z, q1, List.size_toArray, List.length_cons, List.length_nil, Nat.beq_refl]
      (repeat (first | refine Rn.seq hc ?_ | refine Rn.skip hc ?_ | refine Rn.block hc ?_ | refine Rn.inBlock hc ?_ | refine Rn.scope hc ?_ | refine Rn.inScope hc ?_))
      refine Rn.ret (endQ_ct rfl (v := .agg #[.int .i64 0, .slice none 0 0, .slice none 0 0]) ?_ ?_)
      · simp only [sg_eq, sg_ne, sp_n, Nat.reduceLT, ne_eq, Nat.reduceEqDiff, not_false_eq_true, ld, adr_p, cls, Nat.zero_add, Nat.reduceAdd, tk24, g0, g1, g2]
      · simp only [sg_eq, sp_n, Nat.reduceLT]
        exact tld_err (by omega) hxD
    · refine Rn.reg hc rfl ?_
      simp only [sev_tmp, sev_const, sg_eq, sg_ne, sp_n, Nat.reduceLT, ne_eq, Nat.reduceEqDiff, not_false_eq_true, gd, nth, want_free, want_slot, beqB, rops, fx, lng, pck, bin_lss, bin_gtr, Option.some.injEq, exists_eq_left', un46, h1, h2]
      (repeat (first | refine Rn.seq hc ?_ | refine Rn.skip hc ?_ | refine Rn.block hc ?_ | refine Rn.inBlock hc ?_ | refine Rn.scope hc ?_ | refine Rn.inScope hc ?_))
      refine Rn.condE hc rfl ?_
      simp only [sev_tmp, sg_eq, sp_n, Nat.reduceLT, Value.bool.injEq, exists_eq_left']
      (repeat (first | refine Rn.seq hc ?_ | refine Rn.skip hc ?_ | refine Rn.block hc ?_ | refine Rn.inBlock hc ?_ | refine Rn.scope hc ?_ | refine Rn.inScope hc ?_))
      refine Rn.reg hc rfl ?_
      simp only [sev_tmp, sev_const, sg_eq, sg_ne, sp_n, sp_none, Nat.reduceLT, ne_eq, Nat.reduceEqDiff, not_false_eq_true, gd, want_free, rops, fx, str, adr_p, Nat.zero_add, Option.some.injEq, exists_eq_left', Nat.reduceAdd, tk24, bd24_z, q1, List.size_toArray, List.length_cons, List.length_nil, Nat.beq_refl]
      (repeat (first | refine Rn.seq hc ?_ | refine Rn.skip hc ?_ | refine Rn.block hc ?_ | refine Rn.inBlock hc ?_ | refine Rn.scope hc ?_ | refine Rn.inScope hc ?_))
      refine Rn.ret (endQ_ct rfl (v := .agg #[.int .i64 0, .slice none 0 0, .slice none 0 0]) ?_ ?_)
      · simp only [sg_eq, sg_ne, sp_n, Nat.reduceLT, ne_eq, Nat.reduceEqDiff, not_false_eq_true, ld, adr_p, cls, Nat.zero_add, Nat.reduceAdd, tk24, g0, g1, g2]
      · simp only [sg_eq, sp_n, Nat.reduceLT]
        exact tld_err (by omega) hxD
  · have h1 : decide ((l.length : Int) < 1) = false := decide_eq_false (by omega)
    have h2 : decide (8 < (l.length : Int)) = false := decide_eq_false (by omega)
    refine Rn.reg hc rfl ?_
    simp only [sev_tmp, sev_const, sg_eq, sg_ne, sp_n, Nat.reduceLT, ne_eq, Nat.reduceEqDiff, not_false_eq_true, gd, nth, want_free, want_slot, beqB, rops, fx, lng, pck, bin_lss, bin_gtr, Option.some.injEq, exists_eq_left', un46, h1, h2]
    (repeat (first | refine Rn.seq hc ?_ | refine Rn.skip hc ?_ | refine Rn.block hc ?_ | refine Rn.inBlock hc ?_ | refine Rn.scope hc ?_ | refine Rn.inScope hc ?_))
    refine Rn.condE hc rfl ?_
    simp only [sev_tmp, sg_eq, sp_n, Nat.reduceLT, Value.bool.injEq, exists_eq_left']
    (repeat (first | refine Rn.seq hc ?_ | refine Rn.skip hc ?_ | refine Rn.block hc ?_ | refine Rn.inBlock hc ?_ | refine Rn.scope hc ?_ | refine Rn.inScope hc ?_))
    clear h1 h2
    have k1 : 1 ≤ l.length := by omega
    have k8 : l.length ≤ 8 := by omega
    refine Rn.region hc fun K hK => ?_
    refine Wo.run hc 1 rfl rfl rfl ?_
    simp (maxSteps := 2000000) only [List.drop_zero, List.take_succ_cons, List.take_zero, sev_tmp, sg_eq, sg_ne, Nat.reduceLT, ne_eq, Nat.reduceEqDiff, not_false_eq_true, gd, want_free, rops, fx, Nat.zero_add, Option.some.injEq, exists_eq_left']
    refine Wo.call hc (by rfl) (by rfl) ⟨by rfl, by rfl⟩ (xs := [.slice a l.length c]) (by rfl) (by rfl) (by rfl) (Con.mono (check_all hx1.wf (hl.nx hx1) (by omega)) ?_)
    rintro w A2 ⟨rfl, hx2⟩
    refine Wo.run hc 1 rfl rfl rfl ?_
    simp (maxSteps := 2000000) only [List.drop_zero, List.drop_succ_cons, List.take_succ_cons, List.take_zero, sev_tmp, sg_eq, sp_n, Nat.reduceLT, gd, want_free, rops, fx, Option.some.injEq, exists_eq_left', Nat.reduceAdd]
    refine Wo.done hc rfl (hK _ _ ?_)
    clear hK
    (repeat (first | refine Rn.seq hc ?_ | refine Rn.skip hc ?_ | refine Rn.block hc ?_ | refine Rn.inBlock hc ?_ | refine Rn.scope hc ?_ | refine Rn.inScope hc ?_))
    have hx02 : Nx A.next A A2 := hx1.trans (hx2.le hx1.next)
    have n2 : A.next < A2.next := by have := hx2.next; omega
    have l2 : Canon.look A2.objs A.next = _ := (hx2.keep _ (by omega)).trans l1
    by_cases he : errs l l = 0
    · have hd : (!decide (errs l l = 0)) = false := by rw [decide_eq_true he]; rfl
      have hr := hred he
      refine Rn.reg hc rfl ?_
      simp only [sev_tmp, sev_const, sg_eq, sp_n, Nat.reduceLT, gd, want_free, rops, fx, bin_neq, Option.some.injEq, exists_eq_left', hd]
      (repeat (first | refine Rn.seq hc ?_ | refine Rn.skip hc ?_ | refine Rn.block hc ?_ | refine Rn.inBlock hc ?_ | refine Rn.scope hc ?_ | refine Rn.inScope hc ?_))
      refine Rn.condE hc rfl ?_
      simp only [sev_tmp, sg_eq, sp_n, Nat.reduceLT, Value.bool.injEq, exists_eq_left']
      (repeat (first | refine Rn.seq hc ?_ | refine Rn.skip hc ?_ | refine Rn.block hc ?_ | refine Rn.inBlock hc ?_ | refine Rn.scope hc ?_ | refine Rn.inScope hc ?_))
      refine Rn.reg hc rfl ?_
      simp only [sev_const, gd, want_free, rops, fx, Option.some.injEq, exists_eq_left']
      (repeat (first | refine Rn.seq hc ?_ | refine Rn.skip hc ?_ | refine Rn.block hc ?_ | refine Rn.inBlock hc ?_ | refine Rn.scope hc ?_ | refine Rn.inScope hc ?_))
      refine Rn.reg hc rfl ?_
      simp only [sev_tmp, sev_const, sg_eq, sg_ne, sp_n, Nat.reduceLT, ne_eq, Nat.reduceEqDiff, not_false_eq_true, gd, want_free, rops, fx, lng, Option.some.injEq, exists_eq_left', un46]
      (repeat (first | refine Rn.seq hc ?_ | refine Rn.skip hc ?_ | refine Rn.block hc ?_ | refine Rn.inBlock hc ?_ | refine Rn.scope hc ?_ | refine Rn.inScope hc ?_))
      refine Rn.loopI hc (I := fun k s B => ∃ i, i ≤ l.length ∧ k = l.length - i ∧ Nx A2.next A2 B ∧ lcmF fp i ≤ 120 ∧ s.n = 96 ∧ sget s 0 = .slice a l.length c ∧ sget s 2 = .pointer (some ⟨A.next, 0, none⟩) ∧ sget s 5 = .int .i64 ((maxF fa i : Nat) : Int) ∧ sget s 6 = .int .i64 ((lcmF fp i : Nat) : Int) ∧ sget s 32 = .slice a l.length c ∧ sget s 33 = .int .i64 (l.length : Int) ∧ sget s 34 = .int .i64 (i : Int))
        (n := l.length) ⟨0, by omega, rfl, Nx.refl hx02.wf _, by show 1 ≤ 120; omega, by simp only [sp_n], by simp only [sg_eq, sg_ne, Nat.reduceLT, ne_eq, Nat.reduceEqDiff, not_false_eq_true], by simp only [sg_eq, sg_ne, sp_n, Nat.reduceLT, ne_eq, Nat.reduceEqDiff, not_false_eq_true], by simp only [sg_eq, sg_ne, sp_n, Nat.reduceLT, ne_eq, Nat.reduceEqDiff, not_false_eq_true]; rfl, by simp only [sg_eq, sg_ne, sp_n, Nat.reduceLT, ne_eq, Nat.reduceEqDiff, not_false_eq_true]; rfl, by simp only [sg_eq, sg_ne, sp_n, Nat.reduceLT, ne_eq, Nat.reduceEqDiff, not_false_eq_true], by simp only [sg_eq, sg_ne, sp_n, Nat.reduceLT, ne_eq, Nat.reduceEqDiff, not_false_eq_true], by simp only [sg_eq, sp_n, Nat.reduceLT]; rfl⟩ ?_
      clear hd
      rintro k s B ⟨i, hi, rfl, hB, hp120, hn, s0, s2, s5, s6, s32, s33, s34⟩ ih
      have hB0 : Nx A.next A B := hx02.trans (hB.le hx02.next)
      have nB := hB.next
      have lB : Canon.look B.objs A.next = _ := (hB.keep _ n2).trans l2
      (repeat (first | refine Rn.seq hc ?_ | refine Rn.skip hc ?_ | refine Rn.block hc ?_ | refine Rn.inBlock hc ?_ | refine Rn.scope hc ?_ | refine Rn.inScope hc ?_))
      by_cases hlt : i < l.length
      · have hd : decide ((i : Int) < (l.length : Int)) = true := decide_eq_true (by omega)
        obtain ⟨hok, b, o, rfl, hbb, c0, c1, c2⟩ := (hl.nx hB0) i hlt
        obtain ⟨hri, ha60, hp6⟩ := hr i hlt
        have hei := errs_each he i hlt
        obtain ⟨m60, m120, mpos⟩ := err_len hei
        obtain ⟨B2, p1, hx2, hn2, d0, d1, d2⟩ := put24 hB.wf (v0 := .int .i64 (l.getD i noLas).m) (v1 := .slice (l.getD i noLas).sa (l.getD i noLas).st.length (l.getD i noLas).sc) (v2 := .slice (l.getD i noLas).ra (l.getD i noLas).ro.length (l.getD i noLas).rc) rfl
        have hok2 := hok.nx hx2
        have hBB2 : Nx A.next A B2 := hB0.trans (hx2.le hB0.next)
        obtain ⟨y1, y2⟩ := hsl i hlt
        refine Rn.reg hc rfl ?_
        simp only [sev_tmp, gd, want_free, rops, fx, bin_lss, Option.some.injEq, exists_eq_left', s33, s34, hd]
        (repeat (first | refine Rn.seq hc ?_ | refine Rn.skip hc ?_ | refine Rn.block hc ?_ | refine Rn.inBlock hc ?_ | refine Rn.scope hc ?_ | refine Rn.inScope hc ?_))
        refine Rn.condE hc rfl ?_
        simp only [sev_tmp, sg_eq, Nat.reduceLT, Value.bool.injEq, exists_eq_left', hn]
        (repeat (first | refine Rn.seq hc ?_ | refine Rn.skip hc ?_ | refine Rn.block hc ?_ | refine Rn.inBlock hc ?_ | refine Rn.scope hc ?_ | refine Rn.inScope hc ?_))
        refine Rn.reg hc rfl ?_
        simp only [sev_tmp, sg_eq, sg_ne, sp_n, sp_none, Nat.reduceLT, ne_eq, Nat.reduceEqDiff, not_false_eq_true, gd, want_free, rops, fx, ld, str, idx, adr_p, cls, Nat.zero_add, Option.some.injEq, exists_eq_left', Value.cells, Nat.reduceAdd, tk24, eo46, hn, s32, s34, nlen_nat hlt, c0, c1, c2, ze24, p1, List.size_toArray, List.length_cons, List.length_nil, Nat.beq_refl]
        (repeat (first | refine Rn.seq hc ?_ | refine Rn.skip hc ?_ | refine Rn.block hc ?_ | refine Rn.inBlock hc ?_ | refine Rn.scope hc ?_ | refine Rn.inScope hc ?_))
        refine Rn.region hc fun K hK => ?_
        refine Wo.run hc 1 rfl rfl rfl ?_
        simp (maxSteps := 2000000) only [List.drop_zero, List.take_succ_cons, List.take_zero, sev_tmp, sg_eq, sp_n, Nat.reduceLT, gd, want_free, rops, fx, ld, adr_p, cls, Nat.zero_add, Option.some.injEq, exists_eq_left', Nat.reduceAdd, tk24, hn, d0, d1, d2]
        refine Wo.call hc (by rfl) (by rfl) ⟨by rfl, by rfl⟩ (xs := [.agg #[.int .i64 (l.getD i noLas).m, .slice (l.getD i noLas).sa (l.getD i noLas).st.length (l.getD i noLas).sc, .slice (l.getD i noLas).ra (l.getD i noLas).ro.length (l.getD i noLas).rc]]) (by rfl) (by rfl) (by simp only [sev_tmp, sg_eq, sp_n, Nat.reduceLT, List.map_cons, List.map_nil, List.nil_append, List.append_nil, hn]) (Con.mono (least_of hx2.wf hok2.1 hok2.2.1 hok2.2.2.1 hok2.2.2.2 (y1.nx hw hBB2) y2) ?_)
        rintro w B3 ⟨hq, -⟩
        obtain ⟨a', p', hr', ha', hp', hx3, hq⟩ := hq hei
        obtain ⟨rfl, rfl⟩ := hri.uniq hr'
        rw [if_neg (by omega)] at hq
        obtain ⟨xa, xr, rfl, -, -⟩ := hq
        obtain ⟨B4, p4, hx4, hn4, f0, f1, f2⟩ := put24 hx3.wf (v0 := .int .i64 (l.getD i noLas).m) (v1 := .slice xa (fa i) (fa i)) (v2 := .slice xr (fp i) (fp i)) rfl
        refine Wo.run hc 6 rfl rfl rfl ?_
        simp (maxSteps := 2000000) only [List.drop_zero, List.drop_succ_cons, List.take_succ_cons, List.take_zero, sev_tmp, sg_eq, sg_ne, sp_n, sp_none, Nat.reduceLT, ne_eq, Nat.reduceEqDiff, not_false_eq_true, gd, want_free, rops, fx, str, ext, adr_p, List.getElem?_toArray, List.getElem?_cons_zero, List.getElem?_cons_succ, Nat.zero_add, Option.some.injEq, exists_eq_left', Value.cells, Nat.reduceAdd, tk24, hn, ext, ze24, p4, List.size_toArray, List.length_cons, List.length_nil, Nat.beq_refl]
        refine Wo.done hc rfl (hK _ _ ?_)
        clear hK
        (repeat (first | refine Rn.seq hc ?_ | refine Rn.skip hc ?_ | refine Rn.block hc ?_ | refine Rn.inBlock hc ?_ | refine Rn.scope hc ?_ | refine Rn.inScope hc ?_))
        have hm5 : max ((maxF fa i : Nat) : Int) ((fa i : Nat) : Int) = ((maxF fa (i + 1) : Nat) : Int) := mxd_nat _ _
        refine Rn.reg hc rfl ?_
        simp only [sev_tmp, sg_eq, sg_ne, sp_n, Nat.reduceLT, ne_eq, Nat.reduceEqDiff, not_false_eq_true, gd, want_free, rops, fx, ld, fad, lng, adr_p, Nat.zero_add, Option.some.injEq, exists_eq_left', tk22, fo24_1, un22, hn, s5, f1, ae_mxd2, mxd_int, hm5]
        (repeat (first | refine Rn.seq hc ?_ | refine Rn.skip hc ?_ | refine Rn.block hc ?_ | refine Rn.inBlock hc ?_ | refine Rn.scope hc ?_ | refine Rn.inScope hc ?_))
        have hz5 : Nx B4.next B4 (B4.push (.cells #[.int .i64 ((lcmF fp i : Nat) : Int), .int .i64 ((fp i : Nat) : Int)] 3)) := (Nx.refl hx4.wf _).push (Nat.le_refl _) _
        have l5 := look_push_eq B4 (.cells #[.int .i64 ((lcmF fp i : Nat) : Int), .int .i64 ((fp i : Nat) : Int)] 3)
        have hn5 : (B4.push (.cells #[.int .i64 ((lcmF fp i : Nat) : Int), .int .i64 ((fp i : Nat) : Int)] 3)).next = B4.next + 1 := rfl
        generalize e5 : B4.push (.cells #[.int .i64 ((lcmF fp i : Nat) : Int), .int .i64 ((fp i : Nat) : Int)] 3) = B5 at hz5 l5 hn5
        refine Rn.region hc fun K hK => ?_
        refine Wo.run hc 5 rfl rfl rfl ?_
        simp (maxSteps := 2000000) only [List.drop_zero, List.take_succ_cons, List.take_zero, sev_tmp, sg_eq, sg_ne, sp_n, Nat.reduceLT, ne_eq, Nat.reduceEqDiff, not_false_eq_true, gd, want_free, rops, fx, ld, fad, lng, adr_p, Nat.zero_add, Option.some.injEq, exists_eq_left', tk22, fo24_2, un22, hn, s6, f2, bs22_2, isCell, e5]
        refine Wo.call hc (by rfl) (by rfl) ⟨by rfl, by rfl⟩ (xs := [.slice (some ⟨B4.next, 0, none⟩) 2 2]) (by rfl) (by rfl) (by simp only [sev_tmp, sg_eq, sp_n, Nat.reduceLT, List.map_cons, List.map_nil, List.nil_append, List.append_nil, hn]) (Con.mono (lcm_two hz5.wf (x := lcmF fp i) (y := fp i) (by rw [cl_of l5 rfl]; rfl) (by rw [cl_of l5 rfl]; rfl) (by omega) ⟨lcmF_pos hr.pos hi, by omega⟩ ⟨hr.pos i hlt, by omega⟩) ?_)
        rintro w B6 ⟨rfl, hx6⟩
        rw [show lcmN (lcmF fp i) (fp i) = lcmF fp (i + 1) from rfl]
        refine Wo.run hc 1 rfl rfl rfl ?_
        simp (maxSteps := 2000000) only [List.drop_zero, List.drop_succ_cons, List.take_succ_cons, List.take_zero, sev_tmp, sg_eq, sp_n, Nat.reduceLT, gd, want_free, rops, fx, Option.some.injEq, exists_eq_left', Nat.reduceAdd, hn]
        refine Wo.done hc rfl (hK _ _ ?_)
        clear hK
        (repeat (first | refine Rn.seq hc ?_ | refine Rn.skip hc ?_ | refine Rn.block hc ?_ | refine Rn.inBlock hc ?_ | refine Rn.scope hc ?_ | refine Rn.inScope hc ?_))
        have hB6 : Nx B.next B B6 := hx2.trans ((hx3.le (by omega)).trans ((hx4.le (by have := hx3.next; omega)).trans ((hz5.le (by have := hx3.next; omega)).trans (hx6.le (by have := hx3.next; omega)))))
        have hA6 : Nx A2.next A2 B6 := hB.trans (hB6.le nB)
        by_cases hlong : 120 < lcmF fp (i + 1)
        · have hd2 : decide (120 < ((lcmF fp (i + 1) : Nat) : Int)) = true := decide_eq_true (by omega)
          have hE2 : E = 11 := by
            have := lcmF_mono (f := fp) hr.pos (show i + 1 ≤ l.length from hlt) (Nat.le_refl _)
            rw [hE, erW, if_neg hlen, if_pos he, if_pos (by omega)]
          have hA06 : Nx A.next A B6 := hx02.trans (hA6.le hx02.next)
          obtain ⟨D, q1, g0, g1, g2, hxD⟩ := err_fin hA06 (Nat.le_refl _) (by have := hB6.next; omega) ((hB6.keep _ (by omega)).trans lB)
          rw [hE2]
          refine Rn.reg hc rfl ?_
          simp only [sev_tmp, sev_const, sg_eq, sp_n, Nat.reduceLT, gd, want_free, rops, fx, bin_gtr, Option.some.injEq, exists_eq_left', hn, hd2]
          (repeat (first | refine Rn.seq hc ?_ | refine Rn.skip hc ?_ | refine Rn.block hc ?_ | refine Rn.inBlock hc ?_ | refine Rn.scope hc ?_ | refine Rn.inScope hc ?_))
          refine Rn.condE hc rfl ?_
          simp only [sev_tmp, sg_eq, sp_n, Nat.reduceLT, Value.bool.injEq, exists_eq_left', hn]
          (repeat (first | refine Rn.seq hc ?_ | refine Rn.skip hc ?_ | refine Rn.block hc ?_ | refine Rn.inBlock hc ?_ | refine Rn.scope hc ?_ | refine Rn.inScope hc ?_))
          refine Rn.reg hc rfl ?_
          simp only [sev_tmp, sev_const, sg_eq, sg_ne, sp_n, sp_none, Nat.reduceLT, ne_eq, Nat.reduceEqDiff, not_false_eq_true, gd, want_free, rops, fx, str, adr_p, Nat.zero_add, Option.some.injEq, exists_eq_left', Nat.reduceAdd, tk24, hn, s2, bd24_z, q1, List.size_toArray, List.length_cons, List.length_nil, Nat.beq_refl]
          (repeat (first | refine Rn.seq hc ?_ | refine Rn.skip hc ?_ | refine Rn.block hc ?_ | refine Rn.inBlock hc ?_ | refine Rn.scope hc ?_ | refine Rn.inScope hc ?_))
          refine Rn.ret (endQ_ct rfl (v := .agg #[.int .i64 0, .slice none 0 0, .slice none 0 0]) ?_ ?_)
          · simp only [sg_ne, ne_eq, Nat.reduceEqDiff, not_false_eq_true, ld, adr_p, cls, Nat.zero_add, Nat.reduceAdd, tk24, s2, g0, g1, g2]
          · simp only [sg_eq, sp_n, Nat.reduceLT, hn]
            exact tld_err (by omega) hxD
        · have hd2 : decide (120 < ((lcmF fp (i + 1) : Nat) : Int)) = false := decide_eq_false (by omega)
          refine Rn.reg hc rfl ?_
          simp only [sev_tmp, sev_const, sg_eq, sp_n, Nat.reduceLT, gd, want_free, rops, fx, bin_gtr, Option.some.injEq, exists_eq_left', hn, hd2]
          (repeat (first | refine Rn.seq hc ?_ | refine Rn.skip hc ?_ | refine Rn.block hc ?_ | refine Rn.inBlock hc ?_ | refine Rn.scope hc ?_ | refine Rn.inScope hc ?_))
          refine Rn.condE hc rfl ?_
          simp only [sev_tmp, sg_eq, sp_n, Nat.reduceLT, Value.bool.injEq, exists_eq_left', hn]
          (repeat (first | refine Rn.seq hc ?_ | refine Rn.skip hc ?_ | refine Rn.block hc ?_ | refine Rn.inBlock hc ?_ | refine Rn.scope hc ?_ | refine Rn.inScope hc ?_))
          refine Rn.reg hc rfl ?_
          simp only [sev_tmp, sev_const, sg_eq, sg_ne, sp_n, Nat.reduceLT, ne_eq, Nat.reduceEqDiff, not_false_eq_true, gd, want_free, rops, fx, bin_add, Option.some.injEq, exists_eq_left', hn, s34, wrap_succ (show i < 9223372036854775807 by omega)]
          (repeat (first | refine Rn.seq hc ?_ | refine Rn.skip hc ?_ | refine Rn.block hc ?_ | refine Rn.inBlock hc ?_ | refine Rn.scope hc ?_ | refine Rn.inScope hc ?_))
          exact ih _ _ _ (by omega) ⟨i + 1, by omega, rfl, hA6, by omega, by simp only [sp_n, hn], by simp only [sg_ne, ne_eq, Nat.reduceEqDiff, not_false_eq_true, s0], by simp only [sg_ne, ne_eq, Nat.reduceEqDiff, not_false_eq_true, s2], by simp only [sg_eq, sg_ne, sp_n, Nat.reduceLT, ne_eq, Nat.reduceEqDiff, not_false_eq_true, hn], by simp only [sg_eq, sg_ne, sp_n, Nat.reduceLT, ne_eq, Nat.reduceEqDiff, not_false_eq_true, hn], by simp only [sg_ne, ne_eq, Nat.reduceEqDiff, not_false_eq_true, s32], by simp only [sg_ne, ne_eq, Nat.reduceEqDiff, not_false_eq_true, s33], by simp only [sg_eq, sp_n, Nat.reduceLT, hn]⟩
      · have hd : decide ((i : Int) < (l.length : Int)) = false := decide_eq_false (by omega)
        have hil : i = l.length := by omega
        subst hil
        clear ih
        refine Rn.reg hc rfl ?_
        simp only [sev_tmp, gd, want_free, rops, fx, bin_lss, Option.some.injEq, exists_eq_left', s33, s34, hd]
        (repeat (first | refine Rn.seq hc ?_ | refine Rn.skip hc ?_ | refine Rn.block hc ?_ | refine Rn.inBlock hc ?_ | refine Rn.scope hc ?_ | refine Rn.inScope hc ?_))
        refine Rn.condE hc rfl ?_
        simp only [sev_tmp, sg_eq, Nat.reduceLT, Value.bool.injEq, exists_eq_left', hn]
        (repeat (first | refine Rn.seq hc ?_ | refine Rn.skip hc ?_ | refine Rn.block hc ?_ | refine Rn.inBlock hc ?_ | refine Rn.scope hc ?_ | refine Rn.inScope hc ?_))
        refine Rn.exit hc rfl ?_
        (repeat (first | refine Rn.seq hc ?_ | refine Rn.skip hc ?_ | refine Rn.block hc ?_ | refine Rn.inBlock hc ?_ | refine Rn.scope hc ?_ | refine Rn.inScope hc ?_))
        have hp0 : 0 < lcmF fp l.length := lcmF_pos hr.pos (Nat.le_refl _)
        have hPer := hr.per (N := maxF fa l.length) (by omega) (Nat.le_refl _)
        have hH60 : maxF fa l.length ≤ 60 := maxF_le fun j hj => by
          have := (hr j hj).2.1
          have := (err_len (errs_each he j hj)).1
          omega
        have hE0 : E = 0 := by rw [hE, erW, if_neg hlen, if_pos he, if_neg (by omega)]
        clear hr hred hsl hE
        generalize maxF fa l.length = H at s5 hPer hH60
        generalize lcmF fp l.length = p at s6 hPer hp0 hp120
        subst hE0
        obtain ⟨W, hW⟩ : ∃ W, W = wov l := ⟨_, rfl⟩
        have hWv : ∀ n i, i < l.length → W (n * l.length + i) = (l.getD i noLas).s n := fun n i hi => by rw [hW]; exact wov_at hi
        rw [← hW] at hPer ⊢
        have hHK : H * l.length ≤ 60 * 8 := Nat.mul_le_mul hH60 k8
        have hPK : p * l.length ≤ 120 * 8 := Nat.mul_le_mul hp120 k8
        have hw0 : IntKind.i64.wrap ((H : Int) + (p : Int)) = ((H + p : Nat) : Int) := by rw [IntWalk.i64_in _ (by omega)]; omega
        clear hd s32 s33 s34
        refine Rn.reg hc rfl ?_
        simp only [sev_const, gd, want_free, rops, fx, Option.some.injEq, exists_eq_left']
        (repeat (first | refine Rn.seq hc ?_ | refine Rn.skip hc ?_ | refine Rn.block hc ?_ | refine Rn.inBlock hc ?_ | refine Rn.scope hc ?_ | refine Rn.inScope hc ?_))
        refine Rn.reg hc rfl ?_
        simp only [sev_tmp, sev_const, sg_eq, sg_ne, sp_n, Nat.reduceLT, ne_eq, Nat.reduceEqDiff, not_false_eq_true, gd, want_free, rops, fx, bin_add, Option.some.injEq, exists_eq_left', hn, s5, s6, hw0]
        (repeat (first | refine Rn.seq hc ?_ | refine Rn.skip hc ?_ | refine Rn.block hc ?_ | refine Rn.inBlock hc ?_ | refine Rn.scope hc ?_ | refine Rn.inScope hc ?_))
        refine Rn.loopI hc (I := fun k s C => ∃ n wa wb, n ≤ H + p ∧ k = H + p - n ∧ Nx B.next B C ∧ Gr2 C wa wb B.next (redS W (min (n * l.length) (H * l.length))) (redR W (H * l.length) (n * l.length - H * l.length)) ∧ s.n = 96 ∧ sget s 0 = .slice a l.length c ∧ sget s 2 = .pointer (some ⟨A.next, 0, none⟩) ∧ sget s 5 = .int .i64 (H : Int) ∧ sget s 11 = .slice wa (min (n * l.length) (H * l.length)) (min (n * l.length) (H * l.length)) ∧ sget s 12 = .slice wb (n * l.length - H * l.length) (n * l.length - H * l.length) ∧ sget s 60 = .int .i64 ((H + p : Nat) : Int) ∧ sget s 61 = .int .i64 (n : Int))
          (n := H + p) ⟨0, none, none, by omega, rfl, Nx.refl hB.wf _, by rw [Nat.zero_mul, Nat.zero_min, Nat.zero_sub]; exact Gr2.nil (Nat.le_refl _), by simp only [sp_n, hn], by simp only [sg_ne, ne_eq, Nat.reduceEqDiff, not_false_eq_true, s0], by simp only [sg_ne, ne_eq, Nat.reduceEqDiff, not_false_eq_true, s2], by simp only [sg_ne, ne_eq, Nat.reduceEqDiff, not_false_eq_true, s5], by simp only [sg_eq, sg_ne, sp_n, Nat.reduceLT, ne_eq, Nat.reduceEqDiff, not_false_eq_true, hn, Nat.zero_mul, Nat.zero_min], by simp only [sg_eq, sg_ne, sp_n, Nat.reduceLT, ne_eq, Nat.reduceEqDiff, not_false_eq_true, hn, Nat.zero_mul, Nat.zero_sub], by simp only [sg_eq, sg_ne, sp_n, Nat.reduceLT, ne_eq, Nat.reduceEqDiff, not_false_eq_true, hn], by simp only [sg_eq, sp_n, Nat.reduceLT, hn]; rfl⟩ ?_
        clear hn s0 s2 s5 s6 s
        rintro k s C ⟨n, wa, wb, hnHp, rfl, hC, hg, hn, s0, s2, s5, s11, s12, s60, s61⟩ ih
        (repeat (first | refine Rn.seq hc ?_ | refine Rn.skip hc ?_ | refine Rn.block hc ?_ | refine Rn.inBlock hc ?_ | refine Rn.scope hc ?_ | refine Rn.inScope hc ?_))
        by_cases hlt : n < H + p
        · have hd : decide ((n : Int) < ((H + p : Nat) : Int)) = true := decide_eq_true (by omega)
          have hnK := Nat.mul_le_mul_right l.length (show n + 1 ≤ H + p from hlt)
          rw [Nat.succ_mul, Nat.add_mul] at hnK
          refine Rn.reg hc rfl ?_
          simp only [sev_tmp, gd, want_free, rops, fx, bin_lss, Option.some.injEq, exists_eq_left', s60, s61, hd]
          (repeat (first | refine Rn.seq hc ?_ | refine Rn.skip hc ?_ | refine Rn.block hc ?_ | refine Rn.inBlock hc ?_ | refine Rn.scope hc ?_ | refine Rn.inScope hc ?_))
          refine Rn.condE hc rfl ?_
          simp only [sev_tmp, sg_eq, Nat.reduceLT, Value.bool.injEq, exists_eq_left', hn]
          (repeat (first | refine Rn.seq hc ?_ | refine Rn.skip hc ?_ | refine Rn.block hc ?_ | refine Rn.inBlock hc ?_ | refine Rn.scope hc ?_ | refine Rn.inScope hc ?_))
          refine Rn.reg hc rfl ?_
          simp only [sev_tmp, sg_eq, sg_ne, sp_n, Nat.reduceLT, ne_eq, Nat.reduceEqDiff, not_false_eq_true, gd, want_free, rops, fx, Option.some.injEq, exists_eq_left', hn, s61]
          (repeat (first | refine Rn.seq hc ?_ | refine Rn.skip hc ?_ | refine Rn.block hc ?_ | refine Rn.inBlock hc ?_ | refine Rn.scope hc ?_ | refine Rn.inScope hc ?_))
          refine Rn.reg hc rfl ?_
          simp only [sev_tmp, sev_const, sg_eq, sg_ne, sp_n, Nat.reduceLT, ne_eq, Nat.reduceEqDiff, not_false_eq_true, gd, want_free, rops, fx, lng, Option.some.injEq, exists_eq_left', un46, hn, s0]
          (repeat (first | refine Rn.seq hc ?_ | refine Rn.skip hc ?_ | refine Rn.block hc ?_ | refine Rn.inBlock hc ?_ | refine Rn.scope hc ?_ | refine Rn.inScope hc ?_))
          refine Rn.loopI hc (I := fun k s D => ∃ i wa wb, i ≤ l.length ∧ k = l.length - i ∧ Nx B.next B D ∧ Gr2 D wa wb B.next (redS W (min (n * l.length + i) (H * l.length))) (redR W (H * l.length) (n * l.length + i - H * l.length)) ∧ s.n = 96 ∧ sget s 0 = .slice a l.length c ∧ sget s 2 = .pointer (some ⟨A.next, 0, none⟩) ∧ sget s 5 = .int .i64 (H : Int) ∧ sget s 11 = .slice wa (min (n * l.length + i) (H * l.length)) (min (n * l.length + i) (H * l.length)) ∧ sget s 12 = .slice wb (n * l.length + i - H * l.length) (n * l.length + i - H * l.length) ∧ sget s 60 = .int .i64 ((H + p : Nat) : Int) ∧ sget s 61 = .int .i64 (n : Int) ∧ sget s 13 = .int .i64 (n : Int) ∧ sget s 64 = .slice a l.length c ∧ sget s 65 = .int .i64 (l.length : Int) ∧ sget s 66 = .int .i64 (i : Int))
            (n := l.length) ⟨0, wa, wb, by omega, rfl, hC, hg, by simp only [sp_n, hn], by simp only [sg_ne, ne_eq, Nat.reduceEqDiff, not_false_eq_true, s0], by simp only [sg_ne, ne_eq, Nat.reduceEqDiff, not_false_eq_true, s2], by simp only [sg_ne, ne_eq, Nat.reduceEqDiff, not_false_eq_true, s5], by simp only [sg_ne, ne_eq, Nat.reduceEqDiff, not_false_eq_true, s11, Nat.add_zero], by simp only [sg_ne, ne_eq, Nat.reduceEqDiff, not_false_eq_true, s12, Nat.add_zero], by simp only [sg_ne, ne_eq, Nat.reduceEqDiff, not_false_eq_true, s60], by simp only [sg_ne, ne_eq, Nat.reduceEqDiff, not_false_eq_true, s61], by simp only [sg_eq, sg_ne, sp_n, Nat.reduceLT, ne_eq, Nat.reduceEqDiff, not_false_eq_true, hn], by simp only [sg_eq, sg_ne, sp_n, Nat.reduceLT, ne_eq, Nat.reduceEqDiff, not_false_eq_true, hn], by simp only [sg_eq, sg_ne, sp_n, Nat.reduceLT, ne_eq, Nat.reduceEqDiff, not_false_eq_true, hn], by simp only [sg_eq, sp_n, Nat.reduceLT, hn]; rfl⟩ ?_
          clear hn s0 s2 s5 s11 s12 s60 s61 s hd hg wa wb
          rintro k s D ⟨i, wa, wb, hi, rfl, hD, hg, hn, s0, s2, s5, s11, s12, s60, s61, s13, s64, s65, s66⟩ ih2
          have hD0 : Nx A.next A D := hB0.trans (hD.le hB0.next)
          have nD := hD.next
          (repeat (first | refine Rn.seq hc ?_ | refine Rn.skip hc ?_ | refine Rn.block hc ?_ | refine Rn.inBlock hc ?_ | refine Rn.scope hc ?_ | refine Rn.inScope hc ?_))
          by_cases hli : i < l.length
          · have hd : decide ((i : Int) < (l.length : Int)) = true := decide_eq_true (by omega)
            obtain ⟨hok, b, o, rfl, hbb, c0, c1, c2⟩ := (hl.nx hD0) i hli
            obtain ⟨m60, m120, mpos⟩ := err_len (errs_each he i hli)
            obtain ⟨B2, p1, hx2, hn2, d0, d1, d2⟩ := put24 hD.wf (v0 := .int .i64 (l.getD i noLas).m) (v1 := .slice (l.getD i noLas).sa (l.getD i noLas).st.length (l.getD i noLas).sc) (v2 := .slice (l.getD i noLas).ra (l.getD i noLas).ro.length (l.getD i noLas).rc) rfl
            have hok2 := hok.nx hx2
            refine Rn.reg hc rfl ?_
            simp only [sev_tmp, gd, want_free, rops, fx, bin_lss, Option.some.injEq, exists_eq_left', s65, s66, hd]
            (repeat (first | refine Rn.seq hc ?_ | refine Rn.skip hc ?_ | refine Rn.block hc ?_ | refine Rn.inBlock hc ?_ | refine Rn.scope hc ?_ | refine Rn.inScope hc ?_))
            refine Rn.condE hc rfl ?_
            simp only [sev_tmp, sg_eq, Nat.reduceLT, Value.bool.injEq, exists_eq_left', hn]
            (repeat (first | refine Rn.seq hc ?_ | refine Rn.skip hc ?_ | refine Rn.block hc ?_ | refine Rn.inBlock hc ?_ | refine Rn.scope hc ?_ | refine Rn.inScope hc ?_))
            refine Rn.reg hc rfl ?_
            simp only [sev_tmp, sg_eq, sg_ne, sp_n, sp_none, Nat.reduceLT, ne_eq, Nat.reduceEqDiff, not_false_eq_true, gd, want_free, rops, fx, ld, str, idx, adr_p, cls, Nat.zero_add, Option.some.injEq, exists_eq_left', Value.cells, Nat.reduceAdd, tk24, eo46, hn, s64, s66, nlen_nat hli, c0, c1, c2, ze24, p1, List.size_toArray, List.length_cons, List.length_nil, Nat.beq_refl]
            (repeat (first | refine Rn.seq hc ?_ | refine Rn.skip hc ?_ | refine Rn.block hc ?_ | refine Rn.inBlock hc ?_ | refine Rn.scope hc ?_ | refine Rn.inScope hc ?_))
            refine Rn.region hc fun K hK => ?_
            refine Wo.run hc 3 rfl rfl rfl ?_
            simp (maxSteps := 2000000) only [List.drop_zero, List.take_succ_cons, List.take_zero, sev_tmp, sg_eq, sg_ne, sp_n, Nat.reduceLT, ne_eq, Nat.reduceEqDiff, not_false_eq_true, gd, want_free, rops, fx, ld, adr_p, cls, Nat.zero_add, Option.some.injEq, exists_eq_left', Value.cells, Nat.reduceAdd, tk24, hn, s13, d0, d1, d2, bd86, List.size_toArray, List.length_cons, List.length_nil]
            refine Wo.call hc (by rfl) (by rfl) ⟨by rfl, by rfl⟩ (xs := [.agg #[.int .i64 (l.getD i noLas).m, .slice (l.getD i noLas).sa (l.getD i noLas).st.length (l.getD i noLas).sc, .slice (l.getD i noLas).ra (l.getD i noLas).ro.length (l.getD i noLas).rc], .int .i64 (n : Int)]) (by rfl) (by rfl) (by simp only [sev_tmp, sg_eq, sg_ne, sp_n, Nat.reduceLT, ne_eq, Nat.reduceEqDiff, not_false_eq_true, List.map_cons, List.map_nil, List.nil_append, List.append_nil, hn]) (Con.mono (at_stream hx2.wf hok2.1 hok2.2.1 n hok2.2.2.1 mpos hok2.2.2.2 (by omega)) ?_)
            rintro w B3 ⟨rfl, hx3⟩
            have hval : atL (l.getD i noLas).st (l.getD i noLas).ro n = W (n * l.length + i) := (hWv n i hli).symm
            rw [hval]
            refine Wo.run hc 1 rfl rfl rfl ?_
            simp (maxSteps := 2000000) only [List.drop_zero, List.drop_succ_cons, List.take_succ_cons, List.take_zero, sev_tmp, sg_eq, sp_n, Nat.reduceLT, gd, want_free, rops, fx, Option.some.injEq, exists_eq_left', Nat.reduceAdd, hn]
            refine Wo.done hc rfl (hK _ _ ?_)
            clear hK
            (repeat (first | refine Rn.seq hc ?_ | refine Rn.skip hc ?_ | refine Rn.block hc ?_ | refine Rn.inBlock hc ?_ | refine Rn.scope hc ?_ | refine Rn.inScope hc ?_))
            have hz4 : Nx B3.next B3 (B3.push (.cells #[.int .i64 (W (n * l.length + i))] 3)) := (Nx.refl hx3.wf _).push (Nat.le_refl _) _
            have l4 := look_push_eq B3 (.cells #[.int .i64 (W (n * l.length + i))] 3)
            have hn4 : (B3.push (.cells #[.int .i64 (W (n * l.length + i))] 3)).next = B3.next + 1 := rfl
            generalize e4 : B3.push (.cells #[.int .i64 (W (n * l.length + i))] 3) = B4 at hz4 l4 hn4
            have n3 := hx3.next
            have hD4 : Nx D.next D B4 := hx2.trans ((hx3.le (by omega)).trans (hz4.le (by omega)))
            have hg4 := hg.nx hD.wf hD4
            by_cases hnH : n < H
            · have hd3 : decide ((n : Int) < (H : Int)) = true := decide_eq_true (by omega)
              have hcH := Nat.mul_le_mul_right l.length (show n + 1 ≤ H from hnH)
              rw [Nat.succ_mul] at hcH
              have m1 : min (n * l.length + i) (H * l.length) = n * l.length + i := by omega
              have m2 : min (n * l.length + (i + 1)) (H * l.length) = n * l.length + (i + 1) := by omega
              have z1 : n * l.length + i - H * l.length = 0 := by omega
              have z2 : n * l.length + (i + 1) - H * l.length = 0 := by omega
              rw [m1] at s11 hg4
              rw [z1] at s12 hg4
              have hg4' : Gr2 B4 wa wb B.next (redS W (n * l.length + i)) [] := hg4
              obtain ⟨B5, q1, n5, w5, hg5, nx5⟩ := Gr2.pushA hz4.wf hg4' (a2 := some ⟨B3.next, 0, none⟩) (c2 := 1) (b2 := B3.next) (x := W (n * l.length + i)) rfl (by rw [cl_of l4 rfl]; rfl) (by rw [redS_len]; omega) (by omega)
              rw [redS_len] at q1
              rw [redS_snoc] at hg5
              refine Rn.reg hc rfl ?_
              simp only [sev_tmp, sg_eq, sg_ne, sp_n, Nat.reduceLT, ne_eq, Nat.reduceEqDiff, not_false_eq_true, gd, want_free, rops, fx, bin_lss, Option.some.injEq, exists_eq_left', hn, s5, s13, hd3]
              (repeat (first | refine Rn.seq hc ?_ | refine Rn.skip hc ?_ | refine Rn.block hc ?_ | refine Rn.inBlock hc ?_ | refine Rn.scope hc ?_ | refine Rn.inScope hc ?_))
              refine Rn.condE hc rfl ?_
              simp only [sev_tmp, sg_eq, sp_n, Nat.reduceLT, Value.bool.injEq, exists_eq_left', hn]
              (repeat (first | refine Rn.seq hc ?_ | refine Rn.skip hc ?_ | refine Rn.block hc ?_ | refine Rn.inBlock hc ?_ | refine Rn.scope hc ?_ | refine Rn.inScope hc ?_))
              refine Rn.reg hc rfl ?_
              simp only [sev_tmp, sg_eq, sg_ne, sp_n, Nat.reduceLT, ne_eq, Nat.reduceEqDiff, not_false_eq_true, gd, want_free, rops, fx, Option.some.injEq, exists_eq_left', hn, s11, bs22_1, isCell, e4, ae_apd, apd_slice, q1]
              (repeat (first | refine Rn.seq hc ?_ | refine Rn.skip hc ?_ | refine Rn.block hc ?_ | refine Rn.inBlock hc ?_ | refine Rn.scope hc ?_ | refine Rn.inScope hc ?_))
              refine Rn.reg hc rfl ?_
              simp only [sev_tmp, sev_const, sg_eq, sg_ne, sp_n, Nat.reduceLT, ne_eq, Nat.reduceEqDiff, not_false_eq_true, gd, want_free, rops, fx, bin_add, Option.some.injEq, exists_eq_left', hn, s66, wrap_succ (show i < 9223372036854775807 by omega)]
              (repeat (first | refine Rn.seq hc ?_ | refine Rn.skip hc ?_ | refine Rn.block hc ?_ | refine Rn.inBlock hc ?_ | refine Rn.scope hc ?_ | refine Rn.inScope hc ?_))
              exact ih2 _ _ _ (by omega) ⟨i + 1, _, wb, by omega, rfl, hD.trans ((hD4.le nD).trans nx5), by rw [m2, z2]; exact hg5, by simp only [sp_n, hn], by simp only [sg_ne, ne_eq, Nat.reduceEqDiff, not_false_eq_true, s0], by simp only [sg_ne, ne_eq, Nat.reduceEqDiff, not_false_eq_true, s2], by simp only [sg_ne, ne_eq, Nat.reduceEqDiff, not_false_eq_true, s5], by simp only [sg_eq, sg_ne, sp_n, Nat.reduceLT, ne_eq, Nat.reduceEqDiff, not_false_eq_true, hn, m2, Nat.add_assoc], by simp only [sg_ne, ne_eq, Nat.reduceEqDiff, not_false_eq_true, s12, z2], by simp only [sg_ne, ne_eq, Nat.reduceEqDiff, not_false_eq_true, s60], by simp only [sg_ne, ne_eq, Nat.reduceEqDiff, not_false_eq_true, s61], by simp only [sg_ne, ne_eq, Nat.reduceEqDiff, not_false_eq_true, s13], by simp only [sg_ne, ne_eq, Nat.reduceEqDiff, not_false_eq_true, s64], by simp only [sg_ne, ne_eq, Nat.reduceEqDiff, not_false_eq_true, s65], by simp only [sg_eq, sp_n, Nat.reduceLT, hn]⟩
            · have hd3 : decide ((n : Int) < (H : Int)) = false := decide_eq_false (by omega)
              have hcH := Nat.mul_le_mul_right l.length (show H ≤ n by omega)
              obtain ⟨j, hj⟩ : ∃ j, n * l.length + i = H * l.length + j := ⟨n * l.length + i - H * l.length, by omega⟩
              have m1 : min (n * l.length + i) (H * l.length) = H * l.length := by omega
              have m2 : min (n * l.length + (i + 1)) (H * l.length) = H * l.length := by omega
              have z1 : n * l.length + i - H * l.length = j := by omega
              have z2 : n * l.length + (i + 1) - H * l.length = j + 1 := by omega
              rw [m1] at s11 hg4
              rw [z1] at s12 hg4
              obtain ⟨B5, q1, n5, w5, hg5, nx5⟩ := Gr2.pushB hz4.wf hg4 (a2 := some ⟨B3.next, 0, none⟩) (c2 := 1) (b2 := B3.next) (x := W (n * l.length + i)) rfl (by rw [cl_of l4 rfl]; rfl) (by rw [redR_len]; omega)
              rw [redR_len] at q1
              rw [hj, redR_snoc] at hg5
              refine Rn.reg hc rfl ?_
              simp only [sev_tmp, sg_eq, sg_ne, sp_n, Nat.reduceLT, ne_eq, Nat.reduceEqDiff, not_false_eq_true, gd, want_free, rops, fx, bin_lss, Option.some.injEq, exists_eq_left', hn, s5, s13, hd3]
              (repeat (first | refine Rn.seq hc ?_ | refine Rn.skip hc ?_ | refine Rn.block hc ?_ | refine Rn.inBlock hc ?_ | refine Rn.scope hc ?_ | refine Rn.inScope hc ?_))
              refine Rn.condE hc rfl ?_
              simp only [sev_tmp, sg_eq, sp_n, Nat.reduceLT, Value.bool.injEq, exists_eq_left', hn]
              (repeat (first | refine Rn.seq hc ?_ | refine Rn.skip hc ?_ | refine Rn.block hc ?_ | refine Rn.inBlock hc ?_ | refine Rn.scope hc ?_ | refine Rn.inScope hc ?_))
              refine Rn.reg hc rfl ?_
              simp only [sev_tmp, sg_eq, sg_ne, sp_n, Nat.reduceLT, ne_eq, Nat.reduceEqDiff, not_false_eq_true, gd, want_free, rops, fx, Option.some.injEq, exists_eq_left', hn, s12, bs22_1, isCell, e4, ae_apd, apd_slice, q1]
              (repeat (first | refine Rn.seq hc ?_ | refine Rn.skip hc ?_ | refine Rn.block hc ?_ | refine Rn.inBlock hc ?_ | refine Rn.scope hc ?_ | refine Rn.inScope hc ?_))
              refine Rn.reg hc rfl ?_
              simp only [sev_tmp, sev_const, sg_eq, sg_ne, sp_n, Nat.reduceLT, ne_eq, Nat.reduceEqDiff, not_false_eq_true, gd, want_free, rops, fx, bin_add, Option.some.injEq, exists_eq_left', hn, s66, wrap_succ (show i < 9223372036854775807 by omega)]
              (repeat (first | refine Rn.seq hc ?_ | refine Rn.skip hc ?_ | refine Rn.block hc ?_ | refine Rn.inBlock hc ?_ | refine Rn.scope hc ?_ | refine Rn.inScope hc ?_))
              exact ih2 _ _ _ (by omega) ⟨i + 1, wa, _, by omega, rfl, hD.trans ((hD4.le nD).trans nx5), by rw [m2, z2]; exact hg5, by simp only [sp_n, hn], by simp only [sg_ne, ne_eq, Nat.reduceEqDiff, not_false_eq_true, s0], by simp only [sg_ne, ne_eq, Nat.reduceEqDiff, not_false_eq_true, s2], by simp only [sg_ne, ne_eq, Nat.reduceEqDiff, not_false_eq_true, s5], by simp only [sg_ne, ne_eq, Nat.reduceEqDiff, not_false_eq_true, s11, m2], by simp only [sg_eq, sg_ne, sp_n, Nat.reduceLT, ne_eq, Nat.reduceEqDiff, not_false_eq_true, hn, z2], by simp only [sg_ne, ne_eq, Nat.reduceEqDiff, not_false_eq_true, s60], by simp only [sg_ne, ne_eq, Nat.reduceEqDiff, not_false_eq_true, s61], by simp only [sg_ne, ne_eq, Nat.reduceEqDiff, not_false_eq_true, s13], by simp only [sg_ne, ne_eq, Nat.reduceEqDiff, not_false_eq_true, s64], by simp only [sg_ne, ne_eq, Nat.reduceEqDiff, not_false_eq_true, s65], by simp only [sg_eq, sp_n, Nat.reduceLT, hn]⟩
          · have hd : decide ((i : Int) < (l.length : Int)) = false := decide_eq_false (by omega)
            have hil : i = l.length := by omega
            subst hil
            clear ih2
            refine Rn.reg hc rfl ?_
            simp only [sev_tmp, gd, want_free, rops, fx, bin_lss, Option.some.injEq, exists_eq_left', s65, s66, hd]
            (repeat (first | refine Rn.seq hc ?_ | refine Rn.skip hc ?_ | refine Rn.block hc ?_ | refine Rn.inBlock hc ?_ | refine Rn.scope hc ?_ | refine Rn.inScope hc ?_))
            refine Rn.condE hc rfl ?_
            simp only [sev_tmp, sg_eq, Nat.reduceLT, Value.bool.injEq, exists_eq_left', hn]
            (repeat (first | refine Rn.seq hc ?_ | refine Rn.skip hc ?_ | refine Rn.block hc ?_ | refine Rn.inBlock hc ?_ | refine Rn.scope hc ?_ | refine Rn.inScope hc ?_))
            refine Rn.exit hc rfl ?_
            (repeat (first | refine Rn.seq hc ?_ | refine Rn.skip hc ?_ | refine Rn.block hc ?_ | refine Rn.inBlock hc ?_ | refine Rn.scope hc ?_ | refine Rn.inScope hc ?_))
            rw [← Nat.succ_mul] at hg s11 s12
            refine Rn.reg hc rfl ?_
            simp only [sev_tmp, sev_const, sg_eq, sg_ne, sp_n, Nat.reduceLT, ne_eq, Nat.reduceEqDiff, not_false_eq_true, gd, want_free, rops, fx, bin_add, Option.some.injEq, exists_eq_left', hn, s61, wrap_succ (show n < 9223372036854775807 by omega)]
            (repeat (first | refine Rn.seq hc ?_ | refine Rn.skip hc ?_ | refine Rn.block hc ?_ | refine Rn.inBlock hc ?_ | refine Rn.scope hc ?_ | refine Rn.inScope hc ?_))
            exact ih _ _ _ (by omega) ⟨n + 1, wa, wb, by omega, rfl, hD, hg, by simp only [sp_n, hn], by simp only [sg_ne, ne_eq, Nat.reduceEqDiff, not_false_eq_true, s0], by simp only [sg_ne, ne_eq, Nat.reduceEqDiff, not_false_eq_true, s2], by simp only [sg_ne, ne_eq, Nat.reduceEqDiff, not_false_eq_true, s5], by simp only [sg_ne, ne_eq, Nat.reduceEqDiff, not_false_eq_true, s11], by simp only [sg_ne, ne_eq, Nat.reduceEqDiff, not_false_eq_true, s12], by simp only [sg_ne, ne_eq, Nat.reduceEqDiff, not_false_eq_true, s60], by simp only [sg_eq, sp_n, Nat.reduceLT, hn]⟩
        · have hd : decide ((n : Int) < ((H + p : Nat) : Int)) = false := decide_eq_false (by omega)
          have hnn : n = H + p := by omega
          subst hnn
          clear ih
          have m1 : min ((H + p) * l.length) (H * l.length) = H * l.length := by rw [Nat.add_mul]; omega
          have z1 : (H + p) * l.length - H * l.length = p * l.length := by rw [Nat.add_mul]; omega
          rw [m1] at s11 hg
          rw [z1] at s12 hg
          refine Rn.reg hc rfl ?_
          simp only [sev_tmp, gd, want_free, rops, fx, bin_lss, Option.some.injEq, exists_eq_left', s60, s61, hd]
          (repeat (first | refine Rn.seq hc ?_ | refine Rn.skip hc ?_ | refine Rn.block hc ?_ | refine Rn.inBlock hc ?_ | refine Rn.scope hc ?_ | refine Rn.inScope hc ?_))
          refine Rn.condE hc rfl ?_
          simp only [sev_tmp, sg_eq, Nat.reduceLT, Value.bool.injEq, exists_eq_left', hn]
          (repeat (first | refine Rn.seq hc ?_ | refine Rn.skip hc ?_ | refine Rn.block hc ?_ | refine Rn.inBlock hc ?_ | refine Rn.scope hc ?_ | refine Rn.inScope hc ?_))
          refine Rn.exit hc rfl ?_
          (repeat (first | refine Rn.seq hc ?_ | refine Rn.skip hc ?_ | refine Rn.block hc ?_ | refine Rn.inBlock hc ?_ | refine Rn.scope hc ?_ | refine Rn.inScope hc ?_))
          have hC0 : Nx A.next A C := hB0.trans (hC.le hB0.next)
          have nC := hC.next
          obtain ⟨_, b, o, rfl, hbb, c0, c1, c2⟩ := (hl.nx hC0) 0 (by omega)
          have c0' : cl C b o = some (.int .i64 (l.getD 0 noLas).m) := by rw [Nat.zero_mul, Nat.add_zero] at c0; exact c0
          have n0 : nlen (.int .i64 0) l.length = some 0 := nlen_nat (j := 0) (by omega)
          have lC : Canon.look C.objs A.next = _ := (hC.keep _ (by omega)).trans lB
          have hg2 := hg.snd
          have hlr := least_run hC.wf (m := (l.getD 0 noLas).m) (sc := H * l.length) (rc := p * l.length) (hg.g1.ints.mono (Nat.zero_le _) (Nat.le_refl _)) (hg2.ints.mono (Nat.zero_le _) (Nat.le_refl _)) (by rw [redS_len]; omega) (by rw [redR_len]; omega) (by rw [redR_len]; exact Nat.mul_pos hp0 (by omega)) (hg.g1.sl.mono (Nat.zero_le _)) (by rw [redS_len]; exact Nat.le_refl _)
          rw [atL_redF hPer] at hlr
          simp only [redS_len, redR_len] at hlr
          refine Rn.region hc fun K hK => ?_
          refine Wo.run hc 6 rfl rfl rfl ?_
          simp (maxSteps := 2000000) only [List.drop_zero, List.take_succ_cons, List.take_zero, sev_tmp, sev_const, sg_eq, sg_ne, sp_n, Nat.reduceLT, ne_eq, Nat.reduceEqDiff, not_false_eq_true, gd, want_free, rops, fx, ld, fad, idx, adr_p, Nat.zero_add, Nat.add_zero, Option.some.injEq, exists_eq_left', tk3, fo24_0, eo46, hn, s0, s11, s12, n0, c0', Nat.zero_mul]
          refine Wo.call hc (by rfl) (by rfl) ⟨by rfl, by rfl⟩ (xs := [.int .i64 (l.getD 0 noLas).m, .slice wa (H * l.length) (H * l.length), .slice wb (p * l.length) (p * l.length)]) (by rfl) (by rfl) (by simp only [sev_tmp, sg_eq, sg_ne, sp_n, Nat.reduceLT, ne_eq, Nat.reduceEqDiff, not_false_eq_true, List.map_cons, List.map_nil, List.nil_append, List.append_nil, hn]) (Con.mono (hlr) ?_)
          rintro w C3 ⟨a', p', hred', _, _, hq⟩
          obtain ⟨mm, n1, n2, ee, p1, c1, p2, c2, rfl, D, q1, g0, g1, g2, hoff, hT⟩ := Tld.fin (b := A.next) hC0 (Nat.le_refl _) (by omega) lC (tld_q (m := (l.getD 0 noLas).m) hred' hq)
          refine Wo.run hc 4 rfl rfl rfl ?_
          simp (maxSteps := 2000000) only [List.drop_zero, List.drop_succ_cons, List.take_succ_cons, List.take_zero, sev_tmp, sg_eq, sg_ne, sp_n, sp_none, Nat.reduceLT, ne_eq, Nat.reduceEqDiff, not_false_eq_true, gd, want_free, rops, fx, str, ext, adr_p, List.getElem?_toArray, List.getElem?_cons_zero, List.getElem?_cons_succ, Nat.zero_add, Option.some.injEq, exists_eq_left', Nat.reduceAdd, tk24, hn, s2, ext, q1, List.size_toArray, List.length_cons, List.length_nil, Nat.beq_refl]
          refine Wo.done hc rfl (hK _ _ ?_)
          clear hK
          (repeat (first | refine Rn.seq hc ?_ | refine Rn.skip hc ?_ | refine Rn.block hc ?_ | refine Rn.inBlock hc ?_ | refine Rn.scope hc ?_ | refine Rn.inScope hc ?_))
          refine Rn.ret (endQ_ct rfl (v := .agg #[.int .i64 mm, .slice p1 n1 c1, .slice p2 n2 c2]) ?_ ?_)
          · simp only [sg_ne, ne_eq, Nat.reduceEqDiff, not_false_eq_true, ld, adr_p, cls, Nat.zero_add, Nat.reduceAdd, tk24, s2, g0, g1, g2]
          · simp only [sg_eq, sp_n, Nat.reduceLT, hn]
            exact hT
    · have hd : (!decide (errs l l = 0)) = true := by rw [decide_eq_false he]; rfl
      obtain ⟨D, q1, g0, g1, g2, hxD⟩ := err_fin hx02 (Nat.le_refl _) n2 l2
      have hE2 : E = errs l l := by rw [hE, erW, if_neg hlen, if_neg he]
      rw [hE2]
      refine Rn.reg hc rfl ?_
      simp only [sev_tmp, sev_const, sg_eq, sp_n, Nat.reduceLT, gd, want_free, rops, fx, bin_neq, Option.some.injEq, exists_eq_left', hd]
      (repeat (first | refine Rn.seq hc ?_ | refine Rn.skip hc ?_ | refine Rn.block hc ?_ | refine Rn.inBlock hc ?_ | refine Rn.scope hc ?_ | refine Rn.inScope hc ?_))
      refine Rn.condE hc rfl ?_
      simp only [sev_tmp, sg_eq, sp_n, Nat.reduceLT, Value.bool.injEq, exists_eq_left']
      (repeat (first | refine Rn.seq hc ?_ | refine Rn.skip hc ?_ | refine Rn.block hc ?_ | refine Rn.inBlock hc ?_ | refine Rn.scope hc ?_ | refine Rn.inScope hc ?_))
      refine Rn.reg hc rfl ?_
      simp only [sev_tmp, sg_eq, sg_ne, sp_n, sp_none, Nat.reduceLT, ne_eq, Nat.reduceEqDiff, not_false_eq_true, gd, want_free, rops, fx, str, adr_p, Nat.zero_add, Option.some.injEq, exists_eq_left', Nat.reduceAdd, tk24, bd24_z, q1, List.size_toArray, List.length_cons, List.length_nil, Nat.beq_refl]
      (repeat (first | refine Rn.seq hc ?_ | refine Rn.skip hc ?_ | refine Rn.block hc ?_ | refine Rn.inBlock hc ?_ | refine Rn.scope hc ?_ | refine Rn.inScope hc ?_))
      refine Rn.ret (endQ_ct rfl (v := .agg #[.int .i64 0, .slice none 0 0, .slice none 0 0]) ?_ ?_)
      · simp only [sg_eq, sg_ne, sp_n, Nat.reduceLT, ne_eq, Nat.reduceEqDiff, not_false_eq_true, ld, adr_p, cls, Nat.zero_add, Nat.reduceAdd, tk24, g0, g1, g2]
      · simp only [sg_eq, sp_n, Nat.reduceLT]
        exact tld_err he hxD
end Go.Proofs.Ytdaljohmfnfgiaa
/- Several streams, woven, by the reference: what it takes. No condition. -/
namespace Go.Proofs.Ytdaljohmfnfgiaa
open Go Go.RowKit Go.Proofs.Ytdaljohmfnfgiaa.Canon
set_option maxRecDepth 20000
theorem un24r : ∃ f g h : Field, Try.prog.underlying 24 = some (.struct #[f, g, h]) ∧ h.type = 22 ∧ h.offset = 2 := by
  refine ⟨{ name := "Mod", type := 3, offset := 0, embedded := false, tag := "", pkgPath := "", byteOffset := 0 }, { name := "Stem", type := 22, offset := 1, embedded := false, tag := "", pkgPath := "", byteOffset := 8 }, { name := "Round", type := 22, offset := 2, embedded := false, tag := "", pkgPath := "", byteOffset := 32 }, by kernel_rfl, rfl, rfl⟩
noncomputable def fldV (v : Value) (A : AHeap) : Option (Value × AHeap) := arun Try.prog (Instr.field 24 v 2) A
section
variable {d : Option Tmp} {ty : TypeId} {pos : String} {af : Array Edge} {gu : Option (Nat × Bool)} {A : AHeap}
theorem ae_fld {s : Slots} {x : Tmp} : aexec Try.prog (seval s) ⟨d, .field 24 (.tmp x) 2, ty, pos, af, gu⟩ A = fldV (sget s x) A := by
  simp [aexec, Op.operands, opnOK, sev_tmp, fldV]
theorem fldV_agg {v0 v1 v2 : Value} : fldV (.agg #[v0, v1, v2]) A = some (v2, A) := by
  obtain ⟨f, g, h, hu, h1, h2⟩ := un24r
  unfold fldV Instr.field
  simp [Go.underlying, hu, h1, h2, Go.part, Go.isAgg, Go.asAgg]
end
theorem Gr2.ext {A B : AHeap} {wa wb : Option Addr} {lo : Nat} {L1 L2 : List Int} (h : Gr2 A wa wb lo L1 L2) (hn : A.next ≤ B.next) (he : ∀ b, lo ≤ b → Canon.look A.objs b = none ∨ Canon.look B.objs b = Canon.look A.objs b) : Gr2 B wa wb lo L1 L2 := by
  obtain ⟨M, h1, h2, h3, h4⟩ := h.g2
  exact ⟨h.g1.ext hn he, ⟨M, h1, Nat.le_trans h2 hn, h3, h4.ext hn fun b hb => he b (Nat.le_trans h1 hb)⟩, h.nl⟩
theorem Gr2.lt1 {A : AHeap} (hw : WF A) {wa wb : Option Addr} {lo : Nat} {L1 L2 : List Int} (h : Gr2 A wa wb lo L1 L2) (y : Addr) (hy : wa = some y) : lo ≤ y.block ∧ y.block < A.next := by
  obtain ⟨_, h1, z, hz, _⟩ := h.g1.sl y hy
  exact ⟨h1, hw _ _ hz⟩
theorem Gr2.lt2 {A : AHeap} (hw : WF A) {wa wb : Option Addr} {lo : Nat} {L1 L2 : List Int} (h : Gr2 A wa wb lo L1 L2) (y : Addr) (hy : wb = some y) : lo ≤ y.block ∧ y.block < A.next := by
  obtain ⟨_, h1, z, hz, _⟩ := h.snd.sl y hy
  exact ⟨h1, hw _ _ hz⟩
theorem Gr2.pushA' {A : AHeap} (hw : WF A) {wa wb : Option Addr} {lo : Nat} {L1 : List Int} (h : Gr2 A wa wb lo L1 []) {a2 : Option Addr} {c2 : Nat} {x : Int} {b2 : Nat} (ha2 : a2 = some ⟨b2, 0, none⟩) (hx : cl A b2 0 = some (.int .i64 x)) (hlen : L1.length ≤ 100000) (hlo : lo ≤ A.next) :
    ∃ A1, aapp Try.prog #[22, 22] #[.slice wa L1.length L1.length, .slice a2 1 c2] A = some (.slice (some ⟨A.next, 0, none⟩) (L1.length + 1) (L1.length + 1), A1) ∧ A1.next = A.next + 1 ∧ WF A1 ∧ Gr2 A1 (some ⟨A.next, 0, none⟩) wb lo (L1 ++ [x]) [] ∧ Nx lo A A1 ∧ (∀ b, b < A.next → (∀ y, wa = some y → y.block ≠ b) → Canon.look A1.objs b = Canon.look A.objs b) := by
  obtain ⟨A1, q1, n1, w1, g1, kp, k1⟩ := gr_push hw h.g1 ha2 hx hlen (c2 := c2)
  have hb := h.nl rfl
  subst hb
  refine ⟨A1, q1, n1, w1, ⟨g1.mono hlo, ⟨A1.next, by omega, Nat.le_refl _, fun y hy => ?_, Gr.nil _ _⟩, fun _ => rfl⟩, k1.le (by omega), kp⟩
  cases hy
  show A.next < A1.next
  omega
theorem Gr2.pushB' {A : AHeap} (hw : WF A) {wa wb : Option Addr} {lo : Nat} {L1 L2 : List Int} (h : Gr2 A wa wb lo L1 L2) {a2 : Option Addr} {c2 : Nat} {x : Int} {b2 : Nat} (ha2 : a2 = some ⟨b2, 0, none⟩) (hx : cl A b2 0 = some (.int .i64 x)) (hlen : L2.length ≤ 100000) :
    ∃ A1, aapp Try.prog #[22, 22] #[.slice wb L2.length L2.length, .slice a2 1 c2] A = some (.slice (some ⟨A.next, 0, none⟩) (L2.length + 1) (L2.length + 1), A1) ∧ A1.next = A.next + 1 ∧ WF A1 ∧ Gr2 A1 wa (some ⟨A.next, 0, none⟩) lo L1 (L2 ++ [x]) ∧ Nx lo A A1 ∧ (∀ b, b < A.next → (∀ y, wb = some y → y.block ≠ b) → Canon.look A1.objs b = Canon.look A.objs b) := by
  obtain ⟨A1, q1, n1, w1, g1, k1⟩ := h.pushB hw ha2 hx hlen (c2 := c2)
  obtain ⟨M, h1, h2, h3, h4⟩ := h.g2
  obtain ⟨A2, q2, _, _, _, kp, _⟩ := gr_push hw h4 ha2 hx hlen (c2 := c2)
  rw [q1] at q2
  cases q2
  exact ⟨A1, q1, n1, w1, g1, k1, kp⟩
end Go.Proofs.Ytdaljohmfnfgiaa

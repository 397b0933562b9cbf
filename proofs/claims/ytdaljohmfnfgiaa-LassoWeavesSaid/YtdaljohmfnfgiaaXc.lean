/- LassoWeavesSaid: the law returns true for every input, and each argument reads afterwards as it read before. No condition. -/
import Derived.Test.YtdaljohmfnfgiaaXb
/- Several streams, woven, by the reference. No condition. -/
namespace Go.Proofs.Ytdaljohmfnfgiaa
open Go Go.RowKit Go.Proofs.Ytdaljohmfnfgiaa.Canon
set_option maxRecDepth 20000


theorem weave_ref {A : AHeap} (hw : WF A) {a : Option Addr} {c : Nat} {l : List Las} (hl : LRow A a l) (hsl : ∀ i, i < l.length → (0 < (l.getD i noLas).ro.length → Sl A (l.getD i noLas).ra 0) ∧ (l.getD i noLas).ro.length ≤ (l.getD i noLas).rc) {fa fp : Nat → Nat} (hred : errs l l = 0 → RedL l fa fp) :
    Con Try.prog 40 [.slice a l.length c] A (TldR A (erW l fp) (l.getD 0 noLas).m (wov l)) := by
  refine con_of_rn hc Try.func40 rfl (Nat.le_of_ble_eq_true rfl) ?_
  have hx1 : Nx A.next A (A.push (.cells #[.int .i64 0, .slice none 0 0, .slice none 0 0] 24)) := (Nx.refl hw _).push (Nat.le_refl _) _
  have l1 := look_push_eq A (.cells #[.int .i64 0, .slice none 0 0, .slice none 0 0] 24)
  have hn1 : (A.push (.cells #[.int .i64 0, .slice none 0 0, .slice none 0 0] 24)).next = A.next + 1 := rfl
  generalize e1 : A.push (.cells #[.int .i64 0, .slice none 0 0, .slice none 0 0] 24) = A1 at hx1 l1 hn1
  obtain ⟨E, hE⟩ : ∃ E, E = erW l fp := ⟨_, rfl⟩
  rw [s_in1, ← hE]
  (repeat (first | refine Rn.seq hc ?_ | refine Rn.skip hc ?_ | refine Rn.block hc ?_ | refine Rn.inBlock hc ?_ | refine Rn.scope hc ?_ | refine Rn.inScope hc ?_))
  refine Rn.reg hc rfl ?_
  simp only [sev_const, gd, want_free, rops, fx, Option.some.injEq, exists_eq_left', Value.cells, show Try.f40.ntmps = 117 from rfl, ze24, e1]
  (repeat (first | refine Rn.seq hc ?_ | refine Rn.skip hc ?_ | refine Rn.block hc ?_ | refine Rn.inBlock hc ?_ | refine Rn.scope hc ?_ | refine Rn.inScope hc ?_))
  clear e1
  by_cases hlen : l.length < 1 ∨ 8 < l.length
  · obtain ⟨D, q1, g0, g1, g2, hxD⟩ := err_fin hx1 (Nat.le_refl _) (by omega) l1
    have hE2 : E = 2 := by rw [hE, erW, if_pos hlen]
    rw [hE2]
    rcases bad2 hlen with h1 | ⟨h1, h2⟩
    · refine Rn.reg hc rfl ?_
      simp only [sev_tmp, sev_const, sg_eq, sg_ne, sp_n, Nat.reduceLT, ne_eq, Nat.reduceEqDiff, not_false_eq_true, gd, nth, want_free, want_slot, beqB, rops, fx, lng, pck, bin_lss, Option.some.injEq, exists_eq_left', un46, h1]
      (repeat (first | refine Rn.seq hc ?_ | refine Rn.skip hc ?_ | refine Rn.block hc ?_ | refine Rn.inBlock hc ?_ | refine Rn.scope hc ?_ | refine Rn.inScope hc ?_))
      refine Rn.condE hc rfl ?_
      simp only [sev_tmp, sg_eq, sp_n, Nat.reduceLT, Value.bool.injEq, exists_eq_left']
      (repeat (first | refine Rn.seq hc ?_ | refine Rn.skip hc ?_ | refine Rn.block hc ?_ | refine Rn.inBlock hc ?_ | refine Rn.scope hc ?_ | refine Rn.inScope hc ?_))
      refine Rn.reg hc rfl ?_
      simp only [sev_tmp, sev_const, sg_eq, sg_ne, sp_n, sp_none, Nat.reduceLT, ne_eq, Nat.reduceEqDiff, not_false_eq_true, gd, want_free, rops, fx, str, adr_p, Nat.zero_add, Option.some.injEq, exists_eq_left', Nat.reduceAdd, tk24, bd24_z, q1, List.size_toArray, List.length_cons, List.length_nil, Nat.beq_refl]
      (repeat (first | refine Rn.seq hc ?_ | refine Rn.skip hc ?_ | refine Rn.block hc ?_ | refine Rn.inBlock hc ?_ | refine Rn.scope hc ?_ | refine Rn.inScope hc ?_))
      refine Rn.ret (endQ_ct rfl (v := .agg #[.int .i64 0, .slice none 0 0, .slice none 0 0]) ?_ ?_)
      · simp only [sg_eq, sg_ne, sp_n, Nat.reduceLT, ne_eq, Nat.reduceEqDiff, not_false_eq_true, ld, adr_p, cls, Nat.zero_add, Nat.reduceAdd, tk24, g0, g1, g2]
      · simp only [sg_eq, sp_n, Nat.reduceLT]
        exact tldR_err (by omega) hxD
    · refine Rn.reg hc rfl ?_
      simp only [sev_tmp, sev_const, sg_eq, sg_ne, sp_n, Nat.reduceLT, ne_eq, Nat.reduceEqDiff, not_false_eq_true, gd, nth, want_free, want_slot, beqB, rops, fx, lng, pck, bin_lss, bin_gtr, Option.some.injEq, exists_eq_left', un46, h1, h2]
      (repeat (first | refine Rn.seq hc ?_ | refine Rn.skip hc ?_ | refine Rn.block hc ?_ | refine Rn.inBlock hc ?_ | refine Rn.scope hc ?_ | refine Rn.inScope hc ?_))
      refine Rn.condE hc rfl ?_
      simp only [sev_tmp, sg_eq, sp_n, Nat.reduceLT, Value.bool.injEq, exists_eq_left']
      (repeat (first | refine Rn.seq hc ?_ | refine Rn.skip hc ?_ | refine Rn.block hc ?_ | refine Rn.inBlock hc ?_ | refine Rn.scope hc ?_ | refine Rn.inScope hc ?_))
      refine Rn.reg hc rfl ?_
      simp only [sev_tmp, sev_const, sg_eq, sg_ne, sp_n, sp_none, Nat.reduceLT, ne_eq, Nat.reduceEqDiff, not_false_eq_true, gd, want_free, rops, fx, str, adr_p, Nat.zero_add, Option.some.injEq, exists_eq_left', Nat.reduceAdd, tk24, bd24_z, q1, List.size_toArray, List.length_cons, List.length_nil, Nat.beq_refl]
      (repeat (first | refine Rn.seq hc ?_ | refine Rn.skip hc ?_ | refine Rn.block hc ?_ | refine Rn.inBlock hc ?_ | refine Rn.scope hc ?_ | refine Rn.inScope hc ?_))
      refine Rn.ret (endQ_ct rfl (v := .agg #[.int .i64 0, .slice none 0 0, .slice none 0 0]) ?_ ?_)
      · simp only [sg_eq, sg_ne, sp_n, Nat.reduceLT, ne_eq, Nat.reduceEqDiff, not_false_eq_true, ld, adr_p, cls, Nat.zero_add, Nat.reduceAdd, tk24, g0, g1, g2]
      · simp only [sg_eq, sp_n, Nat.reduceLT]
        exact tldR_err (by omega) hxD
  · have h1 : decide ((l.length : Int) < 1) = false := decide_eq_false (by omega)
    have h2 : decide (8 < (l.length : Int)) = false := decide_eq_false (by omega)
    refine Rn.reg hc rfl ?_
    simp only [sev_tmp, sev_const, sg_eq, sg_ne, sp_n, Nat.reduceLT, ne_eq, Nat.reduceEqDiff, not_false_eq_true, gd, nth, want_free, want_slot, beqB, rops, fx, lng, pck, bin_lss, bin_gtr, Option.some.injEq, exists_eq_left', un46, h1, h2]
    (repeat (first | refine Rn.seq hc ?_ | refine Rn.skip hc ?_ | refine Rn.block hc ?_ | refine Rn.inBlock hc ?_ | refine Rn.scope hc ?_ | refine Rn.inScope hc ?_))
    refine Rn.condE hc rfl ?_
    simp only [sev_tmp, sg_eq, sp_n, Nat.reduceLT, Value.bool.injEq, exists_eq_left']
    (repeat (first | refine Rn.seq hc ?_ | refine Rn.skip hc ?_ | refine Rn.block hc ?_ | refine Rn.inBlock hc ?_ | refine Rn.scope hc ?_ | refine Rn.inScope hc ?_))
    clear h1 h2
    have k1 : 1 ≤ l.length := by omega
    have k8 : l.length ≤ 8 := by omega
    have n1 : A.next < A1.next := by omega
    refine Rn.reg hc rfl ?_
    simp only [sev_tmp, sev_const, sg_eq, sg_ne, sp_n, Nat.reduceLT, ne_eq, Nat.reduceEqDiff, not_false_eq_true, gd, want_free, rops, fx, lng, Option.some.injEq, exists_eq_left', un46]
    (repeat (first | refine Rn.seq hc ?_ | refine Rn.skip hc ?_ | refine Rn.block hc ?_ | refine Rn.inBlock hc ?_ | refine Rn.scope hc ?_ | refine Rn.inScope hc ?_))
    refine Rn.loopI hc (I := fun k s B => ∃ i, i ≤ l.length ∧ k = l.length - i ∧ Nx A1.next A1 B ∧ s.n = 117 ∧ sget s 0 = .slice a l.length c ∧ sget s 2 = .pointer (some ⟨A.next, 0, none⟩) ∧ sget s 26 = .slice a l.length c ∧ sget s 27 = .int .i64 (l.length : Int) ∧ sget s 28 = .int .i64 (i : Int) ∧ errs l l = errs l (l.drop i))
      (n := l.length) ⟨0, by omega, rfl, Nx.refl hx1.wf _, by simp only [sp_n], by simp only [sg_eq, sg_ne, Nat.reduceLT, ne_eq, Nat.reduceEqDiff, not_false_eq_true], by simp only [sg_eq, sg_ne, sp_n, Nat.reduceLT, ne_eq, Nat.reduceEqDiff, not_false_eq_true], by simp only [sg_eq, sg_ne, sp_n, Nat.reduceLT, ne_eq, Nat.reduceEqDiff, not_false_eq_true], by simp only [sg_eq, sg_ne, sp_n, Nat.reduceLT, ne_eq, Nat.reduceEqDiff, not_false_eq_true], by simp only [sg_eq, sp_n, Nat.reduceLT]; rfl, rfl⟩ ?_
    rintro k s B ⟨i, hi, rfl, hB, hn, s0, s2, s26, s27, s28, hall⟩ ih
    have hA : Nx A.next A B := hx1.trans (hB.le hx1.next)
    have nB := hB.next
    have lB : Canon.look B.objs A.next = _ := (hB.keep _ n1).trans l1
    (repeat (first | refine Rn.seq hc ?_ | refine Rn.skip hc ?_ | refine Rn.block hc ?_ | refine Rn.inBlock hc ?_ | refine Rn.scope hc ?_ | refine Rn.inScope hc ?_))
    by_cases hlt : i < l.length
    · have hd : decide ((i : Int) < (l.length : Int)) = true := decide_eq_true (by omega)
      obtain ⟨hok, b, o, rfl, hbb, c0, c1, c2⟩ := (hl.nx hA) i hlt
      rw [errs_drop l hlt] at hall
      obtain ⟨A2, p1, hx2, hn2, d0, d1, d2⟩ := put24 hB.wf (v0 := .int .i64 (l.getD i noLas).m) (v1 := .slice (l.getD i noLas).sa (l.getD i noLas).st.length (l.getD i noLas).sc) (v2 := .slice (l.getD i noLas).ra (l.getD i noLas).ro.length (l.getD i noLas).rc) rfl
      have hok2 := hok.nx hx2
      refine Rn.reg hc rfl ?_
      simp only [sev_tmp, gd, want_free, rops, fx, bin_lss, Option.some.injEq, exists_eq_left', s27, s28, hd]
      (repeat (first | refine Rn.seq hc ?_ | refine Rn.skip hc ?_ | refine Rn.block hc ?_ | refine Rn.inBlock hc ?_ | refine Rn.scope hc ?_ | refine Rn.inScope hc ?_))
      refine Rn.condE hc rfl ?_
      simp only [sev_tmp, sg_eq, Nat.reduceLT, Value.bool.injEq, exists_eq_left', hn]
      (repeat (first | refine Rn.seq hc ?_ | refine Rn.skip hc ?_ | refine Rn.block hc ?_ | refine Rn.inBlock hc ?_ | refine Rn.scope hc ?_ | refine Rn.inScope hc ?_))
      refine Rn.reg hc rfl ?_
      simp only [sev_tmp, sg_eq, sg_ne, sp_n, sp_none, Nat.reduceLT, ne_eq, Nat.reduceEqDiff, not_false_eq_true, gd, want_free, rops, fx, ld, str, idx, adr_p, cls, Nat.zero_add, Option.some.injEq, exists_eq_left', Value.cells, Nat.reduceAdd, tk24, eo46, hn, s26, s28, nlen_nat hlt, c0, c1, c2, ze24, p1, List.size_toArray, List.length_cons, List.length_nil, Nat.beq_refl]
      (repeat (first | refine Rn.seq hc ?_ | refine Rn.skip hc ?_ | refine Rn.block hc ?_ | refine Rn.inBlock hc ?_ | refine Rn.scope hc ?_ | refine Rn.inScope hc ?_))
      refine Rn.region hc fun K hK => ?_
      refine Wo.run hc 1 rfl rfl rfl ?_
      simp (maxSteps := 2000000) only [List.drop_zero, List.take_succ_cons, List.take_zero, sev_tmp, sg_eq, sp_n, Nat.reduceLT, gd, want_free, rops, fx, ld, adr_p, cls, Nat.zero_add, Option.some.injEq, exists_eq_left', Nat.reduceAdd, tk24, hn, d0, d1, d2]
      refine Wo.call hc (by rfl) (by rfl) ⟨by rfl, by rfl⟩ (xs := [.agg #[.int .i64 (l.getD i noLas).m, .slice (l.getD i noLas).sa (l.getD i noLas).st.length (l.getD i noLas).sc, .slice (l.getD i noLas).ra (l.getD i noLas).ro.length (l.getD i noLas).rc]]) (by rfl) (by rfl) (by simp only [sev_tmp, sg_eq, sp_n, Nat.reduceLT, List.map_cons, List.map_nil, List.nil_append, List.append_nil, hn]) (Con.mono (check_ref hx2.wf hok2.1 hok2.2.1 hok2.2.2.1 hok2.2.2.2) ?_)
      rintro v A3 ⟨rfl, h3⟩
      refine Wo.run hc 1 rfl rfl rfl ?_
      simp (maxSteps := 2000000) only [List.drop_zero, List.drop_succ_cons, List.take_succ_cons, List.take_zero, sev_tmp, sg_eq, sp_n, Nat.reduceLT, gd, want_free, rops, fx, Option.some.injEq, exists_eq_left', Nat.reduceAdd, hn]
      refine Wo.done hc rfl (hK _ _ ?_)
      clear hK
      (repeat (first | refine Rn.seq hc ?_ | refine Rn.skip hc ?_ | refine Rn.block hc ?_ | refine Rn.inBlock hc ?_ | refine Rn.scope hc ?_ | refine Rn.inScope hc ?_))
      have hB3 : Nx B.next B A3 := hx2.trans (h3.le hx2.next)
      have hA3 : Nx A1.next A1 A3 := hB.trans (hB3.le nB)
      by_cases he : (l.getD i noLas).err = 0
      · rw [if_pos he] at hall
        have hd2 : (!decide (errL (l.getD i noLas).m (l.getD i noLas).st (l.getD i noLas).ro = 0)) = false := by
          unfold Las.err at he
          rw [decide_eq_true he]; rfl
        refine Rn.reg hc rfl ?_
        simp only [sev_tmp, sev_const, sg_eq, sp_n, Nat.reduceLT, gd, want_free, rops, fx, bin_neq, Option.some.injEq, exists_eq_left', hn, hd2]
        (repeat (first | refine Rn.seq hc ?_ | refine Rn.skip hc ?_ | refine Rn.block hc ?_ | refine Rn.inBlock hc ?_ | refine Rn.scope hc ?_ | refine Rn.inScope hc ?_))
        refine Rn.condE hc rfl ?_
        simp only [sev_tmp, sg_eq, sp_n, Nat.reduceLT, Value.bool.injEq, exists_eq_left', hn]
        (repeat (first | refine Rn.seq hc ?_ | refine Rn.skip hc ?_ | refine Rn.block hc ?_ | refine Rn.inBlock hc ?_ | refine Rn.scope hc ?_ | refine Rn.inScope hc ?_))
        refine Rn.reg hc rfl ?_
        simp only [sev_tmp, sev_const, sg_eq, sg_ne, sp_n, Nat.reduceLT, ne_eq, Nat.reduceEqDiff, not_false_eq_true, gd, want_free, rops, fx, bin_add, Option.some.injEq, exists_eq_left', hn, s28, wrap_succ (show i < 9223372036854775807 by omega)]
        (repeat (first | refine Rn.seq hc ?_ | refine Rn.skip hc ?_ | refine Rn.block hc ?_ | refine Rn.inBlock hc ?_ | refine Rn.scope hc ?_ | refine Rn.inScope hc ?_))
        exact ih _ _ _ (by omega) ⟨i + 1, by omega, rfl, hA3, by simp only [sp_n, hn], by simp only [sg_ne, ne_eq, Nat.reduceEqDiff, not_false_eq_true, s0], by simp only [sg_ne, ne_eq, Nat.reduceEqDiff, not_false_eq_true, s2], by simp only [sg_ne, ne_eq, Nat.reduceEqDiff, not_false_eq_true, s26], by simp only [sg_ne, ne_eq, Nat.reduceEqDiff, not_false_eq_true, s27], by simp only [sg_eq, sp_n, Nat.reduceLT, hn], hall⟩
      · rw [if_neg he] at hall
        have hd2 : (!decide (errL (l.getD i noLas).m (l.getD i noLas).st (l.getD i noLas).ro = 0)) = true := by
          unfold Las.err at he
          rw [decide_eq_false he]; rfl
        have hA03 : Nx A.next A A3 := hA.trans (hB3.le hA.next)
        obtain ⟨D, q1, g0, g1, g2, hxD⟩ := err_fin hA03 (Nat.le_refl _) (by have := hB3.next; omega) ((hB3.keep _ (by omega)).trans lB)
        have hE2 : E = errL (l.getD i noLas).m (l.getD i noLas).st (l.getD i noLas).ro := by
          rw [hE, erW, if_neg hlen, hall, if_neg he]
          rfl
        rw [hE2]
        refine Rn.reg hc rfl ?_
        simp only [sev_tmp, sev_const, sg_eq, sp_n, Nat.reduceLT, gd, want_free, rops, fx, bin_neq, Option.some.injEq, exists_eq_left', hn, hd2]
        (repeat (first | refine Rn.seq hc ?_ | refine Rn.skip hc ?_ | refine Rn.block hc ?_ | refine Rn.inBlock hc ?_ | refine Rn.scope hc ?_ | refine Rn.inScope hc ?_))
        refine Rn.condE hc rfl ?_
        simp only [sev_tmp, sg_eq, sp_n, Nat.reduceLT, Value.bool.injEq, exists_eq_left', hn]
        (repeat (first | refine Rn.seq hc ?_ | refine Rn.skip hc ?_ | refine Rn.block hc ?_ | refine Rn.inBlock hc ?_ | refine Rn.scope hc ?_ | refine Rn.inScope hc ?_))
        refine Rn.reg hc rfl ?_
        simp only [sev_tmp, sg_eq, sg_ne, sp_n, sp_none, Nat.reduceLT, ne_eq, Nat.reduceEqDiff, not_false_eq_true, gd, want_free, rops, fx, str, adr_p, Nat.zero_add, Option.some.injEq, exists_eq_left', Nat.reduceAdd, tk24, hn, s2, bd24_z, q1, List.size_toArray, List.length_cons, List.length_nil, Nat.beq_refl]
        (repeat (first | refine Rn.seq hc ?_ | refine Rn.skip hc ?_ | refine Rn.block hc ?_ | refine Rn.inBlock hc ?_ | refine Rn.scope hc ?_ | refine Rn.inScope hc ?_))
        refine Rn.ret (endQ_ct rfl (v := .agg #[.int .i64 0, .slice none 0 0, .slice none 0 0]) ?_ ?_)
        · simp only [sg_ne, ne_eq, Nat.reduceEqDiff, not_false_eq_true, ld, adr_p, cls, Nat.zero_add, Nat.reduceAdd, tk24, s2, g0, g1, g2]
        · simp only [sg_eq, sp_n, Nat.reduceLT, hn]
          exact tldR_err he hxD
    · have hd : decide ((i : Int) < (l.length : Int)) = false := decide_eq_false (by omega)
      have hil : i = l.length := by omega
      subst hil
      rw [List.drop_length, errs] at hall
      clear ih
      refine Rn.reg hc rfl ?_
      simp only [sev_tmp, gd, want_free, rops, fx, bin_lss, Option.some.injEq, exists_eq_left', s27, s28, hd]
      (repeat (first | refine Rn.seq hc ?_ | refine Rn.skip hc ?_ | refine Rn.block hc ?_ | refine Rn.inBlock hc ?_ | refine Rn.scope hc ?_ | refine Rn.inScope hc ?_))
      refine Rn.condE hc rfl ?_
      simp only [sev_tmp, sg_eq, Nat.reduceLT, Value.bool.injEq, exists_eq_left', hn]
      (repeat (first | refine Rn.seq hc ?_ | refine Rn.skip hc ?_ | refine Rn.block hc ?_ | refine Rn.inBlock hc ?_ | refine Rn.scope hc ?_ | refine Rn.inScope hc ?_))
      refine Rn.exit hc rfl ?_
      (repeat (first | refine Rn.seq hc ?_ | refine Rn.skip hc ?_ | refine Rn.block hc ?_ | refine Rn.inBlock hc ?_ | refine Rn.scope hc ?_ | refine Rn.inScope hc ?_))
      refine Rn.reg hc rfl ?_
      simp only [sev_tmp, sev_const, sg_eq, sg_ne, sp_n, Nat.reduceLT, ne_eq, Nat.reduceEqDiff, not_false_eq_true, gd, want_free, rops, fx, lng, Option.some.injEq, exists_eq_left', un46, hn, s0]
      (repeat (first | refine Rn.seq hc ?_ | refine Rn.skip hc ?_ | refine Rn.block hc ?_ | refine Rn.inBlock hc ?_ | refine Rn.scope hc ?_ | refine Rn.inScope hc ?_))
      clear hd s26 s27 s28
      refine Rn.loopI hc (I := fun k s C => ∃ i, i ≤ l.length ∧ k = l.length - i ∧ Nx B.next B C ∧ s.n = 117 ∧ sget s 0 = .slice a l.length c ∧ sget s 2 = .pointer (some ⟨A.next, 0, none⟩) ∧ sget s 39 = .slice a l.length c ∧ sget s 40 = .int .i64 (l.length : Int) ∧ sget s 41 = .int .i64 (i : Int) ∧ (l.take i).all (fun x => decide (x.m = (l.getD 0 noLas).m)) = true)
        (n := l.length) ⟨0, by omega, rfl, Nx.refl hB.wf _, by simp only [sp_n, hn], by simp only [sg_ne, ne_eq, Nat.reduceEqDiff, not_false_eq_true, s0], by simp only [sg_ne, ne_eq, Nat.reduceEqDiff, not_false_eq_true, s2], by simp only [sg_eq, sg_ne, sp_n, Nat.reduceLT, ne_eq, Nat.reduceEqDiff, not_false_eq_true, hn], by simp only [sg_eq, sg_ne, sp_n, Nat.reduceLT, ne_eq, Nat.reduceEqDiff, not_false_eq_true, hn], by simp only [sg_eq, sp_n, Nat.reduceLT, hn]; rfl, rfl⟩ ?_
      clear hn s0 s2 s
      rintro k s C ⟨i, hi, rfl, hC, hn, s0, s2, s39, s40, s41, htk⟩ ih
      have hAC : Nx A.next A C := hA.trans (hC.le hA.next)
      have nC := hC.next
      have lC : Canon.look C.objs A.next = _ := (hC.keep _ (by omega)).trans lB
      (repeat (first | refine Rn.seq hc ?_ | refine Rn.skip hc ?_ | refine Rn.block hc ?_ | refine Rn.inBlock hc ?_ | refine Rn.scope hc ?_ | refine Rn.inScope hc ?_))
      by_cases hlt : i < l.length
      · have hd : decide ((i : Int) < (l.length : Int)) = true := decide_eq_true (by omega)
        obtain ⟨hok, b, o, rfl, hbb, c0, c1, c2⟩ := (hl.nx hAC) i hlt
        obtain ⟨_, b', o', e, _, z0, z1, z2⟩ := (hl.nx hAC) 0 (by omega)
        cases e
        obtain ⟨A2, p1, hx2, hn2, d0, d1, d2⟩ := put24 hC.wf (v0 := .int .i64 (l.getD i noLas).m) (v1 := .slice (l.getD i noLas).sa (l.getD i noLas).st.length (l.getD i noLas).sc) (v2 := .slice (l.getD i noLas).ra (l.getD i noLas).ro.length (l.getD i noLas).rc) rfl
        have z0' : cl A2 b (o + 0 * 3) = some (.int .i64 (l.getD 0 noLas).m) := (hx2.cl hbb _).trans z0
        rw [Nat.zero_mul, Nat.add_zero] at z0'
        have hC2 : Nx B.next B A2 := hC.trans (hx2.le nC)
        have n0 : nlen (.int .i64 0) l.length = some 0 := nlen_nat (j := 0) (by omega)
        refine Rn.reg hc rfl ?_
        simp only [sev_tmp, gd, want_free, rops, fx, bin_lss, Option.some.injEq, exists_eq_left', s40, s41, hd]
        (repeat (first | refine Rn.seq hc ?_ | refine Rn.skip hc ?_ | refine Rn.block hc ?_ | refine Rn.inBlock hc ?_ | refine Rn.scope hc ?_ | refine Rn.inScope hc ?_))
        refine Rn.condE hc rfl ?_
        simp only [sev_tmp, sg_eq, Nat.reduceLT, Value.bool.injEq, exists_eq_left', hn]
        (repeat (first | refine Rn.seq hc ?_ | refine Rn.skip hc ?_ | refine Rn.block hc ?_ | refine Rn.inBlock hc ?_ | refine Rn.scope hc ?_ | refine Rn.inScope hc ?_))
        refine Rn.reg hc rfl ?_
        simp only [sev_tmp, sg_eq, sg_ne, sp_n, sp_none, Nat.reduceLT, ne_eq, Nat.reduceEqDiff, not_false_eq_true, gd, want_free, rops, fx, ld, str, idx, adr_p, cls, Nat.zero_add, Option.some.injEq, exists_eq_left', Value.cells, Nat.reduceAdd, tk24, eo46, hn, s39, s41, nlen_nat hlt, c0, c1, c2, ze24, p1, List.size_toArray, List.length_cons, List.length_nil, Nat.beq_refl]
        (repeat (first | refine Rn.seq hc ?_ | refine Rn.skip hc ?_ | refine Rn.block hc ?_ | refine Rn.inBlock hc ?_ | refine Rn.scope hc ?_ | refine Rn.inScope hc ?_))
        by_cases hv : (l.getD i noLas).m = (l.getD 0 noLas).m
        · have hd3 : (!decide ((l.getD i noLas).m = (l.getD 0 noLas).m)) = false := by rw [decide_eq_true hv]; rfl
          refine Rn.drawnR hc hx (by kernel_rfl) (by rfl) (by kernel_rfl) ?_ ?_
          · simp only [rdV, VQ.int, VQ.bool, VQ.ptr, VQ.slice, cl_bump, sev_tmp, sev_const, sg_eq, sg_ne, sp_n, Nat.reduceLT, ne_eq, Nat.reduceEqDiff, not_false_eq_true, gd, want_free, fx, ld, fad, idx, bin_neq, adr_p, Nat.zero_add, Nat.add_zero, Nat.reduceAdd, and_self, tk3, fo24_0, eo46, hn, s0, n0, d0, z0', Nat.zero_mul, hd3, List.length_cons, List.length_nil]
          simp only [cl_bump, sev_tmp, sev_const, sg_eq, sg_ne, sp_n, Nat.reduceLT, ne_eq, Nat.reduceEqDiff, not_false_eq_true, gd, want_free, rops, fx, ld, fad, idx, bin_neq, adr_p, Nat.zero_add, Nat.add_zero, Option.some.injEq, exists_eq_left', Nat.reduceAdd, tk3, fo24_0, eo46, hn, s0, n0, d0, z0', Nat.zero_mul, hd3, List.length_cons, List.length_nil]
          (repeat (first | refine Rn.seq hc ?_ | refine Rn.skip hc ?_ | refine Rn.block hc ?_ | refine Rn.inBlock hc ?_ | refine Rn.scope hc ?_ | refine Rn.inScope hc ?_))
          refine Rn.condE hc rfl ?_
          simp only [sev_tmp, sg_eq, sp_n, Nat.reduceLT, Value.bool.injEq, exists_eq_left', hn]
          (repeat (first | refine Rn.seq hc ?_ | refine Rn.skip hc ?_ | refine Rn.block hc ?_ | refine Rn.inBlock hc ?_ | refine Rn.scope hc ?_ | refine Rn.inScope hc ?_))
          refine Rn.reg hc rfl ?_
          simp only [sev_tmp, sev_const, sg_eq, sg_ne, sp_n, Nat.reduceLT, ne_eq, Nat.reduceEqDiff, not_false_eq_true, gd, want_free, rops, fx, bin_add, Option.some.injEq, exists_eq_left', hn, s41, wrap_succ (show i < 9223372036854775807 by omega)]
          (repeat (first | refine Rn.seq hc ?_ | refine Rn.skip hc ?_ | refine Rn.block hc ?_ | refine Rn.inBlock hc ?_ | refine Rn.scope hc ?_ | refine Rn.inScope hc ?_))
          exact ih _ _ _ (by omega) ⟨i + 1, by omega, rfl, Nx.bump hC2 _, by simp only [sp_n, hn], by simp only [sg_ne, ne_eq, Nat.reduceEqDiff, not_false_eq_true, s0], by simp only [sg_ne, ne_eq, Nat.reduceEqDiff, not_false_eq_true, s2], by simp only [sg_ne, ne_eq, Nat.reduceEqDiff, not_false_eq_true, s39], by simp only [sg_ne, ne_eq, Nat.reduceEqDiff, not_false_eq_true, s40], by simp only [sg_eq, sp_n, Nat.reduceLT, hn], by rw [all_take _ _ noLas hlt, htk, decide_eq_true hv]; rfl⟩
        · have hd3 : (!decide ((l.getD i noLas).m = (l.getD 0 noLas).m)) = true := by rw [decide_eq_false hv]; rfl
          have hcl : l.all (fun x => decide (x.m = (l.getD 0 noLas).m)) = false := all_not _ _ noLas hlt (by rw [decide_eq_false hv])
          have h7 : errs l l = 7 := by
            rw [hall]
            unfold clash
            rw [hcl]
            rfl
          have hE2 : E = 7 := by rw [hE, erW, if_neg hlen, if_neg (by rw [h7]; omega), h7]
          rw [hE2]
          refine Rn.drawnR hc hx (by kernel_rfl) (by rfl) (by kernel_rfl) ?_ ?_
          · simp only [rdV, VQ.int, VQ.bool, VQ.ptr, VQ.slice, cl_bump, sev_tmp, sev_const, sg_eq, sg_ne, sp_n, Nat.reduceLT, ne_eq, Nat.reduceEqDiff, not_false_eq_true, gd, want_free, fx, ld, fad, idx, bin_neq, adr_p, Nat.zero_add, Nat.add_zero, Nat.reduceAdd, and_self, tk3, fo24_0, eo46, hn, s0, n0, d0, z0', Nat.zero_mul, hd3, List.length_cons, List.length_nil]
          simp only [cl_bump, sev_tmp, sev_const, sg_eq, sg_ne, sp_n, Nat.reduceLT, ne_eq, Nat.reduceEqDiff, not_false_eq_true, gd, want_free, rops, fx, ld, fad, idx, bin_neq, adr_p, Nat.zero_add, Nat.add_zero, Option.some.injEq, exists_eq_left', Nat.reduceAdd, tk3, fo24_0, eo46, hn, s0, n0, d0, z0', Nat.zero_mul, hd3, List.length_cons, List.length_nil]
          (repeat (first | refine Rn.seq hc ?_ | refine Rn.skip hc ?_ | refine Rn.block hc ?_ | refine Rn.inBlock hc ?_ | refine Rn.scope hc ?_ | refine Rn.inScope hc ?_))
          refine Rn.condE hc rfl ?_
          simp only [sev_tmp, sg_eq, sp_n, Nat.reduceLT, Value.bool.injEq, exists_eq_left', hn]
          (repeat (first | refine Rn.seq hc ?_ | refine Rn.skip hc ?_ | refine Rn.block hc ?_ | refine Rn.inBlock hc ?_ | refine Rn.scope hc ?_ | refine Rn.inScope hc ?_))
          have hbx : Nx A.next A (bump A2 7) := Nx.bump (hAC.trans (hx2.le hAC.next)) _
          have hlx : Canon.look (bump A2 7).objs A.next = _ := (hx2.keep _ (by omega)).trans lC
          obtain ⟨D, q1, g0, g1, g2, hxD⟩ := err_fin hbx (Nat.le_refl _) (by rw [bump_next]; omega) hlx
          refine Rn.reg hc rfl ?_
          simp only [sev_tmp, sev_const, sg_eq, sg_ne, sp_n, sp_none, Nat.reduceLT, ne_eq, Nat.reduceEqDiff, not_false_eq_true, gd, want_free, rops, fx, str, adr_p, Nat.zero_add, Option.some.injEq, exists_eq_left', Nat.reduceAdd, tk24, hn, s2, bd24_z, q1, List.size_toArray, List.length_cons, List.length_nil, Nat.beq_refl]
          (repeat (first | refine Rn.seq hc ?_ | refine Rn.skip hc ?_ | refine Rn.block hc ?_ | refine Rn.inBlock hc ?_ | refine Rn.scope hc ?_ | refine Rn.inScope hc ?_))
          refine Rn.ret (endQ_ct rfl (v := .agg #[.int .i64 0, .slice none 0 0, .slice none 0 0]) ?_ ?_)
          · simp only [sg_ne, ne_eq, Nat.reduceEqDiff, not_false_eq_true, ld, adr_p, cls, Nat.zero_add, Nat.reduceAdd, tk24, s2, g0, g1, g2]
          · simp only [sg_eq, sp_n, Nat.reduceLT, hn]
            exact tldR_err (by omega) hxD
      · have hd : decide ((i : Int) < (l.length : Int)) = false := decide_eq_false (by omega)
        have hil : i = l.length := by omega
        subst hil
        rw [List.take_length] at htk
        have he : errs l l = 0 := by
          rw [hall]
          unfold clash
          rw [htk]
          rfl
        clear ih hall
        refine Rn.reg hc rfl ?_
        simp only [sev_tmp, gd, want_free, rops, fx, bin_lss, Option.some.injEq, exists_eq_left', s40, s41, hd]
        (repeat (first | refine Rn.seq hc ?_ | refine Rn.skip hc ?_ | refine Rn.block hc ?_ | refine Rn.inBlock hc ?_ | refine Rn.scope hc ?_ | refine Rn.inScope hc ?_))
        refine Rn.condE hc rfl ?_
        simp only [sev_tmp, sg_eq, Nat.reduceLT, Value.bool.injEq, exists_eq_left', hn]
        (repeat (first | refine Rn.seq hc ?_ | refine Rn.skip hc ?_ | refine Rn.block hc ?_ | refine Rn.inBlock hc ?_ | refine Rn.scope hc ?_ | refine Rn.inScope hc ?_))
        refine Rn.exit hc rfl ?_
        (repeat (first | refine Rn.seq hc ?_ | refine Rn.skip hc ?_ | refine Rn.block hc ?_ | refine Rn.inBlock hc ?_ | refine Rn.scope hc ?_ | refine Rn.inScope hc ?_))
        refine Rn.reg hc rfl ?_
        simp only [sev_const, gd, want_free, rops, fx, Option.some.injEq, exists_eq_left']
        (repeat (first | refine Rn.seq hc ?_ | refine Rn.skip hc ?_ | refine Rn.block hc ?_ | refine Rn.inBlock hc ?_ | refine Rn.scope hc ?_ | refine Rn.inScope hc ?_))
        refine Rn.reg hc rfl ?_
        simp only [sev_tmp, sev_const, sg_eq, sg_ne, sp_n, Nat.reduceLT, ne_eq, Nat.reduceEqDiff, not_false_eq_true, gd, want_free, rops, fx, lng, Option.some.injEq, exists_eq_left', un46, hn, s0]
        (repeat (first | refine Rn.seq hc ?_ | refine Rn.skip hc ?_ | refine Rn.block hc ?_ | refine Rn.inBlock hc ?_ | refine Rn.scope hc ?_ | refine Rn.inScope hc ?_))
        have hr := hred he
        obtain ⟨lf, hlf⟩ : ∃ f : Nat → Nat, f = fun i => (l.getD i noLas).st.length := ⟨_, rfl⟩
        have hlv : ∀ i, (l.getD i noLas).st.length = lf i := fun i => by rw [hlf]
        have n0C : A.next < C.next := by omega
        clear hd s39 s40 s41
        refine Rn.loopI hc (I := fun k s D => ∃ i, i ≤ l.length ∧ k = l.length - i ∧ Nx C.next C D ∧ lcmF fp i ≤ 120 ∧ s.n = 117 ∧ sget s 0 = .slice a l.length c ∧ sget s 2 = .pointer (some ⟨A.next, 0, none⟩) ∧ sget s 9 = .int .i64 ((maxF lf i : Nat) : Int) ∧ sget s 10 = .int .i64 ((lcmF fp i : Nat) : Int) ∧ sget s 54 = .slice a l.length c ∧ sget s 55 = .int .i64 (l.length : Int) ∧ sget s 56 = .int .i64 (i : Int))
          (n := l.length) ⟨0, by omega, rfl, Nx.refl hC.wf _, by show 1 ≤ 120; omega, by simp only [sp_n, hn], by simp only [sg_ne, ne_eq, Nat.reduceEqDiff, not_false_eq_true, s0], by simp only [sg_ne, ne_eq, Nat.reduceEqDiff, not_false_eq_true, s2], by simp only [sg_eq, sg_ne, sp_n, Nat.reduceLT, ne_eq, Nat.reduceEqDiff, not_false_eq_true, hn]; rfl, by simp only [sg_eq, sg_ne, sp_n, Nat.reduceLT, ne_eq, Nat.reduceEqDiff, not_false_eq_true, hn]; rfl, by simp only [sg_eq, sg_ne, sp_n, Nat.reduceLT, ne_eq, Nat.reduceEqDiff, not_false_eq_true, hn], by simp only [sg_eq, sg_ne, sp_n, Nat.reduceLT, ne_eq, Nat.reduceEqDiff, not_false_eq_true, hn], by simp only [sg_eq, sp_n, Nat.reduceLT, hn]; rfl⟩ ?_
        clear hn s0 s2 s
        rintro k s D ⟨i, hi, rfl, hD, hp120, hn, s0, s2, s9, s10, s54, s55, s56⟩ ih
        have hAD : Nx A.next A D := hAC.trans (hD.le hAC.next)
        have nD := hD.next
        have lD : Canon.look D.objs A.next = _ := (hD.keep _ n0C).trans lC
        (repeat (first | refine Rn.seq hc ?_ | refine Rn.skip hc ?_ | refine Rn.block hc ?_ | refine Rn.inBlock hc ?_ | refine Rn.scope hc ?_ | refine Rn.inScope hc ?_))
        by_cases hlt : i < l.length
        · have hd : decide ((i : Int) < (l.length : Int)) = true := decide_eq_true (by omega)
          obtain ⟨hok, b, o, rfl, hbb, c0, c1, c2⟩ := (hl.nx hAD) i hlt
          obtain ⟨hri, ha60, hp6⟩ := hr i hlt
          obtain ⟨m60, m120, mpos⟩ := err_len (errs_each he i hlt)
          obtain ⟨B2, p1, hx2, hn2, d0, d1, d2⟩ := put24 hD.wf (v0 := .int .i64 (l.getD i noLas).m) (v1 := .slice (l.getD i noLas).sa (l.getD i noLas).st.length (l.getD i noLas).sc) (v2 := .slice (l.getD i noLas).ra (l.getD i noLas).ro.length (l.getD i noLas).rc) rfl
          have hok2 := hok.nx hx2
          have hAB2 : Nx A.next A B2 := hAD.trans (hx2.le hAD.next)
          obtain ⟨y1, y2⟩ := hsl i hlt
          refine Rn.reg hc rfl ?_
          simp only [sev_tmp, gd, want_free, rops, fx, bin_lss, Option.some.injEq, exists_eq_left', s55, s56, hd]
          (repeat (first | refine Rn.seq hc ?_ | refine Rn.skip hc ?_ | refine Rn.block hc ?_ | refine Rn.inBlock hc ?_ | refine Rn.scope hc ?_ | refine Rn.inScope hc ?_))
          refine Rn.condE hc rfl ?_
          simp only [sev_tmp, sg_eq, Nat.reduceLT, Value.bool.injEq, exists_eq_left', hn]
          (repeat (first | refine Rn.seq hc ?_ | refine Rn.skip hc ?_ | refine Rn.block hc ?_ | refine Rn.inBlock hc ?_ | refine Rn.scope hc ?_ | refine Rn.inScope hc ?_))
          refine Rn.reg hc rfl ?_
          simp only [sev_tmp, sg_eq, sg_ne, sp_n, sp_none, Nat.reduceLT, ne_eq, Nat.reduceEqDiff, not_false_eq_true, gd, want_free, rops, fx, ld, str, idx, adr_p, cls, Nat.zero_add, Option.some.injEq, exists_eq_left', Value.cells, Nat.reduceAdd, tk24, eo46, hn, s54, s56, nlen_nat hlt, c0, c1, c2, ze24, p1, List.size_toArray, List.length_cons, List.length_nil, Nat.beq_refl]
          (repeat (first | refine Rn.seq hc ?_ | refine Rn.skip hc ?_ | refine Rn.block hc ?_ | refine Rn.inBlock hc ?_ | refine Rn.scope hc ?_ | refine Rn.inScope hc ?_))
          have hm5 : max ((maxF lf i : Nat) : Int) ((l.getD i noLas).st.length : Int) = ((maxF lf (i + 1) : Nat) : Int) := by rw [hlv]; exact mxd_nat _ _
          refine Rn.reg hc rfl ?_
          simp only [sev_tmp, sg_eq, sg_ne, sp_n, Nat.reduceLT, ne_eq, Nat.reduceEqDiff, not_false_eq_true, gd, want_free, rops, fx, ld, fad, lng, adr_p, Nat.zero_add, Option.some.injEq, exists_eq_left', tk22, fo24_1, un22, hn, s9, d1, ae_mxd2, mxd_int, hm5]
          (repeat (first | refine Rn.seq hc ?_ | refine Rn.skip hc ?_ | refine Rn.block hc ?_ | refine Rn.inBlock hc ?_ | refine Rn.scope hc ?_ | refine Rn.inScope hc ?_))
          refine Rn.region hc fun K hK => ?_
          refine Wo.run hc 2 rfl rfl rfl ?_
          simp (maxSteps := 2000000) only [List.drop_zero, List.take_succ_cons, List.take_zero, sev_tmp, sg_eq, sg_ne, sp_n, Nat.reduceLT, ne_eq, Nat.reduceEqDiff, not_false_eq_true, gd, want_free, rops, fx, ld, adr_p, cls, Nat.zero_add, Option.some.injEq, exists_eq_left', Nat.reduceAdd, tk24, hn, s10, d0, d1, d2]
          refine Wo.call hc (by rfl) (by rfl) ⟨by rfl, by rfl⟩ (xs := [.agg #[.int .i64 (l.getD i noLas).m, .slice (l.getD i noLas).sa (l.getD i noLas).st.length (l.getD i noLas).sc, .slice (l.getD i noLas).ra (l.getD i noLas).ro.length (l.getD i noLas).rc]]) (by rfl) (by rfl) (by simp only [sev_tmp, sg_eq, sp_n, Nat.reduceLT, List.map_cons, List.map_nil, List.nil_append, List.append_nil, hn]) (Con.mono (small_ref hx2.wf hok2.1 hok2.2.1 (by omega) (by omega) mpos ((y1 mpos).nx hw hAB2) y2) ?_)
          rintro w B3 ⟨a', p', hr', -, -, hx3, xa, xc, xr, rfl, -, -, -, -, -⟩
          obtain ⟨rfl, rfl⟩ := hri.uniq hr'
          refine Wo.run hc 2 rfl rfl rfl ?_
          simp (maxSteps := 2000000) only [List.drop_zero, List.drop_succ_cons, List.take_succ_cons, List.take_zero, sev_tmp, sg_eq, sp_n, Nat.reduceLT, gd, want_free, rops, fx, lng, Option.some.injEq, exists_eq_left', Nat.reduceAdd, un22, hn, ae_fld, fldV_agg]
          refine Wo.call hc (by rfl) (by rfl) ⟨by rfl, by rfl⟩ (xs := [.int .i64 ((lcmF fp i : Nat) : Int), .int .i64 ((fp i : Nat) : Int)]) (by rfl) (by rfl) (by simp only [sev_tmp, sg_eq, sg_ne, sp_n, Nat.reduceLT, ne_eq, Nat.reduceEqDiff, not_false_eq_true, List.map_cons, List.map_nil, List.nil_append, List.append_nil, hn]) (Con.mono (lcm_ref hx3.wf ⟨lcmF_pos hr.pos hi, by omega⟩ ⟨hr.pos i hlt, by omega⟩) ?_)
          rintro w B6 ⟨rfl, hx6⟩
          rw [show lcmN (lcmF fp i) (fp i) = lcmF fp (i + 1) from rfl]
          refine Wo.run hc 1 rfl rfl rfl ?_
          simp (maxSteps := 2000000) only [List.drop_zero, List.drop_succ_cons, List.take_succ_cons, List.take_zero, sev_tmp, sg_eq, sp_n, Nat.reduceLT, gd, want_free, rops, fx, Option.some.injEq, exists_eq_left', Nat.reduceAdd, hn]
          refine Wo.done hc rfl (hK _ _ ?_)
          clear hK
          (repeat (first | refine Rn.seq hc ?_ | refine Rn.skip hc ?_ | refine Rn.block hc ?_ | refine Rn.inBlock hc ?_ | refine Rn.scope hc ?_ | refine Rn.inScope hc ?_))
          have hB6 : Nx D.next D B6 := hx2.trans ((hx3.le (by omega)).trans (hx6.le (by have := hx3.next; omega)))
          have hA6 : Nx C.next C B6 := hD.trans (hB6.le nD)
          by_cases hlong : 120 < lcmF fp (i + 1)
          · have hd2 : decide (120 < ((lcmF fp (i + 1) : Nat) : Int)) = true := decide_eq_true (by omega)
            have hE2 : E = 11 := by
              have := lcmF_mono (f := fp) hr.pos (show i + 1 ≤ l.length from hlt) (Nat.le_refl _)
              rw [hE, erW, if_neg hlen, if_pos he, if_pos (by omega)]
            have hA06 : Nx A.next A B6 := hAC.trans (hA6.le hAC.next)
            obtain ⟨D', q1, g0, g1, g2, hxD⟩ := err_fin hA06 (Nat.le_refl _) (by have := hB6.next; omega) ((hB6.keep _ (by omega)).trans lD)
            rw [hE2]
            refine Rn.reg hc rfl ?_
            simp only [sev_tmp, sev_const, sg_eq, sp_n, Nat.reduceLT, gd, want_free, rops, fx, bin_gtr, Option.some.injEq, exists_eq_left', hn, hd2]
            (repeat (first | refine Rn.seq hc ?_ | refine Rn.skip hc ?_ | refine Rn.block hc ?_ | refine Rn.inBlock hc ?_ | refine Rn.scope hc ?_ | refine Rn.inScope hc ?_))
            refine Rn.condE hc rfl ?_
            simp only [sev_tmp, sg_eq, sp_n, Nat.reduceLT, Value.bool.injEq, exists_eq_left', hn]
            (repeat (first | refine Rn.seq hc ?_ | refine Rn.skip hc ?_ | refine Rn.block hc ?_ | refine Rn.inBlock hc ?_ | refine Rn.scope hc ?_ | refine Rn.inScope hc ?_))
            refine Rn.reg hc rfl ?_
            simp only [sev_tmp, sev_const, sg_eq, sg_ne, sp_n, sp_none, Nat.reduceLT, ne_eq, Nat.reduceEqDiff, not_false_eq_true, gd, want_free, rops, fx, str, adr_p, Nat.zero_add, Option.some.injEq, exists_eq_left', Nat.reduceAdd, tk24, hn, s2, bd24_z, q1, List.size_toArray, List.length_cons, List.length_nil, Nat.beq_refl]
            (repeat (first | refine Rn.seq hc ?_ | refine Rn.skip hc ?_ | refine Rn.block hc ?_ | refine Rn.inBlock hc ?_ | refine Rn.scope hc ?_ | refine Rn.inScope hc ?_))
            refine Rn.ret (endQ_ct rfl (v := .agg #[.int .i64 0, .slice none 0 0, .slice none 0 0]) ?_ ?_)
            · simp only [sg_ne, ne_eq, Nat.reduceEqDiff, not_false_eq_true, ld, adr_p, cls, Nat.zero_add, Nat.reduceAdd, tk24, s2, g0, g1, g2]
            · simp only [sg_eq, sp_n, Nat.reduceLT, hn]
              exact tldR_err (by omega) hxD
          · have hd2 : decide (120 < ((lcmF fp (i + 1) : Nat) : Int)) = false := decide_eq_false (by omega)
            refine Rn.reg hc rfl ?_
            simp only [sev_tmp, sev_const, sg_eq, sp_n, Nat.reduceLT, gd, want_free, rops, fx, bin_gtr, Option.some.injEq, exists_eq_left', hn, hd2]
            (repeat (first | refine Rn.seq hc ?_ | refine Rn.skip hc ?_ | refine Rn.block hc ?_ | refine Rn.inBlock hc ?_ | refine Rn.scope hc ?_ | refine Rn.inScope hc ?_))
            refine Rn.condE hc rfl ?_
            simp only [sev_tmp, sg_eq, sp_n, Nat.reduceLT, Value.bool.injEq, exists_eq_left', hn]
            (repeat (first | refine Rn.seq hc ?_ | refine Rn.skip hc ?_ | refine Rn.block hc ?_ | refine Rn.inBlock hc ?_ | refine Rn.scope hc ?_ | refine Rn.inScope hc ?_))
            refine Rn.reg hc rfl ?_
            simp only [sev_tmp, sev_const, sg_eq, sg_ne, sp_n, Nat.reduceLT, ne_eq, Nat.reduceEqDiff, not_false_eq_true, gd, want_free, rops, fx, bin_add, Option.some.injEq, exists_eq_left', hn, s56, wrap_succ (show i < 9223372036854775807 by omega)]
            (repeat (first | refine Rn.seq hc ?_ | refine Rn.skip hc ?_ | refine Rn.block hc ?_ | refine Rn.inBlock hc ?_ | refine Rn.scope hc ?_ | refine Rn.inScope hc ?_))
            exact ih _ _ _ (by omega) ⟨i + 1, by omega, rfl, hA6, by omega, by simp only [sp_n, hn], by simp only [sg_ne, ne_eq, Nat.reduceEqDiff, not_false_eq_true, s0], by simp only [sg_ne, ne_eq, Nat.reduceEqDiff, not_false_eq_true, s2], by simp only [sg_eq, sg_ne, sp_n, Nat.reduceLT, ne_eq, Nat.reduceEqDiff, not_false_eq_true, hn], by simp only [sg_eq, sg_ne, sp_n, Nat.reduceLT, ne_eq, Nat.reduceEqDiff, not_false_eq_true, hn], by simp only [sg_ne, ne_eq, Nat.reduceEqDiff, not_false_eq_true, s54], by simp only [sg_ne, ne_eq, Nat.reduceEqDiff, not_false_eq_true, s55], by simp only [sg_eq, sp_n, Nat.reduceLT, hn]⟩
        · have hd : decide ((i : Int) < (l.length : Int)) = false := decide_eq_false (by omega)
          have hil : i = l.length := by omega
          subst hil
          clear ih
          have hp0 : 0 < lcmF fp l.length := lcmF_pos hr.pos (Nat.le_refl _)
          have hPer := hr.per (N := maxF lf l.length) (by omega) (maxF_le fun j hj => Nat.le_trans (by rw [← hlv]; exact (hr j hj).2.1) (maxF_ge hj))
          have hH60 : maxF lf l.length ≤ 60 := maxF_le fun j hj => by
            rw [← hlv]
            exact (err_len (errs_each he j hj)).1
          have hE0 : E = 0 := by rw [hE, erW, if_neg hlen, if_pos he, if_neg (by omega)]
          clear hr hred hsl hE hlv hlf
          generalize maxF lf l.length = H at s9 hPer hH60
          generalize lcmF fp l.length = p at s10 hPer hp0 hp120
          subst hE0
          obtain ⟨W, hW⟩ : ∃ W, W = wov l := ⟨_, rfl⟩
          have hWv : ∀ n i, i < l.length → W (n * l.length + i) = (l.getD i noLas).s n := fun n i hi => by rw [hW]; exact wov_at hi
          rw [← hW] at hPer ⊢
          have hHK : H * l.length ≤ 60 * 8 := Nat.mul_le_mul hH60 k8
          have hPK : p * l.length ≤ 120 * 8 := Nat.mul_le_mul hp120 k8
          have hw0 : IntKind.i64.wrap ((H : Int) + (p : Int)) = ((H + p : Nat) : Int) := by rw [IntWalk.i64_in _ (by omega)]; omega
          refine Rn.reg hc rfl ?_
          simp only [sev_tmp, gd, want_free, rops, fx, bin_lss, Option.some.injEq, exists_eq_left', s55, s56, hd]
          (repeat (first | refine Rn.seq hc ?_ | refine Rn.skip hc ?_ | refine Rn.block hc ?_ | refine Rn.inBlock hc ?_ | refine Rn.scope hc ?_ | refine Rn.inScope hc ?_))
          refine Rn.condE hc rfl ?_
          simp only [sev_tmp, sg_eq, Nat.reduceLT, Value.bool.injEq, exists_eq_left', hn]
          (repeat (first | refine Rn.seq hc ?_ | refine Rn.skip hc ?_ | refine Rn.block hc ?_ | refine Rn.inBlock hc ?_ | refine Rn.scope hc ?_ | refine Rn.inScope hc ?_))
          refine Rn.exit hc rfl ?_
          (repeat (first | refine Rn.seq hc ?_ | refine Rn.skip hc ?_ | refine Rn.block hc ?_ | refine Rn.inBlock hc ?_ | refine Rn.scope hc ?_ | refine Rn.inScope hc ?_))
          clear hd s54 s55 s56
          obtain ⟨_, b0, o0, ha0, hbb0, z0, z1, z2⟩ := (hl.nx hAD) 0 (by omega)
          have z0' : cl D b0 o0 = some (.int .i64 (l.getD 0 noLas).m) := by rw [Nat.zero_mul, Nat.add_zero] at z0; exact z0
          have nl0 : nlen (.int .i64 0) l.length = some 0 := nlen_nat (j := 0) (by omega)
          have hx5a : Nx D.next D (D.push (.cells #[.int .i64 0, .slice none 0 0, .slice none 0 0] 24)) := (Nx.refl hD.wf _).push (Nat.le_refl _) _
          have l5a := look_push_eq D (.cells #[.int .i64 0, .slice none 0 0, .slice none 0 0] 24)
          have hn5a : (D.push (.cells #[.int .i64 0, .slice none 0 0, .slice none 0 0] 24)).next = D.next + 1 := rfl
          generalize e5 : D.push (.cells #[.int .i64 0, .slice none 0 0, .slice none 0 0] 24) = C5a at hx5a l5a hn5a
          obtain ⟨C5, c5, q5, u5, u6, u7⟩ := sts_upd (l := [.int .i64 (l.getD 0 noLas).m, .slice none 0 0, .slice none 0 0]) (o := 0) l5a rfl (by simp) rfl
          have hc5 : c5 = #[.int .i64 (l.getD 0 noLas).m, .slice none 0 0, .slice none 0 0] := by
            refine Array.ext_getElem? fun i => ?_
            rw [u7 i]
            by_cases hi : i < 3
            · rw [if_pos ⟨Nat.zero_le _, by simpa using hi⟩]
              simp
            · rw [if_neg (by simp; omega)]
              rw [Array.getElem?_eq_none (by simp; omega), Array.getElem?_eq_none (by simp; omega)]
          subst hc5
          have hx5 : Nx D.next D C5 := hx5a.trans (u5.nx hx5a.wf (Nat.le_refl _))
          have hn5 : C5.next = D.next + 1 := by rw [u5.next, hn5a]
          have l5B : Canon.look C5.objs D.next = some ⟨.cells #[.int .i64 (l.getD 0 noLas).m, .slice none 0 0, .slice none 0 0] 24, false, 0⟩ := by
            obtain ⟨c', t, f, g, e, r1, r2, _⟩ := u5.at'
            rw [l5a] at r1
            cases r1
            exact r2
          have hA5 : Nx A.next A C5 := hAD.trans (hx5.le hAD.next)
          have lR : Canon.look C5.objs A.next = _ := (hx5.keep _ (by omega)).trans lD
          subst ha0
          refine Rn.reg hc rfl ?_
          simp only [sev_tmp, sev_const, sg_eq, sg_ne, sp_n, sp_none, Nat.reduceLT, ne_eq, Nat.reduceEqDiff, not_false_eq_true, gd, want_free, rops, fx, ld, str, fad, idx, adr_p, Nat.zero_add, Nat.add_zero, Option.some.injEq, exists_eq_left', Value.cells, Nat.reduceAdd, tk3, tk24, fo24_0, eo46, hn, s0, nl0, z0', Nat.zero_mul, bd24_0, isCell, List.size_toArray, List.length_cons, List.length_nil, Nat.beq_refl, ze24, e5, q5]
          (repeat (first | refine Rn.seq hc ?_ | refine Rn.skip hc ?_ | refine Rn.block hc ?_ | refine Rn.inBlock hc ?_ | refine Rn.scope hc ?_ | refine Rn.inScope hc ?_))
          refine Rn.reg hc rfl ?_
          simp only [sev_const, gd, want_free, rops, fx, Option.some.injEq, exists_eq_left']
          (repeat (first | refine Rn.seq hc ?_ | refine Rn.skip hc ?_ | refine Rn.block hc ?_ | refine Rn.inBlock hc ?_ | refine Rn.scope hc ?_ | refine Rn.inScope hc ?_))
          obtain ⟨bO, hbOe⟩ : ∃ b, b = D.next := ⟨_, rfl⟩
          have hbO : bO < C5.next := by omega
          have hbOA : A.next < bO := by omega
          rw [← hbOe] at l5B ⊢
          clear q5 e5 u5 u6 u7 hx5 hx5a l5a
          refine Rn.loopI hc (I := fun k s G => ∃ n wa wb, n ≤ H + p ∧ k = H + p - n ∧ WF G ∧ C5.next ≤ G.next ∧ (∀ b, b < C5.next → b ≠ bO → Canon.look G.objs b = Canon.look C5.objs b) ∧ Canon.look G.objs bO = some ⟨.cells #[.int .i64 (l.getD 0 noLas).m, .slice wa (min (n * l.length) (H * l.length)) (min (n * l.length) (H * l.length)), .slice wb (n * l.length - H * l.length) (n * l.length - H * l.length)] 24, false, 0⟩ ∧ Gr2 G wa wb C5.next (redS W (min (n * l.length) (H * l.length))) (redR W (H * l.length) (n * l.length - H * l.length)) ∧ s.n = 117 ∧ sget s 0 = .slice (some ⟨b0, o0, none⟩) l.length c ∧ sget s 2 = .pointer (some ⟨A.next, 0, none⟩) ∧ sget s 9 = .int .i64 (H : Int) ∧ sget s 10 = .int .i64 (p : Int) ∧ sget s 13 = .pointer (some ⟨bO, 0, none⟩) ∧ sget s 14 = .int .i64 (n : Int))
            (n := H + p) ⟨0, none, none, by omega, rfl, hA5.wf, Nat.le_refl _, fun _ _ _ => rfl, by rw [Nat.zero_mul, Nat.zero_min, Nat.zero_sub]; exact l5B, by rw [Nat.zero_mul, Nat.zero_min, Nat.zero_sub]; exact Gr2.nil (Nat.le_refl _), by simp only [sp_n, hn], by simp only [sg_ne, ne_eq, Nat.reduceEqDiff, not_false_eq_true, s0], by simp only [sg_ne, ne_eq, Nat.reduceEqDiff, not_false_eq_true, s2], by simp only [sg_ne, ne_eq, Nat.reduceEqDiff, not_false_eq_true, s9], by simp only [sg_ne, ne_eq, Nat.reduceEqDiff, not_false_eq_true, s10], by simp only [sg_eq, sg_ne, sp_n, Nat.reduceLT, ne_eq, Nat.reduceEqDiff, not_false_eq_true, hn], by simp only [sg_eq, sp_n, Nat.reduceLT, hn]; rfl⟩ ?_
          clear hn s0 s2 s9 s10 s l5B
          rintro k s G ⟨n, wa, wb, hnHp, rfl, hwG, hnG, hkeep, lG, gG, hn, s0, s2, s9, s10, s13, s14⟩ ih
          (repeat (first | refine Rn.seq hc ?_ | refine Rn.skip hc ?_ | refine Rn.block hc ?_ | refine Rn.inBlock hc ?_ | refine Rn.scope hc ?_ | refine Rn.inScope hc ?_))
          by_cases hlt : n < H + p
          · have hd : decide ((n : Int) < ((H + p : Nat) : Int)) = true := decide_eq_true (by omega)
            have hnK := Nat.mul_le_mul_right l.length (show n + 1 ≤ H + p from hlt)
            rw [Nat.succ_mul, Nat.add_mul] at hnK
            refine Rn.reg hc rfl ?_
            simp only [sev_tmp, sg_eq, sg_ne, sp_n, Nat.reduceLT, ne_eq, Nat.reduceEqDiff, not_false_eq_true, gd, want_free, rops, fx, bin_lss, bin_add, Option.some.injEq, exists_eq_left', hn, s9, s10, s14, hw0, hd]
            (repeat (first | refine Rn.seq hc ?_ | refine Rn.skip hc ?_ | refine Rn.block hc ?_ | refine Rn.inBlock hc ?_ | refine Rn.scope hc ?_ | refine Rn.inScope hc ?_))
            refine Rn.condE hc rfl ?_
            simp only [sev_tmp, sg_eq, sp_n, Nat.reduceLT, Value.bool.injEq, exists_eq_left', hn]
            (repeat (first | refine Rn.seq hc ?_ | refine Rn.skip hc ?_ | refine Rn.block hc ?_ | refine Rn.inBlock hc ?_ | refine Rn.scope hc ?_ | refine Rn.inScope hc ?_))
            refine Rn.reg hc rfl ?_
            simp only [sev_tmp, sev_const, sg_eq, sg_ne, sp_n, Nat.reduceLT, ne_eq, Nat.reduceEqDiff, not_false_eq_true, gd, want_free, rops, fx, lng, Option.some.injEq, exists_eq_left', un46, hn, s0]
            (repeat (first | refine Rn.seq hc ?_ | refine Rn.skip hc ?_ | refine Rn.block hc ?_ | refine Rn.inBlock hc ?_ | refine Rn.scope hc ?_ | refine Rn.inScope hc ?_))
            refine Rn.loopI hc (I := fun k s G => ∃ i wa wb, i ≤ l.length ∧ k = l.length - i ∧ WF G ∧ C5.next ≤ G.next ∧ (∀ b, b < C5.next → b ≠ bO → Canon.look G.objs b = Canon.look C5.objs b) ∧ Canon.look G.objs bO = some ⟨.cells #[.int .i64 (l.getD 0 noLas).m, .slice wa (min (n * l.length + i) (H * l.length)) (min (n * l.length + i) (H * l.length)), .slice wb (n * l.length + i - H * l.length) (n * l.length + i - H * l.length)] 24, false, 0⟩ ∧ Gr2 G wa wb C5.next (redS W (min (n * l.length + i) (H * l.length))) (redR W (H * l.length) (n * l.length + i - H * l.length)) ∧ s.n = 117 ∧ sget s 0 = .slice (some ⟨b0, o0, none⟩) l.length c ∧ sget s 2 = .pointer (some ⟨A.next, 0, none⟩) ∧ sget s 9 = .int .i64 (H : Int) ∧ sget s 10 = .int .i64 (p : Int) ∧ sget s 13 = .pointer (some ⟨bO, 0, none⟩) ∧ sget s 14 = .int .i64 (n : Int) ∧ sget s 87 = .slice (some ⟨b0, o0, none⟩) l.length c ∧ sget s 88 = .int .i64 (l.length : Int) ∧ sget s 89 = .int .i64 (i : Int))
              (n := l.length) ⟨0, wa, wb, by omega, rfl, hwG, hnG, hkeep, lG, gG, by simp only [sp_n, hn], by simp only [sg_ne, ne_eq, Nat.reduceEqDiff, not_false_eq_true, s0], by simp only [sg_ne, ne_eq, Nat.reduceEqDiff, not_false_eq_true, s2], by simp only [sg_ne, ne_eq, Nat.reduceEqDiff, not_false_eq_true, s9], by simp only [sg_ne, ne_eq, Nat.reduceEqDiff, not_false_eq_true, s10], by simp only [sg_ne, ne_eq, Nat.reduceEqDiff, not_false_eq_true, s13], by simp only [sg_ne, ne_eq, Nat.reduceEqDiff, not_false_eq_true, s14], by simp only [sg_eq, sg_ne, sp_n, Nat.reduceLT, ne_eq, Nat.reduceEqDiff, not_false_eq_true, hn], by simp only [sg_eq, sg_ne, sp_n, Nat.reduceLT, ne_eq, Nat.reduceEqDiff, not_false_eq_true, hn], by simp only [sg_eq, sp_n, Nat.reduceLT, hn]; rfl⟩ ?_
            clear hn s0 s2 s9 s10 s13 s14 s hd hwG hnG hkeep lG gG wa wb G
            rintro k s G ⟨i, wa, wb, hi, rfl, hwG, hnG, hkeep, lG, gG, hn, s0, s2, s9, s10, s13, s14, s87, s88, s89⟩ ih2
            have hAG : Nx A.next A G := ⟨by have := hA5.next; omega, hwG, fun b hb => (hkeep b (by omega) (by omega)).trans (hA5.keep b hb)⟩
            have hbOG : bO < G.next := by omega
            (repeat (first | refine Rn.seq hc ?_ | refine Rn.skip hc ?_ | refine Rn.block hc ?_ | refine Rn.inBlock hc ?_ | refine Rn.scope hc ?_ | refine Rn.inScope hc ?_))
            by_cases hli : i < l.length
            · have hd : decide ((i : Int) < (l.length : Int)) = true := decide_eq_true (by omega)
              obtain ⟨hok, b, o, ha1, hbb, c0, c1, c2⟩ := (hl.nx hAG) i hli
              cases ha1
              obtain ⟨m60, m120, mpos⟩ := err_len (errs_each he i hli)
              obtain ⟨G0, p0, hx2, hn2, d0, d1, d2⟩ := put24 hwG (v0 := .int .i64 (l.getD i noLas).m) (v1 := .slice (l.getD i noLas).sa (l.getD i noLas).st.length (l.getD i noLas).sc) (v2 := .slice (l.getD i noLas).ra (l.getD i noLas).ro.length (l.getD i noLas).rc) rfl
              have hok2 := hok.nx hx2
              refine Rn.reg hc rfl ?_
              simp only [sev_tmp, gd, want_free, rops, fx, bin_lss, Option.some.injEq, exists_eq_left', s88, s89, hd]
              (repeat (first | refine Rn.seq hc ?_ | refine Rn.skip hc ?_ | refine Rn.block hc ?_ | refine Rn.inBlock hc ?_ | refine Rn.scope hc ?_ | refine Rn.inScope hc ?_))
              refine Rn.condE hc rfl ?_
              simp only [sev_tmp, sg_eq, Nat.reduceLT, Value.bool.injEq, exists_eq_left', hn]
              (repeat (first | refine Rn.seq hc ?_ | refine Rn.skip hc ?_ | refine Rn.block hc ?_ | refine Rn.inBlock hc ?_ | refine Rn.scope hc ?_ | refine Rn.inScope hc ?_))
              refine Rn.reg hc rfl ?_
              simp only [sev_tmp, sg_eq, sg_ne, sp_n, sp_none, Nat.reduceLT, ne_eq, Nat.reduceEqDiff, not_false_eq_true, gd, want_free, rops, fx, ld, str, idx, adr_p, cls, Nat.zero_add, Option.some.injEq, exists_eq_left', Value.cells, Nat.reduceAdd, tk24, eo46, hn, s87, s89, nlen_nat hli, c0, c1, c2, ze24, p0, List.size_toArray, List.length_cons, List.length_nil, Nat.beq_refl]
              (repeat (first | refine Rn.seq hc ?_ | refine Rn.skip hc ?_ | refine Rn.block hc ?_ | refine Rn.inBlock hc ?_ | refine Rn.scope hc ?_ | refine Rn.inScope hc ?_))
              by_cases hnH : n < H
              · have hd3 : decide ((n : Int) < (H : Int)) = true := decide_eq_true (by omega)
                have hcH := Nat.mul_le_mul_right l.length (show n + 1 ≤ H from hnH)
                rw [Nat.succ_mul] at hcH
                have m1 : min (n * l.length + i) (H * l.length) = n * l.length + i := by omega
                have m2 : min (n * l.length + (i + 1)) (H * l.length) = n * l.length + (i + 1) := by omega
                have z1 : n * l.length + i - H * l.length = 0 := by omega
                have z2 : n * l.length + (i + 1) - H * l.length = 0 := by omega
                have hcn : n * l.length + i ≤ 480 := by omega
                rw [m1, z1] at lG gG
                have gG' : Gr2 G wa wb C5.next (redS W (n * l.length + i)) [] := gG
                have cF : cl G0 bO 1 = some (.slice wa (n * l.length + i) (n * l.length + i)) := by rw [hx2.cl hbOG]; rw [cl_of lG rfl]; rfl
                obtain ⟨F, hF0, hF1, hF2, hF3, hF⟩ : ∃ F : AHeap → Prop, (∀ M, F M → cl M G.next 0 = some (.int .i64 (l.getD i noLas).m)) ∧ (∀ M, F M → cl M G.next 1 = some (.slice (l.getD i noLas).sa (l.getD i noLas).st.length (l.getD i noLas).sc)) ∧ (∀ M, F M → cl M G.next 2 = some (.slice (l.getD i noLas).ra (l.getD i noLas).ro.length (l.getD i noLas).rc)) ∧ (∀ M, F M → cl M bO 1 = some (.slice wa (n * l.length + i) (n * l.length + i))) ∧ (∀ M, Canon.look M.objs G.next = Canon.look G0.objs G.next → Canon.look M.objs bO = Canon.look G0.objs bO → F M) :=
                  ⟨fun M => cl M G.next 0 = some (.int .i64 (l.getD i noLas).m) ∧ cl M G.next 1 = some (.slice (l.getD i noLas).sa (l.getD i noLas).st.length (l.getD i noLas).sc) ∧ cl M G.next 2 = some (.slice (l.getD i noLas).ra (l.getD i noLas).ro.length (l.getD i noLas).rc) ∧ cl M bO 1 = some (.slice wa (n * l.length + i) (n * l.length + i)), fun _ h => h.1, fun _ h => h.2.1, fun _ h => h.2.2.1, fun _ h => h.2.2.2, fun M q1 q2 => ⟨(cl_look q1).trans d0, (cl_look q1).trans d1, (cl_look q1).trans d2, (cl_look q2).trans cF⟩⟩
                have hbk : Nx G0.next G0 (bump G0 9) := Nx.bump (Nx.refl hx2.wf _) 9
                have FB : F (bump G0 9) := hF _ rfl rfl
                have hok3 := hok2.nx hbk
                have hval : atL (l.getD i noLas).st (l.getD i noLas).ro n = W (n * l.length + i) := (hWv n i hli).symm
                refine Rn.reg hc rfl ?_
                simp only [sev_tmp, sg_eq, sg_ne, sp_n, Nat.reduceLT, ne_eq, Nat.reduceEqDiff, not_false_eq_true, gd, want_free, rops, fx, bin_lss, Option.some.injEq, exists_eq_left', hn, s9, s14, hd3]
                (repeat (first | refine Rn.seq hc ?_ | refine Rn.skip hc ?_ | refine Rn.block hc ?_ | refine Rn.inBlock hc ?_ | refine Rn.scope hc ?_ | refine Rn.inScope hc ?_))
                refine Rn.condE hc rfl ?_
                simp only [sev_tmp, sg_eq, sp_n, Nat.reduceLT, Value.bool.injEq, exists_eq_left', hn]
                (repeat (first | refine Rn.seq hc ?_ | refine Rn.skip hc ?_ | refine Rn.block hc ?_ | refine Rn.inBlock hc ?_ | refine Rn.scope hc ?_ | refine Rn.inScope hc ?_))
                refine Rn.drawnL hc hx (hdS (W (n * l.length + i))) F (E := [4, 5, 6]) (n := 8) (k := 9) (by kernel_rfl) (by kernel_rfl) (by rfl) (by kernel_rfl) ?_
                refine DrL.read (by first | rfl | kernel_rfl) (by rfl) (by assumption) (fun M hM => by simp only [sev_tmp, sg_ne, ne_eq, Nat.reduceEqDiff, not_false_eq_true, fx, fad, adr_p, Nat.zero_add, fo24_1, s13] <;> rfl) (by rfl) (by first | exact VQ.int _ _ | exact VQ.bool _ | exact VQ.ptr _ _ | exact VQ.slice _ _ _ | exact VQ.func (by simp [vq_int, vq_ptr, vq_slice]) (by simp [vq_int, vq_ptr, vq_slice]) | exact VQ.agg (by simp [vq_int, vq_ptr, vq_slice]) | exact VQ.tuple (by simp [vq_int, vq_ptr, vq_slice])) ?_
                refine DrL.read (by first | rfl | kernel_rfl) (by rfl) (by assumption) (fun M hM => by simp only [sev_tmp, sg_eq, sp_n, Nat.reduceLT, fx, ld, adr_p, tk22, hn, hF3 M hM] <;> rfl) (by rfl) (by first | exact VQ.int _ _ | exact VQ.bool _ | exact VQ.ptr _ _ | exact VQ.slice _ _ _ | exact VQ.func (by simp [vq_int, vq_ptr, vq_slice]) (by simp [vq_int, vq_ptr, vq_slice]) | exact VQ.agg (by simp [vq_int, vq_ptr, vq_slice]) | exact VQ.tuple (by simp [vq_int, vq_ptr, vq_slice])) ?_
                refine DrL.read (by first | rfl | kernel_rfl) (by rfl) (by assumption) (fun M hM => by simp only [sev_tmp, sg_eq, sg_ne, sp_n, Nat.reduceLT, ne_eq, Nat.reduceEqDiff, not_false_eq_true, fx, ld, adr_p, cls, Nat.zero_add, Nat.reduceAdd, tk24, hn, hF0 M hM, hF1 M hM, hF2 M hM] <;> rfl) (by rfl) (by first | exact VQ.int _ _ | exact VQ.bool _ | exact VQ.ptr _ _ | exact VQ.slice _ _ _ | exact VQ.func (by simp [vq_int, vq_ptr, vq_slice]) (by simp [vq_int, vq_ptr, vq_slice]) | exact VQ.agg (by simp [vq_int, vq_slice]) | exact VQ.tuple (by simp [vq_int, vq_ptr, vq_slice])) ?_
                refine DrL.read (by first | rfl | kernel_rfl) (by rfl) (by assumption) (fun M hM => by simp only [sev_tmp, sg_ne, ne_eq, Nat.reduceEqDiff, not_false_eq_true, fx, s14] <;> rfl) (by rfl) (by first | exact VQ.int _ _ | exact VQ.bool _ | exact VQ.ptr _ _ | exact VQ.slice _ _ _ | exact VQ.func (by simp [vq_int, vq_ptr, vq_slice]) (by simp [vq_int, vq_ptr, vq_slice]) | exact VQ.agg (by simp [vq_int, vq_ptr, vq_slice]) | exact VQ.tuple (by simp [vq_int, vq_ptr, vq_slice])) ?_
                refine DrL.call (by kernel_rfl) (by rfl) (by assumption) (by rfl) (opRun_call (by rfl) ⟨by rfl, by rfl⟩ (by rfl) (xs := [.agg #[.int .i64 (l.getD i noLas).m, .slice (l.getD i noLas).sa (l.getD i noLas).st.length (l.getD i noLas).sc, .slice (l.getD i noLas).ra (l.getD i noLas).ro.length (l.getD i noLas).rc], .int .i64 (n : Int)]) (by simp only [sev_tmp, sg_eq, sg_ne, sp_n, Nat.reduceLT, ne_eq, Nat.reduceEqDiff, not_false_eq_true, List.map_cons, List.map_nil, List.nil_append, List.append_nil, hn]) (Con.mono (at_ref hbk.wf hok3.1 hok3.2.1 n hok3.2.2.1 mpos hok3.2.2.2 (by omega)) fun v A1 h => ⟨by rw [h.1, hval], h.2⟩)) ?_
                rintro v B1 ⟨rfl, k1⟩
                have hn1 := k1.next
                rw [bump_next] at hn1 k1
                have F1 : F B1 := hF _ ((k1.keep _ (by omega)).trans rfl) ((k1.keep _ (by omega)).trans rfl)
                refine DrL.float (by rfl) (by rfl) (by rfl) (fb22_1 (v := .int .i64 (W (n * l.length + i))) (by simp only [sev_tmp, sg_eq, sp_n, Nat.reduceLT, hn]) rfl) ?_
                have hnb : Canon.look B1.objs (G0.next + 5) = none := by rw [k1.keep _ (by omega)]; exact hx2.wf.none (by omega)
                obtain ⟨B2, p1, hxB2, eB2, lB2, kB2⟩ := place_row (N := 0) (Nx.refl k1.wf 0) (b := G0.next + 5) (Nat.zero_le _) (by omega) hnb [.int .i64 (W (n * l.length + i))] 3 1 1
                have F2 : F B2 := hF _ ((kB2 _ (by omega)).trans ((k1.keep _ (by omega)).trans rfl)) ((kB2 _ (by omega)).trans ((k1.keep _ (by omega)).trans rfl))
                have gB1 : Gr2 B1 wa wb C5.next (redS W (n * l.length + i)) [] := ((gG'.nx hwG hx2).nx hx2.wf hbk).nx hbk.wf (by rw [bump_next]; exact k1)
                have gB2 : Gr2 B2 wa wb C5.next (redS W (n * l.length + i)) [] := gB1.ext (Nat.le_of_eq eB2.symm) fun b' hb' => by
                  by_cases hbb : b' = G0.next + 5
                  · exact .inl (hbb ▸ hnb)
                  · exact .inr (kB2 _ hbb)
                obtain ⟨B3, q1, n3, w3, hg3, nx3, kp3⟩ := Gr2.pushA' hxB2.wf gB2 (a2 := some ⟨G0.next + 5, 0, none⟩) (c2 := 1) (b2 := G0.next + 5) (x := W (n * l.length + i)) rfl (by rw [cl_of lB2 rfl]; rfl) (by rw [redS_len]; omega) (by omega)
                rw [redS_len] at q1
                rw [redS_snoc] at hg3
                have L3 : ∀ b', b' < C5.next → Canon.look B3.objs b' = Canon.look G.objs b' := fun b' hb' => by
                  rw [nx3.keep _ hb', kB2 _ (by omega), k1.keep _ (by omega)]
                  exact hx2.keep _ (by omega)
                have LG : Canon.look B3.objs G.next = Canon.look G0.objs G.next := by
                  rw [kp3 _ (by omega) (fun y hy => by have := (gG.lt1 hwG y hy).2; omega), kB2 _ (by omega), k1.keep _ (by omega)]
                  rfl
                have F3 : F B3 := hF _ LG ((L3 _ hbO).trans (hx2.keep _ hbOG).symm)
                refine DrL.eff (by rfl) (by rfl) (pd1 := [(5, ⟨[.int .i64 (W (n * l.length + i))], 3, .sl 1 1⟩)]) (pd2 := []) (by kernel_rfl) (by kernel_rfl) (ms0 := [B1]) (A0 := B2) (by simp only [placeAll, p1]) (fun M hM => by rw [List.mem_singleton] at hM; rw [hM]; exact F1) F2 (by rfl)
                  (v := .slice (some ⟨B2.next, 0, none⟩) ((n * l.length + i) + 1) ((n * l.length + i) + 1)) (A1 := B3) (opRun_op rfl (by simp only [sev_tmp, sg_eq, sg_ne, sp_n, Nat.reduceLT, ne_eq, Nat.reduceEqDiff, not_false_eq_true, Nat.zero_add, Nat.reduceAdd, hn, ae_apd, apd_slice, FK.val]; exact q1)) ?_
                refine DrL.read (by first | rfl | kernel_rfl) (by rfl) (by assumption) (fun M hM => by simp only [sev_tmp, sg_ne, ne_eq, Nat.reduceEqDiff, not_false_eq_true, fx, fad, adr_p, Nat.zero_add, Nat.reduceAdd, fo24_1, s13] <;> rfl) (by rfl) (by first | exact VQ.int _ _ | exact VQ.bool _ | exact VQ.ptr _ _ | exact VQ.slice _ _ _ | exact VQ.func (by simp [vq_int, vq_ptr, vq_slice]) (by simp [vq_int, vq_ptr, vq_slice]) | exact VQ.agg (by simp [vq_int, vq_ptr, vq_slice]) | exact VQ.tuple (by simp [vq_int, vq_ptr, vq_slice])) ?_
                have l3 : Canon.look B3.objs bO = _ := (L3 _ hbO).trans lG
                obtain ⟨B4, v1, v2⟩ := st1_upd (o := 1) (v := .slice (some ⟨B2.next, 0, none⟩) ((n * l.length + i) + 1) ((n * l.length + i) + 1)) l3 rfl (by simp) rfl
                refine DrL.eff (by rfl) (by rfl) (pd1 := []) (pd2 := []) (by kernel_rfl) (by kernel_rfl) (ms0 := []) (A0 := B3) rfl (fun _ h => by cases h) F3 (by rfl) (v := undef) (A1 := B4) (opRun_op rfl (fx_ok (by rfl) (by simp only [sev_tmp, sg_eq, sg_ne, sp_n, Nat.reduceLT, ne_eq, Nat.reduceEqDiff, not_false_eq_true, fx, str, adr_p, Nat.zero_add, Nat.reduceAdd, tk22, hn, v1]))) ?_
                refine DrL.nil ⟨by rfl, B4, by rfl, ?_⟩
                (repeat (first | refine Rn.seq hc ?_ | refine Rn.skip hc ?_ | refine Rn.block hc ?_ | refine Rn.inBlock hc ?_ | refine Rn.scope hc ?_ | refine Rn.inScope hc ?_))
                refine Rn.reg hc rfl ?_
                simp only [sev_tmp, sev_const, sg_eq, sg_ne, sp_n, sp_none, Nat.reduceLT, ne_eq, Nat.reduceEqDiff, not_false_eq_true, gd, want_free, rops, fx, bin_add, Nat.zero_add, Option.some.injEq, exists_eq_left', Nat.reduceAdd, hn, s89, wrap_succ (show i < 9223372036854775807 by omega)]
                (repeat (first | refine Rn.seq hc ?_ | refine Rn.skip hc ?_ | refine Rn.block hc ?_ | refine Rn.inBlock hc ?_ | refine Rn.scope hc ?_ | refine Rn.inScope hc ?_))
                obtain ⟨c', t, f, g, e, r1, r2, _⟩ := v2.at'
                rw [l3] at r1
                cases r1
                have hn4 := v2.next
                exact ih2 _ _ _ (by omega) ⟨i + 1, some ⟨B2.next, 0, none⟩, wb, by omega, rfl, (v2.nx w3 (Nat.zero_le _)).wf, by omega, fun b hb hne => by rw [v2.off _ hne, L3 _ hb]; exact hkeep b hb hne, by rw [m2, z2]; exact r2, by rw [m2, z2]; exact hg3.ext (Nat.le_of_eq v2.next.symm) fun b' hb' => .inr (v2.off _ (by omega)), by simp only [sp_n, hn], by simp only [sg_ne, ne_eq, Nat.reduceEqDiff, not_false_eq_true, s0], by simp only [sg_ne, ne_eq, Nat.reduceEqDiff, not_false_eq_true, s2], by simp only [sg_ne, ne_eq, Nat.reduceEqDiff, not_false_eq_true, s9], by simp only [sg_ne, ne_eq, Nat.reduceEqDiff, not_false_eq_true, s10], by simp only [sg_ne, ne_eq, Nat.reduceEqDiff, not_false_eq_true, s13], by simp only [sg_ne, ne_eq, Nat.reduceEqDiff, not_false_eq_true, s14], by simp only [sg_ne, ne_eq, Nat.reduceEqDiff, not_false_eq_true, s87], by simp only [sg_ne, ne_eq, Nat.reduceEqDiff, not_false_eq_true, s88], by simp only [sg_eq, sp_n, Nat.reduceLT, hn]⟩
              · have hd3 : decide ((n : Int) < (H : Int)) = false := decide_eq_false (by omega)
                have hcH := Nat.mul_le_mul_right l.length (show H ≤ n by omega)
                obtain ⟨j, hj⟩ : ∃ j, n * l.length + i = H * l.length + j := ⟨n * l.length + i - H * l.length, by omega⟩
                have m1 : min (n * l.length + i) (H * l.length) = H * l.length := by omega
                have m2 : min (n * l.length + (i + 1)) (H * l.length) = H * l.length := by omega
                have z1 : n * l.length + i - H * l.length = j := by omega
                have z2 : n * l.length + (i + 1) - H * l.length = j + 1 := by omega
                have hcn : j ≤ 960 := by omega
                rw [m1, z1] at lG gG
                have cF : cl G0 bO 2 = some (.slice wb j j) := by rw [hx2.cl hbOG]; rw [cl_of lG rfl]; rfl
                obtain ⟨F, hF0, hF1, hF2, hF3, hF⟩ : ∃ F : AHeap → Prop, (∀ M, F M → cl M G.next 0 = some (.int .i64 (l.getD i noLas).m)) ∧ (∀ M, F M → cl M G.next 1 = some (.slice (l.getD i noLas).sa (l.getD i noLas).st.length (l.getD i noLas).sc)) ∧ (∀ M, F M → cl M G.next 2 = some (.slice (l.getD i noLas).ra (l.getD i noLas).ro.length (l.getD i noLas).rc)) ∧ (∀ M, F M → cl M bO 2 = some (.slice wb j j)) ∧ (∀ M, Canon.look M.objs G.next = Canon.look G0.objs G.next → Canon.look M.objs bO = Canon.look G0.objs bO → F M) :=
                  ⟨fun M => cl M G.next 0 = some (.int .i64 (l.getD i noLas).m) ∧ cl M G.next 1 = some (.slice (l.getD i noLas).sa (l.getD i noLas).st.length (l.getD i noLas).sc) ∧ cl M G.next 2 = some (.slice (l.getD i noLas).ra (l.getD i noLas).ro.length (l.getD i noLas).rc) ∧ cl M bO 2 = some (.slice wb j j), fun _ h => h.1, fun _ h => h.2.1, fun _ h => h.2.2.1, fun _ h => h.2.2.2, fun M q1 q2 => ⟨(cl_look q1).trans d0, (cl_look q1).trans d1, (cl_look q1).trans d2, (cl_look q2).trans cF⟩⟩
                have hbk : Nx G0.next G0 (bump G0 9) := Nx.bump (Nx.refl hx2.wf _) 9
                have FB : F (bump G0 9) := hF _ rfl rfl
                have hok3 := hok2.nx hbk
                have hval : atL (l.getD i noLas).st (l.getD i noLas).ro n = W (n * l.length + i) := (hWv n i hli).symm
                refine Rn.reg hc rfl ?_
                simp only [sev_tmp, sg_eq, sg_ne, sp_n, Nat.reduceLT, ne_eq, Nat.reduceEqDiff, not_false_eq_true, gd, want_free, rops, fx, bin_lss, Option.some.injEq, exists_eq_left', hn, s9, s14, hd3]
                (repeat (first | refine Rn.seq hc ?_ | refine Rn.skip hc ?_ | refine Rn.block hc ?_ | refine Rn.inBlock hc ?_ | refine Rn.scope hc ?_ | refine Rn.inScope hc ?_))
                refine Rn.condE hc rfl ?_
                simp only [sev_tmp, sg_eq, sp_n, Nat.reduceLT, Value.bool.injEq, exists_eq_left', hn]
                (repeat (first | refine Rn.seq hc ?_ | refine Rn.skip hc ?_ | refine Rn.block hc ?_ | refine Rn.inBlock hc ?_ | refine Rn.scope hc ?_ | refine Rn.inScope hc ?_))
                refine Rn.drawnL hc hx (hdS (W (n * l.length + i))) F (E := [4, 5, 6]) (n := 8) (k := 9) (by kernel_rfl) (by kernel_rfl) (by rfl) (by kernel_rfl) ?_
                refine DrL.read (by first | rfl | kernel_rfl) (by rfl) (by assumption) (fun M hM => by simp only [sev_tmp, sg_ne, ne_eq, Nat.reduceEqDiff, not_false_eq_true, fx, fad, adr_p, Nat.zero_add, fo24_2, s13] <;> rfl) (by rfl) (by first | exact VQ.int _ _ | exact VQ.bool _ | exact VQ.ptr _ _ | exact VQ.slice _ _ _ | exact VQ.func (by simp [vq_int, vq_ptr, vq_slice]) (by simp [vq_int, vq_ptr, vq_slice]) | exact VQ.agg (by simp [vq_int, vq_ptr, vq_slice]) | exact VQ.tuple (by simp [vq_int, vq_ptr, vq_slice])) ?_
                refine DrL.read (by first | rfl | kernel_rfl) (by rfl) (by assumption) (fun M hM => by simp only [sev_tmp, sg_eq, sp_n, Nat.reduceLT, fx, ld, adr_p, tk22, hn, hF3 M hM] <;> rfl) (by rfl) (by first | exact VQ.int _ _ | exact VQ.bool _ | exact VQ.ptr _ _ | exact VQ.slice _ _ _ | exact VQ.func (by simp [vq_int, vq_ptr, vq_slice]) (by simp [vq_int, vq_ptr, vq_slice]) | exact VQ.agg (by simp [vq_int, vq_ptr, vq_slice]) | exact VQ.tuple (by simp [vq_int, vq_ptr, vq_slice])) ?_
                refine DrL.read (by first | rfl | kernel_rfl) (by rfl) (by assumption) (fun M hM => by simp only [sev_tmp, sg_eq, sg_ne, sp_n, Nat.reduceLT, ne_eq, Nat.reduceEqDiff, not_false_eq_true, fx, ld, adr_p, cls, Nat.zero_add, Nat.reduceAdd, tk24, hn, hF0 M hM, hF1 M hM, hF2 M hM] <;> rfl) (by rfl) (by first | exact VQ.int _ _ | exact VQ.bool _ | exact VQ.ptr _ _ | exact VQ.slice _ _ _ | exact VQ.func (by simp [vq_int, vq_ptr, vq_slice]) (by simp [vq_int, vq_ptr, vq_slice]) | exact VQ.agg (by simp [vq_int, vq_slice]) | exact VQ.tuple (by simp [vq_int, vq_ptr, vq_slice])) ?_
                refine DrL.read (by first | rfl | kernel_rfl) (by rfl) (by assumption) (fun M hM => by simp only [sev_tmp, sg_ne, ne_eq, Nat.reduceEqDiff, not_false_eq_true, fx, s14] <;> rfl) (by rfl) (by first | exact VQ.int _ _ | exact VQ.bool _ | exact VQ.ptr _ _ | exact VQ.slice _ _ _ | exact VQ.func (by simp [vq_int, vq_ptr, vq_slice]) (by simp [vq_int, vq_ptr, vq_slice]) | exact VQ.agg (by simp [vq_int, vq_ptr, vq_slice]) | exact VQ.tuple (by simp [vq_int, vq_ptr, vq_slice])) ?_
                refine DrL.call (by kernel_rfl) (by rfl) (by assumption) (by rfl) (opRun_call (by rfl) ⟨by rfl, by rfl⟩ (by rfl) (xs := [.agg #[.int .i64 (l.getD i noLas).m, .slice (l.getD i noLas).sa (l.getD i noLas).st.length (l.getD i noLas).sc, .slice (l.getD i noLas).ra (l.getD i noLas).ro.length (l.getD i noLas).rc], .int .i64 (n : Int)]) (by simp only [sev_tmp, sg_eq, sg_ne, sp_n, Nat.reduceLT, ne_eq, Nat.reduceEqDiff, not_false_eq_true, List.map_cons, List.map_nil, List.nil_append, List.append_nil, hn]) (Con.mono (at_ref hbk.wf hok3.1 hok3.2.1 n hok3.2.2.1 mpos hok3.2.2.2 (by omega)) fun v A1 h => ⟨by rw [h.1, hval], h.2⟩)) ?_
                rintro v B1 ⟨rfl, k1⟩
                have hn1 := k1.next
                rw [bump_next] at hn1 k1
                have F1 : F B1 := hF _ ((k1.keep _ (by omega)).trans rfl) ((k1.keep _ (by omega)).trans rfl)
                refine DrL.float (by rfl) (by rfl) (by rfl) (fb22_1 (v := .int .i64 (W (n * l.length + i))) (by simp only [sev_tmp, sg_eq, sp_n, Nat.reduceLT, hn]) rfl) ?_
                have hnb : Canon.look B1.objs (G0.next + 5) = none := by rw [k1.keep _ (by omega)]; exact hx2.wf.none (by omega)
                obtain ⟨B2, p1, hxB2, eB2, lB2, kB2⟩ := place_row (N := 0) (Nx.refl k1.wf 0) (b := G0.next + 5) (Nat.zero_le _) (by omega) hnb [.int .i64 (W (n * l.length + i))] 3 1 1
                have F2 : F B2 := hF _ ((kB2 _ (by omega)).trans ((k1.keep _ (by omega)).trans rfl)) ((kB2 _ (by omega)).trans ((k1.keep _ (by omega)).trans rfl))
                have gB1 : Gr2 B1 wa wb C5.next (redS W (H * l.length)) (redR W (H * l.length) j) := ((gG.nx hwG hx2).nx hx2.wf hbk).nx hbk.wf (by rw [bump_next]; exact k1)
                have gB2 : Gr2 B2 wa wb C5.next (redS W (H * l.length)) (redR W (H * l.length) j) := gB1.ext (Nat.le_of_eq eB2.symm) fun b' hb' => by
                  by_cases hbb : b' = G0.next + 5
                  · exact .inl (hbb ▸ hnb)
                  · exact .inr (kB2 _ hbb)
                obtain ⟨B3, q1, n3, w3, hg3, nx3, kp3⟩ := Gr2.pushB' hxB2.wf gB2 (a2 := some ⟨G0.next + 5, 0, none⟩) (c2 := 1) (b2 := G0.next + 5) (x := W (n * l.length + i)) rfl (by rw [cl_of lB2 rfl]; rfl) (by rw [redR_len]; omega)
                rw [redR_len] at q1
                rw [hj, redR_snoc] at hg3
                have L3 : ∀ b', b' < C5.next → Canon.look B3.objs b' = Canon.look G.objs b' := fun b' hb' => by
                  rw [nx3.keep _ hb', kB2 _ (by omega), k1.keep _ (by omega)]
                  exact hx2.keep _ (by omega)
                have LG : Canon.look B3.objs G.next = Canon.look G0.objs G.next := by
                  rw [kp3 _ (by omega) (fun y hy => by have := (gG.lt2 hwG y hy).2; omega), kB2 _ (by omega), k1.keep _ (by omega)]
                  rfl
                have F3 : F B3 := hF _ LG ((L3 _ hbO).trans (hx2.keep _ hbOG).symm)
                refine DrL.eff (by rfl) (by rfl) (pd1 := [(5, ⟨[.int .i64 (W (n * l.length + i))], 3, .sl 1 1⟩)]) (pd2 := []) (by kernel_rfl) (by kernel_rfl) (ms0 := [B1]) (A0 := B2) (by simp only [placeAll, p1]) (fun M hM => by rw [List.mem_singleton] at hM; rw [hM]; exact F1) F2 (by rfl)
                  (v := .slice (some ⟨B2.next, 0, none⟩) (j + 1) (j + 1)) (A1 := B3) (opRun_op rfl (by simp only [sev_tmp, sg_eq, sg_ne, sp_n, Nat.reduceLT, ne_eq, Nat.reduceEqDiff, not_false_eq_true, Nat.zero_add, Nat.reduceAdd, hn, ae_apd, apd_slice, FK.val]; exact q1)) ?_
                refine DrL.read (by first | rfl | kernel_rfl) (by rfl) (by assumption) (fun M hM => by simp only [sev_tmp, sg_ne, ne_eq, Nat.reduceEqDiff, not_false_eq_true, fx, fad, adr_p, Nat.zero_add, Nat.reduceAdd, fo24_2, s13] <;> rfl) (by rfl) (by first | exact VQ.int _ _ | exact VQ.bool _ | exact VQ.ptr _ _ | exact VQ.slice _ _ _ | exact VQ.func (by simp [vq_int, vq_ptr, vq_slice]) (by simp [vq_int, vq_ptr, vq_slice]) | exact VQ.agg (by simp [vq_int, vq_ptr, vq_slice]) | exact VQ.tuple (by simp [vq_int, vq_ptr, vq_slice])) ?_
                have l3 : Canon.look B3.objs bO = _ := (L3 _ hbO).trans lG
                obtain ⟨B4, v1, v2⟩ := st1_upd (o := 2) (v := .slice (some ⟨B2.next, 0, none⟩) (j + 1) (j + 1)) l3 rfl (by simp) rfl
                refine DrL.eff (by rfl) (by rfl) (pd1 := []) (pd2 := []) (by kernel_rfl) (by kernel_rfl) (ms0 := []) (A0 := B3) rfl (fun _ h => by cases h) F3 (by rfl) (v := undef) (A1 := B4) (opRun_op rfl (fx_ok (by rfl) (by simp only [sev_tmp, sg_eq, sg_ne, sp_n, Nat.reduceLT, ne_eq, Nat.reduceEqDiff, not_false_eq_true, fx, str, adr_p, Nat.zero_add, Nat.reduceAdd, tk22, hn, v1]))) ?_
                refine DrL.nil ⟨by rfl, B4, by rfl, ?_⟩
                (repeat (first | refine Rn.seq hc ?_ | refine Rn.skip hc ?_ | refine Rn.block hc ?_ | refine Rn.inBlock hc ?_ | refine Rn.scope hc ?_ | refine Rn.inScope hc ?_))
                refine Rn.reg hc rfl ?_
                simp only [sev_tmp, sev_const, sg_eq, sg_ne, sp_n, sp_none, Nat.reduceLT, ne_eq, Nat.reduceEqDiff, not_false_eq_true, gd, want_free, rops, fx, bin_add, Nat.zero_add, Option.some.injEq, exists_eq_left', Nat.reduceAdd, hn, s89, wrap_succ (show i < 9223372036854775807 by omega)]
                (repeat (first | refine Rn.seq hc ?_ | refine Rn.skip hc ?_ | refine Rn.block hc ?_ | refine Rn.inBlock hc ?_ | refine Rn.scope hc ?_ | refine Rn.inScope hc ?_))
                obtain ⟨c', t, f, g, e, r1, r2, _⟩ := v2.at'
                rw [l3] at r1
                cases r1
                have hn4 := v2.next
                exact ih2 _ _ _ (by omega) ⟨i + 1, wa, some ⟨B2.next, 0, none⟩, by omega, rfl, (v2.nx w3 (Nat.zero_le _)).wf, by omega, fun b hb hne => by rw [v2.off _ hne, L3 _ hb]; exact hkeep b hb hne, by rw [m2, z2]; exact r2, by rw [m2, z2]; exact hg3.ext (Nat.le_of_eq v2.next.symm) fun b' hb' => .inr (v2.off _ (by omega)), by simp only [sp_n, hn], by simp only [sg_ne, ne_eq, Nat.reduceEqDiff, not_false_eq_true, s0], by simp only [sg_ne, ne_eq, Nat.reduceEqDiff, not_false_eq_true, s2], by simp only [sg_ne, ne_eq, Nat.reduceEqDiff, not_false_eq_true, s9], by simp only [sg_ne, ne_eq, Nat.reduceEqDiff, not_false_eq_true, s10], by simp only [sg_ne, ne_eq, Nat.reduceEqDiff, not_false_eq_true, s13], by simp only [sg_ne, ne_eq, Nat.reduceEqDiff, not_false_eq_true, s14], by simp only [sg_ne, ne_eq, Nat.reduceEqDiff, not_false_eq_true, s87], by simp only [sg_ne, ne_eq, Nat.reduceEqDiff, not_false_eq_true, s88], by simp only [sg_eq, sp_n, Nat.reduceLT, hn]⟩
            · have hd : decide ((i : Int) < (l.length : Int)) = false := decide_eq_false (by omega)
              have hil : i = l.length := by omega
              subst hil
              clear ih2
              refine Rn.reg hc rfl ?_
              simp only [sev_tmp, gd, want_free, rops, fx, bin_lss, Option.some.injEq, exists_eq_left', s88, s89, hd]
              (repeat (first | refine Rn.seq hc ?_ | refine Rn.skip hc ?_ | refine Rn.block hc ?_ | refine Rn.inBlock hc ?_ | refine Rn.scope hc ?_ | refine Rn.inScope hc ?_))
              refine Rn.condE hc rfl ?_
              simp only [sev_tmp, sg_eq, Nat.reduceLT, Value.bool.injEq, exists_eq_left', hn]
              (repeat (first | refine Rn.seq hc ?_ | refine Rn.skip hc ?_ | refine Rn.block hc ?_ | refine Rn.inBlock hc ?_ | refine Rn.scope hc ?_ | refine Rn.inScope hc ?_))
              refine Rn.exit hc rfl ?_
              (repeat (first | refine Rn.seq hc ?_ | refine Rn.skip hc ?_ | refine Rn.block hc ?_ | refine Rn.inBlock hc ?_ | refine Rn.scope hc ?_ | refine Rn.inScope hc ?_))
              rw [← Nat.succ_mul] at lG gG
              refine Rn.reg hc rfl ?_
              simp only [sev_tmp, sev_const, sg_eq, sg_ne, sp_n, Nat.reduceLT, ne_eq, Nat.reduceEqDiff, not_false_eq_true, gd, want_free, rops, fx, bin_add, Option.some.injEq, exists_eq_left', hn, s14, wrap_succ (show n < 9223372036854775807 by omega)]
              (repeat (first | refine Rn.seq hc ?_ | refine Rn.skip hc ?_ | refine Rn.block hc ?_ | refine Rn.inBlock hc ?_ | refine Rn.scope hc ?_ | refine Rn.inScope hc ?_))
              exact ih _ _ _ (by omega) ⟨n + 1, wa, wb, by omega, rfl, hwG, hnG, hkeep, lG, gG, by simp only [sp_n, hn], by simp only [sg_ne, ne_eq, Nat.reduceEqDiff, not_false_eq_true, s0], by simp only [sg_ne, ne_eq, Nat.reduceEqDiff, not_false_eq_true, s2], by simp only [sg_ne, ne_eq, Nat.reduceEqDiff, not_false_eq_true, s9], by simp only [sg_ne, ne_eq, Nat.reduceEqDiff, not_false_eq_true, s10], by simp only [sg_ne, ne_eq, Nat.reduceEqDiff, not_false_eq_true, s13], by simp only [sg_eq, sp_n, Nat.reduceLT, hn]⟩
          · have hd : decide ((n : Int) < ((H + p : Nat) : Int)) = false := decide_eq_false (by omega)
            have hnn : n = H + p := by omega
            subst hnn
            clear ih
            have m1 : min ((H + p) * l.length) (H * l.length) = H * l.length := by rw [Nat.add_mul]; omega
            have y1 : (H + p) * l.length - H * l.length = p * l.length := by rw [Nat.add_mul]; omega
            rw [m1, y1] at lG gG
            refine Rn.reg hc rfl ?_
            simp only [sev_tmp, sg_eq, sg_ne, sp_n, Nat.reduceLT, ne_eq, Nat.reduceEqDiff, not_false_eq_true, gd, want_free, rops, fx, bin_lss, bin_add, Option.some.injEq, exists_eq_left', hn, s9, s10, s14, hw0, hd]
            (repeat (first | refine Rn.seq hc ?_ | refine Rn.skip hc ?_ | refine Rn.block hc ?_ | refine Rn.inBlock hc ?_ | refine Rn.scope hc ?_ | refine Rn.inScope hc ?_))
            refine Rn.condE hc rfl ?_
            simp only [sev_tmp, sg_eq, sp_n, Nat.reduceLT, Value.bool.injEq, exists_eq_left', hn]
            (repeat (first | refine Rn.seq hc ?_ | refine Rn.skip hc ?_ | refine Rn.block hc ?_ | refine Rn.inBlock hc ?_ | refine Rn.scope hc ?_ | refine Rn.inScope hc ?_))
            refine Rn.exit hc rfl ?_
            (repeat (first | refine Rn.seq hc ?_ | refine Rn.skip hc ?_ | refine Rn.block hc ?_ | refine Rn.inBlock hc ?_ | refine Rn.scope hc ?_ | refine Rn.inScope hc ?_))
            have hAG : Nx A.next A G := ⟨by have := hA5.next; omega, hwG, fun b hb => (hkeep b (by omega) (by omega)).trans (hA5.keep b hb)⟩
            have f0 : cl G bO 0 = some (.int .i64 (l.getD 0 noLas).m) := by rw [cl_of lG rfl]; rfl
            have f1 : cl G bO 1 = some (.slice wa (H * l.length) (H * l.length)) := by rw [cl_of lG rfl]; rfl
            have f2 : cl G bO 2 = some (.slice wb (p * l.length) (p * l.length)) := by rw [cl_of lG rfl]; rfl
            have lGR : Canon.look G.objs A.next = _ := (hkeep _ (by omega) (by omega)).trans lR
            have hg2 := gG.snd
            have hlr := result_ref hwG (m := (l.getD 0 noLas).m) (sc := H * l.length) (rc := p * l.length) (gG.g1.ints.mono (Nat.zero_le _) (Nat.le_refl _)) (hg2.ints.mono (Nat.zero_le _) (Nat.le_refl _)) (by rw [redS_len]; omega) (by rw [redR_len]; omega) (by rw [redR_len]; exact Nat.mul_pos hp0 (by omega)) (hg2.sl.mono (Nat.zero_le _)) (by rw [redR_len]; exact Nat.le_refl _)
            rw [atL_redF hPer] at hlr
            simp only [redS_len, redR_len] at hlr
            refine Rn.region hc fun K hK => ?_
            refine Wo.run hc 1 rfl rfl rfl ?_
            simp (maxSteps := 2000000) only [List.drop_zero, List.take_succ_cons, List.take_zero, sev_tmp, sg_ne, ne_eq, Nat.reduceEqDiff, not_false_eq_true, gd, want_free, rops, fx, ld, adr_p, cls, Nat.zero_add, Option.some.injEq, exists_eq_left', Nat.reduceAdd, tk24, s13, f0, f1, f2]
            refine Wo.call hc (by rfl) (by rfl) ⟨by rfl, by rfl⟩ (xs := [.agg #[.int .i64 (l.getD 0 noLas).m, .slice wa (H * l.length) (H * l.length), .slice wb (p * l.length) (p * l.length)]]) (by rfl) (by rfl) (by simp only [sev_tmp, sg_eq, sp_n, Nat.reduceLT, List.map_cons, List.map_nil, List.nil_append, List.append_nil, hn]) (Con.mono (hlr) ?_)
            rintro w C3 ⟨a', p', hred', _, _, hq⟩
            obtain ⟨mm, n1, n2, ee, p1, c1, p2, c2, rfl, D', q1, g0, g1, g2, hoff, hT⟩ := TldR.fin (b := A.next) hAG (Nat.le_refl _) (by have := hA5.next; omega) lGR (tldR_q (m := (l.getD 0 noLas).m) hred' hq)
            refine Wo.run hc 4 rfl rfl rfl ?_
            simp (maxSteps := 2000000) only [List.drop_zero, List.drop_succ_cons, List.take_succ_cons, List.take_zero, sev_tmp, sg_eq, sg_ne, sp_n, sp_none, Nat.reduceLT, ne_eq, Nat.reduceEqDiff, not_false_eq_true, gd, want_free, rops, fx, str, ext, adr_p, List.getElem?_toArray, List.getElem?_cons_zero, List.getElem?_cons_succ, Nat.zero_add, Option.some.injEq, exists_eq_left', Nat.reduceAdd, tk24, hn, s2, ext, q1, List.size_toArray, List.length_cons, List.length_nil, Nat.beq_refl]
            refine Wo.done hc rfl (hK _ _ ?_)
            clear hK
            (repeat (first | refine Rn.seq hc ?_ | refine Rn.skip hc ?_ | refine Rn.block hc ?_ | refine Rn.inBlock hc ?_ | refine Rn.scope hc ?_ | refine Rn.inScope hc ?_))
            refine Rn.ret (endQ_ct rfl (v := .agg #[.int .i64 mm, .slice p1 n1 c1, .slice p2 n2 c2]) ?_ ?_)
            · simp only [sg_ne, ne_eq, Nat.reduceEqDiff, not_false_eq_true, ld, adr_p, cls, Nat.zero_add, Nat.reduceAdd, tk24, s2, g0, g1, g2]
            · simp only [sg_eq, sp_n, Nat.reduceLT, hn]
              exact hT
end Go.Proofs.Ytdaljohmfnfgiaa
/- Rows of streams that grow. No condition. -/
namespace Go.Proofs.Ytdaljohmfnfgiaa
open Go Go.RowKit Go.Proofs.Ytdaljohmfnfgiaa.Canon
set_option maxRecDepth 20000
theorem el46 : elB Try.prog 46 = some (24, 3, 56) := by kernel_rfl
/-- The cells of a row of streams. -/
def rowL : List Las → List Value
  | [] => []
  | x :: l => .int .i64 x.m :: .slice x.sa x.st.length x.sc :: .slice x.ra x.ro.length x.rc :: rowL l
theorem rowL_len : ∀ l : List Las, (rowL l).length = l.length * 3
  | [] => rfl
  | x :: l => by
    show (rowL l).length + 3 = (l.length + 1) * 3
    rw [rowL_len l]
    omega
theorem rowL_get : ∀ {l : List Las} {i : Nat}, i < l.length → (rowL l)[i * 3]? = some (.int .i64 (l.getD i noLas).m) ∧ (rowL l)[i * 3 + 1]? = some (.slice (l.getD i noLas).sa (l.getD i noLas).st.length (l.getD i noLas).sc) ∧ (rowL l)[i * 3 + 2]? = some (.slice (l.getD i noLas).ra (l.getD i noLas).ro.length (l.getD i noLas).rc)
  | [], _, h => absurd h (by simp)
  | x :: l, 0, _ => ⟨rfl, rfl, rfl⟩
  | x :: l, i + 1, h => by
    have := rowL_get (l := l) (i := i) (by simpa using h)
    rw [Nat.succ_mul]
    exact this
theorem rowL_snoc (x : Las) : ∀ l : List Las, rowL (l ++ [x]) = rowL l ++ [.int .i64 x.m, .slice x.sa x.st.length x.sc, .slice x.ra x.ro.length x.rc]
  | [] => rfl
  | y :: l => by
    show _ :: _ :: _ :: rowL (l ++ [x]) = _
    rw [rowL_snoc x l]
    rfl
theorem getD_snoc {l : List Las} {x : Las} {i : Nat} (h : i < l.length) : (l ++ [x]).getD i noLas = l.getD i noLas := by
  rw [List.getD_eq_getElem?_getD, List.getD_eq_getElem?_getD, List.getElem?_append_left h]
theorem getD_last {l : List Las} {x : Las} : (l ++ [x]).getD l.length noLas = x := by
  rw [List.getD_eq_getElem?_getD, List.getElem?_append_right (Nat.le_refl _)]
  simp
/-- A stream whose memory is one's own. -/
structure OwnE (A : AHeap) (lo : Nat) (x : Las) : Prop where
  i1 : Ints A x.sa lo A.next x.st
  i2 : Ints A x.ra lo A.next x.ro
  s1 : Sl A x.sa lo
  s2 : Sl A x.ra lo
  c1 : x.st.length ≤ x.sc
  c2 : x.ro.length ≤ x.rc
  l1 : x.st.length ≤ 200
  l2 : x.ro.length ≤ 200
theorem OwnE.ok {A : AHeap} {lo : Nat} {x : Las} (h : OwnE A lo x) : x.ok A := ⟨h.i1.mono (Nat.zero_le _) (Nat.le_refl _), h.i2.mono (Nat.zero_le _) (Nat.le_refl _), by have := h.l1; omega, by have := h.l2; omega⟩
theorem OwnE.lt {A : AHeap} (hw : WF A) {lo : Nat} {x : Las} (h : OwnE A lo x) {y : Addr} (hy : x.sa = some y ∨ x.ra = some y) : lo ≤ y.block ∧ y.block < A.next := by
  rcases hy with hy | hy
  · obtain ⟨_, h1, z, hz, _⟩ := h.s1 y hy
    exact ⟨h1, hw _ _ hz⟩
  · obtain ⟨_, h1, z, hz, _⟩ := h.s2 y hy
    exact ⟨h1, hw _ _ hz⟩
theorem OwnE.stay {A B : AHeap} {lo : Nat} {x : Las} (h : OwnE A lo x) (hn : A.next ≤ B.next) (he : ∀ y, (x.sa = some y ∨ x.ra = some y) → Canon.look B.objs y.block = Canon.look A.objs y.block) : OwnE B lo x :=
  { i1 := fun i hi => by
      obtain ⟨b, o, e, p1, p2, p3⟩ := h.i1 i hi
      exact ⟨b, o, e, p1, by omega, (cl_look (he _ (.inl e))).trans p3⟩
    i2 := fun i hi => by
      obtain ⟨b, o, e, p1, p2, p3⟩ := h.i2 i hi
      exact ⟨b, o, e, p1, by omega, (cl_look (he _ (.inr e))).trans p3⟩
    s1 := fun y hy => by
      obtain ⟨p1, p2, z, p3, p4⟩ := h.s1 y hy
      exact ⟨p1, p2, z, (he _ (.inl hy)).trans p3, p4⟩
    s2 := fun y hy => by
      obtain ⟨p1, p2, z, p3, p4⟩ := h.s2 y hy
      exact ⟨p1, p2, z, (he _ (.inr hy)).trans p3, p4⟩
    c1 := h.c1, c2 := h.c2, l1 := h.l1, l2 := h.l2 }
theorem OwnE.nx {A B : AHeap} (hw : WF A) {lo : Nat} {x : Las} (h : OwnE A lo x) (k : Nx A.next A B) : OwnE B lo x := h.stay k.next fun y hy => k.keep _ (h.lt hw hy).2
theorem OwnE.mono {A : AHeap} {lo lo' : Nat} {x : Las} (h : OwnE A lo x) (hl : lo' ≤ lo) : OwnE A lo' x :=
  { i1 := h.i1.mono hl (Nat.le_refl _), i2 := h.i2.mono hl (Nat.le_refl _), s1 := h.s1.mono hl, s2 := h.s2.mono hl, c1 := h.c1, c2 := h.c2, l1 := h.l1, l2 := h.l2 }
/-- A row of streams, to which more may be appended. -/
structure GrL (A : AHeap) (a : Option Addr) (lo : Nat) (l : List Las) : Prop where
  row : Row A a (rowL l)
  base : Base A a 3
  non : a = none → l = []
  low : ∀ z, a = some z → lo ≤ z.block
  each : ∀ i, i < l.length → OwnE A lo (l.getD i noLas)
  apart : ∀ z, a = some z → ∀ i, i < l.length → ∀ y, ((l.getD i noLas).sa = some y ∨ (l.getD i noLas).ra = some y) → y.block ≠ z.block
theorem GrL.nil (A : AHeap) (lo : Nat) : GrL A none lo [] := ⟨.inl rfl, fun x hx => (by cases hx), fun _ => rfl, fun x hx => (by cases hx), fun i hi => absurd hi (by simp), fun x hx => (by cases hx)⟩
theorem GrL.lt {A : AHeap} (hw : WF A) {a : Option Addr} {lo : Nat} {l : List Las} (h : GrL A a lo l) {z : Addr} (hz : a = some z) : z.block < A.next := by
  obtain ⟨y, hy, _⟩ := h.base z hz
  exact hw _ _ hy
theorem GrL.nx {A B : AHeap} (hw : WF A) {a : Option Addr} {lo : Nat} {l : List Las} (h : GrL A a lo l) (k : Nx A.next A B) : GrL B a lo l where
  row := by
    rcases h.row with h0 | ⟨b, o, e, hr⟩
    · exact .inl h0
    · have := h.lt hw e
      exact .inr ⟨b, o, e, fun i hi => (k.cl this _).trans (hr i hi)⟩
  base := fun z hz => by
    obtain ⟨y, hy, h2⟩ := h.base z hz
    exact ⟨y, (k.keep _ (hw _ _ hy)).trans hy, h2⟩
  non := h.non
  low := h.low
  each := fun i hi => (h.each i hi).nx hw k
  apart := h.apart
theorem GrL.lrow {A : AHeap} (hw : WF A) {a : Option Addr} {lo : Nat} {l : List Las} (h : GrL A a lo l) : LRow A a l := fun i hi => by
  refine ⟨(h.each i hi).ok, ?_⟩
  rcases h.row with h0 | ⟨b, o, e, hr⟩
  · have := rowL_len l
    rw [h0] at this
    simp at this
    omega
  · obtain ⟨q0, q1, q2⟩ := rowL_get hi
    obtain ⟨p0, e0⟩ := List.getElem?_eq_some_iff.1 q0
    obtain ⟨p1, e1⟩ := List.getElem?_eq_some_iff.1 q1
    obtain ⟨p2, e2⟩ := List.getElem?_eq_some_iff.1 q2
    exact ⟨b, o, e, h.lt hw e, by rw [hr _ p0, e0], by rw [Nat.add_assoc, hr _ p1, e1], by rw [Nat.add_assoc, hr _ p2, e2]⟩
theorem GrL.push {A : AHeap} (hw : WF A) {a : Option Addr} {lo : Nat} {l : List Las} (h : GrL A a lo l) (hlo : lo ≤ A.next) {x : Las} (hx : OwnE A lo x) (hap : ∀ z, a = some z → ∀ y, (x.sa = some y ∨ x.ra = some y) → y.block ≠ z.block) {b2 c2 : Nat}
    (d0 : cl A b2 0 = some (.int .i64 x.m)) (d1 : cl A b2 1 = some (.slice x.sa x.st.length x.sc)) (d2 : cl A b2 2 = some (.slice x.ra x.ro.length x.rc)) (hlen : l.length ≤ 1000) :
    ∃ A1, aapp Try.prog #[46, 46] #[.slice a l.length l.length, .slice (some ⟨b2, 0, none⟩) 1 c2] A = some (.slice (some ⟨A.next, 0, none⟩) (l.length + 1) (l.length + 1), A1) ∧ A1.next = A.next + 1 ∧ GrL A1 (some ⟨A.next, 0, none⟩) lo (l ++ [x]) ∧ Nx lo A A1 ∧ WF A1 ∧ (∀ b, b < A.next → (∀ z, a = some z → z.block ≠ b) → Canon.look A1.objs b = Canon.look A.objs b) := by
  obtain ⟨A1, h1, h2⟩ := aapp_new (P := Try.prog) (c := l.length) (c2 := c2) (a := a) (n := l.length) (l := rowL l) (m := 1) (a2 := some ⟨b2, 0, none⟩) (l2 := [.int .i64 x.m, .slice x.sa x.st.length x.sc, .slice x.ra x.ro.length x.rc]) el46 un46 h.row (rowL_len l) h.base (fun ha => by rw [h.non ha]; rfl)
    (.inr ⟨b2, 0, rfl, fun i hi => by
      have hi3 : i < 3 := hi
      match i, hi3 with
      | 0, _ => exact d0
      | 1, _ => exact d1
      | 2, _ => exact d2⟩) rfl rfl (fun h' => by cases h') (by omega) (by omega) (by omega)
  have hnx := h2.nx hw hlo (fun z hz => .inl (h.low z hz))
  have hkeep : ∀ b, b < A.next → (∀ z, a = some z → z.block ≠ b) → Canon.look A1.objs b = Canon.look A.objs b := fun b hb hne => h2.old b (by omega) fun z hz => .inl (hne z hz)
  refine ⟨A1, h1, h2.next, ⟨.inr ⟨A.next, 0, rfl, fun i hi => ?_⟩, fun z hz => ?_, fun h0 => (by cases h0), fun z hz => ?_, fun i hi => ?_, fun z hz i hi y hy => ?_⟩, hnx, hnx.wf, hkeep⟩
  · rw [h2.cl, Nat.zero_add, ← rowL_snoc]
    exact List.getElem?_eq_getElem hi
  · cases hz
    exact ⟨_, h2.new, .inr ⟨rfl, rfl, rfl⟩⟩
  · cases hz
    exact hlo
  · rw [List.length_append] at hi
    have hi' : i < l.length + 1 := hi
    by_cases hil : i < l.length
    · rw [getD_snoc hil]
      have hE := h.each i hil
      exact hE.stay (by rw [h2.next]; omega) fun y hy => hkeep _ (hE.lt hw hy).2 fun z hz => (h.apart z hz i hil y hy).symm
    · have : i = l.length := by omega
      subst this
      rw [getD_last]
      exact hx.stay (by rw [h2.next]; omega) fun y hy => hkeep _ (hx.lt hw hy).2 fun z hz => (hap z hz y hy).symm
  · cases hz
    rw [List.length_append] at hi
    have hi' : i < l.length + 1 := hi
    by_cases hil : i < l.length
    · rw [getD_snoc hil] at hy
      have := ((h.each i hil).lt hw hy).2
      show y.block ≠ A.next
      omega
    · have : i = l.length := by omega
      subst this
      rw [getD_last] at hy
      have := (hx.lt hw hy).2
      show y.block ≠ A.next
      omega
end Go.Proofs.Ytdaljohmfnfgiaa
/- LassoParts: the three streams that are made. No condition. -/
namespace Go.Proofs.Ytdaljohmfnfgiaa
open Go Go.RowKit Go.Proofs.Ytdaljohmfnfgiaa.Canon
set_option maxRecDepth 20000

end Go.Proofs.Ytdaljohmfnfgiaa
/- LassoParts: how it ends. No condition. -/
namespace Go.Proofs.Ytdaljohmfnfgiaa
open Go Go.RowKit Go.Proofs.Ytdaljohmfnfgiaa.Canon
set_option maxRecDepth 20000

/-- A result that may be written, and its variable. -/
structure Sp (lo hi : Nat) (D : AHeap) (b : Nat) (y : Las) : Prop where
  c0 : cl D b 0 = some (.int .i64 y.m)
  c1 : cl D b 1 = some (.slice y.sa y.st.length y.sc)
  c2 : cl D b 2 = some (.slice y.ra y.ro.length y.rc)
  lt : b < D.next
  hb : hi ≤ b
  ln : y.ro.length < 4611686018427387904
  w1 : Wrt D y.sa lo hi y.st.length
  w2 : Wrt D y.ra lo hi y.ro.length
theorem Pr.sp {lo hi : Nat} {D : AHeap} {b b' : Nat} {y y' : Las} (h : Pr lo hi D b b' y y') : Sp lo hi D b y := ⟨h.c0, h.c1, h.c2, h.lt, h.hb, h.ok.2.2.2, h.w1, h.w2⟩
theorem Sp.off {lo hi lo' hi' : Nat} {D E : AHeap} {b : Nat} {y : Las} (h : Sp lo hi D b y) (k : Off lo' hi' D E) (hl : hi' ≤ lo) (hlh : lo ≤ hi) : Sp lo hi E b y :=
  ⟨(cl_look (k.keep _ h.lt (.inr (by have := h.hb; omega)))).trans h.c0, (cl_look (k.keep _ h.lt (.inr (by have := h.hb; omega)))).trans h.c1, (cl_look (k.keep _ h.lt (.inr (by have := h.hb; omega)))).trans h.c2, Nat.lt_of_lt_of_le h.lt k.next, h.hb, h.ln,
    h.w1.stay fun b' h1 h2 => k.keep _ (by have := h.hb; have := h.lt; omega) (.inr (by omega)), h.w2.stay fun b' h1 h2 => k.keep _ (by have := h.hb; have := h.lt; omega) (.inr (by omega))⟩
theorem nx_off {C D E : AHeap} {lo hi : Nat} (h : Nx C.next C D) (k : Off lo hi D E) (hl : C.next ≤ lo) : Nx C.next C E :=
  ⟨Nat.le_trans h.next k.next, k.wf, fun b hb => (k.keep b (Nat.lt_of_lt_of_le hb h.next) (.inl (by omega))).trans (h.keep b hb)⟩
theorem Szs.off {A B : AHeap} {lo hi : Nat} (h : Szs lo hi A B) : Off lo hi A B := ⟨Nat.le_of_eq h.next.symm, h.wf, fun b _ hb => h.keep b hb⟩

end Go.Proofs.Ytdaljohmfnfgiaa
/- LassoWeaves over the reckoned memory. No condition. -/
namespace Go.Proofs.Ytdaljohmfnfgiaa
open Go Go.RowKit Go.Proofs.Ytdaljohmfnfgiaa.Canon
set_option maxRecDepth 20000

theorem wov_twL {l l' : List Las} (h : TwL l l') : wov l = wov l' := by
  by_cases h0 : 0 < l.length
  · exact wov_tw h0 h
  · have e1 : l = [] := List.length_eq_zero_iff.1 (by omega)
    have e2 : l' = [] := List.length_eq_zero_iff.1 (by have := h.1; omega)
    rw [e1, e2]
theorem m0_twL {l l' : List Las} (h : TwL l l') : (l.getD 0 noLas).m = (l'.getD 0 noLas).m := by
  by_cases h0 : 0 < l.length
  · exact (h.2 0 h0).1
  · have e1 : l = [] := List.length_eq_zero_iff.1 (by omega)
    have e2 : l' = [] := List.length_eq_zero_iff.1 (by have := h.1; omega)
    rw [e1, e2]
theorem great_no {n m : Nat} (h : ¬ (70 < n ∨ 130 < m)) : (decide ((70 : Int) < (n : Int)) || decide ((130 : Int) < (m : Int))) = false := by
  simp only [Bool.or_eq_false_iff, decide_eq_false_iff_not]
  omega
theorem great_yes {n m : Nat} (h : 70 < n ∨ 130 < m) : (decide ((70 : Int) < (n : Int)) || decide ((130 : Int) < (m : Int))) = true := by
  simp only [Bool.or_eq_true, decide_eq_true_eq]
  omega
/-- Several, in a row; of those that are too long only that. -/
def LRowG (A : AHeap) (a : Option Addr) (l : List Las) : Prop := ∀ i, i < l.length → ((l.getD i noLas).st.length ≤ 70 → (l.getD i noLas).ro.length ≤ 130 → (l.getD i noLas).ok A) ∧ ∃ b o, a = some ⟨b, o, none⟩ ∧ b < A.next ∧ cl A b (o + i * 3) = some (.int .i64 (l.getD i noLas).m) ∧ cl A b (o + i * 3 + 1) = some (.slice (l.getD i noLas).sa (l.getD i noLas).st.length (l.getD i noLas).sc) ∧ cl A b (o + i * 3 + 2) = some (.slice (l.getD i noLas).ra (l.getD i noLas).ro.length (l.getD i noLas).rc)
theorem LRowG.nx {A B : AHeap} {a : Option Addr} {l : List Las} (h : LRowG A a l) (hx : Nx A.next A B) : LRowG B a l := fun i hi => by
  obtain ⟨h1, b, o, h2, h3, h4, h5, h6⟩ := h i hi
  exact ⟨fun q1 q2 => (h1 q1 q2).nx hx, b, o, h2, by have := hx.next; omega, by rw [hx.cl h3]; exact h4, by rw [hx.cl h3]; exact h5, by rw [hx.cl h3]; exact h6⟩
theorem LRowG.all {A : AHeap} {a : Option Addr} {l : List Las} (h : LRowG A a l) (hs : ∀ i, i < l.length → (l.getD i noLas).st.length ≤ 70 ∧ (l.getD i noLas).ro.length ≤ 130) : LRow A a l := fun i hi =>
  ⟨(h i hi).1 (hs i hi).1 (hs i hi).2, (h i hi).2⟩
theorem law_weaves {A : AHeap} (hw : WF A) {a : Option Addr} {c : Nat} {l : List Las} (hl : LRowG A a l) (hcap : ∀ i, i < l.length → (0 < (l.getD i noLas).ro.length → Sl A (l.getD i noLas).ra 0) ∧ (l.getD i noLas).ro.length ≤ (l.getD i noLas).rc) :
    ConF Try.prog 5 [.slice a l.length c] A (fun v A1 => v = .bool true ∧ Nx A.next A A1) := by
  refine conF_of_rn hc Try.func5 rfl (Nat.le_of_ble_eq_true rfl) ?_
  rw [s_in1]
  (repeat (first | refine Rn.seq hc ?_ | refine Rn.skip hc ?_ | refine Rn.block hc ?_ | refine Rn.inBlock hc ?_ | refine Rn.scope hc ?_ | refine Rn.inScope hc ?_))
  refine Rn.reg hc rfl ?_
  simp only [sev_const, gd, want_free, rops, fx, Option.some.injEq, exists_eq_left', show Try.f5.ntmps = 73 from rfl]
  (repeat (first | refine Rn.seq hc ?_ | refine Rn.skip hc ?_ | refine Rn.block hc ?_ | refine Rn.inBlock hc ?_ | refine Rn.scope hc ?_ | refine Rn.inScope hc ?_))
  by_cases hbig : 10 < l.length
  · have hd : decide (10 < (l.length : Int)) = true := decide_eq_true (by omega)
    refine Rn.reg hc rfl ?_
    simp only [sev_tmp, sev_const, sg_eq, sg_ne, sp_n, Nat.reduceLT, ne_eq, Nat.reduceEqDiff, not_false_eq_true, gd, want_free, rops, fx, lng, bin_gtr, Option.some.injEq, exists_eq_left', un46, hd]
    (repeat (first | refine Rn.seq hc ?_ | refine Rn.skip hc ?_ | refine Rn.block hc ?_ | refine Rn.inBlock hc ?_ | refine Rn.scope hc ?_ | refine Rn.inScope hc ?_))
    refine Rn.condE hc rfl ?_
    simp only [sev_tmp, sg_eq, sp_n, Nat.reduceLT, Value.bool.injEq, exists_eq_left']
    (repeat (first | refine Rn.seq hc ?_ | refine Rn.skip hc ?_ | refine Rn.block hc ?_ | refine Rn.inBlock hc ?_ | refine Rn.scope hc ?_ | refine Rn.inScope hc ?_))
    refine Rn.region hc fun K hK => ?_
    refine Wo.call hc (by rfl) (by rfl) ⟨by rfl, by rfl⟩ (xs := []) (by rfl) (by rfl) (by rfl) (Con.mono (awake_con A) ?_)
    rintro w A1 ⟨rfl, rfl⟩
    refine Wo.run hc 1 rfl rfl rfl ?_
    simp (maxSteps := 2000000) only [List.drop_zero, List.drop_succ_cons, List.take_succ_cons, List.take_zero, sev_tmp, sg_eq, sp_n, Nat.reduceLT, gd, want_free, rops, fx, Nat.zero_add, Option.some.injEq, exists_eq_left', Nat.reduceAdd]
    refine Wo.done hc rfl (hK _ _ ?_)
    clear hK
    (repeat (first | refine Rn.seq hc ?_ | refine Rn.skip hc ?_ | refine Rn.block hc ?_ | refine Rn.inBlock hc ?_ | refine Rn.scope hc ?_ | refine Rn.inScope hc ?_))
    refine Rn.ret (endQ_tmp rfl ⟨?_, Nx.refl hw _⟩)
    simp only [sg_eq, sp_n, Nat.reduceLT]
  · have hd : decide (10 < (l.length : Int)) = false := decide_eq_false (by omega)
    refine Rn.reg hc rfl ?_
    simp only [sev_tmp, sev_const, sg_eq, sg_ne, sp_n, Nat.reduceLT, ne_eq, Nat.reduceEqDiff, not_false_eq_true, gd, want_free, rops, fx, lng, bin_gtr, Option.some.injEq, exists_eq_left', un46, hd]
    (repeat (first | refine Rn.seq hc ?_ | refine Rn.skip hc ?_ | refine Rn.block hc ?_ | refine Rn.inBlock hc ?_ | refine Rn.scope hc ?_ | refine Rn.inScope hc ?_))
    refine Rn.condE hc rfl ?_
    simp only [sev_tmp, sg_eq, sp_n, Nat.reduceLT, Value.bool.injEq, exists_eq_left']
    (repeat (first | refine Rn.seq hc ?_ | refine Rn.skip hc ?_ | refine Rn.block hc ?_ | refine Rn.inBlock hc ?_ | refine Rn.scope hc ?_ | refine Rn.inScope hc ?_))
    refine Rn.reg hc rfl ?_
    simp only [sev_const, gd, want_free, rops, fx, Option.some.injEq, exists_eq_left']
    (repeat (first | refine Rn.seq hc ?_ | refine Rn.skip hc ?_ | refine Rn.block hc ?_ | refine Rn.inBlock hc ?_ | refine Rn.scope hc ?_ | refine Rn.inScope hc ?_))
    refine Rn.reg hc rfl ?_
    simp only [sev_tmp, sev_const, sg_eq, sg_ne, sp_n, Nat.reduceLT, ne_eq, Nat.reduceEqDiff, not_false_eq_true, gd, want_free, rops, fx, lng, Option.some.injEq, exists_eq_left', un46]
    (repeat (first | refine Rn.seq hc ?_ | refine Rn.skip hc ?_ | refine Rn.block hc ?_ | refine Rn.inBlock hc ?_ | refine Rn.scope hc ?_ | refine Rn.inScope hc ?_))
    refine Rn.loopI hc (I := fun k s B => ∃ i a' l', i ≤ l.length ∧ k = l.length - i ∧ Nx A.next A B ∧ GrL B a' A.next l' ∧ l'.length = i ∧ (∀ j, j < i → Tw (l'.getD j noLas) (l.getD j noLas)) ∧ (∀ j, j < i → (l.getD j noLas).st.length ≤ 70 ∧ (l.getD j noLas).ro.length ≤ 130) ∧ s.n = 73 ∧ sget s 0 = .slice a l.length c ∧ sget s 3 = .slice a' i i ∧ sget s 16 = .slice a l.length c ∧ sget s 17 = .int .i64 (l.length : Int) ∧ sget s 18 = .int .i64 (i : Int))
      (n := l.length) ⟨0, none, [], by omega, rfl, Nx.refl hw _, GrL.nil _ _, rfl, fun j hj => absurd hj (by omega), fun j hj => absurd hj (by omega), by simp only [sp_n], by simp only [sg_eq, sg_ne, Nat.reduceLT, ne_eq, Nat.reduceEqDiff, not_false_eq_true], by simp only [sg_eq, sg_ne, sp_n, Nat.reduceLT, ne_eq, Nat.reduceEqDiff, not_false_eq_true], by simp only [sg_eq, sg_ne, sp_n, Nat.reduceLT, ne_eq, Nat.reduceEqDiff, not_false_eq_true], by simp only [sg_eq, sg_ne, sp_n, Nat.reduceLT, ne_eq, Nat.reduceEqDiff, not_false_eq_true], by simp only [sg_eq, sp_n, Nat.reduceLT]; rfl⟩ ?_
    clear hd
    rintro k s B ⟨i, a', l', hi, rfl, hB, hgl, hli, htw, hsm, hn, s0, s3, s16, s17, s18⟩ ih
    have nB := hB.next
    (repeat (first | refine Rn.seq hc ?_ | refine Rn.skip hc ?_ | refine Rn.block hc ?_ | refine Rn.inBlock hc ?_ | refine Rn.scope hc ?_ | refine Rn.inScope hc ?_))
    by_cases hlt : i < l.length
    · have hd : decide ((i : Int) < (l.length : Int)) = true := decide_eq_true (by omega)
      obtain ⟨hok, b, o, rfl, hbb, c0, c1, c2⟩ := (hl.nx hB) i hlt
      obtain ⟨B2, p1, hx2, hn2, d0, d1, d2⟩ := put24 hB.wf (v0 := .int .i64 (l.getD i noLas).m) (v1 := .slice (l.getD i noLas).sa (l.getD i noLas).st.length (l.getD i noLas).sc) (v2 := .slice (l.getD i noLas).ra (l.getD i noLas).ro.length (l.getD i noLas).rc) rfl
      refine Rn.reg hc rfl ?_
      simp only [sev_tmp, gd, want_free, rops, fx, bin_lss, Option.some.injEq, exists_eq_left', s17, s18, hd]
      (repeat (first | refine Rn.seq hc ?_ | refine Rn.skip hc ?_ | refine Rn.block hc ?_ | refine Rn.inBlock hc ?_ | refine Rn.scope hc ?_ | refine Rn.inScope hc ?_))
      refine Rn.condE hc rfl ?_
      simp only [sev_tmp, sg_eq, Nat.reduceLT, Value.bool.injEq, exists_eq_left', hn]
      (repeat (first | refine Rn.seq hc ?_ | refine Rn.skip hc ?_ | refine Rn.block hc ?_ | refine Rn.inBlock hc ?_ | refine Rn.scope hc ?_ | refine Rn.inScope hc ?_))
      refine Rn.reg hc rfl ?_
      simp only [sev_tmp, sg_eq, sg_ne, sp_n, sp_none, Nat.reduceLT, ne_eq, Nat.reduceEqDiff, not_false_eq_true, gd, want_free, rops, fx, ld, str, idx, adr_p, cls, Nat.zero_add, Option.some.injEq, exists_eq_left', Value.cells, Nat.reduceAdd, tk24, eo46, hn, s16, s18, nlen_nat hlt, c0, c1, c2, ze24, p1, List.size_toArray, List.length_cons, List.length_nil, Nat.beq_refl]
      (repeat (first | refine Rn.seq hc ?_ | refine Rn.skip hc ?_ | refine Rn.block hc ?_ | refine Rn.inBlock hc ?_ | refine Rn.scope hc ?_ | refine Rn.inScope hc ?_))
      refine Rn.region hc fun K hK => ?_
      refine Wo.run hc 1 rfl rfl rfl ?_
      simp (maxSteps := 2000000) only [List.drop_zero, List.take_succ_cons, List.take_zero, sev_tmp, sg_eq, sp_n, Nat.reduceLT, gd, want_free, rops, fx, ld, adr_p, cls, Nat.zero_add, Option.some.injEq, exists_eq_left', Nat.reduceAdd, tk24, hn, d0, d1, d2]
      refine Wo.call hc (by rfl) (by rfl) ⟨by rfl, by rfl⟩ (xs := [.agg #[.int .i64 (l.getD i noLas).m, .slice (l.getD i noLas).sa (l.getD i noLas).st.length (l.getD i noLas).sc, .slice (l.getD i noLas).ra (l.getD i noLas).ro.length (l.getD i noLas).rc]]) (by rfl) (by rfl) (by simp only [sev_tmp, sg_eq, sp_n, Nat.reduceLT, List.map_cons, List.map_nil, List.nil_append, List.append_nil, hn]) (Con.mono (great_lasso hx2.wf _ _ _ _ _ _ _) ?_)
      rintro w B3 ⟨rfl, hx3⟩
      refine Wo.done hc rfl (hK _ _ ?_)
      clear hK
      (repeat (first | refine Rn.seq hc ?_ | refine Rn.skip hc ?_ | refine Rn.block hc ?_ | refine Rn.inBlock hc ?_ | refine Rn.scope hc ?_ | refine Rn.inScope hc ?_))
      have hB3 : Nx B.next B B3 := hx2.trans (hx3.le hx2.next)
      have hA3 : Nx A.next A B3 := hB.trans (hB3.le nB)
      by_cases hgr : 70 < (l.getD i noLas).st.length ∨ 130 < (l.getD i noLas).ro.length
      · rw [great_yes hgr]
        refine Rn.condE hc rfl ?_
        simp only [sev_tmp, sg_eq, sp_n, Nat.reduceLT, Value.bool.injEq, exists_eq_left', hn]
        (repeat (first | refine Rn.seq hc ?_ | refine Rn.skip hc ?_ | refine Rn.block hc ?_ | refine Rn.inBlock hc ?_ | refine Rn.scope hc ?_ | refine Rn.inScope hc ?_))
        refine Rn.region hc fun K hK => ?_
        refine Wo.call hc (by rfl) (by rfl) ⟨by rfl, by rfl⟩ (xs := []) (by rfl) (by rfl) (by rfl) (Con.mono (awake_con B3) ?_)
        rintro w B4 ⟨rfl, rfl⟩
        refine Wo.run hc 1 rfl rfl rfl ?_
        simp (maxSteps := 2000000) only [List.drop_zero, List.drop_succ_cons, List.take_succ_cons, List.take_zero, sev_tmp, sg_eq, sp_n, Nat.reduceLT, gd, want_free, rops, fx, Nat.zero_add, Option.some.injEq, exists_eq_left', Nat.reduceAdd, hn]
        refine Wo.done hc rfl (hK _ _ ?_)
        clear hK
        (repeat (first | refine Rn.seq hc ?_ | refine Rn.skip hc ?_ | refine Rn.block hc ?_ | refine Rn.inBlock hc ?_ | refine Rn.scope hc ?_ | refine Rn.inScope hc ?_))
        refine Rn.ret (endQ_tmp rfl ⟨?_, hA3⟩)
        simp only [sg_eq, sp_n, Nat.reduceLT, hn]
      · rw [great_no hgr]
        refine Rn.condE hc rfl ?_
        simp only [sev_tmp, sg_eq, sp_n, Nat.reduceLT, Value.bool.injEq, exists_eq_left', hn]
        (repeat (first | refine Rn.seq hc ?_ | refine Rn.skip hc ?_ | refine Rn.block hc ?_ | refine Rn.inBlock hc ?_ | refine Rn.scope hc ?_ | refine Rn.inScope hc ?_))
        have d0 := (hx3.cl (show B.next < B2.next by omega) 0).trans d0
        have d1 := (hx3.cl (show B.next < B2.next by omega) 1).trans d1
        have d2 := (hx3.cl (show B.next < B2.next by omega) 2).trans d2
        obtain ⟨o1, o2, -, -⟩ := ((hok (by omega) (by omega)).nx hx2).nx hx3
        refine Rn.region hc fun K hK => ?_
        refine Wo.run hc 2 rfl rfl rfl ?_
        simp (maxSteps := 2000000) only [List.drop_zero, List.take_succ_cons, List.take_zero, sev_tmp, sg_eq, sg_ne, sp_n, Nat.reduceLT, ne_eq, Nat.reduceEqDiff, not_false_eq_true, gd, want_free, rops, fx, ld, adr_p, cls, Nat.zero_add, Option.some.injEq, exists_eq_left', Nat.reduceAdd, tk24, hn, s3, d0, d1, d2]
        refine Wo.call hc (by rfl) (by rfl) ⟨by rfl, by rfl⟩ (xs := [.agg #[.int .i64 (l.getD i noLas).m, .slice (l.getD i noLas).sa (l.getD i noLas).st.length (l.getD i noLas).sc, .slice (l.getD i noLas).ra (l.getD i noLas).ro.length (l.getD i noLas).rc]]) (by rfl) (by rfl) (by simp only [sev_tmp, sg_eq, sp_n, Nat.reduceLT, List.map_cons, List.map_nil, List.nil_append, List.append_nil, hn]) (Con.mono (own_lasso hx3.wf o1 o2 (by omega) (by omega)) ?_)
        rintro w B4 ⟨xa, xc, ya, yc, rfl, q1, q2, hx4, i1, i2, y1, y2⟩
        obtain ⟨B5, e5, hx5, hn5, f0, f1, f2⟩ := box3 hx4.wf (.int .i64 (l.getD i noLas).m) (.slice xa (l.getD i noLas).st.length xc) (.slice ya (l.getD i noLas).ro.length yc) 24
        have hE3 : OwnE B4 B3.next ⟨(l.getD i noLas).m, xa, xc, (l.getD i noLas).st, ya, yc, (l.getD i noLas).ro⟩ :=
          { i1 := i1, i2 := i2, s1 := y1, s2 := y2, c1 := q1, c2 := q2, l1 := (by show (l.getD i noLas).st.length ≤ 200; omega), l2 := (by show (l.getD i noLas).ro.length ≤ 200; omega) }
        have n3 := hB3.next
        have n4 := hx4.next
        have hB5 : Nx B.next B B5 := hB3.trans ((hx4.le n3).trans (hx5.le (by omega)))
        have hg5 := hgl.nx hB.wf hB5
        obtain ⟨B6, q6, n6, hg6, nx6, w6, -⟩ := GrL.push hx5.wf hg5 (by omega) ((hE3.nx hx4.wf hx5).mono (by omega)) (fun z hz y hy => by
          have h1 := hgl.lt hB.wf hz
          have h2 := (hE3.lt hx4.wf hy).1
          omega) (b2 := B4.next) (c2 := 1) f0 f1 f2 (by omega)
        rw [hli] at q6
        refine Wo.run hc 3 rfl rfl rfl ?_
        simp (maxSteps := 2000000) only [List.drop_zero, List.drop_succ_cons, List.take_succ_cons, List.take_zero, sev_tmp, sg_eq, sg_ne, sp_n, Nat.reduceLT, ne_eq, Nat.reduceEqDiff, not_false_eq_true, gd, want_free, rops, fx, Nat.zero_add, Option.some.injEq, exists_eq_left', Value.cells, Nat.reduceAdd, hn, bs46_1, List.size_toArray, List.length_cons, List.length_nil, e5, ae_apd, apd_slice, q6]
        refine Wo.done hc rfl (hK _ _ ?_)
        clear hK
        (repeat (first | refine Rn.seq hc ?_ | refine Rn.skip hc ?_ | refine Rn.block hc ?_ | refine Rn.inBlock hc ?_ | refine Rn.scope hc ?_ | refine Rn.inScope hc ?_))
        refine Rn.reg hc rfl ?_
        simp only [sev_tmp, sev_const, sg_eq, sg_ne, sp_n, Nat.reduceLT, ne_eq, Nat.reduceEqDiff, not_false_eq_true, gd, want_free, rops, fx, bin_add, Option.some.injEq, exists_eq_left', hn, s18, wrap_succ (show i < 9223372036854775807 by omega)]
        (repeat (first | refine Rn.seq hc ?_ | refine Rn.skip hc ?_ | refine Rn.block hc ?_ | refine Rn.inBlock hc ?_ | refine Rn.scope hc ?_ | refine Rn.inScope hc ?_))
        refine ih _ _ _ (by omega) ⟨i + 1, _, _, by omega, rfl, hB.trans ((hB5.le nB).trans nx6), hg6, by simp [hli], fun j hj => ?_, fun j hj => ?_, by simp only [sp_n, hn], by simp only [sg_ne, ne_eq, Nat.reduceEqDiff, not_false_eq_true, s0], by simp only [sg_eq, sg_ne, sp_n, Nat.reduceLT, ne_eq, Nat.reduceEqDiff, not_false_eq_true, hn], by simp only [sg_ne, ne_eq, Nat.reduceEqDiff, not_false_eq_true, s16], by simp only [sg_ne, ne_eq, Nat.reduceEqDiff, not_false_eq_true, s17], by simp only [sg_eq, sp_n, Nat.reduceLT, hn]⟩
        rotate_left
        · by_cases hji : j < i
          · exact hsm j hji
          · have : j = i := by omega
            subst this
            omega
        by_cases hji : j < i
        · rw [getD_snoc (by omega)]
          exact htw j hji
        · have : j = l'.length := by omega
          subst this
          rw [getD_last, hli]
          exact ⟨rfl, rfl, rfl⟩
    · have hd : decide ((i : Int) < (l.length : Int)) = false := decide_eq_false (by omega)
      have hil : i = l.length := by omega
      subst hil
      clear ih
      have htl : TwL l' l := ⟨hli, fun i hi => htw i (by omega)⟩
      have hl := hl.all hsm
      obtain ⟨fa, fp, hred⟩ : ∃ fa fp, errs l l = 0 → RedL l fa fp := by
        by_cases he : errs l l = 0
        · obtain ⟨fa, fp, h⟩ := redL_exists he
          exact ⟨fa, fp, fun _ => h⟩
        · exact ⟨id, id, fun h => absurd h he⟩
      have hrun := weave_run hB.wf (c := l.length) (hgl.lrow hB.wf) (fun i hi => ⟨(hgl.each i hi).s1.mono (Nat.zero_le _), (hgl.each i hi).c1⟩) (fa := fa) (fp := fp) (fun he => (hred (by rw [← errs_twL htl htl]; exact he)).tw ⟨htl.1.symm, fun i hi => ⟨(htl.2 i (by have := htl.1; omega)).1.symm, (htl.2 i (by have := htl.1; omega)).2.1.symm, (htl.2 i (by have := htl.1; omega)).2.2.symm⟩⟩)
      rw [erW_tw htl, wov_twL htl, m0_twL htl, hli] at hrun
      refine Rn.reg hc rfl ?_
      simp only [sev_tmp, gd, want_free, rops, fx, bin_lss, Option.some.injEq, exists_eq_left', s17, s18, hd]
      (repeat (first | refine Rn.seq hc ?_ | refine Rn.skip hc ?_ | refine Rn.block hc ?_ | refine Rn.inBlock hc ?_ | refine Rn.scope hc ?_ | refine Rn.inScope hc ?_))
      refine Rn.condE hc rfl ?_
      simp only [sev_tmp, sg_eq, Nat.reduceLT, Value.bool.injEq, exists_eq_left', hn]
      (repeat (first | refine Rn.seq hc ?_ | refine Rn.skip hc ?_ | refine Rn.block hc ?_ | refine Rn.inBlock hc ?_ | refine Rn.scope hc ?_ | refine Rn.inScope hc ?_))
      refine Rn.exit hc rfl ?_
      (repeat (first | refine Rn.seq hc ?_ | refine Rn.skip hc ?_ | refine Rn.block hc ?_ | refine Rn.inBlock hc ?_ | refine Rn.scope hc ?_ | refine Rn.inScope hc ?_))
      clear hd s16 s17 s18
      refine Rn.region hc fun K hK => ?_
      refine Wo.run hc 1 rfl rfl rfl ?_
      simp (maxSteps := 2000000) only [List.drop_zero, List.take_succ_cons, List.take_zero, sev_tmp, sg_ne, ne_eq, Nat.reduceEqDiff, not_false_eq_true, gd, want_free, rops, fx, Nat.zero_add, Option.some.injEq, exists_eq_left', s3]
      refine Wo.call hc (by rfl) (by rfl) ⟨by rfl, by rfl⟩ (xs := [.slice a' l.length l.length]) (by rfl) (by rfl) (by simp only [sev_tmp, sg_eq, sp_n, Nat.reduceLT, List.map_cons, List.map_nil, List.nil_append, List.append_nil, hn]) (Con.mono (hrun) ?_)
      rintro w B1 ⟨hx1, mm, L1, L2, ee, p1, c1, p2, c2, hTP, rfl, i1, i2, w1, w2, -⟩
      obtain ⟨B2, r2, hx2, hn2, d0, d1, d2⟩ := put24 hx1.wf (v0 := .int .i64 mm) (v1 := .slice p1 L1.length c1) (v2 := .slice p2 L2.length c2) rfl
      refine Wo.run hc 6 rfl rfl rfl ?_
      simp (maxSteps := 2000000) only [List.drop_zero, List.drop_succ_cons, List.take_succ_cons, List.take_zero, sev_tmp, sg_eq, sg_ne, sp_n, sp_none, Nat.reduceLT, ne_eq, Nat.reduceEqDiff, not_false_eq_true, gd, want_free, rops, fx, str, ext, adr_p, List.getElem?_toArray, List.getElem?_cons_zero, List.getElem?_cons_succ, Nat.zero_add, Option.some.injEq, exists_eq_left', Value.cells, Nat.reduceAdd, tk24, hn, ext, ze24, r2, List.size_toArray, List.length_cons, List.length_nil, Nat.beq_refl]
      refine Wo.done hc rfl (hK _ _ ?_)
      clear hK
      (repeat (first | refine Rn.seq hc ?_ | refine Rn.skip hc ?_ | refine Rn.block hc ?_ | refine Rn.inBlock hc ?_ | refine Rn.scope hc ?_ | refine Rn.inScope hc ?_))
      have n1 := hx1.next
      have hB2 : Nx B.next B B2 := hx1.trans (hx2.le n1)
      have hA2 : Nx A.next A B2 := hB.trans (hB2.le nB)
      refine Rn.region hc fun K hK => ?_
      refine Wo.run hc 1 rfl rfl rfl ?_
      simp (maxSteps := 2000000) only [List.drop_zero, List.take_succ_cons, List.take_zero, sev_tmp, sg_ne, ne_eq, Nat.reduceEqDiff, not_false_eq_true, gd, want_free, rops, fx, Nat.zero_add, Option.some.injEq, exists_eq_left', s0]
      refine Wo.call hc (by rfl) (by rfl) ⟨by rfl, by rfl⟩ (xs := [.slice a l.length c]) (by rfl) (by rfl) (by simp only [sev_tmp, sg_eq, sp_n, Nat.reduceLT, List.map_cons, List.map_nil, List.nil_append, List.append_nil, hn]) (Con.mono (weave_ref hB2.wf (hl.nx hA2) (fun i hi => ⟨fun h0 => ((hcap i hi).1 h0).nx hw hA2, (hcap i hi).2⟩) hred) ?_)
      rintro w B3 hR
      obtain ⟨p3, c3, p4, c4, rfl, hx3, hP⟩ := pair_of hx1 hTP i1 i2 w1 w2 hx2 hn2 d0 d1 d2 hR
      obtain ⟨B4, r4, hx4, hn4, f0, f1, f2⟩ := put24 hx3.wf (v0 := .int .i64 mm) (v1 := .slice p3 L1.length c3) (v2 := .slice p4 L2.length c4) rfl
      have hP4 := hP B4 hx4 hn4 f0 f1 f2
      refine Wo.run hc 6 rfl rfl rfl ?_
      simp (maxSteps := 2000000) only [List.drop_zero, List.drop_succ_cons, List.take_succ_cons, List.take_zero, sev_tmp, sg_eq, sg_ne, sp_n, sp_none, Nat.reduceLT, ne_eq, Nat.reduceEqDiff, not_false_eq_true, gd, want_free, rops, fx, str, ext, adr_p, List.getElem?_toArray, List.getElem?_cons_zero, List.getElem?_cons_succ, Nat.zero_add, Option.some.injEq, exists_eq_left', Value.cells, Nat.reduceAdd, tk24, hn, ext, ze24, r4, List.size_toArray, List.length_cons, List.length_nil, Nat.beq_refl]
      refine Wo.done hc rfl (hK _ _ ?_)
      clear hK
      (repeat (first | refine Rn.seq hc ?_ | refine Rn.skip hc ?_ | refine Rn.block hc ?_ | refine Rn.inBlock hc ?_ | refine Rn.scope hc ?_ | refine Rn.inScope hc ?_))
      have n2 := hB2.next
      have n3 := hx3.next
      have hB4 : Nx B.next B B4 := hB2.trans ((hx3.le n2).trans (hx4.le (by omega)))
      have g0 := hP4.c0
      have g1 := hP4.c1
      have g2 := hP4.c2
      have h0 := hP4.d0
      have h1 := hP4.d1
      have h2 := hP4.d2
      refine Rn.region hc fun K hK => ?_
      refine Wo.run hc 2 rfl rfl rfl ?_
      simp (maxSteps := 2000000) only [List.drop_zero, List.take_succ_cons, List.take_zero, sev_tmp, sg_eq, sg_ne, sp_n, Nat.reduceLT, ne_eq, Nat.reduceEqDiff, not_false_eq_true, gd, want_free, rops, fx, ld, adr_p, cls, Nat.zero_add, Option.some.injEq, exists_eq_left', Nat.reduceAdd, tk24, hn, g0, g1, g2, h0, h1, h2]
      refine Wo.call hc (by rfl) (by rfl) ⟨by rfl, by rfl⟩ (xs := [(⟨mm, p1, c1, L1, p2, c2, L2⟩ : Las).v, (⟨mm, p3, c3, L1, p4, c4, L2⟩ : Las).v]) (by rfl) (by rfl) (by simp only [sev_tmp, sg_eq, sg_ne, sp_n, Nat.reduceLT, ne_eq, Nat.reduceEqDiff, not_false_eq_true, List.map_cons, List.map_nil, List.nil_append, List.append_nil, hn]; rfl) (Con.mono (same_true hB4.wf hP4.ok' hP4.ok hP4.tw) ?_)
      rintro w B5 ⟨rfl, hx5⟩
      refine Wo.run hc 6 rfl rfl rfl ?_
      simp (maxSteps := 2000000) only [List.drop_zero, List.drop_succ_cons, List.take_succ_cons, List.take_zero, sev_tmp, sg_eq, sg_ne, sp_n, Nat.reduceLT, ne_eq, Nat.reduceEqDiff, not_false_eq_true, gd, nth, want_free, want_slot, beqB, rops, fx, pck, bin_eql, Option.some.injEq, exists_eq_left', Nat.reduceAdd, hn, eq_self, decide_true]
      refine Wo.done hc rfl (hK _ _ ?_)
      clear hK
      (repeat (first | refine Rn.seq hc ?_ | refine Rn.skip hc ?_ | refine Rn.block hc ?_ | refine Rn.inBlock hc ?_ | refine Rn.scope hc ?_ | refine Rn.inScope hc ?_))
      have hP5 := (hP4.nx hx5).sp
      have n4 := hB4.next
      have hB5 : Nx B.next B B5 := hB4.trans (hx5.le n4)
      have g0 := hP5.c0
      have g1 := hP5.c1
      have g2 := hP5.c2
      refine Rn.region hc fun K hK => ?_
      refine Wo.run hc 1 rfl rfl rfl ?_
      simp (maxSteps := 2000000) only [List.drop_zero, List.take_succ_cons, List.take_zero, sev_tmp, sg_eq, sg_ne, sp_n, Nat.reduceLT, ne_eq, Nat.reduceEqDiff, not_false_eq_true, gd, want_free, rops, fx, ld, adr_p, cls, Nat.zero_add, Option.some.injEq, exists_eq_left', Nat.reduceAdd, tk24, hn, g0, g1, g2]
      refine Wo.call hc (by rfl) (by rfl) ⟨by rfl, by rfl⟩ (xs := [(⟨mm, p1, c1, L1, p2, c2, L2⟩ : Las).v]) (by rfl) (by rfl) (by simp only [sev_tmp, sg_eq, sp_n, Nat.reduceLT, List.map_cons, List.map_nil, List.nil_append, List.append_nil, hn]; rfl) (Con.mono (spoil_off hx5.wf (lo := B.next) (hi := B1.next) (by have := hx5.next; omega) hP5.w1 hP5.w2 hP5.ln) ?_)
      rintro w E hE
      refine Wo.done hc rfl (hK _ _ ?_)
      clear hK
      (repeat (first | refine Rn.seq hc ?_ | refine Rn.skip hc ?_ | refine Rn.block hc ?_ | refine Rn.inBlock hc ?_ | refine Rn.scope hc ?_ | refine Rn.inScope hc ?_))
      have hBE : Nx B.next B E := nx_off hB5 hE (Nat.le_refl _)
      have hAE : Nx A.next A E := hB.trans (hBE.le nB)
      have hlE := hl.nx hAE
      have hgE := hgl.nx hB.wf hBE
      have hrE := hgE.lrow hBE.wf
      clear hP hP4 hP5 hR g0 g1 g2 h0 h1 h2 f0 f1 f2 d0 d1 d2 hTP i1 i2 w1 w2 hrun r2 r4
      refine Rn.reg hc rfl ?_
      simp only [sev_tmp, sev_const, sg_eq, sg_ne, sp_n, Nat.reduceLT, ne_eq, Nat.reduceEqDiff, not_false_eq_true, gd, want_free, rops, fx, lng, Option.some.injEq, exists_eq_left', un46, hn, s0]
      (repeat (first | refine Rn.seq hc ?_ | refine Rn.skip hc ?_ | refine Rn.block hc ?_ | refine Rn.inBlock hc ?_ | refine Rn.scope hc ?_ | refine Rn.inScope hc ?_))
      refine Rn.loopI hc (I := fun k s D => ∃ i, i ≤ l.length ∧ k = l.length - i ∧ Nx E.next E D ∧ s.n = 73 ∧ sget s 0 = .slice a l.length c ∧ sget s 3 = .slice a' l.length l.length ∧ sget s 10 = .bool true ∧ sget s 52 = .int .i64 (l.length : Int) ∧ sget s 53 = .int .i64 (i : Int))
        (n := l.length) ⟨0, by omega, rfl, Nx.refl hBE.wf _, by simp only [sp_n, hn], by simp only [sg_ne, ne_eq, Nat.reduceEqDiff, not_false_eq_true, s0], by simp only [sg_ne, ne_eq, Nat.reduceEqDiff, not_false_eq_true, s3], by simp only [sg_eq, sg_ne, sp_n, Nat.reduceLT, ne_eq, Nat.reduceEqDiff, not_false_eq_true, hn], by simp only [sg_eq, sg_ne, sp_n, Nat.reduceLT, ne_eq, Nat.reduceEqDiff, not_false_eq_true, hn], by simp only [sg_eq, sp_n, Nat.reduceLT, hn]; rfl⟩ ?_
      clear hn s0 s3 s
      rintro k s D ⟨i, hi, rfl, hD, hn, s0, s3, s10, s52, s53⟩ ih
      have hAD : Nx A.next A D := hAE.trans (hD.le hAE.next)
      (repeat (first | refine Rn.seq hc ?_ | refine Rn.skip hc ?_ | refine Rn.block hc ?_ | refine Rn.inBlock hc ?_ | refine Rn.scope hc ?_ | refine Rn.inScope hc ?_))
      by_cases hlt : i < l.length
      · have hd : decide ((i : Int) < (l.length : Int)) = true := decide_eq_true (by omega)
        obtain ⟨hok, b, o, rfl, hbb, c0, c1, c2⟩ := (hlE.nx hD) i hlt
        obtain ⟨hok', b', o', rfl, hbb', c0', c1', c2'⟩ := (hrE.nx hD) i (by omega)
        obtain ⟨F, hFb, hF⟩ : ∃ F : AHeap → Prop, (∀ M, F M → ∀ b, b < D.next → ∀ o, cl M b o = cl D b o) ∧ (∀ M, Nx D.next D M → F M) := ⟨fun M => Nx D.next D M, fun M h b hb o => h.cl hb o, fun _ h => h⟩
        have G0 := fun M hM => (hFb M hM _ hbb _).trans c0
        have G1 := fun M hM => (hFb M hM _ hbb _).trans c1
        have G2 := fun M hM => (hFb M hM _ hbb _).trans c2
        have H0 := fun M hM => (hFb M hM _ hbb' _).trans c0'
        have H1 := fun M hM => (hFb M hM _ hbb' _).trans c1'
        have H2 := fun M hM => (hFb M hM _ hbb' _).trans c2'
        have hbk : Nx D.next D (bump D 13) := Nx.bump (Nx.refl hD.wf _) 13
        have FB := hF _ hbk
        refine Rn.reg hc rfl ?_
        simp only [sev_tmp, gd, want_free, rops, fx, bin_lss, Option.some.injEq, exists_eq_left', s52, s53, hd]
        (repeat (first | refine Rn.seq hc ?_ | refine Rn.skip hc ?_ | refine Rn.block hc ?_ | refine Rn.inBlock hc ?_ | refine Rn.scope hc ?_ | refine Rn.inScope hc ?_))
        refine Rn.condE hc rfl ?_
        simp only [sev_tmp, sg_eq, Nat.reduceLT, Value.bool.injEq, exists_eq_left', hn]
        (repeat (first | refine Rn.seq hc ?_ | refine Rn.skip hc ?_ | refine Rn.block hc ?_ | refine Rn.inBlock hc ?_ | refine Rn.scope hc ?_ | refine Rn.inScope hc ?_))
        refine Rn.reg hc rfl ?_
        simp only [sev_tmp, sg_eq, sg_ne, sp_n, Nat.reduceLT, ne_eq, Nat.reduceEqDiff, not_false_eq_true, gd, want_free, rops, fx, Option.some.injEq, exists_eq_left', hn, s53]
        (repeat (first | refine Rn.seq hc ?_ | refine Rn.skip hc ?_ | refine Rn.block hc ?_ | refine Rn.inBlock hc ?_ | refine Rn.scope hc ?_ | refine Rn.inScope hc ?_))
        refine Rn.drawnF hc hx (cS3 0) F (n := 1) (k := 13) (by kernel_rfl) (by kernel_rfl) (by rfl) ?_
        refine Dr.read (by first | rfl | kernel_rfl) (by rfl) (by assumption) (fun M hM => by simp only [sev_tmp, sg_ne, ne_eq, Nat.reduceEqDiff, not_false_eq_true, fx, s10] <;> rfl) (by rfl) (by first | exact VQ.int _ _ | exact VQ.bool _ | exact VQ.ptr _ _ | exact VQ.slice _ _ _ | exact VQ.func (by simp [vq_int, vq_ptr, vq_slice]) (by simp [vq_int, vq_ptr, vq_slice]) | exact VQ.agg (by simp [vq_int, vq_ptr, vq_slice]) | exact VQ.tuple (by simp [vq_int, vq_ptr, vq_slice])) ?_
        refine Dr.read (by first | rfl | kernel_rfl) (by rfl) (by assumption) (fun M hM => by simp only [sev_tmp, sg_eq, sp_n, Nat.reduceLT, fx, hn] <;> rfl) (by rfl) (by first | exact VQ.int _ _ | exact VQ.bool _ | exact VQ.ptr _ _ | exact VQ.slice _ _ _ | exact VQ.func (by simp [vq_int, vq_ptr, vq_slice]) (by simp [vq_int, vq_ptr, vq_slice]) | exact VQ.agg (by simp [vq_int, vq_ptr, vq_slice]) | exact VQ.tuple (by simp [vq_int, vq_ptr, vq_slice])) ?_
        refine Dr.read (by first | rfl | kernel_rfl) (by simp only [sg_eq, sp_n, Nat.reduceLT, gd, nth, want_slot, beqB, hn]) (by assumption) (fun M hM => by simp only [sev_tmp, sg_ne, ne_eq, Nat.reduceEqDiff, not_false_eq_true, fx, s3] <;> rfl) (by rfl) (by first | exact VQ.int _ _ | exact VQ.bool _ | exact VQ.ptr _ _ | exact VQ.slice _ _ _ | exact VQ.func (by simp [vq_int, vq_ptr, vq_slice]) (by simp [vq_int, vq_ptr, vq_slice]) | exact VQ.agg (by simp [vq_int, vq_ptr, vq_slice]) | exact VQ.tuple (by simp [vq_int, vq_ptr, vq_slice])) ?_
        refine Dr.read (by first | rfl | kernel_rfl) (by simp only [sg_eq, sg_ne, sp_n, Nat.reduceLT, ne_eq, Nat.reduceEqDiff, not_false_eq_true, gd, nth, want_slot, beqB, hn]) (by assumption) (fun M hM => by simp only [sev_tmp, sg_eq, sg_ne, sp_n, Nat.reduceLT, ne_eq, Nat.reduceEqDiff, not_false_eq_true, fx, hn] <;> rfl) (by rfl) (by first | exact VQ.int _ _ | exact VQ.bool _ | exact VQ.ptr _ _ | exact VQ.slice _ _ _ | exact VQ.func (by simp [vq_int, vq_ptr, vq_slice]) (by simp [vq_int, vq_ptr, vq_slice]) | exact VQ.agg (by simp [vq_int, vq_ptr, vq_slice]) | exact VQ.tuple (by simp [vq_int, vq_ptr, vq_slice])) ?_
        refine Dr.read (by first | rfl | kernel_rfl) (by simp only [sg_eq, sg_ne, sp_n, Nat.reduceLT, ne_eq, Nat.reduceEqDiff, not_false_eq_true, gd, nth, want_slot, beqB, hn]) (by assumption) (fun M hM => by simp only [sev_tmp, sg_eq, sg_ne, sp_n, Nat.reduceLT, ne_eq, Nat.reduceEqDiff, not_false_eq_true, fx, idx, eo46, hn, nlen_nat hlt] <;> rfl) (by rfl) (by first | exact VQ.int _ _ | exact VQ.bool _ | exact VQ.ptr _ _ | exact VQ.slice _ _ _ | exact VQ.func (by simp [vq_int, vq_ptr, vq_slice]) (by simp [vq_int, vq_ptr, vq_slice]) | exact VQ.agg (by simp [vq_int, vq_ptr, vq_slice]) | exact VQ.tuple (by simp [vq_int, vq_ptr, vq_slice])) ?_
        refine Dr.read (by first | rfl | kernel_rfl) (by simp only [sg_eq, sg_ne, sp_n, Nat.reduceLT, ne_eq, Nat.reduceEqDiff, not_false_eq_true, gd, nth, want_slot, beqB, hn]) (by assumption) (fun M hM => by simp only [sev_tmp, sg_eq, sp_n, Nat.reduceLT, fx, ld, adr_p, cls, tk24, hn, H0 M hM, H1 M hM, H2 M hM] <;> rfl) (by rfl) (by first | exact VQ.int _ _ | exact VQ.bool _ | exact VQ.ptr _ _ | exact VQ.slice _ _ _ | exact VQ.func (by simp [vq_int, vq_ptr, vq_slice]) (by simp [vq_int, vq_ptr, vq_slice]) | exact VQ.agg (by simp [vq_int, vq_slice]) | exact VQ.tuple (by simp [vq_int, vq_ptr, vq_slice])) ?_
        refine Dr.read (by first | rfl | kernel_rfl) (by simp only [sg_eq, sg_ne, sp_n, Nat.reduceLT, ne_eq, Nat.reduceEqDiff, not_false_eq_true, gd, nth, want_slot, beqB, hn]) (by assumption) (fun M hM => by simp only [sev_tmp, sg_ne, ne_eq, Nat.reduceEqDiff, not_false_eq_true, fx, s0] <;> rfl) (by rfl) (by first | exact VQ.int _ _ | exact VQ.bool _ | exact VQ.ptr _ _ | exact VQ.slice _ _ _ | exact VQ.func (by simp [vq_int, vq_ptr, vq_slice]) (by simp [vq_int, vq_ptr, vq_slice]) | exact VQ.agg (by simp [vq_int, vq_ptr, vq_slice]) | exact VQ.tuple (by simp [vq_int, vq_ptr, vq_slice])) ?_
        refine Dr.read (by first | rfl | kernel_rfl) (by simp only [sg_eq, sg_ne, sp_n, Nat.reduceLT, ne_eq, Nat.reduceEqDiff, not_false_eq_true, gd, nth, want_slot, beqB, hn]) (by assumption) (fun M hM => by simp only [sev_tmp, sg_eq, sg_ne, sp_n, Nat.reduceLT, ne_eq, Nat.reduceEqDiff, not_false_eq_true, fx, hn] <;> rfl) (by rfl) (by first | exact VQ.int _ _ | exact VQ.bool _ | exact VQ.ptr _ _ | exact VQ.slice _ _ _ | exact VQ.func (by simp [vq_int, vq_ptr, vq_slice]) (by simp [vq_int, vq_ptr, vq_slice]) | exact VQ.agg (by simp [vq_int, vq_ptr, vq_slice]) | exact VQ.tuple (by simp [vq_int, vq_ptr, vq_slice])) ?_
        refine Dr.read (by first | rfl | kernel_rfl) (by simp only [sg_eq, sg_ne, sp_n, Nat.reduceLT, ne_eq, Nat.reduceEqDiff, not_false_eq_true, gd, nth, want_slot, beqB, hn]) (by assumption) (fun M hM => by simp only [sev_tmp, sg_eq, sg_ne, sp_n, Nat.reduceLT, ne_eq, Nat.reduceEqDiff, not_false_eq_true, fx, idx, eo46, hn, nlen_nat hlt] <;> rfl) (by rfl) (by first | exact VQ.int _ _ | exact VQ.bool _ | exact VQ.ptr _ _ | exact VQ.slice _ _ _ | exact VQ.func (by simp [vq_int, vq_ptr, vq_slice]) (by simp [vq_int, vq_ptr, vq_slice]) | exact VQ.agg (by simp [vq_int, vq_ptr, vq_slice]) | exact VQ.tuple (by simp [vq_int, vq_ptr, vq_slice])) ?_
        refine Dr.read (by first | rfl | kernel_rfl) (by simp only [sg_eq, sg_ne, sp_n, Nat.reduceLT, ne_eq, Nat.reduceEqDiff, not_false_eq_true, gd, nth, want_slot, beqB, hn]) (by assumption) (fun M hM => by simp only [sev_tmp, sg_eq, sp_n, Nat.reduceLT, fx, ld, adr_p, cls, tk24, hn, G0 M hM, G1 M hM, G2 M hM] <;> rfl) (by rfl) (by first | exact VQ.int _ _ | exact VQ.bool _ | exact VQ.ptr _ _ | exact VQ.slice _ _ _ | exact VQ.func (by simp [vq_int, vq_ptr, vq_slice]) (by simp [vq_int, vq_ptr, vq_slice]) | exact VQ.agg (by simp [vq_int, vq_slice]) | exact VQ.tuple (by simp [vq_int, vq_ptr, vq_slice])) ?_
        refine Dr.call (by kernel_rfl) (by rfl) (by assumption) (by simp only [sg_eq, sg_ne, sp_n, Nat.reduceLT, ne_eq, Nat.reduceEqDiff, not_false_eq_true, gd, nth, want_slot, beqB, hn]) (opRun_call (by rfl) ⟨by rfl, by rfl⟩ (by rfl) (xs := [(l'.getD i noLas).v, (l.getD i noLas).v]) (by simp only [sev_tmp, sg_eq, sg_ne, sp_n, Nat.reduceLT, ne_eq, Nat.reduceEqDiff, not_false_eq_true, List.map_cons, List.map_nil, List.nil_append, List.append_nil, hn]; rfl) (Con.mono (same_true hbk.wf (hok.nx hbk) (hok'.nx hbk) (htw i hlt)) (fun v A1 h => (⟨h.1, h.2⟩ : v = .bool true ∧ Nx (bump D 13).next (bump D 13) A1)))) ?_
        rintro v M1 ⟨rfl, k1⟩
        have hM1 : Nx D.next D M1 := hbk.trans (k1.le hbk.next)
        have FM1 := hF _ hM1
        refine Dr.read (by first | rfl | kernel_rfl) (by rfl) (by assumption) (fun M hM => by simp only [sev_tmp, sg_eq, sg_ne, sp_n, Nat.reduceLT, ne_eq, Nat.reduceEqDiff, not_false_eq_true, fx, pck, hn] <;> rfl) (by rfl) (by first | exact VQ.int _ _ | exact VQ.bool _ | exact VQ.ptr _ _ | exact VQ.slice _ _ _ | exact VQ.func (by simp [vq_int, vq_ptr, vq_slice]) (by simp [vq_int, vq_ptr, vq_slice]) | exact VQ.agg (by simp [vq_int, vq_ptr, vq_slice]) | exact VQ.tuple (by simp [vq_int, vq_ptr, vq_slice])) ?_
        refine Dr.read (by first | rfl | kernel_rfl) (by rfl) (by assumption) (fun M hM => by simp only [sev_tmp, sg_eq, sp_n, Nat.reduceLT, fx, hn] <;> rfl) (by rfl) (by first | exact VQ.int _ _ | exact VQ.bool _ | exact VQ.ptr _ _ | exact VQ.slice _ _ _ | exact VQ.func (by simp [vq_int, vq_ptr, vq_slice]) (by simp [vq_int, vq_ptr, vq_slice]) | exact VQ.agg (by simp [vq_int, vq_ptr, vq_slice]) | exact VQ.tuple (by simp [vq_int, vq_ptr, vq_slice])) ?_
        refine Dr.nil (by rfl) (fun M hM => by cases hM) FM1 ⟨M1, by rfl, ?_⟩
        (repeat (first | refine Rn.seq hc ?_ | refine Rn.skip hc ?_ | refine Rn.block hc ?_ | refine Rn.inBlock hc ?_ | refine Rn.scope hc ?_ | refine Rn.inScope hc ?_))
        refine Rn.reg hc rfl ?_
        simp only [sev_tmp, sev_const, sg_eq, sg_ne, sp_n, Nat.reduceLT, ne_eq, Nat.reduceEqDiff, not_false_eq_true, gd, want_free, rops, fx, bin_add, Option.some.injEq, exists_eq_left', hn, s53, wrap_succ (show i < 9223372036854775807 by omega)]
        (repeat (first | refine Rn.seq hc ?_ | refine Rn.skip hc ?_ | refine Rn.block hc ?_ | refine Rn.inBlock hc ?_ | refine Rn.scope hc ?_ | refine Rn.inScope hc ?_))
        exact ih _ _ _ (by omega) ⟨i + 1, by omega, rfl, hD.trans (hM1.le hD.next), by simp only [sp_n, hn], by simp only [sg_ne, ne_eq, Nat.reduceEqDiff, not_false_eq_true, s0], by simp only [sg_ne, ne_eq, Nat.reduceEqDiff, not_false_eq_true, s3], by simp only [sg_eq, sg_ne, sp_n, Nat.reduceLT, ne_eq, Nat.reduceEqDiff, not_false_eq_true, hn], by simp only [sg_ne, ne_eq, Nat.reduceEqDiff, not_false_eq_true, s52], by simp only [sg_eq, sp_n, Nat.reduceLT, hn]⟩
      · have hd : decide ((i : Int) < (l.length : Int)) = false := decide_eq_false (by omega)
        clear ih
        refine Rn.reg hc rfl ?_
        simp only [sev_tmp, gd, want_free, rops, fx, bin_lss, Option.some.injEq, exists_eq_left', s52, s53, hd]
        (repeat (first | refine Rn.seq hc ?_ | refine Rn.skip hc ?_ | refine Rn.block hc ?_ | refine Rn.inBlock hc ?_ | refine Rn.scope hc ?_ | refine Rn.inScope hc ?_))
        refine Rn.condE hc rfl ?_
        simp only [sev_tmp, sg_eq, Nat.reduceLT, Value.bool.injEq, exists_eq_left', hn]
        (repeat (first | refine Rn.seq hc ?_ | refine Rn.skip hc ?_ | refine Rn.block hc ?_ | refine Rn.inBlock hc ?_ | refine Rn.scope hc ?_ | refine Rn.inScope hc ?_))
        refine Rn.exit hc rfl ?_
        (repeat (first | refine Rn.seq hc ?_ | refine Rn.skip hc ?_ | refine Rn.block hc ?_ | refine Rn.inBlock hc ?_ | refine Rn.scope hc ?_ | refine Rn.inScope hc ?_))
        refine Rn.region hc fun K hK => ?_
        refine Wo.run hc 2 rfl rfl rfl ?_
        simp (maxSteps := 2000000) only [List.drop_zero, List.take_succ_cons, List.take_zero, sev_tmp, sg_eq, sg_ne, sp_n, Nat.reduceLT, ne_eq, Nat.reduceEqDiff, not_false_eq_true, gd, want_free, rops, fx, Nat.zero_add, Option.some.injEq, exists_eq_left', hn, s10]
        refine Wo.call hc (by rfl) (by rfl) ⟨by rfl, by rfl⟩ (xs := []) (by simp only [sg_eq, sp_n, Nat.reduceLT, gd, nth, want_slot, beqB, hn]) (by rfl) (by rfl) (Con.mono (awake_con D) ?_)
        rintro w D1 ⟨rfl, rfl⟩
        refine Wo.run hc 2 rfl rfl rfl ?_
        simp (maxSteps := 2000000) only [List.drop_zero, List.drop_succ_cons, List.take_succ_cons, List.take_zero, sev_tmp, sg_eq, sg_ne, sp_n, Nat.reduceLT, ne_eq, Nat.reduceEqDiff, not_false_eq_true, gd, want_free, rops, fx, pck, Option.some.injEq, exists_eq_left', Nat.reduceAdd, hn]
        refine Wo.done hc rfl (hK _ _ ?_)
        clear hK
        (repeat (first | refine Rn.seq hc ?_ | refine Rn.skip hc ?_ | refine Rn.block hc ?_ | refine Rn.inBlock hc ?_ | refine Rn.scope hc ?_ | refine Rn.inScope hc ?_))
        refine Rn.ret (endQ_tmp rfl ⟨?_, hAD⟩)
        simp only [sg_eq, sp_n, Nat.reduceLT, hn]
end Go.Proofs.Ytdaljohmfnfgiaa
/- LassoWeaves returns true for every input, and its argument reads afterwards as it read before. No condition. -/
namespace Go.Proofs.Ytdaljohmfnfgiaa
section
open Go Go.RowKit Go.Proofs.Ytdaljohmfnfgiaa.Canon
/-- What a value that came in leads to lies below a bound. -/
def SpotOK (a : Option Addr) (n c : Nat) : Prop := ∀ x, a = some x → x.spot = none ∨ (n = 0 ∧ c = 0)
theorem roV_spot {z : Nat} {a : Option Addr} {n c : Nat} (hs : SpotOK a n c) (hb : blkOf a ≤ z) : roV z (.slice a n c) = true := by
  cases a with
  | none => rfl
  | some x =>
    obtain ⟨b, o, s⟩ := x
    cases s with
    | none =>
      have hb : b + 1 ≤ z := hb
      show Nat.blt b z = true
      rw [Nat.blt_eq]
      omega
    | some q =>
      rcases hs _ rfl with h | ⟨rfl, rfl⟩
      · cases h
      · rfl
/-- A stream in a row of streams, in a world. -/
structure RowW (W : World) (a : Option Addr) (i : Nat) (x : Las) : Prop where
  lie : ∃ b o, a = some ⟨b, o, none⟩ ∧ W.cell? ⟨b, o + i * 3, none⟩ = some (.int .i64 x.m) ∧ W.cell? ⟨b, o + i * 3 + 1, none⟩ = some (.slice x.sa x.st.length x.sc) ∧ W.cell? ⟨b, o + i * 3 + 2, none⟩ = some (.slice x.ra x.ro.length x.rc)
  i1 : IntsW W x.sa x.st
  i2 : IntsW W x.ra x.ro
  c1 : x.st.length ≤ x.sc
  c2 : x.ro.length ≤ x.rc
  s1 : SpotOK x.sa x.st.length x.sc
  s2 : SpotOK x.ra x.ro.length x.rc
def blkL : List Las → Nat
  | [] => 0
  | x :: l => blkOf x.sa + blkOf x.ra + blkL l
theorem blkL_le : ∀ {l : List Las} {i : Nat}, i < l.length → blkOf (l.getD i noLas).sa + blkOf (l.getD i noLas).ra ≤ blkL l
  | [], _, h => absurd h (by simp)
  | x :: l, 0, _ => Nat.le_add_right _ _
  | x :: l, i + 1, h => by
    have := blkL_le (l := l) (i := i) (by simpa using h)
    show blkOf (l.getD i noLas).sa + blkOf (l.getD i noLas).ra ≤ blkOf x.sa + blkOf x.ra + blkL l
    omega
theorem lrow_in {W : World} {z : Nat} {A : AHeap} (hA : In W z A) {a : Option Addr} {l : List Las} (h : ∀ i, i < l.length → RowW W a i (l.getD i noLas)) (hz : blkL l ≤ z) : LRowG A a l := fun i hi => by
  have r := h i hi
  have hb := blkL_le hi
  obtain ⟨b, o, e, q0, q1, q2⟩ := r.lie
  refine ⟨fun q1 q2 => ⟨r.i1.ints hA, r.i2.ints hA, by omega, by omega⟩, b, o, e, ?_, ?_, ?_, ?_⟩
  · obtain ⟨c, t, f, h1, h2⟩ := cell_heap q0
    have hlt : b < W.heap.size := (Array.getElem?_eq_some_iff.1 h1).1
    rw [hA.next]
    have := hA.big
    omega
  · obtain ⟨c, t, f, h1, h2⟩ := cell_heap q0
    exact hA.cl h1 h2 rfl
  · obtain ⟨c, t, f, h1, h2⟩ := cell_heap q1
    exact hA.cl h1 h2 (roV_spot r.s1 (by omega))
  · obtain ⟨c, t, f, h1, h2⟩ := cell_heap q2
    exact hA.cl h1 h2 (roV_spot r.s2 (by omega))
theorem weaves_any {W : World} {a : Option Addr} {n c : Nat} (h1 : ∀ x, a = some x → x.spot = none) {l : List Las} (hn : l.length = n) (hrow : ∀ i, i < l.length → RowW W a i (l.getD i noLas)) :
    Calls Try.prog 5 #[.slice a n c] W (fun e w' => e = .returned (.bool true) ∧ Below W.heap.size W w') := by
  subst hn
  obtain ⟨A, hA⟩ := in_any W (W.heap.size + 1 + blkOf a + blkL l) (by omega) (by omega)
  refine calls_of_conF (t := 2) Try.func5 rfl hA (xs := [.slice a l.length c]) ?_ (law_weaves hA.wf (lrow_in hA hrow (by omega)) fun i hi => ⟨sl_in hA ((hrow i hi).i2.ints hA), (hrow i hi).c2⟩)
  exact AR.single (inP_v (roV_slice h1 (by omega)))
end
section
open Go.ChangeShapes Go.WideShapes Go.ChangeAt Go.RowKit Go.Proofs.Ytdaljohmfnfgiaa.Canon
open Go.Deep (open_slice_pairs open_slice)
theorem cell_spot {w : World} {a : Addr} {v : Value} (h : w.cell? a = some v) : a.spot = none := by
  unfold World.cell? at h
  split at h
  · split at h
    · cases h
    · rename_i h'
      simpa using h'
  · cases h
theorem addr_zero (a : Addr) : a.add 0 = a := by simp [Addr.add]
set_option maxRecDepth 100000 in
theorem ints_open {H : Type} {enc : TypeId × Value → H} {w : World} {base : Nat} {hd : Bool} {fuel : Nat} {v : Value} {x : DataW H × List MemPlace}
    (h : DataW.trod enc Try.prog w base (fun _ => true) hd fuel 22 [v] = some x) : ∃ (a : Option Addr) (c : Nat) (l : List Int), v = .slice a l.length c ∧ IntsW w a l ∧ l.length ≤ c ∧ SpotOK a l.length c := by
  rcases open_ints Try.underlying22 Try.underlying3 Try.cells3 h with ⟨h1, _⟩ | ⟨a1, len, cap, zs, h1, _, hlc, hmx, hz, _, hcell, _⟩
  · simp only [List.cons.injEq, and_true] at h1
    subst h1
    exact ⟨none, 0, [], rfl, fun i hi => absurd hi (by simp), Nat.le_refl _, fun x hx => (by cases hx)⟩
  · simp only [List.cons.injEq, and_true] at h1
    subst h1
    simp only [if_true] at hz
    have hl : (zs.take len).length = len := by simp; omega
    refine ⟨some a1, cap, zs.take len, by rw [hl], fun i hi => ?_, by rw [hl]; exact hlc, fun y hy => ?_⟩
    · have hin : i < len := by omega
      have hc0 := hcell 0 (by omega)
      rw [addr_zero] at hc0
      obtain ⟨B, O, s⟩ := a1
      have := cell_spot hc0
      simp only at this
      subst this
      have ad : (⟨B, O, none⟩ : Addr).add i = ⟨B, O + i, none⟩ := addr_add B O i
      refine ⟨B, O, rfl, ?_⟩
      rw [← ad, hcell i (by omega)]
      simp only [List.getD_eq_getElem?_getD, List.getElem?_take]
      rw [if_pos hin]
    · cases hy
      by_cases h0 : cap = 0
      · exact .inr ⟨by omega, h0⟩
      · have hc0 := hcell 0 (by omega)
        rw [addr_zero] at hc0
        exact .inl (cell_spot hc0)
set_option maxRecDepth 100000 in
theorem lasso_open {H : Type} {enc : TypeId × Value → H} {w : World} {base : Nat} {hd : Bool} {fuel : Nat} {cs : List Value} {x : DataW H × List MemPlace} (hlen : cs.length = 3)
    (h : DataW.trod enc Try.prog w base (fun _ => true) hd fuel 24 cs = some x) : ∃ y : Las, cs = [.int .i64 y.m, .slice y.sa y.st.length y.sc, .slice y.ra y.ro.length y.rc] ∧ IntsW w y.sa y.st ∧ IntsW w y.ra y.ro ∧ y.st.length ≤ y.sc ∧ y.ro.length ≤ y.rc ∧ SpotOK y.sa y.st.length y.sc ∧ SpotOK y.ra y.ro.length y.rc := by
  obtain ⟨xs, k, _, _, _, hxl, hfs⟩ := DataW.trod_struct Try.underlying24 h
  have f0 := hfs 0 { name := "Mod", type := 3, offset := 0, embedded := false, tag := "", pkgPath := "", byteOffset := 0 } rfl
  have f1 := hfs 1 { name := "Stem", type := 22, offset := 1, embedded := false, tag := "", pkgPath := "", byteOffset := 8 } rfl
  have f2 := hfs 2 { name := "Round", type := 22, offset := 2, embedded := false, tag := "", pkgPath := "", byteOffset := 32 } rfl
  obtain ⟨y0, hy0⟩ : ∃ y, xs[0]? = some y := ⟨_, List.getElem?_eq_getElem (by rw [hxl]; decide)⟩
  obtain ⟨y1, hy1⟩ : ∃ y, xs[1]? = some y := ⟨_, List.getElem?_eq_getElem (by rw [hxl]; decide)⟩
  obtain ⟨y2, hy2⟩ : ∃ y, xs[2]? = some y := ⟨_, List.getElem?_eq_getElem (by rw [hxl]; decide)⟩
  rw [hy0] at f0
  rw [hy1] at f1
  rw [hy2] at f2
  match cs, hlen with
  | [v0, v1, v2], _ =>
    simp only [Try.cells22, Try.cells3] at f0 f1 f2
    obtain ⟨m, e0, _, _⟩ := DataW.trod_int Try.underlying3 f0
    obtain ⟨sa, sc, st, e1, i1, c1, s1⟩ := ints_open f1
    obtain ⟨ra, rc, ro, e2, i2, c2, s2⟩ := ints_open f2
    refine ⟨⟨m, sa, sc, st, ra, rc, ro⟩, ?_, i1, i2, c1, c2, s1, s2⟩
    simp at e0
    subst e0 e1 e2
    rfl
set_option maxRecDepth 100000 in
theorem lassos_open {H : Type} {enc : TypeId × Value → H} {w : World} {base : Nat} {hd : Bool} {a : Option Addr} {n c : Nat} {d : DataW H} {ps : List MemPlace}
    (h : DataW.Trod enc Try.prog w base (fun _ => true) hd 46 (.slice a n c) d ps) (hk : ∀ x, a = some x → x.spot = none) : ∃ l : List Las, l.length = n ∧ ∀ i, i < l.length → RowW w a i (l.getD i noLas) := by
  obtain ⟨fuel, hf⟩ := h
  rcases open_slice Try.underlying46 hf with ⟨h1, _⟩ | ⟨a1, len, cap, m, k, D, Pl, h1, _, hlc, _, hm, _, hx⟩
  · simp only [Value.cells, List.cons.injEq, Value.slice.injEq, and_true] at h1
    obtain ⟨-, rfl, -⟩ := h1
    exact ⟨[], rfl, fun i hi => absurd hi (by simp)⟩
  · have h1 : Value.slice a n c = .slice (some a1) len cap := by simpa [Value.cells] using h1
    cases h1
    simp only [if_true] at hm
    rw [Try.cells24] at hx
    have key : ∀ i, ∃ y : Las, i < n → RowW w (some a1) i y := fun i => by
      by_cases hi : i < n
      · obtain ⟨cs, h1, h2⟩ := hx i (by omega)
        obtain ⟨_, hlen, hcell⟩ := World.cells?_some h1
        obtain ⟨y, rfl, q1, q2, q3, q4, q5, q6⟩ := lasso_open hlen h2
        have e0 := hcell 0 (by omega)
        have e1 := hcell 1 (by omega)
        have e2 := hcell 2 (by omega)
        obtain ⟨B, O, s⟩ := a1
        have hs : (⟨B, O, s⟩ : Addr).spot = none := hk _ rfl
        simp only at hs
        subst hs
        refine ⟨y, fun _ => ⟨⟨B, O, rfl, ?_, ?_, ?_⟩, q1, q2, q3, q4, q5, q6⟩⟩
        · rw [addr_zero, addr_add] at e0
          exact e0
        · rw [addr_add, addr_add] at e1
          exact e1
        · rw [addr_add, addr_add] at e2
          exact e2
      · exact ⟨noLas, fun h => absurd h hi⟩
    refine ⟨(List.range n).map fun i => Classical.choose (key i), by simp, fun i hi => ?_⟩
    have hi : i < n := by simpa using hi
    have e : ((List.range n).map fun i => Classical.choose (key i)).getD i noLas = Classical.choose (key i) := by simp [List.getD_eq_getElem?_getD, hi]
    rw [e]
    exact Classical.choose_spec (key i) hi
set_option maxRecDepth 100000 in
theorem lassoWeaves_lifted (os : Os) (started : os.Started) (H : Type) (enc : TypeId × Value → H) :
    ReturnsInHanded {} Try.checked os 5 .any (Rows.lassoWeavesSpec.pre6 enc Try.prog Try.f5 Rows.lassoWeavesRow.domain false) (Rows.lassoWeavesSpec.post enc Try.prog Try.f5 false true false false) := by
  refine returnsInHanded_of_change (C := Try.checked) Try.own started (by kernel_rfl) Try.func5
    (ChangeSpec.witness6 (enc := enc) (C := Try.checked) false ⟨#[], #[.slice none 0 0], []⟩ 8 (by kernel_rfl) (by kernel_rfl) (by kernel_rfl) (by kernel_rfl)) ?_
  intro W base args ds gs before hval0 hW hcnd _
  have hval : ∀ (j : Nat) t v, Try.f5.params[j]? = some t → args[j]? = some v → Value.okWide Try.prog W .any base t v := hval0
  have hW' := hW
  obtain ⟨p, q, hA0, hV, rfl, hfz, hnd⟩ := hW
  have hA : DataW.TrodAll enc Try.prog W 0 (fun _ => true) true Try.f5.params.toList args.toList ds p := hA0
  rw [Try.params5] at hA hval
  obtain ⟨v0, d0, rfl, rfl, h0⟩ := trodAll_one hA
  obtain ⟨rfl, rfl⟩ := trodVars_none hV
  obtain ⟨a, n, c, rfl, hk⟩ := cell_slice Try.underlying46 (val_cell Try.underlying46 (hval 0 46 v0 rfl rfl))
  obtain ⟨l, hn, hrow⟩ := lassos_open h0 hk
  clear hA0 hval0
  simp only [List.append_nil] at hW'
  have hplace : ∀ x ∈ p, x.block < W.heap.size := fun x hx => by simpa using hW'.lt x hx
  refine (weaves_any (c := c) hk hn hrow).mono fun e W' ⟨he, hb⟩ => ?_
  subst he
  have harg0 : ∀ sp : Nat → Bool, (∀ x ∈ p, sp x.block = true) → DataW.Trod enc Try.prog W' 0 sp true 46 (.slice a n c) d0 p := fun sp hsp =>
    WideElems.Trod_stays Try.laidOut (by kernel_rfl) (of_decide_eq_true (by kernel_rfl)) h0 (fun x hx => hb.same (hplace x hx)) (fun x hx => hsp x hx)
  exact ⟨_, rfl, post_of_below (pa := p) (pv := []) hW' (fun _ _ _ => trodAll_mk1 (shut_bool Try.underlying4 _)) (fun sp hsp => trodAll_mk1 (harg0 sp hsp)) (fun _ _ => rfl) (by simp) hb (ok_one (by kernel_rfl) rfl (okWide_bool_mk Try.underlying4 _))⟩

theorem lassoWeaves_holds : Rows.LassoWeavesSaid :=
  OpenClaim.holds_of_wide 5 Try.f5 rfl rfl rfl rfl rfl rfl rfl ⟨rfl, rfl, rfl, rfl, rfl⟩ rfl rfl rfl rfl rfl (by kernel_rfl) Try.func5 (by kernel_rfl)
    (of_decide_eq_true (by kernel_rfl)) (by unfold Func.isWrapper; first | (rw [if_pos (by decide +kernel)]; kernel_rfl) | (rw [if_neg (by decide +kernel)]; exact ⟨rfl, rfl⟩))
    (fun os started H enc _ => lassoWeaves_lifted os started H enc)
end
end Go.Proofs.Ytdaljohmfnfgiaa

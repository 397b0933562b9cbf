/- LassoWovenSaid: the law returns true for every input, and each argument reads afterwards as it read before. No condition. -/
import Derived.Test.YtdaljohmfnfgiaaXb
/- LassoWoven over the reckoned memory. No condition. -/
namespace Go.Proofs.Ytdaljohmfnfgiaa
open Go Go.RowKit Go.Proofs.Ytdaljohmfnfgiaa.Canon
set_option maxRecDepth 20000

theorem un64w : Try.prog.underlying 64 = some (.int .u16) := by kernel_rfl
theorem cv643 {n : Nat} (hn : n < 65536) {A : AHeap} : aconvert Try.prog 64 3 (.int .u16 (n : Int)) A = some (.int .i64 (n : Int), A) := by
  rw [cv_int un64w un3, IntWalk.i64_in _ (by omega)]
theorem law_woven {A : AHeap} (hw : WF A) {na : Option Addr} {nn nc : Nat} (hb : Bys A na A.next nn) (hnn : nn < 9223372036854775808) {by' n : Nat} (hby : by' < 256) (hn16 : n < 65536) :
    ConF Try.prog 11 [.slice na nn nc, .int .u8 (by' : Int), .int .u16 (n : Int)] A (fun w A1 => w = .bool true ∧ Nx A.next A A1) := by
  refine conF_of_rn hc Try.func11 rfl (Nat.le_of_ble_eq_true rfl) ?_
  rw [s_in3]
  (repeat (first | refine Rn.seq hc ?_ | refine Rn.skip hc ?_ | refine Rn.block hc ?_ | refine Rn.inBlock hc ?_ | refine Rn.scope hc ?_ | refine Rn.inScope hc ?_))
  refine Rn.reg hc rfl ?_
  simp only [sev_const, gd, want_free, rops, fx, Option.some.injEq, exists_eq_left', show Try.f11.ntmps = 126 from rfl]
  (repeat (first | refine Rn.seq hc ?_ | refine Rn.skip hc ?_ | refine Rn.block hc ?_ | refine Rn.inBlock hc ?_ | refine Rn.scope hc ?_ | refine Rn.inScope hc ?_))
  refine Rn.region hc fun K hK => ?_
  refine Wo.run hc 1 rfl rfl rfl ?_
  simp (maxSteps := 2000000) only [List.drop_zero, List.take_succ_cons, List.take_zero, sev_tmp, sg_eq, sg_ne, Nat.reduceLT, ne_eq, Nat.reduceEqDiff, not_false_eq_true, gd, want_free, rops, fx, Nat.zero_add, Option.some.injEq, exists_eq_left']
  refine Wo.call hc (by rfl) (by rfl) ⟨by rfl, by rfl⟩ (xs := [.slice na nn nc]) (by rfl) (by rfl) (by rfl) (Con.mono (fill_sack hw hb) ?_)
  rintro w A1 ⟨rfl, hn1, hx1, S1⟩
  refine Wo.run hc 1 rfl rfl rfl ?_
  simp (maxSteps := 2000000) only [List.drop_zero, List.drop_succ_cons, List.take_succ_cons, List.take_zero, sev_tmp, sg_eq, sp_n, Nat.reduceLT, gd, want_free, rops, fx, Option.some.injEq, exists_eq_left', Nat.reduceAdd]
  refine Wo.done hc rfl (hK _ _ ?_)
  clear hK
  (repeat (first | refine Rn.seq hc ?_ | refine Rn.skip hc ?_ | refine Rn.block hc ?_ | refine Rn.inBlock hc ?_ | refine Rn.scope hc ?_ | refine Rn.inScope hc ?_))
  refine Rn.region hc fun K hK => ?_
  refine Wo.run hc 2 rfl rfl rfl ?_
  simp (maxSteps := 2000000) only [List.drop_zero, List.take_succ_cons, List.take_zero, sev_tmp, sg_eq, sg_ne, sp_n, Nat.reduceLT, ne_eq, Nat.reduceEqDiff, not_false_eq_true, gd, want_free, rops, fx, Nat.zero_add, Option.some.injEq, exists_eq_left']
  refine Wo.call hc (by rfl) (by rfl) ⟨by rfl, by rfl⟩ (xs := [.pointer (some ⟨A.next, 0, none⟩)]) (by rfl) (by rfl) (by rfl) (Con.mono (modulus_sack S1 (by omega) hnn) ?_)
  rintro w A3 ⟨m, rfl, hm2, hm7, k3, nx3, hnx3, S3⟩
  refine Wo.call hc (by rfl) (by rfl) ⟨by rfl, by rfl⟩ (xs := [.pointer (some ⟨A.next, 0, none⟩), .int .i64 (m : Int), .int .i64 ((20 : Nat) : Int), .int .i64 ((20 : Nat) : Int)]) (by rfl) (by rfl) (by rfl) (Con.mono (drawn S3 (by omega) hnn (m := m) (stem := 20) (round := 20) (by omega) (by omega) (by omega)) ?_)
  rintro w A4 ⟨k4, ⟨nx4, hnx4, S4⟩, sa, ra, st, ro, rfl, hst, hro1, hro2, hin1, hin2, hgs, hgr⟩
  obtain ⟨A5, p5, hx5, hn5, d0, d1, d2⟩ := put24 S4.wf (v0 := .int .i64 (m : Int)) (v1 := .slice sa st.length st.length) (v2 := .slice ra ro.length ro.length) rfl
  refine Wo.run hc 2 rfl rfl rfl ?_
  simp (maxSteps := 2000000) only [List.drop_zero, List.drop_succ_cons, List.take_succ_cons, List.take_zero, sev_tmp, sg_eq, sg_ne, sp_n, sp_none, Nat.reduceLT, ne_eq, Nat.reduceEqDiff, not_false_eq_true, gd, want_free, rops, fx, str, adr_p, Nat.zero_add, Option.some.injEq, exists_eq_left', Value.cells, Nat.reduceAdd, tk24, ze24, p5, List.size_toArray, List.length_cons, List.length_nil, Nat.beq_refl]
  refine Wo.done hc rfl (hK _ _ ?_)
  clear hK
  (repeat (first | refine Rn.seq hc ?_ | refine Rn.skip hc ?_ | refine Rn.block hc ?_ | refine Rn.inBlock hc ?_ | refine Rn.scope hc ?_ | refine Rn.inScope hc ?_))
  have he : errL m st ro = 0 := errL_ok (by omega) (by omega) hro1 (by omega) hin1 hin2
  have hx05 : Nx A.next A A5 := ⟨by have := k3.next; have := k4.next; omega, hx5.wf, fun b hb' => by
    have := k3.next
    have := k4.next
    rw [hx5.keep _ (by omega), k4.keep _ (by omega) (by omega), k3.keep _ (by omega) (by omega), hx1.keep _ (by omega)]⟩
  have x1 : Ints A5 sa 0 A5.next st := ((hgs.ints.nx hx5 (Nat.le_refl _)).mono (Nat.zero_le _) hx5.next)
  have x2 : Ints A5 ra 0 A5.next ro := ((hgr.ints.nx hx5 (Nat.le_refl _)).mono (Nat.zero_le _) hx5.next)
  have w5 := hx5.wf
  have n45 : A4.next < A5.next := by omega
  clear hx5 p5 hgs hgr S4 k4 hnx4 S3 k3 S1 hx1
  have hsin := atL_in hin1 hin2 hro1
  obtain ⟨S, hS⟩ : ∃ S, S = atL st ro := ⟨_, rfl⟩
  have hSp : Per S st.length ro.length := by rw [hS]; exact atL_per hro1
  rw [← hS] at hsin
  obtain ⟨bA, hbA⟩ : ∃ b, b = A4.next := ⟨_, rfl⟩
  rw [← hbA] at d0 d1 d2 n45 ⊢
  have hrem : ∀ M, bin Try.prog .rem 3 (.int .i64 (by' : Int)) (.int .i64 6) M = some (.int .i64 ((by' % 6 : Nat) : Int), M) := fun M => by
    rw [bin_rem _ _ _ _ (by omega), IntWalk.rem_in _ _ (by omega)]
    rfl
  have hlong : by' % 6 < 6 := Nat.mod_lt _ (by omega)
  generalize by' % 6 = q6 at hrem hlong
  obtain ⟨step, hstep⟩ : ∃ t, t = 1 + q6 := ⟨_, rfl⟩
  have hwst : IntKind.i64.wrap ((1 : Int) + (q6 : Int)) = (step : Int) := by rw [IntWalk.i64_in _ (by omega)]; omega
  have hs1 : 1 ≤ step := by omega
  have hs6 : step ≤ 6 := by omega
  refine Rn.reg hc rfl ?_
  simp only [sev_tmp, sev_const, sg_eq, sg_ne, sp_n, Nat.reduceLT, ne_eq, Nat.reduceEqDiff, not_false_eq_true, gd, want_free, rops, fx, bin_add, Option.some.injEq, exists_eq_left', ae_cv, cv53 hby, hrem, hwst]
  (repeat (first | refine Rn.seq hc ?_ | refine Rn.skip hc ?_ | refine Rn.block hc ?_ | refine Rn.inBlock hc ?_ | refine Rn.scope hc ?_ | refine Rn.inScope hc ?_))
  refine Rn.reg hc rfl ?_
  simp only [sev_const, gd, want_free, rops, fx, Option.some.injEq, exists_eq_left']
  (repeat (first | refine Rn.seq hc ?_ | refine Rn.skip hc ?_ | refine Rn.block hc ?_ | refine Rn.inBlock hc ?_ | refine Rn.scope hc ?_ | refine Rn.inScope hc ?_))
  refine Rn.reg hc rfl ?_
  simp only [sev_tmp, sev_const, sg_eq, sg_ne, sp_n, Nat.reduceLT, ne_eq, Nat.reduceEqDiff, not_false_eq_true, gd, want_free, rops, fx, Option.some.injEq, exists_eq_left']
  (repeat (first | refine Rn.seq hc ?_ | refine Rn.skip hc ?_ | refine Rn.block hc ?_ | refine Rn.inBlock hc ?_ | refine Rn.scope hc ?_ | refine Rn.inScope hc ?_))
  refine Rn.loopI hc (I := fun k s B => ∃ i a' l', i ≤ step ∧ k = step - i ∧ Nx A5.next A5 B ∧ GrL B a' A5.next l' ∧ l'.length = i ∧ (∀ j, j < i → TakE (m : Int) S step j 20 20 (l'.getD j noLas)) ∧ s.n = 126 ∧ sget s 2 = .int .u16 (n : Int) ∧ sget s 8 = .pointer (some ⟨bA, 0, none⟩) ∧ sget s 9 = .int .i64 (step : Int) ∧ sget s 10 = .slice a' i i ∧ sget s 34 = .int .i64 (step : Int) ∧ sget s 35 = .int .i64 (i : Int))
    (n := step) ⟨0, none, [], by omega, rfl, Nx.refl w5 _, GrL.nil _ _, rfl, fun j hj => absurd hj (by omega), by simp only [sp_n], by simp only [sg_eq, sg_ne, sp_n, Nat.reduceLT, ne_eq, Nat.reduceEqDiff, not_false_eq_true], by simp only [sg_eq, sg_ne, sp_n, Nat.reduceLT, ne_eq, Nat.reduceEqDiff, not_false_eq_true], by simp only [sg_eq, sg_ne, sp_n, Nat.reduceLT, ne_eq, Nat.reduceEqDiff, not_false_eq_true], by simp only [sg_eq, sg_ne, sp_n, Nat.reduceLT, ne_eq, Nat.reduceEqDiff, not_false_eq_true], by simp only [sg_eq, sg_ne, sp_n, Nat.reduceLT, ne_eq, Nat.reduceEqDiff, not_false_eq_true], by simp only [sg_eq, sp_n, Nat.reduceLT]; rfl⟩ ?_
  rintro k s B ⟨i, a', l', hi, rfl, hB, hgl, hli, htk, hn, s2, s8, s9, s10, s34, s35⟩ ih
  have nB := hB.next
  have e0 := (hB.cl n45 0).trans d0
  have e1 := (hB.cl n45 1).trans d1
  have e2 := (hB.cl n45 2).trans d2
  (repeat (first | refine Rn.seq hc ?_ | refine Rn.skip hc ?_ | refine Rn.block hc ?_ | refine Rn.inBlock hc ?_ | refine Rn.scope hc ?_ | refine Rn.inScope hc ?_))
  by_cases hlt : i < step
  · have hd : decide ((i : Int) < (step : Int)) = true := decide_eq_true (by omega)
    have hev := every_run hB.wf (m := (m : Int)) (sp := (step : Int)) (ad := (i : Int)) (sc := st.length) (rc := ro.length) ((x1.nx hB (Nat.le_refl _)).mono (Nat.le_refl _) hB.next) ((x2.nx hB (Nat.le_refl _)).mono (Nat.le_refl _) hB.next) (by omega) (by omega)
    rw [erE, if_pos he, if_neg (by omega), ← hS] at hev
    simp only [Int.toNat_natCast] at hev
    refine Rn.reg hc rfl ?_
    simp only [sev_tmp, gd, want_free, rops, fx, bin_lss, Option.some.injEq, exists_eq_left', s34, s35, hd]
    (repeat (first | refine Rn.seq hc ?_ | refine Rn.skip hc ?_ | refine Rn.block hc ?_ | refine Rn.inBlock hc ?_ | refine Rn.scope hc ?_ | refine Rn.inScope hc ?_))
    refine Rn.condE hc rfl ?_
    simp only [sev_tmp, sg_eq, Nat.reduceLT, Value.bool.injEq, exists_eq_left', hn]
    (repeat (first | refine Rn.seq hc ?_ | refine Rn.skip hc ?_ | refine Rn.block hc ?_ | refine Rn.inBlock hc ?_ | refine Rn.scope hc ?_ | refine Rn.inScope hc ?_))
    refine Rn.reg hc rfl ?_
    simp only [sev_tmp, sg_eq, sg_ne, sp_n, Nat.reduceLT, ne_eq, Nat.reduceEqDiff, not_false_eq_true, gd, want_free, rops, fx, Option.some.injEq, exists_eq_left', hn, s35]
    (repeat (first | refine Rn.seq hc ?_ | refine Rn.skip hc ?_ | refine Rn.block hc ?_ | refine Rn.inBlock hc ?_ | refine Rn.scope hc ?_ | refine Rn.inScope hc ?_))
    refine Rn.region hc fun K hK => ?_
    refine Wo.run hc 3 rfl rfl rfl ?_
    simp (maxSteps := 2000000) only [List.drop_zero, List.take_succ_cons, List.take_zero, sev_tmp, sg_eq, sg_ne, sp_n, Nat.reduceLT, ne_eq, Nat.reduceEqDiff, not_false_eq_true, gd, want_free, rops, fx, ld, adr_p, cls, Nat.zero_add, Option.some.injEq, exists_eq_left', Nat.reduceAdd, tk24, hn, s8, s9, e0, e1, e2]
    refine Wo.call hc (by rfl) (by rfl) ⟨by rfl, by rfl⟩ (xs := [.agg #[.int .i64 (m : Int), .slice sa st.length st.length, .slice ra ro.length ro.length], .int .i64 (step : Int), .int .i64 (i : Int)]) (by rfl) (by rfl) (by simp only [sev_tmp, sg_eq, sg_ne, sp_n, Nat.reduceLT, ne_eq, Nat.reduceEqDiff, not_false_eq_true, List.map_cons, List.map_nil, List.nil_append, List.append_nil, hn]) (Con.mono (hev) ?_)
    rintro w B1 ⟨hx1, mm, L1, L2, ee, p1, c1, p2, c2, hTP, rfl, i1, i2, -, -, y1, y2, k1, k2⟩
    obtain ⟨a0, p0, hred, ha, hp, rfl, eL1, eL2, rfl⟩ := tp_ok hTP (evS_per (j := i) hs1 hSp) (by omega) (by omega)
    have len1 : L1.length = a0 := by rw [eL1, redS_len]
    have len2 : L2.length = p0 := by rw [eL2, redR_len]
    have hp0 := hred.per.pos
    have heX : errL m L1 L2 = 0 := by rw [eL1, eL2]; exact errL_red ⟨hm2, hm7⟩ (fun n => hsin _) (by omega) (by omega)
    have hLF : atL L1 L2 = evS S step i := by rw [eL1, eL2]; exact atL_redF hred.per
    obtain ⟨B2, p3, hx2, hn2, f0, f1, f2⟩ := put24 hx1.wf (v0 := .int .i64 (m : Int)) (v1 := .slice p1 L1.length c1) (v2 := .slice p2 L2.length c2) rfl
    refine Wo.run hc 6 rfl rfl rfl ?_
    simp (maxSteps := 2000000) only [List.drop_zero, List.drop_succ_cons, List.take_succ_cons, List.take_zero, sev_tmp, sg_eq, sg_ne, sp_n, sp_none, Nat.reduceLT, ne_eq, Nat.reduceEqDiff, not_false_eq_true, gd, want_free, rops, fx, str, ext, adr_p, List.getElem?_toArray, List.getElem?_cons_zero, List.getElem?_cons_succ, Nat.zero_add, Option.some.injEq, exists_eq_left', Value.cells, Nat.reduceAdd, tk24, hn, ext, ze24, p3, List.size_toArray, List.length_cons, List.length_nil, Nat.beq_refl]
    refine Wo.done hc rfl (hK _ _ ?_)
    clear hK
    (repeat (first | refine Rn.seq hc ?_ | refine Rn.skip hc ?_ | refine Rn.block hc ?_ | refine Rn.inBlock hc ?_ | refine Rn.scope hc ?_ | refine Rn.inScope hc ?_))
    have n1 := hx1.next
    have n2 := hx2.next
    have hE1 : OwnE B1 B.next ⟨(m : Int), p1, c1, L1, p2, c2, L2⟩ := { i1 := i1, i2 := i2, s1 := y1, s2 := y2, c1 := k1, c2 := k2, l1 := (by show L1.length ≤ 200; omega), l2 := (by show L2.length ≤ 200; omega) }
    have hE2 := hE1.nx hx1.wf hx2
    have hB2 : Nx B.next B B2 := hx1.trans (hx2.le n1)
    have g0 := (hB2.cl (show bA < B.next by omega) 0).trans e0
    obtain ⟨o1, o2, -, -⟩ := hE2.ok
    refine Rn.region hc fun K hK => ?_
    refine Wo.run hc 4 rfl rfl rfl ?_
    simp (maxSteps := 2000000) only [List.drop_zero, List.take_succ_cons, List.take_zero, sev_tmp, sg_eq, sg_ne, sp_n, Nat.reduceLT, ne_eq, Nat.reduceEqDiff, not_false_eq_true, gd, want_free, rops, fx, ld, fad, adr_p, cls, Nat.zero_add, Nat.add_zero, Option.some.injEq, exists_eq_left', Nat.reduceAdd, tk3, tk24, fo24_0, hn, s8, f0, f1, f2, g0]
    refine Wo.call hc (by rfl) (by rfl) ⟨by rfl, by rfl⟩ (xs := [.agg #[.int .i64 (m : Int), .slice p1 L1.length c1, .slice p2 L2.length c2], .int .i64 0, .int .i64 (m : Int)]) (by rfl) (by rfl) (by simp only [sev_tmp, sg_eq, sg_ne, sp_n, Nat.reduceLT, ne_eq, Nat.reduceEqDiff, not_false_eq_true, List.map_cons, List.map_nil, List.nil_append, List.append_nil, hn]) (Con.mono (right_lasso hx2.wf o1 o2 (by omega) (by omega) heX) ?_)
    rintro w B3 ⟨rfl, hx3⟩
    refine Wo.run hc 1 rfl rfl rfl ?_
    simp (maxSteps := 2000000) only [List.drop_zero, List.drop_succ_cons, List.take_succ_cons, List.take_zero, sev_tmp, sg_eq, sp_n, Nat.reduceLT, gd, want_free, rops, fx, Option.some.injEq, exists_eq_left', Nat.reduceAdd, Bool.not_true, ae_not', Bool.not_true, hn]
    refine Wo.done hc rfl (hK _ _ ?_)
    clear hK
    (repeat (first | refine Rn.seq hc ?_ | refine Rn.skip hc ?_ | refine Rn.block hc ?_ | refine Rn.inBlock hc ?_ | refine Rn.scope hc ?_ | refine Rn.inScope hc ?_))
    refine Rn.condE hc rfl ?_
    simp only [sev_tmp, sg_eq, sp_n, Nat.reduceLT, Value.bool.injEq, exists_eq_left', hn]
    (repeat (first | refine Rn.seq hc ?_ | refine Rn.skip hc ?_ | refine Rn.block hc ?_ | refine Rn.inBlock hc ?_ | refine Rn.scope hc ?_ | refine Rn.inScope hc ?_))
    have n3 := hx3.next
    have hE3 := hE2.nx hx2.wf hx3
    have f0 := (hx3.cl (show B1.next < B2.next by omega) 0).trans f0
    have f1 := (hx3.cl (show B1.next < B2.next by omega) 1).trans f1
    have f2 := (hx3.cl (show B1.next < B2.next by omega) 2).trans f2
    obtain ⟨o1, o2, -, -⟩ := hE3.ok
    have hnth : nthV m L1 L2 ((n : Nat) : Int) = .tuple #[.int .i64 (atL L1 L2 n), .int .i64 0] := by
      unfold nthV
      rw [if_pos heX, if_neg (by omega), Int.toNat_natCast]
    refine Rn.region hc fun K hK => ?_
    refine Wo.run hc 3 rfl rfl rfl ?_
    simp (maxSteps := 2000000) only [List.drop_zero, List.take_succ_cons, List.take_zero, sev_tmp, sg_eq, sg_ne, sp_n, Nat.reduceLT, ne_eq, Nat.reduceEqDiff, not_false_eq_true, gd, want_free, rops, fx, ld, adr_p, cls, Nat.zero_add, Option.some.injEq, exists_eq_left', Nat.reduceAdd, tk24, ae_cv, hn, s2, f0, f1, f2, cv643 hn16]
    refine Wo.call hc (by rfl) (by rfl) ⟨by rfl, by rfl⟩ (xs := [.agg #[.int .i64 (m : Int), .slice p1 L1.length c1, .slice p2 L2.length c2], .int .i64 (n : Int)]) (by rfl) (by rfl) (by simp only [sev_tmp, sg_eq, sg_ne, sp_n, Nat.reduceLT, ne_eq, Nat.reduceEqDiff, not_false_eq_true, List.map_cons, List.map_nil, List.nil_append, List.append_nil, hn]) (Con.mono (nth_run hx3.wf o1 o2 (by omega) (by omega) (by omega)) ?_)
    rintro w B4 ⟨rfl, hx4⟩
    rw [hnth, hLF]
    refine Wo.run hc 5 rfl rfl rfl ?_
    simp (maxSteps := 2000000) only [List.drop_zero, List.drop_succ_cons, List.take_succ_cons, List.take_zero, sev_tmp, sg_eq, sg_ne, sp_n, Nat.reduceLT, ne_eq, Nat.reduceEqDiff, not_false_eq_true, gd, want_free, rops, fx, ext, List.getElem?_toArray, List.getElem?_cons_zero, List.getElem?_cons_succ, Option.some.injEq, exists_eq_left', Nat.reduceAdd, hn, ext]
    refine Wo.done hc rfl (hK _ _ ?_)
    clear hK
    (repeat (first | refine Rn.seq hc ?_ | refine Rn.skip hc ?_ | refine Rn.block hc ?_ | refine Rn.inBlock hc ?_ | refine Rn.scope hc ?_ | refine Rn.inScope hc ?_))
    have n4 := hx4.next
    have hE4 := hE3.nx hx3.wf hx4
    have hB4 : Nx B.next B B4 := hB2.trans ((hx3.le (by omega)).trans (hx4.le (by omega)))
    have hA4 : Nx A5.next A5 B4 := hB.trans (hB4.le nB)
    have g0 := (hB4.cl (show bA < B.next by omega) 0).trans e0
    have g1 := (hB4.cl (show bA < B.next by omega) 1).trans e1
    have g2 := (hB4.cl (show bA < B.next by omega) 2).trans e2
    have f0 := (hx4.cl (show B1.next < B3.next by omega) 0).trans f0
    have f1 := (hx4.cl (show B1.next < B3.next by omega) 1).trans f1
    have f2 := (hx4.cl (show B1.next < B3.next by omega) 2).trans f2
    have hsn : step * n ≤ 6 * 65536 := Nat.mul_le_mul hs6 (by omega)
    have hw1 : IntKind.i64.wrap ((step : Int) * (n : Int)) = ((step * n : Nat) : Int) := by rw [← Int.natCast_mul, IntWalk.i64_in _ (by omega)]
    have hw2 : IntKind.i64.wrap ((i : Int) + ((step * n : Nat) : Int)) = ((i + step * n : Nat) : Int) := by rw [IntWalk.i64_in _ (by omega)]; omega
    have hval : atL st ro (i + step * n) = evS S step i n := by
      rw [← hS]
      unfold evS
      rw [Nat.mul_comm]
    refine Rn.region hc fun K hK => ?_
    refine Wo.run hc 11 rfl rfl rfl ?_
    simp (maxSteps := 2000000) only [List.drop_zero, List.take_succ_cons, List.take_zero, sev_tmp, sev_const, sg_eq, sg_ne, sp_n, Nat.reduceLT, ne_eq, Nat.reduceEqDiff, not_false_eq_true, gd, nth, want_free, want_slot, beqB, rops, fx, ld, bin_neq, bin_add, bin_mul, adr_p, cls, Nat.zero_add, Option.some.injEq, exists_eq_left', Nat.reduceAdd, Bool.not_true, Bool.not_true, tk24, ae_cv, hn, s2, s8, s9, eq_self, decide_true, Bool.not_true, g0, g1, g2, cv643 hn16, hw1, hw2]
    refine Wo.call hc (by rfl) (by rfl) ⟨by rfl, by rfl⟩ (xs := [.agg #[.int .i64 (m : Int), .slice sa st.length st.length, .slice ra ro.length ro.length], .int .i64 ((i + step * n : Nat) : Int)]) (by simp only [sg_eq, sg_ne, sp_n, Nat.reduceLT, ne_eq, Nat.reduceEqDiff, not_false_eq_true, gd, nth, want_slot, beqB, hn]) (by rfl) (by simp only [sev_tmp, sg_eq, sg_ne, sp_n, Nat.reduceLT, ne_eq, Nat.reduceEqDiff, not_false_eq_true, List.map_cons, List.map_nil, List.nil_append, List.append_nil, hn]) (Con.mono (at_law hA4.wf ((x1.nx hA4 (Nat.le_refl _)).mono (Nat.le_refl _) hA4.next) ((x2.nx hA4 (Nat.le_refl _)).mono (Nat.le_refl _) hA4.next) (i + step * n) (by omega) hro1 (by omega) (by omega)) ?_)
    rintro w B5 ⟨rfl, hx5⟩
    rw [hval]
    refine Wo.run hc 2 rfl rfl rfl ?_
    simp (maxSteps := 2000000) only [List.drop_zero, List.drop_succ_cons, List.take_succ_cons, List.take_zero, sev_tmp, sg_eq, sg_ne, sp_n, Nat.reduceLT, ne_eq, Nat.reduceEqDiff, not_false_eq_true, gd, nth, want_free, want_slot, beqB, rops, fx, pck, bin_neq, Option.some.injEq, exists_eq_left', Nat.reduceAdd, Bool.not_true, Bool.not_true, hn, eq_self, decide_true, Bool.not_true]
    refine Wo.done hc rfl (hK _ _ ?_)
    clear hK
    (repeat (first | refine Rn.seq hc ?_ | refine Rn.skip hc ?_ | refine Rn.block hc ?_ | refine Rn.inBlock hc ?_ | refine Rn.scope hc ?_ | refine Rn.inScope hc ?_))
    refine Rn.condE hc rfl ?_
    simp only [sev_tmp, sg_eq, sp_n, Nat.reduceLT, Value.bool.injEq, exists_eq_left', hn]
    (repeat (first | refine Rn.seq hc ?_ | refine Rn.skip hc ?_ | refine Rn.block hc ?_ | refine Rn.inBlock hc ?_ | refine Rn.scope hc ?_ | refine Rn.inScope hc ?_))
    have n5 := hx5.next
    have hE5 := hE4.nx hx4.wf hx5
    have f0 := (hx5.cl (show B1.next < B4.next by omega) 0).trans f0
    have f1 := (hx5.cl (show B1.next < B4.next by omega) 1).trans f1
    have f2 := (hx5.cl (show B1.next < B4.next by omega) 2).trans f2
    obtain ⟨B6, e6, hx6, hn6, h0, h1, h2⟩ := box3 hx5.wf (.int .i64 (m : Int)) (.slice p1 L1.length c1) (.slice p2 L2.length c2) 24
    have hB6 : Nx B.next B B6 := hB4.trans ((hx5.le (by omega)).trans (hx6.le (by omega)))
    have hg6 := hgl.nx hB.wf hB6
    obtain ⟨B7, q7, n7, hg7, nx7, w7, -⟩ := GrL.push hx6.wf hg6 (by omega) ((hE5.nx hx5.wf hx6).mono (by omega)) (fun z hz y hy => by
      have h1 := hgl.lt hB.wf hz
      have h2 := (hE1.lt hx1.wf hy).1
      omega) (b2 := B5.next) (c2 := 1) h0 h1 h2 (by omega)
    rw [hli] at q7
    refine Rn.reg hc rfl ?_
    simp only [sev_tmp, sg_eq, sg_ne, sp_n, Nat.reduceLT, ne_eq, Nat.reduceEqDiff, not_false_eq_true, gd, want_free, rops, fx, ld, adr_p, cls, Nat.zero_add, Option.some.injEq, exists_eq_left', Value.cells, Nat.reduceAdd, tk24, hn, s10, f0, f1, f2, bs46_1, List.size_toArray, List.length_cons, List.length_nil, e6, ae_apd, apd_slice, q7]
    (repeat (first | refine Rn.seq hc ?_ | refine Rn.skip hc ?_ | refine Rn.block hc ?_ | refine Rn.inBlock hc ?_ | refine Rn.scope hc ?_ | refine Rn.inScope hc ?_))
    refine Rn.reg hc rfl ?_
    simp only [sev_tmp, sev_const, sg_eq, sg_ne, sp_n, Nat.reduceLT, ne_eq, Nat.reduceEqDiff, not_false_eq_true, gd, want_free, rops, fx, bin_add, Option.some.injEq, exists_eq_left', hn, s35, wrap_succ (show i < 9223372036854775807 by omega)]
    (repeat (first | refine Rn.seq hc ?_ | refine Rn.skip hc ?_ | refine Rn.block hc ?_ | refine Rn.inBlock hc ?_ | refine Rn.scope hc ?_ | refine Rn.inScope hc ?_))
    refine ih _ _ _ (by omega) ⟨i + 1, _, _, by omega, rfl, hB.trans ((hB6.le nB).trans nx7), hg7, by simp [hli], fun j hj => ?_, by simp only [sp_n, hn], by simp only [sg_ne, ne_eq, Nat.reduceEqDiff, not_false_eq_true, s2], by simp only [sg_ne, ne_eq, Nat.reduceEqDiff, not_false_eq_true, s8], by simp only [sg_ne, ne_eq, Nat.reduceEqDiff, not_false_eq_true, s9], by simp only [sg_eq, sg_ne, sp_n, Nat.reduceLT, ne_eq, Nat.reduceEqDiff, not_false_eq_true, hn], by simp only [sg_ne, ne_eq, Nat.reduceEqDiff, not_false_eq_true, s34], by simp only [sg_eq, sp_n, Nat.reduceLT, hn]⟩
    by_cases hji : j < i
    · rw [getD_snoc (by omega)]
      exact htk j hji
    · have : j = l'.length := by omega
      subst this
      rw [getD_last, hli]
      exact ⟨rfl, a0, p0, hred, by omega, by omega, eL1, eL2⟩
  · have hd : decide ((i : Int) < (step : Int)) = false := decide_eq_false (by omega)
    have hil : i = step := by omega
    subst hil
    clear ih
    have her : errs l' l' = 0 := errs_zero (m := (m : Int)) (fun j hj => (htk j (by omega)).err ⟨hm2, hm7⟩ hsin (by omega) (by omega)) (fun j hj => (htk j (by omega)).m)
    obtain ⟨fa, fp, hred⟩ := redL_exists her
    have hlc := lcm_back hli hs1 hred (fun j hj => (htk j hj).s) hSp
    have hrun := weave_run hB.wf (c := l'.length) (hgl.lrow hB.wf) (fun j hj => ⟨(hgl.each j hj).s1.mono (Nat.zero_le _), (hgl.each j hj).c1⟩) (fa := fa) (fp := fp) (fun _ => hred)
    rw [erW, if_neg (by omega), if_pos her, if_neg (by omega), wov_back hli hs1 htk, (htk 0 hs1).m, hli] at hrun
    refine Rn.reg hc rfl ?_
    simp only [sev_tmp, gd, want_free, rops, fx, bin_lss, Option.some.injEq, exists_eq_left', s34, s35, hd]
    (repeat (first | refine Rn.seq hc ?_ | refine Rn.skip hc ?_ | refine Rn.block hc ?_ | refine Rn.inBlock hc ?_ | refine Rn.scope hc ?_ | refine Rn.inScope hc ?_))
    refine Rn.condE hc rfl ?_
    simp only [sev_tmp, sg_eq, Nat.reduceLT, Value.bool.injEq, exists_eq_left', hn]
    (repeat (first | refine Rn.seq hc ?_ | refine Rn.skip hc ?_ | refine Rn.block hc ?_ | refine Rn.inBlock hc ?_ | refine Rn.scope hc ?_ | refine Rn.inScope hc ?_))
    refine Rn.exit hc rfl ?_
    (repeat (first | refine Rn.seq hc ?_ | refine Rn.skip hc ?_ | refine Rn.block hc ?_ | refine Rn.inBlock hc ?_ | refine Rn.scope hc ?_ | refine Rn.inScope hc ?_))
    clear hd s34 s35
    refine Rn.region hc fun K hK => ?_
    refine Wo.run hc 1 rfl rfl rfl ?_
    simp (maxSteps := 2000000) only [List.drop_zero, List.take_succ_cons, List.take_zero, sev_tmp, sg_ne, ne_eq, Nat.reduceEqDiff, not_false_eq_true, gd, want_free, rops, fx, Nat.zero_add, Option.some.injEq, exists_eq_left', s10]
    refine Wo.call hc (by rfl) (by rfl) ⟨by rfl, by rfl⟩ (xs := [.slice a' i i]) (by rfl) (by rfl) (by simp only [sev_tmp, sg_eq, sp_n, Nat.reduceLT, List.map_cons, List.map_nil, List.nil_append, List.append_nil, hn]) (Con.mono (hrun) ?_)
    rintro w B1 ⟨hx1, mm, L1, L2, ee, p1, c1, p2, c2, hTP, rfl, i1, i2, -, -, y1, y2, k1, k2⟩
    obtain ⟨a0, p0, hredw, ha, hp, rfl, eL1, eL2, rfl⟩ := tp_ok hTP hSp (by omega) (by omega)
    have len1 : L1.length = a0 := by rw [eL1, redS_len]
    have len2 : L2.length = p0 := by rw [eL2, redR_len]
    have hp0 := hredw.per.pos
    have heX : errL m L1 L2 = 0 := by rw [eL1, eL2]; exact errL_red ⟨hm2, hm7⟩ hsin (by omega) (by omega)
    have hLF : atL L1 L2 = S := by rw [eL1, eL2]; exact atL_redF hredw.per
    obtain ⟨B2, p3, hx2, hn2, f0, f1, f2⟩ := put24 hx1.wf (v0 := .int .i64 (m : Int)) (v1 := .slice p1 L1.length c1) (v2 := .slice p2 L2.length c2) rfl
    refine Wo.run hc 6 rfl rfl rfl ?_
    simp (maxSteps := 2000000) only [List.drop_zero, List.drop_succ_cons, List.take_succ_cons, List.take_zero, sev_tmp, sg_eq, sg_ne, sp_n, sp_none, Nat.reduceLT, ne_eq, Nat.reduceEqDiff, not_false_eq_true, gd, want_free, rops, fx, str, ext, adr_p, List.getElem?_toArray, List.getElem?_cons_zero, List.getElem?_cons_succ, Nat.zero_add, Option.some.injEq, exists_eq_left', Value.cells, Nat.reduceAdd, tk24, hn, ext, ze24, p3, List.size_toArray, List.length_cons, List.length_nil, Nat.beq_refl]
    refine Wo.done hc rfl (hK _ _ ?_)
    clear hK
    (repeat (first | refine Rn.seq hc ?_ | refine Rn.skip hc ?_ | refine Rn.block hc ?_ | refine Rn.inBlock hc ?_ | refine Rn.scope hc ?_ | refine Rn.inScope hc ?_))
    have n1 := hx1.next
    have n2 := hx2.next
    have hB2 : Nx B.next B B2 := hx1.trans (hx2.le n1)
    have hA2 : Nx A5.next A5 B2 := hB.trans (hB2.le nB)
    have u1 : Ints B2 p1 0 B2.next L1 := (i1.nx hx2 (Nat.le_refl _)).mono (Nat.zero_le _) hx2.next
    have u2 : Ints B2 p2 0 B2.next L2 := (i2.nx hx2 (Nat.le_refl _)).mono (Nat.zero_le _) hx2.next
    have g0 := (hB2.cl (show bA < B.next by omega) 0).trans e0
    have g1 := (hB2.cl (show bA < B.next by omega) 1).trans e1
    have g2 := (hB2.cl (show bA < B.next by omega) 2).trans e2
    have okW : (⟨(m : Int), p1, c1, L1, p2, c2, L2⟩ : Las).ok B2 := ⟨u1, u2, show L1.length < _ by omega, show L2.length < _ by omega⟩
    have okA : (⟨(m : Int), sa, st.length, st, ra, ro.length, ro⟩ : Las).ok B2 := ⟨(x1.nx hA2 (Nat.le_refl _)).mono (Nat.le_refl _) hA2.next, (x2.nx hA2 (Nat.le_refl _)).mono (Nat.le_refl _) hA2.next, show st.length < _ by omega, show ro.length < _ by omega⟩
    refine Rn.region hc fun K hK => ?_
    refine Wo.run hc 2 rfl rfl rfl ?_
    simp (maxSteps := 2000000) only [List.drop_zero, List.take_succ_cons, List.take_zero, sev_tmp, sg_eq, sg_ne, sp_n, Nat.reduceLT, ne_eq, Nat.reduceEqDiff, not_false_eq_true, gd, want_free, rops, fx, ld, adr_p, cls, Nat.zero_add, Option.some.injEq, exists_eq_left', Nat.reduceAdd, tk24, hn, s8, f0, f1, f2, g0, g1, g2]
    refine Wo.call hc (by rfl) (by rfl) ⟨by rfl, by rfl⟩ (xs := [(⟨(m : Int), p1, c1, L1, p2, c2, L2⟩ : Las).v, (⟨(m : Int), sa, st.length, st, ra, ro.length, ro⟩ : Las).v]) (by rfl) (by rfl) (by simp only [sev_tmp, sg_eq, sg_ne, sp_n, Nat.reduceLT, ne_eq, Nat.reduceEqDiff, not_false_eq_true, List.map_cons, List.map_nil, List.nil_append, List.append_nil, hn]; rfl) (Con.mono (same_run hB2.wf okW okA) ?_)
    rintro w B3 ⟨hx3, hq, -⟩
    obtain ⟨bb, rfl, hbb⟩ := hq (by
      rw [errs_two]
      unfold Las.err
      rw [if_neg (by simp [heX]), if_neg (by simp [he]), if_pos rfl])
    have hbt : bb = true := hbb.2 fun j => by
      unfold Las.s
      rw [hLF, hS]
    subst hbt
    refine Wo.run hc 5 rfl rfl rfl ?_
    simp (maxSteps := 2000000) only [List.drop_zero, List.drop_succ_cons, List.take_succ_cons, List.take_zero, sev_tmp, sg_eq, sg_ne, sp_n, Nat.reduceLT, ne_eq, Nat.reduceEqDiff, not_false_eq_true, gd, want_free, rops, fx, ext, List.getElem?_toArray, List.getElem?_cons_zero, List.getElem?_cons_succ, Option.some.injEq, exists_eq_left', Nat.reduceAdd, hn, ext]
    refine Wo.done hc rfl (hK _ _ ?_)
    clear hK
    (repeat (first | refine Rn.seq hc ?_ | refine Rn.skip hc ?_ | refine Rn.block hc ?_ | refine Rn.inBlock hc ?_ | refine Rn.scope hc ?_ | refine Rn.inScope hc ?_))
    have n3 := hx3.next
    have hB3 : Nx B.next B B3 := hB2.trans (hx3.le (by omega))
    have g0 := (hB3.cl (show bA < B.next by omega) 0).trans e0
    have f0 := (hx3.cl (show B1.next < B2.next by omega) 0).trans f0
    have f1 := (hx3.cl (show B1.next < B2.next by omega) 1).trans f1
    have f2 := (hx3.cl (show B1.next < B2.next by omega) 2).trans f2
    have u1 := (u1.nx hx3 (Nat.le_refl _)).mono (Nat.le_refl _) hx3.next
    have u2 := (u2.nx hx3 (Nat.le_refl _)).mono (Nat.le_refl _) hx3.next
    refine Rn.region hc fun K hK => ?_
    refine Wo.run hc 4 rfl rfl rfl ?_
    simp (maxSteps := 2000000) only [List.drop_zero, List.take_succ_cons, List.take_zero, sev_tmp, sg_eq, sg_ne, sp_n, Nat.reduceLT, ne_eq, Nat.reduceEqDiff, not_false_eq_true, gd, want_free, rops, fx, ld, fad, adr_p, cls, Nat.zero_add, Nat.add_zero, Option.some.injEq, exists_eq_left', Nat.reduceAdd, tk3, tk24, fo24_0, hn, s8, f0, f1, f2, g0]
    refine Wo.call hc (by rfl) (by rfl) ⟨by rfl, by rfl⟩ (xs := [.agg #[.int .i64 (m : Int), .slice p1 L1.length c1, .slice p2 L2.length c2], .int .i64 0, .int .i64 (m : Int)]) (by rfl) (by rfl) (by simp only [sev_tmp, sg_eq, sg_ne, sp_n, Nat.reduceLT, ne_eq, Nat.reduceEqDiff, not_false_eq_true, List.map_cons, List.map_nil, List.nil_append, List.append_nil, hn]) (Con.mono (right_lasso hx3.wf u1 u2 (by omega) (by omega) heX) ?_)
    rintro w B4 ⟨rfl, hx4⟩
    refine Wo.run hc 9 rfl rfl rfl ?_
    simp (maxSteps := 2000000) only [List.drop_zero, List.drop_succ_cons, List.take_succ_cons, List.take_zero, sev_tmp, sev_const, sg_eq, sg_ne, sp_n, Nat.reduceLT, ne_eq, Nat.reduceEqDiff, not_false_eq_true, gd, nth, want_free, want_slot, beqB, rops, fx, pck, bin_neq, Option.some.injEq, exists_eq_left', Nat.reduceAdd, Bool.not_true, ae_not', Bool.not_true, hn, eq_self, decide_true, Bool.not_true]
    refine Wo.done hc rfl (hK _ _ ?_)
    clear hK
    (repeat (first | refine Rn.seq hc ?_ | refine Rn.skip hc ?_ | refine Rn.block hc ?_ | refine Rn.inBlock hc ?_ | refine Rn.scope hc ?_ | refine Rn.inScope hc ?_))
    refine Rn.condE hc rfl ?_
    simp only [sev_tmp, sg_eq, sp_n, Nat.reduceLT, Value.bool.injEq, exists_eq_left', hn]
    (repeat (first | refine Rn.seq hc ?_ | refine Rn.skip hc ?_ | refine Rn.block hc ?_ | refine Rn.inBlock hc ?_ | refine Rn.scope hc ?_ | refine Rn.inScope hc ?_))
    have n4 := hx4.next
    have hB4 : Nx B.next B B4 := hB3.trans (hx4.le (by omega))
    have f0 := (hx4.cl (show B1.next < B3.next by omega) 0).trans f0
    have f1 := (hx4.cl (show B1.next < B3.next by omega) 1).trans f1
    have f2 := (hx4.cl (show B1.next < B3.next by omega) 2).trans f2
    have u1 := (u1.nx hx4 (Nat.le_refl _)).mono (Nat.le_refl _) hx4.next
    have u2 := (u2.nx hx4 (Nat.le_refl _)).mono (Nat.le_refl _) hx4.next
    have hg4 := hgl.nx hB.wf hB4
    have hr4 := hg4.lrow hB4.wf
    refine Rn.reg hc rfl ?_
    simp only [sev_tmp, sev_const, sg_eq, sg_ne, sp_n, Nat.reduceLT, ne_eq, Nat.reduceEqDiff, not_false_eq_true, gd, want_free, rops, fx, lng, Option.some.injEq, exists_eq_left', un46, hn, s10]
    (repeat (first | refine Rn.seq hc ?_ | refine Rn.skip hc ?_ | refine Rn.block hc ?_ | refine Rn.inBlock hc ?_ | refine Rn.scope hc ?_ | refine Rn.inScope hc ?_))
    refine Rn.loopI hc (I := fun k s D => ∃ j, j ≤ i ∧ k = i - j ∧ Nx B4.next B4 D ∧ s.n = 126 ∧ sget s 9 = .int .i64 (i : Int) ∧ sget s 16 = .pointer (some ⟨B1.next, 0, none⟩) ∧ sget s 102 = .slice a' i i ∧ sget s 103 = .int .i64 (i : Int) ∧ sget s 104 = .int .i64 (j : Int))
      (n := i) ⟨0, by omega, rfl, Nx.refl hB4.wf _, by simp only [sp_n, hn], by simp only [sg_ne, ne_eq, Nat.reduceEqDiff, not_false_eq_true, s9], by simp only [sg_eq, sg_ne, sp_n, Nat.reduceLT, ne_eq, Nat.reduceEqDiff, not_false_eq_true, hn], by simp only [sg_eq, sg_ne, sp_n, Nat.reduceLT, ne_eq, Nat.reduceEqDiff, not_false_eq_true, hn], by simp only [sg_eq, sg_ne, sp_n, Nat.reduceLT, ne_eq, Nat.reduceEqDiff, not_false_eq_true, hn], by simp only [sg_eq, sp_n, Nat.reduceLT, hn]; rfl⟩ ?_
    clear hn s2 s8 s9 s10 s
    rintro k s D ⟨j, hj, rfl, hD, hn, s9, s16, s102, s103, s104⟩ ih
    have nD := hD.next
    (repeat (first | refine Rn.seq hc ?_ | refine Rn.skip hc ?_ | refine Rn.block hc ?_ | refine Rn.inBlock hc ?_ | refine Rn.scope hc ?_ | refine Rn.inScope hc ?_))
    by_cases hlj : j < i
    · have hd : decide ((j : Int) < (i : Int)) = true := decide_eq_true (by omega)
      obtain ⟨hok, b, o, rfl, hbb, c0, c1', c2'⟩ := (hr4.nx hD) j (by omega)
      have c0 : cl D b (o + j * 3) = some (.int .i64 (l'.getD j noLas).m) := c0
      obtain ⟨D2, r2, hx2', hn2', q0, q1, q2⟩ := put24 hD.wf (v0 := .int .i64 (l'.getD j noLas).m) (v1 := .slice (l'.getD j noLas).sa (l'.getD j noLas).st.length (l'.getD j noLas).sc) (v2 := .slice (l'.getD j noLas).ra (l'.getD j noLas).ro.length (l'.getD j noLas).rc) rfl
      have hok2 := hok.nx hx2'
      have hD2 : Nx B4.next B4 D2 := hD.trans (hx2'.le nD)
      have f0 := (hD2.cl (show B1.next < B4.next by omega) 0).trans f0
      have f1 := (hD2.cl (show B1.next < B4.next by omega) 1).trans f1
      have f2 := (hD2.cl (show B1.next < B4.next by omega) 2).trans f2
      have hev := every_run hD2.wf (m := (m : Int)) (sp := (i : Int)) (ad := (j : Int)) (sc := c1) (rc := c2) ((u1.nx hD2 (Nat.le_refl _)).mono (Nat.le_refl _) hD2.next) ((u2.nx hD2 (Nat.le_refl _)).mono (Nat.le_refl _) hD2.next) (by omega) (by omega)
      rw [erE, if_pos heX, if_neg (by omega), hLF] at hev
      simp only [Int.toNat_natCast] at hev
      refine Rn.reg hc rfl ?_
      simp only [sev_tmp, gd, want_free, rops, fx, bin_lss, Option.some.injEq, exists_eq_left', s103, s104, hd]
      (repeat (first | refine Rn.seq hc ?_ | refine Rn.skip hc ?_ | refine Rn.block hc ?_ | refine Rn.inBlock hc ?_ | refine Rn.scope hc ?_ | refine Rn.inScope hc ?_))
      refine Rn.condE hc rfl ?_
      simp only [sev_tmp, sg_eq, Nat.reduceLT, Value.bool.injEq, exists_eq_left', hn]
      (repeat (first | refine Rn.seq hc ?_ | refine Rn.skip hc ?_ | refine Rn.block hc ?_ | refine Rn.inBlock hc ?_ | refine Rn.scope hc ?_ | refine Rn.inScope hc ?_))
      refine Rn.reg hc rfl ?_
      simp only [sev_tmp, sg_eq, sg_ne, sp_n, sp_none, Nat.reduceLT, ne_eq, Nat.reduceEqDiff, not_false_eq_true, gd, want_free, rops, fx, ld, str, idx, adr_p, cls, Nat.zero_add, Option.some.injEq, exists_eq_left', Value.cells, Nat.reduceAdd, tk24, eo46, hn, s102, s104, nlen_nat hlj, c0, c1', c2', ze24, r2, List.size_toArray, List.length_cons, List.length_nil, Nat.beq_refl]
      (repeat (first | refine Rn.seq hc ?_ | refine Rn.skip hc ?_ | refine Rn.block hc ?_ | refine Rn.inBlock hc ?_ | refine Rn.scope hc ?_ | refine Rn.inScope hc ?_))
      refine Rn.region hc fun K hK => ?_
      refine Wo.run hc 3 rfl rfl rfl ?_
      simp (maxSteps := 2000000) only [List.drop_zero, List.take_succ_cons, List.take_zero, sev_tmp, sg_eq, sg_ne, sp_n, Nat.reduceLT, ne_eq, Nat.reduceEqDiff, not_false_eq_true, gd, want_free, rops, fx, ld, adr_p, cls, Nat.zero_add, Option.some.injEq, exists_eq_left', Nat.reduceAdd, tk24, hn, s9, s16, f0, f1, f2]
      refine Wo.call hc (by rfl) (by rfl) ⟨by rfl, by rfl⟩ (xs := [.agg #[.int .i64 (m : Int), .slice p1 L1.length c1, .slice p2 L2.length c2], .int .i64 (i : Int), .int .i64 (j : Int)]) (by rfl) (by rfl) (by simp only [sev_tmp, sg_eq, sg_ne, sp_n, Nat.reduceLT, ne_eq, Nat.reduceEqDiff, not_false_eq_true, List.map_cons, List.map_nil, List.nil_append, List.append_nil, hn]) (Con.mono (hev) ?_)
      rintro w D3 ⟨hx3', mm, M1, M2, ee, t1, v1, t2, v2, hTP', rfl, j1, j2, -, -, -, -, -, -⟩
      obtain ⟨a9, p9, hred9, -, -, rfl, eM1, eM2, rfl⟩ := tp_ok hTP' (evS_per (j := j) hs1 hSp) (by omega) (by omega)
      obtain ⟨hmj, a8, p8, hred8, ha8, hp8, eT1, eT2⟩ := htk j hlj
      obtain ⟨rfl, rfl⟩ := hred8.uniq hred9
      have htw : Tw (⟨(m : Int), t1, v1, M1, t2, v2, M2⟩ : Las) (l'.getD j noLas) := ⟨hmj.symm, by rw [eT1]; exact eM1, by rw [eT2]; exact eM2⟩
      have lM1 : M1.length = a8 := by rw [eM1]; exact redS_len _ _
      have lM2 : M2.length = p8 := by rw [eM2]; exact redR_len _ _ _
      obtain ⟨D4, r4, hx4', hn4', z0, z1, z2⟩ := put24 hx3'.wf (v0 := .int .i64 (m : Int)) (v1 := .slice t1 M1.length v1) (v2 := .slice t2 M2.length v2) rfl
      refine Wo.run hc 6 rfl rfl rfl ?_
      simp (maxSteps := 2000000) only [List.drop_zero, List.drop_succ_cons, List.take_succ_cons, List.take_zero, sev_tmp, sg_eq, sg_ne, sp_n, sp_none, Nat.reduceLT, ne_eq, Nat.reduceEqDiff, not_false_eq_true, gd, want_free, rops, fx, str, ext, adr_p, List.getElem?_toArray, List.getElem?_cons_zero, List.getElem?_cons_succ, Nat.zero_add, Option.some.injEq, exists_eq_left', Value.cells, Nat.reduceAdd, tk24, hn, ext, ze24, r4, List.size_toArray, List.length_cons, List.length_nil, Nat.beq_refl]
      refine Wo.done hc rfl (hK _ _ ?_)
      clear hK
      (repeat (first | refine Rn.seq hc ?_ | refine Rn.skip hc ?_ | refine Rn.block hc ?_ | refine Rn.inBlock hc ?_ | refine Rn.scope hc ?_ | refine Rn.inScope hc ?_))
      have n3' := hx3'.next
      have h24 : Nx D2.next D2 D4 := hx3'.trans (hx4'.le n3')
      have okM : (⟨(m : Int), t1, v1, M1, t2, v2, M2⟩ : Las).ok D4 := ⟨(j1.nx hx4' (Nat.le_refl _)).mono (Nat.zero_le _) hx4'.next, (j2.nx hx4' (Nat.le_refl _)).mono (Nat.zero_le _) hx4'.next, show M1.length < _ by omega, show M2.length < _ by omega⟩
      have q0 := (h24.cl (show D.next < D2.next by omega) 0).trans q0
      have q1 := (h24.cl (show D.next < D2.next by omega) 1).trans q1
      have q2 := (h24.cl (show D.next < D2.next by omega) 2).trans q2
      refine Rn.region hc fun K hK => ?_
      refine Wo.run hc 5 rfl rfl rfl ?_
      simp (maxSteps := 2000000) only [List.drop_zero, List.take_succ_cons, List.take_zero, sev_tmp, sev_const, sg_eq, sg_ne, sp_n, Nat.reduceLT, ne_eq, Nat.reduceEqDiff, not_false_eq_true, gd, nth, want_free, want_slot, beqB, rops, fx, ld, bin_neq, adr_p, cls, Nat.zero_add, Option.some.injEq, exists_eq_left', Nat.reduceAdd, Bool.not_true, Bool.not_true, tk24, hn, eq_self, decide_true, Bool.not_true, z0, z1, z2, q0, q1, q2]
      refine Wo.call hc (by rfl) (by rfl) ⟨by rfl, by rfl⟩ (xs := [(⟨(m : Int), t1, v1, M1, t2, v2, M2⟩ : Las).v, (l'.getD j noLas).v]) (by simp only [sg_eq, sg_ne, sp_n, Nat.reduceLT, ne_eq, Nat.reduceEqDiff, not_false_eq_true, gd, nth, want_slot, beqB, hn]) (by rfl) (by simp only [sev_tmp, sg_eq, sg_ne, sp_n, Nat.reduceLT, ne_eq, Nat.reduceEqDiff, not_false_eq_true, List.map_cons, List.map_nil, List.nil_append, List.append_nil, hn]; rfl) (Con.mono (same_true h24.wf (hok2.nx h24) okM htw) ?_)
      rintro w D5 ⟨rfl, hx5'⟩
      refine Wo.run hc 2 rfl rfl rfl ?_
      simp (maxSteps := 2000000) only [List.drop_zero, List.drop_succ_cons, List.take_succ_cons, List.take_zero, sev_tmp, sg_eq, sg_ne, sp_n, Nat.reduceLT, ne_eq, Nat.reduceEqDiff, not_false_eq_true, gd, nth, want_free, want_slot, beqB, rops, fx, pck, Option.some.injEq, exists_eq_left', Nat.reduceAdd, Bool.not_true, ae_not', Bool.not_true, hn]
      refine Wo.done hc rfl (hK _ _ ?_)
      clear hK
      (repeat (first | refine Rn.seq hc ?_ | refine Rn.skip hc ?_ | refine Rn.block hc ?_ | refine Rn.inBlock hc ?_ | refine Rn.scope hc ?_ | refine Rn.inScope hc ?_))
      refine Rn.condE hc rfl ?_
      simp only [sev_tmp, sg_eq, sp_n, Nat.reduceLT, Value.bool.injEq, exists_eq_left', hn]
      (repeat (first | refine Rn.seq hc ?_ | refine Rn.skip hc ?_ | refine Rn.block hc ?_ | refine Rn.inBlock hc ?_ | refine Rn.scope hc ?_ | refine Rn.inScope hc ?_))
      refine Rn.reg hc rfl ?_
      simp only [sev_tmp, sev_const, sg_eq, sg_ne, sp_n, Nat.reduceLT, ne_eq, Nat.reduceEqDiff, not_false_eq_true, gd, want_free, rops, fx, bin_add, Option.some.injEq, exists_eq_left', hn, s104, wrap_succ (show j < 9223372036854775807 by omega)]
      (repeat (first | refine Rn.seq hc ?_ | refine Rn.skip hc ?_ | refine Rn.block hc ?_ | refine Rn.inBlock hc ?_ | refine Rn.scope hc ?_ | refine Rn.inScope hc ?_))
      exact ih _ _ _ (by omega) ⟨j + 1, by omega, rfl, hD2.trans ((h24.trans (hx5'.le h24.next)).le hD2.next), by simp only [sp_n, hn], by simp only [sg_ne, ne_eq, Nat.reduceEqDiff, not_false_eq_true, s9], by simp only [sg_ne, ne_eq, Nat.reduceEqDiff, not_false_eq_true, s16], by simp only [sg_ne, ne_eq, Nat.reduceEqDiff, not_false_eq_true, s102], by simp only [sg_ne, ne_eq, Nat.reduceEqDiff, not_false_eq_true, s103], by simp only [sg_eq, sp_n, Nat.reduceLT, hn]⟩
    · have hd : decide ((j : Int) < (i : Int)) = false := decide_eq_false (by omega)
      clear ih
      refine Rn.reg hc rfl ?_
      simp only [sev_tmp, gd, want_free, rops, fx, bin_lss, Option.some.injEq, exists_eq_left', s103, s104, hd]
      (repeat (first | refine Rn.seq hc ?_ | refine Rn.skip hc ?_ | refine Rn.block hc ?_ | refine Rn.inBlock hc ?_ | refine Rn.scope hc ?_ | refine Rn.inScope hc ?_))
      refine Rn.condE hc rfl ?_
      simp only [sev_tmp, sg_eq, Nat.reduceLT, Value.bool.injEq, exists_eq_left', hn]
      (repeat (first | refine Rn.seq hc ?_ | refine Rn.skip hc ?_ | refine Rn.block hc ?_ | refine Rn.inBlock hc ?_ | refine Rn.scope hc ?_ | refine Rn.inScope hc ?_))
      refine Rn.exit hc rfl ?_
      (repeat (first | refine Rn.seq hc ?_ | refine Rn.skip hc ?_ | refine Rn.block hc ?_ | refine Rn.inBlock hc ?_ | refine Rn.scope hc ?_ | refine Rn.inScope hc ?_))
      have hBD : Nx B.next B D := hB4.trans (hD.le (by have := hB4.next; omega))
      refine Rn.region hc fun K hK => ?_
      refine Wo.call hc (by rfl) (by rfl) ⟨by rfl, by rfl⟩ (xs := []) (by rfl) (by rfl) (by rfl) (Con.mono (awake_con D) ?_)
      rintro w D1 ⟨rfl, rfl⟩
      refine Wo.run hc 1 rfl rfl rfl ?_
      simp (maxSteps := 2000000) only [List.drop_zero, List.drop_succ_cons, List.take_succ_cons, List.take_zero, sev_tmp, sg_eq, sp_n, Nat.reduceLT, gd, want_free, rops, fx, Nat.zero_add, Option.some.injEq, exists_eq_left', Nat.reduceAdd, hn]
      refine Wo.done hc rfl (hK _ _ ?_)
      clear hK
      (repeat (first | refine Rn.seq hc ?_ | refine Rn.skip hc ?_ | refine Rn.block hc ?_ | refine Rn.inBlock hc ?_ | refine Rn.scope hc ?_ | refine Rn.inScope hc ?_))
      refine Rn.ret (endQ_tmp rfl ⟨?_, hx05.trans ((hB.trans (hBD.le nB)).le hx05.next)⟩)
      simp only [sg_eq, sp_n, Nat.reduceLT, hn]
end Go.Proofs.Ytdaljohmfnfgiaa
/- LassoWoven returns true for every input, and each argument reads afterwards as it read before. No condition. -/
namespace Go.Proofs.Ytdaljohmfnfgiaa
section
open Go Go.RowKit Go.Proofs.Ytdaljohmfnfgiaa.Canon
theorem woven_any {W : World} {na : Option Addr} {nn nc : Nat} (h1 : ∀ x, na = some x → x.spot = none) (k1 : BysW W na nn) (hnn : nn < 9223372036854775808) {n more : Nat} (hmore : more < 256) (hn16 : n < 65536) :
    Calls Try.prog 11 #[.slice na nn nc, .int .u8 (more : Int), .int .u16 (n : Int)] W (fun e w' => e = .returned (.bool true) ∧ Below W.heap.size W w') := by
  obtain ⟨A, hA⟩ := in_any W (W.heap.size + 1 + blkOf na) (by omega) (by omega)
  refine calls_of_conF (t := 6) Try.func11 rfl hA (xs := [.slice na nn nc, .int .u8 (more : Int), .int .u16 (n : Int)]) ?_
    (law_woven hA.wf (k1.bys hA) hnn hmore hn16)
  exact ((AR.single (inP_v (roV_slice h1 (by omega)))).push (.int .u8 (more : Int))).push (.int .u16 (n : Int))
end
section
open Go.ChangeShapes Go.WideShapes Go.ChangeAt Go.RowKit Go.Proofs.Ytdaljohmfnfgiaa.Canon
open Go.Deep (open_slice_pairs open_slice)
set_option maxRecDepth 100000 in
theorem lassoWoven_lifted (os : Os) (started : os.Started) (H : Type) (enc : TypeId × Value → H) :
    ReturnsInHanded {} Try.checked os 11 .any (Rows.lassoWovenSpec.pre6 enc Try.prog Try.f11 Rows.lassoWovenRow.domain false) (Rows.lassoWovenSpec.post enc Try.prog Try.f11 false true false false) := by
  refine returnsInHanded_of_change (C := Try.checked) Try.own started (by kernel_rfl) Try.func11
    (ChangeSpec.witness6 (enc := enc) (C := Try.checked) false ⟨#[], #[.slice none 0 0, .int .u8 0, .int .u16 0], []⟩ 8 (by kernel_rfl) (by kernel_rfl) (by kernel_rfl) (by kernel_rfl)) ?_
  intro W base args ds gs before hval0 hW hcnd _
  have hval : ∀ (j : Nat) t v, Try.f11.params[j]? = some t → args[j]? = some v → Value.okWide Try.prog W .any base t v := hval0
  have hW' := hW
  obtain ⟨p, q, hA0, hV, rfl, hfz, hnd⟩ := hW
  have hA : DataW.TrodAll enc Try.prog W 0 (fun _ => true) true Try.f11.params.toList args.toList ds p := hA0
  rw [Try.params11] at hA hval
  obtain ⟨v0, v1, v2, d0, d1, d2, p0, p1, p2, rfl, rfl, rfl, h0, h1, h2⟩ := trodAll_three hA
  obtain ⟨rfl, rfl⟩ := trodVars_none hV
  obtain ⟨na, nn, nc, rfl, hk⟩ := val_bytes (hval 0 55 v0 rfl rfl)
  obtain ⟨hnn, i1⟩ : nn < 9223372036854775808 ∧ BysW W na nn := by
    obtain ⟨fuel, hf⟩ := h0
    exact bytes_trod hf hk
  obtain ⟨more, rfl, rfl, rfl, hw1⟩ := open_int Try.underlying5 (hval 1 5 v1 rfl rfl) h1
  obtain ⟨n, rfl, rfl, rfl, hw2⟩ := open_int Try.underlying64 (hval 2 64 v2 rfl rfl) h2
  obtain ⟨more, rfl, b1⟩ := lit_u8 hw1
  obtain ⟨n, rfl, b2⟩ := lit_u16 hw2
  clear hA0 hval0
  simp only [List.append_nil] at hW'
  have hplace : ∀ p ∈ p0, p.block < W.heap.size := fun p hp => by simpa using hW'.lt p hp
  refine (woven_any (nc := nc) hk i1 hnn b1 b2).mono fun e W' ⟨he, hb⟩ => ?_
  subst he
  have harg0 : ∀ sp : Nat → Bool, (∀ p ∈ p0, sp p.block = true) → DataW.Trod enc Try.prog W' 0 sp true 55 (.slice na nn nc) d0 p0 := fun sp hsp =>
    WideElems.Trod_stays Try.laidOut (by kernel_rfl) (of_decide_eq_true (by kernel_rfl)) h0 (fun x hx => hb.same (hplace x hx)) (fun x hx => hsp x hx)
  refine ⟨_, rfl, post_of_below (pa := p0) (pv := []) hW' (fun _ _ _ => trodAll_mk1 (shut_bool Try.underlying4 _)) (fun sp hsp => ?_) (fun _ _ => rfl) (by simp) hb (ok_one (by kernel_rfl) rfl (okWide_bool_mk Try.underlying4 _))⟩
  have hall : DataW.TrodAll enc Try.prog W' 0 sp true [55, 5, 64] [.slice na nn nc, .int .u8 (more : Int), .int .u16 (n : Int)] [d0, .lit (.int .u8 (more : Int)), .lit (.int .u16 (n : Int))] (p0 ++ ([] ++ [])) :=
    trodAll_mk3 (harg0 sp hsp) (shut_int Try.underlying5 hw1) (shut_int Try.underlying64 hw2)
  simp only [List.append_nil] at hall
  exact hall

theorem lassoWoven_holds : Rows.LassoWovenSaid :=
  OpenClaim.holds_of_wide 11 Try.f11 rfl rfl rfl rfl rfl rfl rfl ⟨rfl, rfl, rfl, rfl, rfl⟩ rfl rfl rfl rfl rfl (by kernel_rfl) Try.func11 (by kernel_rfl)
    (of_decide_eq_true (by kernel_rfl)) (by unfold Func.isWrapper; first | (rw [if_pos (by decide +kernel)]; kernel_rfl) | (rw [if_neg (by decide +kernel)]; exact ⟨rfl, rfl⟩))
    (fun os started H enc _ => lassoWoven_lifted os started H enc)
end
end Go.Proofs.Ytdaljohmfnfgiaa

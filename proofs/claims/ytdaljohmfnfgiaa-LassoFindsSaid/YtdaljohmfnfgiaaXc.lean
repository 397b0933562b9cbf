/- LassoFinds returns true for every input, and each argument reads afterwards as it read before. No condition. -/
import Derived.Test.YtdaljohmfnfgiaaXb
import Derived.Test.YtdaljohmfnfgiaaRows
import Derived.ProofKit
import Derived.Below
import Derived.ChangeSame
import Derived.Deep.SlicePairs
/- The examples of the lasso's chapter are met: awake returns true, from every world, and what was there stays. No condition. -/
namespace Go.Proofs.Ytdaljohmfnfgiaa
open Go Go.RowKit Go.Proofs.Ytdaljohmfnfgiaa.Canon
theorem awake_runs : btells Try.prog (xquick Try.prog) (qregion Try.prog (xquick Try.prog)) 100000 16 1000 = true := by kernel_rfl
theorem awake_true (w : World) : Calls Try.prog 16 #[] w (fun e w' => e = .returned (.bool true) ∧ Below w.heap.size w w') := calls_of_btells hc hx xquick_ok (qregion_ok xquick_ok) awake_runs w
theorem awake_con (A : AHeap) : Con Try.prog 16 [] A (fun v A1 => v = .bool true ∧ A1 = A) := by
  refine ⟨.bool true, A, ⟨⟨_, Try.func16, rfl⟩, fun N => ?_⟩, rfl, rfl⟩
  refine ret_of_calls (fun N φ w xs' hr hs hN => ?_) N
  have : xs' = #[] := Array.eq_empty_of_size_eq_zero hr.1.symm
  subst this
  refine (awake_true w).mono fun en w' hp => ?_
  obtain ⟨rfl, hb⟩ := hp
  exact ⟨φ, _, rfl, Phi.le_refl _, .bool _, hs.below hb, hb.os, hb.tape, hb.output, hb.size, fun k hk => hb.block k (hN k hk)⟩
end Go.Proofs.Ytdaljohmfnfgiaa
/- LassoFinds returns true. No condition. -/
namespace Go.Proofs.Ytdaljohmfnfgiaa
open Go Go.RowKit Go.Proofs.Ytdaljohmfnfgiaa.Canon
set_option maxRecDepth 20000


theorem Rn.gen {P : Program} {fn : FuncId} {ro : Option Nat} {td : List Item} {s : Slots} {ds : List Deferred} {A : AHeap} {Q : Post} {I : Slots → Prop} (h0 : I s) (h : ∀ s, I s → Rn P fn ro td s ds A Q) : Rn P fn ro td s ds A Q := h s h0
theorem findV_two (m : Int) (st ro word : List Int) : ∃ p e, findV m st ro word = .tuple #[.int .i64 p, .int .i64 e] := by
  unfold findV
  split
  · split
    · exact ⟨_, _, rfl⟩
    · cases ffrom (mat st ro word) 0 (st.length + ro.length) with
      | none => exact ⟨_, _, rfl⟩
      | some n => exact ⟨_, _, rfl⟩
  · exact ⟨_, _, rfl⟩
theorem countV_two (m v n : Int) (st ro : List Int) : ∃ p e, countV m v n st ro = .tuple #[.int .i64 p, .int .i64 e] := by
  unfold countV
  split
  · split
    · exact ⟨_, _, rfl⟩
    · exact ⟨_, _, rfl⟩
  · exact ⟨_, _, rfl⟩

theorem law_finds {A : AHeap} (hw : WF A) {m v n : Int} {sa ra wa : Option Addr} {sn sc rn rc wn wc : Nat} (hn63 : n < 9223372036854775808)
    (hmem : sn ≤ 70 → rn ≤ 130 → wn ≤ 130 → ∃ st ro word : List Int, st.length = sn ∧ ro.length = rn ∧ word.length = wn ∧ Ints A sa 0 A.next st ∧ Ints A ra 0 A.next ro ∧ Ints A wa 0 A.next word) :
    ConF Try.prog 8 [.agg #[.int .i64 m, .slice sa sn sc, .slice ra rn rc], .slice wa wn wc, .int .i64 v, .int .i64 n] A (fun w A1 => w = .bool true ∧ Nx A.next A A1) := by
  refine conF_of_rn hc Try.func8 rfl (Nat.le_of_ble_eq_true rfl) ?_
  obtain ⟨A1, e1, hx1, hn1, b0, b1, b2⟩ := box3 hw (.int .i64 m) (.slice sa sn sc) (.slice ra rn rc) 24
  rw [s_in4]
  (repeat (first | refine Rn.seq hc ?_ | refine Rn.skip hc ?_ | refine Rn.block hc ?_ | refine Rn.inBlock hc ?_ | refine Rn.scope hc ?_ | refine Rn.inScope hc ?_))
  refine Rn.reg hc rfl ?_
  simp only [sev_tmp, sev_const, sg_eq, sg_ne, Nat.reduceLT, ne_eq, Nat.reduceEqDiff, not_false_eq_true, gd, want_free, rops, fx, Option.some.injEq, exists_eq_left', Value.cells, show Try.f8.ntmps = 88 from rfl, e1]
  (repeat (first | refine Rn.seq hc ?_ | refine Rn.skip hc ?_ | refine Rn.block hc ?_ | refine Rn.inBlock hc ?_ | refine Rn.scope hc ?_ | refine Rn.inScope hc ?_))
  refine Rn.region hc fun K hK => ?_
  refine Wo.run hc 1 rfl rfl rfl ?_
  simp (maxSteps := 2000000) only [List.drop_zero, List.take_succ_cons, List.take_zero, sev_tmp, sg_eq, sg_ne, sp_n, Nat.reduceLT, ne_eq, Nat.reduceEqDiff, not_false_eq_true, gd, want_free, rops, fx, ld, adr_p, cls, Nat.zero_add, Option.some.injEq, exists_eq_left', Nat.reduceAdd, tk24, b0, b1, b2]
  refine Wo.call hc (by rfl) (by rfl) ⟨by rfl, by rfl⟩ (xs := [.agg #[.int .i64 m, .slice sa sn sc, .slice ra rn rc]]) (by first | rfl | (simp only [sev_tmp, sev_const, sev_func, sg_eq, sg_ne, sp_n, sp_none, Nat.reduceLT, ne_eq, Nat.reduceEqDiff, not_false_eq_true, gd, nth, want_free, want_slot, beqB, List.map_cons, List.map_nil, Array.toList_empty, List.nil_append, List.append_nil, List.cons_append]; done) | (simp only [sev_tmp, sev_const, sev_func, sg_eq, sg_ne, sp_n, sp_none, Nat.reduceLT, ne_eq, Nat.reduceEqDiff, not_false_eq_true, gd, nth, want_free, want_slot, beqB, List.map_cons, List.map_nil, Array.toList_empty, List.nil_append, List.append_nil, List.cons_append]; rfl)) (by first | rfl | (simp only [sev_tmp, sev_const, sev_func, sg_eq, sg_ne, sp_n, sp_none, Nat.reduceLT, ne_eq, Nat.reduceEqDiff, not_false_eq_true, gd, nth, want_free, want_slot, beqB, List.map_cons, List.map_nil, Array.toList_empty, List.nil_append, List.append_nil, List.cons_append]; done) | (simp only [sev_tmp, sev_const, sev_func, sg_eq, sg_ne, sp_n, sp_none, Nat.reduceLT, ne_eq, Nat.reduceEqDiff, not_false_eq_true, gd, nth, want_free, want_slot, beqB, List.map_cons, List.map_nil, Array.toList_empty, List.nil_append, List.append_nil, List.cons_append]; rfl)) (by first | rfl | (simp only [sev_tmp, sev_const, sev_func, sg_eq, sg_ne, sp_n, sp_none, Nat.reduceLT, ne_eq, Nat.reduceEqDiff, not_false_eq_true, gd, nth, want_free, want_slot, beqB, List.map_cons, List.map_nil, Array.toList_empty, List.nil_append, List.append_nil, List.cons_append]; done) | (simp only [sev_tmp, sev_const, sev_func, sg_eq, sg_ne, sp_n, sp_none, Nat.reduceLT, ne_eq, Nat.reduceEqDiff, not_false_eq_true, gd, nth, want_free, want_slot, beqB, List.map_cons, List.map_nil, Array.toList_empty, List.nil_append, List.append_nil, List.cons_append]; rfl)) (Con.mono (great_lasso hx1.wf m sa ra sn rn sc rc) ?_)
  rintro w A2 ⟨rfl, hx2⟩
  have hx02 : Nx A.next A A2 := hx1.trans (hx2.le hx1.next)
  by_cases hgr : 70 < sn ∨ 130 < rn ∨ 130 < wn
  · have hdone : ∀ B, Nx A.next A B → Nx A.next A B := fun _ h => h
    by_cases h70 : (decide ((70 : Int) < sn) || decide ((130 : Int) < rn)) = true
    · refine Wo.run hc 5 rfl rfl rfl ?_
      simp (maxSteps := 2000000) only [List.drop_zero, List.drop_succ_cons, List.take_succ_cons, List.take_zero, sev_tmp, sev_const, sg_eq, sg_ne, sp_n, Nat.reduceLT, ne_eq, Nat.reduceEqDiff, not_false_eq_true, gd, nth, want_free, want_slot, beqB, rops, fx, pck, Option.some.injEq, exists_eq_left', Nat.reduceAdd, h70]
      refine Wo.done hc rfl (hK _ _ ?_)
      clear hK
      (repeat (first | refine Rn.seq hc ?_ | refine Rn.skip hc ?_ | refine Rn.block hc ?_ | refine Rn.inBlock hc ?_ | refine Rn.scope hc ?_ | refine Rn.inScope hc ?_))
      refine Rn.condE hc rfl ?_
      simp only [sev_tmp, sg_eq, sp_n, Nat.reduceLT, Value.bool.injEq, exists_eq_left']
      (repeat (first | refine Rn.seq hc ?_ | refine Rn.skip hc ?_ | refine Rn.block hc ?_ | refine Rn.inBlock hc ?_ | refine Rn.scope hc ?_ | refine Rn.inScope hc ?_))
      refine Rn.region hc fun K hK => ?_
      refine Wo.call hc (by rfl) (by rfl) ⟨by rfl, by rfl⟩ (xs := []) (by rfl) (by rfl) (by rfl) (Con.mono (awake_con A2) ?_)
      rintro w B3 ⟨rfl, rfl⟩
      refine Wo.run hc 1 rfl rfl rfl ?_
      simp (maxSteps := 2000000) only [List.drop_zero, List.drop_succ_cons, List.take_succ_cons, List.take_zero, sev_tmp, sg_eq, sp_n, Nat.reduceLT, gd, want_free, rops, fx, Nat.zero_add, Option.some.injEq, exists_eq_left', Nat.reduceAdd]
      refine Wo.done hc rfl (hK _ _ ?_)
      clear hK
      (repeat (first | refine Rn.seq hc ?_ | refine Rn.skip hc ?_ | refine Rn.block hc ?_ | refine Rn.inBlock hc ?_ | refine Rn.scope hc ?_ | refine Rn.inScope hc ?_))
      exact Rn.ret (endQ_tmp rfl ⟨by simp only [sg_eq, sp_n, Nat.reduceLT], hx02⟩)
    · have h70 : (decide ((70 : Int) < sn) || decide ((130 : Int) < rn)) = false := by simpa using h70
      have h130 : decide ((130 : Int) < wn) = true := by simp at h70; simp; omega
      refine Wo.run hc 5 rfl rfl rfl ?_
      simp (maxSteps := 2000000) only [List.drop_zero, List.drop_succ_cons, List.take_succ_cons, List.take_zero, sev_tmp, sev_const, sg_eq, sg_ne, sp_n, Nat.reduceLT, ne_eq, Nat.reduceEqDiff, not_false_eq_true, gd, nth, want_free, want_slot, beqB, rops, fx, lng, pck, bin_gtr, Option.some.injEq, exists_eq_left', Nat.reduceAdd, un22, h70, h130]
      refine Wo.done hc rfl (hK _ _ ?_)
      clear hK
      (repeat (first | refine Rn.seq hc ?_ | refine Rn.skip hc ?_ | refine Rn.block hc ?_ | refine Rn.inBlock hc ?_ | refine Rn.scope hc ?_ | refine Rn.inScope hc ?_))
      refine Rn.condE hc rfl ?_
      simp only [sev_tmp, sg_eq, sp_n, Nat.reduceLT, Value.bool.injEq, exists_eq_left']
      (repeat (first | refine Rn.seq hc ?_ | refine Rn.skip hc ?_ | refine Rn.block hc ?_ | refine Rn.inBlock hc ?_ | refine Rn.scope hc ?_ | refine Rn.inScope hc ?_))
      refine Rn.region hc fun K hK => ?_
      refine Wo.call hc (by rfl) (by rfl) ⟨by rfl, by rfl⟩ (xs := []) (by rfl) (by rfl) (by rfl) (Con.mono (awake_con A2) ?_)
      rintro w B3 ⟨rfl, rfl⟩
      refine Wo.run hc 1 rfl rfl rfl ?_
      simp (maxSteps := 2000000) only [List.drop_zero, List.drop_succ_cons, List.take_succ_cons, List.take_zero, sev_tmp, sg_eq, sp_n, Nat.reduceLT, gd, want_free, rops, fx, Nat.zero_add, Option.some.injEq, exists_eq_left', Nat.reduceAdd]
      refine Wo.done hc rfl (hK _ _ ?_)
      clear hK
      (repeat (first | refine Rn.seq hc ?_ | refine Rn.skip hc ?_ | refine Rn.block hc ?_ | refine Rn.inBlock hc ?_ | refine Rn.scope hc ?_ | refine Rn.inScope hc ?_))
      exact Rn.ret (endQ_tmp rfl ⟨by simp only [sg_eq, sp_n, Nat.reduceLT], hx02⟩)
  · have h1 : (decide ((70 : Int) < sn) || decide ((130 : Int) < rn)) = false := by simp; omega
    have h2 : decide ((130 : Int) < wn) = false := by simp; omega
    refine Wo.run hc 5 rfl rfl rfl ?_
    simp (maxSteps := 2000000) only [List.drop_zero, List.drop_succ_cons, List.take_succ_cons, List.take_zero, sev_tmp, sev_const, sg_eq, sg_ne, sp_n, Nat.reduceLT, ne_eq, Nat.reduceEqDiff, not_false_eq_true, gd, nth, want_free, want_slot, beqB, rops, fx, lng, pck, bin_gtr, Option.some.injEq, exists_eq_left', Nat.reduceAdd, un22, h1, h2]
    refine Wo.done hc rfl (hK _ _ ?_)
    clear hK
    (repeat (first | refine Rn.seq hc ?_ | refine Rn.skip hc ?_ | refine Rn.block hc ?_ | refine Rn.inBlock hc ?_ | refine Rn.scope hc ?_ | refine Rn.inScope hc ?_))
    refine Rn.condE hc rfl ?_
    simp only [sev_tmp, sg_eq, sp_n, Nat.reduceLT, Value.bool.injEq, exists_eq_left']
    (repeat (first | refine Rn.seq hc ?_ | refine Rn.skip hc ?_ | refine Rn.block hc ?_ | refine Rn.inBlock hc ?_ | refine Rn.scope hc ?_ | refine Rn.inScope hc ?_))
    obtain ⟨st, ro, word, rfl, rfl, rfl, hs, hr, hwd⟩ := hmem (by omega) (by omega) (by omega)
    have b0 := (hx2.cl (show A.next < A1.next by omega) 0).trans b0
    have b1 := (hx2.cl (show A.next < A1.next by omega) 1).trans b1
    have b2 := (hx2.cl (show A.next < A1.next by omega) 2).trans b2
    have n02 : A.next < A2.next := by have := hx2.next; omega
    refine Rn.region hc fun K hK => ?_
    refine Wo.run hc 1 rfl rfl rfl ?_
    simp (maxSteps := 2000000) only [List.drop_zero, List.take_succ_cons, List.take_zero, sev_tmp, sg_eq, sg_ne, sp_n, Nat.reduceLT, ne_eq, Nat.reduceEqDiff, not_false_eq_true, gd, want_free, rops, fx, ld, adr_p, cls, Nat.zero_add, Option.some.injEq, exists_eq_left', Nat.reduceAdd, tk24, b0, b1, b2]
    refine Wo.call hc (by rfl) (by rfl) ⟨by rfl, by rfl⟩ (xs := [.agg #[.int .i64 m, .slice sa st.length sc, .slice ra ro.length rc]]) (by first | rfl | (simp only [sev_tmp, sev_const, sev_func, sg_eq, sg_ne, sp_n, sp_none, Nat.reduceLT, ne_eq, Nat.reduceEqDiff, not_false_eq_true, gd, nth, want_free, want_slot, beqB, List.map_cons, List.map_nil, Array.toList_empty, List.nil_append, List.append_nil, List.cons_append]; done) | (simp only [sev_tmp, sev_const, sev_func, sg_eq, sg_ne, sp_n, sp_none, Nat.reduceLT, ne_eq, Nat.reduceEqDiff, not_false_eq_true, gd, nth, want_free, want_slot, beqB, List.map_cons, List.map_nil, Array.toList_empty, List.nil_append, List.append_nil, List.cons_append]; rfl)) (by first | rfl | (simp only [sev_tmp, sev_const, sev_func, sg_eq, sg_ne, sp_n, sp_none, Nat.reduceLT, ne_eq, Nat.reduceEqDiff, not_false_eq_true, gd, nth, want_free, want_slot, beqB, List.map_cons, List.map_nil, Array.toList_empty, List.nil_append, List.append_nil, List.cons_append]; done) | (simp only [sev_tmp, sev_const, sev_func, sg_eq, sg_ne, sp_n, sp_none, Nat.reduceLT, ne_eq, Nat.reduceEqDiff, not_false_eq_true, gd, nth, want_free, want_slot, beqB, List.map_cons, List.map_nil, Array.toList_empty, List.nil_append, List.append_nil, List.cons_append]; rfl)) (by first | rfl | (simp only [sev_tmp, sev_const, sev_func, sg_eq, sg_ne, sp_n, sp_none, Nat.reduceLT, ne_eq, Nat.reduceEqDiff, not_false_eq_true, gd, nth, want_free, want_slot, beqB, List.map_cons, List.map_nil, Array.toList_empty, List.nil_append, List.append_nil, List.cons_append]; done) | (simp only [sev_tmp, sev_const, sev_func, sg_eq, sg_ne, sp_n, sp_none, Nat.reduceLT, ne_eq, Nat.reduceEqDiff, not_false_eq_true, gd, nth, want_free, want_slot, beqB, List.map_cons, List.map_nil, Array.toList_empty, List.nil_append, List.append_nil, List.cons_append]; rfl)) (Con.mono (own_lasso hx2.wf ((hs.nx hx02 (Nat.le_refl _)).mono (Nat.le_refl _) hx02.next) ((hr.nx hx02 (Nat.le_refl _)).mono (Nat.le_refl _) hx02.next) (by omega) (by omega)) ?_)
    rintro w A3 ⟨xa, xc, ya, yc, rfl, hxc, hyc, hx3, hi1, hi2, hl1, hl2⟩
    have hx03 : Nx A.next A A3 := hx02.trans (hx3.le hx02.next)
    refine Wo.run hc 1 rfl rfl rfl ?_
    simp (maxSteps := 2000000) only [List.drop_zero, List.drop_succ_cons, List.take_succ_cons, List.take_zero, sev_tmp, sg_eq, sg_ne, sp_n, Nat.reduceLT, ne_eq, Nat.reduceEqDiff, not_false_eq_true, gd, want_free, rops, fx, Option.some.injEq, exists_eq_left', Nat.reduceAdd]
    refine Wo.call hc (by rfl) (by rfl) ⟨by rfl, by rfl⟩ (xs := [.slice wa word.length wc]) (by first | rfl | (simp only [sev_tmp, sev_const, sev_func, sg_eq, sg_ne, sp_n, sp_none, Nat.reduceLT, ne_eq, Nat.reduceEqDiff, not_false_eq_true, gd, nth, want_free, want_slot, beqB, List.map_cons, List.map_nil, Array.toList_empty, List.nil_append, List.append_nil, List.cons_append]; done) | (simp only [sev_tmp, sev_const, sev_func, sg_eq, sg_ne, sp_n, sp_none, Nat.reduceLT, ne_eq, Nat.reduceEqDiff, not_false_eq_true, gd, nth, want_free, want_slot, beqB, List.map_cons, List.map_nil, Array.toList_empty, List.nil_append, List.append_nil, List.cons_append]; rfl)) (by first | rfl | (simp only [sev_tmp, sev_const, sev_func, sg_eq, sg_ne, sp_n, sp_none, Nat.reduceLT, ne_eq, Nat.reduceEqDiff, not_false_eq_true, gd, nth, want_free, want_slot, beqB, List.map_cons, List.map_nil, Array.toList_empty, List.nil_append, List.append_nil, List.cons_append]; done) | (simp only [sev_tmp, sev_const, sev_func, sg_eq, sg_ne, sp_n, sp_none, Nat.reduceLT, ne_eq, Nat.reduceEqDiff, not_false_eq_true, gd, nth, want_free, want_slot, beqB, List.map_cons, List.map_nil, Array.toList_empty, List.nil_append, List.append_nil, List.cons_append]; rfl)) (by first | rfl | (simp only [sev_tmp, sev_const, sev_func, sg_eq, sg_ne, sp_n, sp_none, Nat.reduceLT, ne_eq, Nat.reduceEqDiff, not_false_eq_true, gd, nth, want_free, want_slot, beqB, List.map_cons, List.map_nil, Array.toList_empty, List.nil_append, List.append_nil, List.cons_append]; done) | (simp only [sev_tmp, sev_const, sev_func, sg_eq, sg_ne, sp_n, sp_none, Nat.reduceLT, ne_eq, Nat.reduceEqDiff, not_false_eq_true, gd, nth, want_free, want_slot, beqB, List.map_cons, List.map_nil, Array.toList_empty, List.nil_append, List.append_nil, List.cons_append]; rfl)) (Con.mono (dup_ints hx3.wf ((hwd.nx hx03 (Nat.le_refl _)).mono (Nat.le_refl _) hx03.next) (by omega)) ?_)
    rintro w A4 ⟨oa, oc, rfl, hoc, hx4, hi3, hl3⟩
    have hx04 : Nx A.next A A4 := hx03.trans (hx4.le hx03.next)
    obtain ⟨A5, p5, hx5, hn5, d0, d1, d2⟩ := put24 hx4.wf (v0 := .int .i64 m) (v1 := .slice xa st.length xc) (v2 := .slice ya ro.length yc) rfl
    have hx05 : Nx A.next A A5 := hx04.trans (hx5.le hx04.next)
    refine Wo.run hc 3 rfl rfl rfl ?_
    simp (maxSteps := 2000000) only [List.drop_zero, List.drop_succ_cons, List.take_succ_cons, List.take_zero, sev_tmp, sg_eq, sg_ne, sp_n, sp_none, Nat.reduceLT, ne_eq, Nat.reduceEqDiff, not_false_eq_true, gd, want_free, rops, fx, str, adr_p, Nat.zero_add, Option.some.injEq, exists_eq_left', Value.cells, Nat.reduceAdd, tk24, ze24, p5, List.size_toArray, List.length_cons, List.length_nil, Nat.beq_refl]
    refine Wo.done hc rfl (hK _ _ ?_)
    clear hK
    (repeat (first | refine Rn.seq hc ?_ | refine Rn.skip hc ?_ | refine Rn.block hc ?_ | refine Rn.inBlock hc ?_ | refine Rn.scope hc ?_ | refine Rn.inScope hc ?_))
    have hx35 : Nx A3.next A3 A5 := hx4.trans (hx5.le hx4.next)
    have x1 : Ints A5 xa 0 A5.next st := ((hi1.nx hx35 (Nat.le_refl _)).mono (Nat.zero_le _) hx35.next)
    have x2 : Ints A5 ya 0 A5.next ro := ((hi2.nx hx35 (Nat.le_refl _)).mono (Nat.zero_le _) hx35.next)
    have x3 : Ints A5 oa 0 A5.next word := ((hi3.nx hx5 (Nat.le_refl _)).mono (Nat.zero_le _) hx5.next)
    have y1 : Sl A5 xa 0 := (hl1.nx hx3.wf hx35).mono (Nat.zero_le _)
    have y2 : Sl A5 ya 0 := (hl2.nx hx3.wf hx35).mono (Nat.zero_le _)
    have a1 : Ints A5 sa 0 A5.next st := (hs.nx hx05 (Nat.le_refl _)).mono (Nat.le_refl _) hx05.next
    have a2 : Ints A5 ra 0 A5.next ro := (hr.nx hx05 (Nat.le_refl _)).mono (Nat.le_refl _) hx05.next
    have a3 : Ints A5 wa 0 A5.next word := (hwd.nx hx05 (Nat.le_refl _)).mono (Nat.le_refl _) hx05.next
    have hx25 : Nx A2.next A2 A5 := hx3.trans (hx35.le hx3.next)
    have b0 := (hx25.cl n02 0).trans b0
    have b1 := (hx25.cl n02 1).trans b1
    have b2 := (hx25.cl n02 2).trans b2
    have n05 : A.next < A5.next := by have := hx25.next; omega
    have n45 : A4.next < A5.next := by omega
    obtain ⟨fp, fe, hf⟩ := findV_two m st ro word
    obtain ⟨cp, ce, hcv⟩ := countV_two m v n st ro
    refine Rn.region hc fun K hK => ?_
    refine Wo.run hc 2 rfl rfl rfl ?_
    simp (maxSteps := 2000000) only [List.drop_zero, List.take_succ_cons, List.take_zero, sev_tmp, sg_eq, sg_ne, sp_n, Nat.reduceLT, ne_eq, Nat.reduceEqDiff, not_false_eq_true, gd, want_free, rops, fx, ld, adr_p, cls, Nat.zero_add, Option.some.injEq, exists_eq_left', Nat.reduceAdd, tk24, d0, d1, d2]
    refine Wo.call hc (by rfl) (by rfl) ⟨by rfl, by rfl⟩ (xs := [.agg #[.int .i64 m, .slice xa st.length xc, .slice ya ro.length yc], .slice oa word.length oc]) (by first | rfl | (simp only [sev_tmp, sev_const, sev_func, sg_eq, sg_ne, sp_n, sp_none, Nat.reduceLT, ne_eq, Nat.reduceEqDiff, not_false_eq_true, gd, nth, want_free, want_slot, beqB, List.map_cons, List.map_nil, Array.toList_empty, List.nil_append, List.append_nil, List.cons_append]; done) | (simp only [sev_tmp, sev_const, sev_func, sg_eq, sg_ne, sp_n, sp_none, Nat.reduceLT, ne_eq, Nat.reduceEqDiff, not_false_eq_true, gd, nth, want_free, want_slot, beqB, List.map_cons, List.map_nil, Array.toList_empty, List.nil_append, List.append_nil, List.cons_append]; rfl)) (by first | rfl | (simp only [sev_tmp, sev_const, sev_func, sg_eq, sg_ne, sp_n, sp_none, Nat.reduceLT, ne_eq, Nat.reduceEqDiff, not_false_eq_true, gd, nth, want_free, want_slot, beqB, List.map_cons, List.map_nil, Array.toList_empty, List.nil_append, List.append_nil, List.cons_append]; done) | (simp only [sev_tmp, sev_const, sev_func, sg_eq, sg_ne, sp_n, sp_none, Nat.reduceLT, ne_eq, Nat.reduceEqDiff, not_false_eq_true, gd, nth, want_free, want_slot, beqB, List.map_cons, List.map_nil, Array.toList_empty, List.nil_append, List.append_nil, List.cons_append]; rfl)) (by first | rfl | (simp only [sev_tmp, sev_const, sev_func, sg_eq, sg_ne, sp_n, sp_none, Nat.reduceLT, ne_eq, Nat.reduceEqDiff, not_false_eq_true, gd, nth, want_free, want_slot, beqB, List.map_cons, List.map_nil, Array.toList_empty, List.nil_append, List.append_nil, List.cons_append]; done) | (simp only [sev_tmp, sev_const, sev_func, sg_eq, sg_ne, sp_n, sp_none, Nat.reduceLT, ne_eq, Nat.reduceEqDiff, not_false_eq_true, gd, nth, want_free, want_slot, beqB, List.map_cons, List.map_nil, Array.toList_empty, List.nil_append, List.append_nil, List.cons_append]; rfl)) (Con.mono (find_stream hx5.wf x1 x2 x3 (by omega) (by omega) (by omega)) ?_)
    rintro w A6 ⟨rfl, hx6⟩
    rw [hf]
    refine Wo.run hc 5 rfl rfl rfl ?_
    simp (maxSteps := 2000000) only [List.drop_zero, List.drop_succ_cons, List.take_succ_cons, List.take_zero, sev_tmp, sg_eq, sg_ne, sp_n, Nat.reduceLT, ne_eq, Nat.reduceEqDiff, not_false_eq_true, gd, want_free, rops, fx, ext, List.getElem?_toArray, List.getElem?_cons_zero, List.getElem?_cons_succ, Option.some.injEq, exists_eq_left', Nat.reduceAdd]
    refine Wo.done hc rfl (hK _ _ ?_)
    clear hK
    (repeat (first | refine Rn.seq hc ?_ | refine Rn.skip hc ?_ | refine Rn.block hc ?_ | refine Rn.inBlock hc ?_ | refine Rn.scope hc ?_ | refine Rn.inScope hc ?_))
    have b0' := (hx6.cl n05 0).trans b0
    have b1' := (hx6.cl n05 1).trans b1
    have b2' := (hx6.cl n05 2).trans b2
    refine Rn.region hc fun K hK => ?_
    refine Wo.run hc 2 rfl rfl rfl ?_
    simp (maxSteps := 2000000) only [List.drop_zero, List.take_succ_cons, List.take_zero, sev_tmp, sg_eq, sg_ne, sp_n, Nat.reduceLT, ne_eq, Nat.reduceEqDiff, not_false_eq_true, gd, want_free, rops, fx, ld, adr_p, cls, Nat.zero_add, Option.some.injEq, exists_eq_left', Nat.reduceAdd, tk24, b0', b1', b2']
    refine Wo.call hc (by rfl) (by rfl) ⟨by rfl, by rfl⟩ (xs := [.agg #[.int .i64 m, .slice sa st.length sc, .slice ra ro.length rc], .slice wa word.length wc]) (by first | rfl | (simp only [sev_tmp, sev_const, sev_func, sg_eq, sg_ne, sp_n, sp_none, Nat.reduceLT, ne_eq, Nat.reduceEqDiff, not_false_eq_true, gd, nth, want_free, want_slot, beqB, List.map_cons, List.map_nil, Array.toList_empty, List.nil_append, List.append_nil, List.cons_append]; done) | (simp only [sev_tmp, sev_const, sev_func, sg_eq, sg_ne, sp_n, sp_none, Nat.reduceLT, ne_eq, Nat.reduceEqDiff, not_false_eq_true, gd, nth, want_free, want_slot, beqB, List.map_cons, List.map_nil, Array.toList_empty, List.nil_append, List.append_nil, List.cons_append]; rfl)) (by first | rfl | (simp only [sev_tmp, sev_const, sev_func, sg_eq, sg_ne, sp_n, sp_none, Nat.reduceLT, ne_eq, Nat.reduceEqDiff, not_false_eq_true, gd, nth, want_free, want_slot, beqB, List.map_cons, List.map_nil, Array.toList_empty, List.nil_append, List.append_nil, List.cons_append]; done) | (simp only [sev_tmp, sev_const, sev_func, sg_eq, sg_ne, sp_n, sp_none, Nat.reduceLT, ne_eq, Nat.reduceEqDiff, not_false_eq_true, gd, nth, want_free, want_slot, beqB, List.map_cons, List.map_nil, Array.toList_empty, List.nil_append, List.append_nil, List.cons_append]; rfl)) (by first | rfl | (simp only [sev_tmp, sev_const, sev_func, sg_eq, sg_ne, sp_n, sp_none, Nat.reduceLT, ne_eq, Nat.reduceEqDiff, not_false_eq_true, gd, nth, want_free, want_slot, beqB, List.map_cons, List.map_nil, Array.toList_empty, List.nil_append, List.append_nil, List.cons_append]; done) | (simp only [sev_tmp, sev_const, sev_func, sg_eq, sg_ne, sp_n, sp_none, Nat.reduceLT, ne_eq, Nat.reduceEqDiff, not_false_eq_true, gd, nth, want_free, want_slot, beqB, List.map_cons, List.map_nil, Array.toList_empty, List.nil_append, List.append_nil, List.cons_append]; rfl)) (Con.mono (find_ref hx6.wf ((a1.nx hx6 (Nat.le_refl _)).mono (Nat.le_refl _) hx6.next) ((a2.nx hx6 (Nat.le_refl _)).mono (Nat.le_refl _) hx6.next) ((a3.nx hx6 (Nat.le_refl _)).mono (Nat.le_refl _) hx6.next) (by omega) (by omega) (by omega)) ?_)
    rintro w A7 ⟨rfl, hx7⟩
    rw [hf]
    refine Wo.run hc 5 rfl rfl rfl ?_
    simp (maxSteps := 2000000) only [List.drop_zero, List.drop_succ_cons, List.take_succ_cons, List.take_zero, sev_tmp, sg_eq, sg_ne, sp_n, Nat.reduceLT, ne_eq, Nat.reduceEqDiff, not_false_eq_true, gd, want_free, rops, fx, ext, List.getElem?_toArray, List.getElem?_cons_zero, List.getElem?_cons_succ, Option.some.injEq, exists_eq_left', Nat.reduceAdd]
    refine Wo.done hc rfl (hK _ _ ?_)
    clear hK
    (repeat (first | refine Rn.seq hc ?_ | refine Rn.skip hc ?_ | refine Rn.block hc ?_ | refine Rn.inBlock hc ?_ | refine Rn.scope hc ?_ | refine Rn.inScope hc ?_))
    have hx57 : Nx A5.next A5 A7 := hx6.trans (hx7.le hx6.next)
    have d0' := (hx57.cl n45 0).trans d0
    have d1' := (hx57.cl n45 1).trans d1
    have d2' := (hx57.cl n45 2).trans d2
    refine Rn.region hc fun K hK => ?_
    refine Wo.run hc 3 rfl rfl rfl ?_
    simp (maxSteps := 2000000) only [List.drop_zero, List.take_succ_cons, List.take_zero, sev_tmp, sg_eq, sg_ne, sp_n, Nat.reduceLT, ne_eq, Nat.reduceEqDiff, not_false_eq_true, gd, want_free, rops, fx, ld, adr_p, cls, Nat.zero_add, Option.some.injEq, exists_eq_left', Nat.reduceAdd, tk24, d0', d1', d2']
    refine Wo.call hc (by rfl) (by rfl) ⟨by rfl, by rfl⟩ (xs := [.agg #[.int .i64 m, .slice xa st.length xc, .slice ya ro.length yc], .int .i64 v, .int .i64 n]) (by first | rfl | (simp only [sev_tmp, sev_const, sev_func, sg_eq, sg_ne, sp_n, sp_none, Nat.reduceLT, ne_eq, Nat.reduceEqDiff, not_false_eq_true, gd, nth, want_free, want_slot, beqB, List.map_cons, List.map_nil, Array.toList_empty, List.nil_append, List.append_nil, List.cons_append]; done) | (simp only [sev_tmp, sev_const, sev_func, sg_eq, sg_ne, sp_n, sp_none, Nat.reduceLT, ne_eq, Nat.reduceEqDiff, not_false_eq_true, gd, nth, want_free, want_slot, beqB, List.map_cons, List.map_nil, Array.toList_empty, List.nil_append, List.append_nil, List.cons_append]; rfl)) (by first | rfl | (simp only [sev_tmp, sev_const, sev_func, sg_eq, sg_ne, sp_n, sp_none, Nat.reduceLT, ne_eq, Nat.reduceEqDiff, not_false_eq_true, gd, nth, want_free, want_slot, beqB, List.map_cons, List.map_nil, Array.toList_empty, List.nil_append, List.append_nil, List.cons_append]; done) | (simp only [sev_tmp, sev_const, sev_func, sg_eq, sg_ne, sp_n, sp_none, Nat.reduceLT, ne_eq, Nat.reduceEqDiff, not_false_eq_true, gd, nth, want_free, want_slot, beqB, List.map_cons, List.map_nil, Array.toList_empty, List.nil_append, List.append_nil, List.cons_append]; rfl)) (by first | rfl | (simp only [sev_tmp, sev_const, sev_func, sg_eq, sg_ne, sp_n, sp_none, Nat.reduceLT, ne_eq, Nat.reduceEqDiff, not_false_eq_true, gd, nth, want_free, want_slot, beqB, List.map_cons, List.map_nil, Array.toList_empty, List.nil_append, List.append_nil, List.cons_append]; done) | (simp only [sev_tmp, sev_const, sev_func, sg_eq, sg_ne, sp_n, sp_none, Nat.reduceLT, ne_eq, Nat.reduceEqDiff, not_false_eq_true, gd, nth, want_free, want_slot, beqB, List.map_cons, List.map_nil, Array.toList_empty, List.nil_append, List.append_nil, List.cons_append]; rfl)) (Con.mono (count_stream hx7.wf ((x1.nx hx57 (Nat.le_refl _)).mono (Nat.le_refl _) hx57.next) ((x2.nx hx57 (Nat.le_refl _)).mono (Nat.le_refl _) hx57.next) (by omega) (by omega) (y1.nx hx5.wf hx57) (y2.nx hx5.wf hx57) hxc hyc hn63) ?_)
    rintro w A8 ⟨rfl, hx8⟩
    rw [hcv]
    refine Wo.run hc 5 rfl rfl rfl ?_
    simp (maxSteps := 2000000) only [List.drop_zero, List.drop_succ_cons, List.take_succ_cons, List.take_zero, sev_tmp, sg_eq, sg_ne, sp_n, Nat.reduceLT, ne_eq, Nat.reduceEqDiff, not_false_eq_true, gd, want_free, rops, fx, ext, List.getElem?_toArray, List.getElem?_cons_zero, List.getElem?_cons_succ, Option.some.injEq, exists_eq_left', Nat.reduceAdd]
    refine Wo.done hc rfl (hK _ _ ?_)
    clear hK
    (repeat (first | refine Rn.seq hc ?_ | refine Rn.skip hc ?_ | refine Rn.block hc ?_ | refine Rn.inBlock hc ?_ | refine Rn.scope hc ?_ | refine Rn.inScope hc ?_))
    have hx58 : Nx A5.next A5 A8 := hx57.trans (hx8.le hx57.next)
    have b0'' := (hx58.cl n05 0).trans b0
    have b1'' := (hx58.cl n05 1).trans b1
    have b2'' := (hx58.cl n05 2).trans b2
    refine Rn.region hc fun K hK => ?_
    refine Wo.run hc 3 rfl rfl rfl ?_
    simp (maxSteps := 2000000) only [List.drop_zero, List.take_succ_cons, List.take_zero, sev_tmp, sg_eq, sg_ne, sp_n, Nat.reduceLT, ne_eq, Nat.reduceEqDiff, not_false_eq_true, gd, want_free, rops, fx, ld, adr_p, cls, Nat.zero_add, Option.some.injEq, exists_eq_left', Nat.reduceAdd, tk24, b0'', b1'', b2'']
    refine Wo.call hc (by rfl) (by rfl) ⟨by rfl, by rfl⟩ (xs := [.agg #[.int .i64 m, .slice sa st.length sc, .slice ra ro.length rc], .int .i64 v, .int .i64 n]) (by first | rfl | (simp only [sev_tmp, sev_const, sev_func, sg_eq, sg_ne, sp_n, sp_none, Nat.reduceLT, ne_eq, Nat.reduceEqDiff, not_false_eq_true, gd, nth, want_free, want_slot, beqB, List.map_cons, List.map_nil, Array.toList_empty, List.nil_append, List.append_nil, List.cons_append]; done) | (simp only [sev_tmp, sev_const, sev_func, sg_eq, sg_ne, sp_n, sp_none, Nat.reduceLT, ne_eq, Nat.reduceEqDiff, not_false_eq_true, gd, nth, want_free, want_slot, beqB, List.map_cons, List.map_nil, Array.toList_empty, List.nil_append, List.append_nil, List.cons_append]; rfl)) (by first | rfl | (simp only [sev_tmp, sev_const, sev_func, sg_eq, sg_ne, sp_n, sp_none, Nat.reduceLT, ne_eq, Nat.reduceEqDiff, not_false_eq_true, gd, nth, want_free, want_slot, beqB, List.map_cons, List.map_nil, Array.toList_empty, List.nil_append, List.append_nil, List.cons_append]; done) | (simp only [sev_tmp, sev_const, sev_func, sg_eq, sg_ne, sp_n, sp_none, Nat.reduceLT, ne_eq, Nat.reduceEqDiff, not_false_eq_true, gd, nth, want_free, want_slot, beqB, List.map_cons, List.map_nil, Array.toList_empty, List.nil_append, List.append_nil, List.cons_append]; rfl)) (by first | rfl | (simp only [sev_tmp, sev_const, sev_func, sg_eq, sg_ne, sp_n, sp_none, Nat.reduceLT, ne_eq, Nat.reduceEqDiff, not_false_eq_true, gd, nth, want_free, want_slot, beqB, List.map_cons, List.map_nil, Array.toList_empty, List.nil_append, List.append_nil, List.cons_append]; done) | (simp only [sev_tmp, sev_const, sev_func, sg_eq, sg_ne, sp_n, sp_none, Nat.reduceLT, ne_eq, Nat.reduceEqDiff, not_false_eq_true, gd, nth, want_free, want_slot, beqB, List.map_cons, List.map_nil, Array.toList_empty, List.nil_append, List.append_nil, List.cons_append]; rfl)) (Con.mono (count_ref hx8.wf ((a1.nx hx58 (Nat.le_refl _)).mono (Nat.le_refl _) hx58.next) ((a2.nx hx58 (Nat.le_refl _)).mono (Nat.le_refl _) hx58.next) (by omega) (by omega) hn63) ?_)
    rintro w A9 ⟨rfl, hx9⟩
    rw [hcv]
    refine Wo.run hc 5 rfl rfl rfl ?_
    simp (maxSteps := 2000000) only [List.drop_zero, List.drop_succ_cons, List.take_succ_cons, List.take_zero, sev_tmp, sg_eq, sg_ne, sp_n, Nat.reduceLT, ne_eq, Nat.reduceEqDiff, not_false_eq_true, gd, want_free, rops, fx, ext, List.getElem?_toArray, List.getElem?_cons_zero, List.getElem?_cons_succ, Option.some.injEq, exists_eq_left', Nat.reduceAdd]
    refine Wo.done hc rfl (hK _ _ ?_)
    clear hK
    (repeat (first | refine Rn.seq hc ?_ | refine Rn.skip hc ?_ | refine Rn.block hc ?_ | refine Rn.inBlock hc ?_ | refine Rn.scope hc ?_ | refine Rn.inScope hc ?_))
    have hx59 : Nx A5.next A5 A9 := hx58.trans (hx9.le hx58.next)
    have i0 := (hx59.cl n05 0).trans b0
    have i1 := (hx59.cl n05 1).trans b1
    have i2 := (hx59.cl n05 2).trans b2
    have j0 := (hx59.cl n45 0).trans d0
    have j1 := (hx59.cl n45 1).trans d1
    have j2 := (hx59.cl n45 2).trans d2
    refine Rn.gen (I := fun s => s.n = 88 ∧ sget s 1 = .slice wa word.length wc ∧ sget s 4 = .pointer (some ⟨A.next, 0, none⟩) ∧ sget s 9 = .pointer (some ⟨A4.next, 0, none⟩) ∧ sget s 10 = .slice oa word.length oc ∧ sget s 11 = .int .i64 fp ∧ sget s 12 = .int .i64 fe ∧ sget s 13 = .int .i64 fp ∧ sget s 14 = .int .i64 fe ∧ sget s 15 = .int .i64 cp ∧ sget s 16 = .int .i64 ce ∧ sget s 17 = .int .i64 cp ∧ sget s 18 = .int .i64 ce)
      ⟨by simp only [sp_n], by simp only [sg_eq, sg_ne, sp_n, Nat.reduceLT, ne_eq, Nat.reduceEqDiff, not_false_eq_true], by simp only [sg_eq, sg_ne, sp_n, Nat.reduceLT, ne_eq, Nat.reduceEqDiff, not_false_eq_true], by simp only [sg_eq, sg_ne, sp_n, Nat.reduceLT, ne_eq, Nat.reduceEqDiff, not_false_eq_true], by simp only [sg_eq, sg_ne, sp_n, Nat.reduceLT, ne_eq, Nat.reduceEqDiff, not_false_eq_true], by simp only [sg_eq, sg_ne, sp_n, Nat.reduceLT, ne_eq, Nat.reduceEqDiff, not_false_eq_true], by simp only [sg_eq, sg_ne, sp_n, Nat.reduceLT, ne_eq, Nat.reduceEqDiff, not_false_eq_true], by simp only [sg_eq, sg_ne, sp_n, Nat.reduceLT, ne_eq, Nat.reduceEqDiff, not_false_eq_true], by simp only [sg_eq, sg_ne, sp_n, Nat.reduceLT, ne_eq, Nat.reduceEqDiff, not_false_eq_true], by simp only [sg_eq, sg_ne, sp_n, Nat.reduceLT, ne_eq, Nat.reduceEqDiff, not_false_eq_true], by simp only [sg_eq, sg_ne, sp_n, Nat.reduceLT, ne_eq, Nat.reduceEqDiff, not_false_eq_true], by simp only [sg_eq, sg_ne, sp_n, Nat.reduceLT, ne_eq, Nat.reduceEqDiff, not_false_eq_true], by simp only [sg_eq, sp_n, Nat.reduceLT]⟩ ?_
    rintro s ⟨hn, s1, s4, s9, s10, s11, s12, s13, s14, s15, s16, s17, s18⟩
    refine Rn.region hc fun K hK => ?_
    have t1 : decide (fp = fp) = true := by simp
    have t2 : decide (fe = fe) = true := by simp
    have t3 : decide (cp = cp) = true := by simp
    have t4 : decide (ce = ce) = true := by simp
    refine Wo.run hc 9 rfl rfl rfl ?_
    simp (maxSteps := 2000000) only [List.drop_zero, List.take_succ_cons, List.take_zero, sev_tmp, sg_eq, sg_ne, sp_n, Nat.reduceLT, ne_eq, Nat.reduceEqDiff, not_false_eq_true, gd, nth, want_free, want_slot, beqB, rops, fx, pck, bin_eql, Nat.zero_add, Option.some.injEq, exists_eq_left', hn, s11, s12, s13, s14, eq_self, decide_true]
    refine Wo.run hc 10 rfl rfl rfl ?_
    simp (maxSteps := 2000000) only [List.drop_zero, List.drop_succ_cons, List.take_succ_cons, List.take_zero, sev_tmp, sg_eq, sg_ne, sp_n, Nat.reduceLT, ne_eq, Nat.reduceEqDiff, not_false_eq_true, gd, nth, want_free, want_slot, beqB, rops, fx, pck, bin_eql, Option.some.injEq, exists_eq_left', Nat.reduceAdd, hn, s15, s16, s17, s18, eq_self, decide_true]
    refine Wo.run hc 2 rfl rfl rfl ?_
    simp (maxSteps := 2000000) only [List.drop_zero, List.drop_succ_cons, List.take_succ_cons, List.take_zero, sev_tmp, sg_eq, sg_ne, sp_n, Nat.reduceLT, ne_eq, Nat.reduceEqDiff, not_false_eq_true, gd, nth, want_slot, beqB, rops, fx, ld, adr_p, cls, Nat.zero_add, Option.some.injEq, exists_eq_left', Nat.reduceAdd, tk24, hn, s4, s9, i0, i1, i2, j0, j1, j2]
    refine Wo.call hc (by rfl) (by rfl) ⟨by rfl, by rfl⟩ (xs := [.agg #[.int .i64 m, .slice xa st.length xc, .slice ya ro.length yc], .agg #[.int .i64 m, .slice sa st.length sc, .slice ra ro.length rc]]) (by first | rfl | (simp only [sg_eq, sg_ne, sp_n, Nat.reduceLT, ne_eq, Nat.reduceEqDiff, not_false_eq_true, gd, nth, want_slot, beqB, hn]; done) | (simp only [sev_tmp, sev_const, sev_func, sg_eq, sg_ne, sp_n, sp_none, Nat.reduceLT, ne_eq, Nat.reduceEqDiff, not_false_eq_true, gd, nth, want_free, want_slot, beqB, List.map_cons, List.map_nil, Array.toList_empty, List.nil_append, List.append_nil, List.cons_append, hn]; rfl)) (by first | rfl | (simp only [sev_tmp, sev_const, sev_func, sg_eq, sg_ne, sp_n, sp_none, Nat.reduceLT, ne_eq, Nat.reduceEqDiff, not_false_eq_true, gd, nth, want_free, want_slot, beqB, List.map_cons, List.map_nil, Array.toList_empty, List.nil_append, List.append_nil, List.cons_append, hn]; done) | (simp only [sev_tmp, sev_const, sev_func, sg_eq, sg_ne, sp_n, sp_none, Nat.reduceLT, ne_eq, Nat.reduceEqDiff, not_false_eq_true, gd, nth, want_free, want_slot, beqB, List.map_cons, List.map_nil, Array.toList_empty, List.nil_append, List.append_nil, List.cons_append, hn]; rfl)) (by first | rfl | (simp only [sev_tmp, sg_eq, sg_ne, sp_n, Nat.reduceLT, ne_eq, Nat.reduceEqDiff, not_false_eq_true, List.map_cons, List.map_nil, List.nil_append, List.append_nil, hn]; done) | (simp only [sev_tmp, sev_const, sev_func, sg_eq, sg_ne, sp_n, sp_none, Nat.reduceLT, ne_eq, Nat.reduceEqDiff, not_false_eq_true, gd, nth, want_free, want_slot, beqB, List.map_cons, List.map_nil, Array.toList_empty, List.nil_append, List.append_nil, List.cons_append, hn]; rfl)) (Con.mono (same_lasso hx9.wf ((x1.nx hx59 (Nat.le_refl _)).mono (Nat.le_refl _) hx59.next) ((x2.nx hx59 (Nat.le_refl _)).mono (Nat.le_refl _) hx59.next) ((a1.nx hx59 (Nat.le_refl _)).mono (Nat.le_refl _) hx59.next) ((a2.nx hx59 (Nat.le_refl _)).mono (Nat.le_refl _) hx59.next) (by omega) (by omega) (by omega) (by omega)) ?_)
    rintro w B1 ⟨rfl, hy1⟩
    rw [show (decide (m = m) && (decide (st = st) && decide (ro = ro))) = true by simp]
    have hz1 : Nx A5.next A5 B1 := hx59.trans (hy1.le hx59.next)
    refine Wo.run hc 4 rfl rfl rfl ?_
    simp (maxSteps := 2000000) only [List.drop_zero, List.drop_succ_cons, List.take_succ_cons, List.take_zero, sev_tmp, sg_eq, sg_ne, sp_n, Nat.reduceLT, ne_eq, Nat.reduceEqDiff, not_false_eq_true, gd, nth, want_free, want_slot, beqB, rops, fx, pck, Option.some.injEq, exists_eq_left', Nat.reduceAdd, hn, s10, s1]
    refine Wo.call hc (by rfl) (by rfl) ⟨by rfl, by rfl⟩ (xs := [.slice oa word.length oc, .slice wa word.length wc]) (by first | rfl | (simp only [sg_eq, sg_ne, sp_n, Nat.reduceLT, ne_eq, Nat.reduceEqDiff, not_false_eq_true, gd, nth, want_slot, beqB, hn]; done) | (simp only [sev_tmp, sev_const, sev_func, sg_eq, sg_ne, sp_n, sp_none, Nat.reduceLT, ne_eq, Nat.reduceEqDiff, not_false_eq_true, gd, nth, want_free, want_slot, beqB, List.map_cons, List.map_nil, Array.toList_empty, List.nil_append, List.append_nil, List.cons_append, hn]; rfl)) (by first | rfl | (simp only [sev_tmp, sev_const, sev_func, sg_eq, sg_ne, sp_n, sp_none, Nat.reduceLT, ne_eq, Nat.reduceEqDiff, not_false_eq_true, gd, nth, want_free, want_slot, beqB, List.map_cons, List.map_nil, Array.toList_empty, List.nil_append, List.append_nil, List.cons_append, hn]; done) | (simp only [sev_tmp, sev_const, sev_func, sg_eq, sg_ne, sp_n, sp_none, Nat.reduceLT, ne_eq, Nat.reduceEqDiff, not_false_eq_true, gd, nth, want_free, want_slot, beqB, List.map_cons, List.map_nil, Array.toList_empty, List.nil_append, List.append_nil, List.cons_append, hn]; rfl)) (by first | rfl | (simp only [sev_tmp, sg_eq, sg_ne, sp_n, Nat.reduceLT, ne_eq, Nat.reduceEqDiff, not_false_eq_true, List.map_cons, List.map_nil, List.nil_append, List.append_nil, hn]; done) | (simp only [sev_tmp, sev_const, sev_func, sg_eq, sg_ne, sp_n, sp_none, Nat.reduceLT, ne_eq, Nat.reduceEqDiff, not_false_eq_true, gd, nth, want_free, want_slot, beqB, List.map_cons, List.map_nil, Array.toList_empty, List.nil_append, List.append_nil, List.cons_append, hn]; rfl)) (Con.mono (eq_ints hy1.wf ((x3.nx hz1 (Nat.le_refl _)).mono (Nat.le_refl _) hz1.next) ((a3.nx hz1 (Nat.le_refl _)).mono (Nat.le_refl _) hz1.next) (by omega) (by omega)) ?_)
    rintro w B2 ⟨rfl, hy2⟩
    rw [show decide (word = word) = true by simp]
    refine Wo.run hc 2 rfl rfl rfl ?_
    simp (maxSteps := 2000000) only [List.drop_zero, List.drop_succ_cons, List.take_succ_cons, List.take_zero, sev_tmp, sg_eq, sg_ne, sp_n, Nat.reduceLT, ne_eq, Nat.reduceEqDiff, not_false_eq_true, gd, want_free, rops, fx, pck, Option.some.injEq, exists_eq_left', Nat.reduceAdd, hn]
    refine Wo.call hc (by rfl) (by rfl) ⟨by rfl, by rfl⟩ (xs := []) (by simp only [sg_eq, sp_n, Nat.reduceLT, gd, nth, want_slot, beqB, hn]) (by rfl) (by rfl) (Con.mono (awake_con B2) ?_)
    rintro w B3 ⟨rfl, rfl⟩
    refine Wo.run hc 2 rfl rfl rfl ?_
    simp (maxSteps := 2000000) only [List.drop_zero, List.drop_succ_cons, List.take_succ_cons, List.take_zero, sev_tmp, sg_eq, sg_ne, sp_n, Nat.reduceLT, ne_eq, Nat.reduceEqDiff, not_false_eq_true, gd, want_free, rops, fx, pck, Option.some.injEq, exists_eq_left', Nat.reduceAdd, hn]
    refine Wo.done hc rfl (hK _ _ ?_)
    clear hK
    (repeat (first | refine Rn.seq hc ?_ | refine Rn.skip hc ?_ | refine Rn.block hc ?_ | refine Rn.inBlock hc ?_ | refine Rn.scope hc ?_ | refine Rn.inScope hc ?_))
    refine Rn.ret (endQ_tmp rfl ⟨?_, hx05.trans ((hz1.trans (hy2.le hz1.next)).le hx05.next)⟩)
    simp only [sg_eq, sp_n, Nat.reduceLT, hn]
end Go.Proofs.Ytdaljohmfnfgiaa
/- LassoFinds returns true from every world, and nothing old turns. No condition. -/
namespace Go.Proofs.Ytdaljohmfnfgiaa
open Go Go.RowKit Go.Proofs.Ytdaljohmfnfgiaa.Canon

/-- The numbers of a slice, in a world. -/
def IntsW (W : World) (a : Option Addr) (l : List Int) : Prop := ∀ i, i < l.length → ∃ b o, a = some ⟨b, o, none⟩ ∧ W.cell? ⟨b, o + i, none⟩ = some (.int .i64 (l.getD i 0))
theorem cell_heap {W : World} {b o : Nat} {v : Value} (h : W.cell? ⟨b, o, none⟩ = some v) : ∃ c t f, W.heap[b]? = some (.cells c t f) ∧ c[o]? = some v := by
  unfold World.cell? at h
  cases hb : W.heap[b]? with
  | none => simp [hb] at h
  | some x =>
    cases x <;> simp [hb] at h
    exact ⟨_, _, _, rfl, h⟩
theorem IntsW.ints {W : World} {z : Nat} {A : AHeap} (hA : In W z A) {a : Option Addr} {l : List Int} (h : IntsW W a l) : Ints A a 0 A.next l := fun i hi => by
  obtain ⟨b, o, rfl, hc⟩ := h i hi
  obtain ⟨c, t, f, h1, h2⟩ := cell_heap hc
  have hlt : b < W.heap.size := (Array.getElem?_eq_some_iff.1 h1).1
  exact ⟨b, o, rfl, Nat.zero_le _, by rw [hA.next]; have := hA.big; omega, hA.cl h1 h2 rfl⟩
def blkOf : Option Addr → Nat
  | some a => a.block + 1
  | none => 0
theorem roV_slice {z : Nat} {a : Option Addr} {n c : Nat} (hs : ∀ x, a = some x → x.spot = none) (hb : blkOf a ≤ z) : roV z (.slice a n c) = true := by
  cases a with
  | none => rfl
  | some x =>
    obtain ⟨b, o, s⟩ := x
    have := hs _ rfl
    simp only at this
    subst this
    have hb : b + 1 ≤ z := hb
    show Nat.blt b z = true
    rw [Nat.blt_eq]
    omega
theorem finds_any {W : World} {m v n : Int} {sa ra wa : Option Addr} {sn sc rn rc wn wc : Nat} (hn63 : n < 9223372036854775808)
    (h1 : ∀ x, sa = some x → x.spot = none) (h2 : ∀ x, ra = some x → x.spot = none) (h3 : ∀ x, wa = some x → x.spot = none)
    (k1 : ∃ l : List Int, l.length = sn ∧ IntsW W sa l) (k2 : ∃ l : List Int, l.length = rn ∧ IntsW W ra l) (k3 : ∃ l : List Int, l.length = wn ∧ IntsW W wa l) :
    Calls Try.prog 8 #[.agg #[.int .i64 m, .slice sa sn sc, .slice ra rn rc], .slice wa wn wc, .int .i64 v, .int .i64 n] W (fun e w' => e = .returned (.bool true) ∧ Below W.heap.size W w') := by
  obtain ⟨A, hA⟩ := in_any W (W.heap.size + 1 + blkOf sa + blkOf ra + blkOf wa) (by omega) (by omega)
  obtain ⟨st, e1, i1⟩ := k1
  obtain ⟨ro, e2, i2⟩ := k2
  obtain ⟨word, e3, i3⟩ := k3
  refine calls_of_conF (t := 8) Try.func8 rfl hA (xs := [.agg #[.int .i64 m, .slice sa sn sc, .slice ra rn rc], .slice wa wn wc, .int .i64 v, .int .i64 n]) ?_
    (law_finds hA.wf hn63 fun _ _ _ => ⟨st, ro, word, e1, e2, e3, i1.ints hA, i2.ints hA, i3.ints hA⟩)
  have a1 : AR (inP (W.heap.size + 1 + blkOf sa + blkOf ra + blkOf wa)) #[.int .i64 m, .slice sa sn sc, .slice ra rn rc] #[.int .i64 m, .slice sa sn sc, .slice ra rn rc] :=
    ((AR.single (.int .i64 m)).push (inP_v (roV_slice h1 (by omega)))).push (inP_v (roV_slice h2 (by omega)))
  exact (((AR.single (.ofAgg a1)).push (inP_v (roV_slice h3 (by omega)))).push (.int .i64 v)).push (.int .i64 n)
end Go.Proofs.Ytdaljohmfnfgiaa
/- LassoFinds returns true for every input, and each argument reads afterwards as it read before. No condition. -/
namespace Go.Proofs.Ytdaljohmfnfgiaa
open Go.ChangeShapes Go.WideShapes Go.ChangeAt Go.RowKit Go.Proofs.Ytdaljohmfnfgiaa.Canon
open Go.Deep (open_slice_pairs open_slice)

theorem Try.own : ownKnob Try.prog.godebug = none := by kernel_rfl
theorem Try.laidOut : laidOutB Try.prog = true := by kernel_rfl
theorem Try.cells24 : Try.prog.cellsOf 24 = 3 := by kernel_rfl
theorem Try.cells3 : Try.prog.cellsOf 3 = 1 := by kernel_rfl
theorem Try.cells22 : Try.prog.cellsOf 22 = 1 := by kernel_rfl
theorem Try.types24 : Try.prog.cellTypes Try.prog.depth 24 = some [3, 22, 22] := by kernel_rfl

section
variable {H : Type} {enc : TypeId × Value → H} {P : Program}
/-- The row's last step, where of the world behind the call it is known that nothing old has turned. -/
theorem post_of_below {f : Func} {s : ChangeSpec} {apart fresh handsOn again : Bool} {W W' : World} {args : Array Value} {v : Value} {ds gs : List (DataW H)} {before pa pv : List MemPlace}
    (hW : DataW.Whole enc P f.params.toList s.vars apart W args.toList ds gs before)
    (hres : ∀ (b : Nat) (sp : Nat → Bool) (hd : Bool), DataW.TrodAll enc P W' b sp hd f.resultTypes.toList (v.resultList f.resultTypes.size) (s.fn H (ds ++ gs)).results [])
    (hargs : ∀ sp : Nat → Bool, (∀ p ∈ before, sp p.block = true) → DataW.TrodAll enc P W' 0 sp true f.params.toList args.toList (s.fn H (ds ++ gs)).args pa)
    (hvars : ∀ sp : Nat → Bool, (∀ p ∈ before, sp p.block = true) → DataW.TrodVars enc P W' sp s.vars (s.fn H (ds ++ gs)).vars pv)
    (hps : before = pa ++ pv) (hb : Below W.heap.size W W')
    (hok : ∀ (j : Nat) (t : TypeId) (r : Value), f.resultTypes[j]? = some t → (v.resultList f.resultTypes.size)[j]? = some r → Value.okWide P W' .any 0 t r) :
    s.post enc P f apart fresh handsOn again W args v W' := by
  have hlt : ∀ p ∈ before, p.block < W.heap.size := fun p hp => hW.lt p hp
  have hold : ∀ p ∈ before, (fun b => decide (b < W.heap.size)) p.block = true := fun p hp => by simpa using hlt p hp
  refine ⟨ds, gs, before, [], pa, pv, hW, hres _ _ _, hargs _ hold, hvars _ hold, World.keptBut_mono (fun p hp => ⟨hp, ?_⟩) (hb.frame (· ∈ before)), fun _ => ?_⟩
  · rw [hps, List.mem_append] at hp
    exact Or.inr hp
  · obtain ⟨_, _, _, _, _, hz, hn⟩ := hW
    refine ⟨hok, _, _, ([] ++ pa) ++ pv, ⟨[] ++ pa, pv, trodAll_append (hargs _ (fun _ _ => rfl)) (hres _ _ _), hvars _ (fun _ _ => rfl), rfl, ?_, ?_⟩, ?_⟩
    · intro b off hp
      have hin : MemPlace.cell b off ∈ before := by rw [hps]; simpa using hp
      rw [hb.frozen (hlt _ hin)]
      exact hz b off hin
    · intro ha
      have := hn ha
      rw [hps] at this
      simpa using this
    · intro p hp _
      rw [hps]
      simpa using hp
end

theorem cell_int {P : Program} {w : World} {b : Nat} {t : TypeId} (ht : P.underlying t = some (.int .i64)) {v : Value} (h : Cell.okWide P w .any b t v) : ∃ n, v = .int .i64 n := by
  unfold Cell.okWide at h
  rw [ht] at h
  cases v <;> simp [Cell.ok, ht] at h
  case int k n => obtain ⟨rfl, _⟩ := h; exact ⟨n, rfl⟩
theorem cell_str {P : Program} {w : World} {b : Nat} {t : TypeId} (ht : P.underlying t = some .string) {v : Value} (h : Cell.okWide P w .any b t v) : ∃ s, v = .string s := by
  unfold Cell.okWide at h
  rw [ht] at h
  cases v <;> simp [Cell.ok, ht] at h
  case string s => exact ⟨s, rfl⟩
theorem cell_slice {P : Program} {w : World} {b : Nat} {t e : TypeId} (ht : P.underlying t = some (.slice e)) {v : Value} (h : Cell.okWide P w .any b t v) : ∃ a n c, v = .slice a n c ∧ ∀ x, a = some x → x.spot = none := by
  unfold Cell.okWide at h
  rw [ht] at h
  cases v <;> simp [Cell.ok, ht] at h
  case slice a n c =>
    cases a with
    | none => exact ⟨none, n, c, rfl, fun x hx => by cases hx⟩
    | some a =>
      refine ⟨some a, n, c, rfl, fun x hx => ?_⟩
      cases hx
      simp only at h
      exact h.2.2.2.1
theorem val_cell {P : Program} {w : World} {b : Nat} {t e : TypeId} (ht : P.underlying t = some (.slice e)) {v : Value} (h : Value.okWide P w .any b t v) : Cell.okWide P w .any b t v := by
  unfold Value.okWide at h
  rw [ht] at h
  exact h
set_option maxRecDepth 100000 in
theorem val_slice {w : World} {b : Nat} {v : Value} (h : Value.okWide Try.prog w .any b 22 v) : ∃ a n c, v = .slice a n c ∧ ∀ x, a = some x → x.spot = none := cell_slice Try.underlying22 (val_cell Try.underlying22 h)
theorem lit_lt {n : Int} (h : (Lit.int .i64 n).wf = true) : n < 9223372036854775808 := by
  simp only [Lit.wf, Bool.and_eq_true, decide_eq_true_eq] at h
  have e : IntKind.i64.max = 9223372036854775807 := by rfl
  omega
theorem agg_cells {P : Program} {w : World} {b : Nat} {t : TypeId} {fs : Array Field} (ht : P.underlying t = some (.struct fs)) {v : Value} (h : Value.okWide P w .any b t v) : ∃ cs, v = .agg cs ∧ cs.size = P.cellsOf t ∧ Row.okWide P w .any b t cs := by
  unfold Value.okWide at h
  rw [ht] at h
  exact h

theorem row_cells {P : Program} {w : World} {b : Nat} {t : TypeId} {cs : Array Value} {ts : List TypeId} (hts : P.cellTypes P.depth t = some ts) (h : Row.okWide P w .any b t cs) : ∀ (i : Nat) (v : Value), cs[i]? = some v → ∃ u, ts[i % ts.length]? = some u ∧ Cell.okWide P w .any b u v := by
  obtain ⟨ts', h1, _, h2⟩ := h
  rw [hts] at h1
  cases h1
  exact h2

set_option maxRecDepth 100000 in
theorem lasso_shape {w : World} {b : Nat} {v : Value} (h : Value.okWide Try.prog w .any b 24 v) :
    ∃ (m : Int) (sa : Option Addr) (sn sc : Nat) (ra : Option Addr) (rn rc : Nat), v = .agg #[.int .i64 m, .slice sa sn sc, .slice ra rn rc] ∧ (∀ a, sa = some a → a.spot = none) ∧ (∀ a, ra = some a → a.spot = none) := by
  obtain ⟨cs, rfl, hsz, hrow⟩ := agg_cells Try.underlying24 h
  have hall := row_cells Try.types24 hrow
  clear hrow
  rw [Try.cells24] at hsz
  obtain ⟨l⟩ := cs
  match l, hsz with
  | [a0, a1, a2], _ =>
    have g : ∀ (i : Nat) (v : Value) (u : TypeId), (#[a0, a1, a2] : Array Value)[i]? = some v → ([3, 22, 22] : List TypeId)[i % 3]? = some u → Cell.okWide Try.prog w .any b u v := fun i v u hv hu => by
      obtain ⟨u', h1, h2⟩ := hall i v hv
      have h1 : ([3, 22, 22] : List TypeId)[i % 3]? = some u' := h1
      rw [hu] at h1
      cases h1
      exact h2
    obtain ⟨k, rfl⟩ := cell_int Try.underlying3 (g 0 a0 3 rfl rfl)
    obtain ⟨sa, sn, sc, rfl, hk⟩ := cell_slice Try.underlying22 (g 1 a1 22 rfl rfl)
    obtain ⟨ra, rn, rc, rfl, hn⟩ := cell_slice Try.underlying22 (g 2 a2 22 rfl rfl)
    exact ⟨k, sa, sn, sc, ra, rn, rc, rfl, hk, hn⟩
set_option maxRecDepth 100000 in
theorem ints_trod {H : Type} {enc : TypeId × Value → H} {w : World} {base : Nat} {sp : Nat → Bool} {hd : Bool} {fuel : Nat} {a : Option Addr} {n c : Nat} {x : DataW H × List MemPlace}
    (h : DataW.trod enc Try.prog w base sp hd fuel 22 [.slice a n c] = some x) (hsp : ∀ y, a = some y → y.spot = none) : ∃ l : List Int, l.length = n ∧ IntsW w a l := by
  rcases open_ints Try.underlying22 Try.underlying3 Try.cells3 h with ⟨h1, _⟩ | ⟨a1, len, cap, zs, h1, _, hlc, _, hz, _, hc, _⟩
  · simp only [List.cons.injEq, Value.slice.injEq, and_true] at h1
    obtain ⟨rfl, rfl, rfl⟩ := h1
    exact ⟨[], rfl, fun i hi => by simp at hi⟩
  · simp only [List.cons.injEq, Value.slice.injEq, and_true] at h1
    obtain ⟨rfl, rfl, rfl⟩ := h1
    have hle : n ≤ zs.length := by rw [hz]; split <;> omega
    refine ⟨zs.take n, by simp; omega, fun i hi => ?_⟩
    have hin : i < n := by simp at hi; omega
    obtain ⟨B, O, s⟩ := a1
    have := hsp _ rfl
    simp only at this
    subst this
    have ad : (⟨B, O, none⟩ : Addr).add i = ⟨B, O + i, none⟩ := addr_add B O i
    refine ⟨B, O, rfl, ?_⟩
    rw [← ad, hc i (by omega)]
    simp only [List.getD_eq_getElem?_getD, List.getElem?_take]
    rw [if_pos hin]
set_option maxRecDepth 100000 in
theorem lasso_ints {H : Type} {enc : TypeId × Value → H} {w : World} {base : Nat} {sp : Nat → Bool} {hd : Bool} {m : Int} {sa ra : Option Addr} {sn sc rn rc : Nat} {d : DataW H} {ps : List MemPlace}
    (h : DataW.Trod enc Try.prog w base sp hd 24 (.agg #[.int .i64 m, .slice sa sn sc, .slice ra rn rc]) d ps) (h1 : ∀ a, sa = some a → a.spot = none) (h2 : ∀ a, ra = some a → a.spot = none) : (∃ l : List Int, l.length = sn ∧ IntsW w sa l) ∧ ∃ l : List Int, l.length = rn ∧ IntsW w ra l := by
  obtain ⟨fuel, hf⟩ := h
  obtain ⟨xs, k, _, _, _, hlen, hfs⟩ := DataW.trod_struct Try.underlying24 hf
  have f1 := hfs 1 { name := "Stem", type := 22, offset := 1, embedded := false, tag := "", pkgPath := "", byteOffset := 8 } rfl
  have f2 := hfs 2 { name := "Round", type := 22, offset := 2, embedded := false, tag := "", pkgPath := "", byteOffset := 32 } rfl
  obtain ⟨y1, hy1⟩ : ∃ y, xs[1]? = some y := ⟨_, List.getElem?_eq_getElem (by rw [hlen]; decide)⟩
  obtain ⟨y2, hy2⟩ : ∃ y, xs[2]? = some y := ⟨_, List.getElem?_eq_getElem (by rw [hlen]; decide)⟩
  rw [hy1] at f1
  rw [hy2] at f2
  simp only [Try.cells22] at f1 f2
  exact ⟨ints_trod f1 h1, ints_trod f2 h2⟩

set_option maxRecDepth 100000 in
theorem lassoFinds_lifted (os : Os) (started : os.Started) (H : Type) (enc : TypeId × Value → H) :
    ReturnsInHanded {} Try.checked os 8 .any (Rows.lassoFindsSpec.pre6 enc Try.prog Try.f8 Rows.lassoFindsRow.domain false) (Rows.lassoFindsSpec.post enc Try.prog Try.f8 false true false false) := by
  refine returnsInHanded_of_change (C := Try.checked) Try.own started (by kernel_rfl) Try.func8
    (ChangeSpec.witness6 (enc := enc) (C := Try.checked) false ⟨#[], #[.agg #[.int .i64 0, .slice none 0 0, .slice none 0 0], .slice none 0 0, .int .i64 0, .int .i64 0], []⟩ 8 (by kernel_rfl) (by kernel_rfl) (by kernel_rfl) (by kernel_rfl)) ?_
  intro W base args ds gs before hval0 hW hcnd _
  have hval : ∀ (j : Nat) t v, Try.f8.params[j]? = some t → args[j]? = some v → Value.okWide Try.prog W .any base t v := hval0
  have hW' := hW
  obtain ⟨p, q, hA0, hV, rfl, hfz, hnd⟩ := hW
  have hA : DataW.TrodAll enc Try.prog W 0 (fun _ => true) true Try.f8.params.toList args.toList ds p := hA0
  rw [Try.params8] at hA hval
  obtain ⟨v0, v1, v2, v3, d0, d1, d2, d3, p0, p1, p2, p3, rfl, rfl, rfl, h0, h1, h2, h3⟩ := trodAll_four hA
  obtain ⟨rfl, rfl⟩ := trodVars_none hV
  obtain ⟨m, sa, sn, sc, ra, rn, rc, rfl, hk, hn⟩ := lasso_shape (hval 0 24 v0 rfl rfl)
  obtain ⟨i1, i2⟩ := lasso_ints h0 hk hn
  obtain ⟨wa, wn, wc, rfl, hw⟩ := val_slice (hval 1 22 v1 rfl rfl)
  obtain ⟨i3⟩ : Nonempty (∃ l : List Int, l.length = wn ∧ IntsW W wa l) := by
    obtain ⟨fuel, hf⟩ := h1
    exact ⟨ints_trod hf hw⟩
  obtain ⟨v, rfl, rfl, rfl, hwv⟩ := open_int Try.underlying3 (hval 2 3 v2 rfl rfl) h2
  obtain ⟨n, rfl, rfl, rfl, hwn⟩ := open_int Try.underlying3 (hval 3 3 v3 rfl rfl) h3
  clear hA0 hval0
  simp only [List.append_nil] at hW'
  have hplace : ∀ p ∈ p0 ++ p1, p.block < W.heap.size := fun p hp => by simpa using hW'.lt p hp
  refine (finds_any (m := m) (v := v) (n := n) (sc := sc) (rc := rc) (wc := wc) (lit_lt hwn) hk hn hw i1 i2 i3).mono fun e W' ⟨he, hb⟩ => ?_
  subst he
  have harg0 : ∀ sp : Nat → Bool, (∀ p ∈ p0 ++ p1, sp p.block = true) → DataW.Trod enc Try.prog W' 0 sp true 24 (.agg #[.int .i64 m, .slice sa sn sc, .slice ra rn rc]) d0 p0 := fun sp hsp =>
    WideElems.Trod_stays Try.laidOut (by kernel_rfl) (of_decide_eq_true (by kernel_rfl)) h0 (fun x hx => hb.same (hplace x (List.mem_append_left _ hx))) (fun x hx => hsp x (List.mem_append_left _ hx))
  have harg1 : ∀ sp : Nat → Bool, (∀ p ∈ p0 ++ p1, sp p.block = true) → DataW.Trod enc Try.prog W' 0 sp true 22 (.slice wa wn wc) d1 p1 := fun sp hsp =>
    WideElems.Trod_stays Try.laidOut (by kernel_rfl) (of_decide_eq_true (by kernel_rfl)) h1 (fun x hx => hb.same (hplace x (List.mem_append_right _ hx))) (fun x hx => hsp x (List.mem_append_right _ hx))
  refine ⟨_, rfl, post_of_below (pa := p0 ++ p1) (pv := []) hW' (fun _ _ _ => trodAll_mk1 (shut_bool Try.underlying4 _)) (fun sp hsp => ?_) (fun _ _ => rfl) (by simp) hb (ok_one (by kernel_rfl) rfl (okWide_bool_mk Try.underlying4 _))⟩
  have hall : DataW.TrodAll enc Try.prog W' 0 sp true [24, 22, 3, 3] [.agg #[.int .i64 m, .slice sa sn sc, .slice ra rn rc], .slice wa wn wc, .int .i64 v, .int .i64 n] [d0, d1, .lit (.int .i64 v), .lit (.int .i64 n)] (p0 ++ (p1 ++ ([] ++ []))) :=
    trodAll_mk4 (harg0 sp hsp) (harg1 sp hsp) (shut_int Try.underlying3 hwv) (shut_int Try.underlying3 hwn)
  simp only [List.append_nil] at hall
  exact hall

theorem lassoFinds_holds : Rows.LassoFindsSaid :=
  OpenClaim.holds_of_wide 8 Try.f8 rfl rfl rfl rfl rfl rfl rfl ⟨rfl, rfl, rfl, rfl, rfl⟩ rfl rfl rfl rfl rfl (by kernel_rfl) Try.func8 (by kernel_rfl)
    (of_decide_eq_true (by kernel_rfl)) (by unfold Func.isWrapper; first | (rw [if_pos (by decide +kernel)]; kernel_rfl) | (rw [if_neg (by decide +kernel)]; exact ⟨rfl, rfl⟩))
    (fun os started H enc _ => lassoFinds_lifted os started H enc)

end Go.Proofs.Ytdaljohmfnfgiaa

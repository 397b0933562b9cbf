/- LassoWovenSaid: what its proof is made of, part 2. No condition. -/
import Derived.Test.YtdaljohmfnfgiaaXa
import Derived.Test.YtdaljohmfnfgiaaCanonFm
import Derived.Test.YtdaljohmfnfgiaaRows
import Derived.ProofKit
import Derived.Below
import Derived.ChangeSame
import Derived.Deep.SlicePairs
/- Least; a modulus out of a sack; whether a stream is right. No condition. -/
namespace Go.Proofs.Ytdaljohmfnfgiaa
open Go Go.RowKit Go.Proofs.Ytdaljohmfnfgiaa.Canon
set_option maxRecDepth 20000


theorem so22_11 : sof Try.prog 22 11 = .mk (fun k => some (k * 1, 1)) 11 [.int .i64 0, .int .i64 0, .int .i64 0, .int .i64 0, .int .i64 0, .int .i64 0, .int .i64 0, .int .i64 0, .int .i64 0, .int .i64 0, .int .i64 0] := by kernel_rfl
theorem bs22_11 {d : Option Tmp} {ty : TypeId} {pos : String} {af : Array Edge} {gu : Option (Nat × Bool)} {A : AHeap} {s : Slots} {x0 x1 x2 x3 x4 x5 x6 x7 x8 x9 x10 : Int} : aexec Try.prog (seval s) ⟨d, .buildSlice 22 11 #[(0, .const (.int .i64 x0)), (1, .const (.int .i64 x1)), (2, .const (.int .i64 x2)), (3, .const (.int .i64 x3)), (4, .const (.int .i64 x4)), (5, .const (.int .i64 x5)), (6, .const (.int .i64 x6)), (7, .const (.int .i64 x7)), (8, .const (.int .i64 x8)), (9, .const (.int .i64 x9)), (10, .const (.int .i64 x10))], ty, pos, af, gu⟩ A
    = some (.slice (some ⟨A.next, 0, none⟩) 11 11, A.push (.cells #[.int .i64 x0, .int .i64 x1, .int .i64 x2, .int .i64 x3, .int .i64 x4, .int .i64 x5, .int .i64 x6, .int .i64 x7, .int .i64 x8, .int .i64 x9, .int .i64 x10] 3)) := by
  refine ae_buildSlice (r := [.int .i64 x0, .int .i64 x1, .int .i64 x2, .int .i64 x3, .int .i64 x4, .int .i64 x5, .int .i64 x6, .int .i64 x7, .int .i64 x8, .int .i64 x9, .int .i64 x10]) (by rfl) so22_11 et22 rfl ?_
  simp [fbld, Value.cells, sev_const]
theorem modulus_sack {A : AHeap} {b : Nat} {a : Option Addr} {n c lim nx : Nat} (h : Sack A b a n c lim nx) (hnx : nx < 1000000) (hn0 : n < 9223372036854775808) :
    Con Try.prog 58 [.pointer (some ⟨b, 0, none⟩)] A (fun v A1 => ∃ m : Nat, v = .int .i64 (m : Int) ∧ 2 ≤ m ∧ m ≤ 65521 ∧ Kb b A A1 ∧ ∃ nx', nx' ≤ nx + 1 ∧ Sack A1 b a n c lim nx') := by
  refine con_of_rn hc Try.func58 rfl (Nat.le_of_ble_eq_true rfl) ?_
  have hbA : b < A.next := by obtain ⟨_, q⟩ := h.at'; exact h.wf _ _ q
  have hx2 : Nx A.next A (A.push (.cells #[.int .i64 2, .int .i64 3, .int .i64 4, .int .i64 5, .int .i64 6, .int .i64 7, .int .i64 10, .int .i64 26, .int .i64 64, .int .i64 1000, .int .i64 65521] 3)) := (Nx.refl h.wf _).push (Nat.le_refl _) _
  have l2 := look_push_eq A (.cells #[.int .i64 2, .int .i64 3, .int .i64 4, .int .i64 5, .int .i64 6, .int .i64 7, .int .i64 10, .int .i64 26, .int .i64 64, .int .i64 1000, .int .i64 65521] 3)
  have hn2 : (A.push (.cells #[.int .i64 2, .int .i64 3, .int .i64 4, .int .i64 5, .int .i64 6, .int .i64 7, .int .i64 10, .int .i64 26, .int .i64 64, .int .i64 1000, .int .i64 65521] 3)).next = A.next + 1 := rfl
  generalize e2 : A.push (.cells #[.int .i64 2, .int .i64 3, .int .i64 4, .int .i64 5, .int .i64 6, .int .i64 7, .int .i64 10, .int .i64 26, .int .i64 64, .int .i64 1000, .int .i64 65521] 3) = A2 at hx2 l2 hn2
  have S2 : Sack A2 b a n c lim nx := h.same hx2.wf fun b' hb' => hx2.keep _ (by omega)
  rw [s_in1]
  (repeat (first | refine Rn.seq hc ?_ | refine Rn.skip hc ?_ | refine Rn.block hc ?_ | refine Rn.inBlock hc ?_ | refine Rn.scope hc ?_ | refine Rn.inScope hc ?_))
  refine Rn.reg hc rfl ?_
  simp only [sev_const, gd, want_free, rops, fx, Option.some.injEq, exists_eq_left', show Try.f58.ntmps = 8 from rfl]
  (repeat (first | refine Rn.seq hc ?_ | refine Rn.skip hc ?_ | refine Rn.block hc ?_ | refine Rn.inBlock hc ?_ | refine Rn.scope hc ?_ | refine Rn.inScope hc ?_))
  refine Rn.region hc fun K hK => ?_
  refine Wo.run hc 2 rfl rfl rfl ?_
  simp (maxSteps := 2000000) only [List.drop_zero, List.take_succ_cons, List.take_zero, sev_tmp, sg_eq, sg_ne, Nat.reduceLT, ne_eq, Nat.reduceEqDiff, not_false_eq_true, gd, want_free, rops, fx, Nat.zero_add, Option.some.injEq, exists_eq_left', bs22_11, e2]
  refine Wo.call hc (by rfl) (by rfl) ⟨by rfl, by rfl⟩ (xs := [.pointer (some ⟨b, 0, none⟩), .int .i64 ((11 : Nat) : Int)]) (by rfl) (by rfl) (by rfl) (Con.mono (below_sack S2 (by omega) hn0 (m := ((11 : Nat) : Int)) (by omega)) ?_)
  rintro w A3 ⟨r, rfl, hr, k3, nx3, hnx3, S3⟩
  have hr5 : r < 11 := by omega
  have l3 : Canon.look A3.objs A.next = _ := (k3.keep _ (by omega) (by omega)).trans l2
  obtain ⟨m, hm2, hm7, hcm⟩ : ∃ m : Nat, 2 ≤ m ∧ m ≤ 65521 ∧ cl A3 A.next (0 + r * 1) = some (.int .i64 (m : Int)) := by
    rw [cl_of l3 rfl]
    match r, hr5 with
    | 0, _ => exact ⟨2, by omega, by omega, rfl⟩
    | 1, _ => exact ⟨3, by omega, by omega, rfl⟩
    | 2, _ => exact ⟨4, by omega, by omega, rfl⟩
    | 3, _ => exact ⟨5, by omega, by omega, rfl⟩
    | 4, _ => exact ⟨6, by omega, by omega, rfl⟩
    | 5, _ => exact ⟨7, by omega, by omega, rfl⟩
    | 6, _ => exact ⟨10, by omega, by omega, rfl⟩
    | 7, _ => exact ⟨26, by omega, by omega, rfl⟩
    | 8, _ => exact ⟨64, by omega, by omega, rfl⟩
    | 9, _ => exact ⟨1000, by omega, by omega, rfl⟩
    | 10, _ => exact ⟨65521, by omega, by omega, rfl⟩
  have hcm' : cl A3 A.next r = some (.int .i64 (m : Int)) := by simpa using hcm
  refine Wo.run hc 3 rfl rfl rfl ?_
  simp (maxSteps := 2000000) only [List.drop_zero, List.drop_succ_cons, List.take_succ_cons, List.take_zero, sev_tmp, sg_eq, sg_ne, sp_n, Nat.reduceLT, ne_eq, Nat.reduceEqDiff, not_false_eq_true, gd, want_free, rops, fx, ld, idx, adr_p, Nat.zero_add, Option.some.injEq, exists_eq_left', Nat.reduceAdd, Nat.mul_one, tk3, eo22, nlen_nat hr5, hcm']
  refine Wo.done hc rfl (hK _ _ ?_)
  clear hK
  (repeat (first | refine Rn.seq hc ?_ | refine Rn.skip hc ?_ | refine Rn.block hc ?_ | refine Rn.inBlock hc ?_ | refine Rn.scope hc ?_ | refine Rn.inScope hc ?_))
  refine Rn.ret (endQ_tmp rfl ⟨m, ?_, hm2, hm7, (Kb.of_nx b hx2).trans k3, nx3, hnx3, S3⟩)
  simp only [sg_eq, sp_n, Nat.reduceLT]

/-- Whether a stream is right: it is. -/
theorem right_lasso {A : AHeap} (hw : WF A) {m : Int} {sa ra : Option Addr} {sc rc : Nat} {st ro : List Int} (hs : Ints A sa 0 A.next st) (hr : Ints A ra 0 A.next ro) (ls : st.length < 4611686018427387904) (lr : ro.length < 4611686018427387904) (he : errL m st ro = 0) :
    Con Try.prog 59 [.agg #[.int .i64 m, .slice sa st.length sc, .slice ra ro.length rc], .int .i64 0, .int .i64 m] A (fun v A1 => v = .bool true ∧ Nx A.next A A1) := by
  refine con_of_rn hc Try.func59 rfl (Nat.le_of_ble_eq_true rfl) ?_
  obtain ⟨A1, e1, hx1, hn1, b0, b1, b2⟩ := box3 hw (.int .i64 m) (.slice sa st.length sc) (.slice ra ro.length rc) 24
  rw [s_in3]
  (repeat (first | refine Rn.seq hc ?_ | refine Rn.skip hc ?_ | refine Rn.block hc ?_ | refine Rn.inBlock hc ?_ | refine Rn.scope hc ?_ | refine Rn.inScope hc ?_))
  refine Rn.reg hc rfl ?_
  simp only [sev_tmp, sev_const, sg_eq, sg_ne, Nat.reduceLT, ne_eq, Nat.reduceEqDiff, not_false_eq_true, gd, want_free, rops, fx, Option.some.injEq, exists_eq_left', Value.cells, show Try.f59.ntmps = 26 from rfl, e1]
  (repeat (first | refine Rn.seq hc ?_ | refine Rn.skip hc ?_ | refine Rn.block hc ?_ | refine Rn.inBlock hc ?_ | refine Rn.scope hc ?_ | refine Rn.inScope hc ?_))
  have hp := errL_pos he
  have hd : decide ((0 : Int) < (ro.length : Int)) = true := by simp; omega
  refine Rn.region hc fun K hK => ?_
  refine Wo.run hc 16 rfl rfl rfl ?_
  simp (maxSteps := 2000000) only [List.drop_zero, List.take_succ_cons, List.take_zero, sev_tmp, sev_const, sg_eq, sg_ne, sp_n, Nat.reduceLT, ne_eq, Nat.reduceEqDiff, not_false_eq_true, gd, nth, want_free, want_slot, beqB, rops, fx, ld, fad, lng, pck, bin_gtr, bin_eql, adr_p, cls, Nat.zero_add, Nat.add_zero, Option.some.injEq, exists_eq_left', Nat.reduceAdd, tk3, tk22, tk24, fo24_0, fo24_2, un22, b0, b1, b2, eq_self, decide_true, hd]
  refine Wo.call hc (by rfl) (by rfl) ⟨by rfl, by rfl⟩ (xs := [.agg #[.int .i64 m, .slice sa st.length sc, .slice ra ro.length rc]]) (by rfl) (by rfl) (by rfl) (Con.mono (check_one hx1.wf ((hs.nx hx1 (Nat.le_refl _)).mono (Nat.le_refl _) hx1.next) ((hr.nx hx1 (Nat.le_refl _)).mono (Nat.le_refl _) hx1.next) ls lr) ?_)
  rintro w A2 ⟨rfl, hx2⟩
  rw [he]
  refine Wo.run hc 3 rfl rfl rfl ?_
  simp (maxSteps := 2000000) only [List.drop_zero, List.drop_succ_cons, List.take_succ_cons, List.take_zero, sev_tmp, sev_const, sg_eq, sg_ne, sp_n, Nat.reduceLT, ne_eq, Nat.reduceEqDiff, not_false_eq_true, gd, nth, want_free, want_slot, beqB, rops, fx, pck, bin_eql, Option.some.injEq, exists_eq_left', Nat.reduceAdd, eq_self, decide_true]
  refine Wo.done hc rfl (hK _ _ ?_)
  clear hK
  (repeat (first | refine Rn.seq hc ?_ | refine Rn.skip hc ?_ | refine Rn.block hc ?_ | refine Rn.inBlock hc ?_ | refine Rn.scope hc ?_ | refine Rn.inScope hc ?_))
  refine Rn.ret (endQ_tmp rfl ⟨?_, hx1.trans (hx2.le hx1.next)⟩)
  simp only [sg_eq, sp_n, Nat.reduceLT]

theorem least_of {A : AHeap} (hw : WF A) {m : Int} {sa ra : Option Addr} {sc rc : Nat} {st ro : List Int} (hs : Ints A sa 0 A.next st) (hr : Ints A ra 0 A.next ro) (ls : st.length < 4611686018427387904) (lr : ro.length < 4611686018427387904) (hsl : Sl A sa 0) (hsc : st.length ≤ sc) :
    Con Try.prog 18 [.agg #[.int .i64 m, .slice sa st.length sc, .slice ra ro.length rc]] A (fun v A1 => (errL m st ro = 0 → ∃ a p, Red (atL st ro) a p ∧ a ≤ st.length ∧ p ≤ ro.length ∧ LeastQ A m (atL st ro) a p v A1) ∧ (errL m st ro ≠ 0 → v = .tuple #[.agg #[.int .i64 0, .slice none 0 0, .slice none 0 0], .int .i64 (errL m st ro)] ∧ Nx A.next A A1)) := by
  refine con_of_rn hc Try.func18 rfl (Nat.le_of_ble_eq_true rfl) ?_
  obtain ⟨A0, e0, hx0, hn0, b0, b1, b2⟩ := box3 hw (.int .i64 m) (.slice sa st.length sc) (.slice ra ro.length rc) 24
  have hx1 : Nx A0.next A0 (A0.push (.cells #[.int .i64 0, .slice none 0 0, .slice none 0 0] 24)) := (Nx.refl hx0.wf _).push (Nat.le_refl _) _
  have l1 := look_push_eq A0 (.cells #[.int .i64 0, .slice none 0 0, .slice none 0 0] 24)
  have hn1 : (A0.push (.cells #[.int .i64 0, .slice none 0 0, .slice none 0 0] 24)).next = A0.next + 1 := rfl
  generalize e1 : A0.push (.cells #[.int .i64 0, .slice none 0 0, .slice none 0 0] 24) = A1 at hx1 l1 hn1
  obtain ⟨A3, e3, hx3, hn3, c0, c1, c2⟩ := box3 hx1.wf (.int .i64 m) (.slice sa st.length sc) (.slice ra ro.length rc) 24
  have hx01 : Nx A.next A A1 := hx0.trans (hx1.le hx0.next)
  have hx03 : Nx A.next A A3 := hx01.trans (hx3.le hx01.next)
  have hrow : LRow A3 (some ⟨A1.next, 0, none⟩) [⟨m, sa, sc, st, ra, rc, ro⟩] := fun i hi => by
    have : i = 0 := by simp at hi; omega
    subst this
    exact ⟨⟨(hs.nx hx03 (Nat.le_refl _)).mono (Nat.le_refl _) hx03.next, (hr.nx hx03 (Nat.le_refl _)).mono (Nat.le_refl _) hx03.next, ls, lr⟩, _, _, rfl, by omega, c0, c1, c2⟩
  have b0' := (hx1.cl (show A.next < A0.next by omega) 0).trans b0
  have b1' := (hx1.cl (show A.next < A0.next by omega) 1).trans b1
  have b2' := (hx1.cl (show A.next < A0.next by omega) 2).trans b2
  rw [s_in1]
  (repeat (first | refine Rn.seq hc ?_ | refine Rn.skip hc ?_ | refine Rn.block hc ?_ | refine Rn.inBlock hc ?_ | refine Rn.scope hc ?_ | refine Rn.inScope hc ?_))
  refine Rn.reg hc rfl ?_
  simp only [sev_tmp, sev_const, sg_eq, Nat.reduceLT, ne_eq, gd, want_free, rops, fx, Option.some.injEq, exists_eq_left', Value.cells, show Try.f18.ntmps = 21 from rfl, e0, ze24, e1]
  (repeat (first | refine Rn.seq hc ?_ | refine Rn.skip hc ?_ | refine Rn.block hc ?_ | refine Rn.inBlock hc ?_ | refine Rn.scope hc ?_ | refine Rn.inScope hc ?_))
  refine Rn.region hc fun K hK => ?_
  refine Wo.run hc 2 rfl rfl rfl ?_
  simp (maxSteps := 2000000) only [List.drop_zero, List.take_succ_cons, List.take_zero, sev_tmp, sg_eq, sg_ne, sp_n, Nat.reduceLT, ne_eq, Nat.reduceEqDiff, not_false_eq_true, gd, want_free, rops, fx, ld, adr_p, cls, Nat.zero_add, Option.some.injEq, exists_eq_left', Value.cells, Nat.reduceAdd, tk24, b0', b1', b2', bs46_1, List.size_toArray, List.length_cons, List.length_nil, e3]
  refine Wo.call hc (by rfl) (by rfl) ⟨by rfl, by rfl⟩ (xs := [.slice (some ⟨A1.next, 0, none⟩) 1 1]) (by rfl) (by rfl) (by rfl) (Con.mono (check_all hx3.wf (l := [⟨m, sa, sc, st, ra, rc, ro⟩]) hrow (by simp)) ?_)
  rintro w A4 ⟨rfl, hx4⟩
  rw [errs_one, show (⟨m, sa, sc, st, ra, rc, ro⟩ : Las).err = errL m st ro from rfl]
  refine Wo.run hc 1 rfl rfl rfl ?_
  simp (maxSteps := 2000000) only [List.drop_zero, List.drop_succ_cons, List.take_succ_cons, List.take_zero, sev_tmp, sg_eq, sp_n, Nat.reduceLT, gd, want_free, rops, fx, Option.some.injEq, exists_eq_left', Nat.reduceAdd]
  refine Wo.done hc rfl (hK _ _ ?_)
  clear hK
  (repeat (first | refine Rn.seq hc ?_ | refine Rn.skip hc ?_ | refine Rn.block hc ?_ | refine Rn.inBlock hc ?_ | refine Rn.scope hc ?_ | refine Rn.inScope hc ?_))
  have hx34 : Nx A1.next A1 A4 := hx3.trans (hx4.le hx3.next)
  have hx04 : Nx A.next A A4 := hx01.trans (hx34.le hx01.next)
  have n4 : A0.next < A4.next := by have := hx4.next; omega
  have l4 : Canon.look A4.objs A0.next = _ := (hx34.keep _ (by omega)).trans l1
  have hst : ∀ {D : AHeap} {v0 v1 v2 : Value}, Nx A4.next A4 D → [v0, v1, v2].all isCell = true → ∃ D', sts D A0.next 0 [v0, v1, v2] = some D' ∧ D'.next = D.next ∧ WF D' ∧ Upd D A0.next (⟨[v0, v1, v2]⟩ : Array Value) D' ∧ cl D' A0.next 0 = some v0 ∧ cl D' A0.next 1 = some v1 ∧ cl D' A0.next 2 = some v2 := fun {D v0 v1 v2} hD hv => by
    have hl := (hD.keep A0.next n4).trans l4
    obtain ⟨D', c', q1, q2, q3, q4⟩ := sts_upd (l := [v0, v1, v2]) (o := 0) hl rfl (by simp) hv
    have hc : c' = #[v0, v1, v2] := by
      refine Array.ext_getElem? fun i => ?_
      rw [q4 i]
      by_cases hi : i < 3
      · rw [if_pos ⟨Nat.zero_le _, by simpa using hi⟩]
        simp
      · rw [if_neg (by simp; omega)]
        rw [Array.getElem?_eq_none (by simp; omega), Array.getElem?_eq_none (by simp; omega)]
    subst hc
    exact ⟨D', q1, q2.next, (q2.nx hD.wf (Nat.zero_le _)).wf, q2, by rw [q2.cl]; rfl, by rw [q2.cl]; rfl, by rw [q2.cl]; rfl⟩
  by_cases he : errL m st ro = 0
  · have hd : (!decide (errL m st ro = 0)) = false := by rw [decide_eq_true he]; rfl
    refine Rn.reg hc rfl ?_
    simp only [sev_tmp, sev_const, sg_eq, sp_n, Nat.reduceLT, gd, want_free, rops, fx, bin_neq, Option.some.injEq, exists_eq_left', hd]
    (repeat (first | refine Rn.seq hc ?_ | refine Rn.skip hc ?_ | refine Rn.block hc ?_ | refine Rn.inBlock hc ?_ | refine Rn.scope hc ?_ | refine Rn.inScope hc ?_))
    refine Rn.condE hc rfl ?_
    simp only [sev_tmp, sg_eq, sp_n, Nat.reduceLT, Value.bool.injEq, exists_eq_left']
    (repeat (first | refine Rn.seq hc ?_ | refine Rn.skip hc ?_ | refine Rn.block hc ?_ | refine Rn.inBlock hc ?_ | refine Rn.scope hc ?_ | refine Rn.inScope hc ?_))
    obtain ⟨l60, l120⟩ := errL_len he
    have hp := errL_pos he
    have b0'' := (hx34.cl (show A.next < A1.next by omega) 0).trans b0'
    have b1'' := (hx34.cl (show A.next < A1.next by omega) 1).trans b1'
    have b2'' := (hx34.cl (show A.next < A1.next by omega) 2).trans b2'
    refine Rn.region hc fun K hK => ?_
    refine Wo.run hc 6 rfl rfl rfl ?_
    simp (maxSteps := 2000000) only [List.drop_zero, List.take_succ_cons, List.take_zero, sev_tmp, sg_eq, sg_ne, sp_n, Nat.reduceLT, ne_eq, Nat.reduceEqDiff, not_false_eq_true, gd, want_free, rops, fx, ld, fad, adr_p, Nat.zero_add, Nat.add_zero, Option.some.injEq, exists_eq_left', tk3, tk22, fo24_0, fo24_1, fo24_2, b0'', b1'', b2'']
    refine Wo.call hc (by rfl) (by rfl) ⟨by rfl, by rfl⟩ (xs := [.int .i64 m, .slice sa st.length sc, .slice ra ro.length rc]) (by rfl) (by rfl) (by rfl) (Con.mono (least_run hx4.wf ((hs.nx hx04 (Nat.le_refl _)).mono (Nat.le_refl _) hx04.next) ((hr.nx hx04 (Nat.le_refl _)).mono (Nat.le_refl _) hx04.next) (by omega) (by omega) hp (hsl.nx hw hx04) hsc) ?_)
    rintro w A5 ⟨a, p, hred, ha, hpl, hx5, hq⟩
    have hx05 : Nx A.next A A5 := hx04.trans (hx5.le hx04.next)
    by_cases hlong : 120 < p ∨ 60 < a
    · rw [if_pos hlong] at hq
      subst hq
      obtain ⟨D, q1, q2, q3, q4, g0, g1, g2⟩ := hst (v0 := .int .i64 0) (v1 := .slice none 0 0) (v2 := .slice none 0 0) hx5 rfl
      refine Wo.run hc 4 rfl rfl rfl ?_
      simp (maxSteps := 2000000) only [List.drop_zero, List.drop_succ_cons, List.take_succ_cons, List.take_zero, sev_tmp, sg_eq, sg_ne, sp_n, sp_none, Nat.reduceLT, ne_eq, Nat.reduceEqDiff, not_false_eq_true, gd, want_free, rops, fx, str, ext, adr_p, List.getElem?_toArray, List.getElem?_cons_zero, List.getElem?_cons_succ, Nat.zero_add, Option.some.injEq, exists_eq_left', Nat.reduceAdd, tk24, ext, q1, List.size_toArray, List.length_cons, List.length_nil, Nat.beq_refl]
      refine Wo.done hc rfl (hK _ _ ?_)
      clear hK
      (repeat (first | refine Rn.seq hc ?_ | refine Rn.skip hc ?_ | refine Rn.block hc ?_ | refine Rn.inBlock hc ?_ | refine Rn.scope hc ?_ | refine Rn.inScope hc ?_))
      refine Rn.ret (endQ_ct rfl (v := .agg #[.int .i64 0, .slice none 0 0, .slice none 0 0]) ?_ ⟨fun _ => ⟨a, p, hred, ha, hpl, ⟨by have := hx05.next; omega, q3, fun b hb => by rw [q4.off _ (by omega), hx05.keep _ hb]⟩, ?_⟩, fun h => absurd he h⟩)
      · simp only [sg_eq, sg_ne, sp_n, Nat.reduceLT, ne_eq, Nat.reduceEqDiff, not_false_eq_true, ld, adr_p, cls, Nat.zero_add, Nat.reduceAdd, tk24, g0, g1, g2]
      · rw [if_pos hlong]
        simp only [sg_eq, sp_n, Nat.reduceLT]
    · rw [if_neg hlong] at hq
      obtain ⟨xa, ya, rfl, hg1, hg2⟩ := hq
      obtain ⟨D, q1, q2, q3, q4, g0, g1, g2⟩ := hst (v0 := .int .i64 m) (v1 := .slice xa a a) (v2 := .slice ya p p) hx5 rfl
      refine Wo.run hc 4 rfl rfl rfl ?_
      simp (maxSteps := 2000000) only [List.drop_zero, List.drop_succ_cons, List.take_succ_cons, List.take_zero, sev_tmp, sg_eq, sg_ne, sp_n, sp_none, Nat.reduceLT, ne_eq, Nat.reduceEqDiff, not_false_eq_true, gd, want_free, rops, fx, str, ext, adr_p, List.getElem?_toArray, List.getElem?_cons_zero, List.getElem?_cons_succ, Nat.zero_add, Option.some.injEq, exists_eq_left', Nat.reduceAdd, tk24, ext, q1, List.size_toArray, List.length_cons, List.length_nil, Nat.beq_refl]
      refine Wo.done hc rfl (hK _ _ ?_)
      clear hK
      (repeat (first | refine Rn.seq hc ?_ | refine Rn.skip hc ?_ | refine Rn.block hc ?_ | refine Rn.inBlock hc ?_ | refine Rn.scope hc ?_ | refine Rn.inScope hc ?_))
      refine Rn.ret (endQ_ct rfl (v := .agg #[.int .i64 m, .slice xa a a, .slice ya p p]) ?_ ⟨fun _ => ⟨a, p, hred, ha, hpl, ⟨by have := hx05.next; omega, q3, fun b hb => by rw [q4.off _ (by omega), hx05.keep _ hb]⟩, ?_⟩, fun h => absurd he h⟩)
      · simp only [sg_eq, sg_ne, sp_n, Nat.reduceLT, ne_eq, Nat.reduceEqDiff, not_false_eq_true, ld, adr_p, cls, Nat.zero_add, Nat.reduceAdd, tk24, g0, g1, g2]
      · rw [if_neg hlong]
        exact ⟨xa, ya, by simp only [sg_eq, sp_n, Nat.reduceLT], (hg1.off q4 (by omega)).mono (by omega), (hg2.off q4 (by omega)).mono (by omega)⟩
  · have hd : (!decide (errL m st ro = 0)) = true := by rw [decide_eq_false he]; rfl
    obtain ⟨D, q1, q2, q3, q4, g0, g1, g2⟩ := hst (v0 := .int .i64 0) (v1 := .slice none 0 0) (v2 := .slice none 0 0) (Nx.refl hx4.wf _) rfl
    refine Rn.reg hc rfl ?_
    simp only [sev_tmp, sev_const, sg_eq, sp_n, Nat.reduceLT, gd, want_free, rops, fx, bin_neq, Option.some.injEq, exists_eq_left', hd]
    (repeat (first | refine Rn.seq hc ?_ | refine Rn.skip hc ?_ | refine Rn.block hc ?_ | refine Rn.inBlock hc ?_ | refine Rn.scope hc ?_ | refine Rn.inScope hc ?_))
    refine Rn.condE hc rfl ?_
    simp only [sev_tmp, sg_eq, sp_n, Nat.reduceLT, Value.bool.injEq, exists_eq_left']
    (repeat (first | refine Rn.seq hc ?_ | refine Rn.skip hc ?_ | refine Rn.block hc ?_ | refine Rn.inBlock hc ?_ | refine Rn.scope hc ?_ | refine Rn.inScope hc ?_))
    refine Rn.reg hc rfl ?_
    simp only [sev_tmp, sg_eq, sg_ne, sp_n, sp_none, Nat.reduceLT, ne_eq, Nat.reduceEqDiff, not_false_eq_true, gd, want_free, rops, fx, str, adr_p, Nat.zero_add, Option.some.injEq, exists_eq_left', Nat.reduceAdd, tk24, bd24_z, q1, List.size_toArray, List.length_cons, List.length_nil, Nat.beq_refl]
    (repeat (first | refine Rn.seq hc ?_ | refine Rn.skip hc ?_ | refine Rn.block hc ?_ | refine Rn.inBlock hc ?_ | refine Rn.scope hc ?_ | refine Rn.inScope hc ?_))
    refine Rn.ret (endQ_ct rfl (v := .agg #[.int .i64 0, .slice none 0 0, .slice none 0 0]) ?_ ⟨fun h => absurd h he, fun _ => ⟨by simp only [sg_eq, sp_n, Nat.reduceLT], ⟨by have := hx04.next; omega, q3, fun b hb => by rw [q4.off _ (by omega), hx04.keep _ hb]⟩⟩⟩)
    simp only [sg_eq, sg_ne, sp_n, Nat.reduceLT, ne_eq, Nat.reduceEqDiff, not_false_eq_true, ld, adr_p, cls, Nat.zero_add, Nat.reduceAdd, tk24, g0, g1, g2]
end Go.Proofs.Ytdaljohmfnfgiaa
/- Where two streams differ, and whether they are the same. No condition. -/
namespace Go.Proofs.Ytdaljohmfnfgiaa
open Go Go.RowKit Go.Proofs.Ytdaljohmfnfgiaa.Canon
set_option maxRecDepth 20000
theorem bo88 : bof Try.prog 88 = .mk (nthR [(0, 1), (1, 1)]) 2 [.int .i64 0, .int .i64 0] := by kernel_rfl
theorem ze88 : zeroOf Try.prog 88 = some (.agg #[.int .i64 0, .int .i64 0]) := by kernel_rfl
theorem un88 : ∃ f g : Field, Try.prog.underlying 88 = some (.struct #[f, g]) ∧ (f.name != "_") = true ∧ (g.name != "_") = true ∧ f.type = 3 ∧ g.type = 3 ∧ f.offset = 0 ∧ g.offset = 1 := by
  refine ⟨{ name := "first", type := 3, offset := 0, embedded := false, tag := "", pkgPath := "roundelay/lasso", byteOffset := 0 }, { name := "mod", type := 3, offset := 1, embedded := false, tag := "", pkgPath := "roundelay/lasso", byteOffset := 8 }, by kernel_rfl, by decide, by decide, rfl, rfl, rfl, rfl⟩
theorem eg88 : Try.prog.eqGuardType Try.prog.depth 88 = false := by kernel_rfl
theorem sh88 : Try.prog.stoodInHeld 88 = false := by kernel_rfl
section
variable {ρ : Operand → Value} {d : Option Tmp} {ty : TypeId} {pos : String} {af : Array Edge} {gu : Option (Nat × Bool)} {A : AHeap}
theorem bd88 {x y : Tmp} (hx : isCell (ρ (.tmp x)) = true) (hy : isCell (ρ (.tmp y)) = true) : aexec Try.prog ρ ⟨d, .build 88 #[(0, .tmp x), (1, .tmp y)], ty, pos, af, gu⟩ A = some (.agg #[ρ (.tmp x), ρ (.tmp y)], A) := by
  refine ae_build (by rfl) bo88 rfl ?_
  simp [fbld, nthR, cells_isCell hx, cells_isCell hy]
theorem so46_2 : sof Try.prog 46 2 = .mk (fun k => some (k * 3, 3)) 6 [.int .i64 0, .slice none 0 0, .slice none 0 0, .int .i64 0, .slice none 0 0, .slice none 0 0] := by kernel_rfl
theorem bs46_2 {x y : Tmp} (hx : (ρ (.tmp x)).cells.size = 3) (hy : (ρ (.tmp y)).cells.size = 3) : aexec Try.prog ρ ⟨d, .buildSlice 46 2 #[(0, .tmp x), (1, .tmp y)], ty, pos, af, gu⟩ A = some (.slice (some ⟨A.next, 0, none⟩) 2 2, A.push (.cells ⟨(ρ (.tmp x)).cells.toList ++ (ρ (.tmp y)).cells.toList⟩ 24)) := by
  refine ae_buildSlice (r := (ρ (.tmp x)).cells.toList ++ (ρ (.tmp y)).cells.toList) (by rfl) so46_2 et46 rfl ?_
  simp [fbld, hx, hy]
end
def hdS (u : Int) : Canon.Spec := fun _ _ A v A1 => v = .int .i64 u ∧ Nx A.next A A1
theorem head_stream {A : AHeap} (hw : WF A) {m : Int} {sa ra : Option Addr} {sc rc : Nat} {st ro : List Int} (hs : Ints A sa 0 A.next st) (hr : Ints A ra 0 A.next ro) (n : Nat) (hst : st.length < 4611686018427387904) (hro : 0 < ro.length) (hro2 : ro.length < 4611686018427387904) (hn : n < 9223372036854775808) :
    Con Try.prog 72 [.agg #[.int .i64 m, .slice sa st.length sc, .slice ra ro.length rc], .int .i64 (n : Int)] A (fun v A1 => v = .agg #[.int .i64 (atL st ro n), .int .i64 m] ∧ Nx A.next A A1) := by
  refine con_of_rn hc Try.func72 rfl (Nat.le_of_ble_eq_true rfl) ?_
  obtain ⟨A1, e1, hx1, hn1, b0, b1, b2⟩ := box3 hw (.int .i64 m) (.slice sa st.length sc) (.slice ra ro.length rc) 86
  have hx2 : Nx A1.next A1 (A1.push (.cells #[.int .i64 0, .int .i64 0] 88)) := (Nx.refl hx1.wf _).push (Nat.le_refl _) _
  have l2 := look_push_eq A1 (.cells #[.int .i64 0, .int .i64 0] 88)
  have hn2 : (A1.push (.cells #[.int .i64 0, .int .i64 0] 88)).next = A1.next + 1 := rfl
  generalize e2 : A1.push (.cells #[.int .i64 0, .int .i64 0] 88) = A2 at hx2 l2 hn2
  have hx02 : Nx A.next A A2 := hx1.trans (hx2.le hx1.next)
  have c0 := (hx2.cl (show A.next < A1.next by omega) 0).trans b0
  have c1 := (hx2.cl (show A.next < A1.next by omega) 1).trans b1
  have c2 := (hx2.cl (show A.next < A1.next by omega) 2).trans b2
  rw [s_in2]
  (repeat (first | refine Rn.seq hc ?_ | refine Rn.skip hc ?_ | refine Rn.block hc ?_ | refine Rn.inBlock hc ?_ | refine Rn.scope hc ?_ | refine Rn.inScope hc ?_))
  refine Rn.reg hc rfl ?_
  simp only [sev_tmp, sg_eq, sg_ne, Nat.reduceLT, ne_eq, Nat.reduceEqDiff, not_false_eq_true, gd, want_free, rops, fx, Option.some.injEq, exists_eq_left', Value.cells, show Try.f72.ntmps = 12 from rfl, e1, ze88, e2]
  (repeat (first | refine Rn.seq hc ?_ | refine Rn.skip hc ?_ | refine Rn.block hc ?_ | refine Rn.inBlock hc ?_ | refine Rn.scope hc ?_ | refine Rn.inScope hc ?_))
  obtain ⟨F, hF0, hF1, hF2, hF⟩ : ∃ F : AHeap → Prop, (∀ M, F M → cl M A.next 0 = some (.int .i64 m)) ∧ (∀ M, F M → cl M A.next 1 = some (.slice sa st.length sc)) ∧ (∀ M, F M → cl M A.next 2 = some (.slice ra ro.length rc)) ∧ (∀ M, Canon.look M.objs A.next = Canon.look A2.objs A.next → F M) :=
    ⟨fun M => cl M A.next 0 = some (.int .i64 m) ∧ cl M A.next 1 = some (.slice sa st.length sc) ∧ cl M A.next 2 = some (.slice ra ro.length rc), fun _ h => h.1, fun _ h => h.2.1, fun _ h => h.2.2, fun M q => ⟨(cl_look q).trans c0, (cl_look q).trans c1, (cl_look q).trans c2⟩⟩
  have hxB : Nx A2.next A2 (bump A2 8) := Nx.bump (Nx.refl hx2.wf _) 8
  have FB := hF (bump A2 8) rfl
  have hx0B : Nx A.next A (bump A2 8) := hx02.trans (hxB.le hx02.next)
  refine Rn.drawnL hc hx (hdS (atL st ro n)) F (E := [2]) (n := 7) (k := 8) (by kernel_rfl) (by kernel_rfl) (by rfl) (by kernel_rfl) ?_
  refine DrL.read (by first | rfl | kernel_rfl) (by rfl) (by assumption) (fun M hM => by simp only [sev_tmp, sg_eq, sg_ne, sp_n, Nat.reduceLT, ne_eq, Nat.reduceEqDiff, not_false_eq_true, fx, ld, adr_p, cls, Nat.zero_add, Nat.reduceAdd, tk86, hF0 M hM, hF1 M hM, hF2 M hM] <;> rfl) (by rfl) (by first | exact VQ.int _ _ | exact VQ.bool _ | exact VQ.ptr _ _ | exact VQ.slice _ _ _ | exact VQ.func (by simp [vq_int, vq_ptr, vq_slice]) (by simp [vq_int, vq_ptr, vq_slice]) | exact VQ.agg (by simp [vq_int, vq_slice]) | exact VQ.tuple (by simp [vq_int, vq_ptr, vq_slice])) ?_
  refine DrL.read (by first | rfl | kernel_rfl) (by rfl) (by assumption) (fun M hM => by simp only [sev_tmp, sg_eq, sg_ne, sp_n, Nat.reduceLT, ne_eq, Nat.reduceEqDiff, not_false_eq_true, fx] <;> rfl) (by rfl) (by first | exact VQ.int _ _ | exact VQ.bool _ | exact VQ.ptr _ _ | exact VQ.slice _ _ _ | exact VQ.func (by simp [vq_int, vq_ptr, vq_slice]) (by simp [vq_int, vq_ptr, vq_slice]) | exact VQ.agg (by simp [vq_int, vq_ptr, vq_slice]) | exact VQ.tuple (by simp [vq_int, vq_ptr, vq_slice])) ?_
  refine DrL.call (by kernel_rfl) (by rfl) (by assumption) (by rfl) (opRun_call (by rfl) ⟨by rfl, by rfl⟩ (by rfl) (xs := [.agg #[.int .i64 m, .slice sa st.length sc, .slice ra ro.length rc], .int .i64 (n : Int)]) (by simp only [sev_tmp, sg_eq, sg_ne, sp_n, Nat.reduceLT, ne_eq, Nat.reduceEqDiff, not_false_eq_true, List.map_cons, List.map_nil, List.nil_append, List.append_nil]) (at_stream hxB.wf ((hs.nx hx0B (Nat.le_refl _)).mono (Nat.le_refl _) hx0B.next) ((hr.nx hx0B (Nat.le_refl _)).mono (Nat.le_refl _) hx0B.next) n hst hro hro2 hn)) ?_
  rintro v B1 ⟨rfl, k1⟩
  have hk1 := k1.next
  rw [bump_next] at hk1 k1
  have F1 := hF B1 ((k1.keep _ (by omega)).trans rfl)
  refine DrL.read (by first | rfl | kernel_rfl) (by rfl) (by assumption) (fun M hM => by simp only [sev_tmp, sg_eq, sg_ne, sp_n, Nat.reduceLT, ne_eq, Nat.reduceEqDiff, not_false_eq_true, fx, fad, adr_p, Nat.add_zero, fo86_0] <;> rfl) (by rfl) (by first | exact VQ.int _ _ | exact VQ.bool _ | exact VQ.ptr _ _ | exact VQ.slice _ _ _ | exact VQ.func (by simp [vq_int, vq_ptr, vq_slice]) (by simp [vq_int, vq_ptr, vq_slice]) | exact VQ.agg (by simp [vq_int, vq_ptr, vq_slice]) | exact VQ.tuple (by simp [vq_int, vq_ptr, vq_slice])) ?_
  refine DrL.read (by first | rfl | kernel_rfl) (by rfl) (by assumption) (fun M hM => by simp only [sev_tmp, sg_eq, sp_n, Nat.reduceLT, fx, fad, adr_p, Nat.add_zero, fo24_0] <;> rfl) (by rfl) (by first | exact VQ.int _ _ | exact VQ.bool _ | exact VQ.ptr _ _ | exact VQ.slice _ _ _ | exact VQ.func (by simp [vq_int, vq_ptr, vq_slice]) (by simp [vq_int, vq_ptr, vq_slice]) | exact VQ.agg (by simp [vq_int, vq_ptr, vq_slice]) | exact VQ.tuple (by simp [vq_int, vq_ptr, vq_slice])) ?_
  refine DrL.read (by first | rfl | kernel_rfl) (by rfl) (by assumption) (fun M hM => by simp only [sev_tmp, sg_eq, sp_n, Nat.reduceLT, fx, ld, adr_p, tk3, hF0 M hM] <;> rfl) (by rfl) (by first | exact VQ.int _ _ | exact VQ.bool _ | exact VQ.ptr _ _ | exact VQ.slice _ _ _ | exact VQ.func (by simp [vq_int, vq_ptr, vq_slice]) (by simp [vq_int, vq_ptr, vq_slice]) | exact VQ.agg (by simp [vq_int, vq_ptr, vq_slice]) | exact VQ.tuple (by simp [vq_int, vq_ptr, vq_slice])) ?_
  refine DrL.read (by first | rfl | kernel_rfl) (by rfl) (by assumption) (fun M hM => by simp only [sev_tmp, sg_eq, sg_ne, sp_n, Nat.reduceLT, ne_eq, Nat.reduceEqDiff, not_false_eq_true, fx, bd88, isCell] <;> rfl) (by rfl) (by first | exact VQ.int _ _ | exact VQ.bool _ | exact VQ.ptr _ _ | exact VQ.slice _ _ _ | exact VQ.func (by simp [vq_int, vq_ptr, vq_slice]) (by simp [vq_int, vq_ptr, vq_slice]) | exact VQ.agg (by simp [vq_int]) | exact VQ.tuple (by simp [vq_int, vq_ptr, vq_slice])) ?_
  have l3 : Canon.look B1.objs A1.next = _ := (k1.keep _ (by omega)).trans l2
  obtain ⟨B2, c', q1, q2, q3, q4⟩ := sts_upd (l := [.int .i64 (atL st ro n), .int .i64 m]) (o := 0) l3 rfl (by simp) rfl
  refine DrL.eff (by rfl) (by rfl) (pd1 := []) (pd2 := []) (by kernel_rfl) (by kernel_rfl) (ms0 := []) (A0 := B1) rfl (fun _ h => by cases h) F1 (by rfl) (v := undef) (A1 := B2) (opRun_op rfl (fx_ok (by rfl) (by simp only [sev_tmp, sg_eq, sg_ne, sp_n, Nat.reduceLT, ne_eq, Nat.reduceEqDiff, not_false_eq_true, fx, str, adr_p, Nat.zero_add, Nat.reduceAdd, tk88, q1, List.size_toArray, List.length_cons, List.length_nil, Nat.beq_refl]))) ?_
  refine DrL.nil ⟨by rfl, B2, by rfl, ?_⟩
  (repeat (first | refine Rn.seq hc ?_ | refine Rn.skip hc ?_ | refine Rn.block hc ?_ | refine Rn.inBlock hc ?_ | refine Rn.scope hc ?_ | refine Rn.inScope hc ?_))
  have g0 : cl B2 A1.next 0 = some (.int .i64 (atL st ro n)) := by rw [q2.cl, q4]; rfl
  have g1 : cl B2 A1.next 1 = some (.int .i64 m) := by rw [q2.cl, q4]; rfl
  refine Rn.ret (endQ_cell rfl (v := .agg #[.int .i64 (atL st ro n), .int .i64 m]) ?_ ⟨rfl, by have := q2.next; omega, (q2.nx k1.wf (Nat.zero_le _)).wf, fun b hb => by rw [q2.off _ (by omega), k1.keep _ (by omega)]; exact hx02.keep _ hb⟩)
  simp only [sg_eq, sg_ne, sp_n, sp_none, Nat.reduceLT, ne_eq, Nat.reduceEqDiff, not_false_eq_true, ld, adr_p, cls, Nat.zero_add, tk88, g0, g1]

/-- Streams that agree for as long as both rounds together agree for ever. -/
theorem agree_all {s t : Nat → Int} {N a b : Nat} (h1 : Per s N a) (h2 : Per t N b) (h : ∀ n, n < N + a + b → s n = t n) : ∀ n, s n = t n := by
  have hb : Per s N b := by
    refine ⟨h2.pos, fun n hn => ?_⟩
    have key : ∀ k, N ≤ k → k < N + a → s (k + b) = s k := fun k hk1 hk2 => by
      rw [h (k + b) (by omega), h2.per k hk1, h k (by omega)]
    have hm := Nat.mod_lt (n - N) h1.pos
    have hle := Nat.mod_le (n - N) a
    have e1 : s n = s (N + (n - N) % a) := h1.same hn (by omega) (by
      rw [Nat.add_mod_mod]
      congr 1
      omega)
    have e2 : s (n + b) = s (N + (n - N) % a + b) := h1.same (by omega) (by omega) (by
      rw [show N + (n - N) % a + b = N + b + (n - N) % a by omega, Nat.add_mod_mod]
      congr 1
      omega)
    rw [e1, e2, key _ (by omega) (by omega)]
  intro n
  by_cases hn : n < N + b
  · exact h n (by omega)
  · have hm := Nat.mod_lt (n - N) h2.pos
    have hle := Nat.mod_le (n - N) b
    have hmod : n % b = (N + (n - N) % b) % b := by
      rw [Nat.add_mod_mod]
      congr 1
      omega
    rw [hb.same (x := n) (y := N + (n - N) % b) (by omega) (by omega) hmod, h2.same (x := n) (y := N + (n - N) % b) (by omega) (by omega) hmod]
    exact h _ (by omega)
/-- Where two streams differ. -/
def ApartQ (s t : Nat → Int) (v : Value) : Prop := (∃ n : Nat, v = .tuple #[.int .i64 (n : Int), .int .i64 0] ∧ s n ≠ t n ∧ ∀ j, j < n → s j = t j) ∨ (v = .tuple #[.int .i64 0, .int .i64 6] ∧ ∀ n, s n = t n)
theorem aeql88 {a0 a1 b0 b1 : Int} : aeql Try.prog 88 (.agg #[.int .i64 a0, .int .i64 a1]) (.agg #[.int .i64 b0, .int .i64 b1]) = some (decide (a0 = b0) && decide (a1 = b1)) := by
  obtain ⟨f, g, hu, n1, n2, t1, t2, o1, o2⟩ := un88
  simp only [aeql, eg88, deep]
  have hae : ∀ (xs : Array Value) (j : Nat), aelem Try.prog 3 xs j = xs[j]? := fun xs j => by
    unfold aelem
    simp only [un3]
  have step : ∀ (a b : Int), aeq Try.prog 7 3 (.int .i64 a) (.int .i64 b) = some (decide (a = b)) := fun a b => by
    rw [aeq3]
    by_cases h : a = b <;> simp [h]
  unfold aeq
  simp only [hu, sh88, aeqFs, n1, n2, t1, t2, o1, o2, hae, List.getElem?_toArray, List.getElem?_cons_zero, List.getElem?_cons_succ, step]
  by_cases h0 : a0 = b0 <;> by_cases h1 : a1 = b1 <;> simp [h0, h1]
theorem neq88 (a0 a1 b0 b1 : Int) (A : AHeap) : bin Try.prog .neq 88 (.agg #[.int .i64 a0, .int .i64 a1]) (.agg #[.int .i64 b0, .int .i64 b1]) A = some (.bool (!(decide (a0 = b0) && decide (a1 = b1))), A) := by
  show (aeql Try.prog 88 (.agg #[.int .i64 a0, .int .i64 a1]) (.agg #[.int .i64 b0, .int .i64 b1])).map (fun b => (Value.bool !b, A)) = _
  rw [aeql88]
  rfl
end Go.Proofs.Ytdaljohmfnfgiaa
/- Where two streams differ, and whether they are the same: what the program does. No condition. -/
namespace Go.Proofs.Ytdaljohmfnfgiaa
open Go Go.RowKit Go.Proofs.Ytdaljohmfnfgiaa.Canon
set_option maxRecDepth 20000


/-- Two streams in a row. -/
theorem row_two {A : AHeap} {x y : Las} (hx : x.ok A) (hy : y.ok A) {b : Nat} (hb : b < A.next) (hl : Canon.look A.objs b = some ⟨.cells #[.int .i64 x.m, .slice x.sa x.st.length x.sc, .slice x.ra x.ro.length x.rc, .int .i64 y.m, .slice y.sa y.st.length y.sc, .slice y.ra y.ro.length y.rc] 24, false, 0⟩) : LRow A (some ⟨b, 0, none⟩) [x, y] := fun i hi => by
  have hi2 : i < 2 := by simpa using hi
  match i, hi2 with
  | 0, _ => exact ⟨hx, _, _, rfl, hb, by rw [cl_of hl rfl]; rfl, by rw [cl_of hl rfl]; rfl, by rw [cl_of hl rfl]; rfl⟩
  | 1, _ => exact ⟨hy, _, _, rfl, hb, by rw [cl_of hl rfl]; rfl, by rw [cl_of hl rfl]; rfl, by rw [cl_of hl rfl]; rfl⟩
theorem errs_two (x y : Las) : errs [x, y] [x, y] = if x.err ≠ 0 then x.err else if y.err ≠ 0 then y.err else if x.m = y.m then 0 else 7 := by
  unfold errs
  by_cases h1 : x.err = 0
  · rw [if_pos h1, if_neg (by simp [h1])]
    unfold errs
    by_cases h2 : y.err = 0
    · rw [if_pos h2, if_neg (by simp [h2])]
      simp only [errs, clash]
      by_cases h3 : x.m = y.m
      · simp [h3]
      · have h3' : ¬ y.m = x.m := fun e => h3 e.symm
        simp [h3, h3']
    · rw [if_neg h2, if_pos h2]
  · rw [if_neg h1, if_pos h1]
def Las.s (x : Las) : Nat → Int := atL x.st x.ro
def Las.v (x : Las) : Value := .agg #[.int .i64 x.m, .slice x.sa x.st.length x.sc, .slice x.ra x.ro.length x.rc]

theorem vq_las (m : Int) (a b : Option Addr) (n c n' c' : Nat) : VQ (.agg #[.int .i64 m, .slice a n c, .slice b n' c']) := VQ.agg (by simp [vq_int, vq_slice])
theorem vq_lasf (g : FuncId) (m : Int) (a b : Option Addr) (n c n' c' : Nat) : VQ (.func (.func g) #[.agg #[.int .i64 m, .slice a n c, .slice b n' c']] #[]) := by
  refine VQ.func (fun v hv => ?_) (by simp)
  have hv : v = .agg #[.int .i64 m, .slice a n c, .slice b n' c'] := by simpa using hv
  subst hv
  show veqs (veq 3) [_, _, _] [_, _, _] = true
  simp [veqs, vq_int, vq_slice]
theorem apart_run {A : AHeap} (hw : WF A) {x y : Las} (hox : x.ok A) (hoy : y.ok A) :
    Con Try.prog 22 [x.v, y.v] A (fun v A1 => Nx A.next A A1 ∧ (errs [x, y] [x, y] = 0 → ApartQ x.s y.s v) ∧ (errs [x, y] [x, y] ≠ 0 → v = .tuple #[.int .i64 0, .int .i64 (errs [x, y] [x, y])])) := by
  obtain ⟨m, sa, sc, st, ra, rc, ro⟩ := x
  obtain ⟨m', sa', sc', st', ra', rc', ro'⟩ := y
  simp only [Las.v, Las.s]
  refine con_of_rn hc Try.func22 rfl (Nat.le_of_ble_eq_true rfl) ?_
  obtain ⟨A1, e1, hx1, hn1, b0, b1, b2⟩ := box3 hw (.int .i64 m) (.slice sa st.length sc) (.slice ra ro.length rc) 24
  obtain ⟨A2, e2, hx2, hn2, c0, c1, c2⟩ := box3 hx1.wf (.int .i64 m') (.slice sa' st'.length sc') (.slice ra' ro'.length rc') 24
  have hx02 : Nx A.next A A2 := hx1.trans (hx2.le hx1.next)
  have b0 := (hx2.cl (show A.next < A1.next by omega) 0).trans b0
  have b1 := (hx2.cl (show A.next < A1.next by omega) 1).trans b1
  have b2 := (hx2.cl (show A.next < A1.next by omega) 2).trans b2
  have hx3 : Nx A2.next A2 (A2.push (.cells #[.int .i64 m, .slice sa st.length sc, .slice ra ro.length rc, .int .i64 m', .slice sa' st'.length sc', .slice ra' ro'.length rc'] 24)) := (Nx.refl hx2.wf _).push (Nat.le_refl _) _
  have l3 := look_push_eq A2 (.cells #[.int .i64 m, .slice sa st.length sc, .slice ra ro.length rc, .int .i64 m', .slice sa' st'.length sc', .slice ra' ro'.length rc'] 24)
  have hn3 : (A2.push (.cells #[.int .i64 m, .slice sa st.length sc, .slice ra ro.length rc, .int .i64 m', .slice sa' st'.length sc', .slice ra' ro'.length rc'] 24)).next = A2.next + 1 := rfl
  generalize e3 : A2.push (.cells #[.int .i64 m, .slice sa st.length sc, .slice ra ro.length rc, .int .i64 m', .slice sa' st'.length sc', .slice ra' ro'.length rc'] 24) = A3 at hx3 l3 hn3
  have hx03 : Nx A.next A A3 := hx02.trans (hx3.le hx02.next)
  have hrow := row_two (hox.nx hx03) (hoy.nx hx03) (b := A2.next) (by omega) l3
  rw [s_in2]
  (repeat (first | refine Rn.seq hc ?_ | refine Rn.skip hc ?_ | refine Rn.block hc ?_ | refine Rn.inBlock hc ?_ | refine Rn.scope hc ?_ | refine Rn.inScope hc ?_))
  refine Rn.reg hc rfl ?_
  simp only [sev_tmp, sev_const, sg_eq, sg_ne, sp_n, Nat.reduceLT, ne_eq, Nat.reduceEqDiff, not_false_eq_true, gd, want_free, rops, fx, Option.some.injEq, exists_eq_left', Value.cells, show Try.f22.ntmps = 50 from rfl, e1, e2]
  (repeat (first | refine Rn.seq hc ?_ | refine Rn.skip hc ?_ | refine Rn.block hc ?_ | refine Rn.inBlock hc ?_ | refine Rn.scope hc ?_ | refine Rn.inScope hc ?_))
  refine Rn.region hc fun K hK => ?_
  refine Wo.run hc 3 rfl rfl rfl ?_
  simp (maxSteps := 2000000) only [List.drop_zero, List.take_succ_cons, List.take_zero, sev_tmp, sg_eq, sg_ne, sp_n, Nat.reduceLT, ne_eq, Nat.reduceEqDiff, not_false_eq_true, gd, want_free, List.nil_append, List.cons_append, rops, fx, ld, adr_p, cls, Nat.zero_add, Option.some.injEq, exists_eq_left', Value.cells, Nat.reduceAdd, tk24, b0, b1, b2, c0, c1, c2, bs46_2, List.size_toArray, List.length_cons, List.length_nil, List.cons_append, List.nil_append, e3]
  refine Wo.call hc (by rfl) (by rfl) ⟨by rfl, by rfl⟩ (xs := [.slice (some ⟨A2.next, 0, none⟩) 2 2]) (by rfl) (by rfl) (by rfl) (Con.mono (check_all hx3.wf (l := [⟨m, sa, sc, st, ra, rc, ro⟩, ⟨m', sa', sc', st', ra', rc', ro'⟩]) hrow (by simp)) ?_)
  rintro w A4 ⟨rfl, hx4⟩
  refine Wo.run hc 1 rfl rfl rfl ?_
  simp (maxSteps := 2000000) only [List.drop_zero, List.drop_succ_cons, List.take_succ_cons, List.take_zero, sev_tmp, sg_eq, sp_n, Nat.reduceLT, gd, want_free, rops, fx, Option.some.injEq, exists_eq_left', Nat.reduceAdd]
  refine Wo.done hc rfl (hK _ _ ?_)
  clear hK
  (repeat (first | refine Rn.seq hc ?_ | refine Rn.skip hc ?_ | refine Rn.block hc ?_ | refine Rn.inBlock hc ?_ | refine Rn.scope hc ?_ | refine Rn.inScope hc ?_))
  have hx24 : Nx A2.next A2 A4 := hx3.trans (hx4.le hx3.next)
  have hx04 : Nx A.next A A4 := hx02.trans (hx24.le hx02.next)
  have n4 : A2.next < A4.next := by have := hx4.next; omega
  have b0 := (hx24.cl (show A.next < A2.next by omega) 0).trans b0
  have b1 := (hx24.cl (show A.next < A2.next by omega) 1).trans b1
  have b2 := (hx24.cl (show A.next < A2.next by omega) 2).trans b2
  have c0 := (hx24.cl (show A1.next < A2.next by omega) 0).trans c0
  have c1 := (hx24.cl (show A1.next < A2.next by omega) 1).trans c1
  have c2 := (hx24.cl (show A1.next < A2.next by omega) 2).trans c2
  by_cases he : errs [⟨m, sa, sc, st, ra, rc, ro⟩, ⟨m', sa', sc', st', ra', rc', ro'⟩] [⟨m, sa, sc, st, ra, rc, ro⟩, ⟨m', sa', sc', st', ra', rc', ro'⟩] = 0
  · rw [he]
    have he2 := he
    rw [errs_two] at he2
    have hE1 : errL m st ro = 0 := Decidable.byContradiction fun h => by
      rw [if_pos (show (Las.err ⟨m, sa, sc, st, ra, rc, ro⟩) ≠ 0 from h)] at he2
      exact h he2
    have hE2 : errL m' st' ro' = 0 := Decidable.byContradiction fun h => by
      rw [if_neg (by show ¬ (errL m st ro ≠ 0); simp [hE1]), if_pos (show (Las.err ⟨m', sa', sc', st', ra', rc', ro'⟩) ≠ 0 from h)] at he2
      exact h he2
    have hmm : m = m' := Decidable.byContradiction fun h => by
      rw [if_neg (by show ¬ (errL m st ro ≠ 0); simp [hE1]), if_neg (by show ¬ (errL m' st' ro' ≠ 0); simp [hE2]), if_neg h] at he2
      exact absurd he2 (by decide)
    obtain ⟨s60, r120⟩ := errL_len hE1
    obtain ⟨s60', r120'⟩ := errL_len hE2
    have hp := errL_pos hE1
    have hp' := errL_pos hE2
    have hd0 : (!decide ((0 : Int) = 0)) = false := rfl
    refine Rn.reg hc rfl ?_
    simp only [sev_tmp, sev_const, sg_eq, sp_n, Nat.reduceLT, gd, want_free, rops, fx, bin_neq, Option.some.injEq, exists_eq_left', Bool.not_true, Bool.not_true, eq_self, decide_true, Bool.not_true]
    (repeat (first | refine Rn.seq hc ?_ | refine Rn.skip hc ?_ | refine Rn.block hc ?_ | refine Rn.inBlock hc ?_ | refine Rn.scope hc ?_ | refine Rn.inScope hc ?_))
    refine Rn.condE hc rfl ?_
    simp only [sev_tmp, sg_eq, sp_n, Nat.reduceLT, Value.bool.injEq, exists_eq_left']
    (repeat (first | refine Rn.seq hc ?_ | refine Rn.skip hc ?_ | refine Rn.block hc ?_ | refine Rn.inBlock hc ?_ | refine Rn.scope hc ?_ | refine Rn.inScope hc ?_))
    refine Rn.drawnR hc hx (by kernel_rfl) (by rfl) (by kernel_rfl) ?_ ?_
    · simp only [rdV, cl_bump, sev_tmp, sg_eq, sg_ne, sp_n, Nat.reduceLT, ne_eq, Nat.reduceEqDiff, not_false_eq_true, gd, want_free, fx, ld, adr_p, cls, Nat.zero_add, Value.cells, Nat.reduceAdd, and_self, ae_mkbound, tk24, b0, b1, b2, c0, c1, c2, bd86, vq_las, vq_lasf, List.size_toArray, List.length_cons, List.length_nil]
    simp only [cl_bump, sev_tmp, sg_eq, sg_ne, sp_n, Nat.reduceLT, ne_eq, Nat.reduceEqDiff, not_false_eq_true, gd, want_free, rops, fx, ld, adr_p, cls, Nat.zero_add, Option.some.injEq, exists_eq_left', Value.cells, Nat.reduceAdd, ae_mkbound, tk24, b0, b1, b2, c0, c1, c2, bd86, List.size_toArray, List.length_cons, List.length_nil]
    (repeat (first | refine Rn.seq hc ?_ | refine Rn.skip hc ?_ | refine Rn.block hc ?_ | refine Rn.inBlock hc ?_ | refine Rn.scope hc ?_ | refine Rn.inScope hc ?_))
    have hw1 : IntKind.i64.wrap (max (st.length : Int) (st'.length : Int) + (ro.length : Int)) = ((max st.length st'.length + ro.length : Nat) : Int) := by rw [IntWalk.i64_in _ (by omega)]; omega
    have hw2 : IntKind.i64.wrap (((max st.length st'.length + ro.length : Nat) : Int) + (ro'.length : Int)) = ((max st.length st'.length + ro.length + ro'.length : Nat) : Int) := by rw [IntWalk.i64_in _ (by omega)]; omega
    obtain ⟨L, hL⟩ : ∃ L, L = max st.length st'.length + ro.length + ro'.length := ⟨_, rfl⟩
    rw [← hL] at hw2
    have hB : Nx A4.next A4 (bump A4 8) := Nx.bump (Nx.refl hx4.wf _) 8
    refine Rn.reg hc rfl ?_
    simp only [sev_tmp, sev_const, sg_eq, sg_ne, sp_n, Nat.reduceLT, ne_eq, Nat.reduceEqDiff, not_false_eq_true, gd, want_free, rops, fx, ld, fad, lng, bin_add, adr_p, Nat.zero_add, Option.some.injEq, exists_eq_left', tk22, fo24_1, fo24_2, un22, b1, b2, c1, c2, cl_bump, ae_mxd2, mxd_int, hw1, hw2]
    (repeat (first | refine Rn.seq hc ?_ | refine Rn.skip hc ?_ | refine Rn.block hc ?_ | refine Rn.inBlock hc ?_ | refine Rn.scope hc ?_ | refine Rn.inScope hc ?_))
    refine Rn.loopI hc (I := fun k s A' => ∃ n, n ≤ L ∧ k = L - n ∧ Nx A4.next A4 A' ∧ (∀ j, j < n → atL st ro j = atL st' ro' j) ∧ s.n = 50 ∧ sget s 7 = .func (.func 72) #[.agg #[.int .i64 m, .slice sa st.length sc, .slice ra ro.length rc]] #[] ∧ sget s 8 = .func (.func 72) #[.agg #[.int .i64 m', .slice sa' st'.length sc', .slice ra' ro'.length rc']] #[] ∧ sget s 37 = .int .i64 (L : Int) ∧ sget s 38 = .int .i64 (n : Int))
      (n := L) ⟨0, by omega, rfl, hB, fun j hj => by omega, by simp only [sp_n], by simp only [sg_eq, sg_ne, sp_n, Nat.reduceLT, ne_eq, Nat.reduceEqDiff, not_false_eq_true], by simp only [sg_eq, sg_ne, sp_n, Nat.reduceLT, ne_eq, Nat.reduceEqDiff, not_false_eq_true], by simp only [sg_eq, sg_ne, sp_n, Nat.reduceLT, ne_eq, Nat.reduceEqDiff, not_false_eq_true], by simp only [sg_eq, sp_n, Nat.reduceLT]; rfl⟩ ?_
    clear b0 b1 b2 c0 c1 c2 hw1 hw2 hB
    rintro k s A' ⟨n, hn1', rfl, hA, hag, hn, s7, s8, s37, s38⟩ ih
    have hA0 : Nx A.next A A' := hx04.trans (hA.le hx04.next)
    (repeat (first | refine Rn.seq hc ?_ | refine Rn.skip hc ?_ | refine Rn.block hc ?_ | refine Rn.inBlock hc ?_ | refine Rn.scope hc ?_ | refine Rn.inScope hc ?_))
    by_cases hlt : n < L
    · have hd : decide ((n : Int) < (L : Int)) = true := by simp; omega
      refine Rn.reg hc rfl ?_
      simp only [sev_tmp, gd, want_free, rops, fx, bin_lss, Option.some.injEq, exists_eq_left', s37, s38, hd]
      (repeat (first | refine Rn.seq hc ?_ | refine Rn.skip hc ?_ | refine Rn.block hc ?_ | refine Rn.inBlock hc ?_ | refine Rn.scope hc ?_ | refine Rn.inScope hc ?_))
      refine Rn.condE hc rfl ?_
      simp only [sev_tmp, sg_eq, Nat.reduceLT, Value.bool.injEq, exists_eq_left', hn]
      (repeat (first | refine Rn.seq hc ?_ | refine Rn.skip hc ?_ | refine Rn.block hc ?_ | refine Rn.inBlock hc ?_ | refine Rn.scope hc ?_ | refine Rn.inScope hc ?_))
      refine Rn.reg hc rfl ?_
      simp only [sev_tmp, sg_eq, sg_ne, sp_n, Nat.reduceLT, ne_eq, Nat.reduceEqDiff, not_false_eq_true, gd, want_free, rops, fx, Option.some.injEq, exists_eq_left', hn, s38]
      (repeat (first | refine Rn.seq hc ?_ | refine Rn.skip hc ?_ | refine Rn.block hc ?_ | refine Rn.inBlock hc ?_ | refine Rn.scope hc ?_ | refine Rn.inScope hc ?_))
      refine Rn.region hc fun K hK => ?_
      refine Wo.run hc 2 rfl rfl rfl ?_
      simp (maxSteps := 2000000) only [List.drop_zero, List.take_succ_cons, List.take_zero, sev_tmp, sg_eq, sg_ne, sp_n, Nat.reduceLT, ne_eq, Nat.reduceEqDiff, not_false_eq_true, gd, want_free, rops, fx, Nat.zero_add, Option.some.injEq, exists_eq_left', hn, s7]
      obtain ⟨hsx, hrx, _, _⟩ := hox.nx hA0
      obtain ⟨hsy, hry, _, _⟩ := hoy.nx hA0
      refine Wo.call hc (by rfl) (by rfl) ⟨by rfl, by rfl⟩ (fi := #[.agg #[.int .i64 m, .slice sa st.length sc, .slice ra ro.length rc]]) (ca := #[]) (xs := [.agg #[.int .i64 m, .slice sa st.length sc, .slice ra ro.length rc], .int .i64 (n : Int)]) (by rfl) (by simp only [sev_tmp, sg_eq, sg_ne, sp_n, Nat.reduceLT, ne_eq, Nat.reduceEqDiff, not_false_eq_true, hn]) (by simp only [sev_tmp, sg_eq, sp_n, Nat.reduceLT, List.map_cons, List.map_nil, List.nil_append, List.append_nil, List.cons_append, hn]) (Con.mono (head_stream hA.wf hsx hrx n (by omega) hp (by omega) (by omega)) ?_)
      rintro w B1 ⟨rfl, hy1⟩
      have hA1 : Nx A4.next A4 B1 := hA.trans (hy1.le hA.next)
      have hA01 : Nx A.next A B1 := hx04.trans (hA1.le hx04.next)
      obtain ⟨hsy, hry, _, _⟩ := hoy.nx hA01
      refine Wo.run hc 2 rfl rfl rfl ?_
      simp (maxSteps := 2000000) only [List.drop_zero, List.drop_succ_cons, List.take_succ_cons, List.take_zero, sev_tmp, sg_eq, sg_ne, sp_n, Nat.reduceLT, ne_eq, Nat.reduceEqDiff, not_false_eq_true, gd, want_free, rops, fx, Option.some.injEq, exists_eq_left', Nat.reduceAdd, hn, s8]
      refine Wo.call hc (by rfl) (by rfl) ⟨by rfl, by rfl⟩ (fi := #[.agg #[.int .i64 m', .slice sa' st'.length sc', .slice ra' ro'.length rc']]) (ca := #[]) (xs := [.agg #[.int .i64 m', .slice sa' st'.length sc', .slice ra' ro'.length rc'], .int .i64 (n : Int)]) (by rfl) (by simp only [sev_tmp, sg_eq, sg_ne, sp_n, Nat.reduceLT, ne_eq, Nat.reduceEqDiff, not_false_eq_true, hn]) (by simp only [sev_tmp, sg_eq, sp_n, Nat.reduceLT, List.map_cons, List.map_nil, List.nil_append, List.append_nil, List.cons_append, hn]) (Con.mono (head_stream hA1.wf hsy hry n (by omega) hp' (by omega) (by omega)) ?_)
      rintro w B2 ⟨rfl, hy2⟩
      have hA2 : Nx A4.next A4 B2 := hA1.trans (hy2.le hA1.next)
      by_cases heq : atL st ro n = atL st' ro' n
      · have hd2 : (!(decide (atL st ro n = atL st' ro' n) && decide (m = m'))) = false := by rw [decide_eq_true heq, decide_eq_true hmm]; rfl
        refine Wo.run hc 1 rfl rfl rfl ?_
        simp (maxSteps := 2000000) only [List.drop_zero, List.drop_succ_cons, List.take_succ_cons, List.take_zero, sev_tmp, sg_eq, sg_ne, sp_n, Nat.reduceLT, ne_eq, Nat.reduceEqDiff, not_false_eq_true, gd, want_free, rops, fx, Option.some.injEq, exists_eq_left', Nat.reduceAdd, hn, neq88, hd2]
        refine Wo.done hc rfl (hK _ _ ?_)
        clear hK
        (repeat (first | refine Rn.seq hc ?_ | refine Rn.skip hc ?_ | refine Rn.block hc ?_ | refine Rn.inBlock hc ?_ | refine Rn.scope hc ?_ | refine Rn.inScope hc ?_))
        refine Rn.condE hc rfl ?_
        simp only [sev_tmp, sg_eq, sp_n, Nat.reduceLT, Value.bool.injEq, exists_eq_left', hn]
        (repeat (first | refine Rn.seq hc ?_ | refine Rn.skip hc ?_ | refine Rn.block hc ?_ | refine Rn.inBlock hc ?_ | refine Rn.scope hc ?_ | refine Rn.inScope hc ?_))
        refine Rn.reg hc rfl ?_
        simp only [sev_tmp, sev_const, sg_eq, sg_ne, sp_n, Nat.reduceLT, ne_eq, Nat.reduceEqDiff, not_false_eq_true, gd, want_free, rops, fx, bin_add, Option.some.injEq, exists_eq_left', hn, s38, wrap_succ (show n < 9223372036854775807 by omega)]
        (repeat (first | refine Rn.seq hc ?_ | refine Rn.skip hc ?_ | refine Rn.block hc ?_ | refine Rn.inBlock hc ?_ | refine Rn.scope hc ?_ | refine Rn.inScope hc ?_))
        refine ih _ _ _ (by omega) ⟨n + 1, by omega, rfl, hA2, fun j hj => ?_, by simp only [sp_n, hn], by simp only [sg_ne, ne_eq, Nat.reduceEqDiff, not_false_eq_true, s7], by simp only [sg_ne, ne_eq, Nat.reduceEqDiff, not_false_eq_true, s8], by simp only [sg_ne, ne_eq, Nat.reduceEqDiff, not_false_eq_true, s37], by simp only [sg_eq, sp_n, Nat.reduceLT, hn]⟩
        by_cases hjn : j = n
        · subst hjn; exact heq
        · exact hag j (by omega)
      · have hd2 : (!(decide (atL st ro n = atL st' ro' n) && decide (m = m'))) = true := by rw [decide_eq_false heq]; rfl
        clear ih
        refine Wo.run hc 1 rfl rfl rfl ?_
        simp (maxSteps := 2000000) only [List.drop_zero, List.drop_succ_cons, List.take_succ_cons, List.take_zero, sev_tmp, sg_eq, sg_ne, sp_n, Nat.reduceLT, ne_eq, Nat.reduceEqDiff, not_false_eq_true, gd, want_free, rops, fx, Option.some.injEq, exists_eq_left', Nat.reduceAdd, hn, neq88, hd2]
        refine Wo.done hc rfl (hK _ _ ?_)
        clear hK
        (repeat (first | refine Rn.seq hc ?_ | refine Rn.skip hc ?_ | refine Rn.block hc ?_ | refine Rn.inBlock hc ?_ | refine Rn.scope hc ?_ | refine Rn.inScope hc ?_))
        refine Rn.condE hc rfl ?_
        simp only [sev_tmp, sg_eq, sp_n, Nat.reduceLT, Value.bool.injEq, exists_eq_left', hn]
        (repeat (first | refine Rn.seq hc ?_ | refine Rn.skip hc ?_ | refine Rn.block hc ?_ | refine Rn.inBlock hc ?_ | refine Rn.scope hc ?_ | refine Rn.inScope hc ?_))
        refine Rn.reg hc rfl ?_
        simp only [sev_tmp, sev_const, sg_eq, sg_ne, sp_n, Nat.reduceLT, ne_eq, Nat.reduceEqDiff, not_false_eq_true, gd, want_free, rops, fx, Option.some.injEq, exists_eq_left', hn]
        (repeat (first | refine Rn.seq hc ?_ | refine Rn.skip hc ?_ | refine Rn.block hc ?_ | refine Rn.inBlock hc ?_ | refine Rn.scope hc ?_ | refine Rn.inScope hc ?_))
        refine Rn.ret (endQ_two rfl ⟨hx04.trans (hA2.le hx04.next), fun _ => .inl ⟨n, ?_, heq, hag⟩, fun h => absurd trivial h⟩)
        simp only [sg_eq, sg_ne, sp_n, Nat.reduceLT, ne_eq, Nat.reduceEqDiff, not_false_eq_true, hn]
    · have hd : decide ((n : Int) < (L : Int)) = false := by simp; omega
      have hnL : n = L := by omega
      clear ih
      refine Rn.reg hc rfl ?_
      simp only [sev_tmp, gd, want_free, rops, fx, bin_lss, Option.some.injEq, exists_eq_left', s37, s38, hd]
      (repeat (first | refine Rn.seq hc ?_ | refine Rn.skip hc ?_ | refine Rn.block hc ?_ | refine Rn.inBlock hc ?_ | refine Rn.scope hc ?_ | refine Rn.inScope hc ?_))
      refine Rn.condE hc rfl ?_
      simp only [sev_tmp, sg_eq, Nat.reduceLT, Value.bool.injEq, exists_eq_left', hn]
      (repeat (first | refine Rn.seq hc ?_ | refine Rn.skip hc ?_ | refine Rn.block hc ?_ | refine Rn.inBlock hc ?_ | refine Rn.scope hc ?_ | refine Rn.inScope hc ?_))
      refine Rn.exit hc rfl ?_
      (repeat (first | refine Rn.seq hc ?_ | refine Rn.skip hc ?_ | refine Rn.block hc ?_ | refine Rn.inBlock hc ?_ | refine Rn.scope hc ?_ | refine Rn.inScope hc ?_))
      refine Rn.reg hc rfl ?_
      simp only [sev_const, gd, want_free, rops, fx, Option.some.injEq, exists_eq_left']
      (repeat (first | refine Rn.seq hc ?_ | refine Rn.skip hc ?_ | refine Rn.block hc ?_ | refine Rn.inBlock hc ?_ | refine Rn.scope hc ?_ | refine Rn.inScope hc ?_))
      refine Rn.ret (endQ_two rfl ⟨hA0, fun _ => .inr ⟨?_, ?_⟩, fun h => absurd trivial h⟩)
      · simp only [sg_eq, sg_ne, sp_n, Nat.reduceLT, ne_eq, Nat.reduceEqDiff, not_false_eq_true, hn]
      · exact agree_all ((atL_per (st := st) hp).mono (Nat.le_max_left st.length st'.length)) ((atL_per (st := st') hp').mono (Nat.le_max_right st.length st'.length)) fun j hj => hag j (by omega)
  · have hd0 : (!decide (errs [⟨m, sa, sc, st, ra, rc, ro⟩, ⟨m', sa', sc', st', ra', rc', ro'⟩] [⟨m, sa, sc, st, ra, rc, ro⟩, ⟨m', sa', sc', st', ra', rc', ro'⟩] = 0)) = true := by rw [decide_eq_false he]; rfl
    refine Rn.reg hc rfl ?_
    simp only [sev_tmp, sev_const, sg_eq, sp_n, Nat.reduceLT, gd, want_free, rops, fx, bin_neq, Option.some.injEq, exists_eq_left', hd0]
    (repeat (first | refine Rn.seq hc ?_ | refine Rn.skip hc ?_ | refine Rn.block hc ?_ | refine Rn.inBlock hc ?_ | refine Rn.scope hc ?_ | refine Rn.inScope hc ?_))
    refine Rn.condE hc rfl ?_
    simp only [sev_tmp, sg_eq, sp_n, Nat.reduceLT, Value.bool.injEq, exists_eq_left']
    (repeat (first | refine Rn.seq hc ?_ | refine Rn.skip hc ?_ | refine Rn.block hc ?_ | refine Rn.inBlock hc ?_ | refine Rn.scope hc ?_ | refine Rn.inScope hc ?_))
    refine Rn.reg hc rfl ?_
    simp only [sev_tmp, sev_const, sg_eq, sg_ne, sp_n, Nat.reduceLT, ne_eq, Nat.reduceEqDiff, not_false_eq_true, gd, want_free, rops, fx, Option.some.injEq, exists_eq_left']
    (repeat (first | refine Rn.seq hc ?_ | refine Rn.skip hc ?_ | refine Rn.block hc ?_ | refine Rn.inBlock hc ?_ | refine Rn.scope hc ?_ | refine Rn.inScope hc ?_))
    refine Rn.ret (endQ_two rfl ⟨hx04, fun h => absurd h he, fun _ => ?_⟩)
    simp only [sg_eq, sg_ne, sp_n, Nat.reduceLT, ne_eq, Nat.reduceEqDiff, not_false_eq_true]

theorem same_run {A : AHeap} (hw : WF A) {x y : Las} (hox : x.ok A) (hoy : y.ok A) :
    Con Try.prog 20 [x.v, y.v] A (fun v A1 => Nx A.next A A1 ∧ (errs [x, y] [x, y] = 0 → ∃ b, v = .tuple #[.bool b, .int .i64 0] ∧ (b = true ↔ ∀ n, x.s n = y.s n)) ∧ (errs [x, y] [x, y] ≠ 0 → v = .tuple #[.bool false, .int .i64 (errs [x, y] [x, y])])) := by
  refine con_of_rn hc Try.func20 rfl (Nat.le_of_ble_eq_true rfl) ?_
  obtain ⟨A1, e1, hx1, hn1, b0, b1, b2⟩ := box3 hw (.int .i64 x.m) (.slice x.sa x.st.length x.sc) (.slice x.ra x.ro.length x.rc) 24
  obtain ⟨A2, e2, hx2, hn2, c0, c1, c2⟩ := box3 hx1.wf (.int .i64 y.m) (.slice y.sa y.st.length y.sc) (.slice y.ra y.ro.length y.rc) 24
  have hx02 : Nx A.next A A2 := hx1.trans (hx2.le hx1.next)
  have b0 := (hx2.cl (show A.next < A1.next by omega) 0).trans b0
  have b1 := (hx2.cl (show A.next < A1.next by omega) 1).trans b1
  have b2 := (hx2.cl (show A.next < A1.next by omega) 2).trans b2
  rw [s_in2]
  (repeat (first | refine Rn.seq hc ?_ | refine Rn.skip hc ?_ | refine Rn.block hc ?_ | refine Rn.inBlock hc ?_ | refine Rn.scope hc ?_ | refine Rn.inScope hc ?_))
  refine Rn.reg hc rfl ?_
  simp only [sev_tmp, sev_const, sg_eq, sg_ne, sp_n, Nat.reduceLT, ne_eq, Nat.reduceEqDiff, not_false_eq_true, gd, want_free, rops, fx, Option.some.injEq, exists_eq_left', Value.cells, show Try.f20.ntmps = 20 from rfl, Las.v, e1, e2]
  (repeat (first | refine Rn.seq hc ?_ | refine Rn.skip hc ?_ | refine Rn.block hc ?_ | refine Rn.inBlock hc ?_ | refine Rn.scope hc ?_ | refine Rn.inScope hc ?_))
  refine Rn.region hc fun K hK => ?_
  refine Wo.run hc 2 rfl rfl rfl ?_
  simp (maxSteps := 2000000) only [List.drop_zero, List.take_succ_cons, List.take_zero, sev_tmp, sg_eq, sg_ne, sp_n, Nat.reduceLT, ne_eq, Nat.reduceEqDiff, not_false_eq_true, gd, want_free, rops, fx, ld, adr_p, cls, Nat.zero_add, Option.some.injEq, exists_eq_left', Nat.reduceAdd, tk24, b0, b1, b2, c0, c1, c2]
  refine Wo.call hc (by rfl) (by rfl) ⟨by rfl, by rfl⟩ (xs := [x.v, y.v]) (by rfl) (by rfl) (by rfl) (Con.mono (apart_run hx2.wf (hox.nx hx02) (hoy.nx hx02)) ?_)
  rintro w A3 ⟨hx3, hq, hqe⟩
  have hx03 : Nx A.next A A3 := hx02.trans (hx3.le hx02.next)
  by_cases he : errs [x, y] [x, y] = 0
  · rcases hq he with ⟨n, rfl, h1, h2⟩ | ⟨rfl, h1⟩
    · refine Wo.run hc 5 rfl rfl rfl ?_
      simp (maxSteps := 2000000) only [List.drop_zero, List.drop_succ_cons, List.take_succ_cons, List.take_zero, sev_tmp, sg_eq, sg_ne, sp_n, Nat.reduceLT, ne_eq, Nat.reduceEqDiff, not_false_eq_true, gd, want_free, rops, fx, ext, List.getElem?_toArray, List.getElem?_cons_zero, List.getElem?_cons_succ, Option.some.injEq, exists_eq_left', Nat.reduceAdd, ext]
      refine Wo.done hc rfl (hK _ _ ?_)
      clear hK
      (repeat (first | refine Rn.seq hc ?_ | refine Rn.skip hc ?_ | refine Rn.block hc ?_ | refine Rn.inBlock hc ?_ | refine Rn.scope hc ?_ | refine Rn.inScope hc ?_))
      refine Rn.reg hc rfl ?_
      simp only [sev_tmp, sg_eq, sp_n, Nat.reduceLT, gd, want_free, rops, fx, Option.some.injEq, exists_eq_left']
      (repeat (first | refine Rn.seq hc ?_ | refine Rn.skip hc ?_ | refine Rn.block hc ?_ | refine Rn.inBlock hc ?_ | refine Rn.scope hc ?_ | refine Rn.inScope hc ?_))
      refine Rn.reg hc rfl ?_
      simp only [sev_tmp, sev_const, sg_eq, sp_n, Nat.reduceLT, gd, want_free, rops, fx, bin_eql, Option.some.injEq, exists_eq_left', show decide ((0 : Int) = 6) = false from rfl]
      (repeat (first | refine Rn.seq hc ?_ | refine Rn.skip hc ?_ | refine Rn.block hc ?_ | refine Rn.inBlock hc ?_ | refine Rn.scope hc ?_ | refine Rn.inScope hc ?_))
      refine Rn.condE hc rfl ?_
      simp only [sev_tmp, sg_eq, sp_n, Nat.reduceLT, Value.bool.injEq, exists_eq_left']
      (repeat (first | refine Rn.seq hc ?_ | refine Rn.skip hc ?_ | refine Rn.block hc ?_ | refine Rn.inBlock hc ?_ | refine Rn.scope hc ?_ | refine Rn.inScope hc ?_))
      refine Rn.reg hc rfl ?_
      simp only [sev_tmp, sev_const, sg_eq, sg_ne, sp_n, Nat.reduceLT, ne_eq, Nat.reduceEqDiff, not_false_eq_true, gd, want_free, rops, fx, bin_eql, Option.some.injEq, exists_eq_left', eq_self, decide_true]
      (repeat (first | refine Rn.seq hc ?_ | refine Rn.skip hc ?_ | refine Rn.block hc ?_ | refine Rn.inBlock hc ?_ | refine Rn.scope hc ?_ | refine Rn.inScope hc ?_))
      refine Rn.condE hc rfl ?_
      simp only [sev_tmp, sg_eq, sp_n, Nat.reduceLT, Value.bool.injEq, exists_eq_left']
      (repeat (first | refine Rn.seq hc ?_ | refine Rn.skip hc ?_ | refine Rn.block hc ?_ | refine Rn.inBlock hc ?_ | refine Rn.scope hc ?_ | refine Rn.inScope hc ?_))
      refine Rn.reg hc rfl ?_
      simp only [sev_const, gd, want_free, rops, fx, Option.some.injEq, exists_eq_left']
      (repeat (first | refine Rn.seq hc ?_ | refine Rn.skip hc ?_ | refine Rn.block hc ?_ | refine Rn.inBlock hc ?_ | refine Rn.scope hc ?_ | refine Rn.inScope hc ?_))
      refine Rn.ret (endQ_two rfl ⟨hx03, fun _ => ⟨false, ?_, by simp; exact ⟨n, h1⟩⟩, fun h => absurd he h⟩)
      simp only [sg_eq, sg_ne, sp_n, Nat.reduceLT, ne_eq, Nat.reduceEqDiff, not_false_eq_true]
    · refine Wo.run hc 5 rfl rfl rfl ?_
      simp (maxSteps := 2000000) only [List.drop_zero, List.drop_succ_cons, List.take_succ_cons, List.take_zero, sev_tmp, sg_eq, sg_ne, sp_n, Nat.reduceLT, ne_eq, Nat.reduceEqDiff, not_false_eq_true, gd, want_free, rops, fx, ext, List.getElem?_toArray, List.getElem?_cons_zero, List.getElem?_cons_succ, Option.some.injEq, exists_eq_left', Nat.reduceAdd, ext]
      refine Wo.done hc rfl (hK _ _ ?_)
      clear hK
      (repeat (first | refine Rn.seq hc ?_ | refine Rn.skip hc ?_ | refine Rn.block hc ?_ | refine Rn.inBlock hc ?_ | refine Rn.scope hc ?_ | refine Rn.inScope hc ?_))
      refine Rn.reg hc rfl ?_
      simp only [sev_tmp, sg_eq, sp_n, Nat.reduceLT, gd, want_free, rops, fx, Option.some.injEq, exists_eq_left']
      (repeat (first | refine Rn.seq hc ?_ | refine Rn.skip hc ?_ | refine Rn.block hc ?_ | refine Rn.inBlock hc ?_ | refine Rn.scope hc ?_ | refine Rn.inScope hc ?_))
      refine Rn.reg hc rfl ?_
      simp only [sev_tmp, sev_const, sg_eq, sp_n, Nat.reduceLT, gd, want_free, rops, fx, bin_eql, Option.some.injEq, exists_eq_left', eq_self, decide_true]
      (repeat (first | refine Rn.seq hc ?_ | refine Rn.skip hc ?_ | refine Rn.block hc ?_ | refine Rn.inBlock hc ?_ | refine Rn.scope hc ?_ | refine Rn.inScope hc ?_))
      refine Rn.condE hc rfl ?_
      simp only [sev_tmp, sg_eq, sp_n, Nat.reduceLT, Value.bool.injEq, exists_eq_left']
      (repeat (first | refine Rn.seq hc ?_ | refine Rn.skip hc ?_ | refine Rn.block hc ?_ | refine Rn.inBlock hc ?_ | refine Rn.scope hc ?_ | refine Rn.inScope hc ?_))
      refine Rn.reg hc rfl ?_
      simp only [sev_const, gd, want_free, rops, fx, Option.some.injEq, exists_eq_left']
      (repeat (first | refine Rn.seq hc ?_ | refine Rn.skip hc ?_ | refine Rn.block hc ?_ | refine Rn.inBlock hc ?_ | refine Rn.scope hc ?_ | refine Rn.inScope hc ?_))
      refine Rn.ret (endQ_two rfl ⟨hx03, fun _ => ⟨true, ?_, by simpa using h1⟩, fun h => absurd he h⟩)
      simp only [sg_eq, sg_ne, sp_n, Nat.reduceLT, ne_eq, Nat.reduceEqDiff, not_false_eq_true]
  · have := hqe he
    subst this
    have hn6 : errs [x, y] [x, y] ≠ 6 := by
      rw [errs_two]
      have e6 : ∀ z : Las, z.err ≠ 6 := fun z => by
        unfold Las.err errL
        split
        · decide
        · split
          · decide
          · split <;> decide
      split
      · exact e6 x
      · split
        · exact e6 y
        · split <;> decide
    have d1 : decide (errs [x, y] [x, y] = 6) = false := by simpa using hn6
    have d2 : decide (errs [x, y] [x, y] = 0) = false := by simpa using he
    refine Wo.run hc 5 rfl rfl rfl ?_
    simp (maxSteps := 2000000) only [List.drop_zero, List.drop_succ_cons, List.take_succ_cons, List.take_zero, sev_tmp, sg_eq, sg_ne, sp_n, Nat.reduceLT, ne_eq, Nat.reduceEqDiff, not_false_eq_true, gd, want_free, rops, fx, ext, List.getElem?_toArray, List.getElem?_cons_zero, List.getElem?_cons_succ, Option.some.injEq, exists_eq_left', Nat.reduceAdd, ext]
    refine Wo.done hc rfl (hK _ _ ?_)
    clear hK
    (repeat (first | refine Rn.seq hc ?_ | refine Rn.skip hc ?_ | refine Rn.block hc ?_ | refine Rn.inBlock hc ?_ | refine Rn.scope hc ?_ | refine Rn.inScope hc ?_))
    refine Rn.reg hc rfl ?_
    simp only [sev_tmp, sg_eq, sp_n, Nat.reduceLT, gd, want_free, rops, fx, Option.some.injEq, exists_eq_left']
    (repeat (first | refine Rn.seq hc ?_ | refine Rn.skip hc ?_ | refine Rn.block hc ?_ | refine Rn.inBlock hc ?_ | refine Rn.scope hc ?_ | refine Rn.inScope hc ?_))
    refine Rn.reg hc rfl ?_
    simp only [sev_tmp, sev_const, sg_eq, sp_n, Nat.reduceLT, gd, want_free, rops, fx, bin_eql, Option.some.injEq, exists_eq_left', d1]
    (repeat (first | refine Rn.seq hc ?_ | refine Rn.skip hc ?_ | refine Rn.block hc ?_ | refine Rn.inBlock hc ?_ | refine Rn.scope hc ?_ | refine Rn.inScope hc ?_))
    refine Rn.condE hc rfl ?_
    simp only [sev_tmp, sg_eq, sp_n, Nat.reduceLT, Value.bool.injEq, exists_eq_left']
    (repeat (first | refine Rn.seq hc ?_ | refine Rn.skip hc ?_ | refine Rn.block hc ?_ | refine Rn.inBlock hc ?_ | refine Rn.scope hc ?_ | refine Rn.inScope hc ?_))
    refine Rn.reg hc rfl ?_
    simp only [sev_tmp, sev_const, sg_eq, sg_ne, sp_n, Nat.reduceLT, ne_eq, Nat.reduceEqDiff, not_false_eq_true, gd, want_free, rops, fx, bin_eql, Option.some.injEq, exists_eq_left', d2]
    (repeat (first | refine Rn.seq hc ?_ | refine Rn.skip hc ?_ | refine Rn.block hc ?_ | refine Rn.inBlock hc ?_ | refine Rn.scope hc ?_ | refine Rn.inScope hc ?_))
    refine Rn.condE hc rfl ?_
    simp only [sev_tmp, sg_eq, sp_n, Nat.reduceLT, Value.bool.injEq, exists_eq_left']
    (repeat (first | refine Rn.seq hc ?_ | refine Rn.skip hc ?_ | refine Rn.block hc ?_ | refine Rn.inBlock hc ?_ | refine Rn.scope hc ?_ | refine Rn.inScope hc ?_))
    refine Rn.reg hc rfl ?_
    simp only [sev_tmp, sev_const, sg_eq, sg_ne, sp_n, Nat.reduceLT, ne_eq, Nat.reduceEqDiff, not_false_eq_true, gd, want_free, rops, fx, Option.some.injEq, exists_eq_left']
    (repeat (first | refine Rn.seq hc ?_ | refine Rn.skip hc ?_ | refine Rn.block hc ?_ | refine Rn.inBlock hc ?_ | refine Rn.scope hc ?_ | refine Rn.inScope hc ?_))
    refine Rn.ret (endQ_two rfl ⟨hx03, fun h => absurd h he, fun _ => ?_⟩)
    simp only [sg_eq, sg_ne, sp_n, Nat.reduceLT, ne_eq, Nat.reduceEqDiff, not_false_eq_true]
end Go.Proofs.Ytdaljohmfnfgiaa
/- The reference's least stream. No condition. -/
namespace Go.Proofs.Ytdaljohmfnfgiaa
open Go Go.RowKit Go.Proofs.Ytdaljohmfnfgiaa.Canon
set_option maxRecDepth 20000


end Go.Proofs.Ytdaljohmfnfgiaa
/- The reference's least stream: what is popped off. No condition. -/
namespace Go.Proofs.Ytdaljohmfnfgiaa
open Go Go.RowKit Go.Proofs.Ytdaljohmfnfgiaa.Canon
set_option maxRecDepth 20000


theorem Ints.take {A : AHeap} {a : Option Addr} {lo hi n : Nat} {l : List Int} (h : Ints A a lo hi l) : Ints A a lo hi (l.take n) := fun i hi' => by
  have hl : i < l.length := by simp at hi'; omega
  have hn : i < n := by simp at hi'; omega
  obtain ⟨b, o, q1, q2, q3, q4⟩ := h i hl
  refine ⟨b, o, q1, q2, q3, ?_⟩
  rw [q4]
  simp only [List.getD_eq_getElem?_getD, List.getElem?_take]
  rw [if_pos hn]
end Go.Proofs.Ytdaljohmfnfgiaa
/- The reference's least stream. No condition. -/
namespace Go.Proofs.Ytdaljohmfnfgiaa
open Go Go.RowKit Go.Proofs.Ytdaljohmfnfgiaa.Canon
set_option maxRecDepth 20000


end Go.Proofs.Ytdaljohmfnfgiaa
/- The reference's results, and its Least. No condition. -/
namespace Go.Proofs.Ytdaljohmfnfgiaa
open Go Go.RowKit Go.Proofs.Ytdaljohmfnfgiaa.Canon
set_option maxRecDepth 20000


/-- A result's variable is written. -/
theorem res_put {A0 D : AHeap} {b n : Nat} (hl : Canon.look A0.objs b = some ⟨.cells #[.int .i64 0, .slice none 0 0, .slice none 0 0] 24, false, 0⟩) (hb : b < n) (hD : Nx n A0 D) {v0 v1 v2 : Value} (hv : [v0, v1, v2].all isCell = true) :
    ∃ D', sts D b 0 [v0, v1, v2] = some D' ∧ D'.next = D.next ∧ WF D' ∧ (∀ b', b' ≠ b → Canon.look D'.objs b' = Canon.look D.objs b') ∧ cl D' b 0 = some v0 ∧ cl D' b 1 = some v1 ∧ cl D' b 2 = some v2 := by
  obtain ⟨D', c', q1, q2, q3, q4⟩ := sts_upd (l := [v0, v1, v2]) (o := 0) ((hD.keep b hb).trans hl) rfl (by simp) hv
  exact ⟨D', q1, q2.next, (q2.nx hD.wf (Nat.zero_le _)).wf, q2.off, by rw [q2.cl, q4]; rfl, by rw [q2.cl, q4]; rfl, by rw [q2.cl, q4]; rfl⟩

end Go.Proofs.Ytdaljohmfnfgiaa
/- The reference's Least, its errors of two, its common multiples. No condition. -/
namespace Go.Proofs.Ytdaljohmfnfgiaa
open Go Go.RowKit Go.Proofs.Ytdaljohmfnfgiaa.Canon
set_option maxRecDepth 20000


/-- The least common multiple, as it is made. -/
def lcmN (a b : Nat) : Nat := a / Nat.gcd a b * b
end Go.Proofs.Ytdaljohmfnfgiaa
/- Where two streams differ, and whether they are the same: the reference. No condition. -/
namespace Go.Proofs.Ytdaljohmfnfgiaa
open Go Go.RowKit Go.Proofs.Ytdaljohmfnfgiaa.Canon
set_option maxRecDepth 20000


theorem ApartQ.uniq {s t : Nat → Int} {v w : Value} (h : ApartQ s t v) (k : ApartQ s t w) : v = w := by
  rcases h with ⟨n, rfl, h1, h2⟩ | ⟨rfl, h1⟩
  · rcases k with ⟨n', rfl, k1, k2⟩ | ⟨rfl, k1⟩
    · have : n = n' := by
        rcases Nat.lt_trichotomy n n' with hh | hh | hh
        · exact absurd (k2 n hh) h1
        · exact hh
        · exact absurd (h2 n' hh) k1
      subst this
      rfl
    · exact absurd (k1 n) h1
  · rcases k with ⟨n', rfl, k1, k2⟩ | ⟨rfl, k1⟩
    · exact absurd (h1 n') k1
    · rfl
end Go.Proofs.Ytdaljohmfnfgiaa
/- A stream's memory is changed. No condition. -/
namespace Go.Proofs.Ytdaljohmfnfgiaa
open Go Go.RowKit Go.Proofs.Ytdaljohmfnfgiaa.Canon
set_option maxRecDepth 20000


/-- A row that may be written. -/
def Wrt (A : AHeap) (a : Option Addr) (lo hi n : Nat) : Prop := 0 < n → ∃ b o c t f g e, a = some ⟨b, o, none⟩ ∧ (lo ≤ b ∧ b < hi) ∧ Canon.look A.objs b = some ⟨.cells c t f, g, e⟩ ∧ isRO g e = false ∧ o + n ≤ c.size
theorem Gr.wrt {A : AHeap} {a : Option Addr} {lo : Nat} {l : List Int} (h : Gr A a lo l) : Wrt A a lo A.next l.length := fun hpos => by
  obtain ⟨b, o, e, q2, q3, q4⟩ := h.ints (l.length - 1) (by omega)
  obtain ⟨y, h1, h2⟩ := h.wr _ e
  obtain ⟨ob, g, z⟩ := y
  obtain ⟨_, c, t, f, g', z', hlk, hc, _⟩ := AHeap.cell_eq q4
  simp only at hlk h1 h2
  rw [hlk] at h1
  cases h1
  have := (Array.getElem?_eq_some_iff.1 hc).1
  exact ⟨b, o, c, t, f, _, _, e, ⟨q2, q3⟩, hlk, h2, by simp only at this; omega⟩
/-- Memory of the same shape, the same below a bound. -/
structure Szs (lo hi : Nat) (A B : AHeap) : Prop where
  next : B.next = A.next
  wf : WF B
  sz : ∀ b c t f g e, Canon.look A.objs b = some ⟨.cells c t f, g, e⟩ → ∃ c', c'.size = c.size ∧ Canon.look B.objs b = some ⟨.cells c' t f, g, e⟩
  keep : ∀ b, (b < lo ∨ hi ≤ b) → Canon.look B.objs b = Canon.look A.objs b
theorem Szs.refl {A : AHeap} (h : WF A) (lo hi : Nat) : Szs lo hi A A := ⟨rfl, h, fun b c t f g e q => ⟨c, rfl, q⟩, fun _ _ => rfl⟩
theorem Szs.trans {lo hi : Nat} {A B C : AHeap} (h : Szs lo hi A B) (k : Szs lo hi B C) : Szs lo hi A C := ⟨k.next.trans h.next, k.wf, fun b c t f g e q => by
  obtain ⟨c', e1, q1⟩ := h.sz b c t f g e q
  obtain ⟨c'', e2, q2⟩ := k.sz b c' t f g e q1
  exact ⟨c'', e2.trans e1, q2⟩, fun b hb => (k.keep b hb).trans (h.keep b hb)⟩
theorem Szs.of_upd {A B : AHeap} {b lo hi : Nat} {c c' : Array Value} {t : TypeId} {f : Nat × Nat} {g : Bool} {e : Nat} (hw : WF A) (hl : Canon.look A.objs b = some ⟨.cells c t f, g, e⟩) (hb : lo ≤ b ∧ b < hi) (h : Upd A b c' B) (hs : c'.size = c.size) : Szs lo hi A B :=
  ⟨h.next, (h.nx hw (Nat.zero_le _)).wf, fun b' c1 t1 f1 g1 e1 q => by
    by_cases hbb : b' = b
    · subst hbb
      obtain ⟨c2, t2, f2, g2, e2, r1, r2, _⟩ := h.at'
      rw [hl] at r1 q
      cases r1
      cases q
      exact ⟨c', hs, r2⟩
    · exact ⟨c1, rfl, (h.off _ hbb).trans q⟩, fun b' hb' => h.off _ (by omega)⟩
theorem zeroCells_int (n : Nat) : ∃ l : List Value, (Builtin.zeroCells (Value.int .i64 0).cells n).toList = l ∧ l.length = n ∧ l.all isCell = true := by
  refine ⟨_, rfl, ?_, ?_⟩
  · simp [Builtin.zeroCells, Value.cells]
  · rw [List.all_eq_true]
    intro v hv
    simp [Builtin.zeroCells, Value.cells] at hv
    obtain ⟨i, hi, rfl⟩ := hv
    simp [isCell, Nat.mod_one]
theorem ae_clear {d : Option Tmp} {ty : TypeId} {pos : String} {af : Array Edge} {gu : Option (Nat × Bool)} {s : Slots} {x : Tmp} {A : AHeap} {a : Option Addr} {lo hi n c : Nat} (hw : WF A) (h : Wrt A a lo hi n) (hx : sget s x = .slice a n c) :
    ∃ B, aexec Try.prog (seval s) ⟨d, .call ⟨.builtin .clear, #[.tmp x], #[22]⟩, ty, pos, af, gu⟩ A = some (.tuple #[], B) ∧ Szs lo hi A B := by
  obtain ⟨_, i, z, hinf, hz, hzz, _, _, _⟩ := elB_eq el22
  have hz' : z = .int .i64 0 := by
    have := ze3
    unfold zeroOf at this
    rw [hz, hinf] at this
    simp only [hzz] at this
    exact Option.some.inj this
  subst hz'
  have hun : aexec Try.prog (seval s) ⟨d, .call ⟨.builtin .clear, #[.tmp x], #[22]⟩, ty, pos, af, gu⟩ A = arun Try.prog (Builtin.clear_ #[22] ty #[.slice a n c]) A := by
    simp only [aexec, Op.operands, Call.operands]
    simp [opnOK, abuiltin, sev_tmp, hx, hz]
  rw [hun]
  cases n with
  | zero =>
    refine ⟨A, ?_, Szs.refl hw _ _⟩
    cases a <;> simp [Builtin.clear_, Go.underlying]
  | succ k =>
    obtain ⟨b, o, cc, t, f, g, e, rfl, h2, h3, h4, h5⟩ := h (Nat.succ_pos k)
    obtain ⟨l, hl1, hl2, hl3⟩ := zeroCells_int (k + 1)
    obtain ⟨B, c', q1, q2, q3, _⟩ := sts_upd (l := l) (o := o) h3 h4 (by omega) hl3
    refine ⟨B, ?_, Szs.of_upd hw h3 h2 q2 q3⟩
    have hst := sts_run (P := Try.prog) (b := b) (l := l) (o := o) (i := 0) (A := A) (A1 := B) q1
    simp [Builtin.clear_, Go.underlying, Go.zeroValue, Go.typeInfo, hinf, hzz, hl1, hst]

theorem Wo.clear {ops : Array Oper} {i : Nat} {s : Slots} {A : AHeap} {K : Slots → AHeap → Prop} {o : Oper} {x : Tmp} {a : Option Addr} {lo hi n c : Nat} (ho : nth ops.toList i = some o) (hop : o.op = .call ⟨.builtin .clear, #[.tmp x], #[22]⟩) (hwt : wantB (gd ops o) s = true) (hw : WF A) (hW : Wrt A a lo hi n) (hx : sget s x = .slice a n c)
    (h : ∀ B, Szs lo hi A B → Wo Try.prog ops (i + 1) (sput s o.dst (.tuple #[])) B K) : Wo Try.prog ops i s A K := by
  obtain ⟨d, op, ty, pos, af, gu⟩ := o
  simp only at hop
  subst hop
  obtain ⟨B, q1, q2⟩ := ae_clear (d := d) (ty := ty) (pos := pos) (af := af) (gu := gu) hw hW hx
  exact Wo.op hc bno_ok ho (.inr ⟨hwt, .inr ⟨(fun f args ats e => by cases e), q1⟩⟩) (h B q2)
end Go.Proofs.Ytdaljohmfnfgiaa
/- The examples of the lasso's chapter are met: awake returns true, from every world, and what was there stays. No condition. -/
namespace Go.Proofs.Ytdaljohmfnfgiaa
open Go Go.RowKit Go.Proofs.Ytdaljohmfnfgiaa.Canon
theorem awake_runs : btells Try.prog (xquick Try.prog) (qregion Try.prog (xquick Try.prog)) 100000 16 1000 = true := by kernel_rfl
theorem awake_true (w : World) : Calls Try.prog 16 #[] w (fun e w' => e = .returned (.bool true) ∧ Below w.heap.size w w') := calls_of_btells hc hx xquick_ok (qregion_ok xquick_ok) awake_runs w
theorem awake_con (A : AHeap) : Con Try.prog 16 [] A (fun v A1 => v = .bool true ∧ A1 = A) := by
  refine ⟨.bool true, A, ⟨⟨_, Try.func16, rfl⟩, fun N => ?_⟩, rfl, rfl⟩
  refine ret_of_calls (fun N φ w xs' hr hs hN => ?_) N
  have : xs' = #[] := Array.eq_empty_of_size_eq_zero hr.1.symm
  subst this
  refine (awake_true w).mono fun en w' hp => ?_
  obtain ⟨rfl, hb⟩ := hp
  exact ⟨φ, _, rfl, Phi.le_refl _, .bool _, hs.below hb, hb.os, hb.tape, hb.output, hb.size, fun k hk => hb.block k (hN k hk)⟩
end Go.Proofs.Ytdaljohmfnfgiaa
/- What the arguments of the lasso's laws are in a world, and what their rows ask for. No condition. -/
namespace Go.Proofs.Ytdaljohmfnfgiaa
section
open Go Go.RowKit Go.Proofs.Ytdaljohmfnfgiaa.Canon
/-- The numbers of a slice, in a world. -/
def IntsW (W : World) (a : Option Addr) (l : List Int) : Prop := ∀ i, i < l.length → ∃ b o, a = some ⟨b, o, none⟩ ∧ W.cell? ⟨b, o + i, none⟩ = some (.int .i64 (l.getD i 0))
theorem cell_heap {W : World} {b o : Nat} {v : Value} (h : W.cell? ⟨b, o, none⟩ = some v) : ∃ c t f, W.heap[b]? = some (.cells c t f) ∧ c[o]? = some v := by
  unfold World.cell? at h
  cases hb : W.heap[b]? with
  | none => simp [hb] at h
  | some x =>
    cases x <;> simp [hb] at h
    exact ⟨_, _, _, rfl, h⟩
theorem IntsW.ints {W : World} {z : Nat} {A : AHeap} (hA : In W z A) {a : Option Addr} {l : List Int} (h : IntsW W a l) : Ints A a 0 A.next l := fun i hi => by
  obtain ⟨b, o, rfl, hc⟩ := h i hi
  obtain ⟨c, t, f, h1, h2⟩ := cell_heap hc
  have hlt : b < W.heap.size := (Array.getElem?_eq_some_iff.1 h1).1
  exact ⟨b, o, rfl, Nat.zero_le _, by rw [hA.next]; have := hA.big; omega, hA.cl h1 h2 rfl⟩
def blkOf : Option Addr → Nat
  | some a => a.block + 1
  | none => 0
theorem roV_slice {z : Nat} {a : Option Addr} {n c : Nat} (hs : ∀ x, a = some x → x.spot = none) (hb : blkOf a ≤ z) : roV z (.slice a n c) = true := by
  cases a with
  | none => rfl
  | some x =>
    obtain ⟨b, o, s⟩ := x
    have := hs _ rfl
    simp only at this
    subst this
    have hb : b + 1 ≤ z := hb
    show Nat.blt b z = true
    rw [Nat.blt_eq]
    omega
end
section
open Go.ChangeShapes Go.WideShapes Go.ChangeAt Go.RowKit Go.Proofs.Ytdaljohmfnfgiaa.Canon
open Go.Deep (open_slice_pairs open_slice)
theorem Try.own : ownKnob Try.prog.godebug = none := by kernel_rfl
theorem Try.laidOut : laidOutB Try.prog = true := by kernel_rfl
section
variable {H : Type} {enc : TypeId × Value → H} {P : Program}
/-- The row's last step, where of the world behind the call it is known that nothing old has turned. -/
theorem post_of_below {f : Func} {s : ChangeSpec} {apart fresh handsOn again : Bool} {W W' : World} {args : Array Value} {v : Value} {ds gs : List (DataW H)} {before pa pv : List MemPlace}
    (hW : DataW.Whole enc P f.params.toList s.vars apart W args.toList ds gs before)
    (hres : ∀ (b : Nat) (sp : Nat → Bool) (hd : Bool), DataW.TrodAll enc P W' b sp hd f.resultTypes.toList (v.resultList f.resultTypes.size) (s.fn H (ds ++ gs)).results [])
    (hargs : ∀ sp : Nat → Bool, (∀ p ∈ before, sp p.block = true) → DataW.TrodAll enc P W' 0 sp true f.params.toList args.toList (s.fn H (ds ++ gs)).args pa)
    (hvars : ∀ sp : Nat → Bool, (∀ p ∈ before, sp p.block = true) → DataW.TrodVars enc P W' sp s.vars (s.fn H (ds ++ gs)).vars pv)
    (hps : before = pa ++ pv) (hb : Below W.heap.size W W')
    (hok : ∀ (j : Nat) (t : TypeId) (r : Value), f.resultTypes[j]? = some t → (v.resultList f.resultTypes.size)[j]? = some r → Value.okWide P W' .any 0 t r) :
    s.post enc P f apart fresh handsOn again W args v W' := by
  have hlt : ∀ p ∈ before, p.block < W.heap.size := fun p hp => hW.lt p hp
  have hold : ∀ p ∈ before, (fun b => decide (b < W.heap.size)) p.block = true := fun p hp => by simpa using hlt p hp
  refine ⟨ds, gs, before, [], pa, pv, hW, hres _ _ _, hargs _ hold, hvars _ hold, World.keptBut_mono (fun p hp => ⟨hp, ?_⟩) (hb.frame (· ∈ before)), fun _ => ?_⟩
  · rw [hps, List.mem_append] at hp
    exact Or.inr hp
  · obtain ⟨_, _, _, _, _, hz, hn⟩ := hW
    refine ⟨hok, _, _, ([] ++ pa) ++ pv, ⟨[] ++ pa, pv, trodAll_append (hargs _ (fun _ _ => rfl)) (hres _ _ _), hvars _ (fun _ _ => rfl), rfl, ?_, ?_⟩, ?_⟩
    · intro b off hp
      have hin : MemPlace.cell b off ∈ before := by rw [hps]; simpa using hp
      rw [hb.frozen (hlt _ hin)]
      exact hz b off hin
    · intro ha
      have := hn ha
      rw [hps] at this
      simpa using this
    · intro p hp _
      rw [hps]
      simpa using hp
end

theorem cell_slice {P : Program} {w : World} {b : Nat} {t e : TypeId} (ht : P.underlying t = some (.slice e)) {v : Value} (h : Cell.okWide P w .any b t v) : ∃ a n c, v = .slice a n c ∧ ∀ x, a = some x → x.spot = none := by
  unfold Cell.okWide at h
  rw [ht] at h
  cases v <;> simp [Cell.ok, ht] at h
  case slice a n c =>
    cases a with
    | none => exact ⟨none, n, c, rfl, fun x hx => by cases hx⟩
    | some a =>
      refine ⟨some a, n, c, rfl, fun x hx => ?_⟩
      cases hx
      simp only at h
      exact h.2.2.2.1
theorem val_cell {P : Program} {w : World} {b : Nat} {t e : TypeId} (ht : P.underlying t = some (.slice e)) {v : Value} (h : Value.okWide P w .any b t v) : Cell.okWide P w .any b t v := by
  unfold Value.okWide at h
  rw [ht] at h
  exact h
end
end Go.Proofs.Ytdaljohmfnfgiaa
/- LassoChecks: what both sides tell is the same. No condition. -/
namespace Go.Proofs.Ytdaljohmfnfgiaa
open Go Go.RowKit Go.Proofs.Ytdaljohmfnfgiaa.Canon
set_option maxRecDepth 20000


/-- What Least comes to. -/
def LP (m : Int) (st ro : List Int) (mm : Int) (L1 L2 : List Int) (ee : Int) : Prop :=
  (errL m st ro ≠ 0 ∧ mm = 0 ∧ L1 = [] ∧ L2 = [] ∧ ee = errL m st ro) ∨
  (errL m st ro = 0 ∧ ∃ a p, Red (atL st ro) a p ∧ (((120 < p ∨ 60 < a) ∧ mm = 0 ∧ L1 = [] ∧ L2 = [] ∧ ee = 11) ∨ (¬ (120 < p ∨ 60 < a) ∧ mm = m ∧ L1 = redS (atL st ro) a ∧ L2 = redR (atL st ro) a p ∧ ee = 0)))
theorem LP.uniq {m : Int} {st ro : List Int} {mm mm' : Int} {L1 L2 L1' L2' : List Int} {ee ee' : Int} (h : LP m st ro mm L1 L2 ee) (k : LP m st ro mm' L1' L2' ee') : mm = mm' ∧ L1 = L1' ∧ L2 = L2' ∧ ee = ee' := by
  rcases h with ⟨h0, rfl, rfl, rfl, rfl⟩ | ⟨h0, a, p, hr, h⟩
  · rcases k with ⟨_, rfl, rfl, rfl, rfl⟩ | ⟨k0, _⟩
    · exact ⟨rfl, rfl, rfl, rfl⟩
    · exact absurd k0 h0
  · rcases k with ⟨k0, _⟩ | ⟨_, a', p', kr, k⟩
    · exact absurd h0 k0
    · obtain ⟨rfl, rfl⟩ := hr.uniq kr
      rcases h with ⟨h1, rfl, rfl, rfl, rfl⟩ | ⟨h1, rfl, rfl, rfl, rfl⟩
      · rcases k with ⟨_, rfl, rfl, rfl, rfl⟩ | ⟨k1, _⟩
        · exact ⟨rfl, rfl, rfl, rfl⟩
        · exact absurd h1 k1
      · rcases k with ⟨k1, _⟩ | ⟨_, rfl, rfl, rfl, rfl⟩
        · exact absurd k1 h1
        · exact ⟨rfl, rfl, rfl, rfl⟩
theorem LP.len {m : Int} {st ro : List Int} {mm : Int} {L1 L2 : List Int} {ee : Int} (h : LP m st ro mm L1 L2 ee) : L1.length ≤ 60 ∧ L2.length ≤ 120 := by
  rcases h with ⟨_, _, rfl, rfl, _⟩ | ⟨_, a, p, _, ⟨_, _, rfl, rfl, _⟩ | ⟨h1, _, rfl, rfl, _⟩⟩
  · simp
  · simp
  · rw [redS_len, redR_len]; omega
/-- Two streams that have the same numbers. -/
def Tw (x x' : Las) : Prop := x.m = x'.m ∧ x.st = x'.st ∧ x.ro = x'.ro
theorem errs_tw {x x' y y' : Las} (hx : Tw x x') (hy : Tw y y') : errs [x, y] [x, y] = errs [x', y'] [x', y'] := by
  rw [errs_two, errs_two]
  unfold Las.err
  rw [hx.1, hx.2.1, hx.2.2, hy.1, hy.2.1, hy.2.2]
theorem apart_tw {x x' y y' : Las} (hx : Tw x x') (hy : Tw y y') {v w : Value} (h : (errs [x, y] [x, y] = 0 → ApartQ x.s y.s v) ∧ (errs [x, y] [x, y] ≠ 0 → v = .tuple #[.int .i64 0, .int .i64 (errs [x, y] [x, y])]))
    (k : (errs [x', y'] [x', y'] = 0 → ApartQ x'.s y'.s w) ∧ (errs [x', y'] [x', y'] ≠ 0 → w = .tuple #[.int .i64 0, .int .i64 (errs [x', y'] [x', y'])])) : ∃ n e, v = .tuple #[.int .i64 n, .int .i64 e] ∧ w = .tuple #[.int .i64 n, .int .i64 e] := by
  have he := errs_tw hx hy
  have hxs : x.s = x'.s := by unfold Las.s; rw [hx.2.1, hx.2.2]
  have hys : y.s = y'.s := by unfold Las.s; rw [hy.2.1, hy.2.2]
  by_cases h0 : errs [x, y] [x, y] = 0
  · have h1 := h.1 h0
    have k1 := k.1 (he ▸ h0)
    rw [← hxs, ← hys] at k1
    have := h1.uniq k1
    subst this
    rcases h1 with ⟨n, rfl, _⟩ | ⟨rfl, _⟩
    · exact ⟨_, _, rfl, rfl⟩
    · exact ⟨_, _, rfl, rfl⟩
  · exact ⟨_, _, h.2 h0, by rw [k.2 (he ▸ h0), ← he]⟩
theorem same_tw {x x' y y' : Las} (hx : Tw x x') (hy : Tw y y') {v w : Value} (h : (errs [x, y] [x, y] = 0 → ∃ b, v = .tuple #[.bool b, .int .i64 0] ∧ (b = true ↔ ∀ n, x.s n = y.s n)) ∧ (errs [x, y] [x, y] ≠ 0 → v = .tuple #[.bool false, .int .i64 (errs [x, y] [x, y])]))
    (k : (errs [x', y'] [x', y'] = 0 → ∃ b, w = .tuple #[.bool b, .int .i64 0] ∧ (b = true ↔ ∀ n, x'.s n = y'.s n)) ∧ (errs [x', y'] [x', y'] ≠ 0 → w = .tuple #[.bool false, .int .i64 (errs [x', y'] [x', y'])])) : ∃ b e, v = .tuple #[.bool b, .int .i64 e] ∧ w = .tuple #[.bool b, .int .i64 e] := by
  have he := errs_tw hx hy
  have hxs : x.s = x'.s := by unfold Las.s; rw [hx.2.1, hx.2.2]
  have hys : y.s = y'.s := by unfold Las.s; rw [hy.2.1, hy.2.2]
  by_cases h0 : errs [x, y] [x, y] = 0
  · obtain ⟨b, rfl, h1⟩ := h.1 h0
    obtain ⟨b', rfl, k1⟩ := k.1 (he ▸ h0)
    rw [← hxs, ← hys] at k1
    have : b = b' := by
      cases b with
      | true => exact ((k1.2 (h1.1 rfl))).symm
      | false =>
        cases b' with
        | false => rfl
        | true => exact absurd (h1.2 (k1.1 rfl)) (by decide)
    subst this
    exact ⟨_, _, rfl, rfl⟩
  · exact ⟨_, _, h.2 h0, by rw [k.2 (he ▸ h0), ← he]⟩
end Go.Proofs.Ytdaljohmfnfgiaa
/- Single elements; what results of streams come to. No condition. -/
namespace Go.Proofs.Ytdaljohmfnfgiaa
open Go Go.RowKit Go.Proofs.Ytdaljohmfnfgiaa.Canon
set_option maxRecDepth 20000


/-- What a stream comes to as a result, or the error. -/
def TP (e m : Int) (s : Nat → Int) (mm : Int) (L1 L2 : List Int) (ee : Int) : Prop :=
  (e ≠ 0 ∧ mm = 0 ∧ L1 = [] ∧ L2 = [] ∧ ee = e) ∨
  (e = 0 ∧ ∃ a p, Red s a p ∧ (((120 < p ∨ 60 < a) ∧ mm = 0 ∧ L1 = [] ∧ L2 = [] ∧ ee = 11) ∨ (¬ (120 < p ∨ 60 < a) ∧ mm = m ∧ L1 = redS s a ∧ L2 = redR s a p ∧ ee = 0)))
theorem TP.uniq {e m : Int} {s : Nat → Int} {mm mm' : Int} {L1 L2 L1' L2' : List Int} {ee ee' : Int} (h : TP e m s mm L1 L2 ee) (k : TP e m s mm' L1' L2' ee') : mm = mm' ∧ L1 = L1' ∧ L2 = L2' ∧ ee = ee' := by
  rcases h with ⟨h0, rfl, rfl, rfl, rfl⟩ | ⟨h0, a, p, hr, h⟩
  · rcases k with ⟨_, rfl, rfl, rfl, rfl⟩ | ⟨k0, _⟩
    · exact ⟨rfl, rfl, rfl, rfl⟩
    · exact absurd k0 h0
  · rcases k with ⟨k0, _⟩ | ⟨_, a', p', kr, k⟩
    · exact absurd h0 k0
    · obtain ⟨rfl, rfl⟩ := hr.uniq kr
      rcases h with ⟨h1, rfl, rfl, rfl, rfl⟩ | ⟨h1, rfl, rfl, rfl, rfl⟩
      · rcases k with ⟨_, rfl, rfl, rfl, rfl⟩ | ⟨k1, _⟩
        · exact ⟨rfl, rfl, rfl, rfl⟩
        · exact absurd h1 k1
      · rcases k with ⟨k1, _⟩ | ⟨_, rfl, rfl, rfl, rfl⟩
        · exact absurd k1 h1
        · exact ⟨rfl, rfl, rfl, rfl⟩
theorem TP.len {e m : Int} {s : Nat → Int} {mm : Int} {L1 L2 : List Int} {ee : Int} (h : TP e m s mm L1 L2 ee) : L1.length ≤ 60 ∧ L2.length ≤ 120 := by
  rcases h with ⟨_, _, rfl, rfl, _⟩ | ⟨_, a, p, _, ⟨_, _, rfl, rfl, _⟩ | ⟨h1, _, rfl, rfl, _⟩⟩
  · simp
  · simp
  · rw [redS_len, redR_len]; omega
/-- The same, as it lies in memory: what the program hands back may be written. -/
def Tld (A : AHeap) (e m : Int) (s : Nat → Int) (v : Value) (A1 : AHeap) : Prop :=
  Nx A.next A A1 ∧ ∃ mm L1 L2 ee p1 c1 p2 c2, TP e m s mm L1 L2 ee ∧ v = .tuple #[.agg #[.int .i64 mm, .slice p1 L1.length c1, .slice p2 L2.length c2], .int .i64 ee] ∧ Ints A1 p1 A.next A1.next L1 ∧ Ints A1 p2 A.next A1.next L2 ∧ Wrt A1 p1 A.next A1.next L1.length ∧ Wrt A1 p2 A.next A1.next L2.length ∧ Sl A1 p1 A.next ∧ Sl A1 p2 A.next ∧ L1.length ≤ c1 ∧ L2.length ≤ c2
def TldR (A : AHeap) (e m : Int) (s : Nat → Int) (v : Value) (A1 : AHeap) : Prop :=
  Nx A.next A A1 ∧ ∃ mm L1 L2 ee p1 c1 p2 c2, TP e m s mm L1 L2 ee ∧ v = .tuple #[.agg #[.int .i64 mm, .slice p1 L1.length c1, .slice p2 L2.length c2], .int .i64 ee] ∧ Ints A1 p1 A.next A1.next L1 ∧ Ints A1 p2 A.next A1.next L2
theorem ints_nil' (A : AHeap) (a : Option Addr) (lo hi : Nat) : Ints A a lo hi [] := fun i hi => by simp at hi
theorem tld_err {A A1 : AHeap} {e m : Int} {s : Nat → Int} (he : e ≠ 0) (hx1 : Nx A.next A A1) : Tld A e m s (.tuple #[.agg #[.int .i64 0, .slice none 0 0, .slice none 0 0], .int .i64 e]) A1 :=
  ⟨hx1, 0, [], [], _, none, 0, none, 0, .inl ⟨he, rfl, rfl, rfl, rfl⟩, rfl, ints_nil' _ _ _ _, ints_nil' _ _ _ _, fun h0 => absurd h0 (by simp), fun h0 => absurd h0 (by simp), fun y hy => (by cases hy), fun y hy => (by cases hy), Nat.le_refl _, Nat.le_refl _⟩
theorem tld_q {A A1 : AHeap} {m : Int} {s : Nat → Int} {a p : Nat} {v : Value} (hr : Red s a p) (h : LeastQ A m s a p v A1) : Tld A 0 m s v A1 := by
  obtain ⟨hx1, hq⟩ := h
  refine ⟨hx1, ?_⟩
  by_cases hl : 120 < p ∨ 60 < a
  · rw [if_pos hl] at hq
    exact ⟨0, [], [], 11, none, 0, none, 0, .inr ⟨rfl, a, p, hr, .inl ⟨hl, rfl, rfl, rfl, rfl⟩⟩, hq, ints_nil' _ _ _ _, ints_nil' _ _ _ _, fun h0 => absurd h0 (by simp), fun h0 => absurd h0 (by simp), fun y hy => (by cases hy), fun y hy => (by cases hy), Nat.le_refl _, Nat.le_refl _⟩
  · rw [if_neg hl] at hq
    obtain ⟨xa, xr, rfl, g1, g2⟩ := hq
    exact ⟨m, _, _, 0, xa, a, xr, p, .inr ⟨rfl, a, p, hr, .inr ⟨hl, rfl, rfl, rfl, rfl⟩⟩, by rw [redS_len, redR_len], g1.ints, g2.ints, g1.wrt, g2.wrt, g1.sl, g2.sl, by rw [redS_len]; exact Nat.le_refl _, by rw [redR_len]; exact Nat.le_refl _⟩
/-- A result is put into the variable of the results; nothing else is written. -/
theorem Tld.put {A B D : AHeap} {e m : Int} {s : Nat → Int} {mm : Int} {L1 L2 : List Int} {ee : Int} {p1 p2 : Option Addr} {c1 c2 lo b : Nat} (hlo : lo ≤ A.next) (hb : b < A.next) (hlb : lo ≤ b) (hT : TP e m s mm L1 L2 ee) (i1 : Ints B p1 A.next B.next L1) (i2 : Ints B p2 A.next B.next L2) (hn : D.next = B.next) (hoff : ∀ b', b' ≠ b → Canon.look D.objs b' = Canon.look B.objs b') :
    Ints D p1 A.next D.next L1 ∧ Ints D p2 A.next D.next L2 := by
  have h : ∀ b', A.next ≤ b' → Canon.look B.objs b' = none ∨ Canon.look D.objs b' = Canon.look B.objs b' := fun b' hb' => .inr (hoff _ (by omega))
  exact ⟨i1.ext h (Nat.le_of_eq hn.symm), i2.ext h (Nat.le_of_eq hn.symm)⟩
theorem Wrt.off {B D : AHeap} {a : Option Addr} {lo n b : Nat} (h : Wrt B a lo B.next n) (hn : D.next = B.next) (hb : b < lo) (hoff : ∀ b', b' ≠ b → Canon.look D.objs b' = Canon.look B.objs b') : Wrt D a lo D.next n := fun hpos => by
  obtain ⟨b', o, c, t, f, g, e, h1, h2, h3, h4, h5⟩ := h hpos
  exact ⟨b', o, c, t, f, g, e, h1, ⟨h2.1, by rw [hn]; exact h2.2⟩, by rw [hoff _ (by omega)]; exact h3, h4, h5⟩

/-- A single element. -/
def nthV (m : Int) (st ro : List Int) (n : Int) : Value := if errL m st ro = 0 then (if n < 0 then .tuple #[.int .i64 0, .int .i64 3] else .tuple #[.int .i64 (atL st ro n.toNat), .int .i64 0]) else .tuple #[.int .i64 0, .int .i64 (errL m st ro)]
theorem nth_run {A : AHeap} (hw : WF A) {m n : Int} {sa ra : Option Addr} {sc rc : Nat} {st ro : List Int} (hs : Ints A sa 0 A.next st) (hr : Ints A ra 0 A.next ro) (ls : st.length < 4611686018427387904) (lr : ro.length < 4611686018427387904) (hn63 : n < 9223372036854775808) :
    Con Try.prog 28 [.agg #[.int .i64 m, .slice sa st.length sc, .slice ra ro.length rc], .int .i64 n] A (fun v A1 => v = nthV m st ro n ∧ Nx A.next A A1) := by
  refine con_of_rn hc Try.func28 rfl (Nat.le_of_ble_eq_true rfl) ?_
  obtain ⟨A1, e1, hx1, hn1, b0, b1, b2⟩ := box3 hw (.int .i64 m) (.slice sa st.length sc) (.slice ra ro.length rc) 24
  obtain ⟨A3, e3, hx3, hn3, c0, c1, c2⟩ := box3 hx1.wf (.int .i64 m) (.slice sa st.length sc) (.slice ra ro.length rc) 24
  have hx03 : Nx A.next A A3 := hx1.trans (hx3.le hx1.next)
  have hrow : LRow A3 (some ⟨A1.next, 0, none⟩) [⟨m, sa, sc, st, ra, rc, ro⟩] := fun i hi => by
    have : i = 0 := by simp at hi; omega
    subst this
    exact ⟨⟨(hs.nx hx03 (Nat.le_refl _)).mono (Nat.le_refl _) hx03.next, (hr.nx hx03 (Nat.le_refl _)).mono (Nat.le_refl _) hx03.next, ls, lr⟩, _, _, rfl, by omega, c0, c1, c2⟩
  rw [s_in2]
  (repeat (first | refine Rn.seq hc ?_ | refine Rn.skip hc ?_ | refine Rn.block hc ?_ | refine Rn.inBlock hc ?_ | refine Rn.scope hc ?_ | refine Rn.inScope hc ?_))
  refine Rn.reg hc rfl ?_
  simp only [sev_tmp, sev_const, sg_eq, sg_ne, Nat.reduceLT, ne_eq, Nat.reduceEqDiff, not_false_eq_true, gd, want_free, rops, fx, Option.some.injEq, exists_eq_left', Value.cells, show Try.f28.ntmps = 19 from rfl, e1]
  (repeat (first | refine Rn.seq hc ?_ | refine Rn.skip hc ?_ | refine Rn.block hc ?_ | refine Rn.inBlock hc ?_ | refine Rn.scope hc ?_ | refine Rn.inScope hc ?_))
  refine Rn.region hc fun K hK => ?_
  refine Wo.run hc 2 rfl rfl rfl ?_
  simp (maxSteps := 2000000) only [List.drop_zero, List.take_succ_cons, List.take_zero, sev_tmp, sg_eq, sg_ne, sp_n, Nat.reduceLT, ne_eq, Nat.reduceEqDiff, not_false_eq_true, gd, want_free, rops, fx, ld, adr_p, cls, Nat.zero_add, Option.some.injEq, exists_eq_left', Value.cells, Nat.reduceAdd, tk24, b0, b1, b2, bs46_1, List.size_toArray, List.length_cons, List.length_nil, e3]
  refine Wo.call hc (by rfl) (by rfl) ⟨by rfl, by rfl⟩ (xs := [.slice (some ⟨A1.next, 0, none⟩) 1 1]) (by rfl) (by rfl) (by rfl) (Con.mono (check_all hx3.wf (l := [⟨m, sa, sc, st, ra, rc, ro⟩]) hrow (by simp)) ?_)
  rintro w A4 ⟨rfl, hx4⟩
  rw [errs_one, show (⟨m, sa, sc, st, ra, rc, ro⟩ : Las).err = errL m st ro from rfl]
  refine Wo.run hc 1 rfl rfl rfl ?_
  simp (maxSteps := 2000000) only [List.drop_zero, List.drop_succ_cons, List.take_succ_cons, List.take_zero, sev_tmp, sg_eq, sp_n, Nat.reduceLT, gd, want_free, rops, fx, Option.some.injEq, exists_eq_left', Nat.reduceAdd]
  refine Wo.done hc rfl (hK _ _ ?_)
  clear hK
  (repeat (first | refine Rn.seq hc ?_ | refine Rn.skip hc ?_ | refine Rn.block hc ?_ | refine Rn.inBlock hc ?_ | refine Rn.scope hc ?_ | refine Rn.inScope hc ?_))
  have b0 := (hx4.cl (show A.next < A3.next by omega) 0).trans ((hx3.cl (show A.next < A1.next by omega) 0).trans b0)
  have b1 := (hx4.cl (show A.next < A3.next by omega) 1).trans ((hx3.cl (show A.next < A1.next by omega) 1).trans b1)
  have b2 := (hx4.cl (show A.next < A3.next by omega) 2).trans ((hx3.cl (show A.next < A1.next by omega) 2).trans b2)
  have hx04 : Nx A.next A A4 := hx03.trans (hx4.le hx03.next)
  unfold nthV
  by_cases he : errL m st ro = 0
  · have hd : (!decide (errL m st ro = 0)) = false := by rw [decide_eq_true he]; rfl
    rw [if_pos he]
    refine Rn.reg hc rfl ?_
    simp only [sev_tmp, sev_const, sg_eq, sp_n, Nat.reduceLT, gd, want_free, rops, fx, bin_neq, Option.some.injEq, exists_eq_left', hd]
    (repeat (first | refine Rn.seq hc ?_ | refine Rn.skip hc ?_ | refine Rn.block hc ?_ | refine Rn.inBlock hc ?_ | refine Rn.scope hc ?_ | refine Rn.inScope hc ?_))
    refine Rn.condE hc rfl ?_
    simp only [sev_tmp, sg_eq, sp_n, Nat.reduceLT, Value.bool.injEq, exists_eq_left']
    (repeat (first | refine Rn.seq hc ?_ | refine Rn.skip hc ?_ | refine Rn.block hc ?_ | refine Rn.inBlock hc ?_ | refine Rn.scope hc ?_ | refine Rn.inScope hc ?_))
    by_cases hneg : n < 0
    · have h1 : decide (n < 0) = true := decide_eq_true hneg
      rw [if_pos hneg]
      refine Rn.reg hc rfl ?_
      simp only [sev_tmp, sev_const, sg_eq, sg_ne, sp_n, Nat.reduceLT, ne_eq, Nat.reduceEqDiff, not_false_eq_true, gd, want_free, rops, fx, bin_lss, Option.some.injEq, exists_eq_left', h1]
      (repeat (first | refine Rn.seq hc ?_ | refine Rn.skip hc ?_ | refine Rn.block hc ?_ | refine Rn.inBlock hc ?_ | refine Rn.scope hc ?_ | refine Rn.inScope hc ?_))
      refine Rn.condE hc rfl ?_
      simp only [sev_tmp, sg_eq, sp_n, Nat.reduceLT, Value.bool.injEq, exists_eq_left']
      (repeat (first | refine Rn.seq hc ?_ | refine Rn.skip hc ?_ | refine Rn.block hc ?_ | refine Rn.inBlock hc ?_ | refine Rn.scope hc ?_ | refine Rn.inScope hc ?_))
      refine Rn.reg hc rfl ?_
      simp only [sev_const, gd, want_free, rops, fx, Option.some.injEq, exists_eq_left']
      (repeat (first | refine Rn.seq hc ?_ | refine Rn.skip hc ?_ | refine Rn.block hc ?_ | refine Rn.inBlock hc ?_ | refine Rn.scope hc ?_ | refine Rn.inScope hc ?_))
      refine Rn.ret (endQ_two rfl ⟨?_, hx04⟩)
      simp only [sg_eq, sg_ne, sp_n, Nat.reduceLT, ne_eq, Nat.reduceEqDiff, not_false_eq_true]
    · have h1 : decide (n < 0) = false := decide_eq_false hneg
      rw [if_neg hneg]
      obtain ⟨k, rfl⟩ : ∃ k : Nat, n = (k : Int) := ⟨n.toNat, by omega⟩
      refine Rn.reg hc rfl ?_
      simp only [sev_tmp, sev_const, sg_eq, sg_ne, sp_n, Nat.reduceLT, ne_eq, Nat.reduceEqDiff, not_false_eq_true, gd, want_free, rops, fx, bin_lss, Option.some.injEq, exists_eq_left', h1]
      (repeat (first | refine Rn.seq hc ?_ | refine Rn.skip hc ?_ | refine Rn.block hc ?_ | refine Rn.inBlock hc ?_ | refine Rn.scope hc ?_ | refine Rn.inScope hc ?_))
      refine Rn.condE hc rfl ?_
      simp only [sev_tmp, sg_eq, sp_n, Nat.reduceLT, Value.bool.injEq, exists_eq_left']
      (repeat (first | refine Rn.seq hc ?_ | refine Rn.skip hc ?_ | refine Rn.block hc ?_ | refine Rn.inBlock hc ?_ | refine Rn.scope hc ?_ | refine Rn.inScope hc ?_))
      refine Rn.region hc fun K hK => ?_
      refine Wo.run hc 3 rfl rfl rfl ?_
      simp (maxSteps := 2000000) only [List.drop_zero, List.take_succ_cons, List.take_zero, sev_tmp, sg_eq, sg_ne, sp_n, Nat.reduceLT, ne_eq, Nat.reduceEqDiff, not_false_eq_true, gd, want_free, rops, fx, ld, adr_p, cls, Nat.zero_add, Option.some.injEq, exists_eq_left', Value.cells, Nat.reduceAdd, tk24, b0, b1, b2, bd86, List.size_toArray, List.length_cons, List.length_nil]
      refine Wo.call hc (by rfl) (by rfl) ⟨by rfl, by rfl⟩ (xs := [.agg #[.int .i64 m, .slice sa st.length sc, .slice ra ro.length rc], .int .i64 (k : Int)]) (by rfl) (by rfl) (by rfl) (Con.mono (at_stream hx4.wf ((hs.nx hx04 (Nat.le_refl _)).mono (Nat.le_refl _) hx04.next) ((hr.nx hx04 (Nat.le_refl _)).mono (Nat.le_refl _) hx04.next) k ls (errL_pos he) lr (by omega)) ?_)
      rintro w A5 ⟨rfl, hx5⟩
      refine Wo.run hc 2 rfl rfl rfl ?_
      simp (maxSteps := 2000000) only [List.drop_zero, List.drop_succ_cons, List.take_succ_cons, List.take_zero, sev_tmp, sev_const, sg_eq, sp_n, Nat.reduceLT, gd, want_free, rops, fx, Option.some.injEq, exists_eq_left', Nat.reduceAdd]
      refine Wo.done hc rfl (hK _ _ ?_)
      clear hK
      (repeat (first | refine Rn.seq hc ?_ | refine Rn.skip hc ?_ | refine Rn.block hc ?_ | refine Rn.inBlock hc ?_ | refine Rn.scope hc ?_ | refine Rn.inScope hc ?_))
      refine Rn.ret (endQ_two rfl ⟨?_, hx04.trans (hx5.le hx04.next)⟩)
      simp only [sg_eq, sg_ne, sp_n, Nat.reduceLT, ne_eq, Nat.reduceEqDiff, not_false_eq_true, Int.toNat_natCast]
  · have hd : (!decide (errL m st ro = 0)) = true := by rw [decide_eq_false he]; rfl
    rw [if_neg he]
    refine Rn.reg hc rfl ?_
    simp only [sev_tmp, sev_const, sg_eq, sp_n, Nat.reduceLT, gd, want_free, rops, fx, bin_neq, Option.some.injEq, exists_eq_left', hd]
    (repeat (first | refine Rn.seq hc ?_ | refine Rn.skip hc ?_ | refine Rn.block hc ?_ | refine Rn.inBlock hc ?_ | refine Rn.scope hc ?_ | refine Rn.inScope hc ?_))
    refine Rn.condE hc rfl ?_
    simp only [sev_tmp, sg_eq, sp_n, Nat.reduceLT, Value.bool.injEq, exists_eq_left']
    (repeat (first | refine Rn.seq hc ?_ | refine Rn.skip hc ?_ | refine Rn.block hc ?_ | refine Rn.inBlock hc ?_ | refine Rn.scope hc ?_ | refine Rn.inScope hc ?_))
    refine Rn.reg hc rfl ?_
    simp only [sev_tmp, sev_const, sg_eq, sg_ne, sp_n, Nat.reduceLT, ne_eq, Nat.reduceEqDiff, not_false_eq_true, gd, want_free, rops, fx, Option.some.injEq, exists_eq_left']
    (repeat (first | refine Rn.seq hc ?_ | refine Rn.skip hc ?_ | refine Rn.block hc ?_ | refine Rn.inBlock hc ?_ | refine Rn.scope hc ?_ | refine Rn.inScope hc ?_))
    refine Rn.ret (endQ_two rfl ⟨?_, hx04⟩)
    simp only [sg_eq, sg_ne, sp_n, Nat.reduceLT, ne_eq, Nat.reduceEqDiff, not_false_eq_true]
end Go.Proofs.Ytdaljohmfnfgiaa
/- The reference's first elements, Take and Tail. No condition. -/
namespace Go.Proofs.Ytdaljohmfnfgiaa
open Go Go.RowKit Go.Proofs.Ytdaljohmfnfgiaa.Canon
set_option maxRecDepth 20000


end Go.Proofs.Ytdaljohmfnfgiaa
/- So many elements of a stream, wide; the program's Take. No condition. -/
namespace Go.Proofs.Ytdaljohmfnfgiaa
open Go Go.RowKit Go.Proofs.Ytdaljohmfnfgiaa.Canon
set_option maxRecDepth 20000


theorem Wrt.mono {A : AHeap} {a : Option Addr} {lo lo' hi n : Nat} (h : Wrt A a lo hi n) (hl : lo' ≤ lo) : Wrt A a lo' hi n := fun hpos => by
  obtain ⟨b, o, c, t, f, g, e, h1, h2, h3⟩ := h hpos
  exact ⟨b, o, c, t, f, g, e, h1, ⟨Nat.le_trans hl h2.1, h2.2⟩, h3⟩
end Go.Proofs.Ytdaljohmfnfgiaa
/- The rest of a stream. No condition. -/
namespace Go.Proofs.Ytdaljohmfnfgiaa
open Go Go.RowKit Go.Proofs.Ytdaljohmfnfgiaa.Canon
set_option maxRecDepth 20000


/-- What comes back is put into the result's variable. -/
theorem Tld.fin {A A4 A5 : AHeap} {e m : Int} {s : Nat → Int} {w : Value} {b : Nat} (hx04 : Nx A.next A A4) (hb : A.next ≤ b) (hb4 : b < A4.next) (hl : Canon.look A4.objs b = some ⟨.cells #[.int .i64 0, .slice none 0 0, .slice none 0 0] 24, false, 0⟩) (h : Tld A4 e m s w A5) :
    ∃ mm n1 n2 ee p1 c1 p2 c2, w = .tuple #[.agg #[.int .i64 mm, .slice p1 n1 c1, .slice p2 n2 c2], .int .i64 ee] ∧ ∃ D, sts A5 b 0 [.int .i64 mm, .slice p1 n1 c1, .slice p2 n2 c2] = some D ∧ cl D b 0 = some (.int .i64 mm) ∧ cl D b 1 = some (.slice p1 n1 c1) ∧ cl D b 2 = some (.slice p2 n2 c2) ∧ (∀ b', b' ≠ b → Canon.look D.objs b' = Canon.look A5.objs b') ∧ Tld A e m s (.tuple #[.agg #[.int .i64 mm, .slice p1 n1 c1, .slice p2 n2 c2], .int .i64 ee]) D := by
  obtain ⟨hx5, mm, L1, L2, ee, p1, c1, p2, c2, hT, rfl, i1, i2, w1, w2, s1, s2, k1, k2⟩ := h
  obtain ⟨D, q1, q2, q3, q4, g0, g1, g2⟩ := res_put hl hb4 hx5 (v0 := .int .i64 mm) (v1 := .slice p1 L1.length c1) (v2 := .slice p2 L2.length c2) rfl
  obtain ⟨j1, j2⟩ := Tld.put (c1 := c1) (c2 := c2) (D := D) hx04.next hb4 hb hT i1 i2 q2 q4
  refine ⟨mm, L1.length, L2.length, ee, p1, c1, p2, c2, rfl, D, q1, g0, g1, g2, q4, ⟨by have := hx04.next; have := hx5.next; omega, q3, fun b' hb' => by rw [q4 _ (by omega), hx5.keep _ (by have := hx04.next; omega), hx04.keep _ hb']⟩, mm, L1, L2, ee, p1, c1, p2, c2, hT, rfl, j1.mono hx04.next (Nat.le_refl _), j2.mono hx04.next (Nat.le_refl _), (w1.off q2 hb4 q4).mono hx04.next, (w2.off q2 hb4 q4).mono hx04.next, (s1.ext fun b' hb' => .inr (q4 b' (by omega))).mono hx04.next, (s2.ext fun b' hb' => .inr (q4 b' (by omega))).mono hx04.next, k1, k2⟩
theorem TldR.fin {A A4 A5 : AHeap} {e m : Int} {s : Nat → Int} {w : Value} {b : Nat} (hx04 : Nx A.next A A4) (hb : A.next ≤ b) (hb4 : b < A4.next) (hl : Canon.look A4.objs b = some ⟨.cells #[.int .i64 0, .slice none 0 0, .slice none 0 0] 24, false, 0⟩) (h : TldR A4 e m s w A5) :
    ∃ mm n1 n2 ee p1 c1 p2 c2, w = .tuple #[.agg #[.int .i64 mm, .slice p1 n1 c1, .slice p2 n2 c2], .int .i64 ee] ∧ ∃ D, sts A5 b 0 [.int .i64 mm, .slice p1 n1 c1, .slice p2 n2 c2] = some D ∧ cl D b 0 = some (.int .i64 mm) ∧ cl D b 1 = some (.slice p1 n1 c1) ∧ cl D b 2 = some (.slice p2 n2 c2) ∧ (∀ b', b' ≠ b → Canon.look D.objs b' = Canon.look A5.objs b') ∧ TldR A e m s (.tuple #[.agg #[.int .i64 mm, .slice p1 n1 c1, .slice p2 n2 c2], .int .i64 ee]) D := by
  obtain ⟨hx5, mm, L1, L2, ee, p1, c1, p2, c2, hT, rfl, i1, i2⟩ := h
  obtain ⟨D, q1, q2, q3, q4, g0, g1, g2⟩ := res_put hl hb4 hx5 (v0 := .int .i64 mm) (v1 := .slice p1 L1.length c1) (v2 := .slice p2 L2.length c2) rfl
  obtain ⟨j1, j2⟩ := Tld.put (c1 := c1) (c2 := c2) (D := D) hx04.next hb4 hb hT i1 i2 q2 q4
  refine ⟨mm, L1.length, L2.length, ee, p1, c1, p2, c2, rfl, D, q1, g0, g1, g2, q4, ⟨by have := hx04.next; have := hx5.next; omega, q3, fun b' hb' => by rw [q4 _ (by omega), hx5.keep _ (by have := hx04.next; omega), hx04.keep _ hb']⟩, mm, L1, L2, ee, p1, c1, p2, c2, hT, rfl, j1.mono hx04.next (Nat.le_refl _), j2.mono hx04.next (Nat.le_refl _)⟩
/-- An error is put there. -/
theorem err_fin {A A4 : AHeap} {b : Nat} (hx04 : Nx A.next A A4) (hb : A.next ≤ b) (hb4 : b < A4.next) (hl : Canon.look A4.objs b = some ⟨.cells #[.int .i64 0, .slice none 0 0, .slice none 0 0] 24, false, 0⟩) :
    ∃ D, sts A4 b 0 [.int .i64 0, .slice none 0 0, .slice none 0 0] = some D ∧ cl D b 0 = some (.int .i64 0) ∧ cl D b 1 = some (.slice none 0 0) ∧ cl D b 2 = some (.slice none 0 0) ∧ Nx A.next A D := by
  obtain ⟨D, q1, q2, q3, q4, g0, g1, g2⟩ := res_put hl hb4 (Nx.refl hx04.wf A4.next) (v0 := .int .i64 0) (v1 := .slice none 0 0) (v2 := .slice none 0 0) rfl
  exact ⟨D, q1, g0, g1, g2, ⟨by have := hx04.next; omega, q3, fun b' hb' => by rw [q4 _ (by omega), hx04.keep _ hb']⟩⟩
theorem mxd_nat (a b : Nat) : max (a : Int) (b : Int) = ((max a b : Nat) : Int) := by omega
end Go.Proofs.Ytdaljohmfnfgiaa
/- The reference's rest of a stream. No condition. -/
namespace Go.Proofs.Ytdaljohmfnfgiaa
open Go Go.RowKit Go.Proofs.Ytdaljohmfnfgiaa.Canon
set_option maxRecDepth 20000


end Go.Proofs.Ytdaljohmfnfgiaa
/- A stream with one more number. No condition. -/
namespace Go.Proofs.Ytdaljohmfnfgiaa
open Go Go.RowKit Go.Proofs.Ytdaljohmfnfgiaa.Canon
set_option maxRecDepth 20000


end Go.Proofs.Ytdaljohmfnfgiaa
/- Every so many elements. No condition. -/
namespace Go.Proofs.Ytdaljohmfnfgiaa
open Go Go.RowKit Go.Proofs.Ytdaljohmfnfgiaa.Canon
set_option maxRecDepth 20000


/-- The error of such a call. -/
def erE (m : Int) (st ro : List Int) (sp ad : Int) : Int := if errL m st ro = 0 then (if sp < 1 ∨ 120 < sp ∨ ad < 0 ∨ 1000000000 < ad then 3 else 0) else errL m st ro
theorem bad4 {sp ad : Int} (h : sp < 1 ∨ 120 < sp ∨ ad < 0 ∨ 1000000000 < ad) : (decide (sp < 1) = true) ∨ (decide (sp < 1) = false ∧ decide (120 < sp) = true) ∨ (decide (sp < 1) = false ∧ decide (120 < sp) = false ∧ decide (ad < 0) = true) ∨ (decide (sp < 1) = false ∧ decide (120 < sp) = false ∧ decide (ad < 0) = false ∧ decide (1000000000 < ad) = true) := by
  simp only [decide_eq_true_eq, decide_eq_false_iff_not]
  omega
theorem every_per {st ro : List Int} (hro : 0 < ro.length) {ad sp N : Nat} (hs : 1 ≤ sp) (hN : st.length ≤ ad + N * sp) : Per (fun i => atL st ro (ad + i * sp)) N ro.length := ⟨hro, fun n hn => by
  have h1 : N * sp ≤ n * sp := Nat.mul_le_mul_right _ hn
  have := (atL_per (st := st) hro).times sp (ad + n * sp) (by omega)
  rw [show (n + ro.length) * sp = n * sp + sp * ro.length by rw [Nat.add_mul, Nat.mul_comm ro.length], ← Nat.add_assoc]
  exact this⟩
theorem redS_snoc (E : Nat → Int) (i : Nat) : redS E i ++ [E i] = redS E (i + 1) := by simp [redS, List.range_succ]
theorem redR_snoc (E : Nat → Int) (a i : Nat) : redR E a i ++ [E (a + i)] = redR E a (i + 1) := by simp [redR, List.range_succ]
theorem every_run {A : AHeap} (hw : WF A) {m sp ad : Int} {sa ra : Option Addr} {sc rc : Nat} {st ro : List Int} (hs : Ints A sa 0 A.next st) (hr : Ints A ra 0 A.next ro) (ls : st.length < 4611686018427387904) (lr : ro.length < 4611686018427387904) :
    Con Try.prog 37 [.agg #[.int .i64 m, .slice sa st.length sc, .slice ra ro.length rc], .int .i64 sp, .int .i64 ad] A (Tld A (erE m st ro sp ad) m fun i => atL st ro (ad.toNat + i * sp.toNat)) := by
  refine con_of_rn hc Try.func37 rfl (Nat.le_of_ble_eq_true rfl) ?_
  obtain ⟨A0, e0, hx0, hn0, b0, b1, b2⟩ := box3 hw (.int .i64 m) (.slice sa st.length sc) (.slice ra ro.length rc) 24
  have hx1 : Nx A0.next A0 (A0.push (.cells #[.int .i64 0, .slice none 0 0, .slice none 0 0] 24)) := (Nx.refl hx0.wf _).push (Nat.le_refl _) _
  have l1 := look_push_eq A0 (.cells #[.int .i64 0, .slice none 0 0, .slice none 0 0] 24)
  have hn1 : (A0.push (.cells #[.int .i64 0, .slice none 0 0, .slice none 0 0] 24)).next = A0.next + 1 := rfl
  generalize e1 : A0.push (.cells #[.int .i64 0, .slice none 0 0, .slice none 0 0] 24) = A1 at hx1 l1 hn1
  obtain ⟨A3, e3, hx3, hn3, c0, c1, c2⟩ := box3 hx1.wf (.int .i64 m) (.slice sa st.length sc) (.slice ra ro.length rc) 24
  have hx01 : Nx A.next A A1 := hx0.trans (hx1.le hx0.next)
  have hx03 : Nx A.next A A3 := hx01.trans (hx3.le hx01.next)
  have hrow : LRow A3 (some ⟨A1.next, 0, none⟩) [⟨m, sa, sc, st, ra, rc, ro⟩] := fun i hi => by
    have : i = 0 := by simp at hi; omega
    subst this
    exact ⟨⟨(hs.nx hx03 (Nat.le_refl _)).mono (Nat.le_refl _) hx03.next, (hr.nx hx03 (Nat.le_refl _)).mono (Nat.le_refl _) hx03.next, ls, lr⟩, _, _, rfl, by omega, c0, c1, c2⟩
  have b0 := (hx1.cl (show A.next < A0.next by omega) 0).trans b0
  have b1 := (hx1.cl (show A.next < A0.next by omega) 1).trans b1
  have b2 := (hx1.cl (show A.next < A0.next by omega) 2).trans b2
  rw [s_in3]
  (repeat (first | refine Rn.seq hc ?_ | refine Rn.skip hc ?_ | refine Rn.block hc ?_ | refine Rn.inBlock hc ?_ | refine Rn.scope hc ?_ | refine Rn.inScope hc ?_))
  refine Rn.reg hc rfl ?_
  simp only [sev_tmp, sev_const, sg_eq, sg_ne, Nat.reduceLT, ne_eq, Nat.reduceEqDiff, not_false_eq_true, gd, want_free, rops, fx, Option.some.injEq, exists_eq_left', Value.cells, show Try.f37.ntmps = 75 from rfl, e0, ze24, e1]
  (repeat (first | refine Rn.seq hc ?_ | refine Rn.skip hc ?_ | refine Rn.block hc ?_ | refine Rn.inBlock hc ?_ | refine Rn.scope hc ?_ | refine Rn.inScope hc ?_))
  refine Rn.region hc fun K hK => ?_
  refine Wo.run hc 2 rfl rfl rfl ?_
  simp (maxSteps := 2000000) only [List.drop_zero, List.take_succ_cons, List.take_zero, sev_tmp, sg_eq, sg_ne, sp_n, Nat.reduceLT, ne_eq, Nat.reduceEqDiff, not_false_eq_true, gd, want_free, rops, fx, ld, adr_p, cls, Nat.zero_add, Option.some.injEq, exists_eq_left', Value.cells, Nat.reduceAdd, tk24, b0, b1, b2, bs46_1, List.size_toArray, List.length_cons, List.length_nil, e3]
  refine Wo.call hc (by rfl) (by rfl) ⟨by rfl, by rfl⟩ (xs := [.slice (some ⟨A1.next, 0, none⟩) 1 1]) (by rfl) (by rfl) (by rfl) (Con.mono (check_all hx3.wf (l := [⟨m, sa, sc, st, ra, rc, ro⟩]) hrow (by simp)) ?_)
  rintro w A4 ⟨rfl, hx4⟩
  rw [errs_one, show (⟨m, sa, sc, st, ra, rc, ro⟩ : Las).err = errL m st ro from rfl]
  refine Wo.run hc 1 rfl rfl rfl ?_
  simp (maxSteps := 2000000) only [List.drop_zero, List.drop_succ_cons, List.take_succ_cons, List.take_zero, sev_tmp, sg_eq, sp_n, Nat.reduceLT, gd, want_free, rops, fx, Option.some.injEq, exists_eq_left', Nat.reduceAdd]
  refine Wo.done hc rfl (hK _ _ ?_)
  clear hK
  (repeat (first | refine Rn.seq hc ?_ | refine Rn.skip hc ?_ | refine Rn.block hc ?_ | refine Rn.inBlock hc ?_ | refine Rn.scope hc ?_ | refine Rn.inScope hc ?_))
  have hx34 : Nx A1.next A1 A4 := hx3.trans (hx4.le hx3.next)
  have hx04 : Nx A.next A A4 := hx01.trans (hx34.le hx01.next)
  have n4 : A0.next < A4.next := by have := hx4.next; omega
  have l4 : Canon.look A4.objs A0.next = _ := (hx34.keep _ (by omega)).trans l1
  have b0 := (hx34.cl (show A.next < A1.next by omega) 0).trans b0
  have b1 := (hx34.cl (show A.next < A1.next by omega) 1).trans b1
  have b2 := (hx34.cl (show A.next < A1.next by omega) 2).trans b2
  have hn0A := hx0.next
  clear hrow c0 c1 c2 e3 e1 e0 hx3 hx4 hx1
  unfold erE
  by_cases he : errL m st ro = 0
  · have hd : (!decide (errL m st ro = 0)) = false := by rw [decide_eq_true he]; rfl
    obtain ⟨l60, l120⟩ := errL_len he
    have hro := errL_pos he
    rw [if_pos he]
    refine Rn.reg hc rfl ?_
    simp only [sev_tmp, sev_const, sg_eq, sp_n, Nat.reduceLT, gd, want_free, rops, fx, bin_neq, Option.some.injEq, exists_eq_left', hd]
    (repeat (first | refine Rn.seq hc ?_ | refine Rn.skip hc ?_ | refine Rn.block hc ?_ | refine Rn.inBlock hc ?_ | refine Rn.scope hc ?_ | refine Rn.inScope hc ?_))
    refine Rn.condE hc rfl ?_
    simp only [sev_tmp, sg_eq, sp_n, Nat.reduceLT, Value.bool.injEq, exists_eq_left']
    (repeat (first | refine Rn.seq hc ?_ | refine Rn.skip hc ?_ | refine Rn.block hc ?_ | refine Rn.inBlock hc ?_ | refine Rn.scope hc ?_ | refine Rn.inScope hc ?_))
    by_cases hbad : sp < 1 ∨ 120 < sp ∨ ad < 0 ∨ 1000000000 < ad
    · obtain ⟨D, q1, g0, g1, g2, hxD⟩ := err_fin hx04 hn0A n4 l4
      rw [if_pos hbad]
      rcases bad4 hbad with h1 | ⟨h1, h2⟩ | ⟨h1, h2, h3⟩ | ⟨h1, h2, h3, h4⟩
      · refine Rn.reg hc rfl ?_
        simp only [sev_tmp, sev_const, sg_eq, sg_ne, sp_n, Nat.reduceLT, ne_eq, Nat.reduceEqDiff, not_false_eq_true, gd, nth, want_free, want_slot, beqB, rops, fx, pck, bin_lss, Option.some.injEq, exists_eq_left', h1]
        (repeat (first | refine Rn.seq hc ?_ | refine Rn.skip hc ?_ | refine Rn.block hc ?_ | refine Rn.inBlock hc ?_ | refine Rn.scope hc ?_ | refine Rn.inScope hc ?_))
        refine Rn.condE hc rfl ?_
        simp only [sev_tmp, sg_eq, sp_n, Nat.reduceLT, Value.bool.injEq, exists_eq_left']
        (repeat (first | refine Rn.seq hc ?_ | refine Rn.skip hc ?_ | refine Rn.block hc ?_ | refine Rn.inBlock hc ?_ | refine Rn.scope hc ?_ | refine Rn.inScope hc ?_))
        refine Rn.reg hc rfl ?_
        simp only [sev_tmp, sev_const, sg_eq, sg_ne, sp_n, sp_none, Nat.reduceLT, ne_eq, Nat.reduceEqDiff, not_false_eq_true, gd, want_free, rops, fx, str, adr_p, Nat.zero_add, Option.some.injEq, exists_eq_left', Nat.reduceAdd, tk24, bd24_z, q1, List.size_toArray, List.length_cons, List.length_nil, Nat.beq_refl]
        (repeat (first | refine Rn.seq hc ?_ | refine Rn.skip hc ?_ | refine Rn.block hc ?_ | refine Rn.inBlock hc ?_ | refine Rn.scope hc ?_ | refine Rn.inScope hc ?_))
        refine Rn.ret (endQ_ct rfl (v := .agg #[.int .i64 0, .slice none 0 0, .slice none 0 0]) ?_ ?_)
        · simp only [sg_eq, sg_ne, sp_n, Nat.reduceLT, ne_eq, Nat.reduceEqDiff, not_false_eq_true, ld, adr_p, cls, Nat.zero_add, Nat.reduceAdd, tk24, g0, g1, g2]
        · simp only [sg_eq, sp_n, Nat.reduceLT]
          exact tld_err (by omega) hxD
      · refine Rn.reg hc rfl ?_
        simp only [sev_tmp, sev_const, sg_eq, sg_ne, sp_n, Nat.reduceLT, ne_eq, Nat.reduceEqDiff, not_false_eq_true, gd, nth, want_free, want_slot, beqB, rops, fx, pck, bin_lss, bin_gtr, Option.some.injEq, exists_eq_left', h1, h2]
        (repeat (first | refine Rn.seq hc ?_ | refine Rn.skip hc ?_ | refine Rn.block hc ?_ | refine Rn.inBlock hc ?_ | refine Rn.scope hc ?_ | refine Rn.inScope hc ?_))
        refine Rn.condE hc rfl ?_
        simp only [sev_tmp, sg_eq, sp_n, Nat.reduceLT, Value.bool.injEq, exists_eq_left']
        (repeat (first | refine Rn.seq hc ?_ | refine Rn.skip hc ?_ | refine Rn.block hc ?_ | refine Rn.inBlock hc ?_ | refine Rn.scope hc ?_ | refine Rn.inScope hc ?_))
        refine Rn.reg hc rfl ?_
        simp only [sev_tmp, sev_const, sg_eq, sg_ne, sp_n, sp_none, Nat.reduceLT, ne_eq, Nat.reduceEqDiff, not_false_eq_true, gd, want_free, rops, fx, str, adr_p, Nat.zero_add, Option.some.injEq, exists_eq_left', Nat.reduceAdd, tk24, bd24_z, q1, List.size_toArray, List.length_cons, List.length_nil, Nat.beq_refl]
        (repeat (first | refine Rn.seq hc ?_ | refine Rn.skip hc ?_ | refine Rn.block hc ?_ | refine Rn.inBlock hc ?_ | refine Rn.scope hc ?_ | refine Rn.inScope hc ?_))
        refine Rn.ret (endQ_ct rfl (v := .agg #[.int .i64 0, .slice none 0 0, .slice none 0 0]) ?_ ?_)
        · simp only [sg_eq, sg_ne, sp_n, Nat.reduceLT, ne_eq, Nat.reduceEqDiff, not_false_eq_true, ld, adr_p, cls, Nat.zero_add, Nat.reduceAdd, tk24, g0, g1, g2]
        · simp only [sg_eq, sp_n, Nat.reduceLT]
          exact tld_err (by omega) hxD
      · refine Rn.reg hc rfl ?_
        simp only [sev_tmp, sev_const, sg_eq, sg_ne, sp_n, Nat.reduceLT, ne_eq, Nat.reduceEqDiff, not_false_eq_true, gd, nth, want_free, want_slot, beqB, rops, fx, pck, bin_lss, bin_gtr, Option.some.injEq, exists_eq_left', h1, h2, h3]
        (repeat (first | refine Rn.seq hc ?_ | refine Rn.skip hc ?_ | refine Rn.block hc ?_ | refine Rn.inBlock hc ?_ | refine Rn.scope hc ?_ | refine Rn.inScope hc ?_))
        refine Rn.condE hc rfl ?_
        simp only [sev_tmp, sg_eq, sp_n, Nat.reduceLT, Value.bool.injEq, exists_eq_left']
        (repeat (first | refine Rn.seq hc ?_ | refine Rn.skip hc ?_ | refine Rn.block hc ?_ | refine Rn.inBlock hc ?_ | refine Rn.scope hc ?_ | refine Rn.inScope hc ?_))
        refine Rn.reg hc rfl ?_
        simp only [sev_tmp, sev_const, sg_eq, sg_ne, sp_n, sp_none, Nat.reduceLT, ne_eq, Nat.reduceEqDiff, not_false_eq_true, gd, want_free, rops, fx, str, adr_p, Nat.zero_add, Option.some.injEq, exists_eq_left', Nat.reduceAdd, tk24, bd24_z, q1, List.size_toArray, List.length_cons, List.length_nil, Nat.beq_refl]
        (repeat (first | refine Rn.seq hc ?_ | refine Rn.skip hc ?_ | refine Rn.block hc ?_ | refine Rn.inBlock hc ?_ | refine Rn.scope hc ?_ | refine Rn.inScope hc ?_))
        refine Rn.ret (endQ_ct rfl (v := .agg #[.int .i64 0, .slice none 0 0, .slice none 0 0]) ?_ ?_)
        · simp only [sg_eq, sg_ne, sp_n, Nat.reduceLT, ne_eq, Nat.reduceEqDiff, not_false_eq_true, ld, adr_p, cls, Nat.zero_add, Nat.reduceAdd, tk24, g0, g1, g2]
        · simp only [sg_eq, sp_n, Nat.reduceLT]
          exact tld_err (by omega) hxD
      · refine Rn.reg hc rfl ?_
        simp only [sev_tmp, sev_const, sg_eq, sg_ne, sp_n, Nat.reduceLT, ne_eq, Nat.reduceEqDiff, not_false_eq_true, gd, nth, want_free, want_slot, beqB, rops, fx, pck, bin_lss, bin_gtr, Option.some.injEq, exists_eq_left', h1, h2, h3, h4]
        (repeat (first | refine Rn.seq hc ?_ | refine Rn.skip hc ?_ | refine Rn.block hc ?_ | refine Rn.inBlock hc ?_ | refine Rn.scope hc ?_ | refine Rn.inScope hc ?_))
        refine Rn.condE hc rfl ?_
        simp only [sev_tmp, sg_eq, sp_n, Nat.reduceLT, Value.bool.injEq, exists_eq_left']
        (repeat (first | refine Rn.seq hc ?_ | refine Rn.skip hc ?_ | refine Rn.block hc ?_ | refine Rn.inBlock hc ?_ | refine Rn.scope hc ?_ | refine Rn.inScope hc ?_))
        refine Rn.reg hc rfl ?_
        simp only [sev_tmp, sev_const, sg_eq, sg_ne, sp_n, sp_none, Nat.reduceLT, ne_eq, Nat.reduceEqDiff, not_false_eq_true, gd, want_free, rops, fx, str, adr_p, Nat.zero_add, Option.some.injEq, exists_eq_left', Nat.reduceAdd, tk24, bd24_z, q1, List.size_toArray, List.length_cons, List.length_nil, Nat.beq_refl]
        (repeat (first | refine Rn.seq hc ?_ | refine Rn.skip hc ?_ | refine Rn.block hc ?_ | refine Rn.inBlock hc ?_ | refine Rn.scope hc ?_ | refine Rn.inScope hc ?_))
        refine Rn.ret (endQ_ct rfl (v := .agg #[.int .i64 0, .slice none 0 0, .slice none 0 0]) ?_ ?_)
        · simp only [sg_eq, sg_ne, sp_n, Nat.reduceLT, ne_eq, Nat.reduceEqDiff, not_false_eq_true, ld, adr_p, cls, Nat.zero_add, Nat.reduceAdd, tk24, g0, g1, g2]
        · simp only [sg_eq, sp_n, Nat.reduceLT]
          exact tld_err (by omega) hxD
    · have h1 : decide (sp < 1) = false := decide_eq_false (by omega)
      have h2 : decide (120 < sp) = false := decide_eq_false (by omega)
      have h3 : decide (ad < 0) = false := decide_eq_false (by omega)
      have h4 : decide (1000000000 < ad) = false := decide_eq_false (by omega)
      rw [if_neg hbad]
      obtain ⟨stp, rfl⟩ : ∃ k : Nat, sp = (k : Int) := ⟨sp.toNat, by omega⟩
      obtain ⟨adr, rfl⟩ : ∃ k : Nat, ad = (k : Int) := ⟨ad.toNat, by omega⟩
      rw [Int.toNat_natCast, Int.toNat_natCast]
      have hs1 : 1 ≤ stp := by omega
      have hs2 : stp ≤ 120 := by omega
      have ha2 : adr ≤ 1000000000 := by omega
      refine Rn.reg hc rfl ?_
      simp only [sev_tmp, sev_const, sg_eq, sg_ne, sp_n, Nat.reduceLT, ne_eq, Nat.reduceEqDiff, not_false_eq_true, gd, nth, want_free, want_slot, beqB, rops, fx, pck, bin_lss, bin_gtr, Option.some.injEq, exists_eq_left', h1, h2, h3, h4]
      (repeat (first | refine Rn.seq hc ?_ | refine Rn.skip hc ?_ | refine Rn.block hc ?_ | refine Rn.inBlock hc ?_ | refine Rn.scope hc ?_ | refine Rn.inScope hc ?_))
      refine Rn.condE hc rfl ?_
      simp only [sev_tmp, sg_eq, sp_n, Nat.reduceLT, Value.bool.injEq, exists_eq_left']
      (repeat (first | refine Rn.seq hc ?_ | refine Rn.skip hc ?_ | refine Rn.block hc ?_ | refine Rn.inBlock hc ?_ | refine Rn.scope hc ?_ | refine Rn.inScope hc ?_))
      clear h1 h2 h3 h4 hbad
      obtain ⟨E, hE⟩ : ∃ E : Nat → Int, E = fun i => atL st ro (adr + i * stp) := ⟨_, rfl⟩
      have hEv : ∀ i, E i = atL st ro (adr + i * stp) := fun i => by rw [hE]
      rw [← hE]
      have hx5a : Nx A4.next A4 (A4.push (.cells #[.int .i64 0, .slice none 0 0, .slice none 0 0] 86)) := (Nx.refl hx04.wf _).push (Nat.le_refl _) _
      have l5a := look_push_eq A4 (.cells #[.int .i64 0, .slice none 0 0, .slice none 0 0] 86)
      have hn5a : (A4.push (.cells #[.int .i64 0, .slice none 0 0, .slice none 0 0] 86)).next = A4.next + 1 := rfl
      generalize e5 : A4.push (.cells #[.int .i64 0, .slice none 0 0, .slice none 0 0] 86) = A5a at hx5a l5a hn5a
      obtain ⟨A5, c5, q5, u5, u6, u7⟩ := sts_upd (l := [.int .i64 m, .slice sa st.length sc, .slice ra ro.length rc]) (o := 0) l5a rfl (by simp) rfl
      have hx5 : Nx A4.next A4 A5 := hx5a.trans (u5.nx hx5a.wf (Nat.le_refl _))
      have hn5 : A5.next = A4.next + 1 := by rw [u5.next, hn5a]
      have d0 : cl A5 A4.next 0 = some (.int .i64 m) := by rw [u5.cl, u7]; rfl
      have d1 : cl A5 A4.next 1 = some (.slice sa st.length sc) := by rw [u5.cl, u7]; rfl
      have d2 : cl A5 A4.next 2 = some (.slice ra ro.length rc) := by rw [u5.cl, u7]; rfl
      have hx05 : Nx A.next A A5 := hx04.trans (hx5.le hx04.next)
      have b0 := (hx5.cl (show A.next < A4.next by omega) 0).trans b0
      have b1 := (hx5.cl (show A.next < A4.next by omega) 1).trans b1
      have b2 := (hx5.cl (show A.next < A4.next by omega) 2).trans b2
      have l5 : Canon.look A5.objs A0.next = _ := (hx5.keep _ n4).trans l4
      have b0' := (hx5.cl (show A.next < A4.next by omega) 0).symm.trans b0
      have b1' := (hx5.cl (show A.next < A4.next by omega) 1).symm.trans b1
      have b2' := (hx5.cl (show A.next < A4.next by omega) 2).symm.trans b2
      refine Rn.reg hc rfl ?_
      simp only [sev_tmp, sg_eq, sg_ne, sp_n, sp_none, Nat.reduceLT, ne_eq, Nat.reduceEqDiff, not_false_eq_true, gd, want_free, rops, fx, ld, str, adr_p, cls, Nat.zero_add, Option.some.injEq, exists_eq_left', Value.cells, Nat.reduceAdd, tk24, tk86, b0', b1', b2', bd86, List.size_toArray, List.length_cons, List.length_nil, ze86, e5, q5, Nat.beq_refl]
      (repeat (first | refine Rn.seq hc ?_ | refine Rn.skip hc ?_ | refine Rn.block hc ?_ | refine Rn.inBlock hc ?_ | refine Rn.scope hc ?_ | refine Rn.inScope hc ?_))
      refine Rn.reg hc rfl ?_
      simp only [sev_const, gd, want_free, rops, fx, Option.some.injEq, exists_eq_left']
      (repeat (first | refine Rn.seq hc ?_ | refine Rn.skip hc ?_ | refine Rn.block hc ?_ | refine Rn.inBlock hc ?_ | refine Rn.scope hc ?_ | refine Rn.inScope hc ?_))
      refine Rn.loopI hc (I := fun k s B => ∃ i wa tt, tt = adr + i * stp ∧ i ≤ tt ∧ (i = 0 ∨ tt ≤ st.length + 120) ∧ k = st.length - tt ∧ Nx A5.next A5 B ∧ Gr B wa A5.next (redS E i) ∧ s.n = 75 ∧ sget s 1 = .int .i64 (stp : Int) ∧ sget s 2 = .int .i64 ((tt : Nat) : Int) ∧ sget s 3 = .pointer (some ⟨A.next, 0, none⟩) ∧ sget s 6 = .pointer (some ⟨A0.next, 0, none⟩) ∧ sget s 9 = .pointer (some ⟨A4.next, 0, none⟩) ∧ sget s 10 = .slice wa i i ∧ sget s 11 = .slice none 0 0)
        (n := st.length - adr) ⟨0, none, adr, by omega, by omega, .inl rfl, rfl, Nx.refl hx5.wf _, Gr.nil _ _, by simp only [sp_n], by simp only [sg_eq, sg_ne, sp_n, Nat.reduceLT, ne_eq, Nat.reduceEqDiff, not_false_eq_true], by simp only [sg_eq, sg_ne, sp_n, Nat.reduceLT, ne_eq, Nat.reduceEqDiff, not_false_eq_true], by simp only [sg_eq, sg_ne, sp_n, Nat.reduceLT, ne_eq, Nat.reduceEqDiff, not_false_eq_true], by simp only [sg_eq, sg_ne, sp_n, Nat.reduceLT, ne_eq, Nat.reduceEqDiff, not_false_eq_true, hn0], by simp only [sg_eq, sg_ne, sp_n, Nat.reduceLT, ne_eq, Nat.reduceEqDiff, not_false_eq_true], by simp only [sg_eq, sg_ne, sp_n, Nat.reduceLT, ne_eq, Nat.reduceEqDiff, not_false_eq_true], by simp only [sg_eq, sp_n, Nat.reduceLT]⟩ ?_
      rintro k s B ⟨i, wa, tt, htt, hi1, hi2, rfl, hB, hg, hn, s1, s2, s3, s6, s9, s10, s11⟩ ih
      have htb : tt ≤ 1000000200 := by
        rcases hi2 with h | h
        · subst h
          rw [Nat.zero_mul] at htt
          omega
        · omega
      have hB0 : Nx A.next A B := hx05.trans (hB.le hx05.next)
      have nB := hB.next
      have c1 := (hB.cl (show A.next < A5.next by omega) 1).trans b1
      have c2 := (hB.cl (show A.next < A5.next by omega) 2).trans b2
      have c0 := (hB.cl (show A.next < A5.next by omega) 0).trans b0
      have f0 := (hB.cl (show A4.next < A5.next by omega) 0).trans d0
      have f1 := (hB.cl (show A4.next < A5.next by omega) 1).trans d1
      have f2 := (hB.cl (show A4.next < A5.next by omega) 2).trans d2
      (repeat (first | refine Rn.seq hc ?_ | refine Rn.skip hc ?_ | refine Rn.block hc ?_ | refine Rn.inBlock hc ?_ | refine Rn.scope hc ?_ | refine Rn.inScope hc ?_))
      by_cases hlt : tt < st.length
      · have hd : decide ((tt : Int) < (st.length : Int)) = true := decide_eq_true (by omega)
        refine Rn.reg hc rfl ?_
        simp only [sev_tmp, sg_eq, sg_ne, sp_n, Nat.reduceLT, ne_eq, Nat.reduceEqDiff, not_false_eq_true, gd, want_free, rops, fx, ld, fad, lng, bin_lss, adr_p, Nat.zero_add, Option.some.injEq, exists_eq_left', tk22, fo24_1, un22, hn, s2, s3, c1, hd]
        (repeat (first | refine Rn.seq hc ?_ | refine Rn.skip hc ?_ | refine Rn.block hc ?_ | refine Rn.inBlock hc ?_ | refine Rn.scope hc ?_ | refine Rn.inScope hc ?_))
        refine Rn.condE hc rfl ?_
        simp only [sev_tmp, sg_eq, sp_n, Nat.reduceLT, Value.bool.injEq, exists_eq_left', hn]
        (repeat (first | refine Rn.seq hc ?_ | refine Rn.skip hc ?_ | refine Rn.block hc ?_ | refine Rn.inBlock hc ?_ | refine Rn.scope hc ?_ | refine Rn.inScope hc ?_))
        refine Rn.region hc fun K hK => ?_
        refine Wo.run hc 3 rfl rfl rfl ?_
        simp (maxSteps := 2000000) only [List.drop_zero, List.take_succ_cons, List.take_zero, sev_tmp, sg_ne, ne_eq, Nat.reduceEqDiff, not_false_eq_true, gd, want_free, rops, fx, ld, adr_p, cls, Nat.zero_add, Option.some.injEq, exists_eq_left', Nat.reduceAdd, tk86, s2, s9, s10, f0, f1, f2]
        refine Wo.call hc (by rfl) (by rfl) ⟨by rfl, by rfl⟩ (xs := [.agg #[.int .i64 m, .slice sa st.length sc, .slice ra ro.length rc], .int .i64 ((tt : Nat) : Int)]) (by rfl) (by rfl) (by simp only [sev_tmp, sg_eq, sg_ne, sp_n, Nat.reduceLT, ne_eq, Nat.reduceEqDiff, not_false_eq_true, List.map_cons, List.map_nil, List.nil_append, List.append_nil, hn]) (Con.mono (at_stream hB.wf ((hs.nx hB0 (Nat.le_refl _)).mono (Nat.le_refl _) hB0.next) ((hr.nx hB0 (Nat.le_refl _)).mono (Nat.le_refl _) hB0.next) tt ls hro lr (by omega)) ?_)
        rintro w B1 ⟨rfl, hy1⟩
        have hval : atL st ro tt = E i := by rw [hEv, htt]
        rw [hval]
        have hz1 : Nx B1.next B1 (B1.push (.cells #[.int .i64 (E i)] 3)) := (Nx.refl hy1.wf _).push (Nat.le_refl _) _
        have lB2 := look_push_eq B1 (.cells #[.int .i64 (E i)] 3)
        have hnB2 : (B1.push (.cells #[.int .i64 (E i)] 3)).next = B1.next + 1 := rfl
        generalize eB2 : B1.push (.cells #[.int .i64 (E i)] 3) = B2 at hz1 lB2 hnB2
        have hg2 : Gr B2 wa A5.next (redS E i) := (hg.nx (n := 0) hB.wf hy1).nx (n := 0) hy1.wf hz1
        obtain ⟨B3, q1, n3, w3, hg3, _, nx3⟩ := gr_push hz1.wf hg2 (a2 := some ⟨B1.next, 0, none⟩) (c2 := 1) (b2 := B1.next) (x := E i) rfl (by rw [cl_of lB2 rfl]; rfl) (by rw [redS_len]; omega)
        rw [redS_len] at q1
        rw [redS_snoc] at hg3
        have hyn := hy1.next
        refine Wo.run hc 3 rfl rfl rfl ?_
        simp (maxSteps := 2000000) only [List.drop_zero, List.drop_succ_cons, List.take_succ_cons, List.take_zero, sev_tmp, sg_eq, sg_ne, sp_n, Nat.reduceLT, ne_eq, Nat.reduceEqDiff, not_false_eq_true, gd, want_free, rops, fx, Option.some.injEq, exists_eq_left', Nat.reduceAdd, hn, bs22_1, isCell, eB2, ae_apd, apd_slice, q1]
        refine Wo.done hc rfl (hK _ _ ?_)
        clear hK
        (repeat (first | refine Rn.seq hc ?_ | refine Rn.skip hc ?_ | refine Rn.block hc ?_ | refine Rn.inBlock hc ?_ | refine Rn.scope hc ?_ | refine Rn.inScope hc ?_))
        have hB3 : Nx A5.next A5 B3 := hB.trans ((hy1.le hB.next).trans ((hz1.le (by omega)).trans (nx3.le (by omega))))
        have hw1 : IntKind.i64.wrap ((tt : Int) + (stp : Int)) = ((tt + stp : Nat) : Int) := by rw [IntWalk.i64_in _ (by omega)]; omega
        have htt2 : tt + stp = adr + (i + 1) * stp := by rw [htt, Nat.succ_mul]; omega
        refine Rn.reg hc rfl ?_
        simp only [sev_tmp, sg_eq, sg_ne, sp_n, Nat.reduceLT, ne_eq, Nat.reduceEqDiff, not_false_eq_true, gd, want_free, rops, fx, bin_add, Option.some.injEq, exists_eq_left', hn, s1, s2, hw1]
        (repeat (first | refine Rn.seq hc ?_ | refine Rn.skip hc ?_ | refine Rn.block hc ?_ | refine Rn.inBlock hc ?_ | refine Rn.scope hc ?_ | refine Rn.inScope hc ?_))
        exact ih _ _ _ (by omega) ⟨i + 1, _, tt + stp, htt2, by omega, .inr (by omega), rfl, hB3, hg3.mono (by omega), by simp only [sp_n, hn], by simp only [sg_ne, ne_eq, Nat.reduceEqDiff, not_false_eq_true, s1], by simp only [sg_eq, sp_n, Nat.reduceLT, hn], by simp only [sg_ne, ne_eq, Nat.reduceEqDiff, not_false_eq_true, s3], by simp only [sg_ne, ne_eq, Nat.reduceEqDiff, not_false_eq_true, s6], by simp only [sg_ne, ne_eq, Nat.reduceEqDiff, not_false_eq_true, s9], by simp only [sg_eq, sg_ne, sp_n, Nat.reduceLT, ne_eq, Nat.reduceEqDiff, not_false_eq_true, hn], by simp only [sg_ne, ne_eq, Nat.reduceEqDiff, not_false_eq_true, s11]⟩
      · have hd : decide ((tt : Int) < (st.length : Int)) = false := decide_eq_false (by omega)
        clear ih
        refine Rn.reg hc rfl ?_
        simp only [sev_tmp, sg_eq, sg_ne, sp_n, Nat.reduceLT, ne_eq, Nat.reduceEqDiff, not_false_eq_true, gd, want_free, rops, fx, ld, fad, lng, bin_lss, adr_p, Nat.zero_add, Option.some.injEq, exists_eq_left', tk22, fo24_1, un22, hn, s2, s3, c1, hd]
        (repeat (first | refine Rn.seq hc ?_ | refine Rn.skip hc ?_ | refine Rn.block hc ?_ | refine Rn.inBlock hc ?_ | refine Rn.scope hc ?_ | refine Rn.inScope hc ?_))
        refine Rn.condE hc rfl ?_
        simp only [sev_tmp, sg_eq, sp_n, Nat.reduceLT, Value.bool.injEq, exists_eq_left', hn]
        (repeat (first | refine Rn.seq hc ?_ | refine Rn.skip hc ?_ | refine Rn.block hc ?_ | refine Rn.inBlock hc ?_ | refine Rn.scope hc ?_ | refine Rn.inScope hc ?_))
        refine Rn.exit hc rfl ?_
        (repeat (first | refine Rn.seq hc ?_ | refine Rn.skip hc ?_ | refine Rn.block hc ?_ | refine Rn.inBlock hc ?_ | refine Rn.scope hc ?_ | refine Rn.inScope hc ?_))
        have hEp : Per E i ro.length := by rw [hE]; exact every_per hro hs1 (by omega)
        refine Rn.reg hc rfl ?_
        simp only [sev_tmp, sev_const, sg_eq, sg_ne, sp_n, Nat.reduceLT, ne_eq, Nat.reduceEqDiff, not_false_eq_true, gd, want_free, rops, fx, ld, fad, lng, adr_p, Nat.zero_add, Option.some.injEq, exists_eq_left', tk22, fo24_2, un22, hn, s3, c2]
        (repeat (first | refine Rn.seq hc ?_ | refine Rn.skip hc ?_ | refine Rn.block hc ?_ | refine Rn.inBlock hc ?_ | refine Rn.scope hc ?_ | refine Rn.inScope hc ?_))
        refine Rn.loopI hc (I := fun k s C => ∃ j wb, j ≤ ro.length ∧ k = ro.length - j ∧ Nx B.next B C ∧ Gr C wb B.next (redR E i j) ∧ s.n = 75 ∧ sget s 1 = .int .i64 (stp : Int) ∧ sget s 2 = .int .i64 ((tt : Nat) : Int) ∧ sget s 3 = .pointer (some ⟨A.next, 0, none⟩) ∧ sget s 6 = .pointer (some ⟨A0.next, 0, none⟩) ∧ sget s 9 = .pointer (some ⟨A4.next, 0, none⟩) ∧ sget s 10 = .slice wa i i ∧ sget s 11 = .slice wb j j ∧ sget s 53 = .int .i64 (ro.length : Int) ∧ sget s 54 = .int .i64 (j : Int))
          (n := ro.length) ⟨0, none, by omega, rfl, Nx.refl hB.wf _, Gr.nil _ _, by simp only [sp_n, hn], by simp only [sg_ne, ne_eq, Nat.reduceEqDiff, not_false_eq_true, s1], by simp only [sg_ne, ne_eq, Nat.reduceEqDiff, not_false_eq_true, s2], by simp only [sg_ne, ne_eq, Nat.reduceEqDiff, not_false_eq_true, s3], by simp only [sg_ne, ne_eq, Nat.reduceEqDiff, not_false_eq_true, s6], by simp only [sg_ne, ne_eq, Nat.reduceEqDiff, not_false_eq_true, s9], by simp only [sg_ne, ne_eq, Nat.reduceEqDiff, not_false_eq_true, s10], by simp only [sg_ne, ne_eq, Nat.reduceEqDiff, not_false_eq_true, s11], by simp only [sg_eq, sg_ne, sp_n, Nat.reduceLT, ne_eq, Nat.reduceEqDiff, not_false_eq_true, hn], by simp only [sg_eq, sp_n, Nat.reduceLT, hn]; rfl⟩ ?_
        clear hn s1 s2 s3 s6 s9 s10 s11 s hd
        rintro k s C ⟨j, wb, hj, rfl, hC, hgb, hn, s1, s2, s3, s6, s9, s10, s11, s53, s54⟩ ih
        have hC0 : Nx A.next A C := hB0.trans (hC.le hB0.next)
        have nC := hC.next
        (repeat (first | refine Rn.seq hc ?_ | refine Rn.skip hc ?_ | refine Rn.block hc ?_ | refine Rn.inBlock hc ?_ | refine Rn.scope hc ?_ | refine Rn.inScope hc ?_))
        by_cases hlj : j < ro.length
        · have hd : decide ((j : Int) < (ro.length : Int)) = true := decide_eq_true (by omega)
          have f0 := (hC.cl (show A4.next < B.next by omega) 0).trans f0
          have f1 := (hC.cl (show A4.next < B.next by omega) 1).trans f1
          have f2 := (hC.cl (show A4.next < B.next by omega) 2).trans f2
          have hjs : j * stp ≤ 120 * 120 := Nat.mul_le_mul (by omega) hs2
          have hw1 : IntKind.i64.wrap ((j : Int) * (stp : Int)) = ((j * stp : Nat) : Int) := by
            rw [← Int.natCast_mul, IntWalk.i64_in _ (by omega)]
          have hw2 : IntKind.i64.wrap ((tt : Int) + ((j * stp : Nat) : Int)) = ((tt + j * stp : Nat) : Int) := by rw [IntWalk.i64_in _ (by omega)]; omega
          refine Rn.reg hc rfl ?_
          simp only [sev_tmp, gd, want_free, rops, fx, bin_lss, Option.some.injEq, exists_eq_left', s53, s54, hd]
          (repeat (first | refine Rn.seq hc ?_ | refine Rn.skip hc ?_ | refine Rn.block hc ?_ | refine Rn.inBlock hc ?_ | refine Rn.scope hc ?_ | refine Rn.inScope hc ?_))
          refine Rn.condE hc rfl ?_
          simp only [sev_tmp, sg_eq, Nat.reduceLT, Value.bool.injEq, exists_eq_left', hn]
          (repeat (first | refine Rn.seq hc ?_ | refine Rn.skip hc ?_ | refine Rn.block hc ?_ | refine Rn.inBlock hc ?_ | refine Rn.scope hc ?_ | refine Rn.inScope hc ?_))
          refine Rn.reg hc rfl ?_
          simp only [sev_tmp, sg_eq, sg_ne, sp_n, Nat.reduceLT, ne_eq, Nat.reduceEqDiff, not_false_eq_true, gd, want_free, rops, fx, Option.some.injEq, exists_eq_left', hn, s54]
          (repeat (first | refine Rn.seq hc ?_ | refine Rn.skip hc ?_ | refine Rn.block hc ?_ | refine Rn.inBlock hc ?_ | refine Rn.scope hc ?_ | refine Rn.inScope hc ?_))
          refine Rn.region hc fun K hK => ?_
          refine Wo.run hc 7 rfl rfl rfl ?_
          simp (maxSteps := 2000000) only [List.drop_zero, List.take_succ_cons, List.take_zero, sev_tmp, sg_eq, sg_ne, sp_n, Nat.reduceLT, ne_eq, Nat.reduceEqDiff, not_false_eq_true, gd, want_free, rops, fx, ld, bin_add, bin_mul, adr_p, cls, Nat.zero_add, Option.some.injEq, exists_eq_left', Nat.reduceAdd, tk86, hn, s1, s2, s9, s11, f0, f1, f2, hw1, hw2]
          refine Wo.call hc (by rfl) (by rfl) ⟨by rfl, by rfl⟩ (xs := [.agg #[.int .i64 m, .slice sa st.length sc, .slice ra ro.length rc], .int .i64 ((tt + j * stp : Nat) : Int)]) (by rfl) (by rfl) (by simp only [sev_tmp, sg_eq, sg_ne, sp_n, Nat.reduceLT, ne_eq, Nat.reduceEqDiff, not_false_eq_true, List.map_cons, List.map_nil, List.nil_append, List.append_nil, hn]) (Con.mono (at_stream hC.wf ((hs.nx hC0 (Nat.le_refl _)).mono (Nat.le_refl _) hC0.next) ((hr.nx hC0 (Nat.le_refl _)).mono (Nat.le_refl _) hC0.next) (tt + j * stp) ls hro lr (by omega)) ?_)
          rintro w B1 ⟨rfl, hy1⟩
          have hval : atL st ro (tt + j * stp) = E (i + j) := by rw [hEv, htt, Nat.add_mul, Nat.add_assoc]
          rw [hval]
          have hz1 : Nx B1.next B1 (B1.push (.cells #[.int .i64 (E (i + j))] 3)) := (Nx.refl hy1.wf _).push (Nat.le_refl _) _
          have lB2 := look_push_eq B1 (.cells #[.int .i64 (E (i + j))] 3)
          have hnB2 : (B1.push (.cells #[.int .i64 (E (i + j))] 3)).next = B1.next + 1 := rfl
          generalize eB2 : B1.push (.cells #[.int .i64 (E (i + j))] 3) = B2 at hz1 lB2 hnB2
          have hg2 : Gr B2 wb B.next (redR E i j) := (hgb.nx (n := 0) hC.wf hy1).nx (n := 0) hy1.wf hz1
          obtain ⟨B3, q1, n3, w3, hg3, _, nx3⟩ := gr_push hz1.wf hg2 (a2 := some ⟨B1.next, 0, none⟩) (c2 := 1) (b2 := B1.next) (x := E (i + j)) rfl (by rw [cl_of lB2 rfl]; rfl) (by rw [redR_len]; omega)
          rw [redR_len] at q1
          rw [redR_snoc] at hg3
          have hyn := hy1.next
          refine Wo.run hc 3 rfl rfl rfl ?_
          simp (maxSteps := 2000000) only [List.drop_zero, List.drop_succ_cons, List.take_succ_cons, List.take_zero, sev_tmp, sg_eq, sg_ne, sp_n, Nat.reduceLT, ne_eq, Nat.reduceEqDiff, not_false_eq_true, gd, want_free, rops, fx, Option.some.injEq, exists_eq_left', Nat.reduceAdd, hn, bs22_1, isCell, eB2, ae_apd, apd_slice, q1]
          refine Wo.done hc rfl (hK _ _ ?_)
          clear hK
          (repeat (first | refine Rn.seq hc ?_ | refine Rn.skip hc ?_ | refine Rn.block hc ?_ | refine Rn.inBlock hc ?_ | refine Rn.scope hc ?_ | refine Rn.inScope hc ?_))
          have hC3 : Nx B.next B B3 := hC.trans ((hy1.le hC.next).trans ((hz1.le (by omega)).trans (nx3.le (by omega))))
          refine Rn.reg hc rfl ?_
          simp only [sev_tmp, sev_const, sg_eq, sg_ne, sp_n, Nat.reduceLT, ne_eq, Nat.reduceEqDiff, not_false_eq_true, gd, want_free, rops, fx, bin_add, Option.some.injEq, exists_eq_left', hn, s54, wrap_succ (show j < 9223372036854775807 by omega)]
          (repeat (first | refine Rn.seq hc ?_ | refine Rn.skip hc ?_ | refine Rn.block hc ?_ | refine Rn.inBlock hc ?_ | refine Rn.scope hc ?_ | refine Rn.inScope hc ?_))
          exact ih _ _ _ (by omega) ⟨j + 1, _, by omega, rfl, hC3, hg3.mono (by omega), by simp only [sp_n, hn], by simp only [sg_ne, ne_eq, Nat.reduceEqDiff, not_false_eq_true, s1], by simp only [sg_ne, ne_eq, Nat.reduceEqDiff, not_false_eq_true, s2], by simp only [sg_ne, ne_eq, Nat.reduceEqDiff, not_false_eq_true, s3], by simp only [sg_ne, ne_eq, Nat.reduceEqDiff, not_false_eq_true, s6], by simp only [sg_ne, ne_eq, Nat.reduceEqDiff, not_false_eq_true, s9], by simp only [sg_ne, ne_eq, Nat.reduceEqDiff, not_false_eq_true, s10], by simp only [sg_eq, sg_ne, sp_n, Nat.reduceLT, ne_eq, Nat.reduceEqDiff, not_false_eq_true, hn], by simp only [sg_ne, ne_eq, Nat.reduceEqDiff, not_false_eq_true, s53], by simp only [sg_eq, sp_n, Nat.reduceLT, hn]⟩
        · have hd : decide ((j : Int) < (ro.length : Int)) = false := decide_eq_false (by omega)
          have hjr : j = ro.length := by omega
          clear ih
          refine Rn.reg hc rfl ?_
          simp only [sev_tmp, gd, want_free, rops, fx, bin_lss, Option.some.injEq, exists_eq_left', s53, s54, hd]
          (repeat (first | refine Rn.seq hc ?_ | refine Rn.skip hc ?_ | refine Rn.block hc ?_ | refine Rn.inBlock hc ?_ | refine Rn.scope hc ?_ | refine Rn.inScope hc ?_))
          refine Rn.condE hc rfl ?_
          simp only [sev_tmp, sg_eq, Nat.reduceLT, Value.bool.injEq, exists_eq_left', hn]
          (repeat (first | refine Rn.seq hc ?_ | refine Rn.skip hc ?_ | refine Rn.block hc ?_ | refine Rn.inBlock hc ?_ | refine Rn.scope hc ?_ | refine Rn.inScope hc ?_))
          refine Rn.exit hc rfl ?_
          (repeat (first | refine Rn.seq hc ?_ | refine Rn.skip hc ?_ | refine Rn.block hc ?_ | refine Rn.inBlock hc ?_ | refine Rn.scope hc ?_ | refine Rn.inScope hc ?_))
          subst hjr
          have c0 := (hC.cl (show A.next < B.next by omega) 0).trans c0
          have lC : Canon.look C.objs A0.next = _ := (hC.keep _ (by omega)).trans ((hB.keep _ (by omega)).trans l5)
          have hgC : Gr C wa A5.next (redS E i) := hg.nx (n := 0) hB.wf hC
          have hlr := least_run hC.wf (m := m) (sc := i) (rc := ro.length) (hgC.ints.mono (Nat.zero_le _) (Nat.le_refl _)) (hgb.ints.mono (Nat.zero_le _) (Nat.le_refl _)) (by rw [redS_len]; omega) (by rw [redR_len]; omega) (by rw [redR_len]; exact hro) (hgC.sl.mono (Nat.zero_le _)) (by rw [redS_len]; exact Nat.le_refl _)
          rw [atL_redF hEp] at hlr
          simp only [redS_len, redR_len] at hlr
          refine Rn.region hc fun K hK => ?_
          refine Wo.run hc 4 rfl rfl rfl ?_
          simp (maxSteps := 2000000) only [List.drop_zero, List.take_succ_cons, List.take_zero, sev_tmp, sg_eq, sg_ne, sp_n, Nat.reduceLT, ne_eq, Nat.reduceEqDiff, not_false_eq_true, gd, want_free, rops, fx, ld, fad, adr_p, Nat.zero_add, Nat.add_zero, Option.some.injEq, exists_eq_left', tk3, fo24_0, hn, s3, s10, s11, c0]
          refine Wo.call hc (by rfl) (by rfl) ⟨by rfl, by rfl⟩ (xs := [.int .i64 m, .slice wa i i, .slice wb ro.length ro.length]) (by rfl) (by rfl) (by simp only [sev_tmp, sg_eq, sg_ne, sp_n, Nat.reduceLT, ne_eq, Nat.reduceEqDiff, not_false_eq_true, List.map_cons, List.map_nil, List.nil_append, List.append_nil, hn]) (Con.mono (hlr) ?_)
          rintro w C3 ⟨a, p, hred, _, _, hq⟩
          obtain ⟨mm, n1, n2, ee, p1, c1, p2, c2, rfl, D, q1, g0, g1, g2, hoff, hT⟩ := Tld.fin (b := A0.next) hC0 hn0A (by omega) lC (tld_q (m := m) hred hq)
          refine Wo.run hc 4 rfl rfl rfl ?_
          simp (maxSteps := 2000000) only [List.drop_zero, List.drop_succ_cons, List.take_succ_cons, List.take_zero, sev_tmp, sg_eq, sg_ne, sp_n, sp_none, Nat.reduceLT, ne_eq, Nat.reduceEqDiff, not_false_eq_true, gd, want_free, rops, fx, str, ext, adr_p, List.getElem?_toArray, List.getElem?_cons_zero, List.getElem?_cons_succ, Nat.zero_add, Option.some.injEq, exists_eq_left', Nat.reduceAdd, tk24, hn, s6, ext, q1, List.size_toArray, List.length_cons, List.length_nil, Nat.beq_refl]
          refine Wo.done hc rfl (hK _ _ ?_)
          clear hK
          (repeat (first | refine Rn.seq hc ?_ | refine Rn.skip hc ?_ | refine Rn.block hc ?_ | refine Rn.inBlock hc ?_ | refine Rn.scope hc ?_ | refine Rn.inScope hc ?_))
          refine Rn.ret (endQ_ct rfl (v := .agg #[.int .i64 mm, .slice p1 n1 c1, .slice p2 n2 c2]) ?_ ?_)
          · simp only [sg_ne, ne_eq, Nat.reduceEqDiff, not_false_eq_true, ld, adr_p, cls, Nat.zero_add, Nat.reduceAdd, tk24, s6, g0, g1, g2]
          · simp only [sg_eq, sp_n, Nat.reduceLT, hn]
            exact hT
  · have hd : (!decide (errL m st ro = 0)) = true := by rw [decide_eq_false he]; rfl
    obtain ⟨D, q1, g0, g1, g2, hxD⟩ := err_fin hx04 hn0A n4 l4
    rw [if_neg he]
    refine Rn.reg hc rfl ?_
    simp only [sev_tmp, sev_const, sg_eq, sp_n, Nat.reduceLT, gd, want_free, rops, fx, bin_neq, Option.some.injEq, exists_eq_left', hd]
    (repeat (first | refine Rn.seq hc ?_ | refine Rn.skip hc ?_ | refine Rn.block hc ?_ | refine Rn.inBlock hc ?_ | refine Rn.scope hc ?_ | refine Rn.inScope hc ?_))
    refine Rn.condE hc rfl ?_
    simp only [sev_tmp, sg_eq, sp_n, Nat.reduceLT, Value.bool.injEq, exists_eq_left']
    (repeat (first | refine Rn.seq hc ?_ | refine Rn.skip hc ?_ | refine Rn.block hc ?_ | refine Rn.inBlock hc ?_ | refine Rn.scope hc ?_ | refine Rn.inScope hc ?_))
    refine Rn.reg hc rfl ?_
    simp only [sev_tmp, sg_eq, sg_ne, sp_n, sp_none, Nat.reduceLT, ne_eq, Nat.reduceEqDiff, not_false_eq_true, gd, want_free, rops, fx, str, adr_p, Nat.zero_add, Option.some.injEq, exists_eq_left', Nat.reduceAdd, tk24, bd24_z, q1, List.size_toArray, List.length_cons, List.length_nil, Nat.beq_refl]
    (repeat (first | refine Rn.seq hc ?_ | refine Rn.skip hc ?_ | refine Rn.block hc ?_ | refine Rn.inBlock hc ?_ | refine Rn.scope hc ?_ | refine Rn.inScope hc ?_))
    refine Rn.ret (endQ_ct rfl (v := .agg #[.int .i64 0, .slice none 0 0, .slice none 0 0]) ?_ ?_)
    · simp only [sg_eq, sg_ne, sp_n, Nat.reduceLT, ne_eq, Nat.reduceEqDiff, not_false_eq_true, ld, adr_p, cls, Nat.zero_add, Nat.reduceAdd, tk24, g0, g1, g2]
    · simp only [sg_eq, sp_n, Nat.reduceLT]
      exact tld_err he hxD
end Go.Proofs.Ytdaljohmfnfgiaa
/- Every so many elements, by the reference. No condition. -/
namespace Go.Proofs.Ytdaljohmfnfgiaa
open Go Go.RowKit Go.Proofs.Ytdaljohmfnfgiaa.Canon
set_option maxRecDepth 20000

end Go.Proofs.Ytdaljohmfnfgiaa
/- LassoChecks: what is looked at. No condition. -/
namespace Go.Proofs.Ytdaljohmfnfgiaa
open Go Go.RowKit Go.Proofs.Ytdaljohmfnfgiaa.Canon
set_option maxRecDepth 20000

/-- A stream, and the variable that has it. -/
structure Has (B : AHeap) (b : Nat) (x : Las) : Prop where
  c0 : cl B b 0 = some (.int .i64 x.m)
  c1 : cl B b 1 = some (.slice x.sa x.st.length x.sc)
  c2 : cl B b 2 = some (.slice x.ra x.ro.length x.rc)
  ok : x.ok B
  lt : b < B.next
  ls : x.st.length ≤ 70
  lr : x.ro.length ≤ 130
  cs : x.st.length ≤ x.sc
  cr : x.ro.length ≤ x.rc
  s1 : 0 < x.st.length → Sl B x.sa 0
  s2 : 0 < x.ro.length → Sl B x.ra 0
theorem Has.nx {B C : AHeap} {b : Nat} {x : Las} (h : Has B b x) (hw : WF B) (k : Nx B.next B C) : Has C b x :=
  { c0 := (k.cl h.lt 0).trans h.c0, c1 := (k.cl h.lt 1).trans h.c1, c2 := (k.cl h.lt 2).trans h.c2, ok := h.ok.nx k, lt := Nat.lt_of_lt_of_le h.lt k.next, ls := h.ls, lr := h.lr, cs := h.cs, cr := h.cr, s1 := fun q => (h.s1 q).nx hw k, s2 := fun q => (h.s2 q).nx hw k }

end Go.Proofs.Ytdaljohmfnfgiaa
/- LassoChecks: both sides tell the same. No condition. -/
namespace Go.Proofs.Ytdaljohmfnfgiaa
open Go Go.RowKit Go.Proofs.Ytdaljohmfnfgiaa.Canon
set_option maxRecDepth 20000

/-- What Same and Apart come to. -/
def SameP (x y : Las) (v : Value) : Prop := (errs [x, y] [x, y] = 0 → ∃ b, v = .tuple #[.bool b, .int .i64 0] ∧ (b = true ↔ ∀ n, x.s n = y.s n)) ∧ (errs [x, y] [x, y] ≠ 0 → v = .tuple #[.bool false, .int .i64 (errs [x, y] [x, y])])
def ApartP (x y : Las) (v : Value) : Prop := (errs [x, y] [x, y] = 0 → ApartQ x.s y.s v) ∧ (errs [x, y] [x, y] ≠ 0 → v = .tuple #[.int .i64 0, .int .i64 (errs [x, y] [x, y])])
theorem SameP.eq {x x' y y' : Las} (tx : Tw x x') (ty : Tw y y') {v w : Value} (h : SameP x y v) (k : SameP x' y' w) : w = v := by
  obtain ⟨b, e, h1, h2⟩ := same_tw tx ty h k
  rw [h1, h2]
theorem ApartP.eq {x x' y y' : Las} (tx : Tw x x') (ty : Tw y y') {v w : Value} (h : ApartP x y v) (k : ApartP x' y' w) : w = v := by
  obtain ⟨b, e, h1, h2⟩ := apart_tw tx ty h k
  rw [h1, h2]
theorem Wrt.nx {A B : AHeap} {a : Option Addr} {lo hi n : Nat} (h : Wrt A a lo hi n) (hw : WF A) (k : Nx A.next A B) : Wrt B a lo B.next n := fun hpos => by
  obtain ⟨b, o, c, t, f, g, e, h1, h2, h3, h4, h5⟩ := h hpos
  have hb := hw _ _ h3
  exact ⟨b, o, c, t, f, g, e, h1, ⟨h2.1, Nat.lt_of_lt_of_le hb k.next⟩, by rw [k.keep _ hb]; exact h3, h4, h5⟩
theorem same_true {A : AHeap} (hw : WF A) {x x' : Las} (hx : x.ok A) (hx' : x'.ok A) (t : Tw x' x) : Con Try.prog 26 [x'.v, x.v] A (fun v A1 => v = .bool true ∧ Nx A.next A A1) := by
  obtain ⟨a1, a2, a3, a4⟩ := hx
  obtain ⟨b1, b2, b3, b4⟩ := hx'
  refine Con.mono (same_lasso hw b1 b2 a1 a2 b3 b4 a3 a4) fun v A1 h => ⟨?_, h.2⟩
  rw [h.1, t.1, t.2.1, t.2.2]
  simp
end Go.Proofs.Ytdaljohmfnfgiaa
/- LassoChecks returns true. No condition. -/
namespace Go.Proofs.Ytdaljohmfnfgiaa
open Go Go.RowKit Go.Proofs.Ytdaljohmfnfgiaa.Canon
set_option maxRecDepth 20000

end Go.Proofs.Ytdaljohmfnfgiaa
/- LassoParts: results side by side. No condition. -/
namespace Go.Proofs.Ytdaljohmfnfgiaa
open Go Go.RowKit Go.Proofs.Ytdaljohmfnfgiaa.Canon
set_option maxRecDepth 20000

/-- The same but for some blocks. -/
structure Off (lo hi : Nat) (A B : AHeap) : Prop where
  next : A.next ≤ B.next
  wf : WF B
  keep : ∀ b, b < A.next → (b < lo ∨ hi ≤ b) → Canon.look B.objs b = Canon.look A.objs b
theorem Wrt.stay {A B : AHeap} {a : Option Addr} {lo hi n : Nat} (h : Wrt A a lo hi n) (k : ∀ b, lo ≤ b → b < hi → Canon.look B.objs b = Canon.look A.objs b) : Wrt B a lo hi n := fun hpos => by
  obtain ⟨b, o, c, t, f, g, e, h1, h2, h3, h4, h5⟩ := h hpos
  exact ⟨b, o, c, t, f, g, e, h1, h2, by rw [k b h2.1 h2.2]; exact h3, h4, h5⟩
/-- Two results that are the same, and the variables that have them; the first may be written. -/
structure Pr (lo hi : Nat) (D : AHeap) (b b' : Nat) (y y' : Las) : Prop where
  c0 : cl D b 0 = some (.int .i64 y.m)
  c1 : cl D b 1 = some (.slice y.sa y.st.length y.sc)
  c2 : cl D b 2 = some (.slice y.ra y.ro.length y.rc)
  d0 : cl D b' 0 = some (.int .i64 y'.m)
  d1 : cl D b' 1 = some (.slice y'.sa y'.st.length y'.sc)
  d2 : cl D b' 2 = some (.slice y'.ra y'.ro.length y'.rc)
  ok : y.ok D
  ok' : y'.ok D
  lt : b < D.next
  lt' : b' < D.next
  hb : hi ≤ b
  tw : Tw y y'
  w1 : Wrt D y.sa lo hi y.st.length
  w2 : Wrt D y.ra lo hi y.ro.length
theorem Pr.nx {lo hi : Nat} {D E : AHeap} {b b' : Nat} {y y' : Las} (h : Pr lo hi D b b' y y') (k : Nx D.next D E) : Pr lo hi E b b' y y' :=
  { c0 := (k.cl h.lt 0).trans h.c0, c1 := (k.cl h.lt 1).trans h.c1, c2 := (k.cl h.lt 2).trans h.c2, d0 := (k.cl h.lt' 0).trans h.d0, d1 := (k.cl h.lt' 1).trans h.d1, d2 := (k.cl h.lt' 2).trans h.d2, ok := h.ok.nx k, ok' := h.ok'.nx k, lt := Nat.lt_of_lt_of_le h.lt k.next, lt' := Nat.lt_of_lt_of_le h.lt' k.next, hb := h.hb, tw := h.tw,
    w1 := h.w1.stay fun b'' _ h2 => k.keep _ (by have := h.hb; have := h.lt; omega), w2 := h.w2.stay fun b'' _ h2 => k.keep _ (by have := h.hb; have := h.lt; omega) }
end Go.Proofs.Ytdaljohmfnfgiaa
/- Streams that are woven: their numbers. No condition. -/
namespace Go.Proofs.Ytdaljohmfnfgiaa
open Go Go.RowKit Go.Proofs.Ytdaljohmfnfgiaa.Canon

theorem lcmN_eq (a b : Nat) : lcmN a b = Nat.lcm a b := by
  unfold lcmN Nat.lcm
  rw [Nat.div_mul_right_comm (Nat.gcd_dvd_left a b)]
/-- The least common multiple, and the greatest, of the first ones. -/
def lcmF (f : Nat → Nat) : Nat → Nat
  | 0 => 1
  | i + 1 => lcmN (lcmF f i) (f i)
def maxF (f : Nat → Nat) : Nat → Nat
  | 0 => 0
  | i + 1 => max (maxF f i) (f i)
theorem lcmF_pos {f : Nat → Nat} {k : Nat} (h : ∀ i, i < k → 0 < f i) : ∀ {i}, i ≤ k → 0 < lcmF f i
  | 0, _ => Nat.one_pos
  | i + 1, hi => by
    rw [lcmF, lcmN_eq]
    exact Nat.lcm_pos (lcmF_pos h (by omega)) (h i (by omega))
theorem lcmF_dvd {f : Nat → Nat} : ∀ {i j : Nat}, j < i → f j ∣ lcmF f i
  | 0, _, h => by omega
  | i + 1, j, h => by
    rw [lcmF, lcmN_eq]
    by_cases hj : j = i
    · subst hj; exact Nat.dvd_lcm_right _ _
    · exact Nat.dvd_trans (lcmF_dvd (by omega)) (Nat.dvd_lcm_left _ _)
theorem lcmF_up {f : Nat → Nat} {i : Nat} : ∀ {d : Nat}, lcmF f i ∣ lcmF f (i + d)
  | 0 => Nat.dvd_refl _
  | d + 1 => by
    show lcmF f i ∣ lcmN (lcmF f (i + d)) (f (i + d))
    rw [lcmN_eq]
    exact Nat.dvd_trans lcmF_up (Nat.dvd_lcm_left _ _)
theorem lcmF_mono {f : Nat → Nat} {k i j : Nat} (h : ∀ i, i < k → 0 < f i) (hij : i ≤ j) (hj : j ≤ k) : lcmF f i ≤ lcmF f j := by
  obtain ⟨d, rfl⟩ : ∃ d, j = i + d := ⟨j - i, by omega⟩
  exact Nat.le_of_dvd (lcmF_pos h hj) lcmF_up
theorem lcmF_least {f : Nat → Nat} {m : Nat} : ∀ {i : Nat}, (∀ j, j < i → f j ∣ m) → lcmF f i ∣ m
  | 0, _ => Nat.one_dvd _
  | i + 1, h => by
    rw [lcmF, lcmN_eq]
    exact Nat.lcm_dvd (lcmF_least fun j hj => h j (by omega)) (h i (by omega))
theorem maxF_ge {f : Nat → Nat} : ∀ {i j : Nat}, j < i → f j ≤ maxF f i
  | 0, _, h => by omega
  | i + 1, j, h => by
    rw [maxF]
    by_cases hj : j = i
    · subst hj; omega
    · have := maxF_ge (f := f) (i := i) (j := j) (by omega)
      omega
theorem maxF_le {f : Nat → Nat} {m : Nat} : ∀ {i : Nat}, (∀ j, j < i → f j ≤ m) → maxF f i ≤ m
  | 0, _ => Nat.zero_le _
  | i + 1, h => by
    have := maxF_le (f := f) (m := m) (i := i) fun j hj => h j (by omega)
    have := h i (by omega)
    rw [maxF]
    omega
/-- What is woven of several. -/
def wov (l : List Las) (n : Nat) : Int := (l.getD (n % l.length) noLas).s (n / l.length)
theorem wov_at {l : List Las} {n i : Nat} (hi : i < l.length) : wov l (n * l.length + i) = (l.getD i noLas).s n := by
  unfold wov
  rw [Nat.mul_comm, Nat.mul_add_mod, Nat.mod_eq_of_lt hi, Nat.mul_add_div (by omega), Nat.div_eq_of_lt hi, Nat.add_zero]
theorem wov_per {l : List Las} (h0 : 0 < l.length) {N p : Nat} (h : ∀ i, i < l.length → Per (l.getD i noLas).s N p) : Per (wov l) (N * l.length) (p * l.length) :=
  ⟨Nat.mul_pos (h 0 h0).pos h0, fun n hn => by
    have h1 : n % l.length < l.length := Nat.mod_lt _ h0
    have h2 : N ≤ n / l.length := (Nat.le_div_iff_mul_le h0).2 hn
    unfold wov
    rw [Nat.add_mul_mod_self_right, Nat.add_mul_div_right _ _ h0]
    exact (h _ h1).per _ h2⟩
/-- The error of weaving. -/
def erW (l : List Las) (fp : Nat → Nat) : Int := if l.length < 1 ∨ 8 < l.length then 2 else if errs l l = 0 then (if 120 < lcmF fp l.length then 11 else 0) else errs l l
/-- The least periods, and the least beginnings, of several. -/
def RedL (l : List Las) (fa fp : Nat → Nat) : Prop := ∀ i, i < l.length → Red (l.getD i noLas).s (fa i) (fp i) ∧ fa i ≤ (l.getD i noLas).st.length ∧ fp i ≤ (l.getD i noLas).ro.length
theorem errs_each {all l : List Las} (h : errs all l = 0) : ∀ i, i < l.length → (l.getD i noLas).err = 0 := by
  induction l with
  | nil => intro i hi; simp at hi
  | cons x l ih =>
    rw [errs] at h
    by_cases hx : x.err = 0
    · rw [if_pos hx] at h
      intro i hi
      cases i with
      | zero => exact hx
      | succ i =>
        have := ih h i (by simp at hi; omega)
        simpa using this
    · rw [if_neg hx] at h
      exact absurd h hx
theorem redL_exists {l : List Las} (h : errs l l = 0) : ∃ fa fp, RedL l fa fp := by
  have h1 : ∀ i, ∃ q : Nat × Nat, i < l.length → Red (l.getD i noLas).s q.1 q.2 ∧ q.1 ≤ (l.getD i noLas).st.length ∧ q.2 ≤ (l.getD i noLas).ro.length := fun i => by
    by_cases hi : i < l.length
    · obtain ⟨a, p, hr, ha, hp, _⟩ := red_exists (l.getD i noLas).st (errL_pos (errs_each h i hi))
      exact ⟨(a, p), fun _ => ⟨hr, ha, hp⟩⟩
    · exact ⟨(0, 0), fun h' => absurd h' hi⟩
  refine ⟨fun i => (Classical.choose (h1 i)).1, fun i => (Classical.choose (h1 i)).2, fun i hi => ?_⟩
  exact Classical.choose_spec (h1 i) hi
theorem RedL.pos {l : List Las} {fa fp : Nat → Nat} (h : RedL l fa fp) : ∀ i, i < l.length → 0 < fp i := fun i hi => (h i hi).1.per.pos
theorem RedL.per {l : List Las} {fa fp : Nat → Nat} (h : RedL l fa fp) {N : Nat} (h0 : 0 < l.length) (hN : maxF fa l.length ≤ N) : Per (wov l) (N * l.length) (lcmF fp l.length * l.length) :=
  wov_per h0 fun i hi => by
    have h1 := (h i hi).1.per.mono (Nat.le_trans (maxF_ge hi) hN)
    obtain ⟨q, hq⟩ := lcmF_dvd (f := fp) hi
    have hp := lcmF_pos h.pos (Nat.le_refl _)
    rw [hq] at hp ⊢
    rw [Nat.mul_comm]
    exact h1.mul (Nat.pos_of_ne_zero fun h0 => by subst h0; simp at hp)
/-- Two rows of streams that have the same numbers. -/
def TwL (l l' : List Las) : Prop := l.length = l'.length ∧ ∀ i, i < l.length → Tw (l.getD i noLas) (l'.getD i noLas)
theorem tw_s {x y : Las} (h : Tw x y) : x.s = y.s := by
  unfold Las.s
  rw [h.2.1, h.2.2]
theorem TwL.tail {x y : Las} {l l' : List Las} (h : TwL (x :: l) (y :: l')) : Tw x y ∧ TwL l l' :=
  ⟨h.2 0 (by simp), by have := h.1; simpa using this, fun i hi => by have := h.2 (i + 1) (by simp; omega); simpa using this⟩
theorem RedL.tw {l l' : List Las} {fa fp : Nat → Nat} (h : RedL l fa fp) (t : TwL l l') : RedL l' fa fp := fun i hi => by
  have hi' : i < l.length := by have := t.1; omega
  have t1 := t.2 i hi'
  obtain ⟨h1, h2, h3⟩ := h i hi'
  exact ⟨by rw [← tw_s t1]; exact h1, by rw [← t1.2.1]; exact h2, by rw [← t1.2.2]; exact h3⟩
end Go.Proofs.Ytdaljohmfnfgiaa
/- The greatest common divisor, and the least common multiple, by the program. No condition. -/
namespace Go.Proofs.Ytdaljohmfnfgiaa
open Go Go.RowKit Go.Proofs.Ytdaljohmfnfgiaa.Canon
set_option maxRecDepth 20000

theorem gcd_run {A : AHeap} (hw : WF A) {a b : Nat} (ha : a < 4611686018427387904) (hb : b < 4611686018427387904) : Con Try.prog 108 [.int .i64 (a : Int), .int .i64 (b : Int)] A (fun v A1 => v = .int .i64 (Nat.gcd a b : Nat) ∧ Nx A.next A A1) := by
  refine con_of_rn hc Try.func108 rfl (Nat.le_of_ble_eq_true rfl) ?_
  rw [s_in2]
  (repeat (first | refine Rn.seq hc ?_ | refine Rn.skip hc ?_ | refine Rn.block hc ?_ | refine Rn.inBlock hc ?_ | refine Rn.scope hc ?_ | refine Rn.inScope hc ?_))
  refine Rn.reg hc rfl ?_
  simp only [sev_const, gd, want_free, rops, fx, Option.some.injEq, exists_eq_left', show Try.f108.ntmps = 12 from rfl]
  (repeat (first | refine Rn.seq hc ?_ | refine Rn.skip hc ?_ | refine Rn.block hc ?_ | refine Rn.inBlock hc ?_ | refine Rn.scope hc ?_ | refine Rn.inScope hc ?_))
  refine Rn.loopI hc (I := fun k s A' => ∃ x y : Nat, k = y ∧ x < 4611686018427387904 ∧ y < 4611686018427387904 ∧ Nat.gcd x y = Nat.gcd a b ∧ Nx A.next A A' ∧ s.n = 12 ∧ sget s 0 = .int .i64 (x : Int) ∧ sget s 1 = .int .i64 (y : Int))
    (n := b) ⟨a, b, rfl, ha, hb, rfl, Nx.refl hw _, by simp only [sp_n], by simp only [sg_eq, sg_ne, Nat.reduceLT, ne_eq, Nat.reduceEqDiff, not_false_eq_true], by simp only [sg_eq, sg_ne, sp_n, Nat.reduceLT, ne_eq, Nat.reduceEqDiff, not_false_eq_true]⟩ ?_
  rintro k s A' ⟨x, y, hky, hx', hy', hg, hA, hn, s0, s1⟩ ih
  (repeat (first | refine Rn.seq hc ?_ | refine Rn.skip hc ?_ | refine Rn.block hc ?_ | refine Rn.inBlock hc ?_ | refine Rn.scope hc ?_ | refine Rn.inScope hc ?_))
  by_cases hy0 : y = 0
  · subst hy0
    clear ih
    rw [Nat.gcd_zero_right] at hg
    refine Rn.reg hc rfl ?_
    simp only [sev_tmp, sev_const, sg_eq, Nat.reduceLT, gd, want_free, rops, fx, bin_neq, Option.some.injEq, exists_eq_left', Bool.not_true, Bool.not_true, hn, s1, Int.natCast_zero, eq_self, decide_true, Bool.not_true]
    (repeat (first | refine Rn.seq hc ?_ | refine Rn.skip hc ?_ | refine Rn.block hc ?_ | refine Rn.inBlock hc ?_ | refine Rn.scope hc ?_ | refine Rn.inScope hc ?_))
    refine Rn.condE hc rfl ?_
    simp only [sev_tmp, sg_eq, sp_n, Nat.reduceLT, Value.bool.injEq, exists_eq_left', hn]
    (repeat (first | refine Rn.seq hc ?_ | refine Rn.skip hc ?_ | refine Rn.block hc ?_ | refine Rn.inBlock hc ?_ | refine Rn.scope hc ?_ | refine Rn.inScope hc ?_))
    refine Rn.exit hc rfl ?_
    (repeat (first | refine Rn.seq hc ?_ | refine Rn.skip hc ?_ | refine Rn.block hc ?_ | refine Rn.inBlock hc ?_ | refine Rn.scope hc ?_ | refine Rn.inScope hc ?_))
    refine Rn.reg hc rfl ?_
    simp only [sev_tmp, sg_eq, sg_ne, sp_n, Nat.reduceLT, ne_eq, Nat.reduceEqDiff, not_false_eq_true, gd, want_free, rops, fx, Option.some.injEq, exists_eq_left', hn, s0]
    (repeat (first | refine Rn.seq hc ?_ | refine Rn.skip hc ?_ | refine Rn.block hc ?_ | refine Rn.inBlock hc ?_ | refine Rn.scope hc ?_ | refine Rn.inScope hc ?_))
    refine Rn.ret (endQ_tmp rfl ⟨?_, hA⟩)
    simp only [sg_eq, sp_n, Nat.reduceLT, hn, hg]
  · have hd : (!decide ((y : Int) = 0)) = true := by rw [decide_eq_false (by omega)]; rfl
    have hrem : ∀ M, bin Try.prog .rem 3 (.int .i64 (x : Int)) (.int .i64 (y : Int)) M = some (.int .i64 ((x % y : Nat) : Int), M) := fun M => by
      rw [bin_rem _ _ _ _ (by omega), IntWalk.rem_in _ _ (by omega)]
      rfl
    have hlt := Nat.mod_lt x (Nat.pos_of_ne_zero hy0)
    refine Rn.reg hc rfl ?_
    simp only [sev_tmp, sev_const, sg_eq, Nat.reduceLT, gd, want_free, rops, fx, bin_neq, Option.some.injEq, exists_eq_left', hn, s1, hd]
    (repeat (first | refine Rn.seq hc ?_ | refine Rn.skip hc ?_ | refine Rn.block hc ?_ | refine Rn.inBlock hc ?_ | refine Rn.scope hc ?_ | refine Rn.inScope hc ?_))
    refine Rn.condE hc rfl ?_
    simp only [sev_tmp, sg_eq, sp_n, Nat.reduceLT, Value.bool.injEq, exists_eq_left', hn]
    (repeat (first | refine Rn.seq hc ?_ | refine Rn.skip hc ?_ | refine Rn.block hc ?_ | refine Rn.inBlock hc ?_ | refine Rn.scope hc ?_ | refine Rn.inScope hc ?_))
    refine Rn.drawnR hc hx (by kernel_rfl) (by rfl) (by kernel_rfl) ?_ ?_
    · simp only [rdV, VQ.int, sev_tmp, sg_eq, sg_ne, sp_n, Nat.reduceLT, ne_eq, Nat.reduceEqDiff, not_false_eq_true, gd, want_free, fx, Nat.zero_add, Nat.reduceAdd, and_self, hn, s0, s1, hrem, List.length_cons, List.length_nil]
    simp only [sev_tmp, sg_eq, sg_ne, sp_n, Nat.reduceLT, ne_eq, Nat.reduceEqDiff, not_false_eq_true, gd, want_free, rops, fx, Nat.zero_add, Option.some.injEq, exists_eq_left', Nat.reduceAdd, hn, s0, s1, hrem, List.length_cons, List.length_nil]
    (repeat (first | refine Rn.seq hc ?_ | refine Rn.skip hc ?_ | refine Rn.block hc ?_ | refine Rn.inBlock hc ?_ | refine Rn.scope hc ?_ | refine Rn.inScope hc ?_))
    refine ih _ _ _ (by rw [hky]; exact hlt) ⟨y, x % y, rfl, hy', by omega, ?_, Nx.bump hA _, by simp only [sp_n, hn], by simp only [sg_eq, sg_ne, sp_n, Nat.reduceLT, ne_eq, Nat.reduceEqDiff, not_false_eq_true, hn], by simp only [sg_eq, sp_n, Nat.reduceLT, hn]⟩
    rw [← hg, Nat.gcd_comm x y, Nat.gcd_rec y x, Nat.gcd_comm]


theorem quo_nat {x d : Nat} (hd : 0 < d) (hx : x < 4611686018427387904) (M : AHeap) : bin Try.prog .quo 3 (.int .i64 (x : Int)) (.int .i64 (d : Int)) M = some (.int .i64 ((x / d : Nat) : Int), M) := by
  have hle := Nat.div_le_self x d
  have e : ((x : Int)).tdiv (d : Int) = ((x / d : Nat) : Int) := by
    rw [Int.tdiv_eq_ediv_of_nonneg (by omega)]
    rfl
  have e2 : IntKind.i64.wrap ((x / d : Nat) : Int) = ((x / d : Nat) : Int) := by
    clear e
    generalize x / d = q at hle
    rw [IntWalk.i64_in _ (by omega)]
  rw [bin_quo _ _ _ _ (by omega), e, e2]
theorem lcmN_le {a b : Nat} : lcmN a b ≤ a * b := Nat.mul_le_mul_right _ (Nat.div_le_self _ _)
theorem lcm_run {A : AHeap} (hw : WF A) {b n c : Nat} {g : Nat → Nat} (hb : ∀ i, i < n → cl A b i = some (.int .i64 (g i : Int))) (hbA : b < A.next) (hn1 : n < 1000) (hg : ∀ i, i < n → 0 < g i ∧ g i ≤ 100000 ∧ lcmF g i ≤ 100000) :
    Con Try.prog 82 [.slice (some ⟨b, 0, none⟩) n c] A (fun v A1 => v = .int .i64 ((lcmF g n : Nat) : Int) ∧ Nx A.next A A1) := by
  refine con_of_rn hc Try.func82 rfl (Nat.le_of_ble_eq_true rfl) ?_
  rw [s_in1]
  (repeat (first | refine Rn.seq hc ?_ | refine Rn.skip hc ?_ | refine Rn.block hc ?_ | refine Rn.inBlock hc ?_ | refine Rn.scope hc ?_ | refine Rn.inScope hc ?_))
  refine Rn.reg hc rfl ?_
  simp only [sev_const, gd, want_free, rops, fx, Option.some.injEq, exists_eq_left', show Try.f82.ntmps = 21 from rfl]
  (repeat (first | refine Rn.seq hc ?_ | refine Rn.skip hc ?_ | refine Rn.block hc ?_ | refine Rn.inBlock hc ?_ | refine Rn.scope hc ?_ | refine Rn.inScope hc ?_))
  refine Rn.reg hc rfl ?_
  simp only [sev_const, gd, want_free, rops, fx, Option.some.injEq, exists_eq_left']
  (repeat (first | refine Rn.seq hc ?_ | refine Rn.skip hc ?_ | refine Rn.block hc ?_ | refine Rn.inBlock hc ?_ | refine Rn.scope hc ?_ | refine Rn.inScope hc ?_))
  refine Rn.reg hc rfl ?_
  simp only [sev_tmp, sev_const, sg_eq, sg_ne, sp_n, Nat.reduceLT, ne_eq, Nat.reduceEqDiff, not_false_eq_true, gd, want_free, rops, fx, lng, Option.some.injEq, exists_eq_left', un22]
  (repeat (first | refine Rn.seq hc ?_ | refine Rn.skip hc ?_ | refine Rn.block hc ?_ | refine Rn.inBlock hc ?_ | refine Rn.scope hc ?_ | refine Rn.inScope hc ?_))
  refine Rn.loopI hc (I := fun k s B => ∃ i, i ≤ n ∧ k = n - i ∧ Nx A.next A B ∧ s.n = 21 ∧ sget s 3 = .int .i64 ((lcmF g i : Nat) : Int) ∧ sget s 6 = .slice (some ⟨b, 0, none⟩) n c ∧ sget s 7 = .int .i64 (n : Int) ∧ sget s 8 = .int .i64 (i : Int))
    (n := n) ⟨0, by omega, rfl, Nx.refl hw _, by simp only [sp_n], by simp only [sg_eq, sg_ne, sp_n, Nat.reduceLT, ne_eq, Nat.reduceEqDiff, not_false_eq_true]; rfl, by simp only [sg_eq, sg_ne, sp_n, Nat.reduceLT, ne_eq, Nat.reduceEqDiff, not_false_eq_true], by simp only [sg_eq, sg_ne, sp_n, Nat.reduceLT, ne_eq, Nat.reduceEqDiff, not_false_eq_true], by simp only [sg_eq, sp_n, Nat.reduceLT]; rfl⟩ ?_
  rintro k s B ⟨i, hi, rfl, hA, hn, s3, s6, s7, s8⟩ ih
  (repeat (first | refine Rn.seq hc ?_ | refine Rn.skip hc ?_ | refine Rn.block hc ?_ | refine Rn.inBlock hc ?_ | refine Rn.scope hc ?_ | refine Rn.inScope hc ?_))
  by_cases hlt : i < n
  · have hd : decide ((i : Int) < (n : Int)) = true := decide_eq_true (by omega)
    obtain ⟨g0, g1, g2⟩ := hg i hlt
    have hp : 0 < lcmF g i := lcmF_pos (k := n) (fun j hj => (hg j hj).1) hi
    have hci : cl B b i = some (.int .i64 (g i : Int)) := (hA.cl hbA i).trans (hb i hlt)
    have hci' : cl B b (0 + i * 1) = some (.int .i64 (g i : Int)) := by rw [Nat.zero_add, Nat.mul_one]; exact hci
    refine Rn.reg hc rfl ?_
    simp only [sev_tmp, gd, want_free, rops, fx, bin_lss, Option.some.injEq, exists_eq_left', s7, s8, hd]
    (repeat (first | refine Rn.seq hc ?_ | refine Rn.skip hc ?_ | refine Rn.block hc ?_ | refine Rn.inBlock hc ?_ | refine Rn.scope hc ?_ | refine Rn.inScope hc ?_))
    refine Rn.condE hc rfl ?_
    simp only [sev_tmp, sg_eq, Nat.reduceLT, Value.bool.injEq, exists_eq_left', hn]
    (repeat (first | refine Rn.seq hc ?_ | refine Rn.skip hc ?_ | refine Rn.block hc ?_ | refine Rn.inBlock hc ?_ | refine Rn.scope hc ?_ | refine Rn.inScope hc ?_))
    refine Rn.reg hc rfl ?_
    simp only [sev_tmp, sg_eq, sg_ne, sp_n, Nat.reduceLT, ne_eq, Nat.reduceEqDiff, not_false_eq_true, gd, want_free, rops, fx, ld, idx, adr_p, Nat.zero_add, Option.some.injEq, exists_eq_left', Nat.mul_one, tk3, eo22, hn, s6, s8, nlen_nat hlt, hci]
    (repeat (first | refine Rn.seq hc ?_ | refine Rn.skip hc ?_ | refine Rn.block hc ?_ | refine Rn.inBlock hc ?_ | refine Rn.scope hc ?_ | refine Rn.inScope hc ?_))
    refine Rn.region hc fun K hK => ?_
    refine Wo.run hc 3 rfl rfl rfl ?_
    simp (maxSteps := 2000000) only [List.drop_zero, List.take_succ_cons, List.take_zero, sev_tmp, sg_eq, sg_ne, sp_n, Nat.reduceLT, ne_eq, Nat.reduceEqDiff, not_false_eq_true, gd, want_free, rops, fx, Nat.zero_add, Option.some.injEq, exists_eq_left', hn, s3]
    refine Wo.call hc (by rfl) (by rfl) ⟨by rfl, by rfl⟩ (xs := [.int .i64 ((lcmF g i : Nat) : Int), .int .i64 (g i : Int)]) (by rfl) (by rfl) (by simp only [sev_tmp, sg_eq, sg_ne, sp_n, Nat.reduceLT, ne_eq, Nat.reduceEqDiff, not_false_eq_true, List.map_cons, List.map_nil, List.nil_append, List.append_nil, hn]) (Con.mono (gcd_run hA.wf (by omega) (by omega)) ?_)
    rintro w B1 ⟨rfl, hx1⟩
    have hm : IntKind.i64.wrap (((lcmF g i / Nat.gcd (lcmF g i) (g i) : Nat) : Int) * (g i : Int)) = ((lcmF g (i + 1) : Nat) : Int) := by
      have hle : lcmF g (i + 1) ≤ 100000 * 100000 := Nat.le_trans lcmN_le (Nat.mul_le_mul g2 g1)
      rw [← Int.natCast_mul]
      show IntKind.i64.wrap ((lcmF g (i + 1) : Nat) : Int) = _
      rw [IntWalk.i64_in _ (by omega)]
    refine Wo.run hc 4 rfl rfl rfl ?_
    simp (maxSteps := 2000000) only [List.drop_zero, List.drop_succ_cons, List.take_succ_cons, List.take_zero, sev_tmp, sg_eq, sg_ne, sp_n, Nat.reduceLT, ne_eq, Nat.reduceEqDiff, not_false_eq_true, gd, want_free, rops, fx, bin_mul, Option.some.injEq, exists_eq_left', Nat.reduceAdd, hn, quo_nat (Nat.gcd_pos_of_pos_left (g i) hp) (show lcmF g i < 4611686018427387904 by omega), hm]
    refine Wo.done hc rfl (hK _ _ ?_)
    clear hK
    (repeat (first | refine Rn.seq hc ?_ | refine Rn.skip hc ?_ | refine Rn.block hc ?_ | refine Rn.inBlock hc ?_ | refine Rn.scope hc ?_ | refine Rn.inScope hc ?_))
    refine Rn.reg hc rfl ?_
    simp only [sev_tmp, sev_const, sg_eq, sg_ne, sp_n, Nat.reduceLT, ne_eq, Nat.reduceEqDiff, not_false_eq_true, gd, want_free, rops, fx, bin_add, Option.some.injEq, exists_eq_left', hn, s8, wrap_succ (show i < 9223372036854775807 by omega)]
    (repeat (first | refine Rn.seq hc ?_ | refine Rn.skip hc ?_ | refine Rn.block hc ?_ | refine Rn.inBlock hc ?_ | refine Rn.scope hc ?_ | refine Rn.inScope hc ?_))
    exact ih _ _ _ (by omega) ⟨i + 1, by omega, rfl, hA.trans (hx1.le hA.next), by simp only [sp_n, hn], by simp only [sg_eq, sg_ne, sp_n, Nat.reduceLT, ne_eq, Nat.reduceEqDiff, not_false_eq_true, hn], by simp only [sg_ne, ne_eq, Nat.reduceEqDiff, not_false_eq_true, s6], by simp only [sg_ne, ne_eq, Nat.reduceEqDiff, not_false_eq_true, s7], by simp only [sg_eq, sp_n, Nat.reduceLT, hn]⟩
  · have hd : decide ((i : Int) < (n : Int)) = false := decide_eq_false (by omega)
    have hil : i = n := by omega
    subst hil
    clear ih
    refine Rn.reg hc rfl ?_
    simp only [sev_tmp, gd, want_free, rops, fx, bin_lss, Option.some.injEq, exists_eq_left', s7, s8, hd]
    (repeat (first | refine Rn.seq hc ?_ | refine Rn.skip hc ?_ | refine Rn.block hc ?_ | refine Rn.inBlock hc ?_ | refine Rn.scope hc ?_ | refine Rn.inScope hc ?_))
    refine Rn.condE hc rfl ?_
    simp only [sev_tmp, sg_eq, Nat.reduceLT, Value.bool.injEq, exists_eq_left', hn]
    (repeat (first | refine Rn.seq hc ?_ | refine Rn.skip hc ?_ | refine Rn.block hc ?_ | refine Rn.inBlock hc ?_ | refine Rn.scope hc ?_ | refine Rn.inScope hc ?_))
    refine Rn.exit hc rfl ?_
    (repeat (first | refine Rn.seq hc ?_ | refine Rn.skip hc ?_ | refine Rn.block hc ?_ | refine Rn.inBlock hc ?_ | refine Rn.scope hc ?_ | refine Rn.inScope hc ?_))
    refine Rn.reg hc rfl ?_
    simp only [sev_tmp, sg_eq, sg_ne, sp_n, Nat.reduceLT, ne_eq, Nat.reduceEqDiff, not_false_eq_true, gd, want_free, rops, fx, Option.some.injEq, exists_eq_left', hn, s3]
    (repeat (first | refine Rn.seq hc ?_ | refine Rn.skip hc ?_ | refine Rn.block hc ?_ | refine Rn.inBlock hc ?_ | refine Rn.scope hc ?_ | refine Rn.inScope hc ?_))
    refine Rn.ret (endQ_tmp rfl ⟨?_, hA⟩)
    simp only [sg_eq, sp_n, Nat.reduceLT, hn]
theorem lcmF_two (x y : Nat) : lcmF (fun i => if i = 0 then x else y) 2 = lcmN x y := by
  show lcmN (lcmN 1 x) y = _
  rw [lcmN_eq 1 x, Nat.lcm_one_left]
/-- Of two numbers. -/
theorem lcm_two {A : AHeap} (hw : WF A) {b c x y : Nat} (h0 : cl A b 0 = some (.int .i64 (x : Int))) (h1 : cl A b 1 = some (.int .i64 (y : Int))) (hbA : b < A.next) (hx : 0 < x ∧ x ≤ 100000) (hy : 0 < y ∧ y ≤ 100000) :
    Con Try.prog 82 [.slice (some ⟨b, 0, none⟩) 2 c] A (fun v A1 => v = .int .i64 ((lcmN x y : Nat) : Int) ∧ Nx A.next A A1) := by
  have h := lcm_run hw (b := b) (n := 2) (c := c) (g := fun i => if i = 0 then x else y) (fun i hi => by
    rcases (show i = 0 ∨ i = 1 by omega) with rfl | rfl
    · exact h0
    · exact h1) hbA (by omega) (fun i hi => by
    rcases (show i = 0 ∨ i = 1 by omega) with rfl | rfl
    · exact ⟨hx.1, hx.2, by show 1 ≤ 100000; omega⟩
    · refine ⟨hy.1, hy.2, ?_⟩
      show lcmN 1 x ≤ 100000
      rw [lcmN_eq, Nat.lcm_one_left]
      exact hx.2)
  rw [lcmF_two] at h
  exact h
end Go.Proofs.Ytdaljohmfnfgiaa
/- Two lists that grow, the second one behind the first. No condition. -/
namespace Go.Proofs.Ytdaljohmfnfgiaa
open Go Go.RowKit Go.Proofs.Ytdaljohmfnfgiaa.Canon
set_option maxRecDepth 20000

theorem so22_2 : sof Try.prog 22 2 = .mk (fun k => some (k * 1, 1)) 2 [.int .i64 0, .int .i64 0] := by kernel_rfl
section
variable {ρ : Operand → Value} {d : Option Tmp} {ty : TypeId} {pos : String} {af : Array Edge} {gu : Option (Nat × Bool)} {A : AHeap}
theorem bs22_2 {x y : Tmp} (h1 : isCell (ρ (.tmp x)) = true) (h2 : isCell (ρ (.tmp y)) = true) : aexec Try.prog ρ ⟨d, .buildSlice 22 2 #[(0, .tmp x), (1, .tmp y)], ty, pos, af, gu⟩ A = some (.slice (some ⟨A.next, 0, none⟩) 2 2, A.push (.cells #[ρ (.tmp x), ρ (.tmp y)] 3)) := by
  refine ae_buildSlice (r := [ρ (.tmp x), ρ (.tmp y)]) (by rfl) so22_2 et22 rfl ?_
  simp [fbld, cells_isCell h1, cells_isCell h2]
end
structure Gr2 (A : AHeap) (wa wb : Option Addr) (lo : Nat) (L1 L2 : List Int) : Prop where
  g1 : Gr A wa lo L1
  g2 : ∃ M, lo ≤ M ∧ M ≤ A.next ∧ (∀ y, wa = some y → y.block < M) ∧ Gr A wb M L2
  nl : L2 = [] → wb = none
theorem Gr2.nil {A : AHeap} {lo : Nat} (h : lo ≤ A.next) : Gr2 A none none lo [] [] := ⟨Gr.nil _ _, ⟨A.next, h, Nat.le_refl _, fun y hy => (by cases hy), Gr.nil _ _⟩, fun _ => rfl⟩
theorem Gr2.nx {A B : AHeap} {wa wb : Option Addr} {lo : Nat} {L1 L2 : List Int} (h : Gr2 A wa wb lo L1 L2) (hw : WF A) (k : Nx A.next A B) : Gr2 B wa wb lo L1 L2 := by
  obtain ⟨M, h1, h2, h3, h4⟩ := h.g2
  exact ⟨h.g1.nx (n := 0) hw k, ⟨M, h1, Nat.le_trans h2 k.next, h3, h4.nx (n := 0) hw k⟩, h.nl⟩
theorem Gr2.snd {A : AHeap} {wa wb : Option Addr} {lo : Nat} {L1 L2 : List Int} (h : Gr2 A wa wb lo L1 L2) : Gr A wb lo L2 := by
  obtain ⟨M, h1, _, _, h4⟩ := h.g2
  exact h4.mono h1
theorem Gr2.pushA {A : AHeap} (hw : WF A) {wa wb : Option Addr} {lo : Nat} {L1 : List Int} (h : Gr2 A wa wb lo L1 []) {a2 : Option Addr} {c2 : Nat} {x : Int} {b2 : Nat} (ha2 : a2 = some ⟨b2, 0, none⟩) (hx : cl A b2 0 = some (.int .i64 x)) (hlen : L1.length ≤ 100000) (hlo : lo ≤ A.next) :
    ∃ A1, aapp Try.prog #[22, 22] #[.slice wa L1.length L1.length, .slice a2 1 c2] A = some (.slice (some ⟨A.next, 0, none⟩) (L1.length + 1) (L1.length + 1), A1) ∧ A1.next = A.next + 1 ∧ WF A1 ∧ Gr2 A1 (some ⟨A.next, 0, none⟩) wb lo (L1 ++ [x]) [] ∧ Nx lo A A1 := by
  obtain ⟨A1, q1, n1, w1, g1, _, k1⟩ := gr_push hw h.g1 ha2 hx hlen (c2 := c2)
  have hb := h.nl rfl
  subst hb
  refine ⟨A1, q1, n1, w1, ⟨g1.mono hlo, ⟨A1.next, by omega, Nat.le_refl _, fun y hy => ?_, Gr.nil _ _⟩, fun _ => rfl⟩, k1.le (by omega)⟩
  cases hy
  show A.next < A1.next
  omega
theorem Gr2.pushB {A : AHeap} (hw : WF A) {wa wb : Option Addr} {lo : Nat} {L1 L2 : List Int} (h : Gr2 A wa wb lo L1 L2) {a2 : Option Addr} {c2 : Nat} {x : Int} {b2 : Nat} (ha2 : a2 = some ⟨b2, 0, none⟩) (hx : cl A b2 0 = some (.int .i64 x)) (hlen : L2.length ≤ 100000) :
    ∃ A1, aapp Try.prog #[22, 22] #[.slice wb L2.length L2.length, .slice a2 1 c2] A = some (.slice (some ⟨A.next, 0, none⟩) (L2.length + 1) (L2.length + 1), A1) ∧ A1.next = A.next + 1 ∧ WF A1 ∧ Gr2 A1 wa (some ⟨A.next, 0, none⟩) lo L1 (L2 ++ [x]) ∧ Nx lo A A1 := by
  obtain ⟨M, h1, h2, h3, h4⟩ := h.g2
  obtain ⟨A1, q1, n1, w1, g1, _, k1⟩ := gr_push hw h4 ha2 hx hlen (c2 := c2)
  have hM : Nx M A A1 := k1.le (by omega)
  refine ⟨A1, q1, n1, w1, ⟨?_, ⟨M, h1, by omega, h3, g1.mono h2⟩, fun h0 => by simp at h0⟩, hM.le h1⟩
  -- the first list lies below M
  refine ⟨fun i hi => ?_, fun y hy => ?_, fun y hy => ?_⟩
  · obtain ⟨b, o, e, p1, p2, p3⟩ := h.g1.ints i hi
    have hbM := h3 _ e
    exact ⟨b, o, e, p1, by omega, (hM.cl hbM _).trans p3⟩
  · obtain ⟨p1, p2, z, p3, p4⟩ := h.g1.sl y hy
    exact ⟨p1, p2, z, (hM.keep _ (h3 y hy)).trans p3, p4⟩
  · obtain ⟨z, p3, p4⟩ := h.g1.wr y hy
    exact ⟨z, (hM.keep _ (h3 y hy)).trans p3, p4⟩
end Go.Proofs.Ytdaljohmfnfgiaa
/- Several streams, woven. No condition. -/
namespace Go.Proofs.Ytdaljohmfnfgiaa
open Go Go.RowKit Go.Proofs.Ytdaljohmfnfgiaa.Canon
set_option maxRecDepth 20000


theorem bad2 {n : Nat} (h : n < 1 ∨ 8 < n) : (decide ((n : Int) < 1) = true) ∨ (decide ((n : Int) < 1) = false ∧ decide (8 < (n : Int)) = true) := by
  simp only [decide_eq_true_eq, decide_eq_false_iff_not]
  omega
theorem err_len {x : Las} (h : x.err = 0) : x.st.length ≤ 60 ∧ x.ro.length ≤ 120 ∧ 0 < x.ro.length := ⟨(errL_len h).1, (errL_len h).2, errL_pos h⟩
theorem weave_run {A : AHeap} (hw : WF A) {a : Option Addr} {c : Nat} {l : List Las} (hl : LRow A a l) (hsl : ∀ i, i < l.length → Sl A (l.getD i noLas).sa 0 ∧ (l.getD i noLas).st.length ≤ (l.getD i noLas).sc) {fa fp : Nat → Nat} (hred : errs l l = 0 → RedL l fa fp) :
    Con Try.prog 39 [.slice a l.length c] A (Tld A (erW l fp) (l.getD 0 noLas).m (wov l)) := by
  refine con_of_rn hc Try.func39 rfl (Nat.le_of_ble_eq_true rfl) ?_
  have hx1 : Nx A.next A (A.push (.cells #[.int .i64 0, .slice none 0 0, .slice none 0 0] 24)) := (Nx.refl hw _).push (Nat.le_refl _) _
  have l1 := look_push_eq A (.cells #[.int .i64 0, .slice none 0 0, .slice none 0 0] 24)
  have hn1 : (A.push (.cells #[.int .i64 0, .slice none 0 0, .slice none 0 0] 24)).next = A.next + 1 := rfl
  generalize e1 : A.push (.cells #[.int .i64 0, .slice none 0 0, .slice none 0 0] 24) = A1 at hx1 l1 hn1
  obtain ⟨E, hE⟩ : ∃ E, E = erW l fp := ⟨_, rfl⟩
  rw [s_in1, ← hE]
  (repeat (first | refine Rn.seq hc ?_ | refine Rn.skip hc ?_ | refine Rn.block hc ?_ | refine Rn.inBlock hc ?_ | refine Rn.scope hc ?_ | refine Rn.inScope hc ?_))
  refine Rn.reg hc rfl ?_
  simp only [sev_const, gd, want_free, rops, fx, Option.some.injEq, exists_eq_left', Value.cells, show Try.f39.ntmps = 96 from rfl, ze24, e1]
  (repeat (first | refine Rn.seq hc ?_ | refine Rn.skip hc ?_ | refine Rn.block hc ?_ | refine Rn.inBlock hc ?_ | refine Rn.scope hc ?_ | refine Rn.inScope hc ?_))
  clear e1
  by_cases hlen : l.length < 1 ∨ 8 < l.length
  · obtain ⟨D, q1, g0, g1, g2, hxD⟩ := err_fin hx1 (Nat.le_refl _) (by omega) l1
    have hE2 : E = 2 := by rw [hE, erW, if_pos hlen]
    rw [hE2]
    rcases bad2 hlen with h1 | ⟨h1, h2⟩
    · refine Rn.reg hc rfl ?_
      simp only [sev_tmp, sev_const, sg_eq, sg_ne, sp_n, Nat.reduceLT, ne_eq, Nat.reduceEqDiff, not_false_eq_true, gd, nth, want_free, want_slot, beqB, rops, fx, lng, pck, bin_lss, Option.some.injEq, exists_eq_left', un46, h1]
      (repeat (first | refine Rn.seq hc ?_ | refine Rn.skip hc ?_ | refine Rn.block hc ?_ | refine Rn.inBlock hc ?_ | refine Rn.scope hc ?_ | refine Rn.inScope hc ?_))
      refine Rn.condE hc rfl ?_
      simp only [sev_tmp, sg_eq, sp_n, Nat.reduceLT, Value.bool.injEq, exists_eq_left']
      (repeat (first | refine Rn.seq hc ?_ | refine Rn.skip hc ?_ | refine Rn.block hc ?_ | refine Rn.inBlock hc ?_ | refine Rn.scope hc ?_ | refine Rn.inScope hc ?_))
      refine Rn.reg hc rfl ?_
      simp only [sev_tmp, sev_const, sg_eq, sg_ne, sp_n, sp_none, Nat.reduceLT, ne_eq, Nat.reduceEqDiff, not_false_eq_true, gd, want_free, rops, fx, str, adr_p, Nat.zero_add, Option.some.injEq, exists_eq_left', Nat.reduceAdd, tk24, bd24_z, q1, List.size_toArray, List.length_cons, List.length_nil, Nat.beq_refl]
      (repeat (first | refine Rn.seq hc ?_ | refine Rn.skip hc ?_ | refine Rn.block hc ?_ | refine Rn.inBlock hc ?_ | refine Rn.scope hc ?_ | refine Rn.inScope hc ?_))
      refine Rn.ret (endQ_ct rfl (v := .agg #[.int .i64 0, .slice none 0 0, .slice none 0 0]) ?_ ?_)
      · simp only [sg_eq, sg_ne, sp_n, Nat.reduceLT, ne_eq, Nat.reduceEqDiff, not_false_eq_true, ld, adr_p, cls, Nat.zero_add, Nat.reduceAdd, tk24, g0, g1, g2]
      · simp only [sg_eq, sp_n, Nat.reduceLT]
        exact tld_err (by omega) hxD
    · refine Rn.reg hc rfl ?_
      simp only [sev_tmp, sev_const, sg_eq, sg_ne, sp_n, Nat.reduceLT, ne_eq, Nat.reduceEqDiff, not_false_eq_true, gd, nth, want_free, want_slot, beqB, rops, fx, lng, pck, bin_lss, bin_gtr, Option.some.injEq, exists_eq_left', un46, h1, h2]
      (repeat (first | refine Rn.seq hc ?_ | refine Rn.skip hc ?_ | refine Rn.block hc ?_ | refine Rn.inBlock hc ?_ | refine Rn.scope hc ?_ | refine Rn.inScope hc ?_))
      refine Rn.condE hc rfl ?_
      simp only [sev_tmp, sg_eq, sp_n, Nat.reduceLT, Value.bool.injEq, exists_eq_left']
      (repeat (first | refine Rn.seq hc ?_ | refine Rn.skip hc ?_ | refine Rn.block hc ?_ | refine Rn.inBlock hc ?_ | refine Rn.scope hc ?_ | refine Rn.inScope hc ?_))
      refine Rn.reg hc rfl ?_
      simp only [sev_tmp, sev_const, sg_eq, sg_ne, sp_n, sp_none, Nat.reduceLT, ne_eq, Nat.reduceEqDiff, not_false_eq_true, gd, want_free, rops, fx, str, adr_p, Nat.zero_add, Option.some.injEq, exists_eq_left', Nat.reduceAdd, tk24, bd24_z, q1, List.size_toArray, List.length_cons, List.length_nil, Nat.beq_refl]
      (repeat (first | refine Rn.seq hc ?_ | refine Rn.skip hc ?_ | refine Rn.block hc ?_ | refine Rn.inBlock hc ?_ | refine Rn.scope hc ?_ | refine Rn.inScope hc ?_))
      refine Rn.ret (endQ_ct rfl (v := .agg #[.int .i64 0, .slice none 0 0, .slice none 0 0]) ?_ ?_)
      · simp only [sg_eq, sg_ne, sp_n, Nat.reduceLT, ne_eq, Nat.reduceEqDiff, not_false_eq_true, ld, adr_p, cls, Nat.zero_add, Nat.reduceAdd, tk24, g0, g1, g2]
      · simp only [sg_eq, sp_n, Nat.reduceLT]
        exact tld_err (by omega) hxD
  · have h1 : decide ((l.length : Int) < 1) = false := decide_eq_false (by omega)
    have h2 : decide (8 < (l.length : Int)) = false := decide_eq_false (by omega)
    refine Rn.reg hc rfl ?_
    simp only [sev_tmp, sev_const, sg_eq, sg_ne, sp_n, Nat.reduceLT, ne_eq, Nat.reduceEqDiff, not_false_eq_true, gd, nth, want_free, want_slot, beqB, rops, fx, lng, pck, bin_lss, bin_gtr, Option.some.injEq, exists_eq_left', un46, h1, h2]
    (repeat (first | refine Rn.seq hc ?_ | refine Rn.skip hc ?_ | refine Rn.block hc ?_ | refine Rn.inBlock hc ?_ | refine Rn.scope hc ?_ | refine Rn.inScope hc ?_))
    refine Rn.condE hc rfl ?_
    simp only [sev_tmp, sg_eq, sp_n, Nat.reduceLT, Value.bool.injEq, exists_eq_left']
    (repeat (first | refine Rn.seq hc ?_ | refine Rn.skip hc ?_ | refine Rn.block hc ?_ | refine Rn.inBlock hc ?_ | refine Rn.scope hc ?_ | refine Rn.inScope hc ?_))
    clear h1 h2
    have k1 : 1 ≤ l.length := by omega
    have k8 : l.length ≤ 8 := by omega
    refine Rn.region hc fun K hK => ?_
    refine Wo.run hc 1 rfl rfl rfl ?_
    simp (maxSteps := 2000000) only [List.drop_zero, List.take_succ_cons, List.take_zero, sev_tmp, sg_eq, sg_ne, Nat.reduceLT, ne_eq, Nat.reduceEqDiff, not_false_eq_true, gd, want_free, rops, fx, Nat.zero_add, Option.some.injEq, exists_eq_left']
    refine Wo.call hc (by rfl) (by rfl) ⟨by rfl, by rfl⟩ (xs := [.slice a l.length c]) (by rfl) (by rfl) (by rfl) (Con.mono (check_all hx1.wf (hl.nx hx1) (by omega)) ?_)
    rintro w A2 ⟨rfl, hx2⟩
    refine Wo.run hc 1 rfl rfl rfl ?_
    simp (maxSteps := 2000000) only [List.drop_zero, List.drop_succ_cons, List.take_succ_cons, List.take_zero, sev_tmp, sg_eq, sp_n, Nat.reduceLT, gd, want_free, rops, fx, Option.some.injEq, exists_eq_left', Nat.reduceAdd]
    refine Wo.done hc rfl (hK _ _ ?_)
    clear hK
    (repeat (first | refine Rn.seq hc ?_ | refine Rn.skip hc ?_ | refine Rn.block hc ?_ | refine Rn.inBlock hc ?_ | refine Rn.scope hc ?_ | refine Rn.inScope hc ?_))
    have hx02 : Nx A.next A A2 := hx1.trans (hx2.le hx1.next)
    have n2 : A.next < A2.next := by have := hx2.next; omega
    have l2 : Canon.look A2.objs A.next = _ := (hx2.keep _ (by omega)).trans l1
    by_cases he : errs l l = 0
    · have hd : (!decide (errs l l = 0)) = false := by rw [decide_eq_true he]; rfl
      have hr := hred he
      refine Rn.reg hc rfl ?_
      simp only [sev_tmp, sev_const, sg_eq, sp_n, Nat.reduceLT, gd, want_free, rops, fx, bin_neq, Option.some.injEq, exists_eq_left', hd]
      (repeat (first | refine Rn.seq hc ?_ | refine Rn.skip hc ?_ | refine Rn.block hc ?_ | refine Rn.inBlock hc ?_ | refine Rn.scope hc ?_ | refine Rn.inScope hc ?_))
      refine Rn.condE hc rfl ?_
      simp only [sev_tmp, sg_eq, sp_n, Nat.reduceLT, Value.bool.injEq, exists_eq_left']
      (repeat (first | refine Rn.seq hc ?_ | refine Rn.skip hc ?_ | refine Rn.block hc ?_ | refine Rn.inBlock hc ?_ | refine Rn.scope hc ?_ | refine Rn.inScope hc ?_))
      refine Rn.reg hc rfl ?_
      simp only [sev_const, gd, want_free, rops, fx, Option.some.injEq, exists_eq_left']
      (repeat (first | refine Rn.seq hc ?_ | refine Rn.skip hc ?_ | refine Rn.block hc ?_ | refine Rn.inBlock hc ?_ | refine Rn.scope hc ?_ | refine Rn.inScope hc ?_))
      refine Rn.reg hc rfl ?_
      simp only [sev_tmp, sev_const, sg_eq, sg_ne, sp_n, Nat.reduceLT, ne_eq, Nat.reduceEqDiff, not_false_eq_true, gd, want_free, rops, fx, lng, Option.some.injEq, exists_eq_left', un46]
      (repeat (first | refine Rn.seq hc ?_ | refine Rn.skip hc ?_ | refine Rn.block hc ?_ | refine Rn.inBlock hc ?_ | refine Rn.scope hc ?_ | refine Rn.inScope hc ?_))
      refine Rn.loopI hc (I := fun k s B => ∃ i, i ≤ l.length ∧ k = l.length - i ∧ Nx A2.next A2 B ∧ lcmF fp i ≤ 120 ∧ s.n = 96 ∧ sget s 0 = .slice a l.length c ∧ sget s 2 = .pointer (some ⟨A.next, 0, none⟩) ∧ sget s 5 = .int .i64 ((maxF fa i : Nat) : Int) ∧ sget s 6 = .int .i64 ((lcmF fp i : Nat) : Int) ∧ sget s 32 = .slice a l.length c ∧ sget s 33 = .int .i64 (l.length : Int) ∧ sget s 34 = .int .i64 (i : Int))
        (n := l.length) ⟨0, by omega, rfl, Nx.refl hx02.wf _, by show 1 ≤ 120; omega, by simp only [sp_n], by simp only [sg_eq, sg_ne, Nat.reduceLT, ne_eq, Nat.reduceEqDiff, not_false_eq_true], by simp only [sg_eq, sg_ne, sp_n, Nat.reduceLT, ne_eq, Nat.reduceEqDiff, not_false_eq_true], by simp only [sg_eq, sg_ne, sp_n, Nat.reduceLT, ne_eq, Nat.reduceEqDiff, not_false_eq_true]; rfl, by simp only [sg_eq, sg_ne, sp_n, Nat.reduceLT, ne_eq, Nat.reduceEqDiff, not_false_eq_true]; rfl, by simp only [sg_eq, sg_ne, sp_n, Nat.reduceLT, ne_eq, Nat.reduceEqDiff, not_false_eq_true], by simp only [sg_eq, sg_ne, sp_n, Nat.reduceLT, ne_eq, Nat.reduceEqDiff, not_false_eq_true], by simp only [sg_eq, sp_n, Nat.reduceLT]; rfl⟩ ?_
      clear hd
      rintro k s B ⟨i, hi, rfl, hB, hp120, hn, s0, s2, s5, s6, s32, s33, s34⟩ ih
      have hB0 : Nx A.next A B := hx02.trans (hB.le hx02.next)
      have nB := hB.next
      have lB : Canon.look B.objs A.next = _ := (hB.keep _ n2).trans l2
      (repeat (first | refine Rn.seq hc ?_ | refine Rn.skip hc ?_ | refine Rn.block hc ?_ | refine Rn.inBlock hc ?_ | refine Rn.scope hc ?_ | refine Rn.inScope hc ?_))
      by_cases hlt : i < l.length
      · have hd : decide ((i : Int) < (l.length : Int)) = true := decide_eq_true (by omega)
        obtain ⟨hok, b, o, rfl, hbb, c0, c1, c2⟩ := (hl.nx hB0) i hlt
        obtain ⟨hri, ha60, hp6⟩ := hr i hlt
        have hei := errs_each he i hlt
        obtain ⟨m60, m120, mpos⟩ := err_len hei
        obtain ⟨B2, p1, hx2, hn2, d0, d1, d2⟩ := put24 hB.wf (v0 := .int .i64 (l.getD i noLas).m) (v1 := .slice (l.getD i noLas).sa (l.getD i noLas).st.length (l.getD i noLas).sc) (v2 := .slice (l.getD i noLas).ra (l.getD i noLas).ro.length (l.getD i noLas).rc) rfl
        have hok2 := hok.nx hx2
        have hBB2 : Nx A.next A B2 := hB0.trans (hx2.le hB0.next)
        obtain ⟨y1, y2⟩ := hsl i hlt
        refine Rn.reg hc rfl ?_
        simp only [sev_tmp, gd, want_free, rops, fx, bin_lss, Option.some.injEq, exists_eq_left', s33, s34, hd]
        (repeat (first | refine Rn.seq hc ?_ | refine Rn.skip hc ?_ | refine Rn.block hc ?_ | refine Rn.inBlock hc ?_ | refine Rn.scope hc ?_ | refine Rn.inScope hc ?_))
        refine Rn.condE hc rfl ?_
        simp only [sev_tmp, sg_eq, Nat.reduceLT, Value.bool.injEq, exists_eq_left', hn]
        (repeat (first | refine Rn.seq hc ?_ | refine Rn.skip hc ?_ | refine Rn.block hc ?_ | refine Rn.inBlock hc ?_ | refine Rn.scope hc ?_ | refine Rn.inScope hc ?_))
        refine Rn.reg hc rfl ?_
        simp only [sev_tmp, sg_eq, sg_ne, sp_n, sp_none, Nat.reduceLT, ne_eq, Nat.reduceEqDiff, not_false_eq_true, gd, want_free, rops, fx, ld, str, idx, adr_p, cls, Nat.zero_add, Option.some.injEq, exists_eq_left', Value.cells, Nat.reduceAdd, tk24, eo46, hn, s32, s34, nlen_nat hlt, c0, c1, c2, ze24, p1, List.size_toArray, List.length_cons, List.length_nil, Nat.beq_refl]
        (repeat (first | refine Rn.seq hc ?_ | refine Rn.skip hc ?_ | refine Rn.block hc ?_ | refine Rn.inBlock hc ?_ | refine Rn.scope hc ?_ | refine Rn.inScope hc ?_))
        refine Rn.region hc fun K hK => ?_
        refine Wo.run hc 1 rfl rfl rfl ?_
        simp (maxSteps := 2000000) only [List.drop_zero, List.take_succ_cons, List.take_zero, sev_tmp, sg_eq, sp_n, Nat.reduceLT, gd, want_free, rops, fx, ld, adr_p, cls, Nat.zero_add, Option.some.injEq, exists_eq_left', Nat.reduceAdd, tk24, hn, d0, d1, d2]
        refine Wo.call hc (by rfl) (by rfl) ⟨by rfl, by rfl⟩ (xs := [.agg #[.int .i64 (l.getD i noLas).m, .slice (l.getD i noLas).sa (l.getD i noLas).st.length (l.getD i noLas).sc, .slice (l.getD i noLas).ra (l.getD i noLas).ro.length (l.getD i noLas).rc]]) (by rfl) (by rfl) (by simp only [sev_tmp, sg_eq, sp_n, Nat.reduceLT, List.map_cons, List.map_nil, List.nil_append, List.append_nil, hn]) (Con.mono (least_of hx2.wf hok2.1 hok2.2.1 hok2.2.2.1 hok2.2.2.2 (y1.nx hw hBB2) y2) ?_)
        rintro w B3 ⟨hq, -⟩
        obtain ⟨a', p', hr', ha', hp', hx3, hq⟩ := hq hei
        obtain ⟨rfl, rfl⟩ := hri.uniq hr'
        rw [if_neg (by omega)] at hq
        obtain ⟨xa, xr, rfl, -, -⟩ := hq
        obtain ⟨B4, p4, hx4, hn4, f0, f1, f2⟩ := put24 hx3.wf (v0 := .int .i64 (l.getD i noLas).m) (v1 := .slice xa (fa i) (fa i)) (v2 := .slice xr (fp i) (fp i)) rfl
        refine Wo.run hc 6 rfl rfl rfl ?_
        simp (maxSteps := 2000000) only [List.drop_zero, List.drop_succ_cons, List.take_succ_cons, List.take_zero, sev_tmp, sg_eq, sg_ne, sp_n, sp_none, Nat.reduceLT, ne_eq, Nat.reduceEqDiff, not_false_eq_true, gd, want_free, rops, fx, str, ext, adr_p, List.getElem?_toArray, List.getElem?_cons_zero, List.getElem?_cons_succ, Nat.zero_add, Option.some.injEq, exists_eq_left', Value.cells, Nat.reduceAdd, tk24, hn, ext, ze24, p4, List.size_toArray, List.length_cons, List.length_nil, Nat.beq_refl]
        refine Wo.done hc rfl (hK _ _ ?_)
        clear hK
        (repeat (first | refine Rn.seq hc ?_ | refine Rn.skip hc ?_ | refine Rn.block hc ?_ | refine Rn.inBlock hc ?_ | refine Rn.scope hc ?_ | refine Rn.inScope hc ?_))
        have hm5 : max ((maxF fa i : Nat) : Int) ((fa i : Nat) : Int) = ((maxF fa (i + 1) : Nat) : Int) := mxd_nat _ _
        refine Rn.reg hc rfl ?_
        simp only [sev_tmp, sg_eq, sg_ne, sp_n, Nat.reduceLT, ne_eq, Nat.reduceEqDiff, not_false_eq_true, gd, want_free, rops, fx, ld, fad, lng, adr_p, Nat.zero_add, Option.some.injEq, exists_eq_left', tk22, fo24_1, un22, hn, s5, f1, ae_mxd2, mxd_int, hm5]
        (repeat (first | refine Rn.seq hc ?_ | refine Rn.skip hc ?_ | refine Rn.block hc ?_ | refine Rn.inBlock hc ?_ | refine Rn.scope hc ?_ | refine Rn.inScope hc ?_))
        have hz5 : Nx B4.next B4 (B4.push (.cells #[.int .i64 ((lcmF fp i : Nat) : Int), .int .i64 ((fp i : Nat) : Int)] 3)) := (Nx.refl hx4.wf _).push (Nat.le_refl _) _
        have l5 := look_push_eq B4 (.cells #[.int .i64 ((lcmF fp i : Nat) : Int), .int .i64 ((fp i : Nat) : Int)] 3)
        have hn5 : (B4.push (.cells #[.int .i64 ((lcmF fp i : Nat) : Int), .int .i64 ((fp i : Nat) : Int)] 3)).next = B4.next + 1 := rfl
        generalize e5 : B4.push (.cells #[.int .i64 ((lcmF fp i : Nat) : Int), .int .i64 ((fp i : Nat) : Int)] 3) = B5 at hz5 l5 hn5
        refine Rn.region hc fun K hK => ?_
        refine Wo.run hc 5 rfl rfl rfl ?_
        simp (maxSteps := 2000000) only [List.drop_zero, List.take_succ_cons, List.take_zero, sev_tmp, sg_eq, sg_ne, sp_n, Nat.reduceLT, ne_eq, Nat.reduceEqDiff, not_false_eq_true, gd, want_free, rops, fx, ld, fad, lng, adr_p, Nat.zero_add, Option.some.injEq, exists_eq_left', tk22, fo24_2, un22, hn, s6, f2, bs22_2, isCell, e5]
        refine Wo.call hc (by rfl) (by rfl) ⟨by rfl, by rfl⟩ (xs := [.slice (some ⟨B4.next, 0, none⟩) 2 2]) (by rfl) (by rfl) (by simp only [sev_tmp, sg_eq, sp_n, Nat.reduceLT, List.map_cons, List.map_nil, List.nil_append, List.append_nil, hn]) (Con.mono (lcm_two hz5.wf (x := lcmF fp i) (y := fp i) (by rw [cl_of l5 rfl]; rfl) (by rw [cl_of l5 rfl]; rfl) (by omega) ⟨lcmF_pos hr.pos hi, by omega⟩ ⟨hr.pos i hlt, by omega⟩) ?_)
        rintro w B6 ⟨rfl, hx6⟩
        rw [show lcmN (lcmF fp i) (fp i) = lcmF fp (i + 1) from rfl]
        refine Wo.run hc 1 rfl rfl rfl ?_
        simp (maxSteps := 2000000) only [List.drop_zero, List.drop_succ_cons, List.take_succ_cons, List.take_zero, sev_tmp, sg_eq, sp_n, Nat.reduceLT, gd, want_free, rops, fx, Option.some.injEq, exists_eq_left', Nat.reduceAdd, hn]
        refine Wo.done hc rfl (hK _ _ ?_)
        clear hK
        (repeat (first | refine Rn.seq hc ?_ | refine Rn.skip hc ?_ | refine Rn.block hc ?_ | refine Rn.inBlock hc ?_ | refine Rn.scope hc ?_ | refine Rn.inScope hc ?_))
        have hB6 : Nx B.next B B6 := hx2.trans ((hx3.le (by omega)).trans ((hx4.le (by have := hx3.next; omega)).trans ((hz5.le (by have := hx3.next; omega)).trans (hx6.le (by have := hx3.next; omega)))))
        have hA6 : Nx A2.next A2 B6 := hB.trans (hB6.le nB)
        by_cases hlong : 120 < lcmF fp (i + 1)
        · have hd2 : decide (120 < ((lcmF fp (i + 1) : Nat) : Int)) = true := decide_eq_true (by omega)
          have hE2 : E = 11 := by
            have := lcmF_mono (f := fp) hr.pos (show i + 1 ≤ l.length from hlt) (Nat.le_refl _)
            rw [hE, erW, if_neg hlen, if_pos he, if_pos (by omega)]
          have hA06 : Nx A.next A B6 := hx02.trans (hA6.le hx02.next)
          obtain ⟨D, q1, g0, g1, g2, hxD⟩ := err_fin hA06 (Nat.le_refl _) (by have := hB6.next; omega) ((hB6.keep _ (by omega)).trans lB)
          rw [hE2]
          refine Rn.reg hc rfl ?_
          simp only [sev_tmp, sev_const, sg_eq, sp_n, Nat.reduceLT, gd, want_free, rops, fx, bin_gtr, Option.some.injEq, exists_eq_left', hn, hd2]
          (repeat (first | refine Rn.seq hc ?_ | refine Rn.skip hc ?_ | refine Rn.block hc ?_ | refine Rn.inBlock hc ?_ | refine Rn.scope hc ?_ | refine Rn.inScope hc ?_))
          refine Rn.condE hc rfl ?_
          simp only [sev_tmp, sg_eq, sp_n, Nat.reduceLT, Value.bool.injEq, exists_eq_left', hn]
          (repeat (first | refine Rn.seq hc ?_ | refine Rn.skip hc ?_ | refine Rn.block hc ?_ | refine Rn.inBlock hc ?_ | refine Rn.scope hc ?_ | refine Rn.inScope hc ?_))
          refine Rn.reg hc rfl ?_
          simp only [sev_tmp, sev_const, sg_eq, sg_ne, sp_n, sp_none, Nat.reduceLT, ne_eq, Nat.reduceEqDiff, not_false_eq_true, gd, want_free, rops, fx, str, adr_p, Nat.zero_add, Option.some.injEq, exists_eq_left', Nat.reduceAdd, tk24, hn, s2, bd24_z, q1, List.size_toArray, List.length_cons, List.length_nil, Nat.beq_refl]
          (repeat (first | refine Rn.seq hc ?_ | refine Rn.skip hc ?_ | refine Rn.block hc ?_ | refine Rn.inBlock hc ?_ | refine Rn.scope hc ?_ | refine Rn.inScope hc ?_))
          refine Rn.ret (endQ_ct rfl (v := .agg #[.int .i64 0, .slice none 0 0, .slice none 0 0]) ?_ ?_)
          · simp only [sg_ne, ne_eq, Nat.reduceEqDiff, not_false_eq_true, ld, adr_p, cls, Nat.zero_add, Nat.reduceAdd, tk24, s2, g0, g1, g2]
          · simp only [sg_eq, sp_n, Nat.reduceLT, hn]
            exact tld_err (by omega) hxD
        · have hd2 : decide (120 < ((lcmF fp (i + 1) : Nat) : Int)) = false := decide_eq_false (by omega)
          refine Rn.reg hc rfl ?_
          simp only [sev_tmp, sev_const, sg_eq, sp_n, Nat.reduceLT, gd, want_free, rops, fx, bin_gtr, Option.some.injEq, exists_eq_left', hn, hd2]
          (repeat (first | refine Rn.seq hc ?_ | refine Rn.skip hc ?_ | refine Rn.block hc ?_ | refine Rn.inBlock hc ?_ | refine Rn.scope hc ?_ | refine Rn.inScope hc ?_))
          refine Rn.condE hc rfl ?_
          simp only [sev_tmp, sg_eq, sp_n, Nat.reduceLT, Value.bool.injEq, exists_eq_left', hn]
          (repeat (first | refine Rn.seq hc ?_ | refine Rn.skip hc ?_ | refine Rn.block hc ?_ | refine Rn.inBlock hc ?_ | refine Rn.scope hc ?_ | refine Rn.inScope hc ?_))
          refine Rn.reg hc rfl ?_
          simp only [sev_tmp, sev_const, sg_eq, sg_ne, sp_n, Nat.reduceLT, ne_eq, Nat.reduceEqDiff, not_false_eq_true, gd, want_free, rops, fx, bin_add, Option.some.injEq, exists_eq_left', hn, s34, wrap_succ (show i < 9223372036854775807 by omega)]
          (repeat (first | refine Rn.seq hc ?_ | refine Rn.skip hc ?_ | refine Rn.block hc ?_ | refine Rn.inBlock hc ?_ | refine Rn.scope hc ?_ | refine Rn.inScope hc ?_))
          exact ih _ _ _ (by omega) ⟨i + 1, by omega, rfl, hA6, by omega, by simp only [sp_n, hn], by simp only [sg_ne, ne_eq, Nat.reduceEqDiff, not_false_eq_true, s0], by simp only [sg_ne, ne_eq, Nat.reduceEqDiff, not_false_eq_true, s2], by simp only [sg_eq, sg_ne, sp_n, Nat.reduceLT, ne_eq, Nat.reduceEqDiff, not_false_eq_true, hn], by simp only [sg_eq, sg_ne, sp_n, Nat.reduceLT, ne_eq, Nat.reduceEqDiff, not_false_eq_true, hn], by simp only [sg_ne, ne_eq, Nat.reduceEqDiff, not_false_eq_true, s32], by simp only [sg_ne, ne_eq, Nat.reduceEqDiff, not_false_eq_true, s33], by simp only [sg_eq, sp_n, Nat.reduceLT, hn]⟩
      · have hd : decide ((i : Int) < (l.length : Int)) = false := decide_eq_false (by omega)
        have hil : i = l.length := by omega
        subst hil
        clear ih
        refine Rn.reg hc rfl ?_
        simp only [sev_tmp, gd, want_free, rops, fx, bin_lss, Option.some.injEq, exists_eq_left', s33, s34, hd]
        (repeat (first | refine Rn.seq hc ?_ | refine Rn.skip hc ?_ | refine Rn.block hc ?_ | refine Rn.inBlock hc ?_ | refine Rn.scope hc ?_ | refine Rn.inScope hc ?_))
        refine Rn.condE hc rfl ?_
        simp only [sev_tmp, sg_eq, Nat.reduceLT, Value.bool.injEq, exists_eq_left', hn]
        (repeat (first | refine Rn.seq hc ?_ | refine Rn.skip hc ?_ | refine Rn.block hc ?_ | refine Rn.inBlock hc ?_ | refine Rn.scope hc ?_ | refine Rn.inScope hc ?_))
        refine Rn.exit hc rfl ?_
        (repeat (first | refine Rn.seq hc ?_ | refine Rn.skip hc ?_ | refine Rn.block hc ?_ | refine Rn.inBlock hc ?_ | refine Rn.scope hc ?_ | refine Rn.inScope hc ?_))
        have hp0 : 0 < lcmF fp l.length := lcmF_pos hr.pos (Nat.le_refl _)
        have hPer := hr.per (N := maxF fa l.length) (by omega) (Nat.le_refl _)
        have hH60 : maxF fa l.length ≤ 60 := maxF_le fun j hj => by
          have := (hr j hj).2.1
          have := (err_len (errs_each he j hj)).1
          omega
        have hE0 : E = 0 := by rw [hE, erW, if_neg hlen, if_pos he, if_neg (by omega)]
        clear hr hred hsl hE
        generalize maxF fa l.length = H at s5 hPer hH60
        generalize lcmF fp l.length = p at s6 hPer hp0 hp120
        subst hE0
        obtain ⟨W, hW⟩ : ∃ W, W = wov l := ⟨_, rfl⟩
        have hWv : ∀ n i, i < l.length → W (n * l.length + i) = (l.getD i noLas).s n := fun n i hi => by rw [hW]; exact wov_at hi
        rw [← hW] at hPer ⊢
        have hHK : H * l.length ≤ 60 * 8 := Nat.mul_le_mul hH60 k8
        have hPK : p * l.length ≤ 120 * 8 := Nat.mul_le_mul hp120 k8
        have hw0 : IntKind.i64.wrap ((H : Int) + (p : Int)) = ((H + p : Nat) : Int) := by rw [IntWalk.i64_in _ (by omega)]; omega
        clear hd s32 s33 s34
        refine Rn.reg hc rfl ?_
        simp only [sev_const, gd, want_free, rops, fx, Option.some.injEq, exists_eq_left']
        (repeat (first | refine Rn.seq hc ?_ | refine Rn.skip hc ?_ | refine Rn.block hc ?_ | refine Rn.inBlock hc ?_ | refine Rn.scope hc ?_ | refine Rn.inScope hc ?_))
        refine Rn.reg hc rfl ?_
        simp only [sev_tmp, sev_const, sg_eq, sg_ne, sp_n, Nat.reduceLT, ne_eq, Nat.reduceEqDiff, not_false_eq_true, gd, want_free, rops, fx, bin_add, Option.some.injEq, exists_eq_left', hn, s5, s6, hw0]
        (repeat (first | refine Rn.seq hc ?_ | refine Rn.skip hc ?_ | refine Rn.block hc ?_ | refine Rn.inBlock hc ?_ | refine Rn.scope hc ?_ | refine Rn.inScope hc ?_))
        refine Rn.loopI hc (I := fun k s C => ∃ n wa wb, n ≤ H + p ∧ k = H + p - n ∧ Nx B.next B C ∧ Gr2 C wa wb B.next (redS W (min (n * l.length) (H * l.length))) (redR W (H * l.length) (n * l.length - H * l.length)) ∧ s.n = 96 ∧ sget s 0 = .slice a l.length c ∧ sget s 2 = .pointer (some ⟨A.next, 0, none⟩) ∧ sget s 5 = .int .i64 (H : Int) ∧ sget s 11 = .slice wa (min (n * l.length) (H * l.length)) (min (n * l.length) (H * l.length)) ∧ sget s 12 = .slice wb (n * l.length - H * l.length) (n * l.length - H * l.length) ∧ sget s 60 = .int .i64 ((H + p : Nat) : Int) ∧ sget s 61 = .int .i64 (n : Int))
          (n := H + p) ⟨0, none, none, by omega, rfl, Nx.refl hB.wf _, by rw [Nat.zero_mul, Nat.zero_min, Nat.zero_sub]; exact Gr2.nil (Nat.le_refl _), by simp only [sp_n, hn], by simp only [sg_ne, ne_eq, Nat.reduceEqDiff, not_false_eq_true, s0], by simp only [sg_ne, ne_eq, Nat.reduceEqDiff, not_false_eq_true, s2], by simp only [sg_ne, ne_eq, Nat.reduceEqDiff, not_false_eq_true, s5], by simp only [sg_eq, sg_ne, sp_n, Nat.reduceLT, ne_eq, Nat.reduceEqDiff, not_false_eq_true, hn, Nat.zero_mul, Nat.zero_min], by simp only [sg_eq, sg_ne, sp_n, Nat.reduceLT, ne_eq, Nat.reduceEqDiff, not_false_eq_true, hn, Nat.zero_mul, Nat.zero_sub], by simp only [sg_eq, sg_ne, sp_n, Nat.reduceLT, ne_eq, Nat.reduceEqDiff, not_false_eq_true, hn], by simp only [sg_eq, sp_n, Nat.reduceLT, hn]; rfl⟩ ?_
        clear hn s0 s2 s5 s6 s
        rintro k s C ⟨n, wa, wb, hnHp, rfl, hC, hg, hn, s0, s2, s5, s11, s12, s60, s61⟩ ih
        (repeat (first | refine Rn.seq hc ?_ | refine Rn.skip hc ?_ | refine Rn.block hc ?_ | refine Rn.inBlock hc ?_ | refine Rn.scope hc ?_ | refine Rn.inScope hc ?_))
        by_cases hlt : n < H + p
        · have hd : decide ((n : Int) < ((H + p : Nat) : Int)) = true := decide_eq_true (by omega)
          have hnK := Nat.mul_le_mul_right l.length (show n + 1 ≤ H + p from hlt)
          rw [Nat.succ_mul, Nat.add_mul] at hnK
          refine Rn.reg hc rfl ?_
          simp only [sev_tmp, gd, want_free, rops, fx, bin_lss, Option.some.injEq, exists_eq_left', s60, s61, hd]
          (repeat (first | refine Rn.seq hc ?_ | refine Rn.skip hc ?_ | refine Rn.block hc ?_ | refine Rn.inBlock hc ?_ | refine Rn.scope hc ?_ | refine Rn.inScope hc ?_))
          refine Rn.condE hc rfl ?_
          simp only [sev_tmp, sg_eq, Nat.reduceLT, Value.bool.injEq, exists_eq_left', hn]
          (repeat (first | refine Rn.seq hc ?_ | refine Rn.skip hc ?_ | refine Rn.block hc ?_ | refine Rn.inBlock hc ?_ | refine Rn.scope hc ?_ | refine Rn.inScope hc ?_))
          refine Rn.reg hc rfl ?_
          simp only [sev_tmp, sg_eq, sg_ne, sp_n, Nat.reduceLT, ne_eq, Nat.reduceEqDiff, not_false_eq_true, gd, want_free, rops, fx, Option.some.injEq, exists_eq_left', hn, s61]
          (repeat (first | refine Rn.seq hc ?_ | refine Rn.skip hc ?_ | refine Rn.block hc ?_ | refine Rn.inBlock hc ?_ | refine Rn.scope hc ?_ | refine Rn.inScope hc ?_))
          refine Rn.reg hc rfl ?_
          simp only [sev_tmp, sev_const, sg_eq, sg_ne, sp_n, Nat.reduceLT, ne_eq, Nat.reduceEqDiff, not_false_eq_true, gd, want_free, rops, fx, lng, Option.some.injEq, exists_eq_left', un46, hn, s0]
          (repeat (first | refine Rn.seq hc ?_ | refine Rn.skip hc ?_ | refine Rn.block hc ?_ | refine Rn.inBlock hc ?_ | refine Rn.scope hc ?_ | refine Rn.inScope hc ?_))
          refine Rn.loopI hc (I := fun k s D => ∃ i wa wb, i ≤ l.length ∧ k = l.length - i ∧ Nx B.next B D ∧ Gr2 D wa wb B.next (redS W (min (n * l.length + i) (H * l.length))) (redR W (H * l.length) (n * l.length + i - H * l.length)) ∧ s.n = 96 ∧ sget s 0 = .slice a l.length c ∧ sget s 2 = .pointer (some ⟨A.next, 0, none⟩) ∧ sget s 5 = .int .i64 (H : Int) ∧ sget s 11 = .slice wa (min (n * l.length + i) (H * l.length)) (min (n * l.length + i) (H * l.length)) ∧ sget s 12 = .slice wb (n * l.length + i - H * l.length) (n * l.length + i - H * l.length) ∧ sget s 60 = .int .i64 ((H + p : Nat) : Int) ∧ sget s 61 = .int .i64 (n : Int) ∧ sget s 13 = .int .i64 (n : Int) ∧ sget s 64 = .slice a l.length c ∧ sget s 65 = .int .i64 (l.length : Int) ∧ sget s 66 = .int .i64 (i : Int))
            (n := l.length) ⟨0, wa, wb, by omega, rfl, hC, hg, by simp only [sp_n, hn], by simp only [sg_ne, ne_eq, Nat.reduceEqDiff, not_false_eq_true, s0], by simp only [sg_ne, ne_eq, Nat.reduceEqDiff, not_false_eq_true, s2], by simp only [sg_ne, ne_eq, Nat.reduceEqDiff, not_false_eq_true, s5], by simp only [sg_ne, ne_eq, Nat.reduceEqDiff, not_false_eq_true, s11, Nat.add_zero], by simp only [sg_ne, ne_eq, Nat.reduceEqDiff, not_false_eq_true, s12, Nat.add_zero], by simp only [sg_ne, ne_eq, Nat.reduceEqDiff, not_false_eq_true, s60], by simp only [sg_ne, ne_eq, Nat.reduceEqDiff, not_false_eq_true, s61], by simp only [sg_eq, sg_ne, sp_n, Nat.reduceLT, ne_eq, Nat.reduceEqDiff, not_false_eq_true, hn], by simp only [sg_eq, sg_ne, sp_n, Nat.reduceLT, ne_eq, Nat.reduceEqDiff, not_false_eq_true, hn], by simp only [sg_eq, sg_ne, sp_n, Nat.reduceLT, ne_eq, Nat.reduceEqDiff, not_false_eq_true, hn], by simp only [sg_eq, sp_n, Nat.reduceLT, hn]; rfl⟩ ?_
          clear hn s0 s2 s5 s11 s12 s60 s61 s hd hg wa wb
          rintro k s D ⟨i, wa, wb, hi, rfl, hD, hg, hn, s0, s2, s5, s11, s12, s60, s61, s13, s64, s65, s66⟩ ih2
          have hD0 : Nx A.next A D := hB0.trans (hD.le hB0.next)
          have nD := hD.next
          (repeat (first | refine Rn.seq hc ?_ | refine Rn.skip hc ?_ | refine Rn.block hc ?_ | refine Rn.inBlock hc ?_ | refine Rn.scope hc ?_ | refine Rn.inScope hc ?_))
          by_cases hli : i < l.length
          · have hd : decide ((i : Int) < (l.length : Int)) = true := decide_eq_true (by omega)
            obtain ⟨hok, b, o, rfl, hbb, c0, c1, c2⟩ := (hl.nx hD0) i hli
            obtain ⟨m60, m120, mpos⟩ := err_len (errs_each he i hli)
            obtain ⟨B2, p1, hx2, hn2, d0, d1, d2⟩ := put24 hD.wf (v0 := .int .i64 (l.getD i noLas).m) (v1 := .slice (l.getD i noLas).sa (l.getD i noLas).st.length (l.getD i noLas).sc) (v2 := .slice (l.getD i noLas).ra (l.getD i noLas).ro.length (l.getD i noLas).rc) rfl
            have hok2 := hok.nx hx2
            refine Rn.reg hc rfl ?_
            simp only [sev_tmp, gd, want_free, rops, fx, bin_lss, Option.some.injEq, exists_eq_left', s65, s66, hd]
            (repeat (first | refine Rn.seq hc ?_ | refine Rn.skip hc ?_ | refine Rn.block hc ?_ | refine Rn.inBlock hc ?_ | refine Rn.scope hc ?_ | refine Rn.inScope hc ?_))
            refine Rn.condE hc rfl ?_
            simp only [sev_tmp, sg_eq, Nat.reduceLT, Value.bool.injEq, exists_eq_left', hn]
            (repeat (first | refine Rn.seq hc ?_ | refine Rn.skip hc ?_ | refine Rn.block hc ?_ | refine Rn.inBlock hc ?_ | refine Rn.scope hc ?_ | refine Rn.inScope hc ?_))
            refine Rn.reg hc rfl ?_
            simp only [sev_tmp, sg_eq, sg_ne, sp_n, sp_none, Nat.reduceLT, ne_eq, Nat.reduceEqDiff, not_false_eq_true, gd, want_free, rops, fx, ld, str, idx, adr_p, cls, Nat.zero_add, Option.some.injEq, exists_eq_left', Value.cells, Nat.reduceAdd, tk24, eo46, hn, s64, s66, nlen_nat hli, c0, c1, c2, ze24, p1, List.size_toArray, List.length_cons, List.length_nil, Nat.beq_refl]
            (repeat (first | refine Rn.seq hc ?_ | refine Rn.skip hc ?_ | refine Rn.block hc ?_ | refine Rn.inBlock hc ?_ | refine Rn.scope hc ?_ | refine Rn.inScope hc ?_))
            refine Rn.region hc fun K hK => ?_
            refine Wo.run hc 3 rfl rfl rfl ?_
            simp (maxSteps := 2000000) only [List.drop_zero, List.take_succ_cons, List.take_zero, sev_tmp, sg_eq, sg_ne, sp_n, Nat.reduceLT, ne_eq, Nat.reduceEqDiff, not_false_eq_true, gd, want_free, rops, fx, ld, adr_p, cls, Nat.zero_add, Option.some.injEq, exists_eq_left', Value.cells, Nat.reduceAdd, tk24, hn, s13, d0, d1, d2, bd86, List.size_toArray, List.length_cons, List.length_nil]
            refine Wo.call hc (by rfl) (by rfl) ⟨by rfl, by rfl⟩ (xs := [.agg #[.int .i64 (l.getD i noLas).m, .slice (l.getD i noLas).sa (l.getD i noLas).st.length (l.getD i noLas).sc, .slice (l.getD i noLas).ra (l.getD i noLas).ro.length (l.getD i noLas).rc], .int .i64 (n : Int)]) (by rfl) (by rfl) (by simp only [sev_tmp, sg_eq, sg_ne, sp_n, Nat.reduceLT, ne_eq, Nat.reduceEqDiff, not_false_eq_true, List.map_cons, List.map_nil, List.nil_append, List.append_nil, hn]) (Con.mono (at_stream hx2.wf hok2.1 hok2.2.1 n hok2.2.2.1 mpos hok2.2.2.2 (by omega)) ?_)
            rintro w B3 ⟨rfl, hx3⟩
            have hval : atL (l.getD i noLas).st (l.getD i noLas).ro n = W (n * l.length + i) := (hWv n i hli).symm
            rw [hval]
            refine Wo.run hc 1 rfl rfl rfl ?_
            simp (maxSteps := 2000000) only [List.drop_zero, List.drop_succ_cons, List.take_succ_cons, List.take_zero, sev_tmp, sg_eq, sp_n, Nat.reduceLT, gd, want_free, rops, fx, Option.some.injEq, exists_eq_left', Nat.reduceAdd, hn]
            refine Wo.done hc rfl (hK _ _ ?_)
            clear hK
            (repeat (first | refine Rn.seq hc ?_ | refine Rn.skip hc ?_ | refine Rn.block hc ?_ | refine Rn.inBlock hc ?_ | refine Rn.scope hc ?_ | refine Rn.inScope hc ?_))
            have hz4 : Nx B3.next B3 (B3.push (.cells #[.int .i64 (W (n * l.length + i))] 3)) := (Nx.refl hx3.wf _).push (Nat.le_refl _) _
            have l4 := look_push_eq B3 (.cells #[.int .i64 (W (n * l.length + i))] 3)
            have hn4 : (B3.push (.cells #[.int .i64 (W (n * l.length + i))] 3)).next = B3.next + 1 := rfl
            generalize e4 : B3.push (.cells #[.int .i64 (W (n * l.length + i))] 3) = B4 at hz4 l4 hn4
            have n3 := hx3.next
            have hD4 : Nx D.next D B4 := hx2.trans ((hx3.le (by omega)).trans (hz4.le (by omega)))
            have hg4 := hg.nx hD.wf hD4
            by_cases hnH : n < H
            · have hd3 : decide ((n : Int) < (H : Int)) = true := decide_eq_true (by omega)
              have hcH := Nat.mul_le_mul_right l.length (show n + 1 ≤ H from hnH)
              rw [Nat.succ_mul] at hcH
              have m1 : min (n * l.length + i) (H * l.length) = n * l.length + i := by omega
              have m2 : min (n * l.length + (i + 1)) (H * l.length) = n * l.length + (i + 1) := by omega
              have z1 : n * l.length + i - H * l.length = 0 := by omega
              have z2 : n * l.length + (i + 1) - H * l.length = 0 := by omega
              rw [m1] at s11 hg4
              rw [z1] at s12 hg4
              have hg4' : Gr2 B4 wa wb B.next (redS W (n * l.length + i)) [] := hg4
              obtain ⟨B5, q1, n5, w5, hg5, nx5⟩ := Gr2.pushA hz4.wf hg4' (a2 := some ⟨B3.next, 0, none⟩) (c2 := 1) (b2 := B3.next) (x := W (n * l.length + i)) rfl (by rw [cl_of l4 rfl]; rfl) (by rw [redS_len]; omega) (by omega)
              rw [redS_len] at q1
              rw [redS_snoc] at hg5
              refine Rn.reg hc rfl ?_
              simp only [sev_tmp, sg_eq, sg_ne, sp_n, Nat.reduceLT, ne_eq, Nat.reduceEqDiff, not_false_eq_true, gd, want_free, rops, fx, bin_lss, Option.some.injEq, exists_eq_left', hn, s5, s13, hd3]
              (repeat (first | refine Rn.seq hc ?_ | refine Rn.skip hc ?_ | refine Rn.block hc ?_ | refine Rn.inBlock hc ?_ | refine Rn.scope hc ?_ | refine Rn.inScope hc ?_))
              refine Rn.condE hc rfl ?_
              simp only [sev_tmp, sg_eq, sp_n, Nat.reduceLT, Value.bool.injEq, exists_eq_left', hn]
              (repeat (first | refine Rn.seq hc ?_ | refine Rn.skip hc ?_ | refine Rn.block hc ?_ | refine Rn.inBlock hc ?_ | refine Rn.scope hc ?_ | refine Rn.inScope hc ?_))
              refine Rn.reg hc rfl ?_
              simp only [sev_tmp, sg_eq, sg_ne, sp_n, Nat.reduceLT, ne_eq, Nat.reduceEqDiff, not_false_eq_true, gd, want_free, rops, fx, Option.some.injEq, exists_eq_left', hn, s11, bs22_1, isCell, e4, ae_apd, apd_slice, q1]
              (repeat (first | refine Rn.seq hc ?_ | refine Rn.skip hc ?_ | refine Rn.block hc ?_ | refine Rn.inBlock hc ?_ | refine Rn.scope hc ?_ | refine Rn.inScope hc ?_))
              refine Rn.reg hc rfl ?_
              simp only [sev_tmp, sev_const, sg_eq, sg_ne, sp_n, Nat.reduceLT, ne_eq, Nat.reduceEqDiff, not_false_eq_true, gd, want_free, rops, fx, bin_add, Option.some.injEq, exists_eq_left', hn, s66, wrap_succ (show i < 9223372036854775807 by omega)]
              (repeat (first | refine Rn.seq hc ?_ | refine Rn.skip hc ?_ | refine Rn.block hc ?_ | refine Rn.inBlock hc ?_ | refine Rn.scope hc ?_ | refine Rn.inScope hc ?_))
              exact ih2 _ _ _ (by omega) ⟨i + 1, _, wb, by omega, rfl, hD.trans ((hD4.le nD).trans nx5), by rw [m2, z2]; exact hg5, by simp only [sp_n, hn], by simp only [sg_ne, ne_eq, Nat.reduceEqDiff, not_false_eq_true, s0], by simp only [sg_ne, ne_eq, Nat.reduceEqDiff, not_false_eq_true, s2], by simp only [sg_ne, ne_eq, Nat.reduceEqDiff, not_false_eq_true, s5], by simp only [sg_eq, sg_ne, sp_n, Nat.reduceLT, ne_eq, Nat.reduceEqDiff, not_false_eq_true, hn, m2, Nat.add_assoc], by simp only [sg_ne, ne_eq, Nat.reduceEqDiff, not_false_eq_true, s12, z2], by simp only [sg_ne, ne_eq, Nat.reduceEqDiff, not_false_eq_true, s60], by simp only [sg_ne, ne_eq, Nat.reduceEqDiff, not_false_eq_true, s61], by simp only [sg_ne, ne_eq, Nat.reduceEqDiff, not_false_eq_true, s13], by simp only [sg_ne, ne_eq, Nat.reduceEqDiff, not_false_eq_true, s64], by simp only [sg_ne, ne_eq, Nat.reduceEqDiff, not_false_eq_true, s65], by simp only [sg_eq, sp_n, Nat.reduceLT, hn]⟩
            · have hd3 : decide ((n : Int) < (H : Int)) = false := decide_eq_false (by omega)
              have hcH := Nat.mul_le_mul_right l.length (show H ≤ n by omega)
              obtain ⟨j, hj⟩ : ∃ j, n * l.length + i = H * l.length + j := ⟨n * l.length + i - H * l.length, by omega⟩
              have m1 : min (n * l.length + i) (H * l.length) = H * l.length := by omega
              have m2 : min (n * l.length + (i + 1)) (H * l.length) = H * l.length := by omega
              have z1 : n * l.length + i - H * l.length = j := by omega
              have z2 : n * l.length + (i + 1) - H * l.length = j + 1 := by omega
              rw [m1] at s11 hg4
              rw [z1] at s12 hg4
              obtain ⟨B5, q1, n5, w5, hg5, nx5⟩ := Gr2.pushB hz4.wf hg4 (a2 := some ⟨B3.next, 0, none⟩) (c2 := 1) (b2 := B3.next) (x := W (n * l.length + i)) rfl (by rw [cl_of l4 rfl]; rfl) (by rw [redR_len]; omega)
              rw [redR_len] at q1
              rw [hj, redR_snoc] at hg5
              refine Rn.reg hc rfl ?_
              simp only [sev_tmp, sg_eq, sg_ne, sp_n, Nat.reduceLT, ne_eq, Nat.reduceEqDiff, not_false_eq_true, gd, want_free, rops, fx, bin_lss, Option.some.injEq, exists_eq_left', hn, s5, s13, hd3]
              (repeat (first | refine Rn.seq hc ?_ | refine Rn.skip hc ?_ | refine Rn.block hc ?_ | refine Rn.inBlock hc ?_ | refine Rn.scope hc ?_ | refine Rn.inScope hc ?_))
              refine Rn.condE hc rfl ?_
              simp only [sev_tmp, sg_eq, sp_n, Nat.reduceLT, Value.bool.injEq, exists_eq_left', hn]
              (repeat (first | refine Rn.seq hc ?_ | refine Rn.skip hc ?_ | refine Rn.block hc ?_ | refine Rn.inBlock hc ?_ | refine Rn.scope hc ?_ | refine Rn.inScope hc ?_))
              refine Rn.reg hc rfl ?_
              simp only [sev_tmp, sg_eq, sg_ne, sp_n, Nat.reduceLT, ne_eq, Nat.reduceEqDiff, not_false_eq_true, gd, want_free, rops, fx, Option.some.injEq, exists_eq_left', hn, s12, bs22_1, isCell, e4, ae_apd, apd_slice, q1]
              (repeat (first | refine Rn.seq hc ?_ | refine Rn.skip hc ?_ | refine Rn.block hc ?_ | refine Rn.inBlock hc ?_ | refine Rn.scope hc ?_ | refine Rn.inScope hc ?_))
              refine Rn.reg hc rfl ?_
              simp only [sev_tmp, sev_const, sg_eq, sg_ne, sp_n, Nat.reduceLT, ne_eq, Nat.reduceEqDiff, not_false_eq_true, gd, want_free, rops, fx, bin_add, Option.some.injEq, exists_eq_left', hn, s66, wrap_succ (show i < 9223372036854775807 by omega)]
              (repeat (first | refine Rn.seq hc ?_ | refine Rn.skip hc ?_ | refine Rn.block hc ?_ | refine Rn.inBlock hc ?_ | refine Rn.scope hc ?_ | refine Rn.inScope hc ?_))
              exact ih2 _ _ _ (by omega) ⟨i + 1, wa, _, by omega, rfl, hD.trans ((hD4.le nD).trans nx5), by rw [m2, z2]; exact hg5, by simp only [sp_n, hn], by simp only [sg_ne, ne_eq, Nat.reduceEqDiff, not_false_eq_true, s0], by simp only [sg_ne, ne_eq, Nat.reduceEqDiff, not_false_eq_true, s2], by simp only [sg_ne, ne_eq, Nat.reduceEqDiff, not_false_eq_true, s5], by simp only [sg_ne, ne_eq, Nat.reduceEqDiff, not_false_eq_true, s11, m2], by simp only [sg_eq, sg_ne, sp_n, Nat.reduceLT, ne_eq, Nat.reduceEqDiff, not_false_eq_true, hn, z2], by simp only [sg_ne, ne_eq, Nat.reduceEqDiff, not_false_eq_true, s60], by simp only [sg_ne, ne_eq, Nat.reduceEqDiff, not_false_eq_true, s61], by simp only [sg_ne, ne_eq, Nat.reduceEqDiff, not_false_eq_true, s13], by simp only [sg_ne, ne_eq, Nat.reduceEqDiff, not_false_eq_true, s64], by simp only [sg_ne, ne_eq, Nat.reduceEqDiff, not_false_eq_true, s65], by simp only [sg_eq, sp_n, Nat.reduceLT, hn]⟩
          · have hd : decide ((i : Int) < (l.length : Int)) = false := decide_eq_false (by omega)
            have hil : i = l.length := by omega
            subst hil
            clear ih2
            refine Rn.reg hc rfl ?_
            simp only [sev_tmp, gd, want_free, rops, fx, bin_lss, Option.some.injEq, exists_eq_left', s65, s66, hd]
            (repeat (first | refine Rn.seq hc ?_ | refine Rn.skip hc ?_ | refine Rn.block hc ?_ | refine Rn.inBlock hc ?_ | refine Rn.scope hc ?_ | refine Rn.inScope hc ?_))
            refine Rn.condE hc rfl ?_
            simp only [sev_tmp, sg_eq, Nat.reduceLT, Value.bool.injEq, exists_eq_left', hn]
            (repeat (first | refine Rn.seq hc ?_ | refine Rn.skip hc ?_ | refine Rn.block hc ?_ | refine Rn.inBlock hc ?_ | refine Rn.scope hc ?_ | refine Rn.inScope hc ?_))
            refine Rn.exit hc rfl ?_
            (repeat (first | refine Rn.seq hc ?_ | refine Rn.skip hc ?_ | refine Rn.block hc ?_ | refine Rn.inBlock hc ?_ | refine Rn.scope hc ?_ | refine Rn.inScope hc ?_))
            rw [← Nat.succ_mul] at hg s11 s12
            refine Rn.reg hc rfl ?_
            simp only [sev_tmp, sev_const, sg_eq, sg_ne, sp_n, Nat.reduceLT, ne_eq, Nat.reduceEqDiff, not_false_eq_true, gd, want_free, rops, fx, bin_add, Option.some.injEq, exists_eq_left', hn, s61, wrap_succ (show n < 9223372036854775807 by omega)]
            (repeat (first | refine Rn.seq hc ?_ | refine Rn.skip hc ?_ | refine Rn.block hc ?_ | refine Rn.inBlock hc ?_ | refine Rn.scope hc ?_ | refine Rn.inScope hc ?_))
            exact ih _ _ _ (by omega) ⟨n + 1, wa, wb, by omega, rfl, hD, hg, by simp only [sp_n, hn], by simp only [sg_ne, ne_eq, Nat.reduceEqDiff, not_false_eq_true, s0], by simp only [sg_ne, ne_eq, Nat.reduceEqDiff, not_false_eq_true, s2], by simp only [sg_ne, ne_eq, Nat.reduceEqDiff, not_false_eq_true, s5], by simp only [sg_ne, ne_eq, Nat.reduceEqDiff, not_false_eq_true, s11], by simp only [sg_ne, ne_eq, Nat.reduceEqDiff, not_false_eq_true, s12], by simp only [sg_ne, ne_eq, Nat.reduceEqDiff, not_false_eq_true, s60], by simp only [sg_eq, sp_n, Nat.reduceLT, hn]⟩
        · have hd : decide ((n : Int) < ((H + p : Nat) : Int)) = false := decide_eq_false (by omega)
          have hnn : n = H + p := by omega
          subst hnn
          clear ih
          have m1 : min ((H + p) * l.length) (H * l.length) = H * l.length := by rw [Nat.add_mul]; omega
          have z1 : (H + p) * l.length - H * l.length = p * l.length := by rw [Nat.add_mul]; omega
          rw [m1] at s11 hg
          rw [z1] at s12 hg
          refine Rn.reg hc rfl ?_
          simp only [sev_tmp, gd, want_free, rops, fx, bin_lss, Option.some.injEq, exists_eq_left', s60, s61, hd]
          (repeat (first | refine Rn.seq hc ?_ | refine Rn.skip hc ?_ | refine Rn.block hc ?_ | refine Rn.inBlock hc ?_ | refine Rn.scope hc ?_ | refine Rn.inScope hc ?_))
          refine Rn.condE hc rfl ?_
          simp only [sev_tmp, sg_eq, Nat.reduceLT, Value.bool.injEq, exists_eq_left', hn]
          (repeat (first | refine Rn.seq hc ?_ | refine Rn.skip hc ?_ | refine Rn.block hc ?_ | refine Rn.inBlock hc ?_ | refine Rn.scope hc ?_ | refine Rn.inScope hc ?_))
          refine Rn.exit hc rfl ?_
          (repeat (first | refine Rn.seq hc ?_ | refine Rn.skip hc ?_ | refine Rn.block hc ?_ | refine Rn.inBlock hc ?_ | refine Rn.scope hc ?_ | refine Rn.inScope hc ?_))
          have hC0 : Nx A.next A C := hB0.trans (hC.le hB0.next)
          have nC := hC.next
          obtain ⟨_, b, o, rfl, hbb, c0, c1, c2⟩ := (hl.nx hC0) 0 (by omega)
          have c0' : cl C b o = some (.int .i64 (l.getD 0 noLas).m) := by rw [Nat.zero_mul, Nat.add_zero] at c0; exact c0
          have n0 : nlen (.int .i64 0) l.length = some 0 := nlen_nat (j := 0) (by omega)
          have lC : Canon.look C.objs A.next = _ := (hC.keep _ (by omega)).trans lB
          have hg2 := hg.snd
          have hlr := least_run hC.wf (m := (l.getD 0 noLas).m) (sc := H * l.length) (rc := p * l.length) (hg.g1.ints.mono (Nat.zero_le _) (Nat.le_refl _)) (hg2.ints.mono (Nat.zero_le _) (Nat.le_refl _)) (by rw [redS_len]; omega) (by rw [redR_len]; omega) (by rw [redR_len]; exact Nat.mul_pos hp0 (by omega)) (hg.g1.sl.mono (Nat.zero_le _)) (by rw [redS_len]; exact Nat.le_refl _)
          rw [atL_redF hPer] at hlr
          simp only [redS_len, redR_len] at hlr
          refine Rn.region hc fun K hK => ?_
          refine Wo.run hc 6 rfl rfl rfl ?_
          simp (maxSteps := 2000000) only [List.drop_zero, List.take_succ_cons, List.take_zero, sev_tmp, sev_const, sg_eq, sg_ne, sp_n, Nat.reduceLT, ne_eq, Nat.reduceEqDiff, not_false_eq_true, gd, want_free, rops, fx, ld, fad, idx, adr_p, Nat.zero_add, Nat.add_zero, Option.some.injEq, exists_eq_left', tk3, fo24_0, eo46, hn, s0, s11, s12, n0, c0', Nat.zero_mul]
          refine Wo.call hc (by rfl) (by rfl) ⟨by rfl, by rfl⟩ (xs := [.int .i64 (l.getD 0 noLas).m, .slice wa (H * l.length) (H * l.length), .slice wb (p * l.length) (p * l.length)]) (by rfl) (by rfl) (by simp only [sev_tmp, sg_eq, sg_ne, sp_n, Nat.reduceLT, ne_eq, Nat.reduceEqDiff, not_false_eq_true, List.map_cons, List.map_nil, List.nil_append, List.append_nil, hn]) (Con.mono (hlr) ?_)
          rintro w C3 ⟨a', p', hred', _, _, hq⟩
          obtain ⟨mm, n1, n2, ee, p1, c1, p2, c2, rfl, D, q1, g0, g1, g2, hoff, hT⟩ := Tld.fin (b := A.next) hC0 (Nat.le_refl _) (by omega) lC (tld_q (m := (l.getD 0 noLas).m) hred' hq)
          refine Wo.run hc 4 rfl rfl rfl ?_
          simp (maxSteps := 2000000) only [List.drop_zero, List.drop_succ_cons, List.take_succ_cons, List.take_zero, sev_tmp, sg_eq, sg_ne, sp_n, sp_none, Nat.reduceLT, ne_eq, Nat.reduceEqDiff, not_false_eq_true, gd, want_free, rops, fx, str, ext, adr_p, List.getElem?_toArray, List.getElem?_cons_zero, List.getElem?_cons_succ, Nat.zero_add, Option.some.injEq, exists_eq_left', Nat.reduceAdd, tk24, hn, s2, ext, q1, List.size_toArray, List.length_cons, List.length_nil, Nat.beq_refl]
          refine Wo.done hc rfl (hK _ _ ?_)
          clear hK
          (repeat (first | refine Rn.seq hc ?_ | refine Rn.skip hc ?_ | refine Rn.block hc ?_ | refine Rn.inBlock hc ?_ | refine Rn.scope hc ?_ | refine Rn.inScope hc ?_))
          refine Rn.ret (endQ_ct rfl (v := .agg #[.int .i64 mm, .slice p1 n1 c1, .slice p2 n2 c2]) ?_ ?_)
          · simp only [sg_ne, ne_eq, Nat.reduceEqDiff, not_false_eq_true, ld, adr_p, cls, Nat.zero_add, Nat.reduceAdd, tk24, s2, g0, g1, g2]
          · simp only [sg_eq, sp_n, Nat.reduceLT, hn]
            exact hT
    · have hd : (!decide (errs l l = 0)) = true := by rw [decide_eq_false he]; rfl
      obtain ⟨D, q1, g0, g1, g2, hxD⟩ := err_fin hx02 (Nat.le_refl _) n2 l2
      have hE2 : E = errs l l := by rw [hE, erW, if_neg hlen, if_neg he]
      rw [hE2]
      refine Rn.reg hc rfl ?_
      simp only [sev_tmp, sev_const, sg_eq, sp_n, Nat.reduceLT, gd, want_free, rops, fx, bin_neq, Option.some.injEq, exists_eq_left', hd]
      (repeat (first | refine Rn.seq hc ?_ | refine Rn.skip hc ?_ | refine Rn.block hc ?_ | refine Rn.inBlock hc ?_ | refine Rn.scope hc ?_ | refine Rn.inScope hc ?_))
      refine Rn.condE hc rfl ?_
      simp only [sev_tmp, sg_eq, sp_n, Nat.reduceLT, Value.bool.injEq, exists_eq_left']
      (repeat (first | refine Rn.seq hc ?_ | refine Rn.skip hc ?_ | refine Rn.block hc ?_ | refine Rn.inBlock hc ?_ | refine Rn.scope hc ?_ | refine Rn.inScope hc ?_))
      refine Rn.reg hc rfl ?_
      simp only [sev_tmp, sg_eq, sg_ne, sp_n, sp_none, Nat.reduceLT, ne_eq, Nat.reduceEqDiff, not_false_eq_true, gd, want_free, rops, fx, str, adr_p, Nat.zero_add, Option.some.injEq, exists_eq_left', Nat.reduceAdd, tk24, bd24_z, q1, List.size_toArray, List.length_cons, List.length_nil, Nat.beq_refl]
      (repeat (first | refine Rn.seq hc ?_ | refine Rn.skip hc ?_ | refine Rn.block hc ?_ | refine Rn.inBlock hc ?_ | refine Rn.scope hc ?_ | refine Rn.inScope hc ?_))
      refine Rn.ret (endQ_ct rfl (v := .agg #[.int .i64 0, .slice none 0 0, .slice none 0 0]) ?_ ?_)
      · simp only [sg_eq, sg_ne, sp_n, Nat.reduceLT, ne_eq, Nat.reduceEqDiff, not_false_eq_true, ld, adr_p, cls, Nat.zero_add, Nat.reduceAdd, tk24, g0, g1, g2]
      · simp only [sg_eq, sp_n, Nat.reduceLT]
        exact tld_err he hxD
end Go.Proofs.Ytdaljohmfnfgiaa
/- Several streams, woven, by the reference: what it takes. No condition. -/
namespace Go.Proofs.Ytdaljohmfnfgiaa
open Go Go.RowKit Go.Proofs.Ytdaljohmfnfgiaa.Canon
set_option maxRecDepth 20000
section
variable {d : Option Tmp} {ty : TypeId} {pos : String} {af : Array Edge} {gu : Option (Nat × Bool)} {A : AHeap}
end
theorem Gr2.ext {A B : AHeap} {wa wb : Option Addr} {lo : Nat} {L1 L2 : List Int} (h : Gr2 A wa wb lo L1 L2) (hn : A.next ≤ B.next) (he : ∀ b, lo ≤ b → Canon.look A.objs b = none ∨ Canon.look B.objs b = Canon.look A.objs b) : Gr2 B wa wb lo L1 L2 := by
  obtain ⟨M, h1, h2, h3, h4⟩ := h.g2
  exact ⟨h.g1.ext hn he, ⟨M, h1, Nat.le_trans h2 hn, h3, h4.ext hn fun b hb => he b (Nat.le_trans h1 hb)⟩, h.nl⟩
end Go.Proofs.Ytdaljohmfnfgiaa
/- Several streams, woven, by the reference. No condition. -/
namespace Go.Proofs.Ytdaljohmfnfgiaa
open Go Go.RowKit Go.Proofs.Ytdaljohmfnfgiaa.Canon
set_option maxRecDepth 20000


end Go.Proofs.Ytdaljohmfnfgiaa
/- Rows of streams that grow. No condition. -/
namespace Go.Proofs.Ytdaljohmfnfgiaa
open Go Go.RowKit Go.Proofs.Ytdaljohmfnfgiaa.Canon
set_option maxRecDepth 20000
theorem el46 : elB Try.prog 46 = some (24, 3, 56) := by kernel_rfl
/-- The cells of a row of streams. -/
def rowL : List Las → List Value
  | [] => []
  | x :: l => .int .i64 x.m :: .slice x.sa x.st.length x.sc :: .slice x.ra x.ro.length x.rc :: rowL l
theorem rowL_len : ∀ l : List Las, (rowL l).length = l.length * 3
  | [] => rfl
  | x :: l => by
    show (rowL l).length + 3 = (l.length + 1) * 3
    rw [rowL_len l]
    omega
theorem rowL_get : ∀ {l : List Las} {i : Nat}, i < l.length → (rowL l)[i * 3]? = some (.int .i64 (l.getD i noLas).m) ∧ (rowL l)[i * 3 + 1]? = some (.slice (l.getD i noLas).sa (l.getD i noLas).st.length (l.getD i noLas).sc) ∧ (rowL l)[i * 3 + 2]? = some (.slice (l.getD i noLas).ra (l.getD i noLas).ro.length (l.getD i noLas).rc)
  | [], _, h => absurd h (by simp)
  | x :: l, 0, _ => ⟨rfl, rfl, rfl⟩
  | x :: l, i + 1, h => by
    have := rowL_get (l := l) (i := i) (by simpa using h)
    rw [Nat.succ_mul]
    exact this
theorem rowL_snoc (x : Las) : ∀ l : List Las, rowL (l ++ [x]) = rowL l ++ [.int .i64 x.m, .slice x.sa x.st.length x.sc, .slice x.ra x.ro.length x.rc]
  | [] => rfl
  | y :: l => by
    show _ :: _ :: _ :: rowL (l ++ [x]) = _
    rw [rowL_snoc x l]
    rfl
theorem getD_snoc {l : List Las} {x : Las} {i : Nat} (h : i < l.length) : (l ++ [x]).getD i noLas = l.getD i noLas := by
  rw [List.getD_eq_getElem?_getD, List.getD_eq_getElem?_getD, List.getElem?_append_left h]
theorem getD_last {l : List Las} {x : Las} : (l ++ [x]).getD l.length noLas = x := by
  rw [List.getD_eq_getElem?_getD, List.getElem?_append_right (Nat.le_refl _)]
  simp
/-- A stream whose memory is one's own. -/
structure OwnE (A : AHeap) (lo : Nat) (x : Las) : Prop where
  i1 : Ints A x.sa lo A.next x.st
  i2 : Ints A x.ra lo A.next x.ro
  s1 : Sl A x.sa lo
  s2 : Sl A x.ra lo
  c1 : x.st.length ≤ x.sc
  c2 : x.ro.length ≤ x.rc
  l1 : x.st.length ≤ 200
  l2 : x.ro.length ≤ 200
theorem OwnE.ok {A : AHeap} {lo : Nat} {x : Las} (h : OwnE A lo x) : x.ok A := ⟨h.i1.mono (Nat.zero_le _) (Nat.le_refl _), h.i2.mono (Nat.zero_le _) (Nat.le_refl _), by have := h.l1; omega, by have := h.l2; omega⟩
theorem OwnE.lt {A : AHeap} (hw : WF A) {lo : Nat} {x : Las} (h : OwnE A lo x) {y : Addr} (hy : x.sa = some y ∨ x.ra = some y) : lo ≤ y.block ∧ y.block < A.next := by
  rcases hy with hy | hy
  · obtain ⟨_, h1, z, hz, _⟩ := h.s1 y hy
    exact ⟨h1, hw _ _ hz⟩
  · obtain ⟨_, h1, z, hz, _⟩ := h.s2 y hy
    exact ⟨h1, hw _ _ hz⟩
theorem OwnE.stay {A B : AHeap} {lo : Nat} {x : Las} (h : OwnE A lo x) (hn : A.next ≤ B.next) (he : ∀ y, (x.sa = some y ∨ x.ra = some y) → Canon.look B.objs y.block = Canon.look A.objs y.block) : OwnE B lo x :=
  { i1 := fun i hi => by
      obtain ⟨b, o, e, p1, p2, p3⟩ := h.i1 i hi
      exact ⟨b, o, e, p1, by omega, (cl_look (he _ (.inl e))).trans p3⟩
    i2 := fun i hi => by
      obtain ⟨b, o, e, p1, p2, p3⟩ := h.i2 i hi
      exact ⟨b, o, e, p1, by omega, (cl_look (he _ (.inr e))).trans p3⟩
    s1 := fun y hy => by
      obtain ⟨p1, p2, z, p3, p4⟩ := h.s1 y hy
      exact ⟨p1, p2, z, (he _ (.inl hy)).trans p3, p4⟩
    s2 := fun y hy => by
      obtain ⟨p1, p2, z, p3, p4⟩ := h.s2 y hy
      exact ⟨p1, p2, z, (he _ (.inr hy)).trans p3, p4⟩
    c1 := h.c1, c2 := h.c2, l1 := h.l1, l2 := h.l2 }
theorem OwnE.nx {A B : AHeap} (hw : WF A) {lo : Nat} {x : Las} (h : OwnE A lo x) (k : Nx A.next A B) : OwnE B lo x := h.stay k.next fun y hy => k.keep _ (h.lt hw hy).2
theorem OwnE.mono {A : AHeap} {lo lo' : Nat} {x : Las} (h : OwnE A lo x) (hl : lo' ≤ lo) : OwnE A lo' x :=
  { i1 := h.i1.mono hl (Nat.le_refl _), i2 := h.i2.mono hl (Nat.le_refl _), s1 := h.s1.mono hl, s2 := h.s2.mono hl, c1 := h.c1, c2 := h.c2, l1 := h.l1, l2 := h.l2 }
/-- A row of streams, to which more may be appended. -/
structure GrL (A : AHeap) (a : Option Addr) (lo : Nat) (l : List Las) : Prop where
  row : Row A a (rowL l)
  base : Base A a 3
  non : a = none → l = []
  low : ∀ z, a = some z → lo ≤ z.block
  each : ∀ i, i < l.length → OwnE A lo (l.getD i noLas)
  apart : ∀ z, a = some z → ∀ i, i < l.length → ∀ y, ((l.getD i noLas).sa = some y ∨ (l.getD i noLas).ra = some y) → y.block ≠ z.block
theorem GrL.nil (A : AHeap) (lo : Nat) : GrL A none lo [] := ⟨.inl rfl, fun x hx => (by cases hx), fun _ => rfl, fun x hx => (by cases hx), fun i hi => absurd hi (by simp), fun x hx => (by cases hx)⟩
theorem GrL.lt {A : AHeap} (hw : WF A) {a : Option Addr} {lo : Nat} {l : List Las} (h : GrL A a lo l) {z : Addr} (hz : a = some z) : z.block < A.next := by
  obtain ⟨y, hy, _⟩ := h.base z hz
  exact hw _ _ hy
theorem GrL.nx {A B : AHeap} (hw : WF A) {a : Option Addr} {lo : Nat} {l : List Las} (h : GrL A a lo l) (k : Nx A.next A B) : GrL B a lo l where
  row := by
    rcases h.row with h0 | ⟨b, o, e, hr⟩
    · exact .inl h0
    · have := h.lt hw e
      exact .inr ⟨b, o, e, fun i hi => (k.cl this _).trans (hr i hi)⟩
  base := fun z hz => by
    obtain ⟨y, hy, h2⟩ := h.base z hz
    exact ⟨y, (k.keep _ (hw _ _ hy)).trans hy, h2⟩
  non := h.non
  low := h.low
  each := fun i hi => (h.each i hi).nx hw k
  apart := h.apart
theorem GrL.lrow {A : AHeap} (hw : WF A) {a : Option Addr} {lo : Nat} {l : List Las} (h : GrL A a lo l) : LRow A a l := fun i hi => by
  refine ⟨(h.each i hi).ok, ?_⟩
  rcases h.row with h0 | ⟨b, o, e, hr⟩
  · have := rowL_len l
    rw [h0] at this
    simp at this
    omega
  · obtain ⟨q0, q1, q2⟩ := rowL_get hi
    obtain ⟨p0, e0⟩ := List.getElem?_eq_some_iff.1 q0
    obtain ⟨p1, e1⟩ := List.getElem?_eq_some_iff.1 q1
    obtain ⟨p2, e2⟩ := List.getElem?_eq_some_iff.1 q2
    exact ⟨b, o, e, h.lt hw e, by rw [hr _ p0, e0], by rw [Nat.add_assoc, hr _ p1, e1], by rw [Nat.add_assoc, hr _ p2, e2]⟩
theorem GrL.push {A : AHeap} (hw : WF A) {a : Option Addr} {lo : Nat} {l : List Las} (h : GrL A a lo l) (hlo : lo ≤ A.next) {x : Las} (hx : OwnE A lo x) (hap : ∀ z, a = some z → ∀ y, (x.sa = some y ∨ x.ra = some y) → y.block ≠ z.block) {b2 c2 : Nat}
    (d0 : cl A b2 0 = some (.int .i64 x.m)) (d1 : cl A b2 1 = some (.slice x.sa x.st.length x.sc)) (d2 : cl A b2 2 = some (.slice x.ra x.ro.length x.rc)) (hlen : l.length ≤ 1000) :
    ∃ A1, aapp Try.prog #[46, 46] #[.slice a l.length l.length, .slice (some ⟨b2, 0, none⟩) 1 c2] A = some (.slice (some ⟨A.next, 0, none⟩) (l.length + 1) (l.length + 1), A1) ∧ A1.next = A.next + 1 ∧ GrL A1 (some ⟨A.next, 0, none⟩) lo (l ++ [x]) ∧ Nx lo A A1 ∧ WF A1 ∧ (∀ b, b < A.next → (∀ z, a = some z → z.block ≠ b) → Canon.look A1.objs b = Canon.look A.objs b) := by
  obtain ⟨A1, h1, h2⟩ := aapp_new (P := Try.prog) (c := l.length) (c2 := c2) (a := a) (n := l.length) (l := rowL l) (m := 1) (a2 := some ⟨b2, 0, none⟩) (l2 := [.int .i64 x.m, .slice x.sa x.st.length x.sc, .slice x.ra x.ro.length x.rc]) el46 un46 h.row (rowL_len l) h.base (fun ha => by rw [h.non ha]; rfl)
    (.inr ⟨b2, 0, rfl, fun i hi => by
      have hi3 : i < 3 := hi
      match i, hi3 with
      | 0, _ => exact d0
      | 1, _ => exact d1
      | 2, _ => exact d2⟩) rfl rfl (fun h' => by cases h') (by omega) (by omega) (by omega)
  have hnx := h2.nx hw hlo (fun z hz => .inl (h.low z hz))
  have hkeep : ∀ b, b < A.next → (∀ z, a = some z → z.block ≠ b) → Canon.look A1.objs b = Canon.look A.objs b := fun b hb hne => h2.old b (by omega) fun z hz => .inl (hne z hz)
  refine ⟨A1, h1, h2.next, ⟨.inr ⟨A.next, 0, rfl, fun i hi => ?_⟩, fun z hz => ?_, fun h0 => (by cases h0), fun z hz => ?_, fun i hi => ?_, fun z hz i hi y hy => ?_⟩, hnx, hnx.wf, hkeep⟩
  · rw [h2.cl, Nat.zero_add, ← rowL_snoc]
    exact List.getElem?_eq_getElem hi
  · cases hz
    exact ⟨_, h2.new, .inr ⟨rfl, rfl, rfl⟩⟩
  · cases hz
    exact hlo
  · rw [List.length_append] at hi
    have hi' : i < l.length + 1 := hi
    by_cases hil : i < l.length
    · rw [getD_snoc hil]
      have hE := h.each i hil
      exact hE.stay (by rw [h2.next]; omega) fun y hy => hkeep _ (hE.lt hw hy).2 fun z hz => (h.apart z hz i hil y hy).symm
    · have : i = l.length := by omega
      subst this
      rw [getD_last]
      exact hx.stay (by rw [h2.next]; omega) fun y hy => hkeep _ (hx.lt hw hy).2 fun z hz => (hap z hz y hy).symm
  · cases hz
    rw [List.length_append] at hi
    have hi' : i < l.length + 1 := hi
    by_cases hil : i < l.length
    · rw [getD_snoc hil] at hy
      have := ((h.each i hil).lt hw hy).2
      show y.block ≠ A.next
      omega
    · have : i = l.length := by omega
      subst this
      rw [getD_last] at hy
      have := (hx.lt hw hy).2
      show y.block ≠ A.next
      omega
end Go.Proofs.Ytdaljohmfnfgiaa
/- Bytes that come in, and five arguments. No condition. -/
namespace Go.Proofs.Ytdaljohmfnfgiaa
section
open Go Go.RowKit Go.Proofs.Ytdaljohmfnfgiaa.Canon
/-- The bytes of a slice, in a world. -/
def BysW (W : World) (a : Option Addr) (n : Nat) : Prop := ∀ i, i < n → ∃ b o v, a = some ⟨b, o, none⟩ ∧ W.cell? ⟨b, o + i, none⟩ = some (.int .u8 v)
theorem BysW.bys {W : World} {z : Nat} {A : AHeap} (hA : In W z A) {a : Option Addr} {n : Nat} (h : BysW W a n) : Bys A a A.next n := fun i hi => by
  obtain ⟨b, o, v, rfl, hc⟩ := h i hi
  obtain ⟨c, t, f, h1, h2⟩ := cell_heap hc
  have hlt : b < W.heap.size := (Array.getElem?_eq_some_iff.1 h1).1
  exact ⟨b, o, v, rfl, by rw [hA.next]; have := hA.big; omega, hA.cl h1 h2 rfl⟩
end
section
open Go.ChangeShapes Go.WideShapes Go.ChangeAt Go.RowKit Go.Proofs.Ytdaljohmfnfgiaa.Canon
open Go.Deep (open_slice_pairs open_slice)
theorem Try.cells5 : Try.prog.cellsOf 5 = 1 := by kernel_rfl
section
variable {H : Type} {enc : TypeId × Value → H} {P : Program} {w : World} {base : Nat} {spare : Nat → Bool} {held : Bool}
end
theorem lit_u8 {n : Int} (h : (Lit.int .u8 n).wf = true) : ∃ k : Nat, n = (k : Int) ∧ k < 256 := by
  simp only [Lit.wf, Bool.and_eq_true, decide_eq_true_eq] at h
  have e : IntKind.u8.max = 255 := by rfl
  have e0 : IntKind.u8.min = 0 := by rfl
  exact ⟨n.toNat, by omega, by omega⟩
theorem lit_u16 {n : Int} (h : (Lit.int .u16 n).wf = true) : ∃ k : Nat, n = (k : Int) ∧ k < 65536 := by
  simp only [Lit.wf, Bool.and_eq_true, decide_eq_true_eq] at h
  have e : IntKind.u16.max = 65535 := by rfl
  have e0 : IntKind.u16.min = 0 := by rfl
  exact ⟨n.toNat, by omega, by omega⟩
set_option maxRecDepth 100000 in
theorem val_bytes {w : World} {b : Nat} {v : Value} (h : Value.okWide Try.prog w .any b 55 v) : ∃ a n c, v = .slice a n c ∧ ∀ x, a = some x → x.spot = none := cell_slice Try.underlying55 (val_cell Try.underlying55 h)
set_option maxRecDepth 100000 in
theorem bytes_trod {H : Type} {enc : TypeId × Value → H} {w : World} {base : Nat} {sp : Nat → Bool} {hd : Bool} {fuel : Nat} {a : Option Addr} {n c : Nat} {x : DataW H × List MemPlace}
    (h : DataW.trod enc Try.prog w base sp hd fuel 55 [.slice a n c] = some x) (hsp : ∀ y, a = some y → y.spot = none) : n < 9223372036854775808 ∧ BysW w a n := by
  rcases open_ints Try.underlying55 Try.underlying5 Try.cells5 h with ⟨h1, _⟩ | ⟨a1, len, cap, zs, h1, _, hlc, hm, hz, _, hc, _⟩
  · simp only [List.cons.injEq, Value.slice.injEq, and_true] at h1
    obtain ⟨rfl, rfl, rfl⟩ := h1
    exact ⟨by omega, fun i hi => by omega⟩
  · simp only [List.cons.injEq, Value.slice.injEq, and_true] at h1
    obtain ⟨rfl, rfl, rfl⟩ := h1
    have hle : n ≤ zs.length := by rw [hz]; split <;> omega
    have hmax : maxLen = 9223372036854775807 := by rfl
    refine ⟨by omega, fun i hi => ?_⟩
    obtain ⟨B, O, s⟩ := a1
    have := hsp _ rfl
    simp only at this
    subst this
    have ad : (⟨B, O, none⟩ : Addr).add i = ⟨B, O + i, none⟩ := addr_add B O i
    exact ⟨B, O, _, rfl, by rw [← ad]; exact hc i (by omega)⟩

end
end Go.Proofs.Ytdaljohmfnfgiaa
/- Elements that are taken, and single operations of the laws. No condition. -/
namespace Go.Proofs.Ytdaljohmfnfgiaa
open Go Go.RowKit Go.Proofs.Ytdaljohmfnfgiaa.Canon
set_option maxRecDepth 20000

theorem cv53 {n : Nat} (hn : n < 256) {A : AHeap} : aconvert Try.prog 5 3 (.int .u8 (n : Int)) A = some (.int .i64 (n : Int), A) := by
  rw [cv_int un5 un3, IntWalk.i64_in _ (by omega)]
theorem errL_ok {m : Nat} {st ro : List Int} (h : 2 ≤ m ∧ m ≤ 65521) (h1 : st.length ≤ 60) (h2 : 1 ≤ ro.length) (h3 : ro.length ≤ 120) (h4 : st.all (inB m) = true) (h5 : ro.all (inB m) = true) : errL m st ro = 0 := by
  unfold errL
  rw [if_neg (by simp [badM]; omega), if_neg (by simp [badN]; omega), if_pos (by rw [h4, h5]; rfl)]
theorem atL_in {m : Int} {st ro : List Int} (h1 : st.all (inB m) = true) (h2 : ro.all (inB m) = true) (hro : 0 < ro.length) (n : Nat) : 0 ≤ atL st ro n ∧ atL st ro n < m := by
  have inB_getD : ∀ {l : List Int}, l.all (inB m) = true → ∀ {i : Nat}, i < l.length → 0 ≤ l.getD i 0 ∧ l.getD i 0 < m := fun {l} h {i} hi => by
    rw [List.all_eq_true] at h
    have := h l[i] (List.getElem_mem hi)
    simp only [inB, Bool.and_eq_true, decide_eq_true_eq] at this
    simpa [List.getD_eq_getElem?_getD, hi] using this
  unfold atL
  split
  · rename_i h; exact inB_getD h1 h
  · exact inB_getD h2 (Nat.mod_lt _ hro)
end Go.Proofs.Ytdaljohmfnfgiaa
/- What results come to where they are short; streams taken apart and woven again. No condition. -/
namespace Go.Proofs.Ytdaljohmfnfgiaa
open Go Go.RowKit Go.Proofs.Ytdaljohmfnfgiaa.Canon
set_option maxRecDepth 20000
theorem Red.dvd {s : Nat → Int} {a p N d : Nat} (h : Red s a p) (k : Per s N d) : p ∣ d := by
  have h1 : Per s (max a N) p := h.per.mono (Nat.le_max_left _ _)
  have h2 : Per s (max a N) d := k.mono (Nat.le_max_right _ _)
  have h3 := h.minP _ _ (h1.gcd h2)
  have h4 : Nat.gcd p d ∣ p := Nat.gcd_dvd_left _ _
  have h5 : Nat.gcd p d = p := Nat.le_antisymm (Nat.le_of_dvd h.per.pos h4) h3
  rw [← h5]
  exact Nat.gcd_dvd_right _ _
theorem Red.low {s : Nat → Int} {a p N d : Nat} (h : Red s a p) (k : Per s N d) : a ≤ N := h.minA N (k.down h.per)
theorem tp_ok {m : Int} {s : Nat → Int} {mm : Int} {L1 L2 : List Int} {ee : Int} {N d : Nat} (h : TP 0 m s mm L1 L2 ee) (k : Per s N d) (hN : N ≤ 60) (hd : d ≤ 120) : ∃ a p, Red s a p ∧ a ≤ N ∧ p ≤ d ∧ mm = m ∧ L1 = redS s a ∧ L2 = redR s a p ∧ ee = 0 := by
  rcases h with ⟨h0, _⟩ | ⟨_, a, p, hr, h⟩
  · exact absurd rfl h0
  · have ha := hr.low k
    have hp := hr.minP _ _ k
    rcases h with ⟨h1, _⟩ | ⟨_, h2, h3, h4, h5⟩
    · omega
    · exact ⟨a, p, hr, ha, hp, h2, h3, h4, h5⟩
theorem redS_inB {m : Nat} {s : Nat → Int} (h : ∀ n, 0 ≤ s n ∧ s n < (m : Int)) (a : Nat) : (redS s a).all (inB m) = true := by
  rw [List.all_eq_true]
  intro x hx
  obtain ⟨i, _, rfl⟩ := List.mem_map.1 hx
  simp [inB, (h i).1, (h i).2]
theorem redR_inB {m : Nat} {s : Nat → Int} (h : ∀ n, 0 ≤ s n ∧ s n < (m : Int)) (a p : Nat) : (redR s a p).all (inB m) = true := by
  rw [List.all_eq_true]
  intro x hx
  obtain ⟨i, _, rfl⟩ := List.mem_map.1 hx
  simp [inB, (h (a + i)).1, (h (a + i)).2]
theorem errL_red {m : Nat} {s : Nat → Int} {a p : Nat} (hm : 2 ≤ m ∧ m ≤ 65521) (h : ∀ n, 0 ≤ s n ∧ s n < (m : Int)) (ha : a ≤ 60) (hp : 1 ≤ p ∧ p ≤ 120) : errL m (redS s a) (redR s a p) = 0 :=
  errL_ok hm (by rw [redS_len]; exact ha) (by rw [redR_len]; exact hp.1) (by rw [redR_len]; exact hp.2) (redS_inB h a) (redR_inB h a p)
theorem errs_zero {m : Int} {l : List Las} (h : ∀ i, i < l.length → (l.getD i noLas).err = 0) (hm : ∀ i, i < l.length → (l.getD i noLas).m = m) : errs l l = 0 := by
  have key : ∀ {all l : List Las}, (∀ i, i < l.length → (l.getD i noLas).err = 0) → errs all l = clash (all.getD 0 noLas).m all := by
    intro all l
    induction l with
    | nil => intro _; rfl
    | cons x l ih =>
      intro h
      have h0 : x.err = 0 := h 0 (by simp)
      rw [errs, if_pos h0]
      exact ih fun i hi => by
        have := h (i + 1) (by simpa using hi)
        simpa using this
  rw [key h]
  unfold clash
  rw [if_pos]
  rw [List.all_eq_true]
  intro x hx
  obtain ⟨i, hi, rfl⟩ := List.getElem_of_mem hx
  have e : l.getD i noLas = l[i] := by simp [List.getD_eq_getElem?_getD, hi]
  have h1 := hm i hi
  have h0 := hm 0 (by omega)
  rw [e] at h1
  rw [h0, h1]
  exact decide_eq_true rfl
/-- The elements a step apart, from a place on. -/
def evS (s : Nat → Int) (step j : Nat) : Nat → Int := fun n => s (j + n * step)
/-- What is taken out. -/
structure TakE (m : Int) (s : Nat → Int) (step j N d : Nat) (x : Las) : Prop where
  m : x.m = m
  red : ∃ a p, Red (evS s step j) a p ∧ a ≤ N ∧ p ≤ d ∧ x.st = redS (evS s step j) a ∧ x.ro = redR (evS s step j) a p
theorem TakE.s {m : Int} {s : Nat → Int} {step j N d : Nat} {x : Las} (h : TakE m s step j N d x) : x.s = evS s step j := by
  obtain ⟨a, p, hr, _, _, e1, e2⟩ := h.red
  unfold Las.s
  rw [e1, e2]
  exact atL_redF hr.per
theorem TakE.err {m : Nat} {s : Nat → Int} {step j N d : Nat} {x : Las} (h : TakE m s step j N d x) (hm : 2 ≤ m ∧ m ≤ 65521) (hs : ∀ n, 0 ≤ s n ∧ s n < (m : Int)) (hN : N ≤ 60) (hd : d ≤ 120) : x.err = 0 := by
  obtain ⟨a, p, hr, ha, hp, e1, e2⟩ := h.red
  unfold Las.err
  rw [h.m, e1, e2]
  exact errL_red hm (fun n => hs _) (by omega) ⟨hr.per.pos, by omega⟩
theorem evS_per {s : Nat → Int} {step j N d : Nat} (hs : 1 ≤ step) (h : Per s N d) : Per (evS s step j) N d := ⟨h.pos, fun n hn => by
  have h1 : N * 1 ≤ n * step := Nat.mul_le_mul hn hs
  have := h.times step (j + n * step) (by omega)
  unfold evS
  rw [show j + (n + d) * step = j + n * step + step * d by rw [Nat.add_mul, Nat.mul_comm d step]; omega]
  exact this⟩
/-- All that is taken out is woven into the stream again. -/
theorem wov_back {m : Int} {s : Nat → Int} {step N d : Nat} {l : List Las} (hl : l.length = step) (h0 : 0 < step) (h : ∀ j, j < step → TakE m s step j N d (l.getD j noLas)) : wov l = s := funext fun n => by
  unfold wov
  rw [hl, (h _ (Nat.mod_lt _ h0)).s]
  unfold evS
  congr 1
  rw [Nat.mul_comm]
  exact Nat.mod_add_div n step
/-- The least common multiple of the least periods divides a period of the stream. -/
theorem lcm_back {s : Nat → Int} {step N d : Nat} {l : List Las} {fa fp : Nat → Nat} (hl : l.length = step) (hs : 1 ≤ step) (hr : RedL l fa fp) (h : ∀ j, j < step → (l.getD j noLas).s = evS s step j) (k : Per s N d) : lcmF fp l.length ≤ d :=
  Nat.le_of_dvd k.pos (lcmF_least fun j hj => by
    have h1 := (hr j hj).1
    rw [h j (by omega)] at h1
    exact h1.dvd (evS_per hs k))
end Go.Proofs.Ytdaljohmfnfgiaa

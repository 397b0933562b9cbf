/- Counting and finding in a stream, and their references. No condition. -/
import Derived.Test.YtdaljohmfnfgiaaXa
/- How many of the first elements are a number. No condition. -/
namespace Go.Proofs.Ytdaljohmfnfgiaa
open Go Go.RowKit Go.Proofs.Ytdaljohmfnfgiaa.Canon
set_option maxRecDepth 20000


section
variable {ρ : Operand → Value} {d : Option Tmp} {ty : TypeId} {pos : String} {af : Array Edge} {gu : Option (Nat × Bool)} {A : AHeap}
theorem so46_1 : sof Try.prog 46 1 = .mk (fun k => some (k * 3, 3)) 3 [.int .i64 0, .slice none 0 0, .slice none 0 0] := by kernel_rfl
theorem et46 : elemT Try.prog 46 = some 24 := by kernel_rfl
theorem bs46_1 {x : Tmp} (h : (ρ (.tmp x)).cells.size = 3) : aexec Try.prog ρ ⟨d, .buildSlice 46 1 #[(0, .tmp x)], ty, pos, af, gu⟩ A = some (.slice (some ⟨A.next, 0, none⟩) 1 1, A.push (.cells (ρ (.tmp x)).cells 24)) := by
  refine ae_buildSlice (r := (ρ (.tmp x)).cells.toList) (by rfl) so46_1 et46 rfl ?_
  simp [fbld, h]
end
theorem errs_one (x : Las) : errs [x] [x] = x.err := by
  unfold errs
  split
  · rename_i h
    rw [h]
    simp [errs, clash]
  · rfl
def rangeBad (m v n : Int) : Bool := decide (n < 0) || (decide (v < 0) || decide (m ≤ v))
def countN (v : Int) (n : Nat) (st ro : List Int) : Nat := if n ≤ st.length then cnt v (st.take n) else cnt v st + (n - st.length) / ro.length * cnt v ro + cnt v (ro.take ((n - st.length) % ro.length))
def countV (m v n : Int) (st ro : List Int) : Value := if errL m st ro = 0 then (if rangeBad m v n = true then .tuple #[.int .i64 0, .int .i64 3] else .tuple #[.int .i64 (countN v n.toNat st ro : Nat), .int .i64 0]) else .tuple #[.int .i64 0, .int .i64 (errL m st ro)]
theorem Ints.uniq {A : AHeap} {a : Option Addr} {lo hi lo' hi' : Nat} {l l' : List Int} (h : Ints A a lo hi l) (h' : Ints A a lo' hi' l') (hl : l.length = l'.length) : l = l' := by
  refine List.ext_getElem hl fun i h1 h2 => ?_
  obtain ⟨b, o, rfl, _, _, q⟩ := h i h1
  obtain ⟨b', o', e, _, _, q'⟩ := h' i h2
  cases e
  rw [q] at q'
  simp [List.getD_eq_getElem?_getD, h1, h2] at q'
  exact q'
/-- What counts. -/
def manyS (v0 : Int) (b : Nat) : Canon.Spec := fun _ xs A v A1 => ∃ (l : List Int) (a : Option Addr) (c : Nat), xs = [.slice a l.length c, .pointer (some ⟨b, 0, none⟩)] ∧ Ints A a 0 A.next l ∧ v = .int .i64 (cnt v0 l : Nat) ∧ A1 = A
theorem many_run {A : AHeap} {a : Option Addr} {c : Nat} {l : List Int} (hl : Ints A a 0 A.next l) (hlen : l.length < 4611686018427387904) {b : Nat} {v : Int} (hb : cl A b 0 = some (.int .i64 v)) {o : Oper} {f : Operand} {args : Array Operand} {T : Slots} (hop : callV o.op = some (f, args)) (hok : opnOK f = true ∧ args.toList.all opnOK = true)
    (hf : seval T f = .func (.func 96) #[] #[.pointer (some ⟨b, 0, none⟩)]) (hxs : args.toList.map (seval T) = [.slice a l.length c]) : opRun Try.prog (runS Try.prog (manyS v b)) (seval T) o A = some (.int .i64 (cnt v l : Nat), A) := by
  obtain ⟨w, A1, h1, l', a', c', e, h2, h3, h4⟩ := opRun_call (P := Try.prog) (S := manyS v b) hop hok hf (xs := [.slice a l.length c, .pointer (some ⟨b, 0, none⟩)]) (by rw [hxs]; rfl) ((many_ints hl hlen hb).mono fun w A1 h => ⟨l, a, c, rfl, hl, h.1, h.2⟩)
  have e1 := (List.cons.inj e).1
  injection e1 with ea en ec
  subst ea
  have := hl.uniq h2 en
  subst this
  rw [h1, h3, h4]
theorem count_len {v : Int} {n : Nat} {st ro : List Int} (h : ¬ n ≤ st.length) : (n - st.length) / ro.length * cnt v ro ≤ n - st.length ∧ cnt v st + (n - st.length) / ro.length * cnt v ro ≤ n ∧ cnt v st + (n - st.length) / ro.length * cnt v ro + cnt v (ro.take ((n - st.length) % ro.length)) ≤ n := by
  have h1 : (n - st.length) / ro.length * cnt v ro ≤ (n - st.length) / ro.length * ro.length := Nat.mul_le_mul_left _ (cnt_le v ro)
  have h2 := Nat.div_add_mod (n - st.length) ro.length
  rw [Nat.mul_comm] at h2
  have h3 := cnt_le v st
  have h4 := cnt_take_le v ro ((n - st.length) % ro.length)
  omega

theorem errL_pos {m : Int} {st ro : List Int} (h : errL m st ro = 0) : 0 < ro.length := by
  refine Nat.pos_of_ne_zero fun h0 => ?_
  have : badN st.length ro.length = true := by simp [badN, h0]
  unfold errL at h
  rw [if_pos this] at h
  split at h <;> cases h

theorem count_stream {A : AHeap} (hw : WF A) {m v n : Int} {sa ra : Option Addr} {sc rc : Nat} {st ro : List Int} (hs : Ints A sa 0 A.next st) (hr : Ints A ra 0 A.next ro) (ls : st.length < 4611686018427387904) (lr : ro.length < 4611686018427387904)
    (hss : Sl A sa 0) (hsr : Sl A ra 0) (hsc : st.length ≤ sc) (hrc : ro.length ≤ rc) (hn63 : n < 9223372036854775808) :
    Con Try.prog 54 [.agg #[.int .i64 m, .slice sa st.length sc, .slice ra ro.length rc], .int .i64 v, .int .i64 n] A (fun w A1 => w = countV m v n st ro ∧ Nx A.next A A1) := by
  refine con_of_rn hc Try.func54 rfl (Nat.le_of_ble_eq_true rfl) ?_
  obtain ⟨A1, e1, hx1, hn1, b0, b1, b2⟩ := box3 hw (.int .i64 m) (.slice sa st.length sc) (.slice ra ro.length rc) 24
  have hx2 : Nx A1.next A1 (A1.push (.cells #[.int .i64 v] 3)) := (Nx.refl hx1.wf _).push (Nat.le_refl _) _
  have b3 : cl (A1.push (.cells #[.int .i64 v] 3)) A1.next 0 = some (.int .i64 v) := by rw [cl_push_eq]; rfl
  have hn2 : (A1.push (.cells #[.int .i64 v] 3)).next = A1.next + 1 := rfl
  generalize e2 : A1.push (.cells #[.int .i64 v] 3) = A2 at hx2 b3 hn2
  have hx3 : Nx A2.next A2 (A2.push (.cells #[.int .i64 m, .slice sa st.length sc, .slice ra ro.length rc] 24)) := (Nx.refl hx2.wf _).push (Nat.le_refl _) _
  have c0 : cl (A2.push (.cells #[.int .i64 m, .slice sa st.length sc, .slice ra ro.length rc] 24)) A2.next 0 = some (.int .i64 m) := by rw [cl_push_eq]; rfl
  have c1 : cl (A2.push (.cells #[.int .i64 m, .slice sa st.length sc, .slice ra ro.length rc] 24)) A2.next 1 = some (.slice sa st.length sc) := by rw [cl_push_eq]; rfl
  have c2 : cl (A2.push (.cells #[.int .i64 m, .slice sa st.length sc, .slice ra ro.length rc] 24)) A2.next 2 = some (.slice ra ro.length rc) := by rw [cl_push_eq]; rfl
  have hn3 : (A2.push (.cells #[.int .i64 m, .slice sa st.length sc, .slice ra ro.length rc] 24)).next = A2.next + 1 := rfl
  generalize e3 : A2.push (.cells #[.int .i64 m, .slice sa st.length sc, .slice ra ro.length rc] 24) = A3 at hx3 c0 c1 c2 hn3
  have hxx : Nx A.next A A2 := hx1.trans (hx2.le hx1.next)
  have b0 := (hx2.cl (show A.next < A1.next by omega) 0).trans b0
  have b1 := (hx2.cl (show A.next < A1.next by omega) 1).trans b1
  have b2 := (hx2.cl (show A.next < A1.next by omega) 2).trans b2
  have hx03 : Nx A.next A A3 := hxx.trans (hx3.le hxx.next)
  have hrow : LRow A3 (some ⟨A2.next, 0, none⟩) [⟨m, sa, sc, st, ra, rc, ro⟩] := fun i hi => by
    have : i = 0 := by simp at hi; omega
    subst this
    exact ⟨⟨(hs.nx hx03 (Nat.le_refl _)).mono (Nat.le_refl _) hx03.next, (hr.nx hx03 (Nat.le_refl _)).mono (Nat.le_refl _) hx03.next, ls, lr⟩, _, _, rfl, by omega, c0, c1, c2⟩
  rw [s_in3]
  (repeat (first | refine Rn.seq hc ?_ | refine Rn.skip hc ?_ | refine Rn.block hc ?_ | refine Rn.inBlock hc ?_ | refine Rn.scope hc ?_ | refine Rn.inScope hc ?_))
  refine Rn.reg hc rfl ?_
  simp only [sev_tmp, sev_const, sg_eq, sg_ne, sp_n, Nat.reduceLT, ne_eq, Nat.reduceEqDiff, not_false_eq_true, gd, want_free, rops, fx, Option.some.injEq, exists_eq_left', Value.cells, show Try.f54.ntmps = 71 from rfl, e1, e2]
  (repeat (first | refine Rn.seq hc ?_ | refine Rn.skip hc ?_ | refine Rn.block hc ?_ | refine Rn.inBlock hc ?_ | refine Rn.scope hc ?_ | refine Rn.inScope hc ?_))
  refine Rn.region hc fun K hK => ?_
  refine Wo.run hc 2 rfl rfl rfl ?_
  simp only [List.drop_zero, List.take_succ_cons, List.take_zero, sev_tmp, sg_eq, sg_ne, sp_n, Nat.reduceLT, ne_eq, Nat.reduceEqDiff, not_false_eq_true, gd, want_free, rops, fx, ld, adr_p, cls, Nat.zero_add, Option.some.injEq, exists_eq_left', Value.cells, Nat.reduceAdd, tk24, b0, b1, b2, bs46_1, List.size_toArray, List.length_cons, List.length_nil, e3]
  refine Wo.call hc (by rfl) (by rfl) ⟨by rfl, by rfl⟩ (xs := [.slice (some ⟨A2.next, 0, none⟩) 1 1]) (by first | rfl | (simp only [sev_tmp, sev_const, sev_func, sg_eq, sg_ne, sp_n, sp_none, Nat.reduceLT, ne_eq, Nat.reduceEqDiff, not_false_eq_true, gd, nth, want_free, want_slot, beqB, List.map_cons, List.map_nil, Array.toList_empty, List.nil_append, List.append_nil, List.cons_append]; done) | (simp only [sev_tmp, sev_const, sev_func, sg_eq, sg_ne, sp_n, sp_none, Nat.reduceLT, ne_eq, Nat.reduceEqDiff, not_false_eq_true, gd, nth, want_free, want_slot, beqB, List.map_cons, List.map_nil, Array.toList_empty, List.nil_append, List.append_nil, List.cons_append]; rfl)) (by first | rfl | (simp only [sev_tmp, sev_const, sev_func, sg_eq, sg_ne, sp_n, sp_none, Nat.reduceLT, ne_eq, Nat.reduceEqDiff, not_false_eq_true, gd, nth, want_free, want_slot, beqB, List.map_cons, List.map_nil, Array.toList_empty, List.nil_append, List.append_nil, List.cons_append]; done) | (simp only [sev_tmp, sev_const, sev_func, sg_eq, sg_ne, sp_n, sp_none, Nat.reduceLT, ne_eq, Nat.reduceEqDiff, not_false_eq_true, gd, nth, want_free, want_slot, beqB, List.map_cons, List.map_nil, Array.toList_empty, List.nil_append, List.append_nil, List.cons_append]; rfl)) (by first | rfl | (simp only [sev_tmp, sev_const, sev_func, sg_eq, sg_ne, sp_n, sp_none, Nat.reduceLT, ne_eq, Nat.reduceEqDiff, not_false_eq_true, gd, nth, want_free, want_slot, beqB, List.map_cons, List.map_nil, Array.toList_empty, List.nil_append, List.append_nil, List.cons_append]; done) | (simp only [sev_tmp, sev_const, sev_func, sg_eq, sg_ne, sp_n, sp_none, Nat.reduceLT, ne_eq, Nat.reduceEqDiff, not_false_eq_true, gd, nth, want_free, want_slot, beqB, List.map_cons, List.map_nil, Array.toList_empty, List.nil_append, List.append_nil, List.cons_append]; rfl)) (Con.mono (check_all hx3.wf (l := [⟨m, sa, sc, st, ra, rc, ro⟩]) hrow (by simp)) ?_)
  rintro w A4 ⟨rfl, hx4⟩
  rw [errs_one, show (⟨m, sa, sc, st, ra, rc, ro⟩ : Las).err = errL m st ro from rfl]
  refine Wo.run hc 1 rfl rfl rfl ?_
  simp only [List.drop_zero, List.drop_succ_cons, List.take_succ_cons, List.take_zero, sev_tmp, sg_eq, sp_n, Nat.reduceLT, gd, want_free, rops, fx, Option.some.injEq, exists_eq_left', Nat.reduceAdd]
  refine Wo.done hc rfl (hK _ _ ?_)
  clear hK
  (repeat (first | refine Rn.seq hc ?_ | refine Rn.skip hc ?_ | refine Rn.block hc ?_ | refine Rn.inBlock hc ?_ | refine Rn.scope hc ?_ | refine Rn.inScope hc ?_))
  have b0 := (hx4.cl (show A.next < A3.next by omega) 0).trans ((hx3.cl (show A.next < A2.next by omega) 0).trans b0)
  have b1 := (hx4.cl (show A.next < A3.next by omega) 1).trans ((hx3.cl (show A.next < A2.next by omega) 1).trans b1)
  have b2 := (hx4.cl (show A.next < A3.next by omega) 2).trans ((hx3.cl (show A.next < A2.next by omega) 2).trans b2)
  have b3 := (hx4.cl (show A1.next < A3.next by omega) 0).trans ((hx3.cl (show A1.next < A2.next by omega) 0).trans b3)
  have hx04 : Nx A.next A A4 := hx03.trans (hx4.le hx03.next)
  have hs4 : Ints A4 sa 0 A4.next st := (hs.nx hx04 (Nat.le_refl _)).mono (Nat.le_refl _) hx04.next
  have hr4 : Ints A4 ra 0 A4.next ro := (hr.nx hx04 (Nat.le_refl _)).mono (Nat.le_refl _) hx04.next
  by_cases he : errL m st ro = 0
  · have hd : (!decide (errL m st ro = 0)) = false := by rw [decide_eq_true he]; rfl
    refine Rn.reg hc rfl ?_
    simp only [sev_tmp, sev_const, sg_eq, sp_n, Nat.reduceLT, gd, want_free, rops, fx, bin_neq, Option.some.injEq, exists_eq_left', hd]
    (repeat (first | refine Rn.seq hc ?_ | refine Rn.skip hc ?_ | refine Rn.block hc ?_ | refine Rn.inBlock hc ?_ | refine Rn.scope hc ?_ | refine Rn.inScope hc ?_))
    refine Rn.condE hc rfl ?_
    simp only [sev_tmp, sg_eq, sp_n, Nat.reduceLT, Value.bool.injEq, exists_eq_left']
    (repeat (first | refine Rn.seq hc ?_ | refine Rn.skip hc ?_ | refine Rn.block hc ?_ | refine Rn.inBlock hc ?_ | refine Rn.scope hc ?_ | refine Rn.inScope hc ?_))
    cases hb : rangeBad m v n with
    | true =>
      have hcv : countV m v n st ro = .tuple #[.int .i64 0, .int .i64 3] := by rw [countV, if_pos he, if_pos hb]
      rw [hcv]
      cases h1 : decide (n < 0) with
      | true =>
        refine Rn.reg hc rfl ?_
        simp only [sev_tmp, sev_const, sg_eq, sg_ne, sp_n, Nat.reduceLT, ne_eq, Nat.reduceEqDiff, not_false_eq_true, gd, nth, want_free, want_slot, beqB, rops, fx, pck, bin_lss, Option.some.injEq, exists_eq_left', h1]
        (repeat (first | refine Rn.seq hc ?_ | refine Rn.skip hc ?_ | refine Rn.block hc ?_ | refine Rn.inBlock hc ?_ | refine Rn.scope hc ?_ | refine Rn.inScope hc ?_))
        refine Rn.condE hc rfl ?_
        simp only [sev_tmp, sg_eq, sp_n, Nat.reduceLT, Value.bool.injEq, exists_eq_left']
        (repeat (first | refine Rn.seq hc ?_ | refine Rn.skip hc ?_ | refine Rn.block hc ?_ | refine Rn.inBlock hc ?_ | refine Rn.scope hc ?_ | refine Rn.inScope hc ?_))
        refine Rn.reg hc rfl ?_
        simp only [sev_const, gd, want_free, rops, fx, Option.some.injEq, exists_eq_left']
        (repeat (first | refine Rn.seq hc ?_ | refine Rn.skip hc ?_ | refine Rn.block hc ?_ | refine Rn.inBlock hc ?_ | refine Rn.scope hc ?_ | refine Rn.inScope hc ?_))
        exact Rn.ret (endQ_two rfl ⟨by simp only [sg_eq, sg_ne, sp_n, Nat.reduceLT, ne_eq, Nat.reduceEqDiff, not_false_eq_true], hx04⟩)
      | false =>
        cases h2 : decide (v < 0) with
        | true =>
          refine Rn.reg hc rfl ?_
          simp only [sev_tmp, sev_const, sg_eq, sg_ne, sp_n, Nat.reduceLT, ne_eq, Nat.reduceEqDiff, not_false_eq_true, gd, nth, want_free, want_slot, beqB, rops, fx, ld, pck, bin_lss, adr_p, Option.some.injEq, exists_eq_left', tk3, h1, h2, b3]
          (repeat (first | refine Rn.seq hc ?_ | refine Rn.skip hc ?_ | refine Rn.block hc ?_ | refine Rn.inBlock hc ?_ | refine Rn.scope hc ?_ | refine Rn.inScope hc ?_))
          refine Rn.condE hc rfl ?_
          simp only [sev_tmp, sg_eq, sp_n, Nat.reduceLT, Value.bool.injEq, exists_eq_left']
          (repeat (first | refine Rn.seq hc ?_ | refine Rn.skip hc ?_ | refine Rn.block hc ?_ | refine Rn.inBlock hc ?_ | refine Rn.scope hc ?_ | refine Rn.inScope hc ?_))
          refine Rn.reg hc rfl ?_
          simp only [sev_const, gd, want_free, rops, fx, Option.some.injEq, exists_eq_left']
          (repeat (first | refine Rn.seq hc ?_ | refine Rn.skip hc ?_ | refine Rn.block hc ?_ | refine Rn.inBlock hc ?_ | refine Rn.scope hc ?_ | refine Rn.inScope hc ?_))
          exact Rn.ret (endQ_two rfl ⟨by simp only [sg_eq, sg_ne, sp_n, Nat.reduceLT, ne_eq, Nat.reduceEqDiff, not_false_eq_true], hx04⟩)
        | false =>
          have h3 : decide (m ≤ v) = true := by simpa only [rangeBad, h1, h2, Bool.false_or] using hb
          refine Rn.reg hc rfl ?_
          simp only [sev_tmp, sev_const, sg_eq, sg_ne, sp_n, Nat.reduceLT, ne_eq, Nat.reduceEqDiff, not_false_eq_true, gd, nth, want_free, want_slot, beqB, rops, fx, ld, fad, pck, bin_lss, bin_geq, adr_p, Nat.add_zero, Option.some.injEq, exists_eq_left', tk3, fo24_0, h1, h2, h3, b3, b0]
          (repeat (first | refine Rn.seq hc ?_ | refine Rn.skip hc ?_ | refine Rn.block hc ?_ | refine Rn.inBlock hc ?_ | refine Rn.scope hc ?_ | refine Rn.inScope hc ?_))
          refine Rn.condE hc rfl ?_
          simp only [sev_tmp, sg_eq, sp_n, Nat.reduceLT, Value.bool.injEq, exists_eq_left']
          (repeat (first | refine Rn.seq hc ?_ | refine Rn.skip hc ?_ | refine Rn.block hc ?_ | refine Rn.inBlock hc ?_ | refine Rn.scope hc ?_ | refine Rn.inScope hc ?_))
          refine Rn.reg hc rfl ?_
          simp only [sev_const, gd, want_free, rops, fx, Option.some.injEq, exists_eq_left']
          (repeat (first | refine Rn.seq hc ?_ | refine Rn.skip hc ?_ | refine Rn.block hc ?_ | refine Rn.inBlock hc ?_ | refine Rn.scope hc ?_ | refine Rn.inScope hc ?_))
          exact Rn.ret (endQ_two rfl ⟨by simp only [sg_eq, sg_ne, sp_n, Nat.reduceLT, ne_eq, Nat.reduceEqDiff, not_false_eq_true], hx04⟩)
    | false =>
    have h1 : decide (n < 0) = false := by
      cases h : decide (n < 0) with
      | false => rfl
      | true => simp only [rangeBad, h, Bool.true_or] at hb; cases hb
    have h2 : decide (v < 0) = false := by
      cases h : decide (v < 0) with
      | false => rfl
      | true => simp only [rangeBad, h, Bool.true_or, Bool.or_true] at hb; cases hb
    have h3 : decide (m ≤ v) = false := by simpa only [rangeBad, h1, h2, Bool.false_or] using hb
    have hcv : countV m v n st ro = .tuple #[.int .i64 (countN v n.toNat st ro : Nat), .int .i64 0] := by rw [countV, if_pos he, if_neg (by rw [hb]; exact Bool.false_ne_true)]
    rw [hcv]
    refine Rn.reg hc rfl ?_
    simp only [sev_tmp, sev_const, sg_eq, sg_ne, sp_n, Nat.reduceLT, ne_eq, Nat.reduceEqDiff, not_false_eq_true, gd, nth, want_free, want_slot, beqB, rops, fx, ld, fad, pck, bin_lss, bin_geq, adr_p, Nat.add_zero, Option.some.injEq, exists_eq_left', tk3, fo24_0, h1, h2, h3, b3, b0]
    (repeat (first | refine Rn.seq hc ?_ | refine Rn.skip hc ?_ | refine Rn.block hc ?_ | refine Rn.inBlock hc ?_ | refine Rn.scope hc ?_ | refine Rn.inScope hc ?_))
    refine Rn.condE hc rfl ?_
    simp only [sev_tmp, sg_eq, sp_n, Nat.reduceLT, Value.bool.injEq, exists_eq_left']
    (repeat (first | refine Rn.seq hc ?_ | refine Rn.skip hc ?_ | refine Rn.block hc ?_ | refine Rn.inBlock hc ?_ | refine Rn.scope hc ?_ | refine Rn.inScope hc ?_))
    obtain ⟨N, rfl⟩ : ∃ N : Nat, n = N := ⟨n.toNat, by simp at h1; omega⟩
    rw [Int.toNat_natCast]
    refine Rn.reg hc rfl ?_
    simp only [sev_tmp, sg_eq, sg_ne, sp_n, Nat.reduceLT, ne_eq, Nat.reduceEqDiff, not_false_eq_true, gd, want_free, rops, fx, Option.some.injEq, exists_eq_left', ae_mkfunc1]
    (repeat (first | refine Rn.seq hc ?_ | refine Rn.skip hc ?_ | refine Rn.block hc ?_ | refine Rn.inBlock hc ?_ | refine Rn.scope hc ?_ | refine Rn.inScope hc ?_))
    by_cases hle : N ≤ st.length
    · have hd2 : decide ((N : Int) ≤ (st.length : Int)) = true := by simp; omega
      refine Rn.reg hc rfl ?_
      simp only [sev_tmp, sg_eq, sg_ne, sp_n, Nat.reduceLT, ne_eq, Nat.reduceEqDiff, not_false_eq_true, gd, want_free, rops, fx, ld, fad, lng, bin_leq, adr_p, Nat.zero_add, Option.some.injEq, exists_eq_left', tk22, fo24_1, un22, hd2, b1]
      (repeat (first | refine Rn.seq hc ?_ | refine Rn.skip hc ?_ | refine Rn.block hc ?_ | refine Rn.inBlock hc ?_ | refine Rn.scope hc ?_ | refine Rn.inScope hc ?_))
      refine Rn.condE hc rfl ?_
      simp only [sev_tmp, sg_eq, sp_n, Nat.reduceLT, Value.bool.injEq, exists_eq_left']
      (repeat (first | refine Rn.seq hc ?_ | refine Rn.skip hc ?_ | refine Rn.block hc ?_ | refine Rn.inBlock hc ?_ | refine Rn.scope hc ?_ | refine Rn.inScope hc ?_))
      obtain ⟨a', c', hasl, hi'⟩ := asl_hi hs4 (hss.nx hw hx04) hsc hle
      refine Rn.region hc fun K hK => ?_
      refine Wo.run hc 5 rfl rfl rfl ?_
      simp only [List.drop_zero, List.take_succ_cons, List.take_zero, sev_tmp, sg_eq, sg_ne, sp_n, Nat.reduceLT, ne_eq, Nat.reduceEqDiff, not_false_eq_true, gd, want_free, rops, fx, ld, fad, adr_p, Nat.zero_add, Option.some.injEq, exists_eq_left', tk22, fo24_1, b1, ae_asl_hi, hasl]
      refine Wo.call hc (by rfl) (by rfl) ⟨by rfl, by rfl⟩ (xs := [.slice a' (st.take N).length c', .pointer (some ⟨A1.next, 0, none⟩)]) (by first | rfl | (simp only [sev_tmp, sev_const, sev_func, sg_eq, sg_ne, sp_n, sp_none, Nat.reduceLT, ne_eq, Nat.reduceEqDiff, not_false_eq_true, gd, nth, want_free, want_slot, beqB, List.map_cons, List.map_nil, Array.toList_empty, List.nil_append, List.append_nil, List.cons_append]; done) | (simp only [sev_tmp, sev_const, sev_func, sg_eq, sg_ne, sp_n, sp_none, Nat.reduceLT, ne_eq, Nat.reduceEqDiff, not_false_eq_true, gd, nth, want_free, want_slot, beqB, List.map_cons, List.map_nil, Array.toList_empty, List.nil_append, List.append_nil, List.cons_append]; rfl)) (by first | rfl | (simp only [sev_tmp, sev_const, sev_func, sg_eq, sg_ne, sp_n, sp_none, Nat.reduceLT, ne_eq, Nat.reduceEqDiff, not_false_eq_true, gd, nth, want_free, want_slot, beqB, List.map_cons, List.map_nil, Array.toList_empty, List.nil_append, List.append_nil, List.cons_append]; done) | (simp only [sev_tmp, sev_const, sev_func, sg_eq, sg_ne, sp_n, sp_none, Nat.reduceLT, ne_eq, Nat.reduceEqDiff, not_false_eq_true, gd, nth, want_free, want_slot, beqB, List.map_cons, List.map_nil, Array.toList_empty, List.nil_append, List.append_nil, List.cons_append]; rfl)) (by first | rfl | (simp only [sev_tmp, sev_const, sev_func, sg_eq, sg_ne, sp_n, sp_none, Nat.reduceLT, ne_eq, Nat.reduceEqDiff, not_false_eq_true, gd, nth, want_free, want_slot, beqB, List.map_cons, List.map_nil, Array.toList_empty, List.nil_append, List.append_nil, List.cons_append]; done) | (simp only [sev_tmp, sev_const, sev_func, sg_eq, sg_ne, sp_n, sp_none, Nat.reduceLT, ne_eq, Nat.reduceEqDiff, not_false_eq_true, gd, nth, want_free, want_slot, beqB, List.map_cons, List.map_nil, Array.toList_empty, List.nil_append, List.append_nil, List.cons_append]; rfl)) (Con.mono (many_ints hi' (by simp; omega) b3) ?_)
      rintro w A5 ⟨rfl, rfl⟩
      refine Wo.run hc 2 rfl rfl rfl ?_
      simp only [List.drop_zero, List.drop_succ_cons, List.take_succ_cons, List.take_zero, sev_tmp, sev_const, sg_eq, sp_n, Nat.reduceLT, gd, want_free, rops, fx, Option.some.injEq, exists_eq_left', Nat.reduceAdd]
      refine Wo.done hc rfl (hK _ _ ?_)
      (repeat (first | refine Rn.seq hc ?_ | refine Rn.skip hc ?_ | refine Rn.block hc ?_ | refine Rn.inBlock hc ?_ | refine Rn.scope hc ?_ | refine Rn.inScope hc ?_))
      refine Rn.ret (endQ_two rfl ⟨?_, hx04⟩)
      simp only [sg_eq, sg_ne, sp_n, Nat.reduceLT, ne_eq, Nat.reduceEqDiff, not_false_eq_true]
      rw [countN, if_pos hle]
    · have hd2 : decide ((N : Int) ≤ (st.length : Int)) = false := by simp; omega
      refine Rn.reg hc rfl ?_
      simp only [sev_tmp, sg_eq, sg_ne, sp_n, Nat.reduceLT, ne_eq, Nat.reduceEqDiff, not_false_eq_true, gd, want_free, rops, fx, ld, fad, lng, bin_leq, adr_p, Nat.zero_add, Option.some.injEq, exists_eq_left', tk22, fo24_1, un22, hd2, b1]
      (repeat (first | refine Rn.seq hc ?_ | refine Rn.skip hc ?_ | refine Rn.block hc ?_ | refine Rn.inBlock hc ?_ | refine Rn.scope hc ?_ | refine Rn.inScope hc ?_))
      refine Rn.condE hc rfl ?_
      simp only [sev_tmp, sg_eq, sp_n, Nat.reduceLT, Value.bool.injEq, exists_eq_left']
      (repeat (first | refine Rn.seq hc ?_ | refine Rn.skip hc ?_ | refine Rn.block hc ?_ | refine Rn.inBlock hc ?_ | refine Rn.scope hc ?_ | refine Rn.inScope hc ?_))
      have hsub : IntKind.i64.wrap ((N : Int) - (st.length : Int)) = ((N - st.length : Nat) : Int) := by rw [IntWalk.i64_in _ (by omega)]; omega
      refine Rn.reg hc rfl ?_
      simp only [sev_tmp, sg_eq, sg_ne, sp_n, Nat.reduceLT, ne_eq, Nat.reduceEqDiff, not_false_eq_true, gd, want_free, rops, fx, ld, fad, lng, bin_sub, adr_p, Nat.zero_add, Option.some.injEq, exists_eq_left', tk22, fo24_1, un22, b1, hsub]
      (repeat (first | refine Rn.seq hc ?_ | refine Rn.skip hc ?_ | refine Rn.block hc ?_ | refine Rn.inBlock hc ?_ | refine Rn.scope hc ?_ | refine Rn.inScope hc ?_))
      have hro := errL_pos he
      obtain ⟨g1, g2, g3⟩ := count_len (v := v) (n := N) (st := st) (ro := ro) hle
      have hx04b := Nx.bump hx04 28
      have hs4b : Ints (bump A4 28) sa 0 (bump A4 28).next st := (hs.nx hx04b (Nat.le_refl _)).mono (Nat.le_refl _) hx04b.next
      have hr4b : Ints (bump A4 28) ra 0 (bump A4 28).next ro := (hr.nx hx04b (Nat.le_refl _)).mono (Nat.le_refl _) hx04b.next
      obtain ⟨a', c', hasl0, hi'⟩ := asl_hi (A := bump A4 28) (n := (N - st.length) % ro.length) hr4b (hsr.nx hw (Nx.bump hx04 28)) hrc (Nat.le_of_lt (Nat.mod_lt _ hro))
      obtain ⟨F, hF0, hF1, hF2, hF3, hF⟩ : ∃ F : AHeap → Prop, (∀ M, F M → cl M A1.next 0 = some (.int .i64 v)) ∧ (∀ M, F M → cl M A.next 1 = some (.slice sa st.length sc)) ∧ (∀ M, F M → cl M A.next 2 = some (.slice ra ro.length rc)) ∧ (∀ M, F M → asl Try.prog 22 (.slice ra ro.length rc) none (some (.int .i64 (((N - st.length) % ro.length : Nat) : Int))) none M = some (.slice a' (ro.take ((N - st.length) % ro.length)).length c', M)) ∧ F (bump A4 28) :=
        ⟨fun M => M = bump A4 28, fun M hM => by rw [hM]; exact b3, fun M hM => by rw [hM]; exact b1, fun M hM => by rw [hM]; exact b2, fun M hM => by rw [hM]; exact hasl0, rfl⟩
      have hquo : ∀ M, bin Try.prog .quo 3 (.int .i64 ((N - st.length : Nat) : Int)) (.int .i64 (ro.length : Int)) M = some (.int .i64 (((N - st.length) / ro.length : Nat) : Int), M) := fun M => by
        have e : Int.tdiv ((N - st.length : Nat) : Int) (ro.length : Int) = (((N - st.length) / ro.length : Nat) : Int) := rfl
        have hle2 := Nat.div_le_self (N - st.length) ro.length
        have hq : ∀ q : Nat, q ≤ N → IntKind.i64.wrap (q : Int) = q := fun q hq => IntWalk.i64_in _ ⟨by omega, by omega⟩
        rw [bin_quo _ _ _ _ (by omega), e, hq _ (Nat.le_trans hle2 (by omega))]
      have hrem : ∀ M, bin Try.prog .rem 3 (.int .i64 ((N - st.length : Nat) : Int)) (.int .i64 (ro.length : Int)) M = some (.int .i64 (((N - st.length) % ro.length : Nat) : Int), M) := fun M => by
        rw [bin_rem _ _ _ _ (by omega), IntWalk.rem_in _ _ (by omega)]
        rfl
      have hmul : IntKind.i64.wrap ((((N - st.length) / ro.length : Nat) : Int) * ((cnt v ro : Nat) : Int)) = (((N - st.length) / ro.length * cnt v ro : Nat) : Int) := by
        rw [← Int.natCast_mul, IntWalk.i64_in _ ⟨by omega, by omega⟩]
      have hadd : IntKind.i64.wrap (((cnt v st : Nat) : Int) + (((N - st.length) / ro.length * cnt v ro : Nat) : Int)) = ((cnt v st + (N - st.length) / ro.length * cnt v ro : Nat) : Int) := by
        rw [← Int.natCast_add, IntWalk.i64_in _ ⟨by omega, by omega⟩]
      have hadd2 : IntKind.i64.wrap (((cnt v st + (N - st.length) / ro.length * cnt v ro : Nat) : Int) + ((cnt v (ro.take ((N - st.length) % ro.length)) : Nat) : Int)) = ((cnt v st + (N - st.length) / ro.length * cnt v ro + cnt v (ro.take ((N - st.length) % ro.length)) : Nat) : Int) := by
        rw [← Int.natCast_add, IntWalk.i64_in _ ⟨by omega, by omega⟩]
      refine Rn.drawnF hc hx (manyS v A1.next) F (n := 3) (k := 28) (by kernel_rfl) (by kernel_rfl) (by rfl) ?_
      refine Dr.read (by first | rfl | kernel_rfl) (by first | rfl | (simp only [sev_tmp, sev_const, sev_func, sg_eq, sg_ne, sp_n, sp_none, Nat.reduceLT, ne_eq, Nat.reduceEqDiff, not_false_eq_true, gd, nth, want_free, want_slot, beqB, List.map_cons, List.map_nil, Array.toList_empty, List.nil_append, List.append_nil, List.cons_append, hF1 M hM]; done) | (simp only [sev_tmp, sev_const, sev_func, sg_eq, sg_ne, sp_n, sp_none, Nat.reduceLT, ne_eq, Nat.reduceEqDiff, not_false_eq_true, gd, nth, want_free, want_slot, beqB, List.map_cons, List.map_nil, Array.toList_empty, List.nil_append, List.append_nil, List.cons_append, hF1 M hM]; rfl)) (by assumption) (fun M hM => by simp only [sev_tmp, sg_eq, sg_ne, sp_n, Nat.reduceLT, ne_eq, Nat.reduceEqDiff, not_false_eq_true, fx] <;> rfl) (by rfl) (by first | exact VQ.int _ _ | exact VQ.bool _ | exact VQ.ptr _ _ | exact VQ.slice _ _ _ | exact VQ.func (by simp []) (by simp [vq_ptr]) | exact VQ.agg (by simp [vq_int, vq_ptr, vq_slice])) ?_
      refine Dr.read (by first | rfl | kernel_rfl) (by first | rfl | (simp only [sev_tmp, sev_const, sev_func, sg_eq, sg_ne, sp_n, sp_none, Nat.reduceLT, ne_eq, Nat.reduceEqDiff, not_false_eq_true, gd, nth, want_free, want_slot, beqB, List.map_cons, List.map_nil, Array.toList_empty, List.nil_append, List.append_nil, List.cons_append, hF1 M hM]; done) | (simp only [sev_tmp, sev_const, sev_func, sg_eq, sg_ne, sp_n, sp_none, Nat.reduceLT, ne_eq, Nat.reduceEqDiff, not_false_eq_true, gd, nth, want_free, want_slot, beqB, List.map_cons, List.map_nil, Array.toList_empty, List.nil_append, List.append_nil, List.cons_append, hF1 M hM]; rfl)) (by assumption) (fun M hM => by simp only [sev_tmp, sg_eq, sg_ne, sp_n, Nat.reduceLT, ne_eq, Nat.reduceEqDiff, not_false_eq_true, fx, fad, adr_p, Nat.zero_add, fo24_1] <;> rfl) (by rfl) (by first | exact VQ.int _ _ | exact VQ.bool _ | exact VQ.ptr _ _ | exact VQ.slice _ _ _ | exact VQ.func (by simp [vq_int, vq_ptr, vq_slice]) (by simp [vq_int, vq_ptr, vq_slice]) | exact VQ.agg (by simp [vq_int, vq_ptr, vq_slice])) ?_
      refine Dr.read (by first | rfl | kernel_rfl) (by first | rfl | (simp only [sev_tmp, sev_const, sev_func, sg_eq, sg_ne, sp_n, sp_none, Nat.reduceLT, ne_eq, Nat.reduceEqDiff, not_false_eq_true, gd, nth, want_free, want_slot, beqB, List.map_cons, List.map_nil, Array.toList_empty, List.nil_append, List.append_nil, List.cons_append, hF1 M hM]; done) | (simp only [sev_tmp, sev_const, sev_func, sg_eq, sg_ne, sp_n, sp_none, Nat.reduceLT, ne_eq, Nat.reduceEqDiff, not_false_eq_true, gd, nth, want_free, want_slot, beqB, List.map_cons, List.map_nil, Array.toList_empty, List.nil_append, List.append_nil, List.cons_append, hF1 M hM]; rfl)) (by assumption) (fun M hM => by simp only [sev_tmp, sg_eq, sp_n, Nat.reduceLT, fx, ld, adr_p, tk22, hF1 M hM] <;> rfl) (by rfl) (by first | exact VQ.int _ _ | exact VQ.bool _ | exact VQ.ptr _ _ | exact VQ.slice _ _ _ | exact VQ.func (by simp [vq_int, vq_ptr, vq_slice]) (by simp [vq_int, vq_ptr, vq_slice]) | exact VQ.agg (by simp [vq_int, vq_ptr, vq_slice])) ?_
      refine Dr.eff0 (by kernel_rfl) (by rfl) (by assumption) (by rfl) (many_run (A := bump A4 28) (c := sc) hs4b ls b3 (by rfl) ⟨by rfl, by rfl⟩ (by simp only [sev_tmp, sg_eq, sg_ne, sp_n, Nat.reduceLT, ne_eq, Nat.reduceEqDiff, not_false_eq_true]) (by simp only [sev_tmp, sg_eq, sp_n, Nat.reduceLT, List.map_cons, List.map_nil])) ?_
      refine Dr.read (by first | rfl | kernel_rfl) (by first | rfl | (simp only [sev_tmp, sev_const, sev_func, sg_eq, sg_ne, sp_n, sp_none, Nat.reduceLT, ne_eq, Nat.reduceEqDiff, not_false_eq_true, gd, nth, want_free, want_slot, beqB, List.map_cons, List.map_nil, Array.toList_empty, List.nil_append, List.append_nil, List.cons_append, hF2 M hM, hquo M]; done) | (simp only [sev_tmp, sev_const, sev_func, sg_eq, sg_ne, sp_n, sp_none, Nat.reduceLT, ne_eq, Nat.reduceEqDiff, not_false_eq_true, gd, nth, want_free, want_slot, beqB, List.map_cons, List.map_nil, Array.toList_empty, List.nil_append, List.append_nil, List.cons_append, hF2 M hM, hquo M]; rfl)) (by assumption) (fun M hM => by simp only [sev_tmp, sg_eq, sg_ne, sp_n, Nat.reduceLT, ne_eq, Nat.reduceEqDiff, not_false_eq_true, fx] <;> rfl) (by rfl) (by first | exact VQ.int _ _ | exact VQ.bool _ | exact VQ.ptr _ _ | exact VQ.slice _ _ _ | exact VQ.func (by simp [vq_int, vq_ptr, vq_slice]) (by simp [vq_int, vq_ptr, vq_slice]) | exact VQ.agg (by simp [vq_int, vq_ptr, vq_slice])) ?_
      refine Dr.read (by first | rfl | kernel_rfl) (by first | rfl | (simp only [sev_tmp, sev_const, sev_func, sg_eq, sg_ne, sp_n, sp_none, Nat.reduceLT, ne_eq, Nat.reduceEqDiff, not_false_eq_true, gd, nth, want_free, want_slot, beqB, List.map_cons, List.map_nil, Array.toList_empty, List.nil_append, List.append_nil, List.cons_append, hF2 M hM, hquo M]; done) | (simp only [sev_tmp, sev_const, sev_func, sg_eq, sg_ne, sp_n, sp_none, Nat.reduceLT, ne_eq, Nat.reduceEqDiff, not_false_eq_true, gd, nth, want_free, want_slot, beqB, List.map_cons, List.map_nil, Array.toList_empty, List.nil_append, List.append_nil, List.cons_append, hF2 M hM, hquo M]; rfl)) (by assumption) (fun M hM => by simp only [sev_tmp, sg_eq, sg_ne, sp_n, Nat.reduceLT, ne_eq, Nat.reduceEqDiff, not_false_eq_true, fx, fad, adr_p, Nat.zero_add, fo24_2] <;> rfl) (by rfl) (by first | exact VQ.int _ _ | exact VQ.bool _ | exact VQ.ptr _ _ | exact VQ.slice _ _ _ | exact VQ.func (by simp [vq_int, vq_ptr, vq_slice]) (by simp [vq_int, vq_ptr, vq_slice]) | exact VQ.agg (by simp [vq_int, vq_ptr, vq_slice])) ?_
      refine Dr.read (by first | rfl | kernel_rfl) (by first | rfl | (simp only [sev_tmp, sev_const, sev_func, sg_eq, sg_ne, sp_n, sp_none, Nat.reduceLT, ne_eq, Nat.reduceEqDiff, not_false_eq_true, gd, nth, want_free, want_slot, beqB, List.map_cons, List.map_nil, Array.toList_empty, List.nil_append, List.append_nil, List.cons_append, hF2 M hM, hquo M]; done) | (simp only [sev_tmp, sev_const, sev_func, sg_eq, sg_ne, sp_n, sp_none, Nat.reduceLT, ne_eq, Nat.reduceEqDiff, not_false_eq_true, gd, nth, want_free, want_slot, beqB, List.map_cons, List.map_nil, Array.toList_empty, List.nil_append, List.append_nil, List.cons_append, hF2 M hM, hquo M]; rfl)) (by assumption) (fun M hM => by simp only [sev_tmp, sg_eq, sp_n, Nat.reduceLT, fx, ld, adr_p, tk22, hF2 M hM] <;> rfl) (by rfl) (by first | exact VQ.int _ _ | exact VQ.bool _ | exact VQ.ptr _ _ | exact VQ.slice _ _ _ | exact VQ.func (by simp [vq_int, vq_ptr, vq_slice]) (by simp [vq_int, vq_ptr, vq_slice]) | exact VQ.agg (by simp [vq_int, vq_ptr, vq_slice])) ?_
      refine Dr.read (by first | rfl | kernel_rfl) (by first | rfl | (simp only [sev_tmp, sev_const, sev_func, sg_eq, sg_ne, sp_n, sp_none, Nat.reduceLT, ne_eq, Nat.reduceEqDiff, not_false_eq_true, gd, nth, want_free, want_slot, beqB, List.map_cons, List.map_nil, Array.toList_empty, List.nil_append, List.append_nil, List.cons_append, hF2 M hM, hquo M]; done) | (simp only [sev_tmp, sev_const, sev_func, sg_eq, sg_ne, sp_n, sp_none, Nat.reduceLT, ne_eq, Nat.reduceEqDiff, not_false_eq_true, gd, nth, want_free, want_slot, beqB, List.map_cons, List.map_nil, Array.toList_empty, List.nil_append, List.append_nil, List.cons_append, hF2 M hM, hquo M]; rfl)) (by assumption) (fun M hM => by simp only [sev_tmp, sg_eq, sp_n, Nat.reduceLT, fx, lng, un22] <;> rfl) (by rfl) (by first | exact VQ.int _ _ | exact VQ.bool _ | exact VQ.ptr _ _ | exact VQ.slice _ _ _ | exact VQ.func (by simp [vq_int, vq_ptr, vq_slice]) (by simp [vq_int, vq_ptr, vq_slice]) | exact VQ.agg (by simp [vq_int, vq_ptr, vq_slice])) ?_
      refine Dr.read (by first | rfl | kernel_rfl) (by first | rfl | (simp only [sev_tmp, sev_const, sev_func, sg_eq, sg_ne, sp_n, sp_none, Nat.reduceLT, ne_eq, Nat.reduceEqDiff, not_false_eq_true, gd, nth, want_free, want_slot, beqB, List.map_cons, List.map_nil, Array.toList_empty, List.nil_append, List.append_nil, List.cons_append, hF2 M hM, hquo M]; done) | (simp only [sev_tmp, sev_const, sev_func, sg_eq, sg_ne, sp_n, sp_none, Nat.reduceLT, ne_eq, Nat.reduceEqDiff, not_false_eq_true, gd, nth, want_free, want_slot, beqB, List.map_cons, List.map_nil, Array.toList_empty, List.nil_append, List.append_nil, List.cons_append, hF2 M hM, hquo M]; rfl)) (by assumption) (fun M hM => by simp only [sev_tmp, sg_eq, sg_ne, sp_n, Nat.reduceLT, ne_eq, Nat.reduceEqDiff, not_false_eq_true, fx, hquo M] <;> rfl) (by rfl) (by first | exact VQ.int _ _ | exact VQ.bool _ | exact VQ.ptr _ _ | exact VQ.slice _ _ _ | exact VQ.func (by simp [vq_int, vq_ptr, vq_slice]) (by simp [vq_int, vq_ptr, vq_slice]) | exact VQ.agg (by simp [vq_int, vq_ptr, vq_slice])) ?_
      refine Dr.read (by first | rfl | kernel_rfl) (by first | rfl | (simp only [sev_tmp, sev_const, sev_func, sg_eq, sg_ne, sp_n, sp_none, Nat.reduceLT, ne_eq, Nat.reduceEqDiff, not_false_eq_true, gd, nth, want_free, want_slot, beqB, List.map_cons, List.map_nil, Array.toList_empty, List.nil_append, List.append_nil, List.cons_append, hF2 M hM, hquo M]; done) | (simp only [sev_tmp, sev_const, sev_func, sg_eq, sg_ne, sp_n, sp_none, Nat.reduceLT, ne_eq, Nat.reduceEqDiff, not_false_eq_true, gd, nth, want_free, want_slot, beqB, List.map_cons, List.map_nil, Array.toList_empty, List.nil_append, List.append_nil, List.cons_append, hF2 M hM, hquo M]; rfl)) (by assumption) (fun M hM => by simp only [sev_tmp, sg_eq, sg_ne, sp_n, Nat.reduceLT, ne_eq, Nat.reduceEqDiff, not_false_eq_true, fx] <;> rfl) (by rfl) (by first | exact VQ.int _ _ | exact VQ.bool _ | exact VQ.ptr _ _ | exact VQ.slice _ _ _ | exact VQ.func (by simp []) (by simp [vq_ptr]) | exact VQ.agg (by simp [vq_int, vq_ptr, vq_slice])) ?_
      refine Dr.read (by first | rfl | kernel_rfl) (by first | rfl | (simp only [sev_tmp, sev_const, sev_func, sg_eq, sg_ne, sp_n, sp_none, Nat.reduceLT, ne_eq, Nat.reduceEqDiff, not_false_eq_true, gd, nth, want_free, want_slot, beqB, List.map_cons, List.map_nil, Array.toList_empty, List.nil_append, List.append_nil, List.cons_append, hF2 M hM, hquo M]; done) | (simp only [sev_tmp, sev_const, sev_func, sg_eq, sg_ne, sp_n, sp_none, Nat.reduceLT, ne_eq, Nat.reduceEqDiff, not_false_eq_true, gd, nth, want_free, want_slot, beqB, List.map_cons, List.map_nil, Array.toList_empty, List.nil_append, List.append_nil, List.cons_append, hF2 M hM, hquo M]; rfl)) (by assumption) (fun M hM => by simp only [sev_tmp, sg_eq, sg_ne, sp_n, Nat.reduceLT, ne_eq, Nat.reduceEqDiff, not_false_eq_true, fx, fad, adr_p, Nat.zero_add, fo24_2] <;> rfl) (by rfl) (by first | exact VQ.int _ _ | exact VQ.bool _ | exact VQ.ptr _ _ | exact VQ.slice _ _ _ | exact VQ.func (by simp [vq_int, vq_ptr, vq_slice]) (by simp [vq_int, vq_ptr, vq_slice]) | exact VQ.agg (by simp [vq_int, vq_ptr, vq_slice])) ?_
      refine Dr.read (by first | rfl | kernel_rfl) (by first | rfl | (simp only [sev_tmp, sev_const, sev_func, sg_eq, sg_ne, sp_n, sp_none, Nat.reduceLT, ne_eq, Nat.reduceEqDiff, not_false_eq_true, gd, nth, want_free, want_slot, beqB, List.map_cons, List.map_nil, Array.toList_empty, List.nil_append, List.append_nil, List.cons_append, hF2 M hM, hquo M]; done) | (simp only [sev_tmp, sev_const, sev_func, sg_eq, sg_ne, sp_n, sp_none, Nat.reduceLT, ne_eq, Nat.reduceEqDiff, not_false_eq_true, gd, nth, want_free, want_slot, beqB, List.map_cons, List.map_nil, Array.toList_empty, List.nil_append, List.append_nil, List.cons_append, hF2 M hM, hquo M]; rfl)) (by assumption) (fun M hM => by simp only [sev_tmp, sg_eq, sp_n, Nat.reduceLT, fx, ld, adr_p, tk22, hF2 M hM] <;> rfl) (by rfl) (by first | exact VQ.int _ _ | exact VQ.bool _ | exact VQ.ptr _ _ | exact VQ.slice _ _ _ | exact VQ.func (by simp [vq_int, vq_ptr, vq_slice]) (by simp [vq_int, vq_ptr, vq_slice]) | exact VQ.agg (by simp [vq_int, vq_ptr, vq_slice])) ?_
      refine Dr.eff0 (by kernel_rfl) (by rfl) (by assumption) (by rfl) (many_run (A := bump A4 28) (c := rc) hr4b lr b3 (by rfl) ⟨by rfl, by rfl⟩ (by simp only [sev_tmp, sg_eq, sg_ne, sp_n, Nat.reduceLT, ne_eq, Nat.reduceEqDiff, not_false_eq_true]) (by simp only [sev_tmp, sg_eq, sp_n, Nat.reduceLT, List.map_cons, List.map_nil])) ?_
      refine Dr.read (by first | rfl | kernel_rfl) (by first | rfl | (simp only [sev_tmp, sev_const, sev_func, sg_eq, sg_ne, sp_n, sp_none, Nat.reduceLT, ne_eq, Nat.reduceEqDiff, not_false_eq_true, gd, nth, want_free, want_slot, beqB, List.map_cons, List.map_nil, Array.toList_empty, List.nil_append, List.append_nil, List.cons_append, hF2 M hM, hrem M, hmul, hadd, ae_asl_hi, hF3 M hM]; done) | (simp only [sev_tmp, sev_const, sev_func, sg_eq, sg_ne, sp_n, sp_none, Nat.reduceLT, ne_eq, Nat.reduceEqDiff, not_false_eq_true, gd, nth, want_free, want_slot, beqB, List.map_cons, List.map_nil, Array.toList_empty, List.nil_append, List.append_nil, List.cons_append, hF2 M hM, hrem M, hmul, hadd, ae_asl_hi, hF3 M hM]; rfl)) (by assumption) (fun M hM => by simp only [sev_tmp, sg_eq, sg_ne, sp_n, Nat.reduceLT, ne_eq, Nat.reduceEqDiff, not_false_eq_true, fx, bin_mul, hmul] <;> rfl) (by rfl) (by first | exact VQ.int _ _ | exact VQ.bool _ | exact VQ.ptr _ _ | exact VQ.slice _ _ _ | exact VQ.func (by simp [vq_int, vq_ptr, vq_slice]) (by simp [vq_int, vq_ptr, vq_slice]) | exact VQ.agg (by simp [vq_int, vq_ptr, vq_slice])) ?_
      refine Dr.read (by first | rfl | kernel_rfl) (by first | rfl | (simp only [sev_tmp, sev_const, sev_func, sg_eq, sg_ne, sp_n, sp_none, Nat.reduceLT, ne_eq, Nat.reduceEqDiff, not_false_eq_true, gd, nth, want_free, want_slot, beqB, List.map_cons, List.map_nil, Array.toList_empty, List.nil_append, List.append_nil, List.cons_append, hF2 M hM, hrem M, hmul, hadd, ae_asl_hi, hF3 M hM]; done) | (simp only [sev_tmp, sev_const, sev_func, sg_eq, sg_ne, sp_n, sp_none, Nat.reduceLT, ne_eq, Nat.reduceEqDiff, not_false_eq_true, gd, nth, want_free, want_slot, beqB, List.map_cons, List.map_nil, Array.toList_empty, List.nil_append, List.append_nil, List.cons_append, hF2 M hM, hrem M, hmul, hadd, ae_asl_hi, hF3 M hM]; rfl)) (by assumption) (fun M hM => by simp only [sev_tmp, sg_eq, sg_ne, sp_n, Nat.reduceLT, ne_eq, Nat.reduceEqDiff, not_false_eq_true, fx, bin_add, hadd] <;> rfl) (by rfl) (by first | exact VQ.int _ _ | exact VQ.bool _ | exact VQ.ptr _ _ | exact VQ.slice _ _ _ | exact VQ.func (by simp [vq_int, vq_ptr, vq_slice]) (by simp [vq_int, vq_ptr, vq_slice]) | exact VQ.agg (by simp [vq_int, vq_ptr, vq_slice])) ?_
      refine Dr.read (by first | rfl | kernel_rfl) (by first | rfl | (simp only [sev_tmp, sev_const, sev_func, sg_eq, sg_ne, sp_n, sp_none, Nat.reduceLT, ne_eq, Nat.reduceEqDiff, not_false_eq_true, gd, nth, want_free, want_slot, beqB, List.map_cons, List.map_nil, Array.toList_empty, List.nil_append, List.append_nil, List.cons_append, hF2 M hM, hrem M, hmul, hadd, ae_asl_hi, hF3 M hM]; done) | (simp only [sev_tmp, sev_const, sev_func, sg_eq, sg_ne, sp_n, sp_none, Nat.reduceLT, ne_eq, Nat.reduceEqDiff, not_false_eq_true, gd, nth, want_free, want_slot, beqB, List.map_cons, List.map_nil, Array.toList_empty, List.nil_append, List.append_nil, List.cons_append, hF2 M hM, hrem M, hmul, hadd, ae_asl_hi, hF3 M hM]; rfl)) (by assumption) (fun M hM => by simp only [sev_tmp, sg_eq, sg_ne, sp_n, Nat.reduceLT, ne_eq, Nat.reduceEqDiff, not_false_eq_true, fx] <;> rfl) (by rfl) (by first | exact VQ.int _ _ | exact VQ.bool _ | exact VQ.ptr _ _ | exact VQ.slice _ _ _ | exact VQ.func (by simp []) (by simp [vq_ptr]) | exact VQ.agg (by simp [vq_int, vq_ptr, vq_slice])) ?_
      refine Dr.read (by first | rfl | kernel_rfl) (by first | rfl | (simp only [sev_tmp, sev_const, sev_func, sg_eq, sg_ne, sp_n, sp_none, Nat.reduceLT, ne_eq, Nat.reduceEqDiff, not_false_eq_true, gd, nth, want_free, want_slot, beqB, List.map_cons, List.map_nil, Array.toList_empty, List.nil_append, List.append_nil, List.cons_append, hF2 M hM, hrem M, hmul, hadd, ae_asl_hi, hF3 M hM]; done) | (simp only [sev_tmp, sev_const, sev_func, sg_eq, sg_ne, sp_n, sp_none, Nat.reduceLT, ne_eq, Nat.reduceEqDiff, not_false_eq_true, gd, nth, want_free, want_slot, beqB, List.map_cons, List.map_nil, Array.toList_empty, List.nil_append, List.append_nil, List.cons_append, hF2 M hM, hrem M, hmul, hadd, ae_asl_hi, hF3 M hM]; rfl)) (by assumption) (fun M hM => by simp only [sev_tmp, sg_eq, sg_ne, sp_n, Nat.reduceLT, ne_eq, Nat.reduceEqDiff, not_false_eq_true, fx, fad, adr_p, Nat.zero_add, fo24_2] <;> rfl) (by rfl) (by first | exact VQ.int _ _ | exact VQ.bool _ | exact VQ.ptr _ _ | exact VQ.slice _ _ _ | exact VQ.func (by simp [vq_int, vq_ptr, vq_slice]) (by simp [vq_int, vq_ptr, vq_slice]) | exact VQ.agg (by simp [vq_int, vq_ptr, vq_slice])) ?_
      refine Dr.read (by first | rfl | kernel_rfl) (by first | rfl | (simp only [sev_tmp, sev_const, sev_func, sg_eq, sg_ne, sp_n, sp_none, Nat.reduceLT, ne_eq, Nat.reduceEqDiff, not_false_eq_true, gd, nth, want_free, want_slot, beqB, List.map_cons, List.map_nil, Array.toList_empty, List.nil_append, List.append_nil, List.cons_append, hF2 M hM, hrem M, hmul, hadd, ae_asl_hi, hF3 M hM]; done) | (simp only [sev_tmp, sev_const, sev_func, sg_eq, sg_ne, sp_n, sp_none, Nat.reduceLT, ne_eq, Nat.reduceEqDiff, not_false_eq_true, gd, nth, want_free, want_slot, beqB, List.map_cons, List.map_nil, Array.toList_empty, List.nil_append, List.append_nil, List.cons_append, hF2 M hM, hrem M, hmul, hadd, ae_asl_hi, hF3 M hM]; rfl)) (by assumption) (fun M hM => by simp only [sev_tmp, sg_eq, sp_n, Nat.reduceLT, fx, ld, adr_p, tk22, hF2 M hM] <;> rfl) (by rfl) (by first | exact VQ.int _ _ | exact VQ.bool _ | exact VQ.ptr _ _ | exact VQ.slice _ _ _ | exact VQ.func (by simp [vq_int, vq_ptr, vq_slice]) (by simp [vq_int, vq_ptr, vq_slice]) | exact VQ.agg (by simp [vq_int, vq_ptr, vq_slice])) ?_
      refine Dr.read (by first | rfl | kernel_rfl) (by first | rfl | (simp only [sev_tmp, sev_const, sev_func, sg_eq, sg_ne, sp_n, sp_none, Nat.reduceLT, ne_eq, Nat.reduceEqDiff, not_false_eq_true, gd, nth, want_free, want_slot, beqB, List.map_cons, List.map_nil, Array.toList_empty, List.nil_append, List.append_nil, List.cons_append, hF2 M hM, hrem M, hmul, hadd, ae_asl_hi, hF3 M hM]; done) | (simp only [sev_tmp, sev_const, sev_func, sg_eq, sg_ne, sp_n, sp_none, Nat.reduceLT, ne_eq, Nat.reduceEqDiff, not_false_eq_true, gd, nth, want_free, want_slot, beqB, List.map_cons, List.map_nil, Array.toList_empty, List.nil_append, List.append_nil, List.cons_append, hF2 M hM, hrem M, hmul, hadd, ae_asl_hi, hF3 M hM]; rfl)) (by assumption) (fun M hM => by simp only [sev_tmp, sg_eq, sg_ne, sp_n, Nat.reduceLT, ne_eq, Nat.reduceEqDiff, not_false_eq_true, fx] <;> rfl) (by rfl) (by first | exact VQ.int _ _ | exact VQ.bool _ | exact VQ.ptr _ _ | exact VQ.slice _ _ _ | exact VQ.func (by simp [vq_int, vq_ptr, vq_slice]) (by simp [vq_int, vq_ptr, vq_slice]) | exact VQ.agg (by simp [vq_int, vq_ptr, vq_slice])) ?_
      refine Dr.read (by first | rfl | kernel_rfl) (by first | rfl | (simp only [sev_tmp, sev_const, sev_func, sg_eq, sg_ne, sp_n, sp_none, Nat.reduceLT, ne_eq, Nat.reduceEqDiff, not_false_eq_true, gd, nth, want_free, want_slot, beqB, List.map_cons, List.map_nil, Array.toList_empty, List.nil_append, List.append_nil, List.cons_append, hF2 M hM, hrem M, hmul, hadd, ae_asl_hi, hF3 M hM]; done) | (simp only [sev_tmp, sev_const, sev_func, sg_eq, sg_ne, sp_n, sp_none, Nat.reduceLT, ne_eq, Nat.reduceEqDiff, not_false_eq_true, gd, nth, want_free, want_slot, beqB, List.map_cons, List.map_nil, Array.toList_empty, List.nil_append, List.append_nil, List.cons_append, hF2 M hM, hrem M, hmul, hadd, ae_asl_hi, hF3 M hM]; rfl)) (by assumption) (fun M hM => by simp only [sev_tmp, sg_eq, sg_ne, sp_n, Nat.reduceLT, ne_eq, Nat.reduceEqDiff, not_false_eq_true, fx, fad, adr_p, Nat.zero_add, fo24_2] <;> rfl) (by rfl) (by first | exact VQ.int _ _ | exact VQ.bool _ | exact VQ.ptr _ _ | exact VQ.slice _ _ _ | exact VQ.func (by simp [vq_int, vq_ptr, vq_slice]) (by simp [vq_int, vq_ptr, vq_slice]) | exact VQ.agg (by simp [vq_int, vq_ptr, vq_slice])) ?_
      refine Dr.read (by first | rfl | kernel_rfl) (by first | rfl | (simp only [sev_tmp, sev_const, sev_func, sg_eq, sg_ne, sp_n, sp_none, Nat.reduceLT, ne_eq, Nat.reduceEqDiff, not_false_eq_true, gd, nth, want_free, want_slot, beqB, List.map_cons, List.map_nil, Array.toList_empty, List.nil_append, List.append_nil, List.cons_append, hF2 M hM, hrem M, hmul, hadd, ae_asl_hi, hF3 M hM]; done) | (simp only [sev_tmp, sev_const, sev_func, sg_eq, sg_ne, sp_n, sp_none, Nat.reduceLT, ne_eq, Nat.reduceEqDiff, not_false_eq_true, gd, nth, want_free, want_slot, beqB, List.map_cons, List.map_nil, Array.toList_empty, List.nil_append, List.append_nil, List.cons_append, hF2 M hM, hrem M, hmul, hadd, ae_asl_hi, hF3 M hM]; rfl)) (by assumption) (fun M hM => by simp only [sev_tmp, sg_eq, sp_n, Nat.reduceLT, fx, ld, adr_p, tk22, hF2 M hM] <;> rfl) (by rfl) (by first | exact VQ.int _ _ | exact VQ.bool _ | exact VQ.ptr _ _ | exact VQ.slice _ _ _ | exact VQ.func (by simp [vq_int, vq_ptr, vq_slice]) (by simp [vq_int, vq_ptr, vq_slice]) | exact VQ.agg (by simp [vq_int, vq_ptr, vq_slice])) ?_
      refine Dr.read (by first | rfl | kernel_rfl) (by first | rfl | (simp only [sev_tmp, sev_const, sev_func, sg_eq, sg_ne, sp_n, sp_none, Nat.reduceLT, ne_eq, Nat.reduceEqDiff, not_false_eq_true, gd, nth, want_free, want_slot, beqB, List.map_cons, List.map_nil, Array.toList_empty, List.nil_append, List.append_nil, List.cons_append, hF2 M hM, hrem M, hmul, hadd, ae_asl_hi, hF3 M hM]; done) | (simp only [sev_tmp, sev_const, sev_func, sg_eq, sg_ne, sp_n, sp_none, Nat.reduceLT, ne_eq, Nat.reduceEqDiff, not_false_eq_true, gd, nth, want_free, want_slot, beqB, List.map_cons, List.map_nil, Array.toList_empty, List.nil_append, List.append_nil, List.cons_append, hF2 M hM, hrem M, hmul, hadd, ae_asl_hi, hF3 M hM]; rfl)) (by assumption) (fun M hM => by simp only [sev_tmp, sg_eq, sp_n, Nat.reduceLT, fx, lng, un22] <;> rfl) (by rfl) (by first | exact VQ.int _ _ | exact VQ.bool _ | exact VQ.ptr _ _ | exact VQ.slice _ _ _ | exact VQ.func (by simp [vq_int, vq_ptr, vq_slice]) (by simp [vq_int, vq_ptr, vq_slice]) | exact VQ.agg (by simp [vq_int, vq_ptr, vq_slice])) ?_
      refine Dr.read (by first | rfl | kernel_rfl) (by first | rfl | (simp only [sev_tmp, sev_const, sev_func, sg_eq, sg_ne, sp_n, sp_none, Nat.reduceLT, ne_eq, Nat.reduceEqDiff, not_false_eq_true, gd, nth, want_free, want_slot, beqB, List.map_cons, List.map_nil, Array.toList_empty, List.nil_append, List.append_nil, List.cons_append, hF2 M hM, hrem M, hmul, hadd, ae_asl_hi, hF3 M hM]; done) | (simp only [sev_tmp, sev_const, sev_func, sg_eq, sg_ne, sp_n, sp_none, Nat.reduceLT, ne_eq, Nat.reduceEqDiff, not_false_eq_true, gd, nth, want_free, want_slot, beqB, List.map_cons, List.map_nil, Array.toList_empty, List.nil_append, List.append_nil, List.cons_append, hF2 M hM, hrem M, hmul, hadd, ae_asl_hi, hF3 M hM]; rfl)) (by assumption) (fun M hM => by simp only [sev_tmp, sg_eq, sg_ne, sp_n, Nat.reduceLT, ne_eq, Nat.reduceEqDiff, not_false_eq_true, fx, hrem M] <;> rfl) (by rfl) (by first | exact VQ.int _ _ | exact VQ.bool _ | exact VQ.ptr _ _ | exact VQ.slice _ _ _ | exact VQ.func (by simp [vq_int, vq_ptr, vq_slice]) (by simp [vq_int, vq_ptr, vq_slice]) | exact VQ.agg (by simp [vq_int, vq_ptr, vq_slice])) ?_
      refine Dr.read (by first | rfl | kernel_rfl) (by first | rfl | (simp only [sev_tmp, sev_const, sev_func, sg_eq, sg_ne, sp_n, sp_none, Nat.reduceLT, ne_eq, Nat.reduceEqDiff, not_false_eq_true, gd, nth, want_free, want_slot, beqB, List.map_cons, List.map_nil, Array.toList_empty, List.nil_append, List.append_nil, List.cons_append, hF2 M hM, hrem M, hmul, hadd, ae_asl_hi, hF3 M hM]; done) | (simp only [sev_tmp, sev_const, sev_func, sg_eq, sg_ne, sp_n, sp_none, Nat.reduceLT, ne_eq, Nat.reduceEqDiff, not_false_eq_true, gd, nth, want_free, want_slot, beqB, List.map_cons, List.map_nil, Array.toList_empty, List.nil_append, List.append_nil, List.cons_append, hF2 M hM, hrem M, hmul, hadd, ae_asl_hi, hF3 M hM]; rfl)) (by assumption) (fun M hM => by simp only [sev_tmp, sg_eq, sg_ne, sp_n, Nat.reduceLT, ne_eq, Nat.reduceEqDiff, not_false_eq_true, fx, ae_asl_hi, hF3 M hM] <;> rfl) (by rfl) (by first | exact VQ.int _ _ | exact VQ.bool _ | exact VQ.ptr _ _ | exact VQ.slice _ _ _ | exact VQ.func (by simp [vq_int, vq_ptr, vq_slice]) (by simp [vq_int, vq_ptr, vq_slice]) | exact VQ.agg (by simp [vq_int, vq_ptr, vq_slice])) ?_
      refine Dr.eff0 (by kernel_rfl) (by rfl) (by assumption) (by rfl) (many_run (A := bump A4 28) (c := c') hi' (by simp; omega) b3 (by rfl) ⟨by rfl, by rfl⟩ (by simp only [sev_tmp, sg_eq, sg_ne, sp_n, Nat.reduceLT, ne_eq, Nat.reduceEqDiff, not_false_eq_true]) (by simp only [sev_tmp, sg_eq, sp_n, Nat.reduceLT, List.map_cons, List.map_nil])) ?_
      refine Dr.read (by first | rfl | kernel_rfl) (by first | rfl | (simp only [sev_tmp, sev_const, sev_func, sg_eq, sg_ne, sp_n, sp_none, Nat.reduceLT, ne_eq, Nat.reduceEqDiff, not_false_eq_true, gd, nth, want_free, want_slot, beqB, List.map_cons, List.map_nil, Array.toList_empty, List.nil_append, List.append_nil, List.cons_append, hadd2]; done) | (simp only [sev_tmp, sev_const, sev_func, sg_eq, sg_ne, sp_n, sp_none, Nat.reduceLT, ne_eq, Nat.reduceEqDiff, not_false_eq_true, gd, nth, want_free, want_slot, beqB, List.map_cons, List.map_nil, Array.toList_empty, List.nil_append, List.append_nil, List.cons_append, hadd2]; rfl)) (by assumption) (fun M hM => by simp only [sev_tmp, sg_eq, sg_ne, sp_n, Nat.reduceLT, ne_eq, Nat.reduceEqDiff, not_false_eq_true, fx, bin_add, hadd2] <;> rfl) (by rfl) (by first | exact VQ.int _ _ | exact VQ.bool _ | exact VQ.ptr _ _ | exact VQ.slice _ _ _ | exact VQ.func (by simp [vq_int, vq_ptr, vq_slice]) (by simp [vq_int, vq_ptr, vq_slice]) | exact VQ.agg (by simp [vq_int, vq_ptr, vq_slice])) ?_
      refine Dr.read (by first | rfl | kernel_rfl) (by first | rfl | (simp only [sev_tmp, sev_const, sev_func, sg_eq, sg_ne, sp_n, sp_none, Nat.reduceLT, ne_eq, Nat.reduceEqDiff, not_false_eq_true, gd, nth, want_free, want_slot, beqB, List.map_cons, List.map_nil, Array.toList_empty, List.nil_append, List.append_nil, List.cons_append, hadd2]; done) | (simp only [sev_tmp, sev_const, sev_func, sg_eq, sg_ne, sp_n, sp_none, Nat.reduceLT, ne_eq, Nat.reduceEqDiff, not_false_eq_true, gd, nth, want_free, want_slot, beqB, List.map_cons, List.map_nil, Array.toList_empty, List.nil_append, List.append_nil, List.cons_append, hadd2]; rfl)) (by assumption) (fun M hM => by simp only [sev_tmp, sg_eq, sp_n, Nat.reduceLT, fx] <;> rfl) (by rfl) (by first | exact VQ.int _ _ | exact VQ.bool _ | exact VQ.ptr _ _ | exact VQ.slice _ _ _ | exact VQ.func (by simp [vq_int, vq_ptr, vq_slice]) (by simp [vq_int, vq_ptr, vq_slice]) | exact VQ.agg (by simp [vq_int, vq_ptr, vq_slice])) ?_
      refine Dr.read (by first | rfl | kernel_rfl) (by first | rfl | (simp only [sev_tmp, sev_const, sev_func, sg_eq, sg_ne, sp_n, sp_none, Nat.reduceLT, ne_eq, Nat.reduceEqDiff, not_false_eq_true, gd, nth, want_free, want_slot, beqB, List.map_cons, List.map_nil, Array.toList_empty, List.nil_append, List.append_nil, List.cons_append, hadd2]; done) | (simp only [sev_tmp, sev_const, sev_func, sg_eq, sg_ne, sp_n, sp_none, Nat.reduceLT, ne_eq, Nat.reduceEqDiff, not_false_eq_true, gd, nth, want_free, want_slot, beqB, List.map_cons, List.map_nil, Array.toList_empty, List.nil_append, List.append_nil, List.cons_append, hadd2]; rfl)) (by assumption) (fun M hM => by simp only [sev_const, fx] <;> rfl) (by rfl) (by first | exact VQ.int _ _ | exact VQ.bool _ | exact VQ.ptr _ _ | exact VQ.slice _ _ _ | exact VQ.func (by simp [vq_int, vq_ptr, vq_slice]) (by simp [vq_int, vq_ptr, vq_slice]) | exact VQ.agg (by simp [vq_int, vq_ptr, vq_slice])) ?_
      refine Dr.nil (by rfl) (fun M hM => by cases hM) hF ⟨bump A4 28, by rfl, ?_⟩
      (repeat (first | refine Rn.seq hc ?_ | refine Rn.skip hc ?_ | refine Rn.block hc ?_ | refine Rn.inBlock hc ?_ | refine Rn.scope hc ?_ | refine Rn.inScope hc ?_))
      refine Rn.ret (endQ_two rfl ⟨?_, hx04b⟩)
      simp only [sg_eq, sg_ne, sp_n, Nat.reduceLT, ne_eq, Nat.reduceEqDiff, not_false_eq_true]
      rw [countN, if_neg hle]
  · have hd : (!decide (errL m st ro = 0)) = true := by rw [decide_eq_false he]; rfl
    refine Rn.reg hc rfl ?_
    simp only [sev_tmp, sev_const, sg_eq, sp_n, Nat.reduceLT, gd, want_free, rops, fx, bin_neq, Option.some.injEq, exists_eq_left', hd]
    (repeat (first | refine Rn.seq hc ?_ | refine Rn.skip hc ?_ | refine Rn.block hc ?_ | refine Rn.inBlock hc ?_ | refine Rn.scope hc ?_ | refine Rn.inScope hc ?_))
    refine Rn.condE hc rfl ?_
    simp only [sev_tmp, sg_eq, sp_n, Nat.reduceLT, Value.bool.injEq, exists_eq_left']
    (repeat (first | refine Rn.seq hc ?_ | refine Rn.skip hc ?_ | refine Rn.block hc ?_ | refine Rn.inBlock hc ?_ | refine Rn.scope hc ?_ | refine Rn.inScope hc ?_))
    refine Rn.reg hc rfl ?_
    simp only [sev_tmp, sev_const, sg_eq, sg_ne, sp_n, Nat.reduceLT, ne_eq, Nat.reduceEqDiff, not_false_eq_true, gd, want_free, rops, fx, Option.some.injEq, exists_eq_left']
    (repeat (first | refine Rn.seq hc ?_ | refine Rn.skip hc ?_ | refine Rn.block hc ?_ | refine Rn.inBlock hc ?_ | refine Rn.scope hc ?_ | refine Rn.inScope hc ?_))
    refine Rn.ret (endQ_two rfl ⟨?_, hx04⟩)
    simp only [sg_eq, sg_ne, sp_n, Nat.reduceLT, ne_eq, Nat.reduceEqDiff, not_false_eq_true]
    rw [countV, if_neg he]
end Go.Proofs.Ytdaljohmfnfgiaa
/- How many of the first elements are a number, another time. No condition. -/
namespace Go.Proofs.Ytdaljohmfnfgiaa
open Go Go.RowKit Go.Proofs.Ytdaljohmfnfgiaa.Canon
set_option maxRecDepth 20000


section
variable {ρ : Operand → Value} {d : Option Tmp} {ty : TypeId} {pos : String} {af : Array Edge} {gu : Option (Nat × Bool)} {A : AHeap}
noncomputable def mnd (ats : Array TypeId) (ty : TypeId) (x y : Value) (A : AHeap) : Option (Value × AHeap) := match [x, y].all isNum with
  | true => arun Try.prog (Builtin.min_ ats ty #[x, y]) A
  | false => none
theorem mnd_int {ats : Array TypeId} {k : IntKind} {a b : Int} : mnd ats ty (.int k a) (.int k b) A = some (.int k (min a b), A) := by
  have : (if b < a then b else a) = min a b := by by_cases hh : b < a <;> simp [hh] <;> omega
  simp [mnd, isNum, Builtin.min_, Builtin.min2, this]
theorem ae_mnd {x y : Tmp} {ats : Array TypeId} : aexec Try.prog ρ ⟨d, .call ⟨.builtin .min, #[.tmp x, .tmp y], ats⟩, ty, pos, af, gu⟩ A = mnd ats ty (ρ (.tmp x)) (ρ (.tmp y)) A := by
  simp only [aexec, Op.operands, Call.operands]
  simp [opnOK, abuiltin, mnd]
  rfl
end
theorem cnt_take_mono (v : Int) (l : List Int) (i : Nat) : cnt v (l.take i) ≤ cnt v l := by
  have h := cnt_append v (l.take i) (l.drop i)
  rw [List.take_append_drop] at h
  omega
theorem cnt_take_min (v : Int) {l : List Int} {i r : Nat} (h : i < l.length) (hv : l.getD i 0 = v) : cnt v (l.take (min (i + 1) r)) = cnt v (l.take (min i r)) + (if i < r then 1 else 0) := by
  by_cases hr : i < r
  · rw [Nat.min_eq_left (by omega), Nat.min_eq_left (by omega), cnt_take v h, if_pos hv, if_pos hr]
  · rw [Nat.min_eq_right (by omega), Nat.min_eq_right (by omega), if_neg hr]
    rfl
theorem cnt_take_min_no (v : Int) {l : List Int} {i r : Nat} (h : i < l.length) (hv : l.getD i 0 ≠ v) : cnt v (l.take (min (i + 1) r)) = cnt v (l.take (min i r)) := by
  by_cases hr : i < r
  · rw [Nat.min_eq_left (by omega), Nat.min_eq_left (by omega), cnt_take v h, if_neg hv, Nat.add_zero]
  · rw [Nat.min_eq_right (by omega), Nat.min_eq_right (by omega)]

theorem count_ref {A : AHeap} (hw : WF A) {m v n : Int} {sa ra : Option Addr} {sc rc : Nat} {st ro : List Int} (hs : Ints A sa 0 A.next st) (hr : Ints A ra 0 A.next ro) (ls : st.length < 4611686018427387904) (lr : ro.length < 4611686018427387904) (hn63 : n < 9223372036854775808) :
    Con Try.prog 55 [.agg #[.int .i64 m, .slice sa st.length sc, .slice ra ro.length rc], .int .i64 v, .int .i64 n] A (fun w A1 => w = countV m v n st ro ∧ Nx A.next A A1) := by
  refine con_of_rn hc Try.func55 rfl (Nat.le_of_ble_eq_true rfl) ?_
  obtain ⟨A1, e1, hx1, hn1, b0, b1, b2⟩ := box3 hw (.int .i64 m) (.slice sa st.length sc) (.slice ra ro.length rc) 24
  have hs1 : Ints A1 sa 0 A1.next st := (hs.nx hx1 (Nat.le_refl _)).mono (Nat.le_refl _) hx1.next
  have hr1 : Ints A1 ra 0 A1.next ro := (hr.nx hx1 (Nat.le_refl _)).mono (Nat.le_refl _) hx1.next
  rw [s_in3]
  (repeat (first | refine Rn.seq hc ?_ | refine Rn.skip hc ?_ | refine Rn.block hc ?_ | refine Rn.inBlock hc ?_ | refine Rn.scope hc ?_ | refine Rn.inScope hc ?_))
  refine Rn.reg hc rfl ?_
  simp only [sev_tmp, sev_const, sg_eq, sg_ne, Nat.reduceLT, ne_eq, Nat.reduceEqDiff, not_false_eq_true, gd, want_free, rops, fx, Option.some.injEq, exists_eq_left', Value.cells, show Try.f55.ntmps = 88 from rfl, e1]
  (repeat (first | refine Rn.seq hc ?_ | refine Rn.skip hc ?_ | refine Rn.block hc ?_ | refine Rn.inBlock hc ?_ | refine Rn.scope hc ?_ | refine Rn.inScope hc ?_))
  refine Rn.region hc fun K hK => ?_
  refine Wo.run hc 1 rfl rfl rfl ?_
  simp only [List.drop_zero, List.take_succ_cons, List.take_zero, sev_tmp, sg_eq, sg_ne, sp_n, Nat.reduceLT, ne_eq, Nat.reduceEqDiff, not_false_eq_true, gd, want_free, rops, fx, ld, adr_p, cls, Nat.zero_add, Option.some.injEq, exists_eq_left', Nat.reduceAdd, tk24, b0, b1, b2]
  refine Wo.call hc (by rfl) (by rfl) ⟨by rfl, by rfl⟩ (xs := [.agg #[.int .i64 m, .slice sa st.length sc, .slice ra ro.length rc]]) (by first | rfl | (simp only [sev_tmp, sev_const, sev_func, sg_eq, sg_ne, sp_n, sp_none, Nat.reduceLT, ne_eq, Nat.reduceEqDiff, not_false_eq_true, gd, nth, want_free, want_slot, beqB, List.map_cons, List.map_nil, Array.toList_empty, List.nil_append, List.append_nil, List.cons_append]; done) | (simp only [sev_tmp, sev_const, sev_func, sg_eq, sg_ne, sp_n, sp_none, Nat.reduceLT, ne_eq, Nat.reduceEqDiff, not_false_eq_true, gd, nth, want_free, want_slot, beqB, List.map_cons, List.map_nil, Array.toList_empty, List.nil_append, List.append_nil, List.cons_append]; rfl)) (by first | rfl | (simp only [sev_tmp, sev_const, sev_func, sg_eq, sg_ne, sp_n, sp_none, Nat.reduceLT, ne_eq, Nat.reduceEqDiff, not_false_eq_true, gd, nth, want_free, want_slot, beqB, List.map_cons, List.map_nil, Array.toList_empty, List.nil_append, List.append_nil, List.cons_append]; done) | (simp only [sev_tmp, sev_const, sev_func, sg_eq, sg_ne, sp_n, sp_none, Nat.reduceLT, ne_eq, Nat.reduceEqDiff, not_false_eq_true, gd, nth, want_free, want_slot, beqB, List.map_cons, List.map_nil, Array.toList_empty, List.nil_append, List.append_nil, List.cons_append]; rfl)) (by first | rfl | (simp only [sev_tmp, sev_const, sev_func, sg_eq, sg_ne, sp_n, sp_none, Nat.reduceLT, ne_eq, Nat.reduceEqDiff, not_false_eq_true, gd, nth, want_free, want_slot, beqB, List.map_cons, List.map_nil, Array.toList_empty, List.nil_append, List.append_nil, List.cons_append]; done) | (simp only [sev_tmp, sev_const, sev_func, sg_eq, sg_ne, sp_n, sp_none, Nat.reduceLT, ne_eq, Nat.reduceEqDiff, not_false_eq_true, gd, nth, want_free, want_slot, beqB, List.map_cons, List.map_nil, Array.toList_empty, List.nil_append, List.append_nil, List.cons_append]; rfl)) (Con.mono (check_ref hx1.wf hs1 hr1 ls lr) ?_)
  rintro w A4 ⟨rfl, hx4⟩
  refine Wo.run hc 1 rfl rfl rfl ?_
  simp only [List.drop_zero, List.drop_succ_cons, List.take_succ_cons, List.take_zero, sev_tmp, sg_eq, sp_n, Nat.reduceLT, gd, want_free, rops, fx, Option.some.injEq, exists_eq_left', Nat.reduceAdd]
  refine Wo.done hc rfl (hK _ _ ?_)
  clear hK
  (repeat (first | refine Rn.seq hc ?_ | refine Rn.skip hc ?_ | refine Rn.block hc ?_ | refine Rn.inBlock hc ?_ | refine Rn.scope hc ?_ | refine Rn.inScope hc ?_))
  have b0 := (hx4.cl (show A.next < A1.next by omega) 0).trans b0
  have b1 := (hx4.cl (show A.next < A1.next by omega) 1).trans b1
  have b2 := (hx4.cl (show A.next < A1.next by omega) 2).trans b2
  have hx04 : Nx A.next A A4 := hx1.trans (hx4.le hx1.next)
  have hs4 : Ints A4 sa 0 A4.next st := (hs.nx hx04 (Nat.le_refl _)).mono (Nat.le_refl _) hx04.next
  have hr4 : Ints A4 ra 0 A4.next ro := (hr.nx hx04 (Nat.le_refl _)).mono (Nat.le_refl _) hx04.next
  by_cases he : errL m st ro = 0
  · have hd : (!decide (errL m st ro = 0)) = false := by rw [decide_eq_true he]; rfl
    refine Rn.reg hc rfl ?_
    simp only [sev_tmp, sev_const, sg_eq, sp_n, Nat.reduceLT, gd, want_free, rops, fx, bin_neq, Option.some.injEq, exists_eq_left', hd]
    (repeat (first | refine Rn.seq hc ?_ | refine Rn.skip hc ?_ | refine Rn.block hc ?_ | refine Rn.inBlock hc ?_ | refine Rn.scope hc ?_ | refine Rn.inScope hc ?_))
    refine Rn.condE hc rfl ?_
    simp only [sev_tmp, sg_eq, sp_n, Nat.reduceLT, Value.bool.injEq, exists_eq_left']
    (repeat (first | refine Rn.seq hc ?_ | refine Rn.skip hc ?_ | refine Rn.block hc ?_ | refine Rn.inBlock hc ?_ | refine Rn.scope hc ?_ | refine Rn.inScope hc ?_))
    cases hb : rangeBad m v n with
    | true =>
      have hcv : countV m v n st ro = .tuple #[.int .i64 0, .int .i64 3] := by rw [countV, if_pos he, if_pos hb]
      rw [hcv]
      cases h1 : decide (n < 0) with
      | true =>
        refine Rn.reg hc rfl ?_
        simp only [sev_tmp, sev_const, sg_eq, sg_ne, sp_n, Nat.reduceLT, ne_eq, Nat.reduceEqDiff, not_false_eq_true, gd, nth, want_free, want_slot, beqB, rops, fx, pck, bin_lss, Option.some.injEq, exists_eq_left', h1]
        (repeat (first | refine Rn.seq hc ?_ | refine Rn.skip hc ?_ | refine Rn.block hc ?_ | refine Rn.inBlock hc ?_ | refine Rn.scope hc ?_ | refine Rn.inScope hc ?_))
        refine Rn.condE hc rfl ?_
        simp only [sev_tmp, sg_eq, sp_n, Nat.reduceLT, Value.bool.injEq, exists_eq_left']
        (repeat (first | refine Rn.seq hc ?_ | refine Rn.skip hc ?_ | refine Rn.block hc ?_ | refine Rn.inBlock hc ?_ | refine Rn.scope hc ?_ | refine Rn.inScope hc ?_))
        refine Rn.reg hc rfl ?_
        simp only [sev_const, gd, want_free, rops, fx, Option.some.injEq, exists_eq_left']
        (repeat (first | refine Rn.seq hc ?_ | refine Rn.skip hc ?_ | refine Rn.block hc ?_ | refine Rn.inBlock hc ?_ | refine Rn.scope hc ?_ | refine Rn.inScope hc ?_))
        exact Rn.ret (endQ_two rfl ⟨by simp only [sg_eq, sg_ne, sp_n, Nat.reduceLT, ne_eq, Nat.reduceEqDiff, not_false_eq_true], hx04⟩)
      | false =>
        cases h2 : decide (v < 0) with
        | true =>
          refine Rn.reg hc rfl ?_
          simp only [sev_tmp, sev_const, sg_eq, sg_ne, sp_n, Nat.reduceLT, ne_eq, Nat.reduceEqDiff, not_false_eq_true, gd, nth, want_free, want_slot, beqB, rops, fx, pck, bin_lss, Option.some.injEq, exists_eq_left', h1, h2]
          (repeat (first | refine Rn.seq hc ?_ | refine Rn.skip hc ?_ | refine Rn.block hc ?_ | refine Rn.inBlock hc ?_ | refine Rn.scope hc ?_ | refine Rn.inScope hc ?_))
          refine Rn.condE hc rfl ?_
          simp only [sev_tmp, sg_eq, sp_n, Nat.reduceLT, Value.bool.injEq, exists_eq_left']
          (repeat (first | refine Rn.seq hc ?_ | refine Rn.skip hc ?_ | refine Rn.block hc ?_ | refine Rn.inBlock hc ?_ | refine Rn.scope hc ?_ | refine Rn.inScope hc ?_))
          refine Rn.reg hc rfl ?_
          simp only [sev_const, gd, want_free, rops, fx, Option.some.injEq, exists_eq_left']
          (repeat (first | refine Rn.seq hc ?_ | refine Rn.skip hc ?_ | refine Rn.block hc ?_ | refine Rn.inBlock hc ?_ | refine Rn.scope hc ?_ | refine Rn.inScope hc ?_))
          exact Rn.ret (endQ_two rfl ⟨by simp only [sg_eq, sg_ne, sp_n, Nat.reduceLT, ne_eq, Nat.reduceEqDiff, not_false_eq_true], hx04⟩)
        | false =>
          have h3 : decide (m ≤ v) = true := by simpa only [rangeBad, h1, h2, Bool.false_or] using hb
          refine Rn.reg hc rfl ?_
          simp only [sev_tmp, sev_const, sg_eq, sg_ne, sp_n, Nat.reduceLT, ne_eq, Nat.reduceEqDiff, not_false_eq_true, gd, nth, want_free, want_slot, beqB, rops, fx, ld, fad, pck, bin_lss, bin_geq, adr_p, Nat.add_zero, Option.some.injEq, exists_eq_left', tk3, fo24_0, h1, h2, h3, b0]
          (repeat (first | refine Rn.seq hc ?_ | refine Rn.skip hc ?_ | refine Rn.block hc ?_ | refine Rn.inBlock hc ?_ | refine Rn.scope hc ?_ | refine Rn.inScope hc ?_))
          refine Rn.condE hc rfl ?_
          simp only [sev_tmp, sg_eq, sp_n, Nat.reduceLT, Value.bool.injEq, exists_eq_left']
          (repeat (first | refine Rn.seq hc ?_ | refine Rn.skip hc ?_ | refine Rn.block hc ?_ | refine Rn.inBlock hc ?_ | refine Rn.scope hc ?_ | refine Rn.inScope hc ?_))
          refine Rn.reg hc rfl ?_
          simp only [sev_const, gd, want_free, rops, fx, Option.some.injEq, exists_eq_left']
          (repeat (first | refine Rn.seq hc ?_ | refine Rn.skip hc ?_ | refine Rn.block hc ?_ | refine Rn.inBlock hc ?_ | refine Rn.scope hc ?_ | refine Rn.inScope hc ?_))
          exact Rn.ret (endQ_two rfl ⟨by simp only [sg_eq, sg_ne, sp_n, Nat.reduceLT, ne_eq, Nat.reduceEqDiff, not_false_eq_true], hx04⟩)
    | false =>
    have h1 : decide (n < 0) = false := by
      cases h : decide (n < 0) with
      | false => rfl
      | true => simp only [rangeBad, h, Bool.true_or] at hb; cases hb
    have h2 : decide (v < 0) = false := by
      cases h : decide (v < 0) with
      | false => rfl
      | true => simp only [rangeBad, h, Bool.true_or, Bool.or_true] at hb; cases hb
    have h3 : decide (m ≤ v) = false := by simpa only [rangeBad, h1, h2, Bool.false_or] using hb
    have hcv : countV m v n st ro = .tuple #[.int .i64 (countN v n.toNat st ro : Nat), .int .i64 0] := by rw [countV, if_pos he, if_neg (by rw [hb]; exact Bool.false_ne_true)]
    rw [hcv]
    refine Rn.reg hc rfl ?_
    simp only [sev_tmp, sev_const, sg_eq, sg_ne, sp_n, Nat.reduceLT, ne_eq, Nat.reduceEqDiff, not_false_eq_true, gd, nth, want_free, want_slot, beqB, rops, fx, ld, fad, pck, bin_lss, bin_geq, adr_p, Nat.add_zero, Option.some.injEq, exists_eq_left', tk3, fo24_0, h1, h2, h3, b0]
    (repeat (first | refine Rn.seq hc ?_ | refine Rn.skip hc ?_ | refine Rn.block hc ?_ | refine Rn.inBlock hc ?_ | refine Rn.scope hc ?_ | refine Rn.inScope hc ?_))
    refine Rn.condE hc rfl ?_
    simp only [sev_tmp, sg_eq, sp_n, Nat.reduceLT, Value.bool.injEq, exists_eq_left']
    (repeat (first | refine Rn.seq hc ?_ | refine Rn.skip hc ?_ | refine Rn.block hc ?_ | refine Rn.inBlock hc ?_ | refine Rn.scope hc ?_ | refine Rn.inScope hc ?_))
    obtain ⟨N, rfl⟩ : ∃ N : Nat, n = N := ⟨n.toNat, by simp at h1; omega⟩
    rw [Int.toNat_natCast]
    refine Rn.reg hc rfl ?_
    simp only [sev_const, gd, want_free, rops, fx, Option.some.injEq, exists_eq_left']
    (repeat (first | refine Rn.seq hc ?_ | refine Rn.skip hc ?_ | refine Rn.block hc ?_ | refine Rn.inBlock hc ?_ | refine Rn.scope hc ?_ | refine Rn.inScope hc ?_))
    refine Rn.reg hc rfl ?_
    simp only [sev_const, gd, want_free, rops, fx, Option.some.injEq, exists_eq_left']
    (repeat (first | refine Rn.seq hc ?_ | refine Rn.skip hc ?_ | refine Rn.block hc ?_ | refine Rn.inBlock hc ?_ | refine Rn.scope hc ?_ | refine Rn.inScope hc ?_))
    refine Rn.loopI hc (I := fun k s A' => ∃ i, i ≤ min N st.length ∧ k = min N st.length - i ∧ A' = A4 ∧ s.n = 88 ∧ sget s 1 = .int .i64 v ∧ sget s 2 = .int .i64 (N : Int) ∧ sget s 3 = .pointer (some ⟨A.next, 0, none⟩) ∧ sget s 10 = .int .i64 (i : Int) ∧ sget s 9 = .int .i64 (cnt v (st.take i) : Nat))
      (n := min N st.length) ⟨0, by omega, rfl, rfl, by simp only [sp_n], by simp only [sg_eq, sg_ne, sp_n, Nat.reduceLT, ne_eq, Nat.reduceEqDiff, not_false_eq_true], by simp only [sg_eq, sg_ne, sp_n, Nat.reduceLT, ne_eq, Nat.reduceEqDiff, not_false_eq_true], by simp only [sg_eq, sg_ne, sp_n, Nat.reduceLT, ne_eq, Nat.reduceEqDiff, not_false_eq_true], by simp only [sg_eq, sp_n, Nat.reduceLT]; rfl, by simp only [sg_eq, sg_ne, sp_n, Nat.reduceLT, ne_eq, Nat.reduceEqDiff, not_false_eq_true]; rfl⟩ ?_
    rintro k s A' ⟨i, hi, rfl, rfl, hn, s1, s2, s3, s10, s9⟩ ih
    (repeat (first | refine Rn.seq hc ?_ | refine Rn.skip hc ?_ | refine Rn.block hc ?_ | refine Rn.inBlock hc ?_ | refine Rn.scope hc ?_ | refine Rn.inScope hc ?_))
    by_cases hlt : i < min N st.length
    · have hd : decide ((i : Int) < min (N : Int) (st.length : Int)) = true := by simp; omega
      obtain ⟨bb, o, rfl, _, _, hcl⟩ := hs4 i (by omega)
      refine Rn.reg hc rfl ?_
      simp only [sev_tmp, sg_eq, sg_ne, sp_n, Nat.reduceLT, ne_eq, Nat.reduceEqDiff, not_false_eq_true, gd, want_free, rops, fx, ld, fad, lng, bin_lss, adr_p, Nat.zero_add, Option.some.injEq, exists_eq_left', tk22, fo24_1, un22, hn, s2, s3, s10, b1, ae_mnd, mnd_int, hd]
      (repeat (first | refine Rn.seq hc ?_ | refine Rn.skip hc ?_ | refine Rn.block hc ?_ | refine Rn.inBlock hc ?_ | refine Rn.scope hc ?_ | refine Rn.inScope hc ?_))
      refine Rn.condE hc rfl ?_
      simp only [sev_tmp, sg_eq, sp_n, Nat.reduceLT, Value.bool.injEq, exists_eq_left', hn]
      (repeat (first | refine Rn.seq hc ?_ | refine Rn.skip hc ?_ | refine Rn.block hc ?_ | refine Rn.inBlock hc ?_ | refine Rn.scope hc ?_ | refine Rn.inScope hc ?_))
      by_cases hv : st.getD i 0 = v
      · have hd2 : decide (st.getD i 0 = v) = true := decide_eq_true hv
        refine Rn.reg hc rfl ?_
        simp only [sev_tmp, sg_eq, sg_ne, sp_n, Nat.reduceLT, ne_eq, Nat.reduceEqDiff, not_false_eq_true, gd, want_free, rops, fx, ld, fad, idx, bin_eql, adr_p, Nat.zero_add, Option.some.injEq, exists_eq_left', Nat.mul_one, tk3, tk22, fo24_1, eo22, hn, s1, s3, s10, b1, nlen_nat (show i < st.length by omega), hcl, hd2]
        (repeat (first | refine Rn.seq hc ?_ | refine Rn.skip hc ?_ | refine Rn.block hc ?_ | refine Rn.inBlock hc ?_ | refine Rn.scope hc ?_ | refine Rn.inScope hc ?_))
        refine Rn.condE hc rfl ?_
        simp only [sev_tmp, sg_eq, sp_n, Nat.reduceLT, Value.bool.injEq, exists_eq_left', hn]
        (repeat (first | refine Rn.seq hc ?_ | refine Rn.skip hc ?_ | refine Rn.block hc ?_ | refine Rn.inBlock hc ?_ | refine Rn.scope hc ?_ | refine Rn.inScope hc ?_))
        refine Rn.reg hc rfl ?_
        simp only [sev_tmp, sev_const, sg_eq, sg_ne, sp_n, Nat.reduceLT, ne_eq, Nat.reduceEqDiff, not_false_eq_true, gd, want_free, rops, fx, bin_add, Option.some.injEq, exists_eq_left', hn, s9, wrap_succ (show cnt v (st.take i) < 9223372036854775807 by have := cnt_take_le v st i; omega)]
        (repeat (first | refine Rn.seq hc ?_ | refine Rn.skip hc ?_ | refine Rn.block hc ?_ | refine Rn.inBlock hc ?_ | refine Rn.scope hc ?_ | refine Rn.inScope hc ?_))
        refine Rn.reg hc rfl ?_
        simp only [sev_tmp, sev_const, sg_eq, sg_ne, sp_n, Nat.reduceLT, ne_eq, Nat.reduceEqDiff, not_false_eq_true, gd, want_free, rops, fx, bin_add, Option.some.injEq, exists_eq_left', hn, s10, wrap_succ (show i < 9223372036854775807 by omega)]
        (repeat (first | refine Rn.seq hc ?_ | refine Rn.skip hc ?_ | refine Rn.block hc ?_ | refine Rn.inBlock hc ?_ | refine Rn.scope hc ?_ | refine Rn.inScope hc ?_))
        exact ih _ _ _ (by omega) ⟨i + 1, by omega, rfl, rfl, by simp only [sp_n, hn], by simp only [sg_ne, ne_eq, Nat.reduceEqDiff, not_false_eq_true, s1], by simp only [sg_ne, ne_eq, Nat.reduceEqDiff, not_false_eq_true, s2], by simp only [sg_ne, ne_eq, Nat.reduceEqDiff, not_false_eq_true, s3], by simp only [sg_eq, sp_n, Nat.reduceLT, hn], by simp only [sg_eq, sg_ne, sp_n, Nat.reduceLT, ne_eq, Nat.reduceEqDiff, not_false_eq_true, hn]; rw [cnt_take v (by omega), if_pos hv]⟩
      · have hd2 : decide (st.getD i 0 = v) = false := decide_eq_false hv
        refine Rn.reg hc rfl ?_
        simp only [sev_tmp, sg_eq, sg_ne, sp_n, Nat.reduceLT, ne_eq, Nat.reduceEqDiff, not_false_eq_true, gd, want_free, rops, fx, ld, fad, idx, bin_eql, adr_p, Nat.zero_add, Option.some.injEq, exists_eq_left', Nat.mul_one, tk3, tk22, fo24_1, eo22, hn, s1, s3, s10, b1, nlen_nat (show i < st.length by omega), hcl, hd2]
        (repeat (first | refine Rn.seq hc ?_ | refine Rn.skip hc ?_ | refine Rn.block hc ?_ | refine Rn.inBlock hc ?_ | refine Rn.scope hc ?_ | refine Rn.inScope hc ?_))
        refine Rn.condE hc rfl ?_
        simp only [sev_tmp, sg_eq, sp_n, Nat.reduceLT, Value.bool.injEq, exists_eq_left', hn]
        (repeat (first | refine Rn.seq hc ?_ | refine Rn.skip hc ?_ | refine Rn.block hc ?_ | refine Rn.inBlock hc ?_ | refine Rn.scope hc ?_ | refine Rn.inScope hc ?_))
        refine Rn.reg hc rfl ?_
        simp only [sev_tmp, sev_const, sg_eq, sg_ne, sp_n, Nat.reduceLT, ne_eq, Nat.reduceEqDiff, not_false_eq_true, gd, want_free, rops, fx, bin_add, Option.some.injEq, exists_eq_left', hn, s10, wrap_succ (show i < 9223372036854775807 by omega)]
        (repeat (first | refine Rn.seq hc ?_ | refine Rn.skip hc ?_ | refine Rn.block hc ?_ | refine Rn.inBlock hc ?_ | refine Rn.scope hc ?_ | refine Rn.inScope hc ?_))
        exact ih _ _ _ (by omega) ⟨i + 1, by omega, rfl, rfl, by simp only [sp_n, hn], by simp only [sg_ne, ne_eq, Nat.reduceEqDiff, not_false_eq_true, s1], by simp only [sg_ne, ne_eq, Nat.reduceEqDiff, not_false_eq_true, s2], by simp only [sg_ne, ne_eq, Nat.reduceEqDiff, not_false_eq_true, s3], by simp only [sg_eq, sp_n, Nat.reduceLT, hn], by simp only [sg_ne, ne_eq, Nat.reduceEqDiff, not_false_eq_true, s9]; rw [cnt_take v (by omega), if_neg hv, Nat.add_zero]⟩
    · have hd : decide ((i : Int) < min (N : Int) (st.length : Int)) = false := by simp; omega
      have hii : i = min N st.length := by omega
      subst hii
      refine Rn.reg hc rfl ?_
      simp only [sev_tmp, sg_eq, sg_ne, sp_n, Nat.reduceLT, ne_eq, Nat.reduceEqDiff, not_false_eq_true, gd, want_free, rops, fx, ld, fad, lng, bin_lss, adr_p, Nat.zero_add, Option.some.injEq, exists_eq_left', tk22, fo24_1, un22, hn, s2, s3, s10, b1, ae_mnd, mnd_int, hd]
      (repeat (first | refine Rn.seq hc ?_ | refine Rn.skip hc ?_ | refine Rn.block hc ?_ | refine Rn.inBlock hc ?_ | refine Rn.scope hc ?_ | refine Rn.inScope hc ?_))
      refine Rn.condE hc rfl ?_
      simp only [sev_tmp, sg_eq, sp_n, Nat.reduceLT, Value.bool.injEq, exists_eq_left', hn]
      (repeat (first | refine Rn.seq hc ?_ | refine Rn.skip hc ?_ | refine Rn.block hc ?_ | refine Rn.inBlock hc ?_ | refine Rn.scope hc ?_ | refine Rn.inScope hc ?_))
      refine Rn.exit hc rfl ?_
      (repeat (first | refine Rn.seq hc ?_ | refine Rn.skip hc ?_ | refine Rn.block hc ?_ | refine Rn.inBlock hc ?_ | refine Rn.scope hc ?_ | refine Rn.inScope hc ?_))
      clear ih
      by_cases hle : N ≤ st.length
      · have hd2 : decide ((N : Int) ≤ (st.length : Int)) = true := by simp; omega
        refine Rn.reg hc rfl ?_
        simp only [sev_tmp, sg_eq, sg_ne, sp_n, Nat.reduceLT, ne_eq, Nat.reduceEqDiff, not_false_eq_true, gd, want_free, rops, fx, ld, fad, lng, bin_leq, adr_p, Nat.zero_add, Option.some.injEq, exists_eq_left', tk22, fo24_1, un22, hn, s2, s3, b1, hd2]
        (repeat (first | refine Rn.seq hc ?_ | refine Rn.skip hc ?_ | refine Rn.block hc ?_ | refine Rn.inBlock hc ?_ | refine Rn.scope hc ?_ | refine Rn.inScope hc ?_))
        refine Rn.condE hc rfl ?_
        simp only [sev_tmp, sg_eq, sp_n, Nat.reduceLT, Value.bool.injEq, exists_eq_left', hn]
        (repeat (first | refine Rn.seq hc ?_ | refine Rn.skip hc ?_ | refine Rn.block hc ?_ | refine Rn.inBlock hc ?_ | refine Rn.scope hc ?_ | refine Rn.inScope hc ?_))
        refine Rn.reg hc rfl ?_
        simp only [sev_tmp, sev_const, sg_eq, sg_ne, sp_n, Nat.reduceLT, ne_eq, Nat.reduceEqDiff, not_false_eq_true, gd, want_free, rops, fx, Option.some.injEq, exists_eq_left', hn, s9]
        (repeat (first | refine Rn.seq hc ?_ | refine Rn.skip hc ?_ | refine Rn.block hc ?_ | refine Rn.inBlock hc ?_ | refine Rn.scope hc ?_ | refine Rn.inScope hc ?_))
        refine Rn.ret (endQ_two rfl ⟨?_, hx04⟩)
        simp only [sg_eq, sg_ne, sp_n, Nat.reduceLT, ne_eq, Nat.reduceEqDiff, not_false_eq_true, hn]
        rw [countN, if_pos hle, Nat.min_eq_left hle]
      · have hd2 : decide ((N : Int) ≤ (st.length : Int)) = false := by simp; omega
        rw [Nat.min_eq_right (by omega), List.take_length] at s9
        refine Rn.reg hc rfl ?_
        simp only [sev_tmp, sg_eq, sg_ne, sp_n, Nat.reduceLT, ne_eq, Nat.reduceEqDiff, not_false_eq_true, gd, want_free, rops, fx, ld, fad, lng, bin_leq, adr_p, Nat.zero_add, Option.some.injEq, exists_eq_left', tk22, fo24_1, un22, hn, s2, s3, b1, hd2]
        (repeat (first | refine Rn.seq hc ?_ | refine Rn.skip hc ?_ | refine Rn.block hc ?_ | refine Rn.inBlock hc ?_ | refine Rn.scope hc ?_ | refine Rn.inScope hc ?_))
        refine Rn.condE hc rfl ?_
        simp only [sev_tmp, sg_eq, sp_n, Nat.reduceLT, Value.bool.injEq, exists_eq_left', hn]
        (repeat (first | refine Rn.seq hc ?_ | refine Rn.skip hc ?_ | refine Rn.block hc ?_ | refine Rn.inBlock hc ?_ | refine Rn.scope hc ?_ | refine Rn.inScope hc ?_))
        have hsub : IntKind.i64.wrap ((N : Int) - (st.length : Int)) = ((N - st.length : Nat) : Int) := by rw [IntWalk.i64_in _ (by omega)]; omega
        refine Rn.reg hc rfl ?_
        simp only [sev_tmp, sg_eq, sg_ne, sp_n, Nat.reduceLT, ne_eq, Nat.reduceEqDiff, not_false_eq_true, gd, want_free, rops, fx, ld, fad, lng, bin_sub, adr_p, Nat.zero_add, Option.some.injEq, exists_eq_left', tk22, fo24_1, un22, hn, s2, s3, b1, hsub]
        (repeat (first | refine Rn.seq hc ?_ | refine Rn.skip hc ?_ | refine Rn.block hc ?_ | refine Rn.inBlock hc ?_ | refine Rn.scope hc ?_ | refine Rn.inScope hc ?_))
        refine Rn.reg hc rfl ?_
        simp only [sev_tmp, sev_const, sg_eq, sg_ne, sp_n, Nat.reduceLT, ne_eq, Nat.reduceEqDiff, not_false_eq_true, gd, want_free, rops, fx, ld, fad, lng, adr_p, Nat.zero_add, Option.some.injEq, exists_eq_left', tk22, fo24_2, un22, hn, s3, b2]
        (repeat (first | refine Rn.seq hc ?_ | refine Rn.skip hc ?_ | refine Rn.block hc ?_ | refine Rn.inBlock hc ?_ | refine Rn.scope hc ?_ | refine Rn.inScope hc ?_))
        have hro := errL_pos he
        obtain ⟨g1, g2, g3⟩ := count_len (v := v) (n := N) (st := st) (ro := ro) hle
        have hquo : ∀ M, bin Try.prog .quo 3 (.int .i64 ((N - st.length : Nat) : Int)) (.int .i64 (ro.length : Int)) M = some (.int .i64 (((N - st.length) / ro.length : Nat) : Int), M) := fun M => by
          have e : Int.tdiv ((N - st.length : Nat) : Int) (ro.length : Int) = (((N - st.length) / ro.length : Nat) : Int) := rfl
          have hle2 := Nat.div_le_self (N - st.length) ro.length
          have hq : ∀ q : Nat, q ≤ N → IntKind.i64.wrap (q : Int) = q := fun q hq => IntWalk.i64_in _ ⟨by omega, by omega⟩
          rw [bin_quo _ _ _ _ (by omega), e, hq _ (Nat.le_trans hle2 (by omega))]
        have hrem : ∀ M, bin Try.prog .rem 3 (.int .i64 ((N - st.length : Nat) : Int)) (.int .i64 (ro.length : Int)) M = some (.int .i64 (((N - st.length) % ro.length : Nat) : Int), M) := fun M => by
          rw [bin_rem _ _ _ _ (by omega), IntWalk.rem_in _ _ (by omega)]
          rfl
        have hcN : countN v N st ro = cnt v st + (N - st.length) / ro.length * cnt v ro + cnt v (ro.take ((N - st.length) % ro.length)) := by rw [countN, if_neg hle]
        have hbnd : ∀ i, cnt v st + (N - st.length) / ro.length * cnt v (ro.take i) + cnt v (ro.take (min i ((N - st.length) % ro.length))) ≤ N := fun i => by
          have u1 := Nat.mul_le_mul_left ((N - st.length) / ro.length) (cnt_take_mono v ro i)
          have u2 := cnt_take_mono v (ro.take ((N - st.length) % ro.length)) i
          rw [List.take_take] at u2
          omega
        have hrl : (N - st.length) % ro.length < ro.length := Nat.mod_lt _ hro
        have hgen : ∃ q r : Nat, (N - st.length) / ro.length = q ∧ (N - st.length) % ro.length = r := ⟨_, _, rfl, rfl⟩
        obtain ⟨q, r, hq, hrr⟩ := hgen
        rw [hq, hrr] at hcN
        simp only [hq, hrr] at hbnd hquo hrem hrl
        rw [hcN]
        refine Rn.loopI hc (I := fun k s A'' => ∃ i, i ≤ ro.length ∧ k = ro.length - i ∧ A'' = A' ∧ s.n = 88 ∧ sget s 1 = .int .i64 v ∧ sget s 2 = .int .i64 ((N - st.length : Nat) : Int) ∧ sget s 3 = .pointer (some ⟨A.next, 0, none⟩) ∧ sget s 60 = .slice ra ro.length rc ∧ sget s 61 = .int .i64 (ro.length : Int) ∧ sget s 62 = .int .i64 (i : Int) ∧ sget s 9 = .int .i64 (cnt v st + q * cnt v (ro.take i) + cnt v (ro.take (min i r)) : Nat))
          (n := ro.length) ⟨0, by omega, rfl, rfl, by simp only [sp_n, hn], by simp only [sg_ne, ne_eq, Nat.reduceEqDiff, not_false_eq_true, s1], by simp only [sg_eq, sg_ne, sp_n, Nat.reduceLT, ne_eq, Nat.reduceEqDiff, not_false_eq_true, hn], by simp only [sg_ne, ne_eq, Nat.reduceEqDiff, not_false_eq_true, s3], by simp only [sg_eq, sg_ne, sp_n, Nat.reduceLT, ne_eq, Nat.reduceEqDiff, not_false_eq_true, hn], by simp only [sg_eq, sg_ne, sp_n, Nat.reduceLT, ne_eq, Nat.reduceEqDiff, not_false_eq_true, hn], by simp only [sg_eq, sp_n, Nat.reduceLT, hn]; rfl, by simp only [sg_ne, ne_eq, Nat.reduceEqDiff, not_false_eq_true, s9]; simp [cnt]⟩ ?_
        clear hn s1 s2 s3 s10 s9 hd hd2
        clear s hi hlt
        rintro k s A'' ⟨i, hi, rfl, rfl, hn, s1, s2, s3, s60, s61, s62, s9⟩ ih
        (repeat (first | refine Rn.seq hc ?_ | refine Rn.skip hc ?_ | refine Rn.block hc ?_ | refine Rn.inBlock hc ?_ | refine Rn.scope hc ?_ | refine Rn.inScope hc ?_))
        by_cases hlt : i < ro.length
        · have hd : decide ((i : Int) < (ro.length : Int)) = true := by simp; omega
          obtain ⟨bb, o, rfl, _, _, hcl⟩ := hr4 i hlt
          have hb1 := hbnd (i + 1)
          refine Rn.reg hc rfl ?_
          simp only [sev_tmp, gd, want_free, rops, fx, bin_lss, Option.some.injEq, exists_eq_left', s61, s62, hd]
          (repeat (first | refine Rn.seq hc ?_ | refine Rn.skip hc ?_ | refine Rn.block hc ?_ | refine Rn.inBlock hc ?_ | refine Rn.scope hc ?_ | refine Rn.inScope hc ?_))
          refine Rn.condE hc rfl ?_
          simp only [sev_tmp, sg_eq, Nat.reduceLT, Value.bool.injEq, exists_eq_left', hn]
          (repeat (first | refine Rn.seq hc ?_ | refine Rn.skip hc ?_ | refine Rn.block hc ?_ | refine Rn.inBlock hc ?_ | refine Rn.scope hc ?_ | refine Rn.inScope hc ?_))
          refine Rn.reg hc rfl ?_
          simp only [sev_tmp, sg_eq, sg_ne, sp_n, Nat.reduceLT, ne_eq, Nat.reduceEqDiff, not_false_eq_true, gd, want_free, rops, fx, ld, idx, adr_p, Option.some.injEq, exists_eq_left', Nat.mul_one, tk3, eo22, hn, s60, s62, nlen_nat hlt, hcl]
          (repeat (first | refine Rn.seq hc ?_ | refine Rn.skip hc ?_ | refine Rn.block hc ?_ | refine Rn.inBlock hc ?_ | refine Rn.scope hc ?_ | refine Rn.inScope hc ?_))
          by_cases hv : ro.getD i 0 = v
          · have hd2 : (!decide (ro.getD i 0 = v)) = false := by rw [decide_eq_true hv]; rfl
            rw [cnt_take v hlt, if_pos hv, cnt_take_min v hlt hv, Nat.mul_add, Nat.mul_one] at hb1
            have hadd : IntKind.i64.wrap (((cnt v st + q * cnt v (ro.take i) + cnt v (ro.take (min i r)) : Nat) : Int) + (q : Int)) = ((cnt v st + (q * cnt v (ro.take i) + q) + cnt v (ro.take (min i r)) : Nat) : Int) := by
              rw [IntWalk.i64_in _ ⟨by omega, by omega⟩]; omega
            refine Rn.reg hc rfl ?_
            simp only [sev_tmp, sg_eq, sg_ne, sp_n, Nat.reduceLT, ne_eq, Nat.reduceEqDiff, not_false_eq_true, gd, want_free, rops, fx, bin_neq, Option.some.injEq, exists_eq_left', hn, s1, hd2]
            (repeat (first | refine Rn.seq hc ?_ | refine Rn.skip hc ?_ | refine Rn.block hc ?_ | refine Rn.inBlock hc ?_ | refine Rn.scope hc ?_ | refine Rn.inScope hc ?_))
            refine Rn.condE hc rfl ?_
            simp only [sev_tmp, sg_eq, sp_n, Nat.reduceLT, Value.bool.injEq, exists_eq_left', hn]
            (repeat (first | refine Rn.seq hc ?_ | refine Rn.skip hc ?_ | refine Rn.block hc ?_ | refine Rn.inBlock hc ?_ | refine Rn.scope hc ?_ | refine Rn.inScope hc ?_))
            refine Rn.reg hc rfl ?_
            simp only [sev_tmp, sg_eq, sg_ne, sp_n, Nat.reduceLT, ne_eq, Nat.reduceEqDiff, not_false_eq_true, gd, want_free, rops, fx, ld, fad, lng, bin_add, adr_p, Nat.zero_add, Option.some.injEq, exists_eq_left', tk22, fo24_2, un22, hn, s2, s3, b2, s9, hquo, hadd]
            (repeat (first | refine Rn.seq hc ?_ | refine Rn.skip hc ?_ | refine Rn.block hc ?_ | refine Rn.inBlock hc ?_ | refine Rn.scope hc ?_ | refine Rn.inScope hc ?_))
            by_cases hir : i < r
            · have hd3 : decide ((i : Int) < (r : Int)) = true := by simp; omega
              rw [if_pos hir] at hb1
              refine Rn.reg hc rfl ?_
              simp only [sev_tmp, sg_eq, sg_ne, sp_n, Nat.reduceLT, ne_eq, Nat.reduceEqDiff, not_false_eq_true, gd, want_free, rops, fx, ld, fad, lng, bin_lss, adr_p, Nat.zero_add, Option.some.injEq, exists_eq_left', tk22, fo24_2, un22, hn, s2, s3, b2, hrem, hd3]
              (repeat (first | refine Rn.seq hc ?_ | refine Rn.skip hc ?_ | refine Rn.block hc ?_ | refine Rn.inBlock hc ?_ | refine Rn.scope hc ?_ | refine Rn.inScope hc ?_))
              refine Rn.condE hc rfl ?_
              simp only [sev_tmp, sg_eq, sp_n, Nat.reduceLT, Value.bool.injEq, exists_eq_left', hn]
              (repeat (first | refine Rn.seq hc ?_ | refine Rn.skip hc ?_ | refine Rn.block hc ?_ | refine Rn.inBlock hc ?_ | refine Rn.scope hc ?_ | refine Rn.inScope hc ?_))
              refine Rn.reg hc rfl ?_
              simp only [sev_tmp, sev_const, sg_eq, sg_ne, sp_n, Nat.reduceLT, ne_eq, Nat.reduceEqDiff, not_false_eq_true, gd, want_free, rops, fx, bin_add, Option.some.injEq, exists_eq_left', hn, wrap_succ (show cnt v st + (q * cnt v (ro.take i) + q) + cnt v (ro.take (min i r)) < 9223372036854775807 by omega)]
              (repeat (first | refine Rn.seq hc ?_ | refine Rn.skip hc ?_ | refine Rn.block hc ?_ | refine Rn.inBlock hc ?_ | refine Rn.scope hc ?_ | refine Rn.inScope hc ?_))
              refine Rn.reg hc rfl ?_
              simp only [sev_tmp, sev_const, sg_eq, sg_ne, sp_n, Nat.reduceLT, ne_eq, Nat.reduceEqDiff, not_false_eq_true, gd, want_free, rops, fx, bin_add, Option.some.injEq, exists_eq_left', hn, s62, wrap_succ (show i < 9223372036854775807 by omega)]
              (repeat (first | refine Rn.seq hc ?_ | refine Rn.skip hc ?_ | refine Rn.block hc ?_ | refine Rn.inBlock hc ?_ | refine Rn.scope hc ?_ | refine Rn.inScope hc ?_))
              exact ih _ _ _ (by omega) ⟨i + 1, by omega, rfl, rfl, by simp only [sp_n, hn], by simp only [sg_ne, ne_eq, Nat.reduceEqDiff, not_false_eq_true, s1], by simp only [sg_ne, ne_eq, Nat.reduceEqDiff, not_false_eq_true, s2], by simp only [sg_ne, ne_eq, Nat.reduceEqDiff, not_false_eq_true, s3], by simp only [sg_ne, ne_eq, Nat.reduceEqDiff, not_false_eq_true, s60], by simp only [sg_ne, ne_eq, Nat.reduceEqDiff, not_false_eq_true, s61], by simp only [sg_eq, sp_n, Nat.reduceLT, hn], by simp only [sg_eq, sg_ne, sp_n, Nat.reduceLT, ne_eq, Nat.reduceEqDiff, not_false_eq_true, hn]; rw [cnt_take v hlt, if_pos hv, cnt_take_min v hlt hv, if_pos hir, Nat.mul_add, Nat.mul_one]; rfl⟩
            · have hd3 : decide ((i : Int) < (r : Int)) = false := by simp; omega
              refine Rn.reg hc rfl ?_
              simp only [sev_tmp, sg_eq, sg_ne, sp_n, Nat.reduceLT, ne_eq, Nat.reduceEqDiff, not_false_eq_true, gd, want_free, rops, fx, ld, fad, lng, bin_lss, adr_p, Nat.zero_add, Option.some.injEq, exists_eq_left', tk22, fo24_2, un22, hn, s2, s3, b2, hrem, hd3]
              (repeat (first | refine Rn.seq hc ?_ | refine Rn.skip hc ?_ | refine Rn.block hc ?_ | refine Rn.inBlock hc ?_ | refine Rn.scope hc ?_ | refine Rn.inScope hc ?_))
              refine Rn.condE hc rfl ?_
              simp only [sev_tmp, sg_eq, sp_n, Nat.reduceLT, Value.bool.injEq, exists_eq_left', hn]
              (repeat (first | refine Rn.seq hc ?_ | refine Rn.skip hc ?_ | refine Rn.block hc ?_ | refine Rn.inBlock hc ?_ | refine Rn.scope hc ?_ | refine Rn.inScope hc ?_))
              refine Rn.reg hc rfl ?_
              simp only [sev_tmp, sev_const, sg_eq, sg_ne, sp_n, Nat.reduceLT, ne_eq, Nat.reduceEqDiff, not_false_eq_true, gd, want_free, rops, fx, bin_add, Option.some.injEq, exists_eq_left', hn, s62, wrap_succ (show i < 9223372036854775807 by omega)]
              (repeat (first | refine Rn.seq hc ?_ | refine Rn.skip hc ?_ | refine Rn.block hc ?_ | refine Rn.inBlock hc ?_ | refine Rn.scope hc ?_ | refine Rn.inScope hc ?_))
              exact ih _ _ _ (by omega) ⟨i + 1, by omega, rfl, rfl, by simp only [sp_n, hn], by simp only [sg_ne, ne_eq, Nat.reduceEqDiff, not_false_eq_true, s1], by simp only [sg_ne, ne_eq, Nat.reduceEqDiff, not_false_eq_true, s2], by simp only [sg_ne, ne_eq, Nat.reduceEqDiff, not_false_eq_true, s3], by simp only [sg_ne, ne_eq, Nat.reduceEqDiff, not_false_eq_true, s60], by simp only [sg_ne, ne_eq, Nat.reduceEqDiff, not_false_eq_true, s61], by simp only [sg_eq, sp_n, Nat.reduceLT, hn], by simp only [sg_eq, sg_ne, sp_n, Nat.reduceLT, ne_eq, Nat.reduceEqDiff, not_false_eq_true, hn]; rw [cnt_take v hlt, if_pos hv, cnt_take_min v hlt hv, if_neg hir, Nat.mul_add, Nat.mul_one, Nat.add_zero]⟩
          · have hd2 : (!decide (ro.getD i 0 = v)) = true := by rw [decide_eq_false hv]; rfl
            refine Rn.reg hc rfl ?_
            simp only [sev_tmp, sg_eq, sg_ne, sp_n, Nat.reduceLT, ne_eq, Nat.reduceEqDiff, not_false_eq_true, gd, want_free, rops, fx, bin_neq, Option.some.injEq, exists_eq_left', hn, s1, hd2]
            (repeat (first | refine Rn.seq hc ?_ | refine Rn.skip hc ?_ | refine Rn.block hc ?_ | refine Rn.inBlock hc ?_ | refine Rn.scope hc ?_ | refine Rn.inScope hc ?_))
            refine Rn.condE hc rfl ?_
            simp only [sev_tmp, sg_eq, sp_n, Nat.reduceLT, Value.bool.injEq, exists_eq_left', hn]
            (repeat (first | refine Rn.seq hc ?_ | refine Rn.skip hc ?_ | refine Rn.block hc ?_ | refine Rn.inBlock hc ?_ | refine Rn.scope hc ?_ | refine Rn.inScope hc ?_))
            refine Rn.exit hc rfl ?_
            (repeat (first | refine Rn.seq hc ?_ | refine Rn.skip hc ?_ | refine Rn.block hc ?_ | refine Rn.inBlock hc ?_ | refine Rn.scope hc ?_ | refine Rn.inScope hc ?_))
            refine Rn.reg hc rfl ?_
            simp only [sev_tmp, sev_const, sg_eq, sg_ne, sp_n, Nat.reduceLT, ne_eq, Nat.reduceEqDiff, not_false_eq_true, gd, want_free, rops, fx, bin_add, Option.some.injEq, exists_eq_left', hn, s62, wrap_succ (show i < 9223372036854775807 by omega)]
            (repeat (first | refine Rn.seq hc ?_ | refine Rn.skip hc ?_ | refine Rn.block hc ?_ | refine Rn.inBlock hc ?_ | refine Rn.scope hc ?_ | refine Rn.inScope hc ?_))
            exact ih _ _ _ (by omega) ⟨i + 1, by omega, rfl, rfl, by simp only [sp_n, hn], by simp only [sg_ne, ne_eq, Nat.reduceEqDiff, not_false_eq_true, s1], by simp only [sg_ne, ne_eq, Nat.reduceEqDiff, not_false_eq_true, s2], by simp only [sg_ne, ne_eq, Nat.reduceEqDiff, not_false_eq_true, s3], by simp only [sg_ne, ne_eq, Nat.reduceEqDiff, not_false_eq_true, s60], by simp only [sg_ne, ne_eq, Nat.reduceEqDiff, not_false_eq_true, s61], by simp only [sg_eq, sp_n, Nat.reduceLT, hn], by simp only [sg_ne, ne_eq, Nat.reduceEqDiff, not_false_eq_true, s9]; rw [cnt_take v hlt, if_neg hv, cnt_take_min_no v hlt hv, Nat.add_zero]⟩
        · have hd : decide ((i : Int) < (ro.length : Int)) = false := by simp; omega
          have hil : i = ro.length := by omega
          subst hil
          rw [List.take_length, Nat.min_eq_right (by omega)] at s9
          refine Rn.reg hc rfl ?_
          simp only [sev_tmp, gd, want_free, rops, fx, bin_lss, Option.some.injEq, exists_eq_left', s61, s62, hd]
          (repeat (first | refine Rn.seq hc ?_ | refine Rn.skip hc ?_ | refine Rn.block hc ?_ | refine Rn.inBlock hc ?_ | refine Rn.scope hc ?_ | refine Rn.inScope hc ?_))
          refine Rn.condE hc rfl ?_
          simp only [sev_tmp, sg_eq, Nat.reduceLT, Value.bool.injEq, exists_eq_left', hn]
          (repeat (first | refine Rn.seq hc ?_ | refine Rn.skip hc ?_ | refine Rn.block hc ?_ | refine Rn.inBlock hc ?_ | refine Rn.scope hc ?_ | refine Rn.inScope hc ?_))
          refine Rn.exit hc rfl ?_
          (repeat (first | refine Rn.seq hc ?_ | refine Rn.skip hc ?_ | refine Rn.block hc ?_ | refine Rn.inBlock hc ?_ | refine Rn.scope hc ?_ | refine Rn.inScope hc ?_))
          refine Rn.reg hc rfl ?_
          simp only [sev_tmp, sev_const, sg_eq, sg_ne, sp_n, Nat.reduceLT, ne_eq, Nat.reduceEqDiff, not_false_eq_true, gd, want_free, rops, fx, Option.some.injEq, exists_eq_left', hn, s9]
          (repeat (first | refine Rn.seq hc ?_ | refine Rn.skip hc ?_ | refine Rn.block hc ?_ | refine Rn.inBlock hc ?_ | refine Rn.scope hc ?_ | refine Rn.inScope hc ?_))
          refine Rn.ret (endQ_two rfl ⟨?_, hx04⟩)
          simp only [sg_eq, sg_ne, sp_n, Nat.reduceLT, ne_eq, Nat.reduceEqDiff, not_false_eq_true, hn]
  · have hd : (!decide (errL m st ro = 0)) = true := by rw [decide_eq_false he]; rfl
    refine Rn.reg hc rfl ?_
    simp only [sev_tmp, sev_const, sg_eq, sp_n, Nat.reduceLT, gd, want_free, rops, fx, bin_neq, Option.some.injEq, exists_eq_left', hd]
    (repeat (first | refine Rn.seq hc ?_ | refine Rn.skip hc ?_ | refine Rn.block hc ?_ | refine Rn.inBlock hc ?_ | refine Rn.scope hc ?_ | refine Rn.inScope hc ?_))
    refine Rn.condE hc rfl ?_
    simp only [sev_tmp, sg_eq, sp_n, Nat.reduceLT, Value.bool.injEq, exists_eq_left']
    (repeat (first | refine Rn.seq hc ?_ | refine Rn.skip hc ?_ | refine Rn.block hc ?_ | refine Rn.inBlock hc ?_ | refine Rn.scope hc ?_ | refine Rn.inScope hc ?_))
    refine Rn.reg hc rfl ?_
    simp only [sev_tmp, sev_const, sg_eq, sg_ne, sp_n, Nat.reduceLT, ne_eq, Nat.reduceEqDiff, not_false_eq_true, gd, want_free, rops, fx, Option.some.injEq, exists_eq_left']
    (repeat (first | refine Rn.seq hc ?_ | refine Rn.skip hc ?_ | refine Rn.block hc ?_ | refine Rn.inBlock hc ?_ | refine Rn.scope hc ?_ | refine Rn.inScope hc ?_))
    refine Rn.ret (endQ_two rfl ⟨?_, hx04⟩)
    simp only [sg_eq, sg_ne, sp_n, Nat.reduceLT, ne_eq, Nat.reduceEqDiff, not_false_eq_true]
    rw [countV, if_neg he]
end Go.Proofs.Ytdaljohmfnfgiaa
/- Where some elements stand. No condition. -/
namespace Go.Proofs.Ytdaljohmfnfgiaa
open Go Go.RowKit Go.Proofs.Ytdaljohmfnfgiaa.Canon
set_option maxRecDepth 20000


def pre (p : Nat → Bool) : Nat → Bool
  | 0 => true
  | i + 1 => pre p i && p i
def ffrom (p : Nat → Bool) (n : Nat) : Nat → Option Nat
  | 0 => none
  | k + 1 => if p n = true then some n else ffrom p (n + 1) k
def isAt (st ro word : List Int) (n j : Nat) : Bool := decide (atL st ro (n + j) = word.getD j 0)
def mat (st ro word : List Int) (n : Nat) : Bool := pre (isAt st ro word n) word.length
def found : Option Nat → Value
  | some n => .tuple #[.int .i64 (n : Int), .int .i64 0]
  | none => .tuple #[.int .i64 0, .int .i64 6]
def findV (m : Int) (st ro word : List Int) : Value := if errL m st ro = 0 then (if 120 < word.length then .tuple #[.int .i64 0, .int .i64 2] else found (ffrom (mat st ro word) 0 (st.length + ro.length))) else .tuple #[.int .i64 0, .int .i64 (errL m st ro)]
theorem errL_len {m : Int} {st ro : List Int} (h : errL m st ro = 0) : st.length ≤ 60 ∧ ro.length ≤ 120 := by
  unfold errL at h
  split at h
  · cases h
  · split at h
    · cases h
    · rename_i h2
      simp [badN] at h2
      omega
theorem ffrom_step (p : Nat → Bool) {i L : Nat} (h : i < L) : ffrom p i (L - i) = if p i = true then some i else ffrom p (i + 1) (L - (i + 1)) := by
  rw [show L - i = L - (i + 1) + 1 by omega, ffrom]

theorem find_ref {A : AHeap} (hw : WF A) {m : Int} {sa ra wa : Option Addr} {sc rc wc : Nat} {st ro word : List Int} (hs : Ints A sa 0 A.next st) (hr : Ints A ra 0 A.next ro) (hwd : Ints A wa 0 A.next word) (ls : st.length < 4611686018427387904) (lr : ro.length < 4611686018427387904) (lw : word.length < 4611686018427387904) :
    Con Try.prog 53 [.agg #[.int .i64 m, .slice sa st.length sc, .slice ra ro.length rc], .slice wa word.length wc] A (fun w A1 => w = findV m st ro word ∧ Nx A.next A A1) := by
  refine con_of_rn hc Try.func53 rfl (Nat.le_of_ble_eq_true rfl) ?_
  obtain ⟨A1, e1, hx1, hn1, b0, b1, b2⟩ := box3 hw (.int .i64 m) (.slice sa st.length sc) (.slice ra ro.length rc) 24
  have hs1 : Ints A1 sa 0 A1.next st := (hs.nx hx1 (Nat.le_refl _)).mono (Nat.le_refl _) hx1.next
  have hr1 : Ints A1 ra 0 A1.next ro := (hr.nx hx1 (Nat.le_refl _)).mono (Nat.le_refl _) hx1.next
  rw [s_in2]
  (repeat (first | refine Rn.seq hc ?_ | refine Rn.skip hc ?_ | refine Rn.block hc ?_ | refine Rn.inBlock hc ?_ | refine Rn.scope hc ?_ | refine Rn.inScope hc ?_))
  refine Rn.reg hc rfl ?_
  simp only [sev_tmp, sev_const, sg_eq, sg_ne, Nat.reduceLT, ne_eq, Nat.reduceEqDiff, not_false_eq_true, gd, want_free, rops, fx, Option.some.injEq, exists_eq_left', Value.cells, show Try.f53.ntmps = 50 from rfl, e1]
  (repeat (first | refine Rn.seq hc ?_ | refine Rn.skip hc ?_ | refine Rn.block hc ?_ | refine Rn.inBlock hc ?_ | refine Rn.scope hc ?_ | refine Rn.inScope hc ?_))
  refine Rn.region hc fun K hK => ?_
  refine Wo.run hc 1 rfl rfl rfl ?_
  simp only [List.drop_zero, List.take_succ_cons, List.take_zero, sev_tmp, sg_eq, sg_ne, sp_n, Nat.reduceLT, ne_eq, Nat.reduceEqDiff, not_false_eq_true, gd, want_free, rops, fx, ld, adr_p, cls, Nat.zero_add, Option.some.injEq, exists_eq_left', Nat.reduceAdd, tk24, b0, b1, b2]
  refine Wo.call hc (by rfl) (by rfl) ⟨by rfl, by rfl⟩ (xs := [.agg #[.int .i64 m, .slice sa st.length sc, .slice ra ro.length rc]]) (by first | rfl | (simp only [sev_tmp, sev_const, sev_func, sg_eq, sg_ne, sp_n, sp_none, Nat.reduceLT, ne_eq, Nat.reduceEqDiff, not_false_eq_true, gd, nth, want_free, want_slot, beqB, List.map_cons, List.map_nil, Array.toList_empty, List.nil_append, List.append_nil, List.cons_append]; done) | (simp only [sev_tmp, sev_const, sev_func, sg_eq, sg_ne, sp_n, sp_none, Nat.reduceLT, ne_eq, Nat.reduceEqDiff, not_false_eq_true, gd, nth, want_free, want_slot, beqB, List.map_cons, List.map_nil, Array.toList_empty, List.nil_append, List.append_nil, List.cons_append]; rfl)) (by first | rfl | (simp only [sev_tmp, sev_const, sev_func, sg_eq, sg_ne, sp_n, sp_none, Nat.reduceLT, ne_eq, Nat.reduceEqDiff, not_false_eq_true, gd, nth, want_free, want_slot, beqB, List.map_cons, List.map_nil, Array.toList_empty, List.nil_append, List.append_nil, List.cons_append]; done) | (simp only [sev_tmp, sev_const, sev_func, sg_eq, sg_ne, sp_n, sp_none, Nat.reduceLT, ne_eq, Nat.reduceEqDiff, not_false_eq_true, gd, nth, want_free, want_slot, beqB, List.map_cons, List.map_nil, Array.toList_empty, List.nil_append, List.append_nil, List.cons_append]; rfl)) (by first | rfl | (simp only [sev_tmp, sev_const, sev_func, sg_eq, sg_ne, sp_n, sp_none, Nat.reduceLT, ne_eq, Nat.reduceEqDiff, not_false_eq_true, gd, nth, want_free, want_slot, beqB, List.map_cons, List.map_nil, Array.toList_empty, List.nil_append, List.append_nil, List.cons_append]; done) | (simp only [sev_tmp, sev_const, sev_func, sg_eq, sg_ne, sp_n, sp_none, Nat.reduceLT, ne_eq, Nat.reduceEqDiff, not_false_eq_true, gd, nth, want_free, want_slot, beqB, List.map_cons, List.map_nil, Array.toList_empty, List.nil_append, List.append_nil, List.cons_append]; rfl)) (Con.mono (check_ref hx1.wf hs1 hr1 ls lr) ?_)
  rintro w A4 ⟨rfl, hx4⟩
  refine Wo.run hc 1 rfl rfl rfl ?_
  simp only [List.drop_zero, List.drop_succ_cons, List.take_succ_cons, List.take_zero, sev_tmp, sg_eq, sp_n, Nat.reduceLT, gd, want_free, rops, fx, Option.some.injEq, exists_eq_left', Nat.reduceAdd]
  refine Wo.done hc rfl (hK _ _ ?_)
  clear hK
  (repeat (first | refine Rn.seq hc ?_ | refine Rn.skip hc ?_ | refine Rn.block hc ?_ | refine Rn.inBlock hc ?_ | refine Rn.scope hc ?_ | refine Rn.inScope hc ?_))
  have b0 := (hx4.cl (show A.next < A1.next by omega) 0).trans b0
  have b1 := (hx4.cl (show A.next < A1.next by omega) 1).trans b1
  have b2 := (hx4.cl (show A.next < A1.next by omega) 2).trans b2
  have hx04 : Nx A.next A A4 := hx1.trans (hx4.le hx1.next)
  have hs4 : Ints A4 sa 0 A4.next st := (hs.nx hx04 (Nat.le_refl _)).mono (Nat.le_refl _) hx04.next
  have hr4 : Ints A4 ra 0 A4.next ro := (hr.nx hx04 (Nat.le_refl _)).mono (Nat.le_refl _) hx04.next
  have hw4 : Ints A4 wa 0 A4.next word := (hwd.nx hx04 (Nat.le_refl _)).mono (Nat.le_refl _) hx04.next
  have hA4 : A.next < A4.next := by have := hx4.next; omega
  by_cases he : errL m st ro = 0
  · have hd : (!decide (errL m st ro = 0)) = false := by rw [decide_eq_true he]; rfl
    refine Rn.reg hc rfl ?_
    simp only [sev_tmp, sev_const, sg_eq, sp_n, Nat.reduceLT, gd, want_free, rops, fx, bin_neq, Option.some.injEq, exists_eq_left', hd]
    (repeat (first | refine Rn.seq hc ?_ | refine Rn.skip hc ?_ | refine Rn.block hc ?_ | refine Rn.inBlock hc ?_ | refine Rn.scope hc ?_ | refine Rn.inScope hc ?_))
    refine Rn.condE hc rfl ?_
    simp only [sev_tmp, sg_eq, sp_n, Nat.reduceLT, Value.bool.injEq, exists_eq_left']
    (repeat (first | refine Rn.seq hc ?_ | refine Rn.skip hc ?_ | refine Rn.block hc ?_ | refine Rn.inBlock hc ?_ | refine Rn.scope hc ?_ | refine Rn.inScope hc ?_))
    by_cases hwl : 120 < word.length
    · have hd2 : decide ((120 : Int) < (word.length : Int)) = true := by simp; omega
      refine Rn.reg hc rfl ?_
      simp only [sev_tmp, sev_const, sg_eq, sg_ne, sp_n, Nat.reduceLT, ne_eq, Nat.reduceEqDiff, not_false_eq_true, gd, want_free, rops, fx, lng, bin_gtr, Option.some.injEq, exists_eq_left', un22, hd2]
      (repeat (first | refine Rn.seq hc ?_ | refine Rn.skip hc ?_ | refine Rn.block hc ?_ | refine Rn.inBlock hc ?_ | refine Rn.scope hc ?_ | refine Rn.inScope hc ?_))
      refine Rn.condE hc rfl ?_
      simp only [sev_tmp, sg_eq, sp_n, Nat.reduceLT, Value.bool.injEq, exists_eq_left']
      (repeat (first | refine Rn.seq hc ?_ | refine Rn.skip hc ?_ | refine Rn.block hc ?_ | refine Rn.inBlock hc ?_ | refine Rn.scope hc ?_ | refine Rn.inScope hc ?_))
      refine Rn.reg hc rfl ?_
      simp only [sev_const, gd, want_free, rops, fx, Option.some.injEq, exists_eq_left']
      (repeat (first | refine Rn.seq hc ?_ | refine Rn.skip hc ?_ | refine Rn.block hc ?_ | refine Rn.inBlock hc ?_ | refine Rn.scope hc ?_ | refine Rn.inScope hc ?_))
      refine Rn.ret (endQ_two rfl ⟨?_, hx04⟩)
      simp only [sg_eq, sg_ne, sp_n, Nat.reduceLT, ne_eq, Nat.reduceEqDiff, not_false_eq_true]
      rw [findV, if_pos he, if_pos hwl]
    · have hd2 : decide ((120 : Int) < (word.length : Int)) = false := by simp; omega
      refine Rn.reg hc rfl ?_
      simp only [sev_tmp, sev_const, sg_eq, sg_ne, sp_n, Nat.reduceLT, ne_eq, Nat.reduceEqDiff, not_false_eq_true, gd, want_free, rops, fx, lng, bin_gtr, Option.some.injEq, exists_eq_left', un22, hd2]
      (repeat (first | refine Rn.seq hc ?_ | refine Rn.skip hc ?_ | refine Rn.block hc ?_ | refine Rn.inBlock hc ?_ | refine Rn.scope hc ?_ | refine Rn.inScope hc ?_))
      refine Rn.condE hc rfl ?_
      simp only [sev_tmp, sg_eq, sp_n, Nat.reduceLT, Value.bool.injEq, exists_eq_left']
      (repeat (first | refine Rn.seq hc ?_ | refine Rn.skip hc ?_ | refine Rn.block hc ?_ | refine Rn.inBlock hc ?_ | refine Rn.scope hc ?_ | refine Rn.inScope hc ?_))
      refine Rn.reg hc rfl ?_
      simp only [sev_const, gd, want_free, rops, fx, Option.some.injEq, exists_eq_left']
      (repeat (first | refine Rn.seq hc ?_ | refine Rn.skip hc ?_ | refine Rn.block hc ?_ | refine Rn.inBlock hc ?_ | refine Rn.scope hc ?_ | refine Rn.inScope hc ?_))
      have hfv : findV m st ro word = found (ffrom (mat st ro word) 0 (st.length + ro.length)) := by rw [findV, if_pos he, if_neg hwl]
      obtain ⟨l60, l120⟩ := errL_len he
      have hro := errL_pos he
      rw [hfv]
      refine Rn.loopI hc (I := fun k s A' => ∃ n, n ≤ st.length + ro.length ∧ k = st.length + ro.length - n ∧ Nx A4.next A4 A' ∧ s.n = 50 ∧ sget s 1 = .slice wa word.length wc ∧ sget s 2 = .pointer (some ⟨A.next, 0, none⟩) ∧ sget s 7 = .int .i64 (n : Int) ∧ ffrom (mat st ro word) 0 (st.length + ro.length) = ffrom (mat st ro word) n (st.length + ro.length - n))
        (n := st.length + ro.length) ⟨0, by omega, rfl, Nx.refl hx4.wf _, by simp only [sp_n], by simp only [sg_eq, sg_ne, sp_n, Nat.reduceLT, ne_eq, Nat.reduceEqDiff, not_false_eq_true], by simp only [sg_eq, sg_ne, sp_n, Nat.reduceLT, ne_eq, Nat.reduceEqDiff, not_false_eq_true], by simp only [sg_eq, sp_n, Nat.reduceLT]; rfl, rfl⟩ ?_
      rintro k s A' ⟨n, hi, rfl, hA, hn, s1, s2, s7, hff⟩ ih
      (repeat (first | refine Rn.seq hc ?_ | refine Rn.skip hc ?_ | refine Rn.block hc ?_ | refine Rn.inBlock hc ?_ | refine Rn.scope hc ?_ | refine Rn.inScope hc ?_))
      have b0 := (hA.cl hA4 0).trans b0
      have b1 := (hA.cl hA4 1).trans b1
      have b2 := (hA.cl hA4 2).trans b2
      have hadd : IntKind.i64.wrap ((st.length : Int) + (ro.length : Int)) = ((st.length + ro.length : Nat) : Int) := by rw [IntWalk.i64_in _ (by omega)]; omega
      by_cases hlt : n < st.length + ro.length
      · have hd : decide ((n : Int) < ((st.length + ro.length : Nat) : Int)) = true := by simp; omega
        refine Rn.reg hc rfl ?_
        simp only [sev_tmp, sg_eq, sg_ne, sp_n, Nat.reduceLT, ne_eq, Nat.reduceEqDiff, not_false_eq_true, gd, want_free, rops, fx, ld, fad, lng, bin_lss, bin_add, adr_p, Nat.zero_add, Option.some.injEq, exists_eq_left', tk22, fo24_1, fo24_2, un22, hn, s2, s7, b1, b2, hadd, hd]
        (repeat (first | refine Rn.seq hc ?_ | refine Rn.skip hc ?_ | refine Rn.block hc ?_ | refine Rn.inBlock hc ?_ | refine Rn.scope hc ?_ | refine Rn.inScope hc ?_))
        refine Rn.condE hc rfl ?_
        simp only [sev_tmp, sg_eq, sp_n, Nat.reduceLT, Value.bool.injEq, exists_eq_left', hn]
        (repeat (first | refine Rn.seq hc ?_ | refine Rn.skip hc ?_ | refine Rn.block hc ?_ | refine Rn.inBlock hc ?_ | refine Rn.scope hc ?_ | refine Rn.inScope hc ?_))
        refine Rn.reg hc rfl ?_
        simp only [sev_const, gd, want_free, rops, fx, Option.some.injEq, exists_eq_left']
        (repeat (first | refine Rn.seq hc ?_ | refine Rn.skip hc ?_ | refine Rn.block hc ?_ | refine Rn.inBlock hc ?_ | refine Rn.scope hc ?_ | refine Rn.inScope hc ?_))
        refine Rn.reg hc rfl ?_
        simp only [sev_tmp, sev_const, sg_eq, sg_ne, sp_n, Nat.reduceLT, ne_eq, Nat.reduceEqDiff, not_false_eq_true, gd, want_free, rops, fx, lng, Option.some.injEq, exists_eq_left', un22, hn, s1]
        (repeat (first | refine Rn.seq hc ?_ | refine Rn.skip hc ?_ | refine Rn.block hc ?_ | refine Rn.inBlock hc ?_ | refine Rn.scope hc ?_ | refine Rn.inScope hc ?_))
        rw [ffrom_step _ hlt] at hff
        refine Rn.loopI hc (I := fun k s A' => ∃ i, i ≤ word.length ∧ k = word.length - i ∧ Nx A4.next A4 A' ∧ s.n = 50 ∧ sget s 1 = .slice wa word.length wc ∧ sget s 2 = .pointer (some ⟨A.next, 0, none⟩) ∧ sget s 7 = .int .i64 (n : Int) ∧ sget s 8 = .bool (pre (isAt st ro word n) i) ∧ sget s 30 = .slice wa word.length wc ∧ sget s 31 = .int .i64 (word.length : Int) ∧ sget s 32 = .int .i64 (i : Int))
          (n := word.length) ⟨0, by omega, rfl, hA, by simp only [sp_n, hn], by simp only [sg_ne, ne_eq, Nat.reduceEqDiff, not_false_eq_true, s1], by simp only [sg_ne, ne_eq, Nat.reduceEqDiff, not_false_eq_true, s2], by simp only [sg_ne, ne_eq, Nat.reduceEqDiff, not_false_eq_true, s7], by simp only [sg_eq, sg_ne, sp_n, Nat.reduceLT, ne_eq, Nat.reduceEqDiff, not_false_eq_true, hn]; rfl, by simp only [sg_eq, sg_ne, sp_n, Nat.reduceLT, ne_eq, Nat.reduceEqDiff, not_false_eq_true, hn], by simp only [sg_eq, sg_ne, sp_n, Nat.reduceLT, ne_eq, Nat.reduceEqDiff, not_false_eq_true, hn], by simp only [sg_eq, sp_n, Nat.reduceLT, hn]; rfl⟩ ?_
        clear b0 b1 b2 hA hn s1 s2 s7
        clear s A'
        rintro k s A' ⟨i, hi2, rfl, hA, hn, s1, s2, s7, s8, s30, s31, s32⟩ ih2
        (repeat (first | refine Rn.seq hc ?_ | refine Rn.skip hc ?_ | refine Rn.block hc ?_ | refine Rn.inBlock hc ?_ | refine Rn.scope hc ?_ | refine Rn.inScope hc ?_))
        have b0 := (hA.cl hA4 0).trans ‹cl A4 A.next 0 = _›
        have b1 := (hA.cl hA4 1).trans ‹cl A4 A.next 1 = _›
        have b2 := (hA.cl hA4 2).trans ‹cl A4 A.next 2 = _›
        by_cases hlt2 : i < word.length
        · have hd2 : decide ((i : Int) < (word.length : Int)) = true := by simp; omega
          obtain ⟨bb, o, rfl, _, hbb, hcl⟩ := (hw4.nx hA (Nat.le_refl _)) i hlt2
          refine Rn.reg hc rfl ?_
          simp only [sev_tmp, gd, want_free, rops, fx, bin_lss, Option.some.injEq, exists_eq_left', s31, s32, hd2]
          (repeat (first | refine Rn.seq hc ?_ | refine Rn.skip hc ?_ | refine Rn.block hc ?_ | refine Rn.inBlock hc ?_ | refine Rn.scope hc ?_ | refine Rn.inScope hc ?_))
          refine Rn.condE hc rfl ?_
          simp only [sev_tmp, sg_eq, Nat.reduceLT, Value.bool.injEq, exists_eq_left', hn]
          (repeat (first | refine Rn.seq hc ?_ | refine Rn.skip hc ?_ | refine Rn.block hc ?_ | refine Rn.inBlock hc ?_ | refine Rn.scope hc ?_ | refine Rn.inScope hc ?_))
          refine Rn.reg hc rfl ?_
          simp only [sev_tmp, sg_eq, sg_ne, sp_n, Nat.reduceLT, ne_eq, Nat.reduceEqDiff, not_false_eq_true, gd, want_free, rops, fx, ld, idx, adr_p, Option.some.injEq, exists_eq_left', Nat.mul_one, tk3, eo22, hn, s30, s32, nlen_nat hlt2, hcl]
          (repeat (first | refine Rn.seq hc ?_ | refine Rn.skip hc ?_ | refine Rn.block hc ?_ | refine Rn.inBlock hc ?_ | refine Rn.scope hc ?_ | refine Rn.inScope hc ?_))
          cases hp : pre (isAt st ro word n) i with
          | false =>
            refine Rn.reg hc rfl ?_
            simp only [sev_tmp, sev_const, sg_eq, sg_ne, sp_n, Nat.reduceLT, ne_eq, Nat.reduceEqDiff, not_false_eq_true, gd, nth, want_free, want_slot, beqB, rops, fx, pck, Option.some.injEq, exists_eq_left', hn, s8, hp]
            (repeat (first | refine Rn.seq hc ?_ | refine Rn.skip hc ?_ | refine Rn.block hc ?_ | refine Rn.inBlock hc ?_ | refine Rn.scope hc ?_ | refine Rn.inScope hc ?_))
            refine Rn.reg hc rfl ?_
            simp only [sev_tmp, sev_const, sg_eq, sg_ne, sp_n, Nat.reduceLT, ne_eq, Nat.reduceEqDiff, not_false_eq_true, gd, want_free, rops, fx, bin_add, Option.some.injEq, exists_eq_left', hn, s32, wrap_succ (show i < 9223372036854775807 by omega)]
            (repeat (first | refine Rn.seq hc ?_ | refine Rn.skip hc ?_ | refine Rn.block hc ?_ | refine Rn.inBlock hc ?_ | refine Rn.scope hc ?_ | refine Rn.inScope hc ?_))
            exact ih2 _ _ _ (by omega) ⟨i + 1, by omega, rfl, hA, by simp only [sp_n, hn], by simp only [sg_ne, ne_eq, Nat.reduceEqDiff, not_false_eq_true, s1], by simp only [sg_ne, ne_eq, Nat.reduceEqDiff, not_false_eq_true, s2], by simp only [sg_ne, ne_eq, Nat.reduceEqDiff, not_false_eq_true, s7], by simp only [sg_eq, sg_ne, sp_n, Nat.reduceLT, ne_eq, Nat.reduceEqDiff, not_false_eq_true, hn]; rw [pre, hp]; rfl, by simp only [sg_ne, ne_eq, Nat.reduceEqDiff, not_false_eq_true, s30], by simp only [sg_ne, ne_eq, Nat.reduceEqDiff, not_false_eq_true, s31], by simp only [sg_eq, sp_n, Nat.reduceLT, hn]⟩
          | true =>
            have hadd2 : IntKind.i64.wrap ((n : Int) + (i : Int)) = ((n + i : Nat) : Int) := by rw [IntWalk.i64_in _ (by omega)]; omega
            refine Rn.region hc fun K hK => ?_
            refine Wo.run hc 6 rfl rfl rfl ?_
            simp only [List.drop_zero, List.take_succ_cons, List.take_zero, sev_tmp, sg_eq, sg_ne, sp_n, Nat.reduceLT, ne_eq, Nat.reduceEqDiff, not_false_eq_true, gd, nth, want_free, want_slot, beqB, rops, fx, ld, bin_add, adr_p, cls, Nat.zero_add, Option.some.injEq, exists_eq_left', Nat.reduceAdd, tk24, hn, s2, s7, s8, hp, b0, b1, b2, hadd2]
            refine Wo.call hc (by rfl) (by rfl) ⟨by rfl, by rfl⟩ (xs := [.agg #[.int .i64 m, .slice sa st.length sc, .slice ra ro.length rc], .int .i64 ((n + i : Nat) : Int)]) (by first | rfl | (simp only [sg_eq, sg_ne, sp_n, Nat.reduceLT, ne_eq, Nat.reduceEqDiff, not_false_eq_true, gd, nth, want_slot, beqB, hn]; done) | (simp only [sev_tmp, sev_const, sev_func, sg_eq, sg_ne, sp_n, sp_none, Nat.reduceLT, ne_eq, Nat.reduceEqDiff, not_false_eq_true, gd, nth, want_free, want_slot, beqB, List.map_cons, List.map_nil, Array.toList_empty, List.nil_append, List.append_nil, List.cons_append, hn, hp]; rfl)) (by first | rfl | (simp only [sev_tmp, sev_const, sev_func, sg_eq, sg_ne, sp_n, sp_none, Nat.reduceLT, ne_eq, Nat.reduceEqDiff, not_false_eq_true, gd, nth, want_free, want_slot, beqB, List.map_cons, List.map_nil, Array.toList_empty, List.nil_append, List.append_nil, List.cons_append, hn, hp]; done) | (simp only [sev_tmp, sev_const, sev_func, sg_eq, sg_ne, sp_n, sp_none, Nat.reduceLT, ne_eq, Nat.reduceEqDiff, not_false_eq_true, gd, nth, want_free, want_slot, beqB, List.map_cons, List.map_nil, Array.toList_empty, List.nil_append, List.append_nil, List.cons_append, hn, hp]; rfl)) (by first | rfl | (simp only [sev_tmp, sg_eq, sg_ne, sp_n, Nat.reduceLT, ne_eq, Nat.reduceEqDiff, not_false_eq_true, List.map_cons, List.map_nil, List.nil_append, List.append_nil, hn]; done) | (simp only [sev_tmp, sev_const, sev_func, sg_eq, sg_ne, sp_n, sp_none, Nat.reduceLT, ne_eq, Nat.reduceEqDiff, not_false_eq_true, gd, nth, want_free, want_slot, beqB, List.map_cons, List.map_nil, Array.toList_empty, List.nil_append, List.append_nil, List.cons_append, hn, hp]; rfl)) (Con.mono (at_ref hA.wf ((hs4.nx hA (Nat.le_refl _)).mono (Nat.le_refl _) hA.next) ((hr4.nx hA (Nat.le_refl _)).mono (Nat.le_refl _) hA.next) (n + i) ls hro lr (by omega)) ?_)
            rintro w A5 ⟨rfl, hx5⟩
            have hpp : pre (isAt st ro word n) (i + 1) = decide (atL st ro (n + i) = word.getD i 0) := by rw [pre, hp]; rfl
            refine Wo.run hc 4 rfl rfl rfl ?_
            simp only [List.drop_zero, List.drop_succ_cons, List.take_succ_cons, List.take_zero, sev_tmp, sg_eq, sg_ne, sp_n, Nat.reduceLT, ne_eq, Nat.reduceEqDiff, not_false_eq_true, gd, nth, want_free, want_slot, beqB, rops, fx, pck, bin_eql, Option.some.injEq, exists_eq_left', Nat.reduceAdd, hn]
            refine Wo.done hc rfl (hK _ _ ?_)
            (repeat (first | refine Rn.seq hc ?_ | refine Rn.skip hc ?_ | refine Rn.block hc ?_ | refine Rn.inBlock hc ?_ | refine Rn.scope hc ?_ | refine Rn.inScope hc ?_))
            refine Rn.reg hc rfl ?_
            simp only [sev_tmp, sev_const, sg_eq, sg_ne, sp_n, Nat.reduceLT, ne_eq, Nat.reduceEqDiff, not_false_eq_true, gd, want_free, rops, fx, bin_add, Option.some.injEq, exists_eq_left', hn, s32, wrap_succ (show i < 9223372036854775807 by omega)]
            (repeat (first | refine Rn.seq hc ?_ | refine Rn.skip hc ?_ | refine Rn.block hc ?_ | refine Rn.inBlock hc ?_ | refine Rn.scope hc ?_ | refine Rn.inScope hc ?_))
            exact ih2 _ _ _ (by omega) ⟨i + 1, by omega, rfl, hA.trans (hx5.le hA.next), by simp only [sp_n, hn], by simp only [sg_ne, ne_eq, Nat.reduceEqDiff, not_false_eq_true, s1], by simp only [sg_ne, ne_eq, Nat.reduceEqDiff, not_false_eq_true, s2], by simp only [sg_ne, ne_eq, Nat.reduceEqDiff, not_false_eq_true, s7], by simp only [sg_eq, sg_ne, sp_n, Nat.reduceLT, ne_eq, Nat.reduceEqDiff, not_false_eq_true, hn]; rw [hpp], by simp only [sg_ne, ne_eq, Nat.reduceEqDiff, not_false_eq_true, s30], by simp only [sg_ne, ne_eq, Nat.reduceEqDiff, not_false_eq_true, s31], by simp only [sg_eq, sp_n, Nat.reduceLT, hn]⟩
        · have hd2 : decide ((i : Int) < (word.length : Int)) = false := by simp; omega
          have hil : i = word.length := by omega
          subst hil
          refine Rn.reg hc rfl ?_
          simp only [sev_tmp, gd, want_free, rops, fx, bin_lss, Option.some.injEq, exists_eq_left', s31, s32, hd2]
          (repeat (first | refine Rn.seq hc ?_ | refine Rn.skip hc ?_ | refine Rn.block hc ?_ | refine Rn.inBlock hc ?_ | refine Rn.scope hc ?_ | refine Rn.inScope hc ?_))
          refine Rn.condE hc rfl ?_
          simp only [sev_tmp, sg_eq, Nat.reduceLT, Value.bool.injEq, exists_eq_left', hn]
          (repeat (first | refine Rn.seq hc ?_ | refine Rn.skip hc ?_ | refine Rn.block hc ?_ | refine Rn.inBlock hc ?_ | refine Rn.scope hc ?_ | refine Rn.inScope hc ?_))
          refine Rn.exit hc rfl ?_
          (repeat (first | refine Rn.seq hc ?_ | refine Rn.skip hc ?_ | refine Rn.block hc ?_ | refine Rn.inBlock hc ?_ | refine Rn.scope hc ?_ | refine Rn.inScope hc ?_))
          refine Rn.reg hc rfl ?_
          simp only [sev_tmp, sg_ne, ne_eq, Nat.reduceEqDiff, not_false_eq_true, gd, want_free, rops, fx, Option.some.injEq, exists_eq_left', s8]
          (repeat (first | refine Rn.seq hc ?_ | refine Rn.skip hc ?_ | refine Rn.block hc ?_ | refine Rn.inBlock hc ?_ | refine Rn.scope hc ?_ | refine Rn.inScope hc ?_))
          cases hm : mat st ro word n with
          | true =>
            rw [hm, if_pos rfl] at hff
            refine Rn.condE hc rfl ?_
            simp only [sev_tmp, sg_eq, sp_n, Nat.reduceLT, Value.bool.injEq, exists_eq_left', hn, show pre (isAt st ro word n) word.length = true from hm]
            (repeat (first | refine Rn.seq hc ?_ | refine Rn.skip hc ?_ | refine Rn.block hc ?_ | refine Rn.inBlock hc ?_ | refine Rn.scope hc ?_ | refine Rn.inScope hc ?_))
            refine Rn.reg hc rfl ?_
            simp only [sev_tmp, sev_const, sg_eq, sg_ne, sp_n, Nat.reduceLT, ne_eq, Nat.reduceEqDiff, not_false_eq_true, gd, want_free, rops, fx, Option.some.injEq, exists_eq_left', hn, s7]
            (repeat (first | refine Rn.seq hc ?_ | refine Rn.skip hc ?_ | refine Rn.block hc ?_ | refine Rn.inBlock hc ?_ | refine Rn.scope hc ?_ | refine Rn.inScope hc ?_))
            refine Rn.ret (endQ_two rfl ⟨?_, hx04.trans (hA.le (by omega))⟩)
            simp only [sg_eq, sg_ne, sp_n, Nat.reduceLT, ne_eq, Nat.reduceEqDiff, not_false_eq_true, hn]
            rw [hff]
            rfl
          | false =>
            rw [hm, if_neg Bool.false_ne_true] at hff
            refine Rn.condE hc rfl ?_
            simp only [sev_tmp, sg_eq, sp_n, Nat.reduceLT, Value.bool.injEq, exists_eq_left', hn, show pre (isAt st ro word n) word.length = false from hm]
            (repeat (first | refine Rn.seq hc ?_ | refine Rn.skip hc ?_ | refine Rn.block hc ?_ | refine Rn.inBlock hc ?_ | refine Rn.scope hc ?_ | refine Rn.inScope hc ?_))
            refine Rn.reg hc rfl ?_
            simp only [sev_tmp, sev_const, sg_eq, sg_ne, sp_n, Nat.reduceLT, ne_eq, Nat.reduceEqDiff, not_false_eq_true, gd, want_free, rops, fx, bin_add, Option.some.injEq, exists_eq_left', hn, s7, wrap_succ (show n < 9223372036854775807 by omega)]
            (repeat (first | refine Rn.seq hc ?_ | refine Rn.skip hc ?_ | refine Rn.block hc ?_ | refine Rn.inBlock hc ?_ | refine Rn.scope hc ?_ | refine Rn.inScope hc ?_))
            exact ih _ _ _ (by omega) ⟨n + 1, by omega, rfl, hA, by simp only [sp_n, hn], by simp only [sg_ne, ne_eq, Nat.reduceEqDiff, not_false_eq_true, s1], by simp only [sg_ne, ne_eq, Nat.reduceEqDiff, not_false_eq_true, s2], by simp only [sg_eq, sp_n, Nat.reduceLT, hn], hff⟩
      · have hd : decide ((n : Int) < ((st.length + ro.length : Nat) : Int)) = false := by simp; omega
        have hil : n = st.length + ro.length := by omega
        subst hil
        refine Rn.reg hc rfl ?_
        simp only [sev_tmp, sg_eq, sg_ne, sp_n, Nat.reduceLT, ne_eq, Nat.reduceEqDiff, not_false_eq_true, gd, want_free, rops, fx, ld, fad, lng, bin_lss, bin_add, adr_p, Nat.zero_add, Option.some.injEq, exists_eq_left', tk22, fo24_1, fo24_2, un22, hn, s2, s7, b1, b2, hadd, hd]
        (repeat (first | refine Rn.seq hc ?_ | refine Rn.skip hc ?_ | refine Rn.block hc ?_ | refine Rn.inBlock hc ?_ | refine Rn.scope hc ?_ | refine Rn.inScope hc ?_))
        refine Rn.condE hc rfl ?_
        simp only [sev_tmp, sg_eq, sp_n, Nat.reduceLT, Value.bool.injEq, exists_eq_left', hn]
        (repeat (first | refine Rn.seq hc ?_ | refine Rn.skip hc ?_ | refine Rn.block hc ?_ | refine Rn.inBlock hc ?_ | refine Rn.scope hc ?_ | refine Rn.inScope hc ?_))
        refine Rn.exit hc rfl ?_
        (repeat (first | refine Rn.seq hc ?_ | refine Rn.skip hc ?_ | refine Rn.block hc ?_ | refine Rn.inBlock hc ?_ | refine Rn.scope hc ?_ | refine Rn.inScope hc ?_))
        refine Rn.reg hc rfl ?_
        simp only [sev_const, gd, want_free, rops, fx, Option.some.injEq, exists_eq_left']
        (repeat (first | refine Rn.seq hc ?_ | refine Rn.skip hc ?_ | refine Rn.block hc ?_ | refine Rn.inBlock hc ?_ | refine Rn.scope hc ?_ | refine Rn.inScope hc ?_))
        refine Rn.ret (endQ_two rfl ⟨?_, hx04.trans (hA.le (by omega))⟩)
        simp only [sg_eq, sg_ne, sp_n, Nat.reduceLT, ne_eq, Nat.reduceEqDiff, not_false_eq_true, hn]
        rw [hff, Nat.sub_self]
        rfl
  · have hd : (!decide (errL m st ro = 0)) = true := by rw [decide_eq_false he]; rfl
    refine Rn.reg hc rfl ?_
    simp only [sev_tmp, sev_const, sg_eq, sp_n, Nat.reduceLT, gd, want_free, rops, fx, bin_neq, Option.some.injEq, exists_eq_left', hd]
    (repeat (first | refine Rn.seq hc ?_ | refine Rn.skip hc ?_ | refine Rn.block hc ?_ | refine Rn.inBlock hc ?_ | refine Rn.scope hc ?_ | refine Rn.inScope hc ?_))
    refine Rn.condE hc rfl ?_
    simp only [sev_tmp, sg_eq, sp_n, Nat.reduceLT, Value.bool.injEq, exists_eq_left']
    (repeat (first | refine Rn.seq hc ?_ | refine Rn.skip hc ?_ | refine Rn.block hc ?_ | refine Rn.inBlock hc ?_ | refine Rn.scope hc ?_ | refine Rn.inScope hc ?_))
    refine Rn.reg hc rfl ?_
    simp only [sev_tmp, sev_const, sg_eq, sg_ne, sp_n, Nat.reduceLT, ne_eq, Nat.reduceEqDiff, not_false_eq_true, gd, want_free, rops, fx, Option.some.injEq, exists_eq_left']
    (repeat (first | refine Rn.seq hc ?_ | refine Rn.skip hc ?_ | refine Rn.block hc ?_ | refine Rn.inBlock hc ?_ | refine Rn.scope hc ?_ | refine Rn.inScope hc ?_))
    refine Rn.ret (endQ_two rfl ⟨?_, hx04⟩)
    simp only [sg_eq, sg_ne, sp_n, Nat.reduceLT, ne_eq, Nat.reduceEqDiff, not_false_eq_true]
    rw [findV, if_neg he]
end Go.Proofs.Ytdaljohmfnfgiaa
/- The first numbers of a list. No condition. -/
namespace Go.Proofs.Ytdaljohmfnfgiaa
open Go Go.RowKit Go.Proofs.Ytdaljohmfnfgiaa.Canon
set_option maxRecDepth 20000


theorem un102 : Try.prog.underlying 102 = some (.array 4 3) := by kernel_rfl
theorem bo102 : bof Try.prog 102 = .mk (fun k => some (k * 1, 1)) 4 [.int .i64 0, .int .i64 0, .int .i64 0, .int .i64 0] := by kernel_rfl
theorem zc102 : (Value.agg #[.int .i64 0, .int .i64 0, .int .i64 0, .int .i64 0]).cells = #[.int .i64 0, .int .i64 0, .int .i64 0, .int .i64 0] := rfl
section
variable {ρ : Operand → Value} {d : Option Tmp} {ty : TypeId} {pos : String} {af : Array Edge} {gu : Option (Nat × Bool)} {A : AHeap}
theorem bd102 {s : Slots} {a b c e : Int} : aexec Try.prog (seval s) ⟨d, .build 102 #[(0, .const (.int .i64 a)), (1, .const (.int .i64 b)), (2, .const (.int .i64 c)), (3, .const (.int .i64 e))], ty, pos, af, gu⟩ A = some (.agg #[.int .i64 a, .int .i64 b, .int .i64 c, .int .i64 e], A) := by
  refine ae_build (by rfl) bo102 rfl ?_
  simp [fbld, Value.cells, sev_const]
theorem asl_arr {b : Nat} {y : AObj} (hy : Canon.look A.objs b = some y) (hg : y.grown = false) : asl Try.prog 102 (.pointer (some ⟨b, 0, none⟩)) none none none A = some (.slice (some ⟨b, 0, none⟩) 4 4, A) := by
  obtain ⟨_, i, z, hinf, _, _, _, hsz, _⟩ := elB_eq el22
  obtain ⟨o, g, e⟩ := y
  simp only at hg
  subst hg
  have hb0 : ∀ d, abound none d = some d := fun _ => rfl
  simp only [asl, un102, hinf, hb0, hy, Option.isSome_none, Bool.not_false, Bool.true_or]
  simp [Addr.add]
end
theorem Row.take {A : AHeap} {a : Option Addr} {l : List Value} (h : Row A a l) (n : Nat) : Row A a (l.take n) := by
  rcases h with rfl | ⟨b, o, e, h⟩
  · exact .inl (by simp)
  · exact .inr ⟨b, o, e, fun i hi => by
      have : i < l.length := by simp at hi; omega
      rw [h i this]
      simp⟩
/-- The first four; behind the end there is something less than nothing. -/
def winV (l : List Int) : Value := .agg #[.int .i64 (l.getD 0 (-1)), .int .i64 (l.getD 1 (-1)), .int .i64 (l.getD 2 (-1)), .int .i64 (l.getD 3 (-1))]
theorem window_ints {A : AHeap} (hw : WF A) {a : Option Addr} {c : Nat} {l : List Int} (hl : Ints A a 0 A.next l) : Con Try.prog 95 [.slice a l.length c] A (fun v A1 => v = winV l ∧ Nx A.next A A1) := by
  refine con_of_rn hc Try.func95 rfl (Nat.le_of_ble_eq_true rfl) ?_
  have hx1 : Nx A.next A (A.push (.cells #[.int .i64 0, .int .i64 0, .int .i64 0, .int .i64 0] 102)) := (Nx.refl hw _).push (Nat.le_refl _) _
  have l1 := look_push_eq A (.cells #[.int .i64 0, .int .i64 0, .int .i64 0, .int .i64 0] 102)
  have hn1 : (A.push (.cells #[.int .i64 0, .int .i64 0, .int .i64 0, .int .i64 0] 102)).next = A.next + 1 := rfl
  generalize e1 : A.push (.cells #[.int .i64 0, .int .i64 0, .int .i64 0, .int .i64 0] 102) = A1 at hx1 l1 hn1
  have hx2 : Nx A1.next A1 (A1.push (.cells #[.int .i64 0, .int .i64 0, .int .i64 0, .int .i64 0] 102)) := (Nx.refl hx1.wf _).push (Nat.le_refl _) _
  have l2 := look_push_eq A1 (.cells #[.int .i64 0, .int .i64 0, .int .i64 0, .int .i64 0] 102)
  have hn2 : (A1.push (.cells #[.int .i64 0, .int .i64 0, .int .i64 0, .int .i64 0] 102)).next = A1.next + 1 := rfl
  generalize e2 : A1.push (.cells #[.int .i64 0, .int .i64 0, .int .i64 0, .int .i64 0] 102) = A2 at hx2 l2 hn2
  obtain ⟨A3, c3, q1, q2, q3, q4⟩ := sts_upd (l := [.int .i64 (-1), .int .i64 (-1), .int .i64 (-1), .int .i64 (-1)]) (o := 0) l2 rfl (by simp) rfl
  have hx3 : Nx A1.next A1 A3 := hx2.trans (q2.nx hx2.wf (Nat.le_refl _))
  have hx03 : Nx A.next A A3 := hx1.trans (hx3.le hx1.next)
  obtain ⟨c3', t3, f3, g3, z3, r1, r2, r3⟩ := q2.at'
  rw [l2] at r1
  cases r1
  have hl3 : Ints A3 a 0 A3.next l := (hl.nx hx03 (Nat.le_refl _)).mono (Nat.le_refl _) hx03.next
  obtain ⟨A4, c4, p1, p2, p3, p4⟩ := cpd_row (P := Try.prog) (a := a) (t := 22) (u := 22) (ty := 3) el22 (o := 0) (dl := 4) (dc := 4) (sn := l.length) (sc := c) (l := (l.map (Value.int .i64)).take 4) (by simp [Nat.min_comm]) (Row.take hl3.row 4) (fun h => by subst h; exact hl.some) r2 r3 (by rw [q3]; simp; omega) (by
    rw [List.all_eq_true]
    intro v hv
    obtain ⟨x, _, rfl⟩ := List.mem_map.1 (List.mem_of_mem_take hv)
    rfl)
  have hx4 : Nx A1.next A1 A4 := hx3.trans (p2.nx hx3.wf (Nat.le_refl _))
  have g0 : ∀ i, i < 4 → cl A4 A1.next i = some (.int .i64 (l.getD i (-1))) := fun i hi => by
    have hlen : ((l.map (Value.int .i64)).take 4).length = min 4 l.length := by simp
    rw [p2.cl, p4, q4, hlen]
    by_cases h : i < l.length
    · rw [if_pos ⟨Nat.zero_le _, by omega⟩]
      simp [List.getD_eq_getElem?_getD, h, hi]
    · rw [if_neg (by omega), if_pos ⟨Nat.zero_le _, by simpa using hi⟩]
      have hgd : l.getD i (-1) = -1 := by rw [List.getD_eq_getElem?_getD, List.getElem?_eq_none (by omega)]; rfl
      rw [hgd]
      match i, hi with
      | 0, _ => rfl
      | 1, _ => rfl
      | 2, _ => rfl
      | 3, _ => rfl
  have l4 : Canon.look A4.objs A.next = some ⟨.cells #[.int .i64 0, .int .i64 0, .int .i64 0, .int .i64 0] 102, false, 0⟩ := by rw [hx4.keep _ (by omega)]; exact l1
  obtain ⟨A5, c5, u1, u2, u3, u4⟩ := sts_upd (l := [.int .i64 (l.getD 0 (-1)), .int .i64 (l.getD 1 (-1)), .int .i64 (l.getD 2 (-1)), .int .i64 (l.getD 3 (-1))]) (o := 0) l4 rfl (by simp) rfl
  rw [s_in1]
  (repeat (first | refine Rn.seq hc ?_ | refine Rn.skip hc ?_ | refine Rn.block hc ?_ | refine Rn.inBlock hc ?_ | refine Rn.scope hc ?_ | refine Rn.inScope hc ?_))
  refine Rn.reg hc rfl ?_
  simp only [gd, want_free, rops, fx, Option.some.injEq, exists_eq_left', Value.cells, show Try.f95.ntmps = 9 from rfl, ze102, e1]
  (repeat (first | refine Rn.seq hc ?_ | refine Rn.skip hc ?_ | refine Rn.block hc ?_ | refine Rn.inBlock hc ?_ | refine Rn.scope hc ?_ | refine Rn.inScope hc ?_))
  refine Rn.reg hc rfl ?_
  simp only [sev_tmp, sg_eq, sg_ne, sp_n, sp_none, Nat.reduceLT, ne_eq, Nat.reduceEqDiff, not_false_eq_true, gd, want_free, rops, fx, str, adr_p, Nat.zero_add, Option.some.injEq, exists_eq_left', Value.cells, Nat.reduceAdd, tk102, bd102, ze102, e2, q1, List.size_toArray, List.length_cons, List.length_nil, Nat.beq_refl]
  (repeat (first | refine Rn.seq hc ?_ | refine Rn.skip hc ?_ | refine Rn.block hc ?_ | refine Rn.inBlock hc ?_ | refine Rn.scope hc ?_ | refine Rn.inScope hc ?_))
  refine Rn.reg hc rfl ?_
  simp only [sev_tmp, sg_eq, sg_ne, sp_n, Nat.reduceLT, ne_eq, Nat.reduceEqDiff, not_false_eq_true, gd, want_free, rops, fx, Option.some.injEq, exists_eq_left', ae_asl_all, asl_arr r2 rfl, ae_cpd, p1]
  (repeat (first | refine Rn.seq hc ?_ | refine Rn.skip hc ?_ | refine Rn.block hc ?_ | refine Rn.inBlock hc ?_ | refine Rn.scope hc ?_ | refine Rn.inScope hc ?_))
  refine Rn.reg hc rfl ?_
  simp only [sev_tmp, sg_eq, sg_ne, sp_n, sp_none, Nat.reduceLT, ne_eq, Nat.reduceEqDiff, not_false_eq_true, gd, want_free, rops, fx, ld, str, adr_p, cls, Nat.zero_add, Option.some.injEq, exists_eq_left', Nat.reduceAdd, tk102, g0 0 (by omega), g0 1 (by omega), g0 2 (by omega), g0 3 (by omega), u1, List.size_toArray, List.length_cons, List.length_nil, Nat.beq_refl]
  (repeat (first | refine Rn.seq hc ?_ | refine Rn.skip hc ?_ | refine Rn.block hc ?_ | refine Rn.inBlock hc ?_ | refine Rn.scope hc ?_ | refine Rn.inScope hc ?_))
  have g5 : ∀ i, cl A5 A.next i = c5[i]? := fun i => u2.cl i
  refine Rn.ret (endQ_cell rfl (v := winV l) ?_ ⟨rfl, ?_⟩)
  · have h0 : cl A5 A.next 0 = some (.int .i64 (l.getD 0 (-1))) := by rw [g5, u4]; rfl
    have h1 : cl A5 A.next 1 = some (.int .i64 (l.getD 1 (-1))) := by rw [g5, u4]; rfl
    have h2 : cl A5 A.next 2 = some (.int .i64 (l.getD 2 (-1))) := by rw [g5, u4]; rfl
    have h3 : cl A5 A.next 3 = some (.int .i64 (l.getD 3 (-1))) := by rw [g5, u4]; rfl
    simp only [sg_eq, sg_ne, sp_n, Nat.reduceLT, ne_eq, Nat.reduceEqDiff, not_false_eq_true, ld, adr_p, cls, Nat.zero_add, Option.some.injEq, Nat.reduceAdd, tk102, h0, h1, h2, h3]
    rfl
  · exact hx1.trans ((hx4.le hx1.next).trans (u2.nx hx4.wf (Nat.le_refl _)))
end Go.Proofs.Ytdaljohmfnfgiaa
/- The elements of a stream, one after the other. No condition. -/
namespace Go.Proofs.Ytdaljohmfnfgiaa
open Go Go.RowKit Go.Proofs.Ytdaljohmfnfgiaa.Canon
set_option maxRecDepth 20000


theorem endQ_none {f : Func} (hr : f.results = #[]) {Q : Value → AHeap → Prop} {s : Slots} {A : AHeap} {j : Jm} (hj : j = .fall ∨ j = .ret) (h : Q (.tuple #[]) A) : endQ Try.prog f Q j s [] A := by
  have e : sresults Try.prog f s A = some (.tuple #[], A) := by
    rw [sresults_eq]
    simp [results, hr]
  have : ∃ v A1, bdefs Try.prog f s [] A = .yes v A1 ∧ Q v A1 := by
    refine ⟨.tuple #[], A, ?_, h⟩
    show VR.of (sresults Try.prog f s A) = _
    rw [e]
    rfl
  rcases hj with rfl | rfl <;> exact this
theorem atL_wrap {st ro : List Int} {n : Nat} (h : st.length + ro.length ≤ n) (hro : 0 < ro.length) : atL st ro (n - ro.length) = atL st ro n := by
  unfold atL
  rw [if_neg (by omega), if_neg (by omega)]
  congr 1
  have : n - st.length = (n - ro.length - st.length) + ro.length := by omega
  rw [this, Nat.add_mod_right]

/-- Nothing is changed but one block, and what is new. -/
structure Kb (bN : Nat) (A B : AHeap) : Prop where
  next : A.next ≤ B.next
  wf : WF B
  keep : ∀ b, b < A.next → b ≠ bN → Canon.look B.objs b = Canon.look A.objs b
theorem Kb.of_nx {A B : AHeap} (bN : Nat) (h : Nx A.next A B) : Kb bN A B := ⟨h.next, h.wf, fun b hb _ => h.keep b hb⟩
theorem Kb.of_upd {A B : AHeap} {bN : Nat} {c : Array Value} (hw : WF A) (h : Upd A bN c B) : Kb bN A B := ⟨Nat.le_of_eq h.next.symm, (h.nx hw (Nat.zero_le _)).wf, fun b _ hb => h.off b hb⟩
theorem Kb.trans {bN : Nat} {A B C : AHeap} (h : Kb bN A B) (k : Kb bN B C) : Kb bN A C := ⟨Nat.le_trans h.next k.next, k.wf, fun b hb hn => (k.keep b (Nat.lt_of_lt_of_le hb h.next) hn).trans (h.keep b hb hn)⟩
theorem Kb.cl {bN : Nat} {A B : AHeap} (h : Kb bN A B) {b : Nat} (hb : b < A.next) (hn : b ≠ bN) (o : Nat) : cl B b o = cl A b o := cl_look (h.keep b hb hn)

/-- Where the elements come from. -/
structure Src (bS bN : Nat) (m : Int) (sa : Option Addr) (sc : Nat) (st : List Int) (ra : Option Addr) (rc : Nat) (ro : List Int) (lim n : Nat) (A : AHeap) : Prop where
  wf : WF A
  lm : lim ≤ A.next
  s0 : cl A bS 0 = some (.int .i64 m)
  s1 : cl A bS 1 = some (.slice sa st.length sc)
  s2 : cl A bS 2 = some (.slice ra ro.length rc)
  at' : Canon.look A.objs bN = some ⟨.cells #[.int .i64 (n : Int)] 3, false, 0⟩
  st' : Ints A sa 0 lim st
  ro' : Ints A ra 0 lim ro
variable {bS bN : Nat} {m : Int} {sa : Option Addr} {sc : Nat} {st : List Int} {ra : Option Addr} {rc : Nat} {ro : List Int} {lim : Nat}
theorem Ints.kb {bN : Nat} {A B : AHeap} (h : Kb bN A B) {a : Option Addr} {lo hi : Nat} {l : List Int} (hc : Ints A a lo hi l) (hn : hi ≤ A.next) (hb : hi ≤ bN) : Ints B a lo hi l := fun i hi' => by
  obtain ⟨b, o, h1, h2, h3, h4⟩ := hc i hi'
  exact ⟨b, o, h1, h2, h3, by rw [h.cl (by omega) (by omega)]; exact h4⟩
theorem Src.kb {n n' : Nat} {A B : AHeap} (h : Src bS bN m sa sc st ra rc ro lim n A) (hk : Kb bN A B) (hS : bS < A.next) (hne : bS ≠ bN) (hl : lim ≤ bN) (ha : Canon.look B.objs bN = some ⟨.cells #[.int .i64 (n' : Int)] 3, false, 0⟩) : Src bS bN m sa sc st ra rc ro lim n' B :=
  ⟨hk.wf, Nat.le_trans h.lm hk.next, by rw [hk.cl hS hne]; exact h.s0, by rw [hk.cl hS hne]; exact h.s1, by rw [hk.cl hS hne]; exact h.s2, ha, h.st'.kb hk h.lm hl, h.ro'.kb hk h.lm hl⟩

theorem elements_run {Φ : Nat → AHeap → Prop} {Fin : AHeap → Prop} {l many n : Nat} (hne : bS ≠ bN) (hl : lim ≤ bN) (hro : 0 < ro.length) (ls : st.length < 1000) (lr : ro.length < 1000) (hm : n + many < 4611686018427387904)
    (hkeep : ∀ i A' A'', Φ i A' → Kb bN A' A'' → Φ i A'')
    (hround : ∀ i n' A', i < many → Φ i A' → Src bS bN m sa sc st ra rc ro lim n' A' → YCon Try.prog l [.int .i64 (atL st ro (n + i))] A' (fun v A'' => if i + 1 = many then v = .bool false ∧ Fin A'' else v = .bool true ∧ Φ (i + 1) A'' ∧ Src bS bN m sa sc st ra rc ro lim n' A''))
    {A : AHeap} (h0 : Φ 0 A) (hS : Src bS bN m sa sc st ra rc ro lim n A) (hpos : 0 < many) :
    Con Try.prog 113 [.func (.yield l) #[] #[], .pointer (some ⟨bS, 0, none⟩), .pointer (some ⟨bN, 0, none⟩)] A (fun _ A2 => Fin A2) := by
  refine con_of_rn hc Try.func113 rfl (Nat.le_of_ble_eq_true rfl) ?_
  rw [s_in3]
  (repeat (first | refine Rn.seq hc ?_ | refine Rn.skip hc ?_ | refine Rn.block hc ?_ | refine Rn.inBlock hc ?_ | refine Rn.scope hc ?_ | refine Rn.inScope hc ?_))
  refine Rn.loopI hc (I := fun k s A' => ∃ i n', i < many ∧ k = many - i ∧ Φ i A' ∧ Src bS bN m sa sc st ra rc ro lim n' A' ∧ n' ≤ n + i ∧ (∀ j, atL st ro (n' + j) = atL st ro (n + i + j)) ∧ s.n = 28 ∧ sget s 0 = .func (.yield l) #[] #[] ∧ sget s 1 = .pointer (some ⟨bS, 0, none⟩) ∧ sget s 2 = .pointer (some ⟨bN, 0, none⟩))
    (n := many) ⟨0, n, hpos, rfl, h0, hS, Nat.le_refl _, fun j => rfl, rfl, by simp only [sg_eq, sg_ne, Nat.reduceLT, ne_eq, Nat.reduceEqDiff, not_false_eq_true, show Try.f113.ntmps = 28 from rfl], by simp only [sg_eq, sg_ne, sp_n, Nat.reduceLT, ne_eq, Nat.reduceEqDiff, not_false_eq_true, show Try.f113.ntmps = 28 from rfl], by simp only [sg_eq, sp_n, Nat.reduceLT, show Try.f113.ntmps = 28 from rfl]⟩ ?_
  rintro k s A' ⟨i, n', hi, rfl, hΦ, hS', hn', hat, hn, s0, s1, s2⟩ ih
  have hSn : bS < A'.next := cl_lt hS'.wf hS'.s0
  have hNn : bN < A'.next := hS'.wf _ _ hS'.at'
  have hcN : cl A' bN 0 = some (.int .i64 (n' : Int)) := by rw [cl_of hS'.at' rfl]; rfl
  (repeat (first | refine Rn.seq hc ?_ | refine Rn.skip hc ?_ | refine Rn.block hc ?_ | refine Rn.inBlock hc ?_ | refine Rn.scope hc ?_ | refine Rn.inScope hc ?_))
  refine Rn.region hc fun K hK => ?_
  refine Wo.run hc 3 rfl rfl rfl ?_
  simp only [List.drop_zero, List.take_succ_cons, List.take_zero, sev_tmp, sg_ne, ne_eq, Nat.reduceEqDiff, not_false_eq_true, gd, want_free, rops, fx, ld, adr_p, cls, Nat.zero_add, Option.some.injEq, exists_eq_left', Nat.reduceAdd, tk3, tk86, s0, s1, s2, hS'.s0, hS'.s1, hS'.s2, hcN]
  refine Wo.call hc (by rfl) (by rfl) ⟨by rfl, by rfl⟩ (xs := [.agg #[.int .i64 m, .slice sa st.length sc, .slice ra ro.length rc], .int .i64 (n' : Int)]) (by first | rfl | (simp only [sev_tmp, sev_const, sev_func, sg_eq, sg_ne, sp_n, sp_none, Nat.reduceLT, ne_eq, Nat.reduceEqDiff, not_false_eq_true, gd, nth, want_free, want_slot, beqB, List.map_cons, List.map_nil, Array.toList_empty, List.nil_append, List.append_nil, List.cons_append, hn]; done) | (simp only [sev_tmp, sev_const, sev_func, sg_eq, sg_ne, sp_n, sp_none, Nat.reduceLT, ne_eq, Nat.reduceEqDiff, not_false_eq_true, gd, nth, want_free, want_slot, beqB, List.map_cons, List.map_nil, Array.toList_empty, List.nil_append, List.append_nil, List.cons_append, hn]; rfl)) (by first | rfl | (simp only [sev_tmp, sev_const, sev_func, sg_eq, sg_ne, sp_n, sp_none, Nat.reduceLT, ne_eq, Nat.reduceEqDiff, not_false_eq_true, gd, nth, want_free, want_slot, beqB, List.map_cons, List.map_nil, Array.toList_empty, List.nil_append, List.append_nil, List.cons_append, hn]; done) | (simp only [sev_tmp, sev_const, sev_func, sg_eq, sg_ne, sp_n, sp_none, Nat.reduceLT, ne_eq, Nat.reduceEqDiff, not_false_eq_true, gd, nth, want_free, want_slot, beqB, List.map_cons, List.map_nil, Array.toList_empty, List.nil_append, List.append_nil, List.cons_append, hn]; rfl)) (by first | rfl | (simp only [sev_tmp, sg_eq, sg_ne, sp_n, Nat.reduceLT, ne_eq, Nat.reduceEqDiff, not_false_eq_true, List.map_cons, List.map_nil, List.nil_append, List.append_nil, hn]; done) | (simp only [sev_tmp, sev_const, sev_func, sg_eq, sg_ne, sp_n, sp_none, Nat.reduceLT, ne_eq, Nat.reduceEqDiff, not_false_eq_true, gd, nth, want_free, want_slot, beqB, List.map_cons, List.map_nil, Array.toList_empty, List.nil_append, List.append_nil, List.cons_append, hn]; rfl)) (Con.mono (at_stream hS'.wf (hS'.st'.mono (Nat.le_refl _) hS'.lm) (hS'.ro'.mono (Nat.le_refl _) hS'.lm) n' (by omega) hro (by omega) (by omega)) ?_)
  rintro w A2 ⟨rfl, hx2⟩
  have hat0 : atL st ro n' = atL st ro (n + i) := hat 0
  have hk2 : Kb bN A' A2 := Kb.of_nx bN hx2
  have hS2 : Src bS bN m sa sc st ra rc ro lim n' A2 := hS'.kb hk2 hSn hne hl (by rw [hx2.keep _ hNn]; exact hS'.at')
  refine Wo.callY hc (by rfl) (by rfl) ⟨by rfl, by rfl⟩ (fi := #[]) (ca := #[]) (xs := [.int .i64 (atL st ro (n + i))]) (by simp only [gd, want_free]) (by simp only [sev_tmp, sg_eq, sg_ne, Nat.reduceLT, ne_eq, Nat.reduceEqDiff, not_false_eq_true, hn]) (by simp only [sev_tmp, sg_eq, sp_n, Nat.reduceLT, List.map_cons, List.map_nil, hn, hat0]) (YCon.mono (hround i n' A2 hi (hkeep _ _ _ hΦ hk2) hS2) ?_)
  intro v A3 hv
  refine Wo.done hc rfl (hK _ _ ?_)
  clear hK
  (repeat (first | refine Rn.seq hc ?_ | refine Rn.skip hc ?_ | refine Rn.block hc ?_ | refine Rn.inBlock hc ?_ | refine Rn.scope hc ?_ | refine Rn.inScope hc ?_))
  by_cases hlast : i + 1 = many
  · rw [if_pos hlast] at hv
    obtain ⟨rfl, hF⟩ := hv
    refine Rn.condE hc rfl ?_
    simp only [sev_tmp, sg_eq, sp_n, Nat.reduceLT, Value.bool.injEq, exists_eq_left', hn]
    (repeat (first | refine Rn.seq hc ?_ | refine Rn.skip hc ?_ | refine Rn.block hc ?_ | refine Rn.inBlock hc ?_ | refine Rn.scope hc ?_ | refine Rn.inScope hc ?_))
    refine Rn.exit hc rfl ?_
    (repeat (first | refine Rn.seq hc ?_ | refine Rn.skip hc ?_ | refine Rn.block hc ?_ | refine Rn.inBlock hc ?_ | refine Rn.scope hc ?_ | refine Rn.inScope hc ?_))
    exact Rn.fall (endQ_none rfl (.inl rfl) hF)
  · rw [if_neg hlast] at hv
    obtain ⟨rfl, hΦ3, hS3⟩ := hv
    refine Rn.condE hc rfl ?_
    simp only [sev_tmp, sg_eq, sp_n, Nat.reduceLT, Value.bool.injEq, exists_eq_left', hn]
    (repeat (first | refine Rn.seq hc ?_ | refine Rn.skip hc ?_ | refine Rn.block hc ?_ | refine Rn.inBlock hc ?_ | refine Rn.scope hc ?_ | refine Rn.inScope hc ?_))
    have hSn3 : bS < A3.next := cl_lt hS3.wf hS3.s0
    have hcN3 : cl A3 bN 0 = some (.int .i64 (n' : Int)) := by rw [cl_of hS3.at' rfl]; rfl
    obtain ⟨A4, q1, q2⟩ := st1_upd (o := 0) (v := .int .i64 ((n' + 1 : Nat) : Int)) hS3.at' rfl (by simp) rfl
    have hk4 := Kb.of_upd hS3.wf q2
    have ha4 : Canon.look A4.objs bN = some ⟨.cells #[.int .i64 ((n' + 1 : Nat) : Int)] 3, false, 0⟩ := by
      obtain ⟨c, t, f, g, e, r1, r2, _⟩ := q2.at'
      rw [hS3.at'] at r1
      cases r1
      exact r2
    have hS4 := hS3.kb hk4 hSn3 hne hl ha4
    have hcN4 : cl A4 bN 0 = some (.int .i64 ((n' + 1 : Nat) : Int)) := by rw [cl_of ha4 rfl]; rfl
    refine Rn.reg hc rfl ?_
    simp only [sev_tmp, sev_const, sg_eq, sg_ne, sp_n, sp_none, Nat.reduceLT, ne_eq, Nat.reduceEqDiff, not_false_eq_true, gd, want_free, rops, fx, ld, str, bin_add, adr_p, Option.some.injEq, exists_eq_left', tk3, hn, s2, hcN3, wrap_succ (show n' < 9223372036854775807 by omega), q1]
    (repeat (first | refine Rn.seq hc ?_ | refine Rn.skip hc ?_ | refine Rn.block hc ?_ | refine Rn.inBlock hc ?_ | refine Rn.scope hc ?_ | refine Rn.inScope hc ?_))
    have hadd : IntKind.i64.wrap ((st.length : Int) + (ro.length : Int)) = ((st.length + ro.length : Nat) : Int) := by rw [IntWalk.i64_in _ (by omega)]; omega
    by_cases hge : st.length + ro.length ≤ n' + 1
    · have hd : decide (((st.length + ro.length : Nat) : Int) ≤ ((n' + 1 : Nat) : Int)) = true := by simp; omega
      refine Rn.reg hc rfl ?_
      simp only [sev_tmp, sg_eq, sg_ne, sp_n, Nat.reduceLT, ne_eq, Nat.reduceEqDiff, not_false_eq_true, gd, want_free, rops, fx, ld, fad, lng, bin_geq, bin_add, adr_p, Nat.zero_add, Nat.add_zero, Option.some.injEq, exists_eq_left', tk3, tk22, fo24_1, fo24_2, fo86_0, un22, hn, s1, s2, hcN4, hS4.s1, hS4.s2, hadd, hd]
      (repeat (first | refine Rn.seq hc ?_ | refine Rn.skip hc ?_ | refine Rn.block hc ?_ | refine Rn.inBlock hc ?_ | refine Rn.scope hc ?_ | refine Rn.inScope hc ?_))
      refine Rn.condE hc rfl ?_
      simp only [sev_tmp, sg_eq, sp_n, Nat.reduceLT, Value.bool.injEq, exists_eq_left', hn]
      (repeat (first | refine Rn.seq hc ?_ | refine Rn.skip hc ?_ | refine Rn.block hc ?_ | refine Rn.inBlock hc ?_ | refine Rn.scope hc ?_ | refine Rn.inScope hc ?_))
      have hsub : IntKind.i64.wrap (((n' + 1 : Nat) : Int) - (ro.length : Int)) = ((n' + 1 - ro.length : Nat) : Int) := by rw [IntWalk.i64_in _ (by omega)]; omega
      obtain ⟨A5, p1, p2⟩ := st1_upd (o := 0) (v := .int .i64 ((n' + 1 - ro.length : Nat) : Int)) ha4 rfl (by simp) rfl
      have hk5 := Kb.of_upd hS4.wf p2
      have ha5 : Canon.look A5.objs bN = some ⟨.cells #[.int .i64 ((n' + 1 - ro.length : Nat) : Int)] 3, false, 0⟩ := by
        obtain ⟨c, t, f, g, e, r1, r2, _⟩ := p2.at'
        rw [ha4] at r1
        cases r1
        exact r2
      have hS5 := hS4.kb hk5 (cl_lt hS4.wf hS4.s0) hne hl ha5
      refine Rn.reg hc rfl ?_
      simp only [sev_tmp, sg_eq, sg_ne, sp_n, sp_none, Nat.reduceLT, ne_eq, Nat.reduceEqDiff, not_false_eq_true, gd, want_free, rops, fx, ld, str, fad, lng, bin_sub, adr_p, Nat.zero_add, Nat.add_zero, Option.some.injEq, exists_eq_left', tk3, tk22, fo24_2, fo86_0, un22, hn, s1, s2, hcN4, hS4.s2, hsub, p1]
      (repeat (first | refine Rn.seq hc ?_ | refine Rn.skip hc ?_ | refine Rn.block hc ?_ | refine Rn.inBlock hc ?_ | refine Rn.scope hc ?_ | refine Rn.inScope hc ?_))
      refine ih _ _ _ (by omega) ⟨i + 1, n' + 1 - ro.length, by omega, rfl, hkeep _ _ _ hΦ3 (hk4.trans hk5), hS5, by omega, fun j => ?_, by simp only [sp_n, hn], by simp only [sg_ne, ne_eq, Nat.reduceEqDiff, not_false_eq_true, s0], by simp only [sg_ne, ne_eq, Nat.reduceEqDiff, not_false_eq_true, s1], by simp only [sg_ne, ne_eq, Nat.reduceEqDiff, not_false_eq_true, s2]⟩
      have := atL_wrap (st := st) (ro := ro) (n := n' + 1 + j) (by omega) hro
      rw [show n' + 1 - ro.length + j = n' + 1 + j - ro.length by omega, this, show n' + 1 + j = n' + (1 + j) by omega, hat]
      congr 1
      omega
    · have hd : decide (((st.length + ro.length : Nat) : Int) ≤ ((n' + 1 : Nat) : Int)) = false := by simp; omega
      refine Rn.reg hc rfl ?_
      simp only [sev_tmp, sg_eq, sg_ne, sp_n, Nat.reduceLT, ne_eq, Nat.reduceEqDiff, not_false_eq_true, gd, want_free, rops, fx, ld, fad, lng, bin_geq, bin_add, adr_p, Nat.zero_add, Nat.add_zero, Option.some.injEq, exists_eq_left', tk3, tk22, fo24_1, fo24_2, fo86_0, un22, hn, s1, s2, hcN4, hS4.s1, hS4.s2, hadd, hd]
      (repeat (first | refine Rn.seq hc ?_ | refine Rn.skip hc ?_ | refine Rn.block hc ?_ | refine Rn.inBlock hc ?_ | refine Rn.scope hc ?_ | refine Rn.inScope hc ?_))
      refine Rn.condE hc rfl ?_
      simp only [sev_tmp, sg_eq, sp_n, Nat.reduceLT, Value.bool.injEq, exists_eq_left', hn]
      (repeat (first | refine Rn.seq hc ?_ | refine Rn.skip hc ?_ | refine Rn.block hc ?_ | refine Rn.inBlock hc ?_ | refine Rn.scope hc ?_ | refine Rn.inScope hc ?_))
      refine ih _ _ _ (by omega) ⟨i + 1, n' + 1, by omega, rfl, hkeep _ _ _ hΦ3 hk4, hS4, by omega, fun j => ?_, by simp only [sp_n, hn], by simp only [sg_ne, ne_eq, Nat.reduceEqDiff, not_false_eq_true, s0], by simp only [sg_ne, ne_eq, Nat.reduceEqDiff, not_false_eq_true, s1], by simp only [sg_ne, ne_eq, Nat.reduceEqDiff, not_false_eq_true, s2]⟩
      rw [show n' + 1 + j = n' + (1 + j) by omega, hat]
      congr 1
      omega
end Go.Proofs.Ytdaljohmfnfgiaa
/- So many elements of a stream. No condition. -/
namespace Go.Proofs.Ytdaljohmfnfgiaa
open Go Go.RowKit Go.Proofs.Ytdaljohmfnfgiaa.Canon
set_option maxRecDepth 20000


theorem ze22 : zeroOf Try.prog 22 = some (.slice none 0 0) := by kernel_rfl
theorem so22_1 : sof Try.prog 22 1 = .mk (fun k => some (k * 1, 1)) 1 [.int .i64 0] := by kernel_rfl
section
variable {d : Option Tmp} {ty : TypeId} {pos : String} {af : Array Edge} {gu : Option (Nat × Bool)} {A : AHeap}
theorem bs22_1 {ρ : Operand → Value} {x : Tmp} (h : isCell (ρ (.tmp x)) = true) : aexec Try.prog ρ ⟨d, .buildSlice 22 1 #[(0, .tmp x)], ty, pos, af, gu⟩ A = some (.slice (some ⟨A.next, 0, none⟩) 1 1, A.push (.cells #[ρ (.tmp x)] 3)) := by
  refine ae_buildSlice (r := [ρ (.tmp x)]) (by rfl) so22_1 et22 rfl ?_
  simp [fbld, cells_isCell h]
noncomputable def mkD (v : Value) (A : AHeap) : Option (Value × AHeap) := aexec Try.prog (fun o => match o with
  | .const w => w
  | _ => v) ⟨none, .makeSlice 22 (.const (.int .i64 0)) (.tmp 0), 22, "", #[], none⟩ A
theorem ae_mkD {s : Slots} {x : Tmp} : aexec Try.prog (seval s) ⟨d, .makeSlice 22 (.const (.int .i64 0)) (.tmp x), ty, pos, af, gu⟩ A = mkD (sget s x) A := by
  simp [aexec, mkD, Op.operands, opnOK, sev_tmp, sev_const]
theorem mkD_nat {n : Nat} (h : n ≤ 1000) : mkD (.int .i64 (n : Int)) A = some (.slice (some ⟨A.next, 0, none⟩) 0 n, A.push (.cells (Array.replicate n (.int .i64 0)) 3)) :=
  ae_makeSlice (k := .i64) (k' := .i64) ⟨by rfl, by rfl⟩ el22 ze3 rfl (by rfl) rfl (by omega) (by omega) (by omega)
theorem takeDef_run {b : Nat} (h : A.obj b = some (.deferred (some []))) : arun Try.prog (Instr.takeDeferred b) A = some ([], ⟨A.next, putO A.objs b (.deferred none)⟩) := by
  simp [Instr.takeDeferred, getObj, setObj, arun, h, setObj_of h (show isRow (.deferred none) = false from rfl)]
theorem endQ_tmpD {f : Func} {t : Tmp} (hr : f.results = #[.tmp t]) {Q : Value → AHeap → Prop} {s : Slots} {b : Nat} (hd : A.obj b = some (.deferred (some []))) (h : Q (sget s t) ⟨A.next, putO A.objs b (.deferred none)⟩) : endQ Try.prog f Q .ret s [{ target := .collected b, args := #[] }] A := by
  refine ⟨sget s t, ⟨A.next, putO A.objs b (.deferred none)⟩, ?_, h⟩
  have e : sresults Try.prog f s ⟨A.next, putO A.objs b (.deferred none)⟩ = some (sget s t, ⟨A.next, putO A.objs b (.deferred none)⟩) := by
    unfold sresults
    rw [hr]
  show (match arun Try.prog (Instr.takeDeferred b) A with | some (l, A1) => (match l with | [] => VR.of (sresults Try.prog f s A1) | _ => VR.no) | none => VR.no) = _
  rw [takeDef_run hd]
  simp only [e]
  rfl
end
theorem elements_of {A : AHeap} (hw : WF A) {m : Int} {sa ra : Option Addr} {sc rc : Nat} {st ro : List Int} (hs : Ints A sa 0 A.next st) (hr : Ints A ra 0 A.next ro) (n : Nat) :
    Con Try.prog 106 [.agg #[.int .i64 m, .slice sa st.length sc, .slice ra ro.length rc], .int .i64 (n : Int)] A
      (fun v A1 => v = .func (.func 113) #[] #[.pointer (some ⟨A.next, 0, none⟩), .pointer (some ⟨A.next + 1, 0, none⟩)] ∧ A1.next = A.next + 2 ∧ Nx A.next A A1 ∧ Src A.next (A.next + 1) m sa sc st ra rc ro A.next n A1) := by
  refine con_of_rn hc Try.func106 rfl (Nat.le_of_ble_eq_true rfl) ?_
  obtain ⟨A1, e1, hx1, hn1, b0, b1, b2⟩ := box3 hw (.int .i64 m) (.slice sa st.length sc) (.slice ra ro.length rc) 86
  have hx2 : Nx A1.next A1 (A1.push (.cells #[.int .i64 (n : Int)] 3)) := (Nx.refl hx1.wf _).push (Nat.le_refl _) _
  have l2 := look_push_eq A1 (.cells #[.int .i64 (n : Int)] 3)
  have hn2 : (A1.push (.cells #[.int .i64 (n : Int)] 3)).next = A1.next + 1 := rfl
  generalize e2 : A1.push (.cells #[.int .i64 (n : Int)] 3) = A2 at hx2 l2 hn2
  have hxx : Nx A.next A A2 := hx1.trans (hx2.le hx1.next)
  rw [s_in2]
  (repeat (first | refine Rn.seq hc ?_ | refine Rn.skip hc ?_ | refine Rn.block hc ?_ | refine Rn.inBlock hc ?_ | refine Rn.scope hc ?_ | refine Rn.inScope hc ?_))
  refine Rn.reg hc rfl ?_
  simp only [sev_tmp, sev_const, sg_eq, sg_ne, sp_n, Nat.reduceLT, ne_eq, Nat.reduceEqDiff, not_false_eq_true, gd, want_free, rops, fx, Option.some.injEq, exists_eq_left', Value.cells, show Try.f106.ntmps = 6 from rfl, e1, e2]
  (repeat (first | refine Rn.seq hc ?_ | refine Rn.skip hc ?_ | refine Rn.block hc ?_ | refine Rn.inBlock hc ?_ | refine Rn.scope hc ?_ | refine Rn.inScope hc ?_))
  refine Rn.reg hc rfl ?_
  simp only [sev_tmp, sg_eq, sg_ne, sp_n, Nat.reduceLT, ne_eq, Nat.reduceEqDiff, not_false_eq_true, gd, want_free, rops, fx, Option.some.injEq, exists_eq_left', ae_mkfunc2]
  (repeat (first | refine Rn.seq hc ?_ | refine Rn.skip hc ?_ | refine Rn.block hc ?_ | refine Rn.inBlock hc ?_ | refine Rn.scope hc ?_ | refine Rn.inScope hc ?_))
  refine Rn.ret (endQ_tmp rfl ⟨?_, by omega, hxx, ⟨hxx.wf, by omega, (hx2.cl (by omega) 0).trans b0, (hx2.cl (by omega) 1).trans b1, (hx2.cl (by omega) 2).trans b2, ?_, hs.nx hxx (Nat.le_refl _), hr.nx hxx (Nat.le_refl _)⟩⟩)
  · simp only [sg_eq, sp_n, Nat.reduceLT, hn1]
  · rw [← hn1]; exact l2
def takeL (st ro : List Int) (n many : Nat) : List Int := (List.range many).map fun i => atL st ro (n + i)
theorem takeL_len (st ro : List Int) (n many : Nat) : (takeL st ro n many).length = many := by simp [takeL]
theorem takeL_get (st ro : List Int) (n many : Nat) {i : Nat} (h : i < many) : (takeL st ro n many).getD i 0 = atL st ro (n + i) := by
  simp [takeL, List.getD_eq_getElem?_getD, h]

theorem put_facts {B : AHeap} {l : Nat} {o : Obj} (hw : WF B) {x : AObj} (h : Canon.look B.objs l = some x) : ∃ B1, (⟨B.next, putO B.objs l o⟩ : AHeap) = B1 ∧ B1.next = B.next ∧ WF B1 ∧ Canon.look B1.objs l = some { x with o := o } ∧ ∀ b, b ≠ l → Canon.look B1.objs b = Canon.look B.objs b :=
  ⟨_, rfl, rfl, hw.put _ _, by rw [look_put, if_pos rfl, h]; rfl, fun b hb => by rw [look_put, if_neg (fun hh => hb hh.symm)]⟩
theorem zip1 (p : Tmp) (v : Value) (T : Array Value) : ((#[p] : Array Tmp).zip (⟨[v]⟩ : Array Value)).foldl (fun tmps (t, a) => tmps.setIfInBounds t a) T = fput T (some p) v := by
  simp [fput, Array.zip]
  exact Array.ext' (by simp)
theorem loop_back {r : Loop} (h1 : r.state = .ready) (h2 : r.pending = none) : ({ r with state := .ready, pending := none } : Loop) = r := by
  cases r
  simp only at h1 h2
  rw [h1, h2]

theorem take_stream {A : AHeap} (hw : WF A) {m : Int} {sa ra : Option Addr} {sc rc : Nat} {st ro : List Int} (hs : Ints A sa 0 A.next st) (hr : Ints A ra 0 A.next ro) (ls : st.length < 1000) (lr : ro.length < 1000) (hro : 0 < ro.length) {n many : Nat} (hm : many ≤ 1000) (hn : n < 100000) :
    Con Try.prog 78 [.agg #[.int .i64 m, .slice sa st.length sc, .slice ra ro.length rc], .int .i64 (n : Int), .int .i64 (many : Int)] A
      (fun v A1 => ∃ a' c', v = .slice a' many c' ∧ Nx A.next A A1 ∧ Ints A1 a' 0 A1.next (takeL st ro n many)) := by
  refine con_of_rn hc Try.func78 rfl (Nat.le_of_ble_eq_true rfl) ?_
  obtain ⟨A1, e1, hx1, hn1, b0, b1, b2⟩ := box3 hw (.int .i64 m) (.slice sa st.length sc) (.slice ra ro.length rc) 86
  have hx2 : Nx A1.next A1 (A1.push (.cells #[.int .i64 (many : Int)] 3)) := (Nx.refl hx1.wf _).push (Nat.le_refl _) _
  have b5 : cl (A1.push (.cells #[.int .i64 (many : Int)] 3)) A1.next 0 = some (.int .i64 (many : Int)) := by rw [cl_push_eq]; rfl
  have hn2 : (A1.push (.cells #[.int .i64 (many : Int)] 3)).next = A1.next + 1 := rfl
  generalize e2 : A1.push (.cells #[.int .i64 (many : Int)] 3) = A2 at hx2 b5 hn2
  have hx3 : Nx A2.next A2 (A2.push (.cells (Array.replicate many (.int .i64 0)) 3)) := (Nx.refl hx2.wf _).push (Nat.le_refl _) _
  have l3 := look_push_eq A2 (.cells (Array.replicate many (.int .i64 0)) 3)
  have hn3 : (A2.push (.cells (Array.replicate many (.int .i64 0)) 3)).next = A2.next + 1 := rfl
  generalize e3 : A2.push (.cells (Array.replicate many (.int .i64 0)) 3) = A3 at hx3 l3 hn3
  have hx4 : Nx A3.next A3 (A3.push (.cells #[.slice none 0 0] 22)) := (Nx.refl hx3.wf _).push (Nat.le_refl _) _
  have l4 := look_push_eq A3 (.cells #[.slice none 0 0] 22)
  have hn4 : (A3.push (.cells #[.slice none 0 0] 22)).next = A3.next + 1 := rfl
  generalize e4 : A3.push (.cells #[.slice none 0 0] 22) = A4 at hx4 l4 hn4
  obtain ⟨A5, q1, q2⟩ := st1_upd (o := 0) (v := .slice (some ⟨A2.next, 0, none⟩) 0 many) l4 rfl (by simp) rfl
  have l5 : Canon.look A5.objs A3.next = some ⟨.cells #[.slice (some ⟨A2.next, 0, none⟩) 0 many] 22, false, 0⟩ := by
    obtain ⟨c, t, f, g, e, r1, r2, _⟩ := q2.at'
    rw [l4] at r1
    cases r1
    exact r2
  have hx5 : Nx A3.next A3 A5 := hx4.trans (q2.nx hx4.wf (Nat.le_refl _))
  have hn5 : A5.next = A4.next := q2.next
  have hx05 : Nx A.next A A5 := (hx1.trans (hx2.le hx1.next)).trans ((hx3.le (by omega)).trans (hx5.le (by omega)))
  have d7 : cl A5 A3.next 0 = some (.slice (some ⟨A2.next, 0, none⟩) 0 many) := by rw [cl_of l5 rfl]; rfl
  have d5 : cl A5 A1.next 0 = some (.int .i64 (many : Int)) := by rw [hx5.cl (by omega), hx3.cl (by omega)]; exact b5
  have dR : Canon.look A5.objs A2.next = some ⟨.cells (Array.replicate many (.int .i64 0)) 3, false, 0⟩ := by rw [hx5.keep _ (by omega)]; exact l3
  have d0 : cl A5 A.next 0 = some (.int .i64 m) := by rw [hx5.cl (by omega), hx3.cl (by omega), hx2.cl (by omega)]; exact b0
  have d1 : cl A5 A.next 1 = some (.slice sa st.length sc) := by rw [hx5.cl (by omega), hx3.cl (by omega), hx2.cl (by omega)]; exact b1
  have d2 : cl A5 A.next 2 = some (.slice ra ro.length rc) := by rw [hx5.cl (by omega), hx3.cl (by omega), hx2.cl (by omega)]; exact b2
  rw [s_in3]
  (repeat (first | refine Rn.seq hc ?_ | refine Rn.skip hc ?_ | refine Rn.block hc ?_ | refine Rn.inBlock hc ?_ | refine Rn.scope hc ?_ | refine Rn.inScope hc ?_))
  refine Rn.reg hc rfl ?_
  simp only [sev_tmp, sev_const, sg_eq, sg_ne, sp_n, Nat.reduceLT, ne_eq, Nat.reduceEqDiff, not_false_eq_true, gd, want_free, rops, fx, Option.some.injEq, exists_eq_left', Value.cells, show Try.f78.ntmps = 27 from rfl, e1, e2]
  (repeat (first | refine Rn.seq hc ?_ | refine Rn.skip hc ?_ | refine Rn.block hc ?_ | refine Rn.inBlock hc ?_ | refine Rn.scope hc ?_ | refine Rn.inScope hc ?_))
  refine Rn.reg hc rfl ?_
  simp only [sev_tmp, sg_eq, sg_ne, sp_n, sp_none, Nat.reduceLT, ne_eq, Nat.reduceEqDiff, not_false_eq_true, gd, want_free, rops, fx, ld, str, adr_p, Option.some.injEq, exists_eq_left', Value.cells, tk3, tk22, b5, ae_mkD, mkD_nat hm, e3, ze22, e4, q1]
  (repeat (first | refine Rn.seq hc ?_ | refine Rn.skip hc ?_ | refine Rn.block hc ?_ | refine Rn.inBlock hc ?_ | refine Rn.scope hc ?_ | refine Rn.inScope hc ?_))
  by_cases h0 : many = 0
  · subst h0
    refine Rn.reg hc rfl ?_
    simp only [sev_tmp, sev_const, sg_eq, sg_ne, sp_n, Nat.reduceLT, ne_eq, Nat.reduceEqDiff, not_false_eq_true, gd, want_free, rops, fx, ld, bin_eql, adr_p, Option.some.injEq, exists_eq_left', tk3, d5, show decide (((0 : Nat) : Int) = 0) = true from rfl]
    (repeat (first | refine Rn.seq hc ?_ | refine Rn.skip hc ?_ | refine Rn.block hc ?_ | refine Rn.inBlock hc ?_ | refine Rn.scope hc ?_ | refine Rn.inScope hc ?_))
    refine Rn.condE hc rfl ?_
    simp only [sev_tmp, sg_eq, sp_n, Nat.reduceLT, Value.bool.injEq, exists_eq_left']
    (repeat (first | refine Rn.seq hc ?_ | refine Rn.skip hc ?_ | refine Rn.block hc ?_ | refine Rn.inBlock hc ?_ | refine Rn.scope hc ?_ | refine Rn.inScope hc ?_))
    refine Rn.reg hc rfl ?_
    simp only [sev_tmp, sg_eq, sg_ne, sp_n, Nat.reduceLT, ne_eq, Nat.reduceEqDiff, not_false_eq_true, gd, want_free, rops, fx, ld, adr_p, Option.some.injEq, exists_eq_left', tk22, d7]
    (repeat (first | refine Rn.seq hc ?_ | refine Rn.skip hc ?_ | refine Rn.block hc ?_ | refine Rn.inBlock hc ?_ | refine Rn.scope hc ?_ | refine Rn.inScope hc ?_))
    refine Rn.ret (endQ_tmp rfl ⟨some ⟨A2.next, 0, none⟩, 0, ?_, hx05, fun i hi => ?_⟩)
    · simp only [sg_eq, sp_n, Nat.reduceLT]
    · rw [takeL_len] at hi; omega
  · have hd : decide ((many : Int) = 0) = false := by simp; omega
    refine Rn.reg hc rfl ?_
    simp only [sev_tmp, sev_const, sg_eq, sg_ne, sp_n, Nat.reduceLT, ne_eq, Nat.reduceEqDiff, not_false_eq_true, gd, want_free, rops, fx, ld, bin_eql, adr_p, Option.some.injEq, exists_eq_left', tk3, d5, hd]
    (repeat (first | refine Rn.seq hc ?_ | refine Rn.skip hc ?_ | refine Rn.block hc ?_ | refine Rn.inBlock hc ?_ | refine Rn.scope hc ?_ | refine Rn.inScope hc ?_))
    refine Rn.condE hc rfl ?_
    simp only [sev_tmp, sg_eq, sp_n, Nat.reduceLT, Value.bool.injEq, exists_eq_left']
    (repeat (first | refine Rn.seq hc ?_ | refine Rn.skip hc ?_ | refine Rn.block hc ?_ | refine Rn.inBlock hc ?_ | refine Rn.scope hc ?_ | refine Rn.inScope hc ?_))
    refine Rn.region hc fun K hK => ?_
    refine Wo.run hc 2 rfl rfl rfl ?_
    simp only [List.drop_zero, List.take_succ_cons, List.take_zero, sev_tmp, sg_eq, sg_ne, sp_n, Nat.reduceLT, ne_eq, Nat.reduceEqDiff, not_false_eq_true, gd, want_free, rops, fx, ld, adr_p, cls, Nat.zero_add, Option.some.injEq, exists_eq_left', Nat.reduceAdd, tk86, d0, d1, d2]
    refine Wo.call hc (by rfl) (by rfl) ⟨by rfl, by rfl⟩ (xs := [.agg #[.int .i64 m, .slice sa st.length sc, .slice ra ro.length rc], .int .i64 (n : Int)]) (by first | rfl | (simp only [sev_tmp, sev_const, sev_func, sg_eq, sg_ne, sp_n, sp_none, Nat.reduceLT, ne_eq, Nat.reduceEqDiff, not_false_eq_true, gd, nth, want_free, want_slot, beqB, List.map_cons, List.map_nil, Array.toList_empty, List.nil_append, List.append_nil, List.cons_append]; done) | (simp only [sev_tmp, sev_const, sev_func, sg_eq, sg_ne, sp_n, sp_none, Nat.reduceLT, ne_eq, Nat.reduceEqDiff, not_false_eq_true, gd, nth, want_free, want_slot, beqB, List.map_cons, List.map_nil, Array.toList_empty, List.nil_append, List.append_nil, List.cons_append]; rfl)) (by first | rfl | (simp only [sev_tmp, sev_const, sev_func, sg_eq, sg_ne, sp_n, sp_none, Nat.reduceLT, ne_eq, Nat.reduceEqDiff, not_false_eq_true, gd, nth, want_free, want_slot, beqB, List.map_cons, List.map_nil, Array.toList_empty, List.nil_append, List.append_nil, List.cons_append]; done) | (simp only [sev_tmp, sev_const, sev_func, sg_eq, sg_ne, sp_n, sp_none, Nat.reduceLT, ne_eq, Nat.reduceEqDiff, not_false_eq_true, gd, nth, want_free, want_slot, beqB, List.map_cons, List.map_nil, Array.toList_empty, List.nil_append, List.append_nil, List.cons_append]; rfl)) (by first | rfl | (simp only [sev_tmp, sev_const, sev_func, sg_eq, sg_ne, sp_n, sp_none, Nat.reduceLT, ne_eq, Nat.reduceEqDiff, not_false_eq_true, gd, nth, want_free, want_slot, beqB, List.map_cons, List.map_nil, Array.toList_empty, List.nil_append, List.append_nil, List.cons_append]; done) | (simp only [sev_tmp, sev_const, sev_func, sg_eq, sg_ne, sp_n, sp_none, Nat.reduceLT, ne_eq, Nat.reduceEqDiff, not_false_eq_true, gd, nth, want_free, want_slot, beqB, List.map_cons, List.map_nil, Array.toList_empty, List.nil_append, List.append_nil, List.cons_append]; rfl)) (Con.mono (elements_of hx05.wf ((hs.nx hx05 (Nat.le_refl _)).mono (Nat.le_refl _) hx05.next) ((hr.nx hx05 (Nat.le_refl _)).mono (Nat.le_refl _) hx05.next) n) ?_)
    rintro w A6 ⟨rfl, hn6, hx6, hS6⟩
    refine Wo.done hc rfl (hK _ _ ?_)
    clear hK
    (repeat (first | refine Rn.seq hc ?_ | refine Rn.skip hc ?_ | refine Rn.block hc ?_ | refine Rn.inBlock hc ?_ | refine Rn.scope hc ?_ | refine Rn.inScope hc ?_))
    refine Rn.rangeR hc (by rfl) (g := 113) (first := #[]) (captured := #[.pointer (some ⟨A5.next, 0, none⟩), .pointer (some ⟨A5.next + 1, 0, none⟩)]) (by simp only [sev_tmp, sg_eq, sp_n, Nat.reduceLT]) ?_
    intro r hst hpd hfn htm hps hasg hbd
    have g7 := look_push_eq (A6.push (.deferred (some []))) (.loop r)
    have g6 : Canon.look ((A6.push (.deferred (some []))).push (.loop r)).objs A6.next = some ⟨.deferred (some []), false, 0⟩ := by
      rw [look_push_ne (show (A6.push (.deferred (some []))).next ≠ A6.next by rw [push_next]; omega)]
      exact look_push_eq _ _
    have hx7 : Nx A6.next A6 ((A6.push (.deferred (some []))).push (.loop r)) := ((Nx.refl hx6.wf _).push (Nat.le_refl _) _).push (Nat.le_refl _) _
    have hn7 : ((A6.push (.deferred (some []))).push (.loop r)).next = A6.next + 2 := rfl
    rw [push_next] at g7
    generalize e7 : (A6.push (.deferred (some []))).push (.loop r) = A7 at g6 g7 hx7 hn7
    have hx57 : Nx A5.next A5 A7 := hx6.trans (hx7.le (by omega))
    obtain ⟨Φ, hΦ⟩ : ∃ Φ : Nat → AHeap → Prop, ∀ i B, Φ i B ↔ ((∃ c, Canon.look B.objs A2.next = some ⟨.cells c 3, false, 0⟩ ∧ c.size = many ∧ ∀ k, k < i → c[k]? = some (.int .i64 (atL st ro (n + k)))) ∧ Canon.look B.objs A3.next = some ⟨.cells #[.slice (some ⟨A2.next, 0, none⟩) i many] 22, false, 0⟩ ∧ cl B A1.next 0 = some (.int .i64 (many : Int)) ∧
      Canon.look B.objs A6.next = some ⟨.deferred (some []), false, 0⟩ ∧ Canon.look B.objs (A6.next + 1) = some ⟨.loop r, false, 0⟩ ∧ A7.next ≤ B.next ∧ ∀ b, b < A.next → Canon.look B.objs b = Canon.look A.objs b) := ⟨_, fun _ _ => Iff.rfl⟩
    obtain ⟨Fin, hFin⟩ : ∃ Fin : AHeap → Prop, ∀ B, Fin B ↔ (WF B ∧ (∃ c, Canon.look B.objs A2.next = some ⟨.cells c 3, false, 0⟩ ∧ c.size = many ∧ ∀ k, k < many → c[k]? = some (.int .i64 (atL st ro (n + k)))) ∧ Canon.look B.objs A3.next = some ⟨.cells #[.slice (some ⟨A2.next, 0, none⟩) many many] 22, false, 0⟩ ∧
      Canon.look B.objs A6.next = some ⟨.deferred (some []), false, 0⟩ ∧ (∃ r', Canon.look B.objs (A6.next + 1) = some ⟨.loop r', false, 0⟩ ∧ (r'.state == .busy) = false ∧ r'.pending = some (.exit 0)) ∧ A7.next ≤ B.next ∧ ∀ b, b < A.next → Canon.look B.objs b = Canon.look A.objs b) := ⟨_, fun _ => Iff.rfl⟩
    have hkeep : ∀ i B C, Φ i B → Kb (A5.next + 1) B C → Φ i C := fun i B C h k => by
      rw [hΦ] at h ⊢
      obtain ⟨⟨c, h1, h2, h3⟩, h4, h5, h6, h7, h8, h9⟩ := h
      exact ⟨⟨c, by rw [k.keep _ (by omega) (by omega)]; exact h1, h2, h3⟩, by rw [k.keep _ (by omega) (by omega)]; exact h4, by rw [k.cl (by omega) (by omega)]; exact h5, by rw [k.keep _ (by omega) (by omega)]; exact h6, by rw [k.keep _ (by omega) (by omega)]; exact h7, Nat.le_trans h8 k.next, fun b hb => by rw [k.keep _ (by omega) (by omega)]; exact h9 b hb⟩
    have hΦ0 : Φ 0 A7 := by
      rw [hΦ]
      refine ⟨⟨_, by rw [hx57.keep _ (by omega)]; exact dR, by simp, fun k hk => by omega⟩, by rw [hx57.keep _ (by omega)]; exact l5, by rw [hx57.cl (by omega)]; exact d5, g6, g7, Nat.le_refl _, fun b hb => by rw [hx57.keep _ (by omega), hx05.keep _ (by omega)]⟩
    have hS7 : Src A5.next (A5.next + 1) m sa sc st ra rc ro A.next n A7 := ⟨hx7.wf, by omega, by rw [hx7.cl (by omega)]; exact hS6.s0, by rw [hx7.cl (by omega)]; exact hS6.s1, by rw [hx7.cl (by omega)]; exact hS6.s2, by rw [hx7.keep _ (by omega)]; exact hS6.at', (hs.nx hx05 (Nat.le_refl _)).nx (hx57.le (by omega)) (Nat.le_refl _), (hr.nx hx05 (Nat.le_refl _)).nx (hx57.le (by omega)) (Nat.le_refl _)⟩
    refine Con.mono (Q := fun _ B => Fin B) (elements_run (Φ := Φ) (Fin := Fin) (l := A6.next + 1) (many := many) (n := n) (by omega) (by omega) hro ls lr (by omega) hkeep ?_ hΦ0 hS7 (by omega)) ?_
    · intro i n' B hi hB hSB
      rw [hΦ] at hB
      obtain ⟨⟨c, h1, h2, h3⟩, h4, h5, h6, h7, h8, h9⟩ := hB
      have hwB := hSB.wf
      refine ycon_of_rn hc (obj_of h7 rfl) (by rw [hps]; rfl) (s0 := sput _ (some 17) (.int .i64 (atL st ro (n + i)))) (by rw [hps, htm, zip1]; exact (sput_eq _ (some 17) _).symm) ?_
      rw [hfn, hasg, hbd]
      (repeat (first | refine Rn.seq hc ?_ | refine Rn.skip hc ?_ | refine Rn.block hc ?_ | refine Rn.inBlock hc ?_ | refine Rn.scope hc ?_ | refine Rn.inScope hc ?_))
      refine Rn.reg hc rfl ?_
      simp only [sev_tmp, sg_eq, sp_n, Nat.reduceLT, gd, want_free, rops, fx, Option.some.injEq, exists_eq_left']
      (repeat (first | refine Rn.seq hc ?_ | refine Rn.skip hc ?_ | refine Rn.block hc ?_ | refine Rn.inBlock hc ?_ | refine Rn.scope hc ?_ | refine Rn.inScope hc ?_))
      obtain ⟨B1, f1, fn1, fw1, fl1, fk1⟩ := put_facts (o := .loop { r with state := .busy }) hwB h7
      refine Rn.begin hc (A1 := B1) (by rw [begin_run (obj_of h7 rfl) hst, f1]) ?_
      have hxB2 : Nx B1.next B1 (B1.push (.cells #[.int .i64 (atL st ro (n + i))] 3)) := (Nx.refl fw1 _).push (Nat.le_refl _) _
      have lB2 := look_push_eq B1 (.cells #[.int .i64 (atL st ro (n + i))] 3)
      have hnB2 : (B1.push (.cells #[.int .i64 (atL st ro (n + i))] 3)).next = B1.next + 1 := rfl
      generalize eB2 : B1.push (.cells #[.int .i64 (atL st ro (n + i))] 3) = B2 at hxB2 lB2 hnB2
      have k2 : ∀ b, b ≠ A6.next + 1 → b < A7.next → Canon.look B2.objs b = Canon.look B.objs b := fun b hb hb2 => by rw [hxB2.keep _ (by omega), fk1 _ hb]
      obtain ⟨B3, c3, u1, u2, u3, u4⟩ := sts_upd (A := B2) (b := A2.next) (o := i) (l := [.int .i64 (atL st ro (n + i))]) (by rw [k2 _ (by omega) (by omega)]; exact h1) rfl (by simp; omega) rfl
      have l3' : Canon.look B3.objs A3.next = some ⟨.cells #[.slice (some ⟨A2.next, 0, none⟩) i many] 22, false, 0⟩ := by rw [u2.off _ (by omega), k2 _ (by omega) (by omega)]; exact h4
      obtain ⟨B4, w1, w2⟩ := st1_upd (o := 0) (v := .slice (some ⟨A2.next, 0, none⟩) (i + 1) many) l3' rfl (by simp) rfl
      have happ := aapp_room (P := Try.prog) (A := B2) (A1 := B3) (st := 22) (tx := 22) (b := A2.next) (o := 0) (a2 := some ⟨B1.next, 0, none⟩) (n := i) (c := many) (m := 1) (c2 := 1) (l2 := [.int .i64 (atL st ro (n + i))]) el22 un22
        (.inr ⟨_, _, rfl, fun j hj => by have : j = 0 := by simp at hj; omega
                                         subst this
                                         rw [cl_of lB2 rfl]; rfl⟩) rfl rfl (fun h => by cases h) (by omega) (by rw [Nat.zero_add]; exact u1)
      have d7' : cl B1 A3.next 0 = some (.slice (some ⟨A2.next, 0, none⟩) i many) := by rw [cl_look (fk1 _ (by omega)), cl_of h4 rfl]; rfl
      (repeat (first | refine Rn.seq hc ?_ | refine Rn.skip hc ?_ | refine Rn.block hc ?_ | refine Rn.inBlock hc ?_ | refine Rn.scope hc ?_ | refine Rn.inScope hc ?_))
      refine Rn.reg hc rfl ?_
      simp only [sev_tmp, sg_eq, sg_ne, sp_n, sp_none, Nat.reduceLT, ne_eq, Nat.reduceEqDiff, not_false_eq_true, gd, want_free, rops, fx, ld, str, adr_p, Option.some.injEq, exists_eq_left', tk22, d7', bs22_1, isCell, eB2, ae_apd, apd_slice, happ, w1]
      (repeat (first | refine Rn.seq hc ?_ | refine Rn.skip hc ?_ | refine Rn.block hc ?_ | refine Rn.inBlock hc ?_ | refine Rn.scope hc ?_ | refine Rn.inScope hc ?_))
      have l4' : Canon.look B4.objs A3.next = some ⟨.cells #[.slice (some ⟨A2.next, 0, none⟩) (i + 1) many] 22, false, 0⟩ := by
        obtain ⟨c, t, f, g, e, r1, r2, _⟩ := w2.at'
        rw [l3'] at r1
        cases r1
        exact r2
      have lR' : Canon.look B4.objs A2.next = some ⟨.cells c3 3, false, 0⟩ := by
        obtain ⟨c', t, f, g, e, r1, r2, _⟩ := u2.at'
        rw [k2 _ (by omega) (by omega), h1] at r1
        cases r1
        rw [w2.off _ (by omega)]
        exact r2
      have k4 : ∀ b, b ≠ A6.next + 1 → b ≠ A2.next → b ≠ A3.next → b < A7.next → Canon.look B4.objs b = Canon.look B.objs b := fun b q1 q2 q3 q4 => by rw [w2.off _ q3, u2.off _ q2, k2 _ q1 q4]
      have lL' : Canon.look B4.objs (A6.next + 1) = some ⟨.loop { r with state := .busy }, false, 0⟩ := by rw [w2.off _ (by omega), u2.off _ (by omega), hxB2.keep _ (by omega)]; exact fl1
      have nB4 : B4.next = B.next + 1 := by rw [w2.next, u2.next, hnB2, fn1]
      have wB4 : WF B4 := (w2.nx (u2.nx hxB2.wf (Nat.zero_le _)).wf (Nat.zero_le _)).wf
      have d7'' : cl B4 A3.next 0 = some (.slice (some ⟨A2.next, 0, none⟩) (i + 1) many) := by rw [cl_of l4' rfl]; rfl
      have d5'' : cl B4 A1.next 0 = some (.int .i64 (many : Int)) := by rw [cl_look (k4 _ (by omega) (by omega) (by omega) (by omega))]; exact h5
      have hc3 : ∀ k, k < i + 1 → c3[k]? = some (.int .i64 (atL st ro (n + k))) := fun k hk => by
        rw [u4]
        by_cases hki : k = i
        · subst hki
          rw [if_pos ⟨Nat.le_refl _, by simp⟩]
          simp
        · rw [if_neg (by simp; omega)]
          exact h3 k (by omega)
      by_cases hlast : i + 1 = many
      · have hd2 : decide (((i + 1 : Nat) : Int) = (many : Int)) = true := by simp; omega
        refine Rn.reg hc rfl ?_
        simp only [sev_tmp, sg_eq, sg_ne, sp_n, Nat.reduceLT, ne_eq, Nat.reduceEqDiff, not_false_eq_true, gd, want_free, rops, fx, ld, lng, bin_eql, adr_p, Option.some.injEq, exists_eq_left', tk3, tk22, un22, d7'', d5'', hd2]
        (repeat (first | refine Rn.seq hc ?_ | refine Rn.skip hc ?_ | refine Rn.block hc ?_ | refine Rn.inBlock hc ?_ | refine Rn.scope hc ?_ | refine Rn.inScope hc ?_))
        refine Rn.condE hc rfl ?_
        simp only [sev_tmp, sg_eq, sp_n, Nat.reduceLT, Value.bool.injEq, exists_eq_left']
        (repeat (first | refine Rn.seq hc ?_ | refine Rn.skip hc ?_ | refine Rn.block hc ?_ | refine Rn.inBlock hc ?_ | refine Rn.scope hc ?_ | refine Rn.inScope hc ?_))
        refine Rn.exitOut (by rfl) ?_
        obtain ⟨B5, p1, p2, p3, p4, p5⟩ := put_facts (o := .loop { r with state := .done, pending := some (.exit 0) }) wB4 lL'
        refine ⟨_, B5, (endRound_run (obj_of lL' rfl) _).trans (by rw [← p1]; rfl), ?_⟩
        rw [if_pos hlast]
        refine ⟨rfl, ?_⟩
        rw [hFin]
        refine ⟨p3, ⟨c3, by rw [p5 _ (by omega)]; exact lR', by rw [u3]; exact h2, fun k hk => hc3 k (by omega)⟩, by rw [p5 _ (by omega), l4', hlast], by rw [p5 _ (by omega), k4 _ (by omega) (by omega) (by omega) (by omega)]; exact h6, ⟨_, p4, rfl, rfl⟩, by omega, fun b hb => by rw [p5 _ (by omega), k4 _ (by omega) (by omega) (by omega) (by omega)]; exact h9 b hb⟩
      · have hd2 : decide (((i + 1 : Nat) : Int) = (many : Int)) = false := by simp; omega
        refine Rn.reg hc rfl ?_
        simp only [sev_tmp, sg_eq, sg_ne, sp_n, Nat.reduceLT, ne_eq, Nat.reduceEqDiff, not_false_eq_true, gd, want_free, rops, fx, ld, lng, bin_eql, adr_p, Option.some.injEq, exists_eq_left', tk3, tk22, un22, d7'', d5'', hd2]
        (repeat (first | refine Rn.seq hc ?_ | refine Rn.skip hc ?_ | refine Rn.block hc ?_ | refine Rn.inBlock hc ?_ | refine Rn.scope hc ?_ | refine Rn.inScope hc ?_))
        refine Rn.condE hc rfl ?_
        simp only [sev_tmp, sg_eq, sp_n, Nat.reduceLT, Value.bool.injEq, exists_eq_left']
        (repeat (first | refine Rn.seq hc ?_ | refine Rn.skip hc ?_ | refine Rn.block hc ?_ | refine Rn.inBlock hc ?_ | refine Rn.scope hc ?_ | refine Rn.inScope hc ?_))
        obtain ⟨B5, p1, p2, p3, p4, p5⟩ := put_facts (o := .loop { r with state := .ready, pending := none }) wB4 lL'
        refine Rn.fall ⟨_, B5, (endRound_run (obj_of lL' rfl) _).trans (by rw [← p1]; rfl), ?_⟩
        rw [if_neg hlast]
        refine ⟨rfl, ?_, ?_⟩
        · rw [hΦ]
          refine ⟨⟨c3, by rw [p5 _ (by omega)]; exact lR', by rw [u3]; exact h2, hc3⟩, by rw [p5 _ (by omega)]; exact l4', by rw [cl_look (p5 _ (by omega))]; exact d5'', by rw [p5 _ (by omega), k4 _ (by omega) (by omega) (by omega) (by omega)]; exact h6, by rw [p4, loop_back hst hpd], by omega, fun b hb => by rw [p5 _ (by omega), k4 _ (by omega) (by omega) (by omega) (by omega)]; exact h9 b hb⟩
        · have hS : ∀ b, b ≠ A6.next + 1 → b ≠ A2.next → b ≠ A3.next → b < A7.next → Canon.look B5.objs b = Canon.look B.objs b := fun b q1 q2 q3 q4 => by rw [p5 _ q1, k4 _ q1 q2 q3 q4]
          have hI : ∀ {a : Option Addr} {l : List Int}, Ints B a 0 A.next l → Ints B5 a 0 A.next l := fun h j hj => by
            obtain ⟨b, o, t1, t2, t3, t4⟩ := h j hj
            exact ⟨b, o, t1, t2, t3, by rw [cl_look (hS _ (by omega) (by omega) (by omega) (by omega))]; exact t4⟩
          exact ⟨p3, by omega, by rw [cl_look (hS _ (by omega) (by omega) (by omega) (by omega))]; exact hSB.s0, by rw [cl_look (hS _ (by omega) (by omega) (by omega) (by omega))]; exact hSB.s1, by rw [cl_look (hS _ (by omega) (by omega) (by omega) (by omega))]; exact hSB.s2, by rw [hS _ (by omega) (by omega) (by omega) (by omega)]; exact hSB.at', hI hSB.st', hI hSB.ro'⟩
    · intro v B hB
      rw [hFin] at hB
      obtain ⟨hwB, ⟨c, h1, h2, h3⟩, h4, h6, ⟨r', h7, h71, h72⟩, h8, h9⟩ := hB
      refine ⟨_, _, endLoop_run (obj_of h7 rfl) h71, ?_⟩
      rw [h72]
      clear hΦ hFin hkeep hΦ0 hS7
      obtain ⟨B1, f1, fn1, fw1, fl1, fk1⟩ := put_facts (o := .loop { r' with state := .exhausted }) hwB h7
      rw [h72] at f1
      rw [f1]
      refine Rn.exit hc rfl ?_
      (repeat (first | refine Rn.seq hc ?_ | refine Rn.skip hc ?_ | refine Rn.block hc ?_ | refine Rn.inBlock hc ?_ | refine Rn.scope hc ?_ | refine Rn.inScope hc ?_))
      have d7' : cl B1 A3.next 0 = some (.slice (some ⟨A2.next, 0, none⟩) many many) := by rw [cl_look (fk1 _ (by omega)), cl_of h4 rfl]; rfl
      refine Rn.reg hc rfl ?_
      simp only [sev_tmp, sg_eq, sg_ne, sp_n, Nat.reduceLT, ne_eq, Nat.reduceEqDiff, not_false_eq_true, gd, want_free, rops, fx, ld, adr_p, Option.some.injEq, exists_eq_left', tk22, d7']
      (repeat (first | refine Rn.seq hc ?_ | refine Rn.skip hc ?_ | refine Rn.block hc ?_ | refine Rn.inBlock hc ?_ | refine Rn.scope hc ?_ | refine Rn.inScope hc ?_))
      have lD : Canon.look B1.objs A6.next = some ⟨.deferred (some []), false, 0⟩ := by rw [fk1 _ (by omega)]; exact h6
      obtain ⟨B2, f2, fn2, fw2, fl2, fk2⟩ := put_facts (o := .deferred none) fw1 lD
      refine Rn.ret (endQ_tmpD rfl (obj_of lD rfl) ?_)
      rw [f2]
      refine ⟨some ⟨A2.next, 0, none⟩, many, by simp only [sg_eq, sp_n, Nat.reduceLT], ⟨by omega, fw2, fun b hb => by rw [fk2 _ (by omega), fk1 _ (by omega)]; exact h9 b hb⟩, fun k hk => ?_⟩
      rw [takeL_len] at hk
      refine ⟨A2.next, 0, rfl, Nat.zero_le _, by omega, ?_⟩
      rw [takeL_get _ _ _ _ hk, cl_look (fk2 _ (by omega)), cl_look (fk1 _ (by omega)), cl_of h1 rfl, Nat.zero_add]
      exact h3 k hk
end Go.Proofs.Ytdaljohmfnfgiaa
/- Where some elements stand, by windows. No condition. -/
namespace Go.Proofs.Ytdaljohmfnfgiaa
open Go Go.RowKit Go.Proofs.Ytdaljohmfnfgiaa.Canon
set_option maxRecDepth 20000


theorem eg102 : Try.prog.eqGuardType Try.prog.depth 102 = false := by kernel_rfl
theorem aeq3 (k : Nat) (a b : Int) : aeq Try.prog (k + 1) 3 (.int .i64 a) (.int .i64 b) = some (a == b) := by
  simp [aeq]
theorem aeql102 {a0 a1 a2 a3 b0 b1 b2 b3 : Int} : aeql Try.prog 102 (.agg #[.int .i64 a0, .int .i64 a1, .int .i64 a2, .int .i64 a3]) (.agg #[.int .i64 b0, .int .i64 b1, .int .i64 b2, .int .i64 b3]) = some (decide (a0 = b0) && (decide (a1 = b1) && (decide (a2 = b2) && decide (a3 = b3)))) := by
  obtain ⟨_, i, z, hinf, _, _, _, hsz, _⟩ := elB_eq el22
  simp only [aeql, eg102, deep]
  have hae : ∀ (xs : Array Value) (j : Nat), aelem Try.prog 3 xs j = xs[j]? := fun xs j => by
    unfold aelem
    simp only [un3]
  have e0 : aeq Try.prog 8 102 (.agg #[.int .i64 a0, .int .i64 a1, .int .i64 a2, .int .i64 a3]) (.agg #[.int .i64 b0, .int .i64 b1, .int .i64 b2, .int .i64 b3]) = aeqIs (aeq Try.prog 7) Try.prog 3 1 #[.int .i64 a0, .int .i64 a1, .int .i64 a2, .int .i64 a3] #[.int .i64 b0, .int .i64 b1, .int .i64 b2, .int .i64 b3] [0, 1, 2, 3] := by
    unfold aeq
    simp only [un102, hinf, hsz]
    rfl
  rw [e0]
  have step : ∀ (a b : Int), aeq Try.prog 7 3 (.int .i64 a) (.int .i64 b) = some (decide (a = b)) := fun a b => by
    rw [aeq3]
    by_cases h : a = b <;> simp [h]
  simp only [aeqIs, hae, List.getElem?_toArray, Nat.mul_one, List.getElem?_cons_zero, List.getElem?_cons_succ, step]
  by_cases h0 : a0 = b0 <;> by_cases h1 : a1 = b1 <;> by_cases h2 : a2 = b2 <;> by_cases h3 : a3 = b3 <;> simp [h0, h1, h2, h3]
theorem pre_iff (p : Nat → Bool) : ∀ k, pre p k = true ↔ ∀ i, i < k → p i = true := by
  intro k
  induction k with
  | zero => simp [pre]
  | succ k ih =>
    rw [pre, Bool.and_eq_true, ih]
    constructor
    · rintro ⟨h1, h2⟩ i hi
      by_cases h : i = k
      · subst h; exact h2
      · exact h1 i (by omega)
    · intro h
      exact ⟨fun i hi => h i (by omega), h k (by omega)⟩
theorem mat_iff (st ro word : List Int) (n : Nat) : mat st ro word n = true ↔ takeL st ro n word.length = word := by
  unfold mat
  rw [pre_iff]
  constructor
  · intro h
    refine List.ext_getElem (takeL_len _ _ _ _) fun i h1 h2 => ?_
    have := h i h2
    simp only [isAt, decide_eq_true_eq] at this
    simp only [takeL, List.getElem_map, List.getElem_range]
    rw [this, List.getD_eq_getElem?_getD, List.getElem?_eq_getElem h2]
    rfl
  · intro h i hi
    simp only [isAt, decide_eq_true_eq]
    rw [← takeL_get st ro n word.length hi, h]

section
variable {ρ : Operand → Value} {d : Option Tmp} {ty : TypeId} {pos : String} {af : Array Edge} {gu : Option (Nat × Bool)} {A : AHeap}
theorem bo86 : bof Try.prog 86 = .mk (nthR [(0, 3)]) 3 [.int .i64 0, .slice none 0 0, .slice none 0 0] := by kernel_rfl
theorem ze86 : zeroOf Try.prog 86 = some (.agg #[.int .i64 0, .slice none 0 0, .slice none 0 0]) := by kernel_rfl
theorem bd86 {x : Tmp} (h : (ρ (.tmp x)).cells.size = 3) : aexec Try.prog ρ ⟨d, .build 86 #[(0, .tmp x)], ty, pos, af, gu⟩ A = some (.agg (ρ (.tmp x)).cells, A) := by
  refine ae_build (r := (ρ (.tmp x)).cells.toList) (by rfl) bo86 rfl ?_
  simp [fbld, nthR, h]
theorem put86 {A : AHeap} (hw : WF A) {v0 v1 v2 : Value} (h : [v0, v1, v2].all isCell = true) : ∃ A2, sts (A.push (.cells #[.int .i64 0, .slice none 0 0, .slice none 0 0] 86)) A.next 0 [v0, v1, v2] = some A2 ∧ Nx A.next A A2 ∧ A2.next = A.next + 1 ∧ cl A2 A.next 0 = some v0 ∧ cl A2 A.next 1 = some v1 ∧ cl A2 A.next 2 = some v2 := by
  have hx1 : Nx A.next A (A.push (.cells #[.int .i64 0, .slice none 0 0, .slice none 0 0] 86)) := (Nx.refl hw _).push (Nat.le_refl _) _
  obtain ⟨A2, c2, q1, q2, q3, q4⟩ := sts_upd (l := [v0, v1, v2]) (o := 0) (look_push_eq A (.cells #[.int .i64 0, .slice none 0 0, .slice none 0 0] 86)) rfl (by simp) h
  exact ⟨A2, q1, hx1.trans (q2.nx hx1.wf (Nat.le_refl _)), q2.next, by rw [q2.cl, q4]; rfl, by rw [q2.cl, q4]; rfl, by rw [q2.cl, q4]; rfl⟩
theorem put102 {A : AHeap} (hw : WF A) {v0 v1 v2 v3 : Value} (h : [v0, v1, v2, v3].all isCell = true) : ∃ A2, sts (A.push (.cells #[.int .i64 0, .int .i64 0, .int .i64 0, .int .i64 0] 102)) A.next 0 [v0, v1, v2, v3] = some A2 ∧ Nx A.next A A2 ∧ A2.next = A.next + 1 ∧ cl A2 A.next 0 = some v0 ∧ cl A2 A.next 1 = some v1 ∧ cl A2 A.next 2 = some v2 ∧ cl A2 A.next 3 = some v3 := by
  have hx1 : Nx A.next A (A.push (.cells #[.int .i64 0, .int .i64 0, .int .i64 0, .int .i64 0] 102)) := (Nx.refl hw _).push (Nat.le_refl _) _
  obtain ⟨A2, c2, q1, q2, q3, q4⟩ := sts_upd (l := [v0, v1, v2, v3]) (o := 0) (look_push_eq A (.cells #[.int .i64 0, .int .i64 0, .int .i64 0, .int .i64 0] 102)) rfl (by simp) h
  exact ⟨A2, q1, hx1.trans (q2.nx hx1.wf (Nat.le_refl _)), q2.next, by rw [q2.cl, q4]; rfl, by rw [q2.cl, q4]; rfl, by rw [q2.cl, q4]; rfl, by rw [q2.cl, q4]; rfl⟩
end
def sameW (l m : List Int) : Bool := decide (l.getD 0 (-1) = m.getD 0 (-1)) && (decide (l.getD 1 (-1) = m.getD 1 (-1)) && (decide (l.getD 2 (-1) = m.getD 2 (-1)) && decide (l.getD 3 (-1) = m.getD 3 (-1))))
theorem neq102 (l m : List Int) (A : AHeap) : bin Try.prog .neq 102 (winV l) (winV m) A = some (.bool (!sameW l m), A) := by
  unfold winV bin
  rw [show plain2 (.agg #[.int .i64 (l.getD 0 (-1)), .int .i64 (l.getD 1 (-1)), .int .i64 (l.getD 2 (-1)), .int .i64 (l.getD 3 (-1))]) (.agg #[.int .i64 (m.getD 0 (-1)), .int .i64 (m.getD 1 (-1)), .int .i64 (m.getD 2 (-1)), .int .i64 (m.getD 3 (-1))]) = false from rfl]
  simp only [aeql102, Option.map_some]
  rfl
def winS (l : List Int) : Canon.Spec := fun _ _ A v A1 => v = winV l ∧ Nx A.next A A1
theorem neq102b (l m : List Int) (A : AHeap) : bin Try.prog .neq 102 (.agg ⟨[.int .i64 (l.getD 0 (-1)), .int .i64 (l.getD 1 (-1)), .int .i64 (l.getD 2 (-1)), .int .i64 (l.getD 3 (-1))]⟩) (.agg ⟨[.int .i64 (m.getD 0 (-1)), .int .i64 (m.getD 1 (-1)), .int .i64 (m.getD 2 (-1)), .int .i64 (m.getD 3 (-1))]⟩) A = some (.bool (!sameW l m), A) := neq102 l m A
theorem win_run {A : AHeap} (hw : WF A) {a : Option Addr} {n c : Nat} {l : List Int} (hl : Ints A a 0 A.next l) (hn : l.length = n) {o : Oper} {f : Operand} {args : Array Operand} {T : Slots} (hop : callV o.op = some (f, args)) (hok : opnOK f = true ∧ args.toList.all opnOK = true)
    (hf : seval T f = .func (.func 95) #[] #[]) (hxs : args.toList.map (seval T) = [.slice a n c]) : ∃ A1, opRun Try.prog (runS Try.prog (winS l)) (seval T) o A = some (.agg ⟨[.int .i64 (l.getD 0 (-1)), .int .i64 (l.getD 1 (-1)), .int .i64 (l.getD 2 (-1)), .int .i64 (l.getD 3 (-1))]⟩, A1) ∧ Nx A.next A A1 := by
  subst hn
  obtain ⟨w, A1, h1, h2, h3⟩ := opRun_call (P := Try.prog) (S := winS l) hop hok hf (xs := [.slice a l.length c]) (by rw [hxs]; rfl) (window_ints hw hl)
  exact ⟨A1, by rw [h1, h2]; rfl, h3⟩
end Go.Proofs.Ytdaljohmfnfgiaa
/- Where some elements stand. No condition. -/
namespace Go.Proofs.Ytdaljohmfnfgiaa
open Go Go.RowKit Go.Proofs.Ytdaljohmfnfgiaa.Canon
set_option maxRecDepth 20000


theorem find_stream {A : AHeap} (hw : WF A) {m : Int} {sa ra wa : Option Addr} {sc rc wc : Nat} {st ro word : List Int} (hs : Ints A sa 0 A.next st) (hr : Ints A ra 0 A.next ro) (hwd : Ints A wa 0 A.next word) (ls : st.length < 4611686018427387904) (lr : ro.length < 4611686018427387904) (lw : word.length < 4611686018427387904) :
    Con Try.prog 52 [.agg #[.int .i64 m, .slice sa st.length sc, .slice ra ro.length rc], .slice wa word.length wc] A (fun w A1 => w = findV m st ro word ∧ Nx A.next A A1) := by
  refine con_of_rn hc Try.func52 rfl (Nat.le_of_ble_eq_true rfl) ?_
  obtain ⟨A1, e1, hx1, hn1, b0, b1, b2⟩ := box3 hw (.int .i64 m) (.slice sa st.length sc) (.slice ra ro.length rc) 24
  obtain ⟨A3, e3, hx3, hn3, c0, c1, c2⟩ := box3 hx1.wf (.int .i64 m) (.slice sa st.length sc) (.slice ra ro.length rc) 24
  have hx03 : Nx A.next A A3 := hx1.trans (hx3.le hx1.next)
  have hrow : LRow A3 (some ⟨A1.next, 0, none⟩) [⟨m, sa, sc, st, ra, rc, ro⟩] := fun i hi => by
    have : i = 0 := by simp at hi; omega
    subst this
    exact ⟨⟨(hs.nx hx03 (Nat.le_refl _)).mono (Nat.le_refl _) hx03.next, (hr.nx hx03 (Nat.le_refl _)).mono (Nat.le_refl _) hx03.next, ls, lr⟩, _, _, rfl, by omega, c0, c1, c2⟩
  rw [s_in2]
  (repeat (first | refine Rn.seq hc ?_ | refine Rn.skip hc ?_ | refine Rn.block hc ?_ | refine Rn.inBlock hc ?_ | refine Rn.scope hc ?_ | refine Rn.inScope hc ?_))
  refine Rn.reg hc rfl ?_
  simp only [sev_tmp, sev_const, sg_eq, sg_ne, Nat.reduceLT, ne_eq, Nat.reduceEqDiff, not_false_eq_true, gd, want_free, rops, fx, Option.some.injEq, exists_eq_left', Value.cells, show Try.f52.ntmps = 61 from rfl, e1]
  (repeat (first | refine Rn.seq hc ?_ | refine Rn.skip hc ?_ | refine Rn.block hc ?_ | refine Rn.inBlock hc ?_ | refine Rn.scope hc ?_ | refine Rn.inScope hc ?_))
  refine Rn.region hc fun K hK => ?_
  refine Wo.run hc 2 rfl rfl rfl ?_
  simp only [List.drop_zero, List.take_succ_cons, List.take_zero, sev_tmp, sg_eq, sg_ne, sp_n, Nat.reduceLT, ne_eq, Nat.reduceEqDiff, not_false_eq_true, gd, want_free, rops, fx, ld, adr_p, cls, Nat.zero_add, Option.some.injEq, exists_eq_left', Value.cells, Nat.reduceAdd, tk24, b0, b1, b2, bs46_1, List.size_toArray, List.length_cons, List.length_nil, e3]
  refine Wo.call hc (by rfl) (by rfl) ⟨by rfl, by rfl⟩ (xs := [.slice (some ⟨A1.next, 0, none⟩) 1 1]) (by first | rfl | (simp only [sev_tmp, sev_const, sev_func, sg_eq, sg_ne, sp_n, sp_none, Nat.reduceLT, ne_eq, Nat.reduceEqDiff, not_false_eq_true, gd, nth, want_free, want_slot, beqB, List.map_cons, List.map_nil, Array.toList_empty, List.nil_append, List.append_nil, List.cons_append]; done) | (simp only [sev_tmp, sev_const, sev_func, sg_eq, sg_ne, sp_n, sp_none, Nat.reduceLT, ne_eq, Nat.reduceEqDiff, not_false_eq_true, gd, nth, want_free, want_slot, beqB, List.map_cons, List.map_nil, Array.toList_empty, List.nil_append, List.append_nil, List.cons_append]; rfl)) (by first | rfl | (simp only [sev_tmp, sev_const, sev_func, sg_eq, sg_ne, sp_n, sp_none, Nat.reduceLT, ne_eq, Nat.reduceEqDiff, not_false_eq_true, gd, nth, want_free, want_slot, beqB, List.map_cons, List.map_nil, Array.toList_empty, List.nil_append, List.append_nil, List.cons_append]; done) | (simp only [sev_tmp, sev_const, sev_func, sg_eq, sg_ne, sp_n, sp_none, Nat.reduceLT, ne_eq, Nat.reduceEqDiff, not_false_eq_true, gd, nth, want_free, want_slot, beqB, List.map_cons, List.map_nil, Array.toList_empty, List.nil_append, List.append_nil, List.cons_append]; rfl)) (by first | rfl | (simp only [sev_tmp, sev_const, sev_func, sg_eq, sg_ne, sp_n, sp_none, Nat.reduceLT, ne_eq, Nat.reduceEqDiff, not_false_eq_true, gd, nth, want_free, want_slot, beqB, List.map_cons, List.map_nil, Array.toList_empty, List.nil_append, List.append_nil, List.cons_append]; done) | (simp only [sev_tmp, sev_const, sev_func, sg_eq, sg_ne, sp_n, sp_none, Nat.reduceLT, ne_eq, Nat.reduceEqDiff, not_false_eq_true, gd, nth, want_free, want_slot, beqB, List.map_cons, List.map_nil, Array.toList_empty, List.nil_append, List.append_nil, List.cons_append]; rfl)) (Con.mono (check_all hx3.wf (l := [⟨m, sa, sc, st, ra, rc, ro⟩]) hrow (by simp)) ?_)
  rintro w A4 ⟨rfl, hx4⟩
  rw [errs_one, show (⟨m, sa, sc, st, ra, rc, ro⟩ : Las).err = errL m st ro from rfl]
  refine Wo.run hc 1 rfl rfl rfl ?_
  simp only [List.drop_zero, List.drop_succ_cons, List.take_succ_cons, List.take_zero, sev_tmp, sg_eq, sp_n, Nat.reduceLT, gd, want_free, rops, fx, Option.some.injEq, exists_eq_left', Nat.reduceAdd]
  refine Wo.done hc rfl (hK _ _ ?_)
  clear hK
  (repeat (first | refine Rn.seq hc ?_ | refine Rn.skip hc ?_ | refine Rn.block hc ?_ | refine Rn.inBlock hc ?_ | refine Rn.scope hc ?_ | refine Rn.inScope hc ?_))
  have b0 := (hx4.cl (show A.next < A3.next by omega) 0).trans ((hx3.cl (show A.next < A1.next by omega) 0).trans b0)
  have b1 := (hx4.cl (show A.next < A3.next by omega) 1).trans ((hx3.cl (show A.next < A1.next by omega) 1).trans b1)
  have b2 := (hx4.cl (show A.next < A3.next by omega) 2).trans ((hx3.cl (show A.next < A1.next by omega) 2).trans b2)
  have hx04 : Nx A.next A A4 := hx03.trans (hx4.le hx03.next)
  have hw4 : Ints A4 wa 0 A4.next word := (hwd.nx hx04 (Nat.le_refl _)).mono (Nat.le_refl _) hx04.next
  have hA4 : A.next < A4.next := by have := hx4.next; omega
  by_cases he : errL m st ro = 0
  · have hd : (!decide (errL m st ro = 0)) = false := by rw [decide_eq_true he]; rfl
    refine Rn.reg hc rfl ?_
    simp only [sev_tmp, sev_const, sg_eq, sp_n, Nat.reduceLT, gd, want_free, rops, fx, bin_neq, Option.some.injEq, exists_eq_left', hd]
    (repeat (first | refine Rn.seq hc ?_ | refine Rn.skip hc ?_ | refine Rn.block hc ?_ | refine Rn.inBlock hc ?_ | refine Rn.scope hc ?_ | refine Rn.inScope hc ?_))
    refine Rn.condE hc rfl ?_
    simp only [sev_tmp, sg_eq, sp_n, Nat.reduceLT, Value.bool.injEq, exists_eq_left']
    (repeat (first | refine Rn.seq hc ?_ | refine Rn.skip hc ?_ | refine Rn.block hc ?_ | refine Rn.inBlock hc ?_ | refine Rn.scope hc ?_ | refine Rn.inScope hc ?_))
    by_cases hwl : 120 < word.length
    · have hd2 : decide ((120 : Int) < (word.length : Int)) = true := by simp; omega
      refine Rn.reg hc rfl ?_
      simp only [sev_tmp, sev_const, sg_eq, sg_ne, sp_n, Nat.reduceLT, ne_eq, Nat.reduceEqDiff, not_false_eq_true, gd, want_free, rops, fx, lng, bin_gtr, Option.some.injEq, exists_eq_left', un22, hd2]
      (repeat (first | refine Rn.seq hc ?_ | refine Rn.skip hc ?_ | refine Rn.block hc ?_ | refine Rn.inBlock hc ?_ | refine Rn.scope hc ?_ | refine Rn.inScope hc ?_))
      refine Rn.condE hc rfl ?_
      simp only [sev_tmp, sg_eq, sp_n, Nat.reduceLT, Value.bool.injEq, exists_eq_left']
      (repeat (first | refine Rn.seq hc ?_ | refine Rn.skip hc ?_ | refine Rn.block hc ?_ | refine Rn.inBlock hc ?_ | refine Rn.scope hc ?_ | refine Rn.inScope hc ?_))
      refine Rn.reg hc rfl ?_
      simp only [sev_const, gd, want_free, rops, fx, Option.some.injEq, exists_eq_left']
      (repeat (first | refine Rn.seq hc ?_ | refine Rn.skip hc ?_ | refine Rn.block hc ?_ | refine Rn.inBlock hc ?_ | refine Rn.scope hc ?_ | refine Rn.inScope hc ?_))
      refine Rn.ret (endQ_two rfl ⟨?_, hx04⟩)
      simp only [sg_eq, sg_ne, sp_n, Nat.reduceLT, ne_eq, Nat.reduceEqDiff, not_false_eq_true]
      rw [findV, if_pos he, if_pos hwl]
    · have hd2 : decide ((120 : Int) < (word.length : Int)) = false := by simp; omega
      refine Rn.reg hc rfl ?_
      simp only [sev_tmp, sev_const, sg_eq, sg_ne, sp_n, Nat.reduceLT, ne_eq, Nat.reduceEqDiff, not_false_eq_true, gd, want_free, rops, fx, lng, bin_gtr, Option.some.injEq, exists_eq_left', un22, hd2]
      (repeat (first | refine Rn.seq hc ?_ | refine Rn.skip hc ?_ | refine Rn.block hc ?_ | refine Rn.inBlock hc ?_ | refine Rn.scope hc ?_ | refine Rn.inScope hc ?_))
      refine Rn.condE hc rfl ?_
      simp only [sev_tmp, sg_eq, sp_n, Nat.reduceLT, Value.bool.injEq, exists_eq_left']
      (repeat (first | refine Rn.seq hc ?_ | refine Rn.skip hc ?_ | refine Rn.block hc ?_ | refine Rn.inBlock hc ?_ | refine Rn.scope hc ?_ | refine Rn.inScope hc ?_))
      have hfv : findV m st ro word = found (ffrom (mat st ro word) 0 (st.length + ro.length)) := by rw [findV, if_pos he, if_neg hwl]
      obtain ⟨l60, l120⟩ := errL_len he
      have hro := errL_pos he
      rw [hfv]
      obtain ⟨A5, p5, hx5, hn5, d0, d1, d2⟩ := put86 hx4.wf (v0 := .int .i64 m) (v1 := .slice sa st.length sc) (v2 := .slice ra ro.length rc) rfl
      have hx05 : Nx A.next A A5 := hx04.trans (hx5.le hx04.next)
      refine Rn.reg hc rfl ?_
      simp only [sev_tmp, sg_eq, sg_ne, sp_n, sp_none, Nat.reduceLT, ne_eq, Nat.reduceEqDiff, not_false_eq_true, gd, want_free, rops, fx, ld, str, adr_p, cls, Nat.zero_add, Option.some.injEq, exists_eq_left', Value.cells, Nat.reduceAdd, tk24, tk86, b0, b1, b2, bd86, List.size_toArray, List.length_cons, List.length_nil, ze86, p5, Nat.beq_refl]
      (repeat (first | refine Rn.seq hc ?_ | refine Rn.skip hc ?_ | refine Rn.block hc ?_ | refine Rn.inBlock hc ?_ | refine Rn.scope hc ?_ | refine Rn.inScope hc ?_))
      refine Rn.region hc fun K hK => ?_
      refine Wo.run hc 1 rfl rfl rfl ?_
      simp only [List.drop_zero, List.take_succ_cons, List.take_zero, sev_tmp, sg_eq, sg_ne, sp_n, Nat.reduceLT, ne_eq, Nat.reduceEqDiff, not_false_eq_true, gd, want_free, rops, fx, Nat.zero_add, Option.some.injEq, exists_eq_left']
      refine Wo.call hc (by rfl) (by rfl) ⟨by rfl, by rfl⟩ (xs := [.slice wa word.length wc]) (by first | rfl | (simp only [sev_tmp, sev_const, sev_func, sg_eq, sg_ne, sp_n, sp_none, Nat.reduceLT, ne_eq, Nat.reduceEqDiff, not_false_eq_true, gd, nth, want_free, want_slot, beqB, List.map_cons, List.map_nil, Array.toList_empty, List.nil_append, List.append_nil, List.cons_append]; done) | (simp only [sev_tmp, sev_const, sev_func, sg_eq, sg_ne, sp_n, sp_none, Nat.reduceLT, ne_eq, Nat.reduceEqDiff, not_false_eq_true, gd, nth, want_free, want_slot, beqB, List.map_cons, List.map_nil, Array.toList_empty, List.nil_append, List.append_nil, List.cons_append]; rfl)) (by first | rfl | (simp only [sev_tmp, sev_const, sev_func, sg_eq, sg_ne, sp_n, sp_none, Nat.reduceLT, ne_eq, Nat.reduceEqDiff, not_false_eq_true, gd, nth, want_free, want_slot, beqB, List.map_cons, List.map_nil, Array.toList_empty, List.nil_append, List.append_nil, List.cons_append]; done) | (simp only [sev_tmp, sev_const, sev_func, sg_eq, sg_ne, sp_n, sp_none, Nat.reduceLT, ne_eq, Nat.reduceEqDiff, not_false_eq_true, gd, nth, want_free, want_slot, beqB, List.map_cons, List.map_nil, Array.toList_empty, List.nil_append, List.append_nil, List.cons_append]; rfl)) (by first | rfl | (simp only [sev_tmp, sev_const, sev_func, sg_eq, sg_ne, sp_n, sp_none, Nat.reduceLT, ne_eq, Nat.reduceEqDiff, not_false_eq_true, gd, nth, want_free, want_slot, beqB, List.map_cons, List.map_nil, Array.toList_empty, List.nil_append, List.append_nil, List.cons_append]; done) | (simp only [sev_tmp, sev_const, sev_func, sg_eq, sg_ne, sp_n, sp_none, Nat.reduceLT, ne_eq, Nat.reduceEqDiff, not_false_eq_true, gd, nth, want_free, want_slot, beqB, List.map_cons, List.map_nil, Array.toList_empty, List.nil_append, List.append_nil, List.cons_append]; rfl)) (Con.mono (window_ints hx5.wf ((hwd.nx hx05 (Nat.le_refl _)).mono (Nat.le_refl _) hx05.next)) ?_)
      rintro w A6 ⟨rfl, hx6⟩
      obtain ⟨A7, p7, hx7, hn7, z0, z1, z2, z3⟩ := put102 hx6.wf (v0 := .int .i64 (word.getD 0 (-1))) (v1 := .int .i64 (word.getD 1 (-1))) (v2 := .int .i64 (word.getD 2 (-1))) (v3 := .int .i64 (word.getD 3 (-1))) rfl
      unfold winV
      refine Wo.run hc 2 rfl rfl rfl ?_
      simp only [List.drop_zero, List.drop_succ_cons, List.take_succ_cons, List.take_zero, sev_tmp, sg_eq, sg_ne, sp_n, sp_none, Nat.reduceLT, ne_eq, Nat.reduceEqDiff, not_false_eq_true, gd, want_free, rops, fx, str, adr_p, Nat.zero_add, Option.some.injEq, exists_eq_left', Value.cells, Nat.reduceAdd, tk102, ze102, p7, List.size_toArray, List.length_cons, List.length_nil, Nat.beq_refl]
      refine Wo.done hc rfl (hK _ _ ?_)
      clear hK
      (repeat (first | refine Rn.seq hc ?_ | refine Rn.skip hc ?_ | refine Rn.block hc ?_ | refine Rn.inBlock hc ?_ | refine Rn.scope hc ?_ | refine Rn.inScope hc ?_))
      have hx57 : Nx A5.next A5 A7 := hx6.trans (hx7.le (by have := hx6.next; omega))
      have hx47 : Nx A4.next A4 A7 := hx5.trans (hx57.le (by omega))
      have hx07 : Nx A.next A A7 := hx04.trans (hx47.le (by omega))
      have hs7 : Ints A7 sa 0 A7.next st := (hs.nx hx07 (Nat.le_refl _)).mono (Nat.le_refl _) hx07.next
      have hr7 : Ints A7 ra 0 A7.next ro := (hr.nx hx07 (Nat.le_refl _)).mono (Nat.le_refl _) hx07.next
      have hw7 : Ints A7 wa 0 A7.next word := (hwd.nx hx07 (Nat.le_refl _)).mono (Nat.le_refl _) hx07.next
      have g1 := (hx47.cl hA4 1).trans b1
      have g2 := (hx47.cl hA4 2).trans b2
      have d0 := (hx57.cl (show A4.next < A5.next by omega) 0).trans d0
      have d1 := (hx57.cl (show A4.next < A5.next by omega) 1).trans d1
      have d2 := (hx57.cl (show A4.next < A5.next by omega) 2).trans d2
      have n47 : A4.next < A7.next := by have := hx57.next; omega
      have n67 : A6.next < A7.next := by omega
      have hadd : IntKind.i64.wrap ((st.length : Int) + (ro.length : Int)) = ((st.length + ro.length : Nat) : Int) := by rw [IntWalk.i64_in _ (by omega)]; omega
      refine Rn.label hc ?_
      (repeat (first | refine Rn.seq hc ?_ | refine Rn.skip hc ?_ | refine Rn.block hc ?_ | refine Rn.inBlock hc ?_ | refine Rn.scope hc ?_ | refine Rn.inScope hc ?_))
      refine Rn.reg hc rfl ?_
      simp only [sev_tmp, sev_const, sg_eq, sg_ne, sp_n, Nat.reduceLT, ne_eq, Nat.reduceEqDiff, not_false_eq_true, gd, want_free, rops, fx, ld, fad, lng, bin_add, adr_p, Nat.zero_add, Option.some.injEq, exists_eq_left', tk22, fo24_1, fo24_2, un22, g1, g2, hadd]
      (repeat (first | refine Rn.seq hc ?_ | refine Rn.skip hc ?_ | refine Rn.block hc ?_ | refine Rn.inBlock hc ?_ | refine Rn.scope hc ?_ | refine Rn.inScope hc ?_))
      refine Rn.loopI hc (I := fun k s A' => ∃ n, n ≤ st.length + ro.length ∧ k = st.length + ro.length - n ∧ Nx A7.next A7 A' ∧ s.n = 61 ∧ sget s 1 = .slice wa word.length wc ∧ sget s 7 = .pointer (some ⟨A4.next, 0, none⟩) ∧ sget s 8 = .pointer (some ⟨A6.next, 0, none⟩) ∧ sget s 32 = .int .i64 ((st.length + ro.length : Nat) : Int) ∧ sget s 33 = .int .i64 (n : Int) ∧ ffrom (mat st ro word) 0 (st.length + ro.length) = ffrom (mat st ro word) n (st.length + ro.length - n))
        (n := st.length + ro.length) ⟨0, by omega, rfl, Nx.refl hx7.wf _, by simp only [sp_n], by simp only [sg_eq, sg_ne, sp_n, Nat.reduceLT, ne_eq, Nat.reduceEqDiff, not_false_eq_true], by simp only [sg_eq, sg_ne, sp_n, Nat.reduceLT, ne_eq, Nat.reduceEqDiff, not_false_eq_true], by simp only [sg_eq, sg_ne, sp_n, Nat.reduceLT, ne_eq, Nat.reduceEqDiff, not_false_eq_true], by simp only [sg_eq, sg_ne, sp_n, Nat.reduceLT, ne_eq, Nat.reduceEqDiff, not_false_eq_true], by simp only [sg_eq, sp_n, Nat.reduceLT]; rfl, rfl⟩ ?_
      rintro k s A' ⟨n, hi, rfl, hA, hn, s1, s7, s8, s32, s33, hff⟩ ih
      (repeat (first | refine Rn.seq hc ?_ | refine Rn.skip hc ?_ | refine Rn.block hc ?_ | refine Rn.inBlock hc ?_ | refine Rn.scope hc ?_ | refine Rn.inScope hc ?_))
      have d0' := (hA.cl n47 0).trans d0
      have d1' := (hA.cl n47 1).trans d1
      have d2' := (hA.cl n47 2).trans d2
      by_cases hlt : n < st.length + ro.length
      · have hd : decide ((n : Int) < ((st.length + ro.length : Nat) : Int)) = true := by simp; omega
        rw [ffrom_step _ hlt] at hff
        refine Rn.reg hc rfl ?_
        simp only [sev_tmp, gd, want_free, rops, fx, bin_lss, Option.some.injEq, exists_eq_left', s32, s33, hd]
        (repeat (first | refine Rn.seq hc ?_ | refine Rn.skip hc ?_ | refine Rn.block hc ?_ | refine Rn.inBlock hc ?_ | refine Rn.scope hc ?_ | refine Rn.inScope hc ?_))
        refine Rn.condE hc rfl ?_
        simp only [sev_tmp, sg_eq, Nat.reduceLT, Value.bool.injEq, exists_eq_left', hn]
        (repeat (first | refine Rn.seq hc ?_ | refine Rn.skip hc ?_ | refine Rn.block hc ?_ | refine Rn.inBlock hc ?_ | refine Rn.scope hc ?_ | refine Rn.inScope hc ?_))
        refine Rn.reg hc rfl ?_
        simp only [sev_tmp, sg_eq, sg_ne, sp_n, Nat.reduceLT, ne_eq, Nat.reduceEqDiff, not_false_eq_true, gd, want_free, rops, fx, Option.some.injEq, exists_eq_left', hn, s33]
        (repeat (first | refine Rn.seq hc ?_ | refine Rn.skip hc ?_ | refine Rn.block hc ?_ | refine Rn.inBlock hc ?_ | refine Rn.scope hc ?_ | refine Rn.inScope hc ?_))
        refine Rn.region hc fun K hK => ?_
        refine Wo.run hc 4 rfl rfl rfl ?_
        simp only [List.drop_zero, List.take_succ_cons, List.take_zero, sev_tmp, sg_eq, sg_ne, sp_n, Nat.reduceLT, ne_eq, Nat.reduceEqDiff, not_false_eq_true, gd, want_free, rops, fx, ld, lng, adr_p, cls, Nat.zero_add, Option.some.injEq, exists_eq_left', Nat.reduceAdd, tk86, un22, hn, s1, s7, d0', d1', d2']
        refine Wo.call hc (by rfl) (by rfl) ⟨by rfl, by rfl⟩ (xs := [.agg #[.int .i64 m, .slice sa st.length sc, .slice ra ro.length rc], .int .i64 (n : Int), .int .i64 (word.length : Int)]) (by first | rfl | (simp only [sev_tmp, sev_const, sev_func, sg_eq, sg_ne, sp_n, sp_none, Nat.reduceLT, ne_eq, Nat.reduceEqDiff, not_false_eq_true, gd, nth, want_free, want_slot, beqB, List.map_cons, List.map_nil, Array.toList_empty, List.nil_append, List.append_nil, List.cons_append, hn]; done) | (simp only [sev_tmp, sev_const, sev_func, sg_eq, sg_ne, sp_n, sp_none, Nat.reduceLT, ne_eq, Nat.reduceEqDiff, not_false_eq_true, gd, nth, want_free, want_slot, beqB, List.map_cons, List.map_nil, Array.toList_empty, List.nil_append, List.append_nil, List.cons_append, hn]; rfl)) (by first | rfl | (simp only [sev_tmp, sev_const, sev_func, sg_eq, sg_ne, sp_n, sp_none, Nat.reduceLT, ne_eq, Nat.reduceEqDiff, not_false_eq_true, gd, nth, want_free, want_slot, beqB, List.map_cons, List.map_nil, Array.toList_empty, List.nil_append, List.append_nil, List.cons_append, hn]; done) | (simp only [sev_tmp, sev_const, sev_func, sg_eq, sg_ne, sp_n, sp_none, Nat.reduceLT, ne_eq, Nat.reduceEqDiff, not_false_eq_true, gd, nth, want_free, want_slot, beqB, List.map_cons, List.map_nil, Array.toList_empty, List.nil_append, List.append_nil, List.cons_append, hn]; rfl)) (by first | rfl | (simp only [sev_tmp, sg_eq, sg_ne, sp_n, Nat.reduceLT, ne_eq, Nat.reduceEqDiff, not_false_eq_true, List.map_cons, List.map_nil, List.nil_append, List.append_nil, hn]; done) | (simp only [sev_tmp, sev_const, sev_func, sg_eq, sg_ne, sp_n, sp_none, Nat.reduceLT, ne_eq, Nat.reduceEqDiff, not_false_eq_true, gd, nth, want_free, want_slot, beqB, List.map_cons, List.map_nil, Array.toList_empty, List.nil_append, List.append_nil, List.cons_append, hn]; rfl)) (Con.mono (take_stream hA.wf ((hs7.nx hA (Nat.le_refl _)).mono (Nat.le_refl _) hA.next) ((hr7.nx hA (Nat.le_refl _)).mono (Nat.le_refl _) hA.next) (by omega) (by omega) hro (n := n) (many := word.length) (by omega) (by omega)) ?_)
        rintro w A8 ⟨a', c', rfl, hx8, hg8⟩
        refine Wo.run hc 1 rfl rfl rfl ?_
        simp only [List.drop_zero, List.drop_succ_cons, List.take_succ_cons, List.take_zero, sev_tmp, sg_eq, sp_n, Nat.reduceLT, gd, want_free, rops, fx, Option.some.injEq, exists_eq_left', Nat.reduceAdd, hn]
        refine Wo.done hc rfl (hK _ _ ?_)
        clear hK
        (repeat (first | refine Rn.seq hc ?_ | refine Rn.skip hc ?_ | refine Rn.block hc ?_ | refine Rn.inBlock hc ?_ | refine Rn.scope hc ?_ | refine Rn.inScope hc ?_))
        have hL := takeL_len st ro n word.length
        obtain ⟨L, hLe⟩ : ∃ L, takeL st ro n word.length = L := ⟨_, rfl⟩
        have hmat := mat_iff st ro word n
        rw [hLe] at hL hg8 hmat
        have hA8 : Nx A7.next A7 A8 := hA.trans (hx8.le hA.next)
        have z0' := (hA8.cl n67 0).trans z0
        have z1' := (hA8.cl n67 1).trans z1
        have z2' := (hA8.cl n67 2).trans z2
        have z3' := (hA8.cl n67 3).trans z3
        have n68 : A6.next < A8.next := by have := hA8.next; omega
        obtain ⟨F, hF0, hF1, hF2, hF3, hF⟩ : ∃ F : AHeap → Prop, (∀ M, F M → cl M A6.next 0 = some (.int .i64 (word.getD 0 (-1)))) ∧ (∀ M, F M → cl M A6.next 1 = some (.int .i64 (word.getD 1 (-1)))) ∧ (∀ M, F M → cl M A6.next 2 = some (.int .i64 (word.getD 2 (-1)))) ∧ (∀ M, F M → cl M A6.next 3 = some (.int .i64 (word.getD 3 (-1)))) ∧ ∀ M, Nx A8.next A8 M → F M :=
          ⟨fun M => Nx A8.next A8 M, fun M h => (h.cl n68 0).trans z0', fun M h => (h.cl n68 1).trans z1', fun M h => (h.cl n68 2).trans z2', fun M h => (h.cl n68 3).trans z3', fun _ h => h⟩
        have hxb : Nx A8.next A8 (bump A8 4) := Nx.bump (Nx.refl hx8.wf _) 4
        have FB := hF _ hxb
        refine Rn.drawnF hc hx (winS L) F (n := 1) (k := 4) (by kernel_rfl) (by kernel_rfl) (by rfl) ?_
        refine Dr.read (by first | rfl | kernel_rfl) (by first | rfl | (simp only [sev_tmp, sev_const, sev_func, sg_eq, sg_ne, sp_n, sp_none, Nat.reduceLT, ne_eq, Nat.reduceEqDiff, not_false_eq_true, gd, nth, want_free, want_slot, beqB, List.map_cons, List.map_nil, Array.toList_empty, List.nil_append, List.append_nil, List.cons_append, hn]; done) | (simp only [sev_tmp, sev_const, sev_func, sg_eq, sg_ne, sp_n, sp_none, Nat.reduceLT, ne_eq, Nat.reduceEqDiff, not_false_eq_true, gd, nth, want_free, want_slot, beqB, List.map_cons, List.map_nil, Array.toList_empty, List.nil_append, List.append_nil, List.cons_append, hn]; rfl)) (by assumption) (fun M hM => by simp only [sev_tmp, sg_eq, sp_n, Nat.reduceLT, fx, hn] <;> rfl) (by rfl) (by first | exact VQ.int _ _ | exact VQ.bool _ | exact VQ.ptr _ _ | exact VQ.slice _ _ _ | exact VQ.func (by simp [vq_int, vq_ptr, vq_slice]) (by simp [vq_int, vq_ptr, vq_slice]) | exact VQ.agg (by simp [vq_int, vq_ptr, vq_slice])) ?_
        refine Dr.effK (by kernel_rfl) (by rfl) (by assumption) (by rfl) (win_run (c := c') hxb.wf ((hg8.nx hxb (Nat.le_refl _)).mono (Nat.le_refl _) hxb.next) hL (by rfl) ⟨by rfl, by rfl⟩ (by simp only [sev_func]) (by simp only [sev_tmp, sg_eq, sp_n, Nat.reduceLT, List.map_cons, List.map_nil, hn])) (fun A9 hx9 => ?_)
        have hxA9 : Nx A8.next A8 A9 := hxb.trans (hx9.le hxb.next)
        have F9 := hF _ hxA9
        refine Dr.read (by first | rfl | kernel_rfl) (by first | rfl | (simp only [sev_tmp, sev_const, sev_func, sg_eq, sg_ne, sp_n, sp_none, Nat.reduceLT, ne_eq, Nat.reduceEqDiff, not_false_eq_true, gd, nth, want_free, want_slot, beqB, List.map_cons, List.map_nil, Array.toList_empty, List.nil_append, List.append_nil, List.cons_append, hn, s8, hF0 M hM, hF1 M hM, hF2 M hM, hF3 M hM, neq102b]; done) | (simp only [sev_tmp, sev_const, sev_func, sg_eq, sg_ne, sp_n, sp_none, Nat.reduceLT, ne_eq, Nat.reduceEqDiff, not_false_eq_true, gd, nth, want_free, want_slot, beqB, List.map_cons, List.map_nil, Array.toList_empty, List.nil_append, List.append_nil, List.cons_append, hn, s8, hF0 M hM, hF1 M hM, hF2 M hM, hF3 M hM, neq102b]; rfl)) (by assumption) (fun M hM => by simp only [sev_tmp, sg_ne, ne_eq, Nat.reduceEqDiff, not_false_eq_true, fx, ld, adr_p, cls, Nat.zero_add, Nat.reduceAdd, tk102, s8, hF0 M hM, hF1 M hM, hF2 M hM, hF3 M hM] <;> rfl) (by rfl) (by first | exact VQ.int _ _ | exact VQ.bool _ | exact VQ.ptr _ _ | exact VQ.slice _ _ _ | exact VQ.func (by simp [vq_int, vq_ptr, vq_slice]) (by simp [vq_int, vq_ptr, vq_slice]) | exact VQ.agg (by simp [vq_int])) ?_
        refine Dr.read (by first | rfl | kernel_rfl) (by first | rfl | (simp only [sev_tmp, sev_const, sev_func, sg_eq, sg_ne, sp_n, sp_none, Nat.reduceLT, ne_eq, Nat.reduceEqDiff, not_false_eq_true, gd, nth, want_free, want_slot, beqB, List.map_cons, List.map_nil, Array.toList_empty, List.nil_append, List.append_nil, List.cons_append, hn, s8, hF0 M hM, hF1 M hM, hF2 M hM, hF3 M hM, neq102b]; done) | (simp only [sev_tmp, sev_const, sev_func, sg_eq, sg_ne, sp_n, sp_none, Nat.reduceLT, ne_eq, Nat.reduceEqDiff, not_false_eq_true, gd, nth, want_free, want_slot, beqB, List.map_cons, List.map_nil, Array.toList_empty, List.nil_append, List.append_nil, List.cons_append, hn, s8, hF0 M hM, hF1 M hM, hF2 M hM, hF3 M hM, neq102b]; rfl)) (by assumption) (fun M hM => by simp only [sev_tmp, sg_eq, sg_ne, sp_n, Nat.reduceLT, ne_eq, Nat.reduceEqDiff, not_false_eq_true, fx, hn, neq102b] <;> rfl) (by rfl) (by first | exact VQ.int _ _ | exact VQ.bool _ | exact VQ.ptr _ _ | exact VQ.slice _ _ _ | exact VQ.func (by simp [vq_int, vq_ptr, vq_slice]) (by simp [vq_int, vq_ptr, vq_slice]) | exact VQ.agg (by simp [vq_int, vq_ptr, vq_slice])) ?_
        refine Dr.nil (by rfl) (fun M hM => by cases hM) F9 ⟨A9, by rfl, ?_⟩
        (repeat (first | refine Rn.seq hc ?_ | refine Rn.skip hc ?_ | refine Rn.block hc ?_ | refine Rn.inBlock hc ?_ | refine Rn.scope hc ?_ | refine Rn.inScope hc ?_))
        have hA9 : Nx A7.next A7 A9 := hA8.trans (hxA9.le (by have := hA8.next; omega))
        have hL9 : Ints A9 a' 0 A9.next L := (hg8.nx hxA9 (Nat.le_refl _)).mono (Nat.le_refl _) hxA9.next
        have hw9 : Ints A9 wa 0 A9.next word := (hw7.nx hA9 (Nat.le_refl _)).mono (Nat.le_refl _) hA9.next
        clear hF0 hF1 hF2 hF3 hF FB F9
        clear F
        cases hsw : sameW L word with
        | false =>
          have hm : mat st ro word n = false := by
            cases hm : mat st ro word n with
            | false => rfl
            | true =>
              rw [hmat.1 hm] at hsw
              simp [sameW] at hsw
          rw [hm, if_neg Bool.false_ne_true] at hff
          refine Rn.condE hc rfl ?_
          simp only [sev_tmp, sg_eq, sp_n, Nat.reduceLT, Value.bool.injEq, exists_eq_left', hn, Bool.not_false]
          (repeat (first | refine Rn.seq hc ?_ | refine Rn.skip hc ?_ | refine Rn.block hc ?_ | refine Rn.inBlock hc ?_ | refine Rn.scope hc ?_ | refine Rn.inScope hc ?_))
          refine Rn.exit hc rfl ?_
          (repeat (first | refine Rn.seq hc ?_ | refine Rn.skip hc ?_ | refine Rn.block hc ?_ | refine Rn.inBlock hc ?_ | refine Rn.scope hc ?_ | refine Rn.inScope hc ?_))
          refine Rn.reg hc rfl ?_
          simp only [sev_tmp, sev_const, sg_eq, sg_ne, sp_n, Nat.reduceLT, ne_eq, Nat.reduceEqDiff, not_false_eq_true, gd, want_free, rops, fx, bin_add, Option.some.injEq, exists_eq_left', hn, s33, wrap_succ (show n < 9223372036854775807 by omega)]
          (repeat (first | refine Rn.seq hc ?_ | refine Rn.skip hc ?_ | refine Rn.block hc ?_ | refine Rn.inBlock hc ?_ | refine Rn.scope hc ?_ | refine Rn.inScope hc ?_))
          exact ih _ _ _ (by omega) ⟨n + 1, by omega, rfl, hA9, by simp only [sp_n, hn], by simp only [sg_ne, ne_eq, Nat.reduceEqDiff, not_false_eq_true, s1], by simp only [sg_ne, ne_eq, Nat.reduceEqDiff, not_false_eq_true, s7], by simp only [sg_ne, ne_eq, Nat.reduceEqDiff, not_false_eq_true, s8], by simp only [sg_ne, ne_eq, Nat.reduceEqDiff, not_false_eq_true, s32], by simp only [sg_eq, sp_n, Nat.reduceLT, hn], hff⟩
        | true =>
          refine Rn.condE hc rfl ?_
          simp only [sev_tmp, sg_eq, sp_n, Nat.reduceLT, Value.bool.injEq, exists_eq_left', hn, Bool.not_true]
          (repeat (first | refine Rn.seq hc ?_ | refine Rn.skip hc ?_ | refine Rn.block hc ?_ | refine Rn.inBlock hc ?_ | refine Rn.scope hc ?_ | refine Rn.inScope hc ?_))
          refine Rn.reg hc rfl ?_
          simp only [sev_tmp, sev_const, sg_eq, sg_ne, sp_n, Nat.reduceLT, ne_eq, Nat.reduceEqDiff, not_false_eq_true, gd, want_free, rops, fx, lng, Option.some.injEq, exists_eq_left', un22, hn, s1]
          (repeat (first | refine Rn.seq hc ?_ | refine Rn.skip hc ?_ | refine Rn.block hc ?_ | refine Rn.inBlock hc ?_ | refine Rn.scope hc ?_ | refine Rn.inScope hc ?_))
          refine Rn.loopI hc (I := fun k s A' => ∃ i, i ≤ word.length ∧ k = word.length - i ∧ A' = A9 ∧ s.n = 61 ∧ sget s 1 = .slice wa word.length wc ∧ sget s 7 = .pointer (some ⟨A4.next, 0, none⟩) ∧ sget s 8 = .pointer (some ⟨A6.next, 0, none⟩) ∧ sget s 32 = .int .i64 ((st.length + ro.length : Nat) : Int) ∧ sget s 33 = .int .i64 (n : Int) ∧ sget s 9 = .int .i64 (n : Int) ∧ sget s 10 = .slice a' word.length c' ∧ sget s 45 = .slice wa word.length wc ∧ sget s 46 = .int .i64 (word.length : Int) ∧ sget s 47 = .int .i64 (i : Int) ∧ L.take i = word.take i)
            (n := word.length) ⟨0, by omega, rfl, rfl, by simp only [sp_n, hn], by simp only [sg_ne, ne_eq, Nat.reduceEqDiff, not_false_eq_true, s1], by simp only [sg_ne, ne_eq, Nat.reduceEqDiff, not_false_eq_true, s7], by simp only [sg_ne, ne_eq, Nat.reduceEqDiff, not_false_eq_true, s8], by simp only [sg_ne, ne_eq, Nat.reduceEqDiff, not_false_eq_true, s32], by simp only [sg_ne, ne_eq, Nat.reduceEqDiff, not_false_eq_true, s33], by simp only [sg_eq, sg_ne, sp_n, Nat.reduceLT, ne_eq, Nat.reduceEqDiff, not_false_eq_true, hn], by simp only [sg_eq, sg_ne, sp_n, Nat.reduceLT, ne_eq, Nat.reduceEqDiff, not_false_eq_true, hn], by simp only [sg_eq, sg_ne, sp_n, Nat.reduceLT, ne_eq, Nat.reduceEqDiff, not_false_eq_true, hn], by simp only [sg_eq, sg_ne, sp_n, Nat.reduceLT, ne_eq, Nat.reduceEqDiff, not_false_eq_true, hn], by simp only [sg_eq, sp_n, Nat.reduceLT, hn]; rfl, rfl⟩ ?_
          clear hn s1 s7 s8 s32 s33
          clear s
          rintro k s A'' ⟨i, hi2, rfl, rfl, hn, s1, s7, s8, s32, s33, s9, s10, s45, s46, s47, hpre⟩ ih2
          (repeat (first | refine Rn.seq hc ?_ | refine Rn.skip hc ?_ | refine Rn.block hc ?_ | refine Rn.inBlock hc ?_ | refine Rn.scope hc ?_ | refine Rn.inScope hc ?_))
          by_cases hlt2 : i < word.length
          · have hd2 : decide ((i : Int) < (word.length : Int)) = true := by simp; omega
            obtain ⟨bb, o, rfl, _, _, hcl⟩ := hw9 i hlt2
            obtain ⟨b3, o3, rfl, _, _, hcl3⟩ := hL9 i (by omega)
            refine Rn.reg hc rfl ?_
            simp only [sev_tmp, gd, want_free, rops, fx, bin_lss, Option.some.injEq, exists_eq_left', s46, s47, hd2]
            (repeat (first | refine Rn.seq hc ?_ | refine Rn.skip hc ?_ | refine Rn.block hc ?_ | refine Rn.inBlock hc ?_ | refine Rn.scope hc ?_ | refine Rn.inScope hc ?_))
            refine Rn.condE hc rfl ?_
            simp only [sev_tmp, sg_eq, Nat.reduceLT, Value.bool.injEq, exists_eq_left', hn]
            (repeat (first | refine Rn.seq hc ?_ | refine Rn.skip hc ?_ | refine Rn.block hc ?_ | refine Rn.inBlock hc ?_ | refine Rn.scope hc ?_ | refine Rn.inScope hc ?_))
            refine Rn.reg hc rfl ?_
            simp only [sev_tmp, sg_eq, sg_ne, sp_n, Nat.reduceLT, ne_eq, Nat.reduceEqDiff, not_false_eq_true, gd, want_free, rops, fx, ld, idx, adr_p, Option.some.injEq, exists_eq_left', Nat.mul_one, tk3, eo22, hn, s45, s47, nlen_nat hlt2, hcl]
            (repeat (first | refine Rn.seq hc ?_ | refine Rn.skip hc ?_ | refine Rn.block hc ?_ | refine Rn.inBlock hc ?_ | refine Rn.scope hc ?_ | refine Rn.inScope hc ?_))
            by_cases hv : L.getD i 0 = word.getD i 0
            · have hd3 : (!decide (L.getD i 0 = word.getD i 0)) = false := by rw [decide_eq_true hv]; rfl
              refine Rn.reg hc rfl ?_
              simp only [sev_tmp, sg_eq, sg_ne, sp_n, Nat.reduceLT, ne_eq, Nat.reduceEqDiff, not_false_eq_true, gd, want_free, rops, fx, ld, idx, bin_neq, adr_p, Option.some.injEq, exists_eq_left', Nat.mul_one, tk3, eo22, hn, s10, nlen_nat hlt2, hcl3, hd3]
              (repeat (first | refine Rn.seq hc ?_ | refine Rn.skip hc ?_ | refine Rn.block hc ?_ | refine Rn.inBlock hc ?_ | refine Rn.scope hc ?_ | refine Rn.inScope hc ?_))
              refine Rn.condE hc rfl ?_
              simp only [sev_tmp, sg_eq, sp_n, Nat.reduceLT, Value.bool.injEq, exists_eq_left', hn]
              (repeat (first | refine Rn.seq hc ?_ | refine Rn.skip hc ?_ | refine Rn.block hc ?_ | refine Rn.inBlock hc ?_ | refine Rn.scope hc ?_ | refine Rn.inScope hc ?_))
              refine Rn.reg hc rfl ?_
              simp only [sev_tmp, sev_const, sg_eq, sg_ne, sp_n, Nat.reduceLT, ne_eq, Nat.reduceEqDiff, not_false_eq_true, gd, want_free, rops, fx, bin_add, Option.some.injEq, exists_eq_left', hn, s47, wrap_succ (show i < 9223372036854775807 by omega)]
              (repeat (first | refine Rn.seq hc ?_ | refine Rn.skip hc ?_ | refine Rn.block hc ?_ | refine Rn.inBlock hc ?_ | refine Rn.scope hc ?_ | refine Rn.inScope hc ?_))
              exact ih2 _ _ _ (by omega) ⟨i + 1, by omega, rfl, rfl, by simp only [sp_n, hn], by simp only [sg_ne, ne_eq, Nat.reduceEqDiff, not_false_eq_true, s1], by simp only [sg_ne, ne_eq, Nat.reduceEqDiff, not_false_eq_true, s7], by simp only [sg_ne, ne_eq, Nat.reduceEqDiff, not_false_eq_true, s8], by simp only [sg_ne, ne_eq, Nat.reduceEqDiff, not_false_eq_true, s32], by simp only [sg_ne, ne_eq, Nat.reduceEqDiff, not_false_eq_true, s33], by simp only [sg_ne, ne_eq, Nat.reduceEqDiff, not_false_eq_true, s9], by simp only [sg_ne, ne_eq, Nat.reduceEqDiff, not_false_eq_true, s10], by simp only [sg_ne, ne_eq, Nat.reduceEqDiff, not_false_eq_true, s45], by simp only [sg_ne, ne_eq, Nat.reduceEqDiff, not_false_eq_true, s46], by simp only [sg_eq, sp_n, Nat.reduceLT, hn], take_eq_succ hpre (by omega) hlt2 hv⟩
            · have hd3 : (!decide (L.getD i 0 = word.getD i 0)) = true := by rw [decide_eq_false hv]; rfl
              have hm : mat st ro word n = false := by
                cases hm : mat st ro word n with
                | false => rfl
                | true => exact absurd (by rw [hmat.1 hm]) hv
              rw [hm, if_neg Bool.false_ne_true] at hff
              refine Rn.reg hc rfl ?_
              simp only [sev_tmp, sg_eq, sg_ne, sp_n, Nat.reduceLT, ne_eq, Nat.reduceEqDiff, not_false_eq_true, gd, want_free, rops, fx, ld, idx, bin_neq, adr_p, Option.some.injEq, exists_eq_left', Nat.mul_one, tk3, eo22, hn, s10, nlen_nat hlt2, hcl3, hd3]
              (repeat (first | refine Rn.seq hc ?_ | refine Rn.skip hc ?_ | refine Rn.block hc ?_ | refine Rn.inBlock hc ?_ | refine Rn.scope hc ?_ | refine Rn.inScope hc ?_))
              refine Rn.condE hc rfl ?_
              simp only [sev_tmp, sg_eq, sp_n, Nat.reduceLT, Value.bool.injEq, exists_eq_left', hn]
              (repeat (first | refine Rn.seq hc ?_ | refine Rn.skip hc ?_ | refine Rn.block hc ?_ | refine Rn.inBlock hc ?_ | refine Rn.scope hc ?_ | refine Rn.inScope hc ?_))
              refine Rn.exit hc rfl ?_
              (repeat (first | refine Rn.seq hc ?_ | refine Rn.skip hc ?_ | refine Rn.block hc ?_ | refine Rn.inBlock hc ?_ | refine Rn.scope hc ?_ | refine Rn.inScope hc ?_))
              refine Rn.reg hc rfl ?_
              simp only [sev_tmp, sev_const, sg_eq, sg_ne, sp_n, Nat.reduceLT, ne_eq, Nat.reduceEqDiff, not_false_eq_true, gd, want_free, rops, fx, bin_add, Option.some.injEq, exists_eq_left', hn, s33, wrap_succ (show n < 9223372036854775807 by omega)]
              (repeat (first | refine Rn.seq hc ?_ | refine Rn.skip hc ?_ | refine Rn.block hc ?_ | refine Rn.inBlock hc ?_ | refine Rn.scope hc ?_ | refine Rn.inScope hc ?_))
              exact ih _ _ _ (by omega) ⟨n + 1, by omega, rfl, hA9, by simp only [sp_n, hn], by simp only [sg_ne, ne_eq, Nat.reduceEqDiff, not_false_eq_true, s1], by simp only [sg_ne, ne_eq, Nat.reduceEqDiff, not_false_eq_true, s7], by simp only [sg_ne, ne_eq, Nat.reduceEqDiff, not_false_eq_true, s8], by simp only [sg_ne, ne_eq, Nat.reduceEqDiff, not_false_eq_true, s32], by simp only [sg_eq, sp_n, Nat.reduceLT, hn], hff⟩
          · have hd2 : decide ((i : Int) < (word.length : Int)) = false := by simp; omega
            have hil : i = word.length := by omega
            subst hil
            refine Rn.reg hc rfl ?_
            simp only [sev_tmp, gd, want_free, rops, fx, bin_lss, Option.some.injEq, exists_eq_left', s46, s47, hd2]
            (repeat (first | refine Rn.seq hc ?_ | refine Rn.skip hc ?_ | refine Rn.block hc ?_ | refine Rn.inBlock hc ?_ | refine Rn.scope hc ?_ | refine Rn.inScope hc ?_))
            refine Rn.condE hc rfl ?_
            simp only [sev_tmp, sg_eq, Nat.reduceLT, Value.bool.injEq, exists_eq_left', hn]
            (repeat (first | refine Rn.seq hc ?_ | refine Rn.skip hc ?_ | refine Rn.block hc ?_ | refine Rn.inBlock hc ?_ | refine Rn.scope hc ?_ | refine Rn.inScope hc ?_))
            refine Rn.exit hc rfl ?_
            (repeat (first | refine Rn.seq hc ?_ | refine Rn.skip hc ?_ | refine Rn.block hc ?_ | refine Rn.inBlock hc ?_ | refine Rn.scope hc ?_ | refine Rn.inScope hc ?_))
            rw [List.take_length, ← hL, List.take_length] at hpre
            rw [hmat.2 hpre, if_pos rfl] at hff
            refine Rn.reg hc rfl ?_
            simp only [sev_tmp, sev_const, sg_eq, sg_ne, sp_n, Nat.reduceLT, ne_eq, Nat.reduceEqDiff, not_false_eq_true, gd, want_free, rops, fx, Option.some.injEq, exists_eq_left', hn, s9]
            (repeat (first | refine Rn.seq hc ?_ | refine Rn.skip hc ?_ | refine Rn.block hc ?_ | refine Rn.inBlock hc ?_ | refine Rn.scope hc ?_ | refine Rn.inScope hc ?_))
            refine Rn.ret (endQ_two rfl ⟨?_, hx07.trans (hA9.le (by omega))⟩)
            simp only [sg_eq, sg_ne, sp_n, Nat.reduceLT, ne_eq, Nat.reduceEqDiff, not_false_eq_true, hn]
            rw [hff]
            rfl
      · have hd : decide ((n : Int) < ((st.length + ro.length : Nat) : Int)) = false := by simp; omega
        have hil : n = st.length + ro.length := by omega
        subst hil
        refine Rn.reg hc rfl ?_
        simp only [sev_tmp, gd, want_free, rops, fx, bin_lss, Option.some.injEq, exists_eq_left', s32, s33, hd]
        (repeat (first | refine Rn.seq hc ?_ | refine Rn.skip hc ?_ | refine Rn.block hc ?_ | refine Rn.inBlock hc ?_ | refine Rn.scope hc ?_ | refine Rn.inScope hc ?_))
        refine Rn.condE hc rfl ?_
        simp only [sev_tmp, sg_eq, Nat.reduceLT, Value.bool.injEq, exists_eq_left', hn]
        (repeat (first | refine Rn.seq hc ?_ | refine Rn.skip hc ?_ | refine Rn.block hc ?_ | refine Rn.inBlock hc ?_ | refine Rn.scope hc ?_ | refine Rn.inScope hc ?_))
        refine Rn.exit hc rfl ?_
        (repeat (first | refine Rn.seq hc ?_ | refine Rn.skip hc ?_ | refine Rn.block hc ?_ | refine Rn.inBlock hc ?_ | refine Rn.scope hc ?_ | refine Rn.inScope hc ?_))
        refine Rn.reg hc rfl ?_
        simp only [sev_const, gd, want_free, rops, fx, Option.some.injEq, exists_eq_left']
        (repeat (first | refine Rn.seq hc ?_ | refine Rn.skip hc ?_ | refine Rn.block hc ?_ | refine Rn.inBlock hc ?_ | refine Rn.scope hc ?_ | refine Rn.inScope hc ?_))
        refine Rn.ret (endQ_two rfl ⟨?_, hx07.trans (hA.le (by omega))⟩)
        simp only [sg_eq, sg_ne, sp_n, Nat.reduceLT, ne_eq, Nat.reduceEqDiff, not_false_eq_true, hn]
        rw [hff, Nat.sub_self]
        rfl
  · have hd : (!decide (errL m st ro = 0)) = true := by rw [decide_eq_false he]; rfl
    refine Rn.reg hc rfl ?_
    simp only [sev_tmp, sev_const, sg_eq, sp_n, Nat.reduceLT, gd, want_free, rops, fx, bin_neq, Option.some.injEq, exists_eq_left', hd]
    (repeat (first | refine Rn.seq hc ?_ | refine Rn.skip hc ?_ | refine Rn.block hc ?_ | refine Rn.inBlock hc ?_ | refine Rn.scope hc ?_ | refine Rn.inScope hc ?_))
    refine Rn.condE hc rfl ?_
    simp only [sev_tmp, sg_eq, sp_n, Nat.reduceLT, Value.bool.injEq, exists_eq_left']
    (repeat (first | refine Rn.seq hc ?_ | refine Rn.skip hc ?_ | refine Rn.block hc ?_ | refine Rn.inBlock hc ?_ | refine Rn.scope hc ?_ | refine Rn.inScope hc ?_))
    refine Rn.reg hc rfl ?_
    simp only [sev_tmp, sev_const, sg_eq, sg_ne, sp_n, Nat.reduceLT, ne_eq, Nat.reduceEqDiff, not_false_eq_true, gd, want_free, rops, fx, Option.some.injEq, exists_eq_left']
    (repeat (first | refine Rn.seq hc ?_ | refine Rn.skip hc ?_ | refine Rn.block hc ?_ | refine Rn.inBlock hc ?_ | refine Rn.scope hc ?_ | refine Rn.inScope hc ?_))
    refine Rn.ret (endQ_two rfl ⟨?_, hx04⟩)
    simp only [sg_eq, sg_ne, sp_n, Nat.reduceLT, ne_eq, Nat.reduceEqDiff, not_false_eq_true]
    rw [findV, if_neg he]
end Go.Proofs.Ytdaljohmfnfgiaa

/- LassoLeast returns true for every input, and each argument reads afterwards as it read before. No condition. -/
import Derived.Test.YtdaljohmfnfgiaaXf
/- Elements that are taken, and single operations of the laws. No condition. -/
namespace Go.Proofs.Ytdaljohmfnfgiaa
open Go Go.RowKit Go.Proofs.Ytdaljohmfnfgiaa.Canon
set_option maxRecDepth 20000

theorem cv53 {n : Nat} (hn : n < 256) {A : AHeap} : aconvert Try.prog 5 3 (.int .u8 (n : Int)) A = some (.int .i64 (n : Int), A) := by
  rw [cv_int un5 un3, IntWalk.i64_in _ (by omega)]
theorem dup_gr {A : AHeap} (hw : WF A) {a : Option Addr} {c : Nat} {l : List Int} (h : Ints A a 0 A.next l) (hlen : l.length ≤ 1000) :
    Con Try.prog 51 [.slice a l.length c] A (fun v A1 => ∃ a', v = .slice a' l.length l.length ∧ Nx A.next A A1 ∧ Gr A1 a' A.next l) := by
  refine con_of_rn hc Try.func51 rfl (Nat.le_of_ble_eq_true rfl) ?_
  rw [s_in1]
  obtain ⟨a', A1, e1, hx2, hg⟩ := app_fresh hw (c := c) h (by omega)
  (repeat (first | refine Rn.seq hc ?_ | refine Rn.skip hc ?_ | refine Rn.block hc ?_ | refine Rn.inBlock hc ?_ | refine Rn.scope hc ?_ | refine Rn.inScope hc ?_))
  refine Rn.reg hc rfl ?_
  simp only [sev_const, gd, want_free, rops, fx, Option.some.injEq, exists_eq_left', show Try.f51.ntmps = 6 from rfl]
  (repeat (first | refine Rn.seq hc ?_ | refine Rn.skip hc ?_ | refine Rn.block hc ?_ | refine Rn.inBlock hc ?_ | refine Rn.scope hc ?_ | refine Rn.inScope hc ?_))
  refine Rn.reg hc rfl ?_
  simp only [sev_tmp, sg_eq, sg_ne, sp_n, Nat.reduceLT, ne_eq, Nat.reduceEqDiff, not_false_eq_true, gd, want_free, rops, fx, Option.some.injEq, exists_eq_left', bs22_0, ae_apd, apd_slice, e1]
  (repeat (first | refine Rn.seq hc ?_ | refine Rn.skip hc ?_ | refine Rn.block hc ?_ | refine Rn.inBlock hc ?_ | refine Rn.scope hc ?_ | refine Rn.inScope hc ?_))
  refine Rn.ret (endQ_tmp rfl ⟨a', ?_, hx2, hg⟩)
  simp only [sg_eq, sp_n, Nat.reduceLT]
theorem errL_ok {m : Nat} {st ro : List Int} (h : 2 ≤ m ∧ m ≤ 65521) (h1 : st.length ≤ 60) (h2 : 1 ≤ ro.length) (h3 : ro.length ≤ 120) (h4 : st.all (inB m) = true) (h5 : ro.all (inB m) = true) : errL m st ro = 0 := by
  unfold errL
  rw [if_neg (by simp [badM]; omega), if_neg (by simp [badN]; omega), if_pos (by rw [h4, h5]; rfl)]
theorem atL_in {m : Int} {st ro : List Int} (h1 : st.all (inB m) = true) (h2 : ro.all (inB m) = true) (hro : 0 < ro.length) (n : Nat) : 0 ≤ atL st ro n ∧ atL st ro n < m := by
  have inB_getD : ∀ {l : List Int}, l.all (inB m) = true → ∀ {i : Nat}, i < l.length → 0 ≤ l.getD i 0 ∧ l.getD i 0 < m := fun {l} h {i} hi => by
    rw [List.all_eq_true] at h
    have := h l[i] (List.getElem_mem hi)
    simp only [inB, Bool.and_eq_true, decide_eq_true_eq] at this
    simpa [List.getD_eq_getElem?_getD, hi] using this
  unfold atL
  split
  · rename_i h; exact inB_getD h1 h
  · exact inB_getD h2 (Nat.mod_lt _ hro)
theorem takeL_append (st ro : List Int) (n a b : Nat) : takeL st ro n (a + b) = takeL st ro n a ++ takeL st ro (n + a) b := by
  unfold takeL
  rw [List.range_add, List.map_append, List.map_map]
  congr 1
  refine List.map_congr_left fun i _ => ?_
  simp [Nat.add_assoc]
theorem takeL_st {st ro : List Int} {n : Nat} (h : n ≤ st.length) : takeL st ro 0 n = st.take n := by
  refine List.ext_getElem (by rw [takeL_len]; simp; omega) fun i h1 h2 => ?_
  rw [takeL_len] at h1
  simp [takeL, atL, List.getD_eq_getElem?_getD, show i < st.length by omega]
end Go.Proofs.Ytdaljohmfnfgiaa
/- LassoLeast's second half. No condition. -/
namespace Go.Proofs.Ytdaljohmfnfgiaa
open Go Go.RowKit Go.Proofs.Ytdaljohmfnfgiaa.Canon
set_option maxRecDepth 20000

def restOf : Code → Code
  | .seq _ b => b
  | c => c
def restN : Nat → Code → Code
  | 0, c => c
  | n + 1, c => restN n (restOf c)
/-- What is known half way. -/
structure Half (A D : AHeap) (bA bL m : Nat) (sa ra la lr : Option Addr) (st ro ls lro : List Int) : Prop where
  hx : Nx A.next A D
  d0 : cl D bA 0 = some (.int .i64 (m : Int))
  d1 : cl D bA 1 = some (.slice sa st.length st.length)
  d2 : cl D bA 2 = some (.slice ra ro.length ro.length)
  e0 : cl D bL 0 = some (.int .i64 (m : Int))
  e1 : cl D bL 1 = some (.slice la ls.length ls.length)
  e2 : cl D bL 2 = some (.slice lr lro.length lro.length)
  x1 : Ints D sa 0 D.next st
  x2 : Ints D ra 0 D.next ro
  z1 : Ints D la 0 D.next ls
  z2 : Ints D lr 0 D.next lro
  bl : bA < D.next ∧ bL < D.next ∧ bL ≠ bA
  hm : 2 ≤ m ∧ m ≤ 65521
  h1 : st.length ≤ 12
  h2 : 1 ≤ ro.length
  h3 : ro.length ≤ 12
  i1 : st.all (inB m) = true
  i2 : ro.all (inB m) = true
  red : Red (atL st ro) ls.length lro.length
  eS : redS (atL st ro) ls.length = ls
  eR : redR (atL st ro) ls.length lro.length = lro
theorem Half.mono {A D E : AHeap} {bA bL m : Nat} {sa ra la lr : Option Addr} {st ro ls lro : List Int} (h : Half A D bA bL m sa ra la lr st ro ls lro) (k : Nx D.next D E) : Half A E bA bL m sa ra la lr st ro ls lro :=
  { hx := h.hx.trans (k.le h.hx.next)
    d0 := (k.cl h.bl.1 0).trans h.d0
    d1 := (k.cl h.bl.1 1).trans h.d1
    d2 := (k.cl h.bl.1 2).trans h.d2
    e0 := (k.cl h.bl.2.1 0).trans h.e0
    e1 := (k.cl h.bl.2.1 1).trans h.e1
    e2 := (k.cl h.bl.2.1 2).trans h.e2
    x1 := (h.x1.nx k (Nat.le_refl _)).mono (Nat.le_refl _) k.next
    x2 := (h.x2.nx k (Nat.le_refl _)).mono (Nat.le_refl _) k.next
    z1 := (h.z1.nx k (Nat.le_refl _)).mono (Nat.le_refl _) k.next
    z2 := (h.z2.nx k (Nat.le_refl _)).mono (Nat.le_refl _) k.next
    bl := ⟨Nat.lt_of_lt_of_le h.bl.1 k.next, Nat.lt_of_lt_of_le h.bl.2.1 k.next, h.bl.2.2⟩
    hm := h.hm, h1 := h.h1, h2 := h.h2, h3 := h.h3, i1 := h.i1, i2 := h.i2, red := h.red, eS := h.eS, eR := h.eR }

/-- The first loop: no shorter round comes again. -/
theorem least_loop {A D : AHeap} {bA bL m : Nat} {sa ra la lr : Option Addr} {st ro ls lro : List Int} (h : Half A D bA bL m sa ra la lr st ro ls lro) {more : Nat} {s : Slots} (hn : s.n = 230) (s2 : sget s 2 = .int .u8 (more : Int)) (s8 : sget s 8 = .pointer (some ⟨bA, 0, none⟩)) (s9 : sget s 9 = .pointer (some ⟨bL, 0, none⟩)) {Q : Post}
    (hk : ∀ s E, Nx D.next D E → s.n = 230 → sget s 2 = .int .u8 (more : Int) → sget s 8 = .pointer (some ⟨bA, 0, none⟩) → sget s 9 = .pointer (some ⟨bL, 0, none⟩) → Rn Try.prog 9 none [.code (restN 8 (Try.f9.body.getD .skip))] s [] E Q) :
    Rn Try.prog 9 none [.code (restN 7 (Try.f9.body.getD .skip))] s [] D Q := by
  refine Rn.seq hc ?_
  refine Rn.cut2 hc (Q1 := fun s ds E => ds = [] ∧ Nx D.next D E ∧ s.n = 230 ∧ sget s 2 = .int .u8 (more : Int) ∧ sget s 8 = .pointer (some ⟨bA, 0, none⟩) ∧ sget s 9 = .pointer (some ⟨bL, 0, none⟩))
    (Q2 := fun _ _ _ => False) ?_ ?_ ?_
  · (repeat (first | refine Rn.seq hc ?_ | refine Rn.skip hc ?_ | refine Rn.block hc ?_ | refine Rn.inBlock hc ?_ | refine Rn.scope hc ?_ | refine Rn.inScope hc ?_))
    refine Rn.reg hc rfl ?_
    simp only [sev_const, gd, want_free, rops, fx, Option.some.injEq, exists_eq_left']
    (repeat (first | refine Rn.seq hc ?_ | refine Rn.skip hc ?_ | refine Rn.block hc ?_ | refine Rn.inBlock hc ?_ | refine Rn.scope hc ?_ | refine Rn.inScope hc ?_))
    have hp0 := h.red.per.pos
    have hp12 : lro.length ≤ 12 := Nat.le_trans (h.red.minP _ _ (atL_per (st := st) h.h2)) h.h3
    refine Rn.loopI hc (I := fun kk s E => ∃ k, 1 ≤ k ∧ k ≤ lro.length ∧ kk = lro.length - k ∧ Nx D.next D E ∧ s.n = 230 ∧ sget s 2 = .int .u8 (more : Int) ∧ sget s 8 = .pointer (some ⟨bA, 0, none⟩) ∧ sget s 9 = .pointer (some ⟨bL, 0, none⟩) ∧ sget s 13 = .int .i64 (k : Int))
      (n := lro.length - 1) ⟨1, by omega, by omega, rfl, Nx.refl h.hx.wf _, by simp only [sp_n, hn], by simp only [sg_ne, ne_eq, Nat.reduceEqDiff, not_false_eq_true, s2], by simp only [sg_ne, ne_eq, Nat.reduceEqDiff, not_false_eq_true, s8], by simp only [sg_ne, ne_eq, Nat.reduceEqDiff, not_false_eq_true, s9], by simp only [sg_eq, Nat.reduceLT, hn]; rfl⟩ ?_
    clear hn s2 s8 s9 s
    rintro kk s E ⟨k, hk1, hk2, rfl, hE, hn, s2, s8, s9, s13⟩ ih
    have e2 := (hE.cl h.bl.2.1 2).trans h.e2
    (repeat (first | refine Rn.seq hc ?_ | refine Rn.skip hc ?_ | refine Rn.block hc ?_ | refine Rn.inBlock hc ?_ | refine Rn.scope hc ?_ | refine Rn.inScope hc ?_))
    by_cases hlt : k < lro.length
    · have hd : decide ((k : Int) < (lro.length : Int)) = true := decide_eq_true (by omega)
      have hrem : ∀ M, bin Try.prog .rem 3 (.int .i64 (lro.length : Int)) (.int .i64 (k : Int)) M = some (.int .i64 ((lro.length % k : Nat) : Int), M) := fun M => by
        rw [bin_rem _ _ _ _ (by omega), IntWalk.rem_in _ _ (by omega)]
        rfl
      refine Rn.reg hc rfl ?_
      simp only [sev_tmp, sg_eq, sg_ne, sp_n, Nat.reduceLT, ne_eq, Nat.reduceEqDiff, not_false_eq_true, gd, want_free, rops, fx, ld, fad, lng, bin_lss, adr_p, Nat.zero_add, Option.some.injEq, exists_eq_left', tk22, fo24_2, un22, hn, s9, s13, e2, hd]
      (repeat (first | refine Rn.seq hc ?_ | refine Rn.skip hc ?_ | refine Rn.block hc ?_ | refine Rn.inBlock hc ?_ | refine Rn.scope hc ?_ | refine Rn.inScope hc ?_))
      refine Rn.condE hc rfl ?_
      simp only [sev_tmp, sg_eq, sp_n, Nat.reduceLT, Value.bool.injEq, exists_eq_left', hn]
      (repeat (first | refine Rn.seq hc ?_ | refine Rn.skip hc ?_ | refine Rn.block hc ?_ | refine Rn.inBlock hc ?_ | refine Rn.scope hc ?_ | refine Rn.inScope hc ?_))
      refine Rn.reg hc rfl ?_
      simp only [sev_tmp, sev_const, sg_eq, sg_ne, sp_n, Nat.reduceLT, ne_eq, Nat.reduceEqDiff, not_false_eq_true, gd, want_free, rops, fx, ld, fad, lng, bin_eql, adr_p, Nat.zero_add, Option.some.injEq, exists_eq_left', tk22, fo24_2, un22, hn, s9, s13, e2, hrem]
      (repeat (first | refine Rn.seq hc ?_ | refine Rn.skip hc ?_ | refine Rn.block hc ?_ | refine Rn.inBlock hc ?_ | refine Rn.scope hc ?_ | refine Rn.inScope hc ?_))
      refine Rn.reg hc rfl ?_
      simp only [sev_tmp, sg_eq, sg_ne, sp_n, Nat.reduceLT, ne_eq, Nat.reduceEqDiff, not_false_eq_true, gd, want_free, rops, fx, Option.some.injEq, exists_eq_left', hn, s13]
      (repeat (first | refine Rn.seq hc ?_ | refine Rn.skip hc ?_ | refine Rn.block hc ?_ | refine Rn.inBlock hc ?_ | refine Rn.scope hc ?_ | refine Rn.inScope hc ?_))
      refine Rn.loopI hc (I := fun kk s E => ∃ i t, k ≤ i ∧ i ≤ lro.length ∧ kk = lro.length - i ∧ Nx D.next D E ∧ (t = true → lro.length % k = 0 ∧ ∀ j, k ≤ j → j < i → lro.getD j 0 = lro.getD (j - k) 0) ∧ s.n = 230 ∧ sget s 2 = .int .u8 (more : Int) ∧ sget s 8 = .pointer (some ⟨bA, 0, none⟩) ∧ sget s 9 = .pointer (some ⟨bL, 0, none⟩) ∧ sget s 13 = .int .i64 (k : Int) ∧ sget s 14 = .bool t ∧ sget s 15 = .int .i64 (i : Int))
        (n := lro.length - k) ⟨k, decide (((lro.length % k : Nat) : Int) = 0), Nat.le_refl _, by omega, rfl, hE, fun ht => ⟨by have := of_decide_eq_true ht; omega, fun j h1 h2 => by omega⟩, by simp only [sp_n, hn], by simp only [sg_ne, ne_eq, Nat.reduceEqDiff, not_false_eq_true, s2], by simp only [sg_ne, ne_eq, Nat.reduceEqDiff, not_false_eq_true, s8], by simp only [sg_ne, ne_eq, Nat.reduceEqDiff, not_false_eq_true, s9], by simp only [sg_ne, ne_eq, Nat.reduceEqDiff, not_false_eq_true, s13], by simp only [sg_eq, sg_ne, sp_n, Nat.reduceLT, ne_eq, Nat.reduceEqDiff, not_false_eq_true, hn], by simp only [sg_eq, sp_n, Nat.reduceLT, hn]⟩ ?_
      clear hn s2 s8 s9 s13 s hd hE E e2
      rintro kk s E ⟨i, t, hi1, hi2, rfl, hE, ht, hn, s2, s8, s9, s13, s14, s15⟩ ihi
      have e2 := (hE.cl h.bl.2.1 2).trans h.e2
      (repeat (first | refine Rn.seq hc ?_ | refine Rn.skip hc ?_ | refine Rn.block hc ?_ | refine Rn.inBlock hc ?_ | refine Rn.scope hc ?_ | refine Rn.inScope hc ?_))
      by_cases hgo : i < lro.length ∧ t = true
      · obtain ⟨hlti, rfl⟩ := hgo
        have hd : decide ((i : Int) < (lro.length : Int)) = true := decide_eq_true (by omega)
        refine Rn.reg hc rfl ?_
        simp only [sev_tmp, sg_eq, sg_ne, sp_n, Nat.reduceLT, ne_eq, Nat.reduceEqDiff, not_false_eq_true, gd, nth, want_free, want_slot, beqB, rops, fx, ld, fad, lng, pck, bin_lss, adr_p, Nat.zero_add, Option.some.injEq, exists_eq_left', tk22, fo24_2, un22, hn, s9, s14, s15, e2, hd]
        (repeat (first | refine Rn.seq hc ?_ | refine Rn.skip hc ?_ | refine Rn.block hc ?_ | refine Rn.inBlock hc ?_ | refine Rn.scope hc ?_ | refine Rn.inScope hc ?_))
        refine Rn.condE hc rfl ?_
        simp only [sev_tmp, sg_eq, sp_n, Nat.reduceLT, Value.bool.injEq, exists_eq_left', hn]
        (repeat (first | refine Rn.seq hc ?_ | refine Rn.skip hc ?_ | refine Rn.block hc ?_ | refine Rn.inBlock hc ?_ | refine Rn.scope hc ?_ | refine Rn.inScope hc ?_))
        obtain ⟨bb, o, rfl, _, hb1, hcl⟩ := h.z2 i hlti
        obtain ⟨bb', o', e', _, _, hcl'⟩ := h.z2 (i - k) (by omega)
        cases e'
        have hcl : cl E bb (o + i) = _ := (hE.cl hb1 _).trans hcl
        have hcl' : cl E bb (o + (i - k)) = _ := (hE.cl hb1 _).trans hcl'
        have hsub : IntKind.i64.wrap ((i : Int) - (k : Int)) = ((i - k : Nat) : Int) := by rw [IntWalk.i64_in _ (by omega)]; omega
        have hikl : i - k < lro.length := by omega
        refine Rn.drawnR hc hx (by kernel_rfl) (by rfl) (by kernel_rfl) ?_ ?_
        · simp only [rdV, VQ.int, VQ.bool, VQ.ptr, VQ.slice, cl_bump, sev_tmp, sg_eq, sg_ne, sp_n, Nat.reduceLT, ne_eq, Nat.reduceEqDiff, not_false_eq_true, gd, want_free, fx, ld, fad, idx, bin_eql, bin_sub, adr_p, Nat.zero_add, Nat.reduceAdd, Nat.mul_one, and_self, tk3, tk22, fo24_2, eo22, hn, s9, s13, s15, e2, nlen_nat hlti, nlen_nat hikl, hsub, hcl, hcl', List.length_cons, List.length_nil]
        simp only [cl_bump, sev_tmp, sg_eq, sg_ne, sp_n, Nat.reduceLT, ne_eq, Nat.reduceEqDiff, not_false_eq_true, gd, want_free, rops, fx, ld, fad, idx, bin_eql, bin_sub, adr_p, Nat.zero_add, Option.some.injEq, exists_eq_left', Nat.reduceAdd, Nat.mul_one, tk3, tk22, fo24_2, eo22, hn, s9, s13, s15, e2, nlen_nat hlti, nlen_nat hikl, hsub, hcl, hcl', List.length_cons, List.length_nil]
        (repeat (first | refine Rn.seq hc ?_ | refine Rn.skip hc ?_ | refine Rn.block hc ?_ | refine Rn.inBlock hc ?_ | refine Rn.scope hc ?_ | refine Rn.inScope hc ?_))
        refine Rn.reg hc rfl ?_
        simp only [sev_tmp, sev_const, sg_eq, sg_ne, sp_n, Nat.reduceLT, ne_eq, Nat.reduceEqDiff, not_false_eq_true, gd, want_free, rops, fx, bin_add, Option.some.injEq, exists_eq_left', hn, s15, wrap_succ (show i < 9223372036854775807 by omega)]
        (repeat (first | refine Rn.seq hc ?_ | refine Rn.skip hc ?_ | refine Rn.block hc ?_ | refine Rn.inBlock hc ?_ | refine Rn.scope hc ?_ | refine Rn.inScope hc ?_))
        refine ihi _ _ _ (by omega) ⟨i + 1, decide (lro.getD i 0 = lro.getD (i - k) 0), by omega, by omega, rfl, Nx.bump hE _, fun hh => ⟨(ht rfl).1, fun j h1 h2 => ?_⟩, by simp only [sp_n, hn], by simp only [sg_ne, ne_eq, Nat.reduceEqDiff, not_false_eq_true, s2], by simp only [sg_ne, ne_eq, Nat.reduceEqDiff, not_false_eq_true, s8], by simp only [sg_ne, ne_eq, Nat.reduceEqDiff, not_false_eq_true, s9], by simp only [sg_ne, ne_eq, Nat.reduceEqDiff, not_false_eq_true, s13], by simp only [sg_eq, sg_ne, sp_n, Nat.reduceLT, ne_eq, Nat.reduceEqDiff, not_false_eq_true, hn], by simp only [sg_eq, sp_n, Nat.reduceLT, hn]⟩
        by_cases hji : j = i
        · subst hji; exact of_decide_eq_true hh
        · exact (ht rfl).2 j h1 (by omega)
      · have htf : t = false := by
          cases t with
          | false => rfl
          | true =>
            have hil : i = lro.length := Nat.le_antisymm hi2 (Nat.le_of_not_lt fun hh => hgo ⟨hh, rfl⟩)
            obtain ⟨q1, q2⟩ := ht rfl
            have hpo : perOK lro k = true := perOK_iff.2 ⟨q1, fun j h1 h2 => q2 j h1 (by omega)⟩
            have hper := perOK_per (st := ls) hp0 (by omega) hpo
            have hF := atL_redF h.red.per
            rw [h.eS, h.eR] at hF
            rw [hF] at hper
            have := h.red.minP _ _ hper
            omega
        subst htf
        clear ihi
        by_cases hlti : i < lro.length
        · have hd : decide ((i : Int) < (lro.length : Int)) = true := decide_eq_true (by omega)
          refine Rn.reg hc rfl ?_
          simp only [sev_tmp, sg_eq, sg_ne, sp_n, Nat.reduceLT, ne_eq, Nat.reduceEqDiff, not_false_eq_true, gd, nth, want_free, want_slot, beqB, rops, fx, ld, fad, lng, pck, bin_lss, adr_p, Nat.zero_add, Option.some.injEq, exists_eq_left', tk22, fo24_2, un22, hn, s9, s14, s15, e2, hd]
          (repeat (first | refine Rn.seq hc ?_ | refine Rn.skip hc ?_ | refine Rn.block hc ?_ | refine Rn.inBlock hc ?_ | refine Rn.scope hc ?_ | refine Rn.inScope hc ?_))
          refine Rn.condE hc rfl ?_
          simp only [sev_tmp, sg_eq, sp_n, Nat.reduceLT, Value.bool.injEq, exists_eq_left', hn]
          (repeat (first | refine Rn.seq hc ?_ | refine Rn.skip hc ?_ | refine Rn.block hc ?_ | refine Rn.inBlock hc ?_ | refine Rn.scope hc ?_ | refine Rn.inScope hc ?_))
          refine Rn.exit hc rfl ?_
          (repeat (first | refine Rn.seq hc ?_ | refine Rn.skip hc ?_ | refine Rn.block hc ?_ | refine Rn.inBlock hc ?_ | refine Rn.scope hc ?_ | refine Rn.inScope hc ?_))
          refine Rn.reg hc rfl ?_
          simp only [sev_tmp, sg_ne, ne_eq, Nat.reduceEqDiff, not_false_eq_true, gd, want_free, rops, fx, Option.some.injEq, exists_eq_left', s14]
          (repeat (first | refine Rn.seq hc ?_ | refine Rn.skip hc ?_ | refine Rn.block hc ?_ | refine Rn.inBlock hc ?_ | refine Rn.scope hc ?_ | refine Rn.inScope hc ?_))
          refine Rn.condE hc rfl ?_
          simp only [sev_tmp, sg_eq, sp_n, Nat.reduceLT, Value.bool.injEq, exists_eq_left', hn]
          (repeat (first | refine Rn.seq hc ?_ | refine Rn.skip hc ?_ | refine Rn.block hc ?_ | refine Rn.inBlock hc ?_ | refine Rn.scope hc ?_ | refine Rn.inScope hc ?_))
          refine Rn.reg hc rfl ?_
          simp only [sev_tmp, sev_const, sg_eq, sg_ne, sp_n, Nat.reduceLT, ne_eq, Nat.reduceEqDiff, not_false_eq_true, gd, want_free, rops, fx, bin_add, Option.some.injEq, exists_eq_left', hn, s13, wrap_succ (show k < 9223372036854775807 by omega)]
          (repeat (first | refine Rn.seq hc ?_ | refine Rn.skip hc ?_ | refine Rn.block hc ?_ | refine Rn.inBlock hc ?_ | refine Rn.scope hc ?_ | refine Rn.inScope hc ?_))
          exact ih _ _ _ (by omega) ⟨k + 1, by omega, by omega, rfl, hE, by simp only [sp_n, hn], by simp only [sg_ne, ne_eq, Nat.reduceEqDiff, not_false_eq_true, s2], by simp only [sg_ne, ne_eq, Nat.reduceEqDiff, not_false_eq_true, s8], by simp only [sg_ne, ne_eq, Nat.reduceEqDiff, not_false_eq_true, s9], by simp only [sg_eq, sp_n, Nat.reduceLT, hn]⟩
        · have hd : decide ((i : Int) < (lro.length : Int)) = false := decide_eq_false (by omega)
          refine Rn.reg hc rfl ?_
          simp only [sev_tmp, sev_const, sg_eq, sg_ne, sp_n, Nat.reduceLT, ne_eq, Nat.reduceEqDiff, not_false_eq_true, gd, nth, want_free, want_slot, beqB, rops, fx, ld, fad, lng, pck, bin_lss, adr_p, Nat.zero_add, Option.some.injEq, exists_eq_left', tk22, fo24_2, un22, hn, s9, s15, e2, hd]
          (repeat (first | refine Rn.seq hc ?_ | refine Rn.skip hc ?_ | refine Rn.block hc ?_ | refine Rn.inBlock hc ?_ | refine Rn.scope hc ?_ | refine Rn.inScope hc ?_))
          refine Rn.condE hc rfl ?_
          simp only [sev_tmp, sg_eq, sp_n, Nat.reduceLT, Value.bool.injEq, exists_eq_left', hn]
          (repeat (first | refine Rn.seq hc ?_ | refine Rn.skip hc ?_ | refine Rn.block hc ?_ | refine Rn.inBlock hc ?_ | refine Rn.scope hc ?_ | refine Rn.inScope hc ?_))
          refine Rn.exit hc rfl ?_
          (repeat (first | refine Rn.seq hc ?_ | refine Rn.skip hc ?_ | refine Rn.block hc ?_ | refine Rn.inBlock hc ?_ | refine Rn.scope hc ?_ | refine Rn.inScope hc ?_))
          refine Rn.reg hc rfl ?_
          simp only [sev_tmp, sg_ne, ne_eq, Nat.reduceEqDiff, not_false_eq_true, gd, want_free, rops, fx, Option.some.injEq, exists_eq_left', s14]
          (repeat (first | refine Rn.seq hc ?_ | refine Rn.skip hc ?_ | refine Rn.block hc ?_ | refine Rn.inBlock hc ?_ | refine Rn.scope hc ?_ | refine Rn.inScope hc ?_))
          refine Rn.condE hc rfl ?_
          simp only [sev_tmp, sg_eq, sp_n, Nat.reduceLT, Value.bool.injEq, exists_eq_left', hn]
          (repeat (first | refine Rn.seq hc ?_ | refine Rn.skip hc ?_ | refine Rn.block hc ?_ | refine Rn.inBlock hc ?_ | refine Rn.scope hc ?_ | refine Rn.inScope hc ?_))
          refine Rn.reg hc rfl ?_
          simp only [sev_tmp, sev_const, sg_eq, sg_ne, sp_n, Nat.reduceLT, ne_eq, Nat.reduceEqDiff, not_false_eq_true, gd, want_free, rops, fx, bin_add, Option.some.injEq, exists_eq_left', hn, s13, wrap_succ (show k < 9223372036854775807 by omega)]
          (repeat (first | refine Rn.seq hc ?_ | refine Rn.skip hc ?_ | refine Rn.block hc ?_ | refine Rn.inBlock hc ?_ | refine Rn.scope hc ?_ | refine Rn.inScope hc ?_))
          exact ih _ _ _ (by omega) ⟨k + 1, by omega, by omega, rfl, hE, by simp only [sp_n, hn], by simp only [sg_ne, ne_eq, Nat.reduceEqDiff, not_false_eq_true, s2], by simp only [sg_ne, ne_eq, Nat.reduceEqDiff, not_false_eq_true, s8], by simp only [sg_ne, ne_eq, Nat.reduceEqDiff, not_false_eq_true, s9], by simp only [sg_eq, sp_n, Nat.reduceLT, hn]⟩
    · have hd : decide ((k : Int) < (lro.length : Int)) = false := decide_eq_false (by omega)
      clear ih
      refine Rn.reg hc rfl ?_
      simp only [sev_tmp, sg_eq, sg_ne, sp_n, Nat.reduceLT, ne_eq, Nat.reduceEqDiff, not_false_eq_true, gd, want_free, rops, fx, ld, fad, lng, bin_lss, adr_p, Nat.zero_add, Option.some.injEq, exists_eq_left', tk22, fo24_2, un22, hn, s9, s13, e2, hd]
      (repeat (first | refine Rn.seq hc ?_ | refine Rn.skip hc ?_ | refine Rn.block hc ?_ | refine Rn.inBlock hc ?_ | refine Rn.scope hc ?_ | refine Rn.inScope hc ?_))
      refine Rn.condE hc rfl ?_
      simp only [sev_tmp, sg_eq, sp_n, Nat.reduceLT, Value.bool.injEq, exists_eq_left', hn]
      (repeat (first | refine Rn.seq hc ?_ | refine Rn.skip hc ?_ | refine Rn.block hc ?_ | refine Rn.inBlock hc ?_ | refine Rn.scope hc ?_ | refine Rn.inScope hc ?_))
      refine Rn.exit hc rfl ?_
      (repeat (first | refine Rn.seq hc ?_ | refine Rn.skip hc ?_ | refine Rn.block hc ?_ | refine Rn.inBlock hc ?_ | refine Rn.scope hc ?_ | refine Rn.inScope hc ?_))
      exact Rn.fall ⟨rfl, hE, by simp only [sp_n, hn], by simp only [sg_ne, ne_eq, Nat.reduceEqDiff, not_false_eq_true, s2], by simp only [sg_ne, ne_eq, Nat.reduceEqDiff, not_false_eq_true, s8], by simp only [sg_ne, ne_eq, Nat.reduceEqDiff, not_false_eq_true, s9]⟩
  · rintro s ds E ⟨rfl, hE, hn, s2, s8, s9⟩
    exact hk s E hE hn s2 s8 s9
  · intro _ _ _ h
    exact h.elim
end Go.Proofs.Ytdaljohmfnfgiaa
/- LassoLeast: the same stream, told in another way. No condition. -/
namespace Go.Proofs.Ytdaljohmfnfgiaa
open Go Go.RowKit Go.Proofs.Ytdaljohmfnfgiaa.Canon
set_option maxRecDepth 20000


theorem of_lasso {A : AHeap} (hw : WF A) (m : Int) (a b : Option Addr) (n c n' c' : Nat) : Con Try.prog 61 [.int .i64 m, .slice a n c, .slice b n' c'] A (fun v A1 => v = .agg #[.int .i64 m, .slice a n c, .slice b n' c'] ∧ Nx A.next A A1) := by
  refine con_of_rn hc Try.func61 rfl (Nat.le_of_ble_eq_true rfl) ?_
  obtain ⟨A2, p2, hx2, hn2, d0, d1, d2⟩ := put24 hw (v0 := .int .i64 m) (v1 := .slice a n c) (v2 := .slice b n' c') rfl
  rw [s_in3]
  (repeat (first | refine Rn.seq hc ?_ | refine Rn.skip hc ?_ | refine Rn.block hc ?_ | refine Rn.inBlock hc ?_ | refine Rn.scope hc ?_ | refine Rn.inScope hc ?_))
  refine Rn.reg hc rfl ?_
  simp only [gd, want_free, rops, fx, Option.some.injEq, exists_eq_left', Value.cells, show Try.f61.ntmps = 11 from rfl, ze24]
  (repeat (first | refine Rn.seq hc ?_ | refine Rn.skip hc ?_ | refine Rn.block hc ?_ | refine Rn.inBlock hc ?_ | refine Rn.scope hc ?_ | refine Rn.inScope hc ?_))
  refine Rn.reg hc rfl ?_
  simp only [sev_tmp, sg_eq, sg_ne, sp_n, sp_none, Nat.reduceLT, ne_eq, Nat.reduceEqDiff, not_false_eq_true, gd, want_free, rops, fx, str, adr_p, Nat.zero_add, Option.some.injEq, exists_eq_left', Nat.reduceAdd, tk24, bd24, isCell, p2, List.size_toArray, List.length_cons, List.length_nil, Nat.beq_refl]
  (repeat (first | refine Rn.seq hc ?_ | refine Rn.skip hc ?_ | refine Rn.block hc ?_ | refine Rn.inBlock hc ?_ | refine Rn.scope hc ?_ | refine Rn.inScope hc ?_))
  refine Rn.ret (endQ_cell rfl (v := .agg #[.int .i64 m, .slice a n c, .slice b n' c']) ?_ ⟨rfl, hx2⟩)
  simp only [sg_eq, sg_ne, sp_n, Nat.reduceLT, ne_eq, Nat.reduceEqDiff, not_false_eq_true, ld, adr_p, cls, Nat.zero_add, Nat.reduceAdd, tk24, d0, d1, d2]
section
variable {ρ : Operand → Value} {d : Option Tmp} {ty : TypeId} {pos : String} {af : Array Edge} {gu : Option (Nat × Bool)}
theorem fbal24 : fobj Try.prog ρ ⟨d, .alloc 24, ty, pos, af, gu⟩ = some ⟨[.int .i64 0, .slice none 0 0, .slice none 0 0], 24, .ptr⟩ := by
  simp only [fobj, ze24]
  rfl
end
theorem place_al {A : AHeap} (hw : WF A) {b : Nat} (hlt : b < A.next) (hn : Canon.look A.objs b = none) (c : List Value) (t : TypeId) :
    ∃ B, place b ⟨c, t, .ptr⟩ A = some (.pointer (some ⟨b, 0, none⟩), B) ∧ WF B ∧ B.next = A.next ∧ Canon.look B.objs b = some ⟨.cells ⟨c⟩ t, false, 0⟩ ∧ ∀ b', b' ≠ b → Canon.look B.objs b' = Canon.look A.objs b' := by
  have hp : place b ⟨c, t, .ptr⟩ A = some (.pointer (some ⟨b, 0, none⟩), ⟨A.next, consO b ⟨.cells ⟨c⟩ t, false, 0⟩ A.objs⟩) := by
    unfold place
    simp only [FK.isNo, hn]
    rfl
  have hx := (Nx.refl hw 0).cons (Nat.zero_le b) hlt ⟨.cells ⟨c⟩ t, false, 0⟩
  exact ⟨_, hp, hx.wf, rfl, look_consO_eq _ _ _, fun b' hb' => look_consO_ne hb'⟩
def dS (l : List Int) : Canon.Spec := fun g xs A v A1 => match g with
  | 51 => ∃ a', v = .slice a' l.length l.length ∧ Nx A.next A A1 ∧ Gr A1 a' A.next l
  | _ => v = .agg ⟨xs⟩ ∧ Nx A.next A A1

theorem least_mid {A D : AHeap} {bA bL m : Nat} {sa ra la lr : Option Addr} {st ro ls lro : List Int} (h : Half A D bA bL m sa ra la lr st ro ls lro) {more : Nat} {s : Slots} (hn : s.n = 230) (s2 : sget s 2 = .int .u8 (more : Int)) (s8 : sget s 8 = .pointer (some ⟨bA, 0, none⟩)) (s9 : sget s 9 = .pointer (some ⟨bL, 0, none⟩)) {Q : Post}
    (hk : ∀ s E bB xa, Nx D.next D E → D.next ≤ bB → bB < E.next → Canon.look E.objs bB = some ⟨.cells #[.int .i64 (m : Int), .slice xa st.length st.length, .slice none 0 0] 24, false, 0⟩ → Gr E xa (bB + 1) st → s.n = 230 → sget s 2 = .int .u8 (more : Int) → sget s 8 = .pointer (some ⟨bA, 0, none⟩) → sget s 9 = .pointer (some ⟨bL, 0, none⟩) → sget s 16 = .pointer (some ⟨bB, 0, none⟩) → Rn Try.prog 9 none [.code (restN 9 (Try.f9.body.getD .skip))] s [] E Q) :
    Rn Try.prog 9 none [.code (restN 8 (Try.f9.body.getD .skip))] s [] D Q := by
  refine Rn.seq hc ?_
  obtain ⟨F, hF0, hF1, hF⟩ : ∃ F : AHeap → Prop, (∀ M, F M → cl M bA 0 = some (.int .i64 (m : Int))) ∧ (∀ M, F M → cl M bA 1 = some (.slice sa st.length st.length)) ∧ (∀ M, Canon.look M.objs bA = Canon.look D.objs bA → F M) :=
    ⟨fun M => cl M bA 0 = some (.int .i64 (m : Int)) ∧ cl M bA 1 = some (.slice sa st.length st.length), fun _ h => h.1, fun _ h => h.2, fun M q => ⟨(cl_look q).trans h.d0, (cl_look q).trans h.d1⟩⟩
  have hwD := h.hx.wf
  have hbk : Nx D.next D (bump D 8) := Nx.bump (Nx.refl hwD _) 8
  have FB : F (bump D 8) := hF _ rfl
  have hbA := h.bl.1
  have h1 := h.h1
  refine Rn.drawnL hc hx (dS st) F (E := [4, 5, 6]) (n := 7) (k := 8) (by kernel_rfl) (by kernel_rfl) (by rfl) (by kernel_rfl) ?_
  refine DrL.read (by first | rfl | kernel_rfl) (by first | rfl | (simp only [sev_tmp, sev_const, sev_func, sg_eq, sg_ne, sp_n, sp_none, Nat.reduceLT, ne_eq, Nat.reduceEqDiff, not_false_eq_true, gd, nth, want_free, want_slot, beqB, List.map_cons, List.map_nil, Array.toList_empty, List.nil_append, List.append_nil, List.cons_append, hn]; done) | (simp only [sev_tmp, sev_const, sev_func, sg_eq, sg_ne, sp_n, sp_none, Nat.reduceLT, ne_eq, Nat.reduceEqDiff, not_false_eq_true, gd, nth, want_free, want_slot, beqB, List.map_cons, List.map_nil, Array.toList_empty, List.nil_append, List.append_nil, List.cons_append, hn]; rfl)) (by assumption) (fun M hM => by simp only [sev_tmp, fx, fad, adr_p, Nat.add_zero, fo24_0, s8] <;> rfl) (by rfl) (by first | exact VQ.int _ _ | exact VQ.bool _ | exact VQ.ptr _ _ | exact VQ.slice _ _ _ | exact VQ.func (by simp [vq_int, vq_ptr, vq_slice]) (by simp [vq_int, vq_ptr, vq_slice]) | exact VQ.agg (by simp [vq_int, vq_ptr, vq_slice]) | exact VQ.tuple (by simp [vq_int, vq_ptr, vq_slice])) ?_
  refine DrL.read (by first | rfl | kernel_rfl) (by first | rfl | (simp only [sev_tmp, sev_const, sev_func, sg_eq, sg_ne, sp_n, sp_none, Nat.reduceLT, ne_eq, Nat.reduceEqDiff, not_false_eq_true, gd, nth, want_free, want_slot, beqB, List.map_cons, List.map_nil, Array.toList_empty, List.nil_append, List.append_nil, List.cons_append, hn]; done) | (simp only [sev_tmp, sev_const, sev_func, sg_eq, sg_ne, sp_n, sp_none, Nat.reduceLT, ne_eq, Nat.reduceEqDiff, not_false_eq_true, gd, nth, want_free, want_slot, beqB, List.map_cons, List.map_nil, Array.toList_empty, List.nil_append, List.append_nil, List.cons_append, hn]; rfl)) (by assumption) (fun M hM => by simp only [sev_tmp, sg_eq, Nat.reduceLT, fx, ld, adr_p, tk3, hn, hF0 M hM] <;> rfl) (by rfl) (by first | exact VQ.int _ _ | exact VQ.bool _ | exact VQ.ptr _ _ | exact VQ.slice _ _ _ | exact VQ.func (by simp [vq_int, vq_ptr, vq_slice]) (by simp [vq_int, vq_ptr, vq_slice]) | exact VQ.agg (by simp [vq_int, vq_ptr, vq_slice]) | exact VQ.tuple (by simp [vq_int, vq_ptr, vq_slice])) ?_
  refine DrL.read (by first | rfl | kernel_rfl) (by first | rfl | (simp only [sev_tmp, sev_const, sev_func, sg_eq, sg_ne, sp_n, sp_none, Nat.reduceLT, ne_eq, Nat.reduceEqDiff, not_false_eq_true, gd, nth, want_free, want_slot, beqB, List.map_cons, List.map_nil, Array.toList_empty, List.nil_append, List.append_nil, List.cons_append, hn]; done) | (simp only [sev_tmp, sev_const, sev_func, sg_eq, sg_ne, sp_n, sp_none, Nat.reduceLT, ne_eq, Nat.reduceEqDiff, not_false_eq_true, gd, nth, want_free, want_slot, beqB, List.map_cons, List.map_nil, Array.toList_empty, List.nil_append, List.append_nil, List.cons_append, hn]; rfl)) (by assumption) (fun M hM => by simp only [sev_tmp, sg_ne, ne_eq, Nat.reduceEqDiff, not_false_eq_true, fx, fad, adr_p, Nat.zero_add, fo24_1, s8] <;> rfl) (by rfl) (by first | exact VQ.int _ _ | exact VQ.bool _ | exact VQ.ptr _ _ | exact VQ.slice _ _ _ | exact VQ.func (by simp [vq_int, vq_ptr, vq_slice]) (by simp [vq_int, vq_ptr, vq_slice]) | exact VQ.agg (by simp [vq_int, vq_ptr, vq_slice]) | exact VQ.tuple (by simp [vq_int, vq_ptr, vq_slice])) ?_
  refine DrL.read (by first | rfl | kernel_rfl) (by first | rfl | (simp only [sev_tmp, sev_const, sev_func, sg_eq, sg_ne, sp_n, sp_none, Nat.reduceLT, ne_eq, Nat.reduceEqDiff, not_false_eq_true, gd, nth, want_free, want_slot, beqB, List.map_cons, List.map_nil, Array.toList_empty, List.nil_append, List.append_nil, List.cons_append, hn]; done) | (simp only [sev_tmp, sev_const, sev_func, sg_eq, sg_ne, sp_n, sp_none, Nat.reduceLT, ne_eq, Nat.reduceEqDiff, not_false_eq_true, gd, nth, want_free, want_slot, beqB, List.map_cons, List.map_nil, Array.toList_empty, List.nil_append, List.append_nil, List.cons_append, hn]; rfl)) (by assumption) (fun M hM => by simp only [sev_tmp, sg_eq, sp_n, Nat.reduceLT, fx, ld, adr_p, tk22, hn, hF1 M hM] <;> rfl) (by rfl) (by first | exact VQ.int _ _ | exact VQ.bool _ | exact VQ.ptr _ _ | exact VQ.slice _ _ _ | exact VQ.func (by simp [vq_int, vq_ptr, vq_slice]) (by simp [vq_int, vq_ptr, vq_slice]) | exact VQ.agg (by simp [vq_int, vq_ptr, vq_slice]) | exact VQ.tuple (by simp [vq_int, vq_ptr, vq_slice])) ?_
  refine DrL.call (by kernel_rfl) (by rfl) (by assumption) (by rfl) (opRun_call (by rfl) ⟨by rfl, by rfl⟩ (by rfl) (xs := [.slice sa st.length st.length]) (by simp only [sev_tmp, sg_eq, sp_n, Nat.reduceLT, List.map_cons, List.map_nil, List.nil_append, List.append_nil, hn]) (dup_gr hbk.wf ((h.x1.nx hbk (Nat.le_refl _)).mono (Nat.le_refl _) hbk.next) (by omega))) ?_
  rintro v B1 ⟨xa, rfl, k1, g1⟩
  have F1 : F B1 := hF _ ((k1.keep _ (by rw [bump_next]; omega)).trans rfl)
  refine DrL.call (by kernel_rfl) (by rfl) F1 (by rfl) (opRun_call (by rfl) ⟨by rfl, by rfl⟩ (by rfl) (xs := [.int .i64 (m : Int), .slice xa st.length st.length, .slice none 0 0]) (by simp only [sev_tmp, sev_const, sg_eq, sg_ne, sp_n, Nat.reduceLT, ne_eq, Nat.reduceEqDiff, not_false_eq_true, List.map_cons, List.map_nil, List.nil_append, List.append_nil, hn]) (of_lasso k1.wf (m : Int) xa none st.length st.length 0 0)) ?_
  rintro v B2 ⟨rfl, k2⟩
  have hn1 := k1.next
  rw [bump_next] at hn1 k1 g1
  have hn2 := k2.next
  have F2 : F B2 := hF _ ((k2.keep _ (by omega)).trans ((k1.keep _ (by omega)).trans rfl))
  refine DrL.float (by rfl) (by rfl) (by rfl) fbal24 ?_
  have hnb : Canon.look B2.objs (D.next + 6) = none := by rw [k2.keep _ (by omega), k1.keep _ (by omega)]; exact hwD.none (by omega)
  obtain ⟨B3, p3, w3, n3, l3, kp3⟩ := place_al k2.wf (b := D.next + 6) (by omega) hnb [.int .i64 0, .slice none 0 0, .slice none 0 0] 24
  have F3 : F B3 := hF _ ((kp3 _ (by omega)).trans ((k2.keep _ (by omega)).trans ((k1.keep _ (by omega)).trans rfl)))
  obtain ⟨B4, c4, q1, q2, q3, q4⟩ := sts_upd (l := [.int .i64 (m : Int), .slice xa st.length st.length, .slice none 0 0]) (o := 0) l3 rfl (by simp) rfl
  have hc4 : c4 = #[.int .i64 (m : Int), .slice xa st.length st.length, .slice none 0 0] := by
    refine Array.ext_getElem? fun i => ?_
    rw [q4 i]
    by_cases hi : i < 3
    · rw [if_pos ⟨Nat.zero_le _, by simpa using hi⟩]
      simp
    · rw [if_neg (by simp; omega)]
      rw [Array.getElem?_eq_none (by simp; omega), Array.getElem?_eq_none (by simp; omega)]
  subst hc4
  refine DrL.eff (by rfl) (by rfl) (pd1 := [(6, ⟨[.int .i64 0, .slice none 0 0, .slice none 0 0], 24, .ptr⟩)]) (pd2 := []) (by kernel_rfl) (by kernel_rfl) (ms0 := [B2]) (A0 := B3) (by simp only [placeAll, p3]) (fun M hM => by rw [List.mem_singleton] at hM; rw [hM]; exact F2) F3 (by rfl)
    (v := undef) (A1 := B4) (opRun_op rfl (fx_ok (by rfl) (by simp only [sev_tmp, sg_eq, sg_ne, sp_n, Nat.reduceLT, ne_eq, Nat.reduceEqDiff, not_false_eq_true, fx, str, adr_p, Nat.zero_add, Nat.reduceAdd, tk24, hn, FK.val, q1, List.size_toArray, List.length_cons, List.length_nil, Nat.beq_refl]))) ?_
  refine DrL.nil ⟨by rfl, B4, by rfl, ?_⟩
  obtain ⟨c, t, f, g, e, r1, r2, _⟩ := q2.at'
  rw [l3] at r1
  cases r1
  have hn4 := q2.next
  have gB2 := g1.nx (n := 0) k1.wf k2
  have gB3 : Gr B3 xa (D.next + 8) st := gB2.ext (by omega) fun b' hb' => .inr (kp3 _ (by omega))
  have gB4 : Gr B4 xa (D.next + 8) st := gB3.off q2 (by omega)
  refine hk _ B4 (D.next + 6) xa ⟨by omega, (q2.nx w3 (Nat.zero_le _)).wf, fun b' hb' => by rw [q2.off _ (by omega), kp3 _ (by omega), k2.keep _ (by omega), k1.keep _ (by omega)]; rfl⟩ (by omega) (by omega) r2 (gB4.mono (by omega)) (by simp only [sp_n, sp_none, hn]) (by simp only [sg_ne, sp_none, ne_eq, Nat.reduceEqDiff, not_false_eq_true, s2]) (by simp only [sg_ne, sp_none, ne_eq, Nat.reduceEqDiff, not_false_eq_true, s8]) (by simp only [sg_ne, sp_none, ne_eq, Nat.reduceEqDiff, not_false_eq_true, s9]) (by simp only [sg_eq, sp_n, sp_none, Nat.reduceLT, hn]; rfl)
end Go.Proofs.Ytdaljohmfnfgiaa
/- LassoLeast: some of the round goes into the stem, and the round comes twice. No condition. -/
namespace Go.Proofs.Ytdaljohmfnfgiaa
open Go Go.RowKit Go.Proofs.Ytdaljohmfnfgiaa.Canon
set_option maxRecDepth 20000


theorem least_stem {A D : AHeap} {bA bL m : Nat} {sa ra la lr : Option Addr} {st ro ls lro : List Int} (h : Half A D bA bL m sa ra la lr st ro ls lro) {more : Nat} (hmore : more < 256) {E0 : AHeap} {bB : Nat} {xa : Option Addr} (hE0 : Nx D.next D E0) (hbD : D.next ≤ bB) (hbE : bB < E0.next)
    (lB : Canon.look E0.objs bB = some ⟨.cells #[.int .i64 (m : Int), .slice xa st.length st.length, .slice none 0 0] 24, false, 0⟩) (gx : Gr E0 xa (bB + 1) st)
    {s : Slots} (hn : s.n = 230) (s2 : sget s 2 = .int .u8 (more : Int)) (s8 : sget s 8 = .pointer (some ⟨bA, 0, none⟩)) (s9 : sget s 9 = .pointer (some ⟨bL, 0, none⟩)) (s16 : sget s 16 = .pointer (some ⟨bB, 0, none⟩)) {Q : Post}
    (hk : ∀ s E ya N, st.length ≤ N → N ≤ st.length + 30 → Nx D.next D E → bB < E.next → Canon.look E.objs bB = some ⟨.cells #[.int .i64 (m : Int), .slice ya N N, .slice none 0 0] 24, false, 0⟩ → Gr E ya (bB + 1) (takeL st ro 0 N) → s.n = 230 → sget s 8 = .pointer (some ⟨bA, 0, none⟩) → sget s 9 = .pointer (some ⟨bL, 0, none⟩) → sget s 16 = .pointer (some ⟨bB, 0, none⟩) → Rn Try.prog 9 none [.code (restN 10 (Try.f9.body.getD .skip))] s [] E Q) :
    Rn Try.prog 9 none [.code (restN 9 (Try.f9.body.getD .skip))] s [] E0 Q := by
  have hbA := h.bl.1
  have h1 := h.h1
  have h2 := h.h2
  have h3 := h.h3
  refine Rn.seq hc ?_
  refine Rn.cut2 hc (Q1 := fun s ds E => ds = [] ∧ ∃ ya N, st.length ≤ N ∧ N ≤ st.length + 30 ∧ Nx D.next D E ∧ bB < E.next ∧ Canon.look E.objs bB = some ⟨.cells #[.int .i64 (m : Int), .slice ya N N, .slice none 0 0] 24, false, 0⟩ ∧ Gr E ya (bB + 1) (takeL st ro 0 N) ∧ s.n = 230 ∧ sget s 8 = .pointer (some ⟨bA, 0, none⟩) ∧ sget s 9 = .pointer (some ⟨bL, 0, none⟩) ∧ sget s 16 = .pointer (some ⟨bB, 0, none⟩))
    (Q2 := fun _ _ _ => False) ?_ ?_ ?_
  · have hrem : ∀ M, bin Try.prog .rem 3 (.int .i64 (more : Int)) (.int .i64 30) M = some (.int .i64 ((more % 30 : Nat) : Int), M) := fun M => by
      rw [bin_rem _ _ _ _ (by omega), IntWalk.rem_in _ _ (by omega)]
      rfl
    have hlong : more % 30 < 30 := Nat.mod_lt _ (by omega)
    generalize more % 30 = K at hrem hlong
    have htk : takeL st ro 0 (st.length + 0) = st := by rw [Nat.add_zero, takeL_st (Nat.le_refl _), List.take_length]
    (repeat (first | refine Rn.seq hc ?_ | refine Rn.skip hc ?_ | refine Rn.block hc ?_ | refine Rn.inBlock hc ?_ | refine Rn.scope hc ?_ | refine Rn.inScope hc ?_))
    refine Rn.reg hc rfl ?_
    simp only [sev_tmp, sev_const, sg_eq, sp_n, Nat.reduceLT, gd, want_free, rops, fx, Option.some.injEq, exists_eq_left', ae_cv, hn, s2, cv53 hmore, hrem]
    (repeat (first | refine Rn.seq hc ?_ | refine Rn.skip hc ?_ | refine Rn.block hc ?_ | refine Rn.inBlock hc ?_ | refine Rn.scope hc ?_ | refine Rn.inScope hc ?_))
    refine Rn.loopI hc (I := fun kk s E => ∃ i ya, i ≤ K ∧ kk = K - i ∧ Nx D.next D E ∧ bB < E.next ∧ Canon.look E.objs bB = some ⟨.cells #[.int .i64 (m : Int), .slice ya (st.length + i) (st.length + i), .slice none 0 0] 24, false, 0⟩ ∧ Gr E ya (bB + 1) (takeL st ro 0 (st.length + i)) ∧ s.n = 230 ∧ sget s 8 = .pointer (some ⟨bA, 0, none⟩) ∧ sget s 9 = .pointer (some ⟨bL, 0, none⟩) ∧ sget s 16 = .pointer (some ⟨bB, 0, none⟩) ∧ sget s 155 = .int .i64 (K : Int) ∧ sget s 156 = .int .i64 (i : Int))
      (n := K) ⟨0, xa, by omega, rfl, hE0, hbE, lB, by rw [htk]; exact gx, by simp only [sp_n, hn], by simp only [sg_ne, ne_eq, Nat.reduceEqDiff, not_false_eq_true, s8], by simp only [sg_ne, ne_eq, Nat.reduceEqDiff, not_false_eq_true, s9], by simp only [sg_ne, ne_eq, Nat.reduceEqDiff, not_false_eq_true, s16], by simp only [sg_eq, sg_ne, sp_n, Nat.reduceLT, ne_eq, Nat.reduceEqDiff, not_false_eq_true, hn], by simp only [sg_eq, sp_n, Nat.reduceLT, hn]; rfl⟩ ?_
    clear hn s2 s8 s9 s16 s lB gx hbE hE0
    rintro kk s E ⟨i, ya, hi, rfl, hE, hbE, lB, gx, hn, s8, s9, s16, s155, s156⟩ ih
    have hEn := hE.next
    (repeat (first | refine Rn.seq hc ?_ | refine Rn.skip hc ?_ | refine Rn.block hc ?_ | refine Rn.inBlock hc ?_ | refine Rn.scope hc ?_ | refine Rn.inScope hc ?_))
    by_cases hlt : i < K
    · have hd : decide ((i : Int) < (K : Int)) = true := decide_eq_true (by omega)
      refine Rn.reg hc rfl ?_
      simp only [sev_tmp, gd, want_free, rops, fx, bin_lss, Option.some.injEq, exists_eq_left', s155, s156, hd]
      (repeat (first | refine Rn.seq hc ?_ | refine Rn.skip hc ?_ | refine Rn.block hc ?_ | refine Rn.inBlock hc ?_ | refine Rn.scope hc ?_ | refine Rn.inScope hc ?_))
      refine Rn.condE hc rfl ?_
      simp only [sev_tmp, sg_eq, Nat.reduceLT, Value.bool.injEq, exists_eq_left', hn]
      (repeat (first | refine Rn.seq hc ?_ | refine Rn.skip hc ?_ | refine Rn.block hc ?_ | refine Rn.inBlock hc ?_ | refine Rn.scope hc ?_ | refine Rn.inScope hc ?_))
      refine Rn.reg hc rfl ?_
      simp only [sev_tmp, sg_eq, sg_ne, sp_n, Nat.reduceLT, ne_eq, Nat.reduceEqDiff, not_false_eq_true, gd, want_free, rops, fx, Option.some.injEq, exists_eq_left', hn, s156]
      (repeat (first | refine Rn.seq hc ?_ | refine Rn.skip hc ?_ | refine Rn.block hc ?_ | refine Rn.inBlock hc ?_ | refine Rn.scope hc ?_ | refine Rn.inScope hc ?_))
      have d0 := (hE.cl hbA 0).trans h.d0
      have d1 := (hE.cl hbA 1).trans h.d1
      have d2 := (hE.cl hbA 2).trans h.d2
      have c1 : cl E bB 1 = some (.slice ya (st.length + i) (st.length + i)) := by rw [cl_of lB rfl]; rfl
      obtain ⟨F, hF0, hF1, hF2, hF3, hF⟩ : ∃ F : AHeap → Prop, (∀ M, F M → cl M bA 0 = some (.int .i64 (m : Int))) ∧ (∀ M, F M → cl M bA 1 = some (.slice sa st.length st.length)) ∧ (∀ M, F M → cl M bA 2 = some (.slice ra ro.length ro.length)) ∧ (∀ M, F M → cl M bB 1 = some (.slice ya (st.length + i) (st.length + i))) ∧ (∀ M, Canon.look M.objs bA = Canon.look E.objs bA → Canon.look M.objs bB = Canon.look E.objs bB → F M) :=
        ⟨fun M => cl M bA 0 = some (.int .i64 (m : Int)) ∧ cl M bA 1 = some (.slice sa st.length st.length) ∧ cl M bA 2 = some (.slice ra ro.length ro.length) ∧ cl M bB 1 = some (.slice ya (st.length + i) (st.length + i)), fun _ h => h.1, fun _ h => h.2.1, fun _ h => h.2.2.1, fun _ h => h.2.2.2, fun M q1 q2 => ⟨(cl_look q1).trans d0, (cl_look q1).trans d1, (cl_look q1).trans d2, (cl_look q2).trans c1⟩⟩
      have hbk : Nx E.next E (bump E 13) := Nx.bump (Nx.refl hE.wf _) 13
      have FB : F (bump E 13) := hF _ rfl rfl
      have hDb : Nx D.next D (bump E 13) := hE.trans (hbk.le hE.next)
      have hw1 : IntKind.i64.wrap ((st.length : Int) + (i : Int)) = ((st.length + i : Nat) : Int) := by rw [IntWalk.i64_in _ (by omega)]; omega
      refine Rn.drawnL hc hx (hdS (atL st ro (st.length + i))) F (E := [8, 9, 10]) (n := 12) (k := 13) (by kernel_rfl) (by kernel_rfl) (by rfl) (by kernel_rfl) ?_
      refine DrL.read (by first | rfl | kernel_rfl) (by first | rfl | (simp only [sev_tmp, sev_const, sev_func, sg_eq, sg_ne, sp_n, sp_none, Nat.reduceLT, ne_eq, Nat.reduceEqDiff, not_false_eq_true, gd, nth, want_free, want_slot, beqB, List.map_cons, List.map_nil, Array.toList_empty, List.nil_append, List.append_nil, List.cons_append, hn]; done) | (simp only [sev_tmp, sev_const, sev_func, sg_eq, sg_ne, sp_n, sp_none, Nat.reduceLT, ne_eq, Nat.reduceEqDiff, not_false_eq_true, gd, nth, want_free, want_slot, beqB, List.map_cons, List.map_nil, Array.toList_empty, List.nil_append, List.append_nil, List.cons_append, hn]; rfl)) (by assumption) (fun M hM => by simp only [sev_tmp, sg_ne, ne_eq, Nat.reduceEqDiff, not_false_eq_true, fx, fad, adr_p, Nat.zero_add, fo24_1, s16] <;> rfl) (by rfl) (by first | exact VQ.int _ _ | exact VQ.bool _ | exact VQ.ptr _ _ | exact VQ.slice _ _ _ | exact VQ.func (by simp [vq_int, vq_ptr, vq_slice]) (by simp [vq_int, vq_ptr, vq_slice]) | exact VQ.agg (by simp [vq_int, vq_ptr, vq_slice]) | exact VQ.tuple (by simp [vq_int, vq_ptr, vq_slice])) ?_
      refine DrL.read (by first | rfl | kernel_rfl) (by first | rfl | (simp only [sev_tmp, sev_const, sev_func, sg_eq, sg_ne, sp_n, sp_none, Nat.reduceLT, ne_eq, Nat.reduceEqDiff, not_false_eq_true, gd, nth, want_free, want_slot, beqB, List.map_cons, List.map_nil, Array.toList_empty, List.nil_append, List.append_nil, List.cons_append, hn]; done) | (simp only [sev_tmp, sev_const, sev_func, sg_eq, sg_ne, sp_n, sp_none, Nat.reduceLT, ne_eq, Nat.reduceEqDiff, not_false_eq_true, gd, nth, want_free, want_slot, beqB, List.map_cons, List.map_nil, Array.toList_empty, List.nil_append, List.append_nil, List.cons_append, hn]; rfl)) (by assumption) (fun M hM => by simp only [sev_tmp, sg_eq, sp_n, Nat.reduceLT, fx, ld, adr_p, tk22, hn, hF3 M hM] <;> rfl) (by rfl) (by first | exact VQ.int _ _ | exact VQ.bool _ | exact VQ.ptr _ _ | exact VQ.slice _ _ _ | exact VQ.func (by simp [vq_int, vq_ptr, vq_slice]) (by simp [vq_int, vq_ptr, vq_slice]) | exact VQ.agg (by simp [vq_int, vq_ptr, vq_slice]) | exact VQ.tuple (by simp [vq_int, vq_ptr, vq_slice])) ?_
      refine DrL.read (by first | rfl | kernel_rfl) (by first | rfl | (simp only [sev_tmp, sev_const, sev_func, sg_eq, sg_ne, sp_n, sp_none, Nat.reduceLT, ne_eq, Nat.reduceEqDiff, not_false_eq_true, gd, nth, want_free, want_slot, beqB, List.map_cons, List.map_nil, Array.toList_empty, List.nil_append, List.append_nil, List.cons_append, hn]; done) | (simp only [sev_tmp, sev_const, sev_func, sg_eq, sg_ne, sp_n, sp_none, Nat.reduceLT, ne_eq, Nat.reduceEqDiff, not_false_eq_true, gd, nth, want_free, want_slot, beqB, List.map_cons, List.map_nil, Array.toList_empty, List.nil_append, List.append_nil, List.cons_append, hn]; rfl)) (by assumption) (fun M hM => by simp only [sev_tmp, sg_ne, ne_eq, Nat.reduceEqDiff, not_false_eq_true, fx, ld, adr_p, cls, Nat.zero_add, Nat.reduceAdd, tk24, s8, hF0 M hM, hF1 M hM, hF2 M hM] <;> rfl) (by rfl) (by first | exact VQ.int _ _ | exact VQ.bool _ | exact VQ.ptr _ _ | exact VQ.slice _ _ _ | exact VQ.func (by simp [vq_int, vq_ptr, vq_slice]) (by simp [vq_int, vq_ptr, vq_slice]) | exact VQ.agg (by simp [vq_int, vq_slice]) | exact VQ.tuple (by simp [vq_int, vq_ptr, vq_slice])) ?_
      refine DrL.read (by first | rfl | kernel_rfl) (by first | rfl | (simp only [sev_tmp, sev_const, sev_func, sg_eq, sg_ne, sp_n, sp_none, Nat.reduceLT, ne_eq, Nat.reduceEqDiff, not_false_eq_true, gd, nth, want_free, want_slot, beqB, List.map_cons, List.map_nil, Array.toList_empty, List.nil_append, List.append_nil, List.cons_append, hn]; done) | (simp only [sev_tmp, sev_const, sev_func, sg_eq, sg_ne, sp_n, sp_none, Nat.reduceLT, ne_eq, Nat.reduceEqDiff, not_false_eq_true, gd, nth, want_free, want_slot, beqB, List.map_cons, List.map_nil, Array.toList_empty, List.nil_append, List.append_nil, List.cons_append, hn]; rfl)) (by assumption) (fun M hM => by simp only [sev_tmp, sg_ne, ne_eq, Nat.reduceEqDiff, not_false_eq_true, fx, fad, adr_p, Nat.zero_add, fo24_1, s8] <;> rfl) (by rfl) (by first | exact VQ.int _ _ | exact VQ.bool _ | exact VQ.ptr _ _ | exact VQ.slice _ _ _ | exact VQ.func (by simp [vq_int, vq_ptr, vq_slice]) (by simp [vq_int, vq_ptr, vq_slice]) | exact VQ.agg (by simp [vq_int, vq_ptr, vq_slice]) | exact VQ.tuple (by simp [vq_int, vq_ptr, vq_slice])) ?_
      refine DrL.read (by first | rfl | kernel_rfl) (by first | rfl | (simp only [sev_tmp, sev_const, sev_func, sg_eq, sg_ne, sp_n, sp_none, Nat.reduceLT, ne_eq, Nat.reduceEqDiff, not_false_eq_true, gd, nth, want_free, want_slot, beqB, List.map_cons, List.map_nil, Array.toList_empty, List.nil_append, List.append_nil, List.cons_append, hn]; done) | (simp only [sev_tmp, sev_const, sev_func, sg_eq, sg_ne, sp_n, sp_none, Nat.reduceLT, ne_eq, Nat.reduceEqDiff, not_false_eq_true, gd, nth, want_free, want_slot, beqB, List.map_cons, List.map_nil, Array.toList_empty, List.nil_append, List.append_nil, List.cons_append, hn]; rfl)) (by assumption) (fun M hM => by simp only [sev_tmp, sg_eq, sp_n, Nat.reduceLT, fx, ld, adr_p, tk22, hn, hF1 M hM] <;> rfl) (by rfl) (by first | exact VQ.int _ _ | exact VQ.bool _ | exact VQ.ptr _ _ | exact VQ.slice _ _ _ | exact VQ.func (by simp [vq_int, vq_ptr, vq_slice]) (by simp [vq_int, vq_ptr, vq_slice]) | exact VQ.agg (by simp [vq_int, vq_ptr, vq_slice]) | exact VQ.tuple (by simp [vq_int, vq_ptr, vq_slice])) ?_
      refine DrL.read (by first | rfl | kernel_rfl) (by first | rfl | (simp only [sev_tmp, sev_const, sev_func, sg_eq, sg_ne, sp_n, sp_none, Nat.reduceLT, ne_eq, Nat.reduceEqDiff, not_false_eq_true, gd, nth, want_free, want_slot, beqB, List.map_cons, List.map_nil, Array.toList_empty, List.nil_append, List.append_nil, List.cons_append, hn]; done) | (simp only [sev_tmp, sev_const, sev_func, sg_eq, sg_ne, sp_n, sp_none, Nat.reduceLT, ne_eq, Nat.reduceEqDiff, not_false_eq_true, gd, nth, want_free, want_slot, beqB, List.map_cons, List.map_nil, Array.toList_empty, List.nil_append, List.append_nil, List.cons_append, hn]; rfl)) (by assumption) (fun M hM => by simp only [sev_tmp, sg_eq, sp_n, Nat.reduceLT, fx, lng, un22, hn] <;> rfl) (by rfl) (by first | exact VQ.int _ _ | exact VQ.bool _ | exact VQ.ptr _ _ | exact VQ.slice _ _ _ | exact VQ.func (by simp [vq_int, vq_ptr, vq_slice]) (by simp [vq_int, vq_ptr, vq_slice]) | exact VQ.agg (by simp [vq_int, vq_ptr, vq_slice]) | exact VQ.tuple (by simp [vq_int, vq_ptr, vq_slice])) ?_
      refine DrL.read (by first | rfl | kernel_rfl) (by first | rfl | (simp only [sev_tmp, sev_const, sev_func, sg_eq, sg_ne, sp_n, sp_none, Nat.reduceLT, ne_eq, Nat.reduceEqDiff, not_false_eq_true, gd, nth, want_free, want_slot, beqB, List.map_cons, List.map_nil, Array.toList_empty, List.nil_append, List.append_nil, List.cons_append, hn]; done) | (simp only [sev_tmp, sev_const, sev_func, sg_eq, sg_ne, sp_n, sp_none, Nat.reduceLT, ne_eq, Nat.reduceEqDiff, not_false_eq_true, gd, nth, want_free, want_slot, beqB, List.map_cons, List.map_nil, Array.toList_empty, List.nil_append, List.append_nil, List.cons_append, hn]; rfl)) (by assumption) (fun M hM => by simp only [sev_tmp, sg_eq, sg_ne, sp_n, Nat.reduceLT, ne_eq, Nat.reduceEqDiff, not_false_eq_true, fx, hn] <;> rfl) (by rfl) (by first | exact VQ.int _ _ | exact VQ.bool _ | exact VQ.ptr _ _ | exact VQ.slice _ _ _ | exact VQ.func (by simp [vq_int, vq_ptr, vq_slice]) (by simp [vq_int, vq_ptr, vq_slice]) | exact VQ.agg (by simp [vq_int, vq_ptr, vq_slice]) | exact VQ.tuple (by simp [vq_int, vq_ptr, vq_slice])) ?_
      refine DrL.read (by first | rfl | kernel_rfl) (by first | rfl | (simp only [sev_tmp, sev_const, sev_func, sg_eq, sg_ne, sp_n, sp_none, Nat.reduceLT, ne_eq, Nat.reduceEqDiff, not_false_eq_true, gd, nth, want_free, want_slot, beqB, List.map_cons, List.map_nil, Array.toList_empty, List.nil_append, List.append_nil, List.cons_append, hn]; done) | (simp only [sev_tmp, sev_const, sev_func, sg_eq, sg_ne, sp_n, sp_none, Nat.reduceLT, ne_eq, Nat.reduceEqDiff, not_false_eq_true, gd, nth, want_free, want_slot, beqB, List.map_cons, List.map_nil, Array.toList_empty, List.nil_append, List.append_nil, List.cons_append, hn]; rfl)) (by assumption) (fun M hM => by simp only [sev_tmp, sg_eq, sg_ne, sp_n, Nat.reduceLT, ne_eq, Nat.reduceEqDiff, not_false_eq_true, fx, bin_add, hn, hw1] <;> rfl) (by rfl) (by first | exact VQ.int _ _ | exact VQ.bool _ | exact VQ.ptr _ _ | exact VQ.slice _ _ _ | exact VQ.func (by simp [vq_int, vq_ptr, vq_slice]) (by simp [vq_int, vq_ptr, vq_slice]) | exact VQ.agg (by simp [vq_int, vq_ptr, vq_slice]) | exact VQ.tuple (by simp [vq_int, vq_ptr, vq_slice])) ?_
      refine DrL.call (by kernel_rfl) (by rfl) (by assumption) (by rfl) (opRun_call (by rfl) ⟨by rfl, by rfl⟩ (by rfl) (xs := [.agg #[.int .i64 (m : Int), .slice sa st.length st.length, .slice ra ro.length ro.length], .int .i64 ((st.length + i : Nat) : Int)]) (by simp only [sev_tmp, sg_eq, sg_ne, sp_n, Nat.reduceLT, ne_eq, Nat.reduceEqDiff, not_false_eq_true, List.map_cons, List.map_nil, List.nil_append, List.append_nil, hn]) (at_law hbk.wf ((h.x1.nx hDb (Nat.le_refl _)).mono (Nat.le_refl _) hDb.next) ((h.x2.nx hDb (Nat.le_refl _)).mono (Nat.le_refl _) hDb.next) (st.length + i) (by omega) h2 (by omega) (by omega))) ?_
      rintro v B1 ⟨rfl, k1⟩
      have hn1 := k1.next
      rw [bump_next] at hn1 k1
      have F1 : F B1 := hF _ ((k1.keep _ (by omega)).trans rfl) ((k1.keep _ (by omega)).trans rfl)
      refine DrL.float (by rfl) (by rfl) (by rfl) (fb22_1 (v := .int .i64 (atL st ro (st.length + i))) (by simp only [sev_tmp, sg_eq, sp_n, Nat.reduceLT, hn]) rfl) ?_
      have hnb : Canon.look B1.objs (E.next + 9) = none := by rw [k1.keep _ (by omega)]; exact hE.wf.none (by omega)
      obtain ⟨B2, p1, hxB2, eB2, lB2, kB2⟩ := place_row (N := 0) (Nx.refl k1.wf 0) (b := E.next + 9) (Nat.zero_le _) (by omega) hnb [.int .i64 (atL st ro (st.length + i))] 3 1 1
      have F2 : F B2 := hF _ ((kB2 _ (by omega)).trans ((k1.keep _ (by omega)).trans rfl)) ((kB2 _ (by omega)).trans ((k1.keep _ (by omega)).trans rfl))
      have hlen := takeL_len st ro 0 (st.length + i)
      have gB1 : Gr B1 ya (bB + 1) (takeL st ro 0 (st.length + i)) := (gx.nx (n := 0) hE.wf hbk).nx (n := 0) hbk.wf (by rw [bump_next]; exact k1)
      have gB2 : Gr B2 ya (bB + 1) (takeL st ro 0 (st.length + i)) := gB1.ext (Nat.le_of_eq eB2.symm) fun b' hb' => by
        by_cases hbb : b' = E.next + 9
        · exact .inl (hbb ▸ hnb)
        · exact .inr (kB2 _ hbb)
      obtain ⟨B3, q1, n3, w3, hg3, kp3, _⟩ := gr_push hxB2.wf gB2 (a2 := some ⟨E.next + 9, 0, none⟩) (c2 := 1) (b2 := E.next + 9) (x := atL st ro (st.length + i)) rfl (by rw [cl_of lB2 rfl]; rfl) (by omega)
      rw [hlen] at q1
      have hsnoc : takeL st ro 0 (st.length + i) ++ [atL st ro (st.length + i)] = takeL st ro 0 (st.length + (i + 1)) := by
        rw [← Nat.add_assoc, takeL_append st ro 0 (st.length + i) 1]
        simp [takeL]
      rw [hsnoc] at hg3
      have L3 : ∀ b', b' < bB + 1 → Canon.look B3.objs b' = Canon.look E.objs b' := fun b' hb' => by
        rw [kp3 b' (by omega) (fun y hy => by obtain ⟨_, q, _⟩ := gB2.sl y hy; omega), kB2 _ (by omega), k1.keep _ (by omega)]
        rfl
      have F3 : F B3 := hF _ (L3 _ (by omega)) (L3 _ (by omega))
      refine DrL.eff (by rfl) (by rfl) (pd1 := [(9, ⟨[.int .i64 (atL st ro (st.length + i))], 3, .sl 1 1⟩)]) (pd2 := []) (by kernel_rfl) (by kernel_rfl) (ms0 := [B1]) (A0 := B2) (by simp only [placeAll, p1]) (fun M hM => by rw [List.mem_singleton] at hM; rw [hM]; exact F1) F2 (by rfl)
        (v := .slice (some ⟨B2.next, 0, none⟩) (st.length + i + 1) (st.length + i + 1)) (A1 := B3) (opRun_op rfl (by simp only [sev_tmp, sg_eq, sg_ne, sp_n, Nat.reduceLT, ne_eq, Nat.reduceEqDiff, not_false_eq_true, Nat.zero_add, Nat.reduceAdd, hn, ae_apd, apd_slice, FK.val]; exact q1)) ?_
      refine DrL.read (by first | rfl | kernel_rfl) (by first | rfl | (simp only [sev_tmp, sev_const, sev_func, sg_eq, sg_ne, sp_n, sp_none, Nat.reduceLT, ne_eq, Nat.reduceEqDiff, not_false_eq_true, gd, nth, want_free, want_slot, beqB, List.map_cons, List.map_nil, Array.toList_empty, List.nil_append, List.append_nil, List.cons_append, hn]; done) | (simp only [sev_tmp, sev_const, sev_func, sg_eq, sg_ne, sp_n, sp_none, Nat.reduceLT, ne_eq, Nat.reduceEqDiff, not_false_eq_true, gd, nth, want_free, want_slot, beqB, List.map_cons, List.map_nil, Array.toList_empty, List.nil_append, List.append_nil, List.cons_append, hn]; rfl)) (by assumption) (fun M hM => by simp only [sev_tmp, sg_ne, ne_eq, Nat.reduceEqDiff, not_false_eq_true, fx, fad, adr_p, Nat.zero_add, Nat.reduceAdd, fo24_1, s16] <;> rfl) (by rfl) (by first | exact VQ.int _ _ | exact VQ.bool _ | exact VQ.ptr _ _ | exact VQ.slice _ _ _ | exact VQ.func (by simp [vq_int, vq_ptr, vq_slice]) (by simp [vq_int, vq_ptr, vq_slice]) | exact VQ.agg (by simp [vq_int, vq_ptr, vq_slice]) | exact VQ.tuple (by simp [vq_int, vq_ptr, vq_slice])) ?_
      have l3 : Canon.look B3.objs bB = _ := (L3 _ (by omega)).trans lB
      obtain ⟨B4, v1, v2⟩ := st1_upd (o := 1) (v := .slice (some ⟨B2.next, 0, none⟩) (st.length + i + 1) (st.length + i + 1)) l3 rfl (by simp) rfl
      refine DrL.eff (by rfl) (by rfl) (pd1 := []) (pd2 := []) (by kernel_rfl) (by kernel_rfl) (ms0 := []) (A0 := B3) rfl (fun _ h => by cases h) F3 (by rfl) (v := undef) (A1 := B4) (opRun_op rfl (fx_ok (by rfl) (by simp only [sev_tmp, sg_eq, sg_ne, sp_n, Nat.reduceLT, ne_eq, Nat.reduceEqDiff, not_false_eq_true, fx, str, adr_p, Nat.zero_add, Nat.reduceAdd, tk22, hn, v1]))) ?_
      refine DrL.nil ⟨by rfl, B4, by rfl, ?_⟩
      (repeat (first | refine Rn.seq hc ?_ | refine Rn.skip hc ?_ | refine Rn.block hc ?_ | refine Rn.inBlock hc ?_ | refine Rn.scope hc ?_ | refine Rn.inScope hc ?_))
      refine Rn.reg hc rfl ?_
      simp only [sev_tmp, sev_const, sg_eq, sg_ne, sp_n, sp_none, Nat.reduceLT, ne_eq, Nat.reduceEqDiff, not_false_eq_true, gd, want_free, rops, fx, bin_add, Nat.zero_add, Option.some.injEq, exists_eq_left', Nat.reduceAdd, hn, s156, wrap_succ (show i < 9223372036854775807 by omega)]
      (repeat (first | refine Rn.seq hc ?_ | refine Rn.skip hc ?_ | refine Rn.block hc ?_ | refine Rn.inBlock hc ?_ | refine Rn.scope hc ?_ | refine Rn.inScope hc ?_))
      obtain ⟨c, t, f, g, e, r1, r2, _⟩ := v2.at'
      rw [l3] at r1
      cases r1
      have hn4 := v2.next
      refine ih _ _ _ (by omega) ⟨i + 1, some ⟨B2.next, 0, none⟩, by omega, rfl, ⟨by omega, (v2.nx w3 (Nat.zero_le _)).wf, fun b hb => by rw [v2.off _ (by omega), L3 _ (by omega)]; exact hE.keep _ hb⟩, by omega, r2, (hg3.off v2 (by omega)).mono (by omega), by simp only [sp_n, hn], by simp only [sg_ne, ne_eq, Nat.reduceEqDiff, not_false_eq_true, s8], by simp only [sg_ne, ne_eq, Nat.reduceEqDiff, not_false_eq_true, s9], by simp only [sg_ne, ne_eq, Nat.reduceEqDiff, not_false_eq_true, s16], by simp only [sg_ne, ne_eq, Nat.reduceEqDiff, not_false_eq_true, s155], by simp only [sg_eq, sp_n, Nat.reduceLT, hn]⟩
    · have hd : decide ((i : Int) < (K : Int)) = false := decide_eq_false (by omega)
      clear ih
      refine Rn.reg hc rfl ?_
      simp only [sev_tmp, gd, want_free, rops, fx, bin_lss, Option.some.injEq, exists_eq_left', s155, s156, hd]
      (repeat (first | refine Rn.seq hc ?_ | refine Rn.skip hc ?_ | refine Rn.block hc ?_ | refine Rn.inBlock hc ?_ | refine Rn.scope hc ?_ | refine Rn.inScope hc ?_))
      refine Rn.condE hc rfl ?_
      simp only [sev_tmp, sg_eq, Nat.reduceLT, Value.bool.injEq, exists_eq_left', hn]
      (repeat (first | refine Rn.seq hc ?_ | refine Rn.skip hc ?_ | refine Rn.block hc ?_ | refine Rn.inBlock hc ?_ | refine Rn.scope hc ?_ | refine Rn.inScope hc ?_))
      refine Rn.exit hc rfl ?_
      (repeat (first | refine Rn.seq hc ?_ | refine Rn.skip hc ?_ | refine Rn.block hc ?_ | refine Rn.inBlock hc ?_ | refine Rn.scope hc ?_ | refine Rn.inScope hc ?_))
      exact Rn.fall ⟨rfl, ya, st.length + i, by omega, by omega, hE, hbE, lB, gx, by simp only [sp_n, hn], by simp only [sg_ne, ne_eq, Nat.reduceEqDiff, not_false_eq_true, s8], by simp only [sg_ne, ne_eq, Nat.reduceEqDiff, not_false_eq_true, s9], by simp only [sg_ne, ne_eq, Nat.reduceEqDiff, not_false_eq_true, s16]⟩
  · rintro s ds E ⟨rfl, ya, N, k1, k2, k3, k4, k5, k6, k7, k8, k9, k10⟩
    exact hk s E ya N k1 k2 k3 k4 k5 k6 k7 k8 k9 k10
  · intro _ _ _ h
    exact h.elim
end Go.Proofs.Ytdaljohmfnfgiaa
/- LassoLeast: the round comes twice. No condition. -/
namespace Go.Proofs.Ytdaljohmfnfgiaa
open Go Go.RowKit Go.Proofs.Ytdaljohmfnfgiaa.Canon
set_option maxRecDepth 20000


theorem least_round {A D : AHeap} {bA bL m : Nat} {sa ra la lr : Option Addr} {st ro ls lro : List Int} (h : Half A D bA bL m sa ra la lr st ro ls lro) {E0 : AHeap} {bB N : Nat} {ya : Option Addr} (hN2 : N ≤ st.length + 30) (hE0 : Nx D.next D E0) (hbD : D.next ≤ bB) (hbE : bB < E0.next)
    (lB : Canon.look E0.objs bB = some ⟨.cells #[.int .i64 (m : Int), .slice ya N N, .slice none 0 0] 24, false, 0⟩) (gx : Gr E0 ya (bB + 1) (takeL st ro 0 N))
    {s : Slots} (hn : s.n = 230) (s8 : sget s 8 = .pointer (some ⟨bA, 0, none⟩)) (s9 : sget s 9 = .pointer (some ⟨bL, 0, none⟩)) (s16 : sget s 16 = .pointer (some ⟨bB, 0, none⟩)) {Q : Post}
    (hk : ∀ s E yr, Nx D.next D E → bB < E.next → Canon.look E.objs bB = some ⟨.cells #[.int .i64 (m : Int), .slice ya N N, .slice yr (2 * ro.length) (2 * ro.length)] 24, false, 0⟩ → Gr E ya (bB + 1) (takeL st ro 0 N) → Gr E yr (bB + 1) (takeL st ro N (2 * ro.length)) → s.n = 230 → sget s 8 = .pointer (some ⟨bA, 0, none⟩) → sget s 9 = .pointer (some ⟨bL, 0, none⟩) → sget s 16 = .pointer (some ⟨bB, 0, none⟩) → Rn Try.prog 9 none [.code (restN 11 (Try.f9.body.getD .skip))] s [] E Q) :
    Rn Try.prog 9 none [.code (restN 10 (Try.f9.body.getD .skip))] s [] E0 Q := by
  have hbA := h.bl.1
  have h1 := h.h1
  have h2 := h.h2
  have h3 := h.h3
  refine Rn.seq hc ?_
  refine Rn.cut2 hc (Q1 := fun s ds E => ds = [] ∧ ∃ yr, Nx D.next D E ∧ bB < E.next ∧ Canon.look E.objs bB = some ⟨.cells #[.int .i64 (m : Int), .slice ya N N, .slice yr (2 * ro.length) (2 * ro.length)] 24, false, 0⟩ ∧ Gr E ya (bB + 1) (takeL st ro 0 N) ∧ Gr E yr (bB + 1) (takeL st ro N (2 * ro.length)) ∧ s.n = 230 ∧ sget s 8 = .pointer (some ⟨bA, 0, none⟩) ∧ sget s 9 = .pointer (some ⟨bL, 0, none⟩) ∧ sget s 16 = .pointer (some ⟨bB, 0, none⟩))
    (Q2 := fun _ _ _ => False) ?_ ?_ ?_
  · have d2' := (hE0.cl hbA 2).trans h.d2
    have hw2 : IntKind.i64.wrap (2 * (ro.length : Int)) = ((2 * ro.length : Nat) : Int) := by rw [IntWalk.i64_in _ (by omega)]; omega
    have hE0n := hE0.next
    (repeat (first | refine Rn.seq hc ?_ | refine Rn.skip hc ?_ | refine Rn.block hc ?_ | refine Rn.inBlock hc ?_ | refine Rn.scope hc ?_ | refine Rn.inScope hc ?_))
    refine Rn.reg hc rfl ?_
    simp only [sev_tmp, sev_const, sg_eq, sp_n, Nat.reduceLT, gd, want_free, rops, fx, ld, fad, lng, bin_mul, adr_p, Nat.zero_add, Option.some.injEq, exists_eq_left', tk22, fo24_2, un22, hn, s8, d2', hw2]
    (repeat (first | refine Rn.seq hc ?_ | refine Rn.skip hc ?_ | refine Rn.block hc ?_ | refine Rn.inBlock hc ?_ | refine Rn.scope hc ?_ | refine Rn.inScope hc ?_))
    refine Rn.loopI hc (I := fun kk s E => ∃ i yr, i ≤ 2 * ro.length ∧ kk = 2 * ro.length - i ∧ WF E ∧ E0.next ≤ E.next ∧ (∀ b, b < E0.next → b ≠ bB → Canon.look E.objs b = Canon.look E0.objs b) ∧ Canon.look E.objs bB = some ⟨.cells #[.int .i64 (m : Int), .slice ya N N, .slice yr i i] 24, false, 0⟩ ∧ Gr E yr E0.next (takeL st ro N i) ∧ s.n = 230 ∧ sget s 8 = .pointer (some ⟨bA, 0, none⟩) ∧ sget s 9 = .pointer (some ⟨bL, 0, none⟩) ∧ sget s 16 = .pointer (some ⟨bB, 0, none⟩) ∧ sget s 175 = .int .i64 ((2 * ro.length : Nat) : Int) ∧ sget s 176 = .int .i64 (i : Int))
      (n := 2 * ro.length) ⟨0, none, by omega, rfl, hE0.wf, Nat.le_refl _, fun _ _ _ => rfl, lB, Gr.nil _ _, by simp only [sp_n, hn], by simp only [sg_ne, ne_eq, Nat.reduceEqDiff, not_false_eq_true, s8], by simp only [sg_ne, ne_eq, Nat.reduceEqDiff, not_false_eq_true, s9], by simp only [sg_ne, ne_eq, Nat.reduceEqDiff, not_false_eq_true, s16], by simp only [sg_eq, sg_ne, sp_n, Nat.reduceLT, ne_eq, Nat.reduceEqDiff, not_false_eq_true, hn], by simp only [sg_eq, sp_n, Nat.reduceLT, hn]; rfl⟩ ?_
    clear hn s8 s9 s16 s d2' hw2
    rintro kk s E ⟨i, yr, hi, rfl, wE, hEn, hkp, lE, gy, hn, s8, s9, s16, s175, s176⟩ ih
    have hDE : Nx D.next D E := ⟨by omega, wE, fun b hb => by rw [hkp _ (by omega) (by omega)]; exact hE0.keep _ hb⟩
    (repeat (first | refine Rn.seq hc ?_ | refine Rn.skip hc ?_ | refine Rn.block hc ?_ | refine Rn.inBlock hc ?_ | refine Rn.scope hc ?_ | refine Rn.inScope hc ?_))
    by_cases hlt : i < 2 * ro.length
    · have hd : decide ((i : Int) < ((2 * ro.length : Nat) : Int)) = true := decide_eq_true (by omega)
      refine Rn.reg hc rfl ?_
      simp only [sev_tmp, gd, want_free, rops, fx, bin_lss, Option.some.injEq, exists_eq_left', s175, s176, hd]
      (repeat (first | refine Rn.seq hc ?_ | refine Rn.skip hc ?_ | refine Rn.block hc ?_ | refine Rn.inBlock hc ?_ | refine Rn.scope hc ?_ | refine Rn.inScope hc ?_))
      refine Rn.condE hc rfl ?_
      simp only [sev_tmp, sg_eq, Nat.reduceLT, Value.bool.injEq, exists_eq_left', hn]
      (repeat (first | refine Rn.seq hc ?_ | refine Rn.skip hc ?_ | refine Rn.block hc ?_ | refine Rn.inBlock hc ?_ | refine Rn.scope hc ?_ | refine Rn.inScope hc ?_))
      refine Rn.reg hc rfl ?_
      simp only [sev_tmp, sg_eq, sg_ne, sp_n, Nat.reduceLT, ne_eq, Nat.reduceEqDiff, not_false_eq_true, gd, want_free, rops, fx, Option.some.injEq, exists_eq_left', hn, s176]
      (repeat (first | refine Rn.seq hc ?_ | refine Rn.skip hc ?_ | refine Rn.block hc ?_ | refine Rn.inBlock hc ?_ | refine Rn.scope hc ?_ | refine Rn.inScope hc ?_))
      have d0 := (hDE.cl hbA 0).trans h.d0
      have d1 := (hDE.cl hbA 1).trans h.d1
      have d2 := (hDE.cl hbA 2).trans h.d2
      have c1 : cl E bB 1 = some (.slice ya N N) := by rw [cl_of lE rfl]; rfl
      have c2 : cl E bB 2 = some (.slice yr i i) := by rw [cl_of lE rfl]; rfl
      obtain ⟨F, hF0, hF1, hF2, hF3, hF4, hF⟩ : ∃ F : AHeap → Prop, (∀ M, F M → cl M bA 0 = some (.int .i64 (m : Int))) ∧ (∀ M, F M → cl M bA 1 = some (.slice sa st.length st.length)) ∧ (∀ M, F M → cl M bA 2 = some (.slice ra ro.length ro.length)) ∧ (∀ M, F M → cl M bB 1 = some (.slice ya N N)) ∧ (∀ M, F M → cl M bB 2 = some (.slice yr i i)) ∧ (∀ M, Canon.look M.objs bA = Canon.look E.objs bA → Canon.look M.objs bB = Canon.look E.objs bB → F M) :=
        ⟨fun M => cl M bA 0 = some (.int .i64 (m : Int)) ∧ cl M bA 1 = some (.slice sa st.length st.length) ∧ cl M bA 2 = some (.slice ra ro.length ro.length) ∧ cl M bB 1 = some (.slice ya N N) ∧ cl M bB 2 = some (.slice yr i i), fun _ h => h.1, fun _ h => h.2.1, fun _ h => h.2.2.1, fun _ h => h.2.2.2.1, fun _ h => h.2.2.2.2, fun M q1 q2 => ⟨(cl_look q1).trans d0, (cl_look q1).trans d1, (cl_look q1).trans d2, (cl_look q2).trans c1, (cl_look q2).trans c2⟩⟩
      have hbk : Nx E.next E (bump E 13) := Nx.bump (Nx.refl wE _) 13
      have FB : F (bump E 13) := hF _ rfl rfl
      have hDb : Nx D.next D (bump E 13) := hDE.trans (hbk.le hDE.next)
      have hw1 : IntKind.i64.wrap ((N : Int) + (i : Int)) = ((N + i : Nat) : Int) := by rw [IntWalk.i64_in _ (by omega)]; omega
      refine Rn.drawnL hc hx (hdS (atL st ro (N + i))) F (E := [8, 9, 10]) (n := 12) (k := 13) (by kernel_rfl) (by kernel_rfl) (by rfl) (by kernel_rfl) ?_
      refine DrL.read (by first | rfl | kernel_rfl) (by first | rfl | (simp only [sev_tmp, sev_const, sev_func, sg_eq, sg_ne, sp_n, sp_none, Nat.reduceLT, ne_eq, Nat.reduceEqDiff, not_false_eq_true, gd, nth, want_free, want_slot, beqB, List.map_cons, List.map_nil, Array.toList_empty, List.nil_append, List.append_nil, List.cons_append, hn]; done) | (simp only [sev_tmp, sev_const, sev_func, sg_eq, sg_ne, sp_n, sp_none, Nat.reduceLT, ne_eq, Nat.reduceEqDiff, not_false_eq_true, gd, nth, want_free, want_slot, beqB, List.map_cons, List.map_nil, Array.toList_empty, List.nil_append, List.append_nil, List.cons_append, hn]; rfl)) (by assumption) (fun M hM => by simp only [sev_tmp, sg_ne, ne_eq, Nat.reduceEqDiff, not_false_eq_true, fx, fad, adr_p, Nat.zero_add, fo24_2, s16] <;> rfl) (by rfl) (by first | exact VQ.int _ _ | exact VQ.bool _ | exact VQ.ptr _ _ | exact VQ.slice _ _ _ | exact VQ.func (by simp [vq_int, vq_ptr, vq_slice]) (by simp [vq_int, vq_ptr, vq_slice]) | exact VQ.agg (by simp [vq_int, vq_ptr, vq_slice]) | exact VQ.tuple (by simp [vq_int, vq_ptr, vq_slice])) ?_
      refine DrL.read (by first | rfl | kernel_rfl) (by first | rfl | (simp only [sev_tmp, sev_const, sev_func, sg_eq, sg_ne, sp_n, sp_none, Nat.reduceLT, ne_eq, Nat.reduceEqDiff, not_false_eq_true, gd, nth, want_free, want_slot, beqB, List.map_cons, List.map_nil, Array.toList_empty, List.nil_append, List.append_nil, List.cons_append, hn]; done) | (simp only [sev_tmp, sev_const, sev_func, sg_eq, sg_ne, sp_n, sp_none, Nat.reduceLT, ne_eq, Nat.reduceEqDiff, not_false_eq_true, gd, nth, want_free, want_slot, beqB, List.map_cons, List.map_nil, Array.toList_empty, List.nil_append, List.append_nil, List.cons_append, hn]; rfl)) (by assumption) (fun M hM => by simp only [sev_tmp, sg_eq, sp_n, Nat.reduceLT, fx, ld, adr_p, tk22, hn, hF4 M hM] <;> rfl) (by rfl) (by first | exact VQ.int _ _ | exact VQ.bool _ | exact VQ.ptr _ _ | exact VQ.slice _ _ _ | exact VQ.func (by simp [vq_int, vq_ptr, vq_slice]) (by simp [vq_int, vq_ptr, vq_slice]) | exact VQ.agg (by simp [vq_int, vq_ptr, vq_slice]) | exact VQ.tuple (by simp [vq_int, vq_ptr, vq_slice])) ?_
      refine DrL.read (by first | rfl | kernel_rfl) (by first | rfl | (simp only [sev_tmp, sev_const, sev_func, sg_eq, sg_ne, sp_n, sp_none, Nat.reduceLT, ne_eq, Nat.reduceEqDiff, not_false_eq_true, gd, nth, want_free, want_slot, beqB, List.map_cons, List.map_nil, Array.toList_empty, List.nil_append, List.append_nil, List.cons_append, hn]; done) | (simp only [sev_tmp, sev_const, sev_func, sg_eq, sg_ne, sp_n, sp_none, Nat.reduceLT, ne_eq, Nat.reduceEqDiff, not_false_eq_true, gd, nth, want_free, want_slot, beqB, List.map_cons, List.map_nil, Array.toList_empty, List.nil_append, List.append_nil, List.cons_append, hn]; rfl)) (by assumption) (fun M hM => by simp only [sev_tmp, sg_ne, ne_eq, Nat.reduceEqDiff, not_false_eq_true, fx, ld, adr_p, cls, Nat.zero_add, Nat.reduceAdd, tk24, s8, hF0 M hM, hF1 M hM, hF2 M hM] <;> rfl) (by rfl) (by first | exact VQ.int _ _ | exact VQ.bool _ | exact VQ.ptr _ _ | exact VQ.slice _ _ _ | exact VQ.func (by simp [vq_int, vq_ptr, vq_slice]) (by simp [vq_int, vq_ptr, vq_slice]) | exact VQ.agg (by simp [vq_int, vq_slice]) | exact VQ.tuple (by simp [vq_int, vq_ptr, vq_slice])) ?_
      refine DrL.read (by first | rfl | kernel_rfl) (by first | rfl | (simp only [sev_tmp, sev_const, sev_func, sg_eq, sg_ne, sp_n, sp_none, Nat.reduceLT, ne_eq, Nat.reduceEqDiff, not_false_eq_true, gd, nth, want_free, want_slot, beqB, List.map_cons, List.map_nil, Array.toList_empty, List.nil_append, List.append_nil, List.cons_append, hn]; done) | (simp only [sev_tmp, sev_const, sev_func, sg_eq, sg_ne, sp_n, sp_none, Nat.reduceLT, ne_eq, Nat.reduceEqDiff, not_false_eq_true, gd, nth, want_free, want_slot, beqB, List.map_cons, List.map_nil, Array.toList_empty, List.nil_append, List.append_nil, List.cons_append, hn]; rfl)) (by assumption) (fun M hM => by simp only [sev_tmp, sg_ne, ne_eq, Nat.reduceEqDiff, not_false_eq_true, fx, fad, adr_p, Nat.zero_add, fo24_1, s16] <;> rfl) (by rfl) (by first | exact VQ.int _ _ | exact VQ.bool _ | exact VQ.ptr _ _ | exact VQ.slice _ _ _ | exact VQ.func (by simp [vq_int, vq_ptr, vq_slice]) (by simp [vq_int, vq_ptr, vq_slice]) | exact VQ.agg (by simp [vq_int, vq_ptr, vq_slice]) | exact VQ.tuple (by simp [vq_int, vq_ptr, vq_slice])) ?_
      refine DrL.read (by first | rfl | kernel_rfl) (by first | rfl | (simp only [sev_tmp, sev_const, sev_func, sg_eq, sg_ne, sp_n, sp_none, Nat.reduceLT, ne_eq, Nat.reduceEqDiff, not_false_eq_true, gd, nth, want_free, want_slot, beqB, List.map_cons, List.map_nil, Array.toList_empty, List.nil_append, List.append_nil, List.cons_append, hn]; done) | (simp only [sev_tmp, sev_const, sev_func, sg_eq, sg_ne, sp_n, sp_none, Nat.reduceLT, ne_eq, Nat.reduceEqDiff, not_false_eq_true, gd, nth, want_free, want_slot, beqB, List.map_cons, List.map_nil, Array.toList_empty, List.nil_append, List.append_nil, List.cons_append, hn]; rfl)) (by assumption) (fun M hM => by simp only [sev_tmp, sg_eq, sp_n, Nat.reduceLT, fx, ld, adr_p, tk22, hn, hF3 M hM] <;> rfl) (by rfl) (by first | exact VQ.int _ _ | exact VQ.bool _ | exact VQ.ptr _ _ | exact VQ.slice _ _ _ | exact VQ.func (by simp [vq_int, vq_ptr, vq_slice]) (by simp [vq_int, vq_ptr, vq_slice]) | exact VQ.agg (by simp [vq_int, vq_ptr, vq_slice]) | exact VQ.tuple (by simp [vq_int, vq_ptr, vq_slice])) ?_
      refine DrL.read (by first | rfl | kernel_rfl) (by first | rfl | (simp only [sev_tmp, sev_const, sev_func, sg_eq, sg_ne, sp_n, sp_none, Nat.reduceLT, ne_eq, Nat.reduceEqDiff, not_false_eq_true, gd, nth, want_free, want_slot, beqB, List.map_cons, List.map_nil, Array.toList_empty, List.nil_append, List.append_nil, List.cons_append, hn]; done) | (simp only [sev_tmp, sev_const, sev_func, sg_eq, sg_ne, sp_n, sp_none, Nat.reduceLT, ne_eq, Nat.reduceEqDiff, not_false_eq_true, gd, nth, want_free, want_slot, beqB, List.map_cons, List.map_nil, Array.toList_empty, List.nil_append, List.append_nil, List.cons_append, hn]; rfl)) (by assumption) (fun M hM => by simp only [sev_tmp, sg_eq, sp_n, Nat.reduceLT, fx, lng, un22, hn] <;> rfl) (by rfl) (by first | exact VQ.int _ _ | exact VQ.bool _ | exact VQ.ptr _ _ | exact VQ.slice _ _ _ | exact VQ.func (by simp [vq_int, vq_ptr, vq_slice]) (by simp [vq_int, vq_ptr, vq_slice]) | exact VQ.agg (by simp [vq_int, vq_ptr, vq_slice]) | exact VQ.tuple (by simp [vq_int, vq_ptr, vq_slice])) ?_
      refine DrL.read (by first | rfl | kernel_rfl) (by first | rfl | (simp only [sev_tmp, sev_const, sev_func, sg_eq, sg_ne, sp_n, sp_none, Nat.reduceLT, ne_eq, Nat.reduceEqDiff, not_false_eq_true, gd, nth, want_free, want_slot, beqB, List.map_cons, List.map_nil, Array.toList_empty, List.nil_append, List.append_nil, List.cons_append, hn]; done) | (simp only [sev_tmp, sev_const, sev_func, sg_eq, sg_ne, sp_n, sp_none, Nat.reduceLT, ne_eq, Nat.reduceEqDiff, not_false_eq_true, gd, nth, want_free, want_slot, beqB, List.map_cons, List.map_nil, Array.toList_empty, List.nil_append, List.append_nil, List.cons_append, hn]; rfl)) (by assumption) (fun M hM => by simp only [sev_tmp, sg_eq, sg_ne, sp_n, Nat.reduceLT, ne_eq, Nat.reduceEqDiff, not_false_eq_true, fx, hn] <;> rfl) (by rfl) (by first | exact VQ.int _ _ | exact VQ.bool _ | exact VQ.ptr _ _ | exact VQ.slice _ _ _ | exact VQ.func (by simp [vq_int, vq_ptr, vq_slice]) (by simp [vq_int, vq_ptr, vq_slice]) | exact VQ.agg (by simp [vq_int, vq_ptr, vq_slice]) | exact VQ.tuple (by simp [vq_int, vq_ptr, vq_slice])) ?_
      refine DrL.read (by first | rfl | kernel_rfl) (by first | rfl | (simp only [sev_tmp, sev_const, sev_func, sg_eq, sg_ne, sp_n, sp_none, Nat.reduceLT, ne_eq, Nat.reduceEqDiff, not_false_eq_true, gd, nth, want_free, want_slot, beqB, List.map_cons, List.map_nil, Array.toList_empty, List.nil_append, List.append_nil, List.cons_append, hn]; done) | (simp only [sev_tmp, sev_const, sev_func, sg_eq, sg_ne, sp_n, sp_none, Nat.reduceLT, ne_eq, Nat.reduceEqDiff, not_false_eq_true, gd, nth, want_free, want_slot, beqB, List.map_cons, List.map_nil, Array.toList_empty, List.nil_append, List.append_nil, List.cons_append, hn]; rfl)) (by assumption) (fun M hM => by simp only [sev_tmp, sg_eq, sg_ne, sp_n, Nat.reduceLT, ne_eq, Nat.reduceEqDiff, not_false_eq_true, fx, bin_add, hn, hw1] <;> rfl) (by rfl) (by first | exact VQ.int _ _ | exact VQ.bool _ | exact VQ.ptr _ _ | exact VQ.slice _ _ _ | exact VQ.func (by simp [vq_int, vq_ptr, vq_slice]) (by simp [vq_int, vq_ptr, vq_slice]) | exact VQ.agg (by simp [vq_int, vq_ptr, vq_slice]) | exact VQ.tuple (by simp [vq_int, vq_ptr, vq_slice])) ?_
      refine DrL.call (by kernel_rfl) (by rfl) (by assumption) (by rfl) (opRun_call (by rfl) ⟨by rfl, by rfl⟩ (by rfl) (xs := [.agg #[.int .i64 (m : Int), .slice sa st.length st.length, .slice ra ro.length ro.length], .int .i64 ((N + i : Nat) : Int)]) (by simp only [sev_tmp, sg_eq, sg_ne, sp_n, Nat.reduceLT, ne_eq, Nat.reduceEqDiff, not_false_eq_true, List.map_cons, List.map_nil, List.nil_append, List.append_nil, hn]) (at_law hbk.wf ((h.x1.nx hDb (Nat.le_refl _)).mono (Nat.le_refl _) hDb.next) ((h.x2.nx hDb (Nat.le_refl _)).mono (Nat.le_refl _) hDb.next) (N + i) (by omega) h2 (by omega) (by omega))) ?_
      rintro v B1 ⟨rfl, k1⟩
      have hn1 := k1.next
      rw [bump_next] at hn1 k1
      have F1 : F B1 := hF _ ((k1.keep _ (by omega)).trans rfl) ((k1.keep _ (by omega)).trans rfl)
      refine DrL.float (by rfl) (by rfl) (by rfl) (fb22_1 (v := .int .i64 (atL st ro (N + i))) (by simp only [sev_tmp, sg_eq, sp_n, Nat.reduceLT, hn]) rfl) ?_
      have hnb : Canon.look B1.objs (E.next + 9) = none := by rw [k1.keep _ (by omega)]; exact wE.none (by omega)
      obtain ⟨B2, p1, hxB2, eB2, lB2, kB2⟩ := place_row (N := 0) (Nx.refl k1.wf 0) (b := E.next + 9) (Nat.zero_le _) (by omega) hnb [.int .i64 (atL st ro (N + i))] 3 1 1
      have F2 : F B2 := hF _ ((kB2 _ (by omega)).trans ((k1.keep _ (by omega)).trans rfl)) ((kB2 _ (by omega)).trans ((k1.keep _ (by omega)).trans rfl))
      have hlen := takeL_len st ro N i
      have gB1 : Gr B1 yr E0.next (takeL st ro N i) := (gy.nx (n := 0) wE hbk).nx (n := 0) hbk.wf (by rw [bump_next]; exact k1)
      have gB2 : Gr B2 yr E0.next (takeL st ro N i) := gB1.ext (Nat.le_of_eq eB2.symm) fun b' hb' => by
        by_cases hbb : b' = E.next + 9
        · exact .inl (hbb ▸ hnb)
        · exact .inr (kB2 _ hbb)
      obtain ⟨B3, q1, n3, w3, hg3, kp3, _⟩ := gr_push hxB2.wf gB2 (a2 := some ⟨E.next + 9, 0, none⟩) (c2 := 1) (b2 := E.next + 9) (x := atL st ro (N + i)) rfl (by rw [cl_of lB2 rfl]; rfl) (by omega)
      rw [hlen] at q1
      have hsnoc : takeL st ro N i ++ [atL st ro (N + i)] = takeL st ro N (i + 1) := by
        rw [takeL_append st ro N i 1]
        simp [takeL]
      rw [hsnoc] at hg3
      have L3 : ∀ b', b' < E0.next → Canon.look B3.objs b' = Canon.look E.objs b' := fun b' hb' => by
        rw [kp3 b' (by omega) (fun y hy => by obtain ⟨_, q, _⟩ := gB2.sl y hy; omega), kB2 _ (by omega), k1.keep _ (by omega)]
        rfl
      have F3 : F B3 := hF _ (L3 _ (by omega)) (L3 _ (by omega))
      refine DrL.eff (by rfl) (by rfl) (pd1 := [(9, ⟨[.int .i64 (atL st ro (N + i))], 3, .sl 1 1⟩)]) (pd2 := []) (by kernel_rfl) (by kernel_rfl) (ms0 := [B1]) (A0 := B2) (by simp only [placeAll, p1]) (fun M hM => by rw [List.mem_singleton] at hM; rw [hM]; exact F1) F2 (by rfl)
        (v := .slice (some ⟨B2.next, 0, none⟩) (i + 1) (i + 1)) (A1 := B3) (opRun_op rfl (by simp only [sev_tmp, sg_eq, sg_ne, sp_n, Nat.reduceLT, ne_eq, Nat.reduceEqDiff, not_false_eq_true, Nat.zero_add, Nat.reduceAdd, hn, ae_apd, apd_slice, FK.val]; exact q1)) ?_
      refine DrL.read (by first | rfl | kernel_rfl) (by first | rfl | (simp only [sev_tmp, sev_const, sev_func, sg_eq, sg_ne, sp_n, sp_none, Nat.reduceLT, ne_eq, Nat.reduceEqDiff, not_false_eq_true, gd, nth, want_free, want_slot, beqB, List.map_cons, List.map_nil, Array.toList_empty, List.nil_append, List.append_nil, List.cons_append, hn]; done) | (simp only [sev_tmp, sev_const, sev_func, sg_eq, sg_ne, sp_n, sp_none, Nat.reduceLT, ne_eq, Nat.reduceEqDiff, not_false_eq_true, gd, nth, want_free, want_slot, beqB, List.map_cons, List.map_nil, Array.toList_empty, List.nil_append, List.append_nil, List.cons_append, hn]; rfl)) (by assumption) (fun M hM => by simp only [sev_tmp, sg_ne, ne_eq, Nat.reduceEqDiff, not_false_eq_true, fx, fad, adr_p, Nat.zero_add, Nat.reduceAdd, fo24_2, s16] <;> rfl) (by rfl) (by first | exact VQ.int _ _ | exact VQ.bool _ | exact VQ.ptr _ _ | exact VQ.slice _ _ _ | exact VQ.func (by simp [vq_int, vq_ptr, vq_slice]) (by simp [vq_int, vq_ptr, vq_slice]) | exact VQ.agg (by simp [vq_int, vq_ptr, vq_slice]) | exact VQ.tuple (by simp [vq_int, vq_ptr, vq_slice])) ?_
      have l3 : Canon.look B3.objs bB = _ := (L3 _ (by omega)).trans lE
      obtain ⟨B4, v1, v2⟩ := st1_upd (o := 2) (v := .slice (some ⟨B2.next, 0, none⟩) (i + 1) (i + 1)) l3 rfl (by simp) rfl
      refine DrL.eff (by rfl) (by rfl) (pd1 := []) (pd2 := []) (by kernel_rfl) (by kernel_rfl) (ms0 := []) (A0 := B3) rfl (fun _ h => by cases h) F3 (by rfl) (v := undef) (A1 := B4) (opRun_op rfl (fx_ok (by rfl) (by simp only [sev_tmp, sg_eq, sg_ne, sp_n, Nat.reduceLT, ne_eq, Nat.reduceEqDiff, not_false_eq_true, fx, str, adr_p, Nat.zero_add, Nat.reduceAdd, tk22, hn, v1]))) ?_
      refine DrL.nil ⟨by rfl, B4, by rfl, ?_⟩
      (repeat (first | refine Rn.seq hc ?_ | refine Rn.skip hc ?_ | refine Rn.block hc ?_ | refine Rn.inBlock hc ?_ | refine Rn.scope hc ?_ | refine Rn.inScope hc ?_))
      refine Rn.reg hc rfl ?_
      simp only [sev_tmp, sev_const, sg_eq, sg_ne, sp_n, sp_none, Nat.reduceLT, ne_eq, Nat.reduceEqDiff, not_false_eq_true, gd, want_free, rops, fx, bin_add, Nat.zero_add, Option.some.injEq, exists_eq_left', Nat.reduceAdd, hn, s176, wrap_succ (show i < 9223372036854775807 by omega)]
      (repeat (first | refine Rn.seq hc ?_ | refine Rn.skip hc ?_ | refine Rn.block hc ?_ | refine Rn.inBlock hc ?_ | refine Rn.scope hc ?_ | refine Rn.inScope hc ?_))
      obtain ⟨c, t, f, g, e, r1, r2, _⟩ := v2.at'
      rw [l3] at r1
      cases r1
      have hn4 := v2.next
      refine ih _ _ _ (by omega) ⟨i + 1, some ⟨B2.next, 0, none⟩, by omega, rfl, (v2.nx w3 (Nat.zero_le _)).wf, by omega, fun b hb hne => by rw [v2.off _ hne, L3 _ hb]; exact hkp b hb hne, r2, (hg3.off v2 (by omega)).mono (by omega), by simp only [sp_n, hn], by simp only [sg_ne, ne_eq, Nat.reduceEqDiff, not_false_eq_true, s8], by simp only [sg_ne, ne_eq, Nat.reduceEqDiff, not_false_eq_true, s9], by simp only [sg_ne, ne_eq, Nat.reduceEqDiff, not_false_eq_true, s16], by simp only [sg_ne, ne_eq, Nat.reduceEqDiff, not_false_eq_true, s175], by simp only [sg_eq, sp_n, Nat.reduceLT, hn]⟩
    · have hd : decide ((i : Int) < ((2 * ro.length : Nat) : Int)) = false := decide_eq_false (by omega)
      have hi2 : i = 2 * ro.length := by omega
      clear ih
      refine Rn.reg hc rfl ?_
      simp only [sev_tmp, gd, want_free, rops, fx, bin_lss, Option.some.injEq, exists_eq_left', s175, s176, hd]
      (repeat (first | refine Rn.seq hc ?_ | refine Rn.skip hc ?_ | refine Rn.block hc ?_ | refine Rn.inBlock hc ?_ | refine Rn.scope hc ?_ | refine Rn.inScope hc ?_))
      refine Rn.condE hc rfl ?_
      simp only [sev_tmp, sg_eq, Nat.reduceLT, Value.bool.injEq, exists_eq_left', hn]
      (repeat (first | refine Rn.seq hc ?_ | refine Rn.skip hc ?_ | refine Rn.block hc ?_ | refine Rn.inBlock hc ?_ | refine Rn.scope hc ?_ | refine Rn.inScope hc ?_))
      refine Rn.exit hc rfl ?_
      (repeat (first | refine Rn.seq hc ?_ | refine Rn.skip hc ?_ | refine Rn.block hc ?_ | refine Rn.inBlock hc ?_ | refine Rn.scope hc ?_ | refine Rn.inScope hc ?_))
      rw [hi2] at lE gy
      refine Rn.fall ⟨rfl, yr, hDE, by omega, lE, gx.ext hEn fun b' hb' => ?_, gy.mono (by omega), by simp only [sp_n, hn], by simp only [sg_ne, ne_eq, Nat.reduceEqDiff, not_false_eq_true, s8], by simp only [sg_ne, ne_eq, Nat.reduceEqDiff, not_false_eq_true, s9], by simp only [sg_ne, ne_eq, Nat.reduceEqDiff, not_false_eq_true, s16]⟩
      by_cases hlt' : b' < E0.next
      · exact .inr (hkp b' hlt' (by omega))
      · exact .inl (hE0.wf.none (by omega))
  · rintro s ds E ⟨rfl, yr, k1, k2, k3, k4, k5, k6, k7, k8, k9⟩
    exact hk s E yr k1 k2 k3 k4 k5 k6 k7 k8 k9
  · intro _ _ _ h
    exact h.elim
end Go.Proofs.Ytdaljohmfnfgiaa
/- LassoLeast: its end. No condition. -/
namespace Go.Proofs.Ytdaljohmfnfgiaa
open Go Go.RowKit Go.Proofs.Ytdaljohmfnfgiaa.Canon
set_option maxRecDepth 20000


theorem takeL_in {m : Nat} {st ro : List Int} (h : ∀ n, 0 ≤ atL st ro n ∧ atL st ro n < (m : Int)) (n k : Nat) : (takeL st ro n k).all (inB m) = true := by
  rw [List.all_eq_true]
  intro x hx
  obtain ⟨i, _, rfl⟩ := List.mem_map.1 hx
  simp [inB, (h (n + i)).1, (h (n + i)).2]
theorem unroll {st ro : List Int} (hro : 0 < ro.length) {N L : Nat} (hN : st.length ≤ N) (hL : 0 < L) (hd : L % ro.length = 0) : atL (takeL st ro 0 N) (takeL st ro N L) = atL st ro := funext fun n => by
  have hper : Per (atL st ro) N L := by
    obtain ⟨k, hk⟩ := Nat.dvd_of_mod_eq_zero hd
    have := ((atL_per (st := st) hro).mono hN).mul (k := k) (Nat.pos_of_ne_zero fun h0 => by subst h0; omega)
    rwa [Nat.mul_comm, ← hk] at this
  show (if n < (takeL st ro 0 N).length then (takeL st ro 0 N).getD n 0 else (takeL st ro N L).getD ((n - (takeL st ro 0 N).length) % (takeL st ro N L).length) 0) = _
  rw [takeL_len, takeL_len]
  split
  · rename_i h
    rw [takeL_get _ _ _ _ h, Nat.zero_add]
  · rename_i h
    have hm := Nat.mod_lt (n - N) hL
    rw [takeL_get _ _ _ _ hm]
    refine hper.same (by omega) (by omega) ?_
    rw [Nat.add_mod_mod]
    congr 1
    omega

theorem least_end {A D : AHeap} {bA bL m : Nat} {sa ra la lr : Option Addr} {st ro ls lro : List Int} (h : Half A D bA bL m sa ra la lr st ro ls lro) {E : AHeap} {bB N : Nat} {ya yr : Option Addr} (hN1 : st.length ≤ N) (hN2 : N ≤ st.length + 30) (hE : Nx D.next D E) (hbE : bB < E.next)
    (lB : Canon.look E.objs bB = some ⟨.cells #[.int .i64 (m : Int), .slice ya N N, .slice yr (2 * ro.length) (2 * ro.length)] 24, false, 0⟩) (ga : Gr E ya (bB + 1) (takeL st ro 0 N)) (gr : Gr E yr (bB + 1) (takeL st ro N (2 * ro.length)))
    {s : Slots} (hn : s.n = 230) (s8 : sget s 8 = .pointer (some ⟨bA, 0, none⟩)) (s9 : sget s 9 = .pointer (some ⟨bL, 0, none⟩)) (s16 : sget s 16 = .pointer (some ⟨bB, 0, none⟩)) :
    Rn Try.prog 9 none [.code (restN 11 (Try.f9.body.getD .skip))] s [] E (endQ Try.prog Try.f9 (fun w A1 => w = .bool true ∧ Nx A.next A A1)) := by
  have hbA := h.bl.1
  have hbL := h.bl.2.1
  have h1 := h.h1
  have h2 := h.h2
  have h3 := h.h3
  have hm := h.hm
  have hp12 : lro.length ≤ ro.length := h.red.minP _ _ (atL_per (st := st) h.h2)
  have hls12 : ls.length ≤ st.length := h.red.minA _ ⟨h.red.per.pos, ((atL_per (st := st) h.h2).down h.red.per).per⟩
  have hsin := atL_in h.i1 h.i2 h.h2
  have hF := unroll (st := st) (N := N) (L := 2 * ro.length) h.h2 hN1 (by omega) (Nat.mul_mod_left _ _)
  have hbi1 := takeL_in hsin 0 N
  have hbi2 := takeL_in hsin N (2 * ro.length)
  have hl1 := takeL_len st ro 0 N
  have hl2 := takeL_len st ro N (2 * ro.length)
  have heA : errL m st ro = 0 := errL_ok h.hm (by omega) h.h2 (by omega) h.i1 h.i2
  have b0 : cl E bB 0 = some (.int .i64 (m : Int)) := by rw [cl_of lB rfl]; rfl
  have b1 : cl E bB 1 = some (.slice ya N N) := by rw [cl_of lB rfl]; rfl
  have b2 : cl E bB 2 = some (.slice yr (2 * ro.length) (2 * ro.length)) := by rw [cl_of lB rfl]; rfl
  clear lB
  generalize takeL st ro 0 N = bst at ga hF hbi1 hl1
  generalize takeL st ro N (2 * ro.length) = bro at gr hF hbi2 hl2
  subst hl1
  rw [← hl2] at b2
  have heB : errL m bst bro = 0 := errL_ok h.hm (by omega) (by omega) (by omega) hbi1 hbi2
  have i1 := ga.ints.mono (Nat.zero_le _) (Nat.le_refl _)
  have i2 := gr.ints.mono (Nat.zero_le _) (Nat.le_refl _)
  have hE0 : Nx A.next A E := h.hx.trans (hE.le h.hx.next)
  refine Rn.seq hc ?_
  refine Rn.region hc fun K hK => ?_
  refine Wo.run hc 1 rfl rfl rfl ?_
  simp (maxSteps := 2000000) only [List.drop_zero, List.take_succ_cons, List.take_zero, sev_tmp, gd, want_free, rops, fx, ld, adr_p, cls, Nat.zero_add, Option.some.injEq, exists_eq_left', Nat.reduceAdd, tk24, s16, b0, b1, b2]
  refine Wo.call hc (by rfl) (by rfl) ⟨by rfl, by rfl⟩ (xs := [.agg #[.int .i64 (m : Int), .slice ya bst.length bst.length, .slice yr bro.length bro.length]]) (by first | rfl | (simp only [sev_tmp, sev_const, sev_func, sg_eq, sg_ne, sp_n, sp_none, Nat.reduceLT, ne_eq, Nat.reduceEqDiff, not_false_eq_true, gd, nth, want_free, want_slot, beqB, List.map_cons, List.map_nil, Array.toList_empty, List.nil_append, List.append_nil, List.cons_append, hn]; done) | (simp only [sev_tmp, sev_const, sev_func, sg_eq, sg_ne, sp_n, sp_none, Nat.reduceLT, ne_eq, Nat.reduceEqDiff, not_false_eq_true, gd, nth, want_free, want_slot, beqB, List.map_cons, List.map_nil, Array.toList_empty, List.nil_append, List.append_nil, List.cons_append, hn]; rfl)) (by first | rfl | (simp only [sev_tmp, sev_const, sev_func, sg_eq, sg_ne, sp_n, sp_none, Nat.reduceLT, ne_eq, Nat.reduceEqDiff, not_false_eq_true, gd, nth, want_free, want_slot, beqB, List.map_cons, List.map_nil, Array.toList_empty, List.nil_append, List.append_nil, List.cons_append, hn]; done) | (simp only [sev_tmp, sev_const, sev_func, sg_eq, sg_ne, sp_n, sp_none, Nat.reduceLT, ne_eq, Nat.reduceEqDiff, not_false_eq_true, gd, nth, want_free, want_slot, beqB, List.map_cons, List.map_nil, Array.toList_empty, List.nil_append, List.append_nil, List.cons_append, hn]; rfl)) (by first | rfl | (simp only [sev_tmp, sg_eq, Nat.reduceLT, List.map_cons, List.map_nil, List.nil_append, List.append_nil, hn]; done) | (simp only [sev_tmp, sev_const, sev_func, sg_eq, sg_ne, sp_n, sp_none, Nat.reduceLT, ne_eq, Nat.reduceEqDiff, not_false_eq_true, gd, nth, want_free, want_slot, beqB, List.map_cons, List.map_nil, Array.toList_empty, List.nil_append, List.append_nil, List.cons_append, hn]; rfl)) (Con.mono (least_of hE.wf i1 i2 (by omega) (by omega) (ga.sl.mono (Nat.zero_le _)) (Nat.le_refl _)) ?_)
  rintro w E1 ⟨hq, -⟩
  replace hq := hq heB
  obtain ⟨a1, p1, hred1, -, -, hx1, hq⟩ := hq
  rw [hF] at hred1 hq
  obtain ⟨rfl, rfl⟩ := h.red.uniq hred1
  rw [if_neg (by omega), h.eS, h.eR] at hq
  obtain ⟨xa, xr, rfl, hgx1, hgx2⟩ := hq
  obtain ⟨G, p8, hxG, hnG, f0, f1, f2⟩ := put24 hx1.wf (v0 := .int .i64 (m : Int)) (v1 := .slice xa ls.length ls.length) (v2 := .slice xr lro.length lro.length) rfl
  refine Wo.run hc 6 rfl rfl rfl ?_
  simp (maxSteps := 2000000) only [List.drop_zero, List.drop_succ_cons, List.take_succ_cons, List.take_zero, sev_tmp, sg_eq, sg_ne, sp_n, sp_none, Nat.reduceLT, ne_eq, Nat.reduceEqDiff, not_false_eq_true, gd, want_free, rops, fx, str, ext, adr_p, List.getElem?_toArray, List.getElem?_cons_zero, List.getElem?_cons_succ, Nat.zero_add, Option.some.injEq, exists_eq_left', Value.cells, Nat.reduceAdd, tk24, hn, ext, ze24, p8, List.size_toArray, List.length_cons, List.length_nil, Nat.beq_refl]
  refine Wo.done hc rfl (hK _ _ ?_)
  clear hK
  refine Rn.seq hc ?_
  have u1 : Ints G xa 0 G.next ls := ((hgx1.ints.nx hxG (Nat.le_refl _)).mono (Nat.zero_le _) hxG.next)
  have u2 : Ints G xr 0 G.next lro := ((hgx2.ints.nx hxG (Nat.le_refl _)).mono (Nat.zero_le _) hxG.next)
  have hEG : Nx E.next E G := hx1.trans (hxG.le hx1.next)
  have hDG : Nx D.next D G := hE.trans (hEG.le hE.next)
  have n1 : E1.next < G.next := by omega
  have hG := h.mono hDG
  have b0 := (hEG.cl hbE 0).trans b0
  have b1 := (hEG.cl hbE 1).trans b1
  have b2 := (hEG.cl hbE 2).trans b2
  have i1 : Ints G ya 0 G.next bst := (i1.nx hEG (Nat.le_refl _)).mono (Nat.le_refl _) hEG.next
  have i2 : Ints G yr 0 G.next bro := (i2.nx hEG (Nat.le_refl _)).mono (Nat.le_refl _) hEG.next
  have okA : (⟨m, sa, st.length, st, ra, ro.length, ro⟩ : Las).ok G := ⟨hG.x1, hG.x2, show st.length < 4611686018427387904 by omega, show ro.length < 4611686018427387904 by omega⟩
  have okB : (⟨m, ya, bst.length, bst, yr, bro.length, bro⟩ : Las).ok G := ⟨i1, i2, show bst.length < 4611686018427387904 by omega, show bro.length < 4611686018427387904 by omega⟩
  have hee : errs [(⟨m, sa, st.length, st, ra, ro.length, ro⟩ : Las), ⟨m, ya, bst.length, bst, yr, bro.length, bro⟩] [(⟨m, sa, st.length, st, ra, ro.length, ro⟩ : Las), ⟨m, ya, bst.length, bst, yr, bro.length, bro⟩] = 0 := by
    rw [errs_two, if_neg (by show ¬ (errL m st ro ≠ 0); simp [heA]), if_neg (by show ¬ (errL m bst bro ≠ 0); simp [heB]), if_pos rfl]
  have hst : ∀ n, (⟨m, sa, st.length, st, ra, ro.length, ro⟩ : Las).s n = (⟨m, ya, bst.length, bst, yr, bro.length, bro⟩ : Las).s n := fun n => by
    show atL st ro n = atL bst bro n
    rw [hF]
  have bE := h.bl
  have hbG : bB < G.next := Nat.lt_of_lt_of_le hbE hEG.next
  have q0 := hG.d0
  have q1 := hG.d1
  have q2 := hG.d2
  refine Rn.region hc fun K hK => ?_
  refine Wo.run hc 2 rfl rfl rfl ?_
  simp (maxSteps := 2000000) only [List.drop_zero, List.take_succ_cons, List.take_zero, sev_tmp, sg_ne, ne_eq, Nat.reduceEqDiff, not_false_eq_true, gd, want_free, rops, fx, ld, adr_p, cls, Nat.zero_add, Option.some.injEq, exists_eq_left', Nat.reduceAdd, tk24, s8, s16, q0, q1, q2, b0, b1, b2]
  refine Wo.call hc (by rfl) (by rfl) ⟨by rfl, by rfl⟩ (xs := [(⟨m, sa, st.length, st, ra, ro.length, ro⟩ : Las).v, (⟨m, ya, bst.length, bst, yr, bro.length, bro⟩ : Las).v]) (by rfl) (by rfl) (by simp only [sev_tmp, sg_eq, sg_ne, sp_n, Nat.reduceLT, ne_eq, Nat.reduceEqDiff, not_false_eq_true, List.map_cons, List.map_nil, List.nil_append, List.append_nil, hn]; rfl) (Con.mono (same_run hG.hx.wf okA okB) ?_)
  rintro w G1 ⟨k1, hq, -⟩
  replace hq := hq hee
  obtain ⟨bb, rfl, hbb⟩ := hq
  have hbt : bb = true := hbb.2 hst
  subst hbt
  refine Wo.run hc 5 rfl rfl rfl ?_
  simp (maxSteps := 2000000) only [List.drop_zero, List.drop_succ_cons, List.take_succ_cons, List.take_zero, sev_tmp, sg_eq, sg_ne, sp_n, Nat.reduceLT, ne_eq, Nat.reduceEqDiff, not_false_eq_true, gd, want_free, rops, fx, ext, List.getElem?_toArray, List.getElem?_cons_zero, List.getElem?_cons_succ, Option.some.injEq, exists_eq_left', Nat.reduceAdd, hn, ext]
  refine Wo.done hc rfl (hK _ _ ?_)
  clear hK hbb
  refine Rn.seq hc ?_
  have hG1 := hG.mono ((k1).le (Nat.le_refl _))
  have b0' := (k1.cl hbG 0).trans b0
  have b1' := (k1.cl hbG 1).trans b1
  have b2' := (k1.cl hbG 2).trans b2
  have q0 := hG1.d0
  have q1 := hG1.d1
  have q2 := hG1.d2
  refine Rn.region hc fun K hK => ?_
  refine Wo.run hc 2 rfl rfl rfl ?_
  simp (maxSteps := 2000000) only [List.drop_zero, List.take_succ_cons, List.take_zero, sev_tmp, sg_ne, ne_eq, Nat.reduceEqDiff, not_false_eq_true, gd, want_free, rops, fx, ld, adr_p, cls, Nat.zero_add, Option.some.injEq, exists_eq_left', Nat.reduceAdd, tk24, s8, s16, q0, q1, q2, b0', b1', b2']
  refine Wo.call hc (by rfl) (by rfl) ⟨by rfl, by rfl⟩ (xs := [(⟨m, sa, st.length, st, ra, ro.length, ro⟩ : Las).v, (⟨m, ya, bst.length, bst, yr, bro.length, bro⟩ : Las).v]) (by rfl) (by rfl) (by simp only [sev_tmp, sg_eq, sg_ne, sp_n, Nat.reduceLT, ne_eq, Nat.reduceEqDiff, not_false_eq_true, List.map_cons, List.map_nil, List.nil_append, List.append_nil, hn]; rfl) (Con.mono (apart_run hG1.hx.wf (okA.nx k1) (okB.nx k1)) ?_)
  rintro w G2 ⟨k2, hq, -⟩
  replace hq := hq hee
  obtain rfl : w = .tuple #[.int .i64 0, .int .i64 6] := by
    rcases hq with ⟨n, _, hne, _⟩ | ⟨rfl, _⟩
    · exact absurd (hst n) hne
    · rfl
  clear hq
  refine Wo.run hc 5 rfl rfl rfl ?_
  simp (maxSteps := 2000000) only [List.drop_zero, List.drop_succ_cons, List.take_succ_cons, List.take_zero, sev_tmp, sg_eq, sg_ne, sp_n, Nat.reduceLT, ne_eq, Nat.reduceEqDiff, not_false_eq_true, gd, want_free, rops, fx, ext, List.getElem?_toArray, List.getElem?_cons_zero, List.getElem?_cons_succ, Option.some.injEq, exists_eq_left', Nat.reduceAdd, hn, ext]
  refine Wo.done hc rfl (hK _ _ ?_)
  clear hK
  refine Rn.seq hc ?_
  have hG2 := hG1.mono k2
  have k12 : Nx G.next G G2 := k1.trans (k2.le k1.next)
  have f0 := (k12.cl n1 0).trans f0
  have f1 := (k12.cl n1 1).trans f1
  have f2 := (k12.cl n1 2).trans f2
  have u1 := (u1.nx k12 (Nat.le_refl _)).mono (Nat.le_refl _) k12.next
  have u2 := (u2.nx k12 (Nat.le_refl _)).mono (Nat.le_refl _) k12.next
  have v0 := hG2.e0
  have v1 := hG2.e1
  have v2 := hG2.e2
  refine Rn.slots (I := fun s => s.n = 230 ∧ sget s 9 = .pointer (some ⟨bL, 0, none⟩) ∧ sget s 19 = .pointer (some ⟨E1.next, 0, none⟩) ∧ sget s 20 = .int .i64 0 ∧ sget s 21 = .bool true ∧ sget s 22 = .int .i64 0 ∧ sget s 24 = .int .i64 6)
    ⟨by simp only [sp_n, hn], by simp only [sg_ne, ne_eq, Nat.reduceEqDiff, not_false_eq_true, s9], by simp only [sg_eq, sg_ne, sp_n, Nat.reduceLT, ne_eq, Nat.reduceEqDiff, not_false_eq_true, hn], by simp only [sg_eq, sg_ne, sp_n, Nat.reduceLT, ne_eq, Nat.reduceEqDiff, not_false_eq_true, hn], by simp only [sg_eq, sg_ne, sp_n, Nat.reduceLT, ne_eq, Nat.reduceEqDiff, not_false_eq_true, hn], by simp only [sg_eq, sg_ne, sp_n, Nat.reduceLT, ne_eq, Nat.reduceEqDiff, not_false_eq_true, hn], by simp only [sg_eq, sp_n, Nat.reduceLT, hn]⟩ ?_
  clear hn s8 s9 s16 s
  rintro s ⟨hn, s9, s19, s20, s21, s22, s24⟩
  refine Rn.region hc fun K hK => ?_
  refine Wo.run hc 5 rfl rfl rfl ?_
  simp (maxSteps := 2000000) only [List.drop_zero, List.take_succ_cons, List.take_zero, sev_tmp, sev_const, sg_eq, sg_ne, sp_n, Nat.reduceLT, ne_eq, Nat.reduceEqDiff, not_false_eq_true, gd, nth, want_free, want_slot, beqB, rops, fx, ld, bin_eql, adr_p, cls, Nat.zero_add, Option.some.injEq, exists_eq_left', Nat.reduceAdd, tk24, hn, s9, s19, s20, f0, f1, f2, v0, v1, v2, eq_self, decide_true]
  refine Wo.call hc (by rfl) (by rfl) ⟨by rfl, by rfl⟩ (xs := [.agg #[.int .i64 (m : Int), .slice xa ls.length ls.length, .slice xr lro.length lro.length], .agg #[.int .i64 (m : Int), .slice la ls.length ls.length, .slice lr lro.length lro.length]]) (by first | rfl | (simp only [sg_eq, sg_ne, sp_n, Nat.reduceLT, ne_eq, Nat.reduceEqDiff, not_false_eq_true, gd, nth, want_slot, beqB, hn]; done) | (simp only [sev_tmp, sev_const, sev_func, sg_eq, sg_ne, sp_n, sp_none, Nat.reduceLT, ne_eq, Nat.reduceEqDiff, not_false_eq_true, gd, nth, want_free, want_slot, beqB, List.map_cons, List.map_nil, Array.toList_empty, List.nil_append, List.append_nil, List.cons_append, hn]; rfl)) (by first | rfl | (simp only [sev_tmp, sev_const, sev_func, sg_eq, sg_ne, sp_n, sp_none, Nat.reduceLT, ne_eq, Nat.reduceEqDiff, not_false_eq_true, gd, nth, want_free, want_slot, beqB, List.map_cons, List.map_nil, Array.toList_empty, List.nil_append, List.append_nil, List.cons_append, hn]; done) | (simp only [sev_tmp, sev_const, sev_func, sg_eq, sg_ne, sp_n, sp_none, Nat.reduceLT, ne_eq, Nat.reduceEqDiff, not_false_eq_true, gd, nth, want_free, want_slot, beqB, List.map_cons, List.map_nil, Array.toList_empty, List.nil_append, List.append_nil, List.cons_append, hn]; rfl)) (by first | rfl | (simp only [sev_tmp, sg_eq, sg_ne, sp_n, Nat.reduceLT, ne_eq, Nat.reduceEqDiff, not_false_eq_true, List.map_cons, List.map_nil, List.nil_append, List.append_nil, hn]; done) | (simp only [sev_tmp, sev_const, sev_func, sg_eq, sg_ne, sp_n, sp_none, Nat.reduceLT, ne_eq, Nat.reduceEqDiff, not_false_eq_true, gd, nth, want_free, want_slot, beqB, List.map_cons, List.map_nil, Array.toList_empty, List.nil_append, List.append_nil, List.cons_append, hn]; rfl)) (Con.mono (same_lasso hG2.hx.wf u1 u2 hG2.z1 hG2.z2 (by omega) (by omega) (by omega) (by omega)) ?_)
  rintro w G3 ⟨rfl, k3⟩
  rw [show (decide ((m : Int) = (m : Int)) && (decide (ls = ls) && decide (lro = lro))) = true by simp]
  refine Wo.run hc 13 rfl rfl rfl ?_
  simp (maxSteps := 2000000) only [List.drop_zero, List.drop_succ_cons, List.take_succ_cons, List.take_zero, sev_tmp, sev_const, sg_eq, sg_ne, sp_n, Nat.reduceLT, ne_eq, Nat.reduceEqDiff, not_false_eq_true, gd, nth, want_free, want_slot, beqB, rops, fx, pck, bin_eql, Option.some.injEq, exists_eq_left', Nat.reduceAdd, hn, s21, s22, s24, eq_self, decide_true]
  refine Wo.call hc (by rfl) (by rfl) ⟨by rfl, by rfl⟩ (xs := []) (by simp only [sg_eq, sp_n, Nat.reduceLT, gd, nth, want_slot, beqB, hn]) (by rfl) (by rfl) (Con.mono (awake_con G3) ?_)
  rintro w B3 ⟨rfl, rfl⟩
  refine Wo.run hc 2 rfl rfl rfl ?_
  simp (maxSteps := 2000000) only [List.drop_zero, List.drop_succ_cons, List.take_succ_cons, List.take_zero, sev_tmp, sg_eq, sg_ne, sp_n, Nat.reduceLT, ne_eq, Nat.reduceEqDiff, not_false_eq_true, gd, want_free, rops, fx, pck, Option.some.injEq, exists_eq_left', Nat.reduceAdd, hn]
  refine Wo.done hc rfl (hK _ _ ?_)
  clear hK
  (repeat (first | refine Rn.seq hc ?_ | refine Rn.skip hc ?_ | refine Rn.block hc ?_ | refine Rn.inBlock hc ?_ | refine Rn.scope hc ?_ | refine Rn.inScope hc ?_))
  refine Rn.ret (endQ_tmp rfl ⟨?_, hG2.hx.trans (k3.le hG2.hx.next)⟩)
  simp only [sg_eq, sp_n, Nat.reduceLT, hn]
end Go.Proofs.Ytdaljohmfnfgiaa
/- LassoLeast returns true. No condition. -/
namespace Go.Proofs.Ytdaljohmfnfgiaa
open Go Go.RowKit Go.Proofs.Ytdaljohmfnfgiaa.Canon
set_option maxRecDepth 20000


theorem redS_in {m : Nat} {s : Nat → Int} (h : ∀ n, 0 ≤ s n ∧ s n < (m : Int)) (a : Nat) : (redS s a).all (inB m) = true := by
  rw [List.all_eq_true]
  intro x hx
  obtain ⟨i, _, rfl⟩ := List.mem_map.1 hx
  simp [inB, (h i).1, (h i).2]
theorem redR_in {m : Nat} {s : Nat → Int} (h : ∀ n, 0 ≤ s n ∧ s n < (m : Int)) (a p : Nat) : (redR s a p).all (inB m) = true := by
  rw [List.all_eq_true]
  intro x hx
  obtain ⟨i, _, rfl⟩ := List.mem_map.1 hx
  simp [inB, (h (a + i)).1, (h (a + i)).2]
theorem wrap_pred {k : Nat} (h : 0 < k) (hk : k ≤ 1000) : IntKind.i64.wrap ((k : Int) - 1) = ((k - 1 : Nat) : Int) := by rw [IntWalk.i64_in _ (by omega)]; omega
def lS (u : Int) : Canon.Spec := fun g _ A v A1 => match g with
  | 26 => v = .bool true ∧ Nx A.next A A1
  | _ => v = .int .i64 u ∧ Nx A.next A A1
theorem law_least {A : AHeap} (hw : WF A) {na : Option Addr} {nn nc : Nat} (hb : Bys A na A.next nn) (hnn : nn < 9223372036854775808) {n more : Nat} (hn8 : n < 256) (hmore : more < 256) :
    ConF Try.prog 9 [.slice na nn nc, .int .u8 (n : Int), .int .u8 (more : Int)] A (fun w A1 => w = .bool true ∧ Nx A.next A A1) := by
  refine conF_of_rn hc Try.func9 rfl (Nat.le_of_ble_eq_true rfl) ?_
  rw [s_in3]
  (repeat (first | refine Rn.seq hc ?_ | refine Rn.skip hc ?_ | refine Rn.block hc ?_ | refine Rn.inBlock hc ?_ | refine Rn.scope hc ?_ | refine Rn.inScope hc ?_))
  refine Rn.reg hc rfl ?_
  simp only [sev_const, gd, want_free, rops, fx, Option.some.injEq, exists_eq_left', show Try.f9.ntmps = 230 from rfl]
  (repeat (first | refine Rn.seq hc ?_ | refine Rn.skip hc ?_ | refine Rn.block hc ?_ | refine Rn.inBlock hc ?_ | refine Rn.scope hc ?_ | refine Rn.inScope hc ?_))
  refine Rn.region hc fun K hK => ?_
  refine Wo.run hc 1 rfl rfl rfl ?_
  simp (maxSteps := 2000000) only [List.drop_zero, List.take_succ_cons, List.take_zero, sev_tmp, sg_eq, sg_ne, Nat.reduceLT, ne_eq, Nat.reduceEqDiff, not_false_eq_true, gd, want_free, rops, fx, Nat.zero_add, Option.some.injEq, exists_eq_left']
  refine Wo.call hc (by rfl) (by rfl) ⟨by rfl, by rfl⟩ (xs := [.slice na nn nc]) (by first | rfl | (simp only [sev_tmp, sev_const, sev_func, sg_eq, sg_ne, sp_n, sp_none, Nat.reduceLT, ne_eq, Nat.reduceEqDiff, not_false_eq_true, gd, nth, want_free, want_slot, beqB, List.map_cons, List.map_nil, Array.toList_empty, List.nil_append, List.append_nil, List.cons_append]; done) | (simp only [sev_tmp, sev_const, sev_func, sg_eq, sg_ne, sp_n, sp_none, Nat.reduceLT, ne_eq, Nat.reduceEqDiff, not_false_eq_true, gd, nth, want_free, want_slot, beqB, List.map_cons, List.map_nil, Array.toList_empty, List.nil_append, List.append_nil, List.cons_append]; rfl)) (by first | rfl | (simp only [sev_tmp, sev_const, sev_func, sg_eq, sg_ne, sp_n, sp_none, Nat.reduceLT, ne_eq, Nat.reduceEqDiff, not_false_eq_true, gd, nth, want_free, want_slot, beqB, List.map_cons, List.map_nil, Array.toList_empty, List.nil_append, List.append_nil, List.cons_append]; done) | (simp only [sev_tmp, sev_const, sev_func, sg_eq, sg_ne, sp_n, sp_none, Nat.reduceLT, ne_eq, Nat.reduceEqDiff, not_false_eq_true, gd, nth, want_free, want_slot, beqB, List.map_cons, List.map_nil, Array.toList_empty, List.nil_append, List.append_nil, List.cons_append]; rfl)) (by first | rfl | (simp only [sev_tmp, sev_const, sev_func, sg_eq, sg_ne, sp_n, sp_none, Nat.reduceLT, ne_eq, Nat.reduceEqDiff, not_false_eq_true, gd, nth, want_free, want_slot, beqB, List.map_cons, List.map_nil, Array.toList_empty, List.nil_append, List.append_nil, List.cons_append]; done) | (simp only [sev_tmp, sev_const, sev_func, sg_eq, sg_ne, sp_n, sp_none, Nat.reduceLT, ne_eq, Nat.reduceEqDiff, not_false_eq_true, gd, nth, want_free, want_slot, beqB, List.map_cons, List.map_nil, Array.toList_empty, List.nil_append, List.append_nil, List.cons_append]; rfl)) (Con.mono (fill_sack hw hb) ?_)
  rintro w A1 ⟨rfl, hn1, hx1, S1⟩
  refine Wo.run hc 1 rfl rfl rfl ?_
  simp (maxSteps := 2000000) only [List.drop_zero, List.drop_succ_cons, List.take_succ_cons, List.take_zero, sev_tmp, sg_eq, sp_n, Nat.reduceLT, gd, want_free, rops, fx, Option.some.injEq, exists_eq_left', Nat.reduceAdd]
  refine Wo.done hc rfl (hK _ _ ?_)
  clear hK
  (repeat (first | refine Rn.seq hc ?_ | refine Rn.skip hc ?_ | refine Rn.block hc ?_ | refine Rn.inBlock hc ?_ | refine Rn.scope hc ?_ | refine Rn.inScope hc ?_))
  refine Rn.region hc fun K hK => ?_
  refine Wo.run hc 2 rfl rfl rfl ?_
  simp (maxSteps := 2000000) only [List.drop_zero, List.take_succ_cons, List.take_zero, sev_tmp, sg_eq, sg_ne, sp_n, Nat.reduceLT, ne_eq, Nat.reduceEqDiff, not_false_eq_true, gd, want_free, rops, fx, Nat.zero_add, Option.some.injEq, exists_eq_left']
  refine Wo.call hc (by rfl) (by rfl) ⟨by rfl, by rfl⟩ (xs := [.pointer (some ⟨A.next, 0, none⟩)]) (by first | rfl | (simp only [sev_tmp, sev_const, sev_func, sg_eq, sg_ne, sp_n, sp_none, Nat.reduceLT, ne_eq, Nat.reduceEqDiff, not_false_eq_true, gd, nth, want_free, want_slot, beqB, List.map_cons, List.map_nil, Array.toList_empty, List.nil_append, List.append_nil, List.cons_append]; done) | (simp only [sev_tmp, sev_const, sev_func, sg_eq, sg_ne, sp_n, sp_none, Nat.reduceLT, ne_eq, Nat.reduceEqDiff, not_false_eq_true, gd, nth, want_free, want_slot, beqB, List.map_cons, List.map_nil, Array.toList_empty, List.nil_append, List.append_nil, List.cons_append]; rfl)) (by first | rfl | (simp only [sev_tmp, sev_const, sev_func, sg_eq, sg_ne, sp_n, sp_none, Nat.reduceLT, ne_eq, Nat.reduceEqDiff, not_false_eq_true, gd, nth, want_free, want_slot, beqB, List.map_cons, List.map_nil, Array.toList_empty, List.nil_append, List.append_nil, List.cons_append]; done) | (simp only [sev_tmp, sev_const, sev_func, sg_eq, sg_ne, sp_n, sp_none, Nat.reduceLT, ne_eq, Nat.reduceEqDiff, not_false_eq_true, gd, nth, want_free, want_slot, beqB, List.map_cons, List.map_nil, Array.toList_empty, List.nil_append, List.append_nil, List.cons_append]; rfl)) (by first | rfl | (simp only [sev_tmp, sev_const, sev_func, sg_eq, sg_ne, sp_n, sp_none, Nat.reduceLT, ne_eq, Nat.reduceEqDiff, not_false_eq_true, gd, nth, want_free, want_slot, beqB, List.map_cons, List.map_nil, Array.toList_empty, List.nil_append, List.append_nil, List.cons_append]; done) | (simp only [sev_tmp, sev_const, sev_func, sg_eq, sg_ne, sp_n, sp_none, Nat.reduceLT, ne_eq, Nat.reduceEqDiff, not_false_eq_true, gd, nth, want_free, want_slot, beqB, List.map_cons, List.map_nil, Array.toList_empty, List.nil_append, List.append_nil, List.cons_append]; rfl)) (Con.mono (modulus_sack S1 (by omega) hnn) ?_)
  rintro w A3 ⟨m, rfl, hm2, hm7, k3, nx3, hnx3, S3⟩
  refine Wo.call hc (by rfl) (by rfl) ⟨by rfl, by rfl⟩ (xs := [.pointer (some ⟨A.next, 0, none⟩), .int .i64 (m : Int), .int .i64 ((12 : Nat) : Int), .int .i64 ((12 : Nat) : Int)]) (by first | rfl | (simp only [sev_tmp, sev_const, sev_func, sg_eq, sg_ne, sp_n, sp_none, Nat.reduceLT, ne_eq, Nat.reduceEqDiff, not_false_eq_true, gd, nth, want_free, want_slot, beqB, List.map_cons, List.map_nil, Array.toList_empty, List.nil_append, List.append_nil, List.cons_append]; done) | (simp only [sev_tmp, sev_const, sev_func, sg_eq, sg_ne, sp_n, sp_none, Nat.reduceLT, ne_eq, Nat.reduceEqDiff, not_false_eq_true, gd, nth, want_free, want_slot, beqB, List.map_cons, List.map_nil, Array.toList_empty, List.nil_append, List.append_nil, List.cons_append]; rfl)) (by first | rfl | (simp only [sev_tmp, sev_const, sev_func, sg_eq, sg_ne, sp_n, sp_none, Nat.reduceLT, ne_eq, Nat.reduceEqDiff, not_false_eq_true, gd, nth, want_free, want_slot, beqB, List.map_cons, List.map_nil, Array.toList_empty, List.nil_append, List.append_nil, List.cons_append]; done) | (simp only [sev_tmp, sev_const, sev_func, sg_eq, sg_ne, sp_n, sp_none, Nat.reduceLT, ne_eq, Nat.reduceEqDiff, not_false_eq_true, gd, nth, want_free, want_slot, beqB, List.map_cons, List.map_nil, Array.toList_empty, List.nil_append, List.append_nil, List.cons_append]; rfl)) (by first | rfl | (simp only [sev_tmp, sev_const, sev_func, sg_eq, sg_ne, sp_n, sp_none, Nat.reduceLT, ne_eq, Nat.reduceEqDiff, not_false_eq_true, gd, nth, want_free, want_slot, beqB, List.map_cons, List.map_nil, Array.toList_empty, List.nil_append, List.append_nil, List.cons_append]; done) | (simp only [sev_tmp, sev_const, sev_func, sg_eq, sg_ne, sp_n, sp_none, Nat.reduceLT, ne_eq, Nat.reduceEqDiff, not_false_eq_true, gd, nth, want_free, want_slot, beqB, List.map_cons, List.map_nil, Array.toList_empty, List.nil_append, List.append_nil, List.cons_append]; rfl)) (Con.mono (drawn S3 (by omega) hnn (m := m) (stem := 12) (round := 12) (by omega) (by omega) (by omega)) ?_)
  rintro w A4 ⟨k4, ⟨nx4, hnx4, S4⟩, sa, ra, st, ro, rfl, hst, hro1, hro2, hin1, hin2, hgs, hgr⟩
  obtain ⟨A5, p5, hx5, hn5, d0, d1, d2⟩ := put24 S4.wf (v0 := .int .i64 (m : Int)) (v1 := .slice sa st.length st.length) (v2 := .slice ra ro.length ro.length) rfl
  refine Wo.run hc 2 rfl rfl rfl ?_
  simp (maxSteps := 2000000) only [List.drop_zero, List.drop_succ_cons, List.take_succ_cons, List.take_zero, sev_tmp, sg_eq, sg_ne, sp_n, sp_none, Nat.reduceLT, ne_eq, Nat.reduceEqDiff, not_false_eq_true, gd, want_free, rops, fx, str, adr_p, Nat.zero_add, Option.some.injEq, exists_eq_left', Value.cells, Nat.reduceAdd, tk24, ze24, p5, List.size_toArray, List.length_cons, List.length_nil, Nat.beq_refl]
  refine Wo.done hc rfl (hK _ _ ?_)
  clear hK
  (repeat (first | refine Rn.seq hc ?_ | refine Rn.skip hc ?_ | refine Rn.block hc ?_ | refine Rn.inBlock hc ?_ | refine Rn.scope hc ?_ | refine Rn.inScope hc ?_))
  have he : errL m st ro = 0 := errL_ok (by omega) (by omega) hro1 (by omega) hin1 hin2
  have hx05 : Nx A.next A A5 := ⟨by have := k3.next; have := k4.next; omega, hx5.wf, fun b hb' => by
    have := k3.next
    have := k4.next
    rw [hx5.keep _ (by omega), k4.keep _ (by omega) (by omega), k3.keep _ (by omega) (by omega), hx1.keep _ (by omega)]⟩
  have x1 : Ints A5 sa 0 A5.next st := ((hgs.ints.nx hx5 (Nat.le_refl _)).mono (Nat.zero_le _) hx5.next)
  have x2 : Ints A5 ra 0 A5.next ro := ((hgr.ints.nx hx5 (Nat.le_refl _)).mono (Nat.zero_le _) hx5.next)
  have y1 : Sl A5 sa 0 := (hgs.sl.nx S4.wf hx5).mono (Nat.zero_le _)
  have w5 := hx5.wf
  have n45 : A4.next < A5.next := by omega
  clear hx5 p5 hgs hgr S4 k4 hnx4 S3 k3 S1 hx1
  have hsin := atL_in hin1 hin2 hro1
  refine Rn.region hc fun K hK => ?_
  refine Wo.run hc 1 rfl rfl rfl ?_
  simp (maxSteps := 2000000) only [List.drop_zero, List.take_succ_cons, List.take_zero, sev_tmp, sg_eq, sp_n, Nat.reduceLT, gd, want_free, rops, fx, ld, adr_p, cls, Nat.zero_add, Option.some.injEq, exists_eq_left', Nat.reduceAdd, tk24, d0, d1, d2]
  refine Wo.call hc (by rfl) (by rfl) ⟨by rfl, by rfl⟩ (xs := [.agg #[.int .i64 (m : Int), .slice sa st.length st.length, .slice ra ro.length ro.length]]) (by first | rfl | (simp only [sev_tmp, sev_const, sev_func, sg_eq, sg_ne, sp_n, sp_none, Nat.reduceLT, ne_eq, Nat.reduceEqDiff, not_false_eq_true, gd, nth, want_free, want_slot, beqB, List.map_cons, List.map_nil, Array.toList_empty, List.nil_append, List.append_nil, List.cons_append]; done) | (simp only [sev_tmp, sev_const, sev_func, sg_eq, sg_ne, sp_n, sp_none, Nat.reduceLT, ne_eq, Nat.reduceEqDiff, not_false_eq_true, gd, nth, want_free, want_slot, beqB, List.map_cons, List.map_nil, Array.toList_empty, List.nil_append, List.append_nil, List.cons_append]; rfl)) (by first | rfl | (simp only [sev_tmp, sev_const, sev_func, sg_eq, sg_ne, sp_n, sp_none, Nat.reduceLT, ne_eq, Nat.reduceEqDiff, not_false_eq_true, gd, nth, want_free, want_slot, beqB, List.map_cons, List.map_nil, Array.toList_empty, List.nil_append, List.append_nil, List.cons_append]; done) | (simp only [sev_tmp, sev_const, sev_func, sg_eq, sg_ne, sp_n, sp_none, Nat.reduceLT, ne_eq, Nat.reduceEqDiff, not_false_eq_true, gd, nth, want_free, want_slot, beqB, List.map_cons, List.map_nil, Array.toList_empty, List.nil_append, List.append_nil, List.cons_append]; rfl)) (by first | rfl | (simp only [sev_tmp, sev_const, sev_func, sg_eq, sg_ne, sp_n, sp_none, Nat.reduceLT, ne_eq, Nat.reduceEqDiff, not_false_eq_true, gd, nth, want_free, want_slot, beqB, List.map_cons, List.map_nil, Array.toList_empty, List.nil_append, List.append_nil, List.cons_append]; done) | (simp only [sev_tmp, sev_const, sev_func, sg_eq, sg_ne, sp_n, sp_none, Nat.reduceLT, ne_eq, Nat.reduceEqDiff, not_false_eq_true, gd, nth, want_free, want_slot, beqB, List.map_cons, List.map_nil, Array.toList_empty, List.nil_append, List.append_nil, List.cons_append]; rfl)) (Con.mono (least_of w5 x1 x2 (by omega) (by omega) y1 (Nat.le_refl _)) ?_)
  rintro w A6 ⟨hq, -⟩
  replace hq := hq he
  obtain ⟨a0, p, hred, ha0, hp, hx6, hq⟩ := hq
  rw [if_neg (by omega)] at hq
  obtain ⟨la, lr, rfl, hgl1, hgl2⟩ := hq
  obtain ⟨A7, p7, hx7, hn7, e0, e1, e2⟩ := put24 hx6.wf (v0 := .int .i64 (m : Int)) (v1 := .slice la a0 a0) (v2 := .slice lr p p) rfl
  refine Wo.run hc 6 rfl rfl rfl ?_
  simp (maxSteps := 2000000) only [List.drop_zero, List.drop_succ_cons, List.take_succ_cons, List.take_zero, sev_tmp, sg_eq, sg_ne, sp_n, sp_none, Nat.reduceLT, ne_eq, Nat.reduceEqDiff, not_false_eq_true, gd, want_free, rops, fx, str, ext, adr_p, List.getElem?_toArray, List.getElem?_cons_zero, List.getElem?_cons_succ, Nat.zero_add, Option.some.injEq, exists_eq_left', Value.cells, Nat.reduceAdd, tk24, ext, ze24, p7, List.size_toArray, List.length_cons, List.length_nil, Nat.beq_refl]
  refine Wo.done hc rfl (hK _ _ ?_)
  clear hK
  (repeat (first | refine Rn.seq hc ?_ | refine Rn.skip hc ?_ | refine Rn.block hc ?_ | refine Rn.inBlock hc ?_ | refine Rn.scope hc ?_ | refine Rn.inScope hc ?_))
  have hp0 := hred.per.pos
  have hlS := redS_len (atL st ro) a0
  have hlR := redR_len (atL st ro) a0 p
  have hlF := atL_redF hred.per
  have hSin := redS_in hsin a0
  have hRin := redR_in hsin a0 p
  have z1 : Ints A7 la 0 A7.next (redS (atL st ro) a0) := ((hgl1.ints.nx hx7 (Nat.le_refl _)).mono (Nat.zero_le _) hx7.next)
  have z2 : Ints A7 lr 0 A7.next (redR (atL st ro) a0 p) := ((hgl2.ints.nx hx7 (Nat.le_refl _)).mono (Nat.zero_le _) hx7.next)
  have y3 : Sl A7 la 0 := (hgl1.sl.nx hx6.wf hx7).mono (Nat.zero_le _)
  have hx57 : Nx A5.next A5 A7 := hx6.trans (hx7.le hx6.next)
  have n67 : A6.next < A7.next := by omega
  have n56 := hx6.next
  have w7 := hx7.wf
  clear hx7 p7 hgl1 hgl2 hx6
  have d0' := (hx57.cl n45 0).trans d0
  have d1' := (hx57.cl n45 1).trans d1
  have d2' := (hx57.cl n45 2).trans d2
  have heL : errL m (redS (atL st ro) a0) (redR (atL st ro) a0 p) = 0 := errL_ok (by omega) (by omega) (by omega) (by omega) hSin hRin
  generalize hLs : redS (atL st ro) a0 = ls at z1 hlS hlF heL hSin
  generalize hLr : redR (atL st ro) a0 p = lro at z2 hlR hlF heL hRin
  subst hlS hlR
  have g1 : decide ((st.length : Int) < (ls.length : Int)) = false := by simp; omega
  have g2 : decide ((ro.length : Int) < (lro.length : Int)) = false := by simp; omega
  refine Rn.region hc fun K hK => ?_
  refine Wo.run hc 4 rfl rfl rfl ?_
  simp (maxSteps := 2000000) only [List.drop_zero, List.take_succ_cons, List.take_zero, sev_tmp, sg_eq, sg_ne, sp_n, Nat.reduceLT, ne_eq, Nat.reduceEqDiff, not_false_eq_true, gd, want_free, rops, fx, ld, fad, adr_p, cls, Nat.zero_add, Nat.add_zero, Option.some.injEq, exists_eq_left', Nat.reduceAdd, tk3, tk24, fo24_0, d0', e0, e1, e2]
  refine Wo.call hc (by rfl) (by rfl) ⟨by rfl, by rfl⟩ (xs := [.agg #[.int .i64 (m : Int), .slice la ls.length ls.length, .slice lr lro.length lro.length], .int .i64 0, .int .i64 (m : Int)]) (by first | rfl | (simp only [sev_tmp, sev_const, sev_func, sg_eq, sg_ne, sp_n, sp_none, Nat.reduceLT, ne_eq, Nat.reduceEqDiff, not_false_eq_true, gd, nth, want_free, want_slot, beqB, List.map_cons, List.map_nil, Array.toList_empty, List.nil_append, List.append_nil, List.cons_append]; done) | (simp only [sev_tmp, sev_const, sev_func, sg_eq, sg_ne, sp_n, sp_none, Nat.reduceLT, ne_eq, Nat.reduceEqDiff, not_false_eq_true, gd, nth, want_free, want_slot, beqB, List.map_cons, List.map_nil, Array.toList_empty, List.nil_append, List.append_nil, List.cons_append]; rfl)) (by first | rfl | (simp only [sev_tmp, sev_const, sev_func, sg_eq, sg_ne, sp_n, sp_none, Nat.reduceLT, ne_eq, Nat.reduceEqDiff, not_false_eq_true, gd, nth, want_free, want_slot, beqB, List.map_cons, List.map_nil, Array.toList_empty, List.nil_append, List.append_nil, List.cons_append]; done) | (simp only [sev_tmp, sev_const, sev_func, sg_eq, sg_ne, sp_n, sp_none, Nat.reduceLT, ne_eq, Nat.reduceEqDiff, not_false_eq_true, gd, nth, want_free, want_slot, beqB, List.map_cons, List.map_nil, Array.toList_empty, List.nil_append, List.append_nil, List.cons_append]; rfl)) (by first | rfl | (simp only [sev_tmp, sev_const, sev_func, sg_eq, sg_ne, sp_n, sp_none, Nat.reduceLT, ne_eq, Nat.reduceEqDiff, not_false_eq_true, gd, nth, want_free, want_slot, beqB, List.map_cons, List.map_nil, Array.toList_empty, List.nil_append, List.append_nil, List.cons_append]; done) | (simp only [sev_tmp, sev_const, sev_func, sg_eq, sg_ne, sp_n, sp_none, Nat.reduceLT, ne_eq, Nat.reduceEqDiff, not_false_eq_true, gd, nth, want_free, want_slot, beqB, List.map_cons, List.map_nil, Array.toList_empty, List.nil_append, List.append_nil, List.cons_append]; rfl)) (Con.mono (right_lasso w7 z1 z2 (by omega) (by omega) heL) ?_)
  rintro w A8 ⟨rfl, hx8⟩
  have hx78 : Nx A7.next A7 A8 := hx8
  have d0'' := (hx8.cl (show A4.next < A7.next by omega) 0).trans d0'
  have d1'' := (hx8.cl (show A4.next < A7.next by omega) 1).trans d1'
  have d2'' := (hx8.cl (show A4.next < A7.next by omega) 2).trans d2'
  have e0' := (hx8.cl n67 0).trans e0
  have e1' := (hx8.cl n67 1).trans e1
  have e2' := (hx8.cl n67 2).trans e2
  refine Wo.run hc 19 rfl rfl rfl ?_
  simp (maxSteps := 2000000) only [List.drop_zero, List.drop_succ_cons, List.take_succ_cons, List.take_zero, sev_tmp, sg_eq, sg_ne, sp_n, Nat.reduceLT, ne_eq, Nat.reduceEqDiff, not_false_eq_true, gd, nth, want_free, want_slot, beqB, rops, fx, ld, fad, lng, pck, bin_gtr, adr_p, Nat.zero_add, Option.some.injEq, exists_eq_left', Nat.reduceAdd, Bool.not_true, ae_not', Bool.not_true, tk22, fo24_1, fo24_2, un22, d1'', d2'', e1', e2', g1, g2]
  refine Wo.done hc rfl (hK _ _ ?_)
  clear hK
  (repeat (first | refine Rn.seq hc ?_ | refine Rn.skip hc ?_ | refine Rn.block hc ?_ | refine Rn.inBlock hc ?_ | refine Rn.scope hc ?_ | refine Rn.inScope hc ?_))
  refine Rn.condE hc rfl ?_
  simp only [sev_tmp, sg_eq, sp_n, Nat.reduceLT, Value.bool.injEq, exists_eq_left']
  (repeat (first | refine Rn.seq hc ?_ | refine Rn.skip hc ?_ | refine Rn.block hc ?_ | refine Rn.inBlock hc ?_ | refine Rn.scope hc ?_ | refine Rn.inScope hc ?_))
  have z1' := (z1.nx hx8 (Nat.le_refl _)).mono (Nat.le_refl _) hx8.next
  have z2' := (z2.nx hx8 (Nat.le_refl _)).mono (Nat.le_refl _) hx8.next
  refine Rn.region hc fun K hK => ?_
  refine Wo.run hc 1 rfl rfl rfl ?_
  simp (maxSteps := 2000000) only [List.drop_zero, List.take_succ_cons, List.take_zero, sev_tmp, sg_eq, sg_ne, sp_n, Nat.reduceLT, ne_eq, Nat.reduceEqDiff, not_false_eq_true, gd, want_free, rops, fx, ld, adr_p, cls, Nat.zero_add, Option.some.injEq, exists_eq_left', Nat.reduceAdd, tk24, e0', e1', e2']
  refine Wo.call hc (by rfl) (by rfl) ⟨by rfl, by rfl⟩ (xs := [.agg #[.int .i64 (m : Int), .slice la ls.length ls.length, .slice lr lro.length lro.length]]) (by first | rfl | (simp only [sev_tmp, sev_const, sev_func, sg_eq, sg_ne, sp_n, sp_none, Nat.reduceLT, ne_eq, Nat.reduceEqDiff, not_false_eq_true, gd, nth, want_free, want_slot, beqB, List.map_cons, List.map_nil, Array.toList_empty, List.nil_append, List.append_nil, List.cons_append]; done) | (simp only [sev_tmp, sev_const, sev_func, sg_eq, sg_ne, sp_n, sp_none, Nat.reduceLT, ne_eq, Nat.reduceEqDiff, not_false_eq_true, gd, nth, want_free, want_slot, beqB, List.map_cons, List.map_nil, Array.toList_empty, List.nil_append, List.append_nil, List.cons_append]; rfl)) (by first | rfl | (simp only [sev_tmp, sev_const, sev_func, sg_eq, sg_ne, sp_n, sp_none, Nat.reduceLT, ne_eq, Nat.reduceEqDiff, not_false_eq_true, gd, nth, want_free, want_slot, beqB, List.map_cons, List.map_nil, Array.toList_empty, List.nil_append, List.append_nil, List.cons_append]; done) | (simp only [sev_tmp, sev_const, sev_func, sg_eq, sg_ne, sp_n, sp_none, Nat.reduceLT, ne_eq, Nat.reduceEqDiff, not_false_eq_true, gd, nth, want_free, want_slot, beqB, List.map_cons, List.map_nil, Array.toList_empty, List.nil_append, List.append_nil, List.cons_append]; rfl)) (by first | rfl | (simp only [sev_tmp, sev_const, sev_func, sg_eq, sg_ne, sp_n, sp_none, Nat.reduceLT, ne_eq, Nat.reduceEqDiff, not_false_eq_true, gd, nth, want_free, want_slot, beqB, List.map_cons, List.map_nil, Array.toList_empty, List.nil_append, List.append_nil, List.cons_append]; done) | (simp only [sev_tmp, sev_const, sev_func, sg_eq, sg_ne, sp_n, sp_none, Nat.reduceLT, ne_eq, Nat.reduceEqDiff, not_false_eq_true, gd, nth, want_free, want_slot, beqB, List.map_cons, List.map_nil, Array.toList_empty, List.nil_append, List.append_nil, List.cons_append]; rfl)) (Con.mono (least_of hx8.wf z1' z2' (by omega) (by omega) (y3.nx w7 hx8) (Nat.le_refl _)) ?_)
  rintro w A9 ⟨hq, -⟩
  replace hq := hq heL
  obtain ⟨a1, p1, hred1, -, -, hx9, hq⟩ := hq
  rw [hlF] at hred1 hq
  obtain ⟨rfl, rfl⟩ := hred.uniq hred1
  rw [if_neg (by omega), hLs, hLr] at hq
  obtain ⟨xa, xr, rfl, hgx1, hgx2⟩ := hq
  obtain ⟨B0, p8, hx10, hn10, f0, f1, f2⟩ := put24 hx9.wf (v0 := .int .i64 (m : Int)) (v1 := .slice xa ls.length ls.length) (v2 := .slice xr lro.length lro.length) rfl
  refine Wo.run hc 6 rfl rfl rfl ?_
  simp (maxSteps := 2000000) only [List.drop_zero, List.drop_succ_cons, List.take_succ_cons, List.take_zero, sev_tmp, sg_eq, sg_ne, sp_n, sp_none, Nat.reduceLT, ne_eq, Nat.reduceEqDiff, not_false_eq_true, gd, want_free, rops, fx, str, ext, adr_p, List.getElem?_toArray, List.getElem?_cons_zero, List.getElem?_cons_succ, Nat.zero_add, Option.some.injEq, exists_eq_left', Value.cells, Nat.reduceAdd, tk24, ext, ze24, p8, List.size_toArray, List.length_cons, List.length_nil, Nat.beq_refl]
  refine Wo.done hc rfl (hK _ _ ?_)
  clear hK
  refine Rn.seq hc ?_
  have hx7B : Nx A7.next A7 B0 := hx8.trans ((hx9.le hx8.next).trans (hx10.le (by have := hx8.next; have := hx9.next; omega)))
  have u1 : Ints B0 xa 0 B0.next ls := ((hgx1.ints.nx hx10 (Nat.le_refl _)).mono (Nat.zero_le _) hx10.next)
  have u2 : Ints B0 xr 0 B0.next lro := ((hgx2.ints.nx hx10 (Nat.le_refl _)).mono (Nat.zero_le _) hx10.next)
  have n9B : A9.next < B0.next := by omega
  have n79 : A7.next ≤ A9.next := by have := hx8.next; have := hx9.next; omega
  have wB := hx10.wf
  clear hx10 p8 hgx1 hgx2 hx9 z1' z2' e0' e1' e2' d0'' d1'' d2'' hx78 hx8
  have hx5B : Nx A5.next A5 B0 := hx57.trans (hx7B.le hx57.next)
  have d0 := (hx5B.cl n45 0).trans d0
  have d1 := (hx5B.cl n45 1).trans d1
  have d2 := (hx5B.cl n45 2).trans d2
  have e0 := (hx7B.cl n67 0).trans e0
  have e1 := (hx7B.cl n67 1).trans e1
  have e2 := (hx7B.cl n67 2).trans e2
  clear d0' d1' d2'
  have x1 : Ints B0 sa 0 B0.next st := (x1.nx hx5B (Nat.le_refl _)).mono (Nat.le_refl _) hx5B.next
  have x2 : Ints B0 ra 0 B0.next ro := (x2.nx hx5B (Nat.le_refl _)).mono (Nat.le_refl _) hx5B.next
  have z1 : Ints B0 la 0 B0.next ls := (z1.nx hx7B (Nat.le_refl _)).mono (Nat.le_refl _) hx7B.next
  have z2 : Ints B0 lr 0 B0.next lro := (z2.nx hx7B (Nat.le_refl _)).mono (Nat.le_refl _) hx7B.next
  have hx0B : Nx A.next A B0 := hx05.trans (hx5B.le hx05.next)
  refine Rn.slots (I := fun s => s.n = 230 ∧ sget s 1 = .int .u8 (n : Int) ∧ sget s 2 = .int .u8 (more : Int) ∧ sget s 8 = .pointer (some ⟨A4.next, 0, none⟩) ∧ sget s 9 = .pointer (some ⟨A6.next, 0, none⟩) ∧ sget s 11 = .pointer (some ⟨A9.next, 0, none⟩) ∧ sget s 12 = .int .i64 0)
    ⟨by simp only [sp_n], by simp only [sg_eq, sg_ne, sp_n, Nat.reduceLT, ne_eq, Nat.reduceEqDiff, not_false_eq_true], by simp only [sg_eq, sg_ne, sp_n, Nat.reduceLT, ne_eq, Nat.reduceEqDiff, not_false_eq_true], by simp only [sg_eq, sg_ne, sp_n, Nat.reduceLT, ne_eq, Nat.reduceEqDiff, not_false_eq_true], by simp only [sg_eq, sg_ne, sp_n, Nat.reduceLT, ne_eq, Nat.reduceEqDiff, not_false_eq_true], by simp only [sg_eq, sg_ne, sp_n, Nat.reduceLT, ne_eq, Nat.reduceEqDiff, not_false_eq_true], by simp only [sg_eq, sp_n, Nat.reduceLT]⟩ ?_
  rintro s ⟨hn, s1, s2, s8, s9, s11, s12⟩
  refine Rn.cut2 hc (Q1 := fun s ds D => ds = [] ∧ Nx B0.next B0 D ∧ s.n = 230 ∧ sget s 2 = .int .u8 (more : Int) ∧ sget s 8 = .pointer (some ⟨A4.next, 0, none⟩) ∧ sget s 9 = .pointer (some ⟨A6.next, 0, none⟩))
    (Q2 := fun _ _ _ => False) ?_ ?_ ?_
  · (repeat (first | refine Rn.seq hc ?_ | refine Rn.skip hc ?_ | refine Rn.block hc ?_ | refine Rn.inBlock hc ?_ | refine Rn.scope hc ?_ | refine Rn.inScope hc ?_))
    obtain ⟨F, hF, hF'⟩ : ∃ F : AHeap → Prop, (∀ M, F M → ∀ b, b < B0.next → Canon.look M.objs b = Canon.look B0.objs b) ∧ (∀ M, (∀ b, b < B0.next → Canon.look M.objs b = Canon.look B0.objs b) → F M) := ⟨fun M => ∀ b, b < B0.next → Canon.look M.objs b = Canon.look B0.objs b, fun _ h => h, fun _ h => h⟩
    have hFc : ∀ M, F M → ∀ b, b < B0.next → ∀ o, cl M b o = cl B0 b o := fun M hM b hb o => cl_look (hF M hM b hb)
    have n4B : A4.next < B0.next := by omega
    have n6B : A6.next < B0.next := by omega
    have D0 := fun M hM => (hFc M hM _ n4B 0).trans d0
    have D1 := fun M hM => (hFc M hM _ n4B 1).trans d1
    have D2 := fun M hM => (hFc M hM _ n4B 2).trans d2
    have E0 := fun M hM => (hFc M hM _ n6B 0).trans e0
    have E1 := fun M hM => (hFc M hM _ n6B 1).trans e1
    have E2 := fun M hM => (hFc M hM _ n6B 2).trans e2
    have G0 := fun M hM => (hFc M hM _ n9B 0).trans f0
    have G1 := fun M hM => (hFc M hM _ n9B 1).trans f1
    have G2 := fun M hM => (hFc M hM _ n9B 2).trans f2
    have hbk : Nx B0.next B0 (bump B0 44) := Nx.bump (Nx.refl wB _) 44
    have FB : F (bump B0 44) := hF' _ fun _ _ => rfl
    have hz0 : (!decide ((0 : Int) = 0)) = false := rfl
    refine Rn.drawnF hc hx (lS (atL st ro n)) F (n := 3) (k := 44) (by kernel_rfl) (by kernel_rfl) (by rfl) ?_
    refine Dr.read (by first | rfl | kernel_rfl) (by first | rfl | (simp only [sev_tmp, sev_const, sev_func, sg_eq, sg_ne, sp_n, sp_none, Nat.reduceLT, ne_eq, Nat.reduceEqDiff, not_false_eq_true, gd, nth, want_free, want_slot, beqB, List.map_cons, List.map_nil, Array.toList_empty, List.nil_append, List.append_nil, List.cons_append, hn]; done) | (simp only [sev_tmp, sev_const, sev_func, sg_eq, sg_ne, sp_n, sp_none, Nat.reduceLT, ne_eq, Nat.reduceEqDiff, not_false_eq_true, gd, nth, want_free, want_slot, beqB, List.map_cons, List.map_nil, Array.toList_empty, List.nil_append, List.append_nil, List.cons_append, hn]; rfl)) (by assumption) (fun M hM => by simp only [sev_tmp, fx, s12] <;> rfl) (by rfl) (by first | exact VQ.int _ _ | exact VQ.bool _ | exact VQ.ptr _ _ | exact VQ.slice _ _ _ | exact VQ.func (by simp [vq_int, vq_ptr, vq_slice]) (by simp [vq_int, vq_ptr, vq_slice]) | exact VQ.agg (by simp [vq_int, vq_ptr, vq_slice]) | exact VQ.tuple (by simp [vq_int, vq_ptr, vq_slice])) ?_
    refine Dr.read (by first | rfl | kernel_rfl) (by first | rfl | (simp only [sev_tmp, sev_const, sev_func, sg_eq, sg_ne, sp_n, sp_none, Nat.reduceLT, ne_eq, Nat.reduceEqDiff, not_false_eq_true, gd, nth, want_free, want_slot, beqB, List.map_cons, List.map_nil, Array.toList_empty, List.nil_append, List.append_nil, List.cons_append, hn]; done) | (simp only [sev_tmp, sev_const, sev_func, sg_eq, sg_ne, sp_n, sp_none, Nat.reduceLT, ne_eq, Nat.reduceEqDiff, not_false_eq_true, gd, nth, want_free, want_slot, beqB, List.map_cons, List.map_nil, Array.toList_empty, List.nil_append, List.append_nil, List.cons_append, hn]; rfl)) (by assumption) (fun M hM => by simp only [sev_tmp, sev_const, sg_eq, Nat.reduceLT, fx, bin_neq, Bool.not_true, Bool.not_true, hn, eq_self, decide_true, Bool.not_true] <;> rfl) (by rfl) (by first | exact VQ.int _ _ | exact VQ.bool _ | exact VQ.ptr _ _ | exact VQ.slice _ _ _ | exact VQ.func (by simp [vq_int, vq_ptr, vq_slice]) (by simp [vq_int, vq_ptr, vq_slice]) | exact VQ.agg (by simp [vq_int, vq_ptr, vq_slice]) | exact VQ.tuple (by simp [vq_int, vq_ptr, vq_slice])) ?_
    refine Dr.read (by first | rfl | kernel_rfl) (by first | rfl | (simp only [sev_tmp, sev_const, sev_func, sg_eq, sg_ne, sp_n, sp_none, Nat.reduceLT, ne_eq, Nat.reduceEqDiff, not_false_eq_true, gd, nth, want_free, want_slot, beqB, List.map_cons, List.map_nil, Array.toList_empty, List.nil_append, List.append_nil, List.cons_append, hn]; done) | (simp only [sev_tmp, sev_const, sev_func, sg_eq, sg_ne, sp_n, sp_none, Nat.reduceLT, ne_eq, Nat.reduceEqDiff, not_false_eq_true, gd, nth, want_free, want_slot, beqB, List.map_cons, List.map_nil, Array.toList_empty, List.nil_append, List.append_nil, List.cons_append, hn]; rfl)) (by assumption) (fun M hM => by simp only [sev_tmp, sg_eq, sp_n, Nat.reduceLT, fx, hn] <;> rfl) (by rfl) (by first | exact VQ.int _ _ | exact VQ.bool _ | exact VQ.ptr _ _ | exact VQ.slice _ _ _ | exact VQ.func (by simp [vq_int, vq_ptr, vq_slice]) (by simp [vq_int, vq_ptr, vq_slice]) | exact VQ.agg (by simp [vq_int, vq_ptr, vq_slice]) | exact VQ.tuple (by simp [vq_int, vq_ptr, vq_slice])) ?_
    refine Dr.read (by first | rfl | kernel_rfl) (by first | rfl | (simp only [sg_eq, sp_n, Nat.reduceLT, gd, nth, want_slot, beqB, hn]; done) | (simp only [sev_tmp, sev_const, sev_func, sg_eq, sg_ne, sp_n, sp_none, Nat.reduceLT, ne_eq, Nat.reduceEqDiff, not_false_eq_true, gd, nth, want_free, want_slot, beqB, List.map_cons, List.map_nil, Array.toList_empty, List.nil_append, List.append_nil, List.cons_append, hn]; rfl)) (by assumption) (fun M hM => by simp only [sev_tmp, sg_ne, ne_eq, Nat.reduceEqDiff, not_false_eq_true, fx, ld, adr_p, cls, Nat.zero_add, Nat.reduceAdd, tk24, s11, G0 M hM, G1 M hM, G2 M hM] <;> rfl) (by rfl) (by first | exact VQ.int _ _ | exact VQ.bool _ | exact VQ.ptr _ _ | exact VQ.slice _ _ _ | exact VQ.func (by simp [vq_int, vq_ptr, vq_slice]) (by simp [vq_int, vq_ptr, vq_slice]) | exact VQ.agg (by simp [vq_int, vq_slice]) | exact VQ.tuple (by simp [vq_int, vq_ptr, vq_slice])) ?_
    refine Dr.read (by first | rfl | kernel_rfl) (by first | rfl | (simp only [sg_eq, sg_ne, sp_n, Nat.reduceLT, ne_eq, Nat.reduceEqDiff, not_false_eq_true, gd, nth, want_slot, beqB, hn]; done) | (simp only [sev_tmp, sev_const, sev_func, sg_eq, sg_ne, sp_n, sp_none, Nat.reduceLT, ne_eq, Nat.reduceEqDiff, not_false_eq_true, gd, nth, want_free, want_slot, beqB, List.map_cons, List.map_nil, Array.toList_empty, List.nil_append, List.append_nil, List.cons_append, hn]; rfl)) (by assumption) (fun M hM => by simp only [sev_tmp, sg_ne, ne_eq, Nat.reduceEqDiff, not_false_eq_true, fx, ld, adr_p, cls, Nat.zero_add, Nat.reduceAdd, tk24, s9, E0 M hM, E1 M hM, E2 M hM] <;> rfl) (by rfl) (by first | exact VQ.int _ _ | exact VQ.bool _ | exact VQ.ptr _ _ | exact VQ.slice _ _ _ | exact VQ.func (by simp [vq_int, vq_ptr, vq_slice]) (by simp [vq_int, vq_ptr, vq_slice]) | exact VQ.agg (by simp [vq_int, vq_slice]) | exact VQ.tuple (by simp [vq_int, vq_ptr, vq_slice])) ?_
    refine Dr.call (by kernel_rfl) (by rfl) (by assumption) (by simp only [sg_eq, sg_ne, sp_n, Nat.reduceLT, ne_eq, Nat.reduceEqDiff, not_false_eq_true, gd, nth, want_slot, beqB, hn]) (opRun_call (by rfl) ⟨by rfl, by rfl⟩ (by rfl) (xs := [.agg #[.int .i64 (m : Int), .slice xa ls.length ls.length, .slice xr lro.length lro.length], .agg #[.int .i64 (m : Int), .slice la ls.length ls.length, .slice lr lro.length lro.length]]) (by simp only [sev_tmp, sg_eq, sg_ne, sp_n, Nat.reduceLT, ne_eq, Nat.reduceEqDiff, not_false_eq_true, List.map_cons, List.map_nil, List.nil_append, List.append_nil, hn]) (Con.mono (same_lasso hbk.wf ((u1.nx hbk (Nat.le_refl _)).mono (Nat.le_refl _) hbk.next) ((u2.nx hbk (Nat.le_refl _)).mono (Nat.le_refl _) hbk.next) ((z1.nx hbk (Nat.le_refl _)).mono (Nat.le_refl _) hbk.next) ((z2.nx hbk (Nat.le_refl _)).mono (Nat.le_refl _) hbk.next) (by omega) (by omega) (by omega) (by omega)) (fun v A1 h => (⟨by rw [h.1]; simp, h.2⟩ : v = .bool true ∧ Nx (bump B0 44).next (bump B0 44) A1)))) ?_
    rintro v C1 ⟨rfl, k1⟩
    have hC1 : Nx B0.next B0 C1 := hbk.trans (k1.le hbk.next)
    have F1 : F C1 := hF' _ hC1.keep
    refine Dr.read (by first | rfl | kernel_rfl) (by first | rfl | (simp only [sg_eq, sg_ne, sp_n, Nat.reduceLT, ne_eq, Nat.reduceEqDiff, not_false_eq_true, gd, nth, want_slot, beqB, hn]; done) | (simp only [sev_tmp, sev_const, sev_func, sg_eq, sg_ne, sp_n, sp_none, Nat.reduceLT, ne_eq, Nat.reduceEqDiff, not_false_eq_true, gd, nth, want_free, want_slot, beqB, List.map_cons, List.map_nil, Array.toList_empty, List.nil_append, List.append_nil, List.cons_append, hn]; rfl)) (by assumption) (fun M hM => by simp only [sev_tmp, sg_eq, sp_n, Nat.reduceLT, fx, Bool.not_true, ae_not', Bool.not_true, hn, Bool.not_true] <;> rfl) (by rfl) (by first | exact VQ.int _ _ | exact VQ.bool _ | exact VQ.ptr _ _ | exact VQ.slice _ _ _ | exact VQ.func (by simp [vq_int, vq_ptr, vq_slice]) (by simp [vq_int, vq_ptr, vq_slice]) | exact VQ.agg (by simp [vq_int, vq_ptr, vq_slice]) | exact VQ.tuple (by simp [vq_int, vq_ptr, vq_slice])) ?_
    refine Dr.read (by first | rfl | kernel_rfl) (by first | rfl | (simp only [sev_tmp, sev_const, sev_func, sg_eq, sg_ne, sp_n, sp_none, Nat.reduceLT, ne_eq, Nat.reduceEqDiff, not_false_eq_true, gd, nth, want_free, want_slot, beqB, List.map_cons, List.map_nil, Array.toList_empty, List.nil_append, List.append_nil, List.cons_append, hn]; done) | (simp only [sev_tmp, sev_const, sev_func, sg_eq, sg_ne, sp_n, sp_none, Nat.reduceLT, ne_eq, Nat.reduceEqDiff, not_false_eq_true, gd, nth, want_free, want_slot, beqB, List.map_cons, List.map_nil, Array.toList_empty, List.nil_append, List.append_nil, List.cons_append, hn]; rfl)) (by assumption) (fun M hM => by simp only [sev_tmp, sg_eq, sg_ne, sp_n, Nat.reduceLT, ne_eq, Nat.reduceEqDiff, not_false_eq_true, fx, pck, hn] <;> rfl) (by rfl) (by first | exact VQ.int _ _ | exact VQ.bool _ | exact VQ.ptr _ _ | exact VQ.slice _ _ _ | exact VQ.func (by simp [vq_int, vq_ptr, vq_slice]) (by simp [vq_int, vq_ptr, vq_slice]) | exact VQ.agg (by simp [vq_int, vq_ptr, vq_slice]) | exact VQ.tuple (by simp [vq_int, vq_ptr, vq_slice])) ?_
    refine Dr.read (by first | rfl | kernel_rfl) (by first | rfl | (simp only [sev_tmp, sev_const, sev_func, sg_eq, sg_ne, sp_n, sp_none, Nat.reduceLT, ne_eq, Nat.reduceEqDiff, not_false_eq_true, gd, nth, want_free, want_slot, beqB, List.map_cons, List.map_nil, Array.toList_empty, List.nil_append, List.append_nil, List.cons_append, hn]; done) | (simp only [sev_tmp, sev_const, sev_func, sg_eq, sg_ne, sp_n, sp_none, Nat.reduceLT, ne_eq, Nat.reduceEqDiff, not_false_eq_true, gd, nth, want_free, want_slot, beqB, List.map_cons, List.map_nil, Array.toList_empty, List.nil_append, List.append_nil, List.cons_append, hn]; rfl)) (by assumption) (fun M hM => by simp only [sev_tmp, sg_eq, sp_n, Nat.reduceLT, fx, hn] <;> rfl) (by rfl) (by first | exact VQ.int _ _ | exact VQ.bool _ | exact VQ.ptr _ _ | exact VQ.slice _ _ _ | exact VQ.func (by simp [vq_int, vq_ptr, vq_slice]) (by simp [vq_int, vq_ptr, vq_slice]) | exact VQ.agg (by simp [vq_int, vq_ptr, vq_slice]) | exact VQ.tuple (by simp [vq_int, vq_ptr, vq_slice])) ?_
    refine Dr.read (by first | rfl | kernel_rfl) (by first | rfl | (simp only [sg_eq, sp_n, Nat.reduceLT, gd, nth, want_slot, beqB, hn]; done) | (simp only [sev_tmp, sev_const, sev_func, sg_eq, sg_ne, sp_n, sp_none, Nat.reduceLT, ne_eq, Nat.reduceEqDiff, not_false_eq_true, gd, nth, want_free, want_slot, beqB, List.map_cons, List.map_nil, Array.toList_empty, List.nil_append, List.append_nil, List.cons_append, hn]; rfl)) (by assumption) (fun M hM => by simp only [sev_tmp, sg_ne, ne_eq, Nat.reduceEqDiff, not_false_eq_true, fx, ld, adr_p, cls, Nat.zero_add, Nat.reduceAdd, tk24, s9, E0 M hM, E1 M hM, E2 M hM] <;> rfl) (by rfl) (by first | exact VQ.int _ _ | exact VQ.bool _ | exact VQ.ptr _ _ | exact VQ.slice _ _ _ | exact VQ.func (by simp [vq_int, vq_ptr, vq_slice]) (by simp [vq_int, vq_ptr, vq_slice]) | exact VQ.agg (by simp [vq_int, vq_slice]) | exact VQ.tuple (by simp [vq_int, vq_ptr, vq_slice])) ?_
    refine Dr.read (by first | rfl | kernel_rfl) (by first | rfl | (simp only [sg_eq, sg_ne, sp_n, Nat.reduceLT, ne_eq, Nat.reduceEqDiff, not_false_eq_true, gd, nth, want_slot, beqB, hn]; done) | (simp only [sev_tmp, sev_const, sev_func, sg_eq, sg_ne, sp_n, sp_none, Nat.reduceLT, ne_eq, Nat.reduceEqDiff, not_false_eq_true, gd, nth, want_free, want_slot, beqB, List.map_cons, List.map_nil, Array.toList_empty, List.nil_append, List.append_nil, List.cons_append, hn]; rfl)) (by assumption) (fun M hM => by simp only [sev_tmp, sg_ne, ne_eq, Nat.reduceEqDiff, not_false_eq_true, fx, s1] <;> rfl) (by rfl) (by first | exact VQ.int _ _ | exact VQ.bool _ | exact VQ.ptr _ _ | exact VQ.slice _ _ _ | exact VQ.func (by simp [vq_int, vq_ptr, vq_slice]) (by simp [vq_int, vq_ptr, vq_slice]) | exact VQ.agg (by simp [vq_int, vq_ptr, vq_slice]) | exact VQ.tuple (by simp [vq_int, vq_ptr, vq_slice])) ?_
    refine Dr.read (by first | rfl | kernel_rfl) (by first | rfl | (simp only [sg_eq, sg_ne, sp_n, Nat.reduceLT, ne_eq, Nat.reduceEqDiff, not_false_eq_true, gd, nth, want_slot, beqB, hn]; done) | (simp only [sev_tmp, sev_const, sev_func, sg_eq, sg_ne, sp_n, sp_none, Nat.reduceLT, ne_eq, Nat.reduceEqDiff, not_false_eq_true, gd, nth, want_free, want_slot, beqB, List.map_cons, List.map_nil, Array.toList_empty, List.nil_append, List.append_nil, List.cons_append, hn]; rfl)) (by assumption) (fun M hM => by simp only [sev_tmp, sg_eq, sp_n, Nat.reduceLT, fx, ae_cv, hn, cv53 hn8] <;> rfl) (by rfl) (by first | exact VQ.int _ _ | exact VQ.bool _ | exact VQ.ptr _ _ | exact VQ.slice _ _ _ | exact VQ.func (by simp [vq_int, vq_ptr, vq_slice]) (by simp [vq_int, vq_ptr, vq_slice]) | exact VQ.agg (by simp [vq_int, vq_ptr, vq_slice]) | exact VQ.tuple (by simp [vq_int, vq_ptr, vq_slice])) ?_
    refine Dr.call (by kernel_rfl) (by rfl) (by assumption) (by simp only [sg_eq, sg_ne, sp_n, Nat.reduceLT, ne_eq, Nat.reduceEqDiff, not_false_eq_true, gd, nth, want_slot, beqB, hn]) (opRun_call (by rfl) ⟨by rfl, by rfl⟩ (by rfl) (xs := [.agg #[.int .i64 (m : Int), .slice la ls.length ls.length, .slice lr lro.length lro.length], .int .i64 (n : Int)]) (by simp only [sev_tmp, sg_eq, sg_ne, sp_n, Nat.reduceLT, ne_eq, Nat.reduceEqDiff, not_false_eq_true, List.map_cons, List.map_nil, List.nil_append, List.append_nil, hn]) (Con.mono (at_law hC1.wf ((z1.nx hC1 (Nat.le_refl _)).mono (Nat.le_refl _) hC1.next) ((z2.nx hC1 (Nat.le_refl _)).mono (Nat.le_refl _) hC1.next) n (by omega) (by omega) (by omega) (by omega)) (fun v A1 h => (⟨by rw [h.1, hlF], h.2⟩ : v = .int .i64 (atL st ro n) ∧ Nx C1.next C1 A1)))) ?_
    rintro v C2 ⟨rfl, k2⟩
    have hC2 : Nx B0.next B0 C2 := hC1.trans (k2.le hC1.next)
    have F2 : F C2 := hF' _ hC2.keep
    refine Dr.read (by first | rfl | kernel_rfl) (by first | rfl | (simp only [sg_eq, sg_ne, sp_n, Nat.reduceLT, ne_eq, Nat.reduceEqDiff, not_false_eq_true, gd, nth, want_slot, beqB, hn]; done) | (simp only [sev_tmp, sev_const, sev_func, sg_eq, sg_ne, sp_n, sp_none, Nat.reduceLT, ne_eq, Nat.reduceEqDiff, not_false_eq_true, gd, nth, want_free, want_slot, beqB, List.map_cons, List.map_nil, Array.toList_empty, List.nil_append, List.append_nil, List.cons_append, hn]; rfl)) (by assumption) (fun M hM => by simp only [sev_tmp, sg_ne, ne_eq, Nat.reduceEqDiff, not_false_eq_true, fx, ld, adr_p, cls, Nat.zero_add, Nat.reduceAdd, tk24, s8, D0 M hM, D1 M hM, D2 M hM] <;> rfl) (by rfl) (by first | exact VQ.int _ _ | exact VQ.bool _ | exact VQ.ptr _ _ | exact VQ.slice _ _ _ | exact VQ.func (by simp [vq_int, vq_ptr, vq_slice]) (by simp [vq_int, vq_ptr, vq_slice]) | exact VQ.agg (by simp [vq_int, vq_slice]) | exact VQ.tuple (by simp [vq_int, vq_ptr, vq_slice])) ?_
    refine Dr.read (by first | rfl | kernel_rfl) (by first | rfl | (simp only [sg_eq, sg_ne, sp_n, Nat.reduceLT, ne_eq, Nat.reduceEqDiff, not_false_eq_true, gd, nth, want_slot, beqB, hn]; done) | (simp only [sev_tmp, sev_const, sev_func, sg_eq, sg_ne, sp_n, sp_none, Nat.reduceLT, ne_eq, Nat.reduceEqDiff, not_false_eq_true, gd, nth, want_free, want_slot, beqB, List.map_cons, List.map_nil, Array.toList_empty, List.nil_append, List.append_nil, List.cons_append, hn]; rfl)) (by assumption) (fun M hM => by simp only [sev_tmp, sg_ne, ne_eq, Nat.reduceEqDiff, not_false_eq_true, fx, s1] <;> rfl) (by rfl) (by first | exact VQ.int _ _ | exact VQ.bool _ | exact VQ.ptr _ _ | exact VQ.slice _ _ _ | exact VQ.func (by simp [vq_int, vq_ptr, vq_slice]) (by simp [vq_int, vq_ptr, vq_slice]) | exact VQ.agg (by simp [vq_int, vq_ptr, vq_slice]) | exact VQ.tuple (by simp [vq_int, vq_ptr, vq_slice])) ?_
    refine Dr.read (by first | rfl | kernel_rfl) (by first | rfl | (simp only [sg_eq, sg_ne, sp_n, Nat.reduceLT, ne_eq, Nat.reduceEqDiff, not_false_eq_true, gd, nth, want_slot, beqB, hn]; done) | (simp only [sev_tmp, sev_const, sev_func, sg_eq, sg_ne, sp_n, sp_none, Nat.reduceLT, ne_eq, Nat.reduceEqDiff, not_false_eq_true, gd, nth, want_free, want_slot, beqB, List.map_cons, List.map_nil, Array.toList_empty, List.nil_append, List.append_nil, List.cons_append, hn]; rfl)) (by assumption) (fun M hM => by simp only [sev_tmp, sg_eq, sp_n, Nat.reduceLT, fx, ae_cv, hn, cv53 hn8] <;> rfl) (by rfl) (by first | exact VQ.int _ _ | exact VQ.bool _ | exact VQ.ptr _ _ | exact VQ.slice _ _ _ | exact VQ.func (by simp [vq_int, vq_ptr, vq_slice]) (by simp [vq_int, vq_ptr, vq_slice]) | exact VQ.agg (by simp [vq_int, vq_ptr, vq_slice]) | exact VQ.tuple (by simp [vq_int, vq_ptr, vq_slice])) ?_
    refine Dr.call (by kernel_rfl) (by rfl) (by assumption) (by simp only [sg_eq, sg_ne, sp_n, Nat.reduceLT, ne_eq, Nat.reduceEqDiff, not_false_eq_true, gd, nth, want_slot, beqB, hn]) (opRun_call (by rfl) ⟨by rfl, by rfl⟩ (by rfl) (xs := [.agg #[.int .i64 (m : Int), .slice sa st.length st.length, .slice ra ro.length ro.length], .int .i64 (n : Int)]) (by simp only [sev_tmp, sg_eq, sg_ne, sp_n, Nat.reduceLT, ne_eq, Nat.reduceEqDiff, not_false_eq_true, List.map_cons, List.map_nil, List.nil_append, List.append_nil, hn]) (at_law hC2.wf ((x1.nx hC2 (Nat.le_refl _)).mono (Nat.le_refl _) hC2.next) ((x2.nx hC2 (Nat.le_refl _)).mono (Nat.le_refl _) hC2.next) n (by omega) hro1 (by omega) (by omega))) ?_
    rintro v C3 ⟨rfl, k3⟩
    have hC3 : Nx B0.next B0 C3 := hC2.trans (k3.le hC2.next)
    have F3 : F C3 := hF' _ hC3.keep
    refine Dr.read (by first | rfl | kernel_rfl) (by first | rfl | (simp only [sg_eq, sg_ne, sp_n, Nat.reduceLT, ne_eq, Nat.reduceEqDiff, not_false_eq_true, gd, nth, want_slot, beqB, hn]; done) | (simp only [sev_tmp, sev_const, sev_func, sg_eq, sg_ne, sp_n, sp_none, Nat.reduceLT, ne_eq, Nat.reduceEqDiff, not_false_eq_true, gd, nth, want_free, want_slot, beqB, List.map_cons, List.map_nil, Array.toList_empty, List.nil_append, List.append_nil, List.cons_append, hn]; rfl)) (by assumption) (fun M hM => by simp only [sev_tmp, sg_eq, sg_ne, sp_n, Nat.reduceLT, ne_eq, Nat.reduceEqDiff, not_false_eq_true, fx, bin_neq, Bool.not_true, Bool.not_true, hn, eq_self, decide_true, Bool.not_true] <;> rfl) (by rfl) (by first | exact VQ.int _ _ | exact VQ.bool _ | exact VQ.ptr _ _ | exact VQ.slice _ _ _ | exact VQ.func (by simp [vq_int, vq_ptr, vq_slice]) (by simp [vq_int, vq_ptr, vq_slice]) | exact VQ.agg (by simp [vq_int, vq_ptr, vq_slice]) | exact VQ.tuple (by simp [vq_int, vq_ptr, vq_slice])) ?_
    refine Dr.read (by first | rfl | kernel_rfl) (by first | rfl | (simp only [sev_tmp, sev_const, sev_func, sg_eq, sg_ne, sp_n, sp_none, Nat.reduceLT, ne_eq, Nat.reduceEqDiff, not_false_eq_true, gd, nth, want_free, want_slot, beqB, List.map_cons, List.map_nil, Array.toList_empty, List.nil_append, List.append_nil, List.cons_append, hn]; done) | (simp only [sev_tmp, sev_const, sev_func, sg_eq, sg_ne, sp_n, sp_none, Nat.reduceLT, ne_eq, Nat.reduceEqDiff, not_false_eq_true, gd, nth, want_free, want_slot, beqB, List.map_cons, List.map_nil, Array.toList_empty, List.nil_append, List.append_nil, List.cons_append, hn]; rfl)) (by assumption) (fun M hM => by simp only [sev_tmp, sg_eq, sg_ne, sp_n, Nat.reduceLT, ne_eq, Nat.reduceEqDiff, not_false_eq_true, fx, pck, hn] <;> rfl) (by rfl) (by first | exact VQ.int _ _ | exact VQ.bool _ | exact VQ.ptr _ _ | exact VQ.slice _ _ _ | exact VQ.func (by simp [vq_int, vq_ptr, vq_slice]) (by simp [vq_int, vq_ptr, vq_slice]) | exact VQ.agg (by simp [vq_int, vq_ptr, vq_slice]) | exact VQ.tuple (by simp [vq_int, vq_ptr, vq_slice])) ?_
    refine Dr.read (by first | rfl | kernel_rfl) (by first | rfl | (simp only [sev_tmp, sev_const, sev_func, sg_eq, sg_ne, sp_n, sp_none, Nat.reduceLT, ne_eq, Nat.reduceEqDiff, not_false_eq_true, gd, nth, want_free, want_slot, beqB, List.map_cons, List.map_nil, Array.toList_empty, List.nil_append, List.append_nil, List.cons_append, hn]; done) | (simp only [sev_tmp, sev_const, sev_func, sg_eq, sg_ne, sp_n, sp_none, Nat.reduceLT, ne_eq, Nat.reduceEqDiff, not_false_eq_true, gd, nth, want_free, want_slot, beqB, List.map_cons, List.map_nil, Array.toList_empty, List.nil_append, List.append_nil, List.cons_append, hn]; rfl)) (by assumption) (fun M hM => by simp only [sev_tmp, sg_eq, sp_n, Nat.reduceLT, fx, hn] <;> rfl) (by rfl) (by first | exact VQ.int _ _ | exact VQ.bool _ | exact VQ.ptr _ _ | exact VQ.slice _ _ _ | exact VQ.func (by simp [vq_int, vq_ptr, vq_slice]) (by simp [vq_int, vq_ptr, vq_slice]) | exact VQ.agg (by simp [vq_int, vq_ptr, vq_slice]) | exact VQ.tuple (by simp [vq_int, vq_ptr, vq_slice])) ?_
    by_cases hl0 : ls.length = 0
    · have hd : decide ((0 : Int) < (ls.length : Int)) = false := by rw [hl0]; rfl
      refine Dr.read (by first | rfl | kernel_rfl) (by first | rfl | (simp only [sg_eq, sp_n, Nat.reduceLT, gd, nth, want_slot, beqB, hn]; done) | (simp only [sev_tmp, sev_const, sev_func, sg_eq, sg_ne, sp_n, sp_none, Nat.reduceLT, ne_eq, Nat.reduceEqDiff, not_false_eq_true, gd, nth, want_free, want_slot, beqB, List.map_cons, List.map_nil, Array.toList_empty, List.nil_append, List.append_nil, List.cons_append, hn]; rfl)) (by assumption) (fun M hM => by simp only [sev_tmp, sg_ne, ne_eq, Nat.reduceEqDiff, not_false_eq_true, fx, fad, adr_p, Nat.zero_add, fo24_1, s9] <;> rfl) (by rfl) (by first | exact VQ.int _ _ | exact VQ.bool _ | exact VQ.ptr _ _ | exact VQ.slice _ _ _ | exact VQ.func (by simp [vq_int, vq_ptr, vq_slice]) (by simp [vq_int, vq_ptr, vq_slice]) | exact VQ.agg (by simp [vq_int, vq_ptr, vq_slice]) | exact VQ.tuple (by simp [vq_int, vq_ptr, vq_slice])) ?_
      refine Dr.read (by first | rfl | kernel_rfl) (by first | rfl | (simp only [sg_eq, sg_ne, sp_n, Nat.reduceLT, ne_eq, Nat.reduceEqDiff, not_false_eq_true, gd, nth, want_slot, beqB, hn]; done) | (simp only [sev_tmp, sev_const, sev_func, sg_eq, sg_ne, sp_n, sp_none, Nat.reduceLT, ne_eq, Nat.reduceEqDiff, not_false_eq_true, gd, nth, want_free, want_slot, beqB, List.map_cons, List.map_nil, Array.toList_empty, List.nil_append, List.append_nil, List.cons_append, hn]; rfl)) (by assumption) (fun M hM => by simp only [sev_tmp, sg_eq, sp_n, Nat.reduceLT, fx, ld, adr_p, tk22, hn, E1 M hM] <;> rfl) (by rfl) (by first | exact VQ.int _ _ | exact VQ.bool _ | exact VQ.ptr _ _ | exact VQ.slice _ _ _ | exact VQ.func (by simp [vq_int, vq_ptr, vq_slice]) (by simp [vq_int, vq_ptr, vq_slice]) | exact VQ.agg (by simp [vq_int, vq_ptr, vq_slice]) | exact VQ.tuple (by simp [vq_int, vq_ptr, vq_slice])) ?_
      refine Dr.read (by first | rfl | kernel_rfl) (by first | rfl | (simp only [sg_eq, sg_ne, sp_n, Nat.reduceLT, ne_eq, Nat.reduceEqDiff, not_false_eq_true, gd, nth, want_slot, beqB, hn]; done) | (simp only [sev_tmp, sev_const, sev_func, sg_eq, sg_ne, sp_n, sp_none, Nat.reduceLT, ne_eq, Nat.reduceEqDiff, not_false_eq_true, gd, nth, want_free, want_slot, beqB, List.map_cons, List.map_nil, Array.toList_empty, List.nil_append, List.append_nil, List.cons_append, hn]; rfl)) (by assumption) (fun M hM => by simp only [sev_tmp, sg_eq, sp_n, Nat.reduceLT, fx, lng, un22, hn] <;> rfl) (by rfl) (by first | exact VQ.int _ _ | exact VQ.bool _ | exact VQ.ptr _ _ | exact VQ.slice _ _ _ | exact VQ.func (by simp [vq_int, vq_ptr, vq_slice]) (by simp [vq_int, vq_ptr, vq_slice]) | exact VQ.agg (by simp [vq_int, vq_ptr, vq_slice]) | exact VQ.tuple (by simp [vq_int, vq_ptr, vq_slice])) ?_
      refine Dr.read (by first | rfl | kernel_rfl) (by first | rfl | (simp only [sg_eq, sg_ne, sp_n, Nat.reduceLT, ne_eq, Nat.reduceEqDiff, not_false_eq_true, gd, nth, want_slot, beqB, hn]; done) | (simp only [sev_tmp, sev_const, sev_func, sg_eq, sg_ne, sp_n, sp_none, Nat.reduceLT, ne_eq, Nat.reduceEqDiff, not_false_eq_true, gd, nth, want_free, want_slot, beqB, List.map_cons, List.map_nil, Array.toList_empty, List.nil_append, List.append_nil, List.cons_append, hn]; rfl)) (by assumption) (fun M hM => by simp only [sev_tmp, sev_const, sg_eq, sp_n, Nat.reduceLT, fx, bin_gtr, hn, hd] <;> rfl) (by rfl) (by first | exact VQ.int _ _ | exact VQ.bool _ | exact VQ.ptr _ _ | exact VQ.slice _ _ _ | exact VQ.func (by simp [vq_int, vq_ptr, vq_slice]) (by simp [vq_int, vq_ptr, vq_slice]) | exact VQ.agg (by simp [vq_int, vq_ptr, vq_slice]) | exact VQ.tuple (by simp [vq_int, vq_ptr, vq_slice])) ?_
      refine Dr.read (by first | rfl | kernel_rfl) (by first | rfl | (simp only [sg_eq, sg_ne, sp_n, Nat.reduceLT, ne_eq, Nat.reduceEqDiff, not_false_eq_true, gd, nth, want_slot, beqB, hn]; done) | (simp only [sev_tmp, sev_const, sev_func, sg_eq, sg_ne, sp_n, sp_none, Nat.reduceLT, ne_eq, Nat.reduceEqDiff, not_false_eq_true, gd, nth, want_free, want_slot, beqB, List.map_cons, List.map_nil, Array.toList_empty, List.nil_append, List.append_nil, List.cons_append, hn]; rfl)) (by assumption) (fun M hM => by simp only [sev_tmp, sg_eq, sp_n, Nat.reduceLT, fx, hn] <;> rfl) (by rfl) (by first | exact VQ.int _ _ | exact VQ.bool _ | exact VQ.ptr _ _ | exact VQ.slice _ _ _ | exact VQ.func (by simp [vq_int, vq_ptr, vq_slice]) (by simp [vq_int, vq_ptr, vq_slice]) | exact VQ.agg (by simp [vq_int, vq_ptr, vq_slice]) | exact VQ.tuple (by simp [vq_int, vq_ptr, vq_slice])) ?_
      refine Dr.skip (by first | rfl | kernel_rfl) (by first | rfl | (simp only [sg_eq, sp_n, Nat.reduceLT, gd, nth, want_slot, beqB, hn]; done) | (simp only [sev_tmp, sev_const, sev_func, sg_eq, sg_ne, sp_n, sp_none, Nat.reduceLT, ne_eq, Nat.reduceEqDiff, not_false_eq_true, gd, nth, want_free, want_slot, beqB, List.map_cons, List.map_nil, Array.toList_empty, List.nil_append, List.append_nil, List.cons_append, hn]; rfl)) ?_
      refine Dr.skip (by first | rfl | kernel_rfl) (by first | rfl | (simp only [sg_eq, sg_ne, sp_n, Nat.reduceLT, ne_eq, Nat.reduceEqDiff, not_false_eq_true, gd, nth, want_slot, beqB, hn]; done) | (simp only [sev_tmp, sev_const, sev_func, sg_eq, sg_ne, sp_n, sp_none, Nat.reduceLT, ne_eq, Nat.reduceEqDiff, not_false_eq_true, gd, nth, want_free, want_slot, beqB, List.map_cons, List.map_nil, Array.toList_empty, List.nil_append, List.append_nil, List.cons_append, hn]; rfl)) ?_
      refine Dr.skip (by first | rfl | kernel_rfl) (by first | rfl | (simp only [sg_eq, sg_ne, sp_n, Nat.reduceLT, ne_eq, Nat.reduceEqDiff, not_false_eq_true, gd, nth, want_slot, beqB, hn]; done) | (simp only [sev_tmp, sev_const, sev_func, sg_eq, sg_ne, sp_n, sp_none, Nat.reduceLT, ne_eq, Nat.reduceEqDiff, not_false_eq_true, gd, nth, want_free, want_slot, beqB, List.map_cons, List.map_nil, Array.toList_empty, List.nil_append, List.append_nil, List.cons_append, hn]; rfl)) ?_
      refine Dr.skip (by first | rfl | kernel_rfl) (by first | rfl | (simp only [sg_eq, sg_ne, sp_n, Nat.reduceLT, ne_eq, Nat.reduceEqDiff, not_false_eq_true, gd, nth, want_slot, beqB, hn]; done) | (simp only [sev_tmp, sev_const, sev_func, sg_eq, sg_ne, sp_n, sp_none, Nat.reduceLT, ne_eq, Nat.reduceEqDiff, not_false_eq_true, gd, nth, want_free, want_slot, beqB, List.map_cons, List.map_nil, Array.toList_empty, List.nil_append, List.append_nil, List.cons_append, hn]; rfl)) ?_
      refine Dr.skip (by first | rfl | kernel_rfl) (by first | rfl | (simp only [sg_eq, sg_ne, sp_n, Nat.reduceLT, ne_eq, Nat.reduceEqDiff, not_false_eq_true, gd, nth, want_slot, beqB, hn]; done) | (simp only [sev_tmp, sev_const, sev_func, sg_eq, sg_ne, sp_n, sp_none, Nat.reduceLT, ne_eq, Nat.reduceEqDiff, not_false_eq_true, gd, nth, want_free, want_slot, beqB, List.map_cons, List.map_nil, Array.toList_empty, List.nil_append, List.append_nil, List.cons_append, hn]; rfl)) ?_
      refine Dr.skip (by first | rfl | kernel_rfl) (by first | rfl | (simp only [sg_eq, sg_ne, sp_n, Nat.reduceLT, ne_eq, Nat.reduceEqDiff, not_false_eq_true, gd, nth, want_slot, beqB, hn]; done) | (simp only [sev_tmp, sev_const, sev_func, sg_eq, sg_ne, sp_n, sp_none, Nat.reduceLT, ne_eq, Nat.reduceEqDiff, not_false_eq_true, gd, nth, want_free, want_slot, beqB, List.map_cons, List.map_nil, Array.toList_empty, List.nil_append, List.append_nil, List.cons_append, hn]; rfl)) ?_
      refine Dr.skip (by first | rfl | kernel_rfl) (by first | rfl | (simp only [sg_eq, sg_ne, sp_n, Nat.reduceLT, ne_eq, Nat.reduceEqDiff, not_false_eq_true, gd, nth, want_slot, beqB, hn]; done) | (simp only [sev_tmp, sev_const, sev_func, sg_eq, sg_ne, sp_n, sp_none, Nat.reduceLT, ne_eq, Nat.reduceEqDiff, not_false_eq_true, gd, nth, want_free, want_slot, beqB, List.map_cons, List.map_nil, Array.toList_empty, List.nil_append, List.append_nil, List.cons_append, hn]; rfl)) ?_
      refine Dr.skip (by first | rfl | kernel_rfl) (by first | rfl | (simp only [sg_eq, sg_ne, sp_n, Nat.reduceLT, ne_eq, Nat.reduceEqDiff, not_false_eq_true, gd, nth, want_slot, beqB, hn]; done) | (simp only [sev_tmp, sev_const, sev_func, sg_eq, sg_ne, sp_n, sp_none, Nat.reduceLT, ne_eq, Nat.reduceEqDiff, not_false_eq_true, gd, nth, want_free, want_slot, beqB, List.map_cons, List.map_nil, Array.toList_empty, List.nil_append, List.append_nil, List.cons_append, hn]; rfl)) ?_
      refine Dr.skip (by first | rfl | kernel_rfl) (by first | rfl | (simp only [sg_eq, sg_ne, sp_n, Nat.reduceLT, ne_eq, Nat.reduceEqDiff, not_false_eq_true, gd, nth, want_slot, beqB, hn]; done) | (simp only [sev_tmp, sev_const, sev_func, sg_eq, sg_ne, sp_n, sp_none, Nat.reduceLT, ne_eq, Nat.reduceEqDiff, not_false_eq_true, gd, nth, want_free, want_slot, beqB, List.map_cons, List.map_nil, Array.toList_empty, List.nil_append, List.append_nil, List.cons_append, hn]; rfl)) ?_
      refine Dr.skip (by first | rfl | kernel_rfl) (by first | rfl | (simp only [sg_eq, sg_ne, sp_n, Nat.reduceLT, ne_eq, Nat.reduceEqDiff, not_false_eq_true, gd, nth, want_slot, beqB, hn]; done) | (simp only [sev_tmp, sev_const, sev_func, sg_eq, sg_ne, sp_n, sp_none, Nat.reduceLT, ne_eq, Nat.reduceEqDiff, not_false_eq_true, gd, nth, want_free, want_slot, beqB, List.map_cons, List.map_nil, Array.toList_empty, List.nil_append, List.append_nil, List.cons_append, hn]; rfl)) ?_
      refine Dr.skip (by first | rfl | kernel_rfl) (by first | rfl | (simp only [sg_eq, sg_ne, sp_n, Nat.reduceLT, ne_eq, Nat.reduceEqDiff, not_false_eq_true, gd, nth, want_slot, beqB, hn]; done) | (simp only [sev_tmp, sev_const, sev_func, sg_eq, sg_ne, sp_n, sp_none, Nat.reduceLT, ne_eq, Nat.reduceEqDiff, not_false_eq_true, gd, nth, want_free, want_slot, beqB, List.map_cons, List.map_nil, Array.toList_empty, List.nil_append, List.append_nil, List.cons_append, hn]; rfl)) ?_
      refine Dr.skip (by first | rfl | kernel_rfl) (by first | rfl | (simp only [sg_eq, sg_ne, sp_n, Nat.reduceLT, ne_eq, Nat.reduceEqDiff, not_false_eq_true, gd, nth, want_slot, beqB, hn]; done) | (simp only [sev_tmp, sev_const, sev_func, sg_eq, sg_ne, sp_n, sp_none, Nat.reduceLT, ne_eq, Nat.reduceEqDiff, not_false_eq_true, gd, nth, want_free, want_slot, beqB, List.map_cons, List.map_nil, Array.toList_empty, List.nil_append, List.append_nil, List.cons_append, hn]; rfl)) ?_
      refine Dr.skip (by first | rfl | kernel_rfl) (by first | rfl | (simp only [sg_eq, sg_ne, sp_n, Nat.reduceLT, ne_eq, Nat.reduceEqDiff, not_false_eq_true, gd, nth, want_slot, beqB, hn]; done) | (simp only [sev_tmp, sev_const, sev_func, sg_eq, sg_ne, sp_n, sp_none, Nat.reduceLT, ne_eq, Nat.reduceEqDiff, not_false_eq_true, gd, nth, want_free, want_slot, beqB, List.map_cons, List.map_nil, Array.toList_empty, List.nil_append, List.append_nil, List.cons_append, hn]; rfl)) ?_
      refine Dr.skip (by first | rfl | kernel_rfl) (by first | rfl | (simp only [sg_eq, sg_ne, sp_n, Nat.reduceLT, ne_eq, Nat.reduceEqDiff, not_false_eq_true, gd, nth, want_slot, beqB, hn]; done) | (simp only [sev_tmp, sev_const, sev_func, sg_eq, sg_ne, sp_n, sp_none, Nat.reduceLT, ne_eq, Nat.reduceEqDiff, not_false_eq_true, gd, nth, want_free, want_slot, beqB, List.map_cons, List.map_nil, Array.toList_empty, List.nil_append, List.append_nil, List.cons_append, hn]; rfl)) ?_
      refine Dr.skip (by first | rfl | kernel_rfl) (by first | rfl | (simp only [sg_eq, sg_ne, sp_n, Nat.reduceLT, ne_eq, Nat.reduceEqDiff, not_false_eq_true, gd, nth, want_slot, beqB, hn]; done) | (simp only [sev_tmp, sev_const, sev_func, sg_eq, sg_ne, sp_n, sp_none, Nat.reduceLT, ne_eq, Nat.reduceEqDiff, not_false_eq_true, gd, nth, want_free, want_slot, beqB, List.map_cons, List.map_nil, Array.toList_empty, List.nil_append, List.append_nil, List.cons_append, hn]; rfl)) ?_
      refine Dr.skip (by first | rfl | kernel_rfl) (by first | rfl | (simp only [sg_eq, sg_ne, sp_n, Nat.reduceLT, ne_eq, Nat.reduceEqDiff, not_false_eq_true, gd, nth, want_slot, beqB, hn]; done) | (simp only [sev_tmp, sev_const, sev_func, sg_eq, sg_ne, sp_n, sp_none, Nat.reduceLT, ne_eq, Nat.reduceEqDiff, not_false_eq_true, gd, nth, want_free, want_slot, beqB, List.map_cons, List.map_nil, Array.toList_empty, List.nil_append, List.append_nil, List.cons_append, hn]; rfl)) ?_
      refine Dr.skip (by first | rfl | kernel_rfl) (by first | rfl | (simp only [sg_eq, sg_ne, sp_n, Nat.reduceLT, ne_eq, Nat.reduceEqDiff, not_false_eq_true, gd, nth, want_slot, beqB, hn]; done) | (simp only [sev_tmp, sev_const, sev_func, sg_eq, sg_ne, sp_n, sp_none, Nat.reduceLT, ne_eq, Nat.reduceEqDiff, not_false_eq_true, gd, nth, want_free, want_slot, beqB, List.map_cons, List.map_nil, Array.toList_empty, List.nil_append, List.append_nil, List.cons_append, hn]; rfl)) ?_
      refine Dr.read (by first | rfl | kernel_rfl) (by first | rfl | (simp only [sg_eq, sg_ne, sp_n, Nat.reduceLT, ne_eq, Nat.reduceEqDiff, not_false_eq_true, gd, nth, want_slot, beqB, hn]; done) | (simp only [sev_tmp, sev_const, sev_func, sg_eq, sg_ne, sp_n, sp_none, Nat.reduceLT, ne_eq, Nat.reduceEqDiff, not_false_eq_true, gd, nth, want_free, want_slot, beqB, List.map_cons, List.map_nil, Array.toList_empty, List.nil_append, List.append_nil, List.cons_append, hn]; rfl)) (by assumption) (fun M hM => by simp only [sev_tmp, sev_const, sg_eq, sg_ne, sp_n, Nat.reduceLT, ne_eq, Nat.reduceEqDiff, not_false_eq_true, fx, pck, hn] <;> rfl) (by rfl) (by first | exact VQ.int _ _ | exact VQ.bool _ | exact VQ.ptr _ _ | exact VQ.slice _ _ _ | exact VQ.func (by simp [vq_int, vq_ptr, vq_slice]) (by simp [vq_int, vq_ptr, vq_slice]) | exact VQ.agg (by simp [vq_int, vq_ptr, vq_slice]) | exact VQ.tuple (by simp [vq_int, vq_ptr, vq_slice])) ?_
      refine Dr.read (by first | rfl | kernel_rfl) (by first | rfl | (simp only [sev_tmp, sev_const, sev_func, sg_eq, sg_ne, sp_n, sp_none, Nat.reduceLT, ne_eq, Nat.reduceEqDiff, not_false_eq_true, gd, nth, want_free, want_slot, beqB, List.map_cons, List.map_nil, Array.toList_empty, List.nil_append, List.append_nil, List.cons_append, hn]; done) | (simp only [sev_tmp, sev_const, sev_func, sg_eq, sg_ne, sp_n, sp_none, Nat.reduceLT, ne_eq, Nat.reduceEqDiff, not_false_eq_true, gd, nth, want_free, want_slot, beqB, List.map_cons, List.map_nil, Array.toList_empty, List.nil_append, List.append_nil, List.cons_append, hn]; rfl)) (by assumption) (fun M hM => by simp only [sev_tmp, sg_eq, sg_ne, sp_n, Nat.reduceLT, ne_eq, Nat.reduceEqDiff, not_false_eq_true, fx, pck, hn] <;> rfl) (by rfl) (by first | exact VQ.int _ _ | exact VQ.bool _ | exact VQ.ptr _ _ | exact VQ.slice _ _ _ | exact VQ.func (by simp [vq_int, vq_ptr, vq_slice]) (by simp [vq_int, vq_ptr, vq_slice]) | exact VQ.agg (by simp [vq_int, vq_ptr, vq_slice]) | exact VQ.tuple (by simp [vq_int, vq_ptr, vq_slice])) ?_
      refine Dr.nil (by rfl) (fun M hM => by cases hM) F3 ⟨C3, by rfl, ?_⟩
      (repeat (first | refine Rn.seq hc ?_ | refine Rn.skip hc ?_ | refine Rn.block hc ?_ | refine Rn.inBlock hc ?_ | refine Rn.scope hc ?_ | refine Rn.inScope hc ?_))
      refine Rn.condE hc rfl ?_
      simp only [sev_tmp, sg_eq, sp_n, Nat.reduceLT, Value.bool.injEq, exists_eq_left', hn]
      (repeat (first | refine Rn.seq hc ?_ | refine Rn.skip hc ?_ | refine Rn.block hc ?_ | refine Rn.inBlock hc ?_ | refine Rn.scope hc ?_ | refine Rn.inScope hc ?_))
      exact Rn.fall ⟨rfl, hC3, by simp only [sp_n, hn], by simp only [sg_ne, ne_eq, Nat.reduceEqDiff, not_false_eq_true, s2], by simp only [sg_ne, ne_eq, Nat.reduceEqDiff, not_false_eq_true, s8], by simp only [sg_ne, ne_eq, Nat.reduceEqDiff, not_false_eq_true, s9]⟩
    · have hd : decide ((0 : Int) < (ls.length : Int)) = true := decide_eq_true (Int.natCast_pos.2 (Nat.pos_of_ne_zero hl0))
      have hll : ls.length - 1 < ls.length := by omega
      have hp1 : 0 < lro.length := hred.per.pos
      have hrl : lro.length - 1 < lro.length := by omega
      obtain ⟨bb, o, rfl, _, hb1, hcl⟩ := z1 (ls.length - 1) hll
      obtain ⟨bb', o', rfl, _, hb2, hcl'⟩ := z2 (lro.length - 1) hrl
      have hw1 : IntKind.i64.wrap ((ls.length : Int) - 1) = ((ls.length - 1 : Nat) : Int) := wrap_pred (Nat.pos_of_ne_zero hl0) (Nat.le_trans ha0 (Nat.le_trans hst (by decide)))
      have hw2 : IntKind.i64.wrap ((lro.length : Int) - 1) = ((lro.length - 1 : Nat) : Int) := wrap_pred hp1 (Nat.le_trans hp (Nat.le_trans hro2 (by decide)))
      have hne : ls.getD (ls.length - 1) 0 ≠ lro.getD (lro.length - 1) 0 := fun hh => by
        have q1 : ls.getD (ls.length - 1) 0 = atL st ro (ls.length - 1) := by
          rw [← redS_get (s := atL st ro) hll, hLs]
        have q2 : lro.getD (lro.length - 1) 0 = atL st ro (ls.length - 1 + lro.length) := by
          have := redR_get (s := atL st ro) (a := ls.length) hrl
          rw [hLr] at this
          rw [this]
          congr 1
          omega
        have hper : Per (atL st ro) (ls.length - 1) lro.length := Per.back (by rw [show ls.length - 1 + 1 = ls.length by omega]; exact hred.per) (by rw [← q1, hh, q2])
        have := hred.minA _ hper
        omega
      have hdq : decide (ls.getD (ls.length - 1) 0 = lro.getD (lro.length - 1) 0) = false := decide_eq_false hne
      have H1 := fun M hM => (hFc M hM _ hb1 (o + (ls.length - 1))).trans hcl
      have H2 := fun M hM => (hFc M hM _ hb2 (o' + (lro.length - 1))).trans hcl'
      refine Dr.read (by first | rfl | kernel_rfl) (by first | rfl | (simp only [sg_eq, sp_n, Nat.reduceLT, gd, nth, want_slot, beqB, hn]; done) | (simp only [sev_tmp, sev_const, sev_func, sg_eq, sg_ne, sp_n, sp_none, Nat.reduceLT, ne_eq, Nat.reduceEqDiff, not_false_eq_true, gd, nth, want_free, want_slot, beqB, List.map_cons, List.map_nil, Array.toList_empty, List.nil_append, List.append_nil, List.cons_append, hn]; rfl)) (by assumption) (fun M hM => by simp only [sev_tmp, sg_ne, ne_eq, Nat.reduceEqDiff, not_false_eq_true, fx, fad, adr_p, Nat.zero_add, fo24_1, s9] <;> rfl) (by rfl) (by first | exact VQ.int _ _ | exact VQ.bool _ | exact VQ.ptr _ _ | exact VQ.slice _ _ _ | exact VQ.func (by simp [vq_int, vq_ptr, vq_slice]) (by simp [vq_int, vq_ptr, vq_slice]) | exact VQ.agg (by simp [vq_int, vq_ptr, vq_slice]) | exact VQ.tuple (by simp [vq_int, vq_ptr, vq_slice])) ?_
      refine Dr.read (by first | rfl | kernel_rfl) (by first | rfl | (simp only [sg_eq, sg_ne, sp_n, Nat.reduceLT, ne_eq, Nat.reduceEqDiff, not_false_eq_true, gd, nth, want_slot, beqB, hn]; done) | (simp only [sev_tmp, sev_const, sev_func, sg_eq, sg_ne, sp_n, sp_none, Nat.reduceLT, ne_eq, Nat.reduceEqDiff, not_false_eq_true, gd, nth, want_free, want_slot, beqB, List.map_cons, List.map_nil, Array.toList_empty, List.nil_append, List.append_nil, List.cons_append, hn]; rfl)) (by assumption) (fun M hM => by simp only [sev_tmp, sg_eq, sp_n, Nat.reduceLT, fx, ld, adr_p, tk22, hn, E1 M hM] <;> rfl) (by rfl) (by first | exact VQ.int _ _ | exact VQ.bool _ | exact VQ.ptr _ _ | exact VQ.slice _ _ _ | exact VQ.func (by simp [vq_int, vq_ptr, vq_slice]) (by simp [vq_int, vq_ptr, vq_slice]) | exact VQ.agg (by simp [vq_int, vq_ptr, vq_slice]) | exact VQ.tuple (by simp [vq_int, vq_ptr, vq_slice])) ?_
      refine Dr.read (by first | rfl | kernel_rfl) (by first | rfl | (simp only [sg_eq, sg_ne, sp_n, Nat.reduceLT, ne_eq, Nat.reduceEqDiff, not_false_eq_true, gd, nth, want_slot, beqB, hn]; done) | (simp only [sev_tmp, sev_const, sev_func, sg_eq, sg_ne, sp_n, sp_none, Nat.reduceLT, ne_eq, Nat.reduceEqDiff, not_false_eq_true, gd, nth, want_free, want_slot, beqB, List.map_cons, List.map_nil, Array.toList_empty, List.nil_append, List.append_nil, List.cons_append, hn]; rfl)) (by assumption) (fun M hM => by simp only [sev_tmp, sg_eq, sp_n, Nat.reduceLT, fx, lng, un22, hn] <;> rfl) (by rfl) (by first | exact VQ.int _ _ | exact VQ.bool _ | exact VQ.ptr _ _ | exact VQ.slice _ _ _ | exact VQ.func (by simp [vq_int, vq_ptr, vq_slice]) (by simp [vq_int, vq_ptr, vq_slice]) | exact VQ.agg (by simp [vq_int, vq_ptr, vq_slice]) | exact VQ.tuple (by simp [vq_int, vq_ptr, vq_slice])) ?_
      refine Dr.read (by first | rfl | kernel_rfl) (by first | rfl | (simp only [sg_eq, sg_ne, sp_n, Nat.reduceLT, ne_eq, Nat.reduceEqDiff, not_false_eq_true, gd, nth, want_slot, beqB, hn]; done) | (simp only [sev_tmp, sev_const, sev_func, sg_eq, sg_ne, sp_n, sp_none, Nat.reduceLT, ne_eq, Nat.reduceEqDiff, not_false_eq_true, gd, nth, want_free, want_slot, beqB, List.map_cons, List.map_nil, Array.toList_empty, List.nil_append, List.append_nil, List.cons_append, hn]; rfl)) (by assumption) (fun M hM => by simp only [sev_tmp, sev_const, sg_eq, sp_n, Nat.reduceLT, fx, bin_gtr, hn, hd] <;> rfl) (by rfl) (by first | exact VQ.int _ _ | exact VQ.bool _ | exact VQ.ptr _ _ | exact VQ.slice _ _ _ | exact VQ.func (by simp [vq_int, vq_ptr, vq_slice]) (by simp [vq_int, vq_ptr, vq_slice]) | exact VQ.agg (by simp [vq_int, vq_ptr, vq_slice]) | exact VQ.tuple (by simp [vq_int, vq_ptr, vq_slice])) ?_
      refine Dr.read (by first | rfl | kernel_rfl) (by first | rfl | (simp only [sg_eq, sg_ne, sp_n, Nat.reduceLT, ne_eq, Nat.reduceEqDiff, not_false_eq_true, gd, nth, want_slot, beqB, hn]; done) | (simp only [sev_tmp, sev_const, sev_func, sg_eq, sg_ne, sp_n, sp_none, Nat.reduceLT, ne_eq, Nat.reduceEqDiff, not_false_eq_true, gd, nth, want_free, want_slot, beqB, List.map_cons, List.map_nil, Array.toList_empty, List.nil_append, List.append_nil, List.cons_append, hn]; rfl)) (by assumption) (fun M hM => by simp only [sev_tmp, sg_eq, sp_n, Nat.reduceLT, fx, hn] <;> rfl) (by rfl) (by first | exact VQ.int _ _ | exact VQ.bool _ | exact VQ.ptr _ _ | exact VQ.slice _ _ _ | exact VQ.func (by simp [vq_int, vq_ptr, vq_slice]) (by simp [vq_int, vq_ptr, vq_slice]) | exact VQ.agg (by simp [vq_int, vq_ptr, vq_slice]) | exact VQ.tuple (by simp [vq_int, vq_ptr, vq_slice])) ?_
      refine Dr.read (by first | rfl | kernel_rfl) (by first | rfl | (simp only [sg_eq, sp_n, Nat.reduceLT, gd, nth, want_slot, beqB, hn]; done) | (simp only [sev_tmp, sev_const, sev_func, sg_eq, sg_ne, sp_n, sp_none, Nat.reduceLT, ne_eq, Nat.reduceEqDiff, not_false_eq_true, gd, nth, want_free, want_slot, beqB, List.map_cons, List.map_nil, Array.toList_empty, List.nil_append, List.append_nil, List.cons_append, hn]; rfl)) (by assumption) (fun M hM => by simp only [sev_tmp, sg_ne, ne_eq, Nat.reduceEqDiff, not_false_eq_true, fx, fad, adr_p, Nat.zero_add, fo24_1, s9] <;> rfl) (by rfl) (by first | exact VQ.int _ _ | exact VQ.bool _ | exact VQ.ptr _ _ | exact VQ.slice _ _ _ | exact VQ.func (by simp [vq_int, vq_ptr, vq_slice]) (by simp [vq_int, vq_ptr, vq_slice]) | exact VQ.agg (by simp [vq_int, vq_ptr, vq_slice]) | exact VQ.tuple (by simp [vq_int, vq_ptr, vq_slice])) ?_
      refine Dr.read (by first | rfl | kernel_rfl) (by first | rfl | (simp only [sg_eq, sg_ne, sp_n, Nat.reduceLT, ne_eq, Nat.reduceEqDiff, not_false_eq_true, gd, nth, want_slot, beqB, hn]; done) | (simp only [sev_tmp, sev_const, sev_func, sg_eq, sg_ne, sp_n, sp_none, Nat.reduceLT, ne_eq, Nat.reduceEqDiff, not_false_eq_true, gd, nth, want_free, want_slot, beqB, List.map_cons, List.map_nil, Array.toList_empty, List.nil_append, List.append_nil, List.cons_append, hn]; rfl)) (by assumption) (fun M hM => by simp only [sev_tmp, sg_eq, sp_n, Nat.reduceLT, fx, ld, adr_p, tk22, hn, E1 M hM] <;> rfl) (by rfl) (by first | exact VQ.int _ _ | exact VQ.bool _ | exact VQ.ptr _ _ | exact VQ.slice _ _ _ | exact VQ.func (by simp [vq_int, vq_ptr, vq_slice]) (by simp [vq_int, vq_ptr, vq_slice]) | exact VQ.agg (by simp [vq_int, vq_ptr, vq_slice]) | exact VQ.tuple (by simp [vq_int, vq_ptr, vq_slice])) ?_
      refine Dr.read (by first | rfl | kernel_rfl) (by first | rfl | (simp only [sg_eq, sg_ne, sp_n, Nat.reduceLT, ne_eq, Nat.reduceEqDiff, not_false_eq_true, gd, nth, want_slot, beqB, hn]; done) | (simp only [sev_tmp, sev_const, sev_func, sg_eq, sg_ne, sp_n, sp_none, Nat.reduceLT, ne_eq, Nat.reduceEqDiff, not_false_eq_true, gd, nth, want_free, want_slot, beqB, List.map_cons, List.map_nil, Array.toList_empty, List.nil_append, List.append_nil, List.cons_append, hn]; rfl)) (by assumption) (fun M hM => by simp only [sev_tmp, sg_ne, ne_eq, Nat.reduceEqDiff, not_false_eq_true, fx, fad, adr_p, Nat.zero_add, fo24_1, s9] <;> rfl) (by rfl) (by first | exact VQ.int _ _ | exact VQ.bool _ | exact VQ.ptr _ _ | exact VQ.slice _ _ _ | exact VQ.func (by simp [vq_int, vq_ptr, vq_slice]) (by simp [vq_int, vq_ptr, vq_slice]) | exact VQ.agg (by simp [vq_int, vq_ptr, vq_slice]) | exact VQ.tuple (by simp [vq_int, vq_ptr, vq_slice])) ?_
      refine Dr.read (by first | rfl | kernel_rfl) (by first | rfl | (simp only [sg_eq, sg_ne, sp_n, Nat.reduceLT, ne_eq, Nat.reduceEqDiff, not_false_eq_true, gd, nth, want_slot, beqB, hn]; done) | (simp only [sev_tmp, sev_const, sev_func, sg_eq, sg_ne, sp_n, sp_none, Nat.reduceLT, ne_eq, Nat.reduceEqDiff, not_false_eq_true, gd, nth, want_free, want_slot, beqB, List.map_cons, List.map_nil, Array.toList_empty, List.nil_append, List.append_nil, List.cons_append, hn]; rfl)) (by assumption) (fun M hM => by simp only [sev_tmp, sg_eq, sp_n, Nat.reduceLT, fx, ld, adr_p, tk22, hn, E1 M hM] <;> rfl) (by rfl) (by first | exact VQ.int _ _ | exact VQ.bool _ | exact VQ.ptr _ _ | exact VQ.slice _ _ _ | exact VQ.func (by simp [vq_int, vq_ptr, vq_slice]) (by simp [vq_int, vq_ptr, vq_slice]) | exact VQ.agg (by simp [vq_int, vq_ptr, vq_slice]) | exact VQ.tuple (by simp [vq_int, vq_ptr, vq_slice])) ?_
      refine Dr.read (by first | rfl | kernel_rfl) (by first | rfl | (simp only [sg_eq, sg_ne, sp_n, Nat.reduceLT, ne_eq, Nat.reduceEqDiff, not_false_eq_true, gd, nth, want_slot, beqB, hn]; done) | (simp only [sev_tmp, sev_const, sev_func, sg_eq, sg_ne, sp_n, sp_none, Nat.reduceLT, ne_eq, Nat.reduceEqDiff, not_false_eq_true, gd, nth, want_free, want_slot, beqB, List.map_cons, List.map_nil, Array.toList_empty, List.nil_append, List.append_nil, List.cons_append, hn]; rfl)) (by assumption) (fun M hM => by simp only [sev_tmp, sg_eq, sp_n, Nat.reduceLT, fx, lng, un22, hn] <;> rfl) (by rfl) (by first | exact VQ.int _ _ | exact VQ.bool _ | exact VQ.ptr _ _ | exact VQ.slice _ _ _ | exact VQ.func (by simp [vq_int, vq_ptr, vq_slice]) (by simp [vq_int, vq_ptr, vq_slice]) | exact VQ.agg (by simp [vq_int, vq_ptr, vq_slice]) | exact VQ.tuple (by simp [vq_int, vq_ptr, vq_slice])) ?_
      refine Dr.read (by first | rfl | kernel_rfl) (by first | rfl | (simp only [sg_eq, sg_ne, sp_n, Nat.reduceLT, ne_eq, Nat.reduceEqDiff, not_false_eq_true, gd, nth, want_slot, beqB, hn]; done) | (simp only [sev_tmp, sev_const, sev_func, sg_eq, sg_ne, sp_n, sp_none, Nat.reduceLT, ne_eq, Nat.reduceEqDiff, not_false_eq_true, gd, nth, want_free, want_slot, beqB, List.map_cons, List.map_nil, Array.toList_empty, List.nil_append, List.append_nil, List.cons_append, hn]; rfl)) (by assumption) (fun M hM => by simp only [sev_tmp, sev_const, sg_eq, sp_n, Nat.reduceLT, fx, bin_sub, hn, hw1] <;> rfl) (by rfl) (by first | exact VQ.int _ _ | exact VQ.bool _ | exact VQ.ptr _ _ | exact VQ.slice _ _ _ | exact VQ.func (by simp [vq_int, vq_ptr, vq_slice]) (by simp [vq_int, vq_ptr, vq_slice]) | exact VQ.agg (by simp [vq_int, vq_ptr, vq_slice]) | exact VQ.tuple (by simp [vq_int, vq_ptr, vq_slice])) ?_
      refine Dr.read (by first | rfl | kernel_rfl) (by first | rfl | (simp only [sg_eq, sg_ne, sp_n, Nat.reduceLT, ne_eq, Nat.reduceEqDiff, not_false_eq_true, gd, nth, want_slot, beqB, hn]; done) | (simp only [sev_tmp, sev_const, sev_func, sg_eq, sg_ne, sp_n, sp_none, Nat.reduceLT, ne_eq, Nat.reduceEqDiff, not_false_eq_true, gd, nth, want_free, want_slot, beqB, List.map_cons, List.map_nil, Array.toList_empty, List.nil_append, List.append_nil, List.cons_append, hn]; rfl)) (by assumption) (fun M hM => by simp only [sev_tmp, sg_eq, sg_ne, sp_n, Nat.reduceLT, ne_eq, Nat.reduceEqDiff, not_false_eq_true, fx, idx, Nat.mul_one, eo22, hn, nlen_nat hll] <;> rfl) (by rfl) (by first | exact VQ.int _ _ | exact VQ.bool _ | exact VQ.ptr _ _ | exact VQ.slice _ _ _ | exact VQ.func (by simp [vq_int, vq_ptr, vq_slice]) (by simp [vq_int, vq_ptr, vq_slice]) | exact VQ.agg (by simp [vq_int, vq_ptr, vq_slice]) | exact VQ.tuple (by simp [vq_int, vq_ptr, vq_slice])) ?_
      refine Dr.read (by first | rfl | kernel_rfl) (by first | rfl | (simp only [sg_eq, sg_ne, sp_n, Nat.reduceLT, ne_eq, Nat.reduceEqDiff, not_false_eq_true, gd, nth, want_slot, beqB, hn]; done) | (simp only [sev_tmp, sev_const, sev_func, sg_eq, sg_ne, sp_n, sp_none, Nat.reduceLT, ne_eq, Nat.reduceEqDiff, not_false_eq_true, gd, nth, want_free, want_slot, beqB, List.map_cons, List.map_nil, Array.toList_empty, List.nil_append, List.append_nil, List.cons_append, hn]; rfl)) (by assumption) (fun M hM => by simp only [sev_tmp, sg_eq, sp_n, Nat.reduceLT, fx, ld, adr_p, tk3, hn, H1 M hM] <;> rfl) (by rfl) (by first | exact VQ.int _ _ | exact VQ.bool _ | exact VQ.ptr _ _ | exact VQ.slice _ _ _ | exact VQ.func (by simp [vq_int, vq_ptr, vq_slice]) (by simp [vq_int, vq_ptr, vq_slice]) | exact VQ.agg (by simp [vq_int, vq_ptr, vq_slice]) | exact VQ.tuple (by simp [vq_int, vq_ptr, vq_slice])) ?_
      refine Dr.read (by first | rfl | kernel_rfl) (by first | rfl | (simp only [sg_eq, sg_ne, sp_n, Nat.reduceLT, ne_eq, Nat.reduceEqDiff, not_false_eq_true, gd, nth, want_slot, beqB, hn]; done) | (simp only [sev_tmp, sev_const, sev_func, sg_eq, sg_ne, sp_n, sp_none, Nat.reduceLT, ne_eq, Nat.reduceEqDiff, not_false_eq_true, gd, nth, want_free, want_slot, beqB, List.map_cons, List.map_nil, Array.toList_empty, List.nil_append, List.append_nil, List.cons_append, hn]; rfl)) (by assumption) (fun M hM => by simp only [sev_tmp, sg_ne, ne_eq, Nat.reduceEqDiff, not_false_eq_true, fx, fad, adr_p, Nat.zero_add, fo24_2, s9] <;> rfl) (by rfl) (by first | exact VQ.int _ _ | exact VQ.bool _ | exact VQ.ptr _ _ | exact VQ.slice _ _ _ | exact VQ.func (by simp [vq_int, vq_ptr, vq_slice]) (by simp [vq_int, vq_ptr, vq_slice]) | exact VQ.agg (by simp [vq_int, vq_ptr, vq_slice]) | exact VQ.tuple (by simp [vq_int, vq_ptr, vq_slice])) ?_
      refine Dr.read (by first | rfl | kernel_rfl) (by first | rfl | (simp only [sg_eq, sg_ne, sp_n, Nat.reduceLT, ne_eq, Nat.reduceEqDiff, not_false_eq_true, gd, nth, want_slot, beqB, hn]; done) | (simp only [sev_tmp, sev_const, sev_func, sg_eq, sg_ne, sp_n, sp_none, Nat.reduceLT, ne_eq, Nat.reduceEqDiff, not_false_eq_true, gd, nth, want_free, want_slot, beqB, List.map_cons, List.map_nil, Array.toList_empty, List.nil_append, List.append_nil, List.cons_append, hn]; rfl)) (by assumption) (fun M hM => by simp only [sev_tmp, sg_eq, sp_n, Nat.reduceLT, fx, ld, adr_p, tk22, hn, E2 M hM] <;> rfl) (by rfl) (by first | exact VQ.int _ _ | exact VQ.bool _ | exact VQ.ptr _ _ | exact VQ.slice _ _ _ | exact VQ.func (by simp [vq_int, vq_ptr, vq_slice]) (by simp [vq_int, vq_ptr, vq_slice]) | exact VQ.agg (by simp [vq_int, vq_ptr, vq_slice]) | exact VQ.tuple (by simp [vq_int, vq_ptr, vq_slice])) ?_
      refine Dr.read (by first | rfl | kernel_rfl) (by first | rfl | (simp only [sg_eq, sg_ne, sp_n, Nat.reduceLT, ne_eq, Nat.reduceEqDiff, not_false_eq_true, gd, nth, want_slot, beqB, hn]; done) | (simp only [sev_tmp, sev_const, sev_func, sg_eq, sg_ne, sp_n, sp_none, Nat.reduceLT, ne_eq, Nat.reduceEqDiff, not_false_eq_true, gd, nth, want_free, want_slot, beqB, List.map_cons, List.map_nil, Array.toList_empty, List.nil_append, List.append_nil, List.cons_append, hn]; rfl)) (by assumption) (fun M hM => by simp only [sev_tmp, sg_ne, ne_eq, Nat.reduceEqDiff, not_false_eq_true, fx, fad, adr_p, Nat.zero_add, fo24_2, s9] <;> rfl) (by rfl) (by first | exact VQ.int _ _ | exact VQ.bool _ | exact VQ.ptr _ _ | exact VQ.slice _ _ _ | exact VQ.func (by simp [vq_int, vq_ptr, vq_slice]) (by simp [vq_int, vq_ptr, vq_slice]) | exact VQ.agg (by simp [vq_int, vq_ptr, vq_slice]) | exact VQ.tuple (by simp [vq_int, vq_ptr, vq_slice])) ?_
      refine Dr.read (by first | rfl | kernel_rfl) (by first | rfl | (simp only [sg_eq, sg_ne, sp_n, Nat.reduceLT, ne_eq, Nat.reduceEqDiff, not_false_eq_true, gd, nth, want_slot, beqB, hn]; done) | (simp only [sev_tmp, sev_const, sev_func, sg_eq, sg_ne, sp_n, sp_none, Nat.reduceLT, ne_eq, Nat.reduceEqDiff, not_false_eq_true, gd, nth, want_free, want_slot, beqB, List.map_cons, List.map_nil, Array.toList_empty, List.nil_append, List.append_nil, List.cons_append, hn]; rfl)) (by assumption) (fun M hM => by simp only [sev_tmp, sg_eq, sp_n, Nat.reduceLT, fx, ld, adr_p, tk22, hn, E2 M hM] <;> rfl) (by rfl) (by first | exact VQ.int _ _ | exact VQ.bool _ | exact VQ.ptr _ _ | exact VQ.slice _ _ _ | exact VQ.func (by simp [vq_int, vq_ptr, vq_slice]) (by simp [vq_int, vq_ptr, vq_slice]) | exact VQ.agg (by simp [vq_int, vq_ptr, vq_slice]) | exact VQ.tuple (by simp [vq_int, vq_ptr, vq_slice])) ?_
      refine Dr.read (by first | rfl | kernel_rfl) (by first | rfl | (simp only [sg_eq, sg_ne, sp_n, Nat.reduceLT, ne_eq, Nat.reduceEqDiff, not_false_eq_true, gd, nth, want_slot, beqB, hn]; done) | (simp only [sev_tmp, sev_const, sev_func, sg_eq, sg_ne, sp_n, sp_none, Nat.reduceLT, ne_eq, Nat.reduceEqDiff, not_false_eq_true, gd, nth, want_free, want_slot, beqB, List.map_cons, List.map_nil, Array.toList_empty, List.nil_append, List.append_nil, List.cons_append, hn]; rfl)) (by assumption) (fun M hM => by simp only [sev_tmp, sg_eq, sp_n, Nat.reduceLT, fx, lng, un22, hn] <;> rfl) (by rfl) (by first | exact VQ.int _ _ | exact VQ.bool _ | exact VQ.ptr _ _ | exact VQ.slice _ _ _ | exact VQ.func (by simp [vq_int, vq_ptr, vq_slice]) (by simp [vq_int, vq_ptr, vq_slice]) | exact VQ.agg (by simp [vq_int, vq_ptr, vq_slice]) | exact VQ.tuple (by simp [vq_int, vq_ptr, vq_slice])) ?_
      refine Dr.read (by first | rfl | kernel_rfl) (by first | rfl | (simp only [sg_eq, sg_ne, sp_n, Nat.reduceLT, ne_eq, Nat.reduceEqDiff, not_false_eq_true, gd, nth, want_slot, beqB, hn]; done) | (simp only [sev_tmp, sev_const, sev_func, sg_eq, sg_ne, sp_n, sp_none, Nat.reduceLT, ne_eq, Nat.reduceEqDiff, not_false_eq_true, gd, nth, want_free, want_slot, beqB, List.map_cons, List.map_nil, Array.toList_empty, List.nil_append, List.append_nil, List.cons_append, hn]; rfl)) (by assumption) (fun M hM => by simp only [sev_tmp, sev_const, sg_eq, sp_n, Nat.reduceLT, fx, bin_sub, hn, hw2] <;> rfl) (by rfl) (by first | exact VQ.int _ _ | exact VQ.bool _ | exact VQ.ptr _ _ | exact VQ.slice _ _ _ | exact VQ.func (by simp [vq_int, vq_ptr, vq_slice]) (by simp [vq_int, vq_ptr, vq_slice]) | exact VQ.agg (by simp [vq_int, vq_ptr, vq_slice]) | exact VQ.tuple (by simp [vq_int, vq_ptr, vq_slice])) ?_
      refine Dr.read (by first | rfl | kernel_rfl) (by first | rfl | (simp only [sg_eq, sg_ne, sp_n, Nat.reduceLT, ne_eq, Nat.reduceEqDiff, not_false_eq_true, gd, nth, want_slot, beqB, hn]; done) | (simp only [sev_tmp, sev_const, sev_func, sg_eq, sg_ne, sp_n, sp_none, Nat.reduceLT, ne_eq, Nat.reduceEqDiff, not_false_eq_true, gd, nth, want_free, want_slot, beqB, List.map_cons, List.map_nil, Array.toList_empty, List.nil_append, List.append_nil, List.cons_append, hn]; rfl)) (by assumption) (fun M hM => by simp only [sev_tmp, sg_eq, sg_ne, sp_n, Nat.reduceLT, ne_eq, Nat.reduceEqDiff, not_false_eq_true, fx, idx, Nat.mul_one, eo22, hn, nlen_nat hrl] <;> rfl) (by rfl) (by first | exact VQ.int _ _ | exact VQ.bool _ | exact VQ.ptr _ _ | exact VQ.slice _ _ _ | exact VQ.func (by simp [vq_int, vq_ptr, vq_slice]) (by simp [vq_int, vq_ptr, vq_slice]) | exact VQ.agg (by simp [vq_int, vq_ptr, vq_slice]) | exact VQ.tuple (by simp [vq_int, vq_ptr, vq_slice])) ?_
      refine Dr.read (by first | rfl | kernel_rfl) (by first | rfl | (simp only [sg_eq, sg_ne, sp_n, Nat.reduceLT, ne_eq, Nat.reduceEqDiff, not_false_eq_true, gd, nth, want_slot, beqB, hn]; done) | (simp only [sev_tmp, sev_const, sev_func, sg_eq, sg_ne, sp_n, sp_none, Nat.reduceLT, ne_eq, Nat.reduceEqDiff, not_false_eq_true, gd, nth, want_free, want_slot, beqB, List.map_cons, List.map_nil, Array.toList_empty, List.nil_append, List.append_nil, List.cons_append, hn]; rfl)) (by assumption) (fun M hM => by simp only [sev_tmp, sg_eq, sp_n, Nat.reduceLT, fx, ld, adr_p, tk3, hn, H2 M hM] <;> rfl) (by rfl) (by first | exact VQ.int _ _ | exact VQ.bool _ | exact VQ.ptr _ _ | exact VQ.slice _ _ _ | exact VQ.func (by simp [vq_int, vq_ptr, vq_slice]) (by simp [vq_int, vq_ptr, vq_slice]) | exact VQ.agg (by simp [vq_int, vq_ptr, vq_slice]) | exact VQ.tuple (by simp [vq_int, vq_ptr, vq_slice])) ?_
      refine Dr.read (by first | rfl | kernel_rfl) (by first | rfl | (simp only [sg_eq, sg_ne, sp_n, Nat.reduceLT, ne_eq, Nat.reduceEqDiff, not_false_eq_true, gd, nth, want_slot, beqB, hn]; done) | (simp only [sev_tmp, sev_const, sev_func, sg_eq, sg_ne, sp_n, sp_none, Nat.reduceLT, ne_eq, Nat.reduceEqDiff, not_false_eq_true, gd, nth, want_free, want_slot, beqB, List.map_cons, List.map_nil, Array.toList_empty, List.nil_append, List.append_nil, List.cons_append, hn]; rfl)) (by assumption) (fun M hM => by simp only [sev_tmp, sg_eq, sg_ne, sp_n, Nat.reduceLT, ne_eq, Nat.reduceEqDiff, not_false_eq_true, fx, bin_eql, hn, hdq] <;> rfl) (by rfl) (by first | exact VQ.int _ _ | exact VQ.bool _ | exact VQ.ptr _ _ | exact VQ.slice _ _ _ | exact VQ.func (by simp [vq_int, vq_ptr, vq_slice]) (by simp [vq_int, vq_ptr, vq_slice]) | exact VQ.agg (by simp [vq_int, vq_ptr, vq_slice]) | exact VQ.tuple (by simp [vq_int, vq_ptr, vq_slice])) ?_
      refine Dr.read (by first | rfl | kernel_rfl) (by first | rfl | (simp only [sg_eq, sg_ne, sp_n, Nat.reduceLT, ne_eq, Nat.reduceEqDiff, not_false_eq_true, gd, nth, want_slot, beqB, hn]; done) | (simp only [sev_tmp, sev_const, sev_func, sg_eq, sg_ne, sp_n, sp_none, Nat.reduceLT, ne_eq, Nat.reduceEqDiff, not_false_eq_true, gd, nth, want_free, want_slot, beqB, List.map_cons, List.map_nil, Array.toList_empty, List.nil_append, List.append_nil, List.cons_append, hn]; rfl)) (by assumption) (fun M hM => by simp only [sev_tmp, sg_eq, sg_ne, sp_n, Nat.reduceLT, ne_eq, Nat.reduceEqDiff, not_false_eq_true, fx, pck, hn] <;> rfl) (by rfl) (by first | exact VQ.int _ _ | exact VQ.bool _ | exact VQ.ptr _ _ | exact VQ.slice _ _ _ | exact VQ.func (by simp [vq_int, vq_ptr, vq_slice]) (by simp [vq_int, vq_ptr, vq_slice]) | exact VQ.agg (by simp [vq_int, vq_ptr, vq_slice]) | exact VQ.tuple (by simp [vq_int, vq_ptr, vq_slice])) ?_
      refine Dr.read (by first | rfl | kernel_rfl) (by first | rfl | (simp only [sev_tmp, sev_const, sev_func, sg_eq, sg_ne, sp_n, sp_none, Nat.reduceLT, ne_eq, Nat.reduceEqDiff, not_false_eq_true, gd, nth, want_free, want_slot, beqB, List.map_cons, List.map_nil, Array.toList_empty, List.nil_append, List.append_nil, List.cons_append, hn]; done) | (simp only [sev_tmp, sev_const, sev_func, sg_eq, sg_ne, sp_n, sp_none, Nat.reduceLT, ne_eq, Nat.reduceEqDiff, not_false_eq_true, gd, nth, want_free, want_slot, beqB, List.map_cons, List.map_nil, Array.toList_empty, List.nil_append, List.append_nil, List.cons_append, hn]; rfl)) (by assumption) (fun M hM => by simp only [sev_tmp, sg_eq, sg_ne, sp_n, Nat.reduceLT, ne_eq, Nat.reduceEqDiff, not_false_eq_true, fx, pck, hn] <;> rfl) (by rfl) (by first | exact VQ.int _ _ | exact VQ.bool _ | exact VQ.ptr _ _ | exact VQ.slice _ _ _ | exact VQ.func (by simp [vq_int, vq_ptr, vq_slice]) (by simp [vq_int, vq_ptr, vq_slice]) | exact VQ.agg (by simp [vq_int, vq_ptr, vq_slice]) | exact VQ.tuple (by simp [vq_int, vq_ptr, vq_slice])) ?_
      refine Dr.nil (by rfl) (fun M hM => by cases hM) F3 ⟨C3, by rfl, ?_⟩
      (repeat (first | refine Rn.seq hc ?_ | refine Rn.skip hc ?_ | refine Rn.block hc ?_ | refine Rn.inBlock hc ?_ | refine Rn.scope hc ?_ | refine Rn.inScope hc ?_))
      refine Rn.condE hc rfl ?_
      simp only [sev_tmp, sg_eq, sp_n, Nat.reduceLT, Value.bool.injEq, exists_eq_left', hn]
      (repeat (first | refine Rn.seq hc ?_ | refine Rn.skip hc ?_ | refine Rn.block hc ?_ | refine Rn.inBlock hc ?_ | refine Rn.scope hc ?_ | refine Rn.inScope hc ?_))
      exact Rn.fall ⟨rfl, hC3, by simp only [sp_n, hn], by simp only [sg_ne, ne_eq, Nat.reduceEqDiff, not_false_eq_true, s2], by simp only [sg_ne, ne_eq, Nat.reduceEqDiff, not_false_eq_true, s8], by simp only [sg_ne, ne_eq, Nat.reduceEqDiff, not_false_eq_true, s9]⟩
  · clear hn s1 s2 s8 s9 s11 s12 s f0 f1 f2 u1 u2
    rintro s ds D ⟨rfl, hD, hn, s2, s8, s9⟩
    have hB : Half A B0 A4.next A6.next m sa ra la lr st ro ls lro :=
      { hx := hx0B, d0 := d0, d1 := d1, d2 := d2, e0 := e0, e1 := e1, e2 := e2, x1 := x1, x2 := x2, z1 := z1, z2 := z2, bl := ⟨by omega, by omega, by omega⟩, hm := ⟨hm2, hm7⟩, h1 := hst, h2 := hro1, h3 := hro2, i1 := hin1, i2 := hin2, red := hred, eS := hLs, eR := hLr }
    have hH := hB.mono hD
    clear hB d0 d1 d2 e0 e1 e2 x1 x2 z1 z2 hx0B
    refine least_loop hH hn s2 s8 s9 fun s E hE hn s2 s8 s9 => ?_
    have hH2 := hH.mono hE
    refine least_mid hH2 hn s2 s8 s9 fun s E1 bB xa hE1 hb1 hb2 lB gx hn s2 s8 s9 s16 => ?_
    refine least_stem hH2 hmore hE1 hb1 hb2 lB gx hn s2 s8 s9 s16 fun s E2 ya N hN1 hN2 hE2 hb3 lB gx hn s8 s9 s16 => ?_
    refine least_round hH2 hN2 hE2 hb1 hb3 lB gx hn s8 s9 s16 fun s E3 yr hE3 hb4 lB ga gr hn s8 s9 s16 => ?_
    exact least_end hH2 hN1 hN2 hE3 hb4 lB ga gr hn s8 s9 s16
  · intro _ _ _ h
    exact h.elim
end Go.Proofs.Ytdaljohmfnfgiaa
/- LassoLeast returns true for every input, and each argument reads afterwards as it read before. No condition. -/
namespace Go.Proofs.Ytdaljohmfnfgiaa
section
open Go Go.RowKit Go.Proofs.Ytdaljohmfnfgiaa.Canon
theorem least_any {W : World} {na : Option Addr} {nn nc : Nat} (h1 : ∀ x, na = some x → x.spot = none) (k1 : BysW W na nn) (hnn : nn < 9223372036854775808) {n more : Nat} (hn8 : n < 256) (hmore : more < 256) :
    Calls Try.prog 9 #[.slice na nn nc, .int .u8 (n : Int), .int .u8 (more : Int)] W (fun e w' => e = .returned (.bool true) ∧ Below W.heap.size W w') := by
  obtain ⟨A, hA⟩ := in_any W (W.heap.size + 1 + blkOf na) (by omega) (by omega)
  refine calls_of_conF (t := 6) Try.func9 rfl hA (xs := [.slice na nn nc, .int .u8 (n : Int), .int .u8 (more : Int)]) ?_
    (law_least hA.wf (k1.bys hA) hnn hn8 hmore)
  exact ((AR.single (inP_v (roV_slice h1 (by omega)))).push (.int .u8 (n : Int))).push (.int .u8 (more : Int))
end
section
open Go.ChangeShapes Go.WideShapes Go.ChangeAt Go.RowKit Go.Proofs.Ytdaljohmfnfgiaa.Canon
open Go.Deep (open_slice_pairs open_slice)
set_option maxRecDepth 100000 in
theorem lassoLeast_lifted (os : Os) (started : os.Started) (H : Type) (enc : TypeId × Value → H) :
    ReturnsInHanded {} Try.checked os 9 .any (Rows.lassoLeastSpec.pre6 enc Try.prog Try.f9 Rows.lassoLeastRow.domain false) (Rows.lassoLeastSpec.post enc Try.prog Try.f9 false true false false) := by
  refine returnsInHanded_of_change (C := Try.checked) Try.own started (by kernel_rfl) Try.func9
    (ChangeSpec.witness6 (enc := enc) (C := Try.checked) false ⟨#[], #[.slice none 0 0, .int .u8 0, .int .u8 0], []⟩ 8 (by kernel_rfl) (by kernel_rfl) (by kernel_rfl) (by kernel_rfl)) ?_
  intro W base args ds gs before hval0 hW hcnd _
  have hval : ∀ (j : Nat) t v, Try.f9.params[j]? = some t → args[j]? = some v → Value.okWide Try.prog W .any base t v := hval0
  have hW' := hW
  obtain ⟨p, q, hA0, hV, rfl, hfz, hnd⟩ := hW
  have hA : DataW.TrodAll enc Try.prog W 0 (fun _ => true) true Try.f9.params.toList args.toList ds p := hA0
  rw [Try.params9] at hA hval
  obtain ⟨v0, v1, v2, d0, d1, d2, p0, p1, p2, rfl, rfl, rfl, h0, h1, h2⟩ := trodAll_three hA
  obtain ⟨rfl, rfl⟩ := trodVars_none hV
  obtain ⟨na, nn, nc, rfl, hk⟩ := val_bytes (hval 0 55 v0 rfl rfl)
  obtain ⟨hnn, i1⟩ : nn < 9223372036854775808 ∧ BysW W na nn := by
    obtain ⟨fuel, hf⟩ := h0
    exact bytes_trod hf hk
  obtain ⟨n, rfl, rfl, rfl, hw1⟩ := open_int Try.underlying5 (hval 1 5 v1 rfl rfl) h1
  obtain ⟨more, rfl, rfl, rfl, hw2⟩ := open_int Try.underlying5 (hval 2 5 v2 rfl rfl) h2
  obtain ⟨n, rfl, b1⟩ := lit_u8 hw1
  obtain ⟨more, rfl, b2⟩ := lit_u8 hw2
  clear hA0 hval0
  simp only [List.append_nil] at hW'
  have hplace : ∀ p ∈ p0, p.block < W.heap.size := fun p hp => by simpa using hW'.lt p hp
  refine (least_any (nc := nc) hk i1 hnn b1 b2).mono fun e W' ⟨he, hb⟩ => ?_
  subst he
  have harg0 : ∀ sp : Nat → Bool, (∀ p ∈ p0, sp p.block = true) → DataW.Trod enc Try.prog W' 0 sp true 55 (.slice na nn nc) d0 p0 := fun sp hsp =>
    WideElems.Trod_stays Try.laidOut (by kernel_rfl) (of_decide_eq_true (by kernel_rfl)) h0 (fun x hx => hb.same (hplace x hx)) (fun x hx => hsp x hx)
  refine ⟨_, rfl, post_of_below (pa := p0) (pv := []) hW' (fun _ _ _ => trodAll_mk1 (shut_bool Try.underlying4 _)) (fun sp hsp => ?_) (fun _ _ => rfl) (by simp) hb (ok_one (by kernel_rfl) rfl (okWide_bool_mk Try.underlying4 _))⟩
  have hall : DataW.TrodAll enc Try.prog W' 0 sp true [55, 5, 5] [.slice na nn nc, .int .u8 (n : Int), .int .u8 (more : Int)] [d0, .lit (.int .u8 (n : Int)), .lit (.int .u8 (more : Int))] (p0 ++ ([] ++ [])) :=
    trodAll_mk3 (harg0 sp hsp) (shut_int Try.underlying5 hw1) (shut_int Try.underlying5 hw2)
  simp only [List.append_nil] at hall
  exact hall

theorem lassoLeast_holds : Rows.LassoLeastSaid :=
  OpenClaim.holds_of_wide 9 Try.f9 rfl rfl rfl rfl rfl rfl rfl ⟨rfl, rfl, rfl, rfl, rfl⟩ rfl rfl rfl rfl rfl (by kernel_rfl) Try.func9 (by kernel_rfl)
    (of_decide_eq_true (by kernel_rfl)) (by unfold Func.isWrapper; first | (rw [if_pos (by decide +kernel)]; kernel_rfl) | (rw [if_neg (by decide +kernel)]; exact ⟨rfl, rfl⟩))
    (fun os started H enc _ => lassoLeast_lifted os started H enc)
end
end Go.Proofs.Ytdaljohmfnfgiaa

/- The reference's least stream, and where it says that two differ; a stream's memory is changed. No condition. -/
import Derived.Test.YtdaljohmfnfgiaaXf
/- The reference's least stream. No condition. -/
namespace Go.Proofs.Ytdaljohmfnfgiaa
open Go Go.RowKit Go.Proofs.Ytdaljohmfnfgiaa.Canon
set_option maxRecDepth 20000


theorem turns_ref {A : AHeap} (hw : WF A) {a : Option Addr} {c : Nat} {ro : List Int} (hr : Ints A a 0 A.next ro) (lr : ro.length ≤ 1000000) {d : Nat} (hd0 : 0 < d) (hd2 : d ≤ 1000000) :
    Con Try.prog 109 [.slice a ro.length c, .int .i64 (d : Int)] A (fun v A1 => v = .bool (perOK ro d) ∧ Nx A.next A A1) := by
  refine con_of_rn hc Try.func109 rfl (Nat.le_of_ble_eq_true rfl) ?_
  rw [s_in2]
  have hrem : ∀ M, bin Try.prog .rem 3 (.int .i64 (ro.length : Int)) (.int .i64 (d : Int)) M = some (.int .i64 ((ro.length % d : Nat) : Int), M) := fun M => by
    rw [bin_rem _ _ _ _ (by omega), IntWalk.rem_in _ _ (by omega)]
    rfl
  (repeat (first | refine Rn.seq hc ?_ | refine Rn.skip hc ?_ | refine Rn.block hc ?_ | refine Rn.inBlock hc ?_ | refine Rn.scope hc ?_ | refine Rn.inScope hc ?_))
  refine Rn.reg hc rfl ?_
  simp only [sev_const, gd, want_free, rops, fx, Option.some.injEq, exists_eq_left', show Try.f109.ntmps = 29 from rfl]
  (repeat (first | refine Rn.seq hc ?_ | refine Rn.skip hc ?_ | refine Rn.block hc ?_ | refine Rn.inBlock hc ?_ | refine Rn.scope hc ?_ | refine Rn.inScope hc ?_))
  by_cases hdiv : ro.length % d = 0
  · have hd3 : (!decide (((ro.length % d : Nat) : Int) = 0)) = false := by rw [hdiv]; rfl
    refine Rn.reg hc rfl ?_
    simp only [sev_tmp, sev_const, sg_eq, sg_ne, sp_n, Nat.reduceLT, ne_eq, Nat.reduceEqDiff, not_false_eq_true, gd, want_free, rops, fx, lng, bin_neq, Option.some.injEq, exists_eq_left', un22, hrem, hd3]
    (repeat (first | refine Rn.seq hc ?_ | refine Rn.skip hc ?_ | refine Rn.block hc ?_ | refine Rn.inBlock hc ?_ | refine Rn.scope hc ?_ | refine Rn.inScope hc ?_))
    refine Rn.condE hc rfl ?_
    simp only [sev_tmp, sg_eq, sp_n, Nat.reduceLT, Value.bool.injEq, exists_eq_left']
    (repeat (first | refine Rn.seq hc ?_ | refine Rn.skip hc ?_ | refine Rn.block hc ?_ | refine Rn.inBlock hc ?_ | refine Rn.scope hc ?_ | refine Rn.inScope hc ?_))
    refine Rn.reg hc rfl ?_
    simp only [sev_tmp, sg_eq, sg_ne, sp_n, Nat.reduceLT, ne_eq, Nat.reduceEqDiff, not_false_eq_true, gd, want_free, rops, fx, Option.some.injEq, exists_eq_left']
    (repeat (first | refine Rn.seq hc ?_ | refine Rn.skip hc ?_ | refine Rn.block hc ?_ | refine Rn.inBlock hc ?_ | refine Rn.scope hc ?_ | refine Rn.inScope hc ?_))
    refine Rn.loopI hc (I := fun k s A' => ∃ i : Nat, d ≤ i ∧ (i ≤ ro.length ∨ i = d) ∧ k = ro.length - i ∧ Nx A.next A A' ∧ (∀ j, d ≤ j → j < i → ro.getD j 0 = ro.getD (j - d) 0) ∧ s.n = 29 ∧ sget s 0 = .slice a ro.length c ∧ sget s 1 = .int .i64 (d : Int) ∧ sget s 5 = .int .i64 (i : Int))
      (n := ro.length - d) ⟨d, Nat.le_refl _, .inr rfl, rfl, Nx.refl hw _, fun j h1 h2 => by omega, by simp only [sp_n], by simp only [sg_eq, sg_ne, Nat.reduceLT, ne_eq, Nat.reduceEqDiff, not_false_eq_true], by simp only [sg_eq, sg_ne, sp_n, Nat.reduceLT, ne_eq, Nat.reduceEqDiff, not_false_eq_true], by simp only [sg_eq, sp_n, Nat.reduceLT]⟩ ?_
    rintro k s A' ⟨i, hi1, hi2, rfl, hA, hper, hn, s0, s1, s5⟩ ih
    (repeat (first | refine Rn.seq hc ?_ | refine Rn.skip hc ?_ | refine Rn.block hc ?_ | refine Rn.inBlock hc ?_ | refine Rn.scope hc ?_ | refine Rn.inScope hc ?_))
    by_cases hlti : i < ro.length
    · have hd : decide ((i : Int) < (ro.length : Int)) = true := decide_eq_true (by omega)
      obtain ⟨bb, o, rfl, _, hb1, hcl⟩ := hr i hlti
      obtain ⟨bb', o', e', _, _, hcl'⟩ := hr (i - d) (by omega)
      cases e'
      have hcl : cl A' bb (o + i) = _ := (hA.cl hb1 _).trans hcl
      have hcl' : cl A' bb (o + (i - d)) = _ := (hA.cl hb1 _).trans hcl'
      have hsub : IntKind.i64.wrap ((i : Int) - (d : Int)) = ((i - d : Nat) : Int) := by rw [IntWalk.i64_in _ (by omega)]; omega
      have hidl : i - d < ro.length := by omega
      refine Rn.reg hc rfl ?_
      simp only [sev_tmp, sg_eq, sg_ne, sp_n, Nat.reduceLT, ne_eq, Nat.reduceEqDiff, not_false_eq_true, gd, want_free, rops, fx, lng, bin_lss, Option.some.injEq, exists_eq_left', un22, hn, s0, s5, hd]
      (repeat (first | refine Rn.seq hc ?_ | refine Rn.skip hc ?_ | refine Rn.block hc ?_ | refine Rn.inBlock hc ?_ | refine Rn.scope hc ?_ | refine Rn.inScope hc ?_))
      refine Rn.condE hc rfl ?_
      simp only [sev_tmp, sg_eq, sp_n, Nat.reduceLT, Value.bool.injEq, exists_eq_left', hn]
      (repeat (first | refine Rn.seq hc ?_ | refine Rn.skip hc ?_ | refine Rn.block hc ?_ | refine Rn.inBlock hc ?_ | refine Rn.scope hc ?_ | refine Rn.inScope hc ?_))
      by_cases heq : ro.getD i 0 = ro.getD (i - d) 0
      · have hne : (!decide (ro.getD i 0 = ro.getD (i - d) 0)) = false := by rw [decide_eq_true heq]; rfl
        refine Rn.drawnR hc hx (by kernel_rfl) (by rfl) (by kernel_rfl) ?_ ?_
        · simp only [rdV, VQ.int, VQ.bool, VQ.ptr, VQ.slice, cl_bump, sev_tmp, sg_eq, sg_ne, sp_n, Nat.reduceLT, ne_eq, Nat.reduceEqDiff, not_false_eq_true, gd, want_free, fx, ld, idx, bin_neq, bin_sub, adr_p, Nat.zero_add, Nat.reduceAdd, Nat.mul_one, and_self, tk3, eo22, hn, s0, s1, s5, nlen_nat hlti, nlen_nat hidl, hsub, hcl, hcl', hne, List.length_cons, List.length_nil]
        simp only [cl_bump, sev_tmp, sg_eq, sg_ne, sp_n, Nat.reduceLT, ne_eq, Nat.reduceEqDiff, not_false_eq_true, gd, want_free, rops, fx, ld, idx, bin_neq, bin_sub, adr_p, Nat.zero_add, Option.some.injEq, exists_eq_left', Nat.reduceAdd, Nat.mul_one, tk3, eo22, hn, s0, s1, s5, nlen_nat hlti, nlen_nat hidl, hsub, hcl, hcl', hne, List.length_cons, List.length_nil]
        (repeat (first | refine Rn.seq hc ?_ | refine Rn.skip hc ?_ | refine Rn.block hc ?_ | refine Rn.inBlock hc ?_ | refine Rn.scope hc ?_ | refine Rn.inScope hc ?_))
        refine Rn.condE hc rfl ?_
        simp only [sev_tmp, sg_eq, sp_n, Nat.reduceLT, Value.bool.injEq, exists_eq_left', hn]
        (repeat (first | refine Rn.seq hc ?_ | refine Rn.skip hc ?_ | refine Rn.block hc ?_ | refine Rn.inBlock hc ?_ | refine Rn.scope hc ?_ | refine Rn.inScope hc ?_))
        refine Rn.reg hc rfl ?_
        simp only [sev_tmp, sev_const, sg_eq, sg_ne, sp_n, Nat.reduceLT, ne_eq, Nat.reduceEqDiff, not_false_eq_true, gd, want_free, rops, fx, bin_add, Option.some.injEq, exists_eq_left', hn, s5, wrap_succ (show i < 9223372036854775807 by omega)]
        (repeat (first | refine Rn.seq hc ?_ | refine Rn.skip hc ?_ | refine Rn.block hc ?_ | refine Rn.inBlock hc ?_ | refine Rn.scope hc ?_ | refine Rn.inScope hc ?_))
        refine ih _ _ _ (by omega) ⟨i + 1, by omega, .inl (by omega), rfl, Nx.bump hA _, fun j h1 h2 => ?_, by simp only [sp_n, hn], by simp only [sg_ne, ne_eq, Nat.reduceEqDiff, not_false_eq_true, s0], by simp only [sg_ne, ne_eq, Nat.reduceEqDiff, not_false_eq_true, s1], by simp only [sg_eq, sp_n, Nat.reduceLT, hn]⟩
        by_cases hji : j = i
        · subst hji; exact heq
        · exact hper j h1 (by omega)
      · have hne : (!decide (ro.getD i 0 = ro.getD (i - d) 0)) = true := by rw [decide_eq_false heq]; rfl
        have hfalse : perOK ro d = false := by
          cases hp : perOK ro d with
          | false => rfl
          | true => exact absurd ((perOK_iff.1 hp).2 i hi1 hlti) heq
        clear ih
        refine Rn.drawnR hc hx (by kernel_rfl) (by rfl) (by kernel_rfl) ?_ ?_
        · simp only [rdV, VQ.int, VQ.bool, VQ.ptr, VQ.slice, cl_bump, sev_tmp, sg_eq, sg_ne, sp_n, Nat.reduceLT, ne_eq, Nat.reduceEqDiff, not_false_eq_true, gd, want_free, fx, ld, idx, bin_neq, bin_sub, adr_p, Nat.zero_add, Nat.reduceAdd, Nat.mul_one, and_self, tk3, eo22, hn, s0, s1, s5, nlen_nat hlti, nlen_nat hidl, hsub, hcl, hcl', hne, List.length_cons, List.length_nil]
        simp only [cl_bump, sev_tmp, sg_eq, sg_ne, sp_n, Nat.reduceLT, ne_eq, Nat.reduceEqDiff, not_false_eq_true, gd, want_free, rops, fx, ld, idx, bin_neq, bin_sub, adr_p, Nat.zero_add, Option.some.injEq, exists_eq_left', Nat.reduceAdd, Nat.mul_one, tk3, eo22, hn, s0, s1, s5, nlen_nat hlti, nlen_nat hidl, hsub, hcl, hcl', hne, List.length_cons, List.length_nil]
        (repeat (first | refine Rn.seq hc ?_ | refine Rn.skip hc ?_ | refine Rn.block hc ?_ | refine Rn.inBlock hc ?_ | refine Rn.scope hc ?_ | refine Rn.inScope hc ?_))
        refine Rn.condE hc rfl ?_
        simp only [sev_tmp, sg_eq, sp_n, Nat.reduceLT, Value.bool.injEq, exists_eq_left', hn]
        (repeat (first | refine Rn.seq hc ?_ | refine Rn.skip hc ?_ | refine Rn.block hc ?_ | refine Rn.inBlock hc ?_ | refine Rn.scope hc ?_ | refine Rn.inScope hc ?_))
        refine Rn.reg hc rfl ?_
        simp only [sev_const, gd, want_free, rops, fx, Option.some.injEq, exists_eq_left']
        (repeat (first | refine Rn.seq hc ?_ | refine Rn.skip hc ?_ | refine Rn.block hc ?_ | refine Rn.inBlock hc ?_ | refine Rn.scope hc ?_ | refine Rn.inScope hc ?_))
        refine Rn.ret (endQ_tmp rfl ⟨?_, Nx.bump hA _⟩)
        simp only [sg_eq, sp_n, Nat.reduceLT, hn, hfalse]
    · have hd : decide ((i : Int) < (ro.length : Int)) = false := decide_eq_false (by omega)
      have htrue : perOK ro d = true := perOK_iff.2 ⟨hdiv, fun j h1 h2 => hper j h1 (by omega)⟩
      clear ih
      refine Rn.reg hc rfl ?_
      simp only [sev_tmp, sg_eq, sg_ne, sp_n, Nat.reduceLT, ne_eq, Nat.reduceEqDiff, not_false_eq_true, gd, want_free, rops, fx, lng, bin_lss, Option.some.injEq, exists_eq_left', un22, hn, s0, s5, hd]
      (repeat (first | refine Rn.seq hc ?_ | refine Rn.skip hc ?_ | refine Rn.block hc ?_ | refine Rn.inBlock hc ?_ | refine Rn.scope hc ?_ | refine Rn.inScope hc ?_))
      refine Rn.condE hc rfl ?_
      simp only [sev_tmp, sg_eq, sp_n, Nat.reduceLT, Value.bool.injEq, exists_eq_left', hn]
      (repeat (first | refine Rn.seq hc ?_ | refine Rn.skip hc ?_ | refine Rn.block hc ?_ | refine Rn.inBlock hc ?_ | refine Rn.scope hc ?_ | refine Rn.inScope hc ?_))
      refine Rn.exit hc rfl ?_
      (repeat (first | refine Rn.seq hc ?_ | refine Rn.skip hc ?_ | refine Rn.block hc ?_ | refine Rn.inBlock hc ?_ | refine Rn.scope hc ?_ | refine Rn.inScope hc ?_))
      refine Rn.reg hc rfl ?_
      simp only [sev_const, gd, want_free, rops, fx, Option.some.injEq, exists_eq_left']
      (repeat (first | refine Rn.seq hc ?_ | refine Rn.skip hc ?_ | refine Rn.block hc ?_ | refine Rn.inBlock hc ?_ | refine Rn.scope hc ?_ | refine Rn.inScope hc ?_))
      refine Rn.ret (endQ_tmp rfl ⟨?_, hA⟩)
      simp only [sg_eq, sp_n, Nat.reduceLT, hn, htrue]
  · have hd3 : (!decide (((ro.length % d : Nat) : Int) = 0)) = true := by rw [decide_eq_false (by omega)]; rfl
    have hfalse : perOK ro d = false := by
      cases hp : perOK ro d with
      | false => rfl
      | true => exact absurd (perOK_iff.1 hp).1 hdiv
    refine Rn.reg hc rfl ?_
    simp only [sev_tmp, sev_const, sg_eq, sg_ne, sp_n, Nat.reduceLT, ne_eq, Nat.reduceEqDiff, not_false_eq_true, gd, want_free, rops, fx, lng, bin_neq, Option.some.injEq, exists_eq_left', un22, hrem, hd3]
    (repeat (first | refine Rn.seq hc ?_ | refine Rn.skip hc ?_ | refine Rn.block hc ?_ | refine Rn.inBlock hc ?_ | refine Rn.scope hc ?_ | refine Rn.inScope hc ?_))
    refine Rn.condE hc rfl ?_
    simp only [sev_tmp, sg_eq, sp_n, Nat.reduceLT, Value.bool.injEq, exists_eq_left']
    (repeat (first | refine Rn.seq hc ?_ | refine Rn.skip hc ?_ | refine Rn.block hc ?_ | refine Rn.inBlock hc ?_ | refine Rn.scope hc ?_ | refine Rn.inScope hc ?_))
    refine Rn.reg hc rfl ?_
    simp only [sev_const, gd, want_free, rops, fx, Option.some.injEq, exists_eq_left']
    (repeat (first | refine Rn.seq hc ?_ | refine Rn.skip hc ?_ | refine Rn.block hc ?_ | refine Rn.inBlock hc ?_ | refine Rn.scope hc ?_ | refine Rn.inScope hc ?_))
    refine Rn.ret (endQ_tmp rfl ⟨?_, Nx.refl hw _⟩)
    simp only [sg_eq, sp_n, Nat.reduceLT, hfalse]
end Go.Proofs.Ytdaljohmfnfgiaa
/- The reference's least stream: what is popped off. No condition. -/
namespace Go.Proofs.Ytdaljohmfnfgiaa
open Go Go.RowKit Go.Proofs.Ytdaljohmfnfgiaa.Canon
set_option maxRecDepth 20000


/-- A piece of a slice that is not empty: the same one, shorter. -/
theorem asl_pos {A : AHeap} {a : Option Addr} {c lo hi : Nat} {l : List Int} (h : Ints A a lo hi l) (hs : Sl A a lo) (hc' : l.length ≤ c) (hpos : 0 < l.length) {n : Nat} (hn : n ≤ l.length) :
    asl Try.prog 22 (.slice a l.length c) none (some (.int .i64 (n : Int))) none A = some (.slice a n c, A) := by
  obtain ⟨_, i, z, hinf, _, _, _, hsz, _⟩ := elB_eq el22
  have hb1 : abound (some (.int .i64 (n : Int))) l.length = some n := by simp [abound]
  have hb0 : ∀ d, abound none d = some d := fun _ => rfl
  have t1 : Nat.ble 0 n = true := Nat.ble_eq_true_of_le (Nat.zero_le _)
  have t2 : Nat.ble n c = true := Nat.ble_eq_true_of_le (by omega)
  have t3 : Nat.ble c c = true := Nat.ble_eq_true_of_le (Nat.le_refl _)
  have hc0 : c ≠ 0 := by omega
  obtain ⟨b, o, rfl, _, _, _⟩ := h 0 hpos
  obtain ⟨_, _, y, hy, hg⟩ := hs _ rfl
  obtain ⟨ob, g, zz⟩ := y
  have hadd : (⟨b, o, none⟩ : Addr).add (0 * i.size) = ⟨b, o, none⟩ := by
    rw [Nat.zero_mul, addr_add]; rfl
  rcases hg with hg | ⟨hg, _, hz⟩
  · simp only at hg
    subst hg
    simp only [asl, un22, hinf, hb0, hb1, t2, Option.isSome_none, Bool.not_false, Bool.true_or, Nat.sub_zero, hy]
    rw [t1, t3]
    simp only [hc0, if_false, hadd]
  · simp only at hg hz
    subst hg hz
    have hzi : Nat.beq 1 i.size = true := by rw [hsz]; rfl
    have hcb : Nat.beq c 0 = false := by
      cases hb : Nat.beq c 0 with
      | false => rfl
      | true => exact absurd (Nat.eq_of_beq_eq_true hb) hc0
    simp only [asl, un22, hinf, hb0, hb1, t2, Option.isSome_none, Bool.not_false, Bool.true_or, Nat.sub_zero, hy, hzi, hcb, hadd]
    rw [t1, t3]
theorem Ints.take {A : AHeap} {a : Option Addr} {lo hi n : Nat} {l : List Int} (h : Ints A a lo hi l) : Ints A a lo hi (l.take n) := fun i hi' => by
  have hl : i < l.length := by simp at hi'; omega
  have hn : i < n := by simp at hi'; omega
  obtain ⟨b, o, q1, q2, q3, q4⟩ := h i hl
  refine ⟨b, o, q1, q2, q3, ?_⟩
  rw [q4]
  simp only [List.getD_eq_getElem?_getD, List.getElem?_take]
  rw [if_pos hn]
/-- A list is appended to a row that has nothing in it. -/
theorem app_at {A : AHeap} (hw : WF A) {b n : Nat} (hb : ∃ y, Canon.look A.objs b = .some y ∧ y.grown = false ∧ y.esz = 0) (hn : n ≤ A.next) (hnb : n ≤ b) (hbn : b < A.next) {a2 : Option Addr} {c2 : Nat} {l : List Int} (h : Ints A a2 0 A.next l) (hlen : l.length ≤ 1000000) :
    ∃ a' A1, aapp Try.prog #[22, 22] #[.slice (some ⟨b, 0, none⟩) 0 0, .slice a2 l.length c2] A = .some (.slice a' l.length l.length, A1) ∧ Nx A.next A A1 ∧ Gr A1 a' n l := by
  by_cases h0 : l.length = 0
  · have hl : l = [] := List.length_eq_zero_iff.1 h0
    subst hl
    exact ⟨some ⟨b, 0, none⟩, A, aapp_nil el22 un22 (Nat.le_refl _), Nx.refl hw _, fun i hi => by simp at hi, fun x hx => by cases hx; obtain ⟨y, h1, h2, _⟩ := hb; exact ⟨rfl, hnb, y, h1, .inl h2⟩, fun x hx => by cases hx; obtain ⟨y, h1, h2, h3⟩ := hb; exact ⟨y, h1, by rw [h2, h3]; rfl⟩⟩
  · obtain ⟨A1, h1, h2⟩ := aapp_new (P := Try.prog) (c := 0) (c2 := c2) (a := some ⟨b, 0, none⟩) (n := 0) (l := []) (m := l.length) el22 un22 (.inl rfl) (by simp)
      (fun x hx => by cases hx; obtain ⟨y, h1, h2, _⟩ := hb; exact ⟨y, h1, .inl h2⟩) (fun h => by cases h) h.row (by simp) (by simp [isCell]) (fun h' => by subst h'; exact absurd h.some h0) (by omega) (by omega) (by omega)
    simp only [Nat.zero_add] at h1
    refine ⟨_, A1, h1, h2.nx hw (Nat.le_refl _) (fun x hx => by cases hx; obtain ⟨y, q1, q2, _⟩ := hb; exact .inr ⟨y, q1, q2⟩), fun i hi => ⟨_, _, rfl, hn, by rw [h2.next]; omega, ?_⟩, fun x hx => by cases hx; exact ⟨rfl, hn, _, h2.new, .inr ⟨rfl, rfl, rfl⟩⟩, fun x hx => by cases hx; exact ⟨_, h2.new, rfl⟩⟩
    rw [h2.cl]
    simp [List.getD_eq_getElem?_getD, hi]
/-- A list is appended to a row of one number. -/
theorem app_one {A : AHeap} (hw : WF A) {b n : Nat} {x : Int} (hb : Canon.look A.objs b = .some ⟨.cells ⟨[.int .i64 x]⟩ 3, false, 0⟩) (hn : n ≤ A.next) (hnb : n ≤ b) (hbn : b < A.next) {a2 : Option Addr} {c2 : Nat} {l : List Int} (h : Ints A a2 0 A.next l) (hlen : l.length ≤ 1000000) :
    ∃ a' A1, aapp Try.prog #[22, 22] #[.slice (some ⟨b, 0, none⟩) 1 1, .slice a2 l.length c2] A = .some (.slice a' (l.length + 1) (l.length + 1), A1) ∧ Nx A.next A A1 ∧ Gr A1 a' n (x :: l) := by
  have hc0 : cl A b 0 = some (.int .i64 x) := by rw [cl_of hb rfl]; rfl
  by_cases h0 : l.length = 0
  · have hl : l = [] := List.length_eq_zero_iff.1 h0
    subst hl
    refine ⟨some ⟨b, 0, none⟩, A, aapp_nil el22 un22 (Nat.le_refl _), Nx.refl hw _, fun i hi => ?_, fun x hx => by cases hx; exact ⟨rfl, hnb, _, hb, .inl rfl⟩, fun x hx => by cases hx; exact ⟨_, hb, rfl⟩⟩
    have : i = 0 := by simp at hi; omega
    subst this
    exact ⟨b, 0, rfl, hnb, hbn, hc0⟩
  · obtain ⟨A1, h1, h2⟩ := aapp_new (P := Try.prog) (c := 1) (c2 := c2) (a := some ⟨b, 0, none⟩) (n := 1) (l := [.int .i64 x]) (m := l.length) el22 un22 (.inr ⟨b, 0, rfl, fun i hi => by
        have : i = 0 := by simp at hi; omega
        subst this
        exact hc0⟩) (by simp)
      (fun x hx => by cases hx; exact ⟨_, hb, .inl rfl⟩) (fun h => by cases h) h.row (by simp) (by simp [isCell]) (fun h' => by subst h'; exact absurd h.some h0) (by omega) (by omega) (by omega)
    rw [Nat.add_comm 1 l.length] at h1
    refine ⟨_, A1, h1, h2.nx hw (Nat.le_refl _) (fun x hx => by cases hx; exact .inr ⟨_, hb, rfl⟩), fun i hi => ⟨_, _, rfl, hn, by rw [h2.next]; omega, ?_⟩, fun x hx => by cases hx; exact ⟨rfl, hn, _, h2.new, .inr ⟨rfl, rfl, rfl⟩⟩, fun x hx => by cases hx; exact ⟨_, h2.new, rfl⟩⟩
    rw [h2.cl]
    simp only [Nat.zero_add]
    cases i with
    | zero => simp
    | succ i =>
      have : i < l.length := by simpa using hi
      simp [List.getD_eq_getElem?_getD, this]
end Go.Proofs.Ytdaljohmfnfgiaa
/- The reference's least stream. No condition. -/
namespace Go.Proofs.Ytdaljohmfnfgiaa
open Go Go.RowKit Go.Proofs.Ytdaljohmfnfgiaa.Canon
set_option maxRecDepth 20000


theorem redS_take (s : Nat → Int) {e k : Nat} (h : k ≤ e) : (redS s e).take k = redS s k := by
  refine List.ext_getElem (by simp [redS]; omega) fun i h1 h2 => ?_
  simp [redS]
theorem redR_take (s : Nat → Int) (a : Nat) {n k : Nat} (h : k ≤ n) : (redR s a n).take k = redR s a k := by
  refine List.ext_getElem (by simp [redR]; omega) fun i h1 h2 => ?_
  simp [redR]
theorem redR_cons (s : Nat → Int) (a n : Nat) : redR s a (n + 1) = s a :: redR s (a + 1) n := by
  refine List.ext_getElem (by simp [redR]) fun i h1 h2 => ?_
  cases i with
  | zero => simp [redR]
  | succ i =>
    simp [redR]
    congr 1
    omega
theorem wrap_pred {k : Nat} (h : 0 < k) (hk : k ≤ 1000000) : IntKind.i64.wrap ((k : Int) - 1) = ((k - 1 : Nat) : Int) := by rw [IntWalk.i64_in _ (by omega)]; omega
theorem small_ref {A : AHeap} (hw : WF A) {m : Int} {sa ra : Option Addr} {sc rc : Nat} {st ro : List Int} (hs : Ints A sa 0 A.next st) (hr : Ints A ra 0 A.next ro) (ls : st.length ≤ 1000000) (lr : ro.length ≤ 1000000) (hro : 0 < ro.length) (hsl : Sl A ra 0) (hrc : ro.length ≤ rc) :
    Con Try.prog 83 [.agg #[.int .i64 m, .slice sa st.length sc, .slice ra ro.length rc]] A (fun v A1 => ∃ a p, Red (atL st ro) a p ∧ a ≤ st.length ∧ p ≤ ro.length ∧ Nx A.next A A1 ∧ ∃ xa xc xr, v = .agg #[.int .i64 m, .slice xa a xc, .slice xr p p] ∧ a ≤ xc ∧ Ints A1 xa A.next A1.next (redS (atL st ro) a) ∧ Ints A1 xr A.next A1.next (redR (atL st ro) a p) ∧ Sl A1 xa A.next ∧ Sl A1 xr A.next) := by
  refine con_of_rn hc Try.func83 rfl (Nat.le_of_ble_eq_true rfl) ?_
  obtain ⟨A0, e0, hx0, hn0, b0, b1, b2⟩ := box3 hw (.int .i64 m) (.slice sa st.length sc) (.slice ra ro.length rc) 24
  have hx1 : Nx A0.next A0 (A0.push (.cells #[.int .i64 0, .slice none 0 0, .slice none 0 0] 24)) := (Nx.refl hx0.wf _).push (Nat.le_refl _) _
  have l1 := look_push_eq A0 (.cells #[.int .i64 0, .slice none 0 0, .slice none 0 0] 24)
  have hn1 : (A0.push (.cells #[.int .i64 0, .slice none 0 0, .slice none 0 0] 24)).next = A0.next + 1 := rfl
  generalize e1 : A0.push (.cells #[.int .i64 0, .slice none 0 0, .slice none 0 0] 24) = A1 at hx1 l1 hn1
  have hx01 : Nx A.next A A1 := hx0.trans (hx1.le hx0.next)
  have b0 := (hx1.cl (show A.next < A0.next by omega) 0).trans b0
  have b1 := (hx1.cl (show A.next < A0.next by omega) 1).trans b1
  have b2 := (hx1.cl (show A.next < A0.next by omega) 2).trans b2
  rw [s_in1]
  (repeat (first | refine Rn.seq hc ?_ | refine Rn.skip hc ?_ | refine Rn.block hc ?_ | refine Rn.inBlock hc ?_ | refine Rn.scope hc ?_ | refine Rn.inScope hc ?_))
  refine Rn.reg hc rfl ?_
  simp only [sev_tmp, sg_eq, Nat.reduceLT, gd, want_free, rops, fx, Option.some.injEq, exists_eq_left', Value.cells, show Try.f83.ntmps = 61 from rfl, e0, ze24, e1]
  (repeat (first | refine Rn.seq hc ?_ | refine Rn.skip hc ?_ | refine Rn.block hc ?_ | refine Rn.inBlock hc ?_ | refine Rn.scope hc ?_ | refine Rn.inScope hc ?_))
  refine Rn.reg hc rfl ?_
  simp only [sev_const, gd, want_free, rops, fx, Option.some.injEq, exists_eq_left']
  (repeat (first | refine Rn.seq hc ?_ | refine Rn.skip hc ?_ | refine Rn.block hc ?_ | refine Rn.inBlock hc ?_ | refine Rn.scope hc ?_ | refine Rn.inScope hc ?_))
  refine Rn.loopI hc (I := fun k s B => ∃ n, 1 ≤ n ∧ n ≤ ro.length ∧ k = ro.length - n ∧ Nx A1.next A1 B ∧ (∀ e, 0 < e → e < n → perOK ro e = false) ∧ s.n = 61 ∧ sget s 1 = .pointer (some ⟨A.next, 0, none⟩) ∧ sget s 2 = .pointer (some ⟨A0.next, 0, none⟩) ∧ sget s 3 = .int .i64 (n : Int))
    (n := ro.length - 1) ⟨1, by omega, hro, rfl, Nx.refl hx1.wf _, fun e h1 h2 => by omega, by simp only [sp_n], by simp only [sg_eq, sg_ne, sp_n, Nat.reduceLT, ne_eq, Nat.reduceEqDiff, not_false_eq_true], by simp only [sg_eq, sg_ne, sp_n, Nat.reduceLT, ne_eq, Nat.reduceEqDiff, not_false_eq_true, hn0], by simp only [sg_eq, sp_n, Nat.reduceLT]; rfl⟩ ?_
  rintro k s B ⟨n, hnn1, hnn2, rfl, hB, hmin, hn, s1, s2, s3⟩ ih
  have n01 : A.next < A1.next := by omega
  have b0 := (hB.cl n01 0).trans b0
  have b1 := (hB.cl n01 1).trans b1
  have b2 := (hB.cl n01 2).trans b2
  have hB0 : Nx A.next A B := hx01.trans (hB.le hx01.next)
  have hsB : Ints B sa 0 B.next st := (hs.nx hB0 (Nat.le_refl _)).mono (Nat.le_refl _) hB0.next
  have hrB : Ints B ra 0 B.next ro := (hr.nx hB0 (Nat.le_refl _)).mono (Nat.le_refl _) hB0.next
  (repeat (first | refine Rn.seq hc ?_ | refine Rn.skip hc ?_ | refine Rn.block hc ?_ | refine Rn.inBlock hc ?_ | refine Rn.scope hc ?_ | refine Rn.inScope hc ?_))
  refine Rn.region hc fun K hK => ?_
  refine Wo.run hc 3 rfl rfl rfl ?_
  simp (maxSteps := 2000000) only [List.drop_zero, List.take_succ_cons, List.take_zero, sev_tmp, sg_eq, sg_ne, Nat.reduceLT, ne_eq, Nat.reduceEqDiff, not_false_eq_true, gd, want_free, rops, fx, ld, fad, adr_p, Nat.zero_add, Option.some.injEq, exists_eq_left', tk22, fo24_2, hn, s1, s3, b2]
  refine Wo.call hc (by rfl) (by rfl) ⟨by rfl, by rfl⟩ (xs := [.slice ra ro.length rc, .int .i64 (n : Int)]) (by first | rfl | (simp only [sev_tmp, sev_const, sev_func, sg_eq, sg_ne, sp_n, sp_none, Nat.reduceLT, ne_eq, Nat.reduceEqDiff, not_false_eq_true, gd, nth, want_free, want_slot, beqB, List.map_cons, List.map_nil, Array.toList_empty, List.nil_append, List.append_nil, List.cons_append, hn]; done) | (simp only [sev_tmp, sev_const, sev_func, sg_eq, sg_ne, sp_n, sp_none, Nat.reduceLT, ne_eq, Nat.reduceEqDiff, not_false_eq_true, gd, nth, want_free, want_slot, beqB, List.map_cons, List.map_nil, Array.toList_empty, List.nil_append, List.append_nil, List.cons_append, hn]; rfl)) (by first | rfl | (simp only [sev_tmp, sev_const, sev_func, sg_eq, sg_ne, sp_n, sp_none, Nat.reduceLT, ne_eq, Nat.reduceEqDiff, not_false_eq_true, gd, nth, want_free, want_slot, beqB, List.map_cons, List.map_nil, Array.toList_empty, List.nil_append, List.append_nil, List.cons_append, hn]; done) | (simp only [sev_tmp, sev_const, sev_func, sg_eq, sg_ne, sp_n, sp_none, Nat.reduceLT, ne_eq, Nat.reduceEqDiff, not_false_eq_true, gd, nth, want_free, want_slot, beqB, List.map_cons, List.map_nil, Array.toList_empty, List.nil_append, List.append_nil, List.cons_append, hn]; rfl)) (by first | rfl | (simp only [sev_tmp, sg_eq, sg_ne, sp_n, Nat.reduceLT, ne_eq, Nat.reduceEqDiff, not_false_eq_true, List.map_cons, List.map_nil, List.nil_append, List.append_nil, hn]; done) | (simp only [sev_tmp, sev_const, sev_func, sg_eq, sg_ne, sp_n, sp_none, Nat.reduceLT, ne_eq, Nat.reduceEqDiff, not_false_eq_true, gd, nth, want_free, want_slot, beqB, List.map_cons, List.map_nil, Array.toList_empty, List.nil_append, List.append_nil, List.cons_append, hn]; rfl)) (Con.mono (turns_ref hB.wf hrB lr (by omega) (by omega)) ?_)
  rintro w C ⟨rfl, hC⟩
  have hBC : Nx A1.next A1 C := hB.trans (hC.le hB.next)
  cases hp : perOK ro n with
  | false =>
    refine Wo.run hc 1 rfl rfl rfl ?_
    simp (maxSteps := 2000000) only [List.drop_zero, List.drop_succ_cons, List.take_succ_cons, List.take_zero, sev_tmp, sg_eq, sp_n, Nat.reduceLT, gd, want_free, rops, fx, Option.some.injEq, exists_eq_left', Nat.reduceAdd, Bool.not_false, ae_not', Bool.not_false, hn, Bool.not_false]
    refine Wo.done hc rfl (hK _ _ ?_)
    clear hK
    (repeat (first | refine Rn.seq hc ?_ | refine Rn.skip hc ?_ | refine Rn.block hc ?_ | refine Rn.inBlock hc ?_ | refine Rn.scope hc ?_ | refine Rn.inScope hc ?_))
    refine Rn.condE hc rfl ?_
    simp only [sev_tmp, sg_eq, sp_n, Nat.reduceLT, Value.bool.injEq, exists_eq_left', hn]
    (repeat (first | refine Rn.seq hc ?_ | refine Rn.skip hc ?_ | refine Rn.block hc ?_ | refine Rn.inBlock hc ?_ | refine Rn.scope hc ?_ | refine Rn.inScope hc ?_))
    have hnl : n < ro.length := Nat.lt_of_le_of_ne hnn2 fun e => by
      rw [e, perOK_self] at hp
      cases hp
    refine Rn.reg hc rfl ?_
    simp only [sev_tmp, sev_const, sg_eq, sg_ne, sp_n, Nat.reduceLT, ne_eq, Nat.reduceEqDiff, not_false_eq_true, gd, want_free, rops, fx, bin_add, Option.some.injEq, exists_eq_left', hn, s3, wrap_succ (show n < 9223372036854775807 by omega)]
    (repeat (first | refine Rn.seq hc ?_ | refine Rn.skip hc ?_ | refine Rn.block hc ?_ | refine Rn.inBlock hc ?_ | refine Rn.scope hc ?_ | refine Rn.inScope hc ?_))
    refine ih _ _ _ (by omega) ⟨n + 1, by omega, by omega, rfl, hBC, fun e h1 h2 => ?_, by simp only [sp_n, hn], by simp only [sg_ne, ne_eq, Nat.reduceEqDiff, not_false_eq_true, s1], by simp only [sg_ne, ne_eq, Nat.reduceEqDiff, not_false_eq_true, s2], by simp only [sg_eq, sp_n, Nat.reduceLT, hn]⟩
    by_cases hen : e = n
    · subst hen; exact hp
    · exact hmin e h1 (by omega)
  | true =>
    clear ih
    refine Wo.run hc 1 rfl rfl rfl ?_
    simp (maxSteps := 2000000) only [List.drop_zero, List.drop_succ_cons, List.take_succ_cons, List.take_zero, sev_tmp, sg_eq, sp_n, Nat.reduceLT, gd, want_free, rops, fx, Option.some.injEq, exists_eq_left', Nat.reduceAdd, Bool.not_true, ae_not', Bool.not_true, hn, Bool.not_true]
    refine Wo.done hc rfl (hK _ _ ?_)
    clear hK
    (repeat (first | refine Rn.seq hc ?_ | refine Rn.skip hc ?_ | refine Rn.block hc ?_ | refine Rn.inBlock hc ?_ | refine Rn.scope hc ?_ | refine Rn.inScope hc ?_))
    refine Rn.condE hc rfl ?_
    simp only [sev_tmp, sg_eq, sp_n, Nat.reduceLT, Value.bool.injEq, exists_eq_left', hn]
    (repeat (first | refine Rn.seq hc ?_ | refine Rn.skip hc ?_ | refine Rn.block hc ?_ | refine Rn.inBlock hc ?_ | refine Rn.scope hc ?_ | refine Rn.inScope hc ?_))
    refine Rn.exit hc rfl ?_
    (repeat (first | refine Rn.seq hc ?_ | refine Rn.skip hc ?_ | refine Rn.block hc ?_ | refine Rn.inBlock hc ?_ | refine Rn.scope hc ?_ | refine Rn.inScope hc ?_))
    have hper := perOK_per (st := st) hro (by omega) hp
    have hpmin : ∀ N e, Per (atL st ro) N e → n ≤ e := fun N e => min_per hro hmin
    have c1 := (hC.cl (show A.next < B.next by have := hB.next; omega) 1).trans b1
    have c2 := (hC.cl (show A.next < B.next by have := hB.next; omega) 2).trans b2
    have c0 := (hC.cl (show A.next < B.next by have := hB.next; omega) 0).trans b0
    have hC0 : Nx A.next A C := hx01.trans (hBC.le hx01.next)
    have hsC : Ints C sa 0 C.next st := (hs.nx hC0 (Nat.le_refl _)).mono (Nat.le_refl _) hC0.next
    have hrC : Ints C ra 0 C.next ro := (hr.nx hC0 (Nat.le_refl _)).mono (Nat.le_refl _) hC0.next
    have hslC : Sl C ra 0 := hsl.nx hw hC0
    have hCn := hC.next
    have hBn := hB.next
    clear b0 b1 b2 hsB hrB hC hB hB0 hs hr
    obtain ⟨F, hF1, hF2, hF3, hF⟩ : ∃ F : AHeap → Prop, (∀ M, F M → cl M A.next 1 = some (.slice sa st.length sc)) ∧ (∀ M, F M → cl M A.next 2 = some (.slice ra ro.length rc)) ∧ (∀ M, F M → asl Try.prog 22 (.slice ra ro.length rc) none (some (.int .i64 (n : Int))) none M = some (.slice ra n rc, M)) ∧ (∀ M, Nx C.next C M → F M) :=
      ⟨fun M => Nx C.next C M, fun M h => (h.cl (by omega) 1).trans c1, fun M h => (h.cl (by omega) 2).trans c2, fun M h => asl_pos ((hrC.nx h (Nat.le_refl _)).mono (Nat.le_refl _) h.next) (hslC.nx hBC.wf h) hrc hro hnn2, fun _ h => h⟩
    have hbk : Nx C.next C (bump C 12) := Nx.bump (Nx.refl hBC.wf _) 12
    have FB := hF _ hbk
    refine Rn.drawnF hc hx noS F (n := 4) (k := 12) (by kernel_rfl) (by kernel_rfl) (by rfl) ?_
    refine Dr.float (by rfl) (by rfl) (by rfl) fb22_0 ?_
    refine Dr.read (by first | rfl | kernel_rfl) (by first | rfl | (simp only [sev_tmp, sev_const, sev_func, sg_eq, sg_ne, sp_n, sp_none, Nat.reduceLT, ne_eq, Nat.reduceEqDiff, not_false_eq_true, gd, nth, want_free, want_slot, beqB, List.map_cons, List.map_nil, Array.toList_empty, List.nil_append, List.append_nil, List.cons_append, hn]; done) | (simp only [sev_tmp, sev_const, sev_func, sg_eq, sg_ne, sp_n, sp_none, Nat.reduceLT, ne_eq, Nat.reduceEqDiff, not_false_eq_true, gd, nth, want_free, want_slot, beqB, List.map_cons, List.map_nil, Array.toList_empty, List.nil_append, List.append_nil, List.cons_append, hn]; rfl)) (by assumption) (fun M hM => by simp only [sev_tmp, sg_ne, ne_eq, Nat.reduceEqDiff, not_false_eq_true, fx, fad, adr_p, Nat.zero_add, Nat.add_zero, fo24_1, s1] <;> rfl) (by rfl) (by first | exact VQ.int _ _ | exact VQ.bool _ | exact VQ.ptr _ _ | exact VQ.slice _ _ _ | exact VQ.func (by simp [vq_int, vq_ptr, vq_slice]) (by simp [vq_int, vq_ptr, vq_slice]) | exact VQ.agg (by simp [vq_int, vq_ptr, vq_slice]) | exact VQ.tuple (by simp [vq_int, vq_ptr, vq_slice])) ?_
    refine Dr.read (by first | rfl | kernel_rfl) (by first | rfl | (simp only [sev_tmp, sev_const, sev_func, sg_eq, sg_ne, sp_n, sp_none, Nat.reduceLT, ne_eq, Nat.reduceEqDiff, not_false_eq_true, gd, nth, want_free, want_slot, beqB, List.map_cons, List.map_nil, Array.toList_empty, List.nil_append, List.append_nil, List.cons_append, hn]; done) | (simp only [sev_tmp, sev_const, sev_func, sg_eq, sg_ne, sp_n, sp_none, Nat.reduceLT, ne_eq, Nat.reduceEqDiff, not_false_eq_true, gd, nth, want_free, want_slot, beqB, List.map_cons, List.map_nil, Array.toList_empty, List.nil_append, List.append_nil, List.cons_append, hn]; rfl)) (by assumption) (fun M hM => by simp only [sev_tmp, sg_eq, sp_n, Nat.reduceLT, fx, ld, adr_p, Nat.add_zero, tk22, hn, hF1 M hM] <;> rfl) (by rfl) (by first | exact VQ.int _ _ | exact VQ.bool _ | exact VQ.ptr _ _ | exact VQ.slice _ _ _ | exact VQ.func (by simp [vq_int, vq_ptr, vq_slice]) (by simp [vq_int, vq_ptr, vq_slice]) | exact VQ.agg (by simp [vq_int, vq_ptr, vq_slice]) | exact VQ.tuple (by simp [vq_int, vq_ptr, vq_slice])) ?_
    obtain ⟨C1, p1, hxC1, eC1, lC1, kC1⟩ := place_row hbk (b := C.next + 0) (by omega) (by rw [bump_next]; omega) (hBC.wf.none (by omega)) [] 3 0 0
    rw [bump_next] at eC1
    obtain ⟨xa, C2, q1, k2, g2⟩ := app_at (n := C.next) hxC1.wf ⟨_, lC1, rfl, rfl⟩ (by omega) (by omega) (by omega) (c2 := sc) ((hsC.nx hxC1 (Nat.le_refl _)).mono (Nat.le_refl _) hxC1.next) ls
    have hC2 : Nx C.next C C2 := hxC1.trans (k2.le (by omega))
    refine Dr.eff (by rfl) (by rfl) (pd1 := [(0, ⟨[], 3, .sl 0 0⟩)]) (pd2 := []) (by kernel_rfl) (by kernel_rfl) (ms0 := [bump C 12]) (A0 := C1) (by simp only [placeAll, p1]) (fun M hM => by rw [List.mem_singleton] at hM; rw [hM]; exact FB) (hF _ hxC1) (by rfl)
      (v := .slice xa st.length st.length) (A1 := C2) (opRun_op rfl (by simp only [sev_tmp, sg_eq, sg_ne, sp_n, Nat.reduceLT, ne_eq, Nat.reduceEqDiff, not_false_eq_true, Nat.add_zero, hn, ae_apd, apd_slice, FK.val]; exact q1)) ?_
    have FC2 := hF _ hC2
    refine Dr.float (by rfl) (by rfl) (by rfl) fb22_0 ?_
    refine Dr.read (by first | rfl | kernel_rfl) (by first | rfl | (simp only [sev_tmp, sev_const, sev_func, sg_eq, sg_ne, sp_n, sp_none, Nat.reduceLT, ne_eq, Nat.reduceEqDiff, not_false_eq_true, gd, nth, want_free, want_slot, beqB, List.map_cons, List.map_nil, Array.toList_empty, List.nil_append, List.append_nil, List.cons_append, hn]; done) | (simp only [sev_tmp, sev_const, sev_func, sg_eq, sg_ne, sp_n, sp_none, Nat.reduceLT, ne_eq, Nat.reduceEqDiff, not_false_eq_true, gd, nth, want_free, want_slot, beqB, List.map_cons, List.map_nil, Array.toList_empty, List.nil_append, List.append_nil, List.cons_append, hn]; rfl)) (by assumption) (fun M hM => by simp only [sev_tmp, sg_ne, ne_eq, Nat.reduceEqDiff, not_false_eq_true, fx, fad, adr_p, Nat.zero_add, Nat.add_zero, Nat.reduceAdd, fo24_2, s1] <;> rfl) (by rfl) (by first | exact VQ.int _ _ | exact VQ.bool _ | exact VQ.ptr _ _ | exact VQ.slice _ _ _ | exact VQ.func (by simp [vq_int, vq_ptr, vq_slice]) (by simp [vq_int, vq_ptr, vq_slice]) | exact VQ.agg (by simp [vq_int, vq_ptr, vq_slice]) | exact VQ.tuple (by simp [vq_int, vq_ptr, vq_slice])) ?_
    refine Dr.read (by first | rfl | kernel_rfl) (by first | rfl | (simp only [sev_tmp, sev_const, sev_func, sg_eq, sg_ne, sp_n, sp_none, Nat.reduceLT, ne_eq, Nat.reduceEqDiff, not_false_eq_true, gd, nth, want_free, want_slot, beqB, List.map_cons, List.map_nil, Array.toList_empty, List.nil_append, List.append_nil, List.cons_append, hn]; done) | (simp only [sev_tmp, sev_const, sev_func, sg_eq, sg_ne, sp_n, sp_none, Nat.reduceLT, ne_eq, Nat.reduceEqDiff, not_false_eq_true, gd, nth, want_free, want_slot, beqB, List.map_cons, List.map_nil, Array.toList_empty, List.nil_append, List.append_nil, List.cons_append, hn]; rfl)) (by assumption) (fun M hM => by simp only [sev_tmp, sg_eq, sp_n, Nat.reduceLT, fx, ld, adr_p, Nat.zero_add, Nat.add_zero, Nat.reduceAdd, tk22, hn, hF2 M hM] <;> rfl) (by rfl) (by first | exact VQ.int _ _ | exact VQ.bool _ | exact VQ.ptr _ _ | exact VQ.slice _ _ _ | exact VQ.func (by simp [vq_int, vq_ptr, vq_slice]) (by simp [vq_int, vq_ptr, vq_slice]) | exact VQ.agg (by simp [vq_int, vq_ptr, vq_slice]) | exact VQ.tuple (by simp [vq_int, vq_ptr, vq_slice])) ?_
    refine Dr.read (by first | rfl | kernel_rfl) (by first | rfl | (simp only [sev_tmp, sev_const, sev_func, sg_eq, sg_ne, sp_n, sp_none, Nat.reduceLT, ne_eq, Nat.reduceEqDiff, not_false_eq_true, gd, nth, want_free, want_slot, beqB, List.map_cons, List.map_nil, Array.toList_empty, List.nil_append, List.append_nil, List.cons_append, hn]; done) | (simp only [sev_tmp, sev_const, sev_func, sg_eq, sg_ne, sp_n, sp_none, Nat.reduceLT, ne_eq, Nat.reduceEqDiff, not_false_eq_true, gd, nth, want_free, want_slot, beqB, List.map_cons, List.map_nil, Array.toList_empty, List.nil_append, List.append_nil, List.cons_append, hn]; rfl)) (by assumption) (fun M hM => by simp only [sev_tmp, sg_ne, ne_eq, Nat.reduceEqDiff, not_false_eq_true, fx, Nat.zero_add, Nat.add_zero, Nat.reduceAdd, s3] <;> rfl) (by rfl) (by first | exact VQ.int _ _ | exact VQ.bool _ | exact VQ.ptr _ _ | exact VQ.slice _ _ _ | exact VQ.func (by simp [vq_int, vq_ptr, vq_slice]) (by simp [vq_int, vq_ptr, vq_slice]) | exact VQ.agg (by simp [vq_int, vq_ptr, vq_slice]) | exact VQ.tuple (by simp [vq_int, vq_ptr, vq_slice])) ?_
    refine Dr.read (by first | rfl | kernel_rfl) (by first | rfl | (simp only [sev_tmp, sev_const, sev_func, sg_eq, sg_ne, sp_n, sp_none, Nat.reduceLT, ne_eq, Nat.reduceEqDiff, not_false_eq_true, gd, nth, want_free, want_slot, beqB, List.map_cons, List.map_nil, Array.toList_empty, List.nil_append, List.append_nil, List.cons_append, hn]; done) | (simp only [sev_tmp, sev_const, sev_func, sg_eq, sg_ne, sp_n, sp_none, Nat.reduceLT, ne_eq, Nat.reduceEqDiff, not_false_eq_true, gd, nth, want_free, want_slot, beqB, List.map_cons, List.map_nil, Array.toList_empty, List.nil_append, List.append_nil, List.cons_append, hn]; rfl)) (by assumption) (fun M hM => by simp only [sev_tmp, sg_eq, sg_ne, sp_n, Nat.reduceLT, ne_eq, Nat.reduceEqDiff, not_false_eq_true, fx, Nat.zero_add, Nat.add_zero, Nat.reduceAdd, hn, ae_asl_hi, hF3 M hM] <;> rfl) (by rfl) (by first | exact VQ.int _ _ | exact VQ.bool _ | exact VQ.ptr _ _ | exact VQ.slice _ _ _ | exact VQ.func (by simp [vq_int, vq_ptr, vq_slice]) (by simp [vq_int, vq_ptr, vq_slice]) | exact VQ.agg (by simp [vq_int, vq_ptr, vq_slice]) | exact VQ.tuple (by simp [vq_int, vq_ptr, vq_slice])) ?_
    have hn2 := k2.next
    have hnb : Canon.look C2.objs (C.next + 4) = none := by rw [k2.keep _ (by omega), kC1 _ (by omega)]; exact hBC.wf.none (by omega)
    obtain ⟨C3, p3, hxC3, eC3, lC3, kC3⟩ := place_row hC2 (b := C.next + 4) (by omega) (by omega) hnb [] 3 0 0
    have htk : (ro.take n).length = n := by simp; omega
    obtain ⟨xr, C4, q4, k4, g4⟩ := app_at (n := C.next) hxC3.wf ⟨_, lC3, rfl, rfl⟩ (by omega) (by omega) (by omega) (c2 := rc) (((hrC.nx hxC3 (Nat.le_refl _)).mono (Nat.le_refl _) hxC3.next).take (n := n)) (by omega)
    rw [htk] at q4
    have hC4 : Nx C.next C C4 := hxC3.trans (k4.le (by omega))
    refine Dr.eff (by rfl) (by rfl) (pd1 := [(4, ⟨[], 3, .sl 0 0⟩)]) (pd2 := []) (by kernel_rfl) (by kernel_rfl) (ms0 := [C2]) (A0 := C3) (by simp only [placeAll, p3]) (fun M hM => by rw [List.mem_singleton] at hM; rw [hM]; exact FC2) (hF _ hxC3) (by rfl)
      (v := .slice xr n n) (A1 := C4) (opRun_op rfl (by simp only [sev_tmp, sg_eq, sg_ne, sp_n, Nat.reduceLT, ne_eq, Nat.reduceEqDiff, not_false_eq_true, Nat.zero_add, Nat.add_zero, Nat.reduceAdd, hn, ae_apd, apd_slice, FK.val]; exact q4)) ?_
    have FC4 := hF _ hC4
    refine Dr.read (by first | rfl | kernel_rfl) (by first | rfl | (simp only [sev_tmp, sev_const, sev_func, sg_eq, sg_ne, sp_n, sp_none, Nat.reduceLT, ne_eq, Nat.reduceEqDiff, not_false_eq_true, gd, nth, want_free, want_slot, beqB, List.map_cons, List.map_nil, Array.toList_empty, List.nil_append, List.append_nil, List.cons_append, hn]; done) | (simp only [sev_tmp, sev_const, sev_func, sg_eq, sg_ne, sp_n, sp_none, Nat.reduceLT, ne_eq, Nat.reduceEqDiff, not_false_eq_true, gd, nth, want_free, want_slot, beqB, List.map_cons, List.map_nil, Array.toList_empty, List.nil_append, List.append_nil, List.cons_append, hn]; rfl)) (by assumption) (fun M hM => by simp only [sev_tmp, sg_eq, sg_ne, sp_n, Nat.reduceLT, ne_eq, Nat.reduceEqDiff, not_false_eq_true, fx, Nat.zero_add, Nat.add_zero, Nat.reduceAdd, hn] <;> rfl) (by rfl) (by first | exact VQ.int _ _ | exact VQ.bool _ | exact VQ.ptr _ _ | exact VQ.slice _ _ _ | exact VQ.func (by simp [vq_int, vq_ptr, vq_slice]) (by simp [vq_int, vq_ptr, vq_slice]) | exact VQ.agg (by simp [vq_int, vq_ptr, vq_slice]) | exact VQ.tuple (by simp [vq_int, vq_ptr, vq_slice])) ?_
    refine Dr.read (by first | rfl | kernel_rfl) (by first | rfl | (simp only [sev_tmp, sev_const, sev_func, sg_eq, sg_ne, sp_n, sp_none, Nat.reduceLT, ne_eq, Nat.reduceEqDiff, not_false_eq_true, gd, nth, want_free, want_slot, beqB, List.map_cons, List.map_nil, Array.toList_empty, List.nil_append, List.append_nil, List.cons_append, hn]; done) | (simp only [sev_tmp, sev_const, sev_func, sg_eq, sg_ne, sp_n, sp_none, Nat.reduceLT, ne_eq, Nat.reduceEqDiff, not_false_eq_true, gd, nth, want_free, want_slot, beqB, List.map_cons, List.map_nil, Array.toList_empty, List.nil_append, List.append_nil, List.cons_append, hn]; rfl)) (by assumption) (fun M hM => by simp only [sev_tmp, sg_eq, sg_ne, sp_n, Nat.reduceLT, ne_eq, Nat.reduceEqDiff, not_false_eq_true, fx, Nat.zero_add, Nat.add_zero, Nat.reduceAdd, hn] <;> rfl) (by rfl) (by first | exact VQ.int _ _ | exact VQ.bool _ | exact VQ.ptr _ _ | exact VQ.slice _ _ _ | exact VQ.func (by simp [vq_int, vq_ptr, vq_slice]) (by simp [vq_int, vq_ptr, vq_slice]) | exact VQ.agg (by simp [vq_int, vq_ptr, vq_slice]) | exact VQ.tuple (by simp [vq_int, vq_ptr, vq_slice])) ?_
    refine Dr.nil (by rfl) (fun M hM => by cases hM) FC4 ⟨C4, by rfl, ?_⟩
    refine Rn.seq hc ?_
    have htake : st = redS (atL st ro) st.length := by
      refine List.ext_getElem (by rw [redS_len]) fun i h1 h2 => ?_
      have := atL_st (ro := ro) h1
      simp [redS, this, List.getD_eq_getElem?_getD, h1]
    have htakeR : ro.take n = redR (atL st ro) st.length n := by
      refine List.ext_getElem (by rw [redR_len]; exact htk) fun i h1 h2 => ?_
      have hi : i < n := by omega
      have := atL_ro (st := st) (show i < ro.length by omega)
      simp [redR, this, List.getD_eq_getElem?_getD, show i < ro.length by omega]
    have gA : Gr C4 xa C.next st := (g2.ext (by omega) fun b' hb' => (by
      by_cases hbb : b' = C.next + 4
      · exact .inl (hbb ▸ hnb)
      · exact .inr (kC3 _ hbb) : Canon.look C2.objs b' = none ∨ Canon.look C3.objs b' = Canon.look C2.objs b')).nx (n := 0) hxC3.wf k4
    rw [htakeR] at g4
    have g4' := g4
    have gA1 := gA.ints
    have gA2 := gA.sl
    have s0' : st.length ≤ st.length := Nat.le_refl _
    clear g2 gA k2 k4 p1 p3 q1 q4 FB FC2 FC4 lC1 lC3 kC1 kC3 hxC1 hxC3 eC1 eC3 hbk
    rw [htake] at gA1
    refine Rn.cut2 hc (Q1 := fun s ds M => ds = [] ∧ ∃ e xc xr, e ≤ st.length ∧ e ≤ xc ∧ Nx C.next C M ∧ Red (atL st ro) e n ∧ Ints M xa C.next M.next (redS (atL st ro) e) ∧ Sl M xa C.next ∧ Ints M xr C.next M.next (redR (atL st ro) e n) ∧ Sl M xr C.next ∧ s.n = 61 ∧ sget s 1 = .pointer (some ⟨A.next, 0, none⟩) ∧ sget s 2 = .pointer (some ⟨A0.next, 0, none⟩) ∧ sget s 4 = .slice xa e xc ∧ sget s 5 = .slice xr n n)
      (Q2 := fun _ _ _ => False) ?_ ?_ ?_
    · (repeat (first | refine Rn.seq hc ?_ | refine Rn.skip hc ?_ | refine Rn.block hc ?_ | refine Rn.inBlock hc ?_ | refine Rn.scope hc ?_ | refine Rn.inScope hc ?_))
      refine Rn.loopI hc (I := fun k s M => ∃ e xc xr, e ≤ st.length ∧ e ≤ xc ∧ k = e ∧ Nx C.next C M ∧ Per (atL st ro) e n ∧ Ints M xa C.next M.next (redS (atL st ro) e) ∧ Sl M xa C.next ∧ Ints M xr C.next M.next (redR (atL st ro) e n) ∧ Sl M xr C.next ∧ s.n = 61 ∧ sget s 1 = .pointer (some ⟨A.next, 0, none⟩) ∧ sget s 2 = .pointer (some ⟨A0.next, 0, none⟩) ∧ sget s 3 = .int .i64 (n : Int) ∧ sget s 4 = .slice xa e xc ∧ sget s 5 = .slice xr n n)
        (n := st.length) ⟨st.length, st.length, xr, s0', s0', rfl, hC4, hper, gA1, gA2, g4.ints, g4.sl, by simp only [sp_n, hn], by simp only [sg_ne, ne_eq, Nat.reduceEqDiff, not_false_eq_true, s1], by simp only [sg_ne, ne_eq, Nat.reduceEqDiff, not_false_eq_true, s2], by simp only [sg_ne, ne_eq, Nat.reduceEqDiff, not_false_eq_true, s3], by simp only [sg_eq, sg_ne, sp_n, Nat.reduceLT, ne_eq, Nat.reduceEqDiff, not_false_eq_true, hn], by simp only [sg_eq, sp_n, Nat.reduceLT, hn]⟩ ?_
      clear g4 g4' gA1 gA2 hn s1 s2 s3 hC4 s xr
      rintro k s M ⟨e, xc, xr, he1, he2, rfl, hM, hpe, ia, la, ir, lr', hn, s1, s2, s3, s4, s5⟩ ih
      have hlS := redS_len (atL st ro) k
      have hlR := redR_len (atL st ro) k n
      (repeat (first | refine Rn.seq hc ?_ | refine Rn.skip hc ?_ | refine Rn.block hc ?_ | refine Rn.inBlock hc ?_ | refine Rn.scope hc ?_ | refine Rn.inScope hc ?_))
      by_cases he0 : k = 0
      · clear ih
        have hd0 : decide ((0 : Int) < (k : Int)) = false := decide_eq_false (by omega)
        refine Rn.drawnR hc hx (by kernel_rfl) (by rfl) (by kernel_rfl) ?_ ?_
        · simp only [rdV, VQ.int, VQ.bool, VQ.slice, sev_tmp, sev_const, sg_eq, sg_ne, sp_n, Nat.reduceLT, ne_eq, Nat.reduceEqDiff, not_false_eq_true, gd, nth, want_free, want_slot, beqB, fx, lng, pck, bin_gtr, Nat.zero_add, Nat.reduceAdd, and_self, un22, hn, s4, hd0, List.length_cons, List.length_nil]
        simp only [sev_tmp, sev_const, sg_eq, sg_ne, sp_n, Nat.reduceLT, ne_eq, Nat.reduceEqDiff, not_false_eq_true, gd, nth, want_free, want_slot, beqB, rops, fx, lng, pck, bin_gtr, Nat.zero_add, Option.some.injEq, exists_eq_left', Nat.reduceAdd, un22, hn, s4, hd0, List.length_cons, List.length_nil]
        (repeat (first | refine Rn.seq hc ?_ | refine Rn.skip hc ?_ | refine Rn.block hc ?_ | refine Rn.inBlock hc ?_ | refine Rn.scope hc ?_ | refine Rn.inScope hc ?_))
        refine Rn.condE hc rfl ?_
        simp only [sev_tmp, sg_eq, sp_n, Nat.reduceLT, Value.bool.injEq, exists_eq_left', hn]
        (repeat (first | refine Rn.seq hc ?_ | refine Rn.skip hc ?_ | refine Rn.block hc ?_ | refine Rn.inBlock hc ?_ | refine Rn.scope hc ?_ | refine Rn.inScope hc ?_))
        refine Rn.exit hc rfl ?_
        (repeat (first | refine Rn.seq hc ?_ | refine Rn.skip hc ?_ | refine Rn.block hc ?_ | refine Rn.inBlock hc ?_ | refine Rn.scope hc ?_ | refine Rn.inScope hc ?_))
        have hMb : Nx M.next M (bump M 17) := Nx.bump (Nx.refl hM.wf _) 17
        exact Rn.fall ⟨rfl, k, xc, xr, he1, he2, hM.trans (hMb.le hM.next), red_of hpe hpmin (fun h => absurd h (by omega)), (ia.nx hMb (Nat.le_refl _)).mono (Nat.le_refl _) hMb.next, la.nx hM.wf hMb, (ir.nx hMb (Nat.le_refl _)).mono (Nat.le_refl _) hMb.next, lr'.nx hM.wf hMb, by simp only [sp_n, hn], by simp only [sg_ne, ne_eq, Nat.reduceEqDiff, not_false_eq_true, s1], by simp only [sg_ne, ne_eq, Nat.reduceEqDiff, not_false_eq_true, s2], by simp only [sg_ne, ne_eq, Nat.reduceEqDiff, not_false_eq_true, s4], by simp only [sg_ne, ne_eq, Nat.reduceEqDiff, not_false_eq_true, s5]⟩
      · have hel : k - 1 < (redS (atL st ro) k).length := by omega
        have hnl : n - 1 < (redR (atL st ro) k n).length := by omega
        obtain ⟨bb, o, hxa, _, hb1, hcl⟩ := ia (k - 1) hel
        obtain ⟨bb', o', hxr, _, hb2, hcl'⟩ := ir (n - 1) hnl
        rw [redS_get (by omega)] at hcl
        rw [redR_get (by omega), show k + (n - 1) = k - 1 + n by omega] at hcl'
        have hd0 : decide ((0 : Int) < (k : Int)) = true := decide_eq_true (by omega)
        have hw1 := wrap_pred (k := k) (by omega) (by omega)
        have hw2 := wrap_pred (k := n) (by omega) (by omega)
        have hel' : k - 1 < k := by omega
        have hnl' : n - 1 < n := by omega
        subst hxa hxr
        by_cases heq : atL st ro (k - 1) = atL st ro (k - 1 + n)
        · have hdq : decide (atL st ro (k - 1) = atL st ro (k - 1 + n)) = true := decide_eq_true heq
          refine Rn.drawnR hc hx (by kernel_rfl) (by rfl) (by kernel_rfl) ?_ ?_
          · simp only [rdV, VQ.int, VQ.bool, VQ.ptr, VQ.slice, cl_bump, sev_tmp, sev_const, sg_eq, sg_ne, sp_n, Nat.reduceLT, ne_eq, Nat.reduceEqDiff, not_false_eq_true, gd, nth, want_free, want_slot, beqB, fx, ld, idx, lng, pck, bin_gtr, bin_eql, bin_sub, adr_p, Nat.zero_add, Nat.reduceAdd, Nat.mul_one, and_self, tk3, un22, eo22, hn, s3, s4, s5, hd0, hw1, hw2, nlen_nat hel', nlen_nat hnl', hcl, hcl', hdq, List.length_cons, List.length_nil]
          simp only [cl_bump, sev_tmp, sev_const, sg_eq, sg_ne, sp_n, Nat.reduceLT, ne_eq, Nat.reduceEqDiff, not_false_eq_true, gd, nth, want_free, want_slot, beqB, rops, fx, ld, idx, lng, pck, bin_gtr, bin_eql, bin_sub, adr_p, Nat.zero_add, Option.some.injEq, exists_eq_left', Nat.reduceAdd, Nat.mul_one, tk3, un22, eo22, hn, s3, s4, s5, hd0, hw1, hw2, nlen_nat hel', nlen_nat hnl', hcl, hcl', hdq, List.length_cons, List.length_nil]
          (repeat (first | refine Rn.seq hc ?_ | refine Rn.skip hc ?_ | refine Rn.block hc ?_ | refine Rn.inBlock hc ?_ | refine Rn.scope hc ?_ | refine Rn.inScope hc ?_))
          refine Rn.condE hc rfl ?_
          simp only [sev_tmp, sg_eq, sp_n, Nat.reduceLT, Value.bool.injEq, exists_eq_left', hn]
          (repeat (first | refine Rn.seq hc ?_ | refine Rn.skip hc ?_ | refine Rn.block hc ?_ | refine Rn.inBlock hc ?_ | refine Rn.scope hc ?_ | refine Rn.inScope hc ?_))
          have hMb : Nx M.next M (bump M 17) := Nx.bump (Nx.refl hM.wf _) 17
          have hMC : Nx C.next C (bump M 17) := hM.trans (hMb.le hM.next)
          have ia := (ia.nx hMb (Nat.le_refl _)).mono (Nat.le_refl _) hMb.next
          have ir := (ir.nx hMb (Nat.le_refl _)).mono (Nat.le_refl _) hMb.next
          have la := la.nx hM.wf hMb
          have lr' := lr'.nx hM.wf hMb
          have hcl' : cl (bump M 17) bb' (o' + (n - 1)) = _ := hcl'
          have hb2 : bb' < (bump M 17).next := Nat.lt_of_lt_of_le hb2 hMb.next
          clear hMb
          generalize hM' : bump M 17 = M' at hMC ia ir la lr' hcl' hb2
          have has : asl Try.prog 22 (.slice (some ⟨bb, o, none⟩) k xc) none (some (.int .i64 ((k - 1 : Nat) : Int))) none M' = some (.slice (some ⟨bb, o, none⟩) (k - 1) xc, M') := by
            have := asl_pos (c := xc) (n := k - 1) ia la (by omega) (by omega) (by omega)
            rwa [hlS] at this
          refine Rn.reg hc rfl ?_
          simp only [sev_tmp, sev_const, sg_eq, sg_ne, sp_n, Nat.reduceLT, ne_eq, Nat.reduceEqDiff, not_false_eq_true, gd, want_free, rops, fx, lng, bin_sub, Option.some.injEq, exists_eq_left', un22, hn, s4, hw1, ae_asl_hi, has]
          (repeat (first | refine Rn.seq hc ?_ | refine Rn.skip hc ?_ | refine Rn.block hc ?_ | refine Rn.inBlock hc ?_ | refine Rn.scope hc ?_ | refine Rn.inScope hc ?_))
          have ia' := ia.take (n := k - 1)
          rw [redS_take _ (by omega)] at ia'
          obtain ⟨F, hF1, hF2, hF⟩ : ∃ F : AHeap → Prop, (∀ X, F X → cl X bb' (o' + (n - 1)) = some (.int .i64 (atL st ro (k - 1 + n)))) ∧ (∀ X, F X → asl Try.prog 22 (.slice (some ⟨bb', o', none⟩) n n) none (some (.int .i64 ((n - 1 : Nat) : Int))) none X = some (.slice (some ⟨bb', o', none⟩) (n - 1) n, X)) ∧ (∀ X, Nx M'.next M' X → F X) :=
            ⟨fun X => Nx M'.next M' X, fun X h => (h.cl hb2 _).trans hcl', fun X h => by
              have := asl_pos (n := n - 1) ((ir.nx h (Nat.le_refl _)).mono (Nat.le_refl _) h.next) (lr'.nx hMC.wf h) (c := n) (by omega) (by omega) (by omega)
              rwa [hlR] at this, fun _ h => h⟩
          have hbk : Nx M'.next M' (bump M' 12) := Nx.bump (Nx.refl hMC.wf _) 12
          have FB := hF _ hbk
          have hMn := hMC.next
          refine Rn.drawnF hc hx noS F (n := 2) (k := 12) (by kernel_rfl) (by kernel_rfl) (by rfl) ?_
          refine Dr.read (by first | rfl | kernel_rfl) (by first | rfl | (simp only [sev_tmp, sev_const, sev_func, sg_eq, sg_ne, sp_n, sp_none, Nat.reduceLT, ne_eq, Nat.reduceEqDiff, not_false_eq_true, gd, nth, want_free, want_slot, beqB, List.map_cons, List.map_nil, Array.toList_empty, List.nil_append, List.append_nil, List.cons_append, hn]; done) | (simp only [sev_tmp, sev_const, sev_func, sg_eq, sg_ne, sp_n, sp_none, Nat.reduceLT, ne_eq, Nat.reduceEqDiff, not_false_eq_true, gd, nth, want_free, want_slot, beqB, List.map_cons, List.map_nil, Array.toList_empty, List.nil_append, List.append_nil, List.cons_append, hn]; rfl)) (by assumption) (fun M hM => by simp only [sev_tmp, sg_ne, ne_eq, Nat.reduceEqDiff, not_false_eq_true, fx, s5] <;> rfl) (by rfl) (by first | exact VQ.int _ _ | exact VQ.bool _ | exact VQ.ptr _ _ | exact VQ.slice _ _ _ | exact VQ.func (by simp [vq_int, vq_ptr, vq_slice]) (by simp [vq_int, vq_ptr, vq_slice]) | exact VQ.agg (by simp [vq_int, vq_ptr, vq_slice]) | exact VQ.tuple (by simp [vq_int, vq_ptr, vq_slice])) ?_
          refine Dr.read (by first | rfl | kernel_rfl) (by first | rfl | (simp only [sev_tmp, sev_const, sev_func, sg_eq, sg_ne, sp_n, sp_none, Nat.reduceLT, ne_eq, Nat.reduceEqDiff, not_false_eq_true, gd, nth, want_free, want_slot, beqB, List.map_cons, List.map_nil, Array.toList_empty, List.nil_append, List.append_nil, List.cons_append, hn]; done) | (simp only [sev_tmp, sev_const, sev_func, sg_eq, sg_ne, sp_n, sp_none, Nat.reduceLT, ne_eq, Nat.reduceEqDiff, not_false_eq_true, gd, nth, want_free, want_slot, beqB, List.map_cons, List.map_nil, Array.toList_empty, List.nil_append, List.append_nil, List.cons_append, hn]; rfl)) (by assumption) (fun M hM => by simp only [sev_tmp, sg_ne, ne_eq, Nat.reduceEqDiff, not_false_eq_true, fx, s3] <;> rfl) (by rfl) (by first | exact VQ.int _ _ | exact VQ.bool _ | exact VQ.ptr _ _ | exact VQ.slice _ _ _ | exact VQ.func (by simp [vq_int, vq_ptr, vq_slice]) (by simp [vq_int, vq_ptr, vq_slice]) | exact VQ.agg (by simp [vq_int, vq_ptr, vq_slice]) | exact VQ.tuple (by simp [vq_int, vq_ptr, vq_slice])) ?_
          refine Dr.read (by first | rfl | kernel_rfl) (by first | rfl | (simp only [sev_tmp, sev_const, sev_func, sg_eq, sg_ne, sp_n, sp_none, Nat.reduceLT, ne_eq, Nat.reduceEqDiff, not_false_eq_true, gd, nth, want_free, want_slot, beqB, List.map_cons, List.map_nil, Array.toList_empty, List.nil_append, List.append_nil, List.cons_append, hn]; done) | (simp only [sev_tmp, sev_const, sev_func, sg_eq, sg_ne, sp_n, sp_none, Nat.reduceLT, ne_eq, Nat.reduceEqDiff, not_false_eq_true, gd, nth, want_free, want_slot, beqB, List.map_cons, List.map_nil, Array.toList_empty, List.nil_append, List.append_nil, List.cons_append, hn]; rfl)) (by assumption) (fun M hM => by simp only [sev_tmp, sev_const, sg_eq, sp_n, Nat.reduceLT, fx, bin_sub, hn, hw2] <;> rfl) (by rfl) (by first | exact VQ.int _ _ | exact VQ.bool _ | exact VQ.ptr _ _ | exact VQ.slice _ _ _ | exact VQ.func (by simp [vq_int, vq_ptr, vq_slice]) (by simp [vq_int, vq_ptr, vq_slice]) | exact VQ.agg (by simp [vq_int, vq_ptr, vq_slice]) | exact VQ.tuple (by simp [vq_int, vq_ptr, vq_slice])) ?_
          refine Dr.read (by first | rfl | kernel_rfl) (by first | rfl | (simp only [sev_tmp, sev_const, sev_func, sg_eq, sg_ne, sp_n, sp_none, Nat.reduceLT, ne_eq, Nat.reduceEqDiff, not_false_eq_true, gd, nth, want_free, want_slot, beqB, List.map_cons, List.map_nil, Array.toList_empty, List.nil_append, List.append_nil, List.cons_append, hn]; done) | (simp only [sev_tmp, sev_const, sev_func, sg_eq, sg_ne, sp_n, sp_none, Nat.reduceLT, ne_eq, Nat.reduceEqDiff, not_false_eq_true, gd, nth, want_free, want_slot, beqB, List.map_cons, List.map_nil, Array.toList_empty, List.nil_append, List.append_nil, List.cons_append, hn]; rfl)) (by assumption) (fun M hM => by simp only [sev_tmp, sg_eq, sg_ne, sp_n, Nat.reduceLT, ne_eq, Nat.reduceEqDiff, not_false_eq_true, fx, idx, Nat.mul_one, eo22, hn, nlen_nat hnl'] <;> rfl) (by rfl) (by first | exact VQ.int _ _ | exact VQ.bool _ | exact VQ.ptr _ _ | exact VQ.slice _ _ _ | exact VQ.func (by simp [vq_int, vq_ptr, vq_slice]) (by simp [vq_int, vq_ptr, vq_slice]) | exact VQ.agg (by simp [vq_int, vq_ptr, vq_slice]) | exact VQ.tuple (by simp [vq_int, vq_ptr, vq_slice])) ?_
          refine Dr.read (by first | rfl | kernel_rfl) (by first | rfl | (simp only [sev_tmp, sev_const, sev_func, sg_eq, sg_ne, sp_n, sp_none, Nat.reduceLT, ne_eq, Nat.reduceEqDiff, not_false_eq_true, gd, nth, want_free, want_slot, beqB, List.map_cons, List.map_nil, Array.toList_empty, List.nil_append, List.append_nil, List.cons_append, hn]; done) | (simp only [sev_tmp, sev_const, sev_func, sg_eq, sg_ne, sp_n, sp_none, Nat.reduceLT, ne_eq, Nat.reduceEqDiff, not_false_eq_true, gd, nth, want_free, want_slot, beqB, List.map_cons, List.map_nil, Array.toList_empty, List.nil_append, List.append_nil, List.cons_append, hn]; rfl)) (by assumption) (fun M hM => by simp only [sev_tmp, sg_eq, sp_n, Nat.reduceLT, fx, ld, adr_p, tk3, hn, hF1 M hM] <;> rfl) (by rfl) (by first | exact VQ.int _ _ | exact VQ.bool _ | exact VQ.ptr _ _ | exact VQ.slice _ _ _ | exact VQ.func (by simp [vq_int, vq_ptr, vq_slice]) (by simp [vq_int, vq_ptr, vq_slice]) | exact VQ.agg (by simp [vq_int, vq_ptr, vq_slice]) | exact VQ.tuple (by simp [vq_int, vq_ptr, vq_slice])) ?_
          refine Dr.float (by rfl) (by rfl) (by rfl) (fb22_1 (v := .int .i64 (atL st ro (k - 1 + n))) (by simp only [sev_tmp, sg_eq, sp_n, Nat.reduceLT, hn]) rfl) ?_
          refine Dr.read (by first | rfl | kernel_rfl) (by first | rfl | (simp only [sev_tmp, sev_const, sev_func, sg_eq, sg_ne, sp_n, sp_none, Nat.reduceLT, ne_eq, Nat.reduceEqDiff, not_false_eq_true, gd, nth, want_free, want_slot, beqB, List.map_cons, List.map_nil, Array.toList_empty, List.nil_append, List.append_nil, List.cons_append, hn]; done) | (simp only [sev_tmp, sev_const, sev_func, sg_eq, sg_ne, sp_n, sp_none, Nat.reduceLT, ne_eq, Nat.reduceEqDiff, not_false_eq_true, gd, nth, want_free, want_slot, beqB, List.map_cons, List.map_nil, Array.toList_empty, List.nil_append, List.append_nil, List.cons_append, hn]; rfl)) (by assumption) (fun M hM => by simp only [sev_tmp, sg_ne, ne_eq, Nat.reduceEqDiff, not_false_eq_true, fx, Nat.zero_add, Nat.reduceAdd, s5] <;> rfl) (by rfl) (by first | exact VQ.int _ _ | exact VQ.bool _ | exact VQ.ptr _ _ | exact VQ.slice _ _ _ | exact VQ.func (by simp [vq_int, vq_ptr, vq_slice]) (by simp [vq_int, vq_ptr, vq_slice]) | exact VQ.agg (by simp [vq_int, vq_ptr, vq_slice]) | exact VQ.tuple (by simp [vq_int, vq_ptr, vq_slice])) ?_
          refine Dr.read (by first | rfl | kernel_rfl) (by first | rfl | (simp only [sev_tmp, sev_const, sev_func, sg_eq, sg_ne, sp_n, sp_none, Nat.reduceLT, ne_eq, Nat.reduceEqDiff, not_false_eq_true, gd, nth, want_free, want_slot, beqB, List.map_cons, List.map_nil, Array.toList_empty, List.nil_append, List.append_nil, List.cons_append, hn]; done) | (simp only [sev_tmp, sev_const, sev_func, sg_eq, sg_ne, sp_n, sp_none, Nat.reduceLT, ne_eq, Nat.reduceEqDiff, not_false_eq_true, gd, nth, want_free, want_slot, beqB, List.map_cons, List.map_nil, Array.toList_empty, List.nil_append, List.append_nil, List.cons_append, hn]; rfl)) (by assumption) (fun M hM => by simp only [sev_tmp, sg_ne, ne_eq, Nat.reduceEqDiff, not_false_eq_true, fx, Nat.zero_add, Nat.reduceAdd, s3] <;> rfl) (by rfl) (by first | exact VQ.int _ _ | exact VQ.bool _ | exact VQ.ptr _ _ | exact VQ.slice _ _ _ | exact VQ.func (by simp [vq_int, vq_ptr, vq_slice]) (by simp [vq_int, vq_ptr, vq_slice]) | exact VQ.agg (by simp [vq_int, vq_ptr, vq_slice]) | exact VQ.tuple (by simp [vq_int, vq_ptr, vq_slice])) ?_
          refine Dr.read (by first | rfl | kernel_rfl) (by first | rfl | (simp only [sev_tmp, sev_const, sev_func, sg_eq, sg_ne, sp_n, sp_none, Nat.reduceLT, ne_eq, Nat.reduceEqDiff, not_false_eq_true, gd, nth, want_free, want_slot, beqB, List.map_cons, List.map_nil, Array.toList_empty, List.nil_append, List.append_nil, List.cons_append, hn]; done) | (simp only [sev_tmp, sev_const, sev_func, sg_eq, sg_ne, sp_n, sp_none, Nat.reduceLT, ne_eq, Nat.reduceEqDiff, not_false_eq_true, gd, nth, want_free, want_slot, beqB, List.map_cons, List.map_nil, Array.toList_empty, List.nil_append, List.append_nil, List.cons_append, hn]; rfl)) (by assumption) (fun M hM => by simp only [sev_tmp, sev_const, sg_eq, sp_n, Nat.reduceLT, fx, bin_sub, Nat.zero_add, Nat.reduceAdd, hn, hw2] <;> rfl) (by rfl) (by first | exact VQ.int _ _ | exact VQ.bool _ | exact VQ.ptr _ _ | exact VQ.slice _ _ _ | exact VQ.func (by simp [vq_int, vq_ptr, vq_slice]) (by simp [vq_int, vq_ptr, vq_slice]) | exact VQ.agg (by simp [vq_int, vq_ptr, vq_slice]) | exact VQ.tuple (by simp [vq_int, vq_ptr, vq_slice])) ?_
          refine Dr.read (by first | rfl | kernel_rfl) (by first | rfl | (simp only [sev_tmp, sev_const, sev_func, sg_eq, sg_ne, sp_n, sp_none, Nat.reduceLT, ne_eq, Nat.reduceEqDiff, not_false_eq_true, gd, nth, want_free, want_slot, beqB, List.map_cons, List.map_nil, Array.toList_empty, List.nil_append, List.append_nil, List.cons_append, hn]; done) | (simp only [sev_tmp, sev_const, sev_func, sg_eq, sg_ne, sp_n, sp_none, Nat.reduceLT, ne_eq, Nat.reduceEqDiff, not_false_eq_true, gd, nth, want_free, want_slot, beqB, List.map_cons, List.map_nil, Array.toList_empty, List.nil_append, List.append_nil, List.cons_append, hn]; rfl)) (by assumption) (fun M hM => by simp only [sev_tmp, sg_eq, sg_ne, sp_n, Nat.reduceLT, ne_eq, Nat.reduceEqDiff, not_false_eq_true, fx, Nat.zero_add, Nat.reduceAdd, hn, ae_asl_hi, hF2 M hM] <;> rfl) (by rfl) (by first | exact VQ.int _ _ | exact VQ.bool _ | exact VQ.ptr _ _ | exact VQ.slice _ _ _ | exact VQ.func (by simp [vq_int, vq_ptr, vq_slice]) (by simp [vq_int, vq_ptr, vq_slice]) | exact VQ.agg (by simp [vq_int, vq_ptr, vq_slice]) | exact VQ.tuple (by simp [vq_int, vq_ptr, vq_slice])) ?_
          obtain ⟨M1, p1, hx1', e1', l1', k1'⟩ := place_row hbk (b := M'.next + 5) (by omega) (by rw [bump_next]; omega) (hMC.wf.none (by omega)) [.int .i64 (atL st ro (k - 1 + n))] 3 1 1
          rw [bump_next] at e1'
          have htk : ((redR (atL st ro) k n).take (n - 1)).length = n - 1 := by rw [redR_take _ _ (by omega), redR_len]
          obtain ⟨xr2, M2, q2, k2, g2⟩ := app_one (n := C.next) hx1'.wf l1' (by omega) (by omega) (by omega) (c2 := n) ((((ir.nx hx1' (Nat.le_refl _)).mono (Nat.zero_le _) hx1'.next)).take (n := n - 1)) (by omega)
          rw [htk, show n - 1 + 1 = n by omega] at q2
          have hM2 : Nx M'.next M' M2 := hx1'.trans (k2.le (by omega))
          refine Dr.eff (by rfl) (by rfl) (pd1 := [(5, ⟨[.int .i64 (atL st ro (k - 1 + n))], 3, .sl 1 1⟩)]) (pd2 := []) (by kernel_rfl) (by kernel_rfl) (ms0 := [bump M' 12]) (A0 := M1) (by simp only [placeAll, p1]) (fun M hM => by rw [List.mem_singleton] at hM; rw [hM]; exact FB) (hF _ hx1') (by rfl)
            (v := .slice xr2 n n) (A1 := M2) (opRun_op rfl (by simp only [sev_tmp, sg_eq, sg_ne, sp_n, Nat.reduceLT, ne_eq, Nat.reduceEqDiff, not_false_eq_true, Nat.zero_add, Nat.reduceAdd, hn, ae_apd, apd_slice, FK.val]; exact q2)) ?_
          have FM2 := hF _ hM2
          refine Dr.read (by first | rfl | kernel_rfl) (by first | rfl | (simp only [sev_tmp, sev_const, sev_func, sg_eq, sg_ne, sp_n, sp_none, Nat.reduceLT, ne_eq, Nat.reduceEqDiff, not_false_eq_true, gd, nth, want_free, want_slot, beqB, List.map_cons, List.map_nil, Array.toList_empty, List.nil_append, List.append_nil, List.cons_append, hn]; done) | (simp only [sev_tmp, sev_const, sev_func, sg_eq, sg_ne, sp_n, sp_none, Nat.reduceLT, ne_eq, Nat.reduceEqDiff, not_false_eq_true, gd, nth, want_free, want_slot, beqB, List.map_cons, List.map_nil, Array.toList_empty, List.nil_append, List.append_nil, List.cons_append, hn]; rfl)) (by assumption) (fun M hM => by simp only [sev_tmp, sg_eq, sp_n, Nat.reduceLT, fx, Nat.zero_add, Nat.reduceAdd, hn] <;> rfl) (by rfl) (by first | exact VQ.int _ _ | exact VQ.bool _ | exact VQ.ptr _ _ | exact VQ.slice _ _ _ | exact VQ.func (by simp [vq_int, vq_ptr, vq_slice]) (by simp [vq_int, vq_ptr, vq_slice]) | exact VQ.agg (by simp [vq_int, vq_ptr, vq_slice]) | exact VQ.tuple (by simp [vq_int, vq_ptr, vq_slice])) ?_
          refine Dr.nil (by rfl) (fun M hM => by cases hM) FM2 ⟨M2, by rfl, ?_⟩
          (repeat (first | refine Rn.seq hc ?_ | refine Rn.skip hc ?_ | refine Rn.block hc ?_ | refine Rn.inBlock hc ?_ | refine Rn.scope hc ?_ | refine Rn.inScope hc ?_))
          have hcons : atL st ro (k - 1 + n) :: (redR (atL st ro) k n).take (n - 1) = redR (atL st ro) (k - 1) n := by
            rw [redR_take _ _ (by omega), ← heq]
            have := redR_cons (atL st ro) (k - 1) (n - 1)
            rw [show n - 1 + 1 = n by omega, show k - 1 + 1 = k by omega] at this
            exact this.symm
          rw [hcons] at g2
          refine ih _ _ _ (by omega) ⟨k - 1, xc, xr2, by omega, by omega, rfl, hMC.trans (hM2.le hMC.next), Per.back (by rw [show k - 1 + 1 = k by omega]; exact hpe) heq, (ia'.nx hM2 (Nat.le_refl _)).mono (Nat.le_refl _) hM2.next, la.nx hMC.wf hM2, g2.ints, g2.sl, by simp only [sp_n, hn], by simp only [sg_ne, ne_eq, Nat.reduceEqDiff, not_false_eq_true, s1], by simp only [sg_ne, ne_eq, Nat.reduceEqDiff, not_false_eq_true, s2], by simp only [sg_ne, ne_eq, Nat.reduceEqDiff, not_false_eq_true, s3], by simp only [sg_eq, sg_ne, sp_n, Nat.reduceLT, ne_eq, Nat.reduceEqDiff, not_false_eq_true, hn], by simp only [sg_eq, sp_n, Nat.reduceLT, hn]⟩
        · have hdq : decide (atL st ro (k - 1) = atL st ro (k - 1 + n)) = false := decide_eq_false heq
          clear ih
          refine Rn.drawnR hc hx (by kernel_rfl) (by rfl) (by kernel_rfl) ?_ ?_
          · simp only [rdV, VQ.int, VQ.bool, VQ.ptr, VQ.slice, cl_bump, sev_tmp, sev_const, sg_eq, sg_ne, sp_n, Nat.reduceLT, ne_eq, Nat.reduceEqDiff, not_false_eq_true, gd, nth, want_free, want_slot, beqB, fx, ld, idx, lng, pck, bin_gtr, bin_eql, bin_sub, adr_p, Nat.zero_add, Nat.reduceAdd, Nat.mul_one, and_self, tk3, un22, eo22, hn, s3, s4, s5, hd0, hw1, hw2, nlen_nat hel', nlen_nat hnl', hcl, hcl', hdq, List.length_cons, List.length_nil]
          simp only [cl_bump, sev_tmp, sev_const, sg_eq, sg_ne, sp_n, Nat.reduceLT, ne_eq, Nat.reduceEqDiff, not_false_eq_true, gd, nth, want_free, want_slot, beqB, rops, fx, ld, idx, lng, pck, bin_gtr, bin_eql, bin_sub, adr_p, Nat.zero_add, Option.some.injEq, exists_eq_left', Nat.reduceAdd, Nat.mul_one, tk3, un22, eo22, hn, s3, s4, s5, hd0, hw1, hw2, nlen_nat hel', nlen_nat hnl', hcl, hcl', hdq, List.length_cons, List.length_nil]
          (repeat (first | refine Rn.seq hc ?_ | refine Rn.skip hc ?_ | refine Rn.block hc ?_ | refine Rn.inBlock hc ?_ | refine Rn.scope hc ?_ | refine Rn.inScope hc ?_))
          refine Rn.condE hc rfl ?_
          simp only [sev_tmp, sg_eq, sp_n, Nat.reduceLT, Value.bool.injEq, exists_eq_left', hn]
          (repeat (first | refine Rn.seq hc ?_ | refine Rn.skip hc ?_ | refine Rn.block hc ?_ | refine Rn.inBlock hc ?_ | refine Rn.scope hc ?_ | refine Rn.inScope hc ?_))
          refine Rn.exit hc rfl ?_
          (repeat (first | refine Rn.seq hc ?_ | refine Rn.skip hc ?_ | refine Rn.block hc ?_ | refine Rn.inBlock hc ?_ | refine Rn.scope hc ?_ | refine Rn.inScope hc ?_))
          have hMb : Nx M.next M (bump M 17) := Nx.bump (Nx.refl hM.wf _) 17
          exact Rn.fall ⟨rfl, k, xc, _, he1, he2, hM.trans (hMb.le hM.next), red_of hpe hpmin (fun _ hh => heq hh), (ia.nx hMb (Nat.le_refl _)).mono (Nat.le_refl _) hMb.next, la.nx hM.wf hMb, (ir.nx hMb (Nat.le_refl _)).mono (Nat.le_refl _) hMb.next, lr'.nx hM.wf hMb, by simp only [sp_n, hn], by simp only [sg_ne, ne_eq, Nat.reduceEqDiff, not_false_eq_true, s1], by simp only [sg_ne, ne_eq, Nat.reduceEqDiff, not_false_eq_true, s2], by simp only [sg_ne, ne_eq, Nat.reduceEqDiff, not_false_eq_true, s4], by simp only [sg_ne, ne_eq, Nat.reduceEqDiff, not_false_eq_true, s5]⟩
    · clear hn s1 s2 s3 s
      rintro s ds M ⟨rfl, e, xc, xr, he1, he2, hM, hred, ia, la, ir, lr', hn, s1, s2, s4, s5⟩
      have l2 : Canon.look M.objs A0.next = _ := (hM.keep _ (by omega)).trans ((hBC.keep _ (by omega)).trans l1)
      have g0 := (hM.cl (show A.next < C.next by omega) 0).trans c0
      obtain ⟨D, c', q1, q2, q3, q4⟩ := sts_upd (l := [.int .i64 m, .slice xa e xc, .slice xr n n]) (o := 0) l2 rfl (by simp) rfl
      have r0 : cl D A0.next 0 = some (.int .i64 m) := by rw [q2.cl, q4]; rfl
      have r1 : cl D A0.next 1 = some (.slice xa e xc) := by rw [q2.cl, q4]; rfl
      have r2 : cl D A0.next 2 = some (.slice xr n n) := by rw [q2.cl, q4]; rfl
      (repeat (first | refine Rn.seq hc ?_ | refine Rn.skip hc ?_ | refine Rn.block hc ?_ | refine Rn.inBlock hc ?_ | refine Rn.scope hc ?_ | refine Rn.inScope hc ?_))
      refine Rn.reg hc rfl ?_
      simp only [sev_tmp, sg_eq, sg_ne, sp_n, sp_none, Nat.reduceLT, ne_eq, Nat.reduceEqDiff, not_false_eq_true, gd, want_free, rops, fx, ld, str, fad, adr_p, Nat.zero_add, Nat.add_zero, Option.some.injEq, exists_eq_left', Nat.reduceAdd, tk3, tk24, fo24_0, hn, s1, s2, s4, s5, g0, bd24, isCell, q1, List.size_toArray, List.length_cons, List.length_nil, Nat.beq_refl]
      (repeat (first | refine Rn.seq hc ?_ | refine Rn.skip hc ?_ | refine Rn.block hc ?_ | refine Rn.inBlock hc ?_ | refine Rn.scope hc ?_ | refine Rn.inScope hc ?_))
      have hnD := q2.next
      have hoff : ∀ b, C.next ≤ b → Canon.look M.objs b = none ∨ Canon.look D.objs b = Canon.look M.objs b := fun b hb => .inr (q2.off _ (by omega))
      have hCM := hM.next
      refine Rn.ret (endQ_cell rfl (v := .agg #[.int .i64 m, .slice xa e xc, .slice xr n n]) ?_ ⟨e, n, hred, he1, hnn2, ⟨by omega, (q2.nx hM.wf (Nat.zero_le _)).wf, fun b hb => ?_⟩, xa, xc, xr, rfl, he2, (ia.ext hoff (by omega)).mono hC0.next (Nat.le_refl _), (ir.ext hoff (by omega)).mono hC0.next (Nat.le_refl _), (la.ext hoff).mono hC0.next, (lr'.ext hoff).mono hC0.next⟩)
      · simp only [sg_ne, ne_eq, Nat.reduceEqDiff, not_false_eq_true, ld, adr_p, cls, Nat.zero_add, Nat.reduceAdd, tk24, s2, r0, r1, r2]
      · rw [q2.off _ (by omega), hM.keep _ (by omega)]
        exact hC0.keep _ hb
    · intro _ _ _ h
      exact h.elim
end Go.Proofs.Ytdaljohmfnfgiaa
/- The reference's results, and its Least. No condition. -/
namespace Go.Proofs.Ytdaljohmfnfgiaa
open Go Go.RowKit Go.Proofs.Ytdaljohmfnfgiaa.Canon
set_option maxRecDepth 20000


/-- What the reference hands back for a stream. -/
def LeastR (A : AHeap) (m : Int) (s : Nat → Int) (a p : Nat) (v : Value) (A1 : AHeap) : Prop :=
  Nx A.next A A1 ∧ if 120 < p ∨ 60 < a then v = .tuple #[.agg #[.int .i64 0, .slice none 0 0, .slice none 0 0], .int .i64 11]
    else ∃ xa xc xr xd, v = .tuple #[.agg #[.int .i64 m, .slice xa a xc, .slice xr p xd], .int .i64 0] ∧ Ints A1 xa A.next A1.next (redS s a) ∧ Ints A1 xr A.next A1.next (redR s a p)
/-- A result's variable is written. -/
theorem res_put {A0 D : AHeap} {b n : Nat} (hl : Canon.look A0.objs b = some ⟨.cells #[.int .i64 0, .slice none 0 0, .slice none 0 0] 24, false, 0⟩) (hb : b < n) (hD : Nx n A0 D) {v0 v1 v2 : Value} (hv : [v0, v1, v2].all isCell = true) :
    ∃ D', sts D b 0 [v0, v1, v2] = some D' ∧ D'.next = D.next ∧ WF D' ∧ (∀ b', b' ≠ b → Canon.look D'.objs b' = Canon.look D.objs b') ∧ cl D' b 0 = some v0 ∧ cl D' b 1 = some v1 ∧ cl D' b 2 = some v2 := by
  obtain ⟨D', c', q1, q2, q3, q4⟩ := sts_upd (l := [v0, v1, v2]) (o := 0) ((hD.keep b hb).trans hl) rfl (by simp) hv
  exact ⟨D', q1, q2.next, (q2.nx hD.wf (Nat.zero_le _)).wf, q2.off, by rw [q2.cl, q4]; rfl, by rw [q2.cl, q4]; rfl, by rw [q2.cl, q4]; rfl⟩

theorem result_ref {A : AHeap} (hw : WF A) {m : Int} {sa ra : Option Addr} {sc rc : Nat} {st ro : List Int} (hs : Ints A sa 0 A.next st) (hr : Ints A ra 0 A.next ro) (ls : st.length ≤ 1000000) (lr : ro.length ≤ 1000000) (hro : 0 < ro.length) (hsl : Sl A ra 0) (hrc : ro.length ≤ rc) :
    Con Try.prog 70 [.agg #[.int .i64 m, .slice sa st.length sc, .slice ra ro.length rc]] A (fun v A1 => ∃ a p, Red (atL st ro) a p ∧ a ≤ st.length ∧ p ≤ ro.length ∧ LeastR A m (atL st ro) a p v A1) := by
  refine con_of_rn hc Try.func70 rfl (Nat.le_of_ble_eq_true rfl) ?_
  obtain ⟨A0, e0, hx0, hn0, b0, b1, b2⟩ := box3 hw (.int .i64 m) (.slice sa st.length sc) (.slice ra ro.length rc) 24
  have hx1 : Nx A0.next A0 (A0.push (.cells #[.int .i64 0, .slice none 0 0, .slice none 0 0] 24)) := (Nx.refl hx0.wf _).push (Nat.le_refl _) _
  have l1 := look_push_eq A0 (.cells #[.int .i64 0, .slice none 0 0, .slice none 0 0] 24)
  have hn1 : (A0.push (.cells #[.int .i64 0, .slice none 0 0, .slice none 0 0] 24)).next = A0.next + 1 := rfl
  generalize e1 : A0.push (.cells #[.int .i64 0, .slice none 0 0, .slice none 0 0] 24) = A1 at hx1 l1 hn1
  have hx01 : Nx A.next A A1 := hx0.trans (hx1.le hx0.next)
  have b0 := (hx1.cl (show A.next < A0.next by omega) 0).trans b0
  have b1 := (hx1.cl (show A.next < A0.next by omega) 1).trans b1
  have b2 := (hx1.cl (show A.next < A0.next by omega) 2).trans b2
  rw [s_in1]
  (repeat (first | refine Rn.seq hc ?_ | refine Rn.skip hc ?_ | refine Rn.block hc ?_ | refine Rn.inBlock hc ?_ | refine Rn.scope hc ?_ | refine Rn.inScope hc ?_))
  refine Rn.reg hc rfl ?_
  simp only [sev_tmp, sev_const, sg_eq, Nat.reduceLT, gd, want_free, rops, fx, Option.some.injEq, exists_eq_left', Value.cells, show Try.f70.ntmps = 19 from rfl, e0, ze24, e1]
  (repeat (first | refine Rn.seq hc ?_ | refine Rn.skip hc ?_ | refine Rn.block hc ?_ | refine Rn.inBlock hc ?_ | refine Rn.scope hc ?_ | refine Rn.inScope hc ?_))
  refine Rn.region hc fun K hK => ?_
  refine Wo.run hc 1 rfl rfl rfl ?_
  simp (maxSteps := 2000000) only [List.drop_zero, List.take_succ_cons, List.take_zero, sev_tmp, sg_eq, sg_ne, sp_n, Nat.reduceLT, ne_eq, Nat.reduceEqDiff, not_false_eq_true, gd, want_free, rops, fx, ld, adr_p, cls, Nat.zero_add, Option.some.injEq, exists_eq_left', Nat.reduceAdd, tk24, b0, b1, b2]
  refine Wo.call hc (by rfl) (by rfl) ⟨by rfl, by rfl⟩ (xs := [.agg #[.int .i64 m, .slice sa st.length sc, .slice ra ro.length rc]]) (by first | rfl | (simp only [sev_tmp, sev_const, sev_func, sg_eq, sg_ne, sp_n, sp_none, Nat.reduceLT, ne_eq, Nat.reduceEqDiff, not_false_eq_true, gd, nth, want_free, want_slot, beqB, List.map_cons, List.map_nil, Array.toList_empty, List.nil_append, List.append_nil, List.cons_append]; done) | (simp only [sev_tmp, sev_const, sev_func, sg_eq, sg_ne, sp_n, sp_none, Nat.reduceLT, ne_eq, Nat.reduceEqDiff, not_false_eq_true, gd, nth, want_free, want_slot, beqB, List.map_cons, List.map_nil, Array.toList_empty, List.nil_append, List.append_nil, List.cons_append]; rfl)) (by first | rfl | (simp only [sev_tmp, sev_const, sev_func, sg_eq, sg_ne, sp_n, sp_none, Nat.reduceLT, ne_eq, Nat.reduceEqDiff, not_false_eq_true, gd, nth, want_free, want_slot, beqB, List.map_cons, List.map_nil, Array.toList_empty, List.nil_append, List.append_nil, List.cons_append]; done) | (simp only [sev_tmp, sev_const, sev_func, sg_eq, sg_ne, sp_n, sp_none, Nat.reduceLT, ne_eq, Nat.reduceEqDiff, not_false_eq_true, gd, nth, want_free, want_slot, beqB, List.map_cons, List.map_nil, Array.toList_empty, List.nil_append, List.append_nil, List.cons_append]; rfl)) (by first | rfl | (simp only [sev_tmp, sev_const, sev_func, sg_eq, sg_ne, sp_n, sp_none, Nat.reduceLT, ne_eq, Nat.reduceEqDiff, not_false_eq_true, gd, nth, want_free, want_slot, beqB, List.map_cons, List.map_nil, Array.toList_empty, List.nil_append, List.append_nil, List.cons_append]; done) | (simp only [sev_tmp, sev_const, sev_func, sg_eq, sg_ne, sp_n, sp_none, Nat.reduceLT, ne_eq, Nat.reduceEqDiff, not_false_eq_true, gd, nth, want_free, want_slot, beqB, List.map_cons, List.map_nil, Array.toList_empty, List.nil_append, List.append_nil, List.cons_append]; rfl)) (Con.mono (small_ref hx1.wf ((hs.nx hx01 (Nat.le_refl _)).mono (Nat.le_refl _) hx01.next) ((hr.nx hx01 (Nat.le_refl _)).mono (Nat.le_refl _) hx01.next) ls lr hro (hsl.nx hw hx01) hrc) ?_)
  rintro w A2 ⟨a, p, hred, ha, hp, hx2, xa, xc, xr, rfl, hac, ia, ir, -, -⟩
  obtain ⟨A3, p3, hx3, hn3, c0, c1, c2⟩ := put24 hx2.wf (v0 := .int .i64 m) (v1 := .slice xa a xc) (v2 := .slice xr p p) rfl
  refine Wo.run hc 2 rfl rfl rfl ?_
  simp (maxSteps := 2000000) only [List.drop_zero, List.drop_succ_cons, List.take_succ_cons, List.take_zero, sev_tmp, sg_eq, sg_ne, sp_n, sp_none, Nat.reduceLT, ne_eq, Nat.reduceEqDiff, not_false_eq_true, gd, want_free, rops, fx, str, adr_p, Nat.zero_add, Option.some.injEq, exists_eq_left', Value.cells, Nat.reduceAdd, tk24, ze24, p3, List.size_toArray, List.length_cons, List.length_nil, Nat.beq_refl]
  refine Wo.done hc rfl (hK _ _ ?_)
  clear hK
  (repeat (first | refine Rn.seq hc ?_ | refine Rn.skip hc ?_ | refine Rn.block hc ?_ | refine Rn.inBlock hc ?_ | refine Rn.scope hc ?_ | refine Rn.inScope hc ?_))
  have hx13 : Nx A1.next A1 A3 := hx2.trans (hx3.le hx2.next)
  have hx03 : Nx A.next A A3 := hx01.trans (hx13.le hx01.next)
  have n2 := hx2.next
  have ia3 := (ia.nx hx3 (Nat.le_refl _)).mono (Nat.le_refl _) hx3.next
  have ir3 := (ir.nx hx3 (Nat.le_refl _)).mono (Nat.le_refl _) hx3.next
  have hred' := hred
  by_cases hlong : 120 < p ∨ 60 < a
  · obtain ⟨D, q1, q2, q3, q4, g0, g1, g2⟩ := res_put l1 (by omega) hx13 (v0 := .int .i64 0) (v1 := .slice none 0 0) (v2 := .slice none 0 0) rfl
    have hfin : LeastR A m (atL st ro) a p (.tuple #[.agg #[.int .i64 0, .slice none 0 0, .slice none 0 0], .int .i64 11]) D := ⟨⟨by omega, q3, fun b hb => by rw [q4 _ (by omega), hx03.keep _ hb]⟩, by rw [if_pos hlong]⟩
    by_cases h60 : 60 < a
    · have hd1 : decide ((60 : Int) < (a : Int)) = true := decide_eq_true (by omega)
      refine Rn.reg hc rfl ?_
      simp only [sev_tmp, sev_const, sg_eq, sg_ne, sp_n, Nat.reduceLT, ne_eq, Nat.reduceEqDiff, not_false_eq_true, gd, nth, want_free, want_slot, beqB, rops, fx, ld, fad, lng, pck, bin_gtr, adr_p, Nat.zero_add, Option.some.injEq, exists_eq_left', tk22, fo24_1, un22, c1, hd1]
      (repeat (first | refine Rn.seq hc ?_ | refine Rn.skip hc ?_ | refine Rn.block hc ?_ | refine Rn.inBlock hc ?_ | refine Rn.scope hc ?_ | refine Rn.inScope hc ?_))
      refine Rn.condE hc rfl ?_
      simp only [sev_tmp, sg_eq, sp_n, Nat.reduceLT, Value.bool.injEq, exists_eq_left']
      (repeat (first | refine Rn.seq hc ?_ | refine Rn.skip hc ?_ | refine Rn.block hc ?_ | refine Rn.inBlock hc ?_ | refine Rn.scope hc ?_ | refine Rn.inScope hc ?_))
      refine Rn.reg hc rfl ?_
      simp only [sev_tmp, sev_const, sg_eq, sg_ne, sp_n, sp_none, Nat.reduceLT, ne_eq, Nat.reduceEqDiff, not_false_eq_true, gd, want_free, rops, fx, str, adr_p, Nat.zero_add, Option.some.injEq, exists_eq_left', Nat.reduceAdd, tk24, bd24_z, q1, List.size_toArray, List.length_cons, List.length_nil, Nat.beq_refl]
      (repeat (first | refine Rn.seq hc ?_ | refine Rn.skip hc ?_ | refine Rn.block hc ?_ | refine Rn.inBlock hc ?_ | refine Rn.scope hc ?_ | refine Rn.inScope hc ?_))
      refine Rn.ret (endQ_ct rfl (v := .agg #[.int .i64 0, .slice none 0 0, .slice none 0 0]) ?_ ⟨a, p, hred, ha, hp, ?_⟩)
      · simp only [sg_eq, sg_ne, sp_n, Nat.reduceLT, ne_eq, Nat.reduceEqDiff, not_false_eq_true, ld, adr_p, cls, Nat.zero_add, Nat.reduceAdd, tk24, g0, g1, g2]
      · simp only [sg_eq, sp_n, Nat.reduceLT]
        exact hfin
    · have hd1 : decide ((60 : Int) < (a : Int)) = false := decide_eq_false (by omega)
      have hd2 : decide ((120 : Int) < (p : Int)) = true := decide_eq_true (by omega)
      refine Rn.reg hc rfl ?_
      simp only [sev_tmp, sev_const, sg_eq, sg_ne, sp_n, Nat.reduceLT, ne_eq, Nat.reduceEqDiff, not_false_eq_true, gd, nth, want_free, want_slot, beqB, rops, fx, ld, fad, lng, pck, bin_gtr, adr_p, Nat.zero_add, Option.some.injEq, exists_eq_left', tk22, fo24_1, fo24_2, un22, c1, c2, hd1, hd2]
      (repeat (first | refine Rn.seq hc ?_ | refine Rn.skip hc ?_ | refine Rn.block hc ?_ | refine Rn.inBlock hc ?_ | refine Rn.scope hc ?_ | refine Rn.inScope hc ?_))
      refine Rn.condE hc rfl ?_
      simp only [sev_tmp, sg_eq, sp_n, Nat.reduceLT, Value.bool.injEq, exists_eq_left']
      (repeat (first | refine Rn.seq hc ?_ | refine Rn.skip hc ?_ | refine Rn.block hc ?_ | refine Rn.inBlock hc ?_ | refine Rn.scope hc ?_ | refine Rn.inScope hc ?_))
      refine Rn.reg hc rfl ?_
      simp only [sev_tmp, sev_const, sg_eq, sg_ne, sp_n, sp_none, Nat.reduceLT, ne_eq, Nat.reduceEqDiff, not_false_eq_true, gd, want_free, rops, fx, str, adr_p, Nat.zero_add, Option.some.injEq, exists_eq_left', Nat.reduceAdd, tk24, bd24_z, q1, List.size_toArray, List.length_cons, List.length_nil, Nat.beq_refl]
      (repeat (first | refine Rn.seq hc ?_ | refine Rn.skip hc ?_ | refine Rn.block hc ?_ | refine Rn.inBlock hc ?_ | refine Rn.scope hc ?_ | refine Rn.inScope hc ?_))
      refine Rn.ret (endQ_ct rfl (v := .agg #[.int .i64 0, .slice none 0 0, .slice none 0 0]) ?_ ⟨a, p, hred, ha, hp, ?_⟩)
      · simp only [sg_eq, sg_ne, sp_n, Nat.reduceLT, ne_eq, Nat.reduceEqDiff, not_false_eq_true, ld, adr_p, cls, Nat.zero_add, Nat.reduceAdd, tk24, g0, g1, g2]
      · simp only [sg_eq, sp_n, Nat.reduceLT]
        exact hfin
  · obtain ⟨D, q1, q2, q3, q4, g0, g1, g2⟩ := res_put l1 (by omega) hx13 (v0 := .int .i64 m) (v1 := .slice xa a xc) (v2 := .slice xr p p) rfl
    have hd1 : decide ((60 : Int) < (a : Int)) = false := decide_eq_false (by omega)
    have hd2 : decide ((120 : Int) < (p : Int)) = false := decide_eq_false (by omega)
    refine Rn.reg hc rfl ?_
    simp only [sev_tmp, sev_const, sg_eq, sg_ne, sp_n, Nat.reduceLT, ne_eq, Nat.reduceEqDiff, not_false_eq_true, gd, nth, want_free, want_slot, beqB, rops, fx, ld, fad, lng, pck, bin_gtr, adr_p, Nat.zero_add, Option.some.injEq, exists_eq_left', tk22, fo24_1, fo24_2, un22, c1, c2, hd1, hd2]
    (repeat (first | refine Rn.seq hc ?_ | refine Rn.skip hc ?_ | refine Rn.block hc ?_ | refine Rn.inBlock hc ?_ | refine Rn.scope hc ?_ | refine Rn.inScope hc ?_))
    refine Rn.condE hc rfl ?_
    simp only [sev_tmp, sg_eq, sp_n, Nat.reduceLT, Value.bool.injEq, exists_eq_left']
    (repeat (first | refine Rn.seq hc ?_ | refine Rn.skip hc ?_ | refine Rn.block hc ?_ | refine Rn.inBlock hc ?_ | refine Rn.scope hc ?_ | refine Rn.inScope hc ?_))
    refine Rn.reg hc rfl ?_
    simp only [sev_tmp, sev_const, sg_eq, sg_ne, sp_n, sp_none, Nat.reduceLT, ne_eq, Nat.reduceEqDiff, not_false_eq_true, gd, want_free, rops, fx, ld, str, adr_p, cls, Nat.zero_add, Option.some.injEq, exists_eq_left', Nat.reduceAdd, tk24, c0, c1, c2, q1, List.size_toArray, List.length_cons, List.length_nil, Nat.beq_refl]
    (repeat (first | refine Rn.seq hc ?_ | refine Rn.skip hc ?_ | refine Rn.block hc ?_ | refine Rn.inBlock hc ?_ | refine Rn.scope hc ?_ | refine Rn.inScope hc ?_))
    have hoff : ∀ b, A1.next ≤ b → Canon.look A3.objs b = none ∨ Canon.look D.objs b = Canon.look A3.objs b := fun b hb => .inr (q4 _ (by omega))
    refine Rn.ret (endQ_ct rfl (v := .agg #[.int .i64 m, .slice xa a xc, .slice xr p p]) ?_ ⟨a, p, hred, ha, hp, ⟨by omega, q3, fun b hb => by rw [q4 _ (by omega), hx03.keep _ hb]⟩, ?_⟩)
    · simp only [sg_eq, sg_ne, sp_n, Nat.reduceLT, ne_eq, Nat.reduceEqDiff, not_false_eq_true, ld, adr_p, cls, Nat.zero_add, Nat.reduceAdd, tk24, g0, g1, g2]
    · rw [if_neg hlong]
      exact ⟨xa, xc, xr, p, by simp only [sg_eq, sp_n, Nat.reduceLT], (ia3.ext hoff (by omega)).mono hx01.next (Nat.le_refl _), (ir3.ext hoff (by omega)).mono hx01.next (Nat.le_refl _)⟩
end Go.Proofs.Ytdaljohmfnfgiaa
/- The reference's Least, its errors of two, its common multiples. No condition. -/
namespace Go.Proofs.Ytdaljohmfnfgiaa
open Go Go.RowKit Go.Proofs.Ytdaljohmfnfgiaa.Canon
set_option maxRecDepth 20000


theorem least_ref {A : AHeap} (hw : WF A) {m : Int} {sa ra : Option Addr} {sc rc : Nat} {st ro : List Int} (hs : Ints A sa 0 A.next st) (hr : Ints A ra 0 A.next ro) (ls : st.length < 4611686018427387904) (lr : ro.length < 4611686018427387904) (hsl : 0 < ro.length → Sl A ra 0) (hrc : ro.length ≤ rc) :
    Con Try.prog 19 [.agg #[.int .i64 m, .slice sa st.length sc, .slice ra ro.length rc]] A (fun v A1 => (errL m st ro = 0 → ∃ a p, Red (atL st ro) a p ∧ a ≤ st.length ∧ p ≤ ro.length ∧ LeastR A m (atL st ro) a p v A1) ∧ (errL m st ro ≠ 0 → v = .tuple #[.agg #[.int .i64 0, .slice none 0 0, .slice none 0 0], .int .i64 (errL m st ro)] ∧ Nx A.next A A1)) := by
  refine con_of_rn hc Try.func19 rfl (Nat.le_of_ble_eq_true rfl) ?_
  obtain ⟨A0, e0, hx0, hn0, b0, b1, b2⟩ := box3 hw (.int .i64 m) (.slice sa st.length sc) (.slice ra ro.length rc) 24
  have hx1 : Nx A0.next A0 (A0.push (.cells #[.int .i64 0, .slice none 0 0, .slice none 0 0] 24)) := (Nx.refl hx0.wf _).push (Nat.le_refl _) _
  have l1 := look_push_eq A0 (.cells #[.int .i64 0, .slice none 0 0, .slice none 0 0] 24)
  have hn1 : (A0.push (.cells #[.int .i64 0, .slice none 0 0, .slice none 0 0] 24)).next = A0.next + 1 := rfl
  generalize e1 : A0.push (.cells #[.int .i64 0, .slice none 0 0, .slice none 0 0] 24) = A1 at hx1 l1 hn1
  have hx01 : Nx A.next A A1 := hx0.trans (hx1.le hx0.next)
  have b0 := (hx1.cl (show A.next < A0.next by omega) 0).trans b0
  have b1 := (hx1.cl (show A.next < A0.next by omega) 1).trans b1
  have b2 := (hx1.cl (show A.next < A0.next by omega) 2).trans b2
  rw [s_in1]
  (repeat (first | refine Rn.seq hc ?_ | refine Rn.skip hc ?_ | refine Rn.block hc ?_ | refine Rn.inBlock hc ?_ | refine Rn.scope hc ?_ | refine Rn.inScope hc ?_))
  refine Rn.reg hc rfl ?_
  simp only [sev_tmp, sev_const, sg_eq, Nat.reduceLT, ne_eq, gd, want_free, rops, fx, Option.some.injEq, exists_eq_left', Value.cells, show Try.f19.ntmps = 15 from rfl, e0, ze24, e1]
  (repeat (first | refine Rn.seq hc ?_ | refine Rn.skip hc ?_ | refine Rn.block hc ?_ | refine Rn.inBlock hc ?_ | refine Rn.scope hc ?_ | refine Rn.inScope hc ?_))
  refine Rn.region hc fun K hK => ?_
  refine Wo.run hc 1 rfl rfl rfl ?_
  simp (maxSteps := 2000000) only [List.drop_zero, List.take_succ_cons, List.take_zero, sev_tmp, sg_eq, sg_ne, sp_n, Nat.reduceLT, ne_eq, Nat.reduceEqDiff, not_false_eq_true, gd, want_free, rops, fx, ld, adr_p, cls, Nat.zero_add, Option.some.injEq, exists_eq_left', Nat.reduceAdd, tk24, b0, b1, b2]
  refine Wo.call hc (by rfl) (by rfl) ⟨by rfl, by rfl⟩ (xs := [.agg #[.int .i64 m, .slice sa st.length sc, .slice ra ro.length rc]]) (by first | rfl | (simp only [sev_tmp, sev_const, sev_func, sg_eq, sg_ne, sp_n, sp_none, Nat.reduceLT, ne_eq, Nat.reduceEqDiff, not_false_eq_true, gd, nth, want_free, want_slot, beqB, List.map_cons, List.map_nil, Array.toList_empty, List.nil_append, List.append_nil, List.cons_append]; done) | (simp only [sev_tmp, sev_const, sev_func, sg_eq, sg_ne, sp_n, sp_none, Nat.reduceLT, ne_eq, Nat.reduceEqDiff, not_false_eq_true, gd, nth, want_free, want_slot, beqB, List.map_cons, List.map_nil, Array.toList_empty, List.nil_append, List.append_nil, List.cons_append]; rfl)) (by first | rfl | (simp only [sev_tmp, sev_const, sev_func, sg_eq, sg_ne, sp_n, sp_none, Nat.reduceLT, ne_eq, Nat.reduceEqDiff, not_false_eq_true, gd, nth, want_free, want_slot, beqB, List.map_cons, List.map_nil, Array.toList_empty, List.nil_append, List.append_nil, List.cons_append]; done) | (simp only [sev_tmp, sev_const, sev_func, sg_eq, sg_ne, sp_n, sp_none, Nat.reduceLT, ne_eq, Nat.reduceEqDiff, not_false_eq_true, gd, nth, want_free, want_slot, beqB, List.map_cons, List.map_nil, Array.toList_empty, List.nil_append, List.append_nil, List.cons_append]; rfl)) (by first | rfl | (simp only [sev_tmp, sev_const, sev_func, sg_eq, sg_ne, sp_n, sp_none, Nat.reduceLT, ne_eq, Nat.reduceEqDiff, not_false_eq_true, gd, nth, want_free, want_slot, beqB, List.map_cons, List.map_nil, Array.toList_empty, List.nil_append, List.append_nil, List.cons_append]; done) | (simp only [sev_tmp, sev_const, sev_func, sg_eq, sg_ne, sp_n, sp_none, Nat.reduceLT, ne_eq, Nat.reduceEqDiff, not_false_eq_true, gd, nth, want_free, want_slot, beqB, List.map_cons, List.map_nil, Array.toList_empty, List.nil_append, List.append_nil, List.cons_append]; rfl)) (Con.mono (check_ref hx1.wf ((hs.nx hx01 (Nat.le_refl _)).mono (Nat.le_refl _) hx01.next) ((hr.nx hx01 (Nat.le_refl _)).mono (Nat.le_refl _) hx01.next) ls lr) ?_)
  rintro w A4 ⟨rfl, hx4⟩
  refine Wo.run hc 1 rfl rfl rfl ?_
  simp (maxSteps := 2000000) only [List.drop_zero, List.drop_succ_cons, List.take_succ_cons, List.take_zero, sev_tmp, sg_eq, sp_n, Nat.reduceLT, gd, want_free, rops, fx, Option.some.injEq, exists_eq_left', Nat.reduceAdd]
  refine Wo.done hc rfl (hK _ _ ?_)
  clear hK
  (repeat (first | refine Rn.seq hc ?_ | refine Rn.skip hc ?_ | refine Rn.block hc ?_ | refine Rn.inBlock hc ?_ | refine Rn.scope hc ?_ | refine Rn.inScope hc ?_))
  have hx04 : Nx A.next A A4 := hx01.trans (hx4.le hx01.next)
  have n4 := hx4.next
  by_cases he : errL m st ro = 0
  · have hd : (!decide (errL m st ro = 0)) = false := by rw [decide_eq_true he]; rfl
    refine Rn.reg hc rfl ?_
    simp only [sev_tmp, sev_const, sg_eq, sp_n, Nat.reduceLT, gd, want_free, rops, fx, bin_neq, Option.some.injEq, exists_eq_left', hd]
    (repeat (first | refine Rn.seq hc ?_ | refine Rn.skip hc ?_ | refine Rn.block hc ?_ | refine Rn.inBlock hc ?_ | refine Rn.scope hc ?_ | refine Rn.inScope hc ?_))
    refine Rn.condE hc rfl ?_
    simp only [sev_tmp, sg_eq, sp_n, Nat.reduceLT, Value.bool.injEq, exists_eq_left']
    (repeat (first | refine Rn.seq hc ?_ | refine Rn.skip hc ?_ | refine Rn.block hc ?_ | refine Rn.inBlock hc ?_ | refine Rn.scope hc ?_ | refine Rn.inScope hc ?_))
    obtain ⟨l60, l120⟩ := errL_len he
    have hp := errL_pos he
    have b0 := (hx4.cl (show A.next < A1.next by omega) 0).trans b0
    have b1 := (hx4.cl (show A.next < A1.next by omega) 1).trans b1
    have b2 := (hx4.cl (show A.next < A1.next by omega) 2).trans b2
    refine Rn.region hc fun K hK => ?_
    refine Wo.run hc 1 rfl rfl rfl ?_
    simp (maxSteps := 2000000) only [List.drop_zero, List.take_succ_cons, List.take_zero, sev_tmp, sg_eq, sg_ne, sp_n, Nat.reduceLT, ne_eq, Nat.reduceEqDiff, not_false_eq_true, gd, want_free, rops, fx, ld, adr_p, cls, Nat.zero_add, Option.some.injEq, exists_eq_left', Nat.reduceAdd, tk24, b0, b1, b2]
    refine Wo.call hc (by rfl) (by rfl) ⟨by rfl, by rfl⟩ (xs := [.agg #[.int .i64 m, .slice sa st.length sc, .slice ra ro.length rc]]) (by first | rfl | (simp only [sev_tmp, sev_const, sev_func, sg_eq, sg_ne, sp_n, sp_none, Nat.reduceLT, ne_eq, Nat.reduceEqDiff, not_false_eq_true, gd, nth, want_free, want_slot, beqB, List.map_cons, List.map_nil, Array.toList_empty, List.nil_append, List.append_nil, List.cons_append]; done) | (simp only [sev_tmp, sev_const, sev_func, sg_eq, sg_ne, sp_n, sp_none, Nat.reduceLT, ne_eq, Nat.reduceEqDiff, not_false_eq_true, gd, nth, want_free, want_slot, beqB, List.map_cons, List.map_nil, Array.toList_empty, List.nil_append, List.append_nil, List.cons_append]; rfl)) (by first | rfl | (simp only [sev_tmp, sev_const, sev_func, sg_eq, sg_ne, sp_n, sp_none, Nat.reduceLT, ne_eq, Nat.reduceEqDiff, not_false_eq_true, gd, nth, want_free, want_slot, beqB, List.map_cons, List.map_nil, Array.toList_empty, List.nil_append, List.append_nil, List.cons_append]; done) | (simp only [sev_tmp, sev_const, sev_func, sg_eq, sg_ne, sp_n, sp_none, Nat.reduceLT, ne_eq, Nat.reduceEqDiff, not_false_eq_true, gd, nth, want_free, want_slot, beqB, List.map_cons, List.map_nil, Array.toList_empty, List.nil_append, List.append_nil, List.cons_append]; rfl)) (by first | rfl | (simp only [sev_tmp, sev_const, sev_func, sg_eq, sg_ne, sp_n, sp_none, Nat.reduceLT, ne_eq, Nat.reduceEqDiff, not_false_eq_true, gd, nth, want_free, want_slot, beqB, List.map_cons, List.map_nil, Array.toList_empty, List.nil_append, List.append_nil, List.cons_append]; done) | (simp only [sev_tmp, sev_const, sev_func, sg_eq, sg_ne, sp_n, sp_none, Nat.reduceLT, ne_eq, Nat.reduceEqDiff, not_false_eq_true, gd, nth, want_free, want_slot, beqB, List.map_cons, List.map_nil, Array.toList_empty, List.nil_append, List.append_nil, List.cons_append]; rfl)) (Con.mono (result_ref hx4.wf ((hs.nx hx04 (Nat.le_refl _)).mono (Nat.le_refl _) hx04.next) ((hr.nx hx04 (Nat.le_refl _)).mono (Nat.le_refl _) hx04.next) (by omega) (by omega) hp ((hsl hp).nx hw hx04) hrc) ?_)
    rintro w A5 ⟨a, p, hred, ha, hpl, hx5, hq⟩
    have hx05 : Nx A.next A A5 := hx04.trans (hx5.le hx04.next)
    have hx15 : Nx A1.next A1 A5 := hx4.trans (hx5.le hx4.next)
    have n5 := hx5.next
    by_cases hlong : 120 < p ∨ 60 < a
    · rw [if_pos hlong] at hq
      subst hq
      obtain ⟨D, q1, q2, q3, q4, g0, g1, g2⟩ := res_put l1 (by omega) hx15 (v0 := .int .i64 0) (v1 := .slice none 0 0) (v2 := .slice none 0 0) rfl
      refine Wo.run hc 4 rfl rfl rfl ?_
      simp (maxSteps := 2000000) only [List.drop_zero, List.drop_succ_cons, List.take_succ_cons, List.take_zero, sev_tmp, sg_eq, sg_ne, sp_n, sp_none, Nat.reduceLT, ne_eq, Nat.reduceEqDiff, not_false_eq_true, gd, want_free, rops, fx, str, ext, adr_p, List.getElem?_toArray, List.getElem?_cons_zero, List.getElem?_cons_succ, Nat.zero_add, Option.some.injEq, exists_eq_left', Nat.reduceAdd, tk24, ext, q1, List.size_toArray, List.length_cons, List.length_nil, Nat.beq_refl]
      refine Wo.done hc rfl (hK _ _ ?_)
      clear hK
      (repeat (first | refine Rn.seq hc ?_ | refine Rn.skip hc ?_ | refine Rn.block hc ?_ | refine Rn.inBlock hc ?_ | refine Rn.scope hc ?_ | refine Rn.inScope hc ?_))
      refine Rn.ret (endQ_ct rfl (v := .agg #[.int .i64 0, .slice none 0 0, .slice none 0 0]) ?_ ⟨fun _ => ⟨a, p, hred, ha, hpl, ⟨by omega, q3, fun b hb => by rw [q4 _ (by omega), hx05.keep _ hb]⟩, ?_⟩, fun h => absurd he h⟩)
      · simp only [sg_eq, sg_ne, sp_n, Nat.reduceLT, ne_eq, Nat.reduceEqDiff, not_false_eq_true, ld, adr_p, cls, Nat.zero_add, Nat.reduceAdd, tk24, g0, g1, g2]
      · rw [if_pos hlong]
        simp only [sg_eq, sp_n, Nat.reduceLT]
    · rw [if_neg hlong] at hq
      obtain ⟨xa, xc, xr, xd, rfl, hg1, hg2⟩ := hq
      obtain ⟨D, q1, q2, q3, q4, g0, g1, g2⟩ := res_put l1 (by omega) hx15 (v0 := .int .i64 m) (v1 := .slice xa a xc) (v2 := .slice xr p xd) rfl
      refine Wo.run hc 4 rfl rfl rfl ?_
      simp (maxSteps := 2000000) only [List.drop_zero, List.drop_succ_cons, List.take_succ_cons, List.take_zero, sev_tmp, sg_eq, sg_ne, sp_n, sp_none, Nat.reduceLT, ne_eq, Nat.reduceEqDiff, not_false_eq_true, gd, want_free, rops, fx, str, ext, adr_p, List.getElem?_toArray, List.getElem?_cons_zero, List.getElem?_cons_succ, Nat.zero_add, Option.some.injEq, exists_eq_left', Nat.reduceAdd, tk24, ext, q1, List.size_toArray, List.length_cons, List.length_nil, Nat.beq_refl]
      refine Wo.done hc rfl (hK _ _ ?_)
      clear hK
      (repeat (first | refine Rn.seq hc ?_ | refine Rn.skip hc ?_ | refine Rn.block hc ?_ | refine Rn.inBlock hc ?_ | refine Rn.scope hc ?_ | refine Rn.inScope hc ?_))
      have hoff : ∀ b, A4.next ≤ b → Canon.look A5.objs b = none ∨ Canon.look D.objs b = Canon.look A5.objs b := fun b hb => .inr (q4 _ (by omega))
      refine Rn.ret (endQ_ct rfl (v := .agg #[.int .i64 m, .slice xa a xc, .slice xr p xd]) ?_ ⟨fun _ => ⟨a, p, hred, ha, hpl, ⟨by omega, q3, fun b hb => by rw [q4 _ (by omega), hx05.keep _ hb]⟩, ?_⟩, fun h => absurd he h⟩)
      · simp only [sg_eq, sg_ne, sp_n, Nat.reduceLT, ne_eq, Nat.reduceEqDiff, not_false_eq_true, ld, adr_p, cls, Nat.zero_add, Nat.reduceAdd, tk24, g0, g1, g2]
      · rw [if_neg hlong]
        exact ⟨xa, xc, xr, xd, by simp only [sg_eq, sp_n, Nat.reduceLT], (hg1.ext hoff (by omega)).mono hx04.next (Nat.le_refl _), (hg2.ext hoff (by omega)).mono hx04.next (Nat.le_refl _)⟩
  · have hd : (!decide (errL m st ro = 0)) = true := by rw [decide_eq_false he]; rfl
    obtain ⟨D, q1, q2, q3, q4, g0, g1, g2⟩ := res_put l1 (by omega) hx4 (v0 := .int .i64 0) (v1 := .slice none 0 0) (v2 := .slice none 0 0) rfl
    refine Rn.reg hc rfl ?_
    simp only [sev_tmp, sev_const, sg_eq, sp_n, Nat.reduceLT, gd, want_free, rops, fx, bin_neq, Option.some.injEq, exists_eq_left', hd]
    (repeat (first | refine Rn.seq hc ?_ | refine Rn.skip hc ?_ | refine Rn.block hc ?_ | refine Rn.inBlock hc ?_ | refine Rn.scope hc ?_ | refine Rn.inScope hc ?_))
    refine Rn.condE hc rfl ?_
    simp only [sev_tmp, sg_eq, sp_n, Nat.reduceLT, Value.bool.injEq, exists_eq_left']
    (repeat (first | refine Rn.seq hc ?_ | refine Rn.skip hc ?_ | refine Rn.block hc ?_ | refine Rn.inBlock hc ?_ | refine Rn.scope hc ?_ | refine Rn.inScope hc ?_))
    refine Rn.reg hc rfl ?_
    simp only [sev_tmp, sg_eq, sg_ne, sp_n, sp_none, Nat.reduceLT, ne_eq, Nat.reduceEqDiff, not_false_eq_true, gd, want_free, rops, fx, str, adr_p, Nat.zero_add, Option.some.injEq, exists_eq_left', Nat.reduceAdd, tk24, bd24_z, q1, List.size_toArray, List.length_cons, List.length_nil, Nat.beq_refl]
    (repeat (first | refine Rn.seq hc ?_ | refine Rn.skip hc ?_ | refine Rn.block hc ?_ | refine Rn.inBlock hc ?_ | refine Rn.scope hc ?_ | refine Rn.inScope hc ?_))
    refine Rn.ret (endQ_ct rfl (v := .agg #[.int .i64 0, .slice none 0 0, .slice none 0 0]) ?_ ⟨fun h => absurd h he, fun _ => ⟨by simp only [sg_eq, sp_n, Nat.reduceLT], ⟨by omega, q3, fun b hb => by rw [q4 _ (by omega), hx04.keep _ hb]⟩⟩⟩)
    simp only [sg_eq, sg_ne, sp_n, Nat.reduceLT, ne_eq, Nat.reduceEqDiff, not_false_eq_true, ld, adr_p, cls, Nat.zero_add, Nat.reduceAdd, tk24, g0, g1, g2]

theorem gcd_ref {A : AHeap} (hw : WF A) {a b : Nat} (ha : a < 4611686018427387904) (hb : b < 4611686018427387904) : Con Try.prog 104 [.int .i64 (a : Int), .int .i64 (b : Int)] A (fun v A1 => v = .int .i64 (Nat.gcd a b : Nat) ∧ Nx A.next A A1) := by
  refine con_of_rn hc Try.func104 rfl (Nat.le_of_ble_eq_true rfl) ?_
  rw [s_in2]
  (repeat (first | refine Rn.seq hc ?_ | refine Rn.skip hc ?_ | refine Rn.block hc ?_ | refine Rn.inBlock hc ?_ | refine Rn.scope hc ?_ | refine Rn.inScope hc ?_))
  refine Rn.reg hc rfl ?_
  simp only [sev_const, gd, want_free, rops, fx, Option.some.injEq, exists_eq_left', show Try.f104.ntmps = 12 from rfl]
  (repeat (first | refine Rn.seq hc ?_ | refine Rn.skip hc ?_ | refine Rn.block hc ?_ | refine Rn.inBlock hc ?_ | refine Rn.scope hc ?_ | refine Rn.inScope hc ?_))
  refine Rn.loopI hc (I := fun k s A' => ∃ x y : Nat, k = y ∧ x < 4611686018427387904 ∧ y < 4611686018427387904 ∧ Nat.gcd x y = Nat.gcd a b ∧ Nx A.next A A' ∧ s.n = 12 ∧ sget s 0 = .int .i64 (x : Int) ∧ sget s 1 = .int .i64 (y : Int))
    (n := b) ⟨a, b, rfl, ha, hb, rfl, Nx.refl hw _, by simp only [sp_n], by simp only [sg_eq, sg_ne, Nat.reduceLT, ne_eq, Nat.reduceEqDiff, not_false_eq_true], by simp only [sg_eq, sg_ne, sp_n, Nat.reduceLT, ne_eq, Nat.reduceEqDiff, not_false_eq_true]⟩ ?_
  rintro k s A' ⟨x, y, hky, hx', hy', hg, hA, hn, s0, s1⟩ ih
  (repeat (first | refine Rn.seq hc ?_ | refine Rn.skip hc ?_ | refine Rn.block hc ?_ | refine Rn.inBlock hc ?_ | refine Rn.scope hc ?_ | refine Rn.inScope hc ?_))
  by_cases hy0 : y = 0
  · subst hy0
    clear ih
    rw [Nat.gcd_zero_right] at hg
    refine Rn.reg hc rfl ?_
    simp only [sev_tmp, sev_const, sg_eq, Nat.reduceLT, gd, want_free, rops, fx, bin_neq, Option.some.injEq, exists_eq_left', Bool.not_true, Bool.not_true, hn, s1, Int.natCast_zero, eq_self, decide_true, Bool.not_true]
    (repeat (first | refine Rn.seq hc ?_ | refine Rn.skip hc ?_ | refine Rn.block hc ?_ | refine Rn.inBlock hc ?_ | refine Rn.scope hc ?_ | refine Rn.inScope hc ?_))
    refine Rn.condE hc rfl ?_
    simp only [sev_tmp, sg_eq, sp_n, Nat.reduceLT, Value.bool.injEq, exists_eq_left', hn]
    (repeat (first | refine Rn.seq hc ?_ | refine Rn.skip hc ?_ | refine Rn.block hc ?_ | refine Rn.inBlock hc ?_ | refine Rn.scope hc ?_ | refine Rn.inScope hc ?_))
    refine Rn.exit hc rfl ?_
    (repeat (first | refine Rn.seq hc ?_ | refine Rn.skip hc ?_ | refine Rn.block hc ?_ | refine Rn.inBlock hc ?_ | refine Rn.scope hc ?_ | refine Rn.inScope hc ?_))
    refine Rn.reg hc rfl ?_
    simp only [sev_tmp, sg_eq, sg_ne, sp_n, Nat.reduceLT, ne_eq, Nat.reduceEqDiff, not_false_eq_true, gd, want_free, rops, fx, Option.some.injEq, exists_eq_left', hn, s0]
    (repeat (first | refine Rn.seq hc ?_ | refine Rn.skip hc ?_ | refine Rn.block hc ?_ | refine Rn.inBlock hc ?_ | refine Rn.scope hc ?_ | refine Rn.inScope hc ?_))
    refine Rn.ret (endQ_tmp rfl ⟨?_, hA⟩)
    simp only [sg_eq, sp_n, Nat.reduceLT, hn, hg]
  · have hd : (!decide ((y : Int) = 0)) = true := by rw [decide_eq_false (by omega)]; rfl
    have hrem : ∀ M, bin Try.prog .rem 3 (.int .i64 (x : Int)) (.int .i64 (y : Int)) M = some (.int .i64 ((x % y : Nat) : Int), M) := fun M => by
      rw [bin_rem _ _ _ _ (by omega), IntWalk.rem_in _ _ (by omega)]
      rfl
    have hlt := Nat.mod_lt x (Nat.pos_of_ne_zero hy0)
    refine Rn.reg hc rfl ?_
    simp only [sev_tmp, sev_const, sg_eq, Nat.reduceLT, gd, want_free, rops, fx, bin_neq, Option.some.injEq, exists_eq_left', hn, s1, hd]
    (repeat (first | refine Rn.seq hc ?_ | refine Rn.skip hc ?_ | refine Rn.block hc ?_ | refine Rn.inBlock hc ?_ | refine Rn.scope hc ?_ | refine Rn.inScope hc ?_))
    refine Rn.condE hc rfl ?_
    simp only [sev_tmp, sg_eq, sp_n, Nat.reduceLT, Value.bool.injEq, exists_eq_left', hn]
    (repeat (first | refine Rn.seq hc ?_ | refine Rn.skip hc ?_ | refine Rn.block hc ?_ | refine Rn.inBlock hc ?_ | refine Rn.scope hc ?_ | refine Rn.inScope hc ?_))
    refine Rn.drawnR hc hx (by kernel_rfl) (by rfl) (by kernel_rfl) ?_ ?_
    · simp only [rdV, VQ.int, sev_tmp, sg_eq, sg_ne, sp_n, Nat.reduceLT, ne_eq, Nat.reduceEqDiff, not_false_eq_true, gd, want_free, fx, Nat.zero_add, Nat.reduceAdd, and_self, hn, s0, s1, hrem, List.length_cons, List.length_nil]
    simp only [sev_tmp, sg_eq, sg_ne, sp_n, Nat.reduceLT, ne_eq, Nat.reduceEqDiff, not_false_eq_true, gd, want_free, rops, fx, Nat.zero_add, Option.some.injEq, exists_eq_left', Nat.reduceAdd, hn, s0, s1, hrem, List.length_cons, List.length_nil]
    (repeat (first | refine Rn.seq hc ?_ | refine Rn.skip hc ?_ | refine Rn.block hc ?_ | refine Rn.inBlock hc ?_ | refine Rn.scope hc ?_ | refine Rn.inScope hc ?_))
    refine ih _ _ _ (by rw [hky]; exact hlt) ⟨y, x % y, rfl, hy', by omega, ?_, Nx.bump hA _, by simp only [sp_n, hn], by simp only [sg_eq, sg_ne, sp_n, Nat.reduceLT, ne_eq, Nat.reduceEqDiff, not_false_eq_true, hn], by simp only [sg_eq, sp_n, Nat.reduceLT, hn]⟩
    rw [← hg, Nat.gcd_comm x y, Nat.gcd_rec y x, Nat.gcd_comm]

/-- The least common multiple, as it is made. -/
def lcmN (a b : Nat) : Nat := a / Nat.gcd a b * b
theorem lcmN_facts {a b : Nat} (ha : 0 < a) (hb : 0 < b) : 0 < lcmN a b ∧ lcmN a b % a = 0 ∧ lcmN a b % b = 0 ∧ lcmN a b ≤ a * b := by
  have hg : 0 < Nat.gcd a b := Nat.gcd_pos_of_pos_left _ ha
  obtain ⟨x, hx⟩ := Nat.gcd_dvd_left a b
  obtain ⟨y, hy⟩ := Nat.gcd_dvd_right a b
  have e : a / Nat.gcd a b = x := by
    have : a = Nat.gcd a b * x := hx
    rw [Nat.div_eq_of_eq_mul_right hg this]
  have hx0 : 0 < x := Nat.pos_of_ne_zero fun h => by subst h; rw [Nat.mul_zero] at hx; omega
  refine ⟨?_, ?_, ?_, ?_⟩
  · unfold lcmN
    rw [e]
    exact Nat.mul_pos hx0 hb
  · unfold lcmN
    rw [e]
    have : x * b = a * y := by
      calc x * b = x * (Nat.gcd a b * y) := by rw [← hy]
        _ = Nat.gcd a b * x * y := by rw [← Nat.mul_assoc, Nat.mul_comm x]
        _ = a * y := by rw [← hx]
    rw [this, Nat.mul_mod_right]
  · unfold lcmN
    exact Nat.mul_mod_left _ _
  · unfold lcmN
    exact Nat.mul_le_mul_right _ (Nat.div_le_self _ _)
theorem lcm_ref {A : AHeap} (hw : WF A) {a b : Nat} (ha : 0 < a ∧ a ≤ 1000) (hb : 0 < b ∧ b ≤ 1000) : Con Try.prog 73 [.int .i64 (a : Int), .int .i64 (b : Int)] A (fun v A1 => v = .int .i64 (lcmN a b : Nat) ∧ Nx A.next A A1) := by
  refine con_of_rn hc Try.func73 rfl (Nat.le_of_ble_eq_true rfl) ?_
  rw [s_in2]
  (repeat (first | refine Rn.seq hc ?_ | refine Rn.skip hc ?_ | refine Rn.block hc ?_ | refine Rn.inBlock hc ?_ | refine Rn.scope hc ?_ | refine Rn.inScope hc ?_))
  refine Rn.reg hc rfl ?_
  simp only [sev_const, gd, want_free, rops, fx, Option.some.injEq, exists_eq_left', show Try.f73.ntmps = 12 from rfl]
  (repeat (first | refine Rn.seq hc ?_ | refine Rn.skip hc ?_ | refine Rn.block hc ?_ | refine Rn.inBlock hc ?_ | refine Rn.scope hc ?_ | refine Rn.inScope hc ?_))
  refine Rn.region hc fun K hK => ?_
  refine Wo.run hc 3 rfl rfl rfl ?_
  simp (maxSteps := 2000000) only [List.drop_zero, List.take_succ_cons, List.take_zero, sev_tmp, sg_eq, sg_ne, sp_n, Nat.reduceLT, ne_eq, Nat.reduceEqDiff, not_false_eq_true, gd, want_free, rops, fx, Nat.zero_add, Option.some.injEq, exists_eq_left']
  refine Wo.call hc (by rfl) (by rfl) ⟨by rfl, by rfl⟩ (xs := [.int .i64 (a : Int), .int .i64 (b : Int)]) (by first | rfl | (simp only [sev_tmp, sev_const, sev_func, sg_eq, sg_ne, sp_n, sp_none, Nat.reduceLT, ne_eq, Nat.reduceEqDiff, not_false_eq_true, gd, nth, want_free, want_slot, beqB, List.map_cons, List.map_nil, Array.toList_empty, List.nil_append, List.append_nil, List.cons_append]; done) | (simp only [sev_tmp, sev_const, sev_func, sg_eq, sg_ne, sp_n, sp_none, Nat.reduceLT, ne_eq, Nat.reduceEqDiff, not_false_eq_true, gd, nth, want_free, want_slot, beqB, List.map_cons, List.map_nil, Array.toList_empty, List.nil_append, List.append_nil, List.cons_append]; rfl)) (by first | rfl | (simp only [sev_tmp, sev_const, sev_func, sg_eq, sg_ne, sp_n, sp_none, Nat.reduceLT, ne_eq, Nat.reduceEqDiff, not_false_eq_true, gd, nth, want_free, want_slot, beqB, List.map_cons, List.map_nil, Array.toList_empty, List.nil_append, List.append_nil, List.cons_append]; done) | (simp only [sev_tmp, sev_const, sev_func, sg_eq, sg_ne, sp_n, sp_none, Nat.reduceLT, ne_eq, Nat.reduceEqDiff, not_false_eq_true, gd, nth, want_free, want_slot, beqB, List.map_cons, List.map_nil, Array.toList_empty, List.nil_append, List.append_nil, List.cons_append]; rfl)) (by first | rfl | (simp only [sev_tmp, sev_const, sev_func, sg_eq, sg_ne, sp_n, sp_none, Nat.reduceLT, ne_eq, Nat.reduceEqDiff, not_false_eq_true, gd, nth, want_free, want_slot, beqB, List.map_cons, List.map_nil, Array.toList_empty, List.nil_append, List.append_nil, List.cons_append]; done) | (simp only [sev_tmp, sev_const, sev_func, sg_eq, sg_ne, sp_n, sp_none, Nat.reduceLT, ne_eq, Nat.reduceEqDiff, not_false_eq_true, gd, nth, want_free, want_slot, beqB, List.map_cons, List.map_nil, Array.toList_empty, List.nil_append, List.append_nil, List.cons_append]; rfl)) (Con.mono (gcd_ref hw (by omega) (by omega)) ?_)
  rintro w A1 ⟨rfl, hx1⟩
  have hg : 0 < Nat.gcd a b := Nat.gcd_pos_of_pos_left _ ha.1
  have hq : ∀ M, bin Try.prog .quo 3 (.int .i64 (a : Int)) (.int .i64 (Nat.gcd a b : Nat)) M = some (.int .i64 ((a / Nat.gcd a b : Nat) : Int), M) := fun M => by
    have hle := Nat.div_le_self a (Nat.gcd a b)
    have e : ((a : Int)).tdiv ((Nat.gcd a b : Nat) : Int) = ((a / Nat.gcd a b : Nat) : Int) := by
      rw [Int.tdiv_eq_ediv_of_nonneg (by omega)]
      rfl
    have e2 : IntKind.i64.wrap ((a / Nat.gcd a b : Nat) : Int) = ((a / Nat.gcd a b : Nat) : Int) := by
      clear e
      generalize a / Nat.gcd a b = q at hle
      rw [IntWalk.i64_in _ (by omega)]
    rw [bin_quo _ _ _ _ (by omega), e, e2]
  have hm : IntKind.i64.wrap (((a / Nat.gcd a b : Nat) : Int) * (b : Int)) = ((lcmN a b : Nat) : Int) := by
    have hle : lcmN a b ≤ 1000 * 1000 := Nat.le_trans (lcmN_facts ha.1 hb.1).2.2.2 (Nat.mul_le_mul ha.2 hb.2)
    rw [← Int.natCast_mul]
    show IntKind.i64.wrap ((lcmN a b : Nat) : Int) = _
    rw [IntWalk.i64_in _ (by omega)]
  refine Wo.run hc 4 rfl rfl rfl ?_
  simp (maxSteps := 2000000) only [List.drop_zero, List.drop_succ_cons, List.take_succ_cons, List.take_zero, sev_tmp, sg_eq, sg_ne, sp_n, Nat.reduceLT, ne_eq, Nat.reduceEqDiff, not_false_eq_true, gd, want_free, rops, fx, bin_mul, Option.some.injEq, exists_eq_left', Nat.reduceAdd, hq, hm]
  refine Wo.done hc rfl (hK _ _ ?_)
  clear hK
  (repeat (first | refine Rn.seq hc ?_ | refine Rn.skip hc ?_ | refine Rn.block hc ?_ | refine Rn.inBlock hc ?_ | refine Rn.scope hc ?_ | refine Rn.inScope hc ?_))
  refine Rn.ret (endQ_tmp rfl ⟨?_, hx1⟩)
  simp only [sg_eq, sp_n, Nat.reduceLT]

theorem both_ref {A : AHeap} (hw : WF A) {x y : Las} (hox : x.ok A) (hoy : y.ok A) : Con Try.prog 71 [x.v, y.v] A (fun v A1 => v = .int .i64 (errs [x, y] [x, y]) ∧ Nx A.next A A1) := by
  refine con_of_rn hc Try.func71 rfl (Nat.le_of_ble_eq_true rfl) ?_
  obtain ⟨A1, e1, hx1, hn1, b0, b1, b2⟩ := box3 hw (.int .i64 x.m) (.slice x.sa x.st.length x.sc) (.slice x.ra x.ro.length x.rc) 24
  obtain ⟨A2, e2, hx2, hn2, c0, c1, c2⟩ := box3 hx1.wf (.int .i64 y.m) (.slice y.sa y.st.length y.sc) (.slice y.ra y.ro.length y.rc) 24
  have hx02 : Nx A.next A A2 := hx1.trans (hx2.le hx1.next)
  have b0 := (hx2.cl (show A.next < A1.next by omega) 0).trans b0
  have b1 := (hx2.cl (show A.next < A1.next by omega) 1).trans b1
  have b2 := (hx2.cl (show A.next < A1.next by omega) 2).trans b2
  rw [s_in2, errs_two]
  (repeat (first | refine Rn.seq hc ?_ | refine Rn.skip hc ?_ | refine Rn.block hc ?_ | refine Rn.inBlock hc ?_ | refine Rn.scope hc ?_ | refine Rn.inScope hc ?_))
  refine Rn.reg hc rfl ?_
  simp only [sev_tmp, sev_const, sg_eq, sg_ne, sp_n, Nat.reduceLT, ne_eq, Nat.reduceEqDiff, not_false_eq_true, gd, want_free, rops, fx, Option.some.injEq, exists_eq_left', Value.cells, show Try.f71.ntmps = 22 from rfl, Las.v, e1, e2]
  (repeat (first | refine Rn.seq hc ?_ | refine Rn.skip hc ?_ | refine Rn.block hc ?_ | refine Rn.inBlock hc ?_ | refine Rn.scope hc ?_ | refine Rn.inScope hc ?_))
  obtain ⟨o1, o2, o3, o4⟩ := hox.nx hx02
  refine Rn.region hc fun K hK => ?_
  refine Wo.run hc 1 rfl rfl rfl ?_
  simp (maxSteps := 2000000) only [List.drop_zero, List.take_succ_cons, List.take_zero, sev_tmp, sg_eq, sg_ne, sp_n, Nat.reduceLT, ne_eq, Nat.reduceEqDiff, not_false_eq_true, gd, want_free, rops, fx, ld, adr_p, cls, Nat.zero_add, Option.some.injEq, exists_eq_left', Nat.reduceAdd, tk24, b0, b1, b2]
  refine Wo.call hc (by rfl) (by rfl) ⟨by rfl, by rfl⟩ (xs := [.agg #[.int .i64 x.m, .slice x.sa x.st.length x.sc, .slice x.ra x.ro.length x.rc]]) (by first | rfl | (simp only [sev_tmp, sev_const, sev_func, sg_eq, sg_ne, sp_n, sp_none, Nat.reduceLT, ne_eq, Nat.reduceEqDiff, not_false_eq_true, gd, nth, want_free, want_slot, beqB, List.map_cons, List.map_nil, Array.toList_empty, List.nil_append, List.append_nil, List.cons_append]; done) | (simp only [sev_tmp, sev_const, sev_func, sg_eq, sg_ne, sp_n, sp_none, Nat.reduceLT, ne_eq, Nat.reduceEqDiff, not_false_eq_true, gd, nth, want_free, want_slot, beqB, List.map_cons, List.map_nil, Array.toList_empty, List.nil_append, List.append_nil, List.cons_append]; rfl)) (by first | rfl | (simp only [sev_tmp, sev_const, sev_func, sg_eq, sg_ne, sp_n, sp_none, Nat.reduceLT, ne_eq, Nat.reduceEqDiff, not_false_eq_true, gd, nth, want_free, want_slot, beqB, List.map_cons, List.map_nil, Array.toList_empty, List.nil_append, List.append_nil, List.cons_append]; done) | (simp only [sev_tmp, sev_const, sev_func, sg_eq, sg_ne, sp_n, sp_none, Nat.reduceLT, ne_eq, Nat.reduceEqDiff, not_false_eq_true, gd, nth, want_free, want_slot, beqB, List.map_cons, List.map_nil, Array.toList_empty, List.nil_append, List.append_nil, List.cons_append]; rfl)) (by first | rfl | (simp only [sev_tmp, sev_const, sev_func, sg_eq, sg_ne, sp_n, sp_none, Nat.reduceLT, ne_eq, Nat.reduceEqDiff, not_false_eq_true, gd, nth, want_free, want_slot, beqB, List.map_cons, List.map_nil, Array.toList_empty, List.nil_append, List.append_nil, List.cons_append]; done) | (simp only [sev_tmp, sev_const, sev_func, sg_eq, sg_ne, sp_n, sp_none, Nat.reduceLT, ne_eq, Nat.reduceEqDiff, not_false_eq_true, gd, nth, want_free, want_slot, beqB, List.map_cons, List.map_nil, Array.toList_empty, List.nil_append, List.append_nil, List.cons_append]; rfl)) (Con.mono (check_ref hx2.wf o1 o2 o3 o4) ?_)
  rintro w A3 ⟨rfl, hx3⟩
  refine Wo.run hc 1 rfl rfl rfl ?_
  simp (maxSteps := 2000000) only [List.drop_zero, List.drop_succ_cons, List.take_succ_cons, List.take_zero, sev_tmp, sg_eq, sp_n, Nat.reduceLT, gd, want_free, rops, fx, Option.some.injEq, exists_eq_left', Nat.reduceAdd]
  refine Wo.done hc rfl (hK _ _ ?_)
  clear hK
  (repeat (first | refine Rn.seq hc ?_ | refine Rn.skip hc ?_ | refine Rn.block hc ?_ | refine Rn.inBlock hc ?_ | refine Rn.scope hc ?_ | refine Rn.inScope hc ?_))
  have hx03 : Nx A.next A A3 := hx02.trans (hx3.le hx02.next)
  have hex : x.err = errL x.m x.st x.ro := rfl
  have hey : y.err = errL y.m y.st y.ro := rfl
  by_cases h1 : errL x.m x.st x.ro = 0
  · have hd : (!decide (errL x.m x.st x.ro = 0)) = false := by rw [decide_eq_true h1]; rfl
    rw [if_neg (by rw [hex, h1]; simp)]
    refine Rn.reg hc rfl ?_
    simp only [sev_tmp, sev_const, sg_eq, sp_n, Nat.reduceLT, gd, want_free, rops, fx, bin_neq, Option.some.injEq, exists_eq_left', hd]
    (repeat (first | refine Rn.seq hc ?_ | refine Rn.skip hc ?_ | refine Rn.block hc ?_ | refine Rn.inBlock hc ?_ | refine Rn.scope hc ?_ | refine Rn.inScope hc ?_))
    refine Rn.condE hc rfl ?_
    simp only [sev_tmp, sg_eq, sp_n, Nat.reduceLT, Value.bool.injEq, exists_eq_left']
    (repeat (first | refine Rn.seq hc ?_ | refine Rn.skip hc ?_ | refine Rn.block hc ?_ | refine Rn.inBlock hc ?_ | refine Rn.scope hc ?_ | refine Rn.inScope hc ?_))
    have c0' := (hx3.cl (show A1.next < A2.next by omega) 0).trans c0
    have c1' := (hx3.cl (show A1.next < A2.next by omega) 1).trans c1
    have c2' := (hx3.cl (show A1.next < A2.next by omega) 2).trans c2
    obtain ⟨p1, p2, p3, p4⟩ := hoy.nx hx03
    refine Rn.region hc fun K hK => ?_
    refine Wo.run hc 1 rfl rfl rfl ?_
    simp (maxSteps := 2000000) only [List.drop_zero, List.take_succ_cons, List.take_zero, sev_tmp, sg_eq, sg_ne, sp_n, Nat.reduceLT, ne_eq, Nat.reduceEqDiff, not_false_eq_true, gd, want_free, rops, fx, ld, adr_p, cls, Nat.zero_add, Option.some.injEq, exists_eq_left', Nat.reduceAdd, tk24, c0', c1', c2']
    refine Wo.call hc (by rfl) (by rfl) ⟨by rfl, by rfl⟩ (xs := [.agg #[.int .i64 y.m, .slice y.sa y.st.length y.sc, .slice y.ra y.ro.length y.rc]]) (by first | rfl | (simp only [sev_tmp, sev_const, sev_func, sg_eq, sg_ne, sp_n, sp_none, Nat.reduceLT, ne_eq, Nat.reduceEqDiff, not_false_eq_true, gd, nth, want_free, want_slot, beqB, List.map_cons, List.map_nil, Array.toList_empty, List.nil_append, List.append_nil, List.cons_append]; done) | (simp only [sev_tmp, sev_const, sev_func, sg_eq, sg_ne, sp_n, sp_none, Nat.reduceLT, ne_eq, Nat.reduceEqDiff, not_false_eq_true, gd, nth, want_free, want_slot, beqB, List.map_cons, List.map_nil, Array.toList_empty, List.nil_append, List.append_nil, List.cons_append]; rfl)) (by first | rfl | (simp only [sev_tmp, sev_const, sev_func, sg_eq, sg_ne, sp_n, sp_none, Nat.reduceLT, ne_eq, Nat.reduceEqDiff, not_false_eq_true, gd, nth, want_free, want_slot, beqB, List.map_cons, List.map_nil, Array.toList_empty, List.nil_append, List.append_nil, List.cons_append]; done) | (simp only [sev_tmp, sev_const, sev_func, sg_eq, sg_ne, sp_n, sp_none, Nat.reduceLT, ne_eq, Nat.reduceEqDiff, not_false_eq_true, gd, nth, want_free, want_slot, beqB, List.map_cons, List.map_nil, Array.toList_empty, List.nil_append, List.append_nil, List.cons_append]; rfl)) (by first | rfl | (simp only [sev_tmp, sev_const, sev_func, sg_eq, sg_ne, sp_n, sp_none, Nat.reduceLT, ne_eq, Nat.reduceEqDiff, not_false_eq_true, gd, nth, want_free, want_slot, beqB, List.map_cons, List.map_nil, Array.toList_empty, List.nil_append, List.append_nil, List.cons_append]; done) | (simp only [sev_tmp, sev_const, sev_func, sg_eq, sg_ne, sp_n, sp_none, Nat.reduceLT, ne_eq, Nat.reduceEqDiff, not_false_eq_true, gd, nth, want_free, want_slot, beqB, List.map_cons, List.map_nil, Array.toList_empty, List.nil_append, List.append_nil, List.cons_append]; rfl)) (Con.mono (check_ref hx3.wf p1 p2 p3 p4) ?_)
    rintro w A4 ⟨rfl, hx4⟩
    refine Wo.run hc 1 rfl rfl rfl ?_
    simp (maxSteps := 2000000) only [List.drop_zero, List.drop_succ_cons, List.take_succ_cons, List.take_zero, sev_tmp, sg_eq, sp_n, Nat.reduceLT, gd, want_free, rops, fx, Option.some.injEq, exists_eq_left', Nat.reduceAdd]
    refine Wo.done hc rfl (hK _ _ ?_)
    clear hK
    (repeat (first | refine Rn.seq hc ?_ | refine Rn.skip hc ?_ | refine Rn.block hc ?_ | refine Rn.inBlock hc ?_ | refine Rn.scope hc ?_ | refine Rn.inScope hc ?_))
    have hx24 : Nx A2.next A2 A4 := hx3.trans (hx4.le hx3.next)
    have hx04 : Nx A.next A A4 := hx02.trans (hx24.le hx02.next)
    by_cases h2 : errL y.m y.st y.ro = 0
    · have hd2 : (!decide (errL y.m y.st y.ro = 0)) = false := by rw [decide_eq_true h2]; rfl
      rw [if_neg (by rw [hey, h2]; simp)]
      have b0' := (hx24.cl (show A.next < A2.next by omega) 0).trans b0
      have c0'' := (hx24.cl (show A1.next < A2.next by omega) 0).trans c0
      refine Rn.reg hc rfl ?_
      simp only [sev_tmp, sev_const, sg_eq, sp_n, Nat.reduceLT, gd, want_free, rops, fx, bin_neq, Option.some.injEq, exists_eq_left', hd2]
      (repeat (first | refine Rn.seq hc ?_ | refine Rn.skip hc ?_ | refine Rn.block hc ?_ | refine Rn.inBlock hc ?_ | refine Rn.scope hc ?_ | refine Rn.inScope hc ?_))
      refine Rn.condE hc rfl ?_
      simp only [sev_tmp, sg_eq, sp_n, Nat.reduceLT, Value.bool.injEq, exists_eq_left']
      (repeat (first | refine Rn.seq hc ?_ | refine Rn.skip hc ?_ | refine Rn.block hc ?_ | refine Rn.inBlock hc ?_ | refine Rn.scope hc ?_ | refine Rn.inScope hc ?_))
      by_cases h3 : x.m = y.m
      · have hd3 : (!decide (x.m = y.m)) = false := by rw [decide_eq_true h3]; rfl
        refine Rn.reg hc rfl ?_
        simp only [sev_tmp, sg_eq, sg_ne, sp_n, Nat.reduceLT, ne_eq, Nat.reduceEqDiff, not_false_eq_true, gd, want_free, rops, fx, ld, fad, bin_neq, adr_p, Nat.add_zero, Option.some.injEq, exists_eq_left', tk3, fo24_0, b0', c0'', hd3]
        (repeat (first | refine Rn.seq hc ?_ | refine Rn.skip hc ?_ | refine Rn.block hc ?_ | refine Rn.inBlock hc ?_ | refine Rn.scope hc ?_ | refine Rn.inScope hc ?_))
        refine Rn.condE hc rfl ?_
        simp only [sev_tmp, sg_eq, sp_n, Nat.reduceLT, Value.bool.injEq, exists_eq_left']
        (repeat (first | refine Rn.seq hc ?_ | refine Rn.skip hc ?_ | refine Rn.block hc ?_ | refine Rn.inBlock hc ?_ | refine Rn.scope hc ?_ | refine Rn.inScope hc ?_))
        refine Rn.reg hc rfl ?_
        simp only [sev_const, gd, want_free, rops, fx, Option.some.injEq, exists_eq_left']
        (repeat (first | refine Rn.seq hc ?_ | refine Rn.skip hc ?_ | refine Rn.block hc ?_ | refine Rn.inBlock hc ?_ | refine Rn.scope hc ?_ | refine Rn.inScope hc ?_))
        refine Rn.ret (endQ_tmp rfl ⟨?_, hx04⟩)
        rw [if_pos h3]
        simp only [sg_eq, sp_n, Nat.reduceLT]
      · have hd3 : (!decide (x.m = y.m)) = true := by rw [decide_eq_false h3]; rfl
        refine Rn.reg hc rfl ?_
        simp only [sev_tmp, sg_eq, sg_ne, sp_n, Nat.reduceLT, ne_eq, Nat.reduceEqDiff, not_false_eq_true, gd, want_free, rops, fx, ld, fad, bin_neq, adr_p, Nat.add_zero, Option.some.injEq, exists_eq_left', tk3, fo24_0, b0', c0'', hd3]
        (repeat (first | refine Rn.seq hc ?_ | refine Rn.skip hc ?_ | refine Rn.block hc ?_ | refine Rn.inBlock hc ?_ | refine Rn.scope hc ?_ | refine Rn.inScope hc ?_))
        refine Rn.condE hc rfl ?_
        simp only [sev_tmp, sg_eq, sp_n, Nat.reduceLT, Value.bool.injEq, exists_eq_left']
        (repeat (first | refine Rn.seq hc ?_ | refine Rn.skip hc ?_ | refine Rn.block hc ?_ | refine Rn.inBlock hc ?_ | refine Rn.scope hc ?_ | refine Rn.inScope hc ?_))
        refine Rn.reg hc rfl ?_
        simp only [sev_const, gd, want_free, rops, fx, Option.some.injEq, exists_eq_left']
        (repeat (first | refine Rn.seq hc ?_ | refine Rn.skip hc ?_ | refine Rn.block hc ?_ | refine Rn.inBlock hc ?_ | refine Rn.scope hc ?_ | refine Rn.inScope hc ?_))
        refine Rn.ret (endQ_tmp rfl ⟨?_, hx04⟩)
        rw [if_neg h3]
        simp only [sg_eq, sp_n, Nat.reduceLT]
    · have hd2 : (!decide (errL y.m y.st y.ro = 0)) = true := by rw [decide_eq_false h2]; rfl
      rw [if_pos (show y.err ≠ 0 from h2)]
      refine Rn.reg hc rfl ?_
      simp only [sev_tmp, sev_const, sg_eq, sp_n, Nat.reduceLT, gd, want_free, rops, fx, bin_neq, Option.some.injEq, exists_eq_left', hd2]
      (repeat (first | refine Rn.seq hc ?_ | refine Rn.skip hc ?_ | refine Rn.block hc ?_ | refine Rn.inBlock hc ?_ | refine Rn.scope hc ?_ | refine Rn.inScope hc ?_))
      refine Rn.condE hc rfl ?_
      simp only [sev_tmp, sg_eq, sp_n, Nat.reduceLT, Value.bool.injEq, exists_eq_left']
      (repeat (first | refine Rn.seq hc ?_ | refine Rn.skip hc ?_ | refine Rn.block hc ?_ | refine Rn.inBlock hc ?_ | refine Rn.scope hc ?_ | refine Rn.inScope hc ?_))
      refine Rn.reg hc rfl ?_
      simp only [sev_tmp, sg_eq, sg_ne, sp_n, Nat.reduceLT, ne_eq, Nat.reduceEqDiff, not_false_eq_true, gd, want_free, rops, fx, Option.some.injEq, exists_eq_left']
      (repeat (first | refine Rn.seq hc ?_ | refine Rn.skip hc ?_ | refine Rn.block hc ?_ | refine Rn.inBlock hc ?_ | refine Rn.scope hc ?_ | refine Rn.inScope hc ?_))
      refine Rn.ret (endQ_tmp rfl ⟨?_, hx04⟩)
      simp only [sg_eq, sp_n, Nat.reduceLT]
      rfl
  · have hd : (!decide (errL x.m x.st x.ro = 0)) = true := by rw [decide_eq_false h1]; rfl
    rw [if_pos (show x.err ≠ 0 from h1)]
    refine Rn.reg hc rfl ?_
    simp only [sev_tmp, sev_const, sg_eq, sp_n, Nat.reduceLT, gd, want_free, rops, fx, bin_neq, Option.some.injEq, exists_eq_left', hd]
    (repeat (first | refine Rn.seq hc ?_ | refine Rn.skip hc ?_ | refine Rn.block hc ?_ | refine Rn.inBlock hc ?_ | refine Rn.scope hc ?_ | refine Rn.inScope hc ?_))
    refine Rn.condE hc rfl ?_
    simp only [sev_tmp, sg_eq, sp_n, Nat.reduceLT, Value.bool.injEq, exists_eq_left']
    (repeat (first | refine Rn.seq hc ?_ | refine Rn.skip hc ?_ | refine Rn.block hc ?_ | refine Rn.inBlock hc ?_ | refine Rn.scope hc ?_ | refine Rn.inScope hc ?_))
    refine Rn.reg hc rfl ?_
    simp only [sev_tmp, sg_eq, sg_ne, sp_n, Nat.reduceLT, ne_eq, Nat.reduceEqDiff, not_false_eq_true, gd, want_free, rops, fx, Option.some.injEq, exists_eq_left']
    (repeat (first | refine Rn.seq hc ?_ | refine Rn.skip hc ?_ | refine Rn.block hc ?_ | refine Rn.inBlock hc ?_ | refine Rn.scope hc ?_ | refine Rn.inScope hc ?_))
    refine Rn.ret (endQ_tmp rfl ⟨?_, hx03⟩)
    simp only [sg_eq, sp_n, Nat.reduceLT]
    rfl
end Go.Proofs.Ytdaljohmfnfgiaa
/- Where two streams differ, and whether they are the same: the reference. No condition. -/
namespace Go.Proofs.Ytdaljohmfnfgiaa
open Go Go.RowKit Go.Proofs.Ytdaljohmfnfgiaa.Canon
set_option maxRecDepth 20000


theorem ApartQ.uniq {s t : Nat → Int} {v w : Value} (h : ApartQ s t v) (k : ApartQ s t w) : v = w := by
  rcases h with ⟨n, rfl, h1, h2⟩ | ⟨rfl, h1⟩
  · rcases k with ⟨n', rfl, k1, k2⟩ | ⟨rfl, k1⟩
    · have : n = n' := by
        rcases Nat.lt_trichotomy n n' with hh | hh | hh
        · exact absurd (k2 n hh) h1
        · exact hh
        · exact absurd (h2 n' hh) k1
      subst this
      rfl
    · exact absurd (k1 n) h1
  · rcases k with ⟨n', rfl, k1, k2⟩ | ⟨rfl, k1⟩
    · exact absurd (h1 n') k1
    · rfl
theorem agree_lcm {s t : Nat → Int} {N L : Nat} (h1 : Per s N L) (h2 : Per t N L) (h : ∀ n, n < N + L → s n = t n) : ∀ n, s n = t n := fun n => by
  by_cases hn : n < N + L
  · exact h n hn
  · have hm := Nat.mod_lt (n - N) h1.pos
    have hle := Nat.mod_le (n - N) L
    have hmod : n % L = (N + (n - N) % L) % L := by
      rw [Nat.add_mod_mod]
      congr 1
      omega
    rw [h1.same (x := n) (y := N + (n - N) % L) (by omega) (by omega) hmod, h2.same (x := n) (y := N + (n - N) % L) (by omega) (by omega) hmod]
    exact h _ (by omega)
theorem per_of_dvd {st ro : List Int} {N L : Nat} (hro : 0 < ro.length) (hN : st.length ≤ N) (hL : 0 < L) (hd : L % ro.length = 0) : Per (atL st ro) N L := by
  obtain ⟨k, hk⟩ := Nat.dvd_of_mod_eq_zero hd
  have := ((atL_per (st := st) hro).mono hN).mul (k := k) (Nat.pos_of_ne_zero fun h0 => by subst h0; omega)
  rwa [Nat.mul_comm, ← hk] at this
def iS (f : FuncId → List Value → Int) : Canon.Spec := fun g xs A v A1 => v = .int .i64 (f g xs) ∧ Nx A.next A A1
theorem ints_uniq {A : AHeap} {a : Option Addr} {lo hi lo' hi' : Nat} {l l' : List Int} (h : Ints A a lo hi l) (h' : Ints A a lo' hi' l') (hl : l.length = l'.length) : l = l' := by
  refine List.ext_getElem hl fun i h1 h2 => ?_
  obtain ⟨b, o, rfl, _, _, q⟩ := h i h1
  obtain ⟨b', o', e, _, _, q'⟩ := h' i h2
  cases e
  rw [q] at q'
  simp [List.getD_eq_getElem?_getD, h1, h2] at q'
  exact q'
def atS : Canon.Spec := fun _ xs A v A1 => (∀ (m : Int) (sa : Option Addr) (st : List Int) (sc : Nat) (ra : Option Addr) (ro : List Int) (rc n : Nat), xs = [.agg #[.int .i64 m, .slice sa st.length sc, .slice ra ro.length rc], .int .i64 (n : Int)] → Ints A sa 0 A.next st → Ints A ra 0 A.next ro → v = .int .i64 (atL st ro n)) ∧ Nx A.next A A1
theorem at_ref_S {A : AHeap} (hw : WF A) {m : Int} {sa ra : Option Addr} {sc rc : Nat} {st ro : List Int} (hs : Ints A sa 0 A.next st) (hr : Ints A ra 0 A.next ro) (n : Nat) (hst : st.length < 4611686018427387904) (hro : 0 < ro.length) (hro2 : ro.length < 4611686018427387904) (hn : n < 9223372036854775808) :
    Con Try.prog 74 [.agg #[.int .i64 m, .slice sa st.length sc, .slice ra ro.length rc], .int .i64 (n : Int)] A (atS 74 [.agg #[.int .i64 m, .slice sa st.length sc, .slice ra ro.length rc], .int .i64 (n : Int)] A) := by
  refine Con.mono (at_ref hw hs hr n hst hro hro2 hn) fun v A1 h => ⟨fun m' sa' st' sc' ra' ro' rc' n' e h1 h2 => ?_, h.2⟩
  simp only [List.cons.injEq, Value.agg.injEq, Array.mk.injEq, Value.int.injEq, Value.slice.injEq, true_and, and_true] at e
  obtain ⟨⟨-, ⟨rfl, e1, -⟩, rfl, e2, -⟩, e3⟩ := e
  have hn' : n = n' := by omega
  subst hn'
  rw [h.1, ints_uniq hs h1 e1, ints_uniq hr h2 e2]

theorem apart_ref {A : AHeap} (hw : WF A) {x y : Las} (hox : x.ok A) (hoy : y.ok A) :
    Con Try.prog 23 [x.v, y.v] A (fun v A1 => Nx A.next A A1 ∧ (errs [x, y] [x, y] = 0 → ApartQ x.s y.s v) ∧ (errs [x, y] [x, y] ≠ 0 → v = .tuple #[.int .i64 0, .int .i64 (errs [x, y] [x, y])])) := by
  refine con_of_rn hc Try.func23 rfl (Nat.le_of_ble_eq_true rfl) ?_
  obtain ⟨A1, e1, hx1, hn1, b0, b1, b2⟩ := box3 hw (.int .i64 x.m) (.slice x.sa x.st.length x.sc) (.slice x.ra x.ro.length x.rc) 24
  obtain ⟨A2, e2, hx2, hn2, c0, c1, c2⟩ := box3 hx1.wf (.int .i64 y.m) (.slice y.sa y.st.length y.sc) (.slice y.ra y.ro.length y.rc) 24
  have hx02 : Nx A.next A A2 := hx1.trans (hx2.le hx1.next)
  have b0 := (hx2.cl (show A.next < A1.next by omega) 0).trans b0
  have b1 := (hx2.cl (show A.next < A1.next by omega) 1).trans b1
  have b2 := (hx2.cl (show A.next < A1.next by omega) 2).trans b2
  rw [s_in2]
  (repeat (first | refine Rn.seq hc ?_ | refine Rn.skip hc ?_ | refine Rn.block hc ?_ | refine Rn.inBlock hc ?_ | refine Rn.scope hc ?_ | refine Rn.inScope hc ?_))
  refine Rn.reg hc rfl ?_
  simp only [sev_tmp, sev_const, sg_eq, sg_ne, sp_n, Nat.reduceLT, ne_eq, Nat.reduceEqDiff, not_false_eq_true, gd, want_free, rops, fx, Option.some.injEq, exists_eq_left', Value.cells, show Try.f23.ntmps = 41 from rfl, Las.v, e1, e2]
  (repeat (first | refine Rn.seq hc ?_ | refine Rn.skip hc ?_ | refine Rn.block hc ?_ | refine Rn.inBlock hc ?_ | refine Rn.scope hc ?_ | refine Rn.inScope hc ?_))
  refine Rn.region hc fun K hK => ?_
  refine Wo.run hc 2 rfl rfl rfl ?_
  simp (maxSteps := 2000000) only [List.drop_zero, List.take_succ_cons, List.take_zero, sev_tmp, sg_eq, sg_ne, sp_n, Nat.reduceLT, ne_eq, Nat.reduceEqDiff, not_false_eq_true, gd, want_free, rops, fx, ld, adr_p, cls, Nat.zero_add, Option.some.injEq, exists_eq_left', Nat.reduceAdd, tk24, b0, b1, b2, c0, c1, c2]
  refine Wo.call hc (by rfl) (by rfl) ⟨by rfl, by rfl⟩ (xs := [x.v, y.v]) (by first | rfl | (simp only [sev_tmp, sev_const, sev_func, sg_eq, sg_ne, sp_n, sp_none, Nat.reduceLT, ne_eq, Nat.reduceEqDiff, not_false_eq_true, gd, nth, want_free, want_slot, beqB, List.map_cons, List.map_nil, Array.toList_empty, List.nil_append, List.append_nil, List.cons_append, Las.v]; done) | (simp only [sev_tmp, sev_const, sev_func, sg_eq, sg_ne, sp_n, sp_none, Nat.reduceLT, ne_eq, Nat.reduceEqDiff, not_false_eq_true, gd, nth, want_free, want_slot, beqB, List.map_cons, List.map_nil, Array.toList_empty, List.nil_append, List.append_nil, List.cons_append, Las.v]; rfl)) (by first | rfl | (simp only [sev_tmp, sev_const, sev_func, sg_eq, sg_ne, sp_n, sp_none, Nat.reduceLT, ne_eq, Nat.reduceEqDiff, not_false_eq_true, gd, nth, want_free, want_slot, beqB, List.map_cons, List.map_nil, Array.toList_empty, List.nil_append, List.append_nil, List.cons_append, Las.v]; done) | (simp only [sev_tmp, sev_const, sev_func, sg_eq, sg_ne, sp_n, sp_none, Nat.reduceLT, ne_eq, Nat.reduceEqDiff, not_false_eq_true, gd, nth, want_free, want_slot, beqB, List.map_cons, List.map_nil, Array.toList_empty, List.nil_append, List.append_nil, List.cons_append, Las.v]; rfl)) (by first | rfl | (simp only [sev_tmp, sev_const, sev_func, sg_eq, sg_ne, sp_n, sp_none, Nat.reduceLT, ne_eq, Nat.reduceEqDiff, not_false_eq_true, gd, nth, want_free, want_slot, beqB, List.map_cons, List.map_nil, Array.toList_empty, List.nil_append, List.append_nil, List.cons_append, Las.v]; done) | (simp only [sev_tmp, sev_const, sev_func, sg_eq, sg_ne, sp_n, sp_none, Nat.reduceLT, ne_eq, Nat.reduceEqDiff, not_false_eq_true, gd, nth, want_free, want_slot, beqB, List.map_cons, List.map_nil, Array.toList_empty, List.nil_append, List.append_nil, List.cons_append, Las.v]; rfl)) (Con.mono (both_ref hx2.wf (hox.nx hx02) (hoy.nx hx02)) ?_)
  rintro w A4 ⟨rfl, hx4⟩
  refine Wo.run hc 1 rfl rfl rfl ?_
  simp (maxSteps := 2000000) only [List.drop_zero, List.drop_succ_cons, List.take_succ_cons, List.take_zero, sev_tmp, sg_eq, sp_n, Nat.reduceLT, gd, want_free, rops, fx, Option.some.injEq, exists_eq_left', Nat.reduceAdd]
  refine Wo.done hc rfl (hK _ _ ?_)
  clear hK
  (repeat (first | refine Rn.seq hc ?_ | refine Rn.skip hc ?_ | refine Rn.block hc ?_ | refine Rn.inBlock hc ?_ | refine Rn.scope hc ?_ | refine Rn.inScope hc ?_))
  have hx04 : Nx A.next A A4 := hx02.trans (hx4.le hx02.next)
  by_cases he : errs [x, y] [x, y] = 0
  · rw [he]
    have he2 := he
    rw [errs_two] at he2
    have hE1 : errL x.m x.st x.ro = 0 := Decidable.byContradiction fun h => by
      rw [if_pos (show x.err ≠ 0 from h)] at he2
      exact h he2
    have hE2 : errL y.m y.st y.ro = 0 := Decidable.byContradiction fun h => by
      rw [if_neg (by show ¬ (errL x.m x.st x.ro ≠ 0); simp [hE1]), if_pos (show y.err ≠ 0 from h)] at he2
      exact h he2
    obtain ⟨s60, r120⟩ := errL_len hE1
    obtain ⟨s60', r120'⟩ := errL_len hE2
    have hp := errL_pos hE1
    have hp' := errL_pos hE2
    obtain ⟨lf1, lf2, lf3, lf4⟩ := lcmN_facts hp hp'
    have hbig : lcmN x.ro.length y.ro.length ≤ 120 * 120 := Nat.le_trans lf4 (Nat.mul_le_mul r120 r120')
    obtain ⟨l, hl⟩ : ∃ l, l = lcmN x.ro.length y.ro.length := ⟨_, rfl⟩
    rw [← hl] at lf1 lf2 lf3 hbig
    have n4 := hx4.next
    refine Rn.reg hc rfl ?_
    simp only [sev_tmp, sev_const, sg_eq, sp_n, Nat.reduceLT, gd, want_free, rops, fx, bin_neq, Option.some.injEq, exists_eq_left', Bool.not_true, Bool.not_true, eq_self, decide_true, Bool.not_true]
    (repeat (first | refine Rn.seq hc ?_ | refine Rn.skip hc ?_ | refine Rn.block hc ?_ | refine Rn.inBlock hc ?_ | refine Rn.scope hc ?_ | refine Rn.inScope hc ?_))
    refine Rn.condE hc rfl ?_
    simp only [sev_tmp, sg_eq, sp_n, Nat.reduceLT, Value.bool.injEq, exists_eq_left']
    (repeat (first | refine Rn.seq hc ?_ | refine Rn.skip hc ?_ | refine Rn.block hc ?_ | refine Rn.inBlock hc ?_ | refine Rn.scope hc ?_ | refine Rn.inScope hc ?_))
    refine Rn.reg hc rfl ?_
    simp only [sev_const, gd, want_free, rops, fx, Option.some.injEq, exists_eq_left']
    (repeat (first | refine Rn.seq hc ?_ | refine Rn.skip hc ?_ | refine Rn.block hc ?_ | refine Rn.inBlock hc ?_ | refine Rn.scope hc ?_ | refine Rn.inScope hc ?_))
    have hw2 : IntKind.i64.wrap (max (x.st.length : Int) (y.st.length : Int) + (l : Int)) = ((max x.st.length y.st.length + l : Nat) : Int) := by rw [IntWalk.i64_in _ (by omega)]; omega
    obtain ⟨L, hL⟩ : ∃ L, L = max x.st.length y.st.length + l := ⟨_, rfl⟩
    rw [← hL] at hw2
    refine Rn.loopI hc (I := fun k s A' => ∃ n, n ≤ L ∧ k = L - n ∧ Nx A2.next A2 A' ∧ (∀ j, j < n → x.s j = y.s j) ∧ s.n = 41 ∧ sget s 2 = .pointer (some ⟨A.next, 0, none⟩) ∧ sget s 3 = .pointer (some ⟨A1.next, 0, none⟩) ∧ sget s 7 = .int .i64 (n : Int))
      (n := L) ⟨0, by omega, rfl, hx4, fun j hj => by omega, by simp only [sp_n], by simp only [sg_eq, sg_ne, sp_n, Nat.reduceLT, ne_eq, Nat.reduceEqDiff, not_false_eq_true], by simp only [sg_eq, sg_ne, sp_n, Nat.reduceLT, ne_eq, Nat.reduceEqDiff, not_false_eq_true], by simp only [sg_eq, sp_n, Nat.reduceLT]; rfl⟩ ?_
    rintro k s A' ⟨n, hn1', rfl, hA, hag, hn, s2, s3, s7⟩ ih
    have hA0 : Nx A.next A A' := hx02.trans (hA.le hx02.next)
    have b0 := (hA.cl (show A.next < A2.next by omega) 0).trans b0
    have b1 := (hA.cl (show A.next < A2.next by omega) 1).trans b1
    have b2 := (hA.cl (show A.next < A2.next by omega) 2).trans b2
    have c0 := (hA.cl (show A1.next < A2.next by omega) 0).trans c0
    have c1 := (hA.cl (show A1.next < A2.next by omega) 1).trans c1
    have c2 := (hA.cl (show A1.next < A2.next by omega) 2).trans c2
    have hAn := hA.next
    obtain ⟨F, hFb, hF⟩ : ∃ F : AHeap → Prop, (∀ M, F M → ∀ b, b < A'.next → ∀ o, cl M b o = cl A' b o) ∧ (∀ M, Nx A'.next A' M → F M) := ⟨fun M => Nx A'.next A' M, fun M h b hb o => h.cl hb o, fun _ h => h⟩
    have G0 := fun M hM => (hFb M hM _ (show A.next < A'.next by omega) 0).trans b0
    have G1 := fun M hM => (hFb M hM _ (show A.next < A'.next by omega) 1).trans b1
    have G2 := fun M hM => (hFb M hM _ (show A.next < A'.next by omega) 2).trans b2
    have H0 := fun M hM => (hFb M hM _ (show A1.next < A'.next by omega) 0).trans c0
    have H1 := fun M hM => (hFb M hM _ (show A1.next < A'.next by omega) 1).trans c1
    have H2 := fun M hM => (hFb M hM _ (show A1.next < A'.next by omega) 2).trans c2
    have hbk : Nx A'.next A' (bump A' 17) := Nx.bump (Nx.refl hA.wf _) 17
    have FB := hF _ hbk
    (repeat (first | refine Rn.seq hc ?_ | refine Rn.skip hc ?_ | refine Rn.block hc ?_ | refine Rn.inBlock hc ?_ | refine Rn.scope hc ?_ | refine Rn.inScope hc ?_))
    refine Rn.drawnF hc hx (iS (fun _ _ => (l : Int))) F (n := 1) (k := 17) (by kernel_rfl) (by kernel_rfl) (by rfl) ?_
    refine Dr.read (by first | rfl | kernel_rfl) (by first | rfl | (simp only [sev_tmp, sev_const, sev_func, sg_eq, sg_ne, sp_n, sp_none, Nat.reduceLT, ne_eq, Nat.reduceEqDiff, not_false_eq_true, gd, nth, want_free, want_slot, beqB, List.map_cons, List.map_nil, Array.toList_empty, List.nil_append, List.append_nil, List.cons_append, hn]; done) | (simp only [sev_tmp, sev_const, sev_func, sg_eq, sg_ne, sp_n, sp_none, Nat.reduceLT, ne_eq, Nat.reduceEqDiff, not_false_eq_true, gd, nth, want_free, want_slot, beqB, List.map_cons, List.map_nil, Array.toList_empty, List.nil_append, List.append_nil, List.cons_append, hn]; rfl)) (by assumption) (fun M hM => by simp only [sev_tmp, fx, s7] <;> rfl) (by rfl) (by first | exact VQ.int _ _ | exact VQ.bool _ | exact VQ.ptr _ _ | exact VQ.slice _ _ _ | exact VQ.func (by simp [vq_int, vq_ptr, vq_slice]) (by simp [vq_int, vq_ptr, vq_slice]) | exact VQ.agg (by simp [vq_int, vq_ptr, vq_slice]) | exact VQ.tuple (by simp [vq_int, vq_ptr, vq_slice])) ?_
    refine Dr.read (by first | rfl | kernel_rfl) (by first | rfl | (simp only [sev_tmp, sev_const, sev_func, sg_eq, sg_ne, sp_n, sp_none, Nat.reduceLT, ne_eq, Nat.reduceEqDiff, not_false_eq_true, gd, nth, want_free, want_slot, beqB, List.map_cons, List.map_nil, Array.toList_empty, List.nil_append, List.append_nil, List.cons_append, hn]; done) | (simp only [sev_tmp, sev_const, sev_func, sg_eq, sg_ne, sp_n, sp_none, Nat.reduceLT, ne_eq, Nat.reduceEqDiff, not_false_eq_true, gd, nth, want_free, want_slot, beqB, List.map_cons, List.map_nil, Array.toList_empty, List.nil_append, List.append_nil, List.cons_append, hn]; rfl)) (by assumption) (fun M hM => by simp only [sev_tmp, sg_ne, ne_eq, Nat.reduceEqDiff, not_false_eq_true, fx, fad, adr_p, Nat.zero_add, fo24_1, s2] <;> rfl) (by rfl) (by first | exact VQ.int _ _ | exact VQ.bool _ | exact VQ.ptr _ _ | exact VQ.slice _ _ _ | exact VQ.func (by simp [vq_int, vq_ptr, vq_slice]) (by simp [vq_int, vq_ptr, vq_slice]) | exact VQ.agg (by simp [vq_int, vq_ptr, vq_slice]) | exact VQ.tuple (by simp [vq_int, vq_ptr, vq_slice])) ?_
    refine Dr.read (by first | rfl | kernel_rfl) (by first | rfl | (simp only [sev_tmp, sev_const, sev_func, sg_eq, sg_ne, sp_n, sp_none, Nat.reduceLT, ne_eq, Nat.reduceEqDiff, not_false_eq_true, gd, nth, want_free, want_slot, beqB, List.map_cons, List.map_nil, Array.toList_empty, List.nil_append, List.append_nil, List.cons_append, hn]; done) | (simp only [sev_tmp, sev_const, sev_func, sg_eq, sg_ne, sp_n, sp_none, Nat.reduceLT, ne_eq, Nat.reduceEqDiff, not_false_eq_true, gd, nth, want_free, want_slot, beqB, List.map_cons, List.map_nil, Array.toList_empty, List.nil_append, List.append_nil, List.cons_append, hn]; rfl)) (by assumption) (fun M hM => by simp only [sev_tmp, sg_eq, sp_n, Nat.reduceLT, fx, ld, adr_p, tk22, hn, G1 M hM] <;> rfl) (by rfl) (by first | exact VQ.int _ _ | exact VQ.bool _ | exact VQ.ptr _ _ | exact VQ.slice _ _ _ | exact VQ.func (by simp [vq_int, vq_ptr, vq_slice]) (by simp [vq_int, vq_ptr, vq_slice]) | exact VQ.agg (by simp [vq_int, vq_ptr, vq_slice]) | exact VQ.tuple (by simp [vq_int, vq_ptr, vq_slice])) ?_
    refine Dr.read (by first | rfl | kernel_rfl) (by first | rfl | (simp only [sev_tmp, sev_const, sev_func, sg_eq, sg_ne, sp_n, sp_none, Nat.reduceLT, ne_eq, Nat.reduceEqDiff, not_false_eq_true, gd, nth, want_free, want_slot, beqB, List.map_cons, List.map_nil, Array.toList_empty, List.nil_append, List.append_nil, List.cons_append, hn]; done) | (simp only [sev_tmp, sev_const, sev_func, sg_eq, sg_ne, sp_n, sp_none, Nat.reduceLT, ne_eq, Nat.reduceEqDiff, not_false_eq_true, gd, nth, want_free, want_slot, beqB, List.map_cons, List.map_nil, Array.toList_empty, List.nil_append, List.append_nil, List.cons_append, hn]; rfl)) (by assumption) (fun M hM => by simp only [sev_tmp, sg_eq, sp_n, Nat.reduceLT, fx, lng, un22, hn] <;> rfl) (by rfl) (by first | exact VQ.int _ _ | exact VQ.bool _ | exact VQ.ptr _ _ | exact VQ.slice _ _ _ | exact VQ.func (by simp [vq_int, vq_ptr, vq_slice]) (by simp [vq_int, vq_ptr, vq_slice]) | exact VQ.agg (by simp [vq_int, vq_ptr, vq_slice]) | exact VQ.tuple (by simp [vq_int, vq_ptr, vq_slice])) ?_
    refine Dr.read (by first | rfl | kernel_rfl) (by first | rfl | (simp only [sev_tmp, sev_const, sev_func, sg_eq, sg_ne, sp_n, sp_none, Nat.reduceLT, ne_eq, Nat.reduceEqDiff, not_false_eq_true, gd, nth, want_free, want_slot, beqB, List.map_cons, List.map_nil, Array.toList_empty, List.nil_append, List.append_nil, List.cons_append, hn]; done) | (simp only [sev_tmp, sev_const, sev_func, sg_eq, sg_ne, sp_n, sp_none, Nat.reduceLT, ne_eq, Nat.reduceEqDiff, not_false_eq_true, gd, nth, want_free, want_slot, beqB, List.map_cons, List.map_nil, Array.toList_empty, List.nil_append, List.append_nil, List.cons_append, hn]; rfl)) (by assumption) (fun M hM => by simp only [sev_tmp, sg_ne, ne_eq, Nat.reduceEqDiff, not_false_eq_true, fx, fad, adr_p, Nat.zero_add, fo24_1, s3] <;> rfl) (by rfl) (by first | exact VQ.int _ _ | exact VQ.bool _ | exact VQ.ptr _ _ | exact VQ.slice _ _ _ | exact VQ.func (by simp [vq_int, vq_ptr, vq_slice]) (by simp [vq_int, vq_ptr, vq_slice]) | exact VQ.agg (by simp [vq_int, vq_ptr, vq_slice]) | exact VQ.tuple (by simp [vq_int, vq_ptr, vq_slice])) ?_
    refine Dr.read (by first | rfl | kernel_rfl) (by first | rfl | (simp only [sev_tmp, sev_const, sev_func, sg_eq, sg_ne, sp_n, sp_none, Nat.reduceLT, ne_eq, Nat.reduceEqDiff, not_false_eq_true, gd, nth, want_free, want_slot, beqB, List.map_cons, List.map_nil, Array.toList_empty, List.nil_append, List.append_nil, List.cons_append, hn]; done) | (simp only [sev_tmp, sev_const, sev_func, sg_eq, sg_ne, sp_n, sp_none, Nat.reduceLT, ne_eq, Nat.reduceEqDiff, not_false_eq_true, gd, nth, want_free, want_slot, beqB, List.map_cons, List.map_nil, Array.toList_empty, List.nil_append, List.append_nil, List.cons_append, hn]; rfl)) (by assumption) (fun M hM => by simp only [sev_tmp, sg_eq, sp_n, Nat.reduceLT, fx, ld, adr_p, tk22, hn, H1 M hM] <;> rfl) (by rfl) (by first | exact VQ.int _ _ | exact VQ.bool _ | exact VQ.ptr _ _ | exact VQ.slice _ _ _ | exact VQ.func (by simp [vq_int, vq_ptr, vq_slice]) (by simp [vq_int, vq_ptr, vq_slice]) | exact VQ.agg (by simp [vq_int, vq_ptr, vq_slice]) | exact VQ.tuple (by simp [vq_int, vq_ptr, vq_slice])) ?_
    refine Dr.read (by first | rfl | kernel_rfl) (by first | rfl | (simp only [sev_tmp, sev_const, sev_func, sg_eq, sg_ne, sp_n, sp_none, Nat.reduceLT, ne_eq, Nat.reduceEqDiff, not_false_eq_true, gd, nth, want_free, want_slot, beqB, List.map_cons, List.map_nil, Array.toList_empty, List.nil_append, List.append_nil, List.cons_append, hn]; done) | (simp only [sev_tmp, sev_const, sev_func, sg_eq, sg_ne, sp_n, sp_none, Nat.reduceLT, ne_eq, Nat.reduceEqDiff, not_false_eq_true, gd, nth, want_free, want_slot, beqB, List.map_cons, List.map_nil, Array.toList_empty, List.nil_append, List.append_nil, List.cons_append, hn]; rfl)) (by assumption) (fun M hM => by simp only [sev_tmp, sg_eq, sp_n, Nat.reduceLT, fx, lng, un22, hn] <;> rfl) (by rfl) (by first | exact VQ.int _ _ | exact VQ.bool _ | exact VQ.ptr _ _ | exact VQ.slice _ _ _ | exact VQ.func (by simp [vq_int, vq_ptr, vq_slice]) (by simp [vq_int, vq_ptr, vq_slice]) | exact VQ.agg (by simp [vq_int, vq_ptr, vq_slice]) | exact VQ.tuple (by simp [vq_int, vq_ptr, vq_slice])) ?_
    refine Dr.read (by first | rfl | kernel_rfl) (by first | rfl | (simp only [sev_tmp, sev_const, sev_func, sg_eq, sg_ne, sp_n, sp_none, Nat.reduceLT, ne_eq, Nat.reduceEqDiff, not_false_eq_true, gd, nth, want_free, want_slot, beqB, List.map_cons, List.map_nil, Array.toList_empty, List.nil_append, List.append_nil, List.cons_append, hn]; done) | (simp only [sev_tmp, sev_const, sev_func, sg_eq, sg_ne, sp_n, sp_none, Nat.reduceLT, ne_eq, Nat.reduceEqDiff, not_false_eq_true, gd, nth, want_free, want_slot, beqB, List.map_cons, List.map_nil, Array.toList_empty, List.nil_append, List.append_nil, List.cons_append, hn]; rfl)) (by assumption) (fun M hM => by simp only [sg_eq, sg_ne, sp_n, Nat.reduceLT, ne_eq, Nat.reduceEqDiff, not_false_eq_true, fx, hn, ae_mxd2, mxd_int] <;> rfl) (by rfl) (by first | exact VQ.int _ _ | exact VQ.bool _ | exact VQ.ptr _ _ | exact VQ.slice _ _ _ | exact VQ.func (by simp [vq_int, vq_ptr, vq_slice]) (by simp [vq_int, vq_ptr, vq_slice]) | exact VQ.agg (by simp [vq_int, vq_ptr, vq_slice]) | exact VQ.tuple (by simp [vq_int, vq_ptr, vq_slice])) ?_
    refine Dr.read (by first | rfl | kernel_rfl) (by first | rfl | (simp only [sev_tmp, sev_const, sev_func, sg_eq, sg_ne, sp_n, sp_none, Nat.reduceLT, ne_eq, Nat.reduceEqDiff, not_false_eq_true, gd, nth, want_free, want_slot, beqB, List.map_cons, List.map_nil, Array.toList_empty, List.nil_append, List.append_nil, List.cons_append, hn]; done) | (simp only [sev_tmp, sev_const, sev_func, sg_eq, sg_ne, sp_n, sp_none, Nat.reduceLT, ne_eq, Nat.reduceEqDiff, not_false_eq_true, gd, nth, want_free, want_slot, beqB, List.map_cons, List.map_nil, Array.toList_empty, List.nil_append, List.append_nil, List.cons_append, hn]; rfl)) (by assumption) (fun M hM => by simp only [sev_tmp, sg_ne, ne_eq, Nat.reduceEqDiff, not_false_eq_true, fx, fad, adr_p, Nat.zero_add, fo24_2, s2] <;> rfl) (by rfl) (by first | exact VQ.int _ _ | exact VQ.bool _ | exact VQ.ptr _ _ | exact VQ.slice _ _ _ | exact VQ.func (by simp [vq_int, vq_ptr, vq_slice]) (by simp [vq_int, vq_ptr, vq_slice]) | exact VQ.agg (by simp [vq_int, vq_ptr, vq_slice]) | exact VQ.tuple (by simp [vq_int, vq_ptr, vq_slice])) ?_
    refine Dr.read (by first | rfl | kernel_rfl) (by first | rfl | (simp only [sev_tmp, sev_const, sev_func, sg_eq, sg_ne, sp_n, sp_none, Nat.reduceLT, ne_eq, Nat.reduceEqDiff, not_false_eq_true, gd, nth, want_free, want_slot, beqB, List.map_cons, List.map_nil, Array.toList_empty, List.nil_append, List.append_nil, List.cons_append, hn]; done) | (simp only [sev_tmp, sev_const, sev_func, sg_eq, sg_ne, sp_n, sp_none, Nat.reduceLT, ne_eq, Nat.reduceEqDiff, not_false_eq_true, gd, nth, want_free, want_slot, beqB, List.map_cons, List.map_nil, Array.toList_empty, List.nil_append, List.append_nil, List.cons_append, hn]; rfl)) (by assumption) (fun M hM => by simp only [sev_tmp, sg_eq, sp_n, Nat.reduceLT, fx, ld, adr_p, tk22, hn, G2 M hM] <;> rfl) (by rfl) (by first | exact VQ.int _ _ | exact VQ.bool _ | exact VQ.ptr _ _ | exact VQ.slice _ _ _ | exact VQ.func (by simp [vq_int, vq_ptr, vq_slice]) (by simp [vq_int, vq_ptr, vq_slice]) | exact VQ.agg (by simp [vq_int, vq_ptr, vq_slice]) | exact VQ.tuple (by simp [vq_int, vq_ptr, vq_slice])) ?_
    refine Dr.read (by first | rfl | kernel_rfl) (by first | rfl | (simp only [sev_tmp, sev_const, sev_func, sg_eq, sg_ne, sp_n, sp_none, Nat.reduceLT, ne_eq, Nat.reduceEqDiff, not_false_eq_true, gd, nth, want_free, want_slot, beqB, List.map_cons, List.map_nil, Array.toList_empty, List.nil_append, List.append_nil, List.cons_append, hn]; done) | (simp only [sev_tmp, sev_const, sev_func, sg_eq, sg_ne, sp_n, sp_none, Nat.reduceLT, ne_eq, Nat.reduceEqDiff, not_false_eq_true, gd, nth, want_free, want_slot, beqB, List.map_cons, List.map_nil, Array.toList_empty, List.nil_append, List.append_nil, List.cons_append, hn]; rfl)) (by assumption) (fun M hM => by simp only [sev_tmp, sg_eq, sp_n, Nat.reduceLT, fx, lng, un22, hn] <;> rfl) (by rfl) (by first | exact VQ.int _ _ | exact VQ.bool _ | exact VQ.ptr _ _ | exact VQ.slice _ _ _ | exact VQ.func (by simp [vq_int, vq_ptr, vq_slice]) (by simp [vq_int, vq_ptr, vq_slice]) | exact VQ.agg (by simp [vq_int, vq_ptr, vq_slice]) | exact VQ.tuple (by simp [vq_int, vq_ptr, vq_slice])) ?_
    refine Dr.read (by first | rfl | kernel_rfl) (by first | rfl | (simp only [sev_tmp, sev_const, sev_func, sg_eq, sg_ne, sp_n, sp_none, Nat.reduceLT, ne_eq, Nat.reduceEqDiff, not_false_eq_true, gd, nth, want_free, want_slot, beqB, List.map_cons, List.map_nil, Array.toList_empty, List.nil_append, List.append_nil, List.cons_append, hn]; done) | (simp only [sev_tmp, sev_const, sev_func, sg_eq, sg_ne, sp_n, sp_none, Nat.reduceLT, ne_eq, Nat.reduceEqDiff, not_false_eq_true, gd, nth, want_free, want_slot, beqB, List.map_cons, List.map_nil, Array.toList_empty, List.nil_append, List.append_nil, List.cons_append, hn]; rfl)) (by assumption) (fun M hM => by simp only [sev_tmp, sg_ne, ne_eq, Nat.reduceEqDiff, not_false_eq_true, fx, fad, adr_p, Nat.zero_add, fo24_2, s3] <;> rfl) (by rfl) (by first | exact VQ.int _ _ | exact VQ.bool _ | exact VQ.ptr _ _ | exact VQ.slice _ _ _ | exact VQ.func (by simp [vq_int, vq_ptr, vq_slice]) (by simp [vq_int, vq_ptr, vq_slice]) | exact VQ.agg (by simp [vq_int, vq_ptr, vq_slice]) | exact VQ.tuple (by simp [vq_int, vq_ptr, vq_slice])) ?_
    refine Dr.read (by first | rfl | kernel_rfl) (by first | rfl | (simp only [sev_tmp, sev_const, sev_func, sg_eq, sg_ne, sp_n, sp_none, Nat.reduceLT, ne_eq, Nat.reduceEqDiff, not_false_eq_true, gd, nth, want_free, want_slot, beqB, List.map_cons, List.map_nil, Array.toList_empty, List.nil_append, List.append_nil, List.cons_append, hn]; done) | (simp only [sev_tmp, sev_const, sev_func, sg_eq, sg_ne, sp_n, sp_none, Nat.reduceLT, ne_eq, Nat.reduceEqDiff, not_false_eq_true, gd, nth, want_free, want_slot, beqB, List.map_cons, List.map_nil, Array.toList_empty, List.nil_append, List.append_nil, List.cons_append, hn]; rfl)) (by assumption) (fun M hM => by simp only [sev_tmp, sg_eq, sp_n, Nat.reduceLT, fx, ld, adr_p, tk22, hn, H2 M hM] <;> rfl) (by rfl) (by first | exact VQ.int _ _ | exact VQ.bool _ | exact VQ.ptr _ _ | exact VQ.slice _ _ _ | exact VQ.func (by simp [vq_int, vq_ptr, vq_slice]) (by simp [vq_int, vq_ptr, vq_slice]) | exact VQ.agg (by simp [vq_int, vq_ptr, vq_slice]) | exact VQ.tuple (by simp [vq_int, vq_ptr, vq_slice])) ?_
    refine Dr.read (by first | rfl | kernel_rfl) (by first | rfl | (simp only [sev_tmp, sev_const, sev_func, sg_eq, sg_ne, sp_n, sp_none, Nat.reduceLT, ne_eq, Nat.reduceEqDiff, not_false_eq_true, gd, nth, want_free, want_slot, beqB, List.map_cons, List.map_nil, Array.toList_empty, List.nil_append, List.append_nil, List.cons_append, hn]; done) | (simp only [sev_tmp, sev_const, sev_func, sg_eq, sg_ne, sp_n, sp_none, Nat.reduceLT, ne_eq, Nat.reduceEqDiff, not_false_eq_true, gd, nth, want_free, want_slot, beqB, List.map_cons, List.map_nil, Array.toList_empty, List.nil_append, List.append_nil, List.cons_append, hn]; rfl)) (by assumption) (fun M hM => by simp only [sev_tmp, sg_eq, sp_n, Nat.reduceLT, fx, lng, un22, hn] <;> rfl) (by rfl) (by first | exact VQ.int _ _ | exact VQ.bool _ | exact VQ.ptr _ _ | exact VQ.slice _ _ _ | exact VQ.func (by simp [vq_int, vq_ptr, vq_slice]) (by simp [vq_int, vq_ptr, vq_slice]) | exact VQ.agg (by simp [vq_int, vq_ptr, vq_slice]) | exact VQ.tuple (by simp [vq_int, vq_ptr, vq_slice])) ?_
    refine Dr.call (by kernel_rfl) (by rfl) (by assumption) (by rfl) (opRun_call (by rfl) ⟨by rfl, by rfl⟩ (by rfl) (xs := [.int .i64 (x.ro.length : Int), .int .i64 (y.ro.length : Int)]) (by simp only [sev_tmp, sg_eq, sg_ne, sp_n, Nat.reduceLT, ne_eq, Nat.reduceEqDiff, not_false_eq_true, List.map_cons, List.map_nil, List.nil_append, List.append_nil, hn]) (Con.mono (lcm_ref hbk.wf ⟨hp, by omega⟩ ⟨hp', by omega⟩) (fun v A1 h => (⟨by rw [h.1, hl], h.2⟩ : v = .int .i64 (l : Int) ∧ Nx (bump A' 17).next (bump A' 17) A1)))) ?_
    rintro v C ⟨rfl, k1⟩
    have hC : Nx A'.next A' C := hbk.trans (k1.le hbk.next)
    have FC := hF _ hC
    have hCA : Nx A2.next A2 C := hA.trans (hC.le hA.next)
    have hCn := hC.next
    by_cases hlt : n < L
    · have hd : decide ((n : Int) < (L : Int)) = true := decide_eq_true (by omega)
      refine Dr.read (by first | rfl | kernel_rfl) (by first | rfl | (simp only [sev_tmp, sev_const, sev_func, sg_eq, sg_ne, sp_n, sp_none, Nat.reduceLT, ne_eq, Nat.reduceEqDiff, not_false_eq_true, gd, nth, want_free, want_slot, beqB, List.map_cons, List.map_nil, Array.toList_empty, List.nil_append, List.append_nil, List.cons_append, hn]; done) | (simp only [sev_tmp, sev_const, sev_func, sg_eq, sg_ne, sp_n, sp_none, Nat.reduceLT, ne_eq, Nat.reduceEqDiff, not_false_eq_true, gd, nth, want_free, want_slot, beqB, List.map_cons, List.map_nil, Array.toList_empty, List.nil_append, List.append_nil, List.cons_append, hn]; rfl)) (by assumption) (fun M hM => by simp only [sev_tmp, sg_eq, sg_ne, sp_n, Nat.reduceLT, ne_eq, Nat.reduceEqDiff, not_false_eq_true, fx, bin_add, hn, hw2] <;> rfl) (by rfl) (by first | exact VQ.int _ _ | exact VQ.bool _ | exact VQ.ptr _ _ | exact VQ.slice _ _ _ | exact VQ.func (by simp [vq_int, vq_ptr, vq_slice]) (by simp [vq_int, vq_ptr, vq_slice]) | exact VQ.agg (by simp [vq_int, vq_ptr, vq_slice]) | exact VQ.tuple (by simp [vq_int, vq_ptr, vq_slice])) ?_
      refine Dr.read (by first | rfl | kernel_rfl) (by first | rfl | (simp only [sev_tmp, sev_const, sev_func, sg_eq, sg_ne, sp_n, sp_none, Nat.reduceLT, ne_eq, Nat.reduceEqDiff, not_false_eq_true, gd, nth, want_free, want_slot, beqB, List.map_cons, List.map_nil, Array.toList_empty, List.nil_append, List.append_nil, List.cons_append, hn]; done) | (simp only [sev_tmp, sev_const, sev_func, sg_eq, sg_ne, sp_n, sp_none, Nat.reduceLT, ne_eq, Nat.reduceEqDiff, not_false_eq_true, gd, nth, want_free, want_slot, beqB, List.map_cons, List.map_nil, Array.toList_empty, List.nil_append, List.append_nil, List.cons_append, hn]; rfl)) (by assumption) (fun M hM => by simp only [sev_tmp, sg_eq, sg_ne, sp_n, Nat.reduceLT, ne_eq, Nat.reduceEqDiff, not_false_eq_true, fx, bin_lss, hn, hd] <;> rfl) (by rfl) (by first | exact VQ.int _ _ | exact VQ.bool _ | exact VQ.ptr _ _ | exact VQ.slice _ _ _ | exact VQ.func (by simp [vq_int, vq_ptr, vq_slice]) (by simp [vq_int, vq_ptr, vq_slice]) | exact VQ.agg (by simp [vq_int, vq_ptr, vq_slice]) | exact VQ.tuple (by simp [vq_int, vq_ptr, vq_slice])) ?_
      refine Dr.nil (by rfl) (fun M hM => by cases hM) FC ⟨C, by rfl, ?_⟩
      (repeat (first | refine Rn.seq hc ?_ | refine Rn.skip hc ?_ | refine Rn.block hc ?_ | refine Rn.inBlock hc ?_ | refine Rn.scope hc ?_ | refine Rn.inScope hc ?_))
      refine Rn.condE hc rfl ?_
      simp only [sev_tmp, sg_eq, sp_n, Nat.reduceLT, Value.bool.injEq, exists_eq_left', hn]
      (repeat (first | refine Rn.seq hc ?_ | refine Rn.skip hc ?_ | refine Rn.block hc ?_ | refine Rn.inBlock hc ?_ | refine Rn.scope hc ?_ | refine Rn.inScope hc ?_))
      have hC0 : Nx A.next A C := hA0.trans (hC.le hA0.next)
      obtain ⟨o1, o2, _, _⟩ := hox.nx hC0
      have b0 := (hC.cl (show A.next < A'.next by omega) 0).trans b0
      have b1 := (hC.cl (show A.next < A'.next by omega) 1).trans b1
      have b2 := (hC.cl (show A.next < A'.next by omega) 2).trans b2
      have c0 := (hC.cl (show A1.next < A'.next by omega) 0).trans c0
      have c1 := (hC.cl (show A1.next < A'.next by omega) 1).trans c1
      have c2 := (hC.cl (show A1.next < A'.next by omega) 2).trans c2
      obtain ⟨F, hFb, hF⟩ : ∃ F : AHeap → Prop, (∀ M, F M → ∀ b, b < C.next → ∀ o, cl M b o = cl C b o) ∧ (∀ M, Nx C.next C M → F M) := ⟨fun M => Nx C.next C M, fun M h b hb o => h.cl hb o, fun _ h => h⟩
      have G0 := fun M hM => (hFb M hM _ (show A.next < C.next by omega) 0).trans b0
      have G1 := fun M hM => (hFb M hM _ (show A.next < C.next by omega) 1).trans b1
      have G2 := fun M hM => (hFb M hM _ (show A.next < C.next by omega) 2).trans b2
      have H0 := fun M hM => (hFb M hM _ (show A1.next < C.next by omega) 0).trans c0
      have H1 := fun M hM => (hFb M hM _ (show A1.next < C.next by omega) 1).trans c1
      have H2 := fun M hM => (hFb M hM _ (show A1.next < C.next by omega) 2).trans c2
      have hbk : Nx C.next C (bump C 7) := Nx.bump (Nx.refl hC.wf _) 7
      have FB := hF _ hbk
      refine Rn.drawnF hc hx atS F (n := 2) (k := 7) (by kernel_rfl) (by kernel_rfl) (by rfl) ?_
      refine Dr.read (by first | rfl | kernel_rfl) (by first | rfl | (simp only [sev_tmp, sev_const, sev_func, sg_eq, sg_ne, sp_n, sp_none, Nat.reduceLT, ne_eq, Nat.reduceEqDiff, not_false_eq_true, gd, nth, want_free, want_slot, beqB, List.map_cons, List.map_nil, Array.toList_empty, List.nil_append, List.append_nil, List.cons_append, hn]; done) | (simp only [sev_tmp, sev_const, sev_func, sg_eq, sg_ne, sp_n, sp_none, Nat.reduceLT, ne_eq, Nat.reduceEqDiff, not_false_eq_true, gd, nth, want_free, want_slot, beqB, List.map_cons, List.map_nil, Array.toList_empty, List.nil_append, List.append_nil, List.cons_append, hn]; rfl)) (by assumption) (fun M hM => by simp only [sev_tmp, sg_ne, ne_eq, Nat.reduceEqDiff, not_false_eq_true, fx, ld, adr_p, cls, Nat.zero_add, Nat.reduceAdd, tk24, s2, G0 M hM, G1 M hM, G2 M hM] <;> rfl) (by rfl) (by first | exact VQ.int _ _ | exact VQ.bool _ | exact VQ.ptr _ _ | exact VQ.slice _ _ _ | exact VQ.func (by simp [vq_int, vq_ptr, vq_slice]) (by simp [vq_int, vq_ptr, vq_slice]) | exact VQ.agg (by simp [vq_int, vq_slice]) | exact VQ.tuple (by simp [vq_int, vq_ptr, vq_slice])) ?_
      refine Dr.read (by first | rfl | kernel_rfl) (by first | rfl | (simp only [sev_tmp, sev_const, sev_func, sg_eq, sg_ne, sp_n, sp_none, Nat.reduceLT, ne_eq, Nat.reduceEqDiff, not_false_eq_true, gd, nth, want_free, want_slot, beqB, List.map_cons, List.map_nil, Array.toList_empty, List.nil_append, List.append_nil, List.cons_append, hn]; done) | (simp only [sev_tmp, sev_const, sev_func, sg_eq, sg_ne, sp_n, sp_none, Nat.reduceLT, ne_eq, Nat.reduceEqDiff, not_false_eq_true, gd, nth, want_free, want_slot, beqB, List.map_cons, List.map_nil, Array.toList_empty, List.nil_append, List.append_nil, List.cons_append, hn]; rfl)) (by assumption) (fun M hM => by simp only [sev_tmp, sg_ne, ne_eq, Nat.reduceEqDiff, not_false_eq_true, fx, s7] <;> rfl) (by rfl) (by first | exact VQ.int _ _ | exact VQ.bool _ | exact VQ.ptr _ _ | exact VQ.slice _ _ _ | exact VQ.func (by simp [vq_int, vq_ptr, vq_slice]) (by simp [vq_int, vq_ptr, vq_slice]) | exact VQ.agg (by simp [vq_int, vq_ptr, vq_slice]) | exact VQ.tuple (by simp [vq_int, vq_ptr, vq_slice])) ?_
      have q1 := (o1.nx hbk (Nat.le_refl _)).mono (Nat.le_refl _) hbk.next
      have q2 := (o2.nx hbk (Nat.le_refl _)).mono (Nat.le_refl _) hbk.next
      refine Dr.call (by kernel_rfl) (by rfl) (by assumption) (by rfl) (opRun_call (by rfl) ⟨by rfl, by rfl⟩ (by rfl) (xs := [.agg #[.int .i64 x.m, .slice x.sa x.st.length x.sc, .slice x.ra x.ro.length x.rc], .int .i64 (n : Int)]) (by simp only [sev_tmp, sg_eq, sg_ne, sp_n, Nat.reduceLT, ne_eq, Nat.reduceEqDiff, not_false_eq_true, List.map_cons, List.map_nil, List.nil_append, List.append_nil, hn]) (at_ref_S hbk.wf q1 q2 n (by omega) hp (by omega) (by omega))) ?_
      rintro v D ⟨hv, k2⟩
      obtain rfl := hv _ _ _ _ _ _ _ _ rfl q1 q2
      have hD : Nx C.next C D := hbk.trans (k2.le hbk.next)
      have FD := hF _ hD
      have hDC0 : Nx A.next A D := hC0.trans (hD.le hC0.next)
      obtain ⟨p1, p2, _, _⟩ := hoy.nx hDC0
      refine Dr.read (by first | rfl | kernel_rfl) (by first | rfl | (simp only [sev_tmp, sev_const, sev_func, sg_eq, sg_ne, sp_n, sp_none, Nat.reduceLT, ne_eq, Nat.reduceEqDiff, not_false_eq_true, gd, nth, want_free, want_slot, beqB, List.map_cons, List.map_nil, Array.toList_empty, List.nil_append, List.append_nil, List.cons_append, hn]; done) | (simp only [sev_tmp, sev_const, sev_func, sg_eq, sg_ne, sp_n, sp_none, Nat.reduceLT, ne_eq, Nat.reduceEqDiff, not_false_eq_true, gd, nth, want_free, want_slot, beqB, List.map_cons, List.map_nil, Array.toList_empty, List.nil_append, List.append_nil, List.cons_append, hn]; rfl)) (by assumption) (fun M hM => by simp only [sev_tmp, sg_ne, ne_eq, Nat.reduceEqDiff, not_false_eq_true, fx, ld, adr_p, cls, Nat.zero_add, Nat.reduceAdd, tk24, s3, H0 M hM, H1 M hM, H2 M hM] <;> rfl) (by rfl) (by first | exact VQ.int _ _ | exact VQ.bool _ | exact VQ.ptr _ _ | exact VQ.slice _ _ _ | exact VQ.func (by simp [vq_int, vq_ptr, vq_slice]) (by simp [vq_int, vq_ptr, vq_slice]) | exact VQ.agg (by simp [vq_int, vq_slice]) | exact VQ.tuple (by simp [vq_int, vq_ptr, vq_slice])) ?_
      refine Dr.read (by first | rfl | kernel_rfl) (by first | rfl | (simp only [sev_tmp, sev_const, sev_func, sg_eq, sg_ne, sp_n, sp_none, Nat.reduceLT, ne_eq, Nat.reduceEqDiff, not_false_eq_true, gd, nth, want_free, want_slot, beqB, List.map_cons, List.map_nil, Array.toList_empty, List.nil_append, List.append_nil, List.cons_append, hn]; done) | (simp only [sev_tmp, sev_const, sev_func, sg_eq, sg_ne, sp_n, sp_none, Nat.reduceLT, ne_eq, Nat.reduceEqDiff, not_false_eq_true, gd, nth, want_free, want_slot, beqB, List.map_cons, List.map_nil, Array.toList_empty, List.nil_append, List.append_nil, List.cons_append, hn]; rfl)) (by assumption) (fun M hM => by simp only [sev_tmp, sg_ne, ne_eq, Nat.reduceEqDiff, not_false_eq_true, fx, s7] <;> rfl) (by rfl) (by first | exact VQ.int _ _ | exact VQ.bool _ | exact VQ.ptr _ _ | exact VQ.slice _ _ _ | exact VQ.func (by simp [vq_int, vq_ptr, vq_slice]) (by simp [vq_int, vq_ptr, vq_slice]) | exact VQ.agg (by simp [vq_int, vq_ptr, vq_slice]) | exact VQ.tuple (by simp [vq_int, vq_ptr, vq_slice])) ?_
      refine Dr.call (by kernel_rfl) (by rfl) (by assumption) (by rfl) (opRun_call (by rfl) ⟨by rfl, by rfl⟩ (by rfl) (xs := [.agg #[.int .i64 y.m, .slice y.sa y.st.length y.sc, .slice y.ra y.ro.length y.rc], .int .i64 (n : Int)]) (by simp only [sev_tmp, sg_eq, sg_ne, sp_n, Nat.reduceLT, ne_eq, Nat.reduceEqDiff, not_false_eq_true, List.map_cons, List.map_nil, List.nil_append, List.append_nil, hn]) (at_ref_S hD.wf p1 p2 n (by omega) hp' (by omega) (by omega))) ?_
      rintro v E ⟨hv, k3⟩
      obtain rfl := hv _ _ _ _ _ _ _ _ rfl p1 p2
      have hE : Nx C.next C E := hD.trans (k3.le hD.next)
      have FE := hF _ hE
      have hE2' : Nx A2.next A2 E := hCA.trans (hE.le hCA.next)
      by_cases heq : atL x.st x.ro n = atL y.st y.ro n
      · have hd2 : (!decide (atL x.st x.ro n = atL y.st y.ro n)) = false := by rw [decide_eq_true heq]; rfl
        refine Dr.read (by first | rfl | kernel_rfl) (by first | rfl | (simp only [sev_tmp, sev_const, sev_func, sg_eq, sg_ne, sp_n, sp_none, Nat.reduceLT, ne_eq, Nat.reduceEqDiff, not_false_eq_true, gd, nth, want_free, want_slot, beqB, List.map_cons, List.map_nil, Array.toList_empty, List.nil_append, List.append_nil, List.cons_append, hn]; done) | (simp only [sev_tmp, sev_const, sev_func, sg_eq, sg_ne, sp_n, sp_none, Nat.reduceLT, ne_eq, Nat.reduceEqDiff, not_false_eq_true, gd, nth, want_free, want_slot, beqB, List.map_cons, List.map_nil, Array.toList_empty, List.nil_append, List.append_nil, List.cons_append, hn]; rfl)) (by assumption) (fun M hM => by simp only [sev_tmp, sg_eq, sg_ne, sp_n, Nat.reduceLT, ne_eq, Nat.reduceEqDiff, not_false_eq_true, fx, bin_neq, hn, hd2] <;> rfl) (by rfl) (by first | exact VQ.int _ _ | exact VQ.bool _ | exact VQ.ptr _ _ | exact VQ.slice _ _ _ | exact VQ.func (by simp [vq_int, vq_ptr, vq_slice]) (by simp [vq_int, vq_ptr, vq_slice]) | exact VQ.agg (by simp [vq_int, vq_ptr, vq_slice]) | exact VQ.tuple (by simp [vq_int, vq_ptr, vq_slice])) ?_
        refine Dr.nil (by rfl) (fun M hM => by cases hM) FE ⟨E, by rfl, ?_⟩
        (repeat (first | refine Rn.seq hc ?_ | refine Rn.skip hc ?_ | refine Rn.block hc ?_ | refine Rn.inBlock hc ?_ | refine Rn.scope hc ?_ | refine Rn.inScope hc ?_))
        refine Rn.condE hc rfl ?_
        simp only [sev_tmp, sg_eq, sp_n, Nat.reduceLT, Value.bool.injEq, exists_eq_left', hn]
        (repeat (first | refine Rn.seq hc ?_ | refine Rn.skip hc ?_ | refine Rn.block hc ?_ | refine Rn.inBlock hc ?_ | refine Rn.scope hc ?_ | refine Rn.inScope hc ?_))
        refine Rn.reg hc rfl ?_
        simp only [sev_tmp, sev_const, sg_eq, sg_ne, sp_n, Nat.reduceLT, ne_eq, Nat.reduceEqDiff, not_false_eq_true, gd, want_free, rops, fx, bin_add, Option.some.injEq, exists_eq_left', hn, s7, wrap_succ (show n < 9223372036854775807 by omega)]
        (repeat (first | refine Rn.seq hc ?_ | refine Rn.skip hc ?_ | refine Rn.block hc ?_ | refine Rn.inBlock hc ?_ | refine Rn.scope hc ?_ | refine Rn.inScope hc ?_))
        refine ih _ _ _ (by omega) ⟨n + 1, by omega, rfl, hE2', fun j hj => ?_, by simp only [sp_n, hn], by simp only [sg_ne, ne_eq, Nat.reduceEqDiff, not_false_eq_true, s2], by simp only [sg_ne, ne_eq, Nat.reduceEqDiff, not_false_eq_true, s3], by simp only [sg_eq, sp_n, Nat.reduceLT, hn]⟩
        by_cases hjn : j = n
        · subst hjn; exact heq
        · exact hag j (by omega)
      · have hd2 : (!decide (atL x.st x.ro n = atL y.st y.ro n)) = true := by rw [decide_eq_false heq]; rfl
        clear ih
        refine Dr.read (by first | rfl | kernel_rfl) (by first | rfl | (simp only [sev_tmp, sev_const, sev_func, sg_eq, sg_ne, sp_n, sp_none, Nat.reduceLT, ne_eq, Nat.reduceEqDiff, not_false_eq_true, gd, nth, want_free, want_slot, beqB, List.map_cons, List.map_nil, Array.toList_empty, List.nil_append, List.append_nil, List.cons_append, hn]; done) | (simp only [sev_tmp, sev_const, sev_func, sg_eq, sg_ne, sp_n, sp_none, Nat.reduceLT, ne_eq, Nat.reduceEqDiff, not_false_eq_true, gd, nth, want_free, want_slot, beqB, List.map_cons, List.map_nil, Array.toList_empty, List.nil_append, List.append_nil, List.cons_append, hn]; rfl)) (by assumption) (fun M hM => by simp only [sev_tmp, sg_eq, sg_ne, sp_n, Nat.reduceLT, ne_eq, Nat.reduceEqDiff, not_false_eq_true, fx, bin_neq, hn, hd2] <;> rfl) (by rfl) (by first | exact VQ.int _ _ | exact VQ.bool _ | exact VQ.ptr _ _ | exact VQ.slice _ _ _ | exact VQ.func (by simp [vq_int, vq_ptr, vq_slice]) (by simp [vq_int, vq_ptr, vq_slice]) | exact VQ.agg (by simp [vq_int, vq_ptr, vq_slice]) | exact VQ.tuple (by simp [vq_int, vq_ptr, vq_slice])) ?_
        refine Dr.nil (by rfl) (fun M hM => by cases hM) FE ⟨E, by rfl, ?_⟩
        (repeat (first | refine Rn.seq hc ?_ | refine Rn.skip hc ?_ | refine Rn.block hc ?_ | refine Rn.inBlock hc ?_ | refine Rn.scope hc ?_ | refine Rn.inScope hc ?_))
        refine Rn.condE hc rfl ?_
        simp only [sev_tmp, sg_eq, sp_n, Nat.reduceLT, Value.bool.injEq, exists_eq_left', hn]
        (repeat (first | refine Rn.seq hc ?_ | refine Rn.skip hc ?_ | refine Rn.block hc ?_ | refine Rn.inBlock hc ?_ | refine Rn.scope hc ?_ | refine Rn.inScope hc ?_))
        refine Rn.reg hc rfl ?_
        simp only [sev_tmp, sev_const, sg_eq, sg_ne, sp_n, Nat.reduceLT, ne_eq, Nat.reduceEqDiff, not_false_eq_true, gd, want_free, rops, fx, Option.some.injEq, exists_eq_left', hn, s7]
        (repeat (first | refine Rn.seq hc ?_ | refine Rn.skip hc ?_ | refine Rn.block hc ?_ | refine Rn.inBlock hc ?_ | refine Rn.scope hc ?_ | refine Rn.inScope hc ?_))
        refine Rn.ret (endQ_two rfl ⟨hx02.trans (hE2'.le hx02.next), fun _ => .inl ⟨n, ?_, heq, hag⟩, fun h => absurd trivial h⟩)
        simp only [sg_eq, sg_ne, sp_n, Nat.reduceLT, ne_eq, Nat.reduceEqDiff, not_false_eq_true, hn]
    · have hd : decide ((n : Int) < (L : Int)) = false := decide_eq_false (by omega)
      clear ih
      refine Dr.read (by first | rfl | kernel_rfl) (by first | rfl | (simp only [sev_tmp, sev_const, sev_func, sg_eq, sg_ne, sp_n, sp_none, Nat.reduceLT, ne_eq, Nat.reduceEqDiff, not_false_eq_true, gd, nth, want_free, want_slot, beqB, List.map_cons, List.map_nil, Array.toList_empty, List.nil_append, List.append_nil, List.cons_append, hn]; done) | (simp only [sev_tmp, sev_const, sev_func, sg_eq, sg_ne, sp_n, sp_none, Nat.reduceLT, ne_eq, Nat.reduceEqDiff, not_false_eq_true, gd, nth, want_free, want_slot, beqB, List.map_cons, List.map_nil, Array.toList_empty, List.nil_append, List.append_nil, List.cons_append, hn]; rfl)) (by assumption) (fun M hM => by simp only [sev_tmp, sg_eq, sg_ne, sp_n, Nat.reduceLT, ne_eq, Nat.reduceEqDiff, not_false_eq_true, fx, bin_add, hn, hw2] <;> rfl) (by rfl) (by first | exact VQ.int _ _ | exact VQ.bool _ | exact VQ.ptr _ _ | exact VQ.slice _ _ _ | exact VQ.func (by simp [vq_int, vq_ptr, vq_slice]) (by simp [vq_int, vq_ptr, vq_slice]) | exact VQ.agg (by simp [vq_int, vq_ptr, vq_slice]) | exact VQ.tuple (by simp [vq_int, vq_ptr, vq_slice])) ?_
      refine Dr.read (by first | rfl | kernel_rfl) (by first | rfl | (simp only [sev_tmp, sev_const, sev_func, sg_eq, sg_ne, sp_n, sp_none, Nat.reduceLT, ne_eq, Nat.reduceEqDiff, not_false_eq_true, gd, nth, want_free, want_slot, beqB, List.map_cons, List.map_nil, Array.toList_empty, List.nil_append, List.append_nil, List.cons_append, hn]; done) | (simp only [sev_tmp, sev_const, sev_func, sg_eq, sg_ne, sp_n, sp_none, Nat.reduceLT, ne_eq, Nat.reduceEqDiff, not_false_eq_true, gd, nth, want_free, want_slot, beqB, List.map_cons, List.map_nil, Array.toList_empty, List.nil_append, List.append_nil, List.cons_append, hn]; rfl)) (by assumption) (fun M hM => by simp only [sev_tmp, sg_eq, sg_ne, sp_n, Nat.reduceLT, ne_eq, Nat.reduceEqDiff, not_false_eq_true, fx, bin_lss, hn, hd] <;> rfl) (by rfl) (by first | exact VQ.int _ _ | exact VQ.bool _ | exact VQ.ptr _ _ | exact VQ.slice _ _ _ | exact VQ.func (by simp [vq_int, vq_ptr, vq_slice]) (by simp [vq_int, vq_ptr, vq_slice]) | exact VQ.agg (by simp [vq_int, vq_ptr, vq_slice]) | exact VQ.tuple (by simp [vq_int, vq_ptr, vq_slice])) ?_
      refine Dr.nil (by rfl) (fun M hM => by cases hM) FC ⟨C, by rfl, ?_⟩
      (repeat (first | refine Rn.seq hc ?_ | refine Rn.skip hc ?_ | refine Rn.block hc ?_ | refine Rn.inBlock hc ?_ | refine Rn.scope hc ?_ | refine Rn.inScope hc ?_))
      refine Rn.condE hc rfl ?_
      simp only [sev_tmp, sg_eq, sp_n, Nat.reduceLT, Value.bool.injEq, exists_eq_left', hn]
      (repeat (first | refine Rn.seq hc ?_ | refine Rn.skip hc ?_ | refine Rn.block hc ?_ | refine Rn.inBlock hc ?_ | refine Rn.scope hc ?_ | refine Rn.inScope hc ?_))
      refine Rn.exit hc rfl ?_
      (repeat (first | refine Rn.seq hc ?_ | refine Rn.skip hc ?_ | refine Rn.block hc ?_ | refine Rn.inBlock hc ?_ | refine Rn.scope hc ?_ | refine Rn.inScope hc ?_))
      refine Rn.reg hc rfl ?_
      simp only [sev_const, gd, want_free, rops, fx, Option.some.injEq, exists_eq_left']
      (repeat (first | refine Rn.seq hc ?_ | refine Rn.skip hc ?_ | refine Rn.block hc ?_ | refine Rn.inBlock hc ?_ | refine Rn.scope hc ?_ | refine Rn.inScope hc ?_))
      refine Rn.ret (endQ_two rfl ⟨hA0.trans (hC.le hA0.next), fun _ => .inr ⟨?_, ?_⟩, fun h => absurd trivial h⟩)
      · simp only [sg_eq, sg_ne, sp_n, Nat.reduceLT, ne_eq, Nat.reduceEqDiff, not_false_eq_true, hn]
      · exact agree_lcm (N := max x.st.length y.st.length) (L := l) (per_of_dvd hp (Nat.le_max_left _ _) lf1 lf2) (per_of_dvd hp' (Nat.le_max_right _ _) lf1 lf3) fun j hj => hag j (by omega)
  · have hd0 : (!decide (errs [x, y] [x, y] = 0)) = true := by rw [decide_eq_false he]; rfl
    refine Rn.reg hc rfl ?_
    simp only [sev_tmp, sev_const, sg_eq, sp_n, Nat.reduceLT, gd, want_free, rops, fx, bin_neq, Option.some.injEq, exists_eq_left', hd0]
    (repeat (first | refine Rn.seq hc ?_ | refine Rn.skip hc ?_ | refine Rn.block hc ?_ | refine Rn.inBlock hc ?_ | refine Rn.scope hc ?_ | refine Rn.inScope hc ?_))
    refine Rn.condE hc rfl ?_
    simp only [sev_tmp, sg_eq, sp_n, Nat.reduceLT, Value.bool.injEq, exists_eq_left']
    (repeat (first | refine Rn.seq hc ?_ | refine Rn.skip hc ?_ | refine Rn.block hc ?_ | refine Rn.inBlock hc ?_ | refine Rn.scope hc ?_ | refine Rn.inScope hc ?_))
    refine Rn.reg hc rfl ?_
    simp only [sev_tmp, sev_const, sg_eq, sg_ne, sp_n, Nat.reduceLT, ne_eq, Nat.reduceEqDiff, not_false_eq_true, gd, want_free, rops, fx, Option.some.injEq, exists_eq_left']
    (repeat (first | refine Rn.seq hc ?_ | refine Rn.skip hc ?_ | refine Rn.block hc ?_ | refine Rn.inBlock hc ?_ | refine Rn.scope hc ?_ | refine Rn.inScope hc ?_))
    refine Rn.ret (endQ_two rfl ⟨hx04, fun h => absurd h he, fun _ => ?_⟩)
    simp only [sg_eq, sg_ne, sp_n, Nat.reduceLT, ne_eq, Nat.reduceEqDiff, not_false_eq_true]

theorem same_ref {A : AHeap} (hw : WF A) {x y : Las} (hox : x.ok A) (hoy : y.ok A) :
    Con Try.prog 21 [x.v, y.v] A (fun v A1 => Nx A.next A A1 ∧ (errs [x, y] [x, y] = 0 → ∃ b, v = .tuple #[.bool b, .int .i64 0] ∧ (b = true ↔ ∀ n, x.s n = y.s n)) ∧ (errs [x, y] [x, y] ≠ 0 → v = .tuple #[.bool false, .int .i64 (errs [x, y] [x, y])])) := by
  refine con_of_rn hc Try.func21 rfl (Nat.le_of_ble_eq_true rfl) ?_
  obtain ⟨A1, e1, hx1, hn1, b0, b1, b2⟩ := box3 hw (.int .i64 x.m) (.slice x.sa x.st.length x.sc) (.slice x.ra x.ro.length x.rc) 24
  obtain ⟨A2, e2, hx2, hn2, c0, c1, c2⟩ := box3 hx1.wf (.int .i64 y.m) (.slice y.sa y.st.length y.sc) (.slice y.ra y.ro.length y.rc) 24
  have hx02 : Nx A.next A A2 := hx1.trans (hx2.le hx1.next)
  have b0 := (hx2.cl (show A.next < A1.next by omega) 0).trans b0
  have b1 := (hx2.cl (show A.next < A1.next by omega) 1).trans b1
  have b2 := (hx2.cl (show A.next < A1.next by omega) 2).trans b2
  rw [s_in2]
  (repeat (first | refine Rn.seq hc ?_ | refine Rn.skip hc ?_ | refine Rn.block hc ?_ | refine Rn.inBlock hc ?_ | refine Rn.scope hc ?_ | refine Rn.inScope hc ?_))
  refine Rn.reg hc rfl ?_
  simp only [sev_tmp, sev_const, sg_eq, sg_ne, sp_n, Nat.reduceLT, ne_eq, Nat.reduceEqDiff, not_false_eq_true, gd, want_free, rops, fx, Option.some.injEq, exists_eq_left', Value.cells, show Try.f21.ntmps = 23 from rfl, Las.v, e1, e2]
  (repeat (first | refine Rn.seq hc ?_ | refine Rn.skip hc ?_ | refine Rn.block hc ?_ | refine Rn.inBlock hc ?_ | refine Rn.scope hc ?_ | refine Rn.inScope hc ?_))
  refine Rn.region hc fun K hK => ?_
  refine Wo.run hc 2 rfl rfl rfl ?_
  simp (maxSteps := 2000000) only [List.drop_zero, List.take_succ_cons, List.take_zero, sev_tmp, sg_eq, sg_ne, sp_n, Nat.reduceLT, ne_eq, Nat.reduceEqDiff, not_false_eq_true, gd, want_free, rops, fx, ld, adr_p, cls, Nat.zero_add, Option.some.injEq, exists_eq_left', Nat.reduceAdd, tk24, b0, b1, b2, c0, c1, c2]
  refine Wo.call hc (by rfl) (by rfl) ⟨by rfl, by rfl⟩ (xs := [x.v, y.v]) (by first | rfl | (simp only [sev_tmp, sev_const, sev_func, sg_eq, sg_ne, sp_n, sp_none, Nat.reduceLT, ne_eq, Nat.reduceEqDiff, not_false_eq_true, gd, nth, want_free, want_slot, beqB, List.map_cons, List.map_nil, Array.toList_empty, List.nil_append, List.append_nil, List.cons_append, Las.v]; done) | (simp only [sev_tmp, sev_const, sev_func, sg_eq, sg_ne, sp_n, sp_none, Nat.reduceLT, ne_eq, Nat.reduceEqDiff, not_false_eq_true, gd, nth, want_free, want_slot, beqB, List.map_cons, List.map_nil, Array.toList_empty, List.nil_append, List.append_nil, List.cons_append, Las.v]; rfl)) (by first | rfl | (simp only [sev_tmp, sev_const, sev_func, sg_eq, sg_ne, sp_n, sp_none, Nat.reduceLT, ne_eq, Nat.reduceEqDiff, not_false_eq_true, gd, nth, want_free, want_slot, beqB, List.map_cons, List.map_nil, Array.toList_empty, List.nil_append, List.append_nil, List.cons_append, Las.v]; done) | (simp only [sev_tmp, sev_const, sev_func, sg_eq, sg_ne, sp_n, sp_none, Nat.reduceLT, ne_eq, Nat.reduceEqDiff, not_false_eq_true, gd, nth, want_free, want_slot, beqB, List.map_cons, List.map_nil, Array.toList_empty, List.nil_append, List.append_nil, List.cons_append, Las.v]; rfl)) (by first | rfl | (simp only [sev_tmp, sev_const, sev_func, sg_eq, sg_ne, sp_n, sp_none, Nat.reduceLT, ne_eq, Nat.reduceEqDiff, not_false_eq_true, gd, nth, want_free, want_slot, beqB, List.map_cons, List.map_nil, Array.toList_empty, List.nil_append, List.append_nil, List.cons_append, Las.v]; done) | (simp only [sev_tmp, sev_const, sev_func, sg_eq, sg_ne, sp_n, sp_none, Nat.reduceLT, ne_eq, Nat.reduceEqDiff, not_false_eq_true, gd, nth, want_free, want_slot, beqB, List.map_cons, List.map_nil, Array.toList_empty, List.nil_append, List.append_nil, List.cons_append, Las.v]; rfl)) (Con.mono (both_ref hx2.wf (hox.nx hx02) (hoy.nx hx02)) ?_)
  rintro w A4 ⟨rfl, hx4⟩
  refine Wo.run hc 1 rfl rfl rfl ?_
  simp (maxSteps := 2000000) only [List.drop_zero, List.drop_succ_cons, List.take_succ_cons, List.take_zero, sev_tmp, sg_eq, sp_n, Nat.reduceLT, gd, want_free, rops, fx, Option.some.injEq, exists_eq_left', Nat.reduceAdd]
  refine Wo.done hc rfl (hK _ _ ?_)
  clear hK
  (repeat (first | refine Rn.seq hc ?_ | refine Rn.skip hc ?_ | refine Rn.block hc ?_ | refine Rn.inBlock hc ?_ | refine Rn.scope hc ?_ | refine Rn.inScope hc ?_))
  have hx04 : Nx A.next A A4 := hx02.trans (hx4.le hx02.next)
  by_cases he : errs [x, y] [x, y] = 0
  · rw [he]
    have b0 := (hx4.cl (show A.next < A2.next by omega) 0).trans b0
    have b1 := (hx4.cl (show A.next < A2.next by omega) 1).trans b1
    have b2 := (hx4.cl (show A.next < A2.next by omega) 2).trans b2
    have c0 := (hx4.cl (show A1.next < A2.next by omega) 0).trans c0
    have c1 := (hx4.cl (show A1.next < A2.next by omega) 1).trans c1
    have c2 := (hx4.cl (show A1.next < A2.next by omega) 2).trans c2
    refine Rn.reg hc rfl ?_
    simp only [sev_tmp, sev_const, sg_eq, sp_n, Nat.reduceLT, gd, want_free, rops, fx, bin_neq, Option.some.injEq, exists_eq_left', Bool.not_true, Bool.not_true, eq_self, decide_true, Bool.not_true]
    (repeat (first | refine Rn.seq hc ?_ | refine Rn.skip hc ?_ | refine Rn.block hc ?_ | refine Rn.inBlock hc ?_ | refine Rn.scope hc ?_ | refine Rn.inScope hc ?_))
    refine Rn.condE hc rfl ?_
    simp only [sev_tmp, sg_eq, sp_n, Nat.reduceLT, Value.bool.injEq, exists_eq_left']
    (repeat (first | refine Rn.seq hc ?_ | refine Rn.skip hc ?_ | refine Rn.block hc ?_ | refine Rn.inBlock hc ?_ | refine Rn.scope hc ?_ | refine Rn.inScope hc ?_))
    refine Rn.region hc fun K hK => ?_
    refine Wo.run hc 2 rfl rfl rfl ?_
    simp (maxSteps := 2000000) only [List.drop_zero, List.take_succ_cons, List.take_zero, sev_tmp, sg_eq, sg_ne, sp_n, Nat.reduceLT, ne_eq, Nat.reduceEqDiff, not_false_eq_true, gd, want_free, rops, fx, ld, adr_p, cls, Nat.zero_add, Option.some.injEq, exists_eq_left', Nat.reduceAdd, tk24, b0, b1, b2, c0, c1, c2]
    refine Wo.call hc (by rfl) (by rfl) ⟨by rfl, by rfl⟩ (xs := [x.v, y.v]) (by first | rfl | (simp only [sev_tmp, sev_const, sev_func, sg_eq, sg_ne, sp_n, sp_none, Nat.reduceLT, ne_eq, Nat.reduceEqDiff, not_false_eq_true, gd, nth, want_free, want_slot, beqB, List.map_cons, List.map_nil, Array.toList_empty, List.nil_append, List.append_nil, List.cons_append, Las.v]; done) | (simp only [sev_tmp, sev_const, sev_func, sg_eq, sg_ne, sp_n, sp_none, Nat.reduceLT, ne_eq, Nat.reduceEqDiff, not_false_eq_true, gd, nth, want_free, want_slot, beqB, List.map_cons, List.map_nil, Array.toList_empty, List.nil_append, List.append_nil, List.cons_append, Las.v]; rfl)) (by first | rfl | (simp only [sev_tmp, sev_const, sev_func, sg_eq, sg_ne, sp_n, sp_none, Nat.reduceLT, ne_eq, Nat.reduceEqDiff, not_false_eq_true, gd, nth, want_free, want_slot, beqB, List.map_cons, List.map_nil, Array.toList_empty, List.nil_append, List.append_nil, List.cons_append, Las.v]; done) | (simp only [sev_tmp, sev_const, sev_func, sg_eq, sg_ne, sp_n, sp_none, Nat.reduceLT, ne_eq, Nat.reduceEqDiff, not_false_eq_true, gd, nth, want_free, want_slot, beqB, List.map_cons, List.map_nil, Array.toList_empty, List.nil_append, List.append_nil, List.cons_append, Las.v]; rfl)) (by first | rfl | (simp only [sev_tmp, sev_const, sev_func, sg_eq, sg_ne, sp_n, sp_none, Nat.reduceLT, ne_eq, Nat.reduceEqDiff, not_false_eq_true, gd, nth, want_free, want_slot, beqB, List.map_cons, List.map_nil, Array.toList_empty, List.nil_append, List.append_nil, List.cons_append, Las.v]; done) | (simp only [sev_tmp, sev_const, sev_func, sg_eq, sg_ne, sp_n, sp_none, Nat.reduceLT, ne_eq, Nat.reduceEqDiff, not_false_eq_true, gd, nth, want_free, want_slot, beqB, List.map_cons, List.map_nil, Array.toList_empty, List.nil_append, List.append_nil, List.cons_append, Las.v]; rfl)) (Con.mono (apart_ref hx4.wf (hox.nx hx04) (hoy.nx hx04)) ?_)
    rintro w A5 ⟨hx5, hq, -⟩
    have hx05 : Nx A.next A A5 := hx04.trans (hx5.le hx04.next)
    rcases hq he with ⟨n, rfl, h1, h2⟩ | ⟨rfl, h1⟩
    · refine Wo.run hc 5 rfl rfl rfl ?_
      simp (maxSteps := 2000000) only [List.drop_zero, List.drop_succ_cons, List.take_succ_cons, List.take_zero, sev_tmp, sg_eq, sg_ne, sp_n, Nat.reduceLT, ne_eq, Nat.reduceEqDiff, not_false_eq_true, gd, want_free, rops, fx, ext, List.getElem?_toArray, List.getElem?_cons_zero, List.getElem?_cons_succ, Option.some.injEq, exists_eq_left', Nat.reduceAdd, ext]
      refine Wo.done hc rfl (hK _ _ ?_)
      clear hK
      (repeat (first | refine Rn.seq hc ?_ | refine Rn.skip hc ?_ | refine Rn.block hc ?_ | refine Rn.inBlock hc ?_ | refine Rn.scope hc ?_ | refine Rn.inScope hc ?_))
      refine Rn.reg hc rfl ?_
      simp only [sev_tmp, sev_const, sg_eq, sp_n, Nat.reduceLT, gd, want_free, rops, fx, bin_eql, Option.some.injEq, exists_eq_left', show decide ((0 : Int) = 6) = false from rfl]
      (repeat (first | refine Rn.seq hc ?_ | refine Rn.skip hc ?_ | refine Rn.block hc ?_ | refine Rn.inBlock hc ?_ | refine Rn.scope hc ?_ | refine Rn.inScope hc ?_))
      refine Rn.ret (endQ_two rfl ⟨hx05, fun _ => ⟨false, ?_, by simp; exact ⟨n, h1⟩⟩, fun h => absurd trivial h⟩)
      simp only [sg_eq, sg_ne, sp_n, Nat.reduceLT, ne_eq, Nat.reduceEqDiff, not_false_eq_true]
    · refine Wo.run hc 5 rfl rfl rfl ?_
      simp (maxSteps := 2000000) only [List.drop_zero, List.drop_succ_cons, List.take_succ_cons, List.take_zero, sev_tmp, sg_eq, sg_ne, sp_n, Nat.reduceLT, ne_eq, Nat.reduceEqDiff, not_false_eq_true, gd, want_free, rops, fx, ext, List.getElem?_toArray, List.getElem?_cons_zero, List.getElem?_cons_succ, Option.some.injEq, exists_eq_left', Nat.reduceAdd, ext]
      refine Wo.done hc rfl (hK _ _ ?_)
      clear hK
      (repeat (first | refine Rn.seq hc ?_ | refine Rn.skip hc ?_ | refine Rn.block hc ?_ | refine Rn.inBlock hc ?_ | refine Rn.scope hc ?_ | refine Rn.inScope hc ?_))
      refine Rn.reg hc rfl ?_
      simp only [sev_tmp, sev_const, sg_eq, sp_n, Nat.reduceLT, gd, want_free, rops, fx, bin_eql, Option.some.injEq, exists_eq_left', eq_self, decide_true]
      (repeat (first | refine Rn.seq hc ?_ | refine Rn.skip hc ?_ | refine Rn.block hc ?_ | refine Rn.inBlock hc ?_ | refine Rn.scope hc ?_ | refine Rn.inScope hc ?_))
      refine Rn.ret (endQ_two rfl ⟨hx05, fun _ => ⟨true, ?_, by simpa using h1⟩, fun h => absurd trivial h⟩)
      simp only [sg_eq, sg_ne, sp_n, Nat.reduceLT, ne_eq, Nat.reduceEqDiff, not_false_eq_true]
  · have hd0 : (!decide (errs [x, y] [x, y] = 0)) = true := by rw [decide_eq_false he]; rfl
    refine Rn.reg hc rfl ?_
    simp only [sev_tmp, sev_const, sg_eq, sp_n, Nat.reduceLT, gd, want_free, rops, fx, bin_neq, Option.some.injEq, exists_eq_left', hd0]
    (repeat (first | refine Rn.seq hc ?_ | refine Rn.skip hc ?_ | refine Rn.block hc ?_ | refine Rn.inBlock hc ?_ | refine Rn.scope hc ?_ | refine Rn.inScope hc ?_))
    refine Rn.condE hc rfl ?_
    simp only [sev_tmp, sg_eq, sp_n, Nat.reduceLT, Value.bool.injEq, exists_eq_left']
    (repeat (first | refine Rn.seq hc ?_ | refine Rn.skip hc ?_ | refine Rn.block hc ?_ | refine Rn.inBlock hc ?_ | refine Rn.scope hc ?_ | refine Rn.inScope hc ?_))
    refine Rn.reg hc rfl ?_
    simp only [sev_tmp, sev_const, sg_eq, sg_ne, sp_n, Nat.reduceLT, ne_eq, Nat.reduceEqDiff, not_false_eq_true, gd, want_free, rops, fx, Option.some.injEq, exists_eq_left']
    (repeat (first | refine Rn.seq hc ?_ | refine Rn.skip hc ?_ | refine Rn.block hc ?_ | refine Rn.inBlock hc ?_ | refine Rn.scope hc ?_ | refine Rn.inScope hc ?_))
    refine Rn.ret (endQ_two rfl ⟨hx04, fun h => absurd h he, fun _ => ?_⟩)
    simp only [sg_eq, sg_ne, sp_n, Nat.reduceLT, ne_eq, Nat.reduceEqDiff, not_false_eq_true]
end Go.Proofs.Ytdaljohmfnfgiaa
/- A stream's memory is changed. No condition. -/
namespace Go.Proofs.Ytdaljohmfnfgiaa
open Go Go.RowKit Go.Proofs.Ytdaljohmfnfgiaa.Canon
set_option maxRecDepth 20000


/-- A row that may be written. -/
def Wrt (A : AHeap) (a : Option Addr) (lo hi n : Nat) : Prop := 0 < n → ∃ b o c t f g e, a = some ⟨b, o, none⟩ ∧ (lo ≤ b ∧ b < hi) ∧ Canon.look A.objs b = some ⟨.cells c t f, g, e⟩ ∧ isRO g e = false ∧ o + n ≤ c.size
theorem Gr.wrt {A : AHeap} {a : Option Addr} {lo : Nat} {l : List Int} (h : Gr A a lo l) : Wrt A a lo A.next l.length := fun hpos => by
  obtain ⟨b, o, e, q2, q3, q4⟩ := h.ints (l.length - 1) (by omega)
  obtain ⟨y, h1, h2⟩ := h.wr _ e
  obtain ⟨ob, g, z⟩ := y
  obtain ⟨_, c, t, f, g', z', hlk, hc, _⟩ := AHeap.cell_eq q4
  simp only at hlk h1 h2
  rw [hlk] at h1
  cases h1
  have := (Array.getElem?_eq_some_iff.1 hc).1
  exact ⟨b, o, c, t, f, _, _, e, ⟨q2, q3⟩, hlk, h2, by simp only at this; omega⟩
/-- Memory of the same shape, the same below a bound. -/
structure Szs (lo hi : Nat) (A B : AHeap) : Prop where
  next : B.next = A.next
  wf : WF B
  sz : ∀ b c t f g e, Canon.look A.objs b = some ⟨.cells c t f, g, e⟩ → ∃ c', c'.size = c.size ∧ Canon.look B.objs b = some ⟨.cells c' t f, g, e⟩
  keep : ∀ b, (b < lo ∨ hi ≤ b) → Canon.look B.objs b = Canon.look A.objs b
theorem Szs.refl {A : AHeap} (h : WF A) (lo hi : Nat) : Szs lo hi A A := ⟨rfl, h, fun b c t f g e q => ⟨c, rfl, q⟩, fun _ _ => rfl⟩
theorem Szs.trans {lo hi : Nat} {A B C : AHeap} (h : Szs lo hi A B) (k : Szs lo hi B C) : Szs lo hi A C := ⟨k.next.trans h.next, k.wf, fun b c t f g e q => by
  obtain ⟨c', e1, q1⟩ := h.sz b c t f g e q
  obtain ⟨c'', e2, q2⟩ := k.sz b c' t f g e q1
  exact ⟨c'', e2.trans e1, q2⟩, fun b hb => (k.keep b hb).trans (h.keep b hb)⟩
theorem Szs.of_upd {A B : AHeap} {b lo hi : Nat} {c c' : Array Value} {t : TypeId} {f : Nat × Nat} {g : Bool} {e : Nat} (hw : WF A) (hl : Canon.look A.objs b = some ⟨.cells c t f, g, e⟩) (hb : lo ≤ b ∧ b < hi) (h : Upd A b c' B) (hs : c'.size = c.size) : Szs lo hi A B :=
  ⟨h.next, (h.nx hw (Nat.zero_le _)).wf, fun b' c1 t1 f1 g1 e1 q => by
    by_cases hbb : b' = b
    · subst hbb
      obtain ⟨c2, t2, f2, g2, e2, r1, r2, _⟩ := h.at'
      rw [hl] at r1 q
      cases r1
      cases q
      exact ⟨c', hs, r2⟩
    · exact ⟨c1, rfl, (h.off _ hbb).trans q⟩, fun b' hb' => h.off _ (by omega)⟩
theorem Wrt.szs {A B : AHeap} {a : Option Addr} {lo hi n lo' hi' : Nat} (h : Wrt A a lo hi n) (k : Szs lo' hi' A B) : Wrt B a lo hi n := fun hpos => by
  obtain ⟨b, o, c, t, f, g, e, h1, h2, h3, h4, h5⟩ := h hpos
  obtain ⟨c', e1, q1⟩ := k.sz b c t f g e h3
  exact ⟨b, o, c', t, f, g, e, h1, h2, q1, h4, by omega⟩
theorem zeroCells_int (n : Nat) : ∃ l : List Value, (Builtin.zeroCells (Value.int .i64 0).cells n).toList = l ∧ l.length = n ∧ l.all isCell = true := by
  refine ⟨_, rfl, ?_, ?_⟩
  · simp [Builtin.zeroCells, Value.cells]
  · rw [List.all_eq_true]
    intro v hv
    simp [Builtin.zeroCells, Value.cells] at hv
    obtain ⟨i, hi, rfl⟩ := hv
    simp [isCell, Nat.mod_one]
theorem ae_clear {d : Option Tmp} {ty : TypeId} {pos : String} {af : Array Edge} {gu : Option (Nat × Bool)} {s : Slots} {x : Tmp} {A : AHeap} {a : Option Addr} {lo hi n c : Nat} (hw : WF A) (h : Wrt A a lo hi n) (hx : sget s x = .slice a n c) :
    ∃ B, aexec Try.prog (seval s) ⟨d, .call ⟨.builtin .clear, #[.tmp x], #[22]⟩, ty, pos, af, gu⟩ A = some (.tuple #[], B) ∧ Szs lo hi A B := by
  obtain ⟨_, i, z, hinf, hz, hzz, _, _, _⟩ := elB_eq el22
  have hz' : z = .int .i64 0 := by
    have := ze3
    unfold zeroOf at this
    rw [hz, hinf] at this
    simp only [hzz] at this
    exact Option.some.inj this
  subst hz'
  have hun : aexec Try.prog (seval s) ⟨d, .call ⟨.builtin .clear, #[.tmp x], #[22]⟩, ty, pos, af, gu⟩ A = arun Try.prog (Builtin.clear_ #[22] ty #[.slice a n c]) A := by
    simp only [aexec, Op.operands, Call.operands]
    simp [opnOK, abuiltin, sev_tmp, hx, hz]
  rw [hun]
  cases n with
  | zero =>
    refine ⟨A, ?_, Szs.refl hw _ _⟩
    cases a <;> simp [Builtin.clear_, Go.underlying]
  | succ k =>
    obtain ⟨b, o, cc, t, f, g, e, rfl, h2, h3, h4, h5⟩ := h (Nat.succ_pos k)
    obtain ⟨l, hl1, hl2, hl3⟩ := zeroCells_int (k + 1)
    obtain ⟨B, c', q1, q2, q3, _⟩ := sts_upd (l := l) (o := o) h3 h4 (by omega) hl3
    refine ⟨B, ?_, Szs.of_upd hw h3 h2 q2 q3⟩
    have hst := sts_run (P := Try.prog) (b := b) (l := l) (o := o) (i := 0) (A := A) (A1 := B) q1
    simp [Builtin.clear_, Go.underlying, Go.zeroValue, Go.typeInfo, hinf, hzz, hl1, hst]

theorem Wo.clear {ops : Array Oper} {i : Nat} {s : Slots} {A : AHeap} {K : Slots → AHeap → Prop} {o : Oper} {x : Tmp} {a : Option Addr} {lo hi n c : Nat} (ho : nth ops.toList i = some o) (hop : o.op = .call ⟨.builtin .clear, #[.tmp x], #[22]⟩) (hwt : wantB (gd ops o) s = true) (hw : WF A) (hW : Wrt A a lo hi n) (hx : sget s x = .slice a n c)
    (h : ∀ B, Szs lo hi A B → Wo Try.prog ops (i + 1) (sput s o.dst (.tuple #[])) B K) : Wo Try.prog ops i s A K := by
  obtain ⟨d, op, ty, pos, af, gu⟩ := o
  simp only at hop
  subst hop
  obtain ⟨B, q1, q2⟩ := ae_clear (d := d) (ty := ty) (pos := pos) (af := af) (gu := gu) hw hW hx
  exact Wo.op hc bno_ok ho (.inr ⟨hwt, .inr ⟨(fun f args ats e => by cases e), q1⟩⟩) (h B q2)
theorem spoil_lasso {A : AHeap} (hw : WF A) {m : Int} {sa ra : Option Addr} {sn sc rn rc lo : Nat} (hlo : lo ≤ A.next) (h1 : Wrt A sa lo A.next sn) (h2 : Wrt A ra lo A.next rn) (hrn : rn < 4611686018427387904) :
    Con Try.prog 27 [.agg #[.int .i64 m, .slice sa sn sc, .slice ra rn rc]] A (fun _ A1 => Nx lo A A1) := by
  refine con_of_rn hc Try.func27 rfl (Nat.le_of_ble_eq_true rfl) ?_
  obtain ⟨A1, e1, hx1, hn1, b0, b1, b2⟩ := box3 hw (.int .i64 m) (.slice sa sn sc) (.slice ra rn rc) 24
  have k1 : Wrt A1 sa lo A.next sn := fun hp => by
    obtain ⟨b, o, c, t, f, g, e, q1, q2, q3, q4, q5⟩ := h1 hp
    exact ⟨b, o, c, t, f, g, e, q1, q2, by rw [hx1.keep _ (hw _ _ q3)]; exact q3, q4, q5⟩
  have k2 : Wrt A1 ra lo A.next rn := fun hp => by
    obtain ⟨b, o, c, t, f, g, e, q1, q2, q3, q4, q5⟩ := h2 hp
    exact ⟨b, o, c, t, f, g, e, q1, q2, by rw [hx1.keep _ (hw _ _ q3)]; exact q3, q4, q5⟩
  rw [s_in1]
  (repeat (first | refine Rn.seq hc ?_ | refine Rn.skip hc ?_ | refine Rn.block hc ?_ | refine Rn.inBlock hc ?_ | refine Rn.scope hc ?_ | refine Rn.inScope hc ?_))
  refine Rn.reg hc rfl ?_
  simp only [sev_tmp, sg_eq, Nat.reduceLT, gd, want_free, rops, fx, Option.some.injEq, exists_eq_left', Value.cells, show Try.f27.ntmps = 16 from rfl, e1]
  (repeat (first | refine Rn.seq hc ?_ | refine Rn.skip hc ?_ | refine Rn.block hc ?_ | refine Rn.inBlock hc ?_ | refine Rn.scope hc ?_ | refine Rn.inScope hc ?_))
  refine Rn.region hc fun K hK => ?_
  refine Wo.run hc 2 rfl rfl rfl ?_
  simp (maxSteps := 2000000) only [List.drop_zero, List.take_succ_cons, List.take_zero, sev_tmp, sg_eq, sp_n, Nat.reduceLT, gd, want_free, rops, fx, ld, fad, adr_p, Nat.zero_add, Option.some.injEq, exists_eq_left', tk22, fo24_1, b1]
  refine Wo.clear (x := 4) (c := sc) (by rfl) (by rfl) (by rfl) hx1.wf k1 (by simp only [sg_eq, sp_n, Nat.reduceLT]) fun B hB => ?_
  refine Wo.done hc rfl (hK _ _ ?_)
  clear hK
  (repeat (first | refine Rn.seq hc ?_ | refine Rn.skip hc ?_ | refine Rn.block hc ?_ | refine Rn.inBlock hc ?_ | refine Rn.scope hc ?_ | refine Rn.inScope hc ?_))
  have c2 : cl B A.next 2 = some (.slice ra rn rc) := (cl_look (hB.keep _ (.inr (Nat.le_refl _)))).trans b2
  refine Rn.reg hc rfl ?_
  simp only [sev_tmp, sev_const, sg_eq, sg_ne, sp_n, sp_none, Nat.reduceLT, ne_eq, Nat.reduceEqDiff, not_false_eq_true, gd, want_free, rops, fx, ld, fad, lng, adr_p, Nat.zero_add, Option.some.injEq, exists_eq_left', tk22, fo24_2, un22, c2]
  (repeat (first | refine Rn.seq hc ?_ | refine Rn.skip hc ?_ | refine Rn.block hc ?_ | refine Rn.inBlock hc ?_ | refine Rn.scope hc ?_ | refine Rn.inScope hc ?_))
  refine Rn.loopI hc (I := fun k s M => ∃ i, i ≤ rn ∧ k = rn - i ∧ Szs lo A.next A1 M ∧ s.n = 16 ∧ sget s 1 = .pointer (some ⟨A.next, 0, none⟩) ∧ sget s 7 = .int .i64 (rn : Int) ∧ sget s 8 = .int .i64 (i : Int))
    (n := rn) ⟨0, by omega, rfl, hB, by simp only [sp_n], by simp only [sg_eq, sg_ne, sp_n, Nat.reduceLT, ne_eq, Nat.reduceEqDiff, not_false_eq_true], by simp only [sg_eq, sg_ne, sp_n, Nat.reduceLT, ne_eq, Nat.reduceEqDiff, not_false_eq_true], by simp only [sg_eq, sp_n, Nat.reduceLT]; rfl⟩ ?_
  rintro k s M ⟨i, hi, rfl, hM, hn, s1, s7, s8⟩ ih
  have c2 : cl M A.next 2 = some (.slice ra rn rc) := (cl_look (hM.keep _ (.inr (Nat.le_refl _)))).trans b2
  (repeat (first | refine Rn.seq hc ?_ | refine Rn.skip hc ?_ | refine Rn.block hc ?_ | refine Rn.inBlock hc ?_ | refine Rn.scope hc ?_ | refine Rn.inScope hc ?_))
  by_cases hlt : i < rn
  · have hd : decide ((i : Int) < (rn : Int)) = true := decide_eq_true (by omega)
    refine Rn.reg hc rfl ?_
    simp only [sev_tmp, gd, want_free, rops, fx, bin_lss, Option.some.injEq, exists_eq_left', s7, s8, hd]
    (repeat (first | refine Rn.seq hc ?_ | refine Rn.skip hc ?_ | refine Rn.block hc ?_ | refine Rn.inBlock hc ?_ | refine Rn.scope hc ?_ | refine Rn.inScope hc ?_))
    refine Rn.condE hc rfl ?_
    simp only [sev_tmp, sg_eq, Nat.reduceLT, Value.bool.injEq, exists_eq_left', hn]
    (repeat (first | refine Rn.seq hc ?_ | refine Rn.skip hc ?_ | refine Rn.block hc ?_ | refine Rn.inBlock hc ?_ | refine Rn.scope hc ?_ | refine Rn.inScope hc ?_))
    refine Rn.reg hc rfl ?_
    simp only [sev_tmp, sg_eq, sg_ne, sp_n, Nat.reduceLT, ne_eq, Nat.reduceEqDiff, not_false_eq_true, gd, want_free, rops, fx, Option.some.injEq, exists_eq_left', hn, s8]
    (repeat (first | refine Rn.seq hc ?_ | refine Rn.skip hc ?_ | refine Rn.block hc ?_ | refine Rn.inBlock hc ?_ | refine Rn.scope hc ?_ | refine Rn.inScope hc ?_))
    obtain ⟨b, o, c, t, f, g, e, rfl, q2, q3, q4, q5⟩ := (k2.szs hM) (by omega)
    obtain ⟨M2, u1, u2⟩ := st1_upd (o := o + i) (v := .int .i64 (-7)) q3 q4 (by omega) rfl
    have hM2 := hM.trans (Szs.of_upd hM.wf q3 q2 u2 (by simp))
    refine Rn.reg hc rfl ?_
    simp only [sev_tmp, sev_const, sg_eq, sg_ne, sp_n, sp_none, Nat.reduceLT, ne_eq, Nat.reduceEqDiff, not_false_eq_true, gd, want_free, rops, fx, ld, str, fad, idx, adr_p, Nat.zero_add, Option.some.injEq, exists_eq_left', Nat.mul_one, tk3, tk22, fo24_2, eo22, hn, s1, c2, nlen_nat hlt, u1]
    (repeat (first | refine Rn.seq hc ?_ | refine Rn.skip hc ?_ | refine Rn.block hc ?_ | refine Rn.inBlock hc ?_ | refine Rn.scope hc ?_ | refine Rn.inScope hc ?_))
    refine Rn.reg hc rfl ?_
    simp only [sev_tmp, sev_const, sg_eq, sg_ne, sp_n, Nat.reduceLT, ne_eq, Nat.reduceEqDiff, not_false_eq_true, gd, want_free, rops, fx, bin_add, Option.some.injEq, exists_eq_left', hn, s8, wrap_succ (show i < 9223372036854775807 by omega)]
    (repeat (first | refine Rn.seq hc ?_ | refine Rn.skip hc ?_ | refine Rn.block hc ?_ | refine Rn.inBlock hc ?_ | refine Rn.scope hc ?_ | refine Rn.inScope hc ?_))
    exact ih _ _ _ (by omega) ⟨i + 1, by omega, rfl, hM2, by simp only [sp_n, hn], by simp only [sg_ne, ne_eq, Nat.reduceEqDiff, not_false_eq_true, s1], by simp only [sg_ne, ne_eq, Nat.reduceEqDiff, not_false_eq_true, s7], by simp only [sg_eq, sp_n, Nat.reduceLT, hn]⟩
  · have hd : decide ((i : Int) < (rn : Int)) = false := decide_eq_false (by omega)
    clear ih
    refine Rn.reg hc rfl ?_
    simp only [sev_tmp, gd, want_free, rops, fx, bin_lss, Option.some.injEq, exists_eq_left', s7, s8, hd]
    (repeat (first | refine Rn.seq hc ?_ | refine Rn.skip hc ?_ | refine Rn.block hc ?_ | refine Rn.inBlock hc ?_ | refine Rn.scope hc ?_ | refine Rn.inScope hc ?_))
    refine Rn.condE hc rfl ?_
    simp only [sev_tmp, sg_eq, Nat.reduceLT, Value.bool.injEq, exists_eq_left', hn]
    (repeat (first | refine Rn.seq hc ?_ | refine Rn.skip hc ?_ | refine Rn.block hc ?_ | refine Rn.inBlock hc ?_ | refine Rn.scope hc ?_ | refine Rn.inScope hc ?_))
    refine Rn.exit hc rfl ?_
    (repeat (first | refine Rn.seq hc ?_ | refine Rn.skip hc ?_ | refine Rn.block hc ?_ | refine Rn.inBlock hc ?_ | refine Rn.scope hc ?_ | refine Rn.inScope hc ?_))
    refine Rn.fall (endQ_none rfl (.inl rfl) ⟨by have := hM.next; omega, hM.wf, fun b hb => ?_⟩)
    rw [hM.keep _ (.inl hb)]
    exact hx1.keep _ (by omega)
end Go.Proofs.Ytdaljohmfnfgiaa

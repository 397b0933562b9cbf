/- LassoParts: the contracts. No condition. -/
import Derived.Test.YtdaljohmfnfgiaaXb
/- Single elements; what results of streams come to. No condition. -/
namespace Go.Proofs.Ytdaljohmfnfgiaa
open Go Go.RowKit Go.Proofs.Ytdaljohmfnfgiaa.Canon
set_option maxRecDepth 20000


/-- What a stream comes to as a result, or the error. -/
def TP (e m : Int) (s : Nat → Int) (mm : Int) (L1 L2 : List Int) (ee : Int) : Prop :=
  (e ≠ 0 ∧ mm = 0 ∧ L1 = [] ∧ L2 = [] ∧ ee = e) ∨
  (e = 0 ∧ ∃ a p, Red s a p ∧ (((120 < p ∨ 60 < a) ∧ mm = 0 ∧ L1 = [] ∧ L2 = [] ∧ ee = 11) ∨ (¬ (120 < p ∨ 60 < a) ∧ mm = m ∧ L1 = redS s a ∧ L2 = redR s a p ∧ ee = 0)))
theorem TP.uniq {e m : Int} {s : Nat → Int} {mm mm' : Int} {L1 L2 L1' L2' : List Int} {ee ee' : Int} (h : TP e m s mm L1 L2 ee) (k : TP e m s mm' L1' L2' ee') : mm = mm' ∧ L1 = L1' ∧ L2 = L2' ∧ ee = ee' := by
  rcases h with ⟨h0, rfl, rfl, rfl, rfl⟩ | ⟨h0, a, p, hr, h⟩
  · rcases k with ⟨_, rfl, rfl, rfl, rfl⟩ | ⟨k0, _⟩
    · exact ⟨rfl, rfl, rfl, rfl⟩
    · exact absurd k0 h0
  · rcases k with ⟨k0, _⟩ | ⟨_, a', p', kr, k⟩
    · exact absurd h0 k0
    · obtain ⟨rfl, rfl⟩ := hr.uniq kr
      rcases h with ⟨h1, rfl, rfl, rfl, rfl⟩ | ⟨h1, rfl, rfl, rfl, rfl⟩
      · rcases k with ⟨_, rfl, rfl, rfl, rfl⟩ | ⟨k1, _⟩
        · exact ⟨rfl, rfl, rfl, rfl⟩
        · exact absurd h1 k1
      · rcases k with ⟨k1, _⟩ | ⟨_, rfl, rfl, rfl, rfl⟩
        · exact absurd k1 h1
        · exact ⟨rfl, rfl, rfl, rfl⟩
theorem TP.len {e m : Int} {s : Nat → Int} {mm : Int} {L1 L2 : List Int} {ee : Int} (h : TP e m s mm L1 L2 ee) : L1.length ≤ 60 ∧ L2.length ≤ 120 := by
  rcases h with ⟨_, _, rfl, rfl, _⟩ | ⟨_, a, p, _, ⟨_, _, rfl, rfl, _⟩ | ⟨h1, _, rfl, rfl, _⟩⟩
  · simp
  · simp
  · rw [redS_len, redR_len]; omega
/-- The same, as it lies in memory: what the program hands back may be written. -/
def Tld (A : AHeap) (e m : Int) (s : Nat → Int) (v : Value) (A1 : AHeap) : Prop :=
  Nx A.next A A1 ∧ ∃ mm L1 L2 ee p1 c1 p2 c2, TP e m s mm L1 L2 ee ∧ v = .tuple #[.agg #[.int .i64 mm, .slice p1 L1.length c1, .slice p2 L2.length c2], .int .i64 ee] ∧ Ints A1 p1 A.next A1.next L1 ∧ Ints A1 p2 A.next A1.next L2 ∧ Wrt A1 p1 A.next A1.next L1.length ∧ Wrt A1 p2 A.next A1.next L2.length
def TldR (A : AHeap) (e m : Int) (s : Nat → Int) (v : Value) (A1 : AHeap) : Prop :=
  Nx A.next A A1 ∧ ∃ mm L1 L2 ee p1 c1 p2 c2, TP e m s mm L1 L2 ee ∧ v = .tuple #[.agg #[.int .i64 mm, .slice p1 L1.length c1, .slice p2 L2.length c2], .int .i64 ee] ∧ Ints A1 p1 A.next A1.next L1 ∧ Ints A1 p2 A.next A1.next L2
theorem ints_nil' (A : AHeap) (a : Option Addr) (lo hi : Nat) : Ints A a lo hi [] := fun i hi => by simp at hi
theorem tld_err {A A1 : AHeap} {e m : Int} {s : Nat → Int} (he : e ≠ 0) (hx1 : Nx A.next A A1) : Tld A e m s (.tuple #[.agg #[.int .i64 0, .slice none 0 0, .slice none 0 0], .int .i64 e]) A1 :=
  ⟨hx1, 0, [], [], _, none, 0, none, 0, .inl ⟨he, rfl, rfl, rfl, rfl⟩, rfl, ints_nil' _ _ _ _, ints_nil' _ _ _ _, fun h0 => absurd h0 (by simp), fun h0 => absurd h0 (by simp)⟩
theorem tldR_err {A A1 : AHeap} {e m : Int} {s : Nat → Int} (he : e ≠ 0) (hx1 : Nx A.next A A1) : TldR A e m s (.tuple #[.agg #[.int .i64 0, .slice none 0 0, .slice none 0 0], .int .i64 e]) A1 :=
  ⟨hx1, 0, [], [], _, none, 0, none, 0, .inl ⟨he, rfl, rfl, rfl, rfl⟩, rfl, ints_nil' _ _ _ _, ints_nil' _ _ _ _⟩
theorem tld_q {A A1 : AHeap} {m : Int} {s : Nat → Int} {a p : Nat} {v : Value} (hr : Red s a p) (h : LeastQ A m s a p v A1) : Tld A 0 m s v A1 := by
  obtain ⟨hx1, hq⟩ := h
  refine ⟨hx1, ?_⟩
  by_cases hl : 120 < p ∨ 60 < a
  · rw [if_pos hl] at hq
    exact ⟨0, [], [], 11, none, 0, none, 0, .inr ⟨rfl, a, p, hr, .inl ⟨hl, rfl, rfl, rfl, rfl⟩⟩, hq, ints_nil' _ _ _ _, ints_nil' _ _ _ _, fun h0 => absurd h0 (by simp), fun h0 => absurd h0 (by simp)⟩
  · rw [if_neg hl] at hq
    obtain ⟨xa, xr, rfl, g1, g2⟩ := hq
    exact ⟨m, _, _, 0, xa, a, xr, p, .inr ⟨rfl, a, p, hr, .inr ⟨hl, rfl, rfl, rfl, rfl⟩⟩, by rw [redS_len, redR_len], g1.ints, g2.ints, g1.wrt, g2.wrt⟩
theorem tldR_q {A A1 : AHeap} {m : Int} {s : Nat → Int} {a p : Nat} {v : Value} (hr : Red s a p) (h : LeastR A m s a p v A1) : TldR A 0 m s v A1 := by
  obtain ⟨hx1, hq⟩ := h
  refine ⟨hx1, ?_⟩
  by_cases hl : 120 < p ∨ 60 < a
  · rw [if_pos hl] at hq
    exact ⟨0, [], [], 11, none, 0, none, 0, .inr ⟨rfl, a, p, hr, .inl ⟨hl, rfl, rfl, rfl, rfl⟩⟩, hq, ints_nil' _ _ _ _, ints_nil' _ _ _ _⟩
  · rw [if_neg hl] at hq
    obtain ⟨xa, xc, xr, xd, rfl, g1, g2⟩ := hq
    exact ⟨m, _, _, 0, xa, xc, xr, xd, .inr ⟨rfl, a, p, hr, .inr ⟨hl, rfl, rfl, rfl, rfl⟩⟩, by rw [redS_len, redR_len], g1, g2⟩
/-- A result is put into the variable of the results; nothing else is written. -/
theorem Tld.put {A B D : AHeap} {e m : Int} {s : Nat → Int} {mm : Int} {L1 L2 : List Int} {ee : Int} {p1 p2 : Option Addr} {c1 c2 lo b : Nat} (hlo : lo ≤ A.next) (hb : b < A.next) (hlb : lo ≤ b) (hT : TP e m s mm L1 L2 ee) (i1 : Ints B p1 A.next B.next L1) (i2 : Ints B p2 A.next B.next L2) (hn : D.next = B.next) (hoff : ∀ b', b' ≠ b → Canon.look D.objs b' = Canon.look B.objs b') :
    Ints D p1 A.next D.next L1 ∧ Ints D p2 A.next D.next L2 := by
  have h : ∀ b', A.next ≤ b' → Canon.look B.objs b' = none ∨ Canon.look D.objs b' = Canon.look B.objs b' := fun b' hb' => .inr (hoff _ (by omega))
  exact ⟨i1.ext h (Nat.le_of_eq hn.symm), i2.ext h (Nat.le_of_eq hn.symm)⟩
theorem Wrt.off {B D : AHeap} {a : Option Addr} {lo n b : Nat} (h : Wrt B a lo B.next n) (hn : D.next = B.next) (hb : b < lo) (hoff : ∀ b', b' ≠ b → Canon.look D.objs b' = Canon.look B.objs b') : Wrt D a lo D.next n := fun hpos => by
  obtain ⟨b', o, c, t, f, g, e, h1, h2, h3, h4, h5⟩ := h hpos
  exact ⟨b', o, c, t, f, g, e, h1, ⟨h2.1, by rw [hn]; exact h2.2⟩, by rw [hoff _ (by omega)]; exact h3, h4, h5⟩

/-- A single element. -/
def nthV (m : Int) (st ro : List Int) (n : Int) : Value := if errL m st ro = 0 then (if n < 0 then .tuple #[.int .i64 0, .int .i64 3] else .tuple #[.int .i64 (atL st ro n.toNat), .int .i64 0]) else .tuple #[.int .i64 0, .int .i64 (errL m st ro)]
theorem nth_run {A : AHeap} (hw : WF A) {m n : Int} {sa ra : Option Addr} {sc rc : Nat} {st ro : List Int} (hs : Ints A sa 0 A.next st) (hr : Ints A ra 0 A.next ro) (ls : st.length < 4611686018427387904) (lr : ro.length < 4611686018427387904) (hn63 : n < 9223372036854775808) :
    Con Try.prog 28 [.agg #[.int .i64 m, .slice sa st.length sc, .slice ra ro.length rc], .int .i64 n] A (fun v A1 => v = nthV m st ro n ∧ Nx A.next A A1) := by
  refine con_of_rn hc Try.func28 rfl (Nat.le_of_ble_eq_true rfl) ?_
  obtain ⟨A1, e1, hx1, hn1, b0, b1, b2⟩ := box3 hw (.int .i64 m) (.slice sa st.length sc) (.slice ra ro.length rc) 24
  obtain ⟨A3, e3, hx3, hn3, c0, c1, c2⟩ := box3 hx1.wf (.int .i64 m) (.slice sa st.length sc) (.slice ra ro.length rc) 24
  have hx03 : Nx A.next A A3 := hx1.trans (hx3.le hx1.next)
  have hrow : LRow A3 (some ⟨A1.next, 0, none⟩) [⟨m, sa, sc, st, ra, rc, ro⟩] := fun i hi => by
    have : i = 0 := by simp at hi; omega
    subst this
    exact ⟨⟨(hs.nx hx03 (Nat.le_refl _)).mono (Nat.le_refl _) hx03.next, (hr.nx hx03 (Nat.le_refl _)).mono (Nat.le_refl _) hx03.next, ls, lr⟩, _, _, rfl, by omega, c0, c1, c2⟩
  rw [s_in2]
  (repeat (first | refine Rn.seq hc ?_ | refine Rn.skip hc ?_ | refine Rn.block hc ?_ | refine Rn.inBlock hc ?_ | refine Rn.scope hc ?_ | refine Rn.inScope hc ?_))
  refine Rn.reg hc rfl ?_
  simp only [sev_tmp, sev_const, sg_eq, sg_ne, Nat.reduceLT, ne_eq, Nat.reduceEqDiff, not_false_eq_true, gd, want_free, rops, fx, Option.some.injEq, exists_eq_left', Value.cells, show Try.f28.ntmps = 19 from rfl, e1]
  (repeat (first | refine Rn.seq hc ?_ | refine Rn.skip hc ?_ | refine Rn.block hc ?_ | refine Rn.inBlock hc ?_ | refine Rn.scope hc ?_ | refine Rn.inScope hc ?_))
  refine Rn.region hc fun K hK => ?_
  refine Wo.run hc 2 rfl rfl rfl ?_
  simp (maxSteps := 2000000) only [List.drop_zero, List.take_succ_cons, List.take_zero, sev_tmp, sg_eq, sg_ne, sp_n, Nat.reduceLT, ne_eq, Nat.reduceEqDiff, not_false_eq_true, gd, want_free, rops, fx, ld, adr_p, cls, Nat.zero_add, Option.some.injEq, exists_eq_left', Value.cells, Nat.reduceAdd, tk24, b0, b1, b2, bs46_1, List.size_toArray, List.length_cons, List.length_nil, e3]
  refine Wo.call hc (by rfl) (by rfl) ⟨by rfl, by rfl⟩ (xs := [.slice (some ⟨A1.next, 0, none⟩) 1 1]) (by rfl) (by rfl) (by rfl) (Con.mono (check_all hx3.wf (l := [⟨m, sa, sc, st, ra, rc, ro⟩]) hrow (by simp)) ?_)
  rintro w A4 ⟨rfl, hx4⟩
  rw [errs_one, show (⟨m, sa, sc, st, ra, rc, ro⟩ : Las).err = errL m st ro from rfl]
  refine Wo.run hc 1 rfl rfl rfl ?_
  simp (maxSteps := 2000000) only [List.drop_zero, List.drop_succ_cons, List.take_succ_cons, List.take_zero, sev_tmp, sg_eq, sp_n, Nat.reduceLT, gd, want_free, rops, fx, Option.some.injEq, exists_eq_left', Nat.reduceAdd]
  refine Wo.done hc rfl (hK _ _ ?_)
  clear hK
  (repeat (first | refine Rn.seq hc ?_ | refine Rn.skip hc ?_ | refine Rn.block hc ?_ | refine Rn.inBlock hc ?_ | refine Rn.scope hc ?_ | refine Rn.inScope hc ?_))
  have b0 := (hx4.cl (show A.next < A3.next by omega) 0).trans ((hx3.cl (show A.next < A1.next by omega) 0).trans b0)
  have b1 := (hx4.cl (show A.next < A3.next by omega) 1).trans ((hx3.cl (show A.next < A1.next by omega) 1).trans b1)
  have b2 := (hx4.cl (show A.next < A3.next by omega) 2).trans ((hx3.cl (show A.next < A1.next by omega) 2).trans b2)
  have hx04 : Nx A.next A A4 := hx03.trans (hx4.le hx03.next)
  unfold nthV
  by_cases he : errL m st ro = 0
  · have hd : (!decide (errL m st ro = 0)) = false := by rw [decide_eq_true he]; rfl
    rw [if_pos he]
    refine Rn.reg hc rfl ?_
    simp only [sev_tmp, sev_const, sg_eq, sp_n, Nat.reduceLT, gd, want_free, rops, fx, bin_neq, Option.some.injEq, exists_eq_left', hd]
    (repeat (first | refine Rn.seq hc ?_ | refine Rn.skip hc ?_ | refine Rn.block hc ?_ | refine Rn.inBlock hc ?_ | refine Rn.scope hc ?_ | refine Rn.inScope hc ?_))
    refine Rn.condE hc rfl ?_
    simp only [sev_tmp, sg_eq, sp_n, Nat.reduceLT, Value.bool.injEq, exists_eq_left']
    (repeat (first | refine Rn.seq hc ?_ | refine Rn.skip hc ?_ | refine Rn.block hc ?_ | refine Rn.inBlock hc ?_ | refine Rn.scope hc ?_ | refine Rn.inScope hc ?_))
    by_cases hneg : n < 0
    · have h1 : decide (n < 0) = true := decide_eq_true hneg
      rw [if_pos hneg]
      refine Rn.reg hc rfl ?_
      simp only [sev_tmp, sev_const, sg_eq, sg_ne, sp_n, Nat.reduceLT, ne_eq, Nat.reduceEqDiff, not_false_eq_true, gd, want_free, rops, fx, bin_lss, Option.some.injEq, exists_eq_left', h1]
      (repeat (first | refine Rn.seq hc ?_ | refine Rn.skip hc ?_ | refine Rn.block hc ?_ | refine Rn.inBlock hc ?_ | refine Rn.scope hc ?_ | refine Rn.inScope hc ?_))
      refine Rn.condE hc rfl ?_
      simp only [sev_tmp, sg_eq, sp_n, Nat.reduceLT, Value.bool.injEq, exists_eq_left']
      (repeat (first | refine Rn.seq hc ?_ | refine Rn.skip hc ?_ | refine Rn.block hc ?_ | refine Rn.inBlock hc ?_ | refine Rn.scope hc ?_ | refine Rn.inScope hc ?_))
      refine Rn.reg hc rfl ?_
      simp only [sev_const, gd, want_free, rops, fx, Option.some.injEq, exists_eq_left']
      (repeat (first | refine Rn.seq hc ?_ | refine Rn.skip hc ?_ | refine Rn.block hc ?_ | refine Rn.inBlock hc ?_ | refine Rn.scope hc ?_ | refine Rn.inScope hc ?_))
      refine Rn.ret (endQ_two rfl ⟨?_, hx04⟩)
      simp only [sg_eq, sg_ne, sp_n, Nat.reduceLT, ne_eq, Nat.reduceEqDiff, not_false_eq_true]
    · have h1 : decide (n < 0) = false := decide_eq_false hneg
      rw [if_neg hneg]
      obtain ⟨k, rfl⟩ : ∃ k : Nat, n = (k : Int) := ⟨n.toNat, by omega⟩
      refine Rn.reg hc rfl ?_
      simp only [sev_tmp, sev_const, sg_eq, sg_ne, sp_n, Nat.reduceLT, ne_eq, Nat.reduceEqDiff, not_false_eq_true, gd, want_free, rops, fx, bin_lss, Option.some.injEq, exists_eq_left', h1]
      (repeat (first | refine Rn.seq hc ?_ | refine Rn.skip hc ?_ | refine Rn.block hc ?_ | refine Rn.inBlock hc ?_ | refine Rn.scope hc ?_ | refine Rn.inScope hc ?_))
      refine Rn.condE hc rfl ?_
      simp only [sev_tmp, sg_eq, sp_n, Nat.reduceLT, Value.bool.injEq, exists_eq_left']
      (repeat (first | refine Rn.seq hc ?_ | refine Rn.skip hc ?_ | refine Rn.block hc ?_ | refine Rn.inBlock hc ?_ | refine Rn.scope hc ?_ | refine Rn.inScope hc ?_))
      refine Rn.region hc fun K hK => ?_
      refine Wo.run hc 3 rfl rfl rfl ?_
      simp (maxSteps := 2000000) only [List.drop_zero, List.take_succ_cons, List.take_zero, sev_tmp, sg_eq, sg_ne, sp_n, Nat.reduceLT, ne_eq, Nat.reduceEqDiff, not_false_eq_true, gd, want_free, rops, fx, ld, adr_p, cls, Nat.zero_add, Option.some.injEq, exists_eq_left', Value.cells, Nat.reduceAdd, tk24, b0, b1, b2, bd86, List.size_toArray, List.length_cons, List.length_nil]
      refine Wo.call hc (by rfl) (by rfl) ⟨by rfl, by rfl⟩ (xs := [.agg #[.int .i64 m, .slice sa st.length sc, .slice ra ro.length rc], .int .i64 (k : Int)]) (by rfl) (by rfl) (by rfl) (Con.mono (at_stream hx4.wf ((hs.nx hx04 (Nat.le_refl _)).mono (Nat.le_refl _) hx04.next) ((hr.nx hx04 (Nat.le_refl _)).mono (Nat.le_refl _) hx04.next) k ls (errL_pos he) lr (by omega)) ?_)
      rintro w A5 ⟨rfl, hx5⟩
      refine Wo.run hc 2 rfl rfl rfl ?_
      simp (maxSteps := 2000000) only [List.drop_zero, List.drop_succ_cons, List.take_succ_cons, List.take_zero, sev_tmp, sev_const, sg_eq, sp_n, Nat.reduceLT, gd, want_free, rops, fx, Option.some.injEq, exists_eq_left', Nat.reduceAdd]
      refine Wo.done hc rfl (hK _ _ ?_)
      clear hK
      (repeat (first | refine Rn.seq hc ?_ | refine Rn.skip hc ?_ | refine Rn.block hc ?_ | refine Rn.inBlock hc ?_ | refine Rn.scope hc ?_ | refine Rn.inScope hc ?_))
      refine Rn.ret (endQ_two rfl ⟨?_, hx04.trans (hx5.le hx04.next)⟩)
      simp only [sg_eq, sg_ne, sp_n, Nat.reduceLT, ne_eq, Nat.reduceEqDiff, not_false_eq_true, Int.toNat_natCast]
  · have hd : (!decide (errL m st ro = 0)) = true := by rw [decide_eq_false he]; rfl
    rw [if_neg he]
    refine Rn.reg hc rfl ?_
    simp only [sev_tmp, sev_const, sg_eq, sp_n, Nat.reduceLT, gd, want_free, rops, fx, bin_neq, Option.some.injEq, exists_eq_left', hd]
    (repeat (first | refine Rn.seq hc ?_ | refine Rn.skip hc ?_ | refine Rn.block hc ?_ | refine Rn.inBlock hc ?_ | refine Rn.scope hc ?_ | refine Rn.inScope hc ?_))
    refine Rn.condE hc rfl ?_
    simp only [sev_tmp, sg_eq, sp_n, Nat.reduceLT, Value.bool.injEq, exists_eq_left']
    (repeat (first | refine Rn.seq hc ?_ | refine Rn.skip hc ?_ | refine Rn.block hc ?_ | refine Rn.inBlock hc ?_ | refine Rn.scope hc ?_ | refine Rn.inScope hc ?_))
    refine Rn.reg hc rfl ?_
    simp only [sev_tmp, sev_const, sg_eq, sg_ne, sp_n, Nat.reduceLT, ne_eq, Nat.reduceEqDiff, not_false_eq_true, gd, want_free, rops, fx, Option.some.injEq, exists_eq_left']
    (repeat (first | refine Rn.seq hc ?_ | refine Rn.skip hc ?_ | refine Rn.block hc ?_ | refine Rn.inBlock hc ?_ | refine Rn.scope hc ?_ | refine Rn.inScope hc ?_))
    refine Rn.ret (endQ_two rfl ⟨?_, hx04⟩)
    simp only [sg_eq, sg_ne, sp_n, Nat.reduceLT, ne_eq, Nat.reduceEqDiff, not_false_eq_true]
theorem nth_ref {A : AHeap} (hw : WF A) {m n : Int} {sa ra : Option Addr} {sc rc : Nat} {st ro : List Int} (hs : Ints A sa 0 A.next st) (hr : Ints A ra 0 A.next ro) (ls : st.length < 4611686018427387904) (lr : ro.length < 4611686018427387904) (hn63 : n < 9223372036854775808) :
    Con Try.prog 29 [.agg #[.int .i64 m, .slice sa st.length sc, .slice ra ro.length rc], .int .i64 n] A (fun v A1 => v = nthV m st ro n ∧ Nx A.next A A1) := by
  refine con_of_rn hc Try.func29 rfl (Nat.le_of_ble_eq_true rfl) ?_
  obtain ⟨A1, e1, hx1, hn1, b0, b1, b2⟩ := box3 hw (.int .i64 m) (.slice sa st.length sc) (.slice ra ro.length rc) 24
  rw [s_in2]
  (repeat (first | refine Rn.seq hc ?_ | refine Rn.skip hc ?_ | refine Rn.block hc ?_ | refine Rn.inBlock hc ?_ | refine Rn.scope hc ?_ | refine Rn.inScope hc ?_))
  refine Rn.reg hc rfl ?_
  simp only [sev_tmp, sev_const, sg_eq, sg_ne, Nat.reduceLT, ne_eq, Nat.reduceEqDiff, not_false_eq_true, gd, want_free, rops, fx, Option.some.injEq, exists_eq_left', Value.cells, show Try.f29.ntmps = 17 from rfl, e1]
  (repeat (first | refine Rn.seq hc ?_ | refine Rn.skip hc ?_ | refine Rn.block hc ?_ | refine Rn.inBlock hc ?_ | refine Rn.scope hc ?_ | refine Rn.inScope hc ?_))
  refine Rn.region hc fun K hK => ?_
  refine Wo.run hc 1 rfl rfl rfl ?_
  simp (maxSteps := 2000000) only [List.drop_zero, List.take_succ_cons, List.take_zero, sev_tmp, sg_eq, sg_ne, sp_n, Nat.reduceLT, ne_eq, Nat.reduceEqDiff, not_false_eq_true, gd, want_free, rops, fx, ld, adr_p, cls, Nat.zero_add, Option.some.injEq, exists_eq_left', Nat.reduceAdd, tk24, b0, b1, b2]
  refine Wo.call hc (by rfl) (by rfl) ⟨by rfl, by rfl⟩ (xs := [.agg #[.int .i64 m, .slice sa st.length sc, .slice ra ro.length rc]]) (by rfl) (by rfl) (by rfl) (Con.mono (check_ref hx1.wf ((hs.nx hx1 (Nat.le_refl _)).mono (Nat.le_refl _) hx1.next) ((hr.nx hx1 (Nat.le_refl _)).mono (Nat.le_refl _) hx1.next) ls lr) ?_)
  rintro w A4 ⟨rfl, hx4⟩
  refine Wo.run hc 1 rfl rfl rfl ?_
  simp (maxSteps := 2000000) only [List.drop_zero, List.drop_succ_cons, List.take_succ_cons, List.take_zero, sev_tmp, sg_eq, sp_n, Nat.reduceLT, gd, want_free, rops, fx, Option.some.injEq, exists_eq_left', Nat.reduceAdd]
  refine Wo.done hc rfl (hK _ _ ?_)
  clear hK
  (repeat (first | refine Rn.seq hc ?_ | refine Rn.skip hc ?_ | refine Rn.block hc ?_ | refine Rn.inBlock hc ?_ | refine Rn.scope hc ?_ | refine Rn.inScope hc ?_))
  have b0 := (hx4.cl (show A.next < A1.next by omega) 0).trans b0
  have b1 := (hx4.cl (show A.next < A1.next by omega) 1).trans b1
  have b2 := (hx4.cl (show A.next < A1.next by omega) 2).trans b2
  have hx04 : Nx A.next A A4 := hx1.trans (hx4.le hx1.next)
  unfold nthV
  by_cases he : errL m st ro = 0
  · have hd : (!decide (errL m st ro = 0)) = false := by rw [decide_eq_true he]; rfl
    rw [if_pos he]
    refine Rn.reg hc rfl ?_
    simp only [sev_tmp, sev_const, sg_eq, sp_n, Nat.reduceLT, gd, want_free, rops, fx, bin_neq, Option.some.injEq, exists_eq_left', hd]
    (repeat (first | refine Rn.seq hc ?_ | refine Rn.skip hc ?_ | refine Rn.block hc ?_ | refine Rn.inBlock hc ?_ | refine Rn.scope hc ?_ | refine Rn.inScope hc ?_))
    refine Rn.condE hc rfl ?_
    simp only [sev_tmp, sg_eq, sp_n, Nat.reduceLT, Value.bool.injEq, exists_eq_left']
    (repeat (first | refine Rn.seq hc ?_ | refine Rn.skip hc ?_ | refine Rn.block hc ?_ | refine Rn.inBlock hc ?_ | refine Rn.scope hc ?_ | refine Rn.inScope hc ?_))
    by_cases hneg : n < 0
    · have h1 : decide (n < 0) = true := decide_eq_true hneg
      rw [if_pos hneg]
      refine Rn.reg hc rfl ?_
      simp only [sev_tmp, sev_const, sg_eq, sg_ne, sp_n, Nat.reduceLT, ne_eq, Nat.reduceEqDiff, not_false_eq_true, gd, want_free, rops, fx, bin_lss, Option.some.injEq, exists_eq_left', h1]
      (repeat (first | refine Rn.seq hc ?_ | refine Rn.skip hc ?_ | refine Rn.block hc ?_ | refine Rn.inBlock hc ?_ | refine Rn.scope hc ?_ | refine Rn.inScope hc ?_))
      refine Rn.condE hc rfl ?_
      simp only [sev_tmp, sg_eq, sp_n, Nat.reduceLT, Value.bool.injEq, exists_eq_left']
      (repeat (first | refine Rn.seq hc ?_ | refine Rn.skip hc ?_ | refine Rn.block hc ?_ | refine Rn.inBlock hc ?_ | refine Rn.scope hc ?_ | refine Rn.inScope hc ?_))
      refine Rn.reg hc rfl ?_
      simp only [sev_const, gd, want_free, rops, fx, Option.some.injEq, exists_eq_left']
      (repeat (first | refine Rn.seq hc ?_ | refine Rn.skip hc ?_ | refine Rn.block hc ?_ | refine Rn.inBlock hc ?_ | refine Rn.scope hc ?_ | refine Rn.inScope hc ?_))
      refine Rn.ret (endQ_two rfl ⟨?_, hx04⟩)
      simp only [sg_eq, sg_ne, sp_n, Nat.reduceLT, ne_eq, Nat.reduceEqDiff, not_false_eq_true]
    · have h1 : decide (n < 0) = false := decide_eq_false hneg
      rw [if_neg hneg]
      obtain ⟨k, rfl⟩ : ∃ k : Nat, n = (k : Int) := ⟨n.toNat, by omega⟩
      refine Rn.reg hc rfl ?_
      simp only [sev_tmp, sev_const, sg_eq, sg_ne, sp_n, Nat.reduceLT, ne_eq, Nat.reduceEqDiff, not_false_eq_true, gd, want_free, rops, fx, bin_lss, Option.some.injEq, exists_eq_left', h1]
      (repeat (first | refine Rn.seq hc ?_ | refine Rn.skip hc ?_ | refine Rn.block hc ?_ | refine Rn.inBlock hc ?_ | refine Rn.scope hc ?_ | refine Rn.inScope hc ?_))
      refine Rn.condE hc rfl ?_
      simp only [sev_tmp, sg_eq, sp_n, Nat.reduceLT, Value.bool.injEq, exists_eq_left']
      (repeat (first | refine Rn.seq hc ?_ | refine Rn.skip hc ?_ | refine Rn.block hc ?_ | refine Rn.inBlock hc ?_ | refine Rn.scope hc ?_ | refine Rn.inScope hc ?_))
      refine Rn.region hc fun K hK => ?_
      refine Wo.run hc 2 rfl rfl rfl ?_
      simp (maxSteps := 2000000) only [List.drop_zero, List.take_succ_cons, List.take_zero, sev_tmp, sg_eq, sg_ne, sp_n, Nat.reduceLT, ne_eq, Nat.reduceEqDiff, not_false_eq_true, gd, want_free, rops, fx, ld, adr_p, cls, Nat.zero_add, Option.some.injEq, exists_eq_left', Nat.reduceAdd, tk24, b0, b1, b2]
      refine Wo.call hc (by rfl) (by rfl) ⟨by rfl, by rfl⟩ (xs := [.agg #[.int .i64 m, .slice sa st.length sc, .slice ra ro.length rc], .int .i64 (k : Int)]) (by rfl) (by rfl) (by rfl) (Con.mono (at_ref hx4.wf ((hs.nx hx04 (Nat.le_refl _)).mono (Nat.le_refl _) hx04.next) ((hr.nx hx04 (Nat.le_refl _)).mono (Nat.le_refl _) hx04.next) k ls (errL_pos he) lr (by omega)) ?_)
      rintro w A5 ⟨rfl, hx5⟩
      refine Wo.run hc 2 rfl rfl rfl ?_
      simp (maxSteps := 2000000) only [List.drop_zero, List.drop_succ_cons, List.take_succ_cons, List.take_zero, sev_tmp, sev_const, sg_eq, sp_n, Nat.reduceLT, gd, want_free, rops, fx, Option.some.injEq, exists_eq_left', Nat.reduceAdd]
      refine Wo.done hc rfl (hK _ _ ?_)
      clear hK
      (repeat (first | refine Rn.seq hc ?_ | refine Rn.skip hc ?_ | refine Rn.block hc ?_ | refine Rn.inBlock hc ?_ | refine Rn.scope hc ?_ | refine Rn.inScope hc ?_))
      refine Rn.ret (endQ_two rfl ⟨?_, hx04.trans (hx5.le hx04.next)⟩)
      simp only [sg_eq, sg_ne, sp_n, Nat.reduceLT, ne_eq, Nat.reduceEqDiff, not_false_eq_true, Int.toNat_natCast]
  · have hd : (!decide (errL m st ro = 0)) = true := by rw [decide_eq_false he]; rfl
    rw [if_neg he]
    refine Rn.reg hc rfl ?_
    simp only [sev_tmp, sev_const, sg_eq, sp_n, Nat.reduceLT, gd, want_free, rops, fx, bin_neq, Option.some.injEq, exists_eq_left', hd]
    (repeat (first | refine Rn.seq hc ?_ | refine Rn.skip hc ?_ | refine Rn.block hc ?_ | refine Rn.inBlock hc ?_ | refine Rn.scope hc ?_ | refine Rn.inScope hc ?_))
    refine Rn.condE hc rfl ?_
    simp only [sev_tmp, sg_eq, sp_n, Nat.reduceLT, Value.bool.injEq, exists_eq_left']
    (repeat (first | refine Rn.seq hc ?_ | refine Rn.skip hc ?_ | refine Rn.block hc ?_ | refine Rn.inBlock hc ?_ | refine Rn.scope hc ?_ | refine Rn.inScope hc ?_))
    refine Rn.reg hc rfl ?_
    simp only [sev_tmp, sev_const, sg_eq, sg_ne, sp_n, Nat.reduceLT, ne_eq, Nat.reduceEqDiff, not_false_eq_true, gd, want_free, rops, fx, Option.some.injEq, exists_eq_left']
    (repeat (first | refine Rn.seq hc ?_ | refine Rn.skip hc ?_ | refine Rn.block hc ?_ | refine Rn.inBlock hc ?_ | refine Rn.scope hc ?_ | refine Rn.inScope hc ?_))
    refine Rn.ret (endQ_two rfl ⟨?_, hx04⟩)
    simp only [sg_eq, sg_ne, sp_n, Nat.reduceLT, ne_eq, Nat.reduceEqDiff, not_false_eq_true]
end Go.Proofs.Ytdaljohmfnfgiaa
/- The reference's first elements, Take and Tail. No condition. -/
namespace Go.Proofs.Ytdaljohmfnfgiaa
open Go Go.RowKit Go.Proofs.Ytdaljohmfnfgiaa.Canon
set_option maxRecDepth 20000


theorem takeL_snoc (st ro : List Int) (n k : Nat) : takeL st ro n k ++ [atL st ro (n + k)] = takeL st ro n (k + 1) := by simp [takeL, List.range_succ]
theorem first_ref {A : AHeap} (hw : WF A) {m : Int} {sa ra : Option Addr} {sc rc : Nat} {st ro : List Int} (hs : Ints A sa 0 A.next st) (hr : Ints A ra 0 A.next ro) (ls : st.length < 4611686018427387904) (lr : ro.length < 4611686018427387904) (hro : 0 < ro.length) {n many : Nat} (hn63 : n < 4611686018427387904) (hm : many ≤ 100000) :
    Con Try.prog 79 [.agg #[.int .i64 m, .slice sa st.length sc, .slice ra ro.length rc], .int .i64 (n : Int), .int .i64 (many : Int)] A (fun v A1 => ∃ a, v = .slice a many many ∧ Nx A.next A A1 ∧ Gr A1 a A.next (takeL st ro n many)) := by
  refine con_of_rn hc Try.func79 rfl (Nat.le_of_ble_eq_true rfl) ?_
  obtain ⟨A1, e1, hx1, hn1, b0, b1, b2⟩ := box3 hw (.int .i64 m) (.slice sa st.length sc) (.slice ra ro.length rc) 24
  rw [s_in3]
  (repeat (first | refine Rn.seq hc ?_ | refine Rn.skip hc ?_ | refine Rn.block hc ?_ | refine Rn.inBlock hc ?_ | refine Rn.scope hc ?_ | refine Rn.inScope hc ?_))
  refine Rn.reg hc rfl ?_
  simp only [sev_tmp, sev_const, sg_eq, sg_ne, Nat.reduceLT, ne_eq, Nat.reduceEqDiff, not_false_eq_true, gd, want_free, rops, fx, Option.some.injEq, exists_eq_left', Value.cells, show Try.f79.ntmps = 23 from rfl, e1]
  (repeat (first | refine Rn.seq hc ?_ | refine Rn.skip hc ?_ | refine Rn.block hc ?_ | refine Rn.inBlock hc ?_ | refine Rn.scope hc ?_ | refine Rn.inScope hc ?_))
  refine Rn.reg hc rfl ?_
  simp only [sev_const, gd, want_free, rops, fx, Option.some.injEq, exists_eq_left']
  (repeat (first | refine Rn.seq hc ?_ | refine Rn.skip hc ?_ | refine Rn.block hc ?_ | refine Rn.inBlock hc ?_ | refine Rn.scope hc ?_ | refine Rn.inScope hc ?_))
  refine Rn.reg hc rfl ?_
  simp only [sev_const, gd, want_free, rops, fx, Option.some.injEq, exists_eq_left']
  (repeat (first | refine Rn.seq hc ?_ | refine Rn.skip hc ?_ | refine Rn.block hc ?_ | refine Rn.inBlock hc ?_ | refine Rn.scope hc ?_ | refine Rn.inScope hc ?_))
  refine Rn.loopI hc (I := fun k s A' => ∃ i wa, i ≤ many ∧ k = many - i ∧ Nx A1.next A1 A' ∧ Gr A' wa A1.next (takeL st ro n i) ∧ s.n = 23 ∧ sget s 1 = .int .i64 (n : Int) ∧ sget s 2 = .int .i64 (many : Int) ∧ sget s 3 = .pointer (some ⟨A.next, 0, none⟩) ∧ sget s 7 = .slice wa i i ∧ sget s 8 = .int .i64 (i : Int))
    (n := many) ⟨0, none, by omega, rfl, Nx.refl hx1.wf _, Gr.nil _ _, by simp only [sp_n], by simp only [sg_eq, sg_ne, sp_n, Nat.reduceLT, ne_eq, Nat.reduceEqDiff, not_false_eq_true], by simp only [sg_eq, sg_ne, sp_n, Nat.reduceLT, ne_eq, Nat.reduceEqDiff, not_false_eq_true], by simp only [sg_eq, sg_ne, sp_n, Nat.reduceLT, ne_eq, Nat.reduceEqDiff, not_false_eq_true], by simp only [sg_eq, sg_ne, sp_n, Nat.reduceLT, ne_eq, Nat.reduceEqDiff, not_false_eq_true], by simp only [sg_eq, sp_n, Nat.reduceLT]; rfl⟩ ?_
  rintro k s A' ⟨i, wa, hi, rfl, hA, hg, hn, s1, s2, s3, s7, s8⟩ ih
  have hA0 : Nx A.next A A' := hx1.trans (hA.le hx1.next)
  (repeat (first | refine Rn.seq hc ?_ | refine Rn.skip hc ?_ | refine Rn.block hc ?_ | refine Rn.inBlock hc ?_ | refine Rn.scope hc ?_ | refine Rn.inScope hc ?_))
  by_cases hlt : i < many
  · have hd : decide ((i : Int) < (many : Int)) = true := decide_eq_true (by omega)
    have d0' := (hA.cl (show A.next < A1.next by omega) 0).trans b0
    have d1' := (hA.cl (show A.next < A1.next by omega) 1).trans b1
    have d2' := (hA.cl (show A.next < A1.next by omega) 2).trans b2
    have nA := hA.next
    refine Rn.reg hc rfl ?_
    simp only [sev_tmp, sg_eq, sg_ne, sp_n, Nat.reduceLT, ne_eq, Nat.reduceEqDiff, not_false_eq_true, gd, want_free, rops, fx, bin_lss, Option.some.injEq, exists_eq_left', hn, s2, s8, hd]
    (repeat (first | refine Rn.seq hc ?_ | refine Rn.skip hc ?_ | refine Rn.block hc ?_ | refine Rn.inBlock hc ?_ | refine Rn.scope hc ?_ | refine Rn.inScope hc ?_))
    refine Rn.condE hc rfl ?_
    simp only [sev_tmp, sg_eq, sp_n, Nat.reduceLT, Value.bool.injEq, exists_eq_left', hn]
    (repeat (first | refine Rn.seq hc ?_ | refine Rn.skip hc ?_ | refine Rn.block hc ?_ | refine Rn.inBlock hc ?_ | refine Rn.scope hc ?_ | refine Rn.inScope hc ?_))
    refine Rn.region hc fun K hK => ?_
    have hw1 : IntKind.i64.wrap ((n : Int) + (i : Int)) = ((n + i : Nat) : Int) := by rw [IntWalk.i64_in _ (by omega)]; omega
    refine Wo.run hc 5 rfl rfl rfl ?_
    simp (maxSteps := 2000000) only [List.drop_zero, List.take_succ_cons, List.take_zero, sev_tmp, sg_eq, sg_ne, sp_n, Nat.reduceLT, ne_eq, Nat.reduceEqDiff, not_false_eq_true, gd, want_free, rops, fx, ld, bin_add, adr_p, cls, Nat.zero_add, Option.some.injEq, exists_eq_left', Nat.reduceAdd, tk24, hn, s1, s3, s7, s8, d0', d1', d2', hw1]
    refine Wo.call hc (by rfl) (by rfl) ⟨by rfl, by rfl⟩ (xs := [.agg #[.int .i64 m, .slice sa st.length sc, .slice ra ro.length rc], .int .i64 ((n + i : Nat) : Int)]) (by rfl) (by rfl) (by simp only [sev_tmp, sg_eq, sg_ne, sp_n, Nat.reduceLT, ne_eq, Nat.reduceEqDiff, not_false_eq_true, List.map_cons, List.map_nil, List.nil_append, List.append_nil, hn]) (Con.mono (at_ref hA.wf ((hs.nx hA0 (Nat.le_refl _)).mono (Nat.le_refl _) hA0.next) ((hr.nx hA0 (Nat.le_refl _)).mono (Nat.le_refl _) hA0.next) (n + i) ls hro lr (by omega)) ?_)
    rintro w B1 ⟨rfl, hy1⟩
    have hz1 : Nx B1.next B1 (B1.push (.cells #[.int .i64 (atL st ro (n + i))] 3)) := (Nx.refl hy1.wf _).push (Nat.le_refl _) _
    have lB2 := look_push_eq B1 (.cells #[.int .i64 (atL st ro (n + i))] 3)
    have hnB2 : (B1.push (.cells #[.int .i64 (atL st ro (n + i))] 3)).next = B1.next + 1 := rfl
    generalize eB2 : B1.push (.cells #[.int .i64 (atL st ro (n + i))] 3) = B2 at hz1 lB2 hnB2
    have hg2 : Gr B2 wa A1.next (takeL st ro n i) := (hg.nx (n := 0) hA.wf hy1).nx (n := 0) hy1.wf hz1
    obtain ⟨B3, q1, n3, w3, hg3, _, nx3⟩ := gr_push hz1.wf hg2 (a2 := some ⟨B1.next, 0, none⟩) (c2 := 1) (b2 := B1.next) (x := atL st ro (n + i)) rfl (by rw [cl_of lB2 rfl]; rfl) (by rw [takeL_len]; omega)
    rw [takeL_len] at q1
    have hsnoc : takeL st ro n i ++ [atL st ro (n + i)] = takeL st ro n (i + 1) := takeL_snoc st ro n i
    rw [hsnoc] at hg3
    have hyn := hy1.next
    refine Wo.run hc 3 rfl rfl rfl ?_
    simp (maxSteps := 2000000) only [List.drop_zero, List.drop_succ_cons, List.take_succ_cons, List.take_zero, sev_tmp, sg_eq, sg_ne, sp_n, Nat.reduceLT, ne_eq, Nat.reduceEqDiff, not_false_eq_true, gd, want_free, rops, fx, Option.some.injEq, exists_eq_left', Nat.reduceAdd, hn, bs22_1, isCell, eB2, ae_apd, apd_slice, q1]
    refine Wo.done hc rfl (hK _ _ ?_)
    clear hK
    (repeat (first | refine Rn.seq hc ?_ | refine Rn.skip hc ?_ | refine Rn.block hc ?_ | refine Rn.inBlock hc ?_ | refine Rn.scope hc ?_ | refine Rn.inScope hc ?_))
    have hA3 : Nx A1.next A1 B3 := hA.trans ((hy1.le hA.next).trans ((hz1.le (by omega)).trans (nx3.le (by omega))))
    refine Rn.reg hc rfl ?_
    simp only [sev_tmp, sev_const, sg_eq, sg_ne, sp_n, Nat.reduceLT, ne_eq, Nat.reduceEqDiff, not_false_eq_true, gd, want_free, rops, fx, bin_add, Option.some.injEq, exists_eq_left', hn, s8, wrap_succ (show i < 9223372036854775807 by omega)]
    (repeat (first | refine Rn.seq hc ?_ | refine Rn.skip hc ?_ | refine Rn.block hc ?_ | refine Rn.inBlock hc ?_ | refine Rn.scope hc ?_ | refine Rn.inScope hc ?_))
    exact ih _ _ _ (by omega) ⟨i + 1, _, by omega, rfl, hA3, hg3.mono (by omega), by simp only [sp_n, hn], by simp only [sg_ne, ne_eq, Nat.reduceEqDiff, not_false_eq_true, s1], by simp only [sg_ne, ne_eq, Nat.reduceEqDiff, not_false_eq_true, s2], by simp only [sg_ne, ne_eq, Nat.reduceEqDiff, not_false_eq_true, s3], by simp only [sg_eq, sg_ne, sp_n, Nat.reduceLT, ne_eq, Nat.reduceEqDiff, not_false_eq_true, hn], by simp only [sg_eq, sp_n, Nat.reduceLT, hn]⟩
  · have hd : decide ((i : Int) < (many : Int)) = false := decide_eq_false (by omega)
    have hil : i = many := by omega
    subst hil
    clear ih
    refine Rn.reg hc rfl ?_
    simp only [sev_tmp, sg_eq, sg_ne, sp_n, Nat.reduceLT, ne_eq, Nat.reduceEqDiff, not_false_eq_true, gd, want_free, rops, fx, bin_lss, Option.some.injEq, exists_eq_left', hn, s2, s8, hd]
    (repeat (first | refine Rn.seq hc ?_ | refine Rn.skip hc ?_ | refine Rn.block hc ?_ | refine Rn.inBlock hc ?_ | refine Rn.scope hc ?_ | refine Rn.inScope hc ?_))
    refine Rn.condE hc rfl ?_
    simp only [sev_tmp, sg_eq, sp_n, Nat.reduceLT, Value.bool.injEq, exists_eq_left', hn]
    (repeat (first | refine Rn.seq hc ?_ | refine Rn.skip hc ?_ | refine Rn.block hc ?_ | refine Rn.inBlock hc ?_ | refine Rn.scope hc ?_ | refine Rn.inScope hc ?_))
    refine Rn.exit hc rfl ?_
    (repeat (first | refine Rn.seq hc ?_ | refine Rn.skip hc ?_ | refine Rn.block hc ?_ | refine Rn.inBlock hc ?_ | refine Rn.scope hc ?_ | refine Rn.inScope hc ?_))
    refine Rn.reg hc rfl ?_
    simp only [sev_tmp, sg_eq, sg_ne, sp_n, Nat.reduceLT, ne_eq, Nat.reduceEqDiff, not_false_eq_true, gd, want_free, rops, fx, Option.some.injEq, exists_eq_left', hn, s7]
    (repeat (first | refine Rn.seq hc ?_ | refine Rn.skip hc ?_ | refine Rn.block hc ?_ | refine Rn.inBlock hc ?_ | refine Rn.scope hc ?_ | refine Rn.inScope hc ?_))
    refine Rn.ret (endQ_tmp rfl ⟨wa, ?_, hA0, hg.mono hx1.next⟩)
    simp only [sg_eq, sp_n, Nat.reduceLT, hn]

/-- The first elements, or the error. -/
def TakeQ (A : AHeap) (m : Int) (st ro : List Int) (n : Int) (v : Value) (A1 : AHeap) : Prop :=
  Nx A.next A A1 ∧ ∃ (a : Option Addr) (c : Nat) (L : List Int) (e : Int), v = .tuple #[.slice a L.length c, .int .i64 e] ∧ Ints A1 a A.next A1.next L ∧ Wrt A1 a A.next A1.next L.length ∧
    (errL m st ro ≠ 0 → L = [] ∧ e = errL m st ro) ∧ (errL m st ro = 0 → ¬ (0 ≤ n ∧ n ≤ 4096) → L = [] ∧ e = 3) ∧ (errL m st ro = 0 → 0 ≤ n ∧ n ≤ 4096 → L = takeL st ro 0 n.toNat ∧ e = 0)
theorem take_ref {A : AHeap} (hw : WF A) {m n : Int} {sa ra : Option Addr} {sc rc : Nat} {st ro : List Int} (hs : Ints A sa 0 A.next st) (hr : Ints A ra 0 A.next ro) (ls : st.length < 4611686018427387904) (lr : ro.length < 4611686018427387904) (hn63 : n < 9223372036854775808) :
    Con Try.prog 31 [.agg #[.int .i64 m, .slice sa st.length sc, .slice ra ro.length rc], .int .i64 n] A (TakeQ A m st ro n) := by
  refine con_of_rn hc Try.func31 rfl (Nat.le_of_ble_eq_true rfl) ?_
  obtain ⟨A1, e1, hx1, hn1, b0, b1, b2⟩ := box3 hw (.int .i64 m) (.slice sa st.length sc) (.slice ra ro.length rc) 24
  rw [s_in2]
  (repeat (first | refine Rn.seq hc ?_ | refine Rn.skip hc ?_ | refine Rn.block hc ?_ | refine Rn.inBlock hc ?_ | refine Rn.scope hc ?_ | refine Rn.inScope hc ?_))
  refine Rn.reg hc rfl ?_
  simp only [sev_tmp, sev_const, sg_eq, sg_ne, Nat.reduceLT, ne_eq, Nat.reduceEqDiff, not_false_eq_true, gd, want_free, rops, fx, Option.some.injEq, exists_eq_left', Value.cells, show Try.f31.ntmps = 21 from rfl, e1]
  (repeat (first | refine Rn.seq hc ?_ | refine Rn.skip hc ?_ | refine Rn.block hc ?_ | refine Rn.inBlock hc ?_ | refine Rn.scope hc ?_ | refine Rn.inScope hc ?_))
  refine Rn.region hc fun K hK => ?_
  refine Wo.run hc 1 rfl rfl rfl ?_
  simp (maxSteps := 2000000) only [List.drop_zero, List.take_succ_cons, List.take_zero, sev_tmp, sg_eq, sg_ne, sp_n, Nat.reduceLT, ne_eq, Nat.reduceEqDiff, not_false_eq_true, gd, want_free, rops, fx, ld, adr_p, cls, Nat.zero_add, Option.some.injEq, exists_eq_left', Nat.reduceAdd, tk24, b0, b1, b2]
  refine Wo.call hc (by rfl) (by rfl) ⟨by rfl, by rfl⟩ (xs := [.agg #[.int .i64 m, .slice sa st.length sc, .slice ra ro.length rc]]) (by rfl) (by rfl) (by rfl) (Con.mono (check_ref hx1.wf ((hs.nx hx1 (Nat.le_refl _)).mono (Nat.le_refl _) hx1.next) ((hr.nx hx1 (Nat.le_refl _)).mono (Nat.le_refl _) hx1.next) ls lr) ?_)
  rintro w A4 ⟨rfl, hx4⟩
  refine Wo.run hc 1 rfl rfl rfl ?_
  simp (maxSteps := 2000000) only [List.drop_zero, List.drop_succ_cons, List.take_succ_cons, List.take_zero, sev_tmp, sg_eq, sp_n, Nat.reduceLT, gd, want_free, rops, fx, Option.some.injEq, exists_eq_left', Nat.reduceAdd]
  refine Wo.done hc rfl (hK _ _ ?_)
  clear hK
  (repeat (first | refine Rn.seq hc ?_ | refine Rn.skip hc ?_ | refine Rn.block hc ?_ | refine Rn.inBlock hc ?_ | refine Rn.scope hc ?_ | refine Rn.inScope hc ?_))
  have b0 := (hx4.cl (show A.next < A1.next by omega) 0).trans b0
  have b1 := (hx4.cl (show A.next < A1.next by omega) 1).trans b1
  have b2 := (hx4.cl (show A.next < A1.next by omega) 2).trans b2
  have hx04 : Nx A.next A A4 := hx1.trans (hx4.le hx1.next)
  unfold TakeQ
  by_cases he : errL m st ro = 0
  · have hd : (!decide (errL m st ro = 0)) = false := by rw [decide_eq_true he]; rfl
    refine Rn.reg hc rfl ?_
    simp only [sev_tmp, sev_const, sg_eq, sp_n, Nat.reduceLT, ne_eq, gd, want_free, rops, fx, bin_neq, Option.some.injEq, exists_eq_left', hd]
    (repeat (first | refine Rn.seq hc ?_ | refine Rn.skip hc ?_ | refine Rn.block hc ?_ | refine Rn.inBlock hc ?_ | refine Rn.scope hc ?_ | refine Rn.inScope hc ?_))
    refine Rn.condE hc rfl ?_
    simp only [sev_tmp, sg_eq, sp_n, Nat.reduceLT, Value.bool.injEq, exists_eq_left']
    (repeat (first | refine Rn.seq hc ?_ | refine Rn.skip hc ?_ | refine Rn.block hc ?_ | refine Rn.inBlock hc ?_ | refine Rn.scope hc ?_ | refine Rn.inScope hc ?_))
    by_cases hneg : n < 0
    · have h1 : decide (n < 0) = true := decide_eq_true hneg
      refine Rn.reg hc rfl ?_
      simp only [sev_tmp, sev_const, sg_eq, sg_ne, sp_n, Nat.reduceLT, ne_eq, Nat.reduceEqDiff, not_false_eq_true, gd, nth, want_free, want_slot, beqB, rops, fx, pck, bin_lss, Option.some.injEq, exists_eq_left', h1]
      (repeat (first | refine Rn.seq hc ?_ | refine Rn.skip hc ?_ | refine Rn.block hc ?_ | refine Rn.inBlock hc ?_ | refine Rn.scope hc ?_ | refine Rn.inScope hc ?_))
      refine Rn.condE hc rfl ?_
      simp only [sev_tmp, sg_eq, sp_n, Nat.reduceLT, Value.bool.injEq, exists_eq_left']
      (repeat (first | refine Rn.seq hc ?_ | refine Rn.skip hc ?_ | refine Rn.block hc ?_ | refine Rn.inBlock hc ?_ | refine Rn.scope hc ?_ | refine Rn.inScope hc ?_))
      refine Rn.reg hc rfl ?_
      simp only [sev_const, gd, want_free, rops, fx, Option.some.injEq, exists_eq_left']
      (repeat (first | refine Rn.seq hc ?_ | refine Rn.skip hc ?_ | refine Rn.block hc ?_ | refine Rn.inBlock hc ?_ | refine Rn.scope hc ?_ | refine Rn.inScope hc ?_))
      refine Rn.ret (endQ_two rfl ⟨hx04, none, 0, [], 3, ?_, ints_nil' _ _ _ _, fun h0 => absurd h0 (by simp), fun h => absurd he h, fun _ _ => ⟨rfl, rfl⟩, fun _ h => by omega⟩)
      simp only [sg_eq, sg_ne, sp_n, Nat.reduceLT, ne_eq, Nat.reduceEqDiff, not_false_eq_true, List.length_nil]
    · have h1 : decide (n < 0) = false := decide_eq_false hneg
      by_cases hbig : 4096 < n
      · have h2 : decide (4096 < n) = true := decide_eq_true hbig
        refine Rn.reg hc rfl ?_
        simp only [sev_tmp, sev_const, sg_eq, sg_ne, sp_n, Nat.reduceLT, ne_eq, Nat.reduceEqDiff, not_false_eq_true, gd, nth, want_free, want_slot, beqB, rops, fx, pck, bin_lss, bin_gtr, Option.some.injEq, exists_eq_left', h1, h2]
        (repeat (first | refine Rn.seq hc ?_ | refine Rn.skip hc ?_ | refine Rn.block hc ?_ | refine Rn.inBlock hc ?_ | refine Rn.scope hc ?_ | refine Rn.inScope hc ?_))
        refine Rn.condE hc rfl ?_
        simp only [sev_tmp, sg_eq, sp_n, Nat.reduceLT, Value.bool.injEq, exists_eq_left']
        (repeat (first | refine Rn.seq hc ?_ | refine Rn.skip hc ?_ | refine Rn.block hc ?_ | refine Rn.inBlock hc ?_ | refine Rn.scope hc ?_ | refine Rn.inScope hc ?_))
        refine Rn.reg hc rfl ?_
        simp only [sev_const, gd, want_free, rops, fx, Option.some.injEq, exists_eq_left']
        (repeat (first | refine Rn.seq hc ?_ | refine Rn.skip hc ?_ | refine Rn.block hc ?_ | refine Rn.inBlock hc ?_ | refine Rn.scope hc ?_ | refine Rn.inScope hc ?_))
        refine Rn.ret (endQ_two rfl ⟨hx04, none, 0, [], 3, ?_, ints_nil' _ _ _ _, fun h0 => absurd h0 (by simp), fun h => absurd he h, fun _ _ => ⟨rfl, rfl⟩, fun _ h => by omega⟩)
        simp only [sg_eq, sg_ne, sp_n, Nat.reduceLT, ne_eq, Nat.reduceEqDiff, not_false_eq_true, List.length_nil]
      · have h2 : decide (4096 < n) = false := decide_eq_false hbig
        obtain ⟨k, rfl⟩ : ∃ k : Nat, n = (k : Int) := ⟨n.toNat, by omega⟩
        refine Rn.reg hc rfl ?_
        simp only [sev_tmp, sev_const, sg_eq, sg_ne, sp_n, Nat.reduceLT, ne_eq, Nat.reduceEqDiff, not_false_eq_true, gd, nth, want_free, want_slot, beqB, rops, fx, pck, bin_lss, bin_gtr, Option.some.injEq, exists_eq_left', h1, h2]
        (repeat (first | refine Rn.seq hc ?_ | refine Rn.skip hc ?_ | refine Rn.block hc ?_ | refine Rn.inBlock hc ?_ | refine Rn.scope hc ?_ | refine Rn.inScope hc ?_))
        refine Rn.condE hc rfl ?_
        simp only [sev_tmp, sg_eq, sp_n, Nat.reduceLT, Value.bool.injEq, exists_eq_left']
        (repeat (first | refine Rn.seq hc ?_ | refine Rn.skip hc ?_ | refine Rn.block hc ?_ | refine Rn.inBlock hc ?_ | refine Rn.scope hc ?_ | refine Rn.inScope hc ?_))
        refine Rn.region hc fun K hK => ?_
        refine Wo.run hc 2 rfl rfl rfl ?_
        simp (maxSteps := 2000000) only [List.drop_zero, List.take_succ_cons, List.take_zero, sev_tmp, sg_eq, sg_ne, sp_n, Nat.reduceLT, ne_eq, Nat.reduceEqDiff, not_false_eq_true, gd, want_free, rops, fx, ld, adr_p, cls, Nat.zero_add, Option.some.injEq, exists_eq_left', Nat.reduceAdd, tk24, b0, b1, b2]
        refine Wo.call hc (by rfl) (by rfl) ⟨by rfl, by rfl⟩ (xs := [.agg #[.int .i64 m, .slice sa st.length sc, .slice ra ro.length rc], .int .i64 ((0 : Nat) : Int), .int .i64 (k : Int)]) (by rfl) (by rfl) (by rfl) (Con.mono (first_ref hx4.wf ((hs.nx hx04 (Nat.le_refl _)).mono (Nat.le_refl _) hx04.next) ((hr.nx hx04 (Nat.le_refl _)).mono (Nat.le_refl _) hx04.next) ls lr (errL_pos he) (n := 0) (many := k) (by omega) (by omega)) ?_)
        rintro w A5 ⟨a, rfl, hx5, hg⟩
        refine Wo.run hc 2 rfl rfl rfl ?_
        simp (maxSteps := 2000000) only [List.drop_zero, List.drop_succ_cons, List.take_succ_cons, List.take_zero, sev_tmp, sev_const, sg_eq, sp_n, Nat.reduceLT, gd, want_free, rops, fx, Option.some.injEq, exists_eq_left', Nat.reduceAdd]
        refine Wo.done hc rfl (hK _ _ ?_)
        clear hK
        (repeat (first | refine Rn.seq hc ?_ | refine Rn.skip hc ?_ | refine Rn.block hc ?_ | refine Rn.inBlock hc ?_ | refine Rn.scope hc ?_ | refine Rn.inScope hc ?_))
        have hg := hg.mono hx04.next
        refine Rn.ret (endQ_two rfl ⟨hx04.trans (hx5.le hx04.next), a, k, takeL st ro 0 k, 0, ?_, hg.ints, hg.wrt, fun h => absurd he h, fun _ h => by omega, fun _ _ => ⟨rfl, rfl⟩⟩)
        simp only [sg_eq, sg_ne, sp_n, Nat.reduceLT, ne_eq, Nat.reduceEqDiff, not_false_eq_true, takeL_len]
  · have hd : (!decide (errL m st ro = 0)) = true := by rw [decide_eq_false he]; rfl
    refine Rn.reg hc rfl ?_
    simp only [sev_tmp, sev_const, sg_eq, sp_n, Nat.reduceLT, ne_eq, gd, want_free, rops, fx, bin_neq, Option.some.injEq, exists_eq_left', hd]
    (repeat (first | refine Rn.seq hc ?_ | refine Rn.skip hc ?_ | refine Rn.block hc ?_ | refine Rn.inBlock hc ?_ | refine Rn.scope hc ?_ | refine Rn.inScope hc ?_))
    refine Rn.condE hc rfl ?_
    simp only [sev_tmp, sg_eq, sp_n, Nat.reduceLT, Value.bool.injEq, exists_eq_left']
    (repeat (first | refine Rn.seq hc ?_ | refine Rn.skip hc ?_ | refine Rn.block hc ?_ | refine Rn.inBlock hc ?_ | refine Rn.scope hc ?_ | refine Rn.inScope hc ?_))
    refine Rn.reg hc rfl ?_
    simp only [sev_tmp, sev_const, sg_eq, sg_ne, sp_n, Nat.reduceLT, ne_eq, Nat.reduceEqDiff, not_false_eq_true, gd, want_free, rops, fx, Option.some.injEq, exists_eq_left']
    (repeat (first | refine Rn.seq hc ?_ | refine Rn.skip hc ?_ | refine Rn.block hc ?_ | refine Rn.inBlock hc ?_ | refine Rn.scope hc ?_ | refine Rn.inScope hc ?_))
    refine Rn.ret (endQ_two rfl ⟨hx04, none, 0, [], errL m st ro, ?_, ints_nil' _ _ _ _, fun h0 => absurd h0 (by simp), fun _ => ⟨rfl, rfl⟩, fun h => absurd h he, fun h => absurd h he⟩)
    simp only [sg_eq, sg_ne, sp_n, Nat.reduceLT, ne_eq, Nat.reduceEqDiff, not_false_eq_true, List.length_nil]
end Go.Proofs.Ytdaljohmfnfgiaa
/- So many elements of a stream, wide; the program's Take. No condition. -/
namespace Go.Proofs.Ytdaljohmfnfgiaa
open Go Go.RowKit Go.Proofs.Ytdaljohmfnfgiaa.Canon
set_option maxRecDepth 20000


theorem Wrt.mono {A : AHeap} {a : Option Addr} {lo lo' hi n : Nat} (h : Wrt A a lo hi n) (hl : lo' ≤ lo) : Wrt A a lo' hi n := fun hpos => by
  obtain ⟨b, o, c, t, f, g, e, h1, h2, h3⟩ := h hpos
  exact ⟨b, o, c, t, f, g, e, h1, ⟨Nat.le_trans hl h2.1, h2.2⟩, h3⟩
theorem mkD_wide {A : AHeap} {n : Nat} (h : n ≤ 5000) : mkD (.int .i64 (n : Int)) A = some (.slice (some ⟨A.next, 0, none⟩) 0 n, A.push (.cells (Array.replicate n (.int .i64 0)) 3)) :=
  ae_makeSlice (k := .i64) (k' := .i64) ⟨by rfl, by rfl⟩ el22 ze3 rfl (by rfl) rfl (by omega) (by omega) (by omega)
theorem take_wide {A : AHeap} (hw : WF A) {m : Int} {sa ra : Option Addr} {sc rc : Nat} {st ro : List Int} (hs : Ints A sa 0 A.next st) (hr : Ints A ra 0 A.next ro) (ls : st.length < 1000) (lr : ro.length < 1000) (hro : 0 < ro.length) {n many : Nat} (hm : many ≤ 5000) (hn : n < 100000) :
    Con Try.prog 78 [.agg #[.int .i64 m, .slice sa st.length sc, .slice ra ro.length rc], .int .i64 (n : Int), .int .i64 (many : Int)] A
      (fun v A1 => ∃ a', v = .slice a' many many ∧ Nx A.next A A1 ∧ Ints A1 a' A.next A1.next (takeL st ro n many) ∧ Wrt A1 a' A.next A1.next many ∧ Sl A1 a' A.next) := by
  refine con_of_rn hc Try.func78 rfl (Nat.le_of_ble_eq_true rfl) ?_
  obtain ⟨A1, e1, hx1, hn1, b0, b1, b2⟩ := box3 hw (.int .i64 m) (.slice sa st.length sc) (.slice ra ro.length rc) 86
  have hx2 : Nx A1.next A1 (A1.push (.cells #[.int .i64 (many : Int)] 3)) := (Nx.refl hx1.wf _).push (Nat.le_refl _) _
  have b5 : cl (A1.push (.cells #[.int .i64 (many : Int)] 3)) A1.next 0 = some (.int .i64 (many : Int)) := by rw [cl_push_eq]; rfl
  have hn2 : (A1.push (.cells #[.int .i64 (many : Int)] 3)).next = A1.next + 1 := rfl
  generalize e2 : A1.push (.cells #[.int .i64 (many : Int)] 3) = A2 at hx2 b5 hn2
  have hx3 : Nx A2.next A2 (A2.push (.cells (Array.replicate many (.int .i64 0)) 3)) := (Nx.refl hx2.wf _).push (Nat.le_refl _) _
  have l3 := look_push_eq A2 (.cells (Array.replicate many (.int .i64 0)) 3)
  have hn3 : (A2.push (.cells (Array.replicate many (.int .i64 0)) 3)).next = A2.next + 1 := rfl
  generalize e3 : A2.push (.cells (Array.replicate many (.int .i64 0)) 3) = A3 at hx3 l3 hn3
  have hx4 : Nx A3.next A3 (A3.push (.cells #[.slice none 0 0] 22)) := (Nx.refl hx3.wf _).push (Nat.le_refl _) _
  have l4 := look_push_eq A3 (.cells #[.slice none 0 0] 22)
  have hn4 : (A3.push (.cells #[.slice none 0 0] 22)).next = A3.next + 1 := rfl
  generalize e4 : A3.push (.cells #[.slice none 0 0] 22) = A4 at hx4 l4 hn4
  obtain ⟨A5, q1, q2⟩ := st1_upd (o := 0) (v := .slice (some ⟨A2.next, 0, none⟩) 0 many) l4 rfl (by simp) rfl
  have l5 : Canon.look A5.objs A3.next = some ⟨.cells #[.slice (some ⟨A2.next, 0, none⟩) 0 many] 22, false, 0⟩ := by
    obtain ⟨c, t, f, g, e, r1, r2, _⟩ := q2.at'
    rw [l4] at r1
    cases r1
    exact r2
  have hx5 : Nx A3.next A3 A5 := hx4.trans (q2.nx hx4.wf (Nat.le_refl _))
  have hn5 : A5.next = A4.next := q2.next
  have hx05 : Nx A.next A A5 := (hx1.trans (hx2.le hx1.next)).trans ((hx3.le (by omega)).trans (hx5.le (by omega)))
  have d7 : cl A5 A3.next 0 = some (.slice (some ⟨A2.next, 0, none⟩) 0 many) := by rw [cl_of l5 rfl]; rfl
  have d5 : cl A5 A1.next 0 = some (.int .i64 (many : Int)) := by rw [hx5.cl (by omega), hx3.cl (by omega)]; exact b5
  have dR : Canon.look A5.objs A2.next = some ⟨.cells (Array.replicate many (.int .i64 0)) 3, false, 0⟩ := by rw [hx5.keep _ (by omega)]; exact l3
  have d0 : cl A5 A.next 0 = some (.int .i64 m) := by rw [hx5.cl (by omega), hx3.cl (by omega), hx2.cl (by omega)]; exact b0
  have d1 : cl A5 A.next 1 = some (.slice sa st.length sc) := by rw [hx5.cl (by omega), hx3.cl (by omega), hx2.cl (by omega)]; exact b1
  have d2 : cl A5 A.next 2 = some (.slice ra ro.length rc) := by rw [hx5.cl (by omega), hx3.cl (by omega), hx2.cl (by omega)]; exact b2
  rw [s_in3]
  (repeat (first | refine Rn.seq hc ?_ | refine Rn.skip hc ?_ | refine Rn.block hc ?_ | refine Rn.inBlock hc ?_ | refine Rn.scope hc ?_ | refine Rn.inScope hc ?_))
  refine Rn.reg hc rfl ?_
  simp only [sev_tmp, sev_const, sg_eq, sg_ne, sp_n, Nat.reduceLT, ne_eq, Nat.reduceEqDiff, not_false_eq_true, gd, want_free, rops, fx, Option.some.injEq, exists_eq_left', Value.cells, show Try.f78.ntmps = 27 from rfl, e1, e2]
  (repeat (first | refine Rn.seq hc ?_ | refine Rn.skip hc ?_ | refine Rn.block hc ?_ | refine Rn.inBlock hc ?_ | refine Rn.scope hc ?_ | refine Rn.inScope hc ?_))
  refine Rn.reg hc rfl ?_
  simp only [sev_tmp, sg_eq, sg_ne, sp_n, sp_none, Nat.reduceLT, ne_eq, Nat.reduceEqDiff, not_false_eq_true, gd, want_free, rops, fx, ld, str, adr_p, Option.some.injEq, exists_eq_left', Value.cells, tk3, tk22, b5, ae_mkD, mkD_wide hm, e3, ze22, e4, q1]
  (repeat (first | refine Rn.seq hc ?_ | refine Rn.skip hc ?_ | refine Rn.block hc ?_ | refine Rn.inBlock hc ?_ | refine Rn.scope hc ?_ | refine Rn.inScope hc ?_))
  by_cases h0 : many = 0
  · subst h0
    refine Rn.reg hc rfl ?_
    simp only [sev_tmp, sev_const, sg_eq, sg_ne, sp_n, Nat.reduceLT, ne_eq, Nat.reduceEqDiff, not_false_eq_true, gd, want_free, rops, fx, ld, bin_eql, adr_p, Option.some.injEq, exists_eq_left', tk3, d5, show decide (((0 : Nat) : Int) = 0) = true from rfl]
    (repeat (first | refine Rn.seq hc ?_ | refine Rn.skip hc ?_ | refine Rn.block hc ?_ | refine Rn.inBlock hc ?_ | refine Rn.scope hc ?_ | refine Rn.inScope hc ?_))
    refine Rn.condE hc rfl ?_
    simp only [sev_tmp, sg_eq, sp_n, Nat.reduceLT, Value.bool.injEq, exists_eq_left']
    (repeat (first | refine Rn.seq hc ?_ | refine Rn.skip hc ?_ | refine Rn.block hc ?_ | refine Rn.inBlock hc ?_ | refine Rn.scope hc ?_ | refine Rn.inScope hc ?_))
    refine Rn.reg hc rfl ?_
    simp only [sev_tmp, sg_eq, sg_ne, sp_n, Nat.reduceLT, ne_eq, Nat.reduceEqDiff, not_false_eq_true, gd, want_free, rops, fx, ld, adr_p, Option.some.injEq, exists_eq_left', tk22, d7]
    (repeat (first | refine Rn.seq hc ?_ | refine Rn.skip hc ?_ | refine Rn.block hc ?_ | refine Rn.inBlock hc ?_ | refine Rn.scope hc ?_ | refine Rn.inScope hc ?_))
    refine Rn.ret (endQ_tmp rfl ⟨some ⟨A2.next, 0, none⟩, ?_, hx05, fun i hi => ?_, fun h => by omega, fun y hy => by cases hy; exact ⟨rfl, show A.next ≤ A2.next by omega, _, dR, .inl rfl⟩⟩)
    · simp only [sg_eq, sp_n, Nat.reduceLT]
    · rw [takeL_len] at hi; omega
  · have hd : decide ((many : Int) = 0) = false := by simp; omega
    refine Rn.reg hc rfl ?_
    simp only [sev_tmp, sev_const, sg_eq, sg_ne, sp_n, Nat.reduceLT, ne_eq, Nat.reduceEqDiff, not_false_eq_true, gd, want_free, rops, fx, ld, bin_eql, adr_p, Option.some.injEq, exists_eq_left', tk3, d5, hd]
    (repeat (first | refine Rn.seq hc ?_ | refine Rn.skip hc ?_ | refine Rn.block hc ?_ | refine Rn.inBlock hc ?_ | refine Rn.scope hc ?_ | refine Rn.inScope hc ?_))
    refine Rn.condE hc rfl ?_
    simp only [sev_tmp, sg_eq, sp_n, Nat.reduceLT, Value.bool.injEq, exists_eq_left']
    (repeat (first | refine Rn.seq hc ?_ | refine Rn.skip hc ?_ | refine Rn.block hc ?_ | refine Rn.inBlock hc ?_ | refine Rn.scope hc ?_ | refine Rn.inScope hc ?_))
    refine Rn.region hc fun K hK => ?_
    refine Wo.run hc 2 rfl rfl rfl ?_
    simp (maxSteps := 2000000) only [List.drop_zero, List.take_succ_cons, List.take_zero, sev_tmp, sg_eq, sg_ne, sp_n, Nat.reduceLT, ne_eq, Nat.reduceEqDiff, not_false_eq_true, gd, want_free, rops, fx, ld, adr_p, cls, Nat.zero_add, Option.some.injEq, exists_eq_left', Nat.reduceAdd, tk86, d0, d1, d2]
    refine Wo.call hc (by rfl) (by rfl) ⟨by rfl, by rfl⟩ (xs := [.agg #[.int .i64 m, .slice sa st.length sc, .slice ra ro.length rc], .int .i64 (n : Int)]) (by rfl) (by rfl) (by rfl) (Con.mono (elements_of hx05.wf ((hs.nx hx05 (Nat.le_refl _)).mono (Nat.le_refl _) hx05.next) ((hr.nx hx05 (Nat.le_refl _)).mono (Nat.le_refl _) hx05.next) n) ?_)
    rintro w A6 ⟨rfl, hn6, hx6, hS6⟩
    refine Wo.done hc rfl (hK _ _ ?_)
    clear hK
    (repeat (first | refine Rn.seq hc ?_ | refine Rn.skip hc ?_ | refine Rn.block hc ?_ | refine Rn.inBlock hc ?_ | refine Rn.scope hc ?_ | refine Rn.inScope hc ?_))
    refine Rn.rangeR hc (by rfl) (g := 113) (first := #[]) (captured := #[.pointer (some ⟨A5.next, 0, none⟩), .pointer (some ⟨A5.next + 1, 0, none⟩)]) (by simp only [sev_tmp, sg_eq, sp_n, Nat.reduceLT]) ?_
    intro r hst hpd hfn htm hps hasg hbd
    have g7 := look_push_eq (A6.push (.deferred (some []))) (.loop r)
    have g6 : Canon.look ((A6.push (.deferred (some []))).push (.loop r)).objs A6.next = some ⟨.deferred (some []), false, 0⟩ := by
      rw [look_push_ne (show (A6.push (.deferred (some []))).next ≠ A6.next by rw [push_next]; omega)]
      exact look_push_eq _ _
    have hx7 : Nx A6.next A6 ((A6.push (.deferred (some []))).push (.loop r)) := ((Nx.refl hx6.wf _).push (Nat.le_refl _) _).push (Nat.le_refl _) _
    have hn7 : ((A6.push (.deferred (some []))).push (.loop r)).next = A6.next + 2 := rfl
    rw [push_next] at g7
    generalize e7 : (A6.push (.deferred (some []))).push (.loop r) = A7 at g6 g7 hx7 hn7
    have hx57 : Nx A5.next A5 A7 := hx6.trans (hx7.le (by omega))
    obtain ⟨Φ, hΦ⟩ : ∃ Φ : Nat → AHeap → Prop, ∀ i B, Φ i B ↔ ((∃ c, Canon.look B.objs A2.next = some ⟨.cells c 3, false, 0⟩ ∧ c.size = many ∧ ∀ k, k < i → c[k]? = some (.int .i64 (atL st ro (n + k)))) ∧ Canon.look B.objs A3.next = some ⟨.cells #[.slice (some ⟨A2.next, 0, none⟩) i many] 22, false, 0⟩ ∧ cl B A1.next 0 = some (.int .i64 (many : Int)) ∧
      Canon.look B.objs A6.next = some ⟨.deferred (some []), false, 0⟩ ∧ Canon.look B.objs (A6.next + 1) = some ⟨.loop r, false, 0⟩ ∧ A7.next ≤ B.next ∧ ∀ b, b < A.next → Canon.look B.objs b = Canon.look A.objs b) := ⟨_, fun _ _ => Iff.rfl⟩
    obtain ⟨Fin, hFin⟩ : ∃ Fin : AHeap → Prop, ∀ B, Fin B ↔ (WF B ∧ (∃ c, Canon.look B.objs A2.next = some ⟨.cells c 3, false, 0⟩ ∧ c.size = many ∧ ∀ k, k < many → c[k]? = some (.int .i64 (atL st ro (n + k)))) ∧ Canon.look B.objs A3.next = some ⟨.cells #[.slice (some ⟨A2.next, 0, none⟩) many many] 22, false, 0⟩ ∧
      Canon.look B.objs A6.next = some ⟨.deferred (some []), false, 0⟩ ∧ (∃ r', Canon.look B.objs (A6.next + 1) = some ⟨.loop r', false, 0⟩ ∧ (r'.state == .busy) = false ∧ r'.pending = some (.exit 0)) ∧ A7.next ≤ B.next ∧ ∀ b, b < A.next → Canon.look B.objs b = Canon.look A.objs b) := ⟨_, fun _ => Iff.rfl⟩
    have hkeep : ∀ i B C, Φ i B → Kb (A5.next + 1) B C → Φ i C := fun i B C h k => by
      rw [hΦ] at h ⊢
      obtain ⟨⟨c, h1, h2, h3⟩, h4, h5, h6, h7, h8, h9⟩ := h
      exact ⟨⟨c, by rw [k.keep _ (by omega) (by omega)]; exact h1, h2, h3⟩, by rw [k.keep _ (by omega) (by omega)]; exact h4, by rw [k.cl (by omega) (by omega)]; exact h5, by rw [k.keep _ (by omega) (by omega)]; exact h6, by rw [k.keep _ (by omega) (by omega)]; exact h7, Nat.le_trans h8 k.next, fun b hb => by rw [k.keep _ (by omega) (by omega)]; exact h9 b hb⟩
    have hΦ0 : Φ 0 A7 := by
      rw [hΦ]
      refine ⟨⟨_, by rw [hx57.keep _ (by omega)]; exact dR, by simp, fun k hk => by omega⟩, by rw [hx57.keep _ (by omega)]; exact l5, by rw [hx57.cl (by omega)]; exact d5, g6, g7, Nat.le_refl _, fun b hb => by rw [hx57.keep _ (by omega), hx05.keep _ (by omega)]⟩
    have hS7 : Src A5.next (A5.next + 1) m sa sc st ra rc ro A.next n A7 := ⟨hx7.wf, by omega, by rw [hx7.cl (by omega)]; exact hS6.s0, by rw [hx7.cl (by omega)]; exact hS6.s1, by rw [hx7.cl (by omega)]; exact hS6.s2, by rw [hx7.keep _ (by omega)]; exact hS6.at', (hs.nx hx05 (Nat.le_refl _)).nx (hx57.le (by omega)) (Nat.le_refl _), (hr.nx hx05 (Nat.le_refl _)).nx (hx57.le (by omega)) (Nat.le_refl _)⟩
    refine Con.mono (Q := fun _ B => Fin B) (elements_run (Φ := Φ) (Fin := Fin) (l := A6.next + 1) (many := many) (n := n) (by omega) (by omega) hro ls lr (by omega) hkeep ?_ hΦ0 hS7 (by omega)) ?_
    · intro i n' B hi hB hSB
      rw [hΦ] at hB
      obtain ⟨⟨c, h1, h2, h3⟩, h4, h5, h6, h7, h8, h9⟩ := hB
      have hwB := hSB.wf
      refine ycon_of_rn hc (obj_of h7 rfl) (by rw [hps]; rfl) (s0 := sput _ (some 17) (.int .i64 (atL st ro (n + i)))) (by rw [hps, htm, zip1]; exact (sput_eq _ (some 17) _).symm) ?_
      rw [hfn, hasg, hbd]
      (repeat (first | refine Rn.seq hc ?_ | refine Rn.skip hc ?_ | refine Rn.block hc ?_ | refine Rn.inBlock hc ?_ | refine Rn.scope hc ?_ | refine Rn.inScope hc ?_))
      refine Rn.reg hc rfl ?_
      simp only [sev_tmp, sg_eq, sp_n, Nat.reduceLT, gd, want_free, rops, fx, Option.some.injEq, exists_eq_left']
      (repeat (first | refine Rn.seq hc ?_ | refine Rn.skip hc ?_ | refine Rn.block hc ?_ | refine Rn.inBlock hc ?_ | refine Rn.scope hc ?_ | refine Rn.inScope hc ?_))
      obtain ⟨B1, f1, fn1, fw1, fl1, fk1⟩ := put_facts (o := .loop { r with state := .busy }) hwB h7
      refine Rn.begin hc (A1 := B1) (by rw [begin_run (obj_of h7 rfl) hst, f1]) ?_
      have hxB2 : Nx B1.next B1 (B1.push (.cells #[.int .i64 (atL st ro (n + i))] 3)) := (Nx.refl fw1 _).push (Nat.le_refl _) _
      have lB2 := look_push_eq B1 (.cells #[.int .i64 (atL st ro (n + i))] 3)
      have hnB2 : (B1.push (.cells #[.int .i64 (atL st ro (n + i))] 3)).next = B1.next + 1 := rfl
      generalize eB2 : B1.push (.cells #[.int .i64 (atL st ro (n + i))] 3) = B2 at hxB2 lB2 hnB2
      have k2 : ∀ b, b ≠ A6.next + 1 → b < A7.next → Canon.look B2.objs b = Canon.look B.objs b := fun b hb hb2 => by rw [hxB2.keep _ (by omega), fk1 _ hb]
      obtain ⟨B3, c3, u1, u2, u3, u4⟩ := sts_upd (A := B2) (b := A2.next) (o := i) (l := [.int .i64 (atL st ro (n + i))]) (by rw [k2 _ (by omega) (by omega)]; exact h1) rfl (by simp; omega) rfl
      have l3' : Canon.look B3.objs A3.next = some ⟨.cells #[.slice (some ⟨A2.next, 0, none⟩) i many] 22, false, 0⟩ := by rw [u2.off _ (by omega), k2 _ (by omega) (by omega)]; exact h4
      obtain ⟨B4, w1, w2⟩ := st1_upd (o := 0) (v := .slice (some ⟨A2.next, 0, none⟩) (i + 1) many) l3' rfl (by simp) rfl
      have happ := aapp_room (P := Try.prog) (A := B2) (A1 := B3) (st := 22) (tx := 22) (b := A2.next) (o := 0) (a2 := some ⟨B1.next, 0, none⟩) (n := i) (c := many) (m := 1) (c2 := 1) (l2 := [.int .i64 (atL st ro (n + i))]) el22 un22
        (.inr ⟨_, _, rfl, fun j hj => by have : j = 0 := by simp at hj; omega
                                         subst this
                                         rw [cl_of lB2 rfl]; rfl⟩) rfl rfl (fun h => by cases h) (by omega) (by rw [Nat.zero_add]; exact u1)
      have d7' : cl B1 A3.next 0 = some (.slice (some ⟨A2.next, 0, none⟩) i many) := by rw [cl_look (fk1 _ (by omega)), cl_of h4 rfl]; rfl
      (repeat (first | refine Rn.seq hc ?_ | refine Rn.skip hc ?_ | refine Rn.block hc ?_ | refine Rn.inBlock hc ?_ | refine Rn.scope hc ?_ | refine Rn.inScope hc ?_))
      refine Rn.reg hc rfl ?_
      simp only [sev_tmp, sg_eq, sg_ne, sp_n, sp_none, Nat.reduceLT, ne_eq, Nat.reduceEqDiff, not_false_eq_true, gd, want_free, rops, fx, ld, str, adr_p, Option.some.injEq, exists_eq_left', tk22, d7', bs22_1, isCell, eB2, ae_apd, apd_slice, happ, w1]
      (repeat (first | refine Rn.seq hc ?_ | refine Rn.skip hc ?_ | refine Rn.block hc ?_ | refine Rn.inBlock hc ?_ | refine Rn.scope hc ?_ | refine Rn.inScope hc ?_))
      have l4' : Canon.look B4.objs A3.next = some ⟨.cells #[.slice (some ⟨A2.next, 0, none⟩) (i + 1) many] 22, false, 0⟩ := by
        obtain ⟨c, t, f, g, e, r1, r2, _⟩ := w2.at'
        rw [l3'] at r1
        cases r1
        exact r2
      have lR' : Canon.look B4.objs A2.next = some ⟨.cells c3 3, false, 0⟩ := by
        obtain ⟨c', t, f, g, e, r1, r2, _⟩ := u2.at'
        rw [k2 _ (by omega) (by omega), h1] at r1
        cases r1
        rw [w2.off _ (by omega)]
        exact r2
      have k4 : ∀ b, b ≠ A6.next + 1 → b ≠ A2.next → b ≠ A3.next → b < A7.next → Canon.look B4.objs b = Canon.look B.objs b := fun b q1 q2 q3 q4 => by rw [w2.off _ q3, u2.off _ q2, k2 _ q1 q4]
      have lL' : Canon.look B4.objs (A6.next + 1) = some ⟨.loop { r with state := .busy }, false, 0⟩ := by rw [w2.off _ (by omega), u2.off _ (by omega), hxB2.keep _ (by omega)]; exact fl1
      have nB4 : B4.next = B.next + 1 := by rw [w2.next, u2.next, hnB2, fn1]
      have wB4 : WF B4 := (w2.nx (u2.nx hxB2.wf (Nat.zero_le _)).wf (Nat.zero_le _)).wf
      have d7'' : cl B4 A3.next 0 = some (.slice (some ⟨A2.next, 0, none⟩) (i + 1) many) := by rw [cl_of l4' rfl]; rfl
      have d5'' : cl B4 A1.next 0 = some (.int .i64 (many : Int)) := by rw [cl_look (k4 _ (by omega) (by omega) (by omega) (by omega))]; exact h5
      have hc3 : ∀ k, k < i + 1 → c3[k]? = some (.int .i64 (atL st ro (n + k))) := fun k hk => by
        rw [u4]
        by_cases hki : k = i
        · subst hki
          rw [if_pos ⟨Nat.le_refl _, by simp⟩]
          simp
        · rw [if_neg (by simp; omega)]
          exact h3 k (by omega)
      by_cases hlast : i + 1 = many
      · have hd2 : decide (((i + 1 : Nat) : Int) = (many : Int)) = true := by simp; omega
        refine Rn.reg hc rfl ?_
        simp only [sev_tmp, sg_eq, sg_ne, sp_n, Nat.reduceLT, ne_eq, Nat.reduceEqDiff, not_false_eq_true, gd, want_free, rops, fx, ld, lng, bin_eql, adr_p, Option.some.injEq, exists_eq_left', tk3, tk22, un22, d7'', d5'', hd2]
        (repeat (first | refine Rn.seq hc ?_ | refine Rn.skip hc ?_ | refine Rn.block hc ?_ | refine Rn.inBlock hc ?_ | refine Rn.scope hc ?_ | refine Rn.inScope hc ?_))
        refine Rn.condE hc rfl ?_
        simp only [sev_tmp, sg_eq, sp_n, Nat.reduceLT, Value.bool.injEq, exists_eq_left']
        (repeat (first | refine Rn.seq hc ?_ | refine Rn.skip hc ?_ | refine Rn.block hc ?_ | refine Rn.inBlock hc ?_ | refine Rn.scope hc ?_ | refine Rn.inScope hc ?_))
        refine Rn.exitOut (by rfl) ?_
        obtain ⟨B5, p1, p2, p3, p4, p5⟩ := put_facts (o := .loop { r with state := .done, pending := some (.exit 0) }) wB4 lL'
        refine ⟨_, B5, (endRound_run (obj_of lL' rfl) _).trans (by rw [← p1]; rfl), ?_⟩
        rw [if_pos hlast]
        refine ⟨rfl, ?_⟩
        rw [hFin]
        refine ⟨p3, ⟨c3, by rw [p5 _ (by omega)]; exact lR', by rw [u3]; exact h2, fun k hk => hc3 k (by omega)⟩, by rw [p5 _ (by omega), l4', hlast], by rw [p5 _ (by omega), k4 _ (by omega) (by omega) (by omega) (by omega)]; exact h6, ⟨_, p4, rfl, rfl⟩, by omega, fun b hb => by rw [p5 _ (by omega), k4 _ (by omega) (by omega) (by omega) (by omega)]; exact h9 b hb⟩
      · have hd2 : decide (((i + 1 : Nat) : Int) = (many : Int)) = false := by simp; omega
        refine Rn.reg hc rfl ?_
        simp only [sev_tmp, sg_eq, sg_ne, sp_n, Nat.reduceLT, ne_eq, Nat.reduceEqDiff, not_false_eq_true, gd, want_free, rops, fx, ld, lng, bin_eql, adr_p, Option.some.injEq, exists_eq_left', tk3, tk22, un22, d7'', d5'', hd2]
        (repeat (first | refine Rn.seq hc ?_ | refine Rn.skip hc ?_ | refine Rn.block hc ?_ | refine Rn.inBlock hc ?_ | refine Rn.scope hc ?_ | refine Rn.inScope hc ?_))
        refine Rn.condE hc rfl ?_
        simp only [sev_tmp, sg_eq, sp_n, Nat.reduceLT, Value.bool.injEq, exists_eq_left']
        (repeat (first | refine Rn.seq hc ?_ | refine Rn.skip hc ?_ | refine Rn.block hc ?_ | refine Rn.inBlock hc ?_ | refine Rn.scope hc ?_ | refine Rn.inScope hc ?_))
        obtain ⟨B5, p1, p2, p3, p4, p5⟩ := put_facts (o := .loop { r with state := .ready, pending := none }) wB4 lL'
        refine Rn.fall ⟨_, B5, (endRound_run (obj_of lL' rfl) _).trans (by rw [← p1]; rfl), ?_⟩
        rw [if_neg hlast]
        refine ⟨rfl, ?_, ?_⟩
        · rw [hΦ]
          refine ⟨⟨c3, by rw [p5 _ (by omega)]; exact lR', by rw [u3]; exact h2, hc3⟩, by rw [p5 _ (by omega)]; exact l4', by rw [cl_look (p5 _ (by omega))]; exact d5'', by rw [p5 _ (by omega), k4 _ (by omega) (by omega) (by omega) (by omega)]; exact h6, by rw [p4, loop_back hst hpd], by omega, fun b hb => by rw [p5 _ (by omega), k4 _ (by omega) (by omega) (by omega) (by omega)]; exact h9 b hb⟩
        · have hS : ∀ b, b ≠ A6.next + 1 → b ≠ A2.next → b ≠ A3.next → b < A7.next → Canon.look B5.objs b = Canon.look B.objs b := fun b q1 q2 q3 q4 => by rw [p5 _ q1, k4 _ q1 q2 q3 q4]
          have hI : ∀ {a : Option Addr} {l : List Int}, Ints B a 0 A.next l → Ints B5 a 0 A.next l := fun h j hj => by
            obtain ⟨b, o, t1, t2, t3, t4⟩ := h j hj
            exact ⟨b, o, t1, t2, t3, by rw [cl_look (hS _ (by omega) (by omega) (by omega) (by omega))]; exact t4⟩
          exact ⟨p3, by omega, by rw [cl_look (hS _ (by omega) (by omega) (by omega) (by omega))]; exact hSB.s0, by rw [cl_look (hS _ (by omega) (by omega) (by omega) (by omega))]; exact hSB.s1, by rw [cl_look (hS _ (by omega) (by omega) (by omega) (by omega))]; exact hSB.s2, by rw [hS _ (by omega) (by omega) (by omega) (by omega)]; exact hSB.at', hI hSB.st', hI hSB.ro'⟩
    · intro v B hB
      rw [hFin] at hB
      obtain ⟨hwB, ⟨c, h1, h2, h3⟩, h4, h6, ⟨r', h7, h71, h72⟩, h8, h9⟩ := hB
      refine ⟨_, _, endLoop_run (obj_of h7 rfl) h71, ?_⟩
      rw [h72]
      clear hΦ hFin hkeep hΦ0 hS7
      obtain ⟨B1, f1, fn1, fw1, fl1, fk1⟩ := put_facts (o := .loop { r' with state := .exhausted }) hwB h7
      rw [h72] at f1
      rw [f1]
      refine Rn.exit hc rfl ?_
      (repeat (first | refine Rn.seq hc ?_ | refine Rn.skip hc ?_ | refine Rn.block hc ?_ | refine Rn.inBlock hc ?_ | refine Rn.scope hc ?_ | refine Rn.inScope hc ?_))
      have d7' : cl B1 A3.next 0 = some (.slice (some ⟨A2.next, 0, none⟩) many many) := by rw [cl_look (fk1 _ (by omega)), cl_of h4 rfl]; rfl
      refine Rn.reg hc rfl ?_
      simp only [sev_tmp, sg_eq, sg_ne, sp_n, Nat.reduceLT, ne_eq, Nat.reduceEqDiff, not_false_eq_true, gd, want_free, rops, fx, ld, adr_p, Option.some.injEq, exists_eq_left', tk22, d7']
      (repeat (first | refine Rn.seq hc ?_ | refine Rn.skip hc ?_ | refine Rn.block hc ?_ | refine Rn.inBlock hc ?_ | refine Rn.scope hc ?_ | refine Rn.inScope hc ?_))
      have lD : Canon.look B1.objs A6.next = some ⟨.deferred (some []), false, 0⟩ := by rw [fk1 _ (by omega)]; exact h6
      obtain ⟨B2, f2, fn2, fw2, fl2, fk2⟩ := put_facts (o := .deferred none) fw1 lD
      refine Rn.ret (endQ_tmpD rfl (obj_of lD rfl) ?_)
      rw [f2]
      refine ⟨some ⟨A2.next, 0, none⟩, by simp only [sg_eq, sp_n, Nat.reduceLT], ⟨by omega, fw2, fun b hb => by rw [fk2 _ (by omega), fk1 _ (by omega)]; exact h9 b hb⟩, fun k hk => ?_, fun _ => ⟨A2.next, 0, c, 3, _, _, _, rfl, ⟨by omega, by omega⟩, by rw [fk2 _ (by omega), fk1 _ (by omega)]; exact h1, rfl, by omega⟩, fun y hy => by cases hy; exact ⟨rfl, show A.next ≤ A2.next by omega, _, (fk2 A2.next (by omega)).trans ((fk1 A2.next (by omega)).trans h1), .inl rfl⟩⟩
      rw [takeL_len] at hk
      refine ⟨A2.next, 0, rfl, by omega, by omega, ?_⟩
      rw [takeL_get _ _ _ _ hk, cl_look (fk2 _ (by omega)), cl_look (fk1 _ (by omega)), cl_of h1 rfl, Nat.zero_add]
      exact h3 k hk

theorem take_run {A : AHeap} (hw : WF A) {m n : Int} {sa ra : Option Addr} {sc rc : Nat} {st ro : List Int} (hs : Ints A sa 0 A.next st) (hr : Ints A ra 0 A.next ro) (ls : st.length < 4611686018427387904) (lr : ro.length < 4611686018427387904) (hn63 : n < 9223372036854775808) :
    Con Try.prog 30 [.agg #[.int .i64 m, .slice sa st.length sc, .slice ra ro.length rc], .int .i64 n] A (TakeQ A m st ro n) := by
  refine con_of_rn hc Try.func30 rfl (Nat.le_of_ble_eq_true rfl) ?_
  obtain ⟨A1, e1, hx1, hn1, b0, b1, b2⟩ := box3 hw (.int .i64 m) (.slice sa st.length sc) (.slice ra ro.length rc) 24
  obtain ⟨A3, e3, hx3, hn3, c0, c1, c2⟩ := box3 hx1.wf (.int .i64 m) (.slice sa st.length sc) (.slice ra ro.length rc) 24
  have hx03 : Nx A.next A A3 := hx1.trans (hx3.le hx1.next)
  have hrow : LRow A3 (some ⟨A1.next, 0, none⟩) [⟨m, sa, sc, st, ra, rc, ro⟩] := fun i hi => by
    have : i = 0 := by simp at hi; omega
    subst this
    exact ⟨⟨(hs.nx hx03 (Nat.le_refl _)).mono (Nat.le_refl _) hx03.next, (hr.nx hx03 (Nat.le_refl _)).mono (Nat.le_refl _) hx03.next, ls, lr⟩, _, _, rfl, by omega, c0, c1, c2⟩
  rw [s_in2]
  (repeat (first | refine Rn.seq hc ?_ | refine Rn.skip hc ?_ | refine Rn.block hc ?_ | refine Rn.inBlock hc ?_ | refine Rn.scope hc ?_ | refine Rn.inScope hc ?_))
  refine Rn.reg hc rfl ?_
  simp only [sev_tmp, sev_const, sg_eq, sg_ne, Nat.reduceLT, ne_eq, Nat.reduceEqDiff, not_false_eq_true, gd, want_free, rops, fx, Option.some.injEq, exists_eq_left', Value.cells, show Try.f30.ntmps = 23 from rfl, e1]
  (repeat (first | refine Rn.seq hc ?_ | refine Rn.skip hc ?_ | refine Rn.block hc ?_ | refine Rn.inBlock hc ?_ | refine Rn.scope hc ?_ | refine Rn.inScope hc ?_))
  refine Rn.region hc fun K hK => ?_
  refine Wo.run hc 2 rfl rfl rfl ?_
  simp (maxSteps := 2000000) only [List.drop_zero, List.take_succ_cons, List.take_zero, sev_tmp, sg_eq, sg_ne, sp_n, Nat.reduceLT, ne_eq, Nat.reduceEqDiff, not_false_eq_true, gd, want_free, rops, fx, ld, adr_p, cls, Nat.zero_add, Option.some.injEq, exists_eq_left', Value.cells, Nat.reduceAdd, tk24, b0, b1, b2, bs46_1, List.size_toArray, List.length_cons, List.length_nil, e3]
  refine Wo.call hc (by rfl) (by rfl) ⟨by rfl, by rfl⟩ (xs := [.slice (some ⟨A1.next, 0, none⟩) 1 1]) (by rfl) (by rfl) (by rfl) (Con.mono (check_all hx3.wf (l := [⟨m, sa, sc, st, ra, rc, ro⟩]) hrow (by simp)) ?_)
  rintro w A4 ⟨rfl, hx4⟩
  rw [errs_one, show (⟨m, sa, sc, st, ra, rc, ro⟩ : Las).err = errL m st ro from rfl]
  refine Wo.run hc 1 rfl rfl rfl ?_
  simp (maxSteps := 2000000) only [List.drop_zero, List.drop_succ_cons, List.take_succ_cons, List.take_zero, sev_tmp, sg_eq, sp_n, Nat.reduceLT, gd, want_free, rops, fx, Option.some.injEq, exists_eq_left', Nat.reduceAdd]
  refine Wo.done hc rfl (hK _ _ ?_)
  clear hK
  (repeat (first | refine Rn.seq hc ?_ | refine Rn.skip hc ?_ | refine Rn.block hc ?_ | refine Rn.inBlock hc ?_ | refine Rn.scope hc ?_ | refine Rn.inScope hc ?_))
  have b0 := (hx4.cl (show A.next < A3.next by omega) 0).trans ((hx3.cl (show A.next < A1.next by omega) 0).trans b0)
  have b1 := (hx4.cl (show A.next < A3.next by omega) 1).trans ((hx3.cl (show A.next < A1.next by omega) 1).trans b1)
  have b2 := (hx4.cl (show A.next < A3.next by omega) 2).trans ((hx3.cl (show A.next < A1.next by omega) 2).trans b2)
  have hx04 : Nx A.next A A4 := hx03.trans (hx4.le hx03.next)
  unfold TakeQ
  by_cases he : errL m st ro = 0
  · have hd : (!decide (errL m st ro = 0)) = false := by rw [decide_eq_true he]; rfl
    obtain ⟨l60, l120⟩ := errL_len he
    refine Rn.reg hc rfl ?_
    simp only [sev_tmp, sev_const, sg_eq, sp_n, Nat.reduceLT, ne_eq, gd, want_free, rops, fx, bin_neq, Option.some.injEq, exists_eq_left', hd]
    (repeat (first | refine Rn.seq hc ?_ | refine Rn.skip hc ?_ | refine Rn.block hc ?_ | refine Rn.inBlock hc ?_ | refine Rn.scope hc ?_ | refine Rn.inScope hc ?_))
    refine Rn.condE hc rfl ?_
    simp only [sev_tmp, sg_eq, sp_n, Nat.reduceLT, Value.bool.injEq, exists_eq_left']
    (repeat (first | refine Rn.seq hc ?_ | refine Rn.skip hc ?_ | refine Rn.block hc ?_ | refine Rn.inBlock hc ?_ | refine Rn.scope hc ?_ | refine Rn.inScope hc ?_))
    by_cases hneg : n < 0
    · have h1 : decide (n < 0) = true := decide_eq_true hneg
      refine Rn.reg hc rfl ?_
      simp only [sev_tmp, sev_const, sg_eq, sg_ne, sp_n, Nat.reduceLT, ne_eq, Nat.reduceEqDiff, not_false_eq_true, gd, nth, want_free, want_slot, beqB, rops, fx, pck, bin_lss, Option.some.injEq, exists_eq_left', h1]
      (repeat (first | refine Rn.seq hc ?_ | refine Rn.skip hc ?_ | refine Rn.block hc ?_ | refine Rn.inBlock hc ?_ | refine Rn.scope hc ?_ | refine Rn.inScope hc ?_))
      refine Rn.condE hc rfl ?_
      simp only [sev_tmp, sg_eq, sp_n, Nat.reduceLT, Value.bool.injEq, exists_eq_left']
      (repeat (first | refine Rn.seq hc ?_ | refine Rn.skip hc ?_ | refine Rn.block hc ?_ | refine Rn.inBlock hc ?_ | refine Rn.scope hc ?_ | refine Rn.inScope hc ?_))
      refine Rn.reg hc rfl ?_
      simp only [sev_const, gd, want_free, rops, fx, Option.some.injEq, exists_eq_left']
      (repeat (first | refine Rn.seq hc ?_ | refine Rn.skip hc ?_ | refine Rn.block hc ?_ | refine Rn.inBlock hc ?_ | refine Rn.scope hc ?_ | refine Rn.inScope hc ?_))
      refine Rn.ret (endQ_two rfl ⟨hx04, none, 0, [], 3, ?_, ints_nil' _ _ _ _, fun h0 => absurd h0 (by simp), fun h => absurd he h, fun _ _ => ⟨rfl, rfl⟩, fun _ h => by omega⟩)
      simp only [sg_eq, sg_ne, sp_n, Nat.reduceLT, ne_eq, Nat.reduceEqDiff, not_false_eq_true, List.length_nil]
    · have h1 : decide (n < 0) = false := decide_eq_false hneg
      by_cases hbig : 4096 < n
      · have h2 : decide (4096 < n) = true := decide_eq_true hbig
        refine Rn.reg hc rfl ?_
        simp only [sev_tmp, sev_const, sg_eq, sg_ne, sp_n, Nat.reduceLT, ne_eq, Nat.reduceEqDiff, not_false_eq_true, gd, nth, want_free, want_slot, beqB, rops, fx, pck, bin_lss, bin_gtr, Option.some.injEq, exists_eq_left', h1, h2]
        (repeat (first | refine Rn.seq hc ?_ | refine Rn.skip hc ?_ | refine Rn.block hc ?_ | refine Rn.inBlock hc ?_ | refine Rn.scope hc ?_ | refine Rn.inScope hc ?_))
        refine Rn.condE hc rfl ?_
        simp only [sev_tmp, sg_eq, sp_n, Nat.reduceLT, Value.bool.injEq, exists_eq_left']
        (repeat (first | refine Rn.seq hc ?_ | refine Rn.skip hc ?_ | refine Rn.block hc ?_ | refine Rn.inBlock hc ?_ | refine Rn.scope hc ?_ | refine Rn.inScope hc ?_))
        refine Rn.reg hc rfl ?_
        simp only [sev_const, gd, want_free, rops, fx, Option.some.injEq, exists_eq_left']
        (repeat (first | refine Rn.seq hc ?_ | refine Rn.skip hc ?_ | refine Rn.block hc ?_ | refine Rn.inBlock hc ?_ | refine Rn.scope hc ?_ | refine Rn.inScope hc ?_))
        refine Rn.ret (endQ_two rfl ⟨hx04, none, 0, [], 3, ?_, ints_nil' _ _ _ _, fun h0 => absurd h0 (by simp), fun h => absurd he h, fun _ _ => ⟨rfl, rfl⟩, fun _ h => by omega⟩)
        simp only [sg_eq, sg_ne, sp_n, Nat.reduceLT, ne_eq, Nat.reduceEqDiff, not_false_eq_true, List.length_nil]
      · have h2 : decide (4096 < n) = false := decide_eq_false hbig
        obtain ⟨k, rfl⟩ : ∃ k : Nat, n = (k : Int) := ⟨n.toNat, by omega⟩
        refine Rn.reg hc rfl ?_
        simp only [sev_tmp, sev_const, sg_eq, sg_ne, sp_n, Nat.reduceLT, ne_eq, Nat.reduceEqDiff, not_false_eq_true, gd, nth, want_free, want_slot, beqB, rops, fx, pck, bin_lss, bin_gtr, Option.some.injEq, exists_eq_left', h1, h2]
        (repeat (first | refine Rn.seq hc ?_ | refine Rn.skip hc ?_ | refine Rn.block hc ?_ | refine Rn.inBlock hc ?_ | refine Rn.scope hc ?_ | refine Rn.inScope hc ?_))
        refine Rn.condE hc rfl ?_
        simp only [sev_tmp, sg_eq, sp_n, Nat.reduceLT, Value.bool.injEq, exists_eq_left']
        (repeat (first | refine Rn.seq hc ?_ | refine Rn.skip hc ?_ | refine Rn.block hc ?_ | refine Rn.inBlock hc ?_ | refine Rn.scope hc ?_ | refine Rn.inScope hc ?_))
        refine Rn.region hc fun K hK => ?_
        refine Wo.run hc 3 rfl rfl rfl ?_
        simp (maxSteps := 2000000) only [List.drop_zero, List.take_succ_cons, List.take_zero, sev_tmp, sg_eq, sg_ne, sp_n, Nat.reduceLT, ne_eq, Nat.reduceEqDiff, not_false_eq_true, gd, want_free, rops, fx, ld, adr_p, cls, Nat.zero_add, Option.some.injEq, exists_eq_left', Value.cells, Nat.reduceAdd, tk24, b0, b1, b2, bd86, List.size_toArray, List.length_cons, List.length_nil]
        refine Wo.call hc (by rfl) (by rfl) ⟨by rfl, by rfl⟩ (xs := [.agg #[.int .i64 m, .slice sa st.length sc, .slice ra ro.length rc], .int .i64 ((0 : Nat) : Int), .int .i64 (k : Int)]) (by rfl) (by rfl) (by rfl) (Con.mono (take_wide hx4.wf ((hs.nx hx04 (Nat.le_refl _)).mono (Nat.le_refl _) hx04.next) ((hr.nx hx04 (Nat.le_refl _)).mono (Nat.le_refl _) hx04.next) (by omega) (by omega) (errL_pos he) (n := 0) (many := k) (by omega) (by omega)) ?_)
        rintro w A5 ⟨a, rfl, hx5, hi5, hw5, -⟩
        refine Wo.run hc 2 rfl rfl rfl ?_
        simp (maxSteps := 2000000) only [List.drop_zero, List.drop_succ_cons, List.take_succ_cons, List.take_zero, sev_tmp, sev_const, sg_eq, sp_n, Nat.reduceLT, gd, want_free, rops, fx, Option.some.injEq, exists_eq_left', Nat.reduceAdd]
        refine Wo.done hc rfl (hK _ _ ?_)
        clear hK
        (repeat (first | refine Rn.seq hc ?_ | refine Rn.skip hc ?_ | refine Rn.block hc ?_ | refine Rn.inBlock hc ?_ | refine Rn.scope hc ?_ | refine Rn.inScope hc ?_))
        have hlen := takeL_len st ro 0 k
        refine Rn.ret (endQ_two rfl ⟨hx04.trans (hx5.le hx04.next), a, k, takeL st ro 0 k, 0, ?_, hi5.mono hx04.next (Nat.le_refl _), by rw [hlen]; exact hw5.mono hx04.next, fun h => absurd he h, fun _ h => by omega, fun _ _ => ⟨rfl, rfl⟩⟩)
        simp only [sg_eq, sg_ne, sp_n, Nat.reduceLT, ne_eq, Nat.reduceEqDiff, not_false_eq_true, takeL_len]
  · have hd : (!decide (errL m st ro = 0)) = true := by rw [decide_eq_false he]; rfl
    refine Rn.reg hc rfl ?_
    simp only [sev_tmp, sev_const, sg_eq, sp_n, Nat.reduceLT, ne_eq, gd, want_free, rops, fx, bin_neq, Option.some.injEq, exists_eq_left', hd]
    (repeat (first | refine Rn.seq hc ?_ | refine Rn.skip hc ?_ | refine Rn.block hc ?_ | refine Rn.inBlock hc ?_ | refine Rn.scope hc ?_ | refine Rn.inScope hc ?_))
    refine Rn.condE hc rfl ?_
    simp only [sev_tmp, sg_eq, sp_n, Nat.reduceLT, Value.bool.injEq, exists_eq_left']
    (repeat (first | refine Rn.seq hc ?_ | refine Rn.skip hc ?_ | refine Rn.block hc ?_ | refine Rn.inBlock hc ?_ | refine Rn.scope hc ?_ | refine Rn.inScope hc ?_))
    refine Rn.reg hc rfl ?_
    simp only [sev_tmp, sev_const, sg_eq, sg_ne, sp_n, Nat.reduceLT, ne_eq, Nat.reduceEqDiff, not_false_eq_true, gd, want_free, rops, fx, Option.some.injEq, exists_eq_left']
    (repeat (first | refine Rn.seq hc ?_ | refine Rn.skip hc ?_ | refine Rn.block hc ?_ | refine Rn.inBlock hc ?_ | refine Rn.scope hc ?_ | refine Rn.inScope hc ?_))
    refine Rn.ret (endQ_two rfl ⟨hx04, none, 0, [], errL m st ro, ?_, ints_nil' _ _ _ _, fun h0 => absurd h0 (by simp), fun _ => ⟨rfl, rfl⟩, fun h => absurd h he, fun h => absurd h he⟩)
    simp only [sg_eq, sg_ne, sp_n, Nat.reduceLT, ne_eq, Nat.reduceEqDiff, not_false_eq_true, List.length_nil]
end Go.Proofs.Ytdaljohmfnfgiaa
/- The rest of a stream. No condition. -/
namespace Go.Proofs.Ytdaljohmfnfgiaa
open Go Go.RowKit Go.Proofs.Ytdaljohmfnfgiaa.Canon
set_option maxRecDepth 20000


/-- What comes back is put into the result's variable. -/
theorem Tld.fin {A A4 A5 : AHeap} {e m : Int} {s : Nat → Int} {w : Value} {b : Nat} (hx04 : Nx A.next A A4) (hb : A.next ≤ b) (hb4 : b < A4.next) (hl : Canon.look A4.objs b = some ⟨.cells #[.int .i64 0, .slice none 0 0, .slice none 0 0] 24, false, 0⟩) (h : Tld A4 e m s w A5) :
    ∃ mm n1 n2 ee p1 c1 p2 c2, w = .tuple #[.agg #[.int .i64 mm, .slice p1 n1 c1, .slice p2 n2 c2], .int .i64 ee] ∧ ∃ D, sts A5 b 0 [.int .i64 mm, .slice p1 n1 c1, .slice p2 n2 c2] = some D ∧ cl D b 0 = some (.int .i64 mm) ∧ cl D b 1 = some (.slice p1 n1 c1) ∧ cl D b 2 = some (.slice p2 n2 c2) ∧ (∀ b', b' ≠ b → Canon.look D.objs b' = Canon.look A5.objs b') ∧ Tld A e m s (.tuple #[.agg #[.int .i64 mm, .slice p1 n1 c1, .slice p2 n2 c2], .int .i64 ee]) D := by
  obtain ⟨hx5, mm, L1, L2, ee, p1, c1, p2, c2, hT, rfl, i1, i2, w1, w2⟩ := h
  obtain ⟨D, q1, q2, q3, q4, g0, g1, g2⟩ := res_put hl hb4 hx5 (v0 := .int .i64 mm) (v1 := .slice p1 L1.length c1) (v2 := .slice p2 L2.length c2) rfl
  obtain ⟨j1, j2⟩ := Tld.put (c1 := c1) (c2 := c2) (D := D) hx04.next hb4 hb hT i1 i2 q2 q4
  refine ⟨mm, L1.length, L2.length, ee, p1, c1, p2, c2, rfl, D, q1, g0, g1, g2, q4, ⟨by have := hx04.next; have := hx5.next; omega, q3, fun b' hb' => by rw [q4 _ (by omega), hx5.keep _ (by have := hx04.next; omega), hx04.keep _ hb']⟩, mm, L1, L2, ee, p1, c1, p2, c2, hT, rfl, j1.mono hx04.next (Nat.le_refl _), j2.mono hx04.next (Nat.le_refl _), (w1.off q2 hb4 q4).mono hx04.next, (w2.off q2 hb4 q4).mono hx04.next⟩
theorem TldR.fin {A A4 A5 : AHeap} {e m : Int} {s : Nat → Int} {w : Value} {b : Nat} (hx04 : Nx A.next A A4) (hb : A.next ≤ b) (hb4 : b < A4.next) (hl : Canon.look A4.objs b = some ⟨.cells #[.int .i64 0, .slice none 0 0, .slice none 0 0] 24, false, 0⟩) (h : TldR A4 e m s w A5) :
    ∃ mm n1 n2 ee p1 c1 p2 c2, w = .tuple #[.agg #[.int .i64 mm, .slice p1 n1 c1, .slice p2 n2 c2], .int .i64 ee] ∧ ∃ D, sts A5 b 0 [.int .i64 mm, .slice p1 n1 c1, .slice p2 n2 c2] = some D ∧ cl D b 0 = some (.int .i64 mm) ∧ cl D b 1 = some (.slice p1 n1 c1) ∧ cl D b 2 = some (.slice p2 n2 c2) ∧ (∀ b', b' ≠ b → Canon.look D.objs b' = Canon.look A5.objs b') ∧ TldR A e m s (.tuple #[.agg #[.int .i64 mm, .slice p1 n1 c1, .slice p2 n2 c2], .int .i64 ee]) D := by
  obtain ⟨hx5, mm, L1, L2, ee, p1, c1, p2, c2, hT, rfl, i1, i2⟩ := h
  obtain ⟨D, q1, q2, q3, q4, g0, g1, g2⟩ := res_put hl hb4 hx5 (v0 := .int .i64 mm) (v1 := .slice p1 L1.length c1) (v2 := .slice p2 L2.length c2) rfl
  obtain ⟨j1, j2⟩ := Tld.put (c1 := c1) (c2 := c2) (D := D) hx04.next hb4 hb hT i1 i2 q2 q4
  refine ⟨mm, L1.length, L2.length, ee, p1, c1, p2, c2, rfl, D, q1, g0, g1, g2, q4, ⟨by have := hx04.next; have := hx5.next; omega, q3, fun b' hb' => by rw [q4 _ (by omega), hx5.keep _ (by have := hx04.next; omega), hx04.keep _ hb']⟩, mm, L1, L2, ee, p1, c1, p2, c2, hT, rfl, j1.mono hx04.next (Nat.le_refl _), j2.mono hx04.next (Nat.le_refl _)⟩
/-- An error is put there. -/
theorem err_fin {A A4 : AHeap} {b : Nat} (hx04 : Nx A.next A A4) (hb : A.next ≤ b) (hb4 : b < A4.next) (hl : Canon.look A4.objs b = some ⟨.cells #[.int .i64 0, .slice none 0 0, .slice none 0 0] 24, false, 0⟩) :
    ∃ D, sts A4 b 0 [.int .i64 0, .slice none 0 0, .slice none 0 0] = some D ∧ cl D b 0 = some (.int .i64 0) ∧ cl D b 1 = some (.slice none 0 0) ∧ cl D b 2 = some (.slice none 0 0) ∧ Nx A.next A D := by
  obtain ⟨D, q1, q2, q3, q4, g0, g1, g2⟩ := res_put hl hb4 (Nx.refl hx04.wf A4.next) (v0 := .int .i64 0) (v1 := .slice none 0 0) (v2 := .slice none 0 0) rfl
  exact ⟨D, q1, g0, g1, g2, ⟨by have := hx04.next; omega, q3, fun b' hb' => by rw [q4 _ (by omega), hx04.keep _ hb']⟩⟩
/-- The error of a call that asks for a number that is not negative. -/
def erN (m : Int) (st ro : List Int) (n : Int) : Int := if errL m st ro = 0 then (if n < 0 then 3 else 0) else errL m st ro
/-- The number that a far one comes to. -/
theorem tail_same {st ro : List Int} (hro : 0 < ro.length) {k : Nat} (h : st.length ≤ k) (i : Nat) : atL st ro (st.length + (k - st.length) % ro.length + i) = atL st ro (k + i) := by
  refine (atL_per (st := st) hro).same (by omega) (by omega) ?_
  have := Nat.div_add_mod (k - st.length) ro.length
  rw [show k + i = st.length + (k - st.length) % ro.length + i + ro.length * ((k - st.length) / ro.length) by omega, Nat.add_mul_mod_self_left]
theorem take_redS (st ro : List Int) (n k : Nat) : takeL st ro n k = redS (fun i => atL st ro (n + i)) k := rfl
theorem take_redR (st ro : List Int) (n a p : Nat) : takeL st ro (n + a) p = redR (fun i => atL st ro (n + i)) a p := by
  unfold takeL redR
  exact List.map_congr_left fun i _ => by rw [Nat.add_assoc]
/-- The rest, as two lists. -/
theorem tail_lists {st ro : List Int} (hro : 0 < ro.length) (n : Nat) : atL (takeL st ro n (st.length - n)) (takeL st ro (max n st.length) ro.length) = fun i => atL st ro (n + i) := by
  rw [show max n st.length = n + (st.length - n) by omega, take_redS, take_redR]
  exact atL_redF ⟨hro, fun i hi => by
    have := (atL_per (st := st) hro).per (n + i) (by omega)
    rw [← Nat.add_assoc]
    exact this⟩
/-- The calls of a tail. -/
def tlS (m : Int) (sa : Option Addr) (sl sc : Nat) (ra : Option Addr) (rl rc : Nat) (st ro : List Int) (E : Nat → Int) : Canon.Spec := fun g xs A v A1 => match g with
  | 69 => ∃ a p, Red E a p ∧ LeastQ A m E a p v A1
  | _ => ∃ (n k : Nat) (a' : Option Addr), xs = [.agg #[.int .i64 m, .slice sa sl sc, .slice ra rl rc], .int .i64 (n : Int), .int .i64 (k : Int)] ∧ v = .slice a' k k ∧ Nx A.next A A1 ∧ Ints A1 a' A.next A1.next (takeL st ro n k) ∧ Sl A1 a' A.next

theorem tlS_put {m : Int} {sa ra : Option Addr} {sl sc rl rc n k : Nat} {st ro : List Int} {E : Nat → Int} {A A1 : AHeap} {v : Value} (h : ∃ a', v = .slice a' k k ∧ Nx A.next A A1 ∧ Ints A1 a' A.next A1.next (takeL st ro n k) ∧ Sl A1 a' A.next) :
    tlS m sa sl sc ra rl rc st ro E 78 [.agg #[.int .i64 m, .slice sa sl sc, .slice ra rl rc], .int .i64 (n : Int), .int .i64 (k : Int)] A v A1 := by
  obtain ⟨a', h1, h2, h3, h4⟩ := h
  exact ⟨n, k, a', rfl, h1, h2, h3, h4⟩
theorem tlS_get {m : Int} {sa ra : Option Addr} {sl sc rl rc n k : Nat} {st ro : List Int} {E : Nat → Int} {A A1 : AHeap} {v : Value} (h : tlS m sa sl sc ra rl rc st ro E 78 [.agg #[.int .i64 m, .slice sa sl sc, .slice ra rl rc], .int .i64 (n : Int), .int .i64 (k : Int)] A v A1) :
    ∃ a', v = .slice a' k k ∧ Nx A.next A A1 ∧ Ints A1 a' A.next A1.next (takeL st ro n k) ∧ Sl A1 a' A.next := by
  obtain ⟨n', k', a', e, h1, h2, h3, h4⟩ := h
  simp only [List.cons.injEq, Value.int.injEq, true_and, and_true] at e
  have hn : n' = n := by omega
  have hk : k' = k := by omega
  subst hn hk
  exact ⟨a', h1, h2, h3, h4⟩
theorem mxd_sub (a b : Nat) : max ((a : Int) - (b : Int)) 0 = ((a - b : Nat) : Int) := by omega
theorem mxd_nat (a b : Nat) : max (a : Int) (b : Int) = ((max a b : Nat) : Int) := by omega
theorem tail_run {A : AHeap} (hw : WF A) {m n : Int} {sa ra : Option Addr} {sc rc : Nat} {st ro : List Int} (hs : Ints A sa 0 A.next st) (hr : Ints A ra 0 A.next ro) (ls : st.length < 4611686018427387904) (lr : ro.length < 4611686018427387904) (hn63 : n < 9223372036854775808) :
    Con Try.prog 33 [.agg #[.int .i64 m, .slice sa st.length sc, .slice ra ro.length rc], .int .i64 n] A (Tld A (erN m st ro n) m fun i => atL st ro (n.toNat + i)) := by
  refine con_of_rn hc Try.func33 rfl (Nat.le_of_ble_eq_true rfl) ?_
  obtain ⟨A0, e0, hx0, hn0, b0, b1, b2⟩ := box3 hw (.int .i64 m) (.slice sa st.length sc) (.slice ra ro.length rc) 24
  have hx1 : Nx A0.next A0 (A0.push (.cells #[.int .i64 0, .slice none 0 0, .slice none 0 0] 24)) := (Nx.refl hx0.wf _).push (Nat.le_refl _) _
  have l1 := look_push_eq A0 (.cells #[.int .i64 0, .slice none 0 0, .slice none 0 0] 24)
  have hn1 : (A0.push (.cells #[.int .i64 0, .slice none 0 0, .slice none 0 0] 24)).next = A0.next + 1 := rfl
  generalize e1 : A0.push (.cells #[.int .i64 0, .slice none 0 0, .slice none 0 0] 24) = A1 at hx1 l1 hn1
  obtain ⟨A3, e3, hx3, hn3, c0, c1, c2⟩ := box3 hx1.wf (.int .i64 m) (.slice sa st.length sc) (.slice ra ro.length rc) 24
  have hx01 : Nx A.next A A1 := hx0.trans (hx1.le hx0.next)
  have hx03 : Nx A.next A A3 := hx01.trans (hx3.le hx01.next)
  have hrow : LRow A3 (some ⟨A1.next, 0, none⟩) [⟨m, sa, sc, st, ra, rc, ro⟩] := fun i hi => by
    have : i = 0 := by simp at hi; omega
    subst this
    exact ⟨⟨(hs.nx hx03 (Nat.le_refl _)).mono (Nat.le_refl _) hx03.next, (hr.nx hx03 (Nat.le_refl _)).mono (Nat.le_refl _) hx03.next, ls, lr⟩, _, _, rfl, by omega, c0, c1, c2⟩
  have b0 := (hx1.cl (show A.next < A0.next by omega) 0).trans b0
  have b1 := (hx1.cl (show A.next < A0.next by omega) 1).trans b1
  have b2 := (hx1.cl (show A.next < A0.next by omega) 2).trans b2
  rw [s_in2]
  (repeat (first | refine Rn.seq hc ?_ | refine Rn.skip hc ?_ | refine Rn.block hc ?_ | refine Rn.inBlock hc ?_ | refine Rn.scope hc ?_ | refine Rn.inScope hc ?_))
  refine Rn.reg hc rfl ?_
  simp only [sev_tmp, sev_const, sg_eq, sg_ne, Nat.reduceLT, ne_eq, Nat.reduceEqDiff, not_false_eq_true, gd, want_free, rops, fx, Option.some.injEq, exists_eq_left', Value.cells, show Try.f33.ntmps = 61 from rfl, e0, ze24, e1]
  (repeat (first | refine Rn.seq hc ?_ | refine Rn.skip hc ?_ | refine Rn.block hc ?_ | refine Rn.inBlock hc ?_ | refine Rn.scope hc ?_ | refine Rn.inScope hc ?_))
  refine Rn.region hc fun K hK => ?_
  refine Wo.run hc 2 rfl rfl rfl ?_
  simp (maxSteps := 2000000) only [List.drop_zero, List.take_succ_cons, List.take_zero, sev_tmp, sg_eq, sg_ne, sp_n, Nat.reduceLT, ne_eq, Nat.reduceEqDiff, not_false_eq_true, gd, want_free, rops, fx, ld, adr_p, cls, Nat.zero_add, Option.some.injEq, exists_eq_left', Value.cells, Nat.reduceAdd, tk24, b0, b1, b2, bs46_1, List.size_toArray, List.length_cons, List.length_nil, e3]
  refine Wo.call hc (by rfl) (by rfl) ⟨by rfl, by rfl⟩ (xs := [.slice (some ⟨A1.next, 0, none⟩) 1 1]) (by rfl) (by rfl) (by rfl) (Con.mono (check_all hx3.wf (l := [⟨m, sa, sc, st, ra, rc, ro⟩]) hrow (by simp)) ?_)
  rintro w A4 ⟨rfl, hx4⟩
  rw [errs_one, show (⟨m, sa, sc, st, ra, rc, ro⟩ : Las).err = errL m st ro from rfl]
  refine Wo.run hc 1 rfl rfl rfl ?_
  simp (maxSteps := 2000000) only [List.drop_zero, List.drop_succ_cons, List.take_succ_cons, List.take_zero, sev_tmp, sg_eq, sp_n, Nat.reduceLT, gd, want_free, rops, fx, Option.some.injEq, exists_eq_left', Nat.reduceAdd]
  refine Wo.done hc rfl (hK _ _ ?_)
  clear hK
  (repeat (first | refine Rn.seq hc ?_ | refine Rn.skip hc ?_ | refine Rn.block hc ?_ | refine Rn.inBlock hc ?_ | refine Rn.scope hc ?_ | refine Rn.inScope hc ?_))
  have hx34 : Nx A1.next A1 A4 := hx3.trans (hx4.le hx3.next)
  have hx04 : Nx A.next A A4 := hx01.trans (hx34.le hx01.next)
  have n4 : A0.next < A4.next := by have := hx4.next; omega
  have l4 : Canon.look A4.objs A0.next = _ := (hx34.keep _ (by omega)).trans l1
  have b0 := (hx34.cl (show A.next < A1.next by omega) 0).trans b0
  have b1 := (hx34.cl (show A.next < A1.next by omega) 1).trans b1
  have b2 := (hx34.cl (show A.next < A1.next by omega) 2).trans b2
  have hn0A := hx0.next
  clear hrow c0 c1 c2 e3 e1 e0 hx3 hx4 hx1
  unfold erN
  by_cases he : errL m st ro = 0
  · have hd : (!decide (errL m st ro = 0)) = false := by rw [decide_eq_true he]; rfl
    obtain ⟨l60, l120⟩ := errL_len he
    have hro := errL_pos he
    rw [if_pos he]
    refine Rn.reg hc rfl ?_
    simp only [sev_tmp, sev_const, sg_eq, sp_n, Nat.reduceLT, gd, want_free, rops, fx, bin_neq, Option.some.injEq, exists_eq_left', hd]
    (repeat (first | refine Rn.seq hc ?_ | refine Rn.skip hc ?_ | refine Rn.block hc ?_ | refine Rn.inBlock hc ?_ | refine Rn.scope hc ?_ | refine Rn.inScope hc ?_))
    refine Rn.condE hc rfl ?_
    simp only [sev_tmp, sg_eq, sp_n, Nat.reduceLT, Value.bool.injEq, exists_eq_left']
    (repeat (first | refine Rn.seq hc ?_ | refine Rn.skip hc ?_ | refine Rn.block hc ?_ | refine Rn.inBlock hc ?_ | refine Rn.scope hc ?_ | refine Rn.inScope hc ?_))
    by_cases hneg : n < 0
    · have h1 : decide (n < 0) = true := decide_eq_true hneg
      obtain ⟨D, q1, g0, g1, g2, hxD⟩ := err_fin hx04 hn0A n4 l4
      rw [if_pos hneg]
      refine Rn.reg hc rfl ?_
      simp only [sev_tmp, sev_const, sg_eq, sg_ne, sp_n, Nat.reduceLT, ne_eq, Nat.reduceEqDiff, not_false_eq_true, gd, want_free, rops, fx, bin_lss, Option.some.injEq, exists_eq_left', h1]
      (repeat (first | refine Rn.seq hc ?_ | refine Rn.skip hc ?_ | refine Rn.block hc ?_ | refine Rn.inBlock hc ?_ | refine Rn.scope hc ?_ | refine Rn.inScope hc ?_))
      refine Rn.condE hc rfl ?_
      simp only [sev_tmp, sg_eq, sp_n, Nat.reduceLT, Value.bool.injEq, exists_eq_left']
      (repeat (first | refine Rn.seq hc ?_ | refine Rn.skip hc ?_ | refine Rn.block hc ?_ | refine Rn.inBlock hc ?_ | refine Rn.scope hc ?_ | refine Rn.inScope hc ?_))
      refine Rn.reg hc rfl ?_
      simp only [sev_tmp, sev_const, sg_eq, sg_ne, sp_n, sp_none, Nat.reduceLT, ne_eq, Nat.reduceEqDiff, not_false_eq_true, gd, want_free, rops, fx, str, adr_p, Nat.zero_add, Option.some.injEq, exists_eq_left', Nat.reduceAdd, tk24, bd24_z, q1, List.size_toArray, List.length_cons, List.length_nil, Nat.beq_refl]
      (repeat (first | refine Rn.seq hc ?_ | refine Rn.skip hc ?_ | refine Rn.block hc ?_ | refine Rn.inBlock hc ?_ | refine Rn.scope hc ?_ | refine Rn.inScope hc ?_))
      refine Rn.ret (endQ_ct rfl (v := .agg #[.int .i64 0, .slice none 0 0, .slice none 0 0]) ?_ ?_)
      · simp only [sg_eq, sg_ne, sp_n, Nat.reduceLT, ne_eq, Nat.reduceEqDiff, not_false_eq_true, ld, adr_p, cls, Nat.zero_add, Nat.reduceAdd, tk24, g0, g1, g2]
      · simp only [sg_eq, sp_n, Nat.reduceLT]
        exact tld_err (by omega) hxD
    · have h1 : decide (n < 0) = false := decide_eq_false hneg
      obtain ⟨k, rfl⟩ : ∃ k : Nat, n = (k : Int) := ⟨n.toNat, by omega⟩
      rw [if_neg hneg, Int.toNat_natCast]
      refine Rn.reg hc rfl ?_
      simp only [sev_tmp, sev_const, sg_eq, sg_ne, sp_n, Nat.reduceLT, ne_eq, Nat.reduceEqDiff, not_false_eq_true, gd, want_free, rops, fx, bin_lss, Option.some.injEq, exists_eq_left', h1]
      (repeat (first | refine Rn.seq hc ?_ | refine Rn.skip hc ?_ | refine Rn.block hc ?_ | refine Rn.inBlock hc ?_ | refine Rn.scope hc ?_ | refine Rn.inScope hc ?_))
      refine Rn.condE hc rfl ?_
      simp only [sev_tmp, sg_eq, sp_n, Nat.reduceLT, Value.bool.injEq, exists_eq_left']
      (repeat (first | refine Rn.seq hc ?_ | refine Rn.skip hc ?_ | refine Rn.block hc ?_ | refine Rn.inBlock hc ?_ | refine Rn.scope hc ?_ | refine Rn.inScope hc ?_))
      have hreg : ∀ (g : Bool), decide ((st.length : Int) ≤ (k : Int)) = g → (g = true ↔ st.length ≤ k) := fun g h => by subst h; simp
      obtain ⟨g, hg⟩ : ∃ g, decide ((st.length : Int) ≤ (k : Int)) = g := ⟨_, rfl⟩
      have hgi := hreg g hg
      refine Rn.reg hc rfl ?_
      simp only [sev_tmp, sg_eq, sg_ne, sp_n, Nat.reduceLT, ne_eq, Nat.reduceEqDiff, not_false_eq_true, gd, want_free, rops, fx, ld, fad, lng, bin_geq, adr_p, Nat.zero_add, Option.some.injEq, exists_eq_left', tk22, fo24_1, un22, b1, hg]
      (repeat (first | refine Rn.seq hc ?_ | refine Rn.skip hc ?_ | refine Rn.block hc ?_ | refine Rn.inBlock hc ?_ | refine Rn.scope hc ?_ | refine Rn.inScope hc ?_))
      refine Rn.cut2 hc (Q1 := fun s ds M => ds = [] ∧ ∃ k', k' ≤ 10000 ∧ (∀ i, atL st ro (k' + i) = atL st ro (k + i)) ∧ Nx A4.next A4 M ∧ s.n = 61 ∧ sget s 1 = .int .i64 (k' : Nat) ∧ sget s 2 = .pointer (some ⟨A.next, 0, none⟩) ∧ sget s 4 = .pointer (some ⟨A0.next, 0, none⟩)) (Q2 := fun _ _ _ => False) ?_ ?_ (fun _ _ _ h => h.elim)
      · cases g with
        | true =>
          have hle : st.length ≤ k := hgi.1 rfl
          refine Rn.condE hc rfl ?_
          simp only [sev_tmp, sg_eq, sp_n, Nat.reduceLT, Value.bool.injEq, exists_eq_left']
          (repeat (first | refine Rn.seq hc ?_ | refine Rn.skip hc ?_ | refine Rn.block hc ?_ | refine Rn.inBlock hc ?_ | refine Rn.scope hc ?_ | refine Rn.inScope hc ?_))
          have hw1 : IntKind.i64.wrap ((k : Int) - (st.length : Int)) = ((k - st.length : Nat) : Int) := by rw [IntWalk.i64_in _ (by omega)]; omega
          have hmod := Nat.mod_lt (k - st.length) hro
          have hrem : ∀ M, bin Try.prog .rem 3 (.int .i64 ((k - st.length : Nat) : Int)) (.int .i64 (ro.length : Int)) M = some (.int .i64 (((k - st.length) % ro.length : Nat) : Int), M) := fun M => by
            rw [bin_rem _ _ _ _ (by omega), IntWalk.rem_in _ _ (by omega)]
            rfl
          have hw2 : IntKind.i64.wrap ((st.length : Int) + (((k - st.length) % ro.length : Nat) : Int)) = ((st.length + (k - st.length) % ro.length : Nat) : Int) := by rw [IntWalk.i64_in _ (by omega)]; omega
          refine Rn.drawnR hc hx (by kernel_rfl) (by rfl) (by kernel_rfl) ?_ ?_
          · simp only [rdV, VQ.int, VQ.ptr, VQ.slice, cl_bump, sev_tmp, sg_eq, sg_ne, sp_n, Nat.reduceLT, ne_eq, Nat.reduceEqDiff, not_false_eq_true, gd, want_free, fx, ld, fad, lng, bin_add, bin_sub, adr_p, Nat.zero_add, and_self, tk22, fo24_1, fo24_2, un22, b1, b2, hw1, hrem, hw2]
          simp only [cl_bump, sev_tmp, sg_eq, sg_ne, sp_n, Nat.reduceLT, ne_eq, Nat.reduceEqDiff, not_false_eq_true, gd, want_free, rops, fx, ld, fad, lng, bin_add, bin_sub, adr_p, Nat.zero_add, Option.some.injEq, exists_eq_left', tk22, fo24_1, fo24_2, un22, b1, b2, hw1, hrem, hw2]
          (repeat (first | refine Rn.seq hc ?_ | refine Rn.skip hc ?_ | refine Rn.block hc ?_ | refine Rn.inBlock hc ?_ | refine Rn.scope hc ?_ | refine Rn.inScope hc ?_))
          exact Rn.fall ⟨rfl, _, by omega, tail_same hro hle, Nx.bump (Nx.refl hx04.wf _) _, by simp only [sp_n], by simp only [sg_eq, sp_n, Nat.reduceLT], by simp only [sg_eq, sg_ne, sp_n, Nat.reduceLT, ne_eq, Nat.reduceEqDiff, not_false_eq_true], by simp only [sg_eq, sg_ne, sp_n, Nat.reduceLT, ne_eq, Nat.reduceEqDiff, not_false_eq_true, hn0]⟩
        | false =>
          have hle : k < st.length := Nat.lt_of_not_le fun h => by have := hgi.2 h; cases this
          refine Rn.condE hc rfl ?_
          simp only [sev_tmp, sg_eq, sp_n, Nat.reduceLT, Value.bool.injEq, exists_eq_left']
          (repeat (first | refine Rn.seq hc ?_ | refine Rn.skip hc ?_ | refine Rn.block hc ?_ | refine Rn.inBlock hc ?_ | refine Rn.scope hc ?_ | refine Rn.inScope hc ?_))
          exact Rn.fall ⟨rfl, k, by omega, fun i => rfl, Nx.refl hx04.wf _, by simp only [sp_n], by simp only [sg_eq, sg_ne, sp_n, Nat.reduceLT, ne_eq, Nat.reduceEqDiff, not_false_eq_true], by simp only [sg_eq, sg_ne, sp_n, Nat.reduceLT, ne_eq, Nat.reduceEqDiff, not_false_eq_true], by simp only [sg_eq, sg_ne, sp_n, Nat.reduceLT, ne_eq, Nat.reduceEqDiff, not_false_eq_true, hn0]⟩
      rintro s ds B ⟨rfl, k', hk', hsame, hB, hn, s1, s2, s4⟩
      have hE : (fun i => atL st ro (k + i)) = fun i => atL st ro (k' + i) := funext fun i => (hsame i).symm
      rw [hE]
      clear hE hsame hreg hgi hg hd h1 hneg hn63
      (repeat (first | refine Rn.seq hc ?_ | refine Rn.skip hc ?_ | refine Rn.block hc ?_ | refine Rn.inBlock hc ?_ | refine Rn.scope hc ?_ | refine Rn.inScope hc ?_))
      have hxB : Nx A.next A B := hx04.trans (hB.le hx04.next)
      have b0 := (hB.cl (show A.next < A4.next by omega) 0).trans b0
      have b1 := (hB.cl (show A.next < A4.next by omega) 1).trans b1
      have b2 := (hB.cl (show A.next < A4.next by omega) 2).trans b2
      have lB : Canon.look B.objs A0.next = _ := (hB.keep _ n4).trans l4
      have nB := hB.next
      obtain ⟨F, hF1, hF2⟩ : ∃ F : AHeap → Prop, (∀ C, F C → ∀ b, b < B.next → b ≠ A0.next → ∀ o, cl C b o = cl B b o) ∧ (∀ C, (∀ b, b < B.next → b ≠ A0.next → Canon.look C.objs b = Canon.look B.objs b) → F C) := ⟨fun C => ∀ b, b < B.next → b ≠ A0.next → ∀ o, cl C b o = cl B b o, fun _ h => h, fun C h b h1 h2 o => cl_look (h b h1 h2)⟩
      have hF : ∀ C, Nx B.next B C → F C := fun C h => hF2 C fun b hb _ => h.keep b hb
      have G0 := fun M hM => (hF1 M hM A.next (by omega) (by omega) 0).trans b0
      have G1 := fun M hM => (hF1 M hM A.next (by omega) (by omega) 1).trans b1
      have G2 := fun M hM => (hF1 M hM A.next (by omega) (by omega) 2).trans b2
      have hbk : Nx B.next B (bump B 28) := Nx.bump (Nx.refl hB.wf _) 28
      have FB := hF _ hbk
      have hw1 : IntKind.i64.wrap ((st.length : Int) - (k' : Int)) = (st.length : Int) - (k' : Int) := by rw [IntWalk.i64_in _ (by omega)]
      refine Rn.drawnF hc hx (tlS m sa st.length sc ra ro.length rc st ro fun i => atL st ro (k' + i)) F (n := 4) (k := 28) (by kernel_rfl) (by kernel_rfl) (by rfl) ?_
      refine Dr.read (by first | rfl | kernel_rfl) (by rfl) (by assumption) (fun M hM => by simp only [sev_tmp, fx, fad, adr_p, Nat.add_zero, fo24_0, s2] <;> rfl) (by rfl) (by first | exact VQ.int _ _ | exact VQ.bool _ | exact VQ.ptr _ _ | exact VQ.slice _ _ _ | exact VQ.func (by simp [vq_int, vq_ptr, vq_slice]) (by simp [vq_int, vq_ptr, vq_slice]) | exact VQ.agg (by simp [vq_int, vq_ptr, vq_slice]) | exact VQ.tuple (by simp [vq_int, vq_ptr, vq_slice])) ?_
      refine Dr.read (by first | rfl | kernel_rfl) (by rfl) (by assumption) (fun M hM => by simp only [sev_tmp, sg_eq, Nat.reduceLT, fx, ld, adr_p, tk3, hn, G0 M hM] <;> rfl) (by rfl) (by first | exact VQ.int _ _ | exact VQ.bool _ | exact VQ.ptr _ _ | exact VQ.slice _ _ _ | exact VQ.func (by simp [vq_int, vq_ptr, vq_slice]) (by simp [vq_int, vq_ptr, vq_slice]) | exact VQ.agg (by simp [vq_int, vq_ptr, vq_slice]) | exact VQ.tuple (by simp [vq_int, vq_ptr, vq_slice])) ?_
      refine Dr.read (by first | rfl | kernel_rfl) (by rfl) (by assumption) (fun M hM => by simp only [sev_tmp, sg_ne, ne_eq, Nat.reduceEqDiff, not_false_eq_true, fx, ld, adr_p, cls, Nat.zero_add, Nat.reduceAdd, tk24, s2, G0 M hM, G1 M hM, G2 M hM] <;> rfl) (by rfl) (by first | exact VQ.int _ _ | exact VQ.bool _ | exact VQ.ptr _ _ | exact VQ.slice _ _ _ | exact VQ.func (by simp [vq_int, vq_ptr, vq_slice]) (by simp [vq_int, vq_ptr, vq_slice]) | exact VQ.agg (by simp [vq_int, vq_slice]) | exact VQ.tuple (by simp [vq_int, vq_ptr, vq_slice])) ?_
      refine Dr.read (by first | rfl | kernel_rfl) (by rfl) (by assumption) (fun M hM => by simp only [sev_tmp, sg_eq, sp_n, Nat.reduceLT, fx, Nat.zero_add, Value.cells, Nat.reduceAdd, hn, bd86, List.size_toArray, List.length_cons, List.length_nil] <;> rfl) (by rfl) (by first | exact VQ.int _ _ | exact VQ.bool _ | exact VQ.ptr _ _ | exact VQ.slice _ _ _ | exact VQ.func (by simp [vq_int, vq_ptr, vq_slice]) (by simp [vq_int, vq_ptr, vq_slice]) | exact VQ.agg (by simp [vq_int, vq_slice]) | exact VQ.tuple (by simp [vq_int, vq_ptr, vq_slice])) ?_
      refine Dr.read (by first | rfl | kernel_rfl) (by rfl) (by assumption) (fun M hM => by simp only [sev_tmp, sg_ne, ne_eq, Nat.reduceEqDiff, not_false_eq_true, fx, s1] <;> rfl) (by rfl) (by first | exact VQ.int _ _ | exact VQ.bool _ | exact VQ.ptr _ _ | exact VQ.slice _ _ _ | exact VQ.func (by simp [vq_int, vq_ptr, vq_slice]) (by simp [vq_int, vq_ptr, vq_slice]) | exact VQ.agg (by simp [vq_int, vq_ptr, vq_slice]) | exact VQ.tuple (by simp [vq_int, vq_ptr, vq_slice])) ?_
      refine Dr.read (by first | rfl | kernel_rfl) (by rfl) (by assumption) (fun M hM => by simp only [sev_tmp, sg_ne, ne_eq, Nat.reduceEqDiff, not_false_eq_true, fx, fad, adr_p, Nat.zero_add, fo24_1, s2] <;> rfl) (by rfl) (by first | exact VQ.int _ _ | exact VQ.bool _ | exact VQ.ptr _ _ | exact VQ.slice _ _ _ | exact VQ.func (by simp [vq_int, vq_ptr, vq_slice]) (by simp [vq_int, vq_ptr, vq_slice]) | exact VQ.agg (by simp [vq_int, vq_ptr, vq_slice]) | exact VQ.tuple (by simp [vq_int, vq_ptr, vq_slice])) ?_
      refine Dr.read (by first | rfl | kernel_rfl) (by rfl) (by assumption) (fun M hM => by simp only [sev_tmp, sg_eq, sp_n, Nat.reduceLT, fx, ld, adr_p, tk22, hn, G1 M hM] <;> rfl) (by rfl) (by first | exact VQ.int _ _ | exact VQ.bool _ | exact VQ.ptr _ _ | exact VQ.slice _ _ _ | exact VQ.func (by simp [vq_int, vq_ptr, vq_slice]) (by simp [vq_int, vq_ptr, vq_slice]) | exact VQ.agg (by simp [vq_int, vq_ptr, vq_slice]) | exact VQ.tuple (by simp [vq_int, vq_ptr, vq_slice])) ?_
      refine Dr.read (by first | rfl | kernel_rfl) (by rfl) (by assumption) (fun M hM => by simp only [sev_tmp, sg_eq, sp_n, Nat.reduceLT, fx, lng, un22, hn] <;> rfl) (by rfl) (by first | exact VQ.int _ _ | exact VQ.bool _ | exact VQ.ptr _ _ | exact VQ.slice _ _ _ | exact VQ.func (by simp [vq_int, vq_ptr, vq_slice]) (by simp [vq_int, vq_ptr, vq_slice]) | exact VQ.agg (by simp [vq_int, vq_ptr, vq_slice]) | exact VQ.tuple (by simp [vq_int, vq_ptr, vq_slice])) ?_
      refine Dr.read (by first | rfl | kernel_rfl) (by rfl) (by assumption) (fun M hM => by simp only [sev_tmp, sg_ne, ne_eq, Nat.reduceEqDiff, not_false_eq_true, fx, s1] <;> rfl) (by rfl) (by first | exact VQ.int _ _ | exact VQ.bool _ | exact VQ.ptr _ _ | exact VQ.slice _ _ _ | exact VQ.func (by simp [vq_int, vq_ptr, vq_slice]) (by simp [vq_int, vq_ptr, vq_slice]) | exact VQ.agg (by simp [vq_int, vq_ptr, vq_slice]) | exact VQ.tuple (by simp [vq_int, vq_ptr, vq_slice])) ?_
      refine Dr.read (by first | rfl | kernel_rfl) (by rfl) (by assumption) (fun M hM => by simp only [sev_tmp, sg_eq, sg_ne, sp_n, Nat.reduceLT, ne_eq, Nat.reduceEqDiff, not_false_eq_true, fx, bin_sub, hn, hw1] <;> rfl) (by rfl) (by first | exact VQ.int _ _ | exact VQ.bool _ | exact VQ.ptr _ _ | exact VQ.slice _ _ _ | exact VQ.func (by simp [vq_int, vq_ptr, vq_slice]) (by simp [vq_int, vq_ptr, vq_slice]) | exact VQ.agg (by simp [vq_int, vq_ptr, vq_slice]) | exact VQ.tuple (by simp [vq_int, vq_ptr, vq_slice])) ?_
      refine Dr.read (by first | rfl | kernel_rfl) (by rfl) (by assumption) (fun M hM => by simp only [sg_eq, sp_n, Nat.reduceLT, fx, hn, ae_mxdc, mxd_int, mxd_sub] <;> rfl) (by rfl) (by first | exact VQ.int _ _ | exact VQ.bool _ | exact VQ.ptr _ _ | exact VQ.slice _ _ _ | exact VQ.func (by simp [vq_int, vq_ptr, vq_slice]) (by simp [vq_int, vq_ptr, vq_slice]) | exact VQ.agg (by simp [vq_int, vq_ptr, vq_slice]) | exact VQ.tuple (by simp [vq_int, vq_ptr, vq_slice])) ?_
      refine Dr.call (by kernel_rfl) (by rfl) (by assumption) (by rfl) (opRun_call (by rfl) ⟨by rfl, by rfl⟩ (by rfl) (xs := [.agg #[.int .i64 m, .slice sa st.length sc, .slice ra ro.length rc], .int .i64 (k' : Int), .int .i64 ((st.length - k' : Nat) : Int)]) (by simp only [sev_tmp, sg_eq, sg_ne, sp_n, Nat.reduceLT, ne_eq, Nat.reduceEqDiff, not_false_eq_true, List.map_cons, List.map_nil, List.nil_append, List.append_nil, hn]) (Con.mono (take_wide hbk.wf ((hs.nx (hxB.trans (hbk.le hxB.next)) (Nat.le_refl _)).mono (Nat.le_refl _) (by have := hxB.next; have := hbk.next; omega)) ((hr.nx (hxB.trans (hbk.le hxB.next)) (Nat.le_refl _)).mono (Nat.le_refl _) (by have := hxB.next; have := hbk.next; omega)) (by omega) (by omega) hro (n := k') (many := st.length - k') (by omega) (by omega)) fun v A1 h => tlS_put (by obtain ⟨a', h1, h2, h3, _, h4⟩ := h; exact ⟨a', h1, h2, h3, h4⟩))) ?_
      intro v C1 h
      obtain ⟨a1, rfl, k1, i1, y1⟩ := tlS_get h
      have hC1 : Nx B.next B C1 := hbk.trans (k1.le hbk.next)
      have F1 := hF _ hC1
      refine Dr.read (by first | rfl | kernel_rfl) (by rfl) (by assumption) (fun M hM => by simp only [sev_tmp, sg_ne, ne_eq, Nat.reduceEqDiff, not_false_eq_true, fx, ld, adr_p, cls, Nat.zero_add, Nat.reduceAdd, tk24, s2, G0 M hM, G1 M hM, G2 M hM] <;> rfl) (by rfl) (by first | exact VQ.int _ _ | exact VQ.bool _ | exact VQ.ptr _ _ | exact VQ.slice _ _ _ | exact VQ.func (by simp [vq_int, vq_ptr, vq_slice]) (by simp [vq_int, vq_ptr, vq_slice]) | exact VQ.agg (by simp [vq_int, vq_slice]) | exact VQ.tuple (by simp [vq_int, vq_ptr, vq_slice])) ?_
      refine Dr.read (by first | rfl | kernel_rfl) (by rfl) (by assumption) (fun M hM => by simp only [sev_tmp, sg_eq, sp_n, Nat.reduceLT, fx, Nat.zero_add, Value.cells, Nat.reduceAdd, hn, bd86, List.size_toArray, List.length_cons, List.length_nil] <;> rfl) (by rfl) (by first | exact VQ.int _ _ | exact VQ.bool _ | exact VQ.ptr _ _ | exact VQ.slice _ _ _ | exact VQ.func (by simp [vq_int, vq_ptr, vq_slice]) (by simp [vq_int, vq_ptr, vq_slice]) | exact VQ.agg (by simp [vq_int, vq_slice]) | exact VQ.tuple (by simp [vq_int, vq_ptr, vq_slice])) ?_
      refine Dr.read (by first | rfl | kernel_rfl) (by rfl) (by assumption) (fun M hM => by simp only [sev_tmp, sg_ne, ne_eq, Nat.reduceEqDiff, not_false_eq_true, fx, s1] <;> rfl) (by rfl) (by first | exact VQ.int _ _ | exact VQ.bool _ | exact VQ.ptr _ _ | exact VQ.slice _ _ _ | exact VQ.func (by simp [vq_int, vq_ptr, vq_slice]) (by simp [vq_int, vq_ptr, vq_slice]) | exact VQ.agg (by simp [vq_int, vq_ptr, vq_slice]) | exact VQ.tuple (by simp [vq_int, vq_ptr, vq_slice])) ?_
      refine Dr.read (by first | rfl | kernel_rfl) (by rfl) (by assumption) (fun M hM => by simp only [sev_tmp, sg_ne, ne_eq, Nat.reduceEqDiff, not_false_eq_true, fx, fad, adr_p, Nat.zero_add, fo24_1, s2] <;> rfl) (by rfl) (by first | exact VQ.int _ _ | exact VQ.bool _ | exact VQ.ptr _ _ | exact VQ.slice _ _ _ | exact VQ.func (by simp [vq_int, vq_ptr, vq_slice]) (by simp [vq_int, vq_ptr, vq_slice]) | exact VQ.agg (by simp [vq_int, vq_ptr, vq_slice]) | exact VQ.tuple (by simp [vq_int, vq_ptr, vq_slice])) ?_
      refine Dr.read (by first | rfl | kernel_rfl) (by rfl) (by assumption) (fun M hM => by simp only [sev_tmp, sg_eq, sp_n, Nat.reduceLT, fx, ld, adr_p, tk22, hn, G1 M hM] <;> rfl) (by rfl) (by first | exact VQ.int _ _ | exact VQ.bool _ | exact VQ.ptr _ _ | exact VQ.slice _ _ _ | exact VQ.func (by simp [vq_int, vq_ptr, vq_slice]) (by simp [vq_int, vq_ptr, vq_slice]) | exact VQ.agg (by simp [vq_int, vq_ptr, vq_slice]) | exact VQ.tuple (by simp [vq_int, vq_ptr, vq_slice])) ?_
      refine Dr.read (by first | rfl | kernel_rfl) (by rfl) (by assumption) (fun M hM => by simp only [sev_tmp, sg_eq, sp_n, Nat.reduceLT, fx, lng, un22, hn] <;> rfl) (by rfl) (by first | exact VQ.int _ _ | exact VQ.bool _ | exact VQ.ptr _ _ | exact VQ.slice _ _ _ | exact VQ.func (by simp [vq_int, vq_ptr, vq_slice]) (by simp [vq_int, vq_ptr, vq_slice]) | exact VQ.agg (by simp [vq_int, vq_ptr, vq_slice]) | exact VQ.tuple (by simp [vq_int, vq_ptr, vq_slice])) ?_
      refine Dr.read (by first | rfl | kernel_rfl) (by rfl) (by assumption) (fun M hM => by simp only [sg_eq, sg_ne, sp_n, Nat.reduceLT, ne_eq, Nat.reduceEqDiff, not_false_eq_true, fx, hn, ae_mxd2, mxd_int, mxd_nat] <;> rfl) (by rfl) (by first | exact VQ.int _ _ | exact VQ.bool _ | exact VQ.ptr _ _ | exact VQ.slice _ _ _ | exact VQ.func (by simp [vq_int, vq_ptr, vq_slice]) (by simp [vq_int, vq_ptr, vq_slice]) | exact VQ.agg (by simp [vq_int, vq_ptr, vq_slice]) | exact VQ.tuple (by simp [vq_int, vq_ptr, vq_slice])) ?_
      refine Dr.read (by first | rfl | kernel_rfl) (by rfl) (by assumption) (fun M hM => by simp only [sev_tmp, sg_ne, ne_eq, Nat.reduceEqDiff, not_false_eq_true, fx, fad, adr_p, Nat.zero_add, fo24_2, s2] <;> rfl) (by rfl) (by first | exact VQ.int _ _ | exact VQ.bool _ | exact VQ.ptr _ _ | exact VQ.slice _ _ _ | exact VQ.func (by simp [vq_int, vq_ptr, vq_slice]) (by simp [vq_int, vq_ptr, vq_slice]) | exact VQ.agg (by simp [vq_int, vq_ptr, vq_slice]) | exact VQ.tuple (by simp [vq_int, vq_ptr, vq_slice])) ?_
      refine Dr.read (by first | rfl | kernel_rfl) (by rfl) (by assumption) (fun M hM => by simp only [sev_tmp, sg_eq, sp_n, Nat.reduceLT, fx, ld, adr_p, tk22, hn, G2 M hM] <;> rfl) (by rfl) (by first | exact VQ.int _ _ | exact VQ.bool _ | exact VQ.ptr _ _ | exact VQ.slice _ _ _ | exact VQ.func (by simp [vq_int, vq_ptr, vq_slice]) (by simp [vq_int, vq_ptr, vq_slice]) | exact VQ.agg (by simp [vq_int, vq_ptr, vq_slice]) | exact VQ.tuple (by simp [vq_int, vq_ptr, vq_slice])) ?_
      refine Dr.read (by first | rfl | kernel_rfl) (by rfl) (by assumption) (fun M hM => by simp only [sev_tmp, sg_eq, sp_n, Nat.reduceLT, fx, lng, un22, hn] <;> rfl) (by rfl) (by first | exact VQ.int _ _ | exact VQ.bool _ | exact VQ.ptr _ _ | exact VQ.slice _ _ _ | exact VQ.func (by simp [vq_int, vq_ptr, vq_slice]) (by simp [vq_int, vq_ptr, vq_slice]) | exact VQ.agg (by simp [vq_int, vq_ptr, vq_slice]) | exact VQ.tuple (by simp [vq_int, vq_ptr, vq_slice])) ?_
      have hxC1 : Nx A.next A C1 := hxB.trans (hC1.le hxB.next)
      refine Dr.call (by kernel_rfl) (by rfl) (by assumption) (by rfl) (opRun_call (by rfl) ⟨by rfl, by rfl⟩ (by rfl) (xs := [.agg #[.int .i64 m, .slice sa st.length sc, .slice ra ro.length rc], .int .i64 ((max k' st.length : Nat) : Int), .int .i64 (ro.length : Int)]) (by simp only [sev_tmp, sg_eq, sg_ne, sp_n, Nat.reduceLT, ne_eq, Nat.reduceEqDiff, not_false_eq_true, List.map_cons, List.map_nil, List.nil_append, List.append_nil, hn]) (Con.mono (take_wide hC1.wf ((hs.nx hxC1 (Nat.le_refl _)).mono (Nat.le_refl _) hxC1.next) ((hr.nx hxC1 (Nat.le_refl _)).mono (Nat.le_refl _) hxC1.next) (by omega) (by omega) hro (n := max k' st.length) (many := ro.length) (by omega) (by omega)) fun v A1 h => tlS_put (by obtain ⟨a', h1, h2, h3, _, h4⟩ := h; exact ⟨a', h1, h2, h3, h4⟩))) ?_
      intro v C2 h
      obtain ⟨a2, rfl, k2, i2, y2⟩ := tlS_get h
      have hC2 : Nx B.next B C2 := hC1.trans (k2.le hC1.next)
      have F2 := hF _ hC2
      have hxC2 : Nx A.next A C2 := hxB.trans (hC2.le hxB.next)
      have hlr := least_run k2.wf (m := m) (sc := st.length - k') (rc := ro.length) (((i1.nx k2 (Nat.le_refl _)).mono (Nat.zero_le _) k2.next)) (i2.mono (Nat.zero_le _) (Nat.le_refl _)) (by rw [takeL_len]; omega) (by rw [takeL_len]; omega) (by rw [takeL_len]; exact hro) ((y1.nx k1.wf k2).mono (Nat.zero_le _)) (by rw [takeL_len]; exact Nat.le_refl _)
      rw [tail_lists hro k'] at hlr
      simp only [takeL_len] at hlr
      refine Dr.call (by kernel_rfl) (by rfl) (by assumption) (by rfl) (opRun_call (by rfl) ⟨by rfl, by rfl⟩ (by rfl) (xs := [.int .i64 m, .slice a1 (st.length - k') (st.length - k'), .slice a2 ro.length ro.length]) (by simp only [sev_tmp, sg_eq, sg_ne, sp_n, Nat.reduceLT, ne_eq, Nat.reduceEqDiff, not_false_eq_true, List.map_cons, List.map_nil, List.nil_append, List.append_nil, hn]) (Con.mono hlr fun v A1 h => (by obtain ⟨a, p, h1, _, _, h2⟩ := h; exact ⟨a, p, h1, h2⟩))) ?_
      rintro v C3 ⟨a, p, hred, hq⟩
      have hC3 : Nx B.next B C3 := hC2.trans (hq.1.le hC2.next)
      have F3 := hF _ hC3
      obtain ⟨mm, n1, n2, ee, p1, c1, p2, c2, rfl, D, q1, g0, g1, g2, hoff, hT⟩ := Tld.fin (b := A0.next) hxC2 hn0A (by have := hC2.next; omega) ((hC2.keep _ (by omega)).trans lB) (tld_q (m := m) hred hq)
      refine Dr.read (by first | rfl | kernel_rfl) (by rfl) (by assumption) (fun M hM => by simp only [sev_tmp, sg_eq, sp_n, Nat.reduceLT, fx, ext, List.getElem?_toArray, List.getElem?_cons_zero, hn] <;> rfl) (by rfl) (by first | exact VQ.int _ _ | exact VQ.bool _ | exact VQ.ptr _ _ | exact VQ.slice _ _ _ | exact VQ.func (by simp [vq_int, vq_ptr, vq_slice]) (by simp [vq_int, vq_ptr, vq_slice]) | exact VQ.agg (by simp [vq_int, vq_slice]) | exact VQ.tuple (by simp [vq_int, vq_ptr, vq_slice])) ?_
      refine Dr.read (by first | rfl | kernel_rfl) (by rfl) (by assumption) (fun M hM => by simp only [sev_tmp, sg_eq, sg_ne, sp_n, Nat.reduceLT, ne_eq, Nat.reduceEqDiff, not_false_eq_true, fx, ext, List.getElem?_toArray, List.getElem?_cons_zero, List.getElem?_cons_succ, hn] <;> rfl) (by rfl) (by first | exact VQ.int _ _ | exact VQ.bool _ | exact VQ.ptr _ _ | exact VQ.slice _ _ _ | exact VQ.func (by simp [vq_int, vq_ptr, vq_slice]) (by simp [vq_int, vq_ptr, vq_slice]) | exact VQ.agg (by simp [vq_int, vq_ptr, vq_slice]) | exact VQ.tuple (by simp [vq_int, vq_ptr, vq_slice])) ?_
      have FD : F D := hF2 D fun b hb hne => (hoff b hne).trans (hC3.keep b hb)
      refine Dr.eff (by rfl) (by rfl) (pd1 := []) (pd2 := []) (by kernel_rfl) (by kernel_rfl) (ms0 := []) (A0 := C3) rfl (fun _ h => by cases h) F3 (by rfl) (v := undef) (A1 := D) (opRun_op rfl (fx_ok (by rfl) (by simp only [sev_tmp, sg_eq, sg_ne, sp_n, Nat.reduceLT, ne_eq, Nat.reduceEqDiff, not_false_eq_true, fx, str, adr_p, Nat.zero_add, Nat.reduceAdd, tk24, hn, s4, q1, List.size_toArray, List.length_cons, List.length_nil, Nat.beq_refl]))) ?_
      refine Dr.read (by first | rfl | kernel_rfl) (by rfl) (by assumption) (fun M hM => by simp only [sev_tmp, sg_eq, sp_n, sp_none, Nat.reduceLT, fx, hn] <;> rfl) (by rfl) (by first | exact VQ.int _ _ | exact VQ.bool _ | exact VQ.ptr _ _ | exact VQ.slice _ _ _ | exact VQ.func (by simp [vq_int, vq_ptr, vq_slice]) (by simp [vq_int, vq_ptr, vq_slice]) | exact VQ.agg (by simp [vq_int, vq_ptr, vq_slice]) | exact VQ.tuple (by simp [vq_int, vq_ptr, vq_slice])) ?_
      refine Dr.nil (by rfl) (fun M hM => by cases hM) FD ⟨D, by rfl, ?_⟩
      (repeat (first | refine Rn.seq hc ?_ | refine Rn.skip hc ?_ | refine Rn.block hc ?_ | refine Rn.inBlock hc ?_ | refine Rn.scope hc ?_ | refine Rn.inScope hc ?_))
      refine Rn.ret (endQ_ct rfl (v := .agg #[.int .i64 mm, .slice p1 n1 c1, .slice p2 n2 c2]) ?_ ?_)
      · simp only [sg_ne, sp_none, ne_eq, Nat.reduceEqDiff, not_false_eq_true, ld, adr_p, cls, Nat.zero_add, Nat.reduceAdd, tk24, s4, g0, g1, g2]
      · simp only [sg_eq, sp_n, sp_none, Nat.reduceLT, hn]
        exact hT
  · have hd : (!decide (errL m st ro = 0)) = true := by rw [decide_eq_false he]; rfl
    obtain ⟨D, q1, g0, g1, g2, hxD⟩ := err_fin hx04 hn0A n4 l4
    rw [if_neg he]
    refine Rn.reg hc rfl ?_
    simp only [sev_tmp, sev_const, sg_eq, sp_n, Nat.reduceLT, gd, want_free, rops, fx, bin_neq, Option.some.injEq, exists_eq_left', hd]
    (repeat (first | refine Rn.seq hc ?_ | refine Rn.skip hc ?_ | refine Rn.block hc ?_ | refine Rn.inBlock hc ?_ | refine Rn.scope hc ?_ | refine Rn.inScope hc ?_))
    refine Rn.condE hc rfl ?_
    simp only [sev_tmp, sg_eq, sp_n, Nat.reduceLT, Value.bool.injEq, exists_eq_left']
    (repeat (first | refine Rn.seq hc ?_ | refine Rn.skip hc ?_ | refine Rn.block hc ?_ | refine Rn.inBlock hc ?_ | refine Rn.scope hc ?_ | refine Rn.inScope hc ?_))
    refine Rn.reg hc rfl ?_
    simp only [sev_tmp, sg_eq, sg_ne, sp_n, sp_none, Nat.reduceLT, ne_eq, Nat.reduceEqDiff, not_false_eq_true, gd, want_free, rops, fx, str, adr_p, Nat.zero_add, Option.some.injEq, exists_eq_left', Nat.reduceAdd, tk24, bd24_z, q1, List.size_toArray, List.length_cons, List.length_nil, Nat.beq_refl]
    (repeat (first | refine Rn.seq hc ?_ | refine Rn.skip hc ?_ | refine Rn.block hc ?_ | refine Rn.inBlock hc ?_ | refine Rn.scope hc ?_ | refine Rn.inScope hc ?_))
    refine Rn.ret (endQ_ct rfl (v := .agg #[.int .i64 0, .slice none 0 0, .slice none 0 0]) ?_ ?_)
    · simp only [sg_eq, sg_ne, sp_n, Nat.reduceLT, ne_eq, Nat.reduceEqDiff, not_false_eq_true, ld, adr_p, cls, Nat.zero_add, Nat.reduceAdd, tk24, g0, g1, g2]
    · simp only [sg_eq, sp_n, Nat.reduceLT]
      exact tld_err he hxD
end Go.Proofs.Ytdaljohmfnfgiaa
/- The reference's rest of a stream. No condition. -/
namespace Go.Proofs.Ytdaljohmfnfgiaa
open Go Go.RowKit Go.Proofs.Ytdaljohmfnfgiaa.Canon
set_option maxRecDepth 20000


/-- The calls of a tail. -/
def trS (m : Int) (sa : Option Addr) (sl sc : Nat) (ra : Option Addr) (rl rc : Nat) (st ro : List Int) (E : Nat → Int) : Canon.Spec := fun g xs A v A1 => match g with
  | 70 => ∃ a p, Red E a p ∧ LeastR A m E a p v A1
  | _ => ∃ (n k : Nat) (a' : Option Addr), xs = [.agg #[.int .i64 m, .slice sa sl sc, .slice ra rl rc], .int .i64 (n : Int), .int .i64 (k : Int)] ∧ v = .slice a' k k ∧ Nx A.next A A1 ∧ Ints A1 a' A.next A1.next (takeL st ro n k) ∧ Sl A1 a' A.next

theorem trS_put {m : Int} {sa ra : Option Addr} {sl sc rl rc n k : Nat} {st ro : List Int} {E : Nat → Int} {A A1 : AHeap} {v : Value} (h : ∃ a', v = .slice a' k k ∧ Nx A.next A A1 ∧ Ints A1 a' A.next A1.next (takeL st ro n k) ∧ Sl A1 a' A.next) :
    trS m sa sl sc ra rl rc st ro E 79 [.agg #[.int .i64 m, .slice sa sl sc, .slice ra rl rc], .int .i64 (n : Int), .int .i64 (k : Int)] A v A1 := by
  obtain ⟨a', h1, h2, h3, h4⟩ := h
  exact ⟨n, k, a', rfl, h1, h2, h3, h4⟩
theorem trS_get {m : Int} {sa ra : Option Addr} {sl sc rl rc n k : Nat} {st ro : List Int} {E : Nat → Int} {A A1 : AHeap} {v : Value} (h : trS m sa sl sc ra rl rc st ro E 79 [.agg #[.int .i64 m, .slice sa sl sc, .slice ra rl rc], .int .i64 (n : Int), .int .i64 (k : Int)] A v A1) :
    ∃ a', v = .slice a' k k ∧ Nx A.next A A1 ∧ Ints A1 a' A.next A1.next (takeL st ro n k) ∧ Sl A1 a' A.next := by
  obtain ⟨n', k', a', e, h1, h2, h3, h4⟩ := h
  simp only [List.cons.injEq, Value.int.injEq, true_and, and_true] at e
  have hn : n' = n := by omega
  have hk : k' = k := by omega
  subst hn hk
  exact ⟨a', h1, h2, h3, h4⟩
theorem mxd_sub' (a b : Nat) : max 0 ((a : Int) - (b : Int)) = ((a - b : Nat) : Int) := by omega
theorem tail_ref {A : AHeap} (hw : WF A) {m n : Int} {sa ra : Option Addr} {sc rc : Nat} {st ro : List Int} (hs : Ints A sa 0 A.next st) (hr : Ints A ra 0 A.next ro) (ls : st.length < 4611686018427387904) (lr : ro.length < 4611686018427387904) (hn63 : n < 9223372036854775808) :
    Con Try.prog 34 [.agg #[.int .i64 m, .slice sa st.length sc, .slice ra ro.length rc], .int .i64 n] A (TldR A (erN m st ro n) m fun i => atL st ro (n.toNat + i)) := by
  refine con_of_rn hc Try.func34 rfl (Nat.le_of_ble_eq_true rfl) ?_
  obtain ⟨A0, e0, hx0, hn0, b0, b1, b2⟩ := box3 hw (.int .i64 m) (.slice sa st.length sc) (.slice ra ro.length rc) 24
  have hx1 : Nx A0.next A0 (A0.push (.cells #[.int .i64 0, .slice none 0 0, .slice none 0 0] 24)) := (Nx.refl hx0.wf _).push (Nat.le_refl _) _
  have l1 := look_push_eq A0 (.cells #[.int .i64 0, .slice none 0 0, .slice none 0 0] 24)
  have hn1 : (A0.push (.cells #[.int .i64 0, .slice none 0 0, .slice none 0 0] 24)).next = A0.next + 1 := rfl
  generalize e1 : A0.push (.cells #[.int .i64 0, .slice none 0 0, .slice none 0 0] 24) = A1 at hx1 l1 hn1
  have hx01 : Nx A.next A A1 := hx0.trans (hx1.le hx0.next)
  have b0 := (hx1.cl (show A.next < A0.next by omega) 0).trans b0
  have b1 := (hx1.cl (show A.next < A0.next by omega) 1).trans b1
  have b2 := (hx1.cl (show A.next < A0.next by omega) 2).trans b2
  rw [s_in2]
  (repeat (first | refine Rn.seq hc ?_ | refine Rn.skip hc ?_ | refine Rn.block hc ?_ | refine Rn.inBlock hc ?_ | refine Rn.scope hc ?_ | refine Rn.inScope hc ?_))
  refine Rn.reg hc rfl ?_
  simp only [sev_tmp, sev_const, sg_eq, sg_ne, Nat.reduceLT, ne_eq, Nat.reduceEqDiff, not_false_eq_true, gd, want_free, rops, fx, Option.some.injEq, exists_eq_left', Value.cells, show Try.f34.ntmps = 59 from rfl, e0, ze24, e1]
  (repeat (first | refine Rn.seq hc ?_ | refine Rn.skip hc ?_ | refine Rn.block hc ?_ | refine Rn.inBlock hc ?_ | refine Rn.scope hc ?_ | refine Rn.inScope hc ?_))
  refine Rn.region hc fun K hK => ?_
  refine Wo.run hc 1 rfl rfl rfl ?_
  simp (maxSteps := 2000000) only [List.drop_zero, List.take_succ_cons, List.take_zero, sev_tmp, sg_eq, sg_ne, sp_n, Nat.reduceLT, ne_eq, Nat.reduceEqDiff, not_false_eq_true, gd, want_free, rops, fx, ld, adr_p, cls, Nat.zero_add, Option.some.injEq, exists_eq_left', Nat.reduceAdd, tk24, b0, b1, b2]
  refine Wo.call hc (by rfl) (by rfl) ⟨by rfl, by rfl⟩ (xs := [.agg #[.int .i64 m, .slice sa st.length sc, .slice ra ro.length rc]]) (by rfl) (by rfl) (by rfl) (Con.mono (check_ref hx1.wf ((hs.nx hx01 (Nat.le_refl _)).mono (Nat.le_refl _) hx01.next) ((hr.nx hx01 (Nat.le_refl _)).mono (Nat.le_refl _) hx01.next) ls lr) ?_)
  rintro w A4 ⟨rfl, hx4⟩
  refine Wo.run hc 1 rfl rfl rfl ?_
  simp (maxSteps := 2000000) only [List.drop_zero, List.drop_succ_cons, List.take_succ_cons, List.take_zero, sev_tmp, sg_eq, sp_n, Nat.reduceLT, gd, want_free, rops, fx, Option.some.injEq, exists_eq_left', Nat.reduceAdd]
  refine Wo.done hc rfl (hK _ _ ?_)
  clear hK
  (repeat (first | refine Rn.seq hc ?_ | refine Rn.skip hc ?_ | refine Rn.block hc ?_ | refine Rn.inBlock hc ?_ | refine Rn.scope hc ?_ | refine Rn.inScope hc ?_))
  have hx34 : Nx A1.next A1 A4 := hx4
  have hx04 : Nx A.next A A4 := hx01.trans (hx34.le hx01.next)
  have n4 : A0.next < A4.next := by have := hx4.next; omega
  have l4 : Canon.look A4.objs A0.next = _ := (hx34.keep _ (by omega)).trans l1
  have b0 := (hx34.cl (show A.next < A1.next by omega) 0).trans b0
  have b1 := (hx34.cl (show A.next < A1.next by omega) 1).trans b1
  have b2 := (hx34.cl (show A.next < A1.next by omega) 2).trans b2
  have hn0A := hx0.next
  clear e1 e0 hx4 hx1
  unfold erN
  by_cases he : errL m st ro = 0
  · have hd : (!decide (errL m st ro = 0)) = false := by rw [decide_eq_true he]; rfl
    obtain ⟨l60, l120⟩ := errL_len he
    have hro := errL_pos he
    rw [if_pos he]
    refine Rn.reg hc rfl ?_
    simp only [sev_tmp, sev_const, sg_eq, sp_n, Nat.reduceLT, gd, want_free, rops, fx, bin_neq, Option.some.injEq, exists_eq_left', hd]
    (repeat (first | refine Rn.seq hc ?_ | refine Rn.skip hc ?_ | refine Rn.block hc ?_ | refine Rn.inBlock hc ?_ | refine Rn.scope hc ?_ | refine Rn.inScope hc ?_))
    refine Rn.condE hc rfl ?_
    simp only [sev_tmp, sg_eq, sp_n, Nat.reduceLT, Value.bool.injEq, exists_eq_left']
    (repeat (first | refine Rn.seq hc ?_ | refine Rn.skip hc ?_ | refine Rn.block hc ?_ | refine Rn.inBlock hc ?_ | refine Rn.scope hc ?_ | refine Rn.inScope hc ?_))
    by_cases hneg : n < 0
    · have h1 : decide (n < 0) = true := decide_eq_true hneg
      obtain ⟨D, q1, g0, g1, g2, hxD⟩ := err_fin hx04 hn0A n4 l4
      rw [if_pos hneg]
      refine Rn.reg hc rfl ?_
      simp only [sev_tmp, sev_const, sg_eq, sg_ne, sp_n, Nat.reduceLT, ne_eq, Nat.reduceEqDiff, not_false_eq_true, gd, want_free, rops, fx, bin_lss, Option.some.injEq, exists_eq_left', h1]
      (repeat (first | refine Rn.seq hc ?_ | refine Rn.skip hc ?_ | refine Rn.block hc ?_ | refine Rn.inBlock hc ?_ | refine Rn.scope hc ?_ | refine Rn.inScope hc ?_))
      refine Rn.condE hc rfl ?_
      simp only [sev_tmp, sg_eq, sp_n, Nat.reduceLT, Value.bool.injEq, exists_eq_left']
      (repeat (first | refine Rn.seq hc ?_ | refine Rn.skip hc ?_ | refine Rn.block hc ?_ | refine Rn.inBlock hc ?_ | refine Rn.scope hc ?_ | refine Rn.inScope hc ?_))
      refine Rn.reg hc rfl ?_
      simp only [sev_tmp, sev_const, sg_eq, sg_ne, sp_n, sp_none, Nat.reduceLT, ne_eq, Nat.reduceEqDiff, not_false_eq_true, gd, want_free, rops, fx, str, adr_p, Nat.zero_add, Option.some.injEq, exists_eq_left', Nat.reduceAdd, tk24, bd24_z, q1, List.size_toArray, List.length_cons, List.length_nil, Nat.beq_refl]
      (repeat (first | refine Rn.seq hc ?_ | refine Rn.skip hc ?_ | refine Rn.block hc ?_ | refine Rn.inBlock hc ?_ | refine Rn.scope hc ?_ | refine Rn.inScope hc ?_))
      refine Rn.ret (endQ_ct rfl (v := .agg #[.int .i64 0, .slice none 0 0, .slice none 0 0]) ?_ ?_)
      · simp only [sg_eq, sg_ne, sp_n, Nat.reduceLT, ne_eq, Nat.reduceEqDiff, not_false_eq_true, ld, adr_p, cls, Nat.zero_add, Nat.reduceAdd, tk24, g0, g1, g2]
      · simp only [sg_eq, sp_n, Nat.reduceLT]
        exact tldR_err (by omega) hxD
    · have h1 : decide (n < 0) = false := decide_eq_false hneg
      obtain ⟨k, rfl⟩ : ∃ k : Nat, n = (k : Int) := ⟨n.toNat, by omega⟩
      rw [if_neg hneg, Int.toNat_natCast]
      refine Rn.reg hc rfl ?_
      simp only [sev_tmp, sev_const, sg_eq, sg_ne, sp_n, Nat.reduceLT, ne_eq, Nat.reduceEqDiff, not_false_eq_true, gd, want_free, rops, fx, bin_lss, Option.some.injEq, exists_eq_left', h1]
      (repeat (first | refine Rn.seq hc ?_ | refine Rn.skip hc ?_ | refine Rn.block hc ?_ | refine Rn.inBlock hc ?_ | refine Rn.scope hc ?_ | refine Rn.inScope hc ?_))
      refine Rn.condE hc rfl ?_
      simp only [sev_tmp, sg_eq, sp_n, Nat.reduceLT, Value.bool.injEq, exists_eq_left']
      (repeat (first | refine Rn.seq hc ?_ | refine Rn.skip hc ?_ | refine Rn.block hc ?_ | refine Rn.inBlock hc ?_ | refine Rn.scope hc ?_ | refine Rn.inScope hc ?_))
      have hreg : ∀ (g : Bool), decide ((st.length : Int) < (k : Int)) = g → (g = true ↔ st.length < k) := fun g h => by subst h; simp
      obtain ⟨g, hg⟩ : ∃ g, decide ((st.length : Int) < (k : Int)) = g := ⟨_, rfl⟩
      have hgi := hreg g hg
      refine Rn.reg hc rfl ?_
      simp only [sev_tmp, sg_eq, sg_ne, sp_n, Nat.reduceLT, ne_eq, Nat.reduceEqDiff, not_false_eq_true, gd, want_free, rops, fx, ld, fad, lng, bin_gtr, adr_p, Nat.zero_add, Option.some.injEq, exists_eq_left', tk22, fo24_1, un22, b1, hg]
      (repeat (first | refine Rn.seq hc ?_ | refine Rn.skip hc ?_ | refine Rn.block hc ?_ | refine Rn.inBlock hc ?_ | refine Rn.scope hc ?_ | refine Rn.inScope hc ?_))
      refine Rn.cut2 hc (Q1 := fun s ds M => ds = [] ∧ ∃ k', k' ≤ 10000 ∧ (∀ i, atL st ro (k' + i) = atL st ro (k + i)) ∧ Nx A4.next A4 M ∧ s.n = 59 ∧ sget s 1 = .int .i64 (k' : Nat) ∧ sget s 2 = .pointer (some ⟨A.next, 0, none⟩) ∧ sget s 4 = .pointer (some ⟨A0.next, 0, none⟩)) (Q2 := fun _ _ _ => False) ?_ ?_ (fun _ _ _ h => h.elim)
      · cases g with
        | true =>
          have hle : st.length ≤ k := Nat.le_of_lt (hgi.1 rfl)
          refine Rn.condE hc rfl ?_
          simp only [sev_tmp, sg_eq, sp_n, Nat.reduceLT, Value.bool.injEq, exists_eq_left']
          (repeat (first | refine Rn.seq hc ?_ | refine Rn.skip hc ?_ | refine Rn.block hc ?_ | refine Rn.inBlock hc ?_ | refine Rn.scope hc ?_ | refine Rn.inScope hc ?_))
          have hw1 : IntKind.i64.wrap ((k : Int) - (st.length : Int)) = ((k - st.length : Nat) : Int) := by rw [IntWalk.i64_in _ (by omega)]; omega
          have hmod := Nat.mod_lt (k - st.length) hro
          have hrem : ∀ M, bin Try.prog .rem 3 (.int .i64 ((k - st.length : Nat) : Int)) (.int .i64 (ro.length : Int)) M = some (.int .i64 (((k - st.length) % ro.length : Nat) : Int), M) := fun M => by
            rw [bin_rem _ _ _ _ (by omega), IntWalk.rem_in _ _ (by omega)]
            rfl
          have hw2 : IntKind.i64.wrap ((st.length : Int) + (((k - st.length) % ro.length : Nat) : Int)) = ((st.length + (k - st.length) % ro.length : Nat) : Int) := by rw [IntWalk.i64_in _ (by omega)]; omega
          refine Rn.drawnR hc hx (by kernel_rfl) (by rfl) (by kernel_rfl) ?_ ?_
          · simp only [rdV, VQ.int, VQ.ptr, VQ.slice, cl_bump, sev_tmp, sg_eq, sg_ne, sp_n, Nat.reduceLT, ne_eq, Nat.reduceEqDiff, not_false_eq_true, gd, want_free, fx, ld, fad, lng, bin_add, bin_sub, adr_p, Nat.zero_add, and_self, tk22, fo24_1, fo24_2, un22, b1, b2, hw1, hrem, hw2]
          simp only [cl_bump, sev_tmp, sg_eq, sg_ne, sp_n, Nat.reduceLT, ne_eq, Nat.reduceEqDiff, not_false_eq_true, gd, want_free, rops, fx, ld, fad, lng, bin_add, bin_sub, adr_p, Nat.zero_add, Option.some.injEq, exists_eq_left', tk22, fo24_1, fo24_2, un22, b1, b2, hw1, hrem, hw2]
          (repeat (first | refine Rn.seq hc ?_ | refine Rn.skip hc ?_ | refine Rn.block hc ?_ | refine Rn.inBlock hc ?_ | refine Rn.scope hc ?_ | refine Rn.inScope hc ?_))
          exact Rn.fall ⟨rfl, _, by omega, tail_same hro hle, Nx.bump (Nx.refl hx04.wf _) _, by simp only [sp_n], by simp only [sg_eq, sp_n, Nat.reduceLT], by simp only [sg_eq, sg_ne, sp_n, Nat.reduceLT, ne_eq, Nat.reduceEqDiff, not_false_eq_true], by simp only [sg_eq, sg_ne, sp_n, Nat.reduceLT, ne_eq, Nat.reduceEqDiff, not_false_eq_true, hn0]⟩
        | false =>
          have hle : k ≤ st.length := Nat.le_of_not_lt fun h => by have := hgi.2 h; cases this
          refine Rn.condE hc rfl ?_
          simp only [sev_tmp, sg_eq, sp_n, Nat.reduceLT, Value.bool.injEq, exists_eq_left']
          (repeat (first | refine Rn.seq hc ?_ | refine Rn.skip hc ?_ | refine Rn.block hc ?_ | refine Rn.inBlock hc ?_ | refine Rn.scope hc ?_ | refine Rn.inScope hc ?_))
          exact Rn.fall ⟨rfl, k, by omega, fun i => rfl, Nx.refl hx04.wf _, by simp only [sp_n], by simp only [sg_eq, sg_ne, sp_n, Nat.reduceLT, ne_eq, Nat.reduceEqDiff, not_false_eq_true], by simp only [sg_eq, sg_ne, sp_n, Nat.reduceLT, ne_eq, Nat.reduceEqDiff, not_false_eq_true], by simp only [sg_eq, sg_ne, sp_n, Nat.reduceLT, ne_eq, Nat.reduceEqDiff, not_false_eq_true, hn0]⟩
      rintro s ds B ⟨rfl, k', hk', hsame, hB, hn, s1, s2, s4⟩
      have hE : (fun i => atL st ro (k + i)) = fun i => atL st ro (k' + i) := funext fun i => (hsame i).symm
      rw [hE]
      clear hE hsame hreg hgi hg hd h1 hneg hn63
      (repeat (first | refine Rn.seq hc ?_ | refine Rn.skip hc ?_ | refine Rn.block hc ?_ | refine Rn.inBlock hc ?_ | refine Rn.scope hc ?_ | refine Rn.inScope hc ?_))
      have hxB : Nx A.next A B := hx04.trans (hB.le hx04.next)
      have b0 := (hB.cl (show A.next < A4.next by omega) 0).trans b0
      have b1 := (hB.cl (show A.next < A4.next by omega) 1).trans b1
      have b2 := (hB.cl (show A.next < A4.next by omega) 2).trans b2
      have lB : Canon.look B.objs A0.next = _ := (hB.keep _ n4).trans l4
      have nB := hB.next
      obtain ⟨F, hF1, hF2⟩ : ∃ F : AHeap → Prop, (∀ C, F C → ∀ b, b < B.next → b ≠ A0.next → ∀ o, cl C b o = cl B b o) ∧ (∀ C, (∀ b, b < B.next → b ≠ A0.next → Canon.look C.objs b = Canon.look B.objs b) → F C) := ⟨fun C => ∀ b, b < B.next → b ≠ A0.next → ∀ o, cl C b o = cl B b o, fun _ h => h, fun C h b h1 h2 o => cl_look (h b h1 h2)⟩
      have hF : ∀ C, Nx B.next B C → F C := fun C h => hF2 C fun b hb _ => h.keep b hb
      have G0 := fun M hM => (hF1 M hM A.next (by omega) (by omega) 0).trans b0
      have G1 := fun M hM => (hF1 M hM A.next (by omega) (by omega) 1).trans b1
      have G2 := fun M hM => (hF1 M hM A.next (by omega) (by omega) 2).trans b2
      have hw1 : IntKind.i64.wrap ((st.length : Int) - (k' : Int)) = (st.length : Int) - (k' : Int) := by rw [IntWalk.i64_in _ (by omega)]
      refine Rn.reg hc rfl ?_
      simp only [sev_tmp, sg_eq, sg_ne, sp_n, Nat.reduceLT, ne_eq, Nat.reduceEqDiff, not_false_eq_true, gd, want_free, rops, fx, ld, fad, lng, bin_sub, adr_p, Nat.zero_add, Option.some.injEq, exists_eq_left', tk22, fo24_1, un22, hn, s1, s2, b1, hw1, ae_mxd, mxd_int, mxd_sub']
      (repeat (first | refine Rn.seq hc ?_ | refine Rn.skip hc ?_ | refine Rn.block hc ?_ | refine Rn.inBlock hc ?_ | refine Rn.scope hc ?_ | refine Rn.inScope hc ?_))
      have hbk : Nx B.next B (bump B 20) := Nx.bump (Nx.refl hB.wf _) 20
      have FB := hF _ hbk
      have hw2 : IntKind.i64.wrap ((k' : Int) + ((st.length - k' : Nat) : Int)) = ((k' + (st.length - k') : Nat) : Int) := by rw [IntWalk.i64_in _ (by omega)]; omega
      refine Rn.drawnF hc hx (trS m sa st.length sc ra ro.length rc st ro fun i => atL st ro (k' + i)) F (n := 4) (k := 20) (by kernel_rfl) (by kernel_rfl) (by rfl) ?_
      refine Dr.read (by first | rfl | kernel_rfl) (by rfl) (by assumption) (fun M hM => by simp only [sev_tmp, sg_ne, ne_eq, Nat.reduceEqDiff, not_false_eq_true, fx, fad, adr_p, Nat.add_zero, fo24_0, s2] <;> rfl) (by rfl) (by first | exact VQ.int _ _ | exact VQ.bool _ | exact VQ.ptr _ _ | exact VQ.slice _ _ _ | exact VQ.func (by simp [vq_int, vq_ptr, vq_slice]) (by simp [vq_int, vq_ptr, vq_slice]) | exact VQ.agg (by simp [vq_int, vq_ptr, vq_slice]) | exact VQ.tuple (by simp [vq_int, vq_ptr, vq_slice])) ?_
      refine Dr.read (by first | rfl | kernel_rfl) (by rfl) (by assumption) (fun M hM => by simp only [sev_tmp, sg_eq, sp_n, Nat.reduceLT, fx, ld, adr_p, tk3, hn, G0 M hM] <;> rfl) (by rfl) (by first | exact VQ.int _ _ | exact VQ.bool _ | exact VQ.ptr _ _ | exact VQ.slice _ _ _ | exact VQ.func (by simp [vq_int, vq_ptr, vq_slice]) (by simp [vq_int, vq_ptr, vq_slice]) | exact VQ.agg (by simp [vq_int, vq_ptr, vq_slice]) | exact VQ.tuple (by simp [vq_int, vq_ptr, vq_slice])) ?_
      refine Dr.read (by first | rfl | kernel_rfl) (by rfl) (by assumption) (fun M hM => by simp only [sev_tmp, sg_ne, ne_eq, Nat.reduceEqDiff, not_false_eq_true, fx, ld, adr_p, cls, Nat.zero_add, Nat.reduceAdd, tk24, s2, G0 M hM, G1 M hM, G2 M hM] <;> rfl) (by rfl) (by first | exact VQ.int _ _ | exact VQ.bool _ | exact VQ.ptr _ _ | exact VQ.slice _ _ _ | exact VQ.func (by simp [vq_int, vq_ptr, vq_slice]) (by simp [vq_int, vq_ptr, vq_slice]) | exact VQ.agg (by simp [vq_int, vq_slice]) | exact VQ.tuple (by simp [vq_int, vq_ptr, vq_slice])) ?_
      refine Dr.read (by first | rfl | kernel_rfl) (by rfl) (by assumption) (fun M hM => by simp only [sev_tmp, sg_ne, ne_eq, Nat.reduceEqDiff, not_false_eq_true, fx, s1] <;> rfl) (by rfl) (by first | exact VQ.int _ _ | exact VQ.bool _ | exact VQ.ptr _ _ | exact VQ.slice _ _ _ | exact VQ.func (by simp [vq_int, vq_ptr, vq_slice]) (by simp [vq_int, vq_ptr, vq_slice]) | exact VQ.agg (by simp [vq_int, vq_ptr, vq_slice]) | exact VQ.tuple (by simp [vq_int, vq_ptr, vq_slice])) ?_
      refine Dr.read (by first | rfl | kernel_rfl) (by rfl) (by assumption) (fun M hM => by simp only [sev_tmp, sg_eq, sg_ne, sp_n, Nat.reduceLT, ne_eq, Nat.reduceEqDiff, not_false_eq_true, fx, hn] <;> rfl) (by rfl) (by first | exact VQ.int _ _ | exact VQ.bool _ | exact VQ.ptr _ _ | exact VQ.slice _ _ _ | exact VQ.func (by simp [vq_int, vq_ptr, vq_slice]) (by simp [vq_int, vq_ptr, vq_slice]) | exact VQ.agg (by simp [vq_int, vq_ptr, vq_slice]) | exact VQ.tuple (by simp [vq_int, vq_ptr, vq_slice])) ?_
      refine Dr.call (by kernel_rfl) (by rfl) (by assumption) (by rfl) (opRun_call (by rfl) ⟨by rfl, by rfl⟩ (by rfl) (xs := [.agg #[.int .i64 m, .slice sa st.length sc, .slice ra ro.length rc], .int .i64 (k' : Int), .int .i64 ((st.length - k' : Nat) : Int)]) (by simp only [sev_tmp, sg_eq, sg_ne, sp_n, Nat.reduceLT, ne_eq, Nat.reduceEqDiff, not_false_eq_true, List.map_cons, List.map_nil, List.nil_append, List.append_nil, hn]) (Con.mono (first_ref hbk.wf ((hs.nx (hxB.trans (hbk.le hxB.next)) (Nat.le_refl _)).mono (Nat.le_refl _) (by have := hxB.next; have := hbk.next; omega)) ((hr.nx (hxB.trans (hbk.le hxB.next)) (Nat.le_refl _)).mono (Nat.le_refl _) (by have := hxB.next; have := hbk.next; omega)) (by omega) (by omega) hro (n := k') (many := st.length - k') (by omega) (by omega)) fun v A1 h => trS_put (by obtain ⟨a', h1, h2, h3⟩ := h; exact ⟨a', h1, h2, h3.ints, h3.sl⟩))) ?_
      intro v C1 h
      obtain ⟨a1, rfl, k1, i1, y1⟩ := trS_get h
      have hC1 : Nx B.next B C1 := hbk.trans (k1.le hbk.next)
      have F1 := hF _ hC1
      refine Dr.read (by first | rfl | kernel_rfl) (by rfl) (by assumption) (fun M hM => by simp only [sev_tmp, sg_ne, ne_eq, Nat.reduceEqDiff, not_false_eq_true, fx, ld, adr_p, cls, Nat.zero_add, Nat.reduceAdd, tk24, s2, G0 M hM, G1 M hM, G2 M hM] <;> rfl) (by rfl) (by first | exact VQ.int _ _ | exact VQ.bool _ | exact VQ.ptr _ _ | exact VQ.slice _ _ _ | exact VQ.func (by simp [vq_int, vq_ptr, vq_slice]) (by simp [vq_int, vq_ptr, vq_slice]) | exact VQ.agg (by simp [vq_int, vq_slice]) | exact VQ.tuple (by simp [vq_int, vq_ptr, vq_slice])) ?_
      refine Dr.read (by first | rfl | kernel_rfl) (by rfl) (by assumption) (fun M hM => by simp only [sev_tmp, sg_ne, ne_eq, Nat.reduceEqDiff, not_false_eq_true, fx, s1] <;> rfl) (by rfl) (by first | exact VQ.int _ _ | exact VQ.bool _ | exact VQ.ptr _ _ | exact VQ.slice _ _ _ | exact VQ.func (by simp [vq_int, vq_ptr, vq_slice]) (by simp [vq_int, vq_ptr, vq_slice]) | exact VQ.agg (by simp [vq_int, vq_ptr, vq_slice]) | exact VQ.tuple (by simp [vq_int, vq_ptr, vq_slice])) ?_
      refine Dr.read (by first | rfl | kernel_rfl) (by rfl) (by assumption) (fun M hM => by simp only [sev_tmp, sg_eq, sg_ne, sp_n, Nat.reduceLT, ne_eq, Nat.reduceEqDiff, not_false_eq_true, fx, hn] <;> rfl) (by rfl) (by first | exact VQ.int _ _ | exact VQ.bool _ | exact VQ.ptr _ _ | exact VQ.slice _ _ _ | exact VQ.func (by simp [vq_int, vq_ptr, vq_slice]) (by simp [vq_int, vq_ptr, vq_slice]) | exact VQ.agg (by simp [vq_int, vq_ptr, vq_slice]) | exact VQ.tuple (by simp [vq_int, vq_ptr, vq_slice])) ?_
      refine Dr.read (by first | rfl | kernel_rfl) (by rfl) (by assumption) (fun M hM => by simp only [sev_tmp, sg_eq, sg_ne, sp_n, Nat.reduceLT, ne_eq, Nat.reduceEqDiff, not_false_eq_true, fx, bin_add, hn, hw2] <;> rfl) (by rfl) (by first | exact VQ.int _ _ | exact VQ.bool _ | exact VQ.ptr _ _ | exact VQ.slice _ _ _ | exact VQ.func (by simp [vq_int, vq_ptr, vq_slice]) (by simp [vq_int, vq_ptr, vq_slice]) | exact VQ.agg (by simp [vq_int, vq_ptr, vq_slice]) | exact VQ.tuple (by simp [vq_int, vq_ptr, vq_slice])) ?_
      refine Dr.read (by first | rfl | kernel_rfl) (by rfl) (by assumption) (fun M hM => by simp only [sev_tmp, sg_ne, ne_eq, Nat.reduceEqDiff, not_false_eq_true, fx, fad, adr_p, Nat.zero_add, fo24_2, s2] <;> rfl) (by rfl) (by first | exact VQ.int _ _ | exact VQ.bool _ | exact VQ.ptr _ _ | exact VQ.slice _ _ _ | exact VQ.func (by simp [vq_int, vq_ptr, vq_slice]) (by simp [vq_int, vq_ptr, vq_slice]) | exact VQ.agg (by simp [vq_int, vq_ptr, vq_slice]) | exact VQ.tuple (by simp [vq_int, vq_ptr, vq_slice])) ?_
      refine Dr.read (by first | rfl | kernel_rfl) (by rfl) (by assumption) (fun M hM => by simp only [sev_tmp, sg_eq, sp_n, Nat.reduceLT, fx, ld, adr_p, tk22, hn, G2 M hM] <;> rfl) (by rfl) (by first | exact VQ.int _ _ | exact VQ.bool _ | exact VQ.ptr _ _ | exact VQ.slice _ _ _ | exact VQ.func (by simp [vq_int, vq_ptr, vq_slice]) (by simp [vq_int, vq_ptr, vq_slice]) | exact VQ.agg (by simp [vq_int, vq_ptr, vq_slice]) | exact VQ.tuple (by simp [vq_int, vq_ptr, vq_slice])) ?_
      refine Dr.read (by first | rfl | kernel_rfl) (by rfl) (by assumption) (fun M hM => by simp only [sev_tmp, sg_eq, sp_n, Nat.reduceLT, fx, lng, un22, hn] <;> rfl) (by rfl) (by first | exact VQ.int _ _ | exact VQ.bool _ | exact VQ.ptr _ _ | exact VQ.slice _ _ _ | exact VQ.func (by simp [vq_int, vq_ptr, vq_slice]) (by simp [vq_int, vq_ptr, vq_slice]) | exact VQ.agg (by simp [vq_int, vq_ptr, vq_slice]) | exact VQ.tuple (by simp [vq_int, vq_ptr, vq_slice])) ?_
      have hxC1 : Nx A.next A C1 := hxB.trans (hC1.le hxB.next)
      refine Dr.call (by kernel_rfl) (by rfl) (by assumption) (by rfl) (opRun_call (by rfl) ⟨by rfl, by rfl⟩ (by rfl) (xs := [.agg #[.int .i64 m, .slice sa st.length sc, .slice ra ro.length rc], .int .i64 ((k' + (st.length - k') : Nat) : Int), .int .i64 (ro.length : Int)]) (by simp only [sev_tmp, sg_eq, sg_ne, sp_n, Nat.reduceLT, ne_eq, Nat.reduceEqDiff, not_false_eq_true, List.map_cons, List.map_nil, List.nil_append, List.append_nil, hn]) (Con.mono (first_ref hC1.wf ((hs.nx hxC1 (Nat.le_refl _)).mono (Nat.le_refl _) hxC1.next) ((hr.nx hxC1 (Nat.le_refl _)).mono (Nat.le_refl _) hxC1.next) (by omega) (by omega) hro (n := k' + (st.length - k')) (many := ro.length) (by omega) (by omega)) fun v A1 h => trS_put (by obtain ⟨a', h1, h2, h3⟩ := h; exact ⟨a', h1, h2, h3.ints, h3.sl⟩))) ?_
      intro v C2 h
      obtain ⟨a2, rfl, k2, i2, y2⟩ := trS_get h
      have hC2 : Nx B.next B C2 := hC1.trans (k2.le hC1.next)
      have F2 := hF _ hC2
      have hxC2 : Nx A.next A C2 := hxB.trans (hC2.le hxB.next)
      have hlr := result_ref k2.wf (m := m) (sc := st.length - k') (rc := ro.length) (((i1.nx k2 (Nat.le_refl _)).mono (Nat.zero_le _) k2.next)) (i2.mono (Nat.zero_le _) (Nat.le_refl _)) (by rw [takeL_len]; omega) (by rw [takeL_len]; omega) (by rw [takeL_len]; exact hro) (y2.mono (Nat.zero_le _)) (by rw [takeL_len]; exact Nat.le_refl _)
      rw [show k' + (st.length - k') = max k' st.length by omega, tail_lists hro k'] at hlr
      simp only [takeL_len] at hlr
      refine Dr.read (by first | rfl | kernel_rfl) (by rfl) (by assumption) (fun M hM => by simp only [sev_tmp, sg_eq, sg_ne, sp_n, Nat.reduceLT, ne_eq, Nat.reduceEqDiff, not_false_eq_true, fx, hn, bd24, isCell] <;> rfl) (by rfl) (by first | exact VQ.int _ _ | exact VQ.bool _ | exact VQ.ptr _ _ | exact VQ.slice _ _ _ | exact VQ.func (by simp [vq_int, vq_ptr, vq_slice]) (by simp [vq_int, vq_ptr, vq_slice]) | exact VQ.agg (by simp [vq_int, vq_slice]) | exact VQ.tuple (by simp [vq_int, vq_ptr, vq_slice])) ?_
      refine Dr.call (by kernel_rfl) (by rfl) (by assumption) (by rfl) (opRun_call (by rfl) ⟨by rfl, by rfl⟩ (by rfl) (xs := [.agg #[.int .i64 m, .slice a1 (st.length - k') (st.length - k'), .slice a2 ro.length ro.length]]) (by simp only [sev_tmp, sg_eq, sp_n, Nat.reduceLT, List.map_cons, List.map_nil, List.nil_append, List.append_nil, hn]) (Con.mono hlr fun v A1 h => (by obtain ⟨a, p, h1, _, _, h2⟩ := h; exact ⟨a, p, h1, h2⟩))) ?_
      rintro v C3 ⟨a, p, hred, hq⟩
      have hC3 : Nx B.next B C3 := hC2.trans (hq.1.le hC2.next)
      have F3 := hF _ hC3
      obtain ⟨mm, n1, n2, ee, p1, c1, p2, c2, rfl, D, q1, g0, g1, g2, hoff, hT⟩ := TldR.fin (b := A0.next) hxC2 hn0A (by have := hC2.next; omega) ((hC2.keep _ (by omega)).trans lB) (tldR_q (m := m) hred hq)
      refine Dr.read (by first | rfl | kernel_rfl) (by rfl) (by assumption) (fun M hM => by simp only [sev_tmp, sg_eq, sp_n, Nat.reduceLT, fx, ext, List.getElem?_toArray, List.getElem?_cons_zero, hn] <;> rfl) (by rfl) (by first | exact VQ.int _ _ | exact VQ.bool _ | exact VQ.ptr _ _ | exact VQ.slice _ _ _ | exact VQ.func (by simp [vq_int, vq_ptr, vq_slice]) (by simp [vq_int, vq_ptr, vq_slice]) | exact VQ.agg (by simp [vq_int, vq_slice]) | exact VQ.tuple (by simp [vq_int, vq_ptr, vq_slice])) ?_
      refine Dr.read (by first | rfl | kernel_rfl) (by rfl) (by assumption) (fun M hM => by simp only [sev_tmp, sg_eq, sg_ne, sp_n, Nat.reduceLT, ne_eq, Nat.reduceEqDiff, not_false_eq_true, fx, ext, List.getElem?_toArray, List.getElem?_cons_zero, List.getElem?_cons_succ, hn] <;> rfl) (by rfl) (by first | exact VQ.int _ _ | exact VQ.bool _ | exact VQ.ptr _ _ | exact VQ.slice _ _ _ | exact VQ.func (by simp [vq_int, vq_ptr, vq_slice]) (by simp [vq_int, vq_ptr, vq_slice]) | exact VQ.agg (by simp [vq_int, vq_ptr, vq_slice]) | exact VQ.tuple (by simp [vq_int, vq_ptr, vq_slice])) ?_
      have FD : F D := hF2 D fun b hb hne => (hoff b hne).trans (hC3.keep b hb)
      refine Dr.eff (by rfl) (by rfl) (pd1 := []) (pd2 := []) (by kernel_rfl) (by kernel_rfl) (ms0 := []) (A0 := C3) rfl (fun _ h => by cases h) F3 (by rfl) (v := undef) (A1 := D) (opRun_op rfl (fx_ok (by rfl) (by simp only [sev_tmp, sg_eq, sg_ne, sp_n, Nat.reduceLT, ne_eq, Nat.reduceEqDiff, not_false_eq_true, fx, str, adr_p, Nat.zero_add, Nat.reduceAdd, tk24, hn, s4, q1, List.size_toArray, List.length_cons, List.length_nil, Nat.beq_refl]))) ?_
      refine Dr.read (by first | rfl | kernel_rfl) (by rfl) (by assumption) (fun M hM => by simp only [sev_tmp, sg_eq, sp_n, sp_none, Nat.reduceLT, fx, hn] <;> rfl) (by rfl) (by first | exact VQ.int _ _ | exact VQ.bool _ | exact VQ.ptr _ _ | exact VQ.slice _ _ _ | exact VQ.func (by simp [vq_int, vq_ptr, vq_slice]) (by simp [vq_int, vq_ptr, vq_slice]) | exact VQ.agg (by simp [vq_int, vq_ptr, vq_slice]) | exact VQ.tuple (by simp [vq_int, vq_ptr, vq_slice])) ?_
      refine Dr.nil (by rfl) (fun M hM => by cases hM) FD ⟨D, by rfl, ?_⟩
      (repeat (first | refine Rn.seq hc ?_ | refine Rn.skip hc ?_ | refine Rn.block hc ?_ | refine Rn.inBlock hc ?_ | refine Rn.scope hc ?_ | refine Rn.inScope hc ?_))
      refine Rn.ret (endQ_ct rfl (v := .agg #[.int .i64 mm, .slice p1 n1 c1, .slice p2 n2 c2]) ?_ ?_)
      · simp only [sg_ne, sp_none, ne_eq, Nat.reduceEqDiff, not_false_eq_true, ld, adr_p, cls, Nat.zero_add, Nat.reduceAdd, tk24, s4, g0, g1, g2]
      · simp only [sg_eq, sp_n, sp_none, Nat.reduceLT, hn]
        exact hT
  · have hd : (!decide (errL m st ro = 0)) = true := by rw [decide_eq_false he]; rfl
    obtain ⟨D, q1, g0, g1, g2, hxD⟩ := err_fin hx04 hn0A n4 l4
    rw [if_neg he]
    refine Rn.reg hc rfl ?_
    simp only [sev_tmp, sev_const, sg_eq, sp_n, Nat.reduceLT, gd, want_free, rops, fx, bin_neq, Option.some.injEq, exists_eq_left', hd]
    (repeat (first | refine Rn.seq hc ?_ | refine Rn.skip hc ?_ | refine Rn.block hc ?_ | refine Rn.inBlock hc ?_ | refine Rn.scope hc ?_ | refine Rn.inScope hc ?_))
    refine Rn.condE hc rfl ?_
    simp only [sev_tmp, sg_eq, sp_n, Nat.reduceLT, Value.bool.injEq, exists_eq_left']
    (repeat (first | refine Rn.seq hc ?_ | refine Rn.skip hc ?_ | refine Rn.block hc ?_ | refine Rn.inBlock hc ?_ | refine Rn.scope hc ?_ | refine Rn.inScope hc ?_))
    refine Rn.reg hc rfl ?_
    simp only [sev_tmp, sg_eq, sg_ne, sp_n, sp_none, Nat.reduceLT, ne_eq, Nat.reduceEqDiff, not_false_eq_true, gd, want_free, rops, fx, str, adr_p, Nat.zero_add, Option.some.injEq, exists_eq_left', Nat.reduceAdd, tk24, bd24_z, q1, List.size_toArray, List.length_cons, List.length_nil, Nat.beq_refl]
    (repeat (first | refine Rn.seq hc ?_ | refine Rn.skip hc ?_ | refine Rn.block hc ?_ | refine Rn.inBlock hc ?_ | refine Rn.scope hc ?_ | refine Rn.inScope hc ?_))
    refine Rn.ret (endQ_ct rfl (v := .agg #[.int .i64 0, .slice none 0 0, .slice none 0 0]) ?_ ?_)
    · simp only [sg_eq, sg_ne, sp_n, Nat.reduceLT, ne_eq, Nat.reduceEqDiff, not_false_eq_true, ld, adr_p, cls, Nat.zero_add, Nat.reduceAdd, tk24, g0, g1, g2]
    · simp only [sg_eq, sp_n, Nat.reduceLT]
      exact tldR_err he hxD
end Go.Proofs.Ytdaljohmfnfgiaa
/- A stream with one more number. No condition. -/
namespace Go.Proofs.Ytdaljohmfnfgiaa
open Go Go.RowKit Go.Proofs.Ytdaljohmfnfgiaa.Canon
set_option maxRecDepth 20000


/-- The error of a call that asks for a number below the modulus. -/
def erC (m : Int) (st ro : List Int) (v : Int) : Int := if errL m st ro = 0 then (if v < 0 ∨ m ≤ v then 3 else 0) else errL m st ro
def crS (m : Int) (E : Nat → Int) : Canon.Spec := fun _ _ A v A1 => ∃ a p, Red E a p ∧ LeastR A m E a p v A1
theorem cons_ref {A : AHeap} (hw : WF A) {m v : Int} {sa ra : Option Addr} {sc rc : Nat} {st ro : List Int} (hs : Ints A sa 0 A.next st) (hr : Ints A ra 0 A.next ro) (ls : st.length < 4611686018427387904) (lr : ro.length < 4611686018427387904) (hslr : 0 < ro.length → Sl A ra 0) (hrc : ro.length ≤ rc) :
    Con Try.prog 36 [.int .i64 v, .agg #[.int .i64 m, .slice sa st.length sc, .slice ra ro.length rc]] A (TldR A (erC m st ro v) m (atL (v :: st) ro)) := by
  refine con_of_rn hc Try.func36 rfl (Nat.le_of_ble_eq_true rfl) ?_
  obtain ⟨A0, e0, hx0, hn0, b0, b1, b2⟩ := box3 hw (.int .i64 m) (.slice sa st.length sc) (.slice ra ro.length rc) 24
  have hx1 : Nx A0.next A0 (A0.push (.cells #[.int .i64 0, .slice none 0 0, .slice none 0 0] 24)) := (Nx.refl hx0.wf _).push (Nat.le_refl _) _
  have l1 := look_push_eq A0 (.cells #[.int .i64 0, .slice none 0 0, .slice none 0 0] 24)
  have hn1 : (A0.push (.cells #[.int .i64 0, .slice none 0 0, .slice none 0 0] 24)).next = A0.next + 1 := rfl
  generalize e1 : A0.push (.cells #[.int .i64 0, .slice none 0 0, .slice none 0 0] 24) = A1 at hx1 l1 hn1
  have hx01 : Nx A.next A A1 := hx0.trans (hx1.le hx0.next)
  have b0 := (hx1.cl (show A.next < A0.next by omega) 0).trans b0
  have b1 := (hx1.cl (show A.next < A0.next by omega) 1).trans b1
  have b2 := (hx1.cl (show A.next < A0.next by omega) 2).trans b2
  rw [s_in2]
  (repeat (first | refine Rn.seq hc ?_ | refine Rn.skip hc ?_ | refine Rn.block hc ?_ | refine Rn.inBlock hc ?_ | refine Rn.scope hc ?_ | refine Rn.inScope hc ?_))
  refine Rn.reg hc rfl ?_
  simp only [sev_tmp, sev_const, sg_eq, sp_n, Nat.reduceLT, gd, want_free, rops, fx, Option.some.injEq, exists_eq_left', Value.cells, show Try.f36.ntmps = 35 from rfl, e0, ze24, e1]
  (repeat (first | refine Rn.seq hc ?_ | refine Rn.skip hc ?_ | refine Rn.block hc ?_ | refine Rn.inBlock hc ?_ | refine Rn.scope hc ?_ | refine Rn.inScope hc ?_))
  refine Rn.region hc fun K hK => ?_
  refine Wo.run hc 1 rfl rfl rfl ?_
  simp (maxSteps := 2000000) only [List.drop_zero, List.take_succ_cons, List.take_zero, sev_tmp, sg_eq, sg_ne, sp_n, Nat.reduceLT, ne_eq, Nat.reduceEqDiff, not_false_eq_true, gd, want_free, rops, fx, ld, adr_p, cls, Nat.zero_add, Option.some.injEq, exists_eq_left', Nat.reduceAdd, tk24, b0, b1, b2]
  refine Wo.call hc (by rfl) (by rfl) ⟨by rfl, by rfl⟩ (xs := [.agg #[.int .i64 m, .slice sa st.length sc, .slice ra ro.length rc]]) (by rfl) (by rfl) (by rfl) (Con.mono (check_ref hx1.wf ((hs.nx hx01 (Nat.le_refl _)).mono (Nat.le_refl _) hx01.next) ((hr.nx hx01 (Nat.le_refl _)).mono (Nat.le_refl _) hx01.next) ls lr) ?_)
  rintro w A4 ⟨rfl, hx4⟩
  refine Wo.run hc 1 rfl rfl rfl ?_
  simp (maxSteps := 2000000) only [List.drop_zero, List.drop_succ_cons, List.take_succ_cons, List.take_zero, sev_tmp, sg_eq, sp_n, Nat.reduceLT, gd, want_free, rops, fx, Option.some.injEq, exists_eq_left', Nat.reduceAdd]
  refine Wo.done hc rfl (hK _ _ ?_)
  clear hK
  (repeat (first | refine Rn.seq hc ?_ | refine Rn.skip hc ?_ | refine Rn.block hc ?_ | refine Rn.inBlock hc ?_ | refine Rn.scope hc ?_ | refine Rn.inScope hc ?_))
  have hx34 : Nx A1.next A1 A4 := hx4
  have hx04 : Nx A.next A A4 := hx01.trans (hx34.le hx01.next)
  have n4 : A0.next < A4.next := by have := hx4.next; omega
  have l4 : Canon.look A4.objs A0.next = _ := (hx34.keep _ (by omega)).trans l1
  have b0 := (hx34.cl (show A.next < A1.next by omega) 0).trans b0
  have b1 := (hx34.cl (show A.next < A1.next by omega) 1).trans b1
  have b2 := (hx34.cl (show A.next < A1.next by omega) 2).trans b2
  have hn0A := hx0.next
  clear e1 e0 hx4 hx1
  unfold erC
  by_cases he : errL m st ro = 0
  · have hd : (!decide (errL m st ro = 0)) = false := by rw [decide_eq_true he]; rfl
    obtain ⟨l60, l120⟩ := errL_len he
    have hro := errL_pos he
    rw [if_pos he]
    refine Rn.reg hc rfl ?_
    simp only [sev_tmp, sev_const, sg_eq, sp_n, Nat.reduceLT, gd, want_free, rops, fx, bin_neq, Option.some.injEq, exists_eq_left', hd]
    (repeat (first | refine Rn.seq hc ?_ | refine Rn.skip hc ?_ | refine Rn.block hc ?_ | refine Rn.inBlock hc ?_ | refine Rn.scope hc ?_ | refine Rn.inScope hc ?_))
    refine Rn.condE hc rfl ?_
    simp only [sev_tmp, sg_eq, sp_n, Nat.reduceLT, Value.bool.injEq, exists_eq_left']
    (repeat (first | refine Rn.seq hc ?_ | refine Rn.skip hc ?_ | refine Rn.block hc ?_ | refine Rn.inBlock hc ?_ | refine Rn.scope hc ?_ | refine Rn.inScope hc ?_))
    by_cases hneg : v < 0 ∨ m ≤ v
    · obtain ⟨D, q1, g0, g1, g2, hxD⟩ := err_fin hx04 hn0A n4 l4
      rw [if_pos hneg]
      have h3 : (decide (v < 0) = true) ∨ (decide (v < 0) = false ∧ decide (m ≤ v) = true) := by
        by_cases h : v < 0
        · exact .inl (decide_eq_true h)
        · exact .inr ⟨decide_eq_false h, decide_eq_true (hneg.resolve_left h)⟩
      rcases h3 with h1 | ⟨h1, h2⟩
      · refine Rn.reg hc rfl ?_
        simp only [sev_tmp, sev_const, sg_eq, sg_ne, sp_n, Nat.reduceLT, ne_eq, Nat.reduceEqDiff, not_false_eq_true, gd, nth, want_free, want_slot, beqB, rops, fx, pck, bin_lss, Option.some.injEq, exists_eq_left', h1]
        (repeat (first | refine Rn.seq hc ?_ | refine Rn.skip hc ?_ | refine Rn.block hc ?_ | refine Rn.inBlock hc ?_ | refine Rn.scope hc ?_ | refine Rn.inScope hc ?_))
        refine Rn.condE hc rfl ?_
        simp only [sev_tmp, sg_eq, sp_n, Nat.reduceLT, Value.bool.injEq, exists_eq_left']
        (repeat (first | refine Rn.seq hc ?_ | refine Rn.skip hc ?_ | refine Rn.block hc ?_ | refine Rn.inBlock hc ?_ | refine Rn.scope hc ?_ | refine Rn.inScope hc ?_))
        refine Rn.reg hc rfl ?_
        simp only [sev_tmp, sev_const, sg_eq, sg_ne, sp_n, sp_none, Nat.reduceLT, ne_eq, Nat.reduceEqDiff, not_false_eq_true, gd, want_free, rops, fx, str, adr_p, Nat.zero_add, Option.some.injEq, exists_eq_left', Nat.reduceAdd, tk24, bd24_z, q1, List.size_toArray, List.length_cons, List.length_nil, Nat.beq_refl]
        (repeat (first | refine Rn.seq hc ?_ | refine Rn.skip hc ?_ | refine Rn.block hc ?_ | refine Rn.inBlock hc ?_ | refine Rn.scope hc ?_ | refine Rn.inScope hc ?_))
        refine Rn.ret (endQ_ct rfl (v := .agg #[.int .i64 0, .slice none 0 0, .slice none 0 0]) ?_ ?_)
        · simp only [sg_eq, sg_ne, sp_n, Nat.reduceLT, ne_eq, Nat.reduceEqDiff, not_false_eq_true, ld, adr_p, cls, Nat.zero_add, Nat.reduceAdd, tk24, g0, g1, g2]
        · simp only [sg_eq, sp_n, Nat.reduceLT]
          exact tldR_err (by omega) hxD
      · refine Rn.reg hc rfl ?_
        simp only [sev_tmp, sev_const, sg_eq, sg_ne, sp_n, Nat.reduceLT, ne_eq, Nat.reduceEqDiff, not_false_eq_true, gd, nth, want_free, want_slot, beqB, rops, fx, ld, fad, pck, bin_lss, bin_geq, adr_p, Nat.add_zero, Option.some.injEq, exists_eq_left', tk3, fo24_0, h1, h2, b0]
        (repeat (first | refine Rn.seq hc ?_ | refine Rn.skip hc ?_ | refine Rn.block hc ?_ | refine Rn.inBlock hc ?_ | refine Rn.scope hc ?_ | refine Rn.inScope hc ?_))
        refine Rn.condE hc rfl ?_
        simp only [sev_tmp, sg_eq, sp_n, Nat.reduceLT, Value.bool.injEq, exists_eq_left']
        (repeat (first | refine Rn.seq hc ?_ | refine Rn.skip hc ?_ | refine Rn.block hc ?_ | refine Rn.inBlock hc ?_ | refine Rn.scope hc ?_ | refine Rn.inScope hc ?_))
        refine Rn.reg hc rfl ?_
        simp only [sev_tmp, sev_const, sg_eq, sg_ne, sp_n, sp_none, Nat.reduceLT, ne_eq, Nat.reduceEqDiff, not_false_eq_true, gd, want_free, rops, fx, str, adr_p, Nat.zero_add, Option.some.injEq, exists_eq_left', Nat.reduceAdd, tk24, bd24_z, q1, List.size_toArray, List.length_cons, List.length_nil, Nat.beq_refl]
        (repeat (first | refine Rn.seq hc ?_ | refine Rn.skip hc ?_ | refine Rn.block hc ?_ | refine Rn.inBlock hc ?_ | refine Rn.scope hc ?_ | refine Rn.inScope hc ?_))
        refine Rn.ret (endQ_ct rfl (v := .agg #[.int .i64 0, .slice none 0 0, .slice none 0 0]) ?_ ?_)
        · simp only [sg_eq, sg_ne, sp_n, Nat.reduceLT, ne_eq, Nat.reduceEqDiff, not_false_eq_true, ld, adr_p, cls, Nat.zero_add, Nat.reduceAdd, tk24, g0, g1, g2]
        · simp only [sg_eq, sp_n, Nat.reduceLT]
          exact tldR_err (by omega) hxD
    · have h1 : decide (v < 0) = false := decide_eq_false fun h => hneg (.inl h)
      have h2 : decide (m ≤ v) = false := decide_eq_false fun h => hneg (.inr h)
      rw [if_neg hneg]
      refine Rn.reg hc rfl ?_
      simp only [sev_tmp, sev_const, sg_eq, sg_ne, sp_n, Nat.reduceLT, ne_eq, Nat.reduceEqDiff, not_false_eq_true, gd, nth, want_free, want_slot, beqB, rops, fx, ld, fad, pck, bin_lss, bin_geq, adr_p, Nat.add_zero, Option.some.injEq, exists_eq_left', tk3, fo24_0, h1, h2, b0]
      (repeat (first | refine Rn.seq hc ?_ | refine Rn.skip hc ?_ | refine Rn.block hc ?_ | refine Rn.inBlock hc ?_ | refine Rn.scope hc ?_ | refine Rn.inScope hc ?_))
      refine Rn.condE hc rfl ?_
      simp only [sev_tmp, sg_eq, sp_n, Nat.reduceLT, Value.bool.injEq, exists_eq_left']
      (repeat (first | refine Rn.seq hc ?_ | refine Rn.skip hc ?_ | refine Rn.block hc ?_ | refine Rn.inBlock hc ?_ | refine Rn.scope hc ?_ | refine Rn.inScope hc ?_))
      obtain ⟨F, hF1, hF2⟩ : ∃ F : AHeap → Prop, (∀ C, F C → ∀ b, b < A4.next → b ≠ A0.next → ∀ o, cl C b o = cl A4 b o) ∧ (∀ C, (∀ b, b < A4.next → b ≠ A0.next → Canon.look C.objs b = Canon.look A4.objs b) → F C) := ⟨fun C => ∀ b, b < A4.next → b ≠ A0.next → ∀ o, cl C b o = cl A4 b o, fun _ h => h, fun C h b h1 h2 o => cl_look (h b h1 h2)⟩
      have hF : ∀ C, Nx A4.next A4 C → F C := fun C h => hF2 C fun b hb _ => h.keep b hb
      have G0 := fun M hM => (hF1 M hM A.next (by omega) (by omega) 0).trans b0
      have G1 := fun M hM => (hF1 M hM A.next (by omega) (by omega) 1).trans b1
      have G2 := fun M hM => (hF1 M hM A.next (by omega) (by omega) 2).trans b2
      have hbk : Nx A4.next A4 (bump A4 15) := Nx.bump (Nx.refl hx04.wf _) 15
      have FB := hF _ hbk
      refine Rn.drawnF hc hx (crS m (atL (v :: st) ro)) F (n := 4) (k := 15) (by kernel_rfl) (by kernel_rfl) (by rfl) ?_
      refine Dr.read (by first | rfl | kernel_rfl) (by rfl) (by assumption) (fun M hM => by simp only [sev_tmp, sg_eq, sg_ne, sp_n, Nat.reduceLT, ne_eq, Nat.reduceEqDiff, not_false_eq_true, fx, fad, adr_p, Nat.add_zero, fo24_0] <;> rfl) (by rfl) (by first | exact VQ.int _ _ | exact VQ.bool _ | exact VQ.ptr _ _ | exact VQ.slice _ _ _ | exact VQ.func (by simp [vq_int, vq_ptr, vq_slice]) (by simp [vq_int, vq_ptr, vq_slice]) | exact VQ.agg (by simp [vq_int, vq_ptr, vq_slice]) | exact VQ.tuple (by simp [vq_int, vq_ptr, vq_slice])) ?_
      refine Dr.read (by first | rfl | kernel_rfl) (by rfl) (by assumption) (fun M hM => by simp only [sev_tmp, sg_eq, sp_n, Nat.reduceLT, fx, ld, adr_p, tk3, G0 M hM] <;> rfl) (by rfl) (by first | exact VQ.int _ _ | exact VQ.bool _ | exact VQ.ptr _ _ | exact VQ.slice _ _ _ | exact VQ.func (by simp [vq_int, vq_ptr, vq_slice]) (by simp [vq_int, vq_ptr, vq_slice]) | exact VQ.agg (by simp [vq_int, vq_ptr, vq_slice]) | exact VQ.tuple (by simp [vq_int, vq_ptr, vq_slice])) ?_
      refine Dr.read (by first | rfl | kernel_rfl) (by rfl) (by assumption) (fun M hM => by simp only [sev_tmp, sg_eq, sg_ne, Nat.reduceLT, ne_eq, Nat.reduceEqDiff, not_false_eq_true, fx] <;> rfl) (by rfl) (by first | exact VQ.int _ _ | exact VQ.bool _ | exact VQ.ptr _ _ | exact VQ.slice _ _ _ | exact VQ.func (by simp [vq_int, vq_ptr, vq_slice]) (by simp [vq_int, vq_ptr, vq_slice]) | exact VQ.agg (by simp [vq_int, vq_ptr, vq_slice]) | exact VQ.tuple (by simp [vq_int, vq_ptr, vq_slice])) ?_
      refine Dr.float (by rfl) (by rfl) (by rfl) (fb22_1 (v := .int .i64 v) (by simp only [sev_tmp, sg_eq, sp_n, Nat.reduceLT]) rfl) ?_
      refine Dr.read (by first | rfl | kernel_rfl) (by rfl) (by assumption) (fun M hM => by simp only [sev_tmp, sg_eq, sg_ne, sp_n, Nat.reduceLT, ne_eq, Nat.reduceEqDiff, not_false_eq_true, fx, fad, adr_p, Nat.zero_add, Nat.reduceAdd, fo24_1] <;> rfl) (by rfl) (by first | exact VQ.int _ _ | exact VQ.bool _ | exact VQ.ptr _ _ | exact VQ.slice _ _ _ | exact VQ.func (by simp [vq_int, vq_ptr, vq_slice]) (by simp [vq_int, vq_ptr, vq_slice]) | exact VQ.agg (by simp [vq_int, vq_ptr, vq_slice]) | exact VQ.tuple (by simp [vq_int, vq_ptr, vq_slice])) ?_
      refine Dr.read (by first | rfl | kernel_rfl) (by rfl) (by assumption) (fun M hM => by simp only [sev_tmp, sg_eq, sp_n, Nat.reduceLT, fx, ld, adr_p, Nat.zero_add, Nat.reduceAdd, tk22, G1 M hM] <;> rfl) (by rfl) (by first | exact VQ.int _ _ | exact VQ.bool _ | exact VQ.ptr _ _ | exact VQ.slice _ _ _ | exact VQ.func (by simp [vq_int, vq_ptr, vq_slice]) (by simp [vq_int, vq_ptr, vq_slice]) | exact VQ.agg (by simp [vq_int, vq_ptr, vq_slice]) | exact VQ.tuple (by simp [vq_int, vq_ptr, vq_slice])) ?_
      obtain ⟨C1, p1, hxC1, eC1, lC1, kC1⟩ := place_row hbk (b := A4.next + 3) (by omega) (by rw [bump_next]; omega) (hx04.wf.none (by omega)) [.int .i64 v] 3 1 1
      rw [bump_next] at eC1
      have hxA1 : Nx A.next A C1 := hx04.trans (hxC1.le hx04.next)
      obtain ⟨xa, C2, q1, k2, g2⟩ := app_one (n := A4.next) hxC1.wf lC1 (by omega) (by omega) (by omega) (c2 := sc) ((hs.nx hxA1 (Nat.le_refl _)).mono (Nat.le_refl _) hxA1.next) (by omega)
      have hC2 : Nx A4.next A4 C2 := hxC1.trans (k2.le (by omega))
      refine Dr.eff (by rfl) (by rfl) (pd1 := [(3, ⟨[.int .i64 v], 3, .sl 1 1⟩)]) (pd2 := []) (by kernel_rfl) (by kernel_rfl) (ms0 := [bump A4 15]) (A0 := C1) (by simp only [placeAll, p1]) (fun M hM => by rw [List.mem_singleton] at hM; rw [hM]; exact FB) (hF _ hxC1) (by rfl)
        (v := .slice xa (st.length + 1) (st.length + 1)) (A1 := C2) (opRun_op rfl (by simp only [sev_tmp, sg_eq, sg_ne, sp_n, Nat.reduceLT, ne_eq, Nat.reduceEqDiff, not_false_eq_true, Nat.zero_add, Nat.reduceAdd, ae_apd, apd_slice, FK.val]; exact q1)) ?_
      have F2 := hF _ hC2
      refine Dr.read (by first | rfl | kernel_rfl) (by rfl) (by assumption) (fun M hM => by simp only [sev_tmp, sg_eq, sg_ne, sp_n, Nat.reduceLT, ne_eq, Nat.reduceEqDiff, not_false_eq_true, fx, fad, adr_p, Nat.zero_add, Nat.reduceAdd, fo24_2] <;> rfl) (by rfl) (by first | exact VQ.int _ _ | exact VQ.bool _ | exact VQ.ptr _ _ | exact VQ.slice _ _ _ | exact VQ.func (by simp [vq_int, vq_ptr, vq_slice]) (by simp [vq_int, vq_ptr, vq_slice]) | exact VQ.agg (by simp [vq_int, vq_ptr, vq_slice]) | exact VQ.tuple (by simp [vq_int, vq_ptr, vq_slice])) ?_
      refine Dr.read (by first | rfl | kernel_rfl) (by rfl) (by assumption) (fun M hM => by simp only [sev_tmp, sg_eq, sp_n, Nat.reduceLT, fx, ld, adr_p, Nat.zero_add, Nat.reduceAdd, tk22, G2 M hM] <;> rfl) (by rfl) (by first | exact VQ.int _ _ | exact VQ.bool _ | exact VQ.ptr _ _ | exact VQ.slice _ _ _ | exact VQ.func (by simp [vq_int, vq_ptr, vq_slice]) (by simp [vq_int, vq_ptr, vq_slice]) | exact VQ.agg (by simp [vq_int, vq_ptr, vq_slice]) | exact VQ.tuple (by simp [vq_int, vq_ptr, vq_slice])) ?_
      refine Dr.read (by first | rfl | kernel_rfl) (by rfl) (by assumption) (fun M hM => by simp only [sev_tmp, sg_eq, sg_ne, sp_n, Nat.reduceLT, ne_eq, Nat.reduceEqDiff, not_false_eq_true, fx, Nat.zero_add, Nat.reduceAdd, bd24, isCell] <;> rfl) (by rfl) (by first | exact VQ.int _ _ | exact VQ.bool _ | exact VQ.ptr _ _ | exact VQ.slice _ _ _ | exact VQ.func (by simp [vq_int, vq_ptr, vq_slice]) (by simp [vq_int, vq_ptr, vq_slice]) | exact VQ.agg (by simp [vq_int, vq_slice]) | exact VQ.tuple (by simp [vq_int, vq_ptr, vq_slice])) ?_
      have hxA2 : Nx A.next A C2 := hx04.trans (hC2.le hx04.next)
      have hlr := result_ref k2.wf (m := m) (sc := st.length + 1) (rc := rc) (g2.ints.mono (Nat.zero_le _) (Nat.le_refl _)) ((hr.nx hxA2 (Nat.le_refl _)).mono (Nat.le_refl _) hxA2.next) (by rw [List.length_cons]; omega) (by omega) hro ((hslr hro).nx hw hxA2) hrc
      rw [List.length_cons] at hlr
      refine Dr.call (by kernel_rfl) (by rfl) (by assumption) (by rfl) (opRun_call (by rfl) ⟨by rfl, by rfl⟩ (by rfl) (xs := [.agg #[.int .i64 m, .slice xa (st.length + 1) (st.length + 1), .slice ra ro.length rc]]) (by simp only [sev_tmp, sg_eq, sp_n, Nat.reduceLT, List.map_cons, List.map_nil, List.nil_append, List.append_nil]) (Con.mono hlr fun v A1 h => (by obtain ⟨a, p, h1, _, _, h2⟩ := h; exact ⟨a, p, h1, h2⟩))) ?_
      rintro w C3 ⟨a, p, hred, hq⟩
      have hC3 : Nx A4.next A4 C3 := hC2.trans (hq.1.le hC2.next)
      have F3 := hF _ hC3
      obtain ⟨mm, n1, n2, ee, p1, c1, p2, c2, rfl, D, q1, g0, g1, g2, hoff, hT⟩ := TldR.fin (b := A0.next) hxA2 hn0A (by have := hC2.next; omega) ((hC2.keep _ (by omega)).trans l4) (tldR_q (m := m) hred hq)
      refine Dr.read (by first | rfl | kernel_rfl) (by rfl) (by assumption) (fun M hM => by simp only [sev_tmp, sg_eq, sp_n, Nat.reduceLT, fx, ext, List.getElem?_toArray, List.getElem?_cons_zero, Nat.zero_add, Nat.reduceAdd] <;> rfl) (by rfl) (by first | exact VQ.int _ _ | exact VQ.bool _ | exact VQ.ptr _ _ | exact VQ.slice _ _ _ | exact VQ.func (by simp [vq_int, vq_ptr, vq_slice]) (by simp [vq_int, vq_ptr, vq_slice]) | exact VQ.agg (by simp [vq_int, vq_slice]) | exact VQ.tuple (by simp [vq_int, vq_ptr, vq_slice])) ?_
      refine Dr.read (by first | rfl | kernel_rfl) (by rfl) (by assumption) (fun M hM => by simp only [sev_tmp, sg_eq, sg_ne, sp_n, Nat.reduceLT, ne_eq, Nat.reduceEqDiff, not_false_eq_true, fx, ext, List.getElem?_toArray, List.getElem?_cons_zero, List.getElem?_cons_succ, Nat.zero_add, Nat.reduceAdd] <;> rfl) (by rfl) (by first | exact VQ.int _ _ | exact VQ.bool _ | exact VQ.ptr _ _ | exact VQ.slice _ _ _ | exact VQ.func (by simp [vq_int, vq_ptr, vq_slice]) (by simp [vq_int, vq_ptr, vq_slice]) | exact VQ.agg (by simp [vq_int, vq_ptr, vq_slice]) | exact VQ.tuple (by simp [vq_int, vq_ptr, vq_slice])) ?_
      have FD : F D := hF2 D fun b hb hne => (hoff b hne).trans (hC3.keep b hb)
      refine Dr.eff (by rfl) (by rfl) (pd1 := []) (pd2 := []) (by kernel_rfl) (by kernel_rfl) (ms0 := []) (A0 := C3) rfl (fun _ h => by cases h) F3 (by rfl) (v := undef) (A1 := D) (opRun_op rfl (fx_ok (by rfl) (by simp only [sev_tmp, sg_eq, sg_ne, sp_n, Nat.reduceLT, ne_eq, Nat.reduceEqDiff, not_false_eq_true, fx, str, adr_p, Nat.zero_add, Nat.reduceAdd, tk24, q1, List.size_toArray, List.length_cons, List.length_nil, Nat.beq_refl]))) ?_
      refine Dr.read (by first | rfl | kernel_rfl) (by rfl) (by assumption) (fun M hM => by simp only [sev_tmp, sg_eq, sp_n, sp_none, Nat.reduceLT, fx, Nat.zero_add, Nat.reduceAdd] <;> rfl) (by rfl) (by first | exact VQ.int _ _ | exact VQ.bool _ | exact VQ.ptr _ _ | exact VQ.slice _ _ _ | exact VQ.func (by simp [vq_int, vq_ptr, vq_slice]) (by simp [vq_int, vq_ptr, vq_slice]) | exact VQ.agg (by simp [vq_int, vq_ptr, vq_slice]) | exact VQ.tuple (by simp [vq_int, vq_ptr, vq_slice])) ?_
      refine Dr.nil (by rfl) (fun M hM => by cases hM) FD ⟨D, by rfl, ?_⟩
      (repeat (first | refine Rn.seq hc ?_ | refine Rn.skip hc ?_ | refine Rn.block hc ?_ | refine Rn.inBlock hc ?_ | refine Rn.scope hc ?_ | refine Rn.inScope hc ?_))
      refine Rn.ret (endQ_ct rfl (v := .agg #[.int .i64 mm, .slice p1 n1 c1, .slice p2 n2 c2]) ?_ ?_)
      · simp only [sg_eq, sg_ne, sp_n, sp_none, Nat.reduceLT, ne_eq, Nat.reduceEqDiff, not_false_eq_true, ld, adr_p, cls, Nat.zero_add, Nat.reduceAdd, tk24, g0, g1, g2]
      · simp only [sg_eq, sp_n, sp_none, Nat.reduceLT]
        exact hT
  · have hd : (!decide (errL m st ro = 0)) = true := by rw [decide_eq_false he]; rfl
    obtain ⟨D, q1, g0, g1, g2, hxD⟩ := err_fin hx04 hn0A n4 l4
    rw [if_neg he]
    refine Rn.reg hc rfl ?_
    simp only [sev_tmp, sev_const, sg_eq, sp_n, Nat.reduceLT, gd, want_free, rops, fx, bin_neq, Option.some.injEq, exists_eq_left', hd]
    (repeat (first | refine Rn.seq hc ?_ | refine Rn.skip hc ?_ | refine Rn.block hc ?_ | refine Rn.inBlock hc ?_ | refine Rn.scope hc ?_ | refine Rn.inScope hc ?_))
    refine Rn.condE hc rfl ?_
    simp only [sev_tmp, sg_eq, sp_n, Nat.reduceLT, Value.bool.injEq, exists_eq_left']
    (repeat (first | refine Rn.seq hc ?_ | refine Rn.skip hc ?_ | refine Rn.block hc ?_ | refine Rn.inBlock hc ?_ | refine Rn.scope hc ?_ | refine Rn.inScope hc ?_))
    refine Rn.reg hc rfl ?_
    simp only [sev_tmp, sg_eq, sg_ne, sp_n, sp_none, Nat.reduceLT, ne_eq, Nat.reduceEqDiff, not_false_eq_true, gd, want_free, rops, fx, str, adr_p, Nat.zero_add, Option.some.injEq, exists_eq_left', Nat.reduceAdd, tk24, bd24_z, q1, List.size_toArray, List.length_cons, List.length_nil, Nat.beq_refl]
    (repeat (first | refine Rn.seq hc ?_ | refine Rn.skip hc ?_ | refine Rn.block hc ?_ | refine Rn.inBlock hc ?_ | refine Rn.scope hc ?_ | refine Rn.inScope hc ?_))
    refine Rn.ret (endQ_ct rfl (v := .agg #[.int .i64 0, .slice none 0 0, .slice none 0 0]) ?_ ?_)
    · simp only [sg_eq, sg_ne, sp_n, Nat.reduceLT, ne_eq, Nat.reduceEqDiff, not_false_eq_true, ld, adr_p, cls, Nat.zero_add, Nat.reduceAdd, tk24, g0, g1, g2]
    · simp only [sg_eq, sp_n, Nat.reduceLT]
      exact tldR_err he hxD
end Go.Proofs.Ytdaljohmfnfgiaa
/- Every so many elements. No condition. -/
namespace Go.Proofs.Ytdaljohmfnfgiaa
open Go Go.RowKit Go.Proofs.Ytdaljohmfnfgiaa.Canon
set_option maxRecDepth 20000


/-- The error of such a call. -/
def erE (m : Int) (st ro : List Int) (sp ad : Int) : Int := if errL m st ro = 0 then (if sp < 1 ∨ 120 < sp ∨ ad < 0 ∨ 1000000000 < ad then 3 else 0) else errL m st ro
theorem bad4 {sp ad : Int} (h : sp < 1 ∨ 120 < sp ∨ ad < 0 ∨ 1000000000 < ad) : (decide (sp < 1) = true) ∨ (decide (sp < 1) = false ∧ decide (120 < sp) = true) ∨ (decide (sp < 1) = false ∧ decide (120 < sp) = false ∧ decide (ad < 0) = true) ∨ (decide (sp < 1) = false ∧ decide (120 < sp) = false ∧ decide (ad < 0) = false ∧ decide (1000000000 < ad) = true) := by
  simp only [decide_eq_true_eq, decide_eq_false_iff_not]
  omega
theorem every_per {st ro : List Int} (hro : 0 < ro.length) {ad sp N : Nat} (hs : 1 ≤ sp) (hN : st.length ≤ ad + N * sp) : Per (fun i => atL st ro (ad + i * sp)) N ro.length := ⟨hro, fun n hn => by
  have h1 : N * sp ≤ n * sp := Nat.mul_le_mul_right _ hn
  have := (atL_per (st := st) hro).times sp (ad + n * sp) (by omega)
  rw [show (n + ro.length) * sp = n * sp + sp * ro.length by rw [Nat.add_mul, Nat.mul_comm ro.length], ← Nat.add_assoc]
  exact this⟩
theorem redS_snoc (E : Nat → Int) (i : Nat) : redS E i ++ [E i] = redS E (i + 1) := by simp [redS, List.range_succ]
theorem redR_snoc (E : Nat → Int) (a i : Nat) : redR E a i ++ [E (a + i)] = redR E a (i + 1) := by simp [redR, List.range_succ]
theorem every_run {A : AHeap} (hw : WF A) {m sp ad : Int} {sa ra : Option Addr} {sc rc : Nat} {st ro : List Int} (hs : Ints A sa 0 A.next st) (hr : Ints A ra 0 A.next ro) (ls : st.length < 4611686018427387904) (lr : ro.length < 4611686018427387904) :
    Con Try.prog 37 [.agg #[.int .i64 m, .slice sa st.length sc, .slice ra ro.length rc], .int .i64 sp, .int .i64 ad] A (Tld A (erE m st ro sp ad) m fun i => atL st ro (ad.toNat + i * sp.toNat)) := by
  refine con_of_rn hc Try.func37 rfl (Nat.le_of_ble_eq_true rfl) ?_
  obtain ⟨A0, e0, hx0, hn0, b0, b1, b2⟩ := box3 hw (.int .i64 m) (.slice sa st.length sc) (.slice ra ro.length rc) 24
  have hx1 : Nx A0.next A0 (A0.push (.cells #[.int .i64 0, .slice none 0 0, .slice none 0 0] 24)) := (Nx.refl hx0.wf _).push (Nat.le_refl _) _
  have l1 := look_push_eq A0 (.cells #[.int .i64 0, .slice none 0 0, .slice none 0 0] 24)
  have hn1 : (A0.push (.cells #[.int .i64 0, .slice none 0 0, .slice none 0 0] 24)).next = A0.next + 1 := rfl
  generalize e1 : A0.push (.cells #[.int .i64 0, .slice none 0 0, .slice none 0 0] 24) = A1 at hx1 l1 hn1
  obtain ⟨A3, e3, hx3, hn3, c0, c1, c2⟩ := box3 hx1.wf (.int .i64 m) (.slice sa st.length sc) (.slice ra ro.length rc) 24
  have hx01 : Nx A.next A A1 := hx0.trans (hx1.le hx0.next)
  have hx03 : Nx A.next A A3 := hx01.trans (hx3.le hx01.next)
  have hrow : LRow A3 (some ⟨A1.next, 0, none⟩) [⟨m, sa, sc, st, ra, rc, ro⟩] := fun i hi => by
    have : i = 0 := by simp at hi; omega
    subst this
    exact ⟨⟨(hs.nx hx03 (Nat.le_refl _)).mono (Nat.le_refl _) hx03.next, (hr.nx hx03 (Nat.le_refl _)).mono (Nat.le_refl _) hx03.next, ls, lr⟩, _, _, rfl, by omega, c0, c1, c2⟩
  have b0 := (hx1.cl (show A.next < A0.next by omega) 0).trans b0
  have b1 := (hx1.cl (show A.next < A0.next by omega) 1).trans b1
  have b2 := (hx1.cl (show A.next < A0.next by omega) 2).trans b2
  rw [s_in3]
  (repeat (first | refine Rn.seq hc ?_ | refine Rn.skip hc ?_ | refine Rn.block hc ?_ | refine Rn.inBlock hc ?_ | refine Rn.scope hc ?_ | refine Rn.inScope hc ?_))
  refine Rn.reg hc rfl ?_
  simp only [sev_tmp, sev_const, sg_eq, sg_ne, Nat.reduceLT, ne_eq, Nat.reduceEqDiff, not_false_eq_true, gd, want_free, rops, fx, Option.some.injEq, exists_eq_left', Value.cells, show Try.f37.ntmps = 75 from rfl, e0, ze24, e1]
  (repeat (first | refine Rn.seq hc ?_ | refine Rn.skip hc ?_ | refine Rn.block hc ?_ | refine Rn.inBlock hc ?_ | refine Rn.scope hc ?_ | refine Rn.inScope hc ?_))
  refine Rn.region hc fun K hK => ?_
  refine Wo.run hc 2 rfl rfl rfl ?_
  simp (maxSteps := 2000000) only [List.drop_zero, List.take_succ_cons, List.take_zero, sev_tmp, sg_eq, sg_ne, sp_n, Nat.reduceLT, ne_eq, Nat.reduceEqDiff, not_false_eq_true, gd, want_free, rops, fx, ld, adr_p, cls, Nat.zero_add, Option.some.injEq, exists_eq_left', Value.cells, Nat.reduceAdd, tk24, b0, b1, b2, bs46_1, List.size_toArray, List.length_cons, List.length_nil, e3]
  refine Wo.call hc (by rfl) (by rfl) ⟨by rfl, by rfl⟩ (xs := [.slice (some ⟨A1.next, 0, none⟩) 1 1]) (by rfl) (by rfl) (by rfl) (Con.mono (check_all hx3.wf (l := [⟨m, sa, sc, st, ra, rc, ro⟩]) hrow (by simp)) ?_)
  rintro w A4 ⟨rfl, hx4⟩
  rw [errs_one, show (⟨m, sa, sc, st, ra, rc, ro⟩ : Las).err = errL m st ro from rfl]
  refine Wo.run hc 1 rfl rfl rfl ?_
  simp (maxSteps := 2000000) only [List.drop_zero, List.drop_succ_cons, List.take_succ_cons, List.take_zero, sev_tmp, sg_eq, sp_n, Nat.reduceLT, gd, want_free, rops, fx, Option.some.injEq, exists_eq_left', Nat.reduceAdd]
  refine Wo.done hc rfl (hK _ _ ?_)
  clear hK
  (repeat (first | refine Rn.seq hc ?_ | refine Rn.skip hc ?_ | refine Rn.block hc ?_ | refine Rn.inBlock hc ?_ | refine Rn.scope hc ?_ | refine Rn.inScope hc ?_))
  have hx34 : Nx A1.next A1 A4 := hx3.trans (hx4.le hx3.next)
  have hx04 : Nx A.next A A4 := hx01.trans (hx34.le hx01.next)
  have n4 : A0.next < A4.next := by have := hx4.next; omega
  have l4 : Canon.look A4.objs A0.next = _ := (hx34.keep _ (by omega)).trans l1
  have b0 := (hx34.cl (show A.next < A1.next by omega) 0).trans b0
  have b1 := (hx34.cl (show A.next < A1.next by omega) 1).trans b1
  have b2 := (hx34.cl (show A.next < A1.next by omega) 2).trans b2
  have hn0A := hx0.next
  clear hrow c0 c1 c2 e3 e1 e0 hx3 hx4 hx1
  unfold erE
  by_cases he : errL m st ro = 0
  · have hd : (!decide (errL m st ro = 0)) = false := by rw [decide_eq_true he]; rfl
    obtain ⟨l60, l120⟩ := errL_len he
    have hro := errL_pos he
    rw [if_pos he]
    refine Rn.reg hc rfl ?_
    simp only [sev_tmp, sev_const, sg_eq, sp_n, Nat.reduceLT, gd, want_free, rops, fx, bin_neq, Option.some.injEq, exists_eq_left', hd]
    (repeat (first | refine Rn.seq hc ?_ | refine Rn.skip hc ?_ | refine Rn.block hc ?_ | refine Rn.inBlock hc ?_ | refine Rn.scope hc ?_ | refine Rn.inScope hc ?_))
    refine Rn.condE hc rfl ?_
    simp only [sev_tmp, sg_eq, sp_n, Nat.reduceLT, Value.bool.injEq, exists_eq_left']
    (repeat (first | refine Rn.seq hc ?_ | refine Rn.skip hc ?_ | refine Rn.block hc ?_ | refine Rn.inBlock hc ?_ | refine Rn.scope hc ?_ | refine Rn.inScope hc ?_))
    by_cases hbad : sp < 1 ∨ 120 < sp ∨ ad < 0 ∨ 1000000000 < ad
    · obtain ⟨D, q1, g0, g1, g2, hxD⟩ := err_fin hx04 hn0A n4 l4
      rw [if_pos hbad]
      rcases bad4 hbad with h1 | ⟨h1, h2⟩ | ⟨h1, h2, h3⟩ | ⟨h1, h2, h3, h4⟩
      · refine Rn.reg hc rfl ?_
        simp only [sev_tmp, sev_const, sg_eq, sg_ne, sp_n, Nat.reduceLT, ne_eq, Nat.reduceEqDiff, not_false_eq_true, gd, nth, want_free, want_slot, beqB, rops, fx, pck, bin_lss, Option.some.injEq, exists_eq_left', h1]
        (repeat (first | refine Rn.seq hc ?_ | refine Rn.skip hc ?_ | refine Rn.block hc ?_ | refine Rn.inBlock hc ?_ | refine Rn.scope hc ?_ | refine Rn.inScope hc ?_))
        refine Rn.condE hc rfl ?_
        simp only [sev_tmp, sg_eq, sp_n, Nat.reduceLT, Value.bool.injEq, exists_eq_left']
        (repeat (first | refine Rn.seq hc ?_ | refine Rn.skip hc ?_ | refine Rn.block hc ?_ | refine Rn.inBlock hc ?_ | refine Rn.scope hc ?_ | refine Rn.inScope hc ?_))
        refine Rn.reg hc rfl ?_
        simp only [sev_tmp, sev_const, sg_eq, sg_ne, sp_n, sp_none, Nat.reduceLT, ne_eq, Nat.reduceEqDiff, not_false_eq_true, gd, want_free, rops, fx, str, adr_p, Nat.zero_add, Option.some.injEq, exists_eq_left', Nat.reduceAdd, tk24, bd24_z, q1, List.size_toArray, List.length_cons, List.length_nil, Nat.beq_refl]
        (repeat (first | refine Rn.seq hc ?_ | refine Rn.skip hc ?_ | refine Rn.block hc ?_ | refine Rn.inBlock hc ?_ | refine Rn.scope hc ?_ | refine Rn.inScope hc ?_))
        refine Rn.ret (endQ_ct rfl (v := .agg #[.int .i64 0, .slice none 0 0, .slice none 0 0]) ?_ ?_)
        · simp only [sg_eq, sg_ne, sp_n, Nat.reduceLT, ne_eq, Nat.reduceEqDiff, not_false_eq_true, ld, adr_p, cls, Nat.zero_add, Nat.reduceAdd, tk24, g0, g1, g2]
        · simp only [sg_eq, sp_n, Nat.reduceLT]
          exact tld_err (by omega) hxD
      · refine Rn.reg hc rfl ?_
        simp only [sev_tmp, sev_const, sg_eq, sg_ne, sp_n, Nat.reduceLT, ne_eq, Nat.reduceEqDiff, not_false_eq_true, gd, nth, want_free, want_slot, beqB, rops, fx, pck, bin_lss, bin_gtr, Option.some.injEq, exists_eq_left', h1, h2]
        (repeat (first | refine Rn.seq hc ?_ | refine Rn.skip hc ?_ | refine Rn.block hc ?_ | refine Rn.inBlock hc ?_ | refine Rn.scope hc ?_ | refine Rn.inScope hc ?_))
        refine Rn.condE hc rfl ?_
        simp only [sev_tmp, sg_eq, sp_n, Nat.reduceLT, Value.bool.injEq, exists_eq_left']
        (repeat (first | refine Rn.seq hc ?_ | refine Rn.skip hc ?_ | refine Rn.block hc ?_ | refine Rn.inBlock hc ?_ | refine Rn.scope hc ?_ | refine Rn.inScope hc ?_))
        refine Rn.reg hc rfl ?_
        simp only [sev_tmp, sev_const, sg_eq, sg_ne, sp_n, sp_none, Nat.reduceLT, ne_eq, Nat.reduceEqDiff, not_false_eq_true, gd, want_free, rops, fx, str, adr_p, Nat.zero_add, Option.some.injEq, exists_eq_left', Nat.reduceAdd, tk24, bd24_z, q1, List.size_toArray, List.length_cons, List.length_nil, Nat.beq_refl]
        (repeat (first | refine Rn.seq hc ?_ | refine Rn.skip hc ?_ | refine Rn.block hc ?_ | refine Rn.inBlock hc ?_ | refine Rn.scope hc ?_ | refine Rn.inScope hc ?_))
        refine Rn.ret (endQ_ct rfl (v := .agg #[.int .i64 0, .slice none 0 0, .slice none 0 0]) ?_ ?_)
        · simp only [sg_eq, sg_ne, sp_n, Nat.reduceLT, ne_eq, Nat.reduceEqDiff, not_false_eq_true, ld, adr_p, cls, Nat.zero_add, Nat.reduceAdd, tk24, g0, g1, g2]
        · simp only [sg_eq, sp_n, Nat.reduceLT]
          exact tld_err (by omega) hxD
      · refine Rn.reg hc rfl ?_
        simp only [sev_tmp, sev_const, sg_eq, sg_ne, sp_n, Nat.reduceLT, ne_eq, Nat.reduceEqDiff, not_false_eq_true, gd, nth, want_free, want_slot, beqB, rops, fx, pck, bin_lss, bin_gtr, Option.some.injEq, exists_eq_left', h1, h2, h3]
        (repeat (first | refine Rn.seq hc ?_ | refine Rn.skip hc ?_ | refine Rn.block hc ?_ | refine Rn.inBlock hc ?_ | refine Rn.scope hc ?_ | refine Rn.inScope hc ?_))
        refine Rn.condE hc rfl ?_
        simp only [sev_tmp, sg_eq, sp_n, Nat.reduceLT, Value.bool.injEq, exists_eq_left']
        (repeat (first | refine Rn.seq hc ?_ | refine Rn.skip hc ?_ | refine Rn.block hc ?_ | refine Rn.inBlock hc ?_ | refine Rn.scope hc ?_ | refine Rn.inScope hc ?_))
        refine Rn.reg hc rfl ?_
        simp only [sev_tmp, sev_const, sg_eq, sg_ne, sp_n, sp_none, Nat.reduceLT, ne_eq, Nat.reduceEqDiff, not_false_eq_true, gd, want_free, rops, fx, str, adr_p, Nat.zero_add, Option.some.injEq, exists_eq_left', Nat.reduceAdd, tk24, bd24_z, q1, List.size_toArray, List.length_cons, List.length_nil, Nat.beq_refl]
        (repeat (first | refine Rn.seq hc ?_ | refine Rn.skip hc ?_ | refine Rn.block hc ?_ | refine Rn.inBlock hc ?_ | refine Rn.scope hc ?_ | refine Rn.inScope hc ?_))
        refine Rn.ret (endQ_ct rfl (v := .agg #[.int .i64 0, .slice none 0 0, .slice none 0 0]) ?_ ?_)
        · simp only [sg_eq, sg_ne, sp_n, Nat.reduceLT, ne_eq, Nat.reduceEqDiff, not_false_eq_true, ld, adr_p, cls, Nat.zero_add, Nat.reduceAdd, tk24, g0, g1, g2]
        · simp only [sg_eq, sp_n, Nat.reduceLT]
          exact tld_err (by omega) hxD
      · refine Rn.reg hc rfl ?_
        simp only [sev_tmp, sev_const, sg_eq, sg_ne, sp_n, Nat.reduceLT, ne_eq, Nat.reduceEqDiff, not_false_eq_true, gd, nth, want_free, want_slot, beqB, rops, fx, pck, bin_lss, bin_gtr, Option.some.injEq, exists_eq_left', h1, h2, h3, h4]
        (repeat (first | refine Rn.seq hc ?_ | refine Rn.skip hc ?_ | refine Rn.block hc ?_ | refine Rn.inBlock hc ?_ | refine Rn.scope hc ?_ | refine Rn.inScope hc ?_))
        refine Rn.condE hc rfl ?_
        simp only [sev_tmp, sg_eq, sp_n, Nat.reduceLT, Value.bool.injEq, exists_eq_left']
        (repeat (first | refine Rn.seq hc ?_ | refine Rn.skip hc ?_ | refine Rn.block hc ?_ | refine Rn.inBlock hc ?_ | refine Rn.scope hc ?_ | refine Rn.inScope hc ?_))
        refine Rn.reg hc rfl ?_
        simp only [sev_tmp, sev_const, sg_eq, sg_ne, sp_n, sp_none, Nat.reduceLT, ne_eq, Nat.reduceEqDiff, not_false_eq_true, gd, want_free, rops, fx, str, adr_p, Nat.zero_add, Option.some.injEq, exists_eq_left', Nat.reduceAdd, tk24, bd24_z, q1, List.size_toArray, List.length_cons, List.length_nil, Nat.beq_refl]
        (repeat (first | refine Rn.seq hc ?_ | refine Rn.skip hc ?_ | refine Rn.block hc ?_ | refine Rn.inBlock hc ?_ | refine Rn.scope hc ?_ | refine Rn.inScope hc ?_))
        refine Rn.ret (endQ_ct rfl (v := .agg #[.int .i64 0, .slice none 0 0, .slice none 0 0]) ?_ ?_)
        · simp only [sg_eq, sg_ne, sp_n, Nat.reduceLT, ne_eq, Nat.reduceEqDiff, not_false_eq_true, ld, adr_p, cls, Nat.zero_add, Nat.reduceAdd, tk24, g0, g1, g2]
        · simp only [sg_eq, sp_n, Nat.reduceLT]
          exact tld_err (by omega) hxD
    · have h1 : decide (sp < 1) = false := decide_eq_false (by omega)
      have h2 : decide (120 < sp) = false := decide_eq_false (by omega)
      have h3 : decide (ad < 0) = false := decide_eq_false (by omega)
      have h4 : decide (1000000000 < ad) = false := decide_eq_false (by omega)
      rw [if_neg hbad]
      obtain ⟨stp, rfl⟩ : ∃ k : Nat, sp = (k : Int) := ⟨sp.toNat, by omega⟩
      obtain ⟨adr, rfl⟩ : ∃ k : Nat, ad = (k : Int) := ⟨ad.toNat, by omega⟩
      rw [Int.toNat_natCast, Int.toNat_natCast]
      have hs1 : 1 ≤ stp := by omega
      have hs2 : stp ≤ 120 := by omega
      have ha2 : adr ≤ 1000000000 := by omega
      refine Rn.reg hc rfl ?_
      simp only [sev_tmp, sev_const, sg_eq, sg_ne, sp_n, Nat.reduceLT, ne_eq, Nat.reduceEqDiff, not_false_eq_true, gd, nth, want_free, want_slot, beqB, rops, fx, pck, bin_lss, bin_gtr, Option.some.injEq, exists_eq_left', h1, h2, h3, h4]
      (repeat (first | refine Rn.seq hc ?_ | refine Rn.skip hc ?_ | refine Rn.block hc ?_ | refine Rn.inBlock hc ?_ | refine Rn.scope hc ?_ | refine Rn.inScope hc ?_))
      refine Rn.condE hc rfl ?_
      simp only [sev_tmp, sg_eq, sp_n, Nat.reduceLT, Value.bool.injEq, exists_eq_left']
      (repeat (first | refine Rn.seq hc ?_ | refine Rn.skip hc ?_ | refine Rn.block hc ?_ | refine Rn.inBlock hc ?_ | refine Rn.scope hc ?_ | refine Rn.inScope hc ?_))
      clear h1 h2 h3 h4 hbad
      obtain ⟨E, hE⟩ : ∃ E : Nat → Int, E = fun i => atL st ro (adr + i * stp) := ⟨_, rfl⟩
      have hEv : ∀ i, E i = atL st ro (adr + i * stp) := fun i => by rw [hE]
      rw [← hE]
      have hx5a : Nx A4.next A4 (A4.push (.cells #[.int .i64 0, .slice none 0 0, .slice none 0 0] 86)) := (Nx.refl hx04.wf _).push (Nat.le_refl _) _
      have l5a := look_push_eq A4 (.cells #[.int .i64 0, .slice none 0 0, .slice none 0 0] 86)
      have hn5a : (A4.push (.cells #[.int .i64 0, .slice none 0 0, .slice none 0 0] 86)).next = A4.next + 1 := rfl
      generalize e5 : A4.push (.cells #[.int .i64 0, .slice none 0 0, .slice none 0 0] 86) = A5a at hx5a l5a hn5a
      obtain ⟨A5, c5, q5, u5, u6, u7⟩ := sts_upd (l := [.int .i64 m, .slice sa st.length sc, .slice ra ro.length rc]) (o := 0) l5a rfl (by simp) rfl
      have hx5 : Nx A4.next A4 A5 := hx5a.trans (u5.nx hx5a.wf (Nat.le_refl _))
      have hn5 : A5.next = A4.next + 1 := by rw [u5.next, hn5a]
      have d0 : cl A5 A4.next 0 = some (.int .i64 m) := by rw [u5.cl, u7]; rfl
      have d1 : cl A5 A4.next 1 = some (.slice sa st.length sc) := by rw [u5.cl, u7]; rfl
      have d2 : cl A5 A4.next 2 = some (.slice ra ro.length rc) := by rw [u5.cl, u7]; rfl
      have hx05 : Nx A.next A A5 := hx04.trans (hx5.le hx04.next)
      have b0 := (hx5.cl (show A.next < A4.next by omega) 0).trans b0
      have b1 := (hx5.cl (show A.next < A4.next by omega) 1).trans b1
      have b2 := (hx5.cl (show A.next < A4.next by omega) 2).trans b2
      have l5 : Canon.look A5.objs A0.next = _ := (hx5.keep _ n4).trans l4
      have b0' := (hx5.cl (show A.next < A4.next by omega) 0).symm.trans b0
      have b1' := (hx5.cl (show A.next < A4.next by omega) 1).symm.trans b1
      have b2' := (hx5.cl (show A.next < A4.next by omega) 2).symm.trans b2
      refine Rn.reg hc rfl ?_
      simp only [sev_tmp, sg_eq, sg_ne, sp_n, sp_none, Nat.reduceLT, ne_eq, Nat.reduceEqDiff, not_false_eq_true, gd, want_free, rops, fx, ld, str, adr_p, cls, Nat.zero_add, Option.some.injEq, exists_eq_left', Value.cells, Nat.reduceAdd, tk24, tk86, b0', b1', b2', bd86, List.size_toArray, List.length_cons, List.length_nil, ze86, e5, q5, Nat.beq_refl]
      (repeat (first | refine Rn.seq hc ?_ | refine Rn.skip hc ?_ | refine Rn.block hc ?_ | refine Rn.inBlock hc ?_ | refine Rn.scope hc ?_ | refine Rn.inScope hc ?_))
      refine Rn.reg hc rfl ?_
      simp only [sev_const, gd, want_free, rops, fx, Option.some.injEq, exists_eq_left']
      (repeat (first | refine Rn.seq hc ?_ | refine Rn.skip hc ?_ | refine Rn.block hc ?_ | refine Rn.inBlock hc ?_ | refine Rn.scope hc ?_ | refine Rn.inScope hc ?_))
      refine Rn.loopI hc (I := fun k s B => ∃ i wa tt, tt = adr + i * stp ∧ i ≤ tt ∧ (i = 0 ∨ tt ≤ st.length + 120) ∧ k = st.length - tt ∧ Nx A5.next A5 B ∧ Gr B wa A5.next (redS E i) ∧ s.n = 75 ∧ sget s 1 = .int .i64 (stp : Int) ∧ sget s 2 = .int .i64 ((tt : Nat) : Int) ∧ sget s 3 = .pointer (some ⟨A.next, 0, none⟩) ∧ sget s 6 = .pointer (some ⟨A0.next, 0, none⟩) ∧ sget s 9 = .pointer (some ⟨A4.next, 0, none⟩) ∧ sget s 10 = .slice wa i i ∧ sget s 11 = .slice none 0 0)
        (n := st.length - adr) ⟨0, none, adr, by omega, by omega, .inl rfl, rfl, Nx.refl hx5.wf _, Gr.nil _ _, by simp only [sp_n], by simp only [sg_eq, sg_ne, sp_n, Nat.reduceLT, ne_eq, Nat.reduceEqDiff, not_false_eq_true], by simp only [sg_eq, sg_ne, sp_n, Nat.reduceLT, ne_eq, Nat.reduceEqDiff, not_false_eq_true], by simp only [sg_eq, sg_ne, sp_n, Nat.reduceLT, ne_eq, Nat.reduceEqDiff, not_false_eq_true], by simp only [sg_eq, sg_ne, sp_n, Nat.reduceLT, ne_eq, Nat.reduceEqDiff, not_false_eq_true, hn0], by simp only [sg_eq, sg_ne, sp_n, Nat.reduceLT, ne_eq, Nat.reduceEqDiff, not_false_eq_true], by simp only [sg_eq, sg_ne, sp_n, Nat.reduceLT, ne_eq, Nat.reduceEqDiff, not_false_eq_true], by simp only [sg_eq, sp_n, Nat.reduceLT]⟩ ?_
      rintro k s B ⟨i, wa, tt, htt, hi1, hi2, rfl, hB, hg, hn, s1, s2, s3, s6, s9, s10, s11⟩ ih
      have htb : tt ≤ 1000000200 := by
        rcases hi2 with h | h
        · subst h
          rw [Nat.zero_mul] at htt
          omega
        · omega
      have hB0 : Nx A.next A B := hx05.trans (hB.le hx05.next)
      have nB := hB.next
      have c1 := (hB.cl (show A.next < A5.next by omega) 1).trans b1
      have c2 := (hB.cl (show A.next < A5.next by omega) 2).trans b2
      have c0 := (hB.cl (show A.next < A5.next by omega) 0).trans b0
      have f0 := (hB.cl (show A4.next < A5.next by omega) 0).trans d0
      have f1 := (hB.cl (show A4.next < A5.next by omega) 1).trans d1
      have f2 := (hB.cl (show A4.next < A5.next by omega) 2).trans d2
      (repeat (first | refine Rn.seq hc ?_ | refine Rn.skip hc ?_ | refine Rn.block hc ?_ | refine Rn.inBlock hc ?_ | refine Rn.scope hc ?_ | refine Rn.inScope hc ?_))
      by_cases hlt : tt < st.length
      · have hd : decide ((tt : Int) < (st.length : Int)) = true := decide_eq_true (by omega)
        refine Rn.reg hc rfl ?_
        simp only [sev_tmp, sg_eq, sg_ne, sp_n, Nat.reduceLT, ne_eq, Nat.reduceEqDiff, not_false_eq_true, gd, want_free, rops, fx, ld, fad, lng, bin_lss, adr_p, Nat.zero_add, Option.some.injEq, exists_eq_left', tk22, fo24_1, un22, hn, s2, s3, c1, hd]
        (repeat (first | refine Rn.seq hc ?_ | refine Rn.skip hc ?_ | refine Rn.block hc ?_ | refine Rn.inBlock hc ?_ | refine Rn.scope hc ?_ | refine Rn.inScope hc ?_))
        refine Rn.condE hc rfl ?_
        simp only [sev_tmp, sg_eq, sp_n, Nat.reduceLT, Value.bool.injEq, exists_eq_left', hn]
        (repeat (first | refine Rn.seq hc ?_ | refine Rn.skip hc ?_ | refine Rn.block hc ?_ | refine Rn.inBlock hc ?_ | refine Rn.scope hc ?_ | refine Rn.inScope hc ?_))
        refine Rn.region hc fun K hK => ?_
        refine Wo.run hc 3 rfl rfl rfl ?_
        simp (maxSteps := 2000000) only [List.drop_zero, List.take_succ_cons, List.take_zero, sev_tmp, sg_ne, ne_eq, Nat.reduceEqDiff, not_false_eq_true, gd, want_free, rops, fx, ld, adr_p, cls, Nat.zero_add, Option.some.injEq, exists_eq_left', Nat.reduceAdd, tk86, s2, s9, s10, f0, f1, f2]
        refine Wo.call hc (by rfl) (by rfl) ⟨by rfl, by rfl⟩ (xs := [.agg #[.int .i64 m, .slice sa st.length sc, .slice ra ro.length rc], .int .i64 ((tt : Nat) : Int)]) (by rfl) (by rfl) (by simp only [sev_tmp, sg_eq, sg_ne, sp_n, Nat.reduceLT, ne_eq, Nat.reduceEqDiff, not_false_eq_true, List.map_cons, List.map_nil, List.nil_append, List.append_nil, hn]) (Con.mono (at_stream hB.wf ((hs.nx hB0 (Nat.le_refl _)).mono (Nat.le_refl _) hB0.next) ((hr.nx hB0 (Nat.le_refl _)).mono (Nat.le_refl _) hB0.next) tt ls hro lr (by omega)) ?_)
        rintro w B1 ⟨rfl, hy1⟩
        have hval : atL st ro tt = E i := by rw [hEv, htt]
        rw [hval]
        have hz1 : Nx B1.next B1 (B1.push (.cells #[.int .i64 (E i)] 3)) := (Nx.refl hy1.wf _).push (Nat.le_refl _) _
        have lB2 := look_push_eq B1 (.cells #[.int .i64 (E i)] 3)
        have hnB2 : (B1.push (.cells #[.int .i64 (E i)] 3)).next = B1.next + 1 := rfl
        generalize eB2 : B1.push (.cells #[.int .i64 (E i)] 3) = B2 at hz1 lB2 hnB2
        have hg2 : Gr B2 wa A5.next (redS E i) := (hg.nx (n := 0) hB.wf hy1).nx (n := 0) hy1.wf hz1
        obtain ⟨B3, q1, n3, w3, hg3, _, nx3⟩ := gr_push hz1.wf hg2 (a2 := some ⟨B1.next, 0, none⟩) (c2 := 1) (b2 := B1.next) (x := E i) rfl (by rw [cl_of lB2 rfl]; rfl) (by rw [redS_len]; omega)
        rw [redS_len] at q1
        rw [redS_snoc] at hg3
        have hyn := hy1.next
        refine Wo.run hc 3 rfl rfl rfl ?_
        simp (maxSteps := 2000000) only [List.drop_zero, List.drop_succ_cons, List.take_succ_cons, List.take_zero, sev_tmp, sg_eq, sg_ne, sp_n, Nat.reduceLT, ne_eq, Nat.reduceEqDiff, not_false_eq_true, gd, want_free, rops, fx, Option.some.injEq, exists_eq_left', Nat.reduceAdd, hn, bs22_1, isCell, eB2, ae_apd, apd_slice, q1]
        refine Wo.done hc rfl (hK _ _ ?_)
        clear hK
        (repeat (first | refine Rn.seq hc ?_ | refine Rn.skip hc ?_ | refine Rn.block hc ?_ | refine Rn.inBlock hc ?_ | refine Rn.scope hc ?_ | refine Rn.inScope hc ?_))
        have hB3 : Nx A5.next A5 B3 := hB.trans ((hy1.le hB.next).trans ((hz1.le (by omega)).trans (nx3.le (by omega))))
        have hw1 : IntKind.i64.wrap ((tt : Int) + (stp : Int)) = ((tt + stp : Nat) : Int) := by rw [IntWalk.i64_in _ (by omega)]; omega
        have htt2 : tt + stp = adr + (i + 1) * stp := by rw [htt, Nat.succ_mul]; omega
        refine Rn.reg hc rfl ?_
        simp only [sev_tmp, sg_eq, sg_ne, sp_n, Nat.reduceLT, ne_eq, Nat.reduceEqDiff, not_false_eq_true, gd, want_free, rops, fx, bin_add, Option.some.injEq, exists_eq_left', hn, s1, s2, hw1]
        (repeat (first | refine Rn.seq hc ?_ | refine Rn.skip hc ?_ | refine Rn.block hc ?_ | refine Rn.inBlock hc ?_ | refine Rn.scope hc ?_ | refine Rn.inScope hc ?_))
        exact ih _ _ _ (by omega) ⟨i + 1, _, tt + stp, htt2, by omega, .inr (by omega), rfl, hB3, hg3.mono (by omega), by simp only [sp_n, hn], by simp only [sg_ne, ne_eq, Nat.reduceEqDiff, not_false_eq_true, s1], by simp only [sg_eq, sp_n, Nat.reduceLT, hn], by simp only [sg_ne, ne_eq, Nat.reduceEqDiff, not_false_eq_true, s3], by simp only [sg_ne, ne_eq, Nat.reduceEqDiff, not_false_eq_true, s6], by simp only [sg_ne, ne_eq, Nat.reduceEqDiff, not_false_eq_true, s9], by simp only [sg_eq, sg_ne, sp_n, Nat.reduceLT, ne_eq, Nat.reduceEqDiff, not_false_eq_true, hn], by simp only [sg_ne, ne_eq, Nat.reduceEqDiff, not_false_eq_true, s11]⟩
      · have hd : decide ((tt : Int) < (st.length : Int)) = false := decide_eq_false (by omega)
        clear ih
        refine Rn.reg hc rfl ?_
        simp only [sev_tmp, sg_eq, sg_ne, sp_n, Nat.reduceLT, ne_eq, Nat.reduceEqDiff, not_false_eq_true, gd, want_free, rops, fx, ld, fad, lng, bin_lss, adr_p, Nat.zero_add, Option.some.injEq, exists_eq_left', tk22, fo24_1, un22, hn, s2, s3, c1, hd]
        (repeat (first | refine Rn.seq hc ?_ | refine Rn.skip hc ?_ | refine Rn.block hc ?_ | refine Rn.inBlock hc ?_ | refine Rn.scope hc ?_ | refine Rn.inScope hc ?_))
        refine Rn.condE hc rfl ?_
        simp only [sev_tmp, sg_eq, sp_n, Nat.reduceLT, Value.bool.injEq, exists_eq_left', hn]
        (repeat (first | refine Rn.seq hc ?_ | refine Rn.skip hc ?_ | refine Rn.block hc ?_ | refine Rn.inBlock hc ?_ | refine Rn.scope hc ?_ | refine Rn.inScope hc ?_))
        refine Rn.exit hc rfl ?_
        (repeat (first | refine Rn.seq hc ?_ | refine Rn.skip hc ?_ | refine Rn.block hc ?_ | refine Rn.inBlock hc ?_ | refine Rn.scope hc ?_ | refine Rn.inScope hc ?_))
        have hEp : Per E i ro.length := by rw [hE]; exact every_per hro hs1 (by omega)
        refine Rn.reg hc rfl ?_
        simp only [sev_tmp, sev_const, sg_eq, sg_ne, sp_n, Nat.reduceLT, ne_eq, Nat.reduceEqDiff, not_false_eq_true, gd, want_free, rops, fx, ld, fad, lng, adr_p, Nat.zero_add, Option.some.injEq, exists_eq_left', tk22, fo24_2, un22, hn, s3, c2]
        (repeat (first | refine Rn.seq hc ?_ | refine Rn.skip hc ?_ | refine Rn.block hc ?_ | refine Rn.inBlock hc ?_ | refine Rn.scope hc ?_ | refine Rn.inScope hc ?_))
        refine Rn.loopI hc (I := fun k s C => ∃ j wb, j ≤ ro.length ∧ k = ro.length - j ∧ Nx B.next B C ∧ Gr C wb B.next (redR E i j) ∧ s.n = 75 ∧ sget s 1 = .int .i64 (stp : Int) ∧ sget s 2 = .int .i64 ((tt : Nat) : Int) ∧ sget s 3 = .pointer (some ⟨A.next, 0, none⟩) ∧ sget s 6 = .pointer (some ⟨A0.next, 0, none⟩) ∧ sget s 9 = .pointer (some ⟨A4.next, 0, none⟩) ∧ sget s 10 = .slice wa i i ∧ sget s 11 = .slice wb j j ∧ sget s 53 = .int .i64 (ro.length : Int) ∧ sget s 54 = .int .i64 (j : Int))
          (n := ro.length) ⟨0, none, by omega, rfl, Nx.refl hB.wf _, Gr.nil _ _, by simp only [sp_n, hn], by simp only [sg_ne, ne_eq, Nat.reduceEqDiff, not_false_eq_true, s1], by simp only [sg_ne, ne_eq, Nat.reduceEqDiff, not_false_eq_true, s2], by simp only [sg_ne, ne_eq, Nat.reduceEqDiff, not_false_eq_true, s3], by simp only [sg_ne, ne_eq, Nat.reduceEqDiff, not_false_eq_true, s6], by simp only [sg_ne, ne_eq, Nat.reduceEqDiff, not_false_eq_true, s9], by simp only [sg_ne, ne_eq, Nat.reduceEqDiff, not_false_eq_true, s10], by simp only [sg_ne, ne_eq, Nat.reduceEqDiff, not_false_eq_true, s11], by simp only [sg_eq, sg_ne, sp_n, Nat.reduceLT, ne_eq, Nat.reduceEqDiff, not_false_eq_true, hn], by simp only [sg_eq, sp_n, Nat.reduceLT, hn]; rfl⟩ ?_
        clear hn s1 s2 s3 s6 s9 s10 s11 s hd
        rintro k s C ⟨j, wb, hj, rfl, hC, hgb, hn, s1, s2, s3, s6, s9, s10, s11, s53, s54⟩ ih
        have hC0 : Nx A.next A C := hB0.trans (hC.le hB0.next)
        have nC := hC.next
        (repeat (first | refine Rn.seq hc ?_ | refine Rn.skip hc ?_ | refine Rn.block hc ?_ | refine Rn.inBlock hc ?_ | refine Rn.scope hc ?_ | refine Rn.inScope hc ?_))
        by_cases hlj : j < ro.length
        · have hd : decide ((j : Int) < (ro.length : Int)) = true := decide_eq_true (by omega)
          have f0 := (hC.cl (show A4.next < B.next by omega) 0).trans f0
          have f1 := (hC.cl (show A4.next < B.next by omega) 1).trans f1
          have f2 := (hC.cl (show A4.next < B.next by omega) 2).trans f2
          have hjs : j * stp ≤ 120 * 120 := Nat.mul_le_mul (by omega) hs2
          have hw1 : IntKind.i64.wrap ((j : Int) * (stp : Int)) = ((j * stp : Nat) : Int) := by
            rw [← Int.natCast_mul, IntWalk.i64_in _ (by omega)]
          have hw2 : IntKind.i64.wrap ((tt : Int) + ((j * stp : Nat) : Int)) = ((tt + j * stp : Nat) : Int) := by rw [IntWalk.i64_in _ (by omega)]; omega
          refine Rn.reg hc rfl ?_
          simp only [sev_tmp, gd, want_free, rops, fx, bin_lss, Option.some.injEq, exists_eq_left', s53, s54, hd]
          (repeat (first | refine Rn.seq hc ?_ | refine Rn.skip hc ?_ | refine Rn.block hc ?_ | refine Rn.inBlock hc ?_ | refine Rn.scope hc ?_ | refine Rn.inScope hc ?_))
          refine Rn.condE hc rfl ?_
          simp only [sev_tmp, sg_eq, Nat.reduceLT, Value.bool.injEq, exists_eq_left', hn]
          (repeat (first | refine Rn.seq hc ?_ | refine Rn.skip hc ?_ | refine Rn.block hc ?_ | refine Rn.inBlock hc ?_ | refine Rn.scope hc ?_ | refine Rn.inScope hc ?_))
          refine Rn.reg hc rfl ?_
          simp only [sev_tmp, sg_eq, sg_ne, sp_n, Nat.reduceLT, ne_eq, Nat.reduceEqDiff, not_false_eq_true, gd, want_free, rops, fx, Option.some.injEq, exists_eq_left', hn, s54]
          (repeat (first | refine Rn.seq hc ?_ | refine Rn.skip hc ?_ | refine Rn.block hc ?_ | refine Rn.inBlock hc ?_ | refine Rn.scope hc ?_ | refine Rn.inScope hc ?_))
          refine Rn.region hc fun K hK => ?_
          refine Wo.run hc 7 rfl rfl rfl ?_
          simp (maxSteps := 2000000) only [List.drop_zero, List.take_succ_cons, List.take_zero, sev_tmp, sg_eq, sg_ne, sp_n, Nat.reduceLT, ne_eq, Nat.reduceEqDiff, not_false_eq_true, gd, want_free, rops, fx, ld, bin_add, bin_mul, adr_p, cls, Nat.zero_add, Option.some.injEq, exists_eq_left', Nat.reduceAdd, tk86, hn, s1, s2, s9, s11, f0, f1, f2, hw1, hw2]
          refine Wo.call hc (by rfl) (by rfl) ⟨by rfl, by rfl⟩ (xs := [.agg #[.int .i64 m, .slice sa st.length sc, .slice ra ro.length rc], .int .i64 ((tt + j * stp : Nat) : Int)]) (by rfl) (by rfl) (by simp only [sev_tmp, sg_eq, sg_ne, sp_n, Nat.reduceLT, ne_eq, Nat.reduceEqDiff, not_false_eq_true, List.map_cons, List.map_nil, List.nil_append, List.append_nil, hn]) (Con.mono (at_stream hC.wf ((hs.nx hC0 (Nat.le_refl _)).mono (Nat.le_refl _) hC0.next) ((hr.nx hC0 (Nat.le_refl _)).mono (Nat.le_refl _) hC0.next) (tt + j * stp) ls hro lr (by omega)) ?_)
          rintro w B1 ⟨rfl, hy1⟩
          have hval : atL st ro (tt + j * stp) = E (i + j) := by rw [hEv, htt, Nat.add_mul, Nat.add_assoc]
          rw [hval]
          have hz1 : Nx B1.next B1 (B1.push (.cells #[.int .i64 (E (i + j))] 3)) := (Nx.refl hy1.wf _).push (Nat.le_refl _) _
          have lB2 := look_push_eq B1 (.cells #[.int .i64 (E (i + j))] 3)
          have hnB2 : (B1.push (.cells #[.int .i64 (E (i + j))] 3)).next = B1.next + 1 := rfl
          generalize eB2 : B1.push (.cells #[.int .i64 (E (i + j))] 3) = B2 at hz1 lB2 hnB2
          have hg2 : Gr B2 wb B.next (redR E i j) := (hgb.nx (n := 0) hC.wf hy1).nx (n := 0) hy1.wf hz1
          obtain ⟨B3, q1, n3, w3, hg3, _, nx3⟩ := gr_push hz1.wf hg2 (a2 := some ⟨B1.next, 0, none⟩) (c2 := 1) (b2 := B1.next) (x := E (i + j)) rfl (by rw [cl_of lB2 rfl]; rfl) (by rw [redR_len]; omega)
          rw [redR_len] at q1
          rw [redR_snoc] at hg3
          have hyn := hy1.next
          refine Wo.run hc 3 rfl rfl rfl ?_
          simp (maxSteps := 2000000) only [List.drop_zero, List.drop_succ_cons, List.take_succ_cons, List.take_zero, sev_tmp, sg_eq, sg_ne, sp_n, Nat.reduceLT, ne_eq, Nat.reduceEqDiff, not_false_eq_true, gd, want_free, rops, fx, Option.some.injEq, exists_eq_left', Nat.reduceAdd, hn, bs22_1, isCell, eB2, ae_apd, apd_slice, q1]
          refine Wo.done hc rfl (hK _ _ ?_)
          clear hK
          (repeat (first | refine Rn.seq hc ?_ | refine Rn.skip hc ?_ | refine Rn.block hc ?_ | refine Rn.inBlock hc ?_ | refine Rn.scope hc ?_ | refine Rn.inScope hc ?_))
          have hC3 : Nx B.next B B3 := hC.trans ((hy1.le hC.next).trans ((hz1.le (by omega)).trans (nx3.le (by omega))))
          refine Rn.reg hc rfl ?_
          simp only [sev_tmp, sev_const, sg_eq, sg_ne, sp_n, Nat.reduceLT, ne_eq, Nat.reduceEqDiff, not_false_eq_true, gd, want_free, rops, fx, bin_add, Option.some.injEq, exists_eq_left', hn, s54, wrap_succ (show j < 9223372036854775807 by omega)]
          (repeat (first | refine Rn.seq hc ?_ | refine Rn.skip hc ?_ | refine Rn.block hc ?_ | refine Rn.inBlock hc ?_ | refine Rn.scope hc ?_ | refine Rn.inScope hc ?_))
          exact ih _ _ _ (by omega) ⟨j + 1, _, by omega, rfl, hC3, hg3.mono (by omega), by simp only [sp_n, hn], by simp only [sg_ne, ne_eq, Nat.reduceEqDiff, not_false_eq_true, s1], by simp only [sg_ne, ne_eq, Nat.reduceEqDiff, not_false_eq_true, s2], by simp only [sg_ne, ne_eq, Nat.reduceEqDiff, not_false_eq_true, s3], by simp only [sg_ne, ne_eq, Nat.reduceEqDiff, not_false_eq_true, s6], by simp only [sg_ne, ne_eq, Nat.reduceEqDiff, not_false_eq_true, s9], by simp only [sg_ne, ne_eq, Nat.reduceEqDiff, not_false_eq_true, s10], by simp only [sg_eq, sg_ne, sp_n, Nat.reduceLT, ne_eq, Nat.reduceEqDiff, not_false_eq_true, hn], by simp only [sg_ne, ne_eq, Nat.reduceEqDiff, not_false_eq_true, s53], by simp only [sg_eq, sp_n, Nat.reduceLT, hn]⟩
        · have hd : decide ((j : Int) < (ro.length : Int)) = false := decide_eq_false (by omega)
          have hjr : j = ro.length := by omega
          clear ih
          refine Rn.reg hc rfl ?_
          simp only [sev_tmp, gd, want_free, rops, fx, bin_lss, Option.some.injEq, exists_eq_left', s53, s54, hd]
          (repeat (first | refine Rn.seq hc ?_ | refine Rn.skip hc ?_ | refine Rn.block hc ?_ | refine Rn.inBlock hc ?_ | refine Rn.scope hc ?_ | refine Rn.inScope hc ?_))
          refine Rn.condE hc rfl ?_
          simp only [sev_tmp, sg_eq, Nat.reduceLT, Value.bool.injEq, exists_eq_left', hn]
          (repeat (first | refine Rn.seq hc ?_ | refine Rn.skip hc ?_ | refine Rn.block hc ?_ | refine Rn.inBlock hc ?_ | refine Rn.scope hc ?_ | refine Rn.inScope hc ?_))
          refine Rn.exit hc rfl ?_
          (repeat (first | refine Rn.seq hc ?_ | refine Rn.skip hc ?_ | refine Rn.block hc ?_ | refine Rn.inBlock hc ?_ | refine Rn.scope hc ?_ | refine Rn.inScope hc ?_))
          subst hjr
          have c0 := (hC.cl (show A.next < B.next by omega) 0).trans c0
          have lC : Canon.look C.objs A0.next = _ := (hC.keep _ (by omega)).trans ((hB.keep _ (by omega)).trans l5)
          have hgC : Gr C wa A5.next (redS E i) := hg.nx (n := 0) hB.wf hC
          have hlr := least_run hC.wf (m := m) (sc := i) (rc := ro.length) (hgC.ints.mono (Nat.zero_le _) (Nat.le_refl _)) (hgb.ints.mono (Nat.zero_le _) (Nat.le_refl _)) (by rw [redS_len]; omega) (by rw [redR_len]; omega) (by rw [redR_len]; exact hro) (hgC.sl.mono (Nat.zero_le _)) (by rw [redS_len]; exact Nat.le_refl _)
          rw [atL_redF hEp] at hlr
          simp only [redS_len, redR_len] at hlr
          refine Rn.region hc fun K hK => ?_
          refine Wo.run hc 4 rfl rfl rfl ?_
          simp (maxSteps := 2000000) only [List.drop_zero, List.take_succ_cons, List.take_zero, sev_tmp, sg_eq, sg_ne, sp_n, Nat.reduceLT, ne_eq, Nat.reduceEqDiff, not_false_eq_true, gd, want_free, rops, fx, ld, fad, adr_p, Nat.zero_add, Nat.add_zero, Option.some.injEq, exists_eq_left', tk3, fo24_0, hn, s3, s10, s11, c0]
          refine Wo.call hc (by rfl) (by rfl) ⟨by rfl, by rfl⟩ (xs := [.int .i64 m, .slice wa i i, .slice wb ro.length ro.length]) (by rfl) (by rfl) (by simp only [sev_tmp, sg_eq, sg_ne, sp_n, Nat.reduceLT, ne_eq, Nat.reduceEqDiff, not_false_eq_true, List.map_cons, List.map_nil, List.nil_append, List.append_nil, hn]) (Con.mono (hlr) ?_)
          rintro w C3 ⟨a, p, hred, _, _, hq⟩
          obtain ⟨mm, n1, n2, ee, p1, c1, p2, c2, rfl, D, q1, g0, g1, g2, hoff, hT⟩ := Tld.fin (b := A0.next) hC0 hn0A (by omega) lC (tld_q (m := m) hred hq)
          refine Wo.run hc 4 rfl rfl rfl ?_
          simp (maxSteps := 2000000) only [List.drop_zero, List.drop_succ_cons, List.take_succ_cons, List.take_zero, sev_tmp, sg_eq, sg_ne, sp_n, sp_none, Nat.reduceLT, ne_eq, Nat.reduceEqDiff, not_false_eq_true, gd, want_free, rops, fx, str, ext, adr_p, List.getElem?_toArray, List.getElem?_cons_zero, List.getElem?_cons_succ, Nat.zero_add, Option.some.injEq, exists_eq_left', Nat.reduceAdd, tk24, hn, s6, ext, q1, List.size_toArray, List.length_cons, List.length_nil, Nat.beq_refl]
          refine Wo.done hc rfl (hK _ _ ?_)
          clear hK
          (repeat (first | refine Rn.seq hc ?_ | refine Rn.skip hc ?_ | refine Rn.block hc ?_ | refine Rn.inBlock hc ?_ | refine Rn.scope hc ?_ | refine Rn.inScope hc ?_))
          refine Rn.ret (endQ_ct rfl (v := .agg #[.int .i64 mm, .slice p1 n1 c1, .slice p2 n2 c2]) ?_ ?_)
          · simp only [sg_ne, ne_eq, Nat.reduceEqDiff, not_false_eq_true, ld, adr_p, cls, Nat.zero_add, Nat.reduceAdd, tk24, s6, g0, g1, g2]
          · simp only [sg_eq, sp_n, Nat.reduceLT, hn]
            exact hT
  · have hd : (!decide (errL m st ro = 0)) = true := by rw [decide_eq_false he]; rfl
    obtain ⟨D, q1, g0, g1, g2, hxD⟩ := err_fin hx04 hn0A n4 l4
    rw [if_neg he]
    refine Rn.reg hc rfl ?_
    simp only [sev_tmp, sev_const, sg_eq, sp_n, Nat.reduceLT, gd, want_free, rops, fx, bin_neq, Option.some.injEq, exists_eq_left', hd]
    (repeat (first | refine Rn.seq hc ?_ | refine Rn.skip hc ?_ | refine Rn.block hc ?_ | refine Rn.inBlock hc ?_ | refine Rn.scope hc ?_ | refine Rn.inScope hc ?_))
    refine Rn.condE hc rfl ?_
    simp only [sev_tmp, sg_eq, sp_n, Nat.reduceLT, Value.bool.injEq, exists_eq_left']
    (repeat (first | refine Rn.seq hc ?_ | refine Rn.skip hc ?_ | refine Rn.block hc ?_ | refine Rn.inBlock hc ?_ | refine Rn.scope hc ?_ | refine Rn.inScope hc ?_))
    refine Rn.reg hc rfl ?_
    simp only [sev_tmp, sg_eq, sg_ne, sp_n, sp_none, Nat.reduceLT, ne_eq, Nat.reduceEqDiff, not_false_eq_true, gd, want_free, rops, fx, str, adr_p, Nat.zero_add, Option.some.injEq, exists_eq_left', Nat.reduceAdd, tk24, bd24_z, q1, List.size_toArray, List.length_cons, List.length_nil, Nat.beq_refl]
    (repeat (first | refine Rn.seq hc ?_ | refine Rn.skip hc ?_ | refine Rn.block hc ?_ | refine Rn.inBlock hc ?_ | refine Rn.scope hc ?_ | refine Rn.inScope hc ?_))
    refine Rn.ret (endQ_ct rfl (v := .agg #[.int .i64 0, .slice none 0 0, .slice none 0 0]) ?_ ?_)
    · simp only [sg_eq, sg_ne, sp_n, Nat.reduceLT, ne_eq, Nat.reduceEqDiff, not_false_eq_true, ld, adr_p, cls, Nat.zero_add, Nat.reduceAdd, tk24, g0, g1, g2]
    · simp only [sg_eq, sp_n, Nat.reduceLT]
      exact tld_err he hxD
end Go.Proofs.Ytdaljohmfnfgiaa
/- Every so many elements, by the reference. No condition. -/
namespace Go.Proofs.Ytdaljohmfnfgiaa
open Go Go.RowKit Go.Proofs.Ytdaljohmfnfgiaa.Canon
set_option maxRecDepth 20000

theorem every_ref {A : AHeap} (hw : WF A) {m sp ad : Int} {sa ra : Option Addr} {sc rc : Nat} {st ro : List Int} (hs : Ints A sa 0 A.next st) (hr : Ints A ra 0 A.next ro) (ls : st.length < 4611686018427387904) (lr : ro.length < 4611686018427387904) :
    Con Try.prog 38 [.agg #[.int .i64 m, .slice sa st.length sc, .slice ra ro.length rc], .int .i64 sp, .int .i64 ad] A (TldR A (erE m st ro sp ad) m fun i => atL st ro (ad.toNat + i * sp.toNat)) := by
  refine con_of_rn hc Try.func38 rfl (Nat.le_of_ble_eq_true rfl) ?_
  obtain ⟨A0, e0, hx0, hn0, b0, b1, b2⟩ := box3 hw (.int .i64 m) (.slice sa st.length sc) (.slice ra ro.length rc) 24
  have hx1 : Nx A0.next A0 (A0.push (.cells #[.int .i64 0, .slice none 0 0, .slice none 0 0] 24)) := (Nx.refl hx0.wf _).push (Nat.le_refl _) _
  have l1 := look_push_eq A0 (.cells #[.int .i64 0, .slice none 0 0, .slice none 0 0] 24)
  have hn1 : (A0.push (.cells #[.int .i64 0, .slice none 0 0, .slice none 0 0] 24)).next = A0.next + 1 := rfl
  generalize e1 : A0.push (.cells #[.int .i64 0, .slice none 0 0, .slice none 0 0] 24) = A1 at hx1 l1 hn1
  have hx01 : Nx A.next A A1 := hx0.trans (hx1.le hx0.next)
  have b0 := (hx1.cl (show A.next < A0.next by omega) 0).trans b0
  have b1 := (hx1.cl (show A.next < A0.next by omega) 1).trans b1
  have b2 := (hx1.cl (show A.next < A0.next by omega) 2).trans b2
  rw [s_in3]
  (repeat (first | refine Rn.seq hc ?_ | refine Rn.skip hc ?_ | refine Rn.block hc ?_ | refine Rn.inBlock hc ?_ | refine Rn.scope hc ?_ | refine Rn.inScope hc ?_))
  refine Rn.reg hc rfl ?_
  simp only [sev_tmp, sev_const, sg_eq, sg_ne, Nat.reduceLT, ne_eq, Nat.reduceEqDiff, not_false_eq_true, gd, want_free, rops, fx, Option.some.injEq, exists_eq_left', Value.cells, show Try.f38.ntmps = 85 from rfl, e0, ze24, e1]
  (repeat (first | refine Rn.seq hc ?_ | refine Rn.skip hc ?_ | refine Rn.block hc ?_ | refine Rn.inBlock hc ?_ | refine Rn.scope hc ?_ | refine Rn.inScope hc ?_))
  refine Rn.region hc fun K hK => ?_
  refine Wo.run hc 1 rfl rfl rfl ?_
  simp (maxSteps := 2000000) only [List.drop_zero, List.take_succ_cons, List.take_zero, sev_tmp, sg_eq, sg_ne, sp_n, Nat.reduceLT, ne_eq, Nat.reduceEqDiff, not_false_eq_true, gd, want_free, rops, fx, ld, adr_p, cls, Nat.zero_add, Option.some.injEq, exists_eq_left', Nat.reduceAdd, tk24, b0, b1, b2]
  refine Wo.call hc (by rfl) (by rfl) ⟨by rfl, by rfl⟩ (xs := [.agg #[.int .i64 m, .slice sa st.length sc, .slice ra ro.length rc]]) (by rfl) (by rfl) (by rfl) (Con.mono (check_ref hx1.wf ((hs.nx hx01 (Nat.le_refl _)).mono (Nat.le_refl _) hx01.next) ((hr.nx hx01 (Nat.le_refl _)).mono (Nat.le_refl _) hx01.next) ls lr) ?_)
  rintro w A4 ⟨rfl, hx4⟩
  refine Wo.run hc 1 rfl rfl rfl ?_
  simp (maxSteps := 2000000) only [List.drop_zero, List.drop_succ_cons, List.take_succ_cons, List.take_zero, sev_tmp, sg_eq, sp_n, Nat.reduceLT, gd, want_free, rops, fx, Option.some.injEq, exists_eq_left', Nat.reduceAdd]
  refine Wo.done hc rfl (hK _ _ ?_)
  clear hK
  (repeat (first | refine Rn.seq hc ?_ | refine Rn.skip hc ?_ | refine Rn.block hc ?_ | refine Rn.inBlock hc ?_ | refine Rn.scope hc ?_ | refine Rn.inScope hc ?_))
  have hx34 : Nx A1.next A1 A4 := hx4
  have hx04 : Nx A.next A A4 := hx01.trans (hx34.le hx01.next)
  have n4 : A0.next < A4.next := by have := hx4.next; omega
  have l4 : Canon.look A4.objs A0.next = _ := (hx34.keep _ (by omega)).trans l1
  have b0 := (hx34.cl (show A.next < A1.next by omega) 0).trans b0
  have b1 := (hx34.cl (show A.next < A1.next by omega) 1).trans b1
  have b2 := (hx34.cl (show A.next < A1.next by omega) 2).trans b2
  have hn0A := hx0.next
  clear e1 e0 hx4 hx1
  unfold erE
  by_cases he : errL m st ro = 0
  · have hd : (!decide (errL m st ro = 0)) = false := by rw [decide_eq_true he]; rfl
    obtain ⟨l60, l120⟩ := errL_len he
    have hro := errL_pos he
    rw [if_pos he]
    refine Rn.reg hc rfl ?_
    simp only [sev_tmp, sev_const, sg_eq, sp_n, Nat.reduceLT, gd, want_free, rops, fx, bin_neq, Option.some.injEq, exists_eq_left', hd]
    (repeat (first | refine Rn.seq hc ?_ | refine Rn.skip hc ?_ | refine Rn.block hc ?_ | refine Rn.inBlock hc ?_ | refine Rn.scope hc ?_ | refine Rn.inScope hc ?_))
    refine Rn.condE hc rfl ?_
    simp only [sev_tmp, sg_eq, sp_n, Nat.reduceLT, Value.bool.injEq, exists_eq_left']
    (repeat (first | refine Rn.seq hc ?_ | refine Rn.skip hc ?_ | refine Rn.block hc ?_ | refine Rn.inBlock hc ?_ | refine Rn.scope hc ?_ | refine Rn.inScope hc ?_))
    by_cases hbad : sp < 1 ∨ 120 < sp ∨ ad < 0 ∨ 1000000000 < ad
    · obtain ⟨D, q1, g0, g1, g2, hxD⟩ := err_fin hx04 hn0A n4 l4
      rw [if_pos hbad]
      rcases bad4 hbad with h1 | ⟨h1, h2⟩ | ⟨h1, h2, h3⟩ | ⟨h1, h2, h3, h4⟩
      · refine Rn.reg hc rfl ?_
        simp only [sev_tmp, sev_const, sg_eq, sg_ne, sp_n, Nat.reduceLT, ne_eq, Nat.reduceEqDiff, not_false_eq_true, gd, nth, want_free, want_slot, beqB, rops, fx, pck, bin_lss, Option.some.injEq, exists_eq_left', h1]
        (repeat (first | refine Rn.seq hc ?_ | refine Rn.skip hc ?_ | refine Rn.block hc ?_ | refine Rn.inBlock hc ?_ | refine Rn.scope hc ?_ | refine Rn.inScope hc ?_))
        refine Rn.condE hc rfl ?_
        simp only [sev_tmp, sg_eq, sp_n, Nat.reduceLT, Value.bool.injEq, exists_eq_left']
        (repeat (first | refine Rn.seq hc ?_ | refine Rn.skip hc ?_ | refine Rn.block hc ?_ | refine Rn.inBlock hc ?_ | refine Rn.scope hc ?_ | refine Rn.inScope hc ?_))
        refine Rn.reg hc rfl ?_
        simp only [sev_tmp, sev_const, sg_eq, sg_ne, sp_n, sp_none, Nat.reduceLT, ne_eq, Nat.reduceEqDiff, not_false_eq_true, gd, want_free, rops, fx, str, adr_p, Nat.zero_add, Option.some.injEq, exists_eq_left', Nat.reduceAdd, tk24, bd24_z, q1, List.size_toArray, List.length_cons, List.length_nil, Nat.beq_refl]
        (repeat (first | refine Rn.seq hc ?_ | refine Rn.skip hc ?_ | refine Rn.block hc ?_ | refine Rn.inBlock hc ?_ | refine Rn.scope hc ?_ | refine Rn.inScope hc ?_))
        refine Rn.ret (endQ_ct rfl (v := .agg #[.int .i64 0, .slice none 0 0, .slice none 0 0]) ?_ ?_)
        · simp only [sg_eq, sg_ne, sp_n, Nat.reduceLT, ne_eq, Nat.reduceEqDiff, not_false_eq_true, ld, adr_p, cls, Nat.zero_add, Nat.reduceAdd, tk24, g0, g1, g2]
        · simp only [sg_eq, sp_n, Nat.reduceLT]
          exact tldR_err (by omega) hxD
      · refine Rn.reg hc rfl ?_
        simp only [sev_tmp, sev_const, sg_eq, sg_ne, sp_n, Nat.reduceLT, ne_eq, Nat.reduceEqDiff, not_false_eq_true, gd, nth, want_free, want_slot, beqB, rops, fx, pck, bin_lss, bin_gtr, Option.some.injEq, exists_eq_left', h1, h2]
        (repeat (first | refine Rn.seq hc ?_ | refine Rn.skip hc ?_ | refine Rn.block hc ?_ | refine Rn.inBlock hc ?_ | refine Rn.scope hc ?_ | refine Rn.inScope hc ?_))
        refine Rn.condE hc rfl ?_
        simp only [sev_tmp, sg_eq, sp_n, Nat.reduceLT, Value.bool.injEq, exists_eq_left']
        (repeat (first | refine Rn.seq hc ?_ | refine Rn.skip hc ?_ | refine Rn.block hc ?_ | refine Rn.inBlock hc ?_ | refine Rn.scope hc ?_ | refine Rn.inScope hc ?_))
        refine Rn.reg hc rfl ?_
        simp only [sev_tmp, sev_const, sg_eq, sg_ne, sp_n, sp_none, Nat.reduceLT, ne_eq, Nat.reduceEqDiff, not_false_eq_true, gd, want_free, rops, fx, str, adr_p, Nat.zero_add, Option.some.injEq, exists_eq_left', Nat.reduceAdd, tk24, bd24_z, q1, List.size_toArray, List.length_cons, List.length_nil, Nat.beq_refl]
        (repeat (first | refine Rn.seq hc ?_ | refine Rn.skip hc ?_ | refine Rn.block hc ?_ | refine Rn.inBlock hc ?_ | refine Rn.scope hc ?_ | refine Rn.inScope hc ?_))
        refine Rn.ret (endQ_ct rfl (v := .agg #[.int .i64 0, .slice none 0 0, .slice none 0 0]) ?_ ?_)
        · simp only [sg_eq, sg_ne, sp_n, Nat.reduceLT, ne_eq, Nat.reduceEqDiff, not_false_eq_true, ld, adr_p, cls, Nat.zero_add, Nat.reduceAdd, tk24, g0, g1, g2]
        · simp only [sg_eq, sp_n, Nat.reduceLT]
          exact tldR_err (by omega) hxD
      · refine Rn.reg hc rfl ?_
        simp only [sev_tmp, sev_const, sg_eq, sg_ne, sp_n, Nat.reduceLT, ne_eq, Nat.reduceEqDiff, not_false_eq_true, gd, nth, want_free, want_slot, beqB, rops, fx, pck, bin_lss, bin_gtr, Option.some.injEq, exists_eq_left', h1, h2, h3]
        (repeat (first | refine Rn.seq hc ?_ | refine Rn.skip hc ?_ | refine Rn.block hc ?_ | refine Rn.inBlock hc ?_ | refine Rn.scope hc ?_ | refine Rn.inScope hc ?_))
        refine Rn.condE hc rfl ?_
        simp only [sev_tmp, sg_eq, sp_n, Nat.reduceLT, Value.bool.injEq, exists_eq_left']
        (repeat (first | refine Rn.seq hc ?_ | refine Rn.skip hc ?_ | refine Rn.block hc ?_ | refine Rn.inBlock hc ?_ | refine Rn.scope hc ?_ | refine Rn.inScope hc ?_))
        refine Rn.reg hc rfl ?_
        simp only [sev_tmp, sev_const, sg_eq, sg_ne, sp_n, sp_none, Nat.reduceLT, ne_eq, Nat.reduceEqDiff, not_false_eq_true, gd, want_free, rops, fx, str, adr_p, Nat.zero_add, Option.some.injEq, exists_eq_left', Nat.reduceAdd, tk24, bd24_z, q1, List.size_toArray, List.length_cons, List.length_nil, Nat.beq_refl]
        (repeat (first | refine Rn.seq hc ?_ | refine Rn.skip hc ?_ | refine Rn.block hc ?_ | refine Rn.inBlock hc ?_ | refine Rn.scope hc ?_ | refine Rn.inScope hc ?_))
        refine Rn.ret (endQ_ct rfl (v := .agg #[.int .i64 0, .slice none 0 0, .slice none 0 0]) ?_ ?_)
        · simp only [sg_eq, sg_ne, sp_n, Nat.reduceLT, ne_eq, Nat.reduceEqDiff, not_false_eq_true, ld, adr_p, cls, Nat.zero_add, Nat.reduceAdd, tk24, g0, g1, g2]
        · simp only [sg_eq, sp_n, Nat.reduceLT]
          exact tldR_err (by omega) hxD
      · refine Rn.reg hc rfl ?_
        simp only [sev_tmp, sev_const, sg_eq, sg_ne, sp_n, Nat.reduceLT, ne_eq, Nat.reduceEqDiff, not_false_eq_true, gd, nth, want_free, want_slot, beqB, rops, fx, pck, bin_lss, bin_gtr, Option.some.injEq, exists_eq_left', h1, h2, h3, h4]
        (repeat (first | refine Rn.seq hc ?_ | refine Rn.skip hc ?_ | refine Rn.block hc ?_ | refine Rn.inBlock hc ?_ | refine Rn.scope hc ?_ | refine Rn.inScope hc ?_))
        refine Rn.condE hc rfl ?_
        simp only [sev_tmp, sg_eq, sp_n, Nat.reduceLT, Value.bool.injEq, exists_eq_left']
        (repeat (first | refine Rn.seq hc ?_ | refine Rn.skip hc ?_ | refine Rn.block hc ?_ | refine Rn.inBlock hc ?_ | refine Rn.scope hc ?_ | refine Rn.inScope hc ?_))
        refine Rn.reg hc rfl ?_
        simp only [sev_tmp, sev_const, sg_eq, sg_ne, sp_n, sp_none, Nat.reduceLT, ne_eq, Nat.reduceEqDiff, not_false_eq_true, gd, want_free, rops, fx, str, adr_p, Nat.zero_add, Option.some.injEq, exists_eq_left', Nat.reduceAdd, tk24, bd24_z, q1, List.size_toArray, List.length_cons, List.length_nil, Nat.beq_refl]
        (repeat (first | refine Rn.seq hc ?_ | refine Rn.skip hc ?_ | refine Rn.block hc ?_ | refine Rn.inBlock hc ?_ | refine Rn.scope hc ?_ | refine Rn.inScope hc ?_))
        refine Rn.ret (endQ_ct rfl (v := .agg #[.int .i64 0, .slice none 0 0, .slice none 0 0]) ?_ ?_)
        · simp only [sg_eq, sg_ne, sp_n, Nat.reduceLT, ne_eq, Nat.reduceEqDiff, not_false_eq_true, ld, adr_p, cls, Nat.zero_add, Nat.reduceAdd, tk24, g0, g1, g2]
        · simp only [sg_eq, sp_n, Nat.reduceLT]
          exact tldR_err (by omega) hxD
    · have h1 : decide (sp < 1) = false := decide_eq_false (by omega)
      have h2 : decide (120 < sp) = false := decide_eq_false (by omega)
      have h3 : decide (ad < 0) = false := decide_eq_false (by omega)
      have h4 : decide (1000000000 < ad) = false := decide_eq_false (by omega)
      rw [if_neg hbad]
      obtain ⟨stp, rfl⟩ : ∃ k : Nat, sp = (k : Int) := ⟨sp.toNat, by omega⟩
      obtain ⟨adr, rfl⟩ : ∃ k : Nat, ad = (k : Int) := ⟨ad.toNat, by omega⟩
      rw [Int.toNat_natCast, Int.toNat_natCast]
      have hs1 : 1 ≤ stp := by omega
      have hs2 : stp ≤ 120 := by omega
      have ha2 : adr ≤ 1000000000 := by omega
      refine Rn.reg hc rfl ?_
      simp only [sev_tmp, sev_const, sg_eq, sg_ne, sp_n, Nat.reduceLT, ne_eq, Nat.reduceEqDiff, not_false_eq_true, gd, nth, want_free, want_slot, beqB, rops, fx, pck, bin_lss, bin_gtr, Option.some.injEq, exists_eq_left', h1, h2, h3, h4]
      (repeat (first | refine Rn.seq hc ?_ | refine Rn.skip hc ?_ | refine Rn.block hc ?_ | refine Rn.inBlock hc ?_ | refine Rn.scope hc ?_ | refine Rn.inScope hc ?_))
      refine Rn.condE hc rfl ?_
      simp only [sev_tmp, sg_eq, sp_n, Nat.reduceLT, Value.bool.injEq, exists_eq_left']
      (repeat (first | refine Rn.seq hc ?_ | refine Rn.skip hc ?_ | refine Rn.block hc ?_ | refine Rn.inBlock hc ?_ | refine Rn.scope hc ?_ | refine Rn.inScope hc ?_))
      clear h1 h2 h3 h4 hbad
      obtain ⟨E, hE⟩ : ∃ E : Nat → Int, E = fun i => atL st ro (adr + i * stp) := ⟨_, rfl⟩
      have hEv : ∀ i, E i = atL st ro (adr + i * stp) := fun i => by rw [hE]
      have hEp : Per E st.length ro.length := by
        rw [hE]
        exact every_per hro hs1 (by have := Nat.le_mul_of_pos_right st.length (show 0 < stp by omega); omega)
      rw [← hE]
      have hx5a : Nx A4.next A4 (A4.push (.cells #[.int .i64 0, .slice none 0 0, .slice none 0 0] 24)) := (Nx.refl hx04.wf _).push (Nat.le_refl _) _
      have l5a := look_push_eq A4 (.cells #[.int .i64 0, .slice none 0 0, .slice none 0 0] 24)
      have hn5a : (A4.push (.cells #[.int .i64 0, .slice none 0 0, .slice none 0 0] 24)).next = A4.next + 1 := rfl
      generalize e5 : A4.push (.cells #[.int .i64 0, .slice none 0 0, .slice none 0 0] 24) = A5a at hx5a l5a hn5a
      obtain ⟨A5, c5, q5, u5, u6, u7⟩ := sts_upd (l := [.int .i64 m, .slice none 0 0, .slice none 0 0]) (o := 0) l5a rfl (by simp) rfl
      have hc5 : c5 = #[.int .i64 m, .slice none 0 0, .slice none 0 0] := by
        refine Array.ext_getElem? fun i => ?_
        rw [u7 i]
        by_cases hi : i < 3
        · rw [if_pos ⟨Nat.zero_le _, by simpa using hi⟩]
          simp
        · rw [if_neg (by simp; omega)]
          rw [Array.getElem?_eq_none (by simp; omega), Array.getElem?_eq_none (by simp; omega)]
      subst hc5
      have hx5 : Nx A4.next A4 A5 := hx5a.trans (u5.nx hx5a.wf (Nat.le_refl _))
      have hn5 : A5.next = A4.next + 1 := by rw [u5.next, hn5a]
      have l5B : Canon.look A5.objs A4.next = some ⟨.cells #[.int .i64 m, .slice none 0 0, .slice none 0 0] 24, false, 0⟩ := by
        obtain ⟨c, t, f, g, e, r1, r2, _⟩ := u5.at'
        rw [l5a] at r1
        cases r1
        exact r2
      have hx05 : Nx A.next A A5 := hx04.trans (hx5.le hx04.next)
      have P0 := (hx5.cl (show A.next < A4.next by omega) 0).trans b0
      have P1 := (hx5.cl (show A.next < A4.next by omega) 1).trans b1
      have P2 := (hx5.cl (show A.next < A4.next by omega) 2).trans b2
      have lR : Canon.look A5.objs A0.next = _ := (hx5.keep _ n4).trans l4
      refine Rn.reg hc rfl ?_
      simp only [sev_tmp, sg_eq, sg_ne, sp_n, sp_none, Nat.reduceLT, ne_eq, Nat.reduceEqDiff, not_false_eq_true, gd, want_free, rops, fx, ld, str, fad, adr_p, Nat.zero_add, Nat.add_zero, Option.some.injEq, exists_eq_left', Value.cells, Nat.reduceAdd, tk3, tk24, fo24_0, b0, bd24_0, isCell, List.size_toArray, List.length_cons, List.length_nil, ze24, e5, q5, Nat.beq_refl]
      (repeat (first | refine Rn.seq hc ?_ | refine Rn.skip hc ?_ | refine Rn.block hc ?_ | refine Rn.inBlock hc ?_ | refine Rn.scope hc ?_ | refine Rn.inScope hc ?_))
      refine Rn.reg hc rfl ?_
      simp only [sev_const, gd, want_free, rops, fx, Option.some.injEq, exists_eq_left']
      (repeat (first | refine Rn.seq hc ?_ | refine Rn.skip hc ?_ | refine Rn.block hc ?_ | refine Rn.inBlock hc ?_ | refine Rn.scope hc ?_ | refine Rn.inScope hc ?_))
      refine Rn.loopI hc (I := fun k s B => ∃ i ya, i ≤ st.length ∧ k = st.length - i ∧ WF B ∧ A5.next ≤ B.next ∧ (∀ b, b < A5.next → b ≠ A4.next → Canon.look B.objs b = Canon.look A5.objs b) ∧ Canon.look B.objs A4.next = some ⟨.cells #[.int .i64 m, .slice ya i i, .slice none 0 0] 24, false, 0⟩ ∧ Gr B ya A5.next (redS E i) ∧ s.n = 85 ∧ sget s 1 = .int .i64 (stp : Int) ∧ sget s 2 = .int .i64 (adr : Int) ∧ sget s 3 = .pointer (some ⟨A.next, 0, none⟩) ∧ sget s 6 = .pointer (some ⟨A0.next, 0, none⟩) ∧ sget s 9 = .pointer (some ⟨A4.next, 0, none⟩) ∧ sget s 10 = .int .i64 (i : Int))
        (n := st.length) ⟨0, none, by omega, rfl, hx5.wf, Nat.le_refl _, fun _ _ _ => rfl, l5B, Gr.nil _ _, by simp only [sp_n], by simp only [sg_eq, sg_ne, sp_n, Nat.reduceLT, ne_eq, Nat.reduceEqDiff, not_false_eq_true], by simp only [sg_eq, sg_ne, sp_n, Nat.reduceLT, ne_eq, Nat.reduceEqDiff, not_false_eq_true], by simp only [sg_eq, sg_ne, sp_n, Nat.reduceLT, ne_eq, Nat.reduceEqDiff, not_false_eq_true], by simp only [sg_eq, sg_ne, sp_n, Nat.reduceLT, ne_eq, Nat.reduceEqDiff, not_false_eq_true, hn0], by simp only [sg_eq, sg_ne, sp_n, Nat.reduceLT, ne_eq, Nat.reduceEqDiff, not_false_eq_true], by simp only [sg_eq, sp_n, Nat.reduceLT]; rfl⟩ ?_
      rintro k s B ⟨i, ya, hi, rfl, hwB, hnB, hkeep, lB, gx, hn, s1, s2, s3, s6, s9, s10⟩ ih
      (repeat (first | refine Rn.seq hc ?_ | refine Rn.skip hc ?_ | refine Rn.block hc ?_ | refine Rn.inBlock hc ?_ | refine Rn.scope hc ?_ | refine Rn.inScope hc ?_))
      have c1' : cl B A.next 1 = some (.slice sa st.length sc) := (cl_look (hkeep _ (by omega) (by omega))).trans P1
      by_cases hlt : i < st.length
      · have hd : decide ((i : Int) < (st.length : Int)) = true := decide_eq_true (by omega)
        refine Rn.reg hc rfl ?_
        simp only [sev_tmp, sg_eq, sg_ne, sp_n, Nat.reduceLT, ne_eq, Nat.reduceEqDiff, not_false_eq_true, gd, want_free, rops, fx, ld, fad, lng, bin_lss, adr_p, Nat.zero_add, Option.some.injEq, exists_eq_left', tk22, fo24_1, un22, hn, s3, s10, c1', hd]
        (repeat (first | refine Rn.seq hc ?_ | refine Rn.skip hc ?_ | refine Rn.block hc ?_ | refine Rn.inBlock hc ?_ | refine Rn.scope hc ?_ | refine Rn.inScope hc ?_))
        refine Rn.condE hc rfl ?_
        simp only [sev_tmp, sg_eq, sp_n, Nat.reduceLT, Value.bool.injEq, exists_eq_left', hn]
        (repeat (first | refine Rn.seq hc ?_ | refine Rn.skip hc ?_ | refine Rn.block hc ?_ | refine Rn.inBlock hc ?_ | refine Rn.scope hc ?_ | refine Rn.inScope hc ?_))
        have hAB : Nx A.next A B := ⟨by omega, hwB, fun b hb => (hkeep b (by omega) (by omega)).trans (hx05.keep b hb)⟩
        have c0 : cl B A.next 0 = some (.int .i64 m) := (cl_look (hkeep _ (by omega) (by omega))).trans P0
        have c1 : cl B A.next 1 = some (.slice sa st.length sc) := (cl_look (hkeep _ (by omega) (by omega))).trans P1
        have c2 : cl B A.next 2 = some (.slice ra ro.length rc) := (cl_look (hkeep _ (by omega) (by omega))).trans P2
        have cF : cl B A4.next 1 = some (.slice ya (i) (i)) := by rw [cl_of lB rfl]; rfl
        obtain ⟨F, hF0, hF1, hF2, hF3, hF⟩ : ∃ F : AHeap → Prop, (∀ M, F M → cl M A.next 0 = some (.int .i64 m)) ∧ (∀ M, F M → cl M A.next 1 = some (.slice sa st.length sc)) ∧ (∀ M, F M → cl M A.next 2 = some (.slice ra ro.length rc)) ∧ (∀ M, F M → cl M A4.next 1 = some (.slice ya (i) (i))) ∧ (∀ M, Canon.look M.objs A.next = Canon.look B.objs A.next → Canon.look M.objs A4.next = Canon.look B.objs A4.next → F M) :=
          ⟨fun M => cl M A.next 0 = some (.int .i64 m) ∧ cl M A.next 1 = some (.slice sa st.length sc) ∧ cl M A.next 2 = some (.slice ra ro.length rc) ∧ cl M A4.next 1 = some (.slice ya (i) (i)), fun _ h => h.1, fun _ h => h.2.1, fun _ h => h.2.2.1, fun _ h => h.2.2.2, fun M q1 q2 => ⟨(cl_look q1).trans c0, (cl_look q1).trans c1, (cl_look q1).trans c2, (cl_look q2).trans cF⟩⟩
        have hbk : Nx B.next B (bump B 13) := Nx.bump (Nx.refl hwB _) 13
        have FB : F (bump B 13) := hF _ rfl rfl
        have hDb : Nx A.next A (bump B 13) := hAB.trans (hbk.le hAB.next)
        have hns : (i) * stp ≤ 180 * 120 := Nat.mul_le_mul (by omega) hs2
        have hw1 : IntKind.i64.wrap (((i : Nat) : Int) * (stp : Int)) = (((i) * stp : Nat) : Int) := by
          rw [← Int.natCast_mul, IntWalk.i64_in _ (by omega)]
        have hw2 : IntKind.i64.wrap ((adr : Int) + (((i) * stp : Nat) : Int)) = ((adr + (i) * stp : Nat) : Int) := by rw [IntWalk.i64_in _ (by omega)]; omega
        have hval : atL st ro (adr + (i) * stp) = E (i) := (hEv _).symm
        refine Rn.drawnL hc hx (hdS (E (i))) F (E := [8, 9, 10]) (n := 12) (k := 13) (by kernel_rfl) (by kernel_rfl) (by rfl) (by kernel_rfl) ?_
        refine DrL.read (by first | rfl | kernel_rfl) (by rfl) (by assumption) (fun M hM => by simp only [sev_tmp, sg_ne, ne_eq, Nat.reduceEqDiff, not_false_eq_true, fx, fad, adr_p, Nat.zero_add, fo24_1, s9] <;> rfl) (by rfl) (by first | exact VQ.int _ _ | exact VQ.bool _ | exact VQ.ptr _ _ | exact VQ.slice _ _ _ | exact VQ.func (by simp [vq_int, vq_ptr, vq_slice]) (by simp [vq_int, vq_ptr, vq_slice]) | exact VQ.agg (by simp [vq_int, vq_ptr, vq_slice]) | exact VQ.tuple (by simp [vq_int, vq_ptr, vq_slice])) ?_
        refine DrL.read (by first | rfl | kernel_rfl) (by rfl) (by assumption) (fun M hM => by simp only [sev_tmp, sg_eq, sp_n, Nat.reduceLT, fx, ld, adr_p, tk22, hn, hF3 M hM] <;> rfl) (by rfl) (by first | exact VQ.int _ _ | exact VQ.bool _ | exact VQ.ptr _ _ | exact VQ.slice _ _ _ | exact VQ.func (by simp [vq_int, vq_ptr, vq_slice]) (by simp [vq_int, vq_ptr, vq_slice]) | exact VQ.agg (by simp [vq_int, vq_ptr, vq_slice]) | exact VQ.tuple (by simp [vq_int, vq_ptr, vq_slice])) ?_
        refine DrL.read (by first | rfl | kernel_rfl) (by rfl) (by assumption) (fun M hM => by simp only [sev_tmp, sg_ne, ne_eq, Nat.reduceEqDiff, not_false_eq_true, fx, ld, adr_p, cls, Nat.zero_add, Nat.reduceAdd, tk24, s3, hF0 M hM, hF1 M hM, hF2 M hM] <;> rfl) (by rfl) (by first | exact VQ.int _ _ | exact VQ.bool _ | exact VQ.ptr _ _ | exact VQ.slice _ _ _ | exact VQ.func (by simp [vq_int, vq_ptr, vq_slice]) (by simp [vq_int, vq_ptr, vq_slice]) | exact VQ.agg (by simp [vq_int, vq_slice]) | exact VQ.tuple (by simp [vq_int, vq_ptr, vq_slice])) ?_
        refine DrL.read (by first | rfl | kernel_rfl) (by rfl) (by assumption) (fun M hM => by simp only [sev_tmp, sg_ne, ne_eq, Nat.reduceEqDiff, not_false_eq_true, fx, s2] <;> rfl) (by rfl) (by first | exact VQ.int _ _ | exact VQ.bool _ | exact VQ.ptr _ _ | exact VQ.slice _ _ _ | exact VQ.func (by simp [vq_int, vq_ptr, vq_slice]) (by simp [vq_int, vq_ptr, vq_slice]) | exact VQ.agg (by simp [vq_int, vq_ptr, vq_slice]) | exact VQ.tuple (by simp [vq_int, vq_ptr, vq_slice])) ?_
        refine DrL.read (by first | rfl | kernel_rfl) (by rfl) (by assumption) (fun M hM => by simp only [sev_tmp, sg_ne, ne_eq, Nat.reduceEqDiff, not_false_eq_true, fx, s10] <;> rfl) (by rfl) (by first | exact VQ.int _ _ | exact VQ.bool _ | exact VQ.ptr _ _ | exact VQ.slice _ _ _ | exact VQ.func (by simp [vq_int, vq_ptr, vq_slice]) (by simp [vq_int, vq_ptr, vq_slice]) | exact VQ.agg (by simp [vq_int, vq_ptr, vq_slice]) | exact VQ.tuple (by simp [vq_int, vq_ptr, vq_slice])) ?_
        refine DrL.read (by first | rfl | kernel_rfl) (by rfl) (by assumption) (fun M hM => by simp only [sev_tmp, sg_ne, ne_eq, Nat.reduceEqDiff, not_false_eq_true, fx, s1] <;> rfl) (by rfl) (by first | exact VQ.int _ _ | exact VQ.bool _ | exact VQ.ptr _ _ | exact VQ.slice _ _ _ | exact VQ.func (by simp [vq_int, vq_ptr, vq_slice]) (by simp [vq_int, vq_ptr, vq_slice]) | exact VQ.agg (by simp [vq_int, vq_ptr, vq_slice]) | exact VQ.tuple (by simp [vq_int, vq_ptr, vq_slice])) ?_
        refine DrL.read (by first | rfl | kernel_rfl) (by rfl) (by assumption) (fun M hM => by simp only [sev_tmp, sg_eq, sg_ne, sp_n, Nat.reduceLT, ne_eq, Nat.reduceEqDiff, not_false_eq_true, fx, bin_mul, hn, hw1] <;> rfl) (by rfl) (by first | exact VQ.int _ _ | exact VQ.bool _ | exact VQ.ptr _ _ | exact VQ.slice _ _ _ | exact VQ.func (by simp [vq_int, vq_ptr, vq_slice]) (by simp [vq_int, vq_ptr, vq_slice]) | exact VQ.agg (by simp [vq_int, vq_ptr, vq_slice]) | exact VQ.tuple (by simp [vq_int, vq_ptr, vq_slice])) ?_
        refine DrL.read (by first | rfl | kernel_rfl) (by rfl) (by assumption) (fun M hM => by simp only [sev_tmp, sg_eq, sg_ne, sp_n, Nat.reduceLT, ne_eq, Nat.reduceEqDiff, not_false_eq_true, fx, bin_add, hn, hw2] <;> rfl) (by rfl) (by first | exact VQ.int _ _ | exact VQ.bool _ | exact VQ.ptr _ _ | exact VQ.slice _ _ _ | exact VQ.func (by simp [vq_int, vq_ptr, vq_slice]) (by simp [vq_int, vq_ptr, vq_slice]) | exact VQ.agg (by simp [vq_int, vq_ptr, vq_slice]) | exact VQ.tuple (by simp [vq_int, vq_ptr, vq_slice])) ?_
        refine DrL.call (by kernel_rfl) (by rfl) (by assumption) (by rfl) (opRun_call (by rfl) ⟨by rfl, by rfl⟩ (by rfl) (xs := [.agg #[.int .i64 m, .slice sa st.length sc, .slice ra ro.length rc], .int .i64 ((adr + (i) * stp : Nat) : Int)]) (by simp only [sev_tmp, sg_eq, sg_ne, sp_n, Nat.reduceLT, ne_eq, Nat.reduceEqDiff, not_false_eq_true, List.map_cons, List.map_nil, List.nil_append, List.append_nil, hn]) (Con.mono (at_ref hbk.wf ((hs.nx hDb (Nat.le_refl _)).mono (Nat.le_refl _) hDb.next) ((hr.nx hDb (Nat.le_refl _)).mono (Nat.le_refl _) hDb.next) (adr + (i) * stp) ls hro lr (by omega)) fun v A1 h => ⟨by rw [h.1, hval], h.2⟩)) ?_
        rintro v B1 ⟨rfl, k1⟩
        have hn1 := k1.next
        rw [bump_next] at hn1 k1
        have F1 : F B1 := hF _ ((k1.keep _ (by omega)).trans rfl) ((k1.keep _ (by omega)).trans rfl)
        refine DrL.float (by rfl) (by rfl) (by rfl) (fb22_1 (v := .int .i64 (E (i))) (by simp only [sev_tmp, sg_eq, sp_n, Nat.reduceLT, hn]) rfl) ?_
        have hnb : Canon.look B1.objs (B.next + 9) = none := by rw [k1.keep _ (by omega)]; exact hwB.none (by omega)
        obtain ⟨B2, p1, hxB2, eB2, lB2, kB2⟩ := place_row (N := 0) (Nx.refl k1.wf 0) (b := B.next + 9) (Nat.zero_le _) (by omega) hnb [.int .i64 (E (i))] 3 1 1
        have F2 : F B2 := hF _ ((kB2 _ (by omega)).trans ((k1.keep _ (by omega)).trans rfl)) ((kB2 _ (by omega)).trans ((k1.keep _ (by omega)).trans rfl))
        have hlen : (redS E i).length = i := redS_len E i
        have gB1 : Gr B1 ya A5.next (redS E i) := (gx.nx (n := 0) hwB hbk).nx (n := 0) hbk.wf (by rw [bump_next]; exact k1)
        have gB2 : Gr B2 ya A5.next (redS E i) := gB1.ext (Nat.le_of_eq eB2.symm) fun b' hb' => by
          by_cases hbb : b' = B.next + 9
          · exact .inl (hbb ▸ hnb)
          · exact .inr (kB2 _ hbb)
        obtain ⟨B3, q1, n3, w3, hg3, kp3, _⟩ := gr_push hxB2.wf gB2 (a2 := some ⟨B.next + 9, 0, none⟩) (c2 := 1) (b2 := B.next + 9) (x := E (i)) rfl (by rw [cl_of lB2 rfl]; rfl) (by omega)
        rw [hlen] at q1
        rw [redS_snoc] at hg3
        have L3 : ∀ b', b' < A5.next → Canon.look B3.objs b' = Canon.look B.objs b' := fun b' hb' => by
          rw [kp3 b' (by omega) (fun y hy => by obtain ⟨_, q, _⟩ := gB2.sl y hy; omega), kB2 _ (by omega), k1.keep _ (by omega)]
          rfl
        have F3 : F B3 := hF _ (L3 _ (by omega)) (L3 _ (by omega))
        refine DrL.eff (by rfl) (by rfl) (pd1 := [(9, ⟨[.int .i64 (E (i))], 3, .sl 1 1⟩)]) (pd2 := []) (by kernel_rfl) (by kernel_rfl) (ms0 := [B1]) (A0 := B2) (by simp only [placeAll, p1]) (fun M hM => by rw [List.mem_singleton] at hM; rw [hM]; exact F1) F2 (by rfl)
          (v := .slice (some ⟨B2.next, 0, none⟩) (i + 1) (i + 1)) (A1 := B3) (opRun_op rfl (by simp only [sev_tmp, sg_eq, sg_ne, sp_n, Nat.reduceLT, ne_eq, Nat.reduceEqDiff, not_false_eq_true, Nat.zero_add, Nat.reduceAdd, hn, ae_apd, apd_slice, FK.val]; exact q1)) ?_
        refine DrL.read (by first | rfl | kernel_rfl) (by rfl) (by assumption) (fun M hM => by simp only [sev_tmp, sg_ne, ne_eq, Nat.reduceEqDiff, not_false_eq_true, fx, fad, adr_p, Nat.zero_add, Nat.reduceAdd, fo24_1, s9] <;> rfl) (by rfl) (by first | exact VQ.int _ _ | exact VQ.bool _ | exact VQ.ptr _ _ | exact VQ.slice _ _ _ | exact VQ.func (by simp [vq_int, vq_ptr, vq_slice]) (by simp [vq_int, vq_ptr, vq_slice]) | exact VQ.agg (by simp [vq_int, vq_ptr, vq_slice]) | exact VQ.tuple (by simp [vq_int, vq_ptr, vq_slice])) ?_
        have l3 : Canon.look B3.objs A4.next = _ := (L3 _ (by omega)).trans lB
        obtain ⟨B4, v1, v2⟩ := st1_upd (o := 1) (v := .slice (some ⟨B2.next, 0, none⟩) (i + 1) (i + 1)) l3 rfl (by simp) rfl
        refine DrL.eff (by rfl) (by rfl) (pd1 := []) (pd2 := []) (by kernel_rfl) (by kernel_rfl) (ms0 := []) (A0 := B3) rfl (fun _ h => by cases h) F3 (by rfl) (v := undef) (A1 := B4) (opRun_op rfl (fx_ok (by rfl) (by simp only [sev_tmp, sg_eq, sg_ne, sp_n, Nat.reduceLT, ne_eq, Nat.reduceEqDiff, not_false_eq_true, fx, str, adr_p, Nat.zero_add, Nat.reduceAdd, tk22, hn, v1]))) ?_
        refine DrL.nil ⟨by rfl, B4, by rfl, ?_⟩
        (repeat (first | refine Rn.seq hc ?_ | refine Rn.skip hc ?_ | refine Rn.block hc ?_ | refine Rn.inBlock hc ?_ | refine Rn.scope hc ?_ | refine Rn.inScope hc ?_))
        refine Rn.reg hc rfl ?_
        simp only [sev_tmp, sev_const, sg_eq, sg_ne, sp_n, sp_none, Nat.reduceLT, ne_eq, Nat.reduceEqDiff, not_false_eq_true, gd, want_free, rops, fx, bin_add, Nat.zero_add, Option.some.injEq, exists_eq_left', Nat.reduceAdd, hn, s10, wrap_succ (show i < 9223372036854775807 by omega)]
        (repeat (first | refine Rn.seq hc ?_ | refine Rn.skip hc ?_ | refine Rn.block hc ?_ | refine Rn.inBlock hc ?_ | refine Rn.scope hc ?_ | refine Rn.inScope hc ?_))
        obtain ⟨c, t, f, g, e, r1, r2, _⟩ := v2.at'
        rw [l3] at r1
        cases r1
        have hn4 := v2.next
        exact ih _ _ _ (by omega) ⟨i + 1, some ⟨B2.next, 0, none⟩, by omega, rfl, (v2.nx w3 (Nat.zero_le _)).wf, by omega, fun b hb hne => by rw [v2.off _ hne, L3 _ hb]; exact hkeep b hb hne, r2, (hg3.off v2 (by omega)).mono (by omega), by simp only [sp_n, hn], by simp only [sg_ne, ne_eq, Nat.reduceEqDiff, not_false_eq_true, s1], by simp only [sg_ne, ne_eq, Nat.reduceEqDiff, not_false_eq_true, s2], by simp only [sg_ne, ne_eq, Nat.reduceEqDiff, not_false_eq_true, s3], by simp only [sg_ne, ne_eq, Nat.reduceEqDiff, not_false_eq_true, s6], by simp only [sg_ne, ne_eq, Nat.reduceEqDiff, not_false_eq_true, s9], by simp only [sg_eq, sp_n, Nat.reduceLT, hn]⟩
      · have hd : decide ((i : Int) < (st.length : Int)) = false := decide_eq_false (by omega)
        have his : i = st.length := by omega
        clear ih
        refine Rn.reg hc rfl ?_
        simp only [sev_tmp, sg_eq, sg_ne, sp_n, Nat.reduceLT, ne_eq, Nat.reduceEqDiff, not_false_eq_true, gd, want_free, rops, fx, ld, fad, lng, bin_lss, adr_p, Nat.zero_add, Option.some.injEq, exists_eq_left', tk22, fo24_1, un22, hn, s3, s10, c1', hd]
        (repeat (first | refine Rn.seq hc ?_ | refine Rn.skip hc ?_ | refine Rn.block hc ?_ | refine Rn.inBlock hc ?_ | refine Rn.scope hc ?_ | refine Rn.inScope hc ?_))
        refine Rn.condE hc rfl ?_
        simp only [sev_tmp, sg_eq, sp_n, Nat.reduceLT, Value.bool.injEq, exists_eq_left', hn]
        (repeat (first | refine Rn.seq hc ?_ | refine Rn.skip hc ?_ | refine Rn.block hc ?_ | refine Rn.inBlock hc ?_ | refine Rn.scope hc ?_ | refine Rn.inScope hc ?_))
        refine Rn.exit hc rfl ?_
        (repeat (first | refine Rn.seq hc ?_ | refine Rn.skip hc ?_ | refine Rn.block hc ?_ | refine Rn.inBlock hc ?_ | refine Rn.scope hc ?_ | refine Rn.inScope hc ?_))
        subst his
        refine Rn.reg hc rfl ?_
        simp only [sev_tmp, sg_eq, sg_ne, sp_n, Nat.reduceLT, ne_eq, Nat.reduceEqDiff, not_false_eq_true, gd, want_free, rops, fx, ld, fad, lng, adr_p, Nat.zero_add, Option.some.injEq, exists_eq_left', tk22, fo24_1, un22, hn, s3, c1']
        (repeat (first | refine Rn.seq hc ?_ | refine Rn.skip hc ?_ | refine Rn.block hc ?_ | refine Rn.inBlock hc ?_ | refine Rn.scope hc ?_ | refine Rn.inScope hc ?_))
        have hAB0 : Nx A.next A B := ⟨by omega, hwB, fun b hb => (hkeep b (by omega) (by omega)).trans (hx05.keep b hb)⟩
        have lR : Canon.look B.objs A0.next = _ := (hkeep _ (by omega) (by omega)).trans lR
        have P0 := (cl_look (o := 0) (hkeep A.next (by omega) (by omega))).trans P0
        have P1 := (cl_look (o := 1) (hkeep A.next (by omega) (by omega))).trans P1
        have P2 := (cl_look (o := 2) (hkeep A.next (by omega) (by omega))).trans P2
        have hw0 : IntKind.i64.wrap ((st.length : Int) + (ro.length : Int)) = ((st.length + ro.length : Nat) : Int) := by rw [IntWalk.i64_in _ (by omega)]; omega
        refine Rn.loopI hc (I := fun k s C => ∃ j yb, j ≤ ro.length ∧ k = ro.length - j ∧ WF C ∧ B.next ≤ C.next ∧ (∀ b, b < B.next → b ≠ A4.next → Canon.look C.objs b = Canon.look B.objs b) ∧ Canon.look C.objs A4.next = some ⟨.cells #[.int .i64 m, .slice ya st.length st.length, .slice yb j j] 24, false, 0⟩ ∧ Gr C yb B.next (redR E st.length j) ∧ s.n = 85 ∧ sget s 1 = .int .i64 (stp : Int) ∧ sget s 2 = .int .i64 (adr : Int) ∧ sget s 3 = .pointer (some ⟨A.next, 0, none⟩) ∧ sget s 6 = .pointer (some ⟨A0.next, 0, none⟩) ∧ sget s 9 = .pointer (some ⟨A4.next, 0, none⟩) ∧ sget s 11 = .int .i64 ((st.length + j : Nat) : Int))
          (n := ro.length) ⟨0, none, by omega, rfl, hwB, Nat.le_refl _, fun _ _ _ => rfl, lB, Gr.nil _ _, by simp only [sp_n, hn], by simp only [sg_ne, ne_eq, Nat.reduceEqDiff, not_false_eq_true, s1], by simp only [sg_ne, ne_eq, Nat.reduceEqDiff, not_false_eq_true, s2], by simp only [sg_ne, ne_eq, Nat.reduceEqDiff, not_false_eq_true, s3], by simp only [sg_ne, ne_eq, Nat.reduceEqDiff, not_false_eq_true, s6], by simp only [sg_ne, ne_eq, Nat.reduceEqDiff, not_false_eq_true, s9], by simp only [sg_eq, sp_n, Nat.reduceLT, hn, Nat.add_zero]⟩ ?_
        clear hn s1 s2 s3 s6 s9 s10 s hd c1' lB hkeep
        have gx0 := gx
        have hwB0 := hwB
        have hnB0 := hnB
        generalize B = B0 at gx0 hwB0 hnB0 hAB0 lR P0 P1 P2 ⊢
        clear gx hwB hnB B
        rintro k s B ⟨j, yb, hj, rfl, hwB, hnB, hkeep, lB, gx, hn, s1, s2, s3, s6, s9, s11⟩ ih
        (repeat (first | refine Rn.seq hc ?_ | refine Rn.skip hc ?_ | refine Rn.block hc ?_ | refine Rn.inBlock hc ?_ | refine Rn.scope hc ?_ | refine Rn.inScope hc ?_))
        have c1' : cl B A.next 1 = some (.slice sa st.length sc) := (cl_look (hkeep _ (by omega) (by omega))).trans P1
        have c2' : cl B A.next 2 = some (.slice ra ro.length rc) := (cl_look (hkeep _ (by omega) (by omega))).trans P2
        by_cases hlt : j < ro.length
        · have hd : decide (((st.length + j : Nat) : Int) < ((st.length + ro.length : Nat) : Int)) = true := decide_eq_true (by omega)
          refine Rn.reg hc rfl ?_
          simp only [sev_tmp, sg_eq, sg_ne, sp_n, Nat.reduceLT, ne_eq, Nat.reduceEqDiff, not_false_eq_true, gd, want_free, rops, fx, ld, fad, lng, bin_lss, bin_add, adr_p, Nat.zero_add, Option.some.injEq, exists_eq_left', tk22, fo24_1, fo24_2, un22, hn, s3, s11, c1', c2', hw0, hd]
          (repeat (first | refine Rn.seq hc ?_ | refine Rn.skip hc ?_ | refine Rn.block hc ?_ | refine Rn.inBlock hc ?_ | refine Rn.scope hc ?_ | refine Rn.inScope hc ?_))
          refine Rn.condE hc rfl ?_
          simp only [sev_tmp, sg_eq, sp_n, Nat.reduceLT, Value.bool.injEq, exists_eq_left', hn]
          (repeat (first | refine Rn.seq hc ?_ | refine Rn.skip hc ?_ | refine Rn.block hc ?_ | refine Rn.inBlock hc ?_ | refine Rn.scope hc ?_ | refine Rn.inScope hc ?_))
          have hAB : Nx A.next A B := ⟨by omega, hwB, fun b hb => (hkeep b (by omega) (by omega)).trans (hAB0.keep b hb)⟩
          have c0 : cl B A.next 0 = some (.int .i64 m) := (cl_look (hkeep _ (by omega) (by omega))).trans P0
          have c1 : cl B A.next 1 = some (.slice sa st.length sc) := (cl_look (hkeep _ (by omega) (by omega))).trans P1
          have c2 : cl B A.next 2 = some (.slice ra ro.length rc) := (cl_look (hkeep _ (by omega) (by omega))).trans P2
          have cF : cl B A4.next 2 = some (.slice yb (j) (j)) := by rw [cl_of lB rfl]; rfl
          obtain ⟨F, hF0, hF1, hF2, hF3, hF⟩ : ∃ F : AHeap → Prop, (∀ M, F M → cl M A.next 0 = some (.int .i64 m)) ∧ (∀ M, F M → cl M A.next 1 = some (.slice sa st.length sc)) ∧ (∀ M, F M → cl M A.next 2 = some (.slice ra ro.length rc)) ∧ (∀ M, F M → cl M A4.next 2 = some (.slice yb (j) (j))) ∧ (∀ M, Canon.look M.objs A.next = Canon.look B.objs A.next → Canon.look M.objs A4.next = Canon.look B.objs A4.next → F M) :=
            ⟨fun M => cl M A.next 0 = some (.int .i64 m) ∧ cl M A.next 1 = some (.slice sa st.length sc) ∧ cl M A.next 2 = some (.slice ra ro.length rc) ∧ cl M A4.next 2 = some (.slice yb (j) (j)), fun _ h => h.1, fun _ h => h.2.1, fun _ h => h.2.2.1, fun _ h => h.2.2.2, fun M q1 q2 => ⟨(cl_look q1).trans c0, (cl_look q1).trans c1, (cl_look q1).trans c2, (cl_look q2).trans cF⟩⟩
          have hbk : Nx B.next B (bump B 13) := Nx.bump (Nx.refl hwB _) 13
          have FB : F (bump B 13) := hF _ rfl rfl
          have hDb : Nx A.next A (bump B 13) := hAB.trans (hbk.le hAB.next)
          have hns : (st.length + j) * stp ≤ 180 * 120 := Nat.mul_le_mul (by omega) hs2
          have hw1 : IntKind.i64.wrap (((st.length + j : Nat) : Int) * (stp : Int)) = (((st.length + j) * stp : Nat) : Int) := by
            rw [← Int.natCast_mul, IntWalk.i64_in _ (by omega)]
          have hw2 : IntKind.i64.wrap ((adr : Int) + (((st.length + j) * stp : Nat) : Int)) = ((adr + (st.length + j) * stp : Nat) : Int) := by rw [IntWalk.i64_in _ (by omega)]; omega
          have hval : atL st ro (adr + (st.length + j) * stp) = E (st.length + j) := (hEv _).symm
          refine Rn.drawnL hc hx (hdS (E (st.length + j))) F (E := [8, 9, 10]) (n := 12) (k := 13) (by kernel_rfl) (by kernel_rfl) (by rfl) (by kernel_rfl) ?_
          refine DrL.read (by first | rfl | kernel_rfl) (by rfl) (by assumption) (fun M hM => by simp only [sev_tmp, sg_ne, ne_eq, Nat.reduceEqDiff, not_false_eq_true, fx, fad, adr_p, Nat.zero_add, fo24_2, s9] <;> rfl) (by rfl) (by first | exact VQ.int _ _ | exact VQ.bool _ | exact VQ.ptr _ _ | exact VQ.slice _ _ _ | exact VQ.func (by simp [vq_int, vq_ptr, vq_slice]) (by simp [vq_int, vq_ptr, vq_slice]) | exact VQ.agg (by simp [vq_int, vq_ptr, vq_slice]) | exact VQ.tuple (by simp [vq_int, vq_ptr, vq_slice])) ?_
          refine DrL.read (by first | rfl | kernel_rfl) (by rfl) (by assumption) (fun M hM => by simp only [sev_tmp, sg_eq, sp_n, Nat.reduceLT, fx, ld, adr_p, tk22, hn, hF3 M hM] <;> rfl) (by rfl) (by first | exact VQ.int _ _ | exact VQ.bool _ | exact VQ.ptr _ _ | exact VQ.slice _ _ _ | exact VQ.func (by simp [vq_int, vq_ptr, vq_slice]) (by simp [vq_int, vq_ptr, vq_slice]) | exact VQ.agg (by simp [vq_int, vq_ptr, vq_slice]) | exact VQ.tuple (by simp [vq_int, vq_ptr, vq_slice])) ?_
          refine DrL.read (by first | rfl | kernel_rfl) (by rfl) (by assumption) (fun M hM => by simp only [sev_tmp, sg_ne, ne_eq, Nat.reduceEqDiff, not_false_eq_true, fx, ld, adr_p, cls, Nat.zero_add, Nat.reduceAdd, tk24, s3, hF0 M hM, hF1 M hM, hF2 M hM] <;> rfl) (by rfl) (by first | exact VQ.int _ _ | exact VQ.bool _ | exact VQ.ptr _ _ | exact VQ.slice _ _ _ | exact VQ.func (by simp [vq_int, vq_ptr, vq_slice]) (by simp [vq_int, vq_ptr, vq_slice]) | exact VQ.agg (by simp [vq_int, vq_slice]) | exact VQ.tuple (by simp [vq_int, vq_ptr, vq_slice])) ?_
          refine DrL.read (by first | rfl | kernel_rfl) (by rfl) (by assumption) (fun M hM => by simp only [sev_tmp, sg_ne, ne_eq, Nat.reduceEqDiff, not_false_eq_true, fx, s2] <;> rfl) (by rfl) (by first | exact VQ.int _ _ | exact VQ.bool _ | exact VQ.ptr _ _ | exact VQ.slice _ _ _ | exact VQ.func (by simp [vq_int, vq_ptr, vq_slice]) (by simp [vq_int, vq_ptr, vq_slice]) | exact VQ.agg (by simp [vq_int, vq_ptr, vq_slice]) | exact VQ.tuple (by simp [vq_int, vq_ptr, vq_slice])) ?_
          refine DrL.read (by first | rfl | kernel_rfl) (by rfl) (by assumption) (fun M hM => by simp only [sev_tmp, sg_ne, ne_eq, Nat.reduceEqDiff, not_false_eq_true, fx, s11] <;> rfl) (by rfl) (by first | exact VQ.int _ _ | exact VQ.bool _ | exact VQ.ptr _ _ | exact VQ.slice _ _ _ | exact VQ.func (by simp [vq_int, vq_ptr, vq_slice]) (by simp [vq_int, vq_ptr, vq_slice]) | exact VQ.agg (by simp [vq_int, vq_ptr, vq_slice]) | exact VQ.tuple (by simp [vq_int, vq_ptr, vq_slice])) ?_
          refine DrL.read (by first | rfl | kernel_rfl) (by rfl) (by assumption) (fun M hM => by simp only [sev_tmp, sg_ne, ne_eq, Nat.reduceEqDiff, not_false_eq_true, fx, s1] <;> rfl) (by rfl) (by first | exact VQ.int _ _ | exact VQ.bool _ | exact VQ.ptr _ _ | exact VQ.slice _ _ _ | exact VQ.func (by simp [vq_int, vq_ptr, vq_slice]) (by simp [vq_int, vq_ptr, vq_slice]) | exact VQ.agg (by simp [vq_int, vq_ptr, vq_slice]) | exact VQ.tuple (by simp [vq_int, vq_ptr, vq_slice])) ?_
          refine DrL.read (by first | rfl | kernel_rfl) (by rfl) (by assumption) (fun M hM => by simp only [sev_tmp, sg_eq, sg_ne, sp_n, Nat.reduceLT, ne_eq, Nat.reduceEqDiff, not_false_eq_true, fx, bin_mul, hn, hw1] <;> rfl) (by rfl) (by first | exact VQ.int _ _ | exact VQ.bool _ | exact VQ.ptr _ _ | exact VQ.slice _ _ _ | exact VQ.func (by simp [vq_int, vq_ptr, vq_slice]) (by simp [vq_int, vq_ptr, vq_slice]) | exact VQ.agg (by simp [vq_int, vq_ptr, vq_slice]) | exact VQ.tuple (by simp [vq_int, vq_ptr, vq_slice])) ?_
          refine DrL.read (by first | rfl | kernel_rfl) (by rfl) (by assumption) (fun M hM => by simp only [sev_tmp, sg_eq, sg_ne, sp_n, Nat.reduceLT, ne_eq, Nat.reduceEqDiff, not_false_eq_true, fx, bin_add, hn, hw2] <;> rfl) (by rfl) (by first | exact VQ.int _ _ | exact VQ.bool _ | exact VQ.ptr _ _ | exact VQ.slice _ _ _ | exact VQ.func (by simp [vq_int, vq_ptr, vq_slice]) (by simp [vq_int, vq_ptr, vq_slice]) | exact VQ.agg (by simp [vq_int, vq_ptr, vq_slice]) | exact VQ.tuple (by simp [vq_int, vq_ptr, vq_slice])) ?_
          refine DrL.call (by kernel_rfl) (by rfl) (by assumption) (by rfl) (opRun_call (by rfl) ⟨by rfl, by rfl⟩ (by rfl) (xs := [.agg #[.int .i64 m, .slice sa st.length sc, .slice ra ro.length rc], .int .i64 ((adr + (st.length + j) * stp : Nat) : Int)]) (by simp only [sev_tmp, sg_eq, sg_ne, sp_n, Nat.reduceLT, ne_eq, Nat.reduceEqDiff, not_false_eq_true, List.map_cons, List.map_nil, List.nil_append, List.append_nil, hn]) (Con.mono (at_ref hbk.wf ((hs.nx hDb (Nat.le_refl _)).mono (Nat.le_refl _) hDb.next) ((hr.nx hDb (Nat.le_refl _)).mono (Nat.le_refl _) hDb.next) (adr + (st.length + j) * stp) ls hro lr (by omega)) fun v A1 h => ⟨by rw [h.1, hval], h.2⟩)) ?_
          rintro v B1 ⟨rfl, k1⟩
          have hn1 := k1.next
          rw [bump_next] at hn1 k1
          have F1 : F B1 := hF _ ((k1.keep _ (by omega)).trans rfl) ((k1.keep _ (by omega)).trans rfl)
          refine DrL.float (by rfl) (by rfl) (by rfl) (fb22_1 (v := .int .i64 (E (st.length + j))) (by simp only [sev_tmp, sg_eq, sp_n, Nat.reduceLT, hn]) rfl) ?_
          have hnb : Canon.look B1.objs (B.next + 9) = none := by rw [k1.keep _ (by omega)]; exact hwB.none (by omega)
          obtain ⟨B2, p1, hxB2, eB2, lB2, kB2⟩ := place_row (N := 0) (Nx.refl k1.wf 0) (b := B.next + 9) (Nat.zero_le _) (by omega) hnb [.int .i64 (E (st.length + j))] 3 1 1
          have F2 : F B2 := hF _ ((kB2 _ (by omega)).trans ((k1.keep _ (by omega)).trans rfl)) ((kB2 _ (by omega)).trans ((k1.keep _ (by omega)).trans rfl))
          have hlen : (redR E st.length j).length = j := redR_len E st.length j
          have gB1 : Gr B1 yb B0.next (redR E st.length j) := (gx.nx (n := 0) hwB hbk).nx (n := 0) hbk.wf (by rw [bump_next]; exact k1)
          have gB2 : Gr B2 yb B0.next (redR E st.length j) := gB1.ext (Nat.le_of_eq eB2.symm) fun b' hb' => by
            by_cases hbb : b' = B.next + 9
            · exact .inl (hbb ▸ hnb)
            · exact .inr (kB2 _ hbb)
          obtain ⟨B3, q1, n3, w3, hg3, kp3, _⟩ := gr_push hxB2.wf gB2 (a2 := some ⟨B.next + 9, 0, none⟩) (c2 := 1) (b2 := B.next + 9) (x := E (st.length + j)) rfl (by rw [cl_of lB2 rfl]; rfl) (by omega)
          rw [hlen] at q1
          rw [redR_snoc] at hg3
          have L3 : ∀ b', b' < B0.next → Canon.look B3.objs b' = Canon.look B.objs b' := fun b' hb' => by
            rw [kp3 b' (by omega) (fun y hy => by obtain ⟨_, q, _⟩ := gB2.sl y hy; omega), kB2 _ (by omega), k1.keep _ (by omega)]
            rfl
          have F3 : F B3 := hF _ (L3 _ (by omega)) (L3 _ (by omega))
          refine DrL.eff (by rfl) (by rfl) (pd1 := [(9, ⟨[.int .i64 (E (st.length + j))], 3, .sl 1 1⟩)]) (pd2 := []) (by kernel_rfl) (by kernel_rfl) (ms0 := [B1]) (A0 := B2) (by simp only [placeAll, p1]) (fun M hM => by rw [List.mem_singleton] at hM; rw [hM]; exact F1) F2 (by rfl)
            (v := .slice (some ⟨B2.next, 0, none⟩) (j + 1) (j + 1)) (A1 := B3) (opRun_op rfl (by simp only [sev_tmp, sg_eq, sg_ne, sp_n, Nat.reduceLT, ne_eq, Nat.reduceEqDiff, not_false_eq_true, Nat.zero_add, Nat.reduceAdd, hn, ae_apd, apd_slice, FK.val]; exact q1)) ?_
          refine DrL.read (by first | rfl | kernel_rfl) (by rfl) (by assumption) (fun M hM => by simp only [sev_tmp, sg_ne, ne_eq, Nat.reduceEqDiff, not_false_eq_true, fx, fad, adr_p, Nat.zero_add, Nat.reduceAdd, fo24_2, s9] <;> rfl) (by rfl) (by first | exact VQ.int _ _ | exact VQ.bool _ | exact VQ.ptr _ _ | exact VQ.slice _ _ _ | exact VQ.func (by simp [vq_int, vq_ptr, vq_slice]) (by simp [vq_int, vq_ptr, vq_slice]) | exact VQ.agg (by simp [vq_int, vq_ptr, vq_slice]) | exact VQ.tuple (by simp [vq_int, vq_ptr, vq_slice])) ?_
          have l3 : Canon.look B3.objs A4.next = _ := (L3 _ (by omega)).trans lB
          obtain ⟨B4, v1, v2⟩ := st1_upd (o := 2) (v := .slice (some ⟨B2.next, 0, none⟩) (j + 1) (j + 1)) l3 rfl (by simp) rfl
          refine DrL.eff (by rfl) (by rfl) (pd1 := []) (pd2 := []) (by kernel_rfl) (by kernel_rfl) (ms0 := []) (A0 := B3) rfl (fun _ h => by cases h) F3 (by rfl) (v := undef) (A1 := B4) (opRun_op rfl (fx_ok (by rfl) (by simp only [sev_tmp, sg_eq, sg_ne, sp_n, Nat.reduceLT, ne_eq, Nat.reduceEqDiff, not_false_eq_true, fx, str, adr_p, Nat.zero_add, Nat.reduceAdd, tk22, hn, v1]))) ?_
          refine DrL.nil ⟨by rfl, B4, by rfl, ?_⟩
          (repeat (first | refine Rn.seq hc ?_ | refine Rn.skip hc ?_ | refine Rn.block hc ?_ | refine Rn.inBlock hc ?_ | refine Rn.scope hc ?_ | refine Rn.inScope hc ?_))
          refine Rn.reg hc rfl ?_
          simp only [sev_tmp, sev_const, sg_eq, sg_ne, sp_n, sp_none, Nat.reduceLT, ne_eq, Nat.reduceEqDiff, not_false_eq_true, gd, want_free, rops, fx, bin_add, Nat.zero_add, Option.some.injEq, exists_eq_left', Nat.reduceAdd, hn, s11, wrap_succ (show st.length + j < 9223372036854775807 by omega)]
          (repeat (first | refine Rn.seq hc ?_ | refine Rn.skip hc ?_ | refine Rn.block hc ?_ | refine Rn.inBlock hc ?_ | refine Rn.scope hc ?_ | refine Rn.inScope hc ?_))
          obtain ⟨c, t, f, g, e, r1, r2, _⟩ := v2.at'
          rw [l3] at r1
          cases r1
          have hn4 := v2.next
          exact ih _ _ _ (by omega) ⟨j + 1, some ⟨B2.next, 0, none⟩, by omega, rfl, (v2.nx w3 (Nat.zero_le _)).wf, by omega, fun b hb hne => by rw [v2.off _ hne, L3 _ hb]; exact hkeep b hb hne, r2, (hg3.off v2 (by omega)).mono (by omega), by simp only [sp_n, hn], by simp only [sg_ne, ne_eq, Nat.reduceEqDiff, not_false_eq_true, s1], by simp only [sg_ne, ne_eq, Nat.reduceEqDiff, not_false_eq_true, s2], by simp only [sg_ne, ne_eq, Nat.reduceEqDiff, not_false_eq_true, s3], by simp only [sg_ne, ne_eq, Nat.reduceEqDiff, not_false_eq_true, s6], by simp only [sg_ne, ne_eq, Nat.reduceEqDiff, not_false_eq_true, s9], by simp only [sg_eq, sp_n, Nat.reduceLT, hn, Nat.add_assoc]⟩
        · have hd : decide (((st.length + j : Nat) : Int) < ((st.length + ro.length : Nat) : Int)) = false := decide_eq_false (by omega)
          have hjr : j = ro.length := by omega
          clear ih
          refine Rn.reg hc rfl ?_
          simp only [sev_tmp, sg_eq, sg_ne, sp_n, Nat.reduceLT, ne_eq, Nat.reduceEqDiff, not_false_eq_true, gd, want_free, rops, fx, ld, fad, lng, bin_lss, bin_add, adr_p, Nat.zero_add, Option.some.injEq, exists_eq_left', tk22, fo24_1, fo24_2, un22, hn, s3, s11, c1', c2', hw0, hd]
          (repeat (first | refine Rn.seq hc ?_ | refine Rn.skip hc ?_ | refine Rn.block hc ?_ | refine Rn.inBlock hc ?_ | refine Rn.scope hc ?_ | refine Rn.inScope hc ?_))
          refine Rn.condE hc rfl ?_
          simp only [sev_tmp, sg_eq, sp_n, Nat.reduceLT, Value.bool.injEq, exists_eq_left', hn]
          (repeat (first | refine Rn.seq hc ?_ | refine Rn.skip hc ?_ | refine Rn.block hc ?_ | refine Rn.inBlock hc ?_ | refine Rn.scope hc ?_ | refine Rn.inScope hc ?_))
          refine Rn.exit hc rfl ?_
          (repeat (first | refine Rn.seq hc ?_ | refine Rn.skip hc ?_ | refine Rn.block hc ?_ | refine Rn.inBlock hc ?_ | refine Rn.scope hc ?_ | refine Rn.inScope hc ?_))
          subst hjr
          have hAB : Nx A.next A B := ⟨by omega, hwB, fun b hb => (hkeep b (by omega) (by omega)).trans (hAB0.keep b hb)⟩
          have lC : Canon.look B.objs A0.next = _ := (hkeep _ (by omega) (by omega)).trans lR
          have gS : Gr B ya A5.next (redS E st.length) := gx0.ext hnB fun b' hb' => by
            by_cases hlt' : b' < B0.next
            · exact .inr (hkeep b' hlt' (by omega))
            · exact .inl (hwB0.none (by omega))
          have f0 : cl B A4.next 0 = some (.int .i64 m) := by rw [cl_of lB rfl]; rfl
          have f1 : cl B A4.next 1 = some (.slice ya st.length st.length) := by rw [cl_of lB rfl]; rfl
          have f2 : cl B A4.next 2 = some (.slice yb ro.length ro.length) := by rw [cl_of lB rfl]; rfl
          have hlr := result_ref hwB (m := m) (sc := st.length) (rc := ro.length) (gS.ints.mono (Nat.zero_le _) (Nat.le_refl _)) (gx.ints.mono (Nat.zero_le _) (Nat.le_refl _)) (by rw [redS_len]; omega) (by rw [redR_len]; omega) (by rw [redR_len]; exact hro) (gx.sl.mono (Nat.zero_le _)) (by rw [redR_len]; exact Nat.le_refl _)
          rw [atL_redF hEp] at hlr
          simp only [redS_len, redR_len] at hlr
          refine Rn.region hc fun K hK => ?_
          refine Wo.run hc 1 rfl rfl rfl ?_
          simp (maxSteps := 2000000) only [List.drop_zero, List.take_succ_cons, List.take_zero, sev_tmp, sg_ne, ne_eq, Nat.reduceEqDiff, not_false_eq_true, gd, want_free, rops, fx, ld, adr_p, cls, Nat.zero_add, Option.some.injEq, exists_eq_left', Nat.reduceAdd, tk24, s9, f0, f1, f2]
          refine Wo.call hc (by rfl) (by rfl) ⟨by rfl, by rfl⟩ (xs := [.agg #[.int .i64 m, .slice ya st.length st.length, .slice yb ro.length ro.length]]) (by rfl) (by rfl) (by simp only [sev_tmp, sg_eq, sp_n, Nat.reduceLT, List.map_cons, List.map_nil, List.nil_append, List.append_nil, hn]) (Con.mono (hlr) ?_)
          rintro w C3 ⟨a, p, hred, _, _, hq⟩
          obtain ⟨mm, n1, n2, ee, p1, c1, p2, c2, rfl, D, q1, g0, g1, g2, hoff, hT⟩ := TldR.fin (b := A0.next) hAB hn0A (by omega) lC (tldR_q (m := m) hred hq)
          refine Wo.run hc 4 rfl rfl rfl ?_
          simp (maxSteps := 2000000) only [List.drop_zero, List.drop_succ_cons, List.take_succ_cons, List.take_zero, sev_tmp, sg_eq, sg_ne, sp_n, sp_none, Nat.reduceLT, ne_eq, Nat.reduceEqDiff, not_false_eq_true, gd, want_free, rops, fx, str, ext, adr_p, List.getElem?_toArray, List.getElem?_cons_zero, List.getElem?_cons_succ, Nat.zero_add, Option.some.injEq, exists_eq_left', Nat.reduceAdd, tk24, hn, s6, ext, q1, List.size_toArray, List.length_cons, List.length_nil, Nat.beq_refl]
          refine Wo.done hc rfl (hK _ _ ?_)
          clear hK
          (repeat (first | refine Rn.seq hc ?_ | refine Rn.skip hc ?_ | refine Rn.block hc ?_ | refine Rn.inBlock hc ?_ | refine Rn.scope hc ?_ | refine Rn.inScope hc ?_))
          refine Rn.ret (endQ_ct rfl (v := .agg #[.int .i64 mm, .slice p1 n1 c1, .slice p2 n2 c2]) ?_ ?_)
          · simp only [sg_ne, ne_eq, Nat.reduceEqDiff, not_false_eq_true, ld, adr_p, cls, Nat.zero_add, Nat.reduceAdd, tk24, s6, g0, g1, g2]
          · simp only [sg_eq, sp_n, Nat.reduceLT, hn]
            exact hT
  · have hd : (!decide (errL m st ro = 0)) = true := by rw [decide_eq_false he]; rfl
    obtain ⟨D, q1, g0, g1, g2, hxD⟩ := err_fin hx04 hn0A n4 l4
    rw [if_neg he]
    refine Rn.reg hc rfl ?_
    simp only [sev_tmp, sev_const, sg_eq, sp_n, Nat.reduceLT, gd, want_free, rops, fx, bin_neq, Option.some.injEq, exists_eq_left', hd]
    (repeat (first | refine Rn.seq hc ?_ | refine Rn.skip hc ?_ | refine Rn.block hc ?_ | refine Rn.inBlock hc ?_ | refine Rn.scope hc ?_ | refine Rn.inScope hc ?_))
    refine Rn.condE hc rfl ?_
    simp only [sev_tmp, sg_eq, sp_n, Nat.reduceLT, Value.bool.injEq, exists_eq_left']
    (repeat (first | refine Rn.seq hc ?_ | refine Rn.skip hc ?_ | refine Rn.block hc ?_ | refine Rn.inBlock hc ?_ | refine Rn.scope hc ?_ | refine Rn.inScope hc ?_))
    refine Rn.reg hc rfl ?_
    simp only [sev_tmp, sg_eq, sg_ne, sp_n, sp_none, Nat.reduceLT, ne_eq, Nat.reduceEqDiff, not_false_eq_true, gd, want_free, rops, fx, str, adr_p, Nat.zero_add, Option.some.injEq, exists_eq_left', Nat.reduceAdd, tk24, bd24_z, q1, List.size_toArray, List.length_cons, List.length_nil, Nat.beq_refl]
    (repeat (first | refine Rn.seq hc ?_ | refine Rn.skip hc ?_ | refine Rn.block hc ?_ | refine Rn.inBlock hc ?_ | refine Rn.scope hc ?_ | refine Rn.inScope hc ?_))
    refine Rn.ret (endQ_ct rfl (v := .agg #[.int .i64 0, .slice none 0 0, .slice none 0 0]) ?_ ?_)
    · simp only [sg_eq, sg_ne, sp_n, Nat.reduceLT, ne_eq, Nat.reduceEqDiff, not_false_eq_true, ld, adr_p, cls, Nat.zero_add, Nat.reduceAdd, tk24, g0, g1, g2]
    · simp only [sg_eq, sp_n, Nat.reduceLT]
      exact tldR_err he hxD
end Go.Proofs.Ytdaljohmfnfgiaa

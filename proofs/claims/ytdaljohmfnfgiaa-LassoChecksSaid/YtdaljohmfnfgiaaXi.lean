/- LassoChecks returns true for every input, and each argument reads afterwards as it read before. No condition. -/
import Derived.Test.YtdaljohmfnfgiaaXh
/- LassoChecks: what both sides tell is the same. No condition. -/
namespace Go.Proofs.Ytdaljohmfnfgiaa
open Go Go.RowKit Go.Proofs.Ytdaljohmfnfgiaa.Canon
set_option maxRecDepth 20000


/-- What Least comes to. -/
def LP (m : Int) (st ro : List Int) (mm : Int) (L1 L2 : List Int) (ee : Int) : Prop :=
  (errL m st ro ≠ 0 ∧ mm = 0 ∧ L1 = [] ∧ L2 = [] ∧ ee = errL m st ro) ∨
  (errL m st ro = 0 ∧ ∃ a p, Red (atL st ro) a p ∧ (((120 < p ∨ 60 < a) ∧ mm = 0 ∧ L1 = [] ∧ L2 = [] ∧ ee = 11) ∨ (¬ (120 < p ∨ 60 < a) ∧ mm = m ∧ L1 = redS (atL st ro) a ∧ L2 = redR (atL st ro) a p ∧ ee = 0)))
theorem LP.uniq {m : Int} {st ro : List Int} {mm mm' : Int} {L1 L2 L1' L2' : List Int} {ee ee' : Int} (h : LP m st ro mm L1 L2 ee) (k : LP m st ro mm' L1' L2' ee') : mm = mm' ∧ L1 = L1' ∧ L2 = L2' ∧ ee = ee' := by
  rcases h with ⟨h0, rfl, rfl, rfl, rfl⟩ | ⟨h0, a, p, hr, h⟩
  · rcases k with ⟨_, rfl, rfl, rfl, rfl⟩ | ⟨k0, _⟩
    · exact ⟨rfl, rfl, rfl, rfl⟩
    · exact absurd k0 h0
  · rcases k with ⟨k0, _⟩ | ⟨_, a', p', kr, k⟩
    · exact absurd h0 k0
    · obtain ⟨rfl, rfl⟩ := hr.uniq kr
      rcases h with ⟨h1, rfl, rfl, rfl, rfl⟩ | ⟨h1, rfl, rfl, rfl, rfl⟩
      · rcases k with ⟨_, rfl, rfl, rfl, rfl⟩ | ⟨k1, _⟩
        · exact ⟨rfl, rfl, rfl, rfl⟩
        · exact absurd h1 k1
      · rcases k with ⟨k1, _⟩ | ⟨_, rfl, rfl, rfl, rfl⟩
        · exact absurd k1 h1
        · exact ⟨rfl, rfl, rfl, rfl⟩
theorem LP.len {m : Int} {st ro : List Int} {mm : Int} {L1 L2 : List Int} {ee : Int} (h : LP m st ro mm L1 L2 ee) : L1.length ≤ 60 ∧ L2.length ≤ 120 := by
  rcases h with ⟨_, _, rfl, rfl, _⟩ | ⟨_, a, p, _, ⟨_, _, rfl, rfl, _⟩ | ⟨h1, _, rfl, rfl, _⟩⟩
  · simp
  · simp
  · rw [redS_len, redR_len]; omega
theorem ints_nil (A : AHeap) (a : Option Addr) (lo hi : Nat) : Ints A a lo hi [] := fun i hi => by simp at hi
theorem least_told {A A1 : AHeap} {m : Int} {st ro : List Int} {v : Value}
    (h : (errL m st ro = 0 → ∃ a p, Red (atL st ro) a p ∧ a ≤ st.length ∧ p ≤ ro.length ∧ LeastQ A m (atL st ro) a p v A1) ∧ (errL m st ro ≠ 0 → v = .tuple #[.agg #[.int .i64 0, .slice none 0 0, .slice none 0 0], .int .i64 (errL m st ro)] ∧ Nx A.next A A1)) :
    Nx A.next A A1 ∧ ∃ mm L1 L2 ee p1 c1 p2 c2, LP m st ro mm L1 L2 ee ∧ v = .tuple #[.agg #[.int .i64 mm, .slice p1 L1.length c1, .slice p2 L2.length c2], .int .i64 ee] ∧ Ints A1 p1 0 A1.next L1 ∧ Ints A1 p2 0 A1.next L2 ∧ Wrt A1 p1 A.next A1.next L1.length ∧ Wrt A1 p2 A.next A1.next L2.length := by
  by_cases he : errL m st ro = 0
  · obtain ⟨a, p, hr, _, _, hx1, hq⟩ := h.1 he
    refine ⟨hx1, ?_⟩
    by_cases hl : 120 < p ∨ 60 < a
    · rw [if_pos hl] at hq
      exact ⟨0, [], [], 11, none, 0, none, 0, .inr ⟨he, a, p, hr, .inl ⟨hl, rfl, rfl, rfl, rfl⟩⟩, hq, ints_nil _ _ _ _, ints_nil _ _ _ _, fun h0 => absurd h0 (by simp), fun h0 => absurd h0 (by simp)⟩
    · rw [if_neg hl] at hq
      obtain ⟨xa, xr, rfl, g1, g2⟩ := hq
      exact ⟨m, _, _, 0, xa, a, xr, p, .inr ⟨he, a, p, hr, .inr ⟨hl, rfl, rfl, rfl, rfl⟩⟩, by rw [redS_len, redR_len], g1.ints.mono (Nat.zero_le _) (Nat.le_refl _), g2.ints.mono (Nat.zero_le _) (Nat.le_refl _), g1.wrt, g2.wrt⟩
  · obtain ⟨rfl, hx1⟩ := h.2 he
    exact ⟨hx1, 0, [], [], _, none, 0, none, 0, .inl ⟨he, rfl, rfl, rfl, rfl⟩, rfl, ints_nil _ _ _ _, ints_nil _ _ _ _, fun h0 => absurd h0 (by simp), fun h0 => absurd h0 (by simp)⟩
theorem least_toldR {A A1 : AHeap} {m : Int} {st ro : List Int} {v : Value}
    (h : (errL m st ro = 0 → ∃ a p, Red (atL st ro) a p ∧ a ≤ st.length ∧ p ≤ ro.length ∧ LeastR A m (atL st ro) a p v A1) ∧ (errL m st ro ≠ 0 → v = .tuple #[.agg #[.int .i64 0, .slice none 0 0, .slice none 0 0], .int .i64 (errL m st ro)] ∧ Nx A.next A A1)) :
    Nx A.next A A1 ∧ ∃ mm L1 L2 ee p1 c1 p2 c2, LP m st ro mm L1 L2 ee ∧ v = .tuple #[.agg #[.int .i64 mm, .slice p1 L1.length c1, .slice p2 L2.length c2], .int .i64 ee] ∧ Ints A1 p1 0 A1.next L1 ∧ Ints A1 p2 0 A1.next L2 := by
  by_cases he : errL m st ro = 0
  · obtain ⟨a, p, hr, _, _, hx1, hq⟩ := h.1 he
    refine ⟨hx1, ?_⟩
    by_cases hl : 120 < p ∨ 60 < a
    · rw [if_pos hl] at hq
      exact ⟨0, [], [], 11, none, 0, none, 0, .inr ⟨he, a, p, hr, .inl ⟨hl, rfl, rfl, rfl, rfl⟩⟩, hq, ints_nil _ _ _ _, ints_nil _ _ _ _⟩
    · rw [if_neg hl] at hq
      obtain ⟨xa, xc, xr, xd, rfl, g1, g2⟩ := hq
      exact ⟨m, _, _, 0, xa, xc, xr, xd, .inr ⟨he, a, p, hr, .inr ⟨hl, rfl, rfl, rfl, rfl⟩⟩, by rw [redS_len, redR_len], g1.mono (Nat.zero_le _) (Nat.le_refl _), g2.mono (Nat.zero_le _) (Nat.le_refl _)⟩
  · obtain ⟨rfl, hx1⟩ := h.2 he
    exact ⟨hx1, 0, [], [], _, none, 0, none, 0, .inl ⟨he, rfl, rfl, rfl, rfl⟩, rfl, ints_nil _ _ _ _, ints_nil _ _ _ _⟩
/-- Two streams that have the same numbers. -/
def Tw (x x' : Las) : Prop := x.m = x'.m ∧ x.st = x'.st ∧ x.ro = x'.ro
theorem errs_tw {x x' y y' : Las} (hx : Tw x x') (hy : Tw y y') : errs [x, y] [x, y] = errs [x', y'] [x', y'] := by
  rw [errs_two, errs_two]
  unfold Las.err
  rw [hx.1, hx.2.1, hx.2.2, hy.1, hy.2.1, hy.2.2]
theorem apart_tw {x x' y y' : Las} (hx : Tw x x') (hy : Tw y y') {v w : Value} (h : (errs [x, y] [x, y] = 0 → ApartQ x.s y.s v) ∧ (errs [x, y] [x, y] ≠ 0 → v = .tuple #[.int .i64 0, .int .i64 (errs [x, y] [x, y])]))
    (k : (errs [x', y'] [x', y'] = 0 → ApartQ x'.s y'.s w) ∧ (errs [x', y'] [x', y'] ≠ 0 → w = .tuple #[.int .i64 0, .int .i64 (errs [x', y'] [x', y'])])) : ∃ n e, v = .tuple #[.int .i64 n, .int .i64 e] ∧ w = .tuple #[.int .i64 n, .int .i64 e] := by
  have he := errs_tw hx hy
  have hxs : x.s = x'.s := by unfold Las.s; rw [hx.2.1, hx.2.2]
  have hys : y.s = y'.s := by unfold Las.s; rw [hy.2.1, hy.2.2]
  by_cases h0 : errs [x, y] [x, y] = 0
  · have h1 := h.1 h0
    have k1 := k.1 (he ▸ h0)
    rw [← hxs, ← hys] at k1
    have := h1.uniq k1
    subst this
    rcases h1 with ⟨n, rfl, _⟩ | ⟨rfl, _⟩
    · exact ⟨_, _, rfl, rfl⟩
    · exact ⟨_, _, rfl, rfl⟩
  · exact ⟨_, _, h.2 h0, by rw [k.2 (he ▸ h0), ← he]⟩
theorem same_tw {x x' y y' : Las} (hx : Tw x x') (hy : Tw y y') {v w : Value} (h : (errs [x, y] [x, y] = 0 → ∃ b, v = .tuple #[.bool b, .int .i64 0] ∧ (b = true ↔ ∀ n, x.s n = y.s n)) ∧ (errs [x, y] [x, y] ≠ 0 → v = .tuple #[.bool false, .int .i64 (errs [x, y] [x, y])]))
    (k : (errs [x', y'] [x', y'] = 0 → ∃ b, w = .tuple #[.bool b, .int .i64 0] ∧ (b = true ↔ ∀ n, x'.s n = y'.s n)) ∧ (errs [x', y'] [x', y'] ≠ 0 → w = .tuple #[.bool false, .int .i64 (errs [x', y'] [x', y'])])) : ∃ b e, v = .tuple #[.bool b, .int .i64 e] ∧ w = .tuple #[.bool b, .int .i64 e] := by
  have he := errs_tw hx hy
  have hxs : x.s = x'.s := by unfold Las.s; rw [hx.2.1, hx.2.2]
  have hys : y.s = y'.s := by unfold Las.s; rw [hy.2.1, hy.2.2]
  by_cases h0 : errs [x, y] [x, y] = 0
  · obtain ⟨b, rfl, h1⟩ := h.1 h0
    obtain ⟨b', rfl, k1⟩ := k.1 (he ▸ h0)
    rw [← hxs, ← hys] at k1
    have : b = b' := by
      cases b with
      | true => exact ((k1.2 (h1.1 rfl))).symm
      | false =>
        cases b' with
        | false => rfl
        | true => exact absurd (h1.2 (k1.1 rfl)) (by decide)
    subst this
    exact ⟨_, _, rfl, rfl⟩
  · exact ⟨_, _, h.2 h0, by rw [k.2 (he ▸ h0), ← he]⟩
def ownS : Canon.Spec := fun _ xs A v A1 => Nx A.next A A1 ∧ ∀ (m : Int) (sa : Option Addr) (st : List Int) (sc : Nat) (ra : Option Addr) (ro : List Int) (rc : Nat), xs = [.agg #[.int .i64 m, .slice sa st.length sc, .slice ra ro.length rc]] → Ints A sa 0 A.next st → Ints A ra 0 A.next ro →
  ∃ sa' sc' ra' rc', v = .agg #[.int .i64 m, .slice sa' st.length sc', .slice ra' ro.length rc'] ∧ st.length ≤ sc' ∧ ro.length ≤ rc' ∧ Ints A1 sa' 0 A1.next st ∧ Ints A1 ra' 0 A1.next ro ∧ Sl A1 sa' 0 ∧ Sl A1 ra' 0
theorem own_S {A : AHeap} (hw : WF A) {m : Int} {sa ra : Option Addr} {sc rc : Nat} {st ro : List Int} (hs : Ints A sa 0 A.next st) (hr : Ints A ra 0 A.next ro) (ls : st.length ≤ 1000) (lr : ro.length ≤ 1000) :
    Con Try.prog 17 [.agg #[.int .i64 m, .slice sa st.length sc, .slice ra ro.length rc]] A (ownS 17 [.agg #[.int .i64 m, .slice sa st.length sc, .slice ra ro.length rc]] A) := by
  refine Con.mono (own_lasso hw hs hr ls lr) fun v A1 ⟨xa, xc, ya, yc, e0, q1, q2, q3, q4, q5, q6, q7⟩ => ⟨q3, fun m' sa' st' sc' ra' ro' rc' e h1 h2 => ?_⟩
  simp only [List.cons.injEq, Value.agg.injEq, Array.mk.injEq, Value.int.injEq, Value.slice.injEq, true_and, and_true] at e
  obtain ⟨rfl, ⟨rfl, e1, -⟩, rfl, e2, -⟩ := e
  have hst := ints_uniq hs h1 e1
  have hro := ints_uniq hr h2 e2
  subst hst hro
  exact ⟨xa, xc, ya, yc, e0, q1, q2, q4.mono (Nat.zero_le _) (Nat.le_refl _), q5.mono (Nat.zero_le _) (Nat.le_refl _), q6.mono (Nat.zero_le _), q7.mono (Nat.zero_le _)⟩
end Go.Proofs.Ytdaljohmfnfgiaa
/- LassoChecks: what is looked at. No condition. -/
namespace Go.Proofs.Ytdaljohmfnfgiaa
open Go Go.RowKit Go.Proofs.Ytdaljohmfnfgiaa.Canon
set_option maxRecDepth 20000

def restOf : Code → Code
  | .seq _ b => b
  | c => c
def restN : Nat → Code → Code
  | 0, c => c
  | n + 1, c => restN n (restOf c)
theorem fbal24 {ρ : Operand → Value} {d : Option Tmp} {ty : TypeId} {pos : String} {af : Array Edge} {gu : Option (Nat × Bool)} : fobj Try.prog ρ ⟨d, .alloc 24, ty, pos, af, gu⟩ = some ⟨[.int .i64 0, .slice none 0 0, .slice none 0 0], 24, .ptr⟩ := by
  simp only [fobj, ze24]
  rfl
theorem place_al {A : AHeap} (hw : WF A) {b : Nat} (hlt : b < A.next) (hn : Canon.look A.objs b = none) (c : List Value) (t : TypeId) :
    ∃ B, place b ⟨c, t, .ptr⟩ A = some (.pointer (some ⟨b, 0, none⟩), B) ∧ WF B ∧ B.next = A.next ∧ Canon.look B.objs b = some ⟨.cells ⟨c⟩ t, false, 0⟩ ∧ ∀ b', b' ≠ b → Canon.look B.objs b' = Canon.look A.objs b' := by
  have hp : place b ⟨c, t, .ptr⟩ A = some (.pointer (some ⟨b, 0, none⟩), ⟨A.next, consO b ⟨.cells ⟨c⟩ t, false, 0⟩ A.objs⟩) := by
    unfold place
    simp only [FK.isNo, hn]
    rfl
  have hx := (Nx.refl hw 0).cons (Nat.zero_le b) hlt ⟨.cells ⟨c⟩ t, false, 0⟩
  exact ⟨_, hp, hx.wf, rfl, look_consO_eq _ _ _, fun b' hb' => look_consO_ne hb'⟩
/-- A stream, and the variable that has it. -/
structure Has (B : AHeap) (b : Nat) (x : Las) : Prop where
  c0 : cl B b 0 = some (.int .i64 x.m)
  c1 : cl B b 1 = some (.slice x.sa x.st.length x.sc)
  c2 : cl B b 2 = some (.slice x.ra x.ro.length x.rc)
  ok : x.ok B
  lt : b < B.next
  ls : x.st.length ≤ 70
  lr : x.ro.length ≤ 130
  cs : x.st.length ≤ x.sc
  cr : x.ro.length ≤ x.rc
  s1 : 0 < x.st.length → Sl B x.sa 0
  s2 : 0 < x.ro.length → Sl B x.ra 0
theorem Has.nx {B C : AHeap} {b : Nat} {x : Las} (h : Has B b x) (hw : WF B) (k : Nx B.next B C) : Has C b x :=
  { c0 := (k.cl h.lt 0).trans h.c0, c1 := (k.cl h.lt 1).trans h.c1, c2 := (k.cl h.lt 2).trans h.c2, ok := h.ok.nx k, lt := Nat.lt_of_lt_of_le h.lt k.next, ls := h.ls, lr := h.lr, cs := h.cs, cr := h.cr, s1 := fun q => (h.s1 q).nx hw k, s2 := fun q => (h.s2 q).nx hw k }

theorem checks_own {A B : AHeap} (hB : Nx A.next A B) {bX bY : Nat} {x y : Las} (hX : Has B bX x) (hY : Has B bY y) {s : Slots} (hn : s.n = 116) (s2 : sget s 2 = .pointer (some ⟨bX, 0, none⟩)) (s3 : sget s 3 = .pointer (some ⟨bY, 0, none⟩)) {Q : Post}
    (hk : ∀ s C bx by' x' y', Nx B.next B C → Has C bx x' → Has C by' y' → Tw x' x → Tw y' y → Sl C x'.sa 0 → Sl C y'.sa 0 → s.n = 116 → sget s 2 = .pointer (some ⟨bX, 0, none⟩) → sget s 3 = .pointer (some ⟨bY, 0, none⟩) → sget s 5 = .pointer (some ⟨bx, 0, none⟩) → sget s 6 = .pointer (some ⟨by', 0, none⟩) → Rn Try.prog 3 none [.code (restN 3 (Try.f3.body.getD .skip))] s [] C Q) :
    Rn Try.prog 3 none [.code (restN 2 (Try.f3.body.getD .skip))] s [] B Q := by
  refine Rn.seq hc ?_
  obtain ⟨F, hFb, hF⟩ : ∃ F : AHeap → Prop, (∀ M, F M → ∀ b, b < B.next → ∀ o, cl M b o = cl B b o) ∧ (∀ M, Nx B.next B M → F M) := ⟨fun M => Nx B.next B M, fun M h b hb o => h.cl hb o, fun _ h => h⟩
  have G0 := fun M hM => (hFb M hM _ hX.lt 0).trans hX.c0
  have G1 := fun M hM => (hFb M hM _ hX.lt 1).trans hX.c1
  have G2 := fun M hM => (hFb M hM _ hX.lt 2).trans hX.c2
  have H0 := fun M hM => (hFb M hM _ hY.lt 0).trans hY.c0
  have H1 := fun M hM => (hFb M hM _ hY.lt 1).trans hY.c1
  have H2 := fun M hM => (hFb M hM _ hY.lt 2).trans hY.c2
  have hbk : Nx B.next B (bump B 8) := Nx.bump (Nx.refl hB.wf _) 8
  have FB := hF _ hbk
  have ls := hX.ls
  have lr := hX.lr
  have ls' := hY.ls
  have lr' := hY.lr
  refine Rn.drawnL hc hx ownS F (E := [1, 3, 5, 4, 6]) (n := 7) (k := 8) (by kernel_rfl) (by kernel_rfl) (by rfl) (by kernel_rfl) ?_
  refine DrL.read (by first | rfl | kernel_rfl) (by first | rfl | (simp only [sev_tmp, sev_const, sev_func, sg_eq, sg_ne, sp_n, sp_none, Nat.reduceLT, ne_eq, Nat.reduceEqDiff, not_false_eq_true, gd, nth, want_free, want_slot, beqB, List.map_cons, List.map_nil, Array.toList_empty, List.nil_append, List.append_nil, List.cons_append, hn]; done) | (simp only [sev_tmp, sev_const, sev_func, sg_eq, sg_ne, sp_n, sp_none, Nat.reduceLT, ne_eq, Nat.reduceEqDiff, not_false_eq_true, gd, nth, want_free, want_slot, beqB, List.map_cons, List.map_nil, Array.toList_empty, List.nil_append, List.append_nil, List.cons_append, hn]; rfl)) (by assumption) (fun M hM => by simp only [sev_tmp, fx, ld, adr_p, cls, Nat.zero_add, Nat.reduceAdd, tk24, s2, G0 M hM, G1 M hM, G2 M hM] <;> rfl) (by rfl) (by first | exact VQ.int _ _ | exact VQ.bool _ | exact VQ.ptr _ _ | exact VQ.slice _ _ _ | exact VQ.func (by simp [vq_int, vq_ptr, vq_slice]) (by simp [vq_int, vq_ptr, vq_slice]) | exact VQ.agg (by simp [vq_int, vq_slice]) | exact VQ.tuple (by simp [vq_int, vq_ptr, vq_slice])) ?_
  obtain ⟨o1, o2, _, _⟩ := hX.ok.nx hbk
  refine DrL.call (by kernel_rfl) (by rfl) (by assumption) (by rfl) (opRun_call (by rfl) ⟨by rfl, by rfl⟩ (by rfl) (xs := [x.v]) (by simp only [sev_tmp, sg_eq, Nat.reduceLT, List.map_cons, List.map_nil, List.nil_append, List.append_nil, hn, Las.v]) (own_S hbk.wf o1 o2 (by omega) (by omega))) ?_
  rintro v C1 ⟨k1, hv⟩
  obtain ⟨xa, xc, xr, xd, rfl, hc1, hc2, i1, i2, y1, y2⟩ := hv _ _ _ _ _ _ _ rfl o1 o2
  have hC1 : Nx B.next B C1 := hbk.trans (k1.le hbk.next)
  have F1 := hF _ hC1
  refine DrL.read (by first | rfl | kernel_rfl) (by first | rfl | (simp only [sev_tmp, sev_const, sev_func, sg_eq, sg_ne, sp_n, sp_none, Nat.reduceLT, ne_eq, Nat.reduceEqDiff, not_false_eq_true, gd, nth, want_free, want_slot, beqB, List.map_cons, List.map_nil, Array.toList_empty, List.nil_append, List.append_nil, List.cons_append, hn]; done) | (simp only [sev_tmp, sev_const, sev_func, sg_eq, sg_ne, sp_n, sp_none, Nat.reduceLT, ne_eq, Nat.reduceEqDiff, not_false_eq_true, gd, nth, want_free, want_slot, beqB, List.map_cons, List.map_nil, Array.toList_empty, List.nil_append, List.append_nil, List.cons_append, hn]; rfl)) (by assumption) (fun M hM => by simp only [sev_tmp, sg_ne, ne_eq, Nat.reduceEqDiff, not_false_eq_true, fx, ld, adr_p, cls, Nat.zero_add, Nat.reduceAdd, tk24, s3, H0 M hM, H1 M hM, H2 M hM] <;> rfl) (by rfl) (by first | exact VQ.int _ _ | exact VQ.bool _ | exact VQ.ptr _ _ | exact VQ.slice _ _ _ | exact VQ.func (by simp [vq_int, vq_ptr, vq_slice]) (by simp [vq_int, vq_ptr, vq_slice]) | exact VQ.agg (by simp [vq_int, vq_slice]) | exact VQ.tuple (by simp [vq_int, vq_ptr, vq_slice])) ?_
  obtain ⟨p1, p2, _, _⟩ := hY.ok.nx hC1
  refine DrL.call (by kernel_rfl) (by rfl) (by assumption) (by rfl) (opRun_call (by rfl) ⟨by rfl, by rfl⟩ (by rfl) (xs := [y.v]) (by simp only [sev_tmp, sg_eq, sp_n, Nat.reduceLT, List.map_cons, List.map_nil, List.nil_append, List.append_nil, hn, Las.v]) (own_S hC1.wf p1 p2 (by omega) (by omega))) ?_
  rintro v C2 ⟨k2, hv⟩
  obtain ⟨ya, yc, yr, yd, rfl, hc3, hc4, i3, i4, y3, y4⟩ := hv _ _ _ _ _ _ _ rfl p1 p2
  have hC2 : Nx B.next B C2 := hC1.trans (k2.le hC1.next)
  have F2 := hF _ hC2
  have hn1 := k1.next
  rw [bump_next] at hn1
  have hn2 := k2.next
  refine DrL.float (by rfl) (by rfl) (by rfl) fbal24 ?_
  refine DrL.float (by rfl) (by rfl) (by rfl) fbal24 ?_
  have hk12 : ∀ b, b < B.next + 8 → Canon.look C2.objs b = Canon.look B.objs b := fun b hb => by
    rw [k2.keep _ (by omega), k1.keep _ (by rw [bump_next]; omega)]
    rfl
  have hnb5 : Canon.look C2.objs (B.next + 5) = none := by rw [hk12 _ (by omega)]; exact hB.wf.none (by omega)
  obtain ⟨C3, p3, w3, n3, l3, kp3⟩ := place_al k2.wf (b := B.next + 5) (by omega) hnb5 [.int .i64 0, .slice none 0 0, .slice none 0 0] 24
  have hC3 : Nx B.next B C3 := ⟨by omega, w3, fun b hb => by rw [kp3 _ (by omega), hk12 _ (by omega)]⟩
  have F3 := hF _ hC3
  have hnb4 : Canon.look C3.objs (B.next + 4) = none := by rw [kp3 _ (by omega), hk12 _ (by omega)]; exact hB.wf.none (by omega)
  obtain ⟨C4, p4, w4, n4, l4, kp4⟩ := place_al w3 (b := B.next + 4) (by omega) hnb4 [.int .i64 0, .slice none 0 0, .slice none 0 0] 24
  have hC4 : Nx B.next B C4 := ⟨by omega, w4, fun b hb => by rw [kp4 _ (by omega)]; exact hC3.keep _ hb⟩
  have F4 := hF _ hC4
  obtain ⟨C5, c5, q1, q2, q3, q4⟩ := sts_upd (l := [.int .i64 x.m, .slice xa x.st.length xc, .slice xr x.ro.length xd]) (o := 0) l4 rfl (by simp) rfl
  have n5 := q2.next
  have hC5 : Nx B.next B C5 := ⟨by omega, (q2.nx w4 (Nat.zero_le _)).wf, fun b hb => by rw [q2.off _ (by omega)]; exact hC4.keep _ hb⟩
  have F5 := hF _ hC5
  refine DrL.eff (by rfl) (by rfl) (pd1 := [(5, ⟨[.int .i64 0, .slice none 0 0, .slice none 0 0], 24, .ptr⟩), (4, ⟨[.int .i64 0, .slice none 0 0, .slice none 0 0], 24, .ptr⟩)]) (pd2 := []) (by kernel_rfl) (by kernel_rfl) (ms0 := [C2, C3]) (A0 := C4) (by simp only [placeAll, p3, p4]) (fun M hM => by
      rcases List.mem_cons.1 hM with rfl | hM
      · exact F2
      · rw [List.mem_singleton] at hM; rw [hM]; exact F3) F4 (by rfl)
    (v := undef) (A1 := C5) (opRun_op rfl (fx_ok (by rfl) (by simp only [sev_tmp, sg_eq, sg_ne, sp_n, Nat.reduceLT, ne_eq, Nat.reduceEqDiff, not_false_eq_true, fx, str, adr_p, Nat.zero_add, Nat.reduceAdd, tk24, hn, FK.val, q1, List.size_toArray, List.length_cons, List.length_nil, Nat.beq_refl]))) ?_
  have l5 : Canon.look C5.objs (B.next + 5) = _ := (q2.off _ (by omega)).trans ((kp4 _ (by omega)).trans l3)
  obtain ⟨C6, c6, r1, r2, r3, r4⟩ := sts_upd (l := [.int .i64 y.m, .slice ya y.st.length yc, .slice yr y.ro.length yd]) (o := 0) l5 rfl (by simp) rfl
  have hn6 := r2.next
  refine DrL.eff (by rfl) (by rfl) (pd1 := []) (pd2 := []) (by kernel_rfl) (by kernel_rfl) (ms0 := []) (A0 := C5) rfl (fun _ h => by cases h) F5 (by rfl)
    (v := undef) (A1 := C6) (opRun_op rfl (fx_ok (by rfl) (by simp only [sev_tmp, sg_eq, sg_ne, sp_n, sp_none, Nat.reduceLT, ne_eq, Nat.reduceEqDiff, not_false_eq_true, fx, str, adr_p, Nat.zero_add, Nat.reduceAdd, tk24, hn, FK.val, r1, List.size_toArray, List.length_cons, List.length_nil, Nat.beq_refl]))) ?_
  refine DrL.nil ⟨by rfl, C6, by rfl, ?_⟩
  have hC6 : Nx B.next B C6 := ⟨by omega, (r2.nx hC5.wf (Nat.zero_le _)).wf, fun b hb => by rw [r2.off _ (by omega)]; exact hC5.keep _ hb⟩
  have hoff : ∀ b, b ≠ B.next + 4 → b ≠ B.next + 5 → Canon.look C6.objs b = Canon.look C2.objs b := fun b h4 h5 => by rw [r2.off _ h5, q2.off _ h4, kp4 _ h4, kp3 _ h5]
  have hext2 : ∀ b, (0 : Nat) ≤ b → Canon.look C2.objs b = none ∨ Canon.look C6.objs b = Canon.look C2.objs b := fun b _ => by
    by_cases h4 : b = B.next + 4
    · exact .inl (by rw [h4, hk12 _ (by omega)]; exact hB.wf.none (by omega))
    · by_cases h5 : b = B.next + 5
      · exact .inl (h5 ▸ hnb5)
      · exact .inr (hoff b h4 h5)
  have hext1 : ∀ b, (0 : Nat) ≤ b → Canon.look C1.objs b = none ∨ Canon.look C6.objs b = Canon.look C1.objs b := fun b hb => by
    by_cases hlt : b < C1.next
    · rcases hext2 b hb with h | h
      · rw [k2.keep _ hlt] at h; exact .inl h
      · exact .inr (h.trans (k2.keep _ hlt))
    · exact .inl (k1.wf.none (by omega))
  have g0 : cl C6 (B.next + 4) 0 = some (.int .i64 x.m) := by rw [cl_look (r2.off _ (by omega)), q2.cl, q4]; rfl
  have g1 : cl C6 (B.next + 4) 1 = some (.slice xa x.st.length xc) := by rw [cl_look (r2.off _ (by omega)), q2.cl, q4]; rfl
  have g2 : cl C6 (B.next + 4) 2 = some (.slice xr x.ro.length xd) := by rw [cl_look (r2.off _ (by omega)), q2.cl, q4]; rfl
  have f0 : cl C6 (B.next + 5) 0 = some (.int .i64 y.m) := by rw [r2.cl, r4]; rfl
  have f1 : cl C6 (B.next + 5) 1 = some (.slice ya y.st.length yc) := by rw [r2.cl, r4]; rfl
  have f2 : cl C6 (B.next + 5) 2 = some (.slice yr y.ro.length yd) := by rw [r2.cl, r4]; rfl
  have j1 := y1.ext hext1
  have j2 := y2.ext hext1
  have j3 := y3.ext hext2
  have j4 := y4.ext hext2
  refine hk _ C6 (B.next + 4) (B.next + 5) ⟨x.m, xa, xc, x.st, xr, xd, x.ro⟩ ⟨y.m, ya, yc, y.st, yr, yd, y.ro⟩ hC6
    { c0 := g0, c1 := g1, c2 := g2, ok := ⟨i1.ext hext1 (by omega), i2.ext hext1 (by omega), show x.st.length < _ by omega, show x.ro.length < _ by omega⟩, lt := by omega, ls := ls, lr := lr, cs := hc1, cr := hc2, s1 := fun _ => j1, s2 := fun _ => j2 }
    { c0 := f0, c1 := f1, c2 := f2, ok := ⟨i3.ext hext2 (by omega), i4.ext hext2 (by omega), show y.st.length < _ by omega, show y.ro.length < _ by omega⟩, lt := by omega, ls := ls', lr := lr', cs := hc3, cr := hc4, s1 := fun _ => j3, s2 := fun _ => j4 }
    ⟨rfl, rfl, rfl⟩ ⟨rfl, rfl, rfl⟩ j1 j3 (by simp only [sp_n, sp_none, hn]) (by simp only [sg_ne, sp_none, ne_eq, Nat.reduceEqDiff, not_false_eq_true, s2]) (by simp only [sg_ne, sp_none, ne_eq, Nat.reduceEqDiff, not_false_eq_true, s3]) (by simp only [sg_eq, sg_ne, sp_n, sp_none, Nat.reduceLT, ne_eq, Nat.reduceEqDiff, not_false_eq_true, hn]; rfl) (by simp only [sg_eq, sp_n, sp_none, Nat.reduceLT, hn]; rfl)
end Go.Proofs.Ytdaljohmfnfgiaa
/- LassoChecks: both sides tell the same. No condition. -/
namespace Go.Proofs.Ytdaljohmfnfgiaa
open Go Go.RowKit Go.Proofs.Ytdaljohmfnfgiaa.Canon
set_option maxRecDepth 20000

theorem eqb (b : Bool) (A : AHeap) : bin Try.prog .eql 4 (.bool b) (.bool b) A = some (.bool true, A) := by
  have h : aeql Try.prog 4 (.bool b) (.bool b) = some true := by cases b <;> kernel_rfl
  show (aeql Try.prog 4 (.bool b) (.bool b)).map (fun b => (Value.bool b, A)) = _
  rw [h]
  rfl
def cS3 (e : Int) : Canon.Spec := fun g _ A v A1 => match g with
  | 26 => v = .bool true ∧ Nx A.next A A1
  | _ => v = .int .i64 e ∧ Nx A.next A A1

/-- What Same and Apart come to. -/
def SameP (x y : Las) (v : Value) : Prop := (errs [x, y] [x, y] = 0 → ∃ b, v = .tuple #[.bool b, .int .i64 0] ∧ (b = true ↔ ∀ n, x.s n = y.s n)) ∧ (errs [x, y] [x, y] ≠ 0 → v = .tuple #[.bool false, .int .i64 (errs [x, y] [x, y])])
def ApartP (x y : Las) (v : Value) : Prop := (errs [x, y] [x, y] = 0 → ApartQ x.s y.s v) ∧ (errs [x, y] [x, y] ≠ 0 → v = .tuple #[.int .i64 0, .int .i64 (errs [x, y] [x, y])])
theorem SameP.two {x y : Las} {v : Value} (h : SameP x y v) : ∃ b e, v = .tuple #[.bool b, .int .i64 e] := by
  obtain ⟨b, e, h1, _⟩ := same_tw (x := x) (y := y) ⟨rfl, rfl, rfl⟩ ⟨rfl, rfl, rfl⟩ h h
  exact ⟨b, e, h1⟩
theorem ApartP.two {x y : Las} {v : Value} (h : ApartP x y v) : ∃ n e, v = .tuple #[.int .i64 n, .int .i64 e] := by
  obtain ⟨b, e, h1, _⟩ := apart_tw (x := x) (y := y) ⟨rfl, rfl, rfl⟩ ⟨rfl, rfl, rfl⟩ h h
  exact ⟨b, e, h1⟩
theorem SameP.eq {x x' y y' : Las} (tx : Tw x x') (ty : Tw y y') {v w : Value} (h : SameP x y v) (k : SameP x' y' w) : w = v := by
  obtain ⟨b, e, h1, h2⟩ := same_tw tx ty h k
  rw [h1, h2]
theorem ApartP.eq {x x' y y' : Las} (tx : Tw x x') (ty : Tw y y') {v w : Value} (h : ApartP x y v) (k : ApartP x' y' w) : w = v := by
  obtain ⟨b, e, h1, h2⟩ := apart_tw tx ty h k
  rw [h1, h2]
theorem Wrt.nx {A B : AHeap} {a : Option Addr} {lo hi n : Nat} (h : Wrt A a lo hi n) (hw : WF A) (k : Nx A.next A B) : Wrt B a lo B.next n := fun hpos => by
  obtain ⟨b, o, c, t, f, g, e, h1, h2, h3, h4, h5⟩ := h hpos
  have hb := hw _ _ h3
  exact ⟨b, o, c, t, f, g, e, h1, ⟨h2.1, Nat.lt_of_lt_of_le hb k.next⟩, by rw [k.keep _ hb]; exact h3, h4, h5⟩
theorem same_true {A : AHeap} (hw : WF A) {x x' : Las} (hx : x.ok A) (hx' : x'.ok A) (t : Tw x' x) : Con Try.prog 26 [x'.v, x.v] A (fun v A1 => v = .bool true ∧ Nx A.next A A1) := by
  obtain ⟨a1, a2, a3, a4⟩ := hx
  obtain ⟨b1, b2, b3, b4⟩ := hx'
  refine Con.mono (same_lasso hw b1 b2 a1 a2 b3 b4 a3 a4) fun v A1 h => ⟨?_, h.2⟩
  rw [h.1, t.1, t.2.1, t.2.2]
  simp
theorem checks_rest {A C : AHeap} (hC : Nx A.next A C) {bX bY bx by' : Nat} {x y x' y' : Las} (hX : Has C bX x) (hY : Has C bY y) (hx' : Has C bx x') (hy' : Has C by' y') (tx : Tw x' x) (ty : Tw y' y) (sx : Sl C x'.sa 0)
    {s : Slots} (hn : s.n = 116) (s2 : sget s 2 = .pointer (some ⟨bX, 0, none⟩)) (s3 : sget s 3 = .pointer (some ⟨bY, 0, none⟩)) (s5 : sget s 5 = .pointer (some ⟨bx, 0, none⟩)) (s6 : sget s 6 = .pointer (some ⟨by', 0, none⟩)) :
    Rn Try.prog 3 none [.code (restN 3 (Try.f3.body.getD .skip))] s [] C (endQ Try.prog Try.f3 (fun w A1 => w = .bool true ∧ Nx A.next A A1)) := by
  have ls := hX.ls
  have lr := hX.lr
  have ls' := hY.ls
  have lr' := hY.lr
  have mls := hx'.ls
  have mlr := hx'.lr
  have nls := hy'.ls
  have nlr := hy'.lr
  refine Rn.seq hc ?_
  have g0 := hx'.c0
  have g1 := hx'.c1
  have g2 := hx'.c2
  obtain ⟨o1, o2, o3, o4⟩ := hx'.ok
  refine Rn.region hc fun K hK => ?_
  refine Wo.run hc 1 rfl rfl rfl ?_
  simp (maxSteps := 2000000) only [List.drop_zero, List.take_succ_cons, List.take_zero, sev_tmp, gd, want_free, rops, fx, ld, adr_p, cls, Nat.zero_add, Option.some.injEq, exists_eq_left', Nat.reduceAdd, tk24, s5, g0, g1, g2]
  refine Wo.call hc (by rfl) (by rfl) ⟨by rfl, by rfl⟩ (xs := [.agg #[.int .i64 x'.m, .slice x'.sa x'.st.length x'.sc, .slice x'.ra x'.ro.length x'.rc]]) (by first | rfl | (simp only [sev_tmp, sev_const, sev_func, sg_eq, sg_ne, sp_n, sp_none, Nat.reduceLT, ne_eq, Nat.reduceEqDiff, not_false_eq_true, gd, nth, want_free, want_slot, beqB, List.map_cons, List.map_nil, Array.toList_empty, List.nil_append, List.append_nil, List.cons_append, hn]; done) | (simp only [sev_tmp, sev_const, sev_func, sg_eq, sg_ne, sp_n, sp_none, Nat.reduceLT, ne_eq, Nat.reduceEqDiff, not_false_eq_true, gd, nth, want_free, want_slot, beqB, List.map_cons, List.map_nil, Array.toList_empty, List.nil_append, List.append_nil, List.cons_append, hn]; rfl)) (by first | rfl | (simp only [sev_tmp, sev_const, sev_func, sg_eq, sg_ne, sp_n, sp_none, Nat.reduceLT, ne_eq, Nat.reduceEqDiff, not_false_eq_true, gd, nth, want_free, want_slot, beqB, List.map_cons, List.map_nil, Array.toList_empty, List.nil_append, List.append_nil, List.cons_append, hn]; done) | (simp only [sev_tmp, sev_const, sev_func, sg_eq, sg_ne, sp_n, sp_none, Nat.reduceLT, ne_eq, Nat.reduceEqDiff, not_false_eq_true, gd, nth, want_free, want_slot, beqB, List.map_cons, List.map_nil, Array.toList_empty, List.nil_append, List.append_nil, List.cons_append, hn]; rfl)) (by first | rfl | (simp only [sev_tmp, sg_eq, Nat.reduceLT, List.map_cons, List.map_nil, List.nil_append, List.append_nil, hn]; done) | (simp only [sev_tmp, sev_const, sev_func, sg_eq, sg_ne, sp_n, sp_none, Nat.reduceLT, ne_eq, Nat.reduceEqDiff, not_false_eq_true, gd, nth, want_free, want_slot, beqB, List.map_cons, List.map_nil, Array.toList_empty, List.nil_append, List.append_nil, List.cons_append, hn]; rfl)) (Con.mono (least_of hC.wf o1 o2 o3 o4 sx hx'.cs) ?_)
  rintro w D1 hq
  obtain ⟨hD1, mm, L1, L2, ee, p1, c1, p2, c2, hLP, rfl, i1, i2, w1, w2⟩ := least_told hq
  clear hq
  obtain ⟨D2, q2, hx2, hn2, e0, e1, e2⟩ := put24 hD1.wf (v0 := .int .i64 mm) (v1 := .slice p1 L1.length c1) (v2 := .slice p2 L2.length c2) rfl
  refine Wo.run hc 6 rfl rfl rfl ?_
  simp (maxSteps := 2000000) only [List.drop_zero, List.drop_succ_cons, List.take_succ_cons, List.take_zero, sev_tmp, sg_eq, sg_ne, sp_n, sp_none, Nat.reduceLT, ne_eq, Nat.reduceEqDiff, not_false_eq_true, gd, want_free, rops, fx, str, ext, adr_p, List.getElem?_toArray, List.getElem?_cons_zero, List.getElem?_cons_succ, Nat.zero_add, Option.some.injEq, exists_eq_left', Value.cells, Nat.reduceAdd, tk24, hn, ext, ze24, q2, List.size_toArray, List.length_cons, List.length_nil, Nat.beq_refl]
  refine Wo.done hc rfl (hK _ _ ?_)
  clear hK
  refine Rn.seq hc ?_
  have hCD2 : Nx C.next C D2 := hD1.trans (hx2.le hD1.next)
  have i1 := (i1.nx hx2 (Nat.le_refl _)).mono (Nat.le_refl _) hx2.next
  have i2 := (i2.nx hx2 (Nat.le_refl _)).mono (Nat.le_refl _) hx2.next
  have hXd := hX.nx hC.wf hCD2
  have g0 := hXd.c0
  have g1 := hXd.c1
  have g2 := hXd.c2
  obtain ⟨o1, o2, o3, o4⟩ := hXd.ok
  refine Rn.region hc fun K hK => ?_
  refine Wo.run hc 1 rfl rfl rfl ?_
  simp (maxSteps := 2000000) only [List.drop_zero, List.take_succ_cons, List.take_zero, sev_tmp, sg_ne, ne_eq, Nat.reduceEqDiff, not_false_eq_true, gd, want_free, rops, fx, ld, adr_p, cls, Nat.zero_add, Option.some.injEq, exists_eq_left', Nat.reduceAdd, tk24, s2, g0, g1, g2]
  refine Wo.call hc (by rfl) (by rfl) ⟨by rfl, by rfl⟩ (xs := [.agg #[.int .i64 x.m, .slice x.sa x.st.length x.sc, .slice x.ra x.ro.length x.rc]]) (by first | rfl | (simp only [sev_tmp, sev_const, sev_func, sg_eq, sg_ne, sp_n, sp_none, Nat.reduceLT, ne_eq, Nat.reduceEqDiff, not_false_eq_true, gd, nth, want_free, want_slot, beqB, List.map_cons, List.map_nil, Array.toList_empty, List.nil_append, List.append_nil, List.cons_append, hn]; done) | (simp only [sev_tmp, sev_const, sev_func, sg_eq, sg_ne, sp_n, sp_none, Nat.reduceLT, ne_eq, Nat.reduceEqDiff, not_false_eq_true, gd, nth, want_free, want_slot, beqB, List.map_cons, List.map_nil, Array.toList_empty, List.nil_append, List.append_nil, List.cons_append, hn]; rfl)) (by first | rfl | (simp only [sev_tmp, sev_const, sev_func, sg_eq, sg_ne, sp_n, sp_none, Nat.reduceLT, ne_eq, Nat.reduceEqDiff, not_false_eq_true, gd, nth, want_free, want_slot, beqB, List.map_cons, List.map_nil, Array.toList_empty, List.nil_append, List.append_nil, List.cons_append, hn]; done) | (simp only [sev_tmp, sev_const, sev_func, sg_eq, sg_ne, sp_n, sp_none, Nat.reduceLT, ne_eq, Nat.reduceEqDiff, not_false_eq_true, gd, nth, want_free, want_slot, beqB, List.map_cons, List.map_nil, Array.toList_empty, List.nil_append, List.append_nil, List.cons_append, hn]; rfl)) (by first | rfl | (simp only [sev_tmp, sg_eq, sp_n, Nat.reduceLT, List.map_cons, List.map_nil, List.nil_append, List.append_nil, hn]; done) | (simp only [sev_tmp, sev_const, sev_func, sg_eq, sg_ne, sp_n, sp_none, Nat.reduceLT, ne_eq, Nat.reduceEqDiff, not_false_eq_true, gd, nth, want_free, want_slot, beqB, List.map_cons, List.map_nil, Array.toList_empty, List.nil_append, List.append_nil, List.cons_append, hn]; rfl)) (Con.mono (least_ref hCD2.wf o1 o2 o3 o4 hXd.s2 hXd.cr) ?_)
  rintro w D3 hq
  obtain ⟨hD3, mm', L1', L2', ee', p3, c3, p4, c4, hLP', rfl, i3, i4⟩ := least_toldR hq
  clear hq
  have hLL := hLP
  rw [tx.1, tx.2.1, tx.2.2] at hLL
  obtain ⟨rfl, rfl, rfl, rfl⟩ := hLL.uniq hLP'
  clear hLL hLP'
  obtain ⟨hl1, hl2⟩ := hLP.len
  obtain ⟨D4, q4, hx4, hn4, f0, f1, f2⟩ := put24 hD3.wf (v0 := .int .i64 mm) (v1 := .slice p3 L1.length c3) (v2 := .slice p4 L2.length c4) rfl
  refine Wo.run hc 6 rfl rfl rfl ?_
  simp (maxSteps := 2000000) only [List.drop_zero, List.drop_succ_cons, List.take_succ_cons, List.take_zero, sev_tmp, sg_eq, sg_ne, sp_n, sp_none, Nat.reduceLT, ne_eq, Nat.reduceEqDiff, not_false_eq_true, gd, want_free, rops, fx, str, ext, adr_p, List.getElem?_toArray, List.getElem?_cons_zero, List.getElem?_cons_succ, Nat.zero_add, Option.some.injEq, exists_eq_left', Value.cells, Nat.reduceAdd, tk24, hn, ext, ze24, q4, List.size_toArray, List.length_cons, List.length_nil, Nat.beq_refl]
  refine Wo.done hc rfl (hK _ _ ?_)
  clear hK
  refine Rn.seq hc ?_
  have hD24 : Nx D2.next D2 D4 := hD3.trans (hx4.le hD3.next)
  have hCD4 : Nx C.next C D4 := hCD2.trans (hD24.le hCD2.next)
  have n12 : D1.next < D2.next := by omega
  have n34 : D3.next < D4.next := by omega
  have nC1 := hD1.next
  have n23 := hD3.next
  have e0 := (hD24.cl n12 0).trans e0
  have e1 := (hD24.cl n12 1).trans e1
  have e2 := (hD24.cl n12 2).trans e2
  have i1 := (i1.nx hD24 (Nat.le_refl _)).mono (Nat.le_refl _) hD24.next
  have i2 := (i2.nx hD24 (Nat.le_refl _)).mono (Nat.le_refl _) hD24.next
  have i3 := (i3.nx hx4 (Nat.le_refl _)).mono (Nat.le_refl _) hx4.next
  have i4 := (i4.nx hx4 (Nat.le_refl _)).mono (Nat.le_refl _) hx4.next
  have hX4 := hX.nx hC.wf hCD4
  have hY4 := hY.nx hC.wf hCD4
  have hx4' := hx'.nx hC.wf hCD4
  have hy4' := hy'.nx hC.wf hCD4
  have hx14 : Nx D1.next D1 D4 := hx2.trans (hD24.le hx2.next)
  clear hXd g0 g1 g2 o1 o2 o3 o4 q2 q4 hx2 hx4
  -- Same, twice
  have g0 := hx4'.c0
  have g1 := hx4'.c1
  have g2 := hx4'.c2
  have h0 := hy4'.c0
  have h1 := hy4'.c1
  have h2 := hy4'.c2
  refine Rn.region hc fun K hK => ?_
  refine Wo.run hc 2 rfl rfl rfl ?_
  simp (maxSteps := 2000000) only [List.drop_zero, List.take_succ_cons, List.take_zero, sev_tmp, sg_ne, ne_eq, Nat.reduceEqDiff, not_false_eq_true, gd, want_free, rops, fx, ld, adr_p, cls, Nat.zero_add, Option.some.injEq, exists_eq_left', Nat.reduceAdd, tk24, s5, s6, g0, g1, g2, h0, h1, h2]
  refine Wo.call hc (by rfl) (by rfl) ⟨by rfl, by rfl⟩ (xs := [x'.v, y'.v]) (by rfl) (by rfl) (by simp only [sev_tmp, sg_eq, sg_ne, sp_n, Nat.reduceLT, ne_eq, Nat.reduceEqDiff, not_false_eq_true, List.map_cons, List.map_nil, List.nil_append, List.append_nil, hn]; rfl) (Con.mono (same_run hCD4.wf hx4'.ok hy4'.ok) ?_)
  rintro w D5 ⟨k5, hq1⟩
  have hq1 : SameP x' y' w := hq1
  obtain ⟨sb, se, rfl⟩ := hq1.two
  refine Wo.run hc 5 rfl rfl rfl ?_
  simp (maxSteps := 2000000) only [List.drop_zero, List.drop_succ_cons, List.take_succ_cons, List.take_zero, sev_tmp, sg_eq, sg_ne, sp_n, Nat.reduceLT, ne_eq, Nat.reduceEqDiff, not_false_eq_true, gd, want_free, rops, fx, ext, List.getElem?_toArray, List.getElem?_cons_zero, List.getElem?_cons_succ, Option.some.injEq, exists_eq_left', Nat.reduceAdd, hn, ext]
  refine Wo.done hc rfl (hK _ _ ?_)
  clear hK
  refine Rn.seq hc ?_
  have hX5 := hX4.nx hCD4.wf k5
  have hY5 := hY4.nx hCD4.wf k5
  have g0 := hX5.c0
  have g1 := hX5.c1
  have g2 := hX5.c2
  have h0 := hY5.c0
  have h1 := hY5.c1
  have h2 := hY5.c2
  refine Rn.region hc fun K hK => ?_
  refine Wo.run hc 2 rfl rfl rfl ?_
  simp (maxSteps := 2000000) only [List.drop_zero, List.take_succ_cons, List.take_zero, sev_tmp, sg_ne, ne_eq, Nat.reduceEqDiff, not_false_eq_true, gd, want_free, rops, fx, ld, adr_p, cls, Nat.zero_add, Option.some.injEq, exists_eq_left', Nat.reduceAdd, tk24, s2, s3, g0, g1, g2, h0, h1, h2]
  refine Wo.call hc (by rfl) (by rfl) ⟨by rfl, by rfl⟩ (xs := [x.v, y.v]) (by rfl) (by rfl) (by simp only [sev_tmp, sg_eq, sg_ne, sp_n, Nat.reduceLT, ne_eq, Nat.reduceEqDiff, not_false_eq_true, List.map_cons, List.map_nil, List.nil_append, List.append_nil, hn]; rfl) (Con.mono (same_ref k5.wf hX5.ok hY5.ok) ?_)
  rintro w D6 ⟨k6, hq2⟩
  have hq2 : SameP x y w := hq2
  have := hq1.eq tx ty hq2
  subst this
  refine Wo.run hc 5 rfl rfl rfl ?_
  simp (maxSteps := 2000000) only [List.drop_zero, List.drop_succ_cons, List.take_succ_cons, List.take_zero, sev_tmp, sg_eq, sg_ne, sp_n, Nat.reduceLT, ne_eq, Nat.reduceEqDiff, not_false_eq_true, gd, want_free, rops, fx, ext, List.getElem?_toArray, List.getElem?_cons_zero, List.getElem?_cons_succ, Option.some.injEq, exists_eq_left', Nat.reduceAdd, hn, ext]
  refine Wo.done hc rfl (hK _ _ ?_)
  clear hK hq1 hq2
  refine Rn.seq hc ?_
  have hD46 : Nx D4.next D4 D6 := k5.trans (k6.le k5.next)
  have hx6 := hx4'.nx hCD4.wf hD46
  have hy6 := hy4'.nx hCD4.wf hD46
  have g0 := hx6.c0
  have g1 := hx6.c1
  have g2 := hx6.c2
  have h0 := hy6.c0
  have h1 := hy6.c1
  have h2 := hy6.c2
  refine Rn.region hc fun K hK => ?_
  refine Wo.run hc 2 rfl rfl rfl ?_
  simp (maxSteps := 2000000) only [List.drop_zero, List.take_succ_cons, List.take_zero, sev_tmp, sg_ne, ne_eq, Nat.reduceEqDiff, not_false_eq_true, gd, want_free, rops, fx, ld, adr_p, cls, Nat.zero_add, Option.some.injEq, exists_eq_left', Nat.reduceAdd, tk24, s5, s6, g0, g1, g2, h0, h1, h2]
  refine Wo.call hc (by rfl) (by rfl) ⟨by rfl, by rfl⟩ (xs := [x'.v, y'.v]) (by rfl) (by rfl) (by simp only [sev_tmp, sg_eq, sg_ne, sp_n, Nat.reduceLT, ne_eq, Nat.reduceEqDiff, not_false_eq_true, List.map_cons, List.map_nil, List.nil_append, List.append_nil, hn]; rfl) (Con.mono (apart_run k6.wf hx6.ok hy6.ok) ?_)
  rintro w D7 ⟨k7, hq1⟩
  have hq1 : ApartP x' y' w := hq1
  obtain ⟨an, ae, rfl⟩ := hq1.two
  refine Wo.run hc 5 rfl rfl rfl ?_
  simp (maxSteps := 2000000) only [List.drop_zero, List.drop_succ_cons, List.take_succ_cons, List.take_zero, sev_tmp, sg_eq, sg_ne, sp_n, Nat.reduceLT, ne_eq, Nat.reduceEqDiff, not_false_eq_true, gd, want_free, rops, fx, ext, List.getElem?_toArray, List.getElem?_cons_zero, List.getElem?_cons_succ, Option.some.injEq, exists_eq_left', Nat.reduceAdd, hn, ext]
  refine Wo.done hc rfl (hK _ _ ?_)
  clear hK
  refine Rn.seq hc ?_
  have hX7 := (hX5.nx k5.wf k6).nx k6.wf k7
  have hY7 := (hY5.nx k5.wf k6).nx k6.wf k7
  have g0 := hX7.c0
  have g1 := hX7.c1
  have g2 := hX7.c2
  have h0 := hY7.c0
  have h1 := hY7.c1
  have h2 := hY7.c2
  refine Rn.region hc fun K hK => ?_
  refine Wo.run hc 2 rfl rfl rfl ?_
  simp (maxSteps := 2000000) only [List.drop_zero, List.take_succ_cons, List.take_zero, sev_tmp, sg_ne, ne_eq, Nat.reduceEqDiff, not_false_eq_true, gd, want_free, rops, fx, ld, adr_p, cls, Nat.zero_add, Option.some.injEq, exists_eq_left', Nat.reduceAdd, tk24, s2, s3, g0, g1, g2, h0, h1, h2]
  refine Wo.call hc (by rfl) (by rfl) ⟨by rfl, by rfl⟩ (xs := [x.v, y.v]) (by rfl) (by rfl) (by simp only [sev_tmp, sg_eq, sg_ne, sp_n, Nat.reduceLT, ne_eq, Nat.reduceEqDiff, not_false_eq_true, List.map_cons, List.map_nil, List.nil_append, List.append_nil, hn]; rfl) (Con.mono (apart_ref k7.wf hX7.ok hY7.ok) ?_)
  rintro w D8 ⟨k8, hq2⟩
  have hq2 : ApartP x y w := hq2
  have := hq1.eq tx ty hq2
  subst this
  refine Wo.run hc 5 rfl rfl rfl ?_
  simp (maxSteps := 2000000) only [List.drop_zero, List.drop_succ_cons, List.take_succ_cons, List.take_zero, sev_tmp, sg_eq, sg_ne, sp_n, Nat.reduceLT, ne_eq, Nat.reduceEqDiff, not_false_eq_true, gd, want_free, rops, fx, ext, List.getElem?_toArray, List.getElem?_cons_zero, List.getElem?_cons_succ, Option.some.injEq, exists_eq_left', Nat.reduceAdd, hn, ext]
  refine Wo.done hc rfl (hK _ _ ?_)
  clear hK hq1 hq2
  refine Rn.seq hc ?_
  have hD68 : Nx D6.next D6 D8 := k7.trans (k8.le k7.next)
  have hD48 : Nx D4.next D4 D8 := hD46.trans (hD68.le hD46.next)
  have hCD8 : Nx C.next C D8 := hCD4.trans (hD48.le hCD4.next)
  have hx2D : Nx D1.next D1 D8 := hx14.trans (hD48.le hx14.next)
  have hX8 := hX.nx hC.wf hCD8
  have hY8 := hY.nx hC.wf hCD8
  have hx8 := hx'.nx hC.wf hCD8
  have hy8 := hy'.nx hC.wf hCD8
  have n24 : D1.next < D4.next := by have := hD24.next; omega
  have e0 := (hD48.cl n24 0).trans e0
  have e1 := (hD48.cl n24 1).trans e1
  have e2 := (hD48.cl n24 2).trans e2
  have f0 := (hD48.cl n34 0).trans f0
  have f1 := (hD48.cl n34 1).trans f1
  have f2 := (hD48.cl n34 2).trans f2
  have i1 := (i1.nx hD48 (Nat.le_refl _)).mono (Nat.le_refl _) hD48.next
  have i2 := (i2.nx hD48 (Nat.le_refl _)).mono (Nat.le_refl _) hD48.next
  have i3 := (i3.nx hD48 (Nat.le_refl _)).mono (Nat.le_refl _) hD48.next
  have i4 := (i4.nx hD48 (Nat.le_refl _)).mono (Nat.le_refl _) hD48.next
  refine Rn.slots (I := fun s => s.n = 116 ∧ sget s 2 = .pointer (some ⟨bX, 0, none⟩) ∧ sget s 3 = .pointer (some ⟨bY, 0, none⟩) ∧ sget s 5 = .pointer (some ⟨bx, 0, none⟩) ∧ sget s 6 = .pointer (some ⟨by', 0, none⟩) ∧ sget s 7 = .pointer (some ⟨D1.next, 0, none⟩) ∧ sget s 8 = .int .i64 ee ∧ sget s 9 = .pointer (some ⟨D3.next, 0, none⟩) ∧ sget s 10 = .int .i64 ee ∧ sget s 11 = .bool sb ∧ sget s 12 = .int .i64 se ∧ sget s 13 = .bool sb ∧ sget s 14 = .int .i64 se ∧ sget s 15 = .int .i64 an ∧ sget s 16 = .int .i64 ae ∧ sget s 17 = .int .i64 an ∧ sget s 18 = .int .i64 ae)
    ⟨by simp only [sp_n, hn], by simp only [sg_ne, ne_eq, Nat.reduceEqDiff, not_false_eq_true, s2], by simp only [sg_ne, ne_eq, Nat.reduceEqDiff, not_false_eq_true, s3], by simp only [sg_ne, ne_eq, Nat.reduceEqDiff, not_false_eq_true, s5], by simp only [sg_ne, ne_eq, Nat.reduceEqDiff, not_false_eq_true, s6], by simp only [sg_eq, sg_ne, sp_n, Nat.reduceLT, ne_eq, Nat.reduceEqDiff, not_false_eq_true, hn], by simp only [sg_eq, sg_ne, sp_n, Nat.reduceLT, ne_eq, Nat.reduceEqDiff, not_false_eq_true, hn], by simp only [sg_eq, sg_ne, sp_n, Nat.reduceLT, ne_eq, Nat.reduceEqDiff, not_false_eq_true, hn], by simp only [sg_eq, sg_ne, sp_n, Nat.reduceLT, ne_eq, Nat.reduceEqDiff, not_false_eq_true, hn], by simp only [sg_eq, sg_ne, sp_n, Nat.reduceLT, ne_eq, Nat.reduceEqDiff, not_false_eq_true, hn], by simp only [sg_eq, sg_ne, sp_n, Nat.reduceLT, ne_eq, Nat.reduceEqDiff, not_false_eq_true, hn], by simp only [sg_eq, sg_ne, sp_n, Nat.reduceLT, ne_eq, Nat.reduceEqDiff, not_false_eq_true, hn], by simp only [sg_eq, sg_ne, sp_n, Nat.reduceLT, ne_eq, Nat.reduceEqDiff, not_false_eq_true, hn], by simp only [sg_eq, sg_ne, sp_n, Nat.reduceLT, ne_eq, Nat.reduceEqDiff, not_false_eq_true, hn], by simp only [sg_eq, sg_ne, sp_n, Nat.reduceLT, ne_eq, Nat.reduceEqDiff, not_false_eq_true, hn], by simp only [sg_eq, sg_ne, sp_n, Nat.reduceLT, ne_eq, Nat.reduceEqDiff, not_false_eq_true, hn], by simp only [sg_eq, sp_n, Nat.reduceLT, hn]⟩ ?_
  clear hn s2 s3 s5 s6 s hX4 hY4 hx4' hy4' hX5 hY5 hX7 hY7 hx6 hy6 g0 g1 g2 h0 h1 h2
  rintro s ⟨hn, s2, s3, s5, s6, s7, s8, s9, s10, s11, s12, s13, s14, s15, s16, s17, s18⟩
  obtain ⟨F, hFb, hF⟩ : ∃ F : AHeap → Prop, (∀ M, F M → ∀ b, b < D8.next → ∀ o, cl M b o = cl D8 b o) ∧ (∀ M, Nx D8.next D8 M → F M) := ⟨fun M => Nx D8.next D8 M, fun M h b hb o => h.cl hb o, fun _ h => h⟩
  have n18 : D1.next < D8.next := by have := hD48.next; omega
  have n38 : D3.next < D8.next := by have := hD48.next; omega
  have G0 := fun M hM => (hFb M hM _ hx8.lt 0).trans hx8.c0
  have G1 := fun M hM => (hFb M hM _ hx8.lt 1).trans hx8.c1
  have G2 := fun M hM => (hFb M hM _ hx8.lt 2).trans hx8.c2
  have H0 := fun M hM => (hFb M hM _ hX8.lt 0).trans hX8.c0
  have H1 := fun M hM => (hFb M hM _ hX8.lt 1).trans hX8.c1
  have H2 := fun M hM => (hFb M hM _ hX8.lt 2).trans hX8.c2
  have E0 := fun M hM => (hFb M hM _ n18 0).trans e0
  have E1 := fun M hM => (hFb M hM _ n18 1).trans e1
  have E2 := fun M hM => (hFb M hM _ n18 2).trans e2
  have F0 := fun M hM => (hFb M hM _ n38 0).trans f0
  have F1 := fun M hM => (hFb M hM _ n38 1).trans f1
  have F2 := fun M hM => (hFb M hM _ n38 2).trans f2
  have hbk : Nx D8.next D8 (bump D8 36) := Nx.bump (Nx.refl hCD8.wf _) 36
  have FB := hF _ hbk
  obtain ⟨err, herr⟩ : ∃ err, err = errL x.m x.st x.ro := ⟨_, rfl⟩
  have herr' : errL x'.m x'.st x'.ro = err := by rw [tx.1, tx.2.1, tx.2.2, herr]
  have hx9 := hx8.nx hCD8.wf hbk
  obtain ⟨o1, o2, o3, o4⟩ := hx9.ok
  refine Rn.cut2 hc (Q1 := fun s ds D => ds = [] ∧ Nx D8.next D8 D ∧ s.n = 116 ∧ sget s 2 = .pointer (some ⟨bX, 0, none⟩) ∧ sget s 3 = .pointer (some ⟨bY, 0, none⟩) ∧ sget s 5 = .pointer (some ⟨bx, 0, none⟩) ∧ sget s 6 = .pointer (some ⟨by', 0, none⟩) ∧ sget s 7 = .pointer (some ⟨D1.next, 0, none⟩) ∧ sget s 19 = .bool true)
    (Q2 := fun _ _ _ => False) ?_ ?_ ?_
  · refine Rn.drawnF hc hx (cS3 err) F (n := 3) (k := 36) (by kernel_rfl) (by kernel_rfl) (by rfl) ?_
    refine Dr.read (by first | rfl | kernel_rfl) (by first | rfl | (simp only [sev_tmp, sev_const, sev_func, sg_eq, sg_ne, sp_n, sp_none, Nat.reduceLT, ne_eq, Nat.reduceEqDiff, not_false_eq_true, gd, nth, want_free, want_slot, beqB, List.map_cons, List.map_nil, Array.toList_empty, List.nil_append, List.append_nil, List.cons_append, hn]; done) | (simp only [sev_tmp, sev_const, sev_func, sg_eq, sg_ne, sp_n, sp_none, Nat.reduceLT, ne_eq, Nat.reduceEqDiff, not_false_eq_true, gd, nth, want_free, want_slot, beqB, List.map_cons, List.map_nil, Array.toList_empty, List.nil_append, List.append_nil, List.cons_append, hn]; rfl)) (by assumption) (fun M hM => by simp only [sev_tmp, fx, ld, adr_p, cls, Nat.zero_add, Nat.reduceAdd, tk24, s5, G0 M hM, G1 M hM, G2 M hM] <;> rfl) (by rfl) (by first | exact VQ.int _ _ | exact VQ.bool _ | exact VQ.ptr _ _ | exact VQ.slice _ _ _ | exact VQ.func (by simp [vq_int, vq_ptr, vq_slice]) (by simp [vq_int, vq_ptr, vq_slice]) | exact VQ.agg (by simp [vq_int, vq_slice]) | exact VQ.tuple (by simp [vq_int, vq_ptr, vq_slice])) ?_
    refine Dr.call (by kernel_rfl) (by rfl) (by assumption) (by rfl) (opRun_call (by rfl) ⟨by rfl, by rfl⟩ (by rfl) (xs := [.agg #[.int .i64 x'.m, .slice x'.sa x'.st.length x'.sc, .slice x'.ra x'.ro.length x'.rc]]) (by simp only [sev_tmp, sg_eq, Nat.reduceLT, List.map_cons, List.map_nil, List.nil_append, List.append_nil, hn]) (Con.mono (check_one hbk.wf o1 o2 o3 o4) (fun v A1 h => (⟨by rw [h.1, herr'], h.2⟩ : v = .int .i64 err ∧ Nx (bump D8 36).next (bump D8 36) A1)))) ?_
    rintro v M1 ⟨rfl, k1⟩
    have hM1 : Nx D8.next D8 M1 := hbk.trans (k1.le hbk.next)
    have FM1 := hF _ hM1
    have hX9 := hX8.nx hCD8.wf hM1
    obtain ⟨o1, o2, o3, o4⟩ := hX9.ok
    refine Dr.read (by first | rfl | kernel_rfl) (by first | rfl | (simp only [sev_tmp, sev_const, sev_func, sg_eq, sg_ne, sp_n, sp_none, Nat.reduceLT, ne_eq, Nat.reduceEqDiff, not_false_eq_true, gd, nth, want_free, want_slot, beqB, List.map_cons, List.map_nil, Array.toList_empty, List.nil_append, List.append_nil, List.cons_append, hn]; done) | (simp only [sev_tmp, sev_const, sev_func, sg_eq, sg_ne, sp_n, sp_none, Nat.reduceLT, ne_eq, Nat.reduceEqDiff, not_false_eq_true, gd, nth, want_free, want_slot, beqB, List.map_cons, List.map_nil, Array.toList_empty, List.nil_append, List.append_nil, List.cons_append, hn]; rfl)) (by assumption) (fun M hM => by simp only [sev_tmp, sg_ne, ne_eq, Nat.reduceEqDiff, not_false_eq_true, fx, ld, adr_p, cls, Nat.zero_add, Nat.reduceAdd, tk24, s2, H0 M hM, H1 M hM, H2 M hM] <;> rfl) (by rfl) (by first | exact VQ.int _ _ | exact VQ.bool _ | exact VQ.ptr _ _ | exact VQ.slice _ _ _ | exact VQ.func (by simp [vq_int, vq_ptr, vq_slice]) (by simp [vq_int, vq_ptr, vq_slice]) | exact VQ.agg (by simp [vq_int, vq_slice]) | exact VQ.tuple (by simp [vq_int, vq_ptr, vq_slice])) ?_
    refine Dr.call (by kernel_rfl) (by rfl) (by assumption) (by rfl) (opRun_call (by rfl) ⟨by rfl, by rfl⟩ (by rfl) (xs := [.agg #[.int .i64 x.m, .slice x.sa x.st.length x.sc, .slice x.ra x.ro.length x.rc]]) (by simp only [sev_tmp, sg_eq, sp_n, Nat.reduceLT, List.map_cons, List.map_nil, List.nil_append, List.append_nil, hn]) (Con.mono (check_ref hM1.wf o1 o2 o3 o4) (fun v A1 h => (⟨by rw [h.1, herr], h.2⟩ : v = .int .i64 err ∧ Nx M1.next M1 A1)))) ?_
    rintro v M2 ⟨rfl, k2⟩
    have hM2 : Nx D8.next D8 M2 := hM1.trans (k2.le hM1.next)
    have FM2 := hF _ hM2
    refine Dr.read (by first | rfl | kernel_rfl) (by first | rfl | (simp only [sev_tmp, sev_const, sev_func, sg_eq, sg_ne, sp_n, sp_none, Nat.reduceLT, ne_eq, Nat.reduceEqDiff, not_false_eq_true, gd, nth, want_free, want_slot, beqB, List.map_cons, List.map_nil, Array.toList_empty, List.nil_append, List.append_nil, List.cons_append, hn, eq_self, decide_true]; done) | (simp only [sev_tmp, sev_const, sev_func, sg_eq, sg_ne, sp_n, sp_none, Nat.reduceLT, ne_eq, Nat.reduceEqDiff, not_false_eq_true, gd, nth, want_free, want_slot, beqB, List.map_cons, List.map_nil, Array.toList_empty, List.nil_append, List.append_nil, List.cons_append, hn, eq_self, decide_true]; rfl)) (by assumption) (fun M hM => by simp only [sev_tmp, sg_eq, sg_ne, sp_n, Nat.reduceLT, ne_eq, Nat.reduceEqDiff, not_false_eq_true, fx, bin_eql, hn, eq_self, decide_true] <;> rfl) (by rfl) (by first | exact VQ.int _ _ | exact VQ.bool _ | exact VQ.ptr _ _ | exact VQ.slice _ _ _ | exact VQ.func (by simp [vq_int, vq_ptr, vq_slice]) (by simp [vq_int, vq_ptr, vq_slice]) | exact VQ.agg (by simp [vq_int, vq_ptr, vq_slice]) | exact VQ.tuple (by simp [vq_int, vq_ptr, vq_slice])) ?_
    refine Dr.read (by first | rfl | kernel_rfl) (by first | rfl | (simp only [sev_tmp, sev_const, sev_func, sg_eq, sg_ne, sp_n, sp_none, Nat.reduceLT, ne_eq, Nat.reduceEqDiff, not_false_eq_true, gd, nth, want_free, want_slot, beqB, List.map_cons, List.map_nil, Array.toList_empty, List.nil_append, List.append_nil, List.cons_append, hn, eq_self, decide_true]; done) | (simp only [sev_tmp, sev_const, sev_func, sg_eq, sg_ne, sp_n, sp_none, Nat.reduceLT, ne_eq, Nat.reduceEqDiff, not_false_eq_true, gd, nth, want_free, want_slot, beqB, List.map_cons, List.map_nil, Array.toList_empty, List.nil_append, List.append_nil, List.cons_append, hn, eq_self, decide_true]; rfl)) (by assumption) (fun M hM => by simp only [sev_tmp, sg_eq, sp_n, Nat.reduceLT, fx, hn] <;> rfl) (by rfl) (by first | exact VQ.int _ _ | exact VQ.bool _ | exact VQ.ptr _ _ | exact VQ.slice _ _ _ | exact VQ.func (by simp [vq_int, vq_ptr, vq_slice]) (by simp [vq_int, vq_ptr, vq_slice]) | exact VQ.agg (by simp [vq_int, vq_ptr, vq_slice]) | exact VQ.tuple (by simp [vq_int, vq_ptr, vq_slice])) ?_
    refine Dr.read (by first | rfl | kernel_rfl) (by first | rfl | (simp only [sg_eq, sp_n, Nat.reduceLT, gd, nth, want_slot, beqB, hn, eq_self]; done) | (simp only [sev_tmp, sev_const, sev_func, sg_eq, sg_ne, sp_n, sp_none, Nat.reduceLT, ne_eq, Nat.reduceEqDiff, not_false_eq_true, gd, nth, want_free, want_slot, beqB, List.map_cons, List.map_nil, Array.toList_empty, List.nil_append, List.append_nil, List.cons_append, hn, eq_self, decide_true]; rfl)) (by assumption) (fun M hM => by simp only [sev_tmp, sg_ne, ne_eq, Nat.reduceEqDiff, not_false_eq_true, fx, ld, adr_p, cls, Nat.zero_add, Nat.reduceAdd, tk24, s7, E0 M hM, E1 M hM, E2 M hM] <;> rfl) (by rfl) (by first | exact VQ.int _ _ | exact VQ.bool _ | exact VQ.ptr _ _ | exact VQ.slice _ _ _ | exact VQ.func (by simp [vq_int, vq_ptr, vq_slice]) (by simp [vq_int, vq_ptr, vq_slice]) | exact VQ.agg (by simp [vq_int, vq_slice]) | exact VQ.tuple (by simp [vq_int, vq_ptr, vq_slice])) ?_
    refine Dr.read (by first | rfl | kernel_rfl) (by first | rfl | (simp only [sg_eq, sg_ne, sp_n, Nat.reduceLT, ne_eq, Nat.reduceEqDiff, not_false_eq_true, gd, nth, want_slot, beqB, hn, eq_self]; done) | (simp only [sev_tmp, sev_const, sev_func, sg_eq, sg_ne, sp_n, sp_none, Nat.reduceLT, ne_eq, Nat.reduceEqDiff, not_false_eq_true, gd, nth, want_free, want_slot, beqB, List.map_cons, List.map_nil, Array.toList_empty, List.nil_append, List.append_nil, List.cons_append, hn, eq_self, decide_true]; rfl)) (by assumption) (fun M hM => by simp only [sev_tmp, sg_ne, ne_eq, Nat.reduceEqDiff, not_false_eq_true, fx, ld, adr_p, cls, Nat.zero_add, Nat.reduceAdd, tk24, s9, F0 M hM, F1 M hM, F2 M hM] <;> rfl) (by rfl) (by first | exact VQ.int _ _ | exact VQ.bool _ | exact VQ.ptr _ _ | exact VQ.slice _ _ _ | exact VQ.func (by simp [vq_int, vq_ptr, vq_slice]) (by simp [vq_int, vq_ptr, vq_slice]) | exact VQ.agg (by simp [vq_int, vq_slice]) | exact VQ.tuple (by simp [vq_int, vq_ptr, vq_slice])) ?_
    have i1 := (i1.nx hM2 (Nat.le_refl _)).mono (Nat.le_refl _) hM2.next
    have i2 := (i2.nx hM2 (Nat.le_refl _)).mono (Nat.le_refl _) hM2.next
    have i3 := (i3.nx hM2 (Nat.le_refl _)).mono (Nat.le_refl _) hM2.next
    have i4 := (i4.nx hM2 (Nat.le_refl _)).mono (Nat.le_refl _) hM2.next
    refine Dr.call (by kernel_rfl) (by rfl) (by assumption) (by simp only [sg_eq, sg_ne, sp_n, Nat.reduceLT, ne_eq, Nat.reduceEqDiff, not_false_eq_true, gd, nth, want_slot, beqB, hn]) (opRun_call (by rfl) ⟨by rfl, by rfl⟩ (by rfl) (xs := [.agg #[.int .i64 mm, .slice p1 L1.length c1, .slice p2 L2.length c2], .agg #[.int .i64 mm, .slice p3 L1.length c3, .slice p4 L2.length c4]]) (by simp only [sev_tmp, sg_eq, sg_ne, sp_n, Nat.reduceLT, ne_eq, Nat.reduceEqDiff, not_false_eq_true, List.map_cons, List.map_nil, List.nil_append, List.append_nil, hn]) (Con.mono (same_lasso hM2.wf i1 i2 i3 i4 (by omega) (by omega) (by omega) (by omega)) (fun v A1 h => (⟨by rw [h.1]; simp, h.2⟩ : v = .bool true ∧ Nx M2.next M2 A1)))) ?_
    rintro v M3 ⟨rfl, k3⟩
    have hM3 : Nx D8.next D8 M3 := hM2.trans (k3.le hM2.next)
    have FM3 := hF _ hM3
    refine Dr.read (by first | rfl | kernel_rfl) (by first | rfl | (simp only [sev_tmp, sev_const, sev_func, sg_eq, sg_ne, sp_n, sp_none, Nat.reduceLT, ne_eq, Nat.reduceEqDiff, not_false_eq_true, gd, nth, want_free, want_slot, beqB, List.map_cons, List.map_nil, Array.toList_empty, List.nil_append, List.append_nil, List.cons_append, hn]; done) | (simp only [sev_tmp, sev_const, sev_func, sg_eq, sg_ne, sp_n, sp_none, Nat.reduceLT, ne_eq, Nat.reduceEqDiff, not_false_eq_true, gd, nth, want_free, want_slot, beqB, List.map_cons, List.map_nil, Array.toList_empty, List.nil_append, List.append_nil, List.cons_append, hn]; rfl)) (by assumption) (fun M hM => by simp only [sev_tmp, sg_eq, sg_ne, sp_n, Nat.reduceLT, ne_eq, Nat.reduceEqDiff, not_false_eq_true, fx, pck, hn] <;> rfl) (by rfl) (by first | exact VQ.int _ _ | exact VQ.bool _ | exact VQ.ptr _ _ | exact VQ.slice _ _ _ | exact VQ.func (by simp [vq_int, vq_ptr, vq_slice]) (by simp [vq_int, vq_ptr, vq_slice]) | exact VQ.agg (by simp [vq_int, vq_ptr, vq_slice]) | exact VQ.tuple (by simp [vq_int, vq_ptr, vq_slice])) ?_
    refine Dr.read (by first | rfl | kernel_rfl) (by first | rfl | (simp only [sev_tmp, sev_const, sev_func, sg_eq, sg_ne, sp_n, sp_none, Nat.reduceLT, ne_eq, Nat.reduceEqDiff, not_false_eq_true, gd, nth, want_free, want_slot, beqB, List.map_cons, List.map_nil, Array.toList_empty, List.nil_append, List.append_nil, List.cons_append, hn]; done) | (simp only [sev_tmp, sev_const, sev_func, sg_eq, sg_ne, sp_n, sp_none, Nat.reduceLT, ne_eq, Nat.reduceEqDiff, not_false_eq_true, gd, nth, want_free, want_slot, beqB, List.map_cons, List.map_nil, Array.toList_empty, List.nil_append, List.append_nil, List.cons_append, hn]; rfl)) (by assumption) (fun M hM => by simp only [sev_tmp, sg_eq, sp_n, Nat.reduceLT, fx, hn] <;> rfl) (by rfl) (by first | exact VQ.int _ _ | exact VQ.bool _ | exact VQ.ptr _ _ | exact VQ.slice _ _ _ | exact VQ.func (by simp [vq_int, vq_ptr, vq_slice]) (by simp [vq_int, vq_ptr, vq_slice]) | exact VQ.agg (by simp [vq_int, vq_ptr, vq_slice]) | exact VQ.tuple (by simp [vq_int, vq_ptr, vq_slice])) ?_
    refine Dr.read (by first | rfl | kernel_rfl) (by first | rfl | (simp only [sg_eq, sp_n, Nat.reduceLT, gd, nth, want_slot, beqB, hn]; done) | (simp only [sev_tmp, sev_const, sev_func, sg_eq, sg_ne, sp_n, sp_none, Nat.reduceLT, ne_eq, Nat.reduceEqDiff, not_false_eq_true, gd, nth, want_free, want_slot, beqB, List.map_cons, List.map_nil, Array.toList_empty, List.nil_append, List.append_nil, List.cons_append, hn]; rfl)) (by assumption) (fun M hM => by simp only [sev_tmp, sg_ne, ne_eq, Nat.reduceEqDiff, not_false_eq_true, fx, s8] <;> rfl) (by rfl) (by first | exact VQ.int _ _ | exact VQ.bool _ | exact VQ.ptr _ _ | exact VQ.slice _ _ _ | exact VQ.func (by simp [vq_int, vq_ptr, vq_slice]) (by simp [vq_int, vq_ptr, vq_slice]) | exact VQ.agg (by simp [vq_int, vq_ptr, vq_slice]) | exact VQ.tuple (by simp [vq_int, vq_ptr, vq_slice])) ?_
    refine Dr.read (by first | rfl | kernel_rfl) (by first | rfl | (simp only [sg_eq, sg_ne, sp_n, Nat.reduceLT, ne_eq, Nat.reduceEqDiff, not_false_eq_true, gd, nth, want_slot, beqB, hn]; done) | (simp only [sev_tmp, sev_const, sev_func, sg_eq, sg_ne, sp_n, sp_none, Nat.reduceLT, ne_eq, Nat.reduceEqDiff, not_false_eq_true, gd, nth, want_free, want_slot, beqB, List.map_cons, List.map_nil, Array.toList_empty, List.nil_append, List.append_nil, List.cons_append, hn]; rfl)) (by assumption) (fun M hM => by simp only [sev_tmp, sg_ne, ne_eq, Nat.reduceEqDiff, not_false_eq_true, fx, s10] <;> rfl) (by rfl) (by first | exact VQ.int _ _ | exact VQ.bool _ | exact VQ.ptr _ _ | exact VQ.slice _ _ _ | exact VQ.func (by simp [vq_int, vq_ptr, vq_slice]) (by simp [vq_int, vq_ptr, vq_slice]) | exact VQ.agg (by simp [vq_int, vq_ptr, vq_slice]) | exact VQ.tuple (by simp [vq_int, vq_ptr, vq_slice])) ?_
    refine Dr.read (by first | rfl | kernel_rfl) (by first | rfl | (simp only [sg_eq, sg_ne, sp_n, Nat.reduceLT, ne_eq, Nat.reduceEqDiff, not_false_eq_true, gd, nth, want_slot, beqB, hn]; done) | (simp only [sev_tmp, sev_const, sev_func, sg_eq, sg_ne, sp_n, sp_none, Nat.reduceLT, ne_eq, Nat.reduceEqDiff, not_false_eq_true, gd, nth, want_free, want_slot, beqB, List.map_cons, List.map_nil, Array.toList_empty, List.nil_append, List.append_nil, List.cons_append, hn]; rfl)) (by assumption) (fun M hM => by simp only [sev_tmp, sg_eq, sg_ne, sp_n, Nat.reduceLT, ne_eq, Nat.reduceEqDiff, not_false_eq_true, fx, bin_eql, hn, eq_self, decide_true] <;> rfl) (by rfl) (by first | exact VQ.int _ _ | exact VQ.bool _ | exact VQ.ptr _ _ | exact VQ.slice _ _ _ | exact VQ.func (by simp [vq_int, vq_ptr, vq_slice]) (by simp [vq_int, vq_ptr, vq_slice]) | exact VQ.agg (by simp [vq_int, vq_ptr, vq_slice]) | exact VQ.tuple (by simp [vq_int, vq_ptr, vq_slice])) ?_
    refine Dr.read (by first | rfl | kernel_rfl) (by first | rfl | (simp only [sev_tmp, sev_const, sev_func, sg_eq, sg_ne, sp_n, sp_none, Nat.reduceLT, ne_eq, Nat.reduceEqDiff, not_false_eq_true, gd, nth, want_free, want_slot, beqB, List.map_cons, List.map_nil, Array.toList_empty, List.nil_append, List.append_nil, List.cons_append, hn]; done) | (simp only [sev_tmp, sev_const, sev_func, sg_eq, sg_ne, sp_n, sp_none, Nat.reduceLT, ne_eq, Nat.reduceEqDiff, not_false_eq_true, gd, nth, want_free, want_slot, beqB, List.map_cons, List.map_nil, Array.toList_empty, List.nil_append, List.append_nil, List.cons_append, hn]; rfl)) (by assumption) (fun M hM => by simp only [sev_tmp, sg_eq, sg_ne, sp_n, Nat.reduceLT, ne_eq, Nat.reduceEqDiff, not_false_eq_true, fx, pck, hn] <;> rfl) (by rfl) (by first | exact VQ.int _ _ | exact VQ.bool _ | exact VQ.ptr _ _ | exact VQ.slice _ _ _ | exact VQ.func (by simp [vq_int, vq_ptr, vq_slice]) (by simp [vq_int, vq_ptr, vq_slice]) | exact VQ.agg (by simp [vq_int, vq_ptr, vq_slice]) | exact VQ.tuple (by simp [vq_int, vq_ptr, vq_slice])) ?_
    refine Dr.read (by first | rfl | kernel_rfl) (by first | rfl | (simp only [sev_tmp, sev_const, sev_func, sg_eq, sg_ne, sp_n, sp_none, Nat.reduceLT, ne_eq, Nat.reduceEqDiff, not_false_eq_true, gd, nth, want_free, want_slot, beqB, List.map_cons, List.map_nil, Array.toList_empty, List.nil_append, List.append_nil, List.cons_append, hn]; done) | (simp only [sev_tmp, sev_const, sev_func, sg_eq, sg_ne, sp_n, sp_none, Nat.reduceLT, ne_eq, Nat.reduceEqDiff, not_false_eq_true, gd, nth, want_free, want_slot, beqB, List.map_cons, List.map_nil, Array.toList_empty, List.nil_append, List.append_nil, List.cons_append, hn]; rfl)) (by assumption) (fun M hM => by simp only [sev_tmp, sg_eq, sp_n, Nat.reduceLT, fx, hn] <;> rfl) (by rfl) (by first | exact VQ.int _ _ | exact VQ.bool _ | exact VQ.ptr _ _ | exact VQ.slice _ _ _ | exact VQ.func (by simp [vq_int, vq_ptr, vq_slice]) (by simp [vq_int, vq_ptr, vq_slice]) | exact VQ.agg (by simp [vq_int, vq_ptr, vq_slice]) | exact VQ.tuple (by simp [vq_int, vq_ptr, vq_slice])) ?_
    refine Dr.read (by first | rfl | kernel_rfl) (by first | rfl | (simp only [sg_eq, sp_n, Nat.reduceLT, gd, nth, want_slot, beqB, hn]; done) | (simp only [sev_tmp, sev_const, sev_func, sg_eq, sg_ne, sp_n, sp_none, Nat.reduceLT, ne_eq, Nat.reduceEqDiff, not_false_eq_true, gd, nth, want_free, want_slot, beqB, List.map_cons, List.map_nil, Array.toList_empty, List.nil_append, List.append_nil, List.cons_append, hn]; rfl)) (by assumption) (fun M hM => by simp only [sev_tmp, sg_ne, ne_eq, Nat.reduceEqDiff, not_false_eq_true, fx, s11] <;> rfl) (by rfl) (by first | exact VQ.int _ _ | exact VQ.bool _ | exact VQ.ptr _ _ | exact VQ.slice _ _ _ | exact VQ.func (by simp [vq_int, vq_ptr, vq_slice]) (by simp [vq_int, vq_ptr, vq_slice]) | exact VQ.agg (by simp [vq_int, vq_ptr, vq_slice]) | exact VQ.tuple (by simp [vq_int, vq_ptr, vq_slice])) ?_
    refine Dr.read (by first | rfl | kernel_rfl) (by first | rfl | (simp only [sg_eq, sg_ne, sp_n, Nat.reduceLT, ne_eq, Nat.reduceEqDiff, not_false_eq_true, gd, nth, want_slot, beqB, hn]; done) | (simp only [sev_tmp, sev_const, sev_func, sg_eq, sg_ne, sp_n, sp_none, Nat.reduceLT, ne_eq, Nat.reduceEqDiff, not_false_eq_true, gd, nth, want_free, want_slot, beqB, List.map_cons, List.map_nil, Array.toList_empty, List.nil_append, List.append_nil, List.cons_append, hn]; rfl)) (by assumption) (fun M hM => by simp only [sev_tmp, sg_ne, ne_eq, Nat.reduceEqDiff, not_false_eq_true, fx, s13] <;> rfl) (by rfl) (by first | exact VQ.int _ _ | exact VQ.bool _ | exact VQ.ptr _ _ | exact VQ.slice _ _ _ | exact VQ.func (by simp [vq_int, vq_ptr, vq_slice]) (by simp [vq_int, vq_ptr, vq_slice]) | exact VQ.agg (by simp [vq_int, vq_ptr, vq_slice]) | exact VQ.tuple (by simp [vq_int, vq_ptr, vq_slice])) ?_
    refine Dr.read (by first | rfl | kernel_rfl) (by first | rfl | (simp only [sg_eq, sg_ne, sp_n, Nat.reduceLT, ne_eq, Nat.reduceEqDiff, not_false_eq_true, gd, nth, want_slot, beqB, hn]; done) | (simp only [sev_tmp, sev_const, sev_func, sg_eq, sg_ne, sp_n, sp_none, Nat.reduceLT, ne_eq, Nat.reduceEqDiff, not_false_eq_true, gd, nth, want_free, want_slot, beqB, List.map_cons, List.map_nil, Array.toList_empty, List.nil_append, List.append_nil, List.cons_append, hn]; rfl)) (by assumption) (fun M hM => by simp only [sev_tmp, sg_eq, sg_ne, sp_n, Nat.reduceLT, ne_eq, Nat.reduceEqDiff, not_false_eq_true, fx, hn, eqb] <;> rfl) (by rfl) (by first | exact VQ.int _ _ | exact VQ.bool _ | exact VQ.ptr _ _ | exact VQ.slice _ _ _ | exact VQ.func (by simp [vq_int, vq_ptr, vq_slice]) (by simp [vq_int, vq_ptr, vq_slice]) | exact VQ.agg (by simp [vq_int, vq_ptr, vq_slice]) | exact VQ.tuple (by simp [vq_int, vq_ptr, vq_slice])) ?_
    refine Dr.read (by first | rfl | kernel_rfl) (by first | rfl | (simp only [sev_tmp, sev_const, sev_func, sg_eq, sg_ne, sp_n, sp_none, Nat.reduceLT, ne_eq, Nat.reduceEqDiff, not_false_eq_true, gd, nth, want_free, want_slot, beqB, List.map_cons, List.map_nil, Array.toList_empty, List.nil_append, List.append_nil, List.cons_append, hn]; done) | (simp only [sev_tmp, sev_const, sev_func, sg_eq, sg_ne, sp_n, sp_none, Nat.reduceLT, ne_eq, Nat.reduceEqDiff, not_false_eq_true, gd, nth, want_free, want_slot, beqB, List.map_cons, List.map_nil, Array.toList_empty, List.nil_append, List.append_nil, List.cons_append, hn]; rfl)) (by assumption) (fun M hM => by simp only [sev_tmp, sg_eq, sg_ne, sp_n, Nat.reduceLT, ne_eq, Nat.reduceEqDiff, not_false_eq_true, fx, pck, hn] <;> rfl) (by rfl) (by first | exact VQ.int _ _ | exact VQ.bool _ | exact VQ.ptr _ _ | exact VQ.slice _ _ _ | exact VQ.func (by simp [vq_int, vq_ptr, vq_slice]) (by simp [vq_int, vq_ptr, vq_slice]) | exact VQ.agg (by simp [vq_int, vq_ptr, vq_slice]) | exact VQ.tuple (by simp [vq_int, vq_ptr, vq_slice])) ?_
    refine Dr.read (by first | rfl | kernel_rfl) (by first | rfl | (simp only [sev_tmp, sev_const, sev_func, sg_eq, sg_ne, sp_n, sp_none, Nat.reduceLT, ne_eq, Nat.reduceEqDiff, not_false_eq_true, gd, nth, want_free, want_slot, beqB, List.map_cons, List.map_nil, Array.toList_empty, List.nil_append, List.append_nil, List.cons_append, hn]; done) | (simp only [sev_tmp, sev_const, sev_func, sg_eq, sg_ne, sp_n, sp_none, Nat.reduceLT, ne_eq, Nat.reduceEqDiff, not_false_eq_true, gd, nth, want_free, want_slot, beqB, List.map_cons, List.map_nil, Array.toList_empty, List.nil_append, List.append_nil, List.cons_append, hn]; rfl)) (by assumption) (fun M hM => by simp only [sev_tmp, sg_eq, sp_n, Nat.reduceLT, fx, hn] <;> rfl) (by rfl) (by first | exact VQ.int _ _ | exact VQ.bool _ | exact VQ.ptr _ _ | exact VQ.slice _ _ _ | exact VQ.func (by simp [vq_int, vq_ptr, vq_slice]) (by simp [vq_int, vq_ptr, vq_slice]) | exact VQ.agg (by simp [vq_int, vq_ptr, vq_slice]) | exact VQ.tuple (by simp [vq_int, vq_ptr, vq_slice])) ?_
    refine Dr.read (by first | rfl | kernel_rfl) (by first | rfl | (simp only [sg_eq, sp_n, Nat.reduceLT, gd, nth, want_slot, beqB, hn]; done) | (simp only [sev_tmp, sev_const, sev_func, sg_eq, sg_ne, sp_n, sp_none, Nat.reduceLT, ne_eq, Nat.reduceEqDiff, not_false_eq_true, gd, nth, want_free, want_slot, beqB, List.map_cons, List.map_nil, Array.toList_empty, List.nil_append, List.append_nil, List.cons_append, hn]; rfl)) (by assumption) (fun M hM => by simp only [sev_tmp, sg_ne, ne_eq, Nat.reduceEqDiff, not_false_eq_true, fx, s12] <;> rfl) (by rfl) (by first | exact VQ.int _ _ | exact VQ.bool _ | exact VQ.ptr _ _ | exact VQ.slice _ _ _ | exact VQ.func (by simp [vq_int, vq_ptr, vq_slice]) (by simp [vq_int, vq_ptr, vq_slice]) | exact VQ.agg (by simp [vq_int, vq_ptr, vq_slice]) | exact VQ.tuple (by simp [vq_int, vq_ptr, vq_slice])) ?_
    refine Dr.read (by first | rfl | kernel_rfl) (by first | rfl | (simp only [sg_eq, sg_ne, sp_n, Nat.reduceLT, ne_eq, Nat.reduceEqDiff, not_false_eq_true, gd, nth, want_slot, beqB, hn]; done) | (simp only [sev_tmp, sev_const, sev_func, sg_eq, sg_ne, sp_n, sp_none, Nat.reduceLT, ne_eq, Nat.reduceEqDiff, not_false_eq_true, gd, nth, want_free, want_slot, beqB, List.map_cons, List.map_nil, Array.toList_empty, List.nil_append, List.append_nil, List.cons_append, hn]; rfl)) (by assumption) (fun M hM => by simp only [sev_tmp, sg_ne, ne_eq, Nat.reduceEqDiff, not_false_eq_true, fx, s14] <;> rfl) (by rfl) (by first | exact VQ.int _ _ | exact VQ.bool _ | exact VQ.ptr _ _ | exact VQ.slice _ _ _ | exact VQ.func (by simp [vq_int, vq_ptr, vq_slice]) (by simp [vq_int, vq_ptr, vq_slice]) | exact VQ.agg (by simp [vq_int, vq_ptr, vq_slice]) | exact VQ.tuple (by simp [vq_int, vq_ptr, vq_slice])) ?_
    refine Dr.read (by first | rfl | kernel_rfl) (by first | rfl | (simp only [sg_eq, sg_ne, sp_n, Nat.reduceLT, ne_eq, Nat.reduceEqDiff, not_false_eq_true, gd, nth, want_slot, beqB, hn]; done) | (simp only [sev_tmp, sev_const, sev_func, sg_eq, sg_ne, sp_n, sp_none, Nat.reduceLT, ne_eq, Nat.reduceEqDiff, not_false_eq_true, gd, nth, want_free, want_slot, beqB, List.map_cons, List.map_nil, Array.toList_empty, List.nil_append, List.append_nil, List.cons_append, hn]; rfl)) (by assumption) (fun M hM => by simp only [sev_tmp, sg_eq, sg_ne, sp_n, Nat.reduceLT, ne_eq, Nat.reduceEqDiff, not_false_eq_true, fx, bin_eql, hn, eq_self, decide_true] <;> rfl) (by rfl) (by first | exact VQ.int _ _ | exact VQ.bool _ | exact VQ.ptr _ _ | exact VQ.slice _ _ _ | exact VQ.func (by simp [vq_int, vq_ptr, vq_slice]) (by simp [vq_int, vq_ptr, vq_slice]) | exact VQ.agg (by simp [vq_int, vq_ptr, vq_slice]) | exact VQ.tuple (by simp [vq_int, vq_ptr, vq_slice])) ?_
    refine Dr.read (by first | rfl | kernel_rfl) (by first | rfl | (simp only [sev_tmp, sev_const, sev_func, sg_eq, sg_ne, sp_n, sp_none, Nat.reduceLT, ne_eq, Nat.reduceEqDiff, not_false_eq_true, gd, nth, want_free, want_slot, beqB, List.map_cons, List.map_nil, Array.toList_empty, List.nil_append, List.append_nil, List.cons_append, hn]; done) | (simp only [sev_tmp, sev_const, sev_func, sg_eq, sg_ne, sp_n, sp_none, Nat.reduceLT, ne_eq, Nat.reduceEqDiff, not_false_eq_true, gd, nth, want_free, want_slot, beqB, List.map_cons, List.map_nil, Array.toList_empty, List.nil_append, List.append_nil, List.cons_append, hn]; rfl)) (by assumption) (fun M hM => by simp only [sev_tmp, sg_eq, sg_ne, sp_n, Nat.reduceLT, ne_eq, Nat.reduceEqDiff, not_false_eq_true, fx, pck, hn] <;> rfl) (by rfl) (by first | exact VQ.int _ _ | exact VQ.bool _ | exact VQ.ptr _ _ | exact VQ.slice _ _ _ | exact VQ.func (by simp [vq_int, vq_ptr, vq_slice]) (by simp [vq_int, vq_ptr, vq_slice]) | exact VQ.agg (by simp [vq_int, vq_ptr, vq_slice]) | exact VQ.tuple (by simp [vq_int, vq_ptr, vq_slice])) ?_
    refine Dr.read (by first | rfl | kernel_rfl) (by first | rfl | (simp only [sev_tmp, sev_const, sev_func, sg_eq, sg_ne, sp_n, sp_none, Nat.reduceLT, ne_eq, Nat.reduceEqDiff, not_false_eq_true, gd, nth, want_free, want_slot, beqB, List.map_cons, List.map_nil, Array.toList_empty, List.nil_append, List.append_nil, List.cons_append, hn]; done) | (simp only [sev_tmp, sev_const, sev_func, sg_eq, sg_ne, sp_n, sp_none, Nat.reduceLT, ne_eq, Nat.reduceEqDiff, not_false_eq_true, gd, nth, want_free, want_slot, beqB, List.map_cons, List.map_nil, Array.toList_empty, List.nil_append, List.append_nil, List.cons_append, hn]; rfl)) (by assumption) (fun M hM => by simp only [sev_tmp, sg_eq, sp_n, Nat.reduceLT, fx, hn] <;> rfl) (by rfl) (by first | exact VQ.int _ _ | exact VQ.bool _ | exact VQ.ptr _ _ | exact VQ.slice _ _ _ | exact VQ.func (by simp [vq_int, vq_ptr, vq_slice]) (by simp [vq_int, vq_ptr, vq_slice]) | exact VQ.agg (by simp [vq_int, vq_ptr, vq_slice]) | exact VQ.tuple (by simp [vq_int, vq_ptr, vq_slice])) ?_
    refine Dr.read (by first | rfl | kernel_rfl) (by first | rfl | (simp only [sg_eq, sp_n, Nat.reduceLT, gd, nth, want_slot, beqB, hn]; done) | (simp only [sev_tmp, sev_const, sev_func, sg_eq, sg_ne, sp_n, sp_none, Nat.reduceLT, ne_eq, Nat.reduceEqDiff, not_false_eq_true, gd, nth, want_free, want_slot, beqB, List.map_cons, List.map_nil, Array.toList_empty, List.nil_append, List.append_nil, List.cons_append, hn]; rfl)) (by assumption) (fun M hM => by simp only [sev_tmp, sg_ne, ne_eq, Nat.reduceEqDiff, not_false_eq_true, fx, s15] <;> rfl) (by rfl) (by first | exact VQ.int _ _ | exact VQ.bool _ | exact VQ.ptr _ _ | exact VQ.slice _ _ _ | exact VQ.func (by simp [vq_int, vq_ptr, vq_slice]) (by simp [vq_int, vq_ptr, vq_slice]) | exact VQ.agg (by simp [vq_int, vq_ptr, vq_slice]) | exact VQ.tuple (by simp [vq_int, vq_ptr, vq_slice])) ?_
    refine Dr.read (by first | rfl | kernel_rfl) (by first | rfl | (simp only [sg_eq, sg_ne, sp_n, Nat.reduceLT, ne_eq, Nat.reduceEqDiff, not_false_eq_true, gd, nth, want_slot, beqB, hn]; done) | (simp only [sev_tmp, sev_const, sev_func, sg_eq, sg_ne, sp_n, sp_none, Nat.reduceLT, ne_eq, Nat.reduceEqDiff, not_false_eq_true, gd, nth, want_free, want_slot, beqB, List.map_cons, List.map_nil, Array.toList_empty, List.nil_append, List.append_nil, List.cons_append, hn]; rfl)) (by assumption) (fun M hM => by simp only [sev_tmp, sg_ne, ne_eq, Nat.reduceEqDiff, not_false_eq_true, fx, s17] <;> rfl) (by rfl) (by first | exact VQ.int _ _ | exact VQ.bool _ | exact VQ.ptr _ _ | exact VQ.slice _ _ _ | exact VQ.func (by simp [vq_int, vq_ptr, vq_slice]) (by simp [vq_int, vq_ptr, vq_slice]) | exact VQ.agg (by simp [vq_int, vq_ptr, vq_slice]) | exact VQ.tuple (by simp [vq_int, vq_ptr, vq_slice])) ?_
    refine Dr.read (by first | rfl | kernel_rfl) (by first | rfl | (simp only [sg_eq, sg_ne, sp_n, Nat.reduceLT, ne_eq, Nat.reduceEqDiff, not_false_eq_true, gd, nth, want_slot, beqB, hn]; done) | (simp only [sev_tmp, sev_const, sev_func, sg_eq, sg_ne, sp_n, sp_none, Nat.reduceLT, ne_eq, Nat.reduceEqDiff, not_false_eq_true, gd, nth, want_free, want_slot, beqB, List.map_cons, List.map_nil, Array.toList_empty, List.nil_append, List.append_nil, List.cons_append, hn]; rfl)) (by assumption) (fun M hM => by simp only [sev_tmp, sg_eq, sg_ne, sp_n, Nat.reduceLT, ne_eq, Nat.reduceEqDiff, not_false_eq_true, fx, bin_eql, hn, eq_self, decide_true] <;> rfl) (by rfl) (by first | exact VQ.int _ _ | exact VQ.bool _ | exact VQ.ptr _ _ | exact VQ.slice _ _ _ | exact VQ.func (by simp [vq_int, vq_ptr, vq_slice]) (by simp [vq_int, vq_ptr, vq_slice]) | exact VQ.agg (by simp [vq_int, vq_ptr, vq_slice]) | exact VQ.tuple (by simp [vq_int, vq_ptr, vq_slice])) ?_
    refine Dr.read (by first | rfl | kernel_rfl) (by first | rfl | (simp only [sev_tmp, sev_const, sev_func, sg_eq, sg_ne, sp_n, sp_none, Nat.reduceLT, ne_eq, Nat.reduceEqDiff, not_false_eq_true, gd, nth, want_free, want_slot, beqB, List.map_cons, List.map_nil, Array.toList_empty, List.nil_append, List.append_nil, List.cons_append, hn]; done) | (simp only [sev_tmp, sev_const, sev_func, sg_eq, sg_ne, sp_n, sp_none, Nat.reduceLT, ne_eq, Nat.reduceEqDiff, not_false_eq_true, gd, nth, want_free, want_slot, beqB, List.map_cons, List.map_nil, Array.toList_empty, List.nil_append, List.append_nil, List.cons_append, hn]; rfl)) (by assumption) (fun M hM => by simp only [sev_tmp, sg_eq, sg_ne, sp_n, Nat.reduceLT, ne_eq, Nat.reduceEqDiff, not_false_eq_true, fx, pck, hn] <;> rfl) (by rfl) (by first | exact VQ.int _ _ | exact VQ.bool _ | exact VQ.ptr _ _ | exact VQ.slice _ _ _ | exact VQ.func (by simp [vq_int, vq_ptr, vq_slice]) (by simp [vq_int, vq_ptr, vq_slice]) | exact VQ.agg (by simp [vq_int, vq_ptr, vq_slice]) | exact VQ.tuple (by simp [vq_int, vq_ptr, vq_slice])) ?_
    refine Dr.read (by first | rfl | kernel_rfl) (by first | rfl | (simp only [sev_tmp, sev_const, sev_func, sg_eq, sg_ne, sp_n, sp_none, Nat.reduceLT, ne_eq, Nat.reduceEqDiff, not_false_eq_true, gd, nth, want_free, want_slot, beqB, List.map_cons, List.map_nil, Array.toList_empty, List.nil_append, List.append_nil, List.cons_append, hn]; done) | (simp only [sev_tmp, sev_const, sev_func, sg_eq, sg_ne, sp_n, sp_none, Nat.reduceLT, ne_eq, Nat.reduceEqDiff, not_false_eq_true, gd, nth, want_free, want_slot, beqB, List.map_cons, List.map_nil, Array.toList_empty, List.nil_append, List.append_nil, List.cons_append, hn]; rfl)) (by assumption) (fun M hM => by simp only [sev_tmp, sg_eq, sp_n, Nat.reduceLT, fx, hn] <;> rfl) (by rfl) (by first | exact VQ.int _ _ | exact VQ.bool _ | exact VQ.ptr _ _ | exact VQ.slice _ _ _ | exact VQ.func (by simp [vq_int, vq_ptr, vq_slice]) (by simp [vq_int, vq_ptr, vq_slice]) | exact VQ.agg (by simp [vq_int, vq_ptr, vq_slice]) | exact VQ.tuple (by simp [vq_int, vq_ptr, vq_slice])) ?_
    refine Dr.read (by first | rfl | kernel_rfl) (by first | rfl | (simp only [sg_eq, sp_n, Nat.reduceLT, gd, nth, want_slot, beqB, hn]; done) | (simp only [sev_tmp, sev_const, sev_func, sg_eq, sg_ne, sp_n, sp_none, Nat.reduceLT, ne_eq, Nat.reduceEqDiff, not_false_eq_true, gd, nth, want_free, want_slot, beqB, List.map_cons, List.map_nil, Array.toList_empty, List.nil_append, List.append_nil, List.cons_append, hn]; rfl)) (by assumption) (fun M hM => by simp only [sev_tmp, sg_ne, ne_eq, Nat.reduceEqDiff, not_false_eq_true, fx, s16] <;> rfl) (by rfl) (by first | exact VQ.int _ _ | exact VQ.bool _ | exact VQ.ptr _ _ | exact VQ.slice _ _ _ | exact VQ.func (by simp [vq_int, vq_ptr, vq_slice]) (by simp [vq_int, vq_ptr, vq_slice]) | exact VQ.agg (by simp [vq_int, vq_ptr, vq_slice]) | exact VQ.tuple (by simp [vq_int, vq_ptr, vq_slice])) ?_
    refine Dr.read (by first | rfl | kernel_rfl) (by first | rfl | (simp only [sg_eq, sg_ne, sp_n, Nat.reduceLT, ne_eq, Nat.reduceEqDiff, not_false_eq_true, gd, nth, want_slot, beqB, hn]; done) | (simp only [sev_tmp, sev_const, sev_func, sg_eq, sg_ne, sp_n, sp_none, Nat.reduceLT, ne_eq, Nat.reduceEqDiff, not_false_eq_true, gd, nth, want_free, want_slot, beqB, List.map_cons, List.map_nil, Array.toList_empty, List.nil_append, List.append_nil, List.cons_append, hn]; rfl)) (by assumption) (fun M hM => by simp only [sev_tmp, sg_ne, ne_eq, Nat.reduceEqDiff, not_false_eq_true, fx, s18] <;> rfl) (by rfl) (by first | exact VQ.int _ _ | exact VQ.bool _ | exact VQ.ptr _ _ | exact VQ.slice _ _ _ | exact VQ.func (by simp [vq_int, vq_ptr, vq_slice]) (by simp [vq_int, vq_ptr, vq_slice]) | exact VQ.agg (by simp [vq_int, vq_ptr, vq_slice]) | exact VQ.tuple (by simp [vq_int, vq_ptr, vq_slice])) ?_
    refine Dr.read (by first | rfl | kernel_rfl) (by first | rfl | (simp only [sg_eq, sg_ne, sp_n, Nat.reduceLT, ne_eq, Nat.reduceEqDiff, not_false_eq_true, gd, nth, want_slot, beqB, hn]; done) | (simp only [sev_tmp, sev_const, sev_func, sg_eq, sg_ne, sp_n, sp_none, Nat.reduceLT, ne_eq, Nat.reduceEqDiff, not_false_eq_true, gd, nth, want_free, want_slot, beqB, List.map_cons, List.map_nil, Array.toList_empty, List.nil_append, List.append_nil, List.cons_append, hn]; rfl)) (by assumption) (fun M hM => by simp only [sev_tmp, sg_eq, sg_ne, sp_n, Nat.reduceLT, ne_eq, Nat.reduceEqDiff, not_false_eq_true, fx, bin_eql, hn, eq_self, decide_true] <;> rfl) (by rfl) (by first | exact VQ.int _ _ | exact VQ.bool _ | exact VQ.ptr _ _ | exact VQ.slice _ _ _ | exact VQ.func (by simp [vq_int, vq_ptr, vq_slice]) (by simp [vq_int, vq_ptr, vq_slice]) | exact VQ.agg (by simp [vq_int, vq_ptr, vq_slice]) | exact VQ.tuple (by simp [vq_int, vq_ptr, vq_slice])) ?_
    refine Dr.read (by first | rfl | kernel_rfl) (by first | rfl | (simp only [sev_tmp, sev_const, sev_func, sg_eq, sg_ne, sp_n, sp_none, Nat.reduceLT, ne_eq, Nat.reduceEqDiff, not_false_eq_true, gd, nth, want_free, want_slot, beqB, List.map_cons, List.map_nil, Array.toList_empty, List.nil_append, List.append_nil, List.cons_append, hn]; done) | (simp only [sev_tmp, sev_const, sev_func, sg_eq, sg_ne, sp_n, sp_none, Nat.reduceLT, ne_eq, Nat.reduceEqDiff, not_false_eq_true, gd, nth, want_free, want_slot, beqB, List.map_cons, List.map_nil, Array.toList_empty, List.nil_append, List.append_nil, List.cons_append, hn]; rfl)) (by assumption) (fun M hM => by simp only [sev_tmp, sg_eq, sg_ne, sp_n, Nat.reduceLT, ne_eq, Nat.reduceEqDiff, not_false_eq_true, fx, pck, hn] <;> rfl) (by rfl) (by first | exact VQ.int _ _ | exact VQ.bool _ | exact VQ.ptr _ _ | exact VQ.slice _ _ _ | exact VQ.func (by simp [vq_int, vq_ptr, vq_slice]) (by simp [vq_int, vq_ptr, vq_slice]) | exact VQ.agg (by simp [vq_int, vq_ptr, vq_slice]) | exact VQ.tuple (by simp [vq_int, vq_ptr, vq_slice])) ?_
    refine Dr.read (by first | rfl | kernel_rfl) (by first | rfl | (simp only [sev_tmp, sev_const, sev_func, sg_eq, sg_ne, sp_n, sp_none, Nat.reduceLT, ne_eq, Nat.reduceEqDiff, not_false_eq_true, gd, nth, want_free, want_slot, beqB, List.map_cons, List.map_nil, Array.toList_empty, List.nil_append, List.append_nil, List.cons_append, hn]; done) | (simp only [sev_tmp, sev_const, sev_func, sg_eq, sg_ne, sp_n, sp_none, Nat.reduceLT, ne_eq, Nat.reduceEqDiff, not_false_eq_true, gd, nth, want_free, want_slot, beqB, List.map_cons, List.map_nil, Array.toList_empty, List.nil_append, List.append_nil, List.cons_append, hn]; rfl)) (by assumption) (fun M hM => by simp only [sev_tmp, sg_eq, sp_n, Nat.reduceLT, fx, hn] <;> rfl) (by rfl) (by first | exact VQ.int _ _ | exact VQ.bool _ | exact VQ.ptr _ _ | exact VQ.slice _ _ _ | exact VQ.func (by simp [vq_int, vq_ptr, vq_slice]) (by simp [vq_int, vq_ptr, vq_slice]) | exact VQ.agg (by simp [vq_int, vq_ptr, vq_slice]) | exact VQ.tuple (by simp [vq_int, vq_ptr, vq_slice])) ?_
    refine Dr.nil (by rfl) (fun M hM => by cases hM) FM3 ⟨M3, by rfl, ?_⟩
    exact Rn.fall ⟨rfl, hM3, by simp only [sp_n, hn], by simp only [sg_ne, ne_eq, Nat.reduceEqDiff, not_false_eq_true, s2], by simp only [sg_ne, ne_eq, Nat.reduceEqDiff, not_false_eq_true, s3], by simp only [sg_ne, ne_eq, Nat.reduceEqDiff, not_false_eq_true, s5], by simp only [sg_ne, ne_eq, Nat.reduceEqDiff, not_false_eq_true, s6], by simp only [sg_ne, ne_eq, Nat.reduceEqDiff, not_false_eq_true, s7], by simp only [sg_eq, sp_n, Nat.reduceLT, hn]⟩
  · clear hn s2 s3 s5 s6 s7 s8 s9 s10 s11 s12 s13 s14 s15 s16 s17 s18 s
    rintro s ds D ⟨rfl, hD, hn, s2, s3, s5, s6, s7, s19⟩
    have hCD : Nx C.next C D := hCD8.trans (hD.le hCD8.next)
    have e0 := (hD.cl n18 0).trans e0
    have e1 := (hD.cl n18 1).trans e1
    have e2 := (hD.cl n18 2).trans e2
    have hD1D : Nx D1.next D1 D := (hx2D).trans (hD.le (by have := hx2D.next; omega))
    have v1 := w1.nx hD1.wf hD1D
    have v2 := w2.nx hD1.wf hD1D
    refine Rn.seq hc ?_
    refine Rn.region hc fun K hK => ?_
    refine Wo.run hc 1 rfl rfl rfl ?_
    simp (maxSteps := 2000000) only [List.drop_zero, List.take_succ_cons, List.take_zero, sev_tmp, gd, want_free, rops, fx, ld, adr_p, cls, Nat.zero_add, Option.some.injEq, exists_eq_left', Nat.reduceAdd, tk24, s7, e0, e1, e2]
    refine Wo.call hc (by rfl) (by rfl) ⟨by rfl, by rfl⟩ (xs := [.agg #[.int .i64 mm, .slice p1 L1.length c1, .slice p2 L2.length c2]]) (by first | rfl | (simp only [sev_tmp, sev_const, sev_func, sg_eq, sg_ne, sp_n, sp_none, Nat.reduceLT, ne_eq, Nat.reduceEqDiff, not_false_eq_true, gd, nth, want_free, want_slot, beqB, List.map_cons, List.map_nil, Array.toList_empty, List.nil_append, List.append_nil, List.cons_append, hn]; done) | (simp only [sev_tmp, sev_const, sev_func, sg_eq, sg_ne, sp_n, sp_none, Nat.reduceLT, ne_eq, Nat.reduceEqDiff, not_false_eq_true, gd, nth, want_free, want_slot, beqB, List.map_cons, List.map_nil, Array.toList_empty, List.nil_append, List.append_nil, List.cons_append, hn]; rfl)) (by first | rfl | (simp only [sev_tmp, sev_const, sev_func, sg_eq, sg_ne, sp_n, sp_none, Nat.reduceLT, ne_eq, Nat.reduceEqDiff, not_false_eq_true, gd, nth, want_free, want_slot, beqB, List.map_cons, List.map_nil, Array.toList_empty, List.nil_append, List.append_nil, List.cons_append, hn]; done) | (simp only [sev_tmp, sev_const, sev_func, sg_eq, sg_ne, sp_n, sp_none, Nat.reduceLT, ne_eq, Nat.reduceEqDiff, not_false_eq_true, gd, nth, want_free, want_slot, beqB, List.map_cons, List.map_nil, Array.toList_empty, List.nil_append, List.append_nil, List.cons_append, hn]; rfl)) (by first | rfl | (simp only [sev_tmp, sg_eq, Nat.reduceLT, List.map_cons, List.map_nil, List.nil_append, List.append_nil, hn]; done) | (simp only [sev_tmp, sev_const, sev_func, sg_eq, sg_ne, sp_n, sp_none, Nat.reduceLT, ne_eq, Nat.reduceEqDiff, not_false_eq_true, gd, nth, want_free, want_slot, beqB, List.map_cons, List.map_nil, Array.toList_empty, List.nil_append, List.append_nil, List.cons_append, hn]; rfl)) (Con.mono (spoil_lasso hCD.wf hCD.next v1 v2 (by omega)) ?_)
    rintro w E hE
    refine Wo.done hc rfl (hK _ _ ?_)
    clear hK
    refine Rn.seq hc ?_
    have hCE : Nx C.next C E := hCD.trans hE
    have hXe := hX.nx hC.wf hCE
    have hYe := hY.nx hC.wf hCE
    have hxe := hx'.nx hC.wf hCE
    have hye := hy'.nx hC.wf hCE
    have g0 := hxe.c0
    have g1 := hxe.c1
    have g2 := hxe.c2
    have h0 := hXe.c0
    have h1 := hXe.c1
    have h2 := hXe.c2
    refine Rn.region hc fun K hK => ?_
    refine Wo.run hc 4 rfl rfl rfl ?_
    simp (maxSteps := 2000000) only [List.drop_zero, List.take_succ_cons, List.take_zero, sev_tmp, sg_eq, sg_ne, sp_n, Nat.reduceLT, ne_eq, Nat.reduceEqDiff, not_false_eq_true, gd, nth, want_free, want_slot, beqB, rops, fx, ld, adr_p, cls, Nat.zero_add, Option.some.injEq, exists_eq_left', Nat.reduceAdd, tk24, hn, s2, s5, s19, g0, g1, g2, h0, h1, h2]
    refine Wo.call hc (by rfl) (by rfl) ⟨by rfl, by rfl⟩ (xs := [x'.v, x.v]) (by simp only [sg_eq, sg_ne, sp_n, Nat.reduceLT, ne_eq, Nat.reduceEqDiff, not_false_eq_true, gd, nth, want_slot, beqB, hn]) (by rfl) (by simp only [sev_tmp, sg_eq, sg_ne, sp_n, Nat.reduceLT, ne_eq, Nat.reduceEqDiff, not_false_eq_true, List.map_cons, List.map_nil, List.nil_append, List.append_nil, hn]; rfl) (Con.mono (same_true hCE.wf hXe.ok hxe.ok tx) ?_)
    rintro w E1 ⟨rfl, k1⟩
    have hY1 := hYe.nx hCE.wf k1
    have hy1 := hye.nx hCE.wf k1
    have g0 := hy1.c0
    have g1 := hy1.c1
    have g2 := hy1.c2
    have h0 := hY1.c0
    have h1 := hY1.c1
    have h2 := hY1.c2
    refine Wo.run hc 4 rfl rfl rfl ?_
    simp (maxSteps := 2000000) only [List.drop_zero, List.drop_succ_cons, List.take_succ_cons, List.take_zero, sev_tmp, sg_eq, sg_ne, sp_n, Nat.reduceLT, ne_eq, Nat.reduceEqDiff, not_false_eq_true, gd, nth, want_free, want_slot, beqB, rops, fx, ld, pck, adr_p, cls, Nat.zero_add, Option.some.injEq, exists_eq_left', Nat.reduceAdd, tk24, hn, s3, s6, g0, g1, g2, h0, h1, h2]
    refine Wo.call hc (by rfl) (by rfl) ⟨by rfl, by rfl⟩ (xs := [y'.v, y.v]) (by simp only [sg_eq, sg_ne, sp_n, Nat.reduceLT, ne_eq, Nat.reduceEqDiff, not_false_eq_true, gd, nth, want_slot, beqB, hn]) (by rfl) (by simp only [sev_tmp, sg_eq, sg_ne, sp_n, Nat.reduceLT, ne_eq, Nat.reduceEqDiff, not_false_eq_true, List.map_cons, List.map_nil, List.nil_append, List.append_nil, hn]; rfl) (Con.mono (same_true k1.wf hY1.ok hy1.ok ty) ?_)
    rintro w E2 ⟨rfl, k2⟩
    refine Wo.run hc 2 rfl rfl rfl ?_
    simp (maxSteps := 2000000) only [List.drop_zero, List.drop_succ_cons, List.take_succ_cons, List.take_zero, sev_tmp, sg_eq, sg_ne, sp_n, Nat.reduceLT, ne_eq, Nat.reduceEqDiff, not_false_eq_true, gd, want_free, rops, fx, pck, Option.some.injEq, exists_eq_left', Nat.reduceAdd, hn]
    refine Wo.call hc (by rfl) (by rfl) ⟨by rfl, by rfl⟩ (xs := []) (by simp only [sg_eq, sp_n, Nat.reduceLT, gd, nth, want_slot, beqB, hn]) (by rfl) (by rfl) (Con.mono (awake_con E2) ?_)
    rintro w E3 ⟨rfl, rfl⟩
    refine Wo.run hc 2 rfl rfl rfl ?_
    simp (maxSteps := 2000000) only [List.drop_zero, List.drop_succ_cons, List.take_succ_cons, List.take_zero, sev_tmp, sg_eq, sg_ne, sp_n, Nat.reduceLT, ne_eq, Nat.reduceEqDiff, not_false_eq_true, gd, want_free, rops, fx, pck, Option.some.injEq, exists_eq_left', Nat.reduceAdd, hn]
    refine Wo.done hc rfl (hK _ _ ?_)
    clear hK
    (repeat (first | refine Rn.seq hc ?_ | refine Rn.skip hc ?_ | refine Rn.block hc ?_ | refine Rn.inBlock hc ?_ | refine Rn.scope hc ?_ | refine Rn.inScope hc ?_))
    have hE2 : Nx E.next E E3 := k1.trans (k2.le k1.next)
    refine Rn.ret (endQ_tmp rfl ⟨?_, hC.trans ((hCE.trans (hE2.le hCE.next)).le hC.next)⟩)
    simp only [sg_eq, sp_n, Nat.reduceLT, hn]
  · intro _ _ _ h
    exact h.elim
end Go.Proofs.Ytdaljohmfnfgiaa
/- LassoChecks returns true. No condition. -/
namespace Go.Proofs.Ytdaljohmfnfgiaa
open Go Go.RowKit Go.Proofs.Ytdaljohmfnfgiaa.Canon
set_option maxRecDepth 20000

/-- What is known of an argument that is not great. -/
def Arg (A : AHeap) (sa : Option Addr) (sn sc : Nat) (ra : Option Addr) (rn rc : Nat) : Prop := sn ≤ 70 → rn ≤ 130 → ∃ st ro : List Int, st.length = sn ∧ ro.length = rn ∧ Ints A sa 0 A.next st ∧ Ints A ra 0 A.next ro ∧ sn ≤ sc ∧ rn ≤ rc ∧ (0 < st.length → Sl A sa 0) ∧ (0 < ro.length → Sl A ra 0)

theorem law_checks {A : AHeap} (hw : WF A) {m m' : Int} {sa ra sa' ra' : Option Addr} {sn sc rn rc sn' sc' rn' rc' : Nat} (h1 : Arg A sa sn sc ra rn rc) (h2 : Arg A sa' sn' sc' ra' rn' rc') :
    ConF Try.prog 3 [.agg #[.int .i64 m, .slice sa sn sc, .slice ra rn rc], .agg #[.int .i64 m', .slice sa' sn' sc', .slice ra' rn' rc']] A (fun w A1 => w = .bool true ∧ Nx A.next A A1) := by
  refine conF_of_rn hc Try.func3 rfl (Nat.le_of_ble_eq_true rfl) ?_
  obtain ⟨A1, e1, hx1, hn1, b0, b1, b2⟩ := box3 hw (.int .i64 m) (.slice sa sn sc) (.slice ra rn rc) 24
  obtain ⟨A2, e2, hx2, hn2, c0, c1, c2⟩ := box3 hx1.wf (.int .i64 m') (.slice sa' sn' sc') (.slice ra' rn' rc') 24
  have hx02 : Nx A.next A A2 := hx1.trans (hx2.le hx1.next)
  have b0 := (hx2.cl (show A.next < A1.next by omega) 0).trans b0
  have b1 := (hx2.cl (show A.next < A1.next by omega) 1).trans b1
  have b2 := (hx2.cl (show A.next < A1.next by omega) 2).trans b2
  rw [s_in2]
  refine Rn.seq hc ?_
  refine Rn.reg hc rfl ?_
  simp only [sev_tmp, sev_const, sg_eq, sg_ne, sp_n, Nat.reduceLT, ne_eq, Nat.reduceEqDiff, not_false_eq_true, gd, want_free, rops, fx, Option.some.injEq, exists_eq_left', Value.cells, show Try.f3.ntmps = 116 from rfl, e1, e2]
  refine Rn.seq hc ?_
  refine Rn.seq hc ?_
  refine Rn.region hc fun K hK => ?_
  refine Wo.run hc 1 rfl rfl rfl ?_
  simp (maxSteps := 2000000) only [List.drop_zero, List.take_succ_cons, List.take_zero, sev_tmp, sg_eq, sg_ne, sp_n, Nat.reduceLT, ne_eq, Nat.reduceEqDiff, not_false_eq_true, gd, want_free, rops, fx, ld, adr_p, cls, Nat.zero_add, Option.some.injEq, exists_eq_left', Nat.reduceAdd, tk24, b0, b1, b2]
  refine Wo.call hc (by rfl) (by rfl) ⟨by rfl, by rfl⟩ (xs := [.agg #[.int .i64 m, .slice sa sn sc, .slice ra rn rc]]) (by first | rfl | (simp only [sev_tmp, sev_const, sev_func, sg_eq, sg_ne, sp_n, sp_none, Nat.reduceLT, ne_eq, Nat.reduceEqDiff, not_false_eq_true, gd, nth, want_free, want_slot, beqB, List.map_cons, List.map_nil, Array.toList_empty, List.nil_append, List.append_nil, List.cons_append]; done) | (simp only [sev_tmp, sev_const, sev_func, sg_eq, sg_ne, sp_n, sp_none, Nat.reduceLT, ne_eq, Nat.reduceEqDiff, not_false_eq_true, gd, nth, want_free, want_slot, beqB, List.map_cons, List.map_nil, Array.toList_empty, List.nil_append, List.append_nil, List.cons_append]; rfl)) (by first | rfl | (simp only [sev_tmp, sev_const, sev_func, sg_eq, sg_ne, sp_n, sp_none, Nat.reduceLT, ne_eq, Nat.reduceEqDiff, not_false_eq_true, gd, nth, want_free, want_slot, beqB, List.map_cons, List.map_nil, Array.toList_empty, List.nil_append, List.append_nil, List.cons_append]; done) | (simp only [sev_tmp, sev_const, sev_func, sg_eq, sg_ne, sp_n, sp_none, Nat.reduceLT, ne_eq, Nat.reduceEqDiff, not_false_eq_true, gd, nth, want_free, want_slot, beqB, List.map_cons, List.map_nil, Array.toList_empty, List.nil_append, List.append_nil, List.cons_append]; rfl)) (by first | rfl | (simp only [sev_tmp, sev_const, sev_func, sg_eq, sg_ne, sp_n, sp_none, Nat.reduceLT, ne_eq, Nat.reduceEqDiff, not_false_eq_true, gd, nth, want_free, want_slot, beqB, List.map_cons, List.map_nil, Array.toList_empty, List.nil_append, List.append_nil, List.cons_append]; done) | (simp only [sev_tmp, sev_const, sev_func, sg_eq, sg_ne, sp_n, sp_none, Nat.reduceLT, ne_eq, Nat.reduceEqDiff, not_false_eq_true, gd, nth, want_free, want_slot, beqB, List.map_cons, List.map_nil, Array.toList_empty, List.nil_append, List.append_nil, List.cons_append]; rfl)) (Con.mono (great_lasso hx2.wf m sa ra sn rn sc rc) ?_)
  rintro w A3 ⟨rfl, hx3⟩
  have hx03 : Nx A.next A A3 := hx02.trans (hx3.le hx02.next)
  have c0 := (hx3.cl (show A1.next < A2.next by omega) 0).trans c0
  have c1 := (hx3.cl (show A1.next < A2.next by omega) 1).trans c1
  have c2 := (hx3.cl (show A1.next < A2.next by omega) 2).trans c2
  have n13 : A1.next < A3.next := by have := hx3.next; omega
  by_cases hg : 70 < sn ∨ 130 < rn
  · have hd : (decide ((70 : Int) < sn) || decide ((130 : Int) < rn)) = true := by simp; omega
    refine Wo.run hc 4 rfl rfl rfl ?_
    simp (maxSteps := 2000000) only [List.drop_zero, List.drop_succ_cons, List.take_succ_cons, List.take_zero, sev_tmp, sev_const, sg_eq, sg_ne, sp_n, Nat.reduceLT, ne_eq, Nat.reduceEqDiff, not_false_eq_true, gd, nth, want_free, want_slot, beqB, rops, fx, pck, Option.some.injEq, exists_eq_left', Nat.reduceAdd, hd]
    refine Wo.done hc rfl (hK _ _ ?_)
    clear hK
    (repeat (first | refine Rn.seq hc ?_ | refine Rn.skip hc ?_ | refine Rn.block hc ?_ | refine Rn.inBlock hc ?_ | refine Rn.scope hc ?_ | refine Rn.inScope hc ?_))
    refine Rn.condE hc rfl ?_
    simp only [sev_tmp, sg_eq, sp_n, Nat.reduceLT, Value.bool.injEq, exists_eq_left']
    (repeat (first | refine Rn.seq hc ?_ | refine Rn.skip hc ?_ | refine Rn.block hc ?_ | refine Rn.inBlock hc ?_ | refine Rn.scope hc ?_ | refine Rn.inScope hc ?_))
    refine Rn.region hc fun K hK => ?_
    refine Wo.call hc (by rfl) (by rfl) ⟨by rfl, by rfl⟩ (xs := []) (by rfl) (by rfl) (by rfl) (Con.mono (awake_con A3) ?_)
    rintro w B3 ⟨rfl, rfl⟩
    refine Wo.run hc 1 rfl rfl rfl ?_
    simp (maxSteps := 2000000) only [List.drop_zero, List.drop_succ_cons, List.take_succ_cons, List.take_zero, sev_tmp, sg_eq, sp_n, Nat.reduceLT, gd, want_free, rops, fx, Nat.zero_add, Option.some.injEq, exists_eq_left', Nat.reduceAdd]
    refine Wo.done hc rfl (hK _ _ ?_)
    clear hK
    (repeat (first | refine Rn.seq hc ?_ | refine Rn.skip hc ?_ | refine Rn.block hc ?_ | refine Rn.inBlock hc ?_ | refine Rn.scope hc ?_ | refine Rn.inScope hc ?_))
    exact Rn.ret (endQ_tmp rfl ⟨by simp only [sg_eq, sp_n, Nat.reduceLT], hx03⟩)
  · have hd : (decide ((70 : Int) < sn) || decide ((130 : Int) < rn)) = false := by simp; omega
    refine Wo.run hc 2 rfl rfl rfl ?_
    simp (maxSteps := 2000000) only [List.drop_zero, List.drop_succ_cons, List.take_succ_cons, List.take_zero, sev_tmp, sg_eq, sg_ne, sp_n, Nat.reduceLT, ne_eq, Nat.reduceEqDiff, not_false_eq_true, gd, nth, want_free, want_slot, beqB, rops, fx, ld, adr_p, cls, Nat.zero_add, Option.some.injEq, exists_eq_left', Nat.reduceAdd, tk24, hd, c0, c1, c2]
    refine Wo.call hc (by rfl) (by rfl) ⟨by rfl, by rfl⟩ (xs := [.agg #[.int .i64 m', .slice sa' sn' sc', .slice ra' rn' rc']]) (by first | rfl | (simp only [sev_tmp, sev_const, sev_func, sg_eq, sg_ne, sp_n, sp_none, Nat.reduceLT, ne_eq, Nat.reduceEqDiff, not_false_eq_true, gd, nth, want_free, want_slot, beqB, List.map_cons, List.map_nil, Array.toList_empty, List.nil_append, List.append_nil, List.cons_append, hd]; done) | (simp only [sev_tmp, sev_const, sev_func, sg_eq, sg_ne, sp_n, sp_none, Nat.reduceLT, ne_eq, Nat.reduceEqDiff, not_false_eq_true, gd, nth, want_free, want_slot, beqB, List.map_cons, List.map_nil, Array.toList_empty, List.nil_append, List.append_nil, List.cons_append, hd]; rfl)) (by first | rfl | (simp only [sev_tmp, sev_const, sev_func, sg_eq, sg_ne, sp_n, sp_none, Nat.reduceLT, ne_eq, Nat.reduceEqDiff, not_false_eq_true, gd, nth, want_free, want_slot, beqB, List.map_cons, List.map_nil, Array.toList_empty, List.nil_append, List.append_nil, List.cons_append, hd]; done) | (simp only [sev_tmp, sev_const, sev_func, sg_eq, sg_ne, sp_n, sp_none, Nat.reduceLT, ne_eq, Nat.reduceEqDiff, not_false_eq_true, gd, nth, want_free, want_slot, beqB, List.map_cons, List.map_nil, Array.toList_empty, List.nil_append, List.append_nil, List.cons_append, hd]; rfl)) (by first | rfl | (simp only [sev_tmp, sev_const, sev_func, sg_eq, sg_ne, sp_n, sp_none, Nat.reduceLT, ne_eq, Nat.reduceEqDiff, not_false_eq_true, gd, nth, want_free, want_slot, beqB, List.map_cons, List.map_nil, Array.toList_empty, List.nil_append, List.append_nil, List.cons_append, hd]; done) | (simp only [sev_tmp, sev_const, sev_func, sg_eq, sg_ne, sp_n, sp_none, Nat.reduceLT, ne_eq, Nat.reduceEqDiff, not_false_eq_true, gd, nth, want_free, want_slot, beqB, List.map_cons, List.map_nil, Array.toList_empty, List.nil_append, List.append_nil, List.cons_append, hd]; rfl)) (Con.mono (great_lasso hx3.wf m' sa' ra' sn' rn' sc' rc') ?_)
    rintro w A4 ⟨rfl, hx4⟩
    have hx04 : Nx A.next A A4 := hx03.trans (hx4.le hx03.next)
    by_cases hg2 : 70 < sn' ∨ 130 < rn'
    · have hd2 : (decide ((70 : Int) < sn') || decide ((130 : Int) < rn')) = true := by simp; omega
      refine Wo.run hc 1 rfl rfl rfl ?_
      simp (maxSteps := 2000000) only [List.drop_zero, List.drop_succ_cons, List.take_succ_cons, List.take_zero, sev_tmp, sg_eq, sg_ne, sp_n, Nat.reduceLT, ne_eq, Nat.reduceEqDiff, not_false_eq_true, gd, want_free, rops, fx, pck, Option.some.injEq, exists_eq_left', Nat.reduceAdd, hd2]
      refine Wo.done hc rfl (hK _ _ ?_)
      clear hK
      (repeat (first | refine Rn.seq hc ?_ | refine Rn.skip hc ?_ | refine Rn.block hc ?_ | refine Rn.inBlock hc ?_ | refine Rn.scope hc ?_ | refine Rn.inScope hc ?_))
      refine Rn.condE hc rfl ?_
      simp only [sev_tmp, sg_eq, sp_n, Nat.reduceLT, Value.bool.injEq, exists_eq_left']
      (repeat (first | refine Rn.seq hc ?_ | refine Rn.skip hc ?_ | refine Rn.block hc ?_ | refine Rn.inBlock hc ?_ | refine Rn.scope hc ?_ | refine Rn.inScope hc ?_))
      refine Rn.region hc fun K hK => ?_
      refine Wo.call hc (by rfl) (by rfl) ⟨by rfl, by rfl⟩ (xs := []) (by rfl) (by rfl) (by rfl) (Con.mono (awake_con A4) ?_)
      rintro w B3 ⟨rfl, rfl⟩
      refine Wo.run hc 1 rfl rfl rfl ?_
      simp (maxSteps := 2000000) only [List.drop_zero, List.drop_succ_cons, List.take_succ_cons, List.take_zero, sev_tmp, sg_eq, sp_n, Nat.reduceLT, gd, want_free, rops, fx, Nat.zero_add, Option.some.injEq, exists_eq_left', Nat.reduceAdd]
      refine Wo.done hc rfl (hK _ _ ?_)
      clear hK
      (repeat (first | refine Rn.seq hc ?_ | refine Rn.skip hc ?_ | refine Rn.block hc ?_ | refine Rn.inBlock hc ?_ | refine Rn.scope hc ?_ | refine Rn.inScope hc ?_))
      exact Rn.ret (endQ_tmp rfl ⟨by simp only [sg_eq, sp_n, Nat.reduceLT], hx04⟩)
    · have hd2 : (decide ((70 : Int) < sn') || decide ((130 : Int) < rn')) = false := by simp; omega
      refine Wo.run hc 1 rfl rfl rfl ?_
      simp (maxSteps := 2000000) only [List.drop_zero, List.drop_succ_cons, List.take_succ_cons, List.take_zero, sev_tmp, sg_eq, sg_ne, sp_n, Nat.reduceLT, ne_eq, Nat.reduceEqDiff, not_false_eq_true, gd, want_free, rops, fx, pck, Option.some.injEq, exists_eq_left', Nat.reduceAdd, hd2]
      refine Wo.done hc rfl (hK _ _ ?_)
      clear hK
      refine Rn.condE hc rfl ?_
      simp only [sev_tmp, sg_eq, sp_n, Nat.reduceLT, Value.bool.injEq, exists_eq_left']
      refine Rn.skip hc ?_
      obtain ⟨st, ro, rfl, rfl, q1, q2, q3, q4, q5, q6⟩ := h1 (by omega) (by omega)
      obtain ⟨st', ro', rfl, rfl, r1, r2, r3, r4, r5, r6⟩ := h2 (by omega) (by omega)
      have hx24 : Nx A2.next A2 A4 := hx3.trans (hx4.le hx3.next)
      have b0 := (hx24.cl (show A.next < A2.next by omega) 0).trans b0
      have b1 := (hx24.cl (show A.next < A2.next by omega) 1).trans b1
      have b2 := (hx24.cl (show A.next < A2.next by omega) 2).trans b2
      have c0 := (hx4.cl n13 0).trans c0
      have c1 := (hx4.cl n13 1).trans c1
      have c2 := (hx4.cl n13 2).trans c2
      have n4 := hx4.next
      have hX : Has A4 A.next ⟨m, sa, sc, st, ra, rc, ro⟩ :=
        { c0 := b0, c1 := b1, c2 := b2, ok := ⟨(q1.nx hx04 (Nat.le_refl _)).mono (Nat.le_refl _) hx04.next, (q2.nx hx04 (Nat.le_refl _)).mono (Nat.le_refl _) hx04.next, show st.length < _ by omega, show ro.length < _ by omega⟩, lt := by omega, ls := show st.length ≤ 70 by omega, lr := show ro.length ≤ 130 by omega, cs := q3, cr := q4, s1 := fun h => (q5 h).nx hw hx04, s2 := fun h => (q6 h).nx hw hx04 }
      have hY : Has A4 A1.next ⟨m', sa', sc', st', ra', rc', ro'⟩ :=
        { c0 := c0, c1 := c1, c2 := c2, ok := ⟨(r1.nx hx04 (Nat.le_refl _)).mono (Nat.le_refl _) hx04.next, (r2.nx hx04 (Nat.le_refl _)).mono (Nat.le_refl _) hx04.next, show st'.length < _ by omega, show ro'.length < _ by omega⟩, lt := by omega, ls := show st'.length ≤ 70 by omega, lr := show ro'.length ≤ 130 by omega, cs := r3, cr := r4, s1 := fun h => (r5 h).nx hw hx04, s2 := fun h => (r6 h).nx hw hx04 }
      refine checks_own hx04 hX hY (by simp only [sp_n]) (by simp only [sg_eq, sg_ne, sp_n, Nat.reduceLT, ne_eq, Nat.reduceEqDiff, not_false_eq_true]) (by simp only [sg_eq, sg_ne, sp_n, Nat.reduceLT, ne_eq, Nat.reduceEqDiff, not_false_eq_true]) fun s C bx by' x' y' hC hx' hy' tx ty sx _ hn s2 s3 s5 s6 => ?_
      exact checks_rest (hx04.trans (hC.le hx04.next)) (hX.nx hx04.wf hC) (hY.nx hx04.wf hC) hx' hy' tx ty sx hn s2 s3 s5 s6

theorem sl_in {W : World} {z : Nat} {A : AHeap} (hA : In W z A) {a : Option Addr} {l : List Int} (h : Ints A a 0 A.next l) (hpos : 0 < l.length) : Sl A a 0 := fun x hx => by
  obtain ⟨b, o, e, _, _, hc⟩ := h 0 hpos
  rw [hx] at e
  cases e
  obtain ⟨_, c, t, f, g, zz, hlk, _, _⟩ := AHeap.cell_eq hc
  have hlk' : Canon.look A.objs b = some ⟨.cells c t f, g, zz⟩ := hlk
  have hl2 := hlk'
  rw [hA.look'] at hl2
  split at hl2
  · obtain ⟨c', t', f', _, e2⟩ := roOf_some hl2
    cases e2
    exact ⟨rfl, Nat.zero_le _, _, hlk', .inl rfl⟩
  · cases hl2
theorem checks_any {W : World} {m m' : Int} {sa ra sa' ra' : Option Addr} {sn sc rn rc sn' sc' rn' rc' : Nat} (h1 : ∀ x, sa = some x → x.spot = none) (h2 : ∀ x, ra = some x → x.spot = none) (h3 : ∀ x, sa' = some x → x.spot = none) (h4 : ∀ x, ra' = some x → x.spot = none)
    (k1 : ∃ l : List Int, l.length = sn ∧ IntsW W sa l) (k2 : ∃ l : List Int, l.length = rn ∧ IntsW W ra l) (k3 : ∃ l : List Int, l.length = sn' ∧ IntsW W sa' l) (k4 : ∃ l : List Int, l.length = rn' ∧ IntsW W ra' l) (n1 : sn ≤ sc) (n2 : rn ≤ rc) (n3 : sn' ≤ sc') (n4 : rn' ≤ rc') :
    Calls Try.prog 3 #[.agg #[.int .i64 m, .slice sa sn sc, .slice ra rn rc], .agg #[.int .i64 m', .slice sa' sn' sc', .slice ra' rn' rc']] W (fun e w' => e = .returned (.bool true) ∧ Below W.heap.size W w') := by
  obtain ⟨A, hA⟩ := in_any W (W.heap.size + 1 + blkOf sa + blkOf ra + blkOf sa' + blkOf ra') (by omega) (by omega)
  obtain ⟨st, e1, i1⟩ := k1
  obtain ⟨ro, e2, i2⟩ := k2
  obtain ⟨st', e3, i3⟩ := k3
  obtain ⟨ro', e4, i4⟩ := k4
  refine calls_of_conF (t := 4) Try.func3 rfl hA (xs := [.agg #[.int .i64 m, .slice sa sn sc, .slice ra rn rc], .agg #[.int .i64 m', .slice sa' sn' sc', .slice ra' rn' rc']]) ?_
    (law_checks hA.wf (fun _ _ => ⟨st, ro, e1, e2, i1.ints hA, i2.ints hA, n1, n2, sl_in hA (i1.ints hA), sl_in hA (i2.ints hA)⟩) (fun _ _ => ⟨st', ro', e3, e4, i3.ints hA, i4.ints hA, n3, n4, sl_in hA (i3.ints hA), sl_in hA (i4.ints hA)⟩))
  have a1 : AR (inP (W.heap.size + 1 + blkOf sa + blkOf ra + blkOf sa' + blkOf ra')) #[.int .i64 m, .slice sa sn sc, .slice ra rn rc] #[.int .i64 m, .slice sa sn sc, .slice ra rn rc] :=
    ((AR.single (.int .i64 m)).push (inP_v (roV_slice h1 (by omega)))).push (inP_v (roV_slice h2 (by omega)))
  have a2 : AR (inP (W.heap.size + 1 + blkOf sa + blkOf ra + blkOf sa' + blkOf ra')) #[.int .i64 m', .slice sa' sn' sc', .slice ra' rn' rc'] #[.int .i64 m', .slice sa' sn' sc', .slice ra' rn' rc'] :=
    ((AR.single (.int .i64 m')).push (inP_v (roV_slice h3 (by omega)))).push (inP_v (roV_slice h4 (by omega)))
  exact (AR.single (.ofAgg a1)).push (.ofAgg a2)
end Go.Proofs.Ytdaljohmfnfgiaa
/- LassoChecks returns true for every input, and each argument reads afterwards as it read before. No condition. -/
namespace Go.Proofs.Ytdaljohmfnfgiaa
open Go.ChangeShapes Go.WideShapes Go.ChangeAt Go.RowKit Go.Proofs.Ytdaljohmfnfgiaa.Canon
open Go.Deep (open_slice_pairs open_slice)
set_option maxRecDepth 100000 in
theorem ints_room {H : Type} {enc : TypeId × Value → H} {w : World} {base : Nat} {sp : Nat → Bool} {hd : Bool} {fuel : Nat} {a : Option Addr} {n c : Nat} {x : DataW H × List MemPlace}
    (h : DataW.trod enc Try.prog w base sp hd fuel 22 [.slice a n c] = some x) : n ≤ c := by
  rcases open_ints Try.underlying22 Try.underlying3 Try.cells3 h with ⟨h1, _⟩ | ⟨a1, len, cap, zs, h1, _, hlc, _, _, _, _, _⟩
  · simp only [List.cons.injEq, Value.slice.injEq, and_true] at h1
    obtain ⟨rfl, rfl, rfl⟩ := h1
    exact Nat.le_refl _
  · simp only [List.cons.injEq, Value.slice.injEq, and_true] at h1
    obtain ⟨rfl, rfl, rfl⟩ := h1
    exact hlc
set_option maxRecDepth 100000 in
theorem lasso_room {H : Type} {enc : TypeId × Value → H} {w : World} {base : Nat} {sp : Nat → Bool} {hd : Bool} {m : Int} {sa ra : Option Addr} {sn sc rn rc : Nat} {d : DataW H} {ps : List MemPlace}
    (h : DataW.Trod enc Try.prog w base sp hd 24 (.agg #[.int .i64 m, .slice sa sn sc, .slice ra rn rc]) d ps) : sn ≤ sc ∧ rn ≤ rc := by
  obtain ⟨fuel, hf⟩ := h
  obtain ⟨xs, k, _, _, _, hlen, hfs⟩ := DataW.trod_struct Try.underlying24 hf
  have f1 := hfs 1 { name := "Stem", type := 22, offset := 1, embedded := false, tag := "", pkgPath := "", byteOffset := 8 } rfl
  have f2 := hfs 2 { name := "Round", type := 22, offset := 2, embedded := false, tag := "", pkgPath := "", byteOffset := 32 } rfl
  obtain ⟨y1, hy1⟩ : ∃ y, xs[1]? = some y := ⟨_, List.getElem?_eq_getElem (by rw [hlen]; decide)⟩
  obtain ⟨y2, hy2⟩ : ∃ y, xs[2]? = some y := ⟨_, List.getElem?_eq_getElem (by rw [hlen]; decide)⟩
  rw [hy1] at f1
  rw [hy2] at f2
  simp only [Try.cells22] at f1 f2
  exact ⟨ints_room f1, ints_room f2⟩

set_option maxRecDepth 100000 in
theorem lassoChecks_lifted (os : Os) (started : os.Started) (H : Type) (enc : TypeId × Value → H) :
    ReturnsInHanded {} Try.checked os 3 .any (Rows.lassoChecksSpec.pre6 enc Try.prog Try.f3 Rows.lassoChecksRow.domain false) (Rows.lassoChecksSpec.post enc Try.prog Try.f3 false true false false) := by
  refine returnsInHanded_of_change (C := Try.checked) Try.own started (by kernel_rfl) Try.func3
    (ChangeSpec.witness6 (enc := enc) (C := Try.checked) false ⟨#[], #[.agg #[.int .i64 0, .slice none 0 0, .slice none 0 0], .agg #[.int .i64 0, .slice none 0 0, .slice none 0 0]], []⟩ 8 (by kernel_rfl) (by kernel_rfl) (by kernel_rfl) (by kernel_rfl)) ?_
  intro W base args ds gs before hval0 hW hcnd _
  have hval : ∀ (j : Nat) t v, Try.f3.params[j]? = some t → args[j]? = some v → Value.okWide Try.prog W .any base t v := hval0
  have hW' := hW
  obtain ⟨p, q, hA0, hV, rfl, hfz, hnd⟩ := hW
  have hA : DataW.TrodAll enc Try.prog W 0 (fun _ => true) true Try.f3.params.toList args.toList ds p := hA0
  rw [Try.params3] at hA hval
  obtain ⟨v0, v1, d0, d1, p0, p1, rfl, rfl, rfl, h0, h1⟩ := trodAll_two hA
  obtain ⟨rfl, rfl⟩ := trodVars_none hV
  obtain ⟨m, sa, sn, sc, ra, rn, rc, rfl, hk, hn⟩ := lasso_shape (hval 0 24 v0 rfl rfl)
  obtain ⟨i1, i2⟩ := lasso_ints h0 hk hn
  obtain ⟨r1, r2⟩ := lasso_room h0
  obtain ⟨m', sa', sn', sc', ra', rn', rc', rfl, hk', hn'⟩ := lasso_shape (hval 1 24 v1 rfl rfl)
  obtain ⟨i3, i4⟩ := lasso_ints h1 hk' hn'
  obtain ⟨r3, r4⟩ := lasso_room h1
  clear hA0 hval0
  simp only [List.append_nil] at hW'
  have hplace : ∀ p ∈ p0 ++ p1, p.block < W.heap.size := fun p hp => by simpa using hW'.lt p hp
  refine (checks_any (m := m) (m' := m') hk hn hk' hn' i1 i2 i3 i4 r1 r2 r3 r4).mono fun e W' ⟨he, hb⟩ => ?_
  subst he
  have harg0 : ∀ sp : Nat → Bool, (∀ p ∈ p0 ++ p1, sp p.block = true) → DataW.Trod enc Try.prog W' 0 sp true 24 (.agg #[.int .i64 m, .slice sa sn sc, .slice ra rn rc]) d0 p0 := fun sp hsp =>
    WideElems.Trod_stays Try.laidOut (by kernel_rfl) (of_decide_eq_true (by kernel_rfl)) h0 (fun x hx => hb.same (hplace x (List.mem_append_left _ hx))) (fun x hx => hsp x (List.mem_append_left _ hx))
  have harg1 : ∀ sp : Nat → Bool, (∀ p ∈ p0 ++ p1, sp p.block = true) → DataW.Trod enc Try.prog W' 0 sp true 24 (.agg #[.int .i64 m', .slice sa' sn' sc', .slice ra' rn' rc']) d1 p1 := fun sp hsp =>
    WideElems.Trod_stays Try.laidOut (by kernel_rfl) (of_decide_eq_true (by kernel_rfl)) h1 (fun x hx => hb.same (hplace x (List.mem_append_right _ hx))) (fun x hx => hsp x (List.mem_append_right _ hx))
  exact ⟨_, rfl, post_of_below (pa := p0 ++ p1) (pv := []) hW' (fun _ _ _ => trodAll_mk1 (shut_bool Try.underlying4 _)) (fun sp hsp => trodAll_mk2 (harg0 sp hsp) (harg1 sp hsp)) (fun _ _ => rfl) (by simp) hb (ok_one (by kernel_rfl) rfl (okWide_bool_mk Try.underlying4 _))⟩

theorem lassoChecks_holds : Rows.LassoChecksSaid :=
  OpenClaim.holds_of_wide 3 Try.f3 rfl rfl rfl rfl rfl rfl rfl ⟨rfl, rfl, rfl, rfl, rfl⟩ rfl rfl rfl rfl rfl (by kernel_rfl) Try.func3 (by kernel_rfl)
    (of_decide_eq_true (by kernel_rfl)) (by unfold Func.isWrapper; first | (rw [if_pos (by decide +kernel)]; kernel_rfl) | (rw [if_neg (by decide +kernel)]; exact ⟨rfl, rfl⟩))
    (fun os started H enc _ => lassoChecks_lifted os started H enc)
end Go.Proofs.Ytdaljohmfnfgiaa

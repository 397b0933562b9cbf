/- LassoParts returns true for every input, and each argument reads afterwards as it read before. No condition. -/
import Derived.Shelf.Spec.SlicesGrow
import Derived.Test.YtdaljohmfnfgiaaXj
/- LassoParts: results side by side. No condition. -/
namespace Go.Proofs.Ytdaljohmfnfgiaa
open Go Go.RowKit Go.Proofs.Ytdaljohmfnfgiaa.Canon
set_option maxRecDepth 20000

/-- The same but for some blocks. -/
structure Off (lo hi : Nat) (A B : AHeap) : Prop where
  next : A.next ≤ B.next
  wf : WF B
  keep : ∀ b, b < A.next → (b < lo ∨ hi ≤ b) → Canon.look B.objs b = Canon.look A.objs b
theorem Wrt.stay {A B : AHeap} {a : Option Addr} {lo hi n : Nat} (h : Wrt A a lo hi n) (k : ∀ b, lo ≤ b → b < hi → Canon.look B.objs b = Canon.look A.objs b) : Wrt B a lo hi n := fun hpos => by
  obtain ⟨b, o, c, t, f, g, e, h1, h2, h3, h4, h5⟩ := h hpos
  exact ⟨b, o, c, t, f, g, e, h1, h2, by rw [k b h2.1 h2.2]; exact h3, h4, h5⟩
theorem spoil_off {A : AHeap} (hw : WF A) {m : Int} {sa ra : Option Addr} {sn sc rn rc lo hi : Nat} (hhi : hi ≤ A.next) (h1 : Wrt A sa lo hi sn) (h2 : Wrt A ra lo hi rn) (hrn : rn < 4611686018427387904) :
    Con Try.prog 27 [.agg #[.int .i64 m, .slice sa sn sc, .slice ra rn rc]] A (fun _ A1 => Off lo hi A A1) := by
  refine con_of_rn hc Try.func27 rfl (Nat.le_of_ble_eq_true rfl) ?_
  obtain ⟨A1, e1, hx1, hn1, b0, b1, b2⟩ := box3 hw (.int .i64 m) (.slice sa sn sc) (.slice ra rn rc) 24
  have k1 : Wrt A1 sa lo hi sn := fun hp => by
    obtain ⟨b, o, c, t, f, g, e, q1, q2, q3, q4, q5⟩ := h1 hp
    exact ⟨b, o, c, t, f, g, e, q1, q2, by rw [hx1.keep _ (hw _ _ q3)]; exact q3, q4, q5⟩
  have k2 : Wrt A1 ra lo hi rn := fun hp => by
    obtain ⟨b, o, c, t, f, g, e, q1, q2, q3, q4, q5⟩ := h2 hp
    exact ⟨b, o, c, t, f, g, e, q1, q2, by rw [hx1.keep _ (hw _ _ q3)]; exact q3, q4, q5⟩
  rw [s_in1]
  (repeat (first | refine Rn.seq hc ?_ | refine Rn.skip hc ?_ | refine Rn.block hc ?_ | refine Rn.inBlock hc ?_ | refine Rn.scope hc ?_ | refine Rn.inScope hc ?_))
  refine Rn.reg hc rfl ?_
  simp only [sev_tmp, sg_eq, Nat.reduceLT, gd, want_free, rops, fx, Option.some.injEq, exists_eq_left', Value.cells, show Try.f27.ntmps = 16 from rfl, e1]
  (repeat (first | refine Rn.seq hc ?_ | refine Rn.skip hc ?_ | refine Rn.block hc ?_ | refine Rn.inBlock hc ?_ | refine Rn.scope hc ?_ | refine Rn.inScope hc ?_))
  refine Rn.region hc fun K hK => ?_
  refine Wo.run hc 2 rfl rfl rfl ?_
  simp (maxSteps := 2000000) only [List.drop_zero, List.take_succ_cons, List.take_zero, sev_tmp, sg_eq, sp_n, Nat.reduceLT, gd, want_free, rops, fx, ld, fad, adr_p, Nat.zero_add, Option.some.injEq, exists_eq_left', tk22, fo24_1, b1]
  refine Wo.clear (x := 4) (c := sc) (by rfl) (by rfl) (by rfl) hx1.wf k1 (by simp only [sg_eq, sp_n, Nat.reduceLT]) fun B hB => ?_
  refine Wo.done hc rfl (hK _ _ ?_)
  clear hK
  (repeat (first | refine Rn.seq hc ?_ | refine Rn.skip hc ?_ | refine Rn.block hc ?_ | refine Rn.inBlock hc ?_ | refine Rn.scope hc ?_ | refine Rn.inScope hc ?_))
  have c2 : cl B A.next 2 = some (.slice ra rn rc) := (cl_look (hB.keep _ (.inr hhi))).trans b2
  refine Rn.reg hc rfl ?_
  simp only [sev_tmp, sev_const, sg_eq, sg_ne, sp_n, sp_none, Nat.reduceLT, ne_eq, Nat.reduceEqDiff, not_false_eq_true, gd, want_free, rops, fx, ld, fad, lng, adr_p, Nat.zero_add, Option.some.injEq, exists_eq_left', tk22, fo24_2, un22, c2]
  (repeat (first | refine Rn.seq hc ?_ | refine Rn.skip hc ?_ | refine Rn.block hc ?_ | refine Rn.inBlock hc ?_ | refine Rn.scope hc ?_ | refine Rn.inScope hc ?_))
  refine Rn.loopI hc (I := fun k s M => ∃ i, i ≤ rn ∧ k = rn - i ∧ Szs lo hi A1 M ∧ s.n = 16 ∧ sget s 1 = .pointer (some ⟨A.next, 0, none⟩) ∧ sget s 7 = .int .i64 (rn : Int) ∧ sget s 8 = .int .i64 (i : Int))
    (n := rn) ⟨0, by omega, rfl, hB, by simp only [sp_n], by simp only [sg_eq, sg_ne, sp_n, Nat.reduceLT, ne_eq, Nat.reduceEqDiff, not_false_eq_true], by simp only [sg_eq, sg_ne, sp_n, Nat.reduceLT, ne_eq, Nat.reduceEqDiff, not_false_eq_true], by simp only [sg_eq, sp_n, Nat.reduceLT]; rfl⟩ ?_
  rintro k s M ⟨i, hil, rfl, hM, hn, s1, s7, s8⟩ ih
  have c2 : cl M A.next 2 = some (.slice ra rn rc) := (cl_look (hM.keep _ (.inr hhi))).trans b2
  (repeat (first | refine Rn.seq hc ?_ | refine Rn.skip hc ?_ | refine Rn.block hc ?_ | refine Rn.inBlock hc ?_ | refine Rn.scope hc ?_ | refine Rn.inScope hc ?_))
  by_cases hlt : i < rn
  · have hd : decide ((i : Int) < (rn : Int)) = true := decide_eq_true (by omega)
    refine Rn.reg hc rfl ?_
    simp only [sev_tmp, gd, want_free, rops, fx, bin_lss, Option.some.injEq, exists_eq_left', s7, s8, hd]
    (repeat (first | refine Rn.seq hc ?_ | refine Rn.skip hc ?_ | refine Rn.block hc ?_ | refine Rn.inBlock hc ?_ | refine Rn.scope hc ?_ | refine Rn.inScope hc ?_))
    refine Rn.condE hc rfl ?_
    simp only [sev_tmp, sg_eq, Nat.reduceLT, Value.bool.injEq, exists_eq_left', hn]
    (repeat (first | refine Rn.seq hc ?_ | refine Rn.skip hc ?_ | refine Rn.block hc ?_ | refine Rn.inBlock hc ?_ | refine Rn.scope hc ?_ | refine Rn.inScope hc ?_))
    refine Rn.reg hc rfl ?_
    simp only [sev_tmp, sg_eq, sg_ne, sp_n, Nat.reduceLT, ne_eq, Nat.reduceEqDiff, not_false_eq_true, gd, want_free, rops, fx, Option.some.injEq, exists_eq_left', hn, s8]
    (repeat (first | refine Rn.seq hc ?_ | refine Rn.skip hc ?_ | refine Rn.block hc ?_ | refine Rn.inBlock hc ?_ | refine Rn.scope hc ?_ | refine Rn.inScope hc ?_))
    obtain ⟨b, o, c, t, f, g, e, rfl, q2, q3, q4, q5⟩ := (k2.szs hM) (by omega)
    obtain ⟨M2, u1, u2⟩ := st1_upd (o := o + i) (v := .int .i64 (-7)) q3 q4 (by omega) rfl
    have hM2 := hM.trans (Szs.of_upd hM.wf q3 q2 u2 (by simp))
    refine Rn.reg hc rfl ?_
    simp only [sev_tmp, sev_const, sg_eq, sg_ne, sp_n, sp_none, Nat.reduceLT, ne_eq, Nat.reduceEqDiff, not_false_eq_true, gd, want_free, rops, fx, ld, str, fad, idx, adr_p, Nat.zero_add, Option.some.injEq, exists_eq_left', Nat.mul_one, tk3, tk22, fo24_2, eo22, hn, s1, c2, nlen_nat hlt, u1]
    (repeat (first | refine Rn.seq hc ?_ | refine Rn.skip hc ?_ | refine Rn.block hc ?_ | refine Rn.inBlock hc ?_ | refine Rn.scope hc ?_ | refine Rn.inScope hc ?_))
    refine Rn.reg hc rfl ?_
    simp only [sev_tmp, sev_const, sg_eq, sg_ne, sp_n, Nat.reduceLT, ne_eq, Nat.reduceEqDiff, not_false_eq_true, gd, want_free, rops, fx, bin_add, Option.some.injEq, exists_eq_left', hn, s8, wrap_succ (show i < 9223372036854775807 by omega)]
    (repeat (first | refine Rn.seq hc ?_ | refine Rn.skip hc ?_ | refine Rn.block hc ?_ | refine Rn.inBlock hc ?_ | refine Rn.scope hc ?_ | refine Rn.inScope hc ?_))
    exact ih _ _ _ (by omega) ⟨i + 1, by omega, rfl, hM2, by simp only [sp_n, hn], by simp only [sg_ne, ne_eq, Nat.reduceEqDiff, not_false_eq_true, s1], by simp only [sg_ne, ne_eq, Nat.reduceEqDiff, not_false_eq_true, s7], by simp only [sg_eq, sp_n, Nat.reduceLT, hn]⟩
  · have hd : decide ((i : Int) < (rn : Int)) = false := decide_eq_false (by omega)
    clear ih
    refine Rn.reg hc rfl ?_
    simp only [sev_tmp, gd, want_free, rops, fx, bin_lss, Option.some.injEq, exists_eq_left', s7, s8, hd]
    (repeat (first | refine Rn.seq hc ?_ | refine Rn.skip hc ?_ | refine Rn.block hc ?_ | refine Rn.inBlock hc ?_ | refine Rn.scope hc ?_ | refine Rn.inScope hc ?_))
    refine Rn.condE hc rfl ?_
    simp only [sev_tmp, sg_eq, Nat.reduceLT, Value.bool.injEq, exists_eq_left', hn]
    (repeat (first | refine Rn.seq hc ?_ | refine Rn.skip hc ?_ | refine Rn.block hc ?_ | refine Rn.inBlock hc ?_ | refine Rn.scope hc ?_ | refine Rn.inScope hc ?_))
    refine Rn.exit hc rfl ?_
    (repeat (first | refine Rn.seq hc ?_ | refine Rn.skip hc ?_ | refine Rn.block hc ?_ | refine Rn.inBlock hc ?_ | refine Rn.scope hc ?_ | refine Rn.inScope hc ?_))
    refine Rn.fall (endQ_none rfl (.inl rfl) ⟨by have := hM.next; omega, hM.wf, fun b hb hb2 => ?_⟩)
    rw [hM.keep _ hb2]
    exact hx1.keep _ hb

/-- Two results that are the same, and the variables that have them; the first may be written. -/
structure Pr (lo hi : Nat) (D : AHeap) (b b' : Nat) (y y' : Las) : Prop where
  c0 : cl D b 0 = some (.int .i64 y.m)
  c1 : cl D b 1 = some (.slice y.sa y.st.length y.sc)
  c2 : cl D b 2 = some (.slice y.ra y.ro.length y.rc)
  d0 : cl D b' 0 = some (.int .i64 y'.m)
  d1 : cl D b' 1 = some (.slice y'.sa y'.st.length y'.sc)
  d2 : cl D b' 2 = some (.slice y'.ra y'.ro.length y'.rc)
  ok : y.ok D
  ok' : y'.ok D
  lt : b < D.next
  lt' : b' < D.next
  hb : hi ≤ b
  tw : Tw y y'
  w1 : Wrt D y.sa lo hi y.st.length
  w2 : Wrt D y.ra lo hi y.ro.length
theorem Pr.nx {lo hi : Nat} {D E : AHeap} {b b' : Nat} {y y' : Las} (h : Pr lo hi D b b' y y') (k : Nx D.next D E) : Pr lo hi E b b' y y' :=
  { c0 := (k.cl h.lt 0).trans h.c0, c1 := (k.cl h.lt 1).trans h.c1, c2 := (k.cl h.lt 2).trans h.c2, d0 := (k.cl h.lt' 0).trans h.d0, d1 := (k.cl h.lt' 1).trans h.d1, d2 := (k.cl h.lt' 2).trans h.d2, ok := h.ok.nx k, ok' := h.ok'.nx k, lt := Nat.lt_of_lt_of_le h.lt k.next, lt' := Nat.lt_of_lt_of_le h.lt' k.next, hb := h.hb, tw := h.tw,
    w1 := h.w1.stay fun b'' _ h2 => k.keep _ (by have := h.hb; have := h.lt; omega), w2 := h.w2.stay fun b'' _ h2 => k.keep _ (by have := h.hb; have := h.lt; omega) }
theorem pair_of {C D1 D2 D3 : AHeap} {e m : Int} {s : Nat → Int} {v' : Value} {mm ee : Int} {L1 L2 : List Int} {p1 p2 : Option Addr} {c1 c2 : Nat} (hD1 : Nx C.next C D1) (hT : TP e m s mm L1 L2 ee)
    (i1 : Ints D1 p1 C.next D1.next L1) (i2 : Ints D1 p2 C.next D1.next L2) (w1 : Wrt D1 p1 C.next D1.next L1.length) (w2 : Wrt D1 p2 C.next D1.next L2.length)
    (hx2 : Nx D1.next D1 D2) (hn2 : D2.next = D1.next + 1) (e0 : cl D2 D1.next 0 = some (.int .i64 mm)) (e1 : cl D2 D1.next 1 = some (.slice p1 L1.length c1)) (e2 : cl D2 D1.next 2 = some (.slice p2 L2.length c2))
    (hR : TldR D2 e m s v' D3) :
    ∃ p3 c3 p4 c4, v' = .tuple #[.agg #[.int .i64 mm, .slice p3 L1.length c3, .slice p4 L2.length c4], .int .i64 ee] ∧ Nx D2.next D2 D3 ∧
      ∀ D4, Nx D3.next D3 D4 → D4.next = D3.next + 1 → cl D4 D3.next 0 = some (.int .i64 mm) → cl D4 D3.next 1 = some (.slice p3 L1.length c3) → cl D4 D3.next 2 = some (.slice p4 L2.length c4) →
        Pr C.next D1.next D4 D1.next D3.next ⟨mm, p1, c1, L1, p2, c2, L2⟩ ⟨mm, p3, c3, L1, p4, c4, L2⟩ := by
  obtain ⟨hD3, mm', L1', L2', ee', p3, c3, p4, c4, hT', rfl, i3, i4⟩ := hR
  obtain ⟨rfl, rfl, rfl, rfl⟩ := hT.uniq hT'
  obtain ⟨hl1, hl2⟩ := hT.len
  refine ⟨p3, c3, p4, c4, rfl, hD3, fun D4 hx4 hn4 f0 f1 f2 => ?_⟩
  have h24 : Nx D2.next D2 D4 := hD3.trans (hx4.le hD3.next)
  have h14 : Nx D1.next D1 D4 := hx2.trans (h24.le hx2.next)
  have n1 := h24.next
  have n2 := hD3.next
  have n3 := hD1.next
  have n12 : D1.next < D2.next := by omega
  exact
    { c0 := (h24.cl n12 0).trans e0, c1 := (h24.cl n12 1).trans e1, c2 := (h24.cl n12 2).trans e2, d0 := f0, d1 := f1, d2 := f2,
      ok := ⟨(i1.nx h14 (Nat.le_refl _)).mono (Nat.zero_le _) h14.next, (i2.nx h14 (Nat.le_refl _)).mono (Nat.zero_le _) h14.next, show L1.length < _ by omega, show L2.length < _ by omega⟩,
      ok' := ⟨(i3.nx hx4 (Nat.le_refl _)).mono (Nat.zero_le _) hx4.next, (i4.nx hx4 (Nat.le_refl _)).mono (Nat.zero_le _) hx4.next, show L1.length < _ by omega, show L2.length < _ by omega⟩,
      lt := show D1.next < D4.next by omega, lt' := show D3.next < D4.next by omega, hb := Nat.le_refl _, tw := ⟨rfl, rfl, rfl⟩,
      w1 := w1.stay fun b _ h => h14.keep _ h, w2 := w2.stay fun b _ h => h14.keep _ h }
/-- What LassoParts asks of the program's Cons (not proved yet: slices.Concat appends a make, see NOTES). -/
def ConsOK : Prop := ∀ (A : AHeap), WF A → ∀ (m v : Int) (sa ra : Option Addr) (sc rc : Nat) (st ro : List Int), Ints A sa 0 A.next st → Ints A ra 0 A.next ro → st.length < 4611686018427387904 → ro.length < 4611686018427387904 →
  Con Try.prog 35 [.int .i64 v, .agg #[.int .i64 m, .slice sa st.length sc, .slice ra ro.length rc]] A (Tld A (erC m st ro v) m (atL (v :: st) ro))
end Go.Proofs.Ytdaljohmfnfgiaa
/- LassoParts: the three streams that are made. No condition. -/
namespace Go.Proofs.Ytdaljohmfnfgiaa
open Go Go.RowKit Go.Proofs.Ytdaljohmfnfgiaa.Canon
set_option maxRecDepth 20000

theorem parts_made (hcons : ConsOK) {C B : AHeap} (hC : WF C) (hCB : Nx C.next C B) {bX bx : Nat} {x x' : Las} (hX : Has C bX x) (hx' : Has C bx x') (tx : Tw x' x) {n v sp ad : Int} (hn63 : n < 9223372036854775808) {pl : Value}
    {s : Slots} (hn : s.n = 159) (s1 : sget s 1 = .int .i64 n) (s2 : sget s 2 = .int .i64 v) (s3 : sget s 3 = .int .i64 sp) (s4 : sget s 4 = .int .i64 ad) (s5 : sget s 5 = .pointer (some ⟨bX, 0, none⟩)) (s11 : sget s 11 = .pointer (some ⟨bx, 0, none⟩)) (s16 : sget s 16 = pl) {Q : Post}
    (hk : ∀ s D lo1 hi1 b1 lo2 hi2 b2 lo3 hi3 b3 y1 z1 y2 z2 y3 z3 e1 e2 e3, Nx B.next B D → Pr lo1 hi1 D hi1 b1 y1 z1 → Pr lo2 hi2 D hi2 b2 y2 z2 → Pr lo3 hi3 D hi3 b3 y3 z3 → B.next ≤ lo1 → lo1 ≤ hi1 → hi1 < lo2 → lo2 ≤ hi2 → hi2 < lo3 → lo3 ≤ hi3 → s.n = 159 → sget s 5 = .pointer (some ⟨bX, 0, none⟩) → sget s 11 = .pointer (some ⟨bx, 0, none⟩) → sget s 16 = pl →
      sget s 20 = .pointer (some ⟨hi1, 0, none⟩) → sget s 21 = .pointer (some ⟨b1, 0, none⟩) → sget s 22 = .pointer (some ⟨hi2, 0, none⟩) → sget s 23 = .pointer (some ⟨b2, 0, none⟩) → sget s 24 = .pointer (some ⟨hi3, 0, none⟩) → sget s 26 = .pointer (some ⟨b3, 0, none⟩) →
      sget s 13 = .int .i64 e1 → sget s 15 = .int .i64 e1 → sget s 17 = .int .i64 e2 → sget s 19 = .int .i64 e2 → sget s 25 = .int .i64 e3 → sget s 27 = .int .i64 e3 → Rn Try.prog 4 none [.code (restN 14 (Try.f4.body.getD .skip))] s [] D Q) :
    Rn Try.prog 4 none [.code (restN 8 (Try.f4.body.getD .skip))] s [] B Q := by
  have hC : Nx C.next C C := Nx.refl hC _
  have HX := hX.nx hC.wf hCB
  have Hx := hx'.nx hC.wf hCB
  have g0 := Hx.c0
  have g1 := Hx.c1
  have g2 := Hx.c2
  obtain ⟨o1, o2, o3, o4⟩ := Hx.ok
  refine Rn.seq hc ?_
  refine Rn.region hc fun K hK => ?_
  refine Wo.run hc 2 rfl rfl rfl ?_
  simp (maxSteps := 2000000) only [List.drop_zero, List.take_succ_cons, List.take_zero, sev_tmp, sg_ne, ne_eq, Nat.reduceEqDiff, not_false_eq_true, gd, want_free, rops, fx, ld, adr_p, cls, Nat.zero_add, Option.some.injEq, exists_eq_left', Nat.reduceAdd, tk24, s1, s11, g0, g1, g2]
  refine Wo.call hc (by rfl) (by rfl) ⟨by rfl, by rfl⟩ (xs := [.agg #[.int .i64 x'.m, .slice x'.sa x'.st.length x'.sc, .slice x'.ra x'.ro.length x'.rc], .int .i64 n]) (by rfl) (by rfl) (by simp only [sev_tmp, sg_eq, sg_ne, sp_n, Nat.reduceLT, ne_eq, Nat.reduceEqDiff, not_false_eq_true, List.map_cons, List.map_nil, List.nil_append, List.append_nil, hn]) (Con.mono (tail_run hCB.wf o1 o2 o3 o4 hn63) ?_)
  rintro w E1 hT
  rw [tx.1, tx.2.1, tx.2.2] at hT
  obtain ⟨hE1, mm1, La1, Lb1, ee1, p1, c1, p2, c2, hTP, rfl, i1, i2, w1, w2⟩ := hT
  obtain ⟨E2, q2, hx2, hn2, e0, e1, e2⟩ := put24 hE1.wf (v0 := .int .i64 mm1) (v1 := .slice p1 La1.length c1) (v2 := .slice p2 Lb1.length c2) rfl
  refine Wo.run hc 6 rfl rfl rfl ?_
  simp (maxSteps := 2000000) only [List.drop_zero, List.drop_succ_cons, List.take_succ_cons, List.take_zero, sev_tmp, sg_eq, sg_ne, sp_n, sp_none, Nat.reduceLT, ne_eq, Nat.reduceEqDiff, not_false_eq_true, gd, want_free, rops, fx, str, ext, adr_p, List.getElem?_toArray, List.getElem?_cons_zero, List.getElem?_cons_succ, Nat.zero_add, Option.some.injEq, exists_eq_left', Value.cells, Nat.reduceAdd, tk24, hn, ext, ze24, q2, List.size_toArray, List.length_cons, List.length_nil, Nat.beq_refl]
  refine Wo.done hc rfl (hK _ _ ?_)
  clear hK
  refine Rn.seq hc ?_
  have hCE2 : Nx C.next C E2 := (hCB).trans ((hE1.trans (hx2.le hE1.next)).le (hCB).next)
  have HX := hX.nx hC.wf hCE2
  have g0 := HX.c0
  have g1 := HX.c1
  have g2 := HX.c2
  obtain ⟨o1, o2, o3, o4⟩ := HX.ok
  refine Rn.region hc fun K hK => ?_
  refine Wo.run hc 2 rfl rfl rfl ?_
  simp (maxSteps := 2000000) only [List.drop_zero, List.take_succ_cons, List.take_zero, sev_tmp, sg_ne, ne_eq, Nat.reduceEqDiff, not_false_eq_true, gd, want_free, rops, fx, ld, adr_p, cls, Nat.zero_add, Option.some.injEq, exists_eq_left', Nat.reduceAdd, tk24, s1, s5, g0, g1, g2]
  refine Wo.call hc (by rfl) (by rfl) ⟨by rfl, by rfl⟩ (xs := [.agg #[.int .i64 x.m, .slice x.sa x.st.length x.sc, .slice x.ra x.ro.length x.rc], .int .i64 n]) (by rfl) (by rfl) (by simp only [sev_tmp, sg_eq, sg_ne, sp_n, Nat.reduceLT, ne_eq, Nat.reduceEqDiff, not_false_eq_true, List.map_cons, List.map_nil, List.nil_append, List.append_nil, hn]) (Con.mono (tail_ref hCE2.wf o1 o2 o3 o4 hn63) ?_)
  rintro w E3 hR
  obtain ⟨p3, c3, p4, c4, rfl, hE3, hP⟩ := pair_of hE1 hTP i1 i2 w1 w2 hx2 hn2 e0 e1 e2 hR
  obtain ⟨E4, q4, hx4, hn4, f0, f1, f2⟩ := put24 hE3.wf (v0 := .int .i64 mm1) (v1 := .slice p3 La1.length c3) (v2 := .slice p4 Lb1.length c4) rfl
  have hP1 := hP E4 hx4 hn4 f0 f1 f2
  refine Wo.run hc 6 rfl rfl rfl ?_
  simp (maxSteps := 2000000) only [List.drop_zero, List.drop_succ_cons, List.take_succ_cons, List.take_zero, sev_tmp, sg_eq, sg_ne, sp_n, sp_none, Nat.reduceLT, ne_eq, Nat.reduceEqDiff, not_false_eq_true, gd, want_free, rops, fx, str, ext, adr_p, List.getElem?_toArray, List.getElem?_cons_zero, List.getElem?_cons_succ, Nat.zero_add, Option.some.injEq, exists_eq_left', Value.cells, Nat.reduceAdd, tk24, hn, ext, ze24, q4, List.size_toArray, List.length_cons, List.length_nil, Nat.beq_refl]
  refine Wo.done hc rfl (hK _ _ ?_)
  clear hK
  have hB1 : Nx B.next B E4 := (hE1.trans (hx2.le hE1.next)).trans ((hE3.trans (hx4.le hE3.next)).le (by have := hE1.next; omega))
  have hCE4 : Nx C.next C E4 := (hCB).trans (hB1.le (hCB).next)
  have ne1 := hE1.next
  have ne3 := hE3.next
  obtain ⟨lo1, hlo1⟩ : ∃ x, x = B.next := ⟨_, rfl⟩
  obtain ⟨hi1, hhi1⟩ : ∃ x, x = E1.next := ⟨_, rfl⟩
  obtain ⟨bq1, hbq1⟩ : ∃ x, x = E3.next := ⟨_, rfl⟩
  obtain ⟨F1, hF1⟩ : ∃ x, x = E4 := ⟨_, rfl⟩
  rw [← hlo1, ← hhi1, ← hbq1, ← hF1] at hP1
  rw [← hF1] at hCE4 hB1 hn4 ⊢
  rw [← hlo1] at ne1
  rw [← hhi1] at ne1 hn2
  rw [← hbq1] at ne3 hn4
  rw [hn2] at ne3
  simp only [← hhi1, ← hbq1]
  have hlh1 : lo1 ≤ hi1 := ne1
  have hnF1 : hi1 < F1.next := by omega
  generalize hy1 : (⟨mm1, p1, c1, La1, p2, c2, Lb1⟩ : Las) = y1 at hP1
  generalize hz1 : (⟨mm1, p3, c3, La1, p4, c4, Lb1⟩ : Las) = z1 at hP1
  have hCF1 := hCE4
  clear hCE4 hn4 ne3 ne1 hhi1 hbq1 hF1 hP hR hTP i1 i2 w1 w2 e0 e1 e2 f0 f1 f2 hE1 hE3 hx2 hx4 hn2 q2 q4 hCE2 HX Hx o1 o2 o3 o4 g0 g1 g2 hy1 hz1
  clear E1 E2 E3 E4
  have HX := hX.nx hC.wf hCF1
  have Hx := hx'.nx hC.wf hCF1
  have g0 := Hx.c0
  have g1 := Hx.c1
  have g2 := Hx.c2
  obtain ⟨o1, o2, o3, o4⟩ := Hx.ok
  refine Rn.seq hc ?_
  refine Rn.region hc fun K hK => ?_
  refine Wo.run hc 2 rfl rfl rfl ?_
  simp (maxSteps := 2000000) only [List.drop_zero, List.take_succ_cons, List.take_zero, sev_tmp, sg_ne, ne_eq, Nat.reduceEqDiff, not_false_eq_true, gd, want_free, rops, fx, ld, adr_p, cls, Nat.zero_add, Option.some.injEq, exists_eq_left', Nat.reduceAdd, tk24, s2, s11, g0, g1, g2]
  refine Wo.call hc (by rfl) (by rfl) ⟨by rfl, by rfl⟩ (xs := [.int .i64 v, .agg #[.int .i64 x'.m, .slice x'.sa x'.st.length x'.sc, .slice x'.ra x'.ro.length x'.rc]]) (by rfl) (by rfl) (by simp only [sev_tmp, sg_eq, sg_ne, sp_n, Nat.reduceLT, ne_eq, Nat.reduceEqDiff, not_false_eq_true, List.map_cons, List.map_nil, List.nil_append, List.append_nil, hn]) (Con.mono (hcons _ hCF1.wf _ v _ _ _ _ _ _ o1 o2 o3 o4) ?_)
  rintro w E1 hT
  rw [tx.1, tx.2.1, tx.2.2] at hT
  obtain ⟨hE1, mm2, La2, Lb2, ee2, p1, c1, p2, c2, hTP, rfl, i1, i2, w1, w2⟩ := hT
  obtain ⟨E2, q2, hx2, hn2, e0, e1, e2⟩ := put24 hE1.wf (v0 := .int .i64 mm2) (v1 := .slice p1 La2.length c1) (v2 := .slice p2 Lb2.length c2) rfl
  refine Wo.run hc 6 rfl rfl rfl ?_
  simp (maxSteps := 2000000) only [List.drop_zero, List.drop_succ_cons, List.take_succ_cons, List.take_zero, sev_tmp, sg_eq, sg_ne, sp_n, sp_none, Nat.reduceLT, ne_eq, Nat.reduceEqDiff, not_false_eq_true, gd, want_free, rops, fx, str, ext, adr_p, List.getElem?_toArray, List.getElem?_cons_zero, List.getElem?_cons_succ, Nat.zero_add, Option.some.injEq, exists_eq_left', Value.cells, Nat.reduceAdd, tk24, hn, ext, ze24, q2, List.size_toArray, List.length_cons, List.length_nil, Nat.beq_refl]
  refine Wo.done hc rfl (hK _ _ ?_)
  clear hK
  refine Rn.seq hc ?_
  have hCE2 : Nx C.next C E2 := (hCF1).trans ((hE1.trans (hx2.le hE1.next)).le (hCF1).next)
  have HX := hX.nx hC.wf hCE2
  have g0 := HX.c0
  have g1 := HX.c1
  have g2 := HX.c2
  obtain ⟨o1, o2, o3, o4⟩ := HX.ok
  refine Rn.region hc fun K hK => ?_
  refine Wo.run hc 2 rfl rfl rfl ?_
  simp (maxSteps := 2000000) only [List.drop_zero, List.take_succ_cons, List.take_zero, sev_tmp, sg_ne, ne_eq, Nat.reduceEqDiff, not_false_eq_true, gd, want_free, rops, fx, ld, adr_p, cls, Nat.zero_add, Option.some.injEq, exists_eq_left', Nat.reduceAdd, tk24, s2, s5, g0, g1, g2]
  refine Wo.call hc (by rfl) (by rfl) ⟨by rfl, by rfl⟩ (xs := [.int .i64 v, .agg #[.int .i64 x.m, .slice x.sa x.st.length x.sc, .slice x.ra x.ro.length x.rc]]) (by rfl) (by rfl) (by simp only [sev_tmp, sg_eq, sg_ne, sp_n, Nat.reduceLT, ne_eq, Nat.reduceEqDiff, not_false_eq_true, List.map_cons, List.map_nil, List.nil_append, List.append_nil, hn]) (Con.mono (cons_ref hCE2.wf o1 o2 o3 o4 HX.s2 HX.cr) ?_)
  rintro w E3 hR
  obtain ⟨p3, c3, p4, c4, rfl, hE3, hP⟩ := pair_of hE1 hTP i1 i2 w1 w2 hx2 hn2 e0 e1 e2 hR
  obtain ⟨E4, q4, hx4, hn4, f0, f1, f2⟩ := put24 hE3.wf (v0 := .int .i64 mm2) (v1 := .slice p3 La2.length c3) (v2 := .slice p4 Lb2.length c4) rfl
  have hP2 := hP E4 hx4 hn4 f0 f1 f2
  refine Wo.run hc 6 rfl rfl rfl ?_
  simp (maxSteps := 2000000) only [List.drop_zero, List.drop_succ_cons, List.take_succ_cons, List.take_zero, sev_tmp, sg_eq, sg_ne, sp_n, sp_none, Nat.reduceLT, ne_eq, Nat.reduceEqDiff, not_false_eq_true, gd, want_free, rops, fx, str, ext, adr_p, List.getElem?_toArray, List.getElem?_cons_zero, List.getElem?_cons_succ, Nat.zero_add, Option.some.injEq, exists_eq_left', Value.cells, Nat.reduceAdd, tk24, hn, ext, ze24, q4, List.size_toArray, List.length_cons, List.length_nil, Nat.beq_refl]
  refine Wo.done hc rfl (hK _ _ ?_)
  clear hK
  have hB2 : Nx F1.next F1 E4 := (hE1.trans (hx2.le hE1.next)).trans ((hE3.trans (hx4.le hE3.next)).le (by have := hE1.next; omega))
  have hCE4 : Nx C.next C E4 := (hCF1).trans (hB2.le (hCF1).next)
  have ne1 := hE1.next
  have ne3 := hE3.next
  obtain ⟨lo2, hlo2⟩ : ∃ x, x = F1.next := ⟨_, rfl⟩
  obtain ⟨hi2, hhi2⟩ : ∃ x, x = E1.next := ⟨_, rfl⟩
  obtain ⟨bq2, hbq2⟩ : ∃ x, x = E3.next := ⟨_, rfl⟩
  obtain ⟨F2, hF2⟩ : ∃ x, x = E4 := ⟨_, rfl⟩
  rw [← hlo2, ← hhi2, ← hbq2, ← hF2] at hP2
  rw [← hF2] at hCE4 hB2 hn4 ⊢
  rw [← hlo2] at ne1
  rw [← hhi2] at ne1 hn2
  rw [← hbq2] at ne3 hn4
  rw [hn2] at ne3
  simp only [← hhi2, ← hbq2]
  have hlh2 : lo2 ≤ hi2 := ne1
  have hnF2 : hi2 < F2.next := by omega
  generalize hy2 : (⟨mm2, p1, c1, La2, p2, c2, Lb2⟩ : Las) = y2 at hP2
  generalize hz2 : (⟨mm2, p3, c3, La2, p4, c4, Lb2⟩ : Las) = z2 at hP2
  have hCF2 := hCE4
  clear hCE4 hn4 ne3 ne1 hhi2 hbq2 hF2 hP hR hTP i1 i2 w1 w2 e0 e1 e2 f0 f1 f2 hE1 hE3 hx2 hx4 hn2 q2 q4 hCE2 HX Hx o1 o2 o3 o4 g0 g1 g2 hy2 hz2
  clear E1 E2 E3 E4
  have HX := hX.nx hC.wf hCF2
  have Hx := hx'.nx hC.wf hCF2
  have g0 := Hx.c0
  have g1 := Hx.c1
  have g2 := Hx.c2
  obtain ⟨o1, o2, o3, o4⟩ := Hx.ok
  refine Rn.seq hc ?_
  refine Rn.region hc fun K hK => ?_
  refine Wo.run hc 3 rfl rfl rfl ?_
  simp (maxSteps := 2000000) only [List.drop_zero, List.take_succ_cons, List.take_zero, sev_tmp, sg_ne, ne_eq, Nat.reduceEqDiff, not_false_eq_true, gd, want_free, rops, fx, ld, adr_p, cls, Nat.zero_add, Option.some.injEq, exists_eq_left', Nat.reduceAdd, tk24, s3, s4, s11, g0, g1, g2]
  refine Wo.call hc (by rfl) (by rfl) ⟨by rfl, by rfl⟩ (xs := [.agg #[.int .i64 x'.m, .slice x'.sa x'.st.length x'.sc, .slice x'.ra x'.ro.length x'.rc], .int .i64 sp, .int .i64 ad]) (by rfl) (by rfl) (by simp only [sev_tmp, sg_eq, sg_ne, sp_n, Nat.reduceLT, ne_eq, Nat.reduceEqDiff, not_false_eq_true, List.map_cons, List.map_nil, List.nil_append, List.append_nil, hn]) (Con.mono (every_run hCF2.wf o1 o2 o3 o4) ?_)
  rintro w E1 hT
  rw [tx.1, tx.2.1, tx.2.2] at hT
  obtain ⟨hE1, mm3, La3, Lb3, ee3, p1, c1, p2, c2, hTP, rfl, i1, i2, w1, w2⟩ := hT
  obtain ⟨E2, q2, hx2, hn2, e0, e1, e2⟩ := put24 hE1.wf (v0 := .int .i64 mm3) (v1 := .slice p1 La3.length c1) (v2 := .slice p2 Lb3.length c2) rfl
  refine Wo.run hc 6 rfl rfl rfl ?_
  simp (maxSteps := 2000000) only [List.drop_zero, List.drop_succ_cons, List.take_succ_cons, List.take_zero, sev_tmp, sg_eq, sg_ne, sp_n, sp_none, Nat.reduceLT, ne_eq, Nat.reduceEqDiff, not_false_eq_true, gd, want_free, rops, fx, str, ext, adr_p, List.getElem?_toArray, List.getElem?_cons_zero, List.getElem?_cons_succ, Nat.zero_add, Option.some.injEq, exists_eq_left', Value.cells, Nat.reduceAdd, tk24, hn, ext, ze24, q2, List.size_toArray, List.length_cons, List.length_nil, Nat.beq_refl]
  refine Wo.done hc rfl (hK _ _ ?_)
  clear hK
  refine Rn.seq hc ?_
  have hCE2 : Nx C.next C E2 := (hCF2).trans ((hE1.trans (hx2.le hE1.next)).le (hCF2).next)
  have HX := hX.nx hC.wf hCE2
  have g0 := HX.c0
  have g1 := HX.c1
  have g2 := HX.c2
  obtain ⟨o1, o2, o3, o4⟩ := HX.ok
  refine Rn.region hc fun K hK => ?_
  refine Wo.run hc 3 rfl rfl rfl ?_
  simp (maxSteps := 2000000) only [List.drop_zero, List.take_succ_cons, List.take_zero, sev_tmp, sg_ne, ne_eq, Nat.reduceEqDiff, not_false_eq_true, gd, want_free, rops, fx, ld, adr_p, cls, Nat.zero_add, Option.some.injEq, exists_eq_left', Nat.reduceAdd, tk24, s3, s4, s5, g0, g1, g2]
  refine Wo.call hc (by rfl) (by rfl) ⟨by rfl, by rfl⟩ (xs := [.agg #[.int .i64 x.m, .slice x.sa x.st.length x.sc, .slice x.ra x.ro.length x.rc], .int .i64 sp, .int .i64 ad]) (by rfl) (by rfl) (by simp only [sev_tmp, sg_eq, sg_ne, sp_n, Nat.reduceLT, ne_eq, Nat.reduceEqDiff, not_false_eq_true, List.map_cons, List.map_nil, List.nil_append, List.append_nil, hn]) (Con.mono (every_ref hCE2.wf o1 o2 o3 o4) ?_)
  rintro w E3 hR
  obtain ⟨p3, c3, p4, c4, rfl, hE3, hP⟩ := pair_of hE1 hTP i1 i2 w1 w2 hx2 hn2 e0 e1 e2 hR
  obtain ⟨E4, q4, hx4, hn4, f0, f1, f2⟩ := put24 hE3.wf (v0 := .int .i64 mm3) (v1 := .slice p3 La3.length c3) (v2 := .slice p4 Lb3.length c4) rfl
  have hP3 := hP E4 hx4 hn4 f0 f1 f2
  refine Wo.run hc 6 rfl rfl rfl ?_
  simp (maxSteps := 2000000) only [List.drop_zero, List.drop_succ_cons, List.take_succ_cons, List.take_zero, sev_tmp, sg_eq, sg_ne, sp_n, sp_none, Nat.reduceLT, ne_eq, Nat.reduceEqDiff, not_false_eq_true, gd, want_free, rops, fx, str, ext, adr_p, List.getElem?_toArray, List.getElem?_cons_zero, List.getElem?_cons_succ, Nat.zero_add, Option.some.injEq, exists_eq_left', Value.cells, Nat.reduceAdd, tk24, hn, ext, ze24, q4, List.size_toArray, List.length_cons, List.length_nil, Nat.beq_refl]
  refine Wo.done hc rfl (hK _ _ ?_)
  clear hK
  have hB3 : Nx F2.next F2 E4 := (hE1.trans (hx2.le hE1.next)).trans ((hE3.trans (hx4.le hE3.next)).le (by have := hE1.next; omega))
  have hCE4 : Nx C.next C E4 := (hCF2).trans (hB3.le (hCF2).next)
  have ne1 := hE1.next
  have ne3 := hE3.next
  obtain ⟨lo3, hlo3⟩ : ∃ x, x = F2.next := ⟨_, rfl⟩
  obtain ⟨hi3, hhi3⟩ : ∃ x, x = E1.next := ⟨_, rfl⟩
  obtain ⟨bq3, hbq3⟩ : ∃ x, x = E3.next := ⟨_, rfl⟩
  obtain ⟨F3, hF3⟩ : ∃ x, x = E4 := ⟨_, rfl⟩
  rw [← hlo3, ← hhi3, ← hbq3, ← hF3] at hP3
  rw [← hF3] at hCE4 hB3 hn4 ⊢
  rw [← hlo3] at ne1
  rw [← hhi3] at ne1 hn2
  rw [← hbq3] at ne3 hn4
  rw [hn2] at ne3
  simp only [← hhi3, ← hbq3]
  have hlh3 : lo3 ≤ hi3 := ne1
  have hnF3 : hi3 < F3.next := by omega
  generalize hy3 : (⟨mm3, p1, c1, La3, p2, c2, Lb3⟩ : Las) = y3 at hP3
  generalize hz3 : (⟨mm3, p3, c3, La3, p4, c4, Lb3⟩ : Las) = z3 at hP3
  have hCF3 := hCE4
  clear hCE4 hn4 ne3 ne1 hhi3 hbq3 hF3 hP hR hTP i1 i2 w1 w2 e0 e1 e2 f0 f1 f2 hE1 hE3 hx2 hx4 hn2 q2 q4 hCE2 HX Hx o1 o2 o3 o4 g0 g1 g2 hy3 hz3
  clear E1 E2 E3 E4
  have hP1 := (hP1.nx hB2).nx hB3
  have hP2 := hP2.nx hB3
  refine hk _ F3 lo1 hi1 bq1 lo2 hi2 bq2 lo3 hi3 bq3 y1 z1 y2 z2 y3 z3 ee1 ee2 ee3 (hB1.trans ((hB2.trans (hB3.le hB2.next)).le hB1.next)) hP1 hP2 hP3 (by omega) hlh1 (by omega) hlh2 (by omega) hlh3 (by simp only [sp_n, hn]) (by simp only [sg_ne, ne_eq, Nat.reduceEqDiff, not_false_eq_true, s5]) (by simp only [sg_ne, ne_eq, Nat.reduceEqDiff, not_false_eq_true, s11]) (by simp only [sg_ne, ne_eq, Nat.reduceEqDiff, not_false_eq_true, s16]) (by simp only [sg_eq, sg_ne, sp_n, Nat.reduceLT, ne_eq, Nat.reduceEqDiff, not_false_eq_true, hn]) (by simp only [sg_eq, sg_ne, sp_n, Nat.reduceLT, ne_eq, Nat.reduceEqDiff, not_false_eq_true, hn]) (by simp only [sg_eq, sg_ne, sp_n, Nat.reduceLT, ne_eq, Nat.reduceEqDiff, not_false_eq_true, hn]) (by simp only [sg_eq, sg_ne, sp_n, Nat.reduceLT, ne_eq, Nat.reduceEqDiff, not_false_eq_true, hn]) (by simp only [sg_eq, sg_ne, sp_n, Nat.reduceLT, ne_eq, Nat.reduceEqDiff, not_false_eq_true, hn]) (by simp only [sg_eq, sg_ne, sp_n, Nat.reduceLT, ne_eq, Nat.reduceEqDiff, not_false_eq_true, hn]) (by simp only [sg_eq, sg_ne, sp_n, Nat.reduceLT, ne_eq, Nat.reduceEqDiff, not_false_eq_true, hn]) (by simp only [sg_eq, sg_ne, sp_n, Nat.reduceLT, ne_eq, Nat.reduceEqDiff, not_false_eq_true, hn]) (by simp only [sg_eq, sg_ne, sp_n, Nat.reduceLT, ne_eq, Nat.reduceEqDiff, not_false_eq_true, hn]) (by simp only [sg_eq, sg_ne, sp_n, Nat.reduceLT, ne_eq, Nat.reduceEqDiff, not_false_eq_true, hn]) (by simp only [sg_eq, sg_ne, sp_n, Nat.reduceLT, ne_eq, Nat.reduceEqDiff, not_false_eq_true, hn]) (by simp only [sg_eq, sp_n, Nat.reduceLT, hn])
end Go.Proofs.Ytdaljohmfnfgiaa
/- LassoParts: how it ends. No condition. -/
namespace Go.Proofs.Ytdaljohmfnfgiaa
open Go Go.RowKit Go.Proofs.Ytdaljohmfnfgiaa.Canon
set_option maxRecDepth 20000

/-- A result that may be written, and its variable. -/
structure Sp (lo hi : Nat) (D : AHeap) (b : Nat) (y : Las) : Prop where
  c0 : cl D b 0 = some (.int .i64 y.m)
  c1 : cl D b 1 = some (.slice y.sa y.st.length y.sc)
  c2 : cl D b 2 = some (.slice y.ra y.ro.length y.rc)
  lt : b < D.next
  hb : hi ≤ b
  ln : y.ro.length < 4611686018427387904
  w1 : Wrt D y.sa lo hi y.st.length
  w2 : Wrt D y.ra lo hi y.ro.length
theorem Pr.sp {lo hi : Nat} {D : AHeap} {b b' : Nat} {y y' : Las} (h : Pr lo hi D b b' y y') : Sp lo hi D b y := ⟨h.c0, h.c1, h.c2, h.lt, h.hb, h.ok.2.2.2, h.w1, h.w2⟩
theorem Sp.off {lo hi lo' hi' : Nat} {D E : AHeap} {b : Nat} {y : Las} (h : Sp lo hi D b y) (k : Off lo' hi' D E) (hl : hi' ≤ lo) (hlh : lo ≤ hi) : Sp lo hi E b y :=
  ⟨(cl_look (k.keep _ h.lt (.inr (by have := h.hb; omega)))).trans h.c0, (cl_look (k.keep _ h.lt (.inr (by have := h.hb; omega)))).trans h.c1, (cl_look (k.keep _ h.lt (.inr (by have := h.hb; omega)))).trans h.c2, Nat.lt_of_lt_of_le h.lt k.next, h.hb, h.ln,
    h.w1.stay fun b' h1 h2 => k.keep _ (by have := h.hb; have := h.lt; omega) (.inr (by omega)), h.w2.stay fun b' h1 h2 => k.keep _ (by have := h.hb; have := h.lt; omega) (.inr (by omega))⟩
theorem nx_off {C D E : AHeap} {lo hi : Nat} (h : Nx C.next C D) (k : Off lo hi D E) (hl : C.next ≤ lo) : Nx C.next C E :=
  ⟨Nat.le_trans h.next k.next, k.wf, fun b hb => (k.keep b (Nat.lt_of_lt_of_le hb h.next) (.inl (by omega))).trans (h.keep b hb)⟩
theorem Szs.off {A B : AHeap} {lo hi : Nat} (h : Szs lo hi A B) : Off lo hi A B := ⟨Nat.le_of_eq h.next.symm, h.wf, fun b _ hb => h.keep b hb⟩

theorem parts_rest {A C B D : AHeap} (hA : Nx A.next A C) (hCB : Nx C.next C B) (hBD : Nx B.next B D) {bX bx : Nat} {x x' : Las} (hX : Has C bX x) (hx' : Has C bx x') (tx : Tw x' x)
    {pa : Option Addr} {pn pc lo0 hi0 : Nat} (hw0 : Wrt B pa lo0 hi0 pn) (hl0 : C.next ≤ lo0) (hh0 : hi0 ≤ B.next) {lo1 hi1 b1 lo2 hi2 b2 lo3 hi3 b3 : Nat} {y1 z1 y2 z2 y3 z3 : Las} {e1 e2 e3 : Int}
    (hP1 : Pr lo1 hi1 D hi1 b1 y1 z1) (hP2 : Pr lo2 hi2 D hi2 b2 y2 z2) (hP3 : Pr lo3 hi3 D hi3 b3 y3 z3) (q1 : B.next ≤ lo1) (q2 : lo1 ≤ hi1) (q3 : hi1 < lo2) (q4 : lo2 ≤ hi2) (q5 : hi2 < lo3) (q6 : lo3 ≤ hi3)
    {s : Slots} (hn : s.n = 159) (s5 : sget s 5 = .pointer (some ⟨bX, 0, none⟩)) (s11 : sget s 11 = .pointer (some ⟨bx, 0, none⟩)) (s16 : sget s 16 = .slice pa pn pc)
    (s20 : sget s 20 = .pointer (some ⟨hi1, 0, none⟩)) (s21 : sget s 21 = .pointer (some ⟨b1, 0, none⟩)) (s22 : sget s 22 = .pointer (some ⟨hi2, 0, none⟩)) (s23 : sget s 23 = .pointer (some ⟨b2, 0, none⟩)) (s24 : sget s 24 = .pointer (some ⟨hi3, 0, none⟩)) (s26 : sget s 26 = .pointer (some ⟨b3, 0, none⟩))
    (s13 : sget s 13 = .int .i64 e1) (s15 : sget s 15 = .int .i64 e1) (s17 : sget s 17 = .int .i64 e2) (s19 : sget s 19 = .int .i64 e2) (s25 : sget s 25 = .int .i64 e3) (s27 : sget s 27 = .int .i64 e3) :
    Rn Try.prog 4 none [.code (restN 14 (Try.f4.body.getD .skip))] s [] D (endQ Try.prog Try.f4 (fun w A1 => w = .bool true ∧ Nx A.next A A1)) := by
  refine Rn.seq hc ?_
  have a0 := hP1.c0
  have a1 := hP1.c1
  have a2 := hP1.c2
  have a3 := hP1.d0
  have a4 := hP1.d1
  have a5 := hP1.d2
  refine Rn.region hc fun K hK => ?_
  refine Wo.run hc 2 rfl rfl rfl ?_
  simp (maxSteps := 2000000) only [List.drop_zero, List.take_succ_cons, List.take_zero, sev_tmp, sg_ne, ne_eq, Nat.reduceEqDiff, not_false_eq_true, gd, want_free, rops, fx, ld, adr_p, cls, Nat.zero_add, Option.some.injEq, exists_eq_left', Nat.reduceAdd, tk24, s20, s21, a0, a1, a2, a3, a4, a5]
  refine Wo.call hc (by rfl) (by rfl) ⟨by rfl, by rfl⟩ (xs := [y1.v, z1.v]) (by rfl) (by rfl) (by simp only [sev_tmp, sg_eq, sg_ne, sp_n, Nat.reduceLT, ne_eq, Nat.reduceEqDiff, not_false_eq_true, List.map_cons, List.map_nil, List.nil_append, List.append_nil, hn]; rfl) (Con.mono (same_true hBD.wf hP1.ok' hP1.ok hP1.tw) ?_)
  rintro w E1 ⟨rfl, k1⟩
  have hP2' := hP2.nx k1
  have a0 := hP2'.c0
  have a1 := hP2'.c1
  have a2 := hP2'.c2
  have a3 := hP2'.d0
  have a4 := hP2'.d1
  have a5 := hP2'.d2
  refine Wo.run hc 8 rfl rfl rfl ?_
  simp (maxSteps := 2000000) only [List.drop_zero, List.drop_succ_cons, List.take_succ_cons, List.take_zero, sev_tmp, sg_eq, sg_ne, sp_n, Nat.reduceLT, ne_eq, Nat.reduceEqDiff, not_false_eq_true, gd, nth, want_free, want_slot, beqB, rops, fx, ld, pck, bin_eql, adr_p, cls, Nat.zero_add, Option.some.injEq, exists_eq_left', Nat.reduceAdd, tk24, hn, s13, s15, s22, s23, eq_self, decide_true, a0, a1, a2, a3, a4, a5]
  refine Wo.call hc (by rfl) (by rfl) ⟨by rfl, by rfl⟩ (xs := [y2.v, z2.v]) (by simp only [sg_eq, sg_ne, sp_n, Nat.reduceLT, ne_eq, Nat.reduceEqDiff, not_false_eq_true, gd, nth, want_slot, beqB, hn]) (by rfl) (by simp only [sev_tmp, sg_eq, sg_ne, sp_n, Nat.reduceLT, ne_eq, Nat.reduceEqDiff, not_false_eq_true, List.map_cons, List.map_nil, List.nil_append, List.append_nil, hn]; rfl) (Con.mono (same_true k1.wf hP2'.ok' hP2'.ok hP2'.tw) ?_)
  rintro w E2 ⟨rfl, k2⟩
  have hP3' := (hP3.nx k1).nx k2
  have a0 := hP3'.c0
  have a1 := hP3'.c1
  have a2 := hP3'.c2
  have a3 := hP3'.d0
  have a4 := hP3'.d1
  have a5 := hP3'.d2
  refine Wo.run hc 9 rfl rfl rfl ?_
  simp (maxSteps := 2000000) only [List.drop_zero, List.drop_succ_cons, List.take_succ_cons, List.take_zero, sev_tmp, sg_eq, sg_ne, sp_n, Nat.reduceLT, ne_eq, Nat.reduceEqDiff, not_false_eq_true, gd, nth, want_free, want_slot, beqB, rops, fx, ld, pck, bin_eql, adr_p, cls, Nat.zero_add, Option.some.injEq, exists_eq_left', Nat.reduceAdd, tk24, hn, s17, s19, s24, s26, eq_self, decide_true, a0, a1, a2, a3, a4, a5]
  refine Wo.call hc (by rfl) (by rfl) ⟨by rfl, by rfl⟩ (xs := [y3.v, z3.v]) (by simp only [sg_eq, sg_ne, sp_n, Nat.reduceLT, ne_eq, Nat.reduceEqDiff, not_false_eq_true, gd, nth, want_slot, beqB, hn]) (by rfl) (by simp only [sev_tmp, sg_eq, sg_ne, sp_n, Nat.reduceLT, ne_eq, Nat.reduceEqDiff, not_false_eq_true, List.map_cons, List.map_nil, List.nil_append, List.append_nil, hn]; rfl) (Con.mono (same_true k2.wf hP3'.ok' hP3'.ok hP3'.tw) ?_)
  rintro w E ⟨rfl, k3⟩
  refine Wo.run hc 7 rfl rfl rfl ?_
  simp (maxSteps := 2000000) only [List.drop_zero, List.drop_succ_cons, List.take_succ_cons, List.take_zero, sev_tmp, sg_eq, sg_ne, sp_n, Nat.reduceLT, ne_eq, Nat.reduceEqDiff, not_false_eq_true, gd, nth, want_free, want_slot, beqB, rops, fx, pck, bin_eql, Option.some.injEq, exists_eq_left', Nat.reduceAdd, hn, s25, s27, eq_self, decide_true]
  refine Wo.done hc rfl (hK _ _ ?_)
  clear hK a0 a1 a2 a3 a4 a5
  have hDE : Nx D.next D E := k1.trans ((k2.trans (k3.le k2.next)).le k1.next)
  have p1 := (hP1.nx hDE).sp
  have p2 := (hP2.nx hDE).sp
  have p3 := (hP3.nx hDE).sp
  have hBE : Nx B.next B E := hBD.trans (hDE.le hBD.next)
  have hCE : Nx C.next C E := hCB.trans (hBE.le hCB.next)
  have nCB := hCB.next
  have nBE := hBE.next
  refine Rn.slots (I := fun s => s.n = 159 ∧ sget s 5 = .pointer (some ⟨bX, 0, none⟩) ∧ sget s 11 = .pointer (some ⟨bx, 0, none⟩) ∧ sget s 16 = .slice pa pn pc ∧ sget s 20 = .pointer (some ⟨hi1, 0, none⟩) ∧ sget s 22 = .pointer (some ⟨hi2, 0, none⟩) ∧ sget s 24 = .pointer (some ⟨hi3, 0, none⟩) ∧ sget s 28 = .bool true)
    ⟨by simp only [sp_n, hn], by simp only [sg_ne, ne_eq, Nat.reduceEqDiff, not_false_eq_true, s5], by simp only [sg_ne, ne_eq, Nat.reduceEqDiff, not_false_eq_true, s11], by simp only [sg_ne, ne_eq, Nat.reduceEqDiff, not_false_eq_true, s16], by simp only [sg_ne, ne_eq, Nat.reduceEqDiff, not_false_eq_true, s20], by simp only [sg_ne, ne_eq, Nat.reduceEqDiff, not_false_eq_true, s22], by simp only [sg_ne, ne_eq, Nat.reduceEqDiff, not_false_eq_true, s24], by simp only [sg_eq, sp_n, Nat.reduceLT, hn]⟩ ?_
  clear hn s5 s11 s16 s20 s21 s22 s23 s24 s26 s13 s15 s17 s19 s25 s27 s
  rintro s ⟨hn, s5, s11, s16, s20, s22, s24, s28⟩
  refine Rn.seq hc ?_
  have a0 := p1.c0
  have a1 := p1.c1
  have a2 := p1.c2
  refine Rn.region hc fun K hK => ?_
  refine Wo.run hc 1 rfl rfl rfl ?_
  simp (maxSteps := 2000000) only [List.drop_zero, List.take_succ_cons, List.take_zero, sev_tmp, gd, want_free, rops, fx, ld, adr_p, cls, Nat.zero_add, Option.some.injEq, exists_eq_left', Nat.reduceAdd, tk24, s20, a0, a1, a2]
  refine Wo.call hc (by rfl) (by rfl) ⟨by rfl, by rfl⟩ (xs := [.agg #[.int .i64 y1.m, .slice y1.sa y1.st.length y1.sc, .slice y1.ra y1.ro.length y1.rc]]) (by rfl) (by rfl) (by simp only [sev_tmp, sg_eq, Nat.reduceLT, List.map_cons, List.map_nil, List.nil_append, List.append_nil, hn]) (Con.mono (spoil_off hCE.wf (show hi1 ≤ E.next by have := p1.lt; omega) p1.w1 p1.w2 p1.ln) ?_)
  rintro w G1 j1
  refine Wo.done hc rfl (hK _ _ ?_)
  clear hK
  refine Rn.seq hc ?_
  have p2 := p2.off j1 (by omega) q4
  have p3 := p3.off j1 (by omega) q6
  have a0 := p2.c0
  have a1 := p2.c1
  have a2 := p2.c2
  have hC1 := nx_off hCE j1 (by omega)
  refine Rn.region hc fun K hK => ?_
  refine Wo.run hc 1 rfl rfl rfl ?_
  simp (maxSteps := 2000000) only [List.drop_zero, List.take_succ_cons, List.take_zero, sev_tmp, sg_ne, ne_eq, Nat.reduceEqDiff, not_false_eq_true, gd, want_free, rops, fx, ld, adr_p, cls, Nat.zero_add, Option.some.injEq, exists_eq_left', Nat.reduceAdd, tk24, s22, a0, a1, a2]
  refine Wo.call hc (by rfl) (by rfl) ⟨by rfl, by rfl⟩ (xs := [.agg #[.int .i64 y2.m, .slice y2.sa y2.st.length y2.sc, .slice y2.ra y2.ro.length y2.rc]]) (by rfl) (by rfl) (by simp only [sev_tmp, sg_eq, sp_n, Nat.reduceLT, List.map_cons, List.map_nil, List.nil_append, List.append_nil, hn]) (Con.mono (spoil_off j1.wf (show hi2 ≤ G1.next by have := p2.lt; omega) p2.w1 p2.w2 p2.ln) ?_)
  rintro w G2 j2
  refine Wo.done hc rfl (hK _ _ ?_)
  clear hK
  refine Rn.seq hc ?_
  have p3 := p3.off j2 (by omega) q6
  have a0 := p3.c0
  have a1 := p3.c1
  have a2 := p3.c2
  have hC2 := nx_off hC1 j2 (by omega)
  refine Rn.region hc fun K hK => ?_
  refine Wo.run hc 1 rfl rfl rfl ?_
  simp (maxSteps := 2000000) only [List.drop_zero, List.take_succ_cons, List.take_zero, sev_tmp, sg_ne, ne_eq, Nat.reduceEqDiff, not_false_eq_true, gd, want_free, rops, fx, ld, adr_p, cls, Nat.zero_add, Option.some.injEq, exists_eq_left', Nat.reduceAdd, tk24, s24, a0, a1, a2]
  refine Wo.call hc (by rfl) (by rfl) ⟨by rfl, by rfl⟩ (xs := [.agg #[.int .i64 y3.m, .slice y3.sa y3.st.length y3.sc, .slice y3.ra y3.ro.length y3.rc]]) (by rfl) (by rfl) (by simp only [sev_tmp, sg_eq, sp_n, Nat.reduceLT, List.map_cons, List.map_nil, List.nil_append, List.append_nil, hn]) (Con.mono (spoil_off j2.wf (show hi3 ≤ G2.next by have := p3.lt; omega) p3.w1 p3.w2 p3.ln) ?_)
  rintro w G3 j3
  refine Wo.done hc rfl (hK _ _ ?_)
  clear hK
  refine Rn.seq hc ?_
  have hC3 := nx_off hC2 j3 (by omega)
  have n1 := j1.next
  have n2 := j2.next
  have hw3 : Wrt G3 pa lo0 hi0 pn := hw0.stay fun b _ hb => by
    rw [j3.keep _ (by omega) (.inl (by omega)), j2.keep _ (by omega) (.inl (by omega)), j1.keep _ (by omega) (.inl (by omega)), hBE.keep _ (by omega)]
  refine Rn.region hc fun K hK => ?_
  refine Wo.run hc 1 rfl rfl rfl ?_
  simp (maxSteps := 2000000) only [List.drop_zero, List.take_succ_cons, List.take_zero, sev_tmp, sg_ne, ne_eq, Nat.reduceEqDiff, not_false_eq_true, gd, want_free, rops, fx, Nat.zero_add, Option.some.injEq, exists_eq_left', s16]
  refine Wo.clear (x := 149) (c := pc) (by rfl) (by rfl) (by rfl) j3.wf hw3 (by simp only [sg_eq, sp_n, Nat.reduceLT, hn]) fun H hH => ?_
  refine Wo.done hc rfl (hK _ _ ?_)
  clear hK a0 a1 a2
  refine Rn.seq hc ?_
  have hCH := nx_off hC3 hH.off (by omega)
  have hXe := hX.nx hA.wf hCH
  have hxe := hx'.nx hA.wf hCH
  have g0 := hxe.c0
  have g1 := hxe.c1
  have g2 := hxe.c2
  have h0 := hXe.c0
  have h1 := hXe.c1
  have h2 := hXe.c2
  refine Rn.region hc fun K hK => ?_
  refine Wo.run hc 4 rfl rfl rfl ?_
  simp (maxSteps := 2000000) only [List.drop_zero, List.take_succ_cons, List.take_zero, sev_tmp, sg_eq, sg_ne, sp_n, sp_none, Nat.reduceLT, ne_eq, Nat.reduceEqDiff, not_false_eq_true, gd, nth, want_free, want_slot, beqB, rops, fx, ld, adr_p, cls, Nat.zero_add, Option.some.injEq, exists_eq_left', Nat.reduceAdd, tk24, hn, s5, s11, s28, g0, g1, g2, h0, h1, h2]
  refine Wo.call hc (by rfl) (by rfl) ⟨by rfl, by rfl⟩ (xs := [x'.v, x.v]) (by simp only [sg_eq, sg_ne, sp_n, Nat.reduceLT, ne_eq, Nat.reduceEqDiff, not_false_eq_true, gd, nth, want_slot, beqB, hn]) (by rfl) (by simp only [sev_tmp, sg_eq, sg_ne, sp_n, Nat.reduceLT, ne_eq, Nat.reduceEqDiff, not_false_eq_true, List.map_cons, List.map_nil, List.nil_append, List.append_nil, hn]; rfl) (Con.mono (same_true hCH.wf hXe.ok hxe.ok tx) ?_)
  rintro w E2 ⟨rfl, k2⟩
  refine Wo.run hc 2 rfl rfl rfl ?_
  simp (maxSteps := 2000000) only [List.drop_zero, List.drop_succ_cons, List.take_succ_cons, List.take_zero, sev_tmp, sg_eq, sg_ne, sp_n, Nat.reduceLT, ne_eq, Nat.reduceEqDiff, not_false_eq_true, gd, want_free, rops, fx, pck, Option.some.injEq, exists_eq_left', Nat.reduceAdd, hn]
  refine Wo.call hc (by rfl) (by rfl) ⟨by rfl, by rfl⟩ (xs := []) (by simp only [sg_eq, sp_n, Nat.reduceLT, gd, nth, want_slot, beqB, hn]) (by rfl) (by rfl) (Con.mono (awake_con E2) ?_)
  rintro w E3 ⟨rfl, rfl⟩
  refine Wo.run hc 2 rfl rfl rfl ?_
  simp (maxSteps := 2000000) only [List.drop_zero, List.drop_succ_cons, List.take_succ_cons, List.take_zero, sev_tmp, sg_eq, sg_ne, sp_n, Nat.reduceLT, ne_eq, Nat.reduceEqDiff, not_false_eq_true, gd, want_free, rops, fx, pck, Option.some.injEq, exists_eq_left', Nat.reduceAdd, hn]
  refine Wo.done hc rfl (hK _ _ ?_)
  clear hK
  (repeat (first | refine Rn.seq hc ?_ | refine Rn.skip hc ?_ | refine Rn.block hc ?_ | refine Rn.inBlock hc ?_ | refine Rn.scope hc ?_ | refine Rn.inScope hc ?_))
  refine Rn.ret (endQ_tmp rfl ⟨?_, hA.trans ((hCH.trans (k2.le hCH.next)).le hA.next)⟩)
  simp only [sg_eq, sp_n, Nat.reduceLT, hn]
end Go.Proofs.Ytdaljohmfnfgiaa
/- LassoParts: one element, and the first ones; the law. The condition ConsOK, which is not proved yet. -/
namespace Go.Proofs.Ytdaljohmfnfgiaa
open Go Go.RowKit Go.Proofs.Ytdaljohmfnfgiaa.Canon
set_option maxRecDepth 20000

theorem nthV_two (m : Int) (st ro : List Int) (n : Int) : ∃ q e, nthV m st ro n = .tuple #[.int .i64 q, .int .i64 e] := by
  unfold nthV
  by_cases h : errL m st ro = 0
  · rw [if_pos h]
    by_cases h' : n < 0
    · rw [if_pos h']; exact ⟨_, _, rfl⟩
    · rw [if_neg h']; exact ⟨_, _, rfl⟩
  · rw [if_neg h]; exact ⟨_, _, rfl⟩
theorem TakeQ.eq {m n : Int} {st ro : List Int} {L L' : List Int} {e e' : Int} (h1 : errL m st ro ≠ 0 → L = [] ∧ e = errL m st ro) (h2 : errL m st ro = 0 → ¬ (0 ≤ n ∧ n ≤ 4096) → L = [] ∧ e = 3) (h3 : errL m st ro = 0 → 0 ≤ n ∧ n ≤ 4096 → L = takeL st ro 0 n.toNat ∧ e = 0)
    (k1 : errL m st ro ≠ 0 → L' = [] ∧ e' = errL m st ro) (k2 : errL m st ro = 0 → ¬ (0 ≤ n ∧ n ≤ 4096) → L' = [] ∧ e' = 3) (k3 : errL m st ro = 0 → 0 ≤ n ∧ n ≤ 4096 → L' = takeL st ro 0 n.toNat ∧ e' = 0) : L = L' ∧ e = e' ∧ L.length ≤ 4096 := by
  by_cases h : errL m st ro = 0
  · by_cases h' : 0 ≤ n ∧ n ≤ 4096
    · obtain ⟨rfl, rfl⟩ := h3 h h'
      obtain ⟨rfl, rfl⟩ := k3 h h'
      refine ⟨rfl, rfl, ?_⟩
      rw [takeL_len]
      omega
    · obtain ⟨rfl, rfl⟩ := h2 h h'
      obtain ⟨rfl, rfl⟩ := k2 h h'
      exact ⟨rfl, rfl, by simp⟩
  · obtain ⟨rfl, rfl⟩ := h1 h
    obtain ⟨rfl, rfl⟩ := k1 h
    exact ⟨rfl, rfl, by simp⟩
theorem parts_start {C : AHeap} (hw : WF C) {bX bx : Nat} {x x' : Las} (hX : Has C bX x) (hx' : Has C bx x') (tx : Tw x' x) {n v sp ad : Int} (hn63 : n < 9223372036854775808)
    {s : Slots} (hn : s.n = 159) (s1 : sget s 1 = .int .i64 n) (s2 : sget s 2 = .int .i64 v) (s3 : sget s 3 = .int .i64 sp) (s4 : sget s 4 = .int .i64 ad) (s5 : sget s 5 = .pointer (some ⟨bX, 0, none⟩)) (s11 : sget s 11 = .pointer (some ⟨bx, 0, none⟩)) {Q : Post}
    (hk : ∀ s B pa pn pc hi0, Nx C.next C B → Wrt B pa C.next hi0 pn → hi0 ≤ B.next → s.n = 159 → sget s 1 = .int .i64 n → sget s 2 = .int .i64 v → sget s 3 = .int .i64 sp → sget s 4 = .int .i64 ad → sget s 5 = .pointer (some ⟨bX, 0, none⟩) → sget s 11 = .pointer (some ⟨bx, 0, none⟩) → sget s 16 = .slice pa pn pc → Rn Try.prog 4 none [.code (restN 8 (Try.f4.body.getD .skip))] s [] B Q) :
    Rn Try.prog 4 none [.code (restN 3 (Try.f4.body.getD .skip))] s [] C Q := by
  obtain ⟨q, e, hqe⟩ := nthV_two x.m x.st x.ro n
  have hqe' : nthV x'.m x'.st x'.ro n = .tuple #[.int .i64 q, .int .i64 e] := by rw [tx.1, tx.2.1, tx.2.2]; exact hqe
  refine Rn.seq hc ?_
  have g0 := hx'.c0
  have g1 := hx'.c1
  have g2 := hx'.c2
  obtain ⟨o1, o2, o3, o4⟩ := hx'.ok
  refine Rn.region hc fun K hK => ?_
  refine Wo.run hc 2 rfl rfl rfl ?_
  simp (maxSteps := 2000000) only [List.drop_zero, List.take_succ_cons, List.take_zero, sev_tmp, sg_ne, ne_eq, Nat.reduceEqDiff, not_false_eq_true, gd, want_free, rops, fx, ld, adr_p, cls, Nat.zero_add, Option.some.injEq, exists_eq_left', Nat.reduceAdd, tk24, s1, s11, g0, g1, g2]
  refine Wo.call hc (by rfl) (by rfl) ⟨by rfl, by rfl⟩ (xs := [.agg #[.int .i64 x'.m, .slice x'.sa x'.st.length x'.sc, .slice x'.ra x'.ro.length x'.rc], .int .i64 n]) (by rfl) (by rfl) (by simp only [sev_tmp, sg_eq, sg_ne, sp_n, Nat.reduceLT, ne_eq, Nat.reduceEqDiff, not_false_eq_true, List.map_cons, List.map_nil, List.nil_append, List.append_nil, hn]) (Con.mono (nth_run hw o1 o2 o3 o4 hn63) ?_)
  rintro w D1 ⟨rfl, k1⟩
  rw [hqe']
  refine Wo.run hc 5 rfl rfl rfl ?_
  simp (maxSteps := 2000000) only [List.drop_zero, List.drop_succ_cons, List.take_succ_cons, List.take_zero, sev_tmp, sg_eq, sg_ne, sp_n, Nat.reduceLT, ne_eq, Nat.reduceEqDiff, not_false_eq_true, gd, want_free, rops, fx, ext, List.getElem?_toArray, List.getElem?_cons_zero, List.getElem?_cons_succ, Option.some.injEq, exists_eq_left', Nat.reduceAdd, hn, ext]
  refine Wo.done hc rfl (hK _ _ ?_)
  clear hK
  refine Rn.seq hc ?_
  have hX1 := hX.nx hw k1
  have g0 := hX1.c0
  have g1 := hX1.c1
  have g2 := hX1.c2
  obtain ⟨o1, o2, o3, o4⟩ := hX1.ok
  refine Rn.region hc fun K hK => ?_
  refine Wo.run hc 2 rfl rfl rfl ?_
  simp (maxSteps := 2000000) only [List.drop_zero, List.take_succ_cons, List.take_zero, sev_tmp, sg_ne, ne_eq, Nat.reduceEqDiff, not_false_eq_true, gd, want_free, rops, fx, ld, adr_p, cls, Nat.zero_add, Option.some.injEq, exists_eq_left', Nat.reduceAdd, tk24, s1, s5, g0, g1, g2]
  refine Wo.call hc (by rfl) (by rfl) ⟨by rfl, by rfl⟩ (xs := [.agg #[.int .i64 x.m, .slice x.sa x.st.length x.sc, .slice x.ra x.ro.length x.rc], .int .i64 n]) (by rfl) (by rfl) (by simp only [sev_tmp, sg_eq, sg_ne, sp_n, Nat.reduceLT, ne_eq, Nat.reduceEqDiff, not_false_eq_true, List.map_cons, List.map_nil, List.nil_append, List.append_nil, hn]) (Con.mono (nth_ref k1.wf o1 o2 o3 o4 hn63) ?_)
  rintro w D2 ⟨rfl, k2⟩
  rw [hqe]
  refine Wo.run hc 5 rfl rfl rfl ?_
  simp (maxSteps := 2000000) only [List.drop_zero, List.drop_succ_cons, List.take_succ_cons, List.take_zero, sev_tmp, sg_eq, sg_ne, sp_n, Nat.reduceLT, ne_eq, Nat.reduceEqDiff, not_false_eq_true, gd, want_free, rops, fx, ext, List.getElem?_toArray, List.getElem?_cons_zero, List.getElem?_cons_succ, Option.some.injEq, exists_eq_left', Nat.reduceAdd, hn, ext]
  refine Wo.done hc rfl (hK _ _ ?_)
  clear hK
  refine Rn.seq hc ?_
  have hC2 : Nx C.next C D2 := k1.trans (k2.le k1.next)
  have hx2 := hx'.nx hw hC2
  have g0 := hx2.c0
  have g1 := hx2.c1
  have g2 := hx2.c2
  obtain ⟨o1, o2, o3, o4⟩ := hx2.ok
  refine Rn.region hc fun K hK => ?_
  refine Wo.run hc 2 rfl rfl rfl ?_
  simp (maxSteps := 2000000) only [List.drop_zero, List.take_succ_cons, List.take_zero, sev_tmp, sg_ne, ne_eq, Nat.reduceEqDiff, not_false_eq_true, gd, want_free, rops, fx, ld, adr_p, cls, Nat.zero_add, Option.some.injEq, exists_eq_left', Nat.reduceAdd, tk24, s1, s11, g0, g1, g2]
  refine Wo.call hc (by rfl) (by rfl) ⟨by rfl, by rfl⟩ (xs := [.agg #[.int .i64 x'.m, .slice x'.sa x'.st.length x'.sc, .slice x'.ra x'.ro.length x'.rc], .int .i64 n]) (by rfl) (by rfl) (by simp only [sev_tmp, sg_eq, sg_ne, sp_n, Nat.reduceLT, ne_eq, Nat.reduceEqDiff, not_false_eq_true, List.map_cons, List.map_nil, List.nil_append, List.append_nil, hn]) (Con.mono (take_run hC2.wf o1 o2 o3 o4 hn63) ?_)
  rintro w D3 ⟨k3, pa, pc, L, e3, rfl, i3, w3, t1, t2, t3⟩
  rw [tx.1, tx.2.1, tx.2.2] at t1 t2 t3
  refine Wo.run hc 5 rfl rfl rfl ?_
  simp (maxSteps := 2000000) only [List.drop_zero, List.drop_succ_cons, List.take_succ_cons, List.take_zero, sev_tmp, sg_eq, sg_ne, sp_n, Nat.reduceLT, ne_eq, Nat.reduceEqDiff, not_false_eq_true, gd, want_free, rops, fx, ext, List.getElem?_toArray, List.getElem?_cons_zero, List.getElem?_cons_succ, Option.some.injEq, exists_eq_left', Nat.reduceAdd, hn, ext]
  refine Wo.done hc rfl (hK _ _ ?_)
  clear hK
  refine Rn.seq hc ?_
  have hC3 : Nx C.next C D3 := hC2.trans (k3.le hC2.next)
  have hX3 := hX.nx hw hC3
  have g0 := hX3.c0
  have g1 := hX3.c1
  have g2 := hX3.c2
  obtain ⟨o1, o2, o3, o4⟩ := hX3.ok
  refine Rn.region hc fun K hK => ?_
  refine Wo.run hc 2 rfl rfl rfl ?_
  simp (maxSteps := 2000000) only [List.drop_zero, List.take_succ_cons, List.take_zero, sev_tmp, sg_ne, ne_eq, Nat.reduceEqDiff, not_false_eq_true, gd, want_free, rops, fx, ld, adr_p, cls, Nat.zero_add, Option.some.injEq, exists_eq_left', Nat.reduceAdd, tk24, s1, s5, g0, g1, g2]
  refine Wo.call hc (by rfl) (by rfl) ⟨by rfl, by rfl⟩ (xs := [.agg #[.int .i64 x.m, .slice x.sa x.st.length x.sc, .slice x.ra x.ro.length x.rc], .int .i64 n]) (by rfl) (by rfl) (by simp only [sev_tmp, sg_eq, sg_ne, sp_n, Nat.reduceLT, ne_eq, Nat.reduceEqDiff, not_false_eq_true, List.map_cons, List.map_nil, List.nil_append, List.append_nil, hn]) (Con.mono (take_ref k3.wf o1 o2 o3 o4 hn63) ?_)
  rintro w D4 ⟨k4, pb, pd', L', e4, rfl, i4, w4, u1, u2, u3⟩
  obtain ⟨rfl, rfl, hL⟩ := TakeQ.eq t1 t2 t3 u1 u2 u3
  refine Wo.run hc 5 rfl rfl rfl ?_
  simp (maxSteps := 2000000) only [List.drop_zero, List.drop_succ_cons, List.take_succ_cons, List.take_zero, sev_tmp, sg_eq, sg_ne, sp_n, Nat.reduceLT, ne_eq, Nat.reduceEqDiff, not_false_eq_true, gd, want_free, rops, fx, ext, List.getElem?_toArray, List.getElem?_cons_zero, List.getElem?_cons_succ, Option.some.injEq, exists_eq_left', Nat.reduceAdd, hn, ext]
  refine Wo.done hc rfl (hK _ _ ?_)
  clear hK
  refine Rn.seq hc ?_
  refine Rn.seq hc ?_
  refine Rn.region hc fun K hK => ?_
  refine Wo.run hc 11 rfl rfl rfl ?_
  simp (maxSteps := 2000000) only [List.drop_zero, List.take_succ_cons, List.take_zero, sev_tmp, sg_eq, sg_ne, sp_n, Nat.reduceLT, ne_eq, Nat.reduceEqDiff, not_false_eq_true, gd, nth, want_free, want_slot, beqB, rops, fx, pck, bin_neq, Nat.zero_add, Option.some.injEq, exists_eq_left', Bool.not_true, Bool.not_true, hn, eq_self, decide_true]
  refine Wo.call hc (by rfl) (by rfl) ⟨by rfl, by rfl⟩ (xs := [.slice pa L.length pc, .slice pb L.length pd']) (by simp only [sg_eq, sg_ne, sp_n, Nat.reduceLT, ne_eq, Nat.reduceEqDiff, not_false_eq_true, gd, nth, want_slot, beqB, hn]) (by rfl) (by simp only [sev_tmp, sg_eq, sg_ne, sp_n, Nat.reduceLT, ne_eq, Nat.reduceEqDiff, not_false_eq_true, List.map_cons, List.map_nil, List.nil_append, List.append_nil, hn]) (Con.mono (eq_ints k4.wf ((i3.nx k4 (Nat.le_refl _)).mono (Nat.zero_le _) k4.next) (i4.mono (Nat.zero_le _) (Nat.le_refl _)) (by omega) (by omega)) ?_)
  rintro w D5 ⟨rfl, k5⟩
  refine Wo.run hc 7 rfl rfl rfl ?_
  simp (maxSteps := 2000000) only [List.drop_zero, List.drop_succ_cons, List.take_succ_cons, List.take_zero, sev_tmp, sg_eq, sg_ne, sp_n, Nat.reduceLT, ne_eq, Nat.reduceEqDiff, not_false_eq_true, gd, nth, want_free, want_slot, beqB, rops, fx, pck, bin_neq, Option.some.injEq, exists_eq_left', Nat.reduceAdd, Bool.not_true, ae_not', Bool.not_true, hn, eq_self, decide_true]
  refine Wo.done hc rfl (hK _ _ ?_)
  clear hK
  refine Rn.condE hc rfl ?_
  simp only [sev_tmp, sg_eq, sp_n, Nat.reduceLT, hn, Value.bool.injEq, exists_eq_left']
  refine Rn.skip hc ?_
  have h35 : Nx D3.next D3 D5 := k4.trans (k5.le k4.next)
  have hC5 : Nx C.next C D5 := hC3.trans (h35.le hC3.next)
  refine hk _ D5 pa L.length pc D3.next hC5 ((w3.stay fun b _ hb => h35.keep b hb).mono hC2.next) h35.next (by simp only [sp_n, hn]) (by simp only [sg_ne, ne_eq, Nat.reduceEqDiff, not_false_eq_true, s1]) (by simp only [sg_ne, ne_eq, Nat.reduceEqDiff, not_false_eq_true, s2]) (by simp only [sg_ne, ne_eq, Nat.reduceEqDiff, not_false_eq_true, s3]) (by simp only [sg_ne, ne_eq, Nat.reduceEqDiff, not_false_eq_true, s4]) (by simp only [sg_ne, ne_eq, Nat.reduceEqDiff, not_false_eq_true, s5]) (by simp only [sg_ne, ne_eq, Nat.reduceEqDiff, not_false_eq_true, s11]) (by simp only [sg_eq, sg_ne, sp_n, Nat.reduceLT, ne_eq, Nat.reduceEqDiff, not_false_eq_true, hn])
end Go.Proofs.Ytdaljohmfnfgiaa
/- LassoParts returns true, from every world. The condition ConsOK, which is not proved yet. -/
namespace Go.Proofs.Ytdaljohmfnfgiaa
open Go Go.RowKit Go.Proofs.Ytdaljohmfnfgiaa.Canon
set_option maxRecDepth 20000

theorem s_in5' (n : Nat) (a b c e f : Value) : (⟨n, sargs [a, b, c, e, f] 0 .leaf⟩ : Slots) = sput (sput (sput (sput (sput ⟨n, .leaf⟩ (some 0) a) (some 1) b) (some 2) c) (some 3) e) (some 4) f := rfl

theorem law_parts (hcons : ConsOK) {A : AHeap} (hw : WF A) {m n v sp ad : Int} {sa ra : Option Addr} {sn sc rn rc : Nat} (h1 : Arg A sa sn sc ra rn rc) (hn63 : n < 9223372036854775808) :
    ConF Try.prog 4 [.agg #[.int .i64 m, .slice sa sn sc, .slice ra rn rc], .int .i64 n, .int .i64 v, .int .i64 sp, .int .i64 ad] A (fun w A1 => w = .bool true ∧ Nx A.next A A1) := by
  refine conF_of_rn hc Try.func4 rfl (Nat.le_of_ble_eq_true rfl) ?_
  obtain ⟨A1, e1, hx1, hn1, b0, b1, b2⟩ := box3 hw (.int .i64 m) (.slice sa sn sc) (.slice ra rn rc) 24
  rw [s_in5']
  refine Rn.seq hc ?_
  refine Rn.reg hc rfl ?_
  simp only [sev_tmp, sev_const, sg_eq, sg_ne, Nat.reduceLT, ne_eq, Nat.reduceEqDiff, not_false_eq_true, gd, want_free, rops, fx, Option.some.injEq, exists_eq_left', Value.cells, show Try.f4.ntmps = 159 from rfl, e1]
  refine Rn.seq hc ?_
  refine Rn.seq hc ?_
  refine Rn.region hc fun K hK => ?_
  refine Wo.run hc 1 rfl rfl rfl ?_
  simp (maxSteps := 2000000) only [List.drop_zero, List.take_succ_cons, List.take_zero, sev_tmp, sg_eq, sg_ne, sp_n, Nat.reduceLT, ne_eq, Nat.reduceEqDiff, not_false_eq_true, gd, want_free, rops, fx, ld, adr_p, cls, Nat.zero_add, Option.some.injEq, exists_eq_left', Nat.reduceAdd, tk24, b0, b1, b2]
  refine Wo.call hc (by rfl) (by rfl) ⟨by rfl, by rfl⟩ (xs := [.agg #[.int .i64 m, .slice sa sn sc, .slice ra rn rc]]) (by rfl) (by rfl) (by rfl) (Con.mono (great_lasso hx1.wf m sa ra sn rn sc rc) ?_)
  rintro w A3 ⟨rfl, hx3⟩
  have hx03 : Nx A.next A A3 := hx1.trans (hx3.le hx1.next)
  have b0 := (hx3.cl (show A.next < A1.next by omega) 0).trans b0
  have b1 := (hx3.cl (show A.next < A1.next by omega) 1).trans b1
  have b2 := (hx3.cl (show A.next < A1.next by omega) 2).trans b2
  by_cases hg : 70 < sn ∨ 130 < rn
  · have hd : (decide ((70 : Int) < sn) || decide ((130 : Int) < rn)) = true := by simp; omega
    refine Wo.done hc rfl (hK _ _ ?_)
    clear hK
    (repeat (first | refine Rn.seq hc ?_ | refine Rn.skip hc ?_ | refine Rn.block hc ?_ | refine Rn.inBlock hc ?_ | refine Rn.scope hc ?_ | refine Rn.inScope hc ?_))
    refine Rn.condE hc rfl ?_
    simp only [sev_tmp, sg_eq, sp_n, Nat.reduceLT, Value.bool.injEq, exists_eq_left', hd]
    (repeat (first | refine Rn.seq hc ?_ | refine Rn.skip hc ?_ | refine Rn.block hc ?_ | refine Rn.inBlock hc ?_ | refine Rn.scope hc ?_ | refine Rn.inScope hc ?_))
    refine Rn.region hc fun K hK => ?_
    refine Wo.call hc (by rfl) (by rfl) ⟨by rfl, by rfl⟩ (xs := []) (by rfl) (by rfl) (by rfl) (Con.mono (awake_con A3) ?_)
    rintro w B3 ⟨rfl, rfl⟩
    refine Wo.run hc 1 rfl rfl rfl ?_
    simp (maxSteps := 2000000) only [List.drop_zero, List.drop_succ_cons, List.take_succ_cons, List.take_zero, sev_tmp, sg_eq, sp_n, Nat.reduceLT, gd, want_free, rops, fx, Nat.zero_add, Option.some.injEq, exists_eq_left', Nat.reduceAdd]
    refine Wo.done hc rfl (hK _ _ ?_)
    clear hK
    (repeat (first | refine Rn.seq hc ?_ | refine Rn.skip hc ?_ | refine Rn.block hc ?_ | refine Rn.inBlock hc ?_ | refine Rn.scope hc ?_ | refine Rn.inScope hc ?_))
    exact Rn.ret (endQ_tmp rfl ⟨by simp only [sg_eq, sp_n, Nat.reduceLT], hx03⟩)
  · have hd : (decide ((70 : Int) < sn) || decide ((130 : Int) < rn)) = false := by simp; omega
    refine Wo.done hc rfl (hK _ _ ?_)
    clear hK
    refine Rn.condE hc rfl ?_
    simp only [sev_tmp, sg_eq, sp_n, Nat.reduceLT, hd, Value.bool.injEq, exists_eq_left']
    refine Rn.skip hc ?_
    obtain ⟨st, ro, rfl, rfl, q1, q2, q3, q4, q5, q6⟩ := h1 (by omega) (by omega)
    have n3 := hx3.next
    have hX : Has A3 A.next ⟨m, sa, sc, st, ra, rc, ro⟩ :=
      { c0 := b0, c1 := b1, c2 := b2, ok := ⟨(q1.nx hx03 (Nat.le_refl _)).mono (Nat.le_refl _) hx03.next, (q2.nx hx03 (Nat.le_refl _)).mono (Nat.le_refl _) hx03.next, show st.length < _ by omega, show ro.length < _ by omega⟩, lt := by omega, ls := show st.length ≤ 70 by omega, lr := show ro.length ≤ 130 by omega, cs := q3, cr := q4, s1 := fun h => (q5 h).nx hw hx03, s2 := fun h => (q6 h).nx hw hx03 }
    obtain ⟨o1, o2, _, _⟩ := hX.ok
    refine Rn.seq hc ?_
    refine Rn.region hc fun K hK => ?_
    refine Wo.run hc 1 rfl rfl rfl ?_
    simp (maxSteps := 2000000) only [List.drop_zero, List.take_succ_cons, List.take_zero, sev_tmp, sg_eq, sg_ne, sp_n, Nat.reduceLT, ne_eq, Nat.reduceEqDiff, not_false_eq_true, gd, want_free, rops, fx, ld, adr_p, cls, Nat.zero_add, Option.some.injEq, exists_eq_left', Nat.reduceAdd, tk24, b0, b1, b2]
    refine Wo.call hc (by rfl) (by rfl) ⟨by rfl, by rfl⟩ (xs := [.agg #[.int .i64 m, .slice sa st.length sc, .slice ra ro.length rc]]) (by rfl) (by rfl) (by rfl) (Con.mono (own_S hx3.wf o1 o2 (by omega) (by omega)) ?_)
    rintro w A4 ⟨k4, hv⟩
    obtain ⟨xa, xc, xr, xd, rfl, hc1, hc2, i1, i2, y1, y2⟩ := hv _ _ _ _ _ _ _ rfl o1 o2
    obtain ⟨A5, p5, hx5, hn5, d0, d1, d2⟩ := put24 k4.wf (v0 := .int .i64 m) (v1 := .slice xa st.length xc) (v2 := .slice xr ro.length xd) rfl
    refine Wo.run hc 2 rfl rfl rfl ?_
    simp (maxSteps := 2000000) only [List.drop_zero, List.drop_succ_cons, List.take_succ_cons, List.take_zero, sev_tmp, sg_eq, sg_ne, sp_n, sp_none, Nat.reduceLT, ne_eq, Nat.reduceEqDiff, not_false_eq_true, gd, want_free, rops, fx, str, adr_p, Nat.zero_add, Option.some.injEq, exists_eq_left', Value.cells, Nat.reduceAdd, tk24, ze24, p5, List.size_toArray, List.length_cons, List.length_nil, Nat.beq_refl]
    refine Wo.done hc rfl (hK _ _ ?_)
    clear hK
    have h35 : Nx A3.next A3 A5 := k4.trans (hx5.le k4.next)
    have hx05 : Nx A.next A A5 := hx03.trans (h35.le hx03.next)
    have hX5 := hX.nx hx3.wf h35
    have hx5' : Has A5 A4.next ⟨m, xa, xc, st, xr, xd, ro⟩ :=
      { c0 := d0, c1 := d1, c2 := d2, ok := ⟨(i1.nx hx5 (Nat.le_refl _)).mono (Nat.le_refl _) hx5.next, (i2.nx hx5 (Nat.le_refl _)).mono (Nat.le_refl _) hx5.next, show st.length < _ by omega, show ro.length < _ by omega⟩, lt := by omega, ls := show st.length ≤ 70 by omega, lr := show ro.length ≤ 130 by omega, cs := hc1, cr := hc2, s1 := fun _ => y1.nx k4.wf hx5, s2 := fun _ => y2.nx k4.wf hx5 }
    refine parts_start hx5.wf (n := n) (v := v) (sp := sp) (ad := ad) hX5 hx5' ⟨rfl, rfl, rfl⟩ hn63 (by simp only [sp_n]) (by simp only [sg_eq, sg_ne, sp_n, Nat.reduceLT, ne_eq, Nat.reduceEqDiff, not_false_eq_true]) (by simp only [sg_eq, sg_ne, sp_n, Nat.reduceLT, ne_eq, Nat.reduceEqDiff, not_false_eq_true]) (by simp only [sg_eq, sg_ne, sp_n, Nat.reduceLT, ne_eq, Nat.reduceEqDiff, not_false_eq_true]) (by simp only [sg_eq, sg_ne, sp_n, Nat.reduceLT, ne_eq, Nat.reduceEqDiff, not_false_eq_true]) (by simp only [sg_eq, sg_ne, sp_n, Nat.reduceLT, ne_eq, Nat.reduceEqDiff, not_false_eq_true]) (by simp only [sg_eq, sp_n, Nat.reduceLT]) fun s B pa pn pc hi0 hB hw0 hh0 hn s1 s2 s3 s4 s5 s11 s16 => ?_
    refine parts_made hcons hx5.wf hB hX5 hx5' ⟨rfl, rfl, rfl⟩ hn63 hn s1 s2 s3 s4 s5 s11 s16 fun s D lo1 hi1 b1 lo2 hi2 b2 lo3 hi3 b3 y1 z1 y2 z2 y3 z3 e1 e2 e3 hD hP1 hP2 hP3 q1 q2 q3 q4 q5 q6 hn s5 s11 s16 s20 s21 s22 s23 s24 s26 s13 s15 s17 s19 s25 s27 => ?_
    exact parts_rest hx05 hB hD hX5 hx5' ⟨rfl, rfl, rfl⟩ hw0 (Nat.le_refl _) hh0 hP1 hP2 hP3 q1 q2 q3 q4 q5 q6 hn s5 s11 s16 s20 s21 s22 s23 s24 s26 s13 s15 s17 s19 s25 s27
theorem parts_any (hcons : ConsOK) {W : World} {m n v sp ad : Int} {sa ra : Option Addr} {sn sc rn rc : Nat} (h1 : ∀ x, sa = some x → x.spot = none) (h2 : ∀ x, ra = some x → x.spot = none)
    (k1 : ∃ l : List Int, l.length = sn ∧ IntsW W sa l) (k2 : ∃ l : List Int, l.length = rn ∧ IntsW W ra l) (n1 : sn ≤ sc) (n2 : rn ≤ rc) (hn63 : n < 9223372036854775808) :
    Calls Try.prog 4 #[.agg #[.int .i64 m, .slice sa sn sc, .slice ra rn rc], .int .i64 n, .int .i64 v, .int .i64 sp, .int .i64 ad] W (fun e w' => e = .returned (.bool true) ∧ Below W.heap.size W w') := by
  obtain ⟨A, hA⟩ := in_any W (W.heap.size + 1 + blkOf sa + blkOf ra) (by omega) (by omega)
  obtain ⟨st, e1, i1⟩ := k1
  obtain ⟨ro, e2, i2⟩ := k2
  refine calls_of_conF (t := 10) Try.func4 rfl hA (xs := [.agg #[.int .i64 m, .slice sa sn sc, .slice ra rn rc], .int .i64 n, .int .i64 v, .int .i64 sp, .int .i64 ad]) ?_
    (law_parts hcons hA.wf (fun _ _ => ⟨st, ro, e1, e2, i1.ints hA, i2.ints hA, n1, n2, sl_in hA (i1.ints hA), sl_in hA (i2.ints hA)⟩) hn63)
  have a1 : AR (inP (W.heap.size + 1 + blkOf sa + blkOf ra)) #[.int .i64 m, .slice sa sn sc, .slice ra rn rc] #[.int .i64 m, .slice sa sn sc, .slice ra rn rc] :=
    ((AR.single (.int .i64 m)).push (inP_v (roV_slice h1 (by omega)))).push (inP_v (roV_slice h2 (by omega)))
  exact ((((AR.single (.ofAgg a1)).push (.int .i64 n)).push (.int .i64 v)).push (.int .i64 sp)).push (.int .i64 ad)
end Go.Proofs.Ytdaljohmfnfgiaa
/- LassoParts returns true for every input, and each argument reads afterwards as it read before. The condition ConsOK, which is not proved yet. -/
namespace Go.Proofs.Ytdaljohmfnfgiaa
open Go.ChangeShapes Go.WideShapes Go.ChangeAt Go.RowKit Go.Proofs.Ytdaljohmfnfgiaa.Canon
open Go.Deep (open_slice_pairs open_slice)
theorem lit_i64 {n : Int} (h : (Lit.int .i64 n).wf = true) : n < 9223372036854775808 := by
  simp only [Lit.wf, Bool.and_eq_true, decide_eq_true_eq] at h
  have e : IntKind.i64.max = 9223372036854775807 := by rfl
  omega

set_option maxRecDepth 100000 in
theorem lassoParts_lifted (hcons : ConsOK) (os : Os) (started : os.Started) (H : Type) (enc : TypeId × Value → H) :
    ReturnsInHanded {} Try.checked os 4 .any (Rows.lassoPartsSpec.pre6 enc Try.prog Try.f4 Rows.lassoPartsRow.domain false) (Rows.lassoPartsSpec.post enc Try.prog Try.f4 false true false false) := by
  refine returnsInHanded_of_change (C := Try.checked) Try.own started (by kernel_rfl) Try.func4
    (ChangeSpec.witness6 (enc := enc) (C := Try.checked) false ⟨#[], #[.agg #[.int .i64 0, .slice none 0 0, .slice none 0 0], .int .i64 0, .int .i64 0, .int .i64 0, .int .i64 0], []⟩ 8 (by kernel_rfl) (by kernel_rfl) (by kernel_rfl) (by kernel_rfl)) ?_
  intro W base args ds gs before hval0 hW hcnd _
  have hval : ∀ (j : Nat) t v, Try.f4.params[j]? = some t → args[j]? = some v → Value.okWide Try.prog W .any base t v := hval0
  have hW' := hW
  obtain ⟨p, q, hA0, hV, rfl, hfz, hnd⟩ := hW
  have hA : DataW.TrodAll enc Try.prog W 0 (fun _ => true) true Try.f4.params.toList args.toList ds p := hA0
  rw [Try.params4] at hA hval
  obtain ⟨v0, v1, v2, v3, v4, d0, d1, d2, d3, d4, p0, p1, p2, p3, p4, rfl, rfl, rfl, h0, h1, h2, h3, h4⟩ := trodAll_five hA
  obtain ⟨rfl, rfl⟩ := trodVars_none hV
  obtain ⟨m, sa, sn, sc, ra, rn, rc, rfl, hk, hn⟩ := lasso_shape (hval 0 24 v0 rfl rfl)
  obtain ⟨i1, i2⟩ := lasso_ints h0 hk hn
  obtain ⟨r1, r2⟩ := lasso_room h0
  obtain ⟨n, rfl, rfl, rfl, hw1⟩ := open_int Try.underlying3 (hval 1 3 v1 rfl rfl) h1
  obtain ⟨v, rfl, rfl, rfl, hw2⟩ := open_int Try.underlying3 (hval 2 3 v2 rfl rfl) h2
  obtain ⟨stp, rfl, rfl, rfl, hw3⟩ := open_int Try.underlying3 (hval 3 3 v3 rfl rfl) h3
  obtain ⟨ad, rfl, rfl, rfl, hw4⟩ := open_int Try.underlying3 (hval 4 3 v4 rfl rfl) h4
  have hn63 : n < 9223372036854775808 := lit_i64 hw1
  clear hA0 hval0
  simp only [List.append_nil] at hW'
  have hplace : ∀ p ∈ p0, p.block < W.heap.size := fun p hp => by simpa using hW'.lt p hp
  refine (parts_any hcons (m := m) (n := n) (v := v) (sp := stp) (ad := ad) hk hn i1 i2 r1 r2 hn63).mono fun e W' ⟨he, hb⟩ => ?_
  subst he
  have harg0 : ∀ sp : Nat → Bool, (∀ p ∈ p0, sp p.block = true) → DataW.Trod enc Try.prog W' 0 sp true 24 (.agg #[.int .i64 m, .slice sa sn sc, .slice ra rn rc]) d0 p0 := fun sp hsp =>
    WideElems.Trod_stays Try.laidOut (by kernel_rfl) (of_decide_eq_true (by kernel_rfl)) h0 (fun x hx => hb.same (hplace x hx)) (fun x hx => hsp x hx)
  refine ⟨_, rfl, post_of_below (pa := p0) (pv := []) hW' (fun _ _ _ => trodAll_mk1 (shut_bool Try.underlying4 _)) (fun sp hsp => ?_) (fun _ _ => rfl) (by simp) hb (ok_one (by kernel_rfl) rfl (okWide_bool_mk Try.underlying4 _))⟩
  have hall : DataW.TrodAll enc Try.prog W' 0 sp true [24, 3, 3, 3, 3] [.agg #[.int .i64 m, .slice sa sn sc, .slice ra rn rc], .int .i64 n, .int .i64 v, .int .i64 stp, .int .i64 ad] [d0, .lit (.int .i64 n), .lit (.int .i64 v), .lit (.int .i64 stp), .lit (.int .i64 ad)] (p0 ++ ([] ++ ([] ++ ([] ++ [])))) :=
    trodAll_mk5 (harg0 sp hsp) (shut_int Try.underlying3 hw1) (shut_int Try.underlying3 hw2) (shut_int Try.underlying3 hw3) (shut_int Try.underlying3 hw4)
  simp only [List.append_nil] at hall
  exact hall

theorem lassoParts_if (hcons : ConsOK) : Rows.LassoPartsSaid :=
  OpenClaim.holds_of_wide 4 Try.f4 rfl rfl rfl rfl rfl rfl rfl ⟨rfl, rfl, rfl, rfl, rfl⟩ rfl rfl rfl rfl rfl (by kernel_rfl) Try.func4 (by kernel_rfl)
    (of_decide_eq_true (by kernel_rfl)) (by unfold Func.isWrapper; first | (rw [if_pos (by decide +kernel)]; kernel_rfl) | (rw [if_neg (by decide +kernel)]; exact ⟨rfl, rfl⟩))
    (fun os started H enc _ => lassoParts_lifted hcons os started H enc)
end Go.Proofs.Ytdaljohmfnfgiaa
/- slices.Concat, and the program's Cons. The condition GrowOK (slices.Grow), which is not proved yet. -/
namespace Go.Proofs.Ytdaljohmfnfgiaa
open Go Go.RowKit Go.Proofs.Ytdaljohmfnfgiaa.Canon
set_option maxRecDepth 20000

theorem un115 : Try.prog.underlying 115 = some (.slice 22) := by kernel_rfl
theorem eo115 : eof Try.prog 115 = some 1 := by kernel_rfl
/-- What slices.Grow(nil, n) does: a row that has room. -/
def GrowOK : Prop := ∀ (A : AHeap), WF A → ∀ n : Nat, 0 < n → n ≤ 1000 → Con Try.prog 107 [.slice none 0 0, .int .i64 (n : Int)] A (fun v A1 => v = .slice (some ⟨A.next, 0, none⟩) 0 n ∧ Nx A.next A A1 ∧ A1.next = A.next + 1 ∧ ∃ c : Array Value, c.size = n ∧ Canon.look A1.objs A.next = some ⟨.cells c 3, true, 1⟩)
def full (ll : Nat → List Int) (i : Nat) : List Int := (List.range i).flatMap ll
theorem full_succ (ll : Nat → List Int) (i : Nat) : full ll (i + 1) = full ll i ++ ll i := by simp [full, List.range_succ]
theorem full_le (ll : Nat → List Int) {i p : Nat} (h : i ≤ p) : (full ll i).length ≤ (full ll p).length := by
  induction p with
  | zero =>
    have : i = 0 := by omega
    subst this
    exact Nat.le_refl _
  | succ p ih =>
    by_cases hp : i = p + 1
    · subst hp; exact Nat.le_refl _
    · rw [full_succ, List.length_append]
      have := ih (by omega)
      omega
theorem concat_run (hgrow : GrowOK) {A : AHeap} (hw : WF A) {q p c0 : Nat} {aa : Nat → Option Addr} {cc : Nat → Nat} {ll : Nat → List Int} (hq : ∀ i, i < p → cl A q i = some (.slice (aa i) (ll i).length (cc i))) (hqn : q < A.next) (hi : ∀ i, i < p → Ints A (aa i) 0 A.next (ll i)) (htot : (full ll p).length ≤ 1000) (hpos : 0 < (full ll p).length) (hp : p ≤ 1000) :
    Con Try.prog 81 [.slice (some ⟨q, 0, none⟩) p c0] A (fun v A1 => ∃ a, v = .slice a (full ll p).length (full ll p).length ∧ Nx A.next A A1 ∧ Ints A1 a A.next A1.next (full ll p) ∧ Sl A1 a A.next) := by
  refine con_of_rn hc Try.func81 rfl (Nat.le_of_ble_eq_true rfl) ?_
  rw [s_in1]
  (repeat (first | refine Rn.seq hc ?_ | refine Rn.skip hc ?_ | refine Rn.block hc ?_ | refine Rn.inBlock hc ?_ | refine Rn.scope hc ?_ | refine Rn.inScope hc ?_))
  refine Rn.reg hc rfl ?_
  simp only [sev_const, gd, want_free, rops, fx, Option.some.injEq, exists_eq_left', show Try.f81.ntmps = 36 from rfl]
  (repeat (first | refine Rn.seq hc ?_ | refine Rn.skip hc ?_ | refine Rn.block hc ?_ | refine Rn.inBlock hc ?_ | refine Rn.scope hc ?_ | refine Rn.inScope hc ?_))
  refine Rn.reg hc rfl ?_
  simp only [sev_const, gd, want_free, rops, fx, Option.some.injEq, exists_eq_left']
  (repeat (first | refine Rn.seq hc ?_ | refine Rn.skip hc ?_ | refine Rn.block hc ?_ | refine Rn.inBlock hc ?_ | refine Rn.scope hc ?_ | refine Rn.inScope hc ?_))
  refine Rn.reg hc rfl ?_
  simp only [sev_tmp, sev_const, sg_eq, sg_ne, sp_n, Nat.reduceLT, ne_eq, Nat.reduceEqDiff, not_false_eq_true, gd, want_free, rops, fx, lng, Option.some.injEq, exists_eq_left', un115]
  (repeat (first | refine Rn.seq hc ?_ | refine Rn.skip hc ?_ | refine Rn.block hc ?_ | refine Rn.inBlock hc ?_ | refine Rn.scope hc ?_ | refine Rn.inScope hc ?_))
  refine Rn.loopI hc (I := fun k s A' => ∃ i : Nat, i ≤ p ∧ k = p - i ∧ A' = A ∧ s.n = 36 ∧ sget s 0 = .slice (some ⟨q, 0, none⟩) p c0 ∧ sget s 3 = .int .i64 ((full ll i).length : Int) ∧ sget s 9 = .slice (some ⟨q, 0, none⟩) p c0 ∧ sget s 10 = .int .i64 (p : Int) ∧ sget s 11 = .int .i64 (i : Int))
    (n := p) ⟨0, Nat.zero_le _, rfl, rfl, by simp only [sp_n], by simp only [sg_eq, sg_ne, Nat.reduceLT, ne_eq, Nat.reduceEqDiff, not_false_eq_true], by simp only [sg_eq, sg_ne, sp_n, Nat.reduceLT, ne_eq, Nat.reduceEqDiff, not_false_eq_true]; rfl, by simp only [sg_eq, sg_ne, sp_n, Nat.reduceLT, ne_eq, Nat.reduceEqDiff, not_false_eq_true], by simp only [sg_eq, sg_ne, sp_n, Nat.reduceLT, ne_eq, Nat.reduceEqDiff, not_false_eq_true], by simp only [sg_eq, sp_n, Nat.reduceLT]; rfl⟩ ?_
  rintro k s A' ⟨i, hip, rfl, rfl, hn, s0, s3, s9, s10, s11⟩ ih
  (repeat (first | refine Rn.seq hc ?_ | refine Rn.skip hc ?_ | refine Rn.block hc ?_ | refine Rn.inBlock hc ?_ | refine Rn.scope hc ?_ | refine Rn.inScope hc ?_))
  by_cases hlt : i < p
  · have hd : decide ((i : Int) < (p : Int)) = true := decide_eq_true (by omega)
    have hle := full_le ll (show i + 1 ≤ p by omega)
    have hfs := full_succ ll i
    have hlen : (full ll (i + 1)).length = (full ll i).length + (ll i).length := by rw [hfs, List.length_append]
    have hw1 : IntKind.i64.wrap (((full ll i).length : Int) + ((ll i).length : Int)) = ((full ll (i + 1)).length : Int) := by rw [IntWalk.i64_in _ (by omega)]; omega
    have hd2 : decide (((full ll (i + 1)).length : Int) < 0) = false := decide_eq_false (by omega)
    refine Rn.reg hc rfl ?_
    simp only [sev_tmp, gd, want_free, rops, fx, bin_lss, Option.some.injEq, exists_eq_left', s10, s11, hd]
    (repeat (first | refine Rn.seq hc ?_ | refine Rn.skip hc ?_ | refine Rn.block hc ?_ | refine Rn.inBlock hc ?_ | refine Rn.scope hc ?_ | refine Rn.inScope hc ?_))
    refine Rn.condE hc rfl ?_
    simp only [sev_tmp, sg_eq, Nat.reduceLT, Value.bool.injEq, exists_eq_left', hn]
    (repeat (first | refine Rn.seq hc ?_ | refine Rn.skip hc ?_ | refine Rn.block hc ?_ | refine Rn.inBlock hc ?_ | refine Rn.scope hc ?_ | refine Rn.inScope hc ?_))
    refine Rn.reg hc rfl ?_
    simp only [sev_tmp, sg_eq, sg_ne, sp_n, Nat.reduceLT, ne_eq, Nat.reduceEqDiff, not_false_eq_true, gd, want_free, rops, fx, ld, idx, adr_p, Nat.zero_add, Option.some.injEq, exists_eq_left', Nat.mul_one, tk22, eo115, hn, s9, s11, nlen_nat hlt, hq i hlt]
    (repeat (first | refine Rn.seq hc ?_ | refine Rn.skip hc ?_ | refine Rn.block hc ?_ | refine Rn.inBlock hc ?_ | refine Rn.scope hc ?_ | refine Rn.inScope hc ?_))
    refine Rn.reg hc rfl ?_
    simp only [sev_tmp, sg_eq, sg_ne, sp_n, Nat.reduceLT, ne_eq, Nat.reduceEqDiff, not_false_eq_true, gd, want_free, rops, fx, lng, bin_add, Option.some.injEq, exists_eq_left', un22, hn, s3, hw1]
    (repeat (first | refine Rn.seq hc ?_ | refine Rn.skip hc ?_ | refine Rn.block hc ?_ | refine Rn.inBlock hc ?_ | refine Rn.scope hc ?_ | refine Rn.inScope hc ?_))
    refine Rn.reg hc rfl ?_
    simp only [sev_tmp, sev_const, sg_eq, sp_n, Nat.reduceLT, gd, want_free, rops, fx, bin_lss, Option.some.injEq, exists_eq_left', hn, hd2]
    (repeat (first | refine Rn.seq hc ?_ | refine Rn.skip hc ?_ | refine Rn.block hc ?_ | refine Rn.inBlock hc ?_ | refine Rn.scope hc ?_ | refine Rn.inScope hc ?_))
    refine Rn.condE hc rfl ?_
    simp only [sev_tmp, sg_eq, sp_n, Nat.reduceLT, Value.bool.injEq, exists_eq_left', hn]
    (repeat (first | refine Rn.seq hc ?_ | refine Rn.skip hc ?_ | refine Rn.block hc ?_ | refine Rn.inBlock hc ?_ | refine Rn.scope hc ?_ | refine Rn.inScope hc ?_))
    refine Rn.reg hc rfl ?_
    simp only [sev_tmp, sev_const, sg_eq, sg_ne, sp_n, Nat.reduceLT, ne_eq, Nat.reduceEqDiff, not_false_eq_true, gd, want_free, rops, fx, bin_add, Option.some.injEq, exists_eq_left', hn, s11, wrap_succ (show i < 9223372036854775807 by omega)]
    (repeat (first | refine Rn.seq hc ?_ | refine Rn.skip hc ?_ | refine Rn.block hc ?_ | refine Rn.inBlock hc ?_ | refine Rn.scope hc ?_ | refine Rn.inScope hc ?_))
    exact ih _ _ _ (by omega) ⟨i + 1, by omega, rfl, rfl, by simp only [sp_n, hn], by simp only [sg_ne, ne_eq, Nat.reduceEqDiff, not_false_eq_true, s0], by simp only [sg_eq, sg_ne, sp_n, Nat.reduceLT, ne_eq, Nat.reduceEqDiff, not_false_eq_true, hn], by simp only [sg_ne, ne_eq, Nat.reduceEqDiff, not_false_eq_true, s9], by simp only [sg_ne, ne_eq, Nat.reduceEqDiff, not_false_eq_true, s10], by simp only [sg_eq, sp_n, Nat.reduceLT, hn]⟩
  · have hd : decide ((i : Int) < (p : Int)) = false := decide_eq_false (by omega)
    have hie : i = p := by omega
    subst hie
    clear ih
    refine Rn.reg hc rfl ?_
    simp only [sev_tmp, gd, want_free, rops, fx, bin_lss, Option.some.injEq, exists_eq_left', s10, s11, hd]
    (repeat (first | refine Rn.seq hc ?_ | refine Rn.skip hc ?_ | refine Rn.block hc ?_ | refine Rn.inBlock hc ?_ | refine Rn.scope hc ?_ | refine Rn.inScope hc ?_))
    refine Rn.condE hc rfl ?_
    simp only [sev_tmp, sg_eq, Nat.reduceLT, Value.bool.injEq, exists_eq_left', hn]
    (repeat (first | refine Rn.seq hc ?_ | refine Rn.skip hc ?_ | refine Rn.block hc ?_ | refine Rn.inBlock hc ?_ | refine Rn.scope hc ?_ | refine Rn.inScope hc ?_))
    refine Rn.exit hc rfl ?_
    (repeat (first | refine Rn.seq hc ?_ | refine Rn.skip hc ?_ | refine Rn.block hc ?_ | refine Rn.inBlock hc ?_ | refine Rn.scope hc ?_ | refine Rn.inScope hc ?_))
    refine Rn.region hc fun K hK => ?_
    refine Wo.run hc 1 rfl rfl rfl ?_
    simp (maxSteps := 2000000) only [List.drop_zero, List.take_succ_cons, List.take_zero, sev_tmp, sg_ne, ne_eq, Nat.reduceEqDiff, not_false_eq_true, gd, want_free, rops, fx, Nat.zero_add, Option.some.injEq, exists_eq_left', s3]
    refine Wo.call hc (by rfl) (by rfl) ⟨by rfl, by rfl⟩ (xs := [.slice none 0 0, .int .i64 ((full ll i).length : Int)]) (by rfl) (by rfl) (by simp only [sev_tmp, sev_const, sg_eq, sp_n, Nat.reduceLT, List.map_cons, List.map_nil, List.nil_append, List.append_nil, hn]) (Con.mono (hgrow A' hw _ hpos htot) ?_)
    rintro w A1 ⟨rfl, hx1, hn1, c, hcs, l1⟩
    refine Wo.run hc 1 rfl rfl rfl ?_
    simp (maxSteps := 2000000) only [List.drop_zero, List.drop_succ_cons, List.take_succ_cons, List.take_zero, sev_tmp, sg_eq, sp_n, Nat.reduceLT, gd, want_free, rops, fx, Option.some.injEq, exists_eq_left', Nat.reduceAdd, hn]
    refine Wo.done hc rfl (hK _ _ ?_)
    clear hK
    (repeat (first | refine Rn.seq hc ?_ | refine Rn.skip hc ?_ | refine Rn.block hc ?_ | refine Rn.inBlock hc ?_ | refine Rn.scope hc ?_ | refine Rn.inScope hc ?_))
    refine Rn.reg hc rfl ?_
    simp only [sev_tmp, sev_const, sg_eq, sg_ne, sp_n, Nat.reduceLT, ne_eq, Nat.reduceEqDiff, not_false_eq_true, gd, want_free, rops, fx, lng, Option.some.injEq, exists_eq_left', un115, hn, s0]
    (repeat (first | refine Rn.seq hc ?_ | refine Rn.skip hc ?_ | refine Rn.block hc ?_ | refine Rn.inBlock hc ?_ | refine Rn.scope hc ?_ | refine Rn.inScope hc ?_))
    refine Rn.loopI hc (I := fun k s B => ∃ (j : Nat) (c : Array Value), j ≤ i ∧ k = i - j ∧ Nx A'.next A' B ∧ B.next = A1.next ∧ c.size = (full ll i).length ∧ Canon.look B.objs A'.next = some ⟨.cells c 3, true, 1⟩ ∧ (∀ k, k < (full ll j).length → c[k]? = some (.int .i64 ((full ll j).getD k 0))) ∧ s.n = 36 ∧ sget s 6 = .slice (some ⟨A'.next, 0, none⟩) (full ll j).length (full ll i).length ∧ sget s 25 = .slice (some ⟨q, 0, none⟩) i c0 ∧ sget s 26 = .int .i64 (i : Int) ∧ sget s 27 = .int .i64 (j : Int))
      (n := i) ⟨0, c, Nat.zero_le _, rfl, hx1, rfl, hcs, l1, fun k hk => by simp [full] at hk, by simp only [sp_n, hn], by simp only [sg_eq, sg_ne, sp_n, Nat.reduceLT, ne_eq, Nat.reduceEqDiff, not_false_eq_true, hn]; rfl, by simp only [sg_eq, sg_ne, sp_n, Nat.reduceLT, ne_eq, Nat.reduceEqDiff, not_false_eq_true, hn], by simp only [sg_eq, sg_ne, sp_n, Nat.reduceLT, ne_eq, Nat.reduceEqDiff, not_false_eq_true, hn], by simp only [sg_eq, sp_n, Nat.reduceLT, hn]; rfl⟩ ?_
    clear hn s0 s3 s9 s10 s11 s hd l1 hcs c
    rintro k s B ⟨j, c, hj, rfl, hB, hnB, hcs, lB, hcl, hn, s6, s25, s26, s27⟩ ih
    (repeat (first | refine Rn.seq hc ?_ | refine Rn.skip hc ?_ | refine Rn.block hc ?_ | refine Rn.inBlock hc ?_ | refine Rn.scope hc ?_ | refine Rn.inScope hc ?_))
    by_cases hlj : j < i
    · have hd : decide ((j : Int) < (i : Int)) = true := decide_eq_true (by omega)
      have hle := full_le ll (show j + 1 ≤ i by omega)
      have hfs := full_succ ll j
      have hlen : (full ll (j + 1)).length = (full ll j).length + (ll j).length := by rw [hfs, List.length_append]
      have hqB : cl B q j = _ := (hB.cl hqn j).trans (hq j hlj)
      have hiB := (hi j hlj).nx hB (Nat.le_refl _)
      obtain ⟨B1, c1, u1, u2, u3, u4⟩ := sts_upd (A := B) (b := A'.next) (o := (full ll j).length) (l := (ll j).map (Value.int .i64)) lB rfl (by simp; omega) (by simp [isCell])
      have happ := aapp_room (P := Try.prog) (A := B) (A1 := B1) (st := 22) (tx := 22) (b := A'.next) (o := 0) (a2 := aa j) (n := (full ll j).length) (c := (full ll i).length) (m := (ll j).length) (c2 := cc j) (l2 := (ll j).map (Value.int .i64)) el22 un22 hiB.row (by simp) (by simp [isCell]) (fun h' => by
        by_cases h0 : (ll j).length = 0
        · exact h0
        · have hiB := hiB
          rw [h'] at hiB
          exact absurd hiB.some h0) (by omega) (by rw [Nat.zero_add]; exact u1)
      rw [← hlen] at happ
      refine Rn.reg hc rfl ?_
      simp only [sev_tmp, gd, want_free, rops, fx, bin_lss, Option.some.injEq, exists_eq_left', s26, s27, hd]
      (repeat (first | refine Rn.seq hc ?_ | refine Rn.skip hc ?_ | refine Rn.block hc ?_ | refine Rn.inBlock hc ?_ | refine Rn.scope hc ?_ | refine Rn.inScope hc ?_))
      refine Rn.condE hc rfl ?_
      simp only [sev_tmp, sg_eq, Nat.reduceLT, Value.bool.injEq, exists_eq_left', hn]
      (repeat (first | refine Rn.seq hc ?_ | refine Rn.skip hc ?_ | refine Rn.block hc ?_ | refine Rn.inBlock hc ?_ | refine Rn.scope hc ?_ | refine Rn.inScope hc ?_))
      refine Rn.reg hc rfl ?_
      simp only [sev_tmp, sg_eq, sg_ne, sp_n, Nat.reduceLT, ne_eq, Nat.reduceEqDiff, not_false_eq_true, gd, want_free, rops, fx, ld, idx, adr_p, Nat.zero_add, Option.some.injEq, exists_eq_left', Nat.mul_one, tk22, eo115, hn, s25, s27, nlen_nat hlj, hqB]
      (repeat (first | refine Rn.seq hc ?_ | refine Rn.skip hc ?_ | refine Rn.block hc ?_ | refine Rn.inBlock hc ?_ | refine Rn.scope hc ?_ | refine Rn.inScope hc ?_))
      refine Rn.reg hc rfl ?_
      simp only [sev_tmp, sg_eq, sg_ne, sp_n, Nat.reduceLT, ne_eq, Nat.reduceEqDiff, not_false_eq_true, gd, want_free, rops, fx, Option.some.injEq, exists_eq_left', hn, s6, ae_apd, apd_slice, happ]
      (repeat (first | refine Rn.seq hc ?_ | refine Rn.skip hc ?_ | refine Rn.block hc ?_ | refine Rn.inBlock hc ?_ | refine Rn.scope hc ?_ | refine Rn.inScope hc ?_))
      refine Rn.reg hc rfl ?_
      simp only [sev_tmp, sev_const, sg_eq, sg_ne, sp_n, Nat.reduceLT, ne_eq, Nat.reduceEqDiff, not_false_eq_true, gd, want_free, rops, fx, bin_add, Option.some.injEq, exists_eq_left', hn, s27, wrap_succ (show j < 9223372036854775807 by omega)]
      (repeat (first | refine Rn.seq hc ?_ | refine Rn.skip hc ?_ | refine Rn.block hc ?_ | refine Rn.inBlock hc ?_ | refine Rn.scope hc ?_ | refine Rn.inScope hc ?_))
      have l2 : Canon.look B1.objs A'.next = some ⟨.cells c1 3, true, 1⟩ := by
        obtain ⟨c', t, f, g, e, r1, r2, _⟩ := u2.at'
        rw [lB] at r1
        cases r1
        exact r2
      refine ih _ _ _ (by omega) ⟨j + 1, c1, by omega, rfl, hB.trans (u2.nx hB.wf (by omega)), by rw [u2.next]; exact hnB, by rw [u3]; exact hcs, l2, fun k hk => ?_, by simp only [sp_n, hn], by simp only [sg_eq, sg_ne, sp_n, Nat.reduceLT, ne_eq, Nat.reduceEqDiff, not_false_eq_true, hn], by simp only [sg_ne, ne_eq, Nat.reduceEqDiff, not_false_eq_true, s25], by simp only [sg_ne, ne_eq, Nat.reduceEqDiff, not_false_eq_true, s26], by simp only [sg_eq, sp_n, Nat.reduceLT, hn]⟩
      rw [u4, hfs]
      by_cases hk1 : k < (full ll j).length
      · rw [if_neg (by omega), hcl k hk1, List.getD_eq_getElem?_getD, List.getD_eq_getElem?_getD, List.getElem?_append_left hk1]
      · rw [if_pos ⟨by omega, by simp; omega⟩]
        have hk2 : k - (full ll j).length < (ll j).length := by omega
        simp [List.getD_eq_getElem?_getD, List.getElem?_append_right (Nat.le_of_not_lt hk1), hk2]
    · have hd : decide ((j : Int) < (i : Int)) = false := decide_eq_false (by omega)
      have hji : j = i := by omega
      subst hji
      clear ih
      refine Rn.reg hc rfl ?_
      simp only [sev_tmp, gd, want_free, rops, fx, bin_lss, Option.some.injEq, exists_eq_left', s26, s27, hd]
      (repeat (first | refine Rn.seq hc ?_ | refine Rn.skip hc ?_ | refine Rn.block hc ?_ | refine Rn.inBlock hc ?_ | refine Rn.scope hc ?_ | refine Rn.inScope hc ?_))
      refine Rn.condE hc rfl ?_
      simp only [sev_tmp, sg_eq, Nat.reduceLT, Value.bool.injEq, exists_eq_left', hn]
      (repeat (first | refine Rn.seq hc ?_ | refine Rn.skip hc ?_ | refine Rn.block hc ?_ | refine Rn.inBlock hc ?_ | refine Rn.scope hc ?_ | refine Rn.inScope hc ?_))
      refine Rn.exit hc rfl ?_
      (repeat (first | refine Rn.seq hc ?_ | refine Rn.skip hc ?_ | refine Rn.block hc ?_ | refine Rn.inBlock hc ?_ | refine Rn.scope hc ?_ | refine Rn.inScope hc ?_))
      refine Rn.reg hc rfl ?_
      simp only [sev_tmp, sg_eq, sg_ne, sp_n, Nat.reduceLT, ne_eq, Nat.reduceEqDiff, not_false_eq_true, gd, want_free, rops, fx, Option.some.injEq, exists_eq_left', hn, s6]
      (repeat (first | refine Rn.seq hc ?_ | refine Rn.skip hc ?_ | refine Rn.block hc ?_ | refine Rn.inBlock hc ?_ | refine Rn.scope hc ?_ | refine Rn.inScope hc ?_))
      refine Rn.ret (endQ_tmp rfl ⟨some ⟨A'.next, 0, none⟩, ?_, hB, fun k hk => ⟨A'.next, 0, rfl, Nat.le_refl _, by omega, ?_⟩, fun y hy => by cases hy; exact ⟨rfl, Nat.le_refl _, _, lB, .inr ⟨rfl, rfl, rfl⟩⟩⟩)
      · simp only [sg_eq, sp_n, Nat.reduceLT, hn]
      · rw [cl_of lB rfl, Nat.zero_add]
        exact hcl k hk
end Go.Proofs.Ytdaljohmfnfgiaa
/- The program's Cons. The condition GrowOK (slices.Grow), which is not proved yet. -/
namespace Go.Proofs.Ytdaljohmfnfgiaa
open Go Go.RowKit Go.Proofs.Ytdaljohmfnfgiaa.Canon
set_option maxRecDepth 20000

theorem et115 : elemT Try.prog 115 = some 22 := by kernel_rfl
theorem so115_2 : sof Try.prog 115 2 = .mk (fun k => some (k * 1, 1)) 2 [.slice none 0 0, .slice none 0 0] := by kernel_rfl
theorem fb115_2 {ρ : Operand → Value} {d : Option Tmp} {ty : TypeId} {pos : String} {af : Array Edge} {gu : Option (Nat × Bool)} {x y : Tmp} {u v : Value} (hu : ρ (.tmp x) = u) (hv : ρ (.tmp y) = v) (hcu : isCell u = true) (hcv : isCell v = true) : fobj Try.prog ρ ⟨d, .buildSlice 115 2 #[(0, .tmp x), (1, .tmp y)], ty, pos, af, gu⟩ = some ⟨[u, v], 22, .sl 2 2⟩ := by
  have := fbld_fill (ρ := ρ) (pl := fun k => some (k * 1, 1)) (n := 2) (ps := [(0, .tmp x), (1, .tmp y)]) (cs := [.slice none 0 0, .slice none 0 0]) (r := [u, v]) rfl (by simp [fbld, hu, hv, cells_isCell hcu, cells_isCell hcv])
  have hok : ([((0 : Nat), Operand.tmp x), (1, Operand.tmp y)].all fun p => opnOK p.2) = true := rfl
  simp only [fobj, so115_2, et115, hok, this]
theorem Dr.callP {S : Canon.Spec} {ops : Array Oper} {F : AHeap → Prop} {nb i : Nat} {o : Oper} {os : List Oper} {T : Slots} {A : AHeap} {pd : List (Nat × FO)} {K : Slots → List AHeap → Prop} (he : isEff Try.prog (cvE Try.prog ops) o = true) (hf : isFl Try.prog o = false) {pd1 pd2 : List (Nat × FO)} (hp1 : pd.filter (keyIn ((nth (masks ops.toList) i).getD 0)) = pd1) (hp2 : pd.filter (fun x => !keyIn ((nth (masks ops.toList) i).getD 0) x) = pd2)
    {ms0 : List AHeap} {A0 : AHeap} (hp : placeAll nb pd1 A = some (ms0, A0)) (hms : ∀ M ∈ ms0, F M) (hA : F A0) (hw : wantB (gd ops o) T = true) {R : Value → AHeap → Prop}
    (h : ∃ v A1, opRun Try.prog (runS Try.prog S) (seval T) o A0 = some (v, A1) ∧ R v A1) (k : ∀ v A1, R v A1 → Dr Try.prog S ops F nb (i + 1) os (sput T o.dst v) pd2 A1 (fun T1 ms => K T1 (ms0 ++ (A0 :: ms)))) : Dr Try.prog S ops F nb i (o :: os) T pd A K := by
  obtain ⟨v, A1, h1, h2⟩ := h
  exact Dr.eff he hf hp1 hp2 hp hms hA hw h1 (k v A1 h2)
def ccS (m : Int) (L : List Int) (E : Nat → Int) : Canon.Spec := fun g _ A v A1 => match g with
  | 69 => ∃ a p, Red E a p ∧ LeastQ A m E a p v A1
  | _ => ∃ a, v = .slice a L.length L.length ∧ Nx A.next A A1 ∧ Ints A1 a A.next A1.next L ∧ Sl A1 a A.next

theorem cons_of_grow (hgrow : GrowOK) : ConsOK := by
  intro A hw m v sa ra sc rc st ro hs hr ls lr
  refine con_of_rn hc Try.func35 rfl (Nat.le_of_ble_eq_true rfl) ?_
  obtain ⟨A0, e0, hx0, hn0, b0, b1, b2⟩ := box3 hw (.int .i64 m) (.slice sa st.length sc) (.slice ra ro.length rc) 24
  have hx1 : Nx A0.next A0 (A0.push (.cells #[.int .i64 0, .slice none 0 0, .slice none 0 0] 24)) := (Nx.refl hx0.wf _).push (Nat.le_refl _) _
  have l1 := look_push_eq A0 (.cells #[.int .i64 0, .slice none 0 0, .slice none 0 0] 24)
  have hn1 : (A0.push (.cells #[.int .i64 0, .slice none 0 0, .slice none 0 0] 24)).next = A0.next + 1 := rfl
  generalize e1 : A0.push (.cells #[.int .i64 0, .slice none 0 0, .slice none 0 0] 24) = A1 at hx1 l1 hn1
  obtain ⟨A3, e3, hx3, hn3, c0, c1, c2⟩ := box3 hx1.wf (.int .i64 m) (.slice sa st.length sc) (.slice ra ro.length rc) 24
  have hx01 : Nx A.next A A1 := hx0.trans (hx1.le hx0.next)
  have hx03 : Nx A.next A A3 := hx01.trans (hx3.le hx01.next)
  have hrow : LRow A3 (some ⟨A1.next, 0, none⟩) [⟨m, sa, sc, st, ra, rc, ro⟩] := fun i hi => by
    have : i = 0 := by simp at hi; omega
    subst this
    exact ⟨⟨(hs.nx hx03 (Nat.le_refl _)).mono (Nat.le_refl _) hx03.next, (hr.nx hx03 (Nat.le_refl _)).mono (Nat.le_refl _) hx03.next, ls, lr⟩, _, _, rfl, by omega, c0, c1, c2⟩
  have b0 := (hx1.cl (show A.next < A0.next by omega) 0).trans b0
  have b1 := (hx1.cl (show A.next < A0.next by omega) 1).trans b1
  have b2 := (hx1.cl (show A.next < A0.next by omega) 2).trans b2
  rw [s_in2]
  (repeat (first | refine Rn.seq hc ?_ | refine Rn.skip hc ?_ | refine Rn.block hc ?_ | refine Rn.inBlock hc ?_ | refine Rn.scope hc ?_ | refine Rn.inScope hc ?_))
  refine Rn.reg hc rfl ?_
  simp only [sev_tmp, sev_const, sg_eq, sp_n, Nat.reduceLT, gd, want_free, rops, fx, Option.some.injEq, exists_eq_left', Value.cells, show Try.f35.ntmps = 36 from rfl, e0, ze24, e1]
  (repeat (first | refine Rn.seq hc ?_ | refine Rn.skip hc ?_ | refine Rn.block hc ?_ | refine Rn.inBlock hc ?_ | refine Rn.scope hc ?_ | refine Rn.inScope hc ?_))
  refine Rn.region hc fun K hK => ?_
  refine Wo.run hc 2 rfl rfl rfl ?_
  simp (maxSteps := 2000000) only [List.drop_zero, List.take_succ_cons, List.take_zero, sev_tmp, sg_eq, sg_ne, sp_n, Nat.reduceLT, ne_eq, Nat.reduceEqDiff, not_false_eq_true, gd, want_free, rops, fx, ld, adr_p, cls, Nat.zero_add, Option.some.injEq, exists_eq_left', Value.cells, Nat.reduceAdd, tk24, b0, b1, b2, bs46_1, List.size_toArray, List.length_cons, List.length_nil, e3]
  refine Wo.call hc (by rfl) (by rfl) ⟨by rfl, by rfl⟩ (xs := [.slice (some ⟨A1.next, 0, none⟩) 1 1]) (by rfl) (by rfl) (by rfl) (Con.mono (check_all hx3.wf (l := [⟨m, sa, sc, st, ra, rc, ro⟩]) hrow (by simp)) ?_)
  rintro w A4 ⟨rfl, hx4⟩
  rw [errs_one, show (⟨m, sa, sc, st, ra, rc, ro⟩ : Las).err = errL m st ro from rfl]
  refine Wo.run hc 1 rfl rfl rfl ?_
  simp (maxSteps := 2000000) only [List.drop_zero, List.drop_succ_cons, List.take_succ_cons, List.take_zero, sev_tmp, sg_eq, sp_n, Nat.reduceLT, gd, want_free, rops, fx, Option.some.injEq, exists_eq_left', Nat.reduceAdd]
  refine Wo.done hc rfl (hK _ _ ?_)
  clear hK
  (repeat (first | refine Rn.seq hc ?_ | refine Rn.skip hc ?_ | refine Rn.block hc ?_ | refine Rn.inBlock hc ?_ | refine Rn.scope hc ?_ | refine Rn.inScope hc ?_))
  have hx34 : Nx A1.next A1 A4 := hx3.trans (hx4.le hx3.next)
  have hx04 : Nx A.next A A4 := hx01.trans (hx34.le hx01.next)
  have n4 : A0.next < A4.next := by have := hx4.next; omega
  have l4 : Canon.look A4.objs A0.next = _ := (hx34.keep _ (by omega)).trans l1
  have b0 := (hx34.cl (show A.next < A1.next by omega) 0).trans b0
  have b1 := (hx34.cl (show A.next < A1.next by omega) 1).trans b1
  have b2 := (hx34.cl (show A.next < A1.next by omega) 2).trans b2
  have hn0A := hx0.next
  clear hrow c0 c1 c2 e3 e1 e0 hx3 hx4 hx1
  unfold erC
  by_cases he : errL m st ro = 0
  · have hd : (!decide (errL m st ro = 0)) = false := by rw [decide_eq_true he]; rfl
    obtain ⟨l60, l120⟩ := errL_len he
    have hro := errL_pos he
    rw [if_pos he]
    refine Rn.reg hc rfl ?_
    simp only [sev_tmp, sev_const, sg_eq, sp_n, Nat.reduceLT, gd, want_free, rops, fx, bin_neq, Option.some.injEq, exists_eq_left', hd]
    (repeat (first | refine Rn.seq hc ?_ | refine Rn.skip hc ?_ | refine Rn.block hc ?_ | refine Rn.inBlock hc ?_ | refine Rn.scope hc ?_ | refine Rn.inScope hc ?_))
    refine Rn.condE hc rfl ?_
    simp only [sev_tmp, sg_eq, sp_n, Nat.reduceLT, Value.bool.injEq, exists_eq_left']
    (repeat (first | refine Rn.seq hc ?_ | refine Rn.skip hc ?_ | refine Rn.block hc ?_ | refine Rn.inBlock hc ?_ | refine Rn.scope hc ?_ | refine Rn.inScope hc ?_))
    by_cases hneg : v < 0 ∨ m ≤ v
    · obtain ⟨D, q1, g0, g1, g2, hxD⟩ := err_fin hx04 hn0A n4 l4
      rw [if_pos hneg]
      have h3 : (decide (v < 0) = true) ∨ (decide (v < 0) = false ∧ decide (m ≤ v) = true) := by
        by_cases h : v < 0
        · exact .inl (decide_eq_true h)
        · exact .inr ⟨decide_eq_false h, decide_eq_true (hneg.resolve_left h)⟩
      rcases h3 with h1 | ⟨h1, h2⟩
      · refine Rn.reg hc rfl ?_
        simp only [sev_tmp, sev_const, sg_eq, sg_ne, sp_n, Nat.reduceLT, ne_eq, Nat.reduceEqDiff, not_false_eq_true, gd, nth, want_free, want_slot, beqB, rops, fx, pck, bin_lss, Option.some.injEq, exists_eq_left', h1]
        (repeat (first | refine Rn.seq hc ?_ | refine Rn.skip hc ?_ | refine Rn.block hc ?_ | refine Rn.inBlock hc ?_ | refine Rn.scope hc ?_ | refine Rn.inScope hc ?_))
        refine Rn.condE hc rfl ?_
        simp only [sev_tmp, sg_eq, sp_n, Nat.reduceLT, Value.bool.injEq, exists_eq_left']
        (repeat (first | refine Rn.seq hc ?_ | refine Rn.skip hc ?_ | refine Rn.block hc ?_ | refine Rn.inBlock hc ?_ | refine Rn.scope hc ?_ | refine Rn.inScope hc ?_))
        refine Rn.reg hc rfl ?_
        simp only [sev_tmp, sev_const, sg_eq, sg_ne, sp_n, sp_none, Nat.reduceLT, ne_eq, Nat.reduceEqDiff, not_false_eq_true, gd, want_free, rops, fx, str, adr_p, Nat.zero_add, Option.some.injEq, exists_eq_left', Nat.reduceAdd, tk24, bd24_z, q1, List.size_toArray, List.length_cons, List.length_nil, Nat.beq_refl]
        (repeat (first | refine Rn.seq hc ?_ | refine Rn.skip hc ?_ | refine Rn.block hc ?_ | refine Rn.inBlock hc ?_ | refine Rn.scope hc ?_ | refine Rn.inScope hc ?_))
        refine Rn.ret (endQ_ct rfl (v := .agg #[.int .i64 0, .slice none 0 0, .slice none 0 0]) ?_ ?_)
        · simp only [sg_eq, sg_ne, sp_n, Nat.reduceLT, ne_eq, Nat.reduceEqDiff, not_false_eq_true, ld, adr_p, cls, Nat.zero_add, Nat.reduceAdd, tk24, g0, g1, g2]
        · simp only [sg_eq, sp_n, Nat.reduceLT]
          exact tld_err (by omega) hxD
      · refine Rn.reg hc rfl ?_
        simp only [sev_tmp, sev_const, sg_eq, sg_ne, sp_n, Nat.reduceLT, ne_eq, Nat.reduceEqDiff, not_false_eq_true, gd, nth, want_free, want_slot, beqB, rops, fx, ld, fad, pck, bin_lss, bin_geq, adr_p, Nat.add_zero, Option.some.injEq, exists_eq_left', tk3, fo24_0, h1, h2, b0]
        (repeat (first | refine Rn.seq hc ?_ | refine Rn.skip hc ?_ | refine Rn.block hc ?_ | refine Rn.inBlock hc ?_ | refine Rn.scope hc ?_ | refine Rn.inScope hc ?_))
        refine Rn.condE hc rfl ?_
        simp only [sev_tmp, sg_eq, sp_n, Nat.reduceLT, Value.bool.injEq, exists_eq_left']
        (repeat (first | refine Rn.seq hc ?_ | refine Rn.skip hc ?_ | refine Rn.block hc ?_ | refine Rn.inBlock hc ?_ | refine Rn.scope hc ?_ | refine Rn.inScope hc ?_))
        refine Rn.reg hc rfl ?_
        simp only [sev_tmp, sev_const, sg_eq, sg_ne, sp_n, sp_none, Nat.reduceLT, ne_eq, Nat.reduceEqDiff, not_false_eq_true, gd, want_free, rops, fx, str, adr_p, Nat.zero_add, Option.some.injEq, exists_eq_left', Nat.reduceAdd, tk24, bd24_z, q1, List.size_toArray, List.length_cons, List.length_nil, Nat.beq_refl]
        (repeat (first | refine Rn.seq hc ?_ | refine Rn.skip hc ?_ | refine Rn.block hc ?_ | refine Rn.inBlock hc ?_ | refine Rn.scope hc ?_ | refine Rn.inScope hc ?_))
        refine Rn.ret (endQ_ct rfl (v := .agg #[.int .i64 0, .slice none 0 0, .slice none 0 0]) ?_ ?_)
        · simp only [sg_eq, sg_ne, sp_n, Nat.reduceLT, ne_eq, Nat.reduceEqDiff, not_false_eq_true, ld, adr_p, cls, Nat.zero_add, Nat.reduceAdd, tk24, g0, g1, g2]
        · simp only [sg_eq, sp_n, Nat.reduceLT]
          exact tld_err (by omega) hxD
    · have h1 : decide (v < 0) = false := decide_eq_false fun h => hneg (.inl h)
      have h2 : decide (m ≤ v) = false := decide_eq_false fun h => hneg (.inr h)
      rw [if_neg hneg]
      refine Rn.reg hc rfl ?_
      simp only [sev_tmp, sev_const, sg_eq, sg_ne, sp_n, Nat.reduceLT, ne_eq, Nat.reduceEqDiff, not_false_eq_true, gd, nth, want_free, want_slot, beqB, rops, fx, ld, fad, pck, bin_lss, bin_geq, adr_p, Nat.add_zero, Option.some.injEq, exists_eq_left', tk3, fo24_0, h1, h2, b0]
      (repeat (first | refine Rn.seq hc ?_ | refine Rn.skip hc ?_ | refine Rn.block hc ?_ | refine Rn.inBlock hc ?_ | refine Rn.scope hc ?_ | refine Rn.inScope hc ?_))
      refine Rn.condE hc rfl ?_
      simp only [sev_tmp, sg_eq, sp_n, Nat.reduceLT, Value.bool.injEq, exists_eq_left']
      (repeat (first | refine Rn.seq hc ?_ | refine Rn.skip hc ?_ | refine Rn.block hc ?_ | refine Rn.inBlock hc ?_ | refine Rn.scope hc ?_ | refine Rn.inScope hc ?_))
      obtain ⟨F, hF1, hF2⟩ : ∃ F : AHeap → Prop, (∀ C, F C → ∀ b, b < A4.next → b ≠ A0.next → ∀ o, cl C b o = cl A4 b o) ∧ (∀ C, (∀ b, b < A4.next → b ≠ A0.next → Canon.look C.objs b = Canon.look A4.objs b) → F C) := ⟨fun C => ∀ b, b < A4.next → b ≠ A0.next → ∀ o, cl C b o = cl A4 b o, fun _ h => h, fun C h b h1 h2 o => cl_look (h b h1 h2)⟩
      have hF : ∀ C, Nx A4.next A4 C → F C := fun C h => hF2 C fun b hb _ => h.keep b hb
      have G0 := fun M hM => (hF1 M hM A.next (by omega) (by omega) 0).trans b0
      have G1 := fun M hM => (hF1 M hM A.next (by omega) (by omega) 1).trans b1
      have G2 := fun M hM => (hF1 M hM A.next (by omega) (by omega) 2).trans b2
      have hbk : Nx A4.next A4 (bump A4 15) := Nx.bump (Nx.refl hx04.wf _) 15
      have FB := hF _ hbk
      refine Rn.drawnF hc hx (ccS m (v :: st) (atL (v :: st) ro)) F (n := 5) (k := 15) (by kernel_rfl) (by kernel_rfl) (by rfl) ?_
      refine Dr.read (by first | rfl | kernel_rfl) (by rfl) (by assumption) (fun M hM => by simp only [sev_tmp, sg_eq, sg_ne, sp_n, Nat.reduceLT, ne_eq, Nat.reduceEqDiff, not_false_eq_true, fx, fad, adr_p, Nat.add_zero, fo24_0] <;> rfl) (by rfl) (by first | exact VQ.int _ _ | exact VQ.bool _ | exact VQ.ptr _ _ | exact VQ.slice _ _ _ | exact VQ.func (by simp [vq_int, vq_ptr, vq_slice]) (by simp [vq_int, vq_ptr, vq_slice]) | exact VQ.agg (by simp [vq_int, vq_ptr, vq_slice]) | exact VQ.tuple (by simp [vq_int, vq_ptr, vq_slice])) ?_
      refine Dr.read (by first | rfl | kernel_rfl) (by rfl) (by assumption) (fun M hM => by simp only [sev_tmp, sg_eq, sp_n, Nat.reduceLT, fx, ld, adr_p, tk3, G0 M hM] <;> rfl) (by rfl) (by first | exact VQ.int _ _ | exact VQ.bool _ | exact VQ.ptr _ _ | exact VQ.slice _ _ _ | exact VQ.func (by simp [vq_int, vq_ptr, vq_slice]) (by simp [vq_int, vq_ptr, vq_slice]) | exact VQ.agg (by simp [vq_int, vq_ptr, vq_slice]) | exact VQ.tuple (by simp [vq_int, vq_ptr, vq_slice])) ?_
      refine Dr.read (by first | rfl | kernel_rfl) (by rfl) (by assumption) (fun M hM => by simp only [sev_tmp, sg_eq, sg_ne, Nat.reduceLT, ne_eq, Nat.reduceEqDiff, not_false_eq_true, fx] <;> rfl) (by rfl) (by first | exact VQ.int _ _ | exact VQ.bool _ | exact VQ.ptr _ _ | exact VQ.slice _ _ _ | exact VQ.func (by simp [vq_int, vq_ptr, vq_slice]) (by simp [vq_int, vq_ptr, vq_slice]) | exact VQ.agg (by simp [vq_int, vq_ptr, vq_slice]) | exact VQ.tuple (by simp [vq_int, vq_ptr, vq_slice])) ?_
      refine Dr.float (by rfl) (by rfl) (by rfl) (fb22_1 (v := .int .i64 v) (by simp only [sev_tmp, sg_eq, sp_n, Nat.reduceLT]) rfl) ?_
      refine Dr.read (by first | rfl | kernel_rfl) (by rfl) (by assumption) (fun M hM => by simp only [sev_tmp, sg_eq, sg_ne, sp_n, Nat.reduceLT, ne_eq, Nat.reduceEqDiff, not_false_eq_true, fx, fad, adr_p, Nat.zero_add, Nat.reduceAdd, fo24_1] <;> rfl) (by rfl) (by first | exact VQ.int _ _ | exact VQ.bool _ | exact VQ.ptr _ _ | exact VQ.slice _ _ _ | exact VQ.func (by simp [vq_int, vq_ptr, vq_slice]) (by simp [vq_int, vq_ptr, vq_slice]) | exact VQ.agg (by simp [vq_int, vq_ptr, vq_slice]) | exact VQ.tuple (by simp [vq_int, vq_ptr, vq_slice])) ?_
      refine Dr.read (by first | rfl | kernel_rfl) (by rfl) (by assumption) (fun M hM => by simp only [sev_tmp, sg_eq, sp_n, Nat.reduceLT, fx, ld, adr_p, Nat.zero_add, Nat.reduceAdd, tk22, G1 M hM] <;> rfl) (by rfl) (by first | exact VQ.int _ _ | exact VQ.bool _ | exact VQ.ptr _ _ | exact VQ.slice _ _ _ | exact VQ.func (by simp [vq_int, vq_ptr, vq_slice]) (by simp [vq_int, vq_ptr, vq_slice]) | exact VQ.agg (by simp [vq_int, vq_ptr, vq_slice]) | exact VQ.tuple (by simp [vq_int, vq_ptr, vq_slice])) ?_
      refine Dr.float (by rfl) (by rfl) (by rfl) (fb115_2 (u := .slice (some ⟨A4.next + 3, 0, none⟩) 1 1) (v := .slice sa st.length sc) (by simp only [sev_tmp, sg_eq, sg_ne, sp_n, Nat.reduceLT, ne_eq, Nat.reduceEqDiff, not_false_eq_true, FK.val]) (by simp only [sev_tmp, sg_eq, sp_n, Nat.reduceLT]) rfl rfl) ?_
      obtain ⟨C1, p1, hxC1, eC1, lC1, kC1⟩ := place_row hbk (b := A4.next + 6) (by omega) (by rw [bump_next]; omega) (hx04.wf.none (by omega)) [.slice (some ⟨A4.next + 3, 0, none⟩) 1 1, .slice sa st.length sc] 22 2 2
      rw [bump_next] at eC1
      obtain ⟨C2, p2, hxC2, eC2, lC2, kC2⟩ := place_row hxC1 (b := A4.next + 3) (by omega) (by omega) (by rw [kC1 _ (by omega)]; exact hx04.wf.none (by omega)) [.int .i64 v] 3 1 1
      have hxA2 : Nx A.next A C2 := hx04.trans (hxC2.le hx04.next)
      have hfull : full (fun i => if i = 0 then [v] else st) 2 = v :: st := by simp [full, List.range_succ]
      have hcat := concat_run hgrow hxC2.wf (q := A4.next + 6) (p := 2) (c0 := 2) (aa := fun i => if i = 0 then some ⟨A4.next + 3, 0, none⟩ else sa) (cc := fun i => if i = 0 then 1 else sc) (ll := fun i => if i = 0 then [v] else st)
        (fun i hi => by
          rw [cl_look (kC2 _ (by omega)), cl_of lC1 rfl]
          match i, hi with
          | 0, _ => rfl
          | 1, _ => rfl) (by omega)
        (fun i hi => by
          match i, hi with
          | 0, _ =>
            intro j hj
            have : j = 0 := by simp at hj; omega
            subst this
            exact ⟨A4.next + 3, 0, rfl, Nat.zero_le _, by omega, by rw [cl_of lC2 rfl]; rfl⟩
          | 1, _ => exact (hs.nx hxA2 (Nat.le_refl _)).mono (Nat.le_refl _) hxA2.next) (by rw [hfull, List.length_cons]; omega) (by rw [hfull, List.length_cons]; omega) (by omega)
      rw [hfull] at hcat
      refine Dr.callP (by kernel_rfl) (by rfl) (pd1 := [(6, ⟨[.slice (some ⟨A4.next + 3, 0, none⟩) 1 1, .slice sa st.length sc], 22, .sl 2 2⟩), (3, ⟨[.int .i64 v], 3, .sl 1 1⟩)]) (pd2 := []) (by kernel_rfl) (by kernel_rfl) (ms0 := [bump A4 15, C1]) (A0 := C2) (by simp only [placeAll, p1, p2]) (fun M hM => by
          rcases List.mem_cons.1 hM with rfl | hM
          · exact FB
          · rw [List.mem_singleton] at hM; rw [hM]; exact hF _ hxC1) (hF _ hxC2) (by rfl)
        (opRun_call (by rfl) ⟨by rfl, by rfl⟩ (by rfl) (xs := [.slice (some ⟨A4.next + 6, 0, none⟩) 2 2]) (by simp only [sev_tmp, sg_eq, sp_n, Nat.reduceLT, List.map_cons, List.map_nil, List.nil_append, List.append_nil, FK.val]) hcat) ?_
      rintro w C3 ⟨xa, rfl, k3, i3, y3⟩
      have hC3 : Nx A4.next A4 C3 := hxC2.trans (k3.le hxC2.next)
      have F3 := hF _ hC3
      refine Dr.read (by first | rfl | kernel_rfl) (by rfl) (by assumption) (fun M hM => by simp only [sev_tmp, sg_eq, sg_ne, sp_n, Nat.reduceLT, ne_eq, Nat.reduceEqDiff, not_false_eq_true, fx, fad, adr_p, Nat.zero_add, Nat.reduceAdd, fo24_2] <;> rfl) (by rfl) (by first | exact VQ.int _ _ | exact VQ.bool _ | exact VQ.ptr _ _ | exact VQ.slice _ _ _ | exact VQ.func (by simp [vq_int, vq_ptr, vq_slice]) (by simp [vq_int, vq_ptr, vq_slice]) | exact VQ.agg (by simp [vq_int, vq_ptr, vq_slice]) | exact VQ.tuple (by simp [vq_int, vq_ptr, vq_slice])) ?_
      refine Dr.read (by first | rfl | kernel_rfl) (by rfl) (by assumption) (fun M hM => by simp only [sev_tmp, sg_eq, sp_n, Nat.reduceLT, fx, ld, adr_p, Nat.zero_add, Nat.reduceAdd, tk22, G2 M hM] <;> rfl) (by rfl) (by first | exact VQ.int _ _ | exact VQ.bool _ | exact VQ.ptr _ _ | exact VQ.slice _ _ _ | exact VQ.func (by simp [vq_int, vq_ptr, vq_slice]) (by simp [vq_int, vq_ptr, vq_slice]) | exact VQ.agg (by simp [vq_int, vq_ptr, vq_slice]) | exact VQ.tuple (by simp [vq_int, vq_ptr, vq_slice])) ?_
      have hxA3 : Nx A.next A C3 := hx04.trans (hC3.le hx04.next)
      have hlr := least_run k3.wf (m := m) (sc := (v :: st).length) (rc := rc) (i3.mono (Nat.zero_le _) (Nat.le_refl _)) ((hr.nx hxA3 (Nat.le_refl _)).mono (Nat.le_refl _) hxA3.next) (by rw [List.length_cons]; omega) (by omega) hro (y3.mono (Nat.zero_le _)) (Nat.le_refl _)
      refine Dr.call (by kernel_rfl) (by rfl) (by assumption) (by rfl) (opRun_call (by rfl) ⟨by rfl, by rfl⟩ (by rfl) (xs := [.int .i64 m, .slice xa (v :: st).length (v :: st).length, .slice ra ro.length rc]) (by simp only [sev_tmp, sg_eq, sg_ne, sp_n, Nat.reduceLT, ne_eq, Nat.reduceEqDiff, not_false_eq_true, List.map_cons, List.map_nil, List.nil_append, List.append_nil]) (Con.mono hlr fun v A1 h => (by obtain ⟨a, p, h1, _, _, h2⟩ := h; exact ⟨a, p, h1, h2⟩))) ?_
      rintro w C4 ⟨a, p, hred, hq⟩
      have hC4 : Nx A4.next A4 C4 := hC3.trans (hq.1.le hC3.next)
      have F4 := hF _ hC4
      obtain ⟨mm, n1, n2, ee, p1, c1, p2, c2, rfl, D, q1, g0, g1, g2, hoff, hT⟩ := Tld.fin (b := A0.next) hxA3 hn0A (by have := hC3.next; omega) ((hC3.keep _ (by omega)).trans l4) (tld_q (m := m) hred hq)
      refine Dr.read (by first | rfl | kernel_rfl) (by rfl) (by assumption) (fun M hM => by simp only [sev_tmp, sg_eq, sp_n, Nat.reduceLT, fx, ext, List.getElem?_toArray, List.getElem?_cons_zero, Nat.zero_add, Nat.reduceAdd] <;> rfl) (by rfl) (by first | exact VQ.int _ _ | exact VQ.bool _ | exact VQ.ptr _ _ | exact VQ.slice _ _ _ | exact VQ.func (by simp [vq_int, vq_ptr, vq_slice]) (by simp [vq_int, vq_ptr, vq_slice]) | exact VQ.agg (by simp [vq_int, vq_slice]) | exact VQ.tuple (by simp [vq_int, vq_ptr, vq_slice])) ?_
      refine Dr.read (by first | rfl | kernel_rfl) (by rfl) (by assumption) (fun M hM => by simp only [sev_tmp, sg_eq, sg_ne, sp_n, Nat.reduceLT, ne_eq, Nat.reduceEqDiff, not_false_eq_true, fx, ext, List.getElem?_toArray, List.getElem?_cons_zero, List.getElem?_cons_succ, Nat.zero_add, Nat.reduceAdd] <;> rfl) (by rfl) (by first | exact VQ.int _ _ | exact VQ.bool _ | exact VQ.ptr _ _ | exact VQ.slice _ _ _ | exact VQ.func (by simp [vq_int, vq_ptr, vq_slice]) (by simp [vq_int, vq_ptr, vq_slice]) | exact VQ.agg (by simp [vq_int, vq_ptr, vq_slice]) | exact VQ.tuple (by simp [vq_int, vq_ptr, vq_slice])) ?_
      have FD : F D := hF2 D fun b hb hne => (hoff b hne).trans (hC4.keep b hb)
      refine Dr.eff (by rfl) (by rfl) (pd1 := []) (pd2 := []) (by kernel_rfl) (by kernel_rfl) (ms0 := []) (A0 := C4) rfl (fun _ h => by cases h) F4 (by rfl) (v := undef) (A1 := D) (opRun_op rfl (fx_ok (by rfl) (by simp only [sev_tmp, sg_eq, sg_ne, sp_n, Nat.reduceLT, ne_eq, Nat.reduceEqDiff, not_false_eq_true, fx, str, adr_p, Nat.zero_add, Nat.reduceAdd, tk24, q1, List.size_toArray, List.length_cons, List.length_nil, Nat.beq_refl]))) ?_
      refine Dr.read (by first | rfl | kernel_rfl) (by rfl) (by assumption) (fun M hM => by simp only [sev_tmp, sg_eq, sp_n, sp_none, Nat.reduceLT, fx, Nat.zero_add, Nat.reduceAdd] <;> rfl) (by rfl) (by first | exact VQ.int _ _ | exact VQ.bool _ | exact VQ.ptr _ _ | exact VQ.slice _ _ _ | exact VQ.func (by simp [vq_int, vq_ptr, vq_slice]) (by simp [vq_int, vq_ptr, vq_slice]) | exact VQ.agg (by simp [vq_int, vq_ptr, vq_slice]) | exact VQ.tuple (by simp [vq_int, vq_ptr, vq_slice])) ?_
      refine Dr.nil (by rfl) (fun M hM => by cases hM) FD ⟨D, by rfl, ?_⟩
      (repeat (first | refine Rn.seq hc ?_ | refine Rn.skip hc ?_ | refine Rn.block hc ?_ | refine Rn.inBlock hc ?_ | refine Rn.scope hc ?_ | refine Rn.inScope hc ?_))
      refine Rn.ret (endQ_ct rfl (v := .agg #[.int .i64 mm, .slice p1 n1 c1, .slice p2 n2 c2]) ?_ ?_)
      · simp only [sg_eq, sg_ne, sp_n, sp_none, Nat.reduceLT, ne_eq, Nat.reduceEqDiff, not_false_eq_true, ld, adr_p, cls, Nat.zero_add, Nat.reduceAdd, tk24, g0, g1, g2]
      · simp only [sg_eq, sp_n, sp_none, Nat.reduceLT]
        exact hT
  · have hd : (!decide (errL m st ro = 0)) = true := by rw [decide_eq_false he]; rfl
    obtain ⟨D, q1, g0, g1, g2, hxD⟩ := err_fin hx04 hn0A n4 l4
    rw [if_neg he]
    refine Rn.reg hc rfl ?_
    simp only [sev_tmp, sev_const, sg_eq, sp_n, Nat.reduceLT, gd, want_free, rops, fx, bin_neq, Option.some.injEq, exists_eq_left', hd]
    (repeat (first | refine Rn.seq hc ?_ | refine Rn.skip hc ?_ | refine Rn.block hc ?_ | refine Rn.inBlock hc ?_ | refine Rn.scope hc ?_ | refine Rn.inScope hc ?_))
    refine Rn.condE hc rfl ?_
    simp only [sev_tmp, sg_eq, sp_n, Nat.reduceLT, Value.bool.injEq, exists_eq_left']
    (repeat (first | refine Rn.seq hc ?_ | refine Rn.skip hc ?_ | refine Rn.block hc ?_ | refine Rn.inBlock hc ?_ | refine Rn.scope hc ?_ | refine Rn.inScope hc ?_))
    refine Rn.reg hc rfl ?_
    simp only [sev_tmp, sg_eq, sg_ne, sp_n, sp_none, Nat.reduceLT, ne_eq, Nat.reduceEqDiff, not_false_eq_true, gd, want_free, rops, fx, str, adr_p, Nat.zero_add, Option.some.injEq, exists_eq_left', Nat.reduceAdd, tk24, bd24_z, q1, List.size_toArray, List.length_cons, List.length_nil, Nat.beq_refl]
    (repeat (first | refine Rn.seq hc ?_ | refine Rn.skip hc ?_ | refine Rn.block hc ?_ | refine Rn.inBlock hc ?_ | refine Rn.scope hc ?_ | refine Rn.inScope hc ?_))
    refine Rn.ret (endQ_ct rfl (v := .agg #[.int .i64 0, .slice none 0 0, .slice none 0 0]) ?_ ?_)
    · simp only [sg_eq, sg_ne, sp_n, Nat.reduceLT, ne_eq, Nat.reduceEqDiff, not_false_eq_true, ld, adr_p, cls, Nat.zero_add, Nat.reduceAdd, tk24, g0, g1, g2]
    · simp only [sg_eq, sp_n, Nat.reduceLT]
      exact tld_err he hxD
end Go.Proofs.Ytdaljohmfnfgiaa
/- slices.Grow of a nil slice on the reckoned memory. The condition GrowCalls: what the machine does, which the shelf's contract says (not laid yet). -/
namespace Go.Proofs.Ytdaljohmfnfgiaa
open Go Go.RowKit Go.Proofs.Ytdaljohmfnfgiaa.Canon
set_option maxRecDepth 20000
/-- What slices.Grow(nil, n) does on the machine. -/
def GrowCalls : Prop := ∀ (w : World) (n : Nat), 0 < n → n ≤ 1000 → Calls Try.prog 107 #[.slice none 0 0, .int .i64 (n : Int)] w fun e w' => e = .returned (.slice (some ⟨w.heap.size, 0, none⟩) 0 (grownCap w n 0 3)) ∧
  w' = w.drew.alloc (.cells (Builtin.zeroCells (Value.int .i64 0).cells n ++ Builtin.zeroCells (Value.int .i64 0).cells (grownCap w n 0 3 - n)) 3)
theorem zc_all (n : Nat) : ∀ v ∈ (Builtin.zeroCells (Value.int .i64 0).cells n).toList, v = .int .i64 0 := by
  intro v hv
  simp [Builtin.zeroCells, Value.cells] at hv
  obtain ⟨i, hi, rfl⟩ := hv
  simp [Nat.mod_one]
theorem zc_len (n : Nat) : (Builtin.zeroCells (Value.int .i64 0).cells n).toList.length = n := by simp [Builtin.zeroCells, Value.cells]
theorem lr_ints {φ : Phi} : ∀ {l : List Value}, (∀ v ∈ l, v = .int .i64 0) → LR φ l l
  | [], _ => .nil
  | v :: l, h => by
    have hv := h v (List.mem_cons_self ..)
    subst hv
    exact .cons (.int _ _) (lr_ints fun u hu => h u (List.mem_cons_of_mem _ hu))
theorem v_relen {ψ : Phi} {b o n c k c' : Nat} {a' : Addr} (hn : n ≠ 0) (h : V ψ (.slice (some ⟨b, o, none⟩) n c) (.slice (some a') n c')) (hc0 : c ≠ 0) : V ψ (.slice (some ⟨b, o, none⟩) k c) (.slice (some a') k c') := by
  generalize hv : Value.slice (some a') n c' = v' at h
  cases h with
  | slice he hc =>
    cases hv
    exact .slice he hc
  | _ => first | (cases hv; done) | (exact absurd rfl hn) | (exact absurd rfl hc0)
theorem grow_of_calls (hg : GrowCalls) : GrowOK := by
  intro A hw n h0 hn
  obtain ⟨l, hl⟩ : ∃ l, l = (Builtin.zeroCells (Value.int .i64 0).cells n).toList := ⟨_, rfl⟩
  have hlen : l.length = n := by rw [hl]; exact zc_len n
  have hx1 : Nx A.next A ⟨A.next + 1, consO A.next ⟨.cells l.toArray 3, true, 1⟩ A.objs⟩ := by
    have h : Nx A.next A ⟨A.next + 1, A.objs⟩ := ⟨Nat.le_succ _, fun b x hx => Nat.lt_succ_of_lt (hw b x hx), fun b _ => rfl⟩
    exact h.cons (Nat.le_refl _) (Nat.lt_succ_self _) _
  refine ⟨.slice (some ⟨A.next, 0, none⟩) 0 n, ⟨A.next + 1, consO A.next ⟨.cells l.toArray 3, true, 1⟩ A.objs⟩, ⟨⟨Try.f107, Try.func107, rfl⟩, fun N => ret_of_calls (fun N φ w xs' hx hs hN => ?_) N⟩, rfl, hx1, rfl, l.toArray, by simp [hlen], look_consO_eq _ _ _⟩
  have hxs : xs' = #[.slice none 0 0, .int .i64 (n : Int)] := by
    have hlr := hx.list
    cases hl' : xs'.toList with
    | nil => rw [hl'] at hlr; cases hlr
    | cons s' r =>
      rw [hl'] at hlr
      cases hlr with
      | cons h1 h2 =>
        cases h2 with
        | cons h3 h4 =>
          cases h4
          cases h1
          cases h3
          exact list_two hl'
  subst hxs
  refine (hg w n h0 hn).mono fun en w' ⟨he, hw'⟩ => ?_
  subst he hw'
  have hge := grownCap_ge w n 0 3
  obtain ⟨ψ, g1, g2, g3, g4⟩ := hs.grow hN (cs := l) (cs' := l) (rest := (Builtin.zeroCells (Value.int .i64 0).cells (grownCap w n 0 3 - n)).toList) (lr_ints (by rw [hl]; exact zc_all n)) 3 1 n (grownCap w n 0 3) (by omega) hge (by rw [List.length_append, hlen, zc_len]; omega) A.objs (fun b x h => h)
  refine ⟨ψ, _, rfl, g1, v_relen (by omega) g2 (by omega), ?_, ?_⟩
  · have e : (l ++ (Builtin.zeroCells (Value.int .i64 0).cells (grownCap w n 0 3 - n)).toList).toArray = Builtin.zeroCells (Value.int .i64 0).cells n ++ Builtin.zeroCells (Value.int .i64 0).cells (grownCap w n 0 3 - n) := by
      rw [hl]
      apply Array.ext'
      simp
    rw [e] at g3
    exact g3
  · have e : (l ++ (Builtin.zeroCells (Value.int .i64 0).cells (grownCap w n 0 3 - n)).toList).toArray = Builtin.zeroCells (Value.int .i64 0).cells n ++ Builtin.zeroCells (Value.int .i64 0).cells (grownCap w n 0 3 - n) := by
      rw [hl]
      apply Array.ext'
      simp
    rw [e] at g4
    exact g4
end Go.Proofs.Ytdaljohmfnfgiaa
/- LassoParts returns true for every input, and each argument reads afterwards as it read before. No condition. -/
namespace Go.Proofs.Ytdaljohmfnfgiaa
open Go Go.RowKit Go.Shelf Go.Proofs.Ytdaljohmfnfgiaa.Canon
def growRen : Go.Shelf.Ren := ⟨fun | 4 => 107 | n => n, fun | 25 => 3 | n => n, fun n => n⟩
theorem growLays : Go.Proofs.Lays8.n4 Try.prog growRen := {
  mixed := by kernel_rfl
  f4 := ⟨Try.f107.name, by decide, Try.func107.trans (congrArg some (by kernel_rfl))⟩
  t0 := Try.underlying0
  a0 := Try.isAgg0
  z0 := Try.sizeOf0
  v0 := Try.zeroValue0
  t3 := Try.underlying3
  a3 := Try.isAgg3
  z3 := Try.sizeOf3
  v3 := Try.zeroValue3
  t4 := Try.underlying4
  a4 := Try.isAgg4
  z4 := Try.sizeOf4
  v4 := Try.zeroValue4
  t9 := Try.underlying9
  a9 := Try.isAgg9
  z9 := Try.sizeOf9
  v9 := Try.zeroValue9
  t20 := Try.underlying20
  a20 := Try.isAgg20
  z20 := Try.sizeOf20
  v20 := Try.zeroValue20
  t22 := Try.underlying22
  a22 := Try.isAgg22
  z22 := Try.sizeOf22
  v22 := Try.zeroValue22
}
set_option maxRecDepth 20000 in
theorem growCalls : GrowCalls := by
  intro w n h0 hn
  have hz3 := ze3
  obtain ⟨_, i, z, hinf, hz, hzz, _, hsz, hby⟩ := elB_eq el22
  have hz' : z = .int .i64 0 := by
    unfold zeroOf at hz3
    rw [hz, hinf] at hz3
    simp only [hzz] at hz3
    exact Option.some.inj hz3
  subst hz'
  have h := Any8.slices_Grow_grow growLays i (.int .i64 0) hinf hzz (by omega) none 0 0 n [] w (Nat.le_refl _) (by omega) (by rw [hby]; omega) (by omega) (by simp) (fun _ => rfl) (fun a ha => by cases ha)
  simp only [Nat.zero_add, Nat.sub_zero] at h
  refine h.mono fun e w' ⟨h1, h2⟩ => ⟨h1, ?_⟩
  rw [h2]
  show w.drew.alloc (.cells (#[] ++ _ ++ _) 3) = _
  rw [Array.empty_append]
  rfl
theorem lassoParts_holds : Rows.LassoPartsSaid := lassoParts_if (cons_of_grow (grow_of_calls growCalls))
end Go.Proofs.Ytdaljohmfnfgiaa

/- Sacks, streams that are drawn out of them, their periods, and what rows ask for. No condition. -/
import Derived.Test.YtdaljohmfnfgiaaXb
import Derived.Test.YtdaljohmfnfgiaaCanonFo
import Derived.Test.YtdaljohmfnfgiaaCanonFp
import Derived.Test.YtdaljohmfnfgiaaRows
import Derived.ProofKit
import Derived.Below
import Derived.ChangeSame
import Derived.Deep.SlicePairs
/- The examples of the lasso's chapter are met: awake returns true, from every world, and what was there stays. No condition. -/
namespace Go.Proofs.Ytdaljohmfnfgiaa
open Go Go.RowKit Go.Proofs.Ytdaljohmfnfgiaa.Canon
theorem awake_runs : btells Try.prog (xquick Try.prog) (qregion Try.prog (xquick Try.prog)) 100000 16 1000 = true := by kernel_rfl
theorem awake_true (w : World) : Calls Try.prog 16 #[] w (fun e w' => e = .returned (.bool true) ∧ Below w.heap.size w w') := calls_of_btells hc hx xquick_ok (qregion_ok xquick_ok) awake_runs w
theorem awake_con (A : AHeap) : Con Try.prog 16 [] A (fun v A1 => v = .bool true ∧ A1 = A) := by
  refine ⟨.bool true, A, ⟨⟨_, Try.func16, rfl⟩, fun N => ?_⟩, rfl, rfl⟩
  refine ret_of_calls (fun N φ w xs' hr hs hN => ?_) N
  have : xs' = #[] := Array.eq_empty_of_size_eq_zero hr.1.symm
  subst this
  refine (awake_true w).mono fun en w' hp => ?_
  obtain ⟨rfl, hb⟩ := hp
  exact ⟨φ, _, rfl, Phi.le_refl _, .bool _, hs.below hb, hb.os, hb.tape, hb.output, hb.size, fun k hk => hb.block k (hN k hk)⟩
end Go.Proofs.Ytdaljohmfnfgiaa
/- What the arguments of the lasso's laws are in a world, and what their rows ask for. No condition. -/
namespace Go.Proofs.Ytdaljohmfnfgiaa
section
open Go Go.RowKit Go.Proofs.Ytdaljohmfnfgiaa.Canon
/-- The numbers of a slice, in a world. -/
def IntsW (W : World) (a : Option Addr) (l : List Int) : Prop := ∀ i, i < l.length → ∃ b o, a = some ⟨b, o, none⟩ ∧ W.cell? ⟨b, o + i, none⟩ = some (.int .i64 (l.getD i 0))
theorem cell_heap {W : World} {b o : Nat} {v : Value} (h : W.cell? ⟨b, o, none⟩ = some v) : ∃ c t f, W.heap[b]? = some (.cells c t f) ∧ c[o]? = some v := by
  unfold World.cell? at h
  cases hb : W.heap[b]? with
  | none => simp [hb] at h
  | some x =>
    cases x <;> simp [hb] at h
    exact ⟨_, _, _, rfl, h⟩
theorem IntsW.ints {W : World} {z : Nat} {A : AHeap} (hA : In W z A) {a : Option Addr} {l : List Int} (h : IntsW W a l) : Ints A a 0 A.next l := fun i hi => by
  obtain ⟨b, o, rfl, hc⟩ := h i hi
  obtain ⟨c, t, f, h1, h2⟩ := cell_heap hc
  have hlt : b < W.heap.size := (Array.getElem?_eq_some_iff.1 h1).1
  exact ⟨b, o, rfl, Nat.zero_le _, by rw [hA.next]; have := hA.big; omega, hA.cl h1 h2 rfl⟩
def blkOf : Option Addr → Nat
  | some a => a.block + 1
  | none => 0
theorem roV_slice {z : Nat} {a : Option Addr} {n c : Nat} (hs : ∀ x, a = some x → x.spot = none) (hb : blkOf a ≤ z) : roV z (.slice a n c) = true := by
  cases a with
  | none => rfl
  | some x =>
    obtain ⟨b, o, s⟩ := x
    have := hs _ rfl
    simp only at this
    subst this
    have hb : b + 1 ≤ z := hb
    show Nat.blt b z = true
    rw [Nat.blt_eq]
    omega
end
section
open Go.ChangeShapes Go.WideShapes Go.ChangeAt Go.RowKit Go.Proofs.Ytdaljohmfnfgiaa.Canon
open Go.Deep (open_slice_pairs open_slice)
theorem Try.own : ownKnob Try.prog.godebug = none := by kernel_rfl
theorem Try.laidOut : laidOutB Try.prog = true := by kernel_rfl
theorem Try.cells24 : Try.prog.cellsOf 24 = 3 := by kernel_rfl
theorem Try.cells3 : Try.prog.cellsOf 3 = 1 := by kernel_rfl
theorem Try.cells22 : Try.prog.cellsOf 22 = 1 := by kernel_rfl
theorem Try.types24 : Try.prog.cellTypes Try.prog.depth 24 = some [3, 22, 22] := by kernel_rfl

section
variable {H : Type} {enc : TypeId × Value → H} {P : Program}
/-- The row's last step, where of the world behind the call it is known that nothing old has turned. -/
theorem post_of_below {f : Func} {s : ChangeSpec} {apart fresh handsOn again : Bool} {W W' : World} {args : Array Value} {v : Value} {ds gs : List (DataW H)} {before pa pv : List MemPlace}
    (hW : DataW.Whole enc P f.params.toList s.vars apart W args.toList ds gs before)
    (hres : ∀ (b : Nat) (sp : Nat → Bool) (hd : Bool), DataW.TrodAll enc P W' b sp hd f.resultTypes.toList (v.resultList f.resultTypes.size) (s.fn H (ds ++ gs)).results [])
    (hargs : ∀ sp : Nat → Bool, (∀ p ∈ before, sp p.block = true) → DataW.TrodAll enc P W' 0 sp true f.params.toList args.toList (s.fn H (ds ++ gs)).args pa)
    (hvars : ∀ sp : Nat → Bool, (∀ p ∈ before, sp p.block = true) → DataW.TrodVars enc P W' sp s.vars (s.fn H (ds ++ gs)).vars pv)
    (hps : before = pa ++ pv) (hb : Below W.heap.size W W')
    (hok : ∀ (j : Nat) (t : TypeId) (r : Value), f.resultTypes[j]? = some t → (v.resultList f.resultTypes.size)[j]? = some r → Value.okWide P W' .any 0 t r) :
    s.post enc P f apart fresh handsOn again W args v W' := by
  have hlt : ∀ p ∈ before, p.block < W.heap.size := fun p hp => hW.lt p hp
  have hold : ∀ p ∈ before, (fun b => decide (b < W.heap.size)) p.block = true := fun p hp => by simpa using hlt p hp
  refine ⟨ds, gs, before, [], pa, pv, hW, hres _ _ _, hargs _ hold, hvars _ hold, World.keptBut_mono (fun p hp => ⟨hp, ?_⟩) (hb.frame (· ∈ before)), fun _ => ?_⟩
  · rw [hps, List.mem_append] at hp
    exact Or.inr hp
  · obtain ⟨_, _, _, _, _, hz, hn⟩ := hW
    refine ⟨hok, _, _, ([] ++ pa) ++ pv, ⟨[] ++ pa, pv, trodAll_append (hargs _ (fun _ _ => rfl)) (hres _ _ _), hvars _ (fun _ _ => rfl), rfl, ?_, ?_⟩, ?_⟩
    · intro b off hp
      have hin : MemPlace.cell b off ∈ before := by rw [hps]; simpa using hp
      rw [hb.frozen (hlt _ hin)]
      exact hz b off hin
    · intro ha
      have := hn ha
      rw [hps] at this
      simpa using this
    · intro p hp _
      rw [hps]
      simpa using hp
end

theorem cell_int {P : Program} {w : World} {b : Nat} {t : TypeId} (ht : P.underlying t = some (.int .i64)) {v : Value} (h : Cell.okWide P w .any b t v) : ∃ n, v = .int .i64 n := by
  unfold Cell.okWide at h
  rw [ht] at h
  cases v <;> simp [Cell.ok, ht] at h
  case int k n => obtain ⟨rfl, _⟩ := h; exact ⟨n, rfl⟩
theorem cell_slice {P : Program} {w : World} {b : Nat} {t e : TypeId} (ht : P.underlying t = some (.slice e)) {v : Value} (h : Cell.okWide P w .any b t v) : ∃ a n c, v = .slice a n c ∧ ∀ x, a = some x → x.spot = none := by
  unfold Cell.okWide at h
  rw [ht] at h
  cases v <;> simp [Cell.ok, ht] at h
  case slice a n c =>
    cases a with
    | none => exact ⟨none, n, c, rfl, fun x hx => by cases hx⟩
    | some a =>
      refine ⟨some a, n, c, rfl, fun x hx => ?_⟩
      cases hx
      simp only at h
      exact h.2.2.2.1
theorem agg_cells {P : Program} {w : World} {b : Nat} {t : TypeId} {fs : Array Field} (ht : P.underlying t = some (.struct fs)) {v : Value} (h : Value.okWide P w .any b t v) : ∃ cs, v = .agg cs ∧ cs.size = P.cellsOf t ∧ Row.okWide P w .any b t cs := by
  unfold Value.okWide at h
  rw [ht] at h
  exact h

theorem row_cells {P : Program} {w : World} {b : Nat} {t : TypeId} {cs : Array Value} {ts : List TypeId} (hts : P.cellTypes P.depth t = some ts) (h : Row.okWide P w .any b t cs) : ∀ (i : Nat) (v : Value), cs[i]? = some v → ∃ u, ts[i % ts.length]? = some u ∧ Cell.okWide P w .any b u v := by
  obtain ⟨ts', h1, _, h2⟩ := h
  rw [hts] at h1
  cases h1
  exact h2

set_option maxRecDepth 100000 in
theorem lasso_shape {w : World} {b : Nat} {v : Value} (h : Value.okWide Try.prog w .any b 24 v) :
    ∃ (m : Int) (sa : Option Addr) (sn sc : Nat) (ra : Option Addr) (rn rc : Nat), v = .agg #[.int .i64 m, .slice sa sn sc, .slice ra rn rc] ∧ (∀ a, sa = some a → a.spot = none) ∧ (∀ a, ra = some a → a.spot = none) := by
  obtain ⟨cs, rfl, hsz, hrow⟩ := agg_cells Try.underlying24 h
  have hall := row_cells Try.types24 hrow
  clear hrow
  rw [Try.cells24] at hsz
  obtain ⟨l⟩ := cs
  match l, hsz with
  | [a0, a1, a2], _ =>
    have g : ∀ (i : Nat) (v : Value) (u : TypeId), (#[a0, a1, a2] : Array Value)[i]? = some v → ([3, 22, 22] : List TypeId)[i % 3]? = some u → Cell.okWide Try.prog w .any b u v := fun i v u hv hu => by
      obtain ⟨u', h1, h2⟩ := hall i v hv
      have h1 : ([3, 22, 22] : List TypeId)[i % 3]? = some u' := h1
      rw [hu] at h1
      cases h1
      exact h2
    obtain ⟨k, rfl⟩ := cell_int Try.underlying3 (g 0 a0 3 rfl rfl)
    obtain ⟨sa, sn, sc, rfl, hk⟩ := cell_slice Try.underlying22 (g 1 a1 22 rfl rfl)
    obtain ⟨ra, rn, rc, rfl, hn⟩ := cell_slice Try.underlying22 (g 2 a2 22 rfl rfl)
    exact ⟨k, sa, sn, sc, ra, rn, rc, rfl, hk, hn⟩
set_option maxRecDepth 100000 in
theorem ints_trod {H : Type} {enc : TypeId × Value → H} {w : World} {base : Nat} {sp : Nat → Bool} {hd : Bool} {fuel : Nat} {a : Option Addr} {n c : Nat} {x : DataW H × List MemPlace}
    (h : DataW.trod enc Try.prog w base sp hd fuel 22 [.slice a n c] = some x) (hsp : ∀ y, a = some y → y.spot = none) : ∃ l : List Int, l.length = n ∧ IntsW w a l := by
  rcases open_ints Try.underlying22 Try.underlying3 Try.cells3 h with ⟨h1, _⟩ | ⟨a1, len, cap, zs, h1, _, hlc, _, hz, _, hc, _⟩
  · simp only [List.cons.injEq, Value.slice.injEq, and_true] at h1
    obtain ⟨rfl, rfl, rfl⟩ := h1
    exact ⟨[], rfl, fun i hi => by simp at hi⟩
  · simp only [List.cons.injEq, Value.slice.injEq, and_true] at h1
    obtain ⟨rfl, rfl, rfl⟩ := h1
    have hle : n ≤ zs.length := by rw [hz]; split <;> omega
    refine ⟨zs.take n, by simp; omega, fun i hi => ?_⟩
    have hin : i < n := by simp at hi; omega
    obtain ⟨B, O, s⟩ := a1
    have := hsp _ rfl
    simp only at this
    subst this
    have ad : (⟨B, O, none⟩ : Addr).add i = ⟨B, O + i, none⟩ := addr_add B O i
    refine ⟨B, O, rfl, ?_⟩
    rw [← ad, hc i (by omega)]
    simp only [List.getD_eq_getElem?_getD, List.getElem?_take]
    rw [if_pos hin]
set_option maxRecDepth 100000 in
theorem lasso_ints {H : Type} {enc : TypeId × Value → H} {w : World} {base : Nat} {sp : Nat → Bool} {hd : Bool} {m : Int} {sa ra : Option Addr} {sn sc rn rc : Nat} {d : DataW H} {ps : List MemPlace}
    (h : DataW.Trod enc Try.prog w base sp hd 24 (.agg #[.int .i64 m, .slice sa sn sc, .slice ra rn rc]) d ps) (h1 : ∀ a, sa = some a → a.spot = none) (h2 : ∀ a, ra = some a → a.spot = none) : (∃ l : List Int, l.length = sn ∧ IntsW w sa l) ∧ ∃ l : List Int, l.length = rn ∧ IntsW w ra l := by
  obtain ⟨fuel, hf⟩ := h
  obtain ⟨xs, k, _, _, _, hlen, hfs⟩ := DataW.trod_struct Try.underlying24 hf
  have f1 := hfs 1 { name := "Stem", type := 22, offset := 1, embedded := false, tag := "", pkgPath := "", byteOffset := 8 } rfl
  have f2 := hfs 2 { name := "Round", type := 22, offset := 2, embedded := false, tag := "", pkgPath := "", byteOffset := 32 } rfl
  obtain ⟨y1, hy1⟩ : ∃ y, xs[1]? = some y := ⟨_, List.getElem?_eq_getElem (by rw [hlen]; decide)⟩
  obtain ⟨y2, hy2⟩ : ∃ y, xs[2]? = some y := ⟨_, List.getElem?_eq_getElem (by rw [hlen]; decide)⟩
  rw [hy1] at f1
  rw [hy2] at f2
  simp only [Try.cells22] at f1 f2
  exact ⟨ints_trod f1 h1, ints_trod f2 h2⟩

end
end Go.Proofs.Ytdaljohmfnfgiaa
/- Numbers that are drawn out of bytes. No condition. -/
namespace Go.Proofs.Ytdaljohmfnfgiaa
open Go Go.RowKit Go.Proofs.Ytdaljohmfnfgiaa.Canon
set_option maxRecDepth 20000

theorem tk5 : tk Try.prog 5 = .one := by kernel_rfl
theorem tk55 : tk Try.prog 55 = .one := by kernel_rfl
theorem tk105 : tk Try.prog 105 = .one := by kernel_rfl
theorem fo107_0 : fof Try.prog 107 0 = some 0 := by kernel_rfl
theorem fo107_1 : fof Try.prog 107 1 = some 1 := by kernel_rfl
theorem fo107_2 : fof Try.prog 107 2 = some 2 := by kernel_rfl
theorem un5 : Try.prog.underlying 5 = some (.int .u8) := by kernel_rfl
theorem un55 : Try.prog.underlying 55 = some (.slice 5) := by kernel_rfl
theorem un105 : Try.prog.underlying 105 = some (.int .u64) := by kernel_rfl
theorem eo55 : eof Try.prog 55 = some 1 := by kernel_rfl

theorem cv5 {n : Int} {A : AHeap} : aconvert Try.prog 5 105 (.int .u8 n) A = some (.int .u64 (IntKind.u64.wrap n), A) := cv_int un5 un105
theorem cv3 {n : Int} {A : AHeap} : aconvert Try.prog 3 105 (.int .i64 n) A = some (.int .u64 (IntKind.u64.wrap n), A) := cv_int un3 un105
theorem cv105 {n : Int} {A : AHeap} : aconvert Try.prog 105 3 (.int .u64 n) A = some (.int .i64 (IntKind.i64.wrap n), A) := cv_int un105 un3

/-- Bytes, and a sack of them. -/
def Bys (A : AHeap) (a : Option Addr) (lim n : Nat) : Prop := ∀ i, i < n → ∃ b o v, a = some ⟨b, o, none⟩ ∧ b < lim ∧ cl A b (o + i) = some (.int .u8 v)
structure Sack (A : AHeap) (b : Nat) (a : Option Addr) (n c lim nx : Nat) : Prop where
  wf : WF A
  lm : lim ≤ b
  at' : ∃ st, Canon.look A.objs b = some ⟨.cells #[.slice a n c, .int .i64 (nx : Int), .int .u64 st] 107, false, 0⟩
  bys : Bys A a lim n
theorem Sack.kb {A B : AHeap} {b : Nat} {a : Option Addr} {n c lim nx nx' : Nat} (h : Sack A b a n c lim nx) (hk : Kb b A B) (ha : ∃ st, Canon.look B.objs b = some ⟨.cells #[.slice a n c, .int .i64 (nx' : Int), .int .u64 st] 107, false, 0⟩) : Sack B b a n c lim nx' := by
  obtain ⟨st, h1⟩ := h.at'
  have hb := h.wf _ _ h1
  refine ⟨hk.wf, h.lm, ha, fun i hi => ?_⟩
  obtain ⟨b', o, v, e, hlt, hc⟩ := h.bys i hi
  have := h.lm
  exact ⟨b', o, v, e, hlt, by rw [hk.cl (by omega) (by omega)]; exact hc⟩
/-- One cell of a sack is written. -/
theorem sack_put {A : AHeap} {b : Nat} {v0 v1 v2 : Value} (hw : WF A) (h : Canon.look A.objs b = some ⟨.cells #[v0, v1, v2] 107, false, 0⟩) (v : Value) (hv : isCell v = true) :
    (∃ A1, st1 A b 1 v = some A1 ∧ Kb b A A1 ∧ A1.next = A.next ∧ Canon.look A1.objs b = some ⟨.cells #[v0, v, v2] 107, false, 0⟩) ∧ ∃ A1, st1 A b 2 v = some A1 ∧ Kb b A A1 ∧ A1.next = A.next ∧ Canon.look A1.objs b = some ⟨.cells #[v0, v1, v] 107, false, 0⟩ := by
  constructor
  · obtain ⟨A1, q1, q2⟩ := st1_upd (o := 1) h rfl (by simp) hv
    obtain ⟨c, t, f, g, e, r1, r2, _⟩ := q2.at'
    rw [h] at r1
    cases r1
    exact ⟨A1, q1, Kb.of_upd hw q2, q2.next, r2⟩
  · obtain ⟨A1, q1, q2⟩ := st1_upd (o := 2) h rfl (by simp) hv
    obtain ⟨c, t, f, g, e, r1, r2, _⟩ := q2.at'
    rw [h] at r1
    cases r1
    exact ⟨A1, q1, Kb.of_upd hw q2, q2.next, r2⟩
theorem bs13 {a : Int} {A : AHeap} : bin Try.prog .shl 105 (.int .u64 a) (.int .u64 13) A = some (.int .u64 (shlI .u64 a 13), A) := bin_shl _ _ _ _ _ (by decide) _
theorem bs17 {a : Int} {A : AHeap} : bin Try.prog .shl 105 (.int .u64 a) (.int .u64 17) A = some (.int .u64 (shlI .u64 a 17), A) := bin_shl _ _ _ _ _ (by decide) _
theorem br7 {a : Int} {A : AHeap} : bin Try.prog .shr 105 (.int .u64 a) (.int .u64 7) A = some (.int .u64 (shrI .u64 a 7), A) := bin_shr _ _ _ _ _ (by decide) _
theorem br33 {a : Int} {A : AHeap} : bin Try.prog .shr 105 (.int .u64 a) (.int .u64 33) A = some (.int .u64 (shrI .u64 a 33), A) := bin_shr _ _ _ _ _ (by decide) _
theorem mul_any (x : Int) : ∃ y, 0 ≤ y ∧ y ≤ 18446744073709551615 ∧ ∀ M, bin Try.prog .mul 105 (.int .u64 x) (.int .u64 2685821657736338717) M = some (.int .u64 y, M) := by
  have key : ∀ b : Int, ∃ y, 0 ≤ y ∧ y ≤ 18446744073709551615 ∧ ∀ M, bin Try.prog .mul 105 (.int .u64 x) (.int .u64 b) M = some (.int .u64 y, M) := fun b => ⟨_, (u64_rng _).1, (u64_rng _).2, fun M => bin_mul _ _ _ _⟩
  exact key _
theorem kb_bump {A : AHeap} (hw : WF A) (k : Nat) {b : Nat} : Kb b A (bump A k) := Kb.of_nx b (Nx.bump (Nx.refl hw _) k)

theorem draw_sack {A : AHeap} {b : Nat} {a : Option Addr} {n c lim nx : Nat} (h : Sack A b a n c lim nx) (hnx : nx < 4611686018427387904) (hn0 : n < 9223372036854775808) :
    Con Try.prog 98 [.pointer (some ⟨b, 0, none⟩)] A (fun v A1 => ∃ r, v = .int .u64 r ∧ 0 ≤ r ∧ r ≤ 18446744073709551615 ∧ Kb b A A1 ∧ ∃ nx', nx' ≤ nx + 1 ∧ Sack A1 b a n c lim nx') := by
  refine con_of_rn hc Try.func98 rfl (Nat.le_of_ble_eq_true rfl) ?_
  obtain ⟨st0, hL0⟩ := h.at'
  have c0 : cl A b 0 = some (.slice a n c) := by rw [cl_of hL0 rfl]; rfl
  have c1 : cl A b 1 = some (.int .i64 (nx : Int)) := by rw [cl_of hL0 rfl]; rfl
  have c2 : cl A b 2 = some (.int .u64 st0) := by rw [cl_of hL0 rfl]; rfl
  rw [s_in1]
  (repeat (first | refine Rn.seq hc ?_ | refine Rn.skip hc ?_ | refine Rn.block hc ?_ | refine Rn.inBlock hc ?_ | refine Rn.scope hc ?_ | refine Rn.inScope hc ?_))
  refine Rn.reg hc rfl ?_
  simp only [sev_const, gd, want_free, rops, fx, Option.some.injEq, exists_eq_left', show Try.f98.ntmps = 83 from rfl]
  (repeat (first | refine Rn.seq hc ?_ | refine Rn.skip hc ?_ | refine Rn.block hc ?_ | refine Rn.inBlock hc ?_ | refine Rn.scope hc ?_ | refine Rn.inScope hc ?_))
  by_cases hpos : 0 < n
  · have hd : decide ((0 : Int) < (n : Int)) = true := by simp; omega
    refine Rn.reg hc rfl ?_
    simp only [sev_tmp, sev_const, sg_eq, sg_ne, sp_n, Nat.reduceLT, ne_eq, Nat.reduceEqDiff, not_false_eq_true, gd, want_free, rops, fx, ld, fad, lng, bin_gtr, adr_p, Nat.add_zero, Option.some.injEq, exists_eq_left', tk55, fo107_0, un55, ae_nck, anil_ptr, c0, hd]
    (repeat (first | refine Rn.seq hc ?_ | refine Rn.skip hc ?_ | refine Rn.block hc ?_ | refine Rn.inBlock hc ?_ | refine Rn.scope hc ?_ | refine Rn.inScope hc ?_))
    refine Rn.condE hc rfl ?_
    simp only [sev_tmp, sg_eq, sp_n, Nat.reduceLT, Value.bool.injEq, exists_eq_left']
    (repeat (first | refine Rn.seq hc ?_ | refine Rn.skip hc ?_ | refine Rn.block hc ?_ | refine Rn.inBlock hc ?_ | refine Rn.scope hc ?_ | refine Rn.inScope hc ?_))
    have hlt : nx % n < n := Nat.mod_lt _ hpos
    obtain ⟨b', o, v, rfl, hb', hcl⟩ := h.bys _ hlt
    have hrem : ∀ M, bin Try.prog .rem 3 (.int .i64 (nx : Int)) (.int .i64 (n : Int)) M = some (.int .i64 ((nx % n : Nat) : Int), M) := fun M => by
      rw [bin_rem _ _ _ _ (by omega), IntWalk.rem_in _ _ (by omega)]
      rfl
    obtain ⟨_, A1, q1, k1, n1, l1⟩ := sack_put (A := bump A 26) (WF.bump h.wf 26) hL0 (.int .u64 (IntKind.u64.wrap (st0 + IntKind.u64.wrap (IntKind.u64.wrap v + 1)))) rfl
    refine Rn.drawn1 hc hx noS 25 rfl rfl rfl (by kernel_rfl) (by kernel_rfl) (by kernel_rfl) (by rfl) (by kernel_rfl) (by kernel_rfl) (by rfl) ?_ ?_
    · simp (maxSteps := 2000000) only [List.take_succ_cons, List.take_zero, rdV, VQ.int, VQ.ptr, VQ.slice, cl_bump, sev_tmp, sev_const, sg_eq, sg_ne, sp_n, Nat.reduceLT, ne_eq, Nat.reduceEqDiff, not_false_eq_true, gd, want_free, fx, ld, fad, idx, lng, bin_add, adr_p, Nat.zero_add, Nat.add_zero, Nat.reduceAdd, Nat.mul_one, and_self, tk3, tk5, tk55, tk105, fo107_0, fo107_1, fo107_2, un55, eo55, ae_nck, anil_ptr, ae_cv, c0, c1, c2, hrem, nlen_nat hlt, hcl, cv5]
    simp (maxSteps := 2000000) only [List.take_succ_cons, List.take_zero, cl_bump, sev_tmp, sev_const, sg_eq, sg_ne, sp_n, sp_none, Nat.reduceLT, ne_eq, Nat.reduceEqDiff, not_false_eq_true, gd, want_free, rops, fx, ld, fad, idx, lng, bin_add, adr_p, Nat.zero_add, Nat.add_zero, Option.some.injEq, exists_eq_left', Nat.reduceAdd, Nat.mul_one, true_and, tk3, tk5, tk55, tk105, fo107_0, fo107_1, fo107_2, un55, eo55, ae_nck, anil_ptr, ae_cv, c0, c1, c2, hrem, nlen_nat hlt, hcl, cv5]
    refine ⟨_, _, opRun_op rfl (fx_ok (by rfl) (by simp only [sev_tmp, sg_eq, sg_ne, sp_n, Nat.reduceLT, ne_eq, Nat.reduceEqDiff, not_false_eq_true, fx, str, adr_p, Option.some.injEq, tk105, q1]; rfl)), ?_⟩
    (repeat (first | refine Rn.seq hc ?_ | refine Rn.skip hc ?_ | refine Rn.block hc ?_ | refine Rn.inBlock hc ?_ | refine Rn.scope hc ?_ | refine Rn.inScope hc ?_))
    have g1 : cl A1 b 1 = some (.int .i64 (nx : Int)) := by rw [cl_of l1 rfl]; rfl
    obtain ⟨⟨A', p1, k2, n2, l2⟩, _⟩ := sack_put k1.wf l1 (.int .i64 ((nx + 1 : Nat) : Int)) rfl
    refine Rn.reg hc rfl ?_
    simp only [sev_tmp, sev_const, sg_eq, sg_ne, sp_n, sp_none, Nat.reduceLT, ne_eq, Nat.reduceEqDiff, not_false_eq_true, gd, want_free, rops, fx, ld, str, fad, bin_add, adr_p, Nat.zero_add, Option.some.injEq, exists_eq_left', tk3, fo107_1, ae_nck, anil_ptr, g1, wrap_succ (show nx < 9223372036854775807 by omega), p1]
    (repeat (first | refine Rn.seq hc ?_ | refine Rn.skip hc ?_ | refine Rn.block hc ?_ | refine Rn.inBlock hc ?_ | refine Rn.scope hc ?_ | refine Rn.inScope hc ?_))
    have hK : Kb b A A' := (kb_bump h.wf 26).trans (k1.trans k2)
    have hS : Sack A' b (some ⟨b', o, none⟩) n c lim (nx + 1) := h.kb hK ⟨_, l2⟩
    obtain ⟨nx', hnx', hS⟩ : ∃ nx', nx' ≤ nx + 1 ∧ Sack A' b (some ⟨b', o, none⟩) n c lim nx' := ⟨_, Nat.le_refl _, hS⟩
    refine Rn.slots (I := fun s => s.n = 83 ∧ sget s 0 = .pointer (some ⟨b, 0, none⟩)) ⟨by simp only [sp_n], by simp only [sg_eq, sg_ne, Nat.reduceLT, ne_eq, Nat.reduceEqDiff, not_false_eq_true]⟩ ?_
    rintro s ⟨hn, s0⟩
    obtain ⟨st, hL⟩ := hS.at'
    have c2 : cl A' b 2 = some (.int .u64 st) := by rw [cl_of hL rfl]; rfl
    obtain ⟨_, A4, q4, k4, n4, l4⟩ := sack_put (A := bump A' 13) (WF.bump hS.wf 13) hL (.int .u64 (xorI .u64 st (shlI .u64 st 13))) rfl
    refine Rn.drawn1 hc hx noS 12 rfl rfl rfl (by kernel_rfl) (by kernel_rfl) (by kernel_rfl) (by rfl) (by kernel_rfl) (by kernel_rfl) (by rfl) ?_ ?_
    · simp (maxSteps := 2000000) only [List.take_succ_cons, List.take_zero, rdV, VQ.int, VQ.ptr, cl_bump, sev_tmp, sev_const, sg_eq, sg_ne, sp_n, Nat.reduceLT, ne_eq, Nat.reduceEqDiff, not_false_eq_true, gd, want_free, fx, ld, fad, adr_p, Nat.zero_add, Nat.reduceAdd, and_self, tk105, fo107_2, ae_nck, anil_ptr, hn, s0, c2, bs13, bin_xor]
    simp (maxSteps := 2000000) only [List.take_succ_cons, List.take_zero, cl_bump, sev_tmp, sev_const, sg_eq, sg_ne, sp_n, sp_none, Nat.reduceLT, ne_eq, Nat.reduceEqDiff, not_false_eq_true, gd, want_free, rops, fx, ld, fad, adr_p, Nat.zero_add, Option.some.injEq, exists_eq_left', Nat.reduceAdd, true_and, tk105, fo107_2, ae_nck, anil_ptr, hn, s0, c2, bs13, bin_xor]
    refine ⟨_, _, opRun_op rfl (fx_ok (by rfl) (by simp only [sev_tmp, sg_eq, sg_ne, sp_n, Nat.reduceLT, ne_eq, Nat.reduceEqDiff, not_false_eq_true, fx, str, adr_p, Option.some.injEq, tk105, hn, q4]; rfl)), ?_⟩
    (repeat (first | refine Rn.seq hc ?_ | refine Rn.skip hc ?_ | refine Rn.block hc ?_ | refine Rn.inBlock hc ?_ | refine Rn.scope hc ?_ | refine Rn.inScope hc ?_))
    have d2 : cl A4 b 2 = some (.int .u64 (xorI .u64 st (shlI .u64 st 13))) := by rw [cl_of l4 rfl]; rfl
    generalize xorI .u64 st (shlI .u64 st 13) = x4 at l4 d2
    refine Rn.slots (I := fun s => s.n = 83 ∧ sget s 0 = .pointer (some ⟨b, 0, none⟩)) ⟨by simp only [sp_n, hn], by simp only [sg_ne, ne_eq, Nat.reduceEqDiff, not_false_eq_true, s0]⟩ ?_
    clear hn s0
    rintro s ⟨hn, s0⟩
    obtain ⟨_, A5, q5, k5, n5, l5⟩ := sack_put (A := bump A4 13) (WF.bump k4.wf 13) l4 (.int .u64 (xorI .u64 x4 (shrI .u64 x4 7))) rfl
    refine Rn.drawn1 hc hx noS 12 rfl rfl rfl (by kernel_rfl) (by kernel_rfl) (by kernel_rfl) (by rfl) (by kernel_rfl) (by kernel_rfl) (by rfl) ?_ ?_
    · simp (maxSteps := 2000000) only [List.take_succ_cons, List.take_zero, rdV, VQ.int, VQ.ptr, cl_bump, sev_tmp, sev_const, sg_eq, sg_ne, sp_n, Nat.reduceLT, ne_eq, Nat.reduceEqDiff, not_false_eq_true, gd, want_free, fx, ld, fad, adr_p, Nat.zero_add, Nat.reduceAdd, and_self, tk105, fo107_2, ae_nck, anil_ptr, hn, s0, d2, br7, bin_xor]
    simp (maxSteps := 2000000) only [List.take_succ_cons, List.take_zero, cl_bump, sev_tmp, sev_const, sg_eq, sg_ne, sp_n, sp_none, Nat.reduceLT, ne_eq, Nat.reduceEqDiff, not_false_eq_true, gd, want_free, rops, fx, ld, fad, adr_p, Nat.zero_add, Option.some.injEq, exists_eq_left', Nat.reduceAdd, true_and, tk105, fo107_2, ae_nck, anil_ptr, hn, s0, d2, br7, bin_xor]
    refine ⟨_, _, opRun_op rfl (fx_ok (by rfl) (by simp only [sev_tmp, sg_eq, sg_ne, sp_n, Nat.reduceLT, ne_eq, Nat.reduceEqDiff, not_false_eq_true, fx, str, adr_p, Option.some.injEq, tk105, hn, q5]; rfl)), ?_⟩
    (repeat (first | refine Rn.seq hc ?_ | refine Rn.skip hc ?_ | refine Rn.block hc ?_ | refine Rn.inBlock hc ?_ | refine Rn.scope hc ?_ | refine Rn.inScope hc ?_))
    have e2 : cl A5 b 2 = some (.int .u64 (xorI .u64 x4 (shrI .u64 x4 7))) := by rw [cl_of l5 rfl]; rfl
    generalize xorI .u64 x4 (shrI .u64 x4 7) = x5 at l5 e2
    obtain ⟨_, A6, q6, k6, n6, l6⟩ := sack_put (A := bump A5 13) (WF.bump k5.wf 13) l5 (.int .u64 (xorI .u64 x5 (shlI .u64 x5 17))) rfl
    refine Rn.drawn1 hc hx noS 12 rfl rfl rfl (by kernel_rfl) (by kernel_rfl) (by kernel_rfl) (by rfl) (by kernel_rfl) (by kernel_rfl) (by rfl) ?_ ?_
    · simp (maxSteps := 2000000) only [List.take_succ_cons, List.take_zero, rdV, VQ.int, VQ.ptr, cl_bump, sev_tmp, sev_const, sg_eq, sg_ne, sp_n, Nat.reduceLT, ne_eq, Nat.reduceEqDiff, not_false_eq_true, gd, want_free, fx, ld, fad, adr_p, Nat.zero_add, Nat.reduceAdd, and_self, tk105, fo107_2, ae_nck, anil_ptr, hn, s0, e2, bs17, bin_xor]
    simp (maxSteps := 2000000) only [List.take_succ_cons, List.take_zero, cl_bump, sev_tmp, sev_const, sg_eq, sg_ne, sp_n, sp_none, Nat.reduceLT, ne_eq, Nat.reduceEqDiff, not_false_eq_true, gd, want_free, rops, fx, ld, fad, adr_p, Nat.zero_add, Option.some.injEq, exists_eq_left', Nat.reduceAdd, true_and, tk105, fo107_2, ae_nck, anil_ptr, hn, s0, e2, bs17, bin_xor]
    refine ⟨_, _, opRun_op rfl (fx_ok (by rfl) (by simp only [sev_tmp, sg_eq, sg_ne, sp_n, Nat.reduceLT, ne_eq, Nat.reduceEqDiff, not_false_eq_true, fx, str, adr_p, Option.some.injEq, tk105, hn, q6]; rfl)), ?_⟩
    (repeat (first | refine Rn.seq hc ?_ | refine Rn.skip hc ?_ | refine Rn.block hc ?_ | refine Rn.inBlock hc ?_ | refine Rn.scope hc ?_ | refine Rn.inScope hc ?_))
    have f2 : cl A6 b 2 = some (.int .u64 (xorI .u64 x5 (shlI .u64 x5 17))) := by rw [cl_of l6 rfl]; rfl
    generalize xorI .u64 x5 (shlI .u64 x5 17) = x6 at l6 f2
    obtain ⟨y, y0, y1, hy⟩ := mul_any x6
    refine Rn.region hc fun K hKK => ?_
    refine Wo.run hc 4 rfl rfl rfl ?_
    simp (maxSteps := 2000000) only [List.drop_zero, List.take_succ_cons, List.take_zero, sev_tmp, sg_eq, sg_ne, sp_n, Nat.reduceLT, ne_eq, Nat.reduceEqDiff, not_false_eq_true, gd, want_free, rops, fx, ld, fad, adr_p, Nat.zero_add, Option.some.injEq, exists_eq_left', tk105, fo107_2, ae_nck, anil_ptr, hn, s0, f2]
    refine Wo.run hc 1 rfl rfl rfl ?_
    simp only [List.drop_zero, List.drop_succ_cons, List.take_succ_cons, List.take_zero, rops, fx, gd, want_free, sev_tmp, sev_const, sg_eq, sp_n, Nat.reduceLT, hn, hy, Nat.reduceAdd, Option.some.injEq, exists_eq_left']
    refine Wo.run hc 2 rfl rfl rfl ?_
    simp (maxSteps := 2000000) only [List.drop_zero, List.drop_succ_cons, List.take_succ_cons, List.take_zero, sev_tmp, sev_const, sg_eq, sp_n, Nat.reduceLT, gd, want_free, rops, fx, Option.some.injEq, exists_eq_left', Nat.reduceAdd, hn, br33]
    refine Wo.done hc rfl (hKK _ _ ?_)
    (repeat (first | refine Rn.seq hc ?_ | refine Rn.skip hc ?_ | refine Rn.block hc ?_ | refine Rn.inBlock hc ?_ | refine Rn.scope hc ?_ | refine Rn.inScope hc ?_))
    have hk6 : Kb b A' A6 := ((kb_bump hS.wf 13).trans (k4.trans ((kb_bump k4.wf 13).trans (k5.trans ((kb_bump k5.wf 13).trans k6)))))
    have hr := shrI_rng y0 33
    refine Rn.ret (endQ_tmp rfl ⟨shrI .u64 y 33, ?_, hr.1, Int.le_trans hr.2 y1, hK.trans hk6, nx', hnx', hS.kb hk6 ⟨_, l6⟩⟩)
    simp only [sg_eq, sp_n, Nat.reduceLT, hn]
  · have hd : decide ((0 : Int) < (n : Int)) = false := by simp; omega
    refine Rn.reg hc rfl ?_
    simp only [sev_tmp, sev_const, sg_eq, sg_ne, sp_n, Nat.reduceLT, ne_eq, Nat.reduceEqDiff, not_false_eq_true, gd, want_free, rops, fx, ld, fad, lng, bin_gtr, adr_p, Nat.add_zero, Option.some.injEq, exists_eq_left', tk55, fo107_0, un55, ae_nck, anil_ptr, c0, hd]
    (repeat (first | refine Rn.seq hc ?_ | refine Rn.skip hc ?_ | refine Rn.block hc ?_ | refine Rn.inBlock hc ?_ | refine Rn.scope hc ?_ | refine Rn.inScope hc ?_))
    refine Rn.condE hc rfl ?_
    simp only [sev_tmp, sg_eq, sp_n, Nat.reduceLT, Value.bool.injEq, exists_eq_left']
    (repeat (first | refine Rn.seq hc ?_ | refine Rn.skip hc ?_ | refine Rn.block hc ?_ | refine Rn.inBlock hc ?_ | refine Rn.scope hc ?_ | refine Rn.inScope hc ?_))
    have hK : Kb b A A := Kb.of_nx b (Nx.refl h.wf _)
    obtain ⟨A', hA', hS, hK⟩ : ∃ A', A' = A ∧ Sack A' b a n c lim nx ∧ Kb b A A' := ⟨A, rfl, h, hK⟩
    rw [← hA']
    have hK : Kb b A' A' := by rw [hA']; rw [hA'] at hK; exact hK
    obtain ⟨nx', hnx', hS⟩ : ∃ nx', nx' ≤ nx + 1 ∧ Sack A' b a n c lim nx' := ⟨nx, by omega, hS⟩
    refine Rn.slots (I := fun s => s.n = 83 ∧ sget s 0 = .pointer (some ⟨b, 0, none⟩)) ⟨by simp only [sp_n], by simp only [sg_eq, sg_ne, Nat.reduceLT, ne_eq, Nat.reduceEqDiff, not_false_eq_true]⟩ ?_
    rintro s ⟨hn, s0⟩
    obtain ⟨st, hL⟩ := hS.at'
    have c2 : cl A' b 2 = some (.int .u64 st) := by rw [cl_of hL rfl]; rfl
    obtain ⟨_, A4, q4, k4, n4, l4⟩ := sack_put (A := bump A' 13) (WF.bump hS.wf 13) hL (.int .u64 (xorI .u64 st (shlI .u64 st 13))) rfl
    refine Rn.drawn1 hc hx noS 12 rfl rfl rfl (by kernel_rfl) (by kernel_rfl) (by kernel_rfl) (by rfl) (by kernel_rfl) (by kernel_rfl) (by rfl) ?_ ?_
    · simp (maxSteps := 2000000) only [List.take_succ_cons, List.take_zero, rdV, VQ.int, VQ.ptr, cl_bump, sev_tmp, sev_const, sg_eq, sg_ne, sp_n, Nat.reduceLT, ne_eq, Nat.reduceEqDiff, not_false_eq_true, gd, want_free, fx, ld, fad, adr_p, Nat.zero_add, Nat.reduceAdd, and_self, tk105, fo107_2, ae_nck, anil_ptr, hn, s0, c2, bs13, bin_xor]
    simp (maxSteps := 2000000) only [List.take_succ_cons, List.take_zero, cl_bump, sev_tmp, sev_const, sg_eq, sg_ne, sp_n, sp_none, Nat.reduceLT, ne_eq, Nat.reduceEqDiff, not_false_eq_true, gd, want_free, rops, fx, ld, fad, adr_p, Nat.zero_add, Option.some.injEq, exists_eq_left', Nat.reduceAdd, true_and, tk105, fo107_2, ae_nck, anil_ptr, hn, s0, c2, bs13, bin_xor]
    refine ⟨_, _, opRun_op rfl (fx_ok (by rfl) (by simp only [sev_tmp, sg_eq, sg_ne, sp_n, Nat.reduceLT, ne_eq, Nat.reduceEqDiff, not_false_eq_true, fx, str, adr_p, Option.some.injEq, tk105, hn, q4]; rfl)), ?_⟩
    (repeat (first | refine Rn.seq hc ?_ | refine Rn.skip hc ?_ | refine Rn.block hc ?_ | refine Rn.inBlock hc ?_ | refine Rn.scope hc ?_ | refine Rn.inScope hc ?_))
    have d2 : cl A4 b 2 = some (.int .u64 (xorI .u64 st (shlI .u64 st 13))) := by rw [cl_of l4 rfl]; rfl
    generalize xorI .u64 st (shlI .u64 st 13) = x4 at l4 d2
    refine Rn.slots (I := fun s => s.n = 83 ∧ sget s 0 = .pointer (some ⟨b, 0, none⟩)) ⟨by simp only [sp_n, hn], by simp only [sg_ne, ne_eq, Nat.reduceEqDiff, not_false_eq_true, s0]⟩ ?_
    clear hn s0
    rintro s ⟨hn, s0⟩
    obtain ⟨_, A5, q5, k5, n5, l5⟩ := sack_put (A := bump A4 13) (WF.bump k4.wf 13) l4 (.int .u64 (xorI .u64 x4 (shrI .u64 x4 7))) rfl
    refine Rn.drawn1 hc hx noS 12 rfl rfl rfl (by kernel_rfl) (by kernel_rfl) (by kernel_rfl) (by rfl) (by kernel_rfl) (by kernel_rfl) (by rfl) ?_ ?_
    · simp (maxSteps := 2000000) only [List.take_succ_cons, List.take_zero, rdV, VQ.int, VQ.ptr, cl_bump, sev_tmp, sev_const, sg_eq, sg_ne, sp_n, Nat.reduceLT, ne_eq, Nat.reduceEqDiff, not_false_eq_true, gd, want_free, fx, ld, fad, adr_p, Nat.zero_add, Nat.reduceAdd, and_self, tk105, fo107_2, ae_nck, anil_ptr, hn, s0, d2, br7, bin_xor]
    simp (maxSteps := 2000000) only [List.take_succ_cons, List.take_zero, cl_bump, sev_tmp, sev_const, sg_eq, sg_ne, sp_n, sp_none, Nat.reduceLT, ne_eq, Nat.reduceEqDiff, not_false_eq_true, gd, want_free, rops, fx, ld, fad, adr_p, Nat.zero_add, Option.some.injEq, exists_eq_left', Nat.reduceAdd, true_and, tk105, fo107_2, ae_nck, anil_ptr, hn, s0, d2, br7, bin_xor]
    refine ⟨_, _, opRun_op rfl (fx_ok (by rfl) (by simp only [sev_tmp, sg_eq, sg_ne, sp_n, Nat.reduceLT, ne_eq, Nat.reduceEqDiff, not_false_eq_true, fx, str, adr_p, Option.some.injEq, tk105, hn, q5]; rfl)), ?_⟩
    (repeat (first | refine Rn.seq hc ?_ | refine Rn.skip hc ?_ | refine Rn.block hc ?_ | refine Rn.inBlock hc ?_ | refine Rn.scope hc ?_ | refine Rn.inScope hc ?_))
    have e2 : cl A5 b 2 = some (.int .u64 (xorI .u64 x4 (shrI .u64 x4 7))) := by rw [cl_of l5 rfl]; rfl
    generalize xorI .u64 x4 (shrI .u64 x4 7) = x5 at l5 e2
    obtain ⟨_, A6, q6, k6, n6, l6⟩ := sack_put (A := bump A5 13) (WF.bump k5.wf 13) l5 (.int .u64 (xorI .u64 x5 (shlI .u64 x5 17))) rfl
    refine Rn.drawn1 hc hx noS 12 rfl rfl rfl (by kernel_rfl) (by kernel_rfl) (by kernel_rfl) (by rfl) (by kernel_rfl) (by kernel_rfl) (by rfl) ?_ ?_
    · simp (maxSteps := 2000000) only [List.take_succ_cons, List.take_zero, rdV, VQ.int, VQ.ptr, cl_bump, sev_tmp, sev_const, sg_eq, sg_ne, sp_n, Nat.reduceLT, ne_eq, Nat.reduceEqDiff, not_false_eq_true, gd, want_free, fx, ld, fad, adr_p, Nat.zero_add, Nat.reduceAdd, and_self, tk105, fo107_2, ae_nck, anil_ptr, hn, s0, e2, bs17, bin_xor]
    simp (maxSteps := 2000000) only [List.take_succ_cons, List.take_zero, cl_bump, sev_tmp, sev_const, sg_eq, sg_ne, sp_n, sp_none, Nat.reduceLT, ne_eq, Nat.reduceEqDiff, not_false_eq_true, gd, want_free, rops, fx, ld, fad, adr_p, Nat.zero_add, Option.some.injEq, exists_eq_left', Nat.reduceAdd, true_and, tk105, fo107_2, ae_nck, anil_ptr, hn, s0, e2, bs17, bin_xor]
    refine ⟨_, _, opRun_op rfl (fx_ok (by rfl) (by simp only [sev_tmp, sg_eq, sg_ne, sp_n, Nat.reduceLT, ne_eq, Nat.reduceEqDiff, not_false_eq_true, fx, str, adr_p, Option.some.injEq, tk105, hn, q6]; rfl)), ?_⟩
    (repeat (first | refine Rn.seq hc ?_ | refine Rn.skip hc ?_ | refine Rn.block hc ?_ | refine Rn.inBlock hc ?_ | refine Rn.scope hc ?_ | refine Rn.inScope hc ?_))
    have f2 : cl A6 b 2 = some (.int .u64 (xorI .u64 x5 (shlI .u64 x5 17))) := by rw [cl_of l6 rfl]; rfl
    generalize xorI .u64 x5 (shlI .u64 x5 17) = x6 at l6 f2
    obtain ⟨y, y0, y1, hy⟩ := mul_any x6
    refine Rn.region hc fun K hKK => ?_
    refine Wo.run hc 4 rfl rfl rfl ?_
    simp (maxSteps := 2000000) only [List.drop_zero, List.take_succ_cons, List.take_zero, sev_tmp, sg_eq, sg_ne, sp_n, Nat.reduceLT, ne_eq, Nat.reduceEqDiff, not_false_eq_true, gd, want_free, rops, fx, ld, fad, adr_p, Nat.zero_add, Option.some.injEq, exists_eq_left', tk105, fo107_2, ae_nck, anil_ptr, hn, s0, f2]
    refine Wo.run hc 1 rfl rfl rfl ?_
    simp only [List.drop_zero, List.drop_succ_cons, List.take_succ_cons, List.take_zero, rops, fx, gd, want_free, sev_tmp, sev_const, sg_eq, sp_n, Nat.reduceLT, hn, hy, Nat.reduceAdd, Option.some.injEq, exists_eq_left']
    refine Wo.run hc 2 rfl rfl rfl ?_
    simp (maxSteps := 2000000) only [List.drop_zero, List.drop_succ_cons, List.take_succ_cons, List.take_zero, sev_tmp, sev_const, sg_eq, sp_n, Nat.reduceLT, gd, want_free, rops, fx, Option.some.injEq, exists_eq_left', Nat.reduceAdd, hn, br33]
    refine Wo.done hc rfl (hKK _ _ ?_)
    (repeat (first | refine Rn.seq hc ?_ | refine Rn.skip hc ?_ | refine Rn.block hc ?_ | refine Rn.inBlock hc ?_ | refine Rn.scope hc ?_ | refine Rn.inScope hc ?_))
    have hk6 : Kb b A' A6 := ((kb_bump hS.wf 13).trans (k4.trans ((kb_bump k4.wf 13).trans (k5.trans ((kb_bump k5.wf 13).trans k6)))))
    have hr := shrI_rng y0 33
    refine Rn.ret (endQ_tmp rfl ⟨shrI .u64 y 33, ?_, hr.1, Int.le_trans hr.2 y1, hK.trans hk6, nx', hnx', hS.kb hk6 ⟨_, l6⟩⟩)
    simp only [sg_eq, sp_n, Nat.reduceLT, hn]
end Go.Proofs.Ytdaljohmfnfgiaa
/- Bytes that come in, and five arguments. No condition. -/
namespace Go.Proofs.Ytdaljohmfnfgiaa
section
open Go Go.RowKit Go.Proofs.Ytdaljohmfnfgiaa.Canon
/-- The bytes of a slice, in a world. -/
def BysW (W : World) (a : Option Addr) (n : Nat) : Prop := ∀ i, i < n → ∃ b o v, a = some ⟨b, o, none⟩ ∧ W.cell? ⟨b, o + i, none⟩ = some (.int .u8 v)
theorem BysW.bys {W : World} {z : Nat} {A : AHeap} (hA : In W z A) {a : Option Addr} {n : Nat} (h : BysW W a n) : Bys A a A.next n := fun i hi => by
  obtain ⟨b, o, v, rfl, hc⟩ := h i hi
  obtain ⟨c, t, f, h1, h2⟩ := cell_heap hc
  have hlt : b < W.heap.size := (Array.getElem?_eq_some_iff.1 h1).1
  exact ⟨b, o, v, rfl, by rw [hA.next]; have := hA.big; omega, hA.cl h1 h2 rfl⟩
end
section
open Go.ChangeShapes Go.WideShapes Go.ChangeAt Go.RowKit Go.Proofs.Ytdaljohmfnfgiaa.Canon
open Go.Deep (open_slice_pairs open_slice)
section
variable {H : Type} {enc : TypeId × Value → H} {P : Program} {w : World} {base : Nat} {spare : Nat → Bool} {held : Bool}
end
end
end Go.Proofs.Ytdaljohmfnfgiaa
/- Numbers below another one, out of a sack. No condition. -/
namespace Go.Proofs.Ytdaljohmfnfgiaa
open Go Go.RowKit Go.Proofs.Ytdaljohmfnfgiaa.Canon
set_option maxRecDepth 20000


theorem below_sack {A : AHeap} {b : Nat} {a : Option Addr} {n c lim nx : Nat} (h : Sack A b a n c lim nx) (hnx : nx < 4611686018427387904) (hn0 : n < 9223372036854775808) {m : Int} (hm : m ≤ 9223372036854775807) :
    Con Try.prog 64 [.pointer (some ⟨b, 0, none⟩), .int .i64 m] A (fun v A1 => ∃ r : Nat, v = .int .i64 (r : Int) ∧ (r : Int) < max 1 m ∧ Kb b A A1 ∧ ∃ nx', nx' ≤ nx + 1 ∧ Sack A1 b a n c lim nx') := by
  refine con_of_rn hc Try.func64 rfl (Nat.le_of_ble_eq_true rfl) ?_
  rw [s_in2]
  (repeat (first | refine Rn.seq hc ?_ | refine Rn.skip hc ?_ | refine Rn.block hc ?_ | refine Rn.inBlock hc ?_ | refine Rn.scope hc ?_ | refine Rn.inScope hc ?_))
  refine Rn.reg hc rfl ?_
  simp only [sev_const, gd, want_free, rops, fx, Option.some.injEq, exists_eq_left', show Try.f64.ntmps = 12 from rfl]
  (repeat (first | refine Rn.seq hc ?_ | refine Rn.skip hc ?_ | refine Rn.block hc ?_ | refine Rn.inBlock hc ?_ | refine Rn.scope hc ?_ | refine Rn.inScope hc ?_))
  refine Rn.region hc fun K hK => ?_
  refine Wo.run hc 1 rfl rfl rfl ?_
  simp (maxSteps := 2000000) only [List.drop_zero, List.take_succ_cons, List.take_zero, sev_tmp, sg_eq, sg_ne, Nat.reduceLT, ne_eq, Nat.reduceEqDiff, not_false_eq_true, gd, want_free, rops, fx, Nat.zero_add, Option.some.injEq, exists_eq_left']
  refine Wo.call hc (by rfl) (by rfl) ⟨by rfl, by rfl⟩ (xs := [.pointer (some ⟨b, 0, none⟩)]) (by first | rfl | (simp only [sev_tmp, sev_const, sev_func, sg_eq, sg_ne, sp_n, sp_none, Nat.reduceLT, ne_eq, Nat.reduceEqDiff, not_false_eq_true, gd, nth, want_free, want_slot, beqB, List.map_cons, List.map_nil, Array.toList_empty, List.nil_append, List.append_nil, List.cons_append]; done) | (simp only [sev_tmp, sev_const, sev_func, sg_eq, sg_ne, sp_n, sp_none, Nat.reduceLT, ne_eq, Nat.reduceEqDiff, not_false_eq_true, gd, nth, want_free, want_slot, beqB, List.map_cons, List.map_nil, Array.toList_empty, List.nil_append, List.append_nil, List.cons_append]; rfl)) (by first | rfl | (simp only [sev_tmp, sev_const, sev_func, sg_eq, sg_ne, sp_n, sp_none, Nat.reduceLT, ne_eq, Nat.reduceEqDiff, not_false_eq_true, gd, nth, want_free, want_slot, beqB, List.map_cons, List.map_nil, Array.toList_empty, List.nil_append, List.append_nil, List.cons_append]; done) | (simp only [sev_tmp, sev_const, sev_func, sg_eq, sg_ne, sp_n, sp_none, Nat.reduceLT, ne_eq, Nat.reduceEqDiff, not_false_eq_true, gd, nth, want_free, want_slot, beqB, List.map_cons, List.map_nil, Array.toList_empty, List.nil_append, List.append_nil, List.cons_append]; rfl)) (by first | rfl | (simp only [sev_tmp, sev_const, sev_func, sg_eq, sg_ne, sp_n, sp_none, Nat.reduceLT, ne_eq, Nat.reduceEqDiff, not_false_eq_true, gd, nth, want_free, want_slot, beqB, List.map_cons, List.map_nil, Array.toList_empty, List.nil_append, List.append_nil, List.cons_append]; done) | (simp only [sev_tmp, sev_const, sev_func, sg_eq, sg_ne, sp_n, sp_none, Nat.reduceLT, ne_eq, Nat.reduceEqDiff, not_false_eq_true, gd, nth, want_free, want_slot, beqB, List.map_cons, List.map_nil, Array.toList_empty, List.nil_append, List.append_nil, List.cons_append]; rfl)) (Con.mono (draw_sack h hnx hn0) ?_)
  rintro v A1 ⟨r, rfl, r0, r1, hk, nx', hnx', hS⟩
  have hw : IntKind.u64.wrap (max 1 m) = max 1 m := IntWalk.u64_in _ ⟨by omega, by omega⟩
  have ht : r.tmod (max 1 m) = ((r.tmod (max 1 m)).toNat : Int) := (Int.toNat_of_nonneg (Int.tmod_nonneg _ r0)).symm
  have hlt : r.tmod (max 1 m) < max 1 m := Int.tmod_lt_of_pos _ (by omega)
  have hrem : ∀ M, bin Try.prog .rem 105 (.int .u64 r) (.int .u64 (max 1 m)) M = some (.int .u64 (r.tmod (max 1 m)), M) := fun M => bin_rem _ _ _ _ (by omega)
  have hw2 : IntKind.i64.wrap (r.tmod (max 1 m)) = r.tmod (max 1 m) := IntWalk.i64_in _ ⟨by have := Int.tmod_nonneg (max 1 m) r0; omega, by omega⟩
  refine Wo.run hc 6 rfl rfl rfl ?_
  simp (maxSteps := 2000000) only [List.drop_zero, List.drop_succ_cons, List.take_succ_cons, List.take_zero, sev_tmp, sg_eq, sg_ne, sp_n, Nat.reduceLT, ne_eq, Nat.reduceEqDiff, not_false_eq_true, gd, want_free, rops, fx, Option.some.injEq, exists_eq_left', Nat.reduceAdd, ae_cv, ae_mxd, mxd_int, cv3, hw, hrem, cv105, hw2]
  refine Wo.done hc rfl (hK _ _ ?_)
  (repeat (first | refine Rn.seq hc ?_ | refine Rn.skip hc ?_ | refine Rn.block hc ?_ | refine Rn.inBlock hc ?_ | refine Rn.scope hc ?_ | refine Rn.inScope hc ?_))
  refine Rn.ret (endQ_tmp rfl ⟨(r.tmod (max 1 m)).toNat, ?_, by rw [← ht]; exact hlt, hk, nx', hnx', hS⟩)
  simp only [sg_eq, sp_n, Nat.reduceLT]
  rw [← ht]
theorem among_sack {A : AHeap} {b : Nat} {a : Option Addr} {n c lim nx : Nat} (h : Sack A b a n c lim nx) (hnx : nx < 4611686018427387904) (hn0 : n < 9223372036854775808) {lo hi : Nat} (hlh : lo ≤ hi) (hh : hi < 4611686018427387904) :
    Con Try.prog 97 [.pointer (some ⟨b, 0, none⟩), .int .i64 (lo : Int), .int .i64 (hi : Int)] A (fun v A1 => ∃ r : Nat, v = .int .i64 (r : Int) ∧ lo ≤ r ∧ r ≤ hi ∧ Kb b A A1 ∧ ∃ nx', nx' ≤ nx + 1 ∧ Sack A1 b a n c lim nx') := by
  refine con_of_rn hc Try.func97 rfl (Nat.le_of_ble_eq_true rfl) ?_
  rw [s_in3]
  (repeat (first | refine Rn.seq hc ?_ | refine Rn.skip hc ?_ | refine Rn.block hc ?_ | refine Rn.inBlock hc ?_ | refine Rn.scope hc ?_ | refine Rn.inScope hc ?_))
  refine Rn.reg hc rfl ?_
  simp only [sev_const, gd, want_free, rops, fx, Option.some.injEq, exists_eq_left', show Try.f97.ntmps = 15 from rfl]
  (repeat (first | refine Rn.seq hc ?_ | refine Rn.skip hc ?_ | refine Rn.block hc ?_ | refine Rn.inBlock hc ?_ | refine Rn.scope hc ?_ | refine Rn.inScope hc ?_))
  refine Rn.region hc fun K hK => ?_
  have w1 : IntKind.i64.wrap ((hi : Int) - (lo : Int)) = ((hi - lo : Nat) : Int) := by rw [IntWalk.i64_in _ (by omega)]; omega
  refine Wo.run hc 6 rfl rfl rfl ?_
  simp (maxSteps := 2000000) only [List.drop_zero, List.take_succ_cons, List.take_zero, sev_tmp, sev_const, sg_eq, sg_ne, sp_n, Nat.reduceLT, ne_eq, Nat.reduceEqDiff, not_false_eq_true, gd, want_free, rops, fx, bin_add, bin_sub, Nat.zero_add, Option.some.injEq, exists_eq_left', w1, wrap_succ (show hi - lo < 9223372036854775807 by omega)]
  refine Wo.call hc (by rfl) (by rfl) ⟨by rfl, by rfl⟩ (xs := [.pointer (some ⟨b, 0, none⟩), .int .i64 ((hi - lo + 1 : Nat) : Int)]) (by first | rfl | (simp only [sev_tmp, sev_const, sev_func, sg_eq, sg_ne, sp_n, sp_none, Nat.reduceLT, ne_eq, Nat.reduceEqDiff, not_false_eq_true, gd, nth, want_free, want_slot, beqB, List.map_cons, List.map_nil, Array.toList_empty, List.nil_append, List.append_nil, List.cons_append]; done) | (simp only [sev_tmp, sev_const, sev_func, sg_eq, sg_ne, sp_n, sp_none, Nat.reduceLT, ne_eq, Nat.reduceEqDiff, not_false_eq_true, gd, nth, want_free, want_slot, beqB, List.map_cons, List.map_nil, Array.toList_empty, List.nil_append, List.append_nil, List.cons_append]; rfl)) (by first | rfl | (simp only [sev_tmp, sev_const, sev_func, sg_eq, sg_ne, sp_n, sp_none, Nat.reduceLT, ne_eq, Nat.reduceEqDiff, not_false_eq_true, gd, nth, want_free, want_slot, beqB, List.map_cons, List.map_nil, Array.toList_empty, List.nil_append, List.append_nil, List.cons_append]; done) | (simp only [sev_tmp, sev_const, sev_func, sg_eq, sg_ne, sp_n, sp_none, Nat.reduceLT, ne_eq, Nat.reduceEqDiff, not_false_eq_true, gd, nth, want_free, want_slot, beqB, List.map_cons, List.map_nil, Array.toList_empty, List.nil_append, List.append_nil, List.cons_append]; rfl)) (by first | rfl | (simp only [sev_tmp, sev_const, sev_func, sg_eq, sg_ne, sp_n, sp_none, Nat.reduceLT, ne_eq, Nat.reduceEqDiff, not_false_eq_true, gd, nth, want_free, want_slot, beqB, List.map_cons, List.map_nil, Array.toList_empty, List.nil_append, List.append_nil, List.cons_append]; done) | (simp only [sev_tmp, sev_const, sev_func, sg_eq, sg_ne, sp_n, sp_none, Nat.reduceLT, ne_eq, Nat.reduceEqDiff, not_false_eq_true, gd, nth, want_free, want_slot, beqB, List.map_cons, List.map_nil, Array.toList_empty, List.nil_append, List.append_nil, List.cons_append]; rfl)) (Con.mono (below_sack h hnx hn0 (m := ((hi - lo + 1 : Nat) : Int)) (by omega)) ?_)
  rintro v A1 ⟨r, rfl, hr, hk, nx', hnx', hS⟩
  have w2 : IntKind.i64.wrap ((lo : Int) + (r : Int)) = ((lo + r : Nat) : Int) := by rw [IntWalk.i64_in _ (by omega)]; omega
  refine Wo.run hc 2 rfl rfl rfl ?_
  simp (maxSteps := 2000000) only [List.drop_zero, List.drop_succ_cons, List.take_succ_cons, List.take_zero, sev_tmp, sg_eq, sg_ne, sp_n, Nat.reduceLT, ne_eq, Nat.reduceEqDiff, not_false_eq_true, gd, want_free, rops, fx, bin_add, Option.some.injEq, exists_eq_left', Nat.reduceAdd, w2]
  refine Wo.done hc rfl (hK _ _ ?_)
  (repeat (first | refine Rn.seq hc ?_ | refine Rn.skip hc ?_ | refine Rn.block hc ?_ | refine Rn.inBlock hc ?_ | refine Rn.scope hc ?_ | refine Rn.inScope hc ?_))
  refine Rn.ret (endQ_tmp rfl ⟨lo + r, ?_, by omega, by omega, hk, nx', hnx', hS⟩)
  simp only [sg_eq, sp_n, Nat.reduceLT]
end Go.Proofs.Ytdaljohmfnfgiaa
/- A sack of some bytes, and elements of streams. No condition. -/
namespace Go.Proofs.Ytdaljohmfnfgiaa
open Go Go.RowKit Go.Proofs.Ytdaljohmfnfgiaa.Canon
set_option maxRecDepth 20000

end Go.Proofs.Ytdaljohmfnfgiaa
/- Elements of streams, as the law asks for them. No condition. -/
namespace Go.Proofs.Ytdaljohmfnfgiaa
open Go Go.RowKit Go.Proofs.Ytdaljohmfnfgiaa.Canon
set_option maxRecDepth 20000


end Go.Proofs.Ytdaljohmfnfgiaa
/- The first elements of a stream. No condition. -/
namespace Go.Proofs.Ytdaljohmfnfgiaa
open Go Go.RowKit Go.Proofs.Ytdaljohmfnfgiaa.Canon
set_option maxRecDepth 20000


end Go.Proofs.Ytdaljohmfnfgiaa
/- Streams that come again: their periods, the least of them, and where they begin. No condition. -/
namespace Go.Proofs.Ytdaljohmfnfgiaa
open Go Go.RowKit Go.Proofs.Ytdaljohmfnfgiaa.Canon

/-- From a place on, a stream comes again after so many elements. -/
structure Per (s : Nat → Int) (N d : Nat) : Prop where
  pos : 0 < d
  per : ∀ n, N ≤ n → s (n + d) = s n
theorem Per.mono {s : Nat → Int} {N M d : Nat} (h : Per s N d) (hm : N ≤ M) : Per s M d := ⟨h.pos, fun n hn => h.per n (by omega)⟩
theorem Per.times {s : Nat → Int} {N d : Nat} (h : Per s N d) (k : Nat) : ∀ n, N ≤ n → s (n + k * d) = s n := by
  induction k with
  | zero => intro n _; simp
  | succ k ih =>
    intro n hn
    rw [Nat.succ_mul, ← Nat.add_assoc, h.per _ (by omega), ih n hn]
theorem Per.mul {s : Nat → Int} {N d k : Nat} (h : Per s N d) (hk : 0 < k) : Per s N (k * d) := ⟨Nat.mul_pos hk h.pos, h.times k⟩
theorem Per.mod {s : Nat → Int} {N d e : Nat} (h : Per s N d) (k : Per s N e) (hp : 0 < d % e) : Per s N (d % e) :=
  ⟨hp, fun n hn => by
    rw [← k.times (d / e) (n + d % e) (by omega), show n + d % e + d / e * e = n + d by have := Nat.div_add_mod d e; have := Nat.mul_comm (d / e) e; omega, h.per n hn]⟩
theorem Per.gcd {s : Nat → Int} {N : Nat} : ∀ {d e : Nat}, Per s N d → Per s N e → Per s N (Nat.gcd d e) := by
  intro d
  induction d using Nat.strongRecOn with
  | ind d ih =>
    intro e h k
    rw [Nat.gcd_rec]
    by_cases h0 : e % d = 0
    · rw [h0, Nat.gcd_zero_left]; exact h
    · exact ih _ (Nat.mod_lt _ h.pos) (k.mod h (by omega)) h
theorem Per.down {s : Nat → Int} {N M p d : Nat} (h : Per s N p) (k : Per s M d) : Per s N d :=
  ⟨k.pos, fun n hn => by
    have hM : M ≤ M * p := Nat.le_mul_of_pos_right _ h.pos
    rw [← h.times M (n + d) (by omega), show n + d + M * p = n + M * p + d by omega, k.per _ (by omega), h.times M n hn]⟩
theorem Per.same {s : Nat → Int} {N p x y : Nat} (h : Per s N p) (hx : N ≤ x) (hy : N ≤ y) (he : x % p = y % p) : s x = s y := by
  have key : ∀ {x y : Nat}, x ≤ y → N ≤ x → x % p = y % p → s x = s y := by
    intro x y hxy hx he
    have h1 := Nat.div_add_mod x p
    have h2 := Nat.div_add_mod y p
    have h3 : x / p ≤ y / p := Nat.div_le_div_right hxy
    obtain ⟨k, hk⟩ : ∃ k, y / p = x / p + k := ⟨y / p - x / p, by omega⟩
    have : y = x + k * p := by
      rw [hk, Nat.mul_add] at h2
      have := Nat.mul_comm p k
      omega
    rw [this, h.times k x hx]
  rcases Nat.le_total x y with hxy | hxy
  · exact key hxy hx he
  · exact (key hxy hy he.symm).symm

/-- The least period of a stream, and the least beginning. -/
structure Red (s : Nat → Int) (a p : Nat) : Prop where
  per : Per s a p
  minP : ∀ N d, Per s N d → p ≤ d
  minA : ∀ N, Per s N p → a ≤ N
theorem Red.uniq {s : Nat → Int} {a p a' p' : Nat} (h : Red s a p) (k : Red s a' p') : a = a' ∧ p = p' := by
  have hp : p = p' := Nat.le_antisymm (h.minP _ _ k.per) (k.minP _ _ h.per)
  subst hp
  exact ⟨Nat.le_antisymm (h.minA _ k.per) (k.minA _ h.per), rfl⟩
/-- The stem and the round of such a stream. -/
def redS (s : Nat → Int) (a : Nat) : List Int := (List.range a).map s
def redR (s : Nat → Int) (a p : Nat) : List Int := (List.range p).map fun i => s (a + i)
theorem redS_len (s : Nat → Int) (a : Nat) : (redS s a).length = a := by simp [redS]
theorem redR_len (s : Nat → Int) (a p : Nat) : (redR s a p).length = p := by simp [redR]
theorem redS_get {s : Nat → Int} {a i : Nat} (h : i < a) : (redS s a).getD i 0 = s i := by simp [redS, List.getD_eq_getElem?_getD, h]
theorem redR_get {s : Nat → Int} {a p i : Nat} (h : i < p) : (redR s a p).getD i 0 = s (a + i) := by simp [redR, List.getD_eq_getElem?_getD, h]
/-- A round that is made of a shorter one. -/
def perOK (ro : List Int) (d : Nat) : Bool := decide (ro.length % d = 0) && (List.range ro.length).all fun i => decide (i < d) || decide (ro.getD i 0 = ro.getD (i - d) 0)
theorem perOK_iff {ro : List Int} {d : Nat} : perOK ro d = true ↔ ro.length % d = 0 ∧ ∀ i, d ≤ i → i < ro.length → ro.getD i 0 = ro.getD (i - d) 0 := by
  unfold perOK
  simp only [Bool.and_eq_true, decide_eq_true_eq, List.all_eq_true, List.mem_range, Bool.or_eq_true]
  constructor
  · rintro ⟨h1, h2⟩
    refine ⟨h1, fun i hd hi => ?_⟩
    rcases h2 i hi with h | h
    · omega
    · exact h
  · rintro ⟨h1, h2⟩
    refine ⟨h1, fun i hi => ?_⟩
    by_cases hd : i < d
    · exact .inl hd
    · exact .inr (h2 i (by omega) hi)
theorem atL_ro {st ro : List Int} {i : Nat} (h : i < ro.length) : atL st ro (st.length + i) = ro.getD i 0 := by
  unfold atL
  rw [if_neg (by omega), Nat.add_sub_cancel_left, Nat.mod_eq_of_lt h]
theorem atL_st {st ro : List Int} {i : Nat} (h : i < st.length) : atL st ro i = st.getD i 0 := by
  unfold atL
  rw [if_pos h]
theorem atL_per {st ro : List Int} (h : 0 < ro.length) : Per (atL st ro) st.length ro.length := ⟨h, fun n hn => by
  unfold atL
  rw [if_neg (by omega), if_neg (by omega), show n + ro.length - st.length = n - st.length + ro.length by omega, Nat.add_mod_right]⟩
theorem perOK_mod {ro : List Int} {d : Nat} (hd : 0 < d) (h : perOK ro d = true) : ∀ x, x < ro.length → ro.getD x 0 = ro.getD (x % d) 0 := by
  obtain ⟨_, h2⟩ := perOK_iff.1 h
  intro x
  induction x using Nat.strongRecOn with
  | ind x ih =>
    intro hx
    by_cases hlt : x < d
    · rw [Nat.mod_eq_of_lt hlt]
    · rw [h2 x (by omega) hx, ih (x - d) (by omega) (by omega), ← Nat.mod_eq_sub_mod (by omega)]
theorem perOK_per {st ro : List Int} {d : Nat} (hl : 0 < ro.length) (hd : 0 < d) (h : perOK ro d = true) : Per (atL st ro) st.length d := ⟨hd, fun n hn => by
  have hdv : d ∣ ro.length := Nat.dvd_of_mod_eq_zero (perOK_iff.1 h).1
  have key : ∀ m, ro.getD (m % ro.length) 0 = ro.getD (m % d) 0 := fun m => by
    rw [perOK_mod hd h _ (Nat.mod_lt _ hl), Nat.mod_mod_of_dvd _ hdv]
  unfold atL
  rw [if_neg (by omega), if_neg (by omega), key, key, show n + d - st.length = n - st.length + d by omega, Nat.add_mod_right]⟩
theorem per_perOK {st ro : List Int} {N d : Nat} (hl : 0 < ro.length) (hd : ro.length % d = 0) (h : Per (atL st ro) N d) : perOK ro d = true := by
  have k := (atL_per (st := st) hl).down h
  refine perOK_iff.2 ⟨hd, fun i hi hlt => ?_⟩
  have := k.per (st.length + (i - d)) (by omega)
  rw [show st.length + (i - d) + d = st.length + i by omega, atL_ro hlt, atL_ro (by omega)] at this
  exact this
/-- The least length of such a round is the least period. -/
theorem min_per {st ro : List Int} {d : Nat} (hl : 0 < ro.length) (hmin : ∀ e, 0 < e → e < d → perOK ro e = false) {N e : Nat} (h : Per (atL st ro) N e) : d ≤ e := by
  have k := (atL_per (st := st) hl).down h
  have g := (k.gcd (atL_per (st := st) hl))
  have ho := per_perOK (d := Nat.gcd e ro.length) hl (Nat.mod_eq_zero_of_dvd (Nat.gcd_dvd_right _ _)) g
  have hle : Nat.gcd e ro.length ≤ e := Nat.le_of_dvd k.pos (Nat.gcd_dvd_left _ _)
  refine Nat.le_trans (Nat.le_of_not_lt fun hlt => ?_) hle
  rw [hmin _ g.pos hlt] at ho
  cases ho
theorem perOK_self (ro : List Int) : perOK ro ro.length = true := perOK_iff.2 ⟨Nat.mod_self _, fun i h1 h2 => by omega⟩
theorem perOK_le {ro : List Int} {d : Nat} (hl : 0 < ro.length) (h : perOK ro d = true) : d ≤ ro.length := Nat.le_of_dvd hl (Nat.dvd_of_mod_eq_zero (perOK_iff.1 h).1)
/-- A step of what takes the end of the stem off. -/
theorem Per.back {s : Nat → Int} {e p : Nat} (h : Per s (e + 1) p) (hs : s e = s (e + p)) : Per s e p := ⟨h.pos, fun n hn => by
  by_cases hne : n = e
  · subst hne; exact hs.symm
  · exact h.per n (by omega)⟩
theorem red_of {s : Nat → Int} {a p : Nat} (h : Per s a p) (hp : ∀ N d, Per s N d → p ≤ d) (ha : 0 < a → s (a - 1) ≠ s (a - 1 + p)) : Red s a p :=
  ⟨h, hp, fun N hN => Nat.le_of_not_lt fun hlt => ha (by omega) ((hN.per (a - 1) (by omega)).symm)⟩
end Go.Proofs.Ytdaljohmfnfgiaa
/- Lists of numbers that grow. No condition. -/
namespace Go.Proofs.Ytdaljohmfnfgiaa
open Go Go.RowKit Go.Proofs.Ytdaljohmfnfgiaa.Canon
set_option maxRecDepth 20000


section
variable {ρ : Operand → Value} {d : Option Tmp} {ty : TypeId} {pos : String} {af : Array Edge} {gu : Option (Nat × Bool)}
theorem fb22_1 {x : Tmp} {v : Value} (hv : ρ (.tmp x) = v) (hcv : isCell v = true) : fobj Try.prog ρ ⟨d, .buildSlice 22 1 #[(0, .tmp x)], ty, pos, af, gu⟩ = some ⟨[v], 3, .sl 1 1⟩ := by
  have := fbld_fill (ρ := ρ) (pl := fun k => some (k * 1, 1)) (n := 1) (ps := [(0, .tmp x)]) (cs := [.int .i64 0]) (r := [v]) rfl (by simp [fbld, hv, cells_isCell hcv])
  have hok : ([((0 : Nat), Operand.tmp x)].all fun p => opnOK p.2) = true := rfl
  simp only [fobj, so22_1, et22, hok, this]
end
theorem VQ.tuple {l : List Value} (h : ∀ v ∈ l, veq 4 v v = true) : VQ (.tuple ⟨l⟩) := by
  have h1 : veqs (veq 4) l l = true := VQ.agg h
  exact h1
theorem DrL.call {S : Canon.Spec} {ops : Array Oper} {F : AHeap → Prop} {nb i : Nat} {o : Oper} {os : List Oper} {T : Slots} {A : AHeap} {K : Slots → List AHeap → Prop} (he : isEff Try.prog (cvE Try.prog ops) o = true) (hf : isFl Try.prog o = false) (hA : F A) (hw : wantB (gd ops o) T = true) {R : Value → AHeap → Prop}
    (h : ∃ v A1, opRun Try.prog (runS Try.prog S) (seval T) o A = some (v, A1) ∧ R v A1) (k : ∀ v A1, R v A1 → DrL Try.prog S ops F nb (i + 1) os (sput T o.dst v) [] A1 (fun T1 ms => K T1 (A :: ms))) : DrL Try.prog S ops F nb i (o :: os) T [] A K := by
  obtain ⟨v, A1, h1, h2⟩ := h
  exact DrL.eff he hf rfl rfl (ms0 := []) rfl (fun _ h => by cases h) hA hw h1 (k v A1 h2)
theorem Dr.call {S : Canon.Spec} {ops : Array Oper} {F : AHeap → Prop} {nb i : Nat} {o : Oper} {os : List Oper} {T : Slots} {A : AHeap} {K : Slots → List AHeap → Prop} (he : isEff Try.prog (cvE Try.prog ops) o = true) (hf : isFl Try.prog o = false) (hA : F A) (hw : wantB (gd ops o) T = true) {R : Value → AHeap → Prop}
    (h : ∃ v A1, opRun Try.prog (runS Try.prog S) (seval T) o A = some (v, A1) ∧ R v A1) (k : ∀ v A1, R v A1 → Dr Try.prog S ops F nb (i + 1) os (sput T o.dst v) [] A1 (fun T1 ms => K T1 (A :: ms))) : Dr Try.prog S ops F nb i (o :: os) T [] A K := by
  obtain ⟨v, A1, h1, h2⟩ := h
  exact Dr.eff0 he hf hA hw h1 (k v A1 h2)

/-- A list of numbers that may be appended to. -/
structure Gr (A : AHeap) (a : Option Addr) (lo : Nat) (l : List Int) : Prop where
  ints : Ints A a lo A.next l
  sl : Sl A a lo
  wr : ∀ x, a = some x → ∃ y, Canon.look A.objs x.block = some y ∧ isRO y.grown y.esz = false
theorem Gr.nil (A : AHeap) (lo : Nat) : Gr A none lo [] := ⟨fun i hi => by simp at hi, fun x hx => (by cases hx), fun x hx => (by cases hx)⟩
theorem Gr.mono {A : AHeap} {a : Option Addr} {lo lo' : Nat} {l : List Int} (h : Gr A a lo l) (hl : lo' ≤ lo) : Gr A a lo' l := ⟨h.ints.mono hl (Nat.le_refl _), h.sl.mono hl, h.wr⟩
theorem Gr.ext {A B : AHeap} {a : Option Addr} {lo : Nat} {l : List Int} (h : Gr A a lo l) (hn : A.next ≤ B.next) (he : ∀ b, lo ≤ b → Canon.look A.objs b = none ∨ Canon.look B.objs b = Canon.look A.objs b) : Gr B a lo l := ⟨h.ints.ext he hn, h.sl.ext he, fun x hx => by
  obtain ⟨_, q, _⟩ := h.sl x hx
  obtain ⟨y, h1, h2⟩ := h.wr x hx
  rcases he _ q with h0 | h0
  · rw [h0] at h1; cases h1
  · exact ⟨y, h0.trans h1, h2⟩⟩
theorem Gr.nx {A B : AHeap} {a : Option Addr} {lo n : Nat} {l : List Int} (h : Gr A a lo l) (hw : WF A) (hx : Nx A.next A B) : Gr B a lo l := h.ext hx.next fun b _ => by
  by_cases hb : b < A.next
  · exact .inr (hx.keep b hb)
  · exact .inl (hw.none (by omega))
theorem Gr.kb {A B : AHeap} {a : Option Addr} {lo b : Nat} {l : List Int} (h : Gr A a lo l) (hw : WF A) (hk : Kb b A B) (hb : b < lo) : Gr B a lo l := h.ext hk.next fun b' hb' => by
  by_cases hlt : b' < A.next
  · exact .inr (hk.keep b' hlt (by omega))
  · exact .inl (hw.none (by omega))
theorem Gr.off {A B : AHeap} {a : Option Addr} {lo b : Nat} {l : List Int} (h : Gr A a lo l) {c : Array Value} (hk : Upd A b c B) (hb : b < lo) : Gr B a lo l := h.ext (Nat.le_of_eq hk.next.symm) fun b' hb' => .inr (hk.off b' (by omega))
theorem Gr.base {A : AHeap} {a : Option Addr} {lo : Nat} {l : List Int} (h : Gr A a lo l) : Base A a 1 := fun x hx => by
  obtain ⟨_, _, y, h1, h2⟩ := h.sl x hx
  exact ⟨y, h1, h2⟩
/-- One more number. -/
theorem gr_push {A : AHeap} (hw : WF A) {a : Option Addr} {lo : Nat} {l : List Int} (h : Gr A a lo l) {a2 : Option Addr} {c2 : Nat} {x : Int} {b2 : Nat} (ha2 : a2 = some ⟨b2, 0, none⟩) (hx : cl A b2 0 = some (.int .i64 x)) (hlen : l.length ≤ 100000) :
    ∃ A1, aapp Try.prog #[22, 22] #[.slice a l.length l.length, .slice a2 1 c2] A = some (.slice (some ⟨A.next, 0, none⟩) (l.length + 1) (l.length + 1), A1) ∧ A1.next = A.next + 1 ∧ WF A1 ∧ Gr A1 (some ⟨A.next, 0, none⟩) A.next (l ++ [x]) ∧ (∀ b, b < A.next → (∀ y, a = some y → y.block ≠ b) → Canon.look A1.objs b = Canon.look A.objs b) ∧ Nx (min lo A.next) A A1 := by
  subst ha2
  obtain ⟨A1, h1, h2⟩ := aapp_new (P := Try.prog) (c := l.length) (c2 := c2) (a := a) (n := l.length) (l := l.map (Value.int .i64)) (m := 1) (a2 := some ⟨b2, 0, none⟩) (l2 := [.int .i64 x]) el22 un22 h.ints.row (by simp) h.base (fun ha => by subst ha; exact h.ints.some)
    (.inr ⟨b2, 0, rfl, fun i hi => by
      have : i = 0 := by simp at hi; omega
      subst this
      exact hx⟩) (by simp) rfl (fun h' => by cases h') (by omega) (by omega) (by omega)
  have hnx := h2.nx hw (n := min lo A.next) (Nat.min_le_right _ _) (fun y hy => by
    obtain ⟨_, q2, _⟩ := h.sl y hy
    exact .inl (by omega))
  refine ⟨A1, h1, h2.next, hnx.wf, ⟨fun i hi => ⟨_, _, rfl, Nat.le_refl _, by rw [h2.next]; omega, ?_⟩, fun y hy => by cases hy; exact ⟨rfl, Nat.le_refl _, _, h2.new, .inr ⟨rfl, rfl, rfl⟩⟩, fun y hy => by cases hy; exact ⟨_, h2.new, rfl⟩⟩, fun b hb hne => h2.old b (by omega) fun y hy => .inl (hne y hy), hnx⟩
  rw [h2.cl]
  simp only [Nat.zero_add, List.getD_eq_getElem?_getD]
  rw [List.length_append] at hi
  by_cases hil : i < l.length
  · rw [List.getElem?_append_left (by simpa using hil), List.getElem?_append_left hil]
    simp [hil]
  · have : i = l.length := by simp at hi; omega
    subst this
    simp
end Go.Proofs.Ytdaljohmfnfgiaa
/- A right stream, out of a sack. No condition. -/
namespace Go.Proofs.Ytdaljohmfnfgiaa
open Go Go.RowKit Go.Proofs.Ytdaljohmfnfgiaa.Canon
set_option maxRecDepth 20000


section
variable {ρ : Operand → Value} {d : Option Tmp} {ty : TypeId} {pos : String} {af : Array Edge} {gu : Option (Nat × Bool)} {A : AHeap}
theorem bd24_0 {x : Tmp} (hx : isCell (ρ (.tmp x)) = true) : aexec Try.prog ρ ⟨d, .build 24 #[(0, .tmp x)], ty, pos, af, gu⟩ A = some (.agg #[ρ (.tmp x), .slice none 0 0, .slice none 0 0], A) := by
  refine ae_build (by rfl) bo24 rfl ?_
  simp [fbld, nthR, cells_isCell hx]
end
theorem put24L {A : AHeap} (hw : WF A) {v0 v1 v2 : Value} (h : [v0, v1, v2].all isCell = true) : ∃ A2, sts (A.push (.cells #[.int .i64 0, .slice none 0 0, .slice none 0 0] 24)) A.next 0 [v0, v1, v2] = some A2 ∧ Nx A.next A A2 ∧ A2.next = A.next + 1 ∧ Canon.look A2.objs A.next = some ⟨.cells #[v0, v1, v2] 24, false, 0⟩ := by
  have hx1 : Nx A.next A (A.push (.cells #[.int .i64 0, .slice none 0 0, .slice none 0 0] 24)) := (Nx.refl hw _).push (Nat.le_refl _) _
  have hl := look_push_eq A (.cells #[.int .i64 0, .slice none 0 0, .slice none 0 0] 24)
  obtain ⟨A2, c2, q1, q2, q3, q4⟩ := sts_upd (l := [v0, v1, v2]) (o := 0) hl rfl (by simp) h
  obtain ⟨c, t, f, g, e, r1, r2, _⟩ := q2.at'
  rw [hl] at r1
  cases r1
  have hc : c2 = #[v0, v1, v2] := by
    refine Array.ext_getElem? fun i => ?_
    rw [q4 i]
    by_cases hi : i < 3
    · rw [if_pos ⟨Nat.zero_le _, by simpa using hi⟩]
      simp
    · rw [if_neg (by simp; omega)]
      rw [Array.getElem?_eq_none (by simp; omega), Array.getElem?_eq_none (by simp; omega)]
  subst hc
  exact ⟨A2, q1, hx1.trans (q2.nx hx1.wf (Nat.le_refl _)), q2.next, r2⟩
theorem Sack.same {A B : AHeap} {b : Nat} {a : Option Addr} {n c lim nx : Nat} (h : Sack A b a n c lim nx) (hw : WF B) (hk : ∀ b', b' ≤ b → Canon.look B.objs b' = Canon.look A.objs b') : Sack B b a n c lim nx := by
  obtain ⟨st, h1⟩ := h.at'
  refine ⟨hw, h.lm, ⟨st, (hk b (Nat.le_refl _)).trans h1⟩, fun i hi => ?_⟩
  obtain ⟨b', o, v, e, hlt, hc⟩ := h.bys i hi
  have := h.lm
  exact ⟨b', o, v, e, hlt, by rw [cl_look (hk b' (by omega))]; exact hc⟩
def bS (b : Nat) (a : Option Addr) (n c lim nx : Nat) (m : Int) : Canon.Spec := fun _ _ A v A1 => ∃ r : Nat, v = .int .i64 (r : Int) ∧ (r : Int) < max 1 m ∧ Kb b A A1 ∧ ∃ nx', nx' ≤ nx + 1 ∧ Sack A1 b a n c lim nx'

/-- What is drawn. -/
structure DrawnQ (A : AHeap) (b : Nat) (a : Option Addr) (n c lim nx : Nat) (m : Nat) (stem round : Nat) (v : Value) (A1 : AHeap) : Prop where
  kb : Kb b A A1
  sack : ∃ nx', nx' ≤ nx + 3 + stem + round ∧ Sack A1 b a n c lim nx'
  val : ∃ sa ra, ∃ st ro : List Int, v = .agg #[.int .i64 (m : Int), .slice sa st.length st.length, .slice ra ro.length ro.length] ∧ st.length ≤ stem ∧ 1 ≤ ro.length ∧ ro.length ≤ round ∧ st.all (inB m) = true ∧ ro.all (inB m) = true ∧ Gr A1 sa A.next st ∧ Gr A1 ra A.next ro

theorem drawn {A : AHeap} {b : Nat} {a : Option Addr} {n c lim nx : Nat} (h : Sack A b a n c lim nx) (hnx : nx < 1000000) (hn0 : n < 9223372036854775808) {m stem round : Nat} (hm : 1 ≤ m ∧ m ≤ 65521) (hst : stem ≤ 1000) (hro : 1 ≤ round ∧ round ≤ 1000) :
    Con Try.prog 57 [.pointer (some ⟨b, 0, none⟩), .int .i64 (m : Int), .int .i64 (stem : Int), .int .i64 (round : Int)] A (DrawnQ A b a n c lim nx m stem round) := by
  refine con_of_rn hc Try.func57 rfl (Nat.le_of_ble_eq_true rfl) ?_
  have hbA : b < A.next := by obtain ⟨_, q⟩ := h.at'; exact h.wf _ _ q
  have hx1 : Nx A.next A (A.push (.cells #[.int .i64 0, .slice none 0 0, .slice none 0 0] 24)) := (Nx.refl h.wf _).push (Nat.le_refl _) _
  have l1 := look_push_eq A (.cells #[.int .i64 0, .slice none 0 0, .slice none 0 0] 24)
  have hn1 : (A.push (.cells #[.int .i64 0, .slice none 0 0, .slice none 0 0] 24)).next = A.next + 1 := rfl
  generalize e1 : A.push (.cells #[.int .i64 0, .slice none 0 0, .slice none 0 0] 24) = A1 at hx1 l1 hn1
  obtain ⟨A2, p2, hx2, hn2, l2⟩ := put24L hx1.wf (v0 := .int .i64 (m : Int)) (v1 := .slice none 0 0) (v2 := .slice none 0 0) rfl
  rw [s_in4]
  (repeat (first | refine Rn.seq hc ?_ | refine Rn.skip hc ?_ | refine Rn.block hc ?_ | refine Rn.inBlock hc ?_ | refine Rn.scope hc ?_ | refine Rn.inScope hc ?_))
  refine Rn.reg hc rfl ?_
  simp only [gd, want_free, rops, fx, Option.some.injEq, exists_eq_left', Value.cells, show Try.f57.ntmps = 46 from rfl, ze24, e1]
  (repeat (first | refine Rn.seq hc ?_ | refine Rn.skip hc ?_ | refine Rn.block hc ?_ | refine Rn.inBlock hc ?_ | refine Rn.scope hc ?_ | refine Rn.inScope hc ?_))
  refine Rn.reg hc rfl ?_
  simp only [sev_tmp, sg_eq, sg_ne, sp_n, sp_none, Nat.reduceLT, ne_eq, Nat.reduceEqDiff, not_false_eq_true, gd, want_free, rops, fx, str, adr_p, Nat.zero_add, Option.some.injEq, exists_eq_left', Value.cells, Nat.reduceAdd, tk24, bd24_0, isCell, ze24, p2, List.size_toArray, List.length_cons, List.length_nil, Nat.beq_refl]
  (repeat (first | refine Rn.seq hc ?_ | refine Rn.skip hc ?_ | refine Rn.block hc ?_ | refine Rn.inBlock hc ?_ | refine Rn.scope hc ?_ | refine Rn.inScope hc ?_))
  have hx02 : Nx A.next A A2 := hx1.trans (hx2.le hx1.next)
  have S2 : Sack A2 b a n c lim nx := h.same hx2.wf fun b' hb' => hx02.keep _ (by omega)
  have l1 : Canon.look A2.objs A.next = _ := (hx2.keep _ (by omega)).trans l1
  rw [hn1] at l2 hn2
  refine Rn.region hc fun K hK => ?_
  refine Wo.run hc 2 rfl rfl rfl ?_
  simp (maxSteps := 2000000) only [List.drop_zero, List.take_succ_cons, List.take_zero, sev_tmp, sg_eq, sg_ne, sp_n, Nat.reduceLT, ne_eq, Nat.reduceEqDiff, not_false_eq_true, gd, want_free, rops, fx, Nat.zero_add, Option.some.injEq, exists_eq_left']
  refine Wo.call hc (by rfl) (by rfl) ⟨by rfl, by rfl⟩ (xs := [.pointer (some ⟨b, 0, none⟩), .int .i64 ((1 : Nat) : Int), .int .i64 (m : Int)]) (by first | rfl | (simp only [sev_tmp, sev_const, sev_func, sg_eq, sg_ne, sp_n, sp_none, Nat.reduceLT, ne_eq, Nat.reduceEqDiff, not_false_eq_true, gd, nth, want_free, want_slot, beqB, List.map_cons, List.map_nil, Array.toList_empty, List.nil_append, List.append_nil, List.cons_append]; done) | (simp only [sev_tmp, sev_const, sev_func, sg_eq, sg_ne, sp_n, sp_none, Nat.reduceLT, ne_eq, Nat.reduceEqDiff, not_false_eq_true, gd, nth, want_free, want_slot, beqB, List.map_cons, List.map_nil, Array.toList_empty, List.nil_append, List.append_nil, List.cons_append]; rfl)) (by first | rfl | (simp only [sev_tmp, sev_const, sev_func, sg_eq, sg_ne, sp_n, sp_none, Nat.reduceLT, ne_eq, Nat.reduceEqDiff, not_false_eq_true, gd, nth, want_free, want_slot, beqB, List.map_cons, List.map_nil, Array.toList_empty, List.nil_append, List.append_nil, List.cons_append]; done) | (simp only [sev_tmp, sev_const, sev_func, sg_eq, sg_ne, sp_n, sp_none, Nat.reduceLT, ne_eq, Nat.reduceEqDiff, not_false_eq_true, gd, nth, want_free, want_slot, beqB, List.map_cons, List.map_nil, Array.toList_empty, List.nil_append, List.append_nil, List.cons_append]; rfl)) (by first | rfl | (simp only [sev_tmp, sev_const, sev_func, sg_eq, sg_ne, sp_n, sp_none, Nat.reduceLT, ne_eq, Nat.reduceEqDiff, not_false_eq_true, gd, nth, want_free, want_slot, beqB, List.map_cons, List.map_nil, Array.toList_empty, List.nil_append, List.append_nil, List.cons_append]; done) | (simp only [sev_tmp, sev_const, sev_func, sg_eq, sg_ne, sp_n, sp_none, Nat.reduceLT, ne_eq, Nat.reduceEqDiff, not_false_eq_true, gd, nth, want_free, want_slot, beqB, List.map_cons, List.map_nil, Array.toList_empty, List.nil_append, List.append_nil, List.cons_append]; rfl)) (Con.mono (among_sack S2 (by omega) hn0 (lo := 1) (hi := m) hm.1 (by omega)) ?_)
  rintro v A3 ⟨r, rfl, r1, r2, k3, nx3, hnx3, S3⟩
  refine Wo.run hc 1 rfl rfl rfl ?_
  simp (maxSteps := 2000000) only [List.drop_zero, List.drop_succ_cons, List.take_succ_cons, List.take_zero, sev_tmp, sg_eq, sp_n, Nat.reduceLT, gd, want_free, rops, fx, Option.some.injEq, exists_eq_left', Nat.reduceAdd]
  refine Wo.done hc rfl (hK _ _ ?_)
  clear hK
  (repeat (first | refine Rn.seq hc ?_ | refine Rn.skip hc ?_ | refine Rn.block hc ?_ | refine Rn.inBlock hc ?_ | refine Rn.scope hc ?_ | refine Rn.inScope hc ?_))
  have l1 : Canon.look A3.objs A.next = _ := (k3.keep _ (by omega) (by omega)).trans l1
  have l2 : Canon.look A3.objs (A.next + 1) = _ := (k3.keep _ (by omega) (by omega)).trans l2
  have K3 : Kb b A A3 := (Kb.of_nx b hx02).trans k3
  have n3 : A.next + 2 ≤ A3.next := by have := k3.next; omega
  refine Rn.region hc fun K hK => ?_
  refine Wo.run hc 3 rfl rfl rfl ?_
  simp (maxSteps := 2000000) only [List.drop_zero, List.take_succ_cons, List.take_zero, sev_tmp, sev_const, sg_eq, sg_ne, sp_n, Nat.reduceLT, ne_eq, Nat.reduceEqDiff, not_false_eq_true, gd, want_free, rops, fx, bin_add, Nat.zero_add, Option.some.injEq, exists_eq_left', wrap_succ (show stem < 9223372036854775807 by omega)]
  refine Wo.call hc (by rfl) (by rfl) ⟨by rfl, by rfl⟩ (xs := [.pointer (some ⟨b, 0, none⟩), .int .i64 ((stem + 1 : Nat) : Int)]) (by first | rfl | (simp only [sev_tmp, sev_const, sev_func, sg_eq, sg_ne, sp_n, sp_none, Nat.reduceLT, ne_eq, Nat.reduceEqDiff, not_false_eq_true, gd, nth, want_free, want_slot, beqB, List.map_cons, List.map_nil, Array.toList_empty, List.nil_append, List.append_nil, List.cons_append]; done) | (simp only [sev_tmp, sev_const, sev_func, sg_eq, sg_ne, sp_n, sp_none, Nat.reduceLT, ne_eq, Nat.reduceEqDiff, not_false_eq_true, gd, nth, want_free, want_slot, beqB, List.map_cons, List.map_nil, Array.toList_empty, List.nil_append, List.append_nil, List.cons_append]; rfl)) (by first | rfl | (simp only [sev_tmp, sev_const, sev_func, sg_eq, sg_ne, sp_n, sp_none, Nat.reduceLT, ne_eq, Nat.reduceEqDiff, not_false_eq_true, gd, nth, want_free, want_slot, beqB, List.map_cons, List.map_nil, Array.toList_empty, List.nil_append, List.append_nil, List.cons_append]; done) | (simp only [sev_tmp, sev_const, sev_func, sg_eq, sg_ne, sp_n, sp_none, Nat.reduceLT, ne_eq, Nat.reduceEqDiff, not_false_eq_true, gd, nth, want_free, want_slot, beqB, List.map_cons, List.map_nil, Array.toList_empty, List.nil_append, List.append_nil, List.cons_append]; rfl)) (by first | rfl | (simp only [sev_tmp, sev_const, sev_func, sg_eq, sg_ne, sp_n, sp_none, Nat.reduceLT, ne_eq, Nat.reduceEqDiff, not_false_eq_true, gd, nth, want_free, want_slot, beqB, List.map_cons, List.map_nil, Array.toList_empty, List.nil_append, List.append_nil, List.cons_append]; done) | (simp only [sev_tmp, sev_const, sev_func, sg_eq, sg_ne, sp_n, sp_none, Nat.reduceLT, ne_eq, Nat.reduceEqDiff, not_false_eq_true, gd, nth, want_free, want_slot, beqB, List.map_cons, List.map_nil, Array.toList_empty, List.nil_append, List.append_nil, List.cons_append]; rfl)) (Con.mono (below_sack S3 (by omega) hn0 (m := ((stem + 1 : Nat) : Int)) (by omega)) ?_)
  rintro v A4 ⟨cnt, rfl, hcnt, k4, nx4, hnx4, S4⟩
  have hcnt : cnt ≤ stem := by omega
  refine Wo.run hc 1 rfl rfl rfl ?_
  simp (maxSteps := 2000000) only [List.drop_zero, List.drop_succ_cons, List.take_succ_cons, List.take_zero, sev_const, gd, want_free, rops, fx, Option.some.injEq, exists_eq_left', Nat.reduceAdd]
  refine Wo.done hc rfl (hK _ _ ?_)
  clear hK
  (repeat (first | refine Rn.seq hc ?_ | refine Rn.skip hc ?_ | refine Rn.block hc ?_ | refine Rn.inBlock hc ?_ | refine Rn.scope hc ?_ | refine Rn.inScope hc ?_))
  have l1 : Canon.look A4.objs A.next = _ := (k4.keep _ (by omega) (by omega)).trans l1
  have l2 : Canon.look A4.objs (A.next + 1) = _ := (k4.keep _ (by omega) (by omega)).trans l2
  have K4 : Kb b A A4 := K3.trans k4
  have n4 : A.next + 2 ≤ A4.next := by have := k4.next; omega
  refine Rn.loopI hc (I := fun k s A' => ∃ sa, ∃ st : List Int, ∃ nx', k = cnt - st.length ∧ st.length ≤ cnt ∧ st.all (inB m) = true ∧ Kb b A A' ∧ nx' ≤ nx + 2 + st.length ∧ Sack A' b a n c lim nx' ∧ Canon.look A'.objs A.next = some ⟨.cells #[.int .i64 0, .slice none 0 0, .slice none 0 0] 24, false, 0⟩ ∧
      Canon.look A'.objs (A.next + 1) = some ⟨.cells #[.int .i64 (m : Int), .slice sa st.length st.length, .slice none 0 0] 24, false, 0⟩ ∧ Gr A' sa (A.next + 2) st ∧ A.next + 2 ≤ A'.next ∧
      s.n = 46 ∧ sget s 0 = .pointer (some ⟨b, 0, none⟩) ∧ sget s 3 = .int .i64 (round : Int) ∧ sget s 8 = .pointer (some ⟨A.next, 0, none⟩) ∧ sget s 9 = .pointer (some ⟨A.next + 1, 0, none⟩) ∧ sget s 10 = .int .i64 (r : Int) ∧ sget s 19 = .int .i64 (cnt : Int) ∧ sget s 20 = .int .i64 (st.length : Int))
    (n := cnt) ⟨none, [], nx4, rfl, Nat.zero_le _, rfl, K4, by simp; omega, S4, l1, l2, Gr.nil _ _, n4, by simp only [sp_n], by simp only [sg_eq, sg_ne, Nat.reduceLT, ne_eq, Nat.reduceEqDiff, not_false_eq_true], by simp only [sg_eq, sg_ne, sp_n, Nat.reduceLT, ne_eq, Nat.reduceEqDiff, not_false_eq_true], by simp only [sg_eq, sg_ne, sp_n, Nat.reduceLT, ne_eq, Nat.reduceEqDiff, not_false_eq_true], by simp only [sg_eq, sg_ne, sp_n, Nat.reduceLT, ne_eq, Nat.reduceEqDiff, not_false_eq_true, hn1], by simp only [sg_eq, sg_ne, sp_n, Nat.reduceLT, ne_eq, Nat.reduceEqDiff, not_false_eq_true], by simp only [sg_eq, sg_ne, sp_n, Nat.reduceLT, ne_eq, Nat.reduceEqDiff, not_false_eq_true], by simp only [sg_eq, sp_n, Nat.reduceLT]; rfl⟩ ?_
  clear l1 l2 K4 n4 S4 k4 S3 k3 K3 n3 S2 hx02 hx2 p2 hn2 hnx4 hnx3
  clear hn1 hx1 e1
  rintro k s A' ⟨sa, st, nx', rfl, hle, hin, K', hnx', S', l1, l2, hg, hn', hn, s0, s3, s8, s9, s10, s19, s20⟩ ih
  (repeat (first | refine Rn.seq hc ?_ | refine Rn.skip hc ?_ | refine Rn.block hc ?_ | refine Rn.inBlock hc ?_ | refine Rn.scope hc ?_ | refine Rn.inScope hc ?_))
  have hd0 : (max 1 (r : Int)) = (r : Int) := by omega
  by_cases hlt : st.length < cnt
  · have hd : decide ((st.length : Int) < (cnt : Int)) = true := by simp; omega
    refine Rn.reg hc rfl ?_
    simp only [sev_tmp, gd, want_free, rops, fx, bin_lss, Option.some.injEq, exists_eq_left', s19, s20, hd]
    (repeat (first | refine Rn.seq hc ?_ | refine Rn.skip hc ?_ | refine Rn.block hc ?_ | refine Rn.inBlock hc ?_ | refine Rn.scope hc ?_ | refine Rn.inScope hc ?_))
    refine Rn.condE hc rfl ?_
    simp only [sev_tmp, sg_eq, Nat.reduceLT, Value.bool.injEq, exists_eq_left', hn]
    (repeat (first | refine Rn.seq hc ?_ | refine Rn.skip hc ?_ | refine Rn.block hc ?_ | refine Rn.inBlock hc ?_ | refine Rn.scope hc ?_ | refine Rn.inScope hc ?_))
    have c1 : cl A' (A.next + 1) 1 = some (.slice sa st.length st.length) := by rw [cl_of l2 rfl]; rfl
    obtain ⟨F, hF, hF'⟩ : ∃ F : AHeap → Prop, (∀ M, F M → cl M (A.next + 1) 1 = some (.slice sa st.length st.length)) ∧ (∀ M, Canon.look M.objs (A.next + 1) = Canon.look A'.objs (A.next + 1) → F M) :=
      ⟨fun M => cl M (A.next + 1) 1 = some (.slice sa st.length st.length), fun _ h => h, fun M e => (cl_look e).trans c1⟩
    have hb : b < A.next := hbA
    have hxB : Nx A'.next A' (bump A' 9) := Nx.bump (Nx.refl S'.wf _) 9
    have FB := hF' (bump A' 9) rfl
    have SB : Sack (bump A' 9) b a n c lim nx' := S'.same hxB.wf fun _ _ => rfl
    refine Rn.drawnL hc hx (bS b a n c lim nx' r) F (E := [4, 5, 6]) (n := 8) (k := 9) (by kernel_rfl) (by kernel_rfl) (by rfl) (by kernel_rfl) ?_
    refine DrL.read (by first | rfl | kernel_rfl) (by first | rfl | (simp only [sev_tmp, sev_const, sev_func, sg_eq, sg_ne, sp_n, sp_none, Nat.reduceLT, ne_eq, Nat.reduceEqDiff, not_false_eq_true, gd, nth, want_free, want_slot, beqB, List.map_cons, List.map_nil, Array.toList_empty, List.nil_append, List.append_nil, List.cons_append, hn, s0, s9, s10, hF M hM]; done) | (simp only [sev_tmp, sev_const, sev_func, sg_eq, sg_ne, sp_n, sp_none, Nat.reduceLT, ne_eq, Nat.reduceEqDiff, not_false_eq_true, gd, nth, want_free, want_slot, beqB, List.map_cons, List.map_nil, Array.toList_empty, List.nil_append, List.append_nil, List.cons_append, hn, s0, s9, s10, hF M hM]; rfl)) (by assumption) (fun M hM => by simp only [sev_tmp, sg_ne, ne_eq, Nat.reduceEqDiff, not_false_eq_true, fx, fad, adr_p, Nat.zero_add, fo24_1, s9] <;> rfl) (by rfl) (by first | exact VQ.int _ _ | exact VQ.bool _ | exact VQ.ptr _ _ | exact VQ.slice _ _ _ | exact VQ.func (by simp [vq_int, vq_ptr, vq_slice]) (by simp [vq_int, vq_ptr, vq_slice]) | exact VQ.agg (by simp [vq_int, vq_ptr, vq_slice]) | exact VQ.tuple (by simp [vq_int, vq_ptr, vq_slice])) ?_
    refine DrL.read (by first | rfl | kernel_rfl) (by first | rfl | (simp only [sev_tmp, sev_const, sev_func, sg_eq, sg_ne, sp_n, sp_none, Nat.reduceLT, ne_eq, Nat.reduceEqDiff, not_false_eq_true, gd, nth, want_free, want_slot, beqB, List.map_cons, List.map_nil, Array.toList_empty, List.nil_append, List.append_nil, List.cons_append, hn, s0, s9, s10, hF M hM]; done) | (simp only [sev_tmp, sev_const, sev_func, sg_eq, sg_ne, sp_n, sp_none, Nat.reduceLT, ne_eq, Nat.reduceEqDiff, not_false_eq_true, gd, nth, want_free, want_slot, beqB, List.map_cons, List.map_nil, Array.toList_empty, List.nil_append, List.append_nil, List.cons_append, hn, s0, s9, s10, hF M hM]; rfl)) (by assumption) (fun M hM => by simp only [sev_tmp, sg_eq, sp_n, Nat.reduceLT, fx, ld, adr_p, tk22, hn, hF M hM] <;> rfl) (by rfl) (by first | exact VQ.int _ _ | exact VQ.bool _ | exact VQ.ptr _ _ | exact VQ.slice _ _ _ | exact VQ.func (by simp [vq_int, vq_ptr, vq_slice]) (by simp [vq_int, vq_ptr, vq_slice]) | exact VQ.agg (by simp [vq_int, vq_ptr, vq_slice]) | exact VQ.tuple (by simp [vq_int, vq_ptr, vq_slice])) ?_
    refine DrL.read (by first | rfl | kernel_rfl) (by first | rfl | (simp only [sev_tmp, sev_const, sev_func, sg_eq, sg_ne, sp_n, sp_none, Nat.reduceLT, ne_eq, Nat.reduceEqDiff, not_false_eq_true, gd, nth, want_free, want_slot, beqB, List.map_cons, List.map_nil, Array.toList_empty, List.nil_append, List.append_nil, List.cons_append, hn, s0, s9, s10, hF M hM]; done) | (simp only [sev_tmp, sev_const, sev_func, sg_eq, sg_ne, sp_n, sp_none, Nat.reduceLT, ne_eq, Nat.reduceEqDiff, not_false_eq_true, gd, nth, want_free, want_slot, beqB, List.map_cons, List.map_nil, Array.toList_empty, List.nil_append, List.append_nil, List.cons_append, hn, s0, s9, s10, hF M hM]; rfl)) (by assumption) (fun M hM => by simp only [sev_tmp, sg_ne, ne_eq, Nat.reduceEqDiff, not_false_eq_true, fx, s0] <;> rfl) (by rfl) (by first | exact VQ.int _ _ | exact VQ.bool _ | exact VQ.ptr _ _ | exact VQ.slice _ _ _ | exact VQ.func (by simp [vq_int, vq_ptr, vq_slice]) (by simp [vq_int, vq_ptr, vq_slice]) | exact VQ.agg (by simp [vq_int, vq_ptr, vq_slice]) | exact VQ.tuple (by simp [vq_int, vq_ptr, vq_slice])) ?_
    refine DrL.read (by first | rfl | kernel_rfl) (by first | rfl | (simp only [sev_tmp, sev_const, sev_func, sg_eq, sg_ne, sp_n, sp_none, Nat.reduceLT, ne_eq, Nat.reduceEqDiff, not_false_eq_true, gd, nth, want_free, want_slot, beqB, List.map_cons, List.map_nil, Array.toList_empty, List.nil_append, List.append_nil, List.cons_append, hn, s0, s9, s10, hF M hM]; done) | (simp only [sev_tmp, sev_const, sev_func, sg_eq, sg_ne, sp_n, sp_none, Nat.reduceLT, ne_eq, Nat.reduceEqDiff, not_false_eq_true, gd, nth, want_free, want_slot, beqB, List.map_cons, List.map_nil, Array.toList_empty, List.nil_append, List.append_nil, List.cons_append, hn, s0, s9, s10, hF M hM]; rfl)) (by assumption) (fun M hM => by simp only [sev_tmp, sg_ne, ne_eq, Nat.reduceEqDiff, not_false_eq_true, fx, s10] <;> rfl) (by rfl) (by first | exact VQ.int _ _ | exact VQ.bool _ | exact VQ.ptr _ _ | exact VQ.slice _ _ _ | exact VQ.func (by simp [vq_int, vq_ptr, vq_slice]) (by simp [vq_int, vq_ptr, vq_slice]) | exact VQ.agg (by simp [vq_int, vq_ptr, vq_slice]) | exact VQ.tuple (by simp [vq_int, vq_ptr, vq_slice])) ?_
    refine DrL.call (by kernel_rfl) (by rfl) (by assumption) (by rfl) (opRun_call (by rfl) ⟨by rfl, by rfl⟩ (by rfl) (xs := [.pointer (some ⟨b, 0, none⟩), .int .i64 (r : Int)]) (by simp only [sev_tmp, sg_eq, sg_ne, sp_n, Nat.reduceLT, ne_eq, Nat.reduceEqDiff, not_false_eq_true, List.map_cons, List.map_nil, List.nil_append, List.append_nil, hn]) (below_sack SB (by omega) hn0 (m := (r : Int)) (by omega))) ?_
    rintro v B1 ⟨x, rfl, hx1, k1, nx1, hnx1, S1⟩
    have L1 : Canon.look B1.objs (A.next + 1) = Canon.look A'.objs (A.next + 1) := k1.keep _ (by rw [bump_next]; omega) (by omega)
    have F1 := hF' _ L1
    refine DrL.float (by rfl) (by rfl) (by rfl) (fb22_1 (v := .int .i64 (x : Int)) (by simp only [sev_tmp, sg_eq, sp_n, Nat.reduceLT, hn]) rfl) ?_
    have hnb : Canon.look B1.objs (A'.next + 5) = none := by rw [k1.keep _ (by rw [bump_next]; omega) (by omega)]; exact S'.wf.none (by omega)
    obtain ⟨B2, p1, hxB2, eB2, lB2, kB2⟩ := place_row (N := 0) (Nx.refl k1.wf 0) (b := A'.next + 5) (Nat.zero_le _) (by have := k1.next; rw [bump_next] at this; omega) hnb [.int .i64 (x : Int)] 3 1 1
    have F2 := hF' B2 ((kB2 _ (by omega)).trans L1)
    have hg1 : Gr B1 sa (A.next + 2) st := (hg.nx (n := 0) S'.wf hxB).kb hxB.wf k1 (by omega)
    have hg2 : Gr B2 sa (A.next + 2) st := hg1.ext (Nat.le_of_eq eB2.symm) fun b' hb' => by
      by_cases hbb : b' = A'.next + 5
      · exact .inl (hbb ▸ hnb)
      · exact .inr (kB2 _ hbb)
    obtain ⟨B3, q1, n3, w3, hg3, kp3, _⟩ := gr_push hxB2.wf hg2 (a2 := some ⟨A'.next + 5, 0, none⟩) (c2 := 1) (b2 := A'.next + 5) (x := (x : Int)) rfl (by rw [cl_of lB2 rfl]; rfl) (by omega)
    have nB2 : A.next + 2 ≤ B2.next := by have := k1.next; rw [bump_next] at this; omega
    have hbase : ∀ b', b' < A.next + 2 → ∀ y, sa = some y → y.block ≠ b' := fun b' hb' y hy => by
      obtain ⟨_, q, _⟩ := hg2.sl y hy
      omega
    have L3 : ∀ b', b' < A.next + 2 → b' ≠ b → Canon.look B3.objs b' = Canon.look A'.objs b' := fun b' hb' hne => by
      rw [kp3 b' (by omega) (hbase b' hb'), kB2 _ (by omega), k1.keep _ (by rw [bump_next]; omega) hne]
      rfl
    have F3 := hF' B3 (L3 _ (by omega) (by omega))
    refine DrL.eff (by rfl) (by rfl) (pd1 := [(5, ⟨[.int .i64 (x : Int)], 3, .sl 1 1⟩)]) (pd2 := []) (by kernel_rfl) (by kernel_rfl) (ms0 := [B1]) (A0 := B2) (by simp only [placeAll, p1]) (fun M hM => by rw [List.mem_singleton] at hM; rw [hM]; exact F1) F2 (by rfl)
      (v := .slice (some ⟨B2.next, 0, none⟩) (st.length + 1) (st.length + 1)) (A1 := B3) (opRun_op rfl (by simp only [sev_tmp, sg_eq, sg_ne, sp_n, Nat.reduceLT, ne_eq, Nat.reduceEqDiff, not_false_eq_true, Nat.zero_add, Nat.reduceAdd, hn, ae_apd, apd_slice, FK.val]; exact q1)) ?_
    refine DrL.read (by first | rfl | kernel_rfl) (by first | rfl | (simp only [sev_tmp, sev_const, sev_func, sg_eq, sg_ne, sp_n, sp_none, Nat.reduceLT, ne_eq, Nat.reduceEqDiff, not_false_eq_true, gd, nth, want_free, want_slot, beqB, List.map_cons, List.map_nil, Array.toList_empty, List.nil_append, List.append_nil, List.cons_append, hn, s9]; done) | (simp only [sev_tmp, sev_const, sev_func, sg_eq, sg_ne, sp_n, sp_none, Nat.reduceLT, ne_eq, Nat.reduceEqDiff, not_false_eq_true, gd, nth, want_free, want_slot, beqB, List.map_cons, List.map_nil, Array.toList_empty, List.nil_append, List.append_nil, List.cons_append, hn, s9]; rfl)) (by assumption) (fun M hM => by simp only [sev_tmp, sg_ne, ne_eq, Nat.reduceEqDiff, not_false_eq_true, fx, fad, adr_p, Nat.zero_add, Nat.reduceAdd, fo24_1, s9] <;> rfl) (by rfl) (by first | exact VQ.int _ _ | exact VQ.bool _ | exact VQ.ptr _ _ | exact VQ.slice _ _ _ | exact VQ.func (by simp [vq_int, vq_ptr, vq_slice]) (by simp [vq_int, vq_ptr, vq_slice]) | exact VQ.agg (by simp [vq_int, vq_ptr, vq_slice]) | exact VQ.tuple (by simp [vq_int, vq_ptr, vq_slice])) ?_
    have l3 : Canon.look B3.objs (A.next + 1) = _ := (L3 _ (by omega) (by omega)).trans l2
    obtain ⟨B4, u1, u2⟩ := st1_upd (o := 1) (v := .slice (some ⟨B2.next, 0, none⟩) (st.length + 1) (st.length + 1)) l3 rfl (by simp) rfl
    refine DrL.eff (by rfl) (by rfl) (pd1 := []) (pd2 := []) (by kernel_rfl) (by kernel_rfl) (ms0 := []) (A0 := B3) rfl (fun _ h => by cases h) F3 (by rfl) (v := undef) (A1 := B4) (opRun_op rfl (fx_ok (by rfl) (by simp only [sev_tmp, sg_eq, sg_ne, sp_n, Nat.reduceLT, ne_eq, Nat.reduceEqDiff, not_false_eq_true, fx, str, adr_p, Nat.zero_add, Nat.reduceAdd, tk22, hn, u1]))) ?_
    refine DrL.nil ⟨by rfl, B4, by rfl, ?_⟩
    (repeat (first | refine Rn.seq hc ?_ | refine Rn.skip hc ?_ | refine Rn.block hc ?_ | refine Rn.inBlock hc ?_ | refine Rn.scope hc ?_ | refine Rn.inScope hc ?_))
    refine Rn.reg hc rfl ?_
    simp only [sev_tmp, sev_const, sg_eq, sg_ne, sp_n, sp_none, Nat.reduceLT, ne_eq, Nat.reduceEqDiff, not_false_eq_true, gd, want_free, rops, fx, bin_add, Nat.zero_add, Option.some.injEq, exists_eq_left', Nat.reduceAdd, hn, s20, wrap_succ (show st.length < 9223372036854775807 by omega)]
    (repeat (first | refine Rn.seq hc ?_ | refine Rn.skip hc ?_ | refine Rn.block hc ?_ | refine Rn.inBlock hc ?_ | refine Rn.scope hc ?_ | refine Rn.inScope hc ?_))
    have l4 : Canon.look B4.objs (A.next + 1) = some ⟨.cells #[.int .i64 (m : Int), .slice (some ⟨B2.next, 0, none⟩) (st.length + 1) (st.length + 1), .slice none 0 0] 24, false, 0⟩ := by
      obtain ⟨c, t, f, g, e, r1, r2, _⟩ := u2.at'
      rw [l3] at r1
      cases r1
      exact r2
    have hL4 : ∀ b', b' ≠ A.next + 1 → Canon.look B4.objs b' = Canon.look B3.objs b' := u2.off
    have hw4 : WF B4 := (u2.nx w3 (Nat.zero_le _)).wf
    have hlen : (st ++ [(x : Int)]).length = st.length + 1 := by simp
    refine ih _ _ _ (by rw [show cnt - st.length = cnt - (st.length + 1) + 1 by omega]; exact Nat.lt_succ_self _) ⟨some ⟨B2.next, 0, none⟩, st ++ [(x : Int)], nx1, by rw [hlen], by rw [hlen]; omega, ?_, ⟨by have := K'.next; have := k1.next; rw [bump_next] at this; have := u2.next; omega, hw4, fun b' hb' hne => ?_⟩, by rw [hlen]; omega, S1.same hw4 fun b' hb' => ?_, ?_, by rw [hlen]; exact l4, ?_, by have := u2.next; omega, by simp only [sp_n, hn], by simp only [sg_ne, ne_eq, Nat.reduceEqDiff, not_false_eq_true, s0], by simp only [sg_ne, ne_eq, Nat.reduceEqDiff, not_false_eq_true, s3], by simp only [sg_ne, ne_eq, Nat.reduceEqDiff, not_false_eq_true, s8], by simp only [sg_ne, ne_eq, Nat.reduceEqDiff, not_false_eq_true, s9], by simp only [sg_ne, ne_eq, Nat.reduceEqDiff, not_false_eq_true, s10], by simp only [sg_ne, ne_eq, Nat.reduceEqDiff, not_false_eq_true, s19], by simp only [sg_eq, sp_n, Nat.reduceLT, hn, hlen]⟩
    · rw [List.all_append, hin]
      simp [inB]
      omega
    · rw [hL4 _ (by omega), L3 _ (by omega) hne]
      exact K'.keep _ hb' hne
    · rw [hL4 _ (by omega), kp3 b' (by omega) (hbase b' (by omega)), kB2 _ (by omega)]
    · rw [hL4 _ (by omega), L3 _ (by omega) (by omega)]
      exact l1
    · exact (hg3.off u2 (by omega)).mono (by omega)
  · have hd : decide ((st.length : Int) < (cnt : Int)) = false := by simp; omega
    clear ih
    refine Rn.reg hc rfl ?_
    simp only [sev_tmp, gd, want_free, rops, fx, bin_lss, Option.some.injEq, exists_eq_left', s19, s20, hd]
    (repeat (first | refine Rn.seq hc ?_ | refine Rn.skip hc ?_ | refine Rn.block hc ?_ | refine Rn.inBlock hc ?_ | refine Rn.scope hc ?_ | refine Rn.inScope hc ?_))
    refine Rn.condE hc rfl ?_
    simp only [sev_tmp, sg_eq, Nat.reduceLT, Value.bool.injEq, exists_eq_left', hn]
    (repeat (first | refine Rn.seq hc ?_ | refine Rn.skip hc ?_ | refine Rn.block hc ?_ | refine Rn.inBlock hc ?_ | refine Rn.scope hc ?_ | refine Rn.inScope hc ?_))
    refine Rn.exit hc rfl ?_
    (repeat (first | refine Rn.seq hc ?_ | refine Rn.skip hc ?_ | refine Rn.block hc ?_ | refine Rn.inBlock hc ?_ | refine Rn.scope hc ?_ | refine Rn.inScope hc ?_))
    refine Rn.region hc fun K hK => ?_
    refine Wo.run hc 2 rfl rfl rfl ?_
    simp (maxSteps := 2000000) only [List.drop_zero, List.take_succ_cons, List.take_zero, sev_tmp, sg_ne, ne_eq, Nat.reduceEqDiff, not_false_eq_true, gd, want_free, rops, fx, Nat.zero_add, Option.some.injEq, exists_eq_left', s0, s3]
    refine Wo.call hc (by rfl) (by rfl) ⟨by rfl, by rfl⟩ (xs := [.pointer (some ⟨b, 0, none⟩), .int .i64 ((1 : Nat) : Int), .int .i64 (round : Int)]) (by first | rfl | (simp only [sev_tmp, sev_const, sev_func, sg_eq, sg_ne, sp_n, sp_none, Nat.reduceLT, ne_eq, Nat.reduceEqDiff, not_false_eq_true, gd, nth, want_free, want_slot, beqB, List.map_cons, List.map_nil, Array.toList_empty, List.nil_append, List.append_nil, List.cons_append, hn]; done) | (simp only [sev_tmp, sev_const, sev_func, sg_eq, sg_ne, sp_n, sp_none, Nat.reduceLT, ne_eq, Nat.reduceEqDiff, not_false_eq_true, gd, nth, want_free, want_slot, beqB, List.map_cons, List.map_nil, Array.toList_empty, List.nil_append, List.append_nil, List.cons_append, hn]; rfl)) (by first | rfl | (simp only [sev_tmp, sev_const, sev_func, sg_eq, sg_ne, sp_n, sp_none, Nat.reduceLT, ne_eq, Nat.reduceEqDiff, not_false_eq_true, gd, nth, want_free, want_slot, beqB, List.map_cons, List.map_nil, Array.toList_empty, List.nil_append, List.append_nil, List.cons_append, hn]; done) | (simp only [sev_tmp, sev_const, sev_func, sg_eq, sg_ne, sp_n, sp_none, Nat.reduceLT, ne_eq, Nat.reduceEqDiff, not_false_eq_true, gd, nth, want_free, want_slot, beqB, List.map_cons, List.map_nil, Array.toList_empty, List.nil_append, List.append_nil, List.cons_append, hn]; rfl)) (by first | rfl | (simp only [sev_tmp, sev_const, sg_eq, sg_ne, sp_n, Nat.reduceLT, ne_eq, Nat.reduceEqDiff, not_false_eq_true, List.map_cons, List.map_nil, List.nil_append, List.append_nil, hn]; done) | (simp only [sev_tmp, sev_const, sg_eq, sg_ne, sp_n, Nat.reduceLT, ne_eq, Nat.reduceEqDiff, not_false_eq_true, List.map_cons, List.map_nil, List.nil_append, List.append_nil, hn]; rfl)) (Con.mono (among_sack S' (by omega) hn0 (lo := 1) (hi := round) hro.1 (by omega)) ?_)
    rintro v A5 ⟨cnt2, rfl, cr1, cr2, k5, nx5, hnx5, S5⟩
    refine Wo.run hc 1 rfl rfl rfl ?_
    simp (maxSteps := 2000000) only [List.drop_zero, List.drop_succ_cons, List.take_succ_cons, List.take_zero, sev_const, gd, want_free, rops, fx, Option.some.injEq, exists_eq_left', Nat.reduceAdd]
    refine Wo.done hc rfl (hK _ _ ?_)
    clear hK
    (repeat (first | refine Rn.seq hc ?_ | refine Rn.skip hc ?_ | refine Rn.block hc ?_ | refine Rn.inBlock hc ?_ | refine Rn.scope hc ?_ | refine Rn.inScope hc ?_))
    have l1 : Canon.look A5.objs A.next = _ := (k5.keep _ (by omega) (by omega)).trans l1
    have l2 : Canon.look A5.objs (A.next + 1) = _ := (k5.keep _ (by omega) (by omega)).trans l2
    have K5 : Kb b A A5 := K'.trans k5
    have n5 : A.next + 2 ≤ A5.next := by have := k5.next; omega
    have hg5 : Gr A5 sa (A.next + 2) st := hg.kb S'.wf k5 (by omega)
    have hnx5 : nx5 ≤ nx + 3 + stem := by omega
    have wf5 := S5.wf
    refine Rn.loopI hc (I := fun k s A' => ∃ ra, ∃ ro : List Int, ∃ nx', k = cnt2 - ro.length ∧ ro.length ≤ cnt2 ∧ ro.all (inB m) = true ∧ Kb b A A' ∧ nx' ≤ nx + 3 + stem + ro.length ∧ Sack A' b a n c lim nx' ∧ Canon.look A'.objs A.next = some ⟨.cells #[.int .i64 0, .slice none 0 0, .slice none 0 0] 24, false, 0⟩ ∧
        Canon.look A'.objs (A.next + 1) = some ⟨.cells #[.int .i64 (m : Int), .slice sa st.length st.length, .slice ra ro.length ro.length] 24, false, 0⟩ ∧ (∀ b', b' < A5.next → b' ≠ b → b' ≠ A.next + 1 → Canon.look A'.objs b' = Canon.look A5.objs b') ∧ Gr A' ra A5.next ro ∧ A5.next ≤ A'.next ∧
        s.n = 46 ∧ sget s 0 = .pointer (some ⟨b, 0, none⟩) ∧ sget s 8 = .pointer (some ⟨A.next, 0, none⟩) ∧ sget s 9 = .pointer (some ⟨A.next + 1, 0, none⟩) ∧ sget s 10 = .int .i64 (r : Int) ∧ sget s 33 = .int .i64 (cnt2 : Int) ∧ sget s 34 = .int .i64 (ro.length : Int))
      (n := cnt2) ⟨none, [], nx5, rfl, Nat.zero_le _, rfl, K5, by simp; omega, S5, l1, l2, fun _ _ _ _ => rfl, Gr.nil _ _, Nat.le_refl _, by simp only [sp_n, hn], by simp only [sg_ne, ne_eq, Nat.reduceEqDiff, not_false_eq_true, s0], by simp only [sg_ne, ne_eq, Nat.reduceEqDiff, not_false_eq_true, s8], by simp only [sg_ne, ne_eq, Nat.reduceEqDiff, not_false_eq_true, s9], by simp only [sg_ne, ne_eq, Nat.reduceEqDiff, not_false_eq_true, s10], by simp only [sg_eq, sg_ne, sp_n, Nat.reduceLT, ne_eq, Nat.reduceEqDiff, not_false_eq_true, hn], by simp only [sg_eq, sp_n, Nat.reduceLT, hn]; rfl⟩ ?_
    clear hn s0 s3 s8 s9 s10 s19 s20 l1 l2 K5 S5 k5 hg hn' S' K' hnx'
    clear hd
    rintro k s A' ⟨ra, ro, nx', rfl, hle2, hin2, K', hnx', S', l1, l2, kp5, hg, hn', hn, s0, s8, s9, s10, s33, s34⟩ ih
    (repeat (first | refine Rn.seq hc ?_ | refine Rn.skip hc ?_ | refine Rn.block hc ?_ | refine Rn.inBlock hc ?_ | refine Rn.scope hc ?_ | refine Rn.inScope hc ?_))
    by_cases hlt : ro.length < cnt2
    · have hd : decide ((ro.length : Int) < (cnt2 : Int)) = true := by simp; omega
      refine Rn.reg hc rfl ?_
      simp only [sev_tmp, gd, want_free, rops, fx, bin_lss, Option.some.injEq, exists_eq_left', s33, s34, hd]
      (repeat (first | refine Rn.seq hc ?_ | refine Rn.skip hc ?_ | refine Rn.block hc ?_ | refine Rn.inBlock hc ?_ | refine Rn.scope hc ?_ | refine Rn.inScope hc ?_))
      refine Rn.condE hc rfl ?_
      simp only [sev_tmp, sg_eq, Nat.reduceLT, Value.bool.injEq, exists_eq_left', hn]
      (repeat (first | refine Rn.seq hc ?_ | refine Rn.skip hc ?_ | refine Rn.block hc ?_ | refine Rn.inBlock hc ?_ | refine Rn.scope hc ?_ | refine Rn.inScope hc ?_))
      have c1 : cl A' (A.next + 1) 2 = some (.slice ra ro.length ro.length) := by rw [cl_of l2 rfl]; rfl
      obtain ⟨F, hF, hF'⟩ : ∃ F : AHeap → Prop, (∀ M, F M → cl M (A.next + 1) 2 = some (.slice ra ro.length ro.length)) ∧ (∀ M, Canon.look M.objs (A.next + 1) = Canon.look A'.objs (A.next + 1) → F M) :=
        ⟨fun M => cl M (A.next + 1) 2 = some (.slice ra ro.length ro.length), fun _ h => h, fun M e => (cl_look e).trans c1⟩
      have hb : b < A.next := hbA
      have hxB : Nx A'.next A' (bump A' 9) := Nx.bump (Nx.refl S'.wf _) 9
      have FB := hF' (bump A' 9) rfl
      have SB : Sack (bump A' 9) b a n c lim nx' := S'.same hxB.wf fun _ _ => rfl
      refine Rn.drawnL hc hx (bS b a n c lim nx' r) F (E := [4, 5, 6]) (n := 8) (k := 9) (by kernel_rfl) (by kernel_rfl) (by rfl) (by kernel_rfl) ?_
      refine DrL.read (by first | rfl | kernel_rfl) (by first | rfl | (simp only [sev_tmp, sev_const, sev_func, sg_eq, sg_ne, sp_n, sp_none, Nat.reduceLT, ne_eq, Nat.reduceEqDiff, not_false_eq_true, gd, nth, want_free, want_slot, beqB, List.map_cons, List.map_nil, Array.toList_empty, List.nil_append, List.append_nil, List.cons_append, hn, s0, s9, s10, hF M hM]; done) | (simp only [sev_tmp, sev_const, sev_func, sg_eq, sg_ne, sp_n, sp_none, Nat.reduceLT, ne_eq, Nat.reduceEqDiff, not_false_eq_true, gd, nth, want_free, want_slot, beqB, List.map_cons, List.map_nil, Array.toList_empty, List.nil_append, List.append_nil, List.cons_append, hn, s0, s9, s10, hF M hM]; rfl)) (by assumption) (fun M hM => by simp only [sev_tmp, sg_ne, ne_eq, Nat.reduceEqDiff, not_false_eq_true, fx, fad, adr_p, Nat.zero_add, fo24_2, s9] <;> rfl) (by rfl) (by first | exact VQ.int _ _ | exact VQ.bool _ | exact VQ.ptr _ _ | exact VQ.slice _ _ _ | exact VQ.func (by simp [vq_int, vq_ptr, vq_slice]) (by simp [vq_int, vq_ptr, vq_slice]) | exact VQ.agg (by simp [vq_int, vq_ptr, vq_slice]) | exact VQ.tuple (by simp [vq_int, vq_ptr, vq_slice])) ?_
      refine DrL.read (by first | rfl | kernel_rfl) (by first | rfl | (simp only [sev_tmp, sev_const, sev_func, sg_eq, sg_ne, sp_n, sp_none, Nat.reduceLT, ne_eq, Nat.reduceEqDiff, not_false_eq_true, gd, nth, want_free, want_slot, beqB, List.map_cons, List.map_nil, Array.toList_empty, List.nil_append, List.append_nil, List.cons_append, hn, s0, s9, s10, hF M hM]; done) | (simp only [sev_tmp, sev_const, sev_func, sg_eq, sg_ne, sp_n, sp_none, Nat.reduceLT, ne_eq, Nat.reduceEqDiff, not_false_eq_true, gd, nth, want_free, want_slot, beqB, List.map_cons, List.map_nil, Array.toList_empty, List.nil_append, List.append_nil, List.cons_append, hn, s0, s9, s10, hF M hM]; rfl)) (by assumption) (fun M hM => by simp only [sev_tmp, sg_eq, sp_n, Nat.reduceLT, fx, ld, adr_p, tk22, hn, hF M hM] <;> rfl) (by rfl) (by first | exact VQ.int _ _ | exact VQ.bool _ | exact VQ.ptr _ _ | exact VQ.slice _ _ _ | exact VQ.func (by simp [vq_int, vq_ptr, vq_slice]) (by simp [vq_int, vq_ptr, vq_slice]) | exact VQ.agg (by simp [vq_int, vq_ptr, vq_slice]) | exact VQ.tuple (by simp [vq_int, vq_ptr, vq_slice])) ?_
      refine DrL.read (by first | rfl | kernel_rfl) (by first | rfl | (simp only [sev_tmp, sev_const, sev_func, sg_eq, sg_ne, sp_n, sp_none, Nat.reduceLT, ne_eq, Nat.reduceEqDiff, not_false_eq_true, gd, nth, want_free, want_slot, beqB, List.map_cons, List.map_nil, Array.toList_empty, List.nil_append, List.append_nil, List.cons_append, hn, s0, s9, s10, hF M hM]; done) | (simp only [sev_tmp, sev_const, sev_func, sg_eq, sg_ne, sp_n, sp_none, Nat.reduceLT, ne_eq, Nat.reduceEqDiff, not_false_eq_true, gd, nth, want_free, want_slot, beqB, List.map_cons, List.map_nil, Array.toList_empty, List.nil_append, List.append_nil, List.cons_append, hn, s0, s9, s10, hF M hM]; rfl)) (by assumption) (fun M hM => by simp only [sev_tmp, sg_ne, ne_eq, Nat.reduceEqDiff, not_false_eq_true, fx, s0] <;> rfl) (by rfl) (by first | exact VQ.int _ _ | exact VQ.bool _ | exact VQ.ptr _ _ | exact VQ.slice _ _ _ | exact VQ.func (by simp [vq_int, vq_ptr, vq_slice]) (by simp [vq_int, vq_ptr, vq_slice]) | exact VQ.agg (by simp [vq_int, vq_ptr, vq_slice]) | exact VQ.tuple (by simp [vq_int, vq_ptr, vq_slice])) ?_
      refine DrL.read (by first | rfl | kernel_rfl) (by first | rfl | (simp only [sev_tmp, sev_const, sev_func, sg_eq, sg_ne, sp_n, sp_none, Nat.reduceLT, ne_eq, Nat.reduceEqDiff, not_false_eq_true, gd, nth, want_free, want_slot, beqB, List.map_cons, List.map_nil, Array.toList_empty, List.nil_append, List.append_nil, List.cons_append, hn, s0, s9, s10, hF M hM]; done) | (simp only [sev_tmp, sev_const, sev_func, sg_eq, sg_ne, sp_n, sp_none, Nat.reduceLT, ne_eq, Nat.reduceEqDiff, not_false_eq_true, gd, nth, want_free, want_slot, beqB, List.map_cons, List.map_nil, Array.toList_empty, List.nil_append, List.append_nil, List.cons_append, hn, s0, s9, s10, hF M hM]; rfl)) (by assumption) (fun M hM => by simp only [sev_tmp, sg_ne, ne_eq, Nat.reduceEqDiff, not_false_eq_true, fx, s10] <;> rfl) (by rfl) (by first | exact VQ.int _ _ | exact VQ.bool _ | exact VQ.ptr _ _ | exact VQ.slice _ _ _ | exact VQ.func (by simp [vq_int, vq_ptr, vq_slice]) (by simp [vq_int, vq_ptr, vq_slice]) | exact VQ.agg (by simp [vq_int, vq_ptr, vq_slice]) | exact VQ.tuple (by simp [vq_int, vq_ptr, vq_slice])) ?_
      refine DrL.call (by kernel_rfl) (by rfl) (by assumption) (by rfl) (opRun_call (by rfl) ⟨by rfl, by rfl⟩ (by rfl) (xs := [.pointer (some ⟨b, 0, none⟩), .int .i64 (r : Int)]) (by simp only [sev_tmp, sg_eq, sg_ne, sp_n, Nat.reduceLT, ne_eq, Nat.reduceEqDiff, not_false_eq_true, List.map_cons, List.map_nil, List.nil_append, List.append_nil, hn]) (below_sack SB (by omega) hn0 (m := (r : Int)) (by omega))) ?_
      rintro v B1 ⟨x, rfl, hx1, k1, nx1, hnx1, S1⟩
      have L1 : Canon.look B1.objs (A.next + 1) = Canon.look A'.objs (A.next + 1) := k1.keep _ (by rw [bump_next]; omega) (by omega)
      have F1 := hF' _ L1
      refine DrL.float (by rfl) (by rfl) (by rfl) (fb22_1 (v := .int .i64 (x : Int)) (by simp only [sev_tmp, sg_eq, sp_n, Nat.reduceLT, hn]) rfl) ?_
      have hnb : Canon.look B1.objs (A'.next + 5) = none := by rw [k1.keep _ (by rw [bump_next]; omega) (by omega)]; exact S'.wf.none (by omega)
      obtain ⟨B2, p1, hxB2, eB2, lB2, kB2⟩ := place_row (N := 0) (Nx.refl k1.wf 0) (b := A'.next + 5) (Nat.zero_le _) (by have := k1.next; rw [bump_next] at this; omega) hnb [.int .i64 (x : Int)] 3 1 1
      have F2 := hF' B2 ((kB2 _ (by omega)).trans L1)
      have hg1 : Gr B1 ra A5.next ro := (hg.nx (n := 0) S'.wf hxB).kb hxB.wf k1 (by omega)
      have hg2 : Gr B2 ra A5.next ro := hg1.ext (Nat.le_of_eq eB2.symm) fun b' hb' => by
        by_cases hbb : b' = A'.next + 5
        · exact .inl (hbb ▸ hnb)
        · exact .inr (kB2 _ hbb)
      obtain ⟨B3, q1, n3, w3, hg3, kp3, _⟩ := gr_push hxB2.wf hg2 (a2 := some ⟨A'.next + 5, 0, none⟩) (c2 := 1) (b2 := A'.next + 5) (x := (x : Int)) rfl (by rw [cl_of lB2 rfl]; rfl) (by omega)
      have nB2 : A5.next ≤ B2.next := by have := k1.next; rw [bump_next] at this; omega
      have hbase : ∀ b', b' < A5.next → ∀ y, ra = some y → y.block ≠ b' := fun b' hb' y hy => by
        obtain ⟨_, q, _⟩ := hg2.sl y hy
        omega
      have L3 : ∀ b', b' < A5.next → b' ≠ b → Canon.look B3.objs b' = Canon.look A'.objs b' := fun b' hb' hne => by
        rw [kp3 b' (by omega) (hbase b' hb'), kB2 _ (by omega), k1.keep _ (by rw [bump_next]; omega) hne]
        rfl
      have F3 := hF' B3 (L3 _ (by omega) (by omega))
      refine DrL.eff (by rfl) (by rfl) (pd1 := [(5, ⟨[.int .i64 (x : Int)], 3, .sl 1 1⟩)]) (pd2 := []) (by kernel_rfl) (by kernel_rfl) (ms0 := [B1]) (A0 := B2) (by simp only [placeAll, p1]) (fun M hM => by rw [List.mem_singleton] at hM; rw [hM]; exact F1) F2 (by rfl)
        (v := .slice (some ⟨B2.next, 0, none⟩) (ro.length + 1) (ro.length + 1)) (A1 := B3) (opRun_op rfl (by simp only [sev_tmp, sg_eq, sg_ne, sp_n, Nat.reduceLT, ne_eq, Nat.reduceEqDiff, not_false_eq_true, Nat.zero_add, Nat.reduceAdd, hn, ae_apd, apd_slice, FK.val]; exact q1)) ?_
      refine DrL.read (by first | rfl | kernel_rfl) (by first | rfl | (simp only [sev_tmp, sev_const, sev_func, sg_eq, sg_ne, sp_n, sp_none, Nat.reduceLT, ne_eq, Nat.reduceEqDiff, not_false_eq_true, gd, nth, want_free, want_slot, beqB, List.map_cons, List.map_nil, Array.toList_empty, List.nil_append, List.append_nil, List.cons_append, hn, s9]; done) | (simp only [sev_tmp, sev_const, sev_func, sg_eq, sg_ne, sp_n, sp_none, Nat.reduceLT, ne_eq, Nat.reduceEqDiff, not_false_eq_true, gd, nth, want_free, want_slot, beqB, List.map_cons, List.map_nil, Array.toList_empty, List.nil_append, List.append_nil, List.cons_append, hn, s9]; rfl)) (by assumption) (fun M hM => by simp only [sev_tmp, sg_ne, ne_eq, Nat.reduceEqDiff, not_false_eq_true, fx, fad, adr_p, Nat.zero_add, Nat.reduceAdd, fo24_2, s9] <;> rfl) (by rfl) (by first | exact VQ.int _ _ | exact VQ.bool _ | exact VQ.ptr _ _ | exact VQ.slice _ _ _ | exact VQ.func (by simp [vq_int, vq_ptr, vq_slice]) (by simp [vq_int, vq_ptr, vq_slice]) | exact VQ.agg (by simp [vq_int, vq_ptr, vq_slice]) | exact VQ.tuple (by simp [vq_int, vq_ptr, vq_slice])) ?_
      have l3 : Canon.look B3.objs (A.next + 1) = _ := (L3 _ (by omega) (by omega)).trans l2
      obtain ⟨B4, u1, u2⟩ := st1_upd (o := 2) (v := .slice (some ⟨B2.next, 0, none⟩) (ro.length + 1) (ro.length + 1)) l3 rfl (by simp) rfl
      refine DrL.eff (by rfl) (by rfl) (pd1 := []) (pd2 := []) (by kernel_rfl) (by kernel_rfl) (ms0 := []) (A0 := B3) rfl (fun _ h => by cases h) F3 (by rfl) (v := undef) (A1 := B4) (opRun_op rfl (fx_ok (by rfl) (by simp only [sev_tmp, sg_eq, sg_ne, sp_n, Nat.reduceLT, ne_eq, Nat.reduceEqDiff, not_false_eq_true, fx, str, adr_p, Nat.zero_add, Nat.reduceAdd, tk22, hn, u1]))) ?_
      refine DrL.nil ⟨by rfl, B4, by rfl, ?_⟩
      (repeat (first | refine Rn.seq hc ?_ | refine Rn.skip hc ?_ | refine Rn.block hc ?_ | refine Rn.inBlock hc ?_ | refine Rn.scope hc ?_ | refine Rn.inScope hc ?_))
      refine Rn.reg hc rfl ?_
      simp only [sev_tmp, sev_const, sg_eq, sg_ne, sp_n, sp_none, Nat.reduceLT, ne_eq, Nat.reduceEqDiff, not_false_eq_true, gd, want_free, rops, fx, bin_add, Nat.zero_add, Option.some.injEq, exists_eq_left', Nat.reduceAdd, hn, s34, wrap_succ (show ro.length < 9223372036854775807 by omega)]
      (repeat (first | refine Rn.seq hc ?_ | refine Rn.skip hc ?_ | refine Rn.block hc ?_ | refine Rn.inBlock hc ?_ | refine Rn.scope hc ?_ | refine Rn.inScope hc ?_))
      have l4 : Canon.look B4.objs (A.next + 1) = some ⟨.cells #[.int .i64 (m : Int), .slice sa st.length st.length, .slice (some ⟨B2.next, 0, none⟩) (ro.length + 1) (ro.length + 1)] 24, false, 0⟩ := by
        obtain ⟨c, t, f, g, e, r1, r2, _⟩ := u2.at'
        rw [l3] at r1
        cases r1
        exact r2
      have hL4 : ∀ b', b' ≠ A.next + 1 → Canon.look B4.objs b' = Canon.look B3.objs b' := u2.off
      have hw4 : WF B4 := (u2.nx w3 (Nat.zero_le _)).wf
      have hlen : (ro ++ [(x : Int)]).length = ro.length + 1 := by simp
      refine ih _ _ _ (by rw [show cnt2 - ro.length = cnt2 - (ro.length + 1) + 1 by omega]; exact Nat.lt_succ_self _) ⟨some ⟨B2.next, 0, none⟩, ro ++ [(x : Int)], nx1, by rw [hlen], by rw [hlen]; omega, ?_, ⟨by have := K'.next; have := k1.next; rw [bump_next] at this; have := u2.next; omega, hw4, fun b' hb' hne => ?_⟩, by rw [hlen]; omega, S1.same hw4 fun b' hb' => ?_, ?_, by rw [hlen]; exact l4, fun b' hb' hne hne1 => ?_, ?_, by have := u2.next; omega, by simp only [sp_n, hn], by simp only [sg_ne, ne_eq, Nat.reduceEqDiff, not_false_eq_true, s0], by simp only [sg_ne, ne_eq, Nat.reduceEqDiff, not_false_eq_true, s8], by simp only [sg_ne, ne_eq, Nat.reduceEqDiff, not_false_eq_true, s9], by simp only [sg_ne, ne_eq, Nat.reduceEqDiff, not_false_eq_true, s10], by simp only [sg_ne, ne_eq, Nat.reduceEqDiff, not_false_eq_true, s33], by simp only [sg_eq, sp_n, Nat.reduceLT, hn, hlen]⟩
      · rw [List.all_append, hin2]
        simp [inB]
        omega
      · rw [hL4 _ (by omega), L3 _ (by omega) hne]
        exact K'.keep _ hb' hne
      · rw [hL4 _ (by omega), kp3 b' (by omega) (hbase b' (by omega)), kB2 _ (by omega)]
      · rw [hL4 _ (by omega), L3 _ (by omega) (by omega)]
        exact l1
      · rw [hL4 _ (by omega), L3 _ (by omega) hne]
        exact kp5 _ hb' hne hne1
      · exact (hg3.off u2 (by omega)).mono (by omega)
    · have hd : decide ((ro.length : Int) < (cnt2 : Int)) = false := by simp; omega
      clear ih
      refine Rn.reg hc rfl ?_
      simp only [sev_tmp, gd, want_free, rops, fx, bin_lss, Option.some.injEq, exists_eq_left', s33, s34, hd]
      (repeat (first | refine Rn.seq hc ?_ | refine Rn.skip hc ?_ | refine Rn.block hc ?_ | refine Rn.inBlock hc ?_ | refine Rn.scope hc ?_ | refine Rn.inScope hc ?_))
      refine Rn.condE hc rfl ?_
      simp only [sev_tmp, sg_eq, Nat.reduceLT, Value.bool.injEq, exists_eq_left', hn]
      (repeat (first | refine Rn.seq hc ?_ | refine Rn.skip hc ?_ | refine Rn.block hc ?_ | refine Rn.inBlock hc ?_ | refine Rn.scope hc ?_ | refine Rn.inScope hc ?_))
      refine Rn.exit hc rfl ?_
      (repeat (first | refine Rn.seq hc ?_ | refine Rn.skip hc ?_ | refine Rn.block hc ?_ | refine Rn.inBlock hc ?_ | refine Rn.scope hc ?_ | refine Rn.inScope hc ?_))
      have c0 : cl A' (A.next + 1) 0 = some (.int .i64 (m : Int)) := by rw [cl_of l2 rfl]; rfl
      have c1 : cl A' (A.next + 1) 1 = some (.slice sa st.length st.length) := by rw [cl_of l2 rfl]; rfl
      have c2 : cl A' (A.next + 1) 2 = some (.slice ra ro.length ro.length) := by rw [cl_of l2 rfl]; rfl
      obtain ⟨A6, c6, q1, q2, q3, q4⟩ := sts_upd (l := [.int .i64 (m : Int), .slice sa st.length st.length, .slice ra ro.length ro.length]) (o := 0) l1 rfl (by simp) rfl
      have g0 : cl A6 A.next 0 = some (.int .i64 (m : Int)) := by rw [q2.cl, q4]; rfl
      have g1 : cl A6 A.next 1 = some (.slice sa st.length st.length) := by rw [q2.cl, q4]; rfl
      have g2 : cl A6 A.next 2 = some (.slice ra ro.length ro.length) := by rw [q2.cl, q4]; rfl
      have hw6 : WF A6 := (q2.nx S'.wf (Nat.zero_le _)).wf
      refine Rn.reg hc rfl ?_
      simp only [sev_tmp, sg_eq, sg_ne, sp_n, sp_none, Nat.reduceLT, ne_eq, Nat.reduceEqDiff, not_false_eq_true, gd, want_free, rops, fx, ld, str, adr_p, cls, Nat.zero_add, Option.some.injEq, exists_eq_left', Nat.reduceAdd, tk24, hn, s8, s9, c0, c1, c2, q1, List.size_toArray, List.length_cons, List.length_nil, Nat.beq_refl]
      (repeat (first | refine Rn.seq hc ?_ | refine Rn.skip hc ?_ | refine Rn.block hc ?_ | refine Rn.inBlock hc ?_ | refine Rn.scope hc ?_ | refine Rn.inScope hc ?_))
      refine Rn.ret (endQ_cell rfl (v := .agg #[.int .i64 (m : Int), .slice sa st.length st.length, .slice ra ro.length ro.length]) ?_ ⟨⟨by have := K'.next; have := q2.next; omega, hw6, fun b' hb' hne => by rw [q2.off _ (by omega)]; exact K'.keep _ hb' hne⟩, ⟨nx', by omega, S'.same hw6 fun b' hb' => q2.off _ (by omega)⟩, sa, ra, st, ro, rfl, by omega, by omega, by omega, hin, hin2, ?_, ?_⟩)
      · simp only [sg_ne, ne_eq, Nat.reduceEqDiff, not_false_eq_true, ld, adr_p, cls, Nat.zero_add, Nat.reduceAdd, tk24, s8, g0, g1, g2]
      · refine ((hg5.ext (by omega) fun b' hb' => ?_).off q2 (by omega)).mono (by omega)
        by_cases hlt5 : b' < A5.next
        · exact .inr (kp5 b' hlt5 (by omega) (by omega))
        · exact .inl (wf5.none (by omega))
      · exact ((hg.off q2 (by omega)).mono (by omega))
end Go.Proofs.Ytdaljohmfnfgiaa

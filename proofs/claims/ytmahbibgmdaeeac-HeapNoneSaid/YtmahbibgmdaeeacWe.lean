/- HeapNone returns true for every input, and each argument reads afterwards as it read before. No condition. -/
import Derived.Test.YtmahbibgmdaeeacWd
import Derived.Test.YtmahbibgmdaeeacRows
import Derived.ProofKit
import Derived.Below
import Derived.ChangeSame
import Derived.Deep.SlicePairs
namespace Go.Proofs.Ytmahbibgmdaeeac
open Go.ChangeShapes Go.WideShapes Go.ChangeAt Go.RowKit Go.Proofs.Ytmahbibgmdaeeac.Canon
open Go.Deep (open_slice_pairs open_slice)

theorem Try.own : ownKnob Try.prog.godebug = none := by kernel_rfl
theorem Try.laidOut : laidOutB Try.prog = true := by kernel_rfl
theorem Try.cells27 : Try.prog.cellsOf 27 = 8 := by kernel_rfl
theorem Try.cells25 : Try.prog.cellsOf 25 = 2 := by kernel_rfl
theorem Try.cells23 : Try.prog.cellsOf 23 = 1 := by kernel_rfl
theorem Try.cells59 : Try.prog.cellsOf 59 = 2 := by kernel_rfl
theorem Try.cells9 : Try.prog.cellsOf 9 = 1 := by kernel_rfl
theorem Try.cells22 : Try.prog.cellsOf 22 = 1 := by kernel_rfl
theorem Try.types27 : Try.prog.cellTypes Try.prog.depth 27 = some [3, 9, 22, 3, 3, 3, 23, 3] := by kernel_rfl

section
variable {H : Type} {enc : TypeId × Value → H} {P : Program}
/-- The row's last step, where of the world behind the call it is known that nothing old has turned. -/
theorem post_of_below {f : Func} {s : ChangeSpec} {apart fresh handsOn again : Bool} {W W' : World} {args : Array Value} {v : Value} {ds gs : List (DataW H)} {before pa pv : List MemPlace}
    (hW : DataW.Whole enc P f.params.toList s.vars apart W args.toList ds gs before)
    (hres : ∀ (b : Nat) (sp : Nat → Bool) (hd : Bool), DataW.TrodAll enc P W' b sp hd f.resultTypes.toList (v.resultList f.resultTypes.size) (s.fn H (ds ++ gs)).results [])
    (hargs : ∀ sp : Nat → Bool, (∀ p ∈ before, sp p.block = true) → DataW.TrodAll enc P W' 0 sp true f.params.toList args.toList (s.fn H (ds ++ gs)).args pa)
    (hvars : ∀ sp : Nat → Bool, (∀ p ∈ before, sp p.block = true) → DataW.TrodVars enc P W' sp s.vars (s.fn H (ds ++ gs)).vars pv)
    (hps : before = pa ++ pv) (hb : Below W.heap.size W W')
    (hok : ∀ (j : Nat) (t : TypeId) (r : Value), f.resultTypes[j]? = some t → (v.resultList f.resultTypes.size)[j]? = some r → Value.okWide P W' .any 0 t r) :
    s.post enc P f apart fresh handsOn again W args v W' := by
  have hlt : ∀ p ∈ before, p.block < W.heap.size := fun p hp => hW.lt p hp
  have hold : ∀ p ∈ before, (fun b => decide (b < W.heap.size)) p.block = true := fun p hp => by simpa using hlt p hp
  refine ⟨ds, gs, before, [], pa, pv, hW, hres _ _ _, hargs _ hold, hvars _ hold, World.keptBut_mono (fun p hp => ⟨hp, ?_⟩) (hb.frame (· ∈ before)), fun _ => ?_⟩
  · rw [hps, List.mem_append] at hp
    exact Or.inr hp
  · obtain ⟨_, _, _, _, _, hz, hn⟩ := hW
    refine ⟨hok, _, _, ([] ++ pa) ++ pv, ⟨[] ++ pa, pv, trodAll_append (hargs _ (fun _ _ => rfl)) (hres _ _ _), hvars _ (fun _ _ => rfl), rfl, ?_, ?_⟩, ?_⟩
    · intro b off hp
      have hin : MemPlace.cell b off ∈ before := by rw [hps]; simpa using hp
      rw [hb.frozen (hlt _ hin)]
      exact hz b off hin
    · intro ha
      have := hn ha
      rw [hps] at this
      simpa using this
    · intro p hp _
      rw [hps]
      simpa using hp
end

theorem cell_int {P : Program} {w : World} {b : Nat} {t : TypeId} (ht : P.underlying t = some (.int .i64)) {v : Value} (h : Cell.okWide P w .any b t v) : ∃ n, v = .int .i64 n := by
  unfold Cell.okWide at h
  rw [ht] at h
  cases v <;> simp [Cell.ok, ht] at h
  case int k n => obtain ⟨rfl, _⟩ := h; exact ⟨n, rfl⟩
theorem cell_str {P : Program} {w : World} {b : Nat} {t : TypeId} (ht : P.underlying t = some .string) {v : Value} (h : Cell.okWide P w .any b t v) : ∃ s, v = .string s := by
  unfold Cell.okWide at h
  rw [ht] at h
  cases v <;> simp [Cell.ok, ht] at h
  case string s => exact ⟨s, rfl⟩
theorem cell_slice {P : Program} {w : World} {b : Nat} {t e : TypeId} (ht : P.underlying t = some (.slice e)) {v : Value} (h : Cell.okWide P w .any b t v) : ∃ a n c, v = .slice a n c ∧ ∀ x, a = some x → x.spot = none := by
  unfold Cell.okWide at h
  rw [ht] at h
  cases v <;> simp [Cell.ok, ht] at h
  case slice a n c =>
    cases a with
    | none => exact ⟨none, n, c, rfl, fun x hx => by cases hx⟩
    | some a =>
      refine ⟨some a, n, c, rfl, fun x hx => ?_⟩
      cases hx
      simp only at h
      exact h.2.2.2.1
theorem agg_cells {P : Program} {w : World} {b : Nat} {t : TypeId} {fs : Array Field} (ht : P.underlying t = some (.struct fs)) {v : Value} (h : Value.okWide P w .any b t v) : ∃ cs, v = .agg cs ∧ cs.size = P.cellsOf t ∧ Row.okWide P w .any b t cs := by
  unfold Value.okWide at h
  rw [ht] at h
  exact h

theorem row_cells {P : Program} {w : World} {b : Nat} {t : TypeId} {cs : Array Value} {ts : List TypeId} (hts : P.cellTypes P.depth t = some ts) (h : Row.okWide P w .any b t cs) : ∀ (i : Nat) (v : Value), cs[i]? = some v → ∃ u, ts[i % ts.length]? = some u ∧ Cell.okWide P w .any b u v := by
  obtain ⟨ts', h1, _, h2⟩ := h
  rw [hts] at h1
  cases h1
  exact h2

set_option maxRecDepth 100000 in
theorem op_shape {w : World} {b : Nat} {v : Value} (h : Value.okWide Try.prog w .any b 27 v) :
    ∃ (kind : Int) (nm : ByteArray) (ka : Option Addr) (kn kc : Nat) (x y z : Int) (na : Option Addr) (nn nc : Nat) (root : Int), v = theOp kind nm (.slice ka kn kc) x y z (.slice na nn nc) root ∧ (∀ a, ka = some a → a.spot = none) ∧ (∀ a, na = some a → a.spot = none) := by
  obtain ⟨cs, rfl, hsz, hrow⟩ := agg_cells Try.underlying27 h
  have hall := row_cells Try.types27 hrow
  clear hrow
  rw [Try.cells27] at hsz
  obtain ⟨l⟩ := cs
  match l, hsz with
  | [a0, a1, a2, a3, a4, a5, a6, a7], _ =>
    have g : ∀ (i : Nat) (v : Value) (u : TypeId), (#[a0, a1, a2, a3, a4, a5, a6, a7] : Array Value)[i]? = some v → ([3, 9, 22, 3, 3, 3, 23, 3] : List TypeId)[i % 8]? = some u → Cell.okWide Try.prog w .any b u v := fun i v u hv hu => by
      obtain ⟨u', h1, h2⟩ := hall i v hv
      have h1 : ([3, 9, 22, 3, 3, 3, 23, 3] : List TypeId)[i % 8]? = some u' := h1
      rw [hu] at h1
      cases h1
      exact h2
    obtain ⟨k, rfl⟩ := cell_int Try.underlying3 (g 0 a0 3 rfl rfl)
    obtain ⟨nm, rfl⟩ := cell_str Try.underlying9 (g 1 a1 9 rfl rfl)
    obtain ⟨ka, kn, kc, rfl, hk⟩ := cell_slice Try.underlying22 (g 2 a2 22 rfl rfl)
    obtain ⟨x, rfl⟩ := cell_int Try.underlying3 (g 3 a3 3 rfl rfl)
    obtain ⟨y, rfl⟩ := cell_int Try.underlying3 (g 4 a4 3 rfl rfl)
    obtain ⟨z, rfl⟩ := cell_int Try.underlying3 (g 5 a5 3 rfl rfl)
    obtain ⟨na, nn, nc, rfl, hn⟩ := cell_slice Try.underlying23 (g 6 a6 23 rfl rfl)
    obtain ⟨r, rfl⟩ := cell_int Try.underlying3 (g 7 a7 3 rfl rfl)
    exact ⟨k, nm, ka, kn, kc, x, y, z, na, nn, nc, r, rfl, hk, hn⟩

theorem cell_lt {w : World} {b o : Nat} {v : Value} (h : w.cell? ⟨b, o, none⟩ = some v) : b < w.heap.size := by
  unfold World.cell? at h
  cases hb : w.heap[b]? with
  | none => simp [hb] at h
  | some x => exact (Array.getElem?_eq_some_iff.1 hb).1

theorem op_nodes {H : Type} {enc : TypeId × Value → H} {w : World} {base : Nat} {sp : Nat → Bool} {hd : Bool} {kind : Int} {nm : ByteArray} {ka : Option Addr} {kn kc : Nat} {x y z : Int} {na : Option Addr} {nn nc : Nat} {root : Int} {d : DataW H} {ps : List MemPlace}
    (h : DataW.Trod enc Try.prog w base sp hd 27 (theOp kind nm (.slice ka kn kc) x y z (.slice na nn nc) root) d ps) (hsp : ∀ a, na = some a → a.spot = none) : nn ≤ 9223372036854775807 ∧ Nodes w na nn := by
  obtain ⟨fuel, hf⟩ := h
  obtain ⟨xs, k, _, _, _, hlen, hfs⟩ := DataW.trod_struct Try.underlying27 hf
  have h6 := hfs 6 { name := "T", type := 25, offset := 6, embedded := false, tag := "", pkgPath := "", byteOffset := 72 } rfl
  obtain ⟨y6, hy6⟩ : ∃ y, xs[6]? = some y := ⟨_, List.getElem?_eq_getElem (by rw [hlen]; decide)⟩
  rw [hy6] at h6
  simp only [Try.cells25] at h6
  have h6 : DataW.trod enc Try.prog w base sp hd k 25 [.slice na nn nc, .int .i64 root] = some y6 := h6
  obtain ⟨xs2, k2, _, _, _, hlen2, hfs2⟩ := DataW.trod_struct Try.underlying25 h6
  have h0 := hfs2 0 { name := "Nodes", type := 23, offset := 0, embedded := false, tag := "", pkgPath := "", byteOffset := 0 } rfl
  obtain ⟨x0, hx⟩ : ∃ y, xs2[0]? = some y := ⟨_, List.getElem?_eq_getElem (by rw [hlen2]; decide)⟩
  rw [hx] at h0
  simp only [Try.cells23] at h0
  have h0 : DataW.trod enc Try.prog w base sp hd k2 23 [.slice na nn nc] = some x0 := h0
  · skip
    rcases open_slice_pairs Try.underlying23 Try.underlying59 Try.cells59 rfl rfl Try.cells9 Try.cells22 h0 with ⟨h1, _⟩ | ⟨a, len, cap, m, n, V0, V1, D0, D1, P0, P1, h1, hbase, hlc, hcm, hm, _, hcells⟩
    · cases h1
      exact ⟨by omega, fun i hi => absurd hi (Nat.not_lt_zero _)⟩
    · simp only [List.cons.injEq, Value.slice.injEq, and_true] at h1
      obtain ⟨rfl, rfl, rfl⟩ := h1
      refine ⟨by unfold maxLen at hcm; omega, fun i hi => ?_⟩
      have him : i < m := by rw [hm]; split <;> omega
      obtain ⟨c0, c1, t0, t1⟩ := hcells i him
      obtain ⟨B, O, s⟩ := a
      have := hsp _ rfl
      simp only at this
      subst this
      have ad : ∀ j, (⟨B, O, none⟩ : Addr).add j = ⟨B, O + j, none⟩ := fun j => by
        unfold Addr.add
        split
        · rename_i h0; rw [h0]; simp
        · rfl
      rw [ad] at c0 c1
      obtain ⟨s0, e0, _⟩ := DataW.trod_string Try.underlying9 t0
      simp only [List.cons.injEq, and_true] at e0
      have e1 : ∃ a n c, V1 i = .slice a n c := by
        rcases open_slice Try.underlying22 t1 with ⟨q, _⟩ | ⟨a, n', c', _, _, _, _, q, _⟩
        · simp only [List.cons.injEq, and_true] at q; exact ⟨_, _, _, q⟩
        · simp only [List.cons.injEq, and_true] at q; exact ⟨_, _, _, q⟩
      obtain ⟨a1, n1, c1', e1⟩ := e1
      rw [e0] at c0
      rw [e1] at c1
      exact ⟨B, O, s0, a1, n1, c1', rfl, cell_lt c0, c0, by rw [← Nat.add_assoc] at c1; exact c1⟩

set_option maxRecDepth 100000 in
theorem heapNone_lifted (os : Os) (started : os.Started) (H : Type) (enc : TypeId × Value → H) :
    ReturnsInHanded {} Try.checked os 3 .any (Rows.heapNoneSpec.pre6 enc Try.prog Try.f3 Rows.heapNoneRow.domain false) (Rows.heapNoneSpec.post enc Try.prog Try.f3 false true false false) := by
  refine returnsInHanded_of_change (C := Try.checked) Try.own started (by kernel_rfl) Try.func3
    (ChangeSpec.witness6 (enc := enc) (C := Try.checked) false ⟨#[], #[.agg #[.int .i64 0, .string ⟨#[]⟩, .slice none 0 0, .int .i64 0, .int .i64 0, .int .i64 0, .slice none 0 0, .int .i64 0], .bool false], []⟩ 8 (by kernel_rfl) (by kernel_rfl) (by kernel_rfl) (by kernel_rfl)) ?_
  intro W base args ds gs before hval0 hW hcnd _
  have hval : ∀ (j : Nat) t v, Try.f3.params[j]? = some t → args[j]? = some v → Value.okWide Try.prog W .any base t v := hval0
  have hW' := hW
  obtain ⟨p, q, hA0, hV, rfl, hfz, hnd⟩ := hW
  have hA : DataW.TrodAll enc Try.prog W 0 (fun _ => true) true Try.f3.params.toList args.toList ds p := hA0
  rw [Try.params3] at hA hval
  obtain ⟨v0, v1, d0, d1, p0, p1, rfl, rfl, rfl, h0, h1⟩ := trodAll_two hA
  obtain ⟨rfl, rfl⟩ := trodVars_none hV
  obtain ⟨made, rfl, rfl, rfl⟩ := open_bool Try.underlying4 (hval 1 4 v1 rfl rfl) h1
  obtain ⟨kind, nm, ka, kn, kc, x, y, z, na, nn, nc, root, rfl, hk, hn⟩ := op_shape (hval 0 27 v0 rfl rfl)
  obtain ⟨hlt, hN⟩ := op_nodes h0 hn
  clear hA0 hval0
  simp only [List.append_nil] at hW'
  have hplace : ∀ p ∈ p0, p.block < W.heap.size := fun p hp => by simpa using hW'.lt p hp
  refine (none_any kind nm ka kn kc x y z na nn nc root made W hk hn hlt hN).mono fun e W' ⟨he, hb⟩ => ?_
  subst he
  have hargs : ∀ sp : Nat → Bool, (∀ p ∈ p0, sp p.block = true) → DataW.Trod enc Try.prog W' 0 sp true 27 (theOp kind nm (.slice ka kn kc) x y z (.slice na nn nc) root) d0 p0 := fun sp hsp =>
    WideElems.Trod_stays Try.laidOut (by kernel_rfl) (of_decide_eq_true (by kernel_rfl)) h0 (fun x hx => hb.same (hplace x hx)) (fun x hx => hsp x hx)
  refine ⟨_, rfl, post_of_below (pa := p0) (pv := []) hW' (fun _ _ _ => trodAll_mk1 (shut_bool Try.underlying4 _)) (fun sp hsp => ?_) (fun _ _ => rfl) (by simp) hb (ok_one (by kernel_rfl) rfl (okWide_bool_mk Try.underlying4 _))⟩
  have hall : DataW.TrodAll enc Try.prog W' 0 sp true [27, 4] [theOp kind nm (.slice ka kn kc) x y z (.slice na nn nc) root, .bool made] [d0, .lit (.bool made)] (p0 ++ []) :=
    trodAll_mk2 (hargs sp hsp) (shut_bool Try.underlying4 made)
  rw [List.append_nil] at hall
  exact hall

theorem heapNone_holds : Rows.HeapNoneSaid :=
  OpenClaim.holds_of_wide 3 Try.f3 rfl rfl rfl rfl rfl rfl rfl ⟨rfl, rfl, rfl, rfl, rfl⟩ rfl rfl rfl rfl rfl (by kernel_rfl) Try.func3 (by kernel_rfl)
    (of_decide_eq_true (by kernel_rfl)) (by unfold Func.isWrapper; first | (rw [if_pos (by decide +kernel)]; kernel_rfl) | (rw [if_neg (by decide +kernel)]; exact ⟨rfl, rfl⟩))
    (fun os started H enc _ => heapNone_lifted os started H enc)

end Go.Proofs.Ytmahbibgmdaeeac

/- Lassos: the least form. No condition. -/
import Derived.Test.YtdaljohmfnfgiaaXa
/- The least stream of those that unfold alike, and where two streams differ: what the program does. No condition. -/
/- Lists that are cloned; remainders of numbers below nought; results in a variable and a slot. No condition. -/
namespace Go.Proofs.Ytdaljohmfnfgiaa
open Go Go.RowKit Go.Proofs.Ytdaljohmfnfgiaa.Canon
set_option maxRecDepth 20000


theorem emod_idx {x : Int} {p : Nat} (hp : 0 < p) : ∃ (r : Int) (idx : Nat), x.tmod p = r ∧ -(p : Int) < r ∧ r < p ∧ idx < p ∧ (r + p).tmod p = (idx : Int) ∧ ∀ L e : Nat, x = (e : Int) - (L : Int) → (L + idx) % p = e % p := by
  have hpi : (0 : Int) < (p : Int) := by omega
  have h1 := Int.tmod_add_mul_tdiv x p
  have h2 : -(p : Int) < x.tmod p ∧ x.tmod p < p := by
    have := Int.natAbs_tmod x p
    have h3 : (x.tmod p).natAbs < p := by
      rw [this]
      exact Nat.mod_lt _ (by simpa using hp)
    omega
  have h3 : (x.tmod p + p).tmod p = x % p := by
    rw [Int.tmod_eq_emod_of_nonneg (by omega), Int.add_emod_right]
    have : x.tmod p = x - p * (x.tdiv p) := by omega
    rw [this, Int.sub_emod, Int.mul_emod_right]
    simp
  have h4 := Int.emod_nonneg x (show (p : Int) ≠ 0 by omega)
  have h5 := Int.emod_lt_of_pos x hpi
  refine ⟨_, (x % p).toNat, rfl, h2.1, h2.2, by omega, by rw [h3]; omega, fun L e he => ?_⟩
  have h6 : (((L + (x % p).toNat : Nat) : Int)) = (L : Int) + x % p := by omega
  have h7 : ((L : Int) + x % p) % p = (e : Int) % p := by
    rw [Int.add_emod, Int.emod_emod_of_dvd _ (Int.dvd_refl _), ← Int.add_emod]
    congr 1
    omega
  have h8 : (((L + (x % p).toNat) % p : Nat) : Int) = ((e % p : Nat) : Int) := by
    rw [Int.natCast_emod, Int.natCast_emod, h6, h7]
  exact Int.ofNat.inj h8
theorem least_nat {p : Nat → Prop} : ∀ n, p n → ∃ k, k ≤ n ∧ p k ∧ ∀ j, j < k → ¬ p j := by
  intro n
  induction n using Nat.strongRecOn with
  | ind n ih =>
    intro hn
    by_cases h : ∃ j, j < n ∧ p j
    · obtain ⟨j, h1, h2⟩ := h
      obtain ⟨k, q1, q2, q3⟩ := ih j h1 h2
      exact ⟨k, by omega, q2, q3⟩
    · exact ⟨n, Nat.le_refl _, hn, fun j hj hp => h ⟨j, hj, hp⟩⟩
theorem red_exists (st : List Int) {ro : List Int} (hro : 0 < ro.length) : ∃ a p, Red (atL st ro) a p ∧ a ≤ st.length ∧ p ≤ ro.length ∧ perOK ro p = true := by
  obtain ⟨p, h1, ⟨h2, h3⟩, h4⟩ := least_nat (p := fun d => 0 < d ∧ perOK ro d = true) ro.length ⟨hro, perOK_self ro⟩
  have hper := perOK_per (st := st) hro h2 h3
  obtain ⟨a, k1, k2, k3⟩ := least_nat (p := fun N => Per (atL st ro) N p) st.length hper
  refine ⟨a, p, ⟨k2, fun N d hd => min_per hro (fun e he hlt => ?_) hd, fun N hN => Nat.le_of_not_lt fun hlt => k3 N hlt hN⟩, k1, h1, h3⟩
  cases hp : perOK ro e with
  | false => rfl
  | true => exact absurd ⟨he, hp⟩ (h4 e hlt)

theorem eql_nil (a : Option Addr) (n : Nat) (c : Nat) (A : AHeap) : bin Try.prog .eql 22 (.slice a n c) (.slice none 0 0) A = some (.bool a.isNone, A) := by
  have h : aeql Try.prog 22 (.slice a n c) (.slice none 0 0) = some a.isNone := by cases a <;> rfl
  show (aeql Try.prog 22 (.slice a n c) (.slice none 0 0)).map (fun b => (Value.bool b, A)) = _
  rw [h]
  rfl
/-- A list is appended to one that is new, with nothing in it. -/
theorem app_fresh {A : AHeap} (hw : WF A) {a : Option Addr} {c : Nat} {l : List Int} (h : Ints A a 0 A.next l) (hlen : l.length ≤ 1000000) :
    ∃ a' A1, aapp Try.prog #[22, 22] #[.slice (some ⟨A.next, 0, none⟩) 0 0, .slice a l.length c] (A.push (.cells #[] 3)) = some (.slice a' l.length l.length, A1) ∧ Nx A.next A A1 ∧ Gr A1 a' A.next l := by
  have hx1 : Nx A.next A (A.push (.cells #[] 3)) := (Nx.refl hw _).push (Nat.le_refl _) _
  have h1 : Ints (A.push (.cells #[] 3)) a 0 (A.push (.cells #[] 3)).next l := (h.nx hx1 (Nat.le_refl _)).mono (Nat.le_refl _) hx1.next
  by_cases h0 : l.length = 0
  · have hl : l = [] := List.length_eq_zero_iff.1 h0
    subst hl
    exact ⟨some ⟨A.next, 0, none⟩, _, aapp_nil el22 un22 (Nat.le_refl _), hx1, fun i hi => by simp at hi, fun x hx => by cases hx; exact ⟨rfl, Nat.le_refl _, _, look_push_eq _ _, .inl rfl⟩, fun x hx => by cases hx; exact ⟨_, look_push_eq _ _, rfl⟩⟩
  · obtain ⟨A1, h1', h2⟩ := aapp_new (P := Try.prog) (A := A.push (.cells #[] 3)) (c := 0) (c2 := c) (a := some ⟨A.next, 0, none⟩) (n := 0) (l := []) (m := l.length) el22 un22 (.inl rfl) (by simp)
      (fun x hx => by cases hx; exact ⟨_, look_push_eq _ _, .inl rfl⟩) (fun h => by cases h) h1.row (by simp) (by simp [isCell]) (fun h' => by subst h'; exact absurd h1.some h0) (by omega) (by omega) (by omega)
    simp only [Nat.zero_add] at h1'
    have hnx := h2.nx hx1.wf (n := A.next) hx1.next (fun x hx => by cases hx; exact .inl (Nat.le_refl _))
    refine ⟨_, A1, h1', hx1.trans hnx, fun i hi => ⟨_, _, rfl, hx1.next, by rw [h2.next]; omega, ?_⟩, fun x hx => by cases hx; exact ⟨rfl, hx1.next, _, h2.new, .inr ⟨rfl, rfl, rfl⟩⟩, fun x hx => by cases hx; exact ⟨_, h2.new, rfl⟩⟩
    rw [h2.cl]
    simp [List.getD_eq_getElem?_getD, hi]
theorem clone_ints {A : AHeap} (hw : WF A) {a : Option Addr} {c : Nat} {l : List Int} (h : Ints A a 0 A.next l) (hlen : l.length ≤ 1000000) :
    Con Try.prog 103 [.slice a l.length c] A (fun v A1 => ∃ a', v = .slice a' l.length l.length ∧ Nx A.next A A1 ∧ Gr A1 a' A.next l) := by
  refine con_of_rn hc Try.func103 rfl (Nat.le_of_ble_eq_true rfl) ?_
  rw [s_in1]
  obtain ⟨a', A1, e1, hx2, hg⟩ := app_fresh hw (c := c) h hlen
  (repeat (first | refine Rn.seq hc ?_ | refine Rn.skip hc ?_ | refine Rn.block hc ?_ | refine Rn.inBlock hc ?_ | refine Rn.scope hc ?_ | refine Rn.inScope hc ?_))
  refine Rn.reg hc rfl ?_
  simp only [sev_const, gd, want_free, rops, fx, Option.some.injEq, exists_eq_left', show Try.f103.ntmps = 8 from rfl]
  (repeat (first | refine Rn.seq hc ?_ | refine Rn.skip hc ?_ | refine Rn.block hc ?_ | refine Rn.inBlock hc ?_ | refine Rn.scope hc ?_ | refine Rn.inScope hc ?_))
  cases a with
  | none =>
    have h0 := h.some
    have hl : l = [] := List.length_eq_zero_iff.1 h0
    subst hl
    refine Rn.reg hc rfl ?_
    simp only [sev_tmp, sev_const, sg_eq, sg_ne, sp_n, Nat.reduceLT, ne_eq, Nat.reduceEqDiff, not_false_eq_true, gd, want_free, rops, fx, Option.some.injEq, exists_eq_left', eql_nil, Option.isNone_none]
    (repeat (first | refine Rn.seq hc ?_ | refine Rn.skip hc ?_ | refine Rn.block hc ?_ | refine Rn.inBlock hc ?_ | refine Rn.scope hc ?_ | refine Rn.inScope hc ?_))
    refine Rn.condE hc rfl ?_
    simp only [sev_tmp, sg_eq, sp_n, Nat.reduceLT, Value.bool.injEq, exists_eq_left']
    (repeat (first | refine Rn.seq hc ?_ | refine Rn.skip hc ?_ | refine Rn.block hc ?_ | refine Rn.inBlock hc ?_ | refine Rn.scope hc ?_ | refine Rn.inScope hc ?_))
    refine Rn.reg hc rfl ?_
    simp only [sev_const, gd, want_free, rops, fx, Option.some.injEq, exists_eq_left']
    (repeat (first | refine Rn.seq hc ?_ | refine Rn.skip hc ?_ | refine Rn.block hc ?_ | refine Rn.inBlock hc ?_ | refine Rn.scope hc ?_ | refine Rn.inScope hc ?_))
    refine Rn.ret (endQ_tmp rfl ⟨none, ?_, Nx.refl hw _, Gr.nil _ _⟩)
    simp only [sg_eq, sp_n, Nat.reduceLT]
    rfl
  | some x =>
    refine Rn.reg hc rfl ?_
    simp only [sev_tmp, sev_const, sg_eq, sg_ne, sp_n, Nat.reduceLT, ne_eq, Nat.reduceEqDiff, not_false_eq_true, gd, want_free, rops, fx, Option.some.injEq, exists_eq_left', eql_nil, Option.isNone_some]
    (repeat (first | refine Rn.seq hc ?_ | refine Rn.skip hc ?_ | refine Rn.block hc ?_ | refine Rn.inBlock hc ?_ | refine Rn.scope hc ?_ | refine Rn.inScope hc ?_))
    refine Rn.condE hc rfl ?_
    simp only [sev_tmp, sg_eq, sp_n, Nat.reduceLT, Value.bool.injEq, exists_eq_left']
    (repeat (first | refine Rn.seq hc ?_ | refine Rn.skip hc ?_ | refine Rn.block hc ?_ | refine Rn.inBlock hc ?_ | refine Rn.scope hc ?_ | refine Rn.inScope hc ?_))
    refine Rn.reg hc rfl ?_
    simp only [sev_tmp, sg_eq, sg_ne, sp_n, Nat.reduceLT, ne_eq, Nat.reduceEqDiff, not_false_eq_true, gd, want_free, rops, fx, Option.some.injEq, exists_eq_left', bs22_0, ae_apd, apd_slice, e1]
    (repeat (first | refine Rn.seq hc ?_ | refine Rn.skip hc ?_ | refine Rn.block hc ?_ | refine Rn.inBlock hc ?_ | refine Rn.scope hc ?_ | refine Rn.inScope hc ?_))
    refine Rn.ret (endQ_tmp rfl ⟨a', ?_, hx2, hg⟩)
    simp only [sg_eq, sp_n, Nat.reduceLT]
section
variable {ρ : Operand → Value} {d : Option Tmp} {ty : TypeId} {pos : String} {af : Array Edge} {gu : Option (Nat × Bool)} {A : AHeap}
noncomputable def mnc (ats : Array TypeId) (ty : TypeId) (x y : Value) (A : AHeap) : Option (Value × AHeap) := match [x, y].all isNum with
  | true => arun Try.prog (Builtin.min_ ats ty #[x, y]) A
  | false => none
theorem mnc_int {ats : Array TypeId} {k : IntKind} {a b : Int} : mnc ats ty (.int k a) (.int k b) A = some (.int k (min a b), A) := by
  have : (if b < a then b else a) = min a b := by by_cases hh : b < a <;> simp [hh] <;> omega
  simp [mnc, isNum, Builtin.min_, Builtin.min2, this]
theorem ae_mnc {k : IntKind} {n : Int} {y : Tmp} {ats : Array TypeId} {s : Slots} : aexec Try.prog (seval s) ⟨d, .call ⟨.builtin .min, #[.const (.int k n), .tmp y], ats⟩, ty, pos, af, gu⟩ A = mnc ats ty (.int k n) (sget s y) A := by
  have hcl : closedV (.int k n) = true := rfl
  simp only [aexec, Op.operands, Call.operands]
  simp [opnOK, hcl, abuiltin, mnc, sev_tmp, sev_const]
  rfl
theorem ae_mxd2 {P : Program} {x y : Tmp} {ats : Array TypeId} {s : Slots} : aexec P (seval s) ⟨d, .call ⟨.builtin .max, #[.tmp x, .tmp y], ats⟩, ty, pos, af, gu⟩ A = mxd P ats ty (sget s x) (sget s y) A := by
  simp only [aexec, Op.operands, Call.operands]
  simp [opnOK, abuiltin, mxd, sev_tmp]
  rfl
theorem ae_mxdc {P : Program} {k : IntKind} {n : Int} {y : Tmp} {ats : Array TypeId} {s : Slots} : aexec P (seval s) ⟨d, .call ⟨.builtin .max, #[.tmp y, .const (.int k n)], ats⟩, ty, pos, af, gu⟩ A = mxd P ats ty (sget s y) (.int k n) A := by
  have hcl : closedV (.int k n) = true := rfl
  simp only [aexec, Op.operands, Call.operands]
  simp [opnOK, hcl, abuiltin, mxd, sev_tmp, sev_const]
  rfl
end
theorem Dr.skip {S : Canon.Spec} {ops : Array Oper} {F : AHeap → Prop} {nb i : Nat} {o : Oper} {os : List Oper} {T : Slots} {pd : List (Nat × FO)} {A : AHeap} {K : Slots → List AHeap → Prop} (he : isEff Try.prog (cvE Try.prog ops) o = false) (hw : wantB (gd ops o) T = false)
    (h : Dr Try.prog S ops F nb (i + 1) os (sput T o.dst undef) pd A K) : Dr Try.prog S ops F nb i (o :: os) T pd A K :=
  Sp.skipR he hw (Sp.mono h fun vs ms T1 ⟨h1, h2, h3⟩ => ⟨h1, ⟨fun _ e => absurd (hw.symm.trans e) (by decide), h2⟩, h3⟩)
theorem endQ_ct {f : Func} {t u : Tmp} {ty : TypeId} (hr : f.results = #[.cell t ty, .tmp u]) {Q : Value → AHeap → Prop} {s : Slots} {A : AHeap} {v : Value} (hl : ld Try.prog ty (sget s t) A = some (v, A)) (h : Q (.tuple #[v, sget s u]) A) : endQ Try.prog f Q .ret s [] A := by
  refine ⟨.tuple #[v, sget s u], A, ?_, h⟩
  show VR.of (sresults Try.prog f s A) = _
  obtain ⟨b, o, hv, ha⟩ := ld_arun hl
  have e : sresults Try.prog f s A = some (.tuple #[v, sget s u], A) := by
    rw [sresults_eq]
    have h1 := sget_getD s t
    have h2 := sget_getD s u
    rw [hv] at h1
    simp only [Array.getD_eq_getD_getElem?] at h1 h2
    simp [results, hr, h1, h2, asAddr, ha]
  rw [e]
  rfl
end Go.Proofs.Ytdaljohmfnfgiaa
/- The least stream of those that unfold alike: what the program does. No condition. -/
namespace Go.Proofs.Ytdaljohmfnfgiaa
open Go Go.RowKit Go.Proofs.Ytdaljohmfnfgiaa.Canon
set_option maxRecDepth 20000

theorem bd24_z {ρ : Operand → Value} {d : Option Tmp} {ty : TypeId} {pos : String} {af : Array Edge} {gu : Option (Nat × Bool)} {A : AHeap} : aexec Try.prog ρ ⟨d, .build 24 #[], ty, pos, af, gu⟩ A = some (.agg #[.int .i64 0, .slice none 0 0, .slice none 0 0], A) := ae_build (by rfl) bo24 rfl rfl
/-- What is handed back for a stream, told in any way. -/
def LeastQ (A : AHeap) (m : Int) (s : Nat → Int) (a p : Nat) (v : Value) (A1 : AHeap) : Prop :=
  Nx A.next A A1 ∧ if 120 < p ∨ 60 < a then v = .tuple #[.agg #[.int .i64 0, .slice none 0 0, .slice none 0 0], .int .i64 11]
    else ∃ sa ra, v = .tuple #[.agg #[.int .i64 m, .slice sa a a, .slice ra p p], .int .i64 0] ∧ Gr A1 sa A.next (redS s a) ∧ Gr A1 ra A.next (redR s a p)

theorem least_run {A : AHeap} (hw : WF A) {m : Int} {sa ra : Option Addr} {sc rc : Nat} {st ro : List Int} (hs : Ints A sa 0 A.next st) (hr : Ints A ra 0 A.next ro) (ls : st.length ≤ 1000000) (lr : ro.length ≤ 1000000) (hro : 0 < ro.length) (hsl : Sl A sa 0) (hsc : st.length ≤ sc) :
    Con Try.prog 69 [.int .i64 m, .slice sa st.length sc, .slice ra ro.length rc] A (fun v A1 => ∃ a p, Red (atL st ro) a p ∧ a ≤ st.length ∧ p ≤ ro.length ∧ LeastQ A m (atL st ro) a p v A1) := by
  refine con_of_rn hc Try.func69 rfl (Nat.le_of_ble_eq_true rfl) ?_
  have hx1 : Nx A.next A (A.push (.cells #[.int .i64 0, .slice none 0 0, .slice none 0 0] 24)) := (Nx.refl hw _).push (Nat.le_refl _) _
  have l1 := look_push_eq A (.cells #[.int .i64 0, .slice none 0 0, .slice none 0 0] 24)
  have hn1 : (A.push (.cells #[.int .i64 0, .slice none 0 0, .slice none 0 0] 24)).next = A.next + 1 := rfl
  generalize e1 : A.push (.cells #[.int .i64 0, .slice none 0 0, .slice none 0 0] 24) = A1 at hx1 l1 hn1
  rw [s_in3]
  (repeat (first | refine Rn.seq hc ?_ | refine Rn.skip hc ?_ | refine Rn.block hc ?_ | refine Rn.inBlock hc ?_ | refine Rn.scope hc ?_ | refine Rn.inScope hc ?_))
  refine Rn.reg hc rfl ?_
  simp only [sev_const, gd, want_free, rops, fx, Option.some.injEq, exists_eq_left', Value.cells, show Try.f69.ntmps = 112 from rfl, ze24, e1]
  (repeat (first | refine Rn.seq hc ?_ | refine Rn.skip hc ?_ | refine Rn.block hc ?_ | refine Rn.inBlock hc ?_ | refine Rn.scope hc ?_ | refine Rn.inScope hc ?_))
  refine Rn.reg hc rfl ?_
  simp only [sev_const, gd, want_free, rops, fx, Option.some.injEq, exists_eq_left']
  (repeat (first | refine Rn.seq hc ?_ | refine Rn.skip hc ?_ | refine Rn.block hc ?_ | refine Rn.inBlock hc ?_ | refine Rn.scope hc ?_ | refine Rn.inScope hc ?_))
  refine Rn.label hc ?_
  refine Rn.seq hc ?_
  refine Rn.cut2 hc (Q1 := fun s ds B => ds = [] ∧ Nx A1.next A1 B ∧ s.n = 112 ∧ sget s 0 = .int .i64 m ∧ sget s 1 = .slice sa st.length sc ∧ sget s 2 = .slice ra ro.length rc ∧ sget s 6 = .pointer (some ⟨A.next, 0, none⟩) ∧ ∃ d : Nat, sget s 8 = .int .i64 (d : Int) ∧ ((d = 0 ∧ ∀ e, 0 < e → e < 121 → perOK ro e = false) ∨ (0 < d ∧ d ≤ 120 ∧ perOK ro d = true ∧ ∀ e, 0 < e → e < d → perOK ro e = false)))
    (Q2 := fun _ _ _ => False) ?_ ?_ ?_
  · (repeat (first | refine Rn.seq hc ?_ | refine Rn.skip hc ?_ | refine Rn.block hc ?_ | refine Rn.inBlock hc ?_ | refine Rn.scope hc ?_ | refine Rn.inScope hc ?_))
    refine Rn.reg hc rfl ?_
    simp only [sev_const, gd, want_free, rops, fx, Option.some.injEq, exists_eq_left']
    (repeat (first | refine Rn.seq hc ?_ | refine Rn.skip hc ?_ | refine Rn.block hc ?_ | refine Rn.inBlock hc ?_ | refine Rn.scope hc ?_ | refine Rn.inScope hc ?_))
    refine Rn.loopI hc (I := fun k s A' => ∃ d : Nat, 1 ≤ d ∧ d ≤ 121 ∧ k = 121 - d ∧ Nx A1.next A1 A' ∧ (∀ e, 0 < e → e < d → perOK ro e = false) ∧ s.n = 112 ∧ sget s 0 = .int .i64 m ∧ sget s 1 = .slice sa st.length sc ∧ sget s 2 = .slice ra ro.length rc ∧ sget s 6 = .pointer (some ⟨A.next, 0, none⟩) ∧ sget s 8 = .int .i64 ((0 : Nat) : Int) ∧ sget s 9 = .int .i64 (d : Int))
      (n := 120) ⟨1, by omega, by omega, rfl, Nx.refl hx1.wf _, fun e h1 h2 => by omega, by simp only [sp_n], by simp only [sg_eq, sg_ne, Nat.reduceLT, ne_eq, Nat.reduceEqDiff, not_false_eq_true], by simp only [sg_eq, sg_ne, sp_n, Nat.reduceLT, ne_eq, Nat.reduceEqDiff, not_false_eq_true], by simp only [sg_eq, sg_ne, sp_n, Nat.reduceLT, ne_eq, Nat.reduceEqDiff, not_false_eq_true], by simp only [sg_eq, sg_ne, sp_n, Nat.reduceLT, ne_eq, Nat.reduceEqDiff, not_false_eq_true], by simp only [sg_eq, sg_ne, sp_n, Nat.reduceLT, ne_eq, Nat.reduceEqDiff, not_false_eq_true]; rfl, by simp only [sg_eq, sp_n, Nat.reduceLT]; rfl⟩ ?_
    rintro k s A' ⟨d, hd1, hd2, rfl, hA, hmin, hn, s0, s1, s2, s6, s8, s9⟩ ih
    (repeat (first | refine Rn.seq hc ?_ | refine Rn.skip hc ?_ | refine Rn.block hc ?_ | refine Rn.inBlock hc ?_ | refine Rn.scope hc ?_ | refine Rn.inScope hc ?_))
    by_cases hlt : d ≤ min 120 ro.length
    · have hd : decide ((d : Int) ≤ min 120 (ro.length : Int)) = true := by simp; omega
      have hrem : ∀ M, bin Try.prog .rem 3 (.int .i64 (ro.length : Int)) (.int .i64 (d : Int)) M = some (.int .i64 ((ro.length % d : Nat) : Int), M) := fun M => by
        rw [bin_rem _ _ _ _ (by omega), IntWalk.rem_in _ _ (by omega)]
        rfl
      refine Rn.reg hc rfl ?_
      simp only [sev_tmp, sg_eq, sg_ne, sp_n, Nat.reduceLT, ne_eq, Nat.reduceEqDiff, not_false_eq_true, gd, want_free, rops, fx, lng, bin_leq, Option.some.injEq, exists_eq_left', un22, hn, s2, s9, ae_mnc, mnc_int, hd]
      (repeat (first | refine Rn.seq hc ?_ | refine Rn.skip hc ?_ | refine Rn.block hc ?_ | refine Rn.inBlock hc ?_ | refine Rn.scope hc ?_ | refine Rn.inScope hc ?_))
      refine Rn.condE hc rfl ?_
      simp only [sev_tmp, sg_eq, sp_n, Nat.reduceLT, Value.bool.injEq, exists_eq_left', hn]
      (repeat (first | refine Rn.seq hc ?_ | refine Rn.skip hc ?_ | refine Rn.block hc ?_ | refine Rn.inBlock hc ?_ | refine Rn.scope hc ?_ | refine Rn.inScope hc ?_))
      by_cases hdiv : ro.length % d = 0
      · have hd3 : (!decide (((ro.length % d : Nat) : Int) = 0)) = false := by simp; omega
        refine Rn.reg hc rfl ?_
        simp only [sev_tmp, sev_const, sg_eq, sg_ne, sp_n, Nat.reduceLT, ne_eq, Nat.reduceEqDiff, not_false_eq_true, gd, want_free, rops, fx, lng, bin_neq, Option.some.injEq, exists_eq_left', un22, hn, s2, s9, hrem, hd3]
        (repeat (first | refine Rn.seq hc ?_ | refine Rn.skip hc ?_ | refine Rn.block hc ?_ | refine Rn.inBlock hc ?_ | refine Rn.scope hc ?_ | refine Rn.inScope hc ?_))
        refine Rn.condE hc rfl ?_
        simp only [sev_tmp, sg_eq, sp_n, Nat.reduceLT, Value.bool.injEq, exists_eq_left', hn]
        (repeat (first | refine Rn.seq hc ?_ | refine Rn.skip hc ?_ | refine Rn.block hc ?_ | refine Rn.inBlock hc ?_ | refine Rn.scope hc ?_ | refine Rn.inScope hc ?_))
        refine Rn.reg hc rfl ?_
        simp only [sev_tmp, sg_eq, sg_ne, sp_n, Nat.reduceLT, ne_eq, Nat.reduceEqDiff, not_false_eq_true, gd, want_free, rops, fx, Option.some.injEq, exists_eq_left', hn, s9]
        (repeat (first | refine Rn.seq hc ?_ | refine Rn.skip hc ?_ | refine Rn.block hc ?_ | refine Rn.inBlock hc ?_ | refine Rn.scope hc ?_ | refine Rn.inScope hc ?_))
        refine Rn.loopI hc (I := fun k s A' => ∃ i : Nat, d ≤ i ∧ i ≤ ro.length ∧ k = ro.length - i ∧ Nx A1.next A1 A' ∧ (∀ j, d ≤ j → j < i → ro.getD j 0 = ro.getD (j - d) 0) ∧ s.n = 112 ∧ sget s 0 = .int .i64 m ∧ sget s 1 = .slice sa st.length sc ∧ sget s 2 = .slice ra ro.length rc ∧ sget s 6 = .pointer (some ⟨A.next, 0, none⟩) ∧ sget s 8 = .int .i64 ((0 : Nat) : Int) ∧ sget s 9 = .int .i64 (d : Int) ∧ sget s 10 = .int .i64 (i : Int))
          (n := ro.length - d) ⟨d, Nat.le_refl _, by omega, rfl, hA, fun j h1 h2 => by omega, by simp only [sp_n, hn], by simp only [sg_ne, ne_eq, Nat.reduceEqDiff, not_false_eq_true, s0], by simp only [sg_ne, ne_eq, Nat.reduceEqDiff, not_false_eq_true, s1], by simp only [sg_ne, ne_eq, Nat.reduceEqDiff, not_false_eq_true, s2], by simp only [sg_ne, ne_eq, Nat.reduceEqDiff, not_false_eq_true, s6], by simp only [sg_ne, ne_eq, Nat.reduceEqDiff, not_false_eq_true, s8], by simp only [sg_ne, ne_eq, Nat.reduceEqDiff, not_false_eq_true, s9], by simp only [sg_eq, sp_n, Nat.reduceLT, hn]⟩ ?_
        clear hn s0 s1 s2 s6 s8 s9 s hA A' hd
        rintro k s A' ⟨i, hi1, hi2, rfl, hA, hper, hn, s0, s1, s2, s6, s8, s9, s10⟩ ihi
        (repeat (first | refine Rn.seq hc ?_ | refine Rn.skip hc ?_ | refine Rn.block hc ?_ | refine Rn.inBlock hc ?_ | refine Rn.scope hc ?_ | refine Rn.inScope hc ?_))
        by_cases hlti : i < ro.length
        · have hd : decide ((i : Int) < (ro.length : Int)) = true := by simp; omega
          have hx0 : Nx A.next A A' := hx1.trans (hA.le hx1.next)
          obtain ⟨bb, o, rfl, _, hb1, hcl⟩ := hr i hlti
          obtain ⟨bb', o', e', _, _, hcl'⟩ := hr (i - d) (by omega)
          cases e'
          have hcl : cl A' bb (o + i) = _ := (hx0.cl hb1 _).trans hcl
          have hcl' : cl A' bb (o + (i - d)) = _ := (hx0.cl hb1 _).trans hcl'
          have hsub : IntKind.i64.wrap ((i : Int) - (d : Int)) = ((i - d : Nat) : Int) := by rw [IntWalk.i64_in _ (by omega)]; omega
          refine Rn.reg hc rfl ?_
          simp only [sev_tmp, sg_eq, sg_ne, sp_n, Nat.reduceLT, ne_eq, Nat.reduceEqDiff, not_false_eq_true, gd, want_free, rops, fx, lng, bin_lss, Option.some.injEq, exists_eq_left', un22, hn, s2, s10, hd]
          (repeat (first | refine Rn.seq hc ?_ | refine Rn.skip hc ?_ | refine Rn.block hc ?_ | refine Rn.inBlock hc ?_ | refine Rn.scope hc ?_ | refine Rn.inScope hc ?_))
          refine Rn.condE hc rfl ?_
          simp only [sev_tmp, sg_eq, sp_n, Nat.reduceLT, Value.bool.injEq, exists_eq_left', hn]
          (repeat (first | refine Rn.seq hc ?_ | refine Rn.skip hc ?_ | refine Rn.block hc ?_ | refine Rn.inBlock hc ?_ | refine Rn.scope hc ?_ | refine Rn.inScope hc ?_))
          have hidl : i - d < ro.length := by omega
          by_cases heq : ro.getD i 0 = ro.getD (i - d) 0
          · have hne : (!decide (ro.getD i 0 = ro.getD (i - d) 0)) = false := by rw [decide_eq_true heq]; rfl
            refine Rn.drawnR hc hx (by kernel_rfl) (by rfl) (by kernel_rfl) ?_ ?_
            · simp only [rdV, VQ.int, VQ.bool, VQ.ptr, VQ.slice, cl_bump, sev_tmp, sg_eq, sg_ne, sp_n, Nat.reduceLT, ne_eq, Nat.reduceEqDiff, not_false_eq_true, gd, want_free, fx, ld, idx, bin_neq, bin_sub, adr_p, Nat.zero_add, Nat.reduceAdd, Nat.mul_one, and_self, tk3, eo22, hn, s2, s9, s10, nlen_nat hlti, nlen_nat hidl, hsub, hcl, hcl', hne, List.length_cons, List.length_nil]
            simp only [cl_bump, sev_tmp, sg_eq, sg_ne, sp_n, Nat.reduceLT, ne_eq, Nat.reduceEqDiff, not_false_eq_true, gd, want_free, rops, fx, ld, idx, bin_neq, bin_sub, adr_p, Nat.zero_add, Option.some.injEq, exists_eq_left', Nat.reduceAdd, Nat.mul_one, tk3, eo22, hn, s2, s9, s10, nlen_nat hlti, nlen_nat hidl, hsub, hcl, hcl', hne, List.length_cons, List.length_nil]
            (repeat (first | refine Rn.seq hc ?_ | refine Rn.skip hc ?_ | refine Rn.block hc ?_ | refine Rn.inBlock hc ?_ | refine Rn.scope hc ?_ | refine Rn.inScope hc ?_))
            refine Rn.condE hc rfl ?_
            simp only [sev_tmp, sg_eq, sp_n, Nat.reduceLT, Value.bool.injEq, exists_eq_left', hn]
            (repeat (first | refine Rn.seq hc ?_ | refine Rn.skip hc ?_ | refine Rn.block hc ?_ | refine Rn.inBlock hc ?_ | refine Rn.scope hc ?_ | refine Rn.inScope hc ?_))
            refine Rn.reg hc rfl ?_
            simp only [sev_tmp, sev_const, sg_eq, sg_ne, sp_n, Nat.reduceLT, ne_eq, Nat.reduceEqDiff, not_false_eq_true, gd, want_free, rops, fx, bin_add, Option.some.injEq, exists_eq_left', hn, s10, wrap_succ (show i < 9223372036854775807 by omega)]
            (repeat (first | refine Rn.seq hc ?_ | refine Rn.skip hc ?_ | refine Rn.block hc ?_ | refine Rn.inBlock hc ?_ | refine Rn.scope hc ?_ | refine Rn.inScope hc ?_))
            refine ihi _ _ _ (by omega) ⟨i + 1, by omega, by omega, rfl, Nx.bump hA _, fun j h1 h2 => ?_, by simp only [sp_n, hn], by simp only [sg_ne, ne_eq, Nat.reduceEqDiff, not_false_eq_true, s0], by simp only [sg_ne, ne_eq, Nat.reduceEqDiff, not_false_eq_true, s1], by simp only [sg_ne, ne_eq, Nat.reduceEqDiff, not_false_eq_true, s2], by simp only [sg_ne, ne_eq, Nat.reduceEqDiff, not_false_eq_true, s6], by simp only [sg_ne, ne_eq, Nat.reduceEqDiff, not_false_eq_true, s8], by simp only [sg_ne, ne_eq, Nat.reduceEqDiff, not_false_eq_true, s9], by simp only [sg_eq, sp_n, Nat.reduceLT, hn]⟩
            by_cases hji : j = i
            · subst hji; exact heq
            · exact hper j h1 (by omega)
          · have hne : (!decide (ro.getD i 0 = ro.getD (i - d) 0)) = true := by rw [decide_eq_false heq]; rfl
            refine Rn.drawnR hc hx (by kernel_rfl) (by rfl) (by kernel_rfl) ?_ ?_
            · simp only [rdV, VQ.int, VQ.bool, VQ.ptr, VQ.slice, cl_bump, sev_tmp, sg_eq, sg_ne, sp_n, Nat.reduceLT, ne_eq, Nat.reduceEqDiff, not_false_eq_true, gd, want_free, fx, ld, idx, bin_neq, bin_sub, adr_p, Nat.zero_add, Nat.reduceAdd, Nat.mul_one, and_self, tk3, eo22, hn, s2, s9, s10, nlen_nat hlti, nlen_nat hidl, hsub, hcl, hcl', hne, List.length_cons, List.length_nil]
            simp only [cl_bump, sev_tmp, sg_eq, sg_ne, sp_n, Nat.reduceLT, ne_eq, Nat.reduceEqDiff, not_false_eq_true, gd, want_free, rops, fx, ld, idx, bin_neq, bin_sub, adr_p, Nat.zero_add, Option.some.injEq, exists_eq_left', Nat.reduceAdd, Nat.mul_one, tk3, eo22, hn, s2, s9, s10, nlen_nat hlti, nlen_nat hidl, hsub, hcl, hcl', hne, List.length_cons, List.length_nil]
            (repeat (first | refine Rn.seq hc ?_ | refine Rn.skip hc ?_ | refine Rn.block hc ?_ | refine Rn.inBlock hc ?_ | refine Rn.scope hc ?_ | refine Rn.inScope hc ?_))
            refine Rn.condE hc rfl ?_
            simp only [sev_tmp, sg_eq, sp_n, Nat.reduceLT, Value.bool.injEq, exists_eq_left', hn]
            (repeat (first | refine Rn.seq hc ?_ | refine Rn.skip hc ?_ | refine Rn.block hc ?_ | refine Rn.inBlock hc ?_ | refine Rn.scope hc ?_ | refine Rn.inScope hc ?_))
            refine Rn.exit hc rfl ?_
            (repeat (first | refine Rn.seq hc ?_ | refine Rn.skip hc ?_ | refine Rn.block hc ?_ | refine Rn.inBlock hc ?_ | refine Rn.scope hc ?_ | refine Rn.inScope hc ?_))
            refine Rn.reg hc rfl ?_
            simp only [sev_tmp, sev_const, sg_eq, sg_ne, sp_n, Nat.reduceLT, ne_eq, Nat.reduceEqDiff, not_false_eq_true, gd, want_free, rops, fx, bin_add, Option.some.injEq, exists_eq_left', hn, s9, wrap_succ (show d < 9223372036854775807 by omega)]
            (repeat (first | refine Rn.seq hc ?_ | refine Rn.skip hc ?_ | refine Rn.block hc ?_ | refine Rn.inBlock hc ?_ | refine Rn.scope hc ?_ | refine Rn.inScope hc ?_))
            refine ih _ _ _ (by omega) ⟨d + 1, by omega, by omega, rfl, Nx.bump hA _, fun e h1 h2 => ?_, by simp only [sp_n, hn], by simp only [sg_ne, ne_eq, Nat.reduceEqDiff, not_false_eq_true, s0], by simp only [sg_ne, ne_eq, Nat.reduceEqDiff, not_false_eq_true, s1], by simp only [sg_ne, ne_eq, Nat.reduceEqDiff, not_false_eq_true, s2], by simp only [sg_ne, ne_eq, Nat.reduceEqDiff, not_false_eq_true, s6], by simp only [sg_ne, ne_eq, Nat.reduceEqDiff, not_false_eq_true, s8], by simp only [sg_eq, sp_n, Nat.reduceLT, hn]⟩
            by_cases hed : e = d
            · subst hed
              cases hp : perOK ro e with
              | false => rfl
              | true => exact absurd ((perOK_iff.1 hp).2 i hi1 hlti) heq
            · exact hmin e h1 (by omega)
        · have hd : decide ((i : Int) < (ro.length : Int)) = false := by simp; omega
          have hil : i = ro.length := by omega
          clear ih ihi
          refine Rn.reg hc rfl ?_
          simp only [sev_tmp, sg_eq, sg_ne, sp_n, Nat.reduceLT, ne_eq, Nat.reduceEqDiff, not_false_eq_true, gd, want_free, rops, fx, lng, bin_lss, Option.some.injEq, exists_eq_left', un22, hn, s2, s10, hd]
          (repeat (first | refine Rn.seq hc ?_ | refine Rn.skip hc ?_ | refine Rn.block hc ?_ | refine Rn.inBlock hc ?_ | refine Rn.scope hc ?_ | refine Rn.inScope hc ?_))
          refine Rn.condE hc rfl ?_
          simp only [sev_tmp, sg_eq, sp_n, Nat.reduceLT, Value.bool.injEq, exists_eq_left', hn]
          (repeat (first | refine Rn.seq hc ?_ | refine Rn.skip hc ?_ | refine Rn.block hc ?_ | refine Rn.inBlock hc ?_ | refine Rn.scope hc ?_ | refine Rn.inScope hc ?_))
          refine Rn.exit hc rfl ?_
          (repeat (first | refine Rn.seq hc ?_ | refine Rn.skip hc ?_ | refine Rn.block hc ?_ | refine Rn.inBlock hc ?_ | refine Rn.scope hc ?_ | refine Rn.inScope hc ?_))
          refine Rn.reg hc rfl ?_
          simp only [sev_tmp, sg_eq, sg_ne, sp_n, Nat.reduceLT, ne_eq, Nat.reduceEqDiff, not_false_eq_true, gd, want_free, rops, fx, Option.some.injEq, exists_eq_left', hn, s9]
          (repeat (first | refine Rn.seq hc ?_ | refine Rn.skip hc ?_ | refine Rn.block hc ?_ | refine Rn.inBlock hc ?_ | refine Rn.scope hc ?_ | refine Rn.inScope hc ?_))
          refine Rn.exit hc rfl ?_
          (repeat (first | refine Rn.seq hc ?_ | refine Rn.skip hc ?_ | refine Rn.block hc ?_ | refine Rn.inBlock hc ?_ | refine Rn.scope hc ?_ | refine Rn.inScope hc ?_))
          refine Rn.fall ⟨rfl, hA, by simp only [sp_n, hn], by simp only [sg_ne, ne_eq, Nat.reduceEqDiff, not_false_eq_true, s0], by simp only [sg_ne, ne_eq, Nat.reduceEqDiff, not_false_eq_true, s1], by simp only [sg_ne, ne_eq, Nat.reduceEqDiff, not_false_eq_true, s2], by simp only [sg_ne, ne_eq, Nat.reduceEqDiff, not_false_eq_true, s6], d, by simp only [sg_eq, sp_n, Nat.reduceLT, hn], .inr ⟨hd1, by omega, perOK_iff.2 ⟨hdiv, fun j h1 h2 => hper j h1 (by omega)⟩, hmin⟩⟩
      · have hd3 : (!decide (((ro.length % d : Nat) : Int) = 0)) = true := by simp; omega
        refine Rn.reg hc rfl ?_
        simp only [sev_tmp, sev_const, sg_eq, sg_ne, sp_n, Nat.reduceLT, ne_eq, Nat.reduceEqDiff, not_false_eq_true, gd, want_free, rops, fx, lng, bin_neq, Option.some.injEq, exists_eq_left', un22, hn, s2, s9, hrem, hd3]
        (repeat (first | refine Rn.seq hc ?_ | refine Rn.skip hc ?_ | refine Rn.block hc ?_ | refine Rn.inBlock hc ?_ | refine Rn.scope hc ?_ | refine Rn.inScope hc ?_))
        refine Rn.condE hc rfl ?_
        simp only [sev_tmp, sg_eq, sp_n, Nat.reduceLT, Value.bool.injEq, exists_eq_left', hn]
        (repeat (first | refine Rn.seq hc ?_ | refine Rn.skip hc ?_ | refine Rn.block hc ?_ | refine Rn.inBlock hc ?_ | refine Rn.scope hc ?_ | refine Rn.inScope hc ?_))
        refine Rn.exit hc rfl ?_
        (repeat (first | refine Rn.seq hc ?_ | refine Rn.skip hc ?_ | refine Rn.block hc ?_ | refine Rn.inBlock hc ?_ | refine Rn.scope hc ?_ | refine Rn.inScope hc ?_))
        refine Rn.reg hc rfl ?_
        simp only [sev_tmp, sev_const, sg_eq, sg_ne, sp_n, Nat.reduceLT, ne_eq, Nat.reduceEqDiff, not_false_eq_true, gd, want_free, rops, fx, bin_add, Option.some.injEq, exists_eq_left', hn, s9, wrap_succ (show d < 9223372036854775807 by omega)]
        (repeat (first | refine Rn.seq hc ?_ | refine Rn.skip hc ?_ | refine Rn.block hc ?_ | refine Rn.inBlock hc ?_ | refine Rn.scope hc ?_ | refine Rn.inScope hc ?_))
        refine ih _ _ _ (by omega) ⟨d + 1, by omega, by omega, rfl, hA, fun e h1 h2 => ?_, by simp only [sp_n, hn], by simp only [sg_ne, ne_eq, Nat.reduceEqDiff, not_false_eq_true, s0], by simp only [sg_ne, ne_eq, Nat.reduceEqDiff, not_false_eq_true, s1], by simp only [sg_ne, ne_eq, Nat.reduceEqDiff, not_false_eq_true, s2], by simp only [sg_ne, ne_eq, Nat.reduceEqDiff, not_false_eq_true, s6], by simp only [sg_ne, ne_eq, Nat.reduceEqDiff, not_false_eq_true, s8], by simp only [sg_eq, sp_n, Nat.reduceLT, hn]⟩
        by_cases hed : e = d
        · subst hed
          cases hp : perOK ro e with
          | false => rfl
          | true => exact absurd (perOK_iff.1 hp).1 hdiv
        · exact hmin e h1 (by omega)
    · have hd : decide ((d : Int) ≤ min 120 (ro.length : Int)) = false := by simp; omega
      clear ih
      have hdl : d ≤ ro.length := Nat.le_of_not_lt fun hh => by
        have := hmin ro.length hro hh
        rw [perOK_self] at this
        cases this
      refine Rn.reg hc rfl ?_
      simp only [sev_tmp, sg_eq, sg_ne, sp_n, Nat.reduceLT, ne_eq, Nat.reduceEqDiff, not_false_eq_true, gd, want_free, rops, fx, lng, bin_leq, Option.some.injEq, exists_eq_left', un22, hn, s2, s9, ae_mnc, mnc_int, hd]
      (repeat (first | refine Rn.seq hc ?_ | refine Rn.skip hc ?_ | refine Rn.block hc ?_ | refine Rn.inBlock hc ?_ | refine Rn.scope hc ?_ | refine Rn.inScope hc ?_))
      refine Rn.condE hc rfl ?_
      simp only [sev_tmp, sg_eq, sp_n, Nat.reduceLT, Value.bool.injEq, exists_eq_left', hn]
      (repeat (first | refine Rn.seq hc ?_ | refine Rn.skip hc ?_ | refine Rn.block hc ?_ | refine Rn.inBlock hc ?_ | refine Rn.scope hc ?_ | refine Rn.inScope hc ?_))
      refine Rn.exit hc rfl ?_
      (repeat (first | refine Rn.seq hc ?_ | refine Rn.skip hc ?_ | refine Rn.block hc ?_ | refine Rn.inBlock hc ?_ | refine Rn.scope hc ?_ | refine Rn.inScope hc ?_))
      refine Rn.fall ⟨rfl, hA, by simp only [sp_n, hn], by simp only [sg_ne, ne_eq, Nat.reduceEqDiff, not_false_eq_true, s0], by simp only [sg_ne, ne_eq, Nat.reduceEqDiff, not_false_eq_true, s1], by simp only [sg_ne, ne_eq, Nat.reduceEqDiff, not_false_eq_true, s2], by simp only [sg_ne, ne_eq, Nat.reduceEqDiff, not_false_eq_true, s6], 0, by simp only [sg_ne, ne_eq, Nat.reduceEqDiff, not_false_eq_true, s8], .inl ⟨rfl, fun e h1 h2 => hmin e h1 (by omega)⟩⟩
  · rintro s ds B ⟨rfl, hB, hn, s0, s1, s2, s6, d, s8, hd⟩
    have hr24 : ∀ {D : AHeap} {v0 v1 v2 : Value}, Nx A1.next A1 D → [v0, v1, v2].all isCell = true → ∃ D', sts D A.next 0 [v0, v1, v2] = some D' ∧ D'.next = D.next ∧ WF D' ∧ (∀ b, b ≠ A.next → Canon.look D'.objs b = Canon.look D.objs b) ∧ cl D' A.next 0 = some v0 ∧ cl D' A.next 1 = some v1 ∧ cl D' A.next 2 = some v2 := fun {D v0 v1 v2} hD hv => by
      obtain ⟨D', c', q1, q2, q3, q4⟩ := sts_upd (l := [v0, v1, v2]) (o := 0) ((hD.keep A.next (by omega)).trans l1) rfl (by simp) hv
      exact ⟨D', q1, q2.next, (q2.nx hD.wf (Nat.zero_le _)).wf, q2.off, by rw [q2.cl, q4]; rfl, by rw [q2.cl, q4]; rfl, by rw [q2.cl, q4]; rfl⟩
    obtain ⟨a0, p0, hred, ha0, hp0, hpk⟩ := red_exists st hro
    rcases hd with ⟨rfl, hno⟩ | ⟨hd0, hd120, hdk, hmin⟩
    · obtain ⟨D, q1, q2, q3, q4, g0, g1, g2⟩ := hr24 (v0 := .int .i64 0) (v1 := .slice none 0 0) (v2 := .slice none 0 0) hB rfl
      (repeat (first | refine Rn.seq hc ?_ | refine Rn.skip hc ?_ | refine Rn.block hc ?_ | refine Rn.inBlock hc ?_ | refine Rn.scope hc ?_ | refine Rn.inScope hc ?_))
      refine Rn.reg hc rfl ?_
      simp only [sev_tmp, sev_const, sg_eq, Nat.reduceLT, gd, want_free, rops, fx, bin_eql, Option.some.injEq, exists_eq_left', hn, s8, Int.natCast_zero, eq_self, decide_true]
      (repeat (first | refine Rn.seq hc ?_ | refine Rn.skip hc ?_ | refine Rn.block hc ?_ | refine Rn.inBlock hc ?_ | refine Rn.scope hc ?_ | refine Rn.inScope hc ?_))
      refine Rn.condE hc rfl ?_
      simp only [sev_tmp, sg_eq, sp_n, Nat.reduceLT, Value.bool.injEq, exists_eq_left', hn]
      (repeat (first | refine Rn.seq hc ?_ | refine Rn.skip hc ?_ | refine Rn.block hc ?_ | refine Rn.inBlock hc ?_ | refine Rn.scope hc ?_ | refine Rn.inScope hc ?_))
      refine Rn.reg hc rfl ?_
      simp only [sev_tmp, sev_const, sg_eq, sg_ne, sp_n, sp_none, Nat.reduceLT, ne_eq, Nat.reduceEqDiff, not_false_eq_true, gd, want_free, rops, fx, str, adr_p, Nat.zero_add, Option.some.injEq, exists_eq_left', Nat.reduceAdd, tk24, hn, s6, bd24_z, q1, List.size_toArray, List.length_cons, List.length_nil, Nat.beq_refl]
      (repeat (first | refine Rn.seq hc ?_ | refine Rn.skip hc ?_ | refine Rn.block hc ?_ | refine Rn.inBlock hc ?_ | refine Rn.scope hc ?_ | refine Rn.inScope hc ?_))
      refine Rn.ret (endQ_ct rfl (v := .agg #[.int .i64 0, .slice none 0 0, .slice none 0 0]) ?_ ⟨a0, p0, hred, ha0, hp0, ⟨by have := hB.next; omega, q3, fun b hb => by rw [q4 _ (by omega), hB.keep _ (by omega), hx1.keep _ hb]⟩, ?_⟩)
      · simp only [sg_ne, ne_eq, Nat.reduceEqDiff, not_false_eq_true, ld, adr_p, cls, Nat.zero_add, Nat.reduceAdd, tk24, s6, g0, g1, g2]
      · have : 120 < p0 := Nat.lt_of_not_le fun hle => by
          rw [hno p0 hred.per.pos (by omega)] at hpk
          cases hpk
        rw [if_pos (.inl this)]
        simp only [sg_eq, sp_n, Nat.reduceLT, hn]
    · have hper := perOK_per (st := st) hro hd0 hdk
      have hpmin : ∀ N e, Per (atL st ro) N e → d ≤ e := fun N e => min_per hro hmin
      have hdl := perOK_le hro hdk
      have hdz : decide ((d : Int) = 0) = false := by simp; omega
      obtain ⟨C, p2, hx2, hn2, l2⟩ := put24L hB.wf (v0 := .int .i64 m) (v1 := .slice none 0 0) (v2 := .slice none 0 0) rfl
      have hC : Nx A1.next A1 C := hB.trans (hx2.le hB.next)
      have hBn := hB.next
      (repeat (first | refine Rn.seq hc ?_ | refine Rn.skip hc ?_ | refine Rn.block hc ?_ | refine Rn.inBlock hc ?_ | refine Rn.scope hc ?_ | refine Rn.inScope hc ?_))
      refine Rn.reg hc rfl ?_
      simp only [sev_tmp, sev_const, sg_eq, Nat.reduceLT, gd, want_free, rops, fx, bin_eql, Option.some.injEq, exists_eq_left', hn, s8, hdz]
      (repeat (first | refine Rn.seq hc ?_ | refine Rn.skip hc ?_ | refine Rn.block hc ?_ | refine Rn.inBlock hc ?_ | refine Rn.scope hc ?_ | refine Rn.inScope hc ?_))
      refine Rn.condE hc rfl ?_
      simp only [sev_tmp, sg_eq, sp_n, Nat.reduceLT, Value.bool.injEq, exists_eq_left', hn]
      (repeat (first | refine Rn.seq hc ?_ | refine Rn.skip hc ?_ | refine Rn.block hc ?_ | refine Rn.inBlock hc ?_ | refine Rn.scope hc ?_ | refine Rn.inScope hc ?_))
      refine Rn.reg hc rfl ?_
      simp only [sev_tmp, sg_eq, sg_ne, sp_n, sp_none, Nat.reduceLT, ne_eq, Nat.reduceEqDiff, not_false_eq_true, gd, want_free, rops, fx, str, adr_p, Nat.zero_add, Option.some.injEq, exists_eq_left', Value.cells, Nat.reduceAdd, tk24, hn, s0, bd24_0, isCell, ze24, p2, List.size_toArray, List.length_cons, List.length_nil, Nat.beq_refl]
      (repeat (first | refine Rn.seq hc ?_ | refine Rn.skip hc ?_ | refine Rn.block hc ?_ | refine Rn.inBlock hc ?_ | refine Rn.scope hc ?_ | refine Rn.inScope hc ?_))
      refine Rn.reg hc rfl ?_
      simp only [sev_tmp, sg_eq, sg_ne, sp_n, Nat.reduceLT, ne_eq, Nat.reduceEqDiff, not_false_eq_true, gd, want_free, rops, fx, lng, Option.some.injEq, exists_eq_left', un22, hn, s1]
      (repeat (first | refine Rn.seq hc ?_ | refine Rn.skip hc ?_))
      refine Rn.cut2 hc (Q1 := fun s ds D => ds = [] ∧ Nx C.next C D ∧ s.n = 112 ∧ sget s 0 = .int .i64 m ∧ sget s 1 = .slice sa st.length sc ∧ sget s 2 = .slice ra ro.length rc ∧ sget s 6 = .pointer (some ⟨A.next, 0, none⟩) ∧ sget s 8 = .int .i64 (d : Int) ∧ sget s 11 = .pointer (some ⟨B.next, 0, none⟩) ∧ ∃ e : Nat, e ≤ st.length ∧ sget s 12 = .int .i64 (e : Int) ∧ Red (atL st ro) e d)
        (Q2 := fun _ _ _ => False) ?_ ?_ ?_
      · (repeat (first | refine Rn.seq hc ?_ | refine Rn.skip hc ?_ | refine Rn.block hc ?_ | refine Rn.inBlock hc ?_ | refine Rn.scope hc ?_ | refine Rn.inScope hc ?_))
        refine Rn.loopI hc (I := fun k s A' => ∃ e : Nat, e ≤ st.length ∧ k = e ∧ Nx C.next C A' ∧ Per (atL st ro) e d ∧ s.n = 112 ∧ sget s 0 = .int .i64 m ∧ sget s 1 = .slice sa st.length sc ∧ sget s 2 = .slice ra ro.length rc ∧ sget s 6 = .pointer (some ⟨A.next, 0, none⟩) ∧ sget s 8 = .int .i64 (d : Int) ∧ sget s 11 = .pointer (some ⟨B.next, 0, none⟩) ∧ sget s 12 = .int .i64 (e : Int))
          (n := st.length) ⟨st.length, Nat.le_refl _, rfl, Nx.refl hx2.wf _, hper, by simp only [sp_n, hn], by simp only [sg_ne, ne_eq, Nat.reduceEqDiff, not_false_eq_true, s0], by simp only [sg_ne, ne_eq, Nat.reduceEqDiff, not_false_eq_true, s1], by simp only [sg_ne, ne_eq, Nat.reduceEqDiff, not_false_eq_true, s2], by simp only [sg_ne, ne_eq, Nat.reduceEqDiff, not_false_eq_true, s6], by simp only [sg_ne, ne_eq, Nat.reduceEqDiff, not_false_eq_true, s8], by simp only [sg_eq, sg_ne, sp_n, Nat.reduceLT, ne_eq, Nat.reduceEqDiff, not_false_eq_true, hn], by simp only [sg_eq, sp_n, Nat.reduceLT, hn]⟩ ?_
        clear hn s0 s1 s2 s6 s8 s
        rintro k s A' ⟨e, he, hke, hA, hpe, hn, s0, s1, s2, s6, s8, s11, s12⟩ ih
        (repeat (first | refine Rn.seq hc ?_ | refine Rn.skip hc ?_ | refine Rn.block hc ?_ | refine Rn.inBlock hc ?_ | refine Rn.scope hc ?_ | refine Rn.inScope hc ?_))
        by_cases he0 : e = 0
        · subst he0
          clear ih
          have hd0' : decide ((0 : Int) < ((0 : Nat) : Int)) = false := rfl
          refine Rn.drawnR hc hx (by kernel_rfl) (by rfl) (by kernel_rfl) ?_ ?_
          · simp only [rdV, VQ.int, VQ.bool, sev_tmp, sev_const, sg_eq, sg_ne, sp_n, Nat.reduceLT, ne_eq, Nat.reduceEqDiff, not_false_eq_true, gd, nth, want_free, want_slot, beqB, fx, pck, bin_gtr, Nat.zero_add, Nat.reduceAdd, and_self, hn, s12, hd0', List.length_cons, List.length_nil]
          simp only [sev_tmp, sev_const, sg_eq, sg_ne, sp_n, Nat.reduceLT, ne_eq, Nat.reduceEqDiff, not_false_eq_true, gd, nth, want_free, want_slot, beqB, rops, fx, pck, bin_gtr, Nat.zero_add, Option.some.injEq, exists_eq_left', Nat.reduceAdd, hn, s12, hd0', List.length_cons, List.length_nil]
          (repeat (first | refine Rn.seq hc ?_ | refine Rn.skip hc ?_ | refine Rn.block hc ?_ | refine Rn.inBlock hc ?_ | refine Rn.scope hc ?_ | refine Rn.inScope hc ?_))
          refine Rn.condE hc rfl ?_
          simp only [sev_tmp, sg_eq, sp_n, Nat.reduceLT, Value.bool.injEq, exists_eq_left', hn]
          (repeat (first | refine Rn.seq hc ?_ | refine Rn.skip hc ?_ | refine Rn.block hc ?_ | refine Rn.inBlock hc ?_ | refine Rn.scope hc ?_ | refine Rn.inScope hc ?_))
          refine Rn.exit hc rfl ?_
          (repeat (first | refine Rn.seq hc ?_ | refine Rn.skip hc ?_ | refine Rn.block hc ?_ | refine Rn.inBlock hc ?_ | refine Rn.scope hc ?_ | refine Rn.inScope hc ?_))
          exact Rn.fall ⟨rfl, Nx.bump hA _, by simp only [sp_n, hn], by simp only [sg_ne, ne_eq, Nat.reduceEqDiff, not_false_eq_true, s0], by simp only [sg_ne, ne_eq, Nat.reduceEqDiff, not_false_eq_true, s1], by simp only [sg_ne, ne_eq, Nat.reduceEqDiff, not_false_eq_true, s2], by simp only [sg_ne, ne_eq, Nat.reduceEqDiff, not_false_eq_true, s6], by simp only [sg_ne, ne_eq, Nat.reduceEqDiff, not_false_eq_true, s8], by simp only [sg_ne, ne_eq, Nat.reduceEqDiff, not_false_eq_true, s11], 0, by omega, by simp only [sg_ne, ne_eq, Nat.reduceEqDiff, not_false_eq_true, s12], red_of hpe hpmin (fun h => absurd h (by omega))⟩
        · have hd0' : decide ((0 : Int) < (e : Int)) = true := by simp; omega
          have hA0 : Nx A.next A A' := hx1.trans ((hC.trans (hA.le (by have := hC.next; omega))).le hx1.next)
          obtain ⟨r, ix, hr1, hr2, hr3, hix, hr4, hr5⟩ := emod_idx (x := ((e - 1 : Nat) : Int) - (st.length : Int)) hd0
          have hmodE := hr5 st.length (e - 1) rfl
          have hidx : ix < ro.length := by omega
          have hel : e - 1 < st.length := by omega
          obtain ⟨bb, o, rfl, _, hb1, hcl⟩ := hs (e - 1) hel
          obtain ⟨bb', o', rfl, _, hb2, hcl'⟩ := hr ix hidx
          have hcl : cl A' bb (o + (e - 1)) = _ := (hA0.cl hb1 _).trans hcl
          have hcl' : cl A' bb' (o' + ix) = _ := (hA0.cl hb2 _).trans hcl'
          have hw1 : IntKind.i64.wrap ((e : Int) - 1) = ((e - 1 : Nat) : Int) := by rw [IntWalk.i64_in _ (by omega)]; omega
          have hw2 : IntKind.i64.wrap (((e - 1 : Nat) : Int) - (st.length : Int)) = ((e - 1 : Nat) : Int) - (st.length : Int) := by rw [IntWalk.i64_in _ (by omega)]
          have hrem1 : ∀ M, bin Try.prog .rem 3 (.int .i64 (((e - 1 : Nat) : Int) - (st.length : Int))) (.int .i64 (d : Int)) M = some (.int .i64 r, M) := fun M => by rw [bin_rem _ _ _ _ (by omega), hr1]
          have hw3 : IntKind.i64.wrap (r + (d : Int)) = r + (d : Int) := by rw [IntWalk.i64_in _ (by omega)]
          have hrem2 : ∀ M, bin Try.prog .rem 3 (.int .i64 (r + (d : Int))) (.int .i64 (d : Int)) M = some (.int .i64 (ix : Int), M) := fun M => by rw [bin_rem _ _ _ _ (by omega), hr4]
          have hsame : ro.getD ix 0 = atL st ro (e - 1 + d) := by
            rw [← atL_ro (st := st) hidx]
            exact hpe.same (by omega) (by omega) (by rw [hmodE, Nat.add_mod_right])
          by_cases heq : st.getD (e - 1) 0 = ro.getD ix 0
          · have hdq : decide (st.getD (e - 1) 0 = ro.getD ix 0) = true := decide_eq_true heq
            refine Rn.drawnR hc hx (by kernel_rfl) (by rfl) (by kernel_rfl) ?_ ?_
            · simp only [rdV, VQ.int, VQ.bool, VQ.ptr, VQ.slice, cl_bump, sev_tmp, sev_const, sg_eq, sg_ne, sp_n, Nat.reduceLT, ne_eq, Nat.reduceEqDiff, not_false_eq_true, gd, nth, want_free, want_slot, beqB, fx, ld, idx, lng, pck, bin_gtr, bin_eql, bin_add, bin_sub, adr_p, Nat.zero_add, Nat.reduceAdd, Nat.mul_one, and_self, tk3, un22, eo22, hn, s1, s2, s8, s12, hd0', hw1, hw2, hrem1, hw3, hrem2, nlen_nat hel, nlen_nat hidx, hcl, hcl', hdq, List.length_cons, List.length_nil]
            simp only [cl_bump, sev_tmp, sev_const, sg_eq, sg_ne, sp_n, Nat.reduceLT, ne_eq, Nat.reduceEqDiff, not_false_eq_true, gd, nth, want_free, want_slot, beqB, rops, fx, ld, idx, lng, pck, bin_gtr, bin_eql, bin_add, bin_sub, adr_p, Nat.zero_add, Option.some.injEq, exists_eq_left', Nat.reduceAdd, Nat.mul_one, tk3, un22, eo22, hn, s1, s2, s8, s12, hd0', hw1, hw2, hrem1, hw3, hrem2, nlen_nat hel, nlen_nat hidx, hcl, hcl', hdq, List.length_cons, List.length_nil]
            (repeat (first | refine Rn.seq hc ?_ | refine Rn.skip hc ?_ | refine Rn.block hc ?_ | refine Rn.inBlock hc ?_ | refine Rn.scope hc ?_ | refine Rn.inScope hc ?_))
            refine Rn.condE hc rfl ?_
            simp only [sev_tmp, sg_eq, sp_n, Nat.reduceLT, Value.bool.injEq, exists_eq_left', hn]
            (repeat (first | refine Rn.seq hc ?_ | refine Rn.skip hc ?_ | refine Rn.block hc ?_ | refine Rn.inBlock hc ?_ | refine Rn.scope hc ?_ | refine Rn.inScope hc ?_))
            refine Rn.reg hc rfl ?_
            simp only [sev_tmp, sev_const, sg_eq, sg_ne, sp_n, Nat.reduceLT, ne_eq, Nat.reduceEqDiff, not_false_eq_true, gd, want_free, rops, fx, bin_sub, Option.some.injEq, exists_eq_left', hn, s12, hw1]
            (repeat (first | refine Rn.seq hc ?_ | refine Rn.skip hc ?_ | refine Rn.block hc ?_ | refine Rn.inBlock hc ?_ | refine Rn.scope hc ?_ | refine Rn.inScope hc ?_))
            refine ih _ _ _ (by omega) ⟨e - 1, by omega, rfl, Nx.bump hA _, Per.back (by rw [show e - 1 + 1 = e by omega]; exact hpe) (by rw [atL_st hel, heq, hsame]), by simp only [sp_n, hn], by simp only [sg_ne, ne_eq, Nat.reduceEqDiff, not_false_eq_true, s0], by simp only [sg_ne, ne_eq, Nat.reduceEqDiff, not_false_eq_true, s1], by simp only [sg_ne, ne_eq, Nat.reduceEqDiff, not_false_eq_true, s2], by simp only [sg_ne, ne_eq, Nat.reduceEqDiff, not_false_eq_true, s6], by simp only [sg_ne, ne_eq, Nat.reduceEqDiff, not_false_eq_true, s8], by simp only [sg_ne, ne_eq, Nat.reduceEqDiff, not_false_eq_true, s11], by simp only [sg_eq, sp_n, Nat.reduceLT, hn]⟩
          · have hdq : decide (st.getD (e - 1) 0 = ro.getD ix 0) = false := decide_eq_false heq
            clear ih
            refine Rn.drawnR hc hx (by kernel_rfl) (by rfl) (by kernel_rfl) ?_ ?_
            · simp only [rdV, VQ.int, VQ.bool, VQ.ptr, VQ.slice, cl_bump, sev_tmp, sev_const, sg_eq, sg_ne, sp_n, Nat.reduceLT, ne_eq, Nat.reduceEqDiff, not_false_eq_true, gd, nth, want_free, want_slot, beqB, fx, ld, idx, lng, pck, bin_gtr, bin_eql, bin_add, bin_sub, adr_p, Nat.zero_add, Nat.reduceAdd, Nat.mul_one, and_self, tk3, un22, eo22, hn, s1, s2, s8, s12, hd0', hw1, hw2, hrem1, hw3, hrem2, nlen_nat hel, nlen_nat hidx, hcl, hcl', hdq, List.length_cons, List.length_nil]
            simp only [cl_bump, sev_tmp, sev_const, sg_eq, sg_ne, sp_n, Nat.reduceLT, ne_eq, Nat.reduceEqDiff, not_false_eq_true, gd, nth, want_free, want_slot, beqB, rops, fx, ld, idx, lng, pck, bin_gtr, bin_eql, bin_add, bin_sub, adr_p, Nat.zero_add, Option.some.injEq, exists_eq_left', Nat.reduceAdd, Nat.mul_one, tk3, un22, eo22, hn, s1, s2, s8, s12, hd0', hw1, hw2, hrem1, hw3, hrem2, nlen_nat hel, nlen_nat hidx, hcl, hcl', hdq, List.length_cons, List.length_nil]
            (repeat (first | refine Rn.seq hc ?_ | refine Rn.skip hc ?_ | refine Rn.block hc ?_ | refine Rn.inBlock hc ?_ | refine Rn.scope hc ?_ | refine Rn.inScope hc ?_))
            refine Rn.condE hc rfl ?_
            simp only [sev_tmp, sg_eq, sp_n, Nat.reduceLT, Value.bool.injEq, exists_eq_left', hn]
            (repeat (first | refine Rn.seq hc ?_ | refine Rn.skip hc ?_ | refine Rn.block hc ?_ | refine Rn.inBlock hc ?_ | refine Rn.scope hc ?_ | refine Rn.inScope hc ?_))
            refine Rn.exit hc rfl ?_
            (repeat (first | refine Rn.seq hc ?_ | refine Rn.skip hc ?_ | refine Rn.block hc ?_ | refine Rn.inBlock hc ?_ | refine Rn.scope hc ?_ | refine Rn.inScope hc ?_))
            exact Rn.fall ⟨rfl, Nx.bump hA _, by simp only [sp_n, hn], by simp only [sg_ne, ne_eq, Nat.reduceEqDiff, not_false_eq_true, s0], by simp only [sg_ne, ne_eq, Nat.reduceEqDiff, not_false_eq_true, s1], by simp only [sg_ne, ne_eq, Nat.reduceEqDiff, not_false_eq_true, s2], by simp only [sg_ne, ne_eq, Nat.reduceEqDiff, not_false_eq_true, s6], by simp only [sg_ne, ne_eq, Nat.reduceEqDiff, not_false_eq_true, s8], by simp only [sg_ne, ne_eq, Nat.reduceEqDiff, not_false_eq_true, s11], e, he, by simp only [sg_ne, ne_eq, Nat.reduceEqDiff, not_false_eq_true, s12], red_of hpe hpmin (fun _ hh => heq (by rw [← atL_st (ro := ro) hel, hh, hsame]))⟩
      · clear hn s0 s1 s2 s6 s8 s
        rintro s ds D ⟨rfl, hD, hn, s0, s1, s2, s6, s8, s11, a, hal, s12, hra⟩
        have hCn := hC.next
        have hDn := hD.next
        have hD1 : Nx A1.next A1 D := hC.trans (hD.le hC.next)
        have hD0 : Nx A.next A D := hx1.trans (hD1.le hx1.next)
        (repeat (first | refine Rn.seq hc ?_ | refine Rn.skip hc ?_ | refine Rn.block hc ?_ | refine Rn.inBlock hc ?_ | refine Rn.scope hc ?_ | refine Rn.inScope hc ?_))
        by_cases h60 : 60 < a
        · have hd60 : decide ((60 : Int) < (a : Int)) = true := by simp; omega
          obtain ⟨E, q1, q2, q3, q4, g0, g1, g2⟩ := hr24 (v0 := .int .i64 0) (v1 := .slice none 0 0) (v2 := .slice none 0 0) hD1 rfl
          refine Rn.reg hc rfl ?_
          simp only [sev_tmp, sev_const, sg_eq, Nat.reduceLT, gd, want_free, rops, fx, bin_gtr, Option.some.injEq, exists_eq_left', hn, s12, hd60]
          (repeat (first | refine Rn.seq hc ?_ | refine Rn.skip hc ?_ | refine Rn.block hc ?_ | refine Rn.inBlock hc ?_ | refine Rn.scope hc ?_ | refine Rn.inScope hc ?_))
          refine Rn.condE hc rfl ?_
          simp only [sev_tmp, sg_eq, sp_n, Nat.reduceLT, Value.bool.injEq, exists_eq_left', hn]
          (repeat (first | refine Rn.seq hc ?_ | refine Rn.skip hc ?_ | refine Rn.block hc ?_ | refine Rn.inBlock hc ?_ | refine Rn.scope hc ?_ | refine Rn.inScope hc ?_))
          refine Rn.reg hc rfl ?_
          simp only [sev_tmp, sev_const, sg_eq, sg_ne, sp_n, sp_none, Nat.reduceLT, ne_eq, Nat.reduceEqDiff, not_false_eq_true, gd, want_free, rops, fx, str, adr_p, Nat.zero_add, Option.some.injEq, exists_eq_left', Nat.reduceAdd, tk24, hn, s6, bd24_z, q1, List.size_toArray, List.length_cons, List.length_nil, Nat.beq_refl]
          (repeat (first | refine Rn.seq hc ?_ | refine Rn.skip hc ?_ | refine Rn.block hc ?_ | refine Rn.inBlock hc ?_ | refine Rn.scope hc ?_ | refine Rn.inScope hc ?_))
          refine Rn.ret (endQ_ct rfl (v := .agg #[.int .i64 0, .slice none 0 0, .slice none 0 0]) ?_ ⟨a, d, hra, hal, hdl, ⟨by omega, q3, fun b hb => by rw [q4 _ (by omega), hD0.keep _ hb]⟩, ?_⟩)
          · simp only [sg_ne, ne_eq, Nat.reduceEqDiff, not_false_eq_true, ld, adr_p, cls, Nat.zero_add, Nat.reduceAdd, tk24, s6, g0, g1, g2]
          · rw [if_pos (.inr h60)]
            simp only [sg_eq, sp_n, Nat.reduceLT, hn]
        · have hd60 : decide ((60 : Int) < (a : Int)) = false := by simp; omega
          refine Rn.reg hc rfl ?_
          simp only [sev_tmp, sev_const, sg_eq, Nat.reduceLT, gd, want_free, rops, fx, bin_gtr, Option.some.injEq, exists_eq_left', hn, s12, hd60]
          (repeat (first | refine Rn.seq hc ?_ | refine Rn.skip hc ?_ | refine Rn.block hc ?_ | refine Rn.inBlock hc ?_ | refine Rn.scope hc ?_ | refine Rn.inScope hc ?_))
          refine Rn.condE hc rfl ?_
          simp only [sev_tmp, sg_eq, sp_n, Nat.reduceLT, Value.bool.injEq, exists_eq_left', hn]
          (repeat (first | refine Rn.seq hc ?_ | refine Rn.skip hc ?_ | refine Rn.block hc ?_ | refine Rn.inBlock hc ?_ | refine Rn.scope hc ?_ | refine Rn.inScope hc ?_))
          have hsD : Ints D sa 0 D.next st := (hs.nx hD0 (Nat.le_refl _)).mono (Nat.le_refl _) hD0.next
          obtain ⟨sa', sc', hasl, hsl'⟩ := asl_hi hsD (hsl.nx hw hD0) hsc hal
          have htk : (st.take a).length = a := by simp; omega
          refine Rn.region hc fun K hK => ?_
          refine Wo.run hc 3 rfl rfl rfl ?_
          simp (maxSteps := 2000000) only [List.drop_zero, List.take_succ_cons, List.take_zero, sev_tmp, sg_eq, sg_ne, sp_n, Nat.reduceLT, ne_eq, Nat.reduceEqDiff, not_false_eq_true, gd, want_free, rops, fx, Nat.zero_add, Option.some.injEq, exists_eq_left', hn, s1, s12, ae_asl_hi, hasl]
          refine Wo.call hc (by rfl) (by rfl) ⟨by rfl, by rfl⟩ (xs := [.slice sa' (st.take a).length sc']) (by rfl) (by rfl) (by simp only [sev_tmp, sg_eq, sp_n, Nat.reduceLT, List.map_cons, List.map_nil, List.nil_append, List.append_nil, hn]) (Con.mono (clone_ints hD.wf hsl' (by omega)) ?_)
          rintro w E ⟨xa, rfl, hE, hgE⟩
          rw [htk]
          have lE : Canon.look E.objs B.next = _ := (hE.keep _ (by omega)).trans ((hD.keep _ (by omega)).trans l2)
          obtain ⟨G, u1, u2⟩ := st1_upd (o := 1) (v := .slice xa a a) lE rfl (by simp) rfl
          have lG : Canon.look G.objs B.next = some ⟨.cells #[.int .i64 m, .slice xa a a, .slice none 0 0] 24, false, 0⟩ := by
            obtain ⟨c, t, f, g, e, r1, r2, _⟩ := u2.at'
            rw [lE] at r1
            cases r1
            exact r2
          refine Wo.run hc 2 rfl rfl rfl ?_
          simp (maxSteps := 2000000) only [List.drop_zero, List.drop_succ_cons, List.take_succ_cons, List.take_zero, sev_tmp, sg_eq, sg_ne, sp_n, sp_none, Nat.reduceLT, ne_eq, Nat.reduceEqDiff, not_false_eq_true, gd, want_free, rops, fx, str, fad, adr_p, Nat.zero_add, Option.some.injEq, exists_eq_left', Nat.reduceAdd, tk22, fo24_1, hn, s11, u1]
          refine Wo.done hc rfl (hK _ _ ?_)
          clear hK
          (repeat (first | refine Rn.seq hc ?_ | refine Rn.skip hc ?_ | refine Rn.block hc ?_ | refine Rn.inBlock hc ?_ | refine Rn.scope hc ?_ | refine Rn.inScope hc ?_))
          have hEn := hE.next
          have hGn := u2.next
          have wG : WF G := (u2.nx hE.wf (Nat.zero_le _)).wf
          have htake : st.take a = redS (atL st ro) a := by
            refine List.ext_getElem (by rw [redS_len]; exact htk) fun i h1 h2 => ?_
            have hi : i < a := by omega
            have := atL_st (ro := ro) (show i < st.length by omega)
            simp [redS, this, List.getD_eq_getElem?_getD, show i < st.length by omega]
          rw [htake] at hgE
          have hG0 : ∀ b, b < A1.next → Canon.look G.objs b = Canon.look A1.objs b := fun b hb => by rw [u2.off _ (by omega), hE.keep _ (by omega), hD1.keep _ hb]
          refine Rn.reg hc rfl ?_
          simp only [sev_tmp, sev_const, sg_ne, ne_eq, Nat.reduceEqDiff, not_false_eq_true, gd, want_free, rops, fx, Option.some.injEq, exists_eq_left', s8]
          (repeat (first | refine Rn.seq hc ?_ | refine Rn.skip hc ?_ | refine Rn.block hc ?_ | refine Rn.inBlock hc ?_ | refine Rn.scope hc ?_ | refine Rn.inScope hc ?_))
          refine Rn.loopI hc (I := fun k s A' => ∃ ya, ∃ i : Nat, i ≤ d ∧ k = d - i ∧ G.next ≤ A'.next ∧ WF A' ∧ (∀ b, b < G.next → b ≠ B.next → Canon.look A'.objs b = Canon.look G.objs b) ∧ Gr A' ya G.next (redR (atL st ro) a i) ∧ Canon.look A'.objs B.next = some ⟨.cells #[.int .i64 m, .slice xa a a, .slice ya i i] 24, false, 0⟩ ∧ s.n = 112 ∧ sget s 1 = .slice sa st.length sc ∧ sget s 2 = .slice ra ro.length rc ∧ sget s 6 = .pointer (some ⟨A.next, 0, none⟩) ∧ sget s 8 = .int .i64 (d : Int) ∧ sget s 11 = .pointer (some ⟨B.next, 0, none⟩) ∧ sget s 12 = .int .i64 (a : Int) ∧ sget s 86 = .int .i64 (d : Int) ∧ sget s 87 = .int .i64 (i : Int))
            (n := d) ⟨none, 0, by omega, rfl, Nat.le_refl _, wG, fun _ _ _ => rfl, Gr.nil _ _, lG, by simp only [sp_n, hn], by simp only [sg_ne, ne_eq, Nat.reduceEqDiff, not_false_eq_true, s1], by simp only [sg_ne, ne_eq, Nat.reduceEqDiff, not_false_eq_true, s2], by simp only [sg_ne, ne_eq, Nat.reduceEqDiff, not_false_eq_true, s6], by simp only [sg_ne, ne_eq, Nat.reduceEqDiff, not_false_eq_true, s8], by simp only [sg_ne, ne_eq, Nat.reduceEqDiff, not_false_eq_true, s11], by simp only [sg_ne, ne_eq, Nat.reduceEqDiff, not_false_eq_true, s12], by simp only [sg_eq, sg_ne, sp_n, Nat.reduceLT, ne_eq, Nat.reduceEqDiff, not_false_eq_true, hn], by simp only [sg_eq, sp_n, Nat.reduceLT, hn]; rfl⟩ ?_
          clear hn s0 s1 s2 s6 s8 s11 s12 s
          rintro k s A' ⟨ya, i, hi, hke, hA'n, hw', hkp, hgy, lA', hn, s1, s2, s6, s8, s11, s12, s86, s87⟩ ih
          (repeat (first | refine Rn.seq hc ?_ | refine Rn.skip hc ?_ | refine Rn.block hc ?_ | refine Rn.inBlock hc ?_ | refine Rn.scope hc ?_ | refine Rn.inScope hc ?_))
          by_cases hlt : i < d
          · have hd : decide ((i : Int) < (d : Int)) = true := by simp; omega
            refine Rn.reg hc rfl ?_
            simp only [sev_tmp, gd, want_free, rops, fx, bin_lss, Option.some.injEq, exists_eq_left', s86, s87, hd]
            (repeat (first | refine Rn.seq hc ?_ | refine Rn.skip hc ?_ | refine Rn.block hc ?_ | refine Rn.inBlock hc ?_ | refine Rn.scope hc ?_ | refine Rn.inScope hc ?_))
            refine Rn.condE hc rfl ?_
            simp only [sev_tmp, sg_eq, Nat.reduceLT, Value.bool.injEq, exists_eq_left', hn]
            (repeat (first | refine Rn.seq hc ?_ | refine Rn.skip hc ?_ | refine Rn.block hc ?_ | refine Rn.inBlock hc ?_ | refine Rn.scope hc ?_ | refine Rn.inScope hc ?_))
            refine Rn.reg hc rfl ?_
            simp only [sev_tmp, sg_eq, sg_ne, sp_n, Nat.reduceLT, ne_eq, Nat.reduceEqDiff, not_false_eq_true, gd, want_free, rops, fx, Option.some.injEq, exists_eq_left', hn, s87]
            (repeat (first | refine Rn.seq hc ?_ | refine Rn.skip hc ?_ | refine Rn.block hc ?_ | refine Rn.inBlock hc ?_ | refine Rn.scope hc ?_ | refine Rn.inScope hc ?_))
            obtain ⟨r, ix, hr1, hr2, hr3, hix, hr4, hr5⟩ := emod_idx (x := ((a + i : Nat) : Int) - (st.length : Int)) hd0
            have hmodE := hr5 st.length (a + i) rfl
            have hidx : ix < ro.length := by omega
            obtain ⟨bb, o, rfl, _, hb1, hcl⟩ := hr ix hidx
            have hLb : ∀ b, b < A.next → Canon.look A'.objs b = Canon.look A.objs b := fun b hb => by rw [hkp _ (by omega) (by omega), hG0 _ (by omega), hx1.keep _ hb]
            have hcl : cl A' bb (o + ix) = _ := (cl_look (hLb bb hb1)).trans hcl
            have hval : ro.getD ix 0 = atL st ro (a + i) := by
              rw [← atL_ro (st := st) hidx]
              exact hra.per.same (by omega) (by omega) hmodE
            rw [hval] at hcl
            have hw1 : IntKind.i64.wrap ((a : Int) - (st.length : Int)) = (a : Int) - (st.length : Int) := by rw [IntWalk.i64_in _ (by omega)]
            have hw2 : IntKind.i64.wrap ((a : Int) - (st.length : Int) + (i : Int)) = ((a + i : Nat) : Int) - (st.length : Int) := by rw [IntWalk.i64_in _ (by omega)]; omega
            have hrem1 : ∀ M, bin Try.prog .rem 3 (.int .i64 (((a + i : Nat) : Int) - (st.length : Int))) (.int .i64 (d : Int)) M = some (.int .i64 r, M) := fun M => by rw [bin_rem _ _ _ _ (by omega), hr1]
            have hw3 : IntKind.i64.wrap (r + (d : Int)) = r + (d : Int) := by rw [IntWalk.i64_in _ (by omega)]
            have hrem2 : ∀ M, bin Try.prog .rem 3 (.int .i64 (r + (d : Int))) (.int .i64 (d : Int)) M = some (.int .i64 (ix : Int), M) := fun M => by rw [bin_rem _ _ _ _ (by omega), hr4]
            have c2 : cl A' B.next 2 = some (.slice ya i i) := by rw [cl_of lA' rfl]; rfl
            obtain ⟨F, hF1, hF2, hF⟩ : ∃ F : AHeap → Prop, (∀ M, F M → cl M B.next 2 = some (.slice ya i i)) ∧ (∀ M, F M → cl M bb (o + ix) = some (.int .i64 (atL st ro (a + i)))) ∧ (∀ M, Canon.look M.objs B.next = Canon.look A'.objs B.next → Canon.look M.objs bb = Canon.look A'.objs bb → F M) :=
              ⟨fun M => cl M B.next 2 = some (.slice ya i i) ∧ cl M bb (o + ix) = some (.int .i64 (atL st ro (a + i))), fun _ h => h.1, fun _ h => h.2, fun M q1 q2 => ⟨(cl_look q1).trans c2, (cl_look q2).trans hcl⟩⟩
            have FB := hF (bump A' 21) rfl rfl
            have hxB : Nx A'.next A' (bump A' 21) := Nx.bump (Nx.refl hw' _) 21
            refine Rn.drawnL hc hx noS F (E := [17, 18]) (n := 20) (k := 21) (by kernel_rfl) (by kernel_rfl) (by rfl) (by kernel_rfl) ?_
            refine DrL.read (by first | rfl | kernel_rfl) (by rfl) (by assumption) (fun M hM => by simp only [sev_tmp, sg_ne, ne_eq, Nat.reduceEqDiff, not_false_eq_true, fx, fad, adr_p, Nat.zero_add, fo24_2, s11] <;> rfl) (by rfl) (by first | exact VQ.int _ _ | exact VQ.bool _ | exact VQ.ptr _ _ | exact VQ.slice _ _ _ | exact VQ.func (by simp [vq_int, vq_ptr, vq_slice]) (by simp [vq_int, vq_ptr, vq_slice]) | exact VQ.agg (by simp [vq_int, vq_ptr, vq_slice]) | exact VQ.tuple (by simp [vq_int, vq_ptr, vq_slice])) ?_
            refine DrL.read (by first | rfl | kernel_rfl) (by rfl) (by assumption) (fun M hM => by simp only [sev_tmp, sg_eq, sp_n, Nat.reduceLT, fx, ld, adr_p, tk22, hn, hF1 M hM] <;> rfl) (by rfl) (by first | exact VQ.int _ _ | exact VQ.bool _ | exact VQ.ptr _ _ | exact VQ.slice _ _ _ | exact VQ.func (by simp [vq_int, vq_ptr, vq_slice]) (by simp [vq_int, vq_ptr, vq_slice]) | exact VQ.agg (by simp [vq_int, vq_ptr, vq_slice]) | exact VQ.tuple (by simp [vq_int, vq_ptr, vq_slice])) ?_
            refine DrL.read (by first | rfl | kernel_rfl) (by rfl) (by assumption) (fun M hM => by simp only [sev_tmp, sg_ne, ne_eq, Nat.reduceEqDiff, not_false_eq_true, fx, s2] <;> rfl) (by rfl) (by first | exact VQ.int _ _ | exact VQ.bool _ | exact VQ.ptr _ _ | exact VQ.slice _ _ _ | exact VQ.func (by simp [vq_int, vq_ptr, vq_slice]) (by simp [vq_int, vq_ptr, vq_slice]) | exact VQ.agg (by simp [vq_int, vq_ptr, vq_slice]) | exact VQ.tuple (by simp [vq_int, vq_ptr, vq_slice])) ?_
            refine DrL.read (by first | rfl | kernel_rfl) (by rfl) (by assumption) (fun M hM => by simp only [sev_tmp, sg_ne, ne_eq, Nat.reduceEqDiff, not_false_eq_true, fx, s12] <;> rfl) (by rfl) (by first | exact VQ.int _ _ | exact VQ.bool _ | exact VQ.ptr _ _ | exact VQ.slice _ _ _ | exact VQ.func (by simp [vq_int, vq_ptr, vq_slice]) (by simp [vq_int, vq_ptr, vq_slice]) | exact VQ.agg (by simp [vq_int, vq_ptr, vq_slice]) | exact VQ.tuple (by simp [vq_int, vq_ptr, vq_slice])) ?_
            refine DrL.read (by first | rfl | kernel_rfl) (by rfl) (by assumption) (fun M hM => by simp only [sev_tmp, sg_ne, ne_eq, Nat.reduceEqDiff, not_false_eq_true, fx, s1] <;> rfl) (by rfl) (by first | exact VQ.int _ _ | exact VQ.bool _ | exact VQ.ptr _ _ | exact VQ.slice _ _ _ | exact VQ.func (by simp [vq_int, vq_ptr, vq_slice]) (by simp [vq_int, vq_ptr, vq_slice]) | exact VQ.agg (by simp [vq_int, vq_ptr, vq_slice]) | exact VQ.tuple (by simp [vq_int, vq_ptr, vq_slice])) ?_
            refine DrL.read (by first | rfl | kernel_rfl) (by rfl) (by assumption) (fun M hM => by simp only [sev_tmp, sg_eq, sp_n, Nat.reduceLT, fx, lng, un22, hn] <;> rfl) (by rfl) (by first | exact VQ.int _ _ | exact VQ.bool _ | exact VQ.ptr _ _ | exact VQ.slice _ _ _ | exact VQ.func (by simp [vq_int, vq_ptr, vq_slice]) (by simp [vq_int, vq_ptr, vq_slice]) | exact VQ.agg (by simp [vq_int, vq_ptr, vq_slice]) | exact VQ.tuple (by simp [vq_int, vq_ptr, vq_slice])) ?_
            refine DrL.read (by first | rfl | kernel_rfl) (by rfl) (by assumption) (fun M hM => by simp only [sev_tmp, sg_eq, sg_ne, sp_n, Nat.reduceLT, ne_eq, Nat.reduceEqDiff, not_false_eq_true, fx, bin_sub, hn, hw1] <;> rfl) (by rfl) (by first | exact VQ.int _ _ | exact VQ.bool _ | exact VQ.ptr _ _ | exact VQ.slice _ _ _ | exact VQ.func (by simp [vq_int, vq_ptr, vq_slice]) (by simp [vq_int, vq_ptr, vq_slice]) | exact VQ.agg (by simp [vq_int, vq_ptr, vq_slice]) | exact VQ.tuple (by simp [vq_int, vq_ptr, vq_slice])) ?_
            refine DrL.read (by first | rfl | kernel_rfl) (by rfl) (by assumption) (fun M hM => by simp only [sev_tmp, sg_eq, sg_ne, sp_n, Nat.reduceLT, ne_eq, Nat.reduceEqDiff, not_false_eq_true, fx, hn] <;> rfl) (by rfl) (by first | exact VQ.int _ _ | exact VQ.bool _ | exact VQ.ptr _ _ | exact VQ.slice _ _ _ | exact VQ.func (by simp [vq_int, vq_ptr, vq_slice]) (by simp [vq_int, vq_ptr, vq_slice]) | exact VQ.agg (by simp [vq_int, vq_ptr, vq_slice]) | exact VQ.tuple (by simp [vq_int, vq_ptr, vq_slice])) ?_
            refine DrL.read (by first | rfl | kernel_rfl) (by rfl) (by assumption) (fun M hM => by simp only [sev_tmp, sg_eq, sg_ne, sp_n, Nat.reduceLT, ne_eq, Nat.reduceEqDiff, not_false_eq_true, fx, bin_add, hn, hw2] <;> rfl) (by rfl) (by first | exact VQ.int _ _ | exact VQ.bool _ | exact VQ.ptr _ _ | exact VQ.slice _ _ _ | exact VQ.func (by simp [vq_int, vq_ptr, vq_slice]) (by simp [vq_int, vq_ptr, vq_slice]) | exact VQ.agg (by simp [vq_int, vq_ptr, vq_slice]) | exact VQ.tuple (by simp [vq_int, vq_ptr, vq_slice])) ?_
            refine DrL.read (by first | rfl | kernel_rfl) (by rfl) (by assumption) (fun M hM => by simp only [sev_tmp, sg_ne, ne_eq, Nat.reduceEqDiff, not_false_eq_true, fx, s8] <;> rfl) (by rfl) (by first | exact VQ.int _ _ | exact VQ.bool _ | exact VQ.ptr _ _ | exact VQ.slice _ _ _ | exact VQ.func (by simp [vq_int, vq_ptr, vq_slice]) (by simp [vq_int, vq_ptr, vq_slice]) | exact VQ.agg (by simp [vq_int, vq_ptr, vq_slice]) | exact VQ.tuple (by simp [vq_int, vq_ptr, vq_slice])) ?_
            refine DrL.read (by first | rfl | kernel_rfl) (by rfl) (by assumption) (fun M hM => by simp only [sev_tmp, sg_eq, sg_ne, sp_n, Nat.reduceLT, ne_eq, Nat.reduceEqDiff, not_false_eq_true, fx, hn, hrem1] <;> rfl) (by rfl) (by first | exact VQ.int _ _ | exact VQ.bool _ | exact VQ.ptr _ _ | exact VQ.slice _ _ _ | exact VQ.func (by simp [vq_int, vq_ptr, vq_slice]) (by simp [vq_int, vq_ptr, vq_slice]) | exact VQ.agg (by simp [vq_int, vq_ptr, vq_slice]) | exact VQ.tuple (by simp [vq_int, vq_ptr, vq_slice])) ?_
            refine DrL.read (by first | rfl | kernel_rfl) (by rfl) (by assumption) (fun M hM => by simp only [sev_tmp, sg_ne, ne_eq, Nat.reduceEqDiff, not_false_eq_true, fx, s8] <;> rfl) (by rfl) (by first | exact VQ.int _ _ | exact VQ.bool _ | exact VQ.ptr _ _ | exact VQ.slice _ _ _ | exact VQ.func (by simp [vq_int, vq_ptr, vq_slice]) (by simp [vq_int, vq_ptr, vq_slice]) | exact VQ.agg (by simp [vq_int, vq_ptr, vq_slice]) | exact VQ.tuple (by simp [vq_int, vq_ptr, vq_slice])) ?_
            refine DrL.read (by first | rfl | kernel_rfl) (by rfl) (by assumption) (fun M hM => by simp only [sev_tmp, sg_eq, sg_ne, sp_n, Nat.reduceLT, ne_eq, Nat.reduceEqDiff, not_false_eq_true, fx, bin_add, hn, hw3] <;> rfl) (by rfl) (by first | exact VQ.int _ _ | exact VQ.bool _ | exact VQ.ptr _ _ | exact VQ.slice _ _ _ | exact VQ.func (by simp [vq_int, vq_ptr, vq_slice]) (by simp [vq_int, vq_ptr, vq_slice]) | exact VQ.agg (by simp [vq_int, vq_ptr, vq_slice]) | exact VQ.tuple (by simp [vq_int, vq_ptr, vq_slice])) ?_
            refine DrL.read (by first | rfl | kernel_rfl) (by rfl) (by assumption) (fun M hM => by simp only [sev_tmp, sg_ne, ne_eq, Nat.reduceEqDiff, not_false_eq_true, fx, s8] <;> rfl) (by rfl) (by first | exact VQ.int _ _ | exact VQ.bool _ | exact VQ.ptr _ _ | exact VQ.slice _ _ _ | exact VQ.func (by simp [vq_int, vq_ptr, vq_slice]) (by simp [vq_int, vq_ptr, vq_slice]) | exact VQ.agg (by simp [vq_int, vq_ptr, vq_slice]) | exact VQ.tuple (by simp [vq_int, vq_ptr, vq_slice])) ?_
            refine DrL.read (by first | rfl | kernel_rfl) (by rfl) (by assumption) (fun M hM => by simp only [sev_tmp, sg_eq, sg_ne, sp_n, Nat.reduceLT, ne_eq, Nat.reduceEqDiff, not_false_eq_true, fx, hn, hrem2] <;> rfl) (by rfl) (by first | exact VQ.int _ _ | exact VQ.bool _ | exact VQ.ptr _ _ | exact VQ.slice _ _ _ | exact VQ.func (by simp [vq_int, vq_ptr, vq_slice]) (by simp [vq_int, vq_ptr, vq_slice]) | exact VQ.agg (by simp [vq_int, vq_ptr, vq_slice]) | exact VQ.tuple (by simp [vq_int, vq_ptr, vq_slice])) ?_
            refine DrL.read (by first | rfl | kernel_rfl) (by rfl) (by assumption) (fun M hM => by simp only [sev_tmp, sg_eq, sg_ne, sp_n, Nat.reduceLT, ne_eq, Nat.reduceEqDiff, not_false_eq_true, fx, idx, Nat.mul_one, eo22, hn, nlen_nat hidx] <;> rfl) (by rfl) (by first | exact VQ.int _ _ | exact VQ.bool _ | exact VQ.ptr _ _ | exact VQ.slice _ _ _ | exact VQ.func (by simp [vq_int, vq_ptr, vq_slice]) (by simp [vq_int, vq_ptr, vq_slice]) | exact VQ.agg (by simp [vq_int, vq_ptr, vq_slice]) | exact VQ.tuple (by simp [vq_int, vq_ptr, vq_slice])) ?_
            refine DrL.read (by first | rfl | kernel_rfl) (by rfl) (by assumption) (fun M hM => by simp only [sev_tmp, sg_eq, sp_n, Nat.reduceLT, fx, ld, adr_p, tk3, hn, hF2 M hM] <;> rfl) (by rfl) (by first | exact VQ.int _ _ | exact VQ.bool _ | exact VQ.ptr _ _ | exact VQ.slice _ _ _ | exact VQ.func (by simp [vq_int, vq_ptr, vq_slice]) (by simp [vq_int, vq_ptr, vq_slice]) | exact VQ.agg (by simp [vq_int, vq_ptr, vq_slice]) | exact VQ.tuple (by simp [vq_int, vq_ptr, vq_slice])) ?_
            refine DrL.float (by rfl) (by rfl) (by rfl) (fb22_1 (v := .int .i64 (atL st ro (a + i))) (by simp only [sev_tmp, sg_eq, sp_n, Nat.reduceLT, hn]) rfl) ?_
            have hnb : Canon.look (bump A' 21).objs (A'.next + 17) = none := hw'.none (by omega)
            obtain ⟨B2, p1, hxB2, eB2, lB2, kB2⟩ := place_row (N := 0) (Nx.refl hxB.wf 0) (b := A'.next + 17) (Nat.zero_le _) (by rw [bump_next]; omega) hnb [.int .i64 (atL st ro (a + i))] 3 1 1
            rw [bump_next] at eB2
            have F2 := hF B2 (kB2 _ (by omega)) (kB2 _ (by omega))
            have hg2 : Gr B2 ya G.next (redR (atL st ro) a i) := (hgy.nx (n := 0) hw' hxB).ext (by rw [bump_next]; omega) fun b' hb' => by
              by_cases hbb : b' = A'.next + 17
              · exact .inl (hbb ▸ hnb)
              · exact .inr (kB2 _ hbb)
            have hlen := redR_len (atL st ro) a i
            obtain ⟨B3, q1, n3, w3, hg3, kp3, _⟩ := gr_push hxB2.wf hg2 (a2 := some ⟨A'.next + 17, 0, none⟩) (c2 := 1) (b2 := A'.next + 17) (x := atL st ro (a + i)) rfl (by rw [cl_of lB2 rfl]; rfl) (by omega)
            rw [hlen] at q1
            have hsnoc : redR (atL st ro) a i ++ [atL st ro (a + i)] = redR (atL st ro) a (i + 1) := by simp [redR, List.range_succ]
            rw [hsnoc] at hg3
            have L3 : ∀ b', b' < G.next → Canon.look B3.objs b' = Canon.look A'.objs b' := fun b' hb' => by
              rw [kp3 b' (by omega) (fun y hy => by obtain ⟨_, q, _⟩ := hg2.sl y hy; omega), kB2 _ (by omega)]
              rfl
            have F3 := hF B3 (L3 _ (by omega)) (L3 _ (by omega))
            refine DrL.eff (by rfl) (by rfl) (pd1 := [(17, ⟨[.int .i64 (atL st ro (a + i))], 3, .sl 1 1⟩)]) (pd2 := []) (by kernel_rfl) (by kernel_rfl) (ms0 := [bump A' 21]) (A0 := B2) (by simp only [placeAll, p1]) (fun M hM => by rw [List.mem_singleton] at hM; rw [hM]; exact FB) F2 (by rfl)
              (v := .slice (some ⟨B2.next, 0, none⟩) (i + 1) (i + 1)) (A1 := B3) (opRun_op rfl (by simp only [sev_tmp, sg_eq, sg_ne, sp_n, Nat.reduceLT, ne_eq, Nat.reduceEqDiff, not_false_eq_true, Nat.zero_add, Nat.reduceAdd, hn, ae_apd, apd_slice, FK.val]; exact q1)) ?_
            refine DrL.read (by first | rfl | kernel_rfl) (by rfl) (by assumption) (fun M hM => by simp only [sev_tmp, sg_ne, ne_eq, Nat.reduceEqDiff, not_false_eq_true, fx, fad, adr_p, Nat.zero_add, Nat.reduceAdd, fo24_2, s11] <;> rfl) (by rfl) (by first | exact VQ.int _ _ | exact VQ.bool _ | exact VQ.ptr _ _ | exact VQ.slice _ _ _ | exact VQ.func (by simp [vq_int, vq_ptr, vq_slice]) (by simp [vq_int, vq_ptr, vq_slice]) | exact VQ.agg (by simp [vq_int, vq_ptr, vq_slice]) | exact VQ.tuple (by simp [vq_int, vq_ptr, vq_slice])) ?_
            have l3 : Canon.look B3.objs B.next = _ := (L3 _ (by omega)).trans lA'
            obtain ⟨B4, v1, v2⟩ := st1_upd (o := 2) (v := .slice (some ⟨B2.next, 0, none⟩) (i + 1) (i + 1)) l3 rfl (by simp) rfl
            refine DrL.eff (by rfl) (by rfl) (pd1 := []) (pd2 := []) (by kernel_rfl) (by kernel_rfl) (ms0 := []) (A0 := B3) rfl (fun _ h => by cases h) F3 (by rfl) (v := undef) (A1 := B4) (opRun_op rfl (fx_ok (by rfl) (by simp only [sev_tmp, sg_eq, sg_ne, sp_n, Nat.reduceLT, ne_eq, Nat.reduceEqDiff, not_false_eq_true, fx, str, adr_p, Nat.zero_add, Nat.reduceAdd, tk22, hn, v1]))) ?_
            refine DrL.nil ⟨by rfl, B4, by rfl, ?_⟩
            (repeat (first | refine Rn.seq hc ?_ | refine Rn.skip hc ?_ | refine Rn.block hc ?_ | refine Rn.inBlock hc ?_ | refine Rn.scope hc ?_ | refine Rn.inScope hc ?_))
            refine Rn.reg hc rfl ?_
            simp only [sev_tmp, sev_const, sg_eq, sg_ne, sp_n, sp_none, Nat.reduceLT, ne_eq, Nat.reduceEqDiff, not_false_eq_true, gd, want_free, rops, fx, bin_add, Nat.zero_add, Option.some.injEq, exists_eq_left', Nat.reduceAdd, hn, s87, wrap_succ (show i < 9223372036854775807 by omega)]
            (repeat (first | refine Rn.seq hc ?_ | refine Rn.skip hc ?_ | refine Rn.block hc ?_ | refine Rn.inBlock hc ?_ | refine Rn.scope hc ?_ | refine Rn.inScope hc ?_))
            have l4 : Canon.look B4.objs B.next = some ⟨.cells #[.int .i64 m, .slice xa a a, .slice (some ⟨B2.next, 0, none⟩) (i + 1) (i + 1)] 24, false, 0⟩ := by
              obtain ⟨c, t, f, g, e, r1, r2, _⟩ := v2.at'
              rw [l3] at r1
              cases r1
              exact r2
            have hn4 := v2.next
            refine ih _ _ _ (by omega) ⟨some ⟨B2.next, 0, none⟩, i + 1, by omega, rfl, by omega, (v2.nx w3 (Nat.zero_le _)).wf, fun b hb hne => ?_, (hg3.off v2 (by omega)).mono (by omega), l4, by simp only [sp_n, hn], by simp only [sg_ne, ne_eq, Nat.reduceEqDiff, not_false_eq_true, s1], by simp only [sg_ne, ne_eq, Nat.reduceEqDiff, not_false_eq_true, s2], by simp only [sg_ne, ne_eq, Nat.reduceEqDiff, not_false_eq_true, s6], by simp only [sg_ne, ne_eq, Nat.reduceEqDiff, not_false_eq_true, s8], by simp only [sg_ne, ne_eq, Nat.reduceEqDiff, not_false_eq_true, s11], by simp only [sg_ne, ne_eq, Nat.reduceEqDiff, not_false_eq_true, s12], by simp only [sg_ne, ne_eq, Nat.reduceEqDiff, not_false_eq_true, s86], by simp only [sg_eq, sp_n, Nat.reduceLT, hn]⟩
            rw [v2.off _ hne, L3 _ hb]
            exact hkp b hb hne
          · have hd : decide ((i : Int) < (d : Int)) = false := by simp; omega
            have hid : i = d := by omega
            subst hid
            clear ih
            refine Rn.reg hc rfl ?_
            simp only [sev_tmp, gd, want_free, rops, fx, bin_lss, Option.some.injEq, exists_eq_left', s86, s87, hd]
            (repeat (first | refine Rn.seq hc ?_ | refine Rn.skip hc ?_ | refine Rn.block hc ?_ | refine Rn.inBlock hc ?_ | refine Rn.scope hc ?_ | refine Rn.inScope hc ?_))
            refine Rn.condE hc rfl ?_
            simp only [sev_tmp, sg_eq, Nat.reduceLT, Value.bool.injEq, exists_eq_left', hn]
            (repeat (first | refine Rn.seq hc ?_ | refine Rn.skip hc ?_ | refine Rn.block hc ?_ | refine Rn.inBlock hc ?_ | refine Rn.scope hc ?_ | refine Rn.inScope hc ?_))
            refine Rn.exit hc rfl ?_
            (repeat (first | refine Rn.seq hc ?_ | refine Rn.skip hc ?_ | refine Rn.block hc ?_ | refine Rn.inBlock hc ?_ | refine Rn.scope hc ?_ | refine Rn.inScope hc ?_))
            have c0 : cl A' B.next 0 = some (.int .i64 m) := by rw [cl_of lA' rfl]; rfl
            have c1 : cl A' B.next 1 = some (.slice xa a a) := by rw [cl_of lA' rfl]; rfl
            have c2 : cl A' B.next 2 = some (.slice ya i i) := by rw [cl_of lA' rfl]; rfl
            have lR : Canon.look A'.objs A.next = _ := (hkp _ (by omega) (by omega)).trans ((hG0 _ (by omega)).trans l1)
            obtain ⟨A6, c6, q1, q2, q3, q4⟩ := sts_upd (l := [.int .i64 m, .slice xa a a, .slice ya i i]) (o := 0) lR rfl (by simp) rfl
            have g0 : cl A6 A.next 0 = some (.int .i64 m) := by rw [q2.cl, q4]; rfl
            have g1 : cl A6 A.next 1 = some (.slice xa a a) := by rw [q2.cl, q4]; rfl
            have g2 : cl A6 A.next 2 = some (.slice ya i i) := by rw [q2.cl, q4]; rfl
            have hn6 := q2.next
            refine Rn.reg hc rfl ?_
            simp only [sev_tmp, sev_const, sg_eq, sg_ne, sp_n, sp_none, Nat.reduceLT, ne_eq, Nat.reduceEqDiff, not_false_eq_true, gd, want_free, rops, fx, ld, str, adr_p, cls, Nat.zero_add, Option.some.injEq, exists_eq_left', Nat.reduceAdd, tk24, hn, s6, s11, c0, c1, c2, q1, List.size_toArray, List.length_cons, List.length_nil, Nat.beq_refl]
            (repeat (first | refine Rn.seq hc ?_ | refine Rn.skip hc ?_ | refine Rn.block hc ?_ | refine Rn.inBlock hc ?_ | refine Rn.scope hc ?_ | refine Rn.inScope hc ?_))
            refine Rn.ret (endQ_ct rfl (v := .agg #[.int .i64 m, .slice xa a a, .slice ya i i]) ?_ ⟨a, i, hra, hal, hdl, ⟨by omega, (q2.nx hw' (Nat.zero_le _)).wf, fun b hb => by rw [q2.off _ (by omega), hkp _ (by omega) (by omega), hG0 _ (by omega), hx1.keep _ hb]⟩, ?_⟩)
            · simp only [sg_ne, ne_eq, Nat.reduceEqDiff, not_false_eq_true, ld, adr_p, cls, Nat.zero_add, Nat.reduceAdd, tk24, s6, g0, g1, g2]
            · rw [if_neg (by omega)]
              refine ⟨xa, ya, by simp only [sg_eq, sp_n, Nat.reduceLT, hn], ?_, (hgy.off q2 (by omega)).mono (by omega)⟩
              refine (((hgE.off u2 (by omega)).ext (by omega) fun b' hb' => ?_).off q2 (by omega)).mono (by omega)
              by_cases hlt' : b' < G.next
              · exact .inr (hkp b' hlt' (by omega))
              · exact .inl (wG.none (by omega))
      · intro _ _ _ h
        exact h.elim
  · intro _ _ _ h
    exact h.elim
end Go.Proofs.Ytdaljohmfnfgiaa
/- Least; a modulus out of a sack; whether a stream is right. No condition. -/
namespace Go.Proofs.Ytdaljohmfnfgiaa
open Go Go.RowKit Go.Proofs.Ytdaljohmfnfgiaa.Canon
set_option maxRecDepth 20000


end Go.Proofs.Ytdaljohmfnfgiaa
/- Where two streams differ, and whether they are the same. No condition. -/
namespace Go.Proofs.Ytdaljohmfnfgiaa
open Go Go.RowKit Go.Proofs.Ytdaljohmfnfgiaa.Canon
set_option maxRecDepth 20000
section
variable {ρ : Operand → Value} {d : Option Tmp} {ty : TypeId} {pos : String} {af : Array Edge} {gu : Option (Nat × Bool)} {A : AHeap}
end
def hdS (u : Int) : Canon.Spec := fun _ _ A v A1 => v = .int .i64 u ∧ Nx A.next A A1
/-- Where two streams differ. -/
def ApartQ (s t : Nat → Int) (v : Value) : Prop := (∃ n : Nat, v = .tuple #[.int .i64 (n : Int), .int .i64 0] ∧ s n ≠ t n ∧ ∀ j, j < n → s j = t j) ∨ (v = .tuple #[.int .i64 0, .int .i64 6] ∧ ∀ n, s n = t n)
end Go.Proofs.Ytdaljohmfnfgiaa
/- Where two streams differ, and whether they are the same: what the program does. No condition. -/
namespace Go.Proofs.Ytdaljohmfnfgiaa
open Go Go.RowKit Go.Proofs.Ytdaljohmfnfgiaa.Canon
set_option maxRecDepth 20000


theorem errs_two (x y : Las) : errs [x, y] [x, y] = if x.err ≠ 0 then x.err else if y.err ≠ 0 then y.err else if x.m = y.m then 0 else 7 := by
  unfold errs
  by_cases h1 : x.err = 0
  · rw [if_pos h1, if_neg (by simp [h1])]
    unfold errs
    by_cases h2 : y.err = 0
    · rw [if_pos h2, if_neg (by simp [h2])]
      simp only [errs, clash]
      by_cases h3 : x.m = y.m
      · simp [h3]
      · have h3' : ¬ y.m = x.m := fun e => h3 e.symm
        simp [h3, h3']
    · rw [if_neg h2, if_pos h2]
  · rw [if_neg h1, if_pos h1]
def Las.s (x : Las) : Nat → Int := atL x.st x.ro
def Las.v (x : Las) : Value := .agg #[.int .i64 x.m, .slice x.sa x.st.length x.sc, .slice x.ra x.ro.length x.rc]

end Go.Proofs.Ytdaljohmfnfgiaa
/- The reference's least stream, and where it says that two differ; a stream's memory is changed. No condition. -/
/- The reference's least stream. No condition. -/
namespace Go.Proofs.Ytdaljohmfnfgiaa
open Go Go.RowKit Go.Proofs.Ytdaljohmfnfgiaa.Canon
set_option maxRecDepth 20000


theorem turns_ref {A : AHeap} (hw : WF A) {a : Option Addr} {c : Nat} {ro : List Int} (hr : Ints A a 0 A.next ro) (lr : ro.length ≤ 1000000) {d : Nat} (hd0 : 0 < d) (hd2 : d ≤ 1000000) :
    Con Try.prog 109 [.slice a ro.length c, .int .i64 (d : Int)] A (fun v A1 => v = .bool (perOK ro d) ∧ Nx A.next A A1) := by
  refine con_of_rn hc Try.func109 rfl (Nat.le_of_ble_eq_true rfl) ?_
  rw [s_in2]
  have hrem : ∀ M, bin Try.prog .rem 3 (.int .i64 (ro.length : Int)) (.int .i64 (d : Int)) M = some (.int .i64 ((ro.length % d : Nat) : Int), M) := fun M => by
    rw [bin_rem _ _ _ _ (by omega), IntWalk.rem_in _ _ (by omega)]
    rfl
  (repeat (first | refine Rn.seq hc ?_ | refine Rn.skip hc ?_ | refine Rn.block hc ?_ | refine Rn.inBlock hc ?_ | refine Rn.scope hc ?_ | refine Rn.inScope hc ?_))
  refine Rn.reg hc rfl ?_
  simp only [sev_const, gd, want_free, rops, fx, Option.some.injEq, exists_eq_left', show Try.f109.ntmps = 29 from rfl]
  (repeat (first | refine Rn.seq hc ?_ | refine Rn.skip hc ?_ | refine Rn.block hc ?_ | refine Rn.inBlock hc ?_ | refine Rn.scope hc ?_ | refine Rn.inScope hc ?_))
  by_cases hdiv : ro.length % d = 0
  · have hd3 : (!decide (((ro.length % d : Nat) : Int) = 0)) = false := by rw [hdiv]; rfl
    refine Rn.reg hc rfl ?_
    simp only [sev_tmp, sev_const, sg_eq, sg_ne, sp_n, Nat.reduceLT, ne_eq, Nat.reduceEqDiff, not_false_eq_true, gd, want_free, rops, fx, lng, bin_neq, Option.some.injEq, exists_eq_left', un22, hrem, hd3]
    (repeat (first | refine Rn.seq hc ?_ | refine Rn.skip hc ?_ | refine Rn.block hc ?_ | refine Rn.inBlock hc ?_ | refine Rn.scope hc ?_ | refine Rn.inScope hc ?_))
    refine Rn.condE hc rfl ?_
    simp only [sev_tmp, sg_eq, sp_n, Nat.reduceLT, Value.bool.injEq, exists_eq_left']
    (repeat (first | refine Rn.seq hc ?_ | refine Rn.skip hc ?_ | refine Rn.block hc ?_ | refine Rn.inBlock hc ?_ | refine Rn.scope hc ?_ | refine Rn.inScope hc ?_))
    refine Rn.reg hc rfl ?_
    simp only [sev_tmp, sg_eq, sg_ne, sp_n, Nat.reduceLT, ne_eq, Nat.reduceEqDiff, not_false_eq_true, gd, want_free, rops, fx, Option.some.injEq, exists_eq_left']
    (repeat (first | refine Rn.seq hc ?_ | refine Rn.skip hc ?_ | refine Rn.block hc ?_ | refine Rn.inBlock hc ?_ | refine Rn.scope hc ?_ | refine Rn.inScope hc ?_))
    refine Rn.loopI hc (I := fun k s A' => ∃ i : Nat, d ≤ i ∧ (i ≤ ro.length ∨ i = d) ∧ k = ro.length - i ∧ Nx A.next A A' ∧ (∀ j, d ≤ j → j < i → ro.getD j 0 = ro.getD (j - d) 0) ∧ s.n = 29 ∧ sget s 0 = .slice a ro.length c ∧ sget s 1 = .int .i64 (d : Int) ∧ sget s 5 = .int .i64 (i : Int))
      (n := ro.length - d) ⟨d, Nat.le_refl _, .inr rfl, rfl, Nx.refl hw _, fun j h1 h2 => by omega, by simp only [sp_n], by simp only [sg_eq, sg_ne, Nat.reduceLT, ne_eq, Nat.reduceEqDiff, not_false_eq_true], by simp only [sg_eq, sg_ne, sp_n, Nat.reduceLT, ne_eq, Nat.reduceEqDiff, not_false_eq_true], by simp only [sg_eq, sp_n, Nat.reduceLT]⟩ ?_
    rintro k s A' ⟨i, hi1, hi2, rfl, hA, hper, hn, s0, s1, s5⟩ ih
    (repeat (first | refine Rn.seq hc ?_ | refine Rn.skip hc ?_ | refine Rn.block hc ?_ | refine Rn.inBlock hc ?_ | refine Rn.scope hc ?_ | refine Rn.inScope hc ?_))
    by_cases hlti : i < ro.length
    · have hd : decide ((i : Int) < (ro.length : Int)) = true := decide_eq_true (by omega)
      obtain ⟨bb, o, rfl, _, hb1, hcl⟩ := hr i hlti
      obtain ⟨bb', o', e', _, _, hcl'⟩ := hr (i - d) (by omega)
      cases e'
      have hcl : cl A' bb (o + i) = _ := (hA.cl hb1 _).trans hcl
      have hcl' : cl A' bb (o + (i - d)) = _ := (hA.cl hb1 _).trans hcl'
      have hsub : IntKind.i64.wrap ((i : Int) - (d : Int)) = ((i - d : Nat) : Int) := by rw [IntWalk.i64_in _ (by omega)]; omega
      have hidl : i - d < ro.length := by omega
      refine Rn.reg hc rfl ?_
      simp only [sev_tmp, sg_eq, sg_ne, sp_n, Nat.reduceLT, ne_eq, Nat.reduceEqDiff, not_false_eq_true, gd, want_free, rops, fx, lng, bin_lss, Option.some.injEq, exists_eq_left', un22, hn, s0, s5, hd]
      (repeat (first | refine Rn.seq hc ?_ | refine Rn.skip hc ?_ | refine Rn.block hc ?_ | refine Rn.inBlock hc ?_ | refine Rn.scope hc ?_ | refine Rn.inScope hc ?_))
      refine Rn.condE hc rfl ?_
      simp only [sev_tmp, sg_eq, sp_n, Nat.reduceLT, Value.bool.injEq, exists_eq_left', hn]
      (repeat (first | refine Rn.seq hc ?_ | refine Rn.skip hc ?_ | refine Rn.block hc ?_ | refine Rn.inBlock hc ?_ | refine Rn.scope hc ?_ | refine Rn.inScope hc ?_))
      by_cases heq : ro.getD i 0 = ro.getD (i - d) 0
      · have hne : (!decide (ro.getD i 0 = ro.getD (i - d) 0)) = false := by rw [decide_eq_true heq]; rfl
        refine Rn.drawnR hc hx (by kernel_rfl) (by rfl) (by kernel_rfl) ?_ ?_
        · simp only [rdV, VQ.int, VQ.bool, VQ.ptr, VQ.slice, cl_bump, sev_tmp, sg_eq, sg_ne, sp_n, Nat.reduceLT, ne_eq, Nat.reduceEqDiff, not_false_eq_true, gd, want_free, fx, ld, idx, bin_neq, bin_sub, adr_p, Nat.zero_add, Nat.reduceAdd, Nat.mul_one, and_self, tk3, eo22, hn, s0, s1, s5, nlen_nat hlti, nlen_nat hidl, hsub, hcl, hcl', hne, List.length_cons, List.length_nil]
        simp only [cl_bump, sev_tmp, sg_eq, sg_ne, sp_n, Nat.reduceLT, ne_eq, Nat.reduceEqDiff, not_false_eq_true, gd, want_free, rops, fx, ld, idx, bin_neq, bin_sub, adr_p, Nat.zero_add, Option.some.injEq, exists_eq_left', Nat.reduceAdd, Nat.mul_one, tk3, eo22, hn, s0, s1, s5, nlen_nat hlti, nlen_nat hidl, hsub, hcl, hcl', hne, List.length_cons, List.length_nil]
        (repeat (first | refine Rn.seq hc ?_ | refine Rn.skip hc ?_ | refine Rn.block hc ?_ | refine Rn.inBlock hc ?_ | refine Rn.scope hc ?_ | refine Rn.inScope hc ?_))
        refine Rn.condE hc rfl ?_
        simp only [sev_tmp, sg_eq, sp_n, Nat.reduceLT, Value.bool.injEq, exists_eq_left', hn]
        (repeat (first | refine Rn.seq hc ?_ | refine Rn.skip hc ?_ | refine Rn.block hc ?_ | refine Rn.inBlock hc ?_ | refine Rn.scope hc ?_ | refine Rn.inScope hc ?_))
        refine Rn.reg hc rfl ?_
        simp only [sev_tmp, sev_const, sg_eq, sg_ne, sp_n, Nat.reduceLT, ne_eq, Nat.reduceEqDiff, not_false_eq_true, gd, want_free, rops, fx, bin_add, Option.some.injEq, exists_eq_left', hn, s5, wrap_succ (show i < 9223372036854775807 by omega)]
        (repeat (first | refine Rn.seq hc ?_ | refine Rn.skip hc ?_ | refine Rn.block hc ?_ | refine Rn.inBlock hc ?_ | refine Rn.scope hc ?_ | refine Rn.inScope hc ?_))
        refine ih _ _ _ (by omega) ⟨i + 1, by omega, .inl (by omega), rfl, Nx.bump hA _, fun j h1 h2 => ?_, by simp only [sp_n, hn], by simp only [sg_ne, ne_eq, Nat.reduceEqDiff, not_false_eq_true, s0], by simp only [sg_ne, ne_eq, Nat.reduceEqDiff, not_false_eq_true, s1], by simp only [sg_eq, sp_n, Nat.reduceLT, hn]⟩
        by_cases hji : j = i
        · subst hji; exact heq
        · exact hper j h1 (by omega)
      · have hne : (!decide (ro.getD i 0 = ro.getD (i - d) 0)) = true := by rw [decide_eq_false heq]; rfl
        have hfalse : perOK ro d = false := by
          cases hp : perOK ro d with
          | false => rfl
          | true => exact absurd ((perOK_iff.1 hp).2 i hi1 hlti) heq
        clear ih
        refine Rn.drawnR hc hx (by kernel_rfl) (by rfl) (by kernel_rfl) ?_ ?_
        · simp only [rdV, VQ.int, VQ.bool, VQ.ptr, VQ.slice, cl_bump, sev_tmp, sg_eq, sg_ne, sp_n, Nat.reduceLT, ne_eq, Nat.reduceEqDiff, not_false_eq_true, gd, want_free, fx, ld, idx, bin_neq, bin_sub, adr_p, Nat.zero_add, Nat.reduceAdd, Nat.mul_one, and_self, tk3, eo22, hn, s0, s1, s5, nlen_nat hlti, nlen_nat hidl, hsub, hcl, hcl', hne, List.length_cons, List.length_nil]
        simp only [cl_bump, sev_tmp, sg_eq, sg_ne, sp_n, Nat.reduceLT, ne_eq, Nat.reduceEqDiff, not_false_eq_true, gd, want_free, rops, fx, ld, idx, bin_neq, bin_sub, adr_p, Nat.zero_add, Option.some.injEq, exists_eq_left', Nat.reduceAdd, Nat.mul_one, tk3, eo22, hn, s0, s1, s5, nlen_nat hlti, nlen_nat hidl, hsub, hcl, hcl', hne, List.length_cons, List.length_nil]
        (repeat (first | refine Rn.seq hc ?_ | refine Rn.skip hc ?_ | refine Rn.block hc ?_ | refine Rn.inBlock hc ?_ | refine Rn.scope hc ?_ | refine Rn.inScope hc ?_))
        refine Rn.condE hc rfl ?_
        simp only [sev_tmp, sg_eq, sp_n, Nat.reduceLT, Value.bool.injEq, exists_eq_left', hn]
        (repeat (first | refine Rn.seq hc ?_ | refine Rn.skip hc ?_ | refine Rn.block hc ?_ | refine Rn.inBlock hc ?_ | refine Rn.scope hc ?_ | refine Rn.inScope hc ?_))
        refine Rn.reg hc rfl ?_
        simp only [sev_const, gd, want_free, rops, fx, Option.some.injEq, exists_eq_left']
        (repeat (first | refine Rn.seq hc ?_ | refine Rn.skip hc ?_ | refine Rn.block hc ?_ | refine Rn.inBlock hc ?_ | refine Rn.scope hc ?_ | refine Rn.inScope hc ?_))
        refine Rn.ret (endQ_tmp rfl ⟨?_, Nx.bump hA _⟩)
        simp only [sg_eq, sp_n, Nat.reduceLT, hn, hfalse]
    · have hd : decide ((i : Int) < (ro.length : Int)) = false := decide_eq_false (by omega)
      have htrue : perOK ro d = true := perOK_iff.2 ⟨hdiv, fun j h1 h2 => hper j h1 (by omega)⟩
      clear ih
      refine Rn.reg hc rfl ?_
      simp only [sev_tmp, sg_eq, sg_ne, sp_n, Nat.reduceLT, ne_eq, Nat.reduceEqDiff, not_false_eq_true, gd, want_free, rops, fx, lng, bin_lss, Option.some.injEq, exists_eq_left', un22, hn, s0, s5, hd]
      (repeat (first | refine Rn.seq hc ?_ | refine Rn.skip hc ?_ | refine Rn.block hc ?_ | refine Rn.inBlock hc ?_ | refine Rn.scope hc ?_ | refine Rn.inScope hc ?_))
      refine Rn.condE hc rfl ?_
      simp only [sev_tmp, sg_eq, sp_n, Nat.reduceLT, Value.bool.injEq, exists_eq_left', hn]
      (repeat (first | refine Rn.seq hc ?_ | refine Rn.skip hc ?_ | refine Rn.block hc ?_ | refine Rn.inBlock hc ?_ | refine Rn.scope hc ?_ | refine Rn.inScope hc ?_))
      refine Rn.exit hc rfl ?_
      (repeat (first | refine Rn.seq hc ?_ | refine Rn.skip hc ?_ | refine Rn.block hc ?_ | refine Rn.inBlock hc ?_ | refine Rn.scope hc ?_ | refine Rn.inScope hc ?_))
      refine Rn.reg hc rfl ?_
      simp only [sev_const, gd, want_free, rops, fx, Option.some.injEq, exists_eq_left']
      (repeat (first | refine Rn.seq hc ?_ | refine Rn.skip hc ?_ | refine Rn.block hc ?_ | refine Rn.inBlock hc ?_ | refine Rn.scope hc ?_ | refine Rn.inScope hc ?_))
      refine Rn.ret (endQ_tmp rfl ⟨?_, hA⟩)
      simp only [sg_eq, sp_n, Nat.reduceLT, hn, htrue]
  · have hd3 : (!decide (((ro.length % d : Nat) : Int) = 0)) = true := by rw [decide_eq_false (by omega)]; rfl
    have hfalse : perOK ro d = false := by
      cases hp : perOK ro d with
      | false => rfl
      | true => exact absurd (perOK_iff.1 hp).1 hdiv
    refine Rn.reg hc rfl ?_
    simp only [sev_tmp, sev_const, sg_eq, sg_ne, sp_n, Nat.reduceLT, ne_eq, Nat.reduceEqDiff, not_false_eq_true, gd, want_free, rops, fx, lng, bin_neq, Option.some.injEq, exists_eq_left', un22, hrem, hd3]
    (repeat (first | refine Rn.seq hc ?_ | refine Rn.skip hc ?_ | refine Rn.block hc ?_ | refine Rn.inBlock hc ?_ | refine Rn.scope hc ?_ | refine Rn.inScope hc ?_))
    refine Rn.condE hc rfl ?_
    simp only [sev_tmp, sg_eq, sp_n, Nat.reduceLT, Value.bool.injEq, exists_eq_left']
    (repeat (first | refine Rn.seq hc ?_ | refine Rn.skip hc ?_ | refine Rn.block hc ?_ | refine Rn.inBlock hc ?_ | refine Rn.scope hc ?_ | refine Rn.inScope hc ?_))
    refine Rn.reg hc rfl ?_
    simp only [sev_const, gd, want_free, rops, fx, Option.some.injEq, exists_eq_left']
    (repeat (first | refine Rn.seq hc ?_ | refine Rn.skip hc ?_ | refine Rn.block hc ?_ | refine Rn.inBlock hc ?_ | refine Rn.scope hc ?_ | refine Rn.inScope hc ?_))
    refine Rn.ret (endQ_tmp rfl ⟨?_, Nx.refl hw _⟩)
    simp only [sg_eq, sp_n, Nat.reduceLT, hfalse]
end Go.Proofs.Ytdaljohmfnfgiaa
/- The reference's least stream: what is popped off. No condition. -/
namespace Go.Proofs.Ytdaljohmfnfgiaa
open Go Go.RowKit Go.Proofs.Ytdaljohmfnfgiaa.Canon
set_option maxRecDepth 20000


/-- A piece of a slice that is not empty: the same one, shorter. -/
theorem asl_pos {A : AHeap} {a : Option Addr} {c lo hi : Nat} {l : List Int} (h : Ints A a lo hi l) (hs : Sl A a lo) (hc' : l.length ≤ c) (hpos : 0 < l.length) {n : Nat} (hn : n ≤ l.length) :
    asl Try.prog 22 (.slice a l.length c) none (some (.int .i64 (n : Int))) none A = some (.slice a n c, A) := by
  obtain ⟨_, i, z, hinf, _, _, _, hsz, _⟩ := elB_eq el22
  have hb1 : abound (some (.int .i64 (n : Int))) l.length = some n := by simp [abound]
  have hb0 : ∀ d, abound none d = some d := fun _ => rfl
  have t1 : Nat.ble 0 n = true := Nat.ble_eq_true_of_le (Nat.zero_le _)
  have t2 : Nat.ble n c = true := Nat.ble_eq_true_of_le (by omega)
  have t3 : Nat.ble c c = true := Nat.ble_eq_true_of_le (Nat.le_refl _)
  have hc0 : c ≠ 0 := by omega
  obtain ⟨b, o, rfl, _, _, _⟩ := h 0 hpos
  obtain ⟨_, _, y, hy, hg⟩ := hs _ rfl
  obtain ⟨ob, g, zz⟩ := y
  have hadd : (⟨b, o, none⟩ : Addr).add (0 * i.size) = ⟨b, o, none⟩ := by
    rw [Nat.zero_mul, addr_add]; rfl
  rcases hg with hg | ⟨hg, _, hz⟩
  · simp only at hg
    subst hg
    simp only [asl, un22, hinf, hb0, hb1, t2, Option.isSome_none, Bool.not_false, Bool.true_or, Nat.sub_zero, hy]
    rw [t1, t3]
    simp only [hc0, if_false, hadd]
  · simp only at hg hz
    subst hg hz
    have hzi : Nat.beq 1 i.size = true := by rw [hsz]; rfl
    have hcb : Nat.beq c 0 = false := by
      cases hb : Nat.beq c 0 with
      | false => rfl
      | true => exact absurd (Nat.eq_of_beq_eq_true hb) hc0
    simp only [asl, un22, hinf, hb0, hb1, t2, Option.isSome_none, Bool.not_false, Bool.true_or, Nat.sub_zero, hy, hzi, hcb, hadd]
    rw [t1, t3]
theorem Ints.take {A : AHeap} {a : Option Addr} {lo hi n : Nat} {l : List Int} (h : Ints A a lo hi l) : Ints A a lo hi (l.take n) := fun i hi' => by
  have hl : i < l.length := by simp at hi'; omega
  have hn : i < n := by simp at hi'; omega
  obtain ⟨b, o, q1, q2, q3, q4⟩ := h i hl
  refine ⟨b, o, q1, q2, q3, ?_⟩
  rw [q4]
  simp only [List.getD_eq_getElem?_getD, List.getElem?_take]
  rw [if_pos hn]
/-- A list is appended to a row that has nothing in it. -/
theorem app_at {A : AHeap} (hw : WF A) {b n : Nat} (hb : ∃ y, Canon.look A.objs b = .some y ∧ y.grown = false ∧ y.esz = 0) (hn : n ≤ A.next) (hnb : n ≤ b) (hbn : b < A.next) {a2 : Option Addr} {c2 : Nat} {l : List Int} (h : Ints A a2 0 A.next l) (hlen : l.length ≤ 1000000) :
    ∃ a' A1, aapp Try.prog #[22, 22] #[.slice (some ⟨b, 0, none⟩) 0 0, .slice a2 l.length c2] A = .some (.slice a' l.length l.length, A1) ∧ Nx A.next A A1 ∧ Gr A1 a' n l := by
  by_cases h0 : l.length = 0
  · have hl : l = [] := List.length_eq_zero_iff.1 h0
    subst hl
    exact ⟨some ⟨b, 0, none⟩, A, aapp_nil el22 un22 (Nat.le_refl _), Nx.refl hw _, fun i hi => by simp at hi, fun x hx => by cases hx; obtain ⟨y, h1, h2, _⟩ := hb; exact ⟨rfl, hnb, y, h1, .inl h2⟩, fun x hx => by cases hx; obtain ⟨y, h1, h2, h3⟩ := hb; exact ⟨y, h1, by rw [h2, h3]; rfl⟩⟩
  · obtain ⟨A1, h1, h2⟩ := aapp_new (P := Try.prog) (c := 0) (c2 := c2) (a := some ⟨b, 0, none⟩) (n := 0) (l := []) (m := l.length) el22 un22 (.inl rfl) (by simp)
      (fun x hx => by cases hx; obtain ⟨y, h1, h2, _⟩ := hb; exact ⟨y, h1, .inl h2⟩) (fun h => by cases h) h.row (by simp) (by simp [isCell]) (fun h' => by subst h'; exact absurd h.some h0) (by omega) (by omega) (by omega)
    simp only [Nat.zero_add] at h1
    refine ⟨_, A1, h1, h2.nx hw (Nat.le_refl _) (fun x hx => by cases hx; obtain ⟨y, q1, q2, _⟩ := hb; exact .inr ⟨y, q1, q2⟩), fun i hi => ⟨_, _, rfl, hn, by rw [h2.next]; omega, ?_⟩, fun x hx => by cases hx; exact ⟨rfl, hn, _, h2.new, .inr ⟨rfl, rfl, rfl⟩⟩, fun x hx => by cases hx; exact ⟨_, h2.new, rfl⟩⟩
    rw [h2.cl]
    simp [List.getD_eq_getElem?_getD, hi]
/-- A list is appended to a row of one number. -/
theorem app_one {A : AHeap} (hw : WF A) {b n : Nat} {x : Int} (hb : Canon.look A.objs b = .some ⟨.cells ⟨[.int .i64 x]⟩ 3, false, 0⟩) (hn : n ≤ A.next) (hnb : n ≤ b) (hbn : b < A.next) {a2 : Option Addr} {c2 : Nat} {l : List Int} (h : Ints A a2 0 A.next l) (hlen : l.length ≤ 1000000) :
    ∃ a' A1, aapp Try.prog #[22, 22] #[.slice (some ⟨b, 0, none⟩) 1 1, .slice a2 l.length c2] A = .some (.slice a' (l.length + 1) (l.length + 1), A1) ∧ Nx A.next A A1 ∧ Gr A1 a' n (x :: l) := by
  have hc0 : cl A b 0 = some (.int .i64 x) := by rw [cl_of hb rfl]; rfl
  by_cases h0 : l.length = 0
  · have hl : l = [] := List.length_eq_zero_iff.1 h0
    subst hl
    refine ⟨some ⟨b, 0, none⟩, A, aapp_nil el22 un22 (Nat.le_refl _), Nx.refl hw _, fun i hi => ?_, fun x hx => by cases hx; exact ⟨rfl, hnb, _, hb, .inl rfl⟩, fun x hx => by cases hx; exact ⟨_, hb, rfl⟩⟩
    have : i = 0 := by simp at hi; omega
    subst this
    exact ⟨b, 0, rfl, hnb, hbn, hc0⟩
  · obtain ⟨A1, h1, h2⟩ := aapp_new (P := Try.prog) (c := 1) (c2 := c2) (a := some ⟨b, 0, none⟩) (n := 1) (l := [.int .i64 x]) (m := l.length) el22 un22 (.inr ⟨b, 0, rfl, fun i hi => by
        have : i = 0 := by simp at hi; omega
        subst this
        exact hc0⟩) (by simp)
      (fun x hx => by cases hx; exact ⟨_, hb, .inl rfl⟩) (fun h => by cases h) h.row (by simp) (by simp [isCell]) (fun h' => by subst h'; exact absurd h.some h0) (by omega) (by omega) (by omega)
    rw [Nat.add_comm 1 l.length] at h1
    refine ⟨_, A1, h1, h2.nx hw (Nat.le_refl _) (fun x hx => by cases hx; exact .inr ⟨_, hb, rfl⟩), fun i hi => ⟨_, _, rfl, hn, by rw [h2.next]; omega, ?_⟩, fun x hx => by cases hx; exact ⟨rfl, hn, _, h2.new, .inr ⟨rfl, rfl, rfl⟩⟩, fun x hx => by cases hx; exact ⟨_, h2.new, rfl⟩⟩
    rw [h2.cl]
    simp only [Nat.zero_add]
    cases i with
    | zero => simp
    | succ i =>
      have : i < l.length := by simpa using hi
      simp [List.getD_eq_getElem?_getD, this]
end Go.Proofs.Ytdaljohmfnfgiaa
/- The reference's least stream. No condition. -/
namespace Go.Proofs.Ytdaljohmfnfgiaa
open Go Go.RowKit Go.Proofs.Ytdaljohmfnfgiaa.Canon
set_option maxRecDepth 20000


theorem redS_take (s : Nat → Int) {e k : Nat} (h : k ≤ e) : (redS s e).take k = redS s k := by
  refine List.ext_getElem (by simp [redS]; omega) fun i h1 h2 => ?_
  simp [redS]
theorem redR_take (s : Nat → Int) (a : Nat) {n k : Nat} (h : k ≤ n) : (redR s a n).take k = redR s a k := by
  refine List.ext_getElem (by simp [redR]; omega) fun i h1 h2 => ?_
  simp [redR]
theorem redR_cons (s : Nat → Int) (a n : Nat) : redR s a (n + 1) = s a :: redR s (a + 1) n := by
  refine List.ext_getElem (by simp [redR]) fun i h1 h2 => ?_
  cases i with
  | zero => simp [redR]
  | succ i =>
    simp [redR]
    congr 1
    omega
theorem wrap_pred {k : Nat} (h : 0 < k) (hk : k ≤ 1000000) : IntKind.i64.wrap ((k : Int) - 1) = ((k - 1 : Nat) : Int) := by rw [IntWalk.i64_in _ (by omega)]; omega
theorem small_ref {A : AHeap} (hw : WF A) {m : Int} {sa ra : Option Addr} {sc rc : Nat} {st ro : List Int} (hs : Ints A sa 0 A.next st) (hr : Ints A ra 0 A.next ro) (ls : st.length ≤ 1000000) (lr : ro.length ≤ 1000000) (hro : 0 < ro.length) (hsl : Sl A ra 0) (hrc : ro.length ≤ rc) :
    Con Try.prog 83 [.agg #[.int .i64 m, .slice sa st.length sc, .slice ra ro.length rc]] A (fun v A1 => ∃ a p, Red (atL st ro) a p ∧ a ≤ st.length ∧ p ≤ ro.length ∧ Nx A.next A A1 ∧ ∃ xa xc xr, v = .agg #[.int .i64 m, .slice xa a xc, .slice xr p p] ∧ a ≤ xc ∧ Ints A1 xa A.next A1.next (redS (atL st ro) a) ∧ Ints A1 xr A.next A1.next (redR (atL st ro) a p) ∧ Sl A1 xa A.next ∧ Sl A1 xr A.next) := by
  refine con_of_rn hc Try.func83 rfl (Nat.le_of_ble_eq_true rfl) ?_
  obtain ⟨A0, e0, hx0, hn0, b0, b1, b2⟩ := box3 hw (.int .i64 m) (.slice sa st.length sc) (.slice ra ro.length rc) 24
  have hx1 : Nx A0.next A0 (A0.push (.cells #[.int .i64 0, .slice none 0 0, .slice none 0 0] 24)) := (Nx.refl hx0.wf _).push (Nat.le_refl _) _
  have l1 := look_push_eq A0 (.cells #[.int .i64 0, .slice none 0 0, .slice none 0 0] 24)
  have hn1 : (A0.push (.cells #[.int .i64 0, .slice none 0 0, .slice none 0 0] 24)).next = A0.next + 1 := rfl
  generalize e1 : A0.push (.cells #[.int .i64 0, .slice none 0 0, .slice none 0 0] 24) = A1 at hx1 l1 hn1
  have hx01 : Nx A.next A A1 := hx0.trans (hx1.le hx0.next)
  have b0 := (hx1.cl (show A.next < A0.next by omega) 0).trans b0
  have b1 := (hx1.cl (show A.next < A0.next by omega) 1).trans b1
  have b2 := (hx1.cl (show A.next < A0.next by omega) 2).trans b2
  rw [s_in1]
  (repeat (first | refine Rn.seq hc ?_ | refine Rn.skip hc ?_ | refine Rn.block hc ?_ | refine Rn.inBlock hc ?_ | refine Rn.scope hc ?_ | refine Rn.inScope hc ?_))
  refine Rn.reg hc rfl ?_
  simp only [sev_tmp, sg_eq, Nat.reduceLT, gd, want_free, rops, fx, Option.some.injEq, exists_eq_left', Value.cells, show Try.f83.ntmps = 61 from rfl, e0, ze24, e1]
  (repeat (first | refine Rn.seq hc ?_ | refine Rn.skip hc ?_ | refine Rn.block hc ?_ | refine Rn.inBlock hc ?_ | refine Rn.scope hc ?_ | refine Rn.inScope hc ?_))
  refine Rn.reg hc rfl ?_
  simp only [sev_const, gd, want_free, rops, fx, Option.some.injEq, exists_eq_left']
  (repeat (first | refine Rn.seq hc ?_ | refine Rn.skip hc ?_ | refine Rn.block hc ?_ | refine Rn.inBlock hc ?_ | refine Rn.scope hc ?_ | refine Rn.inScope hc ?_))
  refine Rn.loopI hc (I := fun k s B => ∃ n, 1 ≤ n ∧ n ≤ ro.length ∧ k = ro.length - n ∧ Nx A1.next A1 B ∧ (∀ e, 0 < e → e < n → perOK ro e = false) ∧ s.n = 61 ∧ sget s 1 = .pointer (some ⟨A.next, 0, none⟩) ∧ sget s 2 = .pointer (some ⟨A0.next, 0, none⟩) ∧ sget s 3 = .int .i64 (n : Int))
    (n := ro.length - 1) ⟨1, by omega, hro, rfl, Nx.refl hx1.wf _, fun e h1 h2 => by omega, by simp only [sp_n], by simp only [sg_eq, sg_ne, sp_n, Nat.reduceLT, ne_eq, Nat.reduceEqDiff, not_false_eq_true], by simp only [sg_eq, sg_ne, sp_n, Nat.reduceLT, ne_eq, Nat.reduceEqDiff, not_false_eq_true, hn0], by simp only [sg_eq, sp_n, Nat.reduceLT]; rfl⟩ ?_
  rintro k s B ⟨n, hnn1, hnn2, rfl, hB, hmin, hn, s1, s2, s3⟩ ih
  have n01 : A.next < A1.next := by omega
  have b0 := (hB.cl n01 0).trans b0
  have b1 := (hB.cl n01 1).trans b1
  have b2 := (hB.cl n01 2).trans b2
  have hB0 : Nx A.next A B := hx01.trans (hB.le hx01.next)
  have hsB : Ints B sa 0 B.next st := (hs.nx hB0 (Nat.le_refl _)).mono (Nat.le_refl _) hB0.next
  have hrB : Ints B ra 0 B.next ro := (hr.nx hB0 (Nat.le_refl _)).mono (Nat.le_refl _) hB0.next
  (repeat (first | refine Rn.seq hc ?_ | refine Rn.skip hc ?_ | refine Rn.block hc ?_ | refine Rn.inBlock hc ?_ | refine Rn.scope hc ?_ | refine Rn.inScope hc ?_))
  refine Rn.region hc fun K hK => ?_
  refine Wo.run hc 3 rfl rfl rfl ?_
  simp (maxSteps := 2000000) only [List.drop_zero, List.take_succ_cons, List.take_zero, sev_tmp, sg_eq, sg_ne, Nat.reduceLT, ne_eq, Nat.reduceEqDiff, not_false_eq_true, gd, want_free, rops, fx, ld, fad, adr_p, Nat.zero_add, Option.some.injEq, exists_eq_left', tk22, fo24_2, hn, s1, s3, b2]
  refine Wo.call hc (by rfl) (by rfl) ⟨by rfl, by rfl⟩ (xs := [.slice ra ro.length rc, .int .i64 (n : Int)]) (by rfl) (by rfl) (by simp only [sev_tmp, sg_eq, sg_ne, sp_n, Nat.reduceLT, ne_eq, Nat.reduceEqDiff, not_false_eq_true, List.map_cons, List.map_nil, List.nil_append, List.append_nil, hn]) (Con.mono (turns_ref hB.wf hrB lr (by omega) (by omega)) ?_)
  rintro w C ⟨rfl, hC⟩
  have hBC : Nx A1.next A1 C := hB.trans (hC.le hB.next)
  cases hp : perOK ro n with
  | false =>
    refine Wo.run hc 1 rfl rfl rfl ?_
    simp (maxSteps := 2000000) only [List.drop_zero, List.drop_succ_cons, List.take_succ_cons, List.take_zero, sev_tmp, sg_eq, sp_n, Nat.reduceLT, gd, want_free, rops, fx, Option.some.injEq, exists_eq_left', Nat.reduceAdd, Bool.not_false, ae_not', Bool.not_false, hn, Bool.not_false]
    refine Wo.done hc rfl (hK _ _ ?_)
    clear hK
    (repeat (first | refine Rn.seq hc ?_ | refine Rn.skip hc ?_ | refine Rn.block hc ?_ | refine Rn.inBlock hc ?_ | refine Rn.scope hc ?_ | refine Rn.inScope hc ?_))
    refine Rn.condE hc rfl ?_
    simp only [sev_tmp, sg_eq, sp_n, Nat.reduceLT, Value.bool.injEq, exists_eq_left', hn]
    (repeat (first | refine Rn.seq hc ?_ | refine Rn.skip hc ?_ | refine Rn.block hc ?_ | refine Rn.inBlock hc ?_ | refine Rn.scope hc ?_ | refine Rn.inScope hc ?_))
    have hnl : n < ro.length := Nat.lt_of_le_of_ne hnn2 fun e => by
      rw [e, perOK_self] at hp
      cases hp
    refine Rn.reg hc rfl ?_
    simp only [sev_tmp, sev_const, sg_eq, sg_ne, sp_n, Nat.reduceLT, ne_eq, Nat.reduceEqDiff, not_false_eq_true, gd, want_free, rops, fx, bin_add, Option.some.injEq, exists_eq_left', hn, s3, wrap_succ (show n < 9223372036854775807 by omega)]
    (repeat (first | refine Rn.seq hc ?_ | refine Rn.skip hc ?_ | refine Rn.block hc ?_ | refine Rn.inBlock hc ?_ | refine Rn.scope hc ?_ | refine Rn.inScope hc ?_))
    refine ih _ _ _ (by omega) ⟨n + 1, by omega, by omega, rfl, hBC, fun e h1 h2 => ?_, by simp only [sp_n, hn], by simp only [sg_ne, ne_eq, Nat.reduceEqDiff, not_false_eq_true, s1], by simp only [sg_ne, ne_eq, Nat.reduceEqDiff, not_false_eq_true, s2], by simp only [sg_eq, sp_n, Nat.reduceLT, hn]⟩
    by_cases hen : e = n
    · subst hen; exact hp
    · exact hmin e h1 (by omega)
  | true =>
    clear ih
    refine Wo.run hc 1 rfl rfl rfl ?_
    simp (maxSteps := 2000000) only [List.drop_zero, List.drop_succ_cons, List.take_succ_cons, List.take_zero, sev_tmp, sg_eq, sp_n, Nat.reduceLT, gd, want_free, rops, fx, Option.some.injEq, exists_eq_left', Nat.reduceAdd, Bool.not_true, ae_not', Bool.not_true, hn, Bool.not_true]
    refine Wo.done hc rfl (hK _ _ ?_)
    clear hK
    (repeat (first | refine Rn.seq hc ?_ | refine Rn.skip hc ?_ | refine Rn.block hc ?_ | refine Rn.inBlock hc ?_ | refine Rn.scope hc ?_ | refine Rn.inScope hc ?_))
    refine Rn.condE hc rfl ?_
    simp only [sev_tmp, sg_eq, sp_n, Nat.reduceLT, Value.bool.injEq, exists_eq_left', hn]
    (repeat (first | refine Rn.seq hc ?_ | refine Rn.skip hc ?_ | refine Rn.block hc ?_ | refine Rn.inBlock hc ?_ | refine Rn.scope hc ?_ | refine Rn.inScope hc ?_))
    refine Rn.exit hc rfl ?_
    (repeat (first | refine Rn.seq hc ?_ | refine Rn.skip hc ?_ | refine Rn.block hc ?_ | refine Rn.inBlock hc ?_ | refine Rn.scope hc ?_ | refine Rn.inScope hc ?_))
    have hper := perOK_per (st := st) hro (by omega) hp
    have hpmin : ∀ N e, Per (atL st ro) N e → n ≤ e := fun N e => min_per hro hmin
    have c1 := (hC.cl (show A.next < B.next by have := hB.next; omega) 1).trans b1
    have c2 := (hC.cl (show A.next < B.next by have := hB.next; omega) 2).trans b2
    have c0 := (hC.cl (show A.next < B.next by have := hB.next; omega) 0).trans b0
    have hC0 : Nx A.next A C := hx01.trans (hBC.le hx01.next)
    have hsC : Ints C sa 0 C.next st := (hs.nx hC0 (Nat.le_refl _)).mono (Nat.le_refl _) hC0.next
    have hrC : Ints C ra 0 C.next ro := (hr.nx hC0 (Nat.le_refl _)).mono (Nat.le_refl _) hC0.next
    have hslC : Sl C ra 0 := hsl.nx hw hC0
    have hCn := hC.next
    have hBn := hB.next
    clear b0 b1 b2 hsB hrB hC hB hB0 hs hr
    obtain ⟨F, hF1, hF2, hF3, hF⟩ : ∃ F : AHeap → Prop, (∀ M, F M → cl M A.next 1 = some (.slice sa st.length sc)) ∧ (∀ M, F M → cl M A.next 2 = some (.slice ra ro.length rc)) ∧ (∀ M, F M → asl Try.prog 22 (.slice ra ro.length rc) none (some (.int .i64 (n : Int))) none M = some (.slice ra n rc, M)) ∧ (∀ M, Nx C.next C M → F M) :=
      ⟨fun M => Nx C.next C M, fun M h => (h.cl (by omega) 1).trans c1, fun M h => (h.cl (by omega) 2).trans c2, fun M h => asl_pos ((hrC.nx h (Nat.le_refl _)).mono (Nat.le_refl _) h.next) (hslC.nx hBC.wf h) hrc hro hnn2, fun _ h => h⟩
    have hbk : Nx C.next C (bump C 12) := Nx.bump (Nx.refl hBC.wf _) 12
    have FB := hF _ hbk
    refine Rn.drawnF hc hx noS F (n := 4) (k := 12) (by kernel_rfl) (by kernel_rfl) (by rfl) ?_
    refine Dr.float (by rfl) (by rfl) (by rfl) fb22_0 ?_
    refine Dr.read (by first | rfl | kernel_rfl) (by rfl) (by assumption) (fun M hM => by simp only [sev_tmp, sg_ne, ne_eq, Nat.reduceEqDiff, not_false_eq_true, fx, fad, adr_p, Nat.zero_add, Nat.add_zero, fo24_1, s1] <;> rfl) (by rfl) (by first | exact VQ.int _ _ | exact VQ.bool _ | exact VQ.ptr _ _ | exact VQ.slice _ _ _ | exact VQ.func (by simp [vq_int, vq_ptr, vq_slice]) (by simp [vq_int, vq_ptr, vq_slice]) | exact VQ.agg (by simp [vq_int, vq_ptr, vq_slice]) | exact VQ.tuple (by simp [vq_int, vq_ptr, vq_slice])) ?_
    refine Dr.read (by first | rfl | kernel_rfl) (by rfl) (by assumption) (fun M hM => by simp only [sev_tmp, sg_eq, sp_n, Nat.reduceLT, fx, ld, adr_p, Nat.add_zero, tk22, hn, hF1 M hM] <;> rfl) (by rfl) (by first | exact VQ.int _ _ | exact VQ.bool _ | exact VQ.ptr _ _ | exact VQ.slice _ _ _ | exact VQ.func (by simp [vq_int, vq_ptr, vq_slice]) (by simp [vq_int, vq_ptr, vq_slice]) | exact VQ.agg (by simp [vq_int, vq_ptr, vq_slice]) | exact VQ.tuple (by simp [vq_int, vq_ptr, vq_slice])) ?_
    obtain ⟨C1, p1, hxC1, eC1, lC1, kC1⟩ := place_row hbk (b := C.next + 0) (by omega) (by rw [bump_next]; omega) (hBC.wf.none (by omega)) [] 3 0 0
    rw [bump_next] at eC1
    obtain ⟨xa, C2, q1, k2, g2⟩ := app_at (n := C.next) hxC1.wf ⟨_, lC1, rfl, rfl⟩ (by omega) (by omega) (by omega) (c2 := sc) ((hsC.nx hxC1 (Nat.le_refl _)).mono (Nat.le_refl _) hxC1.next) ls
    have hC2 : Nx C.next C C2 := hxC1.trans (k2.le (by omega))
    refine Dr.eff (by rfl) (by rfl) (pd1 := [(0, ⟨[], 3, .sl 0 0⟩)]) (pd2 := []) (by kernel_rfl) (by kernel_rfl) (ms0 := [bump C 12]) (A0 := C1) (by simp only [placeAll, p1]) (fun M hM => by rw [List.mem_singleton] at hM; rw [hM]; exact FB) (hF _ hxC1) (by rfl)
      (v := .slice xa st.length st.length) (A1 := C2) (opRun_op rfl (by simp only [sev_tmp, sg_eq, sg_ne, sp_n, Nat.reduceLT, ne_eq, Nat.reduceEqDiff, not_false_eq_true, Nat.add_zero, hn, ae_apd, apd_slice, FK.val]; exact q1)) ?_
    have FC2 := hF _ hC2
    refine Dr.float (by rfl) (by rfl) (by rfl) fb22_0 ?_
    refine Dr.read (by first | rfl | kernel_rfl) (by rfl) (by assumption) (fun M hM => by simp only [sev_tmp, sg_ne, ne_eq, Nat.reduceEqDiff, not_false_eq_true, fx, fad, adr_p, Nat.zero_add, Nat.add_zero, Nat.reduceAdd, fo24_2, s1] <;> rfl) (by rfl) (by first | exact VQ.int _ _ | exact VQ.bool _ | exact VQ.ptr _ _ | exact VQ.slice _ _ _ | exact VQ.func (by simp [vq_int, vq_ptr, vq_slice]) (by simp [vq_int, vq_ptr, vq_slice]) | exact VQ.agg (by simp [vq_int, vq_ptr, vq_slice]) | exact VQ.tuple (by simp [vq_int, vq_ptr, vq_slice])) ?_
    refine Dr.read (by first | rfl | kernel_rfl) (by rfl) (by assumption) (fun M hM => by simp only [sev_tmp, sg_eq, sp_n, Nat.reduceLT, fx, ld, adr_p, Nat.zero_add, Nat.add_zero, Nat.reduceAdd, tk22, hn, hF2 M hM] <;> rfl) (by rfl) (by first | exact VQ.int _ _ | exact VQ.bool _ | exact VQ.ptr _ _ | exact VQ.slice _ _ _ | exact VQ.func (by simp [vq_int, vq_ptr, vq_slice]) (by simp [vq_int, vq_ptr, vq_slice]) | exact VQ.agg (by simp [vq_int, vq_ptr, vq_slice]) | exact VQ.tuple (by simp [vq_int, vq_ptr, vq_slice])) ?_
    refine Dr.read (by first | rfl | kernel_rfl) (by rfl) (by assumption) (fun M hM => by simp only [sev_tmp, sg_ne, ne_eq, Nat.reduceEqDiff, not_false_eq_true, fx, Nat.zero_add, Nat.add_zero, Nat.reduceAdd, s3] <;> rfl) (by rfl) (by first | exact VQ.int _ _ | exact VQ.bool _ | exact VQ.ptr _ _ | exact VQ.slice _ _ _ | exact VQ.func (by simp [vq_int, vq_ptr, vq_slice]) (by simp [vq_int, vq_ptr, vq_slice]) | exact VQ.agg (by simp [vq_int, vq_ptr, vq_slice]) | exact VQ.tuple (by simp [vq_int, vq_ptr, vq_slice])) ?_
    refine Dr.read (by first | rfl | kernel_rfl) (by rfl) (by assumption) (fun M hM => by simp only [sev_tmp, sg_eq, sg_ne, sp_n, Nat.reduceLT, ne_eq, Nat.reduceEqDiff, not_false_eq_true, fx, Nat.zero_add, Nat.add_zero, Nat.reduceAdd, hn, ae_asl_hi, hF3 M hM] <;> rfl) (by rfl) (by first | exact VQ.int _ _ | exact VQ.bool _ | exact VQ.ptr _ _ | exact VQ.slice _ _ _ | exact VQ.func (by simp [vq_int, vq_ptr, vq_slice]) (by simp [vq_int, vq_ptr, vq_slice]) | exact VQ.agg (by simp [vq_int, vq_ptr, vq_slice]) | exact VQ.tuple (by simp [vq_int, vq_ptr, vq_slice])) ?_
    have hn2 := k2.next
    have hnb : Canon.look C2.objs (C.next + 4) = none := by rw [k2.keep _ (by omega), kC1 _ (by omega)]; exact hBC.wf.none (by omega)
    obtain ⟨C3, p3, hxC3, eC3, lC3, kC3⟩ := place_row hC2 (b := C.next + 4) (by omega) (by omega) hnb [] 3 0 0
    have htk : (ro.take n).length = n := by simp; omega
    obtain ⟨xr, C4, q4, k4, g4⟩ := app_at (n := C.next) hxC3.wf ⟨_, lC3, rfl, rfl⟩ (by omega) (by omega) (by omega) (c2 := rc) (((hrC.nx hxC3 (Nat.le_refl _)).mono (Nat.le_refl _) hxC3.next).take (n := n)) (by omega)
    rw [htk] at q4
    have hC4 : Nx C.next C C4 := hxC3.trans (k4.le (by omega))
    refine Dr.eff (by rfl) (by rfl) (pd1 := [(4, ⟨[], 3, .sl 0 0⟩)]) (pd2 := []) (by kernel_rfl) (by kernel_rfl) (ms0 := [C2]) (A0 := C3) (by simp only [placeAll, p3]) (fun M hM => by rw [List.mem_singleton] at hM; rw [hM]; exact FC2) (hF _ hxC3) (by rfl)
      (v := .slice xr n n) (A1 := C4) (opRun_op rfl (by simp only [sev_tmp, sg_eq, sg_ne, sp_n, Nat.reduceLT, ne_eq, Nat.reduceEqDiff, not_false_eq_true, Nat.zero_add, Nat.add_zero, Nat.reduceAdd, hn, ae_apd, apd_slice, FK.val]; exact q4)) ?_
    have FC4 := hF _ hC4
    refine Dr.read (by first | rfl | kernel_rfl) (by rfl) (by assumption) (fun M hM => by simp only [sev_tmp, sg_eq, sg_ne, sp_n, Nat.reduceLT, ne_eq, Nat.reduceEqDiff, not_false_eq_true, fx, Nat.zero_add, Nat.add_zero, Nat.reduceAdd, hn] <;> rfl) (by rfl) (by first | exact VQ.int _ _ | exact VQ.bool _ | exact VQ.ptr _ _ | exact VQ.slice _ _ _ | exact VQ.func (by simp [vq_int, vq_ptr, vq_slice]) (by simp [vq_int, vq_ptr, vq_slice]) | exact VQ.agg (by simp [vq_int, vq_ptr, vq_slice]) | exact VQ.tuple (by simp [vq_int, vq_ptr, vq_slice])) ?_
    refine Dr.read (by first | rfl | kernel_rfl) (by rfl) (by assumption) (fun M hM => by simp only [sev_tmp, sg_eq, sg_ne, sp_n, Nat.reduceLT, ne_eq, Nat.reduceEqDiff, not_false_eq_true, fx, Nat.zero_add, Nat.add_zero, Nat.reduceAdd, hn] <;> rfl) (by rfl) (by first | exact VQ.int _ _ | exact VQ.bool _ | exact VQ.ptr _ _ | exact VQ.slice _ _ _ | exact VQ.func (by simp [vq_int, vq_ptr, vq_slice]) (by simp [vq_int, vq_ptr, vq_slice]) | exact VQ.agg (by simp [vq_int, vq_ptr, vq_slice]) | exact VQ.tuple (by simp [vq_int, vq_ptr, vq_slice])) ?_
    refine Dr.nil (by rfl) (fun M hM => by cases hM) FC4 ⟨C4, by rfl, ?_⟩
    refine Rn.seq hc ?_
    have htake : st = redS (atL st ro) st.length := by
      refine List.ext_getElem (by rw [redS_len]) fun i h1 h2 => ?_
      have := atL_st (ro := ro) h1
      simp [redS, this, List.getD_eq_getElem?_getD, h1]
    have htakeR : ro.take n = redR (atL st ro) st.length n := by
      refine List.ext_getElem (by rw [redR_len]; exact htk) fun i h1 h2 => ?_
      have hi : i < n := by omega
      have := atL_ro (st := st) (show i < ro.length by omega)
      simp [redR, this, List.getD_eq_getElem?_getD, show i < ro.length by omega]
    have gA : Gr C4 xa C.next st := (g2.ext (by omega) fun b' hb' => (by
      by_cases hbb : b' = C.next + 4
      · exact .inl (hbb ▸ hnb)
      · exact .inr (kC3 _ hbb) : Canon.look C2.objs b' = none ∨ Canon.look C3.objs b' = Canon.look C2.objs b')).nx (n := 0) hxC3.wf k4
    rw [htakeR] at g4
    have g4' := g4
    have gA1 := gA.ints
    have gA2 := gA.sl
    have s0' : st.length ≤ st.length := Nat.le_refl _
    clear g2 gA k2 k4 p1 p3 q1 q4 FB FC2 FC4 lC1 lC3 kC1 kC3 hxC1 hxC3 eC1 eC3 hbk
    rw [htake] at gA1
    refine Rn.cut2 hc (Q1 := fun s ds M => ds = [] ∧ ∃ e xc xr, e ≤ st.length ∧ e ≤ xc ∧ Nx C.next C M ∧ Red (atL st ro) e n ∧ Ints M xa C.next M.next (redS (atL st ro) e) ∧ Sl M xa C.next ∧ Ints M xr C.next M.next (redR (atL st ro) e n) ∧ Sl M xr C.next ∧ s.n = 61 ∧ sget s 1 = .pointer (some ⟨A.next, 0, none⟩) ∧ sget s 2 = .pointer (some ⟨A0.next, 0, none⟩) ∧ sget s 4 = .slice xa e xc ∧ sget s 5 = .slice xr n n)
      (Q2 := fun _ _ _ => False) ?_ ?_ ?_
    · (repeat (first | refine Rn.seq hc ?_ | refine Rn.skip hc ?_ | refine Rn.block hc ?_ | refine Rn.inBlock hc ?_ | refine Rn.scope hc ?_ | refine Rn.inScope hc ?_))
      refine Rn.loopI hc (I := fun k s M => ∃ e xc xr, e ≤ st.length ∧ e ≤ xc ∧ k = e ∧ Nx C.next C M ∧ Per (atL st ro) e n ∧ Ints M xa C.next M.next (redS (atL st ro) e) ∧ Sl M xa C.next ∧ Ints M xr C.next M.next (redR (atL st ro) e n) ∧ Sl M xr C.next ∧ s.n = 61 ∧ sget s 1 = .pointer (some ⟨A.next, 0, none⟩) ∧ sget s 2 = .pointer (some ⟨A0.next, 0, none⟩) ∧ sget s 3 = .int .i64 (n : Int) ∧ sget s 4 = .slice xa e xc ∧ sget s 5 = .slice xr n n)
        (n := st.length) ⟨st.length, st.length, xr, s0', s0', rfl, hC4, hper, gA1, gA2, g4.ints, g4.sl, by simp only [sp_n, hn], by simp only [sg_ne, ne_eq, Nat.reduceEqDiff, not_false_eq_true, s1], by simp only [sg_ne, ne_eq, Nat.reduceEqDiff, not_false_eq_true, s2], by simp only [sg_ne, ne_eq, Nat.reduceEqDiff, not_false_eq_true, s3], by simp only [sg_eq, sg_ne, sp_n, Nat.reduceLT, ne_eq, Nat.reduceEqDiff, not_false_eq_true, hn], by simp only [sg_eq, sp_n, Nat.reduceLT, hn]⟩ ?_
      clear g4 g4' gA1 gA2 hn s1 s2 s3 hC4 s xr
      rintro k s M ⟨e, xc, xr, he1, he2, rfl, hM, hpe, ia, la, ir, lr', hn, s1, s2, s3, s4, s5⟩ ih
      have hlS := redS_len (atL st ro) k
      have hlR := redR_len (atL st ro) k n
      (repeat (first | refine Rn.seq hc ?_ | refine Rn.skip hc ?_ | refine Rn.block hc ?_ | refine Rn.inBlock hc ?_ | refine Rn.scope hc ?_ | refine Rn.inScope hc ?_))
      by_cases he0 : k = 0
      · clear ih
        have hd0 : decide ((0 : Int) < (k : Int)) = false := decide_eq_false (by omega)
        refine Rn.drawnR hc hx (by kernel_rfl) (by rfl) (by kernel_rfl) ?_ ?_
        · simp only [rdV, VQ.int, VQ.bool, VQ.slice, sev_tmp, sev_const, sg_eq, sg_ne, sp_n, Nat.reduceLT, ne_eq, Nat.reduceEqDiff, not_false_eq_true, gd, nth, want_free, want_slot, beqB, fx, lng, pck, bin_gtr, Nat.zero_add, Nat.reduceAdd, and_self, un22, hn, s4, hd0, List.length_cons, List.length_nil]
        simp only [sev_tmp, sev_const, sg_eq, sg_ne, sp_n, Nat.reduceLT, ne_eq, Nat.reduceEqDiff, not_false_eq_true, gd, nth, want_free, want_slot, beqB, rops, fx, lng, pck, bin_gtr, Nat.zero_add, Option.some.injEq, exists_eq_left', Nat.reduceAdd, un22, hn, s4, hd0, List.length_cons, List.length_nil]
        (repeat (first | refine Rn.seq hc ?_ | refine Rn.skip hc ?_ | refine Rn.block hc ?_ | refine Rn.inBlock hc ?_ | refine Rn.scope hc ?_ | refine Rn.inScope hc ?_))
        refine Rn.condE hc rfl ?_
        simp only [sev_tmp, sg_eq, sp_n, Nat.reduceLT, Value.bool.injEq, exists_eq_left', hn]
        (repeat (first | refine Rn.seq hc ?_ | refine Rn.skip hc ?_ | refine Rn.block hc ?_ | refine Rn.inBlock hc ?_ | refine Rn.scope hc ?_ | refine Rn.inScope hc ?_))
        refine Rn.exit hc rfl ?_
        (repeat (first | refine Rn.seq hc ?_ | refine Rn.skip hc ?_ | refine Rn.block hc ?_ | refine Rn.inBlock hc ?_ | refine Rn.scope hc ?_ | refine Rn.inScope hc ?_))
        have hMb : Nx M.next M (bump M 17) := Nx.bump (Nx.refl hM.wf _) 17
        exact Rn.fall ⟨rfl, k, xc, xr, he1, he2, hM.trans (hMb.le hM.next), red_of hpe hpmin (fun h => absurd h (by omega)), (ia.nx hMb (Nat.le_refl _)).mono (Nat.le_refl _) hMb.next, la.nx hM.wf hMb, (ir.nx hMb (Nat.le_refl _)).mono (Nat.le_refl _) hMb.next, lr'.nx hM.wf hMb, by simp only [sp_n, hn], by simp only [sg_ne, ne_eq, Nat.reduceEqDiff, not_false_eq_true, s1], by simp only [sg_ne, ne_eq, Nat.reduceEqDiff, not_false_eq_true, s2], by simp only [sg_ne, ne_eq, Nat.reduceEqDiff, not_false_eq_true, s4], by simp only [sg_ne, ne_eq, Nat.reduceEqDiff, not_false_eq_true, s5]⟩
      · have hel : k - 1 < (redS (atL st ro) k).length := by omega
        have hnl : n - 1 < (redR (atL st ro) k n).length := by omega
        obtain ⟨bb, o, hxa, _, hb1, hcl⟩ := ia (k - 1) hel
        obtain ⟨bb', o', hxr, _, hb2, hcl'⟩ := ir (n - 1) hnl
        rw [redS_get (by omega)] at hcl
        rw [redR_get (by omega), show k + (n - 1) = k - 1 + n by omega] at hcl'
        have hd0 : decide ((0 : Int) < (k : Int)) = true := decide_eq_true (by omega)
        have hw1 := wrap_pred (k := k) (by omega) (by omega)
        have hw2 := wrap_pred (k := n) (by omega) (by omega)
        have hel' : k - 1 < k := by omega
        have hnl' : n - 1 < n := by omega
        subst hxa hxr
        by_cases heq : atL st ro (k - 1) = atL st ro (k - 1 + n)
        · have hdq : decide (atL st ro (k - 1) = atL st ro (k - 1 + n)) = true := decide_eq_true heq
          refine Rn.drawnR hc hx (by kernel_rfl) (by rfl) (by kernel_rfl) ?_ ?_
          · simp only [rdV, VQ.int, VQ.bool, VQ.ptr, VQ.slice, cl_bump, sev_tmp, sev_const, sg_eq, sg_ne, sp_n, Nat.reduceLT, ne_eq, Nat.reduceEqDiff, not_false_eq_true, gd, nth, want_free, want_slot, beqB, fx, ld, idx, lng, pck, bin_gtr, bin_eql, bin_sub, adr_p, Nat.zero_add, Nat.reduceAdd, Nat.mul_one, and_self, tk3, un22, eo22, hn, s3, s4, s5, hd0, hw1, hw2, nlen_nat hel', nlen_nat hnl', hcl, hcl', hdq, List.length_cons, List.length_nil]
          simp only [cl_bump, sev_tmp, sev_const, sg_eq, sg_ne, sp_n, Nat.reduceLT, ne_eq, Nat.reduceEqDiff, not_false_eq_true, gd, nth, want_free, want_slot, beqB, rops, fx, ld, idx, lng, pck, bin_gtr, bin_eql, bin_sub, adr_p, Nat.zero_add, Option.some.injEq, exists_eq_left', Nat.reduceAdd, Nat.mul_one, tk3, un22, eo22, hn, s3, s4, s5, hd0, hw1, hw2, nlen_nat hel', nlen_nat hnl', hcl, hcl', hdq, List.length_cons, List.length_nil]
          (repeat (first | refine Rn.seq hc ?_ | refine Rn.skip hc ?_ | refine Rn.block hc ?_ | refine Rn.inBlock hc ?_ | refine Rn.scope hc ?_ | refine Rn.inScope hc ?_))
          refine Rn.condE hc rfl ?_
          simp only [sev_tmp, sg_eq, sp_n, Nat.reduceLT, Value.bool.injEq, exists_eq_left', hn]
          (repeat (first | refine Rn.seq hc ?_ | refine Rn.skip hc ?_ | refine Rn.block hc ?_ | refine Rn.inBlock hc ?_ | refine Rn.scope hc ?_ | refine Rn.inScope hc ?_))
          have hMb : Nx M.next M (bump M 17) := Nx.bump (Nx.refl hM.wf _) 17
          have hMC : Nx C.next C (bump M 17) := hM.trans (hMb.le hM.next)
          have ia := (ia.nx hMb (Nat.le_refl _)).mono (Nat.le_refl _) hMb.next
          have ir := (ir.nx hMb (Nat.le_refl _)).mono (Nat.le_refl _) hMb.next
          have la := la.nx hM.wf hMb
          have lr' := lr'.nx hM.wf hMb
          have hcl' : cl (bump M 17) bb' (o' + (n - 1)) = _ := hcl'
          have hb2 : bb' < (bump M 17).next := Nat.lt_of_lt_of_le hb2 hMb.next
          clear hMb
          generalize hM' : bump M 17 = M' at hMC ia ir la lr' hcl' hb2
          have has : asl Try.prog 22 (.slice (some ⟨bb, o, none⟩) k xc) none (some (.int .i64 ((k - 1 : Nat) : Int))) none M' = some (.slice (some ⟨bb, o, none⟩) (k - 1) xc, M') := by
            have := asl_pos (c := xc) (n := k - 1) ia la (by omega) (by omega) (by omega)
            rwa [hlS] at this
          refine Rn.reg hc rfl ?_
          simp only [sev_tmp, sev_const, sg_eq, sg_ne, sp_n, Nat.reduceLT, ne_eq, Nat.reduceEqDiff, not_false_eq_true, gd, want_free, rops, fx, lng, bin_sub, Option.some.injEq, exists_eq_left', un22, hn, s4, hw1, ae_asl_hi, has]
          (repeat (first | refine Rn.seq hc ?_ | refine Rn.skip hc ?_ | refine Rn.block hc ?_ | refine Rn.inBlock hc ?_ | refine Rn.scope hc ?_ | refine Rn.inScope hc ?_))
          have ia' := ia.take (n := k - 1)
          rw [redS_take _ (by omega)] at ia'
          obtain ⟨F, hF1, hF2, hF⟩ : ∃ F : AHeap → Prop, (∀ X, F X → cl X bb' (o' + (n - 1)) = some (.int .i64 (atL st ro (k - 1 + n)))) ∧ (∀ X, F X → asl Try.prog 22 (.slice (some ⟨bb', o', none⟩) n n) none (some (.int .i64 ((n - 1 : Nat) : Int))) none X = some (.slice (some ⟨bb', o', none⟩) (n - 1) n, X)) ∧ (∀ X, Nx M'.next M' X → F X) :=
            ⟨fun X => Nx M'.next M' X, fun X h => (h.cl hb2 _).trans hcl', fun X h => by
              have := asl_pos (n := n - 1) ((ir.nx h (Nat.le_refl _)).mono (Nat.le_refl _) h.next) (lr'.nx hMC.wf h) (c := n) (by omega) (by omega) (by omega)
              rwa [hlR] at this, fun _ h => h⟩
          have hbk : Nx M'.next M' (bump M' 12) := Nx.bump (Nx.refl hMC.wf _) 12
          have FB := hF _ hbk
          have hMn := hMC.next
          refine Rn.drawnF hc hx noS F (n := 2) (k := 12) (by kernel_rfl) (by kernel_rfl) (by rfl) ?_
          refine Dr.read (by first | rfl | kernel_rfl) (by rfl) (by assumption) (fun M hM => by simp only [sev_tmp, sg_ne, ne_eq, Nat.reduceEqDiff, not_false_eq_true, fx, s5] <;> rfl) (by rfl) (by first | exact VQ.int _ _ | exact VQ.bool _ | exact VQ.ptr _ _ | exact VQ.slice _ _ _ | exact VQ.func (by simp [vq_int, vq_ptr, vq_slice]) (by simp [vq_int, vq_ptr, vq_slice]) | exact VQ.agg (by simp [vq_int, vq_ptr, vq_slice]) | exact VQ.tuple (by simp [vq_int, vq_ptr, vq_slice])) ?_
          refine Dr.read (by first | rfl | kernel_rfl) (by rfl) (by assumption) (fun M hM => by simp only [sev_tmp, sg_ne, ne_eq, Nat.reduceEqDiff, not_false_eq_true, fx, s3] <;> rfl) (by rfl) (by first | exact VQ.int _ _ | exact VQ.bool _ | exact VQ.ptr _ _ | exact VQ.slice _ _ _ | exact VQ.func (by simp [vq_int, vq_ptr, vq_slice]) (by simp [vq_int, vq_ptr, vq_slice]) | exact VQ.agg (by simp [vq_int, vq_ptr, vq_slice]) | exact VQ.tuple (by simp [vq_int, vq_ptr, vq_slice])) ?_
          refine Dr.read (by first | rfl | kernel_rfl) (by rfl) (by assumption) (fun M hM => by simp only [sev_tmp, sev_const, sg_eq, sp_n, Nat.reduceLT, fx, bin_sub, hn, hw2] <;> rfl) (by rfl) (by first | exact VQ.int _ _ | exact VQ.bool _ | exact VQ.ptr _ _ | exact VQ.slice _ _ _ | exact VQ.func (by simp [vq_int, vq_ptr, vq_slice]) (by simp [vq_int, vq_ptr, vq_slice]) | exact VQ.agg (by simp [vq_int, vq_ptr, vq_slice]) | exact VQ.tuple (by simp [vq_int, vq_ptr, vq_slice])) ?_
          refine Dr.read (by first | rfl | kernel_rfl) (by rfl) (by assumption) (fun M hM => by simp only [sev_tmp, sg_eq, sg_ne, sp_n, Nat.reduceLT, ne_eq, Nat.reduceEqDiff, not_false_eq_true, fx, idx, Nat.mul_one, eo22, hn, nlen_nat hnl'] <;> rfl) (by rfl) (by first | exact VQ.int _ _ | exact VQ.bool _ | exact VQ.ptr _ _ | exact VQ.slice _ _ _ | exact VQ.func (by simp [vq_int, vq_ptr, vq_slice]) (by simp [vq_int, vq_ptr, vq_slice]) | exact VQ.agg (by simp [vq_int, vq_ptr, vq_slice]) | exact VQ.tuple (by simp [vq_int, vq_ptr, vq_slice])) ?_
          refine Dr.read (by first | rfl | kernel_rfl) (by rfl) (by assumption) (fun M hM => by simp only [sev_tmp, sg_eq, sp_n, Nat.reduceLT, fx, ld, adr_p, tk3, hn, hF1 M hM] <;> rfl) (by rfl) (by first | exact VQ.int _ _ | exact VQ.bool _ | exact VQ.ptr _ _ | exact VQ.slice _ _ _ | exact VQ.func (by simp [vq_int, vq_ptr, vq_slice]) (by simp [vq_int, vq_ptr, vq_slice]) | exact VQ.agg (by simp [vq_int, vq_ptr, vq_slice]) | exact VQ.tuple (by simp [vq_int, vq_ptr, vq_slice])) ?_
          refine Dr.float (by rfl) (by rfl) (by rfl) (fb22_1 (v := .int .i64 (atL st ro (k - 1 + n))) (by simp only [sev_tmp, sg_eq, sp_n, Nat.reduceLT, hn]) rfl) ?_
          refine Dr.read (by first | rfl | kernel_rfl) (by rfl) (by assumption) (fun M hM => by simp only [sev_tmp, sg_ne, ne_eq, Nat.reduceEqDiff, not_false_eq_true, fx, Nat.zero_add, Nat.reduceAdd, s5] <;> rfl) (by rfl) (by first | exact VQ.int _ _ | exact VQ.bool _ | exact VQ.ptr _ _ | exact VQ.slice _ _ _ | exact VQ.func (by simp [vq_int, vq_ptr, vq_slice]) (by simp [vq_int, vq_ptr, vq_slice]) | exact VQ.agg (by simp [vq_int, vq_ptr, vq_slice]) | exact VQ.tuple (by simp [vq_int, vq_ptr, vq_slice])) ?_
          refine Dr.read (by first | rfl | kernel_rfl) (by rfl) (by assumption) (fun M hM => by simp only [sev_tmp, sg_ne, ne_eq, Nat.reduceEqDiff, not_false_eq_true, fx, Nat.zero_add, Nat.reduceAdd, s3] <;> rfl) (by rfl) (by first | exact VQ.int _ _ | exact VQ.bool _ | exact VQ.ptr _ _ | exact VQ.slice _ _ _ | exact VQ.func (by simp [vq_int, vq_ptr, vq_slice]) (by simp [vq_int, vq_ptr, vq_slice]) | exact VQ.agg (by simp [vq_int, vq_ptr, vq_slice]) | exact VQ.tuple (by simp [vq_int, vq_ptr, vq_slice])) ?_
          refine Dr.read (by first | rfl | kernel_rfl) (by rfl) (by assumption) (fun M hM => by simp only [sev_tmp, sev_const, sg_eq, sp_n, Nat.reduceLT, fx, bin_sub, Nat.zero_add, Nat.reduceAdd, hn, hw2] <;> rfl) (by rfl) (by first | exact VQ.int _ _ | exact VQ.bool _ | exact VQ.ptr _ _ | exact VQ.slice _ _ _ | exact VQ.func (by simp [vq_int, vq_ptr, vq_slice]) (by simp [vq_int, vq_ptr, vq_slice]) | exact VQ.agg (by simp [vq_int, vq_ptr, vq_slice]) | exact VQ.tuple (by simp [vq_int, vq_ptr, vq_slice])) ?_
          refine Dr.read (by first | rfl | kernel_rfl) (by rfl) (by assumption) (fun M hM => by simp only [sev_tmp, sg_eq, sg_ne, sp_n, Nat.reduceLT, ne_eq, Nat.reduceEqDiff, not_false_eq_true, fx, Nat.zero_add, Nat.reduceAdd, hn, ae_asl_hi, hF2 M hM] <;> rfl) (by rfl) (by first | exact VQ.int _ _ | exact VQ.bool _ | exact VQ.ptr _ _ | exact VQ.slice _ _ _ | exact VQ.func (by simp [vq_int, vq_ptr, vq_slice]) (by simp [vq_int, vq_ptr, vq_slice]) | exact VQ.agg (by simp [vq_int, vq_ptr, vq_slice]) | exact VQ.tuple (by simp [vq_int, vq_ptr, vq_slice])) ?_
          obtain ⟨M1, p1, hx1', e1', l1', k1'⟩ := place_row hbk (b := M'.next + 5) (by omega) (by rw [bump_next]; omega) (hMC.wf.none (by omega)) [.int .i64 (atL st ro (k - 1 + n))] 3 1 1
          rw [bump_next] at e1'
          have htk : ((redR (atL st ro) k n).take (n - 1)).length = n - 1 := by rw [redR_take _ _ (by omega), redR_len]
          obtain ⟨xr2, M2, q2, k2, g2⟩ := app_one (n := C.next) hx1'.wf l1' (by omega) (by omega) (by omega) (c2 := n) ((((ir.nx hx1' (Nat.le_refl _)).mono (Nat.zero_le _) hx1'.next)).take (n := n - 1)) (by omega)
          rw [htk, show n - 1 + 1 = n by omega] at q2
          have hM2 : Nx M'.next M' M2 := hx1'.trans (k2.le (by omega))
          refine Dr.eff (by rfl) (by rfl) (pd1 := [(5, ⟨[.int .i64 (atL st ro (k - 1 + n))], 3, .sl 1 1⟩)]) (pd2 := []) (by kernel_rfl) (by kernel_rfl) (ms0 := [bump M' 12]) (A0 := M1) (by simp only [placeAll, p1]) (fun M hM => by rw [List.mem_singleton] at hM; rw [hM]; exact FB) (hF _ hx1') (by rfl)
            (v := .slice xr2 n n) (A1 := M2) (opRun_op rfl (by simp only [sev_tmp, sg_eq, sg_ne, sp_n, Nat.reduceLT, ne_eq, Nat.reduceEqDiff, not_false_eq_true, Nat.zero_add, Nat.reduceAdd, hn, ae_apd, apd_slice, FK.val]; exact q2)) ?_
          have FM2 := hF _ hM2
          refine Dr.read (by first | rfl | kernel_rfl) (by rfl) (by assumption) (fun M hM => by simp only [sev_tmp, sg_eq, sp_n, Nat.reduceLT, fx, Nat.zero_add, Nat.reduceAdd, hn] <;> rfl) (by rfl) (by first | exact VQ.int _ _ | exact VQ.bool _ | exact VQ.ptr _ _ | exact VQ.slice _ _ _ | exact VQ.func (by simp [vq_int, vq_ptr, vq_slice]) (by simp [vq_int, vq_ptr, vq_slice]) | exact VQ.agg (by simp [vq_int, vq_ptr, vq_slice]) | exact VQ.tuple (by simp [vq_int, vq_ptr, vq_slice])) ?_
          refine Dr.nil (by rfl) (fun M hM => by cases hM) FM2 ⟨M2, by rfl, ?_⟩
          (repeat (first | refine Rn.seq hc ?_ | refine Rn.skip hc ?_ | refine Rn.block hc ?_ | refine Rn.inBlock hc ?_ | refine Rn.scope hc ?_ | refine Rn.inScope hc ?_))
          have hcons : atL st ro (k - 1 + n) :: (redR (atL st ro) k n).take (n - 1) = redR (atL st ro) (k - 1) n := by
            rw [redR_take _ _ (by omega), ← heq]
            have := redR_cons (atL st ro) (k - 1) (n - 1)
            rw [show n - 1 + 1 = n by omega, show k - 1 + 1 = k by omega] at this
            exact this.symm
          rw [hcons] at g2
          refine ih _ _ _ (by omega) ⟨k - 1, xc, xr2, by omega, by omega, rfl, hMC.trans (hM2.le hMC.next), Per.back (by rw [show k - 1 + 1 = k by omega]; exact hpe) heq, (ia'.nx hM2 (Nat.le_refl _)).mono (Nat.le_refl _) hM2.next, la.nx hMC.wf hM2, g2.ints, g2.sl, by simp only [sp_n, hn], by simp only [sg_ne, ne_eq, Nat.reduceEqDiff, not_false_eq_true, s1], by simp only [sg_ne, ne_eq, Nat.reduceEqDiff, not_false_eq_true, s2], by simp only [sg_ne, ne_eq, Nat.reduceEqDiff, not_false_eq_true, s3], by simp only [sg_eq, sg_ne, sp_n, Nat.reduceLT, ne_eq, Nat.reduceEqDiff, not_false_eq_true, hn], by simp only [sg_eq, sp_n, Nat.reduceLT, hn]⟩
        · have hdq : decide (atL st ro (k - 1) = atL st ro (k - 1 + n)) = false := decide_eq_false heq
          clear ih
          refine Rn.drawnR hc hx (by kernel_rfl) (by rfl) (by kernel_rfl) ?_ ?_
          · simp only [rdV, VQ.int, VQ.bool, VQ.ptr, VQ.slice, cl_bump, sev_tmp, sev_const, sg_eq, sg_ne, sp_n, Nat.reduceLT, ne_eq, Nat.reduceEqDiff, not_false_eq_true, gd, nth, want_free, want_slot, beqB, fx, ld, idx, lng, pck, bin_gtr, bin_eql, bin_sub, adr_p, Nat.zero_add, Nat.reduceAdd, Nat.mul_one, and_self, tk3, un22, eo22, hn, s3, s4, s5, hd0, hw1, hw2, nlen_nat hel', nlen_nat hnl', hcl, hcl', hdq, List.length_cons, List.length_nil]
          simp only [cl_bump, sev_tmp, sev_const, sg_eq, sg_ne, sp_n, Nat.reduceLT, ne_eq, Nat.reduceEqDiff, not_false_eq_true, gd, nth, want_free, want_slot, beqB, rops, fx, ld, idx, lng, pck, bin_gtr, bin_eql, bin_sub, adr_p, Nat.zero_add, Option.some.injEq, exists_eq_left', Nat.reduceAdd, Nat.mul_one, tk3, un22, eo22, hn, s3, s4, s5, hd0, hw1, hw2, nlen_nat hel', nlen_nat hnl', hcl, hcl', hdq, List.length_cons, List.length_nil]
          (repeat (first | refine Rn.seq hc ?_ | refine Rn.skip hc ?_ | refine Rn.block hc ?_ | refine Rn.inBlock hc ?_ | refine Rn.scope hc ?_ | refine Rn.inScope hc ?_))
          refine Rn.condE hc rfl ?_
          simp only [sev_tmp, sg_eq, sp_n, Nat.reduceLT, Value.bool.injEq, exists_eq_left', hn]
          (repeat (first | refine Rn.seq hc ?_ | refine Rn.skip hc ?_ | refine Rn.block hc ?_ | refine Rn.inBlock hc ?_ | refine Rn.scope hc ?_ | refine Rn.inScope hc ?_))
          refine Rn.exit hc rfl ?_
          (repeat (first | refine Rn.seq hc ?_ | refine Rn.skip hc ?_ | refine Rn.block hc ?_ | refine Rn.inBlock hc ?_ | refine Rn.scope hc ?_ | refine Rn.inScope hc ?_))
          have hMb : Nx M.next M (bump M 17) := Nx.bump (Nx.refl hM.wf _) 17
          exact Rn.fall ⟨rfl, k, xc, _, he1, he2, hM.trans (hMb.le hM.next), red_of hpe hpmin (fun _ hh => heq hh), (ia.nx hMb (Nat.le_refl _)).mono (Nat.le_refl _) hMb.next, la.nx hM.wf hMb, (ir.nx hMb (Nat.le_refl _)).mono (Nat.le_refl _) hMb.next, lr'.nx hM.wf hMb, by simp only [sp_n, hn], by simp only [sg_ne, ne_eq, Nat.reduceEqDiff, not_false_eq_true, s1], by simp only [sg_ne, ne_eq, Nat.reduceEqDiff, not_false_eq_true, s2], by simp only [sg_ne, ne_eq, Nat.reduceEqDiff, not_false_eq_true, s4], by simp only [sg_ne, ne_eq, Nat.reduceEqDiff, not_false_eq_true, s5]⟩
    · clear hn s1 s2 s3 s
      rintro s ds M ⟨rfl, e, xc, xr, he1, he2, hM, hred, ia, la, ir, lr', hn, s1, s2, s4, s5⟩
      have l2 : Canon.look M.objs A0.next = _ := (hM.keep _ (by omega)).trans ((hBC.keep _ (by omega)).trans l1)
      have g0 := (hM.cl (show A.next < C.next by omega) 0).trans c0
      obtain ⟨D, c', q1, q2, q3, q4⟩ := sts_upd (l := [.int .i64 m, .slice xa e xc, .slice xr n n]) (o := 0) l2 rfl (by simp) rfl
      have r0 : cl D A0.next 0 = some (.int .i64 m) := by rw [q2.cl, q4]; rfl
      have r1 : cl D A0.next 1 = some (.slice xa e xc) := by rw [q2.cl, q4]; rfl
      have r2 : cl D A0.next 2 = some (.slice xr n n) := by rw [q2.cl, q4]; rfl
      (repeat (first | refine Rn.seq hc ?_ | refine Rn.skip hc ?_ | refine Rn.block hc ?_ | refine Rn.inBlock hc ?_ | refine Rn.scope hc ?_ | refine Rn.inScope hc ?_))
      refine Rn.reg hc rfl ?_
      simp only [sev_tmp, sg_eq, sg_ne, sp_n, sp_none, Nat.reduceLT, ne_eq, Nat.reduceEqDiff, not_false_eq_true, gd, want_free, rops, fx, ld, str, fad, adr_p, Nat.zero_add, Nat.add_zero, Option.some.injEq, exists_eq_left', Nat.reduceAdd, tk3, tk24, fo24_0, hn, s1, s2, s4, s5, g0, bd24, isCell, q1, List.size_toArray, List.length_cons, List.length_nil, Nat.beq_refl]
      (repeat (first | refine Rn.seq hc ?_ | refine Rn.skip hc ?_ | refine Rn.block hc ?_ | refine Rn.inBlock hc ?_ | refine Rn.scope hc ?_ | refine Rn.inScope hc ?_))
      have hnD := q2.next
      have hoff : ∀ b, C.next ≤ b → Canon.look M.objs b = none ∨ Canon.look D.objs b = Canon.look M.objs b := fun b hb => .inr (q2.off _ (by omega))
      have hCM := hM.next
      refine Rn.ret (endQ_cell rfl (v := .agg #[.int .i64 m, .slice xa e xc, .slice xr n n]) ?_ ⟨e, n, hred, he1, hnn2, ⟨by omega, (q2.nx hM.wf (Nat.zero_le _)).wf, fun b hb => ?_⟩, xa, xc, xr, rfl, he2, (ia.ext hoff (by omega)).mono hC0.next (Nat.le_refl _), (ir.ext hoff (by omega)).mono hC0.next (Nat.le_refl _), (la.ext hoff).mono hC0.next, (lr'.ext hoff).mono hC0.next⟩)
      · simp only [sg_ne, ne_eq, Nat.reduceEqDiff, not_false_eq_true, ld, adr_p, cls, Nat.zero_add, Nat.reduceAdd, tk24, s2, r0, r1, r2]
      · rw [q2.off _ (by omega), hM.keep _ (by omega)]
        exact hC0.keep _ hb
    · intro _ _ _ h
      exact h.elim
end Go.Proofs.Ytdaljohmfnfgiaa
/- The reference's results, and its Least. No condition. -/
namespace Go.Proofs.Ytdaljohmfnfgiaa
open Go Go.RowKit Go.Proofs.Ytdaljohmfnfgiaa.Canon
set_option maxRecDepth 20000


/-- What the reference hands back for a stream. -/
def LeastR (A : AHeap) (m : Int) (s : Nat → Int) (a p : Nat) (v : Value) (A1 : AHeap) : Prop :=
  Nx A.next A A1 ∧ if 120 < p ∨ 60 < a then v = .tuple #[.agg #[.int .i64 0, .slice none 0 0, .slice none 0 0], .int .i64 11]
    else ∃ xa xc xr xd, v = .tuple #[.agg #[.int .i64 m, .slice xa a xc, .slice xr p xd], .int .i64 0] ∧ Ints A1 xa A.next A1.next (redS s a) ∧ Ints A1 xr A.next A1.next (redR s a p)
/-- A result's variable is written. -/
theorem res_put {A0 D : AHeap} {b n : Nat} (hl : Canon.look A0.objs b = some ⟨.cells #[.int .i64 0, .slice none 0 0, .slice none 0 0] 24, false, 0⟩) (hb : b < n) (hD : Nx n A0 D) {v0 v1 v2 : Value} (hv : [v0, v1, v2].all isCell = true) :
    ∃ D', sts D b 0 [v0, v1, v2] = some D' ∧ D'.next = D.next ∧ WF D' ∧ (∀ b', b' ≠ b → Canon.look D'.objs b' = Canon.look D.objs b') ∧ cl D' b 0 = some v0 ∧ cl D' b 1 = some v1 ∧ cl D' b 2 = some v2 := by
  obtain ⟨D', c', q1, q2, q3, q4⟩ := sts_upd (l := [v0, v1, v2]) (o := 0) ((hD.keep b hb).trans hl) rfl (by simp) hv
  exact ⟨D', q1, q2.next, (q2.nx hD.wf (Nat.zero_le _)).wf, q2.off, by rw [q2.cl, q4]; rfl, by rw [q2.cl, q4]; rfl, by rw [q2.cl, q4]; rfl⟩

theorem result_ref {A : AHeap} (hw : WF A) {m : Int} {sa ra : Option Addr} {sc rc : Nat} {st ro : List Int} (hs : Ints A sa 0 A.next st) (hr : Ints A ra 0 A.next ro) (ls : st.length ≤ 1000000) (lr : ro.length ≤ 1000000) (hro : 0 < ro.length) (hsl : Sl A ra 0) (hrc : ro.length ≤ rc) :
    Con Try.prog 70 [.agg #[.int .i64 m, .slice sa st.length sc, .slice ra ro.length rc]] A (fun v A1 => ∃ a p, Red (atL st ro) a p ∧ a ≤ st.length ∧ p ≤ ro.length ∧ LeastR A m (atL st ro) a p v A1) := by
  refine con_of_rn hc Try.func70 rfl (Nat.le_of_ble_eq_true rfl) ?_
  obtain ⟨A0, e0, hx0, hn0, b0, b1, b2⟩ := box3 hw (.int .i64 m) (.slice sa st.length sc) (.slice ra ro.length rc) 24
  have hx1 : Nx A0.next A0 (A0.push (.cells #[.int .i64 0, .slice none 0 0, .slice none 0 0] 24)) := (Nx.refl hx0.wf _).push (Nat.le_refl _) _
  have l1 := look_push_eq A0 (.cells #[.int .i64 0, .slice none 0 0, .slice none 0 0] 24)
  have hn1 : (A0.push (.cells #[.int .i64 0, .slice none 0 0, .slice none 0 0] 24)).next = A0.next + 1 := rfl
  generalize e1 : A0.push (.cells #[.int .i64 0, .slice none 0 0, .slice none 0 0] 24) = A1 at hx1 l1 hn1
  have hx01 : Nx A.next A A1 := hx0.trans (hx1.le hx0.next)
  have b0 := (hx1.cl (show A.next < A0.next by omega) 0).trans b0
  have b1 := (hx1.cl (show A.next < A0.next by omega) 1).trans b1
  have b2 := (hx1.cl (show A.next < A0.next by omega) 2).trans b2
  rw [s_in1]
  (repeat (first | refine Rn.seq hc ?_ | refine Rn.skip hc ?_ | refine Rn.block hc ?_ | refine Rn.inBlock hc ?_ | refine Rn.scope hc ?_ | refine Rn.inScope hc ?_))
  refine Rn.reg hc rfl ?_
  simp only [sev_tmp, sev_const, sg_eq, Nat.reduceLT, gd, want_free, rops, fx, Option.some.injEq, exists_eq_left', Value.cells, show Try.f70.ntmps = 19 from rfl, e0, ze24, e1]
  (repeat (first | refine Rn.seq hc ?_ | refine Rn.skip hc ?_ | refine Rn.block hc ?_ | refine Rn.inBlock hc ?_ | refine Rn.scope hc ?_ | refine Rn.inScope hc ?_))
  refine Rn.region hc fun K hK => ?_
  refine Wo.run hc 1 rfl rfl rfl ?_
  simp (maxSteps := 2000000) only [List.drop_zero, List.take_succ_cons, List.take_zero, sev_tmp, sg_eq, sg_ne, sp_n, Nat.reduceLT, ne_eq, Nat.reduceEqDiff, not_false_eq_true, gd, want_free, rops, fx, ld, adr_p, cls, Nat.zero_add, Option.some.injEq, exists_eq_left', Nat.reduceAdd, tk24, b0, b1, b2]
  refine Wo.call hc (by rfl) (by rfl) ⟨by rfl, by rfl⟩ (xs := [.agg #[.int .i64 m, .slice sa st.length sc, .slice ra ro.length rc]]) (by rfl) (by rfl) (by rfl) (Con.mono (small_ref hx1.wf ((hs.nx hx01 (Nat.le_refl _)).mono (Nat.le_refl _) hx01.next) ((hr.nx hx01 (Nat.le_refl _)).mono (Nat.le_refl _) hx01.next) ls lr hro (hsl.nx hw hx01) hrc) ?_)
  rintro w A2 ⟨a, p, hred, ha, hp, hx2, xa, xc, xr, rfl, hac, ia, ir, -, -⟩
  obtain ⟨A3, p3, hx3, hn3, c0, c1, c2⟩ := put24 hx2.wf (v0 := .int .i64 m) (v1 := .slice xa a xc) (v2 := .slice xr p p) rfl
  refine Wo.run hc 2 rfl rfl rfl ?_
  simp (maxSteps := 2000000) only [List.drop_zero, List.drop_succ_cons, List.take_succ_cons, List.take_zero, sev_tmp, sg_eq, sg_ne, sp_n, sp_none, Nat.reduceLT, ne_eq, Nat.reduceEqDiff, not_false_eq_true, gd, want_free, rops, fx, str, adr_p, Nat.zero_add, Option.some.injEq, exists_eq_left', Value.cells, Nat.reduceAdd, tk24, ze24, p3, List.size_toArray, List.length_cons, List.length_nil, Nat.beq_refl]
  refine Wo.done hc rfl (hK _ _ ?_)
  clear hK
  (repeat (first | refine Rn.seq hc ?_ | refine Rn.skip hc ?_ | refine Rn.block hc ?_ | refine Rn.inBlock hc ?_ | refine Rn.scope hc ?_ | refine Rn.inScope hc ?_))
  have hx13 : Nx A1.next A1 A3 := hx2.trans (hx3.le hx2.next)
  have hx03 : Nx A.next A A3 := hx01.trans (hx13.le hx01.next)
  have n2 := hx2.next
  have ia3 := (ia.nx hx3 (Nat.le_refl _)).mono (Nat.le_refl _) hx3.next
  have ir3 := (ir.nx hx3 (Nat.le_refl _)).mono (Nat.le_refl _) hx3.next
  have hred' := hred
  by_cases hlong : 120 < p ∨ 60 < a
  · obtain ⟨D, q1, q2, q3, q4, g0, g1, g2⟩ := res_put l1 (by omega) hx13 (v0 := .int .i64 0) (v1 := .slice none 0 0) (v2 := .slice none 0 0) rfl
    have hfin : LeastR A m (atL st ro) a p (.tuple #[.agg #[.int .i64 0, .slice none 0 0, .slice none 0 0], .int .i64 11]) D := ⟨⟨by omega, q3, fun b hb => by rw [q4 _ (by omega), hx03.keep _ hb]⟩, by rw [if_pos hlong]⟩
    by_cases h60 : 60 < a
    · have hd1 : decide ((60 : Int) < (a : Int)) = true := decide_eq_true (by omega)
      refine Rn.reg hc rfl ?_
      simp only [sev_tmp, sev_const, sg_eq, sg_ne, sp_n, Nat.reduceLT, ne_eq, Nat.reduceEqDiff, not_false_eq_true, gd, nth, want_free, want_slot, beqB, rops, fx, ld, fad, lng, pck, bin_gtr, adr_p, Nat.zero_add, Option.some.injEq, exists_eq_left', tk22, fo24_1, un22, c1, hd1]
      (repeat (first | refine Rn.seq hc ?_ | refine Rn.skip hc ?_ | refine Rn.block hc ?_ | refine Rn.inBlock hc ?_ | refine Rn.scope hc ?_ | refine Rn.inScope hc ?_))
      refine Rn.condE hc rfl ?_
      simp only [sev_tmp, sg_eq, sp_n, Nat.reduceLT, Value.bool.injEq, exists_eq_left']
      (repeat (first | refine Rn.seq hc ?_ | refine Rn.skip hc ?_ | refine Rn.block hc ?_ | refine Rn.inBlock hc ?_ | refine Rn.scope hc ?_ | refine Rn.inScope hc ?_))
      refine Rn.reg hc rfl ?_
      simp only [sev_tmp, sev_const, sg_eq, sg_ne, sp_n, sp_none, Nat.reduceLT, ne_eq, Nat.reduceEqDiff, not_false_eq_true, gd, want_free, rops, fx, str, adr_p, Nat.zero_add, Option.some.injEq, exists_eq_left', Nat.reduceAdd, tk24, bd24_z, q1, List.size_toArray, List.length_cons, List.length_nil, Nat.beq_refl]
      (repeat (first | refine Rn.seq hc ?_ | refine Rn.skip hc ?_ | refine Rn.block hc ?_ | refine Rn.inBlock hc ?_ | refine Rn.scope hc ?_ | refine Rn.inScope hc ?_))
      refine Rn.ret (endQ_ct rfl (v := .agg #[.int .i64 0, .slice none 0 0, .slice none 0 0]) ?_ ⟨a, p, hred, ha, hp, ?_⟩)
      · simp only [sg_eq, sg_ne, sp_n, Nat.reduceLT, ne_eq, Nat.reduceEqDiff, not_false_eq_true, ld, adr_p, cls, Nat.zero_add, Nat.reduceAdd, tk24, g0, g1, g2]
      · simp only [sg_eq, sp_n, Nat.reduceLT]
        exact hfin
    · have hd1 : decide ((60 : Int) < (a : Int)) = false := decide_eq_false (by omega)
      have hd2 : decide ((120 : Int) < (p : Int)) = true := decide_eq_true (by omega)
      refine Rn.reg hc rfl ?_
      simp only [sev_tmp, sev_const, sg_eq, sg_ne, sp_n, Nat.reduceLT, ne_eq, Nat.reduceEqDiff, not_false_eq_true, gd, nth, want_free, want_slot, beqB, rops, fx, ld, fad, lng, pck, bin_gtr, adr_p, Nat.zero_add, Option.some.injEq, exists_eq_left', tk22, fo24_1, fo24_2, un22, c1, c2, hd1, hd2]
      (repeat (first | refine Rn.seq hc ?_ | refine Rn.skip hc ?_ | refine Rn.block hc ?_ | refine Rn.inBlock hc ?_ | refine Rn.scope hc ?_ | refine Rn.inScope hc ?_))
      refine Rn.condE hc rfl ?_
      simp only [sev_tmp, sg_eq, sp_n, Nat.reduceLT, Value.bool.injEq, exists_eq_left']
      (repeat (first | refine Rn.seq hc ?_ | refine Rn.skip hc ?_ | refine Rn.block hc ?_ | refine Rn.inBlock hc ?_ | refine Rn.scope hc ?_ | refine Rn.inScope hc ?_))
      refine Rn.reg hc rfl ?_
      simp only [sev_tmp, sev_const, sg_eq, sg_ne, sp_n, sp_none, Nat.reduceLT, ne_eq, Nat.reduceEqDiff, not_false_eq_true, gd, want_free, rops, fx, str, adr_p, Nat.zero_add, Option.some.injEq, exists_eq_left', Nat.reduceAdd, tk24, bd24_z, q1, List.size_toArray, List.length_cons, List.length_nil, Nat.beq_refl]
      (repeat (first | refine Rn.seq hc ?_ | refine Rn.skip hc ?_ | refine Rn.block hc ?_ | refine Rn.inBlock hc ?_ | refine Rn.scope hc ?_ | refine Rn.inScope hc ?_))
      refine Rn.ret (endQ_ct rfl (v := .agg #[.int .i64 0, .slice none 0 0, .slice none 0 0]) ?_ ⟨a, p, hred, ha, hp, ?_⟩)
      · simp only [sg_eq, sg_ne, sp_n, Nat.reduceLT, ne_eq, Nat.reduceEqDiff, not_false_eq_true, ld, adr_p, cls, Nat.zero_add, Nat.reduceAdd, tk24, g0, g1, g2]
      · simp only [sg_eq, sp_n, Nat.reduceLT]
        exact hfin
  · obtain ⟨D, q1, q2, q3, q4, g0, g1, g2⟩ := res_put l1 (by omega) hx13 (v0 := .int .i64 m) (v1 := .slice xa a xc) (v2 := .slice xr p p) rfl
    have hd1 : decide ((60 : Int) < (a : Int)) = false := decide_eq_false (by omega)
    have hd2 : decide ((120 : Int) < (p : Int)) = false := decide_eq_false (by omega)
    refine Rn.reg hc rfl ?_
    simp only [sev_tmp, sev_const, sg_eq, sg_ne, sp_n, Nat.reduceLT, ne_eq, Nat.reduceEqDiff, not_false_eq_true, gd, nth, want_free, want_slot, beqB, rops, fx, ld, fad, lng, pck, bin_gtr, adr_p, Nat.zero_add, Option.some.injEq, exists_eq_left', tk22, fo24_1, fo24_2, un22, c1, c2, hd1, hd2]
    (repeat (first | refine Rn.seq hc ?_ | refine Rn.skip hc ?_ | refine Rn.block hc ?_ | refine Rn.inBlock hc ?_ | refine Rn.scope hc ?_ | refine Rn.inScope hc ?_))
    refine Rn.condE hc rfl ?_
    simp only [sev_tmp, sg_eq, sp_n, Nat.reduceLT, Value.bool.injEq, exists_eq_left']
    (repeat (first | refine Rn.seq hc ?_ | refine Rn.skip hc ?_ | refine Rn.block hc ?_ | refine Rn.inBlock hc ?_ | refine Rn.scope hc ?_ | refine Rn.inScope hc ?_))
    refine Rn.reg hc rfl ?_
    simp only [sev_tmp, sev_const, sg_eq, sg_ne, sp_n, sp_none, Nat.reduceLT, ne_eq, Nat.reduceEqDiff, not_false_eq_true, gd, want_free, rops, fx, ld, str, adr_p, cls, Nat.zero_add, Option.some.injEq, exists_eq_left', Nat.reduceAdd, tk24, c0, c1, c2, q1, List.size_toArray, List.length_cons, List.length_nil, Nat.beq_refl]
    (repeat (first | refine Rn.seq hc ?_ | refine Rn.skip hc ?_ | refine Rn.block hc ?_ | refine Rn.inBlock hc ?_ | refine Rn.scope hc ?_ | refine Rn.inScope hc ?_))
    have hoff : ∀ b, A1.next ≤ b → Canon.look A3.objs b = none ∨ Canon.look D.objs b = Canon.look A3.objs b := fun b hb => .inr (q4 _ (by omega))
    refine Rn.ret (endQ_ct rfl (v := .agg #[.int .i64 m, .slice xa a xc, .slice xr p p]) ?_ ⟨a, p, hred, ha, hp, ⟨by omega, q3, fun b hb => by rw [q4 _ (by omega), hx03.keep _ hb]⟩, ?_⟩)
    · simp only [sg_eq, sg_ne, sp_n, Nat.reduceLT, ne_eq, Nat.reduceEqDiff, not_false_eq_true, ld, adr_p, cls, Nat.zero_add, Nat.reduceAdd, tk24, g0, g1, g2]
    · rw [if_neg hlong]
      exact ⟨xa, xc, xr, p, by simp only [sg_eq, sp_n, Nat.reduceLT], (ia3.ext hoff (by omega)).mono hx01.next (Nat.le_refl _), (ir3.ext hoff (by omega)).mono hx01.next (Nat.le_refl _)⟩
end Go.Proofs.Ytdaljohmfnfgiaa
/- The reference's Least, its errors of two, its common multiples. No condition. -/
namespace Go.Proofs.Ytdaljohmfnfgiaa
open Go Go.RowKit Go.Proofs.Ytdaljohmfnfgiaa.Canon
set_option maxRecDepth 20000


end Go.Proofs.Ytdaljohmfnfgiaa
/- Where two streams differ, and whether they are the same: the reference. No condition. -/
namespace Go.Proofs.Ytdaljohmfnfgiaa
open Go Go.RowKit Go.Proofs.Ytdaljohmfnfgiaa.Canon
set_option maxRecDepth 20000


theorem ApartQ.uniq {s t : Nat → Int} {v w : Value} (h : ApartQ s t v) (k : ApartQ s t w) : v = w := by
  rcases h with ⟨n, rfl, h1, h2⟩ | ⟨rfl, h1⟩
  · rcases k with ⟨n', rfl, k1, k2⟩ | ⟨rfl, k1⟩
    · have : n = n' := by
        rcases Nat.lt_trichotomy n n' with hh | hh | hh
        · exact absurd (k2 n hh) h1
        · exact hh
        · exact absurd (h2 n' hh) k1
      subst this
      rfl
    · exact absurd (k1 n) h1
  · rcases k with ⟨n', rfl, k1, k2⟩ | ⟨rfl, k1⟩
    · exact absurd (h1 n') k1
    · rfl
theorem ints_uniq {A : AHeap} {a : Option Addr} {lo hi lo' hi' : Nat} {l l' : List Int} (h : Ints A a lo hi l) (h' : Ints A a lo' hi' l') (hl : l.length = l'.length) : l = l' := by
  refine List.ext_getElem hl fun i h1 h2 => ?_
  obtain ⟨b, o, rfl, _, _, q⟩ := h i h1
  obtain ⟨b', o', e, _, _, q'⟩ := h' i h2
  cases e
  rw [q] at q'
  simp [List.getD_eq_getElem?_getD, h1, h2] at q'
  exact q'
end Go.Proofs.Ytdaljohmfnfgiaa
/- A stream's memory is changed. No condition. -/
namespace Go.Proofs.Ytdaljohmfnfgiaa
open Go Go.RowKit Go.Proofs.Ytdaljohmfnfgiaa.Canon
set_option maxRecDepth 20000


/-- A row that may be written. -/
def Wrt (A : AHeap) (a : Option Addr) (lo hi n : Nat) : Prop := 0 < n → ∃ b o c t f g e, a = some ⟨b, o, none⟩ ∧ (lo ≤ b ∧ b < hi) ∧ Canon.look A.objs b = some ⟨.cells c t f, g, e⟩ ∧ isRO g e = false ∧ o + n ≤ c.size
theorem Gr.wrt {A : AHeap} {a : Option Addr} {lo : Nat} {l : List Int} (h : Gr A a lo l) : Wrt A a lo A.next l.length := fun hpos => by
  obtain ⟨b, o, e, q2, q3, q4⟩ := h.ints (l.length - 1) (by omega)
  obtain ⟨y, h1, h2⟩ := h.wr _ e
  obtain ⟨ob, g, z⟩ := y
  obtain ⟨_, c, t, f, g', z', hlk, hc, _⟩ := AHeap.cell_eq q4
  simp only at hlk h1 h2
  rw [hlk] at h1
  cases h1
  have := (Array.getElem?_eq_some_iff.1 hc).1
  exact ⟨b, o, c, t, f, _, _, e, ⟨q2, q3⟩, hlk, h2, by simp only at this; omega⟩
/-- Memory of the same shape, the same below a bound. -/
structure Szs (lo hi : Nat) (A B : AHeap) : Prop where
  next : B.next = A.next
  wf : WF B
  sz : ∀ b c t f g e, Canon.look A.objs b = some ⟨.cells c t f, g, e⟩ → ∃ c', c'.size = c.size ∧ Canon.look B.objs b = some ⟨.cells c' t f, g, e⟩
  keep : ∀ b, (b < lo ∨ hi ≤ b) → Canon.look B.objs b = Canon.look A.objs b
theorem Szs.refl {A : AHeap} (h : WF A) (lo hi : Nat) : Szs lo hi A A := ⟨rfl, h, fun b c t f g e q => ⟨c, rfl, q⟩, fun _ _ => rfl⟩
theorem Szs.trans {lo hi : Nat} {A B C : AHeap} (h : Szs lo hi A B) (k : Szs lo hi B C) : Szs lo hi A C := ⟨k.next.trans h.next, k.wf, fun b c t f g e q => by
  obtain ⟨c', e1, q1⟩ := h.sz b c t f g e q
  obtain ⟨c'', e2, q2⟩ := k.sz b c' t f g e q1
  exact ⟨c'', e2.trans e1, q2⟩, fun b hb => (k.keep b hb).trans (h.keep b hb)⟩
theorem Szs.of_upd {A B : AHeap} {b lo hi : Nat} {c c' : Array Value} {t : TypeId} {f : Nat × Nat} {g : Bool} {e : Nat} (hw : WF A) (hl : Canon.look A.objs b = some ⟨.cells c t f, g, e⟩) (hb : lo ≤ b ∧ b < hi) (h : Upd A b c' B) (hs : c'.size = c.size) : Szs lo hi A B :=
  ⟨h.next, (h.nx hw (Nat.zero_le _)).wf, fun b' c1 t1 f1 g1 e1 q => by
    by_cases hbb : b' = b
    · subst hbb
      obtain ⟨c2, t2, f2, g2, e2, r1, r2, _⟩ := h.at'
      rw [hl] at r1 q
      cases r1
      cases q
      exact ⟨c', hs, r2⟩
    · exact ⟨c1, rfl, (h.off _ hbb).trans q⟩, fun b' hb' => h.off _ (by omega)⟩
theorem Wrt.szs {A B : AHeap} {a : Option Addr} {lo hi n lo' hi' : Nat} (h : Wrt A a lo hi n) (k : Szs lo' hi' A B) : Wrt B a lo hi n := fun hpos => by
  obtain ⟨b, o, c, t, f, g, e, h1, h2, h3, h4, h5⟩ := h hpos
  obtain ⟨c', e1, q1⟩ := k.sz b c t f g e h3
  exact ⟨b, o, c', t, f, g, e, h1, h2, q1, h4, by omega⟩
theorem zeroCells_int (n : Nat) : ∃ l : List Value, (Builtin.zeroCells (Value.int .i64 0).cells n).toList = l ∧ l.length = n ∧ l.all isCell = true := by
  refine ⟨_, rfl, ?_, ?_⟩
  · simp [Builtin.zeroCells, Value.cells]
  · rw [List.all_eq_true]
    intro v hv
    simp [Builtin.zeroCells, Value.cells] at hv
    obtain ⟨i, hi, rfl⟩ := hv
    simp [isCell, Nat.mod_one]
theorem ae_clear {d : Option Tmp} {ty : TypeId} {pos : String} {af : Array Edge} {gu : Option (Nat × Bool)} {s : Slots} {x : Tmp} {A : AHeap} {a : Option Addr} {lo hi n c : Nat} (hw : WF A) (h : Wrt A a lo hi n) (hx : sget s x = .slice a n c) :
    ∃ B, aexec Try.prog (seval s) ⟨d, .call ⟨.builtin .clear, #[.tmp x], #[22]⟩, ty, pos, af, gu⟩ A = some (.tuple #[], B) ∧ Szs lo hi A B := by
  obtain ⟨_, i, z, hinf, hz, hzz, _, _, _⟩ := elB_eq el22
  have hz' : z = .int .i64 0 := by
    have := ze3
    unfold zeroOf at this
    rw [hz, hinf] at this
    simp only [hzz] at this
    exact Option.some.inj this
  subst hz'
  have hun : aexec Try.prog (seval s) ⟨d, .call ⟨.builtin .clear, #[.tmp x], #[22]⟩, ty, pos, af, gu⟩ A = arun Try.prog (Builtin.clear_ #[22] ty #[.slice a n c]) A := by
    simp only [aexec, Op.operands, Call.operands]
    simp [opnOK, abuiltin, sev_tmp, hx, hz]
  rw [hun]
  cases n with
  | zero =>
    refine ⟨A, ?_, Szs.refl hw _ _⟩
    cases a <;> simp [Builtin.clear_, Go.underlying]
  | succ k =>
    obtain ⟨b, o, cc, t, f, g, e, rfl, h2, h3, h4, h5⟩ := h (Nat.succ_pos k)
    obtain ⟨l, hl1, hl2, hl3⟩ := zeroCells_int (k + 1)
    obtain ⟨B, c', q1, q2, q3, _⟩ := sts_upd (l := l) (o := o) h3 h4 (by omega) hl3
    refine ⟨B, ?_, Szs.of_upd hw h3 h2 q2 q3⟩
    have hst := sts_run (P := Try.prog) (b := b) (l := l) (o := o) (i := 0) (A := A) (A1 := B) q1
    simp [Builtin.clear_, Go.underlying, Go.zeroValue, Go.typeInfo, hinf, hzz, hl1, hst]

theorem Wo.clear {ops : Array Oper} {i : Nat} {s : Slots} {A : AHeap} {K : Slots → AHeap → Prop} {o : Oper} {x : Tmp} {a : Option Addr} {lo hi n c : Nat} (ho : nth ops.toList i = some o) (hop : o.op = .call ⟨.builtin .clear, #[.tmp x], #[22]⟩) (hwt : wantB (gd ops o) s = true) (hw : WF A) (hW : Wrt A a lo hi n) (hx : sget s x = .slice a n c)
    (h : ∀ B, Szs lo hi A B → Wo Try.prog ops (i + 1) (sput s o.dst (.tuple #[])) B K) : Wo Try.prog ops i s A K := by
  obtain ⟨d, op, ty, pos, af, gu⟩ := o
  simp only at hop
  subst hop
  obtain ⟨B, q1, q2⟩ := ae_clear (d := d) (ty := ty) (pos := pos) (af := af) (gu := gu) hw hW hx
  exact Wo.op hc bno_ok ho (.inr ⟨hwt, .inr ⟨(fun f args ats e => by cases e), q1⟩⟩) (h B q2)
end Go.Proofs.Ytdaljohmfnfgiaa
/- LassoChecks returns true for every input, and each argument reads afterwards as it read before. No condition. -/
/- LassoChecks: what both sides tell is the same. No condition. -/
namespace Go.Proofs.Ytdaljohmfnfgiaa
open Go Go.RowKit Go.Proofs.Ytdaljohmfnfgiaa.Canon
set_option maxRecDepth 20000


/-- What Least comes to. -/
def LP (m : Int) (st ro : List Int) (mm : Int) (L1 L2 : List Int) (ee : Int) : Prop :=
  (errL m st ro ≠ 0 ∧ mm = 0 ∧ L1 = [] ∧ L2 = [] ∧ ee = errL m st ro) ∨
  (errL m st ro = 0 ∧ ∃ a p, Red (atL st ro) a p ∧ (((120 < p ∨ 60 < a) ∧ mm = 0 ∧ L1 = [] ∧ L2 = [] ∧ ee = 11) ∨ (¬ (120 < p ∨ 60 < a) ∧ mm = m ∧ L1 = redS (atL st ro) a ∧ L2 = redR (atL st ro) a p ∧ ee = 0)))
theorem LP.uniq {m : Int} {st ro : List Int} {mm mm' : Int} {L1 L2 L1' L2' : List Int} {ee ee' : Int} (h : LP m st ro mm L1 L2 ee) (k : LP m st ro mm' L1' L2' ee') : mm = mm' ∧ L1 = L1' ∧ L2 = L2' ∧ ee = ee' := by
  rcases h with ⟨h0, rfl, rfl, rfl, rfl⟩ | ⟨h0, a, p, hr, h⟩
  · rcases k with ⟨_, rfl, rfl, rfl, rfl⟩ | ⟨k0, _⟩
    · exact ⟨rfl, rfl, rfl, rfl⟩
    · exact absurd k0 h0
  · rcases k with ⟨k0, _⟩ | ⟨_, a', p', kr, k⟩
    · exact absurd h0 k0
    · obtain ⟨rfl, rfl⟩ := hr.uniq kr
      rcases h with ⟨h1, rfl, rfl, rfl, rfl⟩ | ⟨h1, rfl, rfl, rfl, rfl⟩
      · rcases k with ⟨_, rfl, rfl, rfl, rfl⟩ | ⟨k1, _⟩
        · exact ⟨rfl, rfl, rfl, rfl⟩
        · exact absurd h1 k1
      · rcases k with ⟨k1, _⟩ | ⟨_, rfl, rfl, rfl, rfl⟩
        · exact absurd k1 h1
        · exact ⟨rfl, rfl, rfl, rfl⟩
theorem LP.len {m : Int} {st ro : List Int} {mm : Int} {L1 L2 : List Int} {ee : Int} (h : LP m st ro mm L1 L2 ee) : L1.length ≤ 60 ∧ L2.length ≤ 120 := by
  rcases h with ⟨_, _, rfl, rfl, _⟩ | ⟨_, a, p, _, ⟨_, _, rfl, rfl, _⟩ | ⟨h1, _, rfl, rfl, _⟩⟩
  · simp
  · simp
  · rw [redS_len, redR_len]; omega
/-- Two streams that have the same numbers. -/
def Tw (x x' : Las) : Prop := x.m = x'.m ∧ x.st = x'.st ∧ x.ro = x'.ro
theorem errs_tw {x x' y y' : Las} (hx : Tw x x') (hy : Tw y y') : errs [x, y] [x, y] = errs [x', y'] [x', y'] := by
  rw [errs_two, errs_two]
  unfold Las.err
  rw [hx.1, hx.2.1, hx.2.2, hy.1, hy.2.1, hy.2.2]
theorem apart_tw {x x' y y' : Las} (hx : Tw x x') (hy : Tw y y') {v w : Value} (h : (errs [x, y] [x, y] = 0 → ApartQ x.s y.s v) ∧ (errs [x, y] [x, y] ≠ 0 → v = .tuple #[.int .i64 0, .int .i64 (errs [x, y] [x, y])]))
    (k : (errs [x', y'] [x', y'] = 0 → ApartQ x'.s y'.s w) ∧ (errs [x', y'] [x', y'] ≠ 0 → w = .tuple #[.int .i64 0, .int .i64 (errs [x', y'] [x', y'])])) : ∃ n e, v = .tuple #[.int .i64 n, .int .i64 e] ∧ w = .tuple #[.int .i64 n, .int .i64 e] := by
  have he := errs_tw hx hy
  have hxs : x.s = x'.s := by unfold Las.s; rw [hx.2.1, hx.2.2]
  have hys : y.s = y'.s := by unfold Las.s; rw [hy.2.1, hy.2.2]
  by_cases h0 : errs [x, y] [x, y] = 0
  · have h1 := h.1 h0
    have k1 := k.1 (he ▸ h0)
    rw [← hxs, ← hys] at k1
    have := h1.uniq k1
    subst this
    rcases h1 with ⟨n, rfl, _⟩ | ⟨rfl, _⟩
    · exact ⟨_, _, rfl, rfl⟩
    · exact ⟨_, _, rfl, rfl⟩
  · exact ⟨_, _, h.2 h0, by rw [k.2 (he ▸ h0), ← he]⟩
theorem same_tw {x x' y y' : Las} (hx : Tw x x') (hy : Tw y y') {v w : Value} (h : (errs [x, y] [x, y] = 0 → ∃ b, v = .tuple #[.bool b, .int .i64 0] ∧ (b = true ↔ ∀ n, x.s n = y.s n)) ∧ (errs [x, y] [x, y] ≠ 0 → v = .tuple #[.bool false, .int .i64 (errs [x, y] [x, y])]))
    (k : (errs [x', y'] [x', y'] = 0 → ∃ b, w = .tuple #[.bool b, .int .i64 0] ∧ (b = true ↔ ∀ n, x'.s n = y'.s n)) ∧ (errs [x', y'] [x', y'] ≠ 0 → w = .tuple #[.bool false, .int .i64 (errs [x', y'] [x', y'])])) : ∃ b e, v = .tuple #[.bool b, .int .i64 e] ∧ w = .tuple #[.bool b, .int .i64 e] := by
  have he := errs_tw hx hy
  have hxs : x.s = x'.s := by unfold Las.s; rw [hx.2.1, hx.2.2]
  have hys : y.s = y'.s := by unfold Las.s; rw [hy.2.1, hy.2.2]
  by_cases h0 : errs [x, y] [x, y] = 0
  · obtain ⟨b, rfl, h1⟩ := h.1 h0
    obtain ⟨b', rfl, k1⟩ := k.1 (he ▸ h0)
    rw [← hxs, ← hys] at k1
    have : b = b' := by
      cases b with
      | true => exact ((k1.2 (h1.1 rfl))).symm
      | false =>
        cases b' with
        | false => rfl
        | true => exact absurd (h1.2 (k1.1 rfl)) (by decide)
    subst this
    exact ⟨_, _, rfl, rfl⟩
  · exact ⟨_, _, h.2 h0, by rw [k.2 (he ▸ h0), ← he]⟩
def ownS : Canon.Spec := fun _ xs A v A1 => Nx A.next A A1 ∧ ∀ (m : Int) (sa : Option Addr) (st : List Int) (sc : Nat) (ra : Option Addr) (ro : List Int) (rc : Nat), xs = [.agg #[.int .i64 m, .slice sa st.length sc, .slice ra ro.length rc]] → Ints A sa 0 A.next st → Ints A ra 0 A.next ro →
  ∃ sa' sc' ra' rc', v = .agg #[.int .i64 m, .slice sa' st.length sc', .slice ra' ro.length rc'] ∧ st.length ≤ sc' ∧ ro.length ≤ rc' ∧ Ints A1 sa' 0 A1.next st ∧ Ints A1 ra' 0 A1.next ro ∧ Sl A1 sa' 0 ∧ Sl A1 ra' 0
theorem own_S {A : AHeap} (hw : WF A) {m : Int} {sa ra : Option Addr} {sc rc : Nat} {st ro : List Int} (hs : Ints A sa 0 A.next st) (hr : Ints A ra 0 A.next ro) (ls : st.length ≤ 1000) (lr : ro.length ≤ 1000) :
    Con Try.prog 17 [.agg #[.int .i64 m, .slice sa st.length sc, .slice ra ro.length rc]] A (ownS 17 [.agg #[.int .i64 m, .slice sa st.length sc, .slice ra ro.length rc]] A) := by
  refine Con.mono (own_lasso hw hs hr ls lr) fun v A1 ⟨xa, xc, ya, yc, e0, q1, q2, q3, q4, q5, q6, q7⟩ => ⟨q3, fun m' sa' st' sc' ra' ro' rc' e h1 h2 => ?_⟩
  simp only [List.cons.injEq, Value.agg.injEq, Array.mk.injEq, Value.int.injEq, Value.slice.injEq, true_and, and_true] at e
  obtain ⟨rfl, ⟨rfl, e1, -⟩, rfl, e2, -⟩ := e
  have hst := ints_uniq hs h1 e1
  have hro := ints_uniq hr h2 e2
  subst hst hro
  exact ⟨xa, xc, ya, yc, e0, q1, q2, q4.mono (Nat.zero_le _) (Nat.le_refl _), q5.mono (Nat.zero_le _) (Nat.le_refl _), q6.mono (Nat.zero_le _), q7.mono (Nat.zero_le _)⟩
end Go.Proofs.Ytdaljohmfnfgiaa
/- LassoChecks: what is looked at. No condition. -/
namespace Go.Proofs.Ytdaljohmfnfgiaa
open Go Go.RowKit Go.Proofs.Ytdaljohmfnfgiaa.Canon
set_option maxRecDepth 20000

def restOf : Code → Code
  | .seq _ b => b
  | c => c
def restN : Nat → Code → Code
  | 0, c => c
  | n + 1, c => restN n (restOf c)
/-- A stream, and the variable that has it. -/
structure Has (B : AHeap) (b : Nat) (x : Las) : Prop where
  c0 : cl B b 0 = some (.int .i64 x.m)
  c1 : cl B b 1 = some (.slice x.sa x.st.length x.sc)
  c2 : cl B b 2 = some (.slice x.ra x.ro.length x.rc)
  ok : x.ok B
  lt : b < B.next
  ls : x.st.length ≤ 70
  lr : x.ro.length ≤ 130
  cs : x.st.length ≤ x.sc
  cr : x.ro.length ≤ x.rc
  s1 : 0 < x.st.length → Sl B x.sa 0
  s2 : 0 < x.ro.length → Sl B x.ra 0
theorem Has.nx {B C : AHeap} {b : Nat} {x : Las} (h : Has B b x) (hw : WF B) (k : Nx B.next B C) : Has C b x :=
  { c0 := (k.cl h.lt 0).trans h.c0, c1 := (k.cl h.lt 1).trans h.c1, c2 := (k.cl h.lt 2).trans h.c2, ok := h.ok.nx k, lt := Nat.lt_of_lt_of_le h.lt k.next, ls := h.ls, lr := h.lr, cs := h.cs, cr := h.cr, s1 := fun q => (h.s1 q).nx hw k, s2 := fun q => (h.s2 q).nx hw k }

end Go.Proofs.Ytdaljohmfnfgiaa
/- LassoChecks: both sides tell the same. No condition. -/
namespace Go.Proofs.Ytdaljohmfnfgiaa
open Go Go.RowKit Go.Proofs.Ytdaljohmfnfgiaa.Canon
set_option maxRecDepth 20000

/-- What Same and Apart come to. -/
def SameP (x y : Las) (v : Value) : Prop := (errs [x, y] [x, y] = 0 → ∃ b, v = .tuple #[.bool b, .int .i64 0] ∧ (b = true ↔ ∀ n, x.s n = y.s n)) ∧ (errs [x, y] [x, y] ≠ 0 → v = .tuple #[.bool false, .int .i64 (errs [x, y] [x, y])])
def ApartP (x y : Las) (v : Value) : Prop := (errs [x, y] [x, y] = 0 → ApartQ x.s y.s v) ∧ (errs [x, y] [x, y] ≠ 0 → v = .tuple #[.int .i64 0, .int .i64 (errs [x, y] [x, y])])
theorem SameP.eq {x x' y y' : Las} (tx : Tw x x') (ty : Tw y y') {v w : Value} (h : SameP x y v) (k : SameP x' y' w) : w = v := by
  obtain ⟨b, e, h1, h2⟩ := same_tw tx ty h k
  rw [h1, h2]
theorem ApartP.eq {x x' y y' : Las} (tx : Tw x x') (ty : Tw y y') {v w : Value} (h : ApartP x y v) (k : ApartP x' y' w) : w = v := by
  obtain ⟨b, e, h1, h2⟩ := apart_tw tx ty h k
  rw [h1, h2]
theorem Wrt.nx {A B : AHeap} {a : Option Addr} {lo hi n : Nat} (h : Wrt A a lo hi n) (hw : WF A) (k : Nx A.next A B) : Wrt B a lo B.next n := fun hpos => by
  obtain ⟨b, o, c, t, f, g, e, h1, h2, h3, h4, h5⟩ := h hpos
  have hb := hw _ _ h3
  exact ⟨b, o, c, t, f, g, e, h1, ⟨h2.1, Nat.lt_of_lt_of_le hb k.next⟩, by rw [k.keep _ hb]; exact h3, h4, h5⟩
theorem same_true {A : AHeap} (hw : WF A) {x x' : Las} (hx : x.ok A) (hx' : x'.ok A) (t : Tw x' x) : Con Try.prog 26 [x'.v, x.v] A (fun v A1 => v = .bool true ∧ Nx A.next A A1) := by
  obtain ⟨a1, a2, a3, a4⟩ := hx
  obtain ⟨b1, b2, b3, b4⟩ := hx'
  refine Con.mono (same_lasso hw b1 b2 a1 a2 b3 b4 a3 a4) fun v A1 h => ⟨?_, h.2⟩
  rw [h.1, t.1, t.2.1, t.2.2]
  simp
end Go.Proofs.Ytdaljohmfnfgiaa
/- LassoChecks returns true. No condition. -/
namespace Go.Proofs.Ytdaljohmfnfgiaa
open Go Go.RowKit Go.Proofs.Ytdaljohmfnfgiaa.Canon
set_option maxRecDepth 20000

/-- What is known of an argument that is not great. -/
def Arg (A : AHeap) (sa : Option Addr) (sn sc : Nat) (ra : Option Addr) (rn rc : Nat) : Prop := sn ≤ 70 → rn ≤ 130 → ∃ st ro : List Int, st.length = sn ∧ ro.length = rn ∧ Ints A sa 0 A.next st ∧ Ints A ra 0 A.next ro ∧ sn ≤ sc ∧ rn ≤ rc ∧ (0 < st.length → Sl A sa 0) ∧ (0 < ro.length → Sl A ra 0)

theorem sl_in {W : World} {z : Nat} {A : AHeap} (hA : In W z A) {a : Option Addr} {l : List Int} (h : Ints A a 0 A.next l) (hpos : 0 < l.length) : Sl A a 0 := fun x hx => by
  obtain ⟨b, o, e, _, _, hc⟩ := h 0 hpos
  rw [hx] at e
  cases e
  obtain ⟨_, c, t, f, g, zz, hlk, _, _⟩ := AHeap.cell_eq hc
  have hlk' : Canon.look A.objs b = some ⟨.cells c t f, g, zz⟩ := hlk
  have hl2 := hlk'
  rw [hA.look'] at hl2
  split at hl2
  · obtain ⟨c', t', f', _, e2⟩ := roOf_some hl2
    cases e2
    exact ⟨rfl, Nat.zero_le _, _, hlk', .inl rfl⟩
  · cases hl2
end Go.Proofs.Ytdaljohmfnfgiaa
/- LassoChecks returns true for every input, and each argument reads afterwards as it read before. No condition. -/
namespace Go.Proofs.Ytdaljohmfnfgiaa
open Go.ChangeShapes Go.WideShapes Go.ChangeAt Go.RowKit Go.Proofs.Ytdaljohmfnfgiaa.Canon
open Go.Deep (open_slice_pairs open_slice)
set_option maxRecDepth 100000 in
theorem ints_room {H : Type} {enc : TypeId × Value → H} {w : World} {base : Nat} {sp : Nat → Bool} {hd : Bool} {fuel : Nat} {a : Option Addr} {n c : Nat} {x : DataW H × List MemPlace}
    (h : DataW.trod enc Try.prog w base sp hd fuel 22 [.slice a n c] = some x) : n ≤ c := by
  rcases open_ints Try.underlying22 Try.underlying3 Try.cells3 h with ⟨h1, _⟩ | ⟨a1, len, cap, zs, h1, _, hlc, _, _, _, _, _⟩
  · simp only [List.cons.injEq, Value.slice.injEq, and_true] at h1
    obtain ⟨rfl, rfl, rfl⟩ := h1
    exact Nat.le_refl _
  · simp only [List.cons.injEq, Value.slice.injEq, and_true] at h1
    obtain ⟨rfl, rfl, rfl⟩ := h1
    exact hlc
set_option maxRecDepth 100000 in
theorem lasso_room {H : Type} {enc : TypeId × Value → H} {w : World} {base : Nat} {sp : Nat → Bool} {hd : Bool} {m : Int} {sa ra : Option Addr} {sn sc rn rc : Nat} {d : DataW H} {ps : List MemPlace}
    (h : DataW.Trod enc Try.prog w base sp hd 24 (.agg #[.int .i64 m, .slice sa sn sc, .slice ra rn rc]) d ps) : sn ≤ sc ∧ rn ≤ rc := by
  obtain ⟨fuel, hf⟩ := h
  obtain ⟨xs, k, _, _, _, hlen, hfs⟩ := DataW.trod_struct Try.underlying24 hf
  have f1 := hfs 1 { name := "Stem", type := 22, offset := 1, embedded := false, tag := "", pkgPath := "", byteOffset := 8 } rfl
  have f2 := hfs 2 { name := "Round", type := 22, offset := 2, embedded := false, tag := "", pkgPath := "", byteOffset := 32 } rfl
  obtain ⟨y1, hy1⟩ : ∃ y, xs[1]? = some y := ⟨_, List.getElem?_eq_getElem (by rw [hlen]; decide)⟩
  obtain ⟨y2, hy2⟩ : ∃ y, xs[2]? = some y := ⟨_, List.getElem?_eq_getElem (by rw [hlen]; decide)⟩
  rw [hy1] at f1
  rw [hy2] at f2
  simp only [Try.cells22] at f1 f2
  exact ⟨ints_room f1, ints_room f2⟩

end Go.Proofs.Ytdaljohmfnfgiaa

/- The least stream of those that unfold alike, and where two streams differ: what the program does. No condition. -/
import Derived.Test.YtdaljohmfnfgiaaXd
/- Lists that are cloned; remainders of numbers below nought; results in a variable and a slot. No condition. -/
namespace Go.Proofs.Ytdaljohmfnfgiaa
open Go Go.RowKit Go.Proofs.Ytdaljohmfnfgiaa.Canon
set_option maxRecDepth 20000


theorem emod_idx {x : Int} {p : Nat} (hp : 0 < p) : ∃ (r : Int) (idx : Nat), x.tmod p = r ∧ -(p : Int) < r ∧ r < p ∧ idx < p ∧ (r + p).tmod p = (idx : Int) ∧ ∀ L e : Nat, x = (e : Int) - (L : Int) → (L + idx) % p = e % p := by
  have hpi : (0 : Int) < (p : Int) := by omega
  have h1 := Int.tmod_add_mul_tdiv x p
  have h2 : -(p : Int) < x.tmod p ∧ x.tmod p < p := by
    have := Int.natAbs_tmod x p
    have h3 : (x.tmod p).natAbs < p := by
      rw [this]
      exact Nat.mod_lt _ (by simpa using hp)
    omega
  have h3 : (x.tmod p + p).tmod p = x % p := by
    rw [Int.tmod_eq_emod_of_nonneg (by omega), Int.add_emod_right]
    have : x.tmod p = x - p * (x.tdiv p) := by omega
    rw [this, Int.sub_emod, Int.mul_emod_right]
    simp
  have h4 := Int.emod_nonneg x (show (p : Int) ≠ 0 by omega)
  have h5 := Int.emod_lt_of_pos x hpi
  refine ⟨_, (x % p).toNat, rfl, h2.1, h2.2, by omega, by rw [h3]; omega, fun L e he => ?_⟩
  have h6 : (((L + (x % p).toNat : Nat) : Int)) = (L : Int) + x % p := by omega
  have h7 : ((L : Int) + x % p) % p = (e : Int) % p := by
    rw [Int.add_emod, Int.emod_emod_of_dvd _ (Int.dvd_refl _), ← Int.add_emod]
    congr 1
    omega
  have h8 : (((L + (x % p).toNat) % p : Nat) : Int) = ((e % p : Nat) : Int) := by
    rw [Int.natCast_emod, Int.natCast_emod, h6, h7]
  exact Int.ofNat.inj h8
theorem least_nat {p : Nat → Prop} : ∀ n, p n → ∃ k, k ≤ n ∧ p k ∧ ∀ j, j < k → ¬ p j := by
  intro n
  induction n using Nat.strongRecOn with
  | ind n ih =>
    intro hn
    by_cases h : ∃ j, j < n ∧ p j
    · obtain ⟨j, h1, h2⟩ := h
      obtain ⟨k, q1, q2, q3⟩ := ih j h1 h2
      exact ⟨k, by omega, q2, q3⟩
    · exact ⟨n, Nat.le_refl _, hn, fun j hj hp => h ⟨j, hj, hp⟩⟩
theorem red_exists (st : List Int) {ro : List Int} (hro : 0 < ro.length) : ∃ a p, Red (atL st ro) a p ∧ a ≤ st.length ∧ p ≤ ro.length ∧ perOK ro p = true := by
  obtain ⟨p, h1, ⟨h2, h3⟩, h4⟩ := least_nat (p := fun d => 0 < d ∧ perOK ro d = true) ro.length ⟨hro, perOK_self ro⟩
  have hper := perOK_per (st := st) hro h2 h3
  obtain ⟨a, k1, k2, k3⟩ := least_nat (p := fun N => Per (atL st ro) N p) st.length hper
  refine ⟨a, p, ⟨k2, fun N d hd => min_per hro (fun e he hlt => ?_) hd, fun N hN => Nat.le_of_not_lt fun hlt => k3 N hlt hN⟩, k1, h1, h3⟩
  cases hp : perOK ro e with
  | false => rfl
  | true => exact absurd ⟨he, hp⟩ (h4 e hlt)

theorem eql_nil (a : Option Addr) (n : Nat) (c : Nat) (A : AHeap) : bin Try.prog .eql 22 (.slice a n c) (.slice none 0 0) A = some (.bool a.isNone, A) := by
  have h : aeql Try.prog 22 (.slice a n c) (.slice none 0 0) = some a.isNone := by cases a <;> rfl
  show (aeql Try.prog 22 (.slice a n c) (.slice none 0 0)).map (fun b => (Value.bool b, A)) = _
  rw [h]
  rfl
/-- A list is appended to one that is new, with nothing in it. -/
theorem app_fresh {A : AHeap} (hw : WF A) {a : Option Addr} {c : Nat} {l : List Int} (h : Ints A a 0 A.next l) (hlen : l.length ≤ 1000000) :
    ∃ a' A1, aapp Try.prog #[22, 22] #[.slice (some ⟨A.next, 0, none⟩) 0 0, .slice a l.length c] (A.push (.cells #[] 3)) = some (.slice a' l.length l.length, A1) ∧ Nx A.next A A1 ∧ Gr A1 a' A.next l := by
  have hx1 : Nx A.next A (A.push (.cells #[] 3)) := (Nx.refl hw _).push (Nat.le_refl _) _
  have h1 : Ints (A.push (.cells #[] 3)) a 0 (A.push (.cells #[] 3)).next l := (h.nx hx1 (Nat.le_refl _)).mono (Nat.le_refl _) hx1.next
  by_cases h0 : l.length = 0
  · have hl : l = [] := List.length_eq_zero_iff.1 h0
    subst hl
    exact ⟨some ⟨A.next, 0, none⟩, _, aapp_nil el22 un22 (Nat.le_refl _), hx1, fun i hi => by simp at hi, fun x hx => by cases hx; exact ⟨rfl, Nat.le_refl _, _, look_push_eq _ _, .inl rfl⟩, fun x hx => by cases hx; exact ⟨_, look_push_eq _ _, rfl⟩⟩
  · obtain ⟨A1, h1', h2⟩ := aapp_new (P := Try.prog) (A := A.push (.cells #[] 3)) (c := 0) (c2 := c) (a := some ⟨A.next, 0, none⟩) (n := 0) (l := []) (m := l.length) el22 un22 (.inl rfl) (by simp)
      (fun x hx => by cases hx; exact ⟨_, look_push_eq _ _, .inl rfl⟩) (fun h => by cases h) h1.row (by simp) (by simp [isCell]) (fun h' => by subst h'; exact absurd h1.some h0) (by omega) (by omega) (by omega)
    simp only [Nat.zero_add] at h1'
    have hnx := h2.nx hx1.wf (n := A.next) hx1.next (fun x hx => by cases hx; exact .inl (Nat.le_refl _))
    refine ⟨_, A1, h1', hx1.trans hnx, fun i hi => ⟨_, _, rfl, hx1.next, by rw [h2.next]; omega, ?_⟩, fun x hx => by cases hx; exact ⟨rfl, hx1.next, _, h2.new, .inr ⟨rfl, rfl, rfl⟩⟩, fun x hx => by cases hx; exact ⟨_, h2.new, rfl⟩⟩
    rw [h2.cl]
    simp [List.getD_eq_getElem?_getD, hi]
theorem clone_ints {A : AHeap} (hw : WF A) {a : Option Addr} {c : Nat} {l : List Int} (h : Ints A a 0 A.next l) (hlen : l.length ≤ 1000000) :
    Con Try.prog 103 [.slice a l.length c] A (fun v A1 => ∃ a', v = .slice a' l.length l.length ∧ Nx A.next A A1 ∧ Gr A1 a' A.next l) := by
  refine con_of_rn hc Try.func103 rfl (Nat.le_of_ble_eq_true rfl) ?_
  rw [s_in1]
  obtain ⟨a', A1, e1, hx2, hg⟩ := app_fresh hw (c := c) h hlen
  (repeat (first | refine Rn.seq hc ?_ | refine Rn.skip hc ?_ | refine Rn.block hc ?_ | refine Rn.inBlock hc ?_ | refine Rn.scope hc ?_ | refine Rn.inScope hc ?_))
  refine Rn.reg hc rfl ?_
  simp only [sev_const, gd, want_free, rops, fx, Option.some.injEq, exists_eq_left', show Try.f103.ntmps = 8 from rfl]
  (repeat (first | refine Rn.seq hc ?_ | refine Rn.skip hc ?_ | refine Rn.block hc ?_ | refine Rn.inBlock hc ?_ | refine Rn.scope hc ?_ | refine Rn.inScope hc ?_))
  cases a with
  | none =>
    have h0 := h.some
    have hl : l = [] := List.length_eq_zero_iff.1 h0
    subst hl
    refine Rn.reg hc rfl ?_
    simp only [sev_tmp, sev_const, sg_eq, sg_ne, sp_n, Nat.reduceLT, ne_eq, Nat.reduceEqDiff, not_false_eq_true, gd, want_free, rops, fx, Option.some.injEq, exists_eq_left', eql_nil, Option.isNone_none]
    (repeat (first | refine Rn.seq hc ?_ | refine Rn.skip hc ?_ | refine Rn.block hc ?_ | refine Rn.inBlock hc ?_ | refine Rn.scope hc ?_ | refine Rn.inScope hc ?_))
    refine Rn.condE hc rfl ?_
    simp only [sev_tmp, sg_eq, sp_n, Nat.reduceLT, Value.bool.injEq, exists_eq_left']
    (repeat (first | refine Rn.seq hc ?_ | refine Rn.skip hc ?_ | refine Rn.block hc ?_ | refine Rn.inBlock hc ?_ | refine Rn.scope hc ?_ | refine Rn.inScope hc ?_))
    refine Rn.reg hc rfl ?_
    simp only [sev_const, gd, want_free, rops, fx, Option.some.injEq, exists_eq_left']
    (repeat (first | refine Rn.seq hc ?_ | refine Rn.skip hc ?_ | refine Rn.block hc ?_ | refine Rn.inBlock hc ?_ | refine Rn.scope hc ?_ | refine Rn.inScope hc ?_))
    refine Rn.ret (endQ_tmp rfl ⟨none, ?_, Nx.refl hw _, Gr.nil _ _⟩)
    simp only [sg_eq, sp_n, Nat.reduceLT]
    rfl
  | some x =>
    refine Rn.reg hc rfl ?_
    simp only [sev_tmp, sev_const, sg_eq, sg_ne, sp_n, Nat.reduceLT, ne_eq, Nat.reduceEqDiff, not_false_eq_true, gd, want_free, rops, fx, Option.some.injEq, exists_eq_left', eql_nil, Option.isNone_some]
    (repeat (first | refine Rn.seq hc ?_ | refine Rn.skip hc ?_ | refine Rn.block hc ?_ | refine Rn.inBlock hc ?_ | refine Rn.scope hc ?_ | refine Rn.inScope hc ?_))
    refine Rn.condE hc rfl ?_
    simp only [sev_tmp, sg_eq, sp_n, Nat.reduceLT, Value.bool.injEq, exists_eq_left']
    (repeat (first | refine Rn.seq hc ?_ | refine Rn.skip hc ?_ | refine Rn.block hc ?_ | refine Rn.inBlock hc ?_ | refine Rn.scope hc ?_ | refine Rn.inScope hc ?_))
    refine Rn.reg hc rfl ?_
    simp only [sev_tmp, sg_eq, sg_ne, sp_n, Nat.reduceLT, ne_eq, Nat.reduceEqDiff, not_false_eq_true, gd, want_free, rops, fx, Option.some.injEq, exists_eq_left', bs22_0, ae_apd, apd_slice, e1]
    (repeat (first | refine Rn.seq hc ?_ | refine Rn.skip hc ?_ | refine Rn.block hc ?_ | refine Rn.inBlock hc ?_ | refine Rn.scope hc ?_ | refine Rn.inScope hc ?_))
    refine Rn.ret (endQ_tmp rfl ⟨a', ?_, hx2, hg⟩)
    simp only [sg_eq, sp_n, Nat.reduceLT]
section
variable {ρ : Operand → Value} {d : Option Tmp} {ty : TypeId} {pos : String} {af : Array Edge} {gu : Option (Nat × Bool)} {A : AHeap}
noncomputable def mnc (ats : Array TypeId) (ty : TypeId) (x y : Value) (A : AHeap) : Option (Value × AHeap) := match [x, y].all isNum with
  | true => arun Try.prog (Builtin.min_ ats ty #[x, y]) A
  | false => none
theorem mnc_int {ats : Array TypeId} {k : IntKind} {a b : Int} : mnc ats ty (.int k a) (.int k b) A = some (.int k (min a b), A) := by
  have : (if b < a then b else a) = min a b := by by_cases hh : b < a <;> simp [hh] <;> omega
  simp [mnc, isNum, Builtin.min_, Builtin.min2, this]
theorem ae_mnc {k : IntKind} {n : Int} {y : Tmp} {ats : Array TypeId} {s : Slots} : aexec Try.prog (seval s) ⟨d, .call ⟨.builtin .min, #[.const (.int k n), .tmp y], ats⟩, ty, pos, af, gu⟩ A = mnc ats ty (.int k n) (sget s y) A := by
  have hcl : closedV (.int k n) = true := rfl
  simp only [aexec, Op.operands, Call.operands]
  simp [opnOK, hcl, abuiltin, mnc, sev_tmp, sev_const]
  rfl
theorem ae_mxd2 {P : Program} {x y : Tmp} {ats : Array TypeId} {s : Slots} : aexec P (seval s) ⟨d, .call ⟨.builtin .max, #[.tmp x, .tmp y], ats⟩, ty, pos, af, gu⟩ A = mxd P ats ty (sget s x) (sget s y) A := by
  simp only [aexec, Op.operands, Call.operands]
  simp [opnOK, abuiltin, mxd, sev_tmp]
  rfl
end
theorem Dr.skip {S : Canon.Spec} {ops : Array Oper} {F : AHeap → Prop} {nb i : Nat} {o : Oper} {os : List Oper} {T : Slots} {pd : List (Nat × FO)} {A : AHeap} {K : Slots → List AHeap → Prop} (he : isEff Try.prog (cvE Try.prog ops) o = false) (hw : wantB (gd ops o) T = false)
    (h : Dr Try.prog S ops F nb (i + 1) os (sput T o.dst undef) pd A K) : Dr Try.prog S ops F nb i (o :: os) T pd A K :=
  Sp.skipR he hw (Sp.mono h fun vs ms T1 ⟨h1, h2, h3⟩ => ⟨h1, ⟨fun _ e => absurd (hw.symm.trans e) (by decide), h2⟩, h3⟩)
theorem endQ_ct {f : Func} {t u : Tmp} {ty : TypeId} (hr : f.results = #[.cell t ty, .tmp u]) {Q : Value → AHeap → Prop} {s : Slots} {A : AHeap} {v : Value} (hl : ld Try.prog ty (sget s t) A = some (v, A)) (h : Q (.tuple #[v, sget s u]) A) : endQ Try.prog f Q .ret s [] A := by
  refine ⟨.tuple #[v, sget s u], A, ?_, h⟩
  show VR.of (sresults Try.prog f s A) = _
  obtain ⟨b, o, hv, ha⟩ := ld_arun hl
  have e : sresults Try.prog f s A = some (.tuple #[v, sget s u], A) := by
    rw [sresults_eq]
    have h1 := sget_getD s t
    have h2 := sget_getD s u
    rw [hv] at h1
    simp only [Array.getD_eq_getD_getElem?] at h1 h2
    simp [results, hr, h1, h2, asAddr, ha]
  rw [e]
  rfl
end Go.Proofs.Ytdaljohmfnfgiaa
/- The least stream of those that unfold alike: what the program does. No condition. -/
namespace Go.Proofs.Ytdaljohmfnfgiaa
open Go Go.RowKit Go.Proofs.Ytdaljohmfnfgiaa.Canon
set_option maxRecDepth 20000

theorem bd24_z {ρ : Operand → Value} {d : Option Tmp} {ty : TypeId} {pos : String} {af : Array Edge} {gu : Option (Nat × Bool)} {A : AHeap} : aexec Try.prog ρ ⟨d, .build 24 #[], ty, pos, af, gu⟩ A = some (.agg #[.int .i64 0, .slice none 0 0, .slice none 0 0], A) := ae_build (by rfl) bo24 rfl rfl
/-- What is handed back for a stream, told in any way. -/
def LeastQ (A : AHeap) (m : Int) (s : Nat → Int) (a p : Nat) (v : Value) (A1 : AHeap) : Prop :=
  Nx A.next A A1 ∧ if 120 < p ∨ 60 < a then v = .tuple #[.agg #[.int .i64 0, .slice none 0 0, .slice none 0 0], .int .i64 11]
    else ∃ sa ra, v = .tuple #[.agg #[.int .i64 m, .slice sa a a, .slice ra p p], .int .i64 0] ∧ Gr A1 sa A.next (redS s a) ∧ Gr A1 ra A.next (redR s a p)

theorem least_run {A : AHeap} (hw : WF A) {m : Int} {sa ra : Option Addr} {sc rc : Nat} {st ro : List Int} (hs : Ints A sa 0 A.next st) (hr : Ints A ra 0 A.next ro) (ls : st.length ≤ 1000000) (lr : ro.length ≤ 1000000) (hro : 0 < ro.length) (hsl : Sl A sa 0) (hsc : st.length ≤ sc) :
    Con Try.prog 69 [.int .i64 m, .slice sa st.length sc, .slice ra ro.length rc] A (fun v A1 => ∃ a p, Red (atL st ro) a p ∧ a ≤ st.length ∧ p ≤ ro.length ∧ LeastQ A m (atL st ro) a p v A1) := by
  refine con_of_rn hc Try.func69 rfl (Nat.le_of_ble_eq_true rfl) ?_
  have hx1 : Nx A.next A (A.push (.cells #[.int .i64 0, .slice none 0 0, .slice none 0 0] 24)) := (Nx.refl hw _).push (Nat.le_refl _) _
  have l1 := look_push_eq A (.cells #[.int .i64 0, .slice none 0 0, .slice none 0 0] 24)
  have hn1 : (A.push (.cells #[.int .i64 0, .slice none 0 0, .slice none 0 0] 24)).next = A.next + 1 := rfl
  generalize e1 : A.push (.cells #[.int .i64 0, .slice none 0 0, .slice none 0 0] 24) = A1 at hx1 l1 hn1
  rw [s_in3]
  (repeat (first | refine Rn.seq hc ?_ | refine Rn.skip hc ?_ | refine Rn.block hc ?_ | refine Rn.inBlock hc ?_ | refine Rn.scope hc ?_ | refine Rn.inScope hc ?_))
  refine Rn.reg hc rfl ?_
  simp only [sev_const, gd, want_free, rops, fx, Option.some.injEq, exists_eq_left', Value.cells, show Try.f69.ntmps = 112 from rfl, ze24, e1]
  (repeat (first | refine Rn.seq hc ?_ | refine Rn.skip hc ?_ | refine Rn.block hc ?_ | refine Rn.inBlock hc ?_ | refine Rn.scope hc ?_ | refine Rn.inScope hc ?_))
  refine Rn.reg hc rfl ?_
  simp only [sev_const, gd, want_free, rops, fx, Option.some.injEq, exists_eq_left']
  (repeat (first | refine Rn.seq hc ?_ | refine Rn.skip hc ?_ | refine Rn.block hc ?_ | refine Rn.inBlock hc ?_ | refine Rn.scope hc ?_ | refine Rn.inScope hc ?_))
  refine Rn.label hc ?_
  refine Rn.seq hc ?_
  refine Rn.cut2 hc (Q1 := fun s ds B => ds = [] ∧ Nx A1.next A1 B ∧ s.n = 112 ∧ sget s 0 = .int .i64 m ∧ sget s 1 = .slice sa st.length sc ∧ sget s 2 = .slice ra ro.length rc ∧ sget s 6 = .pointer (some ⟨A.next, 0, none⟩) ∧ ∃ d : Nat, sget s 8 = .int .i64 (d : Int) ∧ ((d = 0 ∧ ∀ e, 0 < e → e < 121 → perOK ro e = false) ∨ (0 < d ∧ d ≤ 120 ∧ perOK ro d = true ∧ ∀ e, 0 < e → e < d → perOK ro e = false)))
    (Q2 := fun _ _ _ => False) ?_ ?_ ?_
  · (repeat (first | refine Rn.seq hc ?_ | refine Rn.skip hc ?_ | refine Rn.block hc ?_ | refine Rn.inBlock hc ?_ | refine Rn.scope hc ?_ | refine Rn.inScope hc ?_))
    refine Rn.reg hc rfl ?_
    simp only [sev_const, gd, want_free, rops, fx, Option.some.injEq, exists_eq_left']
    (repeat (first | refine Rn.seq hc ?_ | refine Rn.skip hc ?_ | refine Rn.block hc ?_ | refine Rn.inBlock hc ?_ | refine Rn.scope hc ?_ | refine Rn.inScope hc ?_))
    refine Rn.loopI hc (I := fun k s A' => ∃ d : Nat, 1 ≤ d ∧ d ≤ 121 ∧ k = 121 - d ∧ Nx A1.next A1 A' ∧ (∀ e, 0 < e → e < d → perOK ro e = false) ∧ s.n = 112 ∧ sget s 0 = .int .i64 m ∧ sget s 1 = .slice sa st.length sc ∧ sget s 2 = .slice ra ro.length rc ∧ sget s 6 = .pointer (some ⟨A.next, 0, none⟩) ∧ sget s 8 = .int .i64 ((0 : Nat) : Int) ∧ sget s 9 = .int .i64 (d : Int))
      (n := 120) ⟨1, by omega, by omega, rfl, Nx.refl hx1.wf _, fun e h1 h2 => by omega, by simp only [sp_n], by simp only [sg_eq, sg_ne, Nat.reduceLT, ne_eq, Nat.reduceEqDiff, not_false_eq_true], by simp only [sg_eq, sg_ne, sp_n, Nat.reduceLT, ne_eq, Nat.reduceEqDiff, not_false_eq_true], by simp only [sg_eq, sg_ne, sp_n, Nat.reduceLT, ne_eq, Nat.reduceEqDiff, not_false_eq_true], by simp only [sg_eq, sg_ne, sp_n, Nat.reduceLT, ne_eq, Nat.reduceEqDiff, not_false_eq_true], by simp only [sg_eq, sg_ne, sp_n, Nat.reduceLT, ne_eq, Nat.reduceEqDiff, not_false_eq_true]; rfl, by simp only [sg_eq, sp_n, Nat.reduceLT]; rfl⟩ ?_
    rintro k s A' ⟨d, hd1, hd2, rfl, hA, hmin, hn, s0, s1, s2, s6, s8, s9⟩ ih
    (repeat (first | refine Rn.seq hc ?_ | refine Rn.skip hc ?_ | refine Rn.block hc ?_ | refine Rn.inBlock hc ?_ | refine Rn.scope hc ?_ | refine Rn.inScope hc ?_))
    by_cases hlt : d ≤ min 120 ro.length
    · have hd : decide ((d : Int) ≤ min 120 (ro.length : Int)) = true := by simp; omega
      have hrem : ∀ M, bin Try.prog .rem 3 (.int .i64 (ro.length : Int)) (.int .i64 (d : Int)) M = some (.int .i64 ((ro.length % d : Nat) : Int), M) := fun M => by
        rw [bin_rem _ _ _ _ (by omega), IntWalk.rem_in _ _ (by omega)]
        rfl
      refine Rn.reg hc rfl ?_
      simp only [sev_tmp, sg_eq, sg_ne, sp_n, Nat.reduceLT, ne_eq, Nat.reduceEqDiff, not_false_eq_true, gd, want_free, rops, fx, lng, bin_leq, Option.some.injEq, exists_eq_left', un22, hn, s2, s9, ae_mnc, mnc_int, hd]
      (repeat (first | refine Rn.seq hc ?_ | refine Rn.skip hc ?_ | refine Rn.block hc ?_ | refine Rn.inBlock hc ?_ | refine Rn.scope hc ?_ | refine Rn.inScope hc ?_))
      refine Rn.condE hc rfl ?_
      simp only [sev_tmp, sg_eq, sp_n, Nat.reduceLT, Value.bool.injEq, exists_eq_left', hn]
      (repeat (first | refine Rn.seq hc ?_ | refine Rn.skip hc ?_ | refine Rn.block hc ?_ | refine Rn.inBlock hc ?_ | refine Rn.scope hc ?_ | refine Rn.inScope hc ?_))
      by_cases hdiv : ro.length % d = 0
      · have hd3 : (!decide (((ro.length % d : Nat) : Int) = 0)) = false := by simp; omega
        refine Rn.reg hc rfl ?_
        simp only [sev_tmp, sev_const, sg_eq, sg_ne, sp_n, Nat.reduceLT, ne_eq, Nat.reduceEqDiff, not_false_eq_true, gd, want_free, rops, fx, lng, bin_neq, Option.some.injEq, exists_eq_left', un22, hn, s2, s9, hrem, hd3]
        (repeat (first | refine Rn.seq hc ?_ | refine Rn.skip hc ?_ | refine Rn.block hc ?_ | refine Rn.inBlock hc ?_ | refine Rn.scope hc ?_ | refine Rn.inScope hc ?_))
        refine Rn.condE hc rfl ?_
        simp only [sev_tmp, sg_eq, sp_n, Nat.reduceLT, Value.bool.injEq, exists_eq_left', hn]
        (repeat (first | refine Rn.seq hc ?_ | refine Rn.skip hc ?_ | refine Rn.block hc ?_ | refine Rn.inBlock hc ?_ | refine Rn.scope hc ?_ | refine Rn.inScope hc ?_))
        refine Rn.reg hc rfl ?_
        simp only [sev_tmp, sg_eq, sg_ne, sp_n, Nat.reduceLT, ne_eq, Nat.reduceEqDiff, not_false_eq_true, gd, want_free, rops, fx, Option.some.injEq, exists_eq_left', hn, s9]
        (repeat (first | refine Rn.seq hc ?_ | refine Rn.skip hc ?_ | refine Rn.block hc ?_ | refine Rn.inBlock hc ?_ | refine Rn.scope hc ?_ | refine Rn.inScope hc ?_))
        refine Rn.loopI hc (I := fun k s A' => ∃ i : Nat, d ≤ i ∧ i ≤ ro.length ∧ k = ro.length - i ∧ Nx A1.next A1 A' ∧ (∀ j, d ≤ j → j < i → ro.getD j 0 = ro.getD (j - d) 0) ∧ s.n = 112 ∧ sget s 0 = .int .i64 m ∧ sget s 1 = .slice sa st.length sc ∧ sget s 2 = .slice ra ro.length rc ∧ sget s 6 = .pointer (some ⟨A.next, 0, none⟩) ∧ sget s 8 = .int .i64 ((0 : Nat) : Int) ∧ sget s 9 = .int .i64 (d : Int) ∧ sget s 10 = .int .i64 (i : Int))
          (n := ro.length - d) ⟨d, Nat.le_refl _, by omega, rfl, hA, fun j h1 h2 => by omega, by simp only [sp_n, hn], by simp only [sg_ne, ne_eq, Nat.reduceEqDiff, not_false_eq_true, s0], by simp only [sg_ne, ne_eq, Nat.reduceEqDiff, not_false_eq_true, s1], by simp only [sg_ne, ne_eq, Nat.reduceEqDiff, not_false_eq_true, s2], by simp only [sg_ne, ne_eq, Nat.reduceEqDiff, not_false_eq_true, s6], by simp only [sg_ne, ne_eq, Nat.reduceEqDiff, not_false_eq_true, s8], by simp only [sg_ne, ne_eq, Nat.reduceEqDiff, not_false_eq_true, s9], by simp only [sg_eq, sp_n, Nat.reduceLT, hn]⟩ ?_
        clear hn s0 s1 s2 s6 s8 s9 s hA A' hd
        rintro k s A' ⟨i, hi1, hi2, rfl, hA, hper, hn, s0, s1, s2, s6, s8, s9, s10⟩ ihi
        (repeat (first | refine Rn.seq hc ?_ | refine Rn.skip hc ?_ | refine Rn.block hc ?_ | refine Rn.inBlock hc ?_ | refine Rn.scope hc ?_ | refine Rn.inScope hc ?_))
        by_cases hlti : i < ro.length
        · have hd : decide ((i : Int) < (ro.length : Int)) = true := by simp; omega
          have hx0 : Nx A.next A A' := hx1.trans (hA.le hx1.next)
          obtain ⟨bb, o, rfl, _, hb1, hcl⟩ := hr i hlti
          obtain ⟨bb', o', e', _, _, hcl'⟩ := hr (i - d) (by omega)
          cases e'
          have hcl : cl A' bb (o + i) = _ := (hx0.cl hb1 _).trans hcl
          have hcl' : cl A' bb (o + (i - d)) = _ := (hx0.cl hb1 _).trans hcl'
          have hsub : IntKind.i64.wrap ((i : Int) - (d : Int)) = ((i - d : Nat) : Int) := by rw [IntWalk.i64_in _ (by omega)]; omega
          refine Rn.reg hc rfl ?_
          simp only [sev_tmp, sg_eq, sg_ne, sp_n, Nat.reduceLT, ne_eq, Nat.reduceEqDiff, not_false_eq_true, gd, want_free, rops, fx, lng, bin_lss, Option.some.injEq, exists_eq_left', un22, hn, s2, s10, hd]
          (repeat (first | refine Rn.seq hc ?_ | refine Rn.skip hc ?_ | refine Rn.block hc ?_ | refine Rn.inBlock hc ?_ | refine Rn.scope hc ?_ | refine Rn.inScope hc ?_))
          refine Rn.condE hc rfl ?_
          simp only [sev_tmp, sg_eq, sp_n, Nat.reduceLT, Value.bool.injEq, exists_eq_left', hn]
          (repeat (first | refine Rn.seq hc ?_ | refine Rn.skip hc ?_ | refine Rn.block hc ?_ | refine Rn.inBlock hc ?_ | refine Rn.scope hc ?_ | refine Rn.inScope hc ?_))
          have hidl : i - d < ro.length := by omega
          by_cases heq : ro.getD i 0 = ro.getD (i - d) 0
          · have hne : (!decide (ro.getD i 0 = ro.getD (i - d) 0)) = false := by rw [decide_eq_true heq]; rfl
            refine Rn.drawnR hc hx (by kernel_rfl) (by rfl) (by kernel_rfl) ?_ ?_
            · simp only [rdV, VQ.int, VQ.bool, VQ.ptr, VQ.slice, cl_bump, sev_tmp, sg_eq, sg_ne, sp_n, Nat.reduceLT, ne_eq, Nat.reduceEqDiff, not_false_eq_true, gd, want_free, fx, ld, idx, bin_neq, bin_sub, adr_p, Nat.zero_add, Nat.reduceAdd, Nat.mul_one, and_self, tk3, eo22, hn, s2, s9, s10, nlen_nat hlti, nlen_nat hidl, hsub, hcl, hcl', hne, List.length_cons, List.length_nil]
            simp only [cl_bump, sev_tmp, sg_eq, sg_ne, sp_n, Nat.reduceLT, ne_eq, Nat.reduceEqDiff, not_false_eq_true, gd, want_free, rops, fx, ld, idx, bin_neq, bin_sub, adr_p, Nat.zero_add, Option.some.injEq, exists_eq_left', Nat.reduceAdd, Nat.mul_one, tk3, eo22, hn, s2, s9, s10, nlen_nat hlti, nlen_nat hidl, hsub, hcl, hcl', hne, List.length_cons, List.length_nil]
            (repeat (first | refine Rn.seq hc ?_ | refine Rn.skip hc ?_ | refine Rn.block hc ?_ | refine Rn.inBlock hc ?_ | refine Rn.scope hc ?_ | refine Rn.inScope hc ?_))
            refine Rn.condE hc rfl ?_
            simp only [sev_tmp, sg_eq, sp_n, Nat.reduceLT, Value.bool.injEq, exists_eq_left', hn]
            (repeat (first | refine Rn.seq hc ?_ | refine Rn.skip hc ?_ | refine Rn.block hc ?_ | refine Rn.inBlock hc ?_ | refine Rn.scope hc ?_ | refine Rn.inScope hc ?_))
            refine Rn.reg hc rfl ?_
            simp only [sev_tmp, sev_const, sg_eq, sg_ne, sp_n, Nat.reduceLT, ne_eq, Nat.reduceEqDiff, not_false_eq_true, gd, want_free, rops, fx, bin_add, Option.some.injEq, exists_eq_left', hn, s10, wrap_succ (show i < 9223372036854775807 by omega)]
            (repeat (first | refine Rn.seq hc ?_ | refine Rn.skip hc ?_ | refine Rn.block hc ?_ | refine Rn.inBlock hc ?_ | refine Rn.scope hc ?_ | refine Rn.inScope hc ?_))
            refine ihi _ _ _ (by omega) ⟨i + 1, by omega, by omega, rfl, Nx.bump hA _, fun j h1 h2 => ?_, by simp only [sp_n, hn], by simp only [sg_ne, ne_eq, Nat.reduceEqDiff, not_false_eq_true, s0], by simp only [sg_ne, ne_eq, Nat.reduceEqDiff, not_false_eq_true, s1], by simp only [sg_ne, ne_eq, Nat.reduceEqDiff, not_false_eq_true, s2], by simp only [sg_ne, ne_eq, Nat.reduceEqDiff, not_false_eq_true, s6], by simp only [sg_ne, ne_eq, Nat.reduceEqDiff, not_false_eq_true, s8], by simp only [sg_ne, ne_eq, Nat.reduceEqDiff, not_false_eq_true, s9], by simp only [sg_eq, sp_n, Nat.reduceLT, hn]⟩
            by_cases hji : j = i
            · subst hji; exact heq
            · exact hper j h1 (by omega)
          · have hne : (!decide (ro.getD i 0 = ro.getD (i - d) 0)) = true := by rw [decide_eq_false heq]; rfl
            refine Rn.drawnR hc hx (by kernel_rfl) (by rfl) (by kernel_rfl) ?_ ?_
            · simp only [rdV, VQ.int, VQ.bool, VQ.ptr, VQ.slice, cl_bump, sev_tmp, sg_eq, sg_ne, sp_n, Nat.reduceLT, ne_eq, Nat.reduceEqDiff, not_false_eq_true, gd, want_free, fx, ld, idx, bin_neq, bin_sub, adr_p, Nat.zero_add, Nat.reduceAdd, Nat.mul_one, and_self, tk3, eo22, hn, s2, s9, s10, nlen_nat hlti, nlen_nat hidl, hsub, hcl, hcl', hne, List.length_cons, List.length_nil]
            simp only [cl_bump, sev_tmp, sg_eq, sg_ne, sp_n, Nat.reduceLT, ne_eq, Nat.reduceEqDiff, not_false_eq_true, gd, want_free, rops, fx, ld, idx, bin_neq, bin_sub, adr_p, Nat.zero_add, Option.some.injEq, exists_eq_left', Nat.reduceAdd, Nat.mul_one, tk3, eo22, hn, s2, s9, s10, nlen_nat hlti, nlen_nat hidl, hsub, hcl, hcl', hne, List.length_cons, List.length_nil]
            (repeat (first | refine Rn.seq hc ?_ | refine Rn.skip hc ?_ | refine Rn.block hc ?_ | refine Rn.inBlock hc ?_ | refine Rn.scope hc ?_ | refine Rn.inScope hc ?_))
            refine Rn.condE hc rfl ?_
            simp only [sev_tmp, sg_eq, sp_n, Nat.reduceLT, Value.bool.injEq, exists_eq_left', hn]
            (repeat (first | refine Rn.seq hc ?_ | refine Rn.skip hc ?_ | refine Rn.block hc ?_ | refine Rn.inBlock hc ?_ | refine Rn.scope hc ?_ | refine Rn.inScope hc ?_))
            refine Rn.exit hc rfl ?_
            (repeat (first | refine Rn.seq hc ?_ | refine Rn.skip hc ?_ | refine Rn.block hc ?_ | refine Rn.inBlock hc ?_ | refine Rn.scope hc ?_ | refine Rn.inScope hc ?_))
            refine Rn.reg hc rfl ?_
            simp only [sev_tmp, sev_const, sg_eq, sg_ne, sp_n, Nat.reduceLT, ne_eq, Nat.reduceEqDiff, not_false_eq_true, gd, want_free, rops, fx, bin_add, Option.some.injEq, exists_eq_left', hn, s9, wrap_succ (show d < 9223372036854775807 by omega)]
            (repeat (first | refine Rn.seq hc ?_ | refine Rn.skip hc ?_ | refine Rn.block hc ?_ | refine Rn.inBlock hc ?_ | refine Rn.scope hc ?_ | refine Rn.inScope hc ?_))
            refine ih _ _ _ (by omega) ⟨d + 1, by omega, by omega, rfl, Nx.bump hA _, fun e h1 h2 => ?_, by simp only [sp_n, hn], by simp only [sg_ne, ne_eq, Nat.reduceEqDiff, not_false_eq_true, s0], by simp only [sg_ne, ne_eq, Nat.reduceEqDiff, not_false_eq_true, s1], by simp only [sg_ne, ne_eq, Nat.reduceEqDiff, not_false_eq_true, s2], by simp only [sg_ne, ne_eq, Nat.reduceEqDiff, not_false_eq_true, s6], by simp only [sg_ne, ne_eq, Nat.reduceEqDiff, not_false_eq_true, s8], by simp only [sg_eq, sp_n, Nat.reduceLT, hn]⟩
            by_cases hed : e = d
            · subst hed
              cases hp : perOK ro e with
              | false => rfl
              | true => exact absurd ((perOK_iff.1 hp).2 i hi1 hlti) heq
            · exact hmin e h1 (by omega)
        · have hd : decide ((i : Int) < (ro.length : Int)) = false := by simp; omega
          have hil : i = ro.length := by omega
          clear ih ihi
          refine Rn.reg hc rfl ?_
          simp only [sev_tmp, sg_eq, sg_ne, sp_n, Nat.reduceLT, ne_eq, Nat.reduceEqDiff, not_false_eq_true, gd, want_free, rops, fx, lng, bin_lss, Option.some.injEq, exists_eq_left', un22, hn, s2, s10, hd]
          (repeat (first | refine Rn.seq hc ?_ | refine Rn.skip hc ?_ | refine Rn.block hc ?_ | refine Rn.inBlock hc ?_ | refine Rn.scope hc ?_ | refine Rn.inScope hc ?_))
          refine Rn.condE hc rfl ?_
          simp only [sev_tmp, sg_eq, sp_n, Nat.reduceLT, Value.bool.injEq, exists_eq_left', hn]
          (repeat (first | refine Rn.seq hc ?_ | refine Rn.skip hc ?_ | refine Rn.block hc ?_ | refine Rn.inBlock hc ?_ | refine Rn.scope hc ?_ | refine Rn.inScope hc ?_))
          refine Rn.exit hc rfl ?_
          (repeat (first | refine Rn.seq hc ?_ | refine Rn.skip hc ?_ | refine Rn.block hc ?_ | refine Rn.inBlock hc ?_ | refine Rn.scope hc ?_ | refine Rn.inScope hc ?_))
          refine Rn.reg hc rfl ?_
          simp only [sev_tmp, sg_eq, sg_ne, sp_n, Nat.reduceLT, ne_eq, Nat.reduceEqDiff, not_false_eq_true, gd, want_free, rops, fx, Option.some.injEq, exists_eq_left', hn, s9]
          (repeat (first | refine Rn.seq hc ?_ | refine Rn.skip hc ?_ | refine Rn.block hc ?_ | refine Rn.inBlock hc ?_ | refine Rn.scope hc ?_ | refine Rn.inScope hc ?_))
          refine Rn.exit hc rfl ?_
          (repeat (first | refine Rn.seq hc ?_ | refine Rn.skip hc ?_ | refine Rn.block hc ?_ | refine Rn.inBlock hc ?_ | refine Rn.scope hc ?_ | refine Rn.inScope hc ?_))
          refine Rn.fall ⟨rfl, hA, by simp only [sp_n, hn], by simp only [sg_ne, ne_eq, Nat.reduceEqDiff, not_false_eq_true, s0], by simp only [sg_ne, ne_eq, Nat.reduceEqDiff, not_false_eq_true, s1], by simp only [sg_ne, ne_eq, Nat.reduceEqDiff, not_false_eq_true, s2], by simp only [sg_ne, ne_eq, Nat.reduceEqDiff, not_false_eq_true, s6], d, by simp only [sg_eq, sp_n, Nat.reduceLT, hn], .inr ⟨hd1, by omega, perOK_iff.2 ⟨hdiv, fun j h1 h2 => hper j h1 (by omega)⟩, hmin⟩⟩
      · have hd3 : (!decide (((ro.length % d : Nat) : Int) = 0)) = true := by simp; omega
        refine Rn.reg hc rfl ?_
        simp only [sev_tmp, sev_const, sg_eq, sg_ne, sp_n, Nat.reduceLT, ne_eq, Nat.reduceEqDiff, not_false_eq_true, gd, want_free, rops, fx, lng, bin_neq, Option.some.injEq, exists_eq_left', un22, hn, s2, s9, hrem, hd3]
        (repeat (first | refine Rn.seq hc ?_ | refine Rn.skip hc ?_ | refine Rn.block hc ?_ | refine Rn.inBlock hc ?_ | refine Rn.scope hc ?_ | refine Rn.inScope hc ?_))
        refine Rn.condE hc rfl ?_
        simp only [sev_tmp, sg_eq, sp_n, Nat.reduceLT, Value.bool.injEq, exists_eq_left', hn]
        (repeat (first | refine Rn.seq hc ?_ | refine Rn.skip hc ?_ | refine Rn.block hc ?_ | refine Rn.inBlock hc ?_ | refine Rn.scope hc ?_ | refine Rn.inScope hc ?_))
        refine Rn.exit hc rfl ?_
        (repeat (first | refine Rn.seq hc ?_ | refine Rn.skip hc ?_ | refine Rn.block hc ?_ | refine Rn.inBlock hc ?_ | refine Rn.scope hc ?_ | refine Rn.inScope hc ?_))
        refine Rn.reg hc rfl ?_
        simp only [sev_tmp, sev_const, sg_eq, sg_ne, sp_n, Nat.reduceLT, ne_eq, Nat.reduceEqDiff, not_false_eq_true, gd, want_free, rops, fx, bin_add, Option.some.injEq, exists_eq_left', hn, s9, wrap_succ (show d < 9223372036854775807 by omega)]
        (repeat (first | refine Rn.seq hc ?_ | refine Rn.skip hc ?_ | refine Rn.block hc ?_ | refine Rn.inBlock hc ?_ | refine Rn.scope hc ?_ | refine Rn.inScope hc ?_))
        refine ih _ _ _ (by omega) ⟨d + 1, by omega, by omega, rfl, hA, fun e h1 h2 => ?_, by simp only [sp_n, hn], by simp only [sg_ne, ne_eq, Nat.reduceEqDiff, not_false_eq_true, s0], by simp only [sg_ne, ne_eq, Nat.reduceEqDiff, not_false_eq_true, s1], by simp only [sg_ne, ne_eq, Nat.reduceEqDiff, not_false_eq_true, s2], by simp only [sg_ne, ne_eq, Nat.reduceEqDiff, not_false_eq_true, s6], by simp only [sg_ne, ne_eq, Nat.reduceEqDiff, not_false_eq_true, s8], by simp only [sg_eq, sp_n, Nat.reduceLT, hn]⟩
        by_cases hed : e = d
        · subst hed
          cases hp : perOK ro e with
          | false => rfl
          | true => exact absurd (perOK_iff.1 hp).1 hdiv
        · exact hmin e h1 (by omega)
    · have hd : decide ((d : Int) ≤ min 120 (ro.length : Int)) = false := by simp; omega
      clear ih
      have hdl : d ≤ ro.length := Nat.le_of_not_lt fun hh => by
        have := hmin ro.length hro hh
        rw [perOK_self] at this
        cases this
      refine Rn.reg hc rfl ?_
      simp only [sev_tmp, sg_eq, sg_ne, sp_n, Nat.reduceLT, ne_eq, Nat.reduceEqDiff, not_false_eq_true, gd, want_free, rops, fx, lng, bin_leq, Option.some.injEq, exists_eq_left', un22, hn, s2, s9, ae_mnc, mnc_int, hd]
      (repeat (first | refine Rn.seq hc ?_ | refine Rn.skip hc ?_ | refine Rn.block hc ?_ | refine Rn.inBlock hc ?_ | refine Rn.scope hc ?_ | refine Rn.inScope hc ?_))
      refine Rn.condE hc rfl ?_
      simp only [sev_tmp, sg_eq, sp_n, Nat.reduceLT, Value.bool.injEq, exists_eq_left', hn]
      (repeat (first | refine Rn.seq hc ?_ | refine Rn.skip hc ?_ | refine Rn.block hc ?_ | refine Rn.inBlock hc ?_ | refine Rn.scope hc ?_ | refine Rn.inScope hc ?_))
      refine Rn.exit hc rfl ?_
      (repeat (first | refine Rn.seq hc ?_ | refine Rn.skip hc ?_ | refine Rn.block hc ?_ | refine Rn.inBlock hc ?_ | refine Rn.scope hc ?_ | refine Rn.inScope hc ?_))
      refine Rn.fall ⟨rfl, hA, by simp only [sp_n, hn], by simp only [sg_ne, ne_eq, Nat.reduceEqDiff, not_false_eq_true, s0], by simp only [sg_ne, ne_eq, Nat.reduceEqDiff, not_false_eq_true, s1], by simp only [sg_ne, ne_eq, Nat.reduceEqDiff, not_false_eq_true, s2], by simp only [sg_ne, ne_eq, Nat.reduceEqDiff, not_false_eq_true, s6], 0, by simp only [sg_ne, ne_eq, Nat.reduceEqDiff, not_false_eq_true, s8], .inl ⟨rfl, fun e h1 h2 => hmin e h1 (by omega)⟩⟩
  · rintro s ds B ⟨rfl, hB, hn, s0, s1, s2, s6, d, s8, hd⟩
    have hr24 : ∀ {D : AHeap} {v0 v1 v2 : Value}, Nx A1.next A1 D → [v0, v1, v2].all isCell = true → ∃ D', sts D A.next 0 [v0, v1, v2] = some D' ∧ D'.next = D.next ∧ WF D' ∧ (∀ b, b ≠ A.next → Canon.look D'.objs b = Canon.look D.objs b) ∧ cl D' A.next 0 = some v0 ∧ cl D' A.next 1 = some v1 ∧ cl D' A.next 2 = some v2 := fun {D v0 v1 v2} hD hv => by
      obtain ⟨D', c', q1, q2, q3, q4⟩ := sts_upd (l := [v0, v1, v2]) (o := 0) ((hD.keep A.next (by omega)).trans l1) rfl (by simp) hv
      exact ⟨D', q1, q2.next, (q2.nx hD.wf (Nat.zero_le _)).wf, q2.off, by rw [q2.cl, q4]; rfl, by rw [q2.cl, q4]; rfl, by rw [q2.cl, q4]; rfl⟩
    obtain ⟨a0, p0, hred, ha0, hp0, hpk⟩ := red_exists st hro
    rcases hd with ⟨rfl, hno⟩ | ⟨hd0, hd120, hdk, hmin⟩
    · obtain ⟨D, q1, q2, q3, q4, g0, g1, g2⟩ := hr24 (v0 := .int .i64 0) (v1 := .slice none 0 0) (v2 := .slice none 0 0) hB rfl
      (repeat (first | refine Rn.seq hc ?_ | refine Rn.skip hc ?_ | refine Rn.block hc ?_ | refine Rn.inBlock hc ?_ | refine Rn.scope hc ?_ | refine Rn.inScope hc ?_))
      refine Rn.reg hc rfl ?_
      simp only [sev_tmp, sev_const, sg_eq, Nat.reduceLT, gd, want_free, rops, fx, bin_eql, Option.some.injEq, exists_eq_left', hn, s8, Int.natCast_zero, eq_self, decide_true]
      (repeat (first | refine Rn.seq hc ?_ | refine Rn.skip hc ?_ | refine Rn.block hc ?_ | refine Rn.inBlock hc ?_ | refine Rn.scope hc ?_ | refine Rn.inScope hc ?_))
      refine Rn.condE hc rfl ?_
      simp only [sev_tmp, sg_eq, sp_n, Nat.reduceLT, Value.bool.injEq, exists_eq_left', hn]
      (repeat (first | refine Rn.seq hc ?_ | refine Rn.skip hc ?_ | refine Rn.block hc ?_ | refine Rn.inBlock hc ?_ | refine Rn.scope hc ?_ | refine Rn.inScope hc ?_))
      refine Rn.reg hc rfl ?_
      simp only [sev_tmp, sev_const, sg_eq, sg_ne, sp_n, sp_none, Nat.reduceLT, ne_eq, Nat.reduceEqDiff, not_false_eq_true, gd, want_free, rops, fx, str, adr_p, Nat.zero_add, Option.some.injEq, exists_eq_left', Nat.reduceAdd, tk24, hn, s6, bd24_z, q1, List.size_toArray, List.length_cons, List.length_nil, Nat.beq_refl]
      (repeat (first | refine Rn.seq hc ?_ | refine Rn.skip hc ?_ | refine Rn.block hc ?_ | refine Rn.inBlock hc ?_ | refine Rn.scope hc ?_ | refine Rn.inScope hc ?_))
      refine Rn.ret (endQ_ct rfl (v := .agg #[.int .i64 0, .slice none 0 0, .slice none 0 0]) ?_ ⟨a0, p0, hred, ha0, hp0, ⟨by have := hB.next; omega, q3, fun b hb => by rw [q4 _ (by omega), hB.keep _ (by omega), hx1.keep _ hb]⟩, ?_⟩)
      · simp only [sg_ne, ne_eq, Nat.reduceEqDiff, not_false_eq_true, ld, adr_p, cls, Nat.zero_add, Nat.reduceAdd, tk24, s6, g0, g1, g2]
      · have : 120 < p0 := Nat.lt_of_not_le fun hle => by
          rw [hno p0 hred.per.pos (by omega)] at hpk
          cases hpk
        rw [if_pos (.inl this)]
        simp only [sg_eq, sp_n, Nat.reduceLT, hn]
    · have hper := perOK_per (st := st) hro hd0 hdk
      have hpmin : ∀ N e, Per (atL st ro) N e → d ≤ e := fun N e => min_per hro hmin
      have hdl := perOK_le hro hdk
      have hdz : decide ((d : Int) = 0) = false := by simp; omega
      obtain ⟨C, p2, hx2, hn2, l2⟩ := put24L hB.wf (v0 := .int .i64 m) (v1 := .slice none 0 0) (v2 := .slice none 0 0) rfl
      have hC : Nx A1.next A1 C := hB.trans (hx2.le hB.next)
      have hBn := hB.next
      (repeat (first | refine Rn.seq hc ?_ | refine Rn.skip hc ?_ | refine Rn.block hc ?_ | refine Rn.inBlock hc ?_ | refine Rn.scope hc ?_ | refine Rn.inScope hc ?_))
      refine Rn.reg hc rfl ?_
      simp only [sev_tmp, sev_const, sg_eq, Nat.reduceLT, gd, want_free, rops, fx, bin_eql, Option.some.injEq, exists_eq_left', hn, s8, hdz]
      (repeat (first | refine Rn.seq hc ?_ | refine Rn.skip hc ?_ | refine Rn.block hc ?_ | refine Rn.inBlock hc ?_ | refine Rn.scope hc ?_ | refine Rn.inScope hc ?_))
      refine Rn.condE hc rfl ?_
      simp only [sev_tmp, sg_eq, sp_n, Nat.reduceLT, Value.bool.injEq, exists_eq_left', hn]
      (repeat (first | refine Rn.seq hc ?_ | refine Rn.skip hc ?_ | refine Rn.block hc ?_ | refine Rn.inBlock hc ?_ | refine Rn.scope hc ?_ | refine Rn.inScope hc ?_))
      refine Rn.reg hc rfl ?_
      simp only [sev_tmp, sg_eq, sg_ne, sp_n, sp_none, Nat.reduceLT, ne_eq, Nat.reduceEqDiff, not_false_eq_true, gd, want_free, rops, fx, str, adr_p, Nat.zero_add, Option.some.injEq, exists_eq_left', Value.cells, Nat.reduceAdd, tk24, hn, s0, bd24_0, isCell, ze24, p2, List.size_toArray, List.length_cons, List.length_nil, Nat.beq_refl]
      (repeat (first | refine Rn.seq hc ?_ | refine Rn.skip hc ?_ | refine Rn.block hc ?_ | refine Rn.inBlock hc ?_ | refine Rn.scope hc ?_ | refine Rn.inScope hc ?_))
      refine Rn.reg hc rfl ?_
      simp only [sev_tmp, sg_eq, sg_ne, sp_n, Nat.reduceLT, ne_eq, Nat.reduceEqDiff, not_false_eq_true, gd, want_free, rops, fx, lng, Option.some.injEq, exists_eq_left', un22, hn, s1]
      (repeat (first | refine Rn.seq hc ?_ | refine Rn.skip hc ?_))
      refine Rn.cut2 hc (Q1 := fun s ds D => ds = [] ∧ Nx C.next C D ∧ s.n = 112 ∧ sget s 0 = .int .i64 m ∧ sget s 1 = .slice sa st.length sc ∧ sget s 2 = .slice ra ro.length rc ∧ sget s 6 = .pointer (some ⟨A.next, 0, none⟩) ∧ sget s 8 = .int .i64 (d : Int) ∧ sget s 11 = .pointer (some ⟨B.next, 0, none⟩) ∧ ∃ e : Nat, e ≤ st.length ∧ sget s 12 = .int .i64 (e : Int) ∧ Red (atL st ro) e d)
        (Q2 := fun _ _ _ => False) ?_ ?_ ?_
      · (repeat (first | refine Rn.seq hc ?_ | refine Rn.skip hc ?_ | refine Rn.block hc ?_ | refine Rn.inBlock hc ?_ | refine Rn.scope hc ?_ | refine Rn.inScope hc ?_))
        refine Rn.loopI hc (I := fun k s A' => ∃ e : Nat, e ≤ st.length ∧ k = e ∧ Nx C.next C A' ∧ Per (atL st ro) e d ∧ s.n = 112 ∧ sget s 0 = .int .i64 m ∧ sget s 1 = .slice sa st.length sc ∧ sget s 2 = .slice ra ro.length rc ∧ sget s 6 = .pointer (some ⟨A.next, 0, none⟩) ∧ sget s 8 = .int .i64 (d : Int) ∧ sget s 11 = .pointer (some ⟨B.next, 0, none⟩) ∧ sget s 12 = .int .i64 (e : Int))
          (n := st.length) ⟨st.length, Nat.le_refl _, rfl, Nx.refl hx2.wf _, hper, by simp only [sp_n, hn], by simp only [sg_ne, ne_eq, Nat.reduceEqDiff, not_false_eq_true, s0], by simp only [sg_ne, ne_eq, Nat.reduceEqDiff, not_false_eq_true, s1], by simp only [sg_ne, ne_eq, Nat.reduceEqDiff, not_false_eq_true, s2], by simp only [sg_ne, ne_eq, Nat.reduceEqDiff, not_false_eq_true, s6], by simp only [sg_ne, ne_eq, Nat.reduceEqDiff, not_false_eq_true, s8], by simp only [sg_eq, sg_ne, sp_n, Nat.reduceLT, ne_eq, Nat.reduceEqDiff, not_false_eq_true, hn], by simp only [sg_eq, sp_n, Nat.reduceLT, hn]⟩ ?_
        clear hn s0 s1 s2 s6 s8 s
        rintro k s A' ⟨e, he, hke, hA, hpe, hn, s0, s1, s2, s6, s8, s11, s12⟩ ih
        (repeat (first | refine Rn.seq hc ?_ | refine Rn.skip hc ?_ | refine Rn.block hc ?_ | refine Rn.inBlock hc ?_ | refine Rn.scope hc ?_ | refine Rn.inScope hc ?_))
        by_cases he0 : e = 0
        · subst he0
          clear ih
          have hd0' : decide ((0 : Int) < ((0 : Nat) : Int)) = false := rfl
          refine Rn.drawnR hc hx (by kernel_rfl) (by rfl) (by kernel_rfl) ?_ ?_
          · simp only [rdV, VQ.int, VQ.bool, sev_tmp, sev_const, sg_eq, sg_ne, sp_n, Nat.reduceLT, ne_eq, Nat.reduceEqDiff, not_false_eq_true, gd, nth, want_free, want_slot, beqB, fx, pck, bin_gtr, Nat.zero_add, Nat.reduceAdd, and_self, hn, s12, hd0', List.length_cons, List.length_nil]
          simp only [sev_tmp, sev_const, sg_eq, sg_ne, sp_n, Nat.reduceLT, ne_eq, Nat.reduceEqDiff, not_false_eq_true, gd, nth, want_free, want_slot, beqB, rops, fx, pck, bin_gtr, Nat.zero_add, Option.some.injEq, exists_eq_left', Nat.reduceAdd, hn, s12, hd0', List.length_cons, List.length_nil]
          (repeat (first | refine Rn.seq hc ?_ | refine Rn.skip hc ?_ | refine Rn.block hc ?_ | refine Rn.inBlock hc ?_ | refine Rn.scope hc ?_ | refine Rn.inScope hc ?_))
          refine Rn.condE hc rfl ?_
          simp only [sev_tmp, sg_eq, sp_n, Nat.reduceLT, Value.bool.injEq, exists_eq_left', hn]
          (repeat (first | refine Rn.seq hc ?_ | refine Rn.skip hc ?_ | refine Rn.block hc ?_ | refine Rn.inBlock hc ?_ | refine Rn.scope hc ?_ | refine Rn.inScope hc ?_))
          refine Rn.exit hc rfl ?_
          (repeat (first | refine Rn.seq hc ?_ | refine Rn.skip hc ?_ | refine Rn.block hc ?_ | refine Rn.inBlock hc ?_ | refine Rn.scope hc ?_ | refine Rn.inScope hc ?_))
          exact Rn.fall ⟨rfl, Nx.bump hA _, by simp only [sp_n, hn], by simp only [sg_ne, ne_eq, Nat.reduceEqDiff, not_false_eq_true, s0], by simp only [sg_ne, ne_eq, Nat.reduceEqDiff, not_false_eq_true, s1], by simp only [sg_ne, ne_eq, Nat.reduceEqDiff, not_false_eq_true, s2], by simp only [sg_ne, ne_eq, Nat.reduceEqDiff, not_false_eq_true, s6], by simp only [sg_ne, ne_eq, Nat.reduceEqDiff, not_false_eq_true, s8], by simp only [sg_ne, ne_eq, Nat.reduceEqDiff, not_false_eq_true, s11], 0, by omega, by simp only [sg_ne, ne_eq, Nat.reduceEqDiff, not_false_eq_true, s12], red_of hpe hpmin (fun h => absurd h (by omega))⟩
        · have hd0' : decide ((0 : Int) < (e : Int)) = true := by simp; omega
          have hA0 : Nx A.next A A' := hx1.trans ((hC.trans (hA.le (by have := hC.next; omega))).le hx1.next)
          obtain ⟨r, ix, hr1, hr2, hr3, hix, hr4, hr5⟩ := emod_idx (x := ((e - 1 : Nat) : Int) - (st.length : Int)) hd0
          have hmodE := hr5 st.length (e - 1) rfl
          have hidx : ix < ro.length := by omega
          have hel : e - 1 < st.length := by omega
          obtain ⟨bb, o, rfl, _, hb1, hcl⟩ := hs (e - 1) hel
          obtain ⟨bb', o', rfl, _, hb2, hcl'⟩ := hr ix hidx
          have hcl : cl A' bb (o + (e - 1)) = _ := (hA0.cl hb1 _).trans hcl
          have hcl' : cl A' bb' (o' + ix) = _ := (hA0.cl hb2 _).trans hcl'
          have hw1 : IntKind.i64.wrap ((e : Int) - 1) = ((e - 1 : Nat) : Int) := by rw [IntWalk.i64_in _ (by omega)]; omega
          have hw2 : IntKind.i64.wrap (((e - 1 : Nat) : Int) - (st.length : Int)) = ((e - 1 : Nat) : Int) - (st.length : Int) := by rw [IntWalk.i64_in _ (by omega)]
          have hrem1 : ∀ M, bin Try.prog .rem 3 (.int .i64 (((e - 1 : Nat) : Int) - (st.length : Int))) (.int .i64 (d : Int)) M = some (.int .i64 r, M) := fun M => by rw [bin_rem _ _ _ _ (by omega), hr1]
          have hw3 : IntKind.i64.wrap (r + (d : Int)) = r + (d : Int) := by rw [IntWalk.i64_in _ (by omega)]
          have hrem2 : ∀ M, bin Try.prog .rem 3 (.int .i64 (r + (d : Int))) (.int .i64 (d : Int)) M = some (.int .i64 (ix : Int), M) := fun M => by rw [bin_rem _ _ _ _ (by omega), hr4]
          have hsame : ro.getD ix 0 = atL st ro (e - 1 + d) := by
            rw [← atL_ro (st := st) hidx]
            exact hpe.same (by omega) (by omega) (by rw [hmodE, Nat.add_mod_right])
          by_cases heq : st.getD (e - 1) 0 = ro.getD ix 0
          · have hdq : decide (st.getD (e - 1) 0 = ro.getD ix 0) = true := decide_eq_true heq
            refine Rn.drawnR hc hx (by kernel_rfl) (by rfl) (by kernel_rfl) ?_ ?_
            · simp only [rdV, VQ.int, VQ.bool, VQ.ptr, VQ.slice, cl_bump, sev_tmp, sev_const, sg_eq, sg_ne, sp_n, Nat.reduceLT, ne_eq, Nat.reduceEqDiff, not_false_eq_true, gd, nth, want_free, want_slot, beqB, fx, ld, idx, lng, pck, bin_gtr, bin_eql, bin_add, bin_sub, adr_p, Nat.zero_add, Nat.reduceAdd, Nat.mul_one, and_self, tk3, un22, eo22, hn, s1, s2, s8, s12, hd0', hw1, hw2, hrem1, hw3, hrem2, nlen_nat hel, nlen_nat hidx, hcl, hcl', hdq, List.length_cons, List.length_nil]
            simp only [cl_bump, sev_tmp, sev_const, sg_eq, sg_ne, sp_n, Nat.reduceLT, ne_eq, Nat.reduceEqDiff, not_false_eq_true, gd, nth, want_free, want_slot, beqB, rops, fx, ld, idx, lng, pck, bin_gtr, bin_eql, bin_add, bin_sub, adr_p, Nat.zero_add, Option.some.injEq, exists_eq_left', Nat.reduceAdd, Nat.mul_one, tk3, un22, eo22, hn, s1, s2, s8, s12, hd0', hw1, hw2, hrem1, hw3, hrem2, nlen_nat hel, nlen_nat hidx, hcl, hcl', hdq, List.length_cons, List.length_nil]
            (repeat (first | refine Rn.seq hc ?_ | refine Rn.skip hc ?_ | refine Rn.block hc ?_ | refine Rn.inBlock hc ?_ | refine Rn.scope hc ?_ | refine Rn.inScope hc ?_))
            refine Rn.condE hc rfl ?_
            simp only [sev_tmp, sg_eq, sp_n, Nat.reduceLT, Value.bool.injEq, exists_eq_left', hn]
            (repeat (first | refine Rn.seq hc ?_ | refine Rn.skip hc ?_ | refine Rn.block hc ?_ | refine Rn.inBlock hc ?_ | refine Rn.scope hc ?_ | refine Rn.inScope hc ?_))
            refine Rn.reg hc rfl ?_
            simp only [sev_tmp, sev_const, sg_eq, sg_ne, sp_n, Nat.reduceLT, ne_eq, Nat.reduceEqDiff, not_false_eq_true, gd, want_free, rops, fx, bin_sub, Option.some.injEq, exists_eq_left', hn, s12, hw1]
            (repeat (first | refine Rn.seq hc ?_ | refine Rn.skip hc ?_ | refine Rn.block hc ?_ | refine Rn.inBlock hc ?_ | refine Rn.scope hc ?_ | refine Rn.inScope hc ?_))
            refine ih _ _ _ (by omega) ⟨e - 1, by omega, rfl, Nx.bump hA _, Per.back (by rw [show e - 1 + 1 = e by omega]; exact hpe) (by rw [atL_st hel, heq, hsame]), by simp only [sp_n, hn], by simp only [sg_ne, ne_eq, Nat.reduceEqDiff, not_false_eq_true, s0], by simp only [sg_ne, ne_eq, Nat.reduceEqDiff, not_false_eq_true, s1], by simp only [sg_ne, ne_eq, Nat.reduceEqDiff, not_false_eq_true, s2], by simp only [sg_ne, ne_eq, Nat.reduceEqDiff, not_false_eq_true, s6], by simp only [sg_ne, ne_eq, Nat.reduceEqDiff, not_false_eq_true, s8], by simp only [sg_ne, ne_eq, Nat.reduceEqDiff, not_false_eq_true, s11], by simp only [sg_eq, sp_n, Nat.reduceLT, hn]⟩
          · have hdq : decide (st.getD (e - 1) 0 = ro.getD ix 0) = false := decide_eq_false heq
            clear ih
            refine Rn.drawnR hc hx (by kernel_rfl) (by rfl) (by kernel_rfl) ?_ ?_
            · simp only [rdV, VQ.int, VQ.bool, VQ.ptr, VQ.slice, cl_bump, sev_tmp, sev_const, sg_eq, sg_ne, sp_n, Nat.reduceLT, ne_eq, Nat.reduceEqDiff, not_false_eq_true, gd, nth, want_free, want_slot, beqB, fx, ld, idx, lng, pck, bin_gtr, bin_eql, bin_add, bin_sub, adr_p, Nat.zero_add, Nat.reduceAdd, Nat.mul_one, and_self, tk3, un22, eo22, hn, s1, s2, s8, s12, hd0', hw1, hw2, hrem1, hw3, hrem2, nlen_nat hel, nlen_nat hidx, hcl, hcl', hdq, List.length_cons, List.length_nil]
            simp only [cl_bump, sev_tmp, sev_const, sg_eq, sg_ne, sp_n, Nat.reduceLT, ne_eq, Nat.reduceEqDiff, not_false_eq_true, gd, nth, want_free, want_slot, beqB, rops, fx, ld, idx, lng, pck, bin_gtr, bin_eql, bin_add, bin_sub, adr_p, Nat.zero_add, Option.some.injEq, exists_eq_left', Nat.reduceAdd, Nat.mul_one, tk3, un22, eo22, hn, s1, s2, s8, s12, hd0', hw1, hw2, hrem1, hw3, hrem2, nlen_nat hel, nlen_nat hidx, hcl, hcl', hdq, List.length_cons, List.length_nil]
            (repeat (first | refine Rn.seq hc ?_ | refine Rn.skip hc ?_ | refine Rn.block hc ?_ | refine Rn.inBlock hc ?_ | refine Rn.scope hc ?_ | refine Rn.inScope hc ?_))
            refine Rn.condE hc rfl ?_
            simp only [sev_tmp, sg_eq, sp_n, Nat.reduceLT, Value.bool.injEq, exists_eq_left', hn]
            (repeat (first | refine Rn.seq hc ?_ | refine Rn.skip hc ?_ | refine Rn.block hc ?_ | refine Rn.inBlock hc ?_ | refine Rn.scope hc ?_ | refine Rn.inScope hc ?_))
            refine Rn.exit hc rfl ?_
            (repeat (first | refine Rn.seq hc ?_ | refine Rn.skip hc ?_ | refine Rn.block hc ?_ | refine Rn.inBlock hc ?_ | refine Rn.scope hc ?_ | refine Rn.inScope hc ?_))
            exact Rn.fall ⟨rfl, Nx.bump hA _, by simp only [sp_n, hn], by simp only [sg_ne, ne_eq, Nat.reduceEqDiff, not_false_eq_true, s0], by simp only [sg_ne, ne_eq, Nat.reduceEqDiff, not_false_eq_true, s1], by simp only [sg_ne, ne_eq, Nat.reduceEqDiff, not_false_eq_true, s2], by simp only [sg_ne, ne_eq, Nat.reduceEqDiff, not_false_eq_true, s6], by simp only [sg_ne, ne_eq, Nat.reduceEqDiff, not_false_eq_true, s8], by simp only [sg_ne, ne_eq, Nat.reduceEqDiff, not_false_eq_true, s11], e, he, by simp only [sg_ne, ne_eq, Nat.reduceEqDiff, not_false_eq_true, s12], red_of hpe hpmin (fun _ hh => heq (by rw [← atL_st (ro := ro) hel, hh, hsame]))⟩
      · clear hn s0 s1 s2 s6 s8 s
        rintro s ds D ⟨rfl, hD, hn, s0, s1, s2, s6, s8, s11, a, hal, s12, hra⟩
        have hCn := hC.next
        have hDn := hD.next
        have hD1 : Nx A1.next A1 D := hC.trans (hD.le hC.next)
        have hD0 : Nx A.next A D := hx1.trans (hD1.le hx1.next)
        (repeat (first | refine Rn.seq hc ?_ | refine Rn.skip hc ?_ | refine Rn.block hc ?_ | refine Rn.inBlock hc ?_ | refine Rn.scope hc ?_ | refine Rn.inScope hc ?_))
        by_cases h60 : 60 < a
        · have hd60 : decide ((60 : Int) < (a : Int)) = true := by simp; omega
          obtain ⟨E, q1, q2, q3, q4, g0, g1, g2⟩ := hr24 (v0 := .int .i64 0) (v1 := .slice none 0 0) (v2 := .slice none 0 0) hD1 rfl
          refine Rn.reg hc rfl ?_
          simp only [sev_tmp, sev_const, sg_eq, Nat.reduceLT, gd, want_free, rops, fx, bin_gtr, Option.some.injEq, exists_eq_left', hn, s12, hd60]
          (repeat (first | refine Rn.seq hc ?_ | refine Rn.skip hc ?_ | refine Rn.block hc ?_ | refine Rn.inBlock hc ?_ | refine Rn.scope hc ?_ | refine Rn.inScope hc ?_))
          refine Rn.condE hc rfl ?_
          simp only [sev_tmp, sg_eq, sp_n, Nat.reduceLT, Value.bool.injEq, exists_eq_left', hn]
          (repeat (first | refine Rn.seq hc ?_ | refine Rn.skip hc ?_ | refine Rn.block hc ?_ | refine Rn.inBlock hc ?_ | refine Rn.scope hc ?_ | refine Rn.inScope hc ?_))
          refine Rn.reg hc rfl ?_
          simp only [sev_tmp, sev_const, sg_eq, sg_ne, sp_n, sp_none, Nat.reduceLT, ne_eq, Nat.reduceEqDiff, not_false_eq_true, gd, want_free, rops, fx, str, adr_p, Nat.zero_add, Option.some.injEq, exists_eq_left', Nat.reduceAdd, tk24, hn, s6, bd24_z, q1, List.size_toArray, List.length_cons, List.length_nil, Nat.beq_refl]
          (repeat (first | refine Rn.seq hc ?_ | refine Rn.skip hc ?_ | refine Rn.block hc ?_ | refine Rn.inBlock hc ?_ | refine Rn.scope hc ?_ | refine Rn.inScope hc ?_))
          refine Rn.ret (endQ_ct rfl (v := .agg #[.int .i64 0, .slice none 0 0, .slice none 0 0]) ?_ ⟨a, d, hra, hal, hdl, ⟨by omega, q3, fun b hb => by rw [q4 _ (by omega), hD0.keep _ hb]⟩, ?_⟩)
          · simp only [sg_ne, ne_eq, Nat.reduceEqDiff, not_false_eq_true, ld, adr_p, cls, Nat.zero_add, Nat.reduceAdd, tk24, s6, g0, g1, g2]
          · rw [if_pos (.inr h60)]
            simp only [sg_eq, sp_n, Nat.reduceLT, hn]
        · have hd60 : decide ((60 : Int) < (a : Int)) = false := by simp; omega
          refine Rn.reg hc rfl ?_
          simp only [sev_tmp, sev_const, sg_eq, Nat.reduceLT, gd, want_free, rops, fx, bin_gtr, Option.some.injEq, exists_eq_left', hn, s12, hd60]
          (repeat (first | refine Rn.seq hc ?_ | refine Rn.skip hc ?_ | refine Rn.block hc ?_ | refine Rn.inBlock hc ?_ | refine Rn.scope hc ?_ | refine Rn.inScope hc ?_))
          refine Rn.condE hc rfl ?_
          simp only [sev_tmp, sg_eq, sp_n, Nat.reduceLT, Value.bool.injEq, exists_eq_left', hn]
          (repeat (first | refine Rn.seq hc ?_ | refine Rn.skip hc ?_ | refine Rn.block hc ?_ | refine Rn.inBlock hc ?_ | refine Rn.scope hc ?_ | refine Rn.inScope hc ?_))
          have hsD : Ints D sa 0 D.next st := (hs.nx hD0 (Nat.le_refl _)).mono (Nat.le_refl _) hD0.next
          obtain ⟨sa', sc', hasl, hsl'⟩ := asl_hi hsD (hsl.nx hw hD0) hsc hal
          have htk : (st.take a).length = a := by simp; omega
          refine Rn.region hc fun K hK => ?_
          refine Wo.run hc 3 rfl rfl rfl ?_
          simp (maxSteps := 2000000) only [List.drop_zero, List.take_succ_cons, List.take_zero, sev_tmp, sg_eq, sg_ne, sp_n, Nat.reduceLT, ne_eq, Nat.reduceEqDiff, not_false_eq_true, gd, want_free, rops, fx, Nat.zero_add, Option.some.injEq, exists_eq_left', hn, s1, s12, ae_asl_hi, hasl]
          refine Wo.call hc (by rfl) (by rfl) ⟨by rfl, by rfl⟩ (xs := [.slice sa' (st.take a).length sc']) (by first | rfl | (simp only [sev_tmp, sev_const, sev_func, sg_eq, sg_ne, sp_n, sp_none, Nat.reduceLT, ne_eq, Nat.reduceEqDiff, not_false_eq_true, gd, nth, want_free, want_slot, beqB, List.map_cons, List.map_nil, Array.toList_empty, List.nil_append, List.append_nil, List.cons_append, hn]; done) | (simp only [sev_tmp, sev_const, sev_func, sg_eq, sg_ne, sp_n, sp_none, Nat.reduceLT, ne_eq, Nat.reduceEqDiff, not_false_eq_true, gd, nth, want_free, want_slot, beqB, List.map_cons, List.map_nil, Array.toList_empty, List.nil_append, List.append_nil, List.cons_append, hn]; rfl)) (by first | rfl | (simp only [sev_tmp, sev_const, sev_func, sg_eq, sg_ne, sp_n, sp_none, Nat.reduceLT, ne_eq, Nat.reduceEqDiff, not_false_eq_true, gd, nth, want_free, want_slot, beqB, List.map_cons, List.map_nil, Array.toList_empty, List.nil_append, List.append_nil, List.cons_append, hn]; done) | (simp only [sev_tmp, sev_const, sev_func, sg_eq, sg_ne, sp_n, sp_none, Nat.reduceLT, ne_eq, Nat.reduceEqDiff, not_false_eq_true, gd, nth, want_free, want_slot, beqB, List.map_cons, List.map_nil, Array.toList_empty, List.nil_append, List.append_nil, List.cons_append, hn]; rfl)) (by first | rfl | (simp only [sev_tmp, sg_eq, sp_n, Nat.reduceLT, List.map_cons, List.map_nil, List.nil_append, List.append_nil, hn]; done) | (simp only [sev_tmp, sev_const, sev_func, sg_eq, sg_ne, sp_n, sp_none, Nat.reduceLT, ne_eq, Nat.reduceEqDiff, not_false_eq_true, gd, nth, want_free, want_slot, beqB, List.map_cons, List.map_nil, Array.toList_empty, List.nil_append, List.append_nil, List.cons_append, hn]; rfl)) (Con.mono (clone_ints hD.wf hsl' (by omega)) ?_)
          rintro w E ⟨xa, rfl, hE, hgE⟩
          rw [htk]
          have lE : Canon.look E.objs B.next = _ := (hE.keep _ (by omega)).trans ((hD.keep _ (by omega)).trans l2)
          obtain ⟨G, u1, u2⟩ := st1_upd (o := 1) (v := .slice xa a a) lE rfl (by simp) rfl
          have lG : Canon.look G.objs B.next = some ⟨.cells #[.int .i64 m, .slice xa a a, .slice none 0 0] 24, false, 0⟩ := by
            obtain ⟨c, t, f, g, e, r1, r2, _⟩ := u2.at'
            rw [lE] at r1
            cases r1
            exact r2
          refine Wo.run hc 2 rfl rfl rfl ?_
          simp (maxSteps := 2000000) only [List.drop_zero, List.drop_succ_cons, List.take_succ_cons, List.take_zero, sev_tmp, sg_eq, sg_ne, sp_n, sp_none, Nat.reduceLT, ne_eq, Nat.reduceEqDiff, not_false_eq_true, gd, want_free, rops, fx, str, fad, adr_p, Nat.zero_add, Option.some.injEq, exists_eq_left', Nat.reduceAdd, tk22, fo24_1, hn, s11, u1]
          refine Wo.done hc rfl (hK _ _ ?_)
          clear hK
          (repeat (first | refine Rn.seq hc ?_ | refine Rn.skip hc ?_ | refine Rn.block hc ?_ | refine Rn.inBlock hc ?_ | refine Rn.scope hc ?_ | refine Rn.inScope hc ?_))
          have hEn := hE.next
          have hGn := u2.next
          have wG : WF G := (u2.nx hE.wf (Nat.zero_le _)).wf
          have htake : st.take a = redS (atL st ro) a := by
            refine List.ext_getElem (by rw [redS_len]; exact htk) fun i h1 h2 => ?_
            have hi : i < a := by omega
            have := atL_st (ro := ro) (show i < st.length by omega)
            simp [redS, this, List.getD_eq_getElem?_getD, show i < st.length by omega]
          rw [htake] at hgE
          have hG0 : ∀ b, b < A1.next → Canon.look G.objs b = Canon.look A1.objs b := fun b hb => by rw [u2.off _ (by omega), hE.keep _ (by omega), hD1.keep _ hb]
          refine Rn.reg hc rfl ?_
          simp only [sev_tmp, sev_const, sg_ne, ne_eq, Nat.reduceEqDiff, not_false_eq_true, gd, want_free, rops, fx, Option.some.injEq, exists_eq_left', s8]
          (repeat (first | refine Rn.seq hc ?_ | refine Rn.skip hc ?_ | refine Rn.block hc ?_ | refine Rn.inBlock hc ?_ | refine Rn.scope hc ?_ | refine Rn.inScope hc ?_))
          refine Rn.loopI hc (I := fun k s A' => ∃ ya, ∃ i : Nat, i ≤ d ∧ k = d - i ∧ G.next ≤ A'.next ∧ WF A' ∧ (∀ b, b < G.next → b ≠ B.next → Canon.look A'.objs b = Canon.look G.objs b) ∧ Gr A' ya G.next (redR (atL st ro) a i) ∧ Canon.look A'.objs B.next = some ⟨.cells #[.int .i64 m, .slice xa a a, .slice ya i i] 24, false, 0⟩ ∧ s.n = 112 ∧ sget s 1 = .slice sa st.length sc ∧ sget s 2 = .slice ra ro.length rc ∧ sget s 6 = .pointer (some ⟨A.next, 0, none⟩) ∧ sget s 8 = .int .i64 (d : Int) ∧ sget s 11 = .pointer (some ⟨B.next, 0, none⟩) ∧ sget s 12 = .int .i64 (a : Int) ∧ sget s 86 = .int .i64 (d : Int) ∧ sget s 87 = .int .i64 (i : Int))
            (n := d) ⟨none, 0, by omega, rfl, Nat.le_refl _, wG, fun _ _ _ => rfl, Gr.nil _ _, lG, by simp only [sp_n, hn], by simp only [sg_ne, ne_eq, Nat.reduceEqDiff, not_false_eq_true, s1], by simp only [sg_ne, ne_eq, Nat.reduceEqDiff, not_false_eq_true, s2], by simp only [sg_ne, ne_eq, Nat.reduceEqDiff, not_false_eq_true, s6], by simp only [sg_ne, ne_eq, Nat.reduceEqDiff, not_false_eq_true, s8], by simp only [sg_ne, ne_eq, Nat.reduceEqDiff, not_false_eq_true, s11], by simp only [sg_ne, ne_eq, Nat.reduceEqDiff, not_false_eq_true, s12], by simp only [sg_eq, sg_ne, sp_n, Nat.reduceLT, ne_eq, Nat.reduceEqDiff, not_false_eq_true, hn], by simp only [sg_eq, sp_n, Nat.reduceLT, hn]; rfl⟩ ?_
          clear hn s0 s1 s2 s6 s8 s11 s12 s
          rintro k s A' ⟨ya, i, hi, hke, hA'n, hw', hkp, hgy, lA', hn, s1, s2, s6, s8, s11, s12, s86, s87⟩ ih
          (repeat (first | refine Rn.seq hc ?_ | refine Rn.skip hc ?_ | refine Rn.block hc ?_ | refine Rn.inBlock hc ?_ | refine Rn.scope hc ?_ | refine Rn.inScope hc ?_))
          by_cases hlt : i < d
          · have hd : decide ((i : Int) < (d : Int)) = true := by simp; omega
            refine Rn.reg hc rfl ?_
            simp only [sev_tmp, gd, want_free, rops, fx, bin_lss, Option.some.injEq, exists_eq_left', s86, s87, hd]
            (repeat (first | refine Rn.seq hc ?_ | refine Rn.skip hc ?_ | refine Rn.block hc ?_ | refine Rn.inBlock hc ?_ | refine Rn.scope hc ?_ | refine Rn.inScope hc ?_))
            refine Rn.condE hc rfl ?_
            simp only [sev_tmp, sg_eq, Nat.reduceLT, Value.bool.injEq, exists_eq_left', hn]
            (repeat (first | refine Rn.seq hc ?_ | refine Rn.skip hc ?_ | refine Rn.block hc ?_ | refine Rn.inBlock hc ?_ | refine Rn.scope hc ?_ | refine Rn.inScope hc ?_))
            refine Rn.reg hc rfl ?_
            simp only [sev_tmp, sg_eq, sg_ne, sp_n, Nat.reduceLT, ne_eq, Nat.reduceEqDiff, not_false_eq_true, gd, want_free, rops, fx, Option.some.injEq, exists_eq_left', hn, s87]
            (repeat (first | refine Rn.seq hc ?_ | refine Rn.skip hc ?_ | refine Rn.block hc ?_ | refine Rn.inBlock hc ?_ | refine Rn.scope hc ?_ | refine Rn.inScope hc ?_))
            obtain ⟨r, ix, hr1, hr2, hr3, hix, hr4, hr5⟩ := emod_idx (x := ((a + i : Nat) : Int) - (st.length : Int)) hd0
            have hmodE := hr5 st.length (a + i) rfl
            have hidx : ix < ro.length := by omega
            obtain ⟨bb, o, rfl, _, hb1, hcl⟩ := hr ix hidx
            have hLb : ∀ b, b < A.next → Canon.look A'.objs b = Canon.look A.objs b := fun b hb => by rw [hkp _ (by omega) (by omega), hG0 _ (by omega), hx1.keep _ hb]
            have hcl : cl A' bb (o + ix) = _ := (cl_look (hLb bb hb1)).trans hcl
            have hval : ro.getD ix 0 = atL st ro (a + i) := by
              rw [← atL_ro (st := st) hidx]
              exact hra.per.same (by omega) (by omega) hmodE
            rw [hval] at hcl
            have hw1 : IntKind.i64.wrap ((a : Int) - (st.length : Int)) = (a : Int) - (st.length : Int) := by rw [IntWalk.i64_in _ (by omega)]
            have hw2 : IntKind.i64.wrap ((a : Int) - (st.length : Int) + (i : Int)) = ((a + i : Nat) : Int) - (st.length : Int) := by rw [IntWalk.i64_in _ (by omega)]; omega
            have hrem1 : ∀ M, bin Try.prog .rem 3 (.int .i64 (((a + i : Nat) : Int) - (st.length : Int))) (.int .i64 (d : Int)) M = some (.int .i64 r, M) := fun M => by rw [bin_rem _ _ _ _ (by omega), hr1]
            have hw3 : IntKind.i64.wrap (r + (d : Int)) = r + (d : Int) := by rw [IntWalk.i64_in _ (by omega)]
            have hrem2 : ∀ M, bin Try.prog .rem 3 (.int .i64 (r + (d : Int))) (.int .i64 (d : Int)) M = some (.int .i64 (ix : Int), M) := fun M => by rw [bin_rem _ _ _ _ (by omega), hr4]
            have c2 : cl A' B.next 2 = some (.slice ya i i) := by rw [cl_of lA' rfl]; rfl
            obtain ⟨F, hF1, hF2, hF⟩ : ∃ F : AHeap → Prop, (∀ M, F M → cl M B.next 2 = some (.slice ya i i)) ∧ (∀ M, F M → cl M bb (o + ix) = some (.int .i64 (atL st ro (a + i)))) ∧ (∀ M, Canon.look M.objs B.next = Canon.look A'.objs B.next → Canon.look M.objs bb = Canon.look A'.objs bb → F M) :=
              ⟨fun M => cl M B.next 2 = some (.slice ya i i) ∧ cl M bb (o + ix) = some (.int .i64 (atL st ro (a + i))), fun _ h => h.1, fun _ h => h.2, fun M q1 q2 => ⟨(cl_look q1).trans c2, (cl_look q2).trans hcl⟩⟩
            have FB := hF (bump A' 21) rfl rfl
            have hxB : Nx A'.next A' (bump A' 21) := Nx.bump (Nx.refl hw' _) 21
            refine Rn.drawnL hc hx noS F (E := [17, 18]) (n := 20) (k := 21) (by kernel_rfl) (by kernel_rfl) (by rfl) (by kernel_rfl) ?_
            refine DrL.read (by first | rfl | kernel_rfl) (by first | rfl | (simp only [sev_tmp, sev_const, sev_func, sg_eq, sg_ne, sp_n, sp_none, Nat.reduceLT, ne_eq, Nat.reduceEqDiff, not_false_eq_true, gd, nth, want_free, want_slot, beqB, List.map_cons, List.map_nil, Array.toList_empty, List.nil_append, List.append_nil, List.cons_append, hn, s1, s2, s8, s11, s12, hw1, hw2, hrem1, hw3, hrem2, nlen_nat hidx, hF1 M hM, hF2 M hM]; done) | (simp only [sev_tmp, sev_const, sev_func, sg_eq, sg_ne, sp_n, sp_none, Nat.reduceLT, ne_eq, Nat.reduceEqDiff, not_false_eq_true, gd, nth, want_free, want_slot, beqB, List.map_cons, List.map_nil, Array.toList_empty, List.nil_append, List.append_nil, List.cons_append, hn, s1, s2, s8, s11, s12, hw1, hw2, hrem1, hw3, hrem2, nlen_nat hidx, hF1 M hM, hF2 M hM]; rfl)) (by assumption) (fun M hM => by simp only [sev_tmp, sg_ne, ne_eq, Nat.reduceEqDiff, not_false_eq_true, fx, fad, adr_p, Nat.zero_add, fo24_2, s11] <;> rfl) (by rfl) (by first | exact VQ.int _ _ | exact VQ.bool _ | exact VQ.ptr _ _ | exact VQ.slice _ _ _ | exact VQ.func (by simp [vq_int, vq_ptr, vq_slice]) (by simp [vq_int, vq_ptr, vq_slice]) | exact VQ.agg (by simp [vq_int, vq_ptr, vq_slice]) | exact VQ.tuple (by simp [vq_int, vq_ptr, vq_slice])) ?_
            refine DrL.read (by first | rfl | kernel_rfl) (by first | rfl | (simp only [sev_tmp, sev_const, sev_func, sg_eq, sg_ne, sp_n, sp_none, Nat.reduceLT, ne_eq, Nat.reduceEqDiff, not_false_eq_true, gd, nth, want_free, want_slot, beqB, List.map_cons, List.map_nil, Array.toList_empty, List.nil_append, List.append_nil, List.cons_append, hn, s1, s2, s8, s11, s12, hw1, hw2, hrem1, hw3, hrem2, nlen_nat hidx, hF1 M hM, hF2 M hM]; done) | (simp only [sev_tmp, sev_const, sev_func, sg_eq, sg_ne, sp_n, sp_none, Nat.reduceLT, ne_eq, Nat.reduceEqDiff, not_false_eq_true, gd, nth, want_free, want_slot, beqB, List.map_cons, List.map_nil, Array.toList_empty, List.nil_append, List.append_nil, List.cons_append, hn, s1, s2, s8, s11, s12, hw1, hw2, hrem1, hw3, hrem2, nlen_nat hidx, hF1 M hM, hF2 M hM]; rfl)) (by assumption) (fun M hM => by simp only [sev_tmp, sg_eq, sp_n, Nat.reduceLT, fx, ld, adr_p, tk22, hn, hF1 M hM] <;> rfl) (by rfl) (by first | exact VQ.int _ _ | exact VQ.bool _ | exact VQ.ptr _ _ | exact VQ.slice _ _ _ | exact VQ.func (by simp [vq_int, vq_ptr, vq_slice]) (by simp [vq_int, vq_ptr, vq_slice]) | exact VQ.agg (by simp [vq_int, vq_ptr, vq_slice]) | exact VQ.tuple (by simp [vq_int, vq_ptr, vq_slice])) ?_
            refine DrL.read (by first | rfl | kernel_rfl) (by first | rfl | (simp only [sev_tmp, sev_const, sev_func, sg_eq, sg_ne, sp_n, sp_none, Nat.reduceLT, ne_eq, Nat.reduceEqDiff, not_false_eq_true, gd, nth, want_free, want_slot, beqB, List.map_cons, List.map_nil, Array.toList_empty, List.nil_append, List.append_nil, List.cons_append, hn, s1, s2, s8, s11, s12, hw1, hw2, hrem1, hw3, hrem2, nlen_nat hidx, hF1 M hM, hF2 M hM]; done) | (simp only [sev_tmp, sev_const, sev_func, sg_eq, sg_ne, sp_n, sp_none, Nat.reduceLT, ne_eq, Nat.reduceEqDiff, not_false_eq_true, gd, nth, want_free, want_slot, beqB, List.map_cons, List.map_nil, Array.toList_empty, List.nil_append, List.append_nil, List.cons_append, hn, s1, s2, s8, s11, s12, hw1, hw2, hrem1, hw3, hrem2, nlen_nat hidx, hF1 M hM, hF2 M hM]; rfl)) (by assumption) (fun M hM => by simp only [sev_tmp, sg_ne, ne_eq, Nat.reduceEqDiff, not_false_eq_true, fx, s2] <;> rfl) (by rfl) (by first | exact VQ.int _ _ | exact VQ.bool _ | exact VQ.ptr _ _ | exact VQ.slice _ _ _ | exact VQ.func (by simp [vq_int, vq_ptr, vq_slice]) (by simp [vq_int, vq_ptr, vq_slice]) | exact VQ.agg (by simp [vq_int, vq_ptr, vq_slice]) | exact VQ.tuple (by simp [vq_int, vq_ptr, vq_slice])) ?_
            refine DrL.read (by first | rfl | kernel_rfl) (by first | rfl | (simp only [sev_tmp, sev_const, sev_func, sg_eq, sg_ne, sp_n, sp_none, Nat.reduceLT, ne_eq, Nat.reduceEqDiff, not_false_eq_true, gd, nth, want_free, want_slot, beqB, List.map_cons, List.map_nil, Array.toList_empty, List.nil_append, List.append_nil, List.cons_append, hn, s1, s2, s8, s11, s12, hw1, hw2, hrem1, hw3, hrem2, nlen_nat hidx, hF1 M hM, hF2 M hM]; done) | (simp only [sev_tmp, sev_const, sev_func, sg_eq, sg_ne, sp_n, sp_none, Nat.reduceLT, ne_eq, Nat.reduceEqDiff, not_false_eq_true, gd, nth, want_free, want_slot, beqB, List.map_cons, List.map_nil, Array.toList_empty, List.nil_append, List.append_nil, List.cons_append, hn, s1, s2, s8, s11, s12, hw1, hw2, hrem1, hw3, hrem2, nlen_nat hidx, hF1 M hM, hF2 M hM]; rfl)) (by assumption) (fun M hM => by simp only [sev_tmp, sg_ne, ne_eq, Nat.reduceEqDiff, not_false_eq_true, fx, s12] <;> rfl) (by rfl) (by first | exact VQ.int _ _ | exact VQ.bool _ | exact VQ.ptr _ _ | exact VQ.slice _ _ _ | exact VQ.func (by simp [vq_int, vq_ptr, vq_slice]) (by simp [vq_int, vq_ptr, vq_slice]) | exact VQ.agg (by simp [vq_int, vq_ptr, vq_slice]) | exact VQ.tuple (by simp [vq_int, vq_ptr, vq_slice])) ?_
            refine DrL.read (by first | rfl | kernel_rfl) (by first | rfl | (simp only [sev_tmp, sev_const, sev_func, sg_eq, sg_ne, sp_n, sp_none, Nat.reduceLT, ne_eq, Nat.reduceEqDiff, not_false_eq_true, gd, nth, want_free, want_slot, beqB, List.map_cons, List.map_nil, Array.toList_empty, List.nil_append, List.append_nil, List.cons_append, hn, s1, s2, s8, s11, s12, hw1, hw2, hrem1, hw3, hrem2, nlen_nat hidx, hF1 M hM, hF2 M hM]; done) | (simp only [sev_tmp, sev_const, sev_func, sg_eq, sg_ne, sp_n, sp_none, Nat.reduceLT, ne_eq, Nat.reduceEqDiff, not_false_eq_true, gd, nth, want_free, want_slot, beqB, List.map_cons, List.map_nil, Array.toList_empty, List.nil_append, List.append_nil, List.cons_append, hn, s1, s2, s8, s11, s12, hw1, hw2, hrem1, hw3, hrem2, nlen_nat hidx, hF1 M hM, hF2 M hM]; rfl)) (by assumption) (fun M hM => by simp only [sev_tmp, sg_ne, ne_eq, Nat.reduceEqDiff, not_false_eq_true, fx, s1] <;> rfl) (by rfl) (by first | exact VQ.int _ _ | exact VQ.bool _ | exact VQ.ptr _ _ | exact VQ.slice _ _ _ | exact VQ.func (by simp [vq_int, vq_ptr, vq_slice]) (by simp [vq_int, vq_ptr, vq_slice]) | exact VQ.agg (by simp [vq_int, vq_ptr, vq_slice]) | exact VQ.tuple (by simp [vq_int, vq_ptr, vq_slice])) ?_
            refine DrL.read (by first | rfl | kernel_rfl) (by first | rfl | (simp only [sev_tmp, sev_const, sev_func, sg_eq, sg_ne, sp_n, sp_none, Nat.reduceLT, ne_eq, Nat.reduceEqDiff, not_false_eq_true, gd, nth, want_free, want_slot, beqB, List.map_cons, List.map_nil, Array.toList_empty, List.nil_append, List.append_nil, List.cons_append, hn, s1, s2, s8, s11, s12, hw1, hw2, hrem1, hw3, hrem2, nlen_nat hidx, hF1 M hM, hF2 M hM]; done) | (simp only [sev_tmp, sev_const, sev_func, sg_eq, sg_ne, sp_n, sp_none, Nat.reduceLT, ne_eq, Nat.reduceEqDiff, not_false_eq_true, gd, nth, want_free, want_slot, beqB, List.map_cons, List.map_nil, Array.toList_empty, List.nil_append, List.append_nil, List.cons_append, hn, s1, s2, s8, s11, s12, hw1, hw2, hrem1, hw3, hrem2, nlen_nat hidx, hF1 M hM, hF2 M hM]; rfl)) (by assumption) (fun M hM => by simp only [sev_tmp, sg_eq, sp_n, Nat.reduceLT, fx, lng, un22, hn] <;> rfl) (by rfl) (by first | exact VQ.int _ _ | exact VQ.bool _ | exact VQ.ptr _ _ | exact VQ.slice _ _ _ | exact VQ.func (by simp [vq_int, vq_ptr, vq_slice]) (by simp [vq_int, vq_ptr, vq_slice]) | exact VQ.agg (by simp [vq_int, vq_ptr, vq_slice]) | exact VQ.tuple (by simp [vq_int, vq_ptr, vq_slice])) ?_
            refine DrL.read (by first | rfl | kernel_rfl) (by first | rfl | (simp only [sev_tmp, sev_const, sev_func, sg_eq, sg_ne, sp_n, sp_none, Nat.reduceLT, ne_eq, Nat.reduceEqDiff, not_false_eq_true, gd, nth, want_free, want_slot, beqB, List.map_cons, List.map_nil, Array.toList_empty, List.nil_append, List.append_nil, List.cons_append, hn, s1, s2, s8, s11, s12, hw1, hw2, hrem1, hw3, hrem2, nlen_nat hidx, hF1 M hM, hF2 M hM]; done) | (simp only [sev_tmp, sev_const, sev_func, sg_eq, sg_ne, sp_n, sp_none, Nat.reduceLT, ne_eq, Nat.reduceEqDiff, not_false_eq_true, gd, nth, want_free, want_slot, beqB, List.map_cons, List.map_nil, Array.toList_empty, List.nil_append, List.append_nil, List.cons_append, hn, s1, s2, s8, s11, s12, hw1, hw2, hrem1, hw3, hrem2, nlen_nat hidx, hF1 M hM, hF2 M hM]; rfl)) (by assumption) (fun M hM => by simp only [sev_tmp, sg_eq, sg_ne, sp_n, Nat.reduceLT, ne_eq, Nat.reduceEqDiff, not_false_eq_true, fx, bin_sub, hn, hw1] <;> rfl) (by rfl) (by first | exact VQ.int _ _ | exact VQ.bool _ | exact VQ.ptr _ _ | exact VQ.slice _ _ _ | exact VQ.func (by simp [vq_int, vq_ptr, vq_slice]) (by simp [vq_int, vq_ptr, vq_slice]) | exact VQ.agg (by simp [vq_int, vq_ptr, vq_slice]) | exact VQ.tuple (by simp [vq_int, vq_ptr, vq_slice])) ?_
            refine DrL.read (by first | rfl | kernel_rfl) (by first | rfl | (simp only [sev_tmp, sev_const, sev_func, sg_eq, sg_ne, sp_n, sp_none, Nat.reduceLT, ne_eq, Nat.reduceEqDiff, not_false_eq_true, gd, nth, want_free, want_slot, beqB, List.map_cons, List.map_nil, Array.toList_empty, List.nil_append, List.append_nil, List.cons_append, hn, s1, s2, s8, s11, s12, hw1, hw2, hrem1, hw3, hrem2, nlen_nat hidx, hF1 M hM, hF2 M hM]; done) | (simp only [sev_tmp, sev_const, sev_func, sg_eq, sg_ne, sp_n, sp_none, Nat.reduceLT, ne_eq, Nat.reduceEqDiff, not_false_eq_true, gd, nth, want_free, want_slot, beqB, List.map_cons, List.map_nil, Array.toList_empty, List.nil_append, List.append_nil, List.cons_append, hn, s1, s2, s8, s11, s12, hw1, hw2, hrem1, hw3, hrem2, nlen_nat hidx, hF1 M hM, hF2 M hM]; rfl)) (by assumption) (fun M hM => by simp only [sev_tmp, sg_eq, sg_ne, sp_n, Nat.reduceLT, ne_eq, Nat.reduceEqDiff, not_false_eq_true, fx, hn] <;> rfl) (by rfl) (by first | exact VQ.int _ _ | exact VQ.bool _ | exact VQ.ptr _ _ | exact VQ.slice _ _ _ | exact VQ.func (by simp [vq_int, vq_ptr, vq_slice]) (by simp [vq_int, vq_ptr, vq_slice]) | exact VQ.agg (by simp [vq_int, vq_ptr, vq_slice]) | exact VQ.tuple (by simp [vq_int, vq_ptr, vq_slice])) ?_
            refine DrL.read (by first | rfl | kernel_rfl) (by first | rfl | (simp only [sev_tmp, sev_const, sev_func, sg_eq, sg_ne, sp_n, sp_none, Nat.reduceLT, ne_eq, Nat.reduceEqDiff, not_false_eq_true, gd, nth, want_free, want_slot, beqB, List.map_cons, List.map_nil, Array.toList_empty, List.nil_append, List.append_nil, List.cons_append, hn, s1, s2, s8, s11, s12, hw1, hw2, hrem1, hw3, hrem2, nlen_nat hidx, hF1 M hM, hF2 M hM]; done) | (simp only [sev_tmp, sev_const, sev_func, sg_eq, sg_ne, sp_n, sp_none, Nat.reduceLT, ne_eq, Nat.reduceEqDiff, not_false_eq_true, gd, nth, want_free, want_slot, beqB, List.map_cons, List.map_nil, Array.toList_empty, List.nil_append, List.append_nil, List.cons_append, hn, s1, s2, s8, s11, s12, hw1, hw2, hrem1, hw3, hrem2, nlen_nat hidx, hF1 M hM, hF2 M hM]; rfl)) (by assumption) (fun M hM => by simp only [sev_tmp, sg_eq, sg_ne, sp_n, Nat.reduceLT, ne_eq, Nat.reduceEqDiff, not_false_eq_true, fx, bin_add, hn, hw2] <;> rfl) (by rfl) (by first | exact VQ.int _ _ | exact VQ.bool _ | exact VQ.ptr _ _ | exact VQ.slice _ _ _ | exact VQ.func (by simp [vq_int, vq_ptr, vq_slice]) (by simp [vq_int, vq_ptr, vq_slice]) | exact VQ.agg (by simp [vq_int, vq_ptr, vq_slice]) | exact VQ.tuple (by simp [vq_int, vq_ptr, vq_slice])) ?_
            refine DrL.read (by first | rfl | kernel_rfl) (by first | rfl | (simp only [sev_tmp, sev_const, sev_func, sg_eq, sg_ne, sp_n, sp_none, Nat.reduceLT, ne_eq, Nat.reduceEqDiff, not_false_eq_true, gd, nth, want_free, want_slot, beqB, List.map_cons, List.map_nil, Array.toList_empty, List.nil_append, List.append_nil, List.cons_append, hn, s1, s2, s8, s11, s12, hw1, hw2, hrem1, hw3, hrem2, nlen_nat hidx, hF1 M hM, hF2 M hM]; done) | (simp only [sev_tmp, sev_const, sev_func, sg_eq, sg_ne, sp_n, sp_none, Nat.reduceLT, ne_eq, Nat.reduceEqDiff, not_false_eq_true, gd, nth, want_free, want_slot, beqB, List.map_cons, List.map_nil, Array.toList_empty, List.nil_append, List.append_nil, List.cons_append, hn, s1, s2, s8, s11, s12, hw1, hw2, hrem1, hw3, hrem2, nlen_nat hidx, hF1 M hM, hF2 M hM]; rfl)) (by assumption) (fun M hM => by simp only [sev_tmp, sg_ne, ne_eq, Nat.reduceEqDiff, not_false_eq_true, fx, s8] <;> rfl) (by rfl) (by first | exact VQ.int _ _ | exact VQ.bool _ | exact VQ.ptr _ _ | exact VQ.slice _ _ _ | exact VQ.func (by simp [vq_int, vq_ptr, vq_slice]) (by simp [vq_int, vq_ptr, vq_slice]) | exact VQ.agg (by simp [vq_int, vq_ptr, vq_slice]) | exact VQ.tuple (by simp [vq_int, vq_ptr, vq_slice])) ?_
            refine DrL.read (by first | rfl | kernel_rfl) (by first | rfl | (simp only [sev_tmp, sev_const, sev_func, sg_eq, sg_ne, sp_n, sp_none, Nat.reduceLT, ne_eq, Nat.reduceEqDiff, not_false_eq_true, gd, nth, want_free, want_slot, beqB, List.map_cons, List.map_nil, Array.toList_empty, List.nil_append, List.append_nil, List.cons_append, hn, s1, s2, s8, s11, s12, hw1, hw2, hrem1, hw3, hrem2, nlen_nat hidx, hF1 M hM, hF2 M hM]; done) | (simp only [sev_tmp, sev_const, sev_func, sg_eq, sg_ne, sp_n, sp_none, Nat.reduceLT, ne_eq, Nat.reduceEqDiff, not_false_eq_true, gd, nth, want_free, want_slot, beqB, List.map_cons, List.map_nil, Array.toList_empty, List.nil_append, List.append_nil, List.cons_append, hn, s1, s2, s8, s11, s12, hw1, hw2, hrem1, hw3, hrem2, nlen_nat hidx, hF1 M hM, hF2 M hM]; rfl)) (by assumption) (fun M hM => by simp only [sev_tmp, sg_eq, sg_ne, sp_n, Nat.reduceLT, ne_eq, Nat.reduceEqDiff, not_false_eq_true, fx, hn, hrem1] <;> rfl) (by rfl) (by first | exact VQ.int _ _ | exact VQ.bool _ | exact VQ.ptr _ _ | exact VQ.slice _ _ _ | exact VQ.func (by simp [vq_int, vq_ptr, vq_slice]) (by simp [vq_int, vq_ptr, vq_slice]) | exact VQ.agg (by simp [vq_int, vq_ptr, vq_slice]) | exact VQ.tuple (by simp [vq_int, vq_ptr, vq_slice])) ?_
            refine DrL.read (by first | rfl | kernel_rfl) (by first | rfl | (simp only [sev_tmp, sev_const, sev_func, sg_eq, sg_ne, sp_n, sp_none, Nat.reduceLT, ne_eq, Nat.reduceEqDiff, not_false_eq_true, gd, nth, want_free, want_slot, beqB, List.map_cons, List.map_nil, Array.toList_empty, List.nil_append, List.append_nil, List.cons_append, hn, s1, s2, s8, s11, s12, hw1, hw2, hrem1, hw3, hrem2, nlen_nat hidx, hF1 M hM, hF2 M hM]; done) | (simp only [sev_tmp, sev_const, sev_func, sg_eq, sg_ne, sp_n, sp_none, Nat.reduceLT, ne_eq, Nat.reduceEqDiff, not_false_eq_true, gd, nth, want_free, want_slot, beqB, List.map_cons, List.map_nil, Array.toList_empty, List.nil_append, List.append_nil, List.cons_append, hn, s1, s2, s8, s11, s12, hw1, hw2, hrem1, hw3, hrem2, nlen_nat hidx, hF1 M hM, hF2 M hM]; rfl)) (by assumption) (fun M hM => by simp only [sev_tmp, sg_ne, ne_eq, Nat.reduceEqDiff, not_false_eq_true, fx, s8] <;> rfl) (by rfl) (by first | exact VQ.int _ _ | exact VQ.bool _ | exact VQ.ptr _ _ | exact VQ.slice _ _ _ | exact VQ.func (by simp [vq_int, vq_ptr, vq_slice]) (by simp [vq_int, vq_ptr, vq_slice]) | exact VQ.agg (by simp [vq_int, vq_ptr, vq_slice]) | exact VQ.tuple (by simp [vq_int, vq_ptr, vq_slice])) ?_
            refine DrL.read (by first | rfl | kernel_rfl) (by first | rfl | (simp only [sev_tmp, sev_const, sev_func, sg_eq, sg_ne, sp_n, sp_none, Nat.reduceLT, ne_eq, Nat.reduceEqDiff, not_false_eq_true, gd, nth, want_free, want_slot, beqB, List.map_cons, List.map_nil, Array.toList_empty, List.nil_append, List.append_nil, List.cons_append, hn, s1, s2, s8, s11, s12, hw1, hw2, hrem1, hw3, hrem2, nlen_nat hidx, hF1 M hM, hF2 M hM]; done) | (simp only [sev_tmp, sev_const, sev_func, sg_eq, sg_ne, sp_n, sp_none, Nat.reduceLT, ne_eq, Nat.reduceEqDiff, not_false_eq_true, gd, nth, want_free, want_slot, beqB, List.map_cons, List.map_nil, Array.toList_empty, List.nil_append, List.append_nil, List.cons_append, hn, s1, s2, s8, s11, s12, hw1, hw2, hrem1, hw3, hrem2, nlen_nat hidx, hF1 M hM, hF2 M hM]; rfl)) (by assumption) (fun M hM => by simp only [sev_tmp, sg_eq, sg_ne, sp_n, Nat.reduceLT, ne_eq, Nat.reduceEqDiff, not_false_eq_true, fx, bin_add, hn, hw3] <;> rfl) (by rfl) (by first | exact VQ.int _ _ | exact VQ.bool _ | exact VQ.ptr _ _ | exact VQ.slice _ _ _ | exact VQ.func (by simp [vq_int, vq_ptr, vq_slice]) (by simp [vq_int, vq_ptr, vq_slice]) | exact VQ.agg (by simp [vq_int, vq_ptr, vq_slice]) | exact VQ.tuple (by simp [vq_int, vq_ptr, vq_slice])) ?_
            refine DrL.read (by first | rfl | kernel_rfl) (by first | rfl | (simp only [sev_tmp, sev_const, sev_func, sg_eq, sg_ne, sp_n, sp_none, Nat.reduceLT, ne_eq, Nat.reduceEqDiff, not_false_eq_true, gd, nth, want_free, want_slot, beqB, List.map_cons, List.map_nil, Array.toList_empty, List.nil_append, List.append_nil, List.cons_append, hn, s1, s2, s8, s11, s12, hw1, hw2, hrem1, hw3, hrem2, nlen_nat hidx, hF1 M hM, hF2 M hM]; done) | (simp only [sev_tmp, sev_const, sev_func, sg_eq, sg_ne, sp_n, sp_none, Nat.reduceLT, ne_eq, Nat.reduceEqDiff, not_false_eq_true, gd, nth, want_free, want_slot, beqB, List.map_cons, List.map_nil, Array.toList_empty, List.nil_append, List.append_nil, List.cons_append, hn, s1, s2, s8, s11, s12, hw1, hw2, hrem1, hw3, hrem2, nlen_nat hidx, hF1 M hM, hF2 M hM]; rfl)) (by assumption) (fun M hM => by simp only [sev_tmp, sg_ne, ne_eq, Nat.reduceEqDiff, not_false_eq_true, fx, s8] <;> rfl) (by rfl) (by first | exact VQ.int _ _ | exact VQ.bool _ | exact VQ.ptr _ _ | exact VQ.slice _ _ _ | exact VQ.func (by simp [vq_int, vq_ptr, vq_slice]) (by simp [vq_int, vq_ptr, vq_slice]) | exact VQ.agg (by simp [vq_int, vq_ptr, vq_slice]) | exact VQ.tuple (by simp [vq_int, vq_ptr, vq_slice])) ?_
            refine DrL.read (by first | rfl | kernel_rfl) (by first | rfl | (simp only [sev_tmp, sev_const, sev_func, sg_eq, sg_ne, sp_n, sp_none, Nat.reduceLT, ne_eq, Nat.reduceEqDiff, not_false_eq_true, gd, nth, want_free, want_slot, beqB, List.map_cons, List.map_nil, Array.toList_empty, List.nil_append, List.append_nil, List.cons_append, hn, s1, s2, s8, s11, s12, hw1, hw2, hrem1, hw3, hrem2, nlen_nat hidx, hF1 M hM, hF2 M hM]; done) | (simp only [sev_tmp, sev_const, sev_func, sg_eq, sg_ne, sp_n, sp_none, Nat.reduceLT, ne_eq, Nat.reduceEqDiff, not_false_eq_true, gd, nth, want_free, want_slot, beqB, List.map_cons, List.map_nil, Array.toList_empty, List.nil_append, List.append_nil, List.cons_append, hn, s1, s2, s8, s11, s12, hw1, hw2, hrem1, hw3, hrem2, nlen_nat hidx, hF1 M hM, hF2 M hM]; rfl)) (by assumption) (fun M hM => by simp only [sev_tmp, sg_eq, sg_ne, sp_n, Nat.reduceLT, ne_eq, Nat.reduceEqDiff, not_false_eq_true, fx, hn, hrem2] <;> rfl) (by rfl) (by first | exact VQ.int _ _ | exact VQ.bool _ | exact VQ.ptr _ _ | exact VQ.slice _ _ _ | exact VQ.func (by simp [vq_int, vq_ptr, vq_slice]) (by simp [vq_int, vq_ptr, vq_slice]) | exact VQ.agg (by simp [vq_int, vq_ptr, vq_slice]) | exact VQ.tuple (by simp [vq_int, vq_ptr, vq_slice])) ?_
            refine DrL.read (by first | rfl | kernel_rfl) (by first | rfl | (simp only [sev_tmp, sev_const, sev_func, sg_eq, sg_ne, sp_n, sp_none, Nat.reduceLT, ne_eq, Nat.reduceEqDiff, not_false_eq_true, gd, nth, want_free, want_slot, beqB, List.map_cons, List.map_nil, Array.toList_empty, List.nil_append, List.append_nil, List.cons_append, hn, s1, s2, s8, s11, s12, hw1, hw2, hrem1, hw3, hrem2, nlen_nat hidx, hF1 M hM, hF2 M hM]; done) | (simp only [sev_tmp, sev_const, sev_func, sg_eq, sg_ne, sp_n, sp_none, Nat.reduceLT, ne_eq, Nat.reduceEqDiff, not_false_eq_true, gd, nth, want_free, want_slot, beqB, List.map_cons, List.map_nil, Array.toList_empty, List.nil_append, List.append_nil, List.cons_append, hn, s1, s2, s8, s11, s12, hw1, hw2, hrem1, hw3, hrem2, nlen_nat hidx, hF1 M hM, hF2 M hM]; rfl)) (by assumption) (fun M hM => by simp only [sev_tmp, sg_eq, sg_ne, sp_n, Nat.reduceLT, ne_eq, Nat.reduceEqDiff, not_false_eq_true, fx, idx, Nat.mul_one, eo22, hn, nlen_nat hidx] <;> rfl) (by rfl) (by first | exact VQ.int _ _ | exact VQ.bool _ | exact VQ.ptr _ _ | exact VQ.slice _ _ _ | exact VQ.func (by simp [vq_int, vq_ptr, vq_slice]) (by simp [vq_int, vq_ptr, vq_slice]) | exact VQ.agg (by simp [vq_int, vq_ptr, vq_slice]) | exact VQ.tuple (by simp [vq_int, vq_ptr, vq_slice])) ?_
            refine DrL.read (by first | rfl | kernel_rfl) (by first | rfl | (simp only [sev_tmp, sev_const, sev_func, sg_eq, sg_ne, sp_n, sp_none, Nat.reduceLT, ne_eq, Nat.reduceEqDiff, not_false_eq_true, gd, nth, want_free, want_slot, beqB, List.map_cons, List.map_nil, Array.toList_empty, List.nil_append, List.append_nil, List.cons_append, hn, s1, s2, s8, s11, s12, hw1, hw2, hrem1, hw3, hrem2, nlen_nat hidx, hF1 M hM, hF2 M hM]; done) | (simp only [sev_tmp, sev_const, sev_func, sg_eq, sg_ne, sp_n, sp_none, Nat.reduceLT, ne_eq, Nat.reduceEqDiff, not_false_eq_true, gd, nth, want_free, want_slot, beqB, List.map_cons, List.map_nil, Array.toList_empty, List.nil_append, List.append_nil, List.cons_append, hn, s1, s2, s8, s11, s12, hw1, hw2, hrem1, hw3, hrem2, nlen_nat hidx, hF1 M hM, hF2 M hM]; rfl)) (by assumption) (fun M hM => by simp only [sev_tmp, sg_eq, sp_n, Nat.reduceLT, fx, ld, adr_p, tk3, hn, hF2 M hM] <;> rfl) (by rfl) (by first | exact VQ.int _ _ | exact VQ.bool _ | exact VQ.ptr _ _ | exact VQ.slice _ _ _ | exact VQ.func (by simp [vq_int, vq_ptr, vq_slice]) (by simp [vq_int, vq_ptr, vq_slice]) | exact VQ.agg (by simp [vq_int, vq_ptr, vq_slice]) | exact VQ.tuple (by simp [vq_int, vq_ptr, vq_slice])) ?_
            refine DrL.float (by rfl) (by rfl) (by rfl) (fb22_1 (v := .int .i64 (atL st ro (a + i))) (by simp only [sev_tmp, sg_eq, sp_n, Nat.reduceLT, hn]) rfl) ?_
            have hnb : Canon.look (bump A' 21).objs (A'.next + 17) = none := hw'.none (by omega)
            obtain ⟨B2, p1, hxB2, eB2, lB2, kB2⟩ := place_row (N := 0) (Nx.refl hxB.wf 0) (b := A'.next + 17) (Nat.zero_le _) (by rw [bump_next]; omega) hnb [.int .i64 (atL st ro (a + i))] 3 1 1
            rw [bump_next] at eB2
            have F2 := hF B2 (kB2 _ (by omega)) (kB2 _ (by omega))
            have hg2 : Gr B2 ya G.next (redR (atL st ro) a i) := (hgy.nx (n := 0) hw' hxB).ext (by rw [bump_next]; omega) fun b' hb' => by
              by_cases hbb : b' = A'.next + 17
              · exact .inl (hbb ▸ hnb)
              · exact .inr (kB2 _ hbb)
            have hlen := redR_len (atL st ro) a i
            obtain ⟨B3, q1, n3, w3, hg3, kp3, _⟩ := gr_push hxB2.wf hg2 (a2 := some ⟨A'.next + 17, 0, none⟩) (c2 := 1) (b2 := A'.next + 17) (x := atL st ro (a + i)) rfl (by rw [cl_of lB2 rfl]; rfl) (by omega)
            rw [hlen] at q1
            have hsnoc : redR (atL st ro) a i ++ [atL st ro (a + i)] = redR (atL st ro) a (i + 1) := by simp [redR, List.range_succ]
            rw [hsnoc] at hg3
            have L3 : ∀ b', b' < G.next → Canon.look B3.objs b' = Canon.look A'.objs b' := fun b' hb' => by
              rw [kp3 b' (by omega) (fun y hy => by obtain ⟨_, q, _⟩ := hg2.sl y hy; omega), kB2 _ (by omega)]
              rfl
            have F3 := hF B3 (L3 _ (by omega)) (L3 _ (by omega))
            refine DrL.eff (by rfl) (by rfl) (pd1 := [(17, ⟨[.int .i64 (atL st ro (a + i))], 3, .sl 1 1⟩)]) (pd2 := []) (by kernel_rfl) (by kernel_rfl) (ms0 := [bump A' 21]) (A0 := B2) (by simp only [placeAll, p1]) (fun M hM => by rw [List.mem_singleton] at hM; rw [hM]; exact FB) F2 (by rfl)
              (v := .slice (some ⟨B2.next, 0, none⟩) (i + 1) (i + 1)) (A1 := B3) (opRun_op rfl (by simp only [sev_tmp, sg_eq, sg_ne, sp_n, Nat.reduceLT, ne_eq, Nat.reduceEqDiff, not_false_eq_true, Nat.zero_add, Nat.reduceAdd, hn, ae_apd, apd_slice, FK.val]; exact q1)) ?_
            refine DrL.read (by first | rfl | kernel_rfl) (by first | rfl | (simp only [sev_tmp, sev_const, sev_func, sg_eq, sg_ne, sp_n, sp_none, Nat.reduceLT, ne_eq, Nat.reduceEqDiff, not_false_eq_true, gd, nth, want_free, want_slot, beqB, List.map_cons, List.map_nil, Array.toList_empty, List.nil_append, List.append_nil, List.cons_append, hn, s11]; done) | (simp only [sev_tmp, sev_const, sev_func, sg_eq, sg_ne, sp_n, sp_none, Nat.reduceLT, ne_eq, Nat.reduceEqDiff, not_false_eq_true, gd, nth, want_free, want_slot, beqB, List.map_cons, List.map_nil, Array.toList_empty, List.nil_append, List.append_nil, List.cons_append, hn, s11]; rfl)) (by assumption) (fun M hM => by simp only [sev_tmp, sg_ne, ne_eq, Nat.reduceEqDiff, not_false_eq_true, fx, fad, adr_p, Nat.zero_add, Nat.reduceAdd, fo24_2, s11] <;> rfl) (by rfl) (by first | exact VQ.int _ _ | exact VQ.bool _ | exact VQ.ptr _ _ | exact VQ.slice _ _ _ | exact VQ.func (by simp [vq_int, vq_ptr, vq_slice]) (by simp [vq_int, vq_ptr, vq_slice]) | exact VQ.agg (by simp [vq_int, vq_ptr, vq_slice]) | exact VQ.tuple (by simp [vq_int, vq_ptr, vq_slice])) ?_
            have l3 : Canon.look B3.objs B.next = _ := (L3 _ (by omega)).trans lA'
            obtain ⟨B4, v1, v2⟩ := st1_upd (o := 2) (v := .slice (some ⟨B2.next, 0, none⟩) (i + 1) (i + 1)) l3 rfl (by simp) rfl
            refine DrL.eff (by rfl) (by rfl) (pd1 := []) (pd2 := []) (by kernel_rfl) (by kernel_rfl) (ms0 := []) (A0 := B3) rfl (fun _ h => by cases h) F3 (by rfl) (v := undef) (A1 := B4) (opRun_op rfl (fx_ok (by rfl) (by simp only [sev_tmp, sg_eq, sg_ne, sp_n, Nat.reduceLT, ne_eq, Nat.reduceEqDiff, not_false_eq_true, fx, str, adr_p, Nat.zero_add, Nat.reduceAdd, tk22, hn, v1]))) ?_
            refine DrL.nil ⟨by rfl, B4, by rfl, ?_⟩
            (repeat (first | refine Rn.seq hc ?_ | refine Rn.skip hc ?_ | refine Rn.block hc ?_ | refine Rn.inBlock hc ?_ | refine Rn.scope hc ?_ | refine Rn.inScope hc ?_))
            refine Rn.reg hc rfl ?_
            simp only [sev_tmp, sev_const, sg_eq, sg_ne, sp_n, sp_none, Nat.reduceLT, ne_eq, Nat.reduceEqDiff, not_false_eq_true, gd, want_free, rops, fx, bin_add, Nat.zero_add, Option.some.injEq, exists_eq_left', Nat.reduceAdd, hn, s87, wrap_succ (show i < 9223372036854775807 by omega)]
            (repeat (first | refine Rn.seq hc ?_ | refine Rn.skip hc ?_ | refine Rn.block hc ?_ | refine Rn.inBlock hc ?_ | refine Rn.scope hc ?_ | refine Rn.inScope hc ?_))
            have l4 : Canon.look B4.objs B.next = some ⟨.cells #[.int .i64 m, .slice xa a a, .slice (some ⟨B2.next, 0, none⟩) (i + 1) (i + 1)] 24, false, 0⟩ := by
              obtain ⟨c, t, f, g, e, r1, r2, _⟩ := v2.at'
              rw [l3] at r1
              cases r1
              exact r2
            have hn4 := v2.next
            refine ih _ _ _ (by omega) ⟨some ⟨B2.next, 0, none⟩, i + 1, by omega, rfl, by omega, (v2.nx w3 (Nat.zero_le _)).wf, fun b hb hne => ?_, (hg3.off v2 (by omega)).mono (by omega), l4, by simp only [sp_n, hn], by simp only [sg_ne, ne_eq, Nat.reduceEqDiff, not_false_eq_true, s1], by simp only [sg_ne, ne_eq, Nat.reduceEqDiff, not_false_eq_true, s2], by simp only [sg_ne, ne_eq, Nat.reduceEqDiff, not_false_eq_true, s6], by simp only [sg_ne, ne_eq, Nat.reduceEqDiff, not_false_eq_true, s8], by simp only [sg_ne, ne_eq, Nat.reduceEqDiff, not_false_eq_true, s11], by simp only [sg_ne, ne_eq, Nat.reduceEqDiff, not_false_eq_true, s12], by simp only [sg_ne, ne_eq, Nat.reduceEqDiff, not_false_eq_true, s86], by simp only [sg_eq, sp_n, Nat.reduceLT, hn]⟩
            rw [v2.off _ hne, L3 _ hb]
            exact hkp b hb hne
          · have hd : decide ((i : Int) < (d : Int)) = false := by simp; omega
            have hid : i = d := by omega
            subst hid
            clear ih
            refine Rn.reg hc rfl ?_
            simp only [sev_tmp, gd, want_free, rops, fx, bin_lss, Option.some.injEq, exists_eq_left', s86, s87, hd]
            (repeat (first | refine Rn.seq hc ?_ | refine Rn.skip hc ?_ | refine Rn.block hc ?_ | refine Rn.inBlock hc ?_ | refine Rn.scope hc ?_ | refine Rn.inScope hc ?_))
            refine Rn.condE hc rfl ?_
            simp only [sev_tmp, sg_eq, Nat.reduceLT, Value.bool.injEq, exists_eq_left', hn]
            (repeat (first | refine Rn.seq hc ?_ | refine Rn.skip hc ?_ | refine Rn.block hc ?_ | refine Rn.inBlock hc ?_ | refine Rn.scope hc ?_ | refine Rn.inScope hc ?_))
            refine Rn.exit hc rfl ?_
            (repeat (first | refine Rn.seq hc ?_ | refine Rn.skip hc ?_ | refine Rn.block hc ?_ | refine Rn.inBlock hc ?_ | refine Rn.scope hc ?_ | refine Rn.inScope hc ?_))
            have c0 : cl A' B.next 0 = some (.int .i64 m) := by rw [cl_of lA' rfl]; rfl
            have c1 : cl A' B.next 1 = some (.slice xa a a) := by rw [cl_of lA' rfl]; rfl
            have c2 : cl A' B.next 2 = some (.slice ya i i) := by rw [cl_of lA' rfl]; rfl
            have lR : Canon.look A'.objs A.next = _ := (hkp _ (by omega) (by omega)).trans ((hG0 _ (by omega)).trans l1)
            obtain ⟨A6, c6, q1, q2, q3, q4⟩ := sts_upd (l := [.int .i64 m, .slice xa a a, .slice ya i i]) (o := 0) lR rfl (by simp) rfl
            have g0 : cl A6 A.next 0 = some (.int .i64 m) := by rw [q2.cl, q4]; rfl
            have g1 : cl A6 A.next 1 = some (.slice xa a a) := by rw [q2.cl, q4]; rfl
            have g2 : cl A6 A.next 2 = some (.slice ya i i) := by rw [q2.cl, q4]; rfl
            have hn6 := q2.next
            refine Rn.reg hc rfl ?_
            simp only [sev_tmp, sev_const, sg_eq, sg_ne, sp_n, sp_none, Nat.reduceLT, ne_eq, Nat.reduceEqDiff, not_false_eq_true, gd, want_free, rops, fx, ld, str, adr_p, cls, Nat.zero_add, Option.some.injEq, exists_eq_left', Nat.reduceAdd, tk24, hn, s6, s11, c0, c1, c2, q1, List.size_toArray, List.length_cons, List.length_nil, Nat.beq_refl]
            (repeat (first | refine Rn.seq hc ?_ | refine Rn.skip hc ?_ | refine Rn.block hc ?_ | refine Rn.inBlock hc ?_ | refine Rn.scope hc ?_ | refine Rn.inScope hc ?_))
            refine Rn.ret (endQ_ct rfl (v := .agg #[.int .i64 m, .slice xa a a, .slice ya i i]) ?_ ⟨a, i, hra, hal, hdl, ⟨by omega, (q2.nx hw' (Nat.zero_le _)).wf, fun b hb => by rw [q2.off _ (by omega), hkp _ (by omega) (by omega), hG0 _ (by omega), hx1.keep _ hb]⟩, ?_⟩)
            · simp only [sg_ne, ne_eq, Nat.reduceEqDiff, not_false_eq_true, ld, adr_p, cls, Nat.zero_add, Nat.reduceAdd, tk24, s6, g0, g1, g2]
            · rw [if_neg (by omega)]
              refine ⟨xa, ya, by simp only [sg_eq, sp_n, Nat.reduceLT, hn], ?_, (hgy.off q2 (by omega)).mono (by omega)⟩
              refine (((hgE.off u2 (by omega)).ext (by omega) fun b' hb' => ?_).off q2 (by omega)).mono (by omega)
              by_cases hlt' : b' < G.next
              · exact .inr (hkp b' hlt' (by omega))
              · exact .inl (wG.none (by omega))
      · intro _ _ _ h
        exact h.elim
  · intro _ _ _ h
    exact h.elim
end Go.Proofs.Ytdaljohmfnfgiaa
/- Least; a modulus out of a sack; whether a stream is right. No condition. -/
namespace Go.Proofs.Ytdaljohmfnfgiaa
open Go Go.RowKit Go.Proofs.Ytdaljohmfnfgiaa.Canon
set_option maxRecDepth 20000


theorem least_of {A : AHeap} (hw : WF A) {m : Int} {sa ra : Option Addr} {sc rc : Nat} {st ro : List Int} (hs : Ints A sa 0 A.next st) (hr : Ints A ra 0 A.next ro) (ls : st.length < 4611686018427387904) (lr : ro.length < 4611686018427387904) (hsl : Sl A sa 0) (hsc : st.length ≤ sc) :
    Con Try.prog 18 [.agg #[.int .i64 m, .slice sa st.length sc, .slice ra ro.length rc]] A (fun v A1 => (errL m st ro = 0 → ∃ a p, Red (atL st ro) a p ∧ a ≤ st.length ∧ p ≤ ro.length ∧ LeastQ A m (atL st ro) a p v A1) ∧ (errL m st ro ≠ 0 → v = .tuple #[.agg #[.int .i64 0, .slice none 0 0, .slice none 0 0], .int .i64 (errL m st ro)] ∧ Nx A.next A A1)) := by
  refine con_of_rn hc Try.func18 rfl (Nat.le_of_ble_eq_true rfl) ?_
  obtain ⟨A0, e0, hx0, hn0, b0, b1, b2⟩ := box3 hw (.int .i64 m) (.slice sa st.length sc) (.slice ra ro.length rc) 24
  have hx1 : Nx A0.next A0 (A0.push (.cells #[.int .i64 0, .slice none 0 0, .slice none 0 0] 24)) := (Nx.refl hx0.wf _).push (Nat.le_refl _) _
  have l1 := look_push_eq A0 (.cells #[.int .i64 0, .slice none 0 0, .slice none 0 0] 24)
  have hn1 : (A0.push (.cells #[.int .i64 0, .slice none 0 0, .slice none 0 0] 24)).next = A0.next + 1 := rfl
  generalize e1 : A0.push (.cells #[.int .i64 0, .slice none 0 0, .slice none 0 0] 24) = A1 at hx1 l1 hn1
  obtain ⟨A3, e3, hx3, hn3, c0, c1, c2⟩ := box3 hx1.wf (.int .i64 m) (.slice sa st.length sc) (.slice ra ro.length rc) 24
  have hx01 : Nx A.next A A1 := hx0.trans (hx1.le hx0.next)
  have hx03 : Nx A.next A A3 := hx01.trans (hx3.le hx01.next)
  have hrow : LRow A3 (some ⟨A1.next, 0, none⟩) [⟨m, sa, sc, st, ra, rc, ro⟩] := fun i hi => by
    have : i = 0 := by simp at hi; omega
    subst this
    exact ⟨⟨(hs.nx hx03 (Nat.le_refl _)).mono (Nat.le_refl _) hx03.next, (hr.nx hx03 (Nat.le_refl _)).mono (Nat.le_refl _) hx03.next, ls, lr⟩, _, _, rfl, by omega, c0, c1, c2⟩
  have b0' := (hx1.cl (show A.next < A0.next by omega) 0).trans b0
  have b1' := (hx1.cl (show A.next < A0.next by omega) 1).trans b1
  have b2' := (hx1.cl (show A.next < A0.next by omega) 2).trans b2
  rw [s_in1]
  (repeat (first | refine Rn.seq hc ?_ | refine Rn.skip hc ?_ | refine Rn.block hc ?_ | refine Rn.inBlock hc ?_ | refine Rn.scope hc ?_ | refine Rn.inScope hc ?_))
  refine Rn.reg hc rfl ?_
  simp only [sev_tmp, sev_const, sg_eq, Nat.reduceLT, ne_eq, gd, want_free, rops, fx, Option.some.injEq, exists_eq_left', Value.cells, show Try.f18.ntmps = 21 from rfl, e0, ze24, e1]
  (repeat (first | refine Rn.seq hc ?_ | refine Rn.skip hc ?_ | refine Rn.block hc ?_ | refine Rn.inBlock hc ?_ | refine Rn.scope hc ?_ | refine Rn.inScope hc ?_))
  refine Rn.region hc fun K hK => ?_
  refine Wo.run hc 2 rfl rfl rfl ?_
  simp (maxSteps := 2000000) only [List.drop_zero, List.take_succ_cons, List.take_zero, sev_tmp, sg_eq, sg_ne, sp_n, Nat.reduceLT, ne_eq, Nat.reduceEqDiff, not_false_eq_true, gd, want_free, rops, fx, ld, adr_p, cls, Nat.zero_add, Option.some.injEq, exists_eq_left', Value.cells, Nat.reduceAdd, tk24, b0', b1', b2', bs46_1, List.size_toArray, List.length_cons, List.length_nil, e3]
  refine Wo.call hc (by rfl) (by rfl) ⟨by rfl, by rfl⟩ (xs := [.slice (some ⟨A1.next, 0, none⟩) 1 1]) (by first | rfl | (simp only [sev_tmp, sev_const, sev_func, sg_eq, sg_ne, sp_n, sp_none, Nat.reduceLT, ne_eq, Nat.reduceEqDiff, not_false_eq_true, gd, nth, want_free, want_slot, beqB, List.map_cons, List.map_nil, Array.toList_empty, List.nil_append, List.append_nil, List.cons_append]; done) | (simp only [sev_tmp, sev_const, sev_func, sg_eq, sg_ne, sp_n, sp_none, Nat.reduceLT, ne_eq, Nat.reduceEqDiff, not_false_eq_true, gd, nth, want_free, want_slot, beqB, List.map_cons, List.map_nil, Array.toList_empty, List.nil_append, List.append_nil, List.cons_append]; rfl)) (by first | rfl | (simp only [sev_tmp, sev_const, sev_func, sg_eq, sg_ne, sp_n, sp_none, Nat.reduceLT, ne_eq, Nat.reduceEqDiff, not_false_eq_true, gd, nth, want_free, want_slot, beqB, List.map_cons, List.map_nil, Array.toList_empty, List.nil_append, List.append_nil, List.cons_append]; done) | (simp only [sev_tmp, sev_const, sev_func, sg_eq, sg_ne, sp_n, sp_none, Nat.reduceLT, ne_eq, Nat.reduceEqDiff, not_false_eq_true, gd, nth, want_free, want_slot, beqB, List.map_cons, List.map_nil, Array.toList_empty, List.nil_append, List.append_nil, List.cons_append]; rfl)) (by first | rfl | (simp only [sev_tmp, sev_const, sev_func, sg_eq, sg_ne, sp_n, sp_none, Nat.reduceLT, ne_eq, Nat.reduceEqDiff, not_false_eq_true, gd, nth, want_free, want_slot, beqB, List.map_cons, List.map_nil, Array.toList_empty, List.nil_append, List.append_nil, List.cons_append]; done) | (simp only [sev_tmp, sev_const, sev_func, sg_eq, sg_ne, sp_n, sp_none, Nat.reduceLT, ne_eq, Nat.reduceEqDiff, not_false_eq_true, gd, nth, want_free, want_slot, beqB, List.map_cons, List.map_nil, Array.toList_empty, List.nil_append, List.append_nil, List.cons_append]; rfl)) (Con.mono (check_all hx3.wf (l := [⟨m, sa, sc, st, ra, rc, ro⟩]) hrow (by simp)) ?_)
  rintro w A4 ⟨rfl, hx4⟩
  rw [errs_one, show (⟨m, sa, sc, st, ra, rc, ro⟩ : Las).err = errL m st ro from rfl]
  refine Wo.run hc 1 rfl rfl rfl ?_
  simp (maxSteps := 2000000) only [List.drop_zero, List.drop_succ_cons, List.take_succ_cons, List.take_zero, sev_tmp, sg_eq, sp_n, Nat.reduceLT, gd, want_free, rops, fx, Option.some.injEq, exists_eq_left', Nat.reduceAdd]
  refine Wo.done hc rfl (hK _ _ ?_)
  clear hK
  (repeat (first | refine Rn.seq hc ?_ | refine Rn.skip hc ?_ | refine Rn.block hc ?_ | refine Rn.inBlock hc ?_ | refine Rn.scope hc ?_ | refine Rn.inScope hc ?_))
  have hx34 : Nx A1.next A1 A4 := hx3.trans (hx4.le hx3.next)
  have hx04 : Nx A.next A A4 := hx01.trans (hx34.le hx01.next)
  have n4 : A0.next < A4.next := by have := hx4.next; omega
  have l4 : Canon.look A4.objs A0.next = _ := (hx34.keep _ (by omega)).trans l1
  have hst : ∀ {D : AHeap} {v0 v1 v2 : Value}, Nx A4.next A4 D → [v0, v1, v2].all isCell = true → ∃ D', sts D A0.next 0 [v0, v1, v2] = some D' ∧ D'.next = D.next ∧ WF D' ∧ Upd D A0.next (⟨[v0, v1, v2]⟩ : Array Value) D' ∧ cl D' A0.next 0 = some v0 ∧ cl D' A0.next 1 = some v1 ∧ cl D' A0.next 2 = some v2 := fun {D v0 v1 v2} hD hv => by
    have hl := (hD.keep A0.next n4).trans l4
    obtain ⟨D', c', q1, q2, q3, q4⟩ := sts_upd (l := [v0, v1, v2]) (o := 0) hl rfl (by simp) hv
    have hc : c' = #[v0, v1, v2] := by
      refine Array.ext_getElem? fun i => ?_
      rw [q4 i]
      by_cases hi : i < 3
      · rw [if_pos ⟨Nat.zero_le _, by simpa using hi⟩]
        simp
      · rw [if_neg (by simp; omega)]
        rw [Array.getElem?_eq_none (by simp; omega), Array.getElem?_eq_none (by simp; omega)]
    subst hc
    exact ⟨D', q1, q2.next, (q2.nx hD.wf (Nat.zero_le _)).wf, q2, by rw [q2.cl]; rfl, by rw [q2.cl]; rfl, by rw [q2.cl]; rfl⟩
  by_cases he : errL m st ro = 0
  · have hd : (!decide (errL m st ro = 0)) = false := by rw [decide_eq_true he]; rfl
    refine Rn.reg hc rfl ?_
    simp only [sev_tmp, sev_const, sg_eq, sp_n, Nat.reduceLT, gd, want_free, rops, fx, bin_neq, Option.some.injEq, exists_eq_left', hd]
    (repeat (first | refine Rn.seq hc ?_ | refine Rn.skip hc ?_ | refine Rn.block hc ?_ | refine Rn.inBlock hc ?_ | refine Rn.scope hc ?_ | refine Rn.inScope hc ?_))
    refine Rn.condE hc rfl ?_
    simp only [sev_tmp, sg_eq, sp_n, Nat.reduceLT, Value.bool.injEq, exists_eq_left']
    (repeat (first | refine Rn.seq hc ?_ | refine Rn.skip hc ?_ | refine Rn.block hc ?_ | refine Rn.inBlock hc ?_ | refine Rn.scope hc ?_ | refine Rn.inScope hc ?_))
    obtain ⟨l60, l120⟩ := errL_len he
    have hp := errL_pos he
    have b0'' := (hx34.cl (show A.next < A1.next by omega) 0).trans b0'
    have b1'' := (hx34.cl (show A.next < A1.next by omega) 1).trans b1'
    have b2'' := (hx34.cl (show A.next < A1.next by omega) 2).trans b2'
    refine Rn.region hc fun K hK => ?_
    refine Wo.run hc 6 rfl rfl rfl ?_
    simp (maxSteps := 2000000) only [List.drop_zero, List.take_succ_cons, List.take_zero, sev_tmp, sg_eq, sg_ne, sp_n, Nat.reduceLT, ne_eq, Nat.reduceEqDiff, not_false_eq_true, gd, want_free, rops, fx, ld, fad, adr_p, Nat.zero_add, Nat.add_zero, Option.some.injEq, exists_eq_left', tk3, tk22, fo24_0, fo24_1, fo24_2, b0'', b1'', b2'']
    refine Wo.call hc (by rfl) (by rfl) ⟨by rfl, by rfl⟩ (xs := [.int .i64 m, .slice sa st.length sc, .slice ra ro.length rc]) (by first | rfl | (simp only [sev_tmp, sev_const, sev_func, sg_eq, sg_ne, sp_n, sp_none, Nat.reduceLT, ne_eq, Nat.reduceEqDiff, not_false_eq_true, gd, nth, want_free, want_slot, beqB, List.map_cons, List.map_nil, Array.toList_empty, List.nil_append, List.append_nil, List.cons_append]; done) | (simp only [sev_tmp, sev_const, sev_func, sg_eq, sg_ne, sp_n, sp_none, Nat.reduceLT, ne_eq, Nat.reduceEqDiff, not_false_eq_true, gd, nth, want_free, want_slot, beqB, List.map_cons, List.map_nil, Array.toList_empty, List.nil_append, List.append_nil, List.cons_append]; rfl)) (by first | rfl | (simp only [sev_tmp, sev_const, sev_func, sg_eq, sg_ne, sp_n, sp_none, Nat.reduceLT, ne_eq, Nat.reduceEqDiff, not_false_eq_true, gd, nth, want_free, want_slot, beqB, List.map_cons, List.map_nil, Array.toList_empty, List.nil_append, List.append_nil, List.cons_append]; done) | (simp only [sev_tmp, sev_const, sev_func, sg_eq, sg_ne, sp_n, sp_none, Nat.reduceLT, ne_eq, Nat.reduceEqDiff, not_false_eq_true, gd, nth, want_free, want_slot, beqB, List.map_cons, List.map_nil, Array.toList_empty, List.nil_append, List.append_nil, List.cons_append]; rfl)) (by first | rfl | (simp only [sev_tmp, sev_const, sev_func, sg_eq, sg_ne, sp_n, sp_none, Nat.reduceLT, ne_eq, Nat.reduceEqDiff, not_false_eq_true, gd, nth, want_free, want_slot, beqB, List.map_cons, List.map_nil, Array.toList_empty, List.nil_append, List.append_nil, List.cons_append]; done) | (simp only [sev_tmp, sev_const, sev_func, sg_eq, sg_ne, sp_n, sp_none, Nat.reduceLT, ne_eq, Nat.reduceEqDiff, not_false_eq_true, gd, nth, want_free, want_slot, beqB, List.map_cons, List.map_nil, Array.toList_empty, List.nil_append, List.append_nil, List.cons_append]; rfl)) (Con.mono (least_run hx4.wf ((hs.nx hx04 (Nat.le_refl _)).mono (Nat.le_refl _) hx04.next) ((hr.nx hx04 (Nat.le_refl _)).mono (Nat.le_refl _) hx04.next) (by omega) (by omega) hp (hsl.nx hw hx04) hsc) ?_)
    rintro w A5 ⟨a, p, hred, ha, hpl, hx5, hq⟩
    have hx05 : Nx A.next A A5 := hx04.trans (hx5.le hx04.next)
    by_cases hlong : 120 < p ∨ 60 < a
    · rw [if_pos hlong] at hq
      subst hq
      obtain ⟨D, q1, q2, q3, q4, g0, g1, g2⟩ := hst (v0 := .int .i64 0) (v1 := .slice none 0 0) (v2 := .slice none 0 0) hx5 rfl
      refine Wo.run hc 4 rfl rfl rfl ?_
      simp (maxSteps := 2000000) only [List.drop_zero, List.drop_succ_cons, List.take_succ_cons, List.take_zero, sev_tmp, sg_eq, sg_ne, sp_n, sp_none, Nat.reduceLT, ne_eq, Nat.reduceEqDiff, not_false_eq_true, gd, want_free, rops, fx, str, ext, adr_p, List.getElem?_toArray, List.getElem?_cons_zero, List.getElem?_cons_succ, Nat.zero_add, Option.some.injEq, exists_eq_left', Nat.reduceAdd, tk24, ext, q1, List.size_toArray, List.length_cons, List.length_nil, Nat.beq_refl]
      refine Wo.done hc rfl (hK _ _ ?_)
      clear hK
      (repeat (first | refine Rn.seq hc ?_ | refine Rn.skip hc ?_ | refine Rn.block hc ?_ | refine Rn.inBlock hc ?_ | refine Rn.scope hc ?_ | refine Rn.inScope hc ?_))
      refine Rn.ret (endQ_ct rfl (v := .agg #[.int .i64 0, .slice none 0 0, .slice none 0 0]) ?_ ⟨fun _ => ⟨a, p, hred, ha, hpl, ⟨by have := hx05.next; omega, q3, fun b hb => by rw [q4.off _ (by omega), hx05.keep _ hb]⟩, ?_⟩, fun h => absurd he h⟩)
      · simp only [sg_eq, sg_ne, sp_n, Nat.reduceLT, ne_eq, Nat.reduceEqDiff, not_false_eq_true, ld, adr_p, cls, Nat.zero_add, Nat.reduceAdd, tk24, g0, g1, g2]
      · rw [if_pos hlong]
        simp only [sg_eq, sp_n, Nat.reduceLT]
    · rw [if_neg hlong] at hq
      obtain ⟨xa, ya, rfl, hg1, hg2⟩ := hq
      obtain ⟨D, q1, q2, q3, q4, g0, g1, g2⟩ := hst (v0 := .int .i64 m) (v1 := .slice xa a a) (v2 := .slice ya p p) hx5 rfl
      refine Wo.run hc 4 rfl rfl rfl ?_
      simp (maxSteps := 2000000) only [List.drop_zero, List.drop_succ_cons, List.take_succ_cons, List.take_zero, sev_tmp, sg_eq, sg_ne, sp_n, sp_none, Nat.reduceLT, ne_eq, Nat.reduceEqDiff, not_false_eq_true, gd, want_free, rops, fx, str, ext, adr_p, List.getElem?_toArray, List.getElem?_cons_zero, List.getElem?_cons_succ, Nat.zero_add, Option.some.injEq, exists_eq_left', Nat.reduceAdd, tk24, ext, q1, List.size_toArray, List.length_cons, List.length_nil, Nat.beq_refl]
      refine Wo.done hc rfl (hK _ _ ?_)
      clear hK
      (repeat (first | refine Rn.seq hc ?_ | refine Rn.skip hc ?_ | refine Rn.block hc ?_ | refine Rn.inBlock hc ?_ | refine Rn.scope hc ?_ | refine Rn.inScope hc ?_))
      refine Rn.ret (endQ_ct rfl (v := .agg #[.int .i64 m, .slice xa a a, .slice ya p p]) ?_ ⟨fun _ => ⟨a, p, hred, ha, hpl, ⟨by have := hx05.next; omega, q3, fun b hb => by rw [q4.off _ (by omega), hx05.keep _ hb]⟩, ?_⟩, fun h => absurd he h⟩)
      · simp only [sg_eq, sg_ne, sp_n, Nat.reduceLT, ne_eq, Nat.reduceEqDiff, not_false_eq_true, ld, adr_p, cls, Nat.zero_add, Nat.reduceAdd, tk24, g0, g1, g2]
      · rw [if_neg hlong]
        exact ⟨xa, ya, by simp only [sg_eq, sp_n, Nat.reduceLT], (hg1.off q4 (by omega)).mono (by omega), (hg2.off q4 (by omega)).mono (by omega)⟩
  · have hd : (!decide (errL m st ro = 0)) = true := by rw [decide_eq_false he]; rfl
    obtain ⟨D, q1, q2, q3, q4, g0, g1, g2⟩ := hst (v0 := .int .i64 0) (v1 := .slice none 0 0) (v2 := .slice none 0 0) (Nx.refl hx4.wf _) rfl
    refine Rn.reg hc rfl ?_
    simp only [sev_tmp, sev_const, sg_eq, sp_n, Nat.reduceLT, gd, want_free, rops, fx, bin_neq, Option.some.injEq, exists_eq_left', hd]
    (repeat (first | refine Rn.seq hc ?_ | refine Rn.skip hc ?_ | refine Rn.block hc ?_ | refine Rn.inBlock hc ?_ | refine Rn.scope hc ?_ | refine Rn.inScope hc ?_))
    refine Rn.condE hc rfl ?_
    simp only [sev_tmp, sg_eq, sp_n, Nat.reduceLT, Value.bool.injEq, exists_eq_left']
    (repeat (first | refine Rn.seq hc ?_ | refine Rn.skip hc ?_ | refine Rn.block hc ?_ | refine Rn.inBlock hc ?_ | refine Rn.scope hc ?_ | refine Rn.inScope hc ?_))
    refine Rn.reg hc rfl ?_
    simp only [sev_tmp, sg_eq, sg_ne, sp_n, sp_none, Nat.reduceLT, ne_eq, Nat.reduceEqDiff, not_false_eq_true, gd, want_free, rops, fx, str, adr_p, Nat.zero_add, Option.some.injEq, exists_eq_left', Nat.reduceAdd, tk24, bd24_z, q1, List.size_toArray, List.length_cons, List.length_nil, Nat.beq_refl]
    (repeat (first | refine Rn.seq hc ?_ | refine Rn.skip hc ?_ | refine Rn.block hc ?_ | refine Rn.inBlock hc ?_ | refine Rn.scope hc ?_ | refine Rn.inScope hc ?_))
    refine Rn.ret (endQ_ct rfl (v := .agg #[.int .i64 0, .slice none 0 0, .slice none 0 0]) ?_ ⟨fun h => absurd h he, fun _ => ⟨by simp only [sg_eq, sp_n, Nat.reduceLT], ⟨by have := hx04.next; omega, q3, fun b hb => by rw [q4.off _ (by omega), hx04.keep _ hb]⟩⟩⟩)
    simp only [sg_eq, sg_ne, sp_n, Nat.reduceLT, ne_eq, Nat.reduceEqDiff, not_false_eq_true, ld, adr_p, cls, Nat.zero_add, Nat.reduceAdd, tk24, g0, g1, g2]
end Go.Proofs.Ytdaljohmfnfgiaa
/- Where two streams differ, and whether they are the same. No condition. -/
namespace Go.Proofs.Ytdaljohmfnfgiaa
open Go Go.RowKit Go.Proofs.Ytdaljohmfnfgiaa.Canon
set_option maxRecDepth 20000
theorem bo88 : bof Try.prog 88 = .mk (nthR [(0, 1), (1, 1)]) 2 [.int .i64 0, .int .i64 0] := by kernel_rfl
theorem ze88 : zeroOf Try.prog 88 = some (.agg #[.int .i64 0, .int .i64 0]) := by kernel_rfl
theorem un88 : ∃ f g : Field, Try.prog.underlying 88 = some (.struct #[f, g]) ∧ (f.name != "_") = true ∧ (g.name != "_") = true ∧ f.type = 3 ∧ g.type = 3 ∧ f.offset = 0 ∧ g.offset = 1 := by
  refine ⟨{ name := "first", type := 3, offset := 0, embedded := false, tag := "", pkgPath := "roundelay/lasso", byteOffset := 0 }, { name := "mod", type := 3, offset := 1, embedded := false, tag := "", pkgPath := "roundelay/lasso", byteOffset := 8 }, by kernel_rfl, by decide, by decide, rfl, rfl, rfl, rfl⟩
theorem eg88 : Try.prog.eqGuardType Try.prog.depth 88 = false := by kernel_rfl
theorem sh88 : Try.prog.stoodInHeld 88 = false := by kernel_rfl
section
variable {ρ : Operand → Value} {d : Option Tmp} {ty : TypeId} {pos : String} {af : Array Edge} {gu : Option (Nat × Bool)} {A : AHeap}
theorem bd88 {x y : Tmp} (hx : isCell (ρ (.tmp x)) = true) (hy : isCell (ρ (.tmp y)) = true) : aexec Try.prog ρ ⟨d, .build 88 #[(0, .tmp x), (1, .tmp y)], ty, pos, af, gu⟩ A = some (.agg #[ρ (.tmp x), ρ (.tmp y)], A) := by
  refine ae_build (by rfl) bo88 rfl ?_
  simp [fbld, nthR, cells_isCell hx, cells_isCell hy]
theorem so46_2 : sof Try.prog 46 2 = .mk (fun k => some (k * 3, 3)) 6 [.int .i64 0, .slice none 0 0, .slice none 0 0, .int .i64 0, .slice none 0 0, .slice none 0 0] := by kernel_rfl
theorem bs46_2 {x y : Tmp} (hx : (ρ (.tmp x)).cells.size = 3) (hy : (ρ (.tmp y)).cells.size = 3) : aexec Try.prog ρ ⟨d, .buildSlice 46 2 #[(0, .tmp x), (1, .tmp y)], ty, pos, af, gu⟩ A = some (.slice (some ⟨A.next, 0, none⟩) 2 2, A.push (.cells ⟨(ρ (.tmp x)).cells.toList ++ (ρ (.tmp y)).cells.toList⟩ 24)) := by
  refine ae_buildSlice (r := (ρ (.tmp x)).cells.toList ++ (ρ (.tmp y)).cells.toList) (by rfl) so46_2 et46 rfl ?_
  simp [fbld, hx, hy]
end
def hdS (u : Int) : Canon.Spec := fun _ _ A v A1 => v = .int .i64 u ∧ Nx A.next A A1
theorem head_stream {A : AHeap} (hw : WF A) {m : Int} {sa ra : Option Addr} {sc rc : Nat} {st ro : List Int} (hs : Ints A sa 0 A.next st) (hr : Ints A ra 0 A.next ro) (n : Nat) (hst : st.length < 4611686018427387904) (hro : 0 < ro.length) (hro2 : ro.length < 4611686018427387904) (hn : n < 9223372036854775808) :
    Con Try.prog 72 [.agg #[.int .i64 m, .slice sa st.length sc, .slice ra ro.length rc], .int .i64 (n : Int)] A (fun v A1 => v = .agg #[.int .i64 (atL st ro n), .int .i64 m] ∧ Nx A.next A A1) := by
  refine con_of_rn hc Try.func72 rfl (Nat.le_of_ble_eq_true rfl) ?_
  obtain ⟨A1, e1, hx1, hn1, b0, b1, b2⟩ := box3 hw (.int .i64 m) (.slice sa st.length sc) (.slice ra ro.length rc) 86
  have hx2 : Nx A1.next A1 (A1.push (.cells #[.int .i64 0, .int .i64 0] 88)) := (Nx.refl hx1.wf _).push (Nat.le_refl _) _
  have l2 := look_push_eq A1 (.cells #[.int .i64 0, .int .i64 0] 88)
  have hn2 : (A1.push (.cells #[.int .i64 0, .int .i64 0] 88)).next = A1.next + 1 := rfl
  generalize e2 : A1.push (.cells #[.int .i64 0, .int .i64 0] 88) = A2 at hx2 l2 hn2
  have hx02 : Nx A.next A A2 := hx1.trans (hx2.le hx1.next)
  have c0 := (hx2.cl (show A.next < A1.next by omega) 0).trans b0
  have c1 := (hx2.cl (show A.next < A1.next by omega) 1).trans b1
  have c2 := (hx2.cl (show A.next < A1.next by omega) 2).trans b2
  rw [s_in2]
  (repeat (first | refine Rn.seq hc ?_ | refine Rn.skip hc ?_ | refine Rn.block hc ?_ | refine Rn.inBlock hc ?_ | refine Rn.scope hc ?_ | refine Rn.inScope hc ?_))
  refine Rn.reg hc rfl ?_
  simp only [sev_tmp, sg_eq, sg_ne, Nat.reduceLT, ne_eq, Nat.reduceEqDiff, not_false_eq_true, gd, want_free, rops, fx, Option.some.injEq, exists_eq_left', Value.cells, show Try.f72.ntmps = 12 from rfl, e1, ze88, e2]
  (repeat (first | refine Rn.seq hc ?_ | refine Rn.skip hc ?_ | refine Rn.block hc ?_ | refine Rn.inBlock hc ?_ | refine Rn.scope hc ?_ | refine Rn.inScope hc ?_))
  obtain ⟨F, hF0, hF1, hF2, hF⟩ : ∃ F : AHeap → Prop, (∀ M, F M → cl M A.next 0 = some (.int .i64 m)) ∧ (∀ M, F M → cl M A.next 1 = some (.slice sa st.length sc)) ∧ (∀ M, F M → cl M A.next 2 = some (.slice ra ro.length rc)) ∧ (∀ M, Canon.look M.objs A.next = Canon.look A2.objs A.next → F M) :=
    ⟨fun M => cl M A.next 0 = some (.int .i64 m) ∧ cl M A.next 1 = some (.slice sa st.length sc) ∧ cl M A.next 2 = some (.slice ra ro.length rc), fun _ h => h.1, fun _ h => h.2.1, fun _ h => h.2.2, fun M q => ⟨(cl_look q).trans c0, (cl_look q).trans c1, (cl_look q).trans c2⟩⟩
  have hxB : Nx A2.next A2 (bump A2 8) := Nx.bump (Nx.refl hx2.wf _) 8
  have FB := hF (bump A2 8) rfl
  have hx0B : Nx A.next A (bump A2 8) := hx02.trans (hxB.le hx02.next)
  refine Rn.drawnL hc hx (hdS (atL st ro n)) F (E := [2]) (n := 7) (k := 8) (by kernel_rfl) (by kernel_rfl) (by rfl) (by kernel_rfl) ?_
  refine DrL.read (by first | rfl | kernel_rfl) (by first | rfl | (simp only [sev_tmp, sev_const, sev_func, sg_eq, sg_ne, sp_n, sp_none, Nat.reduceLT, ne_eq, Nat.reduceEqDiff, not_false_eq_true, gd, nth, want_free, want_slot, beqB, List.map_cons, List.map_nil, Array.toList_empty, List.nil_append, List.append_nil, List.cons_append, hF0 M hM, hF1 M hM, hF2 M hM]; done) | (simp only [sev_tmp, sev_const, sev_func, sg_eq, sg_ne, sp_n, sp_none, Nat.reduceLT, ne_eq, Nat.reduceEqDiff, not_false_eq_true, gd, nth, want_free, want_slot, beqB, List.map_cons, List.map_nil, Array.toList_empty, List.nil_append, List.append_nil, List.cons_append, hF0 M hM, hF1 M hM, hF2 M hM]; rfl)) (by assumption) (fun M hM => by simp only [sev_tmp, sg_eq, sg_ne, sp_n, Nat.reduceLT, ne_eq, Nat.reduceEqDiff, not_false_eq_true, fx, ld, adr_p, cls, Nat.zero_add, Nat.reduceAdd, tk86, hF0 M hM, hF1 M hM, hF2 M hM] <;> rfl) (by rfl) (by first | exact VQ.int _ _ | exact VQ.bool _ | exact VQ.ptr _ _ | exact VQ.slice _ _ _ | exact VQ.func (by simp [vq_int, vq_ptr, vq_slice]) (by simp [vq_int, vq_ptr, vq_slice]) | exact VQ.agg (by simp [vq_int, vq_slice]) | exact VQ.tuple (by simp [vq_int, vq_ptr, vq_slice])) ?_
  refine DrL.read (by first | rfl | kernel_rfl) (by first | rfl | (simp only [sev_tmp, sev_const, sev_func, sg_eq, sg_ne, sp_n, sp_none, Nat.reduceLT, ne_eq, Nat.reduceEqDiff, not_false_eq_true, gd, nth, want_free, want_slot, beqB, List.map_cons, List.map_nil, Array.toList_empty, List.nil_append, List.append_nil, List.cons_append, hF0 M hM, hF1 M hM, hF2 M hM]; done) | (simp only [sev_tmp, sev_const, sev_func, sg_eq, sg_ne, sp_n, sp_none, Nat.reduceLT, ne_eq, Nat.reduceEqDiff, not_false_eq_true, gd, nth, want_free, want_slot, beqB, List.map_cons, List.map_nil, Array.toList_empty, List.nil_append, List.append_nil, List.cons_append, hF0 M hM, hF1 M hM, hF2 M hM]; rfl)) (by assumption) (fun M hM => by simp only [sev_tmp, sg_eq, sg_ne, sp_n, Nat.reduceLT, ne_eq, Nat.reduceEqDiff, not_false_eq_true, fx] <;> rfl) (by rfl) (by first | exact VQ.int _ _ | exact VQ.bool _ | exact VQ.ptr _ _ | exact VQ.slice _ _ _ | exact VQ.func (by simp [vq_int, vq_ptr, vq_slice]) (by simp [vq_int, vq_ptr, vq_slice]) | exact VQ.agg (by simp [vq_int, vq_ptr, vq_slice]) | exact VQ.tuple (by simp [vq_int, vq_ptr, vq_slice])) ?_
  refine DrL.call (by kernel_rfl) (by rfl) (by assumption) (by rfl) (opRun_call (by rfl) ⟨by rfl, by rfl⟩ (by rfl) (xs := [.agg #[.int .i64 m, .slice sa st.length sc, .slice ra ro.length rc], .int .i64 (n : Int)]) (by simp only [sev_tmp, sg_eq, sg_ne, sp_n, Nat.reduceLT, ne_eq, Nat.reduceEqDiff, not_false_eq_true, List.map_cons, List.map_nil, List.nil_append, List.append_nil]) (at_stream hxB.wf ((hs.nx hx0B (Nat.le_refl _)).mono (Nat.le_refl _) hx0B.next) ((hr.nx hx0B (Nat.le_refl _)).mono (Nat.le_refl _) hx0B.next) n hst hro hro2 hn)) ?_
  rintro v B1 ⟨rfl, k1⟩
  have hk1 := k1.next
  rw [bump_next] at hk1 k1
  have F1 := hF B1 ((k1.keep _ (by omega)).trans rfl)
  refine DrL.read (by first | rfl | kernel_rfl) (by first | rfl | (simp only [sev_tmp, sev_const, sev_func, sg_eq, sg_ne, sp_n, sp_none, Nat.reduceLT, ne_eq, Nat.reduceEqDiff, not_false_eq_true, gd, nth, want_free, want_slot, beqB, List.map_cons, List.map_nil, Array.toList_empty, List.nil_append, List.append_nil, List.cons_append, hF0 M hM, bd88, isCell]; done) | (simp only [sev_tmp, sev_const, sev_func, sg_eq, sg_ne, sp_n, sp_none, Nat.reduceLT, ne_eq, Nat.reduceEqDiff, not_false_eq_true, gd, nth, want_free, want_slot, beqB, List.map_cons, List.map_nil, Array.toList_empty, List.nil_append, List.append_nil, List.cons_append, hF0 M hM, bd88, isCell]; rfl)) (by assumption) (fun M hM => by simp only [sev_tmp, sg_eq, sg_ne, sp_n, Nat.reduceLT, ne_eq, Nat.reduceEqDiff, not_false_eq_true, fx, fad, adr_p, Nat.add_zero, fo86_0] <;> rfl) (by rfl) (by first | exact VQ.int _ _ | exact VQ.bool _ | exact VQ.ptr _ _ | exact VQ.slice _ _ _ | exact VQ.func (by simp [vq_int, vq_ptr, vq_slice]) (by simp [vq_int, vq_ptr, vq_slice]) | exact VQ.agg (by simp [vq_int, vq_ptr, vq_slice]) | exact VQ.tuple (by simp [vq_int, vq_ptr, vq_slice])) ?_
  refine DrL.read (by first | rfl | kernel_rfl) (by first | rfl | (simp only [sev_tmp, sev_const, sev_func, sg_eq, sg_ne, sp_n, sp_none, Nat.reduceLT, ne_eq, Nat.reduceEqDiff, not_false_eq_true, gd, nth, want_free, want_slot, beqB, List.map_cons, List.map_nil, Array.toList_empty, List.nil_append, List.append_nil, List.cons_append, hF0 M hM, bd88, isCell]; done) | (simp only [sev_tmp, sev_const, sev_func, sg_eq, sg_ne, sp_n, sp_none, Nat.reduceLT, ne_eq, Nat.reduceEqDiff, not_false_eq_true, gd, nth, want_free, want_slot, beqB, List.map_cons, List.map_nil, Array.toList_empty, List.nil_append, List.append_nil, List.cons_append, hF0 M hM, bd88, isCell]; rfl)) (by assumption) (fun M hM => by simp only [sev_tmp, sg_eq, sp_n, Nat.reduceLT, fx, fad, adr_p, Nat.add_zero, fo24_0] <;> rfl) (by rfl) (by first | exact VQ.int _ _ | exact VQ.bool _ | exact VQ.ptr _ _ | exact VQ.slice _ _ _ | exact VQ.func (by simp [vq_int, vq_ptr, vq_slice]) (by simp [vq_int, vq_ptr, vq_slice]) | exact VQ.agg (by simp [vq_int, vq_ptr, vq_slice]) | exact VQ.tuple (by simp [vq_int, vq_ptr, vq_slice])) ?_
  refine DrL.read (by first | rfl | kernel_rfl) (by first | rfl | (simp only [sev_tmp, sev_const, sev_func, sg_eq, sg_ne, sp_n, sp_none, Nat.reduceLT, ne_eq, Nat.reduceEqDiff, not_false_eq_true, gd, nth, want_free, want_slot, beqB, List.map_cons, List.map_nil, Array.toList_empty, List.nil_append, List.append_nil, List.cons_append, hF0 M hM, bd88, isCell]; done) | (simp only [sev_tmp, sev_const, sev_func, sg_eq, sg_ne, sp_n, sp_none, Nat.reduceLT, ne_eq, Nat.reduceEqDiff, not_false_eq_true, gd, nth, want_free, want_slot, beqB, List.map_cons, List.map_nil, Array.toList_empty, List.nil_append, List.append_nil, List.cons_append, hF0 M hM, bd88, isCell]; rfl)) (by assumption) (fun M hM => by simp only [sev_tmp, sg_eq, sp_n, Nat.reduceLT, fx, ld, adr_p, tk3, hF0 M hM] <;> rfl) (by rfl) (by first | exact VQ.int _ _ | exact VQ.bool _ | exact VQ.ptr _ _ | exact VQ.slice _ _ _ | exact VQ.func (by simp [vq_int, vq_ptr, vq_slice]) (by simp [vq_int, vq_ptr, vq_slice]) | exact VQ.agg (by simp [vq_int, vq_ptr, vq_slice]) | exact VQ.tuple (by simp [vq_int, vq_ptr, vq_slice])) ?_
  refine DrL.read (by first | rfl | kernel_rfl) (by first | rfl | (simp only [sev_tmp, sev_const, sev_func, sg_eq, sg_ne, sp_n, sp_none, Nat.reduceLT, ne_eq, Nat.reduceEqDiff, not_false_eq_true, gd, nth, want_free, want_slot, beqB, List.map_cons, List.map_nil, Array.toList_empty, List.nil_append, List.append_nil, List.cons_append, hF0 M hM, bd88, isCell]; done) | (simp only [sev_tmp, sev_const, sev_func, sg_eq, sg_ne, sp_n, sp_none, Nat.reduceLT, ne_eq, Nat.reduceEqDiff, not_false_eq_true, gd, nth, want_free, want_slot, beqB, List.map_cons, List.map_nil, Array.toList_empty, List.nil_append, List.append_nil, List.cons_append, hF0 M hM, bd88, isCell]; rfl)) (by assumption) (fun M hM => by simp only [sev_tmp, sg_eq, sg_ne, sp_n, Nat.reduceLT, ne_eq, Nat.reduceEqDiff, not_false_eq_true, fx, bd88, isCell] <;> rfl) (by rfl) (by first | exact VQ.int _ _ | exact VQ.bool _ | exact VQ.ptr _ _ | exact VQ.slice _ _ _ | exact VQ.func (by simp [vq_int, vq_ptr, vq_slice]) (by simp [vq_int, vq_ptr, vq_slice]) | exact VQ.agg (by simp [vq_int]) | exact VQ.tuple (by simp [vq_int, vq_ptr, vq_slice])) ?_
  have l3 : Canon.look B1.objs A1.next = _ := (k1.keep _ (by omega)).trans l2
  obtain ⟨B2, c', q1, q2, q3, q4⟩ := sts_upd (l := [.int .i64 (atL st ro n), .int .i64 m]) (o := 0) l3 rfl (by simp) rfl
  refine DrL.eff (by rfl) (by rfl) (pd1 := []) (pd2 := []) (by kernel_rfl) (by kernel_rfl) (ms0 := []) (A0 := B1) rfl (fun _ h => by cases h) F1 (by rfl) (v := undef) (A1 := B2) (opRun_op rfl (fx_ok (by rfl) (by simp only [sev_tmp, sg_eq, sg_ne, sp_n, Nat.reduceLT, ne_eq, Nat.reduceEqDiff, not_false_eq_true, fx, str, adr_p, Nat.zero_add, Nat.reduceAdd, tk88, q1, List.size_toArray, List.length_cons, List.length_nil, Nat.beq_refl]))) ?_
  refine DrL.nil ⟨by rfl, B2, by rfl, ?_⟩
  (repeat (first | refine Rn.seq hc ?_ | refine Rn.skip hc ?_ | refine Rn.block hc ?_ | refine Rn.inBlock hc ?_ | refine Rn.scope hc ?_ | refine Rn.inScope hc ?_))
  have g0 : cl B2 A1.next 0 = some (.int .i64 (atL st ro n)) := by rw [q2.cl, q4]; rfl
  have g1 : cl B2 A1.next 1 = some (.int .i64 m) := by rw [q2.cl, q4]; rfl
  refine Rn.ret (endQ_cell rfl (v := .agg #[.int .i64 (atL st ro n), .int .i64 m]) ?_ ⟨rfl, by have := q2.next; omega, (q2.nx k1.wf (Nat.zero_le _)).wf, fun b hb => by rw [q2.off _ (by omega), k1.keep _ (by omega)]; exact hx02.keep _ hb⟩)
  simp only [sg_eq, sg_ne, sp_n, sp_none, Nat.reduceLT, ne_eq, Nat.reduceEqDiff, not_false_eq_true, ld, adr_p, cls, Nat.zero_add, tk88, g0, g1]

/-- Streams that agree for as long as both rounds together agree for ever. -/
theorem agree_all {s t : Nat → Int} {N a b : Nat} (h1 : Per s N a) (h2 : Per t N b) (h : ∀ n, n < N + a + b → s n = t n) : ∀ n, s n = t n := by
  have hb : Per s N b := by
    refine ⟨h2.pos, fun n hn => ?_⟩
    have key : ∀ k, N ≤ k → k < N + a → s (k + b) = s k := fun k hk1 hk2 => by
      rw [h (k + b) (by omega), h2.per k hk1, h k (by omega)]
    have hm := Nat.mod_lt (n - N) h1.pos
    have hle := Nat.mod_le (n - N) a
    have e1 : s n = s (N + (n - N) % a) := h1.same hn (by omega) (by
      rw [Nat.add_mod_mod]
      congr 1
      omega)
    have e2 : s (n + b) = s (N + (n - N) % a + b) := h1.same (by omega) (by omega) (by
      rw [show N + (n - N) % a + b = N + b + (n - N) % a by omega, Nat.add_mod_mod]
      congr 1
      omega)
    rw [e1, e2, key _ (by omega) (by omega)]
  intro n
  by_cases hn : n < N + b
  · exact h n (by omega)
  · have hm := Nat.mod_lt (n - N) h2.pos
    have hle := Nat.mod_le (n - N) b
    have hmod : n % b = (N + (n - N) % b) % b := by
      rw [Nat.add_mod_mod]
      congr 1
      omega
    rw [hb.same (x := n) (y := N + (n - N) % b) (by omega) (by omega) hmod, h2.same (x := n) (y := N + (n - N) % b) (by omega) (by omega) hmod]
    exact h _ (by omega)
/-- Where two streams differ. -/
def ApartQ (s t : Nat → Int) (v : Value) : Prop := (∃ n : Nat, v = .tuple #[.int .i64 (n : Int), .int .i64 0] ∧ s n ≠ t n ∧ ∀ j, j < n → s j = t j) ∨ (v = .tuple #[.int .i64 0, .int .i64 6] ∧ ∀ n, s n = t n)
theorem aeql88 {a0 a1 b0 b1 : Int} : aeql Try.prog 88 (.agg #[.int .i64 a0, .int .i64 a1]) (.agg #[.int .i64 b0, .int .i64 b1]) = some (decide (a0 = b0) && decide (a1 = b1)) := by
  obtain ⟨f, g, hu, n1, n2, t1, t2, o1, o2⟩ := un88
  simp only [aeql, eg88, deep]
  have hae : ∀ (xs : Array Value) (j : Nat), aelem Try.prog 3 xs j = xs[j]? := fun xs j => by
    unfold aelem
    simp only [un3]
  have step : ∀ (a b : Int), aeq Try.prog 7 3 (.int .i64 a) (.int .i64 b) = some (decide (a = b)) := fun a b => by
    rw [aeq3]
    by_cases h : a = b <;> simp [h]
  unfold aeq
  simp only [hu, sh88, aeqFs, n1, n2, t1, t2, o1, o2, hae, List.getElem?_toArray, List.getElem?_cons_zero, List.getElem?_cons_succ, step]
  by_cases h0 : a0 = b0 <;> by_cases h1 : a1 = b1 <;> simp [h0, h1]
theorem neq88 (a0 a1 b0 b1 : Int) (A : AHeap) : bin Try.prog .neq 88 (.agg #[.int .i64 a0, .int .i64 a1]) (.agg #[.int .i64 b0, .int .i64 b1]) A = some (.bool (!(decide (a0 = b0) && decide (a1 = b1))), A) := by
  show (aeql Try.prog 88 (.agg #[.int .i64 a0, .int .i64 a1]) (.agg #[.int .i64 b0, .int .i64 b1])).map (fun b => (Value.bool !b, A)) = _
  rw [aeql88]
  rfl
end Go.Proofs.Ytdaljohmfnfgiaa
/- Where two streams differ, and whether they are the same: what the program does. No condition. -/
namespace Go.Proofs.Ytdaljohmfnfgiaa
open Go Go.RowKit Go.Proofs.Ytdaljohmfnfgiaa.Canon
set_option maxRecDepth 20000


/-- Two streams in a row. -/
theorem row_two {A : AHeap} {x y : Las} (hx : x.ok A) (hy : y.ok A) {b : Nat} (hb : b < A.next) (hl : Canon.look A.objs b = some ⟨.cells #[.int .i64 x.m, .slice x.sa x.st.length x.sc, .slice x.ra x.ro.length x.rc, .int .i64 y.m, .slice y.sa y.st.length y.sc, .slice y.ra y.ro.length y.rc] 24, false, 0⟩) : LRow A (some ⟨b, 0, none⟩) [x, y] := fun i hi => by
  have hi2 : i < 2 := by simpa using hi
  match i, hi2 with
  | 0, _ => exact ⟨hx, _, _, rfl, hb, by rw [cl_of hl rfl]; rfl, by rw [cl_of hl rfl]; rfl, by rw [cl_of hl rfl]; rfl⟩
  | 1, _ => exact ⟨hy, _, _, rfl, hb, by rw [cl_of hl rfl]; rfl, by rw [cl_of hl rfl]; rfl, by rw [cl_of hl rfl]; rfl⟩
theorem errs_two (x y : Las) : errs [x, y] [x, y] = if x.err ≠ 0 then x.err else if y.err ≠ 0 then y.err else if x.m = y.m then 0 else 7 := by
  unfold errs
  by_cases h1 : x.err = 0
  · rw [if_pos h1, if_neg (by simp [h1])]
    unfold errs
    by_cases h2 : y.err = 0
    · rw [if_pos h2, if_neg (by simp [h2])]
      simp only [errs, clash]
      by_cases h3 : x.m = y.m
      · simp [h3]
      · have h3' : ¬ y.m = x.m := fun e => h3 e.symm
        simp [h3, h3']
    · rw [if_neg h2, if_pos h2]
  · rw [if_neg h1, if_pos h1]
def Las.s (x : Las) : Nat → Int := atL x.st x.ro
def Las.v (x : Las) : Value := .agg #[.int .i64 x.m, .slice x.sa x.st.length x.sc, .slice x.ra x.ro.length x.rc]

theorem vq_las (m : Int) (a b : Option Addr) (n c n' c' : Nat) : VQ (.agg #[.int .i64 m, .slice a n c, .slice b n' c']) := VQ.agg (by simp [vq_int, vq_slice])
theorem vq_lasf (g : FuncId) (m : Int) (a b : Option Addr) (n c n' c' : Nat) : VQ (.func (.func g) #[.agg #[.int .i64 m, .slice a n c, .slice b n' c']] #[]) := by
  refine VQ.func (fun v hv => ?_) (by simp)
  have hv : v = .agg #[.int .i64 m, .slice a n c, .slice b n' c'] := by simpa using hv
  subst hv
  show veqs (veq 3) [_, _, _] [_, _, _] = true
  simp [veqs, vq_int, vq_slice]
theorem apart_run {A : AHeap} (hw : WF A) {x y : Las} (hox : x.ok A) (hoy : y.ok A) :
    Con Try.prog 22 [x.v, y.v] A (fun v A1 => Nx A.next A A1 ∧ (errs [x, y] [x, y] = 0 → ApartQ x.s y.s v) ∧ (errs [x, y] [x, y] ≠ 0 → v = .tuple #[.int .i64 0, .int .i64 (errs [x, y] [x, y])])) := by
  obtain ⟨m, sa, sc, st, ra, rc, ro⟩ := x
  obtain ⟨m', sa', sc', st', ra', rc', ro'⟩ := y
  simp only [Las.v, Las.s]
  refine con_of_rn hc Try.func22 rfl (Nat.le_of_ble_eq_true rfl) ?_
  obtain ⟨A1, e1, hx1, hn1, b0, b1, b2⟩ := box3 hw (.int .i64 m) (.slice sa st.length sc) (.slice ra ro.length rc) 24
  obtain ⟨A2, e2, hx2, hn2, c0, c1, c2⟩ := box3 hx1.wf (.int .i64 m') (.slice sa' st'.length sc') (.slice ra' ro'.length rc') 24
  have hx02 : Nx A.next A A2 := hx1.trans (hx2.le hx1.next)
  have b0 := (hx2.cl (show A.next < A1.next by omega) 0).trans b0
  have b1 := (hx2.cl (show A.next < A1.next by omega) 1).trans b1
  have b2 := (hx2.cl (show A.next < A1.next by omega) 2).trans b2
  have hx3 : Nx A2.next A2 (A2.push (.cells #[.int .i64 m, .slice sa st.length sc, .slice ra ro.length rc, .int .i64 m', .slice sa' st'.length sc', .slice ra' ro'.length rc'] 24)) := (Nx.refl hx2.wf _).push (Nat.le_refl _) _
  have l3 := look_push_eq A2 (.cells #[.int .i64 m, .slice sa st.length sc, .slice ra ro.length rc, .int .i64 m', .slice sa' st'.length sc', .slice ra' ro'.length rc'] 24)
  have hn3 : (A2.push (.cells #[.int .i64 m, .slice sa st.length sc, .slice ra ro.length rc, .int .i64 m', .slice sa' st'.length sc', .slice ra' ro'.length rc'] 24)).next = A2.next + 1 := rfl
  generalize e3 : A2.push (.cells #[.int .i64 m, .slice sa st.length sc, .slice ra ro.length rc, .int .i64 m', .slice sa' st'.length sc', .slice ra' ro'.length rc'] 24) = A3 at hx3 l3 hn3
  have hx03 : Nx A.next A A3 := hx02.trans (hx3.le hx02.next)
  have hrow := row_two (hox.nx hx03) (hoy.nx hx03) (b := A2.next) (by omega) l3
  rw [s_in2]
  (repeat (first | refine Rn.seq hc ?_ | refine Rn.skip hc ?_ | refine Rn.block hc ?_ | refine Rn.inBlock hc ?_ | refine Rn.scope hc ?_ | refine Rn.inScope hc ?_))
  refine Rn.reg hc rfl ?_
  simp only [sev_tmp, sev_const, sg_eq, sg_ne, sp_n, Nat.reduceLT, ne_eq, Nat.reduceEqDiff, not_false_eq_true, gd, want_free, rops, fx, Option.some.injEq, exists_eq_left', Value.cells, show Try.f22.ntmps = 50 from rfl, e1, e2]
  (repeat (first | refine Rn.seq hc ?_ | refine Rn.skip hc ?_ | refine Rn.block hc ?_ | refine Rn.inBlock hc ?_ | refine Rn.scope hc ?_ | refine Rn.inScope hc ?_))
  refine Rn.region hc fun K hK => ?_
  refine Wo.run hc 3 rfl rfl rfl ?_
  simp (maxSteps := 2000000) only [List.drop_zero, List.take_succ_cons, List.take_zero, sev_tmp, sg_eq, sg_ne, sp_n, Nat.reduceLT, ne_eq, Nat.reduceEqDiff, not_false_eq_true, gd, want_free, List.nil_append, List.cons_append, rops, fx, ld, adr_p, cls, Nat.zero_add, Option.some.injEq, exists_eq_left', Value.cells, Nat.reduceAdd, tk24, b0, b1, b2, c0, c1, c2, bs46_2, List.size_toArray, List.length_cons, List.length_nil, List.cons_append, List.nil_append, e3]
  refine Wo.call hc (by rfl) (by rfl) ⟨by rfl, by rfl⟩ (xs := [.slice (some ⟨A2.next, 0, none⟩) 2 2]) (by first | rfl | (simp only [sev_tmp, sev_const, sev_func, sg_eq, sg_ne, sp_n, sp_none, Nat.reduceLT, ne_eq, Nat.reduceEqDiff, not_false_eq_true, gd, nth, want_free, want_slot, beqB, List.map_cons, List.map_nil, Array.toList_empty, List.nil_append, List.append_nil, List.cons_append]; done) | (simp only [sev_tmp, sev_const, sev_func, sg_eq, sg_ne, sp_n, sp_none, Nat.reduceLT, ne_eq, Nat.reduceEqDiff, not_false_eq_true, gd, nth, want_free, want_slot, beqB, List.map_cons, List.map_nil, Array.toList_empty, List.nil_append, List.append_nil, List.cons_append]; rfl)) (by first | rfl | (simp only [sev_tmp, sev_const, sev_func, sg_eq, sg_ne, sp_n, sp_none, Nat.reduceLT, ne_eq, Nat.reduceEqDiff, not_false_eq_true, gd, nth, want_free, want_slot, beqB, List.map_cons, List.map_nil, Array.toList_empty, List.nil_append, List.append_nil, List.cons_append]; done) | (simp only [sev_tmp, sev_const, sev_func, sg_eq, sg_ne, sp_n, sp_none, Nat.reduceLT, ne_eq, Nat.reduceEqDiff, not_false_eq_true, gd, nth, want_free, want_slot, beqB, List.map_cons, List.map_nil, Array.toList_empty, List.nil_append, List.append_nil, List.cons_append]; rfl)) (by first | rfl | (simp only [sev_tmp, sev_const, sev_func, sg_eq, sg_ne, sp_n, sp_none, Nat.reduceLT, ne_eq, Nat.reduceEqDiff, not_false_eq_true, gd, nth, want_free, want_slot, beqB, List.map_cons, List.map_nil, Array.toList_empty, List.nil_append, List.append_nil, List.cons_append]; done) | (simp only [sev_tmp, sev_const, sev_func, sg_eq, sg_ne, sp_n, sp_none, Nat.reduceLT, ne_eq, Nat.reduceEqDiff, not_false_eq_true, gd, nth, want_free, want_slot, beqB, List.map_cons, List.map_nil, Array.toList_empty, List.nil_append, List.append_nil, List.cons_append]; rfl)) (Con.mono (check_all hx3.wf (l := [⟨m, sa, sc, st, ra, rc, ro⟩, ⟨m', sa', sc', st', ra', rc', ro'⟩]) hrow (by simp)) ?_)
  rintro w A4 ⟨rfl, hx4⟩
  refine Wo.run hc 1 rfl rfl rfl ?_
  simp (maxSteps := 2000000) only [List.drop_zero, List.drop_succ_cons, List.take_succ_cons, List.take_zero, sev_tmp, sg_eq, sp_n, Nat.reduceLT, gd, want_free, rops, fx, Option.some.injEq, exists_eq_left', Nat.reduceAdd]
  refine Wo.done hc rfl (hK _ _ ?_)
  clear hK
  (repeat (first | refine Rn.seq hc ?_ | refine Rn.skip hc ?_ | refine Rn.block hc ?_ | refine Rn.inBlock hc ?_ | refine Rn.scope hc ?_ | refine Rn.inScope hc ?_))
  have hx24 : Nx A2.next A2 A4 := hx3.trans (hx4.le hx3.next)
  have hx04 : Nx A.next A A4 := hx02.trans (hx24.le hx02.next)
  have n4 : A2.next < A4.next := by have := hx4.next; omega
  have b0 := (hx24.cl (show A.next < A2.next by omega) 0).trans b0
  have b1 := (hx24.cl (show A.next < A2.next by omega) 1).trans b1
  have b2 := (hx24.cl (show A.next < A2.next by omega) 2).trans b2
  have c0 := (hx24.cl (show A1.next < A2.next by omega) 0).trans c0
  have c1 := (hx24.cl (show A1.next < A2.next by omega) 1).trans c1
  have c2 := (hx24.cl (show A1.next < A2.next by omega) 2).trans c2
  by_cases he : errs [⟨m, sa, sc, st, ra, rc, ro⟩, ⟨m', sa', sc', st', ra', rc', ro'⟩] [⟨m, sa, sc, st, ra, rc, ro⟩, ⟨m', sa', sc', st', ra', rc', ro'⟩] = 0
  · rw [he]
    have he2 := he
    rw [errs_two] at he2
    have hE1 : errL m st ro = 0 := Decidable.byContradiction fun h => by
      rw [if_pos (show (Las.err ⟨m, sa, sc, st, ra, rc, ro⟩) ≠ 0 from h)] at he2
      exact h he2
    have hE2 : errL m' st' ro' = 0 := Decidable.byContradiction fun h => by
      rw [if_neg (by show ¬ (errL m st ro ≠ 0); simp [hE1]), if_pos (show (Las.err ⟨m', sa', sc', st', ra', rc', ro'⟩) ≠ 0 from h)] at he2
      exact h he2
    have hmm : m = m' := Decidable.byContradiction fun h => by
      rw [if_neg (by show ¬ (errL m st ro ≠ 0); simp [hE1]), if_neg (by show ¬ (errL m' st' ro' ≠ 0); simp [hE2]), if_neg h] at he2
      exact absurd he2 (by decide)
    obtain ⟨s60, r120⟩ := errL_len hE1
    obtain ⟨s60', r120'⟩ := errL_len hE2
    have hp := errL_pos hE1
    have hp' := errL_pos hE2
    have hd0 : (!decide ((0 : Int) = 0)) = false := rfl
    refine Rn.reg hc rfl ?_
    simp only [sev_tmp, sev_const, sg_eq, sp_n, Nat.reduceLT, gd, want_free, rops, fx, bin_neq, Option.some.injEq, exists_eq_left', Bool.not_true, Bool.not_true, eq_self, decide_true, Bool.not_true]
    (repeat (first | refine Rn.seq hc ?_ | refine Rn.skip hc ?_ | refine Rn.block hc ?_ | refine Rn.inBlock hc ?_ | refine Rn.scope hc ?_ | refine Rn.inScope hc ?_))
    refine Rn.condE hc rfl ?_
    simp only [sev_tmp, sg_eq, sp_n, Nat.reduceLT, Value.bool.injEq, exists_eq_left']
    (repeat (first | refine Rn.seq hc ?_ | refine Rn.skip hc ?_ | refine Rn.block hc ?_ | refine Rn.inBlock hc ?_ | refine Rn.scope hc ?_ | refine Rn.inScope hc ?_))
    refine Rn.drawnR hc hx (by kernel_rfl) (by rfl) (by kernel_rfl) ?_ ?_
    · simp only [rdV, cl_bump, sev_tmp, sg_eq, sg_ne, sp_n, Nat.reduceLT, ne_eq, Nat.reduceEqDiff, not_false_eq_true, gd, want_free, fx, ld, adr_p, cls, Nat.zero_add, Value.cells, Nat.reduceAdd, and_self, ae_mkbound, tk24, b0, b1, b2, c0, c1, c2, bd86, vq_las, vq_lasf, List.size_toArray, List.length_cons, List.length_nil]
    simp only [cl_bump, sev_tmp, sg_eq, sg_ne, sp_n, Nat.reduceLT, ne_eq, Nat.reduceEqDiff, not_false_eq_true, gd, want_free, rops, fx, ld, adr_p, cls, Nat.zero_add, Option.some.injEq, exists_eq_left', Value.cells, Nat.reduceAdd, ae_mkbound, tk24, b0, b1, b2, c0, c1, c2, bd86, List.size_toArray, List.length_cons, List.length_nil]
    (repeat (first | refine Rn.seq hc ?_ | refine Rn.skip hc ?_ | refine Rn.block hc ?_ | refine Rn.inBlock hc ?_ | refine Rn.scope hc ?_ | refine Rn.inScope hc ?_))
    have hw1 : IntKind.i64.wrap (max (st.length : Int) (st'.length : Int) + (ro.length : Int)) = ((max st.length st'.length + ro.length : Nat) : Int) := by rw [IntWalk.i64_in _ (by omega)]; omega
    have hw2 : IntKind.i64.wrap (((max st.length st'.length + ro.length : Nat) : Int) + (ro'.length : Int)) = ((max st.length st'.length + ro.length + ro'.length : Nat) : Int) := by rw [IntWalk.i64_in _ (by omega)]; omega
    obtain ⟨L, hL⟩ : ∃ L, L = max st.length st'.length + ro.length + ro'.length := ⟨_, rfl⟩
    rw [← hL] at hw2
    have hB : Nx A4.next A4 (bump A4 8) := Nx.bump (Nx.refl hx4.wf _) 8
    refine Rn.reg hc rfl ?_
    simp only [sev_tmp, sev_const, sg_eq, sg_ne, sp_n, Nat.reduceLT, ne_eq, Nat.reduceEqDiff, not_false_eq_true, gd, want_free, rops, fx, ld, fad, lng, bin_add, adr_p, Nat.zero_add, Option.some.injEq, exists_eq_left', tk22, fo24_1, fo24_2, un22, b1, b2, c1, c2, cl_bump, ae_mxd2, mxd_int, hw1, hw2]
    (repeat (first | refine Rn.seq hc ?_ | refine Rn.skip hc ?_ | refine Rn.block hc ?_ | refine Rn.inBlock hc ?_ | refine Rn.scope hc ?_ | refine Rn.inScope hc ?_))
    refine Rn.loopI hc (I := fun k s A' => ∃ n, n ≤ L ∧ k = L - n ∧ Nx A4.next A4 A' ∧ (∀ j, j < n → atL st ro j = atL st' ro' j) ∧ s.n = 50 ∧ sget s 7 = .func (.func 72) #[.agg #[.int .i64 m, .slice sa st.length sc, .slice ra ro.length rc]] #[] ∧ sget s 8 = .func (.func 72) #[.agg #[.int .i64 m', .slice sa' st'.length sc', .slice ra' ro'.length rc']] #[] ∧ sget s 37 = .int .i64 (L : Int) ∧ sget s 38 = .int .i64 (n : Int))
      (n := L) ⟨0, by omega, rfl, hB, fun j hj => by omega, by simp only [sp_n], by simp only [sg_eq, sg_ne, sp_n, Nat.reduceLT, ne_eq, Nat.reduceEqDiff, not_false_eq_true], by simp only [sg_eq, sg_ne, sp_n, Nat.reduceLT, ne_eq, Nat.reduceEqDiff, not_false_eq_true], by simp only [sg_eq, sg_ne, sp_n, Nat.reduceLT, ne_eq, Nat.reduceEqDiff, not_false_eq_true], by simp only [sg_eq, sp_n, Nat.reduceLT]; rfl⟩ ?_
    clear b0 b1 b2 c0 c1 c2 hw1 hw2 hB
    rintro k s A' ⟨n, hn1', rfl, hA, hag, hn, s7, s8, s37, s38⟩ ih
    have hA0 : Nx A.next A A' := hx04.trans (hA.le hx04.next)
    (repeat (first | refine Rn.seq hc ?_ | refine Rn.skip hc ?_ | refine Rn.block hc ?_ | refine Rn.inBlock hc ?_ | refine Rn.scope hc ?_ | refine Rn.inScope hc ?_))
    by_cases hlt : n < L
    · have hd : decide ((n : Int) < (L : Int)) = true := by simp; omega
      refine Rn.reg hc rfl ?_
      simp only [sev_tmp, gd, want_free, rops, fx, bin_lss, Option.some.injEq, exists_eq_left', s37, s38, hd]
      (repeat (first | refine Rn.seq hc ?_ | refine Rn.skip hc ?_ | refine Rn.block hc ?_ | refine Rn.inBlock hc ?_ | refine Rn.scope hc ?_ | refine Rn.inScope hc ?_))
      refine Rn.condE hc rfl ?_
      simp only [sev_tmp, sg_eq, Nat.reduceLT, Value.bool.injEq, exists_eq_left', hn]
      (repeat (first | refine Rn.seq hc ?_ | refine Rn.skip hc ?_ | refine Rn.block hc ?_ | refine Rn.inBlock hc ?_ | refine Rn.scope hc ?_ | refine Rn.inScope hc ?_))
      refine Rn.reg hc rfl ?_
      simp only [sev_tmp, sg_eq, sg_ne, sp_n, Nat.reduceLT, ne_eq, Nat.reduceEqDiff, not_false_eq_true, gd, want_free, rops, fx, Option.some.injEq, exists_eq_left', hn, s38]
      (repeat (first | refine Rn.seq hc ?_ | refine Rn.skip hc ?_ | refine Rn.block hc ?_ | refine Rn.inBlock hc ?_ | refine Rn.scope hc ?_ | refine Rn.inScope hc ?_))
      refine Rn.region hc fun K hK => ?_
      refine Wo.run hc 2 rfl rfl rfl ?_
      simp (maxSteps := 2000000) only [List.drop_zero, List.take_succ_cons, List.take_zero, sev_tmp, sg_eq, sg_ne, sp_n, Nat.reduceLT, ne_eq, Nat.reduceEqDiff, not_false_eq_true, gd, want_free, rops, fx, Nat.zero_add, Option.some.injEq, exists_eq_left', hn, s7]
      obtain ⟨hsx, hrx, _, _⟩ := hox.nx hA0
      obtain ⟨hsy, hry, _, _⟩ := hoy.nx hA0
      refine Wo.call hc (by rfl) (by rfl) ⟨by rfl, by rfl⟩ (fi := #[.agg #[.int .i64 m, .slice sa st.length sc, .slice ra ro.length rc]]) (ca := #[]) (xs := [.agg #[.int .i64 m, .slice sa st.length sc, .slice ra ro.length rc], .int .i64 (n : Int)]) (by rfl) (by simp only [sev_tmp, sg_eq, sg_ne, sp_n, Nat.reduceLT, ne_eq, Nat.reduceEqDiff, not_false_eq_true, hn]) (by simp only [sev_tmp, sg_eq, sp_n, Nat.reduceLT, List.map_cons, List.map_nil, List.nil_append, List.append_nil, List.cons_append, hn]) (Con.mono (head_stream hA.wf hsx hrx n (by omega) hp (by omega) (by omega)) ?_)
      rintro w B1 ⟨rfl, hy1⟩
      have hA1 : Nx A4.next A4 B1 := hA.trans (hy1.le hA.next)
      have hA01 : Nx A.next A B1 := hx04.trans (hA1.le hx04.next)
      obtain ⟨hsy, hry, _, _⟩ := hoy.nx hA01
      refine Wo.run hc 2 rfl rfl rfl ?_
      simp (maxSteps := 2000000) only [List.drop_zero, List.drop_succ_cons, List.take_succ_cons, List.take_zero, sev_tmp, sg_eq, sg_ne, sp_n, Nat.reduceLT, ne_eq, Nat.reduceEqDiff, not_false_eq_true, gd, want_free, rops, fx, Option.some.injEq, exists_eq_left', Nat.reduceAdd, hn, s8]
      refine Wo.call hc (by rfl) (by rfl) ⟨by rfl, by rfl⟩ (fi := #[.agg #[.int .i64 m', .slice sa' st'.length sc', .slice ra' ro'.length rc']]) (ca := #[]) (xs := [.agg #[.int .i64 m', .slice sa' st'.length sc', .slice ra' ro'.length rc'], .int .i64 (n : Int)]) (by rfl) (by simp only [sev_tmp, sg_eq, sg_ne, sp_n, Nat.reduceLT, ne_eq, Nat.reduceEqDiff, not_false_eq_true, hn]) (by simp only [sev_tmp, sg_eq, sp_n, Nat.reduceLT, List.map_cons, List.map_nil, List.nil_append, List.append_nil, List.cons_append, hn]) (Con.mono (head_stream hA1.wf hsy hry n (by omega) hp' (by omega) (by omega)) ?_)
      rintro w B2 ⟨rfl, hy2⟩
      have hA2 : Nx A4.next A4 B2 := hA1.trans (hy2.le hA1.next)
      by_cases heq : atL st ro n = atL st' ro' n
      · have hd2 : (!(decide (atL st ro n = atL st' ro' n) && decide (m = m'))) = false := by rw [decide_eq_true heq, decide_eq_true hmm]; rfl
        refine Wo.run hc 1 rfl rfl rfl ?_
        simp (maxSteps := 2000000) only [List.drop_zero, List.drop_succ_cons, List.take_succ_cons, List.take_zero, sev_tmp, sg_eq, sg_ne, sp_n, Nat.reduceLT, ne_eq, Nat.reduceEqDiff, not_false_eq_true, gd, want_free, rops, fx, Option.some.injEq, exists_eq_left', Nat.reduceAdd, hn, neq88, hd2]
        refine Wo.done hc rfl (hK _ _ ?_)
        clear hK
        (repeat (first | refine Rn.seq hc ?_ | refine Rn.skip hc ?_ | refine Rn.block hc ?_ | refine Rn.inBlock hc ?_ | refine Rn.scope hc ?_ | refine Rn.inScope hc ?_))
        refine Rn.condE hc rfl ?_
        simp only [sev_tmp, sg_eq, sp_n, Nat.reduceLT, Value.bool.injEq, exists_eq_left', hn]
        (repeat (first | refine Rn.seq hc ?_ | refine Rn.skip hc ?_ | refine Rn.block hc ?_ | refine Rn.inBlock hc ?_ | refine Rn.scope hc ?_ | refine Rn.inScope hc ?_))
        refine Rn.reg hc rfl ?_
        simp only [sev_tmp, sev_const, sg_eq, sg_ne, sp_n, Nat.reduceLT, ne_eq, Nat.reduceEqDiff, not_false_eq_true, gd, want_free, rops, fx, bin_add, Option.some.injEq, exists_eq_left', hn, s38, wrap_succ (show n < 9223372036854775807 by omega)]
        (repeat (first | refine Rn.seq hc ?_ | refine Rn.skip hc ?_ | refine Rn.block hc ?_ | refine Rn.inBlock hc ?_ | refine Rn.scope hc ?_ | refine Rn.inScope hc ?_))
        refine ih _ _ _ (by omega) ⟨n + 1, by omega, rfl, hA2, fun j hj => ?_, by simp only [sp_n, hn], by simp only [sg_ne, ne_eq, Nat.reduceEqDiff, not_false_eq_true, s7], by simp only [sg_ne, ne_eq, Nat.reduceEqDiff, not_false_eq_true, s8], by simp only [sg_ne, ne_eq, Nat.reduceEqDiff, not_false_eq_true, s37], by simp only [sg_eq, sp_n, Nat.reduceLT, hn]⟩
        by_cases hjn : j = n
        · subst hjn; exact heq
        · exact hag j (by omega)
      · have hd2 : (!(decide (atL st ro n = atL st' ro' n) && decide (m = m'))) = true := by rw [decide_eq_false heq]; rfl
        clear ih
        refine Wo.run hc 1 rfl rfl rfl ?_
        simp (maxSteps := 2000000) only [List.drop_zero, List.drop_succ_cons, List.take_succ_cons, List.take_zero, sev_tmp, sg_eq, sg_ne, sp_n, Nat.reduceLT, ne_eq, Nat.reduceEqDiff, not_false_eq_true, gd, want_free, rops, fx, Option.some.injEq, exists_eq_left', Nat.reduceAdd, hn, neq88, hd2]
        refine Wo.done hc rfl (hK _ _ ?_)
        clear hK
        (repeat (first | refine Rn.seq hc ?_ | refine Rn.skip hc ?_ | refine Rn.block hc ?_ | refine Rn.inBlock hc ?_ | refine Rn.scope hc ?_ | refine Rn.inScope hc ?_))
        refine Rn.condE hc rfl ?_
        simp only [sev_tmp, sg_eq, sp_n, Nat.reduceLT, Value.bool.injEq, exists_eq_left', hn]
        (repeat (first | refine Rn.seq hc ?_ | refine Rn.skip hc ?_ | refine Rn.block hc ?_ | refine Rn.inBlock hc ?_ | refine Rn.scope hc ?_ | refine Rn.inScope hc ?_))
        refine Rn.reg hc rfl ?_
        simp only [sev_tmp, sev_const, sg_eq, sg_ne, sp_n, Nat.reduceLT, ne_eq, Nat.reduceEqDiff, not_false_eq_true, gd, want_free, rops, fx, Option.some.injEq, exists_eq_left', hn]
        (repeat (first | refine Rn.seq hc ?_ | refine Rn.skip hc ?_ | refine Rn.block hc ?_ | refine Rn.inBlock hc ?_ | refine Rn.scope hc ?_ | refine Rn.inScope hc ?_))
        refine Rn.ret (endQ_two rfl ⟨hx04.trans (hA2.le hx04.next), fun _ => .inl ⟨n, ?_, heq, hag⟩, fun h => absurd trivial h⟩)
        simp only [sg_eq, sg_ne, sp_n, Nat.reduceLT, ne_eq, Nat.reduceEqDiff, not_false_eq_true, hn]
    · have hd : decide ((n : Int) < (L : Int)) = false := by simp; omega
      have hnL : n = L := by omega
      clear ih
      refine Rn.reg hc rfl ?_
      simp only [sev_tmp, gd, want_free, rops, fx, bin_lss, Option.some.injEq, exists_eq_left', s37, s38, hd]
      (repeat (first | refine Rn.seq hc ?_ | refine Rn.skip hc ?_ | refine Rn.block hc ?_ | refine Rn.inBlock hc ?_ | refine Rn.scope hc ?_ | refine Rn.inScope hc ?_))
      refine Rn.condE hc rfl ?_
      simp only [sev_tmp, sg_eq, Nat.reduceLT, Value.bool.injEq, exists_eq_left', hn]
      (repeat (first | refine Rn.seq hc ?_ | refine Rn.skip hc ?_ | refine Rn.block hc ?_ | refine Rn.inBlock hc ?_ | refine Rn.scope hc ?_ | refine Rn.inScope hc ?_))
      refine Rn.exit hc rfl ?_
      (repeat (first | refine Rn.seq hc ?_ | refine Rn.skip hc ?_ | refine Rn.block hc ?_ | refine Rn.inBlock hc ?_ | refine Rn.scope hc ?_ | refine Rn.inScope hc ?_))
      refine Rn.reg hc rfl ?_
      simp only [sev_const, gd, want_free, rops, fx, Option.some.injEq, exists_eq_left']
      (repeat (first | refine Rn.seq hc ?_ | refine Rn.skip hc ?_ | refine Rn.block hc ?_ | refine Rn.inBlock hc ?_ | refine Rn.scope hc ?_ | refine Rn.inScope hc ?_))
      refine Rn.ret (endQ_two rfl ⟨hA0, fun _ => .inr ⟨?_, ?_⟩, fun h => absurd trivial h⟩)
      · simp only [sg_eq, sg_ne, sp_n, Nat.reduceLT, ne_eq, Nat.reduceEqDiff, not_false_eq_true, hn]
      · exact agree_all ((atL_per (st := st) hp).mono (Nat.le_max_left st.length st'.length)) ((atL_per (st := st') hp').mono (Nat.le_max_right st.length st'.length)) fun j hj => hag j (by omega)
  · have hd0 : (!decide (errs [⟨m, sa, sc, st, ra, rc, ro⟩, ⟨m', sa', sc', st', ra', rc', ro'⟩] [⟨m, sa, sc, st, ra, rc, ro⟩, ⟨m', sa', sc', st', ra', rc', ro'⟩] = 0)) = true := by rw [decide_eq_false he]; rfl
    refine Rn.reg hc rfl ?_
    simp only [sev_tmp, sev_const, sg_eq, sp_n, Nat.reduceLT, gd, want_free, rops, fx, bin_neq, Option.some.injEq, exists_eq_left', hd0]
    (repeat (first | refine Rn.seq hc ?_ | refine Rn.skip hc ?_ | refine Rn.block hc ?_ | refine Rn.inBlock hc ?_ | refine Rn.scope hc ?_ | refine Rn.inScope hc ?_))
    refine Rn.condE hc rfl ?_
    simp only [sev_tmp, sg_eq, sp_n, Nat.reduceLT, Value.bool.injEq, exists_eq_left']
    (repeat (first | refine Rn.seq hc ?_ | refine Rn.skip hc ?_ | refine Rn.block hc ?_ | refine Rn.inBlock hc ?_ | refine Rn.scope hc ?_ | refine Rn.inScope hc ?_))
    refine Rn.reg hc rfl ?_
    simp only [sev_tmp, sev_const, sg_eq, sg_ne, sp_n, Nat.reduceLT, ne_eq, Nat.reduceEqDiff, not_false_eq_true, gd, want_free, rops, fx, Option.some.injEq, exists_eq_left']
    (repeat (first | refine Rn.seq hc ?_ | refine Rn.skip hc ?_ | refine Rn.block hc ?_ | refine Rn.inBlock hc ?_ | refine Rn.scope hc ?_ | refine Rn.inScope hc ?_))
    refine Rn.ret (endQ_two rfl ⟨hx04, fun h => absurd h he, fun _ => ?_⟩)
    simp only [sg_eq, sg_ne, sp_n, Nat.reduceLT, ne_eq, Nat.reduceEqDiff, not_false_eq_true]

theorem same_run {A : AHeap} (hw : WF A) {x y : Las} (hox : x.ok A) (hoy : y.ok A) :
    Con Try.prog 20 [x.v, y.v] A (fun v A1 => Nx A.next A A1 ∧ (errs [x, y] [x, y] = 0 → ∃ b, v = .tuple #[.bool b, .int .i64 0] ∧ (b = true ↔ ∀ n, x.s n = y.s n)) ∧ (errs [x, y] [x, y] ≠ 0 → v = .tuple #[.bool false, .int .i64 (errs [x, y] [x, y])])) := by
  refine con_of_rn hc Try.func20 rfl (Nat.le_of_ble_eq_true rfl) ?_
  obtain ⟨A1, e1, hx1, hn1, b0, b1, b2⟩ := box3 hw (.int .i64 x.m) (.slice x.sa x.st.length x.sc) (.slice x.ra x.ro.length x.rc) 24
  obtain ⟨A2, e2, hx2, hn2, c0, c1, c2⟩ := box3 hx1.wf (.int .i64 y.m) (.slice y.sa y.st.length y.sc) (.slice y.ra y.ro.length y.rc) 24
  have hx02 : Nx A.next A A2 := hx1.trans (hx2.le hx1.next)
  have b0 := (hx2.cl (show A.next < A1.next by omega) 0).trans b0
  have b1 := (hx2.cl (show A.next < A1.next by omega) 1).trans b1
  have b2 := (hx2.cl (show A.next < A1.next by omega) 2).trans b2
  rw [s_in2]
  (repeat (first | refine Rn.seq hc ?_ | refine Rn.skip hc ?_ | refine Rn.block hc ?_ | refine Rn.inBlock hc ?_ | refine Rn.scope hc ?_ | refine Rn.inScope hc ?_))
  refine Rn.reg hc rfl ?_
  simp only [sev_tmp, sev_const, sg_eq, sg_ne, sp_n, Nat.reduceLT, ne_eq, Nat.reduceEqDiff, not_false_eq_true, gd, want_free, rops, fx, Option.some.injEq, exists_eq_left', Value.cells, show Try.f20.ntmps = 20 from rfl, Las.v, e1, e2]
  (repeat (first | refine Rn.seq hc ?_ | refine Rn.skip hc ?_ | refine Rn.block hc ?_ | refine Rn.inBlock hc ?_ | refine Rn.scope hc ?_ | refine Rn.inScope hc ?_))
  refine Rn.region hc fun K hK => ?_
  refine Wo.run hc 2 rfl rfl rfl ?_
  simp (maxSteps := 2000000) only [List.drop_zero, List.take_succ_cons, List.take_zero, sev_tmp, sg_eq, sg_ne, sp_n, Nat.reduceLT, ne_eq, Nat.reduceEqDiff, not_false_eq_true, gd, want_free, rops, fx, ld, adr_p, cls, Nat.zero_add, Option.some.injEq, exists_eq_left', Nat.reduceAdd, tk24, b0, b1, b2, c0, c1, c2]
  refine Wo.call hc (by rfl) (by rfl) ⟨by rfl, by rfl⟩ (xs := [x.v, y.v]) (by first | rfl | (simp only [sev_tmp, sev_const, sev_func, sg_eq, sg_ne, sp_n, sp_none, Nat.reduceLT, ne_eq, Nat.reduceEqDiff, not_false_eq_true, gd, nth, want_free, want_slot, beqB, List.map_cons, List.map_nil, Array.toList_empty, List.nil_append, List.append_nil, List.cons_append, Las.v]; done) | (simp only [sev_tmp, sev_const, sev_func, sg_eq, sg_ne, sp_n, sp_none, Nat.reduceLT, ne_eq, Nat.reduceEqDiff, not_false_eq_true, gd, nth, want_free, want_slot, beqB, List.map_cons, List.map_nil, Array.toList_empty, List.nil_append, List.append_nil, List.cons_append, Las.v]; rfl)) (by first | rfl | (simp only [sev_tmp, sev_const, sev_func, sg_eq, sg_ne, sp_n, sp_none, Nat.reduceLT, ne_eq, Nat.reduceEqDiff, not_false_eq_true, gd, nth, want_free, want_slot, beqB, List.map_cons, List.map_nil, Array.toList_empty, List.nil_append, List.append_nil, List.cons_append, Las.v]; done) | (simp only [sev_tmp, sev_const, sev_func, sg_eq, sg_ne, sp_n, sp_none, Nat.reduceLT, ne_eq, Nat.reduceEqDiff, not_false_eq_true, gd, nth, want_free, want_slot, beqB, List.map_cons, List.map_nil, Array.toList_empty, List.nil_append, List.append_nil, List.cons_append, Las.v]; rfl)) (by first | rfl | (simp only [sev_tmp, sev_const, sev_func, sg_eq, sg_ne, sp_n, sp_none, Nat.reduceLT, ne_eq, Nat.reduceEqDiff, not_false_eq_true, gd, nth, want_free, want_slot, beqB, List.map_cons, List.map_nil, Array.toList_empty, List.nil_append, List.append_nil, List.cons_append, Las.v]; done) | (simp only [sev_tmp, sev_const, sev_func, sg_eq, sg_ne, sp_n, sp_none, Nat.reduceLT, ne_eq, Nat.reduceEqDiff, not_false_eq_true, gd, nth, want_free, want_slot, beqB, List.map_cons, List.map_nil, Array.toList_empty, List.nil_append, List.append_nil, List.cons_append, Las.v]; rfl)) (Con.mono (apart_run hx2.wf (hox.nx hx02) (hoy.nx hx02)) ?_)
  rintro w A3 ⟨hx3, hq, hqe⟩
  have hx03 : Nx A.next A A3 := hx02.trans (hx3.le hx02.next)
  by_cases he : errs [x, y] [x, y] = 0
  · rcases hq he with ⟨n, rfl, h1, h2⟩ | ⟨rfl, h1⟩
    · refine Wo.run hc 5 rfl rfl rfl ?_
      simp (maxSteps := 2000000) only [List.drop_zero, List.drop_succ_cons, List.take_succ_cons, List.take_zero, sev_tmp, sg_eq, sg_ne, sp_n, Nat.reduceLT, ne_eq, Nat.reduceEqDiff, not_false_eq_true, gd, want_free, rops, fx, ext, List.getElem?_toArray, List.getElem?_cons_zero, List.getElem?_cons_succ, Option.some.injEq, exists_eq_left', Nat.reduceAdd, ext]
      refine Wo.done hc rfl (hK _ _ ?_)
      clear hK
      (repeat (first | refine Rn.seq hc ?_ | refine Rn.skip hc ?_ | refine Rn.block hc ?_ | refine Rn.inBlock hc ?_ | refine Rn.scope hc ?_ | refine Rn.inScope hc ?_))
      refine Rn.reg hc rfl ?_
      simp only [sev_tmp, sg_eq, sp_n, Nat.reduceLT, gd, want_free, rops, fx, Option.some.injEq, exists_eq_left']
      (repeat (first | refine Rn.seq hc ?_ | refine Rn.skip hc ?_ | refine Rn.block hc ?_ | refine Rn.inBlock hc ?_ | refine Rn.scope hc ?_ | refine Rn.inScope hc ?_))
      refine Rn.reg hc rfl ?_
      simp only [sev_tmp, sev_const, sg_eq, sp_n, Nat.reduceLT, gd, want_free, rops, fx, bin_eql, Option.some.injEq, exists_eq_left', show decide ((0 : Int) = 6) = false from rfl]
      (repeat (first | refine Rn.seq hc ?_ | refine Rn.skip hc ?_ | refine Rn.block hc ?_ | refine Rn.inBlock hc ?_ | refine Rn.scope hc ?_ | refine Rn.inScope hc ?_))
      refine Rn.condE hc rfl ?_
      simp only [sev_tmp, sg_eq, sp_n, Nat.reduceLT, Value.bool.injEq, exists_eq_left']
      (repeat (first | refine Rn.seq hc ?_ | refine Rn.skip hc ?_ | refine Rn.block hc ?_ | refine Rn.inBlock hc ?_ | refine Rn.scope hc ?_ | refine Rn.inScope hc ?_))
      refine Rn.reg hc rfl ?_
      simp only [sev_tmp, sev_const, sg_eq, sg_ne, sp_n, Nat.reduceLT, ne_eq, Nat.reduceEqDiff, not_false_eq_true, gd, want_free, rops, fx, bin_eql, Option.some.injEq, exists_eq_left', eq_self, decide_true]
      (repeat (first | refine Rn.seq hc ?_ | refine Rn.skip hc ?_ | refine Rn.block hc ?_ | refine Rn.inBlock hc ?_ | refine Rn.scope hc ?_ | refine Rn.inScope hc ?_))
      refine Rn.condE hc rfl ?_
      simp only [sev_tmp, sg_eq, sp_n, Nat.reduceLT, Value.bool.injEq, exists_eq_left']
      (repeat (first | refine Rn.seq hc ?_ | refine Rn.skip hc ?_ | refine Rn.block hc ?_ | refine Rn.inBlock hc ?_ | refine Rn.scope hc ?_ | refine Rn.inScope hc ?_))
      refine Rn.reg hc rfl ?_
      simp only [sev_const, gd, want_free, rops, fx, Option.some.injEq, exists_eq_left']
      (repeat (first | refine Rn.seq hc ?_ | refine Rn.skip hc ?_ | refine Rn.block hc ?_ | refine Rn.inBlock hc ?_ | refine Rn.scope hc ?_ | refine Rn.inScope hc ?_))
      refine Rn.ret (endQ_two rfl ⟨hx03, fun _ => ⟨false, ?_, by simp; exact ⟨n, h1⟩⟩, fun h => absurd he h⟩)
      simp only [sg_eq, sg_ne, sp_n, Nat.reduceLT, ne_eq, Nat.reduceEqDiff, not_false_eq_true]
    · refine Wo.run hc 5 rfl rfl rfl ?_
      simp (maxSteps := 2000000) only [List.drop_zero, List.drop_succ_cons, List.take_succ_cons, List.take_zero, sev_tmp, sg_eq, sg_ne, sp_n, Nat.reduceLT, ne_eq, Nat.reduceEqDiff, not_false_eq_true, gd, want_free, rops, fx, ext, List.getElem?_toArray, List.getElem?_cons_zero, List.getElem?_cons_succ, Option.some.injEq, exists_eq_left', Nat.reduceAdd, ext]
      refine Wo.done hc rfl (hK _ _ ?_)
      clear hK
      (repeat (first | refine Rn.seq hc ?_ | refine Rn.skip hc ?_ | refine Rn.block hc ?_ | refine Rn.inBlock hc ?_ | refine Rn.scope hc ?_ | refine Rn.inScope hc ?_))
      refine Rn.reg hc rfl ?_
      simp only [sev_tmp, sg_eq, sp_n, Nat.reduceLT, gd, want_free, rops, fx, Option.some.injEq, exists_eq_left']
      (repeat (first | refine Rn.seq hc ?_ | refine Rn.skip hc ?_ | refine Rn.block hc ?_ | refine Rn.inBlock hc ?_ | refine Rn.scope hc ?_ | refine Rn.inScope hc ?_))
      refine Rn.reg hc rfl ?_
      simp only [sev_tmp, sev_const, sg_eq, sp_n, Nat.reduceLT, gd, want_free, rops, fx, bin_eql, Option.some.injEq, exists_eq_left', eq_self, decide_true]
      (repeat (first | refine Rn.seq hc ?_ | refine Rn.skip hc ?_ | refine Rn.block hc ?_ | refine Rn.inBlock hc ?_ | refine Rn.scope hc ?_ | refine Rn.inScope hc ?_))
      refine Rn.condE hc rfl ?_
      simp only [sev_tmp, sg_eq, sp_n, Nat.reduceLT, Value.bool.injEq, exists_eq_left']
      (repeat (first | refine Rn.seq hc ?_ | refine Rn.skip hc ?_ | refine Rn.block hc ?_ | refine Rn.inBlock hc ?_ | refine Rn.scope hc ?_ | refine Rn.inScope hc ?_))
      refine Rn.reg hc rfl ?_
      simp only [sev_const, gd, want_free, rops, fx, Option.some.injEq, exists_eq_left']
      (repeat (first | refine Rn.seq hc ?_ | refine Rn.skip hc ?_ | refine Rn.block hc ?_ | refine Rn.inBlock hc ?_ | refine Rn.scope hc ?_ | refine Rn.inScope hc ?_))
      refine Rn.ret (endQ_two rfl ⟨hx03, fun _ => ⟨true, ?_, by simpa using h1⟩, fun h => absurd he h⟩)
      simp only [sg_eq, sg_ne, sp_n, Nat.reduceLT, ne_eq, Nat.reduceEqDiff, not_false_eq_true]
  · have := hqe he
    subst this
    have hn6 : errs [x, y] [x, y] ≠ 6 := by
      rw [errs_two]
      have e6 : ∀ z : Las, z.err ≠ 6 := fun z => by
        unfold Las.err errL
        split
        · decide
        · split
          · decide
          · split <;> decide
      split
      · exact e6 x
      · split
        · exact e6 y
        · split <;> decide
    have d1 : decide (errs [x, y] [x, y] = 6) = false := by simpa using hn6
    have d2 : decide (errs [x, y] [x, y] = 0) = false := by simpa using he
    refine Wo.run hc 5 rfl rfl rfl ?_
    simp (maxSteps := 2000000) only [List.drop_zero, List.drop_succ_cons, List.take_succ_cons, List.take_zero, sev_tmp, sg_eq, sg_ne, sp_n, Nat.reduceLT, ne_eq, Nat.reduceEqDiff, not_false_eq_true, gd, want_free, rops, fx, ext, List.getElem?_toArray, List.getElem?_cons_zero, List.getElem?_cons_succ, Option.some.injEq, exists_eq_left', Nat.reduceAdd, ext]
    refine Wo.done hc rfl (hK _ _ ?_)
    clear hK
    (repeat (first | refine Rn.seq hc ?_ | refine Rn.skip hc ?_ | refine Rn.block hc ?_ | refine Rn.inBlock hc ?_ | refine Rn.scope hc ?_ | refine Rn.inScope hc ?_))
    refine Rn.reg hc rfl ?_
    simp only [sev_tmp, sg_eq, sp_n, Nat.reduceLT, gd, want_free, rops, fx, Option.some.injEq, exists_eq_left']
    (repeat (first | refine Rn.seq hc ?_ | refine Rn.skip hc ?_ | refine Rn.block hc ?_ | refine Rn.inBlock hc ?_ | refine Rn.scope hc ?_ | refine Rn.inScope hc ?_))
    refine Rn.reg hc rfl ?_
    simp only [sev_tmp, sev_const, sg_eq, sp_n, Nat.reduceLT, gd, want_free, rops, fx, bin_eql, Option.some.injEq, exists_eq_left', d1]
    (repeat (first | refine Rn.seq hc ?_ | refine Rn.skip hc ?_ | refine Rn.block hc ?_ | refine Rn.inBlock hc ?_ | refine Rn.scope hc ?_ | refine Rn.inScope hc ?_))
    refine Rn.condE hc rfl ?_
    simp only [sev_tmp, sg_eq, sp_n, Nat.reduceLT, Value.bool.injEq, exists_eq_left']
    (repeat (first | refine Rn.seq hc ?_ | refine Rn.skip hc ?_ | refine Rn.block hc ?_ | refine Rn.inBlock hc ?_ | refine Rn.scope hc ?_ | refine Rn.inScope hc ?_))
    refine Rn.reg hc rfl ?_
    simp only [sev_tmp, sev_const, sg_eq, sg_ne, sp_n, Nat.reduceLT, ne_eq, Nat.reduceEqDiff, not_false_eq_true, gd, want_free, rops, fx, bin_eql, Option.some.injEq, exists_eq_left', d2]
    (repeat (first | refine Rn.seq hc ?_ | refine Rn.skip hc ?_ | refine Rn.block hc ?_ | refine Rn.inBlock hc ?_ | refine Rn.scope hc ?_ | refine Rn.inScope hc ?_))
    refine Rn.condE hc rfl ?_
    simp only [sev_tmp, sg_eq, sp_n, Nat.reduceLT, Value.bool.injEq, exists_eq_left']
    (repeat (first | refine Rn.seq hc ?_ | refine Rn.skip hc ?_ | refine Rn.block hc ?_ | refine Rn.inBlock hc ?_ | refine Rn.scope hc ?_ | refine Rn.inScope hc ?_))
    refine Rn.reg hc rfl ?_
    simp only [sev_tmp, sev_const, sg_eq, sg_ne, sp_n, Nat.reduceLT, ne_eq, Nat.reduceEqDiff, not_false_eq_true, gd, want_free, rops, fx, Option.some.injEq, exists_eq_left']
    (repeat (first | refine Rn.seq hc ?_ | refine Rn.skip hc ?_ | refine Rn.block hc ?_ | refine Rn.inBlock hc ?_ | refine Rn.scope hc ?_ | refine Rn.inScope hc ?_))
    refine Rn.ret (endQ_two rfl ⟨hx03, fun h => absurd h he, fun _ => ?_⟩)
    simp only [sg_eq, sg_ne, sp_n, Nat.reduceLT, ne_eq, Nat.reduceEqDiff, not_false_eq_true]
end Go.Proofs.Ytdaljohmfnfgiaa

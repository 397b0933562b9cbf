/- LassoCounted returns true for every input, and each argument reads afterwards as it read before. No condition. -/
import Derived.Test.YtdaljohmfnfgiaaXd
/- Numbers that are found and counted in a stream. No condition. -/
namespace Go.Proofs.Ytdaljohmfnfgiaa
open Go Go.RowKit Go.Proofs.Ytdaljohmfnfgiaa.Canon

theorem ffrom_some {p : Nat → Bool} : ∀ {L n j : Nat}, n ≤ j → j < n + L → p j = true → ∃ k, ffrom p n L = some k ∧ n ≤ k ∧ k ≤ j ∧ p k = true ∧ ∀ i, n ≤ i → i < k → p i = false := by
  intro L
  induction L with
  | zero => intro n j h1 h2 _; omega
  | succ L ih =>
    intro n j h1 h2 hj
    unfold ffrom
    by_cases hp : p n = true
    · rw [if_pos hp]
      exact ⟨n, rfl, Nat.le_refl _, h1, hp, fun i h3 h4 => by omega⟩
    · rw [if_neg hp]
      have hne : n ≠ j := fun e => by subst e; exact hp hj
      obtain ⟨k, q1, q2, q3, q4, q5⟩ := ih (n := n + 1) (j := j) (by omega) (by omega) hj
      refine ⟨k, q1, by omega, q3, q4, fun i h3 h4 => ?_⟩
      by_cases hi : i = n
      · subst hi; simpa using hp
      · exact q5 i (by omega) h4
theorem ffrom_none {p : Nat → Bool} (h : ∀ j, p j = false) : ∀ {L n : Nat}, ffrom p n L = none := by
  intro L
  induction L with
  | zero => intro n; rfl
  | succ L ih =>
    intro n
    unfold ffrom
    rw [if_neg (by rw [h]; decide)]
    exact ih
/-- The same elements, from a place on that is not far. -/
theorem near_place {st ro : List Int} (hro : 0 < ro.length) (n : Nat) : ∃ k, k ≤ n ∧ k < st.length + ro.length ∧ ∀ i, atL st ro (k + i) = atL st ro (n + i) := by
  by_cases h : n < st.length
  · exact ⟨n, Nat.le_refl _, by omega, fun _ => rfl⟩
  · have hm := Nat.mod_lt (n - st.length) hro
    have hle := Nat.mod_le (n - st.length) ro.length
    refine ⟨st.length + (n - st.length) % ro.length, by omega, by omega, fun i => ?_⟩
    refine (atL_per (st := st) hro).same (by omega) (by omega) ?_
    have h1 := Nat.div_add_mod (n - st.length) ro.length
    have : n + i = st.length + (n - st.length) % ro.length + i + ro.length * ((n - st.length) / ro.length) := by omega
    rw [this, Nat.add_mul_mod_self_left]
theorem takeL_eq {st ro : List Int} {n k many : Nat} (h : ∀ i, i < many → atL st ro (n + i) = atL st ro (k + i)) : takeL st ro n many = takeL st ro k many := by
  unfold takeL
  refine List.map_congr_left fun i hi => h i (List.mem_range.1 hi)
theorem found_word {st ro : List Int} (hro : 0 < ro.length) (n long : Nat) : ∃ k, ffrom (mat st ro (takeL st ro n long)) 0 (st.length + ro.length) = some k ∧ k ≤ n ∧ mat st ro (takeL st ro n long) k = true ∧ ∀ i, i < k → mat st ro (takeL st ro n long) i = false := by
  obtain ⟨k0, h1, h2, h3⟩ := near_place (st := st) hro n
  have hm : mat st ro (takeL st ro n long) k0 = true := by
    rw [mat_iff, takeL_len]
    exact takeL_eq fun i _ => h3 i
  obtain ⟨k, q1, _, q3, q4, q5⟩ := ffrom_some (p := mat st ro (takeL st ro n long)) (L := st.length + ro.length) (n := 0) (j := k0) (Nat.zero_le _) (by omega) hm
  exact ⟨k, q1, by omega, q4, fun i hi => q5 i (Nat.zero_le _) hi⟩
theorem inB_getD {m : Int} {l : List Int} (h : l.all (inB m) = true) {i : Nat} (hi : i < l.length) : 0 ≤ l.getD i 0 ∧ l.getD i 0 < m := by
  rw [List.all_eq_true] at h
  have := h l[i] (List.getElem_mem hi)
  simp only [inB, Bool.and_eq_true, decide_eq_true_eq] at this
  simpa [List.getD_eq_getElem?_getD, hi] using this
theorem atL_in {m : Int} {st ro : List Int} (h1 : st.all (inB m) = true) (h2 : ro.all (inB m) = true) (hro : 0 < ro.length) (n : Nat) : 0 ≤ atL st ro n ∧ atL st ro n < m := by
  unfold atL
  split
  · rename_i h; exact inB_getD h1 h
  · exact inB_getD h2 (Nat.mod_lt _ hro)
theorem none_word {m : Int} {st ro : List Int} (h1 : st.all (inB m) = true) (h2 : ro.all (inB m) = true) (hro : 0 < ro.length) (word : List Int) : ffrom (mat st ro (word ++ [m])) 0 (st.length + ro.length) = none := by
  refine ffrom_none fun j => ?_
  cases hm : mat st ro (word ++ [m]) j with
  | false => rfl
  | true =>
    rw [mat_iff] at hm
    have hl : word.length < (word ++ [m]).length := by simp
    have := takeL_get st ro j (word ++ [m]).length hl
    rw [hm] at this
    have hin := atL_in h1 h2 hro (j + word.length)
    simp [List.getD_eq_getElem?_getD] at this
    omega

theorem takeL_append (st ro : List Int) (n a b : Nat) : takeL st ro n (a + b) = takeL st ro n a ++ takeL st ro (n + a) b := by
  unfold takeL
  rw [List.range_add, List.map_append, List.map_map]
  congr 1
  refine List.map_congr_left fun i _ => ?_
  simp [Nat.add_assoc]
theorem takeL_st {st ro : List Int} {n : Nat} (h : n ≤ st.length) : takeL st ro 0 n = st.take n := by
  refine List.ext_getElem (by rw [takeL_len]; simp; omega) fun i h1 h2 => ?_
  rw [takeL_len] at h1
  simp [takeL, atL, List.getD_eq_getElem?_getD, show i < st.length by omega]
theorem takeL_ro {st ro : List Int} {n : Nat} (h : n ≤ ro.length) : takeL st ro st.length n = ro.take n := by
  refine List.ext_getElem (by rw [takeL_len]; simp; omega) fun i h1 h2 => ?_
  rw [takeL_len] at h1
  simp [takeL, atL, List.getD_eq_getElem?_getD, Nat.mod_eq_of_lt (show i < ro.length by omega), show i < ro.length by omega, show ¬ (st.length + i < st.length) by omega]
theorem cnt_round (v : Int) {st ro : List Int} (hro : 0 < ro.length) : ∀ k, cnt v (takeL st ro st.length k) = k / ro.length * cnt v ro + cnt v (ro.take (k % ro.length)) := by
  intro k
  induction k using Nat.strongRecOn with
  | ind k ih =>
    by_cases h : k < ro.length
    · rw [Nat.div_eq_of_lt h, Nat.mod_eq_of_lt h, takeL_ro (Nat.le_of_lt h), Nat.zero_mul, Nat.zero_add]
    · obtain ⟨j, rfl⟩ : ∃ j, k = ro.length + j := ⟨k - ro.length, by omega⟩
      rw [takeL_append, cnt_append, takeL_ro (Nat.le_refl _), List.take_length, Nat.add_div_left _ hro, Nat.add_mod_left]
      have : takeL st ro (st.length + ro.length) j = takeL st ro st.length j := takeL_eq fun i _ => by
        have := (atL_per (st := st) hro).per (st.length + i) (by omega)
        rw [← this]
        congr 1
        omega
      rw [this, ih j (by omega), Nat.succ_mul]
      omega
theorem countN_cnt (v : Int) {st ro : List Int} (hro : 0 < ro.length) (n : Nat) : countN v n st ro = cnt v (takeL st ro 0 n) := by
  unfold countN
  split
  · rename_i h
    rw [takeL_st h]
  · obtain ⟨j, rfl⟩ : ∃ j, n = st.length + j := ⟨n - st.length, by omega⟩
    rw [takeL_append, cnt_append, takeL_st (Nat.le_refl _), List.take_length, Nat.zero_add, cnt_round v hro, Nat.add_sub_cancel_left]
    omega
theorem countN_far (v : Int) {st ro : List Int} (hro : 0 < ro.length) (far : Nat) : countN v (st.length + far * ro.length) st ro = cnt v st + far * cnt v ro := by
  rw [countN_cnt v hro, takeL_append, cnt_append, takeL_st (Nat.le_refl _), List.take_length, Nat.zero_add, cnt_round v hro, Nat.mul_div_cancel _ hro, Nat.mul_mod_left]
  simp [cnt]
/-- All numbers together. -/
def cntAll (l : List Int) : Nat → Nat
  | 0 => 0
  | v + 1 => cntAll l v + cnt (v : Int) l
theorem cntAll_nil (m : Nat) : cntAll [] m = 0 := by
  induction m with
  | zero => rfl
  | succ m ih => simp [cntAll, ih, cnt]
theorem cntAll_cons (x : Int) (l : List Int) (m : Nat) : cntAll (x :: l) m = cntAll l m + (if 0 ≤ x ∧ x < (m : Int) then 1 else 0) := by
  induction m with
  | zero =>
    rw [if_neg (by omega)]
    rfl
  | succ m ih =>
    simp only [cntAll, cnt, ih]
    by_cases h1 : x = (m : Int)
    · subst h1
      rw [if_neg (by omega), if_pos rfl, if_pos (by omega)]
      omega
    · rw [if_neg h1]
      by_cases h2 : 0 ≤ x ∧ x < (m : Int)
      · rw [if_pos h2, if_pos (by omega)]; omega
      · rw [if_neg h2, if_neg (by omega)]; omega
theorem cntAll_len {m : Nat} : ∀ {l : List Int}, (∀ x ∈ l, 0 ≤ x ∧ x < (m : Int)) → cntAll l m = l.length := by
  intro l
  induction l with
  | nil => intro _; exact cntAll_nil m
  | cons x l ih =>
    intro h
    rw [cntAll_cons, if_pos (h x (by simp)), ih fun y hy => h y (by simp [hy])]
    simp
theorem cntAll_take {m : Nat} {st ro : List Int} (h1 : st.all (inB m) = true) (h2 : ro.all (inB m) = true) (hro : 0 < ro.length) (n : Nat) : cntAll (takeL st ro 0 n) m = n := by
  rw [cntAll_len, takeL_len]
  intro x hx
  obtain ⟨i, _, rfl⟩ := List.mem_map.1 hx
  exact atL_in h1 h2 hro _
end Go.Proofs.Ytdaljohmfnfgiaa
/- LassoCounted returns true. No condition. -/
namespace Go.Proofs.Ytdaljohmfnfgiaa
open Go Go.RowKit Go.Proofs.Ytdaljohmfnfgiaa.Canon
set_option maxRecDepth 20000
theorem tk28 : tk Try.prog 28 = .one := by kernel_rfl
theorem tk64 : tk Try.prog 64 = .one := by kernel_rfl
theorem un64 : Try.prog.underlying 64 = some (.int .u16) := by kernel_rfl
theorem cv53 {n : Nat} (hn : n < 256) {A : AHeap} : aconvert Try.prog 5 3 (.int .u8 (n : Int)) A = some (.int .i64 (n : Int), A) := by
  rw [cv_int un5 un3, IntWalk.i64_in _ (by omega)]
theorem cv643 {n : Nat} (hn : n < 65536) {A : AHeap} : aconvert Try.prog 64 3 (.int .u16 (n : Int)) A = some (.int .i64 (n : Int), A) := by
  rw [cv_int un64 un3, IntWalk.i64_in _ (by omega)]


section
variable {ρ : Operand → Value} {d : Option Tmp} {ty : TypeId} {pos : String} {af : Array Edge} {gu : Option (Nat × Bool)} {A : AHeap}
theorem so22_5 : sof Try.prog 22 5 = .mk (fun k => some (k * 1, 1)) 5 [.int .i64 0, .int .i64 0, .int .i64 0, .int .i64 0, .int .i64 0] := by kernel_rfl
theorem bs22_5 {s : Slots} {a b c e f : Int} : aexec Try.prog (seval s) ⟨d, .buildSlice 22 5 #[(0, .const (.int .i64 a)), (1, .const (.int .i64 b)), (2, .const (.int .i64 c)), (3, .const (.int .i64 e)), (4, .const (.int .i64 f))], ty, pos, af, gu⟩ A = some (.slice (some ⟨A.next, 0, none⟩) 5 5, A.push (.cells #[.int .i64 a, .int .i64 b, .int .i64 c, .int .i64 e, .int .i64 f] 3)) := by
  refine ae_buildSlice (r := [.int .i64 a, .int .i64 b, .int .i64 c, .int .i64 e, .int .i64 f]) (by rfl) so22_5 et22 rfl ?_
  simp [fbld, Value.cells, sev_const]
end
theorem s_in5 (n : Nat) (a b c e f : Value) : (⟨n, sargs [a, b, c, e, f] 0 .leaf⟩ : Slots) = sput (sput (sput (sput (sput ⟨n, .leaf⟩ (some 0) a) (some 1) b) (some 2) c) (some 3) e) (some 4) f := rfl
/-- A list is copied, and may be appended to. -/
theorem dup_gr {A : AHeap} (hw : WF A) {a : Option Addr} {c : Nat} {l : List Int} (h : Ints A a 0 A.next l) (hlen : l.length ≤ 1000) :
    Con Try.prog 51 [.slice a l.length c] A (fun v A1 => ∃ a', v = .slice a' l.length l.length ∧ Nx A.next A A1 ∧ Gr A1 a' A.next l) := by
  refine con_of_rn hc Try.func51 rfl (Nat.le_of_ble_eq_true rfl) ?_
  rw [s_in1]
  have hx1 : Nx A.next A (A.push (.cells #[] 3)) := (Nx.refl hw _).push (Nat.le_refl _) _
  have h1 : Ints (A.push (.cells #[] 3)) a 0 (A.push (.cells #[] 3)).next l := (h.nx hx1 (Nat.le_refl _)).mono (Nat.le_refl _) hx1.next
  have key : ∃ a' A1, aapp Try.prog #[22, 22] #[.slice (some ⟨A.next, 0, none⟩) 0 0, .slice a l.length c] (A.push (.cells #[] 3)) = some (.slice a' l.length l.length, A1) ∧ Nx A.next A A1 ∧ Gr A1 a' A.next l := by
    by_cases h0 : l.length = 0
    · have hl : l = [] := List.length_eq_zero_iff.1 h0
      subst hl
      exact ⟨some ⟨A.next, 0, none⟩, _, aapp_nil el22 un22 (Nat.le_refl _), hx1, fun i hi => by simp at hi, fun x hx => by cases hx; exact ⟨rfl, Nat.le_refl _, _, look_push_eq _ _, .inl rfl⟩⟩
    · obtain ⟨A1, h1', h2⟩ := aapp_new (P := Try.prog) (A := A.push (.cells #[] 3)) (c := 0) (c2 := c) (a := some ⟨A.next, 0, none⟩) (n := 0) (l := []) (m := l.length) el22 un22 (.inl rfl) (by simp)
        (fun x hx => by cases hx; exact ⟨_, look_push_eq _ _, .inl rfl⟩) (fun h => by cases h) h1.row (by simp) (by simp [isCell]) (fun h' => by subst h'; exact absurd h1.some h0) (by omega) (by omega) (by omega)
      simp only [Nat.zero_add] at h1'
      have hnx := h2.nx hx1.wf (n := A.next) hx1.next (fun x hx => by cases hx; exact .inl (Nat.le_refl _))
      refine ⟨_, A1, h1', hx1.trans hnx, fun i hi => ⟨_, _, rfl, hx1.next, by rw [h2.next]; omega, ?_⟩, fun x hx => by cases hx; exact ⟨rfl, hx1.next, _, h2.new, .inr ⟨rfl, rfl, rfl⟩⟩⟩
      rw [h2.cl]
      simp [List.getD_eq_getElem?_getD, hi]
  obtain ⟨a', A1, e1, hx2, hg⟩ := key
  (repeat (first | refine Rn.seq hc ?_ | refine Rn.skip hc ?_ | refine Rn.block hc ?_ | refine Rn.inBlock hc ?_ | refine Rn.scope hc ?_ | refine Rn.inScope hc ?_))
  refine Rn.reg hc rfl ?_
  simp only [sev_const, gd, want_free, rops, fx, Option.some.injEq, exists_eq_left', show Try.f51.ntmps = 6 from rfl]
  (repeat (first | refine Rn.seq hc ?_ | refine Rn.skip hc ?_ | refine Rn.block hc ?_ | refine Rn.inBlock hc ?_ | refine Rn.scope hc ?_ | refine Rn.inScope hc ?_))
  refine Rn.reg hc rfl ?_
  simp only [sev_tmp, sg_eq, sg_ne, sp_n, Nat.reduceLT, ne_eq, Nat.reduceEqDiff, not_false_eq_true, gd, want_free, rops, fx, Option.some.injEq, exists_eq_left', bs22_0, ae_apd, apd_slice, e1]
  (repeat (first | refine Rn.seq hc ?_ | refine Rn.skip hc ?_ | refine Rn.block hc ?_ | refine Rn.inBlock hc ?_ | refine Rn.scope hc ?_ | refine Rn.inScope hc ?_))
  refine Rn.ret (endQ_tmp rfl ⟨a', ?_, hx2, hg⟩)
  simp only [sg_eq, sp_n, Nat.reduceLT]

theorem errL_ok {m : Nat} {st ro : List Int} (h : 2 ≤ m ∧ m ≤ 65521) (h1 : st.length ≤ 60) (h2 : 1 ≤ ro.length) (h3 : ro.length ≤ 120) (h4 : st.all (inB m) = true) (h5 : ro.all (inB m) = true) : errL m st ro = 0 := by
  unfold errL
  rw [if_neg (by simp [badM]; omega), if_neg (by simp [badN]; omega), if_pos (by rw [h4, h5]; rfl)]

theorem bin_neqb (a b : Bool) (A : AHeap) : bin Try.prog .neq 4 (.bool a) (.bool b) A = some (.bool (a != b), A) := by
  have h : aeql Try.prog 4 (.bool a) (.bool b) = some (a == b) := by cases a <;> cases b <;> kernel_rfl
  show (aeql Try.prog 4 (.bool a) (.bool b)).map (fun b => (Value.bool !b, A)) = _
  rw [h]
  rfl
def cS (l : List Int) (u : Value) : Canon.Spec := fun g _ A v A1 => match g with
  | 51 => ∃ a', v = .slice a' l.length l.length ∧ Nx A.next A A1 ∧ Gr A1 a' A.next l
  | _ => v = u ∧ Nx A.next A A1
theorem cntAll_le (l : List Int) (v : Nat) : cntAll l v ≤ v * l.length := by
  induction v with
  | zero => simp [cntAll]
  | succ v ih =>
    have := cnt_le (v : Int) l
    simp only [cntAll, Nat.succ_mul]
    omega
theorem law_counted {A : AHeap} (hw : WF A) {na : Option Addr} {nn nc : Nat} (hb : Bys A na A.next nn) (hnn : nn < 9223372036854775808) {fr lo n far : Nat} (hfr : fr < 256) (hlo : lo < 256) (hn8 : n < 256) (hfar : far < 65536) :
    ConF Try.prog 14 [.slice na nn nc, .int .u8 (fr : Int), .int .u8 (lo : Int), .int .u8 (n : Int), .int .u16 (far : Int)] A (fun w A1 => w = .bool true ∧ Nx A.next A A1) := by
  refine conF_of_rn hc Try.func14 rfl (Nat.le_of_ble_eq_true rfl) ?_
  rw [s_in5]
  (repeat (first | refine Rn.seq hc ?_ | refine Rn.skip hc ?_ | refine Rn.block hc ?_ | refine Rn.inBlock hc ?_ | refine Rn.scope hc ?_ | refine Rn.inScope hc ?_))
  refine Rn.reg hc rfl ?_
  simp only [sev_const, gd, want_free, rops, fx, Option.some.injEq, exists_eq_left', show Try.f14.ntmps = 243 from rfl]
  (repeat (first | refine Rn.seq hc ?_ | refine Rn.skip hc ?_ | refine Rn.block hc ?_ | refine Rn.inBlock hc ?_ | refine Rn.scope hc ?_ | refine Rn.inScope hc ?_))
  refine Rn.region hc fun K hK => ?_
  refine Wo.run hc 1 rfl rfl rfl ?_
  simp (maxSteps := 2000000) only [List.drop_zero, List.take_succ_cons, List.take_zero, sev_tmp, sg_eq, sg_ne, Nat.reduceLT, ne_eq, Nat.reduceEqDiff, not_false_eq_true, gd, want_free, rops, fx, Nat.zero_add, Option.some.injEq, exists_eq_left']
  refine Wo.call hc (by rfl) (by rfl) ⟨by rfl, by rfl⟩ (xs := [.slice na nn nc]) (by first | rfl | (simp only [sev_tmp, sev_const, sev_func, sg_eq, sg_ne, sp_n, sp_none, Nat.reduceLT, ne_eq, Nat.reduceEqDiff, not_false_eq_true, gd, nth, want_free, want_slot, beqB, List.map_cons, List.map_nil, Array.toList_empty, List.nil_append, List.append_nil, List.cons_append]; done) | (simp only [sev_tmp, sev_const, sev_func, sg_eq, sg_ne, sp_n, sp_none, Nat.reduceLT, ne_eq, Nat.reduceEqDiff, not_false_eq_true, gd, nth, want_free, want_slot, beqB, List.map_cons, List.map_nil, Array.toList_empty, List.nil_append, List.append_nil, List.cons_append]; rfl)) (by first | rfl | (simp only [sev_tmp, sev_const, sev_func, sg_eq, sg_ne, sp_n, sp_none, Nat.reduceLT, ne_eq, Nat.reduceEqDiff, not_false_eq_true, gd, nth, want_free, want_slot, beqB, List.map_cons, List.map_nil, Array.toList_empty, List.nil_append, List.append_nil, List.cons_append]; done) | (simp only [sev_tmp, sev_const, sev_func, sg_eq, sg_ne, sp_n, sp_none, Nat.reduceLT, ne_eq, Nat.reduceEqDiff, not_false_eq_true, gd, nth, want_free, want_slot, beqB, List.map_cons, List.map_nil, Array.toList_empty, List.nil_append, List.append_nil, List.cons_append]; rfl)) (by first | rfl | (simp only [sev_tmp, sev_const, sev_func, sg_eq, sg_ne, sp_n, sp_none, Nat.reduceLT, ne_eq, Nat.reduceEqDiff, not_false_eq_true, gd, nth, want_free, want_slot, beqB, List.map_cons, List.map_nil, Array.toList_empty, List.nil_append, List.append_nil, List.cons_append]; done) | (simp only [sev_tmp, sev_const, sev_func, sg_eq, sg_ne, sp_n, sp_none, Nat.reduceLT, ne_eq, Nat.reduceEqDiff, not_false_eq_true, gd, nth, want_free, want_slot, beqB, List.map_cons, List.map_nil, Array.toList_empty, List.nil_append, List.append_nil, List.cons_append]; rfl)) (Con.mono (fill_sack hw hb) ?_)
  rintro w A1 ⟨rfl, hn1, hx1, S1⟩
  refine Wo.run hc 1 rfl rfl rfl ?_
  simp (maxSteps := 2000000) only [List.drop_zero, List.drop_succ_cons, List.take_succ_cons, List.take_zero, sev_tmp, sg_eq, sp_n, Nat.reduceLT, gd, want_free, rops, fx, Option.some.injEq, exists_eq_left', Nat.reduceAdd]
  refine Wo.done hc rfl (hK _ _ ?_)
  clear hK
  (repeat (first | refine Rn.seq hc ?_ | refine Rn.skip hc ?_ | refine Rn.block hc ?_ | refine Rn.inBlock hc ?_ | refine Rn.scope hc ?_ | refine Rn.inScope hc ?_))
  have hx2 : Nx A1.next A1 (A1.push (.cells #[.int .i64 2, .int .i64 3, .int .i64 4, .int .i64 5, .int .i64 7] 3)) := (Nx.refl hx1.wf _).push (Nat.le_refl _) _
  have l2 := look_push_eq A1 (.cells #[.int .i64 2, .int .i64 3, .int .i64 4, .int .i64 5, .int .i64 7] 3)
  have hn2 : (A1.push (.cells #[.int .i64 2, .int .i64 3, .int .i64 4, .int .i64 5, .int .i64 7] 3)).next = A1.next + 1 := rfl
  generalize e2 : A1.push (.cells #[.int .i64 2, .int .i64 3, .int .i64 4, .int .i64 5, .int .i64 7] 3) = A2 at hx2 l2 hn2
  have S2 : Sack A2 A.next na nn nc A.next 0 := S1.same hx2.wf fun b' hb' => hx2.keep _ (by omega)
  refine Rn.region hc fun K hK => ?_
  refine Wo.run hc 2 rfl rfl rfl ?_
  simp (maxSteps := 2000000) only [List.drop_zero, List.take_succ_cons, List.take_zero, sev_tmp, sg_eq, sg_ne, sp_n, Nat.reduceLT, ne_eq, Nat.reduceEqDiff, not_false_eq_true, gd, want_free, rops, fx, Nat.zero_add, Option.some.injEq, exists_eq_left', bs22_5, e2]
  refine Wo.call hc (by rfl) (by rfl) ⟨by rfl, by rfl⟩ (xs := [.pointer (some ⟨A.next, 0, none⟩), .int .i64 ((5 : Nat) : Int)]) (by first | rfl | (simp only [sev_tmp, sev_const, sev_func, sg_eq, sg_ne, sp_n, sp_none, Nat.reduceLT, ne_eq, Nat.reduceEqDiff, not_false_eq_true, gd, nth, want_free, want_slot, beqB, List.map_cons, List.map_nil, Array.toList_empty, List.nil_append, List.append_nil, List.cons_append]; done) | (simp only [sev_tmp, sev_const, sev_func, sg_eq, sg_ne, sp_n, sp_none, Nat.reduceLT, ne_eq, Nat.reduceEqDiff, not_false_eq_true, gd, nth, want_free, want_slot, beqB, List.map_cons, List.map_nil, Array.toList_empty, List.nil_append, List.append_nil, List.cons_append]; rfl)) (by first | rfl | (simp only [sev_tmp, sev_const, sev_func, sg_eq, sg_ne, sp_n, sp_none, Nat.reduceLT, ne_eq, Nat.reduceEqDiff, not_false_eq_true, gd, nth, want_free, want_slot, beqB, List.map_cons, List.map_nil, Array.toList_empty, List.nil_append, List.append_nil, List.cons_append]; done) | (simp only [sev_tmp, sev_const, sev_func, sg_eq, sg_ne, sp_n, sp_none, Nat.reduceLT, ne_eq, Nat.reduceEqDiff, not_false_eq_true, gd, nth, want_free, want_slot, beqB, List.map_cons, List.map_nil, Array.toList_empty, List.nil_append, List.append_nil, List.cons_append]; rfl)) (by first | rfl | (simp only [sev_tmp, sev_const, sev_func, sg_eq, sg_ne, sp_n, sp_none, Nat.reduceLT, ne_eq, Nat.reduceEqDiff, not_false_eq_true, gd, nth, want_free, want_slot, beqB, List.map_cons, List.map_nil, Array.toList_empty, List.nil_append, List.append_nil, List.cons_append]; done) | (simp only [sev_tmp, sev_const, sev_func, sg_eq, sg_ne, sp_n, sp_none, Nat.reduceLT, ne_eq, Nat.reduceEqDiff, not_false_eq_true, gd, nth, want_free, want_slot, beqB, List.map_cons, List.map_nil, Array.toList_empty, List.nil_append, List.append_nil, List.cons_append]; rfl)) (Con.mono (below_sack S2 (by omega) hnn (m := ((5 : Nat) : Int)) (by omega)) ?_)
  rintro w A3 ⟨r, rfl, hr, k3, nx3, hnx3, S3⟩
  have hr5 : r < 5 := by omega
  have l3 : Canon.look A3.objs A1.next = _ := (k3.keep _ (by omega) (by omega)).trans l2
  obtain ⟨m, hm2, hm7, hcm⟩ : ∃ m : Nat, 2 ≤ m ∧ m ≤ 7 ∧ cl A3 A1.next (0 + r * 1) = some (.int .i64 (m : Int)) := by
    rw [cl_of l3 rfl]
    match r, hr5 with
    | 0, _ => exact ⟨2, by omega, by omega, rfl⟩
    | 1, _ => exact ⟨3, by omega, by omega, rfl⟩
    | 2, _ => exact ⟨4, by omega, by omega, rfl⟩
    | 3, _ => exact ⟨5, by omega, by omega, rfl⟩
    | 4, _ => exact ⟨7, by omega, by omega, rfl⟩
  have hcm' : cl A3 A1.next r = some (.int .i64 (m : Int)) := by simpa using hcm
  refine Wo.run hc 3 rfl rfl rfl ?_
  simp (maxSteps := 2000000) only [List.drop_zero, List.drop_succ_cons, List.take_succ_cons, List.take_zero, sev_tmp, sg_eq, sg_ne, sp_n, Nat.reduceLT, ne_eq, Nat.reduceEqDiff, not_false_eq_true, gd, want_free, rops, fx, ld, idx, adr_p, Nat.zero_add, Option.some.injEq, exists_eq_left', Nat.reduceAdd, Nat.mul_one, tk3, eo22, nlen_nat hr5, hcm']
  refine Wo.done hc rfl (hK _ _ ?_)
  clear hK
  (repeat (first | refine Rn.seq hc ?_ | refine Rn.skip hc ?_ | refine Rn.block hc ?_ | refine Rn.inBlock hc ?_ | refine Rn.scope hc ?_ | refine Rn.inScope hc ?_))
  refine Rn.region hc fun K hK => ?_
  refine Wo.run hc 2 rfl rfl rfl ?_
  simp (maxSteps := 2000000) only [List.drop_zero, List.take_succ_cons, List.take_zero, sev_tmp, sg_eq, sg_ne, sp_n, Nat.reduceLT, ne_eq, Nat.reduceEqDiff, not_false_eq_true, gd, want_free, rops, fx, Nat.zero_add, Option.some.injEq, exists_eq_left']
  refine Wo.call hc (by rfl) (by rfl) ⟨by rfl, by rfl⟩ (xs := [.pointer (some ⟨A.next, 0, none⟩), .int .i64 (m : Int), .int .i64 ((12 : Nat) : Int), .int .i64 ((12 : Nat) : Int)]) (by first | rfl | (simp only [sev_tmp, sev_const, sev_func, sg_eq, sg_ne, sp_n, sp_none, Nat.reduceLT, ne_eq, Nat.reduceEqDiff, not_false_eq_true, gd, nth, want_free, want_slot, beqB, List.map_cons, List.map_nil, Array.toList_empty, List.nil_append, List.append_nil, List.cons_append]; done) | (simp only [sev_tmp, sev_const, sev_func, sg_eq, sg_ne, sp_n, sp_none, Nat.reduceLT, ne_eq, Nat.reduceEqDiff, not_false_eq_true, gd, nth, want_free, want_slot, beqB, List.map_cons, List.map_nil, Array.toList_empty, List.nil_append, List.append_nil, List.cons_append]; rfl)) (by first | rfl | (simp only [sev_tmp, sev_const, sev_func, sg_eq, sg_ne, sp_n, sp_none, Nat.reduceLT, ne_eq, Nat.reduceEqDiff, not_false_eq_true, gd, nth, want_free, want_slot, beqB, List.map_cons, List.map_nil, Array.toList_empty, List.nil_append, List.append_nil, List.cons_append]; done) | (simp only [sev_tmp, sev_const, sev_func, sg_eq, sg_ne, sp_n, sp_none, Nat.reduceLT, ne_eq, Nat.reduceEqDiff, not_false_eq_true, gd, nth, want_free, want_slot, beqB, List.map_cons, List.map_nil, Array.toList_empty, List.nil_append, List.append_nil, List.cons_append]; rfl)) (by first | rfl | (simp only [sev_tmp, sev_const, sev_func, sg_eq, sg_ne, sp_n, sp_none, Nat.reduceLT, ne_eq, Nat.reduceEqDiff, not_false_eq_true, gd, nth, want_free, want_slot, beqB, List.map_cons, List.map_nil, Array.toList_empty, List.nil_append, List.append_nil, List.cons_append]; done) | (simp only [sev_tmp, sev_const, sev_func, sg_eq, sg_ne, sp_n, sp_none, Nat.reduceLT, ne_eq, Nat.reduceEqDiff, not_false_eq_true, gd, nth, want_free, want_slot, beqB, List.map_cons, List.map_nil, Array.toList_empty, List.nil_append, List.append_nil, List.cons_append]; rfl)) (Con.mono (drawn S3 (by omega) hnn (m := m) (stem := 12) (round := 12) (by omega) (by omega) (by omega)) ?_)
  rintro w A4 ⟨k4, ⟨nx4, hnx4, S4⟩, sa, ra, st, ro, rfl, hst, hro1, hro2, hin1, hin2, hgs, hgr⟩
  obtain ⟨A5, p5, hx5, hn5, d0, d1, d2⟩ := put24 S4.wf (v0 := .int .i64 (m : Int)) (v1 := .slice sa st.length st.length) (v2 := .slice ra ro.length ro.length) rfl
  refine Wo.run hc 2 rfl rfl rfl ?_
  simp (maxSteps := 2000000) only [List.drop_zero, List.drop_succ_cons, List.take_succ_cons, List.take_zero, sev_tmp, sg_eq, sg_ne, sp_n, sp_none, Nat.reduceLT, ne_eq, Nat.reduceEqDiff, not_false_eq_true, gd, want_free, rops, fx, str, adr_p, Nat.zero_add, Option.some.injEq, exists_eq_left', Value.cells, Nat.reduceAdd, tk24, ze24, p5, List.size_toArray, List.length_cons, List.length_nil, Nat.beq_refl]
  refine Wo.done hc rfl (hK _ _ ?_)
  clear hK
  (repeat (first | refine Rn.seq hc ?_ | refine Rn.skip hc ?_ | refine Rn.block hc ?_ | refine Rn.inBlock hc ?_ | refine Rn.scope hc ?_ | refine Rn.inScope hc ?_))
  have he : errL m st ro = 0 := errL_ok (by omega) (by omega) hro1 (by omega) hin1 hin2
  have hx05 : Nx A.next A A5 := ⟨by have := k3.next; have := k4.next; omega, hx5.wf, fun b hb' => by
    have := k3.next
    have := k4.next
    rw [hx5.keep _ (by omega), k4.keep _ (by omega) (by omega), k3.keep _ (by omega) (by omega), hx2.keep _ (by omega), hx1.keep _ (by omega)]⟩
  have x1 : Ints A5 sa 0 A5.next st := ((hgs.ints.nx hx5 (Nat.le_refl _)).mono (Nat.zero_le _) hx5.next)
  have x2 : Ints A5 ra 0 A5.next ro := ((hgr.ints.nx hx5 (Nat.le_refl _)).mono (Nat.zero_le _) hx5.next)
  have y1 : Sl A5 sa 0 := (hgs.sl.nx S4.wf hx5).mono (Nat.zero_le _)
  have y2 : Sl A5 ra 0 := (hgr.sl.nx S4.wf hx5).mono (Nat.zero_le _)
  have n45 : A4.next < A5.next := by omega
  have w5 := hx5.wf
  clear hx5 p5 hgs hgr S4 k4 hnx4 S3 k3 hcm hcm' l3 l2 S2 hx2 e2 hn2 S1 hx1
  refine Rn.reg hc rfl ?_
  simp only [sev_const, gd, want_free, rops, fx, Option.some.injEq, exists_eq_left']
  (repeat (first | refine Rn.seq hc ?_ | refine Rn.skip hc ?_ | refine Rn.block hc ?_ | refine Rn.inBlock hc ?_ | refine Rn.scope hc ?_ | refine Rn.inScope hc ?_))
  have hrem : ∀ M, bin Try.prog .rem 3 (.int .i64 (lo : Int)) (.int .i64 6) M = some (.int .i64 ((lo % 6 : Nat) : Int), M) := fun M => by
    rw [bin_rem _ _ _ _ (by omega), IntWalk.rem_in _ _ (by omega)]
    rfl
  have hlong : lo % 6 < 6 := Nat.mod_lt _ (by omega)
  generalize lo % 6 = long at hrem hlong
  refine Rn.reg hc rfl ?_
  simp only [sev_tmp, sev_const, sg_eq, sg_ne, sp_n, Nat.reduceLT, ne_eq, Nat.reduceEqDiff, not_false_eq_true, gd, want_free, rops, fx, Option.some.injEq, exists_eq_left', ae_cv, cv53 hlo, hrem]
  (repeat (first | refine Rn.seq hc ?_ | refine Rn.skip hc ?_ | refine Rn.block hc ?_ | refine Rn.inBlock hc ?_ | refine Rn.scope hc ?_ | refine Rn.inScope hc ?_))
  refine Rn.loopI hc (I := fun k s A' => ∃ i wa, i ≤ long ∧ k = long - i ∧ Nx A5.next A5 A' ∧ Gr A' wa A5.next (takeL st ro fr i) ∧ s.n = 243 ∧ sget s 1 = .int .u8 (fr : Int) ∧ sget s 3 = .int .u8 (n : Int) ∧ sget s 4 = .int .u16 (far : Int) ∧ sget s 12 = .int .i64 (m : Int) ∧ sget s 13 = .pointer (some ⟨A4.next, 0, none⟩) ∧ sget s 14 = .slice wa i i ∧ sget s 51 = .int .i64 (long : Int) ∧ sget s 52 = .int .i64 (i : Int))
    (n := long) ⟨0, none, by omega, rfl, Nx.refl w5 _, Gr.nil _ _, by simp only [sp_n], by simp only [sg_eq, sg_ne, sp_n, Nat.reduceLT, ne_eq, Nat.reduceEqDiff, not_false_eq_true], by simp only [sg_eq, sg_ne, sp_n, Nat.reduceLT, ne_eq, Nat.reduceEqDiff, not_false_eq_true], by simp only [sg_eq, sg_ne, sp_n, Nat.reduceLT, ne_eq, Nat.reduceEqDiff, not_false_eq_true], by simp only [sg_eq, sg_ne, sp_n, Nat.reduceLT, ne_eq, Nat.reduceEqDiff, not_false_eq_true], by simp only [sg_eq, sg_ne, sp_n, Nat.reduceLT, ne_eq, Nat.reduceEqDiff, not_false_eq_true], by simp only [sg_eq, sg_ne, sp_n, Nat.reduceLT, ne_eq, Nat.reduceEqDiff, not_false_eq_true], by simp only [sg_eq, sg_ne, sp_n, Nat.reduceLT, ne_eq, Nat.reduceEqDiff, not_false_eq_true], by simp only [sg_eq, sp_n, Nat.reduceLT]; rfl⟩ ?_
  rintro k s A' ⟨i, wa, hi, rfl, hA, hg, hn, s1, s3, s4, s12, s13, s14, s51, s52⟩ ih
  have d0' := (hA.cl n45 0).trans d0
  have d1' := (hA.cl n45 1).trans d1
  have d2' := (hA.cl n45 2).trans d2
  have nA := hA.next
  (repeat (first | refine Rn.seq hc ?_ | refine Rn.skip hc ?_ | refine Rn.block hc ?_ | refine Rn.inBlock hc ?_ | refine Rn.scope hc ?_ | refine Rn.inScope hc ?_))
  by_cases hlt : i < long
  · have hd : decide ((i : Int) < (long : Int)) = true := by simp; omega
    refine Rn.reg hc rfl ?_
    simp only [sev_tmp, gd, want_free, rops, fx, bin_lss, Option.some.injEq, exists_eq_left', s51, s52, hd]
    (repeat (first | refine Rn.seq hc ?_ | refine Rn.skip hc ?_ | refine Rn.block hc ?_ | refine Rn.inBlock hc ?_ | refine Rn.scope hc ?_ | refine Rn.inScope hc ?_))
    refine Rn.condE hc rfl ?_
    simp only [sev_tmp, sg_eq, Nat.reduceLT, Value.bool.injEq, exists_eq_left', hn]
    (repeat (first | refine Rn.seq hc ?_ | refine Rn.skip hc ?_ | refine Rn.block hc ?_ | refine Rn.inBlock hc ?_ | refine Rn.scope hc ?_ | refine Rn.inScope hc ?_))
    refine Rn.reg hc rfl ?_
    simp only [sev_tmp, sg_eq, sg_ne, sp_n, Nat.reduceLT, ne_eq, Nat.reduceEqDiff, not_false_eq_true, gd, want_free, rops, fx, Option.some.injEq, exists_eq_left', hn, s52]
    (repeat (first | refine Rn.seq hc ?_ | refine Rn.skip hc ?_ | refine Rn.block hc ?_ | refine Rn.inBlock hc ?_ | refine Rn.scope hc ?_ | refine Rn.inScope hc ?_))
    refine Rn.region hc fun K hK => ?_
    have hw1 : IntKind.i64.wrap ((fr : Int) + (i : Int)) = ((fr + i : Nat) : Int) := by rw [IntWalk.i64_in _ (by omega)]; omega
    refine Wo.run hc 6 rfl rfl rfl ?_
    simp (maxSteps := 2000000) only [List.drop_zero, List.take_succ_cons, List.take_zero, sev_tmp, sg_eq, sg_ne, sp_n, Nat.reduceLT, ne_eq, Nat.reduceEqDiff, not_false_eq_true, gd, want_free, rops, fx, ld, bin_add, adr_p, cls, Nat.zero_add, Option.some.injEq, exists_eq_left', Nat.reduceAdd, tk24, ae_cv, hn, s1, s13, s14, d0', d1', d2', cv53 hfr, hw1]
    refine Wo.call hc (by rfl) (by rfl) ⟨by rfl, by rfl⟩ (xs := [.agg #[.int .i64 (m : Int), .slice sa st.length st.length, .slice ra ro.length ro.length], .int .i64 ((fr + i : Nat) : Int)]) (by first | rfl | (simp only [sev_tmp, sev_const, sev_func, sg_eq, sg_ne, sp_n, sp_none, Nat.reduceLT, ne_eq, Nat.reduceEqDiff, not_false_eq_true, gd, nth, want_free, want_slot, beqB, List.map_cons, List.map_nil, Array.toList_empty, List.nil_append, List.append_nil, List.cons_append, hn]; done) | (simp only [sev_tmp, sev_const, sev_func, sg_eq, sg_ne, sp_n, sp_none, Nat.reduceLT, ne_eq, Nat.reduceEqDiff, not_false_eq_true, gd, nth, want_free, want_slot, beqB, List.map_cons, List.map_nil, Array.toList_empty, List.nil_append, List.append_nil, List.cons_append, hn]; rfl)) (by first | rfl | (simp only [sev_tmp, sev_const, sev_func, sg_eq, sg_ne, sp_n, sp_none, Nat.reduceLT, ne_eq, Nat.reduceEqDiff, not_false_eq_true, gd, nth, want_free, want_slot, beqB, List.map_cons, List.map_nil, Array.toList_empty, List.nil_append, List.append_nil, List.cons_append, hn]; done) | (simp only [sev_tmp, sev_const, sev_func, sg_eq, sg_ne, sp_n, sp_none, Nat.reduceLT, ne_eq, Nat.reduceEqDiff, not_false_eq_true, gd, nth, want_free, want_slot, beqB, List.map_cons, List.map_nil, Array.toList_empty, List.nil_append, List.append_nil, List.cons_append, hn]; rfl)) (by first | rfl | (simp only [sev_tmp, sg_eq, sg_ne, sp_n, Nat.reduceLT, ne_eq, Nat.reduceEqDiff, not_false_eq_true, List.map_cons, List.map_nil, List.nil_append, List.append_nil, hn]; done) | (simp only [sev_tmp, sev_const, sev_func, sg_eq, sg_ne, sp_n, sp_none, Nat.reduceLT, ne_eq, Nat.reduceEqDiff, not_false_eq_true, gd, nth, want_free, want_slot, beqB, List.map_cons, List.map_nil, Array.toList_empty, List.nil_append, List.append_nil, List.cons_append, hn]; rfl)) (Con.mono (at_law hA.wf ((x1.nx hA (Nat.le_refl _)).mono (Nat.le_refl _) hA.next) ((x2.nx hA (Nat.le_refl _)).mono (Nat.le_refl _) hA.next) (fr + i) (by omega) hro1 (by omega) (by omega)) ?_)
    rintro w B1 ⟨rfl, hy1⟩
    have hz1 : Nx B1.next B1 (B1.push (.cells #[.int .i64 (atL st ro (fr + i))] 3)) := (Nx.refl hy1.wf _).push (Nat.le_refl _) _
    have lB2 := look_push_eq B1 (.cells #[.int .i64 (atL st ro (fr + i))] 3)
    have hnB2 : (B1.push (.cells #[.int .i64 (atL st ro (fr + i))] 3)).next = B1.next + 1 := rfl
    generalize eB2 : B1.push (.cells #[.int .i64 (atL st ro (fr + i))] 3) = B2 at hz1 lB2 hnB2
    have hg2 : Gr B2 wa A5.next (takeL st ro fr i) := (hg.nx (n := 0) hA.wf hy1).nx (n := 0) hy1.wf hz1
    obtain ⟨B3, q1, n3, w3, hg3, _, nx3⟩ := gr_push hz1.wf hg2 (a2 := some ⟨B1.next, 0, none⟩) (c2 := 1) (b2 := B1.next) (x := atL st ro (fr + i)) rfl (by rw [cl_of lB2 rfl]; rfl) (by rw [takeL_len]; omega)
    rw [takeL_len] at q1
    have hsnoc : takeL st ro fr i ++ [atL st ro (fr + i)] = takeL st ro fr (i + 1) := by rw [takeL_append]; simp [takeL]
    rw [hsnoc] at hg3
    have hyn := hy1.next
    refine Wo.run hc 3 rfl rfl rfl ?_
    simp (maxSteps := 2000000) only [List.drop_zero, List.drop_succ_cons, List.take_succ_cons, List.take_zero, sev_tmp, sg_eq, sg_ne, sp_n, Nat.reduceLT, ne_eq, Nat.reduceEqDiff, not_false_eq_true, gd, want_free, rops, fx, Option.some.injEq, exists_eq_left', Nat.reduceAdd, hn, bs22_1, isCell, eB2, ae_apd, apd_slice, q1]
    refine Wo.done hc rfl (hK _ _ ?_)
    clear hK
    (repeat (first | refine Rn.seq hc ?_ | refine Rn.skip hc ?_ | refine Rn.block hc ?_ | refine Rn.inBlock hc ?_ | refine Rn.scope hc ?_ | refine Rn.inScope hc ?_))
    have hA3 : Nx A5.next A5 B3 := hA.trans ((hy1.le hA.next).trans ((hz1.le (by omega)).trans (nx3.le (by omega))))
    refine Rn.reg hc rfl ?_
    simp only [sev_tmp, sev_const, sg_eq, sg_ne, sp_n, Nat.reduceLT, ne_eq, Nat.reduceEqDiff, not_false_eq_true, gd, want_free, rops, fx, bin_add, Option.some.injEq, exists_eq_left', hn, s52, wrap_succ (show i < 9223372036854775807 by omega)]
    (repeat (first | refine Rn.seq hc ?_ | refine Rn.skip hc ?_ | refine Rn.block hc ?_ | refine Rn.inBlock hc ?_ | refine Rn.scope hc ?_ | refine Rn.inScope hc ?_))
    exact ih _ _ _ (by omega) ⟨i + 1, _, by omega, rfl, hA3, hg3.mono (by omega), by simp only [sp_n, hn], by simp only [sg_ne, ne_eq, Nat.reduceEqDiff, not_false_eq_true, s1], by simp only [sg_ne, ne_eq, Nat.reduceEqDiff, not_false_eq_true, s3], by simp only [sg_ne, ne_eq, Nat.reduceEqDiff, not_false_eq_true, s4], by simp only [sg_ne, ne_eq, Nat.reduceEqDiff, not_false_eq_true, s12], by simp only [sg_ne, ne_eq, Nat.reduceEqDiff, not_false_eq_true, s13], by simp only [sg_eq, sg_ne, sp_n, Nat.reduceLT, ne_eq, Nat.reduceEqDiff, not_false_eq_true, hn], by simp only [sg_ne, ne_eq, Nat.reduceEqDiff, not_false_eq_true, s51], by simp only [sg_eq, sp_n, Nat.reduceLT, hn]⟩
  · have hd : decide ((i : Int) < (long : Int)) = false := by simp; omega
    have hil : i = long := by omega
    subst hil
    clear ih
    refine Rn.reg hc rfl ?_
    simp only [sev_tmp, gd, want_free, rops, fx, bin_lss, Option.some.injEq, exists_eq_left', s51, s52, hd]
    (repeat (first | refine Rn.seq hc ?_ | refine Rn.skip hc ?_ | refine Rn.block hc ?_ | refine Rn.inBlock hc ?_ | refine Rn.scope hc ?_ | refine Rn.inScope hc ?_))
    refine Rn.condE hc rfl ?_
    simp only [sev_tmp, sg_eq, Nat.reduceLT, Value.bool.injEq, exists_eq_left', hn]
    (repeat (first | refine Rn.seq hc ?_ | refine Rn.skip hc ?_ | refine Rn.block hc ?_ | refine Rn.inBlock hc ?_ | refine Rn.scope hc ?_ | refine Rn.inScope hc ?_))
    refine Rn.exit hc rfl ?_
    (repeat (first | refine Rn.seq hc ?_ | refine Rn.skip hc ?_ | refine Rn.block hc ?_ | refine Rn.inBlock hc ?_ | refine Rn.scope hc ?_ | refine Rn.inScope hc ?_))
    obtain ⟨k, hf1, hkf, hf2, hf3⟩ := found_word (st := st) hro1 fr i
    have hfv : findV m st ro (takeL st ro fr i) = .tuple #[.int .i64 (k : Int), .int .i64 0] := by
      unfold findV
      rw [if_pos he, takeL_len, if_neg (by omega), hf1]
      rfl
    have hwl := takeL_len st ro fr i
    have hword : takeL st ro fr i = takeL st ro fr i := rfl
    generalize takeL st ro fr i = word at hg hf1 hf2 hf3 hfv hwl
    subst hwl
    refine Rn.region hc fun K hK => ?_
    refine Wo.run hc 2 rfl rfl rfl ?_
    simp (maxSteps := 2000000) only [List.drop_zero, List.take_succ_cons, List.take_zero, sev_tmp, sg_ne, ne_eq, Nat.reduceEqDiff, not_false_eq_true, gd, want_free, rops, fx, ld, adr_p, cls, Nat.zero_add, Option.some.injEq, exists_eq_left', Nat.reduceAdd, tk24, s13, s14, d0', d1', d2']
    refine Wo.call hc (by rfl) (by rfl) ⟨by rfl, by rfl⟩ (xs := [.agg #[.int .i64 (m : Int), .slice sa st.length st.length, .slice ra ro.length ro.length], .slice wa word.length word.length]) (by first | rfl | (simp only [sev_tmp, sev_const, sev_func, sg_eq, sg_ne, sp_n, sp_none, Nat.reduceLT, ne_eq, Nat.reduceEqDiff, not_false_eq_true, gd, nth, want_free, want_slot, beqB, List.map_cons, List.map_nil, Array.toList_empty, List.nil_append, List.append_nil, List.cons_append, hn]; done) | (simp only [sev_tmp, sev_const, sev_func, sg_eq, sg_ne, sp_n, sp_none, Nat.reduceLT, ne_eq, Nat.reduceEqDiff, not_false_eq_true, gd, nth, want_free, want_slot, beqB, List.map_cons, List.map_nil, Array.toList_empty, List.nil_append, List.append_nil, List.cons_append, hn]; rfl)) (by first | rfl | (simp only [sev_tmp, sev_const, sev_func, sg_eq, sg_ne, sp_n, sp_none, Nat.reduceLT, ne_eq, Nat.reduceEqDiff, not_false_eq_true, gd, nth, want_free, want_slot, beqB, List.map_cons, List.map_nil, Array.toList_empty, List.nil_append, List.append_nil, List.cons_append, hn]; done) | (simp only [sev_tmp, sev_const, sev_func, sg_eq, sg_ne, sp_n, sp_none, Nat.reduceLT, ne_eq, Nat.reduceEqDiff, not_false_eq_true, gd, nth, want_free, want_slot, beqB, List.map_cons, List.map_nil, Array.toList_empty, List.nil_append, List.append_nil, List.cons_append, hn]; rfl)) (by first | rfl | (simp only [sev_tmp, sg_eq, sg_ne, sp_n, Nat.reduceLT, ne_eq, Nat.reduceEqDiff, not_false_eq_true, List.map_cons, List.map_nil, List.nil_append, List.append_nil, hn]; done) | (simp only [sev_tmp, sev_const, sev_func, sg_eq, sg_ne, sp_n, sp_none, Nat.reduceLT, ne_eq, Nat.reduceEqDiff, not_false_eq_true, gd, nth, want_free, want_slot, beqB, List.map_cons, List.map_nil, Array.toList_empty, List.nil_append, List.append_nil, List.cons_append, hn]; rfl)) (Con.mono (find_stream hA.wf ((x1.nx hA (Nat.le_refl _)).mono (Nat.le_refl _) hA.next) ((x2.nx hA (Nat.le_refl _)).mono (Nat.le_refl _) hA.next) (hg.ints.mono (Nat.zero_le _) (Nat.le_refl _)) (by omega) (by omega) (by omega)) ?_)
    rintro w B1 ⟨rfl, hy1⟩
    rw [hfv]
    refine Wo.run hc 5 rfl rfl rfl ?_
    simp (maxSteps := 2000000) only [List.drop_zero, List.drop_succ_cons, List.take_succ_cons, List.take_zero, sev_tmp, sg_eq, sg_ne, sp_n, Nat.reduceLT, ne_eq, Nat.reduceEqDiff, not_false_eq_true, gd, want_free, rops, fx, ext, List.getElem?_toArray, List.getElem?_cons_zero, List.getElem?_cons_succ, Option.some.injEq, exists_eq_left', Nat.reduceAdd, hn]
    refine Wo.done hc rfl (hK _ _ ?_)
    clear hK
    (repeat (first | refine Rn.seq hc ?_ | refine Rn.skip hc ?_ | refine Rn.block hc ?_ | refine Rn.inBlock hc ?_ | refine Rn.scope hc ?_ | refine Rn.inScope hc ?_))
    have hg1 : Gr B1 wa A5.next word := hg.nx (n := 0) hA.wf hy1
    have hB1 : Nx A5.next A5 B1 := hA.trans (hy1.le hA.next)
    have d0'' := (hB1.cl n45 0).trans d0
    have d1'' := (hB1.cl n45 1).trans d1
    have d2'' := (hB1.cl n45 2).trans d2
    refine Rn.region hc fun K hK => ?_
    refine Wo.run hc 3 rfl rfl rfl ?_
    simp (maxSteps := 2000000) only [List.drop_zero, List.take_succ_cons, List.take_zero, sev_tmp, sg_eq, sg_ne, sp_n, Nat.reduceLT, ne_eq, Nat.reduceEqDiff, not_false_eq_true, gd, want_free, rops, fx, ld, adr_p, cls, Nat.zero_add, Option.some.injEq, exists_eq_left', Nat.reduceAdd, tk24, ae_cv, hn, s3, s13, d0'', d1'', d2'', cv53 hn8]
    refine Wo.call hc (by rfl) (by rfl) ⟨by rfl, by rfl⟩ (xs := [.agg #[.int .i64 (m : Int), .slice sa st.length st.length, .slice ra ro.length ro.length], .int .i64 (n : Int)]) (by first | rfl | (simp only [sev_tmp, sev_const, sev_func, sg_eq, sg_ne, sp_n, sp_none, Nat.reduceLT, ne_eq, Nat.reduceEqDiff, not_false_eq_true, gd, nth, want_free, want_slot, beqB, List.map_cons, List.map_nil, Array.toList_empty, List.nil_append, List.append_nil, List.cons_append, hn]; done) | (simp only [sev_tmp, sev_const, sev_func, sg_eq, sg_ne, sp_n, sp_none, Nat.reduceLT, ne_eq, Nat.reduceEqDiff, not_false_eq_true, gd, nth, want_free, want_slot, beqB, List.map_cons, List.map_nil, Array.toList_empty, List.nil_append, List.append_nil, List.cons_append, hn]; rfl)) (by first | rfl | (simp only [sev_tmp, sev_const, sev_func, sg_eq, sg_ne, sp_n, sp_none, Nat.reduceLT, ne_eq, Nat.reduceEqDiff, not_false_eq_true, gd, nth, want_free, want_slot, beqB, List.map_cons, List.map_nil, Array.toList_empty, List.nil_append, List.append_nil, List.cons_append, hn]; done) | (simp only [sev_tmp, sev_const, sev_func, sg_eq, sg_ne, sp_n, sp_none, Nat.reduceLT, ne_eq, Nat.reduceEqDiff, not_false_eq_true, gd, nth, want_free, want_slot, beqB, List.map_cons, List.map_nil, Array.toList_empty, List.nil_append, List.append_nil, List.cons_append, hn]; rfl)) (by first | rfl | (simp only [sev_tmp, sg_eq, sg_ne, sp_n, Nat.reduceLT, ne_eq, Nat.reduceEqDiff, not_false_eq_true, List.map_cons, List.map_nil, List.nil_append, List.append_nil, hn]; done) | (simp only [sev_tmp, sev_const, sev_func, sg_eq, sg_ne, sp_n, sp_none, Nat.reduceLT, ne_eq, Nat.reduceEqDiff, not_false_eq_true, gd, nth, want_free, want_slot, beqB, List.map_cons, List.map_nil, Array.toList_empty, List.nil_append, List.append_nil, List.cons_append, hn]; rfl)) (Con.mono (take_first hB1.wf ((x1.nx hB1 (Nat.le_refl _)).mono (Nat.le_refl _) hB1.next) ((x2.nx hB1 (Nat.le_refl _)).mono (Nat.le_refl _) hB1.next) (by omega) (by omega) he (n := n) (by omega)) ?_)
    rintro w B2 ⟨la, lc, rfl, hy2, hl2⟩
    have hll := takeL_len st ro 0 n
    refine Wo.run hc 5 rfl rfl rfl ?_
    simp (maxSteps := 2000000) only [List.drop_zero, List.drop_succ_cons, List.take_succ_cons, List.take_zero, sev_tmp, sg_eq, sg_ne, sp_n, Nat.reduceLT, ne_eq, Nat.reduceEqDiff, not_false_eq_true, gd, want_free, rops, fx, ext, List.getElem?_toArray, List.getElem?_cons_zero, List.getElem?_cons_succ, Option.some.injEq, exists_eq_left', Nat.reduceAdd, hn]
    refine Wo.done hc rfl (hK _ _ ?_)
    clear hK
    (repeat (first | refine Rn.seq hc ?_ | refine Rn.skip hc ?_ | refine Rn.block hc ?_ | refine Rn.inBlock hc ?_ | refine Rn.scope hc ?_ | refine Rn.inScope hc ?_))
    have hg2 : Gr B2 wa A5.next word := hg1.nx (n := 0) hB1.wf hy2
    have hB2 : Nx A5.next A5 B2 := hB1.trans (hy2.le hB1.next)
    clear hg1 hg hy1 hy2 hB1 hA d0' d1' d2' d0'' d1'' d2'' nA
    refine Rn.gen (I := fun s => s.n = 243 ∧ sget s 1 = .int .u8 (fr : Int) ∧ sget s 3 = .int .u8 (n : Int) ∧ sget s 4 = .int .u16 (far : Int) ∧ sget s 12 = .int .i64 (m : Int) ∧ sget s 13 = .pointer (some ⟨A4.next, 0, none⟩) ∧ sget s 14 = .slice wa word.length word.length ∧ sget s 16 = .int .i64 (k : Int) ∧ sget s 17 = .int .i64 0 ∧ sget s 18 = .slice la n lc ∧ sget s 19 = .int .i64 0)
      ⟨by simp only [sp_n, hn], by simp only [sg_ne, ne_eq, Nat.reduceEqDiff, not_false_eq_true, s1], by simp only [sg_ne, ne_eq, Nat.reduceEqDiff, not_false_eq_true, s3], by simp only [sg_ne, ne_eq, Nat.reduceEqDiff, not_false_eq_true, s4], by simp only [sg_ne, ne_eq, Nat.reduceEqDiff, not_false_eq_true, s12], by simp only [sg_ne, ne_eq, Nat.reduceEqDiff, not_false_eq_true, s13], by simp only [sg_ne, ne_eq, Nat.reduceEqDiff, not_false_eq_true, s14], by simp only [sg_eq, sg_ne, sp_n, Nat.reduceLT, ne_eq, Nat.reduceEqDiff, not_false_eq_true, hn], by simp only [sg_eq, sg_ne, sp_n, Nat.reduceLT, ne_eq, Nat.reduceEqDiff, not_false_eq_true, hn], by simp only [sg_eq, sg_ne, sp_n, Nat.reduceLT, ne_eq, Nat.reduceEqDiff, not_false_eq_true, hn], by simp only [sg_eq, sp_n, Nat.reduceLT, hn]⟩ ?_
    clear hn s1 s3 s4 s12 s13 s14 s51 s52 s
    rintro s ⟨hn, s1, s3, s4, s12, s13, s14, s16, s17, s18, s19⟩
    have c1 : decide ((fr : Int) < (k : Int)) = false := by simp; omega
    have c2 : decide ((k : Int) < 0) = false := by simp
    refine Rn.reg hc rfl ?_
    simp only [sev_tmp, sev_const, sg_eq, sg_ne, sp_n, Nat.reduceLT, ne_eq, Nat.reduceEqDiff, not_false_eq_true, gd, nth, want_free, want_slot, beqB, rops, fx, lng, pck, bin_lss, bin_gtr, bin_neq, Option.some.injEq, exists_eq_left', Bool.not_true, Bool.not_true, un22, ae_cv, hn, s1, s3, s16, s17, s18, s19, cv53 hfr, cv53 hn8, c1, c2, eq_self, decide_true]
    (repeat (first | refine Rn.seq hc ?_ | refine Rn.skip hc ?_ | refine Rn.block hc ?_ | refine Rn.inBlock hc ?_ | refine Rn.scope hc ?_ | refine Rn.inScope hc ?_))
    refine Rn.condE hc rfl ?_
    simp only [sev_tmp, sg_eq, sp_n, Nat.reduceLT, Value.bool.injEq, exists_eq_left', hn]
    (repeat (first | refine Rn.seq hc ?_ | refine Rn.skip hc ?_ | refine Rn.block hc ?_ | refine Rn.inBlock hc ?_ | refine Rn.scope hc ?_ | refine Rn.inScope hc ?_))
    refine Rn.reg hc rfl ?_
    simp only [sev_const, gd, want_free, rops, fx, Option.some.injEq, exists_eq_left']
    (repeat (first | refine Rn.seq hc ?_ | refine Rn.skip hc ?_ | refine Rn.block hc ?_ | refine Rn.inBlock hc ?_ | refine Rn.scope hc ?_ | refine Rn.inScope hc ?_))
    refine Rn.loopI hc (I := fun kk s A' => ∃ j, j ≤ k + 1 ∧ kk = k + 1 - j ∧ Nx B2.next B2 A' ∧ s.n = 243 ∧ sget s 3 = .int .u8 (n : Int) ∧ sget s 4 = .int .u16 (far : Int) ∧ sget s 12 = .int .i64 (m : Int) ∧ sget s 13 = .pointer (some ⟨A4.next, 0, none⟩) ∧ sget s 14 = .slice wa word.length word.length ∧ sget s 16 = .int .i64 (k : Int) ∧ sget s 18 = .slice la n lc ∧ sget s 20 = .int .i64 (j : Int))
      (n := k + 1) ⟨0, by omega, rfl, Nx.refl hB2.wf _, by simp only [sp_n, hn], by simp only [sg_ne, ne_eq, Nat.reduceEqDiff, not_false_eq_true, s3], by simp only [sg_ne, ne_eq, Nat.reduceEqDiff, not_false_eq_true, s4], by simp only [sg_ne, ne_eq, Nat.reduceEqDiff, not_false_eq_true, s12], by simp only [sg_ne, ne_eq, Nat.reduceEqDiff, not_false_eq_true, s13], by simp only [sg_ne, ne_eq, Nat.reduceEqDiff, not_false_eq_true, s14], by simp only [sg_ne, ne_eq, Nat.reduceEqDiff, not_false_eq_true, s16], by simp only [sg_ne, ne_eq, Nat.reduceEqDiff, not_false_eq_true, s18], by simp only [sg_eq, sp_n, Nat.reduceLT, hn]; rfl⟩ ?_
    clear hn s1 s3 s4 s12 s13 s14 s16 s17 s18 s19 s
    rintro kk s A' ⟨j, hj, rfl, hA, hn, s3, s4, s12, s13, s14, s16, s18, s20⟩ ih
    have hB2n := hB2.next
    have n4B : A4.next < B2.next := by omega
    (repeat (first | refine Rn.seq hc ?_ | refine Rn.skip hc ?_ | refine Rn.block hc ?_ | refine Rn.inBlock hc ?_ | refine Rn.scope hc ?_ | refine Rn.inScope hc ?_))
    by_cases hlt : j ≤ k
    · have hd : decide ((j : Int) ≤ (k : Int)) = true := by simp; omega
      refine Rn.reg hc rfl ?_
      simp only [sev_tmp, sg_eq, sg_ne, sp_n, Nat.reduceLT, ne_eq, Nat.reduceEqDiff, not_false_eq_true, gd, want_free, rops, fx, bin_leq, Option.some.injEq, exists_eq_left', hn, s16, s20, hd]
      (repeat (first | refine Rn.seq hc ?_ | refine Rn.skip hc ?_ | refine Rn.block hc ?_ | refine Rn.inBlock hc ?_ | refine Rn.scope hc ?_ | refine Rn.inScope hc ?_))
      refine Rn.condE hc rfl ?_
      simp only [sev_tmp, sg_eq, sp_n, Nat.reduceLT, Value.bool.injEq, exists_eq_left', hn]
      (repeat (first | refine Rn.seq hc ?_ | refine Rn.skip hc ?_ | refine Rn.block hc ?_ | refine Rn.inBlock hc ?_ | refine Rn.scope hc ?_ | refine Rn.inScope hc ?_))
      refine Rn.reg hc rfl ?_
      simp only [sev_const, gd, want_free, rops, fx, Option.some.injEq, exists_eq_left']
      (repeat (first | refine Rn.seq hc ?_ | refine Rn.skip hc ?_ | refine Rn.block hc ?_ | refine Rn.inBlock hc ?_ | refine Rn.scope hc ?_ | refine Rn.inScope hc ?_))
      refine Rn.reg hc rfl ?_
      simp only [sev_tmp, sev_const, sg_eq, sg_ne, sp_n, Nat.reduceLT, ne_eq, Nat.reduceEqDiff, not_false_eq_true, gd, want_free, rops, fx, lng, Option.some.injEq, exists_eq_left', un22, hn, s14]
      (repeat (first | refine Rn.seq hc ?_ | refine Rn.skip hc ?_ | refine Rn.block hc ?_ | refine Rn.inBlock hc ?_ | refine Rn.scope hc ?_ | refine Rn.inScope hc ?_))
      refine Rn.loopI hc (I := fun kk s A'' => ∃ i, i ≤ word.length ∧ kk = word.length - i ∧ Nx B2.next B2 A'' ∧ s.n = 243 ∧ sget s 3 = .int .u8 (n : Int) ∧ sget s 4 = .int .u16 (far : Int) ∧ sget s 12 = .int .i64 (m : Int) ∧ sget s 13 = .pointer (some ⟨A4.next, 0, none⟩) ∧ sget s 14 = .slice wa word.length word.length ∧ sget s 16 = .int .i64 (k : Int) ∧ sget s 18 = .slice la n lc ∧ sget s 20 = .int .i64 (j : Int) ∧
          sget s 21 = .bool (pre (isAt st ro word j) i) ∧ sget s 106 = .slice wa word.length word.length ∧ sget s 107 = .int .i64 (word.length : Int) ∧ sget s 108 = .int .i64 (i : Int))
        (n := word.length) ⟨0, by omega, rfl, hA, by simp only [sp_n, hn], by simp only [sg_ne, ne_eq, Nat.reduceEqDiff, not_false_eq_true, s3], by simp only [sg_ne, ne_eq, Nat.reduceEqDiff, not_false_eq_true, s4], by simp only [sg_ne, ne_eq, Nat.reduceEqDiff, not_false_eq_true, s12], by simp only [sg_ne, ne_eq, Nat.reduceEqDiff, not_false_eq_true, s13], by simp only [sg_ne, ne_eq, Nat.reduceEqDiff, not_false_eq_true, s14], by simp only [sg_ne, ne_eq, Nat.reduceEqDiff, not_false_eq_true, s16], by simp only [sg_ne, ne_eq, Nat.reduceEqDiff, not_false_eq_true, s18], by simp only [sg_ne, ne_eq, Nat.reduceEqDiff, not_false_eq_true, s20], by simp only [sg_eq, sg_ne, sp_n, Nat.reduceLT, ne_eq, Nat.reduceEqDiff, not_false_eq_true, hn]; rfl, by simp only [sg_eq, sg_ne, sp_n, Nat.reduceLT, ne_eq, Nat.reduceEqDiff, not_false_eq_true, hn], by simp only [sg_eq, sg_ne, sp_n, Nat.reduceLT, ne_eq, Nat.reduceEqDiff, not_false_eq_true, hn], by simp only [sg_eq, sp_n, Nat.reduceLT, hn]; rfl⟩ ?_
      clear hn s3 s4 s12 s13 s14 s16 s18 s20 s hA A' hd
      rintro kk s A' ⟨i, hi, rfl, hA, hn, s3, s4, s12, s13, s14, s16, s18, s20, s21, s106, s107, s108⟩ ihi
      (repeat (first | refine Rn.seq hc ?_ | refine Rn.skip hc ?_ | refine Rn.block hc ?_ | refine Rn.inBlock hc ?_ | refine Rn.scope hc ?_ | refine Rn.inScope hc ?_))
      by_cases hlti : i < word.length
      · have hd : decide ((i : Int) < (word.length : Int)) = true := by simp; omega
        refine Rn.reg hc rfl ?_
        simp only [sev_tmp, gd, want_free, rops, fx, bin_lss, Option.some.injEq, exists_eq_left', s107, s108, hd]
        (repeat (first | refine Rn.seq hc ?_ | refine Rn.skip hc ?_ | refine Rn.block hc ?_ | refine Rn.inBlock hc ?_ | refine Rn.scope hc ?_ | refine Rn.inScope hc ?_))
        refine Rn.condE hc rfl ?_
        simp only [sev_tmp, sg_eq, Nat.reduceLT, Value.bool.injEq, exists_eq_left', hn]
        (repeat (first | refine Rn.seq hc ?_ | refine Rn.skip hc ?_ | refine Rn.block hc ?_ | refine Rn.inBlock hc ?_ | refine Rn.scope hc ?_ | refine Rn.inScope hc ?_))
        have hgA : Gr A' wa A5.next word := hg2.nx (n := 0) hB2.wf hA
        obtain ⟨bb, o, rfl, _, _, hcl⟩ := hgA.ints i hlti
        refine Rn.reg hc rfl ?_
        simp only [sev_tmp, sg_eq, sg_ne, sp_n, Nat.reduceLT, ne_eq, Nat.reduceEqDiff, not_false_eq_true, gd, want_free, rops, fx, ld, idx, adr_p, Option.some.injEq, exists_eq_left', Nat.mul_one, tk3, eo22, hn, s106, s108, nlen_nat hlti, hcl]
        (repeat (first | refine Rn.seq hc ?_ | refine Rn.skip hc ?_ | refine Rn.block hc ?_ | refine Rn.inBlock hc ?_ | refine Rn.scope hc ?_ | refine Rn.inScope hc ?_))
        have d0' := (hA.cl n4B 0).trans ((hB2.cl n45 0).trans d0)
        have d1' := (hA.cl n4B 1).trans ((hB2.cl n45 1).trans d1)
        have d2' := (hA.cl n4B 2).trans ((hB2.cl n45 2).trans d2)
        have hA5 : Nx A5.next A5 A' := hB2.trans (hA.le hB2n)
        cases hp : pre (isAt st ro word j) i with
        | true =>
          have hw1 : IntKind.i64.wrap ((j : Int) + (i : Int)) = ((j + i : Nat) : Int) := by rw [IntWalk.i64_in _ (by omega)]; omega
          refine Rn.region hc fun K hK => ?_
          refine Wo.run hc 6 rfl rfl rfl ?_
          simp (maxSteps := 2000000) only [List.drop_zero, List.take_succ_cons, List.take_zero, sev_tmp, sg_eq, sg_ne, sp_n, Nat.reduceLT, ne_eq, Nat.reduceEqDiff, not_false_eq_true, gd, nth, want_free, want_slot, beqB, rops, fx, ld, bin_add, adr_p, cls, Nat.zero_add, Option.some.injEq, exists_eq_left', Nat.reduceAdd, tk24, hn, s13, s20, s21, hp, d0', d1', d2', hw1]
          refine Wo.call hc (by rfl) (by rfl) ⟨by rfl, by rfl⟩ (xs := [.agg #[.int .i64 (m : Int), .slice sa st.length st.length, .slice ra ro.length ro.length], .int .i64 ((j + i : Nat) : Int)]) (by first | rfl | (simp only [sg_eq, sg_ne, sp_n, Nat.reduceLT, ne_eq, Nat.reduceEqDiff, not_false_eq_true, gd, nth, want_slot, beqB, hn]; done) | (simp only [sev_tmp, sev_const, sev_func, sg_eq, sg_ne, sp_n, sp_none, Nat.reduceLT, ne_eq, Nat.reduceEqDiff, not_false_eq_true, gd, nth, want_free, want_slot, beqB, List.map_cons, List.map_nil, Array.toList_empty, List.nil_append, List.append_nil, List.cons_append, hn, s21, hp]; rfl)) (by first | rfl | (simp only [sev_tmp, sev_const, sev_func, sg_eq, sg_ne, sp_n, sp_none, Nat.reduceLT, ne_eq, Nat.reduceEqDiff, not_false_eq_true, gd, nth, want_free, want_slot, beqB, List.map_cons, List.map_nil, Array.toList_empty, List.nil_append, List.append_nil, List.cons_append, hn, s21, hp]; done) | (simp only [sev_tmp, sev_const, sev_func, sg_eq, sg_ne, sp_n, sp_none, Nat.reduceLT, ne_eq, Nat.reduceEqDiff, not_false_eq_true, gd, nth, want_free, want_slot, beqB, List.map_cons, List.map_nil, Array.toList_empty, List.nil_append, List.append_nil, List.cons_append, hn, s21, hp]; rfl)) (by first | rfl | (simp only [sev_tmp, sg_eq, sg_ne, sp_n, Nat.reduceLT, ne_eq, Nat.reduceEqDiff, not_false_eq_true, List.map_cons, List.map_nil, List.nil_append, List.append_nil, hn]; done) | (simp only [sev_tmp, sev_const, sev_func, sg_eq, sg_ne, sp_n, sp_none, Nat.reduceLT, ne_eq, Nat.reduceEqDiff, not_false_eq_true, gd, nth, want_free, want_slot, beqB, List.map_cons, List.map_nil, Array.toList_empty, List.nil_append, List.append_nil, List.cons_append, hn, s21, hp]; rfl)) (Con.mono (at_law hA.wf ((x1.nx hA5 (Nat.le_refl _)).mono (Nat.le_refl _) hA5.next) ((x2.nx hA5 (Nat.le_refl _)).mono (Nat.le_refl _) hA5.next) (j + i) (by omega) hro1 (by omega) (by omega)) ?_)
          rintro w B3 ⟨rfl, hy3⟩
          refine Wo.run hc 4 rfl rfl rfl ?_
          simp (maxSteps := 2000000) only [List.drop_zero, List.drop_succ_cons, List.take_succ_cons, List.take_zero, sev_tmp, sg_eq, sg_ne, sp_n, Nat.reduceLT, ne_eq, Nat.reduceEqDiff, not_false_eq_true, gd, nth, want_free, want_slot, beqB, rops, fx, pck, bin_eql, Option.some.injEq, exists_eq_left', Nat.reduceAdd, hn]
          refine Wo.done hc rfl (hK _ _ ?_)
          clear hK
          (repeat (first | refine Rn.seq hc ?_ | refine Rn.skip hc ?_ | refine Rn.block hc ?_ | refine Rn.inBlock hc ?_ | refine Rn.scope hc ?_ | refine Rn.inScope hc ?_))
          refine Rn.reg hc rfl ?_
          simp only [sev_tmp, sev_const, sg_eq, sg_ne, sp_n, Nat.reduceLT, ne_eq, Nat.reduceEqDiff, not_false_eq_true, gd, want_free, rops, fx, bin_add, Option.some.injEq, exists_eq_left', hn, s108, wrap_succ (show i < 9223372036854775807 by omega)]
          (repeat (first | refine Rn.seq hc ?_ | refine Rn.skip hc ?_ | refine Rn.block hc ?_ | refine Rn.inBlock hc ?_ | refine Rn.scope hc ?_ | refine Rn.inScope hc ?_))
          exact ihi _ _ _ (by omega) ⟨i + 1, by omega, rfl, hA.trans (hy3.le hA.next), by simp only [sp_n, hn], by simp only [sg_ne, ne_eq, Nat.reduceEqDiff, not_false_eq_true, s3], by simp only [sg_ne, ne_eq, Nat.reduceEqDiff, not_false_eq_true, s4], by simp only [sg_ne, ne_eq, Nat.reduceEqDiff, not_false_eq_true, s12], by simp only [sg_ne, ne_eq, Nat.reduceEqDiff, not_false_eq_true, s13], by simp only [sg_ne, ne_eq, Nat.reduceEqDiff, not_false_eq_true, s14], by simp only [sg_ne, ne_eq, Nat.reduceEqDiff, not_false_eq_true, s16], by simp only [sg_ne, ne_eq, Nat.reduceEqDiff, not_false_eq_true, s18], by simp only [sg_ne, ne_eq, Nat.reduceEqDiff, not_false_eq_true, s20], by simp only [sg_eq, sg_ne, sp_n, Nat.reduceLT, ne_eq, Nat.reduceEqDiff, not_false_eq_true, hn, pre, hp, Bool.true_and]; rfl, by simp only [sg_ne, ne_eq, Nat.reduceEqDiff, not_false_eq_true, s106], by simp only [sg_ne, ne_eq, Nat.reduceEqDiff, not_false_eq_true, s107], by simp only [sg_eq, sp_n, Nat.reduceLT, hn]⟩
        | false =>
          refine Rn.reg hc rfl ?_
          simp only [sev_tmp, sev_const, sg_eq, sg_ne, sp_n, Nat.reduceLT, ne_eq, Nat.reduceEqDiff, not_false_eq_true, gd, nth, want_free, want_slot, beqB, rops, fx, pck, Option.some.injEq, exists_eq_left', hn, s21, hp]
          (repeat (first | refine Rn.seq hc ?_ | refine Rn.skip hc ?_ | refine Rn.block hc ?_ | refine Rn.inBlock hc ?_ | refine Rn.scope hc ?_ | refine Rn.inScope hc ?_))
          refine Rn.reg hc rfl ?_
          simp only [sev_tmp, sev_const, sg_eq, sg_ne, sp_n, Nat.reduceLT, ne_eq, Nat.reduceEqDiff, not_false_eq_true, gd, want_free, rops, fx, bin_add, Option.some.injEq, exists_eq_left', hn, s108, wrap_succ (show i < 9223372036854775807 by omega)]
          (repeat (first | refine Rn.seq hc ?_ | refine Rn.skip hc ?_ | refine Rn.block hc ?_ | refine Rn.inBlock hc ?_ | refine Rn.scope hc ?_ | refine Rn.inScope hc ?_))
          exact ihi _ _ _ (by omega) ⟨i + 1, by omega, rfl, hA, by simp only [sp_n, hn], by simp only [sg_ne, ne_eq, Nat.reduceEqDiff, not_false_eq_true, s3], by simp only [sg_ne, ne_eq, Nat.reduceEqDiff, not_false_eq_true, s4], by simp only [sg_ne, ne_eq, Nat.reduceEqDiff, not_false_eq_true, s12], by simp only [sg_ne, ne_eq, Nat.reduceEqDiff, not_false_eq_true, s13], by simp only [sg_ne, ne_eq, Nat.reduceEqDiff, not_false_eq_true, s14], by simp only [sg_ne, ne_eq, Nat.reduceEqDiff, not_false_eq_true, s16], by simp only [sg_ne, ne_eq, Nat.reduceEqDiff, not_false_eq_true, s18], by simp only [sg_ne, ne_eq, Nat.reduceEqDiff, not_false_eq_true, s20], by simp only [sg_eq, sg_ne, sp_n, Nat.reduceLT, ne_eq, Nat.reduceEqDiff, not_false_eq_true, hn, pre, hp, Bool.false_and], by simp only [sg_ne, ne_eq, Nat.reduceEqDiff, not_false_eq_true, s106], by simp only [sg_ne, ne_eq, Nat.reduceEqDiff, not_false_eq_true, s107], by simp only [sg_eq, sp_n, Nat.reduceLT, hn]⟩
      · have hd : decide ((i : Int) < (word.length : Int)) = false := by simp; omega
        have hil : i = word.length := by omega
        subst hil
        clear ihi
        refine Rn.reg hc rfl ?_
        simp only [sev_tmp, gd, want_free, rops, fx, bin_lss, Option.some.injEq, exists_eq_left', s107, s108, hd]
        (repeat (first | refine Rn.seq hc ?_ | refine Rn.skip hc ?_ | refine Rn.block hc ?_ | refine Rn.inBlock hc ?_ | refine Rn.scope hc ?_ | refine Rn.inScope hc ?_))
        refine Rn.condE hc rfl ?_
        simp only [sev_tmp, sg_eq, Nat.reduceLT, Value.bool.injEq, exists_eq_left', hn]
        (repeat (first | refine Rn.seq hc ?_ | refine Rn.skip hc ?_ | refine Rn.block hc ?_ | refine Rn.inBlock hc ?_ | refine Rn.scope hc ?_ | refine Rn.inScope hc ?_))
        refine Rn.exit hc rfl ?_
        (repeat (first | refine Rn.seq hc ?_ | refine Rn.skip hc ?_ | refine Rn.block hc ?_ | refine Rn.inBlock hc ?_ | refine Rn.scope hc ?_ | refine Rn.inScope hc ?_))
        have hmj : pre (isAt st ro word j) word.length = decide ((j : Int) = (k : Int)) := by
          by_cases hjk : j = k
          · subst hjk
            rw [show pre (isAt st ro word j) word.length = mat st ro word j from rfl, hf2]
            simp
          · rw [show pre (isAt st ro word j) word.length = mat st ro word j from rfl, hf3 j (by omega)]
            simp
            omega
        rw [hmj] at s21
        have hd3 : (decide ((j : Int) = (k : Int)) != decide ((j : Int) = (k : Int))) = false := by simp
        refine Rn.reg hc rfl ?_
        simp only [sev_tmp, sg_eq, sg_ne, sp_n, Nat.reduceLT, ne_eq, Nat.reduceEqDiff, not_false_eq_true, gd, want_free, rops, fx, bin_eql, Option.some.injEq, exists_eq_left', hn, s16, s20, s21, bin_neqb, hd3]
        (repeat (first | refine Rn.seq hc ?_ | refine Rn.skip hc ?_ | refine Rn.block hc ?_ | refine Rn.inBlock hc ?_ | refine Rn.scope hc ?_ | refine Rn.inScope hc ?_))
        refine Rn.condE hc rfl ?_
        simp only [sev_tmp, sg_eq, sp_n, Nat.reduceLT, Value.bool.injEq, exists_eq_left', hn]
        (repeat (first | refine Rn.seq hc ?_ | refine Rn.skip hc ?_ | refine Rn.block hc ?_ | refine Rn.inBlock hc ?_ | refine Rn.scope hc ?_ | refine Rn.inScope hc ?_))
        refine Rn.reg hc rfl ?_
        simp only [sev_tmp, sev_const, sg_eq, sg_ne, sp_n, Nat.reduceLT, ne_eq, Nat.reduceEqDiff, not_false_eq_true, gd, want_free, rops, fx, bin_add, Option.some.injEq, exists_eq_left', hn, s20, wrap_succ (show j < 9223372036854775807 by omega)]
        (repeat (first | refine Rn.seq hc ?_ | refine Rn.skip hc ?_ | refine Rn.block hc ?_ | refine Rn.inBlock hc ?_ | refine Rn.scope hc ?_ | refine Rn.inScope hc ?_))
        exact ih _ _ _ (by omega) ⟨j + 1, by omega, rfl, hA, by simp only [sp_n, hn], by simp only [sg_ne, ne_eq, Nat.reduceEqDiff, not_false_eq_true, s3], by simp only [sg_ne, ne_eq, Nat.reduceEqDiff, not_false_eq_true, s4], by simp only [sg_ne, ne_eq, Nat.reduceEqDiff, not_false_eq_true, s12], by simp only [sg_ne, ne_eq, Nat.reduceEqDiff, not_false_eq_true, s13], by simp only [sg_ne, ne_eq, Nat.reduceEqDiff, not_false_eq_true, s14], by simp only [sg_ne, ne_eq, Nat.reduceEqDiff, not_false_eq_true, s16], by simp only [sg_ne, ne_eq, Nat.reduceEqDiff, not_false_eq_true, s18], by simp only [sg_eq, sp_n, Nat.reduceLT, hn]⟩
    · have hd : decide ((j : Int) ≤ (k : Int)) = false := by simp; omega
      clear ih
      refine Rn.reg hc rfl ?_
      simp only [sev_tmp, sg_eq, sg_ne, sp_n, Nat.reduceLT, ne_eq, Nat.reduceEqDiff, not_false_eq_true, gd, want_free, rops, fx, bin_leq, Option.some.injEq, exists_eq_left', hn, s16, s20, hd]
      (repeat (first | refine Rn.seq hc ?_ | refine Rn.skip hc ?_ | refine Rn.block hc ?_ | refine Rn.inBlock hc ?_ | refine Rn.scope hc ?_ | refine Rn.inScope hc ?_))
      refine Rn.condE hc rfl ?_
      simp only [sev_tmp, sg_eq, sp_n, Nat.reduceLT, Value.bool.injEq, exists_eq_left', hn]
      (repeat (first | refine Rn.seq hc ?_ | refine Rn.skip hc ?_ | refine Rn.block hc ?_ | refine Rn.inBlock hc ?_ | refine Rn.scope hc ?_ | refine Rn.inScope hc ?_))
      refine Rn.exit hc rfl ?_
      (repeat (first | refine Rn.seq hc ?_ | refine Rn.skip hc ?_ | refine Rn.block hc ?_ | refine Rn.inBlock hc ?_ | refine Rn.scope hc ?_ | refine Rn.inScope hc ?_))
      have hgA : Gr A' wa A5.next word := hg2.nx (n := 0) hB2.wf hA
      have hA5 : Nx A5.next A5 A' := hB2.trans (hA.le hB2n)
      have hlA : Ints A' la 0 A'.next (takeL st ro 0 n) := (hl2.nx hA (Nat.le_refl _)).mono (Nat.le_refl _) hA.next
      have d0' := (hA.cl n4B 0).trans ((hB2.cl n45 0).trans d0)
      have d1' := (hA.cl n4B 1).trans ((hB2.cl n45 1).trans d1)
      have d2' := (hA.cl n4B 2).trans ((hB2.cl n45 2).trans d2)
      have hfv2 : findV m st ro (word ++ [(m : Int)]) = .tuple #[.int .i64 0, .int .i64 6] := by
        unfold findV
        rw [if_pos he, if_neg (by simp; omega), none_word hin1 hin2 hro1]
        rfl
      have hxB : Nx A'.next A' (bump A' 12) := Nx.bump (Nx.refl hA.wf _) 12
      obtain ⟨F, hF0, hF1, hF2, hF⟩ : ∃ F : AHeap → Prop, (∀ M, F M → cl M A4.next 0 = some (.int .i64 (m : Int))) ∧ (∀ M, F M → cl M A4.next 1 = some (.slice sa st.length st.length)) ∧ (∀ M, F M → cl M A4.next 2 = some (.slice ra ro.length ro.length)) ∧ (∀ M, Canon.look M.objs A4.next = Canon.look A'.objs A4.next → F M) :=
        ⟨fun M => cl M A4.next 0 = some (.int .i64 (m : Int)) ∧ cl M A4.next 1 = some (.slice sa st.length st.length) ∧ cl M A4.next 2 = some (.slice ra ro.length ro.length), fun _ h => h.1, fun _ h => h.2.1, fun _ h => h.2.2, fun M q => ⟨(cl_look q).trans d0', (cl_look q).trans d1', (cl_look q).trans d2'⟩⟩
      have FB := hF (bump A' 12) rfl
      have nA := hA.next
      refine Rn.drawnF hc hx (cS word (.tuple #[.int .i64 0, .int .i64 6])) F (n := 4) (k := 12) (by kernel_rfl) (by kernel_rfl) (by rfl) ?_
      refine Dr.read (by first | rfl | kernel_rfl) (by first | rfl | (simp only [sev_tmp, sev_const, sev_func, sg_eq, sg_ne, sp_n, sp_none, Nat.reduceLT, ne_eq, Nat.reduceEqDiff, not_false_eq_true, gd, nth, want_free, want_slot, beqB, List.map_cons, List.map_nil, Array.toList_empty, List.nil_append, List.append_nil, List.cons_append, hn, s13, s14, hF0 M hM, hF1 M hM, hF2 M hM]; done) | (simp only [sev_tmp, sev_const, sev_func, sg_eq, sg_ne, sp_n, sp_none, Nat.reduceLT, ne_eq, Nat.reduceEqDiff, not_false_eq_true, gd, nth, want_free, want_slot, beqB, List.map_cons, List.map_nil, Array.toList_empty, List.nil_append, List.append_nil, List.cons_append, hn, s13, s14, hF0 M hM, hF1 M hM, hF2 M hM]; rfl)) (by assumption) (fun M hM => by simp only [sev_tmp, sg_ne, ne_eq, Nat.reduceEqDiff, not_false_eq_true, fx, ld, adr_p, cls, Nat.zero_add, Nat.reduceAdd, tk24, s13, hF0 M hM, hF1 M hM, hF2 M hM] <;> rfl) (by rfl) (by first | exact VQ.int _ _ | exact VQ.bool _ | exact VQ.ptr _ _ | exact VQ.slice _ _ _ | exact VQ.func (by simp [vq_int, vq_ptr, vq_slice]) (by simp [vq_int, vq_ptr, vq_slice]) | exact VQ.agg (by simp [vq_int, vq_slice]) | exact VQ.tuple (by simp [vq_int, vq_ptr, vq_slice])) ?_
      refine Dr.read (by first | rfl | kernel_rfl) (by first | rfl | (simp only [sev_tmp, sev_const, sev_func, sg_eq, sg_ne, sp_n, sp_none, Nat.reduceLT, ne_eq, Nat.reduceEqDiff, not_false_eq_true, gd, nth, want_free, want_slot, beqB, List.map_cons, List.map_nil, Array.toList_empty, List.nil_append, List.append_nil, List.cons_append, hn, s13, s14, hF0 M hM, hF1 M hM, hF2 M hM]; done) | (simp only [sev_tmp, sev_const, sev_func, sg_eq, sg_ne, sp_n, sp_none, Nat.reduceLT, ne_eq, Nat.reduceEqDiff, not_false_eq_true, gd, nth, want_free, want_slot, beqB, List.map_cons, List.map_nil, Array.toList_empty, List.nil_append, List.append_nil, List.cons_append, hn, s13, s14, hF0 M hM, hF1 M hM, hF2 M hM]; rfl)) (by assumption) (fun M hM => by simp only [sev_tmp, sg_ne, ne_eq, Nat.reduceEqDiff, not_false_eq_true, fx, s14] <;> rfl) (by rfl) (by first | exact VQ.int _ _ | exact VQ.bool _ | exact VQ.ptr _ _ | exact VQ.slice _ _ _ | exact VQ.func (by simp [vq_int, vq_ptr, vq_slice]) (by simp [vq_int, vq_ptr, vq_slice]) | exact VQ.agg (by simp [vq_int, vq_ptr, vq_slice]) | exact VQ.tuple (by simp [vq_int, vq_ptr, vq_slice])) ?_
      refine Dr.call (by kernel_rfl) (by rfl) (by assumption) (by rfl) (opRun_call (by rfl) ⟨by rfl, by rfl⟩ (by rfl) (xs := [.slice wa word.length word.length]) (by simp only [sev_tmp, sg_eq, sp_n, Nat.reduceLT, List.map_cons, List.map_nil, List.nil_append, List.append_nil, hn]) (dup_gr hxB.wf ((hgA.ints.nx hxB (Nat.le_refl _)).mono (Nat.zero_le _) hxB.next) (by omega))) ?_
      rintro v C1 ⟨wa2, rfl, k1, g1⟩
      have F1 := hF C1 ((k1.keep _ (by rw [bump_next]; omega)).trans rfl)
      refine Dr.read (by first | rfl | kernel_rfl) (by first | rfl | (simp only [sev_tmp, sev_const, sev_func, sg_eq, sg_ne, sp_n, sp_none, Nat.reduceLT, ne_eq, Nat.reduceEqDiff, not_false_eq_true, gd, nth, want_free, want_slot, beqB, List.map_cons, List.map_nil, Array.toList_empty, List.nil_append, List.append_nil, List.cons_append, hn, s12]; done) | (simp only [sev_tmp, sev_const, sev_func, sg_eq, sg_ne, sp_n, sp_none, Nat.reduceLT, ne_eq, Nat.reduceEqDiff, not_false_eq_true, gd, nth, want_free, want_slot, beqB, List.map_cons, List.map_nil, Array.toList_empty, List.nil_append, List.append_nil, List.cons_append, hn, s12]; rfl)) (by assumption) (fun M hM => by simp only [sev_tmp, sg_ne, ne_eq, Nat.reduceEqDiff, not_false_eq_true, fx, s12] <;> rfl) (by rfl) (by first | exact VQ.int _ _ | exact VQ.bool _ | exact VQ.ptr _ _ | exact VQ.slice _ _ _ | exact VQ.func (by simp [vq_int, vq_ptr, vq_slice]) (by simp [vq_int, vq_ptr, vq_slice]) | exact VQ.agg (by simp [vq_int, vq_ptr, vq_slice]) | exact VQ.tuple (by simp [vq_int, vq_ptr, vq_slice])) ?_
      refine Dr.float (by rfl) (by rfl) (by rfl) (fb22_1 (v := .int .i64 (m : Int)) (by simp only [sev_tmp, sg_eq, sp_n, Nat.reduceLT, hn]) rfl) ?_
      have hnb : Canon.look C1.objs (A'.next + 4) = none := by rw [k1.keep _ (by rw [bump_next]; omega)]; exact hA.wf.none (by omega)
      have hk1 := k1.next
      rw [bump_next] at hk1 g1
      obtain ⟨C2, p1, hxC2, eC2, lC2, kC2⟩ := place_row (N := 0) (Nx.refl k1.wf 0) (b := A'.next + 4) (Nat.zero_le _) (by omega) hnb [.int .i64 (m : Int)] 3 1 1
      have g2 : Gr C2 wa2 (A'.next + 12) word := g1.ext (Nat.le_of_eq eC2.symm) fun b' hb' => .inr (kC2 _ (by omega))
      have F2 := hF C2 ((kC2 _ (by omega)).trans (k1.keep _ (by rw [bump_next]; omega)))
      obtain ⟨C3, q1, n3, w3, g3, kp3, _⟩ := gr_push hxC2.wf g2 (a2 := some ⟨A'.next + 4, 0, none⟩) (c2 := 1) (b2 := A'.next + 4) (x := (m : Int)) rfl (by rw [cl_of lC2 rfl]; rfl) (by omega)
      have L3 : ∀ b', b' < A'.next → Canon.look C3.objs b' = Canon.look A'.objs b' := fun b' hb' => by
        rw [kp3 b' (by omega) (fun y hy => by obtain ⟨_, q, _⟩ := g2.sl y hy; omega), kC2 _ (by omega), k1.keep _ (by rw [bump_next]; omega)]
        rfl
      have F3 := hF C3 (L3 _ (by omega))
      have hA3 : Nx A'.next A' C3 := ⟨by omega, w3, L3⟩
      have hA35 : Nx A5.next A5 C3 := hA5.trans (hA3.le hA5.next)
      refine Dr.eff (by rfl) (by rfl) (pd1 := [(4, ⟨[.int .i64 (m : Int)], 3, .sl 1 1⟩)]) (pd2 := []) (by kernel_rfl) (by kernel_rfl) (ms0 := [C1]) (A0 := C2) (by simp only [placeAll, p1]) (fun M hM => by rw [List.mem_singleton] at hM; rw [hM]; exact F1) F2 (by rfl)
        (v := .slice (some ⟨C2.next, 0, none⟩) (word.length + 1) (word.length + 1)) (A1 := C3) (opRun_op rfl (by simp only [sev_tmp, sg_eq, sg_ne, sp_n, Nat.reduceLT, ne_eq, Nat.reduceEqDiff, not_false_eq_true, Nat.zero_add, Nat.reduceAdd, hn, ae_apd, apd_slice, FK.val]; exact q1)) ?_
      have hwl : (word ++ [(m : Int)]).length = word.length + 1 := by simp
      have hfind := find_stream (wc := word.length + 1) (sc := st.length) (rc := ro.length) (m := (m : Int)) hA35.wf ((x1.nx hA35 (Nat.le_refl _)).mono (Nat.le_refl _) hA35.next) ((x2.nx hA35 (Nat.le_refl _)).mono (Nat.le_refl _) hA35.next) (g3.ints.mono (Nat.zero_le _) (Nat.le_refl _)) (by omega) (by omega) (by omega)
      rw [hfv2, hwl] at hfind
      refine Dr.call (by kernel_rfl) (by rfl) F3 (by rfl) (opRun_call (by rfl) ⟨by rfl, by rfl⟩ (by rfl) (xs := [.agg #[.int .i64 (m : Int), .slice sa st.length st.length, .slice ra ro.length ro.length], .slice (some ⟨C2.next, 0, none⟩) (word.length + 1) (word.length + 1)]) (by simp only [sev_tmp, sg_eq, sg_ne, sp_n, Nat.reduceLT, ne_eq, Nat.reduceEqDiff, not_false_eq_true, List.map_cons, List.map_nil, List.nil_append, List.append_nil, hn]) hfind) ?_
      rintro v C4 ⟨rfl, k4⟩
      have F4 := hF C4 ((k4.keep _ (by omega)).trans (L3 _ (by omega)))
      refine Dr.read (by first | rfl | kernel_rfl) (by first | rfl | (simp only [sev_tmp, sev_const, sev_func, sg_eq, sg_ne, sp_n, sp_none, Nat.reduceLT, ne_eq, Nat.reduceEqDiff, not_false_eq_true, gd, nth, want_free, want_slot, beqB, List.map_cons, List.map_nil, Array.toList_empty, List.nil_append, List.append_nil, List.cons_append, hn]; done) | (simp only [sev_tmp, sev_const, sev_func, sg_eq, sg_ne, sp_n, sp_none, Nat.reduceLT, ne_eq, Nat.reduceEqDiff, not_false_eq_true, gd, nth, want_free, want_slot, beqB, List.map_cons, List.map_nil, Array.toList_empty, List.nil_append, List.append_nil, List.cons_append, hn]; rfl)) (by assumption) (fun M hM => by simp only [sev_tmp, sg_eq, sp_n, Nat.reduceLT, fx, Nat.zero_add, Nat.reduceAdd, hn] <;> rfl) (by rfl) (by first | exact VQ.int _ _ | exact VQ.bool _ | exact VQ.ptr _ _ | exact VQ.slice _ _ _ | exact VQ.func (by simp [vq_int, vq_ptr, vq_slice]) (by simp [vq_int, vq_ptr, vq_slice]) | exact VQ.agg (by simp [vq_int]) | exact VQ.tuple (by simp [vq_int, vq_ptr, vq_slice])) ?_
      refine Dr.read (by first | rfl | kernel_rfl) (by first | rfl | (simp only [sev_tmp, sev_const, sev_func, sg_eq, sg_ne, sp_n, sp_none, Nat.reduceLT, ne_eq, Nat.reduceEqDiff, not_false_eq_true, gd, nth, want_free, want_slot, beqB, List.map_cons, List.map_nil, Array.toList_empty, List.nil_append, List.append_nil, List.cons_append, hn]; done) | (simp only [sev_tmp, sev_const, sev_func, sg_eq, sg_ne, sp_n, sp_none, Nat.reduceLT, ne_eq, Nat.reduceEqDiff, not_false_eq_true, gd, nth, want_free, want_slot, beqB, List.map_cons, List.map_nil, Array.toList_empty, List.nil_append, List.append_nil, List.cons_append, hn]; rfl)) (by assumption) (fun M hM => by simp only [sev_tmp, sg_eq, sp_n, Nat.reduceLT, fx, ext, List.getElem?_toArray, List.getElem?_cons_zero, Nat.zero_add, Nat.reduceAdd, hn] <;> rfl) (by rfl) (by first | exact VQ.int _ _ | exact VQ.bool _ | exact VQ.ptr _ _ | exact VQ.slice _ _ _ | exact VQ.func (by simp [vq_int, vq_ptr, vq_slice]) (by simp [vq_int, vq_ptr, vq_slice]) | exact VQ.agg (by simp [vq_int, vq_ptr, vq_slice]) | exact VQ.tuple (by simp [vq_int, vq_ptr, vq_slice])) ?_
      refine Dr.read (by first | rfl | kernel_rfl) (by first | rfl | (simp only [sev_tmp, sev_const, sev_func, sg_eq, sg_ne, sp_n, sp_none, Nat.reduceLT, ne_eq, Nat.reduceEqDiff, not_false_eq_true, gd, nth, want_free, want_slot, beqB, List.map_cons, List.map_nil, Array.toList_empty, List.nil_append, List.append_nil, List.cons_append, hn]; done) | (simp only [sev_tmp, sev_const, sev_func, sg_eq, sg_ne, sp_n, sp_none, Nat.reduceLT, ne_eq, Nat.reduceEqDiff, not_false_eq_true, gd, nth, want_free, want_slot, beqB, List.map_cons, List.map_nil, Array.toList_empty, List.nil_append, List.append_nil, List.cons_append, hn]; rfl)) (by assumption) (fun M hM => by simp only [sev_tmp, sg_eq, sg_ne, sp_n, Nat.reduceLT, ne_eq, Nat.reduceEqDiff, not_false_eq_true, fx, ext, List.getElem?_toArray, List.getElem?_cons_zero, List.getElem?_cons_succ, Nat.zero_add, Nat.reduceAdd, hn] <;> rfl) (by rfl) (by first | exact VQ.int _ _ | exact VQ.bool _ | exact VQ.ptr _ _ | exact VQ.slice _ _ _ | exact VQ.func (by simp [vq_int, vq_ptr, vq_slice]) (by simp [vq_int, vq_ptr, vq_slice]) | exact VQ.agg (by simp [vq_int, vq_ptr, vq_slice]) | exact VQ.tuple (by simp [vq_int, vq_ptr, vq_slice])) ?_
      refine Dr.read (by first | rfl | kernel_rfl) (by first | rfl | (simp only [sev_tmp, sev_const, sev_func, sg_eq, sg_ne, sp_n, sp_none, Nat.reduceLT, ne_eq, Nat.reduceEqDiff, not_false_eq_true, gd, nth, want_free, want_slot, beqB, List.map_cons, List.map_nil, Array.toList_empty, List.nil_append, List.append_nil, List.cons_append, hn]; done) | (simp only [sev_tmp, sev_const, sev_func, sg_eq, sg_ne, sp_n, sp_none, Nat.reduceLT, ne_eq, Nat.reduceEqDiff, not_false_eq_true, gd, nth, want_free, want_slot, beqB, List.map_cons, List.map_nil, Array.toList_empty, List.nil_append, List.append_nil, List.cons_append, hn]; rfl)) (by assumption) (fun M hM => by simp only [sev_tmp, sg_eq, sg_ne, sp_n, Nat.reduceLT, ne_eq, Nat.reduceEqDiff, not_false_eq_true, fx, Nat.zero_add, Nat.reduceAdd, hn] <;> rfl) (by rfl) (by first | exact VQ.int _ _ | exact VQ.bool _ | exact VQ.ptr _ _ | exact VQ.slice _ _ _ | exact VQ.func (by simp [vq_int, vq_ptr, vq_slice]) (by simp [vq_int, vq_ptr, vq_slice]) | exact VQ.agg (by simp [vq_int, vq_ptr, vq_slice]) | exact VQ.tuple (by simp [vq_int, vq_ptr, vq_slice])) ?_
      refine Dr.read (by first | rfl | kernel_rfl) (by first | rfl | (simp only [sev_tmp, sev_const, sev_func, sg_eq, sg_ne, sp_n, sp_none, Nat.reduceLT, ne_eq, Nat.reduceEqDiff, not_false_eq_true, gd, nth, want_free, want_slot, beqB, List.map_cons, List.map_nil, Array.toList_empty, List.nil_append, List.append_nil, List.cons_append, hn]; done) | (simp only [sev_tmp, sev_const, sev_func, sg_eq, sg_ne, sp_n, sp_none, Nat.reduceLT, ne_eq, Nat.reduceEqDiff, not_false_eq_true, gd, nth, want_free, want_slot, beqB, List.map_cons, List.map_nil, Array.toList_empty, List.nil_append, List.append_nil, List.cons_append, hn]; rfl)) (by assumption) (fun M hM => by simp only [sev_tmp, sg_eq, sg_ne, sp_n, Nat.reduceLT, ne_eq, Nat.reduceEqDiff, not_false_eq_true, fx, Nat.zero_add, Nat.reduceAdd, hn] <;> rfl) (by rfl) (by first | exact VQ.int _ _ | exact VQ.bool _ | exact VQ.ptr _ _ | exact VQ.slice _ _ _ | exact VQ.func (by simp [vq_int, vq_ptr, vq_slice]) (by simp [vq_int, vq_ptr, vq_slice]) | exact VQ.agg (by simp [vq_int, vq_ptr, vq_slice]) | exact VQ.tuple (by simp [vq_int, vq_ptr, vq_slice])) ?_
      refine Dr.nil (by rfl) (fun M hM => by cases hM) F4 ⟨C4, by rfl, ?_⟩
      (repeat (first | refine Rn.seq hc ?_ | refine Rn.skip hc ?_ | refine Rn.block hc ?_ | refine Rn.inBlock hc ?_ | refine Rn.scope hc ?_ | refine Rn.inScope hc ?_))
      have hC4 : Nx A'.next A' C4 := hA3.trans (k4.le hA3.next)
      have hC5 : Nx A5.next A5 C4 := hA5.trans (hC4.le hA5.next)
      have hlC : Ints C4 la 0 C4.next (takeL st ro 0 n) := (hlA.nx hC4 (Nat.le_refl _)).mono (Nat.le_refl _) hC4.next
      have hd6 : (!decide ((6 : Int) = 6)) = false := rfl
      refine Rn.reg hc rfl ?_
      simp only [sev_tmp, sev_const, sg_eq, sp_n, Nat.reduceLT, gd, want_free, rops, fx, bin_neq, Nat.zero_add, Option.some.injEq, exists_eq_left', Nat.reduceAdd, hn]
      (repeat (first | refine Rn.seq hc ?_ | refine Rn.skip hc ?_ | refine Rn.block hc ?_ | refine Rn.inBlock hc ?_ | refine Rn.scope hc ?_ | refine Rn.inScope hc ?_))
      refine Rn.condE hc rfl ?_
      simp only [sev_tmp, sg_eq, sp_n, Nat.reduceLT, Value.bool.injEq, exists_eq_left', hn]
      (repeat (first | refine Rn.seq hc ?_ | refine Rn.skip hc ?_ | refine Rn.block hc ?_ | refine Rn.inBlock hc ?_ | refine Rn.scope hc ?_ | refine Rn.inScope hc ?_))
      refine Rn.reg hc rfl ?_
      simp only [sev_const, gd, want_free, rops, fx, Option.some.injEq, exists_eq_left']
      (repeat (first | refine Rn.seq hc ?_ | refine Rn.skip hc ?_ | refine Rn.block hc ?_ | refine Rn.inBlock hc ?_ | refine Rn.scope hc ?_ | refine Rn.inScope hc ?_))
      refine Rn.reg hc rfl ?_
      simp only [sev_tmp, sev_const, sg_ne, ne_eq, Nat.reduceEqDiff, not_false_eq_true, gd, want_free, rops, fx, Option.some.injEq, exists_eq_left', s12]
      (repeat (first | refine Rn.seq hc ?_ | refine Rn.skip hc ?_ | refine Rn.block hc ?_ | refine Rn.inBlock hc ?_ | refine Rn.scope hc ?_ | refine Rn.inScope hc ?_))
      have hll := takeL_len st ro 0 n
      have hcv : ∀ v nn : Nat, v < m → countV (m : Int) (v : Int) (nn : Int) st ro = .tuple #[.int .i64 (countN (v : Int) nn st ro : Nat), .int .i64 0] := fun v nn hv => by
        unfold countV
        rw [if_pos he, if_neg (by simp [rangeBad]; omega)]
        simp
      have hd0 : (!decide ((0 : Int) = 0)) = false := rfl
      refine Rn.loopI hc (I := fun kk s A' => ∃ v, v ≤ m ∧ kk = m - v ∧ Nx C4.next C4 A' ∧ s.n = 243 ∧ sget s 3 = .int .u8 (n : Int) ∧ sget s 4 = .int .u16 (far : Int) ∧ sget s 13 = .pointer (some ⟨A4.next, 0, none⟩) ∧ sget s 18 = .slice la n lc ∧ sget s 26 = .int .i64 (cntAll (takeL st ro 0 n) v : Nat) ∧ sget s 141 = .int .i64 (m : Int) ∧ sget s 142 = .int .i64 (v : Int))
        (n := m) ⟨0, by omega, rfl, Nx.refl hC4.wf _, by simp only [sp_n, hn], by simp only [sg_ne, ne_eq, Nat.reduceEqDiff, not_false_eq_true, s3], by simp only [sg_ne, ne_eq, Nat.reduceEqDiff, not_false_eq_true, s4], by simp only [sg_ne, ne_eq, Nat.reduceEqDiff, not_false_eq_true, s13], by simp only [sg_ne, ne_eq, Nat.reduceEqDiff, not_false_eq_true, s18], by simp only [sg_eq, sg_ne, sp_n, Nat.reduceLT, ne_eq, Nat.reduceEqDiff, not_false_eq_true, hn]; rfl, by simp only [sg_eq, sg_ne, sp_n, Nat.reduceLT, ne_eq, Nat.reduceEqDiff, not_false_eq_true, hn], by simp only [sg_eq, sp_n, Nat.reduceLT, hn]; rfl⟩ ?_
      clear hd hd6
      clear hn s3 s4 s12 s13 s14 s16 s18 s20 s
      rintro kk s E ⟨v, hv, rfl, hE, hn, s3, s4, s13, s18, s26, s141, s142⟩ ih
      have nC4 : A4.next < C4.next := by have := hC5.next; omega
      (repeat (first | refine Rn.seq hc ?_ | refine Rn.skip hc ?_ | refine Rn.block hc ?_ | refine Rn.inBlock hc ?_ | refine Rn.scope hc ?_ | refine Rn.inScope hc ?_))
      by_cases hlt : v < m
      · have hd : decide ((v : Int) < (m : Int)) = true := by simp; omega
        refine Rn.reg hc rfl ?_
        simp only [sev_tmp, gd, want_free, rops, fx, bin_lss, Option.some.injEq, exists_eq_left', s141, s142, hd]
        (repeat (first | refine Rn.seq hc ?_ | refine Rn.skip hc ?_ | refine Rn.block hc ?_ | refine Rn.inBlock hc ?_ | refine Rn.scope hc ?_ | refine Rn.inScope hc ?_))
        refine Rn.condE hc rfl ?_
        simp only [sev_tmp, sg_eq, Nat.reduceLT, Value.bool.injEq, exists_eq_left', hn]
        (repeat (first | refine Rn.seq hc ?_ | refine Rn.skip hc ?_ | refine Rn.block hc ?_ | refine Rn.inBlock hc ?_ | refine Rn.scope hc ?_ | refine Rn.inScope hc ?_))
        refine Rn.reg hc rfl ?_
        simp only [sev_tmp, sg_eq, sg_ne, sp_n, Nat.reduceLT, ne_eq, Nat.reduceEqDiff, not_false_eq_true, gd, want_free, rops, fx, Option.some.injEq, exists_eq_left', hn, s142]
        (repeat (first | refine Rn.seq hc ?_ | refine Rn.skip hc ?_ | refine Rn.block hc ?_ | refine Rn.inBlock hc ?_ | refine Rn.scope hc ?_ | refine Rn.inScope hc ?_))
        have hE5 : Nx A5.next A5 E := hC5.trans (hE.le hC5.next)
        have d0' := (hE.cl nC4 0).trans ((hC5.cl n45 0).trans d0)
        have d1' := (hE.cl nC4 1).trans ((hC5.cl n45 1).trans d1)
        have d2' := (hE.cl nC4 2).trans ((hC5.cl n45 2).trans d2)
        refine Rn.region hc fun K hK => ?_
        refine Wo.run hc 4 rfl rfl rfl ?_
        simp (maxSteps := 2000000) only [List.drop_zero, List.take_succ_cons, List.take_zero, sev_tmp, sg_eq, sg_ne, sp_n, Nat.reduceLT, ne_eq, Nat.reduceEqDiff, not_false_eq_true, gd, want_free, rops, fx, ld, adr_p, cls, Nat.zero_add, Option.some.injEq, exists_eq_left', Nat.reduceAdd, tk24, ae_cv, hn, s3, s13, d0', d1', d2', cv53 hn8]
        refine Wo.call hc (by rfl) (by rfl) ⟨by rfl, by rfl⟩ (xs := [.agg #[.int .i64 (m : Int), .slice sa st.length st.length, .slice ra ro.length ro.length], .int .i64 (v : Int), .int .i64 (n : Int)]) (by first | rfl | (simp only [sev_tmp, sev_const, sev_func, sg_eq, sg_ne, sp_n, sp_none, Nat.reduceLT, ne_eq, Nat.reduceEqDiff, not_false_eq_true, gd, nth, want_free, want_slot, beqB, List.map_cons, List.map_nil, Array.toList_empty, List.nil_append, List.append_nil, List.cons_append, hn]; done) | (simp only [sev_tmp, sev_const, sev_func, sg_eq, sg_ne, sp_n, sp_none, Nat.reduceLT, ne_eq, Nat.reduceEqDiff, not_false_eq_true, gd, nth, want_free, want_slot, beqB, List.map_cons, List.map_nil, Array.toList_empty, List.nil_append, List.append_nil, List.cons_append, hn]; rfl)) (by first | rfl | (simp only [sev_tmp, sev_const, sev_func, sg_eq, sg_ne, sp_n, sp_none, Nat.reduceLT, ne_eq, Nat.reduceEqDiff, not_false_eq_true, gd, nth, want_free, want_slot, beqB, List.map_cons, List.map_nil, Array.toList_empty, List.nil_append, List.append_nil, List.cons_append, hn]; done) | (simp only [sev_tmp, sev_const, sev_func, sg_eq, sg_ne, sp_n, sp_none, Nat.reduceLT, ne_eq, Nat.reduceEqDiff, not_false_eq_true, gd, nth, want_free, want_slot, beqB, List.map_cons, List.map_nil, Array.toList_empty, List.nil_append, List.append_nil, List.cons_append, hn]; rfl)) (by first | rfl | (simp only [sev_tmp, sg_eq, sg_ne, sp_n, Nat.reduceLT, ne_eq, Nat.reduceEqDiff, not_false_eq_true, List.map_cons, List.map_nil, List.nil_append, List.append_nil, hn]; done) | (simp only [sev_tmp, sev_const, sev_func, sg_eq, sg_ne, sp_n, sp_none, Nat.reduceLT, ne_eq, Nat.reduceEqDiff, not_false_eq_true, gd, nth, want_free, want_slot, beqB, List.map_cons, List.map_nil, Array.toList_empty, List.nil_append, List.append_nil, List.cons_append, hn]; rfl)) (Con.mono (count_stream hE.wf ((x1.nx hE5 (Nat.le_refl _)).mono (Nat.le_refl _) hE5.next) ((x2.nx hE5 (Nat.le_refl _)).mono (Nat.le_refl _) hE5.next) (by omega) (by omega) (y1.nx w5 hE5) (y2.nx w5 hE5) (Nat.le_refl _) (Nat.le_refl _) (by omega)) ?_)
        rintro w E1 ⟨rfl, k1⟩
        rw [hcv v n hlt, countN_cnt (v : Int) hro1]
        refine Wo.run hc 5 rfl rfl rfl ?_
        simp (maxSteps := 2000000) only [List.drop_zero, List.drop_succ_cons, List.take_succ_cons, List.take_zero, sev_tmp, sg_eq, sg_ne, sp_n, Nat.reduceLT, ne_eq, Nat.reduceEqDiff, not_false_eq_true, gd, want_free, rops, fx, ext, List.getElem?_toArray, List.getElem?_cons_zero, List.getElem?_cons_succ, Option.some.injEq, exists_eq_left', Nat.reduceAdd, hn]
        refine Wo.done hc rfl (hK _ _ ?_)
        clear hK
        (repeat (first | refine Rn.seq hc ?_ | refine Rn.skip hc ?_ | refine Rn.block hc ?_ | refine Rn.inBlock hc ?_ | refine Rn.scope hc ?_ | refine Rn.inScope hc ?_))
        refine Rn.reg hc rfl ?_
        simp only [sev_const, gd, want_free, rops, fx, Option.some.injEq, exists_eq_left']
        (repeat (first | refine Rn.seq hc ?_ | refine Rn.skip hc ?_ | refine Rn.block hc ?_ | refine Rn.inBlock hc ?_ | refine Rn.scope hc ?_ | refine Rn.inScope hc ?_))
        refine Rn.reg hc rfl ?_
        simp only [sev_tmp, sev_const, sg_eq, sg_ne, sp_n, Nat.reduceLT, ne_eq, Nat.reduceEqDiff, not_false_eq_true, gd, want_free, rops, fx, lng, Option.some.injEq, exists_eq_left', un22, hn, s18]
        (repeat (first | refine Rn.seq hc ?_ | refine Rn.skip hc ?_ | refine Rn.block hc ?_ | refine Rn.inBlock hc ?_ | refine Rn.scope hc ?_ | refine Rn.inScope hc ?_))
        have hE1 : Nx C4.next C4 E1 := hE.trans (k1.le hE.next)
        have hlE : Ints E1 la 0 E1.next (takeL st ro 0 n) := (hlC.nx hE1 (Nat.le_refl _)).mono (Nat.le_refl _) hE1.next
        have hal := cntAll_le (takeL st ro 0 n) v
        have hcl := cnt_le (v : Int) (takeL st ro 0 n)
        have hsum : cntAll (takeL st ro 0 n) (v + 1) = cntAll (takeL st ro 0 n) v + cnt (v : Int) (takeL st ro 0 n) := rfl
        rw [hll] at hal hcl
        have hbig : v * n ≤ 7 * 255 := Nat.mul_le_mul (by omega) (by omega)
        generalize hL : takeL st ro 0 n = L at hlE hll hal hcl hsum s26
        have hwrap : IntKind.i64.wrap (((cntAll L v : Nat) : Int) + ((cnt (v : Int) L : Nat) : Int)) = ((cntAll L (v + 1) : Nat) : Int) := by rw [hsum, IntWalk.i64_in _ (by omega)]; omega
        subst hll
        refine Rn.loopI hc (I := fun kk s E' => ∃ i, i ≤ L.length ∧ kk = L.length - i ∧ E' = E1 ∧ s.n = 243 ∧ sget s 3 = .int .u8 (L.length : Int) ∧ sget s 4 = .int .u16 (far : Int) ∧ sget s 13 = .pointer (some ⟨A4.next, 0, none⟩) ∧ sget s 18 = .slice la L.length lc ∧ sget s 26 = .int .i64 (cntAll L v : Nat) ∧ sget s 27 = .int .i64 (v : Int) ∧ sget s 28 = .int .i64 (cnt (v : Int) L : Nat) ∧ sget s 29 = .int .i64 0 ∧ sget s 30 = .int .i64 (cnt (v : Int) (L.take i) : Nat) ∧ sget s 141 = .int .i64 (m : Int) ∧ sget s 142 = .int .i64 (v : Int) ∧
            sget s 153 = .slice la L.length lc ∧ sget s 154 = .int .i64 (L.length : Int) ∧ sget s 155 = .int .i64 (i : Int))
          (n := L.length) ⟨0, by omega, rfl, rfl, by simp only [sp_n, hn], by simp only [sg_ne, ne_eq, Nat.reduceEqDiff, not_false_eq_true, s3], by simp only [sg_ne, ne_eq, Nat.reduceEqDiff, not_false_eq_true, s4], by simp only [sg_ne, ne_eq, Nat.reduceEqDiff, not_false_eq_true, s13], by simp only [sg_ne, ne_eq, Nat.reduceEqDiff, not_false_eq_true, s18], by simp only [sg_ne, ne_eq, Nat.reduceEqDiff, not_false_eq_true, s26], by simp only [sg_eq, sg_ne, sp_n, Nat.reduceLT, ne_eq, Nat.reduceEqDiff, not_false_eq_true, hn], by simp only [sg_eq, sg_ne, sp_n, Nat.reduceLT, ne_eq, Nat.reduceEqDiff, not_false_eq_true, hn], by simp only [sg_eq, sg_ne, sp_n, Nat.reduceLT, ne_eq, Nat.reduceEqDiff, not_false_eq_true, hn], by simp only [sg_eq, sg_ne, sp_n, Nat.reduceLT, ne_eq, Nat.reduceEqDiff, not_false_eq_true, hn]; rfl, by simp only [sg_ne, ne_eq, Nat.reduceEqDiff, not_false_eq_true, s141], by simp only [sg_ne, ne_eq, Nat.reduceEqDiff, not_false_eq_true, s142], by simp only [sg_eq, sg_ne, sp_n, Nat.reduceLT, ne_eq, Nat.reduceEqDiff, not_false_eq_true, hn], by simp only [sg_eq, sg_ne, sp_n, Nat.reduceLT, ne_eq, Nat.reduceEqDiff, not_false_eq_true, hn], by simp only [sg_eq, sp_n, Nat.reduceLT, hn]; rfl⟩ ?_
        clear hn s3 s4 s13 s18 s26 s141 s142 s hd
        rintro kk s E' ⟨i, hi, rfl, rfl, hn, s3, s4, s13, s18, s26, s27, s28, s29, s30, s141, s142, s153, s154, s155⟩ ihi
        (repeat (first | refine Rn.seq hc ?_ | refine Rn.skip hc ?_ | refine Rn.block hc ?_ | refine Rn.inBlock hc ?_ | refine Rn.scope hc ?_ | refine Rn.inScope hc ?_))
        by_cases hlti : i < L.length
        · have hd : decide ((i : Int) < (L.length : Int)) = true := by simp; omega
          obtain ⟨bb, o, rfl, _, _, hcl'⟩ := hlE i hlti
          refine Rn.reg hc rfl ?_
          simp only [sev_tmp, gd, want_free, rops, fx, bin_lss, Option.some.injEq, exists_eq_left', s154, s155, hd]
          (repeat (first | refine Rn.seq hc ?_ | refine Rn.skip hc ?_ | refine Rn.block hc ?_ | refine Rn.inBlock hc ?_ | refine Rn.scope hc ?_ | refine Rn.inScope hc ?_))
          refine Rn.condE hc rfl ?_
          simp only [sev_tmp, sg_eq, Nat.reduceLT, Value.bool.injEq, exists_eq_left', hn]
          (repeat (first | refine Rn.seq hc ?_ | refine Rn.skip hc ?_ | refine Rn.block hc ?_ | refine Rn.inBlock hc ?_ | refine Rn.scope hc ?_ | refine Rn.inScope hc ?_))
          refine Rn.reg hc rfl ?_
          simp only [sev_tmp, sg_eq, sg_ne, sp_n, Nat.reduceLT, ne_eq, Nat.reduceEqDiff, not_false_eq_true, gd, want_free, rops, fx, ld, idx, adr_p, Option.some.injEq, exists_eq_left', Nat.mul_one, tk3, eo22, hn, s153, s155, nlen_nat hlti, hcl']
          (repeat (first | refine Rn.seq hc ?_ | refine Rn.skip hc ?_ | refine Rn.block hc ?_ | refine Rn.inBlock hc ?_ | refine Rn.scope hc ?_ | refine Rn.inScope hc ?_))
          by_cases hvv : L.getD i 0 = (v : Int)
          · have hd2 : decide (L.getD i 0 = (v : Int)) = true := decide_eq_true hvv
            refine Rn.reg hc rfl ?_
            simp only [sev_tmp, sg_eq, sg_ne, sp_n, Nat.reduceLT, ne_eq, Nat.reduceEqDiff, not_false_eq_true, gd, want_free, rops, fx, bin_eql, Option.some.injEq, exists_eq_left', hn, s27, hd2]
            (repeat (first | refine Rn.seq hc ?_ | refine Rn.skip hc ?_ | refine Rn.block hc ?_ | refine Rn.inBlock hc ?_ | refine Rn.scope hc ?_ | refine Rn.inScope hc ?_))
            refine Rn.condE hc rfl ?_
            simp only [sev_tmp, sg_eq, sp_n, Nat.reduceLT, Value.bool.injEq, exists_eq_left', hn]
            (repeat (first | refine Rn.seq hc ?_ | refine Rn.skip hc ?_ | refine Rn.block hc ?_ | refine Rn.inBlock hc ?_ | refine Rn.scope hc ?_ | refine Rn.inScope hc ?_))
            refine Rn.reg hc rfl ?_
            simp only [sev_tmp, sev_const, sg_eq, sg_ne, sp_n, Nat.reduceLT, ne_eq, Nat.reduceEqDiff, not_false_eq_true, gd, want_free, rops, fx, bin_add, Option.some.injEq, exists_eq_left', hn, s30, wrap_succ (show cnt (v : Int) (L.take i) < 9223372036854775807 by have := cnt_take_le (v : Int) L i; omega)]
            (repeat (first | refine Rn.seq hc ?_ | refine Rn.skip hc ?_ | refine Rn.block hc ?_ | refine Rn.inBlock hc ?_ | refine Rn.scope hc ?_ | refine Rn.inScope hc ?_))
            refine Rn.reg hc rfl ?_
            simp only [sev_tmp, sev_const, sg_eq, sg_ne, sp_n, Nat.reduceLT, ne_eq, Nat.reduceEqDiff, not_false_eq_true, gd, want_free, rops, fx, bin_add, Option.some.injEq, exists_eq_left', hn, s155, wrap_succ (show i < 9223372036854775807 by omega)]
            (repeat (first | refine Rn.seq hc ?_ | refine Rn.skip hc ?_ | refine Rn.block hc ?_ | refine Rn.inBlock hc ?_ | refine Rn.scope hc ?_ | refine Rn.inScope hc ?_))
            exact ihi _ _ _ (by omega) ⟨i + 1, by omega, rfl, rfl, by simp only [sp_n, hn], by simp only [sg_ne, ne_eq, Nat.reduceEqDiff, not_false_eq_true, s3], by simp only [sg_ne, ne_eq, Nat.reduceEqDiff, not_false_eq_true, s4], by simp only [sg_ne, ne_eq, Nat.reduceEqDiff, not_false_eq_true, s13], by simp only [sg_ne, ne_eq, Nat.reduceEqDiff, not_false_eq_true, s18], by simp only [sg_ne, ne_eq, Nat.reduceEqDiff, not_false_eq_true, s26], by simp only [sg_ne, ne_eq, Nat.reduceEqDiff, not_false_eq_true, s27], by simp only [sg_ne, ne_eq, Nat.reduceEqDiff, not_false_eq_true, s28], by simp only [sg_ne, ne_eq, Nat.reduceEqDiff, not_false_eq_true, s29], by simp only [sg_eq, sg_ne, sp_n, Nat.reduceLT, ne_eq, Nat.reduceEqDiff, not_false_eq_true, hn]; rw [cnt_take (v : Int) hlti, if_pos hvv], by simp only [sg_ne, ne_eq, Nat.reduceEqDiff, not_false_eq_true, s141], by simp only [sg_ne, ne_eq, Nat.reduceEqDiff, not_false_eq_true, s142], by simp only [sg_ne, ne_eq, Nat.reduceEqDiff, not_false_eq_true, s153], by simp only [sg_ne, ne_eq, Nat.reduceEqDiff, not_false_eq_true, s154], by simp only [sg_eq, sp_n, Nat.reduceLT, hn]⟩
          · have hd2 : decide (L.getD i 0 = (v : Int)) = false := decide_eq_false hvv
            refine Rn.reg hc rfl ?_
            simp only [sev_tmp, sg_eq, sg_ne, sp_n, Nat.reduceLT, ne_eq, Nat.reduceEqDiff, not_false_eq_true, gd, want_free, rops, fx, bin_eql, Option.some.injEq, exists_eq_left', hn, s27, hd2]
            (repeat (first | refine Rn.seq hc ?_ | refine Rn.skip hc ?_ | refine Rn.block hc ?_ | refine Rn.inBlock hc ?_ | refine Rn.scope hc ?_ | refine Rn.inScope hc ?_))
            refine Rn.condE hc rfl ?_
            simp only [sev_tmp, sg_eq, sp_n, Nat.reduceLT, Value.bool.injEq, exists_eq_left', hn]
            (repeat (first | refine Rn.seq hc ?_ | refine Rn.skip hc ?_ | refine Rn.block hc ?_ | refine Rn.inBlock hc ?_ | refine Rn.scope hc ?_ | refine Rn.inScope hc ?_))
            refine Rn.reg hc rfl ?_
            simp only [sev_tmp, sev_const, sg_eq, sg_ne, sp_n, Nat.reduceLT, ne_eq, Nat.reduceEqDiff, not_false_eq_true, gd, want_free, rops, fx, bin_add, Option.some.injEq, exists_eq_left', hn, s155, wrap_succ (show i < 9223372036854775807 by omega)]
            (repeat (first | refine Rn.seq hc ?_ | refine Rn.skip hc ?_ | refine Rn.block hc ?_ | refine Rn.inBlock hc ?_ | refine Rn.scope hc ?_ | refine Rn.inScope hc ?_))
            exact ihi _ _ _ (by omega) ⟨i + 1, by omega, rfl, rfl, by simp only [sp_n, hn], by simp only [sg_ne, ne_eq, Nat.reduceEqDiff, not_false_eq_true, s3], by simp only [sg_ne, ne_eq, Nat.reduceEqDiff, not_false_eq_true, s4], by simp only [sg_ne, ne_eq, Nat.reduceEqDiff, not_false_eq_true, s13], by simp only [sg_ne, ne_eq, Nat.reduceEqDiff, not_false_eq_true, s18], by simp only [sg_ne, ne_eq, Nat.reduceEqDiff, not_false_eq_true, s26], by simp only [sg_ne, ne_eq, Nat.reduceEqDiff, not_false_eq_true, s27], by simp only [sg_ne, ne_eq, Nat.reduceEqDiff, not_false_eq_true, s28], by simp only [sg_ne, ne_eq, Nat.reduceEqDiff, not_false_eq_true, s29], by simp only [sg_ne, ne_eq, Nat.reduceEqDiff, not_false_eq_true, s30]; rw [cnt_take (v : Int) hlti, if_neg hvv, Nat.add_zero], by simp only [sg_ne, ne_eq, Nat.reduceEqDiff, not_false_eq_true, s141], by simp only [sg_ne, ne_eq, Nat.reduceEqDiff, not_false_eq_true, s142], by simp only [sg_ne, ne_eq, Nat.reduceEqDiff, not_false_eq_true, s153], by simp only [sg_ne, ne_eq, Nat.reduceEqDiff, not_false_eq_true, s154], by simp only [sg_eq, sp_n, Nat.reduceLT, hn]⟩
        · have hd : decide ((i : Int) < (L.length : Int)) = false := by simp; omega
          have hil : i = L.length := by omega
          subst hil
          clear ihi
          rw [List.take_length] at s30
          refine Rn.reg hc rfl ?_
          simp only [sev_tmp, gd, want_free, rops, fx, bin_lss, Option.some.injEq, exists_eq_left', s154, s155, hd]
          (repeat (first | refine Rn.seq hc ?_ | refine Rn.skip hc ?_ | refine Rn.block hc ?_ | refine Rn.inBlock hc ?_ | refine Rn.scope hc ?_ | refine Rn.inScope hc ?_))
          refine Rn.condE hc rfl ?_
          simp only [sev_tmp, sg_eq, Nat.reduceLT, Value.bool.injEq, exists_eq_left', hn]
          (repeat (first | refine Rn.seq hc ?_ | refine Rn.skip hc ?_ | refine Rn.block hc ?_ | refine Rn.inBlock hc ?_ | refine Rn.scope hc ?_ | refine Rn.inScope hc ?_))
          refine Rn.exit hc rfl ?_
          (repeat (first | refine Rn.seq hc ?_ | refine Rn.skip hc ?_ | refine Rn.block hc ?_ | refine Rn.inBlock hc ?_ | refine Rn.scope hc ?_ | refine Rn.inScope hc ?_))
          have hd3 : (!decide (((cnt (v : Int) L : Nat) : Int) = ((cnt (v : Int) L : Nat) : Int))) = false := by simp
          refine Rn.reg hc rfl ?_
          simp only [sev_tmp, sev_const, sg_eq, sg_ne, sp_n, Nat.reduceLT, ne_eq, Nat.reduceEqDiff, not_false_eq_true, gd, nth, want_free, want_slot, beqB, rops, fx, pck, bin_neq, Option.some.injEq, exists_eq_left', Bool.not_true, Bool.not_true, hn, s28, s29, s30, eq_self, decide_true]
          (repeat (first | refine Rn.seq hc ?_ | refine Rn.skip hc ?_ | refine Rn.block hc ?_ | refine Rn.inBlock hc ?_ | refine Rn.scope hc ?_ | refine Rn.inScope hc ?_))
          refine Rn.condE hc rfl ?_
          simp only [sev_tmp, sg_eq, sp_n, Nat.reduceLT, Value.bool.injEq, exists_eq_left', hn]
          (repeat (first | refine Rn.seq hc ?_ | refine Rn.skip hc ?_ | refine Rn.block hc ?_ | refine Rn.inBlock hc ?_ | refine Rn.scope hc ?_ | refine Rn.inScope hc ?_))
          refine Rn.reg hc rfl ?_
          simp only [sev_tmp, sg_eq, sg_ne, sp_n, Nat.reduceLT, ne_eq, Nat.reduceEqDiff, not_false_eq_true, gd, want_free, rops, fx, bin_add, Option.some.injEq, exists_eq_left', hn, s26, s28, hwrap]
          (repeat (first | refine Rn.seq hc ?_ | refine Rn.skip hc ?_ | refine Rn.block hc ?_ | refine Rn.inBlock hc ?_ | refine Rn.scope hc ?_ | refine Rn.inScope hc ?_))
          have hE15 : Nx A5.next A5 E' := hC5.trans (hE1.le hC5.next)
          refine Rn.gen (I := fun s => s.n = 243 ∧ sget s 3 = .int .u8 (L.length : Int) ∧ sget s 4 = .int .u16 (far : Int) ∧ sget s 13 = .pointer (some ⟨A4.next, 0, none⟩) ∧ sget s 18 = .slice la L.length lc ∧ sget s 26 = .int .i64 (cntAll L (v + 1) : Nat) ∧ sget s 27 = .int .i64 (v : Int) ∧ sget s 141 = .int .i64 (m : Int) ∧ sget s 142 = .int .i64 (v : Int))
            ⟨by simp only [sp_n, hn], by simp only [sg_ne, ne_eq, Nat.reduceEqDiff, not_false_eq_true, s3], by simp only [sg_ne, ne_eq, Nat.reduceEqDiff, not_false_eq_true, s4], by simp only [sg_ne, ne_eq, Nat.reduceEqDiff, not_false_eq_true, s13], by simp only [sg_ne, ne_eq, Nat.reduceEqDiff, not_false_eq_true, s18], by simp only [sg_eq, sp_n, Nat.reduceLT, hn], by simp only [sg_ne, ne_eq, Nat.reduceEqDiff, not_false_eq_true, s27], by simp only [sg_ne, ne_eq, Nat.reduceEqDiff, not_false_eq_true, s141], by simp only [sg_ne, ne_eq, Nat.reduceEqDiff, not_false_eq_true, s142]⟩ ?_
          clear hn s3 s4 s13 s18 s26 s27 s28 s29 s30 s141 s142 s153 s154 s155 s
          rintro s ⟨hn, s3, s4, s13, s18, s26, s27, s141, s142⟩
          have e0' := (hE1.cl nC4 0).trans ((hC5.cl n45 0).trans d0)
          have e1' := (hE1.cl nC4 1).trans ((hC5.cl n45 1).trans d1)
          have e2' := (hE1.cl nC4 2).trans ((hC5.cl n45 2).trans d2)
          have hp1 : countN (v : Int) st.length st ro = cnt (v : Int) st := by have := countN_far (v : Int) (st := st) hro1 0; simpa using this
          have hp2 : countN (v : Int) (st.length + ro.length) st ro = cnt (v : Int) st + cnt (v : Int) ro := by have := countN_far (v : Int) (st := st) hro1 1; simpa using this
          have hp3 := countN_far (v : Int) (st := st) hro1 far
          have hc1 := hcv v st.length hlt
          have hc2 := hcv v (st.length + ro.length) hlt
          have hc3 := hcv v (st.length + far * ro.length) hlt
          rw [hp1] at hc1
          rw [hp2] at hc2
          rw [hp3] at hc3
          have hP := cnt_le (v : Int) st
          have hQ := cnt_le (v : Int) ro
          generalize cnt (v : Int) st = P at hc1 hc2 hc3 hP
          generalize cnt (v : Int) ro = Q at hc2 hc3 hQ
          refine Rn.region hc fun K hK => ?_
          refine Wo.run hc 5 rfl rfl rfl ?_
          simp (maxSteps := 2000000) only [List.drop_zero, List.take_succ_cons, List.take_zero, sev_tmp, sg_eq, sg_ne, sp_n, Nat.reduceLT, ne_eq, Nat.reduceEqDiff, not_false_eq_true, gd, want_free, rops, fx, ld, fad, lng, adr_p, cls, Nat.zero_add, Option.some.injEq, exists_eq_left', Nat.reduceAdd, tk22, tk24, fo24_1, un22, hn, s13, s27, e0', e1', e2']
          refine Wo.call hc (by rfl) (by rfl) ⟨by rfl, by rfl⟩ (xs := [.agg #[.int .i64 (m : Int), .slice sa st.length st.length, .slice ra ro.length ro.length], .int .i64 (v : Int), .int .i64 (st.length : Int)]) (by first | rfl | (simp only [sev_tmp, sev_const, sev_func, sg_eq, sg_ne, sp_n, sp_none, Nat.reduceLT, ne_eq, Nat.reduceEqDiff, not_false_eq_true, gd, nth, want_free, want_slot, beqB, List.map_cons, List.map_nil, Array.toList_empty, List.nil_append, List.append_nil, List.cons_append, hn]; done) | (simp only [sev_tmp, sev_const, sev_func, sg_eq, sg_ne, sp_n, sp_none, Nat.reduceLT, ne_eq, Nat.reduceEqDiff, not_false_eq_true, gd, nth, want_free, want_slot, beqB, List.map_cons, List.map_nil, Array.toList_empty, List.nil_append, List.append_nil, List.cons_append, hn]; rfl)) (by first | rfl | (simp only [sev_tmp, sev_const, sev_func, sg_eq, sg_ne, sp_n, sp_none, Nat.reduceLT, ne_eq, Nat.reduceEqDiff, not_false_eq_true, gd, nth, want_free, want_slot, beqB, List.map_cons, List.map_nil, Array.toList_empty, List.nil_append, List.append_nil, List.cons_append, hn]; done) | (simp only [sev_tmp, sev_const, sev_func, sg_eq, sg_ne, sp_n, sp_none, Nat.reduceLT, ne_eq, Nat.reduceEqDiff, not_false_eq_true, gd, nth, want_free, want_slot, beqB, List.map_cons, List.map_nil, Array.toList_empty, List.nil_append, List.append_nil, List.cons_append, hn]; rfl)) (by first | rfl | (simp only [sev_tmp, sg_eq, sg_ne, sp_n, Nat.reduceLT, ne_eq, Nat.reduceEqDiff, not_false_eq_true, List.map_cons, List.map_nil, List.nil_append, List.append_nil, hn]; done) | (simp only [sev_tmp, sev_const, sev_func, sg_eq, sg_ne, sp_n, sp_none, Nat.reduceLT, ne_eq, Nat.reduceEqDiff, not_false_eq_true, gd, nth, want_free, want_slot, beqB, List.map_cons, List.map_nil, Array.toList_empty, List.nil_append, List.append_nil, List.cons_append, hn]; rfl)) (Con.mono (count_stream hE1.wf ((x1.nx hE15 (Nat.le_refl _)).mono (Nat.le_refl _) hE15.next) ((x2.nx hE15 (Nat.le_refl _)).mono (Nat.le_refl _) hE15.next) (by omega) (by omega) (y1.nx w5 hE15) (y2.nx w5 hE15) (Nat.le_refl _) (Nat.le_refl _) (by omega)) ?_)
          rintro w E2 ⟨rfl, k2⟩
          rw [hc1]
          refine Wo.run hc 5 rfl rfl rfl ?_
          simp (maxSteps := 2000000) only [List.drop_zero, List.drop_succ_cons, List.take_succ_cons, List.take_zero, sev_tmp, sg_eq, sg_ne, sp_n, Nat.reduceLT, ne_eq, Nat.reduceEqDiff, not_false_eq_true, gd, want_free, rops, fx, ext, List.getElem?_toArray, List.getElem?_cons_zero, List.getElem?_cons_succ, Option.some.injEq, exists_eq_left', Nat.reduceAdd, hn]
          refine Wo.done hc rfl (hK _ _ ?_)
          clear hK
          (repeat (first | refine Rn.seq hc ?_ | refine Rn.skip hc ?_ | refine Rn.block hc ?_ | refine Rn.inBlock hc ?_ | refine Rn.scope hc ?_ | refine Rn.inScope hc ?_))
          have hE2 : Nx C4.next C4 E2 := hE1.trans (k2.le hE1.next)
          have hE25 : Nx A5.next A5 E2 := hC5.trans (hE2.le hC5.next)
          have f0' := (hE2.cl nC4 0).trans ((hC5.cl n45 0).trans d0)
          have f1' := (hE2.cl nC4 1).trans ((hC5.cl n45 1).trans d1)
          have f2' := (hE2.cl nC4 2).trans ((hC5.cl n45 2).trans d2)
          have hw2 : IntKind.i64.wrap ((st.length : Int) + (ro.length : Int)) = ((st.length + ro.length : Nat) : Int) := by rw [IntWalk.i64_in _ (by omega)]; omega
          refine Rn.region hc fun K hK => ?_
          refine Wo.run hc 9 rfl rfl rfl ?_
          simp (maxSteps := 2000000) only [List.drop_zero, List.take_succ_cons, List.take_zero, sev_tmp, sg_eq, sg_ne, sp_n, Nat.reduceLT, ne_eq, Nat.reduceEqDiff, not_false_eq_true, gd, want_free, rops, fx, ld, fad, lng, bin_add, adr_p, cls, Nat.zero_add, Option.some.injEq, exists_eq_left', Nat.reduceAdd, tk22, tk24, fo24_1, fo24_2, un22, hn, s13, s27, f0', f1', f2', hw2]
          refine Wo.call hc (by rfl) (by rfl) ⟨by rfl, by rfl⟩ (xs := [.agg #[.int .i64 (m : Int), .slice sa st.length st.length, .slice ra ro.length ro.length], .int .i64 (v : Int), .int .i64 ((st.length + ro.length : Nat) : Int)]) (by first | rfl | (simp only [sev_tmp, sev_const, sev_func, sg_eq, sg_ne, sp_n, sp_none, Nat.reduceLT, ne_eq, Nat.reduceEqDiff, not_false_eq_true, gd, nth, want_free, want_slot, beqB, List.map_cons, List.map_nil, Array.toList_empty, List.nil_append, List.append_nil, List.cons_append, hn]; done) | (simp only [sev_tmp, sev_const, sev_func, sg_eq, sg_ne, sp_n, sp_none, Nat.reduceLT, ne_eq, Nat.reduceEqDiff, not_false_eq_true, gd, nth, want_free, want_slot, beqB, List.map_cons, List.map_nil, Array.toList_empty, List.nil_append, List.append_nil, List.cons_append, hn]; rfl)) (by first | rfl | (simp only [sev_tmp, sev_const, sev_func, sg_eq, sg_ne, sp_n, sp_none, Nat.reduceLT, ne_eq, Nat.reduceEqDiff, not_false_eq_true, gd, nth, want_free, want_slot, beqB, List.map_cons, List.map_nil, Array.toList_empty, List.nil_append, List.append_nil, List.cons_append, hn]; done) | (simp only [sev_tmp, sev_const, sev_func, sg_eq, sg_ne, sp_n, sp_none, Nat.reduceLT, ne_eq, Nat.reduceEqDiff, not_false_eq_true, gd, nth, want_free, want_slot, beqB, List.map_cons, List.map_nil, Array.toList_empty, List.nil_append, List.append_nil, List.cons_append, hn]; rfl)) (by first | rfl | (simp only [sev_tmp, sg_eq, sg_ne, sp_n, Nat.reduceLT, ne_eq, Nat.reduceEqDiff, not_false_eq_true, List.map_cons, List.map_nil, List.nil_append, List.append_nil, hn]; done) | (simp only [sev_tmp, sev_const, sev_func, sg_eq, sg_ne, sp_n, sp_none, Nat.reduceLT, ne_eq, Nat.reduceEqDiff, not_false_eq_true, gd, nth, want_free, want_slot, beqB, List.map_cons, List.map_nil, Array.toList_empty, List.nil_append, List.append_nil, List.cons_append, hn]; rfl)) (Con.mono (count_stream hE2.wf ((x1.nx hE25 (Nat.le_refl _)).mono (Nat.le_refl _) hE25.next) ((x2.nx hE25 (Nat.le_refl _)).mono (Nat.le_refl _) hE25.next) (by omega) (by omega) (y1.nx w5 hE25) (y2.nx w5 hE25) (Nat.le_refl _) (Nat.le_refl _) (by omega)) ?_)
          rintro w E3 ⟨rfl, k3⟩
          rw [hc2]
          refine Wo.run hc 5 rfl rfl rfl ?_
          simp (maxSteps := 2000000) only [List.drop_zero, List.drop_succ_cons, List.take_succ_cons, List.take_zero, sev_tmp, sg_eq, sg_ne, sp_n, Nat.reduceLT, ne_eq, Nat.reduceEqDiff, not_false_eq_true, gd, want_free, rops, fx, ext, List.getElem?_toArray, List.getElem?_cons_zero, List.getElem?_cons_succ, Option.some.injEq, exists_eq_left', Nat.reduceAdd, hn]
          refine Wo.done hc rfl (hK _ _ ?_)
          clear hK
          (repeat (first | refine Rn.seq hc ?_ | refine Rn.skip hc ?_ | refine Rn.block hc ?_ | refine Rn.inBlock hc ?_ | refine Rn.scope hc ?_ | refine Rn.inScope hc ?_))
          have hE3 : Nx C4.next C4 E3 := hE2.trans (k3.le hE2.next)
          have hE35 : Nx A5.next A5 E3 := hC5.trans (hE3.le hC5.next)
          have g0' := (hE3.cl nC4 0).trans ((hC5.cl n45 0).trans d0)
          have g1' := (hE3.cl nC4 1).trans ((hC5.cl n45 1).trans d1)
          have g2' := (hE3.cl nC4 2).trans ((hC5.cl n45 2).trans d2)
          have hfb : far * ro.length ≤ 65535 * 12 := Nat.mul_le_mul (by omega) (by omega)
          have hQb : far * Q ≤ 65535 * 12 := Nat.mul_le_mul (by omega) (by omega)
          have hw3 : IntKind.i64.wrap ((far : Int) * (ro.length : Int)) = ((far * ro.length : Nat) : Int) := by rw [← Int.natCast_mul, IntWalk.i64_in _ (by omega)]
          have hw4 : IntKind.i64.wrap ((st.length : Int) + ((far * ro.length : Nat) : Int)) = ((st.length + far * ro.length : Nat) : Int) := by rw [IntWalk.i64_in _ (by omega)]; omega
          have hw5 : IntKind.i64.wrap (((P + Q : Nat) : Int) - (P : Int)) = (Q : Int) := by rw [IntWalk.i64_in _ (by omega)]; omega
          have hw6 : IntKind.i64.wrap ((far : Int) * (Q : Int)) = ((far * Q : Nat) : Int) := by rw [← Int.natCast_mul, IntWalk.i64_in _ (by omega)]
          have hw7 : IntKind.i64.wrap ((P : Int) + ((far * Q : Nat) : Int)) = ((P + far * Q : Nat) : Int) := by rw [IntWalk.i64_in _ (by omega)]; omega
          have hd8 : (!decide (((P + far * Q : Nat) : Int) = ((P + far * Q : Nat) : Int))) = false := by simp
          refine Rn.region hc fun K hK => ?_
          refine Wo.run hc 12 rfl rfl rfl ?_
          simp (maxSteps := 2000000) only [List.drop_zero, List.take_succ_cons, List.take_zero, sev_tmp, sg_eq, sg_ne, sp_n, Nat.reduceLT, ne_eq, Nat.reduceEqDiff, not_false_eq_true, gd, want_free, rops, fx, ld, fad, lng, bin_add, bin_mul, adr_p, cls, Nat.zero_add, Option.some.injEq, exists_eq_left', Nat.reduceAdd, tk22, tk24, fo24_1, fo24_2, un22, ae_cv, hn, s4, s13, s27, g0', g1', g2', cv643 hfar, hw3, hw4]
          refine Wo.call hc (by rfl) (by rfl) ⟨by rfl, by rfl⟩ (xs := [.agg #[.int .i64 (m : Int), .slice sa st.length st.length, .slice ra ro.length ro.length], .int .i64 (v : Int), .int .i64 ((st.length + far * ro.length : Nat) : Int)]) (by first | rfl | (simp only [sev_tmp, sev_const, sev_func, sg_eq, sg_ne, sp_n, sp_none, Nat.reduceLT, ne_eq, Nat.reduceEqDiff, not_false_eq_true, gd, nth, want_free, want_slot, beqB, List.map_cons, List.map_nil, Array.toList_empty, List.nil_append, List.append_nil, List.cons_append, hn]; done) | (simp only [sev_tmp, sev_const, sev_func, sg_eq, sg_ne, sp_n, sp_none, Nat.reduceLT, ne_eq, Nat.reduceEqDiff, not_false_eq_true, gd, nth, want_free, want_slot, beqB, List.map_cons, List.map_nil, Array.toList_empty, List.nil_append, List.append_nil, List.cons_append, hn]; rfl)) (by first | rfl | (simp only [sev_tmp, sev_const, sev_func, sg_eq, sg_ne, sp_n, sp_none, Nat.reduceLT, ne_eq, Nat.reduceEqDiff, not_false_eq_true, gd, nth, want_free, want_slot, beqB, List.map_cons, List.map_nil, Array.toList_empty, List.nil_append, List.append_nil, List.cons_append, hn]; done) | (simp only [sev_tmp, sev_const, sev_func, sg_eq, sg_ne, sp_n, sp_none, Nat.reduceLT, ne_eq, Nat.reduceEqDiff, not_false_eq_true, gd, nth, want_free, want_slot, beqB, List.map_cons, List.map_nil, Array.toList_empty, List.nil_append, List.append_nil, List.cons_append, hn]; rfl)) (by first | rfl | (simp only [sev_tmp, sg_eq, sg_ne, sp_n, Nat.reduceLT, ne_eq, Nat.reduceEqDiff, not_false_eq_true, List.map_cons, List.map_nil, List.nil_append, List.append_nil, hn]; done) | (simp only [sev_tmp, sev_const, sev_func, sg_eq, sg_ne, sp_n, sp_none, Nat.reduceLT, ne_eq, Nat.reduceEqDiff, not_false_eq_true, gd, nth, want_free, want_slot, beqB, List.map_cons, List.map_nil, Array.toList_empty, List.nil_append, List.append_nil, List.cons_append, hn]; rfl)) (Con.mono (count_stream hE3.wf ((x1.nx hE35 (Nat.le_refl _)).mono (Nat.le_refl _) hE35.next) ((x2.nx hE35 (Nat.le_refl _)).mono (Nat.le_refl _) hE35.next) (by omega) (by omega) (y1.nx w5 hE35) (y2.nx w5 hE35) (Nat.le_refl _) (Nat.le_refl _) (by omega)) ?_)
          rintro w E4 ⟨rfl, k4⟩
          rw [hc3]
          refine Wo.run hc 5 rfl rfl rfl ?_
          simp (maxSteps := 2000000) only [List.drop_zero, List.drop_succ_cons, List.take_succ_cons, List.take_zero, sev_tmp, sg_eq, sg_ne, sp_n, Nat.reduceLT, ne_eq, Nat.reduceEqDiff, not_false_eq_true, gd, want_free, rops, fx, ext, List.getElem?_toArray, List.getElem?_cons_zero, List.getElem?_cons_succ, Option.some.injEq, exists_eq_left', Nat.reduceAdd, hn]
          refine Wo.done hc rfl (hK _ _ ?_)
          clear hK
          (repeat (first | refine Rn.seq hc ?_ | refine Rn.skip hc ?_ | refine Rn.block hc ?_ | refine Rn.inBlock hc ?_ | refine Rn.scope hc ?_ | refine Rn.inScope hc ?_))
          have hE4 : Nx C4.next C4 E4 := hE3.trans (k4.le hE3.next)
          refine Rn.reg hc rfl ?_
          simp only [sev_tmp, sev_const, sg_eq, sg_ne, sp_n, Nat.reduceLT, ne_eq, Nat.reduceEqDiff, not_false_eq_true, gd, nth, want_free, want_slot, beqB, rops, fx, pck, bin_neq, bin_add, bin_sub, bin_mul, Option.some.injEq, exists_eq_left', Bool.not_true, Bool.not_true, ae_cv, hn, s4, cv643 hfar, hw5, hw6, hw7, eq_self, decide_true]
          (repeat (first | refine Rn.seq hc ?_ | refine Rn.skip hc ?_ | refine Rn.block hc ?_ | refine Rn.inBlock hc ?_ | refine Rn.scope hc ?_ | refine Rn.inScope hc ?_))
          refine Rn.condE hc rfl ?_
          simp only [sev_tmp, sg_eq, sp_n, Nat.reduceLT, Value.bool.injEq, exists_eq_left', hn]
          (repeat (first | refine Rn.seq hc ?_ | refine Rn.skip hc ?_ | refine Rn.block hc ?_ | refine Rn.inBlock hc ?_ | refine Rn.scope hc ?_ | refine Rn.inScope hc ?_))
          refine Rn.reg hc rfl ?_
          simp only [sev_tmp, sev_const, sg_eq, sg_ne, sp_n, Nat.reduceLT, ne_eq, Nat.reduceEqDiff, not_false_eq_true, gd, want_free, rops, fx, bin_add, Option.some.injEq, exists_eq_left', hn, s142, wrap_succ (show v < 9223372036854775807 by omega)]
          (repeat (first | refine Rn.seq hc ?_ | refine Rn.skip hc ?_ | refine Rn.block hc ?_ | refine Rn.inBlock hc ?_ | refine Rn.scope hc ?_ | refine Rn.inScope hc ?_))
          exact ih _ _ _ (by omega) ⟨v + 1, by omega, rfl, hE4, by simp only [sp_n, hn], by simp only [sg_ne, ne_eq, Nat.reduceEqDiff, not_false_eq_true, s3], by simp only [sg_ne, ne_eq, Nat.reduceEqDiff, not_false_eq_true, s4], by simp only [sg_ne, ne_eq, Nat.reduceEqDiff, not_false_eq_true, s13], by simp only [sg_ne, ne_eq, Nat.reduceEqDiff, not_false_eq_true, s18], by simp only [sg_ne, ne_eq, Nat.reduceEqDiff, not_false_eq_true, s26, hL], by simp only [sg_ne, ne_eq, Nat.reduceEqDiff, not_false_eq_true, s141], by simp only [sg_eq, sp_n, Nat.reduceLT, hn]⟩
      · have hd : decide ((v : Int) < (m : Int)) = false := by simp; omega
        have hvm : v = m := by omega
        subst hvm
        clear ih
        rw [cntAll_take hin1 hin2 hro1] at s26
        refine Rn.reg hc rfl ?_
        simp only [sev_tmp, gd, want_free, rops, fx, bin_lss, Option.some.injEq, exists_eq_left', s141, s142, hd]
        (repeat (first | refine Rn.seq hc ?_ | refine Rn.skip hc ?_ | refine Rn.block hc ?_ | refine Rn.inBlock hc ?_ | refine Rn.scope hc ?_ | refine Rn.inScope hc ?_))
        refine Rn.condE hc rfl ?_
        simp only [sev_tmp, sg_eq, Nat.reduceLT, Value.bool.injEq, exists_eq_left', hn]
        (repeat (first | refine Rn.seq hc ?_ | refine Rn.skip hc ?_ | refine Rn.block hc ?_ | refine Rn.inBlock hc ?_ | refine Rn.scope hc ?_ | refine Rn.inScope hc ?_))
        refine Rn.exit hc rfl ?_
        (repeat (first | refine Rn.seq hc ?_ | refine Rn.skip hc ?_ | refine Rn.block hc ?_ | refine Rn.inBlock hc ?_ | refine Rn.scope hc ?_ | refine Rn.inScope hc ?_))
        have hd9 : decide ((n : Int) = (n : Int)) = true := by simp
        refine Rn.region hc fun K hK => ?_
        refine Wo.run hc 5 rfl rfl rfl ?_
        simp (maxSteps := 2000000) only [List.drop_zero, List.take_succ_cons, List.take_zero, sev_tmp, sg_eq, sg_ne, sp_n, Nat.reduceLT, ne_eq, Nat.reduceEqDiff, not_false_eq_true, gd, want_free, rops, fx, bin_eql, Nat.zero_add, Option.some.injEq, exists_eq_left', ae_cv, hn, s3, s26, cv53 hn8, eq_self, decide_true]
        refine Wo.call hc (by rfl) (by rfl) ⟨by rfl, by rfl⟩ (xs := []) (by simp only [sg_eq, sp_n, Nat.reduceLT, gd, nth, want_slot, beqB, hn]) (by rfl) (by rfl) (Con.mono (awake_con E) ?_)
        rintro w B3 ⟨rfl, rfl⟩
        refine Wo.run hc 2 rfl rfl rfl ?_
        simp (maxSteps := 2000000) only [List.drop_zero, List.drop_succ_cons, List.take_succ_cons, List.take_zero, sev_tmp, sg_eq, sg_ne, sp_n, Nat.reduceLT, ne_eq, Nat.reduceEqDiff, not_false_eq_true, gd, want_free, rops, fx, pck, Option.some.injEq, exists_eq_left', Nat.reduceAdd, hn]
        refine Wo.done hc rfl (hK _ _ ?_)
        clear hK
        (repeat (first | refine Rn.seq hc ?_ | refine Rn.skip hc ?_ | refine Rn.block hc ?_ | refine Rn.inBlock hc ?_ | refine Rn.scope hc ?_ | refine Rn.inScope hc ?_))
        refine Rn.ret (endQ_tmp rfl ⟨?_, hx05.trans ((hC5.trans (hE.le hC5.next)).le hx05.next)⟩)
        simp only [sg_eq, sp_n, Nat.reduceLT, hn]
end Go.Proofs.Ytdaljohmfnfgiaa
/- LassoCounted returns true from every world, and nothing old turns. No condition. -/
namespace Go.Proofs.Ytdaljohmfnfgiaa
open Go Go.RowKit Go.Proofs.Ytdaljohmfnfgiaa.Canon

theorem counted_any {W : World} {na : Option Addr} {nn nc : Nat} (h1 : ∀ x, na = some x → x.spot = none) (k1 : BysW W na nn) (hnn : nn < 9223372036854775808) {fr lo n far : Nat} (hfr : fr < 256) (hlo : lo < 256) (hn8 : n < 256) (hfar : far < 65536) :
    Calls Try.prog 14 #[.slice na nn nc, .int .u8 (fr : Int), .int .u8 (lo : Int), .int .u8 (n : Int), .int .u16 (far : Int)] W (fun e w' => e = .returned (.bool true) ∧ Below W.heap.size W w') := by
  obtain ⟨A, hA⟩ := in_any W (W.heap.size + 1 + blkOf na) (by omega) (by omega)
  refine calls_of_conF (t := 10) Try.func14 rfl hA (xs := [.slice na nn nc, .int .u8 (fr : Int), .int .u8 (lo : Int), .int .u8 (n : Int), .int .u16 (far : Int)]) ?_
    (law_counted hA.wf (k1.bys hA) hnn hfr hlo hn8 hfar)
  exact ((((AR.single (inP_v (roV_slice h1 (by omega)))).push (.int .u8 (fr : Int))).push (.int .u8 (lo : Int))).push (.int .u8 (n : Int))).push (.int .u16 (far : Int))
end Go.Proofs.Ytdaljohmfnfgiaa
/- LassoCounted returns true for every input, and each argument reads afterwards as it read before. No condition. -/
namespace Go.Proofs.Ytdaljohmfnfgiaa
open Go.ChangeShapes Go.WideShapes Go.ChangeAt Go.RowKit Go.Proofs.Ytdaljohmfnfgiaa.Canon
open Go.Deep (open_slice_pairs open_slice)

set_option maxRecDepth 100000 in
theorem lassoCounted_lifted (os : Os) (started : os.Started) (H : Type) (enc : TypeId × Value → H) :
    ReturnsInHanded {} Try.checked os 14 .any (Rows.lassoCountedSpec.pre6 enc Try.prog Try.f14 Rows.lassoCountedRow.domain false) (Rows.lassoCountedSpec.post enc Try.prog Try.f14 false true false false) := by
  refine returnsInHanded_of_change (C := Try.checked) Try.own started (by kernel_rfl) Try.func14
    (ChangeSpec.witness6 (enc := enc) (C := Try.checked) false ⟨#[], #[.slice none 0 0, .int .u8 0, .int .u8 0, .int .u8 0, .int .u16 0], []⟩ 8 (by kernel_rfl) (by kernel_rfl) (by kernel_rfl) (by kernel_rfl)) ?_
  intro W base args ds gs before hval0 hW hcnd _
  have hval : ∀ (j : Nat) t v, Try.f14.params[j]? = some t → args[j]? = some v → Value.okWide Try.prog W .any base t v := hval0
  have hW' := hW
  obtain ⟨p, q, hA0, hV, rfl, hfz, hnd⟩ := hW
  have hA : DataW.TrodAll enc Try.prog W 0 (fun _ => true) true Try.f14.params.toList args.toList ds p := hA0
  rw [Try.params14] at hA hval
  obtain ⟨v0, v1, v2, v3, v4, d0, d1, d2, d3, d4, p0, p1, p2, p3, p4, rfl, rfl, rfl, h0, h1, h2, h3, h4⟩ := trodAll_five hA
  obtain ⟨rfl, rfl⟩ := trodVars_none hV
  obtain ⟨na, nn, nc, rfl, hk⟩ := val_bytes (hval 0 55 v0 rfl rfl)
  obtain ⟨hnn, i1⟩ : nn < 9223372036854775808 ∧ BysW W na nn := by
    obtain ⟨fuel, hf⟩ := h0
    exact bytes_trod hf hk
  obtain ⟨fr, rfl, rfl, rfl, hw1⟩ := open_int Try.underlying5 (hval 1 5 v1 rfl rfl) h1
  obtain ⟨lo, rfl, rfl, rfl, hw2⟩ := open_int Try.underlying5 (hval 2 5 v2 rfl rfl) h2
  obtain ⟨n, rfl, rfl, rfl, hw3⟩ := open_int Try.underlying5 (hval 3 5 v3 rfl rfl) h3
  obtain ⟨far, rfl, rfl, rfl, hw4⟩ := open_int Try.underlying64 (hval 4 64 v4 rfl rfl) h4
  obtain ⟨fr, rfl, b1⟩ := lit_u8 hw1
  obtain ⟨lo, rfl, b2⟩ := lit_u8 hw2
  obtain ⟨n, rfl, b3⟩ := lit_u8 hw3
  obtain ⟨far, rfl, b4⟩ := lit_u16 hw4
  clear hA0 hval0
  simp only [List.append_nil] at hW'
  have hplace : ∀ p ∈ p0, p.block < W.heap.size := fun p hp => by simpa using hW'.lt p hp
  refine (counted_any (nc := nc) hk i1 hnn b1 b2 b3 b4).mono fun e W' ⟨he, hb⟩ => ?_
  subst he
  have harg0 : ∀ sp : Nat → Bool, (∀ p ∈ p0, sp p.block = true) → DataW.Trod enc Try.prog W' 0 sp true 55 (.slice na nn nc) d0 p0 := fun sp hsp =>
    WideElems.Trod_stays Try.laidOut (by kernel_rfl) (of_decide_eq_true (by kernel_rfl)) h0 (fun x hx => hb.same (hplace x hx)) (fun x hx => hsp x hx)
  refine ⟨_, rfl, post_of_below (pa := p0) (pv := []) hW' (fun _ _ _ => trodAll_mk1 (shut_bool Try.underlying4 _)) (fun sp hsp => ?_) (fun _ _ => rfl) (by simp) hb (ok_one (by kernel_rfl) rfl (okWide_bool_mk Try.underlying4 _))⟩
  have hall : DataW.TrodAll enc Try.prog W' 0 sp true [55, 5, 5, 5, 64] [.slice na nn nc, .int .u8 (fr : Int), .int .u8 (lo : Int), .int .u8 (n : Int), .int .u16 (far : Int)] [d0, .lit (.int .u8 (fr : Int)), .lit (.int .u8 (lo : Int)), .lit (.int .u8 (n : Int)), .lit (.int .u16 (far : Int))] (p0 ++ ([] ++ ([] ++ ([] ++ [])))) :=
    trodAll_mk5 (harg0 sp hsp) (shut_int Try.underlying5 hw1) (shut_int Try.underlying5 hw2) (shut_int Try.underlying5 hw3) (shut_int Try.underlying64 hw4)
  simp only [List.append_nil] at hall
  exact hall

theorem lassoCounted_holds : Rows.LassoCountedSaid :=
  OpenClaim.holds_of_wide 14 Try.f14 rfl rfl rfl rfl rfl rfl rfl ⟨rfl, rfl, rfl, rfl, rfl⟩ rfl rfl rfl rfl rfl (by kernel_rfl) Try.func14 (by kernel_rfl)
    (of_decide_eq_true (by kernel_rfl)) (by unfold Func.isWrapper; first | (rw [if_pos (by decide +kernel)]; kernel_rfl) | (rw [if_neg (by decide +kernel)]; exact ⟨rfl, rfl⟩))
    (fun os started H enc _ => lassoCounted_lifted os started H enc)
end Go.Proofs.Ytdaljohmfnfgiaa

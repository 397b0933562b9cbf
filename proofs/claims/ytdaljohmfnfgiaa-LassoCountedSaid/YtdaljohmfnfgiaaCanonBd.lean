/- A call that asks one question of what came in, and is run by its parts whatever the answer. No condition. -/
import Derived.Test.YtdaljohmfnfgiaaCanonBc
namespace Go.Proofs.Ytdaljohmfnfgiaa.Canon
open Go Go.RowKit

noncomputable section
variable {P : Program}

/-- What the machine does, above one row of callers. -/
def GoesAt (P : Program) (N : Kp) (base : List Frame) (φ : Phi) (w : World) (fr' : Frame) (cs' : List Frame) (s : St) : Prop :=
  ∃ ψ fr1' cs1' w1, φ.le ψ ∧ FrR ψ s.1 fr1' ∧ CL ψ s.2.1 cs1' ∧ Sim N ψ s.2.2 w1 ∧ Kept N w w1 ∧ Steps P (lone fr' (cs' ++ base) w) (lone fr1' (cs1' ++ base) w1)
theorem Goes.at {N : Kp} {φ : Phi} {w : World} {fr' : Frame} {cs' : List Frame} {s : St} (h : Goes P N φ w fr' cs' s) (base : List Frame) : GoesAt P N base φ w fr' cs' s := by
  exact h base

theorem undef_eq {φ : Phi} {v : Value} (h : V φ undef v) : v = undef := by
  have e : undef = Value.tuple #[] := rfl
  rw [e] at h
  cases h
  rename_i xs' hx hx'
  have : xs' = #[] := by
    apply Array.eq_empty_of_size_eq_zero
    rw [← hx]; rfl
  rw [this]; rfl

/-- The frame of a call, of what is related. -/
theorem enter_rel {φ : Phi} {g : FuncId} {xs xs' : Array Value} (h : AR φ xs xs') : FrR φ (Frame.enter P g xs .normal) (Frame.enter P g xs' .normal) := by
  refine ⟨rfl, ?_, .code _ .nil, .nil, rfl, rfl, rfl, rfl⟩
  simp only [Frame.enter]
  rw [← h.1]
  refine h.append ?_
  exact .of rfl fun i v hv => ⟨v, hv, by
    have := Array.mem_of_getElem? hv
    simp at this
    rw [this.2]; exact .undef φ⟩
theorem IL.one {φ : Phi} {c : Code} {l : List Item} (h : IL φ [.code c] l) : l = [.code c] := by
  cases h
  rename_i l' t
  cases t
  rfl
theorem enter_one {φ : Phi} {g : FuncId} {o o' : Value} {fr' : Frame} (h : FrR φ (Frame.enter P g #[o] .normal) fr') (ho : ∀ v, V φ o v → v = o') : fr' = Frame.enter P g #[o'] .normal := by
  obtain ⟨fn', tm', td', ds', m', kd', ro'⟩ := fr'
  obtain ⟨h1, h2, h3, h4, h5, h6, h7, h8⟩ := h
  simp only [Frame.enter] at h1 h2 h3 h4 h5 h6 h7 h8 ⊢
  subst h1 h5 h7
  have hro : ro' = none := h8
  subst hro
  have hds : ds' = [] := by cases h4; rfl
  subst hds
  rw [IL.one h3]
  have hsz : 1 + ((((P.funcs[fn']?).map (·.ntmps)).getD 0) - 1) = tm'.size := by
    have := h2.1
    simpa using this
  have htm : tm' = #[o'] ++ Array.replicate (((P.funcs[fn']?).map (·.ntmps)).getD 0 - #[o'].size) undef := by
    refine Array.ext_getElem? fun i => ?_
    cases hg : tm'[i]? with
    | none =>
      symm
      rw [Array.getElem?_eq_none_iff] at hg ⊢
      simp only [Array.size_append, Array.size_replicate]
      show 1 + (_ - 1) ≤ i
      omega
    | some u =>
      obtain ⟨hi, rfl⟩ := Array.getElem?_eq_some_iff.1 hg
      have hi2 : i < (#[o] ++ Array.replicate (((P.funcs[fn']?).map (·.ntmps)).getD 0 - #[o].size) undef).size := by rw [h2.1]; exact hi
      have hv := h2.2 i hi2 hi
      rw [Array.getElem_append] at hv
      rw [Array.getElem?_append]
      by_cases h0 : i < 1
      · have : i = 0 := by omega
        subst this
        simp at hv
        rw [ho _ hv]
        simp
      · simp [h0] at hv
        rw [undef_eq hv]
        have : i - 1 < ((P.funcs[fn']?).map (·.ntmps)).getD 0 - 1 := by omega
        simp [h0]
        rw [Array.getElem?_replicate, if_pos this]
  rw [htm]

section
variable (P) (X : Oper → XF) (R : DR) (m n : Nat) (g : FuncId) (t : Tmp) (S0 : Slots) (A0 : AHeap) (R0 cond rest : Code) (ops : Array Oper) (o0 o1 : Oper) (arg : Operand)

def doneOK (j : Code) (s : Slots) (ds : List Deferred) : Bool := match j, ds with
  | .ret, [] => match sget s t with
    | .bool b => b
    | _ => false
  | _, _ => false
def askArg : Value := match bcode P X R m R0 (borc P X R m n) g none S0 [] A0 with
  | .go s _ A => match X o0 (borc P X R m n) (seval s) A with
    | .yes v _ => seval (sput s o0.dst v) arg
    | .no => undef
  | _ => undef
def askRun (b : Bool) : Bool := match bcode P X R m R0 (borc P X R m n) g none S0 [] A0 with
  | .go s ds A => match ds, wantB (gd ops o0) s, X o0 (borc P X R m n) (seval s) A with
    | [], true, .yes v A2 => match wantB (gd ops o1) (sput s o0.dst v) with
      | true => match bcode P X R m cond (borc P X R m n) g none (sput (sput s o0.dst v) o1.dst (.bool b)) [] A2 with
        | .out j s ds _ => doneOK t j s ds
        | .go s ds A => match ds with
          | [] => match bcode P X R m rest (borc P X R m n) g none s [] A with
            | .out j s ds _ => doneOK t j s ds
            | _ => false
          | _ => false
        | .bad => false
      | false => false
    | _, _, _ => false
  | _ => false
end

theorem doneOK_eq {t : Tmp} {j : Code} {s : Slots} {ds : List Deferred} (h : doneOK t j s ds = true) : j = .ret ∧ ds = [] ∧ sget s t = .bool true := by
  unfold doneOK at h
  split at h
  · split at h
    · rename_i b hb; subst h; exact ⟨rfl, rfl, hb⟩
    · cases h
  · cases h

/-- The end of such a call. -/
theorem calls_end {N : Kp} {base : List Frame} {φ : Phi} {w0 w : World} {g : FuncId} {fn : Func} {t : Tmp} (hc : NoCount P) (hfn : P.funcs[g]? = some fn) (hres : fn.results = #[.tmp t]) {start fr' : Frame} {s : Slots} {k' : List Item} {A : AHeap}
    (h0 : Steps P (lone start base w0) (lone fr' base w)) (hk : Kept N w0 w) (hN : KOK N w) (hf : FrR φ (FF.abs ⟨g, s, .code .ret :: k', [], .run, none⟩) fr') (hs : Sim N φ A w) (hv : sget s t = .bool true) :
    ∃ e w' fr, (e = .returned (.bool true) ∧ Kept N w0 w') ∧ Comes P (lone start base w0) (lone fr base w') e ∧ fr.fn = g ∧ fr.leaving P w' e := by
  have hl : Leads P N (.any N) (SSt.abs (⟨g, s, .code .ret :: k', [], .run, none⟩, [], A)) (SSt.abs (⟨g, s, .code .ret :: k', [], .returning, none⟩, [], A)) := Leads.sstep hc rfl
  obtain ⟨ψ, fr1', cs1', w1, g1, g2, g3, g4, g5, g6⟩ := hl φ w fr' [] trivial hf .nil hs hN base
  cases g3
  have hn : t < s.n := by
    refine Nat.lt_of_not_le fun hle => ?_
    have hb : Nat.ble s.n t = true := Nat.ble_eq_true_of_le hle
    obtain ⟨n, tr⟩ := s
    simp only [sget] at hv
    simp only at hb
    rw [hb] at hv
    cases hv
  have hv2 : (FF.abs ⟨g, s, .code .ret :: k', [], .returning, none⟩).tmps[t]? = some (.bool true) := by
    show (sabs s)[t]? = _
    rw [sabs_get, if_pos hn, hv]
  obtain ⟨v', k1, k2⟩ := g2.tmps.get hv2
  cases k2
  have hdl : fr1'.defers = [] := by
    have := g2.defers
    cases hl : fr1'.defers with
    | nil => rfl
    | cons d l => rw [hl] at this; cases this
  refine ⟨.returned (.bool true), w1, fr1', ⟨rfl, hk.trans g5⟩, Steps.trans h0 (g6), g2.fn, g2.mode, hdl, g2.kind', fn, ?_, ?_⟩
  · rw [g2.fn]; exact hfn
  · simp [results, hres, Array.getD_eq_getD_getElem?, k1]

theorem calls_of_ask (hc : NoCount P) (hx : P.follows .mixedOrders = true) {X : Oper → XF} {R : DR} (hX : XOK P X) (hR : DROK P R) {m n : Nat} {g h : FuncId} {fn fh : Func} {t : Tmp} {R0 cond rest : Code} {id1 : Nat} {ops : Array Oper} {o0 o1 : Oper} {arg : Operand} {ch : Code}
    (hfn : P.funcs[g]? = some fn) (hbody : fn.body = some (.seq R0 (.seq (.seq (.region id1 ops false) cond) rest))) (hres : fn.results = #[.tmp t]) (hfh : P.funcs[h]? = some fh) (hbh : fh.body = some ch)
    (hops : ops.toList = [o0, o1]) (hcall : ∃ ats, o1.op = .call ⟨.value (.func h), #[arg], ats⟩) (harg : opnOK arg = true) {xs xs' : Array Value} {o o' : Value} (hlen : Nat.ble xs.size fn.ntmps = true) {nx : Nat}
    (hrun : ∀ b, askRun P X R m n g t ⟨fn.ntmps, sargs xs.toList 0 .leaf⟩ ⟨nx, .leaf⟩ R0 cond rest ops o0 o1 b = true)
    (hask : askArg P X R m n g ⟨fn.ntmps, sargs xs.toList 0 .leaf⟩ ⟨nx, .leaf⟩ R0 o0 arg = o)
    {φ0 : Phi} {w : World} (hφ : ∀ b e, φ0 b = some e → b < nx) (hxs : AR φ0 xs xs') (ho : ∀ φ v, φ0.le φ → V φ o v → v = o')
    (hq : ∀ w', Below w.heap.size w w' → Calls P h #[o'] w' fun e w'' => (∃ b : Bool, e = .returned (.bool b)) ∧ Below w'.heap.size w' w'') :
    Calls P g xs' w fun e w' => e = .returned (.bool true) ∧ Below w.heap.size w w' := by
  intro base
  have hD := borc_ok (m := m) hc hx hX hR n
  have hs0 : Sim (above w) φ0 ⟨nx, .leaf⟩ w := {
    fresh := hφ
    base := fun b x e hb => by cases hb
    alive := fun b x hb => by cases hb
    inj := fun b b' x x' e e' _ hb => by cases hb
    res := fun b hb => hb.elim }
  have hN0 : KOK (above w) w := fun _ h => h
  have cOK := fun c => bcode_ok (N := above w) (B := .any _) (m := m) (X := X) hc hx ((hD (above w)).callOK _) hX (hR.at hD) c
  have hen : senter P g xs = some ⟨g, ⟨fn.ntmps, sargs xs.toList 0 .leaf⟩, [.code (.seq R0 (.seq (.seq (.region id1 ops false) cond) rest))], [], .run, none⟩ := by
    simp [senter, nth_arr, hfn, hbody, hlen]
  obtain ⟨_, e2, _⟩ := senter_eq hen
  -- the answer that is reckoned with, of true
  have hT := hrun true
  unfold askRun at hT
  split at hT <;> try (cases hT; done)
  rename_i s0 ds0 A1 hr0
  split at hT <;> try (cases hT; done)
  rename_i v A2 hw0 hx0
  split at hT <;> try (cases hT; done)
  rename_i hw1
  clear hT
  have hargv : seval (sput s0 o0.dst v) arg = o := by
    unfold askArg at hask
    rw [hr0] at hask
    simp only [hx0] at hask
    exact hask
  obtain ⟨ats, hop⟩ := hcall
  have hn0 : nth ops.toList 0 = some o0 := by rw [hops]; rfl
  have hn1 : nth ops.toList 1 = some o1 := by rw [hops]; rfl
  have hsz : ops.size = 2 := by rw [← Array.length_toList, hops]; rfl
  -- to the question
  have l1 : Leads P (above w) (.any _) (Frame.enter P g xs .normal, [], ⟨nx, .leaf⟩) (SSt.abs (⟨g, sput s0 o0.dst v, .inRegion ops [1] :: [.code cond, .code rest], [], .run, none⟩, [], A2)) := by
    rw [e2]
    have a1 : Leads P (above w) (.any _) (SSt.abs (⟨g, ⟨fn.ntmps, sargs xs.toList 0 .leaf⟩, [.code (.seq R0 (.seq (.seq (.region id1 ops false) cond) rest))], [], .run, none⟩, [], ⟨nx, .leaf⟩)) (SSt.abs (⟨g, ⟨fn.ntmps, sargs xs.toList 0 .leaf⟩, [.code R0, .code (.seq (.seq (.region id1 ops false) cond) rest)], [], .run, none⟩, [], ⟨nx, .leaf⟩)) := Leads.sstep hc rfl
    have a2 := (cOK R0 g none ⟨fn.ntmps, sargs xs.toList 0 .leaf⟩ [] ⟨nx, .leaf⟩ [.code (.seq (.seq (.region id1 ops false) cond) rest)] []).1 _ _ _ hr0
    have a3 : Leads P (above w) (.any _) (SSt.abs (⟨g, s0, [.code (.seq (.seq (.region id1 ops false) cond) rest)], [], .run, none⟩, [], A1)) (SSt.abs (⟨g, s0, [.code (.seq (.region id1 ops false) cond), .code rest], [], .run, none⟩, [], A1)) := Leads.sstep hc rfl
    have a4 : Leads P (above w) (.any _) (SSt.abs (⟨g, s0, [.code (.seq (.region id1 ops false) cond), .code rest], [], .run, none⟩, [], A1)) (SSt.abs (⟨g, s0, [.code (.region id1 ops false), .code cond, .code rest], [], .run, none⟩, [], A1)) := Leads.sstep hc rfl
    have a5 : Leads P (above w) (.any _) (SSt.abs (⟨g, s0, [.code (.region id1 ops false), .code cond, .code rest], [], .run, none⟩, [], A1)) (SSt.abs (⟨g, s0, .inRegion ops [0, 1] :: [.code cond, .code rest], [], .run, none⟩, [], A1)) := Leads.sstep hc (by
      simp only [sStep, sitem, scode, hsz]; rfl)
    have a6 := op_leads (k := [.code cond, .code rest]) (rest := [1]) (fn := g) (ro := none) (ds := []) (cs := []) hc ((hD (above w)).callOK (.any _)) hn0 (.inr ⟨hw0, hX _ _ _ _ _ _ hx0⟩)
    exact a1.trans (a2.trans (a3.trans (a4.trans (a5.trans a6))))
  -- the question
  have hst : aStep P (FF.abs ⟨g, sput s0 o0.dst v, .inRegion ops [1] :: [.code cond, .code rest], [], .run, none⟩) [] A2 = some (Frame.enter P h #[o] .normal, [FF.abs ⟨g, sput s0 o0.dst v, .inRegion ops [1] :: [.code cond, .code rest], [], .run, none⟩], A2) := by
    have hev : seval (sput s0 o0.dst v) = (FF.abs ⟨g, sput s0 o0.dst v, .inRegion ops [1] :: [.code cond, .code rest], [], .run, none⟩).eval := by rw [seval_eq, ← feval_eq]; rfl
    have e1 : aStep P (FF.abs ⟨g, sput s0 o0.dst v, .inRegion ops [1] :: [.code cond, .code rest], [], .run, none⟩) [] A2 = aoper P ops 1 (FF.abs ⟨g, sput s0 o0.dst v, .inRegion ops [1] :: [.code cond, .code rest], [], .run, none⟩) [] A2 := rfl
    have hwe : Region.wanted o1 (yielded ops (FF.abs ⟨g, sput s0 o0.dst v, .inRegion ops [1] :: [.code cond, .code rest], [], .run, none⟩).tmps) = true := by
      have := wantB_eq ops o1 (sput s0 o0.dst v)
      rw [hw1, syielded_eq] at this
      exact this.symm
    have hn1' : ops[1]? = some o1 := by rw [← nth_arr]; exact hn1
    rw [e1]
    unfold aoper
    simp only [hn1', hwe, hop]
    have ha2 : (#[arg] : Array Operand).toList.all opnOK = true := by simp [harg]
    have hf2 : opnOK (.func h) = true := rfl
    have hm2 : (#[arg] : Array Operand).map (seval (sput s0 o0.dst v)) = #[o] := by simp [hargv]
    rw [← hev]
    simp only [hf2, ha2, hm2]
    show acall P _ [] A2 (.func (.func h) #[] #[]) #[o] = _
    simp [acall, hfh, hbh]
  have l2 : Leads P (above w) (.any _) _ _ := l1.trans (Leads.step hc hst)
  have hfr0 : FrR φ0 (Frame.enter P g xs .normal) (Frame.enter P g xs' .normal) := enter_rel hxs
  obtain ⟨ψ, fr1', cs1', w1, g1, g2, g3, g4, g5, g6⟩ := l2 φ0 w _ [] trivial hfr0 .nil hs0 hN0 base
  cases g3 with
  | cons hcf htl =>
    rename_i c' l'
    cases htl
    have hfr1 := enter_one g2 (fun v hv => ho ψ v g1 hv)
    subst hfr1
    obtain ⟨e, w2, fr2, ⟨⟨b, rfl⟩, hb2⟩, hcomes, hfn2, hleave⟩ := hq w1 g5.below (c' :: base)
    have hcomes : Steps P (lone (Frame.enter P h #[o'] .normal) (c' :: base) w1) (lone fr2 (c' :: base) w2) := hcomes
    have hret : Steps P (lone fr2 (c' :: base) w2) (lone (c'.finish (.bool b)) base w2) := .one (step_leave_returned hleave)
    have hk12 : Kept (above w) w1 w2 := ⟨hb2.os, hb2.tape, hb2.output, hb2.size, fun k hk => hb2.block k (Nat.lt_of_lt_of_le hk g5.size)⟩
    have hs2 : Sim (above w) ψ A2 w2 := by
      refine ⟨g4.fresh, fun b x e hx he => ⟨(g4.base b x e hx he).1, Nat.lt_of_lt_of_le (g4.base b x e hx he).2 hb2.size⟩, fun b x hx => ?_, g4.inj, g4.res⟩
      obtain ⟨e, h1, h2, h3, h4⟩ := g4.alive b x hx
      exact ⟨e, h1, h2, h3, h4.mono (Phi.le_refl _) (hb2.block _ (g4.base b x e hx h1).2)⟩
    have hN2 : KOK (above w) w2 := (hN0.up g5.size).up hb2.size
    have hfin : (FF.abs ⟨g, sput s0 o0.dst v, .inRegion ops [1] :: [.code cond, .code rest], [], .run, none⟩).finish (.bool b) = FF.abs ⟨g, sput (sput s0 o0.dst v) o1.dst (.bool b), .inRegion ops [] :: [.code cond, .code rest], [], .run, none⟩ := sfin_eq (by simp [sfin, hn1])
    have hf2 := hcf.finish (.bool b)
    rw [hfin] at hf2
    have hsteps : Steps P (lone (Frame.enter P g xs' .normal) base w) (lone (c'.finish (.bool b)) base w2) := by
      have := g6
      simp only [List.nil_append, List.cons_append] at this
      exact (this.trans hcomes).trans hret
    -- what follows
    have hB := hrun b
    unfold askRun at hB
    rw [hr0] at hB
    simp only [hw0, hx0, hw1] at hB
    have a7 : Leads P (above w) (.any _) (SSt.abs (⟨g, sput (sput s0 o0.dst v) o1.dst (.bool b), .inRegion ops [] :: [.code cond, .code rest], [], .run, none⟩, [], A2)) (SSt.abs (⟨g, sput (sput s0 o0.dst v) o1.dst (.bool b), [.code cond, .code rest], [], .run, none⟩, [], A2)) := Leads.sstep hc rfl
    have ending : ∀ s k' A3, Leads P (above w) (.any _) (SSt.abs (⟨g, sput (sput s0 o0.dst v) o1.dst (.bool b), .inRegion ops [] :: [.code cond, .code rest], [], .run, none⟩, [], A2)) (SSt.abs (⟨g, s, .code .ret :: k', [], .run, none⟩, [], A3)) → sget s t = .bool true →
        ∃ e w' fr, (e = .returned (.bool true) ∧ Below w.heap.size w w') ∧ Comes P (lone (Frame.enter P g xs' .normal) base w) (lone fr base w') e ∧ fr.fn = g ∧ fr.leaving P w' e := by
      intro s k' A3 hl hv
      obtain ⟨χ, fr3', cs3', w3, q1, q2, q3, q4, q5, q6⟩ := hl ψ w2 _ [] trivial hf2 .nil hs2 hN2 base
      cases q3
      obtain ⟨e, w', fr, ⟨r1, r2⟩, r3⟩ := calls_end hc hfn hres (hsteps.trans q6) ((g5.trans hk12).trans q5) (hN2.up q5.size) q2 q4 hv
      exact ⟨e, w', fr, ⟨r1, r2.below⟩, r3⟩
    split at hB
    · rename_i j s ds A3 hrc
      obtain ⟨rfl, rfl, hv⟩ := doneOK_eq hB
      obtain ⟨k', _, b2⟩ := (cOK cond g none (sput (sput s0 o0.dst v) o1.dst (.bool b)) [] A2 [.code rest] []).2 _ _ _ _ hrc
      exact ending s k' A3 (a7.trans b2) hv
    · rename_i s ds A3 hrc
      split at hB <;> try (cases hB; done)
      split at hB <;> try (cases hB; done)
      rename_i j s4 ds4 A4 hrr
      obtain ⟨rfl, rfl, hv⟩ := doneOK_eq hB
      have b1 := (cOK cond g none (sput (sput s0 o0.dst v) o1.dst (.bool b)) [] A2 [.code rest] []).1 _ _ _ hrc
      obtain ⟨k', _, b2⟩ := (cOK rest g none s [] A3 [] []).2 _ _ _ _ hrr
      exact ending s4 k' A4 (a7.trans (b1.trans b2)) hv
    · cases hB

end
end Go.Proofs.Ytdaljohmfnfgiaa.Canon

/- What the proof of this claim is made of. No condition. -/
import Derived.Test.YtdaljohmfnfgiaaCanonT
namespace Go.Proofs.Ytdaljohmfnfgiaa.Canon
open Go Go.RowKit
noncomputable section
section
variable {P : Program} {Q : Oper → Bool}
def RunsOK (P : Program) (N : Kp) (C : Runs) : Prop := ∀ (g : FuncId) (xs : Array Value) (A : AHeap) (v : Value) (A1 : AHeap),C g xs A = some (v,A1) →
  ∀ (φ : Phi) (w : World) (fr' : Frame),FrR φ (Frame.enter P g xs .normal) fr' → Sim N φ A w → KOK N w →
    ∀ c base,∃ ψ v' w1,φ.le ψ ∧ V ψ v v' ∧ Sim N ψ A1 w1 ∧ Kept N w w1 ∧ Steps P (lone fr' (c :: base) w) (lone (c.finish v') base w1)
theorem Goes.andThen {N : Kp} {φ : Phi} {w : World} {fr' : Frame} {cs' : List Frame} {s s2 : St} (h : Goes P N φ w fr' cs' s)
    (k : ∀ (ψ : Phi) (fr1' : Frame) (cs1' : List Frame) (w1 : World),φ.le ψ → FrR ψ s.1 fr1' → CL ψ s.2.1 cs1' → Sim N ψ s.2.2 w1 → Kept N w w1 → Goes P N ψ w1 fr1' cs1' s2) : Goes P N φ w fr' cs' s2 := by
  intro base
  obtain ⟨ψ,fr1',cs1',w1,h1,h2,h3,h4,h5,h6⟩ := h base
  obtain ⟨χ,fr2',cs2',w2,k1,k2,k3,k4,k5,k6⟩ := k ψ fr1' cs1' w1 h1 h2 h3 h4 h5 base
  exact ⟨χ,fr2',cs2',w2,Phi.le_trans h1 k1,k2,k3,k4,h5.trans k5,h6.trans k6⟩
theorem look_same {ops : Array Oper} {T T' : Array Value} {o : Oper} (h : ∀ t ∈ o.looksAt ops,T[t]? = T'[t]?) :
    (∀ x ∈ o.op.operands,feval T x = feval T' x) ∧ Region.wanted o (yielded ops T) = Region.wanted o (yielded ops T') := by
  refine ⟨fun x hx => ?_,?_⟩
  · cases x with
    | tmp t =>
      have : t ∈ o.looksAt ops := List.mem_append_left _ (List.mem_filterMap.2 ⟨.tmp t,by simpa using hx,rfl⟩)
      simp only [feval,zCX,h t this]
    | _ => rfl
  · unfold Region.wanted
    cases hg : o.guard with
    | none => rfl
    | some gw =>
      obtain ⟨g,want⟩ := gw
      have : yielded ops T g = yielded ops T' g := by
        unfold yielded
        cases ht : (ops[g]?).bind (·.dst) with
        | none => rfl
        | some t =>
          have : t ∈ o.looksAt ops := by simp [Oper.looksAt,hg,ht]
          simp [h t this]
      simp only [this]
theorem opRun_congr {C : Runs} {ρ ρ' : Operand → Value} (o : Oper) (h : ∀ x ∈ o.op.operands,ρ x = ρ' x) (A : AHeap) : opRun P C ρ o A = opRun P C ρ' o A := by
  have hx := aexec_congr (P := P) o h A
  unfold opRun
  split
  · rename_i f args ats hop
    rw [hop] at h
    have hargs : args.map ρ = args.map ρ' := Array.map_congr_left fun x hx => h x (by simp [Op.operands,Call.operands,hx])
    have hf : ρ f = ρ' f := h f (by simp [Op.operands,Call.operands])
    rw [hargs,hf]
  · exact hx
theorem aexec_notcall {ρ : Operand → Value} {o : Oper} {A : AHeap} {p : Value × AHeap} (h : zAE P ρ o A = some p) : ∀ f args ats,o.op ≠ .call ⟨.value f,args,ats⟩ := by
  intro f args ats hop
  unfold zAE at h
  rw [hop] at h
  simp only at h
  split at h <;> cases h
theorem aoper_plain {ops : Array Oper} {i : Nat} {o : Oper} {fr : Frame} {cs : List Frame} {A A1 : AHeap} {v : Value} (ho : ops[i]? = some o) (hw : Region.wanted o (yielded ops fr.tmps) = true) (h : zAE P fr.eval o A = some (v,A1)) :
    aoper P ops i fr cs A = some (fr.finish v,cs,A1) := by
  unfold aoper
  rw [ho]
  simp only [hw]
  split
  · rename_i hop; exact absurd hop (aexec_notcall h _ _ _)
  · rw [h]
theorem aoper_skip {ops : Array Oper} {i : Nat} {o : Oper} {fr : Frame} {cs : List Frame} {A : AHeap} (ho : ops[i]? = some o) (hw : Region.wanted o (yielded ops fr.tmps) = false) :
    aoper P ops i fr cs A = some (fr.finish undef,cs,A) := by
  unfold aoper
  rw [ho]
  simp only [hw]
theorem opRun_sound (hc : zAJ P) {N : Kp} {C : Runs} (hC : RunsOK P N C) {φ : Phi} {A A1 : AHeap} {w : World} {ops : Array Oper} {i : Nat} {rest : List Nat} {k : List Item} {o : Oper} {fr fr' : Frame} {cs cs' : List Frame} {v : Value}
    (ho : ops[i]? = some o) (hw : Region.wanted o (yielded ops fr.tmps) = true) (h : opRun P C (feval fr.tmps) o A = some (v,A1)) (hf : FrR φ fr fr') (hcs : CL φ cs cs') (hs : Sim N φ A w)
    (hN : KOK N w) (hm : fr'.mode = .run) (ht : fr'.todo = .inRegion ops (i :: rest) :: k) : Goes P N φ w fr' cs' (fr.finish v,cs,A1) := by
  rw [feval_eq] at h
  unfold opRun at h
  split at h
  · rename_i f args ats hop
    split at h
    · rename_i hf1 hf2
      split at h
      · rename_i g first captured hv
        split at h
        · rename_i fn hfn
          split at h
          · rename_i hb
            rw [zCX] at hfn
            have ha : aoper P ops i fr cs A = some (Frame.enter P g (first ++ args.map fr.eval ++ captured) .normal,fr :: cs,A) := by
              unfold aoper
              rw [ho]
              simp only [hw,hop,hf1,hf2,acall,hv,hfn,hb]
            intro base
            obtain ⟨ψ,fr1',cs1',w1,g1,g2,g3,g4,g5,g6⟩ := oper_sound hc ha hf hcs hs hN hm ht base
            cases g3 with
            | cons hf1 ht1 =>
              rename_i c' l'
              obtain ⟨χ,v',w2,k1,k2,k3,k4,k5⟩ := hC _ _ _ _ _ h ψ w1 fr1' g2 g4 (hN.up g5.size) c' (l' ++ base)
              exact ⟨χ,c'.finish v',l',w2,Phi.le_trans g1 k1,(hf1.mono k1).finish k2,ht1.mono k1,k3,g5.trans k4,g6.trans k5⟩
          · cases h
        · cases h
      · cases h
    · cases h
  · exact oper_sound hc (aoper_plain ho hw h) hf hcs hs hN hm ht
theorem listed_add {listed : Array Bool} {i : Nat} (hi : i < listed.size) : (fun j => (listed.setIfInBounds i true).getD j false) = with1 (fun j => listed.getD j false) i := by
  funext j
  unfold with1
  by_cases h : j = i
  · subst h; simp [hi]
  · simp [Array.getElem?_setIfInBounds_ne (Ne.symm h),h]
theorem count_add {listed : Array Bool} {i fuel : Nat} (hi : i < listed.size) (h0 : listed.getD i false = false) (h : listed.toList.count false ≤ fuel + 1) : (listed.setIfInBounds i true).toList.count false ≤ fuel := by
  have hv : listed.toList[i]'(by simpa using hi) = false := by simpa [hi] using h0
  rw [Array.toList_setIfInBounds,List.count_set (by simpa using hi),hv]
  have e1 : (if ((false : Bool) == false) = true then 1 else 0) = 1 := rfl
  have e2 : (if ((true : Bool) == false) = true then 1 else 0) = 0 := rfl
  rw [e1,e2]
  omega
def Kp.le (N N' : Kp) : Prop := (∀ k,N.blk k → N'.blk k) ∧ ∀ b,N.nm b → N'.nm b
theorem Kept.weaken {N N' : Kp} (h : N.le N') {w w' : World} (k : Kept N' w w') : Kept N w w' := ⟨k.os,k.tape,k.output,k.size,fun i hi => k.block i (h.1 i hi)⟩
theorem Sim.weaken {N N' : Kp} (h : N.le N') {φ : Phi} {A : AHeap} {w : World} (hs : Sim N' φ A w) : Sim N φ A w :=
  ⟨hs.fresh,fun b x e hx he => ⟨fun hk => (hs.base b x e hx he).1 (h.1 _ hk),(hs.base b x e hx he).2⟩,hs.alive,hs.inj,fun b hb => hs.res b (h.2 b hb)⟩
theorem KOK.weaken {N N' : Kp} (h : N.le N') {w : World} (k : KOK N' w) : KOK N w := fun i hi => k i (h.1 i hi)
theorem Goes.into {N N' : Kp} (hle : N.le N') {φ : Phi} {w : World} {fr' : Frame} {cs' : List Frame} {s s2 : St} (h : Goes P N' φ w fr' cs' s)
    (k : ∀ (ψ : Phi) (fr1' : Frame) (cs1' : List Frame) (w1 : World),φ.le ψ → FrR ψ s.1 fr1' → CL ψ s.2.1 cs1' → Sim N' ψ s.2.2 w1 → Kept N' w w1 → Goes P N ψ w1 fr1' cs1' s2) : Goes P N φ w fr' cs' s2 := by
  intro base
  obtain ⟨ψ,fr1',cs1',w1,h1,h2,h3,h4,h5,h6⟩ := h base
  obtain ⟨χ,fr2',cs2',w2,k1,k2,k3,k4,k5,k6⟩ := k ψ fr1' cs1' w1 h1 h2 h3 h4 h5 base
  exact ⟨χ,fr2',cs2',w2,Phi.le_trans h1 k1,k2,k3,k4,(Kept.weaken hle h5).trans k5,h6.trans k6⟩
def EarlyAt (φ : Phi) (w : World) (n b : Nat) (ob : FO) : Prop := ∃ e : Ent,φ n = some e ∧ e.blk = b ∧ e.grown = ob.k.gr ∧ e.esz = ob.k.esz ∧ b < w.heap.size ∧ zCH φ e w (.cells ⟨ob.c⟩ ob.t)
theorem Sim.placed {N N' : Kp} {φ : Phi} {A A1 : AHeap} {w : World} {n b : Nat} {ob : FO} {v : Value} (hs : Sim N' φ A w) (hle : N.le N') (hb : N'.blk b) (hnb : ¬ N.blk b) (he : EarlyAt φ w n b ob) (hp : place n ob A = some (v,A1)) : Sim N φ A1 w := by
  unfold place at hp
  split at hp
  · cases hp
    exact hs.weaken hle
  split at hp
  · rename_i hnone
    cases hp
    obtain ⟨e,h1,h2,h3,h4,h5,h6⟩ := he
    have hn : n < A.next := hs.fresh _ _ h1
    have old : ∀ b' x,look (zDU n ⟨.cells ⟨ob.c⟩ ob.t,ob.k.gr,ob.k.esz⟩ A.objs) b' = some x → (b' = n ∧ x = ⟨.cells ⟨ob.c⟩ ob.t,ob.k.gr,ob.k.esz⟩) ∨ (b' ≠ n ∧ look A.objs b' = some x) := fun b' x hx => by
      rw [zCN] at hx
      cases hk : Nat.beq n b' with
      | true => rw [hk] at hx; cases hx; exact .inl ⟨(Nat.eq_of_beq_eq_true hk).symm,rfl⟩
      | false => rw [hk] at hx; exact .inr ⟨fun h => by subst h; simp [Nat.beq_refl] at hk,hx⟩
    refine ⟨hs.fresh,fun b' x e' hx he' => ?_,fun b' x hx => ?_,fun b1 b2 x1 x2 e1 e2 hne hx1 hx2 g1 g2 => ?_,fun b' hb' => hs.res b' (hle.2 _ hb')⟩
    · rcases old b' x hx with ⟨rfl,rfl⟩ | ⟨_,hx'⟩
      · rw [h1] at he'; cases he'; rw [h2]; exact ⟨hnb,h5⟩
      · exact ⟨fun hk => (hs.base _ _ _ hx' he').1 (hle.1 _ hk),(hs.base _ _ _ hx' he').2⟩
    · rcases old b' x hx with ⟨rfl,rfl⟩ | ⟨_,hx'⟩
      · exact ⟨e,h1,h3,h4,h6⟩
      · exact hs.alive _ _ hx'
    · rcases old b1 x1 hx1 with ⟨rfl,rfl⟩ | ⟨_,hx1'⟩ <;> rcases old b2 x2 hx2 with ⟨rfl,rfl⟩ | ⟨_,hx2'⟩
      · exact absurd rfl hne
      · rw [h1] at g1; cases g1; rw [h2]
        exact fun h => (hs.base _ _ _ hx2' g2).1 (h ▸ hb)
      · rw [h1] at g2; cases g2; rw [h2]
        exact fun h => (hs.base _ _ _ hx1' g1).1 (h ▸ hb)
      · exact hs.inj _ _ _ _ _ _ hne hx1' hx2' g1 g2
  · cases hp
theorem isFl_op {o : Oper} (h : isFl P o = true) : (∃ t,o.op = .alloc t) ∨ (∃ t x,o.op = .box t x) ∨ (∃ t l c,o.op = .makeSlice t l c) ∨ (∃ t n ps,o.op = .buildSlice t n ps) ∨ ∃ a d x,o.op = .convert a d x ∧ byteF P a d = true := by
  obtain ⟨dst,op,ty,pos,after,guard⟩ := o
  unfold isFl at h
  cases op <;> first | (cases h; done) | exact .inl ⟨_,rfl⟩ | exact .inr (.inl ⟨_,_,rfl⟩) | exact .inr (.inr (.inl ⟨_,_,_,rfl⟩)) | exact .inr (.inr (.inr (.inl ⟨_,_,_,rfl⟩))) | exact .inr (.inr (.inr (.inr ⟨_,_,_,rfl,h⟩)))
theorem isFl_eff {o : Oper} (h : isFl P o = true) : zBD P Q o = true := by
  obtain ⟨t,h⟩ | ⟨t,x,h⟩ | ⟨t,x,y,h⟩ | ⟨t,x,y,h⟩ | ⟨a,d,x,h,hb⟩ := isFl_op h <;> simp [zBD,h]
  exact .inl hb
theorem fobj_congr {ρ ρ' : Operand → Value} (o : Oper) (h : ∀ x ∈ o.op.operands,ρ x = ρ' x) : fobj P ρ o = fobj P ρ' o := by
  unfold fobj
  split
  · rfl
  · rename_i t x hop
    rw [h x (by rw [hop]; simp [Op.operands])]
  · rename_i t l c hop
    rw [h l (by rw [hop]; simp [Op.operands]),h c (by rw [hop]; simp [Op.operands])]
  · rename_i t n ps hop
    split
    · rename_i pl k z e _ _ _
      rw [fillR_congr (ρ' := ρ') fun p hp => h p.2 (by rw [hop]; simp [Op.operands]; exact ⟨p.1,by simpa using hp⟩)]
    · rfl
  · rename_i a d x hop
    rw [h x (by rw [hop]; simp [Op.operands])]
  · rfl
theorem sof_zero {t e : TypeId} {n : Nat} {pl : Nat → Option (Nat × Nat)} {k : Nat} {z : List Value} (hb : sof P t n = .mk pl k z) (he : elemT P t = some e) :
    ∃ i,P.underlying t = some (.slice e) ∧ P.info? e = some i ∧ n * i.size ≤ 16777216 ∧ pl = (fun k => some (k * i.size,i.size)) ∧ k = z.length ∧ (∀ φ,LR φ z z) ∧
      ((n * i.size = 0 ∧ z = []) ∨ (n * i.size ≠ 0 ∧ ∃ zv : Value,(∀ w,(Go.zeroValue e).run P w = .ok zv w) ∧ z = ((Array.range (n * i.size)).map (zv.cells[· % zv.cells.size]!)).toList)) := by
  unfold elemT at he
  split at he
  · rename_i e' hu
    cases he
    unfold sof at hb
    rw [hu] at hb
    simp only at hb
    split at hb
    · rename_i i zv hi hz
      obtain ⟨z1,z2⟩ := zeroOf_run hz
      split at hb
      · rename_i hle
        have hle := ble_iff.1 hle
        split at hb
        · rename_i h0
          have h0 := bq.1 h0
          cases hb
          exact ⟨i,hu,hi,hle,rfl,rfl,fun φ => .nil,.inl ⟨h0,rfl⟩⟩
        · rename_i h0
          have h0 := bqf.1 h0
          cases hb
          refine ⟨i,hu,hi,hle,rfl,lenR_eq _,fun φ => ?_,.inr ⟨h0,zv,z1,rfl⟩⟩
          · refine LR.of_get rfl fun j v hj => ⟨v,hj,?_⟩
            have hm := List.mem_of_getElem? hj
            simp only [Array.mem_toList_iff,Array.mem_map,Array.mem_range] at hm
            obtain ⟨x,hx,rfl⟩ := hm
            have := (z2 φ).cells
            by_cases hlt : x % zv.cells.size < zv.cells.size
            · have h1 := this.2 (x % zv.cells.size) hlt hlt
              simpa [hlt] using h1
            · have : zv.cells[x % zv.cells.size]! = default := by simp [Nat.not_lt.1 hlt]
              rw [this]
              exact closed1_V φ rfl
      · cases hb
    · cases hb
  · cases he
theorem fobj_run0 {φ : Phi} {ρ ρ' : Operand → Value} {o : Oper} {ob : FO} (hg : (∃ t,o.op = .alloc t) ∨ (∃ t x,o.op = .box t x) ∨ (∃ t l c,o.op = .makeSlice t l c) ∨ ∃ t n ps,o.op = .buildSlice t n ps) (h : fobj P ρ o = some ob) (hr : OpR φ ρ ρ') (w : World) :
    ob.k.gr = false ∧ ob.k.esz = 0 ∧ ∃ c' : List Value,LR φ ob.c c' ∧ (execOp ρ' o).run P w = .ok (.value (ob.k.val w.heap.size)) { w with heap := w.heap.push (.cells ⟨c'⟩ ob.t) } := by
  obtain ⟨t,hop⟩ | ⟨t,x,hop⟩ | ⟨t,l,c,hop⟩ | ⟨t,n,ps,hop⟩ := hg
  · unfold fobj at h
    rw [hop] at h
    simp only at h
    split at h
    · rename_i z hz
      cases h
      obtain ⟨z1,z2⟩ := zeroOf_run hz
      refine ⟨rfl,rfl,z.cells.toList,(z2 φ).cells.list,?_⟩
      unfold execOp
      rw [hop]
      simp [Instr.alloc,z1,newVar,newRow,newObj]
      rfl
    · cases h
  · unfold fobj at h
    rw [hop] at h
    simp only at h
    split at h
    · rename_i hx
      cases h
      refine ⟨rfl,rfl,(ρ' x).cells.toList,(hr x hx).cells.list,?_⟩
      unfold execOp
      rw [hop]
      simp [Instr.box,newVar,newRow,newObj]
      rfl
    · cases h
  · unfold fobj at h
    rw [hop] at h
    simp only at h
    split at h <;> try (cases h; done)
    rename_i e hl hc he
    split at h <;> try (cases h; done)
    rename_i ln cn hln hcn
    split at h <;> try (cases h; done)
    rename_i z hle hz
    cases h
    have hle := ble_iff.1 hle
    have num : ∀ x k,zAC x = true → xnum (ρ x) = some k → ∃ q,ρ' x = .int q (Int.ofNat k) := by
      intro x k hx hk
      have hv := hr x hx
      unfold xnum at hk
      split at hk
      · rename_i q j hj
        split at hk
        · cases hk
          rw [hj] at hv
          cases hv' : ρ' x <;> rw [hv'] at hv <;> cases hv
          exact ⟨q,rfl⟩
        · cases hk
      · cases hk
    obtain ⟨q1,h1⟩ := num l ln hl hln
    obtain ⟨q2,h2⟩ := num c cn hc hcn
    unfold zof at hz
    split at hz <;> try (cases hz; done)
    rename_i pl k z' i hs hi
    split at hz <;> try (cases hz; done)
    rename_i hc1 hc2
    cases hz
    have hc1 := ble_iff.1 hc1
    have hc2 := ble_iff.1 hc2
    obtain ⟨i',hu,hi',hsz,_,_,hzr,hrun⟩ := sof_zero hs he
    rw [he] at hi
    simp only [Option.bind_some] at hi
    rw [hi'] at hi
    cases hi
    refine ⟨rfl,rfl,z,hzr φ,?_⟩
    unfold execOp
    rw [hop]
    have w1 : IntKind.i64.wrap (ln : Int) = ln := IntWalk.i64_in _ (by omega)
    have w2 : IntKind.i64.wrap (cn : Int) = cn := IntWalk.i64_in _ (by omega)
    have hmul : ((i.bytes : Int) * (cn : Int)) = ((i.bytes * cn : Nat) : Int) := by simp
    have hbig : ¬ ((((cn : Int) < 0 ∨ 281474976710656 < (i.bytes : Int) * (cn : Int)) ∨ (ln : Int) < 0) ∨ cn < ln) := by
      rw [hmul]
      omega
    have hti : ∀ w,(Go.typeInfo e).run P w = .ok i w := fun w => by simp [Go.typeInfo,hi']
    have hso : ∀ w,(Go.sizeOf e).run P w = .ok i.size w := fun w => by simp [Go.sizeOf,Go.typeInfo,hi']
    rcases hrun with ⟨h0,rfl⟩ | ⟨h0,zv,hzv,rfl⟩
    · simp [Instr.makeSlice,h1,h2,run_underlying hu,Go.asInt,Go.asIntOf,hti,hso,w1,w2,h0,newRow,newObj,FK.val]
      rw [if_neg hbig,show ∀ (f : Nat → Value),Array.map f (Array.range 0) = ⟨[]⟩ from fun f => Array.ext' (by simp)]
      rfl
    · simp [Instr.makeSlice,h1,h2,run_underlying hu,Go.asInt,Go.asIntOf,hti,hso,w1,w2,h0,hzv,newRow,newObj,FK.val]
      rw [if_neg hbig,show (Array.map (fun x => zv.cells[x % zv.cells.size]!) (Array.range (cn * i.size))) = ⟨List.map (fun x => zv.cells[x % zv.cells.size]!) (List.range (cn * i.size))⟩ from Array.ext' (by simp)]
      rfl
  · unfold fobj at h
    rw [hop] at h
    simp only at h
    split at h <;> try (cases h; done)
    rename_i pl k z e hs he hall
    split at h <;> try (cases h; done)
    rename_i r hf
    cases h
    obtain ⟨i,hu,hi,hsz,rfl,rfl,hzr,hrun⟩ := sof_zero hs he
    obtain ⟨r',hf',hrr⟩ := fillR_rel (ρ' := ρ') (fun p hp => hr p.2 (by rw [List.all_eq_true] at hall; exact hall p hp)) (hzr φ) rfl hf
    refine ⟨rfl,rfl,r',hrr,?_⟩
    have hfill := fillR_ok rfl hf'
    unfold execOp
    rw [hop]
    have hso : ∀ w,(Go.sizeOf e).run P w = .ok i.size w := fun w => by simp [Go.sizeOf,Go.typeInfo,hi]
    have h24 : ¬ n * i.size > 2 ^ 24 := by omega
    have hmp := map_parts ρ' ps
    rcases hrun with ⟨h0,rfl⟩ | ⟨h0,zv,hzv,rfl⟩
    · have hfill' : Instr.fill (fun k => some (k * i.size,i.size)) #[] (List.map (fun x => (x.fst,ρ' x.snd)) ps.toList) = some ⟨r'⟩ := hfill
      have h00 : Array.range 0 = #[] := rfl
      simp [Instr.buildSlice,run_underlying hu,hso,h0,newRow,newObj,FK.val,h00,hfill']
      rfl
    · simp [Instr.buildSlice,run_underlying hu,hso,h24,h0,hzv,newRow,newObj,FK.val,hfill]
      rfl
theorem FK.rel {φ : Phi} {n : Nat} {e : Ent} (h : φ n = some e) (h0 : e.off = 0) (hg : e.grown = false) (k : FK) (hk : k.gr = false) : V φ (k.val n) (k.val e.blk) := by
  cases k with
  | ptr =>
    have := V.ptr (o := 0) h
    rw [h0] at this
    exact this
  | sl l c =>
    have := V.slice (o := 0) (n := l) (c := c) (c' := c) h (by unfold CapR; rw [if_neg (by simp [hg])])
    rw [h0] at this
    exact this
  | bs n => cases hk
  | no => exact V.undef φ
theorem fobj_plain {φ : Phi} {ρ ρ' : Operand → Value} {o : Oper} {ob : FO} (hp : (∃ t,o.op = .alloc t) ∨ (∃ t x,o.op = .box t x) ∨ (∃ t l c,o.op = .makeSlice t l c) ∨ ∃ t n ps,o.op = .buildSlice t n ps) (h : fobj P ρ o = some ob) (hr : OpR φ ρ ρ') (w : World) :
    ∃ (v' : Value) (O : Go.Obj) (x : Nat) (w1 : World),(execOp ρ' o).run P w = .ok (.value v') w1 ∧ w1.heap = w.heap.push O ∧ w1.os = w.os ∧ w1.tape = w.tape ∧ w1.output = w.output ∧
      (∀ (ψ : Phi) (n : Nat),ψ n = some ⟨w.heap.size,0,x,ob.k.gr,ob.k.esz⟩ → V ψ (ob.k.val n) v') ∧
      ∀ (ψ : Phi) (w2 : World),φ.le ψ → w2.heap[w.heap.size]? = some O → zCH ψ ⟨w.heap.size,0,x,ob.k.gr,ob.k.esz⟩ w2 (.cells ⟨ob.c⟩ ob.t) := by
  obtain ⟨k1,k2,c',hcc,hrun⟩ := fobj_run0 hp h hr w
  have hcc := hcc.array
  rw [k1,k2]
  refine ⟨_,_,c'.length,_,hrun,rfl,rfl,rfl,rfl,fun ψ n hn => FK.rel (e := ⟨w.heap.size,0,c'.length,false,0⟩) hn rfl rfl _ k1,fun ψ w2 hle h2 => ?_⟩
  refine ⟨rfl,⟨c'⟩,ob.t,(0,0),h2,by show 0 + c'.length ≤ c'.length; omega,by have := hcc.1; simpa using Nat.le_of_eq this,fun j u hu => ?_,fun j _ h => absurd h.2 (Nat.not_lt_zero _),fun _ => ⟨rfl,rfl,by have := hcc.1; simpa using this.symm⟩⟩
  obtain ⟨u',h1,h2⟩ := (hcc.mono hle).get hu
  exact ⟨u',by show (⟨c'⟩ : Array Value)[0 + j]? = _; rw [Nat.zero_add]; exact h1,h2⟩
theorem fobj_run {φ : Phi} {ρ ρ' : Operand → Value} {o : Oper} {ob : FO} (hg : isFl P o = true) (h : fobj P ρ o = some ob) (hr : OpR φ ρ ρ') (w : World) :
    ∃ (v' : Value) (O : Go.Obj) (x : Nat) (w1 : World),(execOp ρ' o).run P w = .ok (.value v') w1 ∧ w1.heap = w.heap.push O ∧ w1.os = w.os ∧ w1.tape = w.tape ∧ w1.output = w.output ∧
      (∀ (ψ : Phi) (n : Nat),ψ n = some ⟨w.heap.size,0,x,ob.k.gr,ob.k.esz⟩ → V ψ (ob.k.val n) v') ∧
      ∀ (ψ : Phi) (w2 : World),φ.le ψ → w2.heap[w.heap.size]? = some O → zCH ψ ⟨w.heap.size,0,x,ob.k.gr,ob.k.esz⟩ w2 (.cells ⟨ob.c⟩ ob.t) := by
  obtain hop | hop | hop | hop | ⟨src,dst,x,hop,hb⟩ := isFl_op hg
  · exact fobj_plain (.inl hop) h hr w
  · exact fobj_plain (.inr (.inl hop)) h hr w
  · exact fobj_plain (.inr (.inr (.inl hop))) h hr w
  · exact fobj_plain (.inr (.inr (.inr hop))) h hr w
  · unfold fobj at h
    rw [hop] at h
    simp only [hb] at h
    split at h <;> try (cases h; done)
    rename_i hx
    split at h <;> try (cases h; done)
    rename_i e s hd hv
    split at h <;> try (cases h; done)
    rename_i hz
    cases h
    have h0 : s.size ≠ 0 := fun h0 => by rw [h0] at hz; cases hz
    obtain ⟨hs,he⟩ : P.underlying src = some .string ∧ P.underlying e = some (.int .u8) := by
      unfold byteF at hb
      split at hb
      · rename_i hs
        rw [hd] at hb
        simp only at hb
        split at hb
        · rename_i he; exact ⟨hs,he⟩
        · cases hb
      · cases hb
    have hρ : ρ' x = .string s := by
      have := hr x hx
      rw [hv] at this
      generalize ρ' x = y at this
      cases this
      rfl
    have hcap := grownCap_ge w s.size 0 e
    generalize hc : grownCap w s.size 0 e = cap at hcap
    have hrun := run_bytes_of_string w src dst e s hs hd he
    rw [hc] at hrun
    have hds : s.data.size = s.size := rfl
    have hsz : (bytesRow s cap).size = cap := by simp [bytesRow,hds]; omega
    have hbl : (byteCells s).length = s.size := by simp [byteCells]
    have hrun' : (execOp ρ' o).run P w = .ok (.value (.slice (some ⟨w.heap.size,0,none⟩) s.size cap)) (w.drew.alloc (.cells (bytesRow s cap) e ((bytesRow s cap).size,(bytesRow s cap).size + 1))) := by
      unfold execOp
      rw [hop]
      simp [hρ,hrun]
    refine ⟨_,_,cap,_,hrun',rfl,rfl,rfl,rfl,fun ψ n hn => ?_,fun ψ w2 hle h2 => ?_⟩
    · have := V.slice (φ := ψ) (o := 0) (n := s.size) (c := s.size) (c' := cap) hn (by
        unfold CapR
        rw [if_pos ⟨rfl,h0⟩]
        exact ⟨hcap,by simp [FK.esz]⟩)
      exact this
    · refine ⟨rfl,_,_,_,h2,by simp [hsz],by simpa [hbl] using hcap,fun i v hv => ?_,fun i hi hz => ?_,fun h => by cases h⟩
      · have hv : (byteCells s)[i]? = some v := by simpa using hv
        obtain ⟨hi,rfl⟩ := List.getElem?_eq_some_iff.1 hv
        have hi' : i < s.data.size := by rw [hds]; omega
        refine ⟨.int .u8 (s.data[i]).toNat,?_,?_⟩
        · simp only [bytesRow,Nat.zero_add]
          rw [Array.getElem?_append_left (by simpa using hi')]
          rw [Array.getElem?_map,Array.getElem?_eq_getElem hi']
          rfl
        · have : (byteCells s)[i] = .int .u8 (s.data[i]).toNat := by simp [byteCells]
          rw [this]
          exact .int _ _
      · have := hz.1
        rw [hsz] at this
        have hi : i < cap := hi
        have h2 : cap ≤ 0 + i := this
        omega
def lvAt (ops : Array Oper) (vs : List Value) (T0 : Array Value) (i : Nat) : Bool := match ops.toList[i]? with
  | some o => Region.wanted o (yielded ops (at0 0 i ops.toList vs T0))
  | none => false
set_option maxHeartbeats 2000000 in
theorem order_sound {Rd : Rds} (hRd : RdOK P Rd) (hc : zAJ P) {N : Kp} {C : Runs} (hC : ∀ N,RunsOK P N C) {ops : Array Oper} {T0 T1 : Array Value} {nb : Nat} {A0 Aend : AHeap} {vs : List Value} {ms : List AHeap} (hran : Ran P Q C ops nb T0 A0 vs ms T1) (hst : statOK P Q ops = true)
    (hck : check2 P Q Rd ops (zCR ops.toList) (zBL P Q ops) ms ops.toList vs 0 T0 = true) (hend : ms[(zBL P Q ops).length]? = some Aend) (hnbN : ∀ b,N.nm b → b < nb) (k : List Item) :
    ∀ (fuel t : Nat) (listed : Array Bool) (K : Nat) (A : AHeap) (B : Nat → Nat) (N' : Kp) (φ : Phi) (w : World) (fr fr' : Frame) (cs cs' : List Frame),
      listed.size = ops.size → listed.toList.count false ≤ fuel →
      (∀ j l,listed.getD j false = true → bit (zCR ops.toList) j l = true → listed.getD l false = true) →
      K ≤ (zBL P Q ops).length → (∀ l e,(zBL P Q ops)[l]? = some e → (flAt P ops.toList e = false → (listed.getD e false = true ↔ l < K)) ∧ (l < K → listed.getD e false = true)) → ms[K]? = some A →
      N.le N' → (∀ b,N'.blk b ↔ N.blk b ∨ ∃ l i,K ≤ l ∧ (zBL P Q ops)[l]? = some i ∧ listed.getD i false = true ∧ lvAt ops vs T0 i = true ∧ B i = b) →
      (∀ i,i < ops.size → flAt P ops.toList i = true → listed.getD i false = false → N'.nm (nb + i)) →
      (∀ l i,K ≤ l → (zBL P Q ops)[l]? = some i → listed.getD i false = true → lvAt ops vs T0 i = true → ¬ N.blk (B i) ∧ (∀ l' i',K ≤ l' → (zBL P Q ops)[l']? = some i' → listed.getD i' false = true → lvAt ops vs T0 i' = true → i ≠ i' → B i ≠ B i') ∧
        ∃ o ob,ops.toList[i]? = some o ∧ fobj P (feval (at0 0 i ops.toList vs T0)) o = some ob ∧ EarlyAt φ w (nb + i) (B i) ob) →
      fr.mode = .run → fr.tmps = puts (fun j => listed.getD j false) 0 ops.toList vs T0 → fr.todo = .inRegion ops (Region.linearise.go .any ops fuel t listed []) :: k →
      FrR φ fr fr' → CL φ cs cs' → Sim N' φ A w → KOK N' w →
      Goes P N φ w fr' cs' ({ fr with tmps := T1,todo := .inRegion ops [] :: k },cs,Aend) := by
  unfold statOK at hst
  rw [Bool.and_eq_true] at hst
  obtain ⟨hrows,hchain⟩ := hst
  have hrows := rowsOK_spec hrows
  simp only [Nat.zero_add] at hrows
  have hchain := fun l e h1 h2 => (chainOK_spec hchain l e h1 h2).2
  have flEff : ∀ i o,ops.toList[i]? = some o → flAt P ops.toList i = isFl P o := fun i o ho => by unfold flAt; rw [nth_eq,ho]
  have nodup : ∀ (l l' e : Nat),(zBL P Q ops)[l]? = some e → (zBL P Q ops)[l']? = some e → l = l' := fun l l' e h h' => chain_inj h h'
  have advance : ∀ (listed : Array Bool) (φ : Phi) (w : World) (B : Nat → Nat) (l1 : Nat) (d K : Nat) (A : AHeap) (N' : Kp),K + d = l1 → l1 ≤ (zBL P Q ops).length → ms[K]? = some A →
      (∀ l e,K ≤ l → l < l1 → (zBL P Q ops)[l]? = some e → flAt P ops.toList e = true ∧ listed.getD e false = true) →
      N.le N' → (∀ b,N'.blk b ↔ N.blk b ∨ ∃ l i,K ≤ l ∧ (zBL P Q ops)[l]? = some i ∧ listed.getD i false = true ∧ lvAt ops vs T0 i = true ∧ B i = b) →
      (∀ l i,K ≤ l → (zBL P Q ops)[l]? = some i → listed.getD i false = true → lvAt ops vs T0 i = true → ¬ N.blk (B i) ∧ (∀ l' i',K ≤ l' → (zBL P Q ops)[l']? = some i' → listed.getD i' false = true → lvAt ops vs T0 i' = true → i ≠ i' → B i ≠ B i') ∧
        ∃ o ob,ops.toList[i]? = some o ∧ fobj P (feval (at0 0 i ops.toList vs T0)) o = some ob ∧ EarlyAt φ w (nb + i) (B i) ob) →
      Sim N' φ A w → ∃ A',ms[l1]? = some A' ∧ ∃ N'' : Kp,N.le N'' ∧ N''.le N' ∧ (∀ b,N'.nm b → N''.nm b) ∧ (∀ b,N''.blk b ↔ N.blk b ∨ ∃ l i,l1 ≤ l ∧ (zBL P Q ops)[l]? = some i ∧ listed.getD i false = true ∧ lvAt ops vs T0 i = true ∧ B i = b) ∧ Sim N'' φ A' w := by
    intro listed φ w B l1 d
    induction d with
    | zero =>
      intro K A N' hKl hl1 hA _ hle hblk _ hs
      have : K = l1 := by omega
      subst this
      exact ⟨A,hA,N',hle,⟨fun _ h => h,fun _ h => h⟩,fun _ h => h,hblk,hs⟩
    | succ d ih =>
      intro K A N' hKl hl1 hA hfl hle hblk hearly hs
      have hK : K < (zBL P Q ops).length := by omega
      obtain ⟨i,hi⟩ : ∃ i,(zBL P Q ops)[K]? = some i := ⟨_,List.getElem?_eq_getElem hK⟩
      obtain ⟨hfi,hli⟩ := hfl K i (Nat.le_refl _) (by omega) hi
      obtain ⟨j,o',v',A',A1,e1,e2,e3,e4,e5,e6⟩ := hran.eff K i hi
      rw [Nat.zero_add] at e1
      subst e1
      rw [hA] at e4
      cases e4
      cases hlv : lvAt ops vs T0 i with
      | false =>
        have hA1 : A1 = A := by
          rcases e6 with ⟨_,h⟩ | ⟨hw,_⟩
          · exact h
          · unfold lvAt at hlv
            rw [e2] at hlv
            simp only at hlv
            rw [hlv] at hw
            cases hw
        subst hA1
        exact ih (K + 1) A1 N' (by omega) hl1 e5 (fun l e h1 h2 h3 => hfl l e (by omega) h2 h3) hle (fun b => (hblk b).trans (or_congr Iff.rfl ⟨fun ⟨l,i',p1,p2,p3,p4,p5⟩ => ⟨l,i',Nat.lt_of_le_of_ne p1 (fun h => by
            subst h
            rw [hi] at p2
            cases p2
            rw [hlv] at p4
            cases p4),p2,p3,p4,p5⟩,fun ⟨l,i',p1,p2,p3,p4,p5⟩ => ⟨l,i',by omega,p2,p3,p4,p5⟩⟩)) (fun l i' h1 h2 h3 h4 => by
          obtain ⟨q1,q2,q3⟩ := hearly l i' (by omega) h2 h3 h4
          exact ⟨q1,fun l' i'' p1 p2 p3 p4 p5 => q2 l' i'' (by omega) p2 p3 p4 p5,q3⟩) hs
      | true =>
      obtain ⟨hnb,hdis,o,ob,ho,hob,hea⟩ := hearly K i (Nat.le_refl _) hi hli hlv
      have heq : o = o' := Option.some.inj (ho.symm.trans e2)
      rw [← heq] at e2 e6
      have hfo : isFl P o = true := by rw [← flEff _ _ ho]; exact hfi
      have hpl : place (nb + i) ob A = some (v',A1) := by
        rcases e6 with ⟨hw,_⟩ | ⟨_,hr⟩
        · unfold lvAt at hlv
          rw [ho] at hlv
          simp only at hlv
          rw [hlv] at hw
          cases hw
        · unfold opRunF at hr
          rw [hfo] at hr
          simp only [floRun,hob] at hr
          exact hr
      let N'' : Kp := { blk := fun b => N.blk b ∨ ∃ l i',K + 1 ≤ l ∧ (zBL P Q ops)[l]? = some i' ∧ listed.getD i' false = true ∧ lvAt ops vs T0 i' = true ∧ B i' = b,nm := N'.nm }
      have hle1 : N.le N'' := ⟨fun b h => .inl h,hle.2⟩
      have hle2 : N''.le N' := ⟨fun b h => (hblk b).2 (h.imp id fun ⟨l,i',h1,h2⟩ => ⟨l,i',by omega,h2⟩),fun _ h => h⟩
      have hs2 : Sim N'' φ A1 w := by
        refine hs.placed hle2 ((hblk _).2 (.inr ⟨K,i,Nat.le_refl _,hi,hli,hlv,rfl⟩)) ?_ hea hpl
        rintro (h | ⟨l,i',h1,h2,h3,h5,h4⟩)
        · exact hnb h
        · refine hdis l i' (by omega) h2 h3 h5 (fun h => ?_) h4.symm
          subst h
          have := nodup _ _ _ hi h2
          omega
      obtain ⟨A2,g1,N3,g2,g3,g4,g5,g6⟩ := ih (K + 1) A1 N'' (by omega) hl1 e5 (fun l e h1 h2 h3 => hfl l e (by omega) h2 h3) hle1 (fun b => Iff.rfl) (fun l i' h1 h2 h3 h4 => by
        obtain ⟨q1,q2,q3⟩ := hearly l i' (by omega) h2 h3 h4
        exact ⟨q1,fun l' i'' p1 p2 p3 p4 p5 => q2 l' i'' (by omega) p2 p3 p4 p5,q3⟩) hs2
      exact ⟨A2,g1,N3,g2,⟨fun b h => hle2.1 b (g3.1 b h),fun b h => g3.2 b h⟩,fun b h => g4 b h,g5,g6⟩
  have done : ∀ (listed : Array Bool) (K : Nat) (A : AHeap) (B : Nat → Nat) (N' : Kp) (φ : Phi) (w : World) (fr fr' : Frame) (cs cs' : List Frame),listed.size = ops.size → (∀ j,j < ops.size → listed.getD j false = true) →
      K ≤ (zBL P Q ops).length → (∀ l e,(zBL P Q ops)[l]? = some e → (flAt P ops.toList e = false → (listed.getD e false = true ↔ l < K)) ∧ (l < K → listed.getD e false = true)) → ms[K]? = some A →
      N.le N' → (∀ b,N'.blk b ↔ N.blk b ∨ ∃ l i,K ≤ l ∧ (zBL P Q ops)[l]? = some i ∧ listed.getD i false = true ∧ lvAt ops vs T0 i = true ∧ B i = b) →
      (∀ l i,K ≤ l → (zBL P Q ops)[l]? = some i → listed.getD i false = true → lvAt ops vs T0 i = true → ¬ N.blk (B i) ∧ (∀ l' i',K ≤ l' → (zBL P Q ops)[l']? = some i' → listed.getD i' false = true → lvAt ops vs T0 i' = true → i ≠ i' → B i ≠ B i') ∧
        ∃ o ob,ops.toList[i]? = some o ∧ fobj P (feval (at0 0 i ops.toList vs T0)) o = some ob ∧ EarlyAt φ w (nb + i) (B i) ob) →
      fr.tmps = puts (fun j => listed.getD j false) 0 ops.toList vs T0 → fr.todo = .inRegion ops [] :: k → FrR φ fr fr' → CL φ cs cs' → Sim N' φ A w →
      Goes P N φ w fr' cs' ({ fr with tmps := T1,todo := .inRegion ops [] :: k },cs,Aend) := by
    intro listed K A B N' φ w fr fr' cs cs' hsz hall hK hE hA hle hblk hearly htm htd hf hcs hs
    obtain ⟨A',g1,N'',g2,_,_,_,g6⟩ := advance listed φ w B (zBL P Q ops).length ((zBL P Q ops).length - K) K A N' (by omega) (Nat.le_refl _) hA (fun l e h1 h2 h3 => by
      obtain ⟨j,o,q1,q2,_⟩ := chain_mem (List.mem_of_getElem? h3)
      have hj : j < ops.size := by
        have := (List.getElem?_eq_some_iff.1 q2).1
        simpa using this
      have hl : listed.getD e false = true := hall e (by omega)
      refine ⟨?_,hl⟩
      cases hfe : flAt P ops.toList e with
      | true => rfl
      | false => exact absurd (((hE l e h3).1 hfe).1 hl) (by omega)) hle hblk hearly hs
    have hT : fr.tmps = T1 := by
      rw [htm,hran.fin]
      exact puts_same _ _ _ _ fun j hj => by simpa using hall j (by simpa using hj)
    have hAe : A' = Aend := by
      rw [hend] at g1
      exact (Option.some.inj g1).symm
    subst hAe
    rw [← hT,← htd]
    exact fun base => ⟨φ,fr',cs',w,Phi.le_refl _,hf,hcs,g6.weaken g2,Kept.refl _ _,⟨0,rfl⟩⟩
  intro fuel
  induction fuel with
  | zero =>
    intro t listed K A B N' φ w fr fr' cs cs' hsz hcnt hcl hK hE hA hle hblk hnm hearly hmode htm htd hf hcs hs hN
    refine done listed K A B N' φ w fr fr' cs cs' hsz (fun j hj => ?_) hK hE hA hle hblk hearly htm (by rw [htd]; simp [Region.linearise.go]) hf hcs hs
    have h0 : false ∉ listed.toList := by
      rw [← List.count_eq_zero]
      omega
    have hj' : j < listed.size := by omega
    simp only [Array.getD_eq_getD_getElem?,Array.getElem?_eq_getElem hj',Option.getD_some]
    cases hv : listed[j] with
    | true => rfl
    | false => exact absurd (by rw [← hv]; simp) h0
  | succ fuel ih =>
    intro t listed K A B N' φ w fr fr' cs cs' hsz hcnt hcl hK hE hA hle hblk hnm hearly hmode htm htd hf hcs hs hN
    simp only [Region.linearise.go] at htd
    change fr.todo = .inRegion ops (match (Region.ready .any ops listed)[t % (Region.ready .any ops listed).length]? with
      | some i => Region.linearise.go .any ops fuel (t / (Region.ready .any ops listed).length) (listed.setIfInBounds i true) [i]
      | none => [].reverse) :: k at htd
    cases hi : (Region.ready .any ops listed)[t % (Region.ready .any ops listed).length]? with
    | none =>
      rw [hi] at htd
      have hnil : Region.ready .any ops listed = [] := by
        cases hr : Region.ready .any ops listed with
        | nil => rfl
        | cons x xs =>
          rw [hr] at hi
          have hlt : t % (x :: xs).length < (x :: xs).length := Nat.mod_lt _ (by simp)
          simp at hi
          simp at hlt
          omega
      refine done listed K A B N' φ w fr fr' cs cs' hsz (fun j => ?_) hK hE hA hle hblk hearly htm htd hf hcs hs
      induction j using Nat.strongRecOn with
      | ind j ihj =>
        intro hj
        cases hv : listed.getD j false with
        | true => rfl
        | false =>
          have hmem : j ∈ Region.ready .any ops listed := by
            rw [mem_ready]
            refine ⟨?_,ops[j],Array.getElem?_eq_getElem hj,fun e he hb => ?_⟩
            · have hj' : j < listed.size := by omega
              simpa [hj'] using hv
            · have := (hrows j ops[j] (by simp [hj])).1 e he hb
              exact ihj e.on this (by omega)
          rw [hnil] at hmem
          cases hmem
    | some i =>
      rw [hi] at htd
      simp only at htd
      rw [linearise_go_acc,List.reverse_singleton,List.singleton_append] at htd
      obtain ⟨hi0,o,ho,hafter⟩ := mem_ready.1 (List.mem_of_getElem? hi)
      have hilt : i < ops.size := (Array.getElem?_eq_some_iff.1 ho).1
      have hil : i < listed.size := by omega
      have hDi : listed.getD i false = false := by simpa [hil] using hi0
      have hol : ops.toList[i]? = some o := by simpa using ho
      have hpre : ∀ l,bit (zCR ops.toList) i l = true → listed.getD l false = true := fun l hb => by
        obtain ⟨e,he,hbe,hel⟩ := bit_spec hol hb
        have hd := hafter e he hbe
        rcases hel with rfl | hel
        · exact hd
        · exact hcl _ _ hd hel
      have hvl : i < vs.length := by rw [hran.len]; simpa using hilt
      obtain ⟨v,hv⟩ : ∃ v,vs[i]? = some v := ⟨_,List.getElem?_eq_getElem hvl⟩
      have hput : puts (fun j => (listed.setIfInBounds i true).getD j false) 0 ops.toList vs T0 = fput fr.tmps o.dst v := by
        rw [listed_add hil,htm]
        have := puts_add (D := fun j => listed.getD j false) ops.toList vs 0 T0 i o v hol hv (by simpa using hDi) (fun l o' x hl ho' hx hd => by
          simp only [Nat.zero_add]
          rcases (hrows l o' ho').2 i o hol hl with hb | hap
          · cases hdl : listed.getD l false with
            | false => rfl
            | true => rw [hcl l i hdl hb] at hDi; cases hDi
          · exact absurd hx ((Oper.apart_spec hap).2.1 x hd))
        simpa using this
      have hagree : ∀ t ∈ o.looksAt ops,fr.tmps[t]? = (at0 0 i ops.toList vs T0)[t]? := fun t ht => by
        rw [htm]
        refine puts_agree t _ _ _ _ _ rfl rfl fun j o' ho' hd => ?_
        simp only [Nat.zero_add]
        rcases Nat.lt_trichotomy j i with hji | hji | hji
        · rw [decide_eq_true hji]
          rcases (hrows i o hol).2 j o' ho' hji with hb | hap
          · exact hpre j hb
          · exact absurd ht ((Oper.apart_spec hap).1 t hd)
        · subst hji
          rw [hDi]
          simp
        · rw [decide_eq_false (by omega)]
          rcases (hrows j o' ho').2 i o hol hji with hb | hap
          · cases hdl : listed.getD j false with
            | false => rfl
            | true => rw [hcl j i hdl hb] at hDi; cases hDi
          · exact absurd ht ((Oper.apart_spec hap).2.2 t hd)
      obtain ⟨hops,hwant⟩ := look_same hagree
      have hfv : ∀ v,fr.finish v = { fr with tmps := fput fr.tmps o.dst v,todo := .inRegion ops (Region.linearise.go .any ops fuel (t / (Region.ready .any ops listed).length) (listed.setIfInBounds i true) []) :: k } := fun v => by
        simp only [Frame.finish,htd,ho,Option.bind_some,fput_eq]
        cases o.dst <;> rfl
      have hm' : fr'.mode = .run := hf.mode.trans hmode
      obtain ⟨k',ht'⟩ : ∃ k',fr'.todo = .inRegion ops (i :: Region.linearise.go .any ops fuel (t / (Region.ready .any ops listed).length) (listed.setIfInBounds i true) []) :: k' := by
        have := hf.todo
        rw [htd] at this
        cases htl : fr'.todo with
        | nil => rw [htl] at this; cases this
        | cons a b => rw [htl] at this; cases this; exact ⟨b,rfl⟩
      have hadd := listed_add hil
      have addE : ∀ e,(listed.setIfInBounds i true).getD e false = true ↔ e = i ∨ listed.getD e false = true := fun e => by
        rw [congrFun hadd e]
        simp [with1]
      have hcl' : ∀ j l,(listed.setIfInBounds i true).getD j false = true → bit (zCR ops.toList) j l = true → (listed.setIfInBounds i true).getD l false = true := fun j l hj hb => by
        rw [addE] at hj ⊢
        rcases hj with rfl | hj
        · exact .inr (hpre l hb)
        · exact .inr (hcl j l hj hb)
      have next : ∀ (K0 : Nat) (A2 : AHeap) (N2 : Kp),K ≤ K0 → N.le N2 → N2.le N' → (∀ b,N'.nm b → N2.nm b) → (∀ b,N2.blk b ↔ N.blk b ∨ ∃ l i,K0 ≤ l ∧ (zBL P Q ops)[l]? = some i ∧ listed.getD i false = true ∧ lvAt ops vs T0 i = true ∧ B i = b) →
          flAt P ops.toList i = false → ∀ (K' : Nat) (A' : AHeap),K0 ≤ K' → (∀ l e,K0 ≤ l → l < K' → (zBL P Q ops)[l]? = some e → e = i) → (∀ l,K' ≤ l → (zBL P Q ops)[l]? ≠ some i) →
          Goes P N2 φ w fr' cs' (fr.finish v,cs,A') → K' ≤ (zBL P Q ops).length →
          (∀ l e,(zBL P Q ops)[l]? = some e → (flAt P ops.toList e = false → ((listed.setIfInBounds i true).getD e false = true ↔ l < K')) ∧ (l < K' → (listed.setIfInBounds i true).getD e false = true)) → ms[K']? = some A' →
          Goes P N φ w fr' cs' ({ fr with tmps := T1,todo := .inRegion ops [] :: k },cs,Aend) := by
        intro K0 A2 N2 hKK hle2 hle3 hnm2 hblk2 hfl K' A' hKK' hbetween hnoi hg hK' hE' hA'
        refine Goes.into hle2 hg fun ψ fr1' cs1' w1 g1 g2 g3 g4 g5 => ?_
        have hblk' : ∀ b,N2.blk b ↔ N.blk b ∨ ∃ l i',K' ≤ l ∧ (zBL P Q ops)[l]? = some i' ∧ (listed.setIfInBounds i true).getD i' false = true ∧ lvAt ops vs T0 i' = true ∧ B i' = b := fun b => by
          rw [hblk2]
          refine or_congr Iff.rfl ⟨fun ⟨l,i',p1,p2,p3,p4⟩ => ⟨l,i',?_,p2,(addE _).2 (.inr p3),p4⟩,fun ⟨l,i',p1,p2,p3,p4⟩ => ⟨l,i',by omega,p2,?_,p4⟩⟩
          · refine Nat.le_of_not_lt fun hlt => ?_
            have := hbetween l i' p1 hlt p2
            subst this
            rw [p3] at hDi; cases hDi
          · rcases (addE _).1 p3 with rfl | h
            · exact absurd p2 (hnoi l p1)
            · exact h
        have hkeep : ∀ l i',K' ≤ l → (zBL P Q ops)[l]? = some i' → listed.getD i' false = true → lvAt ops vs T0 i' = true → N2.blk (B i') := fun l i' p1 p2 p3 p4 => (hblk2 _).2 (.inr ⟨l,i',by omega,p2,p3,p4,rfl⟩)
        have := ih (t / (Region.ready .any ops listed).length) (listed.setIfInBounds i true) K' A' B N2 ψ w1 (fr.finish v) fr1' cs cs1' (by simpa using hsz) (count_add hil hDi hcnt) hcl' hK' hE' hA' hle2 hblk'
          (fun i' p1 p2 p3 => hnm2 _ (hnm i' p1 p2 (by
            cases hd : listed.getD i' false with
            | false => rfl
            | true => rw [(addE i').2 (.inr hd)] at p3; cases p3)))
          (fun l i' p1 p2 p3 p4 => by
            have p3' : listed.getD i' false = true := by
              rcases (addE _).1 p3 with rfl | h
              · exact absurd p2 (hnoi l p1)
              · exact h
            obtain ⟨q1,q2,o',ob,q3,q4,e,r1,r2,r3,r4,r5,r6⟩ := hearly l i' (by omega) p2 p3' p4
            refine ⟨q1,fun l' i'' s1 s2 s3 s5 s4 => ?_,o',ob,q3,q4,e,g1 _ _ r1,r2,r3,r4,Nat.lt_of_lt_of_le r5 g5.size,r6.mono g1 (g5.block _ (by rw [r2]; exact hkeep l i' p1 p2 p3' p4))⟩
            refine q2 l' i'' (by omega) s2 ?_ s5 s4
            rcases (addE _).1 s3 with rfl | h
            · exact absurd s2 (hnoi l' s1)
            · exact h)
          (by rw [hfv]; exact hmode) (by rw [hfv,hput]) (by rw [hfv]) g2 g3 g4 ((hN.weaken hle3).up g5.size)
        rw [hfv] at this
        exact this
      cases he : zBD P Q o with
      | false =>
        have hfl : flAt P ops.toList i = false := by
          rw [flEff i o hol]
          cases hf : isFl P o with
          | false => rfl
          | true => rw [isFl_eff hf] at he; cases he
        have hni : ∀ l,(zBL P Q ops)[l]? ≠ some i := fun l hl => by
          obtain ⟨j,o',h1,h2,h3⟩ := chain_mem (List.mem_of_getElem? hl)
          rw [Nat.zero_add] at h1
          subst h1
          rw [hol] at h2
          cases h2
          rw [he] at h3
          cases h3
        have hE' : ∀ l e,(zBL P Q ops)[l]? = some e → (flAt P ops.toList e = false → ((listed.setIfInBounds i true).getD e false = true ↔ l < K)) ∧ (l < K → (listed.setIfInBounds i true).getD e false = true) := fun l e hl => by
          have hne : e ≠ i := fun h => by subst h; exact hni l hl
          have : (listed.setIfInBounds i true).getD e false = true ↔ listed.getD e false = true := by
            rw [addE]
            exact ⟨fun h => h.resolve_left hne,.inr⟩
          rw [this]
          exact hE l e hl
        refine next K A N' (Nat.le_refl _) hle ⟨fun _ h => h,fun _ h => h⟩ (fun _ h => h) hblk hfl K A (Nat.le_refl _) (fun l e h1 h2 => by omega) (fun l _ => hni l) ?_ hK hE' hA
        cases hw : Region.wanted o (yielded ops fr.tmps) with
        | false =>
          have hu := hran.skip i o hol (hwant ▸ hw)
          rw [hv] at hu
          cases hu
          exact oper_sound hc (aoper_skip ho hw) hf hcs hs hN hm' ht'
        | true =>
          have hla := check2_spec hck i o v hol hv he (hwant ▸ hw)
          have hf1 := lookAll_spec hla K A hA hK (fun l e hl hle hfe => by
            cases hb : Nat.testBit ((nth (zCR ops.toList) (0 + i)).getD 0) e with
            | false => rfl
            | true =>
              have := ((hE l e hle).1 hfe).1 (hpre e (by simpa [bit] using hb))
              omega) (fun l e hl hle => by
            rw [Nat.zero_add]
            cases hb : bit (zCR ops.toList) e i with
            | false => rfl
            | true => rw [hcl e i ((hE l e hle).2 hl) hb] at hDi; cases hDi)
          split at hf1
          · rename_i u hu
            have := veq_eq _ _ _ hf1
            subst this
            have hx := hRd _ _ _ _ hu
            rw [← aexec_congr o hops,feval_eq] at hx
            exact oper_sound hc (aoper_plain ho hw hx) hf hcs hs hN hm' ht'
          · cases hf1
      | true =>
        have hmem : i ∈ zBL P Q ops := mem_chain hol he
        obtain ⟨l0,hl0⟩ := List.mem_iff_getElem?.1 hmem
        have hKl0 : K ≤ l0 := Nat.le_of_not_lt fun h => by rw [(hE l0 i hl0).2 h] at hDi; cases hDi
        have hlt := (List.getElem?_eq_some_iff.1 hl0).1
        obtain ⟨j,o',v',A',A1,e1,e2,e3,e4,e5,e6⟩ := hran.eff l0 i hl0
        rw [Nat.zero_add] at e1
        subst e1
        rw [hol] at e2
        cases e2
        rw [hv] at e3
        cases e3
        cases hfl : flAt P ops.toList i with
        | false =>
          obtain ⟨A2,a1,N2,a2,a3,a4,a5,a6⟩ := advance listed φ w B l0 (l0 - K) K A N' (by omega) (by omega) hA (fun l e h1 h2 h3 => by
            have hl : listed.getD e false = true := hpre e (hchain l0 i hl0 hfl l e h2 h3)
            refine ⟨?_,hl⟩
            cases hfe : flAt P ops.toList e with
            | true => rfl
            | false => exact absurd (((hE l e h3).1 hfe).1 hl) (by omega)) hle hblk hearly hs
          rw [a1] at e4
          cases e4
          have hE' : ∀ l e,(zBL P Q ops)[l]? = some e → (flAt P ops.toList e = false → ((listed.setIfInBounds i true).getD e false = true ↔ l < l0 + 1)) ∧ (l < l0 + 1 → (listed.setIfInBounds i true).getD e false = true) := fun l e hl => by
            have up : l < l0 + 1 → (listed.setIfInBounds i true).getD e false = true := fun h => by
              rw [addE]
              rcases Nat.lt_or_ge l l0 with h' | h'
              · exact .inr (hpre e (hchain l0 i hl0 hfl l e h' hl))
              · have : l = l0 := by omega
                subst this
                rw [hl0] at hl
                exact .inl (Option.some.inj hl).symm
            refine ⟨fun hfe => ⟨fun h => ?_,up⟩,up⟩
            rcases (addE e).1 h with rfl | h
            · have := nodup _ _ _ hl hl0
              omega
            · have := ((hE l e hl).1 hfe).1 h
              omega
          refine next l0 A' N2 hKl0 a2 a3 a4 a5 hfl (l0 + 1) A1 (by omega) (fun l e h1 h2 h3 => ?_) (fun l h1 h2 => ?_) ?_ hlt hE' e5
          · have : l = l0 := by omega
            subst this
            rw [hl0] at h3
            exact (Option.some.inj h3).symm
          · have := nodup _ _ _ h2 hl0
            omega
          · have hN2 := hN.weaken a3
            rcases e6 with ⟨hw,rfl⟩ | ⟨hw,hr⟩
            · have hu := hran.skip i o hol hw
              rw [hv] at hu
              cases hu
              exact oper_sound hc (aoper_skip ho (hwant ▸ hw)) hf hcs a6 hN2 hm' ht'
            · unfold opRunF at hr
              rw [← flEff i o hol,hfl] at hr
              simp only at hr
              rw [← opRun_congr o hops] at hr
              exact opRun_sound hc (hC N2) ho (hwant.trans hw) hr hf hcs a6 hN2 hm' ht'
        | true =>
          have hfo : isFl P o = true := by rw [← flEff i o hol]; exact hfl
          have hE' : ∀ l e,(zBL P Q ops)[l]? = some e → (flAt P ops.toList e = false → ((listed.setIfInBounds i true).getD e false = true ↔ l < K)) ∧ (l < K → (listed.setIfInBounds i true).getD e false = true) := fun l e hl => by
            refine ⟨fun hfe => ?_,fun h => (addE e).2 (.inr ((hE l e hl).2 h))⟩
            have hne : e ≠ i := fun h => by subst h; rw [hfl] at hfe; cases hfe
            rw [addE]
            exact ⟨fun h => ((hE l e hl).1 hfe).1 (h.resolve_left hne),fun h => .inr (((hE l e hl).1 hfe).2 h)⟩
          have hlvi : lvAt ops vs T0 i = Region.wanted o (yielded ops (at0 0 i ops.toList vs T0)) := by
            unfold lvAt
            rw [hol]
          cases hwn : Region.wanted o (yielded ops fr.tmps) with
          | false =>
            have hw0 := hwant ▸ hwn
            have hu := hran.skip i o hol hw0
            rw [hv] at hu
            cases hu
            have hlv0 : lvAt ops vs T0 i = false := hlvi.trans hw0
            have hne : ∀ i',lvAt ops vs T0 i' = true → (listed.setIfInBounds i true).getD i' false = true → listed.getD i' false = true := fun i' h1 h2 => by
              rcases (addE i').1 h2 with rfl | h
              · rw [hlv0] at h1; cases h1
              · exact h
            have hg := oper_sound hc (aoper_skip ho hwn) hf hcs hs hN hm' ht'
            refine Goes.into (N' := N') hle hg fun ψ fr1' cs1' w1 g1 g2 g3 g4 g5 => ?_
            have := ih (t / (Region.ready .any ops listed).length) (listed.setIfInBounds i true) K A B N' ψ w1 (fr.finish undef) fr1' cs cs1' (by simpa using hsz) (count_add hil hDi hcnt) hcl' hK hE' hA hle
              (fun b => (hblk b).trans (or_congr Iff.rfl ⟨fun ⟨l,i',p1,p2,p3,p4,p5⟩ => ⟨l,i',p1,p2,(addE _).2 (.inr p3),p4,p5⟩,fun ⟨l,i',p1,p2,p3,p4,p5⟩ => ⟨l,i',p1,p2,hne i' p4 p3,p4,p5⟩⟩))
              (fun i' p1 p2 p3 => hnm i' p1 p2 (by
                cases hd : listed.getD i' false with
                | false => rfl
                | true => rw [(addE i').2 (.inr hd)] at p3; cases p3))
              (fun l i' p1 p2 p3 p4 => by
                have p3' := hne i' p4 p3
                obtain ⟨q1,q2,o',ob,q3,q4,e,r1,r2,r3,r4,r5,r6⟩ := hearly l i' p1 p2 p3' p4
                exact ⟨q1,fun l' i'' s1 s2 s3 s5 s4 => q2 l' i'' s1 s2 (hne i'' s5 s3) s5 s4,o',ob,q3,q4,e,g1 _ _ r1,r2,r3,r4,Nat.lt_of_lt_of_le r5 g5.size,r6.mono g1 (g5.block _ (by rw [r2]; exact (hblk _).2 (.inr ⟨l,i',p1,p2,p3',p4,rfl⟩)))⟩)
              (by rw [hfv]; exact hmode) (by rw [hfv,hput]) (by rw [hfv]) g2 g3 g4 (hN.up g5.size)
            rw [hfv] at this
            exact this
          | true =>
          have hlv1 : lvAt ops vs T0 i = true := hlvi.trans (hwant ▸ hwn)
          obtain ⟨ob,hob,hpl⟩ : ∃ ob,fobj P (feval (at0 0 i ops.toList vs T0)) o = some ob ∧ place (nb + i) ob A' = some (v,A1) := by
            rcases e6 with ⟨hw,_⟩ | ⟨_,hr⟩
            · rw [← hwant,hwn] at hw; cases hw
            · unfold opRunF at hr
              rw [hfo] at hr
              simp only [floRun] at hr
              split at hr
              · rename_i ob hob; exact ⟨ob,hob,hr⟩
              · cases hr
          have hvv : v = ob.k.val (nb + i) := place_val hpl
          have hob' : fobj P fr.eval o = some ob := by rw [← feval_eq,fobj_congr o hops]; exact hob
          obtain ⟨v',O,ext,w1,hrun,hw1,ho1,ht1,hp1,hval,hobj⟩ := fobj_run hfo hob' hf.eval w
          have hres := hs.res _ (hnm i hilt hfl hDi)
          let e0 : Ent := ⟨w.heap.size,0,ext,ob.k.gr,ob.k.esz⟩
          have hle' : φ.le (zBE φ (nb + i) e0) := addPhi_le hres.1
          have hold : ∀ b,b < w.heap.size → w1.heap[b]? = w.heap[b]? := fun b hb => by
            rw [hw1,Array.getElem?_push,if_neg (by omega)]
          have hsize : w1.heap.size = w.heap.size + 1 := by rw [hw1]; simp
          let B' : Nat → Nat := fun x => if x = i then w.heap.size else B x
          let N2 : Kp := { blk := fun b => N.blk b ∨ ∃ l i',K ≤ l ∧ (zBL P Q ops)[l]? = some i' ∧ (listed.setIfInBounds i true).getD i' false = true ∧ lvAt ops vs T0 i' = true ∧ B' i' = b,nm := fun b => N'.nm b ∧ b ≠ nb + i }
          have hBne : ∀ i',listed.getD i' false = true → B' i' = B i' := fun i' h => by
            have : i' ≠ i := fun hh => by subst hh; rw [h] at hDi; cases hDi
            simp [B',this]
          have hBi : B' i = w.heap.size := by simp [B']
          have hblkN : ∀ b,N2.blk b → N'.blk b ∨ b = w.heap.size := fun b hb => by
            rcases hb with h | ⟨l,i',p1,p2,p3,p5,p4⟩
            · exact .inl (hle.1 _ h)
            · rcases (addE i').1 p3 with rfl | h
              · exact .inr (by rw [← p4,hBi])
              · refine .inl ((hblk b).2 (.inr ⟨l,i',p1,p2,h,p5,?_⟩))
                rw [← p4,hBne i' h]
          have hnmN : ∀ b,N.nm b → N2.nm b ∨ b = nb + i := fun b hb => by
            by_cases h : b = nb + i
            · exact .inr h
            · exact .inl ⟨hle.2 b hb,h⟩
          have hlook : ∀ b x e,look A.objs b = some x → zBE φ (nb + i) e0 b = some e → φ b = some e ∧ b ≠ nb + i := fun b x e hx he => by
            have hne : b ≠ nb + i := fun h => by
              subst h
              obtain ⟨e',h1,_⟩ := hs.alive _ _ hx
              rw [hres.1] at h1
              cases h1
            rw [addPhi_ne hne] at he
            exact ⟨he,hne⟩
          have hs1 : Sim N2 (zBE φ (nb + i) e0) A w1 := by
            refine ⟨fun b e he => ?_,fun b x e hx he => ?_,fun b x hx => ?_,fun b b' x x' e e' hne hx hx' h1 h2 => ?_,fun b hb => ?_⟩
            · by_cases h : b = nb + i
              · subst h; exact hres.2
              · rw [addPhi_ne h] at he; exact hs.fresh _ _ he
            · have hb := hs.base _ _ _ hx (hlook b x e hx he).1
              refine ⟨fun hk => ?_,by rw [hsize]; omega⟩
              rcases hblkN _ hk with h | h
              · exact hb.1 h
              · omega
            · obtain ⟨e,h1,h2,h3,h4⟩ := hs.alive _ _ hx
              exact ⟨e,hle' _ _ h1,h2,h3,h4.mono hle' (hold _ (hs.base _ _ _ hx h1).2)⟩
            · exact hs.inj b b' x x' e e' hne hx hx' (hlook b x e hx h1).1 (hlook b' x' e' hx' h2).1
            · have := hs.res b hb.1
              exact ⟨by rw [addPhi_ne hb.2]; exact this.1,this.2⟩
          have hN0 : KOK N w := hN.weaken hle
          have hstep : ∀ base,step P (lone fr' (cs' ++ base) w) = .next (lone (fr'.finish v') (cs' ++ base) w1) := fun base => zBH hm' (by
            rw [oper_exec ht' ho (by
              have := wanted_eq hf.tmps ops o
              rw [this]
              exact hwn) (by
              obtain ⟨t,h⟩ | ⟨t,x,h⟩ | ⟨t,x,y,h⟩ | ⟨t,x,y,h⟩ | ⟨t,x,y,h,_⟩ := isFl_op hfo <;> rw [h] <;> simp)]
            exact apply_value hrun (.inl rfl) rfl)
          have hv' : V (zBE φ (nb + i) e0) v v' := by
            rw [hvv]
            exact hval _ _ (zCP _ _ _)
          have hfr1 := (hf.mono hle').finish hv'
          have hat : ∀ b,b < w.heap.size → ∀ e (ob : Obj),e.blk = b → zCH φ e w ob → zCH (zBE φ (nb + i) e0) e w1 ob := fun b hb e ob he h => h.mono hle' (hold _ (by rw [he]; exact hb))
          have := ih (t / (Region.ready .any ops listed).length) (listed.setIfInBounds i true) K A B' N2 (zBE φ (nb + i) e0) w1 (fr.finish v) (fr'.finish v') cs cs' (by simpa using hsz) (count_add hil hDi hcnt) hcl' hK hE' hA
            ⟨fun b h => .inl h,fun b h => ⟨hle.2 b h,by have := hnbN b h; omega⟩⟩ (fun b => Iff.rfl)
            (fun i' p1 p2 p3 => by
              have hne : i' ≠ i := fun h => by rw [(addE i').2 (.inl h)] at p3; cases p3
              refine ⟨hnm i' p1 p2 ?_,by omega⟩
              cases hd : listed.getD i' false with
              | false => rfl
              | true => rw [(addE i').2 (.inr hd)] at p3; cases p3)
            (fun l i' p1 p2 p3 p4 => by
              by_cases hii : i' = i
              · subst hii
                refine ⟨by rw [hBi]; exact hN0.new,fun l' i'' s1 s2 s3 s5 s4 => ?_,o,_,hol,hob,e0,zCP _ _ _,hBi.symm,rfl,rfl,by rw [hBi,hsize]; omega,?_⟩
                · have s3' : listed.getD i'' false = true := ((addE i'').1 s3).resolve_left (fun h => s4 h.symm)
                  obtain ⟨_,_,_,_,_,_,_,_,_,_,_,r5,_⟩ := hearly l' i'' s1 s2 s3' s5
                  rw [hBi,hBne i'' s3']
                  omega
                · exact hobj _ _ hle' (by rw [hw1]; simp)
              · have p3' : listed.getD i' false = true := ((addE i').1 p3).resolve_left hii
                obtain ⟨q1,q2,o',ob',q3,q4,e,r1,r2,r3,r4,r5,r6⟩ := hearly l i' p1 p2 p3' p4
                refine ⟨by rw [hBne i' p3']; exact q1,fun l' i'' s1 s2 s3 s5 s4 => ?_,o',ob',q3,q4,e,hle' _ _ r1,by rw [hBne i' p3']; exact r2,r3,r4,by rw [hBne i' p3',hsize]; omega,hat _ r5 e _ r2 r6⟩
                rw [hBne i' p3']
                by_cases hi2 : i'' = i
                · subst hi2; rw [hBi]; omega
                · have s3' : listed.getD i'' false = true := ((addE i'').1 s3).resolve_left hi2
                  rw [hBne i'' s3']
                  exact q2 l' i'' s1 s2 s3' s5 s4)
            (by rw [hfv]; exact hmode) (by rw [hfv,hput]) (by rw [hfv]) hfr1 (hcs.mono hle') hs1 (fun b hb => by
              rw [hsize]
              rcases hblkN b hb with h | h
              · have := hN b h; omega
              · omega)
          rw [hfv] at this
          intro base
          obtain ⟨χ,fr2',cs2',w2,k1,k2,k3,k4,k5,k6⟩ := this base
          refine ⟨χ,fr2',cs2',w2,Phi.le_trans hle' k1,k2,k3,k4,Kept.trans (b := w1) ⟨ho1,ht1,hp1,by rw [hsize]; omega,fun b hb => hold b (hN0 b hb)⟩ k5,(Steps.one (hstep base)).trans k6⟩
end
end
end Go.Proofs.Ytdaljohmfnfgiaa.Canon

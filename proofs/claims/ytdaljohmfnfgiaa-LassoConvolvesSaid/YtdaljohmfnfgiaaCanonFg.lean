/- What the proof of this claim is made of. No condition. -/
import Derived.Test.YtdaljohmfnfgiaaCanonFe
namespace Go.Proofs.Ytdaljohmfnfgiaa.Canon
open Go Go.RowKit
noncomputable section
variable {P : Program}
section
variable {ρ : Operand → Value} {d : Option Tmp} {ty : TypeId} {pos : String} {af : Array Edge} {gu : Option (Nat × Bool)} {A : AHeap}
def fbld (pl : Nat → Option (Nat × Nat)) (n : Nat) : List (Nat × Value) → List Value → Option (List Value)
  | [],z => some z
  | (i,v) :: ps,z => match pl i with
    | some (o,k) => if v.cells.size = k ∧ o + k ≤ n then fbld pl n ps (z.take o ++ (v.cells.toList ++ z.drop (o + k))) else none
    | none => none
theorem spliceR_td {α : Type} (vs : List α) (n : Nat) (l : List α) (h : n + vs.length ≤ l.length) : zCZ n vs l = l.take n ++ (vs ++ l.drop (n + vs.length)) := by
  obtain ⟨h1,h2⟩ := zBA vs n l h
  refine List.ext_getElem? fun i => ?_
  rw [h2 i]
  by_cases a : i < n
  · rw [if_neg (by omega),List.getElem?_append_left (by simp; omega),List.getElem?_take,if_pos a]
  · by_cases b : i < n + vs.length
    · rw [if_pos ⟨by omega,b⟩,List.getElem?_append_right (by simp; omega),List.getElem?_append_left (by simp; omega)]
      congr 1
      simp
      omega
    · rw [if_neg (by omega),List.getElem?_append_right (by simp; omega),List.getElem?_append_right (by simp; omega),List.getElem?_drop]
      congr 1
      simp
      omega
theorem fbld_fill {pl : Nat → Option (Nat × Nat)} {n : Nat} : ∀ {ps : List (Nat × Operand)} {cs r : List Value},cs.length = n → fbld pl n (ps.map fun p => (p.1,ρ p.2)) cs = some r → fillR pl n ρ ps cs = some r := by
  intro ps
  induction ps with
  | nil => intro cs r _ h; exact h
  | cons p ps ih =>
    intro cs r hl h
    obtain ⟨i,x⟩ := p
    simp only [List.map_cons,fbld] at h
    have hun : fillR pl n ρ ((i,x) :: ps) cs = (match pl i with
      | some q => match q with
        | (off,size) => match Nat.beq (lenR (ρ x).cells.toList) size,Nat.ble (off + size) n with
          | true,true => fillR pl n ρ ps (zCZ off (ρ x).cells.toList cs)
          | _,_ => none
      | none => none) := rfl
    rw [hun]
    split at h
    · rename_i o k hk
      simp only [hk]
      split at h
      · rename_i hc
        have e1 : Nat.beq (lenR (ρ x).cells.toList) k = true := by
          rw [lenR_eq,Array.length_toList,hc.1]
          exact Nat.beq_refl k
        have e2 : Nat.ble (o + k) n = true := Nat.ble_eq_true_of_le hc.2
        have hs : zCZ o (ρ x).cells.toList cs = cs.take o ++ ((ρ x).cells.toList ++ cs.drop (o + k)) := by
          rw [spliceR_td _ _ _ (by rw [Array.length_toList,hc.1]; omega),Array.length_toList,hc.1]
        simp only [e1,e2,hs]
        refine ih ?_ h
        simp only [List.length_append,List.length_take,List.length_drop,Array.length_toList,hc.1]
        omega
      · cases h
    · cases h
theorem xq_op {o : Oper} {r : Value × AHeap} (hop : callV o.op = none) (h : xquick P o bno ρ A = .yes r.1 r.2) : zAE P ρ o A = some r := by
  rcases xquick_ok (P := P) bno o ρ A r.1 r.2 h with ⟨f,args,ats,e,_⟩ | ⟨_,h2⟩
  · rw [e] at hop; cases hop
  · exact h2
theorem ae_build {t : TypeId} {ps : Array (Nat × Operand)} {pl : Nat → Option (Nat × Nat)} {n : Nat} {z r : List Value} (h : (Op.build t ps).operands.toList.all zAC = true) (hb : bof P t = .mk pl n z) (hz : z.length = n)
    (hr : fbld pl n (ps.toList.map fun p => (p.1,ρ p.2)) z = some r) : zAE P ρ ⟨d,.build t ps,ty,pos,af,gu⟩ A = some (.agg ⟨r⟩,A) := by
  refine xq_op rfl ?_
  have : compO P ⟨d,.build t ps,ty,pos,af,gu⟩ = .mk (xbuild P t ps) := by simp only [compO,callV,h,xdispC]
  simp only [xquick,this,xbuild,hb,fbld_fill hz hr]
theorem zDS {t e : TypeId} {n k : Nat} {ps : Array (Nat × Operand)} {pl : Nat → Option (Nat × Nat)} {z r : List Value} (h : (Op.buildSlice t n ps).operands.toList.all zAC = true) (hb : sof P t n = .mk pl k z) (he : elemT P t = some e) (hz : z.length = k)
    (hr : fbld pl k (ps.toList.map fun p => (p.1,ρ p.2)) z = some r) : zAE P ρ ⟨d,.buildSlice t n ps,ty,pos,af,gu⟩ A = some (.slice (some ⟨A.next,0,none⟩) n n,A.push (.cells ⟨r⟩ e)) := by
  refine xq_op rfl ?_
  have : compO P ⟨d,.buildSlice t n ps,ty,pos,af,gu⟩ = .mk (xbuildSlice P t n ps ⟨d,.buildSlice t n ps,ty,pos,af,gu⟩) := by simp only [compO,callV,h,xdispC]
  simp only [xquick,this,xbuildSlice,hb,he,fbld_fill hz hr]
  rfl
theorem ae_mkfunc {f : FuncId} {first ca : Array Operand} (h : (Op.makeFunc (.func f) first ca).operands.toList.all zAC = true) :
    zAE P ρ ⟨d,.makeFunc (.func f) first ca,ty,pos,af,gu⟩ A = some (.func (.func f) (first.map ρ) (ca.map ρ),A) := by
  simp only [zAE,h]
theorem ae_mkfunc1 {f : FuncId} {a : Tmp} : zAE P ρ ⟨d,.makeFunc (.func f) #[] #[.tmp a],ty,pos,af,gu⟩ A = some (.func (.func f) #[] #[ρ (.tmp a)],A) := by
  rw [ae_mkfunc (by rfl)]; simp
theorem ae_mkfunc3 {f : FuncId} {a b c : Tmp} : zAE P ρ ⟨d,.makeFunc (.func f) #[] #[.tmp a,.tmp b,.tmp c],ty,pos,af,gu⟩ A = some (.func (.func f) #[] #[ρ (.tmp a),ρ (.tmp b),ρ (.tmp c)],A) := by
  rw [ae_mkfunc (by rfl)]; simp
theorem ae_mkbound {f : FuncId} {a : Tmp} : zAE P ρ ⟨d,.makeFunc (.func f) #[.tmp a] #[],ty,pos,af,gu⟩ A = some (.func (.func f) #[ρ (.tmp a)] #[],A) := by
  rw [ae_mkfunc (by rfl)]; simp
theorem ae_not' {t : TypeId} {x : Tmp} : zAE P ρ ⟨d,.unOp .not t (.tmp x),ty,pos,af,gu⟩ A = (match ρ (.tmp x) with
  | .bool b => some (.bool (!b),A)
  | v => arun P (Op.unary .not v) A) := by
  simp only [zAE,Op.operands,List.all_cons,List.all_nil,zAC,Bool.and_true]
  cases ρ (.tmp x) <;> simp [Op.unary]
def elB (P : Program) (t : TypeId) : Option (TypeId × Nat × Nat) := match P.underlying t with
  | some (.slice e) => match P.info? e,zok P e with
    | some i,true => match i.zero with
      | some z => match Nat.beq z.cells.size i.size with
        | true => some (e,i.size,i.bytes)
        | false => none
      | none => none
    | _,_ => none
  | _ => none
theorem elB_eq {t e : TypeId} {sz by' : Nat} (h : elB P t = some (e,sz,by')) : P.underlying t = some (.slice e) ∧ ∃ i z,P.info? e = some i ∧ zok P e = true ∧ i.zero = some z ∧ z.cells.size = i.size ∧ i.size = sz ∧ i.bytes = by' := by
  unfold elB at h
  split at h
  · rename_i e' hu
    split at h
    · rename_i i hi hz
      split at h
      · rename_i z hzz
        split at h
        · rename_i hb
          cases h
          exact ⟨hu,i,z,hi,hz,hzz,Nat.eq_of_beq_eq_true hb,rfl,rfl⟩
        · cases h
      · cases h
    · cases h
  · cases h
def Row (A : AHeap) (a : Option Addr) (l : List Value) : Prop := l = [] ∨ ∃ b o,a = some ⟨b,o,none⟩ ∧ ∀ i (h : i < l.length),cl A b (o + i) = some l[i]
theorem Row.arow {a : Addr} {l : List Value} (h : Row A (some a) l) : arow A a l.length = some l := by
  rcases h with rfl | ⟨b,o,h1,h2⟩
  · rfl
  · cases h1
    exact arow_of h2
theorem asrc_row {sz m c : Nat} {tx e : TypeId} {a : Option Addr} {l : List Value} (ht : P.underlying tx = some (.slice e)) (hr : Row A a l) (hm : l.length = m * sz) (hc : l.all zBY = true) (hn : a = none → m = 0) : asrc P sz tx (.slice a m c) A = some (m,l) := by
  unfold asrc
  cases a with
  | none =>
    have := hn rfl
    subst this
    have : l = [] := by
      rw [Nat.zero_mul] at hm
      exact List.length_eq_zero_iff.1 hm
    subst this
    simp [ht]
  | some a =>
    have := hr.arow
    rw [hm] at this
    simp [ht,this,hc]
def Base (A : AHeap) (a : Option Addr) (sz : Nat) : Prop := ∀ x,a = some x → ∃ y,look A.objs x.block = some y ∧ (y.grown = false ∨ (y.grown = true ∧ isRow y.o = true ∧ y.esz = sz))
theorem Base.good {a : Addr} {sz : Nat} (h : Base A (some a) sz) : goodBase A a sz = true := by
  obtain ⟨y,h1,h2⟩ := h a rfl
  obtain ⟨o,g,z⟩ := y
  unfold goodBase
  rcases h2 with h2 | ⟨h2,h3,h4⟩
  · simp only at h2
    subst h2
    simp only [h1]
  · simp only at h2 h3 h4
    subst h2 h4
    cases o <;> simp only [isRow] at h3 <;> first | (cases h3; done) | (simp only [h1]; exact Nat.beq_refl _)
structure AppNew (A : AHeap) (a : Option Addr) (e : TypeId) (sz : Nat) (l : List Value) (A1 : AHeap) : Prop where
  next : A1.next = A.next + 1
  new : look A1.objs A.next = some ⟨.cells ⟨l⟩ e,true,sz⟩
  old : ∀ b,b ≠ A.next → (∀ x,a = some x → x.block ≠ b ∨ ∃ y,look A.objs b = some y ∧ y.grown = false) → look A1.objs b = look A.objs b
  sub : ∀ b x,b ≠ A.next → look A1.objs b = some x → look A.objs b = some x
theorem look_give_keep {a : Addr} {c b : Nat} (h : a.block ≠ b ∨ ∃ y,look A.objs b = some y ∧ y.grown = false) : look (giveUp A a c) b = look A.objs b := by
  unfold giveUp
  split
  · rename_i o z hl
    split
    · rfl
    · rw [look_dropO]
      split
      · rename_i hb
        rcases h with h | ⟨y,h1,h2⟩
        · exact absurd hb h
        · rw [← hb,hl] at h1
          cases h1
          cases h2
      · rfl
  · rfl
theorem zDW (k : Nat) (x : AObj) (l : Tr AObj) : look (zDU k x l) k = some x := by
  rw [zCN]; simp
theorem zCU {k b : Nat} {x : AObj} {l : Tr AObj} (h : b ≠ k) : look (zDU k x l) b = look l b := by
  rw [zCN]
  have : Nat.beq k b = false := by
    cases hb : Nat.beq k b with
    | false => rfl
    | true => exact absurd (Nat.eq_of_beq_eq_true hb).symm h
  rw [this]
theorem aapp_new {st tx e e2 : TypeId} {sz by' : Nat} (hst : elB P st = some (e,sz,by')) (htx : P.underlying tx = some (.slice e2)) {a a2 : Option Addr} {n c m c2 : Nat} {l l2 : List Value} (hr : Row A a l) (hl : l.length = n * sz) (hb : Base A a sz) (hn : a = none → n = 0)
    (hr2 : Row A a2 l2) (hl2 : l2.length = m * sz) (hc2 : l2.all zBY = true) (hn2 : a2 = none → m = 0) (hroom : c < n + m) (h1 : (n + m) * by' ≤ 140737488355328) (h2 : n + m ≤ 4611686018427387904) :
    ∃ A1,aapp P #[st,tx] #[.slice a n c,.slice a2 m c2] A = some (.slice (some ⟨A.next,0,none⟩) (n + m) (n + m),A1) ∧ AppNew A a e sz (l ++ l2) A1 := by
  obtain ⟨hu,i,z,hi,hz,hzz,hzs,rfl,rfl⟩ := elB_eq hst
  have hsrc := asrc_row (P := P) (c := c2) htx hr2 hl2 hc2 hn2
  have b0 : Nat.ble (n + m) c = false := by
    cases hb : Nat.ble (n + m) c with
    | false => rfl
    | true => have := Nat.le_of_ble_eq_true hb; omega
  have b1 : Nat.ble ((n + m) * i.bytes) 140737488355328 = true := Nat.ble_eq_true_of_le h1
  have b2 : Nat.ble (n + m) 4611686018427387904 = true := Nat.ble_eq_true_of_le h2
  have b3 : Nat.beq z.cells.size i.size = true := by rw [hzs]; exact Nat.beq_refl _
  cases a with
  | none =>
    have := hn rfl
    subst this
    have hl0 : l = [] := by
      rw [Nat.zero_mul] at hl
      exact List.length_eq_zero_iff.1 hl
    subst hl0
    refine ⟨⟨A.next + 1,zDU A.next ⟨.cells l2.toArray e,true,i.size⟩ A.objs⟩,?_,rfl,zDW _ _ _,fun b hb _ => zCU hb,fun b x hb hx => by rwa [zCU hb] at hx⟩
    simp only [Nat.zero_add] at b0 b1 b2 ⊢
    simp only [aapp,hu,hi,hz,hzz,hsrc,b0,b1,b2,b3,Nat.beq_refl,Nat.zero_add]
  | some a =>
    have hrow := hr.arow
    rw [hl] at hrow
    have hg := hb.good
    refine ⟨⟨A.next + 1,zDU A.next ⟨.cells (l ++ l2).toArray e,true,i.size⟩ (giveUp A a c)⟩,?_,rfl,zDW _ _ _,fun b hb h => ?_,fun b x hb hx => ?_⟩
    · simp only [aapp,hu,hi,hz,hzz,hsrc,b0,b1,b2,b3,hrow,hg]
    · show look (zDU A.next _ _) b = _
      rw [zCU hb]
      exact look_give_keep (h a rfl)
    · have hx : look (zDU A.next _ _) b = some x := hx
      rw [zCU hb] at hx
      exact look_giveUp hx
theorem aapp_nil {st tx e e2 : TypeId} {sz by' : Nat} (hst : elB P st = some (e,sz,by')) (htx : P.underlying tx = some (.slice e2)) {a a2 : Option Addr} {n c c2 : Nat} (hnc : n ≤ c) :
    aapp P #[st,tx] #[.slice a n c,.slice a2 0 c2] A = some (.slice a n c,A) := by
  obtain ⟨hu,i,z,hi,hz,hzz,hzs,rfl,rfl⟩ := elB_eq hst
  have hsrc : asrc P i.size tx (.slice a2 0 c2) A = some (0,[]) := by
    unfold asrc
    cases a2 with
    | none => simp [htx]
    | some a => simp [htx,arow]
  have b0 : Nat.ble n c = true := Nat.ble_eq_true_of_le hnc
  cases a with
  | none => simp only [aapp,hu,hi,hz,hzz,hsrc,b0,Nat.add_zero]
  | some x =>
    obtain ⟨b,o,sp⟩ := x
    cases sp with
    | none => simp only [aapp,hu,hi,hz,hzz,hsrc,b0,asets,Option.map_some,Nat.add_zero]
    | some q => simp only [aapp,hu,hi,hz,hzz,hsrc,b0,Nat.add_zero]
theorem AppNew.nx {a : Option Addr} {e : TypeId} {sz n : Nat} {l : List Value} {A1 : AHeap} (h : AppNew A a e sz l A1) (hw : WF A) (hn : n ≤ A.next) (ha : ∀ x,a = some x → n ≤ x.block ∨ ∃ y,look A.objs x.block = some y ∧ y.grown = false) : Nx n A A1 := by
  refine ⟨by rw [h.next]; omega,fun b x hx => ?_,fun b hb => h.old b (by omega) fun x hx => ?_⟩
  · by_cases hb : b = A.next
    · rw [h.next]; omega
    · rw [h.next]
      exact Nat.lt_succ_of_lt (hw b x (h.sub b x hb hx))
  · rcases ha x hx with hh | ⟨y,h1,h2⟩
    · exact .inl (by omega)
    · by_cases hbb : x.block = b
      · subst hbb
        exact .inr ⟨y,h1,h2⟩
      · exact .inl hbb
theorem AppNew.cl {a : Option Addr} {e : TypeId} {sz : Nat} {l : List Value} {A1 : AHeap} (h : AppNew A a e sz l A1) (i : Nat) : Canon.cl A1 A.next i = l[i]? := by
  rw [zCE h.new rfl]
  simp
end
end
end Go.Proofs.Ytdaljohmfnfgiaa.Canon

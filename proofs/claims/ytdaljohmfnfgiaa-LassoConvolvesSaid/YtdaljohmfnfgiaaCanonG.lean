/- What the proof of this claim is made of. No condition. -/
import Derived.Test.YtdaljohmfnfgiaaCanonF
namespace Go.Proofs.Ytdaljohmfnfgiaa.Canon
open Go Go.RowKit
noncomputable section
section
variable {P : Program}
theorem closed1_eq {φ : Phi} {v v' : Value} (h : closed1 v = true) (hv : V φ v v') : v' = v := by
  cases hv <;> first | rfl | (simp [closed1] at h)
theorem closedV_eq {φ : Phi} {v v' : Value} (h : zCI v = true) (hv : V φ v v') : v' = v := by
  cases hv
  case agg xs xs' hx hx' =>
    have hc := h
    simp only [zCI,List.all_eq_true] at hc
    congr 1
    refine Array.ext hx.symm fun i h1 h2 => ?_
    exact closed1_eq (hc xs[i] (by simp)) (hx' i h2 h1)
  all_goals first | rfl | (simp [zCI,closed1] at h)
inductive EL (φ : Phi) : List MapEntry → List MapEntry → Prop
  | nil : EL φ [] []
  | cons {e e' : MapEntry} {l l' : List MapEntry} (hk : V φ e.key e'.key) (hv : V φ e.val e'.val) (hb : e.born = e'.born) (t : EL φ l l') : EL φ (e :: l) (e' :: l')
theorem EL.get {φ : Phi} {l l' : List MapEntry} (h : EL φ l l') : l.length = l'.length ∧ ∀ (i : Nat) (e : MapEntry),l[i]? = some e → ∃ e',l'[i]? = some e' ∧ V φ e.key e'.key ∧ V φ e.val e'.val ∧ e.born = e'.born := by
  induction h with
  | nil => exact ⟨rfl,fun i e h => by simp at h⟩
  | cons hk hv hb _ ih =>
    refine ⟨by simp [ih.1],fun i e h => ?_⟩
    cases i with
    | zero => simp at h; subst h; exact ⟨_,rfl,hk,hv,hb⟩
    | succ i => simpa using ih.2 i e (by simpa using h)
theorem EL.of_get {φ : Phi} : ∀ {l l' : List MapEntry},l.length = l'.length → (∀ (i : Nat) (e : MapEntry),l[i]? = some e → ∃ e',l'[i]? = some e' ∧ V φ e.key e'.key ∧ V φ e.val e'.val ∧ e.born = e'.born) → EL φ l l'
  | [],[],_,_ => .nil
  | [],_ :: _,h,_ => by simp at h
  | _ :: _,[],h,_ => by simp at h
  | e :: l,e' :: l',h,hg => by
    obtain ⟨u,h1,h2,h3,h4⟩ := hg 0 e rfl
    simp at h1
    subst h1
    exact .cons h2 h3 h4 (EL.of_get (by simpa using h) fun i u hu => by simpa using hg (i + 1) u (by simpa using hu))
theorem ER.list {φ : Phi} {es es' : Array MapEntry} (h : ER φ es es') : EL φ es.toList es'.toList :=
  EL.of_get (by simpa using h.1) fun i e he => by
    obtain ⟨hi,rfl⟩ := List.getElem?_eq_some_iff.1 he
    have hi' : i < es'.size := by rw [← h.1]; simpa using hi
    exact ⟨es'[i],by simp [hi'],h.2 i (by simpa using hi) hi'⟩
theorem EL.array {φ : Phi} {l l' : List MapEntry} (h : EL φ l l') : ER φ l.toArray l'.toArray := by
  refine ⟨by simpa using h.get.1,fun i h1 h2 => ?_⟩
  obtain ⟨e',k1,k2⟩ := h.get.2 i l[i] (by simp at h1; simp [h1])
  obtain ⟨_,rfl⟩ := List.getElem?_eq_some_iff.1 k1
  simpa using k2
def afind (P : Program) (kt : TypeId) (k : Value) : List MapEntry → Nat → Option (Option (Nat × Value))
  | [],_ => some none
  | e :: es,i => match aeq P deep kt k e.key with
    | some true => some (some (i,e.val))
    | some false => afind P kt k es (i + 1)
    | none => none
def FR (φ : Phi) : Option (Nat × Value) → Option (Nat × Value) → Prop
  | none,none => True
  | some (i,v),some (j,v') => i = j ∧ V φ v v'
  | _,_ => False
theorem aeq_sameNow {φ : Phi} {kt : TypeId} {kd : TypeDesc} (hu : P.underlying kt = some kd) {x y x' y' : Value} {b : Bool} (h : aeq P deep kt x y = some b) (hx : V φ x x') (hy : V φ y y') :
    Instr.sameNow kd x' y' = some b ∨ Instr.sameNow kd x' y' = none := by
  simp only [deep,aeq,hu] at h
  cases kd <;> try (right; rfl)
  case bool =>
    split at h <;> rename_i hd
    case h_1 => cases hx; cases hy; cases h; left; rfl
    all_goals (first | (cases hd; done) | cases h)
  case int =>
    split at h <;> rename_i hd
    case h_2 =>
      cases hx; cases hy
      split at h
      · rename_i hj
        cases h
        simp at hj
        left
        simp [Instr.sameNow,hj]
      · cases h
    all_goals (first | (cases hd; done) | cases h)
  case string =>
    split at h <;> rename_i hd
    case h_3 => cases hx; cases hy; cases h; left; rfl
    all_goals (first | (cases hd; done) | cases h)
theorem afind_asking {φ : Phi} {kt : TypeId} {k k' : Value} (hk : V φ k k') : ∀ {es es' : List MapEntry},EL φ es es' → ∀ (i : Nat) (r : Option (Nat × Value)),afind P kt k es i = some r →
    ∃ r',(∀ w,(Instr.findAsking kt k' es' i).run P w = .ok r' w) ∧ FR φ r r'
  | _,_,.nil,i,r,h => by simp [afind] at h; subst h; exact ⟨none,fun w => by simp [Instr.findAsking],trivial⟩
  | _,_,@EL.cons _ e e' l l' hke hve hbe t,i,r,h => by
    simp only [afind] at h
    split at h
    · rename_i hq
      cases h
      exact ⟨some (i,e'.val),fun w => by simp [Instr.findAsking,aeq_equal hq hk hke],rfl,hve⟩
    · rename_i hq
      obtain ⟨r',h1,h2⟩ := afind_asking hk t (i + 1) r h
      exact ⟨r',fun w => by simp [Instr.findAsking,aeq_equal hq hk hke,h1],h2⟩
    · cases h
theorem afind_now {φ : Phi} {kt : TypeId} {kd : TypeDesc} (hu : P.underlying kt = some kd) {k k' : Value} (hk : V φ k k') : ∀ {es es' : List MapEntry},EL φ es es' → ∀ (i : Nat) (r : Option (Nat × Value)),afind P kt k es i = some r →
    ∀ r'',Instr.findNow kd k' es' i = some r'' → FR φ r r''
  | _,_,.nil,i,r,h => by simp [afind] at h; subst h; intro r'' h; simp [Instr.findNow] at h; subst h; trivial
  | _,_,@EL.cons _ e e' l l' hke hve hbe t,i,r,h => by
    intro r'' h'
    simp only [afind] at h
    simp only [Instr.findNow] at h'
    split at h
    · rename_i hq
      cases h
      rcases aeq_sameNow hu hq hk hke with hs | hs <;> rw [hs] at h' <;> simp at h'
      subst h'
      exact ⟨rfl,hve⟩
    · rename_i hq
      rcases aeq_sameNow hu hq hk hke with hs | hs <;> rw [hs] at h' <;> simp at h'
      exact afind_now hu hk t (i + 1) r h r'' h'
    · cases h
theorem afind_run {φ : Phi} {kt : TypeId} {kd : TypeDesc} (hu : P.underlying kt = some kd) {k k' : Value} (hk : V φ k k') {es es' : List MapEntry} (he : EL φ es es') {r : Option (Nat × Value)} (h : afind P kt k es 0 = some r) :
    ∃ r',(∀ w,(Instr.findKey kt k' es').run P w = .ok r' w) ∧ FR φ r r' := by
  cases hn : Instr.findNow kd k' es' 0 with
  | some r'' => exact ⟨r'',fun w => by simp [Instr.findKey,run_underlying hu,hn],afind_now hu hk he 0 r h r'' hn⟩
  | none =>
    obtain ⟨r',h1,h2⟩ := afind_asking hk he 0 r h
    exact ⟨r',fun w => by simp [Instr.findKey,run_underlying hu,hn,h1],h2⟩
def akey (P : Program) : Nat → TypeId → Value → Bool
  | 0,_,_ => false
  | n + 1,t,v => match P.underlying t,v with
    | some (.interface _),_ => false
    | some (.array len e),.agg cs => match P.info? e with
      | some i => (List.range len).all fun j => match aelem P e cs (j * i.size) with
        | some x => akey P n e x
        | none => false
      | none => false
    | some (.struct fs),.agg cs => fs.toList.all fun f => f.name != "_" && match aelem P f.type cs f.offset with
        | some x => akey P n f.type x
        | none => false
    | some (.array _ _),_ => false
    | some (.struct _),_ => false
    | some _,_ => true
    | none,_ => false
set_option maxHeartbeats 1000000 in
theorem akey_run {φ : Phi} (em : Bool) (m : Nat) : ∀ (n : Nat) (t : TypeId) (v v' : Value),akey P n t v = true → V φ v v' → ∀ w,(Instr.checkKey em (m + n) t v').run P w = .ok () w
  | 0,t,v,v',h,_,_ => by simp [akey] at h
  | n + 1,t,v,v',h,hv,w => by
    have ih := akey_run (φ := φ) em m n
    show (Instr.checkKey em ((m + n) + 1) t v').run P w = .ok () w
    simp only [akey] at h
    cases hu : P.underlying t with
    | none => simp [hu] at h
    | some kd =>
      rw [hu] at h
      cases kd
      case interface => simp at h
      case array len e =>
        cases hv <;> simp only [Bool.false_eq_true] at h
        rename_i xs xs' hx hx'
        split at h
        · rename_i i hi
          simp only [Instr.checkKey,Sem.run_bind,run_underlying hu,Result.andThen_ok]
          simp only [Std.Legacy.Range.forIn_eq_forIn_range',Std.Legacy.Range.size,Nat.sub_zero,Nat.add_one_sub_one,Nat.div_one]
          rw [List.range_eq_range'] at h
          generalize List.range' 0 len = is at h
          induction is with
          | nil => simp
          | cons j is ih2 =>
            simp only [List.all_cons,Bool.and_eq_true] at h
            obtain ⟨ha,hb⟩ := h
            split at ha
            · rename_i x hxe
              obtain ⟨x',k1,k2⟩ := aelem_run hxe (φ := φ) (cs' := xs') ⟨hx,hx'⟩
              have hcs : P.cellsOf e = i.size := by simp [Program.cellsOf,hi]
              simp only [List.forIn_cons,Sem.run_bind,run_sizeOf w hi,hcs,Result.andThen_ok,k1,ih e x x' ha k2,Sem.run_pure]
              exact ih2 hb
            · cases ha
        · cases h
      case struct fs =>
        cases hv <;> simp only [Bool.false_eq_true] at h
        rename_i xs xs' hx hx'
        simp only [Instr.checkKey,Sem.run_bind,run_underlying hu,Result.andThen_ok]
        rw [← Array.forIn_toList]
        generalize fs.toList = L at h
        induction L with
        | nil => simp
        | cons f L ih2 =>
          simp only [List.all_cons,Bool.and_eq_true] at h
          obtain ⟨⟨hn,ha⟩,hb⟩ := h
          have hn' : f.name ≠ "_" := by simpa [bne] using hn
          split at ha
          · rename_i x hxe
            obtain ⟨x',k1,k2⟩ := aelem_run hxe (φ := φ) (cs' := xs') ⟨hx,hx'⟩
            simp only [List.forIn_cons,Sem.run_bind,hn',ne_eq,zNf,if_true,Result.andThen_ok,k1,ih f.type x x' ha k2,Sem.run_pure]
            exact ih2 hb
          · cases ha
      all_goals simp [Instr.checkKey,run_underlying hu]
theorem zCJ {φ : Phi} (em : Bool) {t : TypeId} {v v' : Value} (h : akey P deep t v = true) (hv : V φ v v') (w : World) : (Instr.checkKey em 10000 t v').run P w = .ok () w :=
  akey_run em 9992 deep t v v' h hv w
def amap (A : AHeap) (r : Nat) : Option (Array MapEntry × Nat) := match A.obj r with
  | some (.map es c) => some (es,c)
  | _ => none
theorem amap_run {N : Kp} {φ : Phi} {A : AHeap} {w : World} (hs : Sim N φ A w) {r : Nat} {e : Ent} (he : φ r = some e) {es : Array MapEntry} {c : Nat} (h : amap A r = some (es,c)) :
    ∃ es',w.heap[e.blk]? = some (.map es' c) ∧ ER φ es es' := by
  unfold amap at h
  split at h
  · rename_i es1 c1 ho
    cases h
    obtain ⟨o',h1,h2,_⟩ := hs.getObj he ho
    cases o' <;> simp only [OR] at h2
    obtain ⟨rfl,h2⟩ := h2
    exact ⟨_,h1,h2⟩
  · cases h
def zCG (P : Program) (t : TypeId) : Option Value := match zok P t,P.info? t with
  | true,some i => i.zero
  | _,_ => none
theorem zeroOf_run {t : TypeId} {v : Value} (h : zCG P t = some v) : (∀ w,(zeroValue t).run P w = .ok v w) ∧ ∀ φ,V φ v v := by
  unfold zCG at h
  split at h
  · rename_i i hz hi
    refine ⟨fun w => by simp [zeroValue,typeInfo,hi,h],fun φ => closedV_V φ ?_⟩
    simpa [zok,hi,h] using hz
  · cases h
def aes (A : AHeap) : Value → Option (List MapEntry)
  | .map none => some []
  | .map (some r) => (amap A r).map (·.1.toList)
  | _ => none
def aget (P : Program) (t : TypeId) (m k : Value) (ok : Bool) (A : AHeap) : Option (Value × AHeap) :=
  match P.underlying t with
  | some (.map kt et) =>
    match aes A m,akey P deep kt k with
    | some es,true => match afind P kt k es 0 with
      | some (some (_,v)) => some ((bif ok then .tuple #[v,.bool true] else v),A)
      | some none => match zCG P et with
        | some z => some ((bif ok then .tuple #[z,.bool false] else z),A)
        | none => none
      | none => none
    | _,_ => none
  | _ => none
theorem Q.get {φ : Phi} {t : TypeId} {m m' k k' : Value} (ok : Bool) (hm : V φ m m') (hk : V φ k k') : Q P V (aget P t m k ok) φ (Instr.lookup t m' k' ok) := by
  intro N A w v A1 hs hN he
  unfold aget at he
  split at he
  · rename_i kt et hu
    obtain ⟨kd,hkd⟩ : ∃ kd,akey P deep kt k = true → P.underlying kt = some kd := by
      cases hku : P.underlying kt with
      | none => exact ⟨.bool,fun h => by simp [akey,deep,hku] at h⟩
      | some kd => exact ⟨kd,fun _ => rfl⟩
    split at he
    · rename_i es1 hes hak
      have fin : ∀ (es' : Array MapEntry),EL φ es1 es'.toList → (Instr.lookup t m' k' ok).run P w = ((do
            Instr.checkKey es'.isEmpty 10000 kt k'
            let (v,ok') ← match ← Instr.findKey kt k' es'.toList with
              | some (_,v) => Pure.pure (v,true)
              | none => Pure.pure (← Go.zeroValue et,false)
            Pure.pure (if ok then Value.tuple #[v,Value.bool ok'] else v) : Sem Value)).run P w →
          ∃ ψ b w1,φ.le ψ ∧ V ψ v b ∧ Sim N ψ A1 w1 ∧ (Instr.lookup t m' k' ok).run P w = .ok b w1 ∧ Kept N w w1 := by
        intro es' hel hrun
        split at he
        · rename_i i u hf
          cases he
          obtain ⟨r',h1,h2⟩ := afind_run (hkd hak) hk hel hf
          cases r' with
          | none => exact h2.elim
          | some p =>
            obtain ⟨j,u'⟩ := p
            refine ⟨φ,(if ok then .tuple #[u',.bool true] else u'),w,Phi.le_refl _,?_,hs,?_,Kept.refl _ _⟩
            · cases ok
              · exact h2.2
              · exact .ofTuple ((AR.single h2.2).push (.bool _))
            · rw [hrun]; simp [zCJ _ hak hk,h1]
        · rename_i hf
          split at he
          · rename_i z hz
            cases he
            obtain ⟨r',h1,h2⟩ := afind_run (hkd hak) hk hel hf
            obtain ⟨z1,z2⟩ := zeroOf_run hz
            cases r' with
            | some p => exact h2.elim
            | none =>
              refine ⟨φ,(if ok then .tuple #[z,.bool false] else z),w,Phi.le_refl _,?_,hs,?_,Kept.refl _ _⟩
              · cases ok
                · exact z2 φ
                · exact .ofTuple ((AR.single (z2 φ)).push (.bool _))
              · rw [hrun]; simp [zCJ _ hak hk,h1,z1]
          · cases he
        · cases he
      cases hm <;> simp only [aes,reduceCtorEq] at hes
      case mapNil =>
        cases hes
        exact fin #[] .nil (by simp [Instr.lookup,run_underlying hu]; rfl)
      case map r e hr =>
        cases ha : amap A r with
        | none => rw [ha] at hes; cases hes
        | some p =>
          obtain ⟨es0,c⟩ := p
          rw [ha] at hes
          cases hes
          obtain ⟨es',h1,h2⟩ := amap_run hs hr ha
          have hg : (Go.getObj e.blk).run P w = .ok (.map es' c) w := by simp [Go.getObj,Sem.run,h1]
          exact fin es' h2.list (by simp [Instr.lookup,run_underlying hu,hg]; rfl)
    · cases he
  · cases he
def aput (P : Program) (t : TypeId) (m k x : Value) (A : AHeap) : Option (Unit × AHeap) :=
  match P.underlying t,m with
  | some (.map kt _),.map (some r) => match amap A r,zCI k,akey P deep kt k with
    | some (es,c),true,true => match afind P kt k es.toList 0 with
      | some (some (i,_)) => match es[i]? with
        | some e => match zCI e.key,Instr.sameBits 10000 e.key k with
          | true,true => (A.setObj r (.map (es.modify i fun e => { e with key := k,val := x }) c)).map fun A => ((),A)
          | _,_ => none
        | none => none
      | some none => (A.setObj r (.map (es.push { key := k,val := x,born := c }) (c + 1))).map fun A => ((),A)
      | none => none
    | _,_,_ => none
  | _,_ => none
theorem ER.push {φ : Phi} {es es' : Array MapEntry} (h : ER φ es es') {k k' x x' : Value} (hk : V φ k k') (hx : V φ x x') (b : Nat) : ER φ (es.push ⟨k,x,b⟩) (es'.push ⟨k',x',b⟩) := by
  refine ⟨by simp [h.1],fun i h1 h2 => ?_⟩
  simp only [Array.getElem_push]
  by_cases hi : i < es.size
  · simp only [hi,h.1 ▸ hi,dif_pos]; exact h.2 i hi _
  · have hi' : ¬ i < es'.size := by rw [← h.1]; exact hi
    simp only [hi,hi',dif_neg,zNf]
    exact ⟨hk,hx,by trivial⟩
theorem ER.modify {φ : Phi} {es es' : Array MapEntry} (h : ER φ es es') {k k' x x' : Value} (hk : V φ k k') (hx : V φ x x') (j : Nat) :
    ER φ (es.modify j fun e => { e with key := k,val := x }) (es'.modify j fun e => { e with key := k',val := x' }) := by
  refine ⟨by simp [h.1],fun i h1 h2 => ?_⟩
  simp only [Array.getElem_modify]
  have h1' : i < es.size := by simpa using h1
  have h2' : i < es'.size := by simpa using h2
  by_cases hi : j = i
  · subst hi; simp only [if_true]; exact ⟨hk,hx,(h.2 _ h1' h2').2.2⟩
  · simp only [hi,if_false]; exact h.2 i h1' h2'
theorem Q.put {φ : Phi} {t : TypeId} {m m' k k' x x' : Value} (hm : V φ m m') (hk : V φ k k') (hx : V φ x x') : Q P EqR (aput P t m k x) φ (Instr.mapUpdate t m' k' x') := by
  intro N A w u A1 hs hN he
  unfold aput at he
  split at he
  · rename_i kt et r hu
    cases hm
    rename_i e hr
    split at he
    · rename_i es c ha hck hak
      have hkk : k' = k := closedV_eq hck hk
      subst hkk
      obtain ⟨es',h1,h2⟩ := amap_run hs hr ha
      have hkd : ∃ kd,P.underlying kt = some kd := by
        cases hku : P.underlying kt with
        | none => simp [akey,deep,hku] at hak
        | some kd => exact ⟨kd,rfl⟩
      obtain ⟨kd,hkd⟩ := hkd
      split at he
      · rename_i i v hf
        obtain ⟨r',k1,k2⟩ := afind_run hkd hk h2.list hf
        split at he
        · rename_i en hen
          split at he
          · rename_i hce hsb
            cases hA : A.setObj r (.map (es.modify i fun e => { e with key := k',val := x }) c) with
            | none => rw [hA] at he; cases he
            | some A' =>
              rw [hA] at he
              simp only [Option.map_some,zOi,Prod.mk.injEq] at he
              obtain ⟨_,rfl⟩ := he
              have hor : OR φ (.map (es.modify i fun e => { e with key := k',val := x }) c) (.map (es'.modify i fun e => { e with key := k',val := x' }) c) := ⟨rfl,h2.modify hk hx i⟩
              obtain ⟨g1,g2,g3⟩ := hs.setObj hr hor hA
              cases r' with
              | none => exact k2.elim
              | some p =>
                obtain ⟨j,v'⟩ := p
                obtain ⟨rfl,k3⟩ := k2
                have hlt : i < es.size := (Array.getElem?_eq_some_iff.1 hen).1
                have hlt' : i < es'.size := by rw [← h2.1]; exact hlt
                have hen' : es'[i]? = some es'[i] := Array.getElem?_eq_getElem hlt'
                have hkey : es'[i].key = en.key := by
                  obtain ⟨_,rfl⟩ := Array.getElem?_eq_some_iff.1 hen
                  exact closedV_eq hce (h2.2 i hlt hlt').1
                refine ⟨φ,(),_,Phi.le_refl _,rfl,g2,?_,g3⟩
                have hg : (Go.getObj e.blk).run P w = .ok (.map es' c) w := by simp [Go.getObj,Sem.run,h1]
                simp only [Instr.mapUpdate,Sem.run_bind,run_underlying hu,Result.andThen_ok,hg,zCJ _ hak hk,k1,hen',Option.map_some,Option.getD_some,Instr.keyThatStays,hkey,hsb,if_true]
                simp [Go.setObj,Sem.run,h1]
          · cases he
        · cases he
      · rename_i hf
        obtain ⟨r',k1,k2⟩ := afind_run hkd hk h2.list hf
        cases hA : A.setObj r (.map (es.push { key := k',val := x,born := c }) (c + 1)) with
        | none => rw [hA] at he; cases he
        | some A' =>
          rw [hA] at he
          simp only [Option.map_some,zOi,Prod.mk.injEq] at he
          obtain ⟨_,rfl⟩ := he
          have hor : OR φ (.map (es.push { key := k',val := x,born := c }) (c + 1)) (.map (es'.push { key := k',val := x',born := c }) (c + 1)) := ⟨rfl,h2.push hk hx c⟩
          obtain ⟨g1,g2,g3⟩ := hs.setObj hr hor hA
          cases r' with
          | some p => exact k2.elim
          | none =>
            refine ⟨φ,(),_,Phi.le_refl _,rfl,g2,?_,g3⟩
            have hg : (Go.getObj e.blk).run P w = .ok (.map es' c) w := by simp [Go.getObj,Sem.run,h1]
            simp only [Instr.mapUpdate,Sem.run_bind,run_underlying hu,Result.andThen_ok,hg,zCJ _ hak hk,k1]
            simp [Go.setObj,Sem.run,h1]
      · cases he
    · cases he
  · cases he
def amentry (P : Program) (t : TypeId) (m k : Value) (A : AHeap) : Option (Value × AHeap) :=
  match P.underlying t,m with
  | some (.map kt et),.map (some r) => match amap A r,zCI k,akey P deep kt k with
    | some (es,c),true,true => match afind P kt k es.toList 0 with
      | some (some (i,v)) => match es[i]? with
        | some e => match zCI e.key,Instr.sameBits 10000 e.key k with
          | true,true => (A.setObj r (.map (es.modify i fun e => { e with key := k }) c)).map fun A => (.tuple #[v,goInt e.born],A)
          | _,_ => none
        | none => none
      | some none => match zCG P et with
        | some z => (A.setObj r (.map (es.push { key := k,val := z,born := c }) (c + 1))).map fun A => (.tuple #[z,goInt c],A)
        | none => none
      | none => none
    | _,_,_ => none
  | _,_ => none
theorem ER.rekey {φ : Phi} {es es' : Array MapEntry} (h : ER φ es es') {k k' : Value} (hk : V φ k k') (j : Nat) :
    ER φ (es.modify j fun e => { e with key := k }) (es'.modify j fun e => { e with key := k' }) := by
  refine ⟨by simp [h.1],fun i h1 h2 => ?_⟩
  simp only [Array.getElem_modify]
  have h1' : i < es.size := by simpa using h1
  have h2' : i < es'.size := by simpa using h2
  by_cases hi : j = i
  · subst hi; simp only [if_true]; exact ⟨hk,(h.2 _ h1' h2').2.1,(h.2 _ h1' h2').2.2⟩
  · simp only [hi,if_false]; exact h.2 i h1' h2'
theorem ER.reval {φ : Phi} {es es' : Array MapEntry} (h : ER φ es es') {x x' : Value} (hx : V φ x x') (j : Nat) :
    ER φ (es.modify j fun e => { e with val := x }) (es'.modify j fun e => { e with val := x' }) := by
  refine ⟨by simp [h.1],fun i h1 h2 => ?_⟩
  simp only [Array.getElem_modify]
  have h1' : i < es.size := by simpa using h1
  have h2' : i < es'.size := by simpa using h2
  by_cases hi : j = i
  · subst hi; simp only [if_true]; exact ⟨(h.2 _ h1' h2').1,hx,(h.2 _ h1' h2').2.2⟩
  · simp only [hi,if_false]; exact h.2 i h1' h2'
theorem Q.mentry {φ : Phi} {t : TypeId} {m m' k k' : Value} (hm : V φ m m') (hk : V φ k k') : Q P V (amentry P t m k) φ (Instr.mapEntry t m' k') := by
  intro N A w u A1 hs hN he
  unfold amentry at he
  split at he
  · rename_i kt et r hu
    cases hm
    rename_i e hr
    split at he
    · rename_i es c ha hck hak
      have hkk : k' = k := closedV_eq hck hk
      subst hkk
      obtain ⟨es',h1,h2⟩ := amap_run hs hr ha
      have hkd : ∃ kd,P.underlying kt = some kd := by
        cases hku : P.underlying kt with
        | none => simp [akey,deep,hku] at hak
        | some kd => exact ⟨kd,rfl⟩
      obtain ⟨kd,hkd⟩ := hkd
      split at he
      · rename_i i v hf
        obtain ⟨r',k1,k2⟩ := afind_run hkd hk h2.list hf
        split at he
        · rename_i en hen
          split at he
          · rename_i hce hsb
            cases hA : A.setObj r (.map (es.modify i fun e => { e with key := k' }) c) with
            | none => rw [hA] at he; cases he
            | some A' =>
              rw [hA] at he
              simp only [Option.map_some,zOi,Prod.mk.injEq] at he
              obtain ⟨rfl,rfl⟩ := he
              have hor : OR φ (.map (es.modify i fun e => { e with key := k' }) c) (.map (es'.modify i fun e => { e with key := k' }) c) := ⟨rfl,h2.rekey hk i⟩
              obtain ⟨g1,g2,g3⟩ := hs.setObj hr hor hA
              cases r' with
              | none => exact k2.elim
              | some p =>
                obtain ⟨j,v'⟩ := p
                obtain ⟨rfl,k3⟩ := k2
                have hlt : i < es.size := (Array.getElem?_eq_some_iff.1 hen).1
                have hlt' : i < es'.size := by rw [← h2.1]; exact hlt
                have hen' : es'[i]? = some es'[i] := Array.getElem?_eq_getElem hlt'
                have hkey : es'[i].key = en.key := by
                  obtain ⟨_,rfl⟩ := Array.getElem?_eq_some_iff.1 hen
                  exact closedV_eq hce (h2.2 i hlt hlt').1
                have hborn : es'[i].born = en.born := by
                  obtain ⟨_,rfl⟩ := Array.getElem?_eq_some_iff.1 hen
                  exact ((h2.2 i hlt hlt').2.2).symm
                refine ⟨φ,.tuple #[v',goInt en.born],_,Phi.le_refl _,.ofTuple ((AR.single k3).push (.int _ _)),g2,?_,g3⟩
                have hg : (Go.getObj e.blk).run P w = .ok (.map es' c) w := by simp [Go.getObj,Sem.run,h1]
                simp only [Instr.mapEntry,Sem.run_bind,run_underlying hu,Result.andThen_ok,hg,zCJ _ hak hk,k1,hen',Option.map_some,Option.getD_some,Instr.keyThatStays,hkey,hborn,hsb,if_true]
                simp [Go.setObj,Sem.run,h1]
          · cases he
        · cases he
      · rename_i hf
        obtain ⟨r',k1,k2⟩ := afind_run hkd hk h2.list hf
        split at he
        · rename_i z hz
          obtain ⟨z1,z2⟩ := zeroOf_run hz
          cases hA : A.setObj r (.map (es.push { key := k',val := z,born := c }) (c + 1)) with
          | none => rw [hA] at he; cases he
          | some A' =>
            rw [hA] at he
            simp only [Option.map_some,zOi,Prod.mk.injEq] at he
            obtain ⟨rfl,rfl⟩ := he
            have hor : OR φ (.map (es.push { key := k',val := z,born := c }) (c + 1)) (.map (es'.push { key := k',val := z,born := c }) (c + 1)) := ⟨rfl,h2.push hk (z2 φ) c⟩
            obtain ⟨g1,g2,g3⟩ := hs.setObj hr hor hA
            cases r' with
            | some p => exact k2.elim
            | none =>
              refine ⟨φ,.tuple #[z,goInt c],_,Phi.le_refl _,.ofTuple ((AR.single (z2 φ)).push (.int _ _)),g2,?_,g3⟩
              have hg : (Go.getObj e.blk).run P w = .ok (.map es' c) w := by simp [Go.getObj,Sem.run,h1]
              simp only [Instr.mapEntry,Sem.run_bind,run_underlying hu,Result.andThen_ok,hg,zCJ _ hak hk,k1,z1]
              simp [Go.setObj,Sem.run,h1]
        · cases he
      · cases he
    · cases he
  · cases he
def aborn (n : Nat) : List MapEntry → Nat → Option Nat
  | [],_ => none
  | e :: l,i => match Nat.beq e.born n with
    | true => some i
    | false => aborn n l (i + 1)
theorem aborn_eq {φ : Phi} (n : Nat) : ∀ {l l' : List MapEntry},EL φ l l' → ∀ i,(l'.findIdx? (fun e => (e.born : Int) == Int.ofNat n)).map (· + i) = aborn n l i
  | _,_,.nil,i => rfl
  | _,_,@EL.cons _ e e' l l' _ _ hb t,i => by
    rw [List.findIdx?_cons]
    simp only [aborn]
    have hq : (((e'.born : Int) == Int.ofNat n) : Bool) = Nat.beq e.born n := by
      rw [← hb]
      cases hc : Nat.beq e.born n with
      | true => have := Nat.eq_of_beq_eq_true hc; rw [this]; simp
      | false =>
        have hne : e.born ≠ n := fun h => by subst h; simp at hc
        simp; omega
    rw [hq]
    cases hc : Nat.beq e.born n with
    | true => simp
    | false =>
      have := aborn_eq n t (i + 1)
      simp only [← this,Bool.false_eq_true,if_false]
      cases List.findIdx? (fun e => (e.born : Int) == Int.ofNat n) l' with
      | none => rfl
      | some x => simp; omega
def aestore (m s x : Value) (A : AHeap) : Option (Unit × AHeap) := match m,s with
  | .map (some r),.int _ (.ofNat n) => match amap A r with
    | some (es,c) => match aborn n es.toList 0 with
      | some i => (A.setObj r (.map (es.modify i fun e => { e with val := x }) c)).map fun A => ((),A)
      | none => none
    | none => none
  | _,_ => none
theorem Q.estore {φ : Phi} {t : TypeId} {m m' s s' x x' : Value} (hm : V φ m m') (hk : V φ s s') (hx : V φ x x') : Q P EqR (aestore m s x) φ (Instr.entryStore t m' s' x') := by
  intro N A w u A1 hs hN he
  unfold aestore at he
  split at he
  · rename_i r q n
    cases hm
    rename_i e hr
    cases hk
    split at he
    · rename_i es c ha
      obtain ⟨es',h1,h2⟩ := amap_run hs hr ha
      split at he
      · rename_i i hi
        have hfi : es'.findIdx? (fun e => (e.born : Int) == Int.ofNat n) = some i := by
          have := aborn_eq n h2.list 0
          rw [hi] at this
          rw [← Array.toArray_toList (xs := es'),List.findIdx?_toArray]
          simpa using this
        cases hA : A.setObj r (.map (es.modify i fun e => { e with val := x }) c) with
        | none => rw [hA] at he; cases he
        | some A' =>
          rw [hA] at he
          simp only [Option.map_some,zOi,Prod.mk.injEq] at he
          obtain ⟨_,rfl⟩ := he
          have hor : OR φ (.map (es.modify i fun e => { e with val := x }) c) (.map (es'.modify i fun e => { e with val := x' }) c) := ⟨rfl,h2.reval hx i⟩
          obtain ⟨g1,g2,g3⟩ := hs.setObj hr hor hA
          refine ⟨φ,(),_,Phi.le_refl _,rfl,g2,?_,g3⟩
          have hg : (Go.getObj e.blk).run P w = .ok (.map es' c) w := by simp [Go.getObj,Sem.run,h1]
          have ha' : (Go.asInt (.int q (Int.ofNat n))).run P w = .ok (Int.ofNat n) w := by simp [Go.asInt,Go.asIntOf]
          simp only [Instr.entryStore,Sem.run_bind,hg,Result.andThen_ok,ha',hfi]
          simp [Go.setObj,Sem.run,h1]
      · cases he
    · cases he
  · cases he
end
end
end Go.Proofs.Ytdaljohmfnfgiaa.Canon

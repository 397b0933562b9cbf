/- What the proof of this claim is made of. No condition. -/
import Derived.Test.YtdaljohmfnfgiaaCanonE
import Derived.ChangeKeysEq
import Derived.Laws.StructEq
namespace Go.Proofs.Ytdaljohmfnfgiaa.Canon
open Go Go.RowKit
noncomputable section
section
variable {P : Program}
def aelem (P : Program) (t : TypeId) (cs : Array Value) (off : Nat) : Option Value :=
  match P.underlying t with
  | some (.struct _) | some (.array _ _) => match P.info? t with
    | some i => some (.agg (cs.extract off (off + i.size)))
    | none => none
  | some _ => cs[off]?
  | none => none
theorem aelem_run {t : TypeId} {cs : Array Value} {off : Nat} {v : Value} (h : aelem P t cs off = some v) {φ : Phi} {cs' : Array Value} (hc : AR φ cs cs') :
    ∃ v',(∀ w,(part t cs' off).run P w = .ok v' w) ∧ V φ v v' := by
  unfold aelem at h
  cases hu : P.underlying t with
  | none => simp [hu] at h
  | some d =>
    rw [hu] at h
    have plain : (∀ w,(isAgg t).run P w = .ok false w) → cs[off]? = some v → ∃ v',(∀ w,(part t cs' off).run P w = .ok v' w) ∧ V φ v v' := fun hag hv => by
      obtain ⟨v',h1,h2⟩ := hc.get hv
      exact ⟨v',fun w => by simp [part,hag,h1],h2⟩
    have whole : (∀ w,(isAgg t).run P w = .ok true w) → (match P.info? t with | some i => some (Value.agg (cs.extract off (off + i.size))) | none => none) = some v →
        ∃ v',(∀ w,(part t cs' off).run P w = .ok v' w) ∧ V φ v v' := fun hag hv => by
      cases hi : P.info? t with
      | none => rw [hi] at hv; cases hv
      | some i =>
        rw [hi] at hv
        cases hv
        exact ⟨.agg (cs'.extract off (off + i.size)),fun w => by simp [part,hag,Go.sizeOf,Go.typeInfo,hi],.ofAgg (hc.extract _ _)⟩
    have hag : ∀ w,(isAgg t).run P w = .ok (match d with | .struct _ | .array _ _ => true | _ => false) w := fun w => by
      simp only [isAgg,Sem.run_bind,run_underlying hu,Result.andThen_ok]
      cases d <;> rfl
    cases d <;> first
      | exact whole hag h
      | exact plain hag h
def aeqFs (eq : TypeId → Value → Value → Option Bool) (P : Program) (xs ys : Array Value) : List Field → Option Bool
  | [] => some true
  | f :: fs => match f.name != "_" with
    | false => aeqFs eq P xs ys fs
    | true => match aelem P f.type xs f.offset,aelem P f.type ys f.offset with
      | some a,some b => match eq f.type a b with
        | some true => aeqFs eq P xs ys fs
        | some false => some false
        | none => none
      | _,_ => none
def aeqIs (eq : TypeId → Value → Value → Option Bool) (P : Program) (e : TypeId) (c : Nat) (xs ys : Array Value) : List Nat → Option Bool
  | [] => some true
  | i :: is => match aelem P e xs (i * c),aelem P e ys (i * c) with
    | some a,some b => match eq e a b with
      | some true => aeqIs eq P e c xs ys is
      | some false => some false
      | none => none
    | _,_ => none
def aeq (P : Program) : Nat → TypeId → Value → Value → Option Bool
  | 0,_,_,_ => none
  | k + 1,t,x,y => match P.underlying t,x,y with
    | some .bool,.bool a,.bool b => some (a == b)
    | some (.int _),.int j a,.int j' b => match decide (j = j') with
      | true => some (a == b)
      | false => none
    | some .string,.string a,.string b => some (a == b)
    | some (.pointer _),.pointer none,.pointer b => some b.isNone
    | some (.pointer _),.pointer (some _),.pointer none => some false
    | some (.slice _),.slice none _ _,.slice b _ _ => some b.isNone
    | some (.slice _),.slice (some _) _ _,.slice none _ _ => some false
    | some (.map _ _),.map none,.map b => some b.isNone
    | some (.map _ _),.map (some _),.map none => some false
    | some (.func _ _ _),.nilFunc,.nilFunc => some true
    | some (.func _ _ _),.nilFunc,.func _ _ _ => some false
    | some (.func _ _ _),.func _ _ _,.nilFunc => some false
    | some (.struct fs),.agg xs,.agg ys => match P.stoodInHeld t with
      | true => none
      | false => aeqFs (aeq P k) P xs ys fs.toList
    | some (.array n e),.agg xs,.agg ys => match P.info? e with
      | some i => aeqIs (aeq P k) P e i.size xs ys (List.range n)
      | none => none
    | _,_,_ => none
def EqOk (P : Program) (φ : Phi) (d : Nat) (eq : TypeId → Value → Value → Option Bool) : Prop :=
  ∀ t x y b,eq t x y = some b → ∀ x' y',V φ x x' → V φ y y' → ∀ w,(Op.equalIn d t x' y').run P w = .ok b w
theorem aeqFs_run {φ : Phi} {d : Nat} {eq : TypeId → Value → Value → Option Bool} (he : EqOk P φ d eq) {xs ys xs' ys' : Array Value} (hx : AR φ xs xs') (hy : AR φ ys ys') :
    ∀ (fs : List Field) (b : Bool),aeqFs eq P xs ys fs = some b → ∀ w,(Op.eqFields d xs' ys' fs).run P w = .ok b w
  | [],b,h,w => by simp [aeqFs] at h; subst h; simp [Op.eqFields]
  | f :: fs,b,h,w => by
    simp only [aeqFs] at h
    cases hn : (f.name != "_") with
    | false =>
      rw [hn] at h
      have hn' : ¬ f.name ≠ "_" := by simpa [bne] using hn
      simp only [Op.eqFields,hn',if_false]
      exact aeqFs_run he hx hy fs b h w
    | true =>
      rw [hn] at h
      have hn' : f.name ≠ "_" := by simpa [bne] using hn
      simp only [Op.eqFields,if_pos hn']
      simp only at h
      split at h
      · rename_i a c ha hc
        obtain ⟨a',k1,k2⟩ := aelem_run ha hx
        obtain ⟨c',k3,k4⟩ := aelem_run hc hy
        simp only [Sem.run_bind,k1,k3,Result.andThen_ok]
        split at h
        · rename_i hq
          rw [he _ _ _ _ hq _ _ k2 k4]
          simpa using aeqFs_run he hx hy fs b h w
        · rename_i hq
          rw [he _ _ _ _ hq _ _ k2 k4]
          cases h
          simp
        · cases h
      · cases h
theorem aeqIs_run {φ : Phi} {d : Nat} {eq : TypeId → Value → Value → Option Bool} (he : EqOk P φ d eq) {e : TypeId} {c : Nat} {xs ys xs' ys' : Array Value} (hx : AR φ xs xs') (hy : AR φ ys ys') :
    ∀ (is : List Nat) (b : Bool),aeqIs eq P e c xs ys is = some b → ∀ w,(Op.eqItems d e c xs' ys' is).run P w = .ok b w
  | [],b,h,w => by simp [aeqIs] at h; subst h; simp [Op.eqItems]
  | i :: is,b,h,w => by
    simp only [aeqIs] at h
    split at h
    · rename_i a c ha hc
      obtain ⟨a',k1,k2⟩ := aelem_run ha hx
      obtain ⟨c',k3,k4⟩ := aelem_run hc hy
      simp only [Op.eqItems,Sem.run_bind,k1,k3,Result.andThen_ok]
      split at h
      · rename_i hq
        rw [he _ _ _ _ hq _ _ k2 k4]
        simpa using aeqIs_run he hx hy is b h w
      · rename_i hq
        rw [he _ _ _ _ hq _ _ k2 k4]
        cases h
        simp
      · cases h
    · cases h
set_option maxHeartbeats 1000000 in
theorem aeq_run {φ : Phi} (m : Nat) : ∀ k,EqOk P φ (m + k) (aeq P k)
  | 0 => fun t x y b h => by simp [aeq] at h
  | k + 1 => fun t x y b h x' y' hx hy w => by
    have ih := aeq_run (φ := φ) m k
    show (Op.equalIn ((m + k) + 1) t x' y').run P w = .ok b w
    simp only [aeq] at h
    split at h
    all_goals (try (rename_i hu))
    case h_1 => cases hx; cases hy; cases h; simp [Op.equalIn,run_underlying hu]
    case h_2 =>
      cases hx; cases hy
      split at h
      · rename_i hj
        cases h
        simp at hj
        simp [Op.equalIn,run_underlying hu,hj]
      · cases h
    case h_3 => cases hx; cases hy; cases h; simp [Op.equalIn,run_underlying hu]
    case h_4 => cases hx; cases hy <;> cases h <;> simp [Op.equalIn,run_underlying hu]
    case h_5 => cases hx; cases hy; cases h; simp [Op.equalIn,run_underlying hu]
    case h_6 => cases hx; cases hy <;> cases h <;> simp [Op.equalIn,run_underlying hu]
    case h_7 => cases hx <;> cases hy <;> cases h <;> simp [Op.equalIn,run_underlying hu]
    case h_8 => cases hx; cases hy <;> cases h <;> simp [Op.equalIn,run_underlying hu]
    case h_9 => cases hx; cases hy; cases h; simp [Op.equalIn,run_underlying hu]
    case h_10 => cases hx; cases hy; cases h; simp [Op.equalIn,run_underlying hu]
    case h_11 => cases hx; cases hy <;> cases h <;> simp [Op.equalIn,run_underlying hu]
    case h_12 => cases hy; cases hx <;> cases h <;> simp [Op.equalIn,run_underlying hu]
    case h_13 fs xs ys =>
      split at h
      · cases h
      · rename_i hsi
        cases hx with
        | agg a1 a2 =>
          cases hy with
          | agg b1 b2 =>
            have hfs : P.fieldsOf t = fs := by simp [Program.fieldsOf,hu]
            rw [run_equalIn_struct w (m + k) t _ _ (by rw [hfs]; exact hu) hsi,hfs]
            exact aeqFs_run ih ⟨a1,a2⟩ ⟨b1,b2⟩ _ _ h w
    case h_14 n e xs ys =>
      split at h
      · rename_i i hi
        cases hx with
        | agg a1 a2 =>
          cases hy with
          | agg b1 b2 =>
            rw [run_equalIn_array w (m + k) _ _ hu hi]
            have hcs : P.cellsOf e = i.size := by simp [Program.cellsOf,hi]
            rw [hcs]
            exact aeqIs_run ih ⟨a1,a2⟩ ⟨b1,b2⟩ _ _ h w
      · cases h
    case h_15 => cases h
def deep : Nat := 8
theorem aeq_equal {φ : Phi} {t : TypeId} {x y x' y' : Value} {b : Bool} (h : aeq P deep t x y = some b) (hx : V φ x x') (hy : V φ y y') (w : World) : (Op.equal t x' y').run P w = .ok b w :=
  aeq_run (m := 9992) deep t x y b h x' y' hx hy w
end
end
end Go.Proofs.Ytdaljohmfnfgiaa.Canon

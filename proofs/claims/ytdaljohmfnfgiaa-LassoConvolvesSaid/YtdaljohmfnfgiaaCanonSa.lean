/- What the proof of this claim is made of. No condition. -/
import Derived.Test.YtdaljohmfnfgiaaCanonS
namespace Go.Proofs.Ytdaljohmfnfgiaa.Canon
open Go Go.RowKit
noncomputable section
theorem bq {n m : Nat} : Nat.beq n m = true ↔ n = m := ⟨Nat.eq_of_beq_eq_true,fun h => by subst h; exact Nat.beq_refl n⟩
theorem bqf {n m : Nat} : Nat.beq n m = false ↔ n ≠ m := by
  rw [← Bool.not_eq_true,bq]
theorem blt_iff {n m : Nat} : Nat.blt n m = true ↔ n < m := by rw [Nat.blt_eq]
theorem ble_iff {n m : Nat} : Nat.ble n m = true ↔ n ≤ m := ⟨Nat.le_of_ble_eq_true,Nat.ble_eq_true_of_le⟩
theorem bool_of {b : Bool} {p : Prop} [Decidable p] (h : b = true ↔ p) : b = decide p := by
  cases b with
  | true => exact (decide_eq_true (h.1 rfl)).symm
  | false => exact (decide_eq_false (fun hp => by cases h.2 hp)).symm
def nthR {α : Type} (l : List α) : Nat → Option α := List.rec (motive := fun _ => Nat → Option α) (fun _ => none) (fun x _ ih n => Nat.rec (motive := fun _ => Option α) (some x) (fun m _ => ih m) n) l
theorem nthR_eq {α : Type} : ∀ (l : List α) (n : Nat),nthR l n = l[n]?
  | [],_ => rfl
  | _ :: _,0 => rfl
  | x :: l,n + 1 => by
    have : nthR (x :: l) (n + 1) = nthR l n := rfl
    rw [this,nthR_eq l n]; simp
theorem nthR_arr {α : Type} (xs : Array α) (n : Nat) : nthR xs.toList n = xs[n]? := by rw [nthR_eq]; simp
def setR {α : Type} (l : List α) (v : α) : Nat → List α := List.rec (motive := fun _ => Nat → List α) (fun _ => []) (fun x l ih n => Nat.rec (motive := fun _ => List α) (v :: l) (fun m _ => x :: ih m) n) l
theorem setR_eq {α : Type} (v : α) : ∀ (l : List α) (n : Nat),setR l v n = l.set n v
  | [],_ => rfl
  | _ :: _,0 => rfl
  | x :: l,n + 1 => by
    have : setR (x :: l) v (n + 1) = x :: setR l v n := rfl
    rw [this,setR_eq v l n]; simp
def dropR {α : Type} (n : Nat) (l : List α) : List α := Nat.rec (motive := fun _ => List α → List α) (fun l => l) (fun _ ih l => List.rec (motive := fun _ => List α) [] (fun _ l _ => ih l) l) n l
theorem dropR_eq {α : Type} : ∀ (n : Nat) (l : List α),dropR n l = l.drop n
  | 0,_ => rfl
  | n + 1,[] => by simp [dropR]
  | n + 1,_ :: l => by
    have := dropR_eq n l
    simpa [dropR] using this
def takeR {α : Type} (n : Nat) (l : List α) : Option (List α) := Nat.rec (motive := fun _ => List α → Option (List α)) (fun _ => some []) (fun _ ih l => match l with
  | [] => none
  | x :: l => match ih l with
    | some r => some (x :: r)
    | none => none) n l
theorem takeR_eq {α : Type} : ∀ (n : Nat) (l r : List α),takeR n l = some r → r.length = n ∧ ∀ i,i < n → l[i]? = r[i]?
  | 0,l,r,h => by cases h; exact ⟨rfl,fun i h => absurd h (Nat.not_lt_zero _)⟩
  | n + 1,l,r,h => by
    cases l with
    | nil => cases h
    | cons x l =>
      have h : (match takeR n l with | some r => some (x :: r) | none => none) = some r := h
      split at h
      · rename_i r' hr
        cases h
        obtain ⟨h1,h2⟩ := takeR_eq n l r' hr
        refine ⟨by simp [h1],fun i hi => ?_⟩
        cases i with
        | zero => rfl
        | succ i => simpa using h2 i (by omega)
      · cases h
def lenR {α : Type} (l : List α) : Nat := List.rec (motive := fun _ => Nat) 0 (fun _ _ n => Nat.succ n) l
theorem lenR_eq {α : Type} : ∀ l : List α,lenR l = l.length
  | [] => rfl
  | _ :: l => by
    have : lenR (l.head?.toList ++ l) = lenR (l.head?.toList ++ l) := rfl
    show Nat.succ (lenR l) = _
    rw [lenR_eq l]; rfl
def overR {α : Type} (vs : List α) : List α → List α := List.rec (motive := fun _ => List α → List α) (fun l => l) (fun v _ ih l => List.rec (motive := fun _ => List α) [] (fun _ l _ => v :: ih l) l) vs
def zCZ {α : Type} (n : Nat) (vs : List α) (l : List α) : List α := Nat.rec (motive := fun _ => List α → List α) (overR vs) (fun _ ih l => List.rec (motive := fun _ => List α) [] (fun x l _ => x :: ih l) l) n l
theorem overR_get {α : Type} : ∀ (vs l : List α),vs.length ≤ l.length → (overR vs l).length = l.length ∧ ∀ i,(overR vs l)[i]? = if i < vs.length then vs[i]? else l[i]?
  | [],l,_ => ⟨rfl,fun i => by simp [overR]⟩
  | v :: vs,[],h => by simp at h
  | v :: vs,x :: l,h => by
    have e : overR (v :: vs) (x :: l) = v :: overR vs l := rfl
    obtain ⟨h1,h2⟩ := overR_get vs l (by simpa using h)
    refine ⟨by rw [e]; simp [h1],fun i => ?_⟩
    rw [e]
    cases i with
    | zero => simp
    | succ i => simp [h2 i]
theorem zBA {α : Type} (vs : List α) : ∀ (n : Nat) (l : List α),n + vs.length ≤ l.length → (zCZ n vs l).length = l.length ∧ ∀ i,(zCZ n vs l)[i]? = if n ≤ i ∧ i < n + vs.length then vs[i - n]? else l[i]?
  | 0,l,h => by
    obtain ⟨h1,h2⟩ := overR_get vs l (by omega)
    refine ⟨h1,fun i => ?_⟩
    have := h2 i
    simp only [Nat.zero_le,true_and,Nat.zero_add,Nat.sub_zero]
    exact this
  | n + 1,[],h => by simp at h
  | n + 1,x :: l,h => by
    have e : zCZ (n + 1) vs (x :: l) = x :: zCZ n vs l := rfl
    obtain ⟨h1,h2⟩ := zBA vs n l (by simp at h; omega)
    refine ⟨by rw [e]; simp [h1],fun i => ?_⟩
    rw [e]
    cases i with
    | zero => simp
    | succ i =>
      simp only [List.getElem?_cons_succ,h2 i]
      by_cases hc : n ≤ i ∧ i < n + vs.length
      · rw [if_pos hc,if_pos (by omega)]; congr 1; omega
      · rw [if_neg hc,if_neg (by omega)]
theorem foldl_set {α : Type} (off : Nat) : ∀ (l : List α) (j : Nat) (cs : Array α),off + j + l.length ≤ cs.size →
    ((l.zipIdx j).foldl (fun cs p => cs.setIfInBounds (off + p.2) p.1) cs).size = cs.size ∧
    ∀ i,((l.zipIdx j).foldl (fun cs p => cs.setIfInBounds (off + p.2) p.1) cs)[i]? = if off + j ≤ i ∧ i < off + j + l.length then l[i - (off + j)]? else cs[i]?
  | [],j,cs,_ => ⟨rfl,fun i => by
      simp only [List.zipIdx_nil,List.foldl_nil,List.length_nil,Nat.add_zero]
      rw [if_neg (by omega)]⟩
  | x :: l,j,cs,h => by
    simp only [List.length_cons] at h
    simp only [List.zipIdx_cons,List.foldl_cons,List.length_cons]
    obtain ⟨h1,h2⟩ := foldl_set off l (j + 1) (cs.setIfInBounds (off + j) x) (by simp; omega)
    refine ⟨by rw [h1]; simp,fun i => ?_⟩
    rw [h2 i]
    by_cases hc : off + (j + 1) ≤ i ∧ i < off + (j + 1) + l.length
    · rw [if_pos hc,if_pos (by omega)]
      obtain ⟨d,rfl⟩ : ∃ d,i = off + (j + 1) + d := ⟨i - (off + (j + 1)),by omega⟩
      rw [show off + (j + 1) + d - (off + (j + 1)) = d by omega,show off + (j + 1) + d - (off + j) = d + 1 by omega]
      simp
    · rw [if_neg hc]
      by_cases hi : i = off + j
      · subst hi
        rw [if_pos (by omega)]
        simp [show off + j < cs.size by omega]
      · rw [if_neg (by omega),Array.getElem?_setIfInBounds,if_neg (by omega)]
theorem foldl_splice {off : Nat} {vs cs : Array Value} (h : off + vs.size ≤ cs.size) :
    vs.zipIdx.foldl (fun cs (c,j) => cs.setIfInBounds (off + j) c) cs = ⟨zCZ off vs.toList cs.toList⟩ := by
  obtain ⟨h1,h2⟩ := foldl_set off vs.toList 0 cs (by simpa using h)
  obtain ⟨k1,k2⟩ := zBA vs.toList off cs.toList (by simpa using h)
  rw [← Array.foldl_toList,Array.toList_zipIdx]
  refine Array.ext_getElem? fun i => ?_
  have := h2 i
  simp only [Nat.add_zero] at this
  rw [this]
  simp only [List.getElem?_toArray,k2 i,Array.getElem?_toList]
inductive BI where
  | no
  | mk (pl : Nat → Option (Nat × Nat)) (n : Nat) (z : List Value)
variable (P : Program)
def fillR (pl : Nat → Option (Nat × Nat)) (n : Nat) (ρ : Operand → Value) (ps : List (Nat × Operand)) : List Value → Option (List Value) := List.rec (motive := fun _ => List Value → Option (List Value)) some (fun p _ ih cs => match p with
  | (i,x) => match pl i with
    | some q => match q with
      | (off,size) => match Nat.beq (lenR (ρ x).cells.toList) size,Nat.ble (off + size) n with
        | true,true => ih (zCZ off (ρ x).cells.toList cs)
        | _,_ => none
    | none => none) ps
def sof (t : TypeId) (n : Nat) : BI := match P.underlying t with
  | some (.slice e) => match P.info? e,zCG P e with
    | some i,some z => match Nat.ble (n * i.size) 16777216 with
      | true => match Nat.beq (n * i.size) 0 with
        | true => .mk (fun k => some (k * i.size,i.size)) 0 []
        | false => match ((Array.range (n * i.size)).map (z.cells[· % z.cells.size]!)).toList with
          | l => .mk (fun k => some (k * i.size,i.size)) (lenR l) l
      | false => .no
    | _,_ => .no
  | _ => .no
def elemT (t : TypeId) : Option TypeId := match P.underlying t with
  | some (.slice e) => some e
  | _ => none
def xnum (v : Value) : Option Nat := match v with
  | .int _ j => match j with
    | .ofNat j => some j
    | .negSucc _ => none
  | _ => none
variable {P}
theorem map_parts (ρ : Operand → Value) (ps : Array (Nat × Operand)) : (ps.map fun (i,x) => (i,ρ x)).toList = ps.toList.map fun (i,x) => (i,ρ x) := by simp
theorem fillR_ok {pl : Nat → Option (Nat × Nat)} {n : Nat} {ρ : Operand → Value} : ∀ {ps : List (Nat × Operand)} {cs r : List Value},cs.length = n → fillR pl n ρ ps cs = some r →
    Instr.fill pl ⟨cs⟩ (ps.map fun (i,x) => (i,ρ x)) = some ⟨r⟩ := by
  intro ps
  induction ps with
  | nil => intro cs r _ h; cases h; rfl
  | cons p ps ih =>
    intro cs r hl h
    obtain ⟨i,x⟩ := p
    have h : (match pl i with
      | some q => match q with
        | (off,size) => match Nat.beq (lenR (ρ x).cells.toList) size,Nat.ble (off + size) n with
          | true,true => fillR pl n ρ ps (zCZ off (ρ x).cells.toList cs)
          | _,_ => none
      | none => none) = some r := h
    split at h
    · rename_i q hq
      obtain ⟨off,size⟩ := q
      simp only at h
      split at h
      · rename_i hb hle
        rw [bq,lenR_eq] at hb
        have hle := ble_iff.1 hle
        have hsz : (ρ x).cells.size = size := by rw [← hb]; simp
        simp only [List.map_cons,Instr.fill,hq]
        have hc : ¬ ((ρ x).cells.size ≠ size || off + (ρ x).cells.size > (⟨cs⟩ : Array Value).size) = true := by
          simp [hsz,hl]; omega
        simp only [hc,if_false,Bool.false_eq_true]
        rw [foldl_splice (by simp [hsz,hl]; omega)]
        refine ih ?_ h
        rw [(zBA _ _ _ (by simp [hsz,hl]; omega)).1,hl]
      · cases h
    · cases h
theorem LR.splice {φ : Phi} {vs vs' l l' : List Value} (hv : LR φ vs vs') (hl : LR φ l l') {n : Nat} (h : n + vs.length ≤ l.length) : LR φ (zCZ n vs l) (zCZ n vs' l') := by
  have h' : n + vs'.length ≤ l'.length := by rw [← hv.get.1,← hl.get.1]; exact h
  obtain ⟨a1,a2⟩ := zBA vs n l h
  obtain ⟨b1,b2⟩ := zBA vs' n l' h'
  refine LR.of_get (by rw [a1,b1,hl.get.1]) fun i v hi => ?_
  rw [a2 i] at hi
  rw [b2 i,← hv.get.1]
  split at hi
  · rename_i hc; rw [if_pos hc]; exact hv.get.2 _ _ hi
  · rename_i hc; rw [if_neg hc]; exact hl.get.2 _ _ hi
theorem fillR_rel {φ : Phi} {ρ ρ' : Operand → Value} {pl : Nat → Option (Nat × Nat)} {n : Nat} : ∀ {ps : List (Nat × Operand)} {cs cs' r : List Value},(∀ p ∈ ps,V φ (ρ p.2) (ρ' p.2)) → LR φ cs cs' → cs.length = n → fillR pl n ρ ps cs = some r →
    ∃ r',fillR pl n ρ' ps cs' = some r' ∧ LR φ r r' := by
  intro ps
  induction ps with
  | nil => intro cs cs' r _ hl _ h; cases h; exact ⟨cs',rfl,hl⟩
  | cons p ps ih =>
    intro cs cs' r hv hl hn h
    obtain ⟨i,x⟩ := p
    have h : (match pl i with
      | some q => match q with
        | (off,size) => match Nat.beq (lenR (ρ x).cells.toList) size,Nat.ble (off + size) n with
          | true,true => fillR pl n ρ ps (zCZ off (ρ x).cells.toList cs)
          | _,_ => none
      | none => none) = some r := h
    split at h
    · rename_i q hq
      obtain ⟨off,size⟩ := q
      simp only at h
      split at h
      · rename_i hb hle
        have hx := (hv (i,x) (by simp)).cells.list
        have hle' := ble_iff.1 hle
        have hb' := hb
        rw [bq,lenR_eq] at hb'
        have hs := LR.splice hx hl (n := off) (by rw [hb',hn]; exact hle')
        obtain ⟨r',h1,h2⟩ := ih (fun p hp => hv p (by simp [hp])) hs (by rw [(zBA _ _ _ (by rw [hb',hn]; exact hle')).1,hn]) h
        refine ⟨r',?_,h2⟩
        show (match pl i with
          | some q => match q with
            | (off,size) => match Nat.beq (lenR (ρ' x).cells.toList) size,Nat.ble (off + size) n with
              | true,true => fillR pl n ρ' ps (zCZ off (ρ' x).cells.toList cs')
              | _,_ => none
          | none => none) = some r'
        have e : Nat.beq (lenR (ρ' x).cells.toList) size = true := by
          rw [bq,lenR_eq,← hx.get.1]; exact hb'
        rw [hq]
        simp only [e,hle]
        exact h1
      · cases h
    · cases h
theorem fillR_congr {ρ ρ' : Operand → Value} {pl : Nat → Option (Nat × Nat)} {n : Nat} : ∀ {ps : List (Nat × Operand)} {cs : List Value},(∀ p ∈ ps,ρ p.2 = ρ' p.2) → fillR pl n ρ ps cs = fillR pl n ρ' ps cs := by
  intro ps
  induction ps with
  | nil => intro cs _; rfl
  | cons p ps ih =>
    intro cs h
    obtain ⟨i,x⟩ := p
    show (match pl i with
      | some q => match q with
        | (off,size) => match Nat.beq (lenR (ρ x).cells.toList) size,Nat.ble (off + size) n with
          | true,true => fillR pl n ρ ps (zCZ off (ρ x).cells.toList cs)
          | _,_ => none
      | none => none) = (match pl i with
      | some q => match q with
        | (off,size) => match Nat.beq (lenR (ρ' x).cells.toList) size,Nat.ble (off + size) n with
          | true,true => fillR pl n ρ' ps (zCZ off (ρ' x).cells.toList cs)
          | _,_ => none
      | none => none)
    have hx : ρ x = ρ' x := h (i,x) (by simp)
    rw [hx]
    cases pl i with
    | none => rfl
    | some q =>
      obtain ⟨off,size⟩ := q
      simp only
      split
      · exact ih fun p hp => h p (by simp [hp])
      · rfl
end
end Go.Proofs.Ytdaljohmfnfgiaa.Canon

/- What the proof of this claim is made of. No condition. -/
import Derived.Test.YtdaljohmfnfgiaaCanonG
import Derived.Deep.AppendSrc
import Derived.Laws.AppendOwn
namespace Go.Proofs.Ytdaljohmfnfgiaa.Canon
open Go Go.RowKit
noncomputable section
section
variable {P : Program}
def dropQ {α : Type} (n : Nat) (l : List α) : List α := Nat.rec (motive := fun _ => List α → List α) (fun l => l) (fun _ ih l => List.rec (motive := fun _ => List α) [] (fun _ l _ => ih l) l) n l
theorem dropQ_eq {α : Type} : ∀ (n : Nat) (l : List α),dropQ n l = l.drop n
  | 0,_ => rfl
  | _ + 1,[] => rfl
  | n + 1,_ :: l => dropQ_eq n l
def takeQ {α : Type} (n : Nat) (l : List α) : List α := Nat.rec (motive := fun _ => List α → List α) (fun _ => []) (fun _ ih l => List.rec (motive := fun _ => List α) [] (fun x l _ => x :: ih l) l) n l
theorem takeQ_eq {α : Type} : ∀ (n : Nat) (l : List α),takeQ n l = l.take n
  | 0,_ => rfl
  | _ + 1,[] => rfl
  | n + 1,x :: l => by
    show x :: takeQ n l = _
    rw [takeQ_eq n l]
    rfl
theorem rowQ_eq (c : Array Value) (o n : Nat) : takeQ n (dropQ o c.toList) = (c.extract o (o + n)).toList := by
  rw [takeQ_eq,dropQ_eq,Array.toList_extract,List.extract_eq_take_drop]
  simp
def arow (A : AHeap) (a : Addr) : Nat → Option (List Value)
  | 0 => some []
  | n + 1 => match a.spot,look A.objs a.block with
    | none,some ⟨.cells c _ _,g,z⟩ => match Nat.ble (a.off + (n + 1)) c.size with
      | true => match isRO g z with
        | false => some (takeQ (n + 1) (dropQ a.off c.toList))
        | true => match (takeQ (n + 1) (dropQ a.off c.toList)).all (roV z) with
          | true => some (takeQ (n + 1) (dropQ a.off c.toList))
          | false => none
      | false => none
    | _,_ => none
theorem arow_run {N : Kp} {φ : Phi} {A : AHeap} {w : World} (hs : Sim N φ A w) {a : Addr} {e : Ent} (he : φ a.block = some e) {n : Nat} {l : List Value} (h : arow A a n = some l) :
    l.length = n ∧ ∃ l',LR φ l l' ∧ (n ≠ 0 → a.spot = none) ∧ (∀ (j : Nat) (v : Value),l'[j]? = some v → w.cell? ⟨e.blk,e.off + a.off + j,none⟩ = some v) := by
  cases n with
  | zero => simp [arow] at h; subst h; exact ⟨rfl,[],.nil,fun h => absurd rfl h,fun j v h => by simp at h⟩
  | succ n =>
    simp only [arow] at h
    split at h
    · rename_i c t z g s hsp hl
      split at h
      · rename_i hble
        have hle : a.off + (n + 1) ≤ c.size := Nat.le_of_ble_eq_true hble
        rw [rowQ_eq] at h
        obtain ⟨e',he',hg,hz,hat⟩ := hs.alive _ _ hl
        rw [he] at he'; cases he'
        simp only at hg hz
        cases hr : isRO g s with
        | false =>
          rw [hr] at h
          simp only at h
          cases h
          rw [zCH.row (by rw [hg,hz]; exact hr)] at hat
          obtain ⟨hf,c',t',z',h1,h2,h3,h4,h5,_⟩ := hat
          refine ⟨by simp; omega,(c'.extract (e.off + a.off) (e.off + a.off + (n + 1))).toList,?_,fun _ => hsp,fun j v hv => ?_⟩
          · refine LR.of_get (by simp; omega) fun i v hv => ?_
            simp only [Array.getElem?_toList,Array.getElem?_extract] at hv ⊢
            split at hv
            · rename_i hi
              obtain ⟨v',k1,k2⟩ := h4 _ _ hv
              refine ⟨v',?_,k2⟩
              rw [if_pos (by omega),← k1]
              congr 1
              omega
            · cases hv
          · simp only [Array.getElem?_toList,Array.getElem?_extract] at hv
            split at hv
            · simp only [World.cell?,h1]
              simpa using hv
            · cases hv
        | true =>
          rw [hr] at h
          simp only at h
          split at h
          · rename_i hall
            cases h
            rw [zCH.ro (by rw [hg,hz]; exact hr)] at hat
            obtain ⟨h0,h1,h2⟩ := hat
            rw [List.all_eq_true] at hall
            refine ⟨by simp; omega,(c.extract a.off (a.off + (n + 1))).toList,?_,fun _ => hsp,fun j v hv => ?_⟩
            · refine LR.of_get rfl fun i v hv => ⟨v,hv,?_⟩
              have hq := hall v (List.mem_of_getElem? hv)
              simp only [Array.getElem?_toList,Array.getElem?_extract] at hv
              split at hv
              · exact h2 _ _ hv (by rw [hz]; exact hq)
              · cases hv
            · simp only [Array.getElem?_toList,Array.getElem?_extract] at hv
              split at hv
              · simp only [World.cell?,h1,h0]
                simpa using hv
              · cases hv
          · cases h
      · cases h
    · cases h
def asets (A : AHeap) (a : Addr) : List Value → Option AHeap
  | [] => some A
  | v :: l => match A.set a v with
    | some A' => asets A' { a with off := a.off + 1 } l
    | none => none
theorem asets_run {N : Kp} {φ : Phi} {l l' : List Value} (hl : LR φ l l') : ∀ {A A' : AHeap} {w : World} {a : Addr} {e : Ent},Sim N φ A w → φ a.block = some e → a.spot = none → asets A a l = some A' →
    Sim N φ A' (w.setCells e.blk (e.off + a.off) l') ∧ Kept N w (w.setCells e.blk (e.off + a.off) l') ∧
      (∀ j,j < l'.length → (w.cell? ⟨e.blk,e.off + a.off + j,none⟩).isSome = true) ∧ (∀ j,j < l'.length → w.frozen? ⟨e.blk,e.off + a.off + j,none⟩ = false) ∧ ∀ v ∈ l',v.oneCell' = true := by
  induction hl with
  | nil =>
    intro A A' w a e hs he hsp h
    simp only [asets,zOi] at h
    subst h
    exact ⟨hs,Kept.refl _ _,fun j h => by simp at h,fun j h => by simp at h,fun v h => by simp at h⟩
  | @cons v v' l l' hv _ ih =>
    intro A A' w a e hs he hsp h
    simp only [asets] at h
    split at h
    · rename_i A1 hA
      have ha : AddrR φ a ⟨e.blk,e.off + a.off,none⟩ := ⟨hsp,e,he,rfl⟩
      obtain ⟨⟨u,h1⟩,h2,h3,h4,h5⟩ := hs.store ha hv hA
      obtain ⟨k1,k2,k3,k4,k5⟩ := ih (a := { a with off := a.off + 1 }) h3 he hsp h
      have hone : v'.oneCell' = true := by cases hv <;> first | rfl | assumption | (simp [zBY] at h5)
      have e1 : e.off + (a.off + 1) = e.off + a.off + 1 := by omega
      simp only [e1] at k1 k2 k3 k4
      refine ⟨k1,h4.trans k2,fun j hj => ?_,fun j hj => ?_,fun x hx => ?_⟩
      · cases j with
        | zero => simp [h1]
        | succ j =>
          have := k3 j (by simpa using hj)
          rw [show e.off + a.off + 1 + j = e.off + a.off + (j + 1) from by omega] at this
          rwa [World.cell?_setCell_other _ _ _ _ (by simp)] at this
      · cases j with
        | zero => simpa using h2
        | succ j =>
          have := k4 j (by simpa using hj)
          rw [show e.off + a.off + 1 + j = e.off + a.off + (j + 1) from by omega] at this
          simpa using this
      · rcases List.mem_cons.1 hx with rfl | hx
        · exact hone
        · exact k5 x hx
    · cases h
def asrc (P : Program) (size : Nat) (tx : TypeId) (x : Value) (A : AHeap) : Option (Nat × List Value) :=
  match P.underlying tx,x with
  | some (.slice _),.slice none 0 _ => some (0,[])
  | some (.slice _),.slice (some a) n _ => match arow A a (n * size) with
    | some l => match l.all zBY with
      | true => some (n,l)
      | false => none
    | none => none
  | some .string,.string s => match Nat.beq size 1 with
    | true => some (s.size,byteCells s)
    | false => none
  | _,_ => none
theorem isCell_one {φ : Phi} {v v' : Value} (h : zBY v = true) (hv : V φ v v') : v'.oneCell' = true := by
  cases hv <;> first | rfl | assumption | (simp [zBY] at h)
theorem LR.one {φ : Phi} {l l' : List Value} (hl : LR φ l l') : l.all zBY = true → ∀ v ∈ l',v.oneCell' = true := by
  induction hl with
  | nil => intro _ v h; simp at h
  | cons hv _ ih =>
    intro h v hm
    simp only [List.all_cons,Bool.and_eq_true] at h
    rcases List.mem_cons.1 hm with rfl | hm
    · exact isCell_one h.1 hv
    · exact ih h.2 v hm
theorem LR.refl_bytes (φ : Phi) (s : ByteArray) : LR φ (byteCells s) (byteCells s) := by
  unfold byteCells
  generalize s.data.toList = l
  induction l with
  | nil => exact .nil
  | cons b l ih => exact .cons (.int _ _) ih
theorem asrc_run {N : Kp} {φ : Phi} {A : AHeap} {w : World} (hs : Sim N φ A w) {size : Nat} {tx : TypeId} {x x' : Value} (hx : V φ x x') {n : Nat} {l : List Value} (h : asrc P size tx x A = some (n,l)) :
    ∃ l',LR φ l l' ∧ Src P size tx x' n l' w := by
  unfold asrc at h
  split at h
  · rename_i e c hu
    cases h
    cases hx
    exact ⟨[],.nil,.ofNil w hu _⟩
  · rename_i e a m c hu
    split at h
    · rename_i l1 hr
      split at h
      · rename_i hall
        cases h
        cases hx with
        | slice he hc =>
          obtain ⟨k1,l',k2,k3,k4⟩ := arow_run hs he hr
          refine ⟨l',k2,.ofSlice w hu _ _ _ l' (by rw [← k2.get.1,k1]) (fun j u hj => ?_) (k2.one hall)⟩
          simpa [Addr.add_lit] using k4 j u hj
        | sliceE b o s a =>
          simp [arow] at hr
          subst hr
          exact ⟨[],.nil,.ofSlice w hu _ _ _ [] (by simp) (fun j u hj => by simp at hj) (fun u hu => by simp at hu)⟩
        | @sliceZ b o s o' c' e he hg hxx =>
          simp [arow] at hr
          subst hr
          exact ⟨[],.nil,.ofSlice w hu _ _ _ [] (by simp) (fun j u hj => by simp at hj) (fun u hu => by simp at hu)⟩
      · cases h
    · cases h
  · rename_i s hu
    split at h
    · rename_i hb
      cases h
      cases hx
      have : size = 1 := Nat.eq_of_beq_eq_true hb
      subst this
      exact ⟨_,.refl_bytes φ s,.ofString w hu s⟩
    · cases h
  · cases h
theorem heap_setCells_same (b : Nat) : ∀ (vs : List Value) (o : Nat) (w : World) (c : Array Value) (t : TypeId) (z : Nat × Nat),w.heap[b]? = some (.cells c t z) →
    ∃ c',(w.setCells b o vs).heap[b]? = some (.cells c' t z) ∧ c'.size = c.size
  | [],_,w,c,t,z,h => ⟨c,h,rfl⟩
  | v :: vs,o,w,c,t,z,h => by
    obtain ⟨c',h1,h2⟩ := heap_setCells_same b vs (o + 1) _ _ t z (heap_setCell_same w ⟨b,o,none⟩ v h rfl)
    exact ⟨c',h1,by rw [h2]; simp⟩
theorem size_setCells (b : Nat) : ∀ (vs : List Value) (o : Nat) (w : World),(w.setCells b o vs).heap.size = w.heap.size
  | [],_,_ => rfl
  | v :: vs,o,w => by rw [World.setCells,size_setCells b vs]; simp [World.setCell]
theorem below_setCells {N : Kp} {b : Nat} (hb : ¬ N.blk b) : ∀ (vs : List Value) (o : Nat) (w : World),Kept N w (w.setCells b o vs)
  | [],_,_ => Kept.refl _ _
  | v :: vs,o,w => ((Kept.refl N w).setCell (p := ⟨b,o,none⟩) hb v).trans (below_setCells hb vs (o + 1) _)
theorem heap_setCells_other (b : Nat) : ∀ (vs : List Value) (o : Nat) (w : World) (k : Nat),k ≠ b → (w.setCells b o vs).heap[k]? = w.heap[k]?
  | [],_,_,_,_ => rfl
  | v :: vs,o,w,k,h => by rw [World.setCells,heap_setCells_other b vs _ _ k h]; exact Below.heap_setCell _ _ _ _ h
def giveUp (A : AHeap) (a : Addr) (c : Nat) : Tr AObj := match look A.objs a.block with
  | some ⟨_,true,_⟩ => match a.spot,c with
    | none,0 => A.objs
    | _,_ => dropO A.objs a.block
  | _ => A.objs
def goodBase (A : AHeap) (a : Addr) (size : Nat) : Bool := match look A.objs a.block with
  | some ⟨_,false,_⟩ => true
  | some ⟨.cells _ _ _,true,z⟩ => Nat.beq z size
  | _ => false
def aapp (P : Program) (ats : Array TypeId) (xs : Array Value) (A : AHeap) : Option (Value × AHeap) :=
  match ats.toList,xs.toList with
  | [st,tx],[.slice base sLen sCap,x] => match P.underlying st with
    | some (.slice e) => match P.info? e,zok P e with
      | some i,true => match i.zero,asrc P i.size tx x A with
        | some z,some (n,news) => match Nat.ble (sLen + n) sCap with
          | true => match base with
            | none => some (.slice none (sLen + n) sCap,A)
            | some a => match a.spot with
              | none => (asets A (a.add (sLen * i.size)) news).map fun A' => (.slice (some a) (sLen + n) sCap,A')
              | some _ => some (.slice (some a) (sLen + n) sCap,A)
          | false => match Nat.ble ((sLen + n) * i.bytes) 140737488355328,Nat.ble (sLen + n) 4611686018427387904,Nat.beq z.cells.size i.size with
            | true,true,true => match base with
              | none => match Nat.beq sLen 0 with
                | true => some (.slice (some ⟨A.next,0,none⟩) n n,⟨A.next + 1,zDU A.next ⟨.cells news.toArray e,true,i.size⟩ A.objs⟩)
                | false => none
              | some a => match arow A a (sLen * i.size),goodBase A a i.size with
                | some olds,true => some (.slice (some ⟨A.next,0,none⟩) (sLen + n) (sLen + n),⟨A.next + 1,zDU A.next ⟨.cells (olds ++ news).toArray e,true,i.size⟩ (giveUp A a sCap)⟩)
                | _,_ => none
            | _,_,_ => none
        | _,_ => none
      | _,_ => none
    | _ => none
  | _,_ => none
theorem zeroCells_size (z : Array Value) (n : Nat) : (Builtin.zeroCells z n).size = n * z.size := by simp [Builtin.zeroCells]
theorem zCH.fresh {φ : Phi} {e : Ent} {W : World} {cs : List Value} {cs' rest : List Value} {t : TypeId} (h : W.heap[e.blk]? = some (.cells (cs' ++ rest).toArray t)) (ho : e.off = 0) (hx : e.ext = (cs' ++ rest).length) (hl : LR φ cs cs') (hgr : e.grown = true) :
    zCH φ e W (.cells cs.toArray t) := by
  rw [zCH.row (by rw [hgr]; rfl)]
  refine ⟨rfl,_,t,(0,0),h,by rw [ho,hx]; simp,?_,fun i v hv => ?_,fun i _ hz => absurd hz.2 (Nat.not_lt_zero _),fun h => by rw [hgr] at h; cases h⟩
  · rw [hx]; simp [hl.get.1]
  · obtain ⟨v',h1,h2⟩ := hl.get.2 i v (by simpa using hv)
    refine ⟨v',?_,h2⟩
    rw [ho]
    have hlt : i < cs'.length := (List.getElem?_eq_some_iff.1 h1).1
    simp [List.getElem?_append_left hlt,h1]
theorem LR.append {φ : Phi} {l l' m m' : List Value} (h : LR φ l l') (k : LR φ m m') : LR φ (l ++ m) (l' ++ m') := by
  induction h with
  | nil => exact k
  | cons hv _ ih => exact .cons hv ih
theorem heap_alloc_new (w : World) (o : Obj) : (w.drew.alloc o).heap[w.heap.size]? = some o := by
  show (w.heap.push o)[w.heap.size]? = _
  simp
theorem heap_alloc_old (w : World) (o : Obj) {k : Nat} (h : k < w.heap.size) : (w.drew.alloc o).heap[k]? = w.heap[k]? := by
  show (w.heap.push o)[k]? = _
  rw [Array.getElem?_push,if_neg (by omega)]
theorem zCW (w : World) (o : Obj) : (w.drew.alloc o).heap.size = w.heap.size + 1 := by
  show (w.heap.push o).size = _
  simp
theorem Sim.grow {N : Kp} {φ : Phi} {A : AHeap} {w : World} (hs : Sim N φ A w) (hN : KOK N w) {cs cs' rest : List Value} (hl : LR φ cs cs') (t : TypeId) (z need cap : Nat) (h0 : need ≠ 0) (hneed : need ≤ cap) (hlen : (cs' ++ rest).length = cap * z)
    (L : Tr AObj) (hL : ∀ b x,look L b = some x → look A.objs b = some x) :
    ∃ ψ : Phi,φ.le ψ ∧ V ψ (.slice (some ⟨A.next,0,none⟩) need need) (.slice (some ⟨w.heap.size,0,none⟩) need cap) ∧
      Sim N ψ ⟨A.next + 1,zDU A.next ⟨.cells cs.toArray t,true,z⟩ L⟩ (w.drew.alloc (.cells (cs' ++ rest).toArray t)) ∧ Kept N w (w.drew.alloc (.cells (cs' ++ rest).toArray t)) := by
  have hle : φ.le (zBE φ A.next ⟨w.heap.size,0,cap * z,true,z⟩) := addPhi_le hs.next_none
  refine ⟨zBE φ A.next ⟨w.heap.size,0,cap * z,true,z⟩,hle,?_,?_,?_⟩
  · have hv : V (zBE φ A.next ⟨w.heap.size,0,cap * z,true,z⟩) (.slice (some ⟨A.next,0,none⟩) need need) (.slice (some ⟨w.heap.size,0 + 0,none⟩) need cap) := by
      refine .slice (e := ⟨w.heap.size,0,cap * z,true,z⟩) (zCP _ _ _) ?_
      unfold CapR
      rw [if_pos ⟨rfl,h0⟩]; exact ⟨hneed,by simp⟩
    exact hv
  · refine hs.add _ _ true z _ L rfl rfl (fun k hk _ => heap_alloc_old _ _ hk) (by rw [zCW]; omega) ⟨hN.new,by rw [zCW]; exact Nat.lt_succ_self _⟩ (fun b x hx => ⟨hL b x hx,fun e' he' => ?_⟩) ?_
    · have := hs.base _ _ _ (hL b x hx) he'; intro h; simp only at h; omega
    · exact zCH.fresh (heap_alloc_new _ _) rfl hlen.symm (LR.mono hle hl) rfl
  · exact ⟨rfl,rfl,rfl,by rw [zCW]; omega,fun k hk => heap_alloc_old _ _ (hN k hk)⟩
theorem look_giveUp {A : AHeap} {a : Addr} {c b : Nat} {x : AObj} (h : look (giveUp A a c) b = some x) : look A.objs b = some x := by
  unfold giveUp at h
  split at h
  · split at h
    · exact h
    · rw [look_dropO] at h
      split at h
      · cases h
      · exact h
  · exact h
theorem cell_of_heap {w : World} {b o : Nat} {c : Array Value} {t : TypeId} {z : Nat × Nat} (h : w.heap[b]? = some (.cells c t z)) : w.cell? ⟨b,o,none⟩ = c[o]? := by simp [World.cell?,h]
theorem Sim.spare {N : Kp} {φ : Phi} {A : AHeap} {w : World} (hs : Sim N φ A w) {b : Nat} {e : Ent} (he : φ b = some e) {x0 : AObj} (hx0 : look A.objs b = some x0) {c : Array Value} {t0 : TypeId} {zz : Nat × Nat} (hx0c : x0.o = .cells c t0 zz) (hxg : x0.grown = true)
    {start sLen n cap : Nat} (hroom : sLen + n ≤ cap) (h0 : sLen + n ≠ 0) (hcap : start + cap * e.esz ≤ e.ext) {olds olds' news news' : List Value} (ho : LR φ olds olds') (hn : LR φ news news')
    (hol : olds'.length = sLen * e.esz) (hnl : news'.length = n * e.esz) (hold : ∀ (j : Nat) (v : Value),olds'[j]? = some v → w.cell? ⟨e.blk,e.off + start + j,none⟩ = some v) (t : TypeId) :
    ∃ ψ : Phi,φ.le ψ ∧ V ψ (.slice (some ⟨A.next,0,none⟩) (sLen + n) (sLen + n)) (.slice (some ⟨e.blk,e.off + start,none⟩) (sLen + n) cap) ∧
      Sim N ψ ⟨A.next + 1,zDU A.next ⟨.cells (olds ++ news).toArray t,true,e.esz⟩ (dropO A.objs b)⟩ (w.setCells e.blk (e.off + start + sLen * e.esz) news') ∧ Kept N w (w.setCells e.blk (e.off + start + sLen * e.esz) news') ∧
      (∀ j,j < news'.length → (w.cell? ⟨e.blk,e.off + start + sLen * e.esz + j,none⟩).isSome = true) ∧ (∀ j,j < news'.length → w.frozen? ⟨e.blk,e.off + start + sLen * e.esz + j,none⟩ = false) := by
  obtain ⟨e',he',hgx,_,hat⟩ := hs.alive _ _ hx0
  rw [he] at he'; cases he'
  rw [hx0c,zCH.row (by rw [hgx,hxg]; rfl)] at hat
  obtain ⟨_,c',t',z',h1,h2,h3,h4,h5,_⟩ := hat
  have hb := hs.base _ _ _ hx0 he
  have hmul : (sLen + n) * e.esz ≤ cap * e.esz := Nat.mul_le_mul_right _ hroom
  have hsplit : (sLen + n) * e.esz = sLen * e.esz + n * e.esz := Nat.add_mul _ _ _
  have hin : ∀ j,j < news'.length → (w.cell? ⟨e.blk,e.off + start + sLen * e.esz + j,none⟩).isSome = true := fun j hj => by
    rw [cell_of_heap h1,Array.getElem?_eq_getElem (by omega)]; rfl
  have hfz : ∀ i,i < e.ext → w.frozen? ⟨e.blk,e.off + i,none⟩ = false := fun i hi => by
    have := h5 i hi
    simp only [World.frozen?,h1]
    cases hbb : (decide (z'.1 ≤ e.off + i) && decide (e.off + i < z'.2)) with
    | false => rfl
    | true => simp at hbb; exact absurd hbb this
  have hle : φ.le (zBE φ A.next ⟨e.blk,e.off + start,e.ext - start,true,e.esz⟩) := addPhi_le hs.next_none
  obtain ⟨c'',k1,k2⟩ := heap_setCells_same e.blk news' (e.off + start + sLen * e.esz) w c' t' z' h1
  refine ⟨zBE φ A.next ⟨e.blk,e.off + start,e.ext - start,true,e.esz⟩,hle,?_,?_,below_setCells hb.1 _ _ _,hin,fun j hj => ?_⟩
  · have hv : V (zBE φ A.next ⟨e.blk,e.off + start,e.ext - start,true,e.esz⟩) (.slice (some ⟨A.next,0,none⟩) (sLen + n) (sLen + n)) (.slice (some ⟨e.blk,e.off + start + 0,none⟩) (sLen + n) cap) := by
      refine .slice (e := ⟨e.blk,e.off + start,e.ext - start,true,e.esz⟩) (zCP _ _ _) ?_
      unfold CapR
      rw [if_pos ⟨rfl,h0⟩]
      exact ⟨hroom,by simp only; omega⟩
    exact hv
  · refine hs.add _ _ true e.esz _ (dropO A.objs b) rfl rfl (fun k _ hne => heap_setCells_other _ _ _ _ _ hne) (by rw [size_setCells]; omega) ⟨hb.1,by rw [size_setCells]; exact hb.2⟩ (fun b' x hx => ?_) ?_
    · rw [look_dropO] at hx
      split at hx
      · cases hx
      · rename_i hne
        exact ⟨hx,fun e' he' => hs.inj b' b x x0 e' e (fun h => hne h.symm) hx hx0 he' he⟩
    · refine ⟨rfl,c'',t',z',k1,by simp only; omega,?_,fun i v hv => ?_,fun i hi => ?_,fun h => by cases h⟩
      · simp [ho.get.1,hn.get.1]; omega
      · have hcell : ∀ o,c''[o]? = (w.setCells e.blk (e.off + start + sLen * e.esz) news').cell? ⟨e.blk,o,none⟩ := fun o => (cell_of_heap k1).symm
        obtain ⟨v',g1,g2⟩ := ((ho.append hn).mono hle).get.2 i v (by simpa using hv)
        refine ⟨v',?_,g2⟩
        simp only [hcell]
        by_cases hi : i < olds'.length
        · rw [World.cell?_setCells_out _ _ _ _ _ (fun _ _ => .inl (by simp only; omega))]
          rw [List.getElem?_append_left hi] at g1
          exact hold i v' g1
        · rw [List.getElem?_append_right (by omega)] at g1
          obtain ⟨hj,rfl⟩ := List.getElem?_eq_some_iff.1 g1
          have := World.cell?_setCells_in e.blk news' (e.off + start + sLen * e.esz) w hin (i - olds'.length) hj
          rw [← this]
          congr 2
          omega
      · have := h5 (start + i) (by simp only at hi; omega)
        simp only
        omega
  · have := hfz (start + sLen * e.esz + j) (by omega)
    rw [← this]
    congr 2
    omega
theorem list_two {α : Type} {xs : Array α} {a b : α} (h : xs.toList = [a,b]) : xs = #[a,b] := by
  rw [← Array.toArray_toList (xs := xs),h]
set_option maxHeartbeats 1000000 in
theorem Q.append {φ : Phi} {ats : Array TypeId} (ty : TypeId) {xs xs' : Array Value} (h : AR φ xs xs') : Q P V (aapp P ats xs) φ (Builtin.append_ ats ty xs') := by
  intro N A w v A1 hs hN he
  unfold aapp at he
  split at he
  rotate_left
  · cases he
  rename_i st tx base sLen sCap x hats hxs
  have hlr := h.list
  rw [hxs] at hlr
  obtain ⟨s',x',hs',hx',hxs'⟩ : ∃ s' x',V φ (.slice base sLen sCap) s' ∧ V φ x x' ∧ xs'.toList = [s',x'] := by
    cases hl : xs'.toList with
    | nil => rw [hl] at hlr; cases hlr
    | cons s' l =>
      rw [hl] at hlr
      cases hlr with
      | cons h1 h2 =>
        cases h2 with
        | cons h3 h4 => cases h4; exact ⟨s',_,h1,h3,rfl⟩
  rw [list_two hats,list_two hxs']
  clear hlr hats hxs hxs' h
  split at he
  rotate_left
  · cases he
  rename_i e hst
  split at he
  rotate_left
  · cases he
  rename_i i hi hzok
  split at he
  rotate_left
  · cases he
  rename_i z n news hz hsrc
  obtain ⟨news',hnl,hsr⟩ := asrc_run hs hx' hsrc
  split at he
  · rename_i hble
    have hroom : sLen + n ≤ sCap := Nat.le_of_ble_eq_true hble
    cases hs' with
    | sliceNil a b =>
      cases he
      refine ⟨φ,_,w,Phi.le_refl _,.sliceNil _ _,hs,?_,Kept.refl _ _⟩
      have hr : sLen + n ≤ sCap := hroom
      rcases hsr.kind with ⟨e',hk⟩ | hk <;> simp [Builtin.append_,run_underlying hst,run_underlying hk,Go.sizeOf,Go.typeInfo,hi,hsr.len,hr,hsr.cells]
    | @slice b o _ _ c' en hen hcr =>
      simp only at he
      cases hA : asets A ((⟨b,o,none⟩ : Addr).add (sLen * i.size)) news with
      | none => rw [hA] at he; cases he
      | some A' =>
        rw [hA] at he
        simp only [Option.map_some,zOi,Prod.mk.injEq] at he
        obtain ⟨rfl,rfl⟩ := he
        rw [Addr.add_lit] at hA
        obtain ⟨k1,k2,k3,k4,_⟩ := asets_run hnl (a := ⟨b,o + sLen * i.size,none⟩) hs hen rfl hA
        have hcap : sCap ≤ c' := by
          unfold CapR at hcr
          split at hcr
          · exact hcr.1
          · omega
        simp only [← Nat.add_assoc] at k1 k2 k3 k4
        exact ⟨φ,_,_,Phi.le_refl _,.slice hen hcr,k1,run_append_room_src w st tx ty e i hst hi en.blk (en.off + o) sLen c' x' n news' hsr (by omega) k3 k4,k2⟩
    | sliceE b o s a =>
      simp only [zOi,Prod.mk.injEq] at he
      obtain ⟨rfl,rfl⟩ := he
      have hn0 : n = 0 := by omega
      subst hn0
      have hnews : news' = [] := by
        have := hsr.newsLen
        simpa using this
      subst hnews
      refine ⟨φ,_,w,Phi.le_refl _,.sliceE b o s a,hs,?_,Kept.refl _ _⟩
      rcases hsr.kind with ⟨e',hk⟩ | hk <;> simp [Builtin.append_,run_underlying hst,run_underlying hk,Go.sizeOf,Go.typeInfo,hi,hsr.len,hsr.cells,Go.storeCells]
    | @sliceZ b o s o' c' en hen hg hx =>
      simp only [zOi,Prod.mk.injEq] at he
      obtain ⟨rfl,rfl⟩ := he
      have hn0 : n = 0 := by omega
      subst hn0
      have hnews : news' = [] := by
        have := hsr.newsLen
        simpa using this
      subst hnews
      refine ⟨φ,_,w,Phi.le_refl _,.sliceZ hen hg hx,hs,?_,Kept.refl _ _⟩
      have := run_append_room_src w st tx ty e i hst hi en.blk (en.off + o') 0 c' x' 0 [] hsr (by omega) (fun j hj => by simp at hj) (fun j hj => by simp at hj)
      simpa [World.setCells] using this
  · rename_i hble
    have hg0 : sCap < sLen + n := by
      rcases Nat.lt_or_ge sCap (sLen + n) with h | h
      · exact h
      · rw [Nat.ble_eq_true_of_le h] at hble; cases hble
    split at he
    rotate_left
    · cases he
    rename_i hb1 hb2 hb3
    have hb1 : (sLen + n) * i.bytes ≤ 140737488355328 := Nat.le_of_ble_eq_true hb1
    have hb2 : sLen + n ≤ 4611686018427387904 := Nat.le_of_ble_eq_true hb2
    have hb3 : z.cells.size = i.size := Nat.eq_of_beq_eq_true hb3
    have h0 : sLen + n ≠ 0 := by omega
    have fresh : ∀ (base' : Option Addr) (c' : Nat) (olds olds' : List Value) (L : Tr AObj),LR φ olds olds' → olds'.length = sLen * i.size → c' < sLen + n →
        (∀ w' : World,w'.heap = w.heap → (Builtin.firstCells i.size sLen (.slice base' sLen c')).run P w' = .ok olds'.toArray w') → (∀ b x,look L b = some x → look A.objs b = some x) →
        ∃ ψ v' w1,φ.le ψ ∧ V ψ (.slice (some ⟨A.next,0,none⟩) (sLen + n) (sLen + n)) v' ∧ Sim N ψ ⟨A.next + 1,zDU A.next ⟨.cells (olds ++ news).toArray e,true,i.size⟩ L⟩ w1 ∧
          (Builtin.append_ #[st,tx] ty #[.slice base' sLen c',x']).run P w = .ok v' w1 ∧ Kept N w w1 := by
      intro base' c' olds olds' L hol hlen hlt hfirst hL
      have hrun := run_append_grow_src w st tx ty e i z hst hi hz base' sLen c' olds' (hfirst w.drew rfl) x' n news' hsr hlt (by omega) (growslice_fits hlt hb1)
      have hge := grownCap_ge w (sLen + n) c' e
      have hmul : (sLen + n) * i.size = sLen * i.size + n * i.size := Nat.add_mul _ _ _
      have hmul2 : (grownCap w (sLen + n) c' e - (sLen + n)) * i.size + (sLen + n) * i.size = grownCap w (sLen + n) c' e * i.size := by rw [← Nat.add_mul]; congr 1; omega
      obtain ⟨ψ,g1,g2,g3,g4⟩ := hs.grow hN (rest := (Builtin.zeroCells z.cells (grownCap w (sLen + n) c' e - (sLen + n))).toList) (hol.append hnl) e i.size (sLen + n) (grownCap w (sLen + n) c' e) h0 hge
        (by simp only [List.length_append,hlen,hsr.newsLen,Array.length_toList,zeroCells_size,hb3]; omega) L hL
      refine ⟨ψ,_,_,g1,g2,g3,?_,g4⟩
      rw [hrun]
      congr 3
      apply Array.ext'
      simp
    cases hs' with
    | sliceNil a b =>
      simp only at he
      split at he
      · rename_i hz0
        have : sLen = 0 := Nat.eq_of_beq_eq_true hz0
        subst this
        cases he
        have := fresh none sCap [] [] A.objs .nil (by simp) hg0 (fun w' _ => run_firstCells_none w' i.size 0 0 sCap) (fun b x h => h)
        simpa using this
      · cases he
    | @slice b o _ _ c' en hen hcr =>
      simp only at he
      split at he
      · rename_i olds hrow hgood
        cases he
        obtain ⟨k1,olds',k2,_,k4⟩ := arow_run hs (a := ⟨b,o,none⟩) hen hrow
        by_cases hlt : c' < sLen + n
        · exact fresh _ c' olds olds' _ k2 (by rw [← k2.get.1,k1]) hlt (fun w' hw' => run_firstCells_some w' i.size sLen ⟨en.blk,en.off + o,none⟩ sLen c' olds' (by rw [← k2.get.1,k1]) (fun j u hj => by
            rw [Addr.add_lit,World.cell?_of_block (w := w) (by rw [hw'])]; exact k4 j u hj)) (fun b x h => look_giveUp h)
        · have hgr : en.grown = true ∧ sCap ≠ 0 := by
            unfold CapR at hcr
            split at hcr
            · assumption
            · omega
          have hcr2 : sCap ≤ c' ∧ o + c' * en.esz ≤ en.ext := by
            unfold CapR at hcr
            rw [if_pos hgr] at hcr
            exact hcr
          unfold goodBase at hgood
          obtain ⟨x0,hx0⟩ : ∃ x0,look A.objs b = some x0 := by
            cases hl : look A.objs b with
            | none => simp [hl] at hgood
            | some x0 => exact ⟨x0,rfl⟩
          obtain ⟨en',hen',hg1,hg2,_⟩ := hs.alive _ _ hx0
          rw [hen] at hen'; cases hen'
          rw [hx0] at hgood
          have hxg : x0.grown = true := by rw [← hg1]; exact hgr.1
          obtain ⟨ob,gg,zz⟩ := x0
          simp only at hxg hg2
          subst hxg
          cases ob <;> simp only [Bool.false_eq_true] at hgood
          rename_i c0 t0 z0
          have hz : zz = i.size := Nat.eq_of_beq_eq_true hgood
          subst hz
          have hge : giveUp A ⟨b,o,none⟩ sCap = dropO A.objs b := by
            unfold giveUp
            simp only [hx0]
            split
            · rename_i h1 h2; exact absurd rfl hgr.2
            · rfl
          rw [hge]
          obtain ⟨ψ,g1,g2,g3,g4,g5,g6⟩ := hs.spare hen hx0 rfl rfl (start := o) (sLen := sLen) (n := n) (cap := c') (by omega) h0 hcr2.2 k2 hnl (by rw [← k2.get.1,k1,hg2]) (by rw [hsr.newsLen,hg2]) (fun j u hj => k4 j u hj) e
          rw [hg2] at g3 g4 g5 g6
          exact ⟨ψ,_,_,g1,g2,g3,run_append_room_src w st tx ty e i hst hi en.blk (en.off + o) sLen c' x' n news' hsr (by omega) g5 g6,g4⟩
      · cases he
    | sliceE b o s a =>
      simp only at he
      split at he
      · rename_i olds hrow hgood
        cases he
        simp [arow] at hrow
        subst hrow
        exact fresh (some a) 0 [] [] _ .nil (by simp) (by omega) (fun w' hw' => by simp [Builtin.firstCells,Go.loadCells,Go.loadCellsFrom]) (fun b x h => look_giveUp h)
      · cases he
    | @sliceZ b o s o' c' en hen hg hx =>
      simp only at he
      split at he
      · rename_i olds hrow hgood
        cases he
        simp [arow] at hrow
        subst hrow
        by_cases hlt : c' < 0 + n
        · exact fresh _ c' [] [] _ .nil (by simp) hlt (fun w' hw' => run_firstCells_some w' i.size 0 ⟨en.blk,en.off + o',none⟩ 0 c' [] (by simp) (fun j u hj => by simp at hj)) (fun b x h => look_giveUp h)
        · unfold goodBase at hgood
          obtain ⟨x0,hx0⟩ : ∃ x0,look A.objs b = some x0 := by
            cases hl : look A.objs b with
            | none => simp [hl] at hgood
            | some x0 => exact ⟨x0,rfl⟩
          obtain ⟨en',hen',hg1,hg2,_⟩ := hs.alive _ _ hx0
          rw [hen] at hen'; cases hen'
          rw [hx0] at hgood
          have hxg : x0.grown = true := by rw [← hg1]; exact hg
          obtain ⟨ob,gg,zz⟩ := x0
          simp only at hxg hg2
          subst hxg
          cases ob <;> simp only [Bool.false_eq_true] at hgood
          rename_i c0 t0 z0
          have hz : zz = i.size := Nat.eq_of_beq_eq_true hgood
          subst hz
          have hge : giveUp A ⟨b,o,some s⟩ 0 = dropO A.objs b := by
            unfold giveUp
            simp only [hx0]
          rw [hge]
          obtain ⟨ψ,g1,g2,g3,g4,g5,g6⟩ := hs.spare hen hx0 rfl rfl (start := o') (sLen := 0) (n := n) (cap := c') (by omega) h0 hx (.nil) hnl (by simp) (by rw [hsr.newsLen,hg2]) (fun j u hj => by simp at hj) e
          rw [hg2] at g3 g4 g5 g6
          exact ⟨ψ,_,_,g1,g2,g3,run_append_room_src w st tx ty e i hst hi en.blk (en.off + o') 0 c' x' n news' hsr (by omega) g5 g6,g4⟩
      · cases he
end
end
end Go.Proofs.Ytdaljohmfnfgiaa.Canon

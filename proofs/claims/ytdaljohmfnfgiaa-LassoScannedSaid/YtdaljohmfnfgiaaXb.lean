/- LassoScannedSaid: what its proof is made of, part 2. No condition. -/
import Derived.Test.YtdaljohmfnfgiaaXa
namespace Go.Proofs.Ytdaljohmfnfgiaa
open Go Go.RowKit Go.Proofs.Ytdaljohmfnfgiaa.Canon
set_option maxRecDepth 20000
def TP (e m : Int) (s : Nat → Int) (mm : Int) (L1 L2 : List Int) (ee : Int) : Prop :=
  (e ≠ 0 ∧ mm = 0 ∧ L1 = [] ∧ L2 = [] ∧ ee = e) ∨
  (e = 0 ∧ ∃ a p,Red s a p ∧ (((120 < p ∨ 60 < a) ∧ mm = 0 ∧ L1 = [] ∧ L2 = [] ∧ ee = 11) ∨ (¬ (120 < p ∨ 60 < a) ∧ mm = m ∧ L1 = redS s a ∧ L2 = redR s a p ∧ ee = 0)))
def Tld (A : AHeap) (e m : Int) (s : Nat → Int) (v : Value) (A1 : AHeap) : Prop :=
  Nx A.next A A1 ∧ ∃ mm L1 L2 ee p1 c1 p2 c2,TP e m s mm L1 L2 ee ∧ v = .tuple #[.agg #[.int .i64 mm,.slice p1 L1.length c1,.slice p2 L2.length c2],.int .i64 ee] ∧ Ints A1 p1 A.next A1.next L1 ∧ Ints A1 p2 A.next A1.next L2 ∧ Wrt A1 p1 A.next A1.next L1.length ∧ Wrt A1 p2 A.next A1.next L2.length ∧ Sl A1 p1 A.next ∧ Sl A1 p2 A.next ∧ L1.length ≤ c1 ∧ L2.length ≤ c2
def TldR (A : AHeap) (e m : Int) (s : Nat → Int) (v : Value) (A1 : AHeap) : Prop :=
  Nx A.next A A1 ∧ ∃ mm L1 L2 ee p1 c1 p2 c2,TP e m s mm L1 L2 ee ∧ v = .tuple #[.agg #[.int .i64 mm,.slice p1 L1.length c1,.slice p2 L2.length c2],.int .i64 ee] ∧ Ints A1 p1 A.next A1.next L1 ∧ Ints A1 p2 A.next A1.next L2
theorem ints_nil' (A : AHeap) (a : Option Addr) (lo hi : Nat) : Ints A a lo hi [] := fun i hi => by simp at hi
theorem tld_err {A A1 : AHeap} {e m : Int} {s : Nat → Int} (he : e ≠ 0) (hx1 : Nx A.next A A1) : Tld A e m s (.tuple #[.agg #[.int .i64 0,.slice none 0 0,.slice none 0 0],.int .i64 e]) A1 :=
  ⟨hx1,0,[],[],_,none,0,none,0,.inl ⟨he,rfl,rfl,rfl,rfl⟩,rfl,ints_nil' _ _ _ _,ints_nil' _ _ _ _,fun h0 => absurd h0 (by simp),fun h0 => absurd h0 (by simp),fun y hy => (by cases hy),fun y hy => (by cases hy),Nat.le_refl _,Nat.le_refl _⟩
theorem tld_q {A A1 : AHeap} {m : Int} {s : Nat → Int} {a p : Nat} {v : Value} (hr : Red s a p) (h : LeastQ A m s a p v A1) : Tld A 0 m s v A1 := by
  obtain ⟨hx1,hq⟩ := h
  refine ⟨hx1,?_⟩
  by_cases hl : 120 < p ∨ 60 < a
  · rw [if_pos hl] at hq
    exact ⟨0,[],[],11,none,0,none,0,.inr ⟨rfl,a,p,hr,.inl ⟨hl,rfl,rfl,rfl,rfl⟩⟩,hq,ints_nil' _ _ _ _,ints_nil' _ _ _ _,fun h0 => absurd h0 (by simp),fun h0 => absurd h0 (by simp),fun y hy => (by cases hy),fun y hy => (by cases hy),Nat.le_refl _,Nat.le_refl _⟩
  · rw [if_neg hl] at hq
    obtain ⟨xa,xr,rfl,g1,g2⟩ := hq
    exact ⟨m,_,_,0,xa,a,xr,p,.inr ⟨rfl,a,p,hr,.inr ⟨hl,rfl,rfl,rfl,rfl⟩⟩,by rw [zBV,zBI],g1.ints,g2.ints,g1.wrt,g2.wrt,g1.sl,g2.sl,by rw [zBV]; exact Nat.le_refl _,by rw [zBI]; exact Nat.le_refl _⟩
theorem Tld.put {A B D : AHeap} {e m : Int} {s : Nat → Int} {mm : Int} {L1 L2 : List Int} {ee : Int} {p1 p2 : Option Addr} {c1 c2 lo b : Nat} (hlo : lo ≤ A.next) (hb : b < A.next) (hlb : lo ≤ b) (hT : TP e m s mm L1 L2 ee) (i1 : Ints B p1 A.next B.next L1) (i2 : Ints B p2 A.next B.next L2) (hn : D.next = B.next) (hoff : ∀ b',b' ≠ b → Canon.look D.objs b' = Canon.look B.objs b') :
    Ints D p1 A.next D.next L1 ∧ Ints D p2 A.next D.next L2 := by
  have h : ∀ b',A.next ≤ b' → Canon.look B.objs b' = none ∨ Canon.look D.objs b' = Canon.look B.objs b' := fun b' hb' => .inr (hoff _ (by omega))
  exact ⟨i1.ext h (Nat.le_of_eq hn.symm),i2.ext h (Nat.le_of_eq hn.symm)⟩
theorem Wrt.off {B D : AHeap} {a : Option Addr} {lo n b : Nat} (h : Wrt B a lo B.next n) (hn : D.next = B.next) (hb : b < lo) (hoff : ∀ b',b' ≠ b → Canon.look D.objs b' = Canon.look B.objs b') : Wrt D a lo D.next n := fun hpos => by
  obtain ⟨b',o,c,t,f,g,e,h1,h2,h3,h4,h5⟩ := h hpos
  exact ⟨b',o,c,t,f,g,e,h1,⟨h2.1,by rw [hn]; exact h2.2⟩,by rw [hoff _ (by omega)]; exact h3,h4,h5⟩
end Go.Proofs.Ytdaljohmfnfgiaa
namespace Go.Proofs.Ytdaljohmfnfgiaa
open Go Go.RowKit Go.Proofs.Ytdaljohmfnfgiaa.Canon
set_option maxRecDepth 20000
end Go.Proofs.Ytdaljohmfnfgiaa
namespace Go.Proofs.Ytdaljohmfnfgiaa
open Go Go.RowKit Go.Proofs.Ytdaljohmfnfgiaa.Canon
set_option maxRecDepth 20000
theorem Wrt.mono {A : AHeap} {a : Option Addr} {lo lo' hi n : Nat} (h : Wrt A a lo hi n) (hl : lo' ≤ lo) : Wrt A a lo' hi n := fun hpos => by
  obtain ⟨b,o,c,t,f,g,e,h1,h2,h3⟩ := h hpos
  exact ⟨b,o,c,t,f,g,e,h1,⟨Nat.le_trans hl h2.1,h2.2⟩,h3⟩
end Go.Proofs.Ytdaljohmfnfgiaa
namespace Go.Proofs.Ytdaljohmfnfgiaa
open Go Go.RowKit Go.Proofs.Ytdaljohmfnfgiaa.Canon
set_option maxRecDepth 20000
theorem Tld.fin {A A4 A5 : AHeap} {e m : Int} {s : Nat → Int} {w : Value} {b : Nat} (hx04 : Nx A.next A A4) (hb : A.next ≤ b) (hb4 : b < A4.next) (hl : Canon.look A4.objs b = some ⟨.cells #[.int .i64 0,.slice none 0 0,.slice none 0 0] 24,false,0⟩) (h : Tld A4 e m s w A5) :
    ∃ mm n1 n2 ee p1 c1 p2 c2,w = .tuple #[.agg #[.int .i64 mm,.slice p1 n1 c1,.slice p2 n2 c2],.int .i64 ee] ∧ ∃ D,sts A5 b 0 [.int .i64 mm,.slice p1 n1 c1,.slice p2 n2 c2] = some D ∧ cl D b 0 = some (.int .i64 mm) ∧ cl D b 1 = some (.slice p1 n1 c1) ∧ cl D b 2 = some (.slice p2 n2 c2) ∧ (∀ b',b' ≠ b → Canon.look D.objs b' = Canon.look A5.objs b') ∧ Tld A e m s (.tuple #[.agg #[.int .i64 mm,.slice p1 n1 c1,.slice p2 n2 c2],.int .i64 ee]) D := by
  obtain ⟨hx5,mm,L1,L2,ee,p1,c1,p2,c2,hT,rfl,i1,i2,w1,w2,s1,s2,k1,k2⟩ := h
  obtain ⟨D,q1,q2,q3,q4,g0,g1,g2⟩ := res_put hl hb4 hx5 (v0 := .int .i64 mm) (v1 := .slice p1 L1.length c1) (v2 := .slice p2 L2.length c2) rfl
  obtain ⟨j1,j2⟩ := Tld.put (c1 := c1) (c2 := c2) (D := D) hx04.next hb4 hb hT i1 i2 q2 q4
  refine ⟨mm,L1.length,L2.length,ee,p1,c1,p2,c2,rfl,D,q1,g0,g1,g2,q4,⟨by have := hx04.next; have := hx5.next; omega,q3,fun b' hb' => by rw [q4 _ (by omega),hx5.keep _ (by have := hx04.next; omega),hx04.keep _ hb']⟩,mm,L1,L2,ee,p1,c1,p2,c2,hT,rfl,j1.mono hx04.next (Nat.le_refl _),j2.mono hx04.next (Nat.le_refl _),(w1.off q2 hb4 q4).mono hx04.next,(w2.off q2 hb4 q4).mono hx04.next,(s1.ext fun b' hb' => .inr (q4 b' (by omega))).mono hx04.next,(s2.ext fun b' hb' => .inr (q4 b' (by omega))).mono hx04.next,k1,k2⟩
theorem TldR.fin {A A4 A5 : AHeap} {e m : Int} {s : Nat → Int} {w : Value} {b : Nat} (hx04 : Nx A.next A A4) (hb : A.next ≤ b) (hb4 : b < A4.next) (hl : Canon.look A4.objs b = some ⟨.cells #[.int .i64 0,.slice none 0 0,.slice none 0 0] 24,false,0⟩) (h : TldR A4 e m s w A5) :
    ∃ mm n1 n2 ee p1 c1 p2 c2,w = .tuple #[.agg #[.int .i64 mm,.slice p1 n1 c1,.slice p2 n2 c2],.int .i64 ee] ∧ ∃ D,sts A5 b 0 [.int .i64 mm,.slice p1 n1 c1,.slice p2 n2 c2] = some D ∧ cl D b 0 = some (.int .i64 mm) ∧ cl D b 1 = some (.slice p1 n1 c1) ∧ cl D b 2 = some (.slice p2 n2 c2) ∧ (∀ b',b' ≠ b → Canon.look D.objs b' = Canon.look A5.objs b') ∧ TldR A e m s (.tuple #[.agg #[.int .i64 mm,.slice p1 n1 c1,.slice p2 n2 c2],.int .i64 ee]) D := by
  obtain ⟨hx5,mm,L1,L2,ee,p1,c1,p2,c2,hT,rfl,i1,i2⟩ := h
  obtain ⟨D,q1,q2,q3,q4,g0,g1,g2⟩ := res_put hl hb4 hx5 (v0 := .int .i64 mm) (v1 := .slice p1 L1.length c1) (v2 := .slice p2 L2.length c2) rfl
  obtain ⟨j1,j2⟩ := Tld.put (c1 := c1) (c2 := c2) (D := D) hx04.next hb4 hb hT i1 i2 q2 q4
  refine ⟨mm,L1.length,L2.length,ee,p1,c1,p2,c2,rfl,D,q1,g0,g1,g2,q4,⟨by have := hx04.next; have := hx5.next; omega,q3,fun b' hb' => by rw [q4 _ (by omega),hx5.keep _ (by have := hx04.next; omega),hx04.keep _ hb']⟩,mm,L1,L2,ee,p1,c1,p2,c2,hT,rfl,j1.mono hx04.next (Nat.le_refl _),j2.mono hx04.next (Nat.le_refl _)⟩
theorem err_fin {A A4 : AHeap} {b : Nat} (hx04 : Nx A.next A A4) (hb : A.next ≤ b) (hb4 : b < A4.next) (hl : Canon.look A4.objs b = some ⟨.cells #[.int .i64 0,.slice none 0 0,.slice none 0 0] 24,false,0⟩) :
    ∃ D,sts A4 b 0 [.int .i64 0,.slice none 0 0,.slice none 0 0] = some D ∧ cl D b 0 = some (.int .i64 0) ∧ cl D b 1 = some (.slice none 0 0) ∧ cl D b 2 = some (.slice none 0 0) ∧ Nx A.next A D := by
  obtain ⟨D,q1,q2,q3,q4,g0,g1,g2⟩ := res_put hl hb4 (Nx.refl hx04.wf A4.next) (v0 := .int .i64 0) (v1 := .slice none 0 0) (v2 := .slice none 0 0) rfl
  exact ⟨D,q1,g0,g1,g2,⟨by have := hx04.next; omega,q3,fun b' hb' => by rw [q4 _ (by omega),hx04.keep _ hb']⟩⟩
theorem mxd_nat (a b : Nat) : max (a : Int) (b : Int) = ((max a b : Nat) : Int) := by omega
end Go.Proofs.Ytdaljohmfnfgiaa
namespace Go.Proofs.Ytdaljohmfnfgiaa
open Go Go.RowKit Go.Proofs.Ytdaljohmfnfgiaa.Canon
set_option maxRecDepth 20000
end Go.Proofs.Ytdaljohmfnfgiaa
namespace Go.Proofs.Ytdaljohmfnfgiaa
open Go Go.RowKit Go.Proofs.Ytdaljohmfnfgiaa.Canon
set_option maxRecDepth 20000
def erC (m : Int) (st ro : List Int) (v : Int) : Int := if errL m st ro = 0 then (if v < 0 ∨ m ≤ v then 3 else 0) else errL m st ro
end Go.Proofs.Ytdaljohmfnfgiaa
namespace Go.Proofs.Ytdaljohmfnfgiaa
open Go Go.RowKit Go.Proofs.Ytdaljohmfnfgiaa.Canon
set_option maxRecDepth 20000
theorem redS_snoc (E : Nat → Int) (i : Nat) : redS E i ++ [E i] = redS E (i + 1) := by simp [redS,List.range_succ]
end Go.Proofs.Ytdaljohmfnfgiaa
namespace Go.Proofs.Ytdaljohmfnfgiaa
open Go Go.RowKit Go.Proofs.Ytdaljohmfnfgiaa.Canon
set_option maxRecDepth 20000
end Go.Proofs.Ytdaljohmfnfgiaa
namespace Go.Proofs.Ytdaljohmfnfgiaa
open Go Go.RowKit Go.Proofs.Ytdaljohmfnfgiaa.Canon
set_option maxRecDepth 20000
def restOf : Code → Code
  | .seq _ b => b
  | c => c
def restN : Nat → Code → Code
  | 0,c => c
  | n + 1,c => restN n (restOf c)
structure Has (B : AHeap) (b : Nat) (x : Las) : Prop where
  c0 : cl B b 0 = some (.int .i64 x.m)
  c1 : cl B b 1 = some (.slice x.sa x.st.length x.sc)
  c2 : cl B b 2 = some (.slice x.ra x.ro.length x.rc)
  ok : x.ok B
  lt : b < B.next
  ls : x.st.length ≤ 70
  lr : x.ro.length ≤ 130
  cs : x.st.length ≤ x.sc
  cr : x.ro.length ≤ x.rc
  s1 : 0 < x.st.length → Sl B x.sa 0
  s2 : 0 < x.ro.length → Sl B x.ra 0
theorem Has.nx {B C : AHeap} {b : Nat} {x : Las} (h : Has B b x) (hw : WF B) (k : Nx B.next B C) : Has C b x :=
  { c0 := (k.cl h.lt 0).trans h.c0,c1 := (k.cl h.lt 1).trans h.c1,c2 := (k.cl h.lt 2).trans h.c2,ok := h.ok.nx k,lt := Nat.lt_of_lt_of_le h.lt k.next,ls := h.ls,lr := h.lr,cs := h.cs,cr := h.cr,s1 := fun q => (h.s1 q).nx hw k,s2 := fun q => (h.s2 q).nx hw k }
end Go.Proofs.Ytdaljohmfnfgiaa
namespace Go.Proofs.Ytdaljohmfnfgiaa
open Go Go.RowKit Go.Proofs.Ytdaljohmfnfgiaa.Canon
set_option maxRecDepth 20000
theorem Wrt.nx {A B : AHeap} {a : Option Addr} {lo hi n : Nat} (h : Wrt A a lo hi n) (hw : WF A) (k : Nx A.next A B) : Wrt B a lo B.next n := fun hpos => by
  obtain ⟨b,o,c,t,f,g,e,h1,h2,h3,h4,h5⟩ := h hpos
  have hb := hw _ _ h3
  exact ⟨b,o,c,t,f,g,e,h1,⟨h2.1,Nat.lt_of_lt_of_le hb k.next⟩,by rw [k.keep _ hb]; exact h3,h4,h5⟩
end Go.Proofs.Ytdaljohmfnfgiaa
namespace Go.Proofs.Ytdaljohmfnfgiaa
open Go Go.RowKit Go.Proofs.Ytdaljohmfnfgiaa.Canon
set_option maxRecDepth 20000
end Go.Proofs.Ytdaljohmfnfgiaa
namespace Go.Proofs.Ytdaljohmfnfgiaa
open Go Go.RowKit Go.Proofs.Ytdaljohmfnfgiaa.Canon
set_option maxRecDepth 20000
theorem Wrt.stay {A B : AHeap} {a : Option Addr} {lo hi n : Nat} (h : Wrt A a lo hi n) (k : ∀ b,lo ≤ b → b < hi → Canon.look B.objs b = Canon.look A.objs b) : Wrt B a lo hi n := fun hpos => by
  obtain ⟨b,o,c,t,f,g,e,h1,h2,h3,h4,h5⟩ := h hpos
  exact ⟨b,o,c,t,f,g,e,h1,h2,by rw [k b h2.1 h2.2]; exact h3,h4,h5⟩
structure Pr (lo hi : Nat) (D : AHeap) (b b' : Nat) (y y' : Las) : Prop where
  c0 : cl D b 0 = some (.int .i64 y.m)
  c1 : cl D b 1 = some (.slice y.sa y.st.length y.sc)
  c2 : cl D b 2 = some (.slice y.ra y.ro.length y.rc)
  d0 : cl D b' 0 = some (.int .i64 y'.m)
  d1 : cl D b' 1 = some (.slice y'.sa y'.st.length y'.sc)
  d2 : cl D b' 2 = some (.slice y'.ra y'.ro.length y'.rc)
  ok : y.ok D
  ok' : y'.ok D
  lt : b < D.next
  lt' : b' < D.next
  hb : hi ≤ b
  tw : Tw y y'
  w1 : Wrt D y.sa lo hi y.st.length
  w2 : Wrt D y.ra lo hi y.ro.length
theorem Pr.nx {lo hi : Nat} {D E : AHeap} {b b' : Nat} {y y' : Las} (h : Pr lo hi D b b' y y') (k : Nx D.next D E) : Pr lo hi E b b' y y' :=
  { c0 := (k.cl h.lt 0).trans h.c0,c1 := (k.cl h.lt 1).trans h.c1,c2 := (k.cl h.lt 2).trans h.c2,d0 := (k.cl h.lt' 0).trans h.d0,d1 := (k.cl h.lt' 1).trans h.d1,d2 := (k.cl h.lt' 2).trans h.d2,ok := h.ok.nx k,ok' := h.ok'.nx k,lt := Nat.lt_of_lt_of_le h.lt k.next,lt' := Nat.lt_of_lt_of_le h.lt' k.next,hb := h.hb,tw := h.tw,
    w1 := h.w1.stay fun b'' _ h2 => k.keep _ (by have := h.hb; have := h.lt; omega),w2 := h.w2.stay fun b'' _ h2 => k.keep _ (by have := h.hb; have := h.lt; omega) }
def ConsOK : Prop := ∀ (A : AHeap),WF A → ∀ (m v : Int) (sa ra : Option Addr) (sc rc : Nat) (st ro : List Int),Ints A sa 0 A.next st → Ints A ra 0 A.next ro → st.length < 4611686018427387904 → ro.length < 4611686018427387904 →
  Con Try.prog 35 [.int .i64 v,.agg #[.int .i64 m,.slice sa st.length sc,.slice ra ro.length rc]] A (Tld A (erC m st ro v) m (atL (v :: st) ro))
end Go.Proofs.Ytdaljohmfnfgiaa
namespace Go.Proofs.Ytdaljohmfnfgiaa
open Go Go.RowKit Go.Proofs.Ytdaljohmfnfgiaa.Canon
theorem lcmN_eq (a b : Nat) : lcmN a b = Nat.lcm a b := by
  unfold lcmN Nat.lcm
  rw [Nat.div_mul_right_comm (Nat.gcd_dvd_left a b)]
def lcmF (f : Nat → Nat) : Nat → Nat
  | 0 => 1
  | i + 1 => lcmN (lcmF f i) (f i)
def maxF (f : Nat → Nat) : Nat → Nat
  | 0 => 0
  | i + 1 => max (maxF f i) (f i)
theorem lcmF_pos {f : Nat → Nat} {k : Nat} (h : ∀ i,i < k → 0 < f i) : ∀ {i},i ≤ k → 0 < lcmF f i
  | 0,_ => Nat.one_pos
  | i + 1,hi => by
    rw [lcmF,lcmN_eq]
    exact Nat.lcm_pos (lcmF_pos h (by omega)) (h i (by omega))
theorem lcmF_dvd {f : Nat → Nat} : ∀ {i j : Nat},j < i → f j ∣ lcmF f i
  | 0,_,h => by omega
  | i + 1,j,h => by
    rw [lcmF,lcmN_eq]
    by_cases hj : j = i
    · subst hj; exact Nat.dvd_lcm_right _ _
    · exact Nat.dvd_trans (lcmF_dvd (by omega)) (Nat.dvd_lcm_left _ _)
theorem lcmF_least {f : Nat → Nat} {m : Nat} : ∀ {i : Nat},(∀ j,j < i → f j ∣ m) → lcmF f i ∣ m
  | 0,_ => Nat.one_dvd _
  | i + 1,h => by
    rw [lcmF,lcmN_eq]
    exact Nat.lcm_dvd (lcmF_least fun j hj => h j (by omega)) (h i (by omega))
theorem maxF_ge {f : Nat → Nat} : ∀ {i j : Nat},j < i → f j ≤ maxF f i
  | 0,_,h => by omega
  | i + 1,j,h => by
    rw [maxF]
    by_cases hj : j = i
    · subst hj; omega
    · have := maxF_ge (f := f) (i := i) (j := j) (by omega)
      omega
def wov (l : List Las) (n : Nat) : Int := (l.getD (n % l.length) zBW).s (n / l.length)
theorem wov_per {l : List Las} (h0 : 0 < l.length) {N p : Nat} (h : ∀ i,i < l.length → Per (l.getD i zBW).s N p) : Per (wov l) (N * l.length) (p * l.length) :=
  ⟨Nat.mul_pos (h 0 h0).pos h0,fun n hn => by
    have h1 : n % l.length < l.length := Nat.mod_lt _ h0
    have h2 : N ≤ n / l.length := (Nat.le_div_iff_mul_le h0).2 hn
    unfold wov
    rw [Nat.add_mul_mod_self_right,Nat.add_mul_div_right _ _ h0]
    exact (h _ h1).per _ h2⟩
def RedL (l : List Las) (fa fp : Nat → Nat) : Prop := ∀ i,i < l.length → Red (l.getD i zBW).s (fa i) (fp i) ∧ fa i ≤ (l.getD i zBW).st.length ∧ fp i ≤ (l.getD i zBW).ro.length
theorem RedL.pos {l : List Las} {fa fp : Nat → Nat} (h : RedL l fa fp) : ∀ i,i < l.length → 0 < fp i := fun i hi => (h i hi).1.per.pos
theorem RedL.per {l : List Las} {fa fp : Nat → Nat} (h : RedL l fa fp) {N : Nat} (h0 : 0 < l.length) (hN : maxF fa l.length ≤ N) : Per (wov l) (N * l.length) (lcmF fp l.length * l.length) :=
  wov_per h0 fun i hi => by
    have h1 := (h i hi).1.per.mono (Nat.le_trans (maxF_ge hi) hN)
    obtain ⟨q,hq⟩ := lcmF_dvd (f := fp) hi
    have hp := lcmF_pos h.pos (Nat.le_refl _)
    rw [hq] at hp ⊢
    rw [Nat.mul_comm]
    exact h1.mul (Nat.pos_of_ne_zero fun h0 => by subst h0; simp at hp)
def TwL (l l' : List Las) : Prop := l.length = l'.length ∧ ∀ i,i < l.length → Tw (l.getD i zBW) (l'.getD i zBW)
theorem tw_s {x y : Las} (h : Tw x y) : x.s = y.s := by
  unfold Las.s
  rw [h.2.1,h.2.2]
theorem RedL.tw {l l' : List Las} {fa fp : Nat → Nat} (h : RedL l fa fp) (t : TwL l l') : RedL l' fa fp := fun i hi => by
  have hi' : i < l.length := by have := t.1; omega
  have t1 := t.2 i hi'
  obtain ⟨h1,h2,h3⟩ := h i hi'
  exact ⟨by rw [← tw_s t1]; exact h1,by rw [← t1.2.1]; exact h2,by rw [← t1.2.2]; exact h3⟩
end Go.Proofs.Ytdaljohmfnfgiaa
namespace Go.Proofs.Ytdaljohmfnfgiaa
open Go Go.RowKit Go.Proofs.Ytdaljohmfnfgiaa.Canon
set_option maxRecDepth 20000
theorem gcd_run {A : AHeap} (hw : WF A) {a b : Nat} (ha : a < 4611686018427387904) (hb : b < 4611686018427387904) : Con Try.prog 108 [.int .i64 (a : Int),.int .i64 (b : Int)] A (fun v A1 => v = .int .i64 (Nat.gcd a b : Nat) ∧ Nx A.next A A1) := by
  refine zAM hc Try.func108 rfl (Nat.le_of_ble_eq_true rfl) ?_
  rw [s_in2]
  (repeat (first | refine Rn.seq hc ?_ | refine Rn.skip hc ?_ | refine Rn.block hc ?_ | refine Rn.inBlock hc ?_ | refine Rn.scope hc ?_ | refine Rn.inScope hc ?_))
  refine Rn.reg hc rfl ?_
  simp only [zAS,gd,zAX,rops,fx,zOi,zEl,show Try.f108.ntmps = 12 from rfl]
  (repeat (first | refine Rn.seq hc ?_ | refine Rn.skip hc ?_ | refine Rn.block hc ?_ | refine Rn.inBlock hc ?_ | refine Rn.scope hc ?_ | refine Rn.inScope hc ?_))
  refine Rn.loopI hc (I := fun k s A' => ∃ x y : Nat,k = y ∧ x < 4611686018427387904 ∧ y < 4611686018427387904 ∧ Nat.gcd x y = Nat.gcd a b ∧ Nx A.next A A' ∧ s.n = 12 ∧ sget s 0 = .int .i64 (x : Int) ∧ sget s 1 = .int .i64 (y : Int))
    (n := b) ⟨a,b,rfl,ha,hb,rfl,Nx.refl hw _,by simp only [sp_n],by simp only [zAU,zAT,Nat.reduceLT,ne_eq,Nat.reduceEqDiff,zNf],by simp only [zAU,zAT,sp_n,Nat.reduceLT,ne_eq,Nat.reduceEqDiff,zNf]⟩ ?_
  rintro k s A' ⟨x,y,hky,hx',hy',hg,hA,hn,s0,s1⟩ ih
  (repeat (first | refine Rn.seq hc ?_ | refine Rn.skip hc ?_ | refine Rn.block hc ?_ | refine Rn.inBlock hc ?_ | refine Rn.scope hc ?_ | refine Rn.inScope hc ?_))
  by_cases hy0 : y = 0
  · subst hy0
    clear ih
    rw [Nat.gcd_zero_right] at hg
    refine Rn.reg hc rfl ?_
    simp only [zAY,zAS,zAU,Nat.reduceLT,gd,zAX,rops,fx,zBP,zOi,zEl,Bool.not_true,Bool.not_true,hn,s1,Int.natCast_zero,eq_self,decide_true,Bool.not_true]
    (repeat (first | refine Rn.seq hc ?_ | refine Rn.skip hc ?_ | refine Rn.block hc ?_ | refine Rn.inBlock hc ?_ | refine Rn.scope hc ?_ | refine Rn.inScope hc ?_))
    refine Rn.zAI hc rfl ?_
    simp only [zAY,zAU,sp_n,Nat.reduceLT,Value.bool.injEq,zEl,hn]
    (repeat (first | refine Rn.seq hc ?_ | refine Rn.skip hc ?_ | refine Rn.block hc ?_ | refine Rn.inBlock hc ?_ | refine Rn.scope hc ?_ | refine Rn.inScope hc ?_))
    refine Rn.exit hc rfl ?_
    (repeat (first | refine Rn.seq hc ?_ | refine Rn.skip hc ?_ | refine Rn.block hc ?_ | refine Rn.inBlock hc ?_ | refine Rn.scope hc ?_ | refine Rn.inScope hc ?_))
    refine Rn.reg hc rfl ?_
    simp only [zAY,zAU,zAT,sp_n,Nat.reduceLT,ne_eq,Nat.reduceEqDiff,zNf,gd,zAX,rops,fx,zOi,zEl,hn,s0]
    (repeat (first | refine Rn.seq hc ?_ | refine Rn.skip hc ?_ | refine Rn.block hc ?_ | refine Rn.inBlock hc ?_ | refine Rn.scope hc ?_ | refine Rn.inScope hc ?_))
    refine Rn.ret (zAJ rfl ⟨?_,hA⟩)
    simp only [zAU,sp_n,Nat.reduceLT,hn,hg]
  · have hd : (!decide ((y : Int) = 0)) = true := by rw [decide_eq_false (by omega)]; rfl
    have hrem : ∀ M,bin Try.prog .rem 3 (.int .i64 (x : Int)) (.int .i64 (y : Int)) M = some (.int .i64 ((x % y : Nat) : Int),M) := fun M => by
      rw [zCM _ _ _ _ (by omega),IntWalk.rem_in _ _ (by omega)]
      rfl
    have hlt := Nat.mod_lt x (Nat.pos_of_ne_zero hy0)
    refine Rn.reg hc rfl ?_
    simp only [zAY,zAS,zAU,Nat.reduceLT,gd,zAX,rops,fx,zBP,zOi,zEl,hn,s1,hd]
    (repeat (first | refine Rn.seq hc ?_ | refine Rn.skip hc ?_ | refine Rn.block hc ?_ | refine Rn.inBlock hc ?_ | refine Rn.scope hc ?_ | refine Rn.inScope hc ?_))
    refine Rn.zAI hc rfl ?_
    simp only [zAY,zAU,sp_n,Nat.reduceLT,Value.bool.injEq,zEl,hn]
    (repeat (first | refine Rn.seq hc ?_ | refine Rn.skip hc ?_ | refine Rn.block hc ?_ | refine Rn.inBlock hc ?_ | refine Rn.scope hc ?_ | refine Rn.inScope hc ?_))
    refine Rn.drawnR hc hx (by kernel_rfl) (by rfl) (by kernel_rfl) ?_ ?_
    · simp only [rdV,VQ.int,zAY,zAU,zAT,sp_n,Nat.reduceLT,ne_eq,Nat.reduceEqDiff,zNf,gd,zAX,fx,Nat.zero_add,Nat.reduceAdd,and_self,hn,s0,s1,hrem,List.length_cons,List.length_nil]
    simp only [zAY,zAU,zAT,sp_n,Nat.reduceLT,ne_eq,Nat.reduceEqDiff,zNf,gd,zAX,rops,fx,Nat.zero_add,zOi,zEl,Nat.reduceAdd,hn,s0,s1,hrem,List.length_cons,List.length_nil]
    (repeat (first | refine Rn.seq hc ?_ | refine Rn.skip hc ?_ | refine Rn.block hc ?_ | refine Rn.inBlock hc ?_ | refine Rn.scope hc ?_ | refine Rn.inScope hc ?_))
    refine ih _ _ _ (by rw [hky]; exact hlt) ⟨y,x % y,rfl,hy',by omega,?_,Nx.bump hA _,by simp only [sp_n,hn],by simp only [zAU,zAT,sp_n,Nat.reduceLT,ne_eq,Nat.reduceEqDiff,zNf,hn],by simp only [zAU,sp_n,Nat.reduceLT,hn]⟩
    rw [← hg,Nat.gcd_comm x y,Nat.gcd_rec y x,Nat.gcd_comm]
theorem quo_nat {x d : Nat} (hd : 0 < d) (hx : x < 4611686018427387904) (M : AHeap) : bin Try.prog .quo 3 (.int .i64 (x : Int)) (.int .i64 (d : Int)) M = some (.int .i64 ((x / d : Nat) : Int),M) := by
  have hle := Nat.div_le_self x d
  have e : ((x : Int)).tdiv (d : Int) = ((x / d : Nat) : Int) := by
    rw [Int.tdiv_eq_ediv_of_nonneg (by omega)]
    rfl
  have e2 : IntKind.i64.wrap ((x / d : Nat) : Int) = ((x / d : Nat) : Int) := by
    clear e
    generalize x / d = q at hle
    rw [IntWalk.i64_in _ (by omega)]
  rw [bin_quo _ _ _ _ (by omega),e,e2]
theorem lcmN_le {a b : Nat} : lcmN a b ≤ a * b := Nat.mul_le_mul_right _ (Nat.div_le_self _ _)
theorem lcm_run {A : AHeap} (hw : WF A) {b n c : Nat} {g : Nat → Nat} (hb : ∀ i,i < n → cl A b i = some (.int .i64 (g i : Int))) (hbA : b < A.next) (hn1 : n < 1000) (hg : ∀ i,i < n → 0 < g i ∧ g i ≤ 100000 ∧ lcmF g i ≤ 100000) :
    Con Try.prog 82 [.slice (some ⟨b,0,none⟩) n c] A (fun v A1 => v = .int .i64 ((lcmF g n : Nat) : Int) ∧ Nx A.next A A1) := by
  refine zAM hc Try.func82 rfl (Nat.le_of_ble_eq_true rfl) ?_
  rw [s_in1]
  (repeat (first | refine Rn.seq hc ?_ | refine Rn.skip hc ?_ | refine Rn.block hc ?_ | refine Rn.inBlock hc ?_ | refine Rn.scope hc ?_ | refine Rn.inScope hc ?_))
  refine Rn.reg hc rfl ?_
  simp only [zAS,gd,zAX,rops,fx,zOi,zEl,show Try.f82.ntmps = 21 from rfl]
  (repeat (first | refine Rn.seq hc ?_ | refine Rn.skip hc ?_ | refine Rn.block hc ?_ | refine Rn.inBlock hc ?_ | refine Rn.scope hc ?_ | refine Rn.inScope hc ?_))
  refine Rn.reg hc rfl ?_
  simp only [zAS,gd,zAX,rops,fx,zOi,zEl]
  (repeat (first | refine Rn.seq hc ?_ | refine Rn.skip hc ?_ | refine Rn.block hc ?_ | refine Rn.inBlock hc ?_ | refine Rn.scope hc ?_ | refine Rn.inScope hc ?_))
  refine Rn.reg hc rfl ?_
  simp only [zAY,zAS,zAU,zAT,sp_n,Nat.reduceLT,ne_eq,Nat.reduceEqDiff,zNf,gd,zAX,rops,fx,lng,zOi,zEl,un22]
  (repeat (first | refine Rn.seq hc ?_ | refine Rn.skip hc ?_ | refine Rn.block hc ?_ | refine Rn.inBlock hc ?_ | refine Rn.scope hc ?_ | refine Rn.inScope hc ?_))
  refine Rn.loopI hc (I := fun k s B => ∃ i,i ≤ n ∧ k = n - i ∧ Nx A.next A B ∧ s.n = 21 ∧ sget s 3 = .int .i64 ((lcmF g i : Nat) : Int) ∧ sget s 6 = .slice (some ⟨b,0,none⟩) n c ∧ sget s 7 = .int .i64 (n : Int) ∧ sget s 8 = .int .i64 (i : Int))
    (n := n) ⟨0,by omega,rfl,Nx.refl hw _,by simp only [sp_n],by simp only [zAU,zAT,sp_n,Nat.reduceLT,ne_eq,Nat.reduceEqDiff,zNf]; rfl,by simp only [zAU,zAT,sp_n,Nat.reduceLT,ne_eq,Nat.reduceEqDiff,zNf],by simp only [zAU,zAT,sp_n,Nat.reduceLT,ne_eq,Nat.reduceEqDiff,zNf],by simp only [zAU,sp_n,Nat.reduceLT]; rfl⟩ ?_
  rintro k s B ⟨i,hi,rfl,hA,hn,s3,s6,s7,s8⟩ ih
  (repeat (first | refine Rn.seq hc ?_ | refine Rn.skip hc ?_ | refine Rn.block hc ?_ | refine Rn.inBlock hc ?_ | refine Rn.scope hc ?_ | refine Rn.inScope hc ?_))
  by_cases hlt : i < n
  · have hd : decide ((i : Int) < (n : Int)) = true := decide_eq_true (by omega)
    obtain ⟨g0,g1,g2⟩ := hg i hlt
    have hp : 0 < lcmF g i := lcmF_pos (k := n) (fun j hj => (hg j hj).1) hi
    have hci : cl B b i = some (.int .i64 (g i : Int)) := (hA.cl hbA i).trans (hb i hlt)
    have hci' : cl B b (0 + i * 1) = some (.int .i64 (g i : Int)) := by rw [Nat.zero_add,Nat.mul_one]; exact hci
    refine Rn.reg hc rfl ?_
    simp only [zAY,gd,zAX,rops,fx,zAP,zOi,zEl,s7,s8,hd]
    (repeat (first | refine Rn.seq hc ?_ | refine Rn.skip hc ?_ | refine Rn.block hc ?_ | refine Rn.inBlock hc ?_ | refine Rn.scope hc ?_ | refine Rn.inScope hc ?_))
    refine Rn.zAI hc rfl ?_
    simp only [zAY,zAU,Nat.reduceLT,Value.bool.injEq,zEl,hn]
    (repeat (first | refine Rn.seq hc ?_ | refine Rn.skip hc ?_ | refine Rn.block hc ?_ | refine Rn.inBlock hc ?_ | refine Rn.scope hc ?_ | refine Rn.inScope hc ?_))
    refine Rn.reg hc rfl ?_
    simp only [zAY,zAU,zAT,sp_n,Nat.reduceLT,ne_eq,Nat.reduceEqDiff,zNf,gd,zAX,rops,fx,ld,idx,zAR,Nat.zero_add,zOi,zEl,Nat.mul_one,tk3,eo22,hn,s6,s8,zAK hlt,hci]
    (repeat (first | refine Rn.seq hc ?_ | refine Rn.skip hc ?_ | refine Rn.block hc ?_ | refine Rn.inBlock hc ?_ | refine Rn.scope hc ?_ | refine Rn.inScope hc ?_))
    refine Rn.region hc fun K hK => ?_
    refine Wo.run hc 3 rfl rfl rfl ?_
    simp (maxSteps := 2000000) only [List.drop_zero,List.take_succ_cons,List.take_zero,zAY,zAU,zAT,sp_n,Nat.reduceLT,ne_eq,Nat.reduceEqDiff,not_false_eq_true,gd,zAX,rops,fx,Nat.zero_add,Option.some.injEq,exists_eq_left',hn,s3]
    refine Wo.call hc (by rfl) (by rfl) ⟨by rfl,by rfl⟩ (xs := [.int .i64 ((lcmF g i : Nat) : Int),.int .i64 (g i : Int)]) (by rfl) (by rfl) (by simp only [zAY,zAU,zAT,sp_n,Nat.reduceLT,ne_eq,Nat.reduceEqDiff,zNf,List.map_cons,List.map_nil,List.nil_append,List.append_nil,hn]) (Con.mono (gcd_run hA.wf (by omega) (by omega)) ?_)
    rintro w B1 ⟨rfl,hx1⟩
    have hm : IntKind.i64.wrap (((lcmF g i / Nat.gcd (lcmF g i) (g i) : Nat) : Int) * (g i : Int)) = ((lcmF g (i + 1) : Nat) : Int) := by
      have hle : lcmF g (i + 1) ≤ 100000 * 100000 := Nat.le_trans lcmN_le (Nat.mul_le_mul g2 g1)
      rw [← Int.natCast_mul]
      show IntKind.i64.wrap ((lcmF g (i + 1) : Nat) : Int) = _
      rw [IntWalk.i64_in _ (by omega)]
    refine Wo.run hc 4 rfl rfl rfl ?_
    simp (maxSteps := 2000000) only [List.drop_zero,List.drop_succ_cons,List.take_succ_cons,List.take_zero,zAY,zAU,zAT,sp_n,Nat.reduceLT,ne_eq,Nat.reduceEqDiff,not_false_eq_true,gd,zAX,rops,fx,bin_mul,Option.some.injEq,exists_eq_left',Nat.reduceAdd,hn,quo_nat (Nat.gcd_pos_of_pos_left (g i) hp) (show lcmF g i < 4611686018427387904 by omega),hm]
    refine Wo.done hc rfl (hK _ _ ?_)
    clear hK
    (repeat (first | refine Rn.seq hc ?_ | refine Rn.skip hc ?_ | refine Rn.block hc ?_ | refine Rn.inBlock hc ?_ | refine Rn.scope hc ?_ | refine Rn.inScope hc ?_))
    refine Rn.reg hc rfl ?_
    simp only [zAY,zAS,zAU,zAT,sp_n,Nat.reduceLT,ne_eq,Nat.reduceEqDiff,zNf,gd,zAX,rops,fx,zAE,zOi,zEl,hn,s8,zBY (show i < 9223372036854775807 by omega)]
    (repeat (first | refine Rn.seq hc ?_ | refine Rn.skip hc ?_ | refine Rn.block hc ?_ | refine Rn.inBlock hc ?_ | refine Rn.scope hc ?_ | refine Rn.inScope hc ?_))
    exact ih _ _ _ (by omega) ⟨i + 1,by omega,rfl,hA.trans (hx1.le hA.next),by simp only [sp_n,hn],by simp only [zAU,zAT,sp_n,Nat.reduceLT,ne_eq,Nat.reduceEqDiff,zNf,hn],by simp only [zAT,ne_eq,Nat.reduceEqDiff,zNf,s6],by simp only [zAT,ne_eq,Nat.reduceEqDiff,zNf,s7],by simp only [zAU,sp_n,Nat.reduceLT,hn]⟩
  · have hd : decide ((i : Int) < (n : Int)) = false := decide_eq_false (by omega)
    have hil : i = n := by omega
    subst hil
    clear ih
    refine Rn.reg hc rfl ?_
    simp only [zAY,gd,zAX,rops,fx,zAP,zOi,zEl,s7,s8,hd]
    (repeat (first | refine Rn.seq hc ?_ | refine Rn.skip hc ?_ | refine Rn.block hc ?_ | refine Rn.inBlock hc ?_ | refine Rn.scope hc ?_ | refine Rn.inScope hc ?_))
    refine Rn.zAI hc rfl ?_
    simp only [zAY,zAU,Nat.reduceLT,Value.bool.injEq,zEl,hn]
    (repeat (first | refine Rn.seq hc ?_ | refine Rn.skip hc ?_ | refine Rn.block hc ?_ | refine Rn.inBlock hc ?_ | refine Rn.scope hc ?_ | refine Rn.inScope hc ?_))
    refine Rn.exit hc rfl ?_
    (repeat (first | refine Rn.seq hc ?_ | refine Rn.skip hc ?_ | refine Rn.block hc ?_ | refine Rn.inBlock hc ?_ | refine Rn.scope hc ?_ | refine Rn.inScope hc ?_))
    refine Rn.reg hc rfl ?_
    simp only [zAY,zAU,zAT,sp_n,Nat.reduceLT,ne_eq,Nat.reduceEqDiff,zNf,gd,zAX,rops,fx,zOi,zEl,hn,s3]
    (repeat (first | refine Rn.seq hc ?_ | refine Rn.skip hc ?_ | refine Rn.block hc ?_ | refine Rn.inBlock hc ?_ | refine Rn.scope hc ?_ | refine Rn.inScope hc ?_))
    refine Rn.ret (zAJ rfl ⟨?_,hA⟩)
    simp only [zAU,sp_n,Nat.reduceLT,hn]
theorem lcmF_two (x y : Nat) : lcmF (fun i => if i = 0 then x else y) 2 = lcmN x y := by
  show lcmN (lcmN 1 x) y = _
  rw [lcmN_eq 1 x,Nat.lcm_one_left]
theorem lcm_two {A : AHeap} (hw : WF A) {b c x y : Nat} (h0 : cl A b 0 = some (.int .i64 (x : Int))) (h1 : cl A b 1 = some (.int .i64 (y : Int))) (hbA : b < A.next) (hx : 0 < x ∧ x ≤ 100000) (hy : 0 < y ∧ y ≤ 100000) :
    Con Try.prog 82 [.slice (some ⟨b,0,none⟩) 2 c] A (fun v A1 => v = .int .i64 ((lcmN x y : Nat) : Int) ∧ Nx A.next A A1) := by
  have h := lcm_run hw (b := b) (n := 2) (c := c) (g := fun i => if i = 0 then x else y) (fun i hi => by
    rcases (show i = 0 ∨ i = 1 by omega) with rfl | rfl
    · exact h0
    · exact h1) hbA (by omega) (fun i hi => by
    rcases (show i = 0 ∨ i = 1 by omega) with rfl | rfl
    · exact ⟨hx.1,hx.2,by show 1 ≤ 100000; omega⟩
    · refine ⟨hy.1,hy.2,?_⟩
      show lcmN 1 x ≤ 100000
      rw [lcmN_eq,Nat.lcm_one_left]
      exact hx.2)
  rw [lcmF_two] at h
  exact h
end Go.Proofs.Ytdaljohmfnfgiaa
namespace Go.Proofs.Ytdaljohmfnfgiaa
open Go Go.RowKit Go.Proofs.Ytdaljohmfnfgiaa.Canon
set_option maxRecDepth 20000
theorem so22_2 : sof Try.prog 22 2 = .mk (fun k => some (k * 1,1)) 2 [.int .i64 0,.int .i64 0] := by kernel_rfl
section
variable {ρ : Operand → Value} {d : Option Tmp} {ty : TypeId} {pos : String} {af : Array Edge} {gu : Option (Nat × Bool)} {A : AHeap}
theorem bs22_2 {x y : Tmp} (h1 : zAA (ρ (.tmp x)) = true) (h2 : zAA (ρ (.tmp y)) = true) : zAL Try.prog ρ ⟨d,.buildSlice 22 2 #[(0,.tmp x),(1,.tmp y)],ty,pos,af,gu⟩ A = some (.slice (some ⟨A.next,0,none⟩) 2 2,A.push (.cells #[ρ (.tmp x),ρ (.tmp y)] 3)) := by
  refine zCS (r := [ρ (.tmp x),ρ (.tmp y)]) (by rfl) so22_2 et22 rfl ?_
  simp [fbld,zBX h1,zBX h2]
end
structure Gr2 (A : AHeap) (wa wb : Option Addr) (lo : Nat) (L1 L2 : List Int) : Prop where
  g1 : Gr A wa lo L1
  g2 : ∃ M,lo ≤ M ∧ M ≤ A.next ∧ (∀ y,wa = some y → y.block < M) ∧ Gr A wb M L2
  nl : L2 = [] → wb = none
theorem Gr2.nx {A B : AHeap} {wa wb : Option Addr} {lo : Nat} {L1 L2 : List Int} (h : Gr2 A wa wb lo L1 L2) (hw : WF A) (k : Nx A.next A B) : Gr2 B wa wb lo L1 L2 := by
  obtain ⟨M,h1,h2,h3,h4⟩ := h.g2
  exact ⟨h.g1.nx (n := 0) hw k,⟨M,h1,Nat.le_trans h2 k.next,h3,h4.nx (n := 0) hw k⟩,h.nl⟩
end Go.Proofs.Ytdaljohmfnfgiaa
namespace Go.Proofs.Ytdaljohmfnfgiaa
open Go Go.RowKit Go.Proofs.Ytdaljohmfnfgiaa.Canon
set_option maxRecDepth 20000
theorem err_len {x : Las} (h : x.err = 0) : x.st.length ≤ 60 ∧ x.ro.length ≤ 120 ∧ 0 < x.ro.length := ⟨(errL_len h).1,(errL_len h).2,errL_pos h⟩
end Go.Proofs.Ytdaljohmfnfgiaa
namespace Go.Proofs.Ytdaljohmfnfgiaa
open Go Go.RowKit Go.Proofs.Ytdaljohmfnfgiaa.Canon
set_option maxRecDepth 20000
section
variable {d : Option Tmp} {ty : TypeId} {pos : String} {af : Array Edge} {gu : Option (Nat × Bool)} {A : AHeap}
end
end Go.Proofs.Ytdaljohmfnfgiaa
namespace Go.Proofs.Ytdaljohmfnfgiaa
open Go Go.RowKit Go.Proofs.Ytdaljohmfnfgiaa.Canon
set_option maxRecDepth 20000
end Go.Proofs.Ytdaljohmfnfgiaa
namespace Go.Proofs.Ytdaljohmfnfgiaa
open Go Go.RowKit Go.Proofs.Ytdaljohmfnfgiaa.Canon
set_option maxRecDepth 20000
theorem el46 : elB Try.prog 46 = some (24,3,56) := by kernel_rfl
def rowL : List Las → List Value
  | [] => []
  | x :: l => .int .i64 x.m :: .slice x.sa x.st.length x.sc :: .slice x.ra x.ro.length x.rc :: rowL l
theorem rowL_len : ∀ l : List Las,(rowL l).length = l.length * 3
  | [] => rfl
  | x :: l => by
    show (rowL l).length + 3 = (l.length + 1) * 3
    rw [rowL_len l]
    omega
theorem rowL_snoc (x : Las) : ∀ l : List Las,rowL (l ++ [x]) = rowL l ++ [.int .i64 x.m,.slice x.sa x.st.length x.sc,.slice x.ra x.ro.length x.rc]
  | [] => rfl
  | y :: l => by
    show _ :: _ :: _ :: rowL (l ++ [x]) = _
    rw [rowL_snoc x l]
    rfl
theorem getD_snoc {l : List Las} {x : Las} {i : Nat} (h : i < l.length) : (l ++ [x]).getD i zBW = l.getD i zBW := by
  rw [List.getD_eq_getElem?_getD,List.getD_eq_getElem?_getD,List.getElem?_append_left h]
theorem getD_last {l : List Las} {x : Las} : (l ++ [x]).getD l.length zBW = x := by
  rw [List.getD_eq_getElem?_getD,List.getElem?_append_right (Nat.le_refl _)]
  simp
structure OwnE (A : AHeap) (lo : Nat) (x : Las) : Prop where
  i1 : Ints A x.sa lo A.next x.st
  i2 : Ints A x.ra lo A.next x.ro
  s1 : Sl A x.sa lo
  s2 : Sl A x.ra lo
  c1 : x.st.length ≤ x.sc
  c2 : x.ro.length ≤ x.rc
  l1 : x.st.length ≤ 200
  l2 : x.ro.length ≤ 200
theorem OwnE.ok {A : AHeap} {lo : Nat} {x : Las} (h : OwnE A lo x) : x.ok A := ⟨h.i1.mono (Nat.zero_le _) (Nat.le_refl _),h.i2.mono (Nat.zero_le _) (Nat.le_refl _),by have := h.l1; omega,by have := h.l2; omega⟩
theorem OwnE.lt {A : AHeap} (hw : WF A) {lo : Nat} {x : Las} (h : OwnE A lo x) {y : Addr} (hy : x.sa = some y ∨ x.ra = some y) : lo ≤ y.block ∧ y.block < A.next := by
  rcases hy with hy | hy
  · obtain ⟨_,h1,z,hz,_⟩ := h.s1 y hy
    exact ⟨h1,hw _ _ hz⟩
  · obtain ⟨_,h1,z,hz,_⟩ := h.s2 y hy
    exact ⟨h1,hw _ _ hz⟩
theorem OwnE.stay {A B : AHeap} {lo : Nat} {x : Las} (h : OwnE A lo x) (hn : A.next ≤ B.next) (he : ∀ y,(x.sa = some y ∨ x.ra = some y) → Canon.look B.objs y.block = Canon.look A.objs y.block) : OwnE B lo x :=
  { i1 := fun i hi => by
      obtain ⟨b,o,e,p1,p2,p3⟩ := h.i1 i hi
      exact ⟨b,o,e,p1,by omega,(zBT (he _ (.inl e))).trans p3⟩
    i2 := fun i hi => by
      obtain ⟨b,o,e,p1,p2,p3⟩ := h.i2 i hi
      exact ⟨b,o,e,p1,by omega,(zBT (he _ (.inr e))).trans p3⟩
    s1 := fun y hy => by
      obtain ⟨p1,p2,z,p3,p4⟩ := h.s1 y hy
      exact ⟨p1,p2,z,(he _ (.inl hy)).trans p3,p4⟩
    s2 := fun y hy => by
      obtain ⟨p1,p2,z,p3,p4⟩ := h.s2 y hy
      exact ⟨p1,p2,z,(he _ (.inr hy)).trans p3,p4⟩
    c1 := h.c1,c2 := h.c2,l1 := h.l1,l2 := h.l2 }
theorem OwnE.nx {A B : AHeap} (hw : WF A) {lo : Nat} {x : Las} (h : OwnE A lo x) (k : Nx A.next A B) : OwnE B lo x := h.stay k.next fun y hy => k.keep _ (h.lt hw hy).2
theorem OwnE.mono {A : AHeap} {lo lo' : Nat} {x : Las} (h : OwnE A lo x) (hl : lo' ≤ lo) : OwnE A lo' x :=
  { i1 := h.i1.mono hl (Nat.le_refl _),i2 := h.i2.mono hl (Nat.le_refl _),s1 := h.s1.mono hl,s2 := h.s2.mono hl,c1 := h.c1,c2 := h.c2,l1 := h.l1,l2 := h.l2 }
structure GrL (A : AHeap) (a : Option Addr) (lo : Nat) (l : List Las) : Prop where
  row : Row A a (rowL l)
  base : Base A a 3
  non : a = none → l = []
  low : ∀ z,a = some z → lo ≤ z.block
  each : ∀ i,i < l.length → OwnE A lo (l.getD i zBW)
  apart : ∀ z,a = some z → ∀ i,i < l.length → ∀ y,((l.getD i zBW).sa = some y ∨ (l.getD i zBW).ra = some y) → y.block ≠ z.block
theorem GrL.lt {A : AHeap} (hw : WF A) {a : Option Addr} {lo : Nat} {l : List Las} (h : GrL A a lo l) {z : Addr} (hz : a = some z) : z.block < A.next := by
  obtain ⟨y,hy,_⟩ := h.base z hz
  exact hw _ _ hy
theorem GrL.nx {A B : AHeap} (hw : WF A) {a : Option Addr} {lo : Nat} {l : List Las} (h : GrL A a lo l) (k : Nx A.next A B) : GrL B a lo l where
  row := by
    rcases h.row with h0 | ⟨b,o,e,hr⟩
    · exact .inl h0
    · have := h.lt hw e
      exact .inr ⟨b,o,e,fun i hi => (k.cl this _).trans (hr i hi)⟩
  base := fun z hz => by
    obtain ⟨y,hy,h2⟩ := h.base z hz
    exact ⟨y,(k.keep _ (hw _ _ hy)).trans hy,h2⟩
  non := h.non
  low := h.low
  each := fun i hi => (h.each i hi).nx hw k
  apart := h.apart
theorem GrL.push {A : AHeap} (hw : WF A) {a : Option Addr} {lo : Nat} {l : List Las} (h : GrL A a lo l) (hlo : lo ≤ A.next) {x : Las} (hx : OwnE A lo x) (hap : ∀ z,a = some z → ∀ y,(x.sa = some y ∨ x.ra = some y) → y.block ≠ z.block) {b2 c2 : Nat}
    (d0 : cl A b2 0 = some (.int .i64 x.m)) (d1 : cl A b2 1 = some (.slice x.sa x.st.length x.sc)) (d2 : cl A b2 2 = some (.slice x.ra x.ro.length x.rc)) (hlen : l.length ≤ 1000) :
    ∃ A1,aapp Try.prog #[46,46] #[.slice a l.length l.length,.slice (some ⟨b2,0,none⟩) 1 c2] A = some (.slice (some ⟨A.next,0,none⟩) (l.length + 1) (l.length + 1),A1) ∧ A1.next = A.next + 1 ∧ GrL A1 (some ⟨A.next,0,none⟩) lo (l ++ [x]) ∧ Nx lo A A1 ∧ WF A1 ∧ (∀ b,b < A.next → (∀ z,a = some z → z.block ≠ b) → Canon.look A1.objs b = Canon.look A.objs b) := by
  obtain ⟨A1,h1,h2⟩ := aapp_new (P := Try.prog) (c := l.length) (c2 := c2) (a := a) (n := l.length) (l := rowL l) (m := 1) (a2 := some ⟨b2,0,none⟩) (l2 := [.int .i64 x.m,.slice x.sa x.st.length x.sc,.slice x.ra x.ro.length x.rc]) el46 un46 h.row (rowL_len l) h.base (fun ha => by rw [h.non ha]; rfl)
    (.inr ⟨b2,0,rfl,fun i hi => by
      have hi3 : i < 3 := hi
      match i,hi3 with
      | 0,_ => exact d0
      | 1,_ => exact d1
      | 2,_ => exact d2⟩) rfl rfl (fun h' => by cases h') (by omega) (by omega) (by omega)
  have hnx := h2.nx hw hlo (fun z hz => .inl (h.low z hz))
  have hkeep : ∀ b,b < A.next → (∀ z,a = some z → z.block ≠ b) → Canon.look A1.objs b = Canon.look A.objs b := fun b hb hne => h2.old b (by omega) fun z hz => .inl (hne z hz)
  refine ⟨A1,h1,h2.next,⟨.inr ⟨A.next,0,rfl,fun i hi => ?_⟩,fun z hz => ?_,fun h0 => (by cases h0),fun z hz => ?_,fun i hi => ?_,fun z hz i hi y hy => ?_⟩,hnx,hnx.wf,hkeep⟩
  · rw [h2.cl,Nat.zero_add,← rowL_snoc]
    exact List.getElem?_eq_getElem hi
  · cases hz
    exact ⟨_,h2.new,.inr ⟨rfl,rfl,rfl⟩⟩
  · cases hz
    exact hlo
  · rw [List.length_append] at hi
    have hi' : i < l.length + 1 := hi
    by_cases hil : i < l.length
    · rw [getD_snoc hil]
      have hE := h.each i hil
      exact hE.stay (by rw [h2.next]; omega) fun y hy => hkeep _ (hE.lt hw hy).2 fun z hz => (h.apart z hz i hil y hy).symm
    · have : i = l.length := by omega
      subst this
      rw [getD_last]
      exact hx.stay (by rw [h2.next]; omega) fun y hy => hkeep _ (hx.lt hw hy).2 fun z hz => (hap z hz y hy).symm
  · cases hz
    rw [List.length_append] at hi
    have hi' : i < l.length + 1 := hi
    by_cases hil : i < l.length
    · rw [getD_snoc hil] at hy
      have := ((h.each i hil).lt hw hy).2
      show y.block ≠ A.next
      omega
    · have : i = l.length := by omega
      subst this
      rw [getD_last] at hy
      have := (hx.lt hw hy).2
      show y.block ≠ A.next
      omega
end Go.Proofs.Ytdaljohmfnfgiaa
namespace Go.Proofs.Ytdaljohmfnfgiaa
section
open Go Go.RowKit Go.Proofs.Ytdaljohmfnfgiaa.Canon
def BysW (W : World) (a : Option Addr) (n : Nat) : Prop := ∀ i,i < n → ∃ b o v,a = some ⟨b,o,none⟩ ∧ W.cell? ⟨b,o + i,none⟩ = some (.int .u8 v)
theorem BysW.bys {W : World} {z : Nat} {A : AHeap} (hA : In W z A) {a : Option Addr} {n : Nat} (h : BysW W a n) : Bys A a A.next n := fun i hi => by
  obtain ⟨b,o,v,rfl,hc⟩ := h i hi
  obtain ⟨c,t,f,h1,h2⟩ := cell_heap hc
  have hlt : b < W.heap.size := (Array.getElem?_eq_some_iff.1 h1).1
  exact ⟨b,o,v,rfl,by rw [hA.next]; have := hA.big; omega,hA.cl h1 h2 rfl⟩
end
section
open Go.ChangeShapes Go.WideShapes Go.ChangeAt Go.RowKit Go.Proofs.Ytdaljohmfnfgiaa.Canon
open Go.Deep (open_slice_pairs open_slice)
theorem Try.cells5 : Try.prog.cellsOf 5 = 1 := by kernel_rfl
section
variable {H : Type} {enc : TypeId × Value → H} {P : Program} {w : World} {base : Nat} {spare : Nat → Bool} {held : Bool}
end
theorem lit_u8 {n : Int} (h : (Lit.int .u8 n).wf = true) : ∃ k : Nat,n = (k : Int) ∧ k < 256 := by
  simp only [Lit.wf,Bool.and_eq_true,decide_eq_true_eq] at h
  have e : IntKind.u8.max = 255 := by rfl
  have e0 : IntKind.u8.min = 0 := by rfl
  exact ⟨n.toNat,by omega,by omega⟩
theorem lit_u16 {n : Int} (h : (Lit.int .u16 n).wf = true) : ∃ k : Nat,n = (k : Int) ∧ k < 65536 := by
  simp only [Lit.wf,Bool.and_eq_true,decide_eq_true_eq] at h
  have e : IntKind.u16.max = 65535 := by rfl
  have e0 : IntKind.u16.min = 0 := by rfl
  exact ⟨n.toNat,by omega,by omega⟩
set_option maxRecDepth 100000 in
theorem val_bytes {w : World} {b : Nat} {v : Value} (h : Value.okWide Try.prog w .any b 55 v) : ∃ a n c,v = .slice a n c ∧ ∀ x,a = some x → x.spot = none := cell_slice Try.underlying55 (val_cell Try.underlying55 h)
set_option maxRecDepth 100000 in
theorem bytes_trod {H : Type} {enc : TypeId × Value → H} {w : World} {base : Nat} {sp : Nat → Bool} {hd : Bool} {fuel : Nat} {a : Option Addr} {n c : Nat} {x : DataW H × List MemPlace}
    (h : DataW.trod enc Try.prog w base sp hd fuel 55 [.slice a n c] = some x) (hsp : ∀ y,a = some y → y.spot = none) : n < 9223372036854775808 ∧ BysW w a n := by
  rcases open_ints Try.underlying55 Try.underlying5 Try.cells5 h with ⟨h1,_⟩ | ⟨a1,len,cap,zs,h1,_,hlc,hm,hz,_,hc,_⟩
  · simp only [List.cons.injEq,Value.slice.injEq,and_true] at h1
    obtain ⟨rfl,rfl,rfl⟩ := h1
    exact ⟨by omega,fun i hi => by omega⟩
  · simp only [List.cons.injEq,Value.slice.injEq,and_true] at h1
    obtain ⟨rfl,rfl,rfl⟩ := h1
    have hle : n ≤ zs.length := by rw [hz]; split <;> omega
    have hmax : maxLen = 9223372036854775807 := by rfl
    refine ⟨by omega,fun i hi => ?_⟩
    obtain ⟨B,O,s⟩ := a1
    have := hsp _ rfl
    simp only at this
    subst this
    have ad : (⟨B,O,none⟩ : Addr).add i = ⟨B,O + i,none⟩ := addr_add B O i
    exact ⟨B,O,_,rfl,by rw [← ad]; exact hc i (by omega)⟩
end
end Go.Proofs.Ytdaljohmfnfgiaa
namespace Go.Proofs.Ytdaljohmfnfgiaa
open Go Go.RowKit Go.Proofs.Ytdaljohmfnfgiaa.Canon
set_option maxRecDepth 20000
theorem cv53 {n : Nat} (hn : n < 256) {A : AHeap} : zCR Try.prog 5 3 (.int .u8 (n : Int)) A = some (.int .i64 (n : Int),A) := by
  rw [cv_int un5 un3,IntWalk.i64_in _ (by omega)]
theorem errL_ok {m : Nat} {st ro : List Int} (h : 2 ≤ m ∧ m ≤ 65521) (h1 : st.length ≤ 60) (h2 : 1 ≤ ro.length) (h3 : ro.length ≤ 120) (h4 : st.all (inB m) = true) (h5 : ro.all (inB m) = true) : errL m st ro = 0 := by
  unfold errL
  rw [if_neg (by simp [badM]; omega),if_neg (by simp [badN]; omega),if_pos (by rw [h4,h5]; rfl)]
theorem atL_in {m : Int} {st ro : List Int} (h1 : st.all (inB m) = true) (h2 : ro.all (inB m) = true) (hro : 0 < ro.length) (n : Nat) : 0 ≤ atL st ro n ∧ atL st ro n < m := by
  have inB_getD : ∀ {l : List Int},l.all (inB m) = true → ∀ {i : Nat},i < l.length → 0 ≤ l.getD i 0 ∧ l.getD i 0 < m := fun {l} h {i} hi => by
    rw [List.all_eq_true] at h
    have := h l[i] (List.getElem_mem hi)
    simp only [inB,Bool.and_eq_true,decide_eq_true_eq] at this
    simpa [List.getD_eq_getElem?_getD,hi] using this
  unfold atL
  split
  · rename_i h; exact inB_getD h1 h
  · exact inB_getD h2 (Nat.mod_lt _ hro)
end Go.Proofs.Ytdaljohmfnfgiaa
namespace Go.Proofs.Ytdaljohmfnfgiaa
open Go Go.RowKit Go.Proofs.Ytdaljohmfnfgiaa.Canon
set_option maxRecDepth 20000
theorem Red.low {s : Nat → Int} {a p N d : Nat} (h : Red s a p) (k : Per s N d) : a ≤ N := h.minA N (k.down h.per)
theorem tp_ok {m : Int} {s : Nat → Int} {mm : Int} {L1 L2 : List Int} {ee : Int} {N d : Nat} (h : TP 0 m s mm L1 L2 ee) (k : Per s N d) (hN : N ≤ 60) (hd : d ≤ 120) : ∃ a p,Red s a p ∧ a ≤ N ∧ p ≤ d ∧ mm = m ∧ L1 = redS s a ∧ L2 = redR s a p ∧ ee = 0 := by
  rcases h with ⟨h0,_⟩ | ⟨_,a,p,hr,h⟩
  · exact absurd rfl h0
  · have ha := hr.low k
    have hp := hr.minP _ _ k
    rcases h with ⟨h1,_⟩ | ⟨_,h2,h3,h4,h5⟩
    · omega
    · exact ⟨a,p,hr,ha,hp,h2,h3,h4,h5⟩
theorem redS_inB {m : Nat} {s : Nat → Int} (h : ∀ n,0 ≤ s n ∧ s n < (m : Int)) (a : Nat) : (redS s a).all (inB m) = true := by
  rw [List.all_eq_true]
  intro x hx
  obtain ⟨i,_,rfl⟩ := List.mem_map.1 hx
  simp [inB,(h i).1,(h i).2]
theorem redR_inB {m : Nat} {s : Nat → Int} (h : ∀ n,0 ≤ s n ∧ s n < (m : Int)) (a p : Nat) : (redR s a p).all (inB m) = true := by
  rw [List.all_eq_true]
  intro x hx
  obtain ⟨i,_,rfl⟩ := List.mem_map.1 hx
  simp [inB,(h (a + i)).1,(h (a + i)).2]
theorem errL_red {m : Nat} {s : Nat → Int} {a p : Nat} (hm : 2 ≤ m ∧ m ≤ 65521) (h : ∀ n,0 ≤ s n ∧ s n < (m : Int)) (ha : a ≤ 60) (hp : 1 ≤ p ∧ p ≤ 120) : errL m (redS s a) (redR s a p) = 0 :=
  errL_ok hm (by rw [zBV]; exact ha) (by rw [zBI]; exact hp.1) (by rw [zBI]; exact hp.2) (redS_inB h a) (redR_inB h a p)
def evS (s : Nat → Int) (step j : Nat) : Nat → Int := fun n => s (j + n * step)
structure TakE (m : Int) (s : Nat → Int) (step j N d : Nat) (x : Las) : Prop where
  m : x.m = m
  red : ∃ a p,Red (evS s step j) a p ∧ a ≤ N ∧ p ≤ d ∧ x.st = redS (evS s step j) a ∧ x.ro = redR (evS s step j) a p
theorem TakE.s {m : Int} {s : Nat → Int} {step j N d : Nat} {x : Las} (h : TakE m s step j N d x) : x.s = evS s step j := by
  obtain ⟨a,p,hr,_,_,e1,e2⟩ := h.red
  unfold Las.s
  rw [e1,e2]
  exact atL_redF hr.per
end Go.Proofs.Ytdaljohmfnfgiaa
namespace Go.Proofs.Ytdaljohmfnfgiaa
open Go Go.RowKit Go.Proofs.Ytdaljohmfnfgiaa.Canon
set_option maxRecDepth 20000
theorem tk65 : tk Try.prog 65 = .one := by kernel_rfl
theorem tk123 : tk Try.prog 123 = .row 7 := by kernel_rfl
theorem fo119_0 : fof Try.prog 119 0 = some 0 := by kernel_rfl
theorem fo121_0 : fof Try.prog 121 0 = some 0 := by kernel_rfl
theorem fo123_0 : fof Try.prog 123 0 = some 0 := by kernel_rfl
theorem fo123_1 : fof Try.prog 123 1 = some 3 := by kernel_rfl
theorem fo123_2 : fof Try.prog 123 2 = some 6 := by kernel_rfl
theorem bo119 : bof Try.prog 119 = .mk (nthR [(0,3)]) 3 [.int .i64 0,.slice none 0 0,.slice none 0 0] := by kernel_rfl
theorem bo121 : bof Try.prog 121 = .mk (nthR [(0,3)]) 3 [.int .i64 0,.slice none 0 0,.slice none 0 0] := by kernel_rfl
theorem bo123 : bof Try.prog 123 = .mk (nthR [(0,3),(3,3),(6,1)]) 7 [.int .i64 0,.slice none 0 0,.slice none 0 0,.int .i64 0,.slice none 0 0,.slice none 0 0,.nilFunc] := by kernel_rfl
theorem arr3 {v : Array Value} (h : v.size = 3) : ∃ a b c,v.toList = [a,b,c] := by
  obtain ⟨l⟩ := v
  match l,h with
  | [a,b,c],_ => exact ⟨a,b,c,rfl⟩
section
variable {ρ : Operand → Value} {d : Option Tmp} {ty : TypeId} {pos : String} {af : Array Edge} {gu : Option (Nat × Bool)} {A : AHeap}
theorem bd119 {x : Tmp} (h : (ρ (.tmp x)).cells.size = 3) : zAL Try.prog ρ ⟨d,.build 119 #[(0,.tmp x)],ty,pos,af,gu⟩ A = some (.agg (ρ (.tmp x)).cells,A) := by
  refine ae_build (r := (ρ (.tmp x)).cells.toList) (by rfl) bo119 rfl ?_
  simp [fbld,nthR,h]
theorem bd121 {x : Tmp} (h : (ρ (.tmp x)).cells.size = 3) : zAL Try.prog ρ ⟨d,.build 121 #[(0,.tmp x)],ty,pos,af,gu⟩ A = some (.agg (ρ (.tmp x)).cells,A) := by
  refine ae_build (r := (ρ (.tmp x)).cells.toList) (by rfl) bo121 rfl ?_
  simp [fbld,nthR,h]
theorem bd123 {x y z : Tmp} (h1 : (ρ (.tmp x)).cells.size = 3) (h2 : (ρ (.tmp y)).cells.size = 3) (h3 : zAA (ρ (.tmp z)) = true) : zAL Try.prog ρ ⟨d,.build 123 #[(0,.tmp x),(1,.tmp y),(2,.tmp z)],ty,pos,af,gu⟩ A = some (.agg ⟨(ρ (.tmp x)).cells.toList ++ ((ρ (.tmp y)).cells.toList ++ [ρ (.tmp z)])⟩,A) := by
  refine ae_build (r := (ρ (.tmp x)).cells.toList ++ ((ρ (.tmp y)).cells.toList ++ [ρ (.tmp z)])) (by rfl) bo123 rfl ?_
  obtain ⟨a0,a1,a2,e1⟩ := arr3 h1
  obtain ⟨b0,b1,b2,e2⟩ := arr3 h2
  simp [fbld,nthR,h1,h2,zBX h3,e1,e2]
theorem ae_asl_lo {x y : Tmp} {t : TypeId} : zAL Try.prog ρ ⟨d,.slice t (.tmp x) (some (.tmp y)) none none,ty,pos,af,gu⟩ A = asl Try.prog t (ρ (.tmp x)) (some (ρ (.tmp y))) none none A := ae_asl (lo := some y) (hi := none) (mx := none)
end
theorem asl_hi0 {A : AHeap} {b N n : Nat} {y : AObj} (hy : Canon.look A.objs b = some y) (hg : y.grown = false) (hn : n ≤ N) : asl Try.prog 22 (.slice (some ⟨b,0,none⟩) N N) none (some (.int .i64 (n : Int))) none A = some (.slice (some ⟨b,0,none⟩) n N,A) := by
  obtain ⟨_,i,z,hinf,_,_,_,hsz,_⟩ := elB_eq el22
  have hb1 : zBS (some (.int .i64 (n : Int))) N = some n := by simp [zBS]
  have hb0 : ∀ d,zBS none d = some d := fun _ => rfl
  have t1 : Nat.ble 0 n = true := Nat.ble_eq_true_of_le (Nat.zero_le _)
  have t2 : Nat.ble n N = true := Nat.ble_eq_true_of_le hn
  have t3 : Nat.ble N N = true := Nat.ble_eq_true_of_le (Nat.le_refl _)
  obtain ⟨ob,g,zz⟩ := y
  simp only at hg
  subst hg
  simp only [asl,un22,hinf,hb0,hb1,t2,Option.isSome_none,Bool.not_false,Bool.true_or,Nat.sub_zero,hy]
  rw [t1,t3]
  by_cases h0 : N = 0
  · simp only [h0,if_pos]
  · simp only [h0,if_false,Nat.zero_mul]
    rfl
theorem asl_lo0 {A : AHeap} {b N n : Nat} {y : AObj} (hy : Canon.look A.objs b = some y) (hg : y.grown = false) (hn : n < N) : asl Try.prog 22 (.slice (some ⟨b,0,none⟩) N N) (some (.int .i64 (n : Int))) none none A = some (.slice (some ⟨b,n,none⟩) (N - n) (N - n),A) := by
  obtain ⟨_,i,z,hinf,_,_,_,hsz,_⟩ := elB_eq el22
  have hb1 : zBS (some (.int .i64 (n : Int))) 0 = some n := by simp [zBS]
  have hb0 : ∀ d,zBS none d = some d := fun _ => rfl
  have t2 : Nat.ble n N = true := Nat.ble_eq_true_of_le (by omega)
  have t3 : Nat.ble N N = true := Nat.ble_eq_true_of_le (Nat.le_refl _)
  have hne : ¬ N = n := by omega
  obtain ⟨ob,g,zz⟩ := y
  simp only at hg
  subst hg
  simp only [asl,un22,hinf,hb0,hb1,t2,Option.isSome_none,Bool.not_false,Bool.true_or,hy]
  rw [t3]
  simp only [hne,if_false,hsz,Nat.mul_one]
  simp [Addr.add]
  exact fun h => h.symm
noncomputable def mk2 (v w : Value) (A : AHeap) : Option (Value × AHeap) := zAL Try.prog (fun o => match o with
  | .tmp 0 => v
  | _ => w) ⟨none,.makeSlice 22 (.tmp 0) (.tmp 1),22, "",#[],none⟩ A
theorem ae_mk2 {s : Slots} {x y : Tmp} {d : Option Tmp} {ty : TypeId} {pos : String} {af : Array Edge} {gu : Option (Nat × Bool)} {A : AHeap} : zAL Try.prog (zBU s) ⟨d,.makeSlice 22 (.tmp x) (.tmp y),ty,pos,af,gu⟩ A = mk2 (sget s x) (sget s y) A := by
  simp [zAL,mk2,Op.operands,zAF,zAY]
theorem mk2_nat {n : Nat} {A : AHeap} (h : n ≤ 1000000) : mk2 (.int .i64 (n : Int)) (.int .i64 (n : Int)) A = some (.slice (some ⟨A.next,0,none⟩) n n,A.push (.cells (Array.replicate n (.int .i64 0)) 3)) :=
  ae_makeSlice (k := .i64) (k' := .i64) ⟨by rfl,by rfl⟩ el22 ze3 rfl rfl rfl (Nat.le_refl _) (by omega) (by omega)
def nrm (n m : Int) : Int := (n.tmod m + m).tmod m
theorem tmod_lim (n : Int) {m : Int} (h : 0 < m) : -m < n.tmod m ∧ n.tmod m < m := by
  refine ⟨?_,Int.tmod_lt_of_pos _ h⟩
  have := Int.lt_tmod_of_pos n h
  omega
theorem nrm_lim (n : Int) {m : Int} (h : 0 < m) : 0 ≤ nrm n m ∧ nrm n m < m := by
  have := tmod_lim n h
  unfold nrm
  exact ⟨Int.tmod_nonneg _ (by omega),Int.tmod_lt_of_pos _ h⟩
theorem norm_run {A : AHeap} (hw : WF A) {n m : Int} (hm : 0 < m ∧ m ≤ 65521) : Con Try.prog 89 [.int .i64 n,.int .i64 m] A (fun v A1 => v = .int .i64 (nrm n m) ∧ Nx A.next A A1) := by
  refine zAM hc Try.func89 rfl (Nat.le_of_ble_eq_true rfl) ?_
  have hl := tmod_lim n hm.1
  have hr : ∀ (x : Int) M,bin Try.prog .rem 3 (.int .i64 x) (.int .i64 m) M = some (.int .i64 (x.tmod m),M) := fun x M => zCM _ _ _ _ (by omega)
  have hw1 : IntKind.i64.wrap (n.tmod m + m) = n.tmod m + m := IntWalk.i64_in _ ⟨by omega,by omega⟩
  rw [s_in2]
  (repeat (first | refine Rn.seq hc ?_ | refine Rn.skip hc ?_ | refine Rn.block hc ?_ | refine Rn.inBlock hc ?_ | refine Rn.scope hc ?_ | refine Rn.inScope hc ?_))
  refine Rn.reg hc rfl ?_
  simp only [zAS,gd,zAX,rops,fx,zOi,zEl,show Try.f89.ntmps = 12 from rfl]
  (repeat (first | refine Rn.seq hc ?_ | refine Rn.skip hc ?_ | refine Rn.block hc ?_ | refine Rn.inBlock hc ?_ | refine Rn.scope hc ?_ | refine Rn.inScope hc ?_))
  refine Rn.reg hc rfl ?_
  simp only [zAY,zAU,zAT,sp_n,Nat.reduceLT,ne_eq,Nat.reduceEqDiff,zNf,gd,zAX,rops,fx,zAE,zOi,zEl,hr,hw1]
  (repeat (first | refine Rn.seq hc ?_ | refine Rn.skip hc ?_ | refine Rn.block hc ?_ | refine Rn.inBlock hc ?_ | refine Rn.scope hc ?_ | refine Rn.inScope hc ?_))
  refine Rn.ret (zAJ rfl ⟨?_,Nx.refl hw _⟩)
  simp only [zAU,sp_n,Nat.reduceLT]
  rfl
def PutC (g : FuncId) (ca : List Value) (A : AHeap) (f : Int → Int → Int) : Prop := ∀ B,Nx A.next A B → ∀ x y : Int,0 ≤ x → x < 65536 → 0 ≤ y → y < 65536 → Con Try.prog g (.int .i64 x :: .int .i64 y :: ca) B (fun v B1 => v = .int .i64 (f x y) ∧ Nx B.next B B1)
theorem PutC.nx {g : FuncId} {ca : List Value} {A B : AHeap} {f : Int → Int → Int} (h : PutC g ca A f) (k : Nx A.next A B) : PutC g ca B f := fun C hC => h C (k.trans (hC.le k.next))
theorem sum_put {A : AHeap} {b : Nat} {m : Int} (hb : cl A b 0 = some (.int .i64 m)) (hbA : b < A.next) (hm : 0 < m ∧ m ≤ 65521) : PutC 85 [.pointer (some ⟨b,0,none⟩)] A (fun x y => (x + y).tmod m) := fun B hB x y x0 x1 y0 y1 => by
  refine zAM hc Try.func85 rfl (Nat.le_of_ble_eq_true rfl) ?_
  have hb := (hB.cl hbA 0).trans hb
  have hr : ∀ (x : Int) M,bin Try.prog .rem 3 (.int .i64 x) (.int .i64 m) M = some (.int .i64 (x.tmod m),M) := fun x M => zCM _ _ _ _ (by omega)
  have hw1 : IntKind.i64.wrap (x + y) = x + y := IntWalk.i64_in _ ⟨by omega,by omega⟩
  rw [s_in3]
  (repeat (first | refine Rn.seq hc ?_ | refine Rn.skip hc ?_ | refine Rn.block hc ?_ | refine Rn.inBlock hc ?_ | refine Rn.scope hc ?_ | refine Rn.inScope hc ?_))
  refine Rn.reg hc rfl ?_
  simp only [zAS,gd,zAX,rops,fx,zOi,zEl,show Try.f85.ntmps = 12 from rfl]
  (repeat (first | refine Rn.seq hc ?_ | refine Rn.skip hc ?_ | refine Rn.block hc ?_ | refine Rn.inBlock hc ?_ | refine Rn.scope hc ?_ | refine Rn.inScope hc ?_))
  refine Rn.reg hc rfl ?_
  simp only [zAY,zAU,zAT,sp_n,Nat.reduceLT,ne_eq,Nat.reduceEqDiff,zNf,gd,zAX,rops,fx,ld,fad,zAE,zAR,Nat.add_zero,zOi,zEl,tk3,fo24_0,hr,hw1,hb]
  (repeat (first | refine Rn.seq hc ?_ | refine Rn.skip hc ?_ | refine Rn.block hc ?_ | refine Rn.inBlock hc ?_ | refine Rn.scope hc ?_ | refine Rn.inScope hc ?_))
  refine Rn.ret (zAJ rfl ⟨?_,Nx.refl hB.wf _⟩)
  simp only [zAU,sp_n,Nat.reduceLT]
theorem mul_lim {x y : Int} (x0 : 0 ≤ x) (x1 : x < 65536) (y0 : 0 ≤ y) (y1 : y < 65536) : 0 ≤ x * y ∧ x * y < 4294967296 := by
  refine ⟨Int.mul_nonneg x0 y0,?_⟩
  have h1 : x * y ≤ 65535 * 65535 := Int.mul_le_mul (by omega) (by omega) y0 (by omega)
  omega
def nmS (u : Int) : Canon.Spec := fun _ _ A v A1 => v = .int .i64 u ∧ Nx A.next A A1
theorem scale_put {A : AHeap} {b c : Nat} {m k : Int} (hb : cl A b 0 = some (.int .i64 k)) (hbA : b < A.next) (hcl : cl A c 0 = some (.int .i64 m)) (hcA : c < A.next) (hm : 0 < m ∧ m ≤ 65521) : PutC 88 [.pointer (some ⟨b,0,none⟩),.pointer (some ⟨c,0,none⟩)] A (fun x _ => (nrm k m * x).tmod m) := fun B hB x y x0 x1 y0 y1 => by
  refine zAM hc Try.func88 rfl (Nat.le_of_ble_eq_true rfl) ?_
  have hr : ∀ (x : Int) M,bin Try.prog .rem 3 (.int .i64 x) (.int .i64 m) M = some (.int .i64 (x.tmod m),M) := fun x M => zCM _ _ _ _ (by omega)
  have hk := nrm_lim k hm.1
  have hl := mul_lim hk.1 (by omega) x0 x1
  have hw1 : IntKind.i64.wrap (nrm k m * x) = nrm k m * x := IntWalk.i64_in _ ⟨by omega,by omega⟩
  obtain ⟨F,hF1,hF2,hF⟩ : ∃ F : AHeap → Prop,(∀ M,F M → cl M b 0 = some (.int .i64 k)) ∧ (∀ M,F M → cl M c 0 = some (.int .i64 m)) ∧ (∀ M,Nx B.next B M → F M) :=
    ⟨fun M => cl M b 0 = some (.int .i64 k) ∧ cl M c 0 = some (.int .i64 m),fun _ h => h.1,fun _ h => h.2,fun M h => ⟨(h.cl (by have := hB.next; omega) 0).trans ((hB.cl hbA 0).trans hb),(h.cl (by have := hB.next; omega) 0).trans ((hB.cl hcA 0).trans hcl)⟩⟩
  have hbk : Nx B.next B (bump B 10) := Nx.bump (Nx.refl hB.wf _) 10
  have FB := hF _ hbk
  rw [s_in4]
  (repeat (first | refine Rn.seq hc ?_ | refine Rn.skip hc ?_ | refine Rn.block hc ?_ | refine Rn.inBlock hc ?_ | refine Rn.scope hc ?_ | refine Rn.inScope hc ?_))
  refine Rn.reg hc rfl ?_
  simp only [zAS,gd,zAX,rops,fx,zOi,zEl,show Try.f88.ntmps = 16 from rfl]
  (repeat (first | refine Rn.seq hc ?_ | refine Rn.skip hc ?_ | refine Rn.block hc ?_ | refine Rn.inBlock hc ?_ | refine Rn.scope hc ?_ | refine Rn.inScope hc ?_))
  refine Rn.drawnF hc hx (nmS (nrm k m)) F (n := 1) (k := 10) (by kernel_rfl) (by kernel_rfl) (by rfl) ?_
  refine Dr.read (by first | rfl | kernel_rfl) (by rfl) (by assumption) (fun M hM => by simp only [zAY,zAU,zAT,sp_n,Nat.reduceLT,ne_eq,Nat.reduceEqDiff,zNf,fx,ld,zAR,tk3,hF1 M hM] <;> rfl) (by rfl) (by first | exact VQ.int _ _ | exact VQ.bool _ | exact VQ.ptr _ _ | exact VQ.slice _ _ _ | exact VQ.func (by simp [zAW,zAV,zAZ]) (by simp [zAW,zAV,zAZ]) | exact VQ.agg (by simp [zAW,zAV,zAZ]) | exact VQ.tuple (by simp [zAW,zAV,zAZ])) ?_
  refine Dr.read (by first | rfl | kernel_rfl) (by rfl) (by assumption) (fun M hM => by simp only [zAY,zAU,zAT,sp_n,Nat.reduceLT,ne_eq,Nat.reduceEqDiff,zNf,fx,fad,zAR,Nat.add_zero,fo24_0] <;> rfl) (by rfl) (by first | exact VQ.int _ _ | exact VQ.bool _ | exact VQ.ptr _ _ | exact VQ.slice _ _ _ | exact VQ.func (by simp [zAW,zAV,zAZ]) (by simp [zAW,zAV,zAZ]) | exact VQ.agg (by simp [zAW,zAV,zAZ]) | exact VQ.tuple (by simp [zAW,zAV,zAZ])) ?_
  refine Dr.read (by first | rfl | kernel_rfl) (by rfl) (by assumption) (fun M hM => by simp only [zAY,zAU,sp_n,Nat.reduceLT,fx,ld,zAR,tk3,hF2 M hM] <;> rfl) (by rfl) (by first | exact VQ.int _ _ | exact VQ.bool _ | exact VQ.ptr _ _ | exact VQ.slice _ _ _ | exact VQ.func (by simp [zAW,zAV,zAZ]) (by simp [zAW,zAV,zAZ]) | exact VQ.agg (by simp [zAW,zAV,zAZ]) | exact VQ.tuple (by simp [zAW,zAV,zAZ])) ?_
  refine Dr.call (by kernel_rfl) (by rfl) (by assumption) (by rfl) (zAC (by rfl) ⟨by rfl,by rfl⟩ (by rfl) (xs := [.int .i64 k,.int .i64 m]) (by simp only [zAY,zAU,zAT,sp_n,Nat.reduceLT,ne_eq,Nat.reduceEqDiff,zNf,List.map_cons,List.map_nil,List.nil_append,List.append_nil]) (Con.mono (norm_run hbk.wf hm) fun v A1 h => (h : v = .int .i64 (nrm k m) ∧ Nx (bump B 10).next (bump B 10) A1))) ?_
  rintro v M1 ⟨rfl,k1⟩
  have hM1 : Nx B.next B M1 := hbk.trans (k1.le hbk.next)
  have FM1 := hF _ hM1
  refine Dr.read (by first | rfl | kernel_rfl) (by rfl) (by assumption) (fun M hM => by simp only [zAY,zAU,zAT,Nat.reduceLT,ne_eq,Nat.reduceEqDiff,zNf,fx] <;> rfl) (by rfl) (by first | exact VQ.int _ _ | exact VQ.bool _ | exact VQ.ptr _ _ | exact VQ.slice _ _ _ | exact VQ.func (by simp [zAW,zAV,zAZ]) (by simp [zAW,zAV,zAZ]) | exact VQ.agg (by simp [zAW,zAV,zAZ]) | exact VQ.tuple (by simp [zAW,zAV,zAZ])) ?_
  refine Dr.read (by first | rfl | kernel_rfl) (by rfl) (by assumption) (fun M hM => by simp only [zAY,zAU,zAT,sp_n,Nat.reduceLT,ne_eq,Nat.reduceEqDiff,zNf,fx,bin_mul,hw1] <;> rfl) (by rfl) (by first | exact VQ.int _ _ | exact VQ.bool _ | exact VQ.ptr _ _ | exact VQ.slice _ _ _ | exact VQ.func (by simp [zAW,zAV,zAZ]) (by simp [zAW,zAV,zAZ]) | exact VQ.agg (by simp [zAW,zAV,zAZ]) | exact VQ.tuple (by simp [zAW,zAV,zAZ])) ?_
  refine Dr.read (by first | rfl | kernel_rfl) (by rfl) (by assumption) (fun M hM => by simp only [zAY,zAU,zAT,sp_n,Nat.reduceLT,ne_eq,Nat.reduceEqDiff,zNf,fx,fad,zAR,Nat.add_zero,fo24_0] <;> rfl) (by rfl) (by first | exact VQ.int _ _ | exact VQ.bool _ | exact VQ.ptr _ _ | exact VQ.slice _ _ _ | exact VQ.func (by simp [zAW,zAV,zAZ]) (by simp [zAW,zAV,zAZ]) | exact VQ.agg (by simp [zAW,zAV,zAZ]) | exact VQ.tuple (by simp [zAW,zAV,zAZ])) ?_
  refine Dr.read (by first | rfl | kernel_rfl) (by rfl) (by assumption) (fun M hM => by simp only [zAY,zAU,sp_n,Nat.reduceLT,fx,ld,zAR,tk3,hF2 M hM] <;> rfl) (by rfl) (by first | exact VQ.int _ _ | exact VQ.bool _ | exact VQ.ptr _ _ | exact VQ.slice _ _ _ | exact VQ.func (by simp [zAW,zAV,zAZ]) (by simp [zAW,zAV,zAZ]) | exact VQ.agg (by simp [zAW,zAV,zAZ]) | exact VQ.tuple (by simp [zAW,zAV,zAZ])) ?_
  refine Dr.read (by first | rfl | kernel_rfl) (by rfl) (by assumption) (fun M hM => by simp only [zAY,zAU,zAT,sp_n,Nat.reduceLT,ne_eq,Nat.reduceEqDiff,zNf,fx,hr] <;> rfl) (by rfl) (by first | exact VQ.int _ _ | exact VQ.bool _ | exact VQ.ptr _ _ | exact VQ.slice _ _ _ | exact VQ.func (by simp [zAW,zAV,zAZ]) (by simp [zAW,zAV,zAZ]) | exact VQ.agg (by simp [zAW,zAV,zAZ]) | exact VQ.tuple (by simp [zAW,zAV,zAZ])) ?_
  refine Dr.read (by first | rfl | kernel_rfl) (by rfl) (by assumption) (fun M hM => by simp only [zAY,zAU,sp_n,Nat.reduceLT,fx] <;> rfl) (by rfl) (by first | exact VQ.int _ _ | exact VQ.bool _ | exact VQ.ptr _ _ | exact VQ.slice _ _ _ | exact VQ.func (by simp [zAW,zAV,zAZ]) (by simp [zAW,zAV,zAZ]) | exact VQ.agg (by simp [zAW,zAV,zAZ]) | exact VQ.tuple (by simp [zAW,zAV,zAZ])) ?_
  refine Dr.nil (by rfl) (fun M hM => by cases hM) FM1 ⟨M1,by rfl,?_⟩
  (repeat (first | refine Rn.seq hc ?_ | refine Rn.skip hc ?_ | refine Rn.block hc ?_ | refine Rn.inBlock hc ?_ | refine Rn.scope hc ?_ | refine Rn.inScope hc ?_))
  refine Rn.ret (zAJ rfl ⟨?_,hM1⟩)
  simp only [zAU,sp_n,Nat.reduceLT]
end Go.Proofs.Ytdaljohmfnfgiaa
namespace Go.Proofs.Ytdaljohmfnfgiaa
open Go Go.RowKit Go.Proofs.Ytdaljohmfnfgiaa.Canon
set_option maxRecDepth 20000
theorem box7 {A : AHeap} (hw : WF A) (v0 v1 v2 v3 v4 v5 v6 : Value) (t : TypeId) : ∃ A1,A.push (.cells #[v0,v1,v2,v3,v4,v5,v6] t) = A1 ∧ Nx A.next A A1 ∧ A1.next = A.next + 1 ∧ cl A1 A.next 0 = some v0 ∧ cl A1 A.next 1 = some v1 ∧ cl A1 A.next 2 = some v2 ∧ cl A1 A.next 3 = some v3 ∧ cl A1 A.next 4 = some v4 ∧ cl A1 A.next 5 = some v5 ∧ cl A1 A.next 6 = some v6 :=
  ⟨_,rfl,(Nx.refl hw _).push (Nat.le_refl _) _,rfl,by rw [zBF]; rfl,by rw [zBF]; rfl,by rw [zBF]; rfl,by rw [zBF]; rfl,by rw [zBF]; rfl,by rw [zBF]; rfl,by rw [zBF]; rfl⟩
def bothV (x y : Las) (p : FuncId) (ca : List Value) : Value := .agg #[.int .i64 x.m,.slice x.sa x.st.length x.sc,.slice x.ra x.ro.length x.rc,.int .i64 y.m,.slice y.sa y.st.length y.sc,.slice y.ra y.ro.length y.rc,.func (.func p) #[] ⟨ca⟩]
def bthS (ca : List Value) (f : Int → Int → Int) : Canon.Spec := fun _ xs A v A1 => ((∀ (m : Int) (sa : Option Addr) (st : List Int) (sc : Nat) (ra : Option Addr) (ro : List Int) (rc n : Nat),xs = [.agg #[.int .i64 m,.slice sa st.length sc,.slice ra ro.length rc],.int .i64 (n : Int)] → Ints A sa 0 A.next st → Ints A ra 0 A.next ro → v = .int .i64 (atL st ro n)) ∧
  (∀ x y : Int,xs = .int .i64 x :: .int .i64 y :: ca → v = .int .i64 (f x y))) ∧ Nx A.next A A1
theorem at_bthS {A : AHeap} (hw : WF A) {m : Int} {sa ra : Option Addr} {sc rc : Nat} {st ro : List Int} (hs : Ints A sa 0 A.next st) (hr : Ints A ra 0 A.next ro) (n : Nat) (hst : st.length < 4611686018427387904) (hro : 0 < ro.length) (hro2 : ro.length < 4611686018427387904) (hn : n < 9223372036854775808) {ca : List Value} {f : Int → Int → Int} :
    Con Try.prog 77 [.agg #[.int .i64 m,.slice sa st.length sc,.slice ra ro.length rc],.int .i64 (n : Int)] A (bthS ca f 77 [.agg #[.int .i64 m,.slice sa st.length sc,.slice ra ro.length rc],.int .i64 (n : Int)] A) := by
  refine Con.mono (at_stream hw hs hr n hst hro hro2 hn) fun v A1 h => ⟨⟨fun m' sa' st' sc' ra' ro' rc' n' e h1 h2 => ?_,fun x y e => ?_⟩,h.2⟩
  · simp only [List.cons.injEq,Value.agg.injEq,Array.mk.injEq,Value.int.injEq,Value.slice.injEq,true_and,and_true] at e
    obtain ⟨⟨-,⟨rfl,e1,-⟩,rfl,e2,-⟩,e3⟩ := e
    have hn' : n = n' := by omega
    subst hn'
    rw [h.1,ints_uniq hs h1 e1,ints_uniq hr h2 e2]
  · have e := (List.cons.inj e).1
    cases e
theorem put_bthS {A : AHeap} {g : FuncId} {ca : List Value} {f : Int → Int → Int} (hp : PutC g ca A f) (hw : WF A) {x y : Int} (x0 : 0 ≤ x) (x1 : x < 65536) (y0 : 0 ≤ y) (y1 : y < 65536) : Con Try.prog g (.int .i64 x :: .int .i64 y :: ca) A (bthS ca f g (.int .i64 x :: .int .i64 y :: ca) A) := by
  refine Con.mono (hp A (Nx.refl hw _) x y x0 x1 y0 y1) fun v A1 h => ⟨⟨fun m' sa' st' sc' ra' ro' rc' n' e h1 h2 => ?_,fun x' y' e => ?_⟩,h.2⟩
  · have e := (List.cons.inj e).1
    cases e
  · simp only [List.cons.injEq,Value.int.injEq,true_and,and_true] at e
    obtain ⟨rfl,rfl⟩ := e
    exact h.1
theorem both_at {A : AHeap} (hw : WF A) {x y : Las} (hox : x.ok A) (hoy : y.ok A) (hx0 : 0 < x.ro.length) (hy0 : 0 < y.ro.length) {p : FuncId} {ca : List Value} {f : Int → Int → Int} (hp : PutC p ca A f) (hvq : VQ (.func (.func p) #[] ⟨ca⟩)) (hxl : ∀ n,0 ≤ x.s n ∧ x.s n < 65536) (hyl : ∀ n,0 ≤ y.s n ∧ y.s n < 65536) {n : Nat} (hn : n < 4611686018427387904) :
    Con Try.prog 115 [bothV x y p ca,.int .i64 (n : Int)] A (fun v A1 => v = .int .i64 (f (x.s n) (y.s n)) ∧ Nx A.next A A1) := by
  refine zAM hc Try.func115 rfl (Nat.le_of_ble_eq_true rfl) ?_
  obtain ⟨A1,e1,hx1,hn1,b0,b1,b2,b3,b4,b5,b6⟩ := box7 hw (.int .i64 x.m) (.slice x.sa x.st.length x.sc) (.slice x.ra x.ro.length x.rc) (.int .i64 y.m) (.slice y.sa y.st.length y.sc) (.slice y.ra y.ro.length y.rc) (.func (.func p) #[] ⟨ca⟩) 123
  obtain ⟨F,hF0,hF1,hF2,hF3,hF4,hF5,hF6,hF⟩ : ∃ F : AHeap → Prop,(∀ M,F M → cl M A.next 0 = some (.int .i64 x.m)) ∧ (∀ M,F M → cl M A.next 1 = some (.slice x.sa x.st.length x.sc)) ∧ (∀ M,F M → cl M A.next 2 = some (.slice x.ra x.ro.length x.rc)) ∧ (∀ M,F M → cl M A.next 3 = some (.int .i64 y.m)) ∧ (∀ M,F M → cl M A.next 4 = some (.slice y.sa y.st.length y.sc)) ∧ (∀ M,F M → cl M A.next 5 = some (.slice y.ra y.ro.length y.rc)) ∧ (∀ M,F M → cl M A.next 6 = some (.func (.func p) #[] ⟨ca⟩)) ∧ (∀ M,Nx A1.next A1 M → F M) :=
    ⟨fun M => ∀ o,cl M A.next o = cl A1 A.next o,fun M h => (h 0).trans b0,fun M h => (h 1).trans b1,fun M h => (h 2).trans b2,fun M h => (h 3).trans b3,fun M h => (h 4).trans b4,fun M h => (h 5).trans b5,fun M h => (h 6).trans b6,fun M h o => h.cl (by omega) o⟩
  have hbk : Nx A1.next A1 (bump A1 14) := Nx.bump (Nx.refl hx1.wf _) 14
  have FB := hF _ hbk
  have hxb : Nx A.next A (bump A1 14) := hx1.trans (hbk.le hx1.next)
  rw [s_in2]
  unfold bothV
  (repeat (first | refine Rn.seq hc ?_ | refine Rn.skip hc ?_ | refine Rn.block hc ?_ | refine Rn.inBlock hc ?_ | refine Rn.scope hc ?_ | refine Rn.inScope hc ?_))
  refine Rn.reg hc rfl ?_
  simp only [zAY,zAS,zAU,zAT,Nat.reduceLT,ne_eq,Nat.reduceEqDiff,zNf,gd,zAX,rops,fx,zOi,zEl,Value.cells,show Try.f115.ntmps = 18 from rfl,e1]
  (repeat (first | refine Rn.seq hc ?_ | refine Rn.skip hc ?_ | refine Rn.block hc ?_ | refine Rn.inBlock hc ?_ | refine Rn.scope hc ?_ | refine Rn.inScope hc ?_))
  obtain ⟨o1,o2,o3,o4⟩ := hox.nx hxb
  refine Rn.drawnF hc hx (bthS ca f) F (n := 3) (k := 14) (by kernel_rfl) (by kernel_rfl) (by rfl) ?_
  refine Dr.read (by first | rfl | kernel_rfl) (by rfl) (by assumption) (fun M hM => by simp only [zAY,zAU,zAT,sp_n,Nat.reduceLT,ne_eq,Nat.reduceEqDiff,zNf,fx,fad,zAR,Nat.zero_add,fo123_2] <;> rfl) (by rfl) (by first | exact hvq | exact VQ.int _ _ | exact VQ.bool _ | exact VQ.ptr _ _ | exact VQ.slice _ _ _ | exact VQ.func (by simp [zAW,zAV,zAZ]) (by simp [zAW,zAV,zAZ]) | exact VQ.agg (by simp [zAW,zAV,zAZ]) | exact VQ.tuple (by simp [zAW,zAV,zAZ])) ?_
  refine Dr.read (by first | rfl | kernel_rfl) (by rfl) (by assumption) (fun M hM => by simp only [zAY,zAU,sp_n,Nat.reduceLT,fx,ld,zAR,tk65,hF6 M hM] <;> rfl) (by rfl) (by first | exact hvq | exact VQ.int _ _ | exact VQ.bool _ | exact VQ.ptr _ _ | exact VQ.slice _ _ _ | exact VQ.func (by simp [zAW,zAV,zAZ]) (by simp [zAW,zAV,zAZ]) | exact VQ.agg (by simp [zAW,zAV,zAZ]) | exact VQ.tuple (by simp [zAW,zAV,zAZ])) ?_
  refine Dr.read (by first | rfl | kernel_rfl) (by rfl) (by assumption) (fun M hM => by simp only [zAY,zAU,zAT,sp_n,Nat.reduceLT,ne_eq,Nat.reduceEqDiff,zNf,fx,fad,zAR,Nat.add_zero,fo123_0] <;> rfl) (by rfl) (by first | exact hvq | exact VQ.int _ _ | exact VQ.bool _ | exact VQ.ptr _ _ | exact VQ.slice _ _ _ | exact VQ.func (by simp [zAW,zAV,zAZ]) (by simp [zAW,zAV,zAZ]) | exact VQ.agg (by simp [zAW,zAV,zAZ]) | exact VQ.tuple (by simp [zAW,zAV,zAZ])) ?_
  refine Dr.read (by first | rfl | kernel_rfl) (by rfl) (by assumption) (fun M hM => by simp only [zAY,zAU,sp_n,Nat.reduceLT,fx,fad,zAR,Nat.add_zero,fo119_0] <;> rfl) (by rfl) (by first | exact hvq | exact VQ.int _ _ | exact VQ.bool _ | exact VQ.ptr _ _ | exact VQ.slice _ _ _ | exact VQ.func (by simp [zAW,zAV,zAZ]) (by simp [zAW,zAV,zAZ]) | exact VQ.agg (by simp [zAW,zAV,zAZ]) | exact VQ.tuple (by simp [zAW,zAV,zAZ])) ?_
  refine Dr.read (by first | rfl | kernel_rfl) (by rfl) (by assumption) (fun M hM => by simp only [zAY,zAU,sp_n,Nat.reduceLT,fx,ld,zAR,cls,Nat.zero_add,Nat.reduceAdd,tk86,hF0 M hM,hF1 M hM,hF2 M hM] <;> rfl) (by rfl) (by first | exact hvq | exact VQ.int _ _ | exact VQ.bool _ | exact VQ.ptr _ _ | exact VQ.slice _ _ _ | exact VQ.func (by simp [zAW,zAV,zAZ]) (by simp [zAW,zAV,zAZ]) | exact VQ.agg (by simp [zAW,zAZ]) | exact VQ.tuple (by simp [zAW,zAV,zAZ])) ?_
  refine Dr.read (by first | rfl | kernel_rfl) (by rfl) (by assumption) (fun M hM => by simp only [zAY,zAU,zAT,sp_n,Nat.reduceLT,ne_eq,Nat.reduceEqDiff,zNf,fx] <;> rfl) (by rfl) (by first | exact hvq | exact VQ.int _ _ | exact VQ.bool _ | exact VQ.ptr _ _ | exact VQ.slice _ _ _ | exact VQ.func (by simp [zAW,zAV,zAZ]) (by simp [zAW,zAV,zAZ]) | exact VQ.agg (by simp [zAW,zAV,zAZ]) | exact VQ.tuple (by simp [zAW,zAV,zAZ])) ?_
  refine Dr.call (by kernel_rfl) (by rfl) (by assumption) (by rfl) (zAC (by rfl) ⟨by rfl,by rfl⟩ (by rfl) (xs := [.agg #[.int .i64 x.m,.slice x.sa x.st.length x.sc,.slice x.ra x.ro.length x.rc],.int .i64 (n : Int)]) (by simp only [zAY,zAU,zAT,sp_n,Nat.reduceLT,ne_eq,Nat.reduceEqDiff,zNf,List.map_cons,List.map_nil,List.nil_append,List.append_nil]) (at_bthS hbk.wf o1 o2 n o3 hx0 o4 (by omega))) ?_
  rintro v M1 ⟨⟨hv,-⟩,k1⟩
  obtain rfl := hv _ _ _ _ _ _ _ _ rfl o1 o2
  have hM1 : Nx A1.next A1 M1 := hbk.trans (k1.le hbk.next)
  have FM1 := hF _ hM1
  obtain ⟨o1,o2,o3,o4⟩ := hoy.nx (hx1.trans (hM1.le hx1.next))
  refine Dr.read (by first | rfl | kernel_rfl) (by rfl) (by assumption) (fun M hM => by simp only [zAY,zAU,zAT,sp_n,Nat.reduceLT,ne_eq,Nat.reduceEqDiff,zNf,fx,fad,zAR,Nat.zero_add,fo123_1] <;> rfl) (by rfl) (by first | exact VQ.int _ _ | exact VQ.bool _ | exact VQ.ptr _ _ | exact VQ.slice _ _ _ | exact VQ.func (by simp [zAW,zAV,zAZ]) (by simp [zAW,zAV,zAZ]) | exact VQ.agg (by simp [zAW,zAV,zAZ]) | exact VQ.tuple (by simp [zAW,zAV,zAZ])) ?_
  refine Dr.read (by first | rfl | kernel_rfl) (by rfl) (by assumption) (fun M hM => by simp only [zAY,zAU,sp_n,Nat.reduceLT,fx,fad,zAR,Nat.add_zero,fo121_0] <;> rfl) (by rfl) (by first | exact VQ.int _ _ | exact VQ.bool _ | exact VQ.ptr _ _ | exact VQ.slice _ _ _ | exact VQ.func (by simp [zAW,zAV,zAZ]) (by simp [zAW,zAV,zAZ]) | exact VQ.agg (by simp [zAW,zAV,zAZ]) | exact VQ.tuple (by simp [zAW,zAV,zAZ])) ?_
  refine Dr.read (by first | rfl | kernel_rfl) (by rfl) (by assumption) (fun M hM => by simp only [zAY,zAU,sp_n,Nat.reduceLT,fx,ld,zAR,cls,Nat.reduceAdd,tk86,hF3 M hM,hF4 M hM,hF5 M hM] <;> rfl) (by rfl) (by first | exact VQ.int _ _ | exact VQ.bool _ | exact VQ.ptr _ _ | exact VQ.slice _ _ _ | exact VQ.func (by simp [zAW,zAV,zAZ]) (by simp [zAW,zAV,zAZ]) | exact VQ.agg (by simp [zAW,zAZ]) | exact VQ.tuple (by simp [zAW,zAV,zAZ])) ?_
  refine Dr.read (by first | rfl | kernel_rfl) (by rfl) (by assumption) (fun M hM => by simp only [zAY,zAU,zAT,sp_n,Nat.reduceLT,ne_eq,Nat.reduceEqDiff,zNf,fx] <;> rfl) (by rfl) (by first | exact VQ.int _ _ | exact VQ.bool _ | exact VQ.ptr _ _ | exact VQ.slice _ _ _ | exact VQ.func (by simp [zAW,zAV,zAZ]) (by simp [zAW,zAV,zAZ]) | exact VQ.agg (by simp [zAW,zAV,zAZ]) | exact VQ.tuple (by simp [zAW,zAV,zAZ])) ?_
  refine Dr.call (by kernel_rfl) (by rfl) (by assumption) (by rfl) (zAC (by rfl) ⟨by rfl,by rfl⟩ (by rfl) (xs := [.agg #[.int .i64 y.m,.slice y.sa y.st.length y.sc,.slice y.ra y.ro.length y.rc],.int .i64 (n : Int)]) (by simp only [zAY,zAU,zAT,sp_n,Nat.reduceLT,ne_eq,Nat.reduceEqDiff,zNf,List.map_cons,List.map_nil,List.nil_append,List.append_nil]) (at_bthS hM1.wf o1 o2 n o3 hy0 o4 (by omega))) ?_
  rintro v M2 ⟨⟨hv,-⟩,k2⟩
  obtain rfl := hv _ _ _ _ _ _ _ _ rfl o1 o2
  have hM2 : Nx A1.next A1 M2 := hM1.trans (k2.le hM1.next)
  have FM2 := hF _ hM2
  have hA2 : Nx A.next A M2 := hx1.trans (hM2.le hx1.next)
  refine Dr.call (by kernel_rfl) (by rfl) (by assumption) (by rfl) (zAC (g := p) (fi := #[]) (ca := ⟨ca⟩) (by rfl) ⟨by rfl,by rfl⟩ (by simp only [zAY,zAU,zAT,sp_n,Nat.reduceLT,ne_eq,Nat.reduceEqDiff,zNf]) (xs := .int .i64 (x.s n) :: .int .i64 (y.s n) :: ca) (by simp only [zAY,zAU,zAT,sp_n,Nat.reduceLT,ne_eq,Nat.reduceEqDiff,zNf,List.map_cons,List.map_nil,List.nil_append,List.cons_append]; rfl) (put_bthS (hp.nx hA2) hM2.wf (hxl n).1 (hxl n).2 (hyl n).1 (hyl n).2)) ?_
  rintro v M3 ⟨⟨-,hv⟩,k3⟩
  obtain rfl := hv _ _ rfl
  have hM3 : Nx A1.next A1 M3 := hM2.trans (k3.le hM2.next)
  have FM3 := hF _ hM3
  refine Dr.read (by first | rfl | kernel_rfl) (by rfl) (by assumption) (fun M hM => by simp only [zAY,zAU,sp_n,Nat.reduceLT,fx] <;> rfl) (by rfl) (by first | exact VQ.int _ _ | exact VQ.bool _ | exact VQ.ptr _ _ | exact VQ.slice _ _ _ | exact VQ.func (by simp [zAW,zAV,zAZ]) (by simp [zAW,zAV,zAZ]) | exact VQ.agg (by simp [zAW,zAV,zAZ]) | exact VQ.tuple (by simp [zAW,zAV,zAZ])) ?_
  refine Dr.nil (by rfl) (fun M hM => by cases hM) FM3 ⟨M3,by rfl,?_⟩
  (repeat (first | refine Rn.seq hc ?_ | refine Rn.skip hc ?_ | refine Rn.block hc ?_ | refine Rn.inBlock hc ?_ | refine Rn.scope hc ?_ | refine Rn.inScope hc ?_))
  refine Rn.ret (zAJ rfl ⟨?_,hx1.trans (hM3.le hx1.next)⟩)
  simp only [zAU,sp_n,Nat.reduceLT]
def tldS (m : Int) (E : Nat → Int) : Canon.Spec := fun _ _ A v A1 => Tld A 0 m E v A1
theorem build_run {A : AHeap} (hw : WF A) {m : Int} {stem round : Nat} {g : FuncId} {fi : Value} {E : Nat → Int} (hE : ∀ B,Nx A.next A B → ∀ n : Nat,n < stem + round → Con Try.prog g [fi,.int .i64 (n : Int)] B (fun v B1 => v = .int .i64 (E n) ∧ Nx B.next B B1)) (hs : stem ≤ 100000) (hr : round ≤ 100000) (hP : Per E stem round) :
    Con Try.prog 114 [.int .i64 m,.int .i64 (stem : Int),.int .i64 (round : Int),.func (.func g) #[fi] #[]] A (Tld A 0 m E) := by
  refine zAM hc Try.func114 rfl (Nat.le_of_ble_eq_true rfl) ?_
  have hr0 := hP.pos
  have hx1 : Nx A.next A (A.push (.cells #[.int .i64 0,.slice none 0 0,.slice none 0 0] 24)) := (Nx.refl hw _).push (Nat.le_refl _) _
  have l1 := zAQ A (.cells #[.int .i64 0,.slice none 0 0,.slice none 0 0] 24)
  have hn1 : (A.push (.cells #[.int .i64 0,.slice none 0 0,.slice none 0 0] 24)).next = A.next + 1 := rfl
  generalize e1 : A.push (.cells #[.int .i64 0,.slice none 0 0,.slice none 0 0] 24) = A1 at hx1 l1 hn1
  obtain ⟨N,hN⟩ : ∃ N,N = stem + round := ⟨_,rfl⟩
  have hx2 : Nx A1.next A1 (A1.push (.cells (Array.replicate N (.int .i64 0)) 3)) := (Nx.refl hx1.wf _).push (Nat.le_refl _) _
  have l2 := zAQ A1 (.cells (Array.replicate N (.int .i64 0)) 3)
  have hn2 : (A1.push (.cells (Array.replicate N (.int .i64 0)) 3)).next = A1.next + 1 := rfl
  generalize e2 : A1.push (.cells (Array.replicate N (.int .i64 0)) 3) = A2 at hx2 l2 hn2
  have hw0 : IntKind.i64.wrap ((stem : Int) + (round : Int)) = (N : Int) := by rw [IntWalk.i64_in _ (by omega)]; omega
  have hx02 : Nx A.next A A2 := hx1.trans (hx2.le hx1.next)
  have l1 : Canon.look A2.objs A.next = _ := (hx2.keep _ (by omega)).trans l1
  rw [s_in4]
  (repeat (first | refine Rn.seq hc ?_ | refine Rn.skip hc ?_ | refine Rn.block hc ?_ | refine Rn.inBlock hc ?_ | refine Rn.scope hc ?_ | refine Rn.inScope hc ?_))
  refine Rn.reg hc rfl ?_
  simp only [zAS,gd,zAX,rops,fx,zOi,zEl,Value.cells,show Try.f114.ntmps = 38 from rfl,ze24,e1]
  (repeat (first | refine Rn.seq hc ?_ | refine Rn.skip hc ?_ | refine Rn.block hc ?_ | refine Rn.inBlock hc ?_ | refine Rn.scope hc ?_ | refine Rn.inScope hc ?_))
  refine Rn.reg hc rfl ?_
  simp only [zAY,zAU,zAT,sp_n,Nat.reduceLT,ne_eq,Nat.reduceEqDiff,zNf,gd,zAX,rops,fx,zAE,zOi,zEl,hw0,ae_mk2,mk2_nat (show N ≤ 1000000 by omega),e2]
  (repeat (first | refine Rn.seq hc ?_ | refine Rn.skip hc ?_ | refine Rn.block hc ?_ | refine Rn.inBlock hc ?_ | refine Rn.scope hc ?_ | refine Rn.inScope hc ?_))
  refine Rn.reg hc rfl ?_
  simp only [zAY,zAS,zAU,sp_n,Nat.reduceLT,gd,zAX,rops,fx,lng,zOi,zEl,un22]
  (repeat (first | refine Rn.seq hc ?_ | refine Rn.skip hc ?_ | refine Rn.block hc ?_ | refine Rn.inBlock hc ?_ | refine Rn.scope hc ?_ | refine Rn.inScope hc ?_))
  obtain ⟨bS,hbS⟩ : ∃ b,b = A1.next := ⟨_,rfl⟩
  rw [← hbS] at l2 ⊢
  refine Rn.loopI hc (I := fun k s B => ∃ i,∃ c : Array Value,i ≤ N ∧ k = N - i ∧ WF B ∧ A2.next ≤ B.next ∧ (∀ b,b < A2.next → b ≠ bS → Canon.look B.objs b = Canon.look A2.objs b) ∧ c.size = N ∧ Canon.look B.objs bS = some ⟨.cells c 3,false,0⟩ ∧ (∀ j,j < i → c[j]? = some (.int .i64 (E j))) ∧ s.n = 38 ∧ sget s 0 = .int .i64 m ∧ sget s 1 = .int .i64 (stem : Int) ∧ sget s 3 = .func (.func g) #[fi] #[] ∧ sget s 8 = .pointer (some ⟨A.next,0,none⟩) ∧ sget s 10 = .slice (some ⟨bS,0,none⟩) N N ∧ sget s 17 = .int .i64 (N : Int) ∧ sget s 18 = .int .i64 (i : Int))
    (n := N) ⟨0,_,by omega,rfl,hx02.wf,Nat.le_refl _,fun _ _ _ => rfl,by simp,l2,fun j hj => absurd hj (by omega),by simp only [sp_n],by simp only [zAU,zAT,Nat.reduceLT,ne_eq,Nat.reduceEqDiff,zNf],by simp only [zAU,zAT,sp_n,Nat.reduceLT,ne_eq,Nat.reduceEqDiff,zNf],by simp only [zAU,zAT,sp_n,Nat.reduceLT,ne_eq,Nat.reduceEqDiff,zNf],by simp only [zAU,zAT,sp_n,Nat.reduceLT,ne_eq,Nat.reduceEqDiff,zNf],by simp only [zAU,zAT,sp_n,Nat.reduceLT,ne_eq,Nat.reduceEqDiff,zNf],by simp only [zAU,zAT,sp_n,Nat.reduceLT,ne_eq,Nat.reduceEqDiff,zNf],by simp only [zAU,sp_n,Nat.reduceLT]; rfl⟩ ?_
  rintro k s B ⟨i,c,hi,rfl,hwB,hnB,hkeep,hcs,lB,hcv,hn,s0,s1,s3,s8,s10,s17,s18⟩ ih
  have hAB : Nx A.next A B := ⟨by omega,hwB,fun b hb => (hkeep b (by omega) (by omega)).trans (hx02.keep b hb)⟩
  (repeat (first | refine Rn.seq hc ?_ | refine Rn.skip hc ?_ | refine Rn.block hc ?_ | refine Rn.inBlock hc ?_ | refine Rn.scope hc ?_ | refine Rn.inScope hc ?_))
  by_cases hlt : i < N
  · have hd : decide ((i : Int) < (N : Int)) = true := decide_eq_true (by omega)
    refine Rn.reg hc rfl ?_
    simp only [zAY,gd,zAX,rops,fx,zAP,zOi,zEl,s17,s18,hd]
    (repeat (first | refine Rn.seq hc ?_ | refine Rn.skip hc ?_ | refine Rn.block hc ?_ | refine Rn.inBlock hc ?_ | refine Rn.scope hc ?_ | refine Rn.inScope hc ?_))
    refine Rn.zAI hc rfl ?_
    simp only [zAY,zAU,Nat.reduceLT,Value.bool.injEq,zEl,hn]
    (repeat (first | refine Rn.seq hc ?_ | refine Rn.skip hc ?_ | refine Rn.block hc ?_ | refine Rn.inBlock hc ?_ | refine Rn.scope hc ?_ | refine Rn.inScope hc ?_))
    refine Rn.reg hc rfl ?_
    simp only [zAY,zAU,zAT,sp_n,Nat.reduceLT,ne_eq,Nat.reduceEqDiff,zNf,gd,zAX,rops,fx,zOi,zEl,hn,s18]
    (repeat (first | refine Rn.seq hc ?_ | refine Rn.skip hc ?_ | refine Rn.block hc ?_ | refine Rn.inBlock hc ?_ | refine Rn.scope hc ?_ | refine Rn.inScope hc ?_))
    refine Rn.region hc fun K hK => ?_
    refine Wo.run hc 4 rfl rfl rfl ?_
    simp (maxSteps := 2000000) only [List.drop_zero,List.take_succ_cons,List.take_zero,zAY,zAU,zAT,sp_n,Nat.reduceLT,ne_eq,Nat.reduceEqDiff,not_false_eq_true,gd,zAX,rops,fx,Nat.zero_add,Option.some.injEq,exists_eq_left',hn,s3,s10]
    refine Wo.call hc (by rfl) (by rfl) ⟨by rfl,by rfl⟩ (xs := [fi,.int .i64 (i : Int)]) (by rfl) (by first | rfl | (simp only [zAY,zAU,zAT,sp_n,Nat.reduceLT,ne_eq,Nat.reduceEqDiff,zNf,hn]; done) | (simp only [zAY,zAU,zAT,sp_n,Nat.reduceLT,ne_eq,Nat.reduceEqDiff,zNf,hn]; rfl)) (by simp only [zAY,zAU,sp_n,Nat.reduceLT,List.map_cons,List.map_nil,List.nil_append,List.append_nil,List.cons_append,hn]) (Con.mono (hE B hAB i (by omega)) ?_)
    rintro w B1 ⟨rfl,hx3⟩
    have lB1 : Canon.look B1.objs bS = _ := (hx3.keep _ (by omega)).trans lB
    obtain ⟨B2,u1,u2⟩ := st1_upd (o := i) (v := .int .i64 (E i)) lB1 rfl (by omega) rfl
    have hoi : 0 + i * 1 = i := by omega
    refine Wo.run hc 2 rfl rfl rfl ?_
    simp (maxSteps := 2000000) only [List.drop_zero,List.drop_succ_cons,List.take_succ_cons,List.take_zero,zAY,zAU,zAT,sp_n,zAN,Nat.reduceLT,ne_eq,Nat.reduceEqDiff,not_false_eq_true,gd,zAX,rops,fx,str,idx,zAR,Nat.zero_add,Option.some.injEq,exists_eq_left',Nat.reduceAdd,Nat.mul_one,tk3,eo22,hn,zAK hlt,u1]
    refine Wo.done hc rfl (hK _ _ ?_)
    clear hK
    (repeat (first | refine Rn.seq hc ?_ | refine Rn.skip hc ?_ | refine Rn.block hc ?_ | refine Rn.inBlock hc ?_ | refine Rn.scope hc ?_ | refine Rn.inScope hc ?_))
    have n3 := hx3.next
    have hn4 := u2.next
    obtain ⟨c',t,f,g',e,r1,r2,_⟩ := u2.at'
    rw [lB1] at r1
    cases r1
    refine Rn.reg hc rfl ?_
    simp only [zAY,zAS,zAU,zAT,sp_n,Nat.reduceLT,ne_eq,Nat.reduceEqDiff,zNf,gd,zAX,rops,fx,zAE,zOi,zEl,hn,s18,zBY (show i < 9223372036854775807 by omega)]
    (repeat (first | refine Rn.seq hc ?_ | refine Rn.skip hc ?_ | refine Rn.block hc ?_ | refine Rn.inBlock hc ?_ | refine Rn.scope hc ?_ | refine Rn.inScope hc ?_))
    refine ih _ _ _ (by omega) ⟨i + 1,_,by omega,rfl,(u2.nx hx3.wf (Nat.zero_le _)).wf,by omega,fun b hb hne => by rw [u2.off _ hne,hx3.keep _ (by omega)]; exact hkeep b hb hne,by rw [Array.size_setIfInBounds]; exact hcs,r2,fun j hj => ?_,by simp only [sp_n,hn],by simp only [zAT,ne_eq,Nat.reduceEqDiff,zNf,s0],by simp only [zAT,ne_eq,Nat.reduceEqDiff,zNf,s1],by simp only [zAT,ne_eq,Nat.reduceEqDiff,zNf,s3],by simp only [zAT,ne_eq,Nat.reduceEqDiff,zNf,s8],by simp only [zAT,ne_eq,Nat.reduceEqDiff,zNf,s10],by simp only [zAT,ne_eq,Nat.reduceEqDiff,zNf,s17],by simp only [zAU,sp_n,Nat.reduceLT,hn]⟩
    by_cases hji : j = i
    · subst hji
      rw [Array.getElem?_setIfInBounds,if_pos rfl,if_pos (by omega)]
    · rw [Array.getElem?_setIfInBounds,if_neg (fun h => hji h.symm)]
      exact hcv j (by omega)
  · have hd : decide ((i : Int) < (N : Int)) = false := decide_eq_false (by omega)
    have hil : i = N := by omega
    subst hil
    clear ih
    refine Rn.reg hc rfl ?_
    simp only [zAY,gd,zAX,rops,fx,zAP,zOi,zEl,s17,s18,hd]
    (repeat (first | refine Rn.seq hc ?_ | refine Rn.skip hc ?_ | refine Rn.block hc ?_ | refine Rn.inBlock hc ?_ | refine Rn.scope hc ?_ | refine Rn.inScope hc ?_))
    refine Rn.zAI hc rfl ?_
    simp only [zAY,zAU,Nat.reduceLT,Value.bool.injEq,zEl,hn]
    (repeat (first | refine Rn.seq hc ?_ | refine Rn.skip hc ?_ | refine Rn.block hc ?_ | refine Rn.inBlock hc ?_ | refine Rn.scope hc ?_ | refine Rn.inScope hc ?_))
    refine Rn.exit hc rfl ?_
    (repeat (first | refine Rn.seq hc ?_ | refine Rn.skip hc ?_ | refine Rn.block hc ?_ | refine Rn.inBlock hc ?_ | refine Rn.scope hc ?_ | refine Rn.inScope hc ?_))
    subst hN
    have lR : Canon.look B.objs A.next = _ := (hkeep _ (by omega) (by omega)).trans l1
    have hcl : ∀ j,j < stem + round → cl B bS j = some (.int .i64 (E j)) := fun j hj => by rw [zBM lB rfl]; exact hcv j hj
    have hNs : stem + round - stem = round := Nat.add_sub_cancel_left _ _
    obtain ⟨F,hF1,hF2,hF⟩ : ∃ F : AHeap → Prop,(∀ M,F M → asl Try.prog 22 (.slice (some ⟨bS,0,none⟩) (stem + round) (stem + round)) none (some (.int .i64 (stem : Int))) none M = some (.slice (some ⟨bS,0,none⟩) stem (stem + round),M)) ∧ (∀ M,F M → asl Try.prog 22 (.slice (some ⟨bS,0,none⟩) (stem + round) (stem + round)) (some (.int .i64 (stem : Int))) none none M = some (.slice (some ⟨bS,stem,none⟩) round round,M)) ∧ (∀ M,Canon.look M.objs bS = Canon.look B.objs bS → F M) :=
      ⟨fun M => Canon.look M.objs bS = Canon.look B.objs bS,fun M h => asl_hi0 (h.trans lB) rfl (by omega),fun M h => by rw [asl_lo0 (h.trans lB) rfl (by omega),hNs],fun M h => h⟩
    have hbk : Nx B.next B (bump B 12) := Nx.bump (Nx.refl hwB _) 12
    have FB := hF (bump B 12) rfl
    have hAk : Nx A.next A (bump B 12) := hAB.trans (hbk.le hAB.next)
    have hlr := least_run hbk.wf (m := m) (sa := some ⟨bS,0,none⟩) (ra := some ⟨bS,stem,none⟩) (sc := stem + round) (rc := round) (st := redS E stem) (ro := redR E stem round)
      (fun j hj => ⟨bS,0,rfl,Nat.zero_le _,by rw [zAH]; omega,by rw [zBV] at hj; rw [zAB,Nat.zero_add,hcl j (by omega),redS_get hj]⟩)
      (fun j hj => ⟨bS,stem,rfl,Nat.zero_le _,by rw [zAH]; omega,by rw [zBI] at hj; rw [zAB,hcl _ (by omega),redR_get hj]⟩)
      (by rw [zBV]; omega) (by rw [zBI]; omega) (by rw [zBI]; exact hr0) (fun y hy => by cases hy; exact ⟨rfl,Nat.zero_le _,_,lB,.inl rfl⟩) (by rw [zBV]; omega)
    rw [atL_redF hP] at hlr
    simp only [zBV,zBI] at hlr
    refine Rn.drawnF hc hx (tldS m E) F (n := 2) (k := 12) (by kernel_rfl) (by kernel_rfl) (by rfl) ?_
    refine Dr.read (by first | rfl | kernel_rfl) (by rfl) (by assumption) (fun M hM => by simp only [zAY,zAT,ne_eq,Nat.reduceEqDiff,zNf,fx,s0] <;> rfl) (by rfl) (by first | exact VQ.int _ _ | exact VQ.bool _ | exact VQ.ptr _ _ | exact VQ.slice _ _ _ | exact VQ.func (by simp [zAW,zAV,zAZ]) (by simp [zAW,zAV,zAZ]) | exact VQ.agg (by simp [zAW,zAV,zAZ]) | exact VQ.tuple (by simp [zAW,zAV,zAZ])) ?_
    refine Dr.read (by first | rfl | kernel_rfl) (by rfl) (by assumption) (fun M hM => by simp only [zAY,zAT,ne_eq,Nat.reduceEqDiff,zNf,fx,s10] <;> rfl) (by rfl) (by first | exact VQ.int _ _ | exact VQ.bool _ | exact VQ.ptr _ _ | exact VQ.slice _ _ _ | exact VQ.func (by simp [zAW,zAV,zAZ]) (by simp [zAW,zAV,zAZ]) | exact VQ.agg (by simp [zAW,zAV,zAZ]) | exact VQ.tuple (by simp [zAW,zAV,zAZ])) ?_
    refine Dr.read (by first | rfl | kernel_rfl) (by rfl) (by assumption) (fun M hM => by simp only [zAY,zAT,ne_eq,Nat.reduceEqDiff,zNf,fx,s1] <;> rfl) (by rfl) (by first | exact VQ.int _ _ | exact VQ.bool _ | exact VQ.ptr _ _ | exact VQ.slice _ _ _ | exact VQ.func (by simp [zAW,zAV,zAZ]) (by simp [zAW,zAV,zAZ]) | exact VQ.agg (by simp [zAW,zAV,zAZ]) | exact VQ.tuple (by simp [zAW,zAV,zAZ])) ?_
    refine Dr.read (by first | rfl | kernel_rfl) (by rfl) (by assumption) (fun M hM => by simp only [zAY,zAU,zAT,sp_n,Nat.reduceLT,ne_eq,Nat.reduceEqDiff,zNf,fx,hn,ae_asl_hi,hF1 M hM] <;> rfl) (by rfl) (by first | exact VQ.int _ _ | exact VQ.bool _ | exact VQ.ptr _ _ | exact VQ.slice _ _ _ | exact VQ.func (by simp [zAW,zAV,zAZ]) (by simp [zAW,zAV,zAZ]) | exact VQ.agg (by simp [zAW,zAV,zAZ]) | exact VQ.tuple (by simp [zAW,zAV,zAZ])) ?_
    refine Dr.read (by first | rfl | kernel_rfl) (by rfl) (by assumption) (fun M hM => by simp only [zAY,zAT,ne_eq,Nat.reduceEqDiff,zNf,fx,s10] <;> rfl) (by rfl) (by first | exact VQ.int _ _ | exact VQ.bool _ | exact VQ.ptr _ _ | exact VQ.slice _ _ _ | exact VQ.func (by simp [zAW,zAV,zAZ]) (by simp [zAW,zAV,zAZ]) | exact VQ.agg (by simp [zAW,zAV,zAZ]) | exact VQ.tuple (by simp [zAW,zAV,zAZ])) ?_
    refine Dr.read (by first | rfl | kernel_rfl) (by rfl) (by assumption) (fun M hM => by simp only [zAY,zAT,ne_eq,Nat.reduceEqDiff,zNf,fx,s1] <;> rfl) (by rfl) (by first | exact VQ.int _ _ | exact VQ.bool _ | exact VQ.ptr _ _ | exact VQ.slice _ _ _ | exact VQ.func (by simp [zAW,zAV,zAZ]) (by simp [zAW,zAV,zAZ]) | exact VQ.agg (by simp [zAW,zAV,zAZ]) | exact VQ.tuple (by simp [zAW,zAV,zAZ])) ?_
    refine Dr.read (by first | rfl | kernel_rfl) (by rfl) (by assumption) (fun M hM => by simp only [zAY,zAU,zAT,sp_n,Nat.reduceLT,ne_eq,Nat.reduceEqDiff,zNf,fx,hn,ae_asl_lo,hF2 M hM] <;> rfl) (by rfl) (by first | exact VQ.int _ _ | exact VQ.bool _ | exact VQ.ptr _ _ | exact VQ.slice _ _ _ | exact VQ.func (by simp [zAW,zAV,zAZ]) (by simp [zAW,zAV,zAZ]) | exact VQ.agg (by simp [zAW,zAV,zAZ]) | exact VQ.tuple (by simp [zAW,zAV,zAZ])) ?_
    refine Dr.call (by kernel_rfl) (by rfl) (by assumption) (by rfl) (zAC (by rfl) ⟨by rfl,by rfl⟩ (by rfl) (xs := [.int .i64 m,.slice (some ⟨bS,0,none⟩) stem (stem + round),.slice (some ⟨bS,stem,none⟩) round round]) (by simp only [zAY,zAU,zAT,sp_n,Nat.reduceLT,ne_eq,Nat.reduceEqDiff,zNf,List.map_cons,List.map_nil,List.nil_append,List.append_nil,hn]) (Con.mono hlr fun v A1 h => (by obtain ⟨a,p,h1,_,_,h2⟩ := h; exact (tld_q h1 h2 : tldS m E 69 _ (bump B 12) v A1)))) ?_
    intro w C1 hT0
    have hT0 : Tld (bump B 12) 0 m E w C1 := hT0
    have hC1 : Nx B.next B C1 := hbk.trans (hT0.1.le hbk.next)
    have F1 : F C1 := hF _ (hC1.keep _ (by omega))
    obtain ⟨mm,n1,n2,ee,p1,c1,p2,c2,rfl,D,q1,g0,g1,g2,hoff,hT⟩ := Tld.fin (b := A.next) hAk (Nat.le_refl _) (by rw [zAH]; omega) lR hT0
    refine Dr.read (by first | rfl | kernel_rfl) (by rfl) (by assumption) (fun M hM => by simp only [zAY,zAU,sp_n,Nat.reduceLT,fx,ext,List.getElem?_toArray,List.getElem?_cons_zero,hn,ext] <;> rfl) (by rfl) (by first | exact VQ.int _ _ | exact VQ.bool _ | exact VQ.ptr _ _ | exact VQ.slice _ _ _ | exact VQ.func (by simp [zAW,zAV,zAZ]) (by simp [zAW,zAV,zAZ]) | exact VQ.agg (by simp [zAW,zAZ]) | exact VQ.tuple (by simp [zAW,zAV,zAZ])) ?_
    refine Dr.read (by first | rfl | kernel_rfl) (by rfl) (by assumption) (fun M hM => by simp only [zAY,zAU,zAT,sp_n,Nat.reduceLT,ne_eq,Nat.reduceEqDiff,zNf,fx,ext,List.getElem?_toArray,List.getElem?_cons_zero,List.getElem?_cons_succ,hn,ext] <;> rfl) (by rfl) (by first | exact VQ.int _ _ | exact VQ.bool _ | exact VQ.ptr _ _ | exact VQ.slice _ _ _ | exact VQ.func (by simp [zAW,zAV,zAZ]) (by simp [zAW,zAV,zAZ]) | exact VQ.agg (by simp [zAW,zAV,zAZ]) | exact VQ.tuple (by simp [zAW,zAV,zAZ])) ?_
    have FD : F D := hF D ((hoff _ (by omega)).trans (hC1.keep _ (by omega)))
    refine Dr.eff (by rfl) (by rfl) (pd1 := []) (pd2 := []) (by kernel_rfl) (by kernel_rfl) (ms0 := []) (A0 := C1) rfl (fun _ h => by cases h) F1 (by rfl) (v := undef) (A1 := D) (zBK rfl (fx_ok (by rfl) (by simp only [zAY,zAU,zAT,sp_n,Nat.reduceLT,ne_eq,Nat.reduceEqDiff,zNf,fx,str,zAR,Nat.zero_add,Nat.reduceAdd,tk24,hn,s8,q1,List.size_toArray,List.length_cons,List.length_nil,Nat.beq_refl]))) ?_
    refine Dr.read (by first | rfl | kernel_rfl) (by rfl) (by assumption) (fun M hM => by simp only [zAY,zAU,sp_n,zAN,Nat.reduceLT,fx,hn] <;> rfl) (by rfl) (by first | exact VQ.int _ _ | exact VQ.bool _ | exact VQ.ptr _ _ | exact VQ.slice _ _ _ | exact VQ.func (by simp [zAW,zAV,zAZ]) (by simp [zAW,zAV,zAZ]) | exact VQ.agg (by simp [zAW,zAV,zAZ]) | exact VQ.tuple (by simp [zAW,zAV,zAZ])) ?_
    refine Dr.nil (by rfl) (fun M hM => by cases hM) FD ⟨D,by rfl,?_⟩
    (repeat (first | refine Rn.seq hc ?_ | refine Rn.skip hc ?_ | refine Rn.block hc ?_ | refine Rn.inBlock hc ?_ | refine Rn.scope hc ?_ | refine Rn.inScope hc ?_))
    refine Rn.ret (zCT rfl (v := .agg #[.int .i64 mm,.slice p1 n1 c1,.slice p2 n2 c2]) ?_ ?_)
    · simp only [zAT,zAN,ne_eq,Nat.reduceEqDiff,zNf,ld,zAR,cls,Nat.zero_add,Nat.reduceAdd,tk24,s8,g0,g1,g2]
    · simp only [zAU,sp_n,zAN,Nat.reduceLT,hn]
      exact hT
end Go.Proofs.Ytdaljohmfnfgiaa
namespace Go.Proofs.Ytdaljohmfnfgiaa
open Go Go.RowKit Go.Proofs.Ytdaljohmfnfgiaa.Canon
set_option maxRecDepth 20000
section
variable {ρ : Operand → Value} {d : Option Tmp} {ty : TypeId} {pos : String} {af : Array Edge} {gu : Option (Nat × Bool)}
theorem fb22_2 {x y : Tmp} {v w : Value} (hv : ρ (.tmp x) = v) (hcv : zAA v = true) (hw : ρ (.tmp y) = w) (hcw : zAA w = true) : fobj Try.prog ρ ⟨d,.buildSlice 22 2 #[(0,.tmp x),(1,.tmp y)],ty,pos,af,gu⟩ = some ⟨[v,w],3,.sl 2 2⟩ := by
  have := fbld_fill (ρ := ρ) (pl := fun k => some (k * 1,1)) (n := 2) (ps := [(0,.tmp x),(1,.tmp y)]) (cs := [.int .i64 0,.int .i64 0]) (r := [v,w]) rfl (by simp [fbld,hv,hw,zBX hcv,zBX hcw])
  have hok : ([((0 : Nat),Operand.tmp x),(1,.tmp y)].all fun p => zAF p.2) = true := rfl
  simp only [fobj,so22_2,et22,hok,this]
end
theorem Dr.callF {S : Canon.Spec} {ops : Array Oper} {F : AHeap → Prop} {nb i : Nat} {o : Oper} {os : List Oper} {T : Slots} {A : AHeap} {pd : List (Nat × FO)} {K : Slots → List AHeap → Prop} (he : zBG Try.prog (cvE Try.prog ops) o = true) (hf : isFl Try.prog o = false) {pd1 pd2 : List (Nat × FO)} (hp1 : pd.filter (keyIn ((nth (zCU ops.toList) i).getD 0)) = pd1) (hp2 : pd.filter (fun x => !keyIn ((nth (zCU ops.toList) i).getD 0) x) = pd2)
    {ms0 : List AHeap} {A0 : AHeap} (hp : zBO nb pd1 A = some (ms0,A0)) (hms : ∀ M ∈ ms0,F M) (hA : F A0) (hw : zCQ (gd ops o) T = true) {R : Value → AHeap → Prop}
    (h : ∃ v A1,opRun Try.prog (runS Try.prog S) (zBU T) o A0 = some (v,A1) ∧ R v A1) (k : ∀ v A1,R v A1 → Dr Try.prog S ops F nb (i + 1) os (sput T o.dst v) pd2 A1 (fun T1 ms => K T1 (ms0 ++ (A0 :: ms)))) : Dr Try.prog S ops F nb i (o :: os) T pd A K := by
  obtain ⟨v,A1,h1,h2⟩ := h
  exact Dr.eff he hf hp1 hp2 hp hms hA hw h1 (k v A1 h2)
theorem veqs_self {f : Value → Value → Bool} : ∀ {l : List Value},(∀ v ∈ l,f v v = true) → veqs f l l = true
  | [],_ => rfl
  | x :: l,h => by
    have h1 := h x (List.mem_cons_self ..)
    have h2 := veqs_self (f := f) (l := l) fun v hv => h v (List.mem_cons_of_mem _ hv)
    show (match f x x with | true => veqs f l l | false => false) = true
    rw [h1]
    exact h2
theorem vq_fn (n : Nat) {p : FuncId} {ca : List Value} (h : ∀ v ∈ ca,veq n v v = true) : veq (n + 1) (.func (.func p) #[] ⟨ca⟩) (.func (.func p) #[] ⟨ca⟩) = true := by
  show (Nat.beq p p && (veqs (veq n) [] [] && veqs (veq n) ca ca)) = true
  rw [veqs_self h,Nat.beq_refl]
  rfl
theorem vq_both (n : Nat) {x y : Las} {p : FuncId} {ca : List Value} (h : ∀ v ∈ ca,veq n v v = true) : veq (n + 2) (bothV x y p ca) (bothV x y p ca) = true := by
  show veqs (veq (n + 1)) [_,_,_,_,_,_,_] [_,_,_,_,_,_,_] = true
  refine veqs_self fun v hv => ?_
  simp only [List.mem_cons,List.not_mem_nil,or_false] at hv
  rcases hv with rfl | rfl | rfl | rfl | rfl | rfl | rfl
  · exact zAW _ _ _
  · exact zAZ _ _ _ _
  · exact zAZ _ _ _ _
  · exact zAW _ _ _
  · exact zAZ _ _ _ _
  · exact zAZ _ _ _ _
  · exact vq_fn n h
def rsS (L : Nat) (m : Int) (E : Nat → Int) : Canon.Spec := fun g _ A v A1 => match g with
  | 82 => v = .int .i64 (L : Int) ∧ Nx A.next A A1
  | _ => Tld A 0 m E v A1
theorem result_both {A : AHeap} (hw : WF A) {x y : Las} (hox : x.ok A) (hoy : y.ok A) (hx0 : 0 < x.ro.length ∧ x.ro.length ≤ 120) (hy0 : 0 < y.ro.length ∧ y.ro.length ≤ 120) (hx6 : x.st.length ≤ 60) (hy6 : y.st.length ≤ 60) {p : FuncId} {ca : List Value} {f : Int → Int → Int} (hp : PutC p ca A f) (hca : ∀ n,∀ v ∈ ca,veq (n + 1) v v = true) (hxl : ∀ n,0 ≤ x.s n ∧ x.s n < 65536) (hyl : ∀ n,0 ≤ y.s n ∧ y.s n < 65536) :
    Con Try.prog 110 [bothV x y p ca] A (Tld A 0 x.m fun n => f (x.s n) (y.s n)) := by
  refine zAM hc Try.func110 rfl (Nat.le_of_ble_eq_true rfl) ?_
  obtain ⟨A1,e1,hx1,hn1,b0,b1,b2,b3,b4,b5,b6⟩ := box7 hw (.int .i64 x.m) (.slice x.sa x.st.length x.sc) (.slice x.ra x.ro.length x.rc) (.int .i64 y.m) (.slice y.sa y.st.length y.sc) (.slice y.ra y.ro.length y.rc) (.func (.func p) #[] ⟨ca⟩) 123
  have hx2 : Nx A1.next A1 (A1.push (.cells #[.int .i64 0,.slice none 0 0,.slice none 0 0] 24)) := (Nx.refl hx1.wf _).push (Nat.le_refl _) _
  have l2 := zAQ A1 (.cells #[.int .i64 0,.slice none 0 0,.slice none 0 0] 24)
  have hn2 : (A1.push (.cells #[.int .i64 0,.slice none 0 0,.slice none 0 0] 24)).next = A1.next + 1 := rfl
  generalize e2 : A1.push (.cells #[.int .i64 0,.slice none 0 0,.slice none 0 0] 24) = A2 at hx2 l2 hn2
  have hx02 : Nx A.next A A2 := hx1.trans (hx2.le hx1.next)
  have nA1 : A.next < A1.next := by omega
  obtain ⟨F,hF0,hF1,hF2,hF3,hF4,hF5,hF6,hF,hF'⟩ : ∃ F : AHeap → Prop,(∀ M,F M → cl M A.next 0 = some (.int .i64 x.m)) ∧ (∀ M,F M → cl M A.next 1 = some (.slice x.sa x.st.length x.sc)) ∧ (∀ M,F M → cl M A.next 2 = some (.slice x.ra x.ro.length x.rc)) ∧ (∀ M,F M → cl M A.next 3 = some (.int .i64 y.m)) ∧ (∀ M,F M → cl M A.next 4 = some (.slice y.sa y.st.length y.sc)) ∧ (∀ M,F M → cl M A.next 5 = some (.slice y.ra y.ro.length y.rc)) ∧ (∀ M,F M → cl M A.next 6 = some (.func (.func p) #[] ⟨ca⟩)) ∧ (∀ M,Nx A2.next A2 M → F M) ∧ (∀ M,Canon.look M.objs A.next = Canon.look A2.objs A.next → F M) :=
    ⟨fun M => ∀ o,cl M A.next o = cl A1 A.next o,fun M h => (h 0).trans b0,fun M h => (h 1).trans b1,fun M h => (h 2).trans b2,fun M h => (h 3).trans b3,fun M h => (h 4).trans b4,fun M h => (h 5).trans b5,fun M h => (h 6).trans b6,fun M h o => (h.cl (by omega) o).trans (hx2.cl nA1 o),fun M h o => (zBT h).trans (hx2.cl nA1 o)⟩
  have hbk : Nx A2.next A2 (bump A2 39) := Nx.bump (Nx.refl hx02.wf _) 39
  have FB := hF _ hbk
  obtain ⟨f1,f2,f3,f4⟩ := lcmN_facts hx0.1 hy0.1
  have hL : lcmN x.ro.length y.ro.length ≤ 120 * 120 := Nat.le_trans f4 (Nat.mul_le_mul hx0.2 hy0.2)
  have hPx : Per (fun n => f (x.s n) (y.s n)) (max x.st.length y.st.length) (lcmN x.ro.length y.ro.length) := by
    have h1 : Per x.s x.st.length x.ro.length := atL_per hx0.1
    have h2 : Per y.s y.st.length y.ro.length := atL_per hy0.1
    obtain ⟨u,hu⟩ := Nat.dvd_of_mod_eq_zero f2
    obtain ⟨v,hv⟩ := Nat.dvd_of_mod_eq_zero f3
    refine ⟨f1,fun n hn => ?_⟩
    have e1 := h1.times u n (by omega)
    have e2 := h2.times v n (by omega)
    rw [Nat.mul_comm,← hu] at e1
    rw [Nat.mul_comm,← hv] at e2
    show f (x.s _) (y.s _) = f (x.s n) (y.s n)
    rw [e1,e2]
  obtain ⟨L,hL0⟩ : ∃ L,L = lcmN x.ro.length y.ro.length := ⟨_,rfl⟩
  rw [← hL0] at f1 hL hPx
  obtain ⟨E,hE⟩ : ∃ E : Nat → Int,E = fun n => f (x.s n) (y.s n) := ⟨_,rfl⟩
  rw [← hE] at hPx ⊢
  have hvq : VQ (.func (.func p) #[] ⟨ca⟩) := vq_fn 4 (hca 3)
  have hvb : VQ (bothV x y p ca) := vq_both 3 (hca 2)
  have hvf : VQ (.func (.func 115) #[bothV x y p ca] #[]) := VQ.func (l := [bothV x y p ca]) (m := []) (fun v hv => by rw [List.mem_singleton] at hv; rw [hv]; exact vq_both 2 (hca 1)) (fun v hv => absurd hv (by simp))
  rw [s_in1]
  unfold bothV at hvb hvf ⊢
  (repeat (first | refine Rn.seq hc ?_ | refine Rn.skip hc ?_ | refine Rn.block hc ?_ | refine Rn.inBlock hc ?_ | refine Rn.scope hc ?_ | refine Rn.inScope hc ?_))
  refine Rn.reg hc rfl ?_
  simp only [zAY,zAS,zAU,Nat.reduceLT,gd,zAX,rops,fx,zOi,zEl,Value.cells,show Try.f110.ntmps = 41 from rfl,e1,ze24,e2]
  (repeat (first | refine Rn.seq hc ?_ | refine Rn.skip hc ?_ | refine Rn.block hc ?_ | refine Rn.inBlock hc ?_ | refine Rn.scope hc ?_ | refine Rn.inScope hc ?_))
  refine Rn.drawnF hc hx (rsS L x.m E) F (n := 4) (k := 39) (by kernel_rfl) (by kernel_rfl) (by rfl) ?_
  refine Dr.read (by first | rfl | kernel_rfl) (by rfl) (by assumption) (fun M hM => by simp only [zAY,zAU,zAT,sp_n,Nat.reduceLT,ne_eq,Nat.reduceEqDiff,zNf,fx,fad,zAR,Nat.add_zero,fo123_0] <;> rfl) (by rfl) (by first | exact VQ.int _ _ | exact VQ.bool _ | exact VQ.ptr _ _ | exact VQ.slice _ _ _ | exact VQ.func (by simp [zAW,zAV,zAZ]) (by simp [zAW,zAV,zAZ]) | exact VQ.agg (by simp [zAW,zAV,zAZ]) | exact VQ.tuple (by simp [zAW,zAV,zAZ])) ?_
  refine Dr.read (by first | rfl | kernel_rfl) (by rfl) (by assumption) (fun M hM => by simp only [zAY,zAU,sp_n,Nat.reduceLT,fx,fad,zAR,Nat.add_zero,fo119_0] <;> rfl) (by rfl) (by first | exact VQ.int _ _ | exact VQ.bool _ | exact VQ.ptr _ _ | exact VQ.slice _ _ _ | exact VQ.func (by simp [zAW,zAV,zAZ]) (by simp [zAW,zAV,zAZ]) | exact VQ.agg (by simp [zAW,zAV,zAZ]) | exact VQ.tuple (by simp [zAW,zAV,zAZ])) ?_
  refine Dr.read (by first | rfl | kernel_rfl) (by rfl) (by assumption) (fun M hM => by simp only [zAY,zAU,sp_n,Nat.reduceLT,fx,fad,zAR,Nat.add_zero,fo86_0] <;> rfl) (by rfl) (by first | exact VQ.int _ _ | exact VQ.bool _ | exact VQ.ptr _ _ | exact VQ.slice _ _ _ | exact VQ.func (by simp [zAW,zAV,zAZ]) (by simp [zAW,zAV,zAZ]) | exact VQ.agg (by simp [zAW,zAV,zAZ]) | exact VQ.tuple (by simp [zAW,zAV,zAZ])) ?_
  refine Dr.read (by first | rfl | kernel_rfl) (by rfl) (by assumption) (fun M hM => by simp only [zAY,zAU,sp_n,Nat.reduceLT,fx,fad,zAR,Nat.add_zero,fo24_0] <;> rfl) (by rfl) (by first | exact VQ.int _ _ | exact VQ.bool _ | exact VQ.ptr _ _ | exact VQ.slice _ _ _ | exact VQ.func (by simp [zAW,zAV,zAZ]) (by simp [zAW,zAV,zAZ]) | exact VQ.agg (by simp [zAW,zAV,zAZ]) | exact VQ.tuple (by simp [zAW,zAV,zAZ])) ?_
  refine Dr.read (by first | rfl | kernel_rfl) (by rfl) (by assumption) (fun M hM => by simp only [zAY,zAU,sp_n,Nat.reduceLT,fx,ld,zAR,tk3,hF0 M hM] <;> rfl) (by rfl) (by first | exact VQ.int _ _ | exact VQ.bool _ | exact VQ.ptr _ _ | exact VQ.slice _ _ _ | exact VQ.func (by simp [zAW,zAV,zAZ]) (by simp [zAW,zAV,zAZ]) | exact VQ.agg (by simp [zAW,zAV,zAZ]) | exact VQ.tuple (by simp [zAW,zAV,zAZ])) ?_
  refine Dr.read (by first | rfl | kernel_rfl) (by rfl) (by assumption) (fun M hM => by simp only [zAY,zAU,zAT,sp_n,Nat.reduceLT,ne_eq,Nat.reduceEqDiff,zNf,fx,fad,zAR,Nat.add_zero,fo123_0] <;> rfl) (by rfl) (by first | exact VQ.int _ _ | exact VQ.bool _ | exact VQ.ptr _ _ | exact VQ.slice _ _ _ | exact VQ.func (by simp [zAW,zAV,zAZ]) (by simp [zAW,zAV,zAZ]) | exact VQ.agg (by simp [zAW,zAV,zAZ]) | exact VQ.tuple (by simp [zAW,zAV,zAZ])) ?_
  refine Dr.read (by first | rfl | kernel_rfl) (by rfl) (by assumption) (fun M hM => by simp only [zAY,zAU,sp_n,Nat.reduceLT,fx,fad,zAR,Nat.add_zero,fo119_0] <;> rfl) (by rfl) (by first | exact VQ.int _ _ | exact VQ.bool _ | exact VQ.ptr _ _ | exact VQ.slice _ _ _ | exact VQ.func (by simp [zAW,zAV,zAZ]) (by simp [zAW,zAV,zAZ]) | exact VQ.agg (by simp [zAW,zAV,zAZ]) | exact VQ.tuple (by simp [zAW,zAV,zAZ])) ?_
  refine Dr.read (by first | rfl | kernel_rfl) (by rfl) (by assumption) (fun M hM => by simp only [zAY,zAU,sp_n,Nat.reduceLT,fx,fad,zAR,Nat.add_zero,fo86_0] <;> rfl) (by rfl) (by first | exact VQ.int _ _ | exact VQ.bool _ | exact VQ.ptr _ _ | exact VQ.slice _ _ _ | exact VQ.func (by simp [zAW,zAV,zAZ]) (by simp [zAW,zAV,zAZ]) | exact VQ.agg (by simp [zAW,zAV,zAZ]) | exact VQ.tuple (by simp [zAW,zAV,zAZ])) ?_
  refine Dr.read (by first | rfl | kernel_rfl) (by rfl) (by assumption) (fun M hM => by simp only [zAY,zAU,sp_n,Nat.reduceLT,fx,fad,zAR,Nat.zero_add,zCY] <;> rfl) (by rfl) (by first | exact VQ.int _ _ | exact VQ.bool _ | exact VQ.ptr _ _ | exact VQ.slice _ _ _ | exact VQ.func (by simp [zAW,zAV,zAZ]) (by simp [zAW,zAV,zAZ]) | exact VQ.agg (by simp [zAW,zAV,zAZ]) | exact VQ.tuple (by simp [zAW,zAV,zAZ])) ?_
  refine Dr.read (by first | rfl | kernel_rfl) (by rfl) (by assumption) (fun M hM => by simp only [zAY,zAU,sp_n,Nat.reduceLT,fx,ld,zAR,tk22,hF1 M hM] <;> rfl) (by rfl) (by first | exact VQ.int _ _ | exact VQ.bool _ | exact VQ.ptr _ _ | exact VQ.slice _ _ _ | exact VQ.func (by simp [zAW,zAV,zAZ]) (by simp [zAW,zAV,zAZ]) | exact VQ.agg (by simp [zAW,zAV,zAZ]) | exact VQ.tuple (by simp [zAW,zAV,zAZ])) ?_
  refine Dr.read (by first | rfl | kernel_rfl) (by rfl) (by assumption) (fun M hM => by simp only [zAY,zAU,sp_n,Nat.reduceLT,fx,lng,un22] <;> rfl) (by rfl) (by first | exact VQ.int _ _ | exact VQ.bool _ | exact VQ.ptr _ _ | exact VQ.slice _ _ _ | exact VQ.func (by simp [zAW,zAV,zAZ]) (by simp [zAW,zAV,zAZ]) | exact VQ.agg (by simp [zAW,zAV,zAZ]) | exact VQ.tuple (by simp [zAW,zAV,zAZ])) ?_
  refine Dr.read (by first | rfl | kernel_rfl) (by rfl) (by assumption) (fun M hM => by simp only [zAY,zAU,zAT,sp_n,Nat.reduceLT,ne_eq,Nat.reduceEqDiff,zNf,fx,fad,zAR,Nat.zero_add,fo123_1] <;> rfl) (by rfl) (by first | exact VQ.int _ _ | exact VQ.bool _ | exact VQ.ptr _ _ | exact VQ.slice _ _ _ | exact VQ.func (by simp [zAW,zAV,zAZ]) (by simp [zAW,zAV,zAZ]) | exact VQ.agg (by simp [zAW,zAV,zAZ]) | exact VQ.tuple (by simp [zAW,zAV,zAZ])) ?_
  refine Dr.read (by first | rfl | kernel_rfl) (by rfl) (by assumption) (fun M hM => by simp only [zAY,zAU,sp_n,Nat.reduceLT,fx,fad,zAR,Nat.add_zero,fo121_0] <;> rfl) (by rfl) (by first | exact VQ.int _ _ | exact VQ.bool _ | exact VQ.ptr _ _ | exact VQ.slice _ _ _ | exact VQ.func (by simp [zAW,zAV,zAZ]) (by simp [zAW,zAV,zAZ]) | exact VQ.agg (by simp [zAW,zAV,zAZ]) | exact VQ.tuple (by simp [zAW,zAV,zAZ])) ?_
  refine Dr.read (by first | rfl | kernel_rfl) (by rfl) (by assumption) (fun M hM => by simp only [zAY,zAU,sp_n,Nat.reduceLT,fx,fad,zAR,Nat.add_zero,fo86_0] <;> rfl) (by rfl) (by first | exact VQ.int _ _ | exact VQ.bool _ | exact VQ.ptr _ _ | exact VQ.slice _ _ _ | exact VQ.func (by simp [zAW,zAV,zAZ]) (by simp [zAW,zAV,zAZ]) | exact VQ.agg (by simp [zAW,zAV,zAZ]) | exact VQ.tuple (by simp [zAW,zAV,zAZ])) ?_
  refine Dr.read (by first | rfl | kernel_rfl) (by rfl) (by assumption) (fun M hM => by simp only [zAY,zAU,sp_n,Nat.reduceLT,fx,fad,zAR,Nat.reduceAdd,zCY] <;> rfl) (by rfl) (by first | exact VQ.int _ _ | exact VQ.bool _ | exact VQ.ptr _ _ | exact VQ.slice _ _ _ | exact VQ.func (by simp [zAW,zAV,zAZ]) (by simp [zAW,zAV,zAZ]) | exact VQ.agg (by simp [zAW,zAV,zAZ]) | exact VQ.tuple (by simp [zAW,zAV,zAZ])) ?_
  refine Dr.read (by first | rfl | kernel_rfl) (by rfl) (by assumption) (fun M hM => by simp only [zAY,zAU,sp_n,Nat.reduceLT,fx,ld,zAR,tk22,hF4 M hM] <;> rfl) (by rfl) (by first | exact VQ.int _ _ | exact VQ.bool _ | exact VQ.ptr _ _ | exact VQ.slice _ _ _ | exact VQ.func (by simp [zAW,zAV,zAZ]) (by simp [zAW,zAV,zAZ]) | exact VQ.agg (by simp [zAW,zAV,zAZ]) | exact VQ.tuple (by simp [zAW,zAV,zAZ])) ?_
  refine Dr.read (by first | rfl | kernel_rfl) (by rfl) (by assumption) (fun M hM => by simp only [zAY,zAU,sp_n,Nat.reduceLT,fx,lng,un22] <;> rfl) (by rfl) (by first | exact VQ.int _ _ | exact VQ.bool _ | exact VQ.ptr _ _ | exact VQ.slice _ _ _ | exact VQ.func (by simp [zAW,zAV,zAZ]) (by simp [zAW,zAV,zAZ]) | exact VQ.agg (by simp [zAW,zAV,zAZ]) | exact VQ.tuple (by simp [zAW,zAV,zAZ])) ?_
  refine Dr.read (by first | rfl | kernel_rfl) (by rfl) (by assumption) (fun M hM => by simp only [zAU,zAT,sp_n,Nat.reduceLT,ne_eq,Nat.reduceEqDiff,zNf,fx,ae_mxd2,mxd_int,mxd_nat] <;> rfl) (by rfl) (by first | exact VQ.int _ _ | exact VQ.bool _ | exact VQ.ptr _ _ | exact VQ.slice _ _ _ | exact VQ.func (by simp [zAW,zAV,zAZ]) (by simp [zAW,zAV,zAZ]) | exact VQ.agg (by simp [zAW,zAV,zAZ]) | exact VQ.tuple (by simp [zAW,zAV,zAZ])) ?_
  refine Dr.read (by first | rfl | kernel_rfl) (by rfl) (by assumption) (fun M hM => by simp only [zAY,zAU,zAT,sp_n,Nat.reduceLT,ne_eq,Nat.reduceEqDiff,zNf,fx,fad,zAR,Nat.add_zero,fo123_0] <;> rfl) (by rfl) (by first | exact VQ.int _ _ | exact VQ.bool _ | exact VQ.ptr _ _ | exact VQ.slice _ _ _ | exact VQ.func (by simp [zAW,zAV,zAZ]) (by simp [zAW,zAV,zAZ]) | exact VQ.agg (by simp [zAW,zAV,zAZ]) | exact VQ.tuple (by simp [zAW,zAV,zAZ])) ?_
  refine Dr.read (by first | rfl | kernel_rfl) (by rfl) (by assumption) (fun M hM => by simp only [zAY,zAU,sp_n,Nat.reduceLT,fx,fad,zAR,Nat.add_zero,fo119_0] <;> rfl) (by rfl) (by first | exact VQ.int _ _ | exact VQ.bool _ | exact VQ.ptr _ _ | exact VQ.slice _ _ _ | exact VQ.func (by simp [zAW,zAV,zAZ]) (by simp [zAW,zAV,zAZ]) | exact VQ.agg (by simp [zAW,zAV,zAZ]) | exact VQ.tuple (by simp [zAW,zAV,zAZ])) ?_
  refine Dr.read (by first | rfl | kernel_rfl) (by rfl) (by assumption) (fun M hM => by simp only [zAY,zAU,sp_n,Nat.reduceLT,fx,fad,zAR,Nat.add_zero,fo86_0] <;> rfl) (by rfl) (by first | exact VQ.int _ _ | exact VQ.bool _ | exact VQ.ptr _ _ | exact VQ.slice _ _ _ | exact VQ.func (by simp [zAW,zAV,zAZ]) (by simp [zAW,zAV,zAZ]) | exact VQ.agg (by simp [zAW,zAV,zAZ]) | exact VQ.tuple (by simp [zAW,zAV,zAZ])) ?_
  refine Dr.read (by first | rfl | kernel_rfl) (by rfl) (by assumption) (fun M hM => by simp only [zAY,zAU,sp_n,Nat.reduceLT,fx,fad,zAR,Nat.zero_add,zDY] <;> rfl) (by rfl) (by first | exact VQ.int _ _ | exact VQ.bool _ | exact VQ.ptr _ _ | exact VQ.slice _ _ _ | exact VQ.func (by simp [zAW,zAV,zAZ]) (by simp [zAW,zAV,zAZ]) | exact VQ.agg (by simp [zAW,zAV,zAZ]) | exact VQ.tuple (by simp [zAW,zAV,zAZ])) ?_
  refine Dr.read (by first | rfl | kernel_rfl) (by rfl) (by assumption) (fun M hM => by simp only [zAY,zAU,sp_n,Nat.reduceLT,fx,ld,zAR,tk22,hF2 M hM] <;> rfl) (by rfl) (by first | exact VQ.int _ _ | exact VQ.bool _ | exact VQ.ptr _ _ | exact VQ.slice _ _ _ | exact VQ.func (by simp [zAW,zAV,zAZ]) (by simp [zAW,zAV,zAZ]) | exact VQ.agg (by simp [zAW,zAV,zAZ]) | exact VQ.tuple (by simp [zAW,zAV,zAZ])) ?_
  refine Dr.read (by first | rfl | kernel_rfl) (by rfl) (by assumption) (fun M hM => by simp only [zAY,zAU,sp_n,Nat.reduceLT,fx,lng,un22] <;> rfl) (by rfl) (by first | exact VQ.int _ _ | exact VQ.bool _ | exact VQ.ptr _ _ | exact VQ.slice _ _ _ | exact VQ.func (by simp [zAW,zAV,zAZ]) (by simp [zAW,zAV,zAZ]) | exact VQ.agg (by simp [zAW,zAV,zAZ]) | exact VQ.tuple (by simp [zAW,zAV,zAZ])) ?_
  refine Dr.read (by first | rfl | kernel_rfl) (by rfl) (by assumption) (fun M hM => by simp only [zAY,zAU,zAT,sp_n,Nat.reduceLT,ne_eq,Nat.reduceEqDiff,zNf,fx,fad,zAR,Nat.zero_add,fo123_1] <;> rfl) (by rfl) (by first | exact VQ.int _ _ | exact VQ.bool _ | exact VQ.ptr _ _ | exact VQ.slice _ _ _ | exact VQ.func (by simp [zAW,zAV,zAZ]) (by simp [zAW,zAV,zAZ]) | exact VQ.agg (by simp [zAW,zAV,zAZ]) | exact VQ.tuple (by simp [zAW,zAV,zAZ])) ?_
  refine Dr.read (by first | rfl | kernel_rfl) (by rfl) (by assumption) (fun M hM => by simp only [zAY,zAU,sp_n,Nat.reduceLT,fx,fad,zAR,Nat.add_zero,fo121_0] <;> rfl) (by rfl) (by first | exact VQ.int _ _ | exact VQ.bool _ | exact VQ.ptr _ _ | exact VQ.slice _ _ _ | exact VQ.func (by simp [zAW,zAV,zAZ]) (by simp [zAW,zAV,zAZ]) | exact VQ.agg (by simp [zAW,zAV,zAZ]) | exact VQ.tuple (by simp [zAW,zAV,zAZ])) ?_
  refine Dr.read (by first | rfl | kernel_rfl) (by rfl) (by assumption) (fun M hM => by simp only [zAY,zAU,sp_n,Nat.reduceLT,fx,fad,zAR,Nat.add_zero,fo86_0] <;> rfl) (by rfl) (by first | exact VQ.int _ _ | exact VQ.bool _ | exact VQ.ptr _ _ | exact VQ.slice _ _ _ | exact VQ.func (by simp [zAW,zAV,zAZ]) (by simp [zAW,zAV,zAZ]) | exact VQ.agg (by simp [zAW,zAV,zAZ]) | exact VQ.tuple (by simp [zAW,zAV,zAZ])) ?_
  refine Dr.read (by first | rfl | kernel_rfl) (by rfl) (by assumption) (fun M hM => by simp only [zAY,zAU,sp_n,Nat.reduceLT,fx,fad,zAR,Nat.reduceAdd,zDY] <;> rfl) (by rfl) (by first | exact VQ.int _ _ | exact VQ.bool _ | exact VQ.ptr _ _ | exact VQ.slice _ _ _ | exact VQ.func (by simp [zAW,zAV,zAZ]) (by simp [zAW,zAV,zAZ]) | exact VQ.agg (by simp [zAW,zAV,zAZ]) | exact VQ.tuple (by simp [zAW,zAV,zAZ])) ?_
  refine Dr.read (by first | rfl | kernel_rfl) (by rfl) (by assumption) (fun M hM => by simp only [zAY,zAU,sp_n,Nat.reduceLT,fx,ld,zAR,tk22,hF5 M hM] <;> rfl) (by rfl) (by first | exact VQ.int _ _ | exact VQ.bool _ | exact VQ.ptr _ _ | exact VQ.slice _ _ _ | exact VQ.func (by simp [zAW,zAV,zAZ]) (by simp [zAW,zAV,zAZ]) | exact VQ.agg (by simp [zAW,zAV,zAZ]) | exact VQ.tuple (by simp [zAW,zAV,zAZ])) ?_
  refine Dr.read (by first | rfl | kernel_rfl) (by rfl) (by assumption) (fun M hM => by simp only [zAY,zAU,sp_n,Nat.reduceLT,fx,lng,un22] <;> rfl) (by rfl) (by first | exact VQ.int _ _ | exact VQ.bool _ | exact VQ.ptr _ _ | exact VQ.slice _ _ _ | exact VQ.func (by simp [zAW,zAV,zAZ]) (by simp [zAW,zAV,zAZ]) | exact VQ.agg (by simp [zAW,zAV,zAZ]) | exact VQ.tuple (by simp [zAW,zAV,zAZ])) ?_
  refine Dr.float (by rfl) (by rfl) (by rfl) (fb22_2 (v := .int .i64 (x.ro.length : Int)) (w := .int .i64 (y.ro.length : Int)) (by simp only [zAY,zAU,zAT,sp_n,Nat.reduceLT,ne_eq,Nat.reduceEqDiff,zNf]) rfl (by simp only [zAY,zAU,sp_n,Nat.reduceLT]) rfl) ?_
  obtain ⟨C1,p1,hxC1,eC1,lC1,kC1⟩ := place_row hbk (b := A2.next + 30) (by omega) (by rw [zAH]; omega) (hx02.wf.none (by omega)) [.int .i64 (x.ro.length : Int),.int .i64 (y.ro.length : Int)] 3 2 2
  rw [zAH] at eC1
  refine Dr.callF (by kernel_rfl) (by rfl) (pd1 := [(30,⟨[.int .i64 (x.ro.length : Int),.int .i64 (y.ro.length : Int)],3,.sl 2 2⟩)]) (pd2 := []) (by kernel_rfl) (by kernel_rfl) (ms0 := [bump A2 39]) (A0 := C1) (by simp only [zBO,p1]) (fun M hM => by rw [List.mem_singleton] at hM; rw [hM]; exact FB) (hF _ hxC1) (by rfl)
    (zAC (by rfl) ⟨by rfl,by rfl⟩ (by rfl) (xs := [.slice (some ⟨A2.next + 30,0,none⟩) 2 2]) (by simp only [zAY,zAU,sp_n,Nat.reduceLT,List.map_cons,List.map_nil,List.nil_append,List.append_nil,FK.val]) (Con.mono (lcm_two hxC1.wf (x := x.ro.length) (y := y.ro.length) (by rw [zBM lC1 rfl]; rfl) (by rw [zBM lC1 rfl]; rfl) (by omega) ⟨hx0.1,by omega⟩ ⟨hy0.1,by omega⟩) fun v A1 h => (⟨by rw [h.1,hL0],h.2⟩ : v = .int .i64 (L : Int) ∧ Nx C1.next C1 A1))) ?_
  rintro v C2 ⟨rfl,k2⟩
  have hC2 : Nx A2.next A2 C2 := hxC1.trans (k2.le hxC1.next)
  have FM2 := hF _ hC2
  have hAC2 : Nx A.next A C2 := hx02.trans (hC2.le hx02.next)
  refine Dr.read (by first | rfl | kernel_rfl) (by rfl) (by assumption) (fun M hM => by simp only [zAY,zAU,zAT,sp_n,Nat.reduceLT,ne_eq,Nat.reduceEqDiff,zNf,fx,ld,zAR,cls,Nat.zero_add,Nat.reduceAdd,tk123,hF0 M hM,hF1 M hM,hF2 M hM,hF3 M hM,hF4 M hM,hF5 M hM,hF6 M hM] <;> rfl) (by rfl) (by first | exact hvb | exact VQ.int _ _ | exact VQ.bool _ | exact VQ.ptr _ _ | exact VQ.slice _ _ _ | exact VQ.func (by simp [zAW,zAV,zAZ]) (by simp [zAW,zAV,zAZ]) | exact VQ.agg (by simp [zAW,zAV,zAZ]) | exact VQ.tuple (by simp [zAW,zAV,zAZ])) ?_
  refine Dr.read (by first | rfl | kernel_rfl) (by rfl) (by assumption) (fun M hM => by simp only [zAY,zAU,sp_n,Nat.reduceLT,fx,Nat.zero_add,Nat.reduceAdd,ae_mkbound] <;> rfl) (by rfl) (by first | exact hvf | exact VQ.int _ _ | exact VQ.bool _ | exact VQ.ptr _ _ | exact VQ.slice _ _ _ | exact VQ.func (by simp [zAW,zAV,zAZ]) (by simp [zAW,zAV,zAZ]) | exact VQ.agg (by simp [zAW,zAV,zAZ]) | exact VQ.tuple (by simp [zAW,zAV,zAZ])) ?_
  have hbr := build_run hC2.wf (m := x.m) (stem := max x.st.length y.st.length) (round := L) (g := 115) (fi := bothV x y p ca) (E := E) (fun B hB n hn => by rw [hE]; exact both_at hB.wf (hox.nx (hAC2.trans (hB.le hAC2.next))) (hoy.nx (hAC2.trans (hB.le hAC2.next))) hx0.1 hy0.1 (hp.nx (hAC2.trans (hB.le hAC2.next))) hvq hxl hyl (by omega)) (by omega) (by omega) hPx
  refine Dr.call (by kernel_rfl) (by rfl) (by assumption) (by rfl) (zAC (by rfl) ⟨by rfl,by rfl⟩ (by rfl) (xs := [.int .i64 x.m,.int .i64 ((max x.st.length y.st.length : Nat) : Int),.int .i64 (L : Int),.func (.func 115) #[bothV x y p ca] #[]]) (by simp only [zAY,zAU,zAT,sp_n,Nat.reduceLT,ne_eq,Nat.reduceEqDiff,zNf,List.map_cons,List.map_nil,List.nil_append,List.append_nil]; rfl) hbr) ?_
  intro w C3 hT0
  have hT0 : Tld C2 0 x.m E w C3 := hT0
  have hC3 : Nx A2.next A2 C3 := hC2.trans (hT0.1.le hC2.next)
  have F3 := hF _ hC3
  obtain ⟨mm,n1,n2,ee,q1,c1,q2,c2,rfl,D,r1,g0,g1,g2,hoff,hT⟩ := Tld.fin (b := A1.next) hAC2 (by omega) (by have := hC2.next; omega) ((hC2.keep _ (by omega)).trans l2) hT0
  refine Dr.read (by first | rfl | kernel_rfl) (by rfl) (by assumption) (fun M hM => by simp only [zAY,zAU,sp_n,Nat.reduceLT,fx,ext,List.getElem?_toArray,List.getElem?_cons_zero,Nat.zero_add,Nat.reduceAdd,ext] <;> rfl) (by rfl) (by first | exact VQ.int _ _ | exact VQ.bool _ | exact VQ.ptr _ _ | exact VQ.slice _ _ _ | exact VQ.func (by simp [zAW,zAV,zAZ]) (by simp [zAW,zAV,zAZ]) | exact VQ.agg (by simp [zAW,zAZ]) | exact VQ.tuple (by simp [zAW,zAV,zAZ])) ?_
  refine Dr.read (by first | rfl | kernel_rfl) (by rfl) (by assumption) (fun M hM => by simp only [zAY,zAU,zAT,sp_n,Nat.reduceLT,ne_eq,Nat.reduceEqDiff,zNf,fx,ext,List.getElem?_toArray,List.getElem?_cons_zero,List.getElem?_cons_succ,Nat.zero_add,Nat.reduceAdd,ext] <;> rfl) (by rfl) (by first | exact VQ.int _ _ | exact VQ.bool _ | exact VQ.ptr _ _ | exact VQ.slice _ _ _ | exact VQ.func (by simp [zAW,zAV,zAZ]) (by simp [zAW,zAV,zAZ]) | exact VQ.agg (by simp [zAW,zAV,zAZ]) | exact VQ.tuple (by simp [zAW,zAV,zAZ])) ?_
  have FD : F D := hF' D ((hoff _ (by omega)).trans (hC3.keep _ (by omega)))
  refine Dr.eff (by rfl) (by rfl) (pd1 := []) (pd2 := []) (by kernel_rfl) (by kernel_rfl) (ms0 := []) (A0 := C3) rfl (fun _ h => by cases h) F3 (by rfl) (v := undef) (A1 := D) (zBK rfl (fx_ok (by rfl) (by simp only [zAY,zAU,zAT,sp_n,Nat.reduceLT,ne_eq,Nat.reduceEqDiff,zNf,fx,str,zAR,Nat.zero_add,Nat.reduceAdd,tk24,r1,List.size_toArray,List.length_cons,List.length_nil,Nat.beq_refl]))) ?_
  refine Dr.read (by first | rfl | kernel_rfl) (by rfl) (by assumption) (fun M hM => by simp only [zAY,zAU,sp_n,zAN,Nat.reduceLT,fx,Nat.zero_add,Nat.reduceAdd] <;> rfl) (by rfl) (by first | exact VQ.int _ _ | exact VQ.bool _ | exact VQ.ptr _ _ | exact VQ.slice _ _ _ | exact VQ.func (by simp [zAW,zAV,zAZ]) (by simp [zAW,zAV,zAZ]) | exact VQ.agg (by simp [zAW,zAV,zAZ]) | exact VQ.tuple (by simp [zAW,zAV,zAZ])) ?_
  refine Dr.nil (by rfl) (fun M hM => by cases hM) FD ⟨D,by rfl,?_⟩
  (repeat (first | refine Rn.seq hc ?_ | refine Rn.skip hc ?_ | refine Rn.block hc ?_ | refine Rn.inBlock hc ?_ | refine Rn.scope hc ?_ | refine Rn.inScope hc ?_))
  refine Rn.ret (zCT rfl (v := .agg #[.int .i64 mm,.slice q1 n1 c1,.slice q2 n2 c2]) ?_ ?_)
  · simp only [zAU,zAT,sp_n,zAN,Nat.reduceLT,ne_eq,Nat.reduceEqDiff,zNf,ld,zAR,cls,Nat.zero_add,Nat.reduceAdd,tk24,g0,g1,g2]
  · simp only [zAU,sp_n,zAN,Nat.reduceLT]
    exact hT
end Go.Proofs.Ytdaljohmfnfgiaa
namespace Go.Proofs.Ytdaljohmfnfgiaa
open Go Go.RowKit Go.Proofs.Ytdaljohmfnfgiaa.Canon
set_option maxRecDepth 20000
theorem errL_all {m : Int} {st ro : List Int} (h : errL m st ro = 0) : (2 ≤ m ∧ m ≤ 65521) ∧ st.all (inB m) = true ∧ ro.all (inB m) = true := by
  unfold errL at h
  split at h
  · omega
  · rename_i h1
    split at h
    · omega
    · split at h
      · rename_i h3
        simp only [Bool.and_eq_true] at h3
        simp only [badM,Bool.or_eq_true,decide_eq_true_eq] at h1
        exact ⟨by omega,h3.1,h3.2⟩
      · omega
theorem err_lim {x : Las} (h : x.err = 0) : (2 ≤ x.m ∧ x.m ≤ 65521) ∧ (∀ n,0 ≤ x.s n ∧ x.s n < x.m) := by
  obtain ⟨h1,h2,h3⟩ := errL_all h
  exact ⟨h1,atL_in h2 h3 (errL_pos h)⟩
theorem errs_two0 {x y : Las} (h : errs [x,y] [x,y] = 0) : x.err = 0 ∧ y.err = 0 ∧ x.m = y.m := by
  rw [errs_two] at h
  by_cases h1 : x.err = 0
  · rw [if_neg (by simp [h1])] at h
    by_cases h2 : y.err = 0
    · rw [if_neg (by simp [h2])] at h
      split at h
      · rename_i h3; exact ⟨h1,h2,h3⟩
      · omega
    · rw [if_pos h2] at h; exact absurd h h2
  · rw [if_pos h1] at h; exact absurd h h1
theorem pair_run {A : AHeap} (hw : WF A) {x y : Las} (hox : x.ok A) (hoy : y.ok A) {p : FuncId} {ca : List Value} {f : Int → Int → Int} (hp : errs [x,y] [x,y] = 0 → PutC p ca A f) (hca : ∀ n,∀ v ∈ ca,veq (n + 1) v v = true) :
    Con Try.prog 84 [x.v,y.v,.func (.func p) #[] ⟨ca⟩] A (Tld A (errs [x,y] [x,y]) x.m fun n => f (x.s n) (y.s n)) := by
  refine zAM hc Try.func84 rfl (Nat.le_of_ble_eq_true rfl) ?_
  obtain ⟨A1,e1,hx1,hn1,b0,b1,b2⟩ := box3 hw (.int .i64 x.m) (.slice x.sa x.st.length x.sc) (.slice x.ra x.ro.length x.rc) 24
  obtain ⟨A2,e2,hx2,hn2,c0,c1,c2⟩ := box3 hx1.wf (.int .i64 y.m) (.slice y.sa y.st.length y.sc) (.slice y.ra y.ro.length y.rc) 24
  have hx02 : Nx A.next A A2 := hx1.trans (hx2.le hx1.next)
  have hxr : Nx A2.next A2 (A2.push (.cells #[.int .i64 0,.slice none 0 0,.slice none 0 0] 24)) := (Nx.refl hx2.wf _).push (Nat.le_refl _) _
  have lr := zAQ A2 (.cells #[.int .i64 0,.slice none 0 0,.slice none 0 0] 24)
  have hnr : (A2.push (.cells #[.int .i64 0,.slice none 0 0,.slice none 0 0] 24)).next = A2.next + 1 := rfl
  generalize er : A2.push (.cells #[.int .i64 0,.slice none 0 0,.slice none 0 0] 24) = Ar at hxr lr hnr
  have b0 := (hxr.cl (show A.next < A2.next by omega) 0).trans ((hx2.cl (show A.next < A1.next by omega) 0).trans b0)
  have b1 := (hxr.cl (show A.next < A2.next by omega) 1).trans ((hx2.cl (show A.next < A1.next by omega) 1).trans b1)
  have b2 := (hxr.cl (show A.next < A2.next by omega) 2).trans ((hx2.cl (show A.next < A1.next by omega) 2).trans b2)
  have c0 := (hxr.cl (show A1.next < A2.next by omega) 0).trans c0
  have c1 := (hxr.cl (show A1.next < A2.next by omega) 1).trans c1
  have c2 := (hxr.cl (show A1.next < A2.next by omega) 2).trans c2
  have hx0r : Nx A.next A Ar := hx02.trans (hxr.le hx02.next)
  have hx3 : Nx Ar.next Ar (Ar.push (.cells #[.int .i64 x.m,.slice x.sa x.st.length x.sc,.slice x.ra x.ro.length x.rc,.int .i64 y.m,.slice y.sa y.st.length y.sc,.slice y.ra y.ro.length y.rc] 24)) := (Nx.refl hx0r.wf _).push (Nat.le_refl _) _
  have l3 := zAQ Ar (.cells #[.int .i64 x.m,.slice x.sa x.st.length x.sc,.slice x.ra x.ro.length x.rc,.int .i64 y.m,.slice y.sa y.st.length y.sc,.slice y.ra y.ro.length y.rc] 24)
  have hn3 : (Ar.push (.cells #[.int .i64 x.m,.slice x.sa x.st.length x.sc,.slice x.ra x.ro.length x.rc,.int .i64 y.m,.slice y.sa y.st.length y.sc,.slice y.ra y.ro.length y.rc] 24)).next = Ar.next + 1 := rfl
  generalize e3 : Ar.push (.cells #[.int .i64 x.m,.slice x.sa x.st.length x.sc,.slice x.ra x.ro.length x.rc,.int .i64 y.m,.slice y.sa y.st.length y.sc,.slice y.ra y.ro.length y.rc] 24) = A3 at hx3 l3 hn3
  have hx03 : Nx A.next A A3 := hx0r.trans (hx3.le hx0r.next)
  have hrow := row_two (hox.nx hx03) (hoy.nx hx03) (b := Ar.next) (by omega) l3
  rw [s_in3]
  unfold Las.v
  (repeat (first | refine Rn.seq hc ?_ | refine Rn.skip hc ?_ | refine Rn.block hc ?_ | refine Rn.inBlock hc ?_ | refine Rn.scope hc ?_ | refine Rn.inScope hc ?_))
  refine Rn.reg hc rfl ?_
  simp only [zAY,zAS,zAU,zAT,sp_n,Nat.reduceLT,ne_eq,Nat.reduceEqDiff,zNf,gd,zAX,rops,fx,zOi,zEl,Value.cells,show Try.f84.ntmps = 28 from rfl,e1,e2,ze24,er]
  (repeat (first | refine Rn.seq hc ?_ | refine Rn.skip hc ?_ | refine Rn.block hc ?_ | refine Rn.inBlock hc ?_ | refine Rn.scope hc ?_ | refine Rn.inScope hc ?_))
  refine Rn.region hc fun K hK => ?_
  refine Wo.run hc 3 rfl rfl rfl ?_
  simp (maxSteps := 2000000) only [List.drop_zero,List.take_succ_cons,List.take_zero,zAY,zAU,zAT,sp_n,Nat.reduceLT,ne_eq,Nat.reduceEqDiff,not_false_eq_true,gd,zAX,List.nil_append,List.cons_append,rops,fx,ld,zAR,cls,Nat.zero_add,Option.some.injEq,exists_eq_left',Value.cells,Nat.reduceAdd,tk24,b0,b1,b2,c0,c1,c2,bs46_2,List.size_toArray,List.length_cons,List.length_nil,List.cons_append,List.nil_append,e3]
  refine Wo.call hc (by rfl) (by rfl) ⟨by rfl,by rfl⟩ (xs := [.slice (some ⟨Ar.next,0,none⟩) 2 2]) (by rfl) (by rfl) (by rfl) (Con.mono (check_all hx3.wf (l := [x,y]) hrow (by simp)) ?_)
  rintro w A4 ⟨rfl,hx4⟩
  refine Wo.run hc 1 rfl rfl rfl ?_
  simp (maxSteps := 2000000) only [List.drop_zero,List.drop_succ_cons,List.take_succ_cons,List.take_zero,zAY,zAU,sp_n,Nat.reduceLT,gd,zAX,rops,fx,Option.some.injEq,exists_eq_left',Nat.reduceAdd]
  refine Wo.done hc rfl (hK _ _ ?_)
  clear hK
  (repeat (first | refine Rn.seq hc ?_ | refine Rn.skip hc ?_ | refine Rn.block hc ?_ | refine Rn.inBlock hc ?_ | refine Rn.scope hc ?_ | refine Rn.inScope hc ?_))
  have hxr4 : Nx Ar.next Ar A4 := hx3.trans (hx4.le hx3.next)
  have hx04 : Nx A.next A A4 := hx0r.trans (hxr4.le hx0r.next)
  have n4 : Ar.next < A4.next := by have := hx4.next; omega
  have b0 := (hxr4.cl (show A.next < Ar.next by omega) 0).trans b0
  have b1 := (hxr4.cl (show A.next < Ar.next by omega) 1).trans b1
  have b2 := (hxr4.cl (show A.next < Ar.next by omega) 2).trans b2
  have c0 := (hxr4.cl (show A1.next < Ar.next by omega) 0).trans c0
  have c1 := (hxr4.cl (show A1.next < Ar.next by omega) 1).trans c1
  have c2 := (hxr4.cl (show A1.next < Ar.next by omega) 2).trans c2
  have l4 : Canon.look A4.objs A2.next = _ := (hxr4.keep _ (by omega)).trans lr
  by_cases he : errs [x,y] [x,y] = 0
  · have hd : (!decide (errs [x,y] [x,y] = 0)) = false := by rw [decide_eq_true he]; rfl
    obtain ⟨ex,ey,exy⟩ := errs_two0 he
    obtain ⟨m1,m2,m3⟩ := err_len ex
    obtain ⟨k1,k2,k3⟩ := err_len ey
    obtain ⟨mx,lx⟩ := err_lim ex
    obtain ⟨my,ly⟩ := err_lim ey
    have hrb := result_both hx04.wf (hox.nx hx04) (hoy.nx hx04) ⟨m3,m2⟩ ⟨k3,k2⟩ m1 k1 ((hp he).nx hx04) hca (fun n => ⟨(lx n).1,by have := (lx n).2; omega⟩) (fun n => ⟨(ly n).1,by have := (ly n).2; omega⟩)
    refine Rn.reg hc rfl ?_
    simp only [zAY,zAS,zAU,sp_n,Nat.reduceLT,gd,zAX,rops,fx,zBP,zOi,zEl,hd]
    (repeat (first | refine Rn.seq hc ?_ | refine Rn.skip hc ?_ | refine Rn.block hc ?_ | refine Rn.inBlock hc ?_ | refine Rn.scope hc ?_ | refine Rn.inScope hc ?_))
    refine Rn.zAI hc rfl ?_
    simp only [zAY,zAU,sp_n,Nat.reduceLT,Value.bool.injEq,zEl]
    (repeat (first | refine Rn.seq hc ?_ | refine Rn.skip hc ?_ | refine Rn.block hc ?_ | refine Rn.inBlock hc ?_ | refine Rn.scope hc ?_ | refine Rn.inScope hc ?_))
    rw [he]
    refine Rn.region hc fun K hK => ?_
    refine Wo.run hc 8 rfl rfl rfl ?_
    simp (maxSteps := 2000000) only [List.drop_zero,List.take_succ_cons,List.take_zero,zAY,zAU,zAT,sp_n,Nat.reduceLT,ne_eq,Nat.reduceEqDiff,not_false_eq_true,gd,zAX,List.nil_append,List.cons_append,rops,fx,ld,zAR,cls,Nat.zero_add,Option.some.injEq,exists_eq_left',Value.cells,Nat.reduceAdd,tk24,b0,b1,b2,c0,c1,c2,bd86,bd119,bd121,bd123,zAA,List.size_toArray,List.length_cons,List.length_nil,List.cons_append,List.nil_append]
    refine Wo.call hc (by rfl) (by rfl) ⟨by rfl,by rfl⟩ (xs := [bothV x y p ca]) (by rfl) (by rfl) (by rfl) (Con.mono (hrb) ?_)
    intro w C1 hT0
    obtain ⟨mm,n1,n2,ee,p1,c1,p2,c2,rfl,D,q1,g0,g1,g2,hoff,hT⟩ := Tld.fin (b := A2.next) hx04 (by omega) (by omega) l4 hT0
    refine Wo.run hc 4 rfl rfl rfl ?_
    simp (maxSteps := 2000000) only [List.drop_zero,List.drop_succ_cons,List.take_succ_cons,List.take_zero,zAY,zAU,zAT,sp_n,zAN,Nat.reduceLT,ne_eq,Nat.reduceEqDiff,not_false_eq_true,gd,zAX,rops,fx,str,ext,zAR,List.getElem?_toArray,List.getElem?_cons_zero,List.getElem?_cons_succ,Nat.zero_add,Option.some.injEq,exists_eq_left',Nat.reduceAdd,tk24,ext,q1,List.size_toArray,List.length_cons,List.length_nil,Nat.beq_refl]
    refine Wo.done hc rfl (hK _ _ ?_)
    clear hK
    (repeat (first | refine Rn.seq hc ?_ | refine Rn.skip hc ?_ | refine Rn.block hc ?_ | refine Rn.inBlock hc ?_ | refine Rn.scope hc ?_ | refine Rn.inScope hc ?_))
    refine Rn.ret (zCT rfl (v := .agg #[.int .i64 mm,.slice p1 n1 c1,.slice p2 n2 c2]) ?_ ?_)
    · simp only [zAU,zAT,sp_n,Nat.reduceLT,ne_eq,Nat.reduceEqDiff,zNf,ld,zAR,cls,Nat.zero_add,Nat.reduceAdd,tk24,g0,g1,g2]
    · simp only [zAU,sp_n,Nat.reduceLT]
      exact hT
  · have hd : (!decide (errs [x,y] [x,y] = 0)) = true := by rw [decide_eq_false he]; rfl
    obtain ⟨D,q1,g0,g1,g2,hxD⟩ := err_fin hx04 (by omega) (by omega) l4
    refine Rn.reg hc rfl ?_
    simp only [zAY,zAS,zAU,sp_n,Nat.reduceLT,gd,zAX,rops,fx,zBP,zOi,zEl,hd]
    (repeat (first | refine Rn.seq hc ?_ | refine Rn.skip hc ?_ | refine Rn.block hc ?_ | refine Rn.inBlock hc ?_ | refine Rn.scope hc ?_ | refine Rn.inScope hc ?_))
    refine Rn.zAI hc rfl ?_
    simp only [zAY,zAU,sp_n,Nat.reduceLT,Value.bool.injEq,zEl]
    (repeat (first | refine Rn.seq hc ?_ | refine Rn.skip hc ?_ | refine Rn.block hc ?_ | refine Rn.inBlock hc ?_ | refine Rn.scope hc ?_ | refine Rn.inScope hc ?_))
    refine Rn.reg hc rfl ?_
    simp only [zAY,zAU,zAT,sp_n,zAN,Nat.reduceLT,ne_eq,Nat.reduceEqDiff,zNf,gd,zAX,rops,fx,str,zAR,Nat.zero_add,zOi,zEl,Nat.reduceAdd,tk24,bd24_z,q1,List.size_toArray,List.length_cons,List.length_nil,Nat.beq_refl]
    (repeat (first | refine Rn.seq hc ?_ | refine Rn.skip hc ?_ | refine Rn.block hc ?_ | refine Rn.inBlock hc ?_ | refine Rn.scope hc ?_ | refine Rn.inScope hc ?_))
    refine Rn.ret (zCT rfl (v := .agg #[.int .i64 0,.slice none 0 0,.slice none 0 0]) ?_ ?_)
    · simp only [zAU,zAT,sp_n,Nat.reduceLT,ne_eq,Nat.reduceEqDiff,zNf,ld,zAR,cls,Nat.zero_add,Nat.reduceAdd,tk24,g0,g1,g2]
    · simp only [zAU,sp_n,Nat.reduceLT]
      exact tld_err he hxD
theorem vq_ptrs {b : Nat} : ∀ n,∀ v ∈ [Value.pointer (some ⟨b,0,none⟩)],veq (n + 1) v v = true := fun n v hv => by
  rw [List.mem_singleton] at hv
  rw [hv]
  exact zAV _ _ _
theorem sum_run {A : AHeap} (hw : WF A) {x y : Las} (hox : x.ok A) (hoy : y.ok A) :
    Con Try.prog 41 [x.v,y.v] A (Tld A (errs [x,y] [x,y]) x.m fun n => (x.s n + y.s n).tmod x.m) := by
  refine zAM hc Try.func41 rfl (Nat.le_of_ble_eq_true rfl) ?_
  obtain ⟨A1,e1,hx1,hn1,b0,b1,b2⟩ := box3 hw (.int .i64 x.m) (.slice x.sa x.st.length x.sc) (.slice x.ra x.ro.length x.rc) 24
  obtain ⟨A2,e2,hx2,hn2,c0,c1,c2⟩ := box3 hx1.wf (.int .i64 y.m) (.slice y.sa y.st.length y.sc) (.slice y.ra y.ro.length y.rc) 24
  have hx02 : Nx A.next A A2 := hx1.trans (hx2.le hx1.next)
  have hxr : Nx A2.next A2 (A2.push (.cells #[.int .i64 0,.slice none 0 0,.slice none 0 0] 24)) := (Nx.refl hx2.wf _).push (Nat.le_refl _) _
  have lr := zAQ A2 (.cells #[.int .i64 0,.slice none 0 0,.slice none 0 0] 24)
  have hnr : (A2.push (.cells #[.int .i64 0,.slice none 0 0,.slice none 0 0] 24)).next = A2.next + 1 := rfl
  generalize er : A2.push (.cells #[.int .i64 0,.slice none 0 0,.slice none 0 0] 24) = Ar at hxr lr hnr
  have b0 := (hxr.cl (show A.next < A2.next by omega) 0).trans ((hx2.cl (show A.next < A1.next by omega) 0).trans b0)
  have b1 := (hxr.cl (show A.next < A2.next by omega) 1).trans ((hx2.cl (show A.next < A1.next by omega) 1).trans b1)
  have b2 := (hxr.cl (show A.next < A2.next by omega) 2).trans ((hx2.cl (show A.next < A1.next by omega) 2).trans b2)
  have c0 := (hxr.cl (show A1.next < A2.next by omega) 0).trans c0
  have c1 := (hxr.cl (show A1.next < A2.next by omega) 1).trans c1
  have c2 := (hxr.cl (show A1.next < A2.next by omega) 2).trans c2
  have hx0r : Nx A.next A Ar := hx02.trans (hxr.le hx02.next)
  have hpr := pair_run hx0r.wf (hox.nx hx0r) (hoy.nx hx0r) (p := 85) (ca := [.pointer (some ⟨A.next,0,none⟩)]) (f := fun x' y' => (x' + y').tmod x.m) (fun he => sum_put b0 (by omega) (by have := (err_lim (errs_two0 he).1).1; omega)) vq_ptrs
  rw [s_in2]
  unfold Las.v
  (repeat (first | refine Rn.seq hc ?_ | refine Rn.skip hc ?_ | refine Rn.block hc ?_ | refine Rn.inBlock hc ?_ | refine Rn.scope hc ?_ | refine Rn.inScope hc ?_))
  refine Rn.reg hc rfl ?_
  simp only [zAY,zAS,zAU,zAT,sp_n,Nat.reduceLT,ne_eq,Nat.reduceEqDiff,zNf,gd,zAX,rops,fx,zOi,zEl,Value.cells,show Try.f41.ntmps = 12 from rfl,e1,e2,ze24,er]
  (repeat (first | refine Rn.seq hc ?_ | refine Rn.skip hc ?_ | refine Rn.block hc ?_ | refine Rn.inBlock hc ?_ | refine Rn.scope hc ?_ | refine Rn.inScope hc ?_))
  refine Rn.region hc fun K hK => ?_
  refine Wo.run hc 3 rfl rfl rfl ?_
  simp (maxSteps := 2000000) only [List.drop_zero,List.take_succ_cons,List.take_zero,zAY,zAU,zAT,sp_n,Nat.reduceLT,ne_eq,Nat.reduceEqDiff,not_false_eq_true,gd,zAX,rops,fx,ld,zAR,cls,Nat.zero_add,Option.some.injEq,exists_eq_left',Nat.reduceAdd,ae_mkfunc1,tk24,b0,b1,b2,c0,c1,c2]
  refine Wo.call hc (by rfl) (by rfl) ⟨by rfl,by rfl⟩ (xs := [x.v,y.v,.func (.func 85) #[] ⟨[.pointer (some ⟨A.next,0,none⟩)]⟩]) (by rfl) (by rfl) (by simp only [zAY,zAU,zAT,sp_n,Nat.reduceLT,ne_eq,Nat.reduceEqDiff,zNf,List.map_cons,List.map_nil,List.nil_append,List.append_nil]; rfl) (Con.mono hpr ?_)
  intro w C1 hT0
  obtain ⟨mm,n1,n2,ee,p1,c1,p2,c2,rfl,D,q1,g0,g1,g2,hoff,hT⟩ := Tld.fin (b := A2.next) hx0r (by omega) (by omega) lr hT0
  refine Wo.run hc 4 rfl rfl rfl ?_
  simp (maxSteps := 2000000) only [List.drop_zero,List.drop_succ_cons,List.take_succ_cons,List.take_zero,zAY,zAU,zAT,sp_n,zAN,Nat.reduceLT,ne_eq,Nat.reduceEqDiff,not_false_eq_true,gd,zAX,rops,fx,str,ext,zAR,List.getElem?_toArray,List.getElem?_cons_zero,List.getElem?_cons_succ,Nat.zero_add,Option.some.injEq,exists_eq_left',Nat.reduceAdd,tk24,ext,q1,List.size_toArray,List.length_cons,List.length_nil,Nat.beq_refl]
  refine Wo.done hc rfl (hK _ _ ?_)
  clear hK
  (repeat (first | refine Rn.seq hc ?_ | refine Rn.skip hc ?_ | refine Rn.block hc ?_ | refine Rn.inBlock hc ?_ | refine Rn.scope hc ?_ | refine Rn.inScope hc ?_))
  refine Rn.ret (zCT rfl (v := .agg #[.int .i64 mm,.slice p1 n1 c1,.slice p2 n2 c2]) ?_ ?_)
  · simp only [zAU,zAT,sp_n,Nat.reduceLT,ne_eq,Nat.reduceEqDiff,zNf,ld,zAR,cls,Nat.zero_add,Nat.reduceAdd,tk24,g0,g1,g2]
  · simp only [zAU,sp_n,Nat.reduceLT]
    exact hT
theorem errs_self (x : Las) : errs [x,x] [x,x] = x.err := by
  rw [errs_two]
  by_cases h : x.err = 0
  · rw [if_neg (by simp [h]),if_neg (by simp [h]),if_pos rfl,h]
  · rw [if_pos h]
theorem vq_ptrs2 {b c : Nat} : ∀ n,∀ v ∈ [Value.pointer (some ⟨b,0,none⟩),Value.pointer (some ⟨c,0,none⟩)],veq (n + 1) v v = true := fun n v hv => by
  simp only [List.mem_cons,List.not_mem_nil,or_false] at hv
  rcases hv with rfl | rfl
  · exact zAV _ _ _
  · exact zAV _ _ _
theorem scale_run {A : AHeap} (hw : WF A) {x : Las} (hox : x.ok A) {k : Int} :
    Con Try.prog 45 [x.v,.int .i64 k] A (Tld A x.err x.m fun n => (nrm k x.m * x.s n).tmod x.m) := by
  refine zAM hc Try.func45 rfl (Nat.le_of_ble_eq_true rfl) ?_
  obtain ⟨A1,e1,hx1,hn1,b0,b1,b2⟩ := box3 hw (.int .i64 x.m) (.slice x.sa x.st.length x.sc) (.slice x.ra x.ro.length x.rc) 24
  have hx2 : Nx A1.next A1 (A1.push (.cells #[.int .i64 k] 3)) := (Nx.refl hx1.wf _).push (Nat.le_refl _) _
  have l2 := zAQ A1 (.cells #[.int .i64 k] 3)
  have hn2 : (A1.push (.cells #[.int .i64 k] 3)).next = A1.next + 1 := rfl
  generalize e2 : A1.push (.cells #[.int .i64 k] 3) = A2 at hx2 l2 hn2
  have hx02 : Nx A.next A A2 := hx1.trans (hx2.le hx1.next)
  have hxr : Nx A2.next A2 (A2.push (.cells #[.int .i64 0,.slice none 0 0,.slice none 0 0] 24)) := (Nx.refl hx2.wf _).push (Nat.le_refl _) _
  have lr := zAQ A2 (.cells #[.int .i64 0,.slice none 0 0,.slice none 0 0] 24)
  have hnr : (A2.push (.cells #[.int .i64 0,.slice none 0 0,.slice none 0 0] 24)).next = A2.next + 1 := rfl
  generalize er : A2.push (.cells #[.int .i64 0,.slice none 0 0,.slice none 0 0] 24) = Ar at hxr lr hnr
  have b0 := (hxr.cl (show A.next < A2.next by omega) 0).trans ((hx2.cl (show A.next < A1.next by omega) 0).trans b0)
  have b1 := (hxr.cl (show A.next < A2.next by omega) 1).trans ((hx2.cl (show A.next < A1.next by omega) 1).trans b1)
  have b2 := (hxr.cl (show A.next < A2.next by omega) 2).trans ((hx2.cl (show A.next < A1.next by omega) 2).trans b2)
  have c0 : cl Ar A1.next 0 = some (.int .i64 k) := (hxr.cl (show A1.next < A2.next by omega) 0).trans (by rw [zBM l2 rfl]; rfl)
  have hx0r : Nx A.next A Ar := hx02.trans (hxr.le hx02.next)
  have hpr := pair_run hx0r.wf (hox.nx hx0r) (hox.nx hx0r) (p := 88) (ca := [.pointer (some ⟨A1.next,0,none⟩),.pointer (some ⟨A.next,0,none⟩)]) (f := fun x' _ => (nrm k x.m * x').tmod x.m) (fun he => scale_put c0 (by omega) b0 (by omega) (by have := (err_lim (errs_two0 he).1).1; omega)) vq_ptrs2
  rw [errs_self] at hpr
  rw [s_in2]
  unfold Las.v
  (repeat (first | refine Rn.seq hc ?_ | refine Rn.skip hc ?_ | refine Rn.block hc ?_ | refine Rn.inBlock hc ?_ | refine Rn.scope hc ?_ | refine Rn.inScope hc ?_))
  refine Rn.reg hc rfl ?_
  simp only [zAY,zAS,zAU,zAT,sp_n,Nat.reduceLT,ne_eq,Nat.reduceEqDiff,zNf,gd,zAX,rops,fx,zOi,zEl,Value.cells,show Try.f45.ntmps = 12 from rfl,e1,e2,ze24,er]
  (repeat (first | refine Rn.seq hc ?_ | refine Rn.skip hc ?_ | refine Rn.block hc ?_ | refine Rn.inBlock hc ?_ | refine Rn.scope hc ?_ | refine Rn.inScope hc ?_))
  refine Rn.region hc fun K hK => ?_
  refine Wo.run hc 3 rfl rfl rfl ?_
  simp (maxSteps := 2000000) only [List.drop_zero,List.take_succ_cons,List.take_zero,zAY,zAU,zAT,sp_n,Nat.reduceLT,ne_eq,Nat.reduceEqDiff,not_false_eq_true,gd,zAX,rops,fx,ld,zAR,cls,Nat.zero_add,Option.some.injEq,exists_eq_left',Nat.reduceAdd,ae_mkfunc2,tk24,b0,b1,b2]
  refine Wo.call hc (by rfl) (by rfl) ⟨by rfl,by rfl⟩ (xs := [x.v,x.v,.func (.func 88) #[] ⟨[.pointer (some ⟨A1.next,0,none⟩),.pointer (some ⟨A.next,0,none⟩)]⟩]) (by rfl) (by rfl) (by simp only [zAY,zAU,zAT,sp_n,Nat.reduceLT,ne_eq,Nat.reduceEqDiff,zNf,List.map_cons,List.map_nil,List.nil_append,List.append_nil]; rfl) (Con.mono hpr ?_)
  intro w C1 hT0
  obtain ⟨mm,n1,n2,ee,p1,c1,p2,c2,rfl,D,q1,g0,g1,g2,hoff,hT⟩ := Tld.fin (b := A2.next) hx0r (by omega) (by omega) lr hT0
  refine Wo.run hc 4 rfl rfl rfl ?_
  simp (maxSteps := 2000000) only [List.drop_zero,List.drop_succ_cons,List.take_succ_cons,List.take_zero,zAY,zAU,zAT,sp_n,zAN,Nat.reduceLT,ne_eq,Nat.reduceEqDiff,not_false_eq_true,gd,zAX,rops,fx,str,ext,zAR,List.getElem?_toArray,List.getElem?_cons_zero,List.getElem?_cons_succ,Nat.zero_add,Option.some.injEq,exists_eq_left',Nat.reduceAdd,tk24,ext,q1,List.size_toArray,List.length_cons,List.length_nil,Nat.beq_refl]
  refine Wo.done hc rfl (hK _ _ ?_)
  clear hK
  (repeat (first | refine Rn.seq hc ?_ | refine Rn.skip hc ?_ | refine Rn.block hc ?_ | refine Rn.inBlock hc ?_ | refine Rn.scope hc ?_ | refine Rn.inScope hc ?_))
  refine Rn.ret (zCT rfl (v := .agg #[.int .i64 mm,.slice p1 n1 c1,.slice p2 n2 c2]) ?_ ?_)
  · simp only [zAU,zAT,sp_n,Nat.reduceLT,ne_eq,Nat.reduceEqDiff,zNf,ld,zAR,cls,Nat.zero_add,Nat.reduceAdd,tk24,g0,g1,g2]
  · simp only [zAU,sp_n,Nat.reduceLT]
    exact hT
end Go.Proofs.Ytdaljohmfnfgiaa
namespace Go.Proofs.Ytdaljohmfnfgiaa
open Go Go.RowKit Go.Proofs.Ytdaljohmfnfgiaa.Canon
set_option maxRecDepth 20000
end Go.Proofs.Ytdaljohmfnfgiaa
namespace Go.Proofs.Ytdaljohmfnfgiaa
open Go Go.RowKit Go.Proofs.Ytdaljohmfnfgiaa.Canon
set_option maxRecDepth 20000
end Go.Proofs.Ytdaljohmfnfgiaa
namespace Go.Proofs.Ytdaljohmfnfgiaa
open Go Go.RowKit Go.Proofs.Ytdaljohmfnfgiaa.Canon
theorem nrm_mod (n : Int) {m : Int} (h : 0 < m) : nrm n m = n % m := by
  unfold nrm
  have h1 := tmod_lim n h
  rw [Int.tmod_eq_emod_of_nonneg (by omega)]
  have e := Int.mul_tdiv_add_tmod n m
  have h2 : n.tmod m + m = n + m * (1 - n.tdiv m) := by
    rw [Int.mul_sub,Int.mul_one]
    omega
  rw [h2,Int.add_mul_emod_self_left]
def scB (m : Int) (a : Nat → Int) (step r : Nat) : Nat → Int
  | 0 => 0
  | q + 1 => (scB m a step r q + a (r + q * step)) % m
def scY (m : Int) (a : Nat → Int) (step n : Nat) : Int := scB m a step (n % step) (n / step)
def scn (m : Int) (a : Nat → Int) (step n : Nat) : Int := scY m a step (n + step)
section
variable {m : Int} {a : Nat → Int} {step : Nat}
theorem scY_zero {n : Nat} (h : n < step) : scY m a step n = 0 := by
  unfold scY
  rw [Nat.div_eq_of_lt h]
  rfl
theorem scY_step (hs : 0 < step) (n : Nat) : scY m a step (n + step) = (scY m a step n + a n) % m := by
  unfold scY
  rw [Nat.add_mod_right,Nat.add_div_right _ hs]
  show (scB m a step (n % step) (n / step) + a (n % step + n / step * step)) % m = _
  rw [Nat.mul_comm,Nat.mod_add_div]
theorem scY_lim (hm : 0 < m) (n : Nat) : 0 ≤ scY m a step n ∧ scY m a step n < m := by
  unfold scY
  cases n / step with
  | zero => exact ⟨Int.le_refl _,hm⟩
  | succ q => exact ⟨Int.emod_nonneg _ (by omega),Int.emod_lt_of_pos _ hm⟩
theorem scY_self (hm : 0 < m) (n : Nat) : scY m a step n % m = scY m a step n := Int.emod_eq_of_lt (scY_lim hm n).1 (scY_lim hm n).2
theorem scn_lim (hm : 0 < m) (n : Nat) : 0 ≤ scn m a step n ∧ scn m a step n < m := scY_lim hm _
theorem scn_eq (hs : 0 < step) (n : Nat) : scn m a step n = (scY m a step n + a n) % m := scY_step hs n
def scD (m : Int) (a : Nat → Int) (step B n : Nat) : Int := (scY m a step (n + B) - scY m a step n) % m
variable {B N : Nat}
theorem scD_per (hs : 0 < step) (hP : ∀ n,N ≤ n → a (n + B) = a n) : Per (scD m a step B) N step := ⟨hs,fun n hn => by
  unfold scD
  rw [show n + step + B = n + B + step by omega,scY_step hs,scY_step hs,hP n hn,← Int.sub_emod]
  congr 1
  omega⟩
theorem scY_next (hm : 0 < m) (n : Nat) : scY m a step (n + B) = (scY m a step n + scD m a step B n) % m := by
  unfold scD
  rw [Int.add_comm,Int.emod_add_emod,Int.sub_add_cancel,scY_self hm]
theorem scY_times (hm : 0 < m) (hs : 0 < step) (hB : step ∣ B) (hP : ∀ n,N ≤ n → a (n + B) = a n) {n : Nat} (hn : N ≤ n) : ∀ k : Nat,scY m a step (n + k * B) = (scY m a step n + (k : Int) * scD m a step B n) % m
  | 0 => by simp [scY_self hm]
  | k + 1 => by
    have hc : scD m a step B (n + k * B) = scD m a step B n := by
      obtain ⟨c,rfl⟩ := hB
      refine (scD_per hs hP).same (by omega) hn ?_
      rw [show k * (step * c) = step * (k * c) by rw [Nat.mul_left_comm],Nat.add_mul_mod_self_left]
    rw [show n + (k + 1) * B = n + k * B + B by rw [Nat.succ_mul]; omega,scY_next hm,hc,scY_times hm hs hB hP hn k,Int.emod_add_emod]
    congr 1
    rw [Int.natCast_add,Int.add_mul,Int.natCast_one,Int.one_mul]
    omega
theorem scD_lim (hm : 0 < m) (n : Nat) : 0 ≤ scD m a step B n ∧ scD m a step B n < m := ⟨Int.emod_nonneg _ (by omega),Int.emod_lt_of_pos _ hm⟩
end
def ordN (m d : Nat) : Nat := m / Nat.gcd m d
theorem ordN_dvd {m d t : Nat} (hm : 0 < m) : ordN m d ∣ t ↔ m ∣ t * d := by
  unfold ordN
  rw [Nat.div_dvd_iff_dvd_mul (Nat.gcd_dvd_left m d) (Nat.gcd_pos_of_pos_left _ hm)]
  constructor
  · intro h
    refine Nat.dvd_trans h ?_
    rw [Nat.mul_comm t d]
    exact Nat.mul_dvd_mul_right (Nat.gcd_dvd_right m d) t
  · intro h
    have h1 : m ∣ t * m := Nat.dvd_mul_left _ _
    have h2 := Nat.dvd_gcd h1 h
    rw [Nat.gcd_mul_left] at h2
    rw [Nat.mul_comm]
    exact h2
theorem ordN_pos {m d : Nat} (hm : 0 < m) : 0 < ordN m d := Nat.div_pos (Nat.le_of_dvd hm (Nat.gcd_dvd_left _ _)) (Nat.gcd_pos_of_pos_left _ hm)
def dC (m : Nat) (a : Nat → Int) (step B N i : Nat) : Nat := (scD (m : Int) a step B (N * step + i)).toNat
section
variable {m : Nat} {a : Nat → Int} {step B N : Nat}
theorem dC_eq (hm : 0 < m) (hs : 0 < step) (hP : ∀ n,N ≤ n → a (n + B) = a n) {n : Nat} (hn : N ≤ n) : ((dC m a step B N (n % step) : Nat) : Int) = scD (m : Int) a step B n := by
  unfold dC
  rw [Int.toNat_of_nonneg (scD_lim (by omega) _).1]
  have h1 : N * 1 ≤ N * step := Nat.mul_le_mul_left _ hs
  refine (scD_per hs hP).same (by omega) hn ?_
  rw [Nat.mul_comm,Nat.mul_add_mod,Nat.mod_mod]
theorem scn_per (hm : 0 < m) (hs : 0 < step) (hB0 : 0 < B) (hB : step ∣ B) (hP : ∀ n,N ≤ n → a (n + B) = a n) {t : Nat} (ht0 : 0 < t) (ht : ∀ i,i < step → ordN m (dC m a step B N i) ∣ t) : Per (scn (m : Int) a step) N (t * B) := ⟨Nat.mul_pos ht0 hB0,fun n hn => by
  unfold scn
  have h1 := ht _ (Nat.mod_lt (n + step) hs)
  rw [ordN_dvd hm] at h1
  have h2 : (m : Int) ∣ (t : Int) * scD (m : Int) a step B (n + step) := by
    rw [← dC_eq hm hs hP (show N ≤ n + step by omega),← Int.natCast_mul,Int.natCast_dvd_natCast]
    exact h1
  rw [show n + t * B + step = n + step + t * B by omega,scY_times (by omega) hs hB hP (by omega),Int.add_emod,Int.emod_eq_zero_of_dvd h2,Int.add_zero,Int.emod_emod,scY_self (by omega)]⟩
theorem scn_per_m (hm : 0 < m) (hs : 0 < step) (hB0 : 0 < B) (hB : step ∣ B) (hP : ∀ n,N ≤ n → a (n + B) = a n) : Per (scn (m : Int) a step) N (m * B) :=
  scn_per hm hs hB0 hB hP hm fun i _ => (ordN_dvd hm).2 (Nat.dvd_mul_right _ _)
theorem ord_of_per (hm : 0 < m) (hs : 0 < step) (hB : step ∣ B) (hP : ∀ n,N ≤ n → a (n + B) = a n) {M k : Nat} (h : Per (scn (m : Int) a step) M (k * B)) : ∀ i,i < step → ordN m (dC m a step B N i) ∣ k := fun i hi => by
  rw [ordN_dvd hm]
  have h1 : (N + M) * 1 ≤ (N + M) * step := Nat.mul_le_mul_left _ hs
  have e1 : (((N + M) * step + i) + step) % step = i := by rw [Nat.add_mod_right,Nat.mul_comm,Nat.mul_add_mod,Nat.mod_eq_of_lt hi]
  have h2 := h.per ((N + M) * step + i) (by omega)
  unfold scn at h2
  rw [show (N + M) * step + i + k * B + step = (N + M) * step + i + step + k * B by omega,scY_times (by omega) hs hB hP (show N ≤ (N + M) * step + i + step by omega)] at h2
  have h3 : ((k : Int) * scD (m : Int) a step B ((N + M) * step + i + step)) % (m : Int) = 0 := by
    have h4 := Int.sub_emod (scY (m : Int) a step ((N + M) * step + i + step) + (k : Int) * scD (m : Int) a step B ((N + M) * step + i + step)) (scY (m : Int) a step ((N + M) * step + i + step)) (m : Int)
    rw [h2,scY_self (by omega),Int.sub_self,Int.zero_emod] at h4
    rw [← h4]
    congr 1
    omega
  have h5 := Int.dvd_of_emod_eq_zero h3
  rw [← dC_eq hm hs hP (show N ≤ (N + M) * step + i + step by omega),e1,← Int.natCast_mul,Int.natCast_dvd_natCast] at h5
  exact h5
end
theorem red_of_per {s : Nat → Int} {N d : Nat} (h : Per s N d) : ∃ a p,Red s a p ∧ a ≤ N ∧ p ≤ d := by
  obtain ⟨a,p,hr,ha,hp,_⟩ := red_exists (redS s N) (ro := redR s N d) (by rw [zBI]; exact h.pos)
  rw [atL_redF h] at hr
  rw [zBV] at ha
  rw [zBI] at hp
  exact ⟨a,p,hr,ha,hp⟩
theorem tp_long {m : Int} {s : Nat → Int} {N d : Nat} (h : Per s N d) (hl : ∀ a p,Red s a p → 120 < p) : TP 0 m s 0 [] [] 11 := by
  obtain ⟨a,p,hr,_,_⟩ := red_of_per h
  exact .inr ⟨rfl,a,p,hr,.inl ⟨.inl (hl a p hr),rfl,rfl,rfl,rfl⟩⟩
section
variable {m : Nat} {a : Nat → Int} {step B N : Nat}
theorem long_run (hm : 0 < m) (hs : 0 < step) (hB0 : 0 < B) (hB : step ∣ B) (hP : ∀ n,N ≤ n → a (n + B) = a n) {i : Nat} (hi : i ≤ step) (hl : 120 < lcmF (fun i => ordN m (dC m a step B N i)) i) {p b : Nat} (hr : Red (scn (m : Int) a step) b p) : 120 < p := by
  have h1 : Per (scn (m : Int) a step) b (p * B) := by
    rw [Nat.mul_comm]
    exact hr.per.mul hB0
  have h2 := ord_of_per hm hs hB hP h1
  have h3 : lcmF (fun i => ordN m (dC m a step B N i)) i ∣ p := lcmF_least fun j hj => h2 j (by omega)
  have := Nat.le_of_dvd hr.per.pos h3
  omega
end
end Go.Proofs.Ytdaljohmfnfgiaa
namespace Go.Proofs.Ytdaljohmfnfgiaa
open Go Go.RowKit Go.Proofs.Ytdaljohmfnfgiaa.Canon
set_option maxRecDepth 20000
theorem tk69 : tk Try.prog 69 = .one := by kernel_rfl
theorem s_in5w (n : Nat) (a b c e f : Value) : (⟨n,zCA [a,b,c,e,f] 0 .leaf⟩ : Slots) = sput (sput (sput (sput (sput ⟨n,.leaf⟩ (some 0) a) (some 1) b) (some 2) c) (some 3) e) (some 4) f := rfl
theorem ae_mkfunc4 {ρ : Operand → Value} {d : Option Tmp} {ty : TypeId} {pos : String} {af : Array Edge} {gu : Option (Nat × Bool)} {A : AHeap} {f : FuncId} {a b c e : Tmp} : zAL Try.prog ρ ⟨d,.makeFunc (.func f) #[] #[.tmp a,.tmp b,.tmp c,.tmp e],ty,pos,af,gu⟩ A = some (.func (.func f) #[] #[ρ (.tmp a),ρ (.tmp b),ρ (.tmp c),ρ (.tmp e)],A) := by
  rw [ae_mkfunc (by rfl)]; simp
theorem rem_nat {x d : Nat} (hd : 0 < d) (M : AHeap) : bin Try.prog .rem 3 (.int .i64 (x : Int)) (.int .i64 (d : Int)) M = some (.int .i64 ((x % d : Nat) : Int),M) := by
  rw [zCM _ _ _ _ (by omega),IntWalk.rem_in _ _ (by omega)]
  rfl
theorem next_run {G : AHeap} (hw : WF G) {p13 p8 p9 p5 bS : Nat} {c : Array Value} {step n : Nat} {m u w : Int} {fi : Value} (h13 : cl G p13 0 = some (.slice (some ⟨bS,0,none⟩) step step)) (h8 : cl G p8 0 = some (.int .i64 (step : Int))) (h9 : cl G p9 0 = some (.func (.func 77) #[fi] #[])) (h5 : cl G p5 0 = some (.int .i64 m))
    (l13 : p13 < G.next ∧ p13 ≠ bS) (l8 : p8 < G.next ∧ p8 ≠ bS) (l9 : p9 < G.next ∧ p9 ≠ bS) (l5 : p5 < G.next ∧ p5 ≠ bS) (lS : Canon.look G.objs bS = some ⟨.cells c 3,false,0⟩) (hcs : c.size = step) (hs : 0 < step) (hcv : c[n % step]? = some (.int .i64 u)) (hm : 0 < m ∧ m ≤ 65521) (hu : 0 ≤ u ∧ u < m) (hww : 0 ≤ w ∧ w < m)
    (hat : ∀ C,Nx G.next G C → Con Try.prog 77 [fi,.int .i64 (n : Int)] C (fun v C1 => v = .int .i64 w ∧ Nx C.next C C1)) (hvq : VQ (.func (.func 77) #[fi] #[])) :
    Con Try.prog 111 [.int .i64 (n : Int),.pointer (some ⟨p13,0,none⟩),.pointer (some ⟨p8,0,none⟩),.pointer (some ⟨p9,0,none⟩),.pointer (some ⟨p5,0,none⟩)] G
      (fun v G1 => v = .int .i64 ((u + w) % m) ∧ WF G1 ∧ G.next ≤ G1.next ∧ (∀ b,b < G.next → b ≠ bS → Canon.look G1.objs b = Canon.look G.objs b) ∧ Canon.look G1.objs bS = some ⟨.cells (c.setIfInBounds (n % step) (.int .i64 ((u + w) % m))) 3,false,0⟩) := by
  refine zAM hc Try.func111 rfl (Nat.le_of_ble_eq_true rfl) ?_
  have hlt : n % step < step := Nat.mod_lt _ hs
  have hbS : bS < G.next := hw _ _ lS
  have hcS : cl G bS (n % step) = some (.int .i64 u) := by rw [zBM lS rfl]; exact hcv
  have hwr : IntKind.i64.wrap (u + w) = u + w := IntWalk.i64_in _ ⟨by omega,by omega⟩
  have hr : ∀ M,bin Try.prog .rem 3 (.int .i64 (u + w)) (.int .i64 m) M = some (.int .i64 ((u + w) % m),M) := fun M => by
    rw [zCM _ _ _ _ (by omega),Int.tmod_eq_emod_of_nonneg (by omega)]
  obtain ⟨F,hFb,hF⟩ : ∃ F : AHeap → Prop,(∀ M,F M → ∀ b,b < G.next → ∀ o,cl M b o = cl G b o) ∧ (∀ M,Nx G.next G M → F M) := ⟨fun M => Nx G.next G M,fun M h b hb o => h.cl hb o,fun _ h => h⟩
  have F13 := fun M hM => (hFb M hM _ l13.1 0).trans h13
  have F8 := fun M hM => (hFb M hM _ l8.1 0).trans h8
  have F9 := fun M hM => (hFb M hM _ l9.1 0).trans h9
  have F5 := fun M hM => (hFb M hM _ l5.1 0).trans h5
  have FS := fun M hM => (hFb M hM _ hbS (n % step)).trans hcS
  have hbk : Nx G.next G (bump G 18) := Nx.bump (Nx.refl hw _) 18
  have FB := hF _ hbk
  rw [s_in5w]
  (repeat (first | refine Rn.seq hc ?_ | refine Rn.skip hc ?_ | refine Rn.block hc ?_ | refine Rn.inBlock hc ?_ | refine Rn.scope hc ?_ | refine Rn.inScope hc ?_))
  refine Rn.reg hc rfl ?_
  simp only [zAS,ne_eq,gd,zAX,rops,fx,zOi,zEl,show Try.f111.ntmps = 30 from rfl]
  (repeat (first | refine Rn.seq hc ?_ | refine Rn.skip hc ?_ | refine Rn.block hc ?_ | refine Rn.inBlock hc ?_ | refine Rn.scope hc ?_ | refine Rn.inScope hc ?_))
  refine Rn.drawnL hc hx (nmS w) F (E := [12]) (n := 17) (k := 18) (by kernel_rfl) (by kernel_rfl) (by rfl) (by kernel_rfl) ?_
  refine DrL.read (by first | rfl | kernel_rfl) (by rfl) (by assumption) (fun M hM => by simp only [zAY,zAU,zAT,sp_n,Nat.reduceLT,ne_eq,Nat.reduceEqDiff,zNf,fx,ld,zAR,tk22,F13 M hM] <;> rfl) (by rfl) (by first | exact VQ.int _ _ | exact VQ.bool _ | exact VQ.ptr _ _ | exact VQ.slice _ _ _ | exact VQ.func (by simp [zAW,zAV,zAZ]) (by simp [zAW,zAV,zAZ]) | exact VQ.agg (by simp [zAW,zAV,zAZ]) | exact VQ.tuple (by simp [zAW,zAV,zAZ])) ?_
  refine DrL.read (by first | rfl | kernel_rfl) (by rfl) (by assumption) (fun M hM => by simp only [zAY,zAU,zAT,Nat.reduceLT,ne_eq,Nat.reduceEqDiff,zNf,fx] <;> rfl) (by rfl) (by first | exact VQ.int _ _ | exact VQ.bool _ | exact VQ.ptr _ _ | exact VQ.slice _ _ _ | exact VQ.func (by simp [zAW,zAV,zAZ]) (by simp [zAW,zAV,zAZ]) | exact VQ.agg (by simp [zAW,zAV,zAZ]) | exact VQ.tuple (by simp [zAW,zAV,zAZ])) ?_
  refine DrL.read (by first | rfl | kernel_rfl) (by rfl) (by assumption) (fun M hM => by simp only [zAY,zAU,zAT,sp_n,Nat.reduceLT,ne_eq,Nat.reduceEqDiff,zNf,fx,ld,zAR,tk3,F8 M hM] <;> rfl) (by rfl) (by first | exact VQ.int _ _ | exact VQ.bool _ | exact VQ.ptr _ _ | exact VQ.slice _ _ _ | exact VQ.func (by simp [zAW,zAV,zAZ]) (by simp [zAW,zAV,zAZ]) | exact VQ.agg (by simp [zAW,zAV,zAZ]) | exact VQ.tuple (by simp [zAW,zAV,zAZ])) ?_
  refine DrL.read (by first | rfl | kernel_rfl) (by rfl) (by assumption) (fun M hM => by simp only [zAY,zAU,zAT,sp_n,Nat.reduceLT,ne_eq,Nat.reduceEqDiff,zNf,fx,rem_nat hs] <;> rfl) (by rfl) (by first | exact VQ.int _ _ | exact VQ.bool _ | exact VQ.ptr _ _ | exact VQ.slice _ _ _ | exact VQ.func (by simp [zAW,zAV,zAZ]) (by simp [zAW,zAV,zAZ]) | exact VQ.agg (by simp [zAW,zAV,zAZ]) | exact VQ.tuple (by simp [zAW,zAV,zAZ])) ?_
  refine DrL.read (by first | rfl | kernel_rfl) (by rfl) (by assumption) (fun M hM => by simp only [zAY,zAU,zAT,sp_n,Nat.reduceLT,ne_eq,Nat.reduceEqDiff,zNf,fx,ld,zAR,tk22,F13 M hM] <;> rfl) (by rfl) (by first | exact VQ.int _ _ | exact VQ.bool _ | exact VQ.ptr _ _ | exact VQ.slice _ _ _ | exact VQ.func (by simp [zAW,zAV,zAZ]) (by simp [zAW,zAV,zAZ]) | exact VQ.agg (by simp [zAW,zAV,zAZ]) | exact VQ.tuple (by simp [zAW,zAV,zAZ])) ?_
  refine DrL.read (by first | rfl | kernel_rfl) (by rfl) (by assumption) (fun M hM => by simp only [zAY,zAU,zAT,Nat.reduceLT,ne_eq,Nat.reduceEqDiff,zNf,fx] <;> rfl) (by rfl) (by first | exact VQ.int _ _ | exact VQ.bool _ | exact VQ.ptr _ _ | exact VQ.slice _ _ _ | exact VQ.func (by simp [zAW,zAV,zAZ]) (by simp [zAW,zAV,zAZ]) | exact VQ.agg (by simp [zAW,zAV,zAZ]) | exact VQ.tuple (by simp [zAW,zAV,zAZ])) ?_
  refine DrL.read (by first | rfl | kernel_rfl) (by rfl) (by assumption) (fun M hM => by simp only [zAY,zAU,zAT,sp_n,Nat.reduceLT,ne_eq,Nat.reduceEqDiff,zNf,fx,ld,zAR,tk3,F8 M hM] <;> rfl) (by rfl) (by first | exact VQ.int _ _ | exact VQ.bool _ | exact VQ.ptr _ _ | exact VQ.slice _ _ _ | exact VQ.func (by simp [zAW,zAV,zAZ]) (by simp [zAW,zAV,zAZ]) | exact VQ.agg (by simp [zAW,zAV,zAZ]) | exact VQ.tuple (by simp [zAW,zAV,zAZ])) ?_
  refine DrL.read (by first | rfl | kernel_rfl) (by rfl) (by assumption) (fun M hM => by simp only [zAY,zAU,zAT,sp_n,Nat.reduceLT,ne_eq,Nat.reduceEqDiff,zNf,fx,rem_nat hs] <;> rfl) (by rfl) (by first | exact VQ.int _ _ | exact VQ.bool _ | exact VQ.ptr _ _ | exact VQ.slice _ _ _ | exact VQ.func (by simp [zAW,zAV,zAZ]) (by simp [zAW,zAV,zAZ]) | exact VQ.agg (by simp [zAW,zAV,zAZ]) | exact VQ.tuple (by simp [zAW,zAV,zAZ])) ?_
  refine DrL.read (by first | rfl | kernel_rfl) (by rfl) (by assumption) (fun M hM => by simp only [zAY,zAU,zAT,sp_n,Nat.reduceLT,ne_eq,Nat.reduceEqDiff,zNf,fx,idx,Nat.zero_add,Nat.mul_one,eo22,zAK hlt] <;> rfl) (by rfl) (by first | exact VQ.int _ _ | exact VQ.bool _ | exact VQ.ptr _ _ | exact VQ.slice _ _ _ | exact VQ.func (by simp [zAW,zAV,zAZ]) (by simp [zAW,zAV,zAZ]) | exact VQ.agg (by simp [zAW,zAV,zAZ]) | exact VQ.tuple (by simp [zAW,zAV,zAZ])) ?_
  refine DrL.read (by first | rfl | kernel_rfl) (by rfl) (by assumption) (fun M hM => by simp only [zAY,zAU,sp_n,Nat.reduceLT,fx,ld,zAR,tk3,FS M hM] <;> rfl) (by rfl) (by first | exact VQ.int _ _ | exact VQ.bool _ | exact VQ.ptr _ _ | exact VQ.slice _ _ _ | exact VQ.func (by simp [zAW,zAV,zAZ]) (by simp [zAW,zAV,zAZ]) | exact VQ.agg (by simp [zAW,zAV,zAZ]) | exact VQ.tuple (by simp [zAW,zAV,zAZ])) ?_
  refine DrL.read (by first | rfl | kernel_rfl) (by rfl) (by assumption) (fun M hM => by simp only [zAY,zAU,zAT,sp_n,Nat.reduceLT,ne_eq,Nat.reduceEqDiff,zNf,fx,ld,zAR,tk69,F9 M hM] <;> rfl) (by rfl) (by first | exact hvq | exact VQ.int _ _ | exact VQ.bool _ | exact VQ.ptr _ _ | exact VQ.slice _ _ _ | exact VQ.func (by simp [zAW,zAV,zAZ]) (by simp [zAW,zAV,zAZ]) | exact VQ.agg (by simp [zAW,zAV,zAZ]) | exact VQ.tuple (by simp [zAW,zAV,zAZ])) ?_
  refine DrL.read (by first | rfl | kernel_rfl) (by rfl) (by assumption) (fun M hM => by simp only [zAY,zAU,zAT,Nat.reduceLT,ne_eq,Nat.reduceEqDiff,zNf,fx] <;> rfl) (by rfl) (by first | exact VQ.int _ _ | exact VQ.bool _ | exact VQ.ptr _ _ | exact VQ.slice _ _ _ | exact VQ.func (by simp [zAW,zAV,zAZ]) (by simp [zAW,zAV,zAZ]) | exact VQ.agg (by simp [zAW,zAV,zAZ]) | exact VQ.tuple (by simp [zAW,zAV,zAZ])) ?_
  refine DrL.call (by kernel_rfl) (by rfl) (by assumption) (by rfl) (zAC (g := 77) (fi := #[fi]) (ca := #[]) (by rfl) ⟨by rfl,by rfl⟩ (by simp only [zAY,zAU,zAT,sp_n,Nat.reduceLT,ne_eq,Nat.reduceEqDiff,zNf]) (xs := [fi,.int .i64 (n : Int)]) (by simp only [zAY,zAU,sp_n,Nat.reduceLT,List.map_cons,List.map_nil,List.nil_append,List.append_nil,List.cons_append]) (Con.mono (hat _ hbk) fun v A1 h => (h : v = .int .i64 w ∧ Nx (bump G 18).next (bump G 18) A1))) ?_
  rintro v M1 ⟨rfl,k1⟩
  have hM1 : Nx G.next G M1 := hbk.trans (k1.le hbk.next)
  have FM1 := hF _ hM1
  refine DrL.read (by first | rfl | kernel_rfl) (by rfl) (by assumption) (fun M hM => by simp only [zAY,zAU,zAT,sp_n,Nat.reduceLT,ne_eq,Nat.reduceEqDiff,zNf,fx,zAE,hwr] <;> rfl) (by rfl) (by first | exact VQ.int _ _ | exact VQ.bool _ | exact VQ.ptr _ _ | exact VQ.slice _ _ _ | exact VQ.func (by simp [zAW,zAV,zAZ]) (by simp [zAW,zAV,zAZ]) | exact VQ.agg (by simp [zAW,zAV,zAZ]) | exact VQ.tuple (by simp [zAW,zAV,zAZ])) ?_
  refine DrL.read (by first | rfl | kernel_rfl) (by rfl) (by assumption) (fun M hM => by simp only [zAY,zAU,zAT,sp_n,Nat.reduceLT,ne_eq,Nat.reduceEqDiff,zNf,fx,ld,zAR,tk3,F5 M hM] <;> rfl) (by rfl) (by first | exact VQ.int _ _ | exact VQ.bool _ | exact VQ.ptr _ _ | exact VQ.slice _ _ _ | exact VQ.func (by simp [zAW,zAV,zAZ]) (by simp [zAW,zAV,zAZ]) | exact VQ.agg (by simp [zAW,zAV,zAZ]) | exact VQ.tuple (by simp [zAW,zAV,zAZ])) ?_
  refine DrL.read (by first | rfl | kernel_rfl) (by rfl) (by assumption) (fun M hM => by simp only [zAY,zAU,zAT,sp_n,Nat.reduceLT,ne_eq,Nat.reduceEqDiff,zNf,fx,hr] <;> rfl) (by rfl) (by first | exact VQ.int _ _ | exact VQ.bool _ | exact VQ.ptr _ _ | exact VQ.slice _ _ _ | exact VQ.func (by simp [zAW,zAV,zAZ]) (by simp [zAW,zAV,zAZ]) | exact VQ.agg (by simp [zAW,zAV,zAZ]) | exact VQ.tuple (by simp [zAW,zAV,zAZ])) ?_
  refine DrL.read (by first | rfl | kernel_rfl) (by rfl) (by assumption) (fun M hM => by simp only [zAY,zAU,zAT,sp_n,Nat.reduceLT,ne_eq,Nat.reduceEqDiff,zNf,fx,idx,Nat.zero_add,Nat.mul_one,eo22,zAK hlt] <;> rfl) (by rfl) (by first | exact VQ.int _ _ | exact VQ.bool _ | exact VQ.ptr _ _ | exact VQ.slice _ _ _ | exact VQ.func (by simp [zAW,zAV,zAZ]) (by simp [zAW,zAV,zAZ]) | exact VQ.agg (by simp [zAW,zAV,zAZ]) | exact VQ.tuple (by simp [zAW,zAV,zAZ])) ?_
  have lM1 : Canon.look M1.objs bS = _ := (hM1.keep _ hbS).trans lS
  obtain ⟨M2,v1,v2⟩ := st1_upd (o := n % step) (v := .int .i64 ((u + w) % m)) lM1 rfl (by omega) rfl
  refine DrL.eff (by rfl) (by rfl) (pd1 := []) (pd2 := []) (by kernel_rfl) (by kernel_rfl) (ms0 := []) (A0 := M1) rfl (fun _ h => by cases h) FM1 (by rfl) (v := undef) (A1 := M2) (zBK rfl (fx_ok (by rfl) (by simp only [zAY,zAU,zAT,sp_n,Nat.reduceLT,ne_eq,Nat.reduceEqDiff,zNf,fx,str,zAR,tk3,v1]))) ?_
  refine DrL.nil ⟨by rfl,M2,by rfl,?_⟩
  obtain ⟨c',t,f,g,e,r1,r2,_⟩ := v2.at'
  rw [lM1] at r1
  cases r1
  have n2 := v2.next
  have nM := hM1.next
  have z13 : cl M2 p13 0 = _ := (zBT (v2.off _ l13.2)).trans ((hM1.cl l13.1 0).trans h13)
  have z8 : cl M2 p8 0 = _ := (zBT (v2.off _ l8.2)).trans ((hM1.cl l8.1 0).trans h8)
  have zS : cl M2 bS (n % step) = some (.int .i64 ((u + w) % m)) := by
    rw [zBM r2 rfl]
    show (c.setIfInBounds (n % step) _)[n % step]? = _
    rw [Array.getElem?_setIfInBounds,if_pos rfl,if_pos (by omega)]
  (repeat (first | refine Rn.seq hc ?_ | refine Rn.skip hc ?_ | refine Rn.block hc ?_ | refine Rn.inBlock hc ?_ | refine Rn.scope hc ?_ | refine Rn.inScope hc ?_))
  refine Rn.drawnR hc hx (by kernel_rfl) (by rfl) (by kernel_rfl) ?_ ?_
  · simp only [rdV,VQ.int,VQ.ptr,VQ.slice,zAB,zAY,zAU,zAT,sp_n,zAN,Nat.reduceLT,ne_eq,Nat.reduceEqDiff,zNf,gd,zAX,fx,ld,idx,zAR,Nat.zero_add,Nat.reduceAdd,Nat.mul_one,and_self,tk3,tk22,eo22,z13,z8,zS,rem_nat hs,zAK hlt,List.length_cons,List.length_nil]
  simp only [zAB,zAY,zAU,zAT,sp_n,zAN,Nat.reduceLT,ne_eq,Nat.reduceEqDiff,zNf,gd,zAX,rops,fx,ld,idx,zAR,Nat.zero_add,zOi,zEl,Nat.reduceAdd,Nat.mul_one,tk3,tk22,eo22,z13,z8,zS,rem_nat hs,zAK hlt,List.length_cons,List.length_nil]
  (repeat (first | refine Rn.seq hc ?_ | refine Rn.skip hc ?_ | refine Rn.block hc ?_ | refine Rn.inBlock hc ?_ | refine Rn.scope hc ?_ | refine Rn.inScope hc ?_))
  refine Rn.ret (zAJ rfl ⟨?_,WF.bump (v2.nx hM1.wf (Nat.zero_le _)).wf _,by rw [zAH]; omega,fun b hb hne => ?_,r2⟩)
  · simp only [zAU,sp_n,Nat.reduceLT]
  · show Canon.look M2.objs b = _
    rw [v2.off _ hne]
    exact hM1.keep _ hb
structure SumSt (C : AHeap) (bS : Nat) (m : Int) (a : Nat → Int) (step : Nat) (G : AHeap) (M L : Nat) (wa : Option Addr) : Prop where
  wf : WF G
  next : C.next ≤ G.next
  keep : ∀ b,b < C.next → b ≠ bS → Canon.look G.objs b = Canon.look C.objs b
  arr : ∃ c : Array Value,c.size = step ∧ Canon.look G.objs bS = some ⟨.cells c 3,false,0⟩ ∧ ∀ n,M ≤ n → n < M + step → c[n % step]? = some (.int .i64 (scY m a step n))
  gr : Gr G wa C.next (redS (scn m a step) L)
theorem SumSt.nx {C : AHeap} {bS : Nat} {m : Int} {a : Nat → Int} {step : Nat} {G H : AHeap} {M L : Nat} {wa : Option Addr} (h : SumSt C bS m a step G M L wa) (k : Nx G.next G H) : SumSt C bS m a step H M L wa where
  wf := k.wf
  next := Nat.le_trans h.next k.next
  keep := fun b hb hne => (k.keep _ (Nat.lt_of_lt_of_le hb h.next)).trans (h.keep b hb hne)
  arr := by
    obtain ⟨c,h1,h2,h3⟩ := h.arr
    exact ⟨c,h1,(k.keep _ (h.wf _ _ h2)).trans h2,h3⟩
  gr := h.gr.nx (n := 0) h.wf k
structure SumV (C : AHeap) (bS p13 p8 p9 p5 : Nat) (m : Int) (step : Nat) (fi : Value) : Prop where
  h13 : cl C p13 0 = some (.slice (some ⟨bS,0,none⟩) step step)
  h8 : cl C p8 0 = some (.int .i64 (step : Int))
  h9 : cl C p9 0 = some (.func (.func 77) #[fi] #[])
  h5 : cl C p5 0 = some (.int .i64 m)
  l13 : p13 < C.next ∧ p13 ≠ bS
  l8 : p8 < C.next ∧ p8 ≠ bS
  l9 : p9 < C.next ∧ p9 ≠ bS
  l5 : p5 < C.next ∧ p5 ≠ bS
  lS : bS < C.next
theorem sum_next {C : AHeap} {bS p13 p8 p9 p5 : Nat} {m : Int} {a : Nat → Int} {step : Nat} {fi : Value} (hV : SumV C bS p13 p8 p9 p5 m step fi) (hs : 0 < step) (hm : 0 < m ∧ m ≤ 65521) (ha : ∀ n,0 ≤ a n ∧ a n < m) (hvq : VQ (.func (.func 77) #[fi] #[])) {G : AHeap} {M L : Nat} {wa : Option Addr} (h : SumSt C bS m a step G M L wa)
    (hat : ∀ C1,Nx G.next G C1 → Con Try.prog 77 [fi,.int .i64 (M : Int)] C1 (fun v C2 => v = .int .i64 (a M) ∧ Nx C1.next C1 C2)) :
    Con Try.prog 111 [.int .i64 (M : Int),.pointer (some ⟨p13,0,none⟩),.pointer (some ⟨p8,0,none⟩),.pointer (some ⟨p9,0,none⟩),.pointer (some ⟨p5,0,none⟩)] G
      (fun v G1 => v = .int .i64 (scn m a step M) ∧ SumSt C bS m a step G1 (M + 1) L wa ∧ G.next ≤ G1.next ∧ ∀ b,b < G.next → b ≠ bS → Canon.look G1.objs b = Canon.look G.objs b) := by
  obtain ⟨c,h1,h2,h3⟩ := h.arr
  have hn := h.next
  have k13 : cl G p13 0 = _ := (zBT (h.keep _ hV.l13.1 hV.l13.2)).trans hV.h13
  have k8 : cl G p8 0 = _ := (zBT (h.keep _ hV.l8.1 hV.l8.2)).trans hV.h8
  have k9 : cl G p9 0 = _ := (zBT (h.keep _ hV.l9.1 hV.l9.2)).trans hV.h9
  have k5 : cl G p5 0 = _ := (zBT (h.keep _ hV.l5.1 hV.l5.2)).trans hV.h5
  refine Con.mono (next_run h.wf k13 k8 k9 k5 ⟨by have := hV.l13.1; omega,hV.l13.2⟩ ⟨by have := hV.l8.1; omega,hV.l8.2⟩ ⟨by have := hV.l9.1; omega,hV.l9.2⟩ ⟨by have := hV.l5.1; omega,hV.l5.2⟩ h2 h1 hs (h3 M (Nat.le_refl _) (by omega)) hm (scY_lim hm.1 M) (ha M) hat hvq) fun v G1 ⟨q1,q2,q3,q4,q5⟩ => ⟨?_,⟨q2,by omega,fun b hb hne => (q4 b (by omega) hne).trans (h.keep b hb hne),⟨_,by rw [Array.size_setIfInBounds]; exact h1,q5,fun n hn1 hn2 => ?_⟩,?_⟩,q3,q4⟩
  · rw [q1,scn_eq hs]
  · rw [Array.getElem?_setIfInBounds]
    by_cases hne : n = M + step
    · subst hne
      rw [Nat.add_mod_right,if_pos rfl,if_pos (by rw [h1]; exact Nat.mod_lt _ hs),scY_step hs]
    · rw [if_neg]
      · exact h3 n (by omega) (by omega)
      · intro he
        have e1 := Nat.div_add_mod M step
        have e2 := Nat.div_add_mod n step
        have h4 : M / step ≤ n / step := Nat.div_le_div_right (by omega)
        have h5 : M / step < n / step + 1 := by omega
        by_cases h6 : n / step = M / step
        · rw [h6] at e2; omega
        · have h7 : step * (M / step + 1) ≤ step * (n / step) := Nat.mul_le_mul_left _ (by omega)
          rw [Nat.mul_add,Nat.mul_one] at h7
          omega
  · refine h.gr.ext q3 fun b hb => ?_
    by_cases hlt : b < G.next
    · exact .inr (q4 b hlt (by have := hV.lS; omega))
    · exact .inl (h.wf.none (by omega))
theorem sum_push {C : AHeap} {bS : Nat} {m : Int} {a : Nat → Int} {step : Nat} {G : AHeap} {M L : Nat} {wa : Option Addr} (h : SumSt C bS m a step G M L wa) (hbS : bS < C.next) {b2 : Nat} (hx : cl G b2 0 = some (.int .i64 (scn m a step L))) (hlen : L ≤ 4000000) :
    ∃ G1,aapp Try.prog #[22,22] #[.slice wa L L,.slice (some ⟨b2,0,none⟩) 1 1] G = some (.slice (some ⟨G.next,0,none⟩) (L + 1) (L + 1),G1) ∧ G1.next = G.next + 1 ∧ SumSt C bS m a step G1 M (L + 1) (some ⟨G.next,0,none⟩) ∧ (∀ b,b < G.next → (∀ y,wa = some y → y.block ≠ b) → Canon.look G1.objs b = Canon.look G.objs b) := by
  obtain ⟨G1,q1,q2,q3,q4,q5,q6⟩ := gr_push h.wf h.gr (a2 := some ⟨b2,0,none⟩) (c2 := 1) (b2 := b2) (x := scn m a step L) rfl hx (by rw [zBV]; exact hlen)
  rw [zBV] at q1
  rw [redS_snoc] at q4
  have hn := h.next
  have hk : Nx C.next G G1 := q6.le (by omega)
  refine ⟨G1,q1,q2,⟨q3,by omega,fun b hb hne => (hk.keep b hb).trans (h.keep b hb hne),?_,q4.mono hn⟩,q5⟩
  obtain ⟨c,h1,h2,h3⟩ := h.arr
  exact ⟨c,h1,(hk.keep _ hbS).trans h2,h3⟩
theorem SumSt.lt {C : AHeap} {bS : Nat} {m : Int} {a : Nat → Int} {step : Nat} {G : AHeap} {M L : Nat} {wa : Option Addr} (h : SumSt C bS m a step G M L wa) {y : Addr} (hy : wa = some y) : C.next ≤ y.block ∧ y.block < G.next := by
  obtain ⟨_,h1,z,hz,_⟩ := h.gr.sl y hy
  exact ⟨h1,h.wf _ _ hz⟩
end Go.Proofs.Ytdaljohmfnfgiaa
namespace Go.Proofs.Ytdaljohmfnfgiaa
open Go Go.RowKit Go.Proofs.Ytdaljohmfnfgiaa.Canon
set_option maxRecDepth 20000
theorem box1 {A : AHeap} (hw : WF A) (v : Value) (t : TypeId) : ∃ A1,A.push (.cells #[v] t) = A1 ∧ Nx A.next A A1 ∧ A1.next = A.next + 1 ∧ cl A1 A.next 0 = some v ∧ Canon.look A1.objs A.next = some ⟨.cells #[v] t,false,0⟩ :=
  ⟨_,rfl,(Nx.refl hw _).push (Nat.le_refl _) _,rfl,by rw [zBF]; rfl,zAQ A _⟩
theorem cls_rep {M step i : Nat} (hi : i < step) : ∃ n,M ≤ n ∧ n < M + step ∧ n % step = i := by
  have e := Nat.div_add_mod M step
  have h := Nat.mod_lt M (show 0 < step by omega)
  by_cases hr : M % step ≤ i
  · refine ⟨M + (i - M % step),by omega,by omega,?_⟩
    rw [show M + (i - M % step) = step * (M / step) + i by omega,Nat.mul_add_mod,Nat.mod_eq_of_lt hi]
  · refine ⟨M + (step - M % step + i),by omega,by omega,?_⟩
    rw [show M + (step - M % step + i) = step * (M / step) + (step + i) by omega,Nat.mul_add_mod,Nat.add_mod_left,Nat.mod_eq_of_lt hi]
theorem tld_tp {A D : AHeap} {m : Int} {s : Nat → Int} (h : TP 0 m s 0 [] [] 11) (hx : Nx A.next A D) : Tld A 0 m s (.tuple #[.agg #[.int .i64 0,.slice none 0 0,.slice none 0 0],.int .i64 11]) D :=
  ⟨hx,0,[],[],11,none,0,none,0,h,rfl,ints_nil' _ _ _ _,ints_nil' _ _ _ _,fun h0 => absurd h0 (by simp),fun h0 => absurd h0 (by simp),fun y hy => (by cases hy),fun y hy => (by cases hy),Nat.le_refl _,Nat.le_refl _⟩
theorem asl_lo1 {A : AHeap} {b o lo len : Nat} (hs : Sl A (some ⟨b,o,none⟩) lo) {n : Nat} (hn : n < len) : asl Try.prog 22 (.slice (some ⟨b,o,none⟩) len len) (some (.int .i64 (n : Int))) none none A = some (.slice (some ⟨b,o + n,none⟩) (len - n) (len - n),A) := by
  obtain ⟨_,i,z,hinf,_,_,_,hsz,_⟩ := elB_eq el22
  have hb1 : zBS (some (.int .i64 (n : Int))) 0 = some n := by simp [zBS]
  have hb0 : ∀ d,zBS none d = some d := fun _ => rfl
  have t2 : Nat.ble n len = true := Nat.ble_eq_true_of_le (by omega)
  have t3 : Nat.ble len len = true := Nat.ble_eq_true_of_le (Nat.le_refl _)
  have hne : ¬ len = n := by omega
  obtain ⟨_,_,y,hy,hg⟩ := hs _ rfl
  obtain ⟨ob,g,zz⟩ := y
  have hadd : (⟨b,o,none⟩ : Addr).add (n * i.size) = ⟨b,o + n,none⟩ := by
    rw [hsz,Nat.mul_one,addr_add]
  rcases hg with hg | ⟨hg,_,hz⟩
  · simp only at hg
    subst hg
    simp only [asl,un22,hinf,hb0,hb1,t2,Option.isSome_none,Bool.not_false,Bool.true_or,hy]
    rw [t3]
    simp only [hne,if_false,hadd]
  · simp only at hg hz
    subst hg hz
    have hzi : Nat.beq 1 i.size = true := by rw [hsz]; rfl
    have hcb : Nat.beq (len - n) 0 = false := by
      cases hb : Nat.beq (len - n) 0 with
      | false => rfl
      | true => have := Nat.eq_of_beq_eq_true hb; omega
    simp only [asl,un22,hinf,hb0,hb1,t2,Option.isSome_none,Bool.not_false,Bool.true_or,hy,hzi,hcb,hadd]
    rw [t3]
def smS (d g L : Nat) : Canon.Spec := fun f _ A v A1 => match f with
  | 89 => v = .int .i64 (d : Int) ∧ Nx A.next A A1
  | 108 => v = .int .i64 (g : Int) ∧ Nx A.next A A1
  | _ => v = .int .i64 (L : Int) ∧ Nx A.next A A1
theorem summed_run {A : AHeap} (hw : WF A) {m stem round step : Nat} {fi : Value} {a : Nat → Int} (hm : 2 ≤ m ∧ m ≤ 65521) (hst : stem ≤ 1000) (hro : 1 ≤ round ∧ round ≤ 120) (hsp : 1 ≤ step ∧ step ≤ 120) (hlim : ∀ n,0 ≤ a n ∧ a n < (m : Int)) (hP : Per a stem round)
    (hat : ∀ C,Nx A.next A C → ∀ n : Nat,n < 10000000 → Con Try.prog 77 [fi,.int .i64 (n : Int)] C (fun v C1 => v = .int .i64 (a n) ∧ Nx C.next C C1)) (hvq : VQ (.func (.func 77) #[fi] #[])) :
    Con Try.prog 91 [.int .i64 (m : Int),.int .i64 (stem : Int),.int .i64 (round : Int),.int .i64 (step : Int),.func (.func 77) #[fi] #[]] A (Tld A 0 m (scn m a step)) := by
  refine zAM hc Try.func91 rfl (Nat.le_of_ble_eq_true rfl) ?_
  obtain ⟨A1,e1,hx1,hn1,b5,-⟩ := box1 hw (.int .i64 (m : Int)) 3
  obtain ⟨A2,e2,hx2,hn2,b8,-⟩ := box1 hx1.wf (.int .i64 (step : Int)) 3
  obtain ⟨A3,e3,hx3,hn3,b9,-⟩ := box1 hx2.wf (.func (.func 77) #[fi] #[]) 69
  have hx4 : Nx A3.next A3 (A3.push (.cells #[.int .i64 0,.slice none 0 0,.slice none 0 0] 24)) := (Nx.refl hx3.wf _).push (Nat.le_refl _) _
  have l4 := zAQ A3 (.cells #[.int .i64 0,.slice none 0 0,.slice none 0 0] 24)
  have hn4 : (A3.push (.cells #[.int .i64 0,.slice none 0 0,.slice none 0 0] 24)).next = A3.next + 1 := rfl
  generalize e4 : A3.push (.cells #[.int .i64 0,.slice none 0 0,.slice none 0 0] 24) = A4 at hx4 l4 hn4
  have hx5 : Nx A4.next A4 (A4.push (.cells #[.int .i64 (round : Int),.int .i64 (step : Int)] 3)) := (Nx.refl hx4.wf _).push (Nat.le_refl _) _
  have l5 := zAQ A4 (.cells #[.int .i64 (round : Int),.int .i64 (step : Int)] 3)
  have hn5 : (A4.push (.cells #[.int .i64 (round : Int),.int .i64 (step : Int)] 3)).next = A4.next + 1 := rfl
  generalize e5 : A4.push (.cells #[.int .i64 (round : Int),.int .i64 (step : Int)] 3) = A5 at hx5 l5 hn5
  have b8' := (hx4.cl (show A1.next < A3.next by omega) 0).trans ((hx3.cl (show A1.next < A2.next by omega) 0).trans b8)
  obtain ⟨f1,f2,f3,f4⟩ := lcmN_facts (show 0 < round by omega) (show 0 < step by omega)
  have hB2 : lcmN round step ≤ 120 * 120 := Nat.le_trans f4 (Nat.mul_le_mul hro.2 hsp.2)
  rw [s_in5w]
  (repeat (first | refine Rn.seq hc ?_ | refine Rn.skip hc ?_ | refine Rn.block hc ?_ | refine Rn.inBlock hc ?_ | refine Rn.scope hc ?_ | refine Rn.inScope hc ?_))
  refine Rn.reg hc rfl ?_
  simp only [zAY,zAS,zAU,zAT,sp_n,Nat.reduceLT,ne_eq,Nat.reduceEqDiff,zNf,gd,zAX,rops,fx,zOi,zEl,Value.cells,show Try.f91.ntmps = 113 from rfl,e1,e2,e3,ze24,e4]
  (repeat (first | refine Rn.seq hc ?_ | refine Rn.skip hc ?_ | refine Rn.block hc ?_ | refine Rn.inBlock hc ?_ | refine Rn.scope hc ?_ | refine Rn.inScope hc ?_))
  refine Rn.region hc fun K hK => ?_
  refine Wo.run hc 3 rfl rfl rfl ?_
  simp (maxSteps := 2000000) only [List.drop_zero,List.take_succ_cons,List.take_zero,zAY,zAU,zAT,sp_n,Nat.reduceLT,ne_eq,Nat.reduceEqDiff,not_false_eq_true,gd,zAX,rops,fx,ld,zAR,Nat.zero_add,Option.some.injEq,exists_eq_left',tk3,b8',bs22_2,zAA,e5]
  refine Wo.call hc (by rfl) (by rfl) ⟨by rfl,by rfl⟩ (xs := [.slice (some ⟨A4.next,0,none⟩) 2 2]) (by rfl) (by rfl) (by rfl) (Con.mono (lcm_two hx5.wf (x := round) (y := step) (by rw [zBM l5 rfl]; rfl) (by rw [zBM l5 rfl]; rfl) (by omega) ⟨by omega,by omega⟩ ⟨by omega,by omega⟩) ?_)
  rintro w A6 ⟨rfl,hx6⟩
  refine Wo.run hc 1 rfl rfl rfl ?_
  simp (maxSteps := 2000000) only [List.drop_zero,List.drop_succ_cons,List.take_succ_cons,List.take_zero,zAY,zAU,sp_n,Nat.reduceLT,gd,zAX,rops,fx,Option.some.injEq,exists_eq_left',Nat.reduceAdd]
  refine Wo.done hc rfl (hK _ _ ?_)
  clear hK
  (repeat (first | refine Rn.seq hc ?_ | refine Rn.skip hc ?_ | refine Rn.block hc ?_ | refine Rn.inBlock hc ?_ | refine Rn.scope hc ?_ | refine Rn.inScope hc ?_))
  have hdvS : step ∣ lcmN round step := Nat.dvd_of_mod_eq_zero f3
  have hdvR : round ∣ lcmN round step := Nat.dvd_of_mod_eq_zero f2
  generalize lcmN round step = B at f1 f2 f3 f4 hB2 hdvS hdvR ⊢
  have hP' : ∀ n,stem ≤ n → a (n + B) = a n := fun n hn => by
    obtain ⟨q,rfl⟩ := hdvR
    rw [Nat.mul_comm]
    exact hP.times q n hn
  clear f2 f3 f4
  have n6 := hx6.next
  have hx46 : Nx A4.next A4 A6 := hx5.trans (hx6.le (by omega))
  have hx7 : Nx A6.next A6 (A6.push (.cells (Array.replicate step (.int .i64 0)) 3)) := (Nx.refl hx6.wf _).push (Nat.le_refl _) _
  have l7 := zAQ A6 (.cells (Array.replicate step (.int .i64 0)) 3)
  have hn7 : (A6.push (.cells (Array.replicate step (.int .i64 0)) 3)).next = A6.next + 1 := rfl
  generalize e7 : A6.push (.cells (Array.replicate step (.int .i64 0)) 3) = A7 at hx7 l7 hn7
  obtain ⟨A8,e8,hx8,hn8,-,l8⟩ := box1 hx7.wf (.slice none 0 0) 22
  obtain ⟨C,q9,u9⟩ := st1_upd (o := 0) (v := .slice (some ⟨A6.next,0,none⟩) step step) l8 rfl (by simp) rfl
  have hn9 := u9.next
  have hx9 : Nx A7.next A7 C := hx8.trans (u9.nx hx8.wf (Nat.le_refl _))
  have h13 : cl C A7.next 0 = some (.slice (some ⟨A6.next,0,none⟩) step step) := by rw [u9.cl]; rfl
  have hx4C : Nx A4.next A4 C := hx46.trans ((hx7.le (by omega)).trans (hx9.le (by omega)))
  have hx3C : Nx A3.next A3 C := hx4.trans (hx4C.le (by omega))
  have h8 : cl C A1.next 0 = some (.int .i64 (step : Int)) := (hx4C.cl (show A1.next < A4.next by omega) 0).trans b8'
  have h9 : cl C A2.next 0 = some (.func (.func 77) #[fi] #[]) := (hx3C.cl (show A2.next < A3.next by omega) 0).trans b9
  have h5 : cl C A.next 0 = some (.int .i64 (m : Int)) := (hx3C.cl (show A.next < A3.next by omega) 0).trans ((hx3.cl (show A.next < A2.next by omega) 0).trans ((hx2.cl (show A.next < A1.next by omega) 0).trans b5))
  have lR : Canon.look C.objs A3.next = _ := (hx4C.keep _ (by omega)).trans l4
  have hx03 : Nx A.next A A3 := hx1.trans ((hx2.le (by omega)).trans (hx3.le (by omega)))
  have hAC : Nx A.next A C := hx03.trans (hx3C.le (by omega))
  have lS : Canon.look C.objs A6.next = _ := (hx9.keep _ (by omega)).trans l7
  refine Rn.reg hc rfl ?_
  simp only [zAY,zAU,zAT,sp_n,zAN,Nat.reduceLT,ne_eq,Nat.reduceEqDiff,zNf,gd,zAX,rops,fx,ld,str,zAR,zOi,zEl,Value.cells,tk3,tk22,(hx46.cl (show A1.next < A4.next by omega) 0).trans b8',ae_mk2,mk2_nat (show step ≤ 1000000 by omega),e7,ze22,e8,q9]
  (repeat (first | refine Rn.seq hc ?_ | refine Rn.skip hc ?_ | refine Rn.block hc ?_ | refine Rn.inBlock hc ?_ | refine Rn.scope hc ?_ | refine Rn.inScope hc ?_))
  obtain ⟨bS,hbS⟩ : ∃ b,b = A6.next := ⟨_,rfl⟩
  obtain ⟨p13,hp13⟩ : ∃ b,b = A7.next := ⟨_,rfl⟩
  obtain ⟨p8,hp8⟩ : ∃ b,b = A1.next := ⟨_,rfl⟩
  obtain ⟨p9,hp9⟩ : ∃ b,b = A2.next := ⟨_,rfl⟩
  obtain ⟨p5,hp5⟩ : ∃ b,b = A.next := ⟨_,rfl⟩
  obtain ⟨pR,hpR⟩ : ∃ b,b = A3.next := ⟨_,rfl⟩
  rw [← hbS,← hp13] at h13
  rw [← hbS] at lS
  rw [← hp8] at h8
  rw [← hp9] at h9
  rw [← hp5] at h5
  rw [← hpR] at lR
  rw [← hp13,← hp8,← hp9,← hp5,← hpR]
  have hV : SumV C bS p13 p8 p9 p5 (m : Int) step fi := ⟨h13,h8,h9,h5,⟨by omega,by omega⟩,⟨by omega,by omega⟩,⟨by omega,by omega⟩,⟨by omega,by omega⟩,by omega⟩
  have hpRC : pR < C.next := by omega
  have hpRS : pR ≠ bS := by omega
  have hbSA : A.next ≤ bS := by omega
  have hpRA : A.next ≤ pR := by omega
  have hp5R : p5 ≠ pR := by omega
  have S0 : SumSt C bS (m : Int) a step C 0 0 none := ⟨hAC.wf,Nat.le_refl _,fun _ _ _ => rfl,⟨_,Array.size_replicate,lS,fun n h1 h2 => by
    have hn : n < step := by omega
    rw [Nat.mod_eq_of_lt hn,scY_zero hn]
    simp [hn]⟩,Gr.nil _ _⟩
  have hAG : ∀ {G : AHeap} {M L : Nat} {wa : Option Addr},SumSt C bS (m : Int) a step G M L wa → Nx A.next A G := fun {G M L wa} h => ⟨Nat.le_trans hAC.next h.next,h.wf,fun b hb => (h.keep b (by have := hAC.next; omega) (by omega)).trans (hAC.keep b hb)⟩
  have hmi : (0 : Int) < (m : Int) ∧ (m : Int) ≤ 65521 := by omega
  clear e1 e2 e3 e4 e5 e7 e8 q9 u9 l4 l5 l7 l8 b5 b8 b9 b8' hx1 hx2 hx3 hx4 hx5 hx6 hx7 hx8 hx9 hx46 hx4C hx3C hx03 hn1 hn2 hn3 hn4 hn5 hn7 hn8 hn9 n6
  clear hbS hp13 hp8 hp9 hp5 hpR
  refine Rn.reg hc rfl ?_
  simp only [zAY,zAU,zAT,sp_n,Nat.reduceLT,ne_eq,Nat.reduceEqDiff,zNf,gd,zAX,rops,fx,zOi,zEl,ae_mkfunc4]
  (repeat (first | refine Rn.seq hc ?_ | refine Rn.skip hc ?_ | refine Rn.block hc ?_ | refine Rn.inBlock hc ?_ | refine Rn.scope hc ?_ | refine Rn.inScope hc ?_))
  refine Rn.reg hc rfl ?_
  simp only [zAS,gd,zAX,rops,fx,zOi,zEl]
  (repeat (first | refine Rn.seq hc ?_ | refine Rn.skip hc ?_ | refine Rn.block hc ?_ | refine Rn.inBlock hc ?_ | refine Rn.scope hc ?_ | refine Rn.inScope hc ?_))
  refine Rn.reg hc rfl ?_
  simp only [zAY,zAS,zAU,zAT,sp_n,Nat.reduceLT,ne_eq,Nat.reduceEqDiff,zNf,gd,zAX,rops,fx,zOi,zEl]
  (repeat (first | refine Rn.seq hc ?_ | refine Rn.skip hc ?_ | refine Rn.block hc ?_ | refine Rn.inBlock hc ?_ | refine Rn.scope hc ?_ | refine Rn.inScope hc ?_))
  refine Rn.loopI hc (I := fun k s G => ∃ i wa,i ≤ stem ∧ k = stem - i ∧ SumSt C bS (m : Int) a step G i i wa ∧ s.n = 113 ∧ sget s 1 = .int .i64 (stem : Int) ∧ sget s 5 = .pointer (some ⟨p5,0,none⟩) ∧ sget s 8 = .pointer (some ⟨p8,0,none⟩) ∧ sget s 10 = .pointer (some ⟨pR,0,none⟩) ∧ sget s 12 = .int .i64 (B : Int) ∧ sget s 13 = .pointer (some ⟨p13,0,none⟩) ∧ sget s 14 = .func (.func 111) #[] #[.pointer (some ⟨p13,0,none⟩),.pointer (some ⟨p8,0,none⟩),.pointer (some ⟨p9,0,none⟩),.pointer (some ⟨p5,0,none⟩)] ∧ sget s 15 = .slice wa i i ∧ sget s 30 = .int .i64 (stem : Int) ∧ sget s 31 = .int .i64 (i : Int))
    (n := stem) ⟨0,none,by omega,rfl,S0,by simp only [sp_n],by simp only [zAU,zAT,sp_n,Nat.reduceLT,ne_eq,Nat.reduceEqDiff,zNf],by simp only [zAU,zAT,sp_n,Nat.reduceLT,ne_eq,Nat.reduceEqDiff,zNf],by simp only [zAU,zAT,sp_n,Nat.reduceLT,ne_eq,Nat.reduceEqDiff,zNf],by simp only [zAU,zAT,sp_n,Nat.reduceLT,ne_eq,Nat.reduceEqDiff,zNf],by simp only [zAU,zAT,sp_n,Nat.reduceLT,ne_eq,Nat.reduceEqDiff,zNf],by simp only [zAU,zAT,sp_n,Nat.reduceLT,ne_eq,Nat.reduceEqDiff,zNf],by simp only [zAU,zAT,sp_n,Nat.reduceLT,ne_eq,Nat.reduceEqDiff,zNf],by simp only [zAU,zAT,sp_n,Nat.reduceLT,ne_eq,Nat.reduceEqDiff,zNf],by simp only [zAU,zAT,sp_n,Nat.reduceLT,ne_eq,Nat.reduceEqDiff,zNf],by simp only [zAU,sp_n,Nat.reduceLT]; rfl⟩ ?_
  rintro k s G ⟨i,wa,hi,rfl,St,hn,s1,s5,s8,s10,s12,s13,s14,s15,s30,s31⟩ ih
  (repeat (first | refine Rn.seq hc ?_ | refine Rn.skip hc ?_ | refine Rn.block hc ?_ | refine Rn.inBlock hc ?_ | refine Rn.scope hc ?_ | refine Rn.inScope hc ?_))
  by_cases hlt : i < stem
  · have hd : decide ((i : Int) < (stem : Int)) = true := decide_eq_true (by omega)
    refine Rn.reg hc rfl ?_
    simp only [zAY,gd,zAX,rops,fx,zAP,zOi,zEl,s30,s31,hd]
    (repeat (first | refine Rn.seq hc ?_ | refine Rn.skip hc ?_ | refine Rn.block hc ?_ | refine Rn.inBlock hc ?_ | refine Rn.scope hc ?_ | refine Rn.inScope hc ?_))
    refine Rn.zAI hc rfl ?_
    simp only [zAY,zAU,Nat.reduceLT,Value.bool.injEq,zEl,hn]
    (repeat (first | refine Rn.seq hc ?_ | refine Rn.skip hc ?_ | refine Rn.block hc ?_ | refine Rn.inBlock hc ?_ | refine Rn.scope hc ?_ | refine Rn.inScope hc ?_))
    refine Rn.reg hc rfl ?_
    simp only [zAY,zAU,zAT,sp_n,Nat.reduceLT,ne_eq,Nat.reduceEqDiff,zNf,gd,zAX,rops,fx,zOi,zEl,hn,s31]
    (repeat (first | refine Rn.seq hc ?_ | refine Rn.skip hc ?_ | refine Rn.block hc ?_ | refine Rn.inBlock hc ?_ | refine Rn.scope hc ?_ | refine Rn.inScope hc ?_))
    refine Rn.region hc fun K hK => ?_
    refine Wo.run hc 3 rfl rfl rfl ?_
    simp (maxSteps := 2000000) only [List.drop_zero,List.take_succ_cons,List.take_zero,zAY,zAU,zAT,sp_n,Nat.reduceLT,ne_eq,Nat.reduceEqDiff,not_false_eq_true,gd,zAX,rops,fx,Nat.zero_add,Option.some.injEq,exists_eq_left',hn,s14,s15]
    refine Wo.call hc (by rfl) (by rfl) ⟨by rfl,by rfl⟩ (xs := [.int .i64 (i : Int),.pointer (some ⟨p13,0,none⟩),.pointer (some ⟨p8,0,none⟩),.pointer (some ⟨p9,0,none⟩),.pointer (some ⟨p5,0,none⟩)]) (by rfl) (by first | rfl | (simp only [zAY,zAU,zAT,sp_n,Nat.reduceLT,ne_eq,Nat.reduceEqDiff,zNf,hn]; done) | (simp only [zAY,zAU,zAT,sp_n,Nat.reduceLT,ne_eq,Nat.reduceEqDiff,zNf,hn]; rfl)) (by simp only [zAY,zAU,sp_n,Nat.reduceLT,List.map_cons,List.map_nil,List.nil_append,List.cons_append,hn]) (Con.mono (sum_next hV (by omega) hmi hlim hvq St (fun C1 h => hat C1 ((hAG St).trans (h.le (hAG St).next)) i (by omega))) ?_)
    rintro w G1 ⟨rfl,S1,-,-⟩
    obtain ⟨G2,e2,hz2,hn2,z2,-⟩ := box1 S1.wf (.int .i64 (scn (m : Int) a step i)) 3
    obtain ⟨G3,q3,n3,S3,-⟩ := sum_push (S1.nx hz2) hV.lS z2 (by omega)
    refine Wo.run hc 3 rfl rfl rfl ?_
    simp (maxSteps := 2000000) only [List.drop_zero,List.drop_succ_cons,List.take_succ_cons,List.take_zero,zAY,zAU,zAT,sp_n,Nat.reduceLT,ne_eq,Nat.reduceEqDiff,not_false_eq_true,gd,zAX,rops,fx,Option.some.injEq,exists_eq_left',Nat.reduceAdd,hn,bs22_1,zAA,e2,ae_apd,apd_slice,q3]
    refine Wo.done hc rfl (hK _ _ ?_)
    clear hK
    (repeat (first | refine Rn.seq hc ?_ | refine Rn.skip hc ?_ | refine Rn.block hc ?_ | refine Rn.inBlock hc ?_ | refine Rn.scope hc ?_ | refine Rn.inScope hc ?_))
    refine Rn.reg hc rfl ?_
    simp only [zAY,zAS,zAU,zAT,sp_n,Nat.reduceLT,ne_eq,Nat.reduceEqDiff,zNf,gd,zAX,rops,fx,zAE,zOi,zEl,hn,s31,zBY (show i < 9223372036854775807 by omega)]
    (repeat (first | refine Rn.seq hc ?_ | refine Rn.skip hc ?_ | refine Rn.block hc ?_ | refine Rn.inBlock hc ?_ | refine Rn.scope hc ?_ | refine Rn.inScope hc ?_))
    exact ih _ _ _ (by omega) ⟨i + 1,_,by omega,rfl,S3,by simp only [sp_n,hn],by simp only [zAT,ne_eq,Nat.reduceEqDiff,zNf,s1],by simp only [zAT,ne_eq,Nat.reduceEqDiff,zNf,s5],by simp only [zAT,ne_eq,Nat.reduceEqDiff,zNf,s8],by simp only [zAT,ne_eq,Nat.reduceEqDiff,zNf,s10],by simp only [zAT,ne_eq,Nat.reduceEqDiff,zNf,s12],by simp only [zAT,ne_eq,Nat.reduceEqDiff,zNf,s13],by simp only [zAT,ne_eq,Nat.reduceEqDiff,zNf,s14],by simp only [zAU,zAT,sp_n,Nat.reduceLT,ne_eq,Nat.reduceEqDiff,zNf,hn],by simp only [zAT,ne_eq,Nat.reduceEqDiff,zNf,s30],by simp only [zAU,sp_n,Nat.reduceLT,hn]⟩
  · have hd : decide ((i : Int) < (stem : Int)) = false := decide_eq_false (by omega)
    have hil : i = stem := by omega
    subst hil
    clear ih
    refine Rn.reg hc rfl ?_
    simp only [zAY,gd,zAX,rops,fx,zAP,zOi,zEl,s30,s31,hd]
    (repeat (first | refine Rn.seq hc ?_ | refine Rn.skip hc ?_ | refine Rn.block hc ?_ | refine Rn.inBlock hc ?_ | refine Rn.scope hc ?_ | refine Rn.inScope hc ?_))
    refine Rn.zAI hc rfl ?_
    simp only [zAY,zAU,Nat.reduceLT,Value.bool.injEq,zEl,hn]
    (repeat (first | refine Rn.seq hc ?_ | refine Rn.skip hc ?_ | refine Rn.block hc ?_ | refine Rn.inBlock hc ?_ | refine Rn.scope hc ?_ | refine Rn.inScope hc ?_))
    refine Rn.exit hc rfl ?_
    (repeat (first | refine Rn.seq hc ?_ | refine Rn.skip hc ?_ | refine Rn.block hc ?_ | refine Rn.inBlock hc ?_ | refine Rn.scope hc ?_ | refine Rn.inScope hc ?_))
    clear hd s30 s31
    obtain ⟨c,hcs,lG,hcv⟩ := St.arr
    have nCG := St.next
    have z8 : cl G p8 0 = some (.int .i64 (step : Int)) := (zBT (St.keep _ hV.l8.1 hV.l8.2)).trans h8
    have hcc : ∀ j,j < step → ∃ u : Int,c[j]? = some (.int .i64 u) := fun j hj => by
      obtain ⟨n,q1,q2,q3⟩ := cls_rep (M := i) hj
      exact ⟨_,by rw [← q3]; exact hcv n q1 q2⟩
    have hxT : Nx G.next G (G.push (.cells (Array.replicate step (.int .i64 0)) 3)) := (Nx.refl St.wf _).push (Nat.le_refl _) _
    have lT := zAQ G (.cells (Array.replicate step (.int .i64 0)) 3)
    have hnT : (G.push (.cells (Array.replicate step (.int .i64 0)) 3)).next = G.next + 1 := rfl
    generalize eT : G.push (.cells (Array.replicate step (.int .i64 0)) 3) = G1 at hxT lT hnT
    have hbSG : bS < G.next := by have := hV.lS; omega
    obtain ⟨bT,hbT⟩ : ∃ b,b = G.next := ⟨_,rfl⟩
    rw [← hbT] at lT
    have lG1 : Canon.look G1.objs bS = _ := (hxT.keep _ hbSG).trans lG
    have hlen : c.toList.length = step := by rw [Array.length_toList]; exact hcs
    obtain ⟨G2,cT,q2,u2,hcT,hcTv⟩ := cpd_row (t := 22) (u := 22) (ty := 3) el22 (b := bT) (o := 0) (dl := step) (dc := step) (a := some ⟨bS,0,none⟩) (sn := step) (sc := step) (l := c.toList) (by rw [hlen]; exact (Nat.min_self _).symm) (.inr ⟨bS,0,rfl,fun j hj => by
      rw [Nat.zero_add,zBM lG1 rfl]
      simp⟩) (fun h => by cases h) lT rfl (by rw [hlen]; simp) (by
      rw [List.all_eq_true]
      intro x hx
      obtain ⟨j,hj,rfl⟩ := List.getElem_of_mem hx
      obtain ⟨u,hu⟩ := hcc j (by omega)
      have : c.toList[j] = .int .i64 u := by
        have h1 : c.toList[j]? = some (.int .i64 u) := by rw [Array.getElem?_toList]; exact hu
        rw [List.getElem?_eq_getElem hj] at h1
        exact Option.some.inj h1
      rw [this]
      rfl)
    have hcTs : ∀ n,i ≤ n → n < i + step → cT[n % step]? = some (.int .i64 (scY (m : Int) a step n)) := fun n h1 h2 => by
      have hl := Nat.mod_lt n (show 0 < step by omega)
      rw [hcTv,if_pos ⟨Nat.zero_le _,by rw [hlen]; omega⟩,Nat.sub_zero,Array.getElem?_toList]
      exact hcv n h1 h2
    have hcTz : cT.size = step := by rw [hcT]; simp
    have lT2 : Canon.look G2.objs bT = some ⟨.cells cT 3,false,0⟩ := by
      obtain ⟨c',t,f,g,e,r1,r2,_⟩ := u2.at'
      rw [lT] at r1
      cases r1
      exact r2
    have hGT : Nx G.next G G2 := hxT.trans (u2.nx hxT.wf (by omega))
    have hn2 := u2.next
    have z13 : cl G1 p13 0 = some (.slice (some ⟨bS,0,none⟩) step step) := (hxT.cl (by have := hV.l13.1; omega) 0).trans ((zBT (St.keep _ hV.l13.1 hV.l13.2)).trans h13)
    rw [hbT] at q2
    refine Rn.reg hc rfl ?_
    simp only [zAY,zAU,zAT,sp_n,Nat.reduceLT,ne_eq,Nat.reduceEqDiff,zNf,gd,zAX,rops,fx,ld,zAR,zOi,zEl,tk3,hn,s8,z8,ae_mk2,mk2_nat (show step ≤ 1000000 by omega),eT]
    (repeat (first | refine Rn.seq hc ?_ | refine Rn.skip hc ?_ | refine Rn.block hc ?_ | refine Rn.inBlock hc ?_ | refine Rn.scope hc ?_ | refine Rn.inScope hc ?_))
    refine Rn.reg hc rfl ?_
    simp only [zAY,zAU,zAT,sp_n,Nat.reduceLT,ne_eq,Nat.reduceEqDiff,zNf,gd,zAX,rops,fx,ld,zAR,zOi,zEl,tk22,hn,s13,z13,ae_cpd,q2]
    (repeat (first | refine Rn.seq hc ?_ | refine Rn.skip hc ?_ | refine Rn.block hc ?_ | refine Rn.inBlock hc ?_ | refine Rn.scope hc ?_ | refine Rn.inScope hc ?_))
    rw [← hbT]
    have St2 := St.nx hGT
    have hTne : ∀ y : Addr,wa = some y → y.block ≠ bT := fun y hy => by have := (St.lt hy).2; omega
    have hTC : C.next ≤ bT := by omega
    have hTG : bT < G2.next := by omega
    have hTS : bT ≠ bS := by omega
    clear q2 u2 hcTv hcT lT eT hxT hnT lG1 z13 z8 lG hcv hcc hcs hlen St hbSG hGT nCG hn2 hbT
    refine Rn.reg hc rfl ?_
    simp only [zAY,zAS,zAT,ne_eq,Nat.reduceEqDiff,zNf,gd,zAX,rops,fx,zOi,zEl,s12]
    (repeat (first | refine Rn.seq hc ?_ | refine Rn.skip hc ?_ | refine Rn.block hc ?_ | refine Rn.inBlock hc ?_ | refine Rn.scope hc ?_ | refine Rn.inScope hc ?_))
    refine Rn.loopI hc (I := fun k s G => ∃ j wa,j ≤ B ∧ k = B - j ∧ SumSt C bS (m : Int) a step G (i + j) (i + j) wa ∧ bT < G.next ∧ Canon.look G.objs bT = some ⟨.cells cT 3,false,0⟩ ∧ (∀ y : Addr,wa = some y → y.block ≠ bT) ∧ s.n = 113 ∧ sget s 1 = .int .i64 (i : Int) ∧ sget s 5 = .pointer (some ⟨p5,0,none⟩) ∧ sget s 10 = .pointer (some ⟨pR,0,none⟩) ∧ sget s 12 = .int .i64 (B : Int) ∧ sget s 13 = .pointer (some ⟨p13,0,none⟩) ∧ sget s 14 = .func (.func 111) #[] #[.pointer (some ⟨p13,0,none⟩),.pointer (some ⟨p8,0,none⟩),.pointer (some ⟨p9,0,none⟩),.pointer (some ⟨p5,0,none⟩)] ∧ sget s 15 = .slice wa (i + j) (i + j) ∧ sget s 17 = .slice (some ⟨bT,0,none⟩) step step ∧ sget s 46 = .int .i64 (B : Int) ∧ sget s 47 = .int .i64 (j : Int))
      (n := B) ⟨0,wa,by omega,rfl,St2,hTG,lT2,hTne,by simp only [sp_n,hn],by simp only [zAT,ne_eq,Nat.reduceEqDiff,zNf,s1],by simp only [zAT,ne_eq,Nat.reduceEqDiff,zNf,s5],by simp only [zAT,ne_eq,Nat.reduceEqDiff,zNf,s10],by simp only [zAT,ne_eq,Nat.reduceEqDiff,zNf,s12],by simp only [zAT,ne_eq,Nat.reduceEqDiff,zNf,s13],by simp only [zAT,ne_eq,Nat.reduceEqDiff,zNf,s14],by simp only [zAT,ne_eq,Nat.reduceEqDiff,zNf,s15,Nat.add_zero],by simp only [zAU,zAT,sp_n,Nat.reduceLT,ne_eq,Nat.reduceEqDiff,zNf,hn],by simp only [zAU,zAT,sp_n,Nat.reduceLT,ne_eq,Nat.reduceEqDiff,zNf,hn],by simp only [zAU,sp_n,Nat.reduceLT,hn]; rfl⟩ ?_
    clear hn s1 s5 s8 s10 s12 s13 s14 s15 s St2 hTG lT2 hTne G2 wa G1 G
    rintro k s G ⟨j,wa,hj,rfl,St,hTG,lT,hTne,hn,s1,s5,s10,s12,s13,s14,s15,s17,s46,s47⟩ ih
    (repeat (first | refine Rn.seq hc ?_ | refine Rn.skip hc ?_ | refine Rn.block hc ?_ | refine Rn.inBlock hc ?_ | refine Rn.scope hc ?_ | refine Rn.inScope hc ?_))
    by_cases hlj : j < B
    · have hd : decide ((j : Int) < (B : Int)) = true := decide_eq_true (by omega)
      have hwa : IntKind.i64.wrap ((i : Int) + (j : Int)) = ((i + j : Nat) : Int) := by rw [IntWalk.i64_in _ (by omega)]; omega
      refine Rn.reg hc rfl ?_
      simp only [zAY,gd,zAX,rops,fx,zAP,zOi,zEl,s46,s47,hd]
      (repeat (first | refine Rn.seq hc ?_ | refine Rn.skip hc ?_ | refine Rn.block hc ?_ | refine Rn.inBlock hc ?_ | refine Rn.scope hc ?_ | refine Rn.inScope hc ?_))
      refine Rn.zAI hc rfl ?_
      simp only [zAY,zAU,Nat.reduceLT,Value.bool.injEq,zEl,hn]
      (repeat (first | refine Rn.seq hc ?_ | refine Rn.skip hc ?_ | refine Rn.block hc ?_ | refine Rn.inBlock hc ?_ | refine Rn.scope hc ?_ | refine Rn.inScope hc ?_))
      refine Rn.reg hc rfl ?_
      simp only [zAY,zAU,zAT,sp_n,Nat.reduceLT,ne_eq,Nat.reduceEqDiff,zNf,gd,zAX,rops,fx,zOi,zEl,hn,s47]
      (repeat (first | refine Rn.seq hc ?_ | refine Rn.skip hc ?_ | refine Rn.block hc ?_ | refine Rn.inBlock hc ?_ | refine Rn.scope hc ?_ | refine Rn.inScope hc ?_))
      refine Rn.region hc fun K hK => ?_
      refine Wo.run hc 5 rfl rfl rfl ?_
      simp (maxSteps := 2000000) only [List.drop_zero,List.take_succ_cons,List.take_zero,zAY,zAU,zAT,sp_n,Nat.reduceLT,ne_eq,Nat.reduceEqDiff,not_false_eq_true,gd,zAX,rops,fx,zAE,Nat.zero_add,Option.some.injEq,exists_eq_left',hn,s1,s14,s15,hwa]
      refine Wo.call hc (by rfl) (by rfl) ⟨by rfl,by rfl⟩ (xs := [.int .i64 ((i + j : Nat) : Int),.pointer (some ⟨p13,0,none⟩),.pointer (some ⟨p8,0,none⟩),.pointer (some ⟨p9,0,none⟩),.pointer (some ⟨p5,0,none⟩)]) (by rfl) (by first | rfl | (simp only [zAY,zAU,zAT,sp_n,Nat.reduceLT,ne_eq,Nat.reduceEqDiff,zNf,hn]; done) | (simp only [zAY,zAU,zAT,sp_n,Nat.reduceLT,ne_eq,Nat.reduceEqDiff,zNf,hn]; rfl)) (by simp only [zAY,zAU,sp_n,Nat.reduceLT,List.map_cons,List.map_nil,List.nil_append,List.cons_append,hn]) (Con.mono (sum_next hV (by omega) hmi hlim hvq St (fun C1 h => hat C1 ((hAG St).trans (h.le (hAG St).next)) (i + j) (by omega))) ?_)
      rintro w G1 ⟨rfl,S1,hk1,hk2⟩
      obtain ⟨G2,e2,hz2,hn2,z2,-⟩ := box1 S1.wf (.int .i64 (scn (m : Int) a step (i + j))) 3
      obtain ⟨G3,q3,n3,S3,kp3⟩ := sum_push (S1.nx hz2) hV.lS z2 (by omega)
      refine Wo.run hc 3 rfl rfl rfl ?_
      simp (maxSteps := 2000000) only [List.drop_zero,List.drop_succ_cons,List.take_succ_cons,List.take_zero,zAY,zAU,zAT,sp_n,Nat.reduceLT,ne_eq,Nat.reduceEqDiff,not_false_eq_true,gd,zAX,rops,fx,Option.some.injEq,exists_eq_left',Nat.reduceAdd,hn,bs22_1,zAA,e2,ae_apd,apd_slice,q3]
      refine Wo.done hc rfl (hK _ _ ?_)
      clear hK
      (repeat (first | refine Rn.seq hc ?_ | refine Rn.skip hc ?_ | refine Rn.block hc ?_ | refine Rn.inBlock hc ?_ | refine Rn.scope hc ?_ | refine Rn.inScope hc ?_))
      refine Rn.reg hc rfl ?_
      simp only [zAY,zAS,zAU,zAT,sp_n,Nat.reduceLT,ne_eq,Nat.reduceEqDiff,zNf,gd,zAX,rops,fx,zAE,zOi,zEl,hn,s47,zBY (show j < 9223372036854775807 by omega)]
      (repeat (first | refine Rn.seq hc ?_ | refine Rn.skip hc ?_ | refine Rn.block hc ?_ | refine Rn.inBlock hc ?_ | refine Rn.scope hc ?_ | refine Rn.inScope hc ?_))
      exact ih _ _ _ (by omega) ⟨j + 1,_,by omega,rfl,S3,by omega,by rw [kp3 _ (by omega) (fun y hy => hTne y hy),hz2.keep _ (by omega),hk2 _ hTG hTS]; exact lT,fun y hy => by
        cases hy
        show G2.next ≠ bT
        omega,by simp only [sp_n,hn],by simp only [zAT,ne_eq,Nat.reduceEqDiff,zNf,s1],by simp only [zAT,ne_eq,Nat.reduceEqDiff,zNf,s5],by simp only [zAT,ne_eq,Nat.reduceEqDiff,zNf,s10],by simp only [zAT,ne_eq,Nat.reduceEqDiff,zNf,s12],by simp only [zAT,ne_eq,Nat.reduceEqDiff,zNf,s13],by simp only [zAT,ne_eq,Nat.reduceEqDiff,zNf,s14],by simp only [zAU,zAT,sp_n,Nat.reduceLT,ne_eq,Nat.reduceEqDiff,zNf,hn,Nat.add_assoc],by simp only [zAT,ne_eq,Nat.reduceEqDiff,zNf,s17],by simp only [zAT,ne_eq,Nat.reduceEqDiff,zNf,s46],by simp only [zAU,sp_n,Nat.reduceLT,hn]⟩
    · have hd : decide ((j : Int) < (B : Int)) = false := decide_eq_false (by omega)
      have hjl : j = B := by omega
      subst hjl
      clear ih
      refine Rn.reg hc rfl ?_
      simp only [zAY,gd,zAX,rops,fx,zAP,zOi,zEl,s46,s47,hd]
      (repeat (first | refine Rn.seq hc ?_ | refine Rn.skip hc ?_ | refine Rn.block hc ?_ | refine Rn.inBlock hc ?_ | refine Rn.scope hc ?_ | refine Rn.inScope hc ?_))
      refine Rn.zAI hc rfl ?_
      simp only [zAY,zAU,Nat.reduceLT,Value.bool.injEq,zEl,hn]
      (repeat (first | refine Rn.seq hc ?_ | refine Rn.skip hc ?_ | refine Rn.block hc ?_ | refine Rn.inBlock hc ?_ | refine Rn.scope hc ?_ | refine Rn.inScope hc ?_))
      refine Rn.exit hc rfl ?_
      (repeat (first | refine Rn.seq hc ?_ | refine Rn.skip hc ?_ | refine Rn.block hc ?_ | refine Rn.inBlock hc ?_ | refine Rn.scope hc ?_ | refine Rn.inScope hc ?_))
      clear hd s46 s47
      obtain ⟨c,hcs,lG,hcv⟩ := St.arr
      have nCG := St.next
      have hbSG : bS < G.next := by have := hV.lS; omega
      have z13 : cl G p13 0 = some (.slice (some ⟨bS,0,none⟩) step step) := (zBT (St.keep _ hV.l13.1 hV.l13.2)).trans h13
      have z5 : cl G p5 0 = some (.int .i64 (m : Int)) := (zBT (St.keep _ hV.l5.1 hV.l5.2)).trans h5
      have np5 : p5 < G.next := by have := hV.l5.1; omega
      obtain ⟨P,hPd⟩ : ∃ P : Nat → Nat,P = fun i' => ordN m (dC m a step j i i') := ⟨_,rfl⟩
      have hPv : ∀ i',P i' = ordN m (dC m a step j i i') := fun i' => by rw [hPd]
      have hPp : ∀ i',i' < step → 0 < P i' := fun i' _ => by rw [hPv]; exact ordN_pos (by omega)
      refine Rn.reg hc rfl ?_
      simp only [zAS,gd,zAX,rops,fx,zOi,zEl]
      (repeat (first | refine Rn.seq hc ?_ | refine Rn.skip hc ?_ | refine Rn.block hc ?_ | refine Rn.inBlock hc ?_ | refine Rn.scope hc ?_ | refine Rn.inScope hc ?_))
      refine Rn.reg hc rfl ?_
      simp only [zAY,zAS,zAU,zAT,sp_n,Nat.reduceLT,ne_eq,Nat.reduceEqDiff,zNf,gd,zAX,rops,fx,ld,lng,zAR,zOi,zEl,tk22,un22,hn,s13,z13]
      (repeat (first | refine Rn.seq hc ?_ | refine Rn.skip hc ?_ | refine Rn.block hc ?_ | refine Rn.inBlock hc ?_ | refine Rn.scope hc ?_ | refine Rn.inScope hc ?_))
      refine Rn.loopI hc (I := fun k s H => ∃ x,x ≤ step ∧ k = step - x ∧ Nx G.next G H ∧ lcmF P x ≤ 120 ∧ s.n = 113 ∧ sget s 1 = .int .i64 (i : Int) ∧ sget s 5 = .pointer (some ⟨p5,0,none⟩) ∧ sget s 10 = .pointer (some ⟨pR,0,none⟩) ∧ sget s 12 = .int .i64 (j : Int) ∧ sget s 14 = .func (.func 111) #[] #[.pointer (some ⟨p13,0,none⟩),.pointer (some ⟨p8,0,none⟩),.pointer (some ⟨p9,0,none⟩),.pointer (some ⟨p5,0,none⟩)] ∧ sget s 15 = .slice wa (i + j) (i + j) ∧ sget s 17 = .slice (some ⟨bT,0,none⟩) step step ∧ sget s 19 = .int .i64 ((lcmF P x : Nat) : Int) ∧ sget s 59 = .slice (some ⟨bS,0,none⟩) step step ∧ sget s 60 = .int .i64 (step : Int) ∧ sget s 61 = .int .i64 (x : Int))
        (n := step) ⟨0,by omega,rfl,Nx.refl St.wf _,by show 1 ≤ 120; omega,by simp only [sp_n,hn],by simp only [zAT,ne_eq,Nat.reduceEqDiff,zNf,s1],by simp only [zAT,ne_eq,Nat.reduceEqDiff,zNf,s5],by simp only [zAT,ne_eq,Nat.reduceEqDiff,zNf,s10],by simp only [zAT,ne_eq,Nat.reduceEqDiff,zNf,s12],by simp only [zAT,ne_eq,Nat.reduceEqDiff,zNf,s14],by simp only [zAT,ne_eq,Nat.reduceEqDiff,zNf,s15],by simp only [zAT,ne_eq,Nat.reduceEqDiff,zNf,s17],by simp only [zAU,zAT,sp_n,Nat.reduceLT,ne_eq,Nat.reduceEqDiff,zNf,hn]; rfl,by simp only [zAU,zAT,sp_n,Nat.reduceLT,ne_eq,Nat.reduceEqDiff,zNf,hn],by simp only [zAU,zAT,sp_n,Nat.reduceLT,ne_eq,Nat.reduceEqDiff,zNf,hn],by simp only [zAU,sp_n,Nat.reduceLT,hn]; rfl⟩ ?_
      clear hn s1 s5 s10 s12 s13 s14 s15 s17 s
      rintro k s H ⟨x,hx',rfl,hH,h120,hn,s1,s5,s10,s12,s14,s15,s17,s19,s59,s60,s61⟩ ih
      have nH := hH.next
      (repeat (first | refine Rn.seq hc ?_ | refine Rn.skip hc ?_ | refine Rn.block hc ?_ | refine Rn.inBlock hc ?_ | refine Rn.scope hc ?_ | refine Rn.inScope hc ?_))
      by_cases hlx : x < step
      · have hd : decide ((x : Int) < (step : Int)) = true := decide_eq_true (by omega)
        obtain ⟨n,r1,r2,r3⟩ := cls_rep (M := i) hlx
        have hcb := hcv (n + j) (by omega) (by omega)
        have hct := hcTs n r1 r2
        have hmod : (n + j) % step = x := by
          obtain ⟨q,rfl⟩ := hdvS
          rw [Nat.add_mul_mod_self_left,r3]
        rw [hmod] at hcb
        rw [r3] at hct
        have zS : cl H bS x = some (.int .i64 (scY (m : Int) a step (n + j))) := (hH.cl hbSG x).trans (by rw [zBM lG rfl]; exact hcb)
        have zT : cl H bT x = some (.int .i64 (scY (m : Int) a step n)) := (hH.cl hTG x).trans (by rw [zBM lT rfl]; exact hct)
        have zM : cl H p5 0 = some (.int .i64 (m : Int)) := (hH.cl np5 0).trans z5
        have v1 := scY_lim (a := a) (step := step) hmi.1 (n + j)
        have v2 := scY_lim (a := a) (step := step) hmi.1 n
        have hws : IntKind.i64.wrap (scY (m : Int) a step (n + j) - scY (m : Int) a step n) = scY (m : Int) a step (n + j) - scY (m : Int) a step n := IntWalk.i64_in _ ⟨by omega,by omega⟩
        obtain ⟨d,hdd⟩ : ∃ d,d = dC m a step j i x := ⟨_,rfl⟩
        have hde : (d : Int) = nrm (scY (m : Int) a step (n + j) - scY (m : Int) a step n) (m : Int) := by
          have := dC_eq (a := a) (step := step) (B := j) (N := i) (show 0 < m by omega) (by omega) hP' r1
          rw [hdd,nrm_mod _ hmi.1,← r3,this]
          rfl
        have hdm : d < m := by
          have := (nrm_lim (scY (m : Int) a step (n + j) - scY (m : Int) a step n) hmi.1).2
          omega
        have hPx : P x = m / Nat.gcd m d := by rw [hPv,hdd]; rfl
        have hg0 : 0 < Nat.gcd m d := Nat.gcd_pos_of_pos_left _ (by omega)
        have hT0 : 0 < lcmF P x := lcmF_pos hPp hx'
        have hPle : P x ≤ m := by rw [hPx]; exact Nat.div_le_self _ _
        refine Rn.reg hc rfl ?_
        simp only [zAY,gd,zAX,rops,fx,zAP,zOi,zEl,s60,s61,hd]
        (repeat (first | refine Rn.seq hc ?_ | refine Rn.skip hc ?_ | refine Rn.block hc ?_ | refine Rn.inBlock hc ?_ | refine Rn.scope hc ?_ | refine Rn.inScope hc ?_))
        refine Rn.zAI hc rfl ?_
        simp only [zAY,zAU,Nat.reduceLT,Value.bool.injEq,zEl,hn]
        (repeat (first | refine Rn.seq hc ?_ | refine Rn.skip hc ?_ | refine Rn.block hc ?_ | refine Rn.inBlock hc ?_ | refine Rn.scope hc ?_ | refine Rn.inScope hc ?_))
        refine Rn.reg hc rfl ?_
        simp only [zAY,zAU,zAT,sp_n,Nat.reduceLT,ne_eq,Nat.reduceEqDiff,zNf,gd,zAX,rops,fx,ld,idx,zAR,Nat.zero_add,zOi,zEl,Nat.mul_one,tk3,eo22,hn,s59,s61,zAK hlx,zS]
        (repeat (first | refine Rn.seq hc ?_ | refine Rn.skip hc ?_ | refine Rn.block hc ?_ | refine Rn.inBlock hc ?_ | refine Rn.scope hc ?_ | refine Rn.inScope hc ?_))
        obtain ⟨F,hFb,hF⟩ : ∃ F : AHeap → Prop,(∀ M,F M → ∀ b,b < H.next → ∀ o,cl M b o = cl H b o) ∧ (∀ M,Nx H.next H M → F M) := ⟨fun M => Nx H.next H M,fun M h b hb o => h.cl hb o,fun _ h => h⟩
        have FT := fun M hM => (hFb M hM bT (by omega) x).trans zT
        have FM := fun M hM => (hFb M hM p5 (by omega) 0).trans zM
        have hbk : Nx H.next H (bump H 16) := Nx.bump (Nx.refl hH.wf _) 16
        have FB := hF _ hbk
        refine Rn.drawnF hc hx (smS d (Nat.gcd m d) (lcmF P (x + 1))) F (n := 4) (k := 16) (by kernel_rfl) (by kernel_rfl) (by rfl) ?_
        refine Dr.read (by first | rfl | kernel_rfl) (by rfl) (by assumption) (fun M hM => by simp only [zAY,zAT,ne_eq,Nat.reduceEqDiff,zNf,fx,s19] <;> rfl) (by rfl) (by first | exact VQ.int _ _ | exact VQ.bool _ | exact VQ.ptr _ _ | exact VQ.slice _ _ _ | exact VQ.func (by simp [zAW,zAV,zAZ]) (by simp [zAW,zAV,zAZ]) | exact VQ.agg (by simp [zAW,zAV,zAZ]) | exact VQ.tuple (by simp [zAW,zAV,zAZ])) ?_
        refine Dr.read (by first | rfl | kernel_rfl) (by rfl) (by assumption) (fun M hM => by simp only [zAY,zAT,ne_eq,Nat.reduceEqDiff,zNf,fx,ld,zAR,tk3,s5,FM M hM] <;> rfl) (by rfl) (by first | exact VQ.int _ _ | exact VQ.bool _ | exact VQ.ptr _ _ | exact VQ.slice _ _ _ | exact VQ.func (by simp [zAW,zAV,zAZ]) (by simp [zAW,zAV,zAZ]) | exact VQ.agg (by simp [zAW,zAV,zAZ]) | exact VQ.tuple (by simp [zAW,zAV,zAZ])) ?_
        refine Dr.read (by first | rfl | kernel_rfl) (by rfl) (by assumption) (fun M hM => by simp only [zAY,zAT,ne_eq,Nat.reduceEqDiff,zNf,fx,ld,zAR,tk3,s5,FM M hM] <;> rfl) (by rfl) (by first | exact VQ.int _ _ | exact VQ.bool _ | exact VQ.ptr _ _ | exact VQ.slice _ _ _ | exact VQ.func (by simp [zAW,zAV,zAZ]) (by simp [zAW,zAV,zAZ]) | exact VQ.agg (by simp [zAW,zAV,zAZ]) | exact VQ.tuple (by simp [zAW,zAV,zAZ])) ?_
        refine Dr.read (by first | rfl | kernel_rfl) (by rfl) (by assumption) (fun M hM => by simp only [zAY,zAU,zAT,sp_n,Nat.reduceLT,ne_eq,Nat.reduceEqDiff,zNf,fx,hn] <;> rfl) (by rfl) (by first | exact VQ.int _ _ | exact VQ.bool _ | exact VQ.ptr _ _ | exact VQ.slice _ _ _ | exact VQ.func (by simp [zAW,zAV,zAZ]) (by simp [zAW,zAV,zAZ]) | exact VQ.agg (by simp [zAW,zAV,zAZ]) | exact VQ.tuple (by simp [zAW,zAV,zAZ])) ?_
        refine Dr.read (by first | rfl | kernel_rfl) (by rfl) (by assumption) (fun M hM => by simp only [zAY,zAT,ne_eq,Nat.reduceEqDiff,zNf,fx,s17] <;> rfl) (by rfl) (by first | exact VQ.int _ _ | exact VQ.bool _ | exact VQ.ptr _ _ | exact VQ.slice _ _ _ | exact VQ.func (by simp [zAW,zAV,zAZ]) (by simp [zAW,zAV,zAZ]) | exact VQ.agg (by simp [zAW,zAV,zAZ]) | exact VQ.tuple (by simp [zAW,zAV,zAZ])) ?_
        refine Dr.read (by first | rfl | kernel_rfl) (by rfl) (by assumption) (fun M hM => by simp only [zAY,zAU,zAT,sp_n,Nat.reduceLT,ne_eq,Nat.reduceEqDiff,zNf,fx,hn] <;> rfl) (by rfl) (by first | exact VQ.int _ _ | exact VQ.bool _ | exact VQ.ptr _ _ | exact VQ.slice _ _ _ | exact VQ.func (by simp [zAW,zAV,zAZ]) (by simp [zAW,zAV,zAZ]) | exact VQ.agg (by simp [zAW,zAV,zAZ]) | exact VQ.tuple (by simp [zAW,zAV,zAZ])) ?_
        refine Dr.read (by first | rfl | kernel_rfl) (by rfl) (by assumption) (fun M hM => by simp only [zAY,zAU,zAT,sp_n,Nat.reduceLT,ne_eq,Nat.reduceEqDiff,zNf,fx,idx,Nat.zero_add,Nat.mul_one,eo22,hn,zAK hlx] <;> rfl) (by rfl) (by first | exact VQ.int _ _ | exact VQ.bool _ | exact VQ.ptr _ _ | exact VQ.slice _ _ _ | exact VQ.func (by simp [zAW,zAV,zAZ]) (by simp [zAW,zAV,zAZ]) | exact VQ.agg (by simp [zAW,zAV,zAZ]) | exact VQ.tuple (by simp [zAW,zAV,zAZ])) ?_
        refine Dr.read (by first | rfl | kernel_rfl) (by rfl) (by assumption) (fun M hM => by simp only [zAY,zAU,sp_n,Nat.reduceLT,fx,ld,zAR,tk3,hn,FT M hM] <;> rfl) (by rfl) (by first | exact VQ.int _ _ | exact VQ.bool _ | exact VQ.ptr _ _ | exact VQ.slice _ _ _ | exact VQ.func (by simp [zAW,zAV,zAZ]) (by simp [zAW,zAV,zAZ]) | exact VQ.agg (by simp [zAW,zAV,zAZ]) | exact VQ.tuple (by simp [zAW,zAV,zAZ])) ?_
        refine Dr.read (by first | rfl | kernel_rfl) (by rfl) (by assumption) (fun M hM => by simp only [zAY,zAU,zAT,sp_n,Nat.reduceLT,ne_eq,Nat.reduceEqDiff,zNf,fx,zBA,hn,hws] <;> rfl) (by rfl) (by first | exact VQ.int _ _ | exact VQ.bool _ | exact VQ.ptr _ _ | exact VQ.slice _ _ _ | exact VQ.func (by simp [zAW,zAV,zAZ]) (by simp [zAW,zAV,zAZ]) | exact VQ.agg (by simp [zAW,zAV,zAZ]) | exact VQ.tuple (by simp [zAW,zAV,zAZ])) ?_
        refine Dr.read (by first | rfl | kernel_rfl) (by rfl) (by assumption) (fun M hM => by simp only [zAY,zAT,ne_eq,Nat.reduceEqDiff,zNf,fx,ld,zAR,tk3,s5,FM M hM] <;> rfl) (by rfl) (by first | exact VQ.int _ _ | exact VQ.bool _ | exact VQ.ptr _ _ | exact VQ.slice _ _ _ | exact VQ.func (by simp [zAW,zAV,zAZ]) (by simp [zAW,zAV,zAZ]) | exact VQ.agg (by simp [zAW,zAV,zAZ]) | exact VQ.tuple (by simp [zAW,zAV,zAZ])) ?_
        refine Dr.call (by kernel_rfl) (by rfl) (by assumption) (by rfl) (zAC (by rfl) ⟨by rfl,by rfl⟩ (by rfl) (xs := [.int .i64 (scY (m : Int) a step (n + j) - scY (m : Int) a step n),.int .i64 (m : Int)]) (by simp only [zAY,zAU,zAT,sp_n,Nat.reduceLT,ne_eq,Nat.reduceEqDiff,zNf,List.map_cons,List.map_nil,List.nil_append,List.append_nil,hn]) (Con.mono (norm_run hbk.wf hmi) fun v A1 h => (⟨by rw [h.1,hde],h.2⟩ : v = .int .i64 (d : Int) ∧ Nx (bump H 16).next (bump H 16) A1))) ?_
        rintro v M1 ⟨rfl,k1⟩
        have hM1 : Nx H.next H M1 := hbk.trans (k1.le hbk.next)
        have FM1 := hF _ hM1
        refine Dr.call (by kernel_rfl) (by rfl) (by assumption) (by rfl) (zAC (by rfl) ⟨by rfl,by rfl⟩ (by rfl) (xs := [.int .i64 (m : Int),.int .i64 (d : Int)]) (by simp only [zAY,zAU,zAT,sp_n,Nat.reduceLT,ne_eq,Nat.reduceEqDiff,zNf,List.map_cons,List.map_nil,List.nil_append,List.append_nil,hn]) (Con.mono (gcd_run hM1.wf (a := m) (b := d) (by omega) (by omega)) fun v A1 h => (h : v = .int .i64 ((Nat.gcd m d : Nat) : Int) ∧ Nx M1.next M1 A1))) ?_
        rintro v M2 ⟨rfl,k2⟩
        have hM2 : Nx H.next H M2 := hM1.trans (k2.le hM1.next)
        have FM2 := hF _ hM2
        have hnM2 := hM1.next
        have hk1n := k1.next
        rw [zAH] at hk1n
        have hk2n := k2.next
        have hq : ∀ M,bin Try.prog .quo 3 (.int .i64 (m : Int)) (.int .i64 ((Nat.gcd m d : Nat) : Int)) M = some (.int .i64 (P x : Int),M) := fun M => by rw [quo_nat hg0 (by omega),hPx]
        refine Dr.read (by first | rfl | kernel_rfl) (by rfl) (by assumption) (fun M hM => by simp only [zAY,zAU,zAT,sp_n,Nat.reduceLT,ne_eq,Nat.reduceEqDiff,zNf,fx,hn,hq] <;> rfl) (by rfl) (by first | exact VQ.int _ _ | exact VQ.bool _ | exact VQ.ptr _ _ | exact VQ.slice _ _ _ | exact VQ.func (by simp [zAW,zAV,zAZ]) (by simp [zAW,zAV,zAZ]) | exact VQ.agg (by simp [zAW,zAV,zAZ]) | exact VQ.tuple (by simp [zAW,zAV,zAZ])) ?_
        refine Dr.float (by rfl) (by rfl) (by rfl) (fb22_2 (v := .int .i64 ((lcmF P x : Nat) : Int)) (w := .int .i64 (P x : Int)) (by simp only [zAY,zAU,zAT,sp_n,Nat.reduceLT,ne_eq,Nat.reduceEqDiff,zNf,hn]) rfl (by simp only [zAY,zAU,sp_n,Nat.reduceLT,hn]) rfl) ?_
        have hnb : Canon.look M2.objs (H.next + 13) = none := by
          rw [k2.keep _ (by omega),k1.keep _ (by rw [zAH]; omega)]
          exact hH.wf.none (by omega)
        obtain ⟨M3,p3,hxM3,eM3,lM3,kM3⟩ := place_row (N := H.next) hM2 (b := H.next + 13) (by omega) (by omega) hnb [.int .i64 ((lcmF P x : Nat) : Int),.int .i64 (P x : Int)] 3 2 2
        refine Dr.callF (by kernel_rfl) (by rfl) (pd1 := [(13,⟨[.int .i64 ((lcmF P x : Nat) : Int),.int .i64 (P x : Int)],3,.sl 2 2⟩)]) (pd2 := []) (by kernel_rfl) (by kernel_rfl) (ms0 := [M2]) (A0 := M3) (by simp only [zBO,p3]) (fun M hM => by rw [List.mem_singleton] at hM; rw [hM]; exact FM2) (hF _ hxM3) (by rfl)
          (zAC (by rfl) ⟨by rfl,by rfl⟩ (by rfl) (xs := [.slice (some ⟨H.next + 13,0,none⟩) 2 2]) (by simp only [zAY,zAU,sp_n,Nat.reduceLT,List.map_cons,List.map_nil,List.nil_append,List.append_nil,hn,FK.val]) (Con.mono (lcm_two hxM3.wf (x := lcmF P x) (y := P x) (by rw [zBM lM3 rfl]; rfl) (by rw [zBM lM3 rfl]; rfl) (by omega) ⟨hT0,by omega⟩ ⟨hPp x hlx,by omega⟩) fun v A1 h => (h : v = .int .i64 ((lcmF P (x + 1) : Nat) : Int) ∧ Nx M3.next M3 A1))) ?_
        rintro v M4 ⟨rfl,k4⟩
        have hM4 : Nx H.next H M4 := hxM3.trans (k4.le hxM3.next)
        have FM4 := hF _ hM4
        refine Dr.read (by first | rfl | kernel_rfl) (by rfl) (by assumption) (fun M hM => by simp only [zAY,zAU,sp_n,Nat.reduceLT,fx,Nat.zero_add,Nat.reduceAdd,hn] <;> rfl) (by rfl) (by first | exact VQ.int _ _ | exact VQ.bool _ | exact VQ.ptr _ _ | exact VQ.slice _ _ _ | exact VQ.func (by simp [zAW,zAV,zAZ]) (by simp [zAW,zAV,zAZ]) | exact VQ.agg (by simp [zAW,zAV,zAZ]) | exact VQ.tuple (by simp [zAW,zAV,zAZ])) ?_
        refine Dr.nil (by rfl) (fun M hM => by cases hM) FM4 ⟨M4,by rfl,?_⟩
        (repeat (first | refine Rn.seq hc ?_ | refine Rn.skip hc ?_ | refine Rn.block hc ?_ | refine Rn.inBlock hc ?_ | refine Rn.scope hc ?_ | refine Rn.inScope hc ?_))
        have hG4 : Nx G.next G M4 := hH.trans (hM4.le nH)
        by_cases hlong : 120 < lcmF P (x + 1)
        · have hd2 : decide (120 < ((lcmF P (x + 1) : Nat) : Int)) = true := decide_eq_true (by omega)
          have hA4 : Nx A.next A M4 := (hAG St).trans (hG4.le (hAG St).next)
          obtain ⟨D,q1,g0,g1,g2,hxD⟩ := err_fin hA4 hpRA (by have := hG4.next; omega) ((hG4.keep _ (by omega)).trans ((St.keep _ hpRC hpRS).trans lR))
          refine Rn.reg hc rfl ?_
          simp only [zAY,zAS,zAU,sp_n,Nat.reduceLT,gd,zAX,rops,fx,zCZ,Nat.zero_add,zOi,zEl,Nat.reduceAdd,hn,hd2]
          (repeat (first | refine Rn.seq hc ?_ | refine Rn.skip hc ?_ | refine Rn.block hc ?_ | refine Rn.inBlock hc ?_ | refine Rn.scope hc ?_ | refine Rn.inScope hc ?_))
          refine Rn.zAI hc rfl ?_
          simp only [zAY,zAU,sp_n,Nat.reduceLT,Value.bool.injEq,zEl,hn]
          (repeat (first | refine Rn.seq hc ?_ | refine Rn.skip hc ?_ | refine Rn.block hc ?_ | refine Rn.inBlock hc ?_ | refine Rn.scope hc ?_ | refine Rn.inScope hc ?_))
          refine Rn.reg hc rfl ?_
          simp only [zAY,zAS,zAU,zAT,sp_n,zAN,Nat.reduceLT,ne_eq,Nat.reduceEqDiff,zNf,gd,zAX,rops,fx,str,zAR,Nat.zero_add,zOi,zEl,Nat.reduceAdd,tk24,hn,s10,bd24_z,q1,List.size_toArray,List.length_cons,List.length_nil,Nat.beq_refl]
          (repeat (first | refine Rn.seq hc ?_ | refine Rn.skip hc ?_ | refine Rn.block hc ?_ | refine Rn.inBlock hc ?_ | refine Rn.scope hc ?_ | refine Rn.inScope hc ?_))
          refine Rn.ret (zCT rfl (v := .agg #[.int .i64 0,.slice none 0 0,.slice none 0 0]) ?_ ?_)
          · simp only [zAT,ne_eq,Nat.reduceEqDiff,zNf,ld,zAR,cls,Nat.zero_add,Nat.reduceAdd,tk24,s10,g0,g1,g2]
          · simp only [zAU,sp_n,Nat.reduceLT,hn]
            refine tld_tp (tp_long (scn_per_m (show 0 < m by omega) (by omega) f1 hdvS hP') fun b p hr => long_run (show 0 < m by omega) (by omega) f1 hdvS hP' (i := x + 1) (by omega) ?_ hr) hxD
            rw [hPd] at hlong
            exact hlong
        · have hd2 : decide (120 < ((lcmF P (x + 1) : Nat) : Int)) = false := decide_eq_false (by omega)
          refine Rn.reg hc rfl ?_
          simp only [zAY,zAS,zAU,sp_n,Nat.reduceLT,gd,zAX,rops,fx,zCZ,Nat.zero_add,zOi,zEl,Nat.reduceAdd,hn,hd2]
          (repeat (first | refine Rn.seq hc ?_ | refine Rn.skip hc ?_ | refine Rn.block hc ?_ | refine Rn.inBlock hc ?_ | refine Rn.scope hc ?_ | refine Rn.inScope hc ?_))
          refine Rn.zAI hc rfl ?_
          simp only [zAY,zAU,sp_n,Nat.reduceLT,Value.bool.injEq,zEl,hn]
          (repeat (first | refine Rn.seq hc ?_ | refine Rn.skip hc ?_ | refine Rn.block hc ?_ | refine Rn.inBlock hc ?_ | refine Rn.scope hc ?_ | refine Rn.inScope hc ?_))
          refine Rn.reg hc rfl ?_
          simp only [zAY,zAS,zAU,zAT,sp_n,Nat.reduceLT,ne_eq,Nat.reduceEqDiff,zNf,gd,zAX,rops,fx,zAE,zOi,zEl,hn,s61,zBY (show x < 9223372036854775807 by omega)]
          (repeat (first | refine Rn.seq hc ?_ | refine Rn.skip hc ?_ | refine Rn.block hc ?_ | refine Rn.inBlock hc ?_ | refine Rn.scope hc ?_ | refine Rn.inScope hc ?_))
          exact ih _ _ _ (by omega) ⟨x + 1,by omega,rfl,hG4,by omega,by simp only [sp_n,hn],by simp only [zAT,ne_eq,Nat.reduceEqDiff,zNf,s1],by simp only [zAT,ne_eq,Nat.reduceEqDiff,zNf,s5],by simp only [zAT,ne_eq,Nat.reduceEqDiff,zNf,s10],by simp only [zAT,ne_eq,Nat.reduceEqDiff,zNf,s12],by simp only [zAT,ne_eq,Nat.reduceEqDiff,zNf,s14],by simp only [zAT,ne_eq,Nat.reduceEqDiff,zNf,s15],by simp only [zAT,ne_eq,Nat.reduceEqDiff,zNf,s17],by simp only [zAU,zAT,sp_n,Nat.reduceLT,ne_eq,Nat.reduceEqDiff,zNf,hn],by simp only [zAT,ne_eq,Nat.reduceEqDiff,zNf,s59],by simp only [zAT,ne_eq,Nat.reduceEqDiff,zNf,s60],by simp only [zAU,sp_n,Nat.reduceLT,hn]⟩
      · have hd : decide ((x : Int) < (step : Int)) = false := decide_eq_false (by omega)
        have hxs : x = step := by omega
        subst hxs
        clear ih
        refine Rn.reg hc rfl ?_
        simp only [zAY,gd,zAX,rops,fx,zAP,zOi,zEl,s60,s61,hd]
        (repeat (first | refine Rn.seq hc ?_ | refine Rn.skip hc ?_ | refine Rn.block hc ?_ | refine Rn.inBlock hc ?_ | refine Rn.scope hc ?_ | refine Rn.inScope hc ?_))
        refine Rn.zAI hc rfl ?_
        simp only [zAY,zAU,Nat.reduceLT,Value.bool.injEq,zEl,hn]
        (repeat (first | refine Rn.seq hc ?_ | refine Rn.skip hc ?_ | refine Rn.block hc ?_ | refine Rn.inBlock hc ?_ | refine Rn.scope hc ?_ | refine Rn.inScope hc ?_))
        refine Rn.exit hc rfl ?_
        (repeat (first | refine Rn.seq hc ?_ | refine Rn.skip hc ?_ | refine Rn.block hc ?_ | refine Rn.inBlock hc ?_ | refine Rn.scope hc ?_ | refine Rn.inScope hc ?_))
        have hT0 : 0 < lcmF P x := lcmF_pos hPp (Nat.le_refl _)
        have hTd : ∀ i',i' < x → ordN m (dC m a x j i i') ∣ lcmF P x := fun i' hi' => by rw [← hPv]; exact lcmF_dvd hi'
        have St4 := St.nx hH
        generalize lcmF P x = T at hT0 hTd h120 s19
        have hPerY := scn_per (show 0 < m by omega) (show 0 < x by omega) f1 hdvS hP' hT0 hTd
        have hTB : j * (T - 1) ≤ 14400 * 120 := Nat.mul_le_mul (by omega) (by omega)
        have hsum : j + j * (T - 1) = T * j := by
          obtain ⟨t',rfl⟩ : ∃ t',T = t' + 1 := ⟨T - 1,by omega⟩
          rw [Nat.add_sub_cancel,Nat.succ_mul,Nat.mul_comm]
          omega
        have hw1 : IntKind.i64.wrap ((T : Int) - 1) = ((T - 1 : Nat) : Int) := by rw [IntWalk.i64_in _ (by omega)]; omega
        have hw2 : IntKind.i64.wrap ((j : Int) * ((T - 1 : Nat) : Int)) = ((j * (T - 1) : Nat) : Int) := by rw [← Int.natCast_mul,IntWalk.i64_in _ (by omega)]
        clear hd s59 s60 s61 s17 hPv hPp hPd P hTd
        refine Rn.reg hc rfl ?_
        simp only [zAY,zAS,zAU,zAT,sp_n,Nat.reduceLT,ne_eq,Nat.reduceEqDiff,zNf,gd,zAX,rops,fx,zBA,bin_mul,zOi,zEl,hn,s12,s19,hw1,hw2]
        (repeat (first | refine Rn.seq hc ?_ | refine Rn.skip hc ?_ | refine Rn.block hc ?_ | refine Rn.inBlock hc ?_ | refine Rn.scope hc ?_ | refine Rn.inScope hc ?_))
        generalize j * (T - 1) = Q at hTB hsum ⊢
        refine Rn.loopI hc (I := fun k s G => ∃ y wa,y ≤ Q ∧ k = Q - y ∧ SumSt C bS (m : Int) a x G (i + j + y) (i + j + y) wa ∧ s.n = 113 ∧ sget s 1 = .int .i64 (i : Int) ∧ sget s 5 = .pointer (some ⟨p5,0,none⟩) ∧ sget s 10 = .pointer (some ⟨pR,0,none⟩) ∧ sget s 12 = .int .i64 (j : Int) ∧ sget s 14 = .func (.func 111) #[] #[.pointer (some ⟨p13,0,none⟩),.pointer (some ⟨p8,0,none⟩),.pointer (some ⟨p9,0,none⟩),.pointer (some ⟨p5,0,none⟩)] ∧ sget s 15 = .slice wa (i + j + y) (i + j + y) ∧ sget s 88 = .int .i64 (Q : Int) ∧ sget s 89 = .int .i64 (y : Int))
          (n := Q) ⟨0,wa,by omega,rfl,St4,by simp only [sp_n,hn],by simp only [zAT,ne_eq,Nat.reduceEqDiff,zNf,s1],by simp only [zAT,ne_eq,Nat.reduceEqDiff,zNf,s5],by simp only [zAT,ne_eq,Nat.reduceEqDiff,zNf,s10],by simp only [zAT,ne_eq,Nat.reduceEqDiff,zNf,s12],by simp only [zAT,ne_eq,Nat.reduceEqDiff,zNf,s14],by simp only [zAT,ne_eq,Nat.reduceEqDiff,zNf,s15,Nat.add_zero],by simp only [zAU,zAT,sp_n,Nat.reduceLT,ne_eq,Nat.reduceEqDiff,zNf,hn],by simp only [zAU,sp_n,Nat.reduceLT,hn]; rfl⟩ ?_
        clear hn s1 s5 s10 s12 s14 s15 s19 s St4 St hH nH z13 z5 np5 hbSG nCG lG hcv hcs hTne lT hTG hw1 hw2
        clear wa H G
        rintro k s G ⟨y,wa,hy,rfl,St,hn,s1,s5,s10,s12,s14,s15,s88,s89⟩ ih
        (repeat (first | refine Rn.seq hc ?_ | refine Rn.skip hc ?_ | refine Rn.block hc ?_ | refine Rn.inBlock hc ?_ | refine Rn.scope hc ?_ | refine Rn.inScope hc ?_))
        by_cases hly : y < Q
        · have hd : decide ((y : Int) < (Q : Int)) = true := decide_eq_true (by omega)
          have hwa : IntKind.i64.wrap ((i : Int) + (j : Int)) = ((i + j : Nat) : Int) := by rw [IntWalk.i64_in _ (by omega)]; omega
          have hwb : IntKind.i64.wrap (((i + j : Nat) : Int) + (y : Int)) = ((i + j + y : Nat) : Int) := by rw [IntWalk.i64_in _ (by omega)]; omega
          refine Rn.reg hc rfl ?_
          simp only [zAY,gd,zAX,rops,fx,zAP,zOi,zEl,s88,s89,hd]
          (repeat (first | refine Rn.seq hc ?_ | refine Rn.skip hc ?_ | refine Rn.block hc ?_ | refine Rn.inBlock hc ?_ | refine Rn.scope hc ?_ | refine Rn.inScope hc ?_))
          refine Rn.zAI hc rfl ?_
          simp only [zAY,zAU,Nat.reduceLT,Value.bool.injEq,zEl,hn]
          (repeat (first | refine Rn.seq hc ?_ | refine Rn.skip hc ?_ | refine Rn.block hc ?_ | refine Rn.inBlock hc ?_ | refine Rn.scope hc ?_ | refine Rn.inScope hc ?_))
          refine Rn.reg hc rfl ?_
          simp only [zAY,zAU,zAT,sp_n,Nat.reduceLT,ne_eq,Nat.reduceEqDiff,zNf,gd,zAX,rops,fx,zOi,zEl,hn,s89]
          (repeat (first | refine Rn.seq hc ?_ | refine Rn.skip hc ?_ | refine Rn.block hc ?_ | refine Rn.inBlock hc ?_ | refine Rn.scope hc ?_ | refine Rn.inScope hc ?_))
          refine Rn.region hc fun K hK => ?_
          refine Wo.run hc 7 rfl rfl rfl ?_
          simp (maxSteps := 2000000) only [List.drop_zero,List.take_succ_cons,List.take_zero,zAY,zAU,zAT,sp_n,Nat.reduceLT,ne_eq,Nat.reduceEqDiff,not_false_eq_true,gd,zAX,rops,fx,zAE,Nat.zero_add,Option.some.injEq,exists_eq_left',hn,s1,s12,s14,s15,hwa,hwb]
          refine Wo.call hc (by rfl) (by rfl) ⟨by rfl,by rfl⟩ (xs := [.int .i64 ((i + j + y : Nat) : Int),.pointer (some ⟨p13,0,none⟩),.pointer (some ⟨p8,0,none⟩),.pointer (some ⟨p9,0,none⟩),.pointer (some ⟨p5,0,none⟩)]) (by rfl) (by first | rfl | (simp only [zAY,zAU,zAT,sp_n,Nat.reduceLT,ne_eq,Nat.reduceEqDiff,zNf,hn]; done) | (simp only [zAY,zAU,zAT,sp_n,Nat.reduceLT,ne_eq,Nat.reduceEqDiff,zNf,hn]; rfl)) (by simp only [zAY,zAU,sp_n,Nat.reduceLT,List.map_cons,List.map_nil,List.nil_append,List.cons_append,hn]) (Con.mono (sum_next hV (by omega) hmi hlim hvq St (fun C1 h => hat C1 ((hAG St).trans (h.le (hAG St).next)) (i + j + y) (by omega))) ?_)
          rintro w G1 ⟨rfl,S1,hk1,hk2⟩
          obtain ⟨G2,e2,hz2,hn2,z2,-⟩ := box1 S1.wf (.int .i64 (scn (m : Int) a x (i + j + y))) 3
          obtain ⟨G3,q3,n3,S3,kp3⟩ := sum_push (S1.nx hz2) hV.lS z2 (by omega)
          refine Wo.run hc 3 rfl rfl rfl ?_
          simp (maxSteps := 2000000) only [List.drop_zero,List.drop_succ_cons,List.take_succ_cons,List.take_zero,zAY,zAU,zAT,sp_n,Nat.reduceLT,ne_eq,Nat.reduceEqDiff,not_false_eq_true,gd,zAX,rops,fx,Option.some.injEq,exists_eq_left',Nat.reduceAdd,hn,bs22_1,zAA,e2,ae_apd,apd_slice,q3]
          refine Wo.done hc rfl (hK _ _ ?_)
          clear hK
          (repeat (first | refine Rn.seq hc ?_ | refine Rn.skip hc ?_ | refine Rn.block hc ?_ | refine Rn.inBlock hc ?_ | refine Rn.scope hc ?_ | refine Rn.inScope hc ?_))
          refine Rn.reg hc rfl ?_
          simp only [zAY,zAS,zAU,zAT,sp_n,Nat.reduceLT,ne_eq,Nat.reduceEqDiff,zNf,gd,zAX,rops,fx,zAE,zOi,zEl,hn,s89,zBY (show y < 9223372036854775807 by omega)]
          (repeat (first | refine Rn.seq hc ?_ | refine Rn.skip hc ?_ | refine Rn.block hc ?_ | refine Rn.inBlock hc ?_ | refine Rn.scope hc ?_ | refine Rn.inScope hc ?_))
          exact ih _ _ _ (by omega) ⟨y + 1,_,by omega,rfl,S3,by simp only [sp_n,hn],by simp only [zAT,ne_eq,Nat.reduceEqDiff,zNf,s1],by simp only [zAT,ne_eq,Nat.reduceEqDiff,zNf,s5],by simp only [zAT,ne_eq,Nat.reduceEqDiff,zNf,s10],by simp only [zAT,ne_eq,Nat.reduceEqDiff,zNf,s12],by simp only [zAT,ne_eq,Nat.reduceEqDiff,zNf,s14],by simp only [zAU,zAT,sp_n,Nat.reduceLT,ne_eq,Nat.reduceEqDiff,zNf,hn,Nat.add_assoc],by simp only [zAT,ne_eq,Nat.reduceEqDiff,zNf,s88],by simp only [zAU,sp_n,Nat.reduceLT,hn]⟩
        · have hd : decide ((y : Int) < (Q : Int)) = false := decide_eq_false (by omega)
          have hyq : y = Q := by omega
          subst hyq
          clear ih
          refine Rn.reg hc rfl ?_
          simp only [zAY,gd,zAX,rops,fx,zAP,zOi,zEl,s88,s89,hd]
          (repeat (first | refine Rn.seq hc ?_ | refine Rn.skip hc ?_ | refine Rn.block hc ?_ | refine Rn.inBlock hc ?_ | refine Rn.scope hc ?_ | refine Rn.inScope hc ?_))
          refine Rn.zAI hc rfl ?_
          simp only [zAY,zAU,Nat.reduceLT,Value.bool.injEq,zEl,hn]
          (repeat (first | refine Rn.seq hc ?_ | refine Rn.skip hc ?_ | refine Rn.block hc ?_ | refine Rn.inBlock hc ?_ | refine Rn.scope hc ?_ | refine Rn.inScope hc ?_))
          refine Rn.exit hc rfl ?_
          (repeat (first | refine Rn.seq hc ?_ | refine Rn.skip hc ?_ | refine Rn.block hc ?_ | refine Rn.inBlock hc ?_ | refine Rn.scope hc ?_ | refine Rn.inScope hc ?_))
          rw [Nat.add_assoc,hsum] at St s15
          have hAGG := hAG St
          have z5 : cl G p5 0 = some (.int .i64 (m : Int)) := (zBT (St.keep _ hV.l5.1 hV.l5.2)).trans h5
          have nCG := St.next
          have hTj : 0 < T * j := Nat.mul_pos hT0 f1
          have hTj2 : T * j ≤ 120 * 14400 := Nat.mul_le_mul h120 hB2
          obtain ⟨Y,hY⟩ : ∃ Y,Y = scn (m : Int) a x := ⟨_,rfl⟩
          have hgr := St.gr
          rw [← hY] at hPerY hgr ⊢
          obtain ⟨bw,ow,rfl,hw1,hw2,-⟩ := hgr.ints 0 (by rw [zBV]; omega)
          have hcell : ∀ q,q < i + T * j → cl G bw (ow + q) = some (.int .i64 (Y q)) := fun q hq => by
            obtain ⟨bb,oo,ee,-,-,h6⟩ := hgr.ints q (by rw [zBV]; exact hq)
            cases ee
            rw [h6,redS_get hq]
          obtain ⟨F,hF5,hF1,hF2,hF⟩ : ∃ F : AHeap → Prop,(∀ M,F M → cl M p5 0 = some (.int .i64 (m : Int))) ∧ (∀ M,F M → asl Try.prog 22 (.slice (some ⟨bw,ow,none⟩) (i + T * j) (i + T * j)) none (some (.int .i64 (i : Int))) none M = some (.slice (some ⟨bw,ow,none⟩) i (i + T * j),M)) ∧ (∀ M,F M → asl Try.prog 22 (.slice (some ⟨bw,ow,none⟩) (i + T * j) (i + T * j)) (some (.int .i64 (i : Int))) none none M = some (.slice (some ⟨bw,ow + i,none⟩) (T * j) (T * j),M)) ∧ (∀ M,Canon.look M.objs p5 = Canon.look G.objs p5 → (∀ b,C.next ≤ b → b < G.next → Canon.look M.objs b = Canon.look G.objs b) → F M) := by
            refine ⟨fun M => Canon.look M.objs p5 = Canon.look G.objs p5 ∧ ∀ b,C.next ≤ b → b < G.next → Canon.look M.objs b = Canon.look G.objs b,fun M h => (zBT h.1).trans z5,fun M h => ?_,fun M h => ?_,fun M h1 h2 => ⟨h1,h2⟩⟩
            · have he : ∀ b,C.next ≤ b → Canon.look G.objs b = none ∨ Canon.look M.objs b = Canon.look G.objs b := fun b hb => by
                by_cases hlt : b < G.next
                · exact .inr (h.2 b hb hlt)
                · exact .inl (St.wf.none (by omega))
              have := asl_pos (c := i + T * j) (n := i) (hgr.ints.ext he (Nat.le_refl _)) (hgr.sl.ext he) (by rw [zBV]; exact Nat.le_refl _) (by rw [zBV]; omega) (by rw [zBV]; omega)
              rw [zBV] at this
              exact this
            · have he : ∀ b,C.next ≤ b → Canon.look G.objs b = none ∨ Canon.look M.objs b = Canon.look G.objs b := fun b hb => by
                by_cases hlt : b < G.next
                · exact .inr (h.2 b hb hlt)
                · exact .inl (St.wf.none (by omega))
              rw [asl_lo1 (hgr.sl.ext he) (show i < i + T * j by omega),Nat.add_sub_cancel_left]
          have hbk : Nx G.next G (bump G 12) := Nx.bump (Nx.refl St.wf _) 12
          have FB := hF (bump G 12) rfl fun _ _ _ => rfl
          have hAk : Nx A.next A (bump G 12) := hAGG.trans (hbk.le hAGG.next)
          have hlr := least_run hbk.wf (m := (m : Int)) (sa := some ⟨bw,ow,none⟩) (ra := some ⟨bw,ow + i,none⟩) (sc := i + T * j) (rc := T * j) (st := redS Y i) (ro := redR Y i (T * j))
            (fun q hq => ⟨bw,ow,rfl,Nat.zero_le _,by rw [zAH]; omega,by rw [zBV] at hq; rw [zAB,hcell q (by omega),redS_get hq]⟩)
            (fun q hq => ⟨bw,ow + i,rfl,Nat.zero_le _,by rw [zAH]; omega,by rw [zBI] at hq; rw [zAB,Nat.add_assoc,hcell _ (by omega),redR_get hq]⟩)
            (by rw [zBV]; omega) (by rw [zBI]; omega) (by rw [zBI]; exact hTj) ((hgr.nx (n := 0) St.wf hbk).sl.mono (Nat.zero_le _)) (by rw [zBV]; omega)
          rw [atL_redF hPerY] at hlr
          simp only [zBV,zBI] at hlr
          refine Rn.drawnF hc hx (tldS (m : Int) Y) F (n := 2) (k := 12) (by kernel_rfl) (by kernel_rfl) (by rfl) ?_
          refine Dr.read (by first | rfl | kernel_rfl) (by rfl) (by assumption) (fun M hM => by simp only [zAY,zAT,ne_eq,Nat.reduceEqDiff,zNf,fx,ld,zAR,tk3,s5,hF5 M hM] <;> rfl) (by rfl) (by first | exact VQ.int _ _ | exact VQ.bool _ | exact VQ.ptr _ _ | exact VQ.slice _ _ _ | exact VQ.func (by simp [zAW,zAV,zAZ]) (by simp [zAW,zAV,zAZ]) | exact VQ.agg (by simp [zAW,zAV,zAZ]) | exact VQ.tuple (by simp [zAW,zAV,zAZ])) ?_
          refine Dr.read (by first | rfl | kernel_rfl) (by rfl) (by assumption) (fun M hM => by simp only [zAY,zAT,ne_eq,Nat.reduceEqDiff,zNf,fx,s15] <;> rfl) (by rfl) (by first | exact VQ.int _ _ | exact VQ.bool _ | exact VQ.ptr _ _ | exact VQ.slice _ _ _ | exact VQ.func (by simp [zAW,zAV,zAZ]) (by simp [zAW,zAV,zAZ]) | exact VQ.agg (by simp [zAW,zAV,zAZ]) | exact VQ.tuple (by simp [zAW,zAV,zAZ])) ?_
          refine Dr.read (by first | rfl | kernel_rfl) (by rfl) (by assumption) (fun M hM => by simp only [zAY,zAT,ne_eq,Nat.reduceEqDiff,zNf,fx,s1] <;> rfl) (by rfl) (by first | exact VQ.int _ _ | exact VQ.bool _ | exact VQ.ptr _ _ | exact VQ.slice _ _ _ | exact VQ.func (by simp [zAW,zAV,zAZ]) (by simp [zAW,zAV,zAZ]) | exact VQ.agg (by simp [zAW,zAV,zAZ]) | exact VQ.tuple (by simp [zAW,zAV,zAZ])) ?_
          refine Dr.read (by first | rfl | kernel_rfl) (by rfl) (by assumption) (fun M hM => by simp only [zAY,zAU,zAT,sp_n,Nat.reduceLT,ne_eq,Nat.reduceEqDiff,zNf,fx,hn,ae_asl_hi,hF1 M hM] <;> rfl) (by rfl) (by first | exact VQ.int _ _ | exact VQ.bool _ | exact VQ.ptr _ _ | exact VQ.slice _ _ _ | exact VQ.func (by simp [zAW,zAV,zAZ]) (by simp [zAW,zAV,zAZ]) | exact VQ.agg (by simp [zAW,zAV,zAZ]) | exact VQ.tuple (by simp [zAW,zAV,zAZ])) ?_
          refine Dr.read (by first | rfl | kernel_rfl) (by rfl) (by assumption) (fun M hM => by simp only [zAY,zAT,ne_eq,Nat.reduceEqDiff,zNf,fx,s15] <;> rfl) (by rfl) (by first | exact VQ.int _ _ | exact VQ.bool _ | exact VQ.ptr _ _ | exact VQ.slice _ _ _ | exact VQ.func (by simp [zAW,zAV,zAZ]) (by simp [zAW,zAV,zAZ]) | exact VQ.agg (by simp [zAW,zAV,zAZ]) | exact VQ.tuple (by simp [zAW,zAV,zAZ])) ?_
          refine Dr.read (by first | rfl | kernel_rfl) (by rfl) (by assumption) (fun M hM => by simp only [zAY,zAT,ne_eq,Nat.reduceEqDiff,zNf,fx,s1] <;> rfl) (by rfl) (by first | exact VQ.int _ _ | exact VQ.bool _ | exact VQ.ptr _ _ | exact VQ.slice _ _ _ | exact VQ.func (by simp [zAW,zAV,zAZ]) (by simp [zAW,zAV,zAZ]) | exact VQ.agg (by simp [zAW,zAV,zAZ]) | exact VQ.tuple (by simp [zAW,zAV,zAZ])) ?_
          refine Dr.read (by first | rfl | kernel_rfl) (by rfl) (by assumption) (fun M hM => by simp only [zAY,zAU,zAT,sp_n,Nat.reduceLT,ne_eq,Nat.reduceEqDiff,zNf,fx,hn,ae_asl_lo,hF2 M hM] <;> rfl) (by rfl) (by first | exact VQ.int _ _ | exact VQ.bool _ | exact VQ.ptr _ _ | exact VQ.slice _ _ _ | exact VQ.func (by simp [zAW,zAV,zAZ]) (by simp [zAW,zAV,zAZ]) | exact VQ.agg (by simp [zAW,zAV,zAZ]) | exact VQ.tuple (by simp [zAW,zAV,zAZ])) ?_
          refine Dr.call (by kernel_rfl) (by rfl) (by assumption) (by rfl) (zAC (by rfl) ⟨by rfl,by rfl⟩ (by rfl) (xs := [.int .i64 (m : Int),.slice (some ⟨bw,ow,none⟩) i (i + T * j),.slice (some ⟨bw,ow + i,none⟩) (T * j) (T * j)]) (by simp only [zAY,zAU,zAT,sp_n,Nat.reduceLT,ne_eq,Nat.reduceEqDiff,zNf,List.map_cons,List.map_nil,List.nil_append,List.append_nil,hn]) (Con.mono hlr fun v A1 h => (by obtain ⟨a',p',h1,_,_,h2⟩ := h; exact (tld_q h1 h2 : tldS (m : Int) Y 69 _ (bump G 12) v A1)))) ?_
          intro w C1 hT1
          have hT1 : Tld (bump G 12) 0 (m : Int) Y w C1 := hT1
          have hC1 : Nx G.next G C1 := hbk.trans (hT1.1.le hbk.next)
          have F1 : F C1 := hF _ (hC1.keep _ (by have := hV.l5.1; omega)) fun b _ h => hC1.keep b h
          obtain ⟨mm,n1,n2,ee,p1,c1,p2,c2,rfl,D,q1,g0,g1,g2,hoff,hT⟩ := Tld.fin (b := pR) hAk hpRA (by rw [zAH]; omega) ((St.keep _ hpRC hpRS).trans lR) hT1
          refine Dr.read (by first | rfl | kernel_rfl) (by rfl) (by assumption) (fun M hM => by simp only [zAY,zAU,sp_n,Nat.reduceLT,fx,ext,List.getElem?_toArray,List.getElem?_cons_zero,hn,ext] <;> rfl) (by rfl) (by first | exact VQ.int _ _ | exact VQ.bool _ | exact VQ.ptr _ _ | exact VQ.slice _ _ _ | exact VQ.func (by simp [zAW,zAV,zAZ]) (by simp [zAW,zAV,zAZ]) | exact VQ.agg (by simp [zAW,zAZ]) | exact VQ.tuple (by simp [zAW,zAV,zAZ])) ?_
          refine Dr.read (by first | rfl | kernel_rfl) (by rfl) (by assumption) (fun M hM => by simp only [zAY,zAU,zAT,sp_n,Nat.reduceLT,ne_eq,Nat.reduceEqDiff,zNf,fx,ext,List.getElem?_toArray,List.getElem?_cons_zero,List.getElem?_cons_succ,hn,ext] <;> rfl) (by rfl) (by first | exact VQ.int _ _ | exact VQ.bool _ | exact VQ.ptr _ _ | exact VQ.slice _ _ _ | exact VQ.func (by simp [zAW,zAV,zAZ]) (by simp [zAW,zAV,zAZ]) | exact VQ.agg (by simp [zAW,zAV,zAZ]) | exact VQ.tuple (by simp [zAW,zAV,zAZ])) ?_
          have FD : F D := hF D ((hoff _ (by omega)).trans (hC1.keep _ (by have := hV.l5.1; omega))) fun b hb h => (hoff _ (by omega)).trans (hC1.keep b h)
          refine Dr.eff (by rfl) (by rfl) (pd1 := []) (pd2 := []) (by kernel_rfl) (by kernel_rfl) (ms0 := []) (A0 := C1) rfl (fun _ h => by cases h) F1 (by rfl) (v := undef) (A1 := D) (zBK rfl (fx_ok (by rfl) (by simp only [zAY,zAU,zAT,sp_n,Nat.reduceLT,ne_eq,Nat.reduceEqDiff,zNf,fx,str,zAR,Nat.zero_add,Nat.reduceAdd,tk24,hn,s10,q1,List.size_toArray,List.length_cons,List.length_nil,Nat.beq_refl]))) ?_
          refine Dr.read (by first | rfl | kernel_rfl) (by rfl) (by assumption) (fun M hM => by simp only [zAY,zAU,sp_n,zAN,Nat.reduceLT,fx,hn] <;> rfl) (by rfl) (by first | exact VQ.int _ _ | exact VQ.bool _ | exact VQ.ptr _ _ | exact VQ.slice _ _ _ | exact VQ.func (by simp [zAW,zAV,zAZ]) (by simp [zAW,zAV,zAZ]) | exact VQ.agg (by simp [zAW,zAV,zAZ]) | exact VQ.tuple (by simp [zAW,zAV,zAZ])) ?_
          refine Dr.nil (by rfl) (fun M hM => by cases hM) FD ⟨D,by rfl,?_⟩
          (repeat (first | refine Rn.seq hc ?_ | refine Rn.skip hc ?_ | refine Rn.block hc ?_ | refine Rn.inBlock hc ?_ | refine Rn.scope hc ?_ | refine Rn.inScope hc ?_))
          refine Rn.ret (zCT rfl (v := .agg #[.int .i64 mm,.slice p1 n1 c1,.slice p2 n2 c2]) ?_ ?_)
          · simp only [zAT,zAN,ne_eq,Nat.reduceEqDiff,zNf,ld,zAR,cls,Nat.zero_add,Nat.reduceAdd,tk24,s10,g0,g1,g2]
          · simp only [zAU,sp_n,zAN,Nat.reduceLT,hn]
            exact hT
end Go.Proofs.Ytdaljohmfnfgiaa
namespace Go.Proofs.Ytdaljohmfnfgiaa
open Go Go.RowKit Go.Proofs.Ytdaljohmfnfgiaa.Canon
set_option maxRecDepth 20000
def erS (x : Las) (sp : Int) : Int := if x.err = 0 then (if sp < 1 ∨ 120 < sp then 3 else 0) else x.err
theorem bad2s {sp : Int} (h : sp < 1 ∨ 120 < sp) : (decide (sp < 1) = true) ∨ (decide (sp < 1) = false ∧ decide (120 < sp) = true) := by
  simp only [decide_eq_true_eq,decide_eq_false_iff_not]
  omega
theorem scan_run {A : AHeap} (hw : WF A) {x : Las} (hox : x.ok A) {sp : Int} :
    Con Try.prog 47 [x.v,.int .i64 sp] A (Tld A (erS x sp) x.m (scn x.m x.s sp.toNat)) := by
  refine zAM hc Try.func47 rfl (Nat.le_of_ble_eq_true rfl) ?_
  obtain ⟨A1,e1,hx1,hn1,b0,b1,b2⟩ := box3 hw (.int .i64 x.m) (.slice x.sa x.st.length x.sc) (.slice x.ra x.ro.length x.rc) 24
  have hxr : Nx A1.next A1 (A1.push (.cells #[.int .i64 0,.slice none 0 0,.slice none 0 0] 24)) := (Nx.refl hx1.wf _).push (Nat.le_refl _) _
  have lr := zAQ A1 (.cells #[.int .i64 0,.slice none 0 0,.slice none 0 0] 24)
  have hnr : (A1.push (.cells #[.int .i64 0,.slice none 0 0,.slice none 0 0] 24)).next = A1.next + 1 := rfl
  generalize er : A1.push (.cells #[.int .i64 0,.slice none 0 0,.slice none 0 0] 24) = Ar at hxr lr hnr
  have b0 := (hxr.cl (show A.next < A1.next by omega) 0).trans b0
  have b1 := (hxr.cl (show A.next < A1.next by omega) 1).trans b1
  have b2 := (hxr.cl (show A.next < A1.next by omega) 2).trans b2
  have hx0r : Nx A.next A Ar := hx1.trans (hxr.le hx1.next)
  obtain ⟨A3,e3,hx3,hn3,c0,c1,c2⟩ := box3 hxr.wf (.int .i64 x.m) (.slice x.sa x.st.length x.sc) (.slice x.ra x.ro.length x.rc) 24
  have hx03 : Nx A.next A A3 := hx0r.trans (hx3.le hx0r.next)
  have hrow : LRow A3 (some ⟨Ar.next,0,none⟩) [x] := fun i hi => by
    have : i = 0 := by simp at hi; omega
    subst this
    exact ⟨hox.nx hx03,_,_,rfl,by omega,c0,c1,c2⟩
  rw [s_in2]
  unfold Las.v
  (repeat (first | refine Rn.seq hc ?_ | refine Rn.skip hc ?_ | refine Rn.block hc ?_ | refine Rn.inBlock hc ?_ | refine Rn.scope hc ?_ | refine Rn.inScope hc ?_))
  refine Rn.reg hc rfl ?_
  simp only [zAY,zAS,zAU,zAT,Nat.reduceLT,ne_eq,Nat.reduceEqDiff,zNf,gd,zAX,rops,fx,zOi,zEl,Value.cells,show Try.f47.ntmps = 36 from rfl,e1,ze24,er]
  (repeat (first | refine Rn.seq hc ?_ | refine Rn.skip hc ?_ | refine Rn.block hc ?_ | refine Rn.inBlock hc ?_ | refine Rn.scope hc ?_ | refine Rn.inScope hc ?_))
  refine Rn.region hc fun K hK => ?_
  refine Wo.run hc 2 rfl rfl rfl ?_
  simp (maxSteps := 2000000) only [List.drop_zero,List.take_succ_cons,List.take_zero,zAY,zAU,zAT,sp_n,Nat.reduceLT,ne_eq,Nat.reduceEqDiff,not_false_eq_true,gd,zAX,rops,fx,ld,zAR,cls,Nat.zero_add,Option.some.injEq,exists_eq_left',Value.cells,Nat.reduceAdd,tk24,b0,b1,b2,bs46_1,List.size_toArray,List.length_cons,List.length_nil,e3]
  refine Wo.call hc (by rfl) (by rfl) ⟨by rfl,by rfl⟩ (xs := [.slice (some ⟨Ar.next,0,none⟩) 1 1]) (by rfl) (by rfl) (by rfl) (Con.mono (check_all hx3.wf (l := [x]) hrow (by simp)) ?_)
  rintro w A4 ⟨rfl,hx4⟩
  rw [errs_one]
  refine Wo.run hc 1 rfl rfl rfl ?_
  simp (maxSteps := 2000000) only [List.drop_zero,List.drop_succ_cons,List.take_succ_cons,List.take_zero,zAY,zAU,sp_n,Nat.reduceLT,gd,zAX,rops,fx,Option.some.injEq,exists_eq_left',Nat.reduceAdd]
  refine Wo.done hc rfl (hK _ _ ?_)
  clear hK
  (repeat (first | refine Rn.seq hc ?_ | refine Rn.skip hc ?_ | refine Rn.block hc ?_ | refine Rn.inBlock hc ?_ | refine Rn.scope hc ?_ | refine Rn.inScope hc ?_))
  have hxr4 : Nx Ar.next Ar A4 := hx3.trans (hx4.le hx3.next)
  have hx04 : Nx A.next A A4 := hx0r.trans (hxr4.le hx0r.next)
  have n4 := hx4.next
  have b0 := (hxr4.cl (show A.next < Ar.next by omega) 0).trans b0
  have b1 := (hxr4.cl (show A.next < Ar.next by omega) 1).trans b1
  have b2 := (hxr4.cl (show A.next < Ar.next by omega) 2).trans b2
  have l4 : Canon.look A4.objs A1.next = _ := (hxr4.keep _ (by omega)).trans lr
  unfold erS
  by_cases he : x.err = 0
  · have hd : (!decide (x.err = 0)) = false := by rw [decide_eq_true he]; rfl
    obtain ⟨m1,m2,m3⟩ := err_len he
    obtain ⟨mx,lx⟩ := err_lim he
    rw [if_pos he]
    refine Rn.reg hc rfl ?_
    simp only [zAY,zAS,zAU,sp_n,Nat.reduceLT,gd,zAX,rops,fx,zBP,zOi,zEl,hd]
    (repeat (first | refine Rn.seq hc ?_ | refine Rn.skip hc ?_ | refine Rn.block hc ?_ | refine Rn.inBlock hc ?_ | refine Rn.scope hc ?_ | refine Rn.inScope hc ?_))
    refine Rn.zAI hc rfl ?_
    simp only [zAY,zAU,sp_n,Nat.reduceLT,Value.bool.injEq,zEl]
    (repeat (first | refine Rn.seq hc ?_ | refine Rn.skip hc ?_ | refine Rn.block hc ?_ | refine Rn.inBlock hc ?_ | refine Rn.scope hc ?_ | refine Rn.inScope hc ?_))
    by_cases hbad : sp < 1 ∨ 120 < sp
    · obtain ⟨D,q1,g0,g1,g2,hxD⟩ := err_fin hx04 (by omega) (by omega) l4
      rw [if_pos hbad]
      rcases bad2s hbad with h1 | ⟨h1,h2⟩
      · refine Rn.reg hc rfl ?_
        simp only [zAY,zAS,zAU,zAT,sp_n,Nat.reduceLT,ne_eq,Nat.reduceEqDiff,zNf,gd,nth,zAX,zAG,beqB,rops,fx,pck,zAP,zOi,zEl,h1]
        (repeat (first | refine Rn.seq hc ?_ | refine Rn.skip hc ?_ | refine Rn.block hc ?_ | refine Rn.inBlock hc ?_ | refine Rn.scope hc ?_ | refine Rn.inScope hc ?_))
        refine Rn.zAI hc rfl ?_
        simp only [zAY,zAU,sp_n,Nat.reduceLT,Value.bool.injEq,zEl]
        (repeat (first | refine Rn.seq hc ?_ | refine Rn.skip hc ?_ | refine Rn.block hc ?_ | refine Rn.inBlock hc ?_ | refine Rn.scope hc ?_ | refine Rn.inScope hc ?_))
        refine Rn.reg hc rfl ?_
        simp only [zAY,zAS,zAU,zAT,sp_n,zAN,Nat.reduceLT,ne_eq,Nat.reduceEqDiff,zNf,gd,zAX,rops,fx,str,zAR,Nat.zero_add,zOi,zEl,Nat.reduceAdd,tk24,bd24_z,q1,List.size_toArray,List.length_cons,List.length_nil,Nat.beq_refl]
        (repeat (first | refine Rn.seq hc ?_ | refine Rn.skip hc ?_ | refine Rn.block hc ?_ | refine Rn.inBlock hc ?_ | refine Rn.scope hc ?_ | refine Rn.inScope hc ?_))
        refine Rn.ret (zCT rfl (v := .agg #[.int .i64 0,.slice none 0 0,.slice none 0 0]) ?_ ?_)
        · simp only [zAU,zAT,sp_n,Nat.reduceLT,ne_eq,Nat.reduceEqDiff,zNf,ld,zAR,cls,Nat.zero_add,Nat.reduceAdd,tk24,g0,g1,g2]
        · simp only [zAU,sp_n,Nat.reduceLT]
          exact tld_err (by omega) hxD
      · refine Rn.reg hc rfl ?_
        simp only [zAY,zAS,zAU,zAT,sp_n,Nat.reduceLT,ne_eq,Nat.reduceEqDiff,zNf,gd,nth,zAX,zAG,beqB,rops,fx,pck,zAP,zCZ,zOi,zEl,h1,h2]
        (repeat (first | refine Rn.seq hc ?_ | refine Rn.skip hc ?_ | refine Rn.block hc ?_ | refine Rn.inBlock hc ?_ | refine Rn.scope hc ?_ | refine Rn.inScope hc ?_))
        refine Rn.zAI hc rfl ?_
        simp only [zAY,zAU,sp_n,Nat.reduceLT,Value.bool.injEq,zEl]
        (repeat (first | refine Rn.seq hc ?_ | refine Rn.skip hc ?_ | refine Rn.block hc ?_ | refine Rn.inBlock hc ?_ | refine Rn.scope hc ?_ | refine Rn.inScope hc ?_))
        refine Rn.reg hc rfl ?_
        simp only [zAY,zAS,zAU,zAT,sp_n,zAN,Nat.reduceLT,ne_eq,Nat.reduceEqDiff,zNf,gd,zAX,rops,fx,str,zAR,Nat.zero_add,zOi,zEl,Nat.reduceAdd,tk24,bd24_z,q1,List.size_toArray,List.length_cons,List.length_nil,Nat.beq_refl]
        (repeat (first | refine Rn.seq hc ?_ | refine Rn.skip hc ?_ | refine Rn.block hc ?_ | refine Rn.inBlock hc ?_ | refine Rn.scope hc ?_ | refine Rn.inScope hc ?_))
        refine Rn.ret (zCT rfl (v := .agg #[.int .i64 0,.slice none 0 0,.slice none 0 0]) ?_ ?_)
        · simp only [zAU,zAT,sp_n,Nat.reduceLT,ne_eq,Nat.reduceEqDiff,zNf,ld,zAR,cls,Nat.zero_add,Nat.reduceAdd,tk24,g0,g1,g2]
        · simp only [zAU,sp_n,Nat.reduceLT]
          exact tld_err (by omega) hxD
    · have h1 : decide (sp < 1) = false := decide_eq_false (by omega)
      have h2 : decide (120 < sp) = false := decide_eq_false (by omega)
      rw [if_neg hbad]
      obtain ⟨step,rfl⟩ : ∃ k : Nat,sp = (k : Int) := ⟨sp.toNat,by omega⟩
      rw [Int.toNat_natCast]
      refine Rn.reg hc rfl ?_
      simp only [zAY,zAS,zAU,zAT,sp_n,Nat.reduceLT,ne_eq,Nat.reduceEqDiff,zNf,gd,nth,zAX,zAG,beqB,rops,fx,pck,zAP,zCZ,zOi,zEl,h1,h2]
      (repeat (first | refine Rn.seq hc ?_ | refine Rn.skip hc ?_ | refine Rn.block hc ?_ | refine Rn.inBlock hc ?_ | refine Rn.scope hc ?_ | refine Rn.inScope hc ?_))
      refine Rn.zAI hc rfl ?_
      simp only [zAY,zAU,sp_n,Nat.reduceLT,Value.bool.injEq,zEl]
      (repeat (first | refine Rn.seq hc ?_ | refine Rn.skip hc ?_ | refine Rn.block hc ?_ | refine Rn.inBlock hc ?_ | refine Rn.scope hc ?_ | refine Rn.inScope hc ?_))
      obtain ⟨mn,hmn⟩ : ∃ k : Nat,x.m = (k : Int) := ⟨x.m.toNat,by omega⟩
      have hsm := summed_run hx04.wf (m := mn) (stem := x.st.length) (round := x.ro.length) (step := step) (fi := .agg #[.int .i64 x.m,.slice x.sa x.st.length x.sc,.slice x.ra x.ro.length x.rc]) (a := x.s) (by omega) (by omega) (by omega) (by omega) (fun n => by rw [← hmn]; exact lx n) (atL_per m3)
        (fun C h n hn => at_stream h.wf ((hox.nx hx04).nx h).1 ((hox.nx hx04).nx h).2.1 n hox.2.2.1 m3 hox.2.2.2 (by omega)) (vq_lasf _ _ _ _ _ _ _ _)
      rw [← hmn] at hsm
      refine Rn.region hc fun K hK => ?_
      refine Wo.run hc 12 rfl rfl rfl ?_
      simp (maxSteps := 2000000) only [List.drop_zero,List.take_succ_cons,List.take_zero,zAY,zAU,zAT,sp_n,Nat.reduceLT,ne_eq,Nat.reduceEqDiff,not_false_eq_true,gd,zAX,rops,fx,ld,fad,lng,zAR,cls,Nat.zero_add,Nat.add_zero,Option.some.injEq,exists_eq_left',Value.cells,Nat.reduceAdd,ae_mkbound,tk3,tk22,tk24,fo24_0,zCY,zDY,un22,b0,b1,b2,bd86,ae_mkbound,List.size_toArray,List.length_cons,List.length_nil]
      refine Wo.call hc (by rfl) (by rfl) ⟨by rfl,by rfl⟩ (xs := [.int .i64 x.m,.int .i64 (x.st.length : Int),.int .i64 (x.ro.length : Int),.int .i64 (step : Int),.func (.func 77) #[.agg #[.int .i64 x.m,.slice x.sa x.st.length x.sc,.slice x.ra x.ro.length x.rc]] #[]]) (by rfl) (by rfl) (by rfl) (Con.mono (hsm) ?_)
      intro w C1 hT0
      obtain ⟨mm,n1,n2,ee,p1,c1,p2,c2,rfl,D,q1,g0,g1,g2,hoff,hT⟩ := Tld.fin (b := A1.next) hx04 (by omega) (by omega) l4 hT0
      refine Wo.run hc 4 rfl rfl rfl ?_
      simp (maxSteps := 2000000) only [List.drop_zero,List.drop_succ_cons,List.take_succ_cons,List.take_zero,zAY,zAU,zAT,sp_n,zAN,Nat.reduceLT,ne_eq,Nat.reduceEqDiff,not_false_eq_true,gd,zAX,rops,fx,str,ext,zAR,List.getElem?_toArray,List.getElem?_cons_zero,List.getElem?_cons_succ,Nat.zero_add,Option.some.injEq,exists_eq_left',Nat.reduceAdd,tk24,ext,q1,List.size_toArray,List.length_cons,List.length_nil,Nat.beq_refl]
      refine Wo.done hc rfl (hK _ _ ?_)
      clear hK
      (repeat (first | refine Rn.seq hc ?_ | refine Rn.skip hc ?_ | refine Rn.block hc ?_ | refine Rn.inBlock hc ?_ | refine Rn.scope hc ?_ | refine Rn.inScope hc ?_))
      refine Rn.ret (zCT rfl (v := .agg #[.int .i64 mm,.slice p1 n1 c1,.slice p2 n2 c2]) ?_ ?_)
      · simp only [zAU,zAT,sp_n,Nat.reduceLT,ne_eq,Nat.reduceEqDiff,zNf,ld,zAR,cls,Nat.zero_add,Nat.reduceAdd,tk24,g0,g1,g2]
      · simp only [zAU,sp_n,Nat.reduceLT]
        exact hT
  · have hd : (!decide (x.err = 0)) = true := by rw [decide_eq_false he]; rfl
    obtain ⟨D,q1,g0,g1,g2,hxD⟩ := err_fin hx04 (by omega) (by omega) l4
    rw [if_neg he]
    refine Rn.reg hc rfl ?_
    simp only [zAY,zAS,zAU,sp_n,Nat.reduceLT,gd,zAX,rops,fx,zBP,zOi,zEl,hd]
    (repeat (first | refine Rn.seq hc ?_ | refine Rn.skip hc ?_ | refine Rn.block hc ?_ | refine Rn.inBlock hc ?_ | refine Rn.scope hc ?_ | refine Rn.inScope hc ?_))
    refine Rn.zAI hc rfl ?_
    simp only [zAY,zAU,sp_n,Nat.reduceLT,Value.bool.injEq,zEl]
    (repeat (first | refine Rn.seq hc ?_ | refine Rn.skip hc ?_ | refine Rn.block hc ?_ | refine Rn.inBlock hc ?_ | refine Rn.scope hc ?_ | refine Rn.inScope hc ?_))
    refine Rn.reg hc rfl ?_
    simp only [zAY,zAU,zAT,sp_n,zAN,Nat.reduceLT,ne_eq,Nat.reduceEqDiff,zNf,gd,zAX,rops,fx,str,zAR,Nat.zero_add,zOi,zEl,Nat.reduceAdd,tk24,bd24_z,q1,List.size_toArray,List.length_cons,List.length_nil,Nat.beq_refl]
    (repeat (first | refine Rn.seq hc ?_ | refine Rn.skip hc ?_ | refine Rn.block hc ?_ | refine Rn.inBlock hc ?_ | refine Rn.scope hc ?_ | refine Rn.inScope hc ?_))
    refine Rn.ret (zCT rfl (v := .agg #[.int .i64 0,.slice none 0 0,.slice none 0 0]) ?_ ?_)
    · simp only [zAU,zAT,sp_n,Nat.reduceLT,ne_eq,Nat.reduceEqDiff,zNf,ld,zAR,cls,Nat.zero_add,Nat.reduceAdd,tk24,g0,g1,g2]
    · simp only [zAU,sp_n,Nat.reduceLT]
      exact tld_err he hxD
end Go.Proofs.Ytdaljohmfnfgiaa
namespace Go.Proofs.Ytdaljohmfnfgiaa
open Go Go.RowKit Go.Proofs.Ytdaljohmfnfgiaa.Canon
set_option maxRecDepth 20000
section
variable {m : Nat} {a : Nat → Int} {step B N : Nat}
end
end Go.Proofs.Ytdaljohmfnfgiaa
namespace Go.Proofs.Ytdaljohmfnfgiaa
open Go Go.RowKit Go.Proofs.Ytdaljohmfnfgiaa.Canon
set_option maxRecDepth 20000
end Go.Proofs.Ytdaljohmfnfgiaa
namespace Go.Proofs.Ytdaljohmfnfgiaa
open Go Go.RowKit Go.Proofs.Ytdaljohmfnfgiaa.Canon
set_option maxRecDepth 20000
theorem mod_run {A : AHeap} (hw : WF A) {n m : Int} (hm : 0 < m ∧ m ≤ 65521) : Con Try.prog 62 [.int .i64 n,.int .i64 m] A (fun v A1 => v = .int .i64 (n % m) ∧ Nx A.next A A1) := by
  refine zAM hc Try.func62 rfl (Nat.le_of_ble_eq_true rfl) ?_
  have hl := tmod_lim n hm.1
  have hr : ∀ (x : Int) M,bin Try.prog .rem 3 (.int .i64 x) (.int .i64 m) M = some (.int .i64 (x.tmod m),M) := fun x M => zCM _ _ _ _ (by omega)
  have hw1 : IntKind.i64.wrap (n.tmod m + m) = n.tmod m + m := IntWalk.i64_in _ ⟨by omega,by omega⟩
  have hd : decide (m < 1) = false := decide_eq_false (by omega)
  have e := Int.mul_tdiv_add_tmod n m
  rw [s_in2]
  (repeat (first | refine Rn.seq hc ?_ | refine Rn.skip hc ?_ | refine Rn.block hc ?_ | refine Rn.inBlock hc ?_ | refine Rn.scope hc ?_ | refine Rn.inScope hc ?_))
  refine Rn.reg hc rfl ?_
  simp only [zAS,gd,zAX,rops,fx,zOi,zEl,show Try.f62.ntmps = 16 from rfl]
  (repeat (first | refine Rn.seq hc ?_ | refine Rn.skip hc ?_ | refine Rn.block hc ?_ | refine Rn.inBlock hc ?_ | refine Rn.scope hc ?_ | refine Rn.inScope hc ?_))
  refine Rn.reg hc rfl ?_
  simp only [zAY,zAS,zAU,zAT,sp_n,Nat.reduceLT,ne_eq,Nat.reduceEqDiff,zNf,gd,zAX,rops,fx,zAP,zOi,zEl,hd]
  (repeat (first | refine Rn.seq hc ?_ | refine Rn.skip hc ?_ | refine Rn.block hc ?_ | refine Rn.inBlock hc ?_ | refine Rn.scope hc ?_ | refine Rn.inScope hc ?_))
  refine Rn.zAI hc rfl ?_
  simp only [zAY,zAU,sp_n,Nat.reduceLT,Value.bool.injEq,zEl]
  (repeat (first | refine Rn.seq hc ?_ | refine Rn.skip hc ?_ | refine Rn.block hc ?_ | refine Rn.inBlock hc ?_ | refine Rn.scope hc ?_ | refine Rn.inScope hc ?_))
  refine Rn.reg hc rfl ?_
  simp only [zAY,zAU,zAT,sp_n,Nat.reduceLT,ne_eq,Nat.reduceEqDiff,zNf,gd,zAX,rops,fx,zOi,zEl,hr]
  (repeat (first | refine Rn.seq hc ?_ | refine Rn.skip hc ?_ | refine Rn.block hc ?_ | refine Rn.inBlock hc ?_ | refine Rn.scope hc ?_ | refine Rn.inScope hc ?_))
  by_cases h0 : n.tmod m < 0
  · have hd2 : decide (n.tmod m < 0) = true := decide_eq_true h0
    refine Rn.reg hc rfl ?_
    simp only [zAY,zAS,zAU,sp_n,Nat.reduceLT,gd,zAX,rops,fx,zAP,zOi,zEl,hd2]
    (repeat (first | refine Rn.seq hc ?_ | refine Rn.skip hc ?_ | refine Rn.block hc ?_ | refine Rn.inBlock hc ?_ | refine Rn.scope hc ?_ | refine Rn.inScope hc ?_))
    refine Rn.zAI hc rfl ?_
    simp only [zAY,zAU,sp_n,Nat.reduceLT,Value.bool.injEq,zEl]
    (repeat (first | refine Rn.seq hc ?_ | refine Rn.skip hc ?_ | refine Rn.block hc ?_ | refine Rn.inBlock hc ?_ | refine Rn.scope hc ?_ | refine Rn.inScope hc ?_))
    refine Rn.reg hc rfl ?_
    simp only [zAY,zAU,zAT,sp_n,Nat.reduceLT,ne_eq,Nat.reduceEqDiff,zNf,gd,zAX,rops,fx,zAE,zOi,zEl,hw1]
    (repeat (first | refine Rn.seq hc ?_ | refine Rn.skip hc ?_ | refine Rn.block hc ?_ | refine Rn.inBlock hc ?_ | refine Rn.scope hc ?_ | refine Rn.inScope hc ?_))
    refine Rn.reg hc rfl ?_
    simp only [zAY,zAU,sp_n,Nat.reduceLT,gd,zAX,rops,fx,zOi,zEl]
    (repeat (first | refine Rn.seq hc ?_ | refine Rn.skip hc ?_ | refine Rn.block hc ?_ | refine Rn.inBlock hc ?_ | refine Rn.scope hc ?_ | refine Rn.inScope hc ?_))
    refine Rn.ret (zAJ rfl ⟨?_,Nx.refl hw _⟩)
    simp only [zAU,sp_n,Nat.reduceLT]
    have h2 : n.tmod m + m = n + m * (-n.tdiv m + 1) := by rw [Int.mul_add,Int.mul_neg,Int.mul_one]; omega
    rw [← Int.add_mul_emod_self_left n m (-n.tdiv m + 1),← h2,Int.emod_eq_of_lt (by omega) (by omega)]
  · have hd2 : decide (n.tmod m < 0) = false := decide_eq_false h0
    refine Rn.reg hc rfl ?_
    simp only [zAY,zAS,zAU,sp_n,Nat.reduceLT,gd,zAX,rops,fx,zAP,zOi,zEl,hd2]
    (repeat (first | refine Rn.seq hc ?_ | refine Rn.skip hc ?_ | refine Rn.block hc ?_ | refine Rn.inBlock hc ?_ | refine Rn.scope hc ?_ | refine Rn.inScope hc ?_))
    refine Rn.zAI hc rfl ?_
    simp only [zAY,zAU,sp_n,Nat.reduceLT,Value.bool.injEq,zEl]
    (repeat (first | refine Rn.seq hc ?_ | refine Rn.skip hc ?_ | refine Rn.block hc ?_ | refine Rn.inBlock hc ?_ | refine Rn.scope hc ?_ | refine Rn.inScope hc ?_))
    refine Rn.reg hc rfl ?_
    simp only [zAY,zAU,zAT,sp_n,Nat.reduceLT,ne_eq,Nat.reduceEqDiff,zNf,gd,zAX,rops,fx,zOi,zEl]
    (repeat (first | refine Rn.seq hc ?_ | refine Rn.skip hc ?_ | refine Rn.block hc ?_ | refine Rn.inBlock hc ?_ | refine Rn.scope hc ?_ | refine Rn.inScope hc ?_))
    refine Rn.ret (zAJ rfl ⟨?_,Nx.refl hw _⟩)
    simp only [zAU,sp_n,Nat.reduceLT]
    have h2 : n.tmod m = n + m * (-n.tdiv m) := by rw [Int.mul_neg]; omega
    rw [← Int.add_mul_emod_self_left n m (-n.tdiv m),← h2,Int.emod_eq_of_lt (by omega) (by omega)]
def scS : Canon.Spec := fun g xs A v A1 => match g with
  | 62 => (∀ n m : Int,xs = [.int .i64 n,.int .i64 m] → v = .int .i64 (n % m)) ∧ Nx A.next A A1
  | _ => atS 60 xs A v A1
theorem mod_S {A : AHeap} (hw : WF A) {n m : Int} (hm : 0 < m ∧ m ≤ 65521) : Con Try.prog 62 [.int .i64 n,.int .i64 m] A (scS 62 [.int .i64 n,.int .i64 m] A) :=
  Con.mono (mod_run hw hm) fun v A1 h => ⟨fun n' m' e => by
    simp only [List.cons.injEq,Value.int.injEq,true_and,and_true] at e
    obtain ⟨rfl,rfl⟩ := e
    exact h.1,h.2⟩
theorem at_S {A : AHeap} (hw : WF A) {x : Las} (hox : x.ok A) (n : Nat) (hro : 0 < x.ro.length) (hn : n < 9223372036854775808) :
    Con Try.prog 60 [x.v,.int .i64 (n : Int)] A (scS 60 [x.v,.int .i64 (n : Int)] A) := by
  unfold Las.v
  refine Con.mono (at_law hw hox.1 hox.2.1 n hox.2.2.1 hro hox.2.2.2 hn) fun v A1 h => ⟨fun m' sa' st' sc' ra' ro' rc' n' e h1 h2 => ?_,h.2⟩
  simp only [List.cons.injEq,Value.agg.injEq,Array.mk.injEq,Value.int.injEq,Value.slice.injEq,true_and,and_true] at e
  obtain ⟨⟨-,⟨rfl,e1,-⟩,rfl,e2,-⟩,e3⟩ := e
  have hn' : n = n' := by omega
  subst hn'
  rw [h.1,ints_uniq hox.1 h1 e1,ints_uniq hox.2.1 h2 e2]
structure Hs (B : AHeap) (b : Nat) (x : Las) : Prop where
  c0 : cl B b 0 = some (.int .i64 x.m)
  c1 : cl B b 1 = some (.slice x.sa x.st.length x.sc)
  c2 : cl B b 2 = some (.slice x.ra x.ro.length x.rc)
  ok : x.ok B
  lt : b < B.next
theorem Hs.nx {B C : AHeap} {b : Nat} {x : Las} (h : Hs B b x) (hx : Nx B.next B C) : Hs C b x :=
  { c0 := (hx.cl h.lt 0).trans h.c0,c1 := (hx.cl h.lt 1).trans h.c1,c2 := (hx.cl h.lt 2).trans h.c2,ok := h.ok.nx hx,lt := by have := hx.next; have := h.lt; omega }
theorem tp_go {m : Nat} {s : Nat → Int} {mm : Int} {L1 L2 : List Int} {ee : Int} (h : TP 0 (m : Int) s mm L1 L2 ee) (hm : 2 ≤ m ∧ m ≤ 65521) (hs : ∀ n,0 ≤ s n ∧ s n < (m : Int)) : ee = 11 ∨ (ee = 0 ∧ mm = (m : Int) ∧ errL (m : Int) L1 L2 = 0 ∧ atL L1 L2 = s) := by
  rcases h with ⟨h0,_⟩ | ⟨_,a,p,hr,h⟩
  · exact absurd rfl h0
  · rcases h with ⟨_,_,_,_,h5⟩ | ⟨h1,h2,h3,h4,h5⟩
    · exact .inl h5
    · have hp := hr.per.pos
      exact .inr ⟨h5,h2,by rw [h3,h4]; exact errL_red hm hs (by omega) (by omega),by rw [h3,h4]; exact atL_redF hr.per⟩
theorem atL_snoc (v : Int) (st ro : List Int) (n : Nat) : atL (v :: st) ro n = if n = 0 then v else atL st ro (n - 1) := by
  cases n with
  | zero => simp [atL]
  | succ n =>
    rw [if_neg (show ¬ (n + 1 = 0) by omega),Nat.add_sub_cancel]
    unfold atL
    rw [List.length_cons]
    by_cases h : n < st.length
    · rw [if_pos (show n + 1 < st.length + 1 by omega),if_pos h]
      simp
    · rw [if_neg (show ¬ (n + 1 < st.length + 1) by omega),if_neg h,show n + 1 - (st.length + 1) = n - st.length by omega]
def shf (s : Nat → Int) (j n : Nat) : Int := if n < j then 0 else s (n - j)
theorem shf_succ {st ro : List Int} {s : Nat → Int} {j : Nat} (h : atL st ro = shf s j) : atL (0 :: st) ro = shf s (j + 1) := by
  funext n
  rw [atL_snoc,h]
  unfold shf
  by_cases h0 : n = 0
  · rw [if_pos h0,if_pos (by omega)]
  · rw [if_neg h0]
    by_cases h1 : n < j + 1
    · rw [if_pos h1,if_pos (by omega)]
    · rw [if_neg h1,if_neg (by omega),show n - 1 - j = n - (j + 1) by omega]
theorem shf_zero (s : Nat → Int) : shf s 0 = s := by
  funext n
  simp [shf]
theorem shf_lim {s : Nat → Int} {j : Nat} {m : Int} (hm : 0 < m) (h : ∀ n,0 ≤ s n ∧ s n < m) (n : Nat) : 0 ≤ shf s j n ∧ shf s j n < m := by
  unfold shf
  split
  · exact ⟨Int.le_refl _,hm⟩
  · exact h _
section
variable {m : Int} {a : Nat → Int} {step : Nat}
theorem shf_scn : shf (scn m a step) step = scY m a step := by
  funext n
  unfold shf
  by_cases h : n < step
  · rw [if_pos h,scY_zero h]
  · rw [if_neg h]
    unfold scn
    rw [show n - step + step = n by omega]
theorem scn_first (hs : 0 < step) (hl : ∀ n,0 ≤ a n ∧ a n < m) {i : Nat} (hi : i < step) : scn m a step i = a i := by
  rw [scn_eq hs,scY_zero hi,Int.zero_add,Int.emod_eq_of_lt (hl _).1 (hl _).2]
theorem scn_back (hs : 0 < step) (hl : ∀ n,0 ≤ a n ∧ a n < m) (n : Nat) : (scn m a step (n + step) - scn m a step n) % m = a (n + step) := by
  rw [scn_eq hs (n + step),show scY m a step (n + step) = scn m a step n from rfl,Int.sub_emod,Int.emod_emod,← Int.sub_emod,show scn m a step n + a (n + step) - scn m a step n = a (n + step) by omega,Int.emod_eq_of_lt (hl _).1 (hl _).2]
theorem scn_off (hm : 2 ≤ m) (hs : 0 < step) (hl : ∀ n,0 ≤ a n ∧ a n < m) (n : Nat) : (scn m a step n + (nrm (-1) m * scY m a step n).tmod m).tmod m = a n := by
  have h1 := scn_lim (a := a) (step := step) (show (0 : Int) < m by omega) n
  have h2 := scY_lim (a := a) (step := step) (show (0 : Int) < m by omega) n
  have e1 : nrm (-1) m = m - 1 := by
    rw [nrm_mod _ (by omega),show (-1 : Int) = (m - 1) + m * (-1) by omega,Int.add_mul_emod_self_left,Int.emod_eq_of_lt (by omega) (by omega)]
  have h3 : 0 ≤ nrm (-1) m * scY m a step n := Int.mul_nonneg (by omega) h2.1
  rw [Int.tmod_eq_emod_of_nonneg h3]
  have h4 := Int.emod_nonneg (nrm (-1) m * scY m a step n) (show m ≠ 0 by omega)
  rw [Int.tmod_eq_emod_of_nonneg (by omega),scn_eq hs,← Int.add_emod,e1,Int.sub_mul,Int.one_mul]
  rw [show scY m a step n + a n + (m * scY m a step n - scY m a step n) = a n + m * scY m a step n by omega,Int.add_mul_emod_self_left,Int.emod_eq_of_lt (hl _).1 (hl _).2]
end
theorem Per.map {s : Nat → Int} {N d : Nat} (h : Per s N d) (f : Int → Int) : Per (fun n => f (s n)) N d := ⟨h.pos,fun n hn => by
  show f (s (n + d)) = f (s n)
  rw [h.per n hn]⟩
end Go.Proofs.Ytdaljohmfnfgiaa
namespace Go.Proofs.Ytdaljohmfnfgiaa
open Go Go.RowKit Go.Proofs.Ytdaljohmfnfgiaa.Canon
set_option maxRecDepth 20000
theorem scd_off (hcons : ConsOK) {A B : AHeap} (hA : Nx A.next A B) {bA bY : Nat} {x y : Las} (hX : Hs B bA x) (hY : Hs B bY y) (hxe : x.err = 0) (hye : y.err = 0) (hym : y.m = x.m) {step : Nat} (hs : 1 ≤ step ∧ step ≤ 8) (hys : y.s = scn x.m x.s step)
    {s : Slots} (hn : s.n = 138) (s9 : sget s 9 = .pointer (some ⟨bA,0,none⟩)) (s10 : sget s 10 = .int .i64 (step : Int)) (s11 : sget s 11 = .pointer (some ⟨bY,0,none⟩)) :
    Rn Try.prog 12 none [.code (restN 11 (Try.f12.body.getD .skip))] s [] B (endQ Try.prog Try.f12 (fun w A1 => w = .bool true ∧ Nx A.next A A1)) := by
  obtain ⟨⟨xm1,xm2⟩,xl⟩ := err_lim hxe
  obtain ⟨x1,x2,x3⟩ := err_len hxe
  obtain ⟨y1,y2,y3⟩ := err_len hye
  obtain ⟨mn,hmn⟩ : ∃ k : Nat,x.m = (k : Int) := ⟨x.m.toNat,by omega⟩
  have nB := hA.next
  have d0 := hY.c0
  have d1 := hY.c1
  have d2 := hY.c2
  obtain ⟨C,q0,hC,nC,lC⟩ := put24L hA.wf (v0 := .int .i64 y.m) (v1 := .slice y.sa y.st.length y.sc) (v2 := .slice y.ra y.ro.length y.rc) rfl
  have hYC := hY.nx hC
  have hz0 : Hs C B.next y := { c0 := by rw [zBM lC rfl]; rfl,c1 := by rw [zBM lC rfl]; rfl,c2 := by rw [zBM lC rfl]; rfl,ok := hYC.ok,lt := by omega }
  refine Rn.seq hc ?_
  refine Rn.reg hc rfl ?_
  simp only [zAY,zAU,zAT,sp_n,zAN,Nat.reduceLT,ne_eq,Nat.reduceEqDiff,zNf,gd,zAX,rops,fx,ld,str,zAR,cls,Nat.zero_add,zOi,zEl,Value.cells,Nat.reduceAdd,tk24,hn,s11,d0,d1,d2,ze24,q0,List.size_toArray,List.length_cons,List.length_nil,Nat.beq_refl]
  (repeat (first | refine Rn.seq hc ?_ | refine Rn.skip hc ?_ | refine Rn.block hc ?_ | refine Rn.inBlock hc ?_ | refine Rn.scope hc ?_ | refine Rn.inScope hc ?_))
  refine Rn.reg hc rfl ?_
  simp only [zAY,zAS,zAT,ne_eq,Nat.reduceEqDiff,zNf,gd,zAX,rops,fx,zOi,zEl,s10]
  (repeat (first | refine Rn.seq hc ?_ | refine Rn.skip hc ?_ | refine Rn.block hc ?_ | refine Rn.inBlock hc ?_ | refine Rn.scope hc ?_ | refine Rn.inScope hc ?_))
  refine Rn.loopI hc (I := fun k s D => ∃ (j : Nat) (z : Las) (cz : Array Value),j ≤ step ∧ k = step - j ∧ Nx B.next B D ∧ Canon.look D.objs B.next = some ⟨.cells cz 24,false,0⟩ ∧ cz.size = 3 ∧ Hs D B.next z ∧ z.m = x.m ∧ z.err = 0 ∧ z.s = shf y.s j ∧ s.n = 138 ∧ sget s 9 = .pointer (some ⟨bA,0,none⟩) ∧ sget s 11 = .pointer (some ⟨bY,0,none⟩) ∧ sget s 15 = .pointer (some ⟨B.next,0,none⟩) ∧ sget s 88 = .int .i64 (step : Int) ∧ sget s 89 = .int .i64 (j : Int))
    (n := step) ⟨0,y,_,by omega,rfl,hC,lC,rfl,hz0,hym,hye,(shf_zero _).symm,by simp only [sp_n,hn],by simp only [zAT,ne_eq,Nat.reduceEqDiff,zNf,s9],by simp only [zAT,ne_eq,Nat.reduceEqDiff,zNf,s11],by simp only [zAU,zAT,sp_n,Nat.reduceLT,ne_eq,Nat.reduceEqDiff,zNf,hn],by simp only [zAU,zAT,sp_n,Nat.reduceLT,ne_eq,Nat.reduceEqDiff,zNf,hn],by simp only [zAU,sp_n,Nat.reduceLT,hn]; rfl⟩ ?_
  clear hn s9 s10 s11 s
  rintro k s D ⟨j,z,cz,hj,rfl,hD,lz,hcz,hz,hzm,hze,hzs,hn,s9,s11,s15,s88,s89⟩ ih
  have nD := hD.next
  have z0 := hz.c0
  have z1 := hz.c1
  have z2 := hz.c2
  obtain ⟨w1,w2,w3⟩ := err_len hze
  (repeat (first | refine Rn.seq hc ?_ | refine Rn.skip hc ?_ | refine Rn.block hc ?_ | refine Rn.inBlock hc ?_ | refine Rn.scope hc ?_ | refine Rn.inScope hc ?_))
  by_cases hlt : j < step
  · have hd : decide ((j : Int) < (step : Int)) = true := decide_eq_true (by omega)
    have hcn := hcons D hD.wf z.m 0 z.sa z.ra z.sc z.rc z.st z.ro hz.ok.1 hz.ok.2.1 hz.ok.2.2.1 hz.ok.2.2.2
    have he0 : erC z.m z.st z.ro 0 = 0 := by
      unfold erC
      rw [if_pos (show errL z.m z.st z.ro = 0 from hze),if_neg (by omega)]
    rw [he0] at hcn
    refine Rn.reg hc rfl ?_
    simp only [zAY,gd,zAX,rops,fx,zAP,zOi,zEl,s88,s89,hd]
    (repeat (first | refine Rn.seq hc ?_ | refine Rn.skip hc ?_ | refine Rn.block hc ?_ | refine Rn.inBlock hc ?_ | refine Rn.scope hc ?_ | refine Rn.inScope hc ?_))
    refine Rn.zAI hc rfl ?_
    simp only [zAY,zAU,Nat.reduceLT,Value.bool.injEq,zEl,hn]
    (repeat (first | refine Rn.seq hc ?_ | refine Rn.skip hc ?_ | refine Rn.block hc ?_ | refine Rn.inBlock hc ?_ | refine Rn.scope hc ?_ | refine Rn.inScope hc ?_))
    refine Rn.region hc fun K hK => ?_
    refine Wo.run hc 1 rfl rfl rfl ?_
    simp (maxSteps := 2000000) only [List.drop_zero,List.take_succ_cons,List.take_zero,zAY,zAT,ne_eq,Nat.reduceEqDiff,not_false_eq_true,gd,zAX,rops,fx,ld,zAR,cls,Nat.zero_add,Option.some.injEq,exists_eq_left',Nat.reduceAdd,tk24,s15,z0,z1,z2]
    refine Wo.call hc (by rfl) (by rfl) ⟨by rfl,by rfl⟩ (xs := [.int .i64 0,z.v]) (by rfl) (by rfl) (by simp only [zAY,zAS,zAU,sp_n,Nat.reduceLT,List.map_cons,List.map_nil,List.nil_append,List.append_nil,hn]; rfl) (Con.mono hcn ?_)
    rintro w D1 ⟨hx1,mm,L1,L2,ee,p1,c1,p2,c2,hTP,rfl,i1,i2,-⟩
    obtain ⟨D2,p3,hx2,hn2,f0,f1,f2⟩ := put24 hx1.wf (v0 := .int .i64 mm) (v1 := .slice p1 L1.length c1) (v2 := .slice p2 L2.length c2) rfl
    refine Wo.run hc 6 rfl rfl rfl ?_
    simp (maxSteps := 2000000) only [List.drop_zero,List.drop_succ_cons,List.take_succ_cons,List.take_zero,zAY,zAU,zAT,sp_n,zAN,Nat.reduceLT,ne_eq,Nat.reduceEqDiff,not_false_eq_true,gd,zAX,rops,fx,str,ext,zAR,List.getElem?_toArray,List.getElem?_cons_zero,List.getElem?_cons_succ,Nat.zero_add,Option.some.injEq,exists_eq_left',Value.cells,Nat.reduceAdd,tk24,hn,ext,ze24,p3,List.size_toArray,List.length_cons,List.length_nil,Nat.beq_refl]
    refine Wo.done hc rfl (hK _ _ ?_)
    clear hK
    (repeat (first | refine Rn.seq hc ?_ | refine Rn.skip hc ?_ | refine Rn.block hc ?_ | refine Rn.inBlock hc ?_ | refine Rn.scope hc ?_ | refine Rn.inScope hc ?_))
    have n1 := hx1.next
    have hD2 : Nx D.next D D2 := hx1.trans (hx2.le n1)
    have hB2 : Nx B.next B D2 := hD.trans (hD2.le nD)
    have hfs : atL (0 :: z.st) z.ro = shf y.s (j + 1) := shf_succ hzs
    rw [hfs,hzm,hmn] at hTP
    have hlm : ∀ n,0 ≤ shf y.s (j + 1) n ∧ shf y.s (j + 1) n < (mn : Int) := shf_lim (by omega) fun n => by rw [hys,← hmn]; exact scn_lim (by omega) n
    rcases tp_go hTP (by omega) hlm with h11 | ⟨h0,rfl,herr,hat⟩
    · have hd0 : (!decide (ee = 0)) = true := by rw [decide_eq_false (by omega)]; rfl
      have hd1 : decide (ee = 11) = true := decide_eq_true h11
      refine Rn.reg hc rfl ?_
      simp only [zAY,zAS,zAU,sp_n,Nat.reduceLT,gd,zAX,rops,fx,zBP,zOi,zEl,hn,hd0]
      (repeat (first | refine Rn.seq hc ?_ | refine Rn.skip hc ?_ | refine Rn.block hc ?_ | refine Rn.inBlock hc ?_ | refine Rn.scope hc ?_ | refine Rn.inScope hc ?_))
      refine Rn.zAI hc rfl ?_
      simp only [zAY,zAU,sp_n,Nat.reduceLT,Value.bool.injEq,zEl,hn]
      (repeat (first | refine Rn.seq hc ?_ | refine Rn.skip hc ?_ | refine Rn.block hc ?_ | refine Rn.inBlock hc ?_ | refine Rn.scope hc ?_ | refine Rn.inScope hc ?_))
      refine Rn.region hc fun K hK => ?_
      refine Wo.run hc 3 rfl rfl rfl ?_
      simp (maxSteps := 2000000) only [List.drop_zero,List.take_succ_cons,List.take_zero,zAY,zAS,zAU,zAT,sp_n,Nat.reduceLT,ne_eq,Nat.reduceEqDiff,not_false_eq_true,gd,zAX,rops,fx,zCF,Nat.zero_add,Option.some.injEq,exists_eq_left',hn,hd1]
      refine Wo.call hc (by rfl) (by rfl) ⟨by rfl,by rfl⟩ (xs := []) (by simp only [zAU,sp_n,Nat.reduceLT,gd,nth,zAG,beqB,hn]) (by rfl) (by rfl) (Con.mono (awake_con D2) ?_)
      rintro w D3 ⟨rfl,rfl⟩
      refine Wo.run hc 2 rfl rfl rfl ?_
      simp (maxSteps := 2000000) only [List.drop_zero,List.drop_succ_cons,List.take_succ_cons,List.take_zero,zAY,zAU,zAT,sp_n,Nat.reduceLT,ne_eq,Nat.reduceEqDiff,not_false_eq_true,gd,zAX,rops,fx,pck,Option.some.injEq,exists_eq_left',Nat.reduceAdd,hn]
      refine Wo.done hc rfl (hK _ _ ?_)
      clear hK
      (repeat (first | refine Rn.seq hc ?_ | refine Rn.skip hc ?_ | refine Rn.block hc ?_ | refine Rn.inBlock hc ?_ | refine Rn.scope hc ?_ | refine Rn.inScope hc ?_))
      refine Rn.ret (zAJ rfl ⟨?_,hA.trans (hB2.le nB)⟩)
      simp only [zAU,sp_n,Nat.reduceLT,hn]
    · have hd0 : (!decide (ee = 0)) = false := by rw [decide_eq_true h0]; rfl
      have lz2 : Canon.look D2.objs B.next = some ⟨.cells cz 24,false,0⟩ := by rw [hD2.keep _ hz.lt,lz]
      obtain ⟨D3,c3,r1,r2,r3,r4⟩ := sts_upd (l := [.int .i64 (mn : Int),.slice p1 L1.length c1,.slice p2 L2.length c2]) (o := 0) lz2 rfl (by simp [hcz]) rfl
      have n3 := r2.next
      have nz := hz.lt
      have hx3 := r2.nx hB2.wf (Nat.le_refl _)
      have hB3 : Nx B.next B D3 := hB2.trans hx3
      have hext : ∀ b,D.next ≤ b → Canon.look D1.objs b = none ∨ Canon.look D3.objs b = Canon.look D1.objs b := fun b hb => by
        rw [r2.off _ (by omega)]
        by_cases hlt : b < D1.next
        · exact .inr (hx2.keep _ hlt)
        · exact .inl (hx1.wf.none (by omega))
      have i1' := i1.ext hext (hi' := D3.next) (by omega)
      have i2' := i2.ext hext (hi' := D3.next) (by omega)
      obtain ⟨_,_,f,g,e,lz3,lz4,-⟩ := r2.at'
      rw [lz2] at lz3
      cases lz3
      refine Rn.reg hc rfl ?_
      simp only [zAY,zAS,zAU,sp_n,Nat.reduceLT,gd,zAX,rops,fx,zBP,zOi,zEl,hn,hd0]
      (repeat (first | refine Rn.seq hc ?_ | refine Rn.skip hc ?_ | refine Rn.block hc ?_ | refine Rn.inBlock hc ?_ | refine Rn.scope hc ?_ | refine Rn.inScope hc ?_))
      refine Rn.zAI hc rfl ?_
      simp only [zAY,zAU,sp_n,Nat.reduceLT,Value.bool.injEq,zEl,hn]
      (repeat (first | refine Rn.seq hc ?_ | refine Rn.skip hc ?_ | refine Rn.block hc ?_ | refine Rn.inBlock hc ?_ | refine Rn.scope hc ?_ | refine Rn.inScope hc ?_))
      refine Rn.reg hc rfl ?_
      simp only [zAY,zAU,zAT,sp_n,zAN,Nat.reduceLT,ne_eq,Nat.reduceEqDiff,zNf,gd,zAX,rops,fx,ld,str,zAR,cls,Nat.zero_add,zOi,zEl,Nat.reduceAdd,tk24,hn,s15,f0,f1,f2,r1,List.size_toArray,List.length_cons,List.length_nil,Nat.beq_refl]
      (repeat (first | refine Rn.seq hc ?_ | refine Rn.skip hc ?_ | refine Rn.block hc ?_ | refine Rn.inBlock hc ?_ | refine Rn.scope hc ?_ | refine Rn.inScope hc ?_))
      refine Rn.reg hc rfl ?_
      simp only [zAY,zAS,zAU,zAT,sp_n,Nat.reduceLT,ne_eq,Nat.reduceEqDiff,zNf,gd,zAX,rops,fx,zAE,zOi,zEl,hn,s89,zBY (show j < 9223372036854775807 by omega)]
      (repeat (first | refine Rn.seq hc ?_ | refine Rn.skip hc ?_ | refine Rn.block hc ?_ | refine Rn.inBlock hc ?_ | refine Rn.scope hc ?_ | refine Rn.inScope hc ?_))
      obtain ⟨e1,e2⟩ := errL_len herr
      refine ih _ _ _ (by omega) ⟨j + 1,⟨(mn : Int),p1,c1,L1,p2,c2,L2⟩,c3,by omega,rfl,hB3,lz4,by rw [r3,hcz],
        { c0 := by rw [r2.cl,r4]; rfl,c1 := by rw [r2.cl,r4]; rfl,c2 := by rw [r2.cl,r4]; rfl,ok := ⟨i1'.mono (Nat.zero_le _) (Nat.le_refl _),i2'.mono (Nat.zero_le _) (Nat.le_refl _),show L1.length < _ by omega,show L2.length < _ by omega⟩,lt := by omega },
        hmn.symm,herr,hat,by simp only [sp_n,hn],by simp only [zAT,ne_eq,Nat.reduceEqDiff,zNf,s9],by simp only [zAT,ne_eq,Nat.reduceEqDiff,zNf,s11],by simp only [zAT,ne_eq,Nat.reduceEqDiff,zNf,s15],by simp only [zAT,ne_eq,Nat.reduceEqDiff,zNf,s88],by simp only [zAU,sp_n,Nat.reduceLT,hn]⟩
  · have hd : decide ((j : Int) < (step : Int)) = false := decide_eq_false (by omega)
    have hjs : j = step := by omega
    subst hjs
    clear ih
    rw [hys,shf_scn] at hzs
    refine Rn.reg hc rfl ?_
    simp only [zAY,gd,zAX,rops,fx,zAP,zOi,zEl,s88,s89,hd]
    (repeat (first | refine Rn.seq hc ?_ | refine Rn.skip hc ?_ | refine Rn.block hc ?_ | refine Rn.inBlock hc ?_ | refine Rn.scope hc ?_ | refine Rn.inScope hc ?_))
    refine Rn.zAI hc rfl ?_
    simp only [zAY,zAU,Nat.reduceLT,Value.bool.injEq,zEl,hn]
    (repeat (first | refine Rn.seq hc ?_ | refine Rn.skip hc ?_ | refine Rn.block hc ?_ | refine Rn.inBlock hc ?_ | refine Rn.scope hc ?_ | refine Rn.inScope hc ?_))
    refine Rn.exit hc rfl ?_
    (repeat (first | refine Rn.seq hc ?_ | refine Rn.skip hc ?_ | refine Rn.block hc ?_ | refine Rn.inBlock hc ?_ | refine Rn.scope hc ?_ | refine Rn.inScope hc ?_))
    clear hd s88 s89
    refine Rn.region hc fun K hK => ?_
    refine Wo.run hc 1 rfl rfl rfl ?_
    simp (maxSteps := 2000000) only [List.drop_zero,List.take_succ_cons,List.take_zero,zAY,zAT,ne_eq,Nat.reduceEqDiff,not_false_eq_true,gd,zAX,rops,fx,ld,zAR,cls,Nat.zero_add,Option.some.injEq,exists_eq_left',Nat.reduceAdd,tk24,s15,z0,z1,z2]
    refine Wo.call hc (by rfl) (by rfl) ⟨by rfl,by rfl⟩ (xs := [z.v,.int .i64 (-1)]) (by rfl) (by rfl) (by simp only [zAY,zAS,zAU,sp_n,Nat.reduceLT,List.map_cons,List.map_nil,List.nil_append,List.append_nil,hn]; rfl) (Con.mono (scale_run hD.wf hz.ok (k := -1)) ?_)
    rintro w D1 ⟨hx1,mm,L1,L2,ee,p1,c1,p2,c2,hTP,rfl,i1,i2,-⟩
    rw [hze,hzm] at hTP
    obtain ⟨a1,b1,hr1,ha1,hb1,rfl,eL1,eL2,rfl⟩ := tp_ok hTP ((atL_per w3).map fun v => (nrm (-1) x.m * v).tmod x.m) (by omega) (by omega)
    obtain ⟨D2,p3,hx2,hn2,f0,f1,f2⟩ := put24 hx1.wf (v0 := .int .i64 x.m) (v1 := .slice p1 L1.length c1) (v2 := .slice p2 L2.length c2) rfl
    refine Wo.run hc 6 rfl rfl rfl ?_
    simp (maxSteps := 2000000) only [List.drop_zero,List.drop_succ_cons,List.take_succ_cons,List.take_zero,zAY,zAU,zAT,sp_n,zAN,Nat.reduceLT,ne_eq,Nat.reduceEqDiff,not_false_eq_true,gd,zAX,rops,fx,str,ext,zAR,List.getElem?_toArray,List.getElem?_cons_zero,List.getElem?_cons_succ,Nat.zero_add,Option.some.injEq,exists_eq_left',Value.cells,Nat.reduceAdd,tk24,hn,ext,ze24,p3,List.size_toArray,List.length_cons,List.length_nil,Nat.beq_refl]
    refine Wo.done hc rfl (hK _ _ ?_)
    clear hK
    (repeat (first | refine Rn.seq hc ?_ | refine Rn.skip hc ?_ | refine Rn.block hc ?_ | refine Rn.inBlock hc ?_ | refine Rn.scope hc ?_ | refine Rn.inScope hc ?_))
    have n1 := hx1.next
    have hD2 : Nx D.next D D2 := hx1.trans (hx2.le n1)
    have hB2 : Nx B.next B D2 := hD.trans (hD2.le nD)
    have len1 : L1.length = a1 := by rw [eL1,zBV]
    have len2 : L2.length = b1 := by rw [eL2,zBI]
    have hp1 := hr1.per.pos
    have hzl : ∀ n,0 ≤ (nrm (-1) x.m * z.s n).tmod x.m ∧ (nrm (-1) x.m * z.s n).tmod x.m < x.m := fun n => by
      have h1 := (scY_lim (a := x.s) (step := j) (show (0 : Int) < x.m by omega) n).1
      have h2 : 0 ≤ nrm (-1) x.m := by rw [nrm_mod _ (by omega)]; exact Int.emod_nonneg _ (by omega)
      have h3 : 0 ≤ nrm (-1) x.m * z.s n := by rw [hzs]; exact Int.mul_nonneg h2 h1
      rw [Int.tmod_eq_emod_of_nonneg h3]
      exact ⟨Int.emod_nonneg _ (by omega),Int.emod_lt_of_pos _ (by omega)⟩
    have herr1 : errL x.m L1 L2 = 0 := by
      rw [eL1,eL2,hmn]
      exact errL_red (by omega) (fun n => by rw [← hmn]; exact hzl n) (by omega) (by omega)
    have hat1 : atL L1 L2 = fun n => (nrm (-1) x.m * z.s n).tmod x.m := by rw [eL1,eL2]; exact atL_redF hr1.per
    have hO : Hs D2 D1.next ⟨x.m,p1,c1,L1,p2,c2,L2⟩ := { c0 := f0,c1 := f1,c2 := f2,ok := ⟨(i1.nx hx2 (Nat.le_refl _)).mono (Nat.zero_le _) hx2.next,(i2.nx hx2 (Nat.le_refl _)).mono (Nat.zero_le _) hx2.next,show L1.length < _ by omega,show L2.length < _ by omega⟩,lt := by omega }
    obtain ⟨o,ho⟩ : ∃ o : Las,o = ⟨x.m,p1,c1,L1,p2,c2,L2⟩ := ⟨_,rfl⟩
    rw [← ho] at hO
    have hom : o.m = x.m := by rw [ho]
    have hoe : o.err = 0 := by rw [ho]; exact herr1
    have hos : o.s = fun n => (nrm (-1) x.m * z.s n).tmod x.m := by rw [ho]; exact hat1
    refine Rn.slots (I := fun s => s.n = 138 ∧ sget s 9 = .pointer (some ⟨bA,0,none⟩) ∧ sget s 11 = .pointer (some ⟨bY,0,none⟩) ∧ sget s 18 = .pointer (some ⟨D1.next,0,none⟩) ∧ sget s 19 = .int .i64 0)
      ⟨by simp only [sp_n,hn],by simp only [zAT,ne_eq,Nat.reduceEqDiff,zNf,s9],by simp only [zAT,ne_eq,Nat.reduceEqDiff,zNf,s11],by simp only [zAU,zAT,sp_n,Nat.reduceLT,ne_eq,Nat.reduceEqDiff,zNf,hn],by simp only [zAU,sp_n,Nat.reduceLT,hn]⟩ ?_
    clear hn s9 s11 s15 s
    rintro s ⟨hn,s9,s11,s18,s19⟩
    have hY2 := hY.nx hB2
    have d0 := hY2.c0
    have d1 := hY2.c1
    have d2 := hY2.c2
    have g0 := hO.c0
    have g1 := hO.c1
    have g2 := hO.c2
    refine Rn.region hc fun K hK => ?_
    refine Wo.run hc 2 rfl rfl rfl ?_
    simp (maxSteps := 2000000) only [List.drop_zero,List.take_succ_cons,List.take_zero,zAY,zAT,ne_eq,Nat.reduceEqDiff,not_false_eq_true,gd,zAX,rops,fx,ld,zAR,cls,Nat.zero_add,Option.some.injEq,exists_eq_left',Nat.reduceAdd,tk24,s11,s18,d0,d1,d2,g0,g1,g2]
    refine Wo.call hc (by rfl) (by rfl) ⟨by rfl,by rfl⟩ (xs := [y.v,o.v]) (by rfl) (by rfl) (by simp only [zAY,zAU,zAT,sp_n,Nat.reduceLT,ne_eq,Nat.reduceEqDiff,zNf,List.map_cons,List.map_nil,List.nil_append,List.append_nil,hn]; rfl) (Con.mono (sum_run hB2.wf hY2.ok hO.ok) ?_)
    rintro w E1 ⟨hy1,mm,M1,M2,ee,t1,v1,t2,v2,hTP',rfl,j1,j2,-⟩
    have her2 : errs [y,o] [y,o] = 0 := by rw [errs_two,if_neg (by simp [hye]),if_neg (by simp [hoe]),if_pos (by rw [hym,hom])]
    have hsum : (fun n => (y.s n + o.s n).tmod y.m) = x.s := by
      funext n
      rw [hys,hos,hzs,hym]
      exact scn_off (by omega) (by omega) xl n
    rw [her2,hsum,hym] at hTP'
    obtain ⟨a2,b2,hr2,ha2,hb2,rfl,eM1,eM2,rfl⟩ := tp_ok hTP' (atL_per x3) (by omega) (by omega)
    obtain ⟨E2,p4,hy2,hm2,h0,h1,h2⟩ := put24 hy1.wf (v0 := .int .i64 x.m) (v1 := .slice t1 M1.length v1) (v2 := .slice t2 M2.length v2) rfl
    refine Wo.run hc 6 rfl rfl rfl ?_
    simp (maxSteps := 2000000) only [List.drop_zero,List.drop_succ_cons,List.take_succ_cons,List.take_zero,zAY,zAU,zAT,sp_n,zAN,Nat.reduceLT,ne_eq,Nat.reduceEqDiff,not_false_eq_true,gd,zAX,rops,fx,str,ext,zAR,List.getElem?_toArray,List.getElem?_cons_zero,List.getElem?_cons_succ,Nat.zero_add,Option.some.injEq,exists_eq_left',Value.cells,Nat.reduceAdd,tk24,hn,ext,ze24,p4,List.size_toArray,List.length_cons,List.length_nil,Nat.beq_refl]
    refine Wo.done hc rfl (hK _ _ ?_)
    clear hK
    (repeat (first | refine Rn.seq hc ?_ | refine Rn.skip hc ?_ | refine Rn.block hc ?_ | refine Rn.inBlock hc ?_ | refine Rn.scope hc ?_ | refine Rn.inScope hc ?_))
    have m1 := hy1.next
    have hE2 : Nx D2.next D2 E2 := hy1.trans (hy2.le m1)
    have hBE : Nx B.next B E2 := hB2.trans (hE2.le hB2.next)
    have hx3 := hX.nx hBE
    have lM1 : M1.length = a2 := by rw [eM1,zBV]
    have lM2 : M2.length = b2 := by rw [eM2,zBI]
    have hp2 := hr2.per.pos
    have okM : (⟨x.m,t1,v1,M1,t2,v2,M2⟩ : Las).ok E2 := ⟨(j1.nx hy2 (Nat.le_refl _)).mono (Nat.zero_le _) hy2.next,(j2.nx hy2 (Nat.le_refl _)).mono (Nat.zero_le _) hy2.next,show M1.length < _ by omega,show M2.length < _ by omega⟩
    have herrM : errL x.m M1 M2 = 0 := by
      rw [eM1,eM2,hmn]
      exact errL_red (by omega) (fun n => by rw [← hmn]; exact xl n) (by omega) (by omega)
    have e0 := hx3.c0
    have e1 := hx3.c1
    have e2 := hx3.c2
    refine Rn.region hc fun K hK => ?_
    refine Wo.run hc 2 rfl rfl rfl ?_
    simp (maxSteps := 2000000) only [List.drop_zero,List.take_succ_cons,List.take_zero,zAY,zAU,zAT,sp_n,Nat.reduceLT,ne_eq,Nat.reduceEqDiff,not_false_eq_true,gd,zAX,rops,fx,ld,zAR,cls,Nat.zero_add,Option.some.injEq,exists_eq_left',Nat.reduceAdd,tk24,hn,s9,h0,h1,h2,e0,e1,e2]
    refine Wo.call hc (by rfl) (by rfl) ⟨by rfl,by rfl⟩ (xs := [x.v,(⟨x.m,t1,v1,M1,t2,v2,M2⟩ : Las).v]) (by rfl) (by rfl) (by simp only [zAY,zAU,zAT,sp_n,Nat.reduceLT,ne_eq,Nat.reduceEqDiff,zNf,List.map_cons,List.map_nil,List.nil_append,List.append_nil,hn]; rfl) (Con.mono (same_run hE2.wf hx3.ok okM) ?_)
    rintro w E3 ⟨hy3,hq,-⟩
    obtain ⟨bb,rfl,hbb⟩ := hq (by
      rw [errs_two]
      unfold Las.err
      rw [if_neg (by simp; exact hxe),if_neg (by simp [herrM]),if_pos rfl])
    have hbt : bb = true := hbb.2 fun n => by
      unfold Las.s
      rw [eM1,eM2,atL_redF hr2.per]
      rfl
    subst hbt
    refine Wo.run hc 5 rfl rfl rfl ?_
    simp (maxSteps := 2000000) only [List.drop_zero,List.drop_succ_cons,List.take_succ_cons,List.take_zero,zAY,zAU,zAT,sp_n,Nat.reduceLT,ne_eq,Nat.reduceEqDiff,not_false_eq_true,gd,zAX,rops,fx,ext,List.getElem?_toArray,List.getElem?_cons_zero,List.getElem?_cons_succ,Option.some.injEq,exists_eq_left',Nat.reduceAdd,hn,ext]
    refine Wo.done hc rfl (hK _ _ ?_)
    clear hK
    (repeat (first | refine Rn.seq hc ?_ | refine Rn.skip hc ?_ | refine Rn.block hc ?_ | refine Rn.inBlock hc ?_ | refine Rn.scope hc ?_ | refine Rn.inScope hc ?_))
    refine Rn.region hc fun K hK => ?_
    refine Wo.run hc 14 rfl rfl rfl ?_
    simp (maxSteps := 2000000) only [List.drop_zero,List.take_succ_cons,List.take_zero,zAY,zAS,zAU,zAT,sp_n,Nat.reduceLT,ne_eq,Nat.reduceEqDiff,not_false_eq_true,gd,nth,zAX,zAG,beqB,rops,fx,pck,zCF,Nat.zero_add,Option.some.injEq,exists_eq_left',hn,s19,eq_self,decide_true]
    refine Wo.call hc (by rfl) (by rfl) ⟨by rfl,by rfl⟩ (xs := []) (by simp only [zAU,sp_n,Nat.reduceLT,gd,nth,zAG,beqB,hn]) (by rfl) (by rfl) (Con.mono (awake_con E3) ?_)
    rintro w E4 ⟨rfl,rfl⟩
    refine Wo.run hc 2 rfl rfl rfl ?_
    simp (maxSteps := 2000000) only [List.drop_zero,List.drop_succ_cons,List.take_succ_cons,List.take_zero,zAY,zAU,zAT,sp_n,Nat.reduceLT,ne_eq,Nat.reduceEqDiff,not_false_eq_true,gd,zAX,rops,fx,pck,Option.some.injEq,exists_eq_left',Nat.reduceAdd,hn]
    refine Wo.done hc rfl (hK _ _ ?_)
    clear hK
    (repeat (first | refine Rn.seq hc ?_ | refine Rn.skip hc ?_ | refine Rn.block hc ?_ | refine Rn.inBlock hc ?_ | refine Rn.scope hc ?_ | refine Rn.inScope hc ?_))
    refine Rn.ret (zAJ rfl ⟨?_,hA.trans ((hBE.trans (hy3.le hBE.next)).le nB)⟩)
    simp only [zAU,sp_n,Nat.reduceLT,hn]
end Go.Proofs.Ytdaljohmfnfgiaa
namespace Go.Proofs.Ytdaljohmfnfgiaa
open Go Go.RowKit Go.Proofs.Ytdaljohmfnfgiaa.Canon
set_option maxRecDepth 20000
theorem un64w : Try.prog.underlying 64 = some (.int .u16) := by kernel_rfl
theorem cv643 {n : Nat} (hn : n < 65536) {A : AHeap} : zCR Try.prog 64 3 (.int .u16 (n : Int)) A = some (.int .i64 (n : Int),A) := by
  rw [cv_int un64w un3,IntWalk.i64_in _ (by omega)]
end Go.Proofs.Ytdaljohmfnfgiaa

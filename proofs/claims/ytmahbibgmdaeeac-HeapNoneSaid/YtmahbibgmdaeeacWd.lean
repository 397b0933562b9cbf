/- HeapNone is true, whatever is done, and whether a heap is made. Its arguments are what a call may have. -/
import Derived.Test.YtmahbibgmdaeeacWc
import Derived.Deep.SlicePairs
namespace Go.Proofs.Ytmahbibgmdaeeac
open Go.ChangeShapes Go.WideShapes Go.ChangeAt Go.RowKit Go.Proofs.Ytmahbibgmdaeeac.Canon

/-- A slice that came in, and how it is reckoned with, under a name of its own. -/
structure Came (φ0 : Phi) (r s : Value) (a : Option Addr) (n c : Nat) (ra : Option Addr) : Prop where
  seen : s = .slice a n c
  reck : r = .slice ra n c
  rel : V φ0 r s
  only : ∀ φ v, φ0.le φ → V φ r v → v = s

def entOf : Option Addr → Option Ent
  | some ⟨B, O, _⟩ => some ⟨B, O, 0, false, 0⟩
  | none => none
noncomputable def phi (ka na : Option Addr) : Phi := fun b => if b = 0 then entOf ka else if b = 1 then entOf na else none
def nameOf (k : Nat) : Option Addr → Option Addr
  | some _ => some ⟨k, 0, none⟩
  | none => none

theorem came {φ0 : Phi} {k : Nat} {a : Option Addr} {n c : Nat} (hφ : φ0 k = entOf a) (hs : ∀ x, a = some x → x.spot = none) : Came φ0 (.slice (nameOf k a) n c) (.slice a n c) a n c (nameOf k a) := by
  cases a with
  | none =>
    refine ⟨rfl, rfl, .sliceNil _ _, fun φ v _ hv => ?_⟩
    cases hv
    rfl
  | some x =>
    obtain ⟨B, O, sp⟩ := x
    have := hs _ rfl
    simp only at this
    subst this
    refine ⟨rfl, rfl, ?_, fun φ v hle hv => ?_⟩
    · have h := V.slice (o := 0) (n := n) (c := c) (c' := c) hφ (by unfold CapR; rw [if_neg (by simp)])
      exact h
    · have hk : φ k = some ⟨B, O, 0, false, 0⟩ := hle _ _ hφ
      have hv : V φ (.slice (some ⟨k, 0, none⟩) n c) v := hv
      cases hv
      rename_i e c' h1 h2
      rw [hk] at h1
      cases h1
      unfold CapR at h2
      rw [if_neg (by simp)] at h2
      rw [h2]
      rfl

theorem any_int {φ : Phi} {k : IntKind} {n : Int} {v : Value} (i : Nat) (h : V φ (.int k n) v) : V φ (.iface i .nilIface) v := by
  cases h; exact .any _ rfl (by simp)
theorem any_str {φ : Phi} {s : ByteArray} {v : Value} (i : Nat) (h : V φ (.string s) v) : V φ (.iface i .nilIface) v := by
  cases h; exact .any _ rfl (by simp)
theorem any_slice {φ : Phi} {a : Option Addr} {n c : Nat} {v : Value} (i : Nat) (h : V φ (.slice a n c) v) : V φ (.iface i .nilIface) v := by
  cases h <;> exact .any _ rfl (by simp)

theorem cells_any (kind : Int) (nm : ByteArray) (ka : Option Addr) (kn kc : Nat) (x y z : Int) (na : Option Addr) (nn nc : Nat) (root : Int) (φ : Phi) (i : Nat) (u v : Value)
    (hu : (cellsOf kind nm (.slice ka kn kc) x y z (.slice na nn nc) root)[i]? = some u) (hv : toks[i]? = some v) (v' : Value) (h : V φ u v') : V φ v v' := by
  unfold cellsOf at hu
  unfold toks at hv
  match i with
  | 0 => simp at hu hv; subst hu hv; exact any_int _ h
  | 1 => simp at hu hv; subst hu hv; exact any_str _ h
  | 2 => simp at hu hv; subst hu hv; exact any_slice _ h
  | 3 => simp at hu hv; subst hu hv; exact any_int _ h
  | 4 => simp at hu hv; subst hu hv; exact any_int _ h
  | 5 => simp at hu hv; subst hu hv; exact any_int _ h
  | 6 => simp at hu hv; subst hu hv; exact any_slice _ h
  | 7 => simp at hu hv; subst hu hv; exact any_int _ h
  | n + 8 => simp at hu

theorem op_any (kind : Int) (nm : ByteArray) (ka : Option Addr) (kn kc : Nat) (x y z : Int) (na : Option Addr) (nn nc : Nat) (root : Int) (φ : Phi) (v' : Value)
    (h : V φ (theOp kind nm (.slice ka kn kc) x y z (.slice na nn nc) root) v') : V φ (.agg toks) v' := by
  unfold theOp at h
  cases h
  rename_i xs' hsz hx
  refine .agg (by rw [← hsz]; rfl) fun i h1 h2 => ?_
  have h3 : i < (cellsOf kind nm (.slice ka kn kc) x y z (.slice na nn nc) root).size := by rw [← hsz] at h2; exact h2
  exact cells_any kind nm ka kn kc x y z na nn nc root φ i _ _ (Array.getElem?_eq_getElem h3) (Array.getElem?_eq_getElem h1) _ (hx i h3 h2)

theorem op_only {φ0 : Phi} {kind : Int} {nm : ByteArray} {rk sk rn sn : Value} {x y z root : Int} (hk : ∀ φ v, φ0.le φ → V φ rk v → v = sk) (hn : ∀ φ v, φ0.le φ → V φ rn v → v = sn) (φ : Phi) (v : Value) (hle : φ0.le φ)
    (h : V φ (theOp kind nm rk x y z rn root) v) : v = theOp kind nm sk x y z sn root := by
  unfold theOp at h ⊢
  cases h
  rename_i xs' hsz hx
  obtain ⟨l⟩ := xs'
  match l, hsz with
  | [a0, a1, a2, a3, a4, a5, a6, a7], _ =>
    have e0 : V φ (.int .i64 kind) a0 := hx 0 (by simp) (by simp)
    have e1 : V φ (.string nm) a1 := hx 1 (by simp) (by simp)
    have e2 : V φ rk a2 := hx 2 (by simp) (by simp)
    have e3 : V φ (.int .i64 x) a3 := hx 3 (by simp) (by simp)
    have e4 : V φ (.int .i64 y) a4 := hx 4 (by simp) (by simp)
    have e5 : V φ (.int .i64 z) a5 := hx 5 (by simp) (by simp)
    have e6 : V φ rn a6 := hx 6 (by simp) (by simp)
    have e7 : V φ (.int .i64 root) a7 := hx 7 (by simp) (by simp)
    cases e0; cases e1; cases e3; cases e4; cases e5; cases e7
    rw [hk _ _ hle e2, hn _ _ hle e6]

theorem op_rel {φ0 : Phi} {kind : Int} {nm : ByteArray} {rk sk rn sn : Value} {x y z root : Int} (hk : V φ0 rk sk) (hn : V φ0 rn sn) : V φ0 (theOp kind nm rk x y z rn root) (theOp kind nm sk x y z sn root) := by
  unfold theOp
  refine .ofAgg ?_
  have h := (((((((AR.single (φ := φ0) (.int .i64 kind)).push (.string nm)).push hk).push (.int .i64 x)).push (.int .i64 y)).push (.int .i64 z)).push hn).push (.int .i64 root)
  exact h

theorem none_any (kind : Int) (nm : ByteArray) (ka : Option Addr) (kn kc : Nat) (x y z : Int) (na : Option Addr) (nn nc : Nat) (root : Int) (made : Bool) (w : World)
    (hka : ∀ a, ka = some a → a.spot = none) (hna : ∀ a, na = some a → a.spot = none) (hn : nn ≤ 9223372036854775807) (hN : Nodes w na nn) :
    Calls Try.prog 3 #[theOp kind nm (.slice ka kn kc) x y z (.slice na nn nc) root, .bool made] w fun e w' => e = .returned (.bool true) ∧ Below w.heap.size w w' := by
  have ck := came (φ0 := phi ka na) (k := 0) (a := ka) (n := kn) (c := kc) (by simp [phi]) hka
  have cn := came (φ0 := phi ka na) (k := 1) (a := na) (n := nn) (c := nc) (by simp [phi]) hna
  refine calls_of_ask (P := Try.prog) hc hx (X := X) (R := R) xquick_ok (qregion_ok xquick_ok) (m := 100000) (n := 1000) (g := 3) (h := 4) (fn := Try.f3) (fh := Try.f4) (t := 4) (R0 := partR0) (cond := partC) (rest := partT) (id1 := 1) (ops := ops1) (o0 := opN 0) (o1 := opN 1)
    (ch := bodyOf Try.f4) (i0 := 0) (i1 := 32) (nB := 2) (tk := .agg toks) (c := cellsOf kind nm (.slice (nameOf 0 ka) kn kc) x y z (.slice (nameOf 1 na) nn nc) root) (c2 := toks) (ty := 27)
    Try.func3 (by kernel_rfl) (by kernel_rfl) Try.func4 (by kernel_rfl) (by kernel_rfl) ⟨#[27], by kernel_rfl⟩
    (xs := #[theOp kind nm (.slice (nameOf 0 ka) kn kc) x y z (.slice (nameOf 1 na) nn nc) root, .bool made]) (o := theOp kind nm (.slice (nameOf 0 ka) kn kc) x y z (.slice (nameOf 1 na) nn nc) root)
    (o' := theOp kind nm (.slice ka kn kc) x y z (.slice na nn nc) root) (by kernel_rfl) (nx := 2) (fun b => ?_) ?_ rfl (fun φ i u v h1 h2 v' h3 => cells_any _ _ _ _ _ _ _ _ _ _ _ _ φ i u v h1 h2 v' h3) (fun φ v' h => op_any _ _ _ _ _ _ _ _ _ _ _ _ φ v' h)
    (φ0 := phi ka na) (fun b e h => ?_) ?_ (fun φ v hle h => op_only ck.only cn.only φ v hle h) (fun w' hb => ?_)
  · cases b
    · cases made
      · exact run_nil _ _ _ _ _ _ _ _ _ _ _ _
      · exact run_made _ _ _ _ _ _ _ _ _ _ _ _
    · exact run_great _ _ _ _ _ _ _ _ _ _ _ _ _
  · exact ask _ _ _ _ _ _ _ _ _ _ _ _ _
  · unfold phi at h
    split at h
    · omega
    · split at h
      · omega
      · cases h
  · exact (AR.single (op_rel ck.rel cn.rel)).push (.bool made)
  · exact big_any kind nm ka kn kc x y z na nn nc root w' hn (hN.below hb)

end Go.Proofs.Ytmahbibgmdaeeac

/- What HeapNone asks first: whether what is done is too large. Whatever it says, it says it, and changes nothing that was there. -/
import Derived.Test.YtmahbibgmdaeeacRows
import Derived.ProofKit
import Derived.Handy
import Derived.Lib.Hide
namespace Go.Proofs.Ytmahbibgmdaeeac
open Go.ChangeShapes Go.WideShapes Go.ChangeAt Go.RowKit

def SomeBool (w0 : World) (e : Ending) (w' : World) : Prop := (∃ b : Bool, e = .returned (.bool b)) ∧ Below w0.heap.size w0 w'
def SomeInt (w0 : World) (e : Ending) (w' : World) : Prop := (∃ n : Int, e = .returned (.int .i64 n)) ∧ Below w0.heap.size w0 w'

set_option maxHeartbeats 1000000 in
theorem node_any (nm : ByteArray) (ka : Option Addr) (kn kc : Nat) (w : World) :
    Calls Try.prog 52 #[.agg #[.string nm, .slice ka kn kc]] w (SomeBool w) := by
  by_cases h1 : (12 : Int) < (kn : Int)
  all_goals
    by_cases h2 : (40 : Int) < (nm.size : Int)
    all_goals
      go_enter Try.func52, Try.ntmps52
      go_wp2
      go_ret
      exact ⟨⟨_, rfl⟩, (Below.refl _ _).alloc (Nat.le_refl _) _⟩

/-- The nodes of a slice can be read. -/
def Nodes (w : World) (a : Option Addr) (n : Nat) : Prop := ∀ i, i < n → ∃ b o nm ka kn kc, a = some ⟨b, o, none⟩ ∧ b < w.heap.size ∧ w.cell? ⟨b, o + i * 2, none⟩ = some (.string nm) ∧ w.cell? ⟨b, o + i * 2 + 1, none⟩ = some (.slice ka kn kc)
theorem Nodes.below {w w' : World} (h : Below w.heap.size w w') {a : Option Addr} {n : Nat} (hn : Nodes w a n) : Nodes w' a n := by
  intro i hi
  obtain ⟨b, o, nm, ka, kn, kc, h1, h2, h3, h4⟩ := hn i hi
  exact ⟨b, o, nm, ka, kn, kc, h1, Nat.lt_of_lt_of_le h2 h.size, by rw [h.cell (p := ⟨b, _, none⟩) h2]; exact h3, by rw [h.cell (p := ⟨b, _, none⟩) h2]; exact h4⟩

def Rel (w0 : World) (n : Nat) (w1 : World) (i : Value) : Prop := ∃ k : Nat, k ≤ n ∧ i = .int .i64 k ∧ Below w0.heap.size w0 w1

set_option maxHeartbeats 2000000 in
theorem index_any (a : Option Addr) (n c : Nat) (w : World) (hn : n ≤ 9223372036854775807) (hN : Nodes w a n) :
    Calls Try.prog 70 #[.slice a n c, .func (.func 52) #[] #[]] w (SomeInt w) := by
  have HN := Lib.hid hN
  clear hN
  go_enter Try.func70, Try.ntmps70
  go_wp2
  go_loopw [8] (fun i w1 => Rel w n w1 i) (fun i _ => n - (intOf i).toNat)
  case atStart => exact ⟨0, Nat.zero_le _, rfl, Below.refl _ _⟩
  case round =>
    obtain ⟨k, hk, rfl, hb⟩ := hrel
    by_cases hlt : k < n
    · obtain ⟨b, o, nm, ka, kn, kc, rfl, hbs, hc1, hc2⟩ := (HN.out.below hb) k hlt
      go_wp2_with fail
      refine (node_any nm ka kn kc _).mono ?_
      rintro e w' ⟨⟨bb, rfl⟩, hb2⟩
      have hb3 := hb.trans (hb2.mono hb.size)
      clear hb2
      cases bb
      · go_wp2
        go_roundw
        case rel => exact ⟨k + 1, by omega, by go_num, hb3⟩
        case measure => simp [intOf]; omega
      · go_wp2
        go_ret
        exact ⟨⟨_, rfl⟩, hb3⟩
    · go_wp2
      go_ret
      exact ⟨⟨_, rfl⟩, hb⟩

set_option maxHeartbeats 1000000 in
theorem contains_any (a : Option Addr) (n c : Nat) (w : World) (hn : n ≤ 9223372036854775807) (hN : Nodes w a n) :
    Calls Try.prog 51 #[.slice a n c, .func (.func 52) #[] #[]] w (SomeBool w) := by
  have HN := Lib.hid hN
  clear hN
  go_enter Try.func51, Try.ntmps51
  go_wp2_with fail
  refine (index_any a n c _ hn HN.out).mono ?_
  rintro e w' ⟨⟨r, rfl⟩, hb⟩
  by_cases hr : (0 : Int) ≤ r
  all_goals
    go_wp2
    go_ret
    exact ⟨⟨_, rfl⟩, hb⟩

set_option maxHeartbeats 1000000 in
theorem great_any (a : Option Addr) (n c : Nat) (root : Int) (w : World) (hn : n ≤ 9223372036854775807) (hN : Nodes w a n) :
    Calls Try.prog 25 #[.agg #[.slice a n c, .int .i64 root]] w (SomeBool w) := by
  have HN := Lib.hid hN
  clear hN
  by_cases h1 : (68 : Int) < (n : Int)
  · go_enter Try.func25, Try.ntmps25
    go_wp2
    go_ret
    exact ⟨⟨_, rfl⟩, (Below.refl _ _).alloc (Nat.le_refl _) _⟩
  · go_enter Try.func25, Try.ntmps25
    go_wp2_with fail
    have hb0 : Below w.heap.size w (w.alloc (.cells #[.slice a n c, .int .i64 root] 25)) := (Below.refl _ _).alloc (Nat.le_refl _) _
    refine (contains_any a n c _ hn (HN.out.below hb0)).mono ?_
    rintro e w' ⟨⟨r, rfl⟩, hb⟩
    have hb3 := hb0.trans (hb.mono hb0.size)
    go_wp2
    go_ret
    exact ⟨⟨_, rfl⟩, hb3⟩

set_option maxHeartbeats 1000000 in
theorem big_any (kind : Int) (nm : ByteArray) (ka : Option Addr) (kn kc : Nat) (x y z : Int) (a : Option Addr) (n c : Nat) (root : Int) (w : World) (hn : n ≤ 9223372036854775807) (hN : Nodes w a n) :
    Calls Try.prog 4 #[.agg #[.int .i64 kind, .string nm, .slice ka kn kc, .int .i64 x, .int .i64 y, .int .i64 z, .slice a n c, .int .i64 root]] w (SomeBool w) := by
  have HN := Lib.hid hN
  clear hN
  by_cases h1 : (40 : Int) < (nm.size : Int)
  · go_enter Try.func4, Try.ntmps4
    go_wp2
    go_ret
    exact ⟨⟨_, rfl⟩, (Below.refl _ _).alloc (Nat.le_refl _) _⟩
  · by_cases h2 : (9 : Int) < (kn : Int)
    · go_enter Try.func4, Try.ntmps4
      go_wp2
      go_ret
      exact ⟨⟨_, rfl⟩, (Below.refl _ _).alloc (Nat.le_refl _) _⟩
    · go_enter Try.func4, Try.ntmps4
      go_wp2_with fail
      have hb0 : Below w.heap.size w (w.alloc (.cells #[.int .i64 kind, .string nm, .slice ka kn kc, .int .i64 x, .int .i64 y, .int .i64 z, .slice a n c, .int .i64 root] 27)) := (Below.refl _ _).alloc (Nat.le_refl _) _
      refine (great_any a n c root _ hn (HN.out.below hb0)).mono ?_
      rintro e w' ⟨⟨r, rfl⟩, hb⟩
      have hb3 := hb0.trans (hb.mono hb0.size)
      go_wp2
      go_ret
      exact ⟨⟨_, rfl⟩, hb3⟩

end Go.Proofs.Ytmahbibgmdaeeac

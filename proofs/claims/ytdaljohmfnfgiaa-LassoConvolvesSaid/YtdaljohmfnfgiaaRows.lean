/-
  No cell of these rows narrows 'for every input' (looked for: loops, veiled, ifaces, maps, wideKeys, modest, calm, conditions, laid).
  DERIVED. THE GIVEN ROWS OF THIS SEAT. 12 by the template 'for every input the law returns true; each argument reads behind the call as it read before'; 0 by the template 'total and deterministic' (their statements: YtdaljohmfnfgiaaTotals.lean).
  GIVEN WITH THE SEED: the statements are not yours to turn. If you find one false, say at which input.
  Laid BY PROGRAM, IN A SANDBOX (cutbox-rows.mjs): the forced cells as the released guide's own fill.sh prints them over the translation cd5cdd6f33fbbb72… (all of the seat's roots in one cut). By AI agents, Wed Nov 11 2026. No macro, syntax, notation, axiom, sorry.
-/
import Derived.Test.YtdaljohmfnfgiaaChecked
import GoSem.Claim
import GoSem.ClaimJoined
import GoSem.ClaimMapViews
import Derived.JoinedTies
import Derived.KernelRfl
namespace Go.Proofs.Ytdaljohmfnfgiaa
/- THE CELL 'sum', in the pinned program and in every row, IS THE sha256 OF THE DUMP (.gsa) THAT YtdaljohmfnfgiaaProg.lean LOADS. Nothing in Lean hashes anything: it is a label: what it is worth is what the hold of that sum in a sandbox is worth. -/
noncomputable def Try.pinned : Pinned := { name := "ytdaljohmfnfgiaa", sum := "cd5cdd6f33fbbb72c6b7dede616c7173a48889b2aede16cb84a0ea14436d658e", checked := Try.checked }
namespace Rows
def none {H : Type} : Left H := { results := [], args := [] }

/-- 'roundelaylaw14.LassoChecks': WHATEVER THE INPUT: true; the input reads as it did. -/
def lassoChecksSpec : ChangeSpec := { name := "lassoChecks", fn := fun _ => fun
  | [d1, d2] => { results := [.lit (.bool true)], args := [d1, d2] }
  | _ => none }
def lassoChecksRow : OpenClaim := { program := "ytdaljohmfnfgiaa", sum := "cd5cdd6f33fbbb72c6b7dede616c7173a48889b2aede16cb84a0ea14436d658e", func := "roundelay/roundelaylaw14.LassoChecks", spec := "lassoChecks", unfollowed := true, recurses := true, plainKeys := false, apart := false }
def LassoChecksSaid : Prop := lassoChecksRow.holds Try.pinned (OpenSpec.ofChange lassoChecksSpec)

/-- ITS FALSE NEIGHBOUR: 'it returns false'. Refute it at one input. -/
def lassoChecksWrong : ChangeSpec := { name := "lassoChecks", fn := fun _ => fun
  | [d1, d2] => { results := [.lit (.bool false)], args := [d1, d2] }
  | _ => none }
def LassoChecksWrongFalsely : Prop := lassoChecksRow.holds Try.pinned (OpenSpec.ofChange lassoChecksWrong)

/-- 'roundelaylaw14.LassoParts': WHATEVER THE INPUT: true; the input reads as it did. -/
def lassoPartsSpec : ChangeSpec := { name := "lassoParts", fn := fun _ => fun
  | [d1, d2, d3, d4, d5] => { results := [.lit (.bool true)], args := [d1, d2, d3, d4, d5] }
  | _ => none }
def lassoPartsRow : OpenClaim := { program := "ytdaljohmfnfgiaa", sum := "cd5cdd6f33fbbb72c6b7dede616c7173a48889b2aede16cb84a0ea14436d658e", func := "roundelay/roundelaylaw14.LassoParts", spec := "lassoParts", unfollowed := true, recurses := true, plainKeys := false, apart := false }
def LassoPartsSaid : Prop := lassoPartsRow.holds Try.pinned (OpenSpec.ofChange lassoPartsSpec)

/-- ITS FALSE NEIGHBOUR: 'it returns false'. Refute it at one input. -/
def lassoPartsWrong : ChangeSpec := { name := "lassoParts", fn := fun _ => fun
  | [d1, d2, d3, d4, d5] => { results := [.lit (.bool false)], args := [d1, d2, d3, d4, d5] }
  | _ => none }
def LassoPartsWrongFalsely : Prop := lassoPartsRow.holds Try.pinned (OpenSpec.ofChange lassoPartsWrong)

/-- 'roundelaylaw14.LassoWeaves': WHATEVER THE INPUT: true; the input reads as it did. -/
def lassoWeavesSpec : ChangeSpec := { name := "lassoWeaves", fn := fun _ => fun
  | [d] => { results := [.lit (.bool true)], args := [d] }
  | _ => none }
def lassoWeavesRow : OpenClaim := { program := "ytdaljohmfnfgiaa", sum := "cd5cdd6f33fbbb72c6b7dede616c7173a48889b2aede16cb84a0ea14436d658e", func := "roundelay/roundelaylaw14.LassoWeaves", spec := "lassoWeaves", unfollowed := true, recurses := true, plainKeys := false, apart := false }
def LassoWeavesSaid : Prop := lassoWeavesRow.holds Try.pinned (OpenSpec.ofChange lassoWeavesSpec)

/-- ITS FALSE NEIGHBOUR: 'it returns false'. Refute it at one input. -/
def lassoWeavesWrong : ChangeSpec := { name := "lassoWeaves", fn := fun _ => fun
  | [d] => { results := [.lit (.bool false)], args := [d] }
  | _ => none }
def LassoWeavesWrongFalsely : Prop := lassoWeavesRow.holds Try.pinned (OpenSpec.ofChange lassoWeavesWrong)

/-- 'roundelaylaw14.LassoSums': WHATEVER THE INPUT: true; the input reads as it did. -/
def lassoSumsSpec : ChangeSpec := { name := "lassoSums", fn := fun _ => fun
  | [d1, d2, d3, d4] => { results := [.lit (.bool true)], args := [d1, d2, d3, d4] }
  | _ => none }
def lassoSumsRow : OpenClaim := { program := "ytdaljohmfnfgiaa", sum := "cd5cdd6f33fbbb72c6b7dede616c7173a48889b2aede16cb84a0ea14436d658e", func := "roundelay/roundelaylaw14.LassoSums", spec := "lassoSums", unfollowed := true, recurses := true, plainKeys := false, apart := false }
def LassoSumsSaid : Prop := lassoSumsRow.holds Try.pinned (OpenSpec.ofChange lassoSumsSpec)

/-- ITS FALSE NEIGHBOUR: 'it returns false'. Refute it at one input. -/
def lassoSumsWrong : ChangeSpec := { name := "lassoSums", fn := fun _ => fun
  | [d1, d2, d3, d4] => { results := [.lit (.bool false)], args := [d1, d2, d3, d4] }
  | _ => none }
def LassoSumsWrongFalsely : Prop := lassoSumsRow.holds Try.pinned (OpenSpec.ofChange lassoSumsWrong)

/-- 'roundelaylaw14.LassoConvolves': WHATEVER THE INPUT: true; the input reads as it did. -/
def lassoConvolvesSpec : ChangeSpec := { name := "lassoConvolves", fn := fun _ => fun
  | [d1, d2] => { results := [.lit (.bool true)], args := [d1, d2] }
  | _ => none }
def lassoConvolvesRow : OpenClaim := { program := "ytdaljohmfnfgiaa", sum := "cd5cdd6f33fbbb72c6b7dede616c7173a48889b2aede16cb84a0ea14436d658e", func := "roundelay/roundelaylaw14.LassoConvolves", spec := "lassoConvolves", unfollowed := true, recurses := true, plainKeys := false, apart := false }
def LassoConvolvesSaid : Prop := lassoConvolvesRow.holds Try.pinned (OpenSpec.ofChange lassoConvolvesSpec)

/-- ITS FALSE NEIGHBOUR: 'it returns false'. Refute it at one input. -/
def lassoConvolvesWrong : ChangeSpec := { name := "lassoConvolves", fn := fun _ => fun
  | [d1, d2] => { results := [.lit (.bool false)], args := [d1, d2] }
  | _ => none }
def LassoConvolvesWrongFalsely : Prop := lassoConvolvesRow.holds Try.pinned (OpenSpec.ofChange lassoConvolvesWrong)

/-- 'roundelaylaw14.LassoFinds': WHATEVER THE INPUT: true; the input reads as it did. -/
def lassoFindsSpec : ChangeSpec := { name := "lassoFinds", fn := fun _ => fun
  | [d1, d2, d3, d4] => { results := [.lit (.bool true)], args := [d1, d2, d3, d4] }
  | _ => none }
def lassoFindsRow : OpenClaim := { program := "ytdaljohmfnfgiaa", sum := "cd5cdd6f33fbbb72c6b7dede616c7173a48889b2aede16cb84a0ea14436d658e", func := "roundelay/roundelaylaw14.LassoFinds", spec := "lassoFinds", unfollowed := true, recurses := true, plainKeys := false, apart := false }
def LassoFindsSaid : Prop := lassoFindsRow.holds Try.pinned (OpenSpec.ofChange lassoFindsSpec)

/-- ITS FALSE NEIGHBOUR: 'it returns false'. Refute it at one input. -/
def lassoFindsWrong : ChangeSpec := { name := "lassoFinds", fn := fun _ => fun
  | [d1, d2, d3, d4] => { results := [.lit (.bool false)], args := [d1, d2, d3, d4] }
  | _ => none }
def LassoFindsWrongFalsely : Prop := lassoFindsRow.holds Try.pinned (OpenSpec.ofChange lassoFindsWrong)

/-- 'roundelaylaw14.LassoLeast': WHATEVER THE INPUT: true; the input reads as it did. -/
def lassoLeastSpec : ChangeSpec := { name := "lassoLeast", fn := fun _ => fun
  | [d1, d2, d3] => { results := [.lit (.bool true)], args := [d1, d2, d3] }
  | _ => none }
def lassoLeastRow : OpenClaim := { program := "ytdaljohmfnfgiaa", sum := "cd5cdd6f33fbbb72c6b7dede616c7173a48889b2aede16cb84a0ea14436d658e", func := "roundelay/roundelaylaw14.LassoLeast", spec := "lassoLeast", unfollowed := true, recurses := true, plainKeys := false, apart := false }
def LassoLeastSaid : Prop := lassoLeastRow.holds Try.pinned (OpenSpec.ofChange lassoLeastSpec)

/-- ITS FALSE NEIGHBOUR: 'it returns false'. Refute it at one input. -/
def lassoLeastWrong : ChangeSpec := { name := "lassoLeast", fn := fun _ => fun
  | [d1, d2, d3] => { results := [.lit (.bool false)], args := [d1, d2, d3] }
  | _ => none }
def LassoLeastWrongFalsely : Prop := lassoLeastRow.holds Try.pinned (OpenSpec.ofChange lassoLeastWrong)

/-- 'roundelaylaw14.LassoRules': WHATEVER THE INPUT: true; the input reads as it did. -/
def lassoRulesSpec : ChangeSpec := { name := "lassoRules", fn := fun _ => fun
  | [d1, d2] => { results := [.lit (.bool true)], args := [d1, d2] }
  | _ => none }
def lassoRulesRow : OpenClaim := { program := "ytdaljohmfnfgiaa", sum := "cd5cdd6f33fbbb72c6b7dede616c7173a48889b2aede16cb84a0ea14436d658e", func := "roundelay/roundelaylaw14.LassoRules", spec := "lassoRules", unfollowed := true, recurses := true, plainKeys := false, apart := false }
def LassoRulesSaid : Prop := lassoRulesRow.holds Try.pinned (OpenSpec.ofChange lassoRulesSpec)

/-- ITS FALSE NEIGHBOUR: 'it returns false'. Refute it at one input. -/
def lassoRulesWrong : ChangeSpec := { name := "lassoRules", fn := fun _ => fun
  | [d1, d2] => { results := [.lit (.bool false)], args := [d1, d2] }
  | _ => none }
def LassoRulesWrongFalsely : Prop := lassoRulesRow.holds Try.pinned (OpenSpec.ofChange lassoRulesWrong)

/-- 'roundelaylaw14.LassoWoven': WHATEVER THE INPUT: true; the input reads as it did. -/
def lassoWovenSpec : ChangeSpec := { name := "lassoWoven", fn := fun _ => fun
  | [d1, d2, d3] => { results := [.lit (.bool true)], args := [d1, d2, d3] }
  | _ => none }
def lassoWovenRow : OpenClaim := { program := "ytdaljohmfnfgiaa", sum := "cd5cdd6f33fbbb72c6b7dede616c7173a48889b2aede16cb84a0ea14436d658e", func := "roundelay/roundelaylaw14.LassoWoven", spec := "lassoWoven", unfollowed := true, recurses := true, plainKeys := false, apart := false }
def LassoWovenSaid : Prop := lassoWovenRow.holds Try.pinned (OpenSpec.ofChange lassoWovenSpec)

/-- ITS FALSE NEIGHBOUR: 'it returns false'. Refute it at one input. -/
def lassoWovenWrong : ChangeSpec := { name := "lassoWoven", fn := fun _ => fun
  | [d1, d2, d3] => { results := [.lit (.bool false)], args := [d1, d2, d3] }
  | _ => none }
def LassoWovenWrongFalsely : Prop := lassoWovenRow.holds Try.pinned (OpenSpec.ofChange lassoWovenWrong)

/-- 'roundelaylaw14.LassoScanned': WHATEVER THE INPUT: true; the input reads as it did. -/
def lassoScannedSpec : ChangeSpec := { name := "lassoScanned", fn := fun _ => fun
  | [d1, d2, d3] => { results := [.lit (.bool true)], args := [d1, d2, d3] }
  | _ => none }
def lassoScannedRow : OpenClaim := { program := "ytdaljohmfnfgiaa", sum := "cd5cdd6f33fbbb72c6b7dede616c7173a48889b2aede16cb84a0ea14436d658e", func := "roundelay/roundelaylaw14.LassoScanned", spec := "lassoScanned", unfollowed := true, recurses := true, plainKeys := false, apart := false }
def LassoScannedSaid : Prop := lassoScannedRow.holds Try.pinned (OpenSpec.ofChange lassoScannedSpec)

/-- ITS FALSE NEIGHBOUR: 'it returns false'. Refute it at one input. -/
def lassoScannedWrong : ChangeSpec := { name := "lassoScanned", fn := fun _ => fun
  | [d1, d2, d3] => { results := [.lit (.bool false)], args := [d1, d2, d3] }
  | _ => none }
def LassoScannedWrongFalsely : Prop := lassoScannedRow.holds Try.pinned (OpenSpec.ofChange lassoScannedWrong)

/-- 'roundelaylaw14.LassoFolded': WHATEVER THE INPUT: true; the input reads as it did. -/
def lassoFoldedSpec : ChangeSpec := { name := "lassoFolded", fn := fun _ => fun
  | [d1, d2] => { results := [.lit (.bool true)], args := [d1, d2] }
  | _ => none }
def lassoFoldedRow : OpenClaim := { program := "ytdaljohmfnfgiaa", sum := "cd5cdd6f33fbbb72c6b7dede616c7173a48889b2aede16cb84a0ea14436d658e", func := "roundelay/roundelaylaw14.LassoFolded", spec := "lassoFolded", unfollowed := true, recurses := true, plainKeys := false, apart := false }
def LassoFoldedSaid : Prop := lassoFoldedRow.holds Try.pinned (OpenSpec.ofChange lassoFoldedSpec)

/-- ITS FALSE NEIGHBOUR: 'it returns false'. Refute it at one input. -/
def lassoFoldedWrong : ChangeSpec := { name := "lassoFolded", fn := fun _ => fun
  | [d1, d2] => { results := [.lit (.bool false)], args := [d1, d2] }
  | _ => none }
def LassoFoldedWrongFalsely : Prop := lassoFoldedRow.holds Try.pinned (OpenSpec.ofChange lassoFoldedWrong)

/-- 'roundelaylaw14.LassoCounted': WHATEVER THE INPUT: true; the input reads as it did. -/
def lassoCountedSpec : ChangeSpec := { name := "lassoCounted", fn := fun _ => fun
  | [d1, d2, d3, d4, d5] => { results := [.lit (.bool true)], args := [d1, d2, d3, d4, d5] }
  | _ => none }
def lassoCountedRow : OpenClaim := { program := "ytdaljohmfnfgiaa", sum := "cd5cdd6f33fbbb72c6b7dede616c7173a48889b2aede16cb84a0ea14436d658e", func := "roundelay/roundelaylaw14.LassoCounted", spec := "lassoCounted", unfollowed := true, recurses := true, plainKeys := false, apart := false }
def LassoCountedSaid : Prop := lassoCountedRow.holds Try.pinned (OpenSpec.ofChange lassoCountedSpec)

/-- ITS FALSE NEIGHBOUR: 'it returns false'. Refute it at one input. -/
def lassoCountedWrong : ChangeSpec := { name := "lassoCounted", fn := fun _ => fun
  | [d1, d2, d3, d4, d5] => { results := [.lit (.bool false)], args := [d1, d2, d3, d4, d5] }
  | _ => none }
def LassoCountedWrongFalsely : Prop := lassoCountedRow.holds Try.pinned (OpenSpec.ofChange lassoCountedWrong)

/- THE SECOND FORM. 'bulk': how many values and letters a reading holds, each counted each time it is reached (what is shared counts as often as it is met; a slice's spare places count too). A statement '..UptoSaid' is the law's where the arguments, and the package variables that the reading takes, are together of bulk at most 1048576: NARROWER than '..Said'. Prove '..Said' where nothing that the law and all that it calls make is longer than what came in: it says more and counts as full. Else prove '..UptoSaid'. A law counts once. -/
mutual
def uptoBulk {H : Type} : DataW H → Nat
  | .lit (.string bytes) => bytes.length + 1
  | .lit _ => 1
  | .nil => 1
  | .ptr d => uptoBulk d + 1
  | .slice elems spare => uptoBulkAll elems + uptoBulkAll spare + 1
  | .agg parts => uptoBulkAll parts + 1
  | .iface _ d => uptoBulk d + 1
  | .map entries => uptoBulkEntries entries + 1
  | .held _ => 1
def uptoBulkAll {H : Type} : List (DataW H) → Nat
  | [] => 0
  | d :: r => uptoBulk d + uptoBulkAll r
def uptoBulkEntries {H : Type} : List (Lit × DataW H) → Nat
  | [] => 0
  | x :: r => uptoBulkEntry x + uptoBulkEntries r
def uptoBulkEntry {H : Type} : Lit × DataW H → Nat
  | (.string bytes, d) => bytes.length + uptoBulk d + 1
  | (_, d) => uptoBulk d + 1
 end
def uptoSmall : (H : Type) → List (DataW H) → Bool := fun _ ds => decide (uptoBulkAll ds ≤ 1048576)
def OpenSpec.upto (s : _root_.Go.ChangeSpec) : _root_.Go.OpenSpec := { _root_.Go.OpenSpec.ofChange s with cond := some uptoSmall }

/-- 'roundelaylaw14.LassoChecks', WHERE WHAT IT READS IS OF BULK AT MOST 1048576: true; the input reads as it did. -/
def lassoChecksUptoRow : OpenClaim := { program := "ytdaljohmfnfgiaa", sum := "cd5cdd6f33fbbb72c6b7dede616c7173a48889b2aede16cb84a0ea14436d658e", func := "roundelay/roundelaylaw14.LassoChecks", spec := "lassoChecks", unfollowed := true, recurses := true, plainKeys := false, apart := false, narrowed := true }
def LassoChecksUptoSaid : Prop := lassoChecksUptoRow.holds Try.pinned (OpenSpec.upto lassoChecksSpec)

/-- 'roundelaylaw14.LassoParts', WHERE WHAT IT READS IS OF BULK AT MOST 1048576: true; the input reads as it did. -/
def lassoPartsUptoRow : OpenClaim := { program := "ytdaljohmfnfgiaa", sum := "cd5cdd6f33fbbb72c6b7dede616c7173a48889b2aede16cb84a0ea14436d658e", func := "roundelay/roundelaylaw14.LassoParts", spec := "lassoParts", unfollowed := true, recurses := true, plainKeys := false, apart := false, narrowed := true }
def LassoPartsUptoSaid : Prop := lassoPartsUptoRow.holds Try.pinned (OpenSpec.upto lassoPartsSpec)

/-- 'roundelaylaw14.LassoWeaves', WHERE WHAT IT READS IS OF BULK AT MOST 1048576: true; the input reads as it did. -/
def lassoWeavesUptoRow : OpenClaim := { program := "ytdaljohmfnfgiaa", sum := "cd5cdd6f33fbbb72c6b7dede616c7173a48889b2aede16cb84a0ea14436d658e", func := "roundelay/roundelaylaw14.LassoWeaves", spec := "lassoWeaves", unfollowed := true, recurses := true, plainKeys := false, apart := false, narrowed := true }
def LassoWeavesUptoSaid : Prop := lassoWeavesUptoRow.holds Try.pinned (OpenSpec.upto lassoWeavesSpec)

/-- 'roundelaylaw14.LassoSums', WHERE WHAT IT READS IS OF BULK AT MOST 1048576: true; the input reads as it did. -/
def lassoSumsUptoRow : OpenClaim := { program := "ytdaljohmfnfgiaa", sum := "cd5cdd6f33fbbb72c6b7dede616c7173a48889b2aede16cb84a0ea14436d658e", func := "roundelay/roundelaylaw14.LassoSums", spec := "lassoSums", unfollowed := true, recurses := true, plainKeys := false, apart := false, narrowed := true }
def LassoSumsUptoSaid : Prop := lassoSumsUptoRow.holds Try.pinned (OpenSpec.upto lassoSumsSpec)

/-- 'roundelaylaw14.LassoConvolves', WHERE WHAT IT READS IS OF BULK AT MOST 1048576: true; the input reads as it did. -/
def lassoConvolvesUptoRow : OpenClaim := { program := "ytdaljohmfnfgiaa", sum := "cd5cdd6f33fbbb72c6b7dede616c7173a48889b2aede16cb84a0ea14436d658e", func := "roundelay/roundelaylaw14.LassoConvolves", spec := "lassoConvolves", unfollowed := true, recurses := true, plainKeys := false, apart := false, narrowed := true }
def LassoConvolvesUptoSaid : Prop := lassoConvolvesUptoRow.holds Try.pinned (OpenSpec.upto lassoConvolvesSpec)

/-- 'roundelaylaw14.LassoFinds', WHERE WHAT IT READS IS OF BULK AT MOST 1048576: true; the input reads as it did. -/
def lassoFindsUptoRow : OpenClaim := { program := "ytdaljohmfnfgiaa", sum := "cd5cdd6f33fbbb72c6b7dede616c7173a48889b2aede16cb84a0ea14436d658e", func := "roundelay/roundelaylaw14.LassoFinds", spec := "lassoFinds", unfollowed := true, recurses := true, plainKeys := false, apart := false, narrowed := true }
def LassoFindsUptoSaid : Prop := lassoFindsUptoRow.holds Try.pinned (OpenSpec.upto lassoFindsSpec)

/-- 'roundelaylaw14.LassoLeast', WHERE WHAT IT READS IS OF BULK AT MOST 1048576: true; the input reads as it did. -/
def lassoLeastUptoRow : OpenClaim := { program := "ytdaljohmfnfgiaa", sum := "cd5cdd6f33fbbb72c6b7dede616c7173a48889b2aede16cb84a0ea14436d658e", func := "roundelay/roundelaylaw14.LassoLeast", spec := "lassoLeast", unfollowed := true, recurses := true, plainKeys := false, apart := false, narrowed := true }
def LassoLeastUptoSaid : Prop := lassoLeastUptoRow.holds Try.pinned (OpenSpec.upto lassoLeastSpec)

/-- 'roundelaylaw14.LassoRules', WHERE WHAT IT READS IS OF BULK AT MOST 1048576: true; the input reads as it did. -/
def lassoRulesUptoRow : OpenClaim := { program := "ytdaljohmfnfgiaa", sum := "cd5cdd6f33fbbb72c6b7dede616c7173a48889b2aede16cb84a0ea14436d658e", func := "roundelay/roundelaylaw14.LassoRules", spec := "lassoRules", unfollowed := true, recurses := true, plainKeys := false, apart := false, narrowed := true }
def LassoRulesUptoSaid : Prop := lassoRulesUptoRow.holds Try.pinned (OpenSpec.upto lassoRulesSpec)

/-- 'roundelaylaw14.LassoWoven', WHERE WHAT IT READS IS OF BULK AT MOST 1048576: true; the input reads as it did. -/
def lassoWovenUptoRow : OpenClaim := { program := "ytdaljohmfnfgiaa", sum := "cd5cdd6f33fbbb72c6b7dede616c7173a48889b2aede16cb84a0ea14436d658e", func := "roundelay/roundelaylaw14.LassoWoven", spec := "lassoWoven", unfollowed := true, recurses := true, plainKeys := false, apart := false, narrowed := true }
def LassoWovenUptoSaid : Prop := lassoWovenUptoRow.holds Try.pinned (OpenSpec.upto lassoWovenSpec)

/-- 'roundelaylaw14.LassoScanned', WHERE WHAT IT READS IS OF BULK AT MOST 1048576: true; the input reads as it did. -/
def lassoScannedUptoRow : OpenClaim := { program := "ytdaljohmfnfgiaa", sum := "cd5cdd6f33fbbb72c6b7dede616c7173a48889b2aede16cb84a0ea14436d658e", func := "roundelay/roundelaylaw14.LassoScanned", spec := "lassoScanned", unfollowed := true, recurses := true, plainKeys := false, apart := false, narrowed := true }
def LassoScannedUptoSaid : Prop := lassoScannedUptoRow.holds Try.pinned (OpenSpec.upto lassoScannedSpec)

/-- 'roundelaylaw14.LassoFolded', WHERE WHAT IT READS IS OF BULK AT MOST 1048576: true; the input reads as it did. -/
def lassoFoldedUptoRow : OpenClaim := { program := "ytdaljohmfnfgiaa", sum := "cd5cdd6f33fbbb72c6b7dede616c7173a48889b2aede16cb84a0ea14436d658e", func := "roundelay/roundelaylaw14.LassoFolded", spec := "lassoFolded", unfollowed := true, recurses := true, plainKeys := false, apart := false, narrowed := true }
def LassoFoldedUptoSaid : Prop := lassoFoldedUptoRow.holds Try.pinned (OpenSpec.upto lassoFoldedSpec)

/-- 'roundelaylaw14.LassoCounted', WHERE WHAT IT READS IS OF BULK AT MOST 1048576: true; the input reads as it did. -/
def lassoCountedUptoRow : OpenClaim := { program := "ytdaljohmfnfgiaa", sum := "cd5cdd6f33fbbb72c6b7dede616c7173a48889b2aede16cb84a0ea14436d658e", func := "roundelay/roundelaylaw14.LassoCounted", spec := "lassoCounted", unfollowed := true, recurses := true, plainKeys := false, apart := false, narrowed := true }
def LassoCountedUptoSaid : Prop := lassoCountedUptoRow.holds Try.pinned (OpenSpec.upto lassoCountedSpec)

end Rows
end Go.Proofs.Ytdaljohmfnfgiaa

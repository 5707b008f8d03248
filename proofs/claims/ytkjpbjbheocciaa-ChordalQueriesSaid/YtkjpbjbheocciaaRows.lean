/-
  No cell of these rows narrows 'for every input' (looked for: loops, veiled, ifaces, maps, wideKeys, modest, calm, conditions, laid).
  DERIVED. THE GIVEN ROWS OF THIS SEAT. 14 by the template 'for every input the law returns true; each argument reads behind the call as it read before'; 0 by the template 'total and deterministic' (their statements: YtkjpbjbheocciaaTotals.lean).
  GIVEN WITH THE SEED: the statements are not yours to turn. If you find one false, say at which input.
  Laid BY PROGRAM, IN A SANDBOX (cutbox-rows.mjs): the forced cells as the released guide's own fill.sh prints them over the translation 781095efe4145ab1… (all of the seat's roots in one cut). By AI agents, Wed Nov 11 2026. No macro, syntax, notation, axiom, sorry.
-/
import Derived.Test.YtkjpbjbheocciaaChecked
import GoSem.Claim
import GoSem.ClaimJoined
import GoSem.ClaimMapViews
import Derived.JoinedTies
import Derived.KernelRfl
namespace Go.Proofs.Ytkjpbjbheocciaa
/- THE CELL 'sum', in the pinned program and in every row, IS THE sha256 OF THE DUMP (.gsa) THAT YtkjpbjbheocciaaProg.lean LOADS. Nothing in Lean hashes anything: it is a label: what it is worth is what the hold of that sum in a sandbox is worth. -/
noncomputable def Try.pinned : Pinned := { name := "ytkjpbjbheocciaa", sum := "781095efe4145ab1f4f887d78d160eea9483222b6a35c1675212d7823c37f271", checked := Try.checked }
namespace Rows
def none {H : Type} : Left H := { results := [], args := [] }

/-- 'cubeblaw06.ChordalOrders': WHATEVER THE INPUT: true; the input reads as it did. -/
def chordalOrdersSpec : ChangeSpec := { name := "chordalOrders", fn := fun _ => fun
  | [d1, d2] => { results := [.lit (.bool true)], args := [d1, d2] }
  | _ => none }
def chordalOrdersRow : OpenClaim := { program := "ytkjpbjbheocciaa", sum := "781095efe4145ab1f4f887d78d160eea9483222b6a35c1675212d7823c37f271", func := "cubeb/cubeblaw06.ChordalOrders", spec := "chordalOrders", apart := false }
def ChordalOrdersSaid : Prop := chordalOrdersRow.holds Try.pinned (OpenSpec.ofChange chordalOrdersSpec)

/-- ITS FALSE NEIGHBOUR: 'it returns false'. Refute it at one input. -/
def chordalOrdersWrong : ChangeSpec := { name := "chordalOrders", fn := fun _ => fun
  | [d1, d2] => { results := [.lit (.bool false)], args := [d1, d2] }
  | _ => none }
def ChordalOrdersWrongFalsely : Prop := chordalOrdersRow.holds Try.pinned (OpenSpec.ofChange chordalOrdersWrong)

/-- 'cubeblaw06.ChordalHoles': WHATEVER THE INPUT: true; the input reads as it did. -/
def chordalHolesSpec : ChangeSpec := { name := "chordalHoles", fn := fun _ => fun
  | [d1, d2] => { results := [.lit (.bool true)], args := [d1, d2] }
  | _ => none }
def chordalHolesRow : OpenClaim := { program := "ytkjpbjbheocciaa", sum := "781095efe4145ab1f4f887d78d160eea9483222b6a35c1675212d7823c37f271", func := "cubeb/cubeblaw06.ChordalHoles", spec := "chordalHoles", recurses := true, apart := false }
def ChordalHolesSaid : Prop := chordalHolesRow.holds Try.pinned (OpenSpec.ofChange chordalHolesSpec)

/-- ITS FALSE NEIGHBOUR: 'it returns false'. Refute it at one input. -/
def chordalHolesWrong : ChangeSpec := { name := "chordalHoles", fn := fun _ => fun
  | [d1, d2] => { results := [.lit (.bool false)], args := [d1, d2] }
  | _ => none }
def ChordalHolesWrongFalsely : Prop := chordalHolesRow.holds Try.pinned (OpenSpec.ofChange chordalHolesWrong)

/-- 'cubeblaw06.ChordalColours': WHATEVER THE INPUT: true; the input reads as it did. -/
def chordalColoursSpec : ChangeSpec := { name := "chordalColours", fn := fun _ => fun
  | [d1, d2] => { results := [.lit (.bool true)], args := [d1, d2] }
  | _ => none }
def chordalColoursRow : OpenClaim := { program := "ytkjpbjbheocciaa", sum := "781095efe4145ab1f4f887d78d160eea9483222b6a35c1675212d7823c37f271", func := "cubeb/cubeblaw06.ChordalColours", spec := "chordalColours", unfollowed := true, recurses := true, apart := false }
def ChordalColoursSaid : Prop := chordalColoursRow.holds Try.pinned (OpenSpec.ofChange chordalColoursSpec)

/-- ITS FALSE NEIGHBOUR: 'it returns false'. Refute it at one input. -/
def chordalColoursWrong : ChangeSpec := { name := "chordalColours", fn := fun _ => fun
  | [d1, d2] => { results := [.lit (.bool false)], args := [d1, d2] }
  | _ => none }
def ChordalColoursWrongFalsely : Prop := chordalColoursRow.holds Try.pinned (OpenSpec.ofChange chordalColoursWrong)

/-- 'cubeblaw06.ChordalCovers': WHATEVER THE INPUT: true; the input reads as it did. -/
def chordalCoversSpec : ChangeSpec := { name := "chordalCovers", fn := fun _ => fun
  | [d] => { results := [.lit (.bool true)], args := [d] }
  | _ => none }
def chordalCoversRow : OpenClaim := { program := "ytkjpbjbheocciaa", sum := "781095efe4145ab1f4f887d78d160eea9483222b6a35c1675212d7823c37f271", func := "cubeb/cubeblaw06.ChordalCovers", spec := "chordalCovers", unfollowed := true, recurses := true, apart := false }
def ChordalCoversSaid : Prop := chordalCoversRow.holds Try.pinned (OpenSpec.ofChange chordalCoversSpec)

/-- ITS FALSE NEIGHBOUR: 'it returns false'. Refute it at one input. -/
def chordalCoversWrong : ChangeSpec := { name := "chordalCovers", fn := fun _ => fun
  | [d] => { results := [.lit (.bool false)], args := [d] }
  | _ => none }
def ChordalCoversWrongFalsely : Prop := chordalCoversRow.holds Try.pinned (OpenSpec.ofChange chordalCoversWrong)

/-- 'cubeblaw06.ChordalTrees': WHATEVER THE INPUT: true; the input reads as it did. -/
def chordalTreesSpec : ChangeSpec := { name := "chordalTrees", fn := fun _ => fun
  | [d1, d2] => { results := [.lit (.bool true)], args := [d1, d2] }
  | _ => none }
def chordalTreesRow : OpenClaim := { program := "ytkjpbjbheocciaa", sum := "781095efe4145ab1f4f887d78d160eea9483222b6a35c1675212d7823c37f271", func := "cubeb/cubeblaw06.ChordalTrees", spec := "chordalTrees", unfollowed := true, recurses := true, apart := false }
def ChordalTreesSaid : Prop := chordalTreesRow.holds Try.pinned (OpenSpec.ofChange chordalTreesSpec)

/-- ITS FALSE NEIGHBOUR: 'it returns false'. Refute it at one input. -/
def chordalTreesWrong : ChangeSpec := { name := "chordalTrees", fn := fun _ => fun
  | [d1, d2] => { results := [.lit (.bool false)], args := [d1, d2] }
  | _ => none }
def ChordalTreesWrongFalsely : Prop := chordalTreesRow.holds Try.pinned (OpenSpec.ofChange chordalTreesWrong)

/-- 'cubeblaw06.ChordalModels': WHATEVER THE INPUT: true; the input reads as it did. -/
def chordalModelsSpec : ChangeSpec := { name := "chordalModels", fn := fun _ => fun
  | [d1, d2] => { results := [.lit (.bool true)], args := [d1, d2] }
  | _ => none }
def chordalModelsRow : OpenClaim := { program := "ytkjpbjbheocciaa", sum := "781095efe4145ab1f4f887d78d160eea9483222b6a35c1675212d7823c37f271", func := "cubeb/cubeblaw06.ChordalModels", spec := "chordalModels", unfollowed := true, recurses := true, apart := false }
def ChordalModelsSaid : Prop := chordalModelsRow.holds Try.pinned (OpenSpec.ofChange chordalModelsSpec)

/-- ITS FALSE NEIGHBOUR: 'it returns false'. Refute it at one input. -/
def chordalModelsWrong : ChangeSpec := { name := "chordalModels", fn := fun _ => fun
  | [d1, d2] => { results := [.lit (.bool false)], args := [d1, d2] }
  | _ => none }
def ChordalModelsWrongFalsely : Prop := chordalModelsRow.holds Try.pinned (OpenSpec.ofChange chordalModelsWrong)

/-- 'cubeblaw06.ChordalQueries': WHATEVER THE INPUT: true; the input reads as it did. -/
def chordalQueriesSpec : ChangeSpec := { name := "chordalQueries", fn := fun _ => fun
  | [d] => { results := [.lit (.bool true)], args := [d] }
  | _ => none }
def chordalQueriesRow : OpenClaim := { program := "ytkjpbjbheocciaa", sum := "781095efe4145ab1f4f887d78d160eea9483222b6a35c1675212d7823c37f271", func := "cubeb/cubeblaw06.ChordalQueries", spec := "chordalQueries", apart := false }
def ChordalQueriesSaid : Prop := chordalQueriesRow.holds Try.pinned (OpenSpec.ofChange chordalQueriesSpec)

/-- ITS FALSE NEIGHBOUR: 'it returns false'. Refute it at one input. -/
def chordalQueriesWrong : ChangeSpec := { name := "chordalQueries", fn := fun _ => fun
  | [d] => { results := [.lit (.bool false)], args := [d] }
  | _ => none }
def ChordalQueriesWrongFalsely : Prop := chordalQueriesRow.holds Try.pinned (OpenSpec.ofChange chordalQueriesWrong)

/-- 'cubeblaw06.ChordalOne': WHATEVER THE INPUT: true; the input reads as it did. -/
def chordalOneSpec : ChangeSpec := { name := "chordalOne", fn := fun _ => fun
  | [d1, d2] => { results := [.lit (.bool true)], args := [d1, d2] }
  | _ => none }
def chordalOneRow : OpenClaim := { program := "ytkjpbjbheocciaa", sum := "781095efe4145ab1f4f887d78d160eea9483222b6a35c1675212d7823c37f271", func := "cubeb/cubeblaw06.ChordalOne", spec := "chordalOne", recurses := true, apart := false }
def ChordalOneSaid : Prop := chordalOneRow.holds Try.pinned (OpenSpec.ofChange chordalOneSpec)

/-- ITS FALSE NEIGHBOUR: 'it returns false'. Refute it at one input. -/
def chordalOneWrong : ChangeSpec := { name := "chordalOne", fn := fun _ => fun
  | [d1, d2] => { results := [.lit (.bool false)], args := [d1, d2] }
  | _ => none }
def ChordalOneWrongFalsely : Prop := chordalOneRow.holds Try.pinned (OpenSpec.ofChange chordalOneWrong)

/-- 'cubeblaw06.ChordalPerfect': WHATEVER THE INPUT: true; the input reads as it did. -/
def chordalPerfectSpec : ChangeSpec := { name := "chordalPerfect", fn := fun _ => fun
  | [d1, d2] => { results := [.lit (.bool true)], args := [d1, d2] }
  | _ => none }
def chordalPerfectRow : OpenClaim := { program := "ytkjpbjbheocciaa", sum := "781095efe4145ab1f4f887d78d160eea9483222b6a35c1675212d7823c37f271", func := "cubeb/cubeblaw06.ChordalPerfect", spec := "chordalPerfect", unfollowed := true, recurses := true, apart := false }
def ChordalPerfectSaid : Prop := chordalPerfectRow.holds Try.pinned (OpenSpec.ofChange chordalPerfectSpec)

/-- ITS FALSE NEIGHBOUR: 'it returns false'. Refute it at one input. -/
def chordalPerfectWrong : ChangeSpec := { name := "chordalPerfect", fn := fun _ => fun
  | [d1, d2] => { results := [.lit (.bool false)], args := [d1, d2] }
  | _ => none }
def ChordalPerfectWrongFalsely : Prop := chordalPerfectRow.holds Try.pinned (OpenSpec.ofChange chordalPerfectWrong)

/-- 'cubeblaw06.ChordalFew': WHATEVER THE INPUT: true; the input reads as it did. -/
def chordalFewSpec : ChangeSpec := { name := "chordalFew", fn := fun _ => fun
  | [d1, d2] => { results := [.lit (.bool true)], args := [d1, d2] }
  | _ => none }
def chordalFewRow : OpenClaim := { program := "ytkjpbjbheocciaa", sum := "781095efe4145ab1f4f887d78d160eea9483222b6a35c1675212d7823c37f271", func := "cubeb/cubeblaw06.ChordalFew", spec := "chordalFew", unfollowed := true, recurses := true, apart := false }
def ChordalFewSaid : Prop := chordalFewRow.holds Try.pinned (OpenSpec.ofChange chordalFewSpec)

/-- ITS FALSE NEIGHBOUR: 'it returns false'. Refute it at one input. -/
def chordalFewWrong : ChangeSpec := { name := "chordalFew", fn := fun _ => fun
  | [d1, d2] => { results := [.lit (.bool false)], args := [d1, d2] }
  | _ => none }
def ChordalFewWrongFalsely : Prop := chordalFewRow.holds Try.pinned (OpenSpec.ofChange chordalFewWrong)

/-- 'cubeblaw06.ChordalSpans': WHATEVER THE INPUT: true; the input reads as it did. -/
def chordalSpansSpec : ChangeSpec := { name := "chordalSpans", fn := fun _ => fun
  | [d1, d2] => { results := [.lit (.bool true)], args := [d1, d2] }
  | _ => none }
def chordalSpansRow : OpenClaim := { program := "ytkjpbjbheocciaa", sum := "781095efe4145ab1f4f887d78d160eea9483222b6a35c1675212d7823c37f271", func := "cubeb/cubeblaw06.ChordalSpans", spec := "chordalSpans", unfollowed := true, recurses := true, apart := false }
def ChordalSpansSaid : Prop := chordalSpansRow.holds Try.pinned (OpenSpec.ofChange chordalSpansSpec)

/-- ITS FALSE NEIGHBOUR: 'it returns false'. Refute it at one input. -/
def chordalSpansWrong : ChangeSpec := { name := "chordalSpans", fn := fun _ => fun
  | [d1, d2] => { results := [.lit (.bool false)], args := [d1, d2] }
  | _ => none }
def ChordalSpansWrongFalsely : Prop := chordalSpansRow.holds Try.pinned (OpenSpec.ofChange chordalSpansWrong)

/-- 'cubeblaw06.ChordalAcyclic': WHATEVER THE INPUT: true; the input reads as it did. -/
def chordalAcyclicSpec : ChangeSpec := { name := "chordalAcyclic", fn := fun _ => fun
  | [d] => { results := [.lit (.bool true)], args := [d] }
  | _ => none }
def chordalAcyclicRow : OpenClaim := { program := "ytkjpbjbheocciaa", sum := "781095efe4145ab1f4f887d78d160eea9483222b6a35c1675212d7823c37f271", func := "cubeb/cubeblaw06.ChordalAcyclic", spec := "chordalAcyclic", unfollowed := true, recurses := true, apart := false }
def ChordalAcyclicSaid : Prop := chordalAcyclicRow.holds Try.pinned (OpenSpec.ofChange chordalAcyclicSpec)

/-- ITS FALSE NEIGHBOUR: 'it returns false'. Refute it at one input. -/
def chordalAcyclicWrong : ChangeSpec := { name := "chordalAcyclic", fn := fun _ => fun
  | [d] => { results := [.lit (.bool false)], args := [d] }
  | _ => none }
def ChordalAcyclicWrongFalsely : Prop := chordalAcyclicRow.holds Try.pinned (OpenSpec.ofChange chordalAcyclicWrong)

/-- 'cubeblaw06.ChordalParts': WHATEVER THE INPUT: true; the input reads as it did. -/
def chordalPartsSpec : ChangeSpec := { name := "chordalParts", fn := fun _ => fun
  | [d1, d2] => { results := [.lit (.bool true)], args := [d1, d2] }
  | _ => none }
def chordalPartsRow : OpenClaim := { program := "ytkjpbjbheocciaa", sum := "781095efe4145ab1f4f887d78d160eea9483222b6a35c1675212d7823c37f271", func := "cubeb/cubeblaw06.ChordalParts", spec := "chordalParts", unfollowed := true, recurses := true, apart := false }
def ChordalPartsSaid : Prop := chordalPartsRow.holds Try.pinned (OpenSpec.ofChange chordalPartsSpec)

/-- ITS FALSE NEIGHBOUR: 'it returns false'. Refute it at one input. -/
def chordalPartsWrong : ChangeSpec := { name := "chordalParts", fn := fun _ => fun
  | [d1, d2] => { results := [.lit (.bool false)], args := [d1, d2] }
  | _ => none }
def ChordalPartsWrongFalsely : Prop := chordalPartsRow.holds Try.pinned (OpenSpec.ofChange chordalPartsWrong)

/-- 'cubeblaw06.ChordalTurned': WHATEVER THE INPUT: true; the input reads as it did. -/
def chordalTurnedSpec : ChangeSpec := { name := "chordalTurned", fn := fun _ => fun
  | [d] => { results := [.lit (.bool true)], args := [d] }
  | _ => none }
def chordalTurnedRow : OpenClaim := { program := "ytkjpbjbheocciaa", sum := "781095efe4145ab1f4f887d78d160eea9483222b6a35c1675212d7823c37f271", func := "cubeb/cubeblaw06.ChordalTurned", spec := "chordalTurned", unfollowed := true, recurses := true, apart := false }
def ChordalTurnedSaid : Prop := chordalTurnedRow.holds Try.pinned (OpenSpec.ofChange chordalTurnedSpec)

/-- ITS FALSE NEIGHBOUR: 'it returns false'. Refute it at one input. -/
def chordalTurnedWrong : ChangeSpec := { name := "chordalTurned", fn := fun _ => fun
  | [d] => { results := [.lit (.bool false)], args := [d] }
  | _ => none }
def ChordalTurnedWrongFalsely : Prop := chordalTurnedRow.holds Try.pinned (OpenSpec.ofChange chordalTurnedWrong)

/- THE SECOND FORM. 'bulk': how many values and letters a reading holds, each counted each time it is reached (what is shared counts as often as it is met; a slice's spare places count too). A statement '..UptoSaid' is the law's where the arguments, and the package variables that the reading takes, are together of bulk at most 1048576: NARROWER than '..Said'. Prove '..Said' where nothing that the law and all that it calls make is longer than what came in: it says more and counts as full. Else prove '..UptoSaid'. A law counts once. -/
mutual
def uptoBulk {H : Type} : DataW H → Nat
  | .lit (.string bytes) => bytes.length + 1
  | .lit _ => 1
  | .nil => 1
  | .ptr d => uptoBulk d + 1
  | .slice elems spare => uptoBulkAll elems + uptoBulkAll spare + 1
  | .agg parts => uptoBulkAll parts + 1
  | .iface _ d => uptoBulk d + 1
  | .map entries => uptoBulkEntries entries + 1
  | .held _ => 1
def uptoBulkAll {H : Type} : List (DataW H) → Nat
  | [] => 0
  | d :: r => uptoBulk d + uptoBulkAll r
def uptoBulkEntries {H : Type} : List (Lit × DataW H) → Nat
  | [] => 0
  | x :: r => uptoBulkEntry x + uptoBulkEntries r
def uptoBulkEntry {H : Type} : Lit × DataW H → Nat
  | (.string bytes, d) => bytes.length + uptoBulk d + 1
  | (_, d) => uptoBulk d + 1
 end
def uptoSmall : (H : Type) → List (DataW H) → Bool := fun _ ds => decide (uptoBulkAll ds ≤ 1048576)
def OpenSpec.upto (s : _root_.Go.ChangeSpec) : _root_.Go.OpenSpec := { _root_.Go.OpenSpec.ofChange s with cond := some uptoSmall }

/-- 'cubeblaw06.ChordalOrders', WHERE WHAT IT READS IS OF BULK AT MOST 1048576: true; the input reads as it did. -/
def chordalOrdersUptoRow : OpenClaim := { program := "ytkjpbjbheocciaa", sum := "781095efe4145ab1f4f887d78d160eea9483222b6a35c1675212d7823c37f271", func := "cubeb/cubeblaw06.ChordalOrders", spec := "chordalOrders", apart := false, narrowed := true }
def ChordalOrdersUptoSaid : Prop := chordalOrdersUptoRow.holds Try.pinned (OpenSpec.upto chordalOrdersSpec)

/-- 'cubeblaw06.ChordalHoles', WHERE WHAT IT READS IS OF BULK AT MOST 1048576: true; the input reads as it did. -/
def chordalHolesUptoRow : OpenClaim := { program := "ytkjpbjbheocciaa", sum := "781095efe4145ab1f4f887d78d160eea9483222b6a35c1675212d7823c37f271", func := "cubeb/cubeblaw06.ChordalHoles", spec := "chordalHoles", recurses := true, apart := false, narrowed := true }
def ChordalHolesUptoSaid : Prop := chordalHolesUptoRow.holds Try.pinned (OpenSpec.upto chordalHolesSpec)

/-- 'cubeblaw06.ChordalColours', WHERE WHAT IT READS IS OF BULK AT MOST 1048576: true; the input reads as it did. -/
def chordalColoursUptoRow : OpenClaim := { program := "ytkjpbjbheocciaa", sum := "781095efe4145ab1f4f887d78d160eea9483222b6a35c1675212d7823c37f271", func := "cubeb/cubeblaw06.ChordalColours", spec := "chordalColours", unfollowed := true, recurses := true, apart := false, narrowed := true }
def ChordalColoursUptoSaid : Prop := chordalColoursUptoRow.holds Try.pinned (OpenSpec.upto chordalColoursSpec)

/-- 'cubeblaw06.ChordalCovers', WHERE WHAT IT READS IS OF BULK AT MOST 1048576: true; the input reads as it did. -/
def chordalCoversUptoRow : OpenClaim := { program := "ytkjpbjbheocciaa", sum := "781095efe4145ab1f4f887d78d160eea9483222b6a35c1675212d7823c37f271", func := "cubeb/cubeblaw06.ChordalCovers", spec := "chordalCovers", unfollowed := true, recurses := true, apart := false, narrowed := true }
def ChordalCoversUptoSaid : Prop := chordalCoversUptoRow.holds Try.pinned (OpenSpec.upto chordalCoversSpec)

/-- 'cubeblaw06.ChordalTrees', WHERE WHAT IT READS IS OF BULK AT MOST 1048576: true; the input reads as it did. -/
def chordalTreesUptoRow : OpenClaim := { program := "ytkjpbjbheocciaa", sum := "781095efe4145ab1f4f887d78d160eea9483222b6a35c1675212d7823c37f271", func := "cubeb/cubeblaw06.ChordalTrees", spec := "chordalTrees", unfollowed := true, recurses := true, apart := false, narrowed := true }
def ChordalTreesUptoSaid : Prop := chordalTreesUptoRow.holds Try.pinned (OpenSpec.upto chordalTreesSpec)

/-- 'cubeblaw06.ChordalModels', WHERE WHAT IT READS IS OF BULK AT MOST 1048576: true; the input reads as it did. -/
def chordalModelsUptoRow : OpenClaim := { program := "ytkjpbjbheocciaa", sum := "781095efe4145ab1f4f887d78d160eea9483222b6a35c1675212d7823c37f271", func := "cubeb/cubeblaw06.ChordalModels", spec := "chordalModels", unfollowed := true, recurses := true, apart := false, narrowed := true }
def ChordalModelsUptoSaid : Prop := chordalModelsUptoRow.holds Try.pinned (OpenSpec.upto chordalModelsSpec)

/-- 'cubeblaw06.ChordalQueries', WHERE WHAT IT READS IS OF BULK AT MOST 1048576: true; the input reads as it did. -/
def chordalQueriesUptoRow : OpenClaim := { program := "ytkjpbjbheocciaa", sum := "781095efe4145ab1f4f887d78d160eea9483222b6a35c1675212d7823c37f271", func := "cubeb/cubeblaw06.ChordalQueries", spec := "chordalQueries", apart := false, narrowed := true }
def ChordalQueriesUptoSaid : Prop := chordalQueriesUptoRow.holds Try.pinned (OpenSpec.upto chordalQueriesSpec)

/-- 'cubeblaw06.ChordalOne', WHERE WHAT IT READS IS OF BULK AT MOST 1048576: true; the input reads as it did. -/
def chordalOneUptoRow : OpenClaim := { program := "ytkjpbjbheocciaa", sum := "781095efe4145ab1f4f887d78d160eea9483222b6a35c1675212d7823c37f271", func := "cubeb/cubeblaw06.ChordalOne", spec := "chordalOne", recurses := true, apart := false, narrowed := true }
def ChordalOneUptoSaid : Prop := chordalOneUptoRow.holds Try.pinned (OpenSpec.upto chordalOneSpec)

/-- 'cubeblaw06.ChordalPerfect', WHERE WHAT IT READS IS OF BULK AT MOST 1048576: true; the input reads as it did. -/
def chordalPerfectUptoRow : OpenClaim := { program := "ytkjpbjbheocciaa", sum := "781095efe4145ab1f4f887d78d160eea9483222b6a35c1675212d7823c37f271", func := "cubeb/cubeblaw06.ChordalPerfect", spec := "chordalPerfect", unfollowed := true, recurses := true, apart := false, narrowed := true }
def ChordalPerfectUptoSaid : Prop := chordalPerfectUptoRow.holds Try.pinned (OpenSpec.upto chordalPerfectSpec)

/-- 'cubeblaw06.ChordalFew', WHERE WHAT IT READS IS OF BULK AT MOST 1048576: true; the input reads as it did. -/
def chordalFewUptoRow : OpenClaim := { program := "ytkjpbjbheocciaa", sum := "781095efe4145ab1f4f887d78d160eea9483222b6a35c1675212d7823c37f271", func := "cubeb/cubeblaw06.ChordalFew", spec := "chordalFew", unfollowed := true, recurses := true, apart := false, narrowed := true }
def ChordalFewUptoSaid : Prop := chordalFewUptoRow.holds Try.pinned (OpenSpec.upto chordalFewSpec)

/-- 'cubeblaw06.ChordalSpans', WHERE WHAT IT READS IS OF BULK AT MOST 1048576: true; the input reads as it did. -/
def chordalSpansUptoRow : OpenClaim := { program := "ytkjpbjbheocciaa", sum := "781095efe4145ab1f4f887d78d160eea9483222b6a35c1675212d7823c37f271", func := "cubeb/cubeblaw06.ChordalSpans", spec := "chordalSpans", unfollowed := true, recurses := true, apart := false, narrowed := true }
def ChordalSpansUptoSaid : Prop := chordalSpansUptoRow.holds Try.pinned (OpenSpec.upto chordalSpansSpec)

/-- 'cubeblaw06.ChordalAcyclic', WHERE WHAT IT READS IS OF BULK AT MOST 1048576: true; the input reads as it did. -/
def chordalAcyclicUptoRow : OpenClaim := { program := "ytkjpbjbheocciaa", sum := "781095efe4145ab1f4f887d78d160eea9483222b6a35c1675212d7823c37f271", func := "cubeb/cubeblaw06.ChordalAcyclic", spec := "chordalAcyclic", unfollowed := true, recurses := true, apart := false, narrowed := true }
def ChordalAcyclicUptoSaid : Prop := chordalAcyclicUptoRow.holds Try.pinned (OpenSpec.upto chordalAcyclicSpec)

/-- 'cubeblaw06.ChordalParts', WHERE WHAT IT READS IS OF BULK AT MOST 1048576: true; the input reads as it did. -/
def chordalPartsUptoRow : OpenClaim := { program := "ytkjpbjbheocciaa", sum := "781095efe4145ab1f4f887d78d160eea9483222b6a35c1675212d7823c37f271", func := "cubeb/cubeblaw06.ChordalParts", spec := "chordalParts", unfollowed := true, recurses := true, apart := false, narrowed := true }
def ChordalPartsUptoSaid : Prop := chordalPartsUptoRow.holds Try.pinned (OpenSpec.upto chordalPartsSpec)

/-- 'cubeblaw06.ChordalTurned', WHERE WHAT IT READS IS OF BULK AT MOST 1048576: true; the input reads as it did. -/
def chordalTurnedUptoRow : OpenClaim := { program := "ytkjpbjbheocciaa", sum := "781095efe4145ab1f4f887d78d160eea9483222b6a35c1675212d7823c37f271", func := "cubeb/cubeblaw06.ChordalTurned", spec := "chordalTurned", unfollowed := true, recurses := true, apart := false, narrowed := true }
def ChordalTurnedUptoSaid : Prop := chordalTurnedUptoRow.holds Try.pinned (OpenSpec.upto chordalTurnedSpec)

end Rows
end Go.Proofs.Ytkjpbjbheocciaa

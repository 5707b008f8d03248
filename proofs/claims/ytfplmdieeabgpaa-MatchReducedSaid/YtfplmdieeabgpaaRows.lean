/-
  No cell of these rows narrows 'for every input' (looked for: loops, veiled, ifaces, maps, wideKeys, modest, calm, conditions, laid).
  DERIVED. THE GIVEN ROWS OF THIS SEAT. 16 by the template 'for every input the law returns true; each argument reads behind the call as it read before'; 0 by the template 'total and deterministic' (their statements: YtfplmdieeabgpaaTotals.lean).
  GIVEN WITH THE SEED: the statements are not yours to turn. If you find one false, say at which input.
  Laid BY PROGRAM, IN A SANDBOX (cutbox-rows.mjs): the forced cells as the released guide's own fill.sh prints them over the translation 818e8d3b14939647… (all of the seat's roots in one cut). By AI agents, Wed Nov 11 2026. No macro, syntax, notation, axiom, sorry.
-/
import Derived.Test.YtfplmdieeabgpaaChecked
import GoSem.Claim
import GoSem.ClaimJoined
import GoSem.ClaimMapViews
import Derived.JoinedTies
import Derived.KernelRfl
namespace Go.Proofs.Ytfplmdieeabgpaa
/- THE CELL 'sum', in the pinned program and in every row, IS THE sha256 OF THE DUMP (.gsa) THAT YtfplmdieeabgpaaProg.lean LOADS. Nothing in Lean hashes anything: it is a label: what it is worth is what the hold of that sum in a sandbox is worth. -/
noncomputable def Try.pinned : Pinned := { name := "ytfplmdieeabgpaa", sum := "818e8d3b14939647c2862a7f1cf0b79a6032b77187dceda83d99af2e591d2034", checked := Try.checked }
namespace Rows
def none {H : Type} : Left H := { results := [], args := [] }

/-- 'cubeblaw02.MatchResults': WHATEVER THE INPUT: true; the input reads as it did. -/
def matchResultsSpec : ChangeSpec := { name := "matchResults", fn := fun _ => fun
  | [d1, d2] => { results := [.lit (.bool true)], args := [d1, d2] }
  | _ => none }
def matchResultsRow : OpenClaim := { program := "ytfplmdieeabgpaa", sum := "818e8d3b14939647c2862a7f1cf0b79a6032b77187dceda83d99af2e591d2034", func := "cubeb/cubeblaw02.MatchResults", spec := "matchResults", unfollowed := true, recurses := true, plainKeys := false, apart := false }
def MatchResultsSaid : Prop := matchResultsRow.holds Try.pinned (OpenSpec.ofChange matchResultsSpec)

/-- ITS FALSE NEIGHBOUR: 'it returns false'. Refute it at one input. -/
def matchResultsWrong : ChangeSpec := { name := "matchResults", fn := fun _ => fun
  | [d1, d2] => { results := [.lit (.bool false)], args := [d1, d2] }
  | _ => none }
def MatchResultsWrongFalsely : Prop := matchResultsRow.holds Try.pinned (OpenSpec.ofChange matchResultsWrong)

/-- 'cubeblaw02.MatchHoms': WHATEVER THE INPUT: true; the input reads as it did. -/
def matchHomsSpec : ChangeSpec := { name := "matchHoms", fn := fun _ => fun
  | [d1, d2, d3] => { results := [.lit (.bool true)], args := [d1, d2, d3] }
  | _ => none }
def matchHomsRow : OpenClaim := { program := "ytfplmdieeabgpaa", sum := "818e8d3b14939647c2862a7f1cf0b79a6032b77187dceda83d99af2e591d2034", func := "cubeb/cubeblaw02.MatchHoms", spec := "matchHoms", unfollowed := true, recurses := true, plainKeys := false, apart := false }
def MatchHomsSaid : Prop := matchHomsRow.holds Try.pinned (OpenSpec.ofChange matchHomsSpec)

/-- ITS FALSE NEIGHBOUR: 'it returns false'. Refute it at one input. -/
def matchHomsWrong : ChangeSpec := { name := "matchHoms", fn := fun _ => fun
  | [d1, d2, d3] => { results := [.lit (.bool false)], args := [d1, d2, d3] }
  | _ => none }
def MatchHomsWrongFalsely : Prop := matchHomsRow.holds Try.pinned (OpenSpec.ofChange matchHomsWrong)

/-- 'cubeblaw02.MatchContains': WHATEVER THE INPUT: true; the input reads as it did. -/
def matchContainsSpec : ChangeSpec := { name := "matchContains", fn := fun _ => fun
  | [d1, d2] => { results := [.lit (.bool true)], args := [d1, d2] }
  | _ => none }
def matchContainsRow : OpenClaim := { program := "ytfplmdieeabgpaa", sum := "818e8d3b14939647c2862a7f1cf0b79a6032b77187dceda83d99af2e591d2034", func := "cubeb/cubeblaw02.MatchContains", spec := "matchContains", unfollowed := true, recurses := true, plainKeys := false, apart := false }
def MatchContainsSaid : Prop := matchContainsRow.holds Try.pinned (OpenSpec.ofChange matchContainsSpec)

/-- ITS FALSE NEIGHBOUR: 'it returns false'. Refute it at one input. -/
def matchContainsWrong : ChangeSpec := { name := "matchContains", fn := fun _ => fun
  | [d1, d2] => { results := [.lit (.bool false)], args := [d1, d2] }
  | _ => none }
def MatchContainsWrongFalsely : Prop := matchContainsRow.holds Try.pinned (OpenSpec.ofChange matchContainsWrong)

/-- 'cubeblaw02.MatchCores': WHATEVER THE INPUT: true; the input reads as it did. -/
def matchCoresSpec : ChangeSpec := { name := "matchCores", fn := fun _ => fun
  | [d] => { results := [.lit (.bool true)], args := [d] }
  | _ => none }
def matchCoresRow : OpenClaim := { program := "ytfplmdieeabgpaa", sum := "818e8d3b14939647c2862a7f1cf0b79a6032b77187dceda83d99af2e591d2034", func := "cubeb/cubeblaw02.MatchCores", spec := "matchCores", unfollowed := true, recurses := true, plainKeys := false, apart := false }
def MatchCoresSaid : Prop := matchCoresRow.holds Try.pinned (OpenSpec.ofChange matchCoresSpec)

/-- ITS FALSE NEIGHBOUR: 'it returns false'. Refute it at one input. -/
def matchCoresWrong : ChangeSpec := { name := "matchCores", fn := fun _ => fun
  | [d] => { results := [.lit (.bool false)], args := [d] }
  | _ => none }
def MatchCoresWrongFalsely : Prop := matchCoresRow.holds Try.pinned (OpenSpec.ofChange matchCoresWrong)

/-- 'cubeblaw02.MatchTrees': WHATEVER THE INPUT: true; the input reads as it did. -/
def matchTreesSpec : ChangeSpec := { name := "matchTrees", fn := fun _ => fun
  | [d1, d2] => { results := [.lit (.bool true)], args := [d1, d2] }
  | _ => none }
def matchTreesRow : OpenClaim := { program := "ytfplmdieeabgpaa", sum := "818e8d3b14939647c2862a7f1cf0b79a6032b77187dceda83d99af2e591d2034", func := "cubeb/cubeblaw02.MatchTrees", spec := "matchTrees", unfollowed := true, recurses := true, plainKeys := false, apart := false }
def MatchTreesSaid : Prop := matchTreesRow.holds Try.pinned (OpenSpec.ofChange matchTreesSpec)

/-- ITS FALSE NEIGHBOUR: 'it returns false'. Refute it at one input. -/
def matchTreesWrong : ChangeSpec := { name := "matchTrees", fn := fun _ => fun
  | [d1, d2] => { results := [.lit (.bool false)], args := [d1, d2] }
  | _ => none }
def MatchTreesWrongFalsely : Prop := matchTreesRow.holds Try.pinned (OpenSpec.ofChange matchTreesWrong)

/-- 'cubeblaw02.MatchReduces': WHATEVER THE INPUT: true; the input reads as it did. -/
def matchReducesSpec : ChangeSpec := { name := "matchReduces", fn := fun _ => fun
  | [d1, d2] => { results := [.lit (.bool true)], args := [d1, d2] }
  | _ => none }
def matchReducesRow : OpenClaim := { program := "ytfplmdieeabgpaa", sum := "818e8d3b14939647c2862a7f1cf0b79a6032b77187dceda83d99af2e591d2034", func := "cubeb/cubeblaw02.MatchReduces", spec := "matchReduces", unfollowed := true, recurses := true, plainKeys := false, apart := false }
def MatchReducesSaid : Prop := matchReducesRow.holds Try.pinned (OpenSpec.ofChange matchReducesSpec)

/-- ITS FALSE NEIGHBOUR: 'it returns false'. Refute it at one input. -/
def matchReducesWrong : ChangeSpec := { name := "matchReduces", fn := fun _ => fun
  | [d1, d2] => { results := [.lit (.bool false)], args := [d1, d2] }
  | _ => none }
def MatchReducesWrongFalsely : Prop := matchReducesRow.holds Try.pinned (OpenSpec.ofChange matchReducesWrong)

/-- 'cubeblaw02.MatchFrozen': WHATEVER THE INPUT: true; the input reads as it did. -/
def matchFrozenSpec : ChangeSpec := { name := "matchFrozen", fn := fun _ => fun
  | [d1, d2, d3] => { results := [.lit (.bool true)], args := [d1, d2, d3] }
  | _ => none }
def matchFrozenRow : OpenClaim := { program := "ytfplmdieeabgpaa", sum := "818e8d3b14939647c2862a7f1cf0b79a6032b77187dceda83d99af2e591d2034", func := "cubeb/cubeblaw02.MatchFrozen", spec := "matchFrozen", unfollowed := true, recurses := true, plainKeys := false, apart := false }
def MatchFrozenSaid : Prop := matchFrozenRow.holds Try.pinned (OpenSpec.ofChange matchFrozenSpec)

/-- ITS FALSE NEIGHBOUR: 'it returns false'. Refute it at one input. -/
def matchFrozenWrong : ChangeSpec := { name := "matchFrozen", fn := fun _ => fun
  | [d1, d2, d3] => { results := [.lit (.bool false)], args := [d1, d2, d3] }
  | _ => none }
def MatchFrozenWrongFalsely : Prop := matchFrozenRow.holds Try.pinned (OpenSpec.ofChange matchFrozenWrong)

/-- 'cubeblaw02.MatchCored': WHATEVER THE INPUT: true; the input reads as it did. -/
def matchCoredSpec : ChangeSpec := { name := "matchCored", fn := fun _ => fun
  | [d1, d2] => { results := [.lit (.bool true)], args := [d1, d2] }
  | _ => none }
def matchCoredRow : OpenClaim := { program := "ytfplmdieeabgpaa", sum := "818e8d3b14939647c2862a7f1cf0b79a6032b77187dceda83d99af2e591d2034", func := "cubeb/cubeblaw02.MatchCored", spec := "matchCored", unfollowed := true, recurses := true, plainKeys := false, apart := false }
def MatchCoredSaid : Prop := matchCoredRow.holds Try.pinned (OpenSpec.ofChange matchCoredSpec)

/-- ITS FALSE NEIGHBOUR: 'it returns false'. Refute it at one input. -/
def matchCoredWrong : ChangeSpec := { name := "matchCored", fn := fun _ => fun
  | [d1, d2] => { results := [.lit (.bool false)], args := [d1, d2] }
  | _ => none }
def MatchCoredWrongFalsely : Prop := matchCoredRow.holds Try.pinned (OpenSpec.ofChange matchCoredWrong)

/-- 'cubeblaw02.MatchAcyclic': WHATEVER THE INPUT: true; the input reads as it did. -/
def matchAcyclicSpec : ChangeSpec := { name := "matchAcyclic", fn := fun _ => fun
  | [d1, d2] => { results := [.lit (.bool true)], args := [d1, d2] }
  | _ => none }
def matchAcyclicRow : OpenClaim := { program := "ytfplmdieeabgpaa", sum := "818e8d3b14939647c2862a7f1cf0b79a6032b77187dceda83d99af2e591d2034", func := "cubeb/cubeblaw02.MatchAcyclic", spec := "matchAcyclic", unfollowed := true, recurses := true, plainKeys := false, apart := false }
def MatchAcyclicSaid : Prop := matchAcyclicRow.holds Try.pinned (OpenSpec.ofChange matchAcyclicSpec)

/-- ITS FALSE NEIGHBOUR: 'it returns false'. Refute it at one input. -/
def matchAcyclicWrong : ChangeSpec := { name := "matchAcyclic", fn := fun _ => fun
  | [d1, d2] => { results := [.lit (.bool false)], args := [d1, d2] }
  | _ => none }
def MatchAcyclicWrongFalsely : Prop := matchAcyclicRow.holds Try.pinned (OpenSpec.ofChange matchAcyclicWrong)

/-- 'cubeblaw02.MatchMore': WHATEVER THE INPUT: true; the input reads as it did. -/
def matchMoreSpec : ChangeSpec := { name := "matchMore", fn := fun _ => fun
  | [d1, d2, d3] => { results := [.lit (.bool true)], args := [d1, d2, d3] }
  | _ => none }
def matchMoreRow : OpenClaim := { program := "ytfplmdieeabgpaa", sum := "818e8d3b14939647c2862a7f1cf0b79a6032b77187dceda83d99af2e591d2034", func := "cubeb/cubeblaw02.MatchMore", spec := "matchMore", unfollowed := true, recurses := true, plainKeys := false, apart := false }
def MatchMoreSaid : Prop := matchMoreRow.holds Try.pinned (OpenSpec.ofChange matchMoreSpec)

/-- ITS FALSE NEIGHBOUR: 'it returns false'. Refute it at one input. -/
def matchMoreWrong : ChangeSpec := { name := "matchMore", fn := fun _ => fun
  | [d1, d2, d3] => { results := [.lit (.bool false)], args := [d1, d2, d3] }
  | _ => none }
def MatchMoreWrongFalsely : Prop := matchMoreRow.holds Try.pinned (OpenSpec.ofChange matchMoreWrong)

/-- 'cubeblaw02.MatchReduced': WHATEVER THE INPUT: true; the input reads as it did. -/
def matchReducedSpec : ChangeSpec := { name := "matchReduced", fn := fun _ => fun
  | [d1, d2] => { results := [.lit (.bool true)], args := [d1, d2] }
  | _ => none }
def matchReducedRow : OpenClaim := { program := "ytfplmdieeabgpaa", sum := "818e8d3b14939647c2862a7f1cf0b79a6032b77187dceda83d99af2e591d2034", func := "cubeb/cubeblaw02.MatchReduced", spec := "matchReduced", unfollowed := true, recurses := true, plainKeys := false, apart := false }
def MatchReducedSaid : Prop := matchReducedRow.holds Try.pinned (OpenSpec.ofChange matchReducedSpec)

/-- ITS FALSE NEIGHBOUR: 'it returns false'. Refute it at one input. -/
def matchReducedWrong : ChangeSpec := { name := "matchReduced", fn := fun _ => fun
  | [d1, d2] => { results := [.lit (.bool false)], args := [d1, d2] }
  | _ => none }
def MatchReducedWrongFalsely : Prop := matchReducedRow.holds Try.pinned (OpenSpec.ofChange matchReducedWrong)

/-- 'cubeblaw02.MatchProducts': WHATEVER THE INPUT: true; the input reads as it did. -/
def matchProductsSpec : ChangeSpec := { name := "matchProducts", fn := fun _ => fun
  | [d1, d2, d3] => { results := [.lit (.bool true)], args := [d1, d2, d3] }
  | _ => none }
def matchProductsRow : OpenClaim := { program := "ytfplmdieeabgpaa", sum := "818e8d3b14939647c2862a7f1cf0b79a6032b77187dceda83d99af2e591d2034", func := "cubeb/cubeblaw02.MatchProducts", spec := "matchProducts", unfollowed := true, recurses := true, plainKeys := false, apart := false }
def MatchProductsSaid : Prop := matchProductsRow.holds Try.pinned (OpenSpec.ofChange matchProductsSpec)

/-- ITS FALSE NEIGHBOUR: 'it returns false'. Refute it at one input. -/
def matchProductsWrong : ChangeSpec := { name := "matchProducts", fn := fun _ => fun
  | [d1, d2, d3] => { results := [.lit (.bool false)], args := [d1, d2, d3] }
  | _ => none }
def MatchProductsWrongFalsely : Prop := matchProductsRow.holds Try.pinned (OpenSpec.ofChange matchProductsWrong)

/-- 'cubeblaw02.MatchMaps': WHATEVER THE INPUT: true; the input reads as it did. -/
def matchMapsSpec : ChangeSpec := { name := "matchMaps", fn := fun _ => fun
  | [d1, d2, d3, d4] => { results := [.lit (.bool true)], args := [d1, d2, d3, d4] }
  | _ => none }
def matchMapsRow : OpenClaim := { program := "ytfplmdieeabgpaa", sum := "818e8d3b14939647c2862a7f1cf0b79a6032b77187dceda83d99af2e591d2034", func := "cubeb/cubeblaw02.MatchMaps", spec := "matchMaps", unfollowed := true, recurses := true, plainKeys := false, apart := false }
def MatchMapsSaid : Prop := matchMapsRow.holds Try.pinned (OpenSpec.ofChange matchMapsSpec)

/-- ITS FALSE NEIGHBOUR: 'it returns false'. Refute it at one input. -/
def matchMapsWrong : ChangeSpec := { name := "matchMaps", fn := fun _ => fun
  | [d1, d2, d3, d4] => { results := [.lit (.bool false)], args := [d1, d2, d3, d4] }
  | _ => none }
def MatchMapsWrongFalsely : Prop := matchMapsRow.holds Try.pinned (OpenSpec.ofChange matchMapsWrong)

/-- 'cubeblaw02.MatchChains': WHATEVER THE INPUT: true; the input reads as it did. -/
def matchChainsSpec : ChangeSpec := { name := "matchChains", fn := fun _ => fun
  | [d1, d2, d3] => { results := [.lit (.bool true)], args := [d1, d2, d3] }
  | _ => none }
def matchChainsRow : OpenClaim := { program := "ytfplmdieeabgpaa", sum := "818e8d3b14939647c2862a7f1cf0b79a6032b77187dceda83d99af2e591d2034", func := "cubeb/cubeblaw02.MatchChains", spec := "matchChains", unfollowed := true, recurses := true, plainKeys := false, apart := false }
def MatchChainsSaid : Prop := matchChainsRow.holds Try.pinned (OpenSpec.ofChange matchChainsSpec)

/-- ITS FALSE NEIGHBOUR: 'it returns false'. Refute it at one input. -/
def matchChainsWrong : ChangeSpec := { name := "matchChains", fn := fun _ => fun
  | [d1, d2, d3] => { results := [.lit (.bool false)], args := [d1, d2, d3] }
  | _ => none }
def MatchChainsWrongFalsely : Prop := matchChainsRow.holds Try.pinned (OpenSpec.ofChange matchChainsWrong)

/-- 'cubeblaw02.MatchNames': WHATEVER THE INPUT: true; the input reads as it did. -/
def matchNamesSpec : ChangeSpec := { name := "matchNames", fn := fun _ => fun
  | [d1, d2, d3] => { results := [.lit (.bool true)], args := [d1, d2, d3] }
  | _ => none }
def matchNamesRow : OpenClaim := { program := "ytfplmdieeabgpaa", sum := "818e8d3b14939647c2862a7f1cf0b79a6032b77187dceda83d99af2e591d2034", func := "cubeb/cubeblaw02.MatchNames", spec := "matchNames", unfollowed := true, recurses := true, plainKeys := false, apart := false }
def MatchNamesSaid : Prop := matchNamesRow.holds Try.pinned (OpenSpec.ofChange matchNamesSpec)

/-- ITS FALSE NEIGHBOUR: 'it returns false'. Refute it at one input. -/
def matchNamesWrong : ChangeSpec := { name := "matchNames", fn := fun _ => fun
  | [d1, d2, d3] => { results := [.lit (.bool false)], args := [d1, d2, d3] }
  | _ => none }
def MatchNamesWrongFalsely : Prop := matchNamesRow.holds Try.pinned (OpenSpec.ofChange matchNamesWrong)

/-- 'cubebtop.TopCore': WHATEVER THE INPUT: true; the input reads as it did. -/
def topCoreSpec : ChangeSpec := { name := "topCore", fn := fun _ => fun
  | [d] => { results := [.lit (.bool true)], args := [d] }
  | _ => none }
def topCoreRow : OpenClaim := { program := "ytfplmdieeabgpaa", sum := "818e8d3b14939647c2862a7f1cf0b79a6032b77187dceda83d99af2e591d2034", func := "cubeb/cubebtop.TopCore", spec := "topCore", unfollowed := true, recurses := true, plainKeys := false, apart := false }
def TopCoreSaid : Prop := topCoreRow.holds Try.pinned (OpenSpec.ofChange topCoreSpec)

/-- ITS FALSE NEIGHBOUR: 'it returns false'. Refute it at one input. -/
def topCoreWrong : ChangeSpec := { name := "topCore", fn := fun _ => fun
  | [d] => { results := [.lit (.bool false)], args := [d] }
  | _ => none }
def TopCoreWrongFalsely : Prop := topCoreRow.holds Try.pinned (OpenSpec.ofChange topCoreWrong)

/- THE SECOND FORM. 'bulk': how many values and letters a reading holds, each counted each time it is reached (what is shared counts as often as it is met; a slice's spare places count too). A statement '..UptoSaid' is the law's where the arguments, and the package variables that the reading takes, are together of bulk at most 1048576: NARROWER than '..Said'. Prove '..Said' where nothing that the law and all that it calls make is longer than what came in: it says more and counts as full. Else prove '..UptoSaid'. A law counts once. -/
mutual
def uptoBulk {H : Type} : DataW H → Nat
  | .lit (.string bytes) => bytes.length + 1
  | .lit _ => 1
  | .nil => 1
  | .ptr d => uptoBulk d + 1
  | .slice elems spare => uptoBulkAll elems + uptoBulkAll spare + 1
  | .agg parts => uptoBulkAll parts + 1
  | .iface _ d => uptoBulk d + 1
  | .map entries => uptoBulkEntries entries + 1
  | .held _ => 1
def uptoBulkAll {H : Type} : List (DataW H) → Nat
  | [] => 0
  | d :: r => uptoBulk d + uptoBulkAll r
def uptoBulkEntries {H : Type} : List (Lit × DataW H) → Nat
  | [] => 0
  | x :: r => uptoBulkEntry x + uptoBulkEntries r
def uptoBulkEntry {H : Type} : Lit × DataW H → Nat
  | (.string bytes, d) => bytes.length + uptoBulk d + 1
  | (_, d) => uptoBulk d + 1
 end
def uptoSmall : (H : Type) → List (DataW H) → Bool := fun _ ds => decide (uptoBulkAll ds ≤ 1048576)
def OpenSpec.upto (s : _root_.Go.ChangeSpec) : _root_.Go.OpenSpec := { _root_.Go.OpenSpec.ofChange s with cond := some uptoSmall }

/-- 'cubeblaw02.MatchResults', WHERE WHAT IT READS IS OF BULK AT MOST 1048576: true; the input reads as it did. -/
def matchResultsUptoRow : OpenClaim := { program := "ytfplmdieeabgpaa", sum := "818e8d3b14939647c2862a7f1cf0b79a6032b77187dceda83d99af2e591d2034", func := "cubeb/cubeblaw02.MatchResults", spec := "matchResults", unfollowed := true, recurses := true, plainKeys := false, apart := false, narrowed := true }
def MatchResultsUptoSaid : Prop := matchResultsUptoRow.holds Try.pinned (OpenSpec.upto matchResultsSpec)

/-- 'cubeblaw02.MatchHoms', WHERE WHAT IT READS IS OF BULK AT MOST 1048576: true; the input reads as it did. -/
def matchHomsUptoRow : OpenClaim := { program := "ytfplmdieeabgpaa", sum := "818e8d3b14939647c2862a7f1cf0b79a6032b77187dceda83d99af2e591d2034", func := "cubeb/cubeblaw02.MatchHoms", spec := "matchHoms", unfollowed := true, recurses := true, plainKeys := false, apart := false, narrowed := true }
def MatchHomsUptoSaid : Prop := matchHomsUptoRow.holds Try.pinned (OpenSpec.upto matchHomsSpec)

/-- 'cubeblaw02.MatchContains', WHERE WHAT IT READS IS OF BULK AT MOST 1048576: true; the input reads as it did. -/
def matchContainsUptoRow : OpenClaim := { program := "ytfplmdieeabgpaa", sum := "818e8d3b14939647c2862a7f1cf0b79a6032b77187dceda83d99af2e591d2034", func := "cubeb/cubeblaw02.MatchContains", spec := "matchContains", unfollowed := true, recurses := true, plainKeys := false, apart := false, narrowed := true }
def MatchContainsUptoSaid : Prop := matchContainsUptoRow.holds Try.pinned (OpenSpec.upto matchContainsSpec)

/-- 'cubeblaw02.MatchCores', WHERE WHAT IT READS IS OF BULK AT MOST 1048576: true; the input reads as it did. -/
def matchCoresUptoRow : OpenClaim := { program := "ytfplmdieeabgpaa", sum := "818e8d3b14939647c2862a7f1cf0b79a6032b77187dceda83d99af2e591d2034", func := "cubeb/cubeblaw02.MatchCores", spec := "matchCores", unfollowed := true, recurses := true, plainKeys := false, apart := false, narrowed := true }
def MatchCoresUptoSaid : Prop := matchCoresUptoRow.holds Try.pinned (OpenSpec.upto matchCoresSpec)

/-- 'cubeblaw02.MatchTrees', WHERE WHAT IT READS IS OF BULK AT MOST 1048576: true; the input reads as it did. -/
def matchTreesUptoRow : OpenClaim := { program := "ytfplmdieeabgpaa", sum := "818e8d3b14939647c2862a7f1cf0b79a6032b77187dceda83d99af2e591d2034", func := "cubeb/cubeblaw02.MatchTrees", spec := "matchTrees", unfollowed := true, recurses := true, plainKeys := false, apart := false, narrowed := true }
def MatchTreesUptoSaid : Prop := matchTreesUptoRow.holds Try.pinned (OpenSpec.upto matchTreesSpec)

/-- 'cubeblaw02.MatchReduces', WHERE WHAT IT READS IS OF BULK AT MOST 1048576: true; the input reads as it did. -/
def matchReducesUptoRow : OpenClaim := { program := "ytfplmdieeabgpaa", sum := "818e8d3b14939647c2862a7f1cf0b79a6032b77187dceda83d99af2e591d2034", func := "cubeb/cubeblaw02.MatchReduces", spec := "matchReduces", unfollowed := true, recurses := true, plainKeys := false, apart := false, narrowed := true }
def MatchReducesUptoSaid : Prop := matchReducesUptoRow.holds Try.pinned (OpenSpec.upto matchReducesSpec)

/-- 'cubeblaw02.MatchFrozen', WHERE WHAT IT READS IS OF BULK AT MOST 1048576: true; the input reads as it did. -/
def matchFrozenUptoRow : OpenClaim := { program := "ytfplmdieeabgpaa", sum := "818e8d3b14939647c2862a7f1cf0b79a6032b77187dceda83d99af2e591d2034", func := "cubeb/cubeblaw02.MatchFrozen", spec := "matchFrozen", unfollowed := true, recurses := true, plainKeys := false, apart := false, narrowed := true }
def MatchFrozenUptoSaid : Prop := matchFrozenUptoRow.holds Try.pinned (OpenSpec.upto matchFrozenSpec)

/-- 'cubeblaw02.MatchCored', WHERE WHAT IT READS IS OF BULK AT MOST 1048576: true; the input reads as it did. -/
def matchCoredUptoRow : OpenClaim := { program := "ytfplmdieeabgpaa", sum := "818e8d3b14939647c2862a7f1cf0b79a6032b77187dceda83d99af2e591d2034", func := "cubeb/cubeblaw02.MatchCored", spec := "matchCored", unfollowed := true, recurses := true, plainKeys := false, apart := false, narrowed := true }
def MatchCoredUptoSaid : Prop := matchCoredUptoRow.holds Try.pinned (OpenSpec.upto matchCoredSpec)

/-- 'cubeblaw02.MatchAcyclic', WHERE WHAT IT READS IS OF BULK AT MOST 1048576: true; the input reads as it did. -/
def matchAcyclicUptoRow : OpenClaim := { program := "ytfplmdieeabgpaa", sum := "818e8d3b14939647c2862a7f1cf0b79a6032b77187dceda83d99af2e591d2034", func := "cubeb/cubeblaw02.MatchAcyclic", spec := "matchAcyclic", unfollowed := true, recurses := true, plainKeys := false, apart := false, narrowed := true }
def MatchAcyclicUptoSaid : Prop := matchAcyclicUptoRow.holds Try.pinned (OpenSpec.upto matchAcyclicSpec)

/-- 'cubeblaw02.MatchMore', WHERE WHAT IT READS IS OF BULK AT MOST 1048576: true; the input reads as it did. -/
def matchMoreUptoRow : OpenClaim := { program := "ytfplmdieeabgpaa", sum := "818e8d3b14939647c2862a7f1cf0b79a6032b77187dceda83d99af2e591d2034", func := "cubeb/cubeblaw02.MatchMore", spec := "matchMore", unfollowed := true, recurses := true, plainKeys := false, apart := false, narrowed := true }
def MatchMoreUptoSaid : Prop := matchMoreUptoRow.holds Try.pinned (OpenSpec.upto matchMoreSpec)

/-- 'cubeblaw02.MatchReduced', WHERE WHAT IT READS IS OF BULK AT MOST 1048576: true; the input reads as it did. -/
def matchReducedUptoRow : OpenClaim := { program := "ytfplmdieeabgpaa", sum := "818e8d3b14939647c2862a7f1cf0b79a6032b77187dceda83d99af2e591d2034", func := "cubeb/cubeblaw02.MatchReduced", spec := "matchReduced", unfollowed := true, recurses := true, plainKeys := false, apart := false, narrowed := true }
def MatchReducedUptoSaid : Prop := matchReducedUptoRow.holds Try.pinned (OpenSpec.upto matchReducedSpec)

/-- 'cubeblaw02.MatchProducts', WHERE WHAT IT READS IS OF BULK AT MOST 1048576: true; the input reads as it did. -/
def matchProductsUptoRow : OpenClaim := { program := "ytfplmdieeabgpaa", sum := "818e8d3b14939647c2862a7f1cf0b79a6032b77187dceda83d99af2e591d2034", func := "cubeb/cubeblaw02.MatchProducts", spec := "matchProducts", unfollowed := true, recurses := true, plainKeys := false, apart := false, narrowed := true }
def MatchProductsUptoSaid : Prop := matchProductsUptoRow.holds Try.pinned (OpenSpec.upto matchProductsSpec)

/-- 'cubeblaw02.MatchMaps', WHERE WHAT IT READS IS OF BULK AT MOST 1048576: true; the input reads as it did. -/
def matchMapsUptoRow : OpenClaim := { program := "ytfplmdieeabgpaa", sum := "818e8d3b14939647c2862a7f1cf0b79a6032b77187dceda83d99af2e591d2034", func := "cubeb/cubeblaw02.MatchMaps", spec := "matchMaps", unfollowed := true, recurses := true, plainKeys := false, apart := false, narrowed := true }
def MatchMapsUptoSaid : Prop := matchMapsUptoRow.holds Try.pinned (OpenSpec.upto matchMapsSpec)

/-- 'cubeblaw02.MatchChains', WHERE WHAT IT READS IS OF BULK AT MOST 1048576: true; the input reads as it did. -/
def matchChainsUptoRow : OpenClaim := { program := "ytfplmdieeabgpaa", sum := "818e8d3b14939647c2862a7f1cf0b79a6032b77187dceda83d99af2e591d2034", func := "cubeb/cubeblaw02.MatchChains", spec := "matchChains", unfollowed := true, recurses := true, plainKeys := false, apart := false, narrowed := true }
def MatchChainsUptoSaid : Prop := matchChainsUptoRow.holds Try.pinned (OpenSpec.upto matchChainsSpec)

/-- 'cubeblaw02.MatchNames', WHERE WHAT IT READS IS OF BULK AT MOST 1048576: true; the input reads as it did. -/
def matchNamesUptoRow : OpenClaim := { program := "ytfplmdieeabgpaa", sum := "818e8d3b14939647c2862a7f1cf0b79a6032b77187dceda83d99af2e591d2034", func := "cubeb/cubeblaw02.MatchNames", spec := "matchNames", unfollowed := true, recurses := true, plainKeys := false, apart := false, narrowed := true }
def MatchNamesUptoSaid : Prop := matchNamesUptoRow.holds Try.pinned (OpenSpec.upto matchNamesSpec)

/-- 'cubebtop.TopCore', WHERE WHAT IT READS IS OF BULK AT MOST 1048576: true; the input reads as it did. -/
def topCoreUptoRow : OpenClaim := { program := "ytfplmdieeabgpaa", sum := "818e8d3b14939647c2862a7f1cf0b79a6032b77187dceda83d99af2e591d2034", func := "cubeb/cubebtop.TopCore", spec := "topCore", unfollowed := true, recurses := true, plainKeys := false, apart := false, narrowed := true }
def TopCoreUptoSaid : Prop := topCoreUptoRow.holds Try.pinned (OpenSpec.upto topCoreSpec)

end Rows
end Go.Proofs.Ytfplmdieeabgpaa

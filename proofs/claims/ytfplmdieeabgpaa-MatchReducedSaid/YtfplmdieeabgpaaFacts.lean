/- Closed facts on this seat's program. -/
import Derived.Test.YtfplmdieeabgpaaChecked
import Derived.Test.YtfplmdieeabgpaaBase
import Derived.WalkKit
import Derived.ProofKit
import Derived.KernelRfl
namespace Go.Proofs.Ytfplmdieeabgpaa
theorem Try.own : ownKnob Try.prog.godebug = none := by kernel_rfl
theorem Try.laidOut : laidOutB Try.prog = true := by kernel_rfl
theorem cellsInt : Try.prog.cellsOf 3 = 1 := by kernel_rfl
theorem infoInt : (Try.prog.info? 3).map (fun i => (i.zero, i.size, i.bytes)) = some (some (.int .i64 0), 1, 8) := by kernel_rfl
theorem elemInts : Elem Try.prog 22 3 1 8 := elem_of Try.underlying22 infoInt rfl (by omega) (by omega)
end Go.Proofs.Ytfplmdieeabgpaa

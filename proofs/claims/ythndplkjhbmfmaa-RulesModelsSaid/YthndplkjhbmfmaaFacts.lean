/- Closed facts on this seat's program. -/
import Derived.Test.YthndplkjhbmfmaaChecked
import Derived.Test.YthndplkjhbmfmaaBase
import Derived.WalkKit
import Derived.ProofKit
import Derived.KernelRfl
namespace Go.Proofs.Ythndplkjhbmfmaa
theorem Try.own : ownKnob Try.prog.godebug = none := by kernel_rfl
theorem Try.laidOut : laidOutB Try.prog = true := by kernel_rfl
theorem cellsInt : Try.prog.cellsOf 3 = 1 := by kernel_rfl
theorem infoInt : (Try.prog.info? 3).map (fun i => (i.zero, i.size, i.bytes)) = some (some (.int .i64 0), 1, 8) := by kernel_rfl
theorem elemInts : Elem Try.prog 23 3 1 8 := elem_of Try.underlying23 infoInt rfl (by omega) (by omega)
end Go.Proofs.Ythndplkjhbmfmaa

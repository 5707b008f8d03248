/- Closed facts on this seat's program. -/
import Derived.Test.YtpehbffkplmfjaaChecked
import Derived.Test.YtpehbffkplmfjaaOps
import Derived.WalkKit
import Derived.ProofKit
import Derived.KernelRfl
namespace Go.Proofs.Ytpehbffkplmfjaa
theorem Try.own : ownKnob Try.prog.godebug = none := by kernel_rfl
theorem Try.laidOut : laidOutB Try.prog = true := by kernel_rfl
theorem cellsInt : Try.prog.cellsOf 3 = 1 := by kernel_rfl
theorem cellsOpR : Try.prog.cellsOf 55 = 3 := by kernel_rfl
theorem infoInt : (Try.prog.info? 3).map (fun i => (i.zero, i.size, i.bytes)) = some (some (.int .i64 0), 1, 8) := by kernel_rfl
theorem elemInts : Elem Try.prog 24 3 1 8 := elem_of Try.underlying24 infoInt rfl (by omega) (by omega)
theorem infoOp : (Try.prog.info? 58).map (fun i => (i.zero, i.size, i.bytes)) = some (some (.agg #[.int .i64 0, .int .i64 0, .int .i64 0]), 3, 24) := by kernel_rfl
theorem elemOps : Elem Try.prog 29 58 3 24 := elem_of Try.underlying29 infoOp rfl (by omega) (by omega)
theorem infoOpR : (Try.prog.info? 55).map (fun i => (i.zero, i.size, i.bytes)) = some (some (.agg #[.int .i64 0, .int .i64 0, .int .i64 0]), 3, 24) := by kernel_rfl
theorem elemOpsR : Elem Try.prog 23 55 3 24 := elem_of Try.underlying23 infoOpR rfl (by omega) (by omega)
theorem sizeLives : (Try.prog.info? 70).map (·.size) = some 21 := by kernel_rfl
end Go.Proofs.Ytpehbffkplmfjaa

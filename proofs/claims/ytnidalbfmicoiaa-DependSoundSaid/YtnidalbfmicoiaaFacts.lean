/- Closed facts on this seat's program. -/
import Derived.Test.YtnidalbfmicoiaaChecked
import Derived.Test.YtnidalbfmicoiaaBase
import Derived.WalkKit
import Derived.ProofKit
import Derived.KernelRfl
namespace Go.Proofs.Ytnidalbfmicoiaa
theorem Try.own : ownKnob Try.prog.godebug = none := by kernel_rfl
theorem Try.laidOut : laidOutB Try.prog = true := by kernel_rfl
theorem Try.cells3 : Try.prog.cellsOf 3 = 1 := by kernel_rfl
theorem Try.cells56 : Try.prog.cellsOf 56 = 1 := by kernel_rfl
theorem Try.cells24 : Try.prog.cellsOf 24 = 2 := by kernel_rfl
theorem info3 : (Try.prog.info? 3).map (fun i => (i.zero, i.size, i.bytes)) = some (some (.int .i64 0), 1, 8) := by kernel_rfl
theorem elem56 : Elem Try.prog 56 3 1 8 := elem_of Try.underlying56 info3 rfl (by omega) (by omega)
theorem info56 : (Try.prog.info? 56).map (fun i => (i.zero, i.size, i.bytes)) = some (some (.slice none 0 0), 1, 24) := by kernel_rfl
theorem elem34 : Elem Try.prog 34 56 1 24 := elem_of Try.underlying34 info56 rfl (by omega) (by omega)
end Go.Proofs.Ytnidalbfmicoiaa

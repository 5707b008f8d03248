/- How many elements a set has: contracts of OnesCount64, OnesCount. -/
import Derived.Test.YtkjpbjbheocciaaGa
namespace Go.Proofs.Ytkjpbjbheocciaa
open Go.RowKit
def o1 (x : Int) : Int := IntKind.u64.wrap (bits .and .u64 (x / 2) 6148914691236517205 + bits .and .u64 x 6148914691236517205)
def o2 (y : Int) : Int := IntKind.u64.wrap (bits .and .u64 (y / 4) 3689348814741910323 + bits .and .u64 y 3689348814741910323)
def o3 (y : Int) : Int := bits .and .u64 (IntKind.u64.wrap (y / 16 + y)) 1085102592571150095
def o4 (y : Int) : Int := IntKind.u64.wrap (y + y / 256)
def o5 (y : Int) : Int := IntKind.u64.wrap (y + y / 65536)
def o6 (y : Int) : Int := IntKind.u64.wrap (y + y / 4294967296)
def ones (x : Int) : Int := bits .and .i64 (wrap64 (o6 (o5 (o4 (o3 (o2 (o1 x))))))) 127
theorem ones_pop0 : (List.range 4096).all (fun x => ones (x : Int) == (pop x : Int)) = true := by decide +kernel
theorem ones_pop {x : Nat} (h : x < 4096) : ones x = pop x := by
  have := List.all_eq_true.1 ones_pop0 x (List.mem_range.2 h)
  simpa using this
set_option maxRecDepth 100000 in
theorem ones64_any (x : Nat) (hx : x < 4096) (w : World) :
    Calls Try.prog 113 #[.int .u64 x] w fun e w' => e = .returned (.int .i64 (pop x)) ∧ w = w' := by
  have H := Lib.hid (ones_pop hx)
  have hx1 : (x : Int) < 4096 := by omega
  have hx0 : (0 : Int) ≤ x := by omega
  go_enter Try.func113, Try.ntmps113
  go_wp2_with fail
  go_ret
  exact ⟨congrArg (fun b => Ending.returned (.int .i64 b)) H.out, rfl⟩
set_option maxRecDepth 100000 in
theorem ones_any (x : Nat) (hx : x < 4096) (w : World) :
    Calls Try.prog 82 #[.int .u64 x] w fun e w' => e = .returned (.int .i64 (pop x)) ∧ w = w' := by
  have hx1 : (x : Int) < 4096 := by omega
  have hx0 : (0 : Int) ≤ x := by omega
  go_enter Try.func82, Try.ntmps82
  go_wp2_with (go_at_call 113; refine (ones64_any x hx _).mono ?_; rintro e w' ⟨rfl, rfl⟩)
  go_ret
  exact ⟨rfl, rfl⟩
end Go.Proofs.Ytkjpbjbheocciaa

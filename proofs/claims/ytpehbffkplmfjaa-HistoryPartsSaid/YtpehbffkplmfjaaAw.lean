/- Contract of awake. -/
import Derived.Test.YtpehbffkplmfjaaOrd
import Derived.Test.YtpehbffkplmfjaaEq
namespace Go.Proofs.Ytpehbffkplmfjaa
open Go.RowKit

def aw : List NOp := [(2, 1, 0), (1, 0, 0), (1, 2, 0), (2, 2, 0)]
theorem aw_i {i : Nat} (h : i < aw.length) : i = 0 ∨ i = 1 ∨ i = 2 ∨ i = 3 := by
  have : aw.length = 4 := rfl
  omega
theorem aw_vh : VH aw where
  le := by decide
  t6 := fun i hi => by rcases aw_i hi with rfl | rfl | rfl | rfl <;> decide
  k3 := fun i hi => by rcases aw_i hi with rfl | rfl | rfl | rfl <;> decide
  x5 := fun i hi => by rcases aw_i hi with rfl | rfl | rfl | rfl <;> decide
  once := fun i hi j hj => by
    rcases aw_i hi with rfl | rfl | rfl | rfl
    · omega
    · rcases (by omega : j = 0) with rfl
      decide
    · rcases (by omega : j = 0 ∨ j = 1) with rfl | rfl <;> decide
    · rcases (by omega : j = 0 ∨ j = 1 ∨ j = 2) with rfl | rfl | rfl <;> decide
theorem aw_ord : ordN aw = some [2, 1] := by decide +kernel
set_option maxRecDepth 100000 in
set_option maxHeartbeats 4000000 in
theorem awake_any (w : World) : Calls Try.prog 21 #[] w fun e w' => e = .returned (.bool true) ∧ Below w.heap.size w w' := by
  have HO := Lib.hid (fun (v : Value) (w : World) (hv : Ops w v (castO aw)) => order_any aw_vh v w hv)
  rw [aw_ord] at HO
  go_enter Try.func21, Try.ntmps21
  go_wp2_with fail
  have hOps : Ops (w.alloc (.cells #[.int .i64 2, .int .i64 1, .int .i64 0, .int .i64 1, .int .i64 0, .int .i64 0, .int .i64 1, .int .i64 2, .int .i64 0, .int .i64 2, .int .i64 2, .int .i64 0] 58)) (.slice (some ⟨w.heap.size, 0, none⟩) 4 4) (castO aw) := rd_new w #[.int .i64 2, .int .i64 1, .int .i64 0, .int .i64 1, .int .i64 0, .int .i64 0, .int .i64 1, .int .i64 2, .int .i64 0, .int .i64 2, .int .i64 2, .int .i64 0] 58 3 4 rfl (by unfold maxLen; omega)
  refine (HO.out _ _ hOps).mono ?_
  rintro e w1 ⟨v1, rfl, hI, hb⟩
  have Hb1 := Lib.hid (Below.tr (below_alloc _ _) hb)
  obtain ⟨a1, c1, hv1⟩ : ∃ a c, v1 = .slice a 2 c := ints_slice hI
  subst hv1
  have HI := Lib.hid hI
  clear hI hb hOps HO
  go_wp2_with fail
  have hE := equal_yes rfl (.slice a1 2 c1) (.slice (some ⟨w1.heap.size, 0, none⟩) 2 2) (w1.alloc (.cells #[.int .i64 2, .int .i64 1] 3)) (HI.out.keep (below_alloc _ _)) (rd_new w1 #[.int .i64 2, .int .i64 1] 3 1 2 rfl (by unfold maxLen; omega))
  refine hE.mono ?_
  rintro e w2 ⟨rfl, hb2⟩
  have Hb2 := Lib.hid (Below.tr (Below.tr Hb1.out (below_alloc _ _)) hb2)
  clear hb2 hE
  go_wp2_with fail
  go_ret
  exact ⟨rfl, Hb2.out⟩
#print axioms awake_any
end Go.Proofs.Ytpehbffkplmfjaa

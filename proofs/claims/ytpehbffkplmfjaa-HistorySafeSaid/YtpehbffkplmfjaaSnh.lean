/- Contracts of Snapshot and SnapshotOrder. -/
import Derived.Test.YtpehbffkplmfjaaSng
import Derived.Test.YtpehbffkplmfjaaOrd
namespace Go.Proofs.Ytpehbffkplmfjaa
open Go.RowKit
/-- allowed by snapshots -/
def AllP (h : List NOp) : Prop := ∀ a, a ∈ comN h 7 → ∀ c, c ∈ comN h 7 → a ≠ c → ¬ Bad h (snW h h.length) a c
set_option maxRecDepth 100000 in
set_option maxHeartbeats 4000000 in
theorem snap_bad {l : List HOp} (hn : ¬ ValidH l) (v : Value) (w : World) (hv : Ops w v l) :
    Calls Try.prog 32 #[v] w fun e w' => e = .returned (.tuple #[.bool false, .int .i64 2]) ∧ Below w.heap.size w w' := by
  have HV := Lib.hid (valid_any l v w hv)
  rw [decide_eq_false hn] at HV
  obtain ⟨a, c, rfl⟩ := ops_slice hv
  clear hv hn
  go_enter Try.func32, Try.ntmps32
  go_wp2_with fail
  refine HV.out.mono ?_
  rintro e w1 ⟨rfl, hb1⟩
  have Hb1 := Lib.hid hb1
  clear hb1
  go_wp2_with fail
  go_ret2
  exact ⟨rfl, Hb1.out⟩
set_option maxRecDepth 100000 in
set_option maxHeartbeats 4000000 in
theorem snap_any {h : List NOp} (hh : VH h) (v : Value) (w : World) (hv : Ops w v (castO h)) :
    Calls Try.prog 32 #[v] w fun e w' => ∃ B : Bool, e = .returned (.tuple #[.bool B, .int .i64 0]) ∧ (B = true ↔ AllP h) ∧ Below w.heap.size w w' := by
  have HV := Lib.hid (valid_any (castO h) v w hv)
  rw [decide_eq_true (valid_of hh)] at HV
  have HS := Lib.hid (fun (w' : World) (hb : Below w.heap.size w w') => snapshotsOf_any hh v w' (Ops.keep hv hb))
  have HW := Lib.hid (snW_lt hh h.length (Nat.le_refl _))
  have Hl := Lib.hid (comN_le h 7)
  obtain ⟨a, c, rfl⟩ := ops_slice hv
  clear hv hh
  go_enter Try.func32, Try.ntmps32
  go_wp2_with fail
  refine HV.out.mono ?_
  rintro e w1 ⟨rfl, hb1⟩
  have Hb1 := Lib.hid hb1
  have HS1 := Lib.hid (HS.out w1 hb1)
  clear hb1 HV HS
  go_wp2_with fail
  refine HS1.out.mono ?_
  rintro e w2 ⟨b, u, rfl, _, hs, hi, hb2⟩
  have HA := Lib.hid (allowed_any hs hi (fun x hx => comN_lt hx) Hl.out HW.out)
  have Hb2 := Lib.hid (Below.tr Hb1.out hb2)
  clear hs hi hb2 HS1
  go_wp2_with fail
  refine HA.out.mono ?_
  rintro e w3 ⟨B, rfl, hB, hb3⟩
  have HB := Lib.hid hB
  have Hb3 := Lib.hid (Below.tr Hb2.out hb3)
  clear hB hb3
  go_wp2_with fail
  go_ret2
  exact ⟨B, rfl, HB.out, Hb3.out⟩
#print axioms snap_any
end Go.Proofs.Ytpehbffkplmfjaa

/- The shelf at this seat: slices.Clone and slices.Compact at bytes. -/
import Derived.Shelf.SlicesE.Compact
import Derived.Shelf.SlicesE.Clone
import Derived.Test.YtbnlkmblkokooaaChecked
namespace Go.Proofs
open Go.Shelf
def Try.bytesClone_ren : Go.Shelf.Ren := ⟨fun | 41 => 84 | n => n, fun | 4 => 4 | 22 => 53 | 23 => 5 | n => n, fun | n => n⟩
theorem Try.bytesClone : Go.Proofs.SlLaysE0.n41 Try.prog Try.bytesClone_ren := {
  mixed := by kernel_rfl
  f41 := ⟨Try.f84.name, by decide, Try.func84.trans (congrArg some (by kernel_rfl))⟩
  t4 := Try.underlying4
  a4 := Try.isAgg4
  z4 := Try.sizeOf4
  v4 := Try.zeroValue4
  t22 := Try.underlying53
  a22 := Try.isAgg53
  z22 := Try.sizeOf53
  v22 := Try.zeroValue53 }
def Try.bytesCompact_ren : Go.Shelf.Ren := ⟨fun | 43 => 85 | n => n, fun | 0 => 0 | 3 => 3 | 4 => 4 | 22 => 53 | 23 => 5 | n => n, fun | n => n⟩
theorem Try.bytesCompact : Go.Proofs.SlLaysE.n43 Try.prog Try.bytesCompact_ren := {
  mixed := by kernel_rfl
  f43 := ⟨Try.f85.name, by decide, Try.func85.trans (congrArg some (by kernel_rfl))⟩
  t0 := Try.underlying0
  a0 := Try.isAgg0
  z0 := Try.sizeOf0
  v0 := Try.zeroValue0
  t3 := Try.underlying3
  a3 := Try.isAgg3
  z3 := Try.sizeOf3
  v3 := Try.zeroValue3
  t4 := Try.underlying4
  a4 := Try.isAgg4
  z4 := Try.sizeOf4
  v4 := Try.zeroValue4
  t22 := Try.underlying53
  a22 := Try.isAgg53
  z22 := Try.sizeOf53
  v22 := Try.zeroValue53
  a23 := Try.isAgg5
  z23 := Try.sizeOf5 }
open Go.RowKit in
theorem Try.compact_bytes (blk off cap : Nat) (d : Array Int) (w : World) (hH : Go.Sort.Holds (Value.int .u8) w blk off d) (hsz : d.size ≤ 9223372036854775807) (hcap : d.size ≤ cap) :
    Calls Try.prog 85 #[.slice (some ⟨blk, off, none⟩) d.size cap] w fun e w' => e = .returned (.slice (some ⟨blk, off, none⟩) (Lib.compactUpTo d d.size).length cap) ∧
      ∃ q, w' = Go.Sort.putRow (Value.int .u8) (Go.Sort.ahead w q) blk off (Lib.compactUpTo d d.size ++ List.replicate (d.size - (Lib.compactUpTo d d.size).length) 0).toArray :=
  AnyE.slices_Compact Try.bytesCompact (Value.int .u8) (fun _ => rfl) (EqlAt.intD _ _ _) (NeqAt.intD _ _ _) 0 Try.zeroValue5 blk off cap d w hH hsz hcap
open Go.RowKit in
theorem Try.clone_bytes (b off n c : Nat) (news : List Value) (w : World) (hl : news.length = n) (hn : n ≤ 1000000)
    (hc : ∀ j u, news[j]? = some u → w.cell? ⟨b, off + j, none⟩ = some u) (h1 : ∀ u ∈ news, u.oneCell' = true) :
    Calls Try.prog 84 #[.slice (some ⟨b, off, none⟩) n c] w fun e w' => ∃ v', e = .returned v' ∧ w'.ownsRow w.heap.size 5 1 v' n news ∧ v' ≠ .slice none 0 0 ∧ Below w.heap.size w w' := by
  obtain ⟨i0, hi, he⟩ := Option.map_eq_some_iff.1 (show (Try.prog.info? 5).map (fun i => (i.zero, i.size, i.bytes)) = some (some (.int .u8 0), 1, 1) by kernel_rfl)
  simp only [Prod.mk.injEq] at he
  exact AnyE.slices_Clone Try.bytesClone i0 (.int .u8 0) 1 1 hi he.1 he.2.1 he.2.2 rfl (by decide) Try.sizeOf5 b off n c news w (by omega) (by unfold maxLen; omega) (by omega) hc h1
#print axioms Try.clone_bytes
#print axioms Try.compact_bytes
end Go.Proofs

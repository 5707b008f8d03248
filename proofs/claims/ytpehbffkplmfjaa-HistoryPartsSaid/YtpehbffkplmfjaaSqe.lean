/- Contract of slices.Equal of triples, of equal ones. -/
import Derived.Test.YtpehbffkplmfjaaLiv
import Derived.Test.YtpehbffkplmfjaaCom
import Derived.Test.YtpehbffkplmfjaaVeq
namespace Go.Proofs.Ytpehbffkplmfjaa
open Go.RowKit
def tri3 (x : List NOp) (k j : Nat) : Nat := if j = 0 then tT x k else if j = 1 then tK x k else tI x k
theorem load_tri {x : List NOp} {k : Nat} {w : World} {b o : Nat} (h0 : w.cell? ⟨b, o, none⟩ = some (.int .i64 (tT x k : Nat))) (h1 : w.cell? ⟨b, o + 1, none⟩ = some (.int .i64 (tK x k : Nat))) (h2 : w.cell? ⟨b, o + 2, none⟩ = some (.int .i64 (tI x k : Nat))) (w' : World) (hw : ∃ q, w' = w.drewN q) :
    (loadVar 48 ⟨b, o, none⟩).run Try.prog w' = .ok (.agg (ints 3 (tri3 x k))) w' := by
  obtain ⟨q, rfl⟩ := hw
  have hl := run_loadCells (P := Try.prog) (w.drewN q) ⟨b, o, none⟩ 3 (fun j => .int .i64 (tri3 x k j : Nat)) (fun j hj => by
    rw [Addr.add_lit]
    show w.cell? _ = _
    rcases (show j = 0 ∨ j = 1 ∨ j = 2 by omega) with rfl | rfl | rfl
    · exact h0
    · exact h1
    · exact h2)
  have hi : (Try.prog.info? 48).map (·.size) = some 3 := by kernel_rfl
  cases hq : Try.prog.info? 48 with
  | none => simp [hq] at hi
  | some i =>
    have hs : i.size = 3 := by simpa [hq] using hi
    have hagg : (isAgg 48).run Try.prog (w.drewN q) = .ok true (w.drewN q) := by
      unfold isAgg
      rw [Sem.run_bind, run_underlying (show Try.prog.underlying 48 = some (.array 3 3) by kernel_rfl) (w.drewN q)]
      rfl
    simp [loadVar, Sem.run_bind, hagg, sizeOf, typeInfo, hq, hs, hl]
    rfl
theorem same_self (n : Nat) (f : Nat → Nat) : sameTo n f f = true := by simp [sameTo]
set_option maxRecDepth 100000 in
set_option maxHeartbeats 8000000 in
theorem equalT_yes (x : List NOp) (v u : Value) (w : World) (hv : Ops w v (castO x)) (hu : Ops w u (castO x)) :
    Calls Try.prog 38 #[v, u] w fun e w' => e = .returned (.bool true) ∧ Below w.heap.size w w' := by
  obtain ⟨a, b, off, cap, rfl, hle, ha, hcap, hc⟩ := Ops.nat hv
  obtain ⟨a', b', off', cap', rfl, hle', ha', hcap', hc'⟩ := Ops.nat hu
  have hix := run_ix (P := Try.prog) (t := 43) (a := a) (len := x.length) (cap := cap) (b := b) (off := off) (s := 3) Try.underlying43 (by intro w; kernel_rfl) ha
  have hix' := run_ix (P := Try.prog) (t := 43) (a := a') (len := x.length) (cap := cap') (b := b') (off := off') (s := 3) Try.underlying43 (by intro w; kernel_rfl) ha'
  have Hix := Lib.hid hix
  have Hix' := Lib.hid hix'
  have HL1 := Lib.hid (fun (k : Nat) (hk : k < x.length) (wr : World) (hb : Below w.heap.size w wr) => load_tri (Below.keep hb (hc k hk).1) (Below.keep hb (hc k hk).2.1) (Below.keep hb (hc k hk).2.2))
  have HL2 := Lib.hid (fun (k : Nat) (hk : k < x.length) (wr : World) (hb : Below w.heap.size w wr) => load_tri (Below.keep hb (hc' k hk).1) (Below.keep hb (hc' k hk).2.1) (Below.keep hb (hc' k hk).2.2))
  have He := Lib.hid (fun k w => run_eql_ints (P := Try.prog) (t := 48) (n := 3) (by kernel_rfl) (by kernel_rfl) Try.underlying3 (by kernel_rfl) (by kernel_rfl) (tri3 x k) (tri3 x k) w)
  clear hix hix' ha ha' hc hc' hv hu hcap hcap' hle
  go_enter Try.func38, Try.ntmps38
  go_wp2_with fail
  go_loopw [13] (fun i wr => ∃ k : Nat, i = .int .i64 k ∧ k ≤ x.length ∧ Below w.heap.size w wr) (fun i _ => x.length - (intOf i).toNat)
  case atStart => exact ⟨0, rfl, Nat.zero_le _, Below.refl _ _⟩
  case round =>
    obtain ⟨k, rfl, hk, hb⟩ := hrel
    have Hb := Lib.hid hb
    clear hb
    by_cases hlt : k < x.length
    · have hixk := Hix.out k
      have hixk' := Hix'.out k
      have HA1 := Lib.hid (HL1.out k hlt wr Hb.out)
      have HA2 := Lib.hid (HL2.out k hlt wr Hb.out)
      have he := He.out k
      rw [same_self] at he
      obtain ⟨A, hA⟩ : ∃ A, A = ints 3 (tri3 x k) := ⟨_, rfl⟩
      rw [← hA] at HA1 HA2 he
      clear hA
      go_wp2_with fail
      refine wp_region_quiet_lit (by kernel_rfl) (by kernel_rfl) ?_
      iterate 3 (go_big_quiet_step (fail))
      refine BigFrame.wpQuiet_want (by kernel_rfl) (fun K hK => quiet_load 48 (.tmp 18) rfl ⟨b, off + k * 3, none⟩ rfl _ HA1.out (hK _ ?_))
      simp only [Act.put, List.setIfInBounds_toArray, List.set_cons_zero, List.set_cons_succ]
      iterate 3 (go_big_quiet_step (fail))
      refine BigFrame.wpQuiet_want (by kernel_rfl) (fun K hK => quiet_load 48 (.tmp 22) rfl ⟨b', off' + k * 3, none⟩ rfl _ HA2.out (hK _ ?_))
      simp only [Act.put, List.setIfInBounds_toArray, List.set_cons_zero, List.set_cons_succ]
      iterate 1 (go_big_quiet_step (fail))
      refine wpQuiet_nil ?_
      rintro w' ⟨nq, rfl⟩
      go_wp2_with fail
      go_roundw
      case rel => exact ⟨k + 1, by go_num, by omega, bdrewN Hb.out _⟩
      case measure => simp [intOf]; omega
    · obtain rfl : k = x.length := by omega
      go_wp2_with fail
      go_ret
      exact ⟨rfl, Hb.out⟩
#print axioms equalT_yes
end Go.Proofs.Ytpehbffkplmfjaa

/- Contracts of slices.Index and slices.Contains of operations. -/
import Derived.Test.YtpehbffkplmfjaaBlk
import Derived.Test.YtpehbffkplmfjaaVeq
import Derived.Laws.StructEq
namespace Go.Proofs.Ytpehbffkplmfjaa
open Go.RowKit
theorem fsOp : (Try.prog.fieldsOf 58).toList = [{ name := "Txn", type := 3, offset := 0, embedded := false, tag := "", pkgPath := "", byteOffset := 0 }, { name := "Kind", type := 3, offset := 1, embedded := false, tag := "", pkgPath := "", byteOffset := 8 }, { name := "Item", type := 3, offset := 2, embedded := false, tag := "", pkgPath := "", byteOffset := 16 }] := by kernel_rfl
theorem part_op (a b c : Int) (w : World) : (part 3 #[.int .i64 a, .int .i64 b, .int .i64 c] 0).run Try.prog w = .ok (.int .i64 a) w ∧ (part 3 #[.int .i64 a, .int .i64 b, .int .i64 c] 1).run Try.prog w = .ok (.int .i64 b) w ∧ (part 3 #[.int .i64 a, .int .i64 b, .int .i64 c] 2).run Try.prog w = .ok (.int .i64 c) w :=
  ⟨run_part_plain w (by kernel_rfl) rfl, run_part_plain w (by kernel_rfl) rfl, run_part_plain w (by kernel_rfl) rfl⟩
theorem run_eql_op (a b c x y z : Int) (w : World) : (Op.equalIn 10000 58 (.agg #[.int .i64 a, .int .i64 b, .int .i64 c]) (.agg #[.int .i64 x, .int .i64 y, .int .i64 z])).run Try.prog w = .ok (decide ((a, b, c) = (x, y, z))) w := by
  obtain ⟨p1, p2, p3⟩ := part_op a b c w
  obtain ⟨q1, q2, q3⟩ := part_op x y z w
  have hi : ∀ n m : Int, (Op.equalIn 9999 3 (.int .i64 n) (.int .i64 m)).run Try.prog w = .ok (n == m) w := fun n m => run_equalIn_int (P := Try.prog) w 9998 3 .i64 .i64 n m Try.underlying3
  rw [show (10000 : Nat) = 9999 + 1 from rfl, run_equalIn_struct w 9999 58 _ _ (by kernel_rfl) (by kernel_rfl), fsOp]
  simp [Op.eqFields, Sem.run_bind, p1, p2, p3, q1, q2, q3, hi]
  by_cases e1 : a = x
  · by_cases e2 : b = y
    · by_cases e3 : c = z
      · simp [e1, e2, e3]
      · simp [e1, e2, e3]
    · simp [e1, e2]
  · simp [e1]
theorem load_op {x y z : Int} {w : World} {b o : Nat} (h0 : w.cell? ⟨b, o, none⟩ = some (.int .i64 x)) (h1 : w.cell? ⟨b, o + 1, none⟩ = some (.int .i64 y)) (h2 : w.cell? ⟨b, o + 2, none⟩ = some (.int .i64 z)) (w' : World) (hw : ∃ q, w' = w.drewN q) :
    (loadVar 58 ⟨b, o, none⟩).run Try.prog w' = .ok (.agg #[.int .i64 x, .int .i64 y, .int .i64 z]) w' := by
  obtain ⟨q, rfl⟩ := hw
  have hl := run_loadCells (P := Try.prog) (w.drewN q) ⟨b, o, none⟩ 3 (fun j => if j = 0 then .int .i64 x else if j = 1 then .int .i64 y else .int .i64 z) (fun j hj => by
    rw [Addr.add_lit]
    show w.cell? _ = _
    rcases (show j = 0 ∨ j = 1 ∨ j = 2 by omega) with rfl | rfl | rfl
    · exact h0
    · exact h1
    · exact h2)
  have hi : (Try.prog.info? 58).map (·.size) = some 3 := by kernel_rfl
  cases hq : Try.prog.info? 58 with
  | none => simp [hq] at hi
  | some i =>
    have hs : i.size = 3 := by simpa [hq] using hi
    have hagg : (isAgg 58).run Try.prog (w.drewN q) = .ok true (w.drewN q) := by
      unfold isAgg
      rw [Sem.run_bind, run_underlying Try.underlying58 (w.drewN q)]
      rfl
    simp [loadVar, Sem.run_bind, hagg, sizeOf, typeInfo, hq, hs, hl]
    rfl
set_option maxRecDepth 100000 in
set_option maxHeartbeats 4000000 in
theorem indexO_any (x y z : Int) (l : List HOp) (v : Value) (w : World) (hv : Ops w v l) :
    Calls Try.prog 82 #[v, .agg #[.int .i64 x, .int .i64 y, .int .i64 z]] w fun e w' => ∃ i : Int, e = .returned (.int .i64 i) ∧ (0 ≤ i ↔ (x, y, z) ∈ l) ∧ Below w.heap.size w w' := by
  obtain ⟨a, b, off, cap, rfl, hle, ha, hcap, hc⟩ := Ops.get hv
  have hix := run_ix (P := Try.prog) (t := 29) (a := a) (len := l.length) (cap := cap) (b := b) (off := off) (s := 3) Try.underlying29 (by intro w; kernel_rfl) ha
  have Hix := Lib.hid hix
  have Hc := Lib.hid hc
  obtain ⟨w1, hw1⟩ : ∃ w1, w1 = w.alloc (.cells #[.int .i64 x, .int .i64 y, .int .i64 z] 58) := ⟨_, rfl⟩
  have Hb1 := Lib.hid (show Below w.heap.size w w1 from by rw [hw1]; exact below_alloc _ _)
  have g0 : w1.cell? ⟨w.heap.size, 0, none⟩ = some (.int .i64 x) := by rw [hw1]; exact cell_new w _ _ 0
  have g1 : w1.cell? ⟨w.heap.size, 1, none⟩ = some (.int .i64 y) := by rw [hw1]; exact cell_new w _ _ 1
  have g2 : w1.cell? ⟨w.heap.size, 2, none⟩ = some (.int .i64 z) := by rw [hw1]; exact cell_new w _ _ 2
  have HG := Lib.hid (And.intro g0 (And.intro g1 g2))
  have Hw1 := Lib.hid hw1
  clear ha hv hc hix hcap g0 g1 g2 hw1
  go_enter Try.func82, Try.ntmps82
  go_wp2_with fail
  rw [← Hw1.out]
  clear Hw1
  obtain ⟨pb, hpb⟩ : ∃ p, p = w.heap.size := ⟨_, rfl⟩
  rw [← hpb] at HG ⊢
  go_loopw [8] (fun i wr => ∃ k : Nat, i = .int .i64 k ∧ k ≤ l.length ∧ Below w1.heap.size w1 wr ∧ ∀ q, q < k → l.getD q (0, 0, 0) ≠ (x, y, z)) (fun i _ => l.length - (intOf i).toNat)
  case atStart => exact ⟨0, rfl, Nat.zero_le _, Below.refl _ _, fun q hq => by omega⟩
  case round =>
    obtain ⟨k, rfl, hk, hb, hin⟩ := hrel
    have Hin := Lib.hid hin
    have Hb := Lib.hid hb
    clear hin hb
    have Hbw := Lib.hid (Below.tr Hb1.out Hb.out)
    by_cases hlt : k < l.length
    · have hc1 := Below.keep Hbw.out (Hc.out k hlt).1
      have hc2 := Below.keep Hbw.out (Hc.out k hlt).2.1
      have hc3 := Below.keep Hbw.out (Hc.out k hlt).2.2
      have g0 := Below.keep Hb.out HG.out.1
      have g1 := Below.keep Hb.out HG.out.2.1
      have g2 := Below.keep Hb.out HG.out.2.2
      have hixk := Hix.out k
      have He := Lib.hid (show l.getD k (0, 0, 0) = (oT l k, oK l k, oI l k) from rfl)
      have Hm := Lib.hid (show l.getD k (0, 0, 0) ∈ l from by rw [List.getD_eq_getElem?_getD, List.getElem?_eq_getElem hlt]; exact List.getElem_mem hlt)
      have HS := Lib.hid (fun (e : l.getD k (0, 0, 0) ≠ (x, y, z)) => show ∀ q, q < k + 1 → l.getD q (0, 0, 0) ≠ (x, y, z) from fun q hq => by
        by_cases e2 : q = k
        · subst e2; exact e
        · exact Hin.out q (by omega))
      obtain ⟨T, hT⟩ : ∃ T, T = oT l k := ⟨_, rfl⟩
      obtain ⟨K, hK⟩ : ∃ T, T = oK l k := ⟨_, rfl⟩
      obtain ⟨J, hJ⟩ : ∃ T, T = oI l k := ⟨_, rfl⟩
      rw [← hT] at hc1 He
      rw [← hK] at hc2 He
      rw [← hJ] at hc3 He
      clear hT hK hJ
      have HA1 := Lib.hid (load_op g0 g1 g2)
      have HA2 := Lib.hid (load_op hc1 hc2 hc3)
      have he := run_eql_op x y z T K J
      have HBx := Lib.hid (fun n => bdrewN Hb.out n)
      have HBw := Lib.hid (fun n => bdrewN Hbw.out n)
      obtain ⟨A1, hA1⟩ : ∃ A : Array Value, A = #[.int .i64 x, .int .i64 y, .int .i64 z] := ⟨_, rfl⟩
      obtain ⟨A2, hA2⟩ : ∃ A : Array Value, A = #[.int .i64 T, .int .i64 K, .int .i64 J] := ⟨_, rfl⟩
      rw [← hA1] at HA1 he
      rw [← hA2] at HA2 he
      clear hA1 hA2 g0 g1 g2 hc1 hc2 hc3
      by_cases e : (x, y, z) = (T, K, J)
      · have R := Lib.hid (show (0 ≤ (k : Int) ↔ (x, y, z) ∈ l) from ⟨fun _ => by rw [e, ← He.out]; exact Hm.out, fun _ => by omega⟩)
        rw [decide_eq_true e] at he
        clear e
        go_wp2_with fail
        refine wp_region_quiet_lit (by kernel_rfl) (by kernel_rfl) ?_
        refine BigFrame.wpQuiet_want (by kernel_rfl) (fun K hK => quiet_load 58 (.tmp 3) rfl ⟨pb, 0, none⟩ rfl _ HA1.out (hK _ ?_))
        simp only [Act.put, List.setIfInBounds_toArray, List.set_cons_zero, List.set_cons_succ]
        iterate 3 (go_big_quiet_step (fail))
        refine BigFrame.wpQuiet_want (by kernel_rfl) (fun K hK => quiet_load 58 (.tmp 14) rfl ⟨b, off + k * 3, none⟩ rfl _ HA2.out (hK _ ?_))
        simp only [Act.put, List.setIfInBounds_toArray, List.set_cons_zero, List.set_cons_succ]
        iterate 1 (go_big_quiet_step (fail))
        refine wpQuiet_nil ?_
        rintro w' ⟨nq, rfl⟩
        go_wp2_with fail
        go_ret
        exact ⟨_, rfl, R.out, HBw.out _⟩
      · have R := Lib.hid (HS.out (fun r => e (by rw [← r, He.out])))
        rw [decide_eq_false e] at he
        clear e
        go_wp2_with fail
        refine wp_region_quiet_lit (by kernel_rfl) (by kernel_rfl) ?_
        refine BigFrame.wpQuiet_want (by kernel_rfl) (fun K hK => quiet_load 58 (.tmp 3) rfl ⟨pb, 0, none⟩ rfl _ HA1.out (hK _ ?_))
        simp only [Act.put, List.setIfInBounds_toArray, List.set_cons_zero, List.set_cons_succ]
        iterate 3 (go_big_quiet_step (fail))
        refine BigFrame.wpQuiet_want (by kernel_rfl) (fun K hK => quiet_load 58 (.tmp 14) rfl ⟨b, off + k * 3, none⟩ rfl _ HA2.out (hK _ ?_))
        simp only [Act.put, List.setIfInBounds_toArray, List.set_cons_zero, List.set_cons_succ]
        iterate 1 (go_big_quiet_step (fail))
        refine wpQuiet_nil ?_
        rintro w' ⟨nq, rfl⟩
        go_wp2_with fail
        go_roundw
        case rel => exact ⟨k + 1, by go_num, by omega, HBx.out _, R.out⟩
        case measure => simp [intOf]; omega
    · obtain rfl : k = l.length := by omega
      have R := Lib.hid (show (0 ≤ (-1 : Int) ↔ (x, y, z) ∈ l) from ⟨fun h => by omega, fun h => by
        obtain ⟨i, hi, e⟩ := List.getElem_of_mem h
        have := Hin.out i hi
        rw [List.getD_eq_getElem?_getD, List.getElem?_eq_getElem hi] at this
        exact absurd e this⟩)
      go_wp2_with fail
      go_ret
      exact ⟨_, rfl, R.out, Hbw.out⟩
set_option maxRecDepth 100000 in
set_option maxHeartbeats 4000000 in
theorem containsO_any (x y z : Int) (l : List HOp) (v : Value) (w : World) (hv : Ops w v l) :
    Calls Try.prog 44 #[v, .agg #[.int .i64 x, .int .i64 y, .int .i64 z]] w fun e w' => e = .returned (.bool (decide ((x, y, z) ∈ l))) ∧ Below w.heap.size w w' := by
  have H := Lib.hid (fun w' (hb : Below w.heap.size w w') => indexO_any x y z l v w' (Ops.keep hv hb))
  obtain ⟨w1, hw1⟩ : ∃ w1, w1 = w.alloc (.cells #[.int .i64 x, .int .i64 y, .int .i64 z] 58) := ⟨_, rfl⟩
  have Hb1 := Lib.hid (show Below w.heap.size w w1 from by rw [hw1]; exact below_alloc _ _)
  have H1 := Lib.hid (H.out w1 Hb1.out)
  have Hw1 := Lib.hid hw1
  obtain ⟨a, c, rfl⟩ := ops_slice hv
  clear hv hw1 H
  go_enter Try.func44, Try.ntmps44
  go_wp2_with fail
  rw [← Hw1.out]
  refine H1.out.mono ?_
  rintro e w' ⟨i, rfl, hi, hb⟩
  have Hi := Lib.hid (show decide (0 ≤ i) = decide ((x, y, z) ∈ l) from decide_eq_decide.2 hi)
  have Hb := Lib.hid (Below.tr Hb1.out hb)
  clear hi H1 hb Hw1
  go_wp2_with fail
  go_ret
  exact ⟨congrArg (fun b => Ending.returned (.bool b)) Hi.out, Hb.out⟩
#print axioms containsO_any
end Go.Proofs.Ytpehbffkplmfjaa

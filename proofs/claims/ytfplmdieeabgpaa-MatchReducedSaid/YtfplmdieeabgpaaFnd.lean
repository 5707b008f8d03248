/- Contracts of find and Count. -/
import Derived.Test.YtfplmdieeabgpaaMat
import Derived.Test.YtfplmdieeabgpaaFrh
import Derived.Test.YtfplmdieeabgpaaVfa
namespace Go.Proofs.Ytfplmdieeabgpaa
open Go.RowKit
theorem okB_of {q : HQ} {l : List HAt} (h : QrV q) (hf : FsV l) : OkB l q.2 := by
  refine ⟨fun b hb t ht => ?_, fun f hf' x hx => ?_⟩
  · obtain ⟨i, hi, rfl⟩ := List.getElem_of_mem hb
    have := (h.2.1 i hi).2.2 t (by rw [at_get hi] at ht; exact ht)
    omega
  · obtain ⟨i, hi, rfl⟩ := List.getElem_of_mem hf'
    exact (hf.2 i hi).2.2 x (by rw [at_get hi] at hx; exact hx)
theorem matchesV_any {q : HQ} {l : List HAt} (h : QrV q) (hf : FsV l) (u u2 : Value) (w : World) (hu : Atoms w u q.2) (hu2 : Atoms w u2 l) :
    Calls Try.prog 104 #[u, u2] w fun e w' => MatE l q.2 w e w' ∧ Below w.heap.size w w' :=
  matches_any l q.2 (okB_of h hf) (by have := h.1; omega) (by have := hf.1; omega) (fun k hk i hi => (qv_args h k hk).2 i hi) u u2 w hu hu2
set_option maxRecDepth 100000 in
set_option maxHeartbeats 8000000 in
theorem find_bad {q : HQ} {l : List HAt} (hn : ¬ (QrV q ∧ FsV l)) (v u : Value) (w : World) (hq : Qr w v q) (hu : Atoms w u l) :
    Calls Try.prog 65 #[v, u] w fun e w' => e = .returned (.tuple #[.map none, .int .i64 2]) ∧ Below w.heap.size w w' := by
  obtain ⟨h0, b0, rfl, hh, hb⟩ := hq
  obtain ⟨w1, hw1⟩ : ∃ w1, w1 = w.alloc (.cells #[h0, b0] 33) := ⟨_, rfl⟩
  have hb1 : Below w.heap.size w w1 := by rw [hw1]; exact below_alloc _ _
  have g0 : w1.cell? ⟨w.heap.size, 0, none⟩ = some h0 := by rw [hw1]; exact cell_new w _ _ 0
  have g1 : w1.cell? ⟨w.heap.size, 1, none⟩ = some b0 := by rw [hw1]; exact cell_new w _ _ 1
  have hV := fun B (hB : decide (QrV q) = B) => qryValid_any q (.agg #[h0, b0]) w1 ⟨h0, b0, rfl, hh.keep hb1, hb.keep hb1⟩ B hB
  have HF := Lib.hid (fun w' (hb' : Below w.heap.size w w') B (hB : decide (FsV l) = B) => validFacts_any l u w' (hu.keep hb') B hB)
  obtain ⟨ha, hc, rfl⟩ := ints_slice hh
  obtain ⟨ba, bc, rfl⟩ := atoms_slice hb
  obtain ⟨ua, uc, rfl⟩ := atoms_slice hu
  have Hb1 := Lib.hid hb1
  have Hw1 := Lib.hid hw1
  clear hh hb hb1 hw1 hu
  by_cases c : QrV q
  · have c2 : ¬ FsV l := fun h => hn ⟨c, h⟩
    have HV := Lib.hid (hV true (decide_eq_true c))
    have HF := Lib.hid (fun w' hb' => HF.out w' hb' false (decide_eq_false c2))
    clear hV hn c c2
    go_enter Try.func65, Try.ntmps65
    go_upto_region 1 with fail
    rw [← Hw1.out]
    clear Hw1
    go_wp2_with fail
    refine HV.out.mono ?_
    rintro e w2 ⟨rfl, hb2⟩
    have Hb2 := Lib.hid (Below.tr Hb1.out hb2)
    clear hb2 g0 g1
    go_wp2_with fail
    refine (HF.out _ Hb2.out).mono ?_
    rintro e w3 ⟨rfl, hb3⟩
    have Hb3 := Lib.hid (Below.tr Hb2.out hb3)
    clear hb3
    go_wp2_with fail
    go_ret2
    exact ⟨rfl, Hb3.out⟩
  · have HV := Lib.hid (hV false (decide_eq_false c))
    clear hV hn c HF
    go_enter Try.func65, Try.ntmps65
    go_upto_region 1 with fail
    rw [← Hw1.out]
    clear Hw1
    go_wp2_with fail
    refine HV.out.mono ?_
    rintro e w2 ⟨rfl, hb2⟩
    have Hb2 := Lib.hid (Below.tr Hb1.out hb2)
    clear hb2 g0 g1
    go_wp2_with fail
    go_ret2
    exact ⟨rfl, Hb2.out⟩
/-- what find returns in the end -/
def FindE (q : HQ) (l : List HAt) (w : World) (e : Ending) (w' : World) : Prop :=
  (Big l q.2 ∧ e = .returned (.tuple #[.map none, .int .i64 3])) ∨ (¬ Big l q.2 ∧ ∃ b n, e = .returned (.tuple #[.map (some b), .int .i64 0]) ∧ w.heap.size ≤ b ∧ MSetN w' b n (MaP l q.2))
set_option maxRecDepth 100000 in
set_option maxHeartbeats 8000000 in
theorem find_any {q : HQ} {l : List HAt} (hq0 : QrV q) (hf : FsV l) (v u : Value) (w : World) (hq : Qr w v q) (hu : Atoms w u l) :
    Calls Try.prog 65 #[v, u] w fun e w' => FindE q l w e w' ∧ Below w.heap.size w w' := by
  obtain ⟨h0, b0, rfl, hh, hb⟩ := hq
  obtain ⟨w1, hw1⟩ : ∃ w1, w1 = w.alloc (.cells #[h0, b0] 33) := ⟨_, rfl⟩
  have hb1 : Below w.heap.size w w1 := by rw [hw1]; exact below_alloc _ _
  have g0 : w1.cell? ⟨w.heap.size, 0, none⟩ = some h0 := by rw [hw1]; exact cell_new w _ _ 0
  have g1 : w1.cell? ⟨w.heap.size, 1, none⟩ = some b0 := by rw [hw1]; exact cell_new w _ _ 1
  have HV := Lib.hid (qryValid_any q (.agg #[h0, b0]) w1 ⟨h0, b0, rfl, hh.keep hb1, hb.keep hb1⟩ true (decide_eq_true hq0))
  have HF := Lib.hid (fun w' (hb' : Below w.heap.size w w') => validFacts_any l u w' (hu.keep hb') true (decide_eq_true hf))
  have HM := Lib.hid (fun w' (hb' : Below w.heap.size w w') => matchesV_any hq0 hf b0 u w' (hb.keep hb') (hu.keep hb'))
  obtain ⟨ha, hc, rfl⟩ := ints_slice hh
  obtain ⟨ba, bc, rfl⟩ := atoms_slice hb
  obtain ⟨ua, uc, rfl⟩ := atoms_slice hu
  have Hb1 := Lib.hid hb1
  have Hw1 := Lib.hid hw1
  clear hh hb hb1 hw1 hu hq0 hf
  go_enter Try.func65, Try.ntmps65
  go_upto_region 1 with fail
  rw [← Hw1.out]
  clear Hw1
  go_wp2_with fail
  refine HV.out.mono ?_
  rintro e w2 ⟨rfl, hb2⟩
  have g1 := Below.keep hb2 g1
  have Hb2 := Lib.hid (Below.tr Hb1.out hb2)
  clear hb2 g0
  go_wp2_with fail
  refine (HF.out _ Hb2.out).mono ?_
  rintro e w3 ⟨rfl, hb3⟩
  have g1 := Below.keep hb3 g1
  have Hb3 := Lib.hid (Below.tr Hb2.out hb3)
  clear hb3
  go_wp2_with fail
  refine (HM.out _ Hb3.out).mono ?_
  rintro e w4 ⟨hE, hb4⟩
  have Hb4 := Lib.hid (Below.tr Hb3.out hb4)
  have Hs3 := Lib.hid Hb3.out.size
  clear hb4 g1
  rcases hE with ⟨hB, rfl⟩ | ⟨hB, b, n, rfl, hge, hm⟩
  · have HB := Lib.hid hB
    clear hB
    go_wp2_with fail
    go_ret2
    exact ⟨.inl ⟨HB.out, rfl⟩, Hb4.out⟩
  · have HB := Lib.hid (show FindE q l w (.returned (.tuple #[.map (some b), .int .i64 0])) w4 from .inr ⟨hB, b, n, rfl, Nat.le_trans Hs3.out hge, hm⟩)
    clear hB hge hm
    go_wp2_with fail
    go_ret2
    exact ⟨HB.out, Hb4.out⟩
/-- how many matches there are -/
def CountE (q : HQ) (l : List HAt) (e : Ending) : Prop :=
  (¬ (QrV q ∧ FsV l) ∧ e = .returned (.tuple #[.int .i64 0, .int .i64 2])) ∨ (QrV q ∧ FsV l ∧ Big l q.2 ∧ e = .returned (.tuple #[.int .i64 0, .int .i64 3])) ∨
    (QrV q ∧ FsV l ∧ ¬ Big l q.2 ∧ ∃ L : List (List Int), L.Nodup ∧ (∀ v, v ∈ L ↔ MaP l q.2 v) ∧ e = .returned (.tuple #[.int .i64 L.length, .int .i64 0]))
theorem findAll_any {q : HQ} {l : List HAt} (v u : Value) (w : World) (hq : Qr w v q) (hu : Atoms w u l) :
    Calls Try.prog 65 #[v, u] w fun e w' => ((¬ (QrV q ∧ FsV l) ∧ e = .returned (.tuple #[.map none, .int .i64 2])) ∨ (QrV q ∧ FsV l ∧ FindE q l w e w')) ∧ Below w.heap.size w w' := by
  by_cases c : QrV q ∧ FsV l
  · exact (find_any c.1 c.2 v u w hq hu).mono fun e w' ⟨h, hb⟩ => ⟨.inr ⟨c.1, c.2, h⟩, hb⟩
  · exact (find_bad c v u w hq hu).mono fun e w' ⟨h, hb⟩ => ⟨.inl ⟨c, h⟩, hb⟩
theorem run_len_nil (w : World) (ty : TypeId) : (Builtin.len_ #[91] ty #[.map none]).run Try.prog w = .ok (.int .i64 0) w := by kernel_rfl
set_option maxRecDepth 100000 in
set_option maxHeartbeats 8000000 in
theorem count_any {q : HQ} {l : List HAt} (v u : Value) (w : World) (hq : Qr w v q) (hu : Atoms w u l) :
    Calls Try.prog 23 #[v, u] w fun e w' => CountE q l e ∧ Below w.heap.size w w' := by
  obtain ⟨h0, b0, rfl, hh, hb⟩ := hq
  obtain ⟨w1, hw1⟩ : ∃ w1, w1 = w.alloc (.cells #[h0, b0] 33) := ⟨_, rfl⟩
  have hb1 : Below w.heap.size w w1 := by rw [hw1]; exact below_alloc _ _
  have g0 : w1.cell? ⟨w.heap.size, 0, none⟩ = some h0 := by rw [hw1]; exact cell_new w _ _ 0
  have g1 : w1.cell? ⟨w.heap.size, 1, none⟩ = some b0 := by rw [hw1]; exact cell_new w _ _ 1
  have HV := Lib.hid (findAll_any (q := q) (l := l) (.agg #[h0, b0]) u w1 ⟨h0, b0, rfl, hh.keep hb1, hb.keep hb1⟩ (hu.keep hb1))
  obtain ⟨ha, hc, rfl⟩ := ints_slice hh
  obtain ⟨ba, bc, rfl⟩ := atoms_slice hb
  obtain ⟨ua, uc, rfl⟩ := atoms_slice hu
  have Hb1 := Lib.hid hb1
  have Hw1 := Lib.hid hw1
  clear hh hb hb1 hw1 hu
  go_enter Try.func23, Try.ntmps23
  go_upto_region 1 with fail
  rw [← Hw1.out]
  clear Hw1
  go_wp2_with fail
  refine HV.out.mono ?_
  rintro e w2 ⟨hE, hb2⟩
  have Hb2 := Lib.hid (Below.tr Hb1.out hb2)
  clear hb2 g0 g1
  have hl0 := run_len_nil
  rcases hE with ⟨hn, rfl⟩ | ⟨hq, hf, ⟨hB, rfl⟩ | ⟨hB, b, n, rfl, hge, hm⟩⟩
  · have R := Lib.hid (show CountE q l (.returned (.tuple #[.int .i64 0, .int .i64 2])) from .inl ⟨hn, rfl⟩)
    clear hn
    go_wp2_with fail
    go_ret2
    exact ⟨R.out, Hb2.out⟩
  · have R := Lib.hid (show CountE q l (.returned (.tuple #[.int .i64 0, .int .i64 3])) from .inr (.inl ⟨hq, hf, hB, rfl⟩))
    clear hB hq hf
    go_wp2_with fail
    go_ret2
    exact ⟨R.out, Hb2.out⟩
  · have R := Lib.hid (show CountE q l (.returned (.tuple #[.int .i64 n, .int .i64 0])) from by
      obtain ⟨L, l1, l2, l3⟩ := hm.count
      exact .inr (.inr ⟨hq, hf, hB, L, l1, l3, by rw [l2]⟩))
    have Hm := Lib.hid hm
    clear hB hge hm hq hf
    go_wp2_with (first | (refine wpList_len_match rfl _ rfl _ rfl rfl Hm.out ?_))
    go_ret2
    exact ⟨R.out, Hb2.out⟩
#print axioms find_any
#print axioms count_any
end Go.Proofs.Ytfplmdieeabgpaa

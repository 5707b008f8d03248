/- Contracts of depend.Refute. -/
import Derived.Test.YtnidalbfmicoiaaWalkU
import Derived.Deep.OwnRows
namespace Go.Proofs.Ytnidalbfmicoiaa
open Go.RowKit

theorem refute_bad (n s t : Int) (l : List (Int × Int)) (v : Value) (w : World) (hv : Deps w v l) (hbad : ¬ ValidP n l [s, t]) :
    Calls Try.prog 25 #[.int .i64 n, v, .agg #[.int .i64 s, .int .i64 t]] w fun e w' => e = .returned (.tuple #[.slice none 0 0, .int .i64 2]) ∧ Below w.heap.size w w' := by
  have Hv := Lib.hid hv
  have Hbad := Lib.hid hbad
  clear hv hbad
  go_enter Try.func25, Try.ntmps25
  go_wp2_with fail
  refine (valid_no (by exact Deps.keep Hv.out (Below.tr (below_alloc _ _) (below_alloc _ _))) (by exact ints_two _ s t _ _ (by simp)) Hbad.out).mono ?_
  rintro e w' ⟨rfl, hb⟩
  go_wp2
  go_ret2
  exact ⟨rfl, Below.tr (below_alloc _ _) (Below.tr (below_alloc _ _) hb)⟩

theorem zeros_list (n : Nat) : (madeCells #[Value.int .i64 0] n).toList = (List.replicate n (0 : Int)).map (Value.int .i64) := by
  rw [toList_madeCells_one, List.map_replicate]
theorem size_madeCells' (z : Array Value) (n : Nat) : (madeCells z n).size = n := by simp [madeCells]

theorem zeros_ints {Z : Array Value} {m : Nat} (hZ : madeCells #[Value.int .i64 0] m = Z) (hm : m ≤ 8) (X : World) (k : Nat) (hk : k = X.heap.size) : Ints (X.alloc (.cells Z 3)) (.slice (some ⟨k, 0, none⟩) m m) (List.replicate m 0) := by
  subst hk hZ
  have h := rd_new X (madeCells #[Value.int .i64 0] m) 3 1 m (by simp [size_madeCells']) (by unfold maxLen; omega)
  rw [zeros_list] at h
  unfold Ints
  simpa using h
theorem outRow_ints {w : World} {base g g' n s : Nat} {x : Int} (h : w.ownsRow base 3 1 (.slice (some ⟨g', 0, none⟩) n n) n ((outRow s x n).map (Value.int .i64))) (hg : g = g') : Ints w (.slice (some ⟨g, 0, none⟩) n n) (outRow s x n) := by
  subst hg
  have h := owns_rd h
  unfold Ints
  rw [show (outRow s x n).length = n by simp [outRow]]
  exact h
theorem rows_two (W : World) (u v : Value) (x y : List Int) (hu : Ints W u x) (hv : Ints W v y) (k : Nat) (hk : k = W.heap.size) : Rows (W.alloc (.cells #[u, v] 56)) (.slice (some ⟨k, 0, none⟩) 2 2) [x, y] := by
  subst hk
  refine ⟨[u, v], rfl, rd_new W #[u, v] 56 1 2 rfl (by unfold maxLen; omega), fun i h h' => ?_⟩
  match i, h with
  | 0, _ => exact Ints.keep hu (below_alloc _ _)
  | 1, _ => exact Ints.keep hv (below_alloc _ _)

set_option maxRecDepth 100000 in
theorem refute_no {m s t : Nat} {l : List DepN} (h : Okl m l) (hs : s < 2 ^ m) (ht : t < 2 ^ m) (hn : ¬ Sub t (cl l s)) (v : Value) (w : World) (hv : Deps w v (castD l)) :
    Calls Try.prog 25 #[.int .i64 m, v, .agg #[.int .i64 s, .int .i64 t]] w fun e w' => ∃ v', e = .returned (.tuple #[v', .int .i64 0]) ∧ Rows w' v' [List.replicate m 0, outRow (cl l s) 1 m] ∧ Below w.heap.size w w' := by
  have hp := h.pow
  have h8 := h.h8
  have H1 := Lib.hid (show ValidP m (castD l) [(s : Int), (t : Int)] from validP_nat h.h1 h.h8 h.h12 h.hl (t := [s, t]) (by simp; exact ⟨hs, ht⟩))
  have Hv := Lib.hid hv
  have Hs := Lib.hid (show s < 256 by omega)
  have Ht := Lib.hid (show t < 256 by omega)
  have Hn := Lib.hid (decide_eq_false hn)
  have Hl := Lib.hid h.lt
  have b0 := below_alloc w (.cells #[.int .i64 (s : Int), .int .i64 (t : Int)] 32)
  have c0 := cell_new w #[.int .i64 (s : Int), .int .i64 (t : Int)] 32 0
  have c1 := cell_new w #[.int .i64 (s : Int), .int .i64 (t : Int)] 32 1
  have C0 := Lib.hid (fun w2 h2 => Below.keep (w' := w2) h2 c0)
  have C1 := Lib.hid (fun w2 h2 => Below.keep (w' := w2) h2 c1)
  obtain ⟨a, b, off, cap, hva, -⟩ := Deps.get hv
  subst hva
  clear hv hs ht hp c0 c1 hn h
  go_enter Try.func25, Try.ntmps25
  go_wp2_with fail
  refine (valid_yes (by exact Deps.keep Hv.out (Below.tr b0 (below_alloc _ _))) (by exact ints_two _ _ _ _ _ (by simp)) H1.out).mono ?_
  rintro e w1 ⟨rfl, hb⟩
  have hb1 := Below.tr (below_alloc _ _) hb
  have k0 := C0.out _ hb1
  have k1 := C1.out _ hb1
  have Hb1 := Lib.hid (Below.tr b0 hb1)
  have Hb01 := Lib.hid hb1
  clear hb hb1
  go_wp2_with fail
  refine (follows_any Hl.out s t Hs.out Ht.out _ _ (Deps.keep Hv.out Hb1.out)).mono ?_
  rintro e w2 ⟨rfl, hb2⟩
  rw [Hn.out]
  have Hb2 := Lib.hid (Below.tr Hb1.out hb2)
  have Hb02 := Lib.hid (Below.tr Hb01.out hb2)
  clear hb2 k0 k1 b0
  have C0' := Lib.hid (C0.out _ Hb02.out)
  have C1' := Lib.hid (C1.out _ Hb02.out)
  have Hv2 := Lib.hid (Deps.keep Hv.out Hb2.out)
  clear C0 C1
  go_wp2_with fail
  have hmk := fun w' => run_make_row' (P := Try.prog) 56 3 (.int .i64 0) 8 Try.underlying56 info3 rfl .i64 .i64 m (by omega) (by omega) w'
  generalize hZ : madeCells #[Value.int .i64 0] m = Z at *
  have HZ := Lib.hid hZ
  have hq := cl_lt l s
  clear hZ
  have hfs := size_madeCells' #[Value.int .i64 0] m
  rw [HZ.out] at hfs
  have Hfs := Lib.hid hfs
  clear hfs
  go_region_held3 (fun w' => w'.cell? ⟨w.heap.size, 0, none⟩ = some (.int .i64 s) ∧ w'.cell? ⟨w.heap.size, 1, none⟩ = some (.int .i64 t) ∧ Below w2.heap.size w2 w')
    ((refine hold2 C0'.out C1'.out ?_; repeat (first | exact Below.refl _ _ | refine Below.drew ?_ | refine Below.tr ?_ (below_alloc _ _) | refine Below.tr ?_ (by assumption))))
    (first | (go_at_call 71; refine (closer_any _ _ _ _).mono ?_; rintro e w' ⟨rfl, rfl⟩) | (go_at_call 94; refine (closer1_any l Hl.out s _ Hs.out (.slice a (castD l).length cap) _ (by go_simp) (by refine Deps.keep Hv2.out ?_; repeat (first | exact Below.refl _ _ | refine Below.drew ?_ | refine Below.tr ?_ (below_alloc _ _) | refine Below.tr ?_ (by assumption)))).mono ?_; rintro e w3 ⟨rfl, hb3⟩) | (go_at_call 73; refine (rowOutside_any m _ 1 h8 hq _).mono ?_; rintro e w4 ⟨rfl, ho4, hb4⟩))
  all_goals
    go_wp2_with fail
    go_ret2
    refine ⟨_, rfl, rows_two _ _ _ _ _ ?_ ?_ _ (by simp), ?_⟩
    · first
      | (refine Ints.keep (zeros_ints HZ.out (by omega) w2 _ (by rfl)) ?_; (repeat (first | exact Below.refl _ _ | refine Below.drew ?_ | refine Below.tr ?_ (below_alloc _ _) | refine Below.tr ?_ (by assumption))); done)
      | (refine Ints.keep (zeros_ints HZ.out (by omega) (w2.alloc (.cells #[.slice a (castD l).length cap] 28)) _ (by simp)) ?_; (repeat (first | exact Below.refl _ _ | refine Below.drew ?_ | refine Below.tr ?_ (below_alloc _ _) | refine Below.tr ?_ (by assumption))); done)
      | (refine Ints.keep (zeros_ints HZ.out (by omega) w3 _ (by rfl)) ?_; (repeat (first | exact Below.refl _ _ | refine Below.drew ?_ | refine Below.tr ?_ (below_alloc _ _) | refine Below.tr ?_ (by assumption))); done)
      | (refine Ints.keep (zeros_ints HZ.out (by omega) w4 _ (by rfl)) ?_; (repeat (first | exact Below.refl _ _ | refine Below.drew ?_ | refine Below.tr ?_ (below_alloc _ _) | refine Below.tr ?_ (by assumption))); done)
    · refine Ints.keep (outRow_ints ho4 (by simp)) ?_
      repeat (first | exact Below.refl _ _ | refine Below.drew ?_ | refine Below.tr ?_ (below_alloc _ _) | refine Below.tr ?_ (by assumption))
    · refine Below.tr Hb2.out ?_
      repeat (first | exact Below.refl _ _ | refine Below.drew ?_ | refine Below.tr ?_ (below_alloc _ _) | refine Below.tr ?_ (by assumption))

set_option maxRecDepth 100000 in
theorem refute_yes {m s t : Nat} {l : List DepN} (h : Okl m l) (hs : s < 2 ^ m) (ht : t < 2 ^ m) (hn : Sub t (cl l s)) (v : Value) (w : World) (hv : Deps w v (castD l)) :
    Calls Try.prog 25 #[.int .i64 m, v, .agg #[.int .i64 s, .int .i64 t]] w fun e w' => e = .returned (.tuple #[.slice none 0 0, .int .i64 5]) ∧ Below w.heap.size w w' := by
  have hp := h.pow
  have H1 := Lib.hid (show ValidP m (castD l) [(s : Int), (t : Int)] from validP_nat h.h1 h.h8 h.h12 h.hl (t := [s, t]) (by simp; exact ⟨hs, ht⟩))
  have Hv := Lib.hid hv
  have Hs := Lib.hid (show s < 256 by omega)
  have Ht := Lib.hid (show t < 256 by omega)
  have Hn := Lib.hid (decide_eq_true hn)
  have Hl := Lib.hid h.lt
  have b0 := below_alloc w (.cells #[.int .i64 (s : Int), .int .i64 (t : Int)] 32)
  have c0 := cell_new w #[.int .i64 (s : Int), .int .i64 (t : Int)] 32 0
  have c1 := cell_new w #[.int .i64 (s : Int), .int .i64 (t : Int)] 32 1
  have C0 := Lib.hid (fun w2 h2 => Below.keep (w' := w2) h2 c0)
  have C1 := Lib.hid (fun w2 h2 => Below.keep (w' := w2) h2 c1)
  clear hv hs ht hp c0 c1 hn h
  go_enter Try.func25, Try.ntmps25
  go_wp2_with fail
  refine (valid_yes (by exact Deps.keep Hv.out (Below.tr b0 (below_alloc _ _))) (by exact ints_two _ _ _ _ _ (by simp)) H1.out).mono ?_
  rintro e w1 ⟨rfl, hb⟩
  have hb1 := Below.tr (below_alloc _ _) hb
  have k0 := C0.out _ hb1
  have k1 := C1.out _ hb1
  have Hb1 := Lib.hid (Below.tr b0 hb1)
  clear hb hb1
  go_wp2_with fail
  refine (follows_any Hl.out s t Hs.out Ht.out _ _ (Deps.keep Hv.out Hb1.out)).mono ?_
  rintro e w2 ⟨rfl, hb2⟩
  rw [Hn.out]
  have Hb2 := Lib.hid (Below.tr Hb1.out hb2)
  clear hb2 k0 k1 b0
  go_wp2_with fail
  go_ret2
  exact ⟨rfl, Hb2.out⟩
end Go.Proofs.Ytnidalbfmicoiaa

/- Contract of validFacts. -/
import Derived.Test.YtfplmdieeabgpaaQw
namespace Go.Proofs.Ytfplmdieeabgpaa
open Go.RowKit
/-- a valid fact -/
def FcV (r : Int) (l : List Int) : Prop := (0 ≤ r ∧ r ≤ 5) ∧ (1 ≤ l.length ∧ l.length ≤ 3) ∧ ∀ x, x ∈ l → 1 ≤ x ∧ x ≤ 99
instance (r : Int) (l : List Int) : Decidable (FcV r l) := inferInstanceAs (Decidable (_ ∧ _ ∧ _))
/-- valid facts -/
def FsV (l : List HAt) : Prop := l.length ≤ 24 ∧ ∀ i, i < l.length → FcV (aR l i) (aA l i)
instance (l : List HAt) : Decidable (FsV l) := inferInstanceAs (Decidable (_ ∧ _))
set_option maxRecDepth 100000 in
set_option maxHeartbeats 16000000 in
theorem validFacts_any (l : List HAt) (u : Value) (w : World) (hu : Atoms w u l) (B : Bool) (hB : decide (FsV l) = B) :
    Calls Try.prog 103 #[u] w fun e w' => e = .returned (.bool B) ∧ Below w.heap.size w w' := by
  obtain ⟨a, b, off, cap, vs, rfl, hle, ha, hcap, hc⟩ := Atoms.get hu
  have Hix := Lib.hid (run_ix (P := Try.prog) (t := 26) (a := a) (len := l.length) (cap := cap) (b := b) (off := off) (s := 2) Try.underlying26 (by intro w; kernel_rfl) ha)
  have Hc := Lib.hid hc
  have HF := Lib.hid (fun (r : ¬ FsV l) => show false = B from by rw [← hB]; exact (decide_eq_false r).symm)
  have HT := Lib.hid (fun (r : FsV l) => show true = B from by rw [← hB]; exact (decide_eq_true r).symm)
  clear hu ha hc hB hcap
  go_enter Try.func103, Try.ntmps103
  by_cases q1 : (l.length : Int) > 24
  · have R := Lib.hid (HF.out fun h => by have := h.1; omega)
    go_wp2_with fail
    go_ret
    exact ⟨by rw [← R.out]; rfl, Below.refl _ _⟩
  · have h24 := Lib.hid (show l.length ≤ 24 from by omega)
    go_wp2_with fail
    clear q1
    go_loopw [12] (fun vi wr => ∃ k : Nat, vi = .int .i64 k ∧ k ≤ l.length ∧ Below w.heap.size w wr ∧ ∀ j, j < k → FcV (aR l j) (aA l j)) (fun vi _ => l.length - (intOf vi).toNat)
    case atStart => exact ⟨0, rfl, Nat.zero_le _, Below.refl _ _, fun j hj => by omega⟩
    case round =>
      obtain ⟨k, rfl, hk, hb, hno⟩ := hrel
      have Hno := Lib.hid hno
      have Hb := Lib.hid hb
      clear hno hb
      by_cases hlt : k < l.length
      · have hc1 := Below.keep Hb.out (Hc.out k hlt).1
        have hc2 := Below.keep Hb.out (Hc.out k hlt).2.1
        have hi := Ints.keep (Hc.out k hlt).2.2 Hb.out
        have hixk := Hix.out k
        have HY := Lib.hid (fun (r : FcV (aR l k) (aA l k)) => show ∀ j, j < k + 1 → FcV (aR l j) (aA l j) from fun j hj => by
          by_cases e2 : j = k
          · subst e2; exact r
          · exact Hno.out j (by omega))
        have HN := Lib.hid (fun (r : ¬ FcV (aR l k) (aA l k)) => HF.out fun h => r (h.2 k hlt))
        obtain ⟨a3, b3, off3, cap3, hu, hle3, ha3, hc3⟩ := Ints.get hi
        rw [hu] at hc2
        clear hu hi
        obtain ⟨r, hr⟩ : ∃ t, t = aR l k := ⟨_, rfl⟩
        obtain ⟨A, hA⟩ : ∃ t, t = aA l k := ⟨_, rfl⟩
        rw [← hr] at hc1 HY HN
        rw [← hA] at hc2 HY HN hle3 ha3 hc3
        clear hr hA
        have Hix3 := Lib.hid (run_ix (P := Try.prog) (t := 22) (a := a3) (len := A.length) (cap := cap3) (b := b3) (off := off3) (s := 1) Try.underlying22 (by intro w; kernel_rfl) ha3)
        simp only [Nat.mul_one] at Hix3
        obtain ⟨w4, hw4⟩ : ∃ w4, w4 = wr.alloc (.cells #[.int .i64 r, .slice a3 A.length cap3] 77) := ⟨_, rfl⟩
        have hb4 : Below wr.heap.size wr w4 := by rw [hw4]; exact below_alloc _ _
        have g0 : w4.cell? ⟨wr.heap.size, 0, none⟩ = some (.int .i64 r) := by rw [hw4]; exact cell_new wr _ _ 0
        have g1 : w4.cell? ⟨wr.heap.size, 1, none⟩ = some (.slice a3 A.length cap3) := by rw [hw4]; exact cell_new wr _ _ 1
        have Hb4 := Lib.hid (Below.tr Hb.out hb4)
        have Hc3 := Lib.hid (fun i h => Below.keep hb4 (hc3 i h))
        have Hw4 := Lib.hid hw4
        clear hb4 hw4 ha3 hc3
        go_upto_region 6 with fail
        rw [← Hw4.out]
        clear Hw4 hc1 hc2 hixk
        by_cases p1 : r < 0
        · have R := Lib.hid (HN.out fun h => by have := h.1.1; omega)
          go_wp2_with fail
          go_ret
          exact ⟨by rw [← R.out]; rfl, Hb4.out⟩
        · by_cases p2 : r > 5
          · have R := Lib.hid (HN.out fun h => by have := h.1.2; omega)
            go_wp2_with fail
            go_ret
            exact ⟨by rw [← R.out]; rfl, Hb4.out⟩
          · by_cases p3 : (A.length : Int) < 1
            · have R := Lib.hid (HN.out fun h => by have := h.2.1.1; omega)
              go_wp2_with fail
              go_ret
              exact ⟨by rw [← R.out]; rfl, Hb4.out⟩
            · by_cases p4 : (A.length : Int) > 3
              · have R := Lib.hid (HN.out fun h => by have := h.2.1.2; omega)
                go_wp2_with fail
                go_ret
                exact ⟨by rw [← R.out]; rfl, Hb4.out⟩
              · have Hr := Lib.hid (show (0 ≤ r ∧ r ≤ 5) ∧ 1 ≤ A.length ∧ A.length ≤ 3 from by omega)
                go_wp2_with fail
                clear g0 g1 p1 p2 p3 p4
                go_loopw [39] (fun vi wx => ∃ m : Nat, vi = .int .i64 m ∧ m ≤ A.length ∧ wx = w4 ∧ ∀ j, j < m → 1 ≤ A.getD j 0 ∧ A.getD j 0 ≤ 99) (fun vi _ => A.length - (intOf vi).toNat)
                case atStart => exact ⟨0, rfl, Nat.zero_le _, rfl, fun j hj => by omega⟩
                case round =>
                  obtain ⟨m, rfl, hm, rfl, hno⟩ := hrel
                  have Hno3 := Lib.hid hno
                  clear hno
                  by_cases hlm : m < A.length
                  · have hc1 := Hc3.out m hlm
                    have hixm := Hix3.out m
                    have e : A.getD m 0 = A[m] := by rw [List.getD_eq_getElem?_getD, List.getElem?_eq_getElem hlm]; rfl
                    have HN3 := Lib.hid (fun (q : ¬ (1 ≤ A.getD m 0 ∧ A.getD m 0 ≤ 99)) => HN.out fun h => q (h.2.2 _ (by rw [e]; exact List.getElem_mem hlm)))
                    have HY3 := Lib.hid (fun (q : 1 ≤ A.getD m 0 ∧ A.getD m 0 ≤ 99) => show ∀ j, j < m + 1 → 1 ≤ A.getD j 0 ∧ A.getD j 0 ≤ 99 from fun j hj => by
                      by_cases e2 : j = m
                      · subst e2; exact q
                      · exact Hno3.out j (by omega))
                    rw [← e] at hc1
                    obtain ⟨t, ht⟩ : ∃ t, t = A.getD m 0 := ⟨_, rfl⟩
                    rw [← ht] at hc1 HN3 HY3
                    clear ht e
                    by_cases s1 : t < 1
                    · have R := Lib.hid (HN3.out fun h => by omega)
                      go_wp2_with fail
                      go_ret
                      exact ⟨by rw [← R.out]; rfl, Hb4.out⟩
                    · by_cases s2 : t > 99
                      · have R := Lib.hid (HN3.out fun h => by omega)
                        go_wp2_with fail
                        go_ret
                        exact ⟨by rw [← R.out]; rfl, Hb4.out⟩
                      · have R := Lib.hid (HY3.out (by omega))
                        go_wp2_with fail
                        go_roundw
                        case rel => exact ⟨m + 1, by go_num, by omega, (by first | rfl | trivial), R.out⟩
                        case measure => simp [intOf]; omega
                  · obtain rfl : m = A.length := by omega
                    have R := Lib.hid (HY.out ⟨Hr.out.1, Hr.out.2, fun x hx => by
                      obtain ⟨j, hj, rfl⟩ := List.getElem_of_mem hx
                      have := Hno3.out j hj
                      rw [List.getD_eq_getElem?_getD, List.getElem?_eq_getElem hj] at this
                      exact this⟩)
                    go_wp2_with fail
                    go_roundw
                    case rel => exact ⟨k + 1, by go_num, by omega, Hb4.out, R.out⟩
                    case measure => simp [intOf]; omega
      · obtain rfl : k = l.length := by omega
        have R := Lib.hid (HT.out ⟨h24.out, Hno.out⟩)
        go_wp2_with fail
        go_ret
        exact ⟨by rw [← R.out]; rfl, Hb.out⟩
#print axioms validFacts_any
end Go.Proofs.Ytfplmdieeabgpaa

/- Contracts of slices.ContainsFunc over rows with closures of the laws. -/
import Derived.Test.YtfplmdieeabgpaaEqq
import Derived.Test.YtfplmdieeabgpaaRws
import Derived.Deep.DeepCutAuto
namespace Go.Proofs.Ytfplmdieeabgpaa
open Go.RowKit
theorem cloO1_any (X Y : List Int) (vx y : Value) (bx : Nat) (w : World) (hc : w.cell? ⟨bx, 0, none⟩ = some vx) (hx : Ints w vx X) (hy : Ints w y Y) :
    Calls Try.prog 54 #[y, .pointer (some ⟨bx, 0, none⟩)] w fun e w' => e = .returned (.bool (decide (X = Y))) ∧ ∃ n, w' = w.drewN n := by
  have H := Lib.hid (equal_any X Y vx y w hx hy)
  obtain ⟨xa, xc, rfl⟩ := ints_slice hx
  obtain ⟨B, hB⟩ : ∃ B, B = decide (X = Y) := ⟨_, rfl⟩
  rw [← hB] at H ⊢
  clear hx hy hB
  go_enter Try.func54, Try.ntmps54
  go_wp2_with fail
  refine H.out.mono ?_
  rintro e w5 ⟨rfl, m, hm⟩
  have Hm := Lib.hid hm
  clear hm hc
  go_wp2_with fail
  go_ret
  exact ⟨rfl, _, Hm.out⟩
set_option maxRecDepth 100000 in
set_option maxHeartbeats 8000000 in
theorem idxO1_any (X : List Int) (R : List (List Int)) (vx u : Value) (bx : Nat) (w : World) (hc : w.cell? ⟨bx, 0, none⟩ = some vx) (hx : Ints w vx X) (hu : Rows w u R) :
    Calls Try.prog 100 #[u, .func (.func 54) #[] #[.pointer (some ⟨bx, 0, none⟩)]] w fun e w' => ∃ c : Int, e = .returned (.int .i64 c) ∧ (0 ≤ c ↔ X ∈ R) ∧ ∃ n, w' = w.drewN n := by
  obtain ⟨a, b, off, cap, vs, rfl, hle, ha, hvs, hcs, hr⟩ := hu.get
  have Hix := Lib.hid (run_ix (P := Try.prog) (t := 27) (a := a) (len := R.length) (cap := cap) (b := b) (off := off) (s := 1) Try.underlying27 (by intro w; kernel_rfl) ha)
  simp only [Nat.mul_one] at Hix
  have Hc := Lib.hid (show ∀ i, i < R.length → w.cell? ⟨b, off + i, none⟩ = some (vs.getD i (.bool false)) from fun i hi => by rw [hcs i (by omega), List.getD_eq_getElem?_getD, List.getElem?_eq_getElem (by omega)]; rfl)
  have Hr := Lib.hid (show ∀ i, i < R.length → ∀ d, Ints (w.drewN d) (vs.getD i (.bool false)) (R.getD i []) from fun i hi d => by
    have := hr i hi (by omega)
    rw [List.getD_eq_getElem?_getD, List.getElem?_eq_getElem (by omega), List.getD_eq_getElem?_getD, List.getElem?_eq_getElem hi]; exact this)
  have HX := Lib.hid (show ∀ d, (w.drewN d).cell? ⟨bx, 0, none⟩ = some vx ∧ Ints (w.drewN d) vx X from fun d => ⟨hc, hx⟩)
  clear hu ha hvs hcs hr hc hx
  go_enter Try.func100, Try.ntmps100
  go_wp2_with fail
  go_loopw [8] (fun vi wr => ∃ k q : Nat, vi = .int .i64 k ∧ k ≤ R.length ∧ wr = w.drewN q ∧ ∀ j, j < k → ¬ X = R.getD j []) (fun vi _ => R.length - (intOf vi).toNat)
  case atStart => exact ⟨0, 0, rfl, Nat.zero_le _, rfl, fun j hj => by omega⟩
  case round =>
    obtain ⟨k, q, rfl, hk, hwr, hin⟩ := hrel
    have Hwr := Lib.hid hwr
    have Hin := Lib.hid hin
    clear hwr hin
    by_cases hlt : k < R.length
    · have hck := (show wr.cell? ⟨b, off + k, none⟩ = w.cell? ⟨b, off + k, none⟩ by rw [Hwr.out]; rfl).trans (Hc.out k hlt)
      have hixk := Hix.out k
      have hE := cloO1_any X (R.getD k []) vx (vs.getD k (.bool false)) bx wr (by rw [Hwr.out]; exact (HX.out q).1) (by rw [Hwr.out]; exact (HX.out q).2) (by rw [Hwr.out]; exact Hr.out k hlt q)
      obtain ⟨xa, xc, hxs⟩ := ints_slice (Hr.out k hlt 0)
      rw [hxs] at hE hck
      clear hxs
      obtain ⟨xn, hxn⟩ : ∃ x, x = (R.getD k []).length := ⟨_, rfl⟩
      rw [← hxn] at hck hE
      clear hxn
      by_cases c : X = R.getD k []
      · rw [decide_eq_true c] at hE
        have HM := Lib.hid (show X ∈ R by rw [c, List.getD_eq_getElem?_getD, List.getElem?_eq_getElem hlt]; exact List.getElem_mem hlt)
        have HE := Lib.hid hE
        clear c hE
        go_wp2_with fail
        refine HE.out.mono ?_
        rintro e w5 ⟨rfl, m, hm⟩
        have Hm := Lib.hid (show w5 = w.drewN (q + m) by rw [hm, Hwr.out]; exact World.drewN_drewN _ _ _)
        clear hm
        have R := Lib.hid (show (0 ≤ (k : Int) ↔ X ∈ R) from ⟨fun _ => HM.out, fun _ => by omega⟩)
        go_wp2_with fail
        go_ret
        exact ⟨_, rfl, R.out, _, Hm.out⟩
      · rw [decide_eq_false c] at hE
        have HI := Lib.hid (show ∀ j, j < k + 1 → ¬ X = R.getD j [] from fun j hj => by
          by_cases e : j = k
          · subst e; exact c
          · exact Hin.out j (by omega))
        have HE := Lib.hid hE
        clear c hE
        go_wp2_with fail
        refine HE.out.mono ?_
        rintro e w5 ⟨rfl, m, hm⟩
        have Hm := Lib.hid (show w5 = w.drewN (q + m) by rw [hm, Hwr.out]; exact World.drewN_drewN _ _ _)
        clear hm
        go_wp2_with fail
        go_roundw
        case rel => exact ⟨k + 1, q + m, by go_num, by omega, Hm.out, HI.out⟩
        case measure => simp [intOf]; omega
    · obtain rfl : k = R.length := by omega
      have R := Lib.hid (show (0 ≤ (-1 : Int) ↔ X ∈ R) from ⟨fun h => by omega, fun h => by
        obtain ⟨i, hi, e⟩ := List.getElem_of_mem h
        exact absurd (by rw [List.getD_eq_getElem?_getD, List.getElem?_eq_getElem hi]; exact e.symm) (Hin.out i hi)⟩)
      go_wp2_with fail
      go_ret
      exact ⟨_, rfl, R.out, q, Hwr.out⟩
theorem conO1_any (X : List Int) (R : List (List Int)) (vx u : Value) (bx : Nat) (w : World) (hc : w.cell? ⟨bx, 0, none⟩ = some vx) (hx : Ints w vx X) (hu : Rows w u R) (B : Bool) (hB : decide (X ∈ R) = B) :
    Calls Try.prog 49 #[u, .func (.func 54) #[] #[.pointer (some ⟨bx, 0, none⟩)]] w fun e w' => e = .returned (.bool B) ∧ Below w.heap.size w w' := by
  have H := Lib.hid (idxO1_any X R vx u bx w hc hx hu)
  have HT := Lib.hid (fun h : X ∈ R => show B = true by rw [← hB]; exact decide_eq_true h)
  have HF := Lib.hid (fun h : ¬ X ∈ R => show B = false by rw [← hB]; exact decide_eq_false h)
  obtain ⟨a, b, off, cap, vs, rfl, _⟩ := hu.get
  clear hc hx hu hB
  go_enter Try.func49, Try.ntmps49
  go_wp2_with fail
  refine H.out.mono ?_
  rintro e w5 ⟨c, rfl, hc, m, hm⟩
  have Hm := Lib.hid (show Below w.heap.size w w5 from by rw [hm]; exact ⟨rfl, rfl, rfl, Nat.le_refl _, fun _ _ => rfl⟩)
  clear hm
  by_cases d : X ∈ R
  · have q : c ≥ 0 := hc.2 d
    have R := Lib.hid (HT.out d)
    clear hc d
    go_wp2_with fail
    go_ret
    exact ⟨by rw [R.out]; rfl, Hm.out⟩
  · have q : decide (0 ≤ c) = false := decide_eq_false fun h => d (hc.1 h)
    have R := Lib.hid (HF.out d)
    clear hc d
    go_wp2_with fail
    go_ret
    exact ⟨by rw [R.out]; rfl, Hm.out⟩
#print axioms conO1_any
end Go.Proofs.Ytfplmdieeabgpaa

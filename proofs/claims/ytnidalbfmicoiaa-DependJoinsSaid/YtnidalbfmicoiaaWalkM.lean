/- Contracts of critical (the program's, of any closure). -/
import Derived.Test.YtnidalbfmicoiaaWalkB
import Derived.Test.YtnidalbfmicoiaaWalkG
import Derived.Deep.RegionLaw
namespace Go.Proofs.Ytnidalbfmicoiaa
open Go.RowKit

/-- k is critical after the base L -/
def IsCrit (c : Nat → Nat) (L : List DepN) (k : Nat) : Prop := c k ≠ k ∧ ∀ d ∈ L, Sub d.1 k → Sub d.2 k
instance (c : Nat → Nat) (L : List DepN) (k : Nat) : Decidable (IsCrit c L k) := inferInstanceAs (Decidable (_ ∧ ∀ d ∈ L, _))
/-- the base of the sets below k -/
def critTo (c : Nat → Nat) : Nat → List DepN
  | 0 => []
  | k + 1 => if IsCrit c (critTo c k) k then critTo c k ++ [(k, c k)] else critTo c k
theorem critTo_length (c : Nat → Nat) : ∀ k, (critTo c k).length ≤ k
  | 0 => by simp [critTo]
  | k + 1 => by
    have := critTo_length c k
    rw [critTo]
    split
    · simp; omega
    · omega
theorem critTo_lt {c : Nat → Nat} {F : Nat} (hc : ∀ k, k < F → c k < F) : ∀ k, k ≤ F → AllLt (critTo c k) F
  | 0, _ => by intro d hd; simp [critTo] at hd
  | k + 1, h => by
    have ih := critTo_lt hc k (by omega)
    rw [critTo]
    split
    · intro d hd
      rcases List.mem_append.1 hd with hd | hd
      · exact ih d hd
      · simp at hd; subst hd; exact ⟨by show k < F; omega, hc k (by omega)⟩
    · exact ih

/-- the function value g with pv closes the sets below F -/
def ClosFn (g : Nat) (pv : Value) (c : Nat → Nat) (F : Nat) (w : World) : Prop := ∀ k, k < F → ∀ w', Below w.heap.size w w' → Calls Try.prog g #[.int .i64 k, pv] w' fun e w'' => e = .returned (.int .i64 (c k : Nat)) ∧ Below w'.heap.size w' w''
theorem ClosFn.keep {g : Nat} {pv : Value} {c : Nat → Nat} {F : Nat} {w w' : World} (h : ClosFn g pv c F w) (hb : Below w.heap.size w w') : ClosFn g pv c F w' :=
  fun k hk w'' hb' => h k hk w'' (Below.tr hb hb')

set_option maxRecDepth 100000 in
theorem crit1_any (pv : Value) (c : Nat → Nat) (F k pb bb : Nat) (hF : F ≤ 256) (hk : k < F) (L : List DepN) (hL : AllLt L F) (v : Value) (w : World)
    (hp : w.cell? ⟨pb, 0, none⟩ = some (.func (.func 94) #[] #[pv])) (hbb : w.cell? ⟨bb, 0, none⟩ = some v) (hv : Deps w v (castD L)) (hfn : ClosFn 94 pv c F w) :
    Calls Try.prog 96 #[.int .i64 k, .pointer (some ⟨pb, 0, none⟩), .pointer (some ⟨bb, 0, none⟩)] w fun e w' => e = .returned (.bool (decide (IsCrit c L k))) ∧ Below w.heap.size w w' := by
  obtain ⟨a, b, off, cap, rfl, hle, ha, hcc⟩ := Deps.get hv
  have e0 : (castD L).length = L.length := by simp [castD]
  have hc' : ∀ i (h : i < L.length), w.cell? ⟨b, off + i * 2, none⟩ = some (.int .i64 ((L[i].1 : Nat) : Int)) ∧ w.cell? ⟨b, off + i * 2 + 1, none⟩ = some (.int .i64 ((L[i].2 : Nat) : Int)) := by
    intro i hi
    have := hcc i (by omega)
    simpa [castD] using this
  rw [e0] at hle ha hbb
  have hix := run_ix (P := Try.prog) (t := 28) (a := a) (len := L.length) (cap := cap) (b := b) (off := off) (s := 2) Try.underlying28 (by intro w; kernel_rfl) ha
  have Hc := Lib.hid hc'
  have Hfn := Lib.hid (hfn k hk w (Below.refl _ _))
  have HL := Lib.hid hL
  clear ha hcc hv e0 hc' hfn hL
  by_cases hck : c k = k
  · have R : decide (IsCrit c L k) = false := decide_eq_false fun h => h.1 hck
    have R := Lib.hid R
    have t1 : (((c k : Nat) : Int) == (k : Int)) = true := by rw [hck]; simp
    clear hck
    go_enter Try.func96, Try.ntmps96
    go_wp2_with fail
    refine Hfn.out.mono ?_
    rintro e w1 ⟨rfl, hb1⟩
    go_wp2_with fail
    go_ret
    exact ⟨congrArg (fun b => Ending.returned (.bool b)) R.out.symm, hb1⟩
  · have t1 : (((c k : Nat) : Int) == (k : Int)) = false := by simp; omega
    have Hck := Lib.hid hck
    clear hck
    go_enter Try.func96, Try.ntmps96
    go_wp2_with fail
    refine Hfn.out.mono ?_
    rintro e w1 ⟨rfl, hb1⟩
    have Hb1 := Lib.hid hb1
    have hbb1 := Below.keep hb1 hbb
    clear hb1
    go_wp2_with fail
    go_loopw [14] (fun i wr => ∃ j : Nat, i = .int .i64 j ∧ j ≤ L.length ∧ Below w.heap.size w wr ∧ AllTo (fun d : DepN => Sub d.1 k → Sub d.2 k) L j) (fun i _ => L.length - (intOf i).toNat)
    case atStart => exact ⟨0, rfl, Nat.zero_le _, Hb1.out, fun i _ h => by omega⟩
    case round =>
      obtain ⟨j, rfl, hj, hb, hin⟩ := hrel
      have Hin := Lib.hid hin
      clear hin
      by_cases hlt : j < L.length
      · have hc1 := Below.keep hb (Hc.out j hlt).1
        have hc2 := Below.keep hb (Hc.out j hlt).2
        have hlk := HL.out _ (List.getElem_mem hlt)
        go_wp2_with (go_at_call 75; refine (contains_any _ _ (by omega) (by omega) _).mono ?_; rintro e w' ⟨rfl, rfl⟩)
        · have h1 : Sub L[j].1 k := by assumption
          have h2 : ¬ Sub L[j].2 k := by have h : (!decide (Sub L[j].2 k)) = true := by assumption
                                         simpa using h
          have R : decide (IsCrit c L k) = false := decide_eq_false fun h => h2 (h.2 _ (List.getElem_mem hlt) h1)
          go_ret
          exact ⟨congrArg (fun b => Ending.returned (.bool b)) R.symm, hb.alloc hb.size _⟩
        · have h2 : Sub L[j].2 k := by have h : (!decide (Sub L[j].2 k)) = false := by assumption
                                       simpa using h
          have R := Hin.out.step hlt (fun _ => h2)
          go_roundw
          case rel => exact ⟨j + 1, by go_num, by omega, hb.alloc hb.size _, R⟩
          case measure => simp [intOf]; omega
        · have h1 : ¬ Sub L[j].1 k := by assumption
          have R := Hin.out.step hlt (fun h => absurd h h1)
          go_roundw
          case rel => exact ⟨j + 1, by go_num, by omega, hb.alloc hb.size _, R⟩
          case measure => simp [intOf]; omega
      · obtain rfl : j = L.length := by omega
        have R : decide (IsCrit c L k) = true := decide_eq_true ⟨Hck.out, Hin.out.all⟩
        go_wp2
        go_ret
        exact ⟨congrArg (fun b => Ending.returned (.bool b)) R.symm, hb⟩
theorem castD_append (a b : List DepN) : castD (a ++ b) = castD a ++ castD b := by simp [castD]
/-- the base in its box -/
def CritRow (base : Nat) (w : World) (o : Value) (L : List DepN) : Prop := w.ownsRow base 32 2 o L.length (pairCells (castD L))
theorem CritRow.deps {base : Nat} {w : World} {o : Value} {L : List DepN} (h : CritRow base w o L) : Deps w o (castD L) := by
  have := owns_rd h
  unfold Deps
  rwa [show (castD L).length = L.length by simp [castD]]
theorem frozen_alloc_new (w : World) (c : Array Value) (t : TypeId) (n : Nat) (hn : n = w.heap.size) : (w.alloc (.cells c t)).frozen? ⟨n, 0, none⟩ = false := World.frozen?_alloc_at c t n 0 hn

theorem ownRow_slice2 {w : World} {base : Nat} {e : TypeId} {size : Nat} {v : Value} {n : Nat} {xs : List Value} (h : w.ownsRow base e size v n xs) : ∃ a c, v = .slice a n c := by
  rcases h.2 with ⟨rfl, rfl⟩ | ⟨g, cap, cur, rfl, _⟩ <;> exact ⟨_, _, rfl⟩
theorem critBelow {w w4 w5 w5' w6 : World} (h4 : Below w.heap.size w w4) (h5 : Below w4.drew.heap.size w4.drew w5) (h5' : Below w5.heap.size w5 w5') (h6 : Below (w.heap.size + 2) w5' w6) (v : Value) : Below w.heap.size w (w6.setCell ⟨w.heap.size + 1, 0, none⟩ v) :=
  ((Below.tr h4 (Below.tr (Below.refl _ _).drew (Below.tr h5 h5'))).trans (h6.mono (by omega))).setCell (Nat.le_succ _) v
theorem critX {w w4 w5 w5' w6 : World} {x : Value} (hx : w4.cell? ⟨w.heap.size, 0, none⟩ = some x) (h5 : Below w4.drew.heap.size w4.drew w5) (h5' : Below w5.heap.size w5 w5') (h6 : Below (w.heap.size + 2) w5' w6) (v : Value) : (w6.setCell ⟨w.heap.size + 1, 0, none⟩ v).cell? ⟨w.heap.size, 0, none⟩ = some x :=
  (Below.cell ((Below.refl (w.heap.size + 1) w6).setCell (p := ⟨w.heap.size + 1, 0, none⟩) (Nat.le_refl _) v) (p := ⟨w.heap.size, 0, none⟩) (Nat.lt_succ_self _)).trans
    ((Below.cell h6 (p := ⟨w.heap.size, 0, none⟩) (by show w.heap.size < w.heap.size + 2; omega)).trans (Below.keep (Below.tr (Below.refl _ _).drew (Below.tr h5 h5')) hx))
theorem critY {w6 : World} {b : Nat} {o : Value} (h : w6.cell? ⟨b, 0, none⟩ = some o) (v : Value) : (w6.setCell ⟨b, 0, none⟩ v).cell? ⟨b, 0, none⟩ = some v := World.cell?_setCell_same _ _ _ h
theorem critW {w w4 w5 w5' w6 : World} (hs : w.heap.size + 2 ≤ w4.heap.size) (h5 : Below w4.drew.heap.size w4.drew w5) (h5' : Below w5.heap.size w5 w5') (h6 : Below (w.heap.size + 2) w5' w6) (v : Value) : w.heap.size + 2 ≤ (w6.setCell ⟨w.heap.size + 1, 0, none⟩ v).heap.size := by
  have a1 := ((Below.refl (w.heap.size + 1) w6).setCell (p := ⟨w.heap.size + 1, 0, none⟩) (Nat.le_refl _) v).size
  have a2 := h5.size
  have a3 := h5'.size
  have a4 := h6.size
  have a5 : w4.drew.heap.size = w4.heap.size := rfl
  omega
theorem critO {w w6 : World} {c : Nat → Nat} {k : Nat} {v' : Value} (h : w6.ownsRow (w.heap.size + 2) 32 2 v' ((critTo c k).length + 1) (pairCells (castD (critTo c k)) ++ [Value.int .i64 k, Value.int .i64 (c k : Nat)])) (v : Value) (hs : critTo c (k + 1) = critTo c k ++ [(k, c k)]) :
    CritRow (w.heap.size + 2) (w6.setCell ⟨w.heap.size + 1, 0, none⟩ v) v' (critTo c (k + 1)) := by
  unfold CritRow
  rw [hs, castD_append, pairCells_append]
  simpa [castD, pairCells] using ownsRow_setCell_below h (a := ⟨w.heap.size + 1, 0, none⟩) (Nat.lt_succ_self _) v
set_option maxHeartbeats 4000000 in
set_option maxRecDepth 100000 in
theorem critical_any (pv : Value) (c : Nat → Nat) (m F : Nat) (hm8 : m ≤ 8) (hF : F = 2 ^ m) (h256 : F ≤ 256) (h1 : 1 ≤ F) (hc : ∀ k, k < F → c k < F) (w : World) (hfn : ClosFn 94 pv c F w) :
    Calls Try.prog 81 #[.int .i64 m, .func (.func 94) #[] #[pv]] w fun e w' => ∃ v', e = .returned v' ∧ Deps w' v' (castD (critTo c F)) ∧ Below w.heap.size w w' := by
  have HF := Lib.hid hF
  have Hc := Lib.hid hc
  have Hfn := Lib.hid hfn
  clear hF hc hfn
  go_enter Try.func81, Try.ntmps81
  go_wp2_with fail
  have hb0 : Below w.heap.size w ((w.alloc (.cells #[.func (.func 94) #[] #[pv]] 99)).alloc (.cells #[.slice none 0 0] 28)) := ((Below.refl _ _).alloc (Nat.le_refl _) _).alloc (by simp) _
  have hx : ((w.alloc (.cells #[.func (.func 94) #[] #[pv]] 99)).alloc (.cells #[.slice none 0 0] 28)).cell? ⟨w.heap.size, 0, none⟩ = some (.func (.func 94) #[] #[pv]) := by go_simp
  have hy : ((w.alloc (.cells #[.func (.func 94) #[] #[pv]] 99)).alloc (.cells #[.slice none 0 0] 28)).cell? ⟨w.heap.size + 1, 0, none⟩ = some (.slice none 0 0) := by go_simp
  have hfz : ((w.alloc (.cells #[.func (.func 94) #[] #[pv]] 99)).alloc (.cells #[.slice none 0 0] 28)).frozen? ⟨w.heap.size + 1, 0, none⟩ = false := frozen_alloc_new _ _ _ _ (by simp)
  have hsz : ((w.alloc (.cells #[.func (.func 94) #[] #[pv]] 99)).alloc (.cells #[.slice none 0 0] 28)).heap.size = w.heap.size + 2 := by simp
  generalize (w.alloc (.cells #[.func (.func 94) #[] #[pv]] 99)).alloc (.cells #[.slice none 0 0] 28) = w2 at *
  have Hb0 := Lib.hid hb0
  have Hx := Lib.hid hx
  have Hy := Lib.hid hy
  have Hfz := Lib.hid hfz
  have Hsz := Lib.hid hsz
  clear hb0 hx hy hfz hsz
  go_loopw [7] (fun i wr => ∃ k : Nat, ∃ o : Value, i = .int .i64 k ∧ k ≤ F ∧ Below w.heap.size w wr ∧ w.heap.size + 2 ≤ wr.heap.size ∧ wr.cell? ⟨w.heap.size, 0, none⟩ = some (.func (.func 94) #[] #[pv]) ∧ wr.cell? ⟨w.heap.size + 1, 0, none⟩ = some o ∧ wr.frozen? ⟨w.heap.size + 1, 0, none⟩ = false ∧ CritRow (w.heap.size + 2) wr o (critTo c k)) (fun i _ => F - (intOf i).toNat)
  case atStart => exact ⟨0, _, rfl, Nat.zero_le _, Hb0.out, by rw [Hsz.out]; exact Nat.le_refl _, Hx.out, Hy.out, Hfz.out, World.ownsRow_nil _ _ _ _⟩
  case round =>
    obtain ⟨k, o, rfl, hk, hb, hws, hx, hy, hfz, hown⟩ := hrel
    have Hb := Lib.hid hb
    have Hown := Lib.hid hown
    have Hws := Lib.hid hws
    clear hb hown hws
    by_cases hlt : k < F
    · have q : (k : Int) ≤ ((F - 1 : Nat) : Int) := by omega
      go_wp2_with fail
      refine (full_F HF.out hm8 _).mono ?_
      rintro e w3 ⟨rfl, rfl⟩
      go_wp2_with fail
      refine (crit1_any pv c F k w.heap.size (w.heap.size + 1) h256 hlt (critTo c k) (critTo_lt Hc.out k (by omega)) _ _ hx hy Hown.out.deps (Hfn.out.keep Hb.out)).mono ?_
      rintro e w4 ⟨rfl, hb4⟩
      have Hb4 := Lib.hid (Below.tr Hb.out hb4)
      have Hown4 := Lib.hid (show CritRow (w.heap.size + 2) w4 o (critTo c k) from owns_keep Hown.out hb4)
      have Hx4 := Lib.hid (Below.keep hb4 hx)
      have Hy4 := Lib.hid (Below.keep hb4 hy)
      have Hfz4 := Lib.hid ((Below.frozen hb4 (p := ⟨w.heap.size + 1, 0, none⟩) (by show w.heap.size + 1 < wr.heap.size; have := Hws.out; omega)).trans hfz)
      have Hws4 := Lib.hid (Nat.le_trans Hws.out hb4.size)
      have hlen := critTo_length c k
      clear hb4 hx hy hfz
      by_cases hcr : IsCrit c (critTo c k) k
      · rw [decide_eq_true hcr]
        have Hstep := Lib.hid (show critTo c (k + 1) = critTo c k ++ [(k, c k)] by rw [critTo, if_pos hcr])
        clear hcr
        have hx := Hx4.out
        have hy := Hy4.out
        have hfz := Hfz4.out
        go_wp2_with fail
        go_region_law (first | (go_simp; go_at_call 94; refine (Hfn.out k hlt _ (by exact Hb4.out.drew)).mono ?_; rintro e w5 ⟨rfl, hb5⟩; have hc5 := Below.keep (Below.tr (Below.refl _ _).drew hb5) Hy4.out; have hc7 : (w5.alloc (.cells #[.int .i64 k, .int .i64 (c k : Nat)] 32)).cell? ⟨w.heap.size + 1, 0, none⟩ = some o := Below.keep (below_alloc _ _) hc5)| (refine step_append_own (by rfl) (.tmp 18) (.tmp 24) 28 (by rfl) elem28 (by rfl) (World.ownsRow.alloc (owns_keep (World.ownsRow.drew Hown4.out) hb5) _) [.int .i64 k, .int .i64 (c k : Nat)] (by rfl) (by rfl) (by intro q u hq; go_simp) (by intro u hu; simp at hu; rcases hu with rfl | rfl <;> rfl) (by omega) (by have := Hws4.out; have := hb5.size; simp at *; omega) ?_; intro v' w6 hown6 hb6; obtain ⟨na, nc, rfl⟩ := ownRow_slice2 hown6; have hc6 := (Below.cell hb6 (p := ⟨w.heap.size + 1, 0, none⟩) (Nat.lt_succ_self _)).trans (Below.keep (Below.tr (Below.refl _ _).drew (Below.tr hb5 (below_alloc _ _))) Hy4.out); have hf6 := (Below.frozen hb6 (p := ⟨w.heap.size + 1, 0, none⟩) (Nat.lt_succ_self _)).trans ((frozen?_alloc_cells _ _ _ _).trans ((Below.frozen hb5 (p := ⟨w.heap.size + 1, 0, none⟩) (Nat.lt_of_lt_of_le (Nat.lt_succ_self _) Hws4.out)).trans Hfz4.out))))
        all_goals
          have HB := Lib.hid (critBelow Hb4.out hb5 (below_alloc _ _) hb6 (.slice na ((critTo c k).length + 1) nc))
          have Hx6 := Lib.hid (critX Hx4.out hb5 (below_alloc _ _) hb6 (.slice na ((critTo c k).length + 1) nc))
          have Hy6 := Lib.hid (critY hc6 (.slice na ((critTo c k).length + 1) nc))
          have Hf6 := Lib.hid (show (w6.setCell ⟨w.heap.size + 1, 0, none⟩ (.slice na ((critTo c k).length + 1) nc)).frozen? ⟨w.heap.size + 1, 0, none⟩ = false by rw [World.frozen?_setCell]; exact hf6)
          have Hw6 := Lib.hid (critW Hws4.out hb5 (below_alloc _ _) hb6 (.slice na ((critTo c k).length + 1) nc))
          have HO := Lib.hid (critO hown6 (.slice na ((critTo c k).length + 1) nc) Hstep.out)
          clear hb5 hc5 hc7 hb6 hown6 hc6 hf6 hx hy hfz
          generalize w6.setCell ⟨w.heap.size + 1, 0, none⟩ (.slice na ((critTo c k).length + 1) nc) = w7 at *
          go_wp2_with fail
          go_roundw
          case rel => exact ⟨k + 1, _, by go_num, by omega, HB.out, Hw6.out, Hx6.out, Hy6.out, Hf6.out, HO.out⟩
          case measure => simp [intOf]; omega
      · rw [decide_eq_false hcr]
        have Hstep := Lib.hid (show critTo c (k + 1) = critTo c k by rw [critTo, if_neg hcr])
        clear hcr
        go_wp2_with fail
        go_roundw
        case rel => exact ⟨k + 1, _, by go_num, by omega, Hb4.out, Hws4.out, Hx4.out, Hy4.out, Hfz4.out, by rw [Hstep.out]; exact Hown4.out⟩
        case measure => simp [intOf]; omega
    · obtain rfl : k = F := by omega
      have q : ¬ (k : Int) ≤ ((k - 1 : Nat) : Int) := by omega
      have HD := Lib.hid Hown.out.deps
      go_wp2_with fail
      refine (full_F HF.out hm8 _).mono ?_
      rintro e w3 ⟨rfl, rfl⟩
      go_wp2_with fail
      go_ret
      exact ⟨_, rfl, HD.out, Hb.out⟩
end Go.Proofs.Ytnidalbfmicoiaa

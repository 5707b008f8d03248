/- Contracts of the law's project, its two closures, slices.IndexFunc and slices.ContainsFunc over them. -/
import Derived.Test.YtnidalbfmicoiaaWalkCe
import Derived.Test.YtnidalbfmicoiaaWalkS
namespace Go.Proofs.Ytnidalbfmicoiaa
open Go.RowKit

/-- a row in a set of columns, elsewhere 0; its first k numbers done -/
def prTo (r : List Int) (s n k : Nat) : List Int := (List.range n).map fun a => if a < k ∧ s.testBit a = true then r.getD a 0 else 0
theorem prTo_length (r : List Int) (s n k : Nat) : (prTo r s n k).length = n := by simp [prTo]
theorem prTo_zero (r : List Int) (s n : Nat) : prTo r s n 0 = List.replicate n 0 := by
  unfold prTo
  simp only [Nat.not_lt_zero, false_and, if_false]
  rw [List.map_const', List.length_range]
theorem prTo_skip {s : Nat} (r : List Int) (n : Nat) {k : Nat} (h : s.testBit k = false) : prTo r s n (k + 1) = prTo r s n k := by
  unfold prTo
  apply List.map_congr_left
  intro a _
  by_cases e : a = k
  · subst e; simp [h]
  · have : (a < k + 1) ↔ a < k := by omega
    simp [this]
theorem prTo_set {s : Nat} (r : List Int) (n : Nat) {k : Nat} (h : s.testBit k = true) : prTo r s n (k + 1) = (prTo r s n k).set k (r.getD k 0) := by
  apply List.ext_getElem (by simp [prTo])
  intro i h1 h2
  simp only [prTo, List.getElem_map, List.getElem_range, List.getElem_set]
  by_cases e : k = i
  · subst e; simp [h]
  · have : (i < k + 1) ↔ i < k := by omega
    simp [e, this]
def projTo (R : List (List Int)) (s n j : Nat) : List (List Int) := (List.range j).map fun i => prTo (row R i) s n n
theorem projTo_succ (R : List (List Int)) (s n j : Nat) : projTo R s n (j + 1) = projTo R s n j ++ [prTo (row R j) s n n] := by simp [projTo, List.range_succ]
theorem projTo_length (R : List (List Int)) (s n j : Nat) : (projTo R s n j).length = j := by simp [projTo]
def PrRow (w : World) (g n s : Nat) (r : List Int) (k : Nat) : Prop := w.ownsRow g 3 1 (.slice (some ⟨g, 0, none⟩) n n) n ((prTo r s n k).map (Value.int .i64))

set_option maxHeartbeats 4000000 in
set_option maxRecDepth 100000 in
theorem project_any (R : List (List Int)) (m s : Nat) (hm8 : m ≤ 8) (hs : s < 256) (hR8 : R.length ≤ 1000) (hRm : ∀ r ∈ R, r.length = m) (v : Value) (w : World) (hv : Rows w v R) :
    Calls Try.prog 65 #[v, .int .i64 s] w fun e w' => ∃ v' gs, e = .returned v' ∧ Tab w.heap.size m w' v' gs (projTo R s m R.length) ∧ Below w.heap.size w w' := by
  obtain ⟨i0, hi, hz0, hz1, hz2⟩ := info_parts info3
  have Hi := Lib.hid hi
  have Hz0 := Lib.hid hz0
  have Hz1 := Lib.hid hz1
  have hby : i0.bytes * m ≤ 281474976710656 := by rw [hz2]; omega
  have Hby := Lib.hid hby
  clear hi hz0 hz1 hz2 hby
  obtain ⟨a, b, off, cap, vs, rfl, hle, ha, hvs, hc, hr⟩ := Rows.get hv
  have hix := run_ix (P := Try.prog) (t := 34) (a := a) (len := R.length) (cap := cap) (b := b) (off := off) (s := 1) Try.underlying34 (by intro w; kernel_rfl) ha
  have Hc := Lib.hid hc
  have Hr := Lib.hid hr
  have Hvs := Lib.hid hvs
  have HRm := Lib.hid hRm
  clear ha hv hc hr hvs hRm
  go_enter Try.func65, Try.ntmps65
  go_wp2_with fail
  go_loopw [5, 12] (fun o i wr => ∃ (j : Nat) (gs : List Nat) (oa : Option Addr) (oc : Nat), o = .slice oa j oc ∧ i = .int .i64 j ∧ j ≤ R.length ∧ Tab w.heap.size m wr (.slice oa j oc) gs (projTo R s m j) ∧ Below w.heap.size w wr) (fun _ i _ => R.length - (intOf i).toNat)
  case atStart => exact ⟨0, [], none, 0, rfl, rfl, Nat.zero_le _, Tab.nil _ _ _, Below.refl _ _⟩
  case round =>
    obtain ⟨j, gs, oa, oc, rfl, rfl, hj, htab, hb⟩ := hrel
    have Htab := Lib.hid htab
    have Hb := Lib.hid hb
    clear htab hb
    by_cases hlt : j < R.length
    · have hj2 : j < vs.length := by have := Hvs.out; omega
      have hc1 := Below.keep Hb.out (Hc.out j hj2)
      obtain ⟨a1, b1, off1, cap1, hv2, hle1, ha1, hcc1⟩ := Ints.get (Hr.out j hlt hj2)
      have hlen : R[j].length = m := HRm.out _ (List.getElem_mem hlt)
      have hrow : row R j = R[j] := by unfold row; simp [List.getD, hlt]
      have Hsucc := Lib.hid (projTo_succ R s m j)
      rw [hrow] at Hsucc
      have hcell : ∀ i, i < m → w.cell? ⟨b1, off1 + i, none⟩ = some (.int .i64 (R[j].getD i 0)) := fun i hi => by
        have := hcc1 i (by omega)
        rw [this]; simp [List.getD, hlen, hi]
      rw [hlen] at hv2 hle1 ha1
      rw [hv2] at hc1
      have Hcell := Lib.hid hcell
      clear hv2 hcc1 hlen hrow hcell
      generalize R[j] = r at *
      have hixr := run_ix (P := Try.prog) (t := 56) (a := a1) (len := m) (cap := cap1) (b := b1) (off := off1) (s := 1) Try.underlying56 (by intro w; kernel_rfl) ha1
      clear ha1
      go_wp2_with (refine wpList_make_full _ rfl (.tmp 17) (.tmp 17) 56 rfl wr.heap.size 3 i0 (.int .i64 0) 1 Try.underlying56 Hi.out Hz0.out Hz1.out .i64 .i64 _ _ m rfl rfl rfl rfl Hby.out (by unfold maxLen; omega) (Nat.le_refl _) ?_; intro w2 hown hg)
      have hrow : PrRow w2 wr.heap.size m s r 0 := by
        unfold PrRow
        rw [prTo_zero]
        have e : (madeCells (Value.int IntKind.i64 0).cells (m * 1)).toList = List.replicate m (Value.int .i64 0) := by rw [Nat.mul_one]; exact toList_madeCells_one _ _
        rw [e] at hown
        rw [List.map_replicate]
        exact hown
      have hb2 : Below wr.heap.size wr w2 := (Below.refl _ _).grown hg (Nat.le_refl _) (fun k hk => by cases hk)
      have Hrow := Lib.hid hrow
      have Hb2 := Lib.hid hb2
      clear hrow hb2 hown hg hc1
      go_wp2_with fail
      obtain ⟨wo, hwo⟩ : ∃ wo : World, wo = wr := ⟨_, rfl⟩
      subst hwo
      go_loopw [21] (fun i wz => ∃ a : Nat, i = .int .i64 a ∧ a ≤ m ∧ Below wo.heap.size wo wz ∧ PrRow wz wo.heap.size m s r a) (fun i _ => m - (intOf i).toNat)
      case atStart => exact ⟨0, rfl, Nat.zero_le _, Hb2.out, Hrow.out⟩
      case round =>
        obtain ⟨k, rfl, hk, hbz, hownz⟩ := hrel
        have Hbz := Lib.hid hbz
        have Hown := Lib.hid hownz
        clear hbz hownz
        by_cases hlt2 : k < m
        · have t1 := shr_bit s k hs
          have hfz := World.ownsRow.frozenAt Hown.out k
          have hcell := World.ownsRow.cellAt Hown.out k (by omega)
          rw [List.getElem?_map, List.getElem?_eq_getElem (by simp [prTo]; omega), Option.map_some] at hcell
          have hcr := Below.keep (Below.tr Hb.out Hbz.out) (Hcell.out k hlt2)
          cases hbit : s.testBit k with
          | false =>
            have HR := Lib.hid (show PrRow wr wo.heap.size m s r (k + 1) by unfold PrRow; rw [prTo_skip _ m hbit]; exact Hown.out)
            rw [hbit] at t1
            simp only [Bool.false_eq_true, if_false] at t1
            go_wp2_with fail
            go_roundw
            case rel => exact ⟨k + 1, by go_num, by omega, Hbz.out, HR.out⟩
            case measure => simp [intOf]; omega
          | true =>
            have hst := (World.ownsRow.stored Hown.out k (.int .i64 (r.getD k 0)))
            have HR := Lib.hid (show PrRow (wr.setCell ⟨wo.heap.size, k, none⟩ (.int .i64 (r.getD k 0))) wo.heap.size m s r (k + 1) by unfold PrRow; rw [prTo_set _ m hbit, List.map_set]; exact hst.1)
            rw [hbit] at t1
            clear hst
            simp only [if_true] at t1
            generalize r.getD k 0 = x at *
            go_wp2_with fail
            go_roundw
            case rel => exact ⟨k + 1, by go_num, by omega, Hbz.out.setCell (Nat.le_refl _) _, HR.out⟩
            case measure => simp [intOf]; omega
        · obtain rfl : k = m := by omega
          have Htab2 := Lib.hid (Htab.out.keep Hbz.out)
          have Hb3 := Lib.hid (Below.tr Hb.out Hbz.out)
          have Hown2 := Lib.hid (show wr.ownsRow w.heap.size 56 1 (.slice oa j oc) j (gs.map (rowV k)) by have := Htab2.out.2.2.1; rwa [projTo_length] at this)
          have Hgs := Lib.hid (show ∀ g ∈ gs, g ≠ wo.heap.size from fun g hg e => by have := (Htab.out.lt g hg).2; omega)
          have Hrow2 := Lib.hid (show wr.ownsRow wo.heap.size 3 1 (rowV k wo.heap.size) k ((prTo r s k k).map (Value.int .i64)) from Hown.out)
          go_wp2_with (at_builtin; go_loud (refine append_own rfl (.tmp 37) (.tmp 39) 34 rfl elem34 rfl (World.ownsRow.alloc Hown2.out _) [rowV k wo.heap.size] rfl rfl (by intro j u hj; unfold rowV at hj; go_simp) (by intro u hu; simp at hu; subst hu; rfl) (by omega) (by have := Hb3.out.size; simp; omega) ?_))
          intro v' w6 hown6 hb6 hg6
          have HT6 := Lib.hid (show Tab w.heap.size k w6 v' (gs ++ [wo.heap.size]) (projTo R s k (j + 1)) by
            rw [Hsucc.out]
            refine Tab.append (n := j + 1) (Htab2.out.keep (below_alloc _ _)) Hgs.out (prTo_length _ _ _ _) ?_ (by rw [projTo_length]) hown6 hg6
            exact World.ownsRow.alloc (owns_base Hrow2.out Hb.out.size) _)
          have HB6 := Lib.hid ((Hb3.out.alloc Hb3.out.size _).trans hb6)
          obtain ⟨na, nc, rfl⟩ := ownRow_slice hown6
          clear hown6 hb6 hg6
          go_wp2_with fail
          go_roundw
          case rel => exact ⟨j + 1, _, _, _, rfl, by go_num, by omega, HT6.out, HB6.out⟩
          case measure => simp [intOf]; omega
    · obtain rfl : j = R.length := by omega
      go_wp2_with fail
      go_ret
      exact ⟨_, _, rfl, Htab.out, Hb.out⟩

theorem eq68_any (x z : List Int) (u zv : Value) (pb : Nat) (w : World) (hu : Ints w u x) (hp : w.cell? ⟨pb, 0, none⟩ = some zv) (hz : Ints w zv z) :
    Calls Try.prog 68 #[u, .pointer (some ⟨pb, 0, none⟩)] w fun e w' => e = .returned (.bool (decide (x = z))) ∧ Below w.heap.size w w' := by
  have Hu := Lib.hid hu
  have Hz := Lib.hid hz
  obtain ⟨a, b, off, cap, rfl, -⟩ := Ints.get hz
  clear hu hz
  go_enter Try.func68, Try.ntmps68
  go_wp2_with fail
  refine (equal_any x z _ _ _ Hu.out Hz.out).mono ?_
  rintro e w1 ⟨rfl, hb⟩
  go_wp2_with fail
  go_ret
  exact ⟨rfl, hb⟩
set_option maxRecDepth 100000 in
theorem index68_any (R : List (List Int)) (z : List Int) (pb : Nat) (zv v : Value) (w : World) (hv : Rows w v R) (hp : w.cell? ⟨pb, 0, none⟩ = some zv) (hz : Ints w zv z) :
    Calls Try.prog 92 #[v, .func (.func 68) #[] #[.pointer (some ⟨pb, 0, none⟩)]] w fun e w' => ∃ i : Int, e = .returned (.int .i64 i) ∧ (0 ≤ i ↔ z ∈ R) ∧ Below w.heap.size w w' := by
  obtain ⟨a, b, off, cap, vs, rfl, hle, ha, hvs, hc, hr⟩ := Rows.get hv
  have hix := run_ix (P := Try.prog) (t := 34) (a := a) (len := R.length) (cap := cap) (b := b) (off := off) (s := 1) Try.underlying34 (by intro w; kernel_rfl) ha
  have Hc := Lib.hid hc
  have Hr := Lib.hid hr
  have Hvs := Lib.hid hvs
  have Hp := Lib.hid hp
  have Hz := Lib.hid hz
  clear ha hv hc hr hvs hp hz
  go_enter Try.func92, Try.ntmps92
  go_wp2_with fail
  go_loopw [8] (fun i wr => ∃ j : Nat, i = .int .i64 j ∧ j ≤ R.length ∧ Below w.heap.size w wr ∧ ∀ i (h : i < R.length), i < j → R[i] ≠ z) (fun i _ => R.length - (intOf i).toNat)
  case atStart => exact ⟨0, rfl, Nat.zero_le _, Below.refl _ _, fun i h q => by omega⟩
  case round =>
    obtain ⟨j, rfl, hj, hb, hin⟩ := hrel
    have Hb := Lib.hid hb
    have Hin := Lib.hid hin
    clear hb hin
    by_cases hlt : j < R.length
    · have hj2 : j < vs.length := by have := Hvs.out; omega
      have hcell := Below.keep Hb.out (Hc.out j hj2)
      have HI := Lib.hid (Ints.keep (Hr.out j hlt hj2) Hb.out)
      generalize vs[j] = vj at *
      go_wp2_with fail
      refine (eq68_any R[j] z _ zv pb _ HI.out (Below.keep Hb.out Hp.out) (Ints.keep Hz.out Hb.out)).mono ?_
      rintro e w1 ⟨rfl, hb1⟩
      have Hb1 := Lib.hid (Below.tr Hb.out hb1)
      clear hb1
      by_cases he : R[j] = z
      · rw [decide_eq_true he]
        have R2 := Lib.hid (show (0 : Int) ≤ (j : Int) ↔ z ∈ R from ⟨fun _ => he ▸ List.getElem_mem hlt, fun _ => by omega⟩)
        clear he
        go_wp2_with fail
        go_ret
        exact ⟨_, rfl, R2.out, Hb1.out⟩
      · rw [decide_eq_false he]
        have R2 := Lib.hid (show ∀ i (h : i < R.length), i < j + 1 → R[i] ≠ z from fun i h q => by
          rcases Nat.lt_succ_iff_lt_or_eq.1 q with q | rfl
          · exact Hin.out i h q
          · exact he)
        clear he
        go_wp2_with fail
        go_roundw
        case rel => exact ⟨j + 1, by go_num, by omega, Hb1.out, R2.out⟩
        case measure => simp [intOf]; omega
    · have hjl : j = R.length := by omega
      have R2 := Lib.hid (show (0 : Int) ≤ -1 ↔ z ∈ R from ⟨fun h => by omega, fun h => by
        obtain ⟨i, hi, e⟩ := List.mem_iff_getElem.1 h
        exact absurd e (Hin.out i hi (by omega))⟩)
      clear hjl
      go_wp2_with fail
      go_ret
      exact ⟨_, rfl, R2.out, Hb.out⟩
theorem has68_any (R : List (List Int)) (z : List Int) (pb : Nat) (zv v : Value) (w : World) (hv : Rows w v R) (hp : w.cell? ⟨pb, 0, none⟩ = some zv) (hz : Ints w zv z) :
    Calls Try.prog 67 #[v, .func (.func 68) #[] #[.pointer (some ⟨pb, 0, none⟩)]] w fun e w' => ∃ b : Bool, e = .returned (.bool b) ∧ (b = true ↔ z ∈ R) ∧ Below w.heap.size w w' := by
  have H := Lib.hid (index68_any R z pb zv v w hv hp hz)
  clear hv hp hz
  go_enter Try.func67, Try.ntmps67
  go_wp2_with fail
  refine H.out.mono ?_
  rintro e w1 ⟨i, rfl, hi, hb⟩
  have Hi := Lib.hid hi
  have Hb := Lib.hid hb
  clear hi hb
  go_wp2_with fail
  go_ret
  exact ⟨decide (0 ≤ i), rfl, by rw [decide_eq_true_eq]; exact Hi.out, Hb.out⟩
theorem eq69_any (x z : List Int) (u zv : Value) (pb : Nat) (w : World) (hu : Ints w u x) (hp : w.cell? ⟨pb, 0, none⟩ = some zv) (hz : Ints w zv z) :
    Calls Try.prog 69 #[u, .pointer (some ⟨pb, 0, none⟩)] w fun e w' => e = .returned (.bool (decide (x = z))) ∧ Below w.heap.size w w' := by
  have Hu := Lib.hid hu
  have Hz := Lib.hid hz
  obtain ⟨a, b, off, cap, rfl, -⟩ := Ints.get hz
  clear hu hz
  go_enter Try.func69, Try.ntmps69
  go_wp2_with fail
  refine (equal_any x z _ _ _ Hu.out Hz.out).mono ?_
  rintro e w1 ⟨rfl, hb⟩
  go_wp2_with fail
  go_ret
  exact ⟨rfl, hb⟩
set_option maxRecDepth 100000 in
theorem index69_any (R : List (List Int)) (z : List Int) (pb : Nat) (zv v : Value) (w : World) (hv : Rows w v R) (hp : w.cell? ⟨pb, 0, none⟩ = some zv) (hz : Ints w zv z) :
    Calls Try.prog 92 #[v, .func (.func 69) #[] #[.pointer (some ⟨pb, 0, none⟩)]] w fun e w' => ∃ i : Int, e = .returned (.int .i64 i) ∧ (0 ≤ i ↔ z ∈ R) ∧ Below w.heap.size w w' := by
  obtain ⟨a, b, off, cap, vs, rfl, hle, ha, hvs, hc, hr⟩ := Rows.get hv
  have hix := run_ix (P := Try.prog) (t := 34) (a := a) (len := R.length) (cap := cap) (b := b) (off := off) (s := 1) Try.underlying34 (by intro w; kernel_rfl) ha
  have Hc := Lib.hid hc
  have Hr := Lib.hid hr
  have Hvs := Lib.hid hvs
  have Hp := Lib.hid hp
  have Hz := Lib.hid hz
  clear ha hv hc hr hvs hp hz
  go_enter Try.func92, Try.ntmps92
  go_wp2_with fail
  go_loopw [8] (fun i wr => ∃ j : Nat, i = .int .i64 j ∧ j ≤ R.length ∧ Below w.heap.size w wr ∧ ∀ i (h : i < R.length), i < j → R[i] ≠ z) (fun i _ => R.length - (intOf i).toNat)
  case atStart => exact ⟨0, rfl, Nat.zero_le _, Below.refl _ _, fun i h q => by omega⟩
  case round =>
    obtain ⟨j, rfl, hj, hb, hin⟩ := hrel
    have Hb := Lib.hid hb
    have Hin := Lib.hid hin
    clear hb hin
    by_cases hlt : j < R.length
    · have hj2 : j < vs.length := by have := Hvs.out; omega
      have hcell := Below.keep Hb.out (Hc.out j hj2)
      have HI := Lib.hid (Ints.keep (Hr.out j hlt hj2) Hb.out)
      generalize vs[j] = vj at *
      go_wp2_with fail
      refine (eq69_any R[j] z _ zv pb _ HI.out (Below.keep Hb.out Hp.out) (Ints.keep Hz.out Hb.out)).mono ?_
      rintro e w1 ⟨rfl, hb1⟩
      have Hb1 := Lib.hid (Below.tr Hb.out hb1)
      clear hb1
      by_cases he : R[j] = z
      · rw [decide_eq_true he]
        have R2 := Lib.hid (show (0 : Int) ≤ (j : Int) ↔ z ∈ R from ⟨fun _ => he ▸ List.getElem_mem hlt, fun _ => by omega⟩)
        clear he
        go_wp2_with fail
        go_ret
        exact ⟨_, rfl, R2.out, Hb1.out⟩
      · rw [decide_eq_false he]
        have R2 := Lib.hid (show ∀ i (h : i < R.length), i < j + 1 → R[i] ≠ z from fun i h q => by
          rcases Nat.lt_succ_iff_lt_or_eq.1 q with q | rfl
          · exact Hin.out i h q
          · exact he)
        clear he
        go_wp2_with fail
        go_roundw
        case rel => exact ⟨j + 1, by go_num, by omega, Hb1.out, R2.out⟩
        case measure => simp [intOf]; omega
    · have hjl : j = R.length := by omega
      have R2 := Lib.hid (show (0 : Int) ≤ -1 ↔ z ∈ R from ⟨fun h => by omega, fun h => by
        obtain ⟨i, hi, e⟩ := List.mem_iff_getElem.1 h
        exact absurd e (Hin.out i hi (by omega))⟩)
      clear hjl
      go_wp2_with fail
      go_ret
      exact ⟨_, rfl, R2.out, Hb.out⟩
theorem has69_any (R : List (List Int)) (z : List Int) (pb : Nat) (zv v : Value) (w : World) (hv : Rows w v R) (hp : w.cell? ⟨pb, 0, none⟩ = some zv) (hz : Ints w zv z) :
    Calls Try.prog 67 #[v, .func (.func 69) #[] #[.pointer (some ⟨pb, 0, none⟩)]] w fun e w' => ∃ b : Bool, e = .returned (.bool b) ∧ (b = true ↔ z ∈ R) ∧ Below w.heap.size w w' := by
  have H := Lib.hid (index69_any R z pb zv v w hv hp hz)
  clear hv hp hz
  go_enter Try.func67, Try.ntmps67
  go_wp2_with fail
  refine H.out.mono ?_
  rintro e w1 ⟨i, rfl, hi, hb⟩
  have Hi := Lib.hid hi
  have Hb := Lib.hid hb
  clear hi hb
  go_wp2_with fail
  go_ret
  exact ⟨decide (0 ≤ i), rfl, by rw [decide_eq_true_eq]; exact Hi.out, Hb.out⟩
end Go.Proofs.Ytnidalbfmicoiaa

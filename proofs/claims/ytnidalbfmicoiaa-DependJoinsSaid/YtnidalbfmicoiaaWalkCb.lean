/- Contracts of replaceInColumn and of the reference's rename. -/
import Derived.Test.YtnidalbfmicoiaaWalkCa
namespace Go.Proofs.Ytnidalbfmicoiaa
open Go.RowKit

theorem Tab.head {base m : Nat} {w : World} {o : Value} {gs : List Nat} {T : List (List Int)} (h : Tab base m w o gs T) (hk : 0 < T.length) : ∃ ob oc, o = .slice (some ⟨ob, 0, none⟩) T.length oc := by
  rcases h.2.2.1.2 with ⟨-, h⟩ | ⟨g, cap, cur, rfl, _⟩
  · omega
  · exact ⟨g, cap, rfl⟩
theorem Tab.cellAt {base m ob n oc : Nat} {w : World} {gs : List Nat} {T : List (List Int)} (h : Tab base m w (.slice (some ⟨ob, 0, none⟩) n oc) gs T) (i : Nat) (a : i < T.length) (b : i < gs.length) : w.cell? ⟨ob, i, none⟩ = some (rowV m gs[i]) := by
  have hn : n = T.length := by
    rcases h.2.2.1.2 with ⟨h, -⟩ | ⟨g, cap, cur, h, _⟩
    · cases h
    · injection h
  subst hn
  have := World.ownsRow.cellAt h.2.2.1 i (by omega)
  rw [this, List.getElem?_map, List.getElem?_eq_getElem b]; rfl
theorem Tab.numAt {base m : Nat} {w : World} {o : Value} {gs : List Nat} {T : List (List Int)} (h : Tab base m w o gs T) (i : Nat) (a : i < T.length) (b : i < gs.length) (j : Nat) (hj : j < m) : w.cell? ⟨gs[i], j, none⟩ = some (.int .i64 (T[i].getD j 0)) ∧ w.frozen? ⟨gs[i], j, none⟩ = false := by
  obtain ⟨h1, h2⟩ := h.2.2.2 i a b
  refine ⟨?_, World.ownsRow.frozenAt h2 j⟩
  have := World.ownsRow.cellAt h2 j (by omega)
  rw [this, List.getElem?_map, List.getElem?_eq_getElem (by omega)]
  simp [List.getD, h1, hj]

set_option maxRecDepth 100000 in
theorem rename_any (base m ob n oc : Nat) (gs : List Nat) (T : List (List Int)) (w : World) (h : Tab base m w (.slice (some ⟨ob, 0, none⟩) n oc) gs T) (hn : n = T.length) (a : Nat) (ha : a < m) (hn8 : n ≤ 8) (x y : Int) :
    Calls Try.prog 90 #[.slice (some ⟨ob, 0, none⟩) n oc, .int .i64 a, .int .i64 x, .int .i64 y] w fun e w' => e = .returned (.tuple #[]) ∧ Tab base m w' (.slice (some ⟨ob, 0, none⟩) n oc) gs (T.map (ren a x y)) ∧ Only gs w w' := by
  have H := Lib.hid h
  have Hn := Lib.hid hn
  have Hgl := Lib.hid h.1
  have hix := run_ix (P := Try.prog) (t := 34) (a := some ⟨ob, 0, none⟩) (len := n) (cap := oc) (b := ob) (off := 0) (s := 1) Try.underlying34 (by intro w; kernel_rfl) (fun _ => rfl)
  clear h hn
  go_enter Try.func90, Try.ntmps90
  go_wp2_with fail
  go_loopw [12] (fun i wr => ∃ j : Nat, i = .int .i64 j ∧ j ≤ n ∧ Tab base m wr (.slice (some ⟨ob, 0, none⟩) n oc) gs (renTo a x y T j) ∧ Only gs w wr) (fun i _ => n - (intOf i).toNat)
  case atStart => exact ⟨0, rfl, Nat.zero_le _, by rw [renTo_zero]; exact H.out, Only.refl _ _⟩
  case round =>
    obtain ⟨j, rfl, hj, htab, hb⟩ := hrel
    have Htab := Lib.hid htab
    have Hb := Lib.hid hb
    clear htab hb
    by_cases hlt : j < n
    · have q1 : j < T.length := by have := Hn.out; omega
      have q2 : j < gs.length := by have := Hgl.out; omega
      have q3 : j < (renTo a x y T j).length := by rw [renTo_length]; exact q1
      have hc1 := Htab.out.cellAt j q3 q2
      obtain ⟨hc2, hf2⟩ := Htab.out.numAt j q3 q2 a ha
      rw [renTo_at _ _ _ _ _ q1] at hc2
      have Hs := Lib.hid (Htab.out.store q3 q2 a y)
      have Hst := Lib.hid (renTo_succ a x y T j q1)
      have Hat := Lib.hid (renTo_at a x y T j q1 q3)
      have Hlt2 := Lib.hid (List.getElem_mem q2)
      have Hren := Lib.hid (show ren a x y T[j] = if T[j].getD a 0 = x then T[j].set a y else T[j] from rfl)
      unfold rowV at hc1
      generalize gs[j] = g at *
      have hixr := run_ix (P := Try.prog) (t := 56) (a := some ⟨g, 0, none⟩) (len := m) (cap := m) (b := g) (off := 0) (s := 1) Try.underlying56 (by intro w; kernel_rfl) (fun _ => rfl)
      by_cases hz : T[j].getD a 0 = x
      · have t1 : (T[j].getD a 0 == x) = true := beq_iff_eq.2 hz
        have R := Lib.hid (show Tab base m (wr.setCell ⟨g, a, none⟩ (.int .i64 y)) (.slice (some ⟨ob, 0, none⟩) n oc) gs (renTo a x y T (j + 1)) by
          have h1 := Hs.out
          have h2 := Hren.out
          rw [if_pos hz] at h2
          rw [Hst.out, h2]
          rwa [Hat.out] at h1)
        clear hz
        generalize T[j].getD a 0 = z at *
        go_wp2_with fail
        go_roundw
        case rel => exact ⟨j + 1, by go_num, by omega, R.out, Hb.out.store Hlt2.out _ _⟩
        case measure => simp [intOf]; omega
      · have t1 : (T[j].getD a 0 == x) = false := beq_eq_false_iff_ne.2 hz
        have R := Lib.hid (show Tab base m wr (.slice (some ⟨ob, 0, none⟩) n oc) gs (renTo a x y T (j + 1)) by
          have h2 := Hren.out
          rw [if_neg hz] at h2
          rw [Hst.out, h2]
          have h3 : (renTo a x y T j).set j T[j] = renTo a x y T j := by
            have := List.set_getElem_self q3
            rwa [Hat.out] at this
          rw [h3]; exact Htab.out)
        clear hz
        generalize T[j].getD a 0 = z at *
        go_wp2_with fail
        go_roundw
        case rel => exact ⟨j + 1, by go_num, by omega, R.out, Hb.out⟩
        case measure => simp [intOf]; omega
    · obtain rfl : j = n := by omega
      have R := Lib.hid (show Tab base m wr (.slice (some ⟨ob, 0, none⟩) j oc) gs (T.map (ren a x y)) by
        have := Htab.out
        have h2 := renTo_all a x y T
        rw [← Hn.out] at h2
        rwa [h2] at this)
      go_wp2_with fail
      go_end0
      exact ⟨rfl, R.out, Hb.out⟩
set_option maxRecDepth 100000 in
theorem replace_any (base m ob n oc : Nat) (gs : List Nat) (T : List (List Int)) (w : World) (h : Tab base m w (.slice (some ⟨ob, 0, none⟩) n oc) gs T) (hn : n = T.length) (a : Nat) (ha : a < m) (hn8 : n ≤ 8) (x y X Y : Int) (hX : X = max x y) (hY : Y = min x y) :
    Calls Try.prog 98 #[.slice (some ⟨ob, 0, none⟩) n oc, .int .i64 a, .int .i64 x, .int .i64 y] w fun e w' => e = .returned (.tuple #[]) ∧ Tab base m w' (.slice (some ⟨ob, 0, none⟩) n oc) gs (T.map (ren a X Y)) ∧ Only gs w w' := by
  have H := Lib.hid h
  have Hn := Lib.hid hn
  have Hgl := Lib.hid h.1
  have hix := run_ix (P := Try.prog) (t := 34) (a := some ⟨ob, 0, none⟩) (len := n) (cap := oc) (b := ob) (off := 0) (s := 1) Try.underlying34 (by intro w; kernel_rfl) (fun _ => rfl)
  clear h hn
  go_enter Try.func98, Try.ntmps98
  go_wp2_with fail
  go_loopw [12] (fun i wr => ∃ j : Nat, i = .int .i64 j ∧ j ≤ n ∧ Tab base m wr (.slice (some ⟨ob, 0, none⟩) n oc) gs (renTo a X Y T j) ∧ Only gs w wr) (fun i _ => n - (intOf i).toNat)
  case atStart => exact ⟨0, rfl, Nat.zero_le _, by rw [renTo_zero]; exact H.out, Only.refl _ _⟩
  case round =>
    obtain ⟨j, rfl, hj, htab, hb⟩ := hrel
    have Htab := Lib.hid htab
    have Hb := Lib.hid hb
    clear htab hb
    by_cases hlt : j < n
    · have q1 : j < T.length := by have := Hn.out; omega
      have q2 : j < gs.length := by have := Hgl.out; omega
      have q3 : j < (renTo a X Y T j).length := by rw [renTo_length]; exact q1
      have hc1 := Htab.out.cellAt j q3 q2
      obtain ⟨hc2, hf2⟩ := Htab.out.numAt j q3 q2 a ha
      rw [renTo_at _ _ _ _ _ q1] at hc2
      have Hs := Lib.hid (Htab.out.store q3 q2 a Y)
      have Hst := Lib.hid (renTo_succ a X Y T j q1)
      have Hat := Lib.hid (renTo_at a X Y T j q1 q3)
      have Hlt2 := Lib.hid (List.getElem_mem q2)
      have Hren := Lib.hid (show ren a X Y T[j] = if T[j].getD a 0 = X then T[j].set a Y else T[j] from rfl)
      unfold rowV at hc1
      generalize gs[j] = g at *
      have hixr := run_ix (P := Try.prog) (t := 56) (a := some ⟨g, 0, none⟩) (len := m) (cap := m) (b := g) (off := 0) (s := 1) Try.underlying56 (by intro w; kernel_rfl) (fun _ => rfl)
      by_cases hz : T[j].getD a 0 = X
      · have t1 : (T[j].getD a 0 == X) = true := beq_iff_eq.2 hz
        have R := Lib.hid (show Tab base m (wr.setCell ⟨g, a, none⟩ (.int .i64 Y)) (.slice (some ⟨ob, 0, none⟩) n oc) gs (renTo a X Y T (j + 1)) by
          have h1 := Hs.out
          have h2 := Hren.out
          rw [if_pos hz] at h2
          rw [Hst.out, h2]
          rwa [Hat.out] at h1)
        clear hz
        generalize T[j].getD a 0 = z at *
        go_wp2_with fail
        go_roundw
        case rel => exact ⟨j + 1, by go_num, by omega, by rw [show (if y < x then y else x) = Y from by rw [hY]; split <;> omega]; exact R.out, Hb.out.store Hlt2.out _ _⟩
        case measure => simp [intOf]; omega
      · have t1 : (T[j].getD a 0 == X) = false := beq_eq_false_iff_ne.2 hz
        have R := Lib.hid (show Tab base m wr (.slice (some ⟨ob, 0, none⟩) n oc) gs (renTo a X Y T (j + 1)) by
          have h2 := Hren.out
          rw [if_neg hz] at h2
          rw [Hst.out, h2]
          have h3 : (renTo a X Y T j).set j T[j] = renTo a X Y T j := by
            have := List.set_getElem_self q3
            rwa [Hat.out] at this
          rw [h3]; exact Htab.out)
        clear hz
        generalize T[j].getD a 0 = z at *
        go_wp2_with fail
        go_roundw
        case rel => exact ⟨j + 1, by go_num, by omega, R.out, Hb.out⟩
        case measure => simp [intOf]; omega
    · obtain rfl : j = n := by omega
      have R := Lib.hid (show Tab base m wr (.slice (some ⟨ob, 0, none⟩) j oc) gs (T.map (ren a X Y)) by
        have := Htab.out
        have h2 := renTo_all a X Y T
        rw [← Hn.out] at h2
        rwa [h2] at this)
      go_wp2_with fail
      go_end0
      exact ⟨rfl, R.out, Hb.out⟩

end Go.Proofs.Ytnidalbfmicoiaa

/- Contracts of cmp.Compare and slices.Compare of ints. -/
import Derived.Test.YtpehbffkplmfjaaEq
import Derived.WalkSpells
namespace Go.Proofs.Ytpehbffkplmfjaa
open Go.RowKit

def gI (l : List Int) (i : Nat) : Int := l.getD i 0
theorem gI_get {l : List Int} {i : Nat} (h : i < l.length) : l[i] = gI l i := by
  unfold gI; rw [List.getD_eq_getElem?_getD, List.getElem?_eq_getElem h]; rfl
def Le (x y : List Int) : Prop := ∀ i, i < x.length → (∀ j, j < i → gI x j = gI y j) → i < y.length ∧ gI x i ≤ gI y i
theorem isNaN_any (x : Int) (w : World) : Calls Try.prog 112 #[.int .i64 x] w fun e w' => e = .returned (.bool false) ∧ w = w' := by
  have q : (x != x) = false := by simp
  go_enter Try.func112, Try.ntmps112
  go_wp2_with fail
  go_ret
  exact ⟨rfl, rfl⟩
def CmpIs (x y c : Int) : Prop := (x < y ∧ c = -1) ∨ (y < x ∧ c = 1) ∨ (x = y ∧ c = 0)
theorem cmp_any (x y : Int) (w : World) : Calls Try.prog 81 #[.int .i64 x, .int .i64 y] w fun e w' => ∃ c, e = .returned (.int .i64 c) ∧ CmpIs x y c ∧ w = w' := by
  by_cases h1 : x < y
  · go_enter Try.func81, Try.ntmps81
    go_wp2_with fail
    refine (isNaN_any x _).mono ?_
    rintro e w' ⟨rfl, rfl⟩
    go_wp2_with fail
    refine (isNaN_any y _).mono ?_
    rintro e w' ⟨rfl, rfl⟩
    go_wp2_with fail
    go_ret
    exact ⟨_, rfl, .inl ⟨h1, rfl⟩, rfl⟩
  · by_cases h2 : x > y
    · go_enter Try.func81, Try.ntmps81
      go_wp2_with fail
      refine (isNaN_any x _).mono ?_
      rintro e w' ⟨rfl, rfl⟩
      go_wp2_with fail
      refine (isNaN_any y _).mono ?_
      rintro e w' ⟨rfl, rfl⟩
      go_wp2_with fail
      go_ret
      exact ⟨_, rfl, .inr (.inl ⟨h2, rfl⟩), rfl⟩
    · go_enter Try.func81, Try.ntmps81
      go_wp2_with fail
      refine (isNaN_any x _).mono ?_
      rintro e w' ⟨rfl, rfl⟩
      go_wp2_with fail
      refine (isNaN_any y _).mono ?_
      rintro e w' ⟨rfl, rfl⟩
      go_wp2_with fail
      go_ret
      exact ⟨_, rfl, .inr (.inr ⟨by omega, rfl⟩), rfl⟩
set_option maxHeartbeats 2000000 in
theorem compare_any (x y : List Int) (v u : Value) (w : World) (hv : Ints w v x) (hu : Ints w u y) :
    Calls Try.prog 43 #[v, u] w fun e w' => ∃ c : Int, e = .returned (.int .i64 c) ∧ (c ≤ 0 ↔ Le x y) ∧ w = w' := by
  obtain ⟨a, b, off, cap, rfl, hle, ha, hc⟩ := Ints.get hv
  have hix := run_ix (P := Try.prog) (t := 24) (a := a) (len := x.length) (cap := cap) (b := b) (off := off) (s := 1) Try.underlying24 (by intro w; kernel_rfl) ha
  simp only [Nat.mul_one] at hix
  have Hc := Lib.hid (show ∀ i, i < x.length → w.cell? ⟨b, off + i, none⟩ = some (.int .i64 (gI x i)) from fun i hi => by rw [hc i hi, gI_get hi])
  obtain ⟨a', b', off', cap', rfl, hle', ha', hc'⟩ := Ints.get hu
  have hix' := run_ix (P := Try.prog) (t := 24) (a := a') (len := y.length) (cap := cap') (b := b') (off := off') (s := 1) Try.underlying24 (by intro w; kernel_rfl) ha'
  simp only [Nat.mul_one] at hix'
  have Hc' := Lib.hid (show ∀ i, i < y.length → w.cell? ⟨b', off' + i, none⟩ = some (.int .i64 (gI y i)) from fun i hi => by rw [hc' i hi, gI_get hi])
  have Hix := Lib.hid hix
  have Hix' := Lib.hid hix'
  clear ha hv hc ha' hu hc' hix hix'
  go_enter Try.func43, Try.ntmps43
  go_wp2_with fail
  go_loopw [11] (fun i wr => ∃ k : Nat, i = .int .i64 k ∧ k ≤ x.length ∧ wr = w ∧ ∀ q, q < k → q < y.length ∧ gI x q = gI y q) (fun i _ => x.length - (intOf i).toNat)
  case atStart => exact ⟨0, rfl, Nat.zero_le _, rfl, fun q hq => by omega⟩
  case round =>
    obtain ⟨k, rfl, hk, hwr, hin⟩ := hrel
    subst hwr
    have Hin := Lib.hid hin
    clear hin
    by_cases hlt : k < x.length
    · have hck := Hc.out k hlt
      have hixk := Hix.out k
      by_cases hy : k < y.length
      · have hck' := Hc'.out k hy
        have hixk' := Hix'.out k
        obtain ⟨s, hs⟩ : ∃ s, s = gI x k := ⟨_, rfl⟩
        obtain ⟨t, ht⟩ : ∃ t, t = gI y k := ⟨_, rfl⟩
        rw [← hs] at hck
        rw [← ht] at hck'
        have Hs := Lib.hid hs
        have Ht := Lib.hid ht
        clear hs ht
        go_wp2_with fail
        refine (cmp_any s t _).mono ?_
        rintro e w' ⟨c, rfl, hcmp, rfl⟩
        rcases hcmp with ⟨h1, rfl⟩ | ⟨h1, rfl⟩ | ⟨h1, rfl⟩
        · have R := Lib.hid (show ((-1 : Int) ≤ 0 ↔ Le x y) from ⟨fun _ i hi hp => by
            by_cases e : i < k
            · exact ⟨(Hin.out i e).1, by rw [(Hin.out i e).2]; exact Int.le_refl _⟩
            · by_cases e2 : i = k
              · subst e2; exact ⟨hy, by rw [← Hs.out, ← Ht.out]; omega⟩
              · have := hp k (by omega); rw [← Hs.out, ← Ht.out] at this; omega, fun _ => by omega⟩)
          go_wp2_with fail
          go_ret
          exact ⟨_, rfl, R.out, rfl⟩
        · have R := Lib.hid (show ((1 : Int) ≤ 0 ↔ Le x y) from ⟨fun h => by omega, fun h => by
            have := (h k hlt (fun j hj => (Hin.out j hj).2)).2
            rw [← Hs.out, ← Ht.out] at this; omega⟩)
          go_wp2_with fail
          go_ret
          exact ⟨_, rfl, R.out, rfl⟩
        · have R := Lib.hid (show ∀ q, q < k + 1 → q < y.length ∧ gI x q = gI y q from fun q hq => by
            by_cases e : q = k
            · subst e; exact ⟨hy, by rw [← Hs.out, ← Ht.out]; exact h1⟩
            · exact Hin.out q (by omega))
          go_wp2_with fail
          go_roundw
          case rel => exact ⟨k + 1, by go_num, by omega, trivial, R.out⟩
          case measure => simp [intOf]; omega
      · have R := Lib.hid (show ((1 : Int) ≤ 0 ↔ Le x y) from ⟨fun h => by omega, fun h => by
          have := (h k hlt (fun j hj => (Hin.out j hj).2)).1
          omega⟩)
        go_wp2_with fail
        go_ret
        exact ⟨_, rfl, R.out, rfl⟩
    · obtain rfl : k = x.length := by omega
      have hL := Lib.hid (show Le x y from fun i hi _ => ⟨(Hin.out i hi).1, by rw [(Hin.out i hi).2]; exact Int.le_refl _⟩)
      by_cases hlen : x.length < y.length
      · go_wp2_with fail
        go_ret
        exact ⟨_, rfl, ⟨fun _ => hL.out, fun _ => by omega⟩, rfl⟩
      · go_wp2_with fail
        go_ret
        exact ⟨_, rfl, ⟨fun _ => hL.out, fun _ => by omega⟩, rfl⟩
#print axioms compare_any
end Go.Proofs.Ytpehbffkplmfjaa

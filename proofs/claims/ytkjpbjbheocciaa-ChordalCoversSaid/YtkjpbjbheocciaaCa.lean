/- Contract of CheckColours. -/
import Derived.Test.YtkjpbjbheocciaaHd
import Derived.Test.YtkjpbjbheocciaaGh
import Derived.OwnWalk
namespace Go.Proofs.Ytkjpbjbheocciaa
open Go.RowKit

/-- row i of a colouring -/
def ColRow (g : List Nat) (l : List Int) (i : Nat) : Prop := (0 ≤ gI l i ∧ gI l i < 12) ∧ ∀ j, j < i → ¬ ((nb g i).testBit j = true ∧ gI l j = gI l i)
instance (g : List Nat) (l : List Int) (i : Nat) : Decidable (ColRow g l i) := inferInstanceAs (Decidable (_ ∧ ∀ j, j < i → _))
def IsCol (g : List Nat) (l : List Int) : Prop := l.length = g.length ∧ ∀ i, i < l.length → ColRow g l i
instance (g : List Nat) (l : List Int) : Decidable (IsCol g l) := inferInstanceAs (Decidable (_ ∧ ∀ i, i < l.length → _))
/-- the colours of a list, as a set -/
def used (l : List Int) : Nat := setN (nat' l)
def colN (g : List Nat) (l : List Int) : Nat := if IsCol g l then pop (used l) else 0
theorem used_lt {l : List Int} {k : Nat} (hk : k ≤ l.length) (h : ∀ i, i < k → 0 ≤ gI l i ∧ gI l i < 12) : setN ((nat' l).take k) < 4096 := setN_lt (n := 12) fun x hx => by
  obtain ⟨i, hi, rfl⟩ := mem_at.1 hx
  simp only [List.length_take, nat_length] at hi
  rw [at_take (by omega), at_nat (by omega)]
  have := h i (by omega)
  omega
theorem isCol_no {g : List Nat} {l : List Int} {i : Nat} (hi : i < l.length) (h : ¬ ColRow g l i) : ¬ IsCol g l := fun hh => h (hh.2 i hi)
theorem checkColours_bad {l : List Int} (h : ¬ GrI l) (v u : Value) (w : World) (hv : Ints w v l) :
    Calls Try.prog 32 #[v, u] w fun e w' => e = .returned (.tuple #[.int .i64 0, .bool false, .int .i64 2]) ∧ w = w' := by
  have H := Lib.hid (valid_b (decide_eq_false h) v w hv)
  clear h hv
  go_enter Try.func32, Try.ntmps32
  go_wp2_with fail
  refine H.out.mono ?_
  rintro e w1 ⟨rfl, rfl⟩
  go_wp2_with fail
  go_ret3
  exact ⟨rfl, rfl⟩
set_option maxRecDepth 100000 in
set_option maxHeartbeats 4000000 in
theorem checkColours_any {g : List Nat} (hg : Gr g) (l : List Int) (v u : Value) (w : World) (hv : Ints w v (castN g)) (hu : Ints w u l) :
    Calls Try.prog 32 #[v, u] w fun e w' => e = .returned (.tuple #[.int .i64 (colN g l : Nat), .bool (decide (IsCol g l)), .int .i64 0]) ∧ w = w' := by
  have H := Lib.hid (valid_b (decide_eq_true (grI_of hg)) v w hv)
  obtain ⟨a, b, off, cap, rfl, hle, ha, hc⟩ := Ints.graph hv
  have hix := run_ix (P := Try.prog) (t := 27) (a := a) (len := g.length) (cap := cap) (b := b) (off := off) (s := 1) Try.underlying27 (by intro w; kernel_rfl) ha
  simp only [Nat.mul_one] at hix
  have hg12 := hg.le
  obtain ⟨a', b', off', cap', rfl, hle', ha', hc'⟩ := Ints.get hu
  have hix' := run_ix (P := Try.prog) (t := 22) (a := a') (len := l.length) (cap := cap') (b := b') (off := off') (s := 1) Try.underlying22 (by intro w; kernel_rfl) ha'
  simp only [Nat.mul_one] at hix'
  have Hc := Lib.hid hc
  have Hc' := Lib.hid (show ∀ i, i < l.length → w.cell? ⟨b', off' + i, none⟩ = some (.int .i64 (gI l i)) from fun i hi => by rw [hc' i hi, gI_get hi])
  have HG := Lib.hid hg
  have Hix := Lib.hid hix
  have Hix' := Lib.hid hix'
  obtain ⟨E, hE⟩ : ∃ E, E = decide (IsCol g l) := ⟨_, rfl⟩
  obtain ⟨N, hN⟩ : ∃ N, N = colN g l := ⟨_, rfl⟩
  rw [← hE, ← hN]
  have HE := Lib.hid hE
  have HN := Lib.hid hN
  have Hno := Lib.hid (show ¬ IsCol g l → E = false ∧ N = 0 from fun h => ⟨by rw [hE]; exact decide_eq_false h, by rw [hN]; exact if_neg h⟩)
  clear hv hu hc hc' hix hix' hE hN ha ha' hg
  by_cases hl : l.length = g.length
  · have hl12 : l.length ≤ 12 := by omega
    rw [hl] at Hix' Hc' ⊢
    go_enter Try.func32, Try.ntmps32
    go_wp2_with fail
    refine H.out.mono ?_
    rintro e w1 ⟨rfl, rfl⟩
    clear H
    go_wp2_with fail
    go_loopw [7, 21] (fun s i wr => ∃ k U : Nat, i = .int .i64 k ∧ s = .int .i64 U ∧ k ≤ g.length ∧ wr = w ∧ U = setN ((nat' l).take k) ∧ ∀ q, q < k → ColRow g l q) (fun _ i _ => g.length - (intOf i).toNat)
    case atStart => exact ⟨0, 0, rfl, rfl, Nat.zero_le _, rfl, rfl, fun q hq => by omega⟩
    case round =>
      obtain ⟨k, U, rfl, rfl, hk, hwr, hU, hin⟩ := hrel
      subst hwr
      have hU4 : U < 4096 := by rw [hU]; exact used_lt (by omega) fun i hi => (hin i hi).1
      have Hin := Lib.hid hin
      have HU := Lib.hid hU
      clear hin hU
      by_cases hlt : k < g.length
      · have hck := Hc'.out k hlt
        have hixk := Hix'.out k
        have hcg := Hc.out k (by omega)
        have hixg := Hix.out k
        have hnb := HG.out.lt k (by omega)
        obtain ⟨x, hx⟩ : ∃ x, x = gI l k := ⟨_, rfl⟩
        obtain ⟨z, hz⟩ : ∃ z, z = nb g k := ⟨_, rfl⟩
        rw [← hx] at hck
        rw [← hz] at hcg hnb
        have Hz := Lib.hid hz
        have Hnb := Lib.hid (show z < 2 ^ 63 by have := lt63 hnb hg12; omega)
        clear hz hnb
        by_cases hx0 : x < 0
        · have R := Lib.hid (Hno.out (isCol_no (i := k) (by omega) fun h => by have := h.1.1; omega))
          clear hx
          go_wp2_with fail
          go_ret3
          exact ⟨by rw [R.out.1, R.out.2]; rfl, rfl⟩
        · by_cases hxn : x ≥ 12
          · have R := Lib.hid (Hno.out (isCol_no (i := k) (by omega) fun h => by have := h.1.2; omega))
            clear hx
            go_wp2_with fail
            go_ret3
            exact ⟨by rw [R.out.1, R.out.2]; rfl, rfl⟩
          · obtain ⟨y, rfl⟩ := Int.eq_ofNat_of_zero_le (show 0 ≤ x by omega)
            have hy : y < 12 := by omega
            obtain ⟨P, hP, p1, p2, p3⟩ := pow_name y (by omega)
            have Hat := Lib.hid (show at' (nat' l) k = y by rw [at_nat (by omega), ← hx]; simp)
            have Hx := Lib.hid hx
            have RU := Lib.hid (show U ||| P = setN ((nat' l).take (k + 1)) by rw [setN_take (by rw [nat_length]; omega), ← HU.out, Hat.out, hP])
            have hor := bits_or_nat U P (by omega) (by omega)
            have hi1 : (0 : Int) ≤ (y : Int) := by omega
            have hi2 : (y : Int) < 64 := by omega
            clear hx hP
            go_wp2_with fail
            obtain ⟨wo, rfl⟩ : ∃ wo : World, wo = wr := ⟨_, rfl⟩
            go_loopw [37] (fun i wr => ∃ j : Nat, i = .int .i64 j ∧ j ≤ k ∧ wr = wo ∧ ∀ q, q < j → ¬ (z.testBit q = true ∧ gI l q = (y : Int))) (fun i _ => k - (intOf i).toNat)
            case atStart => exact ⟨0, rfl, Nat.zero_le _, rfl, fun q hq => by omega⟩
            case round =>
              obtain ⟨j, rfl, hj, hwr, hin2⟩ := hrel
              subst hwr
              have Hin2 := Lib.hid hin2
              clear hin2
              by_cases hltj : j < k
              · have hcj := Hc'.out j (by omega)
                have hixj := Hix'.out j
                obtain ⟨s, hs⟩ : ∃ s, s = gI l j := ⟨_, rfl⟩
                rw [← hs] at hcj
                have Hgo := Lib.hid (show ¬ (z.testBit j = true ∧ s = (y : Int)) → ∀ q, q < j + 1 → ¬ (z.testBit q = true ∧ gI l q = (y : Int)) from fun h q hq => by
                  by_cases e : q = j
                  · subst e; rw [← hs]; exact h
                  · exact Hin2.out q (by omega))
                have Hst := Lib.hid (show z.testBit j = true ∧ s = (y : Int) → E = false ∧ N = 0 from fun h => Hno.out (isCol_no (i := k) (by omega) fun hr => hr.2 j hltj ⟨by rw [← Hz.out]; exact h.1, by rw [← hs, ← Hx.out]; exact h.2⟩))
                have hj64 : j < 64 := by omega
                have hjg : j < g.length := by omega
                clear hs
                cases hbit : z.testBit j with
                | false =>
                  have Hh := Lib.hid (has_b z j false hbit Hnb.out hj64)
                  have R := Lib.hid (Hgo.out (fun h => by rw [hbit] at h; cases h.1))
                  clear hbit
                  go_wp2_with fail
                  refine (Hh.out _).mono ?_
                  rintro e w' ⟨rfl, rfl⟩
                  go_wp2_with fail
                  go_roundw
                  case rel => exact ⟨j + 1, by go_num, by omega, trivial, R.out⟩
                  case measure => simp [intOf]; omega
                | true =>
                  have Hh := Lib.hid (has_b z j true hbit Hnb.out hj64)
                  by_cases hsy : s = (y : Int)
                  · have R := Lib.hid (Hst.out ⟨hbit, hsy⟩)
                    have q : (s == (y : Int)) = true := by rw [beq_iff_eq]; exact hsy
                    clear hbit hsy
                    go_wp2_with fail
                    refine (Hh.out _).mono ?_
                    rintro e w' ⟨rfl, rfl⟩
                    go_wp2_with fail
                    go_ret3
                    exact ⟨by rw [R.out.1, R.out.2]; rfl, rfl⟩
                  · have R := Lib.hid (Hgo.out (fun h => hsy h.2))
                    have q : (s == (y : Int)) = false := by rw [beq_eq_false_iff_ne]; exact hsy
                    clear hbit hsy
                    go_wp2_with fail
                    refine (Hh.out _).mono ?_
                    rintro e w' ⟨rfl, rfl⟩
                    go_wp2_with fail
                    go_roundw
                    case rel => exact ⟨j + 1, by go_num, by omega, trivial, R.out⟩
                    case measure => simp [intOf]; omega
              · obtain rfl : k = j := by omega
                have R := Lib.hid (show ∀ q, q < k + 1 → ColRow g l q from fun q hq => by
                  by_cases e : q = k
                  · subst e; refine ⟨by rw [← Hx.out]; omega, fun j hj => ?_⟩
                    rw [← Hx.out, ← Hz.out]; exact Hin2.out j hj
                  · exact Hin.out q (by omega))
                go_wp2_with fail
                go_roundw
                case rel => exact ⟨k + 1, U ||| P, by go_num, rfl, by omega, trivial, RU.out, R.out⟩
                case measure => simp [intOf]; omega
      · obtain rfl : k = g.length := by omega
        have hcol : IsCol g l := ⟨hl, fun i hi => Hin.out i (by omega)⟩
        have R := Lib.hid (show E = true ∧ N = pop U from ⟨by rw [HE.out]; exact decide_eq_true hcol, by
          rw [HN.out, colN, if_pos hcol, HU.out, List.take_of_length_le (by rw [nat_length]; omega)]; rfl⟩)
        have Ho := Lib.hid (ones_any U hU4)
        clear hcol
        go_wp2_with fail
        refine (Ho.out _).mono ?_
        rintro e w' ⟨rfl, rfl⟩
        go_wp2_with fail
        go_ret3
        exact ⟨by rw [R.out.1, R.out.2]; rfl, rfl⟩
  · have R := Lib.hid (Hno.out fun h => hl h.1)
    go_enter Try.func32, Try.ntmps32
    go_wp2_with fail
    refine H.out.mono ?_
    rintro e w1 ⟨rfl, rfl⟩
    clear H
    go_wp2_with fail
    go_ret3
    exact ⟨by rw [R.out.1, R.out.2]; rfl, rfl⟩
#print axioms checkColours_any
end Go.Proofs.Ytkjpbjbheocciaa

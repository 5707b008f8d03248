/- Contracts of validParts, the law's list, the reference's Parts. -/
import Derived.Test.YtnidalbfmicoiaaWalkG
import Derived.Test.YtnidalbfmicoiaaWalkX
import Derived.Test.YtnidalbfmicoiaaWalkR
namespace Go.Proofs.Ytnidalbfmicoiaa
open Go.RowKit

/-- all of the first k sets together -/
def orTo (q : List Nat) : Nat → Nat
  | 0 => 0
  | k + 1 => orTo q k ||| q.getD k 0
theorem orTo_lt {q : List Nat} {m : Nat} (h : ∀ p ∈ q, p < 2 ^ m) : ∀ k, k ≤ q.length → orTo q k < 2 ^ m
  | 0, _ => Nat.two_pow_pos m
  | k + 1, hk => by
    have h1 := orTo_lt h k (by omega)
    have h2 : q.getD k 0 < 2 ^ m := by
      have : k < q.length := hk
      rw [show q.getD k 0 = q[k] by simp [List.getD, this]]
      exact h _ (List.getElem_mem this)
    exact Nat.or_lt_two_pow h1 h2
/-- the sets are a decomposition -/
def PartsN (m : Nat) (q : List Nat) : Prop := 1 ≤ q.length ∧ q.length ≤ 8 ∧ (∀ p ∈ q, p < 2 ^ m) ∧ orTo q q.length = 2 ^ m - 1
def PartsP (n : Int) (ps : List Int) : Prop := ∃ (m : Nat) (q : List Nat), n = m ∧ ps = castN q ∧ 1 ≤ m ∧ m ≤ 8 ∧ PartsN m q
theorem castN_inj {a b : List Nat} (h : castN a = castN b) : a = b := by
  have := congrArg (List.map Int.toNat) h
  simpa [castN, Function.comp_def] using this
theorem castN_length (q : List Nat) : (castN q).length = q.length := by simp [castN]
theorem partsP_take {n : Int} {ps : List Int} : PartsP n (ps.take 10) ↔ PartsP n ps := by
  by_cases h : ps.length ≤ 10
  · rw [List.take_of_length_le h]
  · constructor
    · rintro ⟨m, q, -, hq, -, -, h1, h2, -⟩
      have := congrArg List.length hq
      rw [castN_length] at this
      simp at this; omega
    · rintro ⟨m, q, -, hq, -, -, h1, h2, -⟩
      have := congrArg List.length hq
      rw [castN_length] at this
      omega
theorem validP_nil {n : Int} {ps : List Int} (h : ValidP n [] ps) : ∃ (m : Nat) (q : List Nat), n = m ∧ 1 ≤ m ∧ m ≤ 8 ∧ ps = castN q ∧ ∀ p ∈ q, p < 2 ^ m := by
  obtain ⟨m, l', t, h1, h2, h3, -, -, -, h4, h5⟩ := h.nat
  exact ⟨m, t, h1, h2, h3, h4, h5⟩

set_option maxRecDepth 100000 in
theorem validParts_any (n : Int) (ps : List Int) (v : Value) (w : World) (hv : Ints w v ps) :
    Calls Try.prog 87 #[.int .i64 n, v] w fun e w' => ∃ b, e = .returned (.bool b) ∧ (b = true ↔ PartsP n ps) ∧ Below w.heap.size w w' := by
  by_cases hlen : 1 ≤ ps.length ∧ ps.length ≤ 8
  · by_cases hval : ValidP n [] ps
    · have H := Lib.hid (valid_yes (deps_nil w) hv hval)
      obtain ⟨m, q, rfl, hm1, hm8, rfl, hq⟩ := validP_nil hval
      obtain ⟨F, hF⟩ : ∃ F, F = 2 ^ m := ⟨_, rfl⟩
      have hp := pow_small m hm8
      rw [castN_length] at hlen
      have Hiff := Lib.hid (show decide (orTo q q.length = F - 1) = true ↔ PartsP m (castN q) by
        rw [decide_eq_true_eq]
        constructor
        · intro h; exact ⟨m, q, rfl, rfl, hm1, hm8, hlen.1, hlen.2, hq, by rw [← hF]; exact h⟩
        · rintro ⟨m', q', e1, e2, -, -, -, -, -, h⟩
          have e1 : m = m' := by omega
          subst e1
          rw [castN_inj e2, hF]; exact h)
      rw [← hF] at hp hq
      have Hq := Lib.hid hq
      have HF := Lib.hid hF
      have Hor := Lib.hid (show ∀ k, k ≤ q.length → orTo q k < F from fun k hk => by rw [hF]; exact orTo_lt (fun p hp => by rw [← hF]; exact hq p hp) k hk)
      obtain ⟨a, b, off, cap, rfl, hle, ha, hc⟩ := Ints.get hv
      have e0 := castN_length q
      rw [e0] at hle ha ⊢
      have hc' : ∀ i (h : i < q.length), w.cell? ⟨b, off + i, none⟩ = some (.int .i64 ((q[i] : Nat) : Int)) := by
        intro i hi
        have := hc i (by rw [e0]; exact hi)
        simpa [castN] using this
      have Hc := Lib.hid hc'
      have hix := run_ix (P := Try.prog) (t := 56) (a := a) (len := q.length) (cap := cap) (b := b) (off := off) (s := 1) Try.underlying56 (by intro w; kernel_rfl) ha
      rw [e0] at H
      clear hq hF ha hc hv hval hc' e0
      go_enter Try.func87, Try.ntmps87
      go_wp2_with fail
      refine H.out.mono ?_
      rintro e w1 ⟨rfl, hb1⟩
      have Hb1 := Lib.hid hb1
      clear hb1 H
      go_wp2_with fail
      go_loopw [5, 24] (fun f i wr => ∃ k : Nat, i = .int .i64 k ∧ f = .int .i64 (orTo q k : Nat) ∧ k ≤ q.length ∧ wr = w1) (fun _ i _ => q.length - (intOf i).toNat)
      case atStart => exact ⟨0, rfl, rfl, Nat.zero_le _, rfl⟩
      case round =>
        obtain ⟨k, rfl, rfl, hk, rfl⟩ := hrel
        have ho := Hor.out k hk
        by_cases hlt : k < q.length
        · have hk2 : k < q.length := hlt
          have hcell := Below.keep Hb1.out (Hc.out k hlt)
          have hqk := Hq.out _ (List.getElem_mem hk2)
          have hst : orTo q (k + 1) = orTo q k ||| q[k] := by rw [orTo]; simp [List.getD, hk2]
          have Hst := Lib.hid hst
          have eor : bits .or .i64 (orTo q k : Nat) (q[k] : Nat) = ((orTo q k ||| q[k] : Nat) : Int) := bits_or_nat _ _ (by omega) (by omega)
          clear hst
          go_wp2_with fail
          go_roundw
          case rel => exact ⟨k + 1, by go_num, by rw [Hst.out], by omega, trivial⟩
          case measure => simp [intOf]; omega
        · obtain rfl : k = q.length := by omega
          have t1 : ((orTo q q.length : Nat) : Int) = ((F - 1 : Nat) : Int) ↔ orTo q q.length = F - 1 := by omega
          have t2 : (((orTo q q.length : Nat) : Int) == ((F - 1 : Nat) : Int)) = decide (orTo q q.length = F - 1) := by rw [Bool.eq_iff_iff]; simp; omega
          clear t1
          go_wp2_with fail
          refine (full_F HF.out hm8 _).mono ?_
          rintro e w3 ⟨rfl, rfl⟩
          go_wp2_with fail
          go_ret
          exact ⟨_, rfl, Hiff.out, Hb1.out⟩
    · have H := Lib.hid (valid_no (deps_nil w) hv hval)
      have R := Lib.hid (show ¬ PartsP n ps from fun ⟨m, q, e1, e2, h1, h2, h3, h4, h5, h6⟩ => hval ⟨⟨by omega, by omega, by simp⟩, fun d hd => by simp at hd, fun x hx => by
        rw [e2] at hx
        obtain ⟨p, hp, rfl⟩ := List.mem_map.1 hx
        rw [e1]
        exact (inSet_nat m p).2 ⟨by omega, by have := h5 p hp; omega⟩⟩)
      obtain ⟨a, b, off, cap, rfl, hle, ha, hc⟩ := Ints.get hv
      clear ha hc hv hval
      go_enter Try.func87, Try.ntmps87
      go_wp2_with fail
      refine H.out.mono ?_
      rintro e w1 ⟨rfl, hb1⟩
      go_wp2_with fail
      go_ret
      exact ⟨_, rfl, by simpa using R.out, hb1⟩
  · have R := Lib.hid (show ¬ PartsP n ps from fun ⟨m, q, e1, e2, h1, h2, h3, h4, h5, h6⟩ => hlen (by rw [e2, castN_length]; exact ⟨h3, h4⟩))
    obtain ⟨a, b, off, cap, rfl, hle, ha, hc⟩ := Ints.get hv
    clear ha hc hv
    have h2 : ps.length < 1 ∨ 8 < ps.length := by omega
    clear hlen
    rcases h2 with h2 | h2
    · go_enter Try.func87, Try.ntmps87
      go_wp2_with fail
      go_ret
      exact .inl ⟨rfl, R.out, Below.refl _ _⟩
    · go_enter Try.func87, Try.ntmps87
      go_wp2_with fail
      go_ret
      exact .inl ⟨rfl, R.out, Below.refl _ _⟩

theorem list_any (ps : List Int) (v : Value) (w : World) (hv : Ints w v ps) :
    Calls Try.prog 55 #[v] w fun e w' => ∃ v', e = .returned v' ∧ Ints w' v' (ps.take 10) ∧ Below w.heap.size w w' := by
  have Hv := Lib.hid hv
  obtain ⟨a, b, off, cap, rfl, hle, ha, hc⟩ := Ints.get hv
  have hcap := hv.cap
  have hto := run_to (P := Try.prog) (t := 56) (a := a) (len := ps.length) (cap := cap) (s := 1) Try.underlying56 (by intro w; kernel_rfl) hcap
  have key : ∀ k, k ≤ ps.length → Ints w (.slice a k cap) (ps.take k) := by
    intro k hk
    have e : (ps.take k).length = k := by simp; omega
    refine ⟨by rw [List.length_map, Nat.mul_one], by rw [e]; unfold maxLen; omega, a, b, off, cap, by rw [e], ⟨fun h => ha (by omega), by omega⟩, fun j hj => ?_⟩
    have hj' : j < k := by simp at hj; omega
    rw [hc j (by omega)]; simp
  clear hv ha hc
  by_cases h10 : ps.length ≤ 10
  · have Hk := Lib.hid (key ps.length (Nat.le_refl _))
    have e1 : ps.take 10 = ps.take ps.length := by rw [List.take_of_length_le h10, List.take_length]
    have hto2 := fun w => hto ps.length w (Nat.le_refl _)
    rw [e1]
    have Hlen := Lib.hid (show (ps.take ps.length).length ≤ 1000000 by simp; omega)
    have Hto := Lib.hid hto2
    clear key e1 hto hto2
    generalize hn : ps.length = n at *
    have hto3 := Hto.out
    clear hn
    by_cases h10' : n = 10
    · subst h10'
      go_enter Try.func55, Try.ntmps55
      go_wp2_with fail
      refine (clone_any _ _ _ Hlen.out Hk.out).mono ?_
      rintro e w1 ⟨v', rfl, ho, hb⟩
      have Ho := Lib.hid ho.ints
      clear ho
      go_wp2_with fail
      go_ret
      exact ⟨_, rfl, Ho.out, hb⟩
    · go_enter Try.func55, Try.ntmps55
      go_wp2_with fail
      refine (clone_any _ _ _ Hlen.out Hk.out).mono ?_
      rintro e w1 ⟨v', rfl, ho, hb⟩
      have Ho := Lib.hid ho.ints
      clear ho
      go_wp2_with fail
      go_ret
      exact ⟨_, rfl, Ho.out, hb⟩
  · have Hk := Lib.hid (key 10 (by omega))
    have hto2 : ∀ w, _ := fun w => hto 10 w (by omega)
    have Hlen := Lib.hid (show (ps.take 10).length ≤ 1000000 by simp; omega)
    clear key hto
    go_enter Try.func55, Try.ntmps55
    go_wp2_with fail
    refine (clone_any _ _ _ Hlen.out Hk.out).mono ?_
    rintro e w1 ⟨v', rfl, ho, hb⟩
    have Ho := Lib.hid ho.ints
    clear ho
    go_wp2_with fail
    go_ret
    exact ⟨_, rfl, Ho.out, hb⟩

theorem PartsP.sets {m : Nat} {ps : List Int} (h : PartsP m ps) : ∀ x ∈ ps, InSet m x := by
  obtain ⟨m', q, e1, e2, h1, h2, h3, h4, h5, h6⟩ := h
  have e1 : m = m' := by omega
  subst e1
  intro x hx
  rw [e2] at hx
  obtain ⟨p, hp, rfl⟩ := List.mem_map.1 hx
  exact (inSet_nat m p).2 ⟨by omega, by have := h5 p hp; omega⟩
theorem partsP_iff {m : Nat} (h1 : 1 ≤ m) (h8 : m ≤ 8) {ps : List Int} (h : ∀ x ∈ ps, InSet m x) : PartsP m ps ↔ (1 ≤ ps.length ∧ ps.length ≤ 8) ∧ orTo (ps.map Int.toNat) ps.length = 2 ^ m - 1 := by
  have e : castN (ps.map Int.toNat) = ps := by
    unfold castN
    rw [List.map_map]
    conv => rhs; rw [← List.map_id ps]
    apply List.map_congr_left
    intro x hx
    have := (inSet_nat m x).1 (h x hx)
    simp; omega
  constructor
  · rintro ⟨m', q, e1, e2, -, -, h3, h4, h5, h6⟩
    have e1 : m = m' := by omega
    subst e1
    have e3 : q = ps.map Int.toNat := castN_inj (by rw [e]; exact e2.symm)
    subst e3
    simp at h3 h4 h6
    exact ⟨⟨h3, h4⟩, h6⟩
  · rintro ⟨⟨h3, h4⟩, h6⟩
    refine ⟨m, ps.map Int.toNat, rfl, e.symm, h1, h8, by simpa using h3, by simpa using h4, fun p hp => ?_, by simpa using h6⟩
    obtain ⟨x, hx, rfl⟩ := List.mem_map.1 hp
    have := (inSet_nat m x).1 (h x hx)
    omega
theorem orTo_lt2 {ps : List Int} {m : Nat} : ∀ k, k ≤ ps.length → (∀ i (h : i < ps.length), i < k → InSet m ps[i]) → orTo (ps.map Int.toNat) k < 2 ^ m
  | 0, _, _ => Nat.two_pow_pos m
  | k + 1, hk, h => by
    have h1 := orTo_lt2 k (by omega) (fun i a b => h i a (by omega))
    have := (inSet_nat m _).1 (h k (by omega) (by omega))
    exact Nat.or_lt_two_pow h1 (by simp [List.getD, show k < ps.length from hk]; omega)

set_option maxRecDepth 100000 in
theorem partsR_any (m F : Nat) (h1 : 1 ≤ m) (hm8 : m ≤ 8) (hF : F = 2 ^ m) (ps : List Int) (v : Value) (w : World) (hv : Ints w v ps) :
    Calls Try.prog 57 #[.int .i64 m, v] w fun e w' => ∃ b, e = .returned (.bool b) ∧ (b = true ↔ PartsP m ps) ∧ Below w.heap.size w w' := by
  have hp := pow_small m hm8
  have pc : (2 : Int) ^ m = (F : Int) := by rw [hF]; simp
  have qF : 1 ≤ F := by rw [hF]; exact Nat.two_pow_pos m
  have Hor := Lib.hid (fun k hk h => orTo_lt2 (ps := ps) (m := m) k hk h)
  have Hsets := Lib.hid (fun h : PartsP m ps => h.sets)
  have Hiff := Lib.hid (fun h => partsP_iff (ps := ps) h1 hm8 h)
  rw [← hF] at hp Hor Hiff
  obtain ⟨a, b, off, cap, rfl, hle, ha, hc⟩ := Ints.get hv
  have Hc := Lib.hid hc
  have hix := run_ix (P := Try.prog) (t := 56) (a := a) (len := ps.length) (cap := cap) (b := b) (off := off) (s := 1) Try.underlying56 (by intro w; kernel_rfl) ha
  clear ha hc hv hF
  go_enter Try.func57, Try.ntmps57
  go_wp2_with fail
  go_loopw [5, 10] (fun f i wr => ∃ k : Nat, i = .int .i64 k ∧ f = .int .i64 (orTo (ps.map Int.toNat) k : Nat) ∧ k ≤ ps.length ∧ wr = w ∧ ∀ i (h : i < ps.length), i < k → InSet m ps[i]) (fun _ i _ => ps.length - (intOf i).toNat)
  case atStart => exact ⟨0, rfl, rfl, Nat.zero_le _, rfl, fun i h q => by omega⟩
  case round =>
    obtain ⟨k, rfl, rfl, hk, rfl, hin⟩ := hrel
    have ho := Hor.out k hk hin
    have Hin := Lib.hid hin
    clear hin
    by_cases hlt : k < ps.length
    · have hcell := Hc.out k hlt
      go_wp2_with fail
      refine (setR_any m ps[k] hm8 _).mono ?_
      rintro e w1 ⟨rfl, rfl⟩
      by_cases hs : InSet m ps[k]
      · rw [decide_eq_true hs]
        have R := Lib.hid (show ∀ i (h : i < ps.length), i < k + 1 → InSet m ps[i] from fun i h q => by
          rcases Nat.lt_succ_iff_lt_or_eq.1 q with q | rfl
          · exact Hin.out i h q
          · exact hs)
        have ho2 := Hor.out (k + 1) (by omega) R.out
        have hq := (inSet_nat m _).1 hs
        have ep : ps[k] = ((ps[k].toNat : Nat) : Int) := by omega
        have hst : orTo (ps.map Int.toNat) (k + 1) = orTo (ps.map Int.toNat) k ||| ps[k].toNat := by rw [orTo]; simp [List.getD, hlt]
        have hpm : ps[k].toNat < 256 := by
          have := pow_small m hm8
          omega
        have Hst := Lib.hid hst
        have eor : bits .or .i64 (orTo (ps.map Int.toNat) k : Nat) ps[k] = ((orTo (ps.map Int.toNat) k ||| ps[k].toNat : Nat) : Int) := by
          conv => lhs; rw [ep]
          exact bits_or_nat _ _ (by omega) (by omega)
        clear hst ep hs hq
        go_wp2_with fail
        go_roundw
        case rel => exact ⟨k + 1, by go_num, by rw [Hst.out], by omega, trivial, R.out⟩
        case measure => simp [intOf]; omega
      · rw [decide_eq_false hs]
        have R := Lib.hid (show ¬ PartsP m ps from fun h => hs (Hsets.out h _ (List.getElem_mem hlt)))
        clear hs
        go_wp2_with fail
        go_ret
        exact ⟨false, rfl, by simpa using R.out, Below.refl _ _⟩
    · have hkl : k = ps.length := by omega
      have hall : ∀ x ∈ ps, InSet m x := fun x hx => by
        obtain ⟨i, hi, rfl⟩ := List.mem_iff_getElem.1 hx
        exact Hin.out i hi (by omega)
      have R := Lib.hid (Hiff.out hall)
      rw [hkl] at ho ⊢
      have qF2 : ((F : Int) - 1) = ((F - 1 : Nat) : Int) := by omega
      clear hkl hall
      by_cases l1 : 1 ≤ ps.length
      · by_cases l8 : ps.length ≤ 8
        · have t2 : (((orTo (ps.map Int.toNat) ps.length : Nat) : Int) == ((F - 1 : Nat) : Int)) = decide (orTo (ps.map Int.toNat) ps.length = F - 1) := by rw [Bool.eq_iff_iff]; simp; omega
          have R2 := Lib.hid (show decide (orTo (ps.map Int.toNat) ps.length = F - 1) = true ↔ PartsP m ps by rw [decide_eq_true_eq, R.out]; simp [l1, l8])
          go_wp2_with fail
          go_ret
          exact ⟨_, rfl, R2.out, Below.refl _ _⟩
        · have R2 := Lib.hid (show ¬ PartsP m ps by rw [R.out]; omega)
          go_wp2_with fail
          go_ret
          exact .inl ⟨rfl, R2.out, Below.refl _ _⟩
      · have R2 := Lib.hid (show ¬ PartsP m ps by rw [R.out]; omega)
        go_wp2_with fail
        go_ret
        exact .inl ⟨rfl, R2.out, Below.refl _ _⟩
end Go.Proofs.Ytnidalbfmicoiaa

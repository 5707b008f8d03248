/- Contracts of isLetter, isLabel, Label, few, agreement, agree. -/
import Derived.Test.YtbnlkmblkokooaaOwn
import Derived.Test.YtbnlkmblkokooaaEq
namespace Go.Proofs.Ytbnlkmblkokooaa
open Go.RowKit

theorem letter_b (c : UInt8) (b : Bool) (h : letterB c = b) (w : World) :
    Calls Try.prog 75 #[.int .u8 (c.toNat : Nat)] w fun e w' => e = .returned (.bool b) ∧ w = w' := by
  have HB := Lib.hid h
  have hc := c.toNat_lt
  obtain ⟨n, hn⟩ : ∃ n : Nat, n = c.toNat := ⟨_, rfl⟩
  have Hn := Lib.hid hn
  rw [← hn] at hc ⊢
  clear h hn
  by_cases h1 : 32 ≤ n
  · by_cases h2 : n ≤ 126
    · have R := Lib.hid (show true = b by rw [← HB.out]; unfold letterB; rw [← Hn.out]; exact (decide_eq_true ⟨h1, h2⟩).symm)
      go_enter Try.func75, Try.ntmps75
      go_wp2
      go_ret
      exact ⟨by rw [← R.out]; simp; omega, rfl⟩
    · have R := Lib.hid (show false = b by rw [← HB.out]; unfold letterB; rw [← Hn.out]; exact (decide_eq_false fun h => h2 h.2).symm)
      go_enter Try.func75, Try.ntmps75
      go_wp2
      go_ret
      exact ⟨by rw [← R.out]; simp; omega, rfl⟩
  · have R := Lib.hid (show false = b by rw [← HB.out]; unfold letterB; rw [← Hn.out]; exact (decide_eq_false fun h => h1 h.1).symm)
    go_enter Try.func75, Try.ntmps75
    go_wp2
    go_ret
    exact ⟨by rw [← R.out]; rfl, rfl⟩
theorem lab_no {s : ByteArray} {k : Nat} (hk : k < s.size) (h : letterB s[k] = false) : decide (Lab (bs s)) = false :=
  decide_eq_false fun hl => by
    have := hl.2 s[k] (by rw [bs_get hk]; exact List.getElem_mem _)
    rw [h] at this; cases this
theorem lab_long {s : ByteArray} (h : 200 < s.size) : decide (Lab (bs s)) = false :=
  decide_eq_false fun hl => by have := hl.1; rw [bs_len] at this; omega
theorem lab_yes {s : ByteArray} (h : s.size ≤ 200) (ha : ∀ k (hk : k < s.size), letterB s[k] = true) : decide (Lab (bs s)) = true :=
  decide_eq_true ⟨by rw [bs_len]; exact h, fun c hc => by
    obtain ⟨k, hk, e⟩ := List.getElem_of_mem hc
    rw [bs_len] at hk
    rw [← e, ← bs_get hk]; exact ha k hk⟩
theorem isLabel_b (s : ByteArray) (hs : s.size ≤ 1000) (b : Bool) (hb : decide (Lab (bs s)) = b) (w : World) :
    Calls Try.prog 53 #[.string s] w fun e w' => e = .returned (.bool b) ∧ w = w' := by
  subst hb
  by_cases h200 : s.size ≤ 200
  · go_enter Try.func53, Try.ntmps53
    go_wp2
    go_loopw [9] (fun i wr => ∃ k : Nat, i = .int .i64 k ∧ k ≤ s.size ∧ wr = w ∧ ∀ q (hq : q < s.size), q < k → letterB s[q] = true) (fun i _ => s.size - (intOf i).toNat)
    case atStart => exact ⟨0, rfl, Nat.zero_le _, rfl, fun q _ hq => by omega⟩
    case round =>
      obtain ⟨k, rfl, hk, hwr, hin⟩ := hrel
      subst hwr
      have Hin := Lib.hid hin
      clear hin
      by_cases hlt : k < s.size
      · cases hl : letterB s[k] with
        | true =>
          have R := Lib.hid (show ∀ q (hq : q < s.size), q < k + 1 → letterB s[q] = true from fun q hq h => by
            by_cases e : q = k
            · subst e; exact hl
            · exact Hin.out q hq (by omega))
          have HL := Lib.hid hl
          clear hl
          go_wp2_with fail
          refine (letter_b _ true HL.out _).mono ?_
          rintro e w' ⟨rfl, rfl⟩
          go_wp2_with fail
          go_roundw
          case rel => exact ⟨k + 1, by go_num, by omega, trivial, R.out⟩
          case measure => simp [intOf]; omega
        | false =>
          have R := Lib.hid (lab_no hlt hl)
          have HL := Lib.hid hl
          clear hl
          go_wp2_with fail
          refine (letter_b _ false HL.out _).mono ?_
          rintro e w' ⟨rfl, rfl⟩
          go_wp2_with fail
          go_ret
          exact ⟨by rw [R.out]; rfl, rfl⟩
      · obtain rfl : k = s.size := by omega
        have R := Lib.hid (lab_yes h200 fun k hk => Hin.out k hk hk)
        go_wp2_with fail
        go_ret
        exact ⟨by rw [R.out]; rfl, rfl⟩
  · have R := Lib.hid (lab_long (s := s) (by omega))
    go_enter Try.func53, Try.ntmps53
    go_wp2
    go_ret
    exact ⟨by rw [R.out]; rfl, rfl⟩
theorem letterB_of {c : UInt8} (h1 : 32 ≤ c.toNat) (h2 : c.toNat ≤ 126) : letterB c = true := decide_eq_true ⟨h1, h2⟩
theorem label_b (s : ByteArray) (hs : s.size ≤ 1000) (b : Bool) (hb : decide (Lab (bs s)) = b) (w : World) :
    Calls Try.prog 21 #[.string s] w fun e w' => e = .returned (.bool b) ∧ w = w' := by
  subst hb
  go_enter Try.func21, Try.ntmps21
  go_wp2
  go_loopw [6] (fun i wr => ∃ k : Nat, i = .int .i64 k ∧ k ≤ s.size ∧ wr = w ∧ ∀ q (hq : q < s.size), q < k → letterB s[q] = true) (fun i _ => s.size - (intOf i).toNat)
  case atStart => exact ⟨0, rfl, Nat.zero_le _, rfl, fun q _ hq => by omega⟩
  case round =>
    obtain ⟨k, rfl, hk, hwr, hin⟩ := hrel
    subst hwr
    have Hin := Lib.hid hin
    clear hin
    by_cases hlt : k < s.size
    · by_cases h1 : 32 ≤ s[k].toNat
      · by_cases h2 : s[k].toNat ≤ 126
        · have R := Lib.hid (show ∀ q (hq : q < s.size), q < k + 1 → letterB s[q] = true from fun q hq h => by
            by_cases e : q = k
            · subst e; exact letterB_of h1 h2
            · exact Hin.out q hq (by omega))
          go_wp2_with fail
          go_roundw
          case rel => exact ⟨k + 1, by go_num, by omega, trivial, R.out⟩
          case measure => simp [intOf]; omega
        · have R := Lib.hid (lab_no hlt (decide_eq_false fun h => h2 h.2))
          go_wp2_with fail
          go_ret
          exact ⟨by rw [R.out]; rfl, rfl⟩
      · have R := Lib.hid (lab_no hlt (decide_eq_false fun h => h1 h.1))
        go_wp2_with fail
        go_ret
        exact ⟨by rw [R.out]; rfl, rfl⟩
    · obtain rfl : k = s.size := by omega
      by_cases h200 : s.size ≤ 200
      · have R := Lib.hid (lab_yes h200 fun k hk => Hin.out k hk hk)
        go_wp2_with fail
        go_ret
        exact ⟨by rw [R.out]; simp; omega, rfl⟩
      · have R := Lib.hid (lab_long (s := s) (by omega))
        go_wp2_with fail
        go_ret
        exact ⟨by rw [R.out]; simp; omega, rfl⟩
/-- what few leaves -/
def fewB (s : ByteArray) : ByteArray := s.extract 0 (min s.size 300)
theorem fewB_size (s : ByteArray) : (fewB s).size ≤ 300 := by unfold fewB; rw [ByteArray.size_extract]; omega
theorem fewB_eq {s : ByteArray} (h : s.size ≤ 300) : fewB s = s := by
  apply bs_inj
  unfold fewB
  rw [bs_part, List.drop_zero, Nat.sub_zero, List.take_of_length_le]
  rw [bs_len]; omega
theorem few_any (s : ByteArray) (hs : s.size ≤ maxLen) (w : World) :
    Calls Try.prog 18 #[.string s] w fun e w' => e = .returned (.string (fewB s)) ∧ w = w' := by
  unfold maxLen at hs
  by_cases h : s.size ≤ 300
  · have e : fewB s = s := fewB_eq h
    have E := Lib.hid e
    clear e
    go_enter Try.func18, Try.ntmps18
    go_wp2
    go_ret
    exact ⟨by rw [E.out]; rfl, rfl⟩
  · have e : fewB s = s.extract 0 300 := by unfold fewB; rw [Nat.min_eq_right (by omega)]
    have E := Lib.hid e
    clear e
    go_enter Try.func18, Try.ntmps18
    go_wp2
    go_ret
    exact ⟨by rw [E.out]; rfl, rfl⟩
theorem lcp_next {a b : Bs} {k : Nat} (h : k < lcp a b) : ∃ (h1 : k < a.length) (h2 : k < b.length), a[k] = b[k] := by
  obtain ⟨e, h1, h2⟩ := (lcp_ge a b (k + 1)).1 h
  refine ⟨h1, h2, ?_⟩
  have e1 : (a.take (k + 1))[k]? = a[k]? := by rw [List.getElem?_take]; simp
  have e2 : (b.take (k + 1))[k]? = b[k]? := by rw [List.getElem?_take]; simp
  rw [e, e2, List.getElem?_eq_getElem h1, List.getElem?_eq_getElem h2] at e1
  exact (Option.some.inj e1).symm
theorem lcp_more {a b : Bs} {k : Nat} (h : k ≤ lcp a b) (h1 : k < a.length) (h2 : k < b.length) (e : a[k] = b[k]) : k < lcp a b := by
  obtain ⟨h3, _, _⟩ := (lcp_ge a b k).1 h
  refine (lcp_ge a b (k + 1)).2 ⟨?_, h1, h2⟩
  rw [List.take_succ_eq_append_getElem h1, List.take_succ_eq_append_getElem h2, h3, e]
theorem u8_ne {a b : UInt8} (h : a ≠ b) : ((a.toNat : Int) == (b.toNat : Int)) = false := by
  rw [beq_eq_false_iff_ne]
  intro e
  exact h (UInt8.toNat_inj.1 (by omega))
theorem agreement_any (a b : ByteArray) (ha : a.size ≤ 1000) (w : World) :
    Calls Try.prog 79 #[.string a, .string b] w fun e w' => e = .returned (.int .i64 (lcp (bs a) (bs b) : Nat)) ∧ ∃ q, w' = w.drewN q := by
  obtain ⟨L, hL⟩ : ∃ L, L = lcp (bs a) (bs b) := ⟨_, rfl⟩
  have hLa := (lcp_le (bs a) (bs b)).1
  have hLb := (lcp_le (bs a) (bs b)).2
  have HN := Lib.hid (fun k (h : k < L) => lcp_next (a := bs a) (b := bs b) (k := k) (by rw [← hL]; exact h))
  have HM := Lib.hid (fun k (h : k ≤ L) h1 h2 e => (show k < L by rw [hL]; exact lcp_more (a := bs a) (b := bs b) (k := k) (by rw [← hL]; exact h) h1 h2 e))
  rw [bs_len, ← hL] at hLa hLb
  rw [← hL]
  clear hL
  go_enter Try.func79, Try.ntmps79
  go_wp2
  go_loopw [5] (fun i wr => ∃ k : Nat, i = .int .i64 k ∧ k ≤ L ∧ ∃ q, wr = w.drewN q) (fun i _ => L - (intOf i).toNat)
  case atStart => exact ⟨0, rfl, Nat.zero_le _, 0, rfl⟩
  case round =>
    obtain ⟨k, rfl, hk, q, rfl⟩ := hrel
    by_cases hlt : k < L
    · have hka : k < a.size := by omega
      have hkb : k < b.size := by omega
      have e : ((a[k].toNat : Int) == (b[k].toNat : Int)) = true := by
        obtain ⟨h1, h2, e⟩ := HN.out k hlt
        rw [bs_get hka, bs_get hkb, e]; simp
      go_wp2_with fail
      go_quiet (fail)
      go_wp2_with fail
      go_roundw
      case rel => exact ⟨k + 1, by go_num, by omega, _, rfl⟩
      case measure => simp [intOf]; omega
    · obtain rfl : k = L := by omega
      by_cases hka : k < a.size
      · by_cases hkb : k < b.size
        · have e : ((a[k].toNat : Int) == (b[k].toNat : Int)) = false := u8_ne fun e => by
            have := HM.out k (Nat.le_refl _) (by rw [bs_len]; exact hka) (by rw [bs_len]; exact hkb) (by rw [← bs_get hka, ← bs_get hkb]; exact e)
            omega
          go_wp2_with fail
          go_quiet (fail)
          go_wp2_with fail
          go_ret
          exact ⟨rfl, _, World.drewN_drewN _ _ _⟩
        · have hd : decide (k < b.size) = false := decide_eq_false hkb
          go_wp2_with fail
          go_quiet (fail)
          go_wp2_with fail
          go_ret
          exact ⟨rfl, _, World.drewN_drewN _ _ _⟩
      · have hd : decide (k < a.size) = false := decide_eq_false hka
        go_wp2_with fail
        go_quiet (fail)
        go_wp2_with fail
        go_ret
        exact ⟨rfl, _, World.drewN_drewN _ _ _⟩
theorem agree_any (a b : ByteArray) (ha : a.size ≤ 1000) (w : World) :
    Calls Try.prog 56 #[.string a, .string b] w fun e w' => e = .returned (.int .i64 (lcp (bs a) (bs b) : Nat)) ∧ ∃ q, w' = w.drewN q := by
  obtain ⟨L, hL⟩ : ∃ L, L = lcp (bs a) (bs b) := ⟨_, rfl⟩
  have hLa := (lcp_le (bs a) (bs b)).1
  have hLb := (lcp_le (bs a) (bs b)).2
  have HN := Lib.hid (fun k (h : k < L) => lcp_next (a := bs a) (b := bs b) (k := k) (by rw [← hL]; exact h))
  have HM := Lib.hid (fun k (h : k ≤ L) h1 h2 e => (show k < L by rw [hL]; exact lcp_more (a := bs a) (b := bs b) (k := k) (by rw [← hL]; exact h) h1 h2 e))
  rw [bs_len, ← hL] at hLa hLb
  rw [← hL]
  clear hL
  go_enter Try.func56, Try.ntmps56
  go_wp2
  go_loopw [5] (fun i wr => ∃ k : Nat, i = .int .i64 k ∧ k ≤ L ∧ ∃ q, wr = w.drewN q) (fun i _ => L - (intOf i).toNat)
  case atStart => exact ⟨0, rfl, Nat.zero_le _, 0, rfl⟩
  case round =>
    obtain ⟨k, rfl, hk, q, rfl⟩ := hrel
    by_cases hlt : k < L
    · have hka : k < a.size := by omega
      have hkb : k < b.size := by omega
      have e : ((a[k].toNat : Int) == (b[k].toNat : Int)) = true := by
        obtain ⟨h1, h2, e⟩ := HN.out k hlt
        rw [bs_get hka, bs_get hkb, e]; simp
      go_wp2_with fail
      go_quiet (fail)
      go_wp2_with fail
      go_roundw
      case rel => exact ⟨k + 1, by go_num, by omega, _, rfl⟩
      case measure => simp [intOf]; omega
    · obtain rfl : k = L := by omega
      by_cases hka : k < a.size
      · by_cases hkb : k < b.size
        · have e : ((a[k].toNat : Int) == (b[k].toNat : Int)) = false := u8_ne fun e => by
            have := HM.out k (Nat.le_refl _) (by rw [bs_len]; exact hka) (by rw [bs_len]; exact hkb) (by rw [← bs_get hka, ← bs_get hkb]; exact e)
            omega
          go_wp2_with fail
          go_quiet (fail)
          go_wp2_with fail
          go_ret
          exact ⟨rfl, _, World.drewN_drewN _ _ _⟩
        · have hd : decide (k < b.size) = false := decide_eq_false hkb
          go_wp2_with fail
          go_quiet (fail)
          go_wp2_with fail
          go_ret
          exact ⟨rfl, _, World.drewN_drewN _ _ _⟩
      · have hd : decide (k < a.size) = false := decide_eq_false hka
        go_wp2_with fail
        go_quiet (fail)
        go_wp2_with fail
        go_ret
        exact ⟨rfl, _, World.drewN_drewN _ _ _⟩
#print axioms isLabel_b
#print axioms agreement_any
end Go.Proofs.Ytbnlkmblkokooaa

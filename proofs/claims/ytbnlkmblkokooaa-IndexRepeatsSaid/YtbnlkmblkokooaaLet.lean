/- Contracts of validLetters, the reference's Letters and Locate. -/
import Derived.Test.YtbnlkmblkokooaaMch
import Derived.Test.YtbnlkmblkokooaaLng
import Derived.Test.YtbnlkmblkokooaaAbs
namespace Go.Proofs.Ytbnlkmblkokooaa
open Go.RowKit

/-- letters: at least one, rising -/
def LetOK (l : Bs) : Prop := 1 ≤ l.length ∧ l.length ≤ 8 ∧ (∀ c ∈ l, letterB c = true) ∧ ∀ i (h : i + 1 < l.length), l[i].toNat < l[i + 1].toNat
theorem let_yes {s : ByteArray} (h1 : 1 ≤ s.size) (h2 : s.size ≤ 8) (h3 : ∀ k (h : k < s.size), letterB s[k] = true) (h4 : ∀ i (h : i + 1 < s.size), s[i].toNat < s[i + 1].toNat) : LetOK (bs s) :=
  ⟨by rw [bs_len]; exact h1, by rw [bs_len]; exact h2, fun c hc => by
    obtain ⟨k, hk, e⟩ := List.getElem_of_mem hc
    rw [bs_len] at hk
    rw [← e, ← bs_get hk]; exact h3 k hk, fun i hi => by
    rw [bs_len] at hi
    have := h4 i hi
    rw [bs_get, bs_get] at this
    exact this⟩
theorem let_letter {s : ByteArray} (h : LetOK (bs s)) {k : Nat} (hk : k < s.size) : letterB s[k] = true := h.2.2.1 _ (by rw [bs_get hk]; exact List.getElem_mem _)
theorem let_lt {s : ByteArray} (h : LetOK (bs s)) {i : Nat} (hi : i + 1 < s.size) : s[i].toNat < s[i + 1].toNat := by
  have := h.2.2.2 i (by rw [bs_len]; exact hi)
  rw [bs_get, bs_get]; exact this
theorem let_no1 {s : ByteArray} (h : ¬ (1 ≤ s.size ∧ s.size ≤ 8)) : ¬ LetOK (bs s) := fun g => h ⟨by have := g.1; rwa [bs_len] at this, by have := g.2.1; rwa [bs_len] at this⟩
theorem bfalse_of {p : Prop} {b : Bool} (hb : b = true ↔ p) (h : ¬ p) : b = false := by
  cases b with
  | false => rfl
  | true => exact absurd (hb.1 rfl) h
def wdrewN (w w' : World) : Prop := ∃ q, w' = w.drewN q
set_option maxRecDepth 100000 in
set_option maxHeartbeats 4000000 in
theorem validLetters_any (s : ByteArray) (hs : s.size ≤ 1000) (b : Bool) (hb : b = true ↔ LetOK (bs s)) (w : World) :
    Calls Try.prog 69 #[.string s] w fun e w' => e = .returned (.bool b) ∧ ∃ q, w' = w.drewN q := by
  have HB := Lib.hid hb
  clear hb
  by_cases h1 : 1 ≤ s.size
  · by_cases h2 : s.size ≤ 8
    · go_enter Try.func69, Try.ntmps69
      go_wp2_with fail
      go_loopw [14] (fun i wr => ∃ k : Nat, i = .int .i64 k ∧ k ≤ s.size ∧ (∃ q, wr = w.drewN q) ∧ (∀ j (h : j < s.size), j < k → letterB s[j] = true) ∧ (∀ j (h : j + 1 < s.size), j + 1 < k → s[j].toNat < s[j + 1].toNat)) (fun i _ => s.size - (intOf i).toNat)
      case atStart => exact ⟨0, rfl, Nat.zero_le _, ⟨0, rfl⟩, fun j _ h => by omega, fun j _ h => by omega⟩
      case round =>
        obtain ⟨k, rfl, hk, ⟨q, rfl⟩, hin, hin2⟩ := hrel
        have Hin := Lib.hid hin
        have Hin2 := Lib.hid hin2
        clear hin hin2
        by_cases hlt : k < s.size
        · obtain ⟨w5, hw5⟩ : ∃ w5, w.drewN q = w5 := ⟨_, rfl⟩
          rw [hw5]
          have HW5 := Lib.hid hw5
          clear hw5
          cases hl : letterB s[k] with
          | false =>
            have R := Lib.hid (bfalse_of HB.out fun h => by have := let_letter h hlt; rw [hl] at this; cases this)
            have HL := Lib.hid hl
            clear hl
            go_wp2_with fail
            go_quiet ((go_at_call 75; exact Calls.quiet_of (quiet_same (letter_b _ false HL.out _))))
            go_wp2_with fail
            go_ret
            exact ⟨by rw [R.out]; rfl, q + nq, by rw [← HW5.out]; exact World.drewN_drewN _ _ _⟩
          | true =>
            have HL := Lib.hid hl
            have R1 := Lib.hid (show ∀ j (h : j < s.size), j < k + 1 → letterB s[j] = true from fun j h hj => by
              by_cases e : j = k
              · subst e; exact hl
              · exact Hin.out j h (by omega))
            clear hl
            by_cases h0 : k = 0
            · subst h0
              have hd : decide ((0 : Int) < ((0 : Nat) : Int)) = false := by decide
              have R2 := Lib.hid (show ∀ j (h : j + 1 < s.size), j + 1 < 0 + 1 → s[j].toNat < s[j + 1].toNat from fun j _ hj => by omega)
              go_wp2_with fail
              go_quiet ((go_at_call 75; exact Calls.quiet_of (quiet_same (letter_b _ true HL.out _))))
              go_wp2_with fail
              go_roundw
              case rel => exact ⟨0 + 1, by go_num, by omega, ⟨q + nq, by rw [← HW5.out]; exact World.drewN_drewN _ _ _⟩, R1.out, R2.out⟩
              case measure => simp [intOf]; omega
            · obtain ⟨i, hi⟩ : ∃ i, k = i + 1 := ⟨k - 1, by omega⟩
              have hilt : i < s.size := by omega
              have hd : decide (0 < k) = true := decide_eq_true (by omega)
              have hw : IntKind.i64.wrap ((k : Int) - 1) = (i : Int) := by rw [IntWalk.i64_in _ ⟨by omega, by omega⟩]; omega
              have Hi := Lib.hid hi
              have Hat := Lib.hid (show ∀ (h : i + 1 < s.size), s[k] = s[i + 1] from fun _ => by simp only [hi])
              clear hi h0
              by_cases hle : s[i].toNat < s[k].toNat
              · have R2 := Lib.hid (show ∀ j (h : j + 1 < s.size), j + 1 < k + 1 → s[j].toNat < s[j + 1].toNat from fun j h hj => by
                  have hi := Hi.out
                  by_cases e : j = i
                  · subst e
                    rw [← Hat.out h]; exact hle
                  · exact Hin2.out j h (by omega))
                have hd2 : decide (s[k].toNat ≤ s[i].toNat) = false := decide_eq_false (by omega)
                go_wp2_with fail
                go_quiet ((go_at_call 75; exact Calls.quiet_of (quiet_same (letter_b _ true HL.out _))))
                go_wp2_with fail
                go_roundw
                case rel => exact ⟨k + 1, by go_num, by omega, ⟨q + nq, by rw [← HW5.out]; exact World.drewN_drewN _ _ _⟩, R1.out, R2.out⟩
                case measure => simp [intOf]; omega
              · have R := Lib.hid (bfalse_of HB.out fun h => by
                  have h' := let_lt h (i := i) (by have := Hi.out; omega)
                  rw [← Hat.out (by have := Hi.out; omega)] at h'
                  exact hle h')
                have hd2 : decide (s[k].toNat ≤ s[i].toNat) = true := decide_eq_true (by omega)
                go_wp2_with fail
                go_quiet ((go_at_call 75; exact Calls.quiet_of (quiet_same (letter_b _ true HL.out _))))
                go_wp2_with fail
                go_ret
                exact ⟨by rw [R.out]; rfl, q + nq, by rw [← HW5.out]; exact World.drewN_drewN _ _ _⟩
        · obtain rfl : k = s.size := by omega
          have R := Lib.hid (HB.out.2 (let_yes h1 h2 (fun j h => Hin.out j h h) (fun j h => Hin2.out j h h)))
          go_wp2_with fail
          go_ret
          exact ⟨by rw [R.out]; rfl, q, rfl⟩
    · have R := Lib.hid (bfalse_of HB.out (let_no1 fun h => h2 h.2))
      go_enter Try.func69, Try.ntmps69
      go_wp2_with fail
      go_ret
      exact ⟨by rw [R.out]; rfl, 0, rfl⟩
  · have R := Lib.hid (bfalse_of HB.out (let_no1 fun h => h1 h.1))
    go_enter Try.func69, Try.ntmps69
    go_wp2_with fail
    go_ret
    exact ⟨by rw [R.out]; rfl, 0, rfl⟩
theorem let_lab {l : Bs} (h : LetOK l) : Lab l := ⟨by have := h.2.1; omega, h.2.2.1⟩
theorem let_of {s : ByteArray} (h1 : 1 ≤ s.size) (h2 : s.size ≤ 8) (h3 : Lab (bs s)) (h4 : ∀ i (h : i + 1 < s.size), s[i].toNat < s[i + 1].toNat) : LetOK (bs s) :=
  let_yes h1 h2 (fun k hk => h3.2 _ (by rw [bs_get hk]; exact List.getElem_mem _)) h4
set_option maxRecDepth 100000 in
set_option maxHeartbeats 4000000 in
theorem letters_any (s : ByteArray) (hs : s.size ≤ 1000) (b : Bool) (hb : b = true ↔ LetOK (bs s)) (w : World) :
    Calls Try.prog 45 #[.string s] w fun e w' => e = .returned (.bool b) ∧ ∃ q, w' = w.drewN q := by
  have HB := Lib.hid hb
  clear hb
  go_enter Try.func45, Try.ntmps45
  go_wp2_with fail
  go_loopw [3] (fun i wr => ∃ m : Nat, i = .int .i64 m ∧ 1 ≤ m ∧ (m ≤ s.size ∨ m = 1) ∧ (∃ q, wr = w.drewN q) ∧ (∀ j (h : j + 1 < s.size), j + 1 < m → s[j].toNat < s[j + 1].toNat)) (fun i _ => s.size + 1 - (intOf i).toNat)
  case atStart => exact ⟨1, rfl, Nat.le_refl _, .inr rfl, ⟨0, rfl⟩, fun j _ h => by omega⟩
  case round =>
    obtain ⟨m, rfl, hm1, hm2, ⟨q, rfl⟩, hin⟩ := hrel
    have Hin := Lib.hid hin
    clear hin
    by_cases hlt : m < s.size
    · obtain ⟨k, hi⟩ : ∃ k, m = k + 1 := ⟨m - 1, by omega⟩
      have hklt : k < s.size := by omega
      have hw : IntKind.i64.wrap ((m : Int) - 1) = (k : Int) := by rw [IntWalk.i64_in _ ⟨by omega, by omega⟩]; omega
      have Hi := Lib.hid hi
      have Hat := Lib.hid (show ∀ (h : k + 1 < s.size), s[m] = s[k + 1] from fun _ => by simp only [hi])
      obtain ⟨w5, hw5⟩ : ∃ w5, w.drewN q = w5 := ⟨_, rfl⟩
      rw [hw5]
      have HW5 := Lib.hid hw5
      clear hi hw5 hm2
      by_cases hle : s[k].toNat < s[m].toNat
      · have R2 := Lib.hid (show ∀ j (h : j + 1 < s.size), j + 1 < m + 1 → s[j].toNat < s[j + 1].toNat from fun j h hj => by
          have hi := Hi.out
          by_cases e : j = k
          · subst e
            rw [← Hat.out h]; exact hle
          · exact Hin.out j h (by omega))
        have hd2 : decide (s[m].toNat ≤ s[k].toNat) = false := decide_eq_false (by omega)
        go_wp2_with fail
        go_quiet (fail)
        go_wp2_with fail
        go_roundw
        case rel => exact ⟨m + 1, by go_num, by omega, .inl (by omega), ⟨q + nq, by rw [← HW5.out]; exact World.drewN_drewN _ _ _⟩, R2.out⟩
        case measure => simp [intOf]; omega
      · have R := Lib.hid (bfalse_of HB.out fun h => by
          have h' := let_lt h (i := k) (by have := Hi.out; omega)
          rw [← Hat.out (by have := Hi.out; omega)] at h'
          exact hle h')
        have hd2 : decide (s[m].toNat ≤ s[k].toNat) = true := decide_eq_true (by omega)
        go_wp2_with fail
        go_quiet (fail)
        go_wp2_with fail
        go_ret
        exact ⟨by rw [R.out]; rfl, q + nq, by rw [← HW5.out]; exact World.drewN_drewN _ _ _⟩
    · by_cases hl : Lab (bs s)
      · have HL := Lib.hid (label_b s hs true (decide_eq_true hl))
        by_cases h1 : 1 ≤ s.size
        · by_cases h2 : s.size ≤ 8
          · have R := Lib.hid (HB.out.2 (let_of h1 h2 hl (fun j h => Hin.out j h (by omega))))
            clear hl
            go_wp2_with fail
            refine (HL.out _).mono ?_
            rintro e w' ⟨rfl, rfl⟩
            go_wp2_with fail
            go_ret
            exact ⟨by rw [R.out]; simp; omega, q, rfl⟩
          · have R := Lib.hid (bfalse_of HB.out (let_no1 fun h => h2 h.2))
            clear hl
            go_wp2_with fail
            refine (HL.out _).mono ?_
            rintro e w' ⟨rfl, rfl⟩
            go_wp2_with fail
            go_ret
            exact ⟨by rw [R.out]; simp; omega, q, rfl⟩
        · have R := Lib.hid (bfalse_of HB.out (let_no1 fun h => h1 h.1))
          clear hl
          go_wp2_with fail
          refine (HL.out _).mono ?_
          rintro e w' ⟨rfl, rfl⟩
          go_wp2_with fail
          go_ret
          exact ⟨by rw [R.out]; rfl, q, rfl⟩
      · have HL := Lib.hid (label_b s hs false (decide_eq_false hl))
        have R := Lib.hid (bfalse_of HB.out (fun h => hl (let_lab h)))
        clear hl
        go_wp2_with fail
        refine (HL.out _).mono ?_
        rintro e w' ⟨rfl, rfl⟩
        go_wp2_with fail
        go_ret
        exact ⟨by rw [R.out]; rfl, q, rfl⟩
/-- all occurrences -/
def locs (t p : Bs) : List Nat := (List.range (t.length + 1)).filter fun i => Lib.occAt t p i
theorem locs_nil {t p : Bs} : locs t p = [] ↔ Lib.contains t p = false := by
  unfold locs
  rw [List.filter_eq_nil_iff]
  constructor
  · intro h
    cases hc : Lib.contains t p with
    | false => rfl
    | true =>
      obtain ⟨j, hj, ho⟩ := (contains_iff t p).1 hc
      exact absurd ho (h j (by simp; omega))
  · intro h j hj ho
    have : Lib.contains t p = true := (contains_iff t p).2 ⟨j, by simp at hj; omega, ho⟩
    rw [h] at this; cases this
theorem occ_ex {s p : ByteArray} {i : Nat} : Lib.occAt (bs s) (bs p) i = ((s.extract i (i + p.size)).toList == p.toList) := by
  rw [bs_toList, bs_toList, bs_part, Nat.add_sub_cancel_left, Bool.eq_iff_iff, beq_iff_eq]
  unfold Lib.occAt
  rw [List.isPrefixOf_iff_prefix, List.prefix_iff_eq_take, bs_len]
  exact eq_comm
theorem occ_no {s p : ByteArray} {i : Nat} (his : i ≤ s.size) (hno : ¬ i + p.size ≤ s.size) : Lib.occAt (bs s) (bs p) i = false := by
  cases h : Lib.occAt (bs s) (bs p) i with
  | false => rfl
  | true =>
    have h2 := (List.isPrefixOf_iff_prefix.1 h).length_le
    rw [List.length_drop, bs_len, bs_len] at h2
    omega
def locUp (t p : Bs) (j : Nat) : List Nat := (List.range j).filter fun i => Lib.occAt t p i
theorem locUp_yes {t p : Bs} {j : Nat} (h : Lib.occAt t p j = true) : locUp t p (j + 1) = locUp t p j ++ [j] := by simp [locUp, List.range_succ, h]
theorem locUp_no {t p : Bs} {j : Nat} (h : Lib.occAt t p j = false) : locUp t p (j + 1) = locUp t p j := by simp [locUp, List.range_succ, h]
theorem locUp_len (t p : Bs) (j : Nat) : (locUp t p j).length ≤ j := by
  unfold locUp
  have := List.length_filter_le (fun i => Lib.occAt t p i) (List.range j)
  simpa using this
set_option maxRecDepth 100000 in
set_option maxHeartbeats 4000000 in
theorem locateR_any (s p : ByteArray) (hs : s.size ≤ 1000) (hp : p.size ≤ 1000) (w : World) :
    Calls Try.prog 36 #[.string s, .string p] w fun e w' => ∃ v', e = .returned v' ∧ OwnInts w.heap.size w' v' (castN (locs (bs s) (bs p))) ∧ Below w.heap.size w w' := by
  obtain ⟨n, hn⟩ : ∃ n, n = s.size + 1 := ⟨_, rfl⟩
  have HN := Lib.hid hn
  have hn1 : n ≤ 1001 := by omega
  have hnI : IntKind.i64.wrap ((s.size : Int) + 1) = (n : Int) := by rw [IntWalk.i64_in _ ⟨by omega, by omega⟩]; omega
  clear hn
  go_enter Try.func36, Try.ntmps36
  go_wp2_with fail
  go_loopw [5, 10] (fun o i wr => ∃ j : Nat, i = .int .i64 j ∧ j ≤ n ∧ Below w.heap.size w wr ∧ OwnInts w.heap.size wr o (castN (locUp (bs s) (bs p) j))) (fun _ i _ => n - (intOf i).toNat)
  case atStart => exact ⟨0, rfl, Nat.zero_le _, Below.refl _ _, ownInts_nil _ _⟩
  case round =>
    obtain ⟨j, rfl, hj, hb', hown'⟩ := hrel
    have Hb' := Lib.hid hb'
    have Hown' := Lib.hid hown'
    clear hb' hown'
    by_cases hltj : j < n
    · have hjs : j ≤ s.size := by have := HN.out; omega
      have hlen := locUp_len (bs s) (bs p) j
      have hw1 : IntKind.i64.wrap ((s.size : Int) - (j : Int)) = (s.size : Int) - (j : Int) := IntWalk.i64_in _ ⟨by omega, by omega⟩
      by_cases hfit : j + p.size ≤ s.size
      · have hd : decide ((p.size : Int) ≤ (s.size : Int) - (j : Int)) = true := decide_eq_true (by omega)
        have ht : ((j : Int) + (p.size : Int)).toNat = j + p.size := by omega
        have he := occ_ex (s := s) (p := p) (i := j)
        cases ho : Lib.occAt (bs s) (bs p) j with
        | true =>
          rw [ho] at he
          have hq : (s.extract j (j + p.size)).toList = p.toList := by simpa using he.symm
          have R := Lib.hid (locUp_yes ho)
          clear he ho
          go_wp2_with (at_builtin; refine append_own rfl (.tmp 31) (.tmp 33) 23 rfl elemInts rfl (World.ownsRow.alloc Hown'.out _) [.int .i64 (j : Nat)] rfl rfl ?c1 ?c2 ?c3 ?c4 ?_)
          case c1 => intro q u hq; exact new_one _ _ _ hq
          case c2 => intro u hu; simp at hu; subst hu; rfl
          case c3 => rw [castN_length]; omega
          case c4 => have := Hb'.out.size; simp; omega
          intro v7 w7 hown7 hb7 _
          have HO := Lib.hid (show OwnInts w.heap.size w7 v7 (castN (locUp (bs s) (bs p) (j + 1))) from by
            rw [R.out, castN_append]; exact OwnInts.snoc hown7)
          have hb' := Lib.hid (show Below w.heap.size w w7 from (Below.alloc Hb'.out Hb'.out.size _).trans hb7)
          clear hown7 hb7
          go_wp2_with fail
          go_roundw
          case rel => exact ⟨j + 1, by go_num, by omega, hb'.out, HO.out⟩
          case measure => simp [intOf]; omega
        | false =>
          rw [ho] at he
          have hq : ((s.extract j (j + p.size)).toList == p.toList) = false := he.symm
          have HO := Lib.hid (show OwnInts w.heap.size wr u5 (castN (locUp (bs s) (bs p) (j + 1))) from by rw [locUp_no ho]; exact Hown'.out)
          clear he ho
          go_wp2_with fail
          go_roundw
          case rel => exact ⟨j + 1, by go_num, by omega, Hb'.out, HO.out⟩
          case measure => simp [intOf]; omega
      · have hd : decide ((p.size : Int) ≤ (s.size : Int) - (j : Int)) = false := decide_eq_false (by omega)
        have HO := Lib.hid (show OwnInts w.heap.size wr u5 (castN (locUp (bs s) (bs p) (j + 1))) from by rw [locUp_no (occ_no hjs hfit)]; exact Hown'.out)
        go_wp2_with fail
        go_roundw
        case rel => exact ⟨j + 1, by go_num, by omega, Hb'.out, HO.out⟩
        case measure => simp [intOf]; omega
    · obtain rfl : j = n := by omega
      have HO := Lib.hid (show OwnInts w.heap.size wr u5 (castN (locs (bs s) (bs p))) from by
        have := Hown'.out
        rw [HN.out] at this
        unfold locs
        rw [bs_len]
        exact this)
      go_wp2_with fail
      go_ret
      exact ⟨_, rfl, HO.out, Hb'.out⟩
#print axioms locateR_any
#print axioms letters_any
end Go.Proofs.Ytbnlkmblkokooaa

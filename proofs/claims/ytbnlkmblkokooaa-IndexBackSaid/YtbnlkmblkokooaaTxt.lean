/- Texts: isText. -/
import Derived.Test.YtbnlkmblkokooaaLab
import Derived.BigQuiet
namespace Go.Proofs.Ytbnlkmblkokooaa
open Go.RowKit
def mayB (c : UInt8) : Bool := letterB c || c == 10
def Txt (l : Bs) : Prop := l.length ≤ 201 ∧ ∀ c ∈ l, mayB c = true
instance (l : Bs) : Decidable (Txt l) := inferInstanceAs (Decidable (_ ∧ _))
theorem txt_no {s : ByteArray} {k : Nat} (hk : k < s.size) (h : mayB s[k] = false) : decide (Txt (bs s)) = false :=
  decide_eq_false fun hl => by
    have := hl.2 s[k] (by rw [bs_get hk]; exact List.getElem_mem _)
    rw [h] at this; cases this
theorem txt_long {s : ByteArray} (h : 201 < s.size) : decide (Txt (bs s)) = false :=
  decide_eq_false fun hl => by have := hl.1; rw [bs_len] at this; omega
theorem txt_yes {s : ByteArray} (h : s.size ≤ 201) (ha : ∀ k (hk : k < s.size), mayB s[k] = true) : decide (Txt (bs s)) = true :=
  decide_eq_true ⟨by rw [bs_len]; exact h, fun c hc => by
    obtain ⟨k, hk, e⟩ := List.getElem_of_mem hc
    rw [bs_len] at hk
    rw [← e, ← bs_get hk]; exact ha k hk⟩
set_option maxRecDepth 100000 in
set_option maxHeartbeats 1000000 in
theorem isText_b (s : ByteArray) (hs : s.size ≤ 1000) (b : Bool) (hb : decide (Txt (bs s)) = b) (w : World) :
    Calls Try.prog 58 #[.string s] w fun e w' => e = .returned (.bool b) ∧ ∃ q, w' = w.drewN q := by
  subst hb
  by_cases h200 : s.size ≤ 201
  · go_enter Try.func58, Try.ntmps58
    go_wp2_with fail
    go_loopw [9] (fun i wr => ∃ k : Nat, i = .int .i64 k ∧ k ≤ s.size ∧ (∃ d, wr = w.drewN d) ∧ ∀ q (hq : q < s.size), q < k → mayB s[q] = true) (fun i _ => s.size - (intOf i).toNat)
    case atStart => exact ⟨0, rfl, Nat.zero_le _, ⟨0, rfl⟩, fun q _ hq => by omega⟩
    case round =>
      obtain ⟨k, rfl, hk, ⟨d, hwr⟩, hin⟩ := hrel
      have HWr := Lib.hid hwr
      have Hin := Lib.hid hin
      clear hin hwr
      by_cases hlt : k < s.size
      · cases hl : letterB s[k] with
        | true =>
          have R := Lib.hid (show ∀ q (hq : q < s.size), q < k + 1 → mayB s[q] = true from fun q hq h => by
            by_cases e : q = k
            · subst e; unfold mayB; rw [hl]; rfl
            · exact Hin.out q hq (by omega))
          have HL := Lib.hid hl
          clear hl
          go_wp2_with fail
          refine (letter_b _ true HL.out _).mono ?_
          rintro e w' ⟨rfl, hw'⟩
          subst hw'
          go_wp2_with fail
          go_roundw
          case rel => exact ⟨k + 1, by go_num, by omega, ⟨d, HWr.out⟩, R.out⟩
          case measure => simp [intOf]; omega
        | false =>
          have HL := Lib.hid hl
          clear hl
          by_cases h10 : s[k].toNat = 10
          · have R := Lib.hid (show ∀ q (hq : q < s.size), q < k + 1 → mayB s[q] = true from fun q hq h => by
              by_cases e : q = k
              · subst e; unfold mayB; rw [HL.out, show s[q] = 10 from UInt8.toNat_inj.1 h10]; rfl
              · exact Hin.out q hq (by omega))
            have HLc := Lib.hid (show ∀ w, Calls Try.prog 75 #[.int .u8 10] w fun e w' => e = .returned (.bool false) ∧ w = w' from fun w => by
              have h := letter_b s[k] false HL.out w
              rw [h10] at h
              exact h)
            go_wp2_with fail
            refine (HLc.out _).mono ?_
            rintro e w' ⟨rfl, hw'⟩
            subst hw'
            go_wp2_with fail
            go_roundw
            case rel => exact ⟨k + 1, by go_num, by omega, ⟨d, HWr.out⟩, R.out⟩
            case measure => simp [intOf]; omega
          · have R := Lib.hid (txt_no hlt (show mayB s[k] = false from by
              unfold mayB
              rw [HL.out, Bool.false_or, beq_eq_false_iff_ne]
              intro e; exact h10 (by rw [e]; rfl)))
            go_wp2_with fail
            refine (letter_b _ false HL.out _).mono ?_
            rintro e w' ⟨rfl, hw'⟩
            subst hw'
            go_wp2_with fail
            go_ret
            exact ⟨by rw [R.out]; rfl, d, HWr.out⟩
      · obtain rfl : k = s.size := by omega
        have R := Lib.hid (txt_yes h200 fun k hk => Hin.out k hk hk)
        go_wp2_with fail
        go_ret
        exact ⟨by rw [R.out]; rfl, d, HWr.out⟩
  · have R := Lib.hid (txt_long (s := s) (by omega))
    go_enter Try.func58, Try.ntmps58
    go_wp2_with fail
    go_ret
    exact ⟨by rw [R.out]; rfl, 0, rfl⟩
#print axioms isText_b
end Go.Proofs.Ytbnlkmblkokooaa

/- The contract of the reference's Moved. -/
import Derived.Test.YtbnlkmblkokooaaTxt
namespace Go.Proofs.Ytbnlkmblkokooaa
open Go.RowKit
theorem mayB_iff (c : UInt8) : mayB c = true ↔ (32 ≤ c.toNat ∧ c.toNat ≤ 126) ∨ c.toNat = 10 := by
  unfold mayB letterB
  rw [Bool.or_eq_true, decide_eq_true_eq, beq_iff_eq]
  constructor
  · rintro (h | h)
    · exact .inl h
    · exact .inr (by rw [h]; rfl)
  · rintro (h | h)
    · exact .inl h
    · exact .inr (UInt8.toNat_inj.1 h)
set_option maxRecDepth 100000 in
set_option maxHeartbeats 2000000 in
theorem moved_b (s : ByteArray) (hs : s.size ≤ 1000) (b : Bool) (hb : decide (Txt (bs s)) = b) (w : World) :
    Calls Try.prog 31 #[.string s] w fun e w' => e = .returned (.bool b) ∧ w = w' := by
  subst hb
  go_enter Try.func31, Try.ntmps31
  go_wp2_with fail
  go_loopw [6] (fun i wr => ∃ k : Nat, i = .int .i64 k ∧ k ≤ s.size ∧ wr = w ∧ ∀ q (hq : q < s.size), q < k → mayB s[q] = true) (fun i _ => s.size - (intOf i).toNat)
  case atStart => exact ⟨0, rfl, Nat.zero_le _, rfl, fun q _ hq => by omega⟩
  case round =>
    obtain ⟨k, rfl, hk, hwr, hin⟩ := hrel
    subst hwr
    have Hin := Lib.hid hin
    clear hin
    by_cases hlt : k < s.size
    · cases hl : mayB s[k] with
      | true =>
        have R := Lib.hid (show ∀ q (hq : q < s.size), q < k + 1 → mayB s[q] = true from fun q hq h => by
          by_cases e : q = k
          · subst e; exact hl
          · exact Hin.out q hq (by omega))
        rcases (mayB_iff _).1 hl with ⟨h1, h2⟩ | h1
        · have h3 : s[k].toNat ≠ 10 := by omega
          clear hl
          go_wp2_with fail
          go_roundw
          case rel => exact ⟨k + 1, by go_num, by omega, trivial, R.out⟩
          case measure => simp [intOf]; omega
        · clear hl
          go_wp2_with fail
          go_roundw
          case rel => exact ⟨k + 1, by go_num, by omega, trivial, R.out⟩
          case measure => simp [intOf]; omega
      | false =>
        have R := Lib.hid (txt_no hlt hl)
        have hno : ¬ ((32 ≤ s[k].toNat ∧ s[k].toNat ≤ 126) ∨ s[k].toNat = 10) := fun h => by
          have := (mayB_iff _).2 h
          rw [hl] at this; cases this
        have h3 : s[k].toNat ≠ 10 := by omega
        have h4 : ((s[k].toNat : Int) != 10) = true := bne_iff_ne.2 (by omega)
        by_cases h1 : s[k].toNat < 32
        · clear hl hno
          go_wp2_with fail
          go_ret
          exact ⟨by rw [R.out]; rfl, rfl⟩
        · have h2 : 126 < s[k].toNat := by omega
          have h5 : ¬ (s[k].toNat : Int) ≤ 126 := by omega
          clear hl hno
          go_wp2_with fail
          go_ret
          exact ⟨by rw [R.out]; rfl, rfl⟩
    · obtain rfl : k = s.size := by omega
      by_cases h200 : s.size ≤ 201
      · have R := Lib.hid (txt_yes h200 fun k hk => Hin.out k hk hk)
        go_wp2_with fail
        go_ret
        exact ⟨by rw [R.out]; simp; omega, rfl⟩
      · have R := Lib.hid (txt_long (s := s) (by omega))
        go_wp2_with fail
        go_ret
        exact ⟨by rw [R.out]; simp; omega, rfl⟩
#print axioms moved_b
end Go.Proofs.Ytbnlkmblkokooaa

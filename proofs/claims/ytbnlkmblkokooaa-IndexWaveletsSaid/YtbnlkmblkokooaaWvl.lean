/- Contracts of isText and Wavelet. -/
import Derived.Test.YtbnlkmblkokooaaIdx
import Derived.BigQuiet
namespace Go.Proofs.Ytbnlkmblkokooaa
open Go.RowKit
def mayB (c : UInt8) : Bool := letterB c || c == 10
def Txt (l : Bs) : Prop := l.length ≤ 201 ∧ ∀ c ∈ l, mayB c = true
instance (l : Bs) : Decidable (Txt l) := inferInstanceAs (Decidable (_ ∧ _))
theorem txt_no {s : ByteArray} {k : Nat} (hk : k < s.size) (h : mayB s[k] = false) : decide (Txt (bs s)) = false :=
  decide_eq_false fun hl => by
    have := hl.2 s[k] (by rw [bs_get hk]; exact List.getElem_mem _)
    rw [h] at this; cases this
theorem txt_long {s : ByteArray} (h : 201 < s.size) : decide (Txt (bs s)) = false :=
  decide_eq_false fun hl => by have := hl.1; rw [bs_len] at this; omega
theorem txt_yes {s : ByteArray} (h : s.size ≤ 201) (ha : ∀ k (hk : k < s.size), mayB s[k] = true) : decide (Txt (bs s)) = true :=
  decide_eq_true ⟨by rw [bs_len]; exact h, fun c hc => by
    obtain ⟨k, hk, e⟩ := List.getElem_of_mem hc
    rw [bs_len] at hk
    rw [← e, ← bs_get hk]; exact ha k hk⟩
set_option maxRecDepth 100000 in
set_option maxHeartbeats 1000000 in
theorem isText_b (s : ByteArray) (hs : s.size ≤ 1000) (b : Bool) (hb : decide (Txt (bs s)) = b) (w : World) :
    Calls Try.prog 58 #[.string s] w fun e w' => e = .returned (.bool b) ∧ ∃ q, w' = w.drewN q := by
  subst hb
  by_cases h200 : s.size ≤ 201
  · go_enter Try.func58, Try.ntmps58
    go_wp2_with fail
    go_loopw [9] (fun i wr => ∃ k : Nat, i = .int .i64 k ∧ k ≤ s.size ∧ (∃ d, wr = w.drewN d) ∧ ∀ q (hq : q < s.size), q < k → mayB s[q] = true) (fun i _ => s.size - (intOf i).toNat)
    case atStart => exact ⟨0, rfl, Nat.zero_le _, ⟨0, rfl⟩, fun q _ hq => by omega⟩
    case round =>
      obtain ⟨k, rfl, hk, ⟨d, hwr⟩, hin⟩ := hrel
      have HWr := Lib.hid hwr
      have Hin := Lib.hid hin
      clear hin hwr
      by_cases hlt : k < s.size
      · cases hl : letterB s[k] with
        | true =>
          have R := Lib.hid (show ∀ q (hq : q < s.size), q < k + 1 → mayB s[q] = true from fun q hq h => by
            by_cases e : q = k
            · subst e; unfold mayB; rw [hl]; rfl
            · exact Hin.out q hq (by omega))
          have HL := Lib.hid hl
          clear hl
          go_wp2_with fail
          refine (letter_b _ true HL.out _).mono ?_
          rintro e w' ⟨rfl, hw'⟩
          subst hw'
          go_wp2_with fail
          go_roundw
          case rel => exact ⟨k + 1, by go_num, by omega, ⟨d, HWr.out⟩, R.out⟩
          case measure => simp [intOf]; omega
        | false =>
          have HL := Lib.hid hl
          clear hl
          by_cases h10 : s[k].toNat = 10
          · have R := Lib.hid (show ∀ q (hq : q < s.size), q < k + 1 → mayB s[q] = true from fun q hq h => by
              by_cases e : q = k
              · subst e; unfold mayB; rw [HL.out, show s[q] = 10 from UInt8.toNat_inj.1 h10]; rfl
              · exact Hin.out q hq (by omega))
            have HLc := Lib.hid (show ∀ w, Calls Try.prog 75 #[.int .u8 10] w fun e w' => e = .returned (.bool false) ∧ w = w' from fun w => by
              have h := letter_b s[k] false HL.out w
              rw [h10] at h
              exact h)
            go_wp2_with fail
            refine (HLc.out _).mono ?_
            rintro e w' ⟨rfl, hw'⟩
            subst hw'
            go_wp2_with fail
            go_roundw
            case rel => exact ⟨k + 1, by go_num, by omega, ⟨d, HWr.out⟩, R.out⟩
            case measure => simp [intOf]; omega
          · have R := Lib.hid (txt_no hlt (show mayB s[k] = false from by
              unfold mayB
              rw [HL.out, Bool.false_or, beq_eq_false_iff_ne]
              intro e; exact h10 (by rw [e]; rfl)))
            go_wp2_with fail
            refine (letter_b _ false HL.out _).mono ?_
            rintro e w' ⟨rfl, hw'⟩
            subst hw'
            go_wp2_with fail
            go_ret
            exact ⟨by rw [R.out]; rfl, d, HWr.out⟩
      · obtain rfl : k = s.size := by omega
        have R := Lib.hid (txt_yes h200 fun k hk => Hin.out k hk hk)
        go_wp2_with fail
        go_ret
        exact ⟨by rw [R.out]; rfl, d, HWr.out⟩
  · have R := Lib.hid (txt_long (s := s) (by omega))
    go_enter Try.func58, Try.ntmps58
    go_wp2_with fail
    go_ret
    exact ⟨by rw [R.out]; rfl, 0, rfl⟩
#print axioms isText_b
theorem waveletE_bad {s : ByteArray} (hs : s.size ≤ 1000) (h : ¬ Txt (bs s)) (w : World) :
    Calls Try.prog 30 #[.string s] w fun e w' => e = .returned (.tuple #[.string ⟨#[]⟩, .int .i64 2]) ∧ ∃ q, w' = w.drewN q := by
  have H := Lib.hid (isText_b s hs false (decide_eq_false h))
  clear h hs
  go_enter Try.func30, Try.ntmps30
  go_wp2_with fail
  refine (H.out _).mono ?_
  rintro e w1 ⟨rfl, q, rfl⟩
  go_wp2_with fail
  go_ret2
  exact ⟨rfl, q, rfl⟩
#print axioms waveletE_bad
/-- the bytes of a string in a new block -/
theorem bytes_new (S : ByteArray) (w : World) (hs : S.size ≤ 1000) : ∃ cap w2, (w2 = w.drew.alloc (.cells (bytesRow S cap) 5 ((bytesRow S cap).size, (bytesRow S cap).size + 1))) ∧ cap = grownCap w S.size 0 5 ∧ Byts w2 (.slice (some ⟨w.heap.size, 0, none⟩) S.size cap) (bs S) ∧ Below w.heap.size w w2 := by
  refine ⟨_, _, rfl, rfl, byts_of (w := w.drew) _ (grownCap_ge w S.size 0 5) (by omega) _, Below.tr (bdrewN (Below.refl _ _) 1) (below_alloc _ _)⟩
#print axioms bytes_new
set_option maxRecDepth 100000 in
set_option maxHeartbeats 4000000 in
theorem waveletE_any {S : ByteArray} (h : Txt (bs S)) (w : World) :
    Calls Try.prog 30 #[.string S] w fun e w' => e = .returned (.tuple #[strV (wav (lets (bs S)) (bs S)), .int .i64 0]) ∧ Below w.heap.size w w' := by
  have hs : S.size ≤ 201 := by have := h.1; rwa [bs_len] at this
  have H := Lib.hid (isText_b S (by omega) true (decide_eq_true h))
  obtain ⟨n, hn⟩ : ∃ n, n = S.size := ⟨_, rfl⟩
  have HN := Lib.hid hn
  have hn1 : n ≤ 201 := by omega
  have HS := Lib.hid hs
  clear h hs hn
  go_enter Try.func30, Try.ntmps30
  go_wp2_with fail
  refine (H.out _).mono ?_
  rintro e w1 ⟨rfl, q, hw1⟩
  have HW1 := Lib.hid (show Below w.heap.size w w1 from by rw [hw1]; exact bdrewN (Below.refl _ _) q)
  clear hw1
  go_wp2_with fail
  have hb0 := bld_new w1
  have hbw0 := below_alloc w1 (.cells #[.pointer none, .slice none 0 0] 63)
  obtain ⟨b, hb⟩ : ∃ b, b = w1.heap.size := ⟨_, rfl⟩
  obtain ⟨w2, hw2⟩ : ∃ w2, w2 = w1.alloc (.cells #[.pointer none, .slice none 0 0] 63) := ⟨_, rfl⟩
  have hsz2 : b < w2.heap.size := by rw [hw2, hb]; simp
  rw [← hw2, ← hb] at hb0
  rw [← hw2] at hbw0
  rw [← hw2, ← hb]
  have HB2 := Lib.hid (Below.tr HW1.out hbw0)
  have HBl2 := Lib.hid hb0
  have HBs := Lib.hid (show w.heap.size ≤ b from by rw [hb]; exact HW1.out.size)
  clear hb0 hbw0 hw2 hb
  rw [run_bytes_of_string w2 9 53 5 S Try.underlying9 Try.underlying53 Try.underlying5]
  simp only [Result.andThen]
  rw [Oper.upon_value]
  obtain ⟨cap, w3, hw3, hcap, hby, hbw⟩ := bytes_new S w2 (by have := HS.out; omega)
  rw [← hcap, ← hw3]
  have HB3 := Lib.hid (Below.tr HB2.out hbw)
  have HBl3 := Lib.hid (HBl2.out.keep hbw)
  obtain ⟨a1, ha1⟩ : ∃ a1, a1 = w2.heap.size := ⟨_, rfl⟩
  rw [← ha1] at hby ⊢
  have HBy := Lib.hid hby
  have hsz3 : b < w3.heap.size := Nat.lt_of_lt_of_le hsz2 hbw.size
  clear hby hbw hw3 hcap ha1
  go_wp2_with fail
  rw [run_bytes_of_string w3 9 53 5 S Try.underlying9 Try.underlying53 Try.underlying5]
  simp only [Result.andThen]
  rw [Oper.upon_value]
  obtain ⟨cap2, w4, hw4, hcap2, hby, hbw⟩ := bytes_new S w3 (by have := HS.out; omega)
  rw [← hcap2, ← hw4]
  have HB4 := Lib.hid (Below.tr HB3.out hbw)
  have HBl4 := Lib.hid (HBl3.out.keep hbw)
  have HBy4 := Lib.hid (HBy.out.keep hbw)
  have hsz4 : b < w4.heap.size := Nat.lt_of_lt_of_le hsz3 hbw.size
  obtain ⟨a2, ha2⟩ : ∃ a2, a2 = w3.heap.size := ⟨_, rfl⟩
  rw [← ha2] at hby ⊢
  have hlt := letters_any2 (bs S) a2 0 cap2 w4 (by rw [bs_len]; have := HS.out; omega) (by
    intro i hi
    obtain ⟨a', b', off', cap', hv, _, ha, hc⟩ := hby.get
    rw [bs_len] at ha
    rw [ha (by rw [bs_len] at hi; omega)] at hv
    injection hv with hv
    injection hv with hv
    injection hv with e1 e2 _
    rw [e1, e2]; exact hc i hi)
  rw [bs_len, ← HN.out] at hlt
  have HLt := Lib.hid hlt
  clear hlt hby hbw hw4 hcap2 ha2
  rw [← HN.out] at HBy4 ⊢
  go_wp2_with fail
  refine HLt.out.mono ?_
  rintro e w5 ⟨v5, rfl, ho5, hb5⟩
  have hN5 := newNode_any ((lets (bs S)).length + 1) (lets (bs S)) (bs S) (.slice (some ⟨a1, 0, none⟩) n cap) v5 w5 (by omega) (lets_le _) (by rw [bs_len, ← HN.out]; omega) (HBy4.out.keep hb5) ho5.byts
  have HN5 := Lib.hid hN5
  have HB5 := Lib.hid (Below.tr HB4.out hb5)
  have HBl5 := Lib.hid (HBl4.out.keep hb5)
  have hsz5 : b < w5.heap.size := Nat.lt_of_lt_of_le hsz4 hb5.size
  clear hN5 ho5 hb5
  go_wp2_with fail
  refine HN5.out.mono ?_
  rintro e w6 ⟨v6, rfl, hn6, hb6⟩
  have HB6 := Lib.hid (Below.tr HB5.out hb6)
  have HBl6 := Lib.hid (HBl5.out.keep hb6)
  have hsz6 : b < w6.heap.size := Nat.lt_of_lt_of_le hsz5 hb6.size
  have hwl := wav_len 10 (lets (bs S)) (bs S) (by have := lets_le (bs S); omega)
  rw [bs_len] at hwl
  have hW := write_any ((lets (bs S)).length + 1) (lets (bs S)) (bs S) v6 w5.heap.size b b [] w6 (by omega) hn6 (by rw [bs_len, ← HN.out]; omega) HBl6.out (by have := HS.out; simp; omega) (by omega)
  have HW := Lib.hid hW
  clear hW hn6 hb6 hwl
  go_wp2_with fail
  refine HW.out.mono ?_
  rintro e w7 ⟨rfl, hbl7, hb7, _⟩
  rw [List.nil_append] at hbl7
  have hsz7 : b ≤ w7.heap.size := by have := hb7.size; omega
  have HC := Lib.hid (Try.Builder_String_any b b _ w7 hbl7 hsz7)
  have HB7 := Lib.hid (HB6.out.trans (hb7.mono HBs.out))
  clear hbl7 hb7
  go_wp2_with fail
  refine HC.out.mono ?_
  rintro e w8 ⟨rfl, hb8⟩
  have HB8 := Lib.hid (HB7.out.trans (hb8.mono HBs.out))
  clear hb8
  go_wp2_with fail
  go_ret2
  exact ⟨rfl, HB8.out⟩
#print axioms waveletE_any
end Go.Proofs.Ytbnlkmblkokooaa

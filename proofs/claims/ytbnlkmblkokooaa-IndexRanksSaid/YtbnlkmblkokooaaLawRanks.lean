/- IndexRanks: for every input the law returns true. -/
import Derived.Test.YtbnlkmblkokooaaExt
import Derived.Test.YtbnlkmblkokooaaFrame
import Derived.Test.YtbnlkmblkokooaaRows
import Derived.HandedShaped
namespace Go.Proofs.Ytbnlkmblkokooaa
open Go.RowKit
set_option maxRecDepth 100000 in
set_option maxHeartbeats 8000000 in
theorem ranks_bad {t0 s : ByteArray} (HF : Hid (∀ w, Calls Try.prog 18 #[.string t0] w fun e w' => e = .returned (.string s) ∧ w = w')) (hs : s.size ≤ 900) (c : UInt8) (i j : Int) (h1 : ¬ Lab (bs s)) (w : World) :
    Calls Try.prog 7 #[.string t0, .int .u8 c.toNat, .int .i64 i, .int .i64 j] w fun e w' => e = .returned (.bool true) ∧ Below w.heap.size w w' := by
  have HN := Lib.hid (newE_bad' (by omega) h1)
  have H3 := Lib.hid (label_b s (by omega) false (decide_eq_false h1))
  clear h1 hs
  go_enter Try.func7, Try.ntmps7
  go_wp2_with fail
  refine (HF.out _).mono ?_
  rintro e w' ⟨rfl, rfl⟩
  go_wp2_with fail
  refine (HN.out _).mono ?_
  rintro e w' ⟨rfl, rfl⟩
  go_wp2_with fail
  refine (H3.out _).mono ?_
  rintro e w' ⟨rfl, rfl⟩
  go_wp2_with fail
  refine (awake_any _).mono ?_
  rintro e w7 ⟨rfl, hb7⟩
  have Hb7 := Lib.hid (hb7)
  clear hb7
  go_wp2_with fail
  go_ret
  exact ⟨rfl, Hb7.out⟩
#print axioms ranks_bad
set_option maxRecDepth 100000 in
set_option maxHeartbeats 8000000 in
theorem ranks_low {t0 s : ByteArray} (HF : Hid (∀ w, Calls Try.prog 18 #[.string t0] w fun e w' => e = .returned (.string s) ∧ w = w')) (hs : s.size ≤ 900) (c : UInt8) (i j : Int) (h1 : Lab (bs s)) (hi : i < 0) (w : World) :
    Calls Try.prog 7 #[.string t0, .int .u8 c.toNat, .int .i64 i, .int .i64 j] w fun e w' => e = .returned (.bool true) ∧ Below w.heap.size w w' := by
  have HN := Lib.hid (newE_any h1)
  have H3 := Lib.hid (label_b s (by omega) true (decide_eq_true h1))
  have H1 := Lib.hid h1
  obtain ⟨n, hn⟩ : ∃ n, n = s.size := ⟨_, rfl⟩
  have hsz : (s.size : Int) = (n : Int) := by omega
  have hwn : IntKind.i64.wrap ((n : Int) + 1) = (n : Int) + 1 := IntWalk.i64_in _ ⟨by omega, by omega⟩
  have hln : (bs s).length = n := by rw [bs_len, hn]
  have HLn := Lib.hid hln
  have HN0 := Lib.hid hn
  have HArg := Lib.hid (show i < 0 ∨ (0 ≤ i ∧ j < i) ∨ (0 ≤ i ∧ i ≤ j ∧ (((bs s).length : Nat) : Int) < j) from Or.inl hi)
  have HR := Lib.hid (show i < 0 ∨ (((bs s).length : Nat) : Int) + 1 < i from Or.inl hi)
  clear h1 hs hn hln
  go_enter Try.func7, Try.ntmps7
  go_wp2_with fail
  refine (HF.out _).mono ?_
  rintro e w' ⟨rfl, rfl⟩
  go_wp2_with fail
  refine (HN.out w).mono ?_
  rintro e w1 ⟨v1, rfl, hm1, hb1⟩
  have Hm1 := Lib.hid hm1
  have Hb1 := Lib.hid hb1
  clear hm1 hb1
  go_wp2_with fail
  refine (H3.out _).mono ?_
  rintro e w' ⟨rfl, hw'⟩
  subst hw'
  go_wp2_with fail
  refine (rank_arg w1 Hm1.out _ _ HR.out).mono ?_
  rintro e w2 ⟨rfl, q2, hw2⟩
  have HW2 := Lib.hid hw2
  have Hm2 := Lib.hid (show Made w.heap.size w2 v1 (bs s) from by rw [hw2]; exact Hm1.out.draw q2)
  have Hb2 := Lib.hid (show Below w.heap.size w w2 from by rw [hw2]; exact bdrewN Hb1.out q2)
  clear hw2
  go_wp2_with fail
  refine (extract_arg w2 Hm2.out _ _ HArg.out).mono ?_
  rintro e w3 ⟨rfl, q3, hw3⟩
  have Hb3 := Lib.hid (show Below w.heap.size w w3 from by rw [hw3]; exact bdrewN Hb2.out q3)
  clear hw3
  go_wp2_with fail
  refine (awake_any _).mono ?_
  rintro e w7 ⟨rfl, hb7⟩
  have Hb7 := Lib.hid (Below.tr Hb3.out hb7)
  clear hb7
  go_wp2_with fail
  go_ret
  exact ⟨rfl, Hb7.out⟩
#print axioms ranks_low
set_option maxRecDepth 100000 in
set_option maxHeartbeats 8000000 in
theorem ranks_high {t0 s : ByteArray} (HF : Hid (∀ w, Calls Try.prog 18 #[.string t0] w fun e w' => e = .returned (.string s) ∧ w = w')) (hs : s.size ≤ 900) (c : UInt8) (i j : Int) (h1 : Lab (bs s)) (hi : (s.size : Int) + 1 < i) (w : World) :
    Calls Try.prog 7 #[.string t0, .int .u8 c.toNat, .int .i64 i, .int .i64 j] w fun e w' => e = .returned (.bool true) ∧ Below w.heap.size w w' := by
  have HN := Lib.hid (newE_any h1)
  have H3 := Lib.hid (label_b s (by omega) true (decide_eq_true h1))
  have H1 := Lib.hid h1
  obtain ⟨n, hn⟩ : ∃ n, n = s.size := ⟨_, rfl⟩
  have hsz : (s.size : Int) = (n : Int) := by omega
  have hwn : IntKind.i64.wrap ((n : Int) + 1) = (n : Int) + 1 := IntWalk.i64_in _ ⟨by omega, by omega⟩
  have hln : (bs s).length = n := by rw [bs_len, hn]
  have HLn := Lib.hid hln
  have HN0 := Lib.hid hn
  have hi0 : ¬ i < 0 := by omega
  have hi2 : (n : Int) + 1 < i := by omega
  have HArg := Lib.hid (show i < 0 ∨ (0 ≤ i ∧ j < i) ∨ (0 ≤ i ∧ i ≤ j ∧ (((bs s).length : Nat) : Int) < j) from by rw [HLn.out]; omega)
  have HR := Lib.hid (show i < 0 ∨ (((bs s).length : Nat) : Int) + 1 < i from by rw [HLn.out]; omega)
  clear hi
  clear h1 hs hn hln
  go_enter Try.func7, Try.ntmps7
  go_wp2_with fail
  refine (HF.out _).mono ?_
  rintro e w' ⟨rfl, rfl⟩
  go_wp2_with fail
  refine (HN.out w).mono ?_
  rintro e w1 ⟨v1, rfl, hm1, hb1⟩
  have Hm1 := Lib.hid hm1
  have Hb1 := Lib.hid hb1
  clear hm1 hb1
  go_wp2_with fail
  refine (H3.out _).mono ?_
  rintro e w' ⟨rfl, hw'⟩
  subst hw'
  go_wp2_with fail
  refine (rank_arg w1 Hm1.out _ _ HR.out).mono ?_
  rintro e w2 ⟨rfl, q2, hw2⟩
  have HW2 := Lib.hid hw2
  have Hm2 := Lib.hid (show Made w.heap.size w2 v1 (bs s) from by rw [hw2]; exact Hm1.out.draw q2)
  have Hb2 := Lib.hid (show Below w.heap.size w w2 from by rw [hw2]; exact bdrewN Hb1.out q2)
  clear hw2
  go_wp2_with fail
  refine (extract_arg w2 Hm2.out _ _ HArg.out).mono ?_
  rintro e w3 ⟨rfl, q3, hw3⟩
  have Hb3 := Lib.hid (show Below w.heap.size w w3 from by rw [hw3]; exact bdrewN Hb2.out q3)
  clear hw3
  go_wp2_with fail
  refine (awake_any _).mono ?_
  rintro e w7 ⟨rfl, hb7⟩
  have Hb7 := Lib.hid (Below.tr Hb3.out hb7)
  clear hb7
  go_wp2_with fail
  go_ret
  exact ⟨rfl, Hb7.out⟩
#print axioms ranks_high
set_option maxRecDepth 100000 in
set_option maxHeartbeats 8000000 in
theorem ranks_none1 {t0 s : ByteArray} (HF : Hid (∀ w, Calls Try.prog 18 #[.string t0] w fun e w' => e = .returned (.string s) ∧ w = w')) (hs : s.size ≤ 900) (c : UInt8) (i j : Int) (h1 : Lab (bs s)) (hi0 : 0 ≤ i) (hi : i ≤ (s.size : Int) + 1) (hj : j < i) (w : World) :
    Calls Try.prog 7 #[.string t0, .int .u8 c.toNat, .int .i64 i, .int .i64 j] w fun e w' => e = .returned (.bool true) ∧ Below w.heap.size w w' := by
  obtain ⟨k, rfl⟩ : ∃ k : Nat, i = (k : Int) := ⟨i.toNat, by omega⟩
  have HN := Lib.hid (newE_any h1)
  have H3 := Lib.hid (label_b s (by omega) true (decide_eq_true h1))
  have H1 := Lib.hid h1
  obtain ⟨n, hn⟩ : ∃ n, n = s.size := ⟨_, rfl⟩
  have hsz : (s.size : Int) = (n : Int) := by omega
  have hwn : IntKind.i64.wrap ((n : Int) + 1) = (n : Int) + 1 := IntWalk.i64_in _ ⟨by omega, by omega⟩
  have hln : (bs s).length = n := by rw [bs_len, hn]
  have HLn := Lib.hid hln
  have HN0 := Lib.hid hn
  have HArg := Lib.hid (show (k : Int) < 0 ∨ (0 ≤ (k : Int) ∧ j < k) ∨ (0 ≤ (k : Int) ∧ (k : Int) ≤ j ∧ (((bs s).length : Nat) : Int) < j) from Or.inr (Or.inl ⟨hi0, hj⟩))
  have hk1 : k ≤ n + 1 := by omega
  have hkn : (k : Int) ≤ (n : Int) + 1 := by omega
  have HK := Lib.hid (show k ≤ (bs s).length + 1 from by rw [HLn.out]; exact hk1)
  have HRk := Lib.hid (rankR_any hs c k (by omega))
  clear h1 hs hn hln hi hi0
  go_enter Try.func7, Try.ntmps7
  go_wp2_with fail
  refine (HF.out _).mono ?_
  rintro e w' ⟨rfl, rfl⟩
  go_wp2_with fail
  refine (HN.out w).mono ?_
  rintro e w1 ⟨v1, rfl, hm1, hb1⟩
  have Hm1 := Lib.hid hm1
  have Hb1 := Lib.hid hb1
  clear hm1 hb1
  go_wp2_with fail
  refine (H3.out _).mono ?_
  rintro e w' ⟨rfl, hw'⟩
  subst hw'
  go_wp2_with fail
  refine (rank_yes H1.out w1 Hm1.out c k HK.out).mono ?_
  rintro e w2 ⟨rfl, q2, hw2⟩
  have HW2 := Lib.hid hw2
  have Hm2 := Lib.hid (show Made w.heap.size w2 v1 (bs s) from by rw [hw2]; exact Hm1.out.draw q2)
  have Hb2 := Lib.hid (show Below w.heap.size w w2 from by rw [hw2]; exact bdrewN Hb1.out q2)
  clear hw2
  go_wp2_with fail
  refine (extract_arg w2 Hm2.out _ _ HArg.out).mono ?_
  rintro e w3 ⟨rfl, q3, hw3⟩
  have Hb3 := Lib.hid (show Below w.heap.size w w3 from by rw [hw3]; exact bdrewN Hb2.out q3)
  clear hw3
  go_wp2_with fail
  refine (awake_any _).mono ?_
  rintro e w7 ⟨rfl, hb7⟩
  have Hb7 := Lib.hid (Below.tr Hb3.out hb7)
  clear hb7
  go_wp2_with fail
  refine (HRk.out _).mono ?_
  rintro e w8 ⟨rfl, hb8⟩
  have Hb8 := Lib.hid (Below.tr Hb7.out hb8)
  clear hb8
  go_wp2_with fail
  go_ret
  exact ⟨rfl, Hb8.out⟩
#print axioms ranks_none1
set_option maxRecDepth 100000 in
set_option maxHeartbeats 8000000 in
theorem ranks_none2 {t0 s : ByteArray} (HF : Hid (∀ w, Calls Try.prog 18 #[.string t0] w fun e w' => e = .returned (.string s) ∧ w = w')) (hs : s.size ≤ 900) (c : UInt8) (i j : Int) (h1 : Lab (bs s)) (hi0 : 0 ≤ i) (hi : i ≤ (s.size : Int) + 1) (hij : i ≤ j) (hj : (s.size : Int) < j) (w : World) :
    Calls Try.prog 7 #[.string t0, .int .u8 c.toNat, .int .i64 i, .int .i64 j] w fun e w' => e = .returned (.bool true) ∧ Below w.heap.size w w' := by
  obtain ⟨k, rfl⟩ : ∃ k : Nat, i = (k : Int) := ⟨i.toNat, by omega⟩
  have HN := Lib.hid (newE_any h1)
  have H3 := Lib.hid (label_b s (by omega) true (decide_eq_true h1))
  have H1 := Lib.hid h1
  obtain ⟨n, hn⟩ : ∃ n, n = s.size := ⟨_, rfl⟩
  have hsz : (s.size : Int) = (n : Int) := by omega
  have hwn : IntKind.i64.wrap ((n : Int) + 1) = (n : Int) + 1 := IntWalk.i64_in _ ⟨by omega, by omega⟩
  have hln : (bs s).length = n := by rw [bs_len, hn]
  have HLn := Lib.hid hln
  have HN0 := Lib.hid hn
  have hj2 : (n : Int) < j := by omega
  have HArg := Lib.hid (show (k : Int) < 0 ∨ (0 ≤ (k : Int) ∧ j < k) ∨ (0 ≤ (k : Int) ∧ (k : Int) ≤ j ∧ (((bs s).length : Nat) : Int) < j) from by rw [HLn.out]; omega)
  clear hj
  have hk1 : k ≤ n + 1 := by omega
  have hkn : (k : Int) ≤ (n : Int) + 1 := by omega
  have HK := Lib.hid (show k ≤ (bs s).length + 1 from by rw [HLn.out]; exact hk1)
  have HRk := Lib.hid (rankR_any hs c k (by omega))
  clear h1 hs hn hln hi hi0
  go_enter Try.func7, Try.ntmps7
  go_wp2_with fail
  refine (HF.out _).mono ?_
  rintro e w' ⟨rfl, rfl⟩
  go_wp2_with fail
  refine (HN.out w).mono ?_
  rintro e w1 ⟨v1, rfl, hm1, hb1⟩
  have Hm1 := Lib.hid hm1
  have Hb1 := Lib.hid hb1
  clear hm1 hb1
  go_wp2_with fail
  refine (H3.out _).mono ?_
  rintro e w' ⟨rfl, hw'⟩
  subst hw'
  go_wp2_with fail
  refine (rank_yes H1.out w1 Hm1.out c k HK.out).mono ?_
  rintro e w2 ⟨rfl, q2, hw2⟩
  have HW2 := Lib.hid hw2
  have Hm2 := Lib.hid (show Made w.heap.size w2 v1 (bs s) from by rw [hw2]; exact Hm1.out.draw q2)
  have Hb2 := Lib.hid (show Below w.heap.size w w2 from by rw [hw2]; exact bdrewN Hb1.out q2)
  clear hw2
  go_wp2_with fail
  refine (extract_arg w2 Hm2.out _ _ HArg.out).mono ?_
  rintro e w3 ⟨rfl, q3, hw3⟩
  have Hb3 := Lib.hid (show Below w.heap.size w w3 from by rw [hw3]; exact bdrewN Hb2.out q3)
  clear hw3
  go_wp2_with fail
  refine (awake_any _).mono ?_
  rintro e w7 ⟨rfl, hb7⟩
  have Hb7 := Lib.hid (Below.tr Hb3.out hb7)
  clear hb7
  go_wp2_with fail
  refine (HRk.out _).mono ?_
  rintro e w8 ⟨rfl, hb8⟩
  have Hb8 := Lib.hid (Below.tr Hb7.out hb8)
  clear hb8
  go_wp2_with fail
  go_ret
  exact ⟨rfl, Hb8.out⟩
#print axioms ranks_none2
set_option maxRecDepth 100000 in
set_option maxHeartbeats 8000000 in
theorem ranks_yes {t0 s : ByteArray} (HF : Hid (∀ w, Calls Try.prog 18 #[.string t0] w fun e w' => e = .returned (.string s) ∧ w = w')) (hs : s.size ≤ 900) (c : UInt8) (i j : Int) (h1 : Lab (bs s)) (hi0 : 0 ≤ i) (hij : i ≤ j) (hj : j ≤ (s.size : Int)) (w : World) :
    Calls Try.prog 7 #[.string t0, .int .u8 c.toNat, .int .i64 i, .int .i64 j] w fun e w' => e = .returned (.bool true) ∧ Below w.heap.size w w' := by
  obtain ⟨k, rfl⟩ : ∃ k : Nat, i = (k : Int) := ⟨i.toNat, by omega⟩
  obtain ⟨m, rfl⟩ : ∃ m : Nat, j = (m : Int) := ⟨j.toNat, by omega⟩
  have HN := Lib.hid (newE_any h1)
  have H3 := Lib.hid (label_b s (by omega) true (decide_eq_true h1))
  have H1 := Lib.hid h1
  obtain ⟨n, hn⟩ : ∃ n, n = s.size := ⟨_, rfl⟩
  have hsz : (s.size : Int) = (n : Int) := by omega
  have hwn : IntKind.i64.wrap ((n : Int) + 1) = (n : Int) + 1 := IntWalk.i64_in _ ⟨by omega, by omega⟩
  have hln : (bs s).length = n := by rw [bs_len, hn]
  have HLn := Lib.hid hln
  have HN0 := Lib.hid hn
  have hk1 : k ≤ n + 1 := by omega
  have hkn : (k : Int) ≤ (n : Int) + 1 := by omega
  have hkm : (k : Int) ≤ (m : Int) := hij
  have hmn : (m : Int) ≤ (n : Int) := by omega
  have HK := Lib.hid (show k ≤ (bs s).length + 1 from by rw [HLn.out]; exact hk1)
  have HRk := Lib.hid (rankR_any hs c k (by omega))
  have HMn := Lib.hid (show m ≤ (bs s).length from by rw [HLn.out]; omega)
  have HKm := Lib.hid (show k ≤ m from by omega)
  obtain ⟨E, hE⟩ : ∃ E : ByteArray, strV (((bs s).drop k).take (m - k)) = .string E := ⟨_, rfl⟩
  have hEb : bs E = ((bs s).drop k).take (m - k) := by unfold strV at hE; injection hE with hE; rw [← hE]; rfl
  have hEq : E.toList = (s.extract k m).toList := by rw [bs_toList, bs_toList, bs_part, hEb]
  have HE := Lib.hid hE
  have hmS : (m : Int) ≤ (s.size : Int) := hj
  clear h1 hs hn hln hi0 hij hj hE hEb
  go_enter Try.func7, Try.ntmps7
  go_wp2_with fail
  refine (HF.out _).mono ?_
  rintro e w' ⟨rfl, rfl⟩
  go_wp2_with fail
  refine (HN.out w).mono ?_
  rintro e w1 ⟨v1, rfl, hm1, hb1⟩
  have Hm1 := Lib.hid hm1
  have Hb1 := Lib.hid hb1
  clear hm1 hb1
  go_wp2_with fail
  refine (H3.out _).mono ?_
  rintro e w' ⟨rfl, hw'⟩
  subst hw'
  go_wp2_with fail
  refine (rank_yes H1.out w1 Hm1.out c k HK.out).mono ?_
  rintro e w2 ⟨rfl, q2, hw2⟩
  have HW2 := Lib.hid hw2
  have Hm2 := Lib.hid (show Made w.heap.size w2 v1 (bs s) from by rw [hw2]; exact Hm1.out.draw q2)
  have Hb2 := Lib.hid (show Below w.heap.size w w2 from by rw [hw2]; exact bdrewN Hb1.out q2)
  clear hw2
  go_wp2_with fail
  have HX := Lib.hid (extract_yes H1.out w2 Hm2.out k m HKm.out HMn.out)
  rw [HE.out] at HX
  refine HX.out.mono ?_
  rintro e w3 ⟨rfl, hb3⟩
  have Hb3 := Lib.hid (Below.tr Hb2.out hb3)
  clear hb3
  go_wp2_with fail
  refine (awake_any _).mono ?_
  rintro e w7 ⟨rfl, hb7⟩
  have Hb7 := Lib.hid (Below.tr Hb3.out hb7)
  clear hb7
  go_wp2_with fail
  refine (HRk.out _).mono ?_
  rintro e w8 ⟨rfl, hb8⟩
  have Hb8 := Lib.hid (Below.tr Hb7.out hb8)
  clear hb8
  go_wp2_with fail
  go_ret
  exact ⟨rfl, Hb8.out⟩
#print axioms ranks_yes
theorem ranks_any (t0 : ByteArray) (ht : t0.size ≤ maxLen) (c0 : Int) (hc : (Lit.int .u8 c0).wf = true) (i : Int) (_ : (Lit.int .i64 i).wf = true) (j : Int) (_ : (Lit.int .i64 j).wf = true) (w : World) :
    Calls Try.prog 7 #[.string t0, .int .u8 c0, .int .i64 i, .int .i64 j] w fun e w' => e = .returned (.bool true) ∧ Below w.heap.size w w' := by
  have HF := Lib.hid (few_any t0 ht)
  have hs : (fewB t0).size ≤ 900 := by have := fewB_size t0; omega
  have hcc : 0 ≤ c0 ∧ c0 < 256 := by
    have h1 : (decide ((0 : Int) ≤ c0) && decide (c0 ≤ 255)) = true := hc
    rw [Bool.and_eq_true] at h1
    have := of_decide_eq_true h1.1
    have := of_decide_eq_true h1.2
    omega
  obtain ⟨c, rfl⟩ : ∃ c : UInt8, c0 = (c.toNat : Int) := ⟨UInt8.ofNat c0.toNat, by
    rw [UInt8.toNat_ofNat']
    omega⟩
  by_cases h1 : Lab (bs (fewB t0))
  · by_cases h2 : i < 0
    · exact ranks_low HF hs c i j h1 h2 w
    · by_cases h3 : ((fewB t0).size : Int) + 1 < i
      · exact ranks_high HF hs c i j h1 h3 w
      · by_cases h4 : j < i
        · exact ranks_none1 HF hs c i j h1 (by omega) (by omega) h4 w
        · by_cases h5 : ((fewB t0).size : Int) < j
          · exact ranks_none2 HF hs c i j h1 (by omega) (by omega) (by omega) h5 w
          · exact ranks_yes HF hs c i j h1 (by omega) (by omega) (by omega) w
  · exact ranks_bad HF hs c i j h1 w

namespace indexRanks
open Go.ChangeShapes Go.WideShapes Go.ChangeAt Go.ChangeMaps
set_option maxRecDepth 100000 in
theorem lifted (os : Os) (started : os.Started) (H : Type) (enc : TypeId × Value → H) :
    ReturnsInHanded {} Try.checked os 7 .any (Rows.indexRanksSpec.pre6 enc Try.prog Try.f7 Rows.indexRanksRow.domain false) (Rows.indexRanksSpec.post enc Try.prog Try.f7 false true false false) := by
  refine returnsInHanded_of_change (C := Try.checked) Try.own started (by kernel_rfl) Try.func7
    (ChangeSpec.witness6 (enc := enc) (C := Try.checked) false ⟨#[], #[.string ⟨#[]⟩, .int .u8 0, .int .i64 0, .int .i64 0], []⟩ 8 (by kernel_rfl) (by kernel_rfl) (by kernel_rfl) (by kernel_rfl)) ?_
  intro W base args ds gs before hval0 hW _ hshape
  have hval : ∀ (j : Nat) t v, Try.f7.params[j]? = some t → args[j]? = some v → Value.okWide Try.prog W .any base t v := hval0
  clear hval0
  obtain rfl : gs = [] := by obtain ⟨p, q, _, hV, _⟩ := hW; exact (trodVars_none hV).1
  have hW' := hW
  obtain ⟨p, q, hA0, hV, rfl, hfz, hnd⟩ := hW
  have hA : DataW.TrodAll enc Try.prog W 0 (fun _ => true) true Try.f7.params.toList args.toList ds p := hA0
  rw [Try.params7] at hA hval
  obtain ⟨v0, vs0, d0, ds0, p0, q0, hv0, hd0, hp0, h0, r0⟩ := trodAll_cons hA
  obtain ⟨v1, vs1, d1, ds1, p1, q1, hv1, hd1, hp1, h1, r1⟩ := trodAll_cons r0
  obtain ⟨v2, vs2, d2, ds2, p2, q2, hv2, hd2, hp2, h2, r2⟩ := trodAll_cons r1
  obtain ⟨v3, vs3, d3, ds3, p3, q3, hv3, hd3, hp3, h3, r3⟩ := trodAll_cons r2
  obtain ⟨hvn, hdn, hpn⟩ := trodAll_nil r3
  have ha : args = #[v0, v1, v2, v3] := by cases args; simp_all
  have hdd : ds = [d0, d1, d2, d3] := by simp_all
  rw [ha] at hval
  obtain ⟨a0, e0, -, -, ws0⟩ := open_string Try.underlying9 (hval 0 9 v0 rfl rfl) h0
  obtain ⟨a1, e1, -, -, wf1⟩ := open_int Try.underlying5 (hval 1 5 v1 rfl rfl) h1
  obtain ⟨a2, e2, -, -, wf2⟩ := open_int Try.underlying3 (hval 2 3 v2 rfl rfl) h2
  obtain ⟨a3, e3, -, -, wf3⟩ := open_int Try.underlying3 (hval 3 3 v3 rfl rfl) h3
  have hw : Calls Try.prog 7 args W (fun e W' => e = .returned (.bool true) ∧ Below W.heap.size W W') := by
    rw [ha, e0, e1, e2, e3]; exact ranks_any a0 ws0 a1 wf1 a2 wf2 a3 wf3 W
  exact hw.mono fun e W' ⟨he, hb⟩ => ⟨_, he, law_post Try.laidOut hW' rfl rfl Try.underlying4 (by rw [hdd]; rfl)
    (by kernel_rfl) hb⟩

theorem holds : Rows.IndexRanksSaid :=
  OpenClaim.holds_of_wide 7 Try.f7 rfl rfl rfl rfl rfl rfl rfl ⟨rfl, rfl, rfl, rfl, rfl⟩ rfl rfl rfl rfl rfl (by kernel_rfl) Try.func7 (by kernel_rfl)
    (of_decide_eq_true (by kernel_rfl)) (by unfold Func.isWrapper; first | (rw [if_pos (by decide +kernel)]; kernel_rfl) | (rw [if_neg (by decide +kernel)]; exact ⟨rfl, rfl⟩))
    (fun os started H enc _ => lifted os started H enc)
#print axioms holds
end indexRanks
end Go.Proofs.Ytbnlkmblkokooaa

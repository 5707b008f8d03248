/- IndexMatching: for every input the law returns true. -/
import Derived.Test.YtbnlkmblkokooaaCnt
import Derived.Test.YtbnlkmblkokooaaMch
import Derived.Test.YtbnlkmblkokooaaFrame
import Derived.Test.YtbnlkmblkokooaaRows
import Derived.HandedShaped
namespace Go.Proofs.Ytbnlkmblkokooaa
open Go.RowKit
theorem lcp_same : ∀ a : Bs, lcp a a = a.length
  | [] => rfl
  | x :: a => by rw [lcp_cons, if_pos rfl, lcp_same a]; rfl
theorem mat_own (t : Bs) {i : Nat} (h : i < t.length) : mat t (t.drop i) = t.length - i := by
  have h1 := mat_le t (t.drop i)
  have h2 := le_maxTo (fun j => lcp (t.drop i) (t.drop j)) h
  simp only [lcp_same, List.length_drop] at h2
  rw [List.length_drop] at h1
  unfold mat at *
  omega
def matN (t p : Bs) : List Nat := (List.range p.length).map fun i => mat t (p.drop i)
theorem mats_cast (t p : Bs) : mats t p = castN (matN t p) := by simp [mats, matN, castN]
theorem matN_len (t p : Bs) : (matN t p).length = p.length := by simp [matN]
theorem matN_at {t p : Bs} {i : Nat} (h : i < p.length) : at' (matN t p) i = mat t (p.drop i) := by simp [at', matN, List.getD, h]
theorem occ_some {t q : Bs} (h : Lib.contains t q = true) : (occ' t q).length ≠ 0 := by
  obtain ⟨j, hj, ho⟩ := (contains_iff t q).1 h
  have hm : j ∈ occ' t q := List.mem_filter.2 ⟨List.mem_range.2 (by omega), ho⟩
  exact Nat.ne_of_gt (List.length_pos_of_mem hm)
theorem occ_none {t q : Bs} (h : Lib.contains t q = false) : (occ' t q).length = 0 := by
  have h1 : occ' t q = [] := by
    unfold occ'
    rw [List.filter_eq_nil_iff]
    intro j hj ho
    have : Lib.contains t q = true := (contains_iff t q).2 ⟨j, by have := List.mem_range.1 hj; omega, ho⟩
    rw [h] at this; cases this
  rw [h1]; rfl
theorem lab_ext {p : ByteArray} (h : Lab (bs p)) (a b : Nat) : Lab (bs (p.extract a b)) := by
  rw [bs_part]
  exact ⟨by rw [List.length_take, List.length_drop]; have := h.1; omega, fun c hc => h.2 c (List.mem_of_mem_drop (List.mem_of_mem_take hc))⟩
#print axioms mat_own
set_option maxRecDepth 100000 in
set_option maxHeartbeats 8000000 in
theorem matching_bad {t0 p0 s p : ByteArray} (HF : Hid (∀ w, Calls Try.prog 18 #[.string t0] w fun e w' => e = .returned (.string s) ∧ w = w')) (HF2 : Hid (∀ w, Calls Try.prog 18 #[.string p0] w fun e w' => e = .returned (.string p) ∧ w = w')) (hs : s.size ≤ 1000) (hp : p.size ≤ 1000) (h : ¬ (Lab (bs s) ∧ Lab (bs p))) (w : World) (hg : Glob w) :
    Calls Try.prog 16 #[.string t0, .string p0] w fun e w' => e = .returned (.bool true) ∧ Below w.heap.size w w' := by
  have H1 := Lib.hid (matchE_bad hs hp h)
  have H2 := Lib.hid (show ∀ w, Glob w → Calls Try.prog 47 #[.string s, .string s] w fun e w' => ∃ v c, e = .returned (.tuple #[v, .int .i64 c]) ∧ Below w.heap.size w w' from by
    intro w hg
    by_cases h1 : Lab (bs s)
    · refine (matchE_any h1 h1 w hg).mono ?_
      rintro e w' ⟨v, rfl, _, hb⟩
      exact ⟨_, _, rfl, hb⟩
    · refine (matchE_bad hs hs (fun h => h1 h.1) w).mono ?_
      rintro e w' ⟨rfl, rfl⟩
      exact ⟨_, _, rfl, Below.refl _ _⟩)
  have HG := Lib.hid hg
  clear hs hp h hg
  go_enter Try.func16, Try.ntmps16
  go_wp2_with fail
  refine (HF.out _).mono ?_
  rintro e w' ⟨rfl, rfl⟩
  go_wp2_with fail
  refine (HF2.out _).mono ?_
  rintro e w' ⟨rfl, rfl⟩
  go_wp2_with fail
  refine (H1.out _).mono ?_
  rintro e w' ⟨rfl, rfl⟩
  go_wp2_with fail
  refine (H2.out _ HG.out).mono ?_
  rintro e w2 ⟨v2, c2, rfl, hb2⟩
  have Hb2 := Lib.hid hb2
  clear hb2
  go_wp2_with fail
  refine (awake_any _).mono ?_
  rintro e w7 ⟨rfl, hb7⟩
  have Hb7 := Lib.hid (Below.tr Hb2.out hb7)
  clear hb7
  go_wp2_with fail
  go_ret
  exact ⟨rfl, Hb7.out⟩
#print axioms matching_bad
set_option maxRecDepth 100000 in
set_option maxHeartbeats 8000000 in
theorem matching_yes {t0 p0 s p : ByteArray} (HF : Hid (∀ w, Calls Try.prog 18 #[.string t0] w fun e w' => e = .returned (.string s) ∧ w = w')) (HF2 : Hid (∀ w, Calls Try.prog 18 #[.string p0] w fun e w' => e = .returned (.string p) ∧ w = w')) (h1 : Lab (bs s)) (h2 : Lab (bs p)) (w : World) (hg : Glob w) :
    Calls Try.prog 16 #[.string t0, .string p0] w fun e w' => e = .returned (.bool true) ∧ Below w.heap.size w w' := by
  have hs2 := lab_size h1
  have hp2 := lab_size h2
  have HM1 := Lib.hid (matchE_any h1 h2 w hg)
  have HM2 := Lib.hid (fun w' hg' => matchE_any h1 h1 w' hg')
  have HG := Lib.hid hg
  have HN := Lib.hid (newE_any h1)
  have HC := Lib.hid (fun a b (w' : World) B v (hm : Made B w' v (bs s)) => count_yes h1 (lab_ext h2 a b) w' hm)
  obtain ⟨m, hm⟩ : ∃ m, m = p.size := ⟨_, rfl⟩
  obtain ⟨N, hN⟩ : ∃ N, N = s.size := ⟨_, rfl⟩
  have HMl := Lib.hid (show (matN (bs s) (bs p)).length = m by rw [matN_len, bs_len, hm])
  have HNl := Lib.hid (show (matN (bs s) (bs s)).length = N by rw [matN_len, bs_len, hN])
  have HAt := Lib.hid (show ∀ i, i < m → at' (matN (bs s) (bs p)) i = mat (bs s) ((bs p).drop i) from fun i hi => matN_at (by rw [bs_len, ← hm]; exact hi))
  have HOw := Lib.hid (show ∀ i, i < N → at' (matN (bs s) (bs s)) i = N - i from fun i hi => by rw [matN_at (by rw [bs_len, ← hN]; exact hi), mat_own _ (by rw [bs_len, ← hN]; exact hi), bs_len, hN])
  have HLe := Lib.hid (show ∀ i, i < m → mat (bs s) ((bs p).drop i) ≤ m - i from fun i hi => by have := mat_le (bs s) ((bs p).drop i); rw [List.length_drop, bs_len, ← hm] at this; exact this)
  have HSt := Lib.hid (mat_step (bs s) (bs p))
  have HYes := Lib.hid (show ∀ i n, i + n ≤ m → n ≤ mat (bs s) ((bs p).drop i) → (occ' (bs s) (bs (p.extract i (i + n)))).length ≠ 0 from fun i n hi hn => by
    refine occ_some ?_
    rw [bs_part, Nat.add_sub_cancel_left, contains_at (by rw [bs_len, ← hm]; exact hi)]
    exact decide_eq_true hn)
  have HNo := Lib.hid (show ∀ i n, i + n ≤ m → mat (bs s) ((bs p).drop i) < n → (occ' (bs s) (bs (p.extract i (i + n)))).length = 0 from fun i n hi hn => by
    refine occ_none ?_
    rw [bs_part, Nat.add_sub_cancel_left, contains_at (by rw [bs_len, ← hm]; exact hi)]
    exact decide_eq_false (by omega))
  have hpm : (p.size : Int) = (m : Int) := by omega
  have hsN : (s.size : Int) = (N : Int) := by omega
  have hm1 : m ≤ 200 := by omega
  have hN1 : N ≤ 200 := by omega
  clear h1 h2 hg hm hN hs2 hp2
  go_enter Try.func16, Try.ntmps16
  go_wp2_with fail
  refine (HF.out _).mono ?_
  rintro e w' ⟨rfl, hw'⟩
  subst hw'
  go_wp2_with fail
  refine (HF2.out _).mono ?_
  rintro e w' ⟨rfl, hw'⟩
  subst hw'
  go_wp2_with fail
  refine HM1.out.mono ?_
  rintro e w1 ⟨v1, rfl, ho1, hb1⟩
  have hi1 := OwnInts.ints ho1
  have Hb1 := Lib.hid hb1
  have HG1 := Lib.hid (HG.out.keep hb1)
  have Hi1 := Lib.hid hi1
  clear ho1 hb1 hi1
  go_wp2_with fail
  refine (HM2.out _ HG1.out).mono ?_
  rintro e w2 ⟨v2, rfl, ho2, hb2⟩
  have Hi2 := Lib.hid (OwnInts.ints ho2)
  have Hi1' := Lib.hid (Ints.keep Hi1.out hb2)
  have Hb2 := Lib.hid (Below.tr Hb1.out hb2)
  clear ho2 hb2 Hi1
  go_wp2_with fail
  refine (HN.out _).mono ?_
  rintro e w3 ⟨v3, rfl, hm3, hb3⟩
  have hi2 := Ints.keep Hi2.out hb3
  have hi1 := Ints.keep Hi1'.out hb3
  have Hm3 := Lib.hid hm3
  have Hb3 := Lib.hid (Below.tr Hb2.out hb3)
  obtain ⟨B3, hB3⟩ : ∃ B3, B3 = w2.heap.size := ⟨_, rfl⟩
  rw [← hB3] at Hm3
  clear hm3 hb3 hB3 Hi1' Hi2
  rw [mats_cast] at hi1 hi2
  obtain ⟨a1, b1, off1, c1, rfl, hle1, ha1, hc1⟩ := Ints.nats hi1
  obtain ⟨a2, b2, off2, c2, rfl, hle2, ha2, hc2⟩ := Ints.nats hi2
  rw [HMl.out] at ha1 hc1 ⊢
  rw [HNl.out] at ha2 hc2 ⊢
  have hix1 := run_ix (P := Try.prog) (t := 23) (a := a1) (len := m) (cap := c1) (b := b1) (off := off1) (s := 1) Try.underlying23 (by intro w; kernel_rfl) ha1
  have hix2 := run_ix (P := Try.prog) (t := 23) (a := a2) (len := N) (cap := c2) (b := b2) (off := off2) (s := 1) Try.underlying23 (by intro w; kernel_rfl) ha2
  simp only [Nat.mul_one] at hix1 hix2
  have Hix1 := Lib.hid hix1
  have Hix2 := Lib.hid hix2
  have Hc1 := Lib.hid hc1
  have Hc2 := Lib.hid hc2
  clear hix1 hix2 hc1 hc2 ha1 ha2 hle1 hle2 hi1 hi2
  obtain ⟨wo, hwo⟩ : ∃ wo : World, wo = w3 := ⟨_, rfl⟩
  subst hwo
  go_wp2_with fail
  go_loopw [69] (fun vi wr => ∃ i : Nat, vi = .int .i64 i ∧ i ≤ m ∧ ∃ d, wr = wo.drewN d) (fun vi _ => m - (intOf vi).toNat)
  case atStart => exact ⟨0, rfl, Nat.zero_le _, 0, rfl⟩
  case round =>
    obtain ⟨i, rfl, hi, d, hwr⟩ := hrel
    have HWr := Lib.hid hwr
    have Hmr := Lib.hid (show Made B3 wr v3 (bs s) from by rw [hwr]; exact Hm3.out.draw d)
    by_cases hlt : i < m
    · have hci : wr.cell? ⟨b1, off1 + i, none⟩ = some (.int .i64 (mat (bs s) ((bs p).drop i) : Nat)) := by rw [hwr, ← HAt.out i hlt]; exact Hc1.out i hlt
      have hle := HLe.out i hlt
      have hyes := HYes.out i (mat (bs s) ((bs p).drop i)) (by omega) (Nat.le_refl _)
      have hno := HNo.out i (mat (bs s) ((bs p).drop i) + 1)
      have hst : 0 < i → wr.cell? ⟨b1, off1 + (i - 1), none⟩ = some (.int .i64 (mat (bs s) ((bs p).drop (i - 1)) : Nat)) ∧ mat (bs s) ((bs p).drop (i - 1)) - 1 ≤ mat (bs s) ((bs p).drop i) ∧ mat (bs s) ((bs p).drop (i - 1)) ≤ 200 := fun h0 => by
        refine ⟨by rw [hwr, ← HAt.out (i - 1) (by omega)]; exact Hc1.out (i - 1) (by omega), ?_, ?_⟩
        · have := HSt.out (i - 1)
          rwa [show i - 1 + 1 = i by omega] at this
        · have := HLe.out (i - 1) (by omega); omega
      have hixi := Hix1.out i
      have hixp := Hix1.out (i - 1)
      obtain ⟨n, hn⟩ : ∃ n, n = mat (bs s) ((bs p).drop i) := ⟨_, rfl⟩
      rw [← hn] at hci hle hyes hno hst
      clear hn hwr
      obtain ⟨e, he⟩ : ∃ e, e = i + n := ⟨_, rfl⟩
      have hem : e ≤ m := by omega
      obtain ⟨K, hK⟩ : ∃ K, K = (occ' (bs s) (bs (p.extract i (i + n)))).length := ⟨_, rfl⟩
      rw [← hK] at hyes
      have hKz : (K : Int) ≠ 0 := by omega
      have HCi := Lib.hid (show ∀ q, Calls Try.prog 34 #[v3, .string (p.extract i e)] (wr.drewN q) (CntPost K 0 (wr.drewN q)) from fun q => by rw [hK, he]; exact HC.out i (i + n) _ _ _ (Hmr.out.draw q))
      have HDi := Lib.hid (show e < m → ∀ q, Calls Try.prog 34 #[v3, .string (p.extract i (e + 1))] (wr.drewN q) (CntPost 0 0 (wr.drewN q)) from fun h q => by
        have := HC.out i (i + (n + 1)) _ _ _ (Hmr.out.draw q)
        rw [hno (by omega) (by omega)] at this
        rw [he]; exact this)
      have hw1 : IntKind.i64.wrap ((i : Int) + (n : Int)) = (e : Int) := by rw [IntWalk.i64_in _ ⟨by omega, by omega⟩]; omega
      have hw2 : IntKind.i64.wrap ((e : Int) + 1) = ((e + 1 : Nat) : Int) := by rw [IntWalk.i64_in _ ⟨by omega, by omega⟩]; omega
      have hw3 : IntKind.i64.wrap ((m : Int) - (i : Int)) = ((m - i : Nat) : Int) := by rw [IntWalk.i64_in _ ⟨by omega, by omega⟩]; omega
      have hie : (i : Int) ≤ (e : Int) := by omega
      have hep : (e : Int) ≤ (p.size : Int) := by omega
      have hnm : (n : Int) ≤ ((m - i : Nat) : Int) := by omega
      have hst2 : i = 0 ∨ (0 < i ∧ ∃ x : Nat, wr.cell? ⟨b1, off1 + (i - 1), none⟩ = some (.int .i64 (x : Nat)) ∧ x ≤ n + 1 ∧ IntKind.i64.wrap ((x : Int) - 1) = (x : Int) - 1 ∧ IntKind.i64.wrap ((i : Int) - 1) = ((i - 1 : Nat) : Int)) := by
        by_cases h0 : i = 0
        · exact .inl h0
        · obtain ⟨e1, e2, e3⟩ := hst (by omega)
          exact .inr ⟨by omega, _, e1, by omega, IntWalk.i64_in _ ⟨by omega, by omega⟩, by rw [IntWalk.i64_in _ ⟨by omega, by omega⟩]; omega⟩
      clear hst hno hyes hK he hle
      have hwr0 : wr = wr.drewN 0 := rfl
      clear hwr0
      rcases hst2 with h0 | ⟨h0, x, hcx, hxn, hwx, hwi⟩
      · have hd0 : decide (0 < i) = false := decide_eq_false (by omega)
        have hle0 : (i : Int) ≤ 0 := by omega
        clear h0
        by_cases hfit : e < m
        · have HDj := Lib.hid (HDi.out hfit)
          have hefit : (e : Int) < (m : Int) := by omega
          have hepp : ((e + 1 : Nat) : Int) ≤ (p.size : Int) := by omega
          go_wp2_with fail
          refine (HCi.out 0).mono ?_
          rintro e w5 ⟨rfl, q5, hw5⟩
          have HW5 := Lib.hid hw5
          have hDj := HDj.out (0 + q5)
          rw [← World.drewN_drewN, ← hw5] at hDj
          have HDk := Lib.hid hDj
          clear hw5 hDj
          go_wp2_with fail
          refine HDk.out.mono ?_
          rintro e w6 ⟨rfl, q6, hw6⟩
          have HW6 := Lib.hid hw6
          clear hw6
          go_wp2_with fail
          go_roundw
          case rel => exact ⟨_ + 1, by go_num, by omega, d + 0 + q5 + q6, by rw [HW6.out, HW5.out, HWr.out, World.drewN_drewN, World.drewN_drewN, World.drewN_drewN]; congr 1; omega⟩
          case measure => simp [intOf] <;> omega
        · have hefit : (m : Int) ≤ (e : Int) := by omega
          go_wp2_with fail
          refine (HCi.out 0).mono ?_
          rintro e w5 ⟨rfl, q5, hw5⟩
          have HW5 := Lib.hid hw5
          clear hw5
          go_wp2_with fail
          go_roundw
          case rel => exact ⟨_ + 1, by go_num, by omega, d + 0 + q5, by rw [HW5.out, HWr.out, World.drewN_drewN, World.drewN_drewN]; congr 1; omega⟩
          case measure => simp [intOf] <;> omega
      · have hin : 0 < i := h0
        have hin2 : (0 : Int) < i := by omega
        have hil : i - 1 < m := by omega
        have hdn : decide (0 < i) = true := decide_eq_true hin
        have hxz : (x : Int) - 1 ≤ (n : Int) := by omega
        by_cases hfit : e < m
        · have HDj := Lib.hid (HDi.out hfit)
          have hefit : (e : Int) < (m : Int) := by omega
          have hepp : ((e + 1 : Nat) : Int) ≤ (p.size : Int) := by omega
          go_wp2_with fail
          refine (HCi.out 0).mono ?_
          rintro e w5 ⟨rfl, q5, hw5⟩
          have HW5 := Lib.hid hw5
          have hDj := HDj.out (0 + q5)
          rw [← World.drewN_drewN, ← hw5] at hDj
          have HDk := Lib.hid hDj
          clear hw5 hDj
          go_wp2_with fail
          refine HDk.out.mono ?_
          rintro e w6 ⟨rfl, q6, hw6⟩
          have HW6 := Lib.hid hw6
          clear hw6
          go_wp2_with fail
          go_roundw
          case rel => exact ⟨_ + 1, by go_num, by omega, d + 0 + q5 + q6, by rw [HW6.out, HW5.out, HWr.out, World.drewN_drewN, World.drewN_drewN, World.drewN_drewN]; congr 1; omega⟩
          case measure => simp [intOf] <;> omega
        · have hefit : (m : Int) ≤ (e : Int) := by omega
          go_wp2_with fail
          refine (HCi.out 0).mono ?_
          rintro e w5 ⟨rfl, q5, hw5⟩
          have HW5 := Lib.hid hw5
          clear hw5
          go_wp2_with fail
          go_roundw
          case rel => exact ⟨_ + 1, by go_num, by omega, d + 0 + q5, by rw [HW5.out, HWr.out, World.drewN_drewN, World.drewN_drewN]; congr 1; omega⟩
          case measure => simp [intOf] <;> omega
    · have Hbr := Lib.hid (show Below w.heap.size w wr from by rw [hwr]; exact bdrewN Hb3.out d)
      have Hc2r := Lib.hid (show ∀ i, i < N → wr.cell? ⟨b2, off2 + i, none⟩ = some (.int .i64 (N - i : Nat)) from fun i hi => by rw [hwr, ← HOw.out i hi]; exact Hc2.out i hi)
      obtain ⟨wp, hwp⟩ : ∃ wp : World, wp = wr := ⟨_, rfl⟩
      subst hwp
      clear hwr
      go_wp2_with fail
      go_loopw [142] (fun vi wr => ∃ i : Nat, vi = .int .i64 i ∧ i ≤ N ∧ wr = wp) (fun vi _ => N - (intOf vi).toNat)
      case atStart => exact ⟨0, rfl, Nat.zero_le _, rfl⟩
      case round =>
        obtain ⟨j, rfl, hj, hwr⟩ := hrel
        subst hwr
        by_cases hltj : j < N
        · have hcj := Hc2r.out j hltj
          have hixj := Hix2.out j
          have hw4 : IntKind.i64.wrap ((N : Int) - (j : Int)) = ((N - j : Nat) : Int) := by rw [IntWalk.i64_in _ ⟨by omega, by omega⟩]; omega
          go_wp2_with fail
          go_roundw
          case rel => exact ⟨j + 1, by go_num, by omega, trivial⟩
          case measure => simp [intOf] <;> omega
        · go_wp2_with fail
          refine (awake_any _).mono ?_
          rintro e w7 ⟨rfl, hb7⟩
          have Hb7 := Lib.hid (Below.tr Hbr.out hb7)
          clear hb7
          go_wp2_with fail
          go_ret
          exact ⟨rfl, Hb7.out⟩
#print axioms matching_yes
theorem matching_any (t0 : ByteArray) (ht : t0.size ≤ maxLen) (p0 : ByteArray) (hp : p0.size ≤ maxLen) (w : World) (hg : Glob w) :
    Calls Try.prog 16 #[.string t0, .string p0] w fun e w' => e = .returned (.bool true) ∧ Below w.heap.size w w' := by
  have HF := Lib.hid (few_any t0 ht)
  have HF2 := Lib.hid (few_any p0 hp)
  have hs : (fewB t0).size ≤ 1000 := by have := fewB_size t0; omega
  have hs2 : (fewB p0).size ≤ 1000 := by have := fewB_size p0; omega
  by_cases h : Lab (bs (fewB t0)) ∧ Lab (bs (fewB p0))
  · exact matching_yes HF HF2 h.1 h.2 w hg
  · exact matching_bad HF HF2 hs hs2 h w hg

namespace indexMatching
open Go.ChangeShapes Go.WideShapes Go.ChangeAt Go.ChangeMaps
set_option maxRecDepth 100000 in
theorem lifted (os : Os) (started : os.Started) (H : Type) (enc : TypeId × Value → H) :
    ReturnsInHanded {} Try.checked os 16 .any (Rows.indexMatchingSpec.pre6 enc Try.prog Try.f16 Rows.indexMatchingRow.domain false) (Rows.indexMatchingSpec.post enc Try.prog Try.f16 false true false false) := by
  refine returnsInHanded_of_change_shaped (C := Try.checked) Try.own started (by kernel_rfl) Try.func16
    (ChangeSpec.witness6 (enc := enc) (C := Try.checked) false ⟨#[], #[.string ⟨#[]⟩, .string ⟨#[]⟩], []⟩ 8 (by kernel_rfl) (by kernel_rfl) (by kernel_rfl) (by kernel_rfl)) ?_
  intro W base args ds gs before hval0 hW _ _ hshape _
  have hval : ∀ (j : Nat) t v, Try.f16.params[j]? = some t → args[j]? = some v → Value.okWide Try.prog W .any base t v := hval0
  clear hval0
  obtain rfl : gs = [] := by obtain ⟨p, q, _, hV, _⟩ := hW; exact (trodVars_none hV).1
  have hW' := hW
  obtain ⟨p, q, hA0, hV, rfl, hfz, hnd⟩ := hW
  have hA : DataW.TrodAll enc Try.prog W 0 (fun _ => true) true Try.f16.params.toList args.toList ds p := hA0
  rw [Try.params16] at hA hval
  obtain ⟨v0, vs0, d0, ds0, p0, q0, hv0, hd0, hp0, h0, r0⟩ := trodAll_cons hA
  obtain ⟨v1, vs1, d1, ds1, p1, q1, hv1, hd1, hp1, h1, r1⟩ := trodAll_cons r0
  obtain ⟨hvn, hdn, hpn⟩ := trodAll_nil r1
  have ha : args = #[v0, v1] := by cases args; simp_all
  have hdd : ds = [d0, d1] := by simp_all
  rw [ha] at hval
  obtain ⟨a0, e0, -, -, ws0⟩ := open_string Try.underlying9 (hval 0 9 v0 rfl rfl) h0
  obtain ⟨a1, e1, -, -, ws1⟩ := open_string Try.underlying9 (hval 1 9 v1 rfl rfl) h1
  have hw : Calls Try.prog 16 args W (fun e W' => e = .returned (.bool true) ∧ Below W.heap.size W W') := by
    rw [ha, e0, e1]; exact matching_any a0 ws0 a1 ws1 W (glob_of hshape)
  exact hw.mono fun e W' ⟨he, hb⟩ => ⟨_, he, law_post Try.laidOut hW' rfl rfl Try.underlying4 (by rw [hdd]; rfl)
    (by kernel_rfl) hb⟩

theorem holds : Rows.IndexMatchingSaid :=
  OpenClaim.holds_of_wide 16 Try.f16 rfl rfl rfl rfl rfl rfl rfl ⟨rfl, rfl, rfl, rfl, rfl⟩ rfl rfl rfl rfl rfl (by kernel_rfl) Try.func16 (by kernel_rfl)
    (of_decide_eq_true (by kernel_rfl)) (by unfold Func.isWrapper; first | (rw [if_pos (by decide +kernel)]; kernel_rfl) | (rw [if_neg (by decide +kernel)]; exact ⟨rfl, rfl⟩))
    (fun os started H enc _ => lifted os started H enc)
#print axioms holds
end indexMatching
end Go.Proofs.Ytbnlkmblkokooaa

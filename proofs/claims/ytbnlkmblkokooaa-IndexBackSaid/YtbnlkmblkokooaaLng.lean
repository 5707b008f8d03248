/- Contracts of Longest, the reference's Longest and Distinct. -/
import Derived.Test.YtbnlkmblkokooaaDis
import Derived.Test.YtbnlkmblkokooaaLon
namespace Go.Proofs.Ytbnlkmblkokooaa
open Go.RowKit

def strV (l : Bs) : Value := .string ⟨l.toArray⟩
theorem str_bs (s : ByteArray) : Value.string s = strV (bs s) := by unfold strV bs; rw [Lib.mk_data]
def lonE (l : Bs) : Int := if l = [] then 5 else 0
theorem bs_toList (s : ByteArray) : s.toList = bs s := Lib.toList_data s
theorem longE_bad {s : ByteArray} (hs : s.size ≤ 1000) (h : ¬ Lab (bs s)) (w : World) :
    Calls Try.prog 40 #[.string s] w fun e w' => e = .returned (.tuple #[.string ⟨#[]⟩, .int .i64 2]) ∧ w = w' := by
  have H := Lib.hid (isLabel_b s hs false (decide_eq_false h) w)
  clear h
  go_enter Try.func40, Try.ntmps40
  go_wp2_with fail
  refine H.out.mono ?_
  rintro e w1 ⟨rfl, rfl⟩
  go_wp2_with fail
  go_ret2
  exact ⟨rfl, rfl⟩
theorem longR_bad {s : ByteArray} (hs : s.size ≤ 1000) (h : ¬ Lab (bs s)) (w : World) :
    Calls Try.prog 41 #[.string s] w fun e w' => e = .returned (.tuple #[.string ⟨#[]⟩, .int .i64 2]) ∧ w = w' := by
  have H := Lib.hid (label_b s hs false (decide_eq_false h) w)
  clear h
  go_enter Try.func41, Try.ntmps41
  go_wp2_with fail
  refine H.out.mono ?_
  rintro e w1 ⟨rfl, rfl⟩
  go_wp2_with fail
  go_ret2
  exact ⟨rfl, rfl⟩
theorem lonTo_length (l : Bs) : ∀ k, (lonTo l k).length ≤ l.length
  | 0 => Nat.zero_le _
  | k + 1 => by
    have := lonTo_length l k
    unfold lonTo
    split
    · have := comAt_le l k
      rw [List.length_take]; omega
    · exact this
theorem com_fit (l : Bs) (k : Nat) : saAt l k + comAt l k ≤ l.length := by
  have := (lcp_le (l.drop (saAt l k)) (l.drop (saAt l (k + 1)))).1
  rw [List.length_drop] at this
  have h2 := saAt_le l k
  unfold comAt
  omega
theorem nil_size {b : ByteArray} (h : bs b = []) : b.size = 0 := by rw [← bs_len, h]; rfl
set_option maxRecDepth 100000 in
set_option maxHeartbeats 4000000 in
theorem longE_any {s : ByteArray} (h : Lab (bs s)) (w : World) :
    Calls Try.prog 40 #[.string s] w fun e w' => e = .returned (.tuple #[strV (lonTo (bs s) (bs s).length), .int .i64 (lonE (lonTo (bs s) (bs s).length))]) ∧ Below w.heap.size w w' := by
  have hs : s.size ≤ 1000 := by have := lab_size h; omega
  have H := Lib.hid (isLabel_b s hs true (decide_eq_true h) w)
  have H1 := Lib.hid (suffixes_any s hs w)
  have H2 := Lib.hid (common_any s hs)
  obtain ⟨n, hn⟩ : ∃ n, n = s.size := ⟨_, rfl⟩
  have hn1 : n ≤ 1000 := by omega
  obtain ⟨L, hL⟩ : ∃ L, L = bs s := ⟨_, rfl⟩
  have hLn : L.length = n := by rw [hL, bs_len, hn]
  have HLn := Lib.hid hLn
  have HL := Lib.hid hL
  have HN := Lib.hid hn
  rw [← hL, hLn]
  clear h hL hn hLn
  go_enter Try.func40, Try.ntmps40
  go_wp2_with fail
  refine H.out.mono ?_
  rintro e w' ⟨rfl, rfl⟩
  go_wp2_with fail
  refine H1.out.mono ?_
  rintro e w1 ⟨v1, rfl, ho1, hb1⟩
  rw [← HL.out] at ho1
  obtain ⟨a1, b1, off1, cap1, rfl, hle1, ha1, hc1⟩ := Ints.nats (OwnInts.ints ho1)
  have hsl : (sa L).length = n + 1 := by rw [sa_length, HLn.out]
  rw [hsl] at ha1 hc1 hle1 ⊢
  have hix1 := run_ix (P := Try.prog) (t := 23) (a := a1) (len := n + 1) (cap := cap1) (b := b1) (off := off1) (s := 1) Try.underlying23 (by intro w; kernel_rfl) ha1
  simp only [Nat.mul_one] at hix1
  have Hix1 := Lib.hid hix1
  have Hc1 := Lib.hid (show ∀ i, i < n + 1 → w1.cell? ⟨b1, off1 + i, none⟩ = some (.int .i64 (saAt L i : Nat)) from hc1)
  have Hb1 := Lib.hid hb1
  clear ho1 ha1 hc1 hsl hix1 hb1
  go_wp2_with fail
  refine (H2.out _).mono ?_
  rintro e w2 ⟨v2, rfl, ho2, hb2⟩
  rw [← HL.out] at ho2
  obtain ⟨a2, b2, off2, cap2, rfl, hle2, ha2, hc2⟩ := Ints.nats (OwnInts.ints ho2)
  have hsl : (com L).length = n := by rw [com_length, HLn.out]
  rw [hsl] at ha2 hc2 hle2 ⊢
  have hix2 := run_ix (P := Try.prog) (t := 23) (a := a2) (len := n) (cap := cap2) (b := b2) (off := off2) (s := 1) Try.underlying23 (by intro w; kernel_rfl) ha2
  simp only [Nat.mul_one] at hix2
  have Hix2 := Lib.hid hix2
  have Hc2 := Lib.hid (show ∀ i, i < n → w2.cell? ⟨b2, off2 + i, none⟩ = some (.int .i64 (comAt L i : Nat)) from fun i hi => by rw [hc2 i hi, com_at (by rw [HLn.out]; exact hi)])
  have Hc1' := Lib.hid (fun i (hi : i < n + 1) => Below.keep hb2 (Hc1.out i hi))
  have Hb2 := Lib.hid (Below.tr Hb1.out hb2)
  clear ho2 hb2 ha2 hc2 hsl hix2 Hc1
  go_wp2_with fail
  go_loopw [5, 16] (fun b i wr => ∃ (j : Nat) (B : ByteArray), i = .int .i64 j ∧ b = .string B ∧ j ≤ n ∧ bs B = lonTo L j ∧ ∃ q, wr = w2.drewN q) (fun _ i _ => n - (intOf i).toNat)
  case atStart => exact ⟨0, ⟨#[]⟩, rfl, rfl, Nat.zero_le _, rfl, 0, rfl⟩
  case round =>
    obtain ⟨j, B, rfl, rfl, hj, hB, q, rfl⟩ := hrel
    have HB := Lib.hid hB
    have hBn : B.size ≤ n := by rw [← bs_len, hB, ← HLn.out]; exact lonTo_length _ _
    clear hB
    by_cases hltj : j < n
    · have hixj := Hix1.out j
      have hixj2 := Hix2.out j
      have hc1 := Hc1'.out j (by omega)
      have hc2 := Hc2.out j hltj
      have hfit : saAt L j + comAt L j ≤ s.size := by have := com_fit L j; have := HLn.out; have := HN.out; omega
      have Hs := Lib.hid (show lonTo L (j + 1) = if (lonTo L j).length < comAt L j then (L.drop (saAt L j)).take (comAt L j) else lonTo L j from rfl)
      have HBl := Lib.hid (show (lonTo L j).length = B.size by rw [← HB.out, bs_len])
      rw [HBl.out] at Hs
      have Hex := Lib.hid (show bs (s.extract (saAt L j) (saAt L j + comAt L j)) = (L.drop (saAt L j)).take (comAt L j) by rw [bs_part, HL.out, Nat.add_sub_cancel_left])
      by_cases hlt : B.size < comAt L j
      · have HR := Lib.hid (show bs (s.extract (saAt L j) (saAt L j + comAt L j)) = lonTo L (j + 1) by rw [Hs.out, if_pos hlt, Hex.out])
        generalize saAt L j = x at *
        generalize comAt L j = c at *
        have ht : ((x : Int) + (c : Int)).toNat = x + c := by omega
        go_wp2_with fail
        go_quiet (fail)
        go_wp2_with fail
        go_roundw
        case rel => exact ⟨j + 1, _, by go_num, rfl, by omega, HR.out, _, rfl⟩
        case measure => simp [intOf]; omega
      · have HR := Lib.hid (show bs B = lonTo L (j + 1) by rw [Hs.out, if_neg hlt, HB.out])
        generalize comAt L j = c at *
        go_wp2_with fail
        go_roundw
        case rel => exact ⟨j + 1, _, by go_num, rfl, by omega, HR.out, _, rfl⟩
        case measure => simp [intOf]; omega
    · obtain rfl : j = n := by omega
      have Hv := Lib.hid (show Value.string B = strV (lonTo L j) by rw [str_bs, HB.out])
      by_cases h0 : lonTo L j = []
      · have hBe : B.toList = [] := by rw [bs_toList, HB.out, h0]
        have HE := Lib.hid (show lonE (lonTo L j) = 5 ∧ strV (lonTo L j) = .string ⟨#[]⟩ by rw [h0]; exact ⟨rfl, rfl⟩)
        clear h0
        go_wp2_with fail
        go_ret2
        exact ⟨by rw [HE.out.1, HE.out.2]; rfl, bdrewN Hb2.out _⟩
      · have hBe : B.toList.isEmpty = false := by rw [bs_toList, HB.out]; simpa using h0
        have HE := Lib.hid (show lonE (lonTo L j) = 0 by unfold lonE; rw [if_neg h0])
        clear h0
        go_wp2_with fail
        go_ret2
        exact ⟨by rw [HE.out, ← Hv.out]; rfl, bdrewN Hb2.out _⟩

theorem lonJ_length {l : Bs} {i : Nat} {b : Bs} (hb : b.length ≤ l.length) : ∀ j, (lonJ l i j b).length ≤ l.length
  | 0 => hb
  | j + 1 => by
    have ih := lonJ_length (i := i) hb j
    show (upd _ _).length ≤ _
    rcases upd_cases (lonJ l i j b) (cmn l i j) with ⟨e, _⟩ | ⟨e, _⟩
    · rw [e, cmn_length]
      have := (lcp_le (l.drop i) (l.drop j)).1
      rw [List.length_drop] at this; omega
    · rw [e]; exact ih
theorem lonR_length (l : Bs) : ∀ i, (lonR l i).length ≤ l.length
  | 0 => Nat.zero_le _
  | i + 1 => lonJ_length (lonR_length l i) i
theorem upd_yes {b s : Bs} (h : Better s b) : upd b s = s := if_pos h
theorem upd_no {b s : Bs} (h : ¬ Better s b) : upd b s = b := if_neg h
set_option maxRecDepth 100000 in
set_option maxHeartbeats 4000000 in
theorem longR_any {s : ByteArray} (h : Lab (bs s)) (w : World) :
    Calls Try.prog 41 #[.string s] w fun e w' => e = .returned (.tuple #[strV (lonR (bs s) (bs s).length), .int .i64 (lonE (lonR (bs s) (bs s).length))]) ∧ Below w.heap.size w w' := by
  have hs : s.size ≤ 1000 := by have := lab_size h; omega
  have H := Lib.hid (label_b s hs true (decide_eq_true h) w)
  obtain ⟨n, hn⟩ : ∃ n, n = s.size := ⟨_, rfl⟩
  have hn1 : n ≤ 1000 := by omega
  have hszn : (s.size : Int) = (n : Int) := by omega
  obtain ⟨L, hL⟩ : ∃ L, L = bs s := ⟨_, rfl⟩
  have hLn : L.length = n := by rw [hL, bs_len, hn]
  have HLn := Lib.hid hLn
  have HL := Lib.hid hL
  have HN := Lib.hid hn
  have HA := Lib.hid (show ∀ i j W, Calls Try.prog 56 #[.string (s.extract i s.size), .string (s.extract j s.size)] W fun e w' => e = .returned (.int .i64 (lcp (L.drop i) (L.drop j) : Nat)) ∧ ∃ q, w' = W.drewN q from fun i j W => by
    have h := agree_any (s.extract i s.size) (s.extract j s.size) (by rw [ByteArray.size_extract]; omega) W
    rw [bs_drop, bs_drop, ← hL] at h
    exact h)
  rw [← hL, hLn]
  clear h hL hn hLn
  go_enter Try.func41, Try.ntmps41
  go_wp2_with fail
  refine H.out.mono ?_
  rintro e w' ⟨rfl, rfl⟩
  go_wp2_with fail
  go_loopw [4, 13] (fun b i wr => ∃ (j : Nat) (B : ByteArray), i = .int .i64 j ∧ b = .string B ∧ j ≤ n ∧ bs B = lonR L j ∧ ∃ q, wr = w.drewN q) (fun _ i _ => n - (intOf i).toNat)
  case atStart => exact ⟨0, ⟨#[]⟩, rfl, rfl, Nat.zero_le _, rfl, 0, rfl⟩
  case round =>
    obtain ⟨j, B, rfl, rfl, hj, hB, q, rfl⟩ := hrel
    have HB := Lib.hid hB
    clear hB
    by_cases hltj : j < n
    · go_wp2_with fail
      go_loopw [4, 17] (fun b i wr => ∃ (k : Nat) (C : ByteArray), i = .int .i64 k ∧ b = .string C ∧ k ≤ j ∧ bs C = lonJ L j k (lonR L j) ∧ ∃ q, wr = w.drewN q) (fun _ i _ => j - (intOf i).toNat)
      case atStart => exact ⟨0, B, rfl, rfl, Nat.zero_le _, HB.out, q, rfl⟩
      case round =>
        obtain ⟨k, C, rfl, rfl, hk, hC, d, rfl⟩ := hrel
        have HC := Lib.hid hC
        have hCn : C.size ≤ n := by rw [← bs_len, hC, ← HLn.out]; exact lonJ_length (lonR_length _ _) _
        clear hC
        by_cases hltk : k < j
        · have hjs : j ≤ s.size := by omega
          have hks : k ≤ s.size := by omega
          have HAk := Lib.hid (HA.out j k)
          have hfit : j + lcp (L.drop j) (L.drop k) ≤ s.size := by
            have := (lcp_le (L.drop j) (L.drop k)).1
            rw [List.length_drop, HLn.out] at this
            have := HN.out; omega
          have Hcl := Lib.hid (cmn_length L j k)
          have Hex := Lib.hid (show bs (s.extract j (j + lcp (L.drop j) (L.drop k))) = cmn L j k by rw [bs_part, ← HL.out, Nat.add_sub_cancel_left]; rfl)
          have Hup := Lib.hid (show lonJ L j (k + 1) (lonR L j) = upd (lonJ L j k (lonR L j)) (cmn L j k) from rfl)
          rw [← HC.out] at Hup
          generalize lcp (L.drop j) (L.drop k) = c at *
          have ht : ((j : Int) + (c : Int)).toNat = j + c := by omega
          obtain ⟨w5, hw5⟩ : ∃ w5, w.drewN d = w5 := ⟨_, rfl⟩
          rw [hw5]
          have HW5 := Lib.hid hw5
          clear hw5
          go_wp2_with fail
          go_quiet ((go_at_call 56; exact Calls.quiet_of (HAk.out _)))
          have HW6 := Lib.hid (show ∃ q, w5.drewN nq = w.drewN q from ⟨d + nq, by rw [← HW5.out]; exact World.drewN_drewN _ _ _⟩)
          generalize w5.drewN nq = w6 at *
          generalize s.extract j (j + c) = S at *
          have hSc : S.size = c := by rw [← bs_len, Hex.out, Hcl.out]
          subst hSc
          by_cases h1 : C.size < S.size
          · have HR := Lib.hid (show bs S = lonJ L j (k + 1) (lonR L j) by rw [Hup.out, upd_yes, Hex.out]; exact .inl (by rw [bs_len, Hcl.out]; exact h1))
            go_wp2_with fail
            go_roundw
            case rel => exact ⟨k + 1, _, by go_num, rfl, by omega, HR.out, HW6.out⟩
            case measure => simp [intOf]; omega
          · by_cases h2 : S.size = C.size
            · have hq : ((S.size : Int) == (C.size : Int)) = true := by rw [beq_iff_eq]; omega
              cases h3 : lss (bs S) (bs C) with
              | true =>
                have hd : Op.bytesLess S.toList C.toList = true := by rw [bs_toList, bs_toList]; exact h3
                have HR := Lib.hid (show bs S = lonJ L j (k + 1) (lonR L j) by rw [Hup.out, upd_yes, Hex.out]; exact .inr ⟨by rw [bs_len, Hcl.out]; exact h2, by rw [← Hex.out]; exact h3⟩)
                clear h2 h3
                go_wp2_with fail
                go_roundw
                case rel => exact ⟨k + 1, _, by go_num, rfl, by omega, HR.out, HW6.out⟩
                case measure => simp [intOf]; omega
              | false =>
                have hd : Op.bytesLess S.toList C.toList = false := by rw [bs_toList, bs_toList]; exact h3
                have HR := Lib.hid (show bs C = lonJ L j (k + 1) (lonR L j) by
                  rw [Hup.out, upd_no]
                  rintro (g | ⟨_, g⟩)
                  · rw [bs_len, Hcl.out] at g; omega
                  · rw [← Hex.out, h3] at g; cases g)
                clear h2 h3
                go_wp2_with fail
                go_roundw
                case rel => exact ⟨k + 1, _, by go_num, rfl, by omega, HR.out, HW6.out⟩
                case measure => simp [intOf]; omega
            · have hq : ((S.size : Int) == (C.size : Int)) = false := by rw [beq_eq_false_iff_ne]; omega
              have HR := Lib.hid (show bs C = lonJ L j (k + 1) (lonR L j) by
                rw [Hup.out, upd_no]
                rintro (g | ⟨g, _⟩)
                · rw [bs_len, Hcl.out] at g; omega
                · rw [bs_len, Hcl.out] at g; omega)
              go_wp2_with fail
              go_roundw
              case rel => exact ⟨k + 1, _, by go_num, rfl, by omega, HR.out, HW6.out⟩
              case measure => simp [intOf]; omega
        · obtain rfl : k = j := by omega
          go_wp2_with fail
          go_roundw
          case rel => exact ⟨k + 1, _, by go_num, rfl, by omega, HC.out, _, rfl⟩
          case measure => simp [intOf]; omega
    · obtain rfl : j = n := by omega
      have Hv := Lib.hid (show Value.string B = strV (lonR L j) by rw [str_bs, HB.out])
      by_cases h0 : lonR L j = []
      · have hBe : B.toList = [] := by rw [bs_toList, HB.out, h0]
        have HE := Lib.hid (show lonE (lonR L j) = 5 ∧ strV (lonR L j) = .string ⟨#[]⟩ by rw [h0]; exact ⟨rfl, rfl⟩)
        clear h0
        go_wp2_with fail
        go_ret2
        exact ⟨by rw [HE.out.1, HE.out.2]; rfl, bdrewN (Below.refl _ _) _⟩
      · have hBe : B.toList.isEmpty = false := by rw [bs_toList, HB.out]; simpa using h0
        have HE := Lib.hid (show lonE (lonR L j) = 0 by unfold lonE; rw [if_neg h0])
        clear h0
        go_wp2_with fail
        go_ret2
        exact ⟨by rw [HE.out, ← Hv.out]; rfl, bdrewN (Below.refl _ _) _⟩

/-- the suffixes' lengths, added up -/
theorem sum_down (n : Nat) : ∀ j : Nat, j ≤ n → 2 * sumTo (fun i => n - i) j = j * (2 * n - j + 1)
  | 0, _ => by simp [sumTo]
  | j + 1, h => by
    have ih := sum_down n j (by omega)
    show 2 * (sumTo (fun i => n - i) j + (n - j)) = _
    obtain ⟨d, rfl⟩ : ∃ d, n = j + 1 + d := ⟨n - (j + 1), by omega⟩
    rw [Nat.mul_add, ih]
    have e1 : 2 * (j + 1 + d) - j + 1 = j + 3 + 2 * d := by omega
    have e2 : 2 * (j + 1 + d) - (j + 1) + 1 = j + 2 + 2 * d := by omega
    have e3 : j + 1 + d - j = 1 + d := by omega
    rw [e1, e2, e3]
    simp only [Nat.mul_add, Nat.add_mul, Nat.mul_one, Nat.one_mul]
    omega
theorem sum_tri (n : Nat) : sumTo (fun i => n - i) n = tri n := by
  have h := sum_down n n (Nat.le_refl _)
  rw [show 2 * n - n + 1 = n + 1 by omega] at h
  unfold tri
  omega
theorem sub_sum {f g : Nat → Nat} : ∀ n : Nat, (∀ i, i < n → g i ≤ f i) → sumTo (fun i => f i - g i) n + sumTo g n = sumTo f n
  | 0, _ => rfl
  | n + 1, h => by
    have ih := sub_sum n fun i hi => h i (by omega)
    have := h n (by omega)
    unfold sumTo
    omega
theorem old_fit (l : Bs) (i : Nat) : old l i ≤ l.length - i := maxTo_le _ _ _ fun j _ => by
  have := (lcp_le (l.drop i) (l.drop j)).1
  rwa [List.length_drop] at this
/-- what the reference's Distinct returns -/
def disR (l : Bs) (k : Nat) : Nat := sumTo (fun i => l.length - i - old l i) k
theorem dis_eq (l : Bs) : (disR l l.length : Int) = disI l := by
  have h := sub_sum (f := fun i => l.length - i) (g := old l) l.length fun i _ => old_fit l i
  rw [sum_tri, ← com_sum] at h
  unfold disR disI
  omega
theorem disR_le (l : Bs) (h : l.length ≤ 1000) : disR l l.length ≤ 1000000 := by
  have h1 := sumTo_le (f := fun i => l.length - i - old l i) (b := 1000) (n := l.length) fun i _ => by omega
  have := Nat.mul_le_mul_right 1000 h
  unfold disR
  omega
set_option maxRecDepth 100000 in
set_option maxHeartbeats 4000000 in
theorem distinctR_any (s : ByteArray) (hs : s.size ≤ 1000) (w : World) :
    Calls Try.prog 44 #[.string s] w fun e w' => e = .returned (.int .i64 (disI (bs s))) ∧ Below w.heap.size w w' := by
  obtain ⟨n, hn⟩ : ∃ n, n = s.size := ⟨_, rfl⟩
  have hn1 : n ≤ 1000 := by omega
  have hszn : (s.size : Int) = (n : Int) := by omega
  obtain ⟨L, hL⟩ : ∃ L, L = bs s := ⟨_, rfl⟩
  have hLn : L.length = n := by rw [hL, bs_len, hn]
  have HLn := Lib.hid hLn
  have HN := Lib.hid hn
  have HA := Lib.hid (show ∀ i j W, Calls Try.prog 56 #[.string (s.extract i s.size), .string (s.extract j s.size)] W fun e w' => e = .returned (.int .i64 (lcp (L.drop i) (L.drop j) : Nat)) ∧ ∃ q, w' = W.drewN q from fun i j W => by
    have h := agree_any (s.extract i s.size) (s.extract j s.size) (by rw [ByteArray.size_extract]; omega) W
    rw [bs_drop, bs_drop, ← hL] at h
    exact h)
  have Hmono := Lib.hid (fun j (hj : j ≤ n) => sumTo_mono (fun i => L.length - i - old L i) hj)
  have Hbd := Lib.hid (show disR L n ≤ 1000000 by rw [← hLn]; exact disR_le L (by omega))
  have Heq := Lib.hid (show disI (bs s) = (disR L n : Nat) by rw [← hL, ← dis_eq, hLn])
  rw [Heq.out]
  clear hL hn hLn
  go_enter Try.func44, Try.ntmps44
  go_wp2_with fail
  go_loopw [3, 9] (fun x i wr => ∃ j : Nat, i = .int .i64 j ∧ j ≤ n ∧ x = .int .i64 (disR L j : Nat) ∧ ∃ q, wr = w.drewN q) (fun _ i _ => n - (intOf i).toNat)
  case atStart => exact ⟨0, rfl, Nat.zero_le _, rfl, 0, rfl⟩
  case round =>
    obtain ⟨j, rfl, hj, rfl, q, rfl⟩ := hrel
    by_cases hltj : j < n
    · go_wp2_with fail
      go_loopw [5, 13] (fun b i wr => ∃ k : Nat, i = .int .i64 k ∧ k ≤ j ∧ b = .int .i64 (maxTo (fun k => lcp (L.drop j) (L.drop k)) k : Nat) ∧ ∃ q, wr = w.drewN q) (fun _ i _ => j - (intOf i).toNat)
      case atStart => exact ⟨0, rfl, Nat.zero_le _, rfl, q, rfl⟩
      case round =>
        obtain ⟨k, rfl, hk, rfl, d, rfl⟩ := hrel
        by_cases hltk : k < j
        · have hjs : j ≤ s.size := by omega
          have hks : k ≤ s.size := by omega
          have HAk := Lib.hid (HA.out j k)
          have hmx : max (maxTo (fun k => lcp (L.drop j) (L.drop k)) k : Int) (lcp (L.drop j) (L.drop k) : Int) = (maxTo (fun k => lcp (L.drop j) (L.drop k)) (k + 1) : Nat) := by
            show _ = ((max (maxTo (fun k => lcp (L.drop j) (L.drop k)) k) (lcp (L.drop j) (L.drop k)) : Nat) : Int)
            omega
          obtain ⟨M1, hM1⟩ : ∃ M1, M1 = maxTo (fun k => lcp (L.drop j) (L.drop k)) (k + 1) := ⟨_, rfl⟩
          rw [← hM1] at hmx
          have HM1 := Lib.hid (show Value.int .i64 (M1 : Nat) = .int .i64 (maxTo (fun k => lcp (L.drop j) (L.drop k)) (k + 1) : Nat) by rw [hM1])
          clear hM1
          obtain ⟨w5, hw5⟩ : ∃ w5, w.drewN d = w5 := ⟨_, rfl⟩
          rw [hw5]
          have HW5 := Lib.hid hw5
          clear hw5
          go_wp2_with fail
          go_quiet ((go_at_call 56; exact Calls.quiet_of (HAk.out _)))
          go_wp2_with fail
          go_roundw
          case rel => exact ⟨k + 1, by go_num, by omega, HM1.out, d + nq, by rw [← HW5.out]; exact World.drewN_drewN _ _ _⟩
          case measure => simp [intOf]; omega
        · obtain rfl : k = j := by omega
          have hold : maxTo (fun k' => lcp (L.drop k) (L.drop k')) k = old L k := rfl
          have hof := old_fit L k
          rw [HLn.out] at hof
          have hm1 := Hmono.out k hj
          have hm2 := Hmono.out (k + 1) hltj
          have hbd := Hbd.out
          unfold disR at hbd
          have hS : disR L (k + 1) = disR L k + (n - k - old L k) := by rw [← HLn.out]; rfl
          have HS := Lib.hid (show ((disR L k : Nat) : Int) + ((n : Int) - (k : Int) - (old L k : Nat)) = (disR L (k + 1) : Nat) by rw [hS]; omega)
          have hb1 : disR L (k + 1) ≤ 1000000 := by unfold disR; omega
          have hb0 : disR L k ≤ 1000000 := by unfold disR; omega
          rw [hold]
          clear hold hm1 hm2 hbd hS
          generalize old L k = O at *
          obtain ⟨D1, hD1⟩ : ∃ D1, D1 = disR L (k + 1) := ⟨_, rfl⟩
          rw [← hD1] at HS hb1
          have HD1 := Lib.hid hD1
          clear hD1
          generalize disR L k = D0 at *
          have q1 : IntKind.i64.wrap ((n : Int) - (k : Int)) = (n : Int) - (k : Int) := IntWalk.i64_in _ ⟨by omega, by omega⟩
          have q2 : IntKind.i64.wrap ((n : Int) - (k : Int) - (O : Int)) = (n : Int) - (k : Int) - (O : Int) := IntWalk.i64_in _ ⟨by omega, by omega⟩
          have q3 : (D0 : Int) + ((n : Int) - (k : Int) - (O : Int)) = (D1 : Int) := HS.out
          go_wp2_with fail
          go_roundw
          case rel => exact ⟨k + 1, by go_num, by omega, by rw [HD1.out], _, rfl⟩
          case measure => simp [intOf]; omega
    · obtain rfl : j = n := by omega
      go_wp2_with fail
      go_ret
      exact ⟨rfl, bdrewN (Below.refl _ _) _⟩
#print axioms distinctR_any
#print axioms longR_any
end Go.Proofs.Ytbnlkmblkokooaa

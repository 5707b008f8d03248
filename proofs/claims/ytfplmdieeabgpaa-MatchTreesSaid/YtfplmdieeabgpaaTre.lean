/- Contracts of the reference's joined, through and Tree. -/
import Derived.Test.YtfplmdieeabgpaaCkt
import Derived.Test.YtfplmdieeabgpaaRq
namespace Go.Proofs.Ytfplmdieeabgpaa
open Go.RowKit
/-- i is of the set, its parent isn't -/
def joP (par : List Int) (S i : Nat) : Prop := mem' S i ∧ ¬ (0 ≤ pa par i ∧ mem' S (pa par i).toNat)
instance (S i : Nat) : Decidable (mem' S i) := inferInstanceAs (Decidable (_ = _))
instance (par : List Int) (S : Nat) : DecidablePred (joP par S) := fun _ => inferInstanceAs (Decidable (_ ∧ ¬ _))
theorem cnt_congr {P Q : Nat → Prop} [DecidablePred P] [DecidablePred Q] : ∀ k, (∀ i, i < k → (P i ↔ Q i)) → cnt P k = cnt Q k
  | 0, _ => rfl
  | k + 1, h => by
    rw [cnt, cnt, cnt_congr k fun i hi => h i (by omega)]
    by_cases c : P k
    · rw [if_pos c, if_pos ((h k (by omega)).1 c)]
    · rw [if_neg c, if_neg fun d => c ((h k (by omega)).2 d)]
/-- where all lead to a root, each variable has a top -/
theorem top_of {l : List HAt} {par : List Int} {n v : Nat} (hr : ∀ i, i < n → -1 ≤ pa par i ∧ pa par i < n) : ∀ k i, i < n → Climb par k i → Vq l i v → ∃ t, t < n ∧ topP l par v t
  | 0, _, _, h, _ => h.elim
  | k + 1, i, hi, h, hv => by
    by_cases c : 0 ≤ pa par i ∧ Vq l (pa par i).toNat v
    · rcases h with h | ⟨_, h2⟩
      · omega
      · exact top_of hr k _ (by have := hr i hi; omega) h2 c.2
    · exact ⟨i, hi, hv, c⟩
theorem top_one {l : List HAt} {par : List Int} {n v : Nat} (T : IsT par n) {i : Nat} (hi : i < n) (hv : Vq l i v) : cnt (topP l par v) n ≤ 1 ↔ cnt (topP l par v) n = 1 := by
  obtain ⟨t, h1, h2⟩ := top_of T.1 n i hi (T.2.1 i hi) hv
  have : cnt (topP l par v) n ≠ 0 := fun c => (cnt_0 n).1 c t h1 h2
  omega
set_option maxRecDepth 100000 in
set_option maxHeartbeats 8000000 in
theorem joined_any (par : List Int) (h5 : par.length ≤ 5) (hr : ∀ i, i < par.length → -1 ≤ pa par i ∧ pa par i < par.length) (S : Nat) (hS : S < 64) (u : Value) (w : World) (hu : Ints w u par) :
    Calls Try.prog 95 #[u, .int .i64 (S : Nat)] w fun e w' => e = .returned (.bool (decide (cnt (joP par S) par.length = 1))) ∧ w = w' := by
  obtain ⟨a, b, off, cap, rfl, hle, hia, hc⟩ := Ints.get hu
  obtain ⟨n, hn2⟩ : ∃ x, x = par.length := ⟨_, rfl⟩
  have Hc := Lib.hid (show ∀ i, i < n → w.cell? ⟨b, off + i, none⟩ = some (.int .i64 (pa par i)) from fun i hi => by rw [hc i (by omega)]; unfold pa; rw [List.getD_eq_getElem?_getD, List.getElem?_eq_getElem]; rfl)
  rw [← hn2] at hia hr h5 hle ⊢
  have Hr := Lib.hid hr
  have Hix := Lib.hid (run_ix (P := Try.prog) (t := 22) (a := a) (len := n) (cap := cap) (b := b) (off := off) (s := 1) Try.underlying22 (by intro w; kernel_rfl) hia)
  simp only [Nat.mul_one] at Hix
  clear hu hia hc hn2 hr
  go_enter Try.func95, Try.ntmps95
  go_wp2_with fail
  go_loopw [5, 10] (fun x vi wr => ∃ k R : Nat, x = .int .i64 R ∧ vi = .int .i64 k ∧ k ≤ n ∧ wr = w ∧ R ≤ k ∧ R = cnt (joP par S) k) (fun _ vi _ => n - (intOf vi).toNat)
  case atStart => exact ⟨0, 0, rfl, rfl, Nat.zero_le _, rfl, Nat.le_refl _, rfl⟩
  case round =>
    obtain ⟨k, R, rfl, rfl, hk, hwr, hRk, hR⟩ := hrel
    obtain rfl : w = wr := hwr.symm
    have HR := Lib.hid hR
    clear hR
    by_cases hlt : k < n
    · have hck := Hc.out k hlt
      have hixk := Hix.out k
      have hrk := Hr.out k hlt
      have HS := Lib.hid (show cnt (joP par S) (k + 1) = cnt (joP par S) k + if joP par S k then 1 else 0 from rfl)
      rw [← HR.out] at HS
      have HTp := Lib.hid (show joP par S k ↔ mem' S k ∧ ¬ (0 ≤ pa par k ∧ mem' S (pa par k).toNat) from Iff.rfl)
      obtain ⟨p, hp⟩ : ∃ p, p = pa par k := ⟨_, rfl⟩
      rw [← hp] at hck hrk HTp
      clear hp
      have k0 : (0 : Int) ≤ (k : Int) := by omega
      have k64 : (k : Int) < 64 := by omega
      have t1 := qshr_bit S k (by omega)
      obtain ⟨P, hP, p1, p2, p3⟩ := qpow_name k (by omega)
      rw [p1] at t1
      clear hP
      by_cases h1 : S.testBit k = true
      · rw [if_pos h1] at t1
        by_cases hp0 : p < 0
        · have HS := Lib.hid (HS.out.trans (by rw [if_pos (HTp.out.2 ⟨h1, fun h => by omega⟩)]))
          clear h1
          go_wp2_with fail
          go_roundw
          case rel => exact ⟨k + 1, R + 1, by go_num, by go_num, by omega, by first | rfl | trivial, by omega, HS.out.symm⟩
          case measure => simp [intOf]; omega
        · obtain ⟨m, rfl⟩ : ∃ m : Nat, p = m := ⟨p.toNat, by omega⟩
          have m0 : (0 : Int) ≤ (m : Int) := by omega
          have m64 : (m : Int) < 64 := by omega
          have s1 := qshr_bit S m (by omega)
          obtain ⟨R', hR', r1, r2, r3⟩ := qpow_name m (by omega)
          rw [r1] at s1
          clear hR'
          by_cases h2 : S.testBit m = true
          · rw [if_pos h2] at s1
            have HS := Lib.hid (HS.out.trans (by rw [if_neg (fun t => (HTp.out.1 t).2 ⟨by omega, by rw [Int.toNat_natCast]; exact h2⟩)]))
            clear h1 h2
            go_wp2_with fail
            go_roundw
            case rel => exact ⟨k + 1, R, rfl, by go_num, by omega, by first | rfl | trivial, by omega, HS.out.symm⟩
            case measure => simp [intOf]; omega
          · rw [if_neg h2] at s1
            have HS := Lib.hid (HS.out.trans (by rw [if_pos (HTp.out.2 ⟨h1, fun h => h2 (by have := h.2; rwa [Int.toNat_natCast] at this)⟩)]))
            clear h1 h2
            go_wp2_with fail
            go_roundw
            case rel => exact ⟨k + 1, R + 1, by go_num, by go_num, by omega, by first | rfl | trivial, by omega, HS.out.symm⟩
            case measure => simp [intOf]; omega
      · rw [if_neg h1] at t1
        have HS := Lib.hid (HS.out.trans (by rw [if_neg (fun t => h1 (HTp.out.1 t).1)]))
        clear h1
        go_wp2_with fail
        go_roundw
        case rel => exact ⟨k + 1, R, rfl, by go_num, by omega, by first | rfl | trivial, by omega, HS.out.symm⟩
        case measure => simp [intOf]; omega
    · obtain rfl : n = k := by omega
      by_cases h : R = 1
      · have HD := Lib.hid (decide_eq_true h)
        subst h
        go_wp2_with fail
        go_ret
        exact ⟨by rw [← HR.out]; rfl, rfl⟩
      · have HD := Lib.hid (decide_eq_false h)
        have hq : ((R : Int) == 1) = false := by rw [beq_eq_false_iff_ne]; omega
        go_wp2_with fail
        go_ret
        exact ⟨by rw [← HR.out, HD.out]; rfl, rfl⟩
/-- the atoms that have a variable -/
def SetP (l : List HAt) (v k S : Nat) : Prop := ∀ i, mem' S i ↔ i < k ∧ Vq l i v
theorem set_in {l : List HAt} {v k S : Nat} (h : SetP l v k S) (hv : Vq l k v) : SetP l v (k + 1) (S ||| 2 ^ k) := fun i => by
  unfold mem'
  rw [Nat.testBit_or, Bool.or_eq_true, Nat.testBit_two_pow, decide_eq_true_iff]
  have := h i
  unfold mem' at this
  rw [this]
  constructor
  · rintro (⟨h1, h2⟩ | h1)
    · exact ⟨by omega, h2⟩
    · rw [← h1]; exact ⟨by omega, hv⟩
  · rintro ⟨h1, h2⟩
    by_cases c : k = i
    · exact .inr c
    · exact .inl ⟨by omega, h2⟩
theorem set_out {l : List HAt} {v k S : Nat} (h : SetP l v k S) (hv : ¬ Vq l k v) : SetP l v (k + 1) S := fun i => by
  rw [h i]
  refine ⟨fun ⟨h1, h2⟩ => ⟨by omega, h2⟩, fun ⟨h1, h2⟩ => ⟨?_, h2⟩⟩
  by_cases c : i = k
  · rw [c] at h2; exact absurd h2 hv
  · omega
set_option maxRecDepth 100000 in
set_option maxHeartbeats 8000000 in
theorem through_any (l : List HAt) (h5 : l.length ≤ 5) (h7 : ∀ i, i < l.length → ∀ t, t ∈ aA l i → t ≤ 7) (par : List Int) (hl : par.length = l.length) (T : IsT par l.length) (h0 b0 u : Value) (w : World) (hb : Atoms w b0 l) (hu : Ints w u par) (B : Bool) (hB : B = true ↔ ∀ v, v < 8 → cnt (topP l par v) l.length ≤ 1) :
    Calls Try.prog 96 #[.agg #[h0, b0], u] w fun e w' => e = .returned (.bool B) ∧ Below w.heap.size w w' := by
  have Hu := Lib.hid hu
  obtain ⟨a, b, off, cap, vs, rfl, hle, hia, _, hcl⟩ := Atoms.get hb
  obtain ⟨ua, uc, rfl⟩ := ints_slice hu
  obtain ⟨n, hn2⟩ : ∃ x, x = l.length := ⟨_, rfl⟩
  rw [hl, ← hn2] at Hu ⊢
  rw [← hn2] at hia hcl hle h5 h7 T hB
  have Hn := Lib.hid hn2
  have HT := Lib.hid T
  have HBi := Lib.hid hB
  have H7 := Lib.hid h7
  have Hl := Lib.hid (show par.length = n from hl.trans hn2.symm)
  have Hix := Lib.hid (run_ix (P := Try.prog) (t := 23) (a := a) (len := n) (cap := cap) (b := b) (off := off) (s := 2) Try.underlying23 (by intro w; kernel_rfl) hia)
  have Hc := Lib.hid hcl
  obtain ⟨w1, hw1⟩ : ∃ x, x = w.alloc (.cells #[h0, .slice a n cap] 25) := ⟨_, rfl⟩
  obtain ⟨bq, hbq⟩ : ∃ x, x = w.heap.size := ⟨_, rfl⟩
  have HB := Lib.hid (show Below w.heap.size w w1 from by rw [hw1]; exact below_alloc _ _)
  have HQ := Lib.hid (show Bx w1 bq h0 (.slice a n cap) from by rw [hbq, hw1]; exact heap_alloc_new _ _)
  have Hw1 := Lib.hid hw1
  have Hbq := Lib.hid hbq
  clear hb hu hia hcl hn2 hw1 hbq hl T hB h7
  go_enter Try.func96, Try.ntmps96
  go_upto_region 1 with fail
  rw [← Hw1.out, ← Hbq.out]
  clear Hw1 Hbq
  go_wp2_with fail
  go_loopw [9] (fun vi wr => ∃ v : Nat, vi = .int .i64 v ∧ v ≤ 8 ∧ Below w1.heap.size w1 wr ∧ ∀ v', v' < v → cnt (topP l par v') n ≤ 1) (fun vi _ => 8 - (intOf vi).toNat)
  case atStart => exact ⟨0, rfl, by omega, Below.refl _ _, fun v h => by omega⟩
  case round =>
    generalize wr = wx at *
    obtain ⟨v, rfl, hv, hb, hin⟩ := hrel
    have Hbx := Lib.hid hb
    have Hin := Lib.hid hin
    clear hb hin
    by_cases hlv : v < 8
    · have HQx := Lib.hid (HQ.out.keep Hbx.out)
      have g1 := aCell HQx.out 1 rfl
      have hv8 : (v : Int) < 8 := by omega
      have hv8d : decide ((v : Int) < 8) = true := decide_eq_true hv8
      go_wp2_with fail
      clear g1
      go_loopw [6, 15] (fun x vi wr => ∃ k S : Nat, x = .int .i64 (S : Nat) ∧ vi = .int .i64 k ∧ k ≤ n ∧ Below wx.heap.size wx wr ∧ S < 32 ∧ SetP l v k S) (fun _ vi _ => n - (intOf vi).toNat)
      case atStart => exact ⟨0, 0, rfl, rfl, Nat.zero_le _, Below.refl _ _, by decide, fun i => ⟨fun h => by simp [mem'] at h, fun h => by omega⟩⟩
      case round =>
        generalize wr = wy at *
        obtain ⟨k, S, rfl, rfl, hk, hb, hS, hst⟩ := hrel
        have Hby := Lib.hid hb
        have HSt := Lib.hid hst
        clear hb hst
        by_cases hlt : k < n
        · have hbw := Below.tr HB.out (Below.tr Hbx.out Hby.out)
          have hc1 := Below.keep hbw (Hc.out k hlt).1
          have hc2 := Below.keep hbw (Hc.out k hlt).2.1
          have hi := Ints.keep (Hc.out k hlt).2.2 hbw
          have hixk := Hix.out k
          have H7k := Lib.hid (H7.out k hlt)
          have HVq := Lib.hid (show Vq l k v ↔ (vsA (aA l k)).testBit v = true from Iff.rfl)
          obtain ⟨va, vc, hva⟩ := ints_slice hi
          rw [hva] at hc2 hi
          clear hva hbw
          obtain ⟨r, hr⟩ : ∃ t, t = aR l k := ⟨_, rfl⟩
          obtain ⟨A, hA⟩ : ∃ t, t = aA l k := ⟨_, rfl⟩
          rw [← hr] at hc1
          rw [← hA] at hc2 hi H7k HVq
          clear hr hA
          obtain ⟨un, hun⟩ : ∃ x, x = A.length := ⟨_, rfl⟩
          rw [← hun] at hc2 hi
          obtain ⟨wn, hwn⟩ : ∃ x, x = wy.alloc (.cells #[.int .i64 r, .slice va un vc] 80) := ⟨_, rfl⟩
          have kn : Below wy.heap.size wy wn := by rw [hwn]; exact below_alloc _ _
          obtain ⟨bA, hbA⟩ : ∃ x, x = wy.heap.size := ⟨_, rfl⟩
          have HA := Lib.hid (show wn.heap[bA]? = some (.cells #[.int .i64 r, .slice va un vc] 80 (0, 0)) from by rw [hbA, hwn]; exact heap_alloc_new _ _)
          have Hbn := Lib.hid (Below.tr Hby.out kn)
          have HVa := Lib.hid (varsR_any r A H7k.out _ wn (hi.keep kn))
          have Hwn := Lib.hid hwn
          have HbA := Lib.hid hbA
          clear hwn kn hbA hi hun
          go_upto_region 8 with fail
          rw [← Hwn.out, ← HbA.out]
          clear Hwn hc1 hc2 hixk
          have g0 := aCell HA.out 0 rfl
          have g1 := aCell HA.out 1 rfl
          have HV256 := Lib.hid (vsA_lt A)
          obtain ⟨N, hN⟩ : ∃ N, N = vsA A := ⟨_, rfl⟩
          rw [← hN] at HVa HVq HV256
          clear hN
          have v0 : (0 : Int) ≤ (v : Int) := by omega
          have v64 : (v : Int) < 64 := by omega
          have hN256 := HV256.out
          go_wp2_with fail
          refine HVa.out.mono ?_
          rintro e w5 ⟨rfl, hb⟩
          have Hb5 := Lib.hid (Below.tr Hbn.out hb)
          clear hb g0 g1
          have t1 := qshr_bit N v (by omega)
          obtain ⟨P, hP, p1, p2, p3⟩ := qpow_name v (by omega)
          rw [p1] at t1
          clear hP
          by_cases h2 : N.testBit v = true
          · rw [if_pos h2] at t1
            have HS2 := Lib.hid (set_in HSt.out (HVq.out.2 h2))
            have hsh := qshl_one k
            have hp2 : 2 ^ k < 32 := Nat.lt_of_lt_of_eq (Nat.pow_lt_pow_right (a := 2) (by decide) (show k < 5 by omega)) (by decide)
            have e1 := bits_or_nat S (2 ^ k) (by omega) (by omega)
            have l1 : S ||| 2 ^ k < 32 := Nat.or_lt_two_pow (n := 5) hS hp2
            obtain ⟨r2, hr2⟩ : ∃ r, r = 2 ^ k := ⟨_, rfl⟩
            rw [← hr2] at hsh hp2 e1 l1 HS2
            have hw1 := wrap_nat r2 (by omega)
            obtain ⟨M, hM⟩ : ∃ M, M = S ||| r2 := ⟨_, rfl⟩
            rw [← hM] at e1 l1 HS2
            have k0 : (0 : Int) ≤ (k : Int) := by omega
            have k64 : (k : Int) < 64 := by omega
            clear hr2 hM h2
            go_wp2_with fail
            go_roundw
            case rel => exact ⟨k + 1, M, rfl, by go_num, by omega, Hb5.out, l1, HS2.out⟩
            case measure => simp [intOf]; omega
          · rw [if_neg h2] at t1
            have HS2 := Lib.hid (set_out HSt.out fun h => h2 (HVq.out.1 h))
            clear h2
            go_wp2_with fail
            go_roundw
            case rel => exact ⟨k + 1, S, rfl, by go_num, by omega, Hb5.out, hS, HS2.out⟩
            case measure => simp [intOf]; omega
        · obtain rfl : n = k := by omega
          have Hbz := Lib.hid (Below.tr Hbx.out Hby.out)
          have HNx := Lib.hid (fun (h : cnt (topP l par v) n ≤ 1) => show ∀ v', v' < v + 1 → cnt (topP l par v') n ≤ 1 from fun v' hv' => by
            by_cases c : v' = v
            · rw [c]; exact h
            · exact Hin.out v' (by omega))
          by_cases hS0 : S = 0
          · have hq : ((S : Int) != 0) = false := by rw [hS0]; rfl
            have HN := Lib.hid (HNx.out ((cnt_1 n).2 fun i j hi hj h1 _ => by
              have := (HSt.out i).2 ⟨hi, h1.1⟩
              rw [hS0] at this; simp [mem'] at this))
            clear hS0
            go_wp2_with fail
            go_roundw
            case rel => exact ⟨v + 1, by go_num, by omega, Hbz.out, HN.out⟩
            case measure => simp [intOf]; omega
          · have hq : ((S : Int) != 0) = true := by rw [bne_iff_ne]; omega
            have hex : ∃ i, i < n ∧ Vq l i v := by
              apply Classical.byContradiction
              intro h
              apply hS0
              apply Nat.eq_of_testBit_eq
              intro i
              rw [Nat.zero_testBit]
              cases c : S.testBit i with
              | false => rfl
              | true => exact absurd ⟨i, (HSt.out i).1 c⟩ h
            obtain ⟨i, hi, hvi⟩ := hex
            have HTo := Lib.hid (top_one HT.out hi hvi)
            have HCg := Lib.hid (show cnt (joP par S) n = cnt (topP l par v) n from cnt_congr n fun i hi => by
              have hr := HT.out.1 i hi
              unfold joP topP
              rw [HSt.out i, HSt.out (pa par i).toNat]
              constructor
              · rintro ⟨⟨_, h1⟩, h2⟩; exact ⟨h1, fun h => h2 ⟨h.1, by omega, h.2⟩⟩
              · rintro ⟨h1, h2⟩; exact ⟨⟨hi, h1⟩, fun h => h2 ⟨h.1, h.2.2⟩⟩)
            have HJ := Lib.hid (show Calls Try.prog 95 #[.slice ua n uc, .int .i64 (S : Nat)] wy fun e w' => e = .returned (.bool (decide (cnt (topP l par v) n ≤ 1))) ∧ wy = w' from by
              have := joined_any par (by rw [Hl.out]; omega) (by rw [Hl.out]; exact HT.out.1) S (by omega) (.slice ua n uc) wy (Hu.out.keep (Below.tr HB.out Hbz.out))
              rw [Hl.out, HCg.out] at this
              rw [decide_eq_decide.2 HTo.out]; exact this)
            clear hi hvi hS0
            by_cases hc : cnt (topP l par v) n ≤ 1
            · have HN := Lib.hid (HNx.out hc)
              rw [decide_eq_true hc] at HJ
              clear hc
              go_wp2_with fail
              refine HJ.out.mono ?_
              rintro e w6 ⟨rfl, rfl⟩
              go_wp2_with fail
              go_roundw
              case rel => exact ⟨v + 1, by go_num, by omega, Hbz.out, HN.out⟩
              case measure => simp [intOf]; omega
            · have HF := Lib.hid (show B = false from by
                cases c : B with
                | false => rfl
                | true => exact absurd (HBi.out.1 c v hlv) hc)
              rw [decide_eq_false hc] at HJ
              clear hc
              go_wp2_with fail
              refine HJ.out.mono ?_
              rintro e w6 ⟨rfl, rfl⟩
              go_wp2_with fail
              go_ret
              exact ⟨by rw [HF.out]; rfl, Below.tr HB.out Hbz.out⟩
    · obtain rfl : v = 8 := by omega
      have HT2 := Lib.hid (HBi.out.2 Hin.out)
      go_wp2_with fail
      go_ret
      exact ⟨by rw [HT2.out]; rfl, Below.tr HB.out Hbx.out⟩
#print axioms joined_any
#print axioms through_any
set_option maxRecDepth 100000 in
set_option maxHeartbeats 8000000 in
theorem treeR_any (l : List HAt) (h5 : l.length ≤ 5) (h7 : ∀ i, i < l.length → ∀ t, t ∈ aA l i → t ≤ 7) (par : List Int) (h0 b0 u : Value) (w : World) (hb : Atoms w b0 l) (hu : Ints w u par) (B : Bool) (hB : B = true ↔ IsTree (Vq l) l.length par) :
    Calls Try.prog 45 #[.agg #[h0, b0], u] w fun e w' => e = .returned (.bool B) ∧ Below w.heap.size w w' := by
  have Hu := Lib.hid hu
  have Hb := Lib.hid hb
  obtain ⟨ba, bc, rfl⟩ := atoms_slice hb
  obtain ⟨a, b, off, cap, rfl, hle, hia, hc⟩ := Ints.get hu
  obtain ⟨n, hn2⟩ : ∃ x, x = l.length := ⟨_, rfl⟩
  obtain ⟨m, hm⟩ : ∃ x, x = par.length := ⟨_, rfl⟩
  have Hc := Lib.hid (show ∀ i, i < m → w.cell? ⟨b, off + i, none⟩ = some (.int .i64 (pa par i)) from fun i hi => by rw [hc i (by omega)]; unfold pa; rw [List.getD_eq_getElem?_getD, List.getElem?_eq_getElem]; rfl)
  rw [← hn2] at Hb h5 hB ⊢
  rw [← hm] at Hu hia hle ⊢
  have Hn := Lib.hid hn2
  have Hm := Lib.hid hm
  have H7 := Lib.hid h7
  have HNo := Lib.hid (fun (h : ¬ IsTree (Vq l) n par) => show B = false from by
    cases c : B with
    | false => rfl
    | true => exact absurd (hB.1 c) h)
  have HBi := Lib.hid hB
  have Hix := Lib.hid (run_ix (P := Try.prog) (t := 22) (a := a) (len := m) (cap := cap) (b := b) (off := off) (s := 1) Try.underlying22 (by intro w; kernel_rfl) hia)
  simp only [Nat.mul_one] at Hix
  obtain ⟨w1, hw1⟩ : ∃ x, x = w.alloc (.cells #[h0, .slice ba n bc] 25) := ⟨_, rfl⟩
  obtain ⟨bq, hbq⟩ : ∃ x, x = w.heap.size := ⟨_, rfl⟩
  have HW := Lib.hid (show Below w.heap.size w w1 from by rw [hw1]; exact below_alloc _ _)
  have HQ := Lib.hid (show Bx w1 bq h0 (.slice ba n bc) from by rw [hbq, hw1]; exact heap_alloc_new _ _)
  have Hw1 := Lib.hid hw1
  have Hbq := Lib.hid hbq
  clear hb hu hia hc hn2 hm hw1 hbq hB h7
  go_enter Try.func45, Try.ntmps45
  go_upto_region 1 with fail
  rw [← Hw1.out, ← Hbq.out]
  clear Hw1 Hbq
  have g0 := aCell HQ.out 0 rfl
  have g1 := aCell HQ.out 1 rfl
  by_cases hlen : m = n
  · subst hlen
    have hne : ((m : Int) != m) = false := by simp
    go_wp2_with fail
    clear hne
    go_loopw [18] (fun vi wr => ∃ i : Nat, vi = .int .i64 i ∧ i ≤ m ∧ wr = w1 ∧ ∀ j, j < i → (-1 ≤ pa par j ∧ pa par j < m) ∧ Climb par m j) (fun vi _ => m - (intOf vi).toNat)
    case atStart => exact ⟨0, rfl, Nat.zero_le _, rfl, fun j h => by omega⟩
    case round =>
      obtain ⟨i, rfl, hi, hwr, hin⟩ := hrel
      obtain rfl : w1 = wr := hwr.symm
      have Hin := Lib.hid hin
      clear hin
      by_cases hlt : i < m
      · have hci := Below.keep HW.out (Hc.out i hlt)
        have hixi := Hix.out i
        have HF := Lib.hid (fun (h : ¬ (-1 ≤ pa par i ∧ pa par i < m)) => HNo.out fun t => h (t.rng i hlt))
        have HNx := Lib.hid (fun (h1 : -1 ≤ pa par i ∧ pa par i < m) (h2 : Climb par m i) => show ∀ j, j < i + 1 → (-1 ≤ pa par j ∧ pa par j < m) ∧ Climb par m j from fun j hj => by
          by_cases c : j = i
          · rw [c]; exact ⟨h1, h2⟩
          · exact Hin.out j (by omega))
        obtain ⟨p, hp⟩ : ∃ p, p = pa par i := ⟨_, rfl⟩
        rw [← hp] at hci HF HNx
        clear hp
        by_cases h1 : p < -1
        · have HF := Lib.hid (HF.out (by omega))
          go_wp2_with fail
          go_ret
          exact ⟨by rw [HF.out]; rfl, HW.out⟩
        · by_cases h2 : p ≥ (m : Int)
          · have HF := Lib.hid (HF.out (by omega))
            go_wp2_with fail
            go_ret
            exact ⟨by rw [HF.out]; rfl, HW.out⟩
          · have HNx := Lib.hid (HNx.out (by omega))
            go_wp2_with fail
            clear hci
            go_loopw [8, 32] (fun x vi wr => ∃ (k : Nat) (A : Int), x = .int .i64 A ∧ vi = .int .i64 k ∧ k ≤ m ∧ wr = w1 ∧ -1 ≤ A ∧ A < m ∧ (Climb par m i ↔ A = -1 ∨ (0 ≤ A ∧ Climb par (m - k) A.toNat))) (fun _ vi _ => m - (intOf vi).toNat)
            case atStart => exact ⟨0, i, rfl, rfl, Nat.zero_le _, rfl, by omega, by omega, ⟨fun h => .inr ⟨by omega, h⟩, fun h => by
              rcases h with h | h
              · omega
              · exact h.2⟩⟩
            case round =>
              obtain ⟨k, A, rfl, rfl, hk, hwr, hA1, hA2, hcl⟩ := hrel
              obtain rfl : w1 = wr := hwr.symm
              have HCl := Lib.hid hcl
              clear hcl
              by_cases hlk : k < m
              · by_cases hA : 0 ≤ A
                · obtain ⟨j, rfl⟩ : ∃ j : Nat, A = j := ⟨A.toNat, by omega⟩
                  have hjm : j < m := by omega
                  have hcj := Below.keep HW.out (Hc.out j hjm)
                  have hixj := Hix.out j
                  have HF := Lib.hid (fun (h : ¬ (-1 ≤ pa par j ∧ pa par j < m)) => HNo.out fun t => h (t.rng j hjm))
                  have HSt := Lib.hid (show Climb par m i ↔ pa par j = -1 ∨ (0 ≤ pa par j ∧ Climb par (m - (k + 1)) (pa par j).toNat) from by
                    rw [HCl.out, Int.toNat_natCast, show m - k = (m - (k + 1)) + 1 by omega]
                    constructor
                    · rintro (h | ⟨_, h⟩)
                      · omega
                      · exact h
                    · exact fun h => .inr ⟨by omega, h⟩)
                  obtain ⟨q, hq⟩ : ∃ q, q = pa par j := ⟨_, rfl⟩
                  rw [← hq] at hcj HF HSt
                  clear hq
                  by_cases h3 : q < -1
                  · have HF := Lib.hid (HF.out (by omega))
                    go_wp2_with fail
                    go_ret
                    exact ⟨by rw [HF.out]; rfl, HW.out⟩
                  · by_cases h4 : q ≥ (m : Int)
                    · have HF := Lib.hid (HF.out (by omega))
                      go_wp2_with fail
                      go_ret
                      exact ⟨by rw [HF.out]; rfl, HW.out⟩
                    · go_wp2_with fail
                      go_roundw
                      case rel => exact ⟨k + 1, q, rfl, by go_num, by omega, by first | rfl | trivial, by omega, by omega, HSt.out⟩
                      case measure => simp [intOf]; omega
                · obtain rfl : A = -1 := by omega
                  go_wp2_with fail
                  go_roundw
                  case rel => exact ⟨k + 1, -1, rfl, by go_num, by omega, by first | rfl | trivial, by omega, by omega, ⟨fun _ => .inl rfl, fun _ => HCl.out.2 (.inl rfl)⟩⟩
                  case measure => simp [intOf]; omega
              · obtain rfl : m = k := by omega
                by_cases hA : A = -1
                · have HN := Lib.hid (HNx.out (HCl.out.2 (.inl hA)))
                  have hq : (A != -1) = false := by rw [hA]; rfl
                  clear hA HNx HF
                  go_wp2_with fail
                  go_roundw
                  case rel => exact ⟨i + 1, by go_num, by omega, by first | rfl | trivial, HN.out⟩
                  case measure => simp [intOf]; omega
                · have HF2 := Lib.hid (HNo.out fun t => by
                    rcases HCl.out.1 (t.up i hlt) with h | ⟨_, h⟩
                    · exact hA h
                    · rw [Nat.sub_self] at h; exact h.elim)
                  have hq : (A != -1) = true := by rw [bne_iff_ne]; exact hA
                  clear hA
                  go_wp2_with fail
                  go_ret
                  exact ⟨by rw [HF2.out]; rfl, HW.out⟩
      · obtain rfl : m = i := by omega
        have hsh := qshl_one m
        have hp : 2 ^ m ≤ 32 := Nat.pow_le_pow_right (n := 2) (by decide) (show m ≤ 5 by omega)
        have hp0 : 0 < 2 ^ m := Nat.two_pow_pos m
        have Hl := Lib.hid (show par.length = l.length from Hm.out.symm.trans Hn.out)
        have HJ := Lib.hid (show ∀ P, P = 2 ^ m → Calls Try.prog 95 #[.slice a m cap, .int .i64 ((P - 1 : Nat))] w1 fun e w' => e = .returned (.bool (decide (cnt (fun i => pa par i = -1) m = 1))) ∧ w1 = w' from fun P hP => by
          subst hP
          have := joined_any par (by rw [← Hm.out]; omega) (by rw [← Hm.out]; exact fun i hi => (Hin.out i hi).1) (2 ^ m - 1) (by omega) (.slice a m cap) w1 (Hu.out.keep HW.out)
          rw [← Hm.out] at this
          rw [show cnt (joP par (2 ^ m - 1)) m = cnt (fun i => pa par i = -1) m from cnt_congr m fun i hi => by
            have hr := (Hin.out i hi).1
            have fb : ∀ j, mem' (2 ^ m - 1) j ↔ j < m := fun j => by unfold mem'; rw [Nat.testBit_two_pow_sub_one]; simp
            unfold joP
            rw [fb, fb]
            constructor
            · rintro ⟨_, h⟩
              apply Classical.byContradiction
              intro h2
              exact h ⟨by omega, by omega⟩
            · intro h
              exact ⟨hi, fun h2 => by omega⟩] at this
          exact this)
        obtain ⟨P, hP⟩ : ∃ P, P = 2 ^ m := ⟨_, rfl⟩
        have HJ := Lib.hid (HJ.out P hP)
        rw [← hP] at hsh hp hp0
        have hw1 := wrap_nat P (by omega)
        have hw2 : IntKind.i64.wrap ((P : Int) - 1) = ((P - 1 : Nat) : Int) := by rw [show (P : Int) - 1 = ((P - 1 : Nat) : Int) by omega]; exact wrap_nat _ (by omega)
        have m0 : (0 : Int) ≤ (m : Int) := by omega
        have m64 : (m : Int) < 64 := by omega
        clear hP
        by_cases hc1 : cnt (fun i => pa par i = -1) m = 1
        · have HT := Lib.hid (show IsT par m from ⟨fun i hi => (Hin.out i hi).1, fun i hi => (Hin.out i hi).2, hc1⟩)
          rw [decide_eq_true hc1] at HJ
          have HTh := Lib.hid (through_any l (by rw [← Hn.out]; exact h5) H7.out par Hl.out (by rw [← Hn.out]; exact HT.out) h0 (.slice ba m bc) (.slice a m cap) w1 (Hb.out.keep HW.out) (Hu.out.keep HW.out) B (by
            rw [HBi.out, ← Hn.out, isTree_iff (Hm.out.symm)]
            exact ⟨fun h => h.2, fun h => ⟨HT.out, h⟩⟩))
          clear hc1
          go_wp2_with fail
          refine HJ.out.mono ?_
          rintro e w6 ⟨rfl, rfl⟩
          go_wp2_with fail
          refine HTh.out.mono ?_
          rintro e w7 ⟨rfl, hb⟩
          have Hw7 := Lib.hid (Below.tr HW.out hb)
          clear hb
          go_wp2_with fail
          go_ret
          exact ⟨rfl, Hw7.out⟩
        · have HF := Lib.hid (HNo.out fun t => hc1 (((isTree_iff Hm.out.symm).1 t).1.2.2))
          rw [decide_eq_false hc1] at HJ
          clear hc1
          go_wp2_with fail
          refine HJ.out.mono ?_
          rintro e w6 ⟨rfl, rfl⟩
          go_wp2_with fail
          go_ret
          exact ⟨by rw [HF.out]; rfl, HW.out⟩
  · have hne : ((m : Int) != n) = true := by rw [bne_iff_ne]; omega
    have HF := Lib.hid (HNo.out fun t => hlen (Hm.out.trans t.len))
    clear hlen
    go_wp2_with fail
    go_ret
    exact ⟨by rw [HF.out]; rfl, HW.out⟩
#print axioms treeR_any
end Go.Proofs.Ytfplmdieeabgpaa

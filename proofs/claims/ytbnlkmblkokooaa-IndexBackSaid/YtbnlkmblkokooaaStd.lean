/- The stable sort: symMerge. -/
import Derived.Test.YtbnlkmblkokooaaStc
import Derived.Deep.DeepCutAuto
import Derived.Deep.CutBlock
namespace Go.Proofs.Ytbnlkmblkokooaa
open Go.RowKit
open Go.Sort (PermIn SortedIn swp Ins SWO permIn_trans permIn_mono permIn_all permIn_refl swp_get swp_size swp_permIn)
theorem one_left {K : Int → Int} {a m b i : Nat} {d d' : Array Int} (hm : m = a + 1) (hi1 : m ≤ i) (hi2 : i ≤ b) (hr : Srt K m b d) (h1 : ∀ t, m ≤ t → t < i → rho K d[t]! ≤ rho K d[a]!) (h2 : ∀ t, i ≤ t → t < b → rho K d[a]! ≤ rho K d[t]!)
    (hd : ∀ t, a ≤ t → t < b → d'[t]! = rotF a 1 (i - m) (fun t => d[t]!) t) : Srt K a b d' := by
  intro x y g1 g2 g3
  have e1 : ∀ t, a ≤ t → t < i - 1 → d'[t]! = d[t + 1]! := fun t k1 k2 => by
    rw [hd t k1 (by omega)]; unfold rotF; rw [if_pos (by omega)]
  have e2 : d'[i - 1]! = d[a]! := by
    rw [hd (i - 1) (by omega) (by omega)]; unfold rotF; rw [if_neg (by omega), if_pos (by omega)]
    show d[i - 1 - (i - m)]! = d[a]!
    congr 1; omega
  have e3 : ∀ t, i ≤ t → t < b → d'[t]! = d[t]! := fun t k1 k2 => by
    rw [hd t (by omega) k2]; unfold rotF; rw [if_neg (by omega), if_neg (by omega)]
  rcases Nat.lt_trichotomy y (i - 1) with q | q | q
  · rw [e1 x g1 (by omega), e1 y (by omega) q]; exact hr _ _ (by omega) (by omega) (by omega)
  · subst q
    rw [e1 x g1 g2, e2]; exact h1 _ (by omega) (by omega)
  · rw [e3 y (by omega) g3]
    rcases Nat.lt_trichotomy x (i - 1) with p | p | p
    · rw [e1 x g1 p]
      by_cases e : x + 1 = y
      · rw [e]; exact Int.le_refl _
      · exact hr _ _ (by omega) (by omega) g3
    · subst p
      rw [e2]; exact h2 _ (by omega) g3
    · rw [e3 x (by omega) (by omega)]; exact hr _ _ (by omega) g2 g3
theorem one_right {K : Int → Int} {a m b i : Nat} {d d' : Array Int} (hm : b = m + 1) (hi1 : a ≤ i) (hi2 : i ≤ m) (hl : Srt K a m d) (h1 : ∀ t, a ≤ t → t < i → rho K d[t]! ≤ rho K d[m]!) (h2 : ∀ t, i ≤ t → t < m → rho K d[m]! ≤ rho K d[t]!)
    (hd : ∀ t, a ≤ t → t < b → d'[t]! = rotF i (m - i) 1 (fun t => d[t]!) t) : Srt K a b d' := by
  intro x y g1 g2 g3
  have e1 : ∀ t, a ≤ t → t < i → d'[t]! = d[t]! := fun t k1 k2 => by
    rw [hd t k1 (by omega)]; unfold rotF; rw [if_neg (by omega), if_neg (by omega)]
  have e2 : d'[i]! = d[m]! := by
    rw [hd i (by omega) (by omega)]; unfold rotF; rw [if_pos (by omega)]
    show d[i + (m - i)]! = d[m]!
    congr 1; omega
  have e3 : ∀ t, i < t → t < b → d'[t]! = d[t - 1]! := fun t k1 k2 => by
    rw [hd t (by omega) k2]; unfold rotF; rw [if_neg (by omega), if_pos (by omega)]
  rcases Nat.lt_trichotomy y i with q | q | q
  · rw [e1 x g1 (by omega), e1 y (by omega) q]; exact hl _ _ g1 g2 (by omega)
  · subst q
    rw [e1 x g1 g2, e2]; exact h1 _ g1 g2
  · rw [e3 y q g3]
    rcases Nat.lt_trichotomy x i with p | p | p
    · rw [e1 x g1 p]
      by_cases e : x = y - 1
      · rw [e]; exact Int.le_refl _
      · exact hl _ _ g1 (by omega) (by omega)
    · subst p
      rw [e2]; exact h2 _ (by omega) (by omega)
    · rw [e3 x p (by omega)]; exact hl _ _ (by omega) (by omega) (by omega)
theorem rot_none (lo i : Nat) (f : Nat → Int) : rotF lo i 0 f = f := by
  funext t
  unfold rotF
  repeat' split
  all_goals first | rfl | (congr 1; omega) | (exfalso; omega)
theorem rot_nil (lo j : Nat) (f : Nat → Int) : rotF lo 0 j f = f := by
  funext t
  unfold rotF
  repeat' split
  all_goals first | rfl | (congr 1; omega) | (exfalso; omega)
#print axioms one_left
#print axioms one_right
set_option maxHeartbeats 4000000 in
set_option maxRecDepth 100000 in
theorem sym_left
    (s : ByteArray) (g blk off cap a m b : Nat) (d : Array Int) (w : World) (hR : RowN w blk off d) (hg : g < w.heap.size) (hgb : g ≠ blk) (hcell : w.cell? ⟨g, 0, none⟩ = some (.string s)) (hb : b ≤ d.size) (hl : Srt (keyS s) a m d) (hr : Srt (keyS s) m b d) (hst : Stb (keyS s) a m b d) (hel : ∀ t, a ≤ t → t < b → 0 ≤ d[t]! ∧ d[t]! < (s.size : Int)) (hm : m = a + 1) (hmb : m < b) :
    Calls Try.prog 138 #[.slice (some ⟨blk, off, none⟩) d.size cap, .int .i64 a, .int .i64 m, .int .i64 b, .func (.func 83) #[] #[.pointer (some ⟨g, 0, none⟩)]] w (StPost (keyS s) w blk off a b d) := by
  obtain ⟨N, hN⟩ : ∃ N, N = d.size := ⟨_, rfl⟩
  have HR := Lib.hid hR
  have HN := Lib.hid hN
  have hN1 : N < 1000000 := by rw [hN]; exact hR.2.2
  have HC := Lib.hid (show ∀ (wr : World) (x y : Int), (∃ dk, Rn w blk off dk wr) → 0 ≤ x → x < s.size → 0 ≤ y → y < s.size → Calls Try.prog 83 #[.int .i64 x, .int .i64 y, .pointer (some ⟨g, 0, none⟩)] wr fun e w' => e = .returned (.int .i64 (keyS s x - keyS s y)) ∧ ∃ q, w' = wr.drewN q from fun wr x y ⟨dk, hw⟩ h1 h2 h3 h4 => cmp_any s g x y wr (by rw [hw.other hg hgb]; exact hcell) h1 h2 h3 h4)
  obtain ⟨G, hG⟩ : ∃ G : Nat → Int, ∀ t, G t = d[t]! := ⟨fun t => d[t]!, fun _ => rfl⟩
  have HG := Lib.hid hG
  have hcw : ∀ t, t < N → w.cell? ⟨blk, off + t, none⟩ = some (.int .i64 (G t)) := fun t ht => by rw [hG]; exact hR.cell (by omega)
  have Hcw := Lib.hid hcw
  unfold StPost
  rw [← hN] at hb
  rw [← hN]
  have Hl := Lib.hid hl
  have Hr := Lib.hid hr
  have Hst := Lib.hid hst
  have Hel := Lib.hid hel
  have hmz : IntKind.i64.wrap ((m : Int) - (a : Int)) = 1 := by rw [IntWalk.i64_in _ ⟨by omega, by omega⟩]; omega
  have hmz2 : (m : Int) - (a : Int) = 1 := by omega
  have ham : a < m := by omega
  have HM := Lib.hid hm
  clear hR hN hcell hG hcw hl hr hst hel hg hgb hm
  go_enter Try.func138, Try.ntmps138
  go_wp2_with fail
  go_loopw [10, 11] (fun vi vj wr => ∃ i j : Nat, vi = .int .i64 i ∧ vj = .int .i64 j ∧ m ≤ i ∧ i ≤ j ∧ j ≤ b ∧ (∀ t, m ≤ t → t < i → rho (keyS s) d[t]! ≤ rho (keyS s) d[a]!) ∧ (∀ t, j ≤ t → t < b → rho (keyS s) d[a]! ≤ rho (keyS s) d[t]!) ∧ ∃ q, wr = w.drewN q) (fun vi vj _ => (intOf vj).toNat - (intOf vi).toNat)
  case atStart => exact ⟨m, b, rfl, rfl, Nat.le_refl _, by omega, Nat.le_refl _, fun t h1 h2 => by omega, fun t h1 h2 => by omega, 0, rfl⟩
  case round =>
    obtain ⟨i, j, rfl, rfl, hmi, hij, hjb, hlo, hhi, q0, hwr⟩ := hrel
    have Hwr := Lib.hid hwr
    clear hwr
    have HLo := Lib.hid hlo
    have HHi := Lib.hid hhi
    clear hlo hhi
    by_cases hlt : i < j
    · obtain ⟨h, hh⟩ : ∃ h, h = (i + j) / 2 := ⟨_, rfl⟩
      have hih : i ≤ h := by omega
      have hhj : h < j := by omega
      have hws : IntKind.i64.wrap ((i : Int) + (j : Int)) = (i : Int) + (j : Int) := IntWalk.i64_in _ ⟨by omega, by omega⟩
      have hwu : IntKind.u64.wrap ((i : Int) + (j : Int)) = (i : Int) + (j : Int) := IntWalk.u64_in _ ⟨by omega, by omega⟩
      have hsh : ((i : Int) + (j : Int)) / 2 = (h : Int) := by omega
      have hwh : IntKind.i64.wrap (h : Int) = (h : Int) := IntWalk.i64_in _ ⟨by omega, by omega⟩
      have hwh2 : IntKind.u64.wrap (h : Int) = (h : Int) := IntWalk.u64_in _ ⟨by omega, by omega⟩
      clear hh
      have HCj := Lib.hid (fun q => HC.out (wr.drewN q) (G (h)) (G (a)) ⟨d, by rw [Hwr.out]; exact ((Rn.start HR.out).drewN q0).drewN q⟩ (by rw [HG.out]; exact (Hel.out _ (by omega) (by omega)).1) (by rw [HG.out]; exact (Hel.out _ (by omega) (by omega)).2) (by rw [HG.out]; exact (Hel.out _ (by omega) (by omega)).1) (by rw [HG.out]; exact (Hel.out _ (by omega) (by omega)).2))
      have HKey := Lib.hid (show keyS s (G (h)) - keyS s (G (a)) < 0 ↔ rho (keyS s) d[h]! < rho (keyS s) d[a]! from by
        rw [HG.out, HG.out]
        obtain ⟨k1, k2, k3, k4, k5⟩ := Hst.out (a) (h) (by omega) (by omega) (by omega) (by omega)
        rw [← key_iff (keyS s) k1 k2 k3 k4 k5]
        omega)
      obtain ⟨X, hX⟩ : ∃ X, X = keyS s (G (h)) - keyS s (G (a)) := ⟨_, rfl⟩
      rw [← hX] at HCj HKey
      have hc1 : wr.cell? ⟨blk, off + h, none⟩ = some (.int .i64 (G (h))) := by rw [Hwr.out]; exact Hcw.out (h) (by omega)
      have hc2 : wr.cell? ⟨blk, off + a, none⟩ = some (.int .i64 (G (a))) := by rw [Hwr.out]; exact Hcw.out (a) (by omega)
      have hxN : h < N := by omega
      have hyN : a < N := by omega
      clear hX
      by_cases hX0 : X < 0
      · have hk := HKey.out.1 hX0
        have HNx := Lib.hid (show ∀ t, m ≤ t → t < h + 1 → rho (keyS s) d[t]! ≤ rho (keyS s) d[a]! from fun t h1 h2 => by
          by_cases e : t = h
          · rw [e]; omega
          · have := Hr.out t h h1 (by omega) (by omega); omega)
        have hXd : decide (X < 0) = true := decide_eq_true hX0
        clear hk
        go_wp2_with fail
        go_quiet ((go_at_call 83; exact Calls.quiet_of (HCj.out _)))
        go_wp2_with fail
        go_roundw
        case rel => exact ⟨h + 1, j, by go_num, rfl, by omega, by omega, hjb, HNx.out, HHi.out, _, by rw [Hwr.out]; exact World.drewN_drewN _ _ _⟩
        case measure => simp [intOf] <;> omega
      · have hk : ¬ rho (keyS s) d[h]! < rho (keyS s) d[a]! := fun g => hX0 (HKey.out.2 g)
        have HNx := Lib.hid (show ∀ t, h ≤ t → t < b → rho (keyS s) d[a]! ≤ rho (keyS s) d[t]! from fun t h1 h2 => by
          by_cases e : t = h
          · rw [e]; omega
          · have := Hr.out h t (by omega) (by omega) h2; omega)
        have hXd : decide (X < 0) = false := decide_eq_false hX0
        clear hk
        go_wp2_with fail
        go_quiet ((go_at_call 83; exact Calls.quiet_of (HCj.out _)))
        go_wp2_with fail
        go_roundw
        case rel => exact ⟨i, h, rfl, rfl, hmi, hih, by omega, HLo.out, HNx.out, _, by rw [Hwr.out]; exact World.drewN_drewN _ _ _⟩
        case measure => simp [intOf] <;> omega
    · obtain rfl : i = j := by omega
      obtain ⟨e, he⟩ : ∃ e, e = i - 1 := ⟨_, rfl⟩
      have hie : e + 1 = i := by omega
      have hwe : IntKind.i64.wrap ((i : Int) - 1) = (e : Int) := by rw [IntWalk.i64_in _ ⟨by omega, by omega⟩]; omega
      have hze : (i : Int) - 1 = (e : Int) := by omega
      clear he
      have HW0 := Lib.hid (show Rn w blk off d wr from by rw [Hwr.out]; exact (Rn.start HR.out).drewN q0)
      obtain ⟨wq, hwq⟩ : ∃ wq : World, wq = wr := ⟨_, rfl⟩
      subst hwq
      go_wp2_with fail
      go_loopw [13] (fun vk wr => ∃ (k : Nat) (dk : Array Int), vk = .int .i64 k ∧ a ≤ k ∧ k ≤ e ∧ Rn w blk off dk wr ∧ PermIn a b d dk ∧ dk.size = N ∧ ∀ t, t < N → dk[t]! = rotF a 1 (k - a) (fun t => d[t]!) t) (fun vk _ => e - (intOf vk).toNat)
      case atStart => exact ⟨a, d, rfl, Nat.le_refl _, by omega, HW0.out, permIn_refl _ _ _, HN.out.symm, fun t ht => by rw [Nat.sub_self, rot_none]⟩
      case round =>
        obtain ⟨k, dk, rfl, hak, hke, hrw, hp, hsz, hin⟩ := hrel
        obtain ⟨G2, hG2⟩ : ∃ G : Nat → Int, ∀ t, G t = dk[t]! := ⟨fun t => dk[t]!, fun _ => rfl⟩
        have hrow := Rn.row HR.out hrw (by rw [hsz]; exact HN.out)
        have hcw : ∀ t, t < N → wr.cell? ⟨blk, off + t, none⟩ = some (.int .i64 (G2 t)) := fun t ht => by rw [hG2]; exact hrow.cell (by omega)
        have hfw : ∀ t, t < N → wr.frozen? ⟨blk, off + t, none⟩ = false := fun t ht => hrow.frozen (by omega)
        have HW := Lib.hid hrw
        have HG2 := Lib.hid hG2
        have HZ := Lib.hid hsz
        have HI := Lib.hid hin
        have HP := Lib.hid hp
        by_cases hlk : k < e
        · have hc1 := hcw k (by omega)
          have hc2 := hcw (k + 1) (by omega)
          have hf1 := hfw k (by omega)
          have hf2 := hfw (k + 1) (by omega)
          have hkN : k < N := by omega
          have hk1N : k + 1 < N := by omega
          have hwk : IntKind.i64.wrap ((k : Int) + 1) = ((k + 1 : Nat) : Int) := by rw [IntWalk.i64_in _ ⟨by omega, by omega⟩]; omega
          clear hrw hG2 hrow hsz hin hp hcw hfw
          go_wp2_with fail
          go_region
          all_goals go_wp2_with fail
          go_roundw
          case rel =>
            refine ⟨k + 1, swp dk k (k + 1), by go_num, by omega, by omega, ?_, permIn_trans _ _ _ _ _ HP.out (swp_permIn _ _ _ _ _ (by omega) (by omega) (by omega) (by omega) (by rw [HZ.out]; exact hb)), by rw [swp_size]; exact HZ.out, fun t ht => ?_⟩
            · have h := (Rn.swap HR.out HW.out (i := k) (j := k + 1) (by rw [HZ.out]; omega) (by rw [HZ.out]; omega)).drew
              rw [← HG2.out, ← HG2.out] at h
              exact h
            · rw [swp_get dk (by rw [HZ.out]; omega) (by rw [HZ.out]; omega), HI.out k (by omega), HI.out (k + 1) (by omega), HI.out t ht]
              unfold rotF
              repeat' split
              all_goals first | rfl | (congr 1; omega) | (exfalso; omega)
          case measure => simp [intOf] <;> omega
        · obtain rfl : k = e := by omega
          have HFin := Lib.hid (show Srt (keyS s) a b dk from one_left HM.out hmi (by omega) Hr.out HLo.out HHi.out (fun t h1 h2 => by rw [HI.out t (by omega), show i - m = k - a by have := HM.out; omega]))
          clear hrw hG2 hrow hsz hin hp hcw hfw
          go_wp2_with fail
          first | go_end0 | ((try simp only [Exit.inBlock, Exit.then]); refine bodyPost_ret (results_none rfl _ _ _) rfl ?_)
          exact ⟨rfl, dk, HW.out, HP.out, HFin.out⟩
#print axioms sym_left
set_option maxHeartbeats 4000000 in
set_option maxRecDepth 100000 in
theorem sym_right
    (s : ByteArray) (g blk off cap a m b : Nat) (d : Array Int) (w : World) (hR : RowN w blk off d) (hg : g < w.heap.size) (hgb : g ≠ blk) (hcell : w.cell? ⟨g, 0, none⟩ = some (.string s)) (hb : b ≤ d.size) (hl : Srt (keyS s) a m d) (hr : Srt (keyS s) m b d) (hst : Stb (keyS s) a m b d) (hel : ∀ t, a ≤ t → t < b → 0 ≤ d[t]! ∧ d[t]! < (s.size : Int)) (hm : b = m + 1) (ham : a + 1 < m) :
    Calls Try.prog 138 #[.slice (some ⟨blk, off, none⟩) d.size cap, .int .i64 a, .int .i64 m, .int .i64 b, .func (.func 83) #[] #[.pointer (some ⟨g, 0, none⟩)]] w (StPost (keyS s) w blk off a b d) := by
  obtain ⟨N, hN⟩ : ∃ N, N = d.size := ⟨_, rfl⟩
  have HR := Lib.hid hR
  have HN := Lib.hid hN
  have hN1 : N < 1000000 := by rw [hN]; exact hR.2.2
  have HC := Lib.hid (show ∀ (wr : World) (x y : Int), (∃ dk, Rn w blk off dk wr) → 0 ≤ x → x < s.size → 0 ≤ y → y < s.size → Calls Try.prog 83 #[.int .i64 x, .int .i64 y, .pointer (some ⟨g, 0, none⟩)] wr fun e w' => e = .returned (.int .i64 (keyS s x - keyS s y)) ∧ ∃ q, w' = wr.drewN q from fun wr x y ⟨dk, hw⟩ h1 h2 h3 h4 => cmp_any s g x y wr (by rw [hw.other hg hgb]; exact hcell) h1 h2 h3 h4)
  obtain ⟨G, hG⟩ : ∃ G : Nat → Int, ∀ t, G t = d[t]! := ⟨fun t => d[t]!, fun _ => rfl⟩
  have HG := Lib.hid hG
  have hcw : ∀ t, t < N → w.cell? ⟨blk, off + t, none⟩ = some (.int .i64 (G t)) := fun t ht => by rw [hG]; exact hR.cell (by omega)
  have Hcw := Lib.hid hcw
  unfold StPost
  rw [← hN] at hb
  rw [← hN]
  have Hl := Lib.hid hl
  have Hr := Lib.hid hr
  have Hst := Lib.hid hst
  have Hel := Lib.hid hel
  obtain ⟨p, hp0⟩ : ∃ p, p = m - a := ⟨_, rfl⟩
  have hmz : IntKind.i64.wrap ((m : Int) - (a : Int)) = (p : Int) := by rw [IntWalk.i64_in _ ⟨by omega, by omega⟩]; omega
  have hmz2 : (m : Int) - (a : Int) = (p : Int) := by omega
  have hp1 : ((p : Int) == 1) = false := by simp; omega
  have hbz : IntKind.i64.wrap ((b : Int) - (m : Int)) = 1 := by rw [IntWalk.i64_in _ ⟨by omega, by omega⟩]; omega
  have hbz2 : (b : Int) - (m : Int) = 1 := by omega
  have HM := Lib.hid hm
  have hmb : m < b := by omega
  have hp2 : p ≠ 1 := by omega
  clear hR hN hcell hG hcw hl hr hst hel hg hgb hm hp0
  go_enter Try.func138, Try.ntmps138
  go_wp2_with fail
  go_loopw [14, 15] (fun vi vj wr => ∃ i j : Nat, vi = .int .i64 i ∧ vj = .int .i64 j ∧ a ≤ i ∧ i ≤ j ∧ j ≤ m ∧ (∀ t, a ≤ t → t < i → rho (keyS s) d[t]! ≤ rho (keyS s) d[m]!) ∧ (∀ t, j ≤ t → t < m → rho (keyS s) d[m]! ≤ rho (keyS s) d[t]!) ∧ ∃ q, wr = w.drewN q) (fun vi vj _ => (intOf vj).toNat - (intOf vi).toNat)
  case atStart => exact ⟨a, m, rfl, rfl, Nat.le_refl _, by omega, Nat.le_refl _, fun t h1 h2 => by omega, fun t h1 h2 => by omega, 0, rfl⟩
  case round =>
    obtain ⟨i, j, rfl, rfl, hmi, hij, hjb, hlo, hhi, q0, hwr⟩ := hrel
    have Hwr := Lib.hid hwr
    clear hwr
    have HLo := Lib.hid hlo
    have HHi := Lib.hid hhi
    clear hlo hhi
    by_cases hlt : i < j
    · obtain ⟨h, hh⟩ : ∃ h, h = (i + j) / 2 := ⟨_, rfl⟩
      have hih : i ≤ h := by omega
      have hhj : h < j := by omega
      have hws : IntKind.i64.wrap ((i : Int) + (j : Int)) = (i : Int) + (j : Int) := IntWalk.i64_in _ ⟨by omega, by omega⟩
      have hwu : IntKind.u64.wrap ((i : Int) + (j : Int)) = (i : Int) + (j : Int) := IntWalk.u64_in _ ⟨by omega, by omega⟩
      have hsh : ((i : Int) + (j : Int)) / 2 = (h : Int) := by omega
      have hwh : IntKind.i64.wrap (h : Int) = (h : Int) := IntWalk.i64_in _ ⟨by omega, by omega⟩
      have hwh2 : IntKind.u64.wrap (h : Int) = (h : Int) := IntWalk.u64_in _ ⟨by omega, by omega⟩
      clear hh
      have HCj := Lib.hid (fun q => HC.out (wr.drewN q) (G (m)) (G (h)) ⟨d, by rw [Hwr.out]; exact ((Rn.start HR.out).drewN q0).drewN q⟩ (by rw [HG.out]; exact (Hel.out _ (by omega) (by omega)).1) (by rw [HG.out]; exact (Hel.out _ (by omega) (by omega)).2) (by rw [HG.out]; exact (Hel.out _ (by omega) (by omega)).1) (by rw [HG.out]; exact (Hel.out _ (by omega) (by omega)).2))
      have HKey := Lib.hid (show keyS s (G (m)) - keyS s (G (h)) < 0 ↔ rho (keyS s) d[m]! < rho (keyS s) d[h]! from by
        rw [HG.out, HG.out]
        obtain ⟨k1, k2, k3, k4, k5⟩ := Hst.out (h) (m) (by omega) (by omega) (by omega) (by omega)
        rw [← key_iff (keyS s) k1 k2 k3 k4 k5]
        omega)
      obtain ⟨X, hX⟩ : ∃ X, X = keyS s (G (m)) - keyS s (G (h)) := ⟨_, rfl⟩
      rw [← hX] at HCj HKey
      have hc1 : wr.cell? ⟨blk, off + m, none⟩ = some (.int .i64 (G (m))) := by rw [Hwr.out]; exact Hcw.out (m) (by omega)
      have hc2 : wr.cell? ⟨blk, off + h, none⟩ = some (.int .i64 (G (h))) := by rw [Hwr.out]; exact Hcw.out (h) (by omega)
      have hxN : m < N := by omega
      have hyN : h < N := by omega
      clear hX
      by_cases hX0 : X < 0
      · have hk := HKey.out.1 hX0
        have HNx := Lib.hid (show ∀ t, h ≤ t → t < m → rho (keyS s) d[m]! ≤ rho (keyS s) d[t]! from fun t h1 h2 => by
          by_cases e : t = h
          · rw [e]; omega
          · have := Hl.out h t (by omega) (by omega) (by omega); omega)
        have hXd : decide (X < 0) = true := decide_eq_true hX0
        clear hk
        go_wp2_with fail
        go_quiet ((go_at_call 83; exact Calls.quiet_of (HCj.out _)))
        go_wp2_with fail
        go_roundw
        case rel => exact ⟨i, h, rfl, rfl, hmi, hih, by omega, HLo.out, HNx.out, _, by rw [Hwr.out]; exact World.drewN_drewN _ _ _⟩
        case measure => simp [intOf] <;> omega
      · have hk : ¬ rho (keyS s) d[m]! < rho (keyS s) d[h]! := fun g => hX0 (HKey.out.2 g)
        have HNx := Lib.hid (show ∀ t, a ≤ t → t < h + 1 → rho (keyS s) d[t]! ≤ rho (keyS s) d[m]! from fun t h1 h2 => by
          by_cases e : t = h
          · rw [e]; omega
          · have := Hl.out t h h1 (by omega) (by omega); omega)
        have hXd : decide (X < 0) = false := decide_eq_false hX0
        clear hk
        go_wp2_with fail
        go_quiet ((go_at_call 83; exact Calls.quiet_of (HCj.out _)))
        go_wp2_with fail
        go_roundw
        case rel => exact ⟨h + 1, j, by go_num, rfl, by omega, by omega, hjb, HNx.out, HHi.out, _, by rw [Hwr.out]; exact World.drewN_drewN _ _ _⟩
        case measure => simp [intOf] <;> omega
    · obtain rfl : i = j := by omega
      have HW0 := Lib.hid (show Rn w blk off d wr from by rw [Hwr.out]; exact (Rn.start HR.out).drewN q0)
      obtain ⟨wq, hwq⟩ : ∃ wq : World, wq = wr := ⟨_, rfl⟩
      subst hwq
      go_wp2_with fail
      go_loopw [17] (fun vk wr => ∃ (k : Nat) (dk : Array Int), vk = .int .i64 k ∧ i ≤ k ∧ k ≤ m ∧ Rn w blk off dk wr ∧ PermIn a b d dk ∧ dk.size = N ∧ ∀ t, t < N → dk[t]! = rotF k (m - k) 1 (fun t => d[t]!) t) (fun vk _ => (intOf vk).toNat)
      case atStart => exact ⟨m, d, rfl, hjb, Nat.le_refl _, HW0.out, permIn_refl _ _ _, HN.out.symm, fun t ht => by rw [Nat.sub_self, rot_nil]⟩
      case round =>
        obtain ⟨k, dk, rfl, hak, hke, hrw, hp, hsz, hin⟩ := hrel
        obtain ⟨G2, hG2⟩ : ∃ G : Nat → Int, ∀ t, G t = dk[t]! := ⟨fun t => dk[t]!, fun _ => rfl⟩
        have hrow := Rn.row HR.out hrw (by rw [hsz]; exact HN.out)
        have hcw : ∀ t, t < N → wr.cell? ⟨blk, off + t, none⟩ = some (.int .i64 (G2 t)) := fun t ht => by rw [hG2]; exact hrow.cell (by omega)
        have hfw : ∀ t, t < N → wr.frozen? ⟨blk, off + t, none⟩ = false := fun t ht => hrow.frozen (by omega)
        have HW := Lib.hid hrw
        have HG2 := Lib.hid hG2
        have HZ := Lib.hid hsz
        have HI := Lib.hid hin
        have HP := Lib.hid hp
        by_cases hlk : i < k
        · obtain ⟨x, rfl⟩ : ∃ x, k = x + 1 := ⟨k - 1, by omega⟩
          have hc1 := hcw (x + 1) (by omega)
          have hc2 := hcw x (by omega)
          have hf1 := hfw (x + 1) (by omega)
          have hf2 := hfw x (by omega)
          have hkN : x < N := by omega
          have hk1N : x + 1 < N := by omega
          have hwk : IntKind.i64.wrap (((x + 1 : Nat) : Int) - 1) = (x : Int) := by rw [IntWalk.i64_in _ ⟨by omega, by omega⟩]; omega
          have hzk : ((x + 1 : Nat) : Int) - 1 = (x : Int) := by omega
          clear hrw hG2 hrow hsz hin hp hcw hfw
          go_wp2_with fail
          go_region
          all_goals go_wp2_with fail
          go_roundw
          case rel =>
            refine ⟨x, swp dk (x + 1) x, by go_num, by omega, by omega, ?_, permIn_trans _ _ _ _ _ HP.out (swp_permIn _ _ _ _ _ (by omega) (by omega) (by omega) (by omega) (by rw [HZ.out]; exact hb)), by rw [swp_size]; exact HZ.out, fun t ht => ?_⟩
            · have h := (Rn.swap HR.out HW.out (i := x + 1) (j := x) (by rw [HZ.out]; omega) (by rw [HZ.out]; omega)).drew
              rw [← HG2.out, ← HG2.out] at h
              exact h
            · rw [swp_get dk (by rw [HZ.out]; omega) (by rw [HZ.out]; omega), HI.out x (by omega), HI.out (x + 1) (by omega), HI.out t ht]
              unfold rotF
              repeat' split
              all_goals first | rfl | (congr 1; omega) | (exfalso; omega)
          case measure => simp [intOf] <;> omega
        · obtain rfl : k = i := by omega
          have HFin := Lib.hid (show Srt (keyS s) a b dk from one_right HM.out hmi hjb Hl.out HLo.out HHi.out (fun t h1 h2 => HI.out t (by omega)))
          clear hrw hG2 hrow hsz hin hp hcw hfw
          go_wp2_with fail
          first | go_end0 | ((try simp only [Exit.inBlock, Exit.then]); refine bodyPost_ret (results_none rfl _ _ _) rfl ?_)
          exact ⟨rfl, dk, HW.out, HP.out, HFin.out⟩
#print axioms sym_right
end Go.Proofs.Ytbnlkmblkokooaa

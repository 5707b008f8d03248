/- The stable sort: symMerge whole, the stable sort. -/
import Derived.Test.YtbnlkmblkokooaaStd
namespace Go.Proofs.Ytbnlkmblkokooaa
open Go.RowKit
open Go.Sort (PermIn SortedIn swp Ins SWO permIn_trans permIn_mono permIn_all permIn_refl swp_get swp_size swp_permIn)
/-- the binary search of the middle case -/
structure Fnd (K : Int → Int) (S0 R0 p st r : Nat) (d : Array Int) : Prop where
  h1 : S0 ≤ st
  h2 : st ≤ r
  h3 : r ≤ R0
  no : ∀ c, S0 ≤ c → c < st → rho K d[c]! ≤ rho K d[p - c]!
  yes : ∀ c, r ≤ c → c < R0 → rho K d[p - c]! < rho K d[c]!
theorem fnd_cut {K : Int → Int} {a m b mid S0 R0 p st : Nat} {d : Array Int} (h : Fnd K S0 R0 p st st d) (hl : Srt K a m d) (hr : Srt K m b d) (ham : a + 1 < m) (hmb : m + 1 < b) (hmid : mid = (a + b) / 2)
    (hp : p + 1 = mid + m) (hS : (mid < m ∧ S0 + b = mid + m ∧ R0 = mid) ∨ (m ≤ mid ∧ S0 = a ∧ R0 = m)) : Cut K a m b mid st (mid + m - st) d := by
  obtain ⟨h1, h2, h3, no, yes⟩ := h
  have hst : st ≤ mid ∧ st ≤ m := by rcases hS with ⟨_, _, _⟩ | ⟨_, _, _⟩ <;> omega
  have has : a ≤ st := by rcases hS with ⟨_, _, _⟩ | ⟨_, _, _⟩ <;> omega
  have hsb : mid + m - st ≤ b := by rcases hS with ⟨_, _, _⟩ | ⟨_, _, _⟩ <;> omega
  refine ⟨has, hst.2, by omega, hsb, by omega, by omega, by omega, fun i j g1 g2 g3 g4 => ?_, fun i j g1 g2 g3 g4 => ?_⟩
  · have hlt : S0 < st := by rcases hS with ⟨_, _, _⟩ | ⟨_, _, _⟩ <;> omega
    have e := no (st - 1) (by omega) (by omega)
    have k1 : rho K d[i]! ≤ rho K d[st - 1]! := by
      by_cases q : i = st - 1
      · rw [q]; exact Int.le_refl _
      · exact hl _ _ g1 (by omega) (by omega)
    have k2 : rho K d[p - (st - 1)]! ≤ rho K d[j]! := by
      by_cases q : p - (st - 1) = j
      · rw [q]; exact Int.le_refl _
      · exact hr _ _ (by omega) (by omega) g4
    omega
  · have hlt : st < R0 := by rcases hS with ⟨_, _, _⟩ | ⟨_, _, _⟩ <;> omega
    have e := yes st (Nat.le_refl _) hlt
    have k1 : rho K d[st]! ≤ rho K d[i]! := by
      by_cases q : st = i
      · rw [q]; exact Int.le_refl _
      · exact hl _ _ has (by omega) g2
    have k2 : rho K d[j]! ≤ rho K d[p - st]! := by
      by_cases q : j = p - st
      · rw [q]; exact Int.le_refl _
      · exact hr _ _ g3 (by omega) (by omega)
    omega
/-- the search goes on -/
theorem fnd_no {K : Int → Int} {a m b S0 R0 p st r c : Nat} {d : Array Int} (h : Fnd K S0 R0 p st r d) (hl : Srt K a m d) (hr : Srt K m b d) (h0 : a ≤ S0) (hR : R0 ≤ m) (hc1 : st ≤ c) (hc2 : c < r) (hpm : m + R0 ≤ p + 1) (hpb : p < b + S0) (hk : ¬ rho K d[p - c]! < rho K d[c]!) : Fnd K S0 R0 p (c + 1) r d := by
  obtain ⟨h1, h2, h3, no, yes⟩ := h
  refine ⟨by omega, by omega, h3, fun x g1 g2 => ?_, yes⟩
  have k1 : rho K d[x]! ≤ rho K d[c]! := by
    by_cases q : x = c
    · rw [q]; exact Int.le_refl _
    · exact hl _ _ (by omega) (by omega) (by omega)
  have k2 : rho K d[p - c]! ≤ rho K d[p - x]! := by
    by_cases q : x = c
    · rw [q]; exact Int.le_refl _
    · exact hr _ _ (by omega) (by omega) (by omega)
  omega
theorem fnd_yes {K : Int → Int} {a m b S0 R0 p st r c : Nat} {d : Array Int} (h : Fnd K S0 R0 p st r d) (hl : Srt K a m d) (hr : Srt K m b d) (h0 : a ≤ S0) (hR : R0 ≤ m) (hc1 : st ≤ c) (hc2 : c < r) (hpm : m + R0 ≤ p + 1) (hpb : p < b + S0) (hk : rho K d[p - c]! < rho K d[c]!) : Fnd K S0 R0 p st c d := by
  obtain ⟨h1, h2, h3, no, yes⟩ := h
  refine ⟨h1, hc1, by omega, no, fun x g1 g2 => ?_⟩
  have k1 : rho K d[c]! ≤ rho K d[x]! := by
    by_cases q : x = c
    · rw [q]; exact Int.le_refl _
    · exact hl _ _ (by omega) (by omega) (by omega)
  have k2 : rho K d[p - x]! ≤ rho K d[p - c]! := by
    by_cases q : x = c
    · rw [q]; exact Int.le_refl _
    · exact hr _ _ (by omega) (by omega) (by omega)
  omega
#print axioms fnd_cut
/-- symMerge on a range -/
def SymOk (k : Nat) : Prop := ∀ (s : ByteArray) (g blk off cap a m b : Nat) (d : Array Int) (w : World) (_ : RowN w blk off d) (_ : g < w.heap.size) (_ : g ≠ blk) (_ : w.cell? ⟨g, 0, none⟩ = some (.string s)) (_ : b ≤ d.size) (_ : Srt (keyS s) a m d) (_ : Srt (keyS s) m b d) (_ : Stb (keyS s) a m b d) (_ : ∀ t, a ≤ t → t < b → 0 ≤ d[t]! ∧ d[t]! < (s.size : Int)), a < m → m < b → b - a < k →
    Calls Try.prog 138 #[.slice (some ⟨blk, off, none⟩) d.size cap, .int .i64 a, .int .i64 m, .int .i64 b, .func (.func 83) #[] #[.pointer (some ⟨g, 0, none⟩)]] w (StPost (keyS s) w blk off a b d)
set_option maxHeartbeats 8000000 in
set_option maxRecDepth 100000 in
theorem sym_mid (k : Nat) (IH : SymOk k)
    (s : ByteArray) (g blk off cap a m b : Nat) (d : Array Int) (w : World) (hR : RowN w blk off d) (hg : g < w.heap.size) (hgb : g ≠ blk) (hcell : w.cell? ⟨g, 0, none⟩ = some (.string s)) (hb : b ≤ d.size) (hl : Srt (keyS s) a m d) (hr : Srt (keyS s) m b d) (hst : Stb (keyS s) a m b d) (hel : ∀ t, a ≤ t → t < b → 0 ≤ d[t]! ∧ d[t]! < (s.size : Int)) (ham : a + 1 < m) (hmb : m + 1 < b) (hk : b - a ≤ k) :
    Calls Try.prog 138 #[.slice (some ⟨blk, off, none⟩) d.size cap, .int .i64 a, .int .i64 m, .int .i64 b, .func (.func 83) #[] #[.pointer (some ⟨g, 0, none⟩)]] w (StPost (keyS s) w blk off a b d) := by
  obtain ⟨N, hN⟩ : ∃ N, N = d.size := ⟨_, rfl⟩
  have HR := Lib.hid hR
  have HN := Lib.hid hN
  have hN1 : N < 1000000 := by rw [hN]; exact hR.2.2
  have HC := Lib.hid (show ∀ (wr : World) (x y : Int), (∃ dk, Rn w blk off dk wr) → 0 ≤ x → x < s.size → 0 ≤ y → y < s.size → Calls Try.prog 83 #[.int .i64 x, .int .i64 y, .pointer (some ⟨g, 0, none⟩)] wr fun e w' => e = .returned (.int .i64 (keyS s x - keyS s y)) ∧ ∃ q, w' = wr.drewN q from fun wr x y ⟨dk, hw⟩ h1 h2 h3 h4 => cmp_any s g x y wr (by rw [hw.other hg hgb]; exact hcell) h1 h2 h3 h4)
  obtain ⟨G, hG⟩ : ∃ G : Nat → Int, ∀ t, G t = d[t]! := ⟨fun t => d[t]!, fun _ => rfl⟩
  have HG := Lib.hid hG
  have hcw : ∀ t, t < N → w.cell? ⟨blk, off + t, none⟩ = some (.int .i64 (G t)) := fun t ht => by rw [hG]; exact hR.cell (by omega)
  have Hcw := Lib.hid hcw
  unfold StPost
  rw [← hN] at hb
  rw [← hN]
  have Hl := Lib.hid hl
  have Hr := Lib.hid hr
  have Hst := Lib.hid hst
  have Hel := Lib.hid hel
  obtain ⟨mid, hmid⟩ : ∃ mid, mid = (a + b) / 2 := ⟨_, rfl⟩
  obtain ⟨p1, hp1⟩ : ∃ p, p = m - a := ⟨_, rfl⟩
  obtain ⟨p2, hp2⟩ : ∃ p, p = b - m := ⟨_, rfl⟩
  obtain ⟨n, hn⟩ : ∃ n, n = mid + m := ⟨_, rfl⟩
  obtain ⟨p, hp⟩ : ∃ p, p = n - 1 := ⟨_, rfl⟩
  obtain ⟨S0, hS0⟩ : ∃ S0, S0 = if mid < m then mid + m - b else a := ⟨_, rfl⟩
  obtain ⟨R0, hR0⟩ : ∃ R0, R0 = if mid < m then mid else m := ⟨_, rfl⟩
  have hS : (mid < m ∧ S0 + b = mid + m ∧ R0 = mid) ∨ (m ≤ mid ∧ S0 = a ∧ R0 = m) := by
    by_cases q : mid < m
    · rw [if_pos q] at hS0 hR0; left; omega
    · rw [if_neg q] at hS0 hR0; right; omega
  have hmz : IntKind.i64.wrap ((m : Int) - (a : Int)) = (p1 : Int) := by rw [IntWalk.i64_in _ ⟨by omega, by omega⟩]; omega
  have hbz : IntKind.i64.wrap ((b : Int) - (m : Int)) = (p2 : Int) := by rw [IntWalk.i64_in _ ⟨by omega, by omega⟩]; omega
  have hmz' : (m : Int) - (a : Int) = (p1 : Int) := by omega
  have hbz' : (b : Int) - (m : Int) = (p2 : Int) := by omega
  have hq1 : ((p1 : Int) == 1) = false := by simp; omega
  have hq2 : ((p2 : Int) == 1) = false := by simp; omega
  have hq1' : p1 ≠ 1 := by omega
  have hq2' : p2 ≠ 1 := by omega
  have hws : IntKind.i64.wrap ((a : Int) + (b : Int)) = (a : Int) + (b : Int) := IntWalk.i64_in _ ⟨by omega, by omega⟩
  have hwu : IntKind.u64.wrap ((a : Int) + (b : Int)) = (a : Int) + (b : Int) := IntWalk.u64_in _ ⟨by omega, by omega⟩
  have hsh : ((a : Int) + (b : Int)) / 2 = (mid : Int) := by omega
  have hwh : IntKind.i64.wrap (mid : Int) = (mid : Int) := IntWalk.i64_in _ ⟨by omega, by omega⟩
  have hwh2 : IntKind.u64.wrap (mid : Int) = (mid : Int) := IntWalk.u64_in _ ⟨by omega, by omega⟩
  have hwn : IntKind.i64.wrap ((mid : Int) + (m : Int)) = (n : Int) := by rw [IntWalk.i64_in _ ⟨by omega, by omega⟩]; omega
  have hzn : (mid : Int) + (m : Int) = (n : Int) := by omega
  have hwp : IntKind.i64.wrap ((n : Int) - 1) = (p : Int) := by rw [IntWalk.i64_in _ ⟨by omega, by omega⟩]; omega
  have hzp : (n : Int) - 1 = (p : Int) := by omega
  have hama : a < mid := by omega
  have hmidb : mid < b := by omega
  have hmidN : mid ≤ N := by omega
  have hnn : n = mid + m := hn
  have hpp : p + 1 = mid + m := by omega
  have hS0a : a ≤ S0 := by rcases hS with ⟨_, _, _⟩ | ⟨_, _, _⟩ <;> omega
  have hR0m : R0 ≤ m := by rcases hS with ⟨_, _, _⟩ | ⟨_, _, _⟩ <;> omega
  have hSR : S0 ≤ R0 := by rcases hS with ⟨_, _, _⟩ | ⟨_, _, _⟩ <;> omega
  have hpm : m + R0 ≤ p + 1 := by rcases hS with ⟨_, _, _⟩ | ⟨_, _, _⟩ <;> omega
  have hpb : p < b + S0 := by rcases hS with ⟨_, _, _⟩ | ⟨_, _, _⟩ <;> omega
  have HS := Lib.hid hS
  have HMid := Lib.hid hmid
  have HIH := Lib.hid IH
  have Hcell := Lib.hid hcell
  have Hn := Lib.hid hnn
  have Hhgb := Lib.hid hgb
  have Hhg := Lib.hid hg
  clear hR hN hcell hG hcw hl hr hst hel hg hgb hmid hp1 hp2 hn hnn hp hS0 hR0 hS IH
  go_enter Try.func138, Try.ntmps138
  go_upto_if 140 with fail
  go_cut [20, 21] (fun v20 v21 wx => v20 = .int .i64 (S0 : Nat) ∧ v21 = .int .i64 (R0 : Nat) ∧ wx = w)
  case first =>
    rcases HS.out with ⟨q1, q2, q3⟩ | ⟨q1, q2, q3⟩
    · have hz : (n : Int) - (b : Int) = (S0 : Int) := by have := Hn.out; omega
      have hwz : IntKind.i64.wrap ((n : Int) - (b : Int)) = (S0 : Int) := by rw [IntWalk.i64_in _ ⟨by have := Hn.out; omega, by have := Hn.out; omega⟩]; exact hz
      have qz : (mid : Int) < (m : Int) := by omega
      go_wp2_with fail
      go_meet
      exact ⟨rfl, by rw [q3], rfl⟩
    · have qz : ¬ ((mid : Int) < (m : Int)) := by omega
      go_wp2_with fail
      go_meet
      exact ⟨by rw [q2], by rw [q3], rfl⟩
  case rest =>
    obtain ⟨rfl, rfl, hwx⟩ := hcut
    subst hwx
    obtain ⟨w0, hw0⟩ : ∃ w0 : World, w0 = wc := ⟨_, rfl⟩
    subst hw0
    have Hmz := Lib.hid hmz
    clear hmz hbz hmz' hbz' hq1 hq2 hq1' hq2' hws hwu hsh hwh hwh2 hwn hzn
    go_wp2_with fail
    go_loopw [20, 21] (fun vi vj wr => ∃ i j : Nat, vi = .int .i64 i ∧ vj = .int .i64 j ∧ Fnd (keyS s) S0 R0 p i j d ∧ ∃ q, wr = w0.drewN q) (fun vi vj _ => (intOf vj).toNat - (intOf vi).toNat)
    case atStart => exact ⟨S0, R0, rfl, rfl, ⟨Nat.le_refl _, hSR, Nat.le_refl _, fun c h1 h2 => by omega, fun c h1 h2 => by omega⟩, 0, rfl⟩
    case round =>
      obtain ⟨i, j, rfl, rfl, hf, q0, hwr⟩ := hrel
      have Hwr := Lib.hid hwr
      clear hwr
      have h1 := hf.h1
      have h2 := hf.h2
      have h3 := hf.h3
      have HF := Lib.hid hf
      clear hf
      by_cases hlt : i < j
      · obtain ⟨h, hh⟩ : ∃ h, h = (i + j) / 2 := ⟨_, rfl⟩
        have hih : i ≤ h := by omega
        have hhj : h < j := by omega
        have hws : IntKind.i64.wrap ((i : Int) + (j : Int)) = (i : Int) + (j : Int) := IntWalk.i64_in _ ⟨by omega, by omega⟩
        have hwu : IntKind.u64.wrap ((i : Int) + (j : Int)) = (i : Int) + (j : Int) := IntWalk.u64_in _ ⟨by omega, by omega⟩
        have hsh : ((i : Int) + (j : Int)) / 2 = (h : Int) := by omega
        have hwh : IntKind.i64.wrap (h : Int) = (h : Int) := IntWalk.i64_in _ ⟨by omega, by omega⟩
        have hwh2 : IntKind.u64.wrap (h : Int) = (h : Int) := IntWalk.u64_in _ ⟨by omega, by omega⟩
        clear hh
        obtain ⟨x, hx⟩ : ∃ x, x = p - h := ⟨_, rfl⟩
        have hwx : IntKind.i64.wrap ((p : Int) - (h : Int)) = (x : Int) := by rw [IntWalk.i64_in _ ⟨by omega, by omega⟩]; omega
        have hzx : (p : Int) - (h : Int) = (x : Int) := by omega
        have HCj := Lib.hid (fun q => HC.out (wr.drewN q) (G (x)) (G (h)) ⟨d, by rw [Hwr.out]; exact ((Rn.start HR.out).drewN q0).drewN q⟩ (by rw [HG.out]; exact (Hel.out _ (by omega) (by omega)).1) (by rw [HG.out]; exact (Hel.out _ (by omega) (by omega)).2) (by rw [HG.out]; exact (Hel.out _ (by omega) (by omega)).1) (by rw [HG.out]; exact (Hel.out _ (by omega) (by omega)).2))
        have HKey := Lib.hid (show keyS s (G (x)) - keyS s (G (h)) < 0 ↔ rho (keyS s) d[x]! < rho (keyS s) d[h]! from by
          rw [HG.out, HG.out]
          obtain ⟨k1, k2, k3, k4, k5⟩ := Hst.out (h) (x) (by omega) (by omega) (by omega) (by omega)
          rw [← key_iff (keyS s) k1 k2 k3 k4 k5]
          omega)
        obtain ⟨X, hX⟩ : ∃ X, X = keyS s (G (x)) - keyS s (G (h)) := ⟨_, rfl⟩
        rw [← hX] at HCj HKey
        have hc1 : wr.cell? ⟨blk, off + x, none⟩ = some (.int .i64 (G (x))) := by rw [Hwr.out]; exact Hcw.out (x) (by omega)
        have hc2 : wr.cell? ⟨blk, off + h, none⟩ = some (.int .i64 (G (h))) := by rw [Hwr.out]; exact Hcw.out (h) (by omega)
        have hxN : x < N := by omega
        have hyN : h < N := by omega
        clear hX
        rw [hx] at HKey
        have HX := Lib.hid hx
        clear hx
        by_cases hX0 : X < 0
        · have hk := HKey.out.1 hX0
          have HNx := Lib.hid (fnd_yes HF.out Hl.out Hr.out hS0a hR0m hih hhj hpm hpb hk)
          have hXd : decide (X < 0) = true := decide_eq_true hX0
          clear hk
          go_wp2_with fail
          go_quiet ((go_at_call 83; exact Calls.quiet_of (HCj.out _)))
          go_wp2_with fail
          go_roundw
          case rel => exact ⟨i, h, rfl, rfl, HNx.out, _, by rw [Hwr.out]; exact World.drewN_drewN _ _ _⟩
          case measure => simp [intOf] <;> omega
        · have hk : ¬ rho (keyS s) d[p - h]! < rho (keyS s) d[h]! := fun g => hX0 (HKey.out.2 g)
          have HNx := Lib.hid (fnd_no HF.out Hl.out Hr.out hS0a hR0m hih hhj hpm hpb hk)
          have hXd : decide (X < 0) = false := decide_eq_false hX0
          clear hk
          go_wp2_with fail
          go_quiet ((go_at_call 83; exact Calls.quiet_of (HCj.out _)))
          go_wp2_with fail
          go_roundw
          case rel => exact ⟨h + 1, j, by go_num, rfl, HNx.out, _, by rw [Hwr.out]; exact World.drewN_drewN _ _ _⟩
          case measure => simp [intOf] <;> omega
      · obtain rfl : i = j := by omega
        have hcut := fnd_cut HF.out Hl.out Hr.out ham hmb HMid.out hpp HS.out
        obtain ⟨st, hst⟩ : ∃ st, st = i := ⟨_, rfl⟩
        obtain ⟨stop, hstop⟩ : ∃ stop, stop = mid + m - i := ⟨_, rfl⟩
        rw [← hstop, ← hst] at hcut
        have c1 := hcut.h1
        have c2 := hcut.h2
        have c3 := hcut.h3
        have c4 := hcut.h4
        have c5 := hcut.h5
        have hzs : (n : Int) - (i : Int) = (stop : Int) := by have := Hn.out; omega
        have hws : IntKind.i64.wrap ((n : Int) - (i : Int)) = (stop : Int) := by rw [IntWalk.i64_in _ ⟨by have := Hn.out; omega, by have := Hn.out; omega⟩]; exact hzs
        subst hst
        have HCut := Lib.hid hcut
        have HW0 := Lib.hid (show Rn w0 blk off d wr from by rw [Hwr.out]; exact (Rn.start HR.out).drewN q0)
        obtain ⟨wq, hwq⟩ : ∃ wq : World, wq = wr := ⟨_, rfl⟩
        subst hwq
        clear hcut hstop hwp hzp h1 h2 h3 HF
        obtain ⟨c39, hc39⟩ : ∃ c : Bool, c = decide (st < m ∧ m < stop) := ⟨_, rfl⟩
        go_upto_region 39 with fail
        go_cut [185] (fun v wx => v = .bool c39 ∧ wx = wq)
        case first =>
          by_cases q2 : st < m
          · have hq1 : (st : Int) < (m : Int) := by omega
            by_cases q3 : m < stop
            · have hq2 : (m : Int) < (stop : Int) := by omega
              rw [decide_eq_true ⟨q2, q3⟩] at hc39
              go_wp2_with fail
              go_meet
              exact ⟨by rw [hc39], rfl⟩
            · have hq2 : ¬ ((m : Int) < (stop : Int)) := by omega
              rw [decide_eq_false (fun g => q3 g.2)] at hc39
              go_wp2_with fail
              go_meet
              exact ⟨by rw [hc39], rfl⟩
          · have hq1 : ¬ ((st : Int) < (m : Int)) := by omega
            rw [decide_eq_false (fun g => q2 g.1)] at hc39
            go_wp2_with fail
            go_meet
            exact ⟨by rw [hc39], rfl⟩
        case rest =>
          obtain ⟨rfl, hwx⟩ := hcut
          subst hwx
          obtain ⟨wq, hwq⟩ : ∃ wq : World, wq = wc := ⟨_, rfl⟩
          subst hwq
          go_upto_if 185 with fail
          go_cut [] (fun wx => ∃ d1, Rn w0 blk off d1 wx ∧ PermIn a b d d1 ∧ ∀ t, t < N → d1[t]! = rotF st (m - st) (stop - m) (fun t => d[t]!) t)
          case first =>
            by_cases q1 : st < m ∧ m < stop
            · rw [decide_eq_true q1] at hc39
              subst hc39
              have hro := rotate_n (.func (.func 83) #[] #[.pointer (some ⟨g, 0, none⟩)]) blk off cap st m stop d wq (Rn.row HR.out HW0.out rfl) q1.1 q1.2 (by rw [← HN.out]; omega)
              rw [← HN.out] at hro
              have HRo := Lib.hid hro
              clear hro
              go_wp2_with fail
              refine HRo.out.mono ?_
              rintro e w' ⟨rfl, d1, g1, g2, g3⟩
              have G1 := Lib.hid g1
              have G2 := Lib.hid g2
              have G3 := Lib.hid g3
              clear g1 g2 g3
              go_wp2_with fail
              go_meet
              case rel => exact ⟨d1, Rn.trans HR.out HW0.out G1.out G2.out.1, permIn_mono _ _ _ _ _ _ c1 c4 (by rw [← HN.out]; exact hb) G2.out, fun t ht => G3.out t (by rw [← HN.out]; exact ht)⟩
            · rw [decide_eq_false q1] at hc39
              subst hc39
              have HD := Lib.hid (show ∀ t, t < N → d[t]! = rotF st (m - st) (stop - m) (fun t => d[t]!) t from fun t _ => by
                by_cases e : st < m
                · rw [show stop - m = 0 by omega, rot_none]
                · rw [show m - st = 0 by omega, rot_nil])
              go_wp2_with fail
              go_meet
              case rel => exact ⟨d, HW0.out, permIn_refl _ _ _, HD.out⟩
          case rest =>
            as_aux_lemma =>
              obtain ⟨d1, hrw, hp1, hd1⟩ := hcut
              obtain ⟨s1, s2, s3, s4, s5, s6, s7⟩ := cut_rot HCut.out Hl.out Hr.out Hst.out (fun t g1 g2 => hd1 t (by omega))
              have hsz1 : d1.size = N := by rw [hp1.1]; exact HN.out.symm
              have hel1 : ∀ t, a ≤ t → t < b → 0 ≤ d1[t]! ∧ d1[t]! < (s.size : Int) := permIn_all d d1 a b (fun x => 0 ≤ x ∧ x < (s.size : Int)) (by rw [← HN.out]; exact hb) hp1 Hel.out
              have HW1 := Lib.hid hrw
              have HP1 := Lib.hid hp1
              have HZ1 := Lib.hid hsz1
              have HE1 := Lib.hid hel1
              have S1 := Lib.hid s1
              have S2 := Lib.hid s2
              have S3 := Lib.hid s3
              have S4 := Lib.hid s4
              have S5 := Lib.hid s5
              have S6 := Lib.hid s6
              have S7 := Lib.hid s7
              clear hrw hp1 hd1 hsz1 hel1 s1 s2 s3 s4 s5 s6 s7 HCut
              obtain ⟨w1, hw1⟩ : ∃ w1 : World, w1 = wc := ⟨_, rfl⟩
              subst hw1
              have Hc1 := Lib.hid (show w1.cell? ⟨g, 0, none⟩ = some (.string s) from by rw [HW1.out.other Hhg.out Hhgb.out]; exact Hcell.out)
              have Hg1 := Lib.hid (show g < w1.heap.size from cell_lt Hc1.out)
              obtain ⟨c41, hc41⟩ : ∃ c : Bool, c = decide (a < st ∧ st < mid) := ⟨_, rfl⟩
              go_upto_region 41 with fail
              go_cut [199] (fun v wx => v = .bool c41 ∧ wx = w1)
              case first =>
                by_cases q2 : a < st
                · have hq1 : (a : Int) < (st : Int) := by omega
                  by_cases q3 : st < mid
                  · have hq2 : (st : Int) < (mid : Int) := by omega
                    rw [decide_eq_true ⟨q2, q3⟩] at hc41
                    go_wp2_with fail
                    go_meet
                    exact ⟨by rw [hc41], rfl⟩
                  · have hq2 : ¬ ((st : Int) < (mid : Int)) := by omega
                    rw [decide_eq_false (fun g => q3 g.2)] at hc41
                    go_wp2_with fail
                    go_meet
                    exact ⟨by rw [hc41], rfl⟩
                · have hq1 : ¬ ((a : Int) < (st : Int)) := by omega
                  rw [decide_eq_false (fun g => q2 g.1)] at hc41
                  go_wp2_with fail
                  go_meet
                  exact ⟨by rw [hc41], rfl⟩
              case rest =>
                obtain ⟨rfl, hwx⟩ := hcut
                subst hwx
                obtain ⟨w1, hw1⟩ : ∃ wq : World, wq = wc := ⟨_, rfl⟩
                subst hw1
                go_upto_if 199 with fail
                go_cut [] (fun wx => ∃ d2, Rn w0 blk off d2 wx ∧ Mrg (keyS s) a mid d1 d2)
                case first =>
                  by_cases q1 : a < st ∧ st < mid
                  · rw [decide_eq_true q1] at hc41
                    subst hc41
                    have hs := HIH.out s g blk off cap a st mid d1 w1 (Rn.row HR.out HW1.out (by rw [HZ1.out]; exact HN.out)) Hg1.out Hhgb.out Hc1.out (by rw [HZ1.out]; exact hmidN) S1.out S2.out S5.out (fun t g1 g2 => HE1.out t g1 (by omega)) q1.1 q1.2 (by omega)
                    rw [HZ1.out] at hs
                    have HSy := Lib.hid hs
                    clear hs
                    go_wp2_with fail
                    refine HSy.out.mono ?_
                    rintro e w' ⟨rfl, d2, g1, g2⟩
                    have G1 := Lib.hid g1
                    have G2 := Lib.hid g2
                    clear g1 g2
                    go_wp2_with fail
                    go_meet
                    case rel => exact ⟨d2, Rn.trans HR.out HW1.out G1.out G2.out.1.1, G2.out⟩
                  · rw [decide_eq_false q1] at hc41
                    subst hc41
                    have HD := Lib.hid (show Mrg (keyS s) a mid d1 d1 from mrg_refl (srt_one S1.out S2.out (by omega)))
                    go_wp2_with fail
                    go_meet
                    case rel => exact ⟨d1, HW1.out, HD.out⟩
                case rest =>
                  as_aux_lemma =>
                    obtain ⟨d2, hrw, hm2⟩ := hcut
                    have hsz2 : d2.size = N := by rw [hm2.1.1]; exact HZ1.out
                    have T3 := Lib.hid (show Srt (keyS s) mid stop d2 from srt_out S3.out hm2.1 (Or.inr (Nat.le_refl _)))
                    have T4 := Lib.hid (show Srt (keyS s) stop b d2 from srt_out S4.out hm2.1 (Or.inr (by omega)))
                    have T6 := Lib.hid (show Stb (keyS s) mid stop b d2 from fun i j g1 g2 g3 g4 => by rw [hm2.1.2.1 i (by omega), hm2.1.2.1 j (by omega)]; exact S6.out i j g1 g2 g3 g4)
                    have HE2 := Lib.hid (show ∀ t, mid ≤ t → t < b → 0 ≤ d2[t]! ∧ d2[t]! < (s.size : Int) from fun t g1 g2 => by rw [hm2.1.2.1 t (by omega)]; exact HE1.out t (by omega) g2)
                    have HW2 := Lib.hid hrw
                    have HM2 := Lib.hid hm2
                    have HZ2 := Lib.hid hsz2
                    clear hrw hm2 hsz2
                    obtain ⟨w2, hw2⟩ : ∃ w2 : World, w2 = wc := ⟨_, rfl⟩
                    subst hw2
                    have Hc2 := Lib.hid (show w2.cell? ⟨g, 0, none⟩ = some (.string s) from by rw [HW2.out.other Hhg.out Hhgb.out]; exact Hcell.out)
                    have Hg2 := Lib.hid (show g < w2.heap.size from cell_lt Hc2.out)
                    have HFin := Lib.hid (show ∀ d3, Mrg (keyS s) mid b d2 d3 → Mrg (keyS s) a b d d3 from fun d3 h3 => by
                      have h := srt_join (by rw [HZ1.out]; exact hb) (by omega) (by omega) S7.out HM2.out h3
                      exact ⟨permIn_trans _ _ _ _ _ HP1.out h.1, h.2⟩)
                    obtain ⟨c43, hc43⟩ : ∃ c : Bool, c = decide (mid < stop ∧ stop < b) := ⟨_, rfl⟩
                    go_upto_region 43 with fail
                    go_cut [213] (fun v wx => v = .bool c43 ∧ wx = w2)
                    case first =>
                      by_cases q2 : mid < stop
                      · have hq1 : (mid : Int) < (stop : Int) := by omega
                        by_cases q3 : stop < b
                        · have hq2 : (stop : Int) < (b : Int) := by omega
                          rw [decide_eq_true ⟨q2, q3⟩] at hc43
                          go_wp2_with fail
                          go_meet
                          exact ⟨by rw [hc43], rfl⟩
                        · have hq2 : ¬ ((stop : Int) < (b : Int)) := by omega
                          rw [decide_eq_false (fun g => q3 g.2)] at hc43
                          go_wp2_with fail
                          go_meet
                          exact ⟨by rw [hc43], rfl⟩
                      · have hq1 : ¬ ((mid : Int) < (stop : Int)) := by omega
                        rw [decide_eq_false (fun g => q2 g.1)] at hc43
                        go_wp2_with fail
                        go_meet
                        exact ⟨by rw [hc43], rfl⟩
                    case rest =>
                      obtain ⟨rfl, hwx⟩ := hcut
                      subst hwx
                      obtain ⟨w2, hw2⟩ : ∃ wq : World, wq = wc := ⟨_, rfl⟩
                      subst hw2
                      by_cases q1 : mid < stop ∧ stop < b
                      · rw [decide_eq_true q1] at hc43
                        subst hc43
                        have hs := HIH.out s g blk off cap mid stop b d2 w2 (Rn.row HR.out HW2.out (by rw [HZ2.out]; exact HN.out)) Hg2.out Hhgb.out Hc2.out (by rw [HZ2.out]; exact hb) T3.out T4.out T6.out HE2.out q1.1 q1.2 (by omega)
                        rw [HZ2.out] at hs
                        have HSy := Lib.hid hs
                        clear hs
                        go_wp2_with fail
                        refine HSy.out.mono ?_
                        rintro e w' ⟨rfl, d3, g1, g2⟩
                        have G1 := Lib.hid g1
                        have G2 := Lib.hid g2
                        clear g1 g2
                        go_wp2_with fail
                        first | go_end0 | ((try simp only [Exit.inBlock, Exit.then]); refine bodyPost_ret (results_none rfl _ _ _) rfl ?_)
                        exact ⟨rfl, d3, Rn.trans HR.out HW2.out G1.out G2.out.1.1, HFin.out d3 G2.out⟩
                      · rw [decide_eq_false q1] at hc43
                        subst hc43
                        have HD := Lib.hid (show Mrg (keyS s) mid b d2 d2 from mrg_refl (srt_one T3.out T4.out (by omega)))
                        go_wp2_with fail
                        first | go_end0 | ((try simp only [Exit.inBlock, Exit.then]); refine bodyPost_ret (results_none rfl _ _ _) rfl ?_)
                        exact ⟨rfl, d2, HW2.out, HFin.out d2 HD.out⟩
#print axioms sym_mid
end Go.Proofs.Ytbnlkmblkokooaa

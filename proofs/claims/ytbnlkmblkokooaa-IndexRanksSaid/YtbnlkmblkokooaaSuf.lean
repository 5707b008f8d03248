/- Rank and suffix of an index that New made. -/
import Derived.Test.YtbnlkmblkokooaaCnt
namespace Go.Proofs.Ytbnlkmblkokooaa
open Go.RowKit
theorem rank_yes {B : Nat} {l : Bs} {v : Value} (hl : Lab l) (w : World) (hm : Made B w v l) (c : UInt8) (i : Nat) (hi : i ≤ l.length + 1) :
    Calls Try.prog 37 #[v, .int .u8 c.toNat, .int .i64 i] w (CntPost (cnt c ((tr l).take i)) 0 w) := by
  have HY := Lib.hid hm.yes
  obtain ⟨g, tv, rfl, hB, hix, hnd⟩ := hm
  obtain ⟨hc0, hc1, hc2⟩ := hix.head
  have hlen := tr_length l
  have h200 := hl.1
  have HR := Lib.hid (fun q => rank_any B _ (tr l) tv c i (w.drewN q) (hnd.draw q) (over_lets _) (by omega) (by omega))
  obtain ⟨n, hn⟩ : ∃ n, n = l.length + 1 := ⟨_, rfl⟩
  obtain ⟨R, hR⟩ : ∃ R, R = cnt c ((tr l).take i) := ⟨_, rfl⟩
  obtain ⟨x, hx⟩ : ∃ x, x = c.toNat := ⟨_, rfl⟩
  rw [← hn] at hc2
  rw [← hR, ← hx] at HR
  rw [← hR, ← hx]
  have hin : (i : Int) ≤ n := by omega
  have hn1 : n ≤ 201 := by omega
  clear hR hlen h200 hix hnd hx hl hn hi
  go_enter Try.func37, Try.ntmps37
  go_wp2_with fail
  refine HY.out.mono ?_
  rintro e w1 ⟨rfl, rfl⟩
  go_wp2_with fail
  refine (HR.out 0).mono ?_
  rintro e w1 ⟨rfl, q, rfl⟩
  go_wp2_with fail
  go_ret2
  exact ⟨rfl, q, rfl⟩
#print axioms rank_yes
theorem rank_arg {B : Nat} {l : Bs} {v : Value} (w : World) (hm : Made B w v l) (c : Int) (i : Int) (hi : i < 0 ∨ (l.length : Int) + 1 < i) :
    Calls Try.prog 37 #[v, .int .u8 c, .int .i64 i] w (CntPost 0 2 w) := by
  have HY := Lib.hid hm.yes
  obtain ⟨g, tv, rfl, hB, hix, hnd⟩ := hm
  obtain ⟨hc0, hc1, hc2⟩ := hix.head
  obtain ⟨n, hn⟩ : ∃ n, n = l.length + 1 := ⟨_, rfl⟩
  rw [← hn] at hc2
  have hi2 : i < 0 ∨ (0 ≤ i ∧ (n : Int) < i) := by omega
  clear hi hn hix hnd
  rcases hi2 with hi2 | ⟨hi1, hi2⟩
  · go_enter Try.func37, Try.ntmps37
    go_wp2_with fail
    refine HY.out.mono ?_
    rintro e w1 ⟨rfl, rfl⟩
    go_wp2_with fail
    go_ret2
    exact ⟨rfl, 0, rfl⟩
  · go_enter Try.func37, Try.ntmps37
    go_wp2_with fail
    refine HY.out.mono ?_
    rintro e w1 ⟨rfl, rfl⟩
    go_wp2_with fail
    go_ret2
    exact ⟨rfl, 0, rfl⟩
#print axioms rank_arg
/-- steps lead back from a place to the beginning of the label -/
theorem suffix_any {B : Nat} {l : Bs} {v : Value} (hl : Lab l) (w : World) (hm : Made B w v l) (k : Nat) (hk : k ≤ l.length) :
    Calls Try.prog 66 #[v, .int .i64 k] w fun e w' => e = .returned (.int .i64 (saAt l k : Nat)) ∧ ∃ q, w' = w.drewN q := by
  have HB := Lib.hid (fun q (p : Nat) (hp : p ≤ l.length) => back_any hl (w.drewN q) (hm.draw q) p hp)
  have hgt : ∀ c ∈ l, 10 < c := fun c hc => letter_gt (hl.2 c hc)
  have HT := Lib.hid (show ∀ p, (tc l p).toNat = 10 ↔ saAt l p = 0 from fun p => by
    rw [← tc_end hgt]
    constructor
    · intro h; exact UInt8.toNat_inj.1 h
    · intro h; rw [h]; rfl)
  have HS := Lib.hid (fun p (hp : p ≤ l.length) (h0 : saAt l p ≠ 0) => back_step hgt hp h0)
  have HL := Lib.hid (saAt_le l)
  obtain ⟨g, tv, rfl, hB, hix, hnd⟩ := hm
  obtain ⟨hc0, hc1, hc2⟩ := hix.head
  have h200 := hl.1
  obtain ⟨n, hn⟩ : ∃ n, n = l.length := ⟨_, rfl⟩
  rw [← hn] at hc2 HB HS hk HL
  have hn1 : n ≤ 200 := by omega
  obtain ⟨m, hm⟩ : ∃ m, m = saAt l k := ⟨_, rfl⟩
  have hmn : m ≤ n := by rw [hm]; exact HL.out k
  have HM := Lib.hid hm
  rw [← hm]
  clear hix hnd hl hgt hn h200 hm
  go_enter Try.func66, Try.ntmps66
  go_wp2_with fail
  go_loopw [1, 12] (fun vp vs wr => ∃ p s : Nat, vp = .int .i64 p ∧ vs = .int .i64 s ∧ p ≤ n ∧ s + saAt l p = m ∧ ∃ d, wr = w.drewN d) (fun _ vs _ => n + 1 - (intOf vs).toNat)
  case atStart => exact ⟨k, 0, rfl, rfl, hk, by rw [HM.out, Nat.zero_add], 0, rfl⟩
  case round =>
    obtain ⟨p, s, rfl, rfl, hp, hs, d, rfl⟩ := hrel
    have HBp := HB.out d p hp
    have hT := HT.out p
    have hS := HS.out p hp
    obtain ⟨x, hx⟩ : ∃ x, x = (tc l p).toNat := ⟨_, rfl⟩
    obtain ⟨y, hy⟩ : ∃ y, y = bel l (tc l p) + rk l (tc l p) p := ⟨_, rfl⟩
    obtain ⟨j, hj⟩ : ∃ j, j = saAt l p := ⟨_, rfl⟩
    rw [← hx, ← hy] at HBp
    rw [← hy] at hS
    rw [← hx] at hT
    rw [← hj] at hs hT hS
    have HBq := Lib.hid HBp
    have hsn : s < n + 1 := by omega
    clear HBp hx hy hj
    by_cases h0 : j = 0
    · have hx10 : x = 10 := hT.2 h0
      have hsm : s = m := by omega
      subst hx10
      subst hsm
      clear hT hS
      go_wp2_with fail
      refine HBq.out.mono ?_
      rintro e w1 ⟨rfl, q, rfl⟩
      go_wp2_with fail
      go_ret
      exact ⟨rfl, d + q, rfl⟩
    · have hx10 : (x : Int) ≠ 10 := fun h => h0 (hT.1 (by omega))
      have hS2 := Lib.hid (hS h0)
      clear hT hS
      go_wp2_with fail
      refine HBq.out.mono ?_
      rintro e w1 ⟨rfl, q, rfl⟩
      go_wp2_with fail
      go_roundw
      case rel => exact ⟨y, s + 1, rfl, by go_num, hS2.out.2, by rw [hS2.out.1]; omega, d + q, rfl⟩
      case measure => simp [intOf] <;> omega
#print axioms suffix_any
end Go.Proofs.Ytbnlkmblkokooaa

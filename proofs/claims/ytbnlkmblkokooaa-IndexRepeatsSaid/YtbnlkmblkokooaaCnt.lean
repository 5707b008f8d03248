/- Count and Rank of an index that New made. -/
import Derived.Test.YtbnlkmblkokooaaFm
namespace Go.Proofs.Ytbnlkmblkokooaa
open Go.RowKit
theorem Made.yes {B : Nat} {w : World} {v : Value} {l : Bs} (h : Made B w v l) : Calls Try.prog 64 #[v] w fun e w' => e = .returned (.bool true) ∧ w = w' := by
  obtain ⟨g, tv, rfl, _, hix, _⟩ := h
  exact made_yes g w hix.head.1
/-- what Count returns -/
def CntPost (n c : Nat) (w : World) (e : Ending) (w' : World) : Prop := e = .returned (.tuple #[.int .i64 n, .int .i64 c]) ∧ ∃ q, w' = w.drewN q
theorem count_yes {B : Nat} {l : Bs} {v : Value} {p : ByteArray} (hl : Lab l) (hp : Lab (bs p)) (w : World) (hm : Made B w v l) :
    Calls Try.prog 34 #[v, .string p] w (CntPost (occ' l (bs p)).length 0 w) := by
  have hps := lab_size hp
  have HY := Lib.hid hm.yes
  have HL := Lib.hid (isLabel_b p (by omega) true (decide_eq_true hp))
  have HP := Lib.hid (fun q => places_any hl hp (w.drewN q) (hm.draw q))
  have ho := occ_length l (bs p)
  have hh := hi_le l (bs p)
  obtain ⟨a, ha⟩ : ∃ a, a = lo l (bs p) := ⟨_, rfl⟩
  obtain ⟨b, hb⟩ : ∃ b, b = hi l (bs p) := ⟨_, rfl⟩
  obtain ⟨n, hn⟩ : ∃ n, n = (occ' l (bs p)).length := ⟨_, rfl⟩
  have h200 := hl.1
  have hw : IntKind.i64.wrap ((b : Int) - (a : Int)) = (n : Int) := by rw [IntWalk.i64_in _ ⟨by omega, by omega⟩]; omega
  unfold PlPost at HP
  rw [← ha, ← hb] at HP
  rw [← hn]
  clear hm ha hb hn ho hh h200 hps
  go_enter Try.func34, Try.ntmps34
  go_wp2_with fail
  refine HY.out.mono ?_
  rintro e w1 ⟨rfl, rfl⟩
  go_wp2_with fail
  refine (HL.out _).mono ?_
  rintro e w2 ⟨rfl, rfl⟩
  go_wp2_with fail
  refine (HP.out 0).mono ?_
  rintro e w3 ⟨rfl, q2, rfl⟩
  go_wp2_with fail
  go_ret2
  exact ⟨rfl, q2, rfl⟩
#print axioms count_yes
theorem count_arg {B : Nat} {l : Bs} {v : Value} {p : ByteArray} (hp : ¬ Lab (bs p)) (hps : p.size ≤ 1000) (w : World) (hm : Made B w v l) :
    Calls Try.prog 34 #[v, .string p] w (CntPost 0 2 w) := by
  have HY := Lib.hid hm.yes
  have HL := Lib.hid (isLabel_b p (by omega) false (decide_eq_false hp))
  clear hm hp hps
  go_enter Try.func34, Try.ntmps34
  go_wp2_with fail
  refine HY.out.mono ?_
  rintro e w1 ⟨rfl, rfl⟩
  go_wp2_with fail
  refine (HL.out _).mono ?_
  rintro e w2 ⟨rfl, rfl⟩
  go_wp2_with fail
  go_ret2
  exact ⟨rfl, 0, rfl⟩
#print axioms count_arg
theorem locate_arg {B : Nat} {l : Bs} {v : Value} {p : ByteArray} (hp : ¬ Lab (bs p)) (hps : p.size ≤ 1000) (w : World) (hm : Made B w v l) :
    Calls Try.prog 35 #[v, .string p] w fun e w' => e = .returned (.tuple #[.slice none 0 0, .int .i64 2]) ∧ ∃ q, w' = w.drewN q := by
  have HY := Lib.hid hm.yes
  have HL := Lib.hid (isLabel_b p (by omega) false (decide_eq_false hp))
  clear hm hp hps
  go_enter Try.func35, Try.ntmps35
  go_wp2_with fail
  refine HY.out.mono ?_
  rintro e w1 ⟨rfl, rfl⟩
  go_wp2_with fail
  refine (HL.out _).mono ?_
  rintro e w2 ⟨rfl, rfl⟩
  go_wp2_with fail
  go_ret2
  exact ⟨rfl, 0, rfl⟩
#print axioms locate_arg
/-- back: the byte before the suffix at a place, and the place of the longer suffix -/
theorem back_any {B : Nat} {l : Bs} {v : Value} (hl : Lab l) (w : World) (hm : Made B w v l) (k : Nat) (hk : k ≤ l.length) :
    Calls Try.prog 68 #[v, .int .i64 k] w fun e w' => e = .returned (.tuple #[.int .u8 (tc l k).toNat, .int .i64 (bel l (tc l k) + rk l (tc l k) k : Nat)]) ∧ ∃ q, w' = w.drewN q := by
  obtain ⟨g, tv, rfl, hB, hix, hnd⟩ := hm
  obtain ⟨hc0, hc1, hc2⟩ := hix.head
  have hlen := tr_length l
  have h200 := hl.1
  obtain ⟨c, hc⟩ : ∃ c, c = tc l k := ⟨_, rfl⟩
  have hget : (tr l)[k]? = some c := by rw [hc]; unfold tr; rw [List.getElem?_map, List.getElem?_range (by omega)]; rfl
  have HA := Lib.hid (fun q => at_any B _ (tr l) tv c k (w.drewN q) (hnd.draw q) (over_lets _) hget (by omega))
  have HR := Lib.hid (fun q => rank_any B _ (tr l) tv c k (w.drewN q) (hnd.draw q) (over_lets _) (by omega) (by omega))
  obtain ⟨F, hF⟩ : ∃ F, F = bel l c := ⟨_, rfl⟩
  obtain ⟨R, hR⟩ : ∃ R, R = rk l c k := ⟨_, rfl⟩
  have hFl : F ≤ 201 := by
    rw [hF, bel_eq]
    have := belN_le (tr l) c.toNat
    omega
  have hRl : R ≤ 201 := by
    rw [hR, rk_eq l c (by omega)]
    have : cnt c ((tr l).take k) ≤ ((tr l).take k).length := List.countP_le_length
    rw [List.length_take] at this
    omega
  rw [← rk_eq l c (by omega), ← hR] at HR
  obtain ⟨x, hx⟩ : ∃ x, x = c.toNat := ⟨_, rfl⟩
  have hcF : w.cell? ⟨g, 3 + x, none⟩ = some (.int .i64 (F : Nat)) := by rw [hF, bel_eq, hx]; exact hix.cell c.toNat_lt
  have hxl : x < 256 := by rw [hx]; exact c.toNat_lt
  have hxz : (x : Int) < 256 := by omega
  have hs : IntKind.i64.wrap ((F : Int) + (R : Int)) = ((F + R : Nat) : Int) := by rw [IntWalk.i64_in _ ⟨by omega, by omega⟩]; omega
  rw [← hc, ← hF, ← hR]
  rw [← hx] at HA HR ⊢
  clear hget hc hF hR hlen h200 hix hnd hx hl
  go_enter Try.func68, Try.ntmps68
  go_wp2_with fail
  refine (HA.out 0).mono ?_
  rintro e w1 ⟨rfl, q, rfl⟩
  obtain ⟨w5, hw5⟩ : ∃ w5, w5 = (w.drewN 0).drewN q := ⟨_, rfl⟩
  have hcF5 : w5.cell? ⟨g, 3 + x, none⟩ = some (.int .i64 (F : Nat)) := by rw [hw5]; exact hcF
  have hc15 : w5.cell? ⟨g, 1, none⟩ = w.cell? ⟨g, 1, none⟩ := by rw [hw5]; rfl
  rw [hc1] at hc15
  have HR3 := Lib.hid (fun q' => by have := HR.out (0 + (q + q')); rw [← World.drewN_drewN, ← World.drewN_drewN, ← hw5] at this; exact this)
  have HW5 := Lib.hid hw5
  rw [← hw5]
  clear hw5 HR
  go_wp2_with fail
  go_quiet ((go_at_call 67; exact Calls.quiet_of (HR3.out _)))
  go_wp2_with fail
  go_ret2
  exact ⟨rfl, 0 + q + nq, by rw [HW5.out, World.drewN_drewN, World.drewN_drewN, Nat.add_assoc]⟩
#print axioms back_any
end Go.Proofs.Ytbnlkmblkokooaa

/- Snapshots in a block; contracts of overlap and misses. -/
import Derived.Test.YtpehbffkplmfjaaOwn
import Derived.BigQuiet
namespace Go.Proofs.Ytpehbffkplmfjaa
open Go.RowKit
/-- the cells of snapshots: lives, the sets of what is written, of what is read from others, the committed transactions -/
def snF (h : List NOp) (W F : Nat → Nat) (v : Value) (j : Nat) : Value :=
  if j < 21 then lvF h h.length j else if j < 28 then .int .i64 (W (j - 21) : Nat) else if j < 35 then .int .i64 (F (j - 28) : Nat) else v
def SnB (w : World) (b : Nat) (h : List NOp) (W F : Nat → Nat) (v : Value) : Prop := Blk w b 97 36 (snF h W F v)
theorem SnB.life {w : World} {b : Nat} {h : List NOp} {W F : Nat → Nat} {v : Value} (s : SnB w b h W F v) {j : Nat} (hj : j < 21) : w.cell? ⟨b, j, none⟩ = some (.int .i64 (lv h h.length j : Nat)) := by
  rw [Blk.at s (show j < 36 by omega)]
  unfold snF
  rw [if_pos hj]; rfl
theorem SnB.wr {w : World} {b : Nat} {h : List NOp} {W F : Nat → Nat} {v : Value} (s : SnB w b h W F v) {t : Nat} (ht : t < 7) : w.cell? ⟨b, 21 + t, none⟩ = some (.int .i64 (W t : Nat)) := by
  rw [Blk.at s (show 21 + t < 36 by omega)]
  unfold snF
  rw [if_neg (by omega), if_pos (by omega), show 21 + t - 21 = t by omega]
theorem SnB.fo {w : World} {b : Nat} {h : List NOp} {W F : Nat → Nat} {v : Value} (s : SnB w b h W F v) {t : Nat} (ht : t < 7) : w.cell? ⟨b, 28 + t, none⟩ = some (.int .i64 (F t : Nat)) := by
  rw [Blk.at s (show 28 + t < 36 by omega)]
  unfold snF
  rw [if_neg (by omega), if_neg (by omega), if_pos (by omega), show 28 + t - 28 = t by omega]
theorem SnB.li {w : World} {b : Nat} {h : List NOp} {W F : Nat → Nat} {v : Value} (s : SnB w b h W F v) : w.cell? ⟨b, 35, none⟩ = some v := by
  rw [Blk.at s (show 35 < 36 by omega)]; rfl
theorem SnB.drewN {w : World} {b : Nat} {h : List NOp} {W F : Nat → Nat} {v : Value} (s : SnB w b h W F v) (q : Nat) : SnB (w.drewN q) b h W F v := s
/-- two committed transactions overlap -/
def Ovl (h : List NOp) (a c : Nat) : Prop := lv h h.length a < lv h h.length (7 + c) ∧ lv h h.length c < lv h h.length (7 + a)
instance (h : List NOp) (a c : Nat) : Decidable (Ovl h a c) := inferInstanceAs (Decidable (_ ∧ _))
set_option maxRecDepth 100000 in
set_option maxHeartbeats 4000000 in
theorem overlap_any {w : World} {b : Nat} {h : List NOp} {W F : Nat → Nat} {v : Value} (s : SnB w b h W F v) {a c : Nat} (ha : a < 7) (hc : c < 7) (B : Bool) (hB : decide (Ovl h a c) = B) :
    Calls Try.prog 71 #[.pointer (some ⟨b, 0, none⟩), .int .i64 a, .int .i64 c] w fun e w' => e = .returned (.bool B) ∧ ∃ m, w' = w.drewN m := by
  have c1 := s.life (show a < 21 by omega)
  have c2 := s.life (show 7 + c < 21 by omega)
  have c3 := s.life (show c < 21 by omega)
  have c4 := s.life (show 7 + a < 21 by omega)
  obtain ⟨p1, h1⟩ : ∃ p, p = lv h h.length a := ⟨_, rfl⟩
  obtain ⟨p2, h2⟩ : ∃ p, p = lv h h.length (7 + c) := ⟨_, rfl⟩
  obtain ⟨p3, h3⟩ : ∃ p, p = lv h h.length c := ⟨_, rfl⟩
  obtain ⟨p4, h4⟩ : ∃ p, p = lv h h.length (7 + a) := ⟨_, rfl⟩
  have HB := Lib.hid (show decide (p1 < p2 ∧ p3 < p4) = B from by rw [← hB]; exact decide_eq_decide.2 (by rw [h1, h2, h3, h4]; exact Iff.rfl))
  rw [← h1] at c1
  rw [← h2] at c2
  rw [← h3] at c3
  rw [← h4] at c4
  have ha7 : (a : Int) < 7 := by omega
  have ha0 : (0 : Int) ≤ (a : Int) := by omega
  have hc7 : (c : Int) < 7 := by omega
  have hc0 : (0 : Int) ≤ (c : Int) := by omega
  clear h1 h2 h3 h4 hB ha hc s
  by_cases q1 : p1 < p2
  · have d1 : decide ((p1 : Int) < (p2 : Int)) = true := decide_eq_true (by omega)
    have d1' : decide (p1 < p2) = true := decide_eq_true q1
    have HR := Lib.hid (show decide (p3 < p4) = B from by
      rw [← HB.out]; exact decide_eq_decide.2 ⟨fun x => ⟨q1, x⟩, fun x => x.2⟩)
    obtain ⟨D, hD⟩ : ∃ D, D = decide (p3 < p4) := ⟨_, rfl⟩
    have d2 : decide ((p3 : Int) < (p4 : Int)) = D := by rw [hD]; exact decide_eq_decide.2 (by omega)
    have d2' : decide (p3 < p4) = D := hD.symm
    have HR2 := Lib.hid (show D = B from by rw [hD]; exact HR.out)
    clear q1 HB HR hD
    go_enter Try.func71, Try.ntmps71
    go_wp2_with fail
    go_quiet (fail)
    go_wp2_with fail
    go_ret
    exact ⟨by rw [← HR2.out]; rfl, nq, rfl⟩
  · have d1 : decide ((p1 : Int) < (p2 : Int)) = false := decide_eq_false (by omega)
    have d1' : decide (p1 < p2) = false := decide_eq_false q1
    have HR2 := Lib.hid (show false = B from by rw [← HB.out]; exact (decide_eq_false (fun x => q1 x.1)).symm)
    clear q1 HB
    go_enter Try.func71, Try.ntmps71
    go_wp2_with fail
    go_quiet (fail)
    go_wp2_with fail
    go_ret
    exact ⟨by rw [← HR2.out]; rfl, nq, rfl⟩
/-- a reads an item, but not what c wrote there -/
def Mis (h : List NOp) (W F : Nat → Nat) (a c : Nat) : Prop := F a &&& W c ≠ 0 ∧ lv h h.length a < lv h h.length (7 + c)
instance (h : List NOp) (W F : Nat → Nat) (a c : Nat) : Decidable (Mis h W F a c) := inferInstanceAs (Decidable (_ ∧ _))
set_option maxRecDepth 100000 in
set_option maxHeartbeats 4000000 in
theorem misses_any {w : World} {b : Nat} {h : List NOp} {W F : Nat → Nat} {v : Value} (s : SnB w b h W F v) {a c : Nat} (ha : a < 7) (hc : c < 7) (hF : F a < 128) (hW : W c < 128) (B : Bool) (hB : decide (Mis h W F a c) = B) :
    Calls Try.prog 72 #[.pointer (some ⟨b, 0, none⟩), .int .i64 a, .int .i64 c] w fun e w' => e = .returned (.bool B) ∧ ∃ m, w' = w.drewN m := by
  have c1 := s.fo ha
  have c2 := s.wr hc
  have c3 := s.life (show 7 + c < 21 by omega)
  have c4 := s.life (show a < 21 by omega)
  have hand := bits_and_nat (F a) (W c) (by omega) (by omega)
  obtain ⟨f, h1⟩ : ∃ p, p = F a := ⟨_, rfl⟩
  obtain ⟨g, h2⟩ : ∃ p, p = W c := ⟨_, rfl⟩
  obtain ⟨p3, h3⟩ : ∃ p, p = lv h h.length (7 + c) := ⟨_, rfl⟩
  obtain ⟨p4, h4⟩ : ∃ p, p = lv h h.length a := ⟨_, rfl⟩
  obtain ⟨z, hz⟩ : ∃ z, z = f &&& g := ⟨_, rfl⟩
  have HB := Lib.hid (show decide (z ≠ 0 ∧ p4 < p3) = B from by rw [← hB]; exact decide_eq_decide.2 (by rw [hz, h1, h2, h3, h4]; exact Iff.rfl))
  rw [← h1] at c1
  rw [← h2] at c2
  rw [← h3] at c3
  rw [← h4] at c4
  rw [← h1, ← h2, ← hz] at hand
  have ha7 : (a : Int) < 7 := by omega
  have ha0 : (0 : Int) ≤ (a : Int) := by omega
  have hc7 : (c : Int) < 7 := by omega
  have hc0 : (0 : Int) ≤ (c : Int) := by omega
  clear h1 h2 h3 h4 hB ha hc s hz hF hW
  by_cases q1 : z = 0
  · have d1 : ((z : Int) != 0) = false := by rw [bne_eq_false_iff_eq]; omega
    have HR2 := Lib.hid (show false = B from by rw [← HB.out]; exact (decide_eq_false (fun x => x.1 q1)).symm)
    clear q1 HB
    go_enter Try.func72, Try.ntmps72
    go_wp2_with fail
    go_quiet (fail)
    go_wp2_with fail
    go_ret
    exact ⟨by rw [← HR2.out]; rfl, nq, rfl⟩
  · have d1 : ((z : Int) != 0) = true := by rw [bne_iff_ne]; omega
    obtain ⟨D, hD⟩ : ∃ D, D = decide (p4 < p3) := ⟨_, rfl⟩
    have d2 : decide ((p4 : Int) < (p3 : Int)) = D := by rw [hD]; exact decide_eq_decide.2 (by omega)
    have d2' : decide (p4 < p3) = D := hD.symm
    have HR2 := Lib.hid (show D = B from by rw [hD, ← HB.out]; exact decide_eq_decide.2 ⟨fun x => ⟨q1, x⟩, fun x => x.2⟩)
    clear q1 HB hD
    go_enter Try.func72, Try.ntmps72
    go_wp2_with fail
    go_quiet (fail)
    go_wp2_with fail
    go_ret
    exact ⟨by rw [← HR2.out]; rfl, nq, rfl⟩
#print axioms misses_any
#print axioms overlap_any
end Go.Proofs.Ytpehbffkplmfjaa
